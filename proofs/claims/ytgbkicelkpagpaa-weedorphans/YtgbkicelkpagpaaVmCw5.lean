/- WeedOrphans: for every rule and every number of plots the law returns true, and the arguments read behind the call as they read before. No conditions. -/
import Derived.Test.YtgbkicelkpagpaaVmK0
import Derived.ChangeMaps5
open Go.Vm
set_option linter.unusedVariables false
namespace Go.Proofs.Ytgbkicelkpagpaa.W
open Go Go.RowKit Go.Deep Go.WideShapes Go.ChangeShapes Go.ChangeAt

section
variable {n : Nat} (hn : n < 256) (k : Int)
include hn
theorem redn_ok : callX F1 [] 27 [.i .i64 n, .i .i64 k] [] = some (.tup [.s (edS n k), .i .i64 (edE n k)], [], 0, 0) := by
  refine g27_ok (meansX_ok F1 []) rfl ?_
  unfold g27
  have d54 := callM_pure (call := callX F1 []) (h := []) (l := 0) (p := 0) (Rule_ok hn) (Nat.le_refl _) (Nat.le_refl _)
  have d63 := callM_pure (call := callX F1 []) (h := []) (l := 0) (p := 0) (rorphan_ok hn) (Nat.le_refl _) (Nat.le_refl _)
  show (bindP (callM (meansX F1 []).call ⟨[], 0, 0⟩ 54 [(.i .i64 n)]) _) = _
  simp only [meansX_call, d54, bindP_some, asB_b, forceB_eq, Bool.not_true, cond_false, ltI_eq, bindO_some]
  by_cases h1 : k < 1
  · simp only [decide_eq_true h1, cond_true, bindO_some, tupA, edS, edE, if_pos (Or.inl h1 : k < 1 ∨ _)]
    exact fin_pure rfl
  · by_cases h2 : 20 < k
    · simp only [decide_eq_false h1, decide_eq_true h2, cond_false, cond_true, bindO_some, tupA, edS, edE, if_pos (Or.inr h2 : k < 1 ∨ 20 < k), if_pos (Or.inr (Or.inl h2) : k < 1 ∨ 20 < k ∨ _)]
      exact fin_pure rfl
    · simp only [decide_eq_false h1, decide_eq_false h2, cond_false, bindO_some, d63, bindP_some, asS_s, e_x0, e_x1, asB_b, Bool.not_not]
      have h3 : ¬ (k < 1 ∨ 20 < k) := by omega
      unfold edE
      rw [if_neg h3]
      cases he : (orphT n).isEmpty with
      | true =>
        have hs : edS n k = [] := if_pos (Or.inr (Or.inr (Or.inl he)))
        simp only [cond_true, bindO_some, tupA, hs, true_or, if_true]
        exact fin_pure rfl
      | false =>
        simp only [cond_false, bindO_some, e_len, asI_i, ltI_eq, forceB_eq]
        by_cases h4 : k < ((orphT n).length : Int)
        · have hs : edS n k = [] := if_pos (Or.inr (Or.inr (Or.inr h4)))
          simp only [decide_eq_true h4, cond_true, tupA, hs, h4, or_true, if_true]
          exact fin_pure rfl
        · have hs : edS n k = orphT n := if_neg (by rw [he]; simp only [Bool.false_eq_true, false_or]; omega)
          simp only [decide_eq_false h4, cond_false, tupA, hs, h4, Bool.false_eq_true, or_false, if_false]
          exact fin_pure rfl
theorem rnto_ok : callX F1 [] 29 [.i .i64 n] [] = some (.tup [.b (orphT n).isEmpty, .i .i64 0], [], 0, 0) := by
  refine g29_ok (meansX_ok F1 []) rfl ?_
  unfold g29
  have d54 := callM_pure (call := callX F1 []) (h := []) (l := 0) (p := 0) (Rule_ok hn) (Nat.le_refl _) (Nat.le_refl _)
  have d63 := callM_pure (call := callX F1 []) (h := []) (l := 0) (p := 0) (rorphan_ok hn) (Nat.le_refl _) (Nat.le_refl _)
  show (bindP (callM (meansX F1 []).call ⟨[], 0, 0⟩ 54 [(.i .i64 n)]) _) = _
  simp only [meansX_call, d54, d63, bindP_some, e_x0, e_x1, bindO_some, asS_s, asB_b, forceB_eq, Bool.not_true, Bool.not_not, cond_false, tupA]
  exact fin_pure rfl
end

/-- what is known of the calls of the law -/
noncomputable def K5 : Caller := fun f a h =>
  if f = 26 ∨ f = 28 ∨ f = 15 then callX F5 [] f a h else if f = 27 ∨ f = 29 then callX F1 [] f a h else none
noncomputable abbrev FX5 : Tab := ⟨F, K5⟩
theorem x5 {f : Nat} {a : List AVal} {h : Heap} {r : AVal × Heap × Nat × Nat} (hf : f = 26 ∨ f = 28 ∨ f = 15) (e : callX F5 [] f a h = some r) : callX FX5 [] f a h = some r := callX_ov (by show K5 f a h = _; unfold K5; rw [if_pos hf]; exact e)
theorem x1 {f : Nat} {a : List AVal} {h : Heap} {r : AVal × Heap × Nat × Nat} (hf : f = 27 ∨ f = 29) (e : callX F1 [] f a h = some r) : callX FX5 [] f a h = some r := callX_ov (by show K5 f a h = _; unfold K5; rw [if_neg (by omega), if_pos hf]; exact e)
theorem call_ofX (alive : callX ⟨F, noCall⟩ [] 15 [] [] = some (.b true, [], 0, 0)) {W : World} (hE : (Env.mk Try.prog W.heap.size W [] []).Ok) {K : Nat} {vs : List AVal} {args : Array Value}
    (hv : LR [] [] vs args) {h' : Heap} {lw lp : Nat} (hc : callX FX5 [] K vs [] = some (.b true, h', lw, lp)) : Calls Try.prog K args W fun e W' => e = .returned (.bool true) ∧ RowKit.Below W.heap.size W W' := by
  have hm : (Env.mk Try.prog W.heap.size W [] []).P.follows .mixedOrders = true := Try.checked.mixed
  have hO : CallOk (Env.mk Try.prog W.heap.size W [] []) (known0 15 (.b true)) := known0_of hE hm fok alive rfl
  have h0 : CallOk (Env.mk Try.prog W.heap.size W [] []) (callX F1 []) := callX_sound hE hm (F := F1) fok hO
  have h1 : CallOk (Env.mk Try.prog W.heap.size W [] []) leafO := le_ok h0 fun _ _ _ _ e => leaf_le e
  have h1' : CallOk (Env.mk Try.prog W.heap.size W [] []) leafB := le_ok h0 fun _ _ _ _ e => leafB_le e
  have hEb := Env.bare_ok hE
  have hOb : CallOk (Env.mk Try.prog W.heap.size W [] []).bare (known0 15 (.b true)) := known0_of hEb hm fok alive rfl
  have h1b : CallOk (Env.mk Try.prog W.heap.size W [] []).bare leafO := le_ok (callX_sound hEb hm (F := F1) fok hOb) fun _ _ _ _ e => leaf_le e
  have h2b : CallOk (Env.mk Try.prog W.heap.size W [] []).bare (callX F2 []) := callX_sound hEb hm (F := F2) fok h1b
  have h3 : CallOk (Env.mk Try.prog W.heap.size W [] []) allO := or_ok (knownS_ok h2b fun f a v e => ruleK_ok e) h1
  have h4 : CallOk (Env.mk Try.prog W.heap.size W [] []) allB := or_ok h3 h1'
  have h5 : CallOk (Env.mk Try.prog W.heap.size W [] []) (callX F5 []) := callX_sound hE hm (F := F5) fok h4
  have h6 : CallOk (Env.mk Try.prog W.heap.size W [] []) K5 := fun f a h v h' lw lp e => by
    unfold K5 at e
    by_cases e1 : f = 26 ∨ f = 28 ∨ f = 15
    · rw [if_pos e1] at e; exact h5 f a h v h' lw lp e
    · rw [if_neg e1] at e
      by_cases e2 : f = 27 ∨ f = 29
      · rw [if_pos e2] at e; exact h0 f a h v h' lw lp e
      · rw [if_neg e2] at e; cases e
  obtain ⟨-, h2⟩ := callX_sound hE hm (F := FX5) fok h6 K vs [] _ _ _ _ hc
  refine Calls.mono (h2 [] W args ⟨RowKit.Below.refl _ _, rfl, by simp, fun i b r K hl => by simp [Live] at hl, fun i j b b' r K K' hl => by simp [Live] at hl⟩ hv) fun e w' hq => ?_
  obtain ⟨v', rfl, m', hvr, T⟩ := hq
  exact ⟨by rw [hvr.inv_b], T.hr.below⟩

theorem law5_of {n k x c : Int} {s : List UInt8} {b : Bool} (h1 : callX F5 [] 26 [.i .i64 n, .i .i64 k] [] = some (.tup [.s s, .i .i64 x], [], 0, 0)) (h2 : callX F1 [] 27 [.i .i64 n, .i .i64 k] [] = some (.tup [.s s, .i .i64 x], [], 0, 0))
    (h3 : callX F5 [] 28 [.i .i64 n] [] = some (.tup [.b b, .i .i64 c], [], 0, 0)) (h4 : callX F1 [] 29 [.i .i64 n] [] = some (.tup [.b b, .i .i64 c], [], 0, 0)) :
    callX FX5 [] 5 [.i .i64 n, .i .i64 k] [] = some (.b true, [], 0, 0) := by
  refine g5_ok (meansX_ok FX5 []) (by show K5 5 _ _ = none; unfold K5; rw [if_neg (by omega), if_neg (by omega)]) ?_
  unfold g5
  have cp : ∀ {f : Nat} {a : List AVal} {v : AVal}, callX FX5 [] f a [] = some (v, [], 0, 0) → callM (callX FX5 []) ⟨[], 0, 0⟩ f a = some (v, ⟨[], 0, 0⟩) := fun e => callM_pure (call := callX FX5 []) (h := []) (l := 0) (p := 0) e (Nat.le_refl _) (Nat.le_refl _)
  have d1 := cp (x5 (by omega) h1)
  have d2 := cp (x1 (by omega) h2)
  have d3 := cp (x5 (by omega) h3)
  have d4 := cp (x1 (by omega) h4)
  have d5 := cp (x5 (by omega) c15)
  have bb : (b == b) = true := beq_self_eq_true b
  show (bindP (callM (meansX FX5 []).call ⟨[], 0, 0⟩ 26 [(.i .i64 n), (.i .i64 k)]) _) = _
  simp only [meansX_call, d1, d2, d3, d4, d5, bindP_some, e_x0, e_x1, bindO_some, asI_i, asS_s, asB_b, e_neq, eqL_self, Bool.not_true, cond_false, cond_true, forceB_eq, eqI_eq, beq_self_eq_true, bb, tupA]
  exact fin_pure rfl
theorem law5 (n k : Int) : ∃ h' lw lp, callX FX5 [] 5 [.i .i64 n, .i .i64 k] [] = some (.b true, h', lw, lp) := by
  refine ⟨[], 0, 0, ?_⟩
  by_cases hn : n < 0 ∨ 255 < n
  · have d61 := callM_pure (call := callX F5 []) (h := []) (l := 0) (p := 0) (c61n hn) (Nat.le_refl _) (Nat.le_refl _)
    have d54 := callM_pure (call := callX F1 []) (h := []) (l := 0) (p := 0) (Rule_not hn) (Nat.le_refl _) (Nat.le_refl _)
    have z2 : ((2 : Int) == 0) = false := rfl
    refine law5_of (x := 2) (c := 2) (s := []) (b := false) ?_ ?_ ?_ ?_
    · refine g26_ok (meansX_ok F5 []) (by cases n <;> cases k <;> rfl) ?_
      unfold g26
      show (bindP (callM (meansX F5 []).call ⟨[], 0, 0⟩ 61 [(.i .i64 n)]) _) = _
      simp only [meansX_call, d61, bindP_some, e_x0, e_x1, bindO_some, asI_i, eqI_eq, z2, forceB_eq, Bool.not_false, cond_true, tupA]
      exact fin_pure rfl
    · refine g27_ok (meansX_ok F1 []) rfl ?_
      unfold g27
      show (bindP (callM (meansX F1 []).call ⟨[], 0, 0⟩ 54 [(.i .i64 n)]) _) = _
      simp only [meansX_call, d54, bindP_some, asB_b, forceB_eq, Bool.not_false, cond_true, bindO_some, tupA]
      exact fin_pure rfl
    · refine g28_ok (meansX_ok F5 []) (by cases n <;> rfl) ?_
      unfold g28
      show (bindP (callM (meansX F5 []).call ⟨[], 0, 0⟩ 61 [(.i .i64 n)]) _) = _
      simp only [meansX_call, d61, bindP_some, e_x0, e_x1, bindO_some, asI_i, eqI_eq, z2, forceB_eq, Bool.not_false, cond_true, tupA]
      exact fin_pure rfl
    · refine g29_ok (meansX_ok F1 []) rfl ?_
      unfold g29
      show (bindP (callM (meansX F1 []).call ⟨[], 0, 0⟩ 54 [(.i .i64 n)]) _) = _
      simp only [meansX_call, d54, bindP_some, asB_b, forceB_eq, Bool.not_false, cond_true, bindO_some, tupA]
      exact fin_pure rfl
  · obtain ⟨j, rfl⟩ : ∃ j : Nat, n = (j : Int) := ⟨n.toNat, by omega⟩
    have hj : j < 256 := by omega
    exact law5_of (eden_ok hj k) (redn_ok hj k) (onto_ok hj) (rnto_ok hj)

set_option maxRecDepth 100000 in
theorem lifted5 (os : Os) (started : os.Started) (H : Type) (enc : TypeId × Value → H) :
    ReturnsInHanded {} Try.checked os 5 .any (Rows.weedOrphansSpec.pre6 enc Try.prog Try.f5 Rows.weedOrphansRow.domain false) (Rows.weedOrphansSpec.post enc Try.prog Try.f5 false true false false) := by
  refine returnsInHanded_of_change (C := Try.checked) own started (by kernel_rfl) Try.func5
    (ChangeSpec.witness6 (enc := enc) (C := Try.checked) false ⟨#[], #[.int .i64 0, .int .i64 0], []⟩ 8 (by kernel_rfl) (by kernel_rfl) (by kernel_rfl) (by kernel_rfl)) ?_
  intro W base args ds gs before hval0 hW hcnd _
  have hval : ∀ (j : Nat) t v, Try.f5.params[j]? = some t → args[j]? = some v → Value.okWide Try.prog W .any base t v := hval0
  have hW' := hW
  obtain ⟨p, q, hA0, hV, rfl, hfz, hnd⟩ := hW
  have hA : DataW.TrodAll enc Try.prog W 0 (fun _ => true) true Try.f5.params.toList args.toList ds p := hA0
  rw [Try.params5] at hA hval
  obtain ⟨v0, vs0, d0, ds0, p0, q0x, hargs, rfl, rfl, h0, r0⟩ := trodAll_cons hA
  obtain ⟨v1, vs1, d1, ds1, p1, q1x, rfl, rfl, rfl, h1, r1⟩ := trodAll_cons r0
  obtain ⟨rfl, rfl, rfl⟩ := trodAll_nil r1
  obtain rfl : args = #[v0, v1] := by cases args; simp_all
  obtain ⟨rfl, rfl⟩ := trodVars_none hV
  obtain ⟨n0, rfl, rfl, rfl, w0⟩ := open_int Try.underlying3 (hval 0 3 v0 rfl rfl) h0
  obtain ⟨n1, rfl, rfl, rfl, w1⟩ := open_int Try.underlying3 (hval 1 3 v1 rfl rfl) h1
  clear hA0 hval0
  have hE : (Env.mk Try.prog W.heap.size W [] []).Ok := env_ok fun i b hb => by simp at hb
  obtain ⟨h', lw, lp, hcall⟩ := law5 n0 n1
  refine (call_ofX alive0 hE (vs := [.i .i64 n0, .i .i64 n1]) (args := #[.int .i64 n0, .int .i64 n1]) ⟨rfl, fun i w hw => by
    match i with
    | 0 => simp at hw; subst hw; exact .i _ _
    | 1 => simp at hw; subst hw; exact .i _ _
    | i + 2 => simp at hw⟩ hcall).mono fun e W' ⟨he, hb⟩ => ?_
  subst he
  exact ⟨_, rfl, ⟨_, _, _, [], [], [], hW', (trodAll_cons_mk (shut_bool Try.underlying4 _) trodAll_mk0), (trodAll_cons_mk (shut_int Try.underlying3 w0) (trodAll_cons_mk (shut_int Try.underlying3 w1) trodAll_mk0)), rfl, hb.frame _, fun h => by cases h⟩⟩

theorem over5 : Rows.weedOrphansRow.holds Try.pinned (OpenSpec.ofChange Rows.weedOrphansSpec) :=
  OpenClaim.holds_of_wide 5 Try.f5 rfl rfl rfl rfl rfl rfl rfl ⟨rfl, rfl, rfl, rfl, rfl⟩ rfl rfl rfl rfl rfl (by kernel_rfl) Try.func5 (by kernel_rfl)
    (of_decide_eq_true (by kernel_rfl)) (by unfold Func.isWrapper; first | (rw [if_pos (by decide +kernel)]; kernel_rfl) | (rw [if_neg (by decide +kernel)]; exact ⟨rfl, rfl⟩))
    (fun os started H enc _ => lifted5 os started H enc)

end Go.Proofs.Ytgbkicelkpagpaa.W

namespace Go.Proofs.Ytgbkicelkpagpaa
/-- the statement -/
theorem weedOrphans_holds : Rows.WeedOrphansSaid := W.over5
end Go.Proofs.Ytgbkicelkpagpaa
#print axioms Go.Proofs.Ytgbkicelkpagpaa.weedOrphans_holds

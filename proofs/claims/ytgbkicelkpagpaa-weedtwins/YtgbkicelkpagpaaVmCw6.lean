/- WeedTwins: for every number of a rule the law returns true. No conditions. -/
import Derived.Test.YtgbkicelkpagpaaVmK0
import Derived.ChangeMaps5
open Go.Vm
set_option linter.unusedVariables false
namespace Go.Proofs.Ytgbkicelkpagpaa.W
open Go Go.RowKit Go.Deep Go.WideShapes Go.ChangeShapes Go.ChangeAt

/-- what is known of the calls of the law -/
noncomputable def K6 : Caller := fun f a h =>
  if f = 30 ∨ f = 15 then callX F3 [] f a h else if f = 31 ∨ f = 33 then callX F1 [] f a h else if f = 32 then callX F7 [] f a h else none
noncomputable abbrev FX6 : Tab := ⟨F, K6⟩
theorem q3 {f : Nat} {a : List AVal} {h : Heap} {r : AVal × Heap × Nat × Nat} (hf : f = 30 ∨ f = 15) (e : callX F3 [] f a h = some r) : callX FX6 [] f a h = some r := callX_ov (by show K6 f a h = _; unfold K6; rw [if_pos hf]; exact e)
theorem q1 {f : Nat} {a : List AVal} {h : Heap} {r : AVal × Heap × Nat × Nat} (hf : f = 31 ∨ f = 33) (e : callX F1 [] f a h = some r) : callX FX6 [] f a h = some r := callX_ov (by show K6 f a h = _; unfold K6; rw [if_neg (by omega), if_pos hf]; exact e)
theorem q7 {a : List AVal} {h : Heap} {r : AVal × Heap × Nat × Nat} (e : callX F7 [] 32 a h = some r) : callX FX6 [] 32 a h = some r := callX_ov (by show K6 32 a h = _; unfold K6; rw [if_neg (by omega), if_neg (by omega), if_pos rfl]; exact e)
theorem call_ofg (alive : callX ⟨F, noCall⟩ [] 15 [] [] = some (.b true, [], 0, 0)) {W : World} (hE : (Env.mk Try.prog W.heap.size W [] []).Ok) {K : Nat} {vs : List AVal} {args : Array Value}
    (hv : LR [] [] vs args) {h' : Heap} {lw lp : Nat} (hc : callX FX6 [] K vs [] = some (.b true, h', lw, lp)) : Calls Try.prog K args W fun e W' => e = .returned (.bool true) ∧ RowKit.Below W.heap.size W W' := by
  have hm : (Env.mk Try.prog W.heap.size W [] []).P.follows .mixedOrders = true := Try.checked.mixed
  have hO : CallOk (Env.mk Try.prog W.heap.size W [] []) (known0 15 (.b true)) := known0_of hE hm fok alive rfl
  have h0 : CallOk (Env.mk Try.prog W.heap.size W [] []) (callX F1 []) := callX_sound hE hm (F := F1) fok hO
  have h1 : CallOk (Env.mk Try.prog W.heap.size W [] []) leafO := le_ok h0 fun _ _ _ _ e => leaf_le e
  have h1r : CallOk (Env.mk Try.prog W.heap.size W [] []) leafR := le_ok h0 fun _ _ _ _ e => leafR_le e
  have hEb := Env.bare_ok hE
  have hOb : CallOk (Env.mk Try.prog W.heap.size W [] []).bare (known0 15 (.b true)) := known0_of hEb hm fok alive rfl
  have h1b : CallOk (Env.mk Try.prog W.heap.size W [] []).bare leafO := le_ok (callX_sound hEb hm (F := F1) fok hOb) fun _ _ _ _ e => leaf_le e
  have h2b : CallOk (Env.mk Try.prog W.heap.size W [] []).bare (callX F2 []) := callX_sound hEb hm (F := F2) fok h1b
  have h3 : CallOk (Env.mk Try.prog W.heap.size W [] []) allO := or_ok (knownS_ok h2b fun f a v e => ruleK_ok e) h1
  have h4 : CallOk (Env.mk Try.prog W.heap.size W [] []) allR := or_ok h3 h1r
  have h5 : CallOk (Env.mk Try.prog W.heap.size W [] []) (callX F3 []) := callX_sound hE hm (F := F3) fok h3
  have h7 : CallOk (Env.mk Try.prog W.heap.size W [] []) (callX F7 []) := callX_sound hE hm (F := F7) fok h4
  have h6 : CallOk (Env.mk Try.prog W.heap.size W [] []) K6 := fun f a h v h' lw lp e => by
    unfold K6 at e
    by_cases e1 : f = 30 ∨ f = 15
    · rw [if_pos e1] at e; exact h5 f a h v h' lw lp e
    · rw [if_neg e1] at e
      by_cases e2 : f = 31 ∨ f = 33
      · rw [if_pos e2] at e; exact h0 f a h v h' lw lp e
      · rw [if_neg e2] at e
        by_cases e3 : f = 32
        · rw [if_pos e3] at e; exact h7 f a h v h' lw lp e
        · rw [if_neg e3] at e; cases e
  obtain ⟨-, h2⟩ := callX_sound hE hm (F := FX6) fok h6 K vs [] _ _ _ _ hc
  refine Calls.mono (h2 [] W args ⟨RowKit.Below.refl _ _, rfl, by simp, fun i b r K hl => by simp [Live] at hl, fun i j b b' r K K' hl => by simp [Live] at hl⟩ hv) fun e w' hq => ?_
  obtain ⟨v', rfl, m', hvr, T⟩ := hq
  exact ⟨by rw [hvr.inv_b], T.hr.below⟩

theorem call_of6 (alive : callX ⟨F, noCall⟩ [] 15 [] [] = some (.b true, [], 0, 0)) {W : World} (hE : (Env.mk Try.prog W.heap.size W [] []).Ok) {K : Nat} {vs : List AVal} {args : Array Value}
    (hv : LR [] [] vs args) {h' : Heap} {lw lp : Nat} (hc : callX FX6 [] K vs [] = some (.b true, h', lw, lp) ∨ callX F1 [] K vs [] = some (.b true, h', lw, lp)) : Calls Try.prog K args W fun e W' => e = .returned (.bool true) ∧ RowKit.Below W.heap.size W W' :=
  hc.elim (fun hc => call_ofg alive hE hv hc) fun hc => call_of alive hE hv hc

theorem e_y0 (a b c : AVal) : evP .e (.ext 0 (.c (.tup [a, b, c]))) = some a := rfl
theorem e_y1 (a b c : AVal) : evP .e (.ext 1 (.c (.tup [a, b, c]))) = some b := rfl
theorem e_y2 (a b c : AVal) : evP .e (.ext 2 (.c (.tup [a, b, c]))) = some c := rfl
theorem d15' : callX F3 [] 15 [] [] = some (.b true, [], 0, 0) := callX_ov rfl

theorem law6 {n : Nat} (hn : n < 256) : callX FX6 [] 6 [.i .i64 n] [] = some (.b true, [], 0, 0) := by
  refine g6_ok (meansX_ok FX6 []) (by show K6 6 _ _ = none; unfold K6; rw [if_neg (by omega), if_neg (by omega), if_neg (by omega)]) ?_
  unfold g6
  have cp : ∀ {f : Nat} {a : List AVal} {v : AVal}, callX FX6 [] f a [] = some (v, [], 0, 0) → callM (callX FX6 []) ⟨[], 0, 0⟩ f a = some (v, ⟨[], 0, 0⟩) := fun e => callM_pure (call := callX FX6 []) (h := []) (l := 0) (p := 0) e (Nat.le_refl _) (Nat.le_refl _)
  obtain ⟨-, -, f3, -⟩ := facts hn
  have c30 := cp (q3 (by omega) f3)
  have c31 := cp (q1 (by omega) (rOne_ok (ro := []) (h := []) hn))
  have d15 := cp (q3 (by omega) d15')
  show (bindP (callM (meansX FX6 []).call ⟨[], 0, 0⟩ 30 [(.i .i64 n)]) _) = _
  have bb : ∀ b : Bool, (b == b) = true := fun b => by cases b <;> rfl
  simp only [meansX_call, c30, c31, bindP_some, e_x0, e_x1, bindO_some, asI_i, asB_b, bb, Bool.not_true, forceB_eq, cond_false, eqI_eq, beq_self_eq_true]
  cases h1 : oneT n with
  | true =>
    have c32 := cp (q7 (twins_one hn h1))
    have c33 := cp (q1 (by omega) (rTwins_one (ro := []) (h := []) hn h1))
    simp only [c32, c33, bindP_some, e_y0, e_y1, e_y2, bindO_some, asS_s, asI_i, e_eq, eqL_self, asB_b, cond_true, beq_self_eq_true, d15, tupA]
    exact fin_pure rfl
  | false =>
    obtain ⟨r, t1, t2⟩ := twins_same hn h1
    have c32 := cp (q7 t2)
    have c33 := cp (q1 (by omega) (rTwins_ok (ro := []) (h := []) hn h1 t1))
    simp only [c32, c33, bindP_some, e_y0, e_y1, e_y2, bindO_some, asS_s, asI_i, e_eq, eqL_self, asB_b, cond_true, beq_self_eq_true, d15, tupA]
    exact fin_pure rfl

/- numbers that are no rules -/
section
variable {n : Int} (hn : n < 0 ∨ 255 < n)
include hn
theorem bad61 : callX F1 [] 61 [.i .i64 n] [] = some (.tup [.i .u8 0, .i .i64 2], [], 0, 0) := by
  refine g61_ok (meansX_ok F1 []) rfl ?_
  unfold g61
  by_cases h : n < 0
  · simp only [ltI_eq, decide_eq_true h, forceB_eq, cond_true, bindO_some, tupA]
    exact fin_pure rfl
  · have h2 : 255 < n := by omega
    simp only [ltI_eq, decide_eq_false h, decide_eq_true h2, forceB_eq, cond_false, cond_true, bindO_some, tupA]
    exact fin_pure rfl
theorem bad54 : callX F1 [] 54 [.i .i64 n] [] = some (.b false, [], 0, 0) := by
  refine g54_ok (meansX_ok F1 []) rfl ?_
  unfold g54
  by_cases h : n < 0
  · simp only [ltI_eq, decide_eq_true h, forceB_eq, Bool.not_true, cond_false, bindO_some, tupA]
    exact fin_pure rfl
  · have h2 : 255 < n := by omega
    simp only [ltI_eq, decide_eq_false h, decide_eq_true h2, forceB_eq, Bool.not_false, Bool.not_true, cond_true, bindO_some, tupA]
    exact fin_pure rfl
theorem lawBad : callX F1 [] 6 [.i .i64 n] [] = some (.b true, [], 0, 0) := by
  have cp : ∀ {f : Nat} {a : List AVal} {v : AVal}, callX F1 [] f a [] = some (v, [], 0, 0) → callM (callX F1 []) ⟨[], 0, 0⟩ f a = some (v, ⟨[], 0, 0⟩) := fun e => callM_pure (call := callX F1 []) (h := []) (l := 0) (p := 0) e (Nat.le_refl _) (Nat.le_refl _)
  have c61 := cp (bad61 hn)
  have c54 := cp (bad54 hn)
  have z2 : ((2 : Int) == 0) = false := rfl
  have b30 : callX F1 [] 30 [.i .i64 n] [] = some (.tup [.b false, .i .i64 2], [], 0, 0) := by
    refine g30_ok (meansX_ok F1 []) rfl ?_
    unfold g30
    show (bindP (callM (meansX F1 []).call ⟨[], 0, 0⟩ 61 [(.i .i64 n)]) _) = _
    simp only [meansX_call, c61, bindP_some, e_x0, e_x1, bindO_some, asI_i, eqI_eq, z2, Bool.not_false, forceB_eq, cond_true, tupA]
    exact fin_pure rfl
  have b32 : callX F1 [] 32 [.i .i64 n] [] = some (.tup [.s [], .s [], .i .i64 2], [], 0, 0) := by
    refine g32_ok (meansX_ok F1 []) rfl ?_
    unfold g32
    show (bindP (callM (meansX F1 []).call ⟨[], 0, 0⟩ 61 [(.i .i64 n)]) _) = _
    simp only [meansX_call, c61, bindP_some, e_x0, e_x1, bindO_some, asI_i, eqI_eq, z2, Bool.not_false, forceB_eq, cond_true, tupA]
    exact fin_pure rfl
  have b31 : callX F1 [] 31 [.i .i64 n] [] = some (.tup [.b false, .i .i64 2], [], 0, 0) := by
    refine g31_ok (meansX_ok F1 []) rfl ?_
    unfold g31
    show (bindP (callM (meansX F1 []).call ⟨[], 0, 0⟩ 54 [(.i .i64 n)]) _) = _
    simp only [meansX_call, c54, bindP_some, asB_b, Bool.not_false, forceB_eq, cond_true, tupA]
    exact fin_pure rfl
  have b33 : callX F1 [] 33 [.i .i64 n] [] = some (.tup [.s [], .s [], .i .i64 2], [], 0, 0) := by
    refine g33_ok (meansX_ok F1 []) rfl ?_
    unfold g33
    show (bindP (callM (meansX F1 []).call ⟨[], 0, 0⟩ 54 [(.i .i64 n)]) _) = _
    simp only [meansX_call, c54, bindP_some, asB_b, Bool.not_false, forceB_eq, cond_true, tupA]
    exact fin_pure rfl
  have c30 := cp b30
  have c31 := cp b31
  have c32 := cp b32
  have c33 := cp b33
  have d15 : callM (callX F1 []) ⟨[], 0, 0⟩ 15 [] = some (.b true, ⟨[], 0, 0⟩) := cp alive_any
  refine g6_ok (meansX_ok F1 []) rfl ?_
  unfold g6
  show (bindP (callM (meansX F1 []).call ⟨[], 0, 0⟩ 30 [(.i .i64 n)]) _) = _
  have ff : (false == false) = true := rfl
  simp only [meansX_call, c30, c31, c32, c33, bindP_some, e_x0, e_x1, bindO_some, asI_i, asB_b, ff, Bool.not_true, forceB_eq, cond_false, eqI_eq, beq_self_eq_true, e_y0, e_y1, e_y2, asS_s, e_eq, eqL_self, cond_true, d15, tupA]
  exact fin_pure rfl
end
theorem law6all (n : Int) : ∃ h' lw lp, callX FX6 [] 6 [.i .i64 n] [] = some (.b true, h', lw, lp) ∨ callX F1 [] 6 [.i .i64 n] [] = some (.b true, h', lw, lp) := by
  by_cases hn : n < 0 ∨ 255 < n
  · exact ⟨[], 0, 0, .inr (lawBad hn)⟩
  · obtain ⟨k, rfl⟩ : ∃ k : Nat, n = (k : Int) := ⟨n.toNat, by omega⟩
    exact ⟨[], 0, 0, .inl (law6 (by omega))⟩

set_option maxRecDepth 100000 in
theorem lifted6 (os : Os) (started : os.Started) (H : Type) (enc : TypeId × Value → H) :
    ReturnsInHanded {} Try.checked os 6 .any (Rows.weedTwinsSpec.pre6 enc Try.prog Try.f6 Rows.weedTwinsRow.domain false) (Rows.weedTwinsSpec.post enc Try.prog Try.f6 false true false false) := by
  refine returnsInHanded_of_change (C := Try.checked) own started (by kernel_rfl) Try.func6
    (ChangeSpec.witness6 (enc := enc) (C := Try.checked) false ⟨#[], #[.int .i64 0], []⟩ 8 (by kernel_rfl) (by kernel_rfl) (by kernel_rfl) (by kernel_rfl)) ?_
  intro W base args ds gs before hval0 hW hcnd _
  have hval : ∀ (j : Nat) t v, Try.f6.params[j]? = some t → args[j]? = some v → Value.okWide Try.prog W .any base t v := hval0
  have hW' := hW
  obtain ⟨p, q, hA0, hV, rfl, hfz, hnd⟩ := hW
  have hA : DataW.TrodAll enc Try.prog W 0 (fun _ => true) true Try.f6.params.toList args.toList ds p := hA0
  rw [Try.params6] at hA hval
  obtain ⟨v0, vs0, d0, ds0, p0, q0x, hargs, rfl, rfl, h0, r0⟩ := trodAll_cons hA
  obtain ⟨rfl, rfl, rfl⟩ := trodAll_nil r0
  obtain rfl : args = #[v0] := by cases args; simp_all
  obtain ⟨rfl, rfl⟩ := trodVars_none hV
  obtain ⟨n0, rfl, rfl, rfl, w0⟩ := open_int Try.underlying3 (hval 0 3 v0 rfl rfl) h0
  clear hA0 hval0
  have hE : (Env.mk Try.prog W.heap.size W [] []).Ok := env_ok fun i b hb => by simp at hb
  obtain ⟨h', lw, lp, hcall⟩ := law6all n0
  refine (call_of6 alive0 hE (vs := [.i .i64 n0]) (args := #[.int .i64 n0]) ⟨rfl, fun i w hw => by
    match i with
    | 0 => simp at hw; subst hw; exact .i _ _
    | i + 1 => simp at hw⟩ hcall).mono fun e W' ⟨he, hb⟩ => ?_
  subst he
  exact ⟨_, rfl, ⟨_, _, _, [], [], [], hW', (trodAll_cons_mk (shut_bool Try.underlying4 _) trodAll_mk0), (trodAll_cons_mk (shut_int Try.underlying3 w0) trodAll_mk0), rfl, hb.frame _, fun h => by cases h⟩⟩

theorem over6 : Rows.weedTwinsRow.holds Try.pinned (OpenSpec.ofChange Rows.weedTwinsSpec) :=
  OpenClaim.holds_of_wide 6 Try.f6 rfl rfl rfl rfl rfl rfl rfl ⟨rfl, rfl, rfl, rfl, rfl⟩ rfl rfl rfl rfl rfl (by kernel_rfl) Try.func6 (by kernel_rfl)
    (of_decide_eq_true (by kernel_rfl)) (by unfold Func.isWrapper; first | (rw [if_pos (by decide +kernel)]; kernel_rfl) | (rw [if_neg (by decide +kernel)]; exact ⟨rfl, rfl⟩))
    (fun os started H enc _ => lifted6 os started H enc)

end Go.Proofs.Ytgbkicelkpagpaa.W

namespace Go.Proofs.Ytgbkicelkpagpaa
/-- the statement -/
theorem weedTwins_holds : Rows.WeedTwinsSaid := W.over6
end Go.Proofs.Ytgbkicelkpagpaa
#print axioms Go.Proofs.Ytgbkicelkpagpaa.weedTwins_holds

/- WeedMirrors: for every number the law returns true, and the argument reads behind the call as it read before. No conditions. -/
import Derived.Test.YtjjinlljdfaipaaVmM8
open Go.Vm
set_option linter.unusedVariables false
namespace Go.Proofs.Ytjjinlljdfaipaa.W
open Go Go.RowKit Go.Deep Go.WideShapes Go.ChangeShapes Go.ChangeAt

theorem law8_not {n : Int} (hn : n < 0 ∨ 255 < n) : ∃ h' lw lp, callX F1 [] 8 [.i .i64 n] [] = some (.b true, h', lw, lp) := by
  suffices h : ∃ r, g8 (meansX F1 []) [] n ⟨[], 0, 0⟩ = some r ∧ r.1 = .b true by
    obtain ⟨⟨w, h', lw, lp⟩, h1, rfl⟩ := h
    exact ⟨h', lw, lp, g8_ok (meansX_ok F1 []) rfl h1⟩
  have e2 : ((2 : Int) == 0) = false := rfl
  have z0 : ((0 : Int) == 0) = true := rfl
  have z2 : ((2 : Int) == 2) = true := rfl
  have r1 := fun h => callM_pure (call := callX F1 []) (h := h) (l := h.length) (p := h.length) (read_not hn) (Nat.le_refl _) (Nat.le_refl _)
  have r2 := fun h => callM_pure (call := callX F1 []) (h := h) (l := h.length) (p := h.length) (Rule_not hn) (Nat.le_refl _) (Nat.le_refl _)
  have c36 : ∀ h, callX F1 [] 36 [.i .i64 n] h = some (.tup [.i .i64 0, .i .i64 0, .i .i64 2], h, h.length, h.length) := fun h => by
    refine g36_ok (meansX_ok F1 []) rfl ?_
    unfold g36
    simp only [meansX_call, r1, bindP_some, evP, ev_ext, opd, lget, bindO_some, asI_i, eqI_eq, e2, forceB_eq, Bool.not_false, cond_true, tupA]
    exact fin_pure rfl
  have c37 : ∀ h, callX F1 [] 37 [.i .i64 n] h = some (.tup [.i .i64 0, .i .i64 0, .i .i64 2], h, h.length, h.length) := fun h => by
    refine g37_ok (meansX_ok F1 []) rfl ?_
    unfold g37
    simp only [meansX_call, r2, bindP_some, asB_b, forceB_eq, Bool.not_false, cond_true, tupA]
    exact fin_pure rfl
  have c38 : ∀ h, callX F1 [] 38 [.i .i64 n] h = some (.tup [.b false, .i .i64 2], h, h.length, h.length) := fun h => by
    refine g38_ok (meansX_ok F1 []) rfl ?_
    unfold g38
    simp only [meansX_call, r1, bindP_some, evP, ev_ext, opd, lget, bindO_some, asI_i, eqI_eq, e2, forceB_eq, Bool.not_false, cond_true, tupA]
    exact fin_pure rfl
  have c39 : ∀ h, callX F1 [] 39 [.i .i64 n] h = some (.tup [.b false, .i .i64 2], h, h.length, h.length) := fun h => by
    refine g39_ok (meansX_ok F1 []) rfl ?_
    unfold g39
    simp only [meansX_call, r2, bindP_some, asB_b, forceB_eq, Bool.not_false, cond_true, tupA]
    exact fin_pure rfl
  have d36 := callM_pure (call := callX F1 []) (h := []) (l := 0) (p := 0) (c36 []) (Nat.zero_le _) (Nat.zero_le _)
  have d37 := callM_pure (call := callX F1 []) (h := []) (l := 0) (p := 0) (c37 []) (Nat.zero_le _) (Nat.zero_le _)
  have d38 := callM_pure (call := callX F1 []) (h := []) (l := 0) (p := 0) (c38 []) (Nat.zero_le _) (Nat.zero_le _)
  have d39 := callM_pure (call := callX F1 []) (h := []) (l := 0) (p := 0) (c39 []) (Nat.zero_le _) (Nat.zero_le _)
  have dal := callM_pure (call := callX F1 []) (h := []) (l := 0) (p := 0) alive_any (Nat.zero_le _) (Nat.zero_le _)
  have bb : (false == false) = true := rfl
  unfold g8
  simp only [meansX_call, d36, d37, d38, d39, dal, bindP_some, evP, ev_ext, opd, lget, bindO_some, asI_i, asB_b, eqI_eq, z0, z2, bb, forceB_eq, Bool.not_true, cond_false, cond_true, tupA]
  exact ⟨_, rfl, rfl⟩
theorem law8 (n : Int) : ∃ h' lw lp, callX F1 [] 8 [.i .i64 n] [] = some (.b true, h', lw, lp) := by
  by_cases hn : n < 0 ∨ 255 < n
  · exact law8_not hn
  · obtain ⟨k, rfl⟩ : ∃ k : Nat, n = (k : Int) := ⟨n.toNat, by omega⟩
    exact rk_ok (mir_all (by omega))

set_option maxRecDepth 100000 in
theorem lifted8 (os : Os) (started : os.Started) (H : Type) (enc : TypeId × Value → H) :
    ReturnsInHanded {} Try.checked os 8 .any (Rows.weedMirrorsSpec.pre6 enc Try.prog Try.f8 Rows.weedMirrorsRow.domain false) (Rows.weedMirrorsSpec.post enc Try.prog Try.f8 false true false false) := by
  refine returnsInHanded_of_change (C := Try.checked) own started (by kernel_rfl) Try.func8
    (ChangeSpec.witness6 (enc := enc) (C := Try.checked) false ⟨#[], #[.int .i64 0], []⟩ 8 (by kernel_rfl) (by kernel_rfl) (by kernel_rfl) (by kernel_rfl)) ?_
  intro W base args ds gs before hval0 hW hcnd _
  have hval : ∀ (j : Nat) t v, Try.f8.params[j]? = some t → args[j]? = some v → Value.okWide Try.prog W .any base t v := hval0
  have hW' := hW
  obtain ⟨p, q, hA0, hV, rfl, hfz, hnd⟩ := hW
  have hA : DataW.TrodAll enc Try.prog W 0 (fun _ => true) true Try.f8.params.toList args.toList ds p := hA0
  rw [Try.params8] at hA hval
  obtain ⟨v0, vs0, d0, ds0, p0, q0, hargs, rfl, rfl, h0, r0⟩ := trodAll_cons hA
  obtain ⟨rfl, rfl, rfl⟩ := trodAll_nil r0
  obtain rfl : args = #[v0] := by cases args; simp_all
  obtain ⟨rfl, rfl⟩ := trodVars_none hV
  obtain ⟨n0, rfl, rfl, rfl, w0⟩ := open_int Try.underlying3 (hval 0 3 v0 rfl rfl) h0
  clear hA0 hval0
  have hE : (Env.mk Try.prog W.heap.size W [] []).Ok := env_ok fun i b hb => by simp at hb
  obtain ⟨h', lw, lp, hcall⟩ := law8 n0
  refine (call_of alive0 hE (vs := [.i .i64 n0]) (args := #[.int .i64 n0]) ⟨rfl, fun i w hw => by
    match i with
    | 0 => simp at hw; subst hw; exact .i _ _
    | i + 1 => simp at hw⟩ hcall).mono fun e W' ⟨he, hb⟩ => ?_
  subst he
  exact ⟨_, rfl, ⟨_, _, _, [], [], [], hW', (trodAll_cons_mk (shut_bool Try.underlying4 _) trodAll_mk0), (trodAll_cons_mk (shut_int Try.underlying3 w0) trodAll_mk0), rfl, hb.frame _, fun h => by cases h⟩⟩

theorem over8 : Rows.weedMirrorsRow.holds Try.pinned (OpenSpec.ofChange Rows.weedMirrorsSpec) :=
  OpenClaim.holds_of_wide 8 Try.f8 rfl rfl rfl rfl rfl rfl rfl ⟨rfl, rfl, rfl, rfl, rfl⟩ rfl rfl rfl rfl rfl (by kernel_rfl) Try.func8 (by kernel_rfl)
    (of_decide_eq_true (by kernel_rfl)) (by unfold Func.isWrapper; first | (rw [if_pos (by decide +kernel)]; kernel_rfl) | (rw [if_neg (by decide +kernel)]; exact ⟨rfl, rfl⟩))
    (fun os started H enc _ => lifted8 os started H enc)

end Go.Proofs.Ytjjinlljdfaipaa.W

namespace Go.Proofs.Ytjjinlljdfaipaa
/-- the statement -/
theorem weedMirrors_holds : Rows.WeedMirrorsSaid := W.over8
end Go.Proofs.Ytjjinlljdfaipaa
#print axioms Go.Proofs.Ytjjinlljdfaipaa.weedMirrors_holds

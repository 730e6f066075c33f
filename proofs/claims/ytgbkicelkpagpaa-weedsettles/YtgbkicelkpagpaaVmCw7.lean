/- WeedSettles: for every rule and every string the law returns true, and the arguments read behind the call as they read before. No conditions. -/
import Derived.Test.YtgbkicelkpagpaaVmK0
import Derived.ChangeMaps5
open Go.Vm
set_option linter.unusedVariables false
namespace Go.Proofs.Ytgbkicelkpagpaa.W
open Go Go.RowKit Go.Deep Go.WideShapes Go.ChangeShapes Go.ChangeAt

theorem e_z0 (a b c : AVal) : evP .e (.ext 0 (.c (.tup [a, b, c]))) = some a := rfl
theorem e_z1 (a b c : AVal) : evP .e (.ext 1 (.c (.tup [a, b, c]))) = some b := rfl
theorem e_z2 (a b c : AVal) : evP .e (.ext 2 (.c (.tup [a, b, c]))) = some c := rfl
theorem law7 (n : Int) (s : List UInt8) : ∃ h' lw lp, callX F1 [] 7 [.i .i64 n, .s s] [] = some (.b true, h', lw, lp) := by
  refine ⟨[], 0, 0, g7_ok (meansX_ok F1 []) rfl ?_⟩
  unfold g7
  have d15 : callM (callX F1 []) ⟨[], 0, 0⟩ 15 [] = some (.b true, ⟨[], 0, 0⟩) := callM_pure (call := callX F1 []) (h := []) (l := 0) (p := 0) alive_any (Nat.le_refl _) (Nat.le_refl _)
  simp only [e_len, bindO_some, asI_i, ltI_eq, forceB_eq]
  by_cases h500 : (500 : Int) < (s.length : Int)
  · simp only [decide_eq_true h500, cond_true]
    show (bindP (callM (meansX F1 []).call ⟨[], 0, 0⟩ 15 []) _) = _
    simp only [meansX_call, d15, bindP_some, asB_b, tupA]
    exact fin_pure rfl
  · have cp : ∀ {f : Nat} {a : List AVal} {v : AVal}, callX F1 [] f a [] = some (v, [], 0, 0) → callM (callX F1 []) ⟨[], 0, 0⟩ f a = some (v, ⟨[], 0, 0⟩) := fun e => callM_pure (call := callX F1 []) (h := []) (l := 0) (p := 0) e (Nat.le_refl _) (Nat.le_refl _)
    have c34 := cp (Settle_ok (ro := []) (h := []) (n := n) (s := s))
    have c35 := cp (rSettle_ok (ro := []) (h := []) (n := n) (s := s) (by omega))
    simp only [decide_eq_false h500, cond_false]
    show (bindP (callM (meansX F1 []).call ⟨[], 0, 0⟩ 34 [(.i .i64 n), (.s s)]) _) = _
    simp only [meansX_call, c34, bindP_some, e_z0, e_z1, e_z2, bindO_some, asI_i, c35, eqI_eq, beq_self_eq_true, cond_true, d15, asB_b, tupA]
    exact fin_pure rfl

set_option maxRecDepth 100000 in
theorem lifted7 (os : Os) (started : os.Started) (H : Type) (enc : TypeId × Value → H) :
    ReturnsInHanded {} Try.checked os 7 .any (Rows.weedSettlesSpec.pre6 enc Try.prog Try.f7 Rows.weedSettlesRow.domain false) (Rows.weedSettlesSpec.post enc Try.prog Try.f7 false true false false) := by
  refine returnsInHanded_of_change (C := Try.checked) own started (by kernel_rfl) Try.func7
    (ChangeSpec.witness6 (enc := enc) (C := Try.checked) false ⟨#[], #[.int .i64 0, .string ⟨#[]⟩], []⟩ 8 (by kernel_rfl) (by kernel_rfl) (by kernel_rfl) (by kernel_rfl)) ?_
  intro W base args ds gs before hval0 hW hcnd _
  have hval : ∀ (j : Nat) t v, Try.f7.params[j]? = some t → args[j]? = some v → Value.okWide Try.prog W .any base t v := hval0
  have hW' := hW
  obtain ⟨p, q, hA0, hV, rfl, hfz, hnd⟩ := hW
  have hA : DataW.TrodAll enc Try.prog W 0 (fun _ => true) true Try.f7.params.toList args.toList ds p := hA0
  rw [Try.params7] at hA hval
  obtain ⟨v0, vs0, d0, ds0, p0, q0x, hargs, rfl, rfl, h0, r0⟩ := trodAll_cons hA
  obtain ⟨v1, vs1, d1, ds1, p1, q1x, rfl, rfl, rfl, h1, r1⟩ := trodAll_cons r0
  obtain ⟨rfl, rfl, rfl⟩ := trodAll_nil r1
  obtain rfl : args = #[v0, v1] := by cases args; simp_all
  obtain ⟨rfl, rfl⟩ := trodVars_none hV
  obtain ⟨n0, rfl, rfl, rfl, w0⟩ := open_int Try.underlying3 (hval 0 3 v0 rfl rfl) h0
  obtain ⟨n1, rfl, rfl, rfl, w1⟩ := ChangeMaps.open_string Try.underlying9 (hval 1 9 v1 rfl rfl) h1
  clear hA0 hval0
  have hE : (Env.mk Try.prog W.heap.size W [] []).Ok := env_ok fun i b hb => by simp at hb
  obtain ⟨h', lw, lp, hcall⟩ := law7 n0 n1.data.toList
  refine (call_of alive0 hE (vs := [.i .i64 n0, .s n1.data.toList]) (args := #[.int .i64 n0, .string n1]) ⟨rfl, fun i w hw => by
    match i with
    | 0 => simp at hw; subst hw; exact .i _ _
    | 1 => simp at hw; subst hw; exact .s n1.data.toList
    | i + 2 => simp at hw⟩ hcall).mono fun e W' ⟨he, hb⟩ => ?_
  subst he
  exact ⟨_, rfl, ⟨_, _, _, [], [], [], hW', (trodAll_cons_mk (shut_bool Try.underlying4 _) trodAll_mk0), (trodAll_cons_mk (shut_int Try.underlying3 w0) (trodAll_cons_mk (ChangeMaps.shut_string Try.underlying9 w1) trodAll_mk0)), rfl, hb.frame _, fun h => by cases h⟩⟩

theorem over7 : Rows.weedSettlesRow.holds Try.pinned (OpenSpec.ofChange Rows.weedSettlesSpec) :=
  OpenClaim.holds_of_wide 7 Try.f7 rfl rfl rfl rfl rfl rfl rfl ⟨rfl, rfl, rfl, rfl, rfl⟩ rfl rfl rfl rfl rfl (by kernel_rfl) Try.func7 (by kernel_rfl)
    (of_decide_eq_true (by kernel_rfl)) (by unfold Func.isWrapper; first | (rw [if_pos (by decide +kernel)]; kernel_rfl) | (rw [if_neg (by decide +kernel)]; exact ⟨rfl, rfl⟩))
    (fun os started H enc _ => lifted7 os started H enc)

end Go.Proofs.Ytgbkicelkpagpaa.W

namespace Go.Proofs.Ytgbkicelkpagpaa
/-- the statement -/
theorem weedSettles_holds : Rows.WeedSettlesSaid := W.over7
end Go.Proofs.Ytgbkicelkpagpaa
#print axioms Go.Proofs.Ytgbkicelkpagpaa.weedSettles_holds

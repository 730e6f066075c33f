/- LuckLearns: for all points, signs and numbers of rounds the law returns true, and each argument reads behind the call as it read before. No conditions. -/
import Derived.Test.YtnalgdobglfndaaVmK0
import Derived.ProofKit
import Derived.OpenShut
open Go.Vm
set_option linter.unusedVariables false
namespace Go.Proofs.Ytnalgdobglfndaa.T
open Go Go.RowKit Go.Deep Go.WideShapes Go.ChangeShapes Go.ChangeAt

set_option maxRecDepth 100000 in
theorem lifted5 (os : Os) (started : os.Started) (H : Type) (enc : TypeId × Value → H) :
    ReturnsInHanded {} Try.checked os 5 .any (Rows.luckLearnsSpec.pre6 enc Try.prog Try.f5 Rows.luckLearnsRow.domain false) (Rows.luckLearnsSpec.post enc Try.prog Try.f5 false true false false) := by
  refine returnsInHanded_of_change (C := Try.checked) own started (by kernel_rfl) Try.func5
    (ChangeSpec.witness6 (enc := enc) (C := Try.checked) false ⟨#[], #[.slice none 0 0, .slice none 0 0, .int .i64 0], []⟩ 8 (by kernel_rfl) (by kernel_rfl) (by kernel_rfl) (by kernel_rfl)) ?_
  intro W base args ds gs before hval0 hW hcnd _
  have hval : ∀ (j : Nat) t v, Try.f5.params[j]? = some t → args[j]? = some v → Value.okWide Try.prog W .any base t v := hval0
  have hW' := hW
  obtain ⟨p, q, hA0, hV, rfl, hfz, hnd⟩ := hW
  have hA : DataW.TrodAll enc Try.prog W 0 (fun _ => true) true Try.f5.params.toList args.toList ds p := hA0
  rw [Try.params5] at hA hval
  obtain ⟨v0, vs0, d0, ds0, p0, q0x, hargs, rfl, rfl, h0, r0⟩ := trodAll_cons hA
  obtain ⟨v1, vs1, d1, ds1, p1, q1x, rfl, rfl, rfl, h1, r1⟩ := trodAll_cons r0
  obtain ⟨v2, vs2, d2, ds2, p2, q2x, rfl, rfl, rfl, h2, r2⟩ := trodAll_cons r1
  obtain ⟨rfl, rfl, rfl⟩ := trodAll_nil r2
  obtain rfl : args = #[v0, v1, v2] := by cases args; simp_all
  obtain ⟨rfl, rfl⟩ := trodVars_none hV
  obtain ⟨z0, hO0⟩ := opened_mat (okWide_slice Try.underlying22 (hval 0 22 v0 rfl rfl)) h0
  obtain ⟨z1, hO1⟩ := opened_ints (okWide_slice Try.underlying23 (hval 1 23 v1 rfl rfl)) h1
  obtain ⟨n2, rfl, rfl, rfl, w2⟩ := open_int Try.underlying3 (hval 2 3 v2 rfl rfl) h2
  clear hA0 hval0
  simp only [List.append_nil, List.nil_append] at hW'
  have hlt0 : ∀ y ∈ p0, y.block < W.heap.size := fun y hy => hW'.lt y (by simp [hy])
  have hlt1 : ∀ y ∈ p1, y.block < W.heap.size := fun y hy => hW'.lt y (by simp [hy])
  obtain ⟨ro0, rl0, u0, hl0, hm0, hro0⟩ := ro_mat hO0 [] [] rfl
  have hP0 : RoP W ro0 rl0 := fun i b hb => by
    obtain ⟨y, h1, h2⟩ := hro0 i b hb
    refine ⟨y, h1, fun j hj => ?_⟩
    obtain ⟨h3, v', h4, h5⟩ := h2 j hj
    exact ⟨h3, v', h4, fun y => by simpa only [List.nil_append] using h5 y⟩
  obtain ⟨ro1, rl1, u1, hl1, hm1, hro1⟩ := ro_flat hO1 (ro0) (rl0) (by simp [hl0])
  have hP1 : RoP W ((ro0) ++ ro1) ((rl0) ++ rl1) := RoP.snoc (by simp [hl0]) hP0 hro1
  have hE : (Env.mk Try.prog W.heap.size W (ro0 ++ ro1) (rl0 ++ rl1)).Ok := by have := hP1.env; simpa only [List.nil_append] using this
  have hf0 : IsMat (ro0 ++ ro1) [] u0 z0 ∧ VR (rl0 ++ rl1) [] u0 v0 := by
    have := hm0 (ro1) (rl1) []
    simpa only [List.nil_append, List.append_nil, List.append_assoc] using this
  have hf1 : IsRowK .i64 (ro0 ++ ro1) [] u1 z1 ∧ VR (rl0 ++ rl1) [] u1 v1 := by
    have := hm1 ([]) ([]) []
    simpa only [List.nil_append, List.append_nil, List.append_assoc] using this
  obtain ⟨h', lw, lp, hcall⟩ := law5 (r := n2) hf0.1 hO0.fits hf1.1
  refine (call_of hE (vs := [u0, u1, .i .i64 n2]) (args := #[v0, v1, .int .i64 n2]) ⟨rfl, fun i w hw => by
    match i with
    | 0 => simp at hw; subst hw; exact hf0.2
    | 1 => simp at hw; subst hw; exact hf1.2
    | 2 => simp at hw; subst hw; exact .i _ _
    | i + 3 => simp at hw⟩ hcall).mono fun e W' ⟨he, hb⟩ => ?_
  subst he
  exact ⟨_, rfl, ⟨_, _, _, [], _, [], hW', (trodAll_cons_mk (shut_bool Try.underlying4 _) trodAll_mk0), (trodAll_cons_mk (Below.trod laidOut (by kernel_rfl) (of_decide_eq_true (by kernel_rfl)) h0 hb hlt0) (trodAll_cons_mk (Below.trod laidOut (by kernel_rfl) (of_decide_eq_true (by kernel_rfl)) h1 hb hlt1) (trodAll_cons_mk (shut_int Try.underlying3 w2) trodAll_mk0))), rfl, hb.frame _, fun h => by cases h⟩⟩

theorem over5 : Rows.luckLearnsRow.holds Try.pinned (OpenSpec.ofChange Rows.luckLearnsSpec) :=
  OpenClaim.holds_of_wide 5 Try.f5 rfl rfl rfl rfl rfl rfl rfl ⟨rfl, rfl, rfl, rfl, rfl⟩ rfl rfl rfl rfl rfl (by kernel_rfl) Try.func5 (by kernel_rfl)
    (of_decide_eq_true (by kernel_rfl)) (by unfold Func.isWrapper; first | (rw [if_pos (by decide +kernel)]; kernel_rfl) | (rw [if_neg (by decide +kernel)]; exact ⟨rfl, rfl⟩))
    (fun os started H enc _ => lifted5 os started H enc)

end Go.Proofs.Ytnalgdobglfndaa.T

namespace Go.Proofs.Ytnalgdobglfndaa
/-- the statement -/
theorem luckLearns_holds : Rows.LuckLearnsSaid := T.over5
end Go.Proofs.Ytnalgdobglfndaa
#print axioms Go.Proofs.Ytnalgdobglfndaa.luckLearns_holds

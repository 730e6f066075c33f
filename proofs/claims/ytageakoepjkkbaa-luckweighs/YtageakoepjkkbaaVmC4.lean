/- LuckWeighs: LuckWeighs: for every input the law returns true, and each argument reads behind the call as it read before. No conditions. No conditions. -/
import Derived.Test.YtageakoepjkkbaaVmK0
import Derived.ProofKit
import Derived.OpenShut
open Go.Vm
set_option linter.unusedVariables false
namespace Go.Proofs.Ytageakoepjkkbaa.T
open Go Go.RowKit Go.Deep Go.WideShapes Go.ChangeShapes Go.ChangeAt

set_option maxRecDepth 100000 in
theorem lifted4 (os : Os) (started : os.Started) (H : Type) (enc : TypeId × Value → H) :
    ReturnsInHanded {} Try.checked os 4 .any (Rows.luckWeighsSpec.pre6 enc Try.prog Try.f4 Rows.luckWeighsRow.domain false) (Rows.luckWeighsSpec.post enc Try.prog Try.f4 false true false false) := by
  refine returnsInHanded_of_change (C := Try.checked) own started (by kernel_rfl) Try.func4
    (ChangeSpec.witness6 (enc := enc) (C := Try.checked) false ⟨#[], #[.int .i64 0, .slice none 0 0, .slice none 0 0], []⟩ 8 (by kernel_rfl) (by kernel_rfl) (by kernel_rfl) (by kernel_rfl)) ?_
  intro W base args ds gs before hval0 hW hcnd _
  have hval : ∀ (j : Nat) t v, Try.f4.params[j]? = some t → args[j]? = some v → Value.okWide Try.prog W .any base t v := hval0
  have hW' := hW
  obtain ⟨p, q, hA0, hV, rfl, hfz, hnd⟩ := hW
  have hA : DataW.TrodAll enc Try.prog W 0 (fun _ => true) true Try.f4.params.toList args.toList ds p := hA0
  rw [Try.params4] at hA hval
  obtain ⟨v0, vs0, d0, ds0, p0, q0x, hargs, rfl, rfl, h0, r0⟩ := trodAll_cons hA
  obtain ⟨v1, vs1, d1, ds1, p1, q1x, rfl, rfl, rfl, h1, r1⟩ := trodAll_cons r0
  obtain ⟨v2, vs2, d2, ds2, p2, q2x, rfl, rfl, rfl, h2, r2⟩ := trodAll_cons r1
  obtain ⟨rfl, rfl, rfl⟩ := trodAll_nil r2
  obtain rfl : args = #[v0, v1, v2] := by cases args; simp_all
  obtain ⟨rfl, rfl⟩ := trodVars_none hV
  obtain ⟨n0, rfl, rfl, rfl, w0⟩ := open_int Try.underlying3 (hval 0 3 v0 rfl rfl) h0
  obtain ⟨z1, hO1⟩ := opened_mat (okWide_slice Try.underlying22 (hval 1 22 v1 rfl rfl)) h1
  obtain ⟨z2, hO2⟩ := opened_ints (okWide_slice Try.underlying23 (hval 2 23 v2 rfl rfl)) h2
  clear hA0 hval0
  simp only [List.append_nil, List.nil_append] at hW'
  have hlt1 : ∀ y ∈ p1, y.block < W.heap.size := fun y hy => hW'.lt y (by simp [hy])
  have hlt2 : ∀ y ∈ p2, y.block < W.heap.size := fun y hy => hW'.lt y (by simp [hy])
  obtain ⟨ro1, rl1, u1, hl1, hm1, hro1⟩ := ro_mat hO1 [] [] rfl
  have hP1 : RoP W ro1 rl1 := fun i b hb => by
    obtain ⟨y, h1, h2⟩ := hro1 i b hb
    refine ⟨y, h1, fun j hj => ?_⟩
    obtain ⟨h3, v', h4, h5⟩ := h2 j hj
    exact ⟨h3, v', h4, fun y => by simpa only [List.nil_append] using h5 y⟩
  obtain ⟨ro2, rl2, u2, hl2, hcap2, hm2, hro2⟩ := ro_flat hO2 (ro1) (rl1) (by simp [hl1])
  have hP2 : RoP W ((ro1) ++ ro2) ((rl1) ++ rl2) := RoP.snoc (by simp [hl1]) hP1 hro2
  have hE : (Env.mk Try.prog W.heap.size W (ro1 ++ ro2) (rl1 ++ rl2)).Ok := by have := hP2.env; simpa only [List.nil_append] using this
  have hf1 : IsMat (ro1 ++ ro2) [] u1 z1 ∧ VR (rl1 ++ rl2) [] u1 v1 := by
    have := hm1 (ro2) (rl2) []
    simpa only [List.nil_append, List.append_nil, List.append_assoc] using this
  have hf2 : IsRowK .i64 (ro1 ++ ro2) [] u2 z2 ∧ VR (rl1 ++ rl2) [] u2 v2 := by
    have := hm2 ([]) ([]) []
    simpa only [List.nil_append, List.append_nil, List.append_assoc] using this
  obtain ⟨h', lw, lp, hcall⟩ := law4 (n := n0) hf1.1 hO1.fits hf2.1
  refine (call_of hE (vs := [.i .i64 n0, u1, u2]) (args := #[.int .i64 n0, v1, v2]) ⟨rfl, fun i w hw => by
    match i with
    | 0 => simp at hw; subst hw; exact .i _ _
    | 1 => simp at hw; subst hw; exact hf1.2
    | 2 => simp at hw; subst hw; exact hf2.2
    | i + 3 => simp at hw⟩ hcall).mono fun e W' ⟨he, hb⟩ => ?_
  subst he
  exact ⟨_, rfl, ⟨_, _, _, [], _, [], hW', (trodAll_cons_mk (shut_bool Try.underlying4 _) trodAll_mk0), (trodAll_cons_mk (shut_int Try.underlying3 w0) (trodAll_cons_mk (Below.trod laidOut (by kernel_rfl) (of_decide_eq_true (by kernel_rfl)) h1 hb hlt1) (trodAll_cons_mk (Below.trod laidOut (by kernel_rfl) (of_decide_eq_true (by kernel_rfl)) h2 hb hlt2) trodAll_mk0))), rfl, hb.frame _, fun h => by cases h⟩⟩

theorem over4 : Rows.luckWeighsRow.holds Try.pinned (OpenSpec.ofChange Rows.luckWeighsSpec) :=
  OpenClaim.holds_of_wide 4 Try.f4 rfl rfl rfl rfl rfl rfl rfl ⟨rfl, rfl, rfl, rfl, rfl⟩ rfl rfl rfl rfl rfl (by kernel_rfl) Try.func4 (by kernel_rfl)
    (of_decide_eq_true (by kernel_rfl)) (by unfold Func.isWrapper; first | (rw [if_pos (by decide +kernel)]; kernel_rfl) | (rw [if_neg (by decide +kernel)]; exact ⟨rfl, rfl⟩))
    (fun os started H enc _ => lifted4 os started H enc)

end Go.Proofs.Ytageakoepjkkbaa.T

namespace Go.Proofs.Ytageakoepjkkbaa
/-- the statement -/
theorem luckWeighs_holds : Rows.LuckWeighsSaid := T.over4
end Go.Proofs.Ytageakoepjkkbaa
#print axioms Go.Proofs.Ytageakoepjkkbaa.luckWeighs_holds

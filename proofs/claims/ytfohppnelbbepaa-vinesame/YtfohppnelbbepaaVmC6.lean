/- VineSame: for all vines and shoots Same and Alike return the years and errors of the specification, and the example is right. No conditions. -/
import Derived.Test.YtfohppnelbbepaaVmK3
import Derived.ProofKit
import Derived.OpenShut
import Derived.ShutString
open Go.Vm
set_option linter.unusedVariables false
namespace Go.Proofs.Ytfohppnelbbepaa.T
open Go Go.RowKit Go.Deep Go.WideShapes Go.ChangeShapes Go.ChangeAt

attribute [local instance] ovA
set_option maxRecDepth 100000 in
theorem lifted6 (os : Os) (started : os.Started) (H : Type) (enc : TypeId × Value → H) :
    ReturnsInHanded {} Try.checked os 6 .any (Rows.vineSameSpec.pre6 enc Try.prog Try.f6 Rows.vineSameRow.domain false) (Rows.vineSameSpec.post enc Try.prog Try.f6 false true false false) := by
  refine returnsInHanded_of_change (C := Try.checked) own started (by kernel_rfl) Try.func6
    (ChangeSpec.witness6 (enc := enc) (C := Try.checked) false ⟨#[], #[.slice none 0 0, .string ByteArray.empty, .slice none 0 0, .string ByteArray.empty], []⟩ 8 (by kernel_rfl) (by kernel_rfl) (by kernel_rfl) (by kernel_rfl)) ?_
  intro W base args ds gs before hval0 hW hcnd _
  have hval : ∀ (j : Nat) t v, Try.f6.params[j]? = some t → args[j]? = some v → Value.okWide Try.prog W .any base t v := hval0
  have hW' := hW
  obtain ⟨p, q, hA0, hV, rfl, hfz, hnd⟩ := hW
  have hA : DataW.TrodAll enc Try.prog W 0 (fun _ => true) true Try.f6.params.toList args.toList ds p := hA0
  rw [Try.params6] at hA hval
  obtain ⟨v0, vs0, d0, ds0, p0, q0x, hargs, rfl, rfl, h0, r0⟩ := trodAll_cons hA
  obtain ⟨v1, vs1, d1, ds1, p1, q1x, rfl, rfl, rfl, h1, r1⟩ := trodAll_cons r0
  obtain ⟨v2, vs2, d2, ds2, p2, q2x, rfl, rfl, rfl, h2, r2⟩ := trodAll_cons r1
  obtain ⟨v3, vs3, d3, ds3, p3, q3x, rfl, rfl, rfl, h3, r3⟩ := trodAll_cons r2
  obtain ⟨rfl, rfl, rfl⟩ := trodAll_nil r3
  obtain rfl : args = #[v0, v1, v2, v3] := by cases args; simp_all
  obtain ⟨rfl, rfl⟩ := trodVars_none hV
  obtain ⟨z0, hO0⟩ := opened_strs (okWide_slice Try.underlying22 (hval 0 22 v0 rfl rfl)) h0
  obtain ⟨s1, rfl, rfl, rfl, w1⟩ := Go.ChangeMaps.open_string Try.underlying9 (hval 1 9 v1 rfl rfl) h1
  obtain ⟨z2, hO2⟩ := opened_strs (okWide_slice Try.underlying22 (hval 2 22 v2 rfl rfl)) h2
  obtain ⟨s3, rfl, rfl, rfl, w3⟩ := Go.ChangeMaps.open_string Try.underlying9 (hval 3 9 v3 rfl rfl) h3
  clear hA0 hval0
  simp only [List.append_nil, List.nil_append] at hW'
  have hlt0 : ∀ y ∈ p0, y.block < W.heap.size := fun y hy => hW'.lt y (by simp [hy])
  have hlt2 : ∀ y ∈ p2, y.block < W.heap.size := fun y hy => hW'.lt y (by simp [hy])
  obtain ⟨ro0, rl0, u0, hl0, hcap0, hm0, hro0⟩ := ro_strs hO0 ([]) ([]) (by simp [])
  have hP0 : RoP W ([] ++ ro0) ([] ++ rl0) := RoP.snoc rfl (RoP.nil W) hro0
  obtain ⟨ro2, rl2, u2, hl2, hcap2, hm2, hro2⟩ := ro_strs hO2 (ro0) (rl0) (by simp [hl0])
  have hP2 : RoP W ((ro0) ++ ro2) ((rl0) ++ rl2) := RoP.snoc (by simp [hl0]) hP0 hro2
  have hE : (Env.mk Try.prog W.heap.size W (ro0 ++ ro2) (rl0 ++ rl2)).Ok := by have := hP2.env; simpa only [List.nil_append] using this
  have hf0 : IsS (ro0 ++ ro2) [] u0 z0 ∧ VR (rl0 ++ rl2) [] u0 v0 := by
    have := hm0 (ro2) (rl2) []
    simpa only [List.nil_append, List.append_nil, List.append_assoc] using this
  have hf2 : IsS (ro0 ++ ro2) [] u2 z2 ∧ VR (rl0 ++ rl2) [] u2 v2 := by
    have := hm2 ([]) ([]) []
    simpa only [List.nil_append, List.append_nil, List.append_assoc] using this
  obtain ⟨h', lw, lp, hcall⟩ := exC (law6 aliveA hf0.1 hf2.1)
  refine (call_ofA hE (vs := [u0, .s s1.data.toList, u2, .s s3.data.toList]) (args := #[v0, .string s1, v2, .string s3]) ⟨rfl, fun i w hw => by
    match i with
    | 0 => simp at hw; subst hw; exact hf0.2
    | 1 => simp at hw; subst hw; exact vr_str s1 _
    | 2 => simp at hw; subst hw; exact hf2.2
    | 3 => simp at hw; subst hw; exact vr_str s3 _
    | i + 4 => simp at hw⟩ hcall).mono fun e W' ⟨he, hb⟩ => ?_
  subst he
  exact ⟨_, rfl, ⟨_, _, _, [], _, [], hW', (trodAll_cons_mk (shut_bool Try.underlying4 _) trodAll_mk0), (trodAll_cons_mk (Below.trod laidOut (by kernel_rfl) (of_decide_eq_true (by kernel_rfl)) h0 hb hlt0) (trodAll_cons_mk (shut_string_cell Try.underlying9 w1) (trodAll_cons_mk (Below.trod laidOut (by kernel_rfl) (of_decide_eq_true (by kernel_rfl)) h2 hb hlt2) (trodAll_cons_mk (shut_string_cell Try.underlying9 w3) trodAll_mk0)))), rfl, hb.frame _, fun h => by cases h⟩⟩

theorem over6 : Rows.vineSameRow.holds Try.pinned (OpenSpec.ofChange Rows.vineSameSpec) :=
  OpenClaim.holds_of_wide 6 Try.f6 rfl rfl rfl rfl rfl rfl rfl ⟨rfl, rfl, rfl, rfl, rfl⟩ rfl rfl rfl rfl rfl (by kernel_rfl) Try.func6 (by kernel_rfl)
    (of_decide_eq_true (by kernel_rfl)) (by unfold Func.isWrapper; first | (rw [if_pos (by decide +kernel)]; kernel_rfl) | (rw [if_neg (by decide +kernel)]; exact ⟨rfl, rfl⟩))
    (fun os started H enc _ => lifted6 os started H enc)

end Go.Proofs.Ytfohppnelbbepaa.T

namespace Go.Proofs.Ytfohppnelbbepaa
/-- the statement -/
theorem vineSame_holds : Rows.VineSameSaid := T.over6
end Go.Proofs.Ytfohppnelbbepaa
#print axioms Go.Proofs.Ytfohppnelbbepaa.vineSame_holds

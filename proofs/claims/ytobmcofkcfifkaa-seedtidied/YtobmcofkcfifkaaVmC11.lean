/- SeedTidied: Tidy of a word is the word, and Tidy of digits that are added place by place is the word of the sum. No conditions. -/
import Derived.Test.YtobmcofkcfifkaaVmK0
import Derived.ProofKit
import Derived.OpenShut
import Derived.ShutString
open Go.Vm
set_option linter.unusedVariables false
namespace Go.Proofs.Ytobmcofkcfifkaa.T
open Go Go.RowKit Go.Deep Go.WideShapes Go.ChangeShapes Go.ChangeAt

set_option maxRecDepth 100000 in
theorem lifted11 (os : Os) (started : os.Started) (H : Type) (enc : TypeId × Value → H) :
    ReturnsInHanded {} Try.checked os 11 .any (Rows.seedTidiedSpec.pre6 enc Try.prog Try.f11 Rows.seedTidiedRow.domain false) (Rows.seedTidiedSpec.post enc Try.prog Try.f11 false true false false) := by
  refine returnsInHanded_of_change (C := Try.checked) own started (by kernel_rfl) Try.func11
    (ChangeSpec.witness6 (enc := enc) (C := Try.checked) false ⟨#[], #[.slice none 0 0, .slice none 0 0], []⟩ 8 (by kernel_rfl) (by kernel_rfl) (by kernel_rfl) (by kernel_rfl)) ?_
  intro W base args ds gs before hval0 hW hcnd _
  have hval : ∀ (j : Nat) t v, Try.f11.params[j]? = some t → args[j]? = some v → Value.okWide Try.prog W .any base t v := hval0
  have hW' := hW
  obtain ⟨p, q, hA0, hV, rfl, hfz, hnd⟩ := hW
  have hA : DataW.TrodAll enc Try.prog W 0 (fun _ => true) true Try.f11.params.toList args.toList ds p := hA0
  rw [Try.params11] at hA hval
  obtain ⟨v0, vs0, d0, ds0, p0, q0x, hargs, rfl, rfl, h0, r0⟩ := trodAll_cons hA
  obtain ⟨v1, vs1, d1, ds1, p1, q1x, rfl, rfl, rfl, h1, r1⟩ := trodAll_cons r0
  obtain ⟨rfl, rfl, rfl⟩ := trodAll_nil r1
  obtain rfl : args = #[v0, v1] := by cases args; simp_all
  obtain ⟨rfl, rfl⟩ := trodVars_none hV
  obtain ⟨z0, hO0⟩ := opened_bytes (okWide_slice Try.underlying44 (hval 0 44 v0 rfl rfl)) h0
  obtain ⟨z1, hO1⟩ := opened_bytes (okWide_slice Try.underlying44 (hval 1 44 v1 rfl rfl)) h1
  clear hA0 hval0
  simp only [List.append_nil, List.nil_append] at hW'
  have hlt0 : ∀ y ∈ p0, y.block < W.heap.size := fun y hy => hW'.lt y (by simp [hy])
  have hlt1 : ∀ y ∈ p1, y.block < W.heap.size := fun y hy => hW'.lt y (by simp [hy])
  obtain ⟨ro0, rl0, u0, hl0, hcap0, hm0, hro0⟩ := ro_flat hO0 ([]) ([]) (by simp [])
  have hP0 : RoP W ([] ++ ro0) ([] ++ rl0) := RoP.snoc rfl (RoP.nil W) hro0
  obtain ⟨ro1, rl1, u1, hl1, hcap1, hm1, hro1⟩ := ro_flat hO1 (ro0) (rl0) (by simp [hl0])
  have hP1 : RoP W ((ro0) ++ ro1) ((rl0) ++ rl1) := RoP.snoc (by simp [hl0]) hP0 hro1
  have hE : (Env.mk Try.prog W.heap.size W (ro0 ++ ro1) (rl0 ++ rl1)).Ok := by have := hP1.env; simpa only [List.nil_append] using this
  have hf0 : IsRowK .u8 (ro0 ++ ro1) [] u0 z0 ∧ VR (rl0 ++ rl1) [] u0 v0 := by
    have := hm0 (ro1) (rl1) []
    simpa only [List.nil_append, List.append_nil, List.append_assoc] using this
  have hf1 : IsRowK .u8 (ro0 ++ ro1) [] u1 z1 ∧ VR (rl0 ++ rl1) [] u1 v1 := by
    have := hm1 ([]) ([]) []
    simpa only [List.nil_append, List.append_nil, List.append_assoc] using this
  obtain ⟨h', lw, lp, hcall⟩ := exC (law11 (ro := ro0 ++ ro1) (h := []) hf0.1 hf1.1 hO0.z hO1.z hO0.len_le hO1.len_le)
  refine (call_of hE (vs := [u0, u1]) (args := #[v0, v1]) ⟨rfl, fun i w hw => by
    match i with
    | 0 => simp at hw; subst hw; exact hf0.2
    | 1 => simp at hw; subst hw; exact hf1.2
    | i + 2 => simp at hw⟩ hcall).mono fun e W' ⟨he, hb⟩ => ?_
  subst he
  exact ⟨_, rfl, ⟨_, _, _, [], _, [], hW', (trodAll_cons_mk (shut_bool Try.underlying4 _) trodAll_mk0), (trodAll_cons_mk (Below.trod laidOut (by kernel_rfl) (of_decide_eq_true (by kernel_rfl)) h0 hb hlt0) (trodAll_cons_mk (Below.trod laidOut (by kernel_rfl) (of_decide_eq_true (by kernel_rfl)) h1 hb hlt1) trodAll_mk0)), rfl, hb.frame _, fun h => by cases h⟩⟩

theorem over11 : Rows.seedTidiedRow.holds Try.pinned (OpenSpec.ofChange Rows.seedTidiedSpec) :=
  OpenClaim.holds_of_wide 11 Try.f11 rfl rfl rfl rfl rfl rfl rfl ⟨rfl, rfl, rfl, rfl, rfl⟩ rfl rfl rfl rfl rfl (by kernel_rfl) Try.func11 (by kernel_rfl)
    (of_decide_eq_true (by kernel_rfl)) (by unfold Func.isWrapper; first | (rw [if_pos (by decide +kernel)]; kernel_rfl) | (rw [if_neg (by decide +kernel)]; exact ⟨rfl, rfl⟩))
    (fun os started H enc _ => lifted11 os started H enc)

end Go.Proofs.Ytobmcofkcfifkaa.T

namespace Go.Proofs.Ytobmcofkcfifkaa
/-- the statement -/
theorem seedTidied_holds : Rows.SeedTidiedSaid := T.over11
end Go.Proofs.Ytobmcofkcfifkaa
#print axioms Go.Proofs.Ytobmcofkcfifkaa.seedTidied_holds

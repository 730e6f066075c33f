/- ShareLovasz: for every number of gardeners, all costs, weights and sharings and every group the law returns true, and each argument reads behind the call as it read before. No conditions. -/
import Derived.Test.YthdglempcfknhaaVmK0
import Derived.ProofKit
import Derived.OpenShut
open Go.Vm
set_option linter.unusedVariables false
namespace Go.Proofs.Ythdglempcfknhaa.T
open Go Go.RowKit Go.Deep Go.WideShapes Go.ChangeShapes Go.ChangeAt

set_option maxRecDepth 100000 in
theorem lifted12 (os : Os) (started : os.Started) (H : Type) (enc : TypeId × Value → H) :
    ReturnsInHanded {} Try.checked os 12 .any (Rows.shareLovaszSpec.pre6 enc Try.prog Try.f12 Rows.shareLovaszRow.domain false) (Rows.shareLovaszSpec.post enc Try.prog Try.f12 false true false false) := by
  refine returnsInHanded_of_change (C := Try.checked) own started (by kernel_rfl) Try.func12
    (ChangeSpec.witness6 (enc := enc) (C := Try.checked) false ⟨#[], #[.int .i64 0, .slice none 0 0, .slice none 0 0, .slice none 0 0, .slice none 0 0, .int .u8 0], []⟩ 8 (by kernel_rfl) (by kernel_rfl) (by kernel_rfl) (by kernel_rfl)) ?_
  intro W base args ds gs before hval0 hW hcnd _
  have hval : ∀ (j : Nat) t v, Try.f12.params[j]? = some t → args[j]? = some v → Value.okWide Try.prog W .any base t v := hval0
  have hW' := hW
  obtain ⟨p, q, hA0, hV, rfl, hfz, hnd⟩ := hW
  have hA : DataW.TrodAll enc Try.prog W 0 (fun _ => true) true Try.f12.params.toList args.toList ds p := hA0
  rw [Try.params12] at hA hval
  obtain ⟨v0, vs0, d0, ds0, p0, q0x, hargs, rfl, rfl, h0, r0⟩ := trodAll_cons hA
  obtain ⟨v1, vs1, d1, ds1, p1, q1x, rfl, rfl, rfl, h1, r1⟩ := trodAll_cons r0
  obtain ⟨v2, vs2, d2, ds2, p2, q2x, rfl, rfl, rfl, h2, r2⟩ := trodAll_cons r1
  obtain ⟨v3, vs3, d3, ds3, p3, q3x, rfl, rfl, rfl, h3, r3⟩ := trodAll_cons r2
  obtain ⟨v4, vs4, d4, ds4, p4, q4x, rfl, rfl, rfl, h4, r4⟩ := trodAll_cons r3
  obtain ⟨v5, vs5, d5, ds5, p5, q5x, rfl, rfl, rfl, h5, r5⟩ := trodAll_cons r4
  obtain ⟨rfl, rfl, rfl⟩ := trodAll_nil r5
  obtain rfl : args = #[v0, v1, v2, v3, v4, v5] := by cases args; simp_all
  obtain ⟨rfl, rfl⟩ := trodVars_none hV
  obtain ⟨n0, rfl, rfl, rfl, w0⟩ := open_int Try.underlying3 (hval 0 3 v0 rfl rfl) h0
  obtain ⟨z1, hO1⟩ := opened_ints (okWide_slice Try.underlying22 (hval 1 22 v1 rfl rfl)) h1
  obtain ⟨z2, hO2⟩ := opened_ints (okWide_slice Try.underlying22 (hval 2 22 v2 rfl rfl)) h2
  obtain ⟨z3, hO3⟩ := opened_ints (okWide_slice Try.underlying22 (hval 3 22 v3 rfl rfl)) h3
  obtain ⟨z4, hO4⟩ := opened_ints (okWide_slice Try.underlying22 (hval 4 22 v4 rfl rfl)) h4
  obtain ⟨n5, rfl, rfl, rfl, w5⟩ := open_int Try.underlying5 (hval 5 5 v5 rfl rfl) h5
  clear hA0 hval0
  simp only [List.append_nil, List.nil_append] at hW'
  have hlt1 : ∀ y ∈ p1, y.block < W.heap.size := fun y hy => hW'.lt y (by simp [hy])
  have hlt2 : ∀ y ∈ p2, y.block < W.heap.size := fun y hy => hW'.lt y (by simp [hy])
  have hlt3 : ∀ y ∈ p3, y.block < W.heap.size := fun y hy => hW'.lt y (by simp [hy])
  have hlt4 : ∀ y ∈ p4, y.block < W.heap.size := fun y hy => hW'.lt y (by simp [hy])
  obtain ⟨ro1, rl1, u1, hl1, hcap1, hm1, hro1⟩ := ro_flat hO1 ([]) ([]) (by simp [])
  have hP1 : RoP W ([] ++ ro1) ([] ++ rl1) := RoP.snoc rfl (RoP.nil W) hro1
  obtain ⟨ro2, rl2, u2, hl2, hcap2, hm2, hro2⟩ := ro_flat hO2 (ro1) (rl1) (by simp [hl1])
  have hP2 : RoP W ((ro1) ++ ro2) ((rl1) ++ rl2) := RoP.snoc (by simp [hl1]) hP1 hro2
  obtain ⟨ro3, rl3, u3, hl3, hcap3, hm3, hro3⟩ := ro_flat hO3 (ro1 ++ ro2) (rl1 ++ rl2) (by simp [hl1, hl2])
  have hP3 : RoP W ((ro1 ++ ro2) ++ ro3) ((rl1 ++ rl2) ++ rl3) := RoP.snoc (by simp [hl1, hl2]) hP2 hro3
  obtain ⟨ro4, rl4, u4, hl4, hcap4, hm4, hro4⟩ := ro_flat hO4 (ro1 ++ ro2 ++ ro3) (rl1 ++ rl2 ++ rl3) (by simp [hl1, hl2, hl3])
  have hP4 : RoP W ((ro1 ++ ro2 ++ ro3) ++ ro4) ((rl1 ++ rl2 ++ rl3) ++ rl4) := RoP.snoc (by simp [hl1, hl2, hl3]) hP3 hro4
  have hE : (Env.mk Try.prog W.heap.size W (ro1 ++ ro2 ++ ro3 ++ ro4) (rl1 ++ rl2 ++ rl3 ++ rl4)).Ok := by have := hP4.env; simpa only [List.nil_append] using this
  have hf1 : IsRowK .i64 (ro1 ++ ro2 ++ ro3 ++ ro4) [] u1 z1 ∧ VR (rl1 ++ rl2 ++ rl3 ++ rl4) [] u1 v1 := by
    have := hm1 (ro2 ++ ro3 ++ ro4) (rl2 ++ rl3 ++ rl4) []
    simpa only [List.nil_append, List.append_nil, List.append_assoc] using this
  have hf2 : IsRowK .i64 (ro1 ++ ro2 ++ ro3 ++ ro4) [] u2 z2 ∧ VR (rl1 ++ rl2 ++ rl3 ++ rl4) [] u2 v2 := by
    have := hm2 (ro3 ++ ro4) (rl3 ++ rl4) []
    simpa only [List.nil_append, List.append_nil, List.append_assoc] using this
  have hf3 : IsRowK .i64 (ro1 ++ ro2 ++ ro3 ++ ro4) [] u3 z3 ∧ VR (rl1 ++ rl2 ++ rl3 ++ rl4) [] u3 v3 := by
    have := hm3 (ro4) (rl4) []
    simpa only [List.nil_append, List.append_nil, List.append_assoc] using this
  have hf4 : IsRowK .i64 (ro1 ++ ro2 ++ ro3 ++ ro4) [] u4 z4 ∧ VR (rl1 ++ rl2 ++ rl3 ++ rl4) [] u4 v4 := by
    have := hm4 ([]) ([]) []
    simpa only [List.nil_append, List.append_nil, List.append_assoc] using this
  obtain ⟨h', lw, lp, hcall⟩ := exC (law12 (n := n0) hf1.1 hO1.len_le hf2.1 hO2.len_le hf3.1 hO3.len_le hf4.1 hO4.len_le (wf_u8 w5))
  refine (call_of hE (vs := [.i .i64 n0, u1, u2, u3, u4, .i .u8 n5]) (args := #[.int .i64 n0, v1, v2, v3, v4, .int .u8 n5]) ⟨rfl, fun i w hw => by
    match i with
    | 0 => simp at hw; subst hw; exact .i _ _
    | 1 => simp at hw; subst hw; exact hf1.2
    | 2 => simp at hw; subst hw; exact hf2.2
    | 3 => simp at hw; subst hw; exact hf3.2
    | 4 => simp at hw; subst hw; exact hf4.2
    | 5 => simp at hw; subst hw; exact .i _ _
    | i + 6 => simp at hw⟩ hcall).mono fun e W' ⟨he, hb⟩ => ?_
  subst he
  exact ⟨_, rfl, ⟨_, _, _, [], _, [], hW', (trodAll_cons_mk (shut_bool Try.underlying4 _) trodAll_mk0), (trodAll_cons_mk (shut_int Try.underlying3 w0) (trodAll_cons_mk (Below.trod laidOut (by kernel_rfl) (of_decide_eq_true (by kernel_rfl)) h1 hb hlt1) (trodAll_cons_mk (Below.trod laidOut (by kernel_rfl) (of_decide_eq_true (by kernel_rfl)) h2 hb hlt2) (trodAll_cons_mk (Below.trod laidOut (by kernel_rfl) (of_decide_eq_true (by kernel_rfl)) h3 hb hlt3) (trodAll_cons_mk (Below.trod laidOut (by kernel_rfl) (of_decide_eq_true (by kernel_rfl)) h4 hb hlt4) (trodAll_cons_mk (shut_int Try.underlying5 w5) trodAll_mk0)))))), rfl, hb.frame _, fun h => by cases h⟩⟩

theorem over12 : Rows.shareLovaszRow.holds Try.pinned (OpenSpec.ofChange Rows.shareLovaszSpec) :=
  OpenClaim.holds_of_wide 12 Try.f12 rfl rfl rfl rfl rfl rfl rfl ⟨rfl, rfl, rfl, rfl, rfl⟩ rfl rfl rfl rfl rfl (by kernel_rfl) Try.func12 (by kernel_rfl)
    (of_decide_eq_true (by kernel_rfl)) (by unfold Func.isWrapper; first | (rw [if_pos (by decide +kernel)]; kernel_rfl) | (rw [if_neg (by decide +kernel)]; exact ⟨rfl, rfl⟩))
    (fun os started H enc _ => lifted12 os started H enc)

end Go.Proofs.Ythdglempcfknhaa.T

namespace Go.Proofs.Ythdglempcfknhaa
/-- the statement -/
theorem shareLovasz_holds : Rows.ShareLovaszSaid := T.over12
end Go.Proofs.Ythdglempcfknhaa
#print axioms Go.Proofs.Ythdglempcfknhaa.shareLovasz_holds

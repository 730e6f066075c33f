/- LuckGoal: for every number of nights and of foretellers, all lists and all choices of nights the law returns true, and each argument reads behind the call as it read before. No conditions. -/
import Derived.Test.YtnalgdobglfndaaVmK0
import Derived.ProofKit
import Derived.OpenShut
open Go.Vm
set_option linter.unusedVariables false
namespace Go.Proofs.Ytnalgdobglfndaa.T
open Go Go.RowKit Go.Deep Go.WideShapes Go.ChangeShapes Go.ChangeAt

theorem u8_rng {n : Int} (h : (Lit.int .u8 n).wf = true) : 0 ≤ n ∧ n < 65536 := by
  simp [Lit.wf, IntKind.min, IntKind.max, IntKind.signed, IntKind.bits] at h
  omega
set_option maxRecDepth 100000 in
theorem lifted14 (os : Os) (started : os.Started) (H : Type) (enc : TypeId × Value → H) :
    ReturnsInHanded {} Try.checked os 14 .any (Rows.luckGoalSpec.pre6 enc Try.prog Try.f14 Rows.luckGoalRow.domain false) (Rows.luckGoalSpec.post enc Try.prog Try.f14 false true false false) := by
  refine returnsInHanded_of_change (C := Try.checked) own started (by kernel_rfl) Try.func14
    (ChangeSpec.witness6 (enc := enc) (C := Try.checked) false ⟨#[], #[.int .i64 0, .int .i64 0, .slice none 0 0, .slice none 0 0], []⟩ 8 (by kernel_rfl) (by kernel_rfl) (by kernel_rfl) (by kernel_rfl)) ?_
  intro W base args ds gs before hval0 hW hcnd _
  have hval : ∀ (j : Nat) t v, Try.f14.params[j]? = some t → args[j]? = some v → Value.okWide Try.prog W .any base t v := hval0
  have hW' := hW
  obtain ⟨p, q, hA0, hV, rfl, hfz, hnd⟩ := hW
  have hA : DataW.TrodAll enc Try.prog W 0 (fun _ => true) true Try.f14.params.toList args.toList ds p := hA0
  rw [Try.params14] at hA hval
  obtain ⟨v0, vs0, d0, ds0, p0, q0x, hargs, rfl, rfl, h0, r0⟩ := trodAll_cons hA
  obtain ⟨v1, vs1, d1, ds1, p1, q1x, rfl, rfl, rfl, h1, r1⟩ := trodAll_cons r0
  obtain ⟨v2, vs2, d2, ds2, p2, q2x, rfl, rfl, rfl, h2, r2⟩ := trodAll_cons r1
  obtain ⟨v3, vs3, d3, ds3, p3, q3x, rfl, rfl, rfl, h3, r3⟩ := trodAll_cons r2
  obtain ⟨rfl, rfl, rfl⟩ := trodAll_nil r3
  obtain rfl : args = #[v0, v1, v2, v3] := by cases args; simp_all
  obtain ⟨rfl, rfl⟩ := trodVars_none hV
  obtain ⟨n0, rfl, rfl, rfl, w0⟩ := open_int Try.underlying3 (hval 0 3 v0 rfl rfl) h0
  obtain ⟨n1, rfl, rfl, rfl, w1⟩ := open_int Try.underlying3 (hval 1 3 v1 rfl rfl) h1
  obtain ⟨z2, hO2⟩ := opened_mat (okWide_slice Try.underlying22 (hval 2 22 v2 rfl rfl)) h2
  obtain ⟨z3, hO3⟩ := opened_bytes (okWide_slice Try.underlying59 (hval 3 59 v3 rfl rfl)) h3
  clear hA0 hval0
  simp only [List.append_nil, List.nil_append] at hW'
  have hlt2 : ∀ y ∈ p2, y.block < W.heap.size := fun y hy => hW'.lt y (by simp [hy])
  have hlt3 : ∀ y ∈ p3, y.block < W.heap.size := fun y hy => hW'.lt y (by simp [hy])
  obtain ⟨ro2, rl2, u2, hl2, hm2, hro2⟩ := ro_mat hO2 [] [] rfl
  have hP2 : RoP W ro2 rl2 := fun i b hb => by
    obtain ⟨y, h1, h2⟩ := hro2 i b hb
    refine ⟨y, h1, fun j hj => ?_⟩
    obtain ⟨h3, v', h4, h5⟩ := h2 j hj
    exact ⟨h3, v', h4, fun y => by simpa only [List.nil_append] using h5 y⟩
  obtain ⟨ro3, rl3, u3, hl3, hcap3, hm3, hro3⟩ := ro_flat hO3 (ro2) (rl2) (by simp [hl2])
  have hP3 : RoP W ((ro2) ++ ro3) ((rl2) ++ rl3) := RoP.snoc (by simp [hl2]) hP2 hro3
  have hE : (Env.mk Try.prog W.heap.size W (ro2 ++ ro3) (rl2 ++ rl3)).Ok := by have := hP3.env; simpa only [List.nil_append] using this
  have hf2 : IsMat (ro2 ++ ro3) [] u2 z2 ∧ VR (rl2 ++ rl3) [] u2 v2 := by
    have := hm2 (ro3) (rl3) []
    simpa only [List.nil_append, List.append_nil, List.append_assoc] using this
  have hf3 : IsRowK .u8 (ro2 ++ ro3) [] u3 z3 ∧ VR (rl2 ++ rl3) [] u3 v3 := by
    have := hm3 ([]) ([]) []
    simpa only [List.nil_append, List.append_nil, List.append_assoc] using this
  obtain ⟨h', lw, lp, hcall⟩ := law14 (k := n0) (n := n1) hf2.1 hO2.fits hf3.1 (fun t ht => u8_rng (hO3.z _ (by rw [List.getD_eq_getElem?_getD, List.getElem?_eq_getElem ht]; exact List.getElem_mem ht)))
  refine (call_of hE (vs := [.i .i64 n0, .i .i64 n1, u2, u3]) (args := #[.int .i64 n0, .int .i64 n1, v2, v3]) ⟨rfl, fun i w hw => by
    match i with
    | 0 => simp at hw; subst hw; exact .i _ _
    | 1 => simp at hw; subst hw; exact .i _ _
    | 2 => simp at hw; subst hw; exact hf2.2
    | 3 => simp at hw; subst hw; exact hf3.2
    | i + 4 => simp at hw⟩ hcall).mono fun e W' ⟨he, hb⟩ => ?_
  subst he
  exact ⟨_, rfl, ⟨_, _, _, [], _, [], hW', (trodAll_cons_mk (shut_bool Try.underlying4 _) trodAll_mk0), (trodAll_cons_mk (shut_int Try.underlying3 w0) (trodAll_cons_mk (shut_int Try.underlying3 w1) (trodAll_cons_mk (Below.trod laidOut (by kernel_rfl) (of_decide_eq_true (by kernel_rfl)) h2 hb hlt2) (trodAll_cons_mk (Below.trod laidOut (by kernel_rfl) (of_decide_eq_true (by kernel_rfl)) h3 hb hlt3) trodAll_mk0)))), rfl, hb.frame _, fun h => by cases h⟩⟩

theorem over14 : Rows.luckGoalRow.holds Try.pinned (OpenSpec.ofChange Rows.luckGoalSpec) :=
  OpenClaim.holds_of_wide 14 Try.f14 rfl rfl rfl rfl rfl rfl rfl ⟨rfl, rfl, rfl, rfl, rfl⟩ rfl rfl rfl rfl rfl (by kernel_rfl) Try.func14 (by kernel_rfl)
    (of_decide_eq_true (by kernel_rfl)) (by unfold Func.isWrapper; first | (rw [if_pos (by decide +kernel)]; kernel_rfl) | (rw [if_neg (by decide +kernel)]; exact ⟨rfl, rfl⟩))
    (fun os started H enc _ => lifted14 os started H enc)

end Go.Proofs.Ytnalgdobglfndaa.T

namespace Go.Proofs.Ytnalgdobglfndaa
/-- the statement -/
theorem luckGoal_holds : Rows.LuckGoalSaid := T.over14
end Go.Proofs.Ytnalgdobglfndaa
#print axioms Go.Proofs.Ytnalgdobglfndaa.luckGoal_holds

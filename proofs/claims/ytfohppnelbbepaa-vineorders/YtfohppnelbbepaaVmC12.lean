/- VineOrders: for all vines and shoots Dies succeeds exactly for kind 0, the lengths of the kinds 1 and 2 grow by the power that Kind tells, and for kind 3 some part doubles, as the document tells, and the example is right. No conditions. -/
import Derived.Test.YtfohppnelbbepaaVmK3
import Derived.ProofKit
import Derived.OpenShut
import Derived.ShutString
open Go.Vm
set_option linter.unusedVariables false
namespace Go.Proofs.Ytfohppnelbbepaa.T
open Go Go.RowKit Go.Deep Go.WideShapes Go.ChangeShapes Go.ChangeAt

attribute [local instance] ovA
set_option maxRecDepth 100000 in
theorem lifted12 (os : Os) (started : os.Started) (H : Type) (enc : TypeId × Value → H) :
  ReturnsInHanded {} Try.checked os 12 .any (Rows.vineOrdersSpec.pre6 enc Try.prog Try.f12 Rows.vineOrdersRow.domain false) (Rows.vineOrdersSpec.post enc Try.prog Try.f12 false true false false) := by
 refine returnsInHanded_of_change (C := Try.checked) own started (by kernel_rfl) Try.func12
  (ChangeSpec.witness6 (enc := enc) (C := Try.checked) false ⟨#[], #[.slice none 0 0, .string ByteArray.empty, .int .u8 0], []⟩ 8 (by kernel_rfl) (by kernel_rfl) (by kernel_rfl) (by kernel_rfl)) ?_
 intro W base args ds gs before hval0 hW hcnd _
 have hval : ∀ (j : Nat) t v, Try.f12.params[j]? = some t → args[j]? = some v → Value.okWide Try.prog W .any base t v := hval0
 have hW' := hW
 obtain ⟨p, q, hA0, hV, rfl, hfz, hnd⟩ := hW
 have hA : DataW.TrodAll enc Try.prog W 0 (fun _ => true) true Try.f12.params.toList args.toList ds p := hA0
 rw [Try.params12] at hA hval
 obtain ⟨v0, vs0, d0, ds0, p0, q0x, hargs, rfl, rfl, h0, r0⟩ := trodAll_cons hA
 obtain ⟨v1, vs1, d1, ds1, p1, q1x, rfl, rfl, rfl, h1, r1⟩ := trodAll_cons r0
 obtain ⟨v2, vs2, d2, ds2, p2, q2x, rfl, rfl, rfl, h2, r2⟩ := trodAll_cons r1
 obtain ⟨rfl, rfl, rfl⟩ := trodAll_nil r2
 obtain rfl : args = #[v0, v1, v2] := by cases args; simp_all
 obtain ⟨rfl, rfl⟩ := trodVars_none hV
 obtain ⟨z0, hO0⟩ := opened_strs (okWide_slice Try.underlying22 (hval 0 22 v0 rfl rfl)) h0
 obtain ⟨s1, rfl, rfl, rfl, w1⟩ := Go.ChangeMaps.open_string Try.underlying9 (hval 1 9 v1 rfl rfl) h1
 obtain ⟨n2, rfl, rfl, rfl, w2⟩ := open_int Try.underlying5 (hval 2 5 v2 rfl rfl) h2
 clear hA0 hval0
 simp only [List.append_nil, List.nil_append] at hW'
 have hlt0 : ∀ y ∈ p0, y.block < W.heap.size := fun y hy => hW'.lt y (by simp [hy])
 obtain ⟨ro0, rl0, u0, hl0, hcap0, hm0, hro0⟩ := ro_strs hO0 ([]) ([]) (by simp [])
 have hP0 : RoP W ([] ++ ro0) ([] ++ rl0) := RoP.snoc rfl (RoP.nil W) hro0
 have hE : (Env.mk Try.prog W.heap.size W (ro0) (rl0)).Ok := by have := hP0.env; simpa only [List.nil_append] using this
 have hf0 : IsS (ro0) [] u0 z0 ∧ VR (rl0) [] u0 v0 := by
  have := hm0 ([]) ([]) []
  simpa only [List.nil_append, List.append_nil, List.append_assoc] using this
 obtain ⟨h', lw, lp, hcall⟩ := exC (law12I aliveA hf0.1 (u8_in w2))
 refine (call_ofA hE (vs := [u0, .s s1.data.toList, .i .u8 n2]) (args := #[v0, .string s1, .int .u8 n2]) ⟨rfl, fun i w hw => by
  match i with
  | 0 => simp at hw; subst hw; exact hf0.2
  | 1 => simp at hw; subst hw; exact vr_str s1 _
  | 2 => simp at hw; subst hw; exact .i _ _
  | i + 3 => simp at hw⟩ hcall).mono fun e W' ⟨he, hb⟩ => ?_
 subst he
 exact ⟨_, rfl, ⟨_, _, _, [], _, [], hW', (trodAll_cons_mk (shut_bool Try.underlying4 _) trodAll_mk0), (trodAll_cons_mk (Below.trod laidOut (by kernel_rfl) (of_decide_eq_true (by kernel_rfl)) h0 hb hlt0) (trodAll_cons_mk (shut_string_cell Try.underlying9 w1) (trodAll_cons_mk (shut_int Try.underlying5 w2) trodAll_mk0))), rfl, hb.frame _, fun h => by cases h⟩⟩

theorem over12 : Rows.vineOrdersRow.holds Try.pinned (OpenSpec.ofChange Rows.vineOrdersSpec) :=
 OpenClaim.holds_of_wide 12 Try.f12 rfl rfl rfl rfl rfl rfl rfl ⟨rfl, rfl, rfl, rfl, rfl⟩ rfl rfl rfl rfl rfl (by kernel_rfl) Try.func12 (by kernel_rfl)
  (of_decide_eq_true (by kernel_rfl)) (by unfold Func.isWrapper; first | (rw [if_pos (by decide +kernel)]; kernel_rfl) | (rw [if_neg (by decide +kernel)]; exact ⟨rfl, rfl⟩))
  (fun os started H enc _ => lifted12 os started H enc)

end Go.Proofs.Ytfohppnelbbepaa.T

namespace Go.Proofs.Ytfohppnelbbepaa
/-- the statement -/
theorem vineOrders_holds : Rows.VineOrdersSaid := T.over12
end Go.Proofs.Ytfohppnelbbepaa
#print axioms Go.Proofs.Ytfohppnelbbepaa.vineOrders_holds

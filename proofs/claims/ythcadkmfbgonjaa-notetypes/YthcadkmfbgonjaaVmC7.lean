/- NoteTypes: for every input the law returns true, and each argument reads behind the call as it read before. No conditions. -/
import Derived.Test.YthcadkmfbgonjaaVmK0
import Derived.ProofKit
import Derived.OpenShut
import Derived.ShutString
open Go.Vm
set_option linter.unusedVariables false
namespace Go.Proofs.Ythcadkmfbgonjaa.T
open Go Go.RowKit Go.Deep Go.WideShapes Go.ChangeShapes Go.ChangeAt

set_option maxRecDepth 100000 in
theorem lifted7 (os : Os) (started : os.Started) (H : Type) (enc : TypeId × Value → H) :
    ReturnsInHanded {} Try.checked os 7 .any (Rows.noteTypesSpec.pre6 enc Try.prog Try.f7 Rows.noteTypesRow.domain false) (Rows.noteTypesSpec.post enc Try.prog Try.f7 false true false false) := by
  refine returnsInHanded_of_change (C := Try.checked) own started (by kernel_rfl) Try.func7
    (ChangeSpec.witness6 (enc := enc) (C := Try.checked) false ⟨#[], #[.slice none 0 0, .int .i64 0, .string ByteArray.empty, .int .i64 0], []⟩ 8 (by kernel_rfl) (by kernel_rfl) (by kernel_rfl) (by kernel_rfl)) ?_
  intro W base args ds gs before hval0 hW hcnd _
  have hval : ∀ (j : Nat) t v, Try.f7.params[j]? = some t → args[j]? = some v → Value.okWide Try.prog W .any base t v := hval0
  have hW' := hW
  obtain ⟨p, q, hA0, hV, rfl, hfz, hnd⟩ := hW
  have hA : DataW.TrodAll enc Try.prog W 0 (fun _ => true) true Try.f7.params.toList args.toList ds p := hA0
  rw [Try.params7] at hA hval
  obtain ⟨v0, vs0, d0, ds0, p0, q0x, hargs, rfl, rfl, h0, r0⟩ := trodAll_cons hA
  obtain ⟨v1, vs1, d1, ds1, p1, q1x, rfl, rfl, rfl, h1, r1⟩ := trodAll_cons r0
  obtain ⟨v2, vs2, d2, ds2, p2, q2x, rfl, rfl, rfl, h2, r2⟩ := trodAll_cons r1
  obtain ⟨v3, vs3, d3, ds3, p3, q3x, rfl, rfl, rfl, h3, r3⟩ := trodAll_cons r2
  obtain ⟨rfl, rfl, rfl⟩ := trodAll_nil r3
  obtain rfl : args = #[v0, v1, v2, v3] := by cases args; simp_all
  obtain ⟨rfl, rfl⟩ := trodVars_none hV
  obtain ⟨len0, X0, hO0⟩ := opened_list Try.underlying22 flds31 (okWide_slice Try.underlying22 (hval 0 22 v0 rfl rfl)) h0
  obtain ⟨n1, rfl, rfl, rfl, w1⟩ := open_int Try.underlying3 (hval 1 3 v1 rfl rfl) h1
  obtain ⟨s2, rfl, rfl, rfl, w2⟩ := Go.ChangeMaps.open_string Try.underlying9 (hval 2 9 v2 rfl rfl) h2
  obtain ⟨n3, rfl, rfl, rfl, w3⟩ := open_int Try.underlying3 (hval 3 3 v3 rfl rfl) h3
  clear hA0 hval0
  simp only [List.append_nil] at hW'
  have hlt0 : ∀ y ∈ p0, y.block < W.heap.size := fun y hy => hW'.lt y (by simp [hy])
  obtain ⟨ro0, rl0, u0, hl0, hcap0, hm0, hro0⟩ := ro_list hO0 (by decide) ([]) ([]) (by simp [])
  have hP0 : RoP W ([] ++ ro0) ([] ++ rl0) := RoP.snoc rfl (RoP.nil W) hro0
  have hE : (Env.mk Try.prog W.heap.size W (ro0) (rl0)).Ok := by have := hP0.env; simpa only [List.nil_append] using this
  have hf0 : IsL (ro0) [] u0 2 (X0.take len0) ∧ VR (rl0) [] u0 v0 := by
    have this : IsL ((([] : List ABlk)) ++ ro0 ++ ([])) [] u0 2 (X0.take len0) ∧ VR ((([] : Rl)) ++ rl0 ++ ([])) [] u0 v0 := hm0 ([]) ([]) []
    simpa only [List.nil_append, List.append_nil, List.append_assoc] using this
  obtain ⟨l0, hX0, hQ0⟩ := all_map (fun x hx => Typed.cl hx) (fun x hx => hO0.typed x (List.mem_of_mem_take hx))
  have hs0 : IsL (ro0) [] u0 2 (l0.map Cl.vs) := by rw [← hX0]; exact hf0.1
  have hn0 : l0.length ≤ 9223372036854775807 := by
    have h9 := congrArg List.length hX0
    rw [List.length_map, List.length_take] at h9
    have := hO0.len_le
    omega
  obtain ⟨h', lw, lp, hcall⟩ := law7 (ro := ro0) (h := []) (x := n1) (t := s2.data.toList) (y := n3) hs0 hcap0 hn0 (i64_le w1) (str_le w2)
  refine (call_of1 hE (vs := [u0, .i .i64 n1, .s s2.data.toList, .i .i64 n3]) (args := #[v0, .int .i64 n1, .string s2, .int .i64 n3]) ⟨rfl, fun i w hw => by
    match i with
    | 0 => simp at hw; subst hw; exact hf0.2
    | 1 => simp at hw; subst hw; exact .i _ _
    | 2 => simp at hw; subst hw; exact vr_str s2 _
    | 3 => simp at hw; subst hw; exact .i _ _
    | i + 4 => simp at hw⟩ hcall).mono fun e W' ⟨he, hb⟩ => ?_
  subst he
  exact ⟨_, rfl, ⟨_, _, _, [], _, [], hW', (trodAll_cons_mk (shut_bool Try.underlying4 _) trodAll_mk0), (trodAll_cons_mk (Below.trod laidOut (by kernel_rfl) (of_decide_eq_true (by kernel_rfl)) h0 hb hlt0) (trodAll_cons_mk (shut_int Try.underlying3 w1) (trodAll_cons_mk (shut_string_cell Try.underlying9 w2) (trodAll_cons_mk (shut_int Try.underlying3 w3) trodAll_mk0)))), rfl, hb.frame _, fun h => by cases h⟩⟩

theorem over7 : Rows.noteTypesRow.holds Try.pinned (OpenSpec.ofChange Rows.noteTypesSpec) :=
  OpenClaim.holds_of_wide 7 Try.f7 rfl rfl rfl rfl rfl rfl rfl ⟨rfl, rfl, rfl, rfl, rfl⟩ rfl rfl rfl rfl rfl (by kernel_rfl) Try.func7 (by kernel_rfl)
    (of_decide_eq_true (by kernel_rfl)) (by unfold Func.isWrapper; first | (rw [if_pos (by decide +kernel)]; kernel_rfl) | (rw [if_neg (by decide +kernel)]; exact ⟨rfl, rfl⟩))
    (fun os started H enc _ => lifted7 os started H enc)

end Go.Proofs.Ythcadkmfbgonjaa.T

namespace Go.Proofs.Ythcadkmfbgonjaa
/-- the statement -/
theorem noteTypes_holds : Rows.NoteTypesSaid := T.over7
end Go.Proofs.Ythcadkmfbgonjaa
#print axioms Go.Proofs.Ythcadkmfbgonjaa.noteTypes_holds

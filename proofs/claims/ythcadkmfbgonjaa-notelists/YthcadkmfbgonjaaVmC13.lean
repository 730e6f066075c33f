/- NoteLists: for every input the law returns true, and each argument reads behind the call as it read before. No conditions. -/
import Derived.Test.YthcadkmfbgonjaaVmK0
import Derived.ProofKit
import Derived.OpenShut
import Derived.ShutString
open Go.Vm
set_option linter.unusedVariables false
namespace Go.Proofs.Ythcadkmfbgonjaa.T
open Go Go.RowKit Go.Deep Go.WideShapes Go.ChangeShapes Go.ChangeAt

set_option maxRecDepth 100000 in
theorem lifted13 (os : Os) (started : os.Started) (H : Type) (enc : TypeId × Value → H) :
    ReturnsInHanded {} Try.checked os 13 .any (Rows.noteListsSpec.pre6 enc Try.prog Try.f13 Rows.noteListsRow.domain false) (Rows.noteListsSpec.post enc Try.prog Try.f13 false true false false) := by
  refine returnsInHanded_of_change (C := Try.checked) own started (by kernel_rfl) Try.func13
    (ChangeSpec.witness6 (enc := enc) (C := Try.checked) false ⟨#[], #[.slice none 0 0, .slice none 0 0, .slice none 0 0], []⟩ 8 (by kernel_rfl) (by kernel_rfl) (by kernel_rfl) (by kernel_rfl)) ?_
  intro W base args ds gs before hval0 hW hcnd _
  have hval : ∀ (j : Nat) t v, Try.f13.params[j]? = some t → args[j]? = some v → Value.okWide Try.prog W .any base t v := hval0
  have hW' := hW
  obtain ⟨p, q, hA0, hV, rfl, hfz, hnd⟩ := hW
  have hA : DataW.TrodAll enc Try.prog W 0 (fun _ => true) true Try.f13.params.toList args.toList ds p := hA0
  rw [Try.params13] at hA hval
  obtain ⟨v0, vs0, d0, ds0, p0, q0x, hargs, rfl, rfl, h0, r0⟩ := trodAll_cons hA
  obtain ⟨v1, vs1, d1, ds1, p1, q1x, rfl, rfl, rfl, h1, r1⟩ := trodAll_cons r0
  obtain ⟨v2, vs2, d2, ds2, p2, q2x, rfl, rfl, rfl, h2, r2⟩ := trodAll_cons r1
  obtain ⟨rfl, rfl, rfl⟩ := trodAll_nil r2
  obtain rfl : args = #[v0, v1, v2] := by cases args; simp_all
  obtain ⟨rfl, rfl⟩ := trodVars_none hV
  obtain ⟨len0, X0, hO0⟩ := opened_list Try.underlying22 flds31 (okWide_slice Try.underlying22 (hval 0 22 v0 rfl rfl)) h0
  obtain ⟨len1, X1, hO1⟩ := opened_list Try.underlying36 flds24 (okWide_slice Try.underlying36 (hval 1 36 v1 rfl rfl)) h1
  obtain ⟨len2, X2, hO2⟩ := opened_list Try.underlying36 flds24 (okWide_slice Try.underlying36 (hval 2 36 v2 rfl rfl)) h2
  clear hA0 hval0
  simp only [List.append_nil] at hW'
  have hlt0 : ∀ y ∈ p0, y.block < W.heap.size := fun y hy => hW'.lt y (by simp [hy])
  have hlt1 : ∀ y ∈ p1, y.block < W.heap.size := fun y hy => hW'.lt y (by simp [hy])
  have hlt2 : ∀ y ∈ p2, y.block < W.heap.size := fun y hy => hW'.lt y (by simp [hy])
  obtain ⟨ro0, rl0, u0, hl0, hcap0, hm0, hro0⟩ := ro_list hO0 (by decide) ([]) ([]) (by simp [])
  have hP0 : RoP W ([] ++ ro0) ([] ++ rl0) := RoP.snoc rfl (RoP.nil W) hro0
  obtain ⟨ro1, rl1, u1, hl1, hcap1, hm1, hro1⟩ := ro_list hO1 (by decide) (ro0) (rl0) (by simp [hl0])
  have hP1 : RoP W ((ro0) ++ ro1) ((rl0) ++ rl1) := RoP.snoc (by simp [hl0]) hP0 hro1
  obtain ⟨ro2, rl2, u2, hl2, hcap2, hm2, hro2⟩ := ro_list hO2 (by decide) (ro0 ++ ro1) (rl0 ++ rl1) (by simp [hl0, hl1])
  have hP2 : RoP W ((ro0 ++ ro1) ++ ro2) ((rl0 ++ rl1) ++ rl2) := RoP.snoc (by simp [hl0, hl1]) hP1 hro2
  have hE : (Env.mk Try.prog W.heap.size W (ro0 ++ ro1 ++ ro2) (rl0 ++ rl1 ++ rl2)).Ok := by have := hP2.env; simpa only [List.nil_append] using this
  have hf0 : IsL (ro0 ++ ro1 ++ ro2) [] u0 2 (X0.take len0) ∧ VR (rl0 ++ rl1 ++ rl2) [] u0 v0 := by
    have this : IsL ((([] : List ABlk)) ++ ro0 ++ (ro1 ++ ro2)) [] u0 2 (X0.take len0) ∧ VR ((([] : Rl)) ++ rl0 ++ (rl1 ++ rl2)) [] u0 v0 := hm0 (ro1 ++ ro2) (rl1 ++ rl2) []
    simpa only [List.nil_append, List.append_nil, List.append_assoc] using this
  obtain ⟨l0, hX0, hQ0⟩ := all_map (fun x hx => Typed.cl hx) (fun x hx => hO0.typed x (List.mem_of_mem_take hx))
  have hs0 : IsL (ro0 ++ ro1 ++ ro2) [] u0 2 (l0.map Cl.vs) := by rw [← hX0]; exact hf0.1
  have hn0 : l0.length ≤ 9223372036854775807 := by
    have h9 := congrArg List.length hX0
    rw [List.length_map, List.length_take] at h9
    have := hO0.len_le
    omega
  have hf1 : IsL (ro0 ++ ro1 ++ ro2) [] u1 4 (X1.take len1) ∧ VR (rl0 ++ rl1 ++ rl2) [] u1 v1 := by
    have this : IsL ((ro0) ++ ro1 ++ (ro2)) [] u1 4 (X1.take len1) ∧ VR ((rl0) ++ rl1 ++ (rl2)) [] u1 v1 := hm1 (ro2) (rl2) []
    simpa only [List.nil_append, List.append_nil, List.append_assoc] using this
  obtain ⟨l1, hX1, hQ1⟩ := all_map (fun x hx => Typed.ch hx) (fun x hx => hO1.typed x (List.mem_of_mem_take hx))
  have hs1 : IsL (ro0 ++ ro1 ++ ro2) [] u1 4 (l1.map Ch.vs) := by rw [← hX1]; exact hf1.1
  have hn1 : l1.length ≤ 9223372036854775807 := by
    have h9 := congrArg List.length hX1
    rw [List.length_map, List.length_take] at h9
    have := hO1.len_le
    omega
  have hf2 : IsL (ro0 ++ ro1 ++ ro2) [] u2 4 (X2.take len2) ∧ VR (rl0 ++ rl1 ++ rl2) [] u2 v2 := by
    have this : IsL ((ro0 ++ ro1) ++ ro2 ++ ([])) [] u2 4 (X2.take len2) ∧ VR ((rl0 ++ rl1) ++ rl2 ++ ([])) [] u2 v2 := hm2 ([]) ([]) []
    simpa only [List.nil_append, List.append_nil, List.append_assoc] using this
  obtain ⟨l2, hX2, hQ2⟩ := all_map (fun x hx => Typed.ch hx) (fun x hx => hO2.typed x (List.mem_of_mem_take hx))
  have hs2 : IsL (ro0 ++ ro1 ++ ro2) [] u2 4 (l2.map Ch.vs) := by rw [← hX2]; exact hf2.1
  have hn2 : l2.length ≤ 9223372036854775807 := by
    have h9 := congrArg List.length hX2
    rw [List.length_map, List.length_take] at h9
    have := hO2.len_le
    omega
  obtain ⟨h', lw, lp, hcall⟩ := law13 (ro := ro0 ++ ro1 ++ ro2) (h := []) hs0 hcap0 hs1 hs2 hcap2.1 hn0 hn1 hn2
  refine (call_of1 hE (vs := [u0, u1, u2]) (args := #[v0, v1, v2]) ⟨rfl, fun i w hw => by
    match i with
    | 0 => simp at hw; subst hw; exact hf0.2
    | 1 => simp at hw; subst hw; exact hf1.2
    | 2 => simp at hw; subst hw; exact hf2.2
    | i + 3 => simp at hw⟩ hcall).mono fun e W' ⟨he, hb⟩ => ?_
  subst he
  exact ⟨_, rfl, ⟨_, _, _, [], _, [], hW', (trodAll_cons_mk (shut_bool Try.underlying4 _) trodAll_mk0), (trodAll_cons_mk (Below.trod laidOut (by kernel_rfl) (of_decide_eq_true (by kernel_rfl)) h0 hb hlt0) (trodAll_cons_mk (Below.trod laidOut (by kernel_rfl) (of_decide_eq_true (by kernel_rfl)) h1 hb hlt1) (trodAll_cons_mk (Below.trod laidOut (by kernel_rfl) (of_decide_eq_true (by kernel_rfl)) h2 hb hlt2) trodAll_mk0))), rfl, hb.frame _, fun h => by cases h⟩⟩

theorem over13 : Rows.noteListsRow.holds Try.pinned (OpenSpec.ofChange Rows.noteListsSpec) :=
  OpenClaim.holds_of_wide 13 Try.f13 rfl rfl rfl rfl rfl rfl rfl ⟨rfl, rfl, rfl, rfl, rfl⟩ rfl rfl rfl rfl rfl (by kernel_rfl) Try.func13 (by kernel_rfl)
    (of_decide_eq_true (by kernel_rfl)) (by unfold Func.isWrapper; first | (rw [if_pos (by decide +kernel)]; kernel_rfl) | (rw [if_neg (by decide +kernel)]; exact ⟨rfl, rfl⟩))
    (fun os started H enc _ => lifted13 os started H enc)

end Go.Proofs.Ythcadkmfbgonjaa.T

namespace Go.Proofs.Ythcadkmfbgonjaa
/-- the statement -/
theorem noteLists_holds : Rows.NoteListsSaid := T.over13
end Go.Proofs.Ythcadkmfbgonjaa
#print axioms Go.Proofs.Ythcadkmfbgonjaa.noteLists_holds

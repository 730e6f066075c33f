/- NoteTurns: for every input the law returns true, and each argument reads behind the call as it read before. No conditions. -/
import Derived.Test.YthcadkmfbgonjaaVmK0
import Derived.ProofKit
import Derived.OpenShut
import Derived.ShutString
open Go.Vm
set_option linter.unusedVariables false
namespace Go.Proofs.Ythcadkmfbgonjaa.T
open Go Go.RowKit Go.Deep Go.WideShapes Go.ChangeShapes Go.ChangeAt

set_option maxRecDepth 100000 in
theorem lifted4 (os : Os) (started : os.Started) (H : Type) (enc : TypeId × Value → H) :
    ReturnsInHanded {} Try.checked os 4 .any (Rows.noteTurnsSpec.pre6 enc Try.prog Try.f4 Rows.noteTurnsRow.domain false) (Rows.noteTurnsSpec.post enc Try.prog Try.f4 false true false false) := by
  refine returnsInHanded_of_change (C := Try.checked) own started (by kernel_rfl) Try.func4
    (ChangeSpec.witness6 (enc := enc) (C := Try.checked) false ⟨#[], #[.agg #[.int .i64 0, .int .i64 0, .int .u8 0, .int .i64 0], .agg #[.int .i64 0, .int .i64 0, .int .u8 0, .int .i64 0], .slice none 0 0], []⟩ 8 (by kernel_rfl) (by kernel_rfl) (by kernel_rfl) (by kernel_rfl)) ?_
  intro W base args ds gs before hval0 hW hcnd _
  have hval : ∀ (j : Nat) t v, Try.f4.params[j]? = some t → args[j]? = some v → Value.okWide Try.prog W .any base t v := hval0
  have hW' := hW
  obtain ⟨p, q, hA0, hV, rfl, hfz, hnd⟩ := hW
  have hA : DataW.TrodAll enc Try.prog W 0 (fun _ => true) true Try.f4.params.toList args.toList ds p := hA0
  rw [Try.params4] at hA hval
  obtain ⟨v0, vs0, d0, ds0, p0, q0x, hargs, rfl, rfl, h0, r0⟩ := trodAll_cons hA
  obtain ⟨v1, vs1, d1, ds1, p1, q1x, rfl, rfl, rfl, h1, r1⟩ := trodAll_cons r0
  obtain ⟨v2, vs2, d2, ds2, p2, q2x, rfl, rfl, rfl, h2, r2⟩ := trodAll_cons r1
  obtain ⟨rfl, rfl, rfl⟩ := trodAll_nil r2
  obtain rfl : args = #[v0, v1, v2] := by cases args; simp_all
  obtain ⟨rfl, rfl⟩ := trodVars_none hV
  obtain ⟨x0, t0, e0⟩ := opened_struct flds24 (okWide_struct Try.underlying24 (hval 0 24 v0 rfl rfl)) h0
  obtain ⟨c0, ec0, fc0⟩ := t0.ch
  subst ec0
  subst e0
  obtain ⟨x1, t1, e1⟩ := opened_struct flds24 (okWide_struct Try.underlying24 (hval 1 24 v1 rfl rfl)) h1
  obtain ⟨c1, ec1, fc1⟩ := t1.ch
  subst ec1
  subst e1
  obtain ⟨len2, X2, hO2⟩ := opened_list Try.underlying36 flds24 (okWide_slice Try.underlying36 (hval 2 36 v2 rfl rfl)) h2
  clear hA0 hval0
  simp only [List.append_nil] at hW'
  have hlt0 : ∀ y ∈ p0, y.block < W.heap.size := fun y hy => hW'.lt y (by simp [hy])
  have hlt1 : ∀ y ∈ p1, y.block < W.heap.size := fun y hy => hW'.lt y (by simp [hy])
  have hlt2 : ∀ y ∈ p2, y.block < W.heap.size := fun y hy => hW'.lt y (by simp [hy])
  obtain ⟨ro2, rl2, u2, hl2, hcap2, hm2, hro2⟩ := ro_list hO2 (by decide) ([]) ([]) (by simp [])
  have hP2 : RoP W ([] ++ ro2) ([] ++ rl2) := RoP.snoc rfl (RoP.nil W) hro2
  have hE : (Env.mk Try.prog W.heap.size W (ro2) (rl2)).Ok := by have := hP2.env; simpa only [List.nil_append] using this
  have hf2 : IsL (ro2) [] u2 4 (X2.take len2) ∧ VR (rl2) [] u2 v2 := by
    have this : IsL ((([] : List ABlk)) ++ ro2 ++ ([])) [] u2 4 (X2.take len2) ∧ VR ((([] : Rl)) ++ rl2 ++ ([])) [] u2 v2 := hm2 ([]) ([]) []
    simpa only [List.nil_append, List.append_nil, List.append_assoc] using this
  obtain ⟨l2, hX2, hQ2⟩ := all_map (fun x hx => Typed.ch hx) (fun x hx => hO2.typed x (List.mem_of_mem_take hx))
  have hs2 : IsL (ro2) [] u2 4 (l2.map Ch.vs) := by rw [← hX2]; exact hf2.1
  have hn2 : l2.length ≤ 9223372036854775807 := by
    have h9 := congrArg List.length hX2
    rw [List.length_map, List.length_take] at h9
    have := hO2.len_le
    omega
  obtain ⟨h', lw, lp, hcall⟩ := law4 (ro := ro2) (h := []) (a := c0) (b := c1) hs2 hn2
  refine (call_of1 hE (vs := [c0.v, c1.v, u2]) (args := #[.agg (c0.vs.map toV).toArray, .agg (c1.vs.map toV).toArray, v2]) ⟨rfl, fun i w hw => by
    match i with
    | 0 => simp at hw; subst hw; exact vr_agg t0 _
    | 1 => simp at hw; subst hw; exact vr_agg t1 _
    | 2 => simp at hw; subst hw; exact hf2.2
    | i + 3 => simp at hw⟩ hcall).mono fun e W' ⟨he, hb⟩ => ?_
  subst he
  exact ⟨_, rfl, ⟨_, _, _, [], _, [], hW', (trodAll_cons_mk (shut_bool Try.underlying4 _) trodAll_mk0), (trodAll_cons_mk (Below.trod laidOut (by kernel_rfl) (of_decide_eq_true (by kernel_rfl)) h0 hb hlt0) (trodAll_cons_mk (Below.trod laidOut (by kernel_rfl) (of_decide_eq_true (by kernel_rfl)) h1 hb hlt1) (trodAll_cons_mk (Below.trod laidOut (by kernel_rfl) (of_decide_eq_true (by kernel_rfl)) h2 hb hlt2) trodAll_mk0))), rfl, hb.frame _, fun h => by cases h⟩⟩

theorem over4 : Rows.noteTurnsRow.holds Try.pinned (OpenSpec.ofChange Rows.noteTurnsSpec) :=
  OpenClaim.holds_of_wide 4 Try.f4 rfl rfl rfl rfl rfl rfl rfl ⟨rfl, rfl, rfl, rfl, rfl⟩ rfl rfl rfl rfl rfl (by kernel_rfl) Try.func4 (by kernel_rfl)
    (of_decide_eq_true (by kernel_rfl)) (by unfold Func.isWrapper; first | (rw [if_pos (by decide +kernel)]; kernel_rfl) | (rw [if_neg (by decide +kernel)]; exact ⟨rfl, rfl⟩))
    (fun os started H enc _ => lifted4 os started H enc)

end Go.Proofs.Ythcadkmfbgonjaa.T

namespace Go.Proofs.Ythcadkmfbgonjaa
/-- the statement -/
theorem noteTurns_holds : Rows.NoteTurnsSaid := T.over4
end Go.Proofs.Ythcadkmfbgonjaa
#print axioms Go.Proofs.Ythcadkmfbgonjaa.noteTurns_holds

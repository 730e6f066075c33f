/- FenceBridges: for every input the law returns true, and each argument reads behind the call as it read before. No conditions. -/
import Derived.Test.YtdjffnfjbeiomaaVmK0
import Derived.ProofKit
import Derived.OpenShut
import Derived.Leaving
import Derived.Conc.Holds
open Go.Vm
set_option linter.unusedVariables false
namespace Go.Proofs.Ytdjffnfjbeiomaa.T
open Go Go.RowKit Go.Deep Go.WideShapes Go.ChangeShapes Go.ChangeAt

set_option maxRecDepth 100000 in
theorem lifted3 (os : Os) (started : os.Started) (H : Type) (enc : TypeId × Value → H) :
    ReturnsInHanded {} Try.checked os 3 .any (Rows.fenceBridgesSpec.pre6 enc Try.prog Try.f3 Rows.fenceBridgesRow.domain false) (Rows.fenceBridgesSpec.post enc Try.prog Try.f3 false true false false) := by
  refine returnsInHanded_of_change (C := Try.checked) own started (by kernel_rfl) Try.func3
    (ChangeSpec.witness6 (enc := enc) (C := Try.checked) false ⟨#[], #[.int .i64 0, .slice none 0 0], []⟩ 8 (by kernel_rfl) (by kernel_rfl) (by kernel_rfl) (by kernel_rfl)) ?_
  intro W base args ds gs before hval0 hW hcnd _
  have hval : ∀ (j : Nat) t v, Try.f3.params[j]? = some t → args[j]? = some v → Value.okWide Try.prog W .any base t v := hval0
  have hW' := hW
  obtain ⟨p, q, hA0, hV, rfl, hfz, hnd⟩ := hW
  have hA : DataW.TrodAll enc Try.prog W 0 (fun _ => true) true Try.f3.params.toList args.toList ds p := hA0
  rw [Try.params3] at hA hval
  obtain ⟨v0, vs0, d0, ds0, p0, q0x, hargs, rfl, rfl, h0, r0⟩ := trodAll_cons hA
  obtain ⟨v1, vs1, d1, ds1, p1, q1x, rfl, rfl, rfl, h1, r1⟩ := trodAll_cons r0
  obtain ⟨rfl, rfl, rfl⟩ := trodAll_nil r1
  obtain rfl : args = #[v0, v1] := by cases args; simp_all
  obtain ⟨rfl, rfl⟩ := trodVars_none hV
  obtain ⟨n0, rfl, rfl, rfl, w0⟩ := open_int Try.underlying3 (hval 0 3 v0 rfl rfl) h0
  obtain ⟨len1, X1, hO1⟩ := opened_list Try.underlying22 flds45 (okWide_slice Try.underlying22 (hval 1 22 v1 rfl rfl)) h1
  clear hA0 hval0
  simp only [List.append_nil, List.nil_append] at hW'
  have hlt1 : ∀ y ∈ p1, y.block < W.heap.size := fun y hy => hW'.lt y (by simp [hy])
  obtain ⟨ro1, rl1, u1, hl1, hcap1, hm1, hro1⟩ := ro_list hO1 (by decide) ([]) ([]) (by simp [])
  have hP1 : RoP W ([] ++ ro1) ([] ++ rl1) := RoP.snoc rfl (RoP.nil W) hro1
  have hE : (Env.mk Try.prog W.heap.size W (ro1) (rl1)).Ok := by have := hP1.env; simpa only [List.nil_append] using this
  have hf1 : IsL (ro1) [] u1 2 (X1.take len1) ∧ VR (rl1) [] u1 v1 := by
    have this : IsL ((([] : List ABlk)) ++ ro1 ++ ([])) [] u1 2 (X1.take len1) ∧ VR ((([] : Rl)) ++ rl1 ++ ([])) [] u1 v1 := hm1 ([]) ([]) []
    simpa only [List.nil_append, List.append_nil, List.append_assoc] using this
  obtain ⟨l1, hX1, hQ1⟩ := all_map (fun x hx => Typed.fe hx) (fun x hx => hO1.typed x (List.mem_of_mem_take hx))
  have hs1 : IsL (ro1) [] u1 2 (l1.map Fe.vs) := by rw [← hX1]; exact hf1.1
  have hn1 : l1.length ≤ 9223372036854775807 := by
    have h9 := congrArg List.length hX1
    rw [List.length_map, List.length_take] at h9
    have := hO1.len_le
    omega
  obtain ⟨h', lw, lp, hcall⟩ := exC (law3 (n := n0) hs1)
  refine (call_of hE (vs := [.i .i64 n0, u1]) (args := #[.int .i64 n0, v1]) ⟨rfl, fun i w hw => by
    match i with
    | 0 => simp at hw; subst hw; exact .i _ _
    | 1 => simp at hw; subst hw; exact hf1.2
    | i + 2 => simp at hw⟩ hcall).mono fun e W' ⟨he, hb⟩ => ?_
  subst he
  exact ⟨_, rfl, ⟨_, _, _, [], _, [], hW', (trodAll_cons_mk (shut_bool Try.underlying4 _) trodAll_mk0), (trodAll_cons_mk (shut_int Try.underlying3 w0) (trodAll_cons_mk (Below.trod laidOut (by kernel_rfl) (of_decide_eq_true (by kernel_rfl)) h1 hb hlt1) trodAll_mk0)), rfl, hb.frame _, fun h => by cases h⟩⟩

theorem over3 : Rows.fenceBridgesRow.holds Try.pinned (OpenSpec.ofChange Rows.fenceBridgesSpec) :=
  OpenClaim.holds_of_wide_leaving 3 Try.f3 rfl rfl rfl rfl rfl rfl rfl ⟨rfl, rfl, rfl, rfl, rfl⟩ rfl rfl rfl rfl rfl (by kernel_rfl) Try.func3 (by kernel_rfl)
    (of_decide_eq_true (by kernel_rfl)) (by unfold Func.isWrapper; first | (rw [if_pos (by decide +kernel)]; kernel_rfl) | (rw [if_neg (by decide +kernel)]; exact ⟨rfl, rfl⟩))
    (fun os started H enc _ enter => ReturnsInOpen.mono (fun _ _ _ x => ⟨x.2.1, onlyLeaving_of_quiet x.1, x.2.2⟩) (fun _ x => x) (lifted3 os started H enc enter))

end Go.Proofs.Ytdjffnfjbeiomaa.T

namespace Go.Proofs.Ytdjffnfjbeiomaa
/-- the statement -/
theorem fenceBridges_holds : Rows.FenceBridgesSaid := T.over3
end Go.Proofs.Ytdjffnfjbeiomaa
#print axioms Go.Proofs.Ytdjffnfjbeiomaa.fenceBridges_holds

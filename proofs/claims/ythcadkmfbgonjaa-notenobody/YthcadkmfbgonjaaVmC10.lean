/- NoteNobody: for every input the law returns true, and each argument reads behind the call as it read before. No conditions. -/
import Derived.Test.YthcadkmfbgonjaaVmK0
import Derived.ProofKit
import Derived.OpenShut
import Derived.ShutString
open Go.Vm
set_option linter.unusedVariables false
namespace Go.Proofs.Ythcadkmfbgonjaa.T
open Go Go.RowKit Go.Deep Go.WideShapes Go.ChangeShapes Go.ChangeAt

set_option maxRecDepth 100000 in
theorem lifted10 (os : Os) (started : os.Started) (H : Type) (enc : TypeId × Value → H) :
    ReturnsInHanded {} Try.checked os 10 .any (Rows.noteNobodySpec.pre6 enc Try.prog Try.f10 Rows.noteNobodyRow.domain false) (Rows.noteNobodySpec.post enc Try.prog Try.f10 false true false false) := by
  refine returnsInHanded_of_change (C := Try.checked) own started (by kernel_rfl) Try.func10
    (ChangeSpec.witness6 (enc := enc) (C := Try.checked) false ⟨#[], #[.int .i64 0, .int .i64 0, .bool false], []⟩ 8 (by kernel_rfl) (by kernel_rfl) (by kernel_rfl) (by kernel_rfl)) ?_
  intro W base args ds gs before hval0 hW hcnd _
  have hval : ∀ (j : Nat) t v, Try.f10.params[j]? = some t → args[j]? = some v → Value.okWide Try.prog W .any base t v := hval0
  have hW' := hW
  obtain ⟨p, q, hA0, hV, rfl, hfz, hnd⟩ := hW
  have hA : DataW.TrodAll enc Try.prog W 0 (fun _ => true) true Try.f10.params.toList args.toList ds p := hA0
  rw [Try.params10] at hA hval
  obtain ⟨v0, vs0, d0, ds0, p0, q0x, hargs, rfl, rfl, h0, r0⟩ := trodAll_cons hA
  obtain ⟨v1, vs1, d1, ds1, p1, q1x, rfl, rfl, rfl, h1, r1⟩ := trodAll_cons r0
  obtain ⟨v2, vs2, d2, ds2, p2, q2x, rfl, rfl, rfl, h2, r2⟩ := trodAll_cons r1
  obtain ⟨rfl, rfl, rfl⟩ := trodAll_nil r2
  obtain rfl : args = #[v0, v1, v2] := by cases args; simp_all
  obtain ⟨rfl, rfl⟩ := trodVars_none hV
  obtain ⟨n0, rfl, rfl, rfl, w0⟩ := open_int Try.underlying3 (hval 0 3 v0 rfl rfl) h0
  obtain ⟨n1, rfl, rfl, rfl, w1⟩ := open_int Try.underlying3 (hval 1 3 v1 rfl rfl) h1
  obtain ⟨n2, rfl, rfl, rfl⟩ := open_bool Try.underlying4 (hval 2 4 v2 rfl rfl) h2
  clear hA0 hval0
  simp only [List.append_nil] at hW'
  have hE : (Env.mk Try.prog W.heap.size W [] []).Ok := env_ok fun i b hb => by simp at hb
  obtain ⟨h', lw, lp, hcall⟩ := law10 (ro := []) (h := []) (x := n0) (y := n1) (c := n2)
  refine (call_of1 hE (vs := [.i .i64 n0, .i .i64 n1, .b n2]) (args := #[.int .i64 n0, .int .i64 n1, .bool n2]) ⟨rfl, fun i w hw => by
    match i with
    | 0 => simp at hw; subst hw; exact .i _ _
    | 1 => simp at hw; subst hw; exact .i _ _
    | 2 => simp at hw; subst hw; exact .b _
    | i + 3 => simp at hw⟩ hcall).mono fun e W' ⟨he, hb⟩ => ?_
  subst he
  exact ⟨_, rfl, ⟨_, _, _, [], _, [], hW', (trodAll_cons_mk (shut_bool Try.underlying4 _) trodAll_mk0), (trodAll_cons_mk (shut_int Try.underlying3 w0) (trodAll_cons_mk (shut_int Try.underlying3 w1) (trodAll_cons_mk (shut_bool Try.underlying4 _) trodAll_mk0))), rfl, hb.frame _, fun h => by cases h⟩⟩

theorem over10 : Rows.noteNobodyRow.holds Try.pinned (OpenSpec.ofChange Rows.noteNobodySpec) :=
  OpenClaim.holds_of_wide 10 Try.f10 rfl rfl rfl rfl rfl rfl rfl ⟨rfl, rfl, rfl, rfl, rfl⟩ rfl rfl rfl rfl rfl (by kernel_rfl) Try.func10 (by kernel_rfl)
    (of_decide_eq_true (by kernel_rfl)) (by unfold Func.isWrapper; first | (rw [if_pos (by decide +kernel)]; kernel_rfl) | (rw [if_neg (by decide +kernel)]; exact ⟨rfl, rfl⟩))
    (fun os started H enc _ => lifted10 os started H enc)

end Go.Proofs.Ythcadkmfbgonjaa.T

namespace Go.Proofs.Ythcadkmfbgonjaa
/-- the statement -/
theorem noteNobody_holds : Rows.NoteNobodySaid := T.over10
end Go.Proofs.Ythcadkmfbgonjaa
#print axioms Go.Proofs.Ythcadkmfbgonjaa.noteNobody_holds

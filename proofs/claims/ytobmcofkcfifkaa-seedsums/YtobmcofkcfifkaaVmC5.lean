/- SeedSums: Sums and Letter answer as the reference does. No conditions. -/
import Derived.Test.YtobmcofkcfifkaaVmK0
import Derived.ProofKit
import Derived.OpenShut
import Derived.ShutString
open Go.Vm
set_option linter.unusedVariables false
namespace Go.Proofs.Ytobmcofkcfifkaa.T
open Go Go.RowKit Go.Deep Go.WideShapes Go.ChangeShapes Go.ChangeAt

set_option maxRecDepth 100000 in
theorem lifted5 (os : Os) (started : os.Started) (H : Type) (enc : TypeId × Value → H) :
    ReturnsInHanded {} Try.checked os 5 .any (Rows.seedSumsSpec.pre6 enc Try.prog Try.f5 Rows.seedSumsRow.domain false) (Rows.seedSumsSpec.post enc Try.prog Try.f5 false true false false) := by
  refine returnsInHanded_of_change (C := Try.checked) own started (by kernel_rfl) Try.func5
    (ChangeSpec.witness6 (enc := enc) (C := Try.checked) false ⟨#[], #[.int .i64 0], []⟩ 8 (by kernel_rfl) (by kernel_rfl) (by kernel_rfl) (by kernel_rfl)) ?_
  intro W base args ds gs before hval0 hW hcnd _
  have hval : ∀ (j : Nat) t v, Try.f5.params[j]? = some t → args[j]? = some v → Value.okWide Try.prog W .any base t v := hval0
  have hW' := hW
  obtain ⟨p, q, hA0, hV, rfl, hfz, hnd⟩ := hW
  have hA : DataW.TrodAll enc Try.prog W 0 (fun _ => true) true Try.f5.params.toList args.toList ds p := hA0
  rw [Try.params5] at hA hval
  obtain ⟨v0, vs0, d0, ds0, p0, q0x, hargs, rfl, rfl, h0, r0⟩ := trodAll_cons hA
  obtain ⟨rfl, rfl, rfl⟩ := trodAll_nil r0
  obtain rfl : args = #[v0] := by cases args; simp_all
  obtain ⟨rfl, rfl⟩ := trodVars_none hV
  obtain ⟨n0, rfl, rfl, rfl, w0⟩ := open_int Try.underlying3 (hval 0 3 v0 rfl rfl) h0
  clear hA0 hval0
  simp only [List.append_nil, List.nil_append] at hW'
  have hE : (Env.mk Try.prog W.heap.size W [] []).Ok := env_ok fun i b hb => by simp at hb
  obtain ⟨h', lw, lp, hcall⟩ := exC (law5 (ro := []) (h := []))
  refine (call_of hE (vs := [.i .i64 n0]) (args := #[.int .i64 n0]) ⟨rfl, fun i w hw => by
    match i with
    | 0 => simp at hw; subst hw; exact .i _ _
    | i + 1 => simp at hw⟩ hcall).mono fun e W' ⟨he, hb⟩ => ?_
  subst he
  exact ⟨_, rfl, ⟨_, _, _, [], _, [], hW', (trodAll_cons_mk (shut_bool Try.underlying4 _) trodAll_mk0), (trodAll_cons_mk (shut_int Try.underlying3 w0) trodAll_mk0), rfl, hb.frame _, fun h => by cases h⟩⟩

theorem over5 : Rows.seedSumsRow.holds Try.pinned (OpenSpec.ofChange Rows.seedSumsSpec) :=
  OpenClaim.holds_of_wide 5 Try.f5 rfl rfl rfl rfl rfl rfl rfl ⟨rfl, rfl, rfl, rfl, rfl⟩ rfl rfl rfl rfl rfl (by kernel_rfl) Try.func5 (by kernel_rfl)
    (of_decide_eq_true (by kernel_rfl)) (by unfold Func.isWrapper; first | (rw [if_pos (by decide +kernel)]; kernel_rfl) | (rw [if_neg (by decide +kernel)]; exact ⟨rfl, rfl⟩))
    (fun os started H enc _ => lifted5 os started H enc)

end Go.Proofs.Ytobmcofkcfifkaa.T

namespace Go.Proofs.Ytobmcofkcfifkaa
/-- the statement -/
theorem seedSums_holds : Rows.SeedSumsSaid := T.over5
end Go.Proofs.Ytobmcofkcfifkaa
#print axioms Go.Proofs.Ytobmcofkcfifkaa.seedSums_holds

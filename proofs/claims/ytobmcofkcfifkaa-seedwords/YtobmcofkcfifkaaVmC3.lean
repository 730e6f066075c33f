/- SeedWords: for all numbers and strings Write and Read return what the reference returns, and the example is right. No conditions. -/
import Derived.Test.YtobmcofkcfifkaaVmK0
import Derived.ProofKit
import Derived.OpenShut
import Derived.ShutString
open Go.Vm
set_option linter.unusedVariables false
namespace Go.Proofs.Ytobmcofkcfifkaa.T
open Go Go.RowKit Go.Deep Go.WideShapes Go.ChangeShapes Go.ChangeAt

set_option maxRecDepth 100000 in
theorem lifted3 (os : Os) (started : os.Started) (H : Type) (enc : TypeId × Value → H) :
    ReturnsInHanded {} Try.checked os 3 .any (Rows.seedWordsSpec.pre6 enc Try.prog Try.f3 Rows.seedWordsRow.domain false) (Rows.seedWordsSpec.post enc Try.prog Try.f3 false true false false) := by
  refine returnsInHanded_of_change (C := Try.checked) own started (by kernel_rfl) Try.func3
    (ChangeSpec.witness6 (enc := enc) (C := Try.checked) false ⟨#[], #[.int .i64 0, .string ByteArray.empty], []⟩ 8 (by kernel_rfl) (by kernel_rfl) (by kernel_rfl) (by kernel_rfl)) ?_
  intro W base args ds gs before hval0 hW hcnd _
  have hval : ∀ (j : Nat) t v, Try.f3.params[j]? = some t → args[j]? = some v → Value.okWide Try.prog W .any base t v := hval0
  have hW' := hW
  obtain ⟨p, q, hA0, hV, rfl, hfz, hnd⟩ := hW
  have hA : DataW.TrodAll enc Try.prog W 0 (fun _ => true) true Try.f3.params.toList args.toList ds p := hA0
  rw [Try.params3] at hA hval
  obtain ⟨v0, vs0, d0, ds0, p0, q0x, hargs, rfl, rfl, h0, r0⟩ := trodAll_cons hA
  obtain ⟨v1, vs1, d1, ds1, p1, q1x, rfl, rfl, rfl, h1, r1⟩ := trodAll_cons r0
  obtain ⟨rfl, rfl, rfl⟩ := trodAll_nil r1
  obtain rfl : args = #[v0, v1] := by cases args; simp_all
  obtain ⟨rfl, rfl⟩ := trodVars_none hV
  obtain ⟨n0, rfl, rfl, rfl, w0⟩ := open_int Try.underlying3 (hval 0 3 v0 rfl rfl) h0
  obtain ⟨s1, rfl, rfl, rfl, w1⟩ := Go.ChangeMaps.open_string Try.underlying9 (hval 1 9 v1 rfl rfl) h1
  clear hA0 hval0
  simp only [List.append_nil, List.nil_append] at hW'
  have hE : (Env.mk Try.prog W.heap.size W [] []).Ok := env_ok fun i b hb => by simp at hb
  obtain ⟨h', lw, lp, hcall⟩ := exC (law3 (ro := []) (h := []) (n := n0) (str_le w1))
  refine (call_of hE (vs := [.i .i64 n0, .s s1.data.toList]) (args := #[.int .i64 n0, .string s1]) ⟨rfl, fun i w hw => by
    match i with
    | 0 => simp at hw; subst hw; exact .i _ _
    | 1 => simp at hw; subst hw; exact vr_str s1 _
    | i + 2 => simp at hw⟩ hcall).mono fun e W' ⟨he, hb⟩ => ?_
  subst he
  exact ⟨_, rfl, ⟨_, _, _, [], _, [], hW', (trodAll_cons_mk (shut_bool Try.underlying4 _) trodAll_mk0), (trodAll_cons_mk (shut_int Try.underlying3 w0) (trodAll_cons_mk (shut_string_cell Try.underlying9 w1) trodAll_mk0)), rfl, hb.frame _, fun h => by cases h⟩⟩

theorem over3 : Rows.seedWordsRow.holds Try.pinned (OpenSpec.ofChange Rows.seedWordsSpec) :=
  OpenClaim.holds_of_wide 3 Try.f3 rfl rfl rfl rfl rfl rfl rfl ⟨rfl, rfl, rfl, rfl, rfl⟩ rfl rfl rfl rfl rfl (by kernel_rfl) Try.func3 (by kernel_rfl)
    (of_decide_eq_true (by kernel_rfl)) (by unfold Func.isWrapper; first | (rw [if_pos (by decide +kernel)]; kernel_rfl) | (rw [if_neg (by decide +kernel)]; exact ⟨rfl, rfl⟩))
    (fun os started H enc _ => lifted3 os started H enc)

end Go.Proofs.Ytobmcofkcfifkaa.T

namespace Go.Proofs.Ytobmcofkcfifkaa
/-- the statement -/
theorem seedWords_holds : Rows.SeedWordsSaid := T.over3
end Go.Proofs.Ytobmcofkcfifkaa
#print axioms Go.Proofs.Ytobmcofkcfifkaa.seedWords_holds

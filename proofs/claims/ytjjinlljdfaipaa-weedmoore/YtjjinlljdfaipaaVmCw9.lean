/- WeedMoore: for every rule the law returns true, and the argument reads behind the call as it read before. No conditions. -/
import Derived.Test.YtjjinlljdfaipaaVmM9
open Go.Vm
set_option linter.unusedVariables false
namespace Go.Proofs.Ytjjinlljdfaipaa.W
open Go Go.RowKit Go.Deep Go.WideShapes Go.ChangeShapes Go.ChangeAt

theorem law9 {n : Nat} (hn : n < 256) : ∃ h' lw lp, callX F3 [] 9 [.i .u8 n] [] = some (.b true, h', lw, lp) := rk3_ok (moo_all hn)

set_option maxRecDepth 100000 in
theorem lifted9 (os : Os) (started : os.Started) (H : Type) (enc : TypeId × Value → H) :
    ReturnsInHanded {} Try.checked os 9 .any (Rows.weedMooreSpec.pre6 enc Try.prog Try.f9 Rows.weedMooreRow.domain false) (Rows.weedMooreSpec.post enc Try.prog Try.f9 false true false false) := by
  refine returnsInHanded_of_change (C := Try.checked) own started (by kernel_rfl) Try.func9
    (ChangeSpec.witness6 (enc := enc) (C := Try.checked) false ⟨#[], #[.int .u8 0], []⟩ 8 (by kernel_rfl) (by kernel_rfl) (by kernel_rfl) (by kernel_rfl)) ?_
  intro W base args ds gs before hval0 hW hcnd _
  have hval : ∀ (j : Nat) t v, Try.f9.params[j]? = some t → args[j]? = some v → Value.okWide Try.prog W .any base t v := hval0
  have hW' := hW
  obtain ⟨p, q, hA0, hV, rfl, hfz, hnd⟩ := hW
  have hA : DataW.TrodAll enc Try.prog W 0 (fun _ => true) true Try.f9.params.toList args.toList ds p := hA0
  rw [Try.params9] at hA hval
  obtain ⟨v0, vs0, d0, ds0, p0, q0, hargs, rfl, rfl, h0, r0⟩ := trodAll_cons hA
  obtain ⟨rfl, rfl, rfl⟩ := trodAll_nil r0
  obtain rfl : args = #[v0] := by cases args; simp_all
  obtain ⟨rfl, rfl⟩ := trodVars_none hV
  obtain ⟨n0, rfl, rfl, rfl, w0⟩ := open_int Try.underlying5 (hval 0 5 v0 rfl rfl) h0
  obtain ⟨k, rfl, hk⟩ := u8_nat w0
  clear hA0 hval0
  have hE : (Env.mk Try.prog W.heap.size W [] []).Ok := env_ok fun i b hb => by simp at hb
  obtain ⟨h', lw, lp, hcall⟩ := law9 hk
  refine (call_of3 alive0 hE (vs := [.i .u8 k]) (args := #[.int .u8 k]) ⟨rfl, fun i w hw => by
    match i with
    | 0 => simp at hw; subst hw; exact .i _ _
    | i + 1 => simp at hw⟩ hcall).mono fun e W' ⟨he, hb⟩ => ?_
  subst he
  exact ⟨_, rfl, ⟨_, _, _, [], [], [], hW', (trodAll_cons_mk (shut_bool Try.underlying4 _) trodAll_mk0), (trodAll_cons_mk (shut_int Try.underlying5 w0) trodAll_mk0), rfl, hb.frame _, fun h => by cases h⟩⟩

theorem over9 : Rows.weedMooreRow.holds Try.pinned (OpenSpec.ofChange Rows.weedMooreSpec) :=
  OpenClaim.holds_of_wide 9 Try.f9 rfl rfl rfl rfl rfl rfl rfl ⟨rfl, rfl, rfl, rfl, rfl⟩ rfl rfl rfl rfl rfl (by kernel_rfl) Try.func9 (by kernel_rfl)
    (of_decide_eq_true (by kernel_rfl)) (by unfold Func.isWrapper; first | (rw [if_pos (by decide +kernel)]; kernel_rfl) | (rw [if_neg (by decide +kernel)]; exact ⟨rfl, rfl⟩))
    (fun os started H enc _ => lifted9 os started H enc)

end Go.Proofs.Ytjjinlljdfaipaa.W

namespace Go.Proofs.Ytjjinlljdfaipaa
/-- the statement -/
theorem weedMoore_holds : Rows.WeedMooreSaid := W.over9
end Go.Proofs.Ytjjinlljdfaipaa
#print axioms Go.Proofs.Ytjjinlljdfaipaa.weedMoore_holds

/- BedChecks: for every input the law returns true, and the argument reads behind the call as it read before. No conditions. -/
import Derived.Test.YtllmlonngnhbfaaVmK7
open Go.Vm
set_option linter.unusedVariables false
namespace Go.Proofs.Ytllmlonngnhbfaa.Bed
open Go Go.RowKit Go.Deep Go.WideShapes Go.ChangeShapes Go.ChangeAt

theorem checkV_tup (x : List (List Int)) : ∃ r c e : Int, checkV x = .tup [.i .i64 r, .i .i64 c, .i .i64 e] := by
  unfold checkV
  split
  · split <;> exact ⟨_, _, _, rfl⟩
  · exact ⟨_, _, _, rfl⟩

theorem law3 {ro : List ABlk} {v : AVal} {x : List (List Int)} (ha : IsMat ro [] v x) (hx : Fits x) : ∃ h' lw lp, callX F1 ro 3 [v] [] = some (.b true, h', lw, lp) := by
  suffices h : ∃ r, g3 (meansX F1 ro) ro v ⟨[], 0, 0⟩ = some r ∧ r.1 = .b true by
    obtain ⟨⟨w, h', lw, lp⟩, h1, rfl⟩ := h
    exact ⟨h', lw, lp, g3_ok (meansX_ok F1 ro) rfl h1⟩
  have hfew := few_ok ha hx
  unfold g3
  simp only [meansX_call, callM_pure (l := 0) (p := 0) hfew (Nat.zero_le _) (Nat.zero_le _), bindP_some, asB_b, forceB_eq]
  by_cases hf : few x
  · obtain ⟨v15, y, hcop, hm⟩ := copied_ok (ro := ro) (h := []) (a := v) (x := x) (fun y => by simpa using ha.ext y) hf
    rw [List.nil_append] at hcop hm
    have hcop' : callM (callX F1 ro) ⟨[], 0, 0⟩ 18 [v] = some (v15, ⟨y, 0, 0⟩) := callM_eq (call := callX F1 ro) (m := ⟨[], 0, 0⟩) hcop
    have hav : IsMat ro y v x := by simpa using ha.ext y
    obtain ⟨lw, hck, hl1, hl2⟩ := check_ok hm
    have hlw : lw = y.length := by omega
    subst hlw
    obtain ⟨r, c, e, hV⟩ := checkV_tup x
    rw [hV] at hck
    have hrf := refCheck_ok hav
    rw [hV] at hrf
    have hfl := hf.len
    have hbeds := beds_ok hm hav (by omega) (fun i hi => by have := (hf i hi).2; omega)
    simp only [hf, decide_true, Bool.not_true, cond_false, hcop', bindP_some, List.length_nil, Nat.min_self, callM_pure hck (Nat.zero_le _) (Nat.zero_le _), evP, ev_ext, opd, lget, bindO_some, asI_i, callM_pure hrf (Nat.zero_le _) (Nat.zero_le _), eqI_eq, beq_self_eq_true, cond_true,
      callM_pure hbeds (Nat.zero_le _) (Nat.zero_le _), asB_b, callM_pure alive_pure (Nat.zero_le _) (Nat.zero_le _), tupA]
    exact ⟨_, rfl, rfl⟩
  · simp only [hf, decide_false, Bool.not_false, cond_true, callM_pure (l := 0) (p := 0) alive_pure (Nat.zero_le _) (Nat.zero_le _), bindP_some, asB_b, tupA]
    exact ⟨_, rfl, rfl⟩

set_option maxRecDepth 100000 in
theorem lifted3 (os : Os) (started : os.Started) (H : Type) (enc : TypeId × Value → H) :
    ReturnsInHanded {} Try.checked os 3 .any (Rows.bedChecksSpec.pre6 enc Try.prog Try.f3 Rows.bedChecksRow.domain false) (Rows.bedChecksSpec.post enc Try.prog Try.f3 false true false false) := by
  refine returnsInHanded_of_change (C := Try.checked) own started (by kernel_rfl) Try.func3
    (ChangeSpec.witness6 (enc := enc) (C := Try.checked) false ⟨#[], #[.slice none 0 0], []⟩ 8 (by kernel_rfl) (by kernel_rfl) (by kernel_rfl) (by kernel_rfl)) ?_
  intro W base args ds gs before hval0 hW hcnd _
  have hval : ∀ (j : Nat) t v, Try.f3.params[j]? = some t → args[j]? = some v → Value.okWide Try.prog W .any base t v := hval0
  have hW' := hW
  obtain ⟨p, q, hA0, hV, rfl, hfz, hnd⟩ := hW
  have hA : DataW.TrodAll enc Try.prog W 0 (fun _ => true) true Try.f3.params.toList args.toList ds p := hA0
  rw [Try.params3] at hA hval
  obtain ⟨v0, vs0, d0, ds0, p0, q0, hargs, rfl, rfl, h0, r0⟩ := trodAll_cons hA
  obtain ⟨rfl, rfl, rfl⟩ := trodAll_nil r0
  obtain rfl : args = #[v0] := by cases args; simp_all
  obtain ⟨rfl, rfl⟩ := trodVars_none hV
  obtain ⟨x, hO⟩ := opened (okWide_slice Try.underlying22 (hval 0 22 v0 rfl rfl)) h0
  clear hA0 hval0
  simp only [List.append_nil] at hW'
  have hlt : ∀ y ∈ p0, y.block < W.heap.size := fun y hy => hW'.lt y (by simpa using hy)
  obtain ⟨ro, rl, v, hlen, hmv, hro⟩ := ro_of hO [] [] rfl
  have hE : (Env.mk Try.prog W.heap.size W ro rl).Ok := env_ok fun i b hb => by
    obtain ⟨y, h1, h2⟩ := hro i b hb
    refine ⟨y, h1, fun j hj => ?_⟩
    obtain ⟨h3, v', h4, h5⟩ := h2 j hj
    exact ⟨h3, v', h4, by simpa using h5 []⟩
  obtain ⟨hm, hv⟩ := hmv [] [] []
  simp only [List.nil_append, List.append_nil] at hm hv
  obtain ⟨h', lw, lp, hc⟩ := law3 hm hO.fits
  refine (call_of alive0 hE (vs := [v]) (args := #[v0]) ⟨rfl, fun i w hw => by
    cases i with
    | zero => simp at hw; subst hw; exact hv
    | succ i => simp at hw⟩ hc).mono fun e W' ⟨he, hb⟩ => ?_
  subst he
  exact ⟨_, rfl, ⟨_, _, _, [], p0 ++ [], [], hW', (trodAll_cons_mk (shut_bool Try.underlying4 _) trodAll_mk0), (trodAll_cons_mk (Below.trod laidOut (by kernel_rfl) (of_decide_eq_true (by kernel_rfl)) h0 hb hlt) trodAll_mk0), rfl, hb.frame _, fun h => by cases h⟩⟩

theorem over3 : Rows.bedChecksRow.holds Try.pinned (OpenSpec.ofChange Rows.bedChecksSpec) :=
  OpenClaim.holds_of_wide 3 Try.f3 rfl rfl rfl rfl rfl rfl rfl ⟨rfl, rfl, rfl, rfl, rfl⟩ rfl rfl rfl rfl rfl (by kernel_rfl) Try.func3 (by kernel_rfl)
    (of_decide_eq_true (by kernel_rfl)) (by unfold Func.isWrapper; first | (rw [if_pos (by decide +kernel)]; kernel_rfl) | (rw [if_neg (by decide +kernel)]; exact ⟨rfl, rfl⟩))
    (fun os started H enc _ => lifted3 os started H enc)

end Go.Proofs.Ytllmlonngnhbfaa.Bed

namespace Go.Proofs.Ytllmlonngnhbfaa
/-- the statement -/
theorem bedChecks_holds : Rows.BedChecksSaid := Bed.over3
end Go.Proofs.Ytllmlonngnhbfaa
#print axioms Go.Proofs.Ytllmlonngnhbfaa.bedChecks_holds

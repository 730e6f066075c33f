/- BedMates: for every input the law returns true, and the arguments read behind the call as they read before. No conditions. -/
import Derived.Test.YtllmlonngnhbfaaVmKM1
open Go.Vm
set_option linter.unusedVariables false
namespace Go.Proofs.Ytllmlonngnhbfaa.Bed
open Go Go.RowKit Go.Deep Go.WideShapes Go.ChangeShapes Go.ChangeAt

theorem law8 {ro : List ABlk} {a b : AVal} {x y : List (List Int)} (ha : ∀ h, IsMat ro h a x) (hb : ∀ h, IsMat ro h b y) (hx : Fits x) (hy : Fits y) : ∃ h' lw lp, callX F1 ro 8 [a, b] [] = some (.b true, h', lw, lp) := by
  classical
  suffices h : ∃ r, g8 (meansX F1 ro) ro a b ⟨[], 0, 0⟩ = some r ∧ r.1 = .b true by
    obtain ⟨⟨w, h', lw, lp⟩, h1, rfl⟩ := h
    exact ⟨h', lw, lp, g8_ok (meansX_ok F1 ro) rfl h1⟩
  have c1 := callM_pure (call := callX F1 ro) (l := 0) (p := 0) (few_ok (ha []) hx) (Nat.zero_le _) (Nat.zero_le _)
  have c2 := callM_pure (call := callX F1 ro) (l := 0) (p := 0) (few_ok (hb []) hy) (Nat.zero_le _) (Nat.zero_le _)
  have halive := fun y => callM_pure (call := callX F1 ro) (h := y) (l := 0) (p := 0) alive_pure (Nat.zero_le _) (Nat.zero_le _)
  have c3 := callM_pure (call := callX F1 ro) (l := 0) (p := 0) (ma35 (ha []) (hb [])) (Nat.zero_le _) (Nat.zero_le _)
  have c4 := callM_pure (call := callX F1 ro) (l := 0) (p := 0) (ma36 (ha []) (hb [])) (Nat.zero_le _) (Nat.zero_le _)
  obtain ⟨v1, y1, l1, p1, d1, d2⟩ := ma37 (ha [])
  rw [List.nil_append] at d1 d2
  have c5 : callM (callX F1 ro) ⟨[], 0, 0⟩ 37 [a] = some (.tup [v1, .i .i64 (mme x)], ⟨y1, 0, 0⟩) := (callM_eq (call := callX F1 ro) (m := ⟨[], 0, 0⟩) d1).trans (by simp)
  obtain ⟨v2, y2, l2, p2, d3, d4⟩ := ma38 (h := y1) ha
  have c6 : callM (callX F1 ro) ⟨y1, 0, 0⟩ 38 [a] = some (.tup [v2, .i .i64 (mme x)], ⟨y1 ++ y2, 0, 0⟩) := (callM_eq (call := callX F1 ro) (m := ⟨y1, 0, 0⟩) d3).trans (by simp)
  obtain ⟨s1, s2⟩ := mm_small (x := x)
  have c7 := callM_pure (call := callX F1 ro) (l := 0) (p := 0) (beds_ok (d2.ext y2) d4 (by omega) (fun i hi => by have := s2 i hi; omega)) (Nat.zero_le _) (Nat.zero_le _)
  rw [decide_eq_true (rfl : mm x = mm x)] at c7
  have bb : ∀ p : Bool, (p == p) = true := fun p => by cases p <;> rfl
  have ii : ∀ p : Int, (p == p) = true := fun p => by simp
  unfold g8
  by_cases hfx : few x
  · by_cases hfy : few y
    · simp only [meansX_call, c1, hfx, bindP_some, asB_b, forceB_eq, decide_true, Bool.not_true, cond_false, c2, hfy, bindO_some, c3, c4, c5, c6, c7, evP, ev_ext, opd, lget, asI_i, bb, eqI_eq, ii, cond_true, halive, tupA]
      exact ⟨_, rfl, rfl⟩
    · simp only [meansX_call, c1, hfx, bindP_some, asB_b, forceB_eq, decide_true, Bool.not_true, cond_false, c2, hfy, decide_false, Bool.not_false, bindO_some, cond_true, halive, tupA]
      exact ⟨_, rfl, rfl⟩
  · simp only [meansX_call, c1, hfx, bindP_some, asB_b, forceB_eq, decide_false, Bool.not_false, cond_true, bindO_some, halive, tupA]
    exact ⟨_, rfl, rfl⟩

set_option maxRecDepth 100000 in
theorem lifted8 (os : Os) (started : os.Started) (H : Type) (enc : TypeId × Value → H) :
    ReturnsInHanded {} Try.checked os 8 .any (Rows.bedMatesSpec.pre6 enc Try.prog Try.f8 Rows.bedMatesRow.domain false) (Rows.bedMatesSpec.post enc Try.prog Try.f8 false true false false) := by
  refine returnsInHanded_of_change (C := Try.checked) own started (by kernel_rfl) Try.func8
    (ChangeSpec.witness6 (enc := enc) (C := Try.checked) false ⟨#[], #[.slice none 0 0, .slice none 0 0], []⟩ 8 (by kernel_rfl) (by kernel_rfl) (by kernel_rfl) (by kernel_rfl)) ?_
  intro W base args ds gs before hval0 hW hcnd _
  have hval : ∀ (j : Nat) t v, Try.f8.params[j]? = some t → args[j]? = some v → Value.okWide Try.prog W .any base t v := hval0
  have hW' := hW
  obtain ⟨p, q, hA0, hV, rfl, hfz, hnd⟩ := hW
  have hA : DataW.TrodAll enc Try.prog W 0 (fun _ => true) true Try.f8.params.toList args.toList ds p := hA0
  rw [Try.params8] at hA hval
  obtain ⟨v0, vs0, d0, ds0, p0, q0, hargs, rfl, rfl, h0, r0⟩ := trodAll_cons hA
  obtain ⟨v1, vs1, d1, ds1, p1, q1, rfl, rfl, rfl, h1, r1⟩ := trodAll_cons r0
  obtain ⟨rfl, rfl, rfl⟩ := trodAll_nil r1
  obtain rfl : args = #[v0, v1] := by cases args; simp_all
  obtain ⟨rfl, rfl⟩ := trodVars_none hV
  obtain ⟨x, hO⟩ := opened (okWide_slice Try.underlying22 (hval 0 22 v0 rfl rfl)) h0
  obtain ⟨y, hO1⟩ := opened (okWide_slice Try.underlying22 (hval 1 22 v1 rfl rfl)) h1
  clear hA0 hval0
  have hlt0 : ∀ y ∈ p0, y.block < W.heap.size := fun y hy => hW'.lt y (by simp [hy])
  have hlt1 : ∀ y ∈ p1, y.block < W.heap.size := fun y hy => hW'.lt y (by simp [hy])
  obtain ⟨ro, rl, u0, u1, hE, hm0, hm1, hv0, hv1⟩ := two_of hO hO1
  obtain ⟨h', lw, lp, hc⟩ := law8 hm0 hm1 hO.fits hO1.fits
  refine (call_of alive0 hE (vs := [u0, u1]) (args := #[v0, v1]) ⟨rfl, fun i w hw => by
    match i with
    | 0 => simp at hw; subst hw; exact hv0
    | 1 => simp at hw; subst hw; exact hv1
    | i + 2 => simp at hw⟩ hc).mono fun e W' ⟨he, hb⟩ => ?_
  subst he
  exact ⟨_, rfl, ⟨_, _, _, [], p0 ++ (p1 ++ []), [], hW', (trodAll_cons_mk (shut_bool Try.underlying4 _) trodAll_mk0), (trodAll_cons_mk (Below.trod laidOut (by kernel_rfl) (of_decide_eq_true (by kernel_rfl)) h0 hb hlt0) (trodAll_cons_mk (Below.trod laidOut (by kernel_rfl) (of_decide_eq_true (by kernel_rfl)) h1 hb hlt1) trodAll_mk0)), rfl, hb.frame _, fun h => by cases h⟩⟩

theorem over8 : Rows.bedMatesRow.holds Try.pinned (OpenSpec.ofChange Rows.bedMatesSpec) :=
  OpenClaim.holds_of_wide 8 Try.f8 rfl rfl rfl rfl rfl rfl rfl ⟨rfl, rfl, rfl, rfl, rfl⟩ rfl rfl rfl rfl rfl (by kernel_rfl) Try.func8 (by kernel_rfl)
    (of_decide_eq_true (by kernel_rfl)) (by unfold Func.isWrapper; first | (rw [if_pos (by decide +kernel)]; kernel_rfl) | (rw [if_neg (by decide +kernel)]; exact ⟨rfl, rfl⟩))
    (fun os started H enc _ => lifted8 os started H enc)

end Go.Proofs.Ytllmlonngnhbfaa.Bed

namespace Go.Proofs.Ytllmlonngnhbfaa
/-- the statement -/
theorem bedMates_holds : Rows.BedMatesSaid := Bed.over8
end Go.Proofs.Ytllmlonngnhbfaa
#print axioms Go.Proofs.Ytllmlonngnhbfaa.bedMates_holds

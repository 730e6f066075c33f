/- BedTransversals: for every input the law returns true, and the argument reads behind the call as it read before. No conditions. -/
import Derived.Test.YtllmlonngnhbfaaVmKM0
open Go.Vm
set_option linter.unusedVariables false
namespace Go.Proofs.Ytllmlonngnhbfaa.Bed
open Go Go.RowKit Go.Deep Go.WideShapes Go.ChangeShapes Go.ChangeAt

open Classical in
noncomputable def tz (x : List (List Int)) : List Int := if fullP x then (match (trs x).head? with
  | none => []
  | some z => nts z) else []
open Classical in
noncomputable def te (x : List (List Int)) : Int := if fullP x then (match (trs x).head? with
  | none => 10
  | some _ => 0) else 2
open Classical in
noncomputable def tc (x : List (List Int)) : Int := if fullP x then ((trs x).length : Nat) else 0
open Classical in
noncomputable def tce (x : List (List Int)) : Int := if fullP x then 0 else 2

theorem tz_len {x : List (List Int)} : (tz x).length ≤ 7 := by
  unfold tz
  split
  · rename_i hf
    cases hd : (trs x).head? with
    | none => simp
    | some z =>
      have hm : z ∈ trs x := List.mem_of_head? hd
      have := trs_elem _ _ _ hm
      have h7 := hf.1.1.2.1
      simp only [nts_len]
      simp at this
      omega
  · simp

theorem tr31 {ro : List ABlk} {h : Heap} {a : AVal} {x : List (List Int)} (ha : IsMat ro h a x) : ∃ v y lw lp, callX F1 ro 31 [a] h = some (.tup [v, .i .i64 (te x)], h ++ y, lw, lp) ∧ IsRow ro (h ++ y) v (tz x) := by
  by_cases hf : fullP x
  · obtain ⟨v, e, y, lw, lp, h1, h2⟩ := transversal_ok ha hf
    unfold te tz
    rw [if_pos hf, if_pos hf]
    cases hd : (trs x).head? with
    | none =>
      rw [hd] at h2
      obtain ⟨rfl, rfl⟩ := h2
      exact ⟨_, y, lw, lp, h1, .inl ⟨rfl, rfl⟩⟩
    | some z =>
      rw [hd] at h2
      obtain ⟨rfl, h3⟩ := h2
      exact ⟨_, y, lw, lp, h1, h3⟩
  · have h1 := transversal_not ha hf
    unfold te tz
    rw [if_neg hf, if_neg hf]
    exact ⟨.nsl, [], _, _, by rw [List.append_nil]; exact h1, .inl ⟨rfl, rfl⟩⟩
theorem tr33 {ro : List ABlk} {h : Heap} {a : AVal} {x : List (List Int)} (ha : IsMat ro h a x) : ∃ y lw lp, callX F1 ro 33 [a] h = some (.tup [.i .i64 (tc x), .i .i64 (tce x)], h ++ y, lw, lp) := by
  by_cases hf : fullP x
  · obtain ⟨y, lw, lp, h1⟩ := transversals_ok ha hf
    unfold tc tce
    rw [if_pos hf, if_pos hf]
    exact ⟨y, lw, lp, h1⟩
  · have h1 := transversals_not ha hf
    unfold tc tce
    rw [if_neg hf, if_neg hf]
    exact ⟨[], _, _, by rw [List.append_nil]; exact h1⟩
theorem tr34 {ro : List ABlk} {h : Heap} {a : AVal} {x : List (List Int)} (ha : IsMat ro h a x) : ∃ y, callX F1 ro 34 [a] h = some (.tup [.i .i64 (tc x), .i .i64 (tce x)], h ++ y, h.length, h.length) := by
  classical
  have hfull := callM_pure (call := callX F1 ro) (l := h.length) (p := h.length) (Full_ok ha) (Nat.le_refl _) (Nat.le_refl _)
  by_cases hf : fullP x
  · obtain ⟨v', y, h1, h2, h3⟩ := refTrans_ok (ro := ro) hf x.length [] h a .nsl .nsl [] (by simp) (by simp) ha (.inl ⟨rfl, rfl⟩) (.inl ⟨rfl, rfl⟩) (by simp)
    have hcall := callM_eq (call := callX F1 ro) (m := ⟨h, h.length, h.length⟩) h1
    simp only [Nat.min_self] at hcall
    unfold tc tce
    rw [if_pos hf, if_pos hf]
    obtain ⟨y2, f1, -⟩ := fin_gen (h := h) (h' := h ++ y) (v := .tup [.i .i64 ((trs x).length : Nat), .i .i64 0]) (l := h.length) (p := h.length) (by simp) (fun i hi => by rw [List.getElem?_append_left hi])
    refine ⟨y2, g34_ok (meansX_ok F1 ro) rfl ?_⟩
    unfold g34
    rw [decide_eq_true hf] at hfull
    simp only [meansX_call, hfull, bindP_some, asB_b, forceB_eq, Bool.not_true, cond_false, hcall, evP, ev_ext, opd, lget, bindO_some, asI_i, tupA]
    exact f1
  · unfold tc tce
    rw [if_neg hf, if_neg hf]
    refine ⟨[], g34_ok (meansX_ok F1 ro) rfl ?_⟩
    unfold g34
    rw [decide_eq_false hf] at hfull
    simp only [meansX_call, hfull, bindP_some, asB_b, forceB_eq, Bool.not_false, cond_true, tupA, List.append_nil]
    exact fin_same
theorem row_bel {ro : List ABlk} {h y : Heap} {u : AVal} {z : List Int} (hr : IsRow ro (h ++ y) u z) (hb : u.bel h.length = true) : IsRow ro h u z := by
  rcases hr with h0 | ⟨q, cap, blk, rfl, h1, h2, h3⟩
  · exact .inl h0
  · refine .inr ⟨q, cap, blk, rfl, ?_, h2, h3⟩
    cases hq : q.ro
    · have hlt : q.b < h.length := by
        simp only [AVal.bel, hq, Bool.false_or] at hb
        rw [Nat.blt_eq] at hb; exact hb
      unfold rdB at h1 ⊢
      rw [hq] at h1 ⊢
      simp only [cond_false] at h1 ⊢
      rw [lget_eq, List.getElem?_append_left hlt] at h1
      rw [lget_eq]; exact h1
    · unfold rdB at h1 ⊢
      rw [hq] at h1 ⊢
      exact h1
theorem tr32 {ro : List ABlk} {h : Heap} {a : AVal} {x : List (List Int)} (ha : IsMat ro h a x) : ∃ v y, callX F1 ro 32 [a] h = some (.tup [v, .i .i64 (te x)], h ++ y, h.length, h.length) ∧ IsRow ro (h ++ y) v (tz x) := by
  classical
  have hfull := callM_pure (call := callX F1 ro) (l := h.length) (p := h.length) (Full_ok ha) (Nat.le_refl _) (Nat.le_refl _)
  by_cases hf : fullP x
  · obtain ⟨v', y, h1, h2, h3⟩ := refTrans_ok (ro := ro) hf x.length [] h a .nsl .nsl [] (by simp) (by simp) ha (.inl ⟨rfl, rfl⟩) (.inl ⟨rfl, rfl⟩) (by simp)
    have hcall := callM_eq (call := callX F1 ro) (m := ⟨h, h.length, h.length⟩) h1
    simp only [Nat.min_self] at hcall
    unfold te tz
    rw [if_pos hf, if_pos hf]
    rw [decide_eq_true hf] at hfull
    have htr : tl x x.length [] = trs x := rfl
    rw [htr] at h2 h3 hcall
    have hlen2 := len_mat h2
    simp only [evP] at hlen2
    cases hd : trs x with
    | nil =>
      rw [hd] at h2 h3 hlen2 hcall
      have hfo : firstOf [] ([] : List (List Nat)) = [] := rfl
      rw [hfo] at hlen2
      obtain ⟨y2, f1, -⟩ := fin_gen (h := h) (h' := h ++ y) (v := .tup [.nsl, .i .i64 10]) (l := h.length) (p := h.length) (by simp) (fun i hi => by rw [List.getElem?_append_left hi])
      refine ⟨.nsl, y2, g32_ok (meansX_ok F1 ro) rfl ?_, .inl ⟨rfl, rfl⟩⟩
      unfold g32
      have e0 : ((([] : List (List Int)).length : Int) == 0) = true := rfl
      simp only [meansX_call, hfull, bindP_some, asB_b, forceB_eq, Bool.not_true, cond_false, hcall, evP, ev_ext, opd, lget, bindO_some, asI_i, hlen2, eqI_eq, e0, cond_true, tupA]
      exact f1
    | cons z l =>
      rw [hd] at h2 h3 hlen2 hcall
      have hfo : firstOf [] (z :: l) = [nts z] := rfl
      rw [hfo] at h2 h3 hlen2
      obtain ⟨p, u, k1, k2, k3, k4⟩ := at_mat (m := ⟨h ++ y, h.length, h.length⟩) rfl h2 (by simp : 0 < [nts z].length)
      have e00 : (((0 : Nat) : Int)) = 0 := rfl
      rw [e00] at k1
      obtain ⟨y2, f1, f2⟩ := fin_gen (h := h) (h' := h ++ y) (v := .tup [u, .i .i64 0]) (l := h.length) (p := h.length) (by simp) (fun i hi => by rw [List.getElem?_append_left hi])
      refine ⟨u, y2, g32_ok (meansX_ok F1 ro) rfl ?_, ?_⟩
      · unfold g32
        have e0 : (([nts z].length : Int) == 0) = false := rfl
        simp only [evP] at k1
        simp only [meansX_call, hfull, bindP_some, asB_b, forceB_eq, Bool.not_true, cond_false, hcall, evP, ev_ext, opd, lget, bindO_some, asI_i, hlen2, eqI_eq, e0, k1, k2, tupA]
        exact f1
      · cases hb : (AVal.tup [u, .i .i64 0]).bel h.length
        · rw [f2 hb]; exact k4
        · have hu : u.bel h.length = true := by
            simp only [AVal.bel, bels, Bool.and_true] at hb; exact hb
          exact (row_bel k4 hu).ext y2
  · unfold te tz
    rw [if_neg hf, if_neg hf]
    refine ⟨.nsl, [], g32_ok (meansX_ok F1 ro) rfl ?_, .inl ⟨rfl, rfl⟩⟩
    unfold g32
    rw [decide_eq_false hf] at hfull
    simp only [meansX_call, hfull, bindP_some, asB_b, forceB_eq, Bool.not_false, cond_true, tupA, List.append_nil]
    exact fin_same

theorem law7 {ro : List ABlk} {v : AVal} {x : List (List Int)} (ha : IsMat ro [] v x) (hx : Fits x) : ∃ h' lw lp, callX F1 ro 7 [v] [] = some (.b true, h', lw, lp) := by
  suffices h : ∃ r, g7 (meansX F1 ro) ro v ⟨[], 0, 0⟩ = some r ∧ r.1 = .b true by
    obtain ⟨⟨w, h', lw, lp⟩, h1, rfl⟩ := h
    exact ⟨h', lw, lp, g7_ok (meansX_ok F1 ro) rfl h1⟩
  have hfew := few_ok ha hx
  unfold g7
  simp only [meansX_call, callM_pure (l := 0) (p := 0) hfew (Nat.zero_le _) (Nat.zero_le _), bindP_some, asB_b, forceB_eq]
  by_cases hf : few x
  · have hav : ∀ y, IsMat ro y v x := fun y => by simpa using ha.ext y
    obtain ⟨v1, y1, l1, p1, a1, a2⟩ := tr31 (hav [])
    rw [List.nil_append] at a1 a2
    have c1 : callM (callX F1 ro) ⟨[], 0, 0⟩ 31 [v] = some (.tup [v1, .i .i64 (te x)], ⟨y1, 0, 0⟩) := (callM_eq (call := callX F1 ro) (m := ⟨[], 0, 0⟩) a1).trans (by simp)
    obtain ⟨v2, y2, b1, b2⟩ := tr32 (hav y1)
    have c2 : callM (callX F1 ro) ⟨y1, 0, 0⟩ 32 [v] = some (.tup [v2, .i .i64 (te x)], ⟨y1 ++ y2, 0, 0⟩) := (callM_eq (call := callX F1 ro) (m := ⟨y1, 0, 0⟩) b1).trans (by simp)
    have hsame := same_ok (a2.ext y2) b2 (by have := tz_len (x := x); omega)
    have c3 := callM_pure (call := callX F1 ro) (l := 0) (p := 0) hsame (Nat.zero_le _) (Nat.zero_le _)
    rw [decide_eq_true (rfl : tz x = tz x)] at c3
    obtain ⟨y3, l3, p3, d1⟩ := tr33 (hav (y1 ++ y2))
    have c4 : callM (callX F1 ro) ⟨y1 ++ y2, 0, 0⟩ 33 [v] = some (.tup [.i .i64 (tc x), .i .i64 (tce x)], ⟨y1 ++ y2 ++ y3, 0, 0⟩) := (callM_eq (call := callX F1 ro) (m := ⟨y1 ++ y2, 0, 0⟩) d1).trans (by simp)
    obtain ⟨y4, e1⟩ := tr34 (hav (y1 ++ y2 ++ y3))
    have c5 : callM (callX F1 ro) ⟨y1 ++ y2 ++ y3, 0, 0⟩ 34 [v] = some (.tup [.i .i64 (tc x), .i .i64 (tce x)], ⟨y1 ++ y2 ++ y3 ++ y4, 0, 0⟩) := (callM_eq (call := callX F1 ro) (m := ⟨y1 ++ y2 ++ y3, 0, 0⟩) e1).trans (by simp)
    simp only [hf, decide_true, Bool.not_true, cond_false, c1, bindP_some, evP, ev_ext, opd, lget, bindO_some, asI_i, c2, c3, asB_b, eqI_eq, beq_self_eq_true, c4, c5, cond_true, callM_pure (l := 0) (p := 0) alive_pure (Nat.zero_le _) (Nat.zero_le _), tupA]
    exact ⟨_, rfl, rfl⟩
  · simp only [hf, decide_false, Bool.not_false, cond_true, callM_pure (l := 0) (p := 0) alive_pure (Nat.zero_le _) (Nat.zero_le _), bindP_some, asB_b, tupA]
    exact ⟨_, rfl, rfl⟩
set_option maxRecDepth 100000 in
theorem lifted7 (os : Os) (started : os.Started) (H : Type) (enc : TypeId × Value → H) :
    ReturnsInHanded {} Try.checked os 7 .any (Rows.bedTransversalsSpec.pre6 enc Try.prog Try.f7 Rows.bedTransversalsRow.domain false) (Rows.bedTransversalsSpec.post enc Try.prog Try.f7 false true false false) := by
  refine returnsInHanded_of_change (C := Try.checked) own started (by kernel_rfl) Try.func7
    (ChangeSpec.witness6 (enc := enc) (C := Try.checked) false ⟨#[], #[.slice none 0 0], []⟩ 8 (by kernel_rfl) (by kernel_rfl) (by kernel_rfl) (by kernel_rfl)) ?_
  intro W base args ds gs before hval0 hW hcnd _
  have hval : ∀ (j : Nat) t v, Try.f7.params[j]? = some t → args[j]? = some v → Value.okWide Try.prog W .any base t v := hval0
  have hW' := hW
  obtain ⟨p, q, hA0, hV, rfl, hfz, hnd⟩ := hW
  have hA : DataW.TrodAll enc Try.prog W 0 (fun _ => true) true Try.f7.params.toList args.toList ds p := hA0
  rw [Try.params7] at hA hval
  obtain ⟨v0, vs0, d0, ds0, p0, q0, hargs, rfl, rfl, h0, r0⟩ := trodAll_cons hA
  obtain ⟨rfl, rfl, rfl⟩ := trodAll_nil r0
  obtain rfl : args = #[v0] := by cases args; simp_all
  obtain ⟨rfl, rfl⟩ := trodVars_none hV
  obtain ⟨x, hO⟩ := opened (okWide_slice Try.underlying22 (hval 0 22 v0 rfl rfl)) h0
  clear hA0 hval0
  simp only [List.append_nil] at hW'
  have hlt : ∀ y ∈ p0, y.block < W.heap.size := fun y hy => hW'.lt y (by simpa using hy)
  obtain ⟨ro, rl, v, hlen, hmv, hro⟩ := ro_of hO [] [] rfl
  have hE : (Env.mk Try.prog W.heap.size W ro rl).Ok := env_ok fun i b hb => by
    obtain ⟨y, h1, h2⟩ := hro i b hb
    refine ⟨y, h1, fun j hj => ?_⟩
    obtain ⟨h3, v', h4, h5⟩ := h2 j hj
    exact ⟨h3, v', h4, by simpa using h5 []⟩
  obtain ⟨hm, hv⟩ := hmv [] [] []
  simp only [List.nil_append, List.append_nil] at hm hv
  obtain ⟨h', lw, lp, hc⟩ := law7 hm hO.fits
  refine (call_of alive0 hE (vs := [v]) (args := #[v0]) ⟨rfl, fun i w hw => by
    cases i with
    | zero => simp at hw; subst hw; exact hv
    | succ i => simp at hw⟩ hc).mono fun e W' ⟨he, hb⟩ => ?_
  subst he
  exact ⟨_, rfl, ⟨_, _, _, [], p0 ++ [], [], hW', (trodAll_cons_mk (shut_bool Try.underlying4 _) trodAll_mk0), (trodAll_cons_mk (Below.trod laidOut (by kernel_rfl) (of_decide_eq_true (by kernel_rfl)) h0 hb hlt) trodAll_mk0), rfl, hb.frame _, fun h => by cases h⟩⟩

theorem over7 : Rows.bedTransversalsRow.holds Try.pinned (OpenSpec.ofChange Rows.bedTransversalsSpec) :=
  OpenClaim.holds_of_wide 7 Try.f7 rfl rfl rfl rfl rfl rfl rfl ⟨rfl, rfl, rfl, rfl, rfl⟩ rfl rfl rfl rfl rfl (by kernel_rfl) Try.func7 (by kernel_rfl)
    (of_decide_eq_true (by kernel_rfl)) (by unfold Func.isWrapper; first | (rw [if_pos (by decide +kernel)]; kernel_rfl) | (rw [if_neg (by decide +kernel)]; exact ⟨rfl, rfl⟩))
    (fun os started H enc _ => lifted7 os started H enc)

end Go.Proofs.Ytllmlonngnhbfaa.Bed

namespace Go.Proofs.Ytllmlonngnhbfaa
/-- the statement -/
theorem bedTransversals_holds : Rows.BedTransversalsSaid := Bed.over7
end Go.Proofs.Ytllmlonngnhbfaa
#print axioms Go.Proofs.Ytllmlonngnhbfaa.bedTransversals_holds

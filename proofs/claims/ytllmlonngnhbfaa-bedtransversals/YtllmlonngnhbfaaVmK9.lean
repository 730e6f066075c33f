/- readBed and readFull. -/
import Derived.Test.YtllmlonngnhbfaaVmK8
open Go.Vm
set_option linter.unusedVariables false
namespace Go.Proofs.Ytllmlonngnhbfaa.Bed
open Go

theorem checkV_bed {x : List (List Int)} (h : bedP x) : checkV x = .tup [.i .i64 0, .i .i64 0, .i .i64 10] := by
  unfold checkV
  rw [if_pos h.1, dup1_iff.2 h.2]
theorem checkV_not {x : List (List Int)} (h : ¬ bedP x) : ∃ r c e : Int, checkV x = .tup [.i .i64 r, .i .i64 c, .i .i64 e] ∧ e ≠ 10 := by
  unfold checkV
  by_cases hs : shapedP x
  · rw [if_pos hs]
    cases hd : dup1 x fun r c => ((r : Int), (c : Int)) with
    | none => exact absurd ⟨hs, dup1_iff.1 hd⟩ h
    | some o => exact ⟨_, _, 0, rfl, by decide⟩
  · rw [if_neg hs]
    exact ⟨0, 0, 2, rfl, by decide⟩

/-- a row of a list of lists, in a heap that is longer -/
theorem at_mat_ext {ro : List ABlk} {h : Heap} {a : AVal} {x : List (List Int)} (ha : IsMat ro h a x) {m : Mm} {y : Heap} (hm : m.h = h ++ y) {r : Nat} (hr : r < x.length) :
    ∃ p u, evP .e (.ixS 1 (.c a) (.c (.i .i64 (r : Int)))) = some p ∧ ldM ro m true 1 p = some u ∧ ldA ro m.h true 1 p = some u ∧ IsRow ro h u (x.getD r []) := by
  rcases ha with ⟨rfl, rfl⟩ | ⟨q, cap, bk, rfl, hb, hn, hc⟩
  · simp at hr
  · have h1 := ixS_eq (q := q) (cap := cap) hr
    have hb' := rdB_ext y hb
    have h2 := rd_one (i := r) hb' (by omega)
    have h3 := rdB_lt hb'
    refine ⟨_, _, h1, ?_, ?_, hc r hr⟩
    · simp only [ldM, hm]; exact h2
    · simp only [ldA, hm, h3, cond_true]; exact h2

theorem readBed_ok {ro : List ABlk} {h : Heap} {a : AVal} {x : List (List Int)} (ha : IsMat ro h a x) (hb : bedP x) :
    ∃ blk, callX F1 ro 59 [a] h = some (.tup [.p (some ⟨false, h.length, 0⟩), .i .i64 0], h ++ [some blk], h.length, h.length) ∧ blk.n = 113 ∧ GrOf blk.c x := by
  have hs := hb.1
  have h7 := hs.2.1
  obtain ⟨blk, hnew, hbn, hg⟩ := newGround_ok (ro := ro) (h := h) h7
  obtain ⟨lw, hck, hl1, hl2⟩ := check_ok ha
  have hlw : lw = h.length := by omega
  subst hlw
  rw [checkV_bed hb] at hck
  have hcall1 := callM_pure (call := callX F1 ro) (l := h.length) (p := h.length) hck (Nat.le_refl _) (Nat.le_refl _)
  have hcall2 := callM_eq (call := callX F1 ro) (m := ⟨h, h.length, h.length⟩) hnew
  simp only [Nat.min_self] at hcall2
  have wri : ∀ k : Nat, k < 7 → wr .i64 ((k : Int) + 1) = ((k + 1 : Nat) : Int) := fun k hk => by rw [wr_id' (by omega) (by omega)]; omega
  have hst0 : St8 h x 0 0 ⟨h ++ [some blk], h.length, h.length⟩ := ⟨blk, _, rfl, hbn, hg.congr (fun r k _ _ => by
    unfold cropOf
    by_cases c0 : r < x.length ∧ k < x.length
    · rw [if_pos c0, if_pos c0, if_neg (by omega)]
    · rw [if_neg c0, if_neg c0]) (fun _ _ _ _ _ _ => rfl), fun i j a b _ _ _ => by
      simp only [Nat.zero_testBit, Bool.false_eq_true, false_iff]
      rintro ⟨r', k', v, h1, h2, h3, -⟩
      omega⟩
  refine loopX_elim (b := fun s => g59_b0 (meansX F1 ro) ro (.p (some ⟨false, h.length, 0⟩)) a x.length s.1 s.2)
    (fun s => ∃ r : Nat, s.1 = (r : Int) ∧ r ≤ x.length ∧ St8 h x r 0 s.2) (fun m => St8 h x x.length 0 m) (fun s => x.length - s.1.toNat) (0, ⟨h ++ [some blk], h.length, h.length⟩) ⟨0, rfl, by omega, hst0⟩ ?_ ?_
  · rintro ⟨y, m⟩ ⟨r, hy, hr, hst⟩
    simp only at hy hst
    subst hy
    by_cases hlt : r < x.length
    · left
      have e : decide ((r : Int) < (x.length : Int)) = true := by simp; omega
      have hst' := hst
      obtain ⟨blk, met, hm, hbn, hg, hM⟩ := hst'
      obtain ⟨p, u, k1, k2, k3, k4⟩ := at_mat_ext ha (m := m) (y := [some blk]) (by rw [hm]) hlt
      obtain ⟨m', ho, hst2⟩ := read_inner (ro := ro) (a := a) hs hlt k4 hst
      have hl := (hs.2.2 r hlt).1
      refine ⟨(((r + 1 : Nat) : Int), m'), ?_, ⟨r + 1, rfl, by omega, hst2⟩, by first | omega | (simp only; omega)⟩
      simp only [g59_b0, forceB_eq, ltI_eq, e, cond_true, k1, k2, bindO_some, len_row k4, hl, asI_i, meansX_loop, ho, forceI_eq, wri r (by omega)]
    · right
      have : r = x.length := by omega
      subst this
      refine ⟨m, ?_, hst⟩
      simp only [g59_b0, forceB_eq, ltI_eq]
      simp
  · rintro m hl ⟨blk', met, rfl, hbn', hg', hM'⟩
    refine ⟨blk', g59_ok (meansX_ok F1 ro) rfl ?_, hbn', met, hg'.congr (fun r k _ _ => ?_) (fun _ _ _ _ _ _ => rfl), hM'⟩
    · unfold g59
      simp only [meansX_call, hcall1, bindP_some, evP, ev_ext, opd, lget, bindO_some, asI_i, eqI_eq, forceB_eq, beq_self_eq_true, Bool.not_true, cond_false]
      have hlen := len_mat ha
      simp only [evP] at hlen
      simp only [hlen, bindO_some, asI_i, hcall2, bindP_some, meansX_loop, hl, tupA]
      have hb : (AVal.tup [.p (some ⟨false, h.length, 0⟩), .i .i64 0]).bel h.length = false := by
        have : Nat.blt h.length h.length = false := by
          cases hh : Nat.blt h.length h.length
          · rfl
          · rw [Nat.blt_eq] at hh; omega
        simp [AVal.bel, bels, this]
      simp [finM, gc, hb]
    · unfold cropOf
      by_cases c0 : r < x.length ∧ k < x.length
      · rw [if_pos c0, if_pos c0, if_pos (by omega)]
      · rw [if_neg c0, if_neg c0]
theorem readBed_not {ro : List ABlk} {h : Heap} {a : AVal} {x : List (List Int)} (ha : IsMat ro h a x) (hb : ¬ bedP x) : callX F1 ro 59 [a] h = some (.tup [.p none, .i .i64 2], h, h.length, h.length) := by
  obtain ⟨lw, hck, hl1, hl2⟩ := check_ok ha
  have hlw : lw = h.length := by omega
  subst hlw
  obtain ⟨r, c, e, hV, hne⟩ := checkV_not hb
  rw [hV] at hck
  refine g59_ok (meansX_ok F1 ro) rfl ?_
  unfold g59
  have e2 : (e == 10) = false := by simp only [beq_eq_false_iff_ne, ne_eq]; exact hne
  simp only [meansX_call, callM_pure (call := callX F1 ro) (l := h.length) (p := h.length) hck (Nat.le_refl _) (Nat.le_refl _), bindP_some, evP, ev_ext, opd, lget, bindO_some, asI_i, eqI_eq, forceB_eq, e2, Bool.not_false, cond_true, tupA]
  exact fin_pure rfl

theorem readFull_loop {ro : List ABlk} {h : Heap} {a v : AVal} {x : List (List Int)} (ha : IsMat ro h a x) (hb : bedP x) (y : Heap) :
    loopX (fun s => g71_b0 (meansX F1 ro) ro v a x.length s.1 s.2) (0, ⟨h ++ y, h.length, h.length⟩) = some (open Classical in if fullP x then .inl ⟨h ++ y, h.length, h.length⟩ else .inr (.p none, 2, ⟨h ++ y, h.length, h.length⟩)) := by
  classical
  have hs := hb.1
  have h7 := hs.2.1
  have wri : ∀ k : Nat, k < 7 → wr .i64 ((k : Int) + 1) = ((k + 1 : Nat) : Int) := fun k hk => by rw [wr_id' (by omega) (by omega)]; omega
  have key : ∀ (k r : Nat), r + k = x.length → (∀ r' c, r' < r → c < x.length → 0 ≤ at2 x r' c) → loopX (fun s => g71_b0 (meansX F1 ro) ro v a x.length s.1 s.2) ((r : Int), ⟨h ++ y, h.length, h.length⟩) =
      some (if fullP x then .inl ⟨h ++ y, h.length, h.length⟩ else .inr (.p none, 2, ⟨h ++ y, h.length, h.length⟩)) := by
    intro k
    induction k with
    | zero =>
      intro r hr hno
      have hr' : r = x.length := by omega
      subst hr'
      have hf : fullP x := ⟨hb, fun r c hr hc => hno r c hr hc⟩
      rw [if_pos hf]
      refine loopX_out ?_
      simp only [g71_b0, forceB_eq, ltI_eq]
      simp
    | succ k ih =>
      intro r hr hno
      have hlt : r < x.length := by omega
      have e : decide ((r : Int) < (x.length : Int)) = true := by simp; omega
      obtain ⟨p, u, k1, k2, k3, k4⟩ := at_mat_ext ha (m := ⟨h ++ y, h.length, h.length⟩) (y := y) rfl hlt
      obtain ⟨hlen, hrc⟩ := hs.2.2 r hlt
      have hcon := contains_ok (v := -1) (k4.ext y) (by omega)
      have hcall := callM_pure (call := callX F1 ro) (l := h.length) (p := h.length) hcon (by simp) (by simp)
      by_cases hc : ∃ j, j < (x.getD r []).length ∧ (x.getD r []).getD j 0 = -1
      · have hf : ¬ fullP x := fun hf => by
          obtain ⟨j, h1, h2⟩ := hc
          have := hf.2 r j hlt (by omega)
          unfold at2 at this
          omega
        rw [if_neg hf]
        refine loopX_out ?_
        simp only [g71_b0, forceB_eq, ltI_eq, e, cond_true, k1, k2, bindO_some, meansX_call, hcall, bindP_some, asB_b, decide_eq_true hc]
      · refine loopX_on (s' := (((r + 1 : Nat) : Int), ⟨h ++ y, h.length, h.length⟩)) ?_ (ih (r + 1) (by omega) fun r' c h1 h2 => ?_)
        · simp only [g71_b0, forceB_eq, ltI_eq, e, cond_true, k1, k2, bindO_some, meansX_call, hcall, bindP_some, asB_b, decide_eq_false hc, cond_false, forceI_eq, wri r (by omega)]
        · by_cases e2 : r' = r
          · subst e2
            have h3 := hrc c h2
            have h4 : (x.getD r' []).getD c 0 ≠ -1 := fun hh => hc ⟨c, by omega, hh⟩
            unfold at2
            omega
          · exact hno r' c (by omega) h2
  exact key x.length 0 (by omega) (fun r' c h => by omega)

theorem readFull_ok {ro : List ABlk} {h : Heap} {a : AVal} {x : List (List Int)} (ha : IsMat ro h a x) (hf : fullP x) :
    ∃ blk, callX F1 ro 71 [a] h = some (.tup [.p (some ⟨false, h.length, 0⟩), .i .i64 0], h ++ [some blk], h.length, h.length) ∧ blk.n = 113 ∧ GrOf blk.c x := by
  obtain ⟨blk, hrd, hbn, hg⟩ := readBed_ok ha hf.1
  refine ⟨blk, g71_ok (meansX_ok F1 ro) rfl ?_, hbn, hg⟩
  have hcall := callM_eq (call := callX F1 ro) (m := ⟨h, h.length, h.length⟩) hrd
  simp only [Nat.min_self] at hcall
  have hl := readFull_loop (v := .p (some ⟨false, h.length, 0⟩)) ha hf.1 [some blk]
  rw [if_pos hf] at hl
  unfold g71
  have hlen := len_mat ha
  simp only [evP] at hlen
  simp only [meansX_call, hcall, bindP_some, evP, ev_ext, opd, lget, bindO_some, asI_i, eqI_eq, forceB_eq, beq_self_eq_true, Bool.not_true, cond_false, hlen, meansX_loop, hl, tupA]
  have hb : (AVal.tup [.p (some ⟨false, h.length, 0⟩), .i .i64 0]).bel h.length = false := by
    have : Nat.blt h.length h.length = false := by
      cases hh : Nat.blt h.length h.length
      · rfl
      · rw [Nat.blt_eq] at hh; omega
    simp [AVal.bel, bels, this]
  simp [finM, gc, hb]
theorem readFull_not {ro : List ABlk} {h : Heap} {a : AVal} {x : List (List Int)} (ha : IsMat ro h a x) (hf : ¬ fullP x) : callX F1 ro 71 [a] h = some (.tup [.p none, .i .i64 2], h, h.length, h.length) := by
  refine g71_ok (meansX_ok F1 ro) rfl ?_
  unfold g71
  by_cases hb : bedP x
  · obtain ⟨blk, hrd, hbn, hg⟩ := readBed_ok ha hb
    have hcall := callM_eq (call := callX F1 ro) (m := ⟨h, h.length, h.length⟩) hrd
    simp only [Nat.min_self] at hcall
    have hl := readFull_loop (v := .p (some ⟨false, h.length, 0⟩)) ha hb [some blk]
    rw [if_neg hf] at hl
    have hlen := len_mat ha
    simp only [evP] at hlen
    simp only [meansX_call, hcall, bindP_some, evP, ev_ext, opd, lget, bindO_some, asI_i, eqI_eq, forceB_eq, beq_self_eq_true, Bool.not_true, cond_false, hlen, meansX_loop, hl, tupA]
    exact fin_drop rfl
  · have e2 : ((2 : Int) == 0) = false := rfl
    simp only [meansX_call, callM_pure (call := callX F1 ro) (l := h.length) (p := h.length) (readBed_not ha hb) (Nat.le_refl _) (Nat.le_refl _), bindP_some, evP, ev_ext, opd, lget, bindO_some, asI_i, eqI_eq, forceB_eq, e2, Bool.not_false, cond_true, tupA]
    exact fin_pure rfl
end Go.Proofs.Ytllmlonngnhbfaa.Bed

/- The reference's Copied: a new list of lists with the same numbers. -/
import Derived.Test.YtllmlonngnhbfaaVmK3
open Go.Vm
set_option linter.unusedVariables false
namespace Go.Proofs.Ytllmlonngnhbfaa.Bed
open Go

theorem row_eq {t : Tr} {off : Nat} {z : List Int} (h : ∀ j, j < z.length → t.get (off + j) = .i .i64 (z.getD j 0)) : t.row off z.length = z.map (AVal.i .i64) := by
  refine List.ext_getElem? fun j => ?_
  rw [getElem?_row, List.getElem?_map]
  by_cases hj : j < z.length
  · rw [if_pos hj, h j hj]
    simp [List.getD, hj]
  · rw [if_neg hj]
    simp [List.getElem?_eq_none (by omega : z.length ≤ j)]

theorem src_row {ro : List ABlk} {h : Heap} {u : AVal} {z : List Int} (hr : IsRow ro h u z) : app_src ro h 1 u = some (z.map (AVal.i .i64), z.length) := by
  rcases hr with ⟨rfl, rfl⟩ | ⟨q, cap, blk, rfl, hb, hn, hc⟩
  · rfl
  · have : Nat.ble (q.off + z.length) blk.n = true := by rw [Nat.ble_eq]; exact hn
    simp only [app_src, hb, this, cond_true, Nat.mul_one, row_eq hc]

theorem fits_small {n k : Nat} (h : n ≤ 1000000) (hk : k ≤ 1000) : fits n k = true := by
  simp only [fits, Bool.and_eq_true, Nat.ble_eq]
  have : n * k ≤ 1000000 * 1000 := Nat.mul_le_mul h hk
  omega

/-- a row of one's own -/
def OwnRow (hp : Heap) (w : AVal) (z : List Int) : Prop :=
  (w = .nsl ∧ z = []) ∨ ∃ b blk, w = .sl ⟨false, b, 0⟩ z.length .grow ∧ lget hp b = some (some blk) ∧ blk.e = 3 ∧ z.length ≤ blk.n ∧ ∀ j, j < z.length → blk.c.get j = .i .i64 (z.getD j 0)
theorem OwnRow.row {ro : List ABlk} {hp : Heap} {w : AVal} {z : List Int} (h : OwnRow hp w z) : IsRow ro hp w z := by
  rcases h with h0 | ⟨b, blk, rfl, h1, h2, h3, h4⟩
  · exact .inl h0
  · exact .inr ⟨_, _, blk, rfl, by simp only [rdB, cond_false, h1], by simpa using h3, fun j hj => by simpa using h4 j hj⟩
theorem OwnRow.ext {hp : Heap} {w : AVal} {z : List Int} (x : Heap) (h : OwnRow hp w z) : OwnRow (hp ++ x) w z := by
  rcases h with h0 | ⟨b, blk, rfl, h1, h2, h3, h4⟩
  · exact .inl h0
  · refine .inr ⟨b, blk, rfl, ?_, h2, h3, h4⟩
    rw [lget_eq] at h1 ⊢
    rw [List.getElem?_append_left (List.getElem?_eq_some_iff.1 h1).1]; exact h1
theorem OwnRow.unset {hp : Heap} {w : AVal} {z : List Int} {c : Nat} {blk' : ABlk} (hc : lget hp c = some (some blk')) (he : blk'.e ≠ 3) (h : OwnRow hp w z) : OwnRow (lset none hp c) w z := by
  rcases h with h0 | ⟨b, blk, rfl, h1, h2, h3, h4⟩
  · exact .inl h0
  · refine .inr ⟨b, blk, rfl, ?_, h2, h3, h4⟩
    have hne : c ≠ b := fun e => by
      subst e
      rw [h1] at hc
      cases hc
      exact he h2
    rw [lget_eq] at h1 ⊢
    rw [lset_eq, List.getElem?_set_ne hne]; exact h1

theorem map_getD {z : List Int} {j : Nat} (hj : j < z.length) : (z.map (AVal.i .i64)).getD j und = .i .i64 (z.getD j 0) := by simp [List.getD, hj]
theorem get_blk (e : Nat) (l : List AVal) (j : Nat) : (blkOf e l).c.get j = l.getD j und := get_mk l j

/-- the list so far -/
def Sofar (hp : Heap) (L : Nat) (v : AVal) (x : List (List Int)) (i : Nat) : Prop :=
  (v = .nsl ∧ i = 0) ∨ ∃ b blk, v = .sl ⟨false, b, 0⟩ i .grow ∧ 0 < i ∧ L ≤ b ∧ lget hp b = some (some blk) ∧ blk.e = 32 ∧ i ≤ blk.n ∧ ∀ r, r < i → OwnRow hp (blk.c.get r) (x.getD r [])

theorem copied_step {ro : List ABlk} {hp : Heap} {L : Nat} {a v : AVal} {x : List (List Int)} {i : Nat} (ha : IsMat ro hp a x) (hL : L ≤ hp.length) (hs : Sofar hp L v x i) (hi : i < x.length) (hlen : x.length ≤ 20) (hz : (x.getD i []).length ≤ 20) :
    ∃ v' hp', g18_b0 (meansX F1 ro) ro a v (i : Int) ⟨hp, L, L⟩ = some (.inl (v', ((i + 1 : Nat) : Int), ⟨hp', L, L⟩)) ∧ Sofar hp' L v' x (i + 1) ∧ (hp'.take L = hp.take L ∧ L ≤ hp'.length) := by
  obtain ⟨p, u, k1, k2, k3, k4⟩ := at_mat (m := ⟨hp, L, L⟩) rfl ha hi
  have e : decide ((i : Int) < (x.length : Int)) = true := by simp; omega
  simp only [g18_b0, len_mat ha, bindO_some, asI_i, forceB_eq, ltI_eq, e, cond_true, k1, k2]
  have hwr : wr .i64 ((i : Int) + 1) = ((i + 1 : Nat) : Int) := by rw [wr_id' (by omega) (by omega)]; omega
  -- the new row
  obtain ⟨w, hp1, a1, a2, ⟨y1, a3⟩, a4⟩ : ∃ w hp1, stepM ro ⟨hp, L, L⟩ (.app 3 1 8 [(AVal.i IntKind.i64 0)] (.c AVal.nsl) (.c u)) = some (w, ⟨hp1, L, L⟩) ∧ OwnRow hp1 w (x.getD i []) ∧ (∃ y, hp1 = hp ++ y) ∧ w.one = true := by
    by_cases h0 : (x.getD i []).length = 0
    · refine ⟨.nsl, hp, ?_, .inl ⟨rfl, List.eq_nil_of_length_eq_zero h0⟩, ⟨[], by simp⟩, rfl⟩
      have : Nat.beq (x.getD i []).length 0 = true := by rw [h0]; rfl
      simp only [stepM, stepK, opd, st_app, src_row k4, this, cond_true, St.mm]
    · have hb : Nat.beq (x.getD i []).length 0 = false := by
        cases hh : Nat.beq (x.getD i []).length 0
        · rfl
        · exact absurd (Nat.eq_of_beq_eq_true hh) h0
      refine ⟨.sl ⟨false, hp.length, 0⟩ (x.getD i []).length .grow, hp ++ [some (blkOf 3 ((x.getD i []).map (AVal.i .i64)))], ?_, .inr ⟨hp.length, blkOf 3 ((x.getD i []).map (AVal.i .i64)), rfl, ?_, rfl, ?_, ?_⟩, ⟨_, rfl⟩, rfl⟩
      · simp only [stepM, stepK, opd, st_app, src_row k4, hb, cond_false, fits_small (by omega : (x.getD i []).length ≤ 1000000) (by omega : 8 ≤ 1000), cond_true, newB, St.mm]
      · rw [lget_eq]; simp
      · simp [blkOf]
      · intro j hj
        rw [get_blk, map_getD hj]
  simp only [a1, bindP_some]
  -- the list of it
  have b1 : stepM ro ⟨hp1, L, L⟩ (.bsl 32 1 [AVal.nsl] 1 [((0, 1), .c w)]) = some (.sl ⟨false, hp1.length, 0⟩ 1 (.known 1), ⟨hp1 ++ [some (blkOf 32 [w])], L, L⟩) := by
    have hw : w.cells = [w] := by
      rcases a2 with ⟨rfl, -⟩ | ⟨b, blk, rfl, -⟩ <;> rfl
    simp [stepM, stepK, st_bsl, rep, fillA, opd, hw, splice, newB, St.mm]
  simp only [b1, bindP_some]
  have src : app_src ro (hp1 ++ [some (blkOf 32 [w])]) 1 (.sl ⟨false, hp1.length, 0⟩ 1 (.known 1)) = some ([w], 1) := by
    have hb : rdB ro (hp1 ++ [some (blkOf 32 [w])]) ⟨false, hp1.length, 0⟩ = some (blkOf 32 [w]) := by
      simp [rdB, lget_eq]
    have hg : (blkOf 32 [w]).c.row 0 1 = [w] := by
      simp only [Tr.row, get_blk]; rfl
    have hble : Nat.ble (0 + 1 * 1) (blkOf 32 [w]).n = true := rfl
    simp only [app_src, hb, hble, cond_true]
    rw [show 1 * 1 = 1 from rfl, hg]
  have aw : OwnRow (hp1 ++ [some (blkOf 32 [w])]) w (x.getD i []) := a2.ext _
  have hlen1 : hp.length ≤ hp1.length := by rw [a3]; simp
  rcases hs with ⟨rfl, rfl⟩ | ⟨b, blk, rfl, hpos, hLb, hbk, hbe, hbn, hrows⟩
  · -- the first one
    refine ⟨.sl ⟨false, hp1.length + 1, 0⟩ 1 .grow, hp1 ++ [some (blkOf 32 [w])] ++ [some (blkOf 32 [w])], ?_, .inr ⟨_, blkOf 32 [w], rfl, by omega, by omega, ?_, rfl, by simp [blkOf], ?_⟩, ?_, by simp; omega⟩
    · have : stepM ro ⟨hp1 ++ [some (blkOf 32 [w])], L, L⟩ (.app 32 1 24 [AVal.nsl] (.c AVal.nsl) (.c (.sl ⟨false, hp1.length, 0⟩ 1 (.known 1)))) =
          some (.sl ⟨false, hp1.length + 1, 0⟩ 1 .grow, ⟨hp1 ++ [some (blkOf 32 [w])] ++ [some (blkOf 32 [w])], L, L⟩) := by
        have hb : Nat.beq 1 0 = false := rfl
        simp only [stepM, stepK, opd, st_app, src, hb, cond_false, fits_small (by omega : 1 ≤ 1000000) (by omega : 24 ≤ 1000), cond_true, newB, St.mm, List.length_append, List.length_cons, List.length_nil, Nat.zero_add]
      simp only [this, bindP_some, forceI_eq, hwr]
    · rw [lget_eq]; simp
    · intro r hr
      have : r = 0 := by omega
      subst this
      rw [get_blk]
      exact aw.ext _
    · rw [a3]; simp [List.take_append_of_le_length hL]
  · -- behind others
    obtain ⟨hp2, e2⟩ : ∃ hp2, hp2 = hp1 ++ [some (blkOf 32 [w])] := ⟨_, rfl⟩
    rw [← e2] at src aw
    rw [← e2]
    have hb2 : lget hp2 b = some (some blk) := by
      rw [lget_eq] at hbk ⊢
      have := (List.getElem?_eq_some_iff.1 hbk).1
      rw [e2, a3, List.append_assoc, List.getElem?_append_left this]; exact hbk
    have hlt2 : b < hp2.length := by rw [lget_eq] at hb2; exact (List.getElem?_eq_some_iff.1 hb2).1
    have hrows2 : ∀ r, r < i → OwnRow hp2 (blk.c.get r) (x.getD r []) := fun r hr => by
      rw [e2, a3, List.append_assoc]; exact (hrows r hr).ext _
    refine ⟨.sl ⟨false, hp2.length, 0⟩ (i + 1) .grow, lset none hp2 b ++ [some (blkOf 32 (blk.c.row 0 i ++ [w]))], ?_, .inr ⟨_, blkOf 32 (blk.c.row 0 i ++ [w]), rfl, by omega, by omega, ?_, rfl, ?_, ?_⟩, ?_, ?_⟩
    · have : stepM ro ⟨hp2, L, L⟩ (.app 32 1 24 [AVal.nsl] (.c (.sl ⟨false, b, 0⟩ i .grow)) (.c (.sl ⟨false, hp1.length, 0⟩ 1 (.known 1)))) =
          some (.sl ⟨false, hp2.length, 0⟩ (i + 1) .grow, ⟨lset none hp2 b ++ [some (blkOf 32 (blk.c.row 0 i ++ [w]))], L, L⟩) := by
        have h1 : (Nat.beq blk.e 32 && Nat.ble i blk.n && fits (i + 1) 24 && ones [w]) = true := by
          rw [hbe, fits_small (by omega : i + 1 ≤ 1000000) (by omega : 24 ≤ 1000)]
          simp [ones, a4, Nat.ble_eq]; omega
        have h2 : (false || !Nat.beq 0 0 || Nat.beq 1 0) = false := rfl
        simp only [stepM, stepK, opd, st_app, src, app_grow, h2, cond_false, hb2, h1, cond_true, St.mm, Nat.mul_one, Nat.min_eq_left hLb]
      simp only [this, bindP_some, forceI_eq, hwr]
    · rw [lget_eq, lset_eq, List.getElem?_append_right (by simp)]
      simp
    · simp [blkOf, length_row]
    · intro r hr
      rw [get_blk]
      have hun := fun (z : List Int) (u : AVal) (ho : OwnRow hp2 u z) => (ho.unset hb2 (by rw [hbe]; decide)).ext [some (blkOf 32 (blk.c.row 0 i ++ [w]))]
      by_cases hri : r < i
      · have : (blk.c.row 0 i ++ [w]).getD r und = blk.c.get r := by
          rw [List.getD_eq_getElem?_getD, List.getElem?_append_left (by rw [length_row]; exact hri), getElem?_row, if_pos hri]
          simp
        rw [this]
        exact hun _ _ (hrows2 r hri)
      · have hr' : r = i := by omega
        subst hr'
        have : (blk.c.row 0 r ++ [w]).getD r und = w := by
          rw [List.getD_eq_getElem?_getD, List.getElem?_append_right (by rw [length_row]; omega), length_row]
          simp
        rw [this]
        exact hun _ _ aw
    · rw [lset_eq, List.take_append_of_le_length (by simp; omega)]
      have h1 : hp2.take L = hp.take L := by rw [e2, a3]; simp [List.take_append_of_le_length hL]
      rw [← h1]
      refine List.ext_getElem? fun j => ?_
      simp only [List.getElem?_take]
      split
      · rw [List.getElem?_set_ne (by omega)]
      · rfl
    · simp [lset_eq]; omega

theorem Sofar.mat {ro : List ABlk} {hp : Heap} {L : Nat} {v : AVal} {x : List (List Int)} (h : Sofar hp L v x x.length) : IsMat ro hp v x := by
  rcases h with ⟨rfl, h0⟩ | ⟨b, blk, rfl, -, -, h1, -, h3, h4⟩
  · exact .inl ⟨rfl, List.eq_nil_of_length_eq_zero h0⟩
  · exact .inr ⟨_, _, blk, rfl, by simp only [rdB, cond_false, h1], by simpa using h3, fun r hr => by simpa using (h4 r hr).row⟩

theorem copied_ok {ro : List ABlk} {h : Heap} {a : AVal} {x : List (List Int)} (ha : ∀ y, IsMat ro (h ++ y) a x) (hf : few x) : ∃ v y, callX F1 ro 18 [a] h = some (v, h ++ y, h.length, h.length) ∧ IsMat ro (h ++ y) v x := by
  have hx := hf.len
  refine loopX_elim (b := fun s => g18_b0 (meansX F1 ro) ro a s.1 s.2.1 s.2.2)
    (fun s => ∃ (i : Nat) (hp : Heap), s.2.1 = (i : Int) ∧ i ≤ x.length ∧ s.2.2 = ⟨hp, h.length, h.length⟩ ∧ Sofar hp h.length s.1 x i ∧ hp.take h.length = h ∧ h.length ≤ hp.length ∧ (i = 0 → hp = h))
    (fun r => ∃ v hp, r = (v, ⟨hp, h.length, h.length⟩) ∧ Sofar hp h.length v x x.length ∧ hp.take h.length = h ∧ h.length ≤ hp.length ∧ (x.length = 0 → hp = h)) (fun s => x.length - s.2.1.toNat) (.nsl, 0, ⟨h, h.length, h.length⟩)
    ⟨0, h, rfl, by omega, rfl, .inl ⟨rfl, rfl⟩, by simp, Nat.le_refl _, fun _ => rfl⟩ ?_ ?_
  rotate_left
  · rintro r hr ⟨v, hp, rfl, hs, ht, hl, hz⟩
    have hp' : hp = h ++ hp.drop h.length := by
      conv => lhs; rw [← List.take_append_drop h.length hp]
      rw [ht]
    refine ⟨v, hp.drop h.length, g18_ok (meansX_ok F1 ro) rfl ?_, by rw [← hp']; exact hs.mat⟩
    unfold g18
    simp only [meansX_loop]
    rw [hr]
    simp only [bindO_some, tupA]
    rw [← hp']
    rcases hs with ⟨rfl, h0⟩ | ⟨b, blk, rfl, -, hLb, h1, -⟩
    · -- nothing was made
      rw [hz h0]
      exact fin_pure rfl
    · have hb : (AVal.sl ⟨false, b, 0⟩ x.length .grow).bel h.length = false := by
        simp only [AVal.bel, Bool.false_or]
        cases hh : Nat.blt b h.length
        · rfl
        · rw [Nat.blt_eq] at hh; omega
      simp [finM, gc, hb]
  · rintro ⟨v, xi, m⟩ ⟨i, hp, hxi, hi, hm, hs, ht, hl, hz⟩
    simp only at hxi hm hs
    subst hxi hm
    by_cases hlt : i < x.length
    · left
      have hp' : hp = h ++ hp.drop h.length := by
        conv => lhs; rw [← List.take_append_drop h.length hp]
        rw [ht]
      obtain ⟨v', hp2, e1, e2, e3, e4⟩ := copied_step (ro := ro) (a := a) (v := v) (L := h.length) (by rw [hp']; exact ha _) hl hs hlt hx (hf i hlt).2
      exact ⟨_, e1, ⟨i + 1, hp2, rfl, by omega, rfl, e2, by rw [e3, ht], e4, fun h => by omega⟩, by simp only; omega⟩
    · right
      have : i = x.length := by omega
      subst this
      have hp' : hp = h ++ hp.drop h.length := by
        conv => lhs; rw [← List.take_append_drop h.length hp]
        rw [ht]
      refine ⟨(v, ⟨hp, h.length, h.length⟩), ?_, v, hp, rfl, hs, ht, hl, hz⟩
      have hm := ha (hp.drop h.length)
      rw [← hp'] at hm
      simp only [g18_b0, len_mat hm, bindO_some, asI_i, forceB_eq, ltI_eq]
      simp
end Go.Proofs.Ytllmlonngnhbfaa.Bed

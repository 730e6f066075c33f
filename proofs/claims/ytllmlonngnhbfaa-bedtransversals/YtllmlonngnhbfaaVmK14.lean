/- The reference's transversals. -/
import Derived.Test.YtllmlonngnhbfaaVmK13
open Go.Vm
set_option linter.unusedVariables false
namespace Go.Proofs.Ytllmlonngnhbfaa.Bed
open Go

theorem nts_app (now : List Nat) (c : Nat) : nts (now ++ [c]) = nts now ++ [(c : Int)] := by simp [nts]
theorem ones_ints (z : List Int) : ones (z.map (AVal.i .i64)) = true := by
  induction z with
  | nil => rfl
  | cons a z ih => simp only [List.map_cons, ones, ih]; rfl

/-- a copy of a row with one number more -/
theorem push_row {ro : List ABlk} {hp : Heap} {v : AVal} {z : List Int} {L : Nat} (hr : IsRow ro hp v z) (hz : z.length ≤ 1000) (hL : L ≤ hp.length) (c : Int) :
    ∃ v1 m1 v2 m2 v3 y, stepM ro ⟨hp, L, L⟩ (.app 3 1 8 [(AVal.i IntKind.i64 0)] (.c AVal.nsl) (.c v)) = some (v1, m1) ∧ stepM ro m1 (.bsl 3 1 [(AVal.i IntKind.i64 0)] 1 [((0, 1), .c (.i .i64 c))]) = some (v2, m2) ∧
      stepM ro m2 (.app 3 1 8 [(AVal.i IntKind.i64 0)] (.c v1) (.c v2)) = some (v3, ⟨hp ++ y, L, L⟩) ∧ IsRow ro (hp ++ y) v3 (z ++ [c]) := by
  have one : ∀ (H : Heap), app_src ro (H ++ [some (blkOf 3 [AVal.i .i64 c])]) 1 (.sl ⟨false, H.length, 0⟩ 1 (.known 1)) = some ([.i .i64 c], 1) := fun H => by
    have hb : rdB ro (H ++ [some (blkOf 3 [AVal.i .i64 c])]) ⟨false, H.length, 0⟩ = some (blkOf 3 [AVal.i .i64 c]) := rdB_heap (lget_last _ _) 0
    have hg : (blkOf 3 [AVal.i .i64 c]).c.row 0 1 = [.i .i64 c] := rfl
    have hble : Nat.ble (0 + 1 * 1) (blkOf 3 [AVal.i .i64 c]).n = true := rfl
    simp only [app_src, hb, hble, cond_true]
    rw [show 1 * 1 = 1 from rfl, hg]
  by_cases h0 : z = []
  · subst h0
    refine ⟨.nsl, ⟨hp, L, L⟩, .sl ⟨false, hp.length, 0⟩ 1 (.known 1), ⟨hp ++ [some (blkOf 3 [AVal.i .i64 c])], L, L⟩, .sl ⟨false, hp.length + 1, 0⟩ 1 .grow, [some (blkOf 3 [AVal.i .i64 c]), some (blkOf 3 [AVal.i .i64 c])], ?_, rfl, ?_, ?_⟩
    · have : Nat.beq ([] : List Int).length 0 = true := rfl
      simp only [stepM, stepK, opd, st_app, src_row hr, this, cond_true, St.mm]
    · have hb : Nat.beq 1 0 = false := rfl
      simp only [stepM, stepK, opd, st_app, one hp, hb, cond_false, fits_small (by omega : 1 ≤ 1000000) (by omega : 8 ≤ 1000), cond_true, newB, St.mm]
      simp
    · refine .inr ⟨_, _, blkOf 3 [AVal.i .i64 c], rfl, rdB_heap (by rw [lget_eq]; simp) 0, by simp [blkOf], fun j hj => ?_⟩
      have : j = 0 := by simp at hj; omega
      subst this
      rfl
  · have hl : z.length ≠ 0 := fun h => h0 (List.eq_nil_of_length_eq_zero h)
    have hb : Nat.beq z.length 0 = false := by
      cases hh : Nat.beq z.length 0
      · rfl
      · exact absurd (Nat.eq_of_beq_eq_true hh) hl
    obtain ⟨A, hA⟩ : ∃ A, A = blkOf 3 (z.map (AVal.i .i64)) := ⟨_, rfl⟩
    obtain ⟨B, hB⟩ : ∃ B, B = blkOf 3 [AVal.i .i64 c] := ⟨_, rfl⟩
    obtain ⟨C, hC⟩ : ∃ C, C = blkOf 3 (z.map (AVal.i .i64) ++ [AVal.i .i64 c]) := ⟨_, rfl⟩
    refine ⟨.sl ⟨false, hp.length, 0⟩ z.length .grow, ⟨hp ++ [some A], L, L⟩, .sl ⟨false, hp.length + 1, 0⟩ 1 (.known 1), ⟨hp ++ [some A] ++ [some B], L, L⟩, .sl ⟨false, hp.length + 2, 0⟩ (z.length + 1) .grow, [none, some B, some C], ?_, ?_, ?_, ?_⟩
    · simp only [stepM, stepK, opd, st_app, src_row hr, hb, cond_false, fits_small (by omega : z.length ≤ 1000000) (by omega : 8 ≤ 1000), cond_true, newB, St.mm, hA]
    · rw [hB]
      simp [stepM, stepK, st_bsl, rep, fillA, opd, AVal.cells, splice, newB, St.mm]
    · have hsrc := one (hp ++ [some A])
      rw [← hB] at hsrc
      have hlen : (hp ++ [some A]).length = hp.length + 1 := by simp
      rw [hlen] at hsrc
      have hg : lget (hp ++ [some A] ++ [some B]) hp.length = some (some A) := lget_ext (lget_last _ _) _
      have h1 : (Nat.beq A.e 3 && Nat.ble z.length A.n && fits (z.length + 1) 8 && ones [AVal.i .i64 c]) = true := by
        rw [hA, fits_small (by omega : z.length + 1 ≤ 1000000) (by omega : 8 ≤ 1000)]
        simp [blkOf, ones, AVal.one, Nat.ble_eq]
      have h2 : (false || !Nat.beq 0 0 || Nat.beq 1 0) = false := rfl
      have hrow : A.c.row 0 z.length = z.map (AVal.i .i64) := by
        refine row_eq fun j hj => ?_
        rw [hA, get_blk, Nat.zero_add, map_getD hj]
      have hset : lset none (hp ++ [some A] ++ [some B]) hp.length = hp ++ [none] ++ [some B] := by
        rw [lset_eq]; simp
      simp only [stepM, stepK, opd, st_app, hsrc, app_grow, h2, cond_false, hg, Nat.mul_one, h1, cond_true, St.mm, hrow, hset, Nat.min_eq_left hL, ← hC]
      simp
    · refine .inr ⟨⟨false, hp.length + 2, 0⟩, .grow, C, by simp, rdB_heap (by rw [lget_eq, List.getElem?_append_right (by omega), Nat.add_sub_cancel_left]; rfl) 0, by rw [hC]; simp [blkOf], fun j hj => ?_⟩
      rw [hC, get_blk, Nat.zero_add]
      have : z.map (AVal.i .i64) ++ [AVal.i .i64 c] = (z ++ [c]).map (AVal.i .i64) := by simp
      rw [this, map_getD hj]

theorem fin_same {h : Heap} {v : AVal} {l p : Nat} : finM h.length v ⟨h, l, p⟩ = some (v, h, l, p) := by
  unfold finM gc
  simp only [Mm.st]
  split
  · simp
  · rfl

/-- the first one is kept -/
def firstOf (F : List (List Int)) (l : List (List Nat)) : List (List Int) := if F = [] then (l.take 1).map nts else F
theorem firstOf_app (F : List (List Int)) (a b : List (List Nat)) : firstOf (firstOf F a) b = firstOf F (a ++ b) := by
  unfold firstOf
  by_cases h : F = []
  · cases a with
    | nil => simp [h]
    | cons z a => simp [h]
  · simp [h]
theorem firstOf_nil (F : List (List Int)) : firstOf F [] = F := by
  unfold firstOf
  by_cases h : F = []
  · simp [h]
  · simp [h]

/-- the new list is the old one or lies in new memory -/
def Newer (L : Nat) (v v' : AVal) (F F' : List (List Int)) : Prop := (v' = v ∧ F' = F) ∨ ∃ b len cap, v' = .sl ⟨false, b, 0⟩ len cap ∧ L ≤ b
theorem Newer.trans {L L' : Nat} {v v' v'' : AVal} {F F' F'' : List (List Int)} (h : Newer L v v' F F') (k : Newer L' v' v'' F' F'') (hl : L ≤ L') : Newer L v v'' F F'' := by
  rcases k with ⟨rfl, rfl⟩ | ⟨b, len, cap, rfl, hb⟩
  · exact h
  · exact .inr ⟨b, len, cap, rfl, by omega⟩

theorem ok_loop {ro : List ABlk} {hp : Heap} {v0 v1 v2 : AVal} {x : List (List Int)} {now : List Nat} {c : Nat} {x10 : Int} {m : Mm} (hm : m.h = hp) (hs : shapedP x) (h0 : IsMat ro hp v0 x) (h1 : IsRow ro hp v1 (nts now)) (hr : now.length < x.length) (hn : ∀ d ∈ now, d < x.length) (hc : c < x.length) :
    loopX (fun s => g75_b2 (meansX F1 ro) ro v0 v1 v2 now.length x10 c m s.1 s.2) (true, 0) = some (decide (okT x now c)) := by
  have h7 := hs.2.1
  have key : ∀ (j i : Nat) (b : Bool), i + j = now.length → loopX (fun s => g75_b2 (meansX F1 ro) ro v0 v1 v2 now.length x10 c m s.1 s.2) (b, (i : Int)) =
      some (b && decide (∀ i', i' < now.length → i ≤ i' → now.getD i' 0 ≠ c ∧ at2 x i' (now.getD i' 0) ≠ at2 x now.length c)) := by
    intro j
    induction j with
    | zero =>
      intro i b hi
      have hi' : i = now.length := by omega
      subst hi'
      refine (loopX_out (r := b) ?_).trans ?_
      · simp only [g75_b2, forceB_eq, ltI_eq]; simp
      · have : (∀ i', i' < now.length → now.length ≤ i' → now.getD i' 0 ≠ c ∧ at2 x i' (now.getD i' 0) ≠ at2 x now.length c) := fun i' h1 h2 => by omega
        rw [decide_eq_true this, Bool.and_true]
    | succ j ih =>
      intro i b hi
      have hil : i < now.length := by omega
      have e : decide ((i : Int) < (now.length : Int)) = true := by simp; omega
      obtain ⟨p1, a1, a2, a3⟩ := at_row hm h1 (by rw [nts_len]; exact hil)
      rw [nts_get] at a3
      obtain ⟨p2, u2, b1, b2, b3, b4⟩ := at_mat hm h0 (by omega : i < x.length)
      obtain ⟨p4, u4, d1, d2, d3, d4⟩ := at_mat hm h0 hr
      have hni : now.getD i 0 < x.length := hn _ (by
        rw [List.getD_eq_getElem?_getD, List.getElem?_eq_getElem hil]; simp)
      obtain ⟨p3, c1, c2, c3⟩ := at_row hm b4 (by rw [(hs.2.2 i (by omega)).1]; exact hni : now.getD i 0 < (x.getD i []).length)
      obtain ⟨p5, f1, f2, f3⟩ := at_row hm d4 (by rw [(hs.2.2 now.length hr).1]; exact hc : c < (x.getD now.length []).length)
      have hat1 : (x.getD i []).getD (now.getD i 0) 0 = at2 x i (now.getD i 0) := rfl
      have hat2 : (x.getD now.length []).getD c 0 = at2 x now.length c := rfl
      rw [hat1] at c3
      rw [hat2] at f3
      have wri : wr .i64 ((i : Int) + 1) = ((i + 1 : Nat) : Int) := by rw [wr_id' (by omega) (by omega)]; omega
      have step : g75_b2 (meansX F1 ro) ro v0 v1 v2 now.length x10 c m b (i : Int) = some (.inl (b && (decide (now.getD i 0 ≠ c) && decide (at2 x i (now.getD i 0) ≠ at2 x now.length c)), ((i + 1 : Nat) : Int))) := by
        have e3 : (!((now.getD i 0 : Nat) : Int) == (c : Int)) = decide (now.getD i 0 ≠ c) := by
          by_cases h : now.getD i 0 = c
          · rw [h]; simp
          · have : ¬ (((now.getD i 0 : Nat) : Int) = (c : Int)) := by omega
            rw [decide_eq_true (by exact h), beq_eq_false_iff_ne.2 this]; rfl
        have e4 : (!at2 x i (now.getD i 0) == at2 x now.length c) = decide (at2 x i (now.getD i 0) ≠ at2 x now.length c) := by
          by_cases h : at2 x i (now.getD i 0) = at2 x now.length c
          · rw [h]; simp
          · rw [decide_eq_true (by exact h), beq_eq_false_iff_ne.2 h]; rfl
        cases b
        · simp only [g75_b2, forceB_eq, ltI_eq, e, cond_true, cond_false, bindO_some, forceI_eq, wri, Bool.false_and]
        · simp only [g75_b2, forceB_eq, ltI_eq, e, cond_true, bindO_some, a1, a3, asI_i, eqI_eq, e3]
          cases hd : decide (now.getD i 0 ≠ c)
          · simp only [cond_false, bindO_some, forceI_eq, wri, Bool.true_and, Bool.false_and]
          · simp only [cond_true, bindO_some, a1, a3, asI_i, b1, b3, c1, c3, d1, d3, f1, f3, e4, forceI_eq, wri, Bool.true_and]
      rw [loopX_on step (ih (i + 1) _ (by omega))]
      congr 1
      have h1 : (decide (now.getD i 0 ≠ c) && decide (at2 x i (now.getD i 0) ≠ at2 x now.length c) && decide (∀ i', i' < now.length → i + 1 ≤ i' → now.getD i' 0 ≠ c ∧ at2 x i' (now.getD i' 0) ≠ at2 x now.length c)) =
          decide (∀ i', i' < now.length → i ≤ i' → now.getD i' 0 ≠ c ∧ at2 x i' (now.getD i' 0) ≠ at2 x now.length c) := by
        rw [← Bool.decide_and, ← Bool.decide_and]
        refine decide_eq_decide.2 ⟨fun ⟨⟨q1, q2⟩, q3⟩ i' w1 w2 => ?_, fun q => ⟨q i hil (Nat.le_refl _), fun i' w1 w2 => q i' w1 (by omega)⟩⟩
        by_cases e : i' = i
        · subst e; exact ⟨q1, q2⟩
        · exact q3 i' w1 (by omega)
      rw [← h1, Bool.and_assoc, Bool.and_assoc]
  have e0 : ((0 : Nat) : Int) = 0 := rfl
  have := key now.length 0 true (by omega)
  rw [e0] at this
  rw [this, Bool.true_and]
  congr 1
  refine decide_eq_decide.2 ⟨fun q => ⟨fun hmem => ?_, fun i hi => (q i hi (by omega)).2⟩, fun q i' w1 _ => ⟨fun he => ?_, q.2 i' w1⟩⟩
  · obtain ⟨i, hi, he⟩ := List.getElem_of_mem hmem
    refine (q i hi (by omega)).1 ?_
    rw [List.getD_eq_getElem?_getD, List.getElem?_eq_getElem hi]
    simpa using he
  · refine q.1 ?_
    rw [← he, List.getD_eq_getElem?_getD, List.getElem?_eq_getElem w1]
    simp

theorem refTrans_ok {ro : List ABlk} {x : List (List Int)} (hf : fullP x) : ∀ (k : Nat) (now : List Nat) (h : Heap) (v0 v1 v2 : AVal) (F : List (List Int)), now.length + k = x.length → (∀ d ∈ now, d < x.length) → IsMat ro h v0 x → IsRow ro h v1 (nts now) → IsMat ro h v2 F → F.length ≤ 1 →
    ∃ v' y, callX F1 ro 75 [v0, v1, v2] h = some (.tup [.i .i64 ((tl x k now).length : Nat), v'], h ++ y, h.length, h.length) ∧ IsMat ro (h ++ y) v' (firstOf F (tl x k now)) ∧ Newer h.length v2 v' F (firstOf F (tl x k now)) := by
  have hs := hf.1.1
  have h7 := hs.2.1
  have h17 := hs.1
  have hbel : ∀ (L : Nat) (n : Int) (b len : Nat) (cap : Cap), L ≤ b → (AVal.tup [.i .i64 n, .sl ⟨false, b, 0⟩ len cap]).bel L = false := fun L n b len cap hb => by
    have : (AVal.sl ⟨false, b, 0⟩ len cap).bel L = false := not_bel hb
    simp only [AVal.bel, bels] at this ⊢
    rw [this]; rfl
  intro k
  induction k with
  | zero =>
    intro now h v0 v1 v2 F hk hn h0 h1 h2 hF
    have e : ((now.length : Int) == (x.length : Int)) = true := by simp; omega
    have hlen1 := len_row h1
    rw [nts_len] at hlen1
    by_cases hF0 : F = []
    · subst hF0
      have hne : (nts now).length ≠ 0 := by rw [nts_len]; omega
      have hb : Nat.beq (nts now).length 0 = false := by
        cases hh : Nat.beq (nts now).length 0
        · rfl
        · exact absurd (Nat.eq_of_beq_eq_true hh) hne
      obtain ⟨A, hA⟩ : ∃ A, A = blkOf 3 ((nts now).map (AVal.i .i64)) := ⟨_, rfl⟩
      obtain ⟨w, hw⟩ : ∃ w, w = AVal.sl ⟨false, h.length, 0⟩ (nts now).length .grow := ⟨_, rfl⟩
      obtain ⟨B, hB⟩ : ∃ B, B = blkOf 32 [w] := ⟨_, rfl⟩
      have s1 : stepM ro ⟨h, h.length, h.length⟩ (.app 3 1 8 [(AVal.i IntKind.i64 0)] (.c AVal.nsl) (.c v1)) = some (w, ⟨h ++ [some A], h.length, h.length⟩) := by
        simp only [stepM, stepK, opd, st_app, src_row h1, hb, cond_false, fits_small (by rw [nts_len]; omega : (nts now).length ≤ 1000000) (by omega : 8 ≤ 1000), cond_true, newB, St.mm, hA, hw]
      have s2 : stepM ro ⟨h ++ [some A], h.length, h.length⟩ (.bsl 32 1 [AVal.nsl] 1 [((0, 1), .c w)]) = some (.sl ⟨false, h.length + 1, 0⟩ 1 (.known 1), ⟨h ++ [some A, some B], h.length, h.length⟩) := by
        have hwc : w.cells = [w] := by rw [hw]; rfl
        simp [stepM, stepK, st_bsl, rep, fillA, opd, hwc, splice, newB, St.mm, hB]
      have hrow : IsRow ro (h ++ [some A, some B]) w (nts now) := .inr ⟨⟨false, h.length, 0⟩, .grow, A, hw, rdB_heap (by rw [lget_eq, List.getElem?_append_right (Nat.le_refl _)]; simp) 0, by rw [hA]; simp [blkOf], fun j hj => by rw [hA, get_blk, Nat.zero_add, map_getD hj]⟩
      have hmat : IsMat ro (h ++ [some A, some B]) (.sl ⟨false, h.length + 1, 0⟩ 1 (.known 1)) [nts now] := .inr ⟨⟨false, h.length + 1, 0⟩, .known 1, B, rfl, rdB_heap (by rw [lget_eq, List.getElem?_append_right (by omega), Nat.add_sub_cancel_left]; rfl) 0, by rw [hB]; simp [blkOf], fun r hr => by
        have : r = 0 := by simp at hr; omega
        subst this
        have hg : B.c.get (0 + 0) = w := by rw [hB]; rfl
        show IsRow ro _ (B.c.get (0 + 0)) (nts now)
        rw [hg]
        exact hrow⟩
      obtain ⟨y, f1, f2⟩ := fin_gen (h := h) (h' := h ++ [some A, some B]) (v := .tup [.i .i64 1, .sl ⟨false, h.length + 1, 0⟩ 1 (.known 1)]) (l := h.length) (p := h.length) (by simp) (fun i hi => by rw [List.getElem?_append_left hi])
      have hy := f2 (hbel _ _ _ _ _ (by omega))
      refine ⟨.sl ⟨false, h.length + 1, 0⟩ 1 (.known 1), y, g75_ok (meansX_ok F1 ro) rfl ?_, by rw [hy]; exact hmat, .inr ⟨_, _, _, rfl, by omega⟩⟩
      unfold g75
      have hlen2 := len_mat h2
      simp only [hlen1, bindO_some, asI_i, len_mat h0, forceB_eq, eqI_eq, e, cond_true, hlen2, List.length_nil]
      have e0 : (((0 : Nat) : Int) == 0) = true := rfl
      simp only [e0, cond_true, s1, bindP_some, s2, bindO_some, tupA]
      exact f1
    · have hlF : F.length = 1 := by
        cases F with
        | nil => exact absurd rfl hF0
        | cons a l => simp at hF ⊢; exact hF
      have hfo : firstOf F (tl x 0 now) = F := by unfold firstOf; rw [if_neg hF0]
      rw [hfo]
      refine ⟨v2, [], g75_ok (meansX_ok F1 ro) rfl ?_, by simpa using h2, .inl ⟨rfl, rfl⟩⟩
      unfold g75
      have hlen2 := len_mat h2
      have e1 : (((1 : Nat) : Int) == 0) = false := rfl
      simp only [hlen1, bindO_some, asI_i, len_mat h0, forceB_eq, eqI_eq, e, cond_true, hlen2, hlF, e1, cond_false, tupA, List.append_nil]
      exact fin_same
  | succ k ih =>
    intro now h v0 v1 v2 F hk hn h0 h1 h2 hF
    have hr : now.length < x.length := by omega
    have e : ((now.length : Int) == (x.length : Int)) = false := by simp; omega
    have hlen1 := len_row h1
    rw [nts_len] at hlen1
    have bound := tl_len h7 k
    have h7k : 7 ^ k ≤ 7 ^ 7 := Nat.pow_le_pow_right (by omega) (by omega)
    have h77 : (7 : Nat) ^ 7 = 823543 := by decide
    have loop : ∀ (j c : Nat) (y : Heap) (w : AVal) (G : List (List Int)) (cnt : Nat), c + j = x.length → cnt + j * 823543 ≤ 10000000 → IsMat ro (h ++ y) w G → G.length ≤ 1 → Newer h.length v2 w F G →
        ∃ w' y', loopX (fun s => g75_b1 (meansX F1 ro) ro v0 v1 now.length s.1 s.2.1 s.2.2.1 s.2.2.2) (w, (cnt : Int), (c : Int), ⟨h ++ y, h.length, h.length⟩) =
          some (w', ((cnt + (tlc (fun c => if okT x now c then tl x k (now ++ [c]) else []) j c).length : Nat) : Int), ⟨h ++ y', h.length, h.length⟩) ∧
          IsMat ro (h ++ y') w' (firstOf G (tlc (fun c => if okT x now c then tl x k (now ++ [c]) else []) j c)) ∧ Newer h.length v2 w' F (firstOf G (tlc (fun c => if okT x now c then tl x k (now ++ [c]) else []) j c)) := by
      intro j
      induction j with
      | zero =>
        intro c y w G cnt hc hcnt hw hG hN
        refine ⟨w, y, loopX_out ?_, ?_, ?_⟩
        · have : c = x.length := by omega
          subst this
          simp only [g75_b1, len_mat (h0.ext y), bindO_some, asI_i, forceB_eq, ltI_eq]
          simp [tlc]
        · simp only [tlc]; rw [firstOf_nil]; exact hw
        · simp only [tlc]; rw [firstOf_nil]; exact hN
      | succ j ihj =>
        intro c y w G cnt hc hcnt hw hG hN
        have hcl : c < x.length := by omega
        have e2 : decide ((c : Int) < (x.length : Int)) = true := by simp; omega
        have hok := ok_loop (v2 := w) (x10 := (cnt : Int)) (m := ⟨h ++ y, h.length, h.length⟩) rfl hs (h0.ext y) (h1.ext y) hr hn hcl
        have wri : wr .i64 ((c : Int) + 1) = ((c + 1 : Nat) : Int) := by rw [wr_id' (by omega) (by omega)]; omega
        by_cases ho : okT x now c
        · rw [decide_eq_true ho] at hok
          obtain ⟨a1, m1, a2, m2, a3, y3, p1, p2, p3, p4⟩ := push_row (L := h.length) (h1.ext y) (by rw [nts_len]; omega) (by simp) (c : Int)
          rw [← nts_app] at p4
          have hlist : ∀ d ∈ now ++ [c], d < x.length := fun d hd => by
            rw [List.mem_append, List.mem_singleton] at hd
            rcases hd with h | rfl
            · exact hn d h
            · exact hcl
          obtain ⟨w', y', q1, q2, q3⟩ := ih (now ++ [c]) (h ++ y ++ y3) v0 a3 w G (by simp; omega) hlist ((h0.ext y).ext y3) p4 (hw.ext y3) hG
          have hcall := callM_eq (call := callX F1 ro) (m := ⟨h ++ y ++ y3, h.length, h.length⟩) q1
          have hmin : min h.length (h ++ y ++ y3).length = h.length := by simp only [List.length_append]; omega
          simp only [hmin] at hcall
          have hass : h ++ y ++ y3 ++ y' = h ++ (y ++ y3 ++ y') := by simp
          rw [hass] at hcall q2
          have hb1 := bound (now ++ [c])
          have hcnt2 : wr .i64 ((cnt : Int) + ((tl x k (now ++ [c])).length : Nat)) = ((cnt + (tl x k (now ++ [c])).length : Nat) : Int) := by
            rw [wr_id' (by omega) (by omega)]; omega
          have hsm : (j + 1) * 823543 = j * 823543 + 823543 := Nat.succ_mul _ _
          have hFl : (firstOf G (tl x k (now ++ [c]))).length ≤ 1 := by
            unfold firstOf
            split
            · simp; omega
            · exact hG
          obtain ⟨w2, y2, r1, r2, r3⟩ := ihj (c + 1) (y ++ y3 ++ y') w' (firstOf G (tl x k (now ++ [c]))) (cnt + (tl x k (now ++ [c])).length) (by omega) (by omega) q2 hFl (hN.trans q3 (by simp only [List.length_append]; omega))
          have htl : tlc (fun c => if okT x now c then tl x k (now ++ [c]) else []) (j + 1) c = tl x k (now ++ [c]) ++ tlc (fun c => if okT x now c then tl x k (now ++ [c]) else []) j (c + 1) := by
            simp only [tlc]; rw [if_pos ho]
          rw [htl, ← firstOf_app]
          refine ⟨w2, y2, (loopX_on (s' := (w', ((cnt + (tl x k (now ++ [c])).length : Nat) : Int), ((c + 1 : Nat) : Int), ⟨h ++ (y ++ y3 ++ y'), h.length, h.length⟩)) ?_ r1).trans ?_, r2, r3⟩
          · simp only [g75_b1, len_mat (h0.ext y), bindO_some, asI_i, forceB_eq, ltI_eq, e2, cond_true, meansX_loop, hok, p1, bindP_some, p2, p3, meansX_call]
            rw [hcall]
            simp only [bindP_some, evP, ev_ext, opd, lget, bindO_some, asI_i, forceI_eq, hcnt2, wri]
          · simp only [List.length_append]
            congr 3
            omega
        · rw [decide_eq_false ho] at hok
          have hsm : (j + 1) * 823543 = j * 823543 + 823543 := Nat.succ_mul _ _
          have hb2 : cnt + j * 823543 ≤ 10000000 := by
            rw [hsm] at hcnt
            exact Nat.le_trans (Nat.add_le_add_left (Nat.le_add_right _ _) _) hcnt
          obtain ⟨w2, y2, r1, r2, r3⟩ := ihj (c + 1) y w G cnt (by omega) hb2 hw hG hN
          have htl : tlc (fun c => if okT x now c then tl x k (now ++ [c]) else []) (j + 1) c = tlc (fun c => if okT x now c then tl x k (now ++ [c]) else []) j (c + 1) := by
            simp only [tlc]; rw [if_neg ho, List.nil_append]
          rw [htl]
          refine ⟨w2, y2, loopX_on (s' := (w, (cnt : Int), ((c + 1 : Nat) : Int), ⟨h ++ y, h.length, h.length⟩)) ?_ r1, r2, r3⟩
          simp only [g75_b1, len_mat (h0.ext y), bindO_some, asI_i, forceB_eq, ltI_eq, e2, cond_true, meansX_loop, hok, cond_false, forceI_eq, wri]
    have hmat0 : IsMat ro (h ++ []) v2 F := by rw [List.append_nil]; exact h2
    have hbd : 0 + x.length * 823543 ≤ 10000000 := by omega
    have hnew0 : Newer h.length v2 v2 F F := .inl ⟨rfl, rfl⟩
    have hz0 : 0 + x.length = x.length := Nat.zero_add _
    have L1 := loop x.length 0 [] v2 F 0 hz0
    have L2 := L1 (by omega)
    obtain ⟨w', y', r1, r2, r3⟩ := L2 hmat0 hF hnew0
    have htl : tl x (k + 1) now = tlc (fun c => if okT x now c then tl x k (now ++ [c]) else []) x.length 0 := rfl
    rw [htl]
    obtain ⟨y, f1, f2⟩ := fin_gen (h := h) (h' := h ++ y') (v := .tup [.i .i64 ((tlc (fun c => if okT x now c then tl x k (now ++ [c]) else []) x.length 0).length : Nat), w']) (l := h.length) (p := h.length) (by simp) (fun i hi => by rw [List.getElem?_append_left hi])
    refine ⟨w', y, g75_ok (meansX_ok F1 ro) rfl ?_, ?_, r3⟩
    · unfold g75
      simp only [Nat.zero_add, List.append_nil] at r1
      have e0 : ((0 : Nat) : Int) = 0 := rfl
      rw [e0] at r1
      simp only [hlen1, bindO_some, asI_i, len_mat h0, forceB_eq, eqI_eq, e, cond_false, meansX_loop]
      rw [r1]
      simp only [bindO_some, tupA]
      exact f1
    · rcases r3 with ⟨rfl, hFF⟩ | ⟨b, len, cap, rfl, hb⟩
      · rw [hFF]; exact h2.ext y
      · rw [f2 (hbel _ _ _ _ _ hb)]; exact r2
end Go.Proofs.Ytllmlonngnhbfaa.Bed

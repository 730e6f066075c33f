/- Contracts of the functions: what each of them answers. -/
import Derived.Test.YtfohppnelbbepaaVmK0
/- sorted of the reference -/
open Go.Vm
set_option linter.unusedVariables false
set_option linter.unusedSectionVars false
namespace Go.Proofs.Ytfohppnelbbepaa.T
open Go
variable [Ovr]
section
variable {ro : List ABlk} {h hp : Heap}
def RowS (ro : List ABlk) (h : Heap) (v : AVal) (z : List Int) : Prop :=
  ∃ q cap blk, v = .sl q z.length cap ∧ (∀ c, cap ≠ .known c) ∧ rdB ro h q = some blk ∧ q.off + z.length ≤ blk.n ∧ ∀ j, j < z.length → blk.c.get (q.off + j) = .i .i64 (z.getD j 0)
theorem RowS.row {v : AVal} {z : List Int} (a : RowS ro h v z) : IsRow ro h v z := by
  obtain ⟨q, cap, blk, h1, -, h2, h3, h4⟩ := a
  exact .inr ⟨q, cap, blk, h1, h2, h3, h4⟩
theorem RowS.by {v : AVal} {z : List Int} (a : RowS ro h v z) (k : Keep h hp) : RowS ro hp v z := by
  obtain ⟨q, cap, blk, h1, h0, h2, h3, h4⟩ := a
  exact ⟨q, cap, blk, h1, h0, rdB_by h2 k, h3, h4⟩
theorem RowG.rowS {L e : Nat} {v : AVal} {z : List Int} (g : RowG hp L e v (z.map (AVal.i .i64))) (hz : z ≠ []) : RowS ro hp v z := by
  rcases g with ⟨rfl, h⟩ | ⟨b, blk, rfl, h2, h3, h4, h5, h6, h7⟩
  · exact absurd (by simpa using h) hz
  · rw [List.length_map] at h6 h7 ⊢
    refine ⟨_, _, blk, rfl, (fun c e => by cases e), rdB_heap h4 0, by show 0 + z.length ≤ _; omega, fun j hj => ?_⟩
    rw [Nat.zero_add, h7 j hj]
    simp [List.getD, hj]
theorem capB_len {cap : Cap} (h0 : ∀ c, cap ≠ .known c) (n : Nat) : capB cap n = n := by
  cases cap with
  | known c => exact absurd rfl (h0 c)
  | _ => rfl
theorem rowS_take {v : AVal} {z : List Int} {k : Nat} (a : RowS ro h v z) (hk : k ≤ z.length) : ∃ u, evP .e (.slS 1 (.c v) none (some (.c (.i .i64 (k : Int)))) none) = some u ∧ RowS ro h u (z.take k) := by
  obtain ⟨q, cap, blk, rfl, h0, h2, h3, h4⟩ := a
  have eh : ((k : Nat) : Int) = Int.ofNat k := rfl
  have b1 : Nat.ble k z.length = true := by rw [Nat.ble_eq]; exact hk
  have hl : (z.take k).length = k := by rw [List.length_take]; omega
  refine ⟨.sl q k cap, ?_, q, cap, blk, by rw [hl], h0, h2, by omega, fun j hj => ?_⟩
  · simp only [evP, ev_slS, opd, sl_lh, eh, Option.map_some, Option.map_none, sbound, capB_len h0, b1, cond_true]
  · rw [h4 j (by omega)]
    simp [List.getD, show j < k by omega, List.getElem?_take]
theorem rowS_drop {v : AVal} {z : List Int} {k : Nat} (a : RowS ro h v z) (h1 : 0 < k) (hk : k < z.length) : ∃ u, evP .e (.slS 1 (.c v) (some (.c (.i .i64 (k : Int)))) none none) = some u ∧ RowS ro h u (z.drop k) := by
  obtain ⟨q, cap, blk, rfl, h0, h2, h3, h4⟩ := a
  obtain ⟨m, rfl⟩ : ∃ m, k = m + 1 := ⟨k - 1, by omega⟩
  have eh : ((m + 1 : Nat) : Int) = Int.ofNat (m + 1) := rfl
  have b1 : Nat.ble (m + 1) z.length = true := by rw [Nat.ble_eq]; omega
  have b2 : Nat.blt (m + 1) z.length = true := by rw [Nat.blt_eq]; exact hk
  have hl : (z.drop (m + 1)).length = z.length - (m + 1) := List.length_drop
  refine ⟨.sl ⟨q.ro, q.b, q.off + (m + 1) * 1⟩ (z.length - (m + 1)) .any, ?_, _, .any, blk, by rw [hl], (fun c e => by cases e), ?_, ?_, fun j hj => ?_⟩
  · cases cap with
    | known c => exact absurd rfl (h0 c)
    | _ => simp only [evP, ev_slS, opd, sl_lh, eh, Option.map_some, Option.map_none, sbound, capB, b1, b2, cond_true]
  · cases hq : q.ro <;> simpa [rdB, hq] using h2
  · show q.off + (m + 1) * 1 + _ ≤ _; omega
  · show blk.c.get (q.off + (m + 1) * 1 + j) = _
    rw [Nat.mul_one, Nat.add_assoc, h4 (m + 1 + j) (by omega)]
    simp [List.getD, List.getElem?_drop]
abbrev leZ (a b : Int) : Bool := decide (a ≤ b)
theorem getD_drop {z : List Int} {i : Nat} (hi : i < z.length) : z.drop i = z.getD i 0 :: z.drop (i + 1) := by
  rw [List.drop_eq_getElem_cons hi]
  simp [List.getD, hi]
set_option maxHeartbeats 1000000 in
theorem sorted78 : ∀ (n : Nat) {h : Heap} {v : AVal} {x : List Int}, x.length ≤ n → x.length ≤ 150000 → x ≠ [] → RowS ro h v x → ∃ w H y, callX F1 ro 78 [v] h = some (w, H, h.length, h.length) ∧ Keep h H ∧ RowS ro H w y ∧ y.Perm x ∧ y.Pairwise (fun a b => leZ a b = true)
  | 0, h, v, x, hn, _, hx, _ => absurd (List.length_eq_zero_iff.1 (by omega)) hx
  | n + 1, h, v, x, hn, h15, hx, a => by
    have hln : evP .e (.len false (.c v)) = some (.i .i64 (x.length : Int)) := len_row a.row
    have hpos : 0 < x.length := List.length_pos_iff.2 hx
    by_cases h2 : x.length < 2
    · obtain ⟨q, cap, blk, rfl, h0, hb, h3, h4⟩ := a
      obtain ⟨H, f1, f2, f3⟩ := fin_any (w := .sl q x.length cap) (Keep.refl h)
      have hH : H = h := by
        unfold finM gc at f1
        split at f1
        · simp only [List.take_length, Option.some.injEq, Prod.mk.injEq] at f1; exact f1.2.1.symm
        · simp only [Option.some.injEq, Prod.mk.injEq] at f1; exact f1.2.1.symm
      subst hH
      refine ⟨_, H, x, g78_ok (meansX_ok F1 ro) (Ovr.no rfl) ?_, Keep.refl _, ⟨q, cap, blk, rfl, h0, hb, h3, h4⟩, List.Perm.refl _, ?_⟩
      · unfold g78
        simp only [hln, oS, iS, fB, ltT (show (x.length : Int) < 2 by omega), cT, tA]
        exact f1
      · match x, h2 with
        | [], _ => exact List.Pairwise.nil
        | [c], _ => exact List.pairwise_singleton _ _
    · obtain ⟨m, hm⟩ : ∃ m, m = x.length / 2 := ⟨_, rfl⟩
      have em : wr .i64 (Int.tdiv (x.length : Int) 2) = (m : Int) := by
        have : Int.tdiv (x.length : Int) 2 = (m : Int) := by rw [hm]; exact (Int.ofNat_tdiv _ _).symm
        rw [this, wr_id' (by omega) (by omega)]
      obtain ⟨u1, s1, a1⟩ := rowS_take a (show m ≤ x.length by omega)
      obtain ⟨u2, s2, a2⟩ := rowS_drop a (show 0 < m by omega) (show m < x.length by omega)
      have n1 : (x.take m).length = m := by rw [List.length_take]; omega
      have n2 : (x.drop m).length = x.length - m := List.length_drop
      obtain ⟨w1, H1, l, c1, k1, r1, p1, o1⟩ := sorted78 n (h := h) (v := u1) (x := x.take m) (by omega) (by omega) (by intro e; rw [e] at n1; simp at n1; omega) a1
      obtain ⟨w2, H2, r, c2, k2, r2, p2, o2⟩ := sorted78 n (h := H1) (v := u2) (x := x.drop m) (by omega) (by omega) (by intro e; rw [e] at n2; simp at n2; omega) (a2.by k1)
      obtain ⟨L, hL⟩ : ∃ L, L = h.length := ⟨_, rfl⟩
      have q1 := k1.1
      have q2 := k2.1
      have kh2 := k1.trans k2
      have c1' := cM (l := L) (p := L) c1 (by omega) (by omega)
      have c2' := cM (l := L) (p := L) c2 (by omega) (by omega)
      have ll : l.length = m := by rw [p1.length_eq, n1]
      have lr : r.length = x.length - m := by rw [p2.length_eq, n2]
      have R1 : IsRow ro H2 w1 l := (r1.by k2).row
      have R2 : IsRow ro H2 w2 r := r2.row
      have key : ∃ t, loopX (fun q : AVal × Int × Int × Mm => g78_b0 (meansX F1 ro) ro w1 w2 q.1 q.2.1 q.2.2.1 q.2.2.2) (.nsl, 0, 0, ⟨H2, L, L⟩) = some t ∧ ∃ u J, t = (u, ⟨J, L, L⟩) ∧ Keep H2 J ∧ RowG J H2.length 3 u ((List.merge l r leZ).map (AVal.i .i64)) := by
        refine loop_gen (l.length + r.length) (fun k q => ∃ u J, ∃ i j : Nat, ∃ acc, q = (u, (i : Int), (j : Int), ⟨J, L, L⟩) ∧ i + j = k ∧ i ≤ l.length ∧ j ≤ r.length ∧ Keep H2 J ∧ RowG J H2.length 3 u (acc.map (AVal.i .i64)) ∧ acc.length = k ∧ acc ++ List.merge (l.drop i) (r.drop j) leZ = List.merge l r leZ) _ ?_ ?_ (l.length + r.length) 0 _ (by omega) ⟨.nsl, H2, 0, 0, [], rfl, rfl, Nat.zero_le _, Nat.zero_le _, Keep.refl _, RowG.nil _ _ _, rfl, rfl⟩
        · rintro k q hk ⟨u, J, i, j, acc, rfl, hij, hi, hj, kJ, g, hacc, hmer⟩
          have hlJ := kJ.1
          have hl1 := len_row (row_by R1 kJ)
          have hl2 := len_row (row_by R2 kJ)
          -- one more number
          have push : ∀ y : Int, ∃ K2 K3, stepM ro ⟨J, L, L⟩ (.bsl 3 1 [(AVal.i IntKind.i64 0)] 1 [((0, 1), .c (.i .i64 y))]) = some (.sl ⟨false, J.length, 0⟩ 1 (.known 1), ⟨K2, L, L⟩) ∧ stepM ro ⟨K2, L, L⟩ (.app 3 1 8 [(AVal.i IntKind.i64 0)] (.c u) (.c (.sl ⟨false, J.length, 0⟩ 1 (.known 1)))) = some (.sl ⟨false, J.length + 1, 0⟩ (acc.length + 1) .grow, ⟨K3, L, L⟩) ∧ Keep H2 K3 ∧ RowG K3 H2.length 3 (.sl ⟨false, J.length + 1, 0⟩ (acc.length + 1) .grow) ((acc ++ [y]).map (AVal.i .i64)) := fun y => by
            obtain ⟨K2, K3, l', p', s1, s2, g4, n2, n3, o3, b3, b5, b6⟩ := g.push (ro := ro) (l := L) (p := L) (bytes := 8) (z := AVal.i IntKind.i64 0) (w := .i .i64 y) (by omega) (by rw [List.length_map]; omega) (by omega) rfl rfl
            obtain ⟨b31, b32⟩ := b3 L (by omega) (Nat.le_refl _) (Nat.le_refl _)
            have hl' : l' = L ∧ p' = L := by omega
            rw [hl'.1, hl'.2, List.length_map] at s2
            rw [List.length_map] at g4
            exact ⟨K2, K3, s1, s2, ⟨by omega, fun t ht => by rw [o3 t (by omega) fun e => by have := (g.holds e).2.1; omega, kJ.2 t ht]⟩, by rw [List.map_append]; exact g4⟩
          have takeL : i < l.length → (j = r.length ∨ l.getD i 0 ≤ r.getD j 0) → ∃ s', g78_b0 (meansX F1 ro) ro w1 w2 u (i : Int) (j : Int) ⟨J, L, L⟩ = some (.inl s') ∧ ∃ u J, ∃ i j : Nat, ∃ acc, s' = (u, (i : Int), (j : Int), ⟨J, L, L⟩) ∧ i + j = k + 1 ∧ i ≤ l.length ∧ j ≤ r.length ∧ Keep H2 J ∧ RowG J H2.length 3 u (acc.map (AVal.i .i64)) ∧ acc.length = k + 1 ∧ acc ++ List.merge (l.drop i) (r.drop j) leZ = List.merge l r leZ := fun hil hor => by
            obtain ⟨p, i1, i2⟩ := at_rowK R1 hil
            obtain ⟨K2, K3, t1, t2, t3, t4⟩ := push (l.getD i 0)
            have i2a := fun a b => (i2 (hp := J) (l := a) (q := b) kJ).1
            have i2b := (i2 (hp := J) (l := 0) (q := 0) kJ).2
            have hmer2 : List.merge (l.drop i) (r.drop j) leZ = l.getD i 0 :: List.merge (l.drop (i + 1)) (r.drop j) leZ := by
              rw [getD_drop hil]
              by_cases hjr : j < r.length
              · have hle : l.getD i 0 ≤ r.getD j 0 := by rcases hor with h | h; omega; exact h
                rw [getD_drop hjr, List.cons_merge_cons, if_pos (show leZ (l.getD i 0) (r.getD j 0) = true from decide_eq_true hle)]
              · rw [List.drop_of_length_le (show r.length ≤ j by omega), List.merge_right, List.merge_right]
            have fin : ∃ u J, ∃ i' j' : Nat, ∃ acc', (AVal.sl ⟨false, (J : Heap).length + 1, 0⟩ (acc.length + 1) Cap.grow, ((i + 1 : Nat) : Int), (j : Int), (⟨K3, L, L⟩ : Mm)) = (u, (i' : Int), (j' : Int), ⟨K3, L, L⟩) ∧ True := ⟨_, J, i + 1, j, acc, rfl, trivial⟩
            by_cases hjr : j = r.length
            · subst hjr
              exact ⟨_, (by simp only [g78_b0, hl1, oS, iS, fB, ltT (show (i : Int) < (l.length : Int) by omega), cT, hl2, eqI_self, i1, i2a, t1, pS, t2, fI', nx (show i ≤ 1000000 by omega)] <;> rfl), _, K3, i + 1, r.length, acc ++ [l.getD i 0], rfl, by omega, by omega, Nat.le_refl _, t3, t4, by simp [hacc], by rw [List.append_assoc, ← hmer, hmer2]; rfl⟩
            · have hjr2 : j < r.length := by omega
              have hle : l.getD i 0 ≤ r.getD j 0 := by rcases hor with h | h; omega; exact h
              obtain ⟨p', j1, j2⟩ := at_rowK R2 hjr2
              have j2b := (j2 (hp := J) (l := 0) (q := 0) kJ).2
              exact ⟨_, (by simp only [g78_b0, hl1, oS, iS, fB, ltT (show (i : Int) < (l.length : Int) by omega), cT, hl2, eqI_ne (show (j : Int) ≠ (r.length : Int) by omega), cF, i1, i2a, i2b, j1, j2b, ltF (show ¬ r.getD j 0 < l.getD i 0 by omega), nF, t1, pS, t2, fI', nx (show i ≤ 1000000 by omega)] <;> rfl), _, K3, i + 1, j, acc ++ [l.getD i 0], rfl, by omega, by omega, hj, t3, t4, by simp [hacc], by rw [List.append_assoc, ← hmer, hmer2]; rfl⟩
          by_cases hil : i < l.length
          · by_cases hor : j = r.length ∨ l.getD i 0 ≤ r.getD j 0
            · exact takeL hil hor
            · have hjr : j < r.length := by omega
              have hlt : r.getD j 0 < l.getD i 0 := by omega
              obtain ⟨p, i1, i2⟩ := at_rowK R1 hil
              obtain ⟨p', j1, j2⟩ := at_rowK R2 hjr
              obtain ⟨K2, K3, t1, t2, t3, t4⟩ := push (r.getD j 0)
              have i2b := (i2 (hp := J) (l := 0) (q := 0) kJ).2
              have j2a := fun a b => (j2 (hp := J) (l := a) (q := b) kJ).1
              have j2b := (j2 (hp := J) (l := 0) (q := 0) kJ).2
              have hmer2 : List.merge (l.drop i) (r.drop j) leZ = r.getD j 0 :: List.merge (l.drop i) (r.drop (j + 1)) leZ := by
                rw [getD_drop hil, getD_drop hjr, List.cons_merge_cons, if_neg (show ¬ leZ (l.getD i 0) (r.getD j 0) = true from fun e => by have := of_decide_eq_true e; omega)]
              exact ⟨_, (by simp only [g78_b0, hl1, oS, iS, fB, ltT (show (i : Int) < (l.length : Int) by omega), cT, hl2, eqI_ne (show (j : Int) ≠ (r.length : Int) by omega), cF, i1, i2b, j1, j2a, j2b, ltT hlt, nT, t1, pS, t2, fI', nx (show j ≤ 1000000 by omega)] <;> rfl), _, K3, i, j + 1, acc ++ [r.getD j 0], rfl, by omega, hi, by omega, t3, t4, by simp [hacc], by rw [List.append_assoc, ← hmer, hmer2]; rfl⟩
          · have hjr : j < r.length := by omega
            obtain ⟨p', j1, j2⟩ := at_rowK R2 hjr
            obtain ⟨K2, K3, t1, t2, t3, t4⟩ := push (r.getD j 0)
            have j2a := fun a b => (j2 (hp := J) (l := a) (q := b) kJ).1
            have hmer2 : List.merge (l.drop i) (r.drop j) leZ = r.getD j 0 :: List.merge (l.drop i) (r.drop (j + 1)) leZ := by
              rw [List.drop_of_length_le (show l.length ≤ i by omega), getD_drop hjr, List.nil_merge, List.nil_merge]
            exact ⟨_, (by simp only [g78_b0, hl1, oS, iS, fB, ltF (show ¬ (i : Int) < (l.length : Int) by omega), cF, hl2, ltT (show (j : Int) < (r.length : Int) by omega), cT, eqI_ne (show (j : Int) ≠ (r.length : Int) by omega), j1, j2a, t1, pS, t2, fI', nx (show j ≤ 1000000 by omega)] <;> rfl), _, K3, i, j + 1, acc ++ [r.getD j 0], rfl, by omega, hi, by omega, t3, t4, by simp [hacc], by rw [List.append_assoc, ← hmer, hmer2]; rfl⟩
        · rintro q ⟨u, J, i, j, acc, rfl, hij, hi, hj, kJ, g, hacc, hmer⟩
          have hl1 := len_row (row_by R1 kJ)
          have hl2 := len_row (row_by R2 kJ)
          refine ⟨_, (by simp only [g78_b0, hl1, oS, iS, fB, ltF (show ¬ (i : Int) < (l.length : Int) by omega), cF, hl2, ltF (show ¬ (j : Int) < (r.length : Int) by omega)] <;> rfl), u, J, rfl, kJ, ?_⟩
          rw [List.drop_of_length_le (show l.length ≤ i by omega), List.drop_of_length_le (show r.length ≤ j by omega), List.merge_right, List.append_nil] at hmer
          rw [← hmer]; exact g
      obtain ⟨t, e1, u, J, rfl, kJ, g⟩ := key
      have hperm : (List.merge l r leZ).Perm x := by
        have := List.merge_perm_append leZ (xs := l) (ys := r)
        exact this.trans ((p1.append p2).trans (by rw [List.take_append_drop]))
      have hne : List.merge l r leZ ≠ [] := fun e => by rw [e] at hperm; exact hx hperm.symm.eq_nil
      have khJ := kh2.trans kJ
      obtain ⟨H', f1, f2, f3⟩ := fin_any (w := u) khJ
      have hbel : u.bel h.length = false := by
        rcases g with ⟨-, e⟩ | ⟨b, blk, rfl, g2, g3, -⟩
        · exact absurd (by simpa using e) hne
        · have : Nat.blt b h.length = false := by rw [← Bool.not_eq_true, Nat.blt_eq]; omega
          simp [AVal.bel, this]
      obtain rfl := f3 hbel
      refine ⟨u, H', _, g78_ok (meansX_ok F1 ro) (Ovr.no rfl) ?_, khJ, g.rowS hne, hperm, ?_⟩
      · unfold g78
        rw [← hL] at f1 ⊢
        simp only [hln, oS, iS, fB, ltF (show ¬ (x.length : Int) < 2 by omega), cF, fI', em, s1, s2, mC, c1', c2', pS, meansX_loop, e1, tA]
        exact f1
      · exact List.pairwise_merge (fun a b c h1 h2 => by simp at h1 h2 ⊢; omega) (fun a b => by simp; omega) l r o1 o2
end
end Go.Proofs.Ytfohppnelbbepaa.T
/- Factors of the reference, law 8 -/
open Go.Vm
set_option linter.unusedVariables false
set_option linter.unusedSectionVars false
namespace Go.Proofs.Ytfohppnelbbepaa.T
open Go
variable [Ovr]
section
variable {ro : List ABlk} {h hp : Heap}
theorem Begins.ld {K : Heap} {L b' n i : Nat} {z : List (List UInt8)} {b : Nat} (g : Begins K L b' n z b) (hi : i < n) (l p : Nat) : ldM ro ⟨K, l, p⟩ true 1 (.p (some ⟨false, b', 0 + i⟩)) = some (bv (letE z b i)) := by
  obtain ⟨-, blk, g1, g2, g3⟩ := g
  have hb : rdB ro K ⟨false, b', 0⟩ = some blk := rdB_heap g1 0
  have h1 := rd_one (i := i) hb (by show 0 + i < _; omega)
  rw [show (0 : Nat) + i = i by omega] at h1 ⊢
  have e : blk.c.get ((⟨false, b', 0⟩ : Vm.Loc).off + i) = bv (letE z b i) := by
    show blk.c.get (0 + i) = _
    rw [Nat.zero_add]; exact g3 i hi
  have h2 := rd_one (ro := ro) (h := K) (q := ⟨false, b', 0⟩) (i := i) hb (by show 0 + i < _; omega)
  rw [e] at h2
  have e2 : (⟨false, b', (⟨false, b', 0⟩ : Vm.Loc).off + i⟩ : Vm.Loc) = ⟨false, b', i⟩ := by simp
  simp only [Nat.zero_add] at h2
  exact h2
theorem Begins.by {K K' : Heap} {L b' n : Nat} {z : List (List UInt8)} {b : Nat} (g : Begins K L b' n z b) (k : Keep K K') : Begins K' L b' n z b := by
  obtain ⟨h1, blk, g1, g2, g3⟩ := g
  exact ⟨h1, blk, by rw [lget_of (k.2 b' (lget_lt g1))]; exact g1, g2, g3⟩
theorem letE_isL {z : List (List UInt8)} {b : Nat} (hb : BudOk z b) (i : Nat) : isL z.length (letE z b i) := by
  obtain ⟨h1, -, -, h4⟩ := shootE_len hb i
  exact h4 i (by omega)
def winE (z : List (List UInt8)) (b k n : Nat) : List UInt8 := (List.range n).map fun j => letE z b (k + j)
def numE (z : List (List UInt8)) (b k : Nat) : Nat → Nat
  | 0 => 0
  | n + 1 => numE z b k n * 6 + ix (letE z b (k + n))
theorem numE_lt {z : List (List UInt8)} {b : Nat} (hb : BudOk z b) (k : Nat) : ∀ n, numE z b k n < 6 ^ n
  | 0 => by show 0 < 1; omega
  | n + 1 => by
    have h1 := numE_lt hb k n
    have h2 := ix_lt (letE_isL hb (k + n))
    have h6 := hb.ok.h6
    show numE z b k n * 6 + _ < 6 ^ n * 6
    omega
theorem numE_inj {z : List (List UInt8)} {b : Nat} (hb : BudOk z b) {k k' : Nat} : ∀ n, numE z b k n = numE z b k' n → winE z b k n = winE z b k' n
  | 0, _ => rfl
  | n + 1, e => by
    have i1 := letE_isL hb (k + n)
    have i2 := letE_isL hb (k' + n)
    have h1 := ix_lt i1
    have h2 := ix_lt i2
    have h6 := hb.ok.h6
    have e' : numE z b k n * 6 + ix (letE z b (k + n)) = numE z b k' n * 6 + ix (letE z b (k' + n)) := e
    have e1 : ix (letE z b (k + n)) = ix (letE z b (k' + n)) := by omega
    have e2 := numE_inj hb n (by omega : numE z b k n = numE z b k' n)
    have e3 : letE z b (k + n) = letE z b (k' + n) := by rw [← lt_ix i1 (by omega), ← lt_ix i2 (by omega), e1]
    unfold winE at e2 ⊢
    rw [List.range_succ, List.map_append, List.map_append, e2]
    simp only [List.map_cons, List.map_nil, e3]
theorem numE_eq {z : List (List UInt8)} {b : Nat} {k k' : Nat} : ∀ n, winE z b k n = winE z b k' n → numE z b k n = numE z b k' n
  | 0, _ => rfl
  | n + 1, e => by
    unfold winE at e
    rw [List.range_succ, List.map_append, List.map_append] at e
    have := List.append_inj e (by simp)
    have e3 : letE z b (k + n) = letE z b (k' + n) := by simpa using this.2
    show numE z b k n * 6 + _ = numE z b k' n * 6 + _
    rw [numE_eq n this.1, e3]
def numsL (z : List (List UInt8)) (b n m : Nat) : List Int := (List.range m).map fun k => ((numE z b k n : Nat) : Int)
theorem numsL_succ (z : List (List UInt8)) (b n m : Nat) : numsL z b n (m + 1) = numsL z b n m ++ [((numE z b m n : Nat) : Int)] := by unfold numsL; rw [List.range_succ, List.map_append]; rfl
theorem factN_nums {z : List (List UInt8)} {b n : Nat} (hb : BudOk z b) (hn : n ≤ 10) {m : List Int} (hm : m.Nodup) (hmem : ∀ a, a ∈ m ↔ a ∈ numsL z b n (100001 - n)) : m.length = factN z b n := by
  obtain ⟨h1, h2⟩ := foldK (winsF (wrd z b 100000) n (100001 - n)) [] List.nodup_nil
  have hw : ∀ w, w ∈ (winsF (wrd z b 100000) n (100001 - n)).foldl addK [] ↔ ∃ k, k < 100001 - n ∧ w = winE z b k n := fun w => by
    rw [h2 w, winsF_mem]
    constructor
    · rintro (h | ⟨k, hk, rfl⟩)
      · cases h
      · exact ⟨k, hk, by rw [wrd_take (by omega), Nat.add_comm n k, wrd_win]; rfl⟩
    · rintro ⟨k, hk, rfl⟩
      exact .inr ⟨k, hk, by rw [wrd_take (by omega), Nat.add_comm n k, wrd_win]; rfl⟩
  obtain ⟨W, hW⟩ : ∃ W, W = (winsF (wrd z b 100000) n (100001 - n)).foldl addK [] := ⟨_, rfl⟩
  unfold factN
  rw [← hW] at h1 hw ⊢
  -- a number for each window
  have hex : ∀ w : List UInt8, ∃ a : Int, ∀ k, k < 100001 - n → w = winE z b k n → a = ((numE z b k n : Nat) : Int) := fun w => by
    by_cases h : ∃ k, k < 100001 - n ∧ w = winE z b k n
    · obtain ⟨k, hk, rfl⟩ := h
      exact ⟨((numE z b k n : Nat) : Int), fun k' hk' e => by rw [numE_eq n e]⟩
    · exact ⟨0, fun k hk e => absurd ⟨k, hk, e⟩ h⟩
  let f : List UInt8 → Int := fun w => Classical.choose (hex w)
  have hf : ∀ k, k < 100001 - n → f (winE z b k n) = ((numE z b k n : Nat) : Int) := fun k hk => Classical.choose_spec (hex (winE z b k n)) k hk rfl
  have hnd : (W.map f).Nodup := by
    have : ∀ l : List (List UInt8), l.Nodup → (∀ w ∈ l, w ∈ W) → (l.map f).Nodup := fun l => by
      induction l with
      | nil => exact fun _ _ => List.nodup_nil
      | cons w l ih =>
        intro hl hs
        rw [List.nodup_cons] at hl
        rw [List.map_cons, List.nodup_cons]
        refine ⟨fun hin => ?_, ih hl.2 fun x hx => hs x (List.mem_cons_of_mem _ hx)⟩
        obtain ⟨w', hw', e⟩ := List.mem_map.1 hin
        obtain ⟨k, hk, rfl⟩ := (hw w).1 (hs w List.mem_cons_self)
        obtain ⟨k', hk', rfl⟩ := (hw w').1 (hs _ (List.mem_cons_of_mem _ hw'))
        rw [hf k hk, hf k' hk'] at e
        have := numE_inj hb n (show numE z b k n = numE z b k' n by omega)
        rw [this] at hl
        exact hl.1 hw'
    exact this W h1 fun _ h => h
  have hmm : ∀ a, a ∈ W.map f ↔ a ∈ m := fun a => by
    rw [hmem a]
    unfold numsL
    rw [List.mem_map, List.mem_map]
    constructor
    · rintro ⟨w, hw', rfl⟩
      obtain ⟨k, hk, rfl⟩ := (hw w).1 hw'
      exact ⟨k, List.mem_range.2 hk, (hf k hk).symm⟩
    · rintro ⟨k, hk, rfl⟩
      have hk' := List.mem_range.1 hk
      exact ⟨_, (hw _).2 ⟨k, hk', rfl⟩, hf k hk'⟩
  have e1 := nodup_le hm fun a ha => (hmm a).2 ha
  have e2 := nodup_le hnd fun a ha => (hmm a).1 ha
  rw [List.length_map] at e1 e2
  omega
set_option maxHeartbeats 1000000 in
theorem factors39 {v : AVal} {z : List (List UInt8)} {s : List UInt8} {x : Int} (a : IsS ro h v z) (hf : z.length ≤ 1000000 ∧ (∀ i, i < z.length → (z.getD i []).length ≤ 1000000) ∧ s.length ≤ 1000000) :
    callX F1 ro 39 [v, .s s, .i .i64 x] h = some (.tup [.i .i64 (factV z s x).1, .i .i64 (factV z s x).2], h, h.length, h.length) := by
  refine g39_ok (meansX_ok F1 ro) (Ovr.no rfl) ?_
  unfold g39
  simp only [mC, cp0 (bud76 (ro := ro) (h := h) (s := s) a hf), pS, iS, fB]
  by_cases he : errU z s = 0
  rotate_left
  · have e1 : factV z s x = (0, errU z s) := by unfold factV; rw [if_pos he]
    simp only [eqI_ne he, nF, cT, e1, tA2]
    exact fin_pure2 rfl rfl
  obtain ⟨vok, hs1, hhs, hbud⟩ := errU_ok he
  simp only [he, eqI_self, nT, cF]
  by_cases hx1 : x < 1
  · have e1 : factV z s x = (0, 2) := by unfold factV; rw [if_neg (by simp [he]), if_pos (.inl hx1)]
    simp only [ltT hx1, cT, oS, e1, tA2]
    exact fin_pure2 rfl rfl
  by_cases hx2 : 10 < x
  · have e1 : factV z s x = (0, 2) := by unfold factV; rw [if_neg (by simp [he]), if_pos (.inr hx2)]
    simp only [ltF hx1, cF, ltT hx2, cT, oS, e1, tA2]
    exact fin_pure2 rfl rfl
  obtain ⟨n, rfl⟩ : ∃ n : Nat, x = (n : Int) := ⟨x.toNat, by omega⟩
  have hb := hhs 0 (by omega)
  obtain ⟨b, hbe⟩ : ∃ b, b = ix (s.getD 0 0) := ⟨_, rfl⟩
  have hBud : BudOk z b := ⟨vok, by rw [hbe]; exact ix_lt hb, by rw [hbe]; exact hbud⟩
  have h6 := vok.h6
  have e1 : factV z s (n : Int) = ((factN z b n : Int), 0) := by
    unfold factV
    rw [if_neg (by simp [he]), if_neg (by omega), Int.toNat_natCast, hbe]
  have i0 : evP .e (.ixStr (.c (.s s)) (.c (.i .i64 0))) = some (bv (s.getD 0 0)) := ix_str (show 0 < s.length by omega)
  have e2 : b ≤ 255 := by rw [hbe]; unfold ix; have := (s.getD 0 0).toNat_lt; omega
  obtain ⟨b', H1, c1, k1, g⟩ := begun77 (ro := ro) a hBud (n := 100000) (Nat.le_refl _) (by omega)
  obtain ⟨L, hL⟩ : ∃ L, L = h.length := ⟨_, rfl⟩
  have hlH := k1.1
  have c1' : callM (callX F1 ro) ⟨h, L, L⟩ 77 [v, .i .i64 (b : Int), .i .i64 100000] = some (.sl ⟨false, b', 0⟩ 100000 .grow, ⟨H1, L, L⟩) := by rw [hL]; exact cM c1 (Nat.le_refl _) (Nat.le_refl _)
  have hp10 : 6 ^ n ≤ 60466176 := by
    have : 6 ^ n ≤ 6 ^ 10 := Nat.pow_le_pow_right (by decide) (by omega)
    have e : (6 : Nat) ^ 10 = 60466176 := by decide
    omega
  have hmono : ∀ j, j ≤ n → 6 ^ j ≤ 60466176 := fun j hj => by
    have : 6 ^ j ≤ 6 ^ n := Nat.pow_le_pow_right (by decide) hj
    omega
  -- a window's number
  have inner : ∀ (k : Nat) (J : Heap), k + n ≤ 100000 → Begins J h.length b' 100000 z b → ∀ u, loopX (fun q : Int × Int => g39_b2 (meansX F1 ro) ro (n : Int) (.sl ⟨false, b', 0⟩ 100000 .grow) u (k : Int) ⟨J, L, L⟩ q.1 q.2) (0, 0) = some ((numE z b k n : Nat) : Int) := by
    intro k J hk gJ u
    have key : ∃ r, loopX (fun q : Int × Int => g39_b2 (meansX F1 ro) ro (n : Int) (.sl ⟨false, b', 0⟩ 100000 .grow) u (k : Int) ⟨J, L, L⟩ q.1 q.2) (0, 0) = some r ∧ r = ((numE z b k n : Nat) : Int) := by
      refine loop_gen n (fun j q => q = (((numE z b k j : Nat) : Int), (j : Int)) ∧ j ≤ n) _ ?_ ?_ n 0 _ (by omega) ⟨rfl, by omega⟩
      · rintro j q hj ⟨rfl, -⟩
        have hlt := numE_lt hBud k j
        have hm := hmono j (by omega)
        have hbj := letE_isL hBud (k + j)
        have hxl := ix_lt hbj
        have w1 : wr .i64 (((numE z b k j : Nat) : Int) * 6) = ((numE z b k j * 6 : Nat) : Int) := by rw [wr_id' (by omega) (by omega)]; omega
        have w2 : wr .i64 ((k : Int) + (j : Int)) = ((k + j : Nat) : Int) := by rw [wr_id' (by omega) (by omega)]; omega
        have w3 : wr .i64 (((numE z b k j * 6 : Nat) : Int) + ((ix (letE z b (k + j)) : Nat) : Int)) = ((numE z b k (j + 1) : Nat) : Int) := by
          rw [wr_id' (by omega) (by omega)]
          show _ = ((numE z b k j * 6 + ix (letE z b (k + j)) : Nat) : Int)
          omega
        exact ⟨_, (by simp only [g39_b2, fB, ltT (show (j : Int) < (n : Int) by omega), cT, fI', w1, w2, ixS_eq (show k + j < 100000 by omega), oS, gJ.ld (show k + j < 100000 by omega), iS, sub97 hbj.1, lt64 (show ix (letE z b (k + j)) ≤ 9223372036854775807 by omega), w3, nx (show j ≤ 1000000 by omega)] <;> rfl), rfl, by omega⟩
      · rintro q ⟨rfl, -⟩
        exact ⟨_, (by simp only [g39_b2, fB, ltF (Int.lt_irrefl _), cF] <;> rfl), rfl⟩
    obtain ⟨r, q1, rfl⟩ := key
    exact q1
  have hln : evP .e (.len false (.c (.sl ⟨false, b', 0⟩ 100000 .grow))) = some (.i .i64 ((100000 : Nat) : Int)) := len_sl
  have key1 : ∃ r, loopX (fun q : AVal × Int × Mm => g39_b1 (meansX F1 ro) ro (n : Int) (.sl ⟨false, b', 0⟩ 100000 .grow) q.1 q.2.1 q.2.2) (.nsl, 0, ⟨H1, L, L⟩) = some r ∧ ∃ u J, r = (u, ⟨J, L, L⟩) ∧ Keep H1 J ∧ RowG J H1.length 3 u ((numsL z b n (100001 - n)).map (AVal.i .i64)) := by
    refine loop_gen (100001 - n) (fun k q => ∃ u J, q = (u, (k : Int), ⟨J, L, L⟩) ∧ Keep H1 J ∧ RowG J H1.length 3 u ((numsL z b n k).map (AVal.i .i64))) _ ?_ ?_ (100001 - n) 0 _ (by omega) ⟨.nsl, H1, rfl, Keep.refl _, RowG.nil _ _ _⟩
    · rintro k q hk ⟨u, J, rfl, kJ, gu⟩
      have hlJ := kJ.1
      have w1 : wr .i64 ((k : Int) + (n : Int)) = ((k + n : Nat) : Int) := by rw [wr_id' (by omega) (by omega)]; omega
      have hl : (numsL z b n k).length = k := by simp [numsL]
      obtain ⟨K2, K3, l', p', s1, s2, g4, n2, n3, o3, b3, b5, b6⟩ := gu.push (ro := ro) (l := L) (p := L) (bytes := 8) (z := AVal.i IntKind.i64 0) (w := .i .i64 ((numE z b k n : Nat) : Int)) (by omega) (by rw [List.length_map]; omega) (by omega) rfl rfl
      obtain ⟨b31, b32⟩ := b3 L (by omega) (Nat.le_refl _) (Nat.le_refl _)
      have hl' : l' = L ∧ p' = L := by omega
      rw [hl'.1, hl'.2] at s2
      refine ⟨_, (by simp only [g39_b1, fI', w1, hln, oS, iS, fB, ltF (show ¬ ((100000 : Nat) : Int) < ((k + n : Nat) : Int) by omega), nF, cT, meansX_loop, inner k J (by omega) (g.by kJ) u, s1, pS, s2, nx (show k ≤ 1000000 by omega)] <;> rfl), _, K3, rfl, ⟨by omega, fun t ht => by rw [o3 t (by omega) fun e => by have := (gu.holds e).2.1; omega, kJ.2 t ht]⟩, ?_⟩
      rw [numsL_succ, List.map_append]; exact g4
    · rintro q ⟨u, J, rfl, kJ, gu⟩
      have w1 : wr .i64 (((100001 - n : Nat) : Int) + (n : Int)) = ((100001 : Nat) : Int) := by rw [wr_id' (by omega) (by omega)]; omega
      exact ⟨_, (by simp only [g39_b1, fI', w1, hln, oS, iS, fB, ltT (show ((100000 : Nat) : Int) < ((100001 : Nat) : Int) by omega), nT, cF] <;> rfl), u, J, rfl, kJ, gu⟩
  obtain ⟨r1, q1, u, J, rfl, kJ, gu⟩ := key1
  have hl : (numsL z b n (100001 - n)).length = 100001 - n := by simp [numsL]
  have hne : numsL z b n (100001 - n) ≠ [] := fun e => by rw [e] at hl; simp at hl; omega
  have hlJ := kJ.1
  obtain ⟨w, H2, y, c78, k2, rw2, perm, srt⟩ := sorted78 (ro := ro) (numsL z b n (100001 - n)).length (Nat.le_refl _) (by omega) hne (gu.rowS hne)
  have c78' := cM (l := L) (p := L) c78 (by omega) (by omega)
  have hly : y.length = 100001 - n := by rw [perm.length_eq, hl]
  have hlw := len_row rw2.row
  have hmemy : ∀ c, c ∈ y ↔ c ∈ numsL z b n (100001 - n) := fun c => perm.mem_iff
  have key3 : ∃ r, loopX (fun q : Int × Int => g39_b3 (meansX F1 ro) ro w ⟨H2, L, L⟩ q.1 q.2) (1, 1) = some r ∧ ∃ m : List Int, r = (m.length : Int) ∧ m.Nodup ∧ ∀ c, c ∈ m ↔ c ∈ y.take y.length := by
    refine loop_gen (y.length - 1) (fun k q => ∃ m : List Int, q = ((m.length : Int), ((k + 1 : Nat) : Int)) ∧ m.length ≤ k + 1 ∧ m.Nodup ∧ ∀ c, c ∈ m ↔ c ∈ y.take (k + 1)) _ ?_ ?_ (y.length - 1) 0 _ (by omega) ⟨[y.getD 0 0], rfl, Nat.le_refl _, List.pairwise_singleton _ _, fun c => ?_⟩
    · rintro k q hk ⟨m, rfl, hml, hnd, hmem⟩
      have hk1 : k + 1 < y.length := by omega
      obtain ⟨p1, i1, i2⟩ := at_rowK rw2.row hk1
      obtain ⟨p2, j1, j2⟩ := at_rowK rw2.row (show k < y.length by omega)
      have i2' := (i2 (hp := H2) (l := 0) (q := 0) (Keep.refl _)).2
      have j2' := (j2 (hp := H2) (l := 0) (q := 0) (Keep.refl _)).2
      have w1 : wr .i64 (((k + 1 : Nat) : Int) - 1) = (k : Int) := by rw [wr_id' (by omega) (by omega)]; omega
      have htk : y.take (k + 1 + 1) = y.take (k + 1) ++ [y.getD (k + 1) 0] := take_snoc 0 hk1
      by_cases e : y.getD (k + 1) 0 = y.getD k 0
      · refine ⟨_, (by simp only [g39_b3, hlw, oS, iS, fB, ltT (show ((k + 1 : Nat) : Int) < (y.length : Int) by omega), cT, i1, i2', fI', w1, j1, j2', e, eqI_self, nT, cF, nx (show k + 1 ≤ 1000000 by omega)] <;> rfl), m, rfl, by omega, hnd, fun c => ?_⟩
        rw [hmem c, htk, List.mem_append, List.mem_singleton]
        refine ⟨.inl, fun h => ?_⟩
        rcases h with h | h
        · exact h
        · rw [h, e, take_snoc 0 (show k < y.length by omega)]
          exact List.mem_append.2 (.inr (List.mem_singleton.2 rfl))
      · have w2 : wr .i64 ((m.length : Int) + 1) = ((m.length + 1 : Nat) : Int) := nx (by omega)
        refine ⟨_, (by simp only [g39_b3, hlw, oS, iS, fB, ltT (show ((k + 1 : Nat) : Int) < (y.length : Int) by omega), cT, i1, i2', fI', w1, j1, j2', eqI_ne e, nF, w2, nx (show k + 1 ≤ 1000000 by omega)] <;> rfl), m ++ [y.getD (k + 1) 0], by simp, by simp; omega, ?_, fun c => ?_⟩
        · rw [List.nodup_append]
          refine ⟨hnd, List.pairwise_singleton _ _, fun a1 ha1 b1 hb1 e3 => ?_⟩
          rw [List.mem_singleton] at hb1
          rw [e3, hb1, hmem] at ha1
          -- an earlier one that is as large
          obtain ⟨t, ht, et⟩ := List.getElem_of_mem ha1
          have ht2 : t < k + 1 := by rw [List.length_take] at ht; omega
          rw [List.getElem_take] at et
          have g1 : ∀ (i j : Nat) (hi : i < y.length) (hj : j < y.length), i < j → y[i] ≤ y[j] := fun i j hi hj hij => of_decide_eq_true (List.pairwise_iff_getElem.1 srt i j hi hj hij)
          have ek : y.getD k 0 = y[k]'(by omega) := by simp [List.getD, show k < y.length by omega]
          have ek1 : y.getD (k + 1) 0 = y[k + 1]'hk1 := by simp [List.getD, hk1]
          have l1 := g1 k (k + 1) (by omega) hk1 (by omega)
          have l2 : y[t]'(by omega) ≤ y[k]'(by omega) := by
            rcases Nat.lt_or_ge t k with h | h
            · exact g1 t k (by omega) (by omega) h
            · have : t = k := by omega
              subst this; exact Int.le_refl _
          rw [ek1] at et e
          rw [ek] at e
          omega
        · rw [List.mem_append, hmem c, htk, List.mem_append]
    · rintro q ⟨m, rfl, hml, hnd, hmem⟩
      have e3 : y.length - 1 + 1 = y.length := by omega
      refine ⟨_, (by simp only [g39_b3, hlw, oS, iS, fB, ltF (show ¬ ((y.length - 1 + 1 : Nat) : Int) < (y.length : Int) by omega), cF] <;> rfl), m, rfl, hnd, fun c => ?_⟩
      rw [hmem c, e3]
    · rw [take_snoc 0 (show 0 < y.length by omega)]
      simp
  obtain ⟨r3, q3, m, rfl, hnd, hmem⟩ := key3
  rw [List.take_length] at hmem
  have hfin := factN_nums hBud (show n ≤ 10 by omega) hnd fun c => (hmem c).trans (hmemy c)
  rw [e1]
  have kk := (k1.trans kJ).trans k2
  have sb := sub97 hb.1
  rw [← hbe] at sb
  simp only [ltF hx1, cF, ltF hx2, oS, i0, iS, fI', sb, lt64 (show b ≤ 9223372036854775807 by omega), ← hL, c1', pS, meansX_loop, q1, c78', q3, hfin, tA2]
  subst hL
  exact fin_keep kk rfl
theorem law8 {v : AVal} {z : List (List UInt8)} {s : List UInt8} {x : Int} (hA : ∀ h, callX F1 ro 16 [] h = some (.b true, h, h.length, h.length)) (a : IsS ro h v z) :
    callX F1 ro 8 [v, .s s, .i .i64 x] h = some (.b true, h, h.length, h.length) := by
  refine g8_ok (meansX_ok F1 ro) (Ovr.no rfl) ?_
  unfold g8
  simp only [mC, cp0 (few15 (s := s) a), pS, bS, fB]
  by_cases hf : fewB z s
  rotate_left
  · simp only [dF hf, nF, cT, cp0 (hA h), pS, bS, tA]
    exact fin_pure rfl
  have hf' := fewB_len hf
  simp only [dT hf, nT, cF, cp0 (factors38 (x := x) a hf'.1 hf'.2.1 hf'.2.2), cp0 (factors39 (x := x) a hf'), pS, x0, x1, oS, iS, eqI_self, cT, cp0 (hA h), bS, tA]
  exact fin_pure rfl
end
end Go.Proofs.Ytfohppnelbbepaa.T
/- The bridge, alive known -/
open Go.Vm
set_option linter.unusedVariables false
set_option linter.unusedSectionVars false
namespace Go.Proofs.Ytfohppnelbbepaa.T
open Go Go.RowKit Go.Deep Go.WideShapes Go.ChangeShapes
attribute [local instance] ovA
theorem aliveA {ro : List ABlk} (h : Heap) : callX F1 ro 16 [] h = some (.b true, h, h.length, h.length) := callX_ov rfl
theorem call_ofA {W : World} {ro : List ABlk} {rl : Rl} (hE : (Env.mk Try.prog W.heap.size W ro rl).Ok) {K : Nat} {vs : List AVal} {args : Array Value}
    (hv : LR rl [] vs args) {h' : Heap} {lw lp : Nat} (hc : callX F1 ro K vs [] = some (.b true, h', lw, lp)) : Calls Try.prog K args W fun e W' => e = .returned (.bool true) ∧ Below W.heap.size W W' :=
  call_of hE (alive_known hE (Try.checked.mixed) fok) hv hc
theorem exC {ro : List ABlk} {k : Nat} {l : List AVal} {h : Heap} {n m : Nat} {H : Heap} (e : callX F1 ro k l h = some (.b true, H, n, m)) : ∃ h' lw lp, callX F1 ro k l h = some (.b true, h', lw, lp) := ⟨_, _, _, e⟩
end Go.Proofs.Ytfohppnelbbepaa.T

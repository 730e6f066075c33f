/- Contracts of the functions: what each of them answers. -/
import Derived.Test.YtfohppnelbbepaaVmK0
/- Buds of the reference, Endless -/
open Go.Vm
set_option linter.unusedVariables false
set_option linter.unusedSectionVars false
namespace Go.Proofs.Ytfohppnelbbepaa.T
open Go
variable [Ovr]

section
variable {ro : List ABlk} {h hp : Heap}
theorem RowG.row {L e : Nat} {v : AVal} {z : List Int} (g : RowG hp L e v (z.map (AVal.i .i64))) : IsRow ro hp v z := by
  rcases g with ⟨rfl, h⟩ | ⟨b, blk, rfl, h2, h3, h4, h5, h6, h7⟩
  · exact .inl ⟨rfl, by simpa using h⟩
  · rw [List.length_map] at h6 h7 ⊢
    refine .inr ⟨_, _, blk, rfl, rdB_heap h4 0, by show 0 + z.length ≤ _; omega, fun j hj => ?_⟩
    rw [Nat.zero_add, h7 j hj]
    simp [List.getD, hj]
theorem count_zero {n : Nat} (hn : n ≤ 100) {w : List UInt8} (h : has n w) : (∃ p, p < n ∧ w.count (lt p) ≠ 0) ↔ w.length ≠ 0 := by
  constructor
  · rintro ⟨p, -, h2⟩ h0
    rw [List.length_eq_zero_iff.1 h0] at h2
    exact h2 rfl
  · intro h0
    cases w with
    | nil => exact absurd rfl h0
    | cons b w =>
      have hb : isL n b := has_mem.1 h b List.mem_cons_self
      refine ⟨ix b, ix_lt hb, ?_⟩
      rw [lt_ix hb hn]
      have := List.count_pos_iff.2 (List.mem_cons_self (a := b) (l := w))
      omega
/-- the year in which a string dies, or -1 -/
def dieR (z : List (List UInt8)) (s : List UInt8) : Int := match dieY z s with
  | some y => (y : Int)
  | none => -1
theorem dies62 {v : AVal} {z : List (List UInt8)} {s : List UInt8} (a : IsS ro h v z) (hz : VOk z) (hs : s.length ≤ 1000000) (hh : has z.length s) : callX F1 ro 62 [v, .s s] h = some (.i .i64 (dieR z s), h, h.length, h.length) := by
  have n6 := hz.h6
  obtain ⟨n, hn⟩ : ∃ n, n = z.length := ⟨_, rfl⟩
  obtain ⟨L, hL⟩ : ∃ L, L = h.length := ⟨_, rfl⟩
  have key : ∃ r, loopX (fun q : Int × Mm => g62_b0 (meansX F1 ro) ro v s q.1 q.2) (0, ⟨h, L, L⟩) = some r ∧ ∃ J, Keep h J ∧ ((r = .inl ⟨J, L, L⟩ ∧ ∀ y, y < z.length + 1 → lenS z y s ≠ 0) ∨ ∃ y : Nat, r = .inr ((y : Int), ⟨J, L, L⟩) ∧ y ≤ z.length ∧ lenS z y s = 0 ∧ ∀ y', y' < y → lenS z y' s ≠ 0) := by
    refine loop_exit (z.length + 1) (fun y q => ∃ J, q = ((y : Int), ⟨J, L, L⟩) ∧ Keep h J ∧ ∀ y', y' < y → lenS z y' s ≠ 0) _ ?_ ?_ (z.length + 1) 0 _ (by omega) ⟨h, rfl, Keep.refl _, fun y' h => by omega⟩
    · rintro y q hy ⟨J, rfl, kJ, hall⟩
      have hlJ := kJ.1
      obtain ⟨w, H, c1, k1, R⟩ := counts58 (ro := ro) (S_by a kJ) hz hh hs (y := y) (by omega)
      have hH := k1.1
      have c1' := cM (l := L) (p := L) c1 (by omega) (by omega)
      have hg := grw_has hz (y := y) hh
      rw [← hn] at hg
      have hlen : (grw z y s).length = lenS z y s := grw_len z y s
      have inner : ∃ r, loopX (fun q : Bool × Int => g62_b1 (meansX F1 ro) ro v s (y : Int) w ⟨H, L, L⟩ q.1 q.2) (false, 0) = some r ∧ (r = true ↔ ∃ p, p < n ∧ (grw z y s).count (lt p) ≠ 0) := by
        have hlw := len_R R
        have hcl : (cRow z y s).length = n := by simp [cRow, hn]
        rw [hcl] at hlw
        refine loop_gen n (fun j q => ∃ c, q = (c, (j : Int)) ∧ (c = true ↔ ∃ p, p < j ∧ (grw z y s).count (lt p) ≠ 0)) _ ?_ ?_ n 0 _ (by omega) ⟨false, rfl, by simp⟩
        · rintro j q hj ⟨c, rfl, hc⟩
          obtain ⟨p1, i1, i2⟩ := at_R R (cRow_get z y s (show j < z.length by omega))
          have step : g62_b1 (meansX F1 ro) ro v s (y : Int) w ⟨H, L, L⟩ c (j : Int) = some (.inl (c || decide ((grw z y s).count (lt j) ≠ 0), ((j + 1 : Nat) : Int))) := by
            cases c with
            | true => simp only [g62_b1, hlw, oS, iS, fB, ltT (show (j : Int) < (n : Int) by omega), cT, fI', nx (show j ≤ 1000000 by omega), Bool.true_or]
            | false =>
              have e : ltI 0 ((sat ((grw z y s).count (lt j)) : Nat) : Int) = decide ((grw z y s).count (lt j) ≠ 0) := by
                rw [ltI_eq]
                by_cases h0 : (grw z y s).count (lt j) = 0
                · rw [dF (show ¬ (grw z y s).count (lt j) ≠ 0 from fun e => e h0), dF (by rw [h0]; decide)]
                · rw [dT h0, dT (by unfold sat; omega)]
              simp only [g62_b1, hlw, oS, iS, fB, ltT (show (j : Int) < (n : Int) by omega), cT, cF, i1, (i2 (Keep.refl H)).1, eU, e, fI', nx (show j ≤ 1000000 by omega), Bool.false_or]
          refine ⟨_, step, _, rfl, ?_⟩
          rw [Bool.or_eq_true, hc, decide_eq_true_eq]
          constructor
          · rintro (⟨p, h1, h2⟩ | h)
            · exact ⟨p, by omega, h2⟩
            · exact ⟨j, by omega, h⟩
          · rintro ⟨p, h1, h2⟩
            by_cases e : p = j
            · subst e; exact .inr h2
            · exact .inl ⟨p, by omega, h2⟩
        · rintro q ⟨c, rfl, hc⟩
          exact ⟨_, (by simp only [g62_b1, hlw, oS, iS, fB, ltF (Int.lt_irrefl _), cF] <;> rfl), hc⟩
      obtain ⟨c, q1, q2⟩ := inner
      rw [count_zero (show n ≤ 100 by omega) hg, hlen] at q2
      cases c with
      | true =>
        have h0 := q2.1 rfl
        refine .inl ⟨_, (by simp only [g62_b0, len_S (S_by a kJ), oS, iS, fB, ltF (show ¬ (z.length : Int) < (y : Int) by omega), nF, cT, mC, c1', pS, meansX_loop, q1, nT, cF, fI', nx (show y ≤ 1000000 by omega)] <;> rfl), H, rfl, kJ.trans k1, fun y' hy' => ?_⟩
        rcases Nat.lt_or_ge y' y with h | h
        · exact hall y' h
        · obtain rfl : y' = y := by omega
          exact h0
      | false =>
        have h0 : lenS z y s = 0 := by
          rcases Nat.eq_zero_or_pos (lenS z y s) with h | h
          · exact h
          · have := q2.2 (by omega); cases this
        exact .inr ⟨_, (by simp only [g62_b0, len_S (S_by a kJ), oS, iS, fB, ltF (show ¬ (z.length : Int) < (y : Int) by omega), nF, cT, mC, c1', pS, meansX_loop, q1] <;> rfl), H, kJ.trans k1, .inr ⟨y, rfl, by omega, h0, hall⟩⟩
    · rintro q ⟨J, rfl, kJ, hall⟩
      exact ⟨_, (by simp only [g62_b0, len_S (S_by a kJ), oS, iS, fB, ltT (show (z.length : Int) < ((z.length + 1 : Nat) : Int) by omega), nT, cF] <;> rfl), J, kJ, .inl ⟨rfl, hall⟩⟩
  obtain ⟨r, q1, J, kJ, q2⟩ := key
  refine g62_ok (meansX_ok F1 ro) (Ovr.no rfl) ?_
  unfold g62
  rw [hL] at q1 q2
  simp only [meansX_loop, q1]
  rcases q2 with ⟨rfl, hall⟩ | ⟨y, rfl, hy, h0, hall⟩
  · have : dieR z s = -1 := by unfold dieR; rw [dieY_none hall]
    rw [this]
    simp only [oS, tA]
    exact fin_keep kJ rfl
  · have : dieR z s = (y : Int) := by unfold dieR; rw [dieY_some hy h0 hall]
    rw [this]
    simp only [oS, tA]
    exact fin_keep kJ rfl
theorem bud73 {v : AVal} {z : List (List UInt8)} {p : Nat} (a : IsS ro h v z) (hz : VOk z) (hp : p < z.length) : callX F1 ro 73 [v, .i .i64 (p : Int)] h = some (.b (isBud z p), h, h.length, h.length) := by
  refine g73_ok (meansX_ok F1 ro) (Ovr.no rfl) ?_
  unfold g73
  have n6 := hz.h6
  have h8 := hz.h8 p hp
  obtain ⟨q, g1, g2⟩ := at_S a hp
  obtain ⟨s, hs⟩ : ∃ s, s = z.getD p [] := ⟨_, rfl⟩
  have hsh : has z.length s := by rw [hs]; exact hz.hh p hp
  rw [← hs] at g2 h8
  simp only [g1, oS, (g2 (Keep.refl h)).1, sS, len_str, iS, fB]
  unfold isBud
  rw [← hs]
  match s, hsh, h8 with
  | [], _, _ =>
    simp only [ltT (show ((([] : List UInt8).length : Nat) : Int) < 2 by decide), nT, cF, oS, tA]
    exact fin_pure rfl
  | [c], _, _ =>
    have e : dieY z (([c] : List UInt8).drop 1) = some 0 := dieY_some (Nat.zero_le _) rfl fun y h => by omega
    simp only [ltT (show ((([c] : List UInt8).length : Nat) : Int) < 2 by simp), nT, cF, oS, tA, e, Option.isNone_some, Bool.and_false]
    exact fin_pure rfl
  | c :: d :: t, hsh, h8 =>
    have hc : isL z.length c := has_mem.1 hsh c List.mem_cons_self
    have i0 : evP .e (.ixStr (.c (.s (c :: d :: t))) (.c (.i .i64 0))) = some (bv c) := ix_str (l := c :: d :: t) (i := 0) (by simp)
    have e2 : ix c ≤ 255 := by unfold ix; have := c.toNat_lt; omega
    have hd : has z.length (d :: t) := has_mem.2 fun x hx => has_mem.1 hsh x (List.mem_cons_of_mem _ hx)
    have dr : evP .e (.slStr (.c (.s (c :: d :: t))) (some (.c (.i .i64 1))) none) = some (.s (d :: t)) := slS_from (s := c :: d :: t) (n := 1) (by simp)
    have c62 := dies62 (ro := ro) a hz (s := d :: t) (by simp only [List.length_cons] at h8 ⊢; omega) hd
    simp only [ltF (show ¬ (((c :: d :: t).length : Nat) : Int) < 2 by simp only [List.length_cons]; omega), nF, cT, i0, oS, iS, fI', sub97 hc.1, lt64 (show ix c ≤ 9223372036854775807 by omega)]
    have tk : (c :: d :: t).take 1 = [c] := rfl
    have dr1 : (c :: d :: t).drop 1 = d :: t := rfl
    rw [tk, dr1]
    by_cases hcp : ix c = p
    · have e3 : [c] = [UInt8.ofNat (97 + p)] := by
        have : lt (ix c) = c := lt_ix hc (by omega)
        rw [hcp] at this
        rw [← this]; rfl
      have e4 : eqI ((ix c : Nat) : Int) (p : Int) = true := by rw [hcp]; exact eqI_self _
      simp only [e4, cT, dr, oS, sS, mC, cp0 c62, pS, iS, dT e3, Bool.true_and]
      unfold dieR
      cases hy : dieY z (d :: t) with
      | none =>
        simp only [ltT (show (-1 : Int) < 0 by decide), oS, tA, Option.isNone_none]
        exact fin_pure rfl
      | some y =>
        simp only [ltF (show ¬ ((y : Nat) : Int) < 0 by omega), oS, tA, Option.isNone_some]
        exact fin_pure rfl
    · have e3 : ¬ [c] = [UInt8.ofNat (97 + p)] := fun e => by
        have e5 : c = lt p := (List.cons.inj e).1
        rw [e5, ix_lt' (by omega)] at hcp
        exact hcp rfl
      simp only [eqI_ne (show ((ix c : Nat) : Int) ≠ (p : Int) by omega), cF, oS, tA, dF e3, Bool.false_and]
      exact fin_pure rfl
/-- the buds of a vine -/
def budsL (z : List (List UInt8)) (k : Nat) : List Int := ((List.range k).filter (isBud z)).map Int.ofNat
theorem budsL_succ (z : List (List UInt8)) (k : Nat) : budsL z (k + 1) = budsL z k ++ if isBud z k = true then [(k : Int)] else [] := by
  unfold budsL
  rw [List.range_succ, List.filter_append, List.map_append]
  congr 1
  by_cases h : isBud z k = true
  · simp [h]
  · simp [h]
/-- the list of them, and the error -/
noncomputable def budV (z : List (List UInt8)) : List Int := if errV z = 0 then budsL z z.length else []
theorem fin_row {K : Heap} {L e : Nat} {w : AVal} {x : List Int} {t : Int} (k : Keep h K) (g : RowG K L e w (x.map (AVal.i .i64))) (hL : h.length ≤ L) : ∃ H, finM h.length (.tup [w, .i .i64 t]) ⟨K, h.length, h.length⟩ = some (.tup [w, .i .i64 t], H, h.length, h.length) ∧ Keep h H ∧ IsRow ro H w x := by
  obtain ⟨H, f1, f2, f3⟩ := fin_any (w := .tup [w, .i .i64 t]) k
  refine ⟨H, f1, f2, ?_⟩
  rcases g with ⟨rfl, e1⟩ | ⟨b, blk, rfl, h2, h3, h4, h5⟩
  · exact .inl ⟨rfl, by simpa using e1⟩
  · have hbel : (AVal.tup [.sl ⟨false, b, 0⟩ (x.map (AVal.i .i64)).length .grow, .i .i64 t]).bel h.length = false := by
      have : Nat.blt b h.length = false := by rw [← Bool.not_eq_true, Nat.blt_eq]; omega
      simp [AVal.bel, bels, this]
    obtain rfl := f3 hbel
    exact RowG.row (L := L) (e := e) (.inr ⟨b, blk, rfl, h2, h3, h4, h5⟩)
set_option maxHeartbeats 1000000 in
theorem endless34 {v : AVal} {z : List (List UInt8)} (a : IsS ro h v z) (hz : z.length ≤ 1000000) (hf : ∀ i, i < z.length → (z.getD i []).length ≤ 1000000) :
    ∃ w H, callX F1 ro 34 [v] h = some (.tup [w, .i .i64 (errV z)], H, h.length, h.length) ∧ Keep h H ∧ IsRow ro H w (budV z) := by
  have c71 := vine71 (ro := ro) (h := h) a hz hf
  by_cases hv : errV z = 0
  rotate_left
  · refine ⟨.nsl, h, g34_ok (meansX_ok F1 ro) (Ovr.no rfl) ?_, Keep.refl _, .inl ⟨rfl, by unfold budV; rw [if_neg hv]⟩⟩
    unfold g34
    simp only [mC, cp0 c71, pS, x0, x1, oS, iS, fB, eqI_ne hv, nF, cT, tA2]
    exact fin_pure rfl
  have vok := VOk.of hv
  have n6 := vok.h6
  obtain ⟨L, hL⟩ : ∃ L, L = h.length := ⟨_, rfl⟩
  have key : ∃ r, loopX (fun q : AVal × Int × Mm => g34_b0 (meansX F1 ro) ro v (z.length : Int) q.1 q.2.1 q.2.2) (.nsl, 0, ⟨h, L, L⟩) = some r ∧ ∃ w J, r = (w, ⟨J, L, L⟩) ∧ Keep h J ∧ RowG J L 3 w ((budsL z z.length).map (AVal.i .i64)) := by
    refine loop_gen z.length (fun i q => ∃ w J, q = (w, (i : Int), ⟨J, L, L⟩) ∧ Keep h J ∧ RowG J L 3 w ((budsL z i).map (AVal.i .i64))) _ ?_ ?_ z.length 0 _ (by omega) ⟨.nsl, h, rfl, Keep.refl _, RowG.nil _ _ _⟩
    · rintro i q hi ⟨w, J, rfl, kJ, g⟩
      have hlJ := kJ.1
      have c72 := cp (l := L) (p := L) (bud72 (ro := ro) (S_by a kJ) vok hi) (by omega) (by omega)
      cases hb : isBud z i with
      | false =>
        rw [hb] at c72
        refine ⟨_, (by simp only [g34_b0, fB, ltT (show (i : Int) < (z.length : Int) by omega), cT, mC, c72, pS, bS, cF, oS, fI', nx (show i ≤ 1000000 by omega)] <;> rfl), w, J, rfl, kJ, ?_⟩
        rw [budsL_succ, if_neg (by rw [hb]; decide), List.append_nil]; exact g
      | true =>
        rw [hb] at c72
        have hbl : (budsL z i).length ≤ i := by
          unfold budsL
          rw [List.length_map]
          have := List.length_filter_le (isBud z) (List.range i)
          rw [List.length_range] at this; exact this
        obtain ⟨K2, K3, l', p', s1, s2, g4, n2, n3, o3, b3, b5, b6⟩ := g.push (ro := ro) (l := L) (p := L) (bytes := 8) (z := AVal.i IntKind.i64 0) (w := .i .i64 (i : Int)) (by omega) (by rw [List.length_map]; omega) (by omega) rfl rfl
        obtain ⟨b31, b32⟩ := b3 L (Nat.le_refl _) (Nat.le_refl _) (Nat.le_refl _)
        have hl' : l' = L ∧ p' = L := by omega
        rw [hl'.1, hl'.2] at s2
        refine ⟨_, (by simp only [g34_b0, fB, ltT (show (i : Int) < (z.length : Int) by omega), cT, mC, c72, pS, bS, s1, s2, oS, fI', nx (show i ≤ 1000000 by omega)] <;> rfl), _, K3, rfl, ⟨by omega, fun t ht => ?_⟩, ?_⟩
        · rw [o3 t (by omega) fun e => by have := (g.holds e).2.1; omega, kJ.2 t ht]
        · rw [budsL_succ, if_pos hb, List.map_append]; exact g4
    · rintro q ⟨w, J, rfl, kJ, g⟩
      exact ⟨_, (by simp only [g34_b0, fB, ltF (Int.lt_irrefl _), cF] <;> rfl), w, J, rfl, kJ, g⟩
  obtain ⟨r, q1, w, J, rfl, kJ, g⟩ := key
  obtain ⟨H, f1, f2, f3⟩ := fin_row (ro := ro) (t := 0) kJ g (by omega)
  refine ⟨w, H, g34_ok (meansX_ok F1 ro) (Ovr.no rfl) ?_, f2, by unfold budV; rw [if_pos hv]; exact f3⟩
  unfold g34
  rw [← hL] at f1 ⊢
  have c71' := cp (l := L) (p := L) c71 (by omega) (by omega)
  simp only [mC, c71', pS, x0, x1, oS, iS, fB, hv, eqI_self, nT, cF, if_true, len_S a, meansX_loop, q1, tA2]
  exact f1
set_option maxHeartbeats 1000000 in
theorem endless35 {v : AVal} {z : List (List UInt8)} (a : IsS ro h v z) (hz : z.length ≤ 1000000) (hf : ∀ i, i < z.length → (z.getD i []).length ≤ 1000000) :
    ∃ w H, callX F1 ro 35 [v] h = some (.tup [w, .i .i64 (errV z)], H, h.length, h.length) ∧ Keep h H ∧ IsRow ro H w (budV z) := by
  have c46 := vine46 (ro := ro) (h := h) a hz hf
  by_cases hv : errV z = 0
  rotate_left
  · refine ⟨.nsl, h, g35_ok (meansX_ok F1 ro) (Ovr.no rfl) ?_, Keep.refl _, .inl ⟨rfl, by unfold budV; rw [if_neg hv]⟩⟩
    unfold g35
    simp only [mC, cp0 c46, pS, iS, fB, eqI_ne hv, nF, cT, tA2]
    exact fin_pure rfl
  have vok := VOk.of hv
  have n6 := vok.h6
  obtain ⟨L, hL⟩ : ∃ L, L = h.length := ⟨_, rfl⟩
  have key : ∃ r, loopX (fun q : AVal × Int × Mm => g35_b0 (meansX F1 ro) ro v q.1 q.2.1 q.2.2) (.nsl, 0, ⟨h, L, L⟩) = some r ∧ ∃ w J, r = (w, ⟨J, L, L⟩) ∧ Keep h J ∧ RowG J L 3 w ((budsL z z.length).map (AVal.i .i64)) := by
    refine loop_gen z.length (fun i q => ∃ w J, q = (w, (i : Int), ⟨J, L, L⟩) ∧ Keep h J ∧ RowG J L 3 w ((budsL z i).map (AVal.i .i64))) _ ?_ ?_ z.length 0 _ (by omega) ⟨.nsl, h, rfl, Keep.refl _, RowG.nil _ _ _⟩
    · rintro i q hi ⟨w, J, rfl, kJ, g⟩
      have hlJ := kJ.1
      have c72 := cp (l := L) (p := L) (bud73 (ro := ro) (S_by a kJ) vok hi) (by omega) (by omega)
      cases hb : isBud z i with
      | false =>
        rw [hb] at c72
        refine ⟨_, (by simp only [g35_b0, len_S (S_by a kJ), fB, ltT (show (i : Int) < (z.length : Int) by omega), cT, mC, c72, pS, bS, cF, oS, iS, fI', nx (show i ≤ 1000000 by omega)] <;> rfl), w, J, rfl, kJ, ?_⟩
        rw [budsL_succ, if_neg (by rw [hb]; decide), List.append_nil]; exact g
      | true =>
        rw [hb] at c72
        have hbl : (budsL z i).length ≤ i := by
          unfold budsL
          rw [List.length_map]
          have := List.length_filter_le (isBud z) (List.range i)
          rw [List.length_range] at this; exact this
        obtain ⟨K2, K3, l', p', s1, s2, g4, n2, n3, o3, b3, b5, b6⟩ := g.push (ro := ro) (l := L) (p := L) (bytes := 8) (z := AVal.i IntKind.i64 0) (w := .i .i64 (i : Int)) (by omega) (by rw [List.length_map]; omega) (by omega) rfl rfl
        obtain ⟨b31, b32⟩ := b3 L (Nat.le_refl _) (Nat.le_refl _) (Nat.le_refl _)
        have hl' : l' = L ∧ p' = L := by omega
        rw [hl'.1, hl'.2] at s2
        refine ⟨_, (by simp only [g35_b0, len_S (S_by a kJ), fB, ltT (show (i : Int) < (z.length : Int) by omega), cT, mC, c72, pS, bS, s1, s2, oS, iS, fI', nx (show i ≤ 1000000 by omega)] <;> rfl), _, K3, rfl, ⟨by omega, fun t ht => ?_⟩, ?_⟩
        · rw [o3 t (by omega) fun e => by have := (g.holds e).2.1; omega, kJ.2 t ht]
        · rw [budsL_succ, if_pos hb, List.map_append]; exact g4
    · rintro q ⟨w, J, rfl, kJ, g⟩
      exact ⟨_, (by simp only [g35_b0, len_S (S_by a kJ), oS, iS, fB, ltF (Int.lt_irrefl _), cF] <;> rfl), w, J, rfl, kJ, g⟩
  obtain ⟨r, q1, w, J, rfl, kJ, g⟩ := key
  obtain ⟨H, f1, f2, f3⟩ := fin_row (ro := ro) (t := 0) kJ g (by omega)
  refine ⟨w, H, g35_ok (meansX_ok F1 ro) (Ovr.no rfl) ?_, f2, by unfold budV; rw [if_pos hv]; exact f3⟩
  unfold g35
  rw [← hL] at f1 ⊢
  have c46' := cp (l := L) (p := L) c46 (by omega) (by omega)
  simp only [mC, c46', pS, iS, fB, hv, eqI_self, nT, cF, meansX_loop, q1, oS, tA2]
  exact f1
end
end Go.Proofs.Ytfohppnelbbepaa.T

/- Letter -/
open Go.Vm
set_option linter.unusedVariables false
set_option linter.unusedSectionVars false
namespace Go.Proofs.Ytfohppnelbbepaa.T
open Go
variable [Ovr]

section
variable {ro : List ABlk} {h hp : Heap}
/-- the letter at a place of the endless shoot, and the error -/
noncomputable def letterV (z : List (List UInt8)) (s : List UInt8) (x : Int) : List UInt8 × Int := if errU z s ≠ 0 then ([], errU z s) else if 0 ≤ x ∧ x < 100000 then ([letE z (ix (s.getD 0 0)) x.toNat], 0) else ([], 4)
set_option maxHeartbeats 2000000 in
theorem letter36 {v : AVal} {z : List (List UInt8)} {s : List UInt8} {x : Int} (a : IsS ro h v z) (hf : z.length ≤ 1000000 ∧ (∀ i, i < z.length → (z.getD i []).length ≤ 1000000) ∧ s.length ≤ 1000000) :
    callX F1 ro 36 [v, .s s, .i .i64 x] h = some (.tup [.s (letterV z s x).1, .i .i64 (letterV z s x).2], h, h.length, h.length) := by
  obtain ⟨N, hN⟩ : ∃ N, N = h.length := ⟨_, rfl⟩
  have b0 := box1 (ro := ro) (hp := h) (e := 3) (l := N) (p := N) (w := .i .i64 x) rfl
  obtain ⟨H0, hH0⟩ : ∃ H0, H0 = h ++ [some (blkOf 3 [AVal.i .i64 x])] := ⟨_, rfl⟩
  rw [← hH0, ← hN] at b0
  have l0 : H0.length = N + 1 := by rw [hH0, hN]; simp
  have k0 : Keep h H0 := by rw [hH0]; exact Keep.app _
  have o0 : Holds H0 N [.i .i64 x] := by rw [hH0, hN]; exact Holds.new _ _ _
  have b1 := al_ok (ro := ro) (hp := H0) (l := N) (p := N) 9 [AVal.s []]
  obtain ⟨H1, hH1⟩ : ∃ H1, H1 = H0 ++ [some (blkOf 9 [AVal.s []])] := ⟨_, rfl⟩
  rw [← hH1, l0] at b1
  have l1 : H1.length = N + 2 := by rw [hH1]; simp [l0]
  have k1 : Keep H0 H1 := by rw [hH1]; exact Keep.app _
  have o1 : Holds H1 (N + 1) [.s []] := by rw [hH1, ← l0]; exact Holds.new _ _ _
  have b2 := al_ok (ro := ro) (hp := H1) (l := N) (p := N) 25 [AVal.i IntKind.i64 0]
  obtain ⟨H2, hH2⟩ : ∃ H2, H2 = H1 ++ [some (blkOf 25 [AVal.i IntKind.i64 0])] := ⟨_, rfl⟩
  rw [← hH2, l1] at b2
  have l2 : H2.length = N + 3 := by rw [hH2]; simp [l1]
  have k2 : Keep H1 H2 := by rw [hH2]; exact Keep.app _
  have kh2 : Keep h H2 := (k0.trans k1).trans k2
  have o0' : Holds H2 N [.i .i64 x] := (o0.by k1).by k2
  have o1' : Holds H2 (N + 1) [.s []] := o1.by k2
  have o2' : Holds H2 (N + 2) [.i .i64 0] := by rw [hH2, ← l1]; exact Holds.new _ _ _
  have c74 := cp (l := N) (p := N) (readBud74 (ro := ro) (h := H2) (s := s) (S_by a kh2) hf.1 hf.2.1 hf.2.2) (by omega) (by omega)
  -- the end, when two results are known
  have fin : ∀ (K : Heap) (t : List UInt8) (e : Int), Keep h K → Holds K (N + 1) [.s t] → Holds K (N + 2) [.i .i64 e] → bindO (ldM ro ⟨K, N, N⟩ true 1 (.p (some ⟨false, N + 1, 0⟩))) (fun vr => bindO (ldM ro ⟨K, N, N⟩ true 1 (.p (some ⟨false, N + 2, 0⟩))) fun vr_1 => finM N (tupA [vr, vr_1]) ⟨K, N, N⟩) = some (.tup [.s t, .i .i64 e], h, N, N) := fun K t e kK y1 y2 => by
    simp only [y1.ld1, y2.ld1, oS, tA2]
    subst hN
    exact fin_keep kK rfl
  have done : ∀ (K : Heap) (u w : AVal) (t : List UInt8) (e : Int), Keep h K → Holds K (N + 1) [u] → Holds K (N + 2) [w] → bindP (stepM ro ⟨K, N, N⟩ (.st 1 (.c (.p (some ⟨false, N + 1, 0⟩))) (.c (.s t)))) (fun vn m => bindP (stepM ro m (.st 1 (.c (.p (some ⟨false, N + 2, 0⟩))) (.c (.i .i64 e)))) fun vn_1 m_5 => bindO (ldM ro m_5 true 1 (.p (some ⟨false, N + 1, 0⟩))) fun vr => bindO (ldM ro m_5 true 1 (.p (some ⟨false, N + 2, 0⟩))) fun vr_1 => finM N (tupA [vr, vr_1]) m_5) = some (.tup [.s t, .i .i64 e], h, N, N) := fun K u w t e kK y1 y2 => by
    obtain ⟨Ka, Kb, r1, r2, r3, r4, r5, r6⟩ := two_res (ro := ro) (by omega) y1 y2 t e
    have r1' := r1 N N
    have r2' := r2 N N
    rw [show min N (N + 1) = N by omega] at r1'
    rw [show min N (N + 2) = N by omega] at r2'
    simp only [r1', r2', pS]
    have := kK.1
    exact fin Kb t e ⟨by omega, fun i hi => by rw [r6 i (by omega) (by omega), kK.2 i hi]⟩ r3 r4
  refine g36_ok (meansX_ok F1 ro) (Ovr.no rfl) ?_
  unfold g36
  simp only [← hN, b0, b1, pS, b2, mC, c74, x0, x1, x2, oS, iS, fB]
  by_cases he : errU z s = 0
  rotate_left
  · have e : letterV z s x = ([], errU z s) := by unfold letterV; rw [if_pos he]
    simp only [eqI_ne he, nF, cT, e]
    exact done H2 _ _ [] _ kh2 o1' o2'
  obtain ⟨vok, hs1, hhs, hbud⟩ := errU_ok he
  obtain ⟨b, hb⟩ : ∃ b, b = ix (s.getD 0 0) := ⟨_, rfl⟩
  have hBud : BudOk z b := ⟨vok, by rw [hb]; exact ix_lt (hhs 0 (by omega)), by rw [hb]; exact hbud⟩
  have e : letterV z s x = if 0 ≤ x ∧ x < 100000 then ([letE z b x.toNat], 0) else ([], 4) := by unfold letterV; rw [if_neg (by simp [he]), hb]
  rw [← hb]
  simp only [he, eqI_self, nT, cF, if_true]
  have c75 := endless75 (ro := ro) (h := H2) (v := v) (x := (b : Int)) (cells_S a)
  obtain ⟨H3, hH3⟩ : ∃ H3, H3 = H2 ++ [some (blkOf 55 [v]), some (blkOf 3 [.i .i64 (b : Int)])] := ⟨_, rfl⟩
  rw [← hH3, l2] at c75
  have l3 : H3.length = N + 5 := by rw [hH3]; simp [l2]
  have k3 : Keep H2 H3 := by rw [hH3]; exact Keep.app _
  have nb : ∀ (j e : Nat) (x : AVal), (∀ blk, blk = blkOf e [x] → H3[N + 3 + j]? = some (some blk)) → Holds H3 (N + 3 + j) [x] := fun j e x hx => ⟨blkOf e [x], by rw [lget_eq]; exact hx _ rfl, rfl, fun i _ => get_blk e [x] i⟩
  have x0' : Holds H3 (N + 3 + 0) [v] := nb 0 55 v fun blk e => by rw [e, hH3, List.getElem?_append_right (by omega)]; simp [l2]
  have x1' : Holds H3 (N + 3 + 1) [.i .i64 (b : Int)] := nb 1 3 _ fun blk e => by rw [e, hH3, List.getElem?_append_right (by omega)]; simp [l2]
  have c75' := callM_of (a := N) (b := N) c75
  rw [show min N (N + 3) = N by omega] at c75'
  -- what is known at the end: the letter was met, or not
  have one : ∀ t, g36_P0 (.p (some ⟨false, N, 0⟩)) (.p (some ⟨false, N + 1, 0⟩)) (.p (some ⟨false, N + 2, 0⟩)) t → ∃ K' lw lp p s', callX F1 ro 98 [.yld (N + 5), .p (some ⟨false, N + 3, 0⟩), .p (some ⟨false, N + 3 + 1, 0⟩)] (H3 ++ [some (recB t [26, 27] k36a0 k36c0)]) = some (tupA [], K', lw, lp) ∧ N ≤ lw ∧ N ≤ lp ∧ Keep h K' ∧ RecAt K' (N + 5) ⟨t, [26, 27], k36a0, k36c0⟩ s' p ∧ s' ≠ .busy ∧ Holds K' (N + 2) [.i .i64 0] ∧
      ((p = none ∧ Holds K' (N + 1) [.s []] ∧ ¬ (0 ≤ x ∧ x < 100000)) ∨ (p = some .ret ∧ (0 ≤ x ∧ x < 100000) ∧ Holds K' (N + 1) [.s [letE z b x.toNat]])) := fun t ht => by
    obtain ⟨K0, hK0⟩ : ∃ K0, K0 = H3 ++ [some (recB t [26, 27] k36a0 k36c0)] := ⟨_, rfl⟩
    have lK : K0.length = N + 6 := by rw [hK0]; simp [l3]
    have kK : Keep H3 K0 := by rw [hK0]; exact Keep.app _
    have rK : RecAt K0 (N + 5) ⟨t, [26, 27], k36a0, k36c0⟩ .ready none := ⟨recB t [26, 27] k36a0 k36c0, by rw [hK0, ← l3]; exact lget_last _ _, rfl⟩
    obtain ⟨S, hS⟩ : ∃ S : Nat → Prop, S = fun j => j = N ∨ j = N + 1 ∨ j = N + 2 ∨ j = N + 5 := ⟨_, rfl⟩
    obtain ⟨C, hC⟩ : ∃ C : Nat → (Nat → Prop) → Heap → Prop, C = fun i S' K => S' = S ∧ Holds K N [.i .i64 x] ∧ Holds K (N + 1) [.s []] ∧ Holds K (N + 2) [.i .i64 0] ∧ RecAt K (N + 5) ⟨t, [26, 27], k36a0, k36c0⟩ .ready none ∧ ∀ j : Nat, j < i → (j : Int) ≠ x := ⟨_, rfl⟩
    obtain ⟨D, hD⟩ : ∃ D : (Nat → Prop) → Heap → Prop, D = fun S' K => S' = S ∧ (0 ≤ x ∧ x < 100000) ∧ Holds K N [.i .i64 x] ∧ Holds K (N + 1) [.s [letE z b x.toNat]] ∧ Holds K (N + 2) [.i .i64 0] ∧ RecAt K (N + 5) ⟨t, [26, 27], k36a0, k36c0⟩ .done (some .ret) := ⟨_, rfl⟩
    have sN : S N := by rw [hS]; exact .inl rfl
    have sN1 : S (N + 1) := by rw [hS]; exact .inr (.inl rfl)
    have sN2 : S (N + 2) := by rw [hS]; exact .inr (.inr (.inl rfl))
    have sN5 : S (N + 5) := by rw [hS]; exact .inr (.inr (.inr rfl))
    have cons : ConsE ro (N + 5) N N (letE z b) C D := by
      refine ⟨fun {i S' K} hc hi => ?_, fun {i S' K K'} hc hf => ?_, fun {S' K K'} hc hf => ?_, fun {i S' K} hc j hj => ?_, fun {S' K} hc j hj => ?_⟩
      · rw [hC] at hc
        obtain ⟨rfl, g0, g1, g2, g3, g4⟩ := hc
        have hK := g3.lt
        obtain ⟨blk, e1, e2⟩ := g3
        obtain ⟨Ka, q1, q2, q3, q4⟩ := RecAt.begin (⟨blk, e1, e2⟩ : RecAt K (N + 5) ⟨t, [26, 27], k36a0, k36c0⟩ .ready none)
        have g0a : Holds Ka N [.i .i64 x] := g0.keep (q4 _ (by omega))
        by_cases hix : (i : Int) = x
        · obtain ⟨Kb, s1, s2, s3, s4⟩ := one_str (ro := ro) (K := Ka) (l := min K.length (N + 5)) (p := K.length) (letE z b i)
          obtain ⟨Kc, Kd, r1, r2, r3, r4, r5, r6⟩ := two_res (ro := ro) (i := N + 1) (j := N + 2) (by omega) ((g1.keep (q4 (N + 1) (by omega))).by s3) ((g2.keep (q4 (N + 2) (by omega))).by s3) [letE z b i] 0
          have rec4 : RecAt Kd (N + 5) ⟨t, [26, 27], k36a0, k36c0⟩ .busy none := (q2.keep (s3.2 _ (by omega))).keep (r6 _ (by omega) (by omega))
          obtain ⟨K5, w1, w2, w3, w4⟩ := rec4.done .ret
          have r1' := r1 (min K.length (N + 5)) K.length
          have r2' := r2 (min (min K.length (N + 5)) (N + 1)) K.length
          have exi : x.toNat = i := by omega
          refine ⟨false, K5.take K.length, min (min (min (min K.length (N + 5)) (N + 1)) (N + 2)) (N + 5), K.length, S', g36_r0_ok (meansX_ok F1 ro) e1 e2 ht ?_, by omega, by omega, fun e => (by cases e), fun _ => ?_, by simp; omega, .inr fun j hj => hj, fun j hj hn => ?_, fun j hj => .inl hj⟩
          · unfold g36_r0
            simp only [q1, oS, g0a.ld1, iS, fB, hix, eqI_self, cT, s1, pS, s2, sS, r1', r2', w1, gc_short (Nat.le_refl K.length) (show (AVal.b AExit.ret.on).bel K.length = true from rfl)]
            rfl
          · rw [hD]
            refine ⟨rfl, by omega, ((((g0a.by s3).keep (r6 _ (by omega) (by omega))).keep (w4 _ (by omega))).cut (by omega)), ?_, (r4.keep (w4 _ (by omega))).cut (by omega), w2.cut (by omega)⟩
            rw [exi]
            exact (r3.keep (w4 _ (by omega))).cut (by omega)
          · have h1 : j ≠ N + 1 := fun e => hn (e ▸ sN1)
            have h2 : j ≠ N + 2 := fun e => hn (e ▸ sN2)
            have h3 : j ≠ N + 5 := fun e => hn (e ▸ sN5)
            rw [List.getElem?_take, if_pos hj, w4 j h3, r6 j h1 h2, s3.2 j (by omega), q4 j h3]
        · obtain ⟨K5, w1, w2, w3, w4⟩ := q2.done .norm
          refine ⟨true, K5.take K.length, min (min K.length (N + 5)) (N + 5), K.length, S', g36_r0_ok (meansX_ok F1 ro) e1 e2 ht ?_, by omega, by omega, fun _ => ?_, fun e => (by cases e), by simp; omega, .inr fun j hj => hj, fun j hj hn => ?_, fun j hj => .inl hj⟩
          · unfold g36_r0
            simp only [q1, oS, g0a.ld1, iS, fB, eqI_ne hix, cF, w1, gc_short (Nat.le_refl K.length) (show (AVal.b AExit.norm.on).bel K.length = true from rfl)]
            rfl
          · rw [hC]
            have kk : ∀ j, j ≠ N + 5 → j < K.length → (K5.take K.length)[j]? = K[j]? := fun j h1 h2 => by rw [List.getElem?_take, if_pos h2, w4 j h1, q4 j h1]
            refine ⟨rfl, g0.keep (kk _ (by omega) (by omega)), g1.keep (kk _ (by omega) (by omega)), g2.keep (kk _ (by omega) (by omega)), w2.cut (by omega), fun j hj => ?_⟩
            rcases Nat.lt_or_ge j i with hl | hl
            · exact g4 j hl
            · obtain rfl : j = i := by omega
              exact hix
          · have h3 : j ≠ N + 5 := fun e => hn (e ▸ sN5)
            rw [List.getElem?_take, if_pos hj, w4 j h3, q4 j h3]
      · rw [hC] at hc ⊢
        obtain ⟨rfl, g0, g1, g2, g3, g4⟩ := hc
        exact ⟨rfl, g0.keep (hf _ sN), g1.keep (hf _ sN1), g2.keep (hf _ sN2), g3.keep (hf _ sN5), g4⟩
      · rw [hD] at hc ⊢
        obtain ⟨rfl, gx, g0, g1, g2, g3⟩ := hc
        exact ⟨rfl, gx, g0.keep (hf _ sN), g1.keep (hf _ sN1), g2.keep (hf _ sN2), g3.keep (hf _ sN5)⟩
      · rw [hC] at hc
        obtain ⟨rfl, g0, g1, g2, g3, g4⟩ := hc
        have := g3.lt
        rw [hS] at hj
        omega
      · rw [hD] at hc
        obtain ⟨rfl, gx, g0, g1, g2, g3⟩ := hc
        have := g3.lt
        rw [hS] at hj
        omega
    have hC0 : C 0 S K0 := by
      rw [hC]
      exact ⟨rfl, (o0'.by k3).by kK, (o1'.by k3).by kK, (o2'.by k3).by kK, rK, fun j hj => by omega⟩
    have hkk : Keep h K0 := (kh2.trans k3).trans kK
    obtain ⟨K', lw, lp, S', t1, t2, t3, t4, t5, t6, t7⟩ := endless98 (ro := ro) (z := z) (b := b) (rbk := N + 5) (rx := N + 3) (px := N + 3 + 1) (L0 := N) (Lc := N) (hB := h) (K0 := K0) (S0 := S) hBud a hkk (x0'.by kK) (x1'.by kK) (by rw [hS]; omega) (fun j hj => by rw [hS]; omega) (by omega) (by omega) cons hC0
    have hk' : Keep h K' := ⟨by omega, fun i hi => by rw [t6 i (by omega) (by rw [hS]; omega), hkk.2 i hi]⟩
    rw [← hK0]
    rcases t4 with t4 | t4
    · rw [hC] at t4
      obtain ⟨-, g0, g1, g2, g3, g4⟩ := t4
      refine ⟨K', lw, lp, _, _, t1, t2, t3, hk', g3, by decide, g2, .inl ⟨rfl, g1, fun hx => ?_⟩⟩
      exact g4 x.toNat (by omega) (by omega)
    · rw [hD] at t4
      obtain ⟨-, gx, g0, g1, g2, g3⟩ := t4
      exact ⟨K', lw, lp, _, _, t1, t2, t3, hk', g3, by decide, g2, .inr ⟨rfl, gx, g1⟩⟩
  simp only [c75', pS, mC]
  refine rngK_eq (t := ((Tr.e.set 5 (.p (some ⟨false, N, 0⟩))).set 6 (.p (some ⟨false, N + 1, 0⟩))).set 7 (.p (some ⟨false, N + 2, 0⟩))) ⟨trivial, by rw [get_set_ne _ _ (by decide), get_set_ne _ _ (by decide)]; simp, by rw [get_set_ne _ _ (by decide)]; simp, by simp⟩ fun t ht => ?_
  obtain ⟨K', lw, lp, p, s', t1, t2, t3, t4, r1, r2, g2, r3⟩ := one t ht
  have hlt := r1.lt
  have e2 := r1.ended r2
  obtain ⟨J, hJ⟩ : ∃ J, J = lset none K' (N + 5) := ⟨_, rfl⟩
  have kJ : Keep h J := by rw [hJ, lset_eq]; exact t4.set (by omega) none
  have o2J : Holds J (N + 2) [.i .i64 0] := g2.keep (by rw [hJ, lset_eq]; exact List.getElem?_set_ne (by omega))
  rw [← hJ] at e2
  refine ⟨(p.getD .norm, ⟨J, N, N⟩), ?_, ?_⟩
  · unfold rngT rngA
    simp only [List.nil_append, List.cons_append, l3, t1, e2]
    show some (p.getD AExit.norm, (⟨J, min (min N lw) (N + 5), min N lp⟩ : Mm)) = _
    rw [show min (min N lw) (N + 5) = N by omega, show min N lp = N by omega]
  · rcases r3 with ⟨rfl, g1, hx⟩ | ⟨rfl, hx, g1⟩
    · have o1J : Holds J (N + 1) [.s []] := g1.keep (by rw [hJ, lset_eq]; exact List.getElem?_set_ne (by omega))
      rw [e, if_neg hx]
      exact done J _ _ [] _ kJ o1J o2J
    · have o1J : Holds J (N + 1) [.s [letE z b x.toNat]] := g1.keep (by rw [hJ, lset_eq]; exact List.getElem?_set_ne (by omega))
      rw [e, if_pos hx]
      exact fin J _ _ kJ o1J o2J
end
end Go.Proofs.Ytfohppnelbbepaa.T

/- Letter of the reference, law 7 -/
open Go.Vm
set_option linter.unusedVariables false
set_option linter.unusedSectionVars false
namespace Go.Proofs.Ytfohppnelbbepaa.T
open Go
variable [Ovr]

section
variable {ro : List ABlk} {h hp : Heap}
theorem bud76 {v : AVal} {z : List (List UInt8)} {s : List UInt8} (a : IsS ro h v z) (hf : z.length ≤ 1000000 ∧ (∀ i, i < z.length → (z.getD i []).length ≤ 1000000) ∧ s.length ≤ 1000000) :
    callX F1 ro 76 [v, .s s] h = some (.i .i64 (errU z s), h, h.length, h.length) := by
  refine g76_ok (meansX_ok F1 ro) (Ovr.no rfl) ?_
  unfold g76
  simp only [mC, cp0 (vine46 (ro := ro) (h := h) a hf.1 hf.2.1), pS, iS, fB]
  by_cases hv : errV z = 0
  rotate_left
  · have e1 : errU z s = errV z := by unfold errU; rw [if_pos hv]
    simp only [eqI_ne hv, nF, cT, e1, tA]
    exact fin_pure rfl
  have vok := VOk.of hv
  simp only [hv, eqI_self, nT, cF, len_str, oS, iS]
  by_cases h1 : s.length = 1
  rotate_left
  · have e1 : errU z s = 5 := by unfold errU; rw [if_neg (by simp [hv]), if_neg fun e => h1 e.1]
    simp only [eqI_ne (show (s.length : Int) ≠ 1 by omega), nF, cT, oS, e1, tA]
    exact fin_pure rfl
  have e0 : eqI (s.length : Int) 1 = true := by rw [h1]; rfl
  simp only [e0, nT, cF, cp0 (has85 (s := s) a hf.2.2 hf.1), pS, bS, oS]
  by_cases hh : has z.length s
  rotate_left
  · have e1 : errU z s = 5 := by unfold errU; rw [if_neg (by simp [hv]), if_neg fun e => hh e.2]
    simp only [dF hh, nF, cT, e1, tA]
    exact fin_pure rfl
  have hb := hh 0 (by omega)
  have hx := ix_lt hb
  have i0 : evP .e (.ixStr (.c (.s s)) (.c (.i .i64 0))) = some (bv (s.getD 0 0)) := ix_str (show 0 < s.length by omega)
  have e2 : ix (s.getD 0 0) ≤ 255 := by unfold ix; have := (s.getD 0 0).toNat_lt; omega
  simp only [dT hh, nT, cF, i0, oS, iS, fI', sub97 hb.1, lt64 (show ix (s.getD 0 0) ≤ 9223372036854775807 by omega), cp0 (bud73 a vok hx), pS, bS]
  cases hbud : isBud z (ix (s.getD 0 0))
  · have e1 : errU z s = 10 := by unfold errU; rw [if_neg (by simp [hv]), if_pos ⟨h1, hh⟩, hbud]; rfl
    simp only [nF, cT, e1, tA]
    exact fin_pure rfl
  · have e1 : errU z s = 0 := by unfold errU; rw [if_neg (by simp [hv]), if_pos ⟨h1, hh⟩, hbud]; rfl
    simp only [nT, cF, e1, tA]
    exact fin_pure rfl
theorem letE_eq {z : List (List UInt8)} {b i j : Nat} (hb : BudOk z b) (hj : j < (shootE z b i).length) : (shootE z b i).getD j 0 = letE z b j := by
  unfold letE
  rcases Nat.le_total i j with h | h
  · have := (shootE_pre z b hj (j - i)).1
    rw [show i + (j - i) = j by omega] at this
    exact this.symm
  · have hl : j < (shootE z b j).length := by have := (shootE_len hb j).1; omega
    have := (shootE_pre z b hl (i - j)).1
    rw [show j + (i - j) = i by omega] at this
    exact this
/-- a list of the first letters -/
def Begins (K : Heap) (L b' n : Nat) (z : List (List UInt8)) (b : Nat) : Prop := L ≤ b' ∧ ∃ blk, lget K b' = some (some blk) ∧ n ≤ blk.n ∧ ∀ j, j < n → blk.c.get j = bv (letE z b j)
set_option maxHeartbeats 1000000 in
theorem begun77 {v : AVal} {z : List (List UInt8)} {b n : Nat} (a : IsS ro h v z) (hb : BudOk z b) (hn : n ≤ 100000) (hn1 : 1 ≤ n) :
    ∃ b' H, callX F1 ro 77 [v, .i .i64 (b : Int), .i .i64 (n : Int)] h = some (.sl ⟨false, b', 0⟩ n .grow, H, h.length, h.length) ∧ Keep h H ∧ Begins H h.length b' n z b := by
  obtain ⟨N, hN⟩ : ∃ N, N = h.length := ⟨_, rfl⟩
  obtain ⟨rest, er, hr, hhr⟩ := hb.is
  have hbl := hb.plt
  obtain ⟨q1, i1, i2⟩ := at_S a hbl
  have st := stb_ok (ro := ro) (hp := h) (l := N) (p := N) (c := lt b) (s := rest)
  rw [← er] at st
  obtain ⟨s1, s2⟩ := st
  obtain ⟨K1, hK1⟩ : ∃ K1, K1 = h ++ [some (blkOf 5 ((z.getD b []).map bv))] := ⟨_, rfl⟩
  rw [← hK1] at s1 s2
  have lK1 : K1.length = N + 1 := by rw [hK1, hN]; simp
  have kK1 : Keep h K1 := by rw [hK1]; exact Keep.app _
  obtain ⟨v0, hv0⟩ : ∃ v0, v0 = AVal.sl ⟨false, h.length, 0⟩ (rest.length + 1) .grow := ⟨_, rfl⟩
  rw [← hv0, ← hN] at s2
  rw [← hv0] at s1
  have key : ∃ r, loopX (fun q : AVal × Int × Mm => g77_b0 (meansX F1 ro) ro v (n : Int) q.1 q.2.1 q.2.2) (v0, 1, ⟨K1, N, N⟩) = some r ∧ ∃ u J I, r = (u, ⟨J, N, N⟩) ∧ Keep h J ∧ RowG J N 5 u ((shootE z b I).map bv) ∧ n ≤ (shootE z b I).length := by
    refine loop_exit n (fun i q => ∃ u J, q = (u, ((i + 1 : Nat) : Int), ⟨J, N, N⟩) ∧ Keep h J ∧ RowG J N 5 u ((shootE z b i).map bv)) _ ?_ ?_ n 0 _ (by omega) ⟨v0, K1, rfl, kK1, s2⟩
    · rintro i q hi ⟨u, J, rfl, kJ, g⟩
      have hlJ := kJ.1
      obtain ⟨l1, l2, l3, l4⟩ := shootE_len hb i
      have hup := shootE_up hb (i + 1)
      have hln : evP .e (.len false (.c u)) = some (.i .i64 (((shootE z b i).length : Nat) : Int)) := by
        have := len_R (g.isR (enc := bv) (ro := ro))
        exact this
      by_cases hc : (shootE z b i).length < n
      · have hbl' := l4 (i + 1) l1
        have hxl := ix_lt hbl'
        obtain ⟨p1, u1, u2⟩ := at_R (ro := ro) (g.isR (enc := bv)) (i := i + 1) (x := (shootE z b i).getD (i + 1) 0) (by simp [List.getD, l1])
        obtain ⟨p2, y1, y2⟩ := at_S a hxl
        have e : shootE z b (i + 1) = shootE z b i ++ z.getD (ix ((shootE z b i).getD (i + 1) 0)) [] := rfl
        have e2 : ix ((shootE z b i).getD (i + 1) 0) ≤ 255 := by unfold ix; have := ((shootE z b i).getD (i + 1) 0).toNat_lt; omega
        obtain ⟨v', J', l', p', a1, a2, a3, a4, a5, a6, a7, a8⟩ := g.pushS (ro := ro) (l := N) (p := N) (t := z.getD (ix ((shootE z b i).getD (i + 1) 0)) []) (by omega) (by rw [e, List.length_append] at hup; omega)
        obtain ⟨b1, b2⟩ := a5 N (Nat.le_refl _) (Nat.le_refl _) (Nat.le_refl _)
        have hl' : l' = N ∧ p' = N := by omega
        rw [hl'.1, hl'.2] at a1
        refine .inl ⟨_, (by simp only [g77_b0, hln, oS, iS, fB, ltT (show (((shootE z b i).length : Nat) : Int) < (n : Int) by omega), cT, u1, (u2 (Keep.refl J)).1, fI', sub97 hbl'.1, lt64 (show ix ((shootE z b i).getD (i + 1) 0) ≤ 9223372036854775807 by omega), y1, (y2 kJ).1, sS, a1, pS, nx (show i + 1 ≤ 1000000 by omega)] <;> rfl), v', J', rfl, ⟨by omega, fun t ht => ?_⟩, by rw [e]; exact a2⟩
        rw [a4 t (by omega) fun hv => by have := (g.holds hv).2.1; omega, kJ.2 t ht]
      · exact .inr ⟨_, (by simp only [g77_b0, hln, oS, iS, fB, ltF (show ¬ (((shootE z b i).length : Nat) : Int) < (n : Int) by omega), cF] <;> rfl), u, J, i, rfl, kJ, g, by omega⟩
    · rintro q ⟨u, J, rfl, kJ, g⟩
      obtain ⟨l1, l2, l3, l4⟩ := shootE_len hb n
      have hln : evP .e (.len false (.c u)) = some (.i .i64 (((shootE z b n).length : Nat) : Int)) := len_R (g.isR (enc := bv) (ro := ro))
      exact ⟨_, (by simp only [g77_b0, hln, oS, iS, fB, ltF (show ¬ (((shootE z b n).length : Nat) : Int) < (n : Int) by omega), cF] <;> rfl), u, J, n, rfl, kJ, g, by omega⟩
  obtain ⟨r, q2, u, J, I, rfl, kJ, g, hI⟩ := key
  rcases g with ⟨rfl, e⟩ | ⟨b', blk, rfl, g2, g3, g4, g5, g6, g7⟩
  · have : shootE z b I = [] := by simpa using e
    rw [this] at hI; simp at hI; omega
  rw [List.length_map] at g6 g7 q2
  have sl : evP .e (.slS 1 (.c (.sl ⟨false, b', 0⟩ (shootE z b I).length .grow)) none (some (.c (.i .i64 (n : Int)))) none) = some (.sl ⟨false, b', 0⟩ n .grow) := by
    have eh : ((n : Nat) : Int) = Int.ofNat n := rfl
    have b1 : Nat.ble n (shootE z b I).length = true := by rw [Nat.ble_eq]; exact hI
    simp only [evP, ev_slS, opd, sl_lh, eh, Option.map_some, Option.map_none, sbound, capB, b1, cond_true]
  obtain ⟨H, f1, f2, f3⟩ := fin_any (w := .sl ⟨false, b', 0⟩ n .grow) kJ
  have hbel : (AVal.sl ⟨false, b', 0⟩ n .grow).bel h.length = false := by
    have : Nat.blt b' h.length = false := by rw [← Bool.not_eq_true, Nat.blt_eq]; omega
    simp [AVal.bel, this]
  obtain rfl := f3 hbel
  refine ⟨b', H, g77_ok (meansX_ok F1 ro) (Ovr.no rfl) ?_, kJ, by omega, blk, g4, by omega, fun j hj => ?_⟩
  · unfold g77
    rw [← hN] at f1 ⊢
    simp only [i1, oS, (i2 (Keep.refl h)).1, sS, s1, pS, meansX_loop, q2, sl, tA]
    exact f1
  · rw [g7 j (by omega)]
    have hj2 : j < (shootE z b I).length := by omega
    rw [← letE_eq hb hj2]
    simp [List.getD, hj2]
theorem Begins.one {K : Heap} {L b' n l p : Nat} {z : List (List UInt8)} {b : Nat} (g : Begins K L b' (n + 1) z b) : ∃ w, evP .e (.slS 1 (.c (.sl ⟨false, b', 0⟩ (n + 1) .grow)) (some (.c (.i .i64 (n : Int)))) none none) = some w ∧ btsM ro ⟨K, l, p⟩ w = some (.s [letE z b n]) := by
  obtain ⟨-, blk, g1, g2, g3⟩ := g
  have el : ((n : Nat) : Int) = Int.ofNat n := rfl
  have b2 : Nat.ble n (n + 1) = true := by rw [Nat.ble_eq]; omega
  have bt : ∀ off c, off = n → btsM ro ⟨K, l, p⟩ (.sl ⟨false, b', off⟩ 1 c) = some (.s [letE z b n]) := fun off c eo => by
    have e1 : rdB ro K ⟨false, b', off⟩ = some blk := rdB_heap g1 off
    have e2 : Nat.ble (off + 1) blk.n = true := by rw [Nat.ble_eq]; omega
    have e0 : blk.c.row off 1 = [letE z b n].map bv := row_row 1 off _ rfl fun j hj => by
      obtain rfl : j = 0 := by omega
      rw [eo, Nat.add_zero, g3 n (by omega)]; rfl
    simp only [btsM, st_bts, Mm.st, e1, e2, cond_true, e0, bytesA_ok, Option.map_some]
  cases n with
  | zero =>
    refine ⟨.sl ⟨false, b', 0⟩ (0 + 1) .grow, ?_, bt 0 _ rfl⟩
    simp only [evP, ev_slS, opd, sl_lh, el, Option.map_some, Option.map_none, sbound, b2, cond_true]
  | succ m =>
    have b3 : Nat.blt (m + 1) (m + 1 + 1) = true := by rw [Nat.blt_eq]; omega
    refine ⟨.sl ⟨false, b', 0 + (m + 1) * 1⟩ 1 .any, ?_, bt _ _ (by omega)⟩
    have e4 : m + 1 + 1 - (m + 1) = 1 := by omega
    simp only [evP, ev_slS, opd, sl_lh, el, Option.map_some, Option.map_none, sbound, b2, b3, cond_true, e4]
theorem letter37 {v : AVal} {z : List (List UInt8)} {s : List UInt8} {x : Int} (a : IsS ro h v z) (hf : z.length ≤ 1000000 ∧ (∀ i, i < z.length → (z.getD i []).length ≤ 1000000) ∧ s.length ≤ 1000000) :
    callX F1 ro 37 [v, .s s, .i .i64 x] h = some (.tup [.s (letterV z s x).1, .i .i64 (letterV z s x).2], h, h.length, h.length) := by
  refine g37_ok (meansX_ok F1 ro) (Ovr.no rfl) ?_
  unfold g37
  simp only [mC, cp0 (bud76 (ro := ro) (h := h) (s := s) a hf), pS, iS, fB]
  by_cases he : errU z s = 0
  rotate_left
  · have e : letterV z s x = ([], errU z s) := by unfold letterV; rw [if_pos he]
    simp only [eqI_ne he, nF, cT, e, tA2]
    exact fin_pure2 rfl rfl
  obtain ⟨vok, hs1, hhs, hbud⟩ := errU_ok he
  have e : letterV z s x = if 0 ≤ x ∧ x < 100000 then ([letE z (ix (s.getD 0 0)) x.toNat], 0) else ([], 4) := by unfold letterV; rw [if_neg (by simp [he])]
  rw [e]
  simp only [he, eqI_self, nT, cF]
  by_cases hx0 : x < 0
  · simp only [ltT hx0, cT, oS, if_neg (show ¬ (0 ≤ x ∧ x < 100000) by omega), tA2]
    exact fin_pure2 rfl rfl
  by_cases hx1 : x < 100000
  rotate_left
  · simp only [ltF hx0, cF, ltF hx1, nF, oS, cT, if_neg (show ¬ (0 ≤ x ∧ x < 100000) by omega), tA2]
    exact fin_pure2 rfl rfl
  obtain ⟨n, rfl⟩ : ∃ n : Nat, x = (n : Int) := ⟨x.toNat, by omega⟩
  have hb := hhs 0 (by omega)
  have hx := ix_lt hb
  have hBud : BudOk z (ix (s.getD 0 0)) := ⟨vok, hx, hbud⟩
  have i0 : evP .e (.ixStr (.c (.s s)) (.c (.i .i64 0))) = some (bv (s.getD 0 0)) := ix_str (show 0 < s.length by omega)
  have e2 : ix (s.getD 0 0) ≤ 255 := by unfold ix; have := (s.getD 0 0).toNat_lt; omega
  obtain ⟨b', H, c1, k1, g⟩ := begun77 (ro := ro) a hBud (n := n + 1) (by omega) (by omega)
  obtain ⟨w, w1, w2⟩ := g.one (ro := ro) (l := h.length) (p := h.length)
  have c1' := cM c1 (Nat.le_refl _) (Nat.le_refl _)
  simp only [ltF hx0, cF, ltT hx1, nT, oS, i0, iS, fI', sub97 hb.1, lt64 (show ix (s.getD 0 0) ≤ 9223372036854775807 by omega), nx (show n ≤ 1000000 by omega), c1', pS, w1, w2, sS, if_pos (show 0 ≤ (n : Int) ∧ (n : Int) < 100000 by omega), Int.toNat_natCast, tA2]
  exact fin_keep k1 rfl
theorem law7 {v : AVal} {z : List (List UInt8)} {s : List UInt8} {x : Int} (hA : ∀ h, callX F1 ro 16 [] h = some (.b true, h, h.length, h.length)) (a : IsS ro h v z) :
    callX F1 ro 7 [v, .s s, .i .i64 x] h = some (.b true, h, h.length, h.length) := by
  refine g7_ok (meansX_ok F1 ro) (Ovr.no rfl) ?_
  unfold g7
  simp only [mC, cp0 (few15 (s := s) a), pS, bS, fB]
  by_cases hf : fewB z s
  rotate_left
  · simp only [dF hf, nF, cT, cp0 (hA h), pS, bS, tA]
    exact fin_pure rfl
  have hf' := fewB_len hf
  obtain ⟨w1, H1, c1, k1, r1⟩ := endless34 (ro := ro) a hf'.1 hf'.2.1
  have a1 := S_by a k1
  obtain ⟨w2, H2, c2, k2, r2⟩ := endless35 (ro := ro) a1 hf'.1 hf'.2.1
  have a2 := S_by a1 k2
  have l1 := k1.1
  have l2 := k2.1
  have hbl : (budV z).length ≤ 1000000 := by
    unfold budV
    split
    · unfold budsL
      rw [List.length_map]
      have := List.length_filter_le (isBud z) (List.range z.length)
      rw [List.length_range] at this
      have := hf'.1
      omega
    · simp
  have c1' := cM c1 (Nat.le_refl _) (Nat.le_refl _)
  have c2' := cM (l := h.length) (p := h.length) c2 l1 l1
  have c3 := cp (l := h.length) (p := h.length) (same23 (ro := ro) (row_by r1 k2) r2 hbl) (by omega) (by omega)
  have c4 := cp (l := h.length) (p := h.length) (letter36 (ro := ro) (s := s) (x := x) a2 hf') (by omega) (by omega)
  have c5 := cp (l := h.length) (p := h.length) (letter37 (ro := ro) (s := s) (x := x) a2 hf') (by omega) (by omega)
  have c6 := cp (l := h.length) (p := h.length) (hA H2) (by omega) (by omega)
  simp only [dT hf, nT, cF, c1', c2', pS, x0, x1, oS, iS, c3, bS, decide_true, eqI_self, c4, c5, sS, strEq, cT, c6, tA]
  exact fin_keep (k1.trans k2) rfl
end
end Go.Proofs.Ytfohppnelbbepaa.T

/- The bridge, alive known -/
open Go.Vm
set_option linter.unusedVariables false
set_option linter.unusedSectionVars false
namespace Go.Proofs.Ytfohppnelbbepaa.T
open Go Go.RowKit Go.Deep Go.WideShapes Go.ChangeShapes

attribute [local instance] ovA
theorem aliveA {ro : List ABlk} (h : Heap) : callX F1 ro 16 [] h = some (.b true, h, h.length, h.length) := callX_ov rfl
theorem call_ofA {W : World} {ro : List ABlk} {rl : Rl} (hE : (Env.mk Try.prog W.heap.size W ro rl).Ok) {K : Nat} {vs : List AVal} {args : Array Value}
    (hv : LR rl [] vs args) {h' : Heap} {lw lp : Nat} (hc : callX F1 ro K vs [] = some (.b true, h', lw, lp)) : Calls Try.prog K args W fun e W' => e = .returned (.bool true) ∧ Below W.heap.size W W' :=
  call_of hE (alive_known hE (Try.checked.mixed) fok) hv hc
theorem exC {ro : List ABlk} {k : Nat} {l : List AVal} {h : Heap} {n m : Nat} {H : Heap} (e : callX F1 ro k l h = some (.b true, H, n, m)) : ∃ h' lw lp, callX F1 ro k l h = some (.b true, h', lw, lp) := ⟨_, _, _, e⟩
end Go.Proofs.Ytfohppnelbbepaa.T

/- The functions that only look: same, beds, few, the reference's Shaped and the program's shaped. -/
import Derived.Test.YtllmlonngnhbfaaVmK1
open Go.Vm
set_option linter.unusedVariables false
namespace Go.Proofs.Ytllmlonngnhbfaa.Bed
open Go

theorem i64_small {n : Nat} (h : n ≤ 1000000) : inI64 (n : Int) := ⟨by omega, by omega⟩

/-- the same rows -/
theorem same_ok {ro : List ABlk} {h : Heap} {a b : AVal} {x y : List Int} (ha : IsRow ro h a x) (hb : IsRow ro h b y) (hx : x.length ≤ 1000000) :
    callX F1 ro 28 [a, b] h = some (.b (decide (x = y)), h, h.length, h.length) := by
  refine g28_ok (meansX_ok F1 ro) rfl ?_
  unfold g28
  simp only [len_row ha, len_row hb, bindO_some, asI_i, forceB_eq, eqI_eq, meansX_loop]
  by_cases hl : x.length = y.length
  · have e : ((x.length : Int) == (y.length : Int)) = true := by simp [hl]
    simp only [e, Bool.not_true, cond_false]
    have hloop := loop_first (b := fun s => g28_b0 (meansX F1 ro) ro a b ⟨h, h.length, h.length⟩ s) x.length (fun i => if x.getD i 0 = y.getD i 0 then none else some false) ?_ ?_ x.length 0 (by omega)
    · have e0 : ((0 : Nat) : Int) = 0 := rfl
      rw [e0] at hloop
      rw [hloop]
      cases hf : firstS (fun i => if x.getD i 0 = y.getD i 0 then none else some false) x.length 0 with
      | none =>
        have hxy : x = y := by
          refine List.ext_getElem hl fun i h1 h2 => ?_
          have := firstS_none.1 hf i (by omega) (by omega)
          simp only [ite_eq_left_iff, reduceCtorEq, imp_false, Decidable.not_not] at this
          simpa [List.getD, h1, h2] using this
        simp only [outS, bindO_some, hxy, decide_true, tupA]
        exact fin_pure rfl
      | some r =>
        obtain ⟨j, -, h2, h3, -⟩ := firstS_some hf
        by_cases hc : x.getD j 0 = y.getD j 0
        · rw [if_pos hc] at h3; cases h3
        · simp only [hc, if_false, Option.some.injEq] at h3
          subst h3
          have hxy : ¬ (x = y) := fun e => hc (by rw [e])
          simp only [outS, bindO_some, hxy, decide_false, tupA]
          exact fin_pure rfl
    · simp only [g28_b0, len_row ha, bindO_some, asI_i, forceB_eq, ltI_eq]
      simp
    · intro i hi
      obtain ⟨p, h1, h2, h3⟩ := at_row (m := ⟨h, h.length, h.length⟩) rfl ha hi
      obtain ⟨p', h1', h2', h3'⟩ := at_row (m := ⟨h, h.length, h.length⟩) rfl hb (by omega : i < y.length)
      have e : decide ((i : Int) < (x.length : Int)) = true := by simp; omega
      simp only [g28_b0, len_row ha, bindO_some, asI_i, forceB_eq, ltI_eq, e, cond_true, h1, h3, h1', h3', eqI_eq]
      by_cases hc : x.getD i 0 = y.getD i 0
      · simp only [hc, beq_self_eq_true, Bool.not_true, cond_false, forceI_eq, if_true]
        rw [wr_id' (by omega) (by omega)]
      · have e2 : (x.getD i 0 == y.getD i 0) = false := by simpa using hc
        simp only [hc, e2, Bool.not_false, cond_true, if_false]
  · have e : ((x.length : Int) == (y.length : Int)) = false := by simp; omega
    have hxy : ¬ (x = y) := fun e => hl (by rw [e])
    simp only [e, Bool.not_false, cond_true, hxy, decide_false, tupA]
    exact fin_pure rfl

/-- what a search with a test finds -/
theorem first_all {P : Nat → Prop} [DecidablePred P] {k : Nat} : firstS (fun i => if P i then none else some false) k 0 = if (∀ i, i < k → P i) then none else some false := by
  by_cases h : ∀ i, i < k → P i
  · rw [if_pos h]
    exact firstS_none.2 fun j _ h2 => by rw [if_pos (h j (by omega))]
  · rw [if_neg h]
    cases hf : firstS (fun i => if P i then none else some false) k 0 with
    | none =>
      refine absurd (fun i hi => ?_) h
      have := firstS_none.1 hf i (by omega) (by omega)
      simpa using this
    | some r =>
      obtain ⟨j, -, -, h3, -⟩ := firstS_some hf
      by_cases hc : P j
      · rw [if_pos hc] at h3; cases h3
      · rw [if_neg hc] at h3; exact h3.symm

/-- the same beds -/
theorem beds_ok {ro : List ABlk} {h : Heap} {a b : AVal} {x y : List (List Int)} (ha : IsMat ro h a x) (hb : IsMat ro h b y) (hx : x.length ≤ 1000000) (hz : ∀ i, i < x.length → (x.getD i []).length ≤ 1000000) :
    callX F1 ro 21 [a, b] h = some (.b (decide (x = y)), h, h.length, h.length) := by
  refine g21_ok (meansX_ok F1 ro) rfl ?_
  unfold g21
  simp only [len_mat ha, len_mat hb, bindO_some, asI_i, forceB_eq, eqI_eq, meansX_loop]
  by_cases hl : x.length = y.length
  · have e : ((x.length : Int) == (y.length : Int)) = true := by simp [hl]
    simp only [e, Bool.not_true, cond_false]
    have hloop := loop_first (b := fun s => g21_b0 (meansX F1 ro) ro a b ⟨h, h.length, h.length⟩ s) x.length (fun i => if x.getD i [] = y.getD i [] then none else some false) ?_ ?_ x.length 0 (by omega)
    · have e0 : ((0 : Nat) : Int) = 0 := rfl
      rw [e0] at hloop
      rw [hloop, first_all]
      by_cases hxy : x = y
      · rw [if_pos (fun i _ => by rw [hxy])]
        simp only [outS, bindO_some, hxy, decide_true, tupA]
        exact fin_pure rfl
      · rw [if_neg (fun hall => hxy (List.ext_getElem hl fun i h1 h2 => by have := hall i h1; simpa [List.getD, h1, h2] using this))]
        simp only [outS, bindO_some, hxy, decide_false, tupA]
        exact fin_pure rfl
    · simp only [g21_b0, len_mat ha, bindO_some, asI_i, forceB_eq, ltI_eq]
      simp
    · intro i hi
      obtain ⟨p, u, h1, h2, h3, h4⟩ := at_mat (m := ⟨h, h.length, h.length⟩) rfl ha hi
      obtain ⟨p', u', h1', h2', h3', h4'⟩ := at_mat (m := ⟨h, h.length, h.length⟩) rfl hb (by omega : i < y.length)
      have e : decide ((i : Int) < (x.length : Int)) = true := by simp; omega
      have hcall : callN (callX F1 ro) h 28 [u, u'] = some (.b (decide (x.getD i [] = y.getD i []))) := by
        have hbel : bels h.length [u, u'] = true := by
          have one : ∀ {w z}, IsRow ro h w z → w.bel h.length = true := fun {w z} hw => by
            rcases hw with ⟨rfl, -⟩ | ⟨q, cap, blk, rfl, hb, -⟩
            · rfl
            · simpa [AVal.bel] using rdB_lt hb
          simp [bels, one h4, one h4']
        simp only [callN, hbel, cond_true, same_ok h4 h4' (hz i hi)]
        have hble : Nat.ble h.length h.length = true := by rw [Nat.ble_eq]; exact Nat.le_refl _
        simp only [AVal.bel, hble, Bool.and_self, cond_true]
      simp only [g21_b0, len_mat ha, bindO_some, asI_i, forceB_eq, ltI_eq, e, cond_true, h1, h3, h1', h3', meansX_call, hcall, asB_b]
      by_cases hc : x.getD i [] = y.getD i []
      · simp only [hc, decide_true, Bool.not_true, cond_false, forceI_eq, if_true]
        rw [wr_id' (by omega) (by omega)]
      · simp only [hc, decide_false, Bool.not_false, cond_true, if_false]
  · have e : ((x.length : Int) == (y.length : Int)) = false := by simp; omega
    have hxy : ¬ (x = y) := fun e => hl (by rw [e])
    simp only [e, Bool.not_false, cond_true, hxy, decide_false, tupA]
    exact fin_pure rfl

def few (rows : List (List Int)) : Prop := ∀ i, i < rows.length → i < 20 ∧ (rows.getD i []).length ≤ 20
theorem few.len {rows : List (List Int)} (h : few rows) : rows.length ≤ 20 := by
  by_cases h1 : rows.length = 0
  · omega
  · have := (h (rows.length - 1) (by omega)).1
    omega
instance (rows : List (List Int)) : Decidable (few rows) := inferInstanceAs (Decidable (∀ i, i < rows.length → i < 20 ∧ (rows.getD i []).length ≤ 20))

theorem few_ok {ro : List ABlk} {h : Heap} {a : AVal} {x : List (List Int)} (ha : IsMat ro h a x) (hx : Fits x) : callX F1 ro 16 [a] h = some (.b (decide (few x)), h, h.length, h.length) := by
  refine g16_ok (meansX_ok F1 ro) rfl ?_
  unfold g16
  simp only [meansX_loop]
  have hloop := loop_first (b := fun s => g16_b0 (meansX F1 ro) ro a ⟨h, h.length, h.length⟩ s) x.length (fun i => if (i < 20 ∧ (x.getD i []).length ≤ 20) then none else some false) ?_ ?_ x.length 0 (by omega)
  · have e0 : ((0 : Nat) : Int) = 0 := rfl
    rw [e0] at hloop
    rw [hloop, first_all]
    by_cases hf : few x
    · rw [if_pos (show ∀ i, i < x.length → i < 20 ∧ (x.getD i []).length ≤ 20 from hf)]
      simp only [outS, bindO_some, hf, decide_true, tupA]
      exact fin_pure rfl
    · rw [if_neg (show ¬ ∀ i, i < x.length → i < 20 ∧ (x.getD i []).length ≤ 20 from hf)]
      simp only [outS, bindO_some, hf, decide_false, tupA]
      exact fin_pure rfl
  · simp only [g16_b0, len_mat ha, bindO_some, asI_i, forceB_eq, ltI_eq]
    simp
  · intro i hi
    obtain ⟨p, u, h1, h2, h3, h4⟩ := at_mat (m := ⟨h, h.length, h.length⟩) rfl ha hi
    have e : decide ((i : Int) < (x.length : Int)) = true := by simp; omega
    have := hx.1
    simp only [g16_b0, len_mat ha, bindO_some, asI_i, forceB_eq, ltI_eq, e, cond_true]
    by_cases h20 : i < 20
    · have e2 : decide ((i : Int) < 20) = true := by simp; omega
      simp only [e2, Bool.not_true, cond_false, h1, h2, bindO_some, len_row h4, asI_i]
      by_cases hlen : (x.getD i []).length ≤ 20
      · have e3 : decide ((20 : Int) < ((x.getD i []).length : Int)) = false := by simp only [decide_eq_false_iff_not]; omega
        simp only [e3, cond_false, h20, hlen, and_self, if_true, forceI_eq]
        rw [wr_id' (by omega) (by omega)]
      · have e3 : decide ((20 : Int) < ((x.getD i []).length : Int)) = true := by simp only [decide_eq_true_eq]; omega
        simp only [e3, cond_true, hlen, and_false, if_false]
    · have e2 : decide ((i : Int) < 20) = false := by simp; omega
      simp only [e2, Bool.not_false, cond_true, bindO_some, h20, false_and, if_false]

/-- the shape of a bed: as many rows as crops, each as long, of numbers from -1 on that are less than the size -/
def shapedP (x : List (List Int)) : Prop := 1 ≤ x.length ∧ x.length ≤ 7 ∧ ∀ r, r < x.length → (x.getD r []).length = x.length ∧ ∀ c, c < x.length → -1 ≤ (x.getD r []).getD c 0 ∧ (x.getD r []).getD c 0 < x.length
instance (x : List (List Int)) : Decidable (shapedP x) := inferInstanceAs (Decidable (1 ≤ x.length ∧ x.length ≤ 7 ∧ ∀ r, r < x.length → (x.getD r []).length = x.length ∧ ∀ c, c < x.length → -1 ≤ (x.getD r []).getD c 0 ∧ (x.getD r []).getD c 0 < x.length))

theorem shaped_ok {ro : List ABlk} {h : Heap} {a : AVal} {x : List (List Int)} (ha : IsMat ro h a x) : callX F1 ro 51 [a] h = some (.b (decide (shapedP x)), h, h.length, h.length) := by
  refine g51_ok (meansX_ok F1 ro) rfl ?_
  unfold g51
  simp only [len_mat ha, bindO_some, asI_i, forceB_eq, ltI_eq, meansX_loop]
  by_cases h1 : x.length < 1
  · have e : decide ((x.length : Int) < 1) = true := by simp only [decide_eq_true_eq]; omega
    have hs : ¬ shapedP x := fun hs => by have := hs.1; omega
    simp only [e, cond_true, bindO_some, hs, decide_false, tupA]
    exact fin_pure rfl
  have e : decide ((x.length : Int) < 1) = false := by simp only [decide_eq_false_iff_not]; omega
  simp only [e, cond_false, bindO_some]
  by_cases h7 : 7 < x.length
  · have e : decide ((7 : Int) < x.length) = true := by simp only [decide_eq_true_eq]; omega
    have hs : ¬ shapedP x := fun hs => by have := hs.2.1; omega
    simp only [e, cond_true, hs, decide_false, tupA]
    exact fin_pure rfl
  have e : decide ((7 : Int) < x.length) = false := by simp only [decide_eq_false_iff_not]; omega
  simp only [e, cond_false]
  have hloop := loop_first (b := fun s => g51_b1 (meansX F1 ro) ro x.length a x.length ⟨h, h.length, h.length⟩ s) x.length
    (fun r => if ((x.getD r []).length = x.length ∧ ∀ c, c < x.length → -1 ≤ (x.getD r []).getD c 0 ∧ (x.getD r []).getD c 0 < x.length) then none else some false) ?_ ?_ x.length 0 (by omega)
  · have e0 : ((0 : Nat) : Int) = 0 := rfl
    rw [e0] at hloop
    rw [hloop, first_all]
    by_cases hs : shapedP x
    · rw [if_pos hs.2.2]
      simp only [outS, bindO_some, hs, decide_true, tupA]
      exact fin_pure rfl
    · rw [if_neg (fun hh => hs ⟨by omega, by omega, hh⟩)]
      simp only [outS, bindO_some, hs, decide_false, tupA]
      exact fin_pure rfl
  · simp only [g51_b1, forceB_eq, ltI_eq]
    simp
  · intro r hr
    obtain ⟨p, u, k1, k2, k3, k4⟩ := at_mat (m := ⟨h, h.length, h.length⟩) rfl ha hr
    have e : decide ((r : Int) < (x.length : Int)) = true := by simp; omega
    simp only [g51_b1, bindO_some, asI_i, forceB_eq, ltI_eq, eqI_eq, e, cond_true, k1, k2, len_row k4, meansX_loop]
    by_cases hlen : (x.getD r []).length = x.length
    · have e3 : (((x.getD r []).length : Int) == (x.length : Int)) = true := by simp [-List.getD_eq_getElem?_getD, hlen]
      simp only [hlen, beq_self_eq_true, Bool.not_true, cond_false, true_and]
      have hloop2 := loop_first (b := fun s => g51_b2 (meansX F1 ro) ro x.length a x.length r u x.length ⟨h, h.length, h.length⟩ s) x.length
        (fun c => if (-1 ≤ (x.getD r []).getD c 0 ∧ (x.getD r []).getD c 0 < x.length) then none else some false) ?_ ?_ x.length 0 (by omega)
      · have e0 : ((0 : Nat) : Int) = 0 := rfl
        rw [e0] at hloop2
        rw [hloop2, first_all]
        by_cases hall : ∀ c, c < x.length → -1 ≤ (x.getD r []).getD c 0 ∧ (x.getD r []).getD c 0 < x.length
        · simp only [if_pos hall, outS, bindO_some, forceI_eq]
          rw [wr_id' (by omega) (by omega)]
        · simp only [if_neg hall, outS, bindO_some]
      · simp only [g51_b2, forceB_eq, ltI_eq]
        simp
      · intro c hc
        obtain ⟨p', l1, l2, l3⟩ := at_row (m := ⟨h, h.length, h.length⟩) rfl k4 (by rw [hlen]; exact hc : c < (x.getD r []).length)
        have e : decide ((c : Int) < (x.length : Int)) = true := by simp; omega
        simp only [g51_b2, bindO_some, asI_i, forceB_eq, ltI_eq, e, cond_true, l1, l2]
        by_cases q1 : (x.getD r []).getD c 0 < -1
        · have q2 : ¬ (-1 ≤ (x.getD r []).getD c 0 ∧ (x.getD r []).getD c 0 < x.length) := by omega
          simp only [q1, q2, decide_true, cond_true, bindO_some, if_false]
        · simp only [q1, decide_false, cond_false, bindO_some]
          by_cases q3 : (x.getD r []).getD c 0 < (x.length : Int)
          · have q2 : (-1 ≤ (x.getD r []).getD c 0 ∧ (x.getD r []).getD c 0 < x.length) := by omega
            simp only [q2, q3, decide_true, Bool.not_true, cond_false, and_self, if_true, forceI_eq]
            rw [wr_id' (by omega) (by omega)]
          · have q2 : ¬ (-1 ≤ (x.getD r []).getD c 0 ∧ (x.getD r []).getD c 0 < x.length) := by omega
            rw [if_neg q2]
            simp only [q3, decide_false, Bool.not_false, cond_true]
    · have e3 : (((x.getD r []).length : Int) == (x.length : Int)) = false := by simp only [beq_eq_false_iff_ne, ne_eq]; omega
      simp only [e3, Bool.not_false, cond_true, hlen, false_and, if_false]
end Go.Proofs.Ytllmlonngnhbfaa.Bed

/- The small machine's values and memory against the model's: the relation, and what keeps it. -/
import Derived.Test.YtageakoepjkkbaaVmA
import Derived.Laws.Cells
namespace Go.Vm
open Go.RowKit

/- stores by number -/
theorem getG_e (d i : Nat) : Tr.getG d i .e = und := by cases d <;> rfl

theorem half_eq (i : Nat) : Nat.shiftRight i 1 = i / 2 := by
  show i >>> 1 = i / 2
  rw [Nat.shiftRight_eq_div_pow]

theorem low_eq (i : Nat) : Nat.beq (Nat.land i 1) 0 = decide (i % 2 = 0) := by
  have h : Nat.land i 1 = i % 2 := Nat.and_one_is_mod i
  rw [h, Bool.eq_iff_iff, Nat.beq_eq]
  simp

theorem getG_setG (v : AVal) : ∀ (d i d' j : Nat) (t : Tr), i < d → j < d' →
    Tr.getG d' j (Tr.setG v d i t) = if i = j then v else Tr.getG d' j t
  | 0, _, _, _, _, h, _ => absurd h (Nat.not_lt_zero _)
  | _, _, 0, _, _, _, h => absurd h (Nat.not_lt_zero _)
  | d + 1, 0, d' + 1, 0, t, _, _ => by cases t <;> rfl
  | d + 1, 0, d' + 1, j + 1, t, _, _ => by
    cases t with
    | e => simp [Tr.setG, Tr.getG, getG_e]
    | n l w r => simp [Tr.setG, Tr.getG]
  | d + 1, i + 1, d' + 1, 0, t, _, _ => by
    cases t with
    | e => simp only [Tr.setG]; generalize Nat.beq (Nat.land i 1) 0 = c; cases c <;> simp [Tr.getG]
    | n l w r => simp only [Tr.setG]; generalize Nat.beq (Nat.land i 1) 0 = c; cases c <;> simp [Tr.getG]
  | d + 1, i + 1, d' + 1, j + 1, t, hi, hj => by
    have ih := fun t => getG_setG v d (Nat.shiftRight i 1) d' (Nat.shiftRight j 1) t (by rw [half_eq]; omega) (by rw [half_eq]; omega)
    have e : (i + 1 = j + 1) ↔ (i % 2 = j % 2 ∧ Nat.shiftRight i 1 = Nat.shiftRight j 1) := by
      rw [half_eq, half_eq]; omega
    have hlo := low_eq i
    have hlj := low_eq j
    cases t with
    | e =>
      simp only [Tr.setG, Tr.getG, hlo, hlj]
      by_cases h1 : i % 2 = 0 <;> by_cases h2 : j % 2 = 0 <;> simp only [h1, h2, decide_true, decide_false, cond_true, cond_false, ih, getG_e, e, true_and]
      · have : ¬ (0 = j % 2) := by omega
        simp [this]
      · simp
      · have : i % 2 = j % 2 := by omega
        simp [this]
    | n l w r =>
      simp only [Tr.setG, Tr.getG, hlo, hlj]
      by_cases h1 : i % 2 = 0 <;> by_cases h2 : j % 2 = 0 <;> simp only [h1, h2, decide_true, decide_false, cond_true, cond_false, ih, e, true_and]
      · have : ¬ (0 = j % 2) := by omega
        simp [this]
      · simp
      · have : i % 2 = j % 2 := by omega
        simp [this]

theorem get_set (t : Tr) (i j : Nat) (v : AVal) : (t.set i v).get j = if i = j then v else t.get j :=
  getG_setG v (i + 1) i (j + 1) j t (by omega) (by omega)

@[simp] theorem get_set_same (t : Tr) (i : Nat) (v : AVal) : (t.set i v).get i = v := by simp [get_set]
theorem get_set_ne (t : Tr) {i j : Nat} (v : AVal) (h : i ≠ j) : (t.set i v).get j = t.get j := by simp [get_set, h]
theorem get_e (i : Nat) : Tr.get .e i = und := getG_e _ _

theorem get_mkFrom : ∀ (l : List AVal) (i j : Nat) (t : Tr), (Tr.mkFrom i t l).get j = if i ≤ j ∧ j < i + l.length then l.getD (j - i) und else t.get j
  | [], i, j, t => by
    rw [if_neg (by simp)]; rfl
  | v :: l, i, j, t => by
    rw [Tr.mkFrom, get_mkFrom l (i + 1) j]
    by_cases h : i = j
    · subst h
      have : ¬ (i + 1 ≤ i ∧ i < i + 1 + l.length) := by omega
      simp [this]
    · by_cases h2 : i + 1 ≤ j ∧ j < i + 1 + l.length
      · rw [if_pos h2, if_pos (by simp; omega)]
        have : j - i = (j - (i + 1)) + 1 := by omega
        rw [this]; simp
      · rw [if_neg h2, if_neg (by simp; omega), get_set_ne _ _ h]

theorem get_mk (l : List AVal) (j : Nat) : (Tr.mk l).get j = l.getD j und := by
  rw [Tr.mk, get_mkFrom]
  by_cases h : j < l.length
  · simp [h]
  · simp [h, get_e]

theorem length_row (t : Tr) : ∀ (n i : Nat), (t.row i n).length = n
  | 0, _ => rfl
  | n + 1, i => by simp [Tr.row, length_row t n]

theorem getElem?_row (t : Tr) : ∀ (n i j : Nat), (t.row i n)[j]? = if j < n then some (t.get (i + j)) else none
  | 0, _, _ => by simp [Tr.row]
  | n + 1, i, 0 => by simp [Tr.row]
  | n + 1, i, j + 1 => by
    simp only [Tr.row, List.getElem?_cons_succ, getElem?_row t n (i + 1) j]
    have : i + 1 + j = i + (j + 1) := by omega
    by_cases h : j < n <;> simp [h, this]

theorem get_splice : ∀ (l : List AVal) (t : Tr) (i j : Nat), (t.splice i l).get j = if i ≤ j ∧ j < i + l.length then l.getD (j - i) und else t.get j
  | [], t, i, j => by
    rw [if_neg (by simp)]; rfl
  | v :: l, t, i, j => by
    rw [Tr.splice, get_splice l _ (i + 1) j]
    by_cases h : i = j
    · subst h
      have : ¬ (i + 1 ≤ i ∧ i < i + 1 + l.length) := by omega
      simp [this]
    · by_cases h2 : i + 1 ≤ j ∧ j < i + 1 + l.length
      · rw [if_pos h2, if_pos (by simp; omega)]
        have : j - i = (j - (i + 1)) + 1 := by omega
        rw [this]; simp
      · rw [if_neg h2, if_neg (by simp; omega), get_set_ne _ _ h]

theorem lget_eq {α : Type} : ∀ (l : List α) (i : Nat), lget l i = l[i]?
  | [], _ => by simp [lget]
  | x :: l, 0 => by simp [lget]
  | x :: l, i + 1 => by simp [lget, lget_eq l i]

theorem lset_eq {α : Type} (v : α) : ∀ (l : List α) (i : Nat), lset v l i = l.set i v
  | [], _ => by simp [lset]
  | x :: l, 0 => by simp [lset]
  | x :: l, i + 1 => by simp [lset, lset_eq v l i]

theorem forceI_eq {α : Type} (n : Int) (f : Int → α) : forceI n f = f n := by
  unfold forceI; split <;> rfl

theorem mkI_eq (k : IntKind) (n : Int) : mkI k n = .i k n := forceI_eq n _

theorem wrap_i64_in (n : Int) (h0 : -9223372036854775808 ≤ n) (h1 : n ≤ 9223372036854775807) : IntKind.i64.wrap n = n := by
  rw [IntKind.wrap_i64]; omega

theorem wrap_u8_in (n : Int) (h0 : 0 ≤ n) (h1 : n ≤ 255) : IntKind.u8.wrap n = n := by
  have e : ((2 : Int) ^ IntKind.u8.bits) = 256 := by decide
  unfold IntKind.wrap
  rw [e]
  simp only [IntKind.signed, Bool.false_and, Bool.false_eq_true, if_false]
  omega

theorem cond_sel (c : Bool) (a b : Int) (h : c = true → b = a) : cond c a b = b := by
  cases c
  · rfl
  · exact (h rfl).symm

theorem wr_i64_pos (m : Nat) (h : Nat.ble m 9223372036854775807 = true) : IntKind.i64.wrap (.ofNat m) = .ofNat m := by
  have h := Nat.le_of_ble_eq_true h
  refine wrap_i64_in _ ?_ ?_
  · exact Int.le_trans (by decide) (Int.natCast_nonneg m)
  · exact Int.ofNat_le.2 h

theorem wr_i64_neg (m : Nat) (h : Nat.ble m 9223372036854775807 = true) : IntKind.i64.wrap (.negSucc m) = .negSucc m := by
  have h := Nat.le_of_ble_eq_true h
  have e := Int.negSucc_eq m
  have h' : (m : Int) ≤ 9223372036854775807 := Int.ofNat_le.2 h
  refine wrap_i64_in _ ?_ ?_
  · rw [e]; omega
  · rw [e]; omega

theorem wr_i64 (n : Int) : wr .i64 n = IntKind.i64.wrap n := by
  cases n with
  | ofNat m => exact cond_sel _ _ _ (wr_i64_pos m)
  | negSucc m => exact cond_sel _ _ _ (wr_i64_neg m)

theorem wr_u8 (n : Int) : wr .u8 n = IntKind.u8.wrap n := by
  cases n with
  | ofNat m => exact cond_sel _ _ _ fun h => wrap_u8_in _ (Int.natCast_nonneg m) (Int.ofNat_le.2 (Nat.le_of_ble_eq_true h))
  | negSucc m => rfl

theorem wr_eq (k : IntKind) (n : Int) : wr k n = k.wrap n := by
  cases k
  case i64 => exact wr_i64 n
  case u8 => exact wr_u8 n
  all_goals rfl

theorem ltI_eq (x y : Int) : ltI x y = decide (x < y) := by
  cases x <;> cases y <;> simp only [ltI] <;> rw [Bool.eq_iff_iff] <;> simp [Nat.blt_eq] <;> omega

theorem eqI_eq (x y : Int) : eqI x y = (x == y) := by
  rw [Bool.eq_iff_iff, beq_iff_eq]
  cases x <;> cases y <;> simp only [eqI, Nat.beq_eq] <;> simp <;> omega

theorem kEq_iff (k k' : IntKind) : kEq k k' = true ↔ k = k' := by
  cases k <;> cases k' <;> decide

end Go.Vm

/- Rows of plots: what is read, and the errors. -/
import Derived.Test.YtgbkicelkpagpaaVmWl
open Go.Vm
set_option linter.unusedVariables false
namespace Go.Proofs.Ytgbkicelkpagpaa.W
open Go

/- strings -/
theorem e_len (w : List UInt8) : evP .e (.len true (.c (.s w))) = some (.i .i64 (w.length : Nat)) := by simp only [evP, ev_len, opd, cond_true, mkI, forceI_eq]
theorem e_eq (a b : List UInt8) : evP .e (.sbin BinOp.eql (.c (.s a)) (.c (.s b))) = some (.b (eqL a b)) := rfl
theorem e_neq (a b : List UInt8) : evP .e (.sbin BinOp.neq (.c (.s a)) (.c (.s b))) = some (.b (!eqL a b)) := rfl
theorem e_x0 (a b : AVal) : evP .e (.ext 0 (.c (.tup [a, b]))) = some a := rfl
theorem e_x1 (a b : AVal) : evP .e (.ext 1 (.c (.tup [a, b]))) = some b := rfl
theorem asS_s {β : Type} (x : List UInt8) (f : List UInt8 → Option β) : asS (.s x) f = f x := rfl
theorem eqL_self (a : List UInt8) : eqL a a = true := by rw [eqL_eq]; exact beq_self_eq_true a
theorem eqL_nil (a : List UInt8) : eqL a [] = a.isEmpty := by rw [eqL_eq]; cases a <;> rfl
theorem lget_at {α : Type} : ∀ (l : List α) (i : Nat) (d : α), i < l.length → lget l i = some (l.getD i d)
  | a :: l, 0, d, _ => rfl
  | a :: l, i + 1, d, h => by
    have := lget_at l i d (by simpa using h)
    simpa [lget] using this
/-- the letter at a place -/
def ch (s : List UInt8) (i : Nat) : Nat := (s.getD i 0).toNat
theorem ch_lt (s : List UInt8) (i : Nat) : ch s i < 256 := (s.getD i 0).toNat_lt
theorem e_ix {s : List UInt8} {i : Nat} (h : i < s.length) : evP .e (.ixStr (.c (.s s)) (.c (.i .i64 (i : Int)))) = some (.i .u8 (ch s i : Nat)) := by
  show (lget s i).map (fun c => mkI .u8 c.toNat) = _
  rw [lget_at s i 0 h]
  simp only [Option.map_some, mkI, forceI_eq]
  rfl

/-- is it a letter of a row? -/
def bad (s : List UInt8) (i : Nat) : Bool := !Nat.beq (ch s i) 48 && !Nat.beq (ch s i) 49
theorem num_eq (a b : Nat) : ((a : Int) == (b : Int)) = Nat.beq a b := by
  cases hb : Nat.beq a b
  · exact beq_eq_false_iff_ne.2 fun e => by
      have : Nat.beq a b = true := beq_iff.2 (by omega)
      rw [this] at hb; cases hb
  · rw [beq_iff.1 hb]; simp
/-- is there a letter that no row has? -/
def badR (s : List UInt8) : Bool := (List.range s.length).any (bad s)
def rowE (s : List UInt8) (most : Int) : Int := if most < (s.length : Int) then 3 else if s.isEmpty = true then 5 else if badR s = true then 5 else 0
theorem first_any {R : Type} {P : Nat → Bool} {k : Nat} {r : R} : firstS (fun i => cond (P i) (some r) none) k 0 = cond ((List.range k).any P) (some r) none := by
  have h := first_ex (R := R) (P := fun i => P i = true) (k := k) (r := r)
  have e : (fun i => cond (P i) (some r) none) = fun i => if P i = true then some r else none := by funext i; cases P i <;> rfl
  rw [e, h]
  cases hb : (List.range k).any P
  · rw [if_neg]; rfl
    rintro ⟨i, h1, h2⟩
    rw [← Bool.not_eq_true] at hb
    exact hb (List.any_eq_true.2 ⟨i, List.mem_range.2 h1, h2⟩)
  · rw [if_pos]; rfl
    obtain ⟨i, h1, h2⟩ := List.any_eq_true.1 hb
    exact ⟨i, List.mem_range.1 h1, h2⟩

theorem Row_ok {ro : List ABlk} {h : Heap} {s : List UInt8} {most : Int} (hs : s.length ≤ 1000000) : callX F1 ro 43 [.s s, .i .i64 most] h = some (.i .i64 (rowE s most), h, h.length, h.length) := by
  refine g43_ok (meansX_ok F1 ro) rfl ?_
  unfold g43
  simp only [e_len, bindO_some, asI_i, ltI_eq, forceB_eq, eqI_eq]
  unfold rowE
  by_cases h1 : most < (s.length : Int)
  · simp only [decide_eq_true h1, cond_true, if_pos h1, tupA]
    exact fin_pure rfl
  · simp only [decide_eq_false h1, cond_false, if_neg h1]
    have e0 : ((s.length : Int) == 0) = s.isEmpty := by
      cases s
      · rfl
      · simp; omega
    rw [e0]
    cases he : s.isEmpty
    · simp only [cond_false, Bool.false_eq_true, if_false]
      have hl := loop_first (R := Int) (b := fun z => g43_b0 (meansX F1 ro) ro s ⟨h, h.length, h.length⟩ z) s.length (fun i => cond (bad s i) (some 5) none) (by
        have : ¬ ((s.length : Int) < (s.length : Int)) := by omega
        simp only [g43_b0, e_len, bindO_some, asI_i, ltI_eq, forceB_eq, decide_eq_false this, cond_false]) (fun i hi => by
        have hlt : ((i : Int) < (s.length : Int)) := by omega
        have e1 := num_eq (ch s i) 48
        have e2 := num_eq (ch s i) 49
        simp only [g43_b0, e_len, bindO_some, asI_i, ltI_eq, forceB_eq, decide_eq_true hlt, cond_true, e_ix hi, eqI_eq]
        have e1' : (((ch s i : Nat) : Int) == 48) = Nat.beq (ch s i) 48 := e1
        have e2' : (((ch s i : Nat) : Int) == 49) = Nat.beq (ch s i) 49 := e2
        simp only [e1', e2', bad, forceI_eq, wr_next (by omega : i ≤ 1000000)]
        cases Nat.beq (ch s i) 48 <;> cases Nat.beq (ch s i) 49 <;> rfl) s.length 0 (by omega)
      rw [first_any] at hl
      have e00 : ((0 : Nat) : Int) = 0 := rfl
      rw [e00] at hl
      simp only [meansX_loop, hl, bindO_some]
      unfold badR
      cases (List.range s.length).any (bad s)
      · simp only [cond_false, outS, Bool.false_eq_true, if_false, tupA]
        exact fin_pure rfl
      · simp only [cond_true, outS, if_true, tupA]
        exact fin_pure rfl
    · simp only [cond_true, if_true, tupA]
      exact fin_pure rfl

theorem u8_num : ∀ n, n < 256 → wr .u8 (Int.ofNat n) = Int.ofNat n := by decide +kernel
theorem rule_ok {ro : List ABlk} {h : Heap} {n : Nat} (hn : n < 256) : callX F1 ro 61 [.i .i64 n] h = some (.tup [.i .u8 n, .i .i64 0], h, h.length, h.length) := by
  refine g61_ok (meansX_ok F1 ro) rfl ?_
  unfold g61
  have a1 : ¬ ((n : Int) < 0) := by omega
  have a2 : ¬ ((255 : Int) < (n : Int)) := by omega
  have a3 : wr .u8 (n : Int) = (n : Int) := u8_num n hn
  simp only [forceB_eq, ltI_eq, decide_eq_false a1, decide_eq_false a2, cond_false, bindO_some, forceI_eq, a3, tupA]
  exact fin_pure rfl
theorem Rule_ok {ro : List ABlk} {h : Heap} {n : Nat} (hn : n < 256) : callX F1 ro 54 [.i .i64 n] h = some (.b true, h, h.length, h.length) := by
  refine g54_ok (meansX_ok F1 ro) rfl ?_
  unfold g54
  have a1 : ¬ ((n : Int) < 0) := by omega
  have a2 : ¬ ((255 : Int) < (n : Int)) := by omega
  simp only [forceB_eq, ltI_eq, decide_eq_false a1, decide_eq_false a2, Bool.not_false, cond_true, bindO_some, tupA]
  exact fin_pure rfl

/-- the reference's errors of a rule and a row -/
def askE (n : Int) (s : List UInt8) (most : Int) : Int := if n < 0 ∨ 255 < n then 2 else rowE s most
theorem asked_ok {ro : List ABlk} {h : Heap} {n : Int} {s : List UInt8} {most : Int} (hs : s.length ≤ 1000000) : callX F1 ro 47 [.i .i64 n, .s s, .i .i64 most] h = some (.i .i64 (askE n s most), h, h.length, h.length) := by
  refine g47_ok (meansX_ok F1 ro) rfl ?_
  unfold g47
  have c2 := callM_pure (call := callX F1 ro) (l := h.length) (p := h.length) (Row_ok (ro := ro) (h := h) (most := most) hs) (Nat.le_refl _) (Nat.le_refl _)
  unfold askE
  by_cases hn : n < 0 ∨ 255 < n
  · have c1 := callM_pure (call := callX F1 ro) (l := h.length) (p := h.length) (Rule_not (ro := ro) (h := h) hn) (Nat.le_refl _) (Nat.le_refl _)
    simp only [meansX_call, c1, bindP_some, asB_b, forceB_eq, Bool.not_false, cond_true, if_pos hn, tupA]
    exact fin_pure rfl
  · obtain ⟨k, rfl⟩ : ∃ k : Nat, n = (k : Int) := ⟨n.toNat, by omega⟩
    have c1 := callM_pure (call := callX F1 ro) (l := h.length) (p := h.length) (Rule_ok (ro := ro) (h := h) (by omega : k < 256)) (Nat.le_refl _) (Nat.le_refl _)
    simp only [meansX_call, c1, c2, bindP_some, asB_b, asI_i, forceB_eq, Bool.not_true, cond_false, if_neg hn, tupA]
    exact fin_pure rfl

/-- what read answers: the rule, or 0, and the error -/
def rdU (n : Int) (s : List UInt8) : Int := if askE n s 400 = 0 then n else 0
theorem read_ok {ro : List ABlk} {h : Heap} {n : Int} {s : List UInt8} : callX F1 ro 45 [.i .i64 n, .s s] h = some (.tup [.i .u8 (rdU n s), .i .i64 (askE n s 400)], h, h.length, h.length) := by
  refine g45_ok (meansX_ok F1 ro) rfl ?_
  unfold g45
  have z0 : ((0 : Int) == 0) = true := rfl
  have z2 : ((2 : Int) == 0) = false := rfl
  by_cases hn : n < 0 ∨ 255 < n
  · have c1 := callM_pure (call := callX F1 ro) (l := h.length) (p := h.length) (read_not (ro := ro) (h := h) hn) (Nat.le_refl _) (Nat.le_refl _)
    have ha : askE n s 400 = 2 := if_pos hn
    have hu : rdU n s = 0 := if_neg (by rw [ha]; omega)
    simp only [meansX_call, c1, bindP_some, e_x0, e_x1, bindO_some, asI_i, eqI_eq, z2, forceB_eq, Bool.not_false, cond_true, ha, hu, tupA]
    exact fin_pure rfl
  · obtain ⟨k, rfl⟩ : ∃ k : Nat, n = (k : Int) := ⟨n.toNat, by omega⟩
    have c1 := callM_pure (call := callX F1 ro) (l := h.length) (p := h.length) (rule_ok (ro := ro) (h := h) (by omega : k < 256)) (Nat.le_refl _) (Nat.le_refl _)
    have ha : askE k s 400 = rowE s 400 := if_neg hn
    unfold rdU
    rw [ha]
    unfold rowE
    simp only [meansX_call, c1, bindP_some, e_x0, e_x1, bindO_some, asI_i, asB_b, eqI_eq, z0, forceB_eq, Bool.not_true, cond_false, e_len, ltI_eq, e_eq, eqL_nil]
    by_cases h1 : (400 : Int) < (s.length : Int)
    · simp only [decide_eq_true h1, cond_true, if_pos h1, tupA, (by decide : ¬ ((3 : Int) = 0)), if_false]
      exact fin_pure rfl
    · simp only [decide_eq_false h1, cond_false, if_neg h1]
      cases he : s.isEmpty
      · simp only [cond_false, Bool.false_eq_true, if_false]
        have hl := loop_first (R := Int × Int) (b := fun z => g45_b0 (meansX F1 ro) ro s k s.length ⟨h, h.length, h.length⟩ z) s.length (fun i => cond (bad s i) (some (0, 5)) none) (by
          have : ¬ ((s.length : Int) < (s.length : Int)) := by omega
          simp only [g45_b0, bindO_some, ltI_eq, forceB_eq, decide_eq_false this, cond_false]) (fun i hi => by
          have hlt : ((i : Int) < (s.length : Int)) := by omega
          have e1' : (((ch s i : Nat) : Int) == 48) = Nat.beq (ch s i) 48 := num_eq (ch s i) 48
          have e2' : (((ch s i : Nat) : Int) == 49) = Nat.beq (ch s i) 49 := num_eq (ch s i) 49
          simp only [g45_b0, bindO_some, asI_i, ltI_eq, forceB_eq, decide_eq_true hlt, cond_true, e_ix hi, eqI_eq, e1', e2', bad, forceI_eq, wr_next (by omega : i ≤ 1000000)]
          cases Nat.beq (ch s i) 48 <;> cases Nat.beq (ch s i) 49 <;> rfl) s.length 0 (by omega)
        rw [first_any] at hl
        have e00 : ((0 : Nat) : Int) = 0 := rfl
        rw [e00] at hl
        simp only [meansX_loop, hl, bindO_some]
        unfold badR
        cases (List.range s.length).any (bad s)
        · simp only [cond_false, outS, Bool.false_eq_true, if_false, if_true, tupA]
          exact fin_pure rfl
        · simp only [cond_true, outS, if_true, tupA, (by decide : ¬ ((5 : Int) = 0)), if_false]
          exact fin_pure rfl
      · simp only [cond_true, if_true, tupA, (by decide : ¬ ((5 : Int) = 0)), if_false]
        exact fin_pure rfl
end Go.Proofs.Ytgbkicelkpagpaa.W

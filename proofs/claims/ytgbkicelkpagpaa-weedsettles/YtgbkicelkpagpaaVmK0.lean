/- Contracts of the functions: what each of them answers. -/
import Derived.Test.YtgbkicelkpagpaaVmGt
import Derived.Test.YtgbkicelkpagpaaVmAF
import Derived.Test.YtgbkicelkpagpaaVmFO
import Derived.Test.YtgbkicelkpagpaaRows
import Derived.WalkKit
import Derived.ProofKit
import Derived.OpenShut
import Derived.Carry
import Derived.Below
import Derived.Deep.Matrix
import Derived.Test.YtgbkicelkpagpaaVmAG
/- From the statement to the small machine, for numbers as arguments; readings of a rule. -/
open Go.Vm
set_option linter.unusedVariables false
namespace Go.Proofs.Ytgbkicelkpagpaa.W
open Go Go.RowKit Go.Deep Go.WideShapes Go.ChangeShapes

abbrev F1 : Tab := ⟨F, known0 15 (.b true)⟩
theorem own : ownKnob Try.prog.godebug = none := by kernel_rfl
theorem env_ok {W : World} {ro : List ABlk} {rl : Rl} (h : ∀ (i : Nat) (b : ABlk), ro[i]? = some b → ∃ x, rl[i]? = some x ∧ ∀ j, j < b.n → x.block < W.heap.size ∧ ∃ v', W.cell? (x.add j) = some v' ∧ VR rl [] (b.c.get j) v') :
    (Env.mk Try.prog W.heap.size W ro rl).Ok := ⟨fun i b hb => h i b hb, Nat.le_refl _⟩
/-- the call of the model: true, and below nothing has turned -/
theorem call_of (alive : callX ⟨F, noCall⟩ [] 15 [] [] = some (.b true, [], 0, 0)) {W : World} {ro : List ABlk} {rl : Rl} (hE : (Env.mk Try.prog W.heap.size W ro rl).Ok) {K : Nat} {vs : List AVal} {args : Array Value}
    (hv : LR rl [] vs args) {h' : Heap} {lw lp : Nat} (hc : callX F1 ro K vs [] = some (.b true, h', lw, lp)) : Calls Try.prog K args W fun e W' => e = .returned (.bool true) ∧ Below W.heap.size W W' := by
  have hm : (Env.mk Try.prog W.heap.size W ro rl).P.follows .mixedOrders = true := Try.checked.mixed
  have hO : CallOk (Env.mk Try.prog W.heap.size W ro rl) (known0 15 (.b true)) := known0_of hE hm fok alive rfl
  obtain ⟨-, h2⟩ := callX_sound hE hm (F := F1) fok hO K vs [] _ _ _ _ hc
  refine Calls.mono (h2 [] W args ⟨Below.refl _ _, rfl, by simp, fun i b r K hl => by simp [Live] at hl, fun i j b b' r K K' hl => by simp [Live] at hl⟩ hv) fun e w' hq => ?_
  obtain ⟨v', rfl, m', hvr, T⟩ := hq
  exact ⟨by rw [hvr.inv_b], T.hr.below⟩
theorem alive_any {ro : List ABlk} {h : Heap} : callX F1 ro 15 [] h = some (.b true, h, h.length, h.length) := callX_ov (by rfl)

/- a number that is no rule -/
theorem read_not {ro : List ABlk} {h : Heap} {n : Int} (hn : n < 0 ∨ 255 < n) : callX F1 ro 61 [.i .i64 n] h = some (.tup [.i .u8 0, .i .i64 2], h, h.length, h.length) := by
  refine g61_ok (meansX_ok F1 ro) rfl ?_
  unfold g61
  simp only [forceB_eq, ltI_eq]
  by_cases e : n < 0
  · simp only [decide_eq_true e, cond_true, bindO_some, tupA]
    exact fin_pure rfl
  · have e2 : 255 < n := by omega
    simp only [decide_eq_false e, decide_eq_true e2, cond_false, cond_true, bindO_some, tupA]
    exact fin_pure rfl
theorem Rule_not {ro : List ABlk} {h : Heap} {n : Int} (hn : n < 0 ∨ 255 < n) : callX F1 ro 54 [.i .i64 n] h = some (.b false, h, h.length, h.length) := by
  refine g54_ok (meansX_ok F1 ro) rfl ?_
  unfold g54
  simp only [forceB_eq, ltI_eq]
  by_cases e : n < 0
  · simp only [decide_eq_true e, Bool.not_true, cond_false, bindO_some, tupA]
    exact fin_pure rfl
  · have e2 : 255 < n := by omega
    simp only [decide_eq_false e, decide_eq_true e2, Bool.not_false, Bool.not_true, cond_true, bindO_some, tupA]
    exact fin_pure rfl
end Go.Proofs.Ytgbkicelkpagpaa.W

/- The rule's small functions. -/
open Go.Vm
set_option linter.unusedVariables false
namespace Go.Proofs.Ytgbkicelkpagpaa.W
open Go

/-- the bit of a rule -/
def nx (u t : Nat) : Nat := (u >>> t) % 2
theorem nx_le (u t : Nat) : nx u t ≤ 1 := by unfold nx; omega
theorem next_num : ∀ u, u < 256 → ∀ t, t < 8 → bitV .and .i64 (wr .i64 (shrV .u8 (Int.ofNat u) (Int.ofNat t))) 1 = Int.ofNat (nx u t) := by decide +kernel
theorem next_ok {ro : List ABlk} {h : Heap} {u t : Nat} (hu : u < 256) (ht : t < 8) : callX F1 ro 72 [.i .u8 u, .i .i64 t] h = some (.i .i64 (nx u t : Nat), h, h.length, h.length) := by
  refine g72_ok (meansX_ok F1 ro) rfl ?_
  unfold g72
  have e := next_num u hu t ht
  have e' : bitV .and .i64 (wr .i64 (shrV .u8 (u : Int) (t : Int))) 1 = ((nx u t : Nat) : Int) := e
  simp only [ltI_eq, nneg, chk_true, forceI_eq, e', tupA]
  exact fin_pure rfl
/- sixteen bits -/
end Go.Proofs.Ytgbkicelkpagpaa.W

/- Tables: the orphan of each rule, and whether it is one to one; reckoned. -/
open Go.Vm
set_option linter.unusedVariables false
namespace Go.Proofs.Ytgbkicelkpagpaa.W
open Go

end Go.Proofs.Ytgbkicelkpagpaa.W

/- The reference's orphans, reckoned; Eden and Onto. -/
open Go.Vm
set_option linter.unusedVariables false
namespace Go.Proofs.Ytgbkicelkpagpaa.W
open Go

theorem becomes_num : ∀ n, n < 256 → ∀ t, t < 8 → Int.tmod (shrV .i64 (Int.ofNat n) (Int.ofNat t)) 2 = Int.ofNat (nx n t) := by decide +kernel
theorem becomes_ok {ro : List ABlk} {h : Heap} {n l c r : Nat} (hn : n < 256) (hl : l < 2) (hc : c < 2) (hr : r < 2) :
    callX F1 ro 49 [.i .i64 n, .i .i64 l, .i .i64 c, .i .i64 r] h = some (.i .i64 (nx n (4 * l + 2 * c + r) : Nat), h, h.length, h.length) := by
  refine g49_ok (meansX_ok F1 ro) rfl ?_
  unfold g49
  have e1 : wr .i64 (4 * (l : Int)) = 4 * (l : Int) := wr_id' (by omega) (by omega)
  have e2 : wr .i64 (2 * (c : Int)) = 2 * (c : Int) := wr_id' (by omega) (by omega)
  have e3 : wr .i64 (4 * (l : Int) + 2 * (c : Int)) = 4 * (l : Int) + 2 * (c : Int) := wr_id' (by omega) (by omega)
  have e4 : wr .i64 (4 * (l : Int) + 2 * (c : Int) + (r : Int)) = ((4 * l + 2 * c + r : Nat) : Int) := by rw [wr_id' (by omega) (by omega)]; omega
  have e5 : Int.tmod (shrV .i64 (n : Int) ((4 * l + 2 * c + r : Nat) : Int)) 2 = ((nx n (4 * l + 2 * c + r) : Nat) : Int) := becomes_num n hn _ (by omega)
  simp only [forceI_eq, e1, e2, e3, e4, ltI_eq, nneg, chk_true, e5, tupA]
  exact fin_pure rfl

end Go.Proofs.Ytgbkicelkpagpaa.W

/- Rows of plots: what is read, and the errors. -/
open Go.Vm
set_option linter.unusedVariables false
namespace Go.Proofs.Ytgbkicelkpagpaa.W
open Go

/- strings -/
theorem e_len (w : List UInt8) : evP .e (.len true (.c (.s w))) = some (.i .i64 (w.length : Nat)) := by simp only [evP, ev_len, opd, cond_true, mkI, forceI_eq]
theorem e_eq (a b : List UInt8) : evP .e (.sbin BinOp.eql (.c (.s a)) (.c (.s b))) = some (.b (eqL a b)) := rfl
theorem e_x0 (a b : AVal) : evP .e (.ext 0 (.c (.tup [a, b]))) = some a := rfl
theorem e_x1 (a b : AVal) : evP .e (.ext 1 (.c (.tup [a, b]))) = some b := rfl
theorem asS_s {β : Type} (x : List UInt8) (f : List UInt8 → Option β) : asS (.s x) f = f x := rfl
theorem eqL_self (a : List UInt8) : eqL a a = true := by rw [eqL_eq]; exact beq_self_eq_true a
theorem eqL_nil (a : List UInt8) : eqL a [] = a.isEmpty := by rw [eqL_eq]; cases a <;> rfl
theorem lget_at {α : Type} : ∀ (l : List α) (i : Nat) (d : α), i < l.length → lget l i = some (l.getD i d)
  | a :: l, 0, d, _ => rfl
  | a :: l, i + 1, d, h => by
    have := lget_at l i d (by simpa using h)
    simpa [lget] using this
/-- the letter at a place -/
def ch (s : List UInt8) (i : Nat) : Nat := (s.getD i 0).toNat
theorem ch_lt (s : List UInt8) (i : Nat) : ch s i < 256 := (s.getD i 0).toNat_lt
theorem e_ix {s : List UInt8} {i : Nat} (h : i < s.length) : evP .e (.ixStr (.c (.s s)) (.c (.i .i64 (i : Int)))) = some (.i .u8 (ch s i : Nat)) := by
  show (lget s i).map (fun c => mkI .u8 c.toNat) = _
  rw [lget_at s i 0 h]
  simp only [Option.map_some, mkI, forceI_eq]
  rfl

/-- is it a letter of a row? -/
def bad (s : List UInt8) (i : Nat) : Bool := !Nat.beq (ch s i) 48 && !Nat.beq (ch s i) 49
theorem num_eq (a b : Nat) : ((a : Int) == (b : Int)) = Nat.beq a b := by
  cases hb : Nat.beq a b
  · exact beq_eq_false_iff_ne.2 fun e => by
      have : Nat.beq a b = true := beq_iff.2 (by omega)
      rw [this] at hb; cases hb
  · rw [beq_iff.1 hb]; simp
/-- is there a letter that no row has? -/
def badR (s : List UInt8) : Bool := (List.range s.length).any (bad s)
def rowE (s : List UInt8) (most : Int) : Int := if most < (s.length : Int) then 3 else if s.isEmpty = true then 5 else if badR s = true then 5 else 0
theorem first_any {R : Type} {P : Nat → Bool} {k : Nat} {r : R} : firstS (fun i => cond (P i) (some r) none) k 0 = cond ((List.range k).any P) (some r) none := by
  have h := first_ex (R := R) (P := fun i => P i = true) (k := k) (r := r)
  have e : (fun i => cond (P i) (some r) none) = fun i => if P i = true then some r else none := by funext i; cases P i <;> rfl
  rw [e, h]
  cases hb : (List.range k).any P
  · rw [if_neg]; rfl
    rintro ⟨i, h1, h2⟩
    rw [← Bool.not_eq_true] at hb
    exact hb (List.any_eq_true.2 ⟨i, List.mem_range.2 h1, h2⟩)
  · rw [if_pos]; rfl
    obtain ⟨i, h1, h2⟩ := List.any_eq_true.1 hb
    exact ⟨i, List.mem_range.1 h1, h2⟩

theorem Row_ok {ro : List ABlk} {h : Heap} {s : List UInt8} {most : Int} (hs : s.length ≤ 1000000) : callX F1 ro 43 [.s s, .i .i64 most] h = some (.i .i64 (rowE s most), h, h.length, h.length) := by
  refine g43_ok (meansX_ok F1 ro) rfl ?_
  unfold g43
  simp only [e_len, bindO_some, asI_i, ltI_eq, forceB_eq, eqI_eq]
  unfold rowE
  by_cases h1 : most < (s.length : Int)
  · simp only [decide_eq_true h1, cond_true, if_pos h1, tupA]
    exact fin_pure rfl
  · simp only [decide_eq_false h1, cond_false, if_neg h1]
    have e0 : ((s.length : Int) == 0) = s.isEmpty := by
      cases s
      · rfl
      · simp; omega
    rw [e0]
    cases he : s.isEmpty
    · simp only [cond_false, Bool.false_eq_true, if_false]
      have hl := loop_first (R := Int) (b := fun z => g43_b0 (meansX F1 ro) ro s ⟨h, h.length, h.length⟩ z) s.length (fun i => cond (bad s i) (some 5) none) (by
        have : ¬ ((s.length : Int) < (s.length : Int)) := by omega
        simp only [g43_b0, e_len, bindO_some, asI_i, ltI_eq, forceB_eq, decide_eq_false this, cond_false]) (fun i hi => by
        have hlt : ((i : Int) < (s.length : Int)) := by omega
        have e1 := num_eq (ch s i) 48
        have e2 := num_eq (ch s i) 49
        simp only [g43_b0, e_len, bindO_some, asI_i, ltI_eq, forceB_eq, decide_eq_true hlt, cond_true, e_ix hi, eqI_eq]
        have e1' : (((ch s i : Nat) : Int) == 48) = Nat.beq (ch s i) 48 := e1
        have e2' : (((ch s i : Nat) : Int) == 49) = Nat.beq (ch s i) 49 := e2
        simp only [e1', e2', bad, forceI_eq, wr_next (by omega : i ≤ 1000000)]
        cases Nat.beq (ch s i) 48 <;> cases Nat.beq (ch s i) 49 <;> rfl) s.length 0 (by omega)
      rw [first_any] at hl
      have e00 : ((0 : Nat) : Int) = 0 := rfl
      rw [e00] at hl
      simp only [meansX_loop, hl, bindO_some]
      unfold badR
      cases (List.range s.length).any (bad s)
      · simp only [cond_false, outS, Bool.false_eq_true, if_false, tupA]
        exact fin_pure rfl
      · simp only [cond_true, outS, if_true, tupA]
        exact fin_pure rfl
    · simp only [cond_true, if_true, tupA]
      exact fin_pure rfl

theorem u8_num : ∀ n, n < 256 → wr .u8 (Int.ofNat n) = Int.ofNat n := by decide +kernel
theorem rule_ok {ro : List ABlk} {h : Heap} {n : Nat} (hn : n < 256) : callX F1 ro 61 [.i .i64 n] h = some (.tup [.i .u8 n, .i .i64 0], h, h.length, h.length) := by
  refine g61_ok (meansX_ok F1 ro) rfl ?_
  unfold g61
  have a1 : ¬ ((n : Int) < 0) := by omega
  have a2 : ¬ ((255 : Int) < (n : Int)) := by omega
  have a3 : wr .u8 (n : Int) = (n : Int) := u8_num n hn
  simp only [forceB_eq, ltI_eq, decide_eq_false a1, decide_eq_false a2, cond_false, bindO_some, forceI_eq, a3, tupA]
  exact fin_pure rfl
theorem Rule_ok {ro : List ABlk} {h : Heap} {n : Nat} (hn : n < 256) : callX F1 ro 54 [.i .i64 n] h = some (.b true, h, h.length, h.length) := by
  refine g54_ok (meansX_ok F1 ro) rfl ?_
  unfold g54
  have a1 : ¬ ((n : Int) < 0) := by omega
  have a2 : ¬ ((255 : Int) < (n : Int)) := by omega
  simp only [forceB_eq, ltI_eq, decide_eq_false a1, decide_eq_false a2, Bool.not_false, cond_true, bindO_some, tupA]
  exact fin_pure rfl

/-- the reference's errors of a rule and a row -/
def askE (n : Int) (s : List UInt8) (most : Int) : Int := if n < 0 ∨ 255 < n then 2 else rowE s most
theorem asked_ok {ro : List ABlk} {h : Heap} {n : Int} {s : List UInt8} {most : Int} (hs : s.length ≤ 1000000) : callX F1 ro 47 [.i .i64 n, .s s, .i .i64 most] h = some (.i .i64 (askE n s most), h, h.length, h.length) := by
  refine g47_ok (meansX_ok F1 ro) rfl ?_
  unfold g47
  have c2 := callM_pure (call := callX F1 ro) (l := h.length) (p := h.length) (Row_ok (ro := ro) (h := h) (most := most) hs) (Nat.le_refl _) (Nat.le_refl _)
  unfold askE
  by_cases hn : n < 0 ∨ 255 < n
  · have c1 := callM_pure (call := callX F1 ro) (l := h.length) (p := h.length) (Rule_not (ro := ro) (h := h) hn) (Nat.le_refl _) (Nat.le_refl _)
    simp only [meansX_call, c1, bindP_some, asB_b, forceB_eq, Bool.not_false, cond_true, if_pos hn, tupA]
    exact fin_pure rfl
  · obtain ⟨k, rfl⟩ : ∃ k : Nat, n = (k : Int) := ⟨n.toNat, by omega⟩
    have c1 := callM_pure (call := callX F1 ro) (l := h.length) (p := h.length) (Rule_ok (ro := ro) (h := h) (by omega : k < 256)) (Nat.le_refl _) (Nat.le_refl _)
    simp only [meansX_call, c1, c2, bindP_some, asB_b, asI_i, forceB_eq, Bool.not_true, cond_false, if_neg hn, tupA]
    exact fin_pure rfl

/-- what read answers: the rule, or 0, and the error -/
def rdU (n : Int) (s : List UInt8) : Int := if askE n s 400 = 0 then n else 0
theorem read_ok {ro : List ABlk} {h : Heap} {n : Int} {s : List UInt8} : callX F1 ro 45 [.i .i64 n, .s s] h = some (.tup [.i .u8 (rdU n s), .i .i64 (askE n s 400)], h, h.length, h.length) := by
  refine g45_ok (meansX_ok F1 ro) rfl ?_
  unfold g45
  have z0 : ((0 : Int) == 0) = true := rfl
  have z2 : ((2 : Int) == 0) = false := rfl
  by_cases hn : n < 0 ∨ 255 < n
  · have c1 := callM_pure (call := callX F1 ro) (l := h.length) (p := h.length) (read_not (ro := ro) (h := h) hn) (Nat.le_refl _) (Nat.le_refl _)
    have ha : askE n s 400 = 2 := if_pos hn
    have hu : rdU n s = 0 := if_neg (by rw [ha]; omega)
    simp only [meansX_call, c1, bindP_some, e_x0, e_x1, bindO_some, asI_i, eqI_eq, z2, forceB_eq, Bool.not_false, cond_true, ha, hu, tupA]
    exact fin_pure rfl
  · obtain ⟨k, rfl⟩ : ∃ k : Nat, n = (k : Int) := ⟨n.toNat, by omega⟩
    have c1 := callM_pure (call := callX F1 ro) (l := h.length) (p := h.length) (rule_ok (ro := ro) (h := h) (by omega : k < 256)) (Nat.le_refl _) (Nat.le_refl _)
    have ha : askE k s 400 = rowE s 400 := if_neg hn
    unfold rdU
    rw [ha]
    unfold rowE
    simp only [meansX_call, c1, bindP_some, e_x0, e_x1, bindO_some, asI_i, asB_b, eqI_eq, z0, forceB_eq, Bool.not_true, cond_false, e_len, ltI_eq, e_eq, eqL_nil]
    by_cases h1 : (400 : Int) < (s.length : Int)
    · simp only [decide_eq_true h1, cond_true, if_pos h1, tupA, (by decide : ¬ ((3 : Int) = 0)), if_false]
      exact fin_pure rfl
    · simp only [decide_eq_false h1, cond_false, if_neg h1]
      cases he : s.isEmpty
      · simp only [cond_false, Bool.false_eq_true, if_false]
        have hl := loop_first (R := Int × Int) (b := fun z => g45_b0 (meansX F1 ro) ro s k s.length ⟨h, h.length, h.length⟩ z) s.length (fun i => cond (bad s i) (some (0, 5)) none) (by
          have : ¬ ((s.length : Int) < (s.length : Int)) := by omega
          simp only [g45_b0, bindO_some, ltI_eq, forceB_eq, decide_eq_false this, cond_false]) (fun i hi => by
          have hlt : ((i : Int) < (s.length : Int)) := by omega
          have e1' : (((ch s i : Nat) : Int) == 48) = Nat.beq (ch s i) 48 := num_eq (ch s i) 48
          have e2' : (((ch s i : Nat) : Int) == 49) = Nat.beq (ch s i) 49 := num_eq (ch s i) 49
          simp only [g45_b0, bindO_some, asI_i, ltI_eq, forceB_eq, decide_eq_true hlt, cond_true, e_ix hi, eqI_eq, e1', e2', bad, forceI_eq, wr_next (by omega : i ≤ 1000000)]
          cases Nat.beq (ch s i) 48 <;> cases Nat.beq (ch s i) 49 <;> rfl) s.length 0 (by omega)
        rw [first_any] at hl
        have e00 : ((0 : Nat) : Int) = 0 := rfl
        rw [e00] at hl
        simp only [meansX_loop, hl, bindO_some]
        unfold badR
        cases (List.range s.length).any (bad s)
        · simp only [cond_false, outS, Bool.false_eq_true, if_false, if_true, tupA]
          exact fin_pure rfl
        · simp only [cond_true, outS, if_true, tupA, (by decide : ¬ ((5 : Int) = 0)), if_false]
          exact fin_pure rfl
      · simp only [cond_true, if_true, tupA, (by decide : ¬ ((5 : Int) = 0)), if_false]
        exact fin_pure rfl
end Go.Proofs.Ytgbkicelkpagpaa.W

/- Walks and Ways. -/
open Go.Vm
set_option linter.unusedVariables false
namespace Go.Proofs.Ytgbkicelkpagpaa.W
open Go

/- four numbers in memory -/
/- the letter as a number -/
def bw (s : List UInt8) (i : Nat) : Nat := ch s i - 48
theorem bit_num : ∀ c, c < 256 → 48 ≤ c → wr .i64 (wr .u8 (Int.ofNat c - 48)) = Int.ofNat (c - 48) := by decide +kernel
theorem bit_ok {ro : List ABlk} {h : Heap} {c : Nat} (hc : c < 256) (h48 : 48 ≤ c) : callX F1 ro 73 [.i .u8 c] h = some (.i .i64 (c - 48 : Nat), h, h.length, h.length) := by
  refine g73_ok (meansX_ok F1 ro) rfl ?_
  unfold g73
  have e : wr .i64 (wr .u8 ((c : Int) - 48)) = ((c - 48 : Nat) : Int) := bit_num c hc h48
  simp only [forceI_eq, e, tupA]
  exact fin_pure rfl

/- one letter more: how many walks end in each pair -/
def okR (s : List UInt8) : Prop := ∀ i, i < s.length → ch s i = 48 ∨ ch s i = 49
end Go.Proofs.Ytgbkicelkpagpaa.W

/- Walks, Ways: what they answer. -/
open Go.Vm
set_option linter.unusedVariables false
namespace Go.Proofs.Ytgbkicelkpagpaa.W
open Go

/- the errors of a row whose ways are counted -/
/-- a row without errors is one -/
theorem okR_of {n : Int} {s : List UInt8} {most : Int} (h : askE n s most = 0) : 0 ≤ n ∧ n ≤ 255 ∧ s.length ≤ most ∧ 0 < s.length ∧ okR s := by
  unfold askE at h
  by_cases hn : n < 0 ∨ 255 < n
  · rw [if_pos hn] at h; cases h
  · rw [if_neg hn] at h
    unfold rowE at h
    by_cases h1 : most < (s.length : Int)
    · rw [if_pos h1] at h; cases h
    · rw [if_neg h1] at h
      cases he : s.isEmpty with
      | true => rw [he, if_pos rfl] at h; cases h
      | false =>
        rw [he, if_neg (by decide)] at h
        cases hb : badR s with
        | true => rw [hb, if_pos rfl] at h; cases h
        | false =>
          refine ⟨by omega, by omega, by omega, ?_, fun i hi => ?_⟩
          · cases s with
            | nil => cases he
            | cons a l => simp
          · have := List.any_eq_false.1 hb i (List.mem_range.2 hi)
            unfold bad at this
            cases e1 : Nat.beq (ch s i) 48
            · cases e2 : Nat.beq (ch s i) 49
              · rw [e1, e2] at this; exact absurd rfl this
              · exact .inr (beq_iff.1 e2)
            · exact .inl (beq_iff.1 e1)

end Go.Proofs.Ytgbkicelkpagpaa.W

/- Ways of onto rules, and of the others: tables. -/
open Go.Vm
set_option linter.unusedVariables false
namespace Go.Proofs.Ytgbkicelkpagpaa.W
open Go

/- onto rules: the counts that come -/
/- the others: a row with more -/
end Go.Proofs.Ytgbkicelkpagpaa.W

/- Rows by numbers. -/
open Go.Vm
set_option linter.unusedVariables false
namespace Go.Proofs.Ytgbkicelkpagpaa.W
open Go

theorem bytes_row {t : Tr} {g : Nat → Nat} : ∀ (k i : Nat), (∀ j, j < k → t.get (i + j) = .i .u8 (g (i + j) : Nat) ∧ g (i + j) < 256) → bytesA (t.row i k) = some ((List.range' i k).map fun j => UInt8.ofNat (g j))
  | 0, i, _ => rfl
  | k + 1, i, h => by
    have h0 := h 0 (by omega)
    have ih := bytes_row (t := t) (g := g) k (i + 1) (fun j hj => by have := h (j + 1) (by omega); rwa [show i + 1 + j = i + (j + 1) by omega])
    show bytesA (t.get i :: t.row (i + 1) k) = _
    rw [Nat.add_zero] at h0
    rw [h0.1]
    show cond (Nat.blt (g i) 256) ((bytesA (t.row (i + 1) k)).map (UInt8.ofNat (g i) :: ·)) none = _
    rw [show Nat.blt (g i) 256 = true by rw [Nat.blt_eq]; exact h0.2, ih]
    rfl
theorem bts_ok {ro : List ABlk} {hp : Heap} {b k : Nat} {cap : Cap} {g : Nat → Nat} (h : Vec hp 5 b k (fun j => .i .u8 (g j : Nat))) (hg : ∀ j, j < k → g j < 256) {l p : Nat} :
    btsM ro ⟨hp, l, p⟩ (.sl ⟨false, b, 0⟩ k cap) = some (.s ((List.range k).map fun j => UInt8.ofNat (g j))) := by
  obtain ⟨blk, h1, h2, h3, h4⟩ := h
  have hb : Nat.ble (0 + k) blk.n = true := by rw [Nat.ble_eq]; omega
  have hr := bytes_row (t := blk.c) (g := g) k 0 (fun j hj => by rw [Nat.zero_add]; exact ⟨h4 j hj, hg j hj⟩)
  have h1' : lget (Mm.st ⟨hp, l, p⟩ .e).h b = some (some blk) := h1
  simp only [btsM, st_bts, rdB_heap h1', hb, cond_true, hr, Option.map_some, List.range_eq_range']

end Go.Proofs.Ytgbkicelkpagpaa.W

/- Strings that are made byte by byte; grow, ring, Ring. -/
open Go.Vm
set_option linter.unusedVariables false
namespace Go.Proofs.Ytgbkicelkpagpaa.W
open Go

/-- bytes written one by one, and their string -/
theorem bytes_loop {ro : List ABlk} {h : Heap} {n : Nat} {g : Nat → Nat} {b : Int × Mm → Option ((Int × Mm) ⊕ Mm)} (hg : ∀ k, k < n → g k < 256)
    (σ : Nat → Nat) (done : Nat → Nat → Bool) (hσ : ∀ k, k < n → σ k < n) (hd0 : ∀ j, j < n → done 0 j = false) (hdn : ∀ j, j < n → done n j = true) (hds : ∀ k j, k < n → j < n → done (k + 1) j = (done k j || Nat.beq j (σ k)))
    (hin : ∀ k, k < n → ∀ hp' hp'' : Heap, h.length ≤ hp'.length → stepM ro ⟨hp', h.length, h.length⟩ (.st 1 (.c (.p (some ⟨false, h.length, 0 + σ k⟩))) (.c (.i .u8 (g (σ k) : Nat)))) = some (und, ⟨hp'', h.length, h.length⟩) →
      b ((k : Int), ⟨hp', h.length, h.length⟩) = some (.inl (((k + 1 : Nat) : Int), ⟨hp'', h.length, h.length⟩)))
    (hout : ∀ m, b ((n : Int), m) = some (.inr m)) :
    ∃ hq, loopX b (0, ⟨h ++ [some (newBlk 5 (AVal.i IntKind.u8 0) n)], h.length, h.length⟩) = some ⟨hq, h.length, h.length⟩ ∧
      btsM ro ⟨hq, h.length, h.length⟩ (.sl ⟨false, h.length, 0⟩ n (.known n)) = some (.s ((List.range n).map fun j => UInt8.ofNat (g j))) ∧ hq.take h.length = h ∧ h.length ≤ hq.length := by
  have hv := Vec.new h 5 n (AVal.i IntKind.u8 0)
  generalize hB : h ++ [some (newBlk 5 (AVal.i IntKind.u8 0) n)] = H at hv
  have hL : H.length = h.length + 1 := by rw [← hB]; simp
  have hK : ∀ k, k < h.length → H[k]? = h[k]? := fun k hk => by rw [← hB]; exact List.getElem?_append_left hk
  have key := loop_all (b := b) n
    (fun k mm => ∃ hp', mm = ⟨hp', h.length, h.length⟩ ∧ Vec hp' 5 h.length n (fun j => .i .u8 ((cond (done k j) (g j) 0 : Nat) : Int)) ∧ hp'.length = h.length + 1 ∧ ∀ k, k < h.length → hp'[k]? = h[k]?)
    (fun k mm hk hI => by
      obtain ⟨hp', rfl, hv', hl, hkeep⟩ := hI
      obtain ⟨y, s1, s2⟩ := Vec.set (ro := ro) (l := h.length) (p := h.length) hv' (hσ k hk) (v := .i .u8 ((g (σ k) : Nat) : Int)) rfl rfl rfl
      rw [Nat.min_self] at s1
      refine ⟨⟨hp'.set h.length y, h.length, h.length⟩, hin k hk _ _ (by omega) s1, _, rfl, ?_, by rw [List.length_set]; exact hl, fun j hj => by rw [List.getElem?_set_ne (by omega)]; exact hkeep j hj⟩
      refine s2.congr fun r hr => ?_
      show (if r = σ k then _ else _) = _
      rw [hds k r hk hr]
      by_cases e : r = σ k
      · rw [if_pos e, show Nat.beq r (σ k) = true from beq_iff.2 e, Bool.or_true, cond_true, e]
      · have hb : Nat.beq r (σ k) = false := by
          cases hb : Nat.beq r (σ k)
          · rfl
          · exact absurd (beq_iff.1 hb) e
        rw [if_neg e, hb, Bool.or_false])
    (fun mm hI => hout mm)
    n 0 ⟨H, h.length, h.length⟩ (by omega) ⟨H, rfl, hv.congr fun r hr => by rw [hd0 r hr]; rfl, hL, hK⟩
  obtain ⟨m', k1, hq, rfl, k2, k3, k4⟩ := key
  have e0 : ((0 : Nat) : Int) = 0 := rfl
  rw [e0] at k1
  refine ⟨hq, k1, bts_ok (k2.congr (get' := fun j => .i .u8 ((g j : Nat) : Int)) fun r hr => by rw [hdn r hr, cond_true]) hg, ?_, by omega⟩
  apply List.ext_getElem?
  intro j
  rw [List.getElem?_take]
  by_cases hj : j < h.length
  · rw [if_pos hj, k4 j hj]
  · rw [if_neg hj, List.getElem?_eq_none (by omega)]

theorem blt_succ {k j n : Nat} (hk : k < n) (hj : j < n) : Nat.blt j (k + 1) = (Nat.blt j k || Nat.beq j k) := by
  rcases Nat.lt_trichotomy j k with h | h | h
  · rw [show Nat.blt j (k + 1) = true by rw [Nat.blt_eq]; omega, show Nat.blt j k = true by rw [Nat.blt_eq]; exact h]; rfl
  · subst h
    rw [show Nat.blt j (j + 1) = true by rw [Nat.blt_eq]; omega, Nat.beq_refl, Bool.or_true]
  · rw [show Nat.blt j (k + 1) = false by rw [← Bool.not_eq_true, Nat.blt_eq]; omega, show Nat.blt j k = false by rw [← Bool.not_eq_true, Nat.blt_eq]; omega, show Nat.beq j k = false by rw [← Bool.not_eq_true, beq_iff]; omega]; rfl
theorem blt_none (j : Nat) : Nat.blt j 0 = false := by rw [← Bool.not_eq_true, Nat.blt_eq]; omega
theorem blt_all {j n : Nat} (h : j < n) : Nat.blt j n = true := by rw [Nat.blt_eq]; exact h
theorem plot_num : ∀ t, t < 2 → wr .u8 (48 + wr .u8 (Int.ofNat t)) = Int.ofNat (48 + t) := by decide +kernel
theorem plot_ok {ro : List ABlk} {h : Heap} {t : Nat} (ht : t < 2) : callX F1 ro 71 [.i .i64 t] h = some (.i .u8 (48 + t : Nat), h, h.length, h.length) := by
  refine g71_ok (meansX_ok F1 ro) rfl ?_
  unfold g71
  have e : wr .u8 (48 + wr .u8 (t : Int)) = ((48 + t : Nat) : Int) := plot_num t ht
  simp only [forceI_eq, e, tupA]
  exact fin_pure rfl

theorem bw_lt {s : List UInt8} (hs : okR s) {i : Nat} (hi : i < s.length) : bw s i < 2 ∧ 48 ≤ ch s i := by
  unfold bw
  rcases hs i hi with e | e <;> omega
def growV (u : Nat) (s : List UInt8) (k : Nat) : Nat := 48 + nx u (4 * bw s k + 2 * bw s (k + 1) + bw s (k + 2))
def growS (u : Nat) (s : List UInt8) : List UInt8 := (List.range (s.length - 2)).map fun k => UInt8.ofNat (growV u s k)
theorem grow_ok {ro : List ABlk} {h : Heap} {u : Nat} {s : List UInt8} (hu : u < 256) (hs : okR s) (h2 : 2 ≤ s.length) (hl : s.length ≤ 1000) :
    callX F1 ro 46 [.i .u8 u, .s s] h = some (.s (growS u s), h, h.length, h.length) := by
  refine g46_ok (meansX_ok F1 ro) rfl ?_
  unfold g46
  have e9 : wr .i64 ((s.length : Int) - 2) = ((s.length - 2 : Nat) : Int) := by rw [wr_id' (by omega) (by omega)]; omega
  have hmk := mk_ok (ro := ro) (hp := h) (l := h.length) (p := h.length) (e := 5) (es := 1) (bytes := 1) (v := AVal.i IntKind.u8 0) (n := s.length - 2) (by omega) (by omega)
  have hlen : evP .e (.len false (.c (.sl ⟨false, h.length, 0⟩ (s.length - 2) (.known (s.length - 2))))) = some (.i .i64 ((s.length - 2 : Nat) : Int)) := by simp only [evP, ev_len, opd, cond_false, mkI, forceI_eq]
  obtain ⟨hq, k1, k2, k3, k4⟩ := bytes_loop (ro := ro) (h := h) (n := s.length - 2) (g := growV u s)
    (b := fun z => g46_b0 (meansX F1 ro) ro u s (.sl ⟨false, h.length, 0⟩ (s.length - 2) (.known (s.length - 2))) ((s.length - 2 : Nat) : Int) z.1 z.2)
    (fun k hk => by have := nx_le u (4 * bw s k + 2 * bw s (k + 1) + bw s (k + 2)); unfold growV; omega)
    (fun k => k) (fun k j => Nat.blt j k) (fun k hk => hk) (fun j _ => blt_none j) (fun j hj => blt_all hj) (fun k j hk hj => blt_succ hk hj)
    (fun k hk hp' hp'' hL hst => by
      have hlt : ((k : Int) < ((s.length - 2 : Nat) : Int)) := by omega
      have w1 : wr .i64 ((k : Int) + 1) = ((k + 1 : Nat) : Int) := wr_next (by omega)
      have w2 : wr .i64 ((k : Int) + 2) = ((k + 2 : Nat) : Int) := by rw [wr_id' (by omega) (by omega)]; omega
      obtain ⟨b0, a0⟩ := bw_lt hs (by omega : k < s.length)
      obtain ⟨b1, a1⟩ := bw_lt hs (by omega : k + 1 < s.length)
      obtain ⟨b2, a2⟩ := bw_lt hs (by omega : k + 2 < s.length)
      have c0 := callM_pure (call := callX F1 ro) (l := h.length) (p := h.length) (bit_ok (ro := ro) (h := hp') (ch_lt s k) a0) hL hL
      have c1 := callM_pure (call := callX F1 ro) (l := h.length) (p := h.length) (bit_ok (ro := ro) (h := hp') (ch_lt s (k + 1)) a1) hL hL
      have c2 := callM_pure (call := callX F1 ro) (l := h.length) (p := h.length) (bit_ok (ro := ro) (h := hp') (ch_lt s (k + 2)) a2) hL hL
      have m0 : wr .i64 (4 * ((ch s k - 48 : Nat) : Int)) = ((4 * bw s k : Nat) : Int) := by unfold bw at *; rw [wr_id' (by omega) (by omega)]; omega
      have m1 : wr .i64 (2 * ((ch s (k + 1) - 48 : Nat) : Int)) = ((2 * bw s (k + 1) : Nat) : Int) := by unfold bw at *; rw [wr_id' (by omega) (by omega)]; omega
      have m2 : wr .i64 (((4 * bw s k : Nat) : Int) + ((2 * bw s (k + 1) : Nat) : Int)) = ((4 * bw s k + 2 * bw s (k + 1) : Nat) : Int) := by rw [wr_id' (by omega) (by omega)]; omega
      have m3 : wr .i64 (((4 * bw s k + 2 * bw s (k + 1) : Nat) : Int) + ((ch s (k + 2) - 48 : Nat) : Int)) = ((4 * bw s k + 2 * bw s (k + 1) + bw s (k + 2) : Nat) : Int) := by unfold bw at *; rw [wr_id' (by omega) (by omega)]; omega
      have c3 := callM_pure (call := callX F1 ro) (l := h.length) (p := h.length) (next_ok (ro := ro) (h := hp') hu (by omega : 4 * bw s k + 2 * bw s (k + 1) + bw s (k + 2) < 8)) hL hL
      have c4 := callM_pure (call := callX F1 ro) (l := h.length) (p := h.length) (plot_ok (ro := ro) (h := hp') (t := nx u (4 * bw s k + 2 * bw s (k + 1) + bw s (k + 2))) (by have := nx_le u (4 * bw s k + 2 * bw s (k + 1) + bw s (k + 2)); omega)) hL hL
      have ei := ixS_eq (q := ⟨false, h.length, 0⟩) (len := s.length - 2) (cap := .known (s.length - 2)) (i := k) hk
      have hst' : stepM ro ⟨hp', h.length, h.length⟩ (.st 1 (.c (.p (some ⟨false, h.length, 0 + k⟩))) (.c (.i .u8 ((48 + nx u (4 * bw s k + 2 * bw s (k + 1) + bw s (k + 2)) : Nat) : Int)))) = some (und, ⟨hp'', h.length, h.length⟩) := hst
      simp only [g46_b0, forceB_eq, ltI_eq, decide_eq_true hlt, cond_true, e_ix (by omega : k < s.length), bindO_some, asI_i, forceI_eq, w1, e_ix (by omega : k + 1 < s.length), w2, e_ix (by omega : k + 2 < s.length), meansX_call, c0, c1, c2, bindP_some, m0, m1, m2, m3, c3, c4, ei, hst'])
    (fun m => by
      have : decide (((s.length - 2 : Nat) : Int) < ((s.length - 2 : Nat) : Int)) = false := lt_no
      show g46_b0 (meansX F1 ro) ro u s _ _ ((s.length - 2 : Nat) : Int) m = _
      simp only [g46_b0, forceB_eq, ltI_eq, this, cond_false])
  simp only [e_len, bindO_some, asI_i, forceI_eq, e9, hmk, bindP_some, hlen, meansX_loop, k1, k2, asS_s, tupA]
  rw [fin_take (by rfl), k3]
  rfl

/- a ring as a row with its ends put to it -/
def pad (s : List UInt8) : List UInt8 := s.drop (s.length - 1) ++ s ++ s.take 1
def ringS (u : Nat) (s : List UInt8) : List UInt8 := growS u (pad s)
theorem pad_len {s : List UInt8} (h : 0 < s.length) : (pad s).length = s.length + 2 := by
  simp only [pad, List.length_append, List.length_drop, List.length_take]; omega
theorem pad_get {s : List UInt8} (h : 0 < s.length) {k : Nat} (hk : k < s.length + 2) : (pad s).getD k 0 = s.getD ((k + s.length - 1) % s.length) 0 := by
  have hd : (s.drop (s.length - 1)).length = 1 := by simp; omega
  simp only [pad, List.getD, List.append_assoc]
  by_cases h0 : k = 0
  · subst h0
    rw [List.getElem?_append_left (by omega), List.getElem?_drop, show (0 + s.length - 1) % s.length = s.length - 1 by rw [Nat.zero_add]; exact Nat.mod_eq_of_lt (by omega)]
    rfl
  · rw [List.getElem?_append_right (by omega), hd]
    by_cases h1 : k - 1 < s.length
    · rw [List.getElem?_append_left h1, show (k + s.length - 1) % s.length = k - 1 by rw [show k + s.length - 1 = (k - 1) + s.length by omega, Nat.add_mod_right]; exact Nat.mod_eq_of_lt h1]
    · have e : k = s.length + 1 := by omega
      rw [List.getElem?_append_right (by omega), show (k + s.length - 1) % s.length = 0 by rw [show k + s.length - 1 = s.length * 2 by omega]; exact Nat.mul_mod_right _ _, List.getElem?_take, if_pos (by omega), e]
      simp
theorem pad_ch {s : List UInt8} (h : 0 < s.length) {k : Nat} (hk : k < s.length + 2) : ch (pad s) k = ch s ((k + s.length - 1) % s.length) := by
  unfold ch; rw [pad_get h hk]
theorem pad_ok {s : List UInt8} (hs : okR s) (h : 0 < s.length) : okR (pad s) := fun i hi => by
  rw [pad_len h] at hi
  rw [pad_ch h hi]
  exact hs _ (Nat.mod_lt _ h)
theorem ring_ok {ro : List ABlk} {h : Heap} {u : Nat} {s : List UInt8} (hu : u < 256) (hs : okR s) (h0 : 0 < s.length) (hl : s.length ≤ 900) :
    callX F1 ro 51 [.i .u8 u, .s s] h = some (.s (ringS u s), h, h.length, h.length) := by
  refine g51_ok (meansX_ok F1 ro) rfl ?_
  unfold g51
  have e9 : wr .i64 ((s.length : Int) - 1) = ((s.length - 1 : Nat) : Int) := by rw [wr_id' (by omega) (by omega)]; omega
  have b1 : Nat.ble (s.length - 1) s.length = true := by rw [Nat.ble_eq]; omega
  have b2 : Nat.ble 1 s.length = true := by rw [Nat.ble_eq]; omega
  have s1 : evP .e (.slStr (.c (.s s)) (some (.c (.i .i64 ((s.length - 1 : Nat) : Int)))) none) = some (.s (s.drop (s.length - 1))) := by
    have e : ((s.length - 1 : Nat) : Int) = Int.ofNat (s.length - 1) := rfl
    rw [e]
    simp only [evP, ev_slStr, opd, Option.map_some, Option.map_none, sbound, b1, cond_true, List.take_length]
  have s2 : evP .e (.slStr (.c (.s s)) none (some (.c (.i .i64 1)))) = some (.s (s.take 1)) := by
    have e : (1 : Int) = Int.ofNat 1 := rfl
    rw [e]
    simp only [evP, ev_slStr, opd, Option.map_some, Option.map_none, sbound, b2, cond_true, List.drop_zero]
  have add : ∀ a b : List UInt8, a.length + b.length ≤ 100000 → evP .e (.sbin BinOp.add (.c (.s a)) (.c (.s b))) = some (.s (a ++ b)) := fun a b hab => by
    show cond (Nat.ble (a.length + b.length) 1099511627776) (some (AVal.s (a ++ b))) none = _
    rw [show Nat.ble (a.length + b.length) 1099511627776 = true by rw [Nat.ble_eq]; omega]; rfl
  have c1 := callM_pure (call := callX F1 ro) (l := h.length) (p := h.length) (grow_ok (ro := ro) (h := h) hu (pad_ok hs h0) (by rw [pad_len h0]; omega) (by rw [pad_len h0]; omega)) (Nat.le_refl _) (Nat.le_refl _)
  have c1' : callM (callX F1 ro) ⟨h, h.length, h.length⟩ 46 [(.i .u8 u), (.s (s.drop (s.length - 1) ++ s ++ s.take 1))] = some (.s (ringS u s), ⟨h, h.length, h.length⟩) := c1
  simp only [e_len, bindO_some, asI_i, forceI_eq, e9, s1, asS_s, add _ _ (by simp; omega : (s.drop (s.length - 1)).length + s.length ≤ 100000), s2, add _ _ (by simp; omega : (s.drop (s.length - 1) ++ s).length + (s.take 1).length ≤ 100000), meansX_call, c1', bindP_some, tupA]
  exact fin_pure rfl
theorem ofNat_48 {t : Nat} (h : t ≤ 1) : (UInt8.ofNat (48 + t)).toNat = 48 + t := by
  have : t = 0 ∨ t = 1 := by omega
  rcases this with rfl | rfl <;> rfl
theorem ringS_len {u : Nat} {s : List UInt8} (h : 0 < s.length) : (ringS u s).length = s.length := by
  simp only [ringS, growS, List.length_map, List.length_range, pad_len h]; omega
/-- the letters of what a ring becomes -/
theorem ringS_ch {u : Nat} {s : List UInt8} (h : 0 < s.length) {k : Nat} (hk : k < s.length) :
    ch (ringS u s) k = 48 + nx u (4 * bw s ((k + s.length - 1) % s.length) + 2 * bw s k + bw s ((k + 1) % s.length)) := by
  have e : ch (ringS u s) k = (UInt8.ofNat (growV u (pad s) k)).toNat := by
    simp only [ch, ringS, growS, List.getD, List.getElem?_map, pad_len h]
    rw [List.getElem?_range (by omega)]
    rfl
  rw [e]
  unfold growV
  rw [ofNat_48 (nx_le _ _)]
  have p0 : bw (pad s) k = bw s ((k + s.length - 1) % s.length) := by unfold bw; rw [pad_ch h (by omega)]
  have p1 : bw (pad s) (k + 1) = bw s k := by
    unfold bw; rw [pad_ch h (by omega), show (k + 1 + s.length - 1) % s.length = k by rw [show k + 1 + s.length - 1 = k + s.length by omega, Nat.add_mod_right]; exact Nat.mod_eq_of_lt hk]
  have p2 : bw (pad s) (k + 2) = bw s ((k + 1) % s.length) := by
    unfold bw; rw [pad_ch h (by omega), show k + 2 + s.length - 1 = (k + 1) + s.length by omega, Nat.add_mod_right]
  rw [p0, p1, p2]
theorem ringS_ok {u : Nat} {s : List UInt8} (h : 0 < s.length) : okR (ringS u s) := fun i hi => by
  rw [ringS_len h] at hi
  rw [ringS_ch h hi]
  have := nx_le u (4 * bw s ((i + s.length - 1) % s.length) + 2 * bw s i + bw s ((i + 1) % s.length))
  omega
/-- after so many years -/
def yrs (u : Nat) (s : List UInt8) : Nat → List UInt8
  | 0 => s
  | k + 1 => ringS u (yrs u s k)
theorem yrs_spec {u : Nat} {s : List UInt8} (hs : okR s) (h0 : 0 < s.length) : ∀ k, okR (yrs u s k) ∧ (yrs u s k).length = s.length
  | 0 => ⟨hs, rfl⟩
  | k + 1 => by
    obtain ⟨h1, h2⟩ := yrs_spec (u := u) hs h0 k
    exact ⟨ringS_ok (by omega), by show (ringS u (yrs u s k)).length = _; rw [ringS_len (by omega), h2]⟩
end Go.Proofs.Ytgbkicelkpagpaa.W

/- Rows reversed, and with 0 and 1 exchanged. -/
open Go.Vm
set_option linter.unusedVariables false
namespace Go.Proofs.Ytgbkicelkpagpaa.W
open Go

/- strings letter by letter -/
theorem str_ext {a b : List UInt8} (hl : a.length = b.length) (h : ∀ i, i < a.length → ch a i = ch b i) : a = b := by
  apply List.ext_getElem hl
  intro i h1 h2
  have := h i h1
  simp only [ch, List.getD, List.getElem?_eq_getElem h1, List.getElem?_eq_getElem h2, Option.getD_some] at this
  exact UInt8.toNat_inj.1 this
end Go.Proofs.Ytgbkicelkpagpaa.W

/- Rows as lists of numbers: Grow, and the reference's Grow and Ring. -/
open Go.Vm
set_option linter.unusedVariables false
namespace Go.Proofs.Ytgbkicelkpagpaa.W
open Go

/-- numbers as a vector in memory, behind what was there -/
structure NV (h hp : Heap) (b n : Nat) (f : Nat → Nat) : Prop where
  vec : Vec hp 3 b n (fun i => .i .i64 (f i : Nat))
  new : h.length ≤ b
  len : h.length ≤ hp.length
  keep : ∀ j, j < h.length → hp[j]? = h[j]?

theorem callM_new {call : Caller} {hp hp' : Heap} {L f : Nat} {vs : List AVal} {v : AVal} (e : call f vs hp = some (v, hp', hp.length, hp.length)) (hL : L ≤ hp.length) : callM call ⟨hp, L, L⟩ f vs = some (v, ⟨hp', L, L⟩) := by
  rw [callM_eq (m := ⟨hp, L, L⟩) e]; simp [Nat.min_eq_left hL]
theorem fin_new {hp : Heap} {L l p b k : Nat} {cap : Cap} (hb : L ≤ b) : finM L (.sl ⟨false, b, 0⟩ k cap) ⟨hp, l, p⟩ = some (.sl ⟨false, b, 0⟩ k cap, hp, l, p) := by
  simp [finM, gc, not_bel hb]
theorem e_lenS {q : Vm.Loc} {k : Nat} {cap : Cap} : evP .e (.len false (.c (.sl q k cap))) = some (.i .i64 (k : Nat)) := by simp only [evP, ev_len, opd, cond_false, mkI, forceI_eq]
theorem take_keep {h hp : Heap} (hl : h.length ≤ hp.length) (hk : ∀ j, j < h.length → hp[j]? = h[j]?) : hp.take h.length = h := by
  apply List.ext_getElem?
  intro j
  rw [List.getElem?_take]
  by_cases hj : j < h.length
  · rw [if_pos hj, hk j hj]
  · rw [if_neg hj, List.getElem?_eq_none (by omega)]

/-- numbers put one behind the other -/
theorem push_loop {ro : List ABlk} {h : Heap} {L : Nat} (hL : L ≤ h.length) {b : AVal × Int × Mm → Option ((AVal × Int × Mm) ⊕ (AVal × Mm))} (a n : Nat) (hn : n ≤ 999) (h0 : 0 < n) (w : Nat → Nat)
    (hin : ∀ k, k < n → ∀ (v : AVal) (hp : Heap), h.length ≤ hp.length → (∀ j, j < h.length → hp[j]? = h[j]?) → ∀ v2 hp2 v3 hp3,
      stepM ro ⟨hp, L, L⟩ (.bsl 3 1 [.i .i64 0] 1 [((0, 1), .c (.i .i64 (w k : Nat)))]) = some (v2, ⟨hp2, L, L⟩) → stepM ro ⟨hp2, L, L⟩ (.app 3 1 8 [.i .i64 0] (.c v) (.c v2)) = some (v3, ⟨hp3, L, L⟩) →
      b (v, ((a + k : Nat) : Int), ⟨hp, L, L⟩) = some (.inl (v3, ((a + k + 1 : Nat) : Int), ⟨hp3, L, L⟩)))
    (hout : ∀ v m, b (v, ((a + n : Nat) : Int), m) = some (.inr (v, m))) :
    ∃ b' hp, loopX b (.nsl, (a : Int), ⟨h, L, L⟩) = some (.sl ⟨false, b', 0⟩ n .grow, ⟨hp, L, L⟩) ∧ NV h hp b' n w := by
  have key := loop_all3 (b := b) (a + n)
    (fun i v m => a ≤ i ∧ ∃ hp, m = ⟨hp, L, L⟩ ∧ VecV hp h.length 3 v (i - a) (fun j => .i .i64 (w j : Nat)) ∧ h.length ≤ hp.length ∧ ∀ j, j < h.length → hp[j]? = h[j]?)
    (fun i v m hi hI => by
      obtain ⟨hai, hp, rfl, hv, hlen, hkeep⟩ := hI
      obtain ⟨k, rfl⟩ : ∃ k, i = a + k := ⟨i - a, by omega⟩
      rw [Nat.add_sub_cancel_left] at hv
      obtain ⟨v2, hp2, v3, hp3, b3, s1, s2, e3, hb3, hvec, hl3, hk3⟩ := push_ok (ro := ro) (bytes := 8) (z := .i .i64 0) (w := .i .i64 (w k : Nat)) (hv.low hL) (by omega) (by omega) (by omega) rfl rfl
      refine ⟨v3, ⟨hp3, L, L⟩, hin k (by omega) v hp hlen hkeep v2 hp2 v3 hp3 s1 s2, by omega, hp3, rfl, .inr ⟨b3, ?_, ?_, by omega, ?_⟩, by omega, fun j hj => ?_⟩
      · rw [e3, show a + k + 1 - a = k + 1 by omega]
      · omega
      · rw [show a + k + 1 - a = k + 1 by omega]
        refine hvec.congr fun r hr => ?_
        show (if r < k then _ else _) = _
        by_cases e : r < k
        · rw [if_pos e]
        · rw [if_neg e, show r = k by omega]
      · rw [hk3 j (by omega) fun len cap e => ?_, hkeep j hj]
        rcases hv with ⟨hv, _⟩ | ⟨b0, hv, _, hb0, _⟩
        · rw [hv] at e; cases e
        · rw [hv] at e; cases e; omega)
    (fun v m hI => hout v m)
    n a .nsl ⟨h, L, L⟩ rfl ⟨Nat.le_refl _, h, rfl, .inl ⟨rfl, by omega⟩, Nat.le_refl _, fun _ _ => rfl⟩
  obtain ⟨v', m', k1, -, hp, rfl, hv, hlen, hkeep⟩ := key
  rw [Nat.add_sub_cancel_left] at hv
  rcases hv with ⟨_, hz⟩ | ⟨b', rfl, _, hb', hvec⟩
  · omega
  · exact ⟨b', hp, k1, hvec, hb', hlen, hkeep⟩

/- Grow -/
/- the reference's plots and row -/
theorem rplots_ok {ro : List ABlk} {h : Heap} {s : List UInt8} (hs : okR s) (h0 : 0 < s.length) (hl : s.length ≤ 900) :
    ∃ b hp, callX F1 ro 48 [.s s] h = some (.sl ⟨false, b, 0⟩ s.length .grow, hp, h.length, h.length) ∧ NV h hp b s.length (bw s) := by
  obtain ⟨b, hp, k1, nv⟩ := push_loop (ro := ro) (h := h) (L := h.length) (Nat.le_refl _) (b := fun z => g48_b0 (meansX F1 ro) ro s z.1 z.2.1 z.2.2) 0 s.length (by omega) h0 (bw s)
    (fun k hk v hp hlen hkeep v2 hp2 v3 hp3 s1 s2 => by
      have hlt : (((0 + k : Nat) : Int) < (s.length : Int)) := by omega
      have hw : wr .i64 (wr .u8 ((ch s k : Int) - 48)) = ((bw s k : Nat) : Int) := bit_num _ (ch_lt s k) (bw_lt hs hk).2
      rw [Nat.zero_add] at hlt ⊢
      simp only [g48_b0, e_len, bindO_some, asI_i, ltI_eq, forceB_eq, decide_eq_true hlt, cond_true, e_ix hk, forceI_eq, hw, s1, bindP_some, s2, wr_next (by omega : k ≤ 1000000)])
    (fun v m => by
      have : decide ((s.length : Int) < (s.length : Int)) = false := lt_no
      show g48_b0 (meansX F1 ro) ro s v ((0 + s.length : Nat) : Int) m = _
      rw [Nat.zero_add]
      simp only [g48_b0, e_len, bindO_some, asI_i, ltI_eq, forceB_eq, this, cond_false])
  have e0 : ((0 : Nat) : Int) = 0 := rfl
  rw [e0] at k1
  refine ⟨b, hp, g48_ok (meansX_ok F1 ro) rfl ?_, nv⟩
  unfold g48
  simp only [meansX_loop, k1, bindO_some, tupA]
  exact fin_new nv.new

/- the reference's ring -/
def ringF (u n : Nat) (f : Nat → Nat) (i : Nat) : Nat := nx u (4 * f ((i + n - 1) % n) + 2 * f i + f ((i + 1) % n))
theorem rring_ok {ro : List ABlk} {h : Heap} {u b n : Nat} {f : Nat → Nat} (hu : u < 256) (hv : Vec h 3 b n (fun i => .i .i64 (f i : Nat))) (hf : ∀ i, i < n → f i < 2) (h0 : 0 < n) (hn : n ≤ 900) :
    ∃ b' hp, callX F1 ro 52 [.i .i64 u, .sl ⟨false, b, 0⟩ n .grow] h = some (.sl ⟨false, b', 0⟩ n .grow, hp, h.length, h.length) ∧ NV h hp b' n (ringF u n f) := by
  obtain ⟨b', hp, k1, nv⟩ := push_loop (ro := ro) (h := h) (L := h.length) (Nat.le_refl _) (b := fun z => g52_b0 (meansX F1 ro) ro u (.sl ⟨false, b, 0⟩ n .grow) n z.1 z.2.1 z.2.2) 0 n (by omega) h0 (ringF u n f)
    (fun k hk v hp hlen hkeep v2 hp2 v3 hp3 s1 s2 => by
      have hlt : ((k : Int) < (n : Int)) := by omega
      have m1 := Nat.mod_lt (k + n - 1) h0
      have m2 := Nat.mod_lt (k + 1) h0
      have w1 : wr .i64 ((k : Int) + (n : Int)) = ((k + n : Nat) : Int) := by rw [wr_id' (by omega) (by omega)]; omega
      have w2 : wr .i64 (((k + n : Nat) : Int) - 1) = ((k + n - 1 : Nat) : Int) := by rw [wr_id' (by omega) (by omega)]; omega
      have t1 : Int.tmod ((k + n - 1 : Nat) : Int) (n : Int) = (((k + n - 1) % n : Nat) : Int) := rfl
      have t2 : Int.tmod ((k + 1 : Nat) : Int) (n : Int) = (((k + 1) % n : Nat) : Int) := rfl
      have nz : ((n : Int) == Int.ofNat 0) = false := by
        show ((n : Int) == 0) = false
        rw [beq_eq_false_iff_ne]; omega
      have vk := hv.keep (hkeep b hv.lt)
      have l1 := Vec.lda (ro := ro) vk m1
      have l2 := Vec.lda (ro := ro) vk hk
      have l3 := Vec.lda (ro := ro) vk m2
      have cb := callM_pure (call := callX F1 ro) (l := h.length) (p := h.length) (becomes_ok (ro := ro) (h := hp) hu (hf _ m1) (hf _ hk) (hf _ m2)) hlen hlen
      have s1' : stepM ro ⟨hp, h.length, h.length⟩ (.bsl 3 1 [.i .i64 0] 1 [((0, 1), .c (.i .i64 ((nx u (4 * f ((k + n - 1) % n) + 2 * f k + f ((k + 1) % n)) : Nat) : Int)))]) = some (v2, ⟨hp2, h.length, h.length⟩) := s1
      rw [Nat.zero_add]
      simp only [g52_b0, ltI_eq, forceB_eq, decide_eq_true hlt, cond_true, forceI_eq, w1, w2, eqI_eq, nz, Bool.not_false, chk_true, t1, ixS_eq m1, ixS_eq hk, bindO_some, wr_next (by omega : k ≤ 1000000), t2, ixS_eq m2, l1, l2, l3, asI_i, meansX_call, cb, bindP_some, s1', s2])
    (fun v m => by
      have : decide ((n : Int) < (n : Int)) = false := lt_no
      show g52_b0 (meansX F1 ro) ro u _ n v ((0 + n : Nat) : Int) m = _
      rw [Nat.zero_add]
      simp only [g52_b0, ltI_eq, forceB_eq, this, cond_false])
  have e0 : ((0 : Nat) : Int) = 0 := rfl
  rw [e0] at k1
  refine ⟨b', hp, g52_ok (meansX_ok F1 ro) rfl ?_, nv⟩
  unfold g52
  simp only [e_lenS, bindO_some, asI_i, meansX_loop, k1, tupA]
  exact fin_new nv.new

theorem NV.congr {h hp : Heap} {b n : Nat} {f f' : Nat → Nat} (h1 : NV h hp b n f) (hc : ∀ i, i < n → f i = f' i) : NV h hp b n f' :=
  ⟨h1.vec.congr fun r hr => by rw [hc r hr], h1.new, h1.len, h1.keep⟩
end Go.Proofs.Ytgbkicelkpagpaa.W

/- The sets of pairs from which the rest of a row can come; Back; Rings. -/
open Go.Vm
set_option linter.unusedVariables false
namespace Go.Proofs.Ytgbkicelkpagpaa.W
open Go

/- from which pairs the rest of a row can come -/
/- the least row -/
/- one more behind a vector whose room is full or open -/
/-- a loop that counts, whatever it carries -/
theorem loop_seq {S R : Type} {b : S → Option (S ⊕ R)} (n : Nat) (I : Nat → S → Prop) (Q : R → Prop) (hin : ∀ i s, i < n → I i s → ∃ s', b s = some (.inl s') ∧ I (i + 1) s') (hout : ∀ s, I n s → ∃ r, b s = some (.inr r) ∧ Q r) :
    ∀ (k i : Nat) (s : S), i + k = n → I i s → ∃ r, loopX b s = some r ∧ Q r
  | 0, i, s, hk, hi => by
    obtain rfl : i = n := by omega
    obtain ⟨r, h1, h2⟩ := hout s hi
    exact ⟨r, loopX_out h1, h2⟩
  | k + 1, i, s, hk, hi => by
    obtain ⟨s', h1, h2⟩ := hin i s (by omega) hi
    obtain ⟨r, h3, h4⟩ := loop_seq n I Q hin hout k (i + 1) s' (by omega) h2
    exact ⟨r, loopX_on h1 h3, h4⟩

end Go.Proofs.Ytgbkicelkpagpaa.W

/- Back and Rings: what they answer. -/
open Go.Vm
set_option linter.unusedVariables false
namespace Go.Proofs.Ytgbkicelkpagpaa.W
open Go

end Go.Proofs.Ytgbkicelkpagpaa.W

/- Back and Rings of the program. -/
open Go.Vm
set_option linter.unusedVariables false
namespace Go.Proofs.Ytgbkicelkpagpaa.W
open Go

/- Rings -/
end Go.Proofs.Ytgbkicelkpagpaa.W

/- The reference's walks: ways, small, sum, one, can; Ways and Rings. -/
open Go.Vm
set_option linter.unusedVariables false
namespace Go.Proofs.Ytgbkicelkpagpaa.W
open Go

/- walks by a function of the letters -/
/- one, small, sum -/
/- ways -/
end Go.Proofs.Ytgbkicelkpagpaa.W

/- Rings that come again: numbers of rows, and when one comes again. -/
open Go.Vm
set_option linter.unusedVariables false
namespace Go.Proofs.Ytgbkicelkpagpaa.W
open Go

/- the number of a row -/
def numF (f : Nat → Nat) : Nat → Nat
  | 0 => 0
  | k + 1 => 2 * numF f k + f k
theorem numF_lt {f : Nat → Nat} : ∀ {k : Nat}, (∀ i, i < k → f i < 2) → numF f k < 2 ^ k
  | 0, _ => by show 0 < 1; omega
  | k + 1, h => by
    have h1 := numF_lt (k := k) fun i hi => h i (by omega)
    have h2 := h k (by omega)
    show 2 * numF f k + f k < _
    rw [Nat.pow_succ]; omega
theorem numF_inj {f g : Nat → Nat} : ∀ {k : Nat}, (∀ i, i < k → f i < 2) → (∀ i, i < k → g i < 2) → numF f k = numF g k → ∀ i, i < k → f i = g i
  | 0, _, _, _, i, hi => by omega
  | k + 1, hf, hg, he, i, hi => by
    have h1 := hf k (by omega)
    have h2 := hg k (by omega)
    have e : 2 * numF f k + f k = 2 * numF g k + g k := he
    by_cases hik : i = k
    · subst hik; omega
    · exact numF_inj (k := k) (fun i hi => hf i (by omega)) (fun i hi => hg i (by omega)) (by omega) i (by omega)
def numS (s : List UInt8) : Nat := numF (bw s) s.length
theorem numS_lt {s : List UInt8} (hs : okR s) : numS s < 2 ^ s.length := numF_lt fun i hi => (bw_lt hs hi).1
theorem numS_inj {a b : List UInt8} (ha : okR a) (hb : okR b) (hl : a.length = b.length) (h : numS a = numS b) : a = b :=
  str_ext hl fun i hi => by
    unfold numS at h
    rw [← hl] at h
    have := numF_inj (k := a.length) (fun i hi => (bw_lt ha hi).1) (fun i hi => (bw_lt hb (by omega)).1) h i hi
    unfold bw at this
    rcases ha i hi with e1 | e1 <;> rcases hb i (by omega) with e2 | e2 <;> omega
theorem eqL_num {a b : List UInt8} (ha : okR a) (hb : okR b) (hl : a.length = b.length) : eqL a b = Nat.beq (numS a) (numS b) := by
  cases h : Nat.beq (numS a) (numS b) with
  | true =>
    have := numS_inj ha hb hl (beq_iff.1 h)
    rw [this]; exact eqL_self b
  | false =>
    cases h2 : eqL a b with
    | false => rfl
    | true =>
      have : a = b := by rw [eqL_eq] at h2; exact eq_of_beq h2
      rw [this, Nat.beq_refl] at h; cases h

/- when it comes again -/
def nY (u : Nat) (s : List UInt8) (i : Nat) : Nat := numS (yrs u s i)
def fndY (u : Nat) (s : List UInt8) (y k : Nat) : Option Nat := (List.range y).find? fun i => Nat.beq (nY u s i) k
def stl (u : Nat) (s : List UInt8) : Nat → Nat → Option (Nat × Nat)
  | 0, _ => none
  | k + 1, y => match fndY u s y (nY u s y) with
    | some i => some (i, y - i)
    | none => stl u s k (y + 1)
theorem fndY_none {u : Nat} {s : List UInt8} {y k : Nat} : fndY u s y k = none ↔ ∀ i, i < y → nY u s i ≠ k := by
  unfold fndY
  rw [List.find?_eq_none]
  constructor
  · intro h i hi e
    have := h i (List.mem_range.2 hi)
    rw [e, Nat.beq_refl] at this
    exact this rfl
  · intro h i hi hb
    exact h i (List.mem_range.1 hi) (beq_iff.1 hb)
theorem fndY_some {u : Nat} {s : List UInt8} {y k i : Nat} (h : fndY u s y k = some i) : i < y ∧ nY u s i = k := by
  have h1 := List.mem_of_find?_eq_some h
  have h2 := List.find?_some h
  exact ⟨List.mem_range.1 h1, beq_iff.1 h2⟩
theorem fndY_succ {u : Nat} {s : List UInt8} {y k : Nat} : fndY u s (y + 1) k = match fndY u s y k with
    | some i => some i
    | none => if nY u s y = k then some y else none := by
  unfold fndY
  rw [List.range_succ, List.find?_append]
  cases (List.range y).find? fun i => Nat.beq (nY u s i) k with
  | some i => rfl
  | none =>
    show List.find? (fun i => Nat.beq (nY u s i) k) [y] = if nY u s y = k then some y else none
    by_cases e : nY u s y = k
    · rw [if_pos e, List.find?_cons_of_pos (by rw [e]; exact Nat.beq_refl k)]
    · have hb : Nat.beq (nY u s y) k = false := by
        cases hb : Nat.beq (nY u s y) k
        · rfl
        · exact absurd (beq_iff.1 hb) e
      rw [if_neg e]
      simp [List.find?, hb]
theorem stl_some {u : Nat} {s : List UInt8} : ∀ (k y : Nat), (∃ z, y ≤ z ∧ z < y + k ∧ fndY u s z (nY u s z) ≠ none) → ∃ r, stl u s k y = some r
  | 0, y, ⟨z, h1, h2, _⟩ => by omega
  | k + 1, y, ⟨z, h1, h2, h3⟩ => by
    unfold stl
    cases hf : fndY u s y (nY u s y) with
    | some i => exact ⟨_, rfl⟩
    | none =>
      refine stl_some k (y + 1) ⟨z, ?_, by omega, h3⟩
      by_cases e : z = y
      · rw [e] at h3; exact absurd hf h3
      · omega
/-- a ring comes again within as many years as there are rings -/
theorem comes_again {u : Nat} {s : List UInt8} (hs : okR s) (h0 : 0 < s.length) : ∃ r, stl u s (2 ^ s.length + 1) 0 = some r := by
  refine stl_some _ 0 (Classical.byContradiction fun hno => ?_)
  have hall : ∀ z, z < 2 ^ s.length + 1 → ∀ i, i < z → nY u s i ≠ nY u s z := fun z hz i hi e => by
    refine hno ⟨z, Nat.zero_le _, by omega, fun hf => ?_⟩
    exact fndY_none.1 hf i hi e
  have hnd : ((List.range (2 ^ s.length + 1)).map (nY u s)).Nodup := by
    rw [List.Nodup, List.pairwise_map]
    refine List.Pairwise.imp_of_mem ?_ List.nodup_range
    intro a b ha hb hab he
    have ha' := List.mem_range.1 ha
    have hb' := List.mem_range.1 hb
    rcases Nat.lt_trichotomy a b with h | h | h
    · exact hall b hb' a h he
    · exact hab h
    · exact hall a ha' b h he.symm
  have h1 := nodup_len (l' := List.range (2 ^ s.length)) hnd fun x hx => by
    obtain ⟨i, hi, rfl⟩ := List.mem_map.1 hx
    obtain ⟨p, q⟩ := yrs_spec (u := u) hs h0 i
    have := numS_lt p
    rw [q] at this
    exact List.mem_range.2 this
  simp at h1
  omega
def setV (u : Nat) (s : List UInt8) : Nat × Nat := (stl u s (2 ^ s.length + 1) 0).getD (0, 0)
theorem setV_eq {u : Nat} {s : List UInt8} (hs : okR s) (h0 : 0 < s.length) : stl u s (2 ^ s.length + 1) 0 = some (setV u s) := by
  obtain ⟨r, hr⟩ := comes_again (u := u) hs h0
  unfold setV
  rw [hr]; rfl

/- what a map holds -/
def mapY (u : Nat) (s : List UInt8) (y : Nat) : List (List UInt8 × AVal) := (List.range y).map fun i => (yrs u s i, .i .i64 (i : Nat))
theorem mfind_map {w : Nat → List UInt8} {q : List UInt8} : ∀ (l : List Nat), mfind (l.map fun i => (w i, AVal.i .i64 (i : Nat))) q = (l.find? fun i => eqL (w i) q).map fun i => AVal.i .i64 (i : Nat)
  | [] => rfl
  | i :: l => by
    show cond (eqL (w i) q) (some (AVal.i .i64 (i : Nat))) (mfind (l.map fun i => (w i, AVal.i .i64 (i : Nat))) q) = _
    cases h : eqL (w i) q with
    | true => rw [List.find?_cons_of_pos (by exact h)]; rfl
    | false => rw [List.find?_cons_of_neg (by rw [h]; decide), mfind_map l]; rfl
theorem mput_none {q : List UInt8} {v : AVal} : ∀ {l : List (List UInt8 × AVal)}, mfind l q = none → mput l q v = l ++ [(q, v)]
  | [], _ => rfl
  | (k, x) :: l, h => by
    unfold mfind at h
    unfold mput
    cases he : eqL k q with
    | true => rw [he] at h; cases h
    | false => rw [he] at h; rw [cond_false, mput_none h]; rfl
theorem mfindY {u y : Nat} {s : List UInt8} (hs : okR s) (h0 : 0 < s.length) : mfind (mapY u s y) (yrs u s y) = (fndY u s y (nY u s y)).map fun i => AVal.i .i64 (i : Nat) := by
  unfold mapY
  rw [mfind_map]
  congr 1
  unfold fndY
  congr 1
  funext i
  obtain ⟨p, q⟩ := yrs_spec (u := u) hs h0 i
  obtain ⟨p', q'⟩ := yrs_spec (u := u) hs h0 y
  exact eqL_num p p' (by omega)
theorem mputY {u y : Nat} {s : List UInt8} (hs : okR s) (h0 : 0 < s.length) (hn : fndY u s y (nY u s y) = none) : mput (mapY u s y) (yrs u s y) (.i .i64 (y : Nat)) = mapY u s (y + 1) := by
  rw [mput_none (by rw [mfindY hs h0, hn]; rfl)]
  unfold mapY
  rw [List.range_succ, List.map_append]
  rfl
/- what the list of years holds -/
def seenY (u : Nat) (s : List UInt8) (y k : Nat) : Nat := match fndY u s y k with
  | some i => i + 1
  | none => 0
theorem seenY_succ {u y k : Nat} {s : List UInt8} (hn : fndY u s y (nY u s y) = none) : seenY u s (y + 1) k = if k = nY u s y then y + 1 else seenY u s y k := by
  unfold seenY
  rw [fndY_succ]
  by_cases e : k = nY u s y
  · subst e
    rw [hn, if_pos rfl, if_pos rfl]
  · rw [if_neg e]
    cases fndY u s y k with
    | some i => rfl
    | none => rw [if_neg (fun h => e h.symm)]
end Go.Proofs.Ytgbkicelkpagpaa.W

/- Settle, the program's by a map and the reference's by a list of years. -/
open Go.Vm
set_option linter.unusedVariables false
namespace Go.Proofs.Ytgbkicelkpagpaa.W
open Go

/- maps in memory -/
def mapB (l : List (List UInt8 × AVal)) : ABlk := { e := 0, n := 0, c := .e, g := some l }
theorem mkm_ok {ro : List ABlk} {hp : Heap} {l p : Nat} : stepM ro ⟨hp, l, p⟩ .mkm = some (.mp hp.length, ⟨hp ++ [some (mapB [])], l, p⟩) := rfl
theorem mlk_ok {ro : List ABlk} {hp : Heap} {l p b : Nat} {L : List (List UInt8 × AVal)} {ok : Bool} {z : AVal} {q : List UInt8} (hb : lget hp b = some (some (mapB L))) :
    stepM ro ⟨hp, l, p⟩ (.mlk ok z (.c (.mp b)) (.c (.s q))) = some (mlkV ok z (mfind L q), ⟨hp, l, p⟩) := by
  have hb' : lget (Mm.st ⟨hp, l, p⟩ .e).h b = some (some (mapB L)) := hb
  simp only [stepM, stepK, st_mlk, opd, hb']
  rfl
theorem mup_ok {ro : List ABlk} {hp : Heap} {l p b : Nat} {L : List (List UInt8 × AVal)} {v : AVal} {q : List UInt8} (hb : lget hp b = some (some (mapB L))) (hv : v.scalar = true) :
    stepM ro ⟨hp, l, p⟩ (.mup (.c (.mp b)) (.c (.s q)) (.c v)) = some (und, ⟨hp.set b (some (mapB (mput L q v))), min l b, p⟩) := by
  have hb' : lget (Mm.st ⟨hp, l, p⟩ .e).h b = some (some (mapB L)) := hb
  simp only [stepM, stepK, st_mup, opd, hb', hv]
  show some (und, (⟨lset (some (mapB (mput L q v))) hp b, min l b, p⟩ : Mm)) = _
  rw [lset_eq]
theorem set_last (h : Heap) (x y : Option ABlk) : (h ++ [x]).set h.length y = h ++ [y] := by simp

def stE (n : Int) (s : List UInt8) : Int := if askE n s 400 = 0 ∧ 16 < s.length then 2 else askE n s 400
def stA (n : Int) (s : List UInt8) : Int := if stE n s = 0 then ((setV n.toNat s).1 : Nat) else 0
def stB (n : Int) (s : List UInt8) : Int := if stE n s = 0 then ((setV n.toNat s).2 : Nat) else 0
theorem pow16 {i : Nat} (h : i ≤ 16) : 2 ^ i ≤ 65536 := Nat.le_trans (Nat.pow_le_pow_right (by omega) h) (by decide)

theorem settle_loop {ro : List ABlk} {h : Heap} {u : Nat} {s : List UInt8} (hu : u < 256) (hs : okR s) (h0 : 0 < s.length) (hl : s.length ≤ 16) : ∀ (k y : Nat) (r : Nat × Nat), stl u s k y = some r → y + k ≤ 100000 →
    ∃ L, loopX (fun z : List UInt8 × Int × Mm => g34_b0 (meansX F1 ro) ro u (.mp h.length) z.1 z.2.1 z.2.2) (yrs u s y, (y : Int), ⟨h ++ [some (mapB (mapY u s y))], h.length, h.length⟩) = some ((r.1 : Int), (r.2 : Int), 0, ⟨h ++ [some (mapB L)], h.length, h.length⟩)
  | 0, y, r, hr, _ => by cases hr
  | k + 1, y, r, hr, hk => by
    have hb : lget (h ++ [some (mapB (mapY u s y))]) h.length = some (some (mapB (mapY u s y))) := lget_last _ _
    have c1 := mlk_ok (ro := ro) (l := h.length) (p := h.length) (ok := true) (z := AVal.i IntKind.i64 0) (q := yrs u s y) hb
    rw [mfindY hs h0] at c1
    unfold stl at hr
    cases hf : fndY u s y (nY u s y) with
    | some i =>
      rw [hf] at hr c1
      cases hr
      obtain ⟨hi, _⟩ := fndY_some hf
      have c1' : stepM ro ⟨h ++ [some (mapB (mapY u s y))], h.length, h.length⟩ (.mlk true (AVal.i IntKind.i64 0) (.c (.mp h.length)) (.c (.s (yrs u s y)))) = some (.tup [.i .i64 (i : Nat), .b true], ⟨h ++ [some (mapB (mapY u s y))], h.length, h.length⟩) := c1
      have ew : wr .i64 ((y : Int) - (i : Int)) = ((y - i : Nat) : Int) := by rw [wr_id' (by omega) (by omega)]; omega
      refine ⟨mapY u s y, loopX_out ?_⟩
      simp only [g34_b0, c1', bindP_some, e_x0, e_x1, bindO_some, asI_i, asB_b, cond_true, forceI_eq, ew]
    | none =>
      rw [hf] at hr c1
      have c1' : stepM ro ⟨h ++ [some (mapB (mapY u s y))], h.length, h.length⟩ (.mlk true (AVal.i IntKind.i64 0) (.c (.mp h.length)) (.c (.s (yrs u s y)))) = some (.tup [.i .i64 0, .b false], ⟨h ++ [some (mapB (mapY u s y))], h.length, h.length⟩) := c1
      have c2 := mup_ok (ro := ro) (l := h.length) (p := h.length) (v := AVal.i .i64 (y : Nat)) (q := yrs u s y) hb rfl
      rw [mputY hs h0 hf, set_last, Nat.min_self] at c2
      obtain ⟨p, q⟩ := yrs_spec (u := u) hs h0 y
      have c3 := callM_pure (call := callX F1 ro) (l := h.length) (p := h.length) (ring_ok (ro := ro) (h := h ++ [some (mapB (mapY u s (y + 1)))]) hu p (by omega) (by omega)) (by simp) (by simp)
      obtain ⟨L, ih⟩ := settle_loop (ro := ro) (h := h) hu hs h0 hl k (y + 1) r hr (by omega)
      refine ⟨L, loopX_on ?_ ih⟩
      simp only [g34_b0, c1', bindP_some, e_x0, e_x1, bindO_some, asI_i, asB_b, cond_false, c2, meansX_call, c3, asS_s, forceI_eq, wr_next (by omega : y ≤ 1000000)]
      rfl
theorem Settle_ok {ro : List ABlk} {h : Heap} {n : Int} {s : List UInt8} : callX F1 ro 34 [.i .i64 n, .s s] h = some (.tup [.i .i64 (stA n s), .i .i64 (stB n s), .i .i64 (stE n s)], h, h.length, h.length) := by
  refine g34_ok (meansX_ok F1 ro) rfl ?_
  unfold g34
  have c1 := callM_pure (call := callX F1 ro) (l := h.length) (p := h.length) (read_ok (ro := ro) (h := h) (n := n) (s := s)) (Nat.le_refl _) (Nat.le_refl _)
  simp only [meansX_call, c1, bindP_some, e_x0, e_x1, bindO_some, asI_i, eqI_eq, forceB_eq, e_len, ltI_eq]
  by_cases h1 : askE n s 400 = 0
  · have b1 : (askE n s 400 == 0) = true := by rw [h1]; rfl
    obtain ⟨p1, p2, p3, p4, p5⟩ := okR_of h1
    obtain ⟨k, rfl⟩ : ∃ k : Nat, n = (k : Int) := ⟨n.toNat, by omega⟩
    by_cases h16 : 16 < s.length
    · have e : stE k s = 2 := by rw [stE, if_pos ⟨h1, h16⟩]
      have ea : stA k s = 0 := by rw [stA, e]; rfl
      have eb : stB k s = 0 := by rw [stB, e]; rfl
      have h16' : ((16 : Int) < (s.length : Int)) := by omega
      simp only [b1, Bool.not_true, cond_false, decide_eq_true h16', cond_true, e, ea, eb, tupA]
      exact fin_pure rfl
    · have e : stE k s = 0 := by rw [stE, if_neg (fun hh => h16 hh.2), h1]
      have ea : stA k s = ((setV k s).1 : Nat) := by rw [stA, if_pos e]; rfl
      have eb : stB k s = ((setV k s).2 : Nat) := by rw [stB, if_pos e]; rfl
      have h16' : ¬ ((16 : Int) < (s.length : Int)) := by omega
      have hU : rdU k s = (k : Int) := if_pos h1
      have hp := pow16 (by omega : s.length ≤ 16)
      obtain ⟨L, lp⟩ := settle_loop (ro := ro) (h := h) (by omega : k < 256) p5 p4 (by omega) _ 0 _ (setV_eq p5 p4) (by omega)
      have e0 : ((0 : Nat) : Int) = 0 := rfl
      rw [e0] at lp
      have lp' : loopX (fun z : List UInt8 × Int × Mm => g34_b0 (meansX F1 ro) ro k (.mp h.length) z.1 z.2.1 z.2.2) (s, 0, ⟨h ++ [some (mapB [])], h.length, h.length⟩) = some (((setV k s).1 : Int), ((setV k s).2 : Int), 0, ⟨h ++ [some (mapB L)], h.length, h.length⟩) := lp
      simp only [b1, Bool.not_true, cond_false, decide_eq_false h16', mkm_ok, bindP_some, hU, meansX_loop, lp', bindO_some, e, ea, eb, tupA]
      rw [fin_take (by rfl)]
      simp
  · have b1 : (askE n s 400 == 0) = false := beq_eq_false_iff_ne.2 h1
    have e : stE n s = askE n s 400 := by rw [stE, if_neg (fun hh => h1 hh.1)]
    have ea : stA n s = 0 := by rw [stA, e, if_neg h1]
    have eb : stB n s = 0 := by rw [stB, e, if_neg h1]
    simp only [b1, Bool.not_false, cond_true, e, ea, eb, tupA]
    exact fin_pure rfl

/- the reference's -/
theorem number_ok {ro : List ABlk} {h : Heap} {b n : Nat} {cap : Cap} {f : Nat → Nat} (hv : Vec h 3 b n (fun i => .i .i64 (f i : Nat))) (hf : ∀ i, i < n → f i < 2) (hn : n ≤ 16) :
    callX F1 ro 67 [.sl ⟨false, b, 0⟩ n cap] h = some (.i .i64 (numF f n : Nat), h, h.length, h.length) := by
  refine g67_ok (meansX_ok F1 ro) rfl ?_
  unfold g67
  obtain ⟨r, k1, rfl⟩ := loop_seq (b := fun z : Int × Int => g67_b0 (meansX F1 ro) ro (.sl ⟨false, b, 0⟩ n cap) ⟨h, h.length, h.length⟩ z.1 z.2) n (fun i z => z = (((numF f i : Nat) : Int), (i : Int))) (fun r => r = ((numF f n : Nat) : Int))
    (fun i z hi hI => by
      subst hI
      have hlt : decide ((i : Int) < ((n : Nat) : Int)) = true := by simp; omega
      have ld := Vec.ld (ro := ro) (l := h.length) (p := h.length) hv hi
      have h1 := numF_lt (f := f) (k := i) fun j hj => hf j (by omega)
      have h2 := pow16 (by omega : i ≤ 16)
      have h3 := hf i hi
      have w1 : wr .i64 (2 * ((numF f i : Nat) : Int)) = ((2 * numF f i : Nat) : Int) := by rw [wr_id' (by omega) (by omega)]; omega
      have w2 : wr .i64 (((2 * numF f i : Nat) : Int) + ((f i : Nat) : Int)) = ((2 * numF f i + f i : Nat) : Int) := by rw [wr_id' (by omega) (by omega)]; omega
      refine ⟨_, ?_, rfl⟩
      simp only [g67_b0, e_lenS, bindO_some, asI_i, ltI_eq, forceB_eq, hlt, cond_true, forceI_eq, w1, ixS_eq hi, ld, w2, wr_next (by omega : i ≤ 1000000)]
      rfl)
    (fun z hI => by
      subst hI
      have : decide (((n : Nat) : Int) < ((n : Nat) : Int)) = false := lt_no
      refine ⟨_, ?_, rfl⟩
      simp only [g67_b0, e_lenS, bindO_some, asI_i, ltI_eq, forceB_eq, this, cond_false])
    n 0 (0, 0) (by omega) rfl
  simp only [meansX_loop, k1, bindO_some, tupA]
  exact fin_pure rfl
theorem mk_big {ro : List ABlk} {hp : Heap} {l p n : Nat} (hn : n ≤ 65536) :
    stepM ro ⟨hp, l, p⟩ (.mk 3 1 8 [AVal.i .i64 0] (.c (.i .i64 (n : Int))) (.c (.i .i64 (n : Int)))) = some (.sl ⟨false, hp.length, 0⟩ n (.known n), ⟨hp ++ [some (newBlk 3 (AVal.i .i64 0) n)], l, p⟩) := by
  have hc : (Nat.ble n n && Nat.ble n 1048576 && Nat.ble (n * 8) 281474976710656) = true := by
    simp only [Bool.and_eq_true, Nat.ble_eq]; omega
  have e : ((n : Int)) = Int.ofNat n := rfl
  rw [e]
  simp only [stepM, stepK, opd, st_mk, hc, cond_true, newB, St.mm]
  rfl
theorem sh16 : ∀ m, m < 17 → shlV .i64 1 (Int.ofNat m) = Int.ofNat (2 ^ m) := by decide +kernel
theorem rsettle_loop {ro : List ABlk} {h : Heap} {u : Nat} {s : List UInt8} (hu : u < 256) (hs : okR s) (h0 : 0 < s.length) (hl : s.length ≤ 16) : ∀ (k y : Nat) (r : Nat × Nat), stl u s k y = some r → y + k ≤ 100000 →
    ∀ (hp : Heap) (b : Nat), Vec hp 3 h.length (2 ^ s.length) (fun j => .i .i64 (seenY u s y j : Nat)) → Vec hp 3 b s.length (fun i => .i .i64 (bw (yrs u s y) i : Nat)) → h.length < b → h.length ≤ hp.length → (∀ j, j < h.length → hp[j]? = h[j]?) →
    ∃ hp', loopX (fun z : AVal × Int × Mm => g35_b0 (meansX F1 ro) ro u (.sl ⟨false, h.length, 0⟩ (2 ^ s.length) (.known (2 ^ s.length))) z.1 z.2.1 z.2.2) (.sl ⟨false, b, 0⟩ s.length .grow, ((y + 1 : Nat) : Int), ⟨hp, h.length, h.length⟩) = some ((r.1 : Int), (r.2 : Int), 0, ⟨hp', h.length, h.length⟩) ∧ h.length ≤ hp'.length ∧ ∀ j, j < h.length → hp'[j]? = h[j]?
  | 0, y, r, hr, _ => by cases hr
  | k + 1, y, r, hr, hk => by
    intro hp b hseen hrow hb hlen hkeep
    obtain ⟨p, q⟩ := yrs_spec (u := u) hs h0 y
    have hbw : ∀ i, i < s.length → bw (yrs u s y) i < 2 := fun i hi => (bw_lt p (by omega)).1
    have c1 := callM_pure (call := callX F1 ro) (l := h.length) (p := h.length) (number_ok (ro := ro) (cap := .grow) hrow hbw hl) hlen hlen
    have hnum : numF (bw (yrs u s y)) s.length = nY u s y := by unfold nY numS; rw [q]
    rw [hnum] at c1
    have hlt : nY u s y < 2 ^ s.length := by have := numS_lt p; rw [q] at this; exact this
    have ld := Vec.ld (ro := ro) (l := h.length) (p := h.length) hseen hlt
    have lda := Vec.lda (ro := ro) hseen hlt
    unfold stl at hr
    cases hf : fndY u s y (nY u s y) with
    | some i =>
      rw [hf] at hr
      cases hr
      obtain ⟨hi, _⟩ := fndY_some hf
      have hsv : seenY u s y (nY u s y) = i + 1 := by unfold seenY; rw [hf]
      rw [hsv] at ld lda
      have h0i : decide ((0 : Int) < ((i + 1 : Nat) : Int)) = true := by simp only [decide_eq_true_eq]; omega
      have w1 : wr .i64 (((i + 1 : Nat) : Int) - 1) = (i : Int) := by rw [wr_id' (by omega) (by omega)]; omega
      have w2 : wr .i64 (((y + 1 : Nat) : Int) - ((i + 1 : Nat) : Int)) = ((y - i : Nat) : Int) := by rw [wr_id' (by omega) (by omega)]; omega
      refine ⟨hp, loopX_out ?_, hlen, hkeep⟩
      simp only [g35_b0, meansX_call, c1, bindP_some, asI_i, ixS_eq hlt, bindO_some, ld, ltI_eq, h0i, forceB_eq, cond_true, lda, forceI_eq, w1, w2]
    | none =>
      rw [hf] at hr
      have hsv : seenY u s y (nY u s y) = 0 := by unfold seenY; rw [hf]
      rw [hsv] at ld
      have h0i : decide ((0 : Int) < ((0 : Nat) : Int)) = false := rfl
      obtain ⟨z, s1, s2⟩ := Vec.set (ro := ro) (l := h.length) (p := h.length) hseen hlt (v := .i .i64 ((y + 1 : Nat) : Int)) rfl rfl rfl
      rw [Nat.min_self] at s1
      have hrow2 := hrow.keep (hp' := hp.set h.length z) (by rw [List.getElem?_set_ne (by omega)])
      have hl2 : (hp.set h.length z).length = hp.length := List.length_set
      obtain ⟨b', hp3, t1, nv⟩ := rring_ok (ro := ro) hu hrow2 hbw h0 (by omega)
      have c2 := callM_new t1 (by omega : h.length ≤ (hp.set h.length z).length)
      have hseen3 : Vec hp3 3 h.length (2 ^ s.length) (fun j => .i .i64 (seenY u s (y + 1) j : Nat)) := (s2.keep (nv.keep _ s2.lt)).congr fun j hj => by
        show (if j = nY u s y then _ else _) = _
        rw [seenY_succ hf]
        by_cases e : j = nY u s y
        · rw [if_pos e, if_pos e]
        · rw [if_neg e, if_neg e]
      have hrow3 : Vec hp3 3 b' s.length (fun i => .i .i64 (bw (yrs u s (y + 1)) i : Nat)) := nv.vec.congr fun i hi => by
        have := ringS_ch (u := u) (s := yrs u s y) (by omega) (k := i) (by omega)
        have e : ringF u s.length (bw (yrs u s y)) i = bw (yrs u s (y + 1)) i := by
          show ringF u s.length (bw (yrs u s y)) i = ch (ringS u (yrs u s y)) i - 48
          rw [this, q]
          unfold ringF
          omega
        rw [e]
      have hb' := nv.new
      have hsl := s2.lt
      have nl := nv.len
      obtain ⟨hp', ih, g1, g2⟩ := rsettle_loop (ro := ro) (h := h) hu hs h0 hl k (y + 1) r hr (by omega) hp3 b' hseen3 hrow3 (by omega) (by omega) (fun j hj => by rw [nv.keep j (by omega), List.getElem?_set_ne (by omega), hkeep j hj])
      refine ⟨hp', loopX_on ?_ ih, g1, g2⟩
      simp only [g35_b0, meansX_call, c1, bindP_some, asI_i, ixS_eq hlt, bindO_some, ld, ltI_eq, h0i, forceB_eq, cond_false, s1, c2, forceI_eq, wr_next (by omega : y + 1 ≤ 1000000)]
theorem rSettle_ok {ro : List ABlk} {h : Heap} {n : Int} {s : List UInt8} (hs0 : s.length ≤ 1000000) : callX F1 ro 35 [.i .i64 n, .s s] h = some (.tup [.i .i64 (stA n s), .i .i64 (stB n s), .i .i64 (stE n s)], h, h.length, h.length) := by
  refine g35_ok (meansX_ok F1 ro) rfl ?_
  unfold g35
  have c1 := callM_pure (call := callX F1 ro) (l := h.length) (p := h.length) (asked_ok (ro := ro) (h := h) (n := n) (s := s) (most := 400) hs0) (Nat.le_refl _) (Nat.le_refl _)
  simp only [meansX_call, c1, bindP_some, bindO_some, asI_i, eqI_eq, forceB_eq, e_len, ltI_eq]
  by_cases h1 : askE n s 400 = 0
  · have b1 : (askE n s 400 == 0) = true := by rw [h1]; rfl
    obtain ⟨p1, p2, p3, p4, p5⟩ := okR_of h1
    obtain ⟨k, rfl⟩ : ∃ k : Nat, n = (k : Int) := ⟨n.toNat, by omega⟩
    by_cases h16 : 16 < s.length
    · have e : stE k s = 2 := by rw [stE, if_pos ⟨h1, h16⟩]
      have ea : stA k s = 0 := by rw [stA, e]; rfl
      have eb : stB k s = 0 := by rw [stB, e]; rfl
      have h16' : ((16 : Int) < (s.length : Int)) := by omega
      simp only [b1, Bool.not_true, cond_false, decide_eq_true h16', cond_true, e, ea, eb, tupA]
      exact fin_pure rfl
    · have e : stE k s = 0 := by rw [stE, if_neg (fun hh => h16 hh.2), h1]
      have ea : stA k s = ((setV k s).1 : Nat) := by rw [stA, if_pos e]; rfl
      have eb : stB k s = ((setV k s).2 : Nat) := by rw [stB, if_pos e]; rfl
      have h16' : ¬ ((16 : Int) < (s.length : Int)) := by omega
      have hp := pow16 (by omega : s.length ≤ 16)
      have hsh : shlV .i64 1 (s.length : Int) = ((2 ^ s.length : Nat) : Int) := sh16 _ (by omega)
      have hmk := mk_big (ro := ro) (hp := h) (l := h.length) (p := h.length) hp
      have hv := Vec.new h 3 (2 ^ s.length) (AVal.i IntKind.i64 0)
      generalize hB : h ++ [some (newBlk 3 (AVal.i .i64 0) (2 ^ s.length))] = H at hmk hv
      have hL : H.length = h.length + 1 := by rw [← hB]; simp
      have hK : ∀ k, k < h.length → H[k]? = h[k]? := fun k hk => by rw [← hB]; exact List.getElem?_append_left hk
      obtain ⟨b0, hp0, q1, nv0⟩ := rplots_ok (ro := ro) (h := H) p5 p4 (by omega)
      have c2 := callM_new q1 (by omega : h.length ≤ H.length)
      have n1 := nv0.new
      have n2 := nv0.len
      obtain ⟨hp', lp, g1, g2⟩ := rsettle_loop (ro := ro) (h := h) (by omega : k < 256) p5 p4 (by omega) _ 0 _ (setV_eq p5 p4) (by omega) hp0 b0 ((hv.keep (nv0.keep _ hv.lt)).congr fun j _ => rfl) nv0.vec (by omega) (by omega) (fun j hj => by rw [nv0.keep j (by omega), hK j hj])
      have e1 : ((0 + 1 : Nat) : Int) = 1 := rfl
      rw [e1] at lp
      simp only [b1, Bool.not_true, cond_false, decide_eq_false h16', nneg, chk_true, forceI_eq, hsh, hmk, bindP_some, c2, meansX_loop, lp, bindO_some, e, ea, eb, tupA]
      rw [fin_take (by rfl), take_keep g1 g2]
  · have b1 : (askE n s 400 == 0) = false := beq_eq_false_iff_ne.2 h1
    have e : stE n s = askE n s 400 := by rw [stE, if_neg (fun hh => h1 hh.1)]
    have ea : stA n s = 0 := by rw [stA, e, if_neg h1]
    have eb : stB n s = 0 := by rw [stB, e, if_neg h1]
    simp only [b1, Bool.not_false, cond_true, e, ea, eb, tupA]
    exact fin_pure rfl
end Go.Proofs.Ytgbkicelkpagpaa.W

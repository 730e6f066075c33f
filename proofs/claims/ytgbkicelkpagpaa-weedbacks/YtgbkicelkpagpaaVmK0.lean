/- Contracts of the functions: what each of them answers. -/
import Derived.Test.YtgbkicelkpagpaaVmGt
import Derived.Test.YtgbkicelkpagpaaVmAF
import Derived.Test.YtgbkicelkpagpaaVmFO
import Derived.Test.YtgbkicelkpagpaaRows
import Derived.WalkKit
import Derived.ProofKit
import Derived.OpenShut
import Derived.Carry
import Derived.Below
import Derived.Deep.Matrix
import Derived.Test.YtgbkicelkpagpaaVmAG
/- From the statement to the small machine, for numbers as arguments; readings of a rule. -/
open Go.Vm
set_option linter.unusedVariables false
namespace Go.Proofs.Ytgbkicelkpagpaa.W
open Go Go.RowKit Go.Deep Go.WideShapes Go.ChangeShapes

abbrev F1 : Tab := ⟨F, known0 15 (.b true)⟩
theorem own : ownKnob Try.prog.godebug = none := by kernel_rfl
theorem env_ok {W : World} {ro : List ABlk} {rl : Rl} (h : ∀ (i : Nat) (b : ABlk), ro[i]? = some b → ∃ x, rl[i]? = some x ∧ ∀ j, j < b.n → x.block < W.heap.size ∧ ∃ v', W.cell? (x.add j) = some v' ∧ VR rl [] (b.c.get j) v') :
    (Env.mk Try.prog W.heap.size W ro rl).Ok := ⟨fun i b hb => h i b hb, Nat.le_refl _⟩
/-- the call of the model: true, and below nothing has turned -/
theorem call_of (alive : callX ⟨F, noCall⟩ [] 15 [] [] = some (.b true, [], 0, 0)) {W : World} {ro : List ABlk} {rl : Rl} (hE : (Env.mk Try.prog W.heap.size W ro rl).Ok) {K : Nat} {vs : List AVal} {args : Array Value}
    (hv : LR rl [] vs args) {h' : Heap} {lw lp : Nat} (hc : callX F1 ro K vs [] = some (.b true, h', lw, lp)) : Calls Try.prog K args W fun e W' => e = .returned (.bool true) ∧ Below W.heap.size W W' := by
  have hm : (Env.mk Try.prog W.heap.size W ro rl).P.follows .mixedOrders = true := Try.checked.mixed
  have hO : CallOk (Env.mk Try.prog W.heap.size W ro rl) (known0 15 (.b true)) := known0_of hE hm fok alive rfl
  obtain ⟨-, h2⟩ := callX_sound hE hm (F := F1) fok hO K vs [] _ _ _ _ hc
  refine Calls.mono (h2 [] W args ⟨Below.refl _ _, rfl, by simp, fun i b r K hl => by simp [Live] at hl, fun i j b b' r K K' hl => by simp [Live] at hl⟩ hv) fun e w' hq => ?_
  obtain ⟨v', rfl, m', hvr, T⟩ := hq
  exact ⟨by rw [hvr.inv_b], T.hr.below⟩
theorem alive_any {ro : List ABlk} {h : Heap} : callX F1 ro 15 [] h = some (.b true, h, h.length, h.length) := callX_ov (by rfl)

/- a number that is no rule -/
theorem read_not {ro : List ABlk} {h : Heap} {n : Int} (hn : n < 0 ∨ 255 < n) : callX F1 ro 61 [.i .i64 n] h = some (.tup [.i .u8 0, .i .i64 2], h, h.length, h.length) := by
  refine g61_ok (meansX_ok F1 ro) rfl ?_
  unfold g61
  simp only [forceB_eq, ltI_eq]
  by_cases e : n < 0
  · simp only [decide_eq_true e, cond_true, bindO_some, tupA]
    exact fin_pure rfl
  · have e2 : 255 < n := by omega
    simp only [decide_eq_false e, decide_eq_true e2, cond_false, cond_true, bindO_some, tupA]
    exact fin_pure rfl
theorem Rule_not {ro : List ABlk} {h : Heap} {n : Int} (hn : n < 0 ∨ 255 < n) : callX F1 ro 54 [.i .i64 n] h = some (.b false, h, h.length, h.length) := by
  refine g54_ok (meansX_ok F1 ro) rfl ?_
  unfold g54
  simp only [forceB_eq, ltI_eq]
  by_cases e : n < 0
  · simp only [decide_eq_true e, Bool.not_true, cond_false, bindO_some, tupA]
    exact fin_pure rfl
  · have e2 : 255 < n := by omega
    simp only [decide_eq_false e, decide_eq_true e2, Bool.not_false, Bool.not_true, cond_true, bindO_some, tupA]
    exact fin_pure rfl
end Go.Proofs.Ytgbkicelkpagpaa.W

/- The rule's small functions. -/
open Go.Vm
set_option linter.unusedVariables false
namespace Go.Proofs.Ytgbkicelkpagpaa.W
open Go

/-- the bit of a rule -/
def nx (u t : Nat) : Nat := (u >>> t) % 2
theorem next_num : ∀ u, u < 256 → ∀ t, t < 8 → bitV .and .i64 (wr .i64 (shrV .u8 (Int.ofNat u) (Int.ofNat t))) 1 = Int.ofNat (nx u t) := by decide +kernel
theorem next_ok {ro : List ABlk} {h : Heap} {u t : Nat} (hu : u < 256) (ht : t < 8) : callX F1 ro 72 [.i .u8 u, .i .i64 t] h = some (.i .i64 (nx u t : Nat), h, h.length, h.length) := by
  refine g72_ok (meansX_ok F1 ro) rfl ?_
  unfold g72
  have e := next_num u hu t ht
  have e' : bitV .and .i64 (wr .i64 (shrV .u8 (u : Int) (t : Int))) 1 = ((nx u t : Nat) : Int) := e
  simp only [ltI_eq, nneg, chk_true, forceI_eq, e', tupA]
  exact fin_pure rfl
theorem has_num : ∀ s, s < 256 → ∀ t, t < 8 → eqI (bitV .and .u8 (shrV .u8 (Int.ofNat s) (Int.ofNat t)) 1) 1 = Nat.testBit s t := by decide +kernel
theorem has_ok {ro : List ABlk} {h : Heap} {s t : Nat} (hs : s < 256) (ht : t < 8) : callX F1 ro 76 [.i .u8 s, .i .i64 t] h = some (.b (s.testBit t), h, h.length, h.length) := by
  refine g76_ok (meansX_ok F1 ro) rfl ?_
  unfold g76
  have e := has_num s hs t ht
  have e' : eqI (bitV .and .u8 (shrV .u8 (s : Int) (t : Int)) 1) 1 = s.testBit t := e
  simp only [ltI_eq, nneg, chk_true, forceI_eq, e', forceB_eq, tupA]
  exact fin_pure rfl

theorem sm_num : ∀ t, t < 8 → shrV .i64 (Int.ofNat t) 1 = Int.ofNat (t / 2) ∧ bitV .and .i64 (Int.ofNat t) 3 = Int.ofNat (t % 4) := by decide +kernel
theorem p2_lt {k : Nat} (h : k < 8) : 2 ^ k < 256 := by
  have : 2 ^ k ≤ 2 ^ 7 := Nat.pow_le_pow_right (by omega) (by omega)
  omega
def beF (u s c i acc : Nat) : Nat := cond (s.testBit (i % 4) && Nat.beq (nx u i) c) (acc ||| 2 ^ (i / 2)) acc
def beV (u s c : Nat) : Nat := iterF (beF u s c) 8 0 0
theorem behind_ok {ro : List ABlk} {h : Heap} {u s c : Nat} (hu : u < 256) (hs : s < 256) : callX F1 ro 74 [.i .u8 u, .i .u8 s, .i .i64 c] h = some (.i .u8 (beV u s c : Nat), h, h.length, h.length) := by
  refine g74_ok (meansX_ok F1 ro) rfl ?_
  unfold g74
  have hl := loop_acc (b := fun z => g74_b0 (meansX F1 ro) ro u s c z.1 z.2.1 z.2.2) 8 (beF u s c) ⟨h, h.length, h.length⟩ (fun acc => acc < 256) (fun i acc hi hP => by
    obtain ⟨e1, e2⟩ := sm_num i hi
    have e1' : shrV .i64 (i : Int) 1 = ((i / 2 : Nat) : Int) := e1
    have e2' : bitV .and .i64 (i : Int) 3 = ((i % 4 : Nat) : Int) := e2
    have c1 := callM_pure (call := callX F1 ro) (l := h.length) (p := h.length) (has_ok (ro := ro) (h := h) hs (by omega : i % 4 < 8)) (Nat.le_refl _) (Nat.le_refl _)
    have c2 := callM_pure (call := callX F1 ro) (l := h.length) (p := h.length) (next_ok (ro := ro) (h := h) hu hi) (Nat.le_refl _) (Nat.le_refl _)
    have e3 : (((nx u i : Nat) : Int) == (c : Int)) = Nat.beq (nx u i) c := by
      cases hb : Nat.beq (nx u i) c
      · exact beq_eq_false_iff_ne.2 fun e => by
          have : Nat.beq (nx u i) c = true := beq_iff.2 (by omega)
          rw [this] at hb; cases hb
      · rw [beq_iff.1 hb]; simp
    have hl8 : decide ((i : Int) < 8) = true := by simp; omega
    have hor := bit_or hP (p2_lt (by omega : i / 2 < 8))
    have hlt := or_lt hP (p2_lt (by omega : i / 2 < 8))
    unfold beF
    cases hb : s.testBit (i % 4) with
    | false =>
      rw [hb] at c1
      refine ⟨?_, by simpa using hP⟩
      simp only [g74_b0, forceB_eq, ltI_eq, hl8, cond_true, e2', forceI_eq, meansX_call, c1, bindP_some, asB_b, cond_false, bindO_some, wr_next (by omega : i ≤ 1000000), Bool.false_and]
    | true =>
      rw [hb] at c1
      cases hn : Nat.beq (nx u i) c with
      | false =>
        rw [hn] at e3
        refine ⟨?_, by simpa using hP⟩
        simp only [g74_b0, forceB_eq, ltI_eq, hl8, cond_true, e2', forceI_eq, meansX_call, c1, c2, bindP_some, asB_b, asI_i, eqI_eq, e3, cond_false, bindO_some, wr_next (by omega : i ≤ 1000000), Bool.true_and]
      | true =>
        rw [hn] at e3
        refine ⟨?_, by simpa using hlt⟩
        simp only [g74_b0, forceB_eq, ltI_eq, hl8, cond_true, e1', e2', forceI_eq, meansX_call, c1, c2, bindP_some, asB_b, asI_i, eqI_eq, e3, nneg, chk_true, shl_any (by omega : i / 2 ≤ 7), hor, bindO_some, wr_next (by omega : i ≤ 1000000), Bool.true_and]) (fun acc => by
    have : decide ((8 : Int) < 8) = false := rfl
    show g74_b0 (meansX F1 ro) ro u s c acc 8 _ = _
    simp only [g74_b0, forceB_eq, ltI_eq, this, cond_false]) 8 0 0 (by omega) (by omega)
  have hl2 := hl.1
  have e0 : ((0 : Nat) : Int) = 0 := rfl
  rw [e0] at hl2
  simp only [meansX_loop, hl2, bindO_some, tupA]
  exact fin_pure rfl

/- sixteen bits -/
end Go.Proofs.Ytgbkicelkpagpaa.W

/- Tables: the orphan of each rule, and whether it is one to one; reckoned. -/
open Go.Vm
set_option linter.unusedVariables false
namespace Go.Proofs.Ytgbkicelkpagpaa.W
open Go

end Go.Proofs.Ytgbkicelkpagpaa.W

/- The reference's orphans, reckoned; Eden and Onto. -/
open Go.Vm
set_option linter.unusedVariables false
namespace Go.Proofs.Ytgbkicelkpagpaa.W
open Go

theorem becomes_num : ∀ n, n < 256 → ∀ t, t < 8 → Int.tmod (shrV .i64 (Int.ofNat n) (Int.ofNat t)) 2 = Int.ofNat (nx n t) := by decide +kernel
theorem becomes_ok {ro : List ABlk} {h : Heap} {n l c r : Nat} (hn : n < 256) (hl : l < 2) (hc : c < 2) (hr : r < 2) :
    callX F1 ro 49 [.i .i64 n, .i .i64 l, .i .i64 c, .i .i64 r] h = some (.i .i64 (nx n (4 * l + 2 * c + r) : Nat), h, h.length, h.length) := by
  refine g49_ok (meansX_ok F1 ro) rfl ?_
  unfold g49
  have e1 : wr .i64 (4 * (l : Int)) = 4 * (l : Int) := wr_id' (by omega) (by omega)
  have e2 : wr .i64 (2 * (c : Int)) = 2 * (c : Int) := wr_id' (by omega) (by omega)
  have e3 : wr .i64 (4 * (l : Int) + 2 * (c : Int)) = 4 * (l : Int) + 2 * (c : Int) := wr_id' (by omega) (by omega)
  have e4 : wr .i64 (4 * (l : Int) + 2 * (c : Int) + (r : Int)) = ((4 * l + 2 * c + r : Nat) : Int) := by rw [wr_id' (by omega) (by omega)]; omega
  have e5 : Int.tmod (shrV .i64 (n : Int) ((4 * l + 2 * c + r : Nat) : Int)) 2 = ((nx n (4 * l + 2 * c + r) : Nat) : Int) := becomes_num n hn _ (by omega)
  simp only [forceI_eq, e1, e2, e3, e4, ltI_eq, nneg, chk_true, e5, tupA]
  exact fin_pure rfl

end Go.Proofs.Ytgbkicelkpagpaa.W

/- Rows of plots: what is read, and the errors. -/
open Go.Vm
set_option linter.unusedVariables false
namespace Go.Proofs.Ytgbkicelkpagpaa.W
open Go

/- strings -/
theorem e_len (w : List UInt8) : evP .e (.len true (.c (.s w))) = some (.i .i64 (w.length : Nat)) := by simp only [evP, ev_len, opd, cond_true, mkI, forceI_eq]
theorem e_eq (a b : List UInt8) : evP .e (.sbin BinOp.eql (.c (.s a)) (.c (.s b))) = some (.b (eqL a b)) := rfl
theorem e_neq (a b : List UInt8) : evP .e (.sbin BinOp.neq (.c (.s a)) (.c (.s b))) = some (.b (!eqL a b)) := rfl
theorem e_x0 (a b : AVal) : evP .e (.ext 0 (.c (.tup [a, b]))) = some a := rfl
theorem e_x1 (a b : AVal) : evP .e (.ext 1 (.c (.tup [a, b]))) = some b := rfl
theorem asS_s {β : Type} (x : List UInt8) (f : List UInt8 → Option β) : asS (.s x) f = f x := rfl
theorem eqL_self (a : List UInt8) : eqL a a = true := by rw [eqL_eq]; exact beq_self_eq_true a
theorem eqL_nil (a : List UInt8) : eqL a [] = a.isEmpty := by rw [eqL_eq]; cases a <;> rfl
theorem lget_at {α : Type} : ∀ (l : List α) (i : Nat) (d : α), i < l.length → lget l i = some (l.getD i d)
  | a :: l, 0, d, _ => rfl
  | a :: l, i + 1, d, h => by
    have := lget_at l i d (by simpa using h)
    simpa [lget] using this
/-- the letter at a place -/
def ch (s : List UInt8) (i : Nat) : Nat := (s.getD i 0).toNat
theorem ch_lt (s : List UInt8) (i : Nat) : ch s i < 256 := (s.getD i 0).toNat_lt
theorem e_ix {s : List UInt8} {i : Nat} (h : i < s.length) : evP .e (.ixStr (.c (.s s)) (.c (.i .i64 (i : Int)))) = some (.i .u8 (ch s i : Nat)) := by
  show (lget s i).map (fun c => mkI .u8 c.toNat) = _
  rw [lget_at s i 0 h]
  simp only [Option.map_some, mkI, forceI_eq]
  rfl

/-- is it a letter of a row? -/
def bad (s : List UInt8) (i : Nat) : Bool := !Nat.beq (ch s i) 48 && !Nat.beq (ch s i) 49
theorem num_eq (a b : Nat) : ((a : Int) == (b : Int)) = Nat.beq a b := by
  cases hb : Nat.beq a b
  · exact beq_eq_false_iff_ne.2 fun e => by
      have : Nat.beq a b = true := beq_iff.2 (by omega)
      rw [this] at hb; cases hb
  · rw [beq_iff.1 hb]; simp
/-- is there a letter that no row has? -/
def badR (s : List UInt8) : Bool := (List.range s.length).any (bad s)
def rowE (s : List UInt8) (most : Int) : Int := if most < (s.length : Int) then 3 else if s.isEmpty = true then 5 else if badR s = true then 5 else 0
theorem first_any {R : Type} {P : Nat → Bool} {k : Nat} {r : R} : firstS (fun i => cond (P i) (some r) none) k 0 = cond ((List.range k).any P) (some r) none := by
  have h := first_ex (R := R) (P := fun i => P i = true) (k := k) (r := r)
  have e : (fun i => cond (P i) (some r) none) = fun i => if P i = true then some r else none := by funext i; cases P i <;> rfl
  rw [e, h]
  cases hb : (List.range k).any P
  · rw [if_neg]; rfl
    rintro ⟨i, h1, h2⟩
    rw [← Bool.not_eq_true] at hb
    exact hb (List.any_eq_true.2 ⟨i, List.mem_range.2 h1, h2⟩)
  · rw [if_pos]; rfl
    obtain ⟨i, h1, h2⟩ := List.any_eq_true.1 hb
    exact ⟨i, List.mem_range.1 h1, h2⟩

theorem Row_ok {ro : List ABlk} {h : Heap} {s : List UInt8} {most : Int} (hs : s.length ≤ 1000000) : callX F1 ro 43 [.s s, .i .i64 most] h = some (.i .i64 (rowE s most), h, h.length, h.length) := by
  refine g43_ok (meansX_ok F1 ro) rfl ?_
  unfold g43
  simp only [e_len, bindO_some, asI_i, ltI_eq, forceB_eq, eqI_eq]
  unfold rowE
  by_cases h1 : most < (s.length : Int)
  · simp only [decide_eq_true h1, cond_true, if_pos h1, tupA]
    exact fin_pure rfl
  · simp only [decide_eq_false h1, cond_false, if_neg h1]
    have e0 : ((s.length : Int) == 0) = s.isEmpty := by
      cases s
      · rfl
      · simp; omega
    rw [e0]
    cases he : s.isEmpty
    · simp only [cond_false, Bool.false_eq_true, if_false]
      have hl := loop_first (R := Int) (b := fun z => g43_b0 (meansX F1 ro) ro s ⟨h, h.length, h.length⟩ z) s.length (fun i => cond (bad s i) (some 5) none) (by
        have : ¬ ((s.length : Int) < (s.length : Int)) := by omega
        simp only [g43_b0, e_len, bindO_some, asI_i, ltI_eq, forceB_eq, decide_eq_false this, cond_false]) (fun i hi => by
        have hlt : ((i : Int) < (s.length : Int)) := by omega
        have e1 := num_eq (ch s i) 48
        have e2 := num_eq (ch s i) 49
        simp only [g43_b0, e_len, bindO_some, asI_i, ltI_eq, forceB_eq, decide_eq_true hlt, cond_true, e_ix hi, eqI_eq]
        have e1' : (((ch s i : Nat) : Int) == 48) = Nat.beq (ch s i) 48 := e1
        have e2' : (((ch s i : Nat) : Int) == 49) = Nat.beq (ch s i) 49 := e2
        simp only [e1', e2', bad, forceI_eq, wr_next (by omega : i ≤ 1000000)]
        cases Nat.beq (ch s i) 48 <;> cases Nat.beq (ch s i) 49 <;> rfl) s.length 0 (by omega)
      rw [first_any] at hl
      have e00 : ((0 : Nat) : Int) = 0 := rfl
      rw [e00] at hl
      simp only [meansX_loop, hl, bindO_some]
      unfold badR
      cases (List.range s.length).any (bad s)
      · simp only [cond_false, outS, Bool.false_eq_true, if_false, tupA]
        exact fin_pure rfl
      · simp only [cond_true, outS, if_true, tupA]
        exact fin_pure rfl
    · simp only [cond_true, if_true, tupA]
      exact fin_pure rfl

theorem u8_num : ∀ n, n < 256 → wr .u8 (Int.ofNat n) = Int.ofNat n := by decide +kernel
theorem rule_ok {ro : List ABlk} {h : Heap} {n : Nat} (hn : n < 256) : callX F1 ro 61 [.i .i64 n] h = some (.tup [.i .u8 n, .i .i64 0], h, h.length, h.length) := by
  refine g61_ok (meansX_ok F1 ro) rfl ?_
  unfold g61
  have a1 : ¬ ((n : Int) < 0) := by omega
  have a2 : ¬ ((255 : Int) < (n : Int)) := by omega
  have a3 : wr .u8 (n : Int) = (n : Int) := u8_num n hn
  simp only [forceB_eq, ltI_eq, decide_eq_false a1, decide_eq_false a2, cond_false, bindO_some, forceI_eq, a3, tupA]
  exact fin_pure rfl
theorem Rule_ok {ro : List ABlk} {h : Heap} {n : Nat} (hn : n < 256) : callX F1 ro 54 [.i .i64 n] h = some (.b true, h, h.length, h.length) := by
  refine g54_ok (meansX_ok F1 ro) rfl ?_
  unfold g54
  have a1 : ¬ ((n : Int) < 0) := by omega
  have a2 : ¬ ((255 : Int) < (n : Int)) := by omega
  simp only [forceB_eq, ltI_eq, decide_eq_false a1, decide_eq_false a2, Bool.not_false, cond_true, bindO_some, tupA]
  exact fin_pure rfl

/-- the reference's errors of a rule and a row -/
def askE (n : Int) (s : List UInt8) (most : Int) : Int := if n < 0 ∨ 255 < n then 2 else rowE s most
theorem asked_ok {ro : List ABlk} {h : Heap} {n : Int} {s : List UInt8} {most : Int} (hs : s.length ≤ 1000000) : callX F1 ro 47 [.i .i64 n, .s s, .i .i64 most] h = some (.i .i64 (askE n s most), h, h.length, h.length) := by
  refine g47_ok (meansX_ok F1 ro) rfl ?_
  unfold g47
  have c2 := callM_pure (call := callX F1 ro) (l := h.length) (p := h.length) (Row_ok (ro := ro) (h := h) (most := most) hs) (Nat.le_refl _) (Nat.le_refl _)
  unfold askE
  by_cases hn : n < 0 ∨ 255 < n
  · have c1 := callM_pure (call := callX F1 ro) (l := h.length) (p := h.length) (Rule_not (ro := ro) (h := h) hn) (Nat.le_refl _) (Nat.le_refl _)
    simp only [meansX_call, c1, bindP_some, asB_b, forceB_eq, Bool.not_false, cond_true, if_pos hn, tupA]
    exact fin_pure rfl
  · obtain ⟨k, rfl⟩ : ∃ k : Nat, n = (k : Int) := ⟨n.toNat, by omega⟩
    have c1 := callM_pure (call := callX F1 ro) (l := h.length) (p := h.length) (Rule_ok (ro := ro) (h := h) (by omega : k < 256)) (Nat.le_refl _) (Nat.le_refl _)
    simp only [meansX_call, c1, c2, bindP_some, asB_b, asI_i, forceB_eq, Bool.not_true, cond_false, if_neg hn, tupA]
    exact fin_pure rfl

/-- what read answers: the rule, or 0, and the error -/
def rdU (n : Int) (s : List UInt8) : Int := if askE n s 400 = 0 then n else 0
theorem read_ok {ro : List ABlk} {h : Heap} {n : Int} {s : List UInt8} : callX F1 ro 45 [.i .i64 n, .s s] h = some (.tup [.i .u8 (rdU n s), .i .i64 (askE n s 400)], h, h.length, h.length) := by
  refine g45_ok (meansX_ok F1 ro) rfl ?_
  unfold g45
  have z0 : ((0 : Int) == 0) = true := rfl
  have z2 : ((2 : Int) == 0) = false := rfl
  by_cases hn : n < 0 ∨ 255 < n
  · have c1 := callM_pure (call := callX F1 ro) (l := h.length) (p := h.length) (read_not (ro := ro) (h := h) hn) (Nat.le_refl _) (Nat.le_refl _)
    have ha : askE n s 400 = 2 := if_pos hn
    have hu : rdU n s = 0 := if_neg (by rw [ha]; omega)
    simp only [meansX_call, c1, bindP_some, e_x0, e_x1, bindO_some, asI_i, eqI_eq, z2, forceB_eq, Bool.not_false, cond_true, ha, hu, tupA]
    exact fin_pure rfl
  · obtain ⟨k, rfl⟩ : ∃ k : Nat, n = (k : Int) := ⟨n.toNat, by omega⟩
    have c1 := callM_pure (call := callX F1 ro) (l := h.length) (p := h.length) (rule_ok (ro := ro) (h := h) (by omega : k < 256)) (Nat.le_refl _) (Nat.le_refl _)
    have ha : askE k s 400 = rowE s 400 := if_neg hn
    unfold rdU
    rw [ha]
    unfold rowE
    simp only [meansX_call, c1, bindP_some, e_x0, e_x1, bindO_some, asI_i, asB_b, eqI_eq, z0, forceB_eq, Bool.not_true, cond_false, e_len, ltI_eq, e_eq, eqL_nil]
    by_cases h1 : (400 : Int) < (s.length : Int)
    · simp only [decide_eq_true h1, cond_true, if_pos h1, tupA, (by decide : ¬ ((3 : Int) = 0)), if_false]
      exact fin_pure rfl
    · simp only [decide_eq_false h1, cond_false, if_neg h1]
      cases he : s.isEmpty
      · simp only [cond_false, Bool.false_eq_true, if_false]
        have hl := loop_first (R := Int × Int) (b := fun z => g45_b0 (meansX F1 ro) ro s k s.length ⟨h, h.length, h.length⟩ z) s.length (fun i => cond (bad s i) (some (0, 5)) none) (by
          have : ¬ ((s.length : Int) < (s.length : Int)) := by omega
          simp only [g45_b0, bindO_some, ltI_eq, forceB_eq, decide_eq_false this, cond_false]) (fun i hi => by
          have hlt : ((i : Int) < (s.length : Int)) := by omega
          have e1' : (((ch s i : Nat) : Int) == 48) = Nat.beq (ch s i) 48 := num_eq (ch s i) 48
          have e2' : (((ch s i : Nat) : Int) == 49) = Nat.beq (ch s i) 49 := num_eq (ch s i) 49
          simp only [g45_b0, bindO_some, asI_i, ltI_eq, forceB_eq, decide_eq_true hlt, cond_true, e_ix hi, eqI_eq, e1', e2', bad, forceI_eq, wr_next (by omega : i ≤ 1000000)]
          cases Nat.beq (ch s i) 48 <;> cases Nat.beq (ch s i) 49 <;> rfl) s.length 0 (by omega)
        rw [first_any] at hl
        have e00 : ((0 : Nat) : Int) = 0 := rfl
        rw [e00] at hl
        simp only [meansX_loop, hl, bindO_some]
        unfold badR
        cases (List.range s.length).any (bad s)
        · simp only [cond_false, outS, Bool.false_eq_true, if_false, if_true, tupA]
          exact fin_pure rfl
        · simp only [cond_true, outS, if_true, tupA, (by decide : ¬ ((5 : Int) = 0)), if_false]
          exact fin_pure rfl
      · simp only [cond_true, if_true, tupA, (by decide : ¬ ((5 : Int) = 0)), if_false]
        exact fin_pure rfl
end Go.Proofs.Ytgbkicelkpagpaa.W

/- Walks and Ways. -/
open Go.Vm
set_option linter.unusedVariables false
namespace Go.Proofs.Ytgbkicelkpagpaa.W
open Go

/- four numbers in memory -/
def agg4 (f : Nat → Nat) : AVal := .agg [.i .i64 (f 0 : Nat), .i .i64 (f 1 : Nat), .i .i64 (f 2 : Nat), .i .i64 (f 3 : Nat)]
abbrev V4 (hp : Heap) (b : Nat) (f : Nat → Nat) : Prop := Vec hp 63 b 4 (fun j => .i .i64 (f j : Nat))
theorem V4.ld4 {ro : List ABlk} {hp : Heap} {b : Nat} {f : Nat → Nat} (h : V4 hp b f) {l p : Nat} : ldM ro ⟨hp, l, p⟩ false 4 (.p (some ⟨false, b, 0⟩)) = some (agg4 f) := by
  obtain ⟨blk, h1, h2, h3, h4⟩ := h
  have hb : Nat.ble (0 + 4) blk.n = true := by rw [Nat.ble_eq]; omega
  simp only [ldM, rd, rdB_heap h1, cond_false, hb, cond_true]
  show some (AVal.agg [blk.c.get 0, blk.c.get 1, blk.c.get 2, blk.c.get 3]) = _
  rw [h4 0 (by omega), h4 1 (by omega), h4 2 (by omega), h4 3 (by omega)]
  rfl
theorem V4.st4 {ro : List ABlk} {hp : Heap} {b : Nat} {g : Nat → AVal} (h : Vec hp 63 b 4 g) (f : Nat → Nat) {l p : Nat} :
    ∃ y, stepM ro ⟨hp, l, p⟩ (.st 4 (.c (.p (some ⟨false, b, 0⟩))) (.c (agg4 f))) = some (und, ⟨hp.set b y, min l b, p⟩) ∧ V4 (hp.set b y) b f := by
  obtain ⟨blk, h1, h2, h3, h4⟩ := h
  refine ⟨some { blk with c := blk.c.splice 0 [.i .i64 (f 0 : Nat), .i .i64 (f 1 : Nat), .i .i64 (f 2 : Nat), .i .i64 (f 3 : Nat)] }, ?_, { blk with c := blk.c.splice 0 [.i .i64 (f 0 : Nat), .i .i64 (f 1 : Nat), .i .i64 (f 2 : Nat), .i .i64 (f 3 : Nat)] }, lget_set h1 _, h2, h3, fun r hr => ?_⟩
  · have hb : Nat.ble 4 blk.n = true := by rw [Nat.ble_eq]; omega
    have ho : (Nat.ble 4 blk.n && ones [AVal.i .i64 (f 0 : Nat), .i .i64 (f 1 : Nat), .i .i64 (f 2 : Nat), .i .i64 (f 3 : Nat)]) = true := by rw [hb]; rfl
    simp only [stepM, stepK, opd, agg4, AVal.cells, st_st, List.length_cons, List.length_nil, Nat.zero_add, wrH, cond_false, h1]
    simp only [show Nat.beq (0 + 1 + 1 + 1 + 1) 4 = true from rfl, cond_true, ho, lset_eq, St.mm]
    rfl
  · show ((((blk.c.set 0 (.i .i64 (f 0 : Nat))).set 1 (.i .i64 (f 1 : Nat))).set 2 (.i .i64 (f 2 : Nat))).set 3 (.i .i64 (f 3 : Nat))).get r = _
    rw [get_set, get_set, get_set, get_set]
    have : r = 0 ∨ r = 1 ∨ r = 2 ∨ r = 3 := by omega
    rcases this with rfl | rfl | rfl | rfl <;> simp
theorem blk4 (hp : Heap) (f : Nat → Nat) : V4 (hp ++ [some (blkOf 63 [.i .i64 (f 0 : Nat), .i .i64 (f 1 : Nat), .i .i64 (f 2 : Nat), .i .i64 (f 3 : Nat)])]) hp.length f :=
  ⟨_, lget_last _ _, rfl, Nat.le_refl 4, fun r hr => by
    rw [get_blk]
    have : r = 0 ∨ r = 1 ∨ r = 2 ∨ r = 3 := by omega
    rcases this with rfl | rfl | rfl | rfl <;> rfl⟩
theorem bx4 {ro : List ABlk} {hp : Heap} {l p : Nat} (f : Nat → Nat) :
    stepM ro ⟨hp, l, p⟩ (.bx 63 4 (.c (agg4 f))) = some (.p (some ⟨false, hp.length, 0⟩), ⟨hp ++ [some (blkOf 63 [.i .i64 (f 0 : Nat), .i .i64 (f 1 : Nat), .i .i64 (f 2 : Nat), .i .i64 (f 3 : Nat)])], l, p⟩) := rfl
theorem al4 {ro : List ABlk} {hp : Heap} {l p : Nat} :
    stepM ro ⟨hp, l, p⟩ (.al 63 [(AVal.i IntKind.i64 0), (AVal.i IntKind.i64 0), (AVal.i IntKind.i64 0), (AVal.i IntKind.i64 0)]) = some (.p (some ⟨false, hp.length, 0⟩), ⟨hp ++ [some (blkOf 63 [(AVal.i IntKind.i64 0), (AVal.i IntKind.i64 0), (AVal.i IntKind.i64 0), (AVal.i IntKind.i64 0)])], l, p⟩) := rfl
theorem blk4_0 (hp : Heap) : V4 (hp ++ [some (blkOf 63 [(AVal.i IntKind.i64 0), (AVal.i IntKind.i64 0), (AVal.i IntKind.i64 0), (AVal.i IntKind.i64 0)])]) hp.length (fun _ => 0) := blk4 hp (fun _ => 0)
theorem ixA4 {b i : Nat} (hi : i < 4) : evP .e (.ixA 4 1 (.c (.p (some ⟨false, b, 0⟩))) (.c (.i .i64 (i : Int)))) = some (.p (some ⟨false, b, 0 + i⟩)) := by
  have : Nat.blt i 4 = true := by rw [Nat.blt_eq]; exact hi
  have e : ((i : Int)) = Int.ofNat i := rfl
  simp only [evP, ev_ixA, opd, e, atI, this, cond_true, Nat.mul_one]

/- the letter as a number -/
def bw (s : List UInt8) (i : Nat) : Nat := ch s i - 48
theorem bit_num : ∀ c, c < 256 → 48 ≤ c → wr .i64 (wr .u8 (Int.ofNat c - 48)) = Int.ofNat (c - 48) := by decide +kernel
theorem bit_ok {ro : List ABlk} {h : Heap} {c : Nat} (hc : c < 256) (h48 : 48 ≤ c) : callX F1 ro 73 [.i .u8 c] h = some (.i .i64 (c - 48 : Nat), h, h.length, h.length) := by
  refine g73_ok (meansX_ok F1 ro) rfl ?_
  unfold g73
  have e : wr .i64 (wr .u8 ((c : Int) - 48)) = ((c - 48 : Nat) : Int) := bit_num c hc h48
  simp only [forceI_eq, e, tupA]
  exact fin_pure rfl

/- one letter more: how many walks end in each pair -/
def st1 (u c : Nat) (at' to : Nat → Nat) (t : Nat) : Nat → Nat := if nx u t = c then fun j => if j = t % 4 then to j + at' (t / 2) else to j else to
def stp (u c : Nat) (at' : Nat → Nat) : Nat → Nat → Nat
  | 0 => fun _ => 0
  | k + 1 => st1 u c at' (stp u c at' k) k
def nxt (u c : Nat) (at' : Nat → Nat) : Nat → Nat := stp u c at' 8
def wkN (u : Nat) (s : List UInt8) (from' : Nat → Nat) : Nat → Nat → Nat
  | 0 => from'
  | k + 1 => nxt u (bw s k) (wkN u s from' k)
theorem stp_le {u c X : Nat} {at' : Nat → Nat} (h : ∀ j, j < 4 → at' j ≤ X) : ∀ k, k ≤ 8 → ∀ j, j < 4 → stp u c at' k j ≤ (k + 3 - j) / 4 * X
  | 0, _, j, _ => Nat.zero_le _
  | k + 1, hk, j, hj => by
    have ih := stp_le (u := u) (c := c) h k (by omega) j hj
    have ha := h (k / 2) (by omega)
    have hm : (k + 3 - j) / 4 * X ≤ (k + 1 + 3 - j) / 4 * X := Nat.mul_le_mul_right _ (Nat.div_le_div_right (by omega))
    show st1 u c at' (stp u c at' k) k j ≤ _
    unfold st1
    by_cases e : nx u k = c
    · rw [if_pos e]
      show (if j = k % 4 then _ else _) ≤ _
      by_cases e2 : j = k % 4
      · rw [if_pos e2]
        have : (k + 1 + 3 - j) / 4 = (k + 3 - j) / 4 + 1 := by omega
        rw [this, Nat.add_mul, Nat.one_mul]
        omega
      · rw [if_neg e2]; omega
    · rw [if_neg e]; omega
theorem nxt_le {u c X : Nat} {at' : Nat → Nat} (h : ∀ j, j < 4 → at' j ≤ X) {j : Nat} (hj : j < 4) : nxt u c at' j ≤ 2 * X := by
  have := stp_le (u := u) (c := c) h 8 (Nat.le_refl _) j hj
  have e : (8 + 3 - j) / 4 = 2 := by omega
  rw [e] at this
  exact this
theorem wkN_le {u : Nat} {s : List UInt8} {from' : Nat → Nat} (h : ∀ j, j < 4 → from' j ≤ 1) : ∀ i j, j < 4 → wkN u s from' i j ≤ 2 ^ i
  | 0, j, hj => h j hj
  | i + 1, j, hj => by
    have := nxt_le (u := u) (c := bw s i) (at' := wkN u s from' i) (X := 2 ^ i) (fun j hj => wkN_le h i j hj) hj
    have e : 2 ^ (i + 1) = 2 * 2 ^ i := by rw [Nat.pow_succ]; omega
    rw [e]; exact this

def okR (s : List UInt8) : Prop := ∀ i, i < s.length → ch s i = 48 ∨ ch s i = 49
theorem inner_ok {ro : List ABlk} {h hp : Heap} {u b7 b9 i : Nat} {s : List UInt8} {at' : Nat → Nat} {v6 : AVal} {x13 : Int} (hu : u < 256) (hi : i < s.length) (hs : okR s) (hL : h.length ≤ hp.length) (h7 : V4 hp b7 at') (h9 : V4 hp b9 (fun _ => 0)) (hne : b7 ≠ b9)
    (h9L : h.length ≤ b9) (hX : ∀ j, j < 4 → at' j ≤ 1125899906842624) :
    ∃ hp', loopX (fun z => g57_b1 (meansX F1 ro) ro u s v6 (.p (some ⟨false, b7, 0⟩)) i (.p (some ⟨false, b9, 0⟩)) x13 z.1 z.2) (0, ⟨hp, h.length, h.length⟩) = some ⟨hp', h.length, h.length⟩ ∧ V4 hp' b9 (nxt u (bw s i) at') ∧ hp'.length = hp.length ∧ ∀ k, k ≠ b9 → hp'[k]? = hp[k]? := by
  have key := loop_all (b := fun z => g57_b1 (meansX F1 ro) ro u s v6 (.p (some ⟨false, b7, 0⟩)) i (.p (some ⟨false, b9, 0⟩)) x13 z.1 z.2) 8
    (fun k m => ∃ hp', m = ⟨hp', h.length, h.length⟩ ∧ V4 hp' b9 (stp u (bw s i) at' k) ∧ hp'.length = hp.length ∧ ∀ k, k ≠ b9 → hp'[k]? = hp[k]?)
    (fun k m hk hI => by
      obtain ⟨hp', rfl, hv, hl, hkeep⟩ := hI
      have hv7 : V4 hp' b7 at' := h7.keep (hkeep b7 hne)
      have hk8 : ((k : Int) < 8) := by omega
      have hc48 : 48 ≤ ch s i := by rcases hs i hi with e | e <;> omega
      have c1 := callM_pure (call := callX F1 ro) (l := h.length) (p := h.length) (next_ok (ro := ro) (h := hp') hu hk) (by omega) (by omega)
      have c2 := callM_pure (call := callX F1 ro) (l := h.length) (p := h.length) (bit_ok (ro := ro) (h := hp') (ch_lt s i) hc48) (by omega) (by omega)
      obtain ⟨e1, e2⟩ := sm_num k hk
      have e1' : shrV .i64 (k : Int) 1 = ((k / 2 : Nat) : Int) := e1
      have e2' : bitV .and .i64 (k : Int) 3 = ((k % 4 : Nat) : Int) := e2
      have hsum : stp u (bw s i) at' k (k % 4) + at' (k / 2) ≤ 9007199254740992 := by
        have a1 := stp_le (u := u) (c := bw s i) hX k (by omega) (k % 4) (by omega)
        have a2 := hX (k / 2) (by omega)
        have a3 : (k + 3 - k % 4) / 4 * 1125899906842624 ≤ 2 * 1125899906842624 := Nat.mul_le_mul_right _ (by omega)
        omega
      have ew : wr .i64 (((stp u (bw s i) at' k (k % 4) : Nat) : Int) + ((at' (k / 2) : Nat) : Int)) = ((stp u (bw s i) at' k (k % 4) + at' (k / 2) : Nat) : Int) := by rw [wr_id' (by omega) (by omega)]; omega
      have hcmp := num_eq (nx u k) (ch s i - 48)
      cases hb : Nat.beq (nx u k) (ch s i - 48)
      · rw [hb] at hcmp
        refine ⟨⟨hp', h.length, h.length⟩, ?_, hp', rfl, ?_, hl, hkeep⟩
        · simp only [g57_b1, forceB_eq, ltI_eq, decide_eq_true hk8, cond_true, e_ix hi, bindO_some, asI_i, meansX_call, c1, c2, bindP_some, eqI_eq, hcmp, cond_false, forceI_eq, wr_next (by omega : k ≤ 1000000)]
        · show V4 hp' b9 (st1 u (bw s i) at' (stp u (bw s i) at' k) k)
          unfold st1
          rw [if_neg (fun e => by rw [show nx u k = ch s i - 48 from e, Nat.beq_refl] at hb; cases hb)]
          exact hv
      · rw [hb] at hcmp
        obtain ⟨y, g1, g2⟩ := Vec.wr (ro := ro) (l := h.length) (p := h.length) hv (r := k % 4) (by omega) (v := .i .i64 ((stp u (bw s i) at' k (k % 4) + at' (k / 2) : Nat) : Int)) rfl rfl
        refine ⟨⟨hp'.set b9 y, h.length, h.length⟩, ?_, _, rfl, ?_, by simp [hl], fun k' hk' => by rw [List.getElem?_set_ne (Ne.symm hk')]; exact hkeep k' hk'⟩
        · have l9 := Vec.lda (ro := ro) hv (i := k % 4) (by omega)
          have l7 := Vec.lda (ro := ro) hv7 (i := k / 2) (by omega)
          rw [Nat.min_eq_left h9L] at g1
          simp only [g57_b1, forceB_eq, ltI_eq, decide_eq_true hk8, cond_true, e_ix hi, bindO_some, asI_i, meansX_call, c1, c2, bindP_some, eqI_eq, hcmp, forceI_eq, e1', e2', ixA4 (by omega : k % 4 < 4), ixA4 (by omega : k / 2 < 4), l9, l7, ew, asP_p, AVal.cells, g1, wr_next (by omega : k ≤ 1000000)]
        · refine g2.congr fun r hr => ?_
          show _ = AVal.i .i64 ((st1 u (bw s i) at' (stp u (bw s i) at' k) k r : Nat) : Int)
          unfold st1
          rw [if_pos (beq_iff.1 hb : nx u k = bw s i)]
          show _ = AVal.i .i64 (((if r = k % 4 then _ else _ : Nat)) : Int)
          by_cases e : r = k % 4
          · rw [if_pos e, if_pos e, e]
          · rw [if_neg e, if_neg e])
    (fun m hI => by
      have : decide ((8 : Int) < 8) = false := rfl
      show g57_b1 (meansX F1 ro) ro u s v6 (.p (some ⟨false, b7, 0⟩)) i (.p (some ⟨false, b9, 0⟩)) x13 8 m = _
      simp only [g57_b1, forceB_eq, ltI_eq, this, cond_false])
    8 0 ⟨hp, h.length, h.length⟩ rfl ⟨hp, rfl, h9, rfl, fun _ _ => rfl⟩
  obtain ⟨m', h1, hp', rfl, h2, h3, h4⟩ := key
  exact ⟨hp', h1, h2, h3, h4⟩
end Go.Proofs.Ytgbkicelkpagpaa.W

/- Walks, Ways: what they answer. -/
open Go.Vm
set_option linter.unusedVariables false
namespace Go.Proofs.Ytgbkicelkpagpaa.W
open Go

theorem pow50 {i : Nat} (h : i ≤ 50) : 2 ^ i ≤ 1125899906842624 := Nat.le_trans (Nat.pow_le_pow_right (by omega) h) (by decide)
theorem len_app (hp : Heap) (x : Option ABlk) : (hp ++ [x]).length = hp.length + 1 := by simp
theorem get_app {hp : Heap} {x : Option ABlk} {k : Nat} (h : k < hp.length) : (hp ++ [x])[k]? = hp[k]? := List.getElem?_append_left h
theorem walks_ok {ro : List ABlk} {h : Heap} {u : Nat} {s : List UInt8} {f : Nat → Nat} (hu : u < 256) (hs : okR s) (hl : s.length ≤ 50) (hf : ∀ j, j < 4 → f j ≤ 1) :
    callX F1 ro 57 [.i .u8 u, .s s, agg4 f] h = some (agg4 (wkN u s f s.length), h, h.length, h.length) := by
  refine g57_ok (meansX_ok F1 ro) rfl ?_
  unfold g57
  -- the three blocks
  have hp1 : V4 _ h.length f := blk4 h f
  have hb1 := bx4 (ro := ro) (hp := h) (l := h.length) (p := h.length) f
  generalize hB1 : h ++ [some (blkOf 63 [.i .i64 (f 0 : Nat), .i .i64 (f 1 : Nat), .i .i64 (f 2 : Nat), .i .i64 (f 3 : Nat)])] = H1 at hp1 hb1
  have hL1 : H1.length = h.length + 1 := by rw [← hB1]; exact len_app _ _
  have hK1 : ∀ k, k < h.length → H1[k]? = h[k]? := fun k hk => by rw [← hB1]; exact get_app hk
  have hb2 := al4 (ro := ro) (hp := H1) (l := h.length) (p := h.length)
  have hp2 := blk4_0 H1
  generalize hB2 : H1 ++ [some (blkOf 63 [(AVal.i IntKind.i64 0), (AVal.i IntKind.i64 0), (AVal.i IntKind.i64 0), (AVal.i IntKind.i64 0)])] = H2 at hb2 hp2
  have hL2 : H2.length = h.length + 2 := by rw [← hB2, len_app]; omega
  have hK2 : ∀ k, k < h.length + 1 → H2[k]? = H1[k]? := fun k hk => by rw [← hB2]; exact get_app (by omega)
  have hp1' : V4 H2 h.length f := hp1.keep (hK2 _ (by omega))
  have hb3 := al4 (ro := ro) (hp := H2) (l := h.length) (p := h.length)
  have hp3 := blk4_0 H2
  generalize hB3 : H2 ++ [some (blkOf 63 [(AVal.i IntKind.i64 0), (AVal.i IntKind.i64 0), (AVal.i IntKind.i64 0), (AVal.i IntKind.i64 0)])] = H3 at hb3 hp3
  have hL3 : H3.length = h.length + 3 := by rw [← hB3, len_app]; omega
  have hK3 : ∀ k, k < h.length + 2 → H3[k]? = H2[k]? := fun k hk => by rw [← hB3]; exact get_app (by omega)
  have hp2' : V4 H3 H1.length (fun _ => 0) := hp2.keep (hK3 _ (by omega))
  obtain ⟨y, hst, hp4⟩ := V4.st4 (ro := ro) (l := h.length) (p := h.length) hp3 f
  rw [Nat.min_eq_left (by omega)] at hst
  have hK4 : ∀ k, k ≠ H2.length → (H3.set H2.length y)[k]? = H3[k]? := fun k hk => List.getElem?_set_ne (Ne.symm hk)
  have hp2'' : V4 (H3.set H2.length y) H1.length (fun _ => 0) := hp2'.keep (hK4 _ (by omega))
  have hL4 : (H3.set H2.length y).length = h.length + 3 := by rw [List.length_set]; exact hL3
  have hkeep4 : ∀ k, k < h.length → (H3.set H2.length y)[k]? = h[k]? := fun k hk => by rw [hK4 k (by omega), hK3 k (by omega), hK2 k (by omega), hK1 k hk]
  have key := loop_all (b := fun z => g57_b0 (meansX F1 ro) ro u s (.p (some ⟨false, H1.length, 0⟩)) (.p (some ⟨false, H2.length, 0⟩)) s.length z.1 z.2) s.length
    (fun k m => ∃ hp', m = ⟨hp', h.length, h.length⟩ ∧ V4 hp' H2.length (wkN u s f k) ∧ V4 hp' H1.length (fun _ => 0) ∧ h.length + 3 ≤ hp'.length ∧ ∀ k, k < h.length → hp'[k]? = h[k]?)
    (fun k m hk hI => by
      obtain ⟨hp', rfl, hv7, hv6, hlen, hkeep⟩ := hI
      have hkl : ((k : Int) < (s.length : Int)) := by omega
      have ha := al4 (ro := ro) (hp := hp') (l := h.length) (p := h.length)
      have h9 := blk4_0 hp'
      generalize hBn : hp' ++ [some (blkOf 63 [(AVal.i IntKind.i64 0), (AVal.i IntKind.i64 0), (AVal.i IntKind.i64 0), (AVal.i IntKind.i64 0)])] = Hn at ha h9
      have hLn : Hn.length = hp'.length + 1 := by rw [← hBn]; exact len_app _ _
      have hKn : ∀ k, k < hp'.length → Hn[k]? = hp'[k]? := fun k hk => by rw [← hBn]; exact get_app hk
      obtain ⟨hq, q1, q2, q3, q4⟩ := inner_ok (ro := ro) (h := h) (v6 := .p (some ⟨false, H1.length, 0⟩)) (x13 := s.length) hu hk hs (by omega) (hv7.keep (hKn _ (by omega))) h9 (by omega) (by omega)
        (fun j hj => Nat.le_trans (wkN_le hf k j hj) (pow50 (by omega)))
      obtain ⟨y2, s1, s2⟩ := V4.st4 (ro := ro) (l := h.length) (p := h.length) (hv7.keep (by rw [q4 _ (by omega), hKn _ (by omega)]) : V4 hq H2.length _) (nxt u (bw s k) (wkN u s f k))
      rw [Nat.min_eq_left (by omega)] at s1
      have l9 := V4.ld4 (ro := ro) (l := h.length) (p := h.length) q2
      refine ⟨⟨hq.set H2.length y2, h.length, h.length⟩, ?_, _, rfl, s2, hv6.keep ?_, by rw [List.length_set]; omega, fun j hj => ?_⟩
      · simp only [g57_b0, forceB_eq, ltI_eq, decide_eq_true hkl, cond_true, ha, bindP_some, meansX_loop, q1, bindO_some, l9, s1, forceI_eq, wr_next (by omega : k ≤ 1000000)]
      · rw [List.getElem?_set_ne (by omega), q4 _ (by omega), hKn _ (by omega)]
      · rw [List.getElem?_set_ne (by omega), q4 _ (by omega), hKn _ (by omega), hkeep j hj])
    (fun m hI => by
      have : decide ((s.length : Int) < (s.length : Int)) = false := lt_no
      show g57_b0 (meansX F1 ro) ro u s (.p (some ⟨false, H1.length, 0⟩)) (.p (some ⟨false, H2.length, 0⟩)) s.length s.length m = _
      simp only [g57_b0, forceB_eq, ltI_eq, this, cond_false])
    s.length 0 ⟨H3.set H2.length y, h.length, h.length⟩ (by omega) ⟨_, rfl, hp4, hp2'', by omega, hkeep4⟩
  obtain ⟨m', k1, hq, rfl, k2, k3, k4, k5⟩ := key
  have e0 : ((0 : Nat) : Int) = 0 := rfl
  rw [e0] at k1
  obtain ⟨y3, t1, t2⟩ := V4.st4 (ro := ro) (l := h.length) (p := h.length) k3 (wkN u s f s.length)
  rw [Nat.min_eq_left (by omega)] at t1
  have lf := V4.ld4 (ro := ro) (l := h.length) (p := h.length) k2
  have lr := V4.ld4 (ro := ro) (l := h.length) (p := h.length) t2
  have l5 := V4.ld4 (ro := ro) (l := h.length) (p := h.length) hp1'
  simp only [hb1, bindP_some, hb2, l5, bindO_some, hb3, hst, e_len, asI_i, meansX_loop, k1, lf, t1, lr, tupA]
  rw [fin_take (by rfl)]
  have : (hq.set H1.length y3).take h.length = h := by
    apply List.ext_getElem?
    intro j
    rw [List.getElem?_take]
    by_cases hj : j < h.length
    · rw [if_pos hj, List.getElem?_set_ne (by omega), k5 j hj]
    · rw [if_neg hj, List.getElem?_eq_none (by omega)]
  rw [this]

/- the errors of a row whose ways are counted -/
def shE (n : Int) (s : List UInt8) : Int := if askE n s 400 = 0 ∧ 50 < s.length then 2 else askE n s 400
def shU (n : Int) (s : List UInt8) : Int := if askE n s 400 = 0 ∧ 50 < s.length then 0 else rdU n s
theorem short_ok {ro : List ABlk} {h : Heap} {n : Int} {s : List UInt8} : callX F1 ro 56 [.i .i64 n, .s s] h = some (.tup [.i .u8 (shU n s), .i .i64 (shE n s)], h, h.length, h.length) := by
  refine g56_ok (meansX_ok F1 ro) rfl ?_
  unfold g56
  have c1 := callM_pure (call := callX F1 ro) (l := h.length) (p := h.length) (read_ok (ro := ro) (h := h) (n := n) (s := s)) (Nat.le_refl _) (Nat.le_refl _)
  unfold shE shU
  simp only [meansX_call, c1, bindP_some, e_x0, e_x1, bindO_some, asI_i, eqI_eq, forceB_eq, e_len, ltI_eq]
  by_cases h1 : askE n s 400 = 0
  · have b1 : (askE n s 400 == 0) = true := by rw [h1]; rfl
    by_cases h2 : 50 < s.length
    · have h2' : ((50 : Int) < (s.length : Int)) := by omega
      simp only [b1, cond_true, decide_eq_true h2', bindO_some, if_pos (And.intro h1 h2), tupA]
      exact fin_pure rfl
    · have h2' : ¬ ((50 : Int) < (s.length : Int)) := by omega
      have hn : ¬ (askE n s 400 = 0 ∧ 50 < s.length) := fun hh => h2 hh.2
      simp only [b1, cond_true, decide_eq_false h2', bindO_some, cond_false, if_neg hn, tupA]
      exact fin_pure rfl
  · have b1 : (askE n s 400 == 0) = false := beq_eq_false_iff_ne.2 h1
    have hn : ¬ (askE n s 400 = 0 ∧ 50 < s.length) := fun hh => h1 hh.1
    simp only [b1, cond_false, bindO_some, if_neg hn, tupA]
    exact fin_pure rfl
/-- a row without errors is one -/
theorem okR_of {n : Int} {s : List UInt8} {most : Int} (h : askE n s most = 0) : 0 ≤ n ∧ n ≤ 255 ∧ s.length ≤ most ∧ 0 < s.length ∧ okR s := by
  unfold askE at h
  by_cases hn : n < 0 ∨ 255 < n
  · rw [if_pos hn] at h; cases h
  · rw [if_neg hn] at h
    unfold rowE at h
    by_cases h1 : most < (s.length : Int)
    · rw [if_pos h1] at h; cases h
    · rw [if_neg h1] at h
      cases he : s.isEmpty with
      | true => rw [he, if_pos rfl] at h; cases h
      | false =>
        rw [he, if_neg (by decide)] at h
        cases hb : badR s with
        | true => rw [hb, if_pos rfl] at h; cases h
        | false =>
          refine ⟨by omega, by omega, by omega, ?_, fun i hi => ?_⟩
          · cases s with
            | nil => cases he
            | cons a l => simp
          · have := List.any_eq_false.1 hb i (List.mem_range.2 hi)
            unfold bad at this
            cases e1 : Nat.beq (ch s i) 48
            · cases e2 : Nat.beq (ch s i) 49
              · rw [e1, e2] at this; exact absurd rfl this
              · exact .inr (beq_iff.1 e2)
            · exact .inl (beq_iff.1 e1)

def waysV (u : Nat) (s : List UInt8) : Nat := wkN u s (fun _ => 1) s.length 0 + wkN u s (fun _ => 1) s.length 1 + wkN u s (fun _ => 1) s.length 2 + wkN u s (fun _ => 1) s.length 3
def wysV (n : Int) (s : List UInt8) : Int := if shE n s = 0 then (waysV n.toNat s : Nat) else 0
theorem ways_ok {ro : List ABlk} {h : Heap} {n : Int} {s : List UInt8} : callX F1 ro 22 [.i .i64 n, .s s] h = some (.tup [.i .i64 (wysV n s), .i .i64 (shE n s)], h, h.length, h.length) := by
  refine g22_ok (meansX_ok F1 ro) rfl ?_
  unfold g22
  have c1 := callM_pure (call := callX F1 ro) (l := h.length) (p := h.length) (short_ok (ro := ro) (h := h) (n := n) (s := s)) (Nat.le_refl _) (Nat.le_refl _)
  unfold wysV
  simp only [meansX_call, c1, bindP_some, e_x0, e_x1, bindO_some, asI_i, eqI_eq, forceB_eq]
  by_cases h1 : shE n s = 0
  · have b1 : (shE n s == 0) = true := by rw [h1]; rfl
    have hno : ¬ (askE n s 400 = 0 ∧ 50 < s.length) := fun hh => by
      rw [shE, if_pos hh] at h1; cases h1
    have hask : askE n s 400 = 0 := by rw [shE, if_neg hno] at h1; exact h1
    obtain ⟨p1, p2, p3, p4, p5⟩ := okR_of hask
    have h50 : s.length ≤ 50 := by
      rcases Nat.lt_or_ge 50 s.length with hh | hh
      · exact absurd ⟨hask, hh⟩ hno
      · exact hh
    obtain ⟨k, rfl⟩ : ∃ k : Nat, n = (k : Int) := ⟨n.toNat, by omega⟩
    have hU : shU k s = (k : Int) := by rw [shU, if_neg hno, rdU, if_pos hask]
    have cw := callM_pure (call := callX F1 ro) (l := h.length) (p := h.length) (walks_ok (ro := ro) (h := h) (f := fun _ => 1) (by omega : k < 256) p5 h50 (fun _ _ => Nat.le_refl 1)) (Nat.le_refl _) (Nat.le_refl _)
    have ef : ((fillA [(AVal.i IntKind.i64 0), (AVal.i IntKind.i64 0), (AVal.i IntKind.i64 0), (AVal.i IntKind.i64 0)] [((0, 1), (.i .i64 1)), ((1, 1), (.i .i64 1)), ((2, 1), (.i .i64 1)), ((3, 1), (.i .i64 1))]).map AVal.agg) = some (agg4 fun _ => 1) := fill4 1 1 1 1
    have hW : ∀ j, j < 4 → wkN k s (fun _ => 1) s.length j ≤ 1125899906842624 := fun j hj => Nat.le_trans (wkN_le (fun _ _ => Nat.le_refl 1) _ j hj) (pow50 h50)
    simp only [b1, Bool.not_true, cond_false, hU, ef, bindO_some, cw, bindP_some]
    generalize hg : wkN k s (fun _ => 1) s.length = g at *
    have w0 := hW 0 (by omega)
    have w1 := hW 1 (by omega)
    have w2 := hW 2 (by omega)
    have w3 := hW 3 (by omega)
    have lp : loopX (fun z : Int × Int => g22_b0 (meansX F1 ro) ro (agg4 g) ⟨h, h.length, h.length⟩ z.1 z.2) (0, 0) = some (((g 0 + g 1 + g 2 + g 3 : Nat)) : Int) := by
      have a0 : wr .i64 (0 + ((g 0 : Nat) : Int)) = ((g 0 : Nat) : Int) := by rw [wr_id' (by omega) (by omega)]; omega
      have a1 : wr .i64 (((g 0 : Nat) : Int) + ((g 1 : Nat) : Int)) = ((g 0 + g 1 : Nat) : Int) := by rw [wr_id' (by omega) (by omega)]; omega
      have a2 : wr .i64 (((g 0 + g 1 : Nat) : Int) + ((g 2 : Nat) : Int)) = ((g 0 + g 1 + g 2 : Nat) : Int) := by rw [wr_id' (by omega) (by omega)]; omega
      have a3 : wr .i64 (((g 0 + g 1 + g 2 : Nat) : Int) + ((g 3 : Nat) : Int)) = ((g 0 + g 1 + g 2 + g 3 : Nat) : Int) := by rw [wr_id' (by omega) (by omega)]; omega
      have x0 : evP .e (.ixV 4 1 true (.c (agg4 g)) (.c (.i .i64 0))) = some (.i .i64 (g 0 : Nat)) := rfl
      have x1 : evP .e (.ixV 4 1 true (.c (agg4 g)) (.c (.i .i64 1))) = some (.i .i64 (g 1 : Nat)) := rfl
      have x2 : evP .e (.ixV 4 1 true (.c (agg4 g)) (.c (.i .i64 2))) = some (.i .i64 (g 2 : Nat)) := rfl
      have x3 : evP .e (.ixV 4 1 true (.c (agg4 g)) (.c (.i .i64 3))) = some (.i .i64 (g 3 : Nat)) := rfl
      have d0 : decide ((0 : Int) < 4) = true := rfl
      have d1 : decide ((1 : Int) < 4) = true := rfl
      have d2 : decide ((2 : Int) < 4) = true := rfl
      have d3 : decide ((3 : Int) < 4) = true := rfl
      have d4 : decide ((4 : Int) < 4) = false := rfl
      have n0 : wr .i64 (0 + 1) = 1 := rfl
      have n1 : wr .i64 (1 + 1) = 2 := rfl
      have n2 : wr .i64 (2 + 1) = 3 := rfl
      have n3 : wr .i64 (3 + 1) = 4 := rfl
      refine loopX_on (s' := (((g 0 : Nat) : Int), 1)) (by simp only [g22_b0, forceB_eq, ltI_eq, d0, cond_true, x0, bindO_some, asI_i, forceI_eq, a0, n0]) ?_
      refine loopX_on (s' := (((g 0 + g 1 : Nat) : Int), 2)) (by simp only [g22_b0, forceB_eq, ltI_eq, d1, cond_true, x1, bindO_some, asI_i, forceI_eq, a1, n1]) ?_
      refine loopX_on (s' := (((g 0 + g 1 + g 2 : Nat) : Int), 3)) (by simp only [g22_b0, forceB_eq, ltI_eq, d2, cond_true, x2, bindO_some, asI_i, forceI_eq, a2, n2]) ?_
      refine loopX_on (s' := (((g 0 + g 1 + g 2 + g 3 : Nat) : Int), 4)) (by simp only [g22_b0, forceB_eq, ltI_eq, d3, cond_true, x3, bindO_some, asI_i, forceI_eq, a3, n3]) ?_
      exact loopX_out (by simp only [g22_b0, forceB_eq, ltI_eq, d4, cond_false])
    simp only [meansX_loop, lp, bindO_some, if_pos h1, h1, Int.toNat_natCast, waysV, hg, tupA]
    exact fin_pure rfl
  · have b1 : (shE n s == 0) = false := beq_eq_false_iff_ne.2 h1
    simp only [b1, Bool.not_false, cond_true, if_neg h1, tupA]
    exact fin_pure rfl
end Go.Proofs.Ytgbkicelkpagpaa.W

/- Ways of onto rules, and of the others: tables. -/
open Go.Vm
set_option linter.unusedVariables false
namespace Go.Proofs.Ytgbkicelkpagpaa.W
open Go

/- onto rules: the counts that come -/
/- the others: a row with more -/
end Go.Proofs.Ytgbkicelkpagpaa.W

/- Rows by numbers. -/
open Go.Vm
set_option linter.unusedVariables false
namespace Go.Proofs.Ytgbkicelkpagpaa.W
open Go

theorem bytes_row {t : Tr} {g : Nat → Nat} : ∀ (k i : Nat), (∀ j, j < k → t.get (i + j) = .i .u8 (g (i + j) : Nat) ∧ g (i + j) < 256) → bytesA (t.row i k) = some ((List.range' i k).map fun j => UInt8.ofNat (g j))
  | 0, i, _ => rfl
  | k + 1, i, h => by
    have h0 := h 0 (by omega)
    have ih := bytes_row (t := t) (g := g) k (i + 1) (fun j hj => by have := h (j + 1) (by omega); rwa [show i + 1 + j = i + (j + 1) by omega])
    show bytesA (t.get i :: t.row (i + 1) k) = _
    rw [Nat.add_zero] at h0
    rw [h0.1]
    show cond (Nat.blt (g i) 256) ((bytesA (t.row (i + 1) k)).map (UInt8.ofNat (g i) :: ·)) none = _
    rw [show Nat.blt (g i) 256 = true by rw [Nat.blt_eq]; exact h0.2, ih]
    rfl
theorem bts_ok {ro : List ABlk} {hp : Heap} {b k : Nat} {cap : Cap} {g : Nat → Nat} (h : Vec hp 5 b k (fun j => .i .u8 (g j : Nat))) (hg : ∀ j, j < k → g j < 256) {l p : Nat} :
    btsM ro ⟨hp, l, p⟩ (.sl ⟨false, b, 0⟩ k cap) = some (.s ((List.range k).map fun j => UInt8.ofNat (g j))) := by
  obtain ⟨blk, h1, h2, h3, h4⟩ := h
  have hb : Nat.ble (0 + k) blk.n = true := by rw [Nat.ble_eq]; omega
  have hr := bytes_row (t := blk.c) (g := g) k 0 (fun j hj => by rw [Nat.zero_add]; exact ⟨h4 j hj, hg j hj⟩)
  have h1' : lget (Mm.st ⟨hp, l, p⟩ .e).h b = some (some blk) := h1
  simp only [btsM, st_bts, rdB_heap h1', hb, cond_true, hr, Option.map_some, List.range_eq_range']

end Go.Proofs.Ytgbkicelkpagpaa.W

/- Strings that are made byte by byte; grow, ring, Ring. -/
open Go.Vm
set_option linter.unusedVariables false
namespace Go.Proofs.Ytgbkicelkpagpaa.W
open Go

theorem plot_num : ∀ t, t < 2 → wr .u8 (48 + wr .u8 (Int.ofNat t)) = Int.ofNat (48 + t) := by decide +kernel
theorem plot_ok {ro : List ABlk} {h : Heap} {t : Nat} (ht : t < 2) : callX F1 ro 71 [.i .i64 t] h = some (.i .u8 (48 + t : Nat), h, h.length, h.length) := by
  refine g71_ok (meansX_ok F1 ro) rfl ?_
  unfold g71
  have e : wr .u8 (48 + wr .u8 (t : Int)) = ((48 + t : Nat) : Int) := plot_num t ht
  simp only [forceI_eq, e, tupA]
  exact fin_pure rfl

theorem bw_lt {s : List UInt8} (hs : okR s) {i : Nat} (hi : i < s.length) : bw s i < 2 ∧ 48 ≤ ch s i := by
  unfold bw
  rcases hs i hi with e | e <;> omega
/- a ring as a row with its ends put to it -/
end Go.Proofs.Ytgbkicelkpagpaa.W

/- Rows reversed, and with 0 and 1 exchanged. -/
open Go.Vm
set_option linter.unusedVariables false
namespace Go.Proofs.Ytgbkicelkpagpaa.W
open Go

/- strings letter by letter -/
theorem str_ext {a b : List UInt8} (hl : a.length = b.length) (h : ∀ i, i < a.length → ch a i = ch b i) : a = b := by
  apply List.ext_getElem hl
  intro i h1 h2
  have := h i h1
  simp only [ch, List.getD, List.getElem?_eq_getElem h1, List.getElem?_eq_getElem h2, Option.getD_some] at this
  exact UInt8.toNat_inj.1 this
theorem made_ch {n i : Nat} {g : Nat → Nat} (hi : i < n) (hg : g i < 256) : ch ((List.range n).map fun j => UInt8.ofNat (g j)) i = g i := by
  simp only [ch, List.getD, List.getElem?_map]
  rw [List.getElem?_range hi]
  show (UInt8.ofNat (g i)).toNat = g i
  rw [UInt8.toNat_ofNat']
  exact Nat.mod_eq_of_lt hg
end Go.Proofs.Ytgbkicelkpagpaa.W

/- Rows as lists of numbers: Grow, and the reference's Grow and Ring. -/
open Go.Vm
set_option linter.unusedVariables false
namespace Go.Proofs.Ytgbkicelkpagpaa.W
open Go

/-- numbers as a vector in memory, behind what was there -/
structure NV (h hp : Heap) (b n : Nat) (f : Nat → Nat) : Prop where
  vec : Vec hp 3 b n (fun i => .i .i64 (f i : Nat))
  new : h.length ≤ b
  len : h.length ≤ hp.length
  keep : ∀ j, j < h.length → hp[j]? = h[j]?

theorem callM_new {call : Caller} {hp hp' : Heap} {L f : Nat} {vs : List AVal} {v : AVal} (e : call f vs hp = some (v, hp', hp.length, hp.length)) (hL : L ≤ hp.length) : callM call ⟨hp, L, L⟩ f vs = some (v, ⟨hp', L, L⟩) := by
  rw [callM_eq (m := ⟨hp, L, L⟩) e]; simp [Nat.min_eq_left hL]
theorem fin_new {hp : Heap} {L l p b k : Nat} {cap : Cap} (hb : L ≤ b) : finM L (.sl ⟨false, b, 0⟩ k cap) ⟨hp, l, p⟩ = some (.sl ⟨false, b, 0⟩ k cap, hp, l, p) := by
  simp [finM, gc, not_bel hb]
theorem e_lenS {q : Vm.Loc} {k : Nat} {cap : Cap} : evP .e (.len false (.c (.sl q k cap))) = some (.i .i64 (k : Nat)) := by simp only [evP, ev_len, opd, cond_false, mkI, forceI_eq]
theorem take_keep {h hp : Heap} (hl : h.length ≤ hp.length) (hk : ∀ j, j < h.length → hp[j]? = h[j]?) : hp.take h.length = h := by
  apply List.ext_getElem?
  intro j
  rw [List.getElem?_take]
  by_cases hj : j < h.length
  · rw [if_pos hj, hk j hj]
  · rw [if_neg hj, List.getElem?_eq_none (by omega)]

/-- numbers put one behind the other -/
theorem push_loop {ro : List ABlk} {h : Heap} {L : Nat} (hL : L ≤ h.length) {b : AVal × Int × Mm → Option ((AVal × Int × Mm) ⊕ (AVal × Mm))} (a n : Nat) (hn : n ≤ 999) (h0 : 0 < n) (w : Nat → Nat)
    (hin : ∀ k, k < n → ∀ (v : AVal) (hp : Heap), h.length ≤ hp.length → (∀ j, j < h.length → hp[j]? = h[j]?) → ∀ v2 hp2 v3 hp3,
      stepM ro ⟨hp, L, L⟩ (.bsl 3 1 [.i .i64 0] 1 [((0, 1), .c (.i .i64 (w k : Nat)))]) = some (v2, ⟨hp2, L, L⟩) → stepM ro ⟨hp2, L, L⟩ (.app 3 1 8 [.i .i64 0] (.c v) (.c v2)) = some (v3, ⟨hp3, L, L⟩) →
      b (v, ((a + k : Nat) : Int), ⟨hp, L, L⟩) = some (.inl (v3, ((a + k + 1 : Nat) : Int), ⟨hp3, L, L⟩)))
    (hout : ∀ v m, b (v, ((a + n : Nat) : Int), m) = some (.inr (v, m))) :
    ∃ b' hp, loopX b (.nsl, (a : Int), ⟨h, L, L⟩) = some (.sl ⟨false, b', 0⟩ n .grow, ⟨hp, L, L⟩) ∧ NV h hp b' n w := by
  have key := loop_all3 (b := b) (a + n)
    (fun i v m => a ≤ i ∧ ∃ hp, m = ⟨hp, L, L⟩ ∧ VecV hp h.length 3 v (i - a) (fun j => .i .i64 (w j : Nat)) ∧ h.length ≤ hp.length ∧ ∀ j, j < h.length → hp[j]? = h[j]?)
    (fun i v m hi hI => by
      obtain ⟨hai, hp, rfl, hv, hlen, hkeep⟩ := hI
      obtain ⟨k, rfl⟩ : ∃ k, i = a + k := ⟨i - a, by omega⟩
      rw [Nat.add_sub_cancel_left] at hv
      obtain ⟨v2, hp2, v3, hp3, b3, s1, s2, e3, hb3, hvec, hl3, hk3⟩ := push_ok (ro := ro) (bytes := 8) (z := .i .i64 0) (w := .i .i64 (w k : Nat)) (hv.low hL) (by omega) (by omega) (by omega) rfl rfl
      refine ⟨v3, ⟨hp3, L, L⟩, hin k (by omega) v hp hlen hkeep v2 hp2 v3 hp3 s1 s2, by omega, hp3, rfl, .inr ⟨b3, ?_, ?_, by omega, ?_⟩, by omega, fun j hj => ?_⟩
      · rw [e3, show a + k + 1 - a = k + 1 by omega]
      · omega
      · rw [show a + k + 1 - a = k + 1 by omega]
        refine hvec.congr fun r hr => ?_
        show (if r < k then _ else _) = _
        by_cases e : r < k
        · rw [if_pos e]
        · rw [if_neg e, show r = k by omega]
      · rw [hk3 j (by omega) fun len cap e => ?_, hkeep j hj]
        rcases hv with ⟨hv, _⟩ | ⟨b0, hv, _, hb0, _⟩
        · rw [hv] at e; cases e
        · rw [hv] at e; cases e; omega)
    (fun v m hI => hout v m)
    n a .nsl ⟨h, L, L⟩ rfl ⟨Nat.le_refl _, h, rfl, .inl ⟨rfl, by omega⟩, Nat.le_refl _, fun _ _ => rfl⟩
  obtain ⟨v', m', k1, -, hp, rfl, hv, hlen, hkeep⟩ := key
  rw [Nat.add_sub_cancel_left] at hv
  rcases hv with ⟨_, hz⟩ | ⟨b', rfl, _, hb', hvec⟩
  · omega
  · exact ⟨b', hp, k1, hvec, hb', hlen, hkeep⟩

/- Grow -/
/- the reference's plots and row -/
theorem rplots_ok {ro : List ABlk} {h : Heap} {s : List UInt8} (hs : okR s) (h0 : 0 < s.length) (hl : s.length ≤ 900) :
    ∃ b hp, callX F1 ro 48 [.s s] h = some (.sl ⟨false, b, 0⟩ s.length .grow, hp, h.length, h.length) ∧ NV h hp b s.length (bw s) := by
  obtain ⟨b, hp, k1, nv⟩ := push_loop (ro := ro) (h := h) (L := h.length) (Nat.le_refl _) (b := fun z => g48_b0 (meansX F1 ro) ro s z.1 z.2.1 z.2.2) 0 s.length (by omega) h0 (bw s)
    (fun k hk v hp hlen hkeep v2 hp2 v3 hp3 s1 s2 => by
      have hlt : (((0 + k : Nat) : Int) < (s.length : Int)) := by omega
      have hw : wr .i64 (wr .u8 ((ch s k : Int) - 48)) = ((bw s k : Nat) : Int) := bit_num _ (ch_lt s k) (bw_lt hs hk).2
      rw [Nat.zero_add] at hlt ⊢
      simp only [g48_b0, e_len, bindO_some, asI_i, ltI_eq, forceB_eq, decide_eq_true hlt, cond_true, e_ix hk, forceI_eq, hw, s1, bindP_some, s2, wr_next (by omega : k ≤ 1000000)])
    (fun v m => by
      have : decide ((s.length : Int) < (s.length : Int)) = false := lt_no
      show g48_b0 (meansX F1 ro) ro s v ((0 + s.length : Nat) : Int) m = _
      rw [Nat.zero_add]
      simp only [g48_b0, e_len, bindO_some, asI_i, ltI_eq, forceB_eq, this, cond_false])
  have e0 : ((0 : Nat) : Int) = 0 := rfl
  rw [e0] at k1
  refine ⟨b, hp, g48_ok (meansX_ok F1 ro) rfl ?_, nv⟩
  unfold g48
  simp only [meansX_loop, k1, bindO_some, tupA]
  exact fin_new nv.new

def rowL (n : Nat) (f : Nat → Nat) : List UInt8 := (List.range n).map fun j => UInt8.ofNat (cond (Nat.beq (f j) 1) 49 48)
theorem rrow_ok {ro : List ABlk} {h : Heap} {b n : Nat} {cap : Cap} {f : Nat → Nat} (hv : Vec h 3 b n (fun i => .i .i64 (f i : Nat))) (hn : n ≤ 900) :
    callX F1 ro 50 [.sl ⟨false, b, 0⟩ n cap] h = some (.s (rowL n f), h, h.length, h.length) := by
  refine g50_ok (meansX_ok F1 ro) rfl ?_
  unfold g50
  have hb := hv.lt
  have hmk := mk_ok (ro := ro) (hp := h) (l := h.length) (p := h.length) (e := 5) (es := 1) (bytes := 1) (v := AVal.i IntKind.u8 0) (n := n) (by omega) (by omega)
  have hw := Vec.new h 5 n (AVal.i IntKind.u8 0)
  generalize hB : h ++ [some (newBlk 5 (AVal.i IntKind.u8 0) n)] = H at hmk hw
  have hL : H.length = h.length + 1 := by rw [← hB]; simp
  have hK : ∀ k, k < h.length → H[k]? = h[k]? := fun k hk => by rw [← hB]; exact List.getElem?_append_left hk
  have key := loop_all (b := fun z => g50_b0 (meansX F1 ro) ro (.sl ⟨false, b, 0⟩ n cap) (.sl ⟨false, h.length, 0⟩ n (.known n)) z.1 z.2) n
    (fun k mm => ∃ hp', mm = ⟨hp', h.length, h.length⟩ ∧ Vec hp' 5 h.length n (fun j => .i .u8 ((if j < k then cond (Nat.beq (f j) 1) 49 48 else 0 : Nat) : Int)) ∧ hp'.length = h.length + 1 ∧ ∀ k, k < h.length → hp'[k]? = h[k]?)
    (fun k mm hk hI => by
      obtain ⟨hp', rfl, hv', hl, hkeep⟩ := hI
      have hlt : ((k : Int) < (n : Int)) := by omega
      have ei := ixS_eq (q := ⟨false, h.length, 0⟩) (len := n) (cap := .known n) (i := k) hk
      have ei2 := ixS_eq (q := ⟨false, b, 0⟩) (len := n) (cap := cap) (i := k) hk
      obtain ⟨y, s1, s2⟩ := Vec.set (ro := ro) (l := h.length) (p := h.length) hv' hk (v := .i .u8 48) rfl rfl rfl
      rw [Nat.min_self] at s1
      have hl1 : (hp'.set h.length y).length = h.length + 1 := by rw [List.length_set]; exact hl
      have hk1 : ∀ k, k < h.length → (hp'.set h.length y)[k]? = h[k]? := fun j hj => by rw [List.getElem?_set_ne (by omega)]; exact hkeep j hj
      have ld := Vec.ld (ro := ro) (l := h.length) (p := h.length) (hv.keep (hk1 b hb)) hk
      obtain ⟨y2, t1, t2⟩ := Vec.set (ro := ro) (l := h.length) (p := h.length) s2 hk (v := .i .u8 49) rfl rfl rfl
      rw [Nat.min_self] at t1
      cases hf : Nat.beq (f k) 1 with
      | false =>
        have hne : ((((f k : Nat) : Int)) == 1) = false := by
          rw [beq_eq_false_iff_ne]
          intro e
          have : f k = 1 := by omega
          rw [this] at hf; cases hf
        refine ⟨⟨hp'.set h.length y, h.length, h.length⟩, ?_, _, rfl, s2.congr fun r hr => ?_, hl1, hk1⟩
        · simp only [g50_b0, e_lenS, bindO_some, asI_i, ltI_eq, forceB_eq, decide_eq_true hlt, cond_true, ei, s1, bindP_some, ei2, ld, eqI_eq, hne, cond_false, forceI_eq, wr_next (by omega : k ≤ 1000000)]
        · show (if r = k then _ else _) = _
          by_cases e : r = k
          · rw [if_pos e, if_pos (by omega), e, hf]; rfl
          · rw [if_neg e]
            by_cases e' : r < k
            · rw [if_pos e', if_pos (by omega)]
            · rw [if_neg e', if_neg (by omega)]
      | true =>
        have he : ((((f k : Nat) : Int)) == 1) = true := by rw [beq_iff.1 hf]; rfl
        refine ⟨⟨(hp'.set h.length y).set h.length y2, h.length, h.length⟩, ?_, _, rfl, t2.congr fun r hr => ?_, by rw [List.length_set]; exact hl1, fun j hj => by rw [List.getElem?_set_ne (by omega)]; exact hk1 j hj⟩
        · simp only [g50_b0, e_lenS, bindO_some, asI_i, ltI_eq, forceB_eq, decide_eq_true hlt, cond_true, ei, s1, bindP_some, ei2, ld, eqI_eq, he, t1, forceI_eq, wr_next (by omega : k ≤ 1000000)]
        · show (if r = k then _ else (if r = k then _ else _)) = _
          by_cases e : r = k
          · rw [if_pos e, if_pos (by omega), e, hf]; rfl
          · rw [if_neg e, if_neg e]
            by_cases e' : r < k
            · rw [if_pos e', if_pos (by omega)]
            · rw [if_neg e', if_neg (by omega)])
    (fun mm hI => by
      have : decide ((n : Int) < (n : Int)) = false := lt_no
      show g50_b0 (meansX F1 ro) ro _ _ n mm = _
      simp only [g50_b0, e_lenS, bindO_some, asI_i, ltI_eq, forceB_eq, this, cond_false])
    n 0 ⟨H, h.length, h.length⟩ (by omega) ⟨H, rfl, hw.congr fun r hr => by rw [if_neg (by omega)]; rfl, hL, hK⟩
  obtain ⟨m', k1, hq, rfl, k2, k3, k4⟩ := key
  have e0 : ((0 : Nat) : Int) = 0 := rfl
  rw [e0] at k1
  have hbt := bts_ok (ro := ro) (cap := .known n) (l := h.length) (p := h.length) (k2.congr (get' := fun j => .i .u8 ((cond (Nat.beq (f j) 1) 49 48 : Nat) : Int)) fun r hr => by rw [if_pos hr]) (fun j hj => by cases Nat.beq (f j) 1 <;> decide)
  simp only [e_lenS, bindO_some, asI_i, hmk, bindP_some, meansX_loop, k1, hbt, asS_s, tupA]
  rw [fin_take (by rfl), take_keep (by omega) k4]
  rfl

/- the reference's ring -/
theorem NV.congr {h hp : Heap} {b n : Nat} {f f' : Nat → Nat} (h1 : NV h hp b n f) (hc : ∀ i, i < n → f i = f' i) : NV h hp b n f' :=
  ⟨h1.vec.congr fun r hr => by rw [hc r hr], h1.new, h1.len, h1.keep⟩
theorem rowL_ch {n : Nat} {f : Nat → Nat} {i : Nat} (hi : i < n) : ch (rowL n f) i = cond (Nat.beq (f i) 1) 49 48 :=
  made_ch hi (by cases Nat.beq (f i) 1 <;> decide)
theorem rowL_len {n : Nat} {f : Nat → Nat} : (rowL n f).length = n := by simp [rowL]
end Go.Proofs.Ytgbkicelkpagpaa.W

/- The sets of pairs from which the rest of a row can come; Back; Rings. -/
open Go.Vm
set_option linter.unusedVariables false
namespace Go.Proofs.Ytgbkicelkpagpaa.W
open Go

theorem iter_be (u s c p : Nat) : ∀ k i acc, (iterF (beF u s c) k i acc).testBit p = (acc.testBit p || (List.range' i k).any fun t => s.testBit (t % 4) && Nat.beq (nx u t) c && decide (t / 2 = p))
  | 0, i, acc => by simp [iterF]
  | k + 1, i, acc => by
    show (iterF (beF u s c) k (i + 1) (beF u s c i acc)).testBit p = _
    rw [iter_be u s c p k (i + 1)]
    have e : (beF u s c i acc).testBit p = (acc.testBit p || (s.testBit (i % 4) && Nat.beq (nx u i) c && decide (i / 2 = p))) := by
      unfold beF
      cases hb : (s.testBit (i % 4) && Nat.beq (nx u i) c) with
      | false => simp
      | true => simp only [cond_true, Nat.testBit_or, Nat.testBit_two_pow, Bool.true_and]
    rw [e, List.range'_succ, List.any_cons, Bool.or_assoc]
theorem beV_bit {u s c p : Nat} (hp : p < 4) : (beV u s c).testBit p = ((s.testBit (2 * p % 4) && Nat.beq (nx u (2 * p)) c) || (s.testBit ((2 * p + 1) % 4) && Nat.beq (nx u (2 * p + 1)) c)) := by
  unfold beV
  rw [iter_be]
  rcases (by omega : p = 0 ∨ p = 1 ∨ p = 2 ∨ p = 3) with rfl | rfl | rfl | rfl <;> simp [List.range']
theorem iter_be_lt {u s c : Nat} : ∀ k i acc, i + k ≤ 8 → acc < 16 → iterF (beF u s c) k i acc < 16
  | 0, i, acc, _, h => h
  | k + 1, i, acc, hi, h => by
    refine iter_be_lt k (i + 1) _ (by omega) ?_
    unfold beF
    cases (s.testBit (i % 4) && Nat.beq (nx u i) c)
    · exact h
    · have h2 : 2 ^ (i / 2) < 2 ^ 4 := Nat.pow_lt_pow_right (by omega) (by omega)
      exact Nat.or_lt_two_pow (n := 4) h h2
theorem beV_lt (u s c : Nat) : beV u s c < 16 := iter_be_lt 8 0 0 (by omega) (by omega)

/- from which pairs the rest of a row can come -/
def canD (u : Nat) (f : Nat → Nat) (n : Nat) : Nat → Nat
  | 0 => 15
  | d + 1 => beV u (canD u f n d) (f (n - (d + 1)))
def canI (u : Nat) (f : Nat → Nat) (n i : Nat) : Nat := canD u f n (n - i)
theorem canD_lt {u : Nat} {f : Nat → Nat} {n : Nat} : ∀ d, canD u f n d < 16
  | 0 => by show 15 < 16; omega
  | d + 1 => beV_lt _ _ _
theorem canI_lt {u : Nat} {f : Nat → Nat} {n i : Nat} : canI u f n i < 16 := canD_lt _
theorem canI_end {u : Nat} {f : Nat → Nat} {n : Nat} : canI u f n n = 15 := by unfold canI; rw [Nat.sub_self]; rfl
theorem canI_step {u : Nat} {f : Nat → Nat} {n i : Nat} (h : i < n) : canI u f n i = beV u (canI u f n (i + 1)) (f i) := by
  unfold canI
  rw [show n - i = (n - (i + 1)) + 1 by omega]
  show beV u _ (f (n - ((n - (i + 1)) + 1))) = _
  rw [show n - ((n - (i + 1)) + 1) = i by omega]

/- the least row -/
def tzb (x : Nat) : Nat := cond (x.testBit 0) 0 (cond (x.testBit 1) 1 (cond (x.testBit 2) 2 3))
def bkB (u : Nat) (f : Nat → Nat) (n a i : Nat) : Nat := cond (Nat.beq (nx u (2 * a)) (f i) && (canI u f n (i + 1)).testBit (2 * a % 4)) 0 1
def bkA (u : Nat) (f : Nat → Nat) (n : Nat) : Nat → Nat
  | 0 => tzb (canI u f n 0)
  | i + 1 => (2 * bkA u f n i + bkB u f n (bkA u f n i) i) % 4
theorem bkB_le (u : Nat) (f : Nat → Nat) (n a i : Nat) : bkB u f n a i ≤ 1 := by
  unfold bkB; cases (Nat.beq (nx u (2 * a)) (f i) && (canI u f n (i + 1)).testBit (2 * a % 4)) <;> decide
theorem tz_tab : ((List.range 16).all fun x => Nat.beq x 0 || (Nat.blt (tzb x) 4 && x.testBit (tzb x))) = true := by decide +kernel
theorem bkA_lt {u : Nat} {f : Nat → Nat} {n : Nat} : ∀ i, bkA u f n i < 4
  | 0 => by
    show tzb _ < 4
    unfold tzb
    cases (canI u f n 0).testBit 0 <;> cases (canI u f n 0).testBit 1 <;> cases (canI u f n 0).testBit 2 <;> decide
  | i + 1 => Nat.mod_lt _ (by omega)
/-- each pair of the row is one from which the rest can come; and the row becomes what it shall -/
theorem bkA_ok {u : Nat} {f : Nat → Nat} {n : Nat} (h0 : canI u f n 0 ≠ 0) : ∀ i, i ≤ n → (canI u f n i).testBit (bkA u f n i) = true
  | 0, _ => by
    have := List.all_eq_true.1 tz_tab _ (List.mem_range.2 (canI_lt (u := u) (f := f) (n := n) (i := 0)))
    simp only [Bool.or_eq_true, Bool.and_eq_true] at this
    rcases this with h | h
    · exact absurd (beq_iff.1 h) h0
    · exact h.2
  | i + 1, hi => by
    have ih := bkA_ok h0 i (by omega)
    rw [canI_step (by omega), beV_bit (bkA_lt i)] at ih
    show (canI u f n (i + 1)).testBit ((2 * bkA u f n i + bkB u f n (bkA u f n i) i) % 4) = true
    unfold bkB
    cases hb : (Nat.beq (nx u (2 * bkA u f n i)) (f i) && (canI u f n (i + 1)).testBit (2 * bkA u f n i % 4)) with
    | true =>
      simp only [Bool.and_eq_true] at hb
      exact hb.2
    | false =>
      rw [Bool.and_comm] at hb
      rw [hb, Bool.false_or, Bool.and_eq_true] at ih
      exact ih.1
theorem bkA_next {u : Nat} {f : Nat → Nat} {n : Nat} (h0 : canI u f n 0 ≠ 0) {i : Nat} (hi : i < n) : nx u (2 * bkA u f n i + bkB u f n (bkA u f n i) i) = f i := by
  have ih := bkA_ok h0 i (by omega)
  rw [canI_step hi, beV_bit (bkA_lt i)] at ih
  unfold bkB
  cases hb : (Nat.beq (nx u (2 * bkA u f n i)) (f i) && (canI u f n (i + 1)).testBit (2 * bkA u f n i % 4)) with
  | true =>
    simp only [Bool.and_eq_true] at hb
    exact beq_iff.1 hb.1
  | false =>
    rw [Bool.and_comm] at hb
    rw [hb, Bool.false_or, Bool.and_eq_true] at ih
    exact beq_iff.1 ih.2
def bkG (u : Nat) (f : Nat → Nat) (n : Nat) : Nat → Nat
  | 0 => bkA u f n 0 / 2
  | j + 1 => bkA u f n j % 2
def backL (u : Nat) (f : Nat → Nat) (n : Nat) : List UInt8 := (List.range (n + 2)).map fun j => UInt8.ofNat (48 + bkG u f n j)
theorem bkG_le {u : Nat} {f : Nat → Nat} {n : Nat} : ∀ j, bkG u f n j ≤ 1
  | 0 => by have := bkA_lt (u := u) (f := f) (n := n) 0; show bkA u f n 0 / 2 ≤ 1; omega
  | j + 1 => by show bkA u f n j % 2 ≤ 1; omega
theorem bkG_B {u : Nat} {f : Nat → Nat} {n : Nat} (j : Nat) : bkG u f n (j + 2) = bkB u f n (bkA u f n j) j := by
  show ((2 * bkA u f n j + bkB u f n (bkA u f n j) j) % 4) % 2 = _
  have := bkB_le u f n (bkA u f n j) j
  omega

/- one more behind a vector whose room is full or open -/
theorem push_any {ro : List ABlk} {hp : Heap} {L e bytes b k : Nat} {z w : AVal} {cap : Cap} {get : Nat → AVal} (hcap : cap = .grow ∨ cap = .known k) (hv : Vec hp e b k get) (hLb : L ≤ b) (h0 : 0 < k) (hk : k ≤ 1000) (hb : bytes ≤ 1000) (hL : L ≤ hp.length) (hw : w.cells = [w]) (ho : w.one = true) :
    ∃ v2 hp2 hp3 b3, stepM ro ⟨hp, L, L⟩ (.bsl e 1 [z] 1 [((0, 1), .c w)]) = some (v2, ⟨hp2, L, L⟩) ∧ stepM ro ⟨hp2, L, L⟩ (.app e 1 bytes [z] (.c (.sl ⟨false, b, 0⟩ k cap)) (.c v2)) = some (.sl ⟨false, b3, 0⟩ (k + 1) .grow, ⟨hp3, L, L⟩) ∧
      hp.length ≤ b3 ∧ Vec hp3 e b3 (k + 1) (fun r => if r < k then get r else w) ∧ hp.length ≤ hp3.length ∧ ∀ i, i < hp.length → i ≠ b → hp3[i]? = hp[i]? := by
  rcases hcap with rfl | rfl
  · obtain ⟨v2, hp2, v3, hp3, b3, s1, s2, rfl, h3, h4, h5, h6⟩ := push_ok (ro := ro) (bytes := bytes) (z := z) (w := w) (.inr ⟨b, rfl, h0, hLb, hv⟩ : VecV hp L e (.sl ⟨false, b, 0⟩ k .grow) k get) hL hk hb hw ho
    exact ⟨v2, hp2, hp3, b3, s1, s2, h3, h4, h5, fun i hi hne => h6 i hi fun len cap e => by cases e; exact hne rfl⟩
  · have s1 : stepM ro ⟨hp, L, L⟩ (.bsl e 1 [z] 1 [((0, 1), .c w)]) = some (.sl ⟨false, hp.length, 0⟩ 1 (.known 1), ⟨hp ++ [some (blkOf e [w])], L, L⟩) := by
      simp [stepM, stepK, st_bsl, rep, fillA, opd, hw, splice, newB, St.mm]
    have src : app_src ro (hp ++ [some (blkOf e [w])]) 1 (.sl ⟨false, hp.length, 0⟩ 1 (.known 1)) = some ([w], 1) := by
      have hb : rdB ro (hp ++ [some (blkOf e [w])]) ⟨false, hp.length, 0⟩ = some (blkOf e [w]) := by simp [rdB, lget_eq]
      have hg : (blkOf e [w]).c.row 0 1 = [w] := by simp only [Tr.row, get_blk]; rfl
      have hble : Nat.ble (0 + 1 * 1) (blkOf e [w]).n = true := rfl
      simp only [app_src, hb, hble, cond_true]
      rw [show 1 * 1 = 1 from rfl, hg]
    obtain ⟨blk, hbk, hbe, hbn, hrows⟩ := hv
    have hlt : b < hp.length := lget_lt hbk
    obtain ⟨hp2, e2⟩ : ∃ hp2, hp2 = hp ++ [some (blkOf e [w])] := ⟨_, rfl⟩
    rw [← e2] at src s1
    have hb2 : lget hp2 b = some (some blk) := by rw [e2]; exact lget_ext hbk _
    have hlen2 : hp2.length = hp.length + 1 := by rw [e2]; simp
    refine ⟨_, _, hp2 ++ [some (blkOf e (blk.c.row 0 k ++ [w]))], hp2.length, s1, ?_, by omega, ⟨blkOf e (blk.c.row 0 k ++ [w]), lget_last _ _, rfl, ?_, fun r hr => ?_⟩, ?_, fun i hi hne => ?_⟩
    · have h1 : Nat.ble (k + 1) k = false := by rw [← Bool.not_eq_true, Nat.ble_eq]; omega
      have h2 : (Nat.ble (0 + k) blk.n && fits (k + 1) bytes) = true := by
        rw [fits_small (by omega : k + 1 ≤ 1000000) hb, Bool.and_true, Nat.ble_eq]; omega
      have hrd : rdB ro hp2 ⟨false, b, 0⟩ = some blk := by simp only [rdB, cond_false, hb2]
      simp only [stepM, stepK, opd, st_app, src, app_known, h1, cond_false, hrd, h2, cond_true, St.mm, newB, Nat.mul_one]
    · simp [blkOf, length_row]
    · show (blkOf e (blk.c.row 0 k ++ [w])).c.get r = if r < k then get r else w
      rw [get_blk]
      by_cases hrk : r < k
      · rw [if_pos hrk, List.getD_eq_getElem?_getD, List.getElem?_append_left (by rw [length_row]; exact hrk), getElem?_row, if_pos hrk]
        simp [hrows r hrk]
      · rw [if_neg hrk, List.getD_eq_getElem?_getD, List.getElem?_append_right (by rw [length_row]; omega), length_row, show r - k = 0 by omega]
        rfl
    · simp; omega
    · rw [List.getElem?_append_left (by omega), e2, List.getElem?_append_left hi]
/-- a loop that counts, whatever it carries -/
theorem loop_seq {S R : Type} {b : S → Option (S ⊕ R)} (n : Nat) (I : Nat → S → Prop) (Q : R → Prop) (hin : ∀ i s, i < n → I i s → ∃ s', b s = some (.inl s') ∧ I (i + 1) s') (hout : ∀ s, I n s → ∃ r, b s = some (.inr r) ∧ Q r) :
    ∀ (k i : Nat) (s : S), i + k = n → I i s → ∃ r, loopX b s = some r ∧ Q r
  | 0, i, s, hk, hi => by
    obtain rfl : i = n := by omega
    obtain ⟨r, h1, h2⟩ := hout s hi
    exact ⟨r, loopX_out h1, h2⟩
  | k + 1, i, s, hk, hi => by
    obtain ⟨s', h1, h2⟩ := hin i s (by omega) hi
    obtain ⟨r, h3, h4⟩ := loop_seq n I Q hin hout k (i + 1) s' (by omega) h2
    exact ⟨r, loopX_on h1 h3, h4⟩

theorem tzT_len : tzT.length = 256 := by decide +kernel
theorem tz_num : ∀ x, x < 16 → x ≠ 0 → ch tzT x = tzb x := by decide +kernel
theorem tz_ok {ro : List ABlk} {h : Heap} {x : Nat} (hx : x < 16) (h0 : x ≠ 0) : callX F1 ro 75 [.i .u8 x] h = some (.i .i64 (tzb x : Nat), h, h.length, h.length) := by
  refine g75_ok (meansX_ok F1 ro) rfl ?_
  unfold g75
  have e : evP .e (.ixStr (.c (AVal.s tzT)) (.c (.i .u8 (x : Int)))) = some (.i .u8 (tzb x : Nat)) := by
    show (lget tzT x).map (fun c => mkI .u8 c.toNat) = _
    rw [lget_at tzT x 0 (by rw [tzT_len]; omega)]
    have := tz_num x hx h0
    unfold ch at this
    simp only [Option.map_some, mkI, forceI_eq, this]
  have ht : tzb x < 4 := by unfold tzb; cases x.testBit 0 <;> cases x.testBit 1 <;> cases x.testBit 2 <;> decide
  have e2 : wr .i64 ((tzb x : Nat) : Int) = ((tzb x : Nat) : Int) := wr_id' (by omega) (by omega)
  show bindO (evP .e (.ixStr (.c (AVal.s tzT)) (.c (.i .u8 (x : Int))))) _ = _
  simp only [e, bindO_some, asI_i, forceI_eq, e2, tupA]
  exact fin_pure rfl
theorem sm4 : ∀ a, a < 4 → shrV .i64 (Int.ofNat a) 1 = Int.ofNat (a / 2) ∧ bitV .and .i64 (Int.ofNat a) 1 = Int.ofNat (a % 2) := by decide +kernel
theorem sm8 : ∀ t, t < 8 → bitV .and .i64 (Int.ofNat t) 3 = Int.ofNat (t % 4) ∧ bitV .and .i64 (Int.ofNat t) 1 = Int.ofNat (t % 2) := by decide +kernel
end Go.Proofs.Ytgbkicelkpagpaa.W

/- Back and Rings: what they answer. -/
open Go.Vm
set_option linter.unusedVariables false
namespace Go.Proofs.Ytgbkicelkpagpaa.W
open Go

theorem back_ok {ro : List ABlk} {h : Heap} {u : Nat} {s : List UInt8} (hu : u < 256) (hs : okR s) (hl : s.length ≤ 900) :
    callX F1 ro 53 [.i .u8 u, .s s] h = some (.tup (if canI u (bw s) s.length 0 = 0 then [.s [], .b false] else [.s (backL u (bw s) s.length), .b true]), h, h.length, h.length) := by
  refine g53_ok (meansX_ok F1 ro) rfl ?_
  unfold g53
  have w1 : wr .i64 ((s.length : Int) + 1) = ((s.length + 1 : Nat) : Int) := wr_next (by omega)
  have w2 : wr .i64 ((s.length : Int) - 1) = (s.length : Int) - 1 := wr_id' (by omega) (by omega)
  have hmk := mk_ok (ro := ro) (hp := h) (l := h.length) (p := h.length) (e := 82) (es := 1) (bytes := 1) (v := AVal.i IntKind.u8 0) (n := s.length + 1) (by omega) (by omega)
  have hv := Vec.new h 82 (s.length + 1) (AVal.i IntKind.u8 0)
  generalize hB : h ++ [some (newBlk 82 (AVal.i IntKind.u8 0) (s.length + 1))] = H at hmk hv
  have hL : H.length = h.length + 1 := by rw [← hB]; simp
  have hK : ∀ k, k < h.length → H[k]? = h[k]? := fun k hk => by rw [← hB]; exact List.getElem?_append_left hk
  obtain ⟨y, s1, s2⟩ := Vec.set (ro := ro) (l := h.length) (p := h.length) hv (r := s.length) (by omega) (v := .i .u8 15) rfl rfl rfl
  rw [Nat.min_self] at s1
  have ie := ixS_eq (q := ⟨false, h.length, 0⟩) (len := s.length + 1) (cap := .known (s.length + 1)) (i := s.length) (by omega)
  obtain ⟨hq, k1, k2, k3, k4⟩ : ∃ hq, loopX (fun z : Int × Mm => g53_b0 (meansX F1 ro) ro u s (.sl ⟨false, h.length, 0⟩ (s.length + 1) (.known (s.length + 1))) z.1 z.2) ((s.length : Int) - 1, ⟨H.set h.length y, h.length, h.length⟩) = some ⟨hq, h.length, h.length⟩ ∧
      Vec hq 82 h.length (s.length + 1) (fun r => .i .u8 (canI u (bw s) s.length r : Nat)) ∧ hq.length = h.length + 1 ∧ ∀ j, j < h.length → hq[j]? = h[j]? := by
    obtain ⟨r, k1, hq, rfl, k2⟩ := loop_seq (b := fun z : Int × Mm => g53_b0 (meansX F1 ro) ro u s (.sl ⟨false, h.length, 0⟩ (s.length + 1) (.known (s.length + 1))) z.1 z.2) s.length
      (fun d z => ∃ hp, z.1 = (s.length : Int) - 1 - (d : Int) ∧ z.2 = ⟨hp, h.length, h.length⟩ ∧ Vec hp 82 h.length (s.length + 1) (fun r => .i .u8 ((if s.length - d ≤ r then canI u (bw s) s.length r else 0 : Nat) : Int)) ∧ hp.length = h.length + 1 ∧ ∀ j, j < h.length → hp[j]? = h[j]?)
      (fun r => ∃ hq, r = ⟨hq, h.length, h.length⟩ ∧ Vec hq 82 h.length (s.length + 1) (fun r => .i .u8 (canI u (bw s) s.length r : Nat)) ∧ hq.length = h.length + 1 ∧ ∀ j, j < h.length → hq[j]? = h[j]?)
      (fun d z hd hI => by
        obtain ⟨z1, z2⟩ := z
        obtain ⟨hp, hz, rfl, hv', hlen, hkeep⟩ := hI
        simp only at hz
        obtain ⟨k, hk⟩ : ∃ k, k = s.length - 1 - d := ⟨_, rfl⟩
        obtain rfl : z1 = (k : Int) := by omega
        have hkn : k < s.length := by omega
        have hk0 : decide ((k : Int) < 0) = false := by simp
        have ld := Vec.lda (ro := ro) hv' (i := k + 1) (by omega)
        rw [if_pos (by omega)] at ld
        have hc48 := (bw_lt hs hkn).2
        have c1 := callN_pure (call := callX F1 ro) (bit_ok (ro := ro) (h := hp) (ch_lt s k) hc48) rfl rfl
        have c2 := callN_pure (call := callX F1 ro) (behind_ok (ro := ro) (h := hp) (c := ch s k - 48) hu (by have := canI_lt (u := u) (f := bw s) (n := s.length) (i := k + 1); omega : canI u (bw s) s.length (k + 1) < 256)) rfl rfl
        obtain ⟨y2, t1, t2⟩ := Vec.wr (ro := ro) (l := h.length) (p := h.length) hv' (r := k) (by omega) (v := .i .u8 (beV u (canI u (bw s) s.length (k + 1)) (ch s k - 48) : Nat)) rfl rfl
        rw [Nat.min_self] at t1
        have w3 : wr .i64 ((k : Int) - 1) = (k : Int) - 1 := wr_id' (by omega) (by omega)
        refine ⟨((k : Int) - 1, ⟨hp.set h.length y2, h.length, h.length⟩), ?_, _, ?_, rfl, t2.congr fun r hr => ?_, by rw [List.length_set]; exact hlen, fun j hj => by rw [List.getElem?_set_ne (by omega)]; exact hkeep j hj⟩
        · simp only [g53_b0, ltI_eq, hk0, Bool.not_false, forceB_eq, cond_true, forceI_eq, wr_next (by omega : k ≤ 1000000), ixS_eq (by omega : k + 1 < s.length + 1), bindO_some, ld, asI_i, e_ix hkn, meansX_call, c1, c2, ixS_eq (by omega : k < s.length + 1), asP_p, AVal.cells, t1, w3]
        · show (k : Int) - 1 = (s.length : Int) - 1 - ((d + 1 : Nat) : Int)
          omega
        · show (if r = k then _ else _) = _
          by_cases e : r = k
          · rw [if_pos e, if_pos (by omega), e, canI_step hkn]; rfl
          · rw [if_neg e]
            by_cases e' : s.length - d ≤ r
            · rw [if_pos e', if_pos (by omega)]
            · rw [if_neg e', if_neg (by omega)])
      (fun z hI => by
        obtain ⟨z1, z2⟩ := z
        obtain ⟨hp, hz, rfl, hv', hlen, hkeep⟩ := hI
        simp only at hz
        obtain rfl : z1 = -1 := by omega
        have hk0 : decide ((-1 : Int) < 0) = true := rfl
        refine ⟨_, ?_, hp, rfl, hv'.congr fun r hr => by rw [if_pos (by omega)], hlen, hkeep⟩
        simp only [g53_b0, ltI_eq, hk0, Bool.not_true, forceB_eq, cond_false])
      s.length 0 ((s.length : Int) - 1, ⟨H.set h.length y, h.length, h.length⟩) (by omega) ⟨_, by simp, rfl, s2.congr fun r hr => by
        show (if r = s.length then _ else _) = _
        by_cases e : r = s.length
        · rw [if_pos e, if_pos (by omega), e, canI_end]; rfl
        · rw [if_neg e, if_neg (by omega)]; rfl, by rw [List.length_set]; exact hL, fun j hj => by rw [List.getElem?_set_ne (by omega)]; exact hK j hj⟩
    exact ⟨hq, k1, k2⟩
  have i0 : evP .e (.ixS 1 (.c (.sl ⟨false, h.length, 0⟩ (s.length + 1) (.known (s.length + 1)))) (.c (.i .i64 0))) = some (.p (some ⟨false, h.length, 0 + 0⟩)) := ixS_eq (i := 0) (by omega)
  have ld0 := Vec.ld (ro := ro) (l := h.length) (p := h.length) k2 (i := 0) (by omega)
  by_cases hz : canI u (bw s) s.length 0 = 0
  · have e0 : (((canI u (bw s) s.length 0 : Nat) : Int) == 0) = true := by rw [hz]; rfl
    simp only [e_len, bindO_some, asI_i, forceI_eq, w1, hmk, bindP_some, ie, s1, w2, meansX_loop, k1, i0, ld0, eqI_eq, e0, forceB_eq, cond_true, if_pos hz, tupA]
    rw [fin_take (by rfl), take_keep (by omega) k4]
  · have e0 : (((canI u (bw s) s.length 0 : Nat) : Int) == 0) = false := by rw [beq_eq_false_iff_ne]; omega
    have a4 := bkA_lt (u := u) (f := bw s) (n := s.length) 0
    have c75 := callM_pure (call := callX F1 ro) (l := h.length) (p := h.length) (tz_ok (ro := ro) (h := hq) canI_lt hz) (by omega) (by omega)
    obtain ⟨m1, m2⟩ := sm4 _ a4
    have m1' : shrV .i64 ((tzb (canI u (bw s) s.length 0) : Nat) : Int) 1 = ((bkA u (bw s) s.length 0 / 2 : Nat) : Int) := m1
    have m2' : bitV .and .i64 ((tzb (canI u (bw s) s.length 0) : Nat) : Int) 1 = ((bkA u (bw s) s.length 0 % 2 : Nat) : Int) := m2
    have p1 := callM_pure (call := callX F1 ro) (l := h.length) (p := h.length) (plot_ok (ro := ro) (h := hq) (t := bkA u (bw s) s.length 0 / 2) (by omega)) (by omega) (by omega)
    have p2 := callM_pure (call := callX F1 ro) (l := h.length) (p := h.length) (plot_ok (ro := ro) (h := hq) (t := bkA u (bw s) s.length 0 % 2) (by omega)) (by omega) (by omega)
    have sb : stepM ro ⟨hq, h.length, h.length⟩ (.bsl 5 1 [(AVal.i IntKind.u8 0)] 2 [((0, 1), .c (.i .u8 ((48 + bkA u (bw s) s.length 0 / 2 : Nat) : Int))), ((1, 1), .c (.i .u8 ((48 + bkA u (bw s) s.length 0 % 2 : Nat) : Int)))]) = some (.sl ⟨false, hq.length, 0⟩ 2 (.known 2), ⟨hq ++ [some (blkOf 5 [.i .u8 ((48 + bkA u (bw s) s.length 0 / 2 : Nat) : Int), .i .u8 ((48 + bkA u (bw s) s.length 0 % 2 : Nat) : Int)])], h.length, h.length⟩) := by
      simp [stepM, stepK, st_bsl, rep, fillA, opd, AVal.cells, splice, newB, St.mm]
    have vb : Vec (hq ++ [some (blkOf 5 [.i .u8 ((48 + bkA u (bw s) s.length 0 / 2 : Nat) : Int), .i .u8 ((48 + bkA u (bw s) s.length 0 % 2 : Nat) : Int)])]) 5 hq.length 2 (fun j => .i .u8 ((48 + bkG u (bw s) s.length j : Nat) : Int)) :=
      ⟨_, lget_last _ _, rfl, Nat.le_refl 2, fun r hr => by
        rw [get_blk]
        rcases (by omega : r = 0 ∨ r = 1) with rfl | rfl <;> rfl⟩
    have hl2 : (hq ++ [some (blkOf 5 [.i .u8 ((48 + bkA u (bw s) s.length 0 / 2 : Nat) : Int), .i .u8 ((48 + bkA u (bw s) s.length 0 % 2 : Nat) : Int)])]).length = hq.length + 1 := by simp
    have hk2 : ∀ j, j < hq.length → (hq ++ [some (blkOf 5 [.i .u8 ((48 + bkA u (bw s) s.length 0 / 2 : Nat) : Int), .i .u8 ((48 + bkA u (bw s) s.length 0 % 2 : Nat) : Int)])])[j]? = hq[j]? := fun j hj => List.getElem?_append_left hj
    generalize hq ++ [some (blkOf 5 [.i .u8 ((48 + bkA u (bw s) s.length 0 / 2 : Nat) : Int), .i .u8 ((48 + bkA u (bw s) s.length 0 % 2 : Nat) : Int)])] = H2 at sb vb hl2 hk2
    obtain ⟨r, q1, b, cap, hp, rfl, q2, q3, q4⟩ := loop_seq (b := fun z : Int × AVal × Int × Mm => g53_b1 (meansX F1 ro) ro u s (.sl ⟨false, h.length, 0⟩ (s.length + 1) (.known (s.length + 1))) (s.length : Int) z.1 z.2.1 z.2.2.1 z.2.2.2) s.length
      (fun i z => ∃ b cap hp, z = (((bkA u (bw s) s.length i : Nat) : Int), .sl ⟨false, b, 0⟩ (i + 2) cap, (i : Int), ⟨hp, h.length, h.length⟩) ∧ (cap = .grow ∨ cap = .known (i + 2)) ∧ Vec hp 5 b (i + 2) (fun j => .i .u8 ((48 + bkG u (bw s) s.length j : Nat) : Int)) ∧ hq.length ≤ b ∧ hq.length ≤ hp.length ∧ ∀ j, j < hq.length → hp[j]? = hq[j]?)
      (fun r => ∃ b cap hp, r = (.sl ⟨false, b, 0⟩ (s.length + 2) cap, ⟨hp, h.length, h.length⟩) ∧ Vec hp 5 b (s.length + 2) (fun j => .i .u8 ((48 + bkG u (bw s) s.length j : Nat) : Int)) ∧ hq.length ≤ hp.length ∧ ∀ j, j < hq.length → hp[j]? = hq[j]?)
      (fun i z hi hI => by
        obtain ⟨b, cap, hp, rfl, hcap, hv', hb, hlen, hkeep⟩ := hI
        have hlt : ((i : Int) < (s.length : Int)) := by omega
        have a4 := bkA_lt (u := u) (f := bw s) (n := s.length) i
        have hA : bkA u (bw s) s.length (i + 1) = (2 * bkA u (bw s) s.length i + bkB u (bw s) s.length (bkA u (bw s) s.length i) i) % 4 := rfl
        have hG := bkG_B (u := u) (f := bw s) (n := s.length) i
        have hBle := bkB_le u (bw s) s.length (bkA u (bw s) s.length i) i
        have hBd : bkB u (bw s) s.length (bkA u (bw s) s.length i) i = cond (Nat.beq (nx u (2 * bkA u (bw s) s.length i)) (ch s i - 48) && (canI u (bw s) s.length (i + 1)).testBit (2 * bkA u (bw s) s.length i % 4)) 0 1 := rfl
        generalize bkA u (bw s) s.length i = a at *
        generalize hBB : bkB u (bw s) s.length a i = B at *
        have hc48 := (bw_lt hs hi).2
        have hm : h.length ≤ hp.length := by omega
        have wa : wr .i64 (2 * (a : Int)) = ((2 * a : Nat) : Int) := by rw [wr_id' (by omega) (by omega)]; omega
        have wb : wr .i64 (((2 * a : Nat) : Int) + 1) = ((2 * a + 1 : Nat) : Int) := wr_next (by omega)
        have c1 := callM_pure (call := callX F1 ro) (l := h.length) (p := h.length) (next_ok (ro := ro) (h := hp) hu (by omega : 2 * a < 8)) hm hm
        have c2 := callM_pure (call := callX F1 ro) (l := h.length) (p := h.length) (bit_ok (ro := ro) (h := hp) (ch_lt s i) hc48) hm hm
        have hne := num_eq (nx u (2 * a)) (ch s i - 48)
        have ld := Vec.ld (ro := ro) (l := h.length) (p := h.length) (k2.keep (hkeep h.length (by omega))) (i := i + 1) (by omega)
        have c3 := callM_pure (call := callX F1 ro) (l := h.length) (p := h.length) (has_ok (ro := ro) (h := hp) (by have := canI_lt (u := u) (f := bw s) (n := s.length) (i := i + 1); omega : canI u (bw s) s.length (i + 1) < 256) (by omega : 2 * a % 4 < 8)) hm hm
        obtain ⟨x1, x2⟩ := sm8 (2 * a) (by omega)
        obtain ⟨y1, y2⟩ := sm8 (2 * a + 1) (by omega)
        have x1' : bitV .and .i64 ((2 * a : Nat) : Int) 3 = ((2 * a % 4 : Nat) : Int) := x1
        have x2' : bitV .and .i64 ((2 * a : Nat) : Int) 1 = ((2 * a % 2 : Nat) : Int) := x2
        have y1' : bitV .and .i64 ((2 * a + 1 : Nat) : Int) 3 = (((2 * a + 1) % 4 : Nat) : Int) := y1
        have y2' : bitV .and .i64 ((2 * a + 1 : Nat) : Int) 1 = (((2 * a + 1) % 2 : Nat) : Int) := y2
        obtain ⟨v2, hp2, hp3, b3, s1, s2, g1, g2, g3, g4⟩ := push_any (ro := ro) (L := h.length) (bytes := 1) (z := AVal.i IntKind.u8 0) (w := .i .u8 ((48 + (2 * a + B) % 2 : Nat) : Int)) hcap hv' (by omega) (by omega) (by omega) (by omega) hm rfl rfl
        have c4 := callM_pure (call := callX F1 ro) (l := h.length) (p := h.length) (plot_ok (ro := ro) (h := hp) (t := (2 * a + B) % 2) (by omega)) hm hm
        refine ⟨(((((2 * a + B) % 4 : Nat)) : Int), .sl ⟨false, b3, 0⟩ (i + 2 + 1) .grow, ((i + 1 : Nat) : Int), ⟨hp3, h.length, h.length⟩), ?_, b3, .grow, hp3, by rw [hA], .inl rfl, g2.congr fun r hr => ?_, by omega, by omega, fun j hj => by rw [g4 j (by omega) (by omega), hkeep j hj]⟩
        · cases hb1 : Nat.beq (nx u (2 * a)) (ch s i - 48) with
          | false =>
            rw [hb1] at hne
            have hB1 : B = 1 := by rw [hBd, hb1]; rfl
            subst hB1
            simp only [g53_b1, ltI_eq, forceB_eq, decide_eq_true hlt, cond_true, forceI_eq, wa, e_ix hi, bindO_some, asI_i, meansX_call, c1, c2, bindP_some, eqI_eq, hne, Bool.not_false, wb, y1', y2', c4, s1, s2, wr_next (by omega : i ≤ 1000000)]
          | true =>
            rw [hb1] at hne
            cases hb2 : (canI u (bw s) s.length (i + 1)).testBit (2 * a % 4) with
            | false =>
              rw [hb2] at c3
              have hB1 : B = 1 := by rw [hBd, hb1, hb2]; rfl
              subst hB1
              simp only [g53_b1, ltI_eq, forceB_eq, decide_eq_true hlt, cond_true, forceI_eq, wa, e_ix hi, bindO_some, asI_i, meansX_call, c1, c2, bindP_some, eqI_eq, hne, Bool.not_true, cond_false, wr_next (by omega : i ≤ 1000000), ixS_eq (by omega : i + 1 < s.length + 1), x1', ld, c3, asB_b, Bool.not_false, wb, y1', y2', c4, s1, s2]
            | true =>
              rw [hb2] at c3
              have hB0 : B = 0 := by rw [hBd, hb1, hb2]; rfl
              subst hB0
              have c4' : callM (callX F1 ro) ⟨hp, h.length, h.length⟩ 71 [.i .i64 ((2 * a % 2 : Nat) : Int)] = some (.i .u8 ((48 + 2 * a % 2 : Nat) : Int), ⟨hp, h.length, h.length⟩) := c4
              have s1' : stepM ro ⟨hp, h.length, h.length⟩ (.bsl 5 1 [(AVal.i IntKind.u8 0)] 1 [((0, 1), .c (.i .u8 ((48 + 2 * a % 2 : Nat) : Int)))]) = some (v2, ⟨hp2, h.length, h.length⟩) := s1
              simp only [g53_b1, ltI_eq, forceB_eq, decide_eq_true hlt, cond_true, forceI_eq, wa, e_ix hi, bindO_some, asI_i, meansX_call, c1, c2, bindP_some, eqI_eq, hne, Bool.not_true, cond_false, wr_next (by omega : i ≤ 1000000), ixS_eq (by omega : i + 1 < s.length + 1), x1', ld, c3, asB_b, x2', c4', s1', s2]
              rfl
        · show (if r < i + 2 then _ else _) = _
          by_cases e : r < i + 2
          · rw [if_pos e]
          · rw [if_neg e, show r = i + 2 by omega, hG, show (2 * a + B) % 2 = B by omega])
      (fun z hI => by
        obtain ⟨b, cap, hp, rfl, hcap, hv', hb, hlen, hkeep⟩ := hI
        have : decide ((s.length : Int) < (s.length : Int)) = false := lt_no
        refine ⟨(.sl ⟨false, b, 0⟩ (s.length + 2) cap, ⟨hp, h.length, h.length⟩), ?_, b, cap, hp, rfl, hv', hlen, hkeep⟩
        simp only [g53_b1, ltI_eq, forceB_eq, this, cond_false])
      s.length 0 (((bkA u (bw s) s.length 0 : Nat) : Int), .sl ⟨false, hq.length, 0⟩ 2 (.known 2), ((0 : Nat) : Int), ⟨H2, h.length, h.length⟩) (by omega) ⟨_, _, _, rfl, .inr rfl, vb, Nat.le_refl _, by omega, hk2⟩
    have z0 : ((0 : Nat) : Int) = 0 := rfl
    rw [z0] at q1
    have q1' : loopX (fun z : Int × AVal × Int × Mm => g53_b1 (meansX F1 ro) ro u s (.sl ⟨false, h.length, 0⟩ (s.length + 1) (.known (s.length + 1))) (s.length : Int) z.1 z.2.1 z.2.2.1 z.2.2.2) (((tzb (canI u (bw s) s.length 0) : Nat) : Int), .sl ⟨false, hq.length, 0⟩ 2 (.known 2), 0, ⟨H2, h.length, h.length⟩) = some (.sl ⟨false, b, 0⟩ (s.length + 2) cap, ⟨hp, h.length, h.length⟩) := q1
    have hbt := bts_ok (ro := ro) (cap := cap) (l := h.length) (p := h.length) q2 (fun j _ => by have := bkG_le (u := u) (f := bw s) (n := s.length) j; omega)
    simp only [e_len, bindO_some, asI_i, forceI_eq, w1, hmk, bindP_some, ie, s1, w2, meansX_loop, k1, i0, ld0, eqI_eq, e0, forceB_eq, cond_false, meansX_call, c75, m1', p1, m2', p2, sb, q1', hbt, asS_s, if_neg hz, tupA]
    rw [fin_take (by rfl), take_keep (by omega) fun j hj => by rw [q4 j (by omega), k4 j hj]]
    rfl
end Go.Proofs.Ytgbkicelkpagpaa.W

/- Back and Rings of the program. -/
open Go.Vm
set_option linter.unusedVariables false
namespace Go.Proofs.Ytgbkicelkpagpaa.W
open Go

def bkE (n : Int) (s : List UInt8) : Int := if n < 0 ∨ 255 < n then 2 else if rowE s 398 = 0 then (if canI n.toNat (bw s) s.length 0 = 0 then 10 else 0) else rowE s 398
def bkS (n : Int) (s : List UInt8) : List UInt8 := if bkE n s = 0 then backL n.toNat (bw s) s.length else []
theorem rowE_vals (s : List UInt8) (most : Int) : rowE s most = 0 ∨ rowE s most = 3 ∨ rowE s most = 5 := by
  unfold rowE
  split
  · exact .inr (.inl rfl)
  · split
    · exact .inr (.inr rfl)
    · split
      · exact .inr (.inr rfl)
      · exact .inl rfl
theorem rowE_398 {s : List UInt8} (h : (s.length : Int) ≤ 398) : rowE s 400 = rowE s 398 := by
  unfold rowE
  rw [if_neg (by omega : ¬ (400 : Int) < s.length), if_neg (by omega : ¬ (398 : Int) < s.length)]
theorem rowE_long {s : List UInt8} (h : 398 < (s.length : Int)) : rowE s 398 = 3 := by
  unfold rowE; rw [if_pos h]
theorem Back_ok {ro : List ABlk} {h : Heap} {n : Int} {s : List UInt8} : callX F1 ro 20 [.i .i64 n, .s s] h = some (.tup [.s (bkS n s), .i .i64 (bkE n s)], h, h.length, h.length) := by
  refine g20_ok (meansX_ok F1 ro) rfl ?_
  unfold g20
  have c1 := callM_pure (call := callX F1 ro) (l := h.length) (p := h.length) (read_ok (ro := ro) (h := h) (n := n) (s := s)) (Nat.le_refl _) (Nat.le_refl _)
  simp only [meansX_call, c1, bindP_some, e_x0, e_x1, bindO_some, asI_i, eqI_eq, forceB_eq, e_len, ltI_eq]
  by_cases hn : n < 0 ∨ 255 < n
  · have ha : askE n s 400 = 2 := if_pos hn
    have hb : bkE n s = 2 := if_pos hn
    have hS : bkS n s = [] := by rw [bkS, hb]; rfl
    have z1 : ((2 : Int) == 2) = true := rfl
    have z2 : ((2 : Int) == 0) = false := rfl
    simp only [ha, z1, Bool.not_true, cond_false, bindO_some, z2, Bool.not_false, cond_true, hb, hS, tupA]
    exact fin_pure rfl
  · have ha : askE n s 400 = rowE s 400 := if_neg hn
    have hr := rowE_vals s 400
    have h2 : (askE n s 400 == 2) = false := by rw [beq_eq_false_iff_ne, ha]; omega
    by_cases h398 : (398 : Int) < (s.length : Int)
    · have hb : bkE n s = 3 := by rw [bkE, if_neg hn, if_neg (by rw [rowE_long h398]; decide), rowE_long h398]
      have hS : bkS n s = [] := by rw [bkS, hb]; rfl
      simp only [h2, Bool.not_false, cond_true, decide_eq_true h398, bindO_some, hb, hS, tupA]
      exact fin_pure rfl
    · have he : askE n s 400 = rowE s 398 := by rw [ha, rowE_398 (by omega)]
      simp only [h2, Bool.not_false, cond_true, decide_eq_false h398, bindO_some, cond_false]
      by_cases h1 : rowE s 398 = 0
      · have ha0 : askE n s 400 = 0 := by rw [he, h1]
        obtain ⟨p1, p2, p3, p4, p5⟩ := okR_of ha0
        obtain ⟨k, rfl⟩ : ∃ k : Nat, n = (k : Int) := ⟨n.toNat, by omega⟩
        have hU : rdU k s = (k : Int) := if_pos ha0
        have b1 : (askE k s 400 == 0) = true := by rw [ha0]; rfl
        have cb := callM_pure (call := callX F1 ro) (l := h.length) (p := h.length) (back_ok (ro := ro) (h := h) (by omega : k < 256) p5 (by omega)) (Nat.le_refl _) (Nat.le_refl _)
        by_cases hz : canI k (bw s) s.length 0 = 0
        · have hb : bkE k s = 10 := by rw [bkE, if_neg hn, if_pos h1, Int.toNat_natCast, if_pos hz]
          have hS : bkS k s = [] := by rw [bkS, hb]; rfl
          rw [if_pos hz] at cb
          simp only [b1, Bool.not_true, cond_false, hU, cb, bindP_some, e_x0, e_x1, bindO_some, asS_s, asB_b, Bool.not_false, cond_true, hb, hS, tupA]
          exact fin_pure rfl
        · have hb : bkE k s = 0 := by rw [bkE, if_neg hn, if_pos h1, Int.toNat_natCast, if_neg hz]
          have hS : bkS k s = backL k (bw s) s.length := by rw [bkS, if_pos hb]; rfl
          rw [if_neg hz] at cb
          simp only [b1, Bool.not_true, cond_false, hU, cb, bindP_some, e_x0, e_x1, bindO_some, asS_s, asB_b, hb, hS, tupA]
          exact fin_pure rfl
      · have b1 : (rowE s 398 == 0) = false := beq_eq_false_iff_ne.2 h1
        have hb : bkE n s = rowE s 398 := by rw [bkE, if_neg hn, if_neg h1]
        have hS : bkS n s = [] := by rw [bkS, hb, if_neg h1]
        simp only [he, b1, Bool.not_false, cond_true, hb, hS, tupA]
        exact fin_pure rfl

/- Rings -/
def oneF (p j : Nat) : Nat := if j = p then 1 else 0
def sumR (u : Nat) (s : List UInt8) : Nat → Nat
  | 0 => 0
  | p + 1 => sumR u s p + wkN u s (oneF p) s.length p
def rgN (n : Int) (s : List UInt8) : Int := if shE n s = 0 then (sumR n.toNat s 4 : Nat) else 0
theorem oneF_le (p j : Nat) : oneF p j ≤ 1 := by unfold oneF; split <;> omega
theorem ixV4 {g : Nat → Nat} {p : Nat} (hp : p < 4) : evP .e (.ixV 4 1 true (.c (agg4 g)) (.c (.i .i64 (p : Int)))) = some (.i .i64 (g p : Nat)) := by
  rcases (by omega : p = 0 ∨ p = 1 ∨ p = 2 ∨ p = 3) with rfl | rfl | rfl | rfl <;> rfl
theorem sumR_le {u : Nat} {s : List UInt8} (hl : s.length ≤ 50) : ∀ p, p ≤ 4 → sumR u s p ≤ p * 1125899906842624
  | 0, _ => Nat.zero_le _
  | p + 1, hp => by
    have ih := sumR_le (u := u) hl p (by omega)
    have h1 := wkN_le (u := u) (s := s) (from' := oneF p) (fun j _ => oneF_le p j) s.length p (by omega)
    have h2 := pow50 hl
    show sumR u s p + wkN u s (oneF p) s.length p ≤ _
    omega
theorem shE_zero {n : Int} {s : List UInt8} (h1 : shE n s = 0) : askE n s 400 = 0 ∧ s.length ≤ 50 := by
  by_cases hh : askE n s 400 = 0 ∧ 50 < s.length
  · rw [shE, if_pos hh] at h1; cases h1
  · rw [shE, if_neg hh] at h1
    refine ⟨h1, ?_⟩
    rcases Nat.lt_or_ge 50 s.length with h | h
    · exact absurd ⟨h1, h⟩ hh
    · exact h
theorem Rings_ok {ro : List ABlk} {h : Heap} {n : Int} {s : List UInt8} : callX F1 ro 24 [.i .i64 n, .s s] h = some (.tup [.i .i64 (rgN n s), .i .i64 (shE n s)], h, h.length, h.length) := by
  refine g24_ok (meansX_ok F1 ro) rfl ?_
  unfold g24
  have c1 := callM_pure (call := callX F1 ro) (l := h.length) (p := h.length) (short_ok (ro := ro) (h := h) (n := n) (s := s)) (Nat.le_refl _) (Nat.le_refl _)
  unfold rgN
  simp only [meansX_call, c1, bindP_some, e_x0, e_x1, bindO_some, asI_i, eqI_eq, forceB_eq]
  by_cases h1 : shE n s = 0
  · obtain ⟨hask, h50⟩ := shE_zero h1
    obtain ⟨p1, p2, p3, p4, p5⟩ := okR_of hask
    obtain ⟨k, rfl⟩ : ∃ k : Nat, n = (k : Int) := ⟨n.toNat, by omega⟩
    have hU : shU k s = (k : Int) := by rw [shU, if_neg (fun hh => by omega), rdU, if_pos hask]
    obtain ⟨r, k1, hq, rfl, q1, q2⟩ := loop_seq (b := fun z : Int × Int × Mm => g24_b0 (meansX F1 ro) ro s k z.1 z.2.1 z.2.2) 4
      (fun p z => ∃ hp, z = (((sumR k s p : Nat) : Int), (p : Int), ⟨hp, h.length, h.length⟩) ∧ h.length ≤ hp.length ∧ ∀ j, j < h.length → hp[j]? = h[j]?)
      (fun r => ∃ hp, r = (((sumR k s 4 : Nat) : Int), ⟨hp, h.length, h.length⟩) ∧ h.length ≤ hp.length ∧ ∀ j, j < h.length → hp[j]? = h[j]?)
      (fun p z hp4 hI => by
        obtain ⟨hp, rfl, hlen, hkeep⟩ := hI
        have hlt : decide ((p : Int) < 4) = true := by simp; omega
        have ha := al4 (ro := ro) (hp := hp) (l := h.length) (p := h.length)
        have h9 := blk4_0 hp
        generalize hBn : hp ++ [some (blkOf 63 [(AVal.i IntKind.i64 0), (AVal.i IntKind.i64 0), (AVal.i IntKind.i64 0), (AVal.i IntKind.i64 0)])] = Hn at ha h9
        have hLn : Hn.length = hp.length + 1 := by rw [← hBn]; simp
        have hKn : ∀ k, k < hp.length → Hn[k]? = hp[k]? := fun k hk => by rw [← hBn]; exact List.getElem?_append_left hk
        obtain ⟨y, s1, s2⟩ := Vec.set (ro := ro) (l := h.length) (p := h.length) h9 (r := p) hp4 (v := .i .i64 1) rfl rfl rfl
        rw [Nat.min_eq_left hlen] at s1
        have v4 : V4 (Hn.set hp.length y) hp.length (oneF p) := s2.congr fun r hr => by
          show (if r = p then _ else _) = _
          unfold oneF
          by_cases e : r = p
          · rw [if_pos e, if_pos e]; rfl
          · rw [if_neg e, if_neg e]
        have ld := V4.ld4 (ro := ro) (l := h.length) (p := h.length) v4
        have hl2 : (Hn.set hp.length y).length = hp.length + 1 := by rw [List.length_set]; exact hLn
        have cw := callM_pure (call := callX F1 ro) (l := h.length) (p := h.length) (walks_ok (ro := ro) (h := Hn.set hp.length y) (f := oneF p) (by omega : k < 256) p5 h50 (fun j _ => oneF_le p j)) (by omega) (by omega)
        have hs4 := sumR_le (u := k) h50 p (by omega)
        have hs5 := sumR_le (u := k) h50 (p + 1) (by omega)
        have ew : wr .i64 (((sumR k s p : Nat) : Int) + ((wkN k s (oneF p) s.length p : Nat) : Int)) = ((sumR k s (p + 1) : Nat) : Int) := by
          have e : sumR k s (p + 1) = sumR k s p + wkN k s (oneF p) s.length p := rfl
          have h6 : (p + 1) * 1125899906842624 ≤ 4 * 1125899906842624 := Nat.mul_le_mul_right _ (by omega)
          rw [wr_id' (by omega) (by omega)]; omega
        refine ⟨_, ?_, Hn.set hp.length y, rfl, by omega, fun j hj => by rw [List.getElem?_set_ne (by omega), hKn j (by omega), hkeep j hj]⟩
        simp only [g24_b0, ltI_eq, forceB_eq, hlt, cond_true, ha, bindP_some, ixA4 hp4, bindO_some, s1, ld, meansX_call, cw, ixV4 hp4, asI_i, forceI_eq, ew, wr_next (by omega : p ≤ 1000000)])
      (fun z hI => by
        obtain ⟨hp, rfl, hlen, hkeep⟩ := hI
        refine ⟨_, ?_, hp, rfl, hlen, hkeep⟩
        have : decide ((4 : Int) < 4) = false := rfl
        show g24_b0 (meansX F1 ro) ro s k _ 4 _ = _
        simp only [g24_b0, ltI_eq, forceB_eq, this, cond_false])
      4 0 (0, 0, ⟨h, h.length, h.length⟩) rfl ⟨h, rfl, Nat.le_refl _, fun _ _ => rfl⟩
    have z0 : ((0 : Int) == 0) = true := rfl
    simp only [h1, z0, Bool.not_true, cond_false, hU, meansX_loop, k1, bindO_some, if_true, Int.toNat_natCast, tupA]
    rw [fin_take (by rfl), take_keep q1 q2]
  · have b1 : (shE n s == 0) = false := beq_eq_false_iff_ne.2 h1
    simp only [b1, Bool.not_false, cond_true, if_neg h1, tupA]
    exact fin_pure rfl
end Go.Proofs.Ytgbkicelkpagpaa.W

/- The reference's walks: ways, small, sum, one, can; Ways and Rings. -/
open Go.Vm
set_option linter.unusedVariables false
namespace Go.Proofs.Ytgbkicelkpagpaa.W
open Go

/- walks by a function of the letters -/
def wkC (u : Nat) (c : Nat → Nat) (from' : Nat → Nat) : Nat → Nat → Nat
  | 0 => from'
  | i + 1 => nxt u (c i) (wkC u c from' i)
theorem wkC_N (u : Nat) (s : List UInt8) (from' : Nat → Nat) : ∀ k, wkC u (bw s) from' k = wkN u s from' k
  | 0 => rfl
  | k + 1 => by show nxt u (bw s k) (wkC u (bw s) from' k) = nxt u (bw s k) (wkN u s from' k); rw [wkC_N u s from' k]
theorem wkC_le {u : Nat} {c : Nat → Nat} {from' : Nat → Nat} (h : ∀ j, j < 4 → from' j ≤ 1) : ∀ i j, j < 4 → wkC u c from' i j ≤ 2 ^ i
  | 0, j, hj => h j hj
  | i + 1, j, hj => by
    have := nxt_le (u := u) (c := c i) (at' := wkC u c from' i) (X := 2 ^ i) (fun j hj => wkC_le h i j hj) hj
    have e : 2 ^ (i + 1) = 2 * 2 ^ i := by rw [Nat.pow_succ]; omega
    rw [e]; exact this
theorem st1_eq (u c : Nat) (a to : Nat → Nat) (t j : Nat) : st1 u c a to t j = to j + (if j = t % 4 ∧ nx u t = c then a (t / 2) else 0) := by
  unfold st1
  by_cases h1 : nx u t = c
  · by_cases h2 : j = t % 4
    · simp [h1, h2]
    · simp [h1, h2]
  · simp [h1]
theorem nxt_eq {u c : Nat} {a : Nat → Nat} {j : Nat} (hj : j < 4) : nxt u c a j = (if nx u j = c then a (j / 2) else 0) + (if nx u (j + 4) = c then a (j / 2 + 2) else 0) := by
  rcases (by omega : j = 0 ∨ j = 1 ∨ j = 2 ∨ j = 3) with rfl | rfl | rfl | rfl <;> simp [nxt, stp, st1_eq]
/-- a set from which one can go on -/
theorem pos_nxt {u c S : Nat} {g : Nat → Nat} : (∃ j, j < 4 ∧ 0 < nxt u c g j ∧ S.testBit j = true) ↔ ∃ p, p < 4 ∧ 0 < g p ∧ (beV u S c).testBit p = true := by
  constructor
  · rintro ⟨j, hj, hp, hS⟩
    rw [nxt_eq hj] at hp
    by_cases h1 : nx u j = c ∧ 0 < g (j / 2)
    · refine ⟨j / 2, by omega, h1.2, ?_⟩
      rw [beV_bit (by omega)]
      rcases (by omega : j = 2 * (j / 2) ∨ j = 2 * (j / 2) + 1) with e | e
      · have e2 : 2 * (j / 2) % 4 = j := by omega
        rw [e2, hS, ← e, beq_iff.2 h1.1]; rfl
      · have e2 : (2 * (j / 2) + 1) % 4 = j := by omega
        rw [e2, hS, ← e, beq_iff.2 h1.1]; simp
    · have h2 : nx u (j + 4) = c ∧ 0 < g (j / 2 + 2) := by
        by_cases k1 : nx u (j + 4) = c
        · refine ⟨k1, ?_⟩
          rw [if_pos k1] at hp
          by_cases k2 : nx u j = c
          · rw [if_pos k2] at hp
            have : ¬ 0 < g (j / 2) := fun h => h1 ⟨k2, h⟩
            omega
          · rw [if_neg k2] at hp; omega
        · rw [if_neg k1] at hp
          by_cases k2 : nx u j = c
          · rw [if_pos k2] at hp
            exact absurd ⟨k2, by omega⟩ h1
          · rw [if_neg k2] at hp; omega
      refine ⟨j / 2 + 2, by omega, h2.2, ?_⟩
      rw [beV_bit (by omega)]
      rcases (by omega : j = 2 * (j / 2) ∨ j = 2 * (j / 2) + 1) with e | e
      · have e2 : 2 * (j / 2 + 2) % 4 = j := by omega
        have e3 : 2 * (j / 2 + 2) = j + 4 := by omega
        rw [e2, hS, e3, beq_iff.2 h2.1]; rfl
      · have e2 : (2 * (j / 2 + 2) + 1) % 4 = j := by omega
        have e3 : 2 * (j / 2 + 2) + 1 = j + 4 := by omega
        rw [e2, hS, e3, beq_iff.2 h2.1]; simp
  · rintro ⟨p, hp, hg, hS⟩
    rw [beV_bit hp, Bool.or_eq_true, Bool.and_eq_true, Bool.and_eq_true] at hS
    have key : ∀ t, t / 2 = p → S.testBit (t % 4) = true → nx u t = c → t < 8 → ∃ j, j < 4 ∧ 0 < nxt u c g j ∧ S.testBit j = true := by
      intro t ht hSt hn h8
      refine ⟨t % 4, by omega, ?_, hSt⟩
      rw [nxt_eq (by omega)]
      by_cases h4 : t < 4
      · have e : t % 4 = t := by omega
        rw [e, if_pos hn, ht]; omega
      · have e : t % 4 + 4 = t := by omega
        have e2 : t % 4 / 2 + 2 = p := by omega
        rw [e, if_pos hn, e2]; omega
    rcases hS with ⟨h1, h2⟩ | ⟨h1, h2⟩
    · exact key (2 * p) (by omega) h1 (beq_iff.1 h2) (by omega)
    · exact key (2 * p + 1) (by omega) h1 (beq_iff.1 h2) (by omega)

/- one, small, sum -/
theorem one_ok {ro : List ABlk} {h : Heap} {p : Nat} (hp4 : p < 4) : ∃ b hp, callX F1 ro 60 [.i .i64 p] h = some (.sl ⟨false, b, 0⟩ 4 (.known 4), hp, h.length, h.length) ∧ NV h hp b 4 (oneF p) := by
  have hmk : stepM ro ⟨h, h.length, h.length⟩ (.mk 3 1 8 [(AVal.i IntKind.i64 0)] (.c (.i .i64 4)) (.c (.i .i64 4))) = some (.sl ⟨false, h.length, 0⟩ 4 (.known 4), ⟨h ++ [some (newBlk 3 (AVal.i IntKind.i64 0) 4)], h.length, h.length⟩) :=
    mk_ok (n := 4) (by omega) (by omega)
  have hv := Vec.new h 3 4 (AVal.i IntKind.i64 0)
  generalize hB : h ++ [some (newBlk 3 (AVal.i IntKind.i64 0) 4)] = H at hmk hv
  have hL : H.length = h.length + 1 := by rw [← hB]; simp
  have hK : ∀ k, k < h.length → H[k]? = h[k]? := fun k hk => by rw [← hB]; exact List.getElem?_append_left hk
  obtain ⟨y, s1, s2⟩ := Vec.set (ro := ro) (l := h.length) (p := h.length) hv (r := p) hp4 (v := .i .i64 1) rfl rfl rfl
  rw [Nat.min_self] at s1
  refine ⟨h.length, H.set h.length y, g60_ok (meansX_ok F1 ro) rfl ?_, s2.congr fun r hr => ?_, Nat.le_refl _, by rw [List.length_set]; omega, fun j hj => by rw [List.getElem?_set_ne (by omega)]; exact hK j hj⟩
  · unfold g60
    simp only [hmk, bindP_some, ixS_eq hp4, bindO_some, s1, tupA]
    exact fin_new (Nat.le_refl _)
  · show (if r = p then _ else _) = _
    unfold oneF
    by_cases e : r = p
    · rw [if_pos e, if_pos e]; rfl
    · rw [if_neg e, if_neg e]; rfl
theorem mx_num (x : Nat) : mxV false (x : Int) 1 = ((min x 1 : Nat) : Int) := by
  unfold mxV
  rw [if_neg (by decide)]
  split <;> omega
theorem small_ok {ro : List ABlk} {h : Heap} {b : Nat} {cap : Cap} {g : Nat → Nat} (hv : Vec h 3 b 4 (fun i => .i .i64 (g i : Nat))) :
    ∃ b' hp, callX F1 ro 77 [.sl ⟨false, b, 0⟩ 4 cap] h = some (.sl ⟨false, b', 0⟩ 4 .grow, hp, h.length, h.length) ∧ NV h hp b' 4 (fun j => min (g j) 1) := by
  obtain ⟨b', hp, k1, nv⟩ := push_loop (ro := ro) (h := h) (L := h.length) (Nat.le_refl _) (b := fun z => g77_b0 (meansX F1 ro) ro (.sl ⟨false, b, 0⟩ 4 cap) z.1 z.2.1 z.2.2) 0 4 (by omega) (by omega) (fun j => min (g j) 1)
    (fun k hk v hp hlen hkeep v2 hp2 v3 hp3 s1 s2 => by
      have hlt : decide ((k : Int) < ((4 : Nat) : Int)) = true := by simp; omega
      have ld := Vec.ld (ro := ro) (l := h.length) (p := h.length) (hv.keep (hkeep b hv.lt)) hk
      rw [Nat.zero_add]
      simp only [g77_b0, e_lenS, bindO_some, asI_i, ltI_eq, forceB_eq, hlt, cond_true, ixS_eq hk, ld, forceI_eq, mx_num, s1, bindP_some, s2, wr_next (by omega : k ≤ 1000000)])
    (fun v m => by
      have : decide (((4 : Nat) : Int) < ((4 : Nat) : Int)) = false := lt_no
      show g77_b0 (meansX F1 ro) ro _ v ((0 + 4 : Nat) : Int) m = _
      rw [Nat.zero_add]
      simp only [g77_b0, e_lenS, bindO_some, asI_i, ltI_eq, forceB_eq, this, cond_false])
  have e0 : ((0 : Nat) : Int) = 0 := rfl
  rw [e0] at k1
  refine ⟨b', hp, g77_ok (meansX_ok F1 ro) rfl ?_, nv⟩
  unfold g77
  simp only [meansX_loop, k1, bindO_some, tupA]
  exact fin_new nv.new
def sumT (g : Nat → Nat) : Nat → Nat
  | 0 => 0
  | i + 1 => sumT g i + g i
theorem sum_ok {ro : List ABlk} {h : Heap} {b : Nat} {cap : Cap} {g : Nat → Nat} (hv : Vec h 3 b 4 (fun i => .i .i64 (g i : Nat))) (hg : ∀ j, j < 4 → g j ≤ 1125899906842624) :
    callX F1 ro 58 [.sl ⟨false, b, 0⟩ 4 cap] h = some (.i .i64 (sumT g 4 : Nat), h, h.length, h.length) := by
  refine g58_ok (meansX_ok F1 ro) rfl ?_
  unfold g58
  have hle : ∀ i, i ≤ 4 → sumT g i ≤ i * 1125899906842624 := by
    intro i
    induction i with
    | zero => intro _; exact Nat.zero_le _
    | succ i ih =>
      intro hi
      have h1 := ih (by omega)
      have h2 := hg i (by omega)
      show sumT g i + g i ≤ _
      omega
  obtain ⟨r, k1, rfl⟩ := loop_seq (b := fun z : Int × Int => g58_b0 (meansX F1 ro) ro (.sl ⟨false, b, 0⟩ 4 cap) ⟨h, h.length, h.length⟩ z.1 z.2) 4 (fun i z => z = (((sumT g i : Nat) : Int), (i : Int))) (fun r => r = ((sumT g 4 : Nat) : Int))
    (fun i z hi hI => by
      subst hI
      have hlt : decide ((i : Int) < ((4 : Nat) : Int)) = true := by simp; omega
      have ld := Vec.ld (ro := ro) (l := h.length) (p := h.length) hv hi
      have h1 := hle (i + 1) (by omega)
      have h2 : (i + 1) * 1125899906842624 ≤ 4 * 1125899906842624 := Nat.mul_le_mul_right _ (by omega)
      have e : sumT g (i + 1) = sumT g i + g i := rfl
      have ew : wr .i64 (((sumT g i : Nat) : Int) + ((g i : Nat) : Int)) = ((sumT g (i + 1) : Nat) : Int) := by rw [wr_id' (by omega) (by omega)]; omega
      refine ⟨_, ?_, rfl⟩
      simp only [g58_b0, e_lenS, bindO_some, asI_i, ltI_eq, forceB_eq, hlt, cond_true, ixS_eq hi, ld, forceI_eq, ew, wr_next (by omega : i ≤ 1000000)])
    (fun z hI => by
      subst hI
      have : decide (((4 : Nat) : Int) < ((4 : Nat) : Int)) = false := lt_no
      refine ⟨_, ?_, rfl⟩
      simp only [g58_b0, e_lenS, bindO_some, asI_i, ltI_eq, forceB_eq, this, cond_false])
    4 0 (0, 0) rfl rfl
  simp only [meansX_loop, k1, bindO_some, tupA]
  exact fin_pure rfl

/- ways -/
theorem div_num : ∀ p, p < 4 → wr .i64 (Int.tdiv (Int.ofNat p) 2) = Int.ofNat (p / 2) ∧ Int.tmod (Int.ofNat p) 2 = Int.ofNat (p % 2) ∧ wr .i64 (Int.ofNat (p % 2) * 2) = Int.ofNat (p % 2 * 2) := by decide +kernel
theorem rways_ok {ro : List ABlk} {h : Heap} {u b n off k b2 : Nat} {cap cap2 : Cap} {f from' : Nat → Nat} (hu : u < 256) (hv : Vec h 3 b n (fun i => .i .i64 (f i : Nat))) (hf : ∀ i, i < n → f i < 2) (hoff : off + k ≤ n) (h0 : 0 < k) (hk : k ≤ 50)
    (hv2 : Vec h 3 b2 4 (fun i => .i .i64 (from' i : Nat))) (hfr : ∀ j, j < 4 → from' j ≤ 1) :
    ∃ b' hp, callX F1 ro 59 [.i .i64 u, .sl ⟨false, b, off⟩ k cap, .sl ⟨false, b2, 0⟩ 4 cap2] h = some (.sl ⟨false, b', 0⟩ 4 (.known 4), hp, h.length, h.length) ∧ NV h hp b' 4 (wkC u (fun i => f (off + i)) from' k) := by
  obtain ⟨v', m', k1, b', cap', hp, rfl, rfl, hvec, hnew, hlen, hkeep⟩ := loop_all3 (b := fun z => g59_b0 (meansX F1 ro) ro u (.sl ⟨false, b, off⟩ k cap) z.1 z.2.1 z.2.2) k
    (fun i v m => ∃ b' cap' hp, v = .sl ⟨false, b', 0⟩ 4 cap' ∧ m = ⟨hp, h.length, h.length⟩ ∧ Vec hp 3 b' 4 (fun j => .i .i64 (wkC u (fun i => f (off + i)) from' i j : Nat)) ∧ (0 < i → h.length ≤ b' ∧ cap' = .known 4) ∧ h.length ≤ hp.length ∧ ∀ j, j < h.length → hp[j]? = h[j]?)
    (fun i v m hi hI => by
      obtain ⟨b7, cap7, hp, rfl, rfl, hv7, hnew, hlen, hkeep⟩ := hI
      have hlt : decide ((i : Int) < (k : Int)) = true := by simp; omega
      have hmk : stepM ro ⟨hp, h.length, h.length⟩ (.mk 3 1 8 [(AVal.i IntKind.i64 0)] (.c (.i .i64 4)) (.c (.i .i64 4))) = some (.sl ⟨false, hp.length, 0⟩ 4 (.known 4), ⟨hp ++ [some (newBlk 3 (AVal.i IntKind.i64 0) 4)], h.length, h.length⟩) :=
        mk_ok (n := 4) (by omega) (by omega)
      have hv9 := Vec.new hp 3 4 (AVal.i IntKind.i64 0)
      generalize hB : hp ++ [some (newBlk 3 (AVal.i IntKind.i64 0) 4)] = H at hmk hv9
      have hL : H.length = hp.length + 1 := by rw [← hB]; simp
      have hK : ∀ k, k < hp.length → H[k]? = hp[k]? := fun k hk => by rw [← hB]; exact List.getElem?_append_left hk
      have hX : ∀ j, j < 4 → wkC u (fun i => f (off + i)) from' i j ≤ 1125899906842624 := fun j hj => Nat.le_trans (wkC_le hfr i j hj) (pow50 (by omega))
      have hfi : f (off + i) < 2 := hf _ (by omega)
      show ∃ v' m', g59_b0 (meansX F1 ro) ro u (.sl ⟨false, b, off⟩ k cap) (.sl ⟨false, b7, 0⟩ 4 cap7) i ⟨hp, h.length, h.length⟩ = _ ∧ ∃ b' cap' hp, v' = _ ∧ m' = _ ∧ Vec hp 3 b' 4 (fun j => .i .i64 (nxt u (f (off + i)) (wkC u (fun i => f (off + i)) from' i) j : Nat)) ∧ _
      generalize hat : wkC u (fun i => f (off + i)) from' i = at' at hv7 hX
      -- the two loops within
      have inner : ∀ (p : Nat) (hp1 : Heap), p < 4 → Vec hp1 3 hp.length 4 (fun j => .i .i64 (stp u (f (off + i)) at' (2 * p) j : Nat)) → hp1.length = hp.length + 1 → (∀ j, j < hp.length → hp1[j]? = hp[j]?) →
          ∃ hp2, loopX (fun z : Int × Mm => g59_b2 (meansX F1 ro) ro u (.sl ⟨false, b, off⟩ k cap) (.sl ⟨false, b7, 0⟩ 4 cap7) i (.sl ⟨false, hp.length, 0⟩ 4 (.known 4)) p z.1 z.2) (0, ⟨hp1, h.length, h.length⟩) = some ⟨hp2, h.length, h.length⟩ ∧
            Vec hp2 3 hp.length 4 (fun j => .i .i64 (stp u (f (off + i)) at' (2 * (p + 1)) j : Nat)) ∧ hp2.length = hp.length + 1 ∧ ∀ j, j < hp.length → hp2[j]? = hp[j]? := by
        intro p hp1 hp4 hvp hlp hkp
        obtain ⟨m', q1, hp2, rfl, q2, q3, q4⟩ := loop_all (b := fun z : Int × Mm => g59_b2 (meansX F1 ro) ro u (.sl ⟨false, b, off⟩ k cap) (.sl ⟨false, b7, 0⟩ 4 cap7) i (.sl ⟨false, hp.length, 0⟩ 4 (.known 4)) p z.1 z.2) 2
          (fun r m => ∃ hp2, m = ⟨hp2, h.length, h.length⟩ ∧ Vec hp2 3 hp.length 4 (fun j => .i .i64 (stp u (f (off + i)) at' (2 * p + r) j : Nat)) ∧ hp2.length = hp.length + 1 ∧ ∀ j, j < hp.length → hp2[j]? = hp[j]?)
          (fun r m hr hI => by
            obtain ⟨hp2, rfl, w9, wl, wk⟩ := hI
            have hr2 : decide ((r : Int) < 2) = true := by simp; omega
            obtain ⟨d1, d2, d3⟩ := div_num p hp4
            have d1' : wr .i64 (Int.tdiv (p : Int) 2) = ((p / 2 : Nat) : Int) := d1
            have d2' : Int.tmod (p : Int) 2 = ((p % 2 : Nat) : Int) := d2
            have d3' : wr .i64 (((p % 2 : Nat) : Int) * 2) = ((p % 2 * 2 : Nat) : Int) := d3
            have d4 : wr .i64 (((p % 2 * 2 : Nat) : Int) + (r : Int)) = (((2 * p + r) % 4 : Nat) : Int) := by rw [wr_id' (by omega) (by omega)]; omega
            have cb := callN_pure (call := callX F1 ro) (becomes_ok (ro := ro) (h := hp2) hu (by omega : p / 2 < 2) (by omega : p % 2 < 2) hr) rfl rfl
            rw [show 4 * (p / 2) + 2 * (p % 2) + r = 2 * p + r by omega] at cb
            have lb := Vec.lda (ro := ro) ((hv.keep (hkeep b hv.lt)).keep (wk b (Nat.lt_of_lt_of_le hv.lt hlen))) (i := off + i) (by omega)
            rw [Nat.zero_add] at lb
            have l7 := Vec.lda (ro := ro) (hv7.keep (wk b7 hv7.lt)) hp4
            have l9 := Vec.lda (ro := ro) w9 (i := (2 * p + r) % 4) (by omega)
            have hcmp := num_eq (nx u (2 * p + r)) (f (off + i))
            have hst : ∀ j, stp u (f (off + i)) at' (2 * p + (r + 1)) j = stp u (f (off + i)) at' (2 * p + r) j + (if j = (2 * p + r) % 4 ∧ nx u (2 * p + r) = f (off + i) then at' ((2 * p + r) / 2) else 0) := fun j => st1_eq _ _ _ _ _ _
            cases hb : Nat.beq (nx u (2 * p + r)) (f (off + i)) with
            | false =>
              rw [hb] at hcmp
              refine ⟨⟨hp2, h.length, h.length⟩, ?_, hp2, rfl, w9.congr fun j hj => ?_, wl, wk⟩
              · simp only [g59_b2, ltI_eq, forceB_eq, hr2, cond_true, forceI_eq, d1', d2', meansX_call, cb, bindO_some, asI_i, ixS_eq hi, lb, eqI_eq, hcmp, cond_false, wr_next (by omega : r ≤ 1000000)]
              · rw [hst, if_neg (fun hh => by rw [hh.2, Nat.beq_refl] at hb; cases hb)]; rfl
            | true =>
              rw [hb] at hcmp
              have hsum : stp u (f (off + i)) at' (2 * p + r) ((2 * p + r) % 4) + at' p ≤ 9007199254740992 := by
                have a1 := stp_le (u := u) (c := f (off + i)) hX (2 * p + r) (by omega) ((2 * p + r) % 4) (by omega)
                have a2 := hX p hp4
                have a3 : (2 * p + r + 3 - (2 * p + r) % 4) / 4 * 1125899906842624 ≤ 2 * 1125899906842624 := Nat.mul_le_mul_right _ (by omega)
                omega
              have ew : wr .i64 (((stp u (f (off + i)) at' (2 * p + r) ((2 * p + r) % 4) : Nat) : Int) + ((at' p : Nat) : Int)) = ((stp u (f (off + i)) at' (2 * p + r) ((2 * p + r) % 4) + at' p : Nat) : Int) := by rw [wr_id' (by omega) (by omega)]; omega
              obtain ⟨y, g1, g2⟩ := Vec.wr (ro := ro) (l := h.length) (p := h.length) w9 (r := (2 * p + r) % 4) (by omega) (v := .i .i64 ((stp u (f (off + i)) at' (2 * p + r) ((2 * p + r) % 4) + at' p : Nat) : Int)) rfl rfl
              rw [Nat.min_eq_left hlen] at g1
              refine ⟨⟨hp2.set hp.length y, h.length, h.length⟩, ?_, _, rfl, g2.congr fun j hj => ?_, by rw [List.length_set]; exact wl, fun j hj => by rw [List.getElem?_set_ne (by omega)]; exact wk j hj⟩
              · simp only [g59_b2, ltI_eq, forceB_eq, hr2, cond_true, forceI_eq, d1', d2', meansX_call, cb, bindO_some, asI_i, ixS_eq hi, lb, eqI_eq, hcmp, d3', d4, ixS_eq (by omega : (2 * p + r) % 4 < 4), l9, ixS_eq hp4, l7, ew, asP_p, AVal.cells, g1, wr_next (by omega : r ≤ 1000000)]
              · show (if j = (2 * p + r) % 4 then _ else _) = _
                rw [hst]
                by_cases e : j = (2 * p + r) % 4
                · rw [if_pos e, if_pos ⟨e, beq_iff.1 hb⟩, show (2 * p + r) / 2 = p by omega, e]
                · rw [if_neg e, if_neg (fun hh => e hh.1)]; rfl)
          (fun m hI => by
            have : decide ((2 : Int) < 2) = false := rfl
            show g59_b2 (meansX F1 ro) ro u _ _ i _ p 2 m = _
            simp only [g59_b2, ltI_eq, forceB_eq, this, cond_false])
          2 0 ⟨hp1, h.length, h.length⟩ rfl ⟨hp1, rfl, hvp, hlp, hkp⟩
        exact ⟨hp2, q1, q2, q3, q4⟩
      obtain ⟨m', q1, hp2, rfl, q2, q3, q4⟩ := loop_all (b := fun z : Int × Mm => g59_b1 (meansX F1 ro) ro u (.sl ⟨false, b, off⟩ k cap) (.sl ⟨false, b7, 0⟩ 4 cap7) i (.sl ⟨false, hp.length, 0⟩ 4 (.known 4)) z.1 z.2) 4
        (fun p m => ∃ hp2, m = ⟨hp2, h.length, h.length⟩ ∧ Vec hp2 3 hp.length 4 (fun j => .i .i64 (stp u (f (off + i)) at' (2 * p) j : Nat)) ∧ hp2.length = hp.length + 1 ∧ ∀ j, j < hp.length → hp2[j]? = hp[j]?)
        (fun p m hp4 hI => by
          obtain ⟨hp1, rfl, w9, wl, wk⟩ := hI
          have hp4' : decide ((p : Int) < 4) = true := by simp; omega
          obtain ⟨hp2, r1, r2, r3, r4⟩ := inner p hp1 hp4 w9 wl wk
          refine ⟨_, ?_, hp2, rfl, r2, r3, r4⟩
          simp only [g59_b1, ltI_eq, forceB_eq, hp4', cond_true, meansX_loop, r1, bindO_some, forceI_eq, wr_next (by omega : p ≤ 1000000)])
        (fun m hI => by
          have : decide ((4 : Int) < 4) = false := rfl
          show g59_b1 (meansX F1 ro) ro u _ _ i _ 4 m = _
          simp only [g59_b1, ltI_eq, forceB_eq, this, cond_false])
        4 0 ⟨H, h.length, h.length⟩ rfl ⟨H, rfl, hv9.congr fun r hr => rfl, hL, hK⟩
      have e0 : ((0 : Nat) : Int) = 0 := rfl
      rw [e0] at q1
      refine ⟨.sl ⟨false, hp.length, 0⟩ 4 (.known 4), ⟨hp2, h.length, h.length⟩, ?_, hp.length, .known 4, hp2, rfl, rfl, q2, fun _ => ⟨hlen, rfl⟩, by omega, fun j hj => by rw [q4 j (by omega), hkeep j hj]⟩
      simp only [g59_b0, e_lenS, bindO_some, asI_i, ltI_eq, forceB_eq, hlt, cond_true, hmk, bindP_some, meansX_loop, q1, forceI_eq, wr_next (by omega : i ≤ 1000000)])
    (fun v m _ => by
      have : decide ((k : Int) < (k : Int)) = false := lt_no
      show g59_b0 (meansX F1 ro) ro u _ v k m = _
      simp only [g59_b0, e_lenS, bindO_some, asI_i, ltI_eq, forceB_eq, this, cond_false])
    k 0 (.sl ⟨false, b2, 0⟩ 4 cap2) ⟨h, h.length, h.length⟩ (by omega) ⟨b2, cap2, h, rfl, rfl, hv2, fun hh => absurd hh (by omega), Nat.le_refl _, fun _ _ => rfl⟩
  obtain ⟨hnb, rfl⟩ := hnew h0
  have e0 : ((0 : Nat) : Int) = 0 := rfl
  rw [e0] at k1
  refine ⟨b', hp, g59_ok (meansX_ok F1 ro) rfl ?_, hvec, hnb, hlen, hkeep⟩
  unfold g59
  simp only [meansX_loop, k1, bindO_some, tupA]
  exact fin_new hnb
end Go.Proofs.Ytgbkicelkpagpaa.W

/- The reference's can, Back, Ways and Rings. -/
open Go.Vm
set_option linter.unusedVariables false
namespace Go.Proofs.Ytgbkicelkpagpaa.W
open Go

/- cuts of a list -/
theorem cut_one {b off k i : Nat} {cap : Cap} (hc : cap = .grow ∨ cap = .any) (hi : i < k) : ∃ cap', evP .e (.slS 1 (.c (.sl ⟨false, b, off⟩ k cap)) (some (.c (.i .i64 (i : Int)))) (some (.c (.i .i64 ((i + 1 : Nat) : Int)))) none) = some (.sl ⟨false, b, off + i⟩ 1 cap') := by
  have h1 : sbound (some (.i .i64 ((i + 1 : Nat) : Int))) k k = some (i + 1) := by
    show cond (Nat.ble (i + 1) k) (some (i + 1)) none = _
    rw [show Nat.ble (i + 1) k = true by rw [Nat.ble_eq]; omega]; rfl
  have h2 : sbound (some (.i .i64 (i : Int))) 0 (i + 1) = some i := by
    show cond (Nat.ble i (i + 1)) (some i) none = _
    rw [show Nat.ble i (i + 1) = true by rw [Nat.ble_eq]; omega]; rfl
  have hb : capB cap k = k := by rcases hc with rfl | rfl <;> rfl
  cases i with
  | zero =>
    refine ⟨cap, ?_⟩
    have e : ((0 : Nat) : Int) = 0 := rfl
    simp only [evP, ev_slS, opd, sl_lh, Option.map_some, hb, h1, h2, Nat.zero_add, Nat.add_zero]
  | succ i =>
    refine ⟨.any, ?_⟩
    have hlt : Nat.blt (i + 1) k = true := by rw [Nat.blt_eq]; exact hi
    rcases hc with rfl | rfl <;> simp only [evP, ev_slS, opd, sl_lh, Option.map_some, hb, h1, h2, hlt, cond_true, Nat.mul_one, Nat.add_sub_cancel_left]
/-- the rest of a list -/
def IsRest (b n i : Nat) (v : AVal) : Prop := (i < n ∧ ∃ cap, (cap = .grow ∨ cap = .any) ∧ v = .sl ⟨false, b, i⟩ (n - i) cap) ∨ (i = n ∧ v = .esl)
theorem cut_rest {b n i : Nat} (hi : i < n) : ∃ v, evP .e (.slS 1 (.c (.sl ⟨false, b, 0⟩ n .grow)) (some (.c (.i .i64 ((i + 1 : Nat) : Int)))) none none) = some v ∧ IsRest b n (i + 1) v := by
  have h1 : sbound (none : Option AVal) n n = some n := rfl
  have h2 : sbound (some (.i .i64 ((i + 1 : Nat) : Int))) 0 n = some (i + 1) := by
    show cond (Nat.ble (i + 1) n) (some (i + 1)) none = _
    rw [show Nat.ble (i + 1) n = true by rw [Nat.ble_eq]; omega]; rfl
  have hb : capB .grow n = n := rfl
  by_cases hlt : i + 1 < n
  · have hl : Nat.blt (i + 1) n = true := by rw [Nat.blt_eq]; exact hlt
    refine ⟨.sl ⟨false, b, i + 1⟩ (n - (i + 1)) .any, ?_, .inl ⟨hlt, .any, .inr rfl, rfl⟩⟩
    simp only [evP, ev_slS, opd, sl_lh, Option.map_some, Option.map_none, hb, h1, h2, hl, cond_true, Nat.mul_one, Nat.zero_add]
  · have hl : Nat.blt (i + 1) n = false := by rw [← Bool.not_eq_true, Nat.blt_eq]; exact hlt
    refine ⟨.esl, ?_, .inr ⟨by omega, rfl⟩⟩
    simp only [evP, ev_slS, opd, sl_lh, Option.map_some, Option.map_none, hb, h1, h2, hl, cond_false]
theorem rest_all {b n : Nat} (h0 : 0 < n) : IsRest b n 0 (.sl ⟨false, b, 0⟩ n .grow) := .inl ⟨h0, .grow, .inl rfl, rfl⟩

theorem t15 : ∀ j, j < 4 → (15 : Nat).testBit j = true := by decide +kernel
theorem sumT_pos (g : Nat → Nat) : 0 < sumT g 4 ↔ ∃ j, j < 4 ∧ 0 < g j := by
  have e : sumT g 4 = g 0 + g 1 + g 2 + g 3 := by show 0 + g 0 + g 1 + g 2 + g 3 = _; omega
  rw [e]
  constructor
  · intro h
    by_cases h0 : 0 < g 0
    · exact ⟨0, by omega, h0⟩
    by_cases h1 : 0 < g 1
    · exact ⟨1, by omega, h1⟩
    by_cases h2 : 0 < g 2
    · exact ⟨2, by omega, h2⟩
    exact ⟨3, by omega, by omega⟩
  · rintro ⟨j, hj, hp⟩
    rcases (by omega : j = 0 ∨ j = 1 ∨ j = 2 ∨ j = 3) with rfl | rfl | rfl | rfl <;> omega

theorem can_ok {ro : List ABlk} {h : Heap} {u b n i0 p : Nat} {v1 : AVal} {f : Nat → Nat} (hu : u < 256) (hv : Vec h 3 b n (fun i => .i .i64 (f i : Nat))) (hf : ∀ i, i < n → f i < 2) (hn : n ≤ 900) (hr : IsRest b n i0 v1) (hp4 : p < 4) :
    callX F1 ro 55 [.i .i64 u, v1, .i .i64 p] h = some (.b ((canI u f n i0).testBit p), h, h.length, h.length) := by
  refine g55_ok (meansX_ok F1 ro) (by rcases hr with ⟨_, cap, _, rfl⟩ | ⟨_, rfl⟩ <;> rfl) ?_
  unfold g55
  obtain ⟨b1, hp1, c1, nv1⟩ := one_ok (ro := ro) (h := h) hp4
  have c1' := callM_new c1 (Nat.le_refl _)
  have hone : (∃ j, j < 4 ∧ 0 < oneF p j ∧ (canI u f n i0).testBit j = true) ↔ (canI u f n i0).testBit p = true := by
    constructor
    · rintro ⟨j, hj, hpj, ht⟩
      unfold oneF at hpj
      by_cases e : j = p
      · rw [← e]; exact ht
      · rw [if_neg e] at hpj; omega
    · intro ht
      exact ⟨p, hp4, by unfold oneF; rw [if_pos rfl]; omega, ht⟩
  -- the loop, and what is there at its end
  obtain ⟨v', m', k1, b', cap', hp, g, rfl, rfl, hvec, hg1, hiff, hlen, hkeep⟩ : ∃ v' m', loopX (fun z : AVal × Int × Mm => g55_b0 (meansX F1 ro) ro u v1 z.1 z.2.1 z.2.2) (.sl ⟨false, b1, 0⟩ 4 (.known 4), 0, ⟨hp1, h.length, h.length⟩) = some (v', m') ∧
      ∃ b' cap' hp, ∃ g : Nat → Nat, v' = .sl ⟨false, b', 0⟩ 4 cap' ∧ m' = ⟨hp, h.length, h.length⟩ ∧ Vec hp 3 b' 4 (fun j => .i .i64 (g j : Nat)) ∧ (∀ j, j < 4 → g j ≤ 1) ∧ ((∃ j, j < 4 ∧ 0 < g j ∧ (canI u f n n).testBit j = true) ↔ (canI u f n i0).testBit p = true) ∧ h.length ≤ hp.length ∧ ∀ j, j < h.length → hp[j]? = h[j]? := by
    rcases hr with ⟨hlt0, cap, hcap, rfl⟩ | ⟨rfl, rfl⟩
    · have key := loop_all3 (b := fun z : AVal × Int × Mm => g55_b0 (meansX F1 ro) ro u (.sl ⟨false, b, i0⟩ (n - i0) cap) z.1 z.2.1 z.2.2) (n - i0)
        (fun i v m => ∃ b' cap' hp, ∃ g : Nat → Nat, v = .sl ⟨false, b', 0⟩ 4 cap' ∧ m = ⟨hp, h.length, h.length⟩ ∧ Vec hp 3 b' 4 (fun j => .i .i64 (g j : Nat)) ∧ (∀ j, j < 4 → g j ≤ 1) ∧ ((∃ j, j < 4 ∧ 0 < g j ∧ (canI u f n (i0 + i)).testBit j = true) ↔ (canI u f n i0).testBit p = true) ∧ h.length ≤ hp.length ∧ ∀ j, j < h.length → hp[j]? = h[j]?)
        (fun i v m hi hI => by
          obtain ⟨b7, cap7, hp, g, rfl, rfl, hv7, hg1, hiff, hlen, hkeep⟩ := hI
          have hlt : decide ((i : Int) < ((n - i0 : Nat) : Int)) = true := by simp; omega
          obtain ⟨cap', hcut⟩ := cut_one (b := b) (off := i0) hcap hi
          obtain ⟨b8, hp8, c8, nv8⟩ := rways_ok (ro := ro) (cap := cap') (cap2 := cap7) hu (hv.keep (hkeep b hv.lt)) hf (by omega : i0 + i + 1 ≤ n) (by omega) (by omega) hv7 hg1
          have c8' := callM_new c8 hlen
          obtain ⟨b9, hp9, c9, nv9⟩ := small_ok (ro := ro) (cap := .known 4) nv8.vec
          have hl8 : h.length ≤ hp8.length := Nat.le_trans hlen nv8.len
          have c9' := callM_new c9 hl8
          refine ⟨_, _, ?_, b9, .grow, hp9, _, rfl, rfl, nv9.vec, fun j _ => Nat.min_le_right _ _, ?_, Nat.le_trans hl8 nv9.len, fun j hj => by rw [nv9.keep j (by omega), nv8.keep j (by omega), hkeep j hj]⟩
          · simp only [g55_b0, e_lenS, bindO_some, asI_i, ltI_eq, forceB_eq, hlt, cond_true, forceI_eq, wr_next (by omega : i ≤ 1000000), hcut, meansX_call, c8', bindP_some, c9']
          · rw [← hiff, canI_step (by omega : i0 + i < n), ← pos_nxt]
            have e : wkC u (fun t => f (i0 + i + t)) g 1 = nxt u (f (i0 + i)) g := rfl
            rw [e]
            constructor
            · rintro ⟨j, hj, h1, h2⟩
              exact ⟨j, hj, by omega, h2⟩
            · rintro ⟨j, hj, h1, h2⟩
              exact ⟨j, hj, by omega, h2⟩)
        (fun v m _ => by
          have : decide (((n - i0 : Nat) : Int) < ((n - i0 : Nat) : Int)) = false := lt_no
          show g55_b0 (meansX F1 ro) ro u _ v ((n - i0 : Nat) : Int) m = _
          simp only [g55_b0, e_lenS, bindO_some, asI_i, ltI_eq, forceB_eq, this, cond_false])
        (n - i0) 0 (.sl ⟨false, b1, 0⟩ 4 (.known 4)) ⟨hp1, h.length, h.length⟩ (by omega) ⟨b1, .known 4, hp1, _, rfl, rfl, nv1.vec, fun j _ => oneF_le p j, hone, nv1.len, nv1.keep⟩
      obtain ⟨v', m', k1, b', cap', hp, g, rfl, rfl, k2, k3, k4, k5, k6⟩ := key
      rw [show i0 + (n - i0) = n by omega] at k4
      exact ⟨_, _, k1, b', cap', hp, g, rfl, rfl, k2, k3, k4, k5, k6⟩
    · refine ⟨_, _, loopX_out ?_, b1, .known 4, hp1, _, rfl, rfl, nv1.vec, fun j _ => oneF_le p j, hone, nv1.len, nv1.keep⟩
      have el : evP .e (.len false (.c AVal.esl)) = some (.i .i64 0) := rfl
      have : decide ((0 : Int) < 0) = false := rfl
      simp only [g55_b0, el, bindO_some, asI_i, ltI_eq, forceB_eq, this, cond_false]
  have cs := callM_pure (call := callX F1 ro) (l := h.length) (p := h.length) (sum_ok (ro := ro) (cap := cap') hvec (fun j hj => Nat.le_trans (hg1 j hj) (by omega))) hlen hlen
  have hd : decide ((0 : Int) < ((sumT g 4 : Nat) : Int)) = (canI u f n i0).testBit p := by
    rw [canI_end] at hiff
    have h1 : 0 < sumT g 4 ↔ (canI u f n i0).testBit p = true := by
      rw [sumT_pos, ← hiff]
      constructor
      · rintro ⟨j, hj, h1⟩; exact ⟨j, hj, h1, t15 j hj⟩
      · rintro ⟨j, hj, h1, _⟩; exact ⟨j, hj, h1⟩
    cases hb : (canI u f n i0).testBit p
    · rw [hb] at h1
      have : ¬ 0 < sumT g 4 := fun hh => by have := h1.1 hh; cases this
      simp; omega
    · rw [hb] at h1
      have := h1.2 rfl
      simp; omega
  simp only [meansX_call, c1', bindP_some, meansX_loop, k1, bindO_some, cs, asI_i, ltI_eq, hd, forceB_eq, tupA]
  rw [fin_take (by rfl), take_keep hlen hkeep]

/- Ways -/
theorem sumT_ways (u : Nat) (s : List UInt8) : sumT (wkN u s (fun _ => 1) s.length) 4 = waysV u s := by
  simp only [sumT, waysV, Nat.zero_add]
theorem rWays_ok {ro : List ABlk} {h : Heap} {n : Int} {s : List UInt8} (hs : s.length ≤ 1000000) : callX F1 ro 23 [.i .i64 n, .s s] h = some (.tup [.i .i64 (wysV n s), .i .i64 (shE n s)], h, h.length, h.length) := by
  refine g23_ok (meansX_ok F1 ro) rfl ?_
  unfold g23
  have c1 := callM_pure (call := callX F1 ro) (l := h.length) (p := h.length) (asked_ok (ro := ro) (h := h) (n := n) (s := s) (most := 400) hs) (Nat.le_refl _) (Nat.le_refl _)
  simp only [meansX_call, c1, bindP_some, bindO_some, asI_i, eqI_eq, forceB_eq, ltI_eq, e_len]
  by_cases h1 : askE n s 400 = 0
  · have b1 : (askE n s 400 == 0) = true := by rw [h1]; rfl
    obtain ⟨p1, p2, p3, p4, p5⟩ := okR_of h1
    obtain ⟨k, rfl⟩ : ∃ k : Nat, n = (k : Int) := ⟨n.toNat, by omega⟩
    by_cases h50 : 50 < s.length
    · have e : shE k s = 2 := by rw [shE, if_pos ⟨h1, h50⟩]
      have e2 : wysV k s = 0 := by rw [wysV, e]; rfl
      have h50' : ((50 : Int) < (s.length : Int)) := by omega
      simp only [b1, Bool.not_true, cond_false, decide_eq_true h50', cond_true, e, e2, tupA]
      exact fin_pure rfl
    · have e : shE k s = 0 := by rw [shE, if_neg (fun hh => h50 hh.2), h1]
      have e2 : wysV k s = (waysV k s : Nat) := by rw [wysV, if_pos e]; rfl
      have h50' : ¬ ((50 : Int) < (s.length : Int)) := by omega
      obtain ⟨b0, hp0, q1, nv0⟩ := rplots_ok (ro := ro) (h := h) p5 p4 (by omega)
      have c2 := callM_new q1 (Nat.le_refl _)
      have sb : stepM ro ⟨hp0, h.length, h.length⟩ (.bsl 3 1 [(AVal.i IntKind.i64 0)] 4 [((0, 1), .c (.i .i64 1)), ((1, 1), .c (.i .i64 1)), ((2, 1), .c (.i .i64 1)), ((3, 1), .c (.i .i64 1))]) = some (.sl ⟨false, hp0.length, 0⟩ 4 (.known 4), ⟨hp0 ++ [some (blkOf 3 [.i .i64 1, .i .i64 1, .i .i64 1, .i .i64 1])], h.length, h.length⟩) := by
        simp [stepM, stepK, st_bsl, rep, fillA, opd, AVal.cells, splice, newB, St.mm]
      have vb : Vec (hp0 ++ [some (blkOf 3 [.i .i64 1, .i .i64 1, .i .i64 1, .i .i64 1])]) 3 hp0.length 4 (fun j => .i .i64 (((fun _ => 1 : Nat → Nat) j : Nat) : Int)) :=
        ⟨_, lget_last _ _, rfl, Nat.le_refl 4, fun r hr => by
          rw [get_blk]
          rcases (by omega : r = 0 ∨ r = 1 ∨ r = 2 ∨ r = 3) with rfl | rfl | rfl | rfl <;> rfl⟩
      have hl2 : (hp0 ++ [some (blkOf 3 [AVal.i .i64 1, .i .i64 1, .i .i64 1, .i .i64 1])]).length = hp0.length + 1 := by simp
      have hk2 : ∀ j, j < hp0.length → (hp0 ++ [some (blkOf 3 [AVal.i .i64 1, .i .i64 1, .i .i64 1, .i .i64 1])])[j]? = hp0[j]? := fun j hj => List.getElem?_append_left hj
      generalize hp0 ++ [some (blkOf 3 [AVal.i .i64 1, .i .i64 1, .i .i64 1, .i .i64 1])] = H2 at sb vb hl2 hk2
      have hL0 := nv0.len
      obtain ⟨b8, hp8, c8, nv8⟩ := rways_ok (ro := ro) (off := 0) (cap := .grow) (cap2 := .known 4) (by omega : k < 256) (nv0.vec.keep (hk2 b0 nv0.vec.lt)) (fun i hi => (bw_lt p5 hi).1) (by omega : 0 + s.length ≤ s.length) p4 (by omega) vb (fun _ _ => Nat.le_refl 1)
      have c8' := callM_new c8 (by omega : h.length ≤ H2.length)
      have ef : (fun i => bw s (0 + i)) = bw s := by funext i; rw [Nat.zero_add]
      rw [ef, wkC_N] at nv8
      have hl8 : h.length ≤ hp8.length := by have := nv8.len; omega
      have cs := callM_pure (call := callX F1 ro) (l := h.length) (p := h.length) (sum_ok (ro := ro) (cap := .known 4) nv8.vec (fun j hj => Nat.le_trans (wkN_le (fun _ _ => Nat.le_refl 1) _ j hj) (pow50 (by omega)))) hl8 hl8
      rw [sumT_ways] at cs
      simp only [b1, Bool.not_true, cond_false, decide_eq_false h50', c2, bindP_some, sb, c8', cs, asI_i, e, e2, tupA]
      rw [fin_take (by rfl), take_keep hl8 fun j hj => by rw [nv8.keep j (by omega), hk2 j (by omega), nv0.keep j hj]]
  · have b1 : (askE n s 400 == 0) = false := beq_eq_false_iff_ne.2 h1
    have e : shE n s = askE n s 400 := by rw [shE, if_neg (fun hh => h1 hh.1)]
    have e2 : wysV n s = 0 := by rw [wysV, e, if_neg h1]
    simp only [b1, Bool.not_false, cond_true, e, e2, tupA]
    exact fin_pure rfl

/- Rings -/
theorem rRings_ok {ro : List ABlk} {h : Heap} {n : Int} {s : List UInt8} (hs : s.length ≤ 1000000) : callX F1 ro 25 [.i .i64 n, .s s] h = some (.tup [.i .i64 (rgN n s), .i .i64 (shE n s)], h, h.length, h.length) := by
  refine g25_ok (meansX_ok F1 ro) rfl ?_
  unfold g25
  have c1 := callM_pure (call := callX F1 ro) (l := h.length) (p := h.length) (asked_ok (ro := ro) (h := h) (n := n) (s := s) (most := 400) hs) (Nat.le_refl _) (Nat.le_refl _)
  simp only [meansX_call, c1, bindP_some, bindO_some, asI_i, eqI_eq, forceB_eq, ltI_eq, e_len]
  by_cases h1 : askE n s 400 = 0
  · have b1 : (askE n s 400 == 0) = true := by rw [h1]; rfl
    obtain ⟨p1, p2, p3, p4, p5⟩ := okR_of h1
    obtain ⟨k, rfl⟩ : ∃ k : Nat, n = (k : Int) := ⟨n.toNat, by omega⟩
    by_cases h50 : 50 < s.length
    · have e : shE k s = 2 := by rw [shE, if_pos ⟨h1, h50⟩]
      have e2 : rgN k s = 0 := by rw [rgN, e]; rfl
      have h50' : ((50 : Int) < (s.length : Int)) := by omega
      simp only [b1, Bool.not_true, cond_false, decide_eq_true h50', cond_true, e, e2, tupA]
      exact fin_pure rfl
    · have e : shE k s = 0 := by rw [shE, if_neg (fun hh => h50 hh.2), h1]
      have e2 : rgN k s = (sumR k s 4 : Nat) := by rw [rgN, if_pos e]; rfl
      have h50' : ¬ ((50 : Int) < (s.length : Int)) := by omega
      obtain ⟨r, k1, hq, rfl, q1, q2⟩ := loop_seq (b := fun z : Int × Int × Mm => g25_b0 (meansX F1 ro) ro k s z.1 z.2.1 z.2.2) 4
        (fun p z => ∃ hp, z = (((sumR k s p : Nat) : Int), (p : Int), ⟨hp, h.length, h.length⟩) ∧ h.length ≤ hp.length ∧ ∀ j, j < h.length → hp[j]? = h[j]?)
        (fun r => ∃ hp, r = (((sumR k s 4 : Nat) : Int), ⟨hp, h.length, h.length⟩) ∧ h.length ≤ hp.length ∧ ∀ j, j < h.length → hp[j]? = h[j]?)
        (fun p z hp4 hI => by
          obtain ⟨hp, rfl, hlen, hkeep⟩ := hI
          have hlt : decide ((p : Int) < 4) = true := by simp; omega
          obtain ⟨b0, hp0, t1, nv0⟩ := rplots_ok (ro := ro) (h := hp) p5 p4 (by omega)
          have c2 := callM_new t1 hlen
          have hl0 : h.length ≤ hp0.length := Nat.le_trans hlen nv0.len
          obtain ⟨b2, hp2, t2, nv2⟩ := one_ok (ro := ro) (h := hp0) hp4
          have c3 := callM_new t2 hl0
          have hl2 : h.length ≤ hp2.length := Nat.le_trans hl0 nv2.len
          obtain ⟨b8, hp8, t8, nv8⟩ := rways_ok (ro := ro) (off := 0) (cap := .grow) (cap2 := .known 4) (by omega : k < 256) (nv0.vec.keep (nv2.keep b0 nv0.vec.lt)) (fun i hi => (bw_lt p5 hi).1) (by omega : 0 + s.length ≤ s.length) p4 (by omega) nv2.vec (fun j _ => oneF_le p j)
          have c8 := callM_new t8 hl2
          have ef : (fun i => bw s (0 + i)) = bw s := by funext i; rw [Nat.zero_add]
          rw [ef, wkC_N] at nv8
          have hl8 : h.length ≤ hp8.length := Nat.le_trans hl2 nv8.len
          have ld := Vec.ld (ro := ro) (l := h.length) (p := h.length) nv8.vec hp4
          have hs4 := sumR_le (u := k) (by omega : s.length ≤ 50) p (by omega)
          have hs5 := sumR_le (u := k) (by omega : s.length ≤ 50) (p + 1) (by omega)
          have ew : wr .i64 (((sumR k s p : Nat) : Int) + ((wkN k s (oneF p) s.length p : Nat) : Int)) = ((sumR k s (p + 1) : Nat) : Int) := by
            have e : sumR k s (p + 1) = sumR k s p + wkN k s (oneF p) s.length p := rfl
            have h6 : (p + 1) * 1125899906842624 ≤ 4 * 1125899906842624 := Nat.mul_le_mul_right _ (by omega)
            rw [wr_id' (by omega) (by omega)]; omega
          have n0 := nv0.len
          have n2 := nv2.len
          refine ⟨_, ?_, hp8, rfl, hl8, fun j hj => by rw [nv8.keep j (by omega), nv2.keep j (by omega), nv0.keep j (by omega), hkeep j hj]⟩
          simp only [g25_b0, ltI_eq, forceB_eq, hlt, cond_true, meansX_call, c2, bindP_some, c3, c8, ixS_eq hp4, bindO_some, ld, asI_i, forceI_eq, ew, wr_next (by omega : p ≤ 1000000)])
        (fun z hI => by
          obtain ⟨hp, rfl, hlen, hkeep⟩ := hI
          refine ⟨_, ?_, hp, rfl, hlen, hkeep⟩
          have : decide ((4 : Int) < 4) = false := rfl
          show g25_b0 (meansX F1 ro) ro k s _ 4 _ = _
          simp only [g25_b0, ltI_eq, forceB_eq, this, cond_false])
        4 0 (0, 0, ⟨h, h.length, h.length⟩) rfl ⟨h, rfl, Nat.le_refl _, fun _ _ => rfl⟩
      simp only [b1, Bool.not_true, cond_false, decide_eq_false h50', meansX_loop, k1, bindO_some, e, e2, tupA]
      rw [fin_take (by rfl), take_keep q1 q2]
  · have b1 : (askE n s 400 == 0) = false := beq_eq_false_iff_ne.2 h1
    have e : shE n s = askE n s 400 := by rw [shE, if_neg (fun hh => h1 hh.1)]
    have e2 : rgN n s = 0 := by rw [rgN, e, if_neg h1]
    simp only [b1, Bool.not_false, cond_true, e, e2, tupA]
    exact fin_pure rfl
end Go.Proofs.Ytgbkicelkpagpaa.W

/- The reference's Back. -/
open Go.Vm
set_option linter.unusedVariables false
namespace Go.Proofs.Ytgbkicelkpagpaa.W
open Go

/-- the first pair of a set, 4 if it is empty -/
def fbt (x : Nat) : Nat := cond (x.testBit 0) 0 (cond (x.testBit 1) 1 (cond (x.testBit 2) 2 (cond (x.testBit 3) 3 4)))
theorem fbt_num : ∀ x, x < 16 → (x = 0 → fbt x = 4) ∧ (x ≠ 0 → fbt x = tzb x) := by decide +kernel
theorem div4 : ∀ a, a < 4 → wr .i64 (Int.tdiv (Int.ofNat a) 2) = Int.ofNat (a / 2) ∧ Int.tmod (Int.ofNat a) 2 = Int.ofNat (a % 2) ∧ wr .i64 (Int.ofNat (a % 2) * 2) = Int.ofNat (a % 2 * 2) := by decide +kernel
theorem rBack_ok {ro : List ABlk} {h : Heap} {n : Int} {s : List UInt8} (hs : s.length ≤ 1000000) : callX F1 ro 21 [.i .i64 n, .s s] h = some (.tup [.s (bkS n s), .i .i64 (bkE n s)], h, h.length, h.length) := by
  refine g21_ok (meansX_ok F1 ro) rfl ?_
  unfold g21
  have z2 : ((0 : Int) == 0) = true := rfl
  by_cases hn : n < 0 ∨ 255 < n
  · have c1 := callM_pure (call := callX F1 ro) (l := h.length) (p := h.length) (Rule_not (ro := ro) (h := h) hn) (Nat.le_refl _) (Nat.le_refl _)
    have hb : bkE n s = 2 := if_pos hn
    have hS : bkS n s = [] := by rw [bkS, hb]; rfl
    simp only [meansX_call, c1, bindP_some, asB_b, Bool.not_false, forceB_eq, cond_true, hb, hS, tupA]
    exact fin_pure rfl
  · obtain ⟨u, rfl⟩ : ∃ u : Nat, n = (u : Int) := ⟨n.toNat, by omega⟩
    have hu : u < 256 := by omega
    have c1 := callM_pure (call := callX F1 ro) (l := h.length) (p := h.length) (Rule_ok (ro := ro) (h := h) hu) (Nat.le_refl _) (Nat.le_refl _)
    have c2 := callM_pure (call := callX F1 ro) (l := h.length) (p := h.length) (Row_ok (ro := ro) (h := h) (s := s) (most := 398) hs) (Nat.le_refl _) (Nat.le_refl _)
    simp only [meansX_call, c1, bindP_some, asB_b, Bool.not_true, forceB_eq, cond_false, c2, asI_i, eqI_eq]
    by_cases h1 : rowE s 398 = 0
    · have b1 : (rowE s 398 == 0) = true := by rw [h1]; rfl
      have h398 : (s.length : Int) ≤ 398 := by
        unfold rowE at h1
        by_cases e : (398 : Int) < s.length
        · rw [if_pos e] at h1; cases h1
        · omega
      have hask : askE u s 400 = 0 := by rw [askE, if_neg hn, rowE_398 h398, h1]
      obtain ⟨p1, p2, p3, p4, p5⟩ := okR_of hask
      obtain ⟨b0, hp0, q1, nv0⟩ := rplots_ok (ro := ro) (h := h) p5 p4 (by omega)
      have cpl := callM_new q1 (Nat.le_refl _)
      have hf : ∀ i, i < s.length → bw s i < 2 := fun i hi => (bw_lt p5 hi).1
      have can : ∀ (hp : Heap) (i0 p : Nat) (v : AVal), h.length ≤ hp.length → (hp[b0]? = hp0[b0]?) → IsRest b0 s.length i0 v → p < 4 → callM (callX F1 ro) ⟨hp, h.length, h.length⟩ 55 [.i .i64 u, v, .i .i64 p] = some (.b ((canI u (bw s) s.length i0).testBit p), ⟨hp, h.length, h.length⟩) := fun hp i0 p v hlen hk hr hp4 =>
        callM_pure (call := callX F1 ro) (l := h.length) (p := h.length) (can_ok (ro := ro) hu (nv0.vec.keep hk) hf (by omega) hr hp4) hlen hlen
      have hS16 := canI_lt (u := u) (f := bw s) (n := s.length) (i := 0)
      -- the first pair
      have first : loopX (fun z : Int × Mm => g21_b0 (meansX F1 ro) ro u (.sl ⟨false, b0, 0⟩ s.length .grow) z.1 z.2) (0, ⟨hp0, h.length, h.length⟩) = some (((fbt (canI u (bw s) s.length 0) : Nat) : Int), ⟨hp0, h.length, h.length⟩) := by
        have step : ∀ p, p < 4 → g21_b0 (meansX F1 ro) ro u (.sl ⟨false, b0, 0⟩ s.length .grow) ((p : Nat) : Int) ⟨hp0, h.length, h.length⟩ = some (cond ((canI u (bw s) s.length 0).testBit p) (.inr (((p : Nat) : Int), ⟨hp0, h.length, h.length⟩)) (.inl (((p + 1 : Nat) : Int), ⟨hp0, h.length, h.length⟩))) := fun p hp4 => by
          have hlt : decide ((p : Int) < 4) = true := by simp; omega
          have cc := can hp0 0 p _ nv0.len rfl (rest_all p4) hp4
          cases hb : (canI u (bw s) s.length 0).testBit p with
          | false =>
            rw [hb] at cc
            simp only [g21_b0, ltI_eq, forceB_eq, hlt, cond_true, meansX_call, cc, bindP_some, asB_b, Bool.not_false, bindO_some, forceI_eq, wr_next (by omega : p ≤ 1000000), cond_false]
          | true =>
            rw [hb] at cc
            simp only [g21_b0, ltI_eq, forceB_eq, hlt, cond_true, meansX_call, cc, bindP_some, asB_b, Bool.not_true, bindO_some, cond_false]
        have s0 := step 0 (by omega)
        have s1 := step 1 (by omega)
        have s2 := step 2 (by omega)
        have s3 := step 3 (by omega)
        have s4 : g21_b0 (meansX F1 ro) ro u (.sl ⟨false, b0, 0⟩ s.length .grow) ((4 : Nat) : Int) ⟨hp0, h.length, h.length⟩ = some (.inr (((4 : Nat) : Int), ⟨hp0, h.length, h.length⟩)) := by
          have : decide (((4 : Nat) : Int) < 4) = false := rfl
          simp only [g21_b0, ltI_eq, forceB_eq, this, cond_false, bindO_some]
        unfold fbt
        cases t0 : (canI u (bw s) s.length 0).testBit 0 with
        | true => rw [t0] at s0; exact loopX_out s0
        | false =>
          rw [t0] at s0
          refine loopX_on (s' := (((1 : Nat) : Int), (⟨hp0, h.length, h.length⟩ : Mm))) s0 ?_
          cases t1 : (canI u (bw s) s.length 0).testBit 1 with
          | true => rw [t1] at s1; exact loopX_out s1
          | false =>
            rw [t1] at s1
            refine loopX_on (s' := (((2 : Nat) : Int), (⟨hp0, h.length, h.length⟩ : Mm))) s1 ?_
            cases t2 : (canI u (bw s) s.length 0).testBit 2 with
            | true => rw [t2] at s2; exact loopX_out s2
            | false =>
              rw [t2] at s2
              refine loopX_on (s' := (((3 : Nat) : Int), (⟨hp0, h.length, h.length⟩ : Mm))) s2 ?_
              cases t3 : (canI u (bw s) s.length 0).testBit 3 with
              | true => rw [t3] at s3; exact loopX_out s3
              | false =>
                rw [t3] at s3
                exact loopX_on (s' := (((4 : Nat) : Int), (⟨hp0, h.length, h.length⟩ : Mm))) s3 (loopX_out s4)
      obtain ⟨f1, f2⟩ := fbt_num _ hS16
      by_cases hz : canI u (bw s) s.length 0 = 0
      · have hb : bkE u s = 10 := by rw [bkE, if_neg hn, if_pos h1, Int.toNat_natCast, if_pos hz]
        have hS : bkS u s = [] := by rw [bkS, hb]; rfl
        rw [f1 hz] at first
        have e4 : (((4 : Nat) : Int) == 4) = true := rfl
        simp only [b1, Bool.not_true, cond_false, cpl, bindP_some, meansX_loop, first, bindO_some, e4, cond_true, hb, hS, tupA]
        rw [fin_take (by rfl), take_keep nv0.len nv0.keep]
      · have hb : bkE u s = 0 := by rw [bkE, if_neg hn, if_pos h1, Int.toNat_natCast, if_neg hz]
        have hS : bkS u s = backL u (bw s) s.length := by rw [bkS, if_pos hb]; rfl
        rw [f2 hz] at first
        have a4 := bkA_lt (u := u) (f := bw s) (n := s.length) 0
        have first' : loopX (fun z : Int × Mm => g21_b0 (meansX F1 ro) ro u (.sl ⟨false, b0, 0⟩ s.length .grow) z.1 z.2) (0, ⟨hp0, h.length, h.length⟩) = some (((bkA u (bw s) s.length 0 : Nat) : Int), ⟨hp0, h.length, h.length⟩) := first
        have e4 : (((bkA u (bw s) s.length 0 : Nat) : Int) == 4) = false := by rw [beq_eq_false_iff_ne]; omega
        obtain ⟨d1, d2, d3⟩ := div4 _ a4
        have d1' : wr .i64 (Int.tdiv ((bkA u (bw s) s.length 0 : Nat) : Int) 2) = ((bkG u (bw s) s.length 0 : Nat) : Int) := d1
        have d2' : Int.tmod ((bkA u (bw s) s.length 0 : Nat) : Int) 2 = ((bkG u (bw s) s.length 1 : Nat) : Int) := d2
        have sb : stepM ro ⟨hp0, h.length, h.length⟩ (.bsl 3 1 [(AVal.i IntKind.i64 0)] 2 [((0, 1), .c (.i .i64 ((bkG u (bw s) s.length 0 : Nat) : Int))), ((1, 1), .c (.i .i64 ((bkG u (bw s) s.length 1 : Nat) : Int)))]) = some (.sl ⟨false, hp0.length, 0⟩ 2 (.known 2), ⟨hp0 ++ [some (blkOf 3 [.i .i64 ((bkG u (bw s) s.length 0 : Nat) : Int), .i .i64 ((bkG u (bw s) s.length 1 : Nat) : Int)])], h.length, h.length⟩) := by
          simp [stepM, stepK, st_bsl, rep, fillA, opd, AVal.cells, splice, newB, St.mm]
        have vb : Vec (hp0 ++ [some (blkOf 3 [.i .i64 ((bkG u (bw s) s.length 0 : Nat) : Int), .i .i64 ((bkG u (bw s) s.length 1 : Nat) : Int)])]) 3 hp0.length 2 (fun j => .i .i64 ((bkG u (bw s) s.length j : Nat) : Int)) :=
          ⟨_, lget_last _ _, rfl, Nat.le_refl 2, fun r hr => by
            rw [get_blk]
            rcases (by omega : r = 0 ∨ r = 1) with rfl | rfl <;> rfl⟩
        have hl2 : (hp0 ++ [some (blkOf 3 [AVal.i .i64 ((bkG u (bw s) s.length 0 : Nat) : Int), .i .i64 ((bkG u (bw s) s.length 1 : Nat) : Int)])]).length = hp0.length + 1 := by simp
        have hk2 : ∀ j, j < hp0.length → (hp0 ++ [some (blkOf 3 [AVal.i .i64 ((bkG u (bw s) s.length 0 : Nat) : Int), .i .i64 ((bkG u (bw s) s.length 1 : Nat) : Int)])])[j]? = hp0[j]? := fun j hj => List.getElem?_append_left hj
        generalize hp0 ++ [some (blkOf 3 [AVal.i .i64 ((bkG u (bw s) s.length 0 : Nat) : Int), .i .i64 ((bkG u (bw s) s.length 1 : Nat) : Int)])] = H2 at sb vb hl2 hk2
        have hL0 := nv0.len
        obtain ⟨r, q1, b, cap, hp, rfl, q2, q3, q4⟩ := loop_seq (b := fun z : Int × AVal × Int × Mm => g21_b2 (meansX F1 ro) ro u (.sl ⟨false, b0, 0⟩ s.length .grow) z.1 z.2.1 z.2.2.1 z.2.2.2) s.length
          (fun i z => ∃ b cap hp, z = (((bkA u (bw s) s.length i : Nat) : Int), .sl ⟨false, b, 0⟩ (i + 2) cap, (i : Int), ⟨hp, h.length, h.length⟩) ∧ (cap = .grow ∨ cap = .known (i + 2)) ∧ Vec hp 3 b (i + 2) (fun j => .i .i64 ((bkG u (bw s) s.length j : Nat) : Int)) ∧ hp0.length ≤ b ∧ hp0.length ≤ hp.length ∧ ∀ j, j < hp0.length → hp[j]? = hp0[j]?)
          (fun r => ∃ b cap hp, r = (.sl ⟨false, b, 0⟩ (s.length + 2) cap, ⟨hp, h.length, h.length⟩) ∧ Vec hp 3 b (s.length + 2) (fun j => .i .i64 ((bkG u (bw s) s.length j : Nat) : Int)) ∧ hp0.length ≤ hp.length ∧ ∀ j, j < hp0.length → hp[j]? = hp0[j]?)
          (fun i z hi hI => by
            obtain ⟨b, cap, hp, rfl, hcap, hv', hb', hlen, hkeep⟩ := hI
            have hlt : decide ((i : Int) < (s.length : Int)) = true := by simp; omega
            have a4 := bkA_lt (u := u) (f := bw s) (n := s.length) i
            have hA : bkA u (bw s) s.length (i + 1) = (2 * bkA u (bw s) s.length i + bkB u (bw s) s.length (bkA u (bw s) s.length i) i) % 4 := rfl
            have hG := bkG_B (u := u) (f := bw s) (n := s.length) i
            have hBle := bkB_le u (bw s) s.length (bkA u (bw s) s.length i) i
            have hnext := bkA_next hz hi
            have hinn := bkA_ok hz (i + 1) (by omega)
            have hBd : bkB u (bw s) s.length (bkA u (bw s) s.length i) i = cond (Nat.beq (nx u (2 * bkA u (bw s) s.length i)) (bw s i) && (canI u (bw s) s.length (i + 1)).testBit (2 * bkA u (bw s) s.length i % 4)) 0 1 := rfl
            rw [hA] at hinn
            generalize bkA u (bw s) s.length i = a at *
            generalize bkB u (bw s) s.length a i = B at *
            have hm : h.length ≤ hp.length := by omega
            obtain ⟨d1, d2, d3⟩ := div4 a a4
            have d1' : wr .i64 (Int.tdiv ((a : Nat) : Int) 2) = ((a / 2 : Nat) : Int) := d1
            have d2' : Int.tmod ((a : Nat) : Int) 2 = ((a % 2 : Nat) : Int) := d2
            have d3' : wr .i64 (((a % 2 : Nat) : Int) * 2) = ((a % 2 * 2 : Nat) : Int) := d3
            have d4 : ∀ r : Nat, r < 2 → wr .i64 (((a % 2 * 2 : Nat) : Int) + (r : Int)) = (((2 * a + r) % 4 : Nat) : Int) := fun r hr => by rw [wr_id' (by omega) (by omega)]; omega
            have lb := Vec.lda (ro := ro) (nv0.vec.keep (hkeep b0 nv0.vec.lt)) (i := i) hi
            obtain ⟨vr, hcut, hrest⟩ := cut_rest (b := b0) hi
            have cb : ∀ r : Nat, r < 2 → callN (callX F1 ro) hp 49 [.i .i64 u, .i .i64 ((a / 2 : Nat) : Int), .i .i64 ((a % 2 : Nat) : Int), .i .i64 r] = some (.i .i64 (nx u (2 * a + r) : Nat)) := fun r hr => by
              have := callN_pure (call := callX F1 ro) (becomes_ok (ro := ro) (h := hp) hu (by omega : a / 2 < 2) (by omega : a % 2 < 2) hr) rfl rfl
              rwa [show 4 * (a / 2) + 2 * (a % 2) + r = 2 * a + r by omega] at this
            have cc : ∀ r : Nat, callM (callX F1 ro) ⟨hp, h.length, h.length⟩ 55 [.i .i64 u, vr, .i .i64 (((2 * a + r) % 4 : Nat) : Int)] = some (.b ((canI u (bw s) s.length (i + 1)).testBit ((2 * a + r) % 4)), ⟨hp, h.length, h.length⟩) := fun r =>
              can hp (i + 1) _ vr hm (hkeep b0 nv0.vec.lt) hrest (Nat.mod_lt _ (by omega))
            obtain ⟨v2, hp2, hp3, b3, s1, s2, g1, g2, g3, g4⟩ := push_any (ro := ro) (L := h.length) (bytes := 8) (z := AVal.i IntKind.i64 0) (w := .i .i64 ((B : Nat) : Int)) hcap hv' (by omega) (by omega) (by omega) (by omega) hm rfl rfl
            -- the plot that is taken
            have hit : ∀ r, r = B → g21_b3 (meansX F1 ro) ro u (.sl ⟨false, b0, 0⟩ s.length .grow) i a (.sl ⟨false, b, 0⟩ (i + 2) cap) ((r : Nat) : Int) ⟨hp, h.length, h.length⟩ = some (.inr ((((2 * a + B) % 4 : Nat) : Int), .sl ⟨false, b3, 0⟩ (i + 2 + 1) .grow, ⟨hp3, h.length, h.length⟩)) := fun r hrB => by
              subst hrB
              have hr2 : decide ((r : Int) < 2) = true := by simp; omega
              have hcmp := num_eq (nx u (2 * a + r)) (bw s i)
              rw [show Nat.beq (nx u (2 * a + r)) (bw s i) = true from beq_iff.2 hnext] at hcmp
              have hcc := cc r
              rw [hinn] at hcc
              simp only [g21_b3, ltI_eq, forceB_eq, hr2, cond_true, forceI_eq, d1', d2', ixS_eq hi, bindO_some, meansX_call, cb r (by omega), asI_i, lb, eqI_eq, hcmp, wr_next (by omega : i ≤ 1000000), hcut, d3', d4 r (by omega), hcc, bindP_some, asB_b, s1, s2]
            have miss : B = 1 → g21_b3 (meansX F1 ro) ro u (.sl ⟨false, b0, 0⟩ s.length .grow) i a (.sl ⟨false, b, 0⟩ (i + 2) cap) ((0 : Nat) : Int) ⟨hp, h.length, h.length⟩ = some (.inl (((a : Nat) : Int), .sl ⟨false, b, 0⟩ (i + 2) cap, ((0 + 1 : Nat) : Int), ⟨hp, h.length, h.length⟩)) := fun hB1 => by
              have hr2 : decide (((0 : Nat) : Int) < 2) = true := rfl
              have hcmp := num_eq (nx u (2 * a + 0)) (bw s i)
              have hcc := cc 0
              have hno : (Nat.beq (nx u (2 * a)) (bw s i) && (canI u (bw s) s.length (i + 1)).testBit (2 * a % 4)) = false := by
                cases hb : (Nat.beq (nx u (2 * a)) (bw s i) && (canI u (bw s) s.length (i + 1)).testBit (2 * a % 4))
                · rfl
                · rw [hb, hB1] at hBd; cases hBd
              cases hb : Nat.beq (nx u (2 * a)) (bw s i) with
              | false =>
                rw [show Nat.beq (nx u (2 * a + 0)) (bw s i) = false from hb] at hcmp
                simp only [g21_b3, ltI_eq, forceB_eq, hr2, cond_true, forceI_eq, d1', d2', ixS_eq hi, bindO_some, meansX_call, cb 0 (by omega), asI_i, lb, eqI_eq, hcmp, cond_false, wr_next (by omega : 0 ≤ 1000000)]
              | true =>
                rw [hb, Bool.true_and] at hno
                rw [show Nat.beq (nx u (2 * a + 0)) (bw s i) = true from hb] at hcmp
                rw [show (canI u (bw s) s.length (i + 1)).testBit ((2 * a + 0) % 4) = false from hno] at hcc
                simp only [g21_b3, ltI_eq, forceB_eq, hr2, cond_true, forceI_eq, d1', d2', ixS_eq hi, bindO_some, meansX_call, cb 0 (by omega), asI_i, lb, eqI_eq, hcmp, wr_next (by omega : i ≤ 1000000), hcut, d3', d4 0 (by omega), hcc, bindP_some, asB_b, cond_false, wr_next (by omega : 0 ≤ 1000000)]
            have inner : loopX (fun z : Int × AVal × Int × Mm => g21_b3 (meansX F1 ro) ro u (.sl ⟨false, b0, 0⟩ s.length .grow) i z.1 z.2.1 z.2.2.1 z.2.2.2) (((a : Nat) : Int), .sl ⟨false, b, 0⟩ (i + 2) cap, 0, ⟨hp, h.length, h.length⟩) = some ((((2 * a + B) % 4 : Nat) : Int), .sl ⟨false, b3, 0⟩ (i + 2 + 1) .grow, ⟨hp3, h.length, h.length⟩) := by
              rcases (by omega : B = 0 ∨ B = 1) with hB0 | hB1
              · exact loopX_out (hit 0 hB0.symm)
              · exact loopX_on (s' := (((a : Nat) : Int), AVal.sl ⟨false, b, 0⟩ (i + 2) cap, ((1 : Nat) : Int), (⟨hp, h.length, h.length⟩ : Mm))) (miss hB1) (loopX_out (hit 1 hB1.symm))
            refine ⟨(((((2 * a + B) % 4 : Nat)) : Int), .sl ⟨false, b3, 0⟩ (i + 2 + 1) .grow, ((i + 1 : Nat) : Int), ⟨hp3, h.length, h.length⟩), ?_, b3, .grow, hp3, by rw [hA], .inl rfl, g2.congr fun r hr => ?_, by omega, by omega, fun j hj => by rw [g4 j (by omega) (by omega), hkeep j hj]⟩
            · simp only [g21_b2, e_lenS, bindO_some, asI_i, ltI_eq, forceB_eq, hlt, cond_true, meansX_loop, inner, forceI_eq, wr_next (by omega : i ≤ 1000000)]
            · show (if r < i + 2 then _ else _) = _
              by_cases e : r < i + 2
              · rw [if_pos e]
              · rw [if_neg e, show r = i + 2 by omega, hG])
          (fun z hI => by
            obtain ⟨b, cap, hp, rfl, hcap, hv', hb', hlen, hkeep⟩ := hI
            have : decide ((s.length : Int) < (s.length : Int)) = false := lt_no
            refine ⟨(.sl ⟨false, b, 0⟩ (s.length + 2) cap, ⟨hp, h.length, h.length⟩), ?_, b, cap, hp, rfl, hv', hlen, hkeep⟩
            simp only [g21_b2, e_lenS, bindO_some, asI_i, ltI_eq, forceB_eq, this, cond_false])
          s.length 0 (((bkA u (bw s) s.length 0 : Nat) : Int), .sl ⟨false, hp0.length, 0⟩ 2 (.known 2), ((0 : Nat) : Int), ⟨H2, h.length, h.length⟩) (by omega) ⟨_, _, _, rfl, .inr rfl, vb, Nat.le_refl _, by omega, hk2⟩
        have z0 : ((0 : Nat) : Int) = 0 := rfl
        rw [z0] at q1
        have hlq : h.length ≤ hp.length := by omega
        have cw := callM_pure (call := callX F1 ro) (l := h.length) (p := h.length) (rrow_ok (ro := ro) (cap := cap) q2 (by omega)) hlq hlq
        have hrow : rowL (s.length + 2) (bkG u (bw s) s.length) = backL u (bw s) s.length :=
          str_ext (by rw [rowL_len]; simp [backL]) fun j hj => by
            rw [rowL_len] at hj
            have hle := bkG_le (u := u) (f := bw s) (n := s.length) j
            have e2 : ch (backL u (bw s) s.length) j = 48 + bkG u (bw s) s.length j := made_ch (g := fun j => 48 + bkG u (bw s) s.length j) hj (by show 48 + bkG u (bw s) s.length j < 256; omega)
            rw [rowL_ch hj, e2]
            rcases (by omega : bkG u (bw s) s.length j = 0 ∨ bkG u (bw s) s.length j = 1) with e | e <;> rw [e] <;> rfl
        rw [hrow] at cw
        simp only [b1, Bool.not_true, cond_false, cpl, bindP_some, meansX_loop, first', bindO_some, e4, forceI_eq, d1', d2', sb, q1, cw, asS_s, hb, hS, tupA]
        rw [fin_take (by rfl), take_keep hlq fun j hj => by rw [q4 j (by omega), nv0.keep j hj]]
    · have b1 : (rowE s 398 == 0) = false := beq_eq_false_iff_ne.2 h1
      have hb : bkE u s = rowE s 398 := by rw [bkE, if_neg hn, if_neg h1]
      have hS : bkS u s = [] := by rw [bkS, hb, if_neg h1]
      simp only [b1, Bool.not_false, cond_true, hb, hS, tupA]
      exact fin_pure rfl
end Go.Proofs.Ytgbkicelkpagpaa.W

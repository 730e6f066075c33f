/- Contracts of the functions: what each of them answers. -/
import Derived.Test.YtgbkicelkpagpaaVmGt
import Derived.Test.YtgbkicelkpagpaaVmAF
import Derived.Test.YtgbkicelkpagpaaVmFO
import Derived.Test.YtgbkicelkpagpaaRows
import Derived.WalkKit
import Derived.ProofKit
import Derived.OpenShut
import Derived.Carry
import Derived.Below
import Derived.Deep.Matrix
import Derived.Test.YtgbkicelkpagpaaVmAG
/- From the statement to the small machine, for numbers as arguments; readings of a rule. -/
open Go.Vm
set_option linter.unusedVariables false
namespace Go.Proofs.Ytgbkicelkpagpaa.W
open Go Go.RowKit Go.Deep Go.WideShapes Go.ChangeShapes

abbrev F1 : Tab := ⟨F, known0 15 (.b true)⟩
theorem own : ownKnob Try.prog.godebug = none := by kernel_rfl
theorem env_ok {W : World} {ro : List ABlk} {rl : Rl} (h : ∀ (i : Nat) (b : ABlk), ro[i]? = some b → ∃ x, rl[i]? = some x ∧ ∀ j, j < b.n → x.block < W.heap.size ∧ ∃ v', W.cell? (x.add j) = some v' ∧ VR rl [] (b.c.get j) v') :
    (Env.mk Try.prog W.heap.size W ro rl).Ok := ⟨fun i b hb => h i b hb, Nat.le_refl _⟩
theorem alive_any {ro : List ABlk} {h : Heap} : callX F1 ro 15 [] h = some (.b true, h, h.length, h.length) := callX_ov (by rfl)

theorem all_16 {P : Nat → Bool} {j : Nat} (h : ((List.range 16).all fun i => P (16 * j + i)) = true) {n : Nat} (h1 : 16 * j ≤ n) (h2 : n < 16 * j + 16) : P n = true := by
  have := List.all_eq_true.1 h (n - 16 * j) (List.mem_range.2 (by omega))
  rwa [show 16 * j + (n - 16 * j) = n by omega] at this

/- a number that is no rule -/
theorem Rule_not {ro : List ABlk} {h : Heap} {n : Int} (hn : n < 0 ∨ 255 < n) : callX F1 ro 54 [.i .i64 n] h = some (.b false, h, h.length, h.length) := by
  refine g54_ok (meansX_ok F1 ro) rfl ?_
  unfold g54
  simp only [forceB_eq, ltI_eq]
  by_cases e : n < 0
  · simp only [decide_eq_true e, Bool.not_true, cond_false, bindO_some, tupA]
    exact fin_pure rfl
  · have e2 : 255 < n := by omega
    simp only [decide_eq_false e, decide_eq_true e2, Bool.not_false, Bool.not_true, cond_true, bindO_some, tupA]
    exact fin_pure rfl
end Go.Proofs.Ytgbkicelkpagpaa.W

/- The rule's small functions. -/
open Go.Vm
set_option linter.unusedVariables false
namespace Go.Proofs.Ytgbkicelkpagpaa.W
open Go

/-- the bit of a rule -/
def nx (u t : Nat) : Nat := (u >>> t) % 2
theorem nx_le (u t : Nat) : nx u t ≤ 1 := by unfold nx; omega
theorem next_num : ∀ u, u < 256 → ∀ t, t < 8 → bitV .and .i64 (wr .i64 (shrV .u8 (Int.ofNat u) (Int.ofNat t))) 1 = Int.ofNat (nx u t) := by decide +kernel
theorem next_ok {ro : List ABlk} {h : Heap} {u t : Nat} (hu : u < 256) (ht : t < 8) : callX F1 ro 72 [.i .u8 u, .i .i64 t] h = some (.i .i64 (nx u t : Nat), h, h.length, h.length) := by
  refine g72_ok (meansX_ok F1 ro) rfl ?_
  unfold g72
  have e := next_num u hu t ht
  have e' : bitV .and .i64 (wr .i64 (shrV .u8 (u : Int) (t : Int))) 1 = ((nx u t : Nat) : Int) := e
  simp only [ltI_eq, nneg, chk_true, forceI_eq, e', tupA]
  exact fin_pure rfl
theorem has_num : ∀ s, s < 256 → ∀ t, t < 8 → eqI (bitV .and .u8 (shrV .u8 (Int.ofNat s) (Int.ofNat t)) 1) 1 = Nat.testBit s t := by decide +kernel
theorem has_ok {ro : List ABlk} {h : Heap} {s t : Nat} (hs : s < 256) (ht : t < 8) : callX F1 ro 76 [.i .u8 s, .i .i64 t] h = some (.b (s.testBit t), h, h.length, h.length) := by
  refine g76_ok (meansX_ok F1 ro) rfl ?_
  unfold g76
  have e := has_num s hs t ht
  have e' : eqI (bitV .and .u8 (shrV .u8 (s : Int) (t : Int)) 1) 1 = s.testBit t := e
  simp only [ltI_eq, nneg, chk_true, forceI_eq, e', forceB_eq, tupA]
  exact fin_pure rfl

theorem sm_num : ∀ t, t < 8 → shrV .i64 (Int.ofNat t) 1 = Int.ofNat (t / 2) ∧ bitV .and .i64 (Int.ofNat t) 3 = Int.ofNat (t % 4) := by decide +kernel
theorem p2_lt {k : Nat} (h : k < 8) : 2 ^ k < 256 := by
  have : 2 ^ k ≤ 2 ^ 7 := Nat.pow_le_pow_right (by omega) (by omega)
  omega
def ahF (u s c i acc : Nat) : Nat := cond (s.testBit (i / 2) && Nat.beq (nx u i) c) (acc ||| 2 ^ (i % 4)) acc
def ahV (u s c : Nat) : Nat := iterF (ahF u s c) 8 0 0
theorem ahead_ok {ro : List ABlk} {h : Heap} {u s c : Nat} (hu : u < 256) (hs : s < 256) : callX F1 ro 78 [.i .u8 u, .i .u8 s, .i .i64 c] h = some (.i .u8 (ahV u s c : Nat), h, h.length, h.length) := by
  refine g78_ok (meansX_ok F1 ro) rfl ?_
  unfold g78
  have hl := loop_acc (b := fun z => g78_b0 (meansX F1 ro) ro u s c z.1 z.2.1 z.2.2) 8 (ahF u s c) ⟨h, h.length, h.length⟩ (fun acc => acc < 256) (fun i acc hi hP => by
    obtain ⟨e1, e2⟩ := sm_num i hi
    have e1' : shrV .i64 (i : Int) 1 = ((i / 2 : Nat) : Int) := e1
    have e2' : bitV .and .i64 (i : Int) 3 = ((i % 4 : Nat) : Int) := e2
    have c1 := callM_pure (call := callX F1 ro) (l := h.length) (p := h.length) (has_ok (ro := ro) (h := h) hs (by omega : i / 2 < 8)) (Nat.le_refl _) (Nat.le_refl _)
    have c2 := callM_pure (call := callX F1 ro) (l := h.length) (p := h.length) (next_ok (ro := ro) (h := h) hu hi) (Nat.le_refl _) (Nat.le_refl _)
    have e3 : (((nx u i : Nat) : Int) == (c : Int)) = Nat.beq (nx u i) c := by
      cases hb : Nat.beq (nx u i) c
      · exact beq_eq_false_iff_ne.2 fun e => by
          have : Nat.beq (nx u i) c = true := beq_iff.2 (by omega)
          rw [this] at hb; cases hb
      · rw [beq_iff.1 hb]; simp
    have hl8 : decide ((i : Int) < 8) = true := by simp; omega
    have hor := bit_or hP (p2_lt (by omega : i % 4 < 8))
    have hlt := or_lt hP (p2_lt (by omega : i % 4 < 8))
    unfold ahF
    cases hb : s.testBit (i / 2) with
    | false =>
      rw [hb] at c1
      refine ⟨?_, by simpa using hP⟩
      simp only [g78_b0, forceB_eq, ltI_eq, hl8, cond_true, e1', forceI_eq, meansX_call, c1, bindP_some, asB_b, cond_false, bindO_some, wr_next (by omega : i ≤ 1000000), Bool.false_and]
    | true =>
      rw [hb] at c1
      cases hn : Nat.beq (nx u i) c with
      | false =>
        rw [hn] at e3
        refine ⟨?_, by simpa using hP⟩
        simp only [g78_b0, forceB_eq, ltI_eq, hl8, cond_true, e1', forceI_eq, meansX_call, c1, c2, bindP_some, asB_b, asI_i, eqI_eq, e3, cond_false, bindO_some, wr_next (by omega : i ≤ 1000000), Bool.true_and]
      | true =>
        rw [hn] at e3
        refine ⟨?_, by simpa using hlt⟩
        simp only [g78_b0, forceB_eq, ltI_eq, hl8, cond_true, e1', e2', forceI_eq, meansX_call, c1, c2, bindP_some, asB_b, asI_i, eqI_eq, e3, nneg, chk_true, shl_any (by omega : i % 4 ≤ 7), hor, bindO_some, wr_next (by omega : i ≤ 1000000), Bool.true_and]) (fun acc => by
    have : decide ((8 : Int) < 8) = false := rfl
    show g78_b0 (meansX F1 ro) ro u s c acc 8 _ = _
    simp only [g78_b0, forceB_eq, ltI_eq, this, cond_false]) 8 0 0 (by omega) (by omega)
  have hl2 := hl.1
  have e0 : ((0 : Nat) : Int) = 0 := rfl
  rw [e0] at hl2
  simp only [meansX_loop, hl2, bindO_some, tupA]
  exact fin_pure rfl
def beF (u s c i acc : Nat) : Nat := cond (s.testBit (i % 4) && Nat.beq (nx u i) c) (acc ||| 2 ^ (i / 2)) acc
def beV (u s c : Nat) : Nat := iterF (beF u s c) 8 0 0
theorem behind_ok {ro : List ABlk} {h : Heap} {u s c : Nat} (hu : u < 256) (hs : s < 256) : callX F1 ro 74 [.i .u8 u, .i .u8 s, .i .i64 c] h = some (.i .u8 (beV u s c : Nat), h, h.length, h.length) := by
  refine g74_ok (meansX_ok F1 ro) rfl ?_
  unfold g74
  have hl := loop_acc (b := fun z => g74_b0 (meansX F1 ro) ro u s c z.1 z.2.1 z.2.2) 8 (beF u s c) ⟨h, h.length, h.length⟩ (fun acc => acc < 256) (fun i acc hi hP => by
    obtain ⟨e1, e2⟩ := sm_num i hi
    have e1' : shrV .i64 (i : Int) 1 = ((i / 2 : Nat) : Int) := e1
    have e2' : bitV .and .i64 (i : Int) 3 = ((i % 4 : Nat) : Int) := e2
    have c1 := callM_pure (call := callX F1 ro) (l := h.length) (p := h.length) (has_ok (ro := ro) (h := h) hs (by omega : i % 4 < 8)) (Nat.le_refl _) (Nat.le_refl _)
    have c2 := callM_pure (call := callX F1 ro) (l := h.length) (p := h.length) (next_ok (ro := ro) (h := h) hu hi) (Nat.le_refl _) (Nat.le_refl _)
    have e3 : (((nx u i : Nat) : Int) == (c : Int)) = Nat.beq (nx u i) c := by
      cases hb : Nat.beq (nx u i) c
      · exact beq_eq_false_iff_ne.2 fun e => by
          have : Nat.beq (nx u i) c = true := beq_iff.2 (by omega)
          rw [this] at hb; cases hb
      · rw [beq_iff.1 hb]; simp
    have hl8 : decide ((i : Int) < 8) = true := by simp; omega
    have hor := bit_or hP (p2_lt (by omega : i / 2 < 8))
    have hlt := or_lt hP (p2_lt (by omega : i / 2 < 8))
    unfold beF
    cases hb : s.testBit (i % 4) with
    | false =>
      rw [hb] at c1
      refine ⟨?_, by simpa using hP⟩
      simp only [g74_b0, forceB_eq, ltI_eq, hl8, cond_true, e2', forceI_eq, meansX_call, c1, bindP_some, asB_b, cond_false, bindO_some, wr_next (by omega : i ≤ 1000000), Bool.false_and]
    | true =>
      rw [hb] at c1
      cases hn : Nat.beq (nx u i) c with
      | false =>
        rw [hn] at e3
        refine ⟨?_, by simpa using hP⟩
        simp only [g74_b0, forceB_eq, ltI_eq, hl8, cond_true, e2', forceI_eq, meansX_call, c1, c2, bindP_some, asB_b, asI_i, eqI_eq, e3, cond_false, bindO_some, wr_next (by omega : i ≤ 1000000), Bool.true_and]
      | true =>
        rw [hn] at e3
        refine ⟨?_, by simpa using hlt⟩
        simp only [g74_b0, forceB_eq, ltI_eq, hl8, cond_true, e1', e2', forceI_eq, meansX_call, c1, c2, bindP_some, asB_b, asI_i, eqI_eq, e3, nneg, chk_true, shl_any (by omega : i / 2 ≤ 7), hor, bindO_some, wr_next (by omega : i ≤ 1000000), Bool.true_and]) (fun acc => by
    have : decide ((8 : Int) < 8) = false := rfl
    show g74_b0 (meansX F1 ro) ro u s c acc 8 _ = _
    simp only [g74_b0, forceB_eq, ltI_eq, this, cond_false]) 8 0 0 (by omega) (by omega)
  have hl2 := hl.1
  have e0 : ((0 : Nat) : Int) = 0 := rfl
  rw [e0] at hl2
  simp only [meansX_loop, hl2, bindO_some, tupA]
  exact fin_pure rfl

/- sixteen bits -/
theorem bv16 {x : Nat} (hx : x < 65536) : (BitVec.ofInt IntKind.u16.bits (x : Int)).toNat = x := by
  show (BitVec.ofInt 16 (x : Int)).toNat = x
  rw [BitVec.ofInt_natCast, BitVec.toNat_ofNat]
  exact Nat.mod_eq_of_lt hx
theorem wrap16 {x : Nat} (hx : x < 65536) : IntKind.u16.wrap (x : Int) = (x : Int) := by
  simp [IntKind.wrap, IntKind.signed, IntKind.bits]
  omega
theorem or16 {a c : Nat} (ha : a < 65536) (hc : c < 65536) : bitV .or .u16 a c = ((a ||| c : Nat) : Int) := by
  have h : a ||| c < 65536 := Nat.or_lt_two_pow (n := 16) ha hc
  have e : (BitVec.ofInt IntKind.u16.bits (a : Int) ||| BitVec.ofInt IntKind.u16.bits (c : Int)).toNat = a ||| c := by rw [BitVec.toNat_or, bv16 ha, bv16 hc]
  unfold bitV
  simp only [Vm.bits, bitsS, e, mkI_eq, wrap16 h, numA]
theorem and16 {a c : Nat} (ha : a < 65536) (hc : c < 65536) : bitV .and .u16 a c = ((a &&& c : Nat) : Int) := by
  have h : a &&& c < 65536 := Nat.lt_of_le_of_lt Nat.and_le_left ha
  have e : (BitVec.ofInt IntKind.u16.bits (a : Int) &&& BitVec.ofInt IntKind.u16.bits (c : Int)).toNat = a &&& c := by rw [BitVec.toNat_and, bv16 ha, bv16 hc]
  unfold bitV
  simp only [Vm.bits, bitsS, e, mkI_eq, wrap16 h, numA]
theorem la_num : ∀ a, a < 8 → ∀ b, b < 8 → bitV .or .i64 (shlV .i64 (shrV .i64 (Int.ofNat a) 1) 2) (shrV .i64 (Int.ofNat b) 1) = Int.ofNat (a / 2 * 4 + b / 2) ∧
    bitV .or .i64 (shlV .i64 (bitV .and .i64 (Int.ofNat a) 3) 2) (bitV .and .i64 (Int.ofNat b) 3) = Int.ofNat (a % 4 * 4 + b % 4) := by decide +kernel
theorem sh_num : ∀ k, k < 16 → shlV .u16 1 (Int.ofNat k) = Int.ofNat (2 ^ k) := by decide +kernel
def laF (u s a b : Nat) (acc : Nat × Nat) : Nat × Nat :=
  cond (Nat.beq (nx u a) (nx u b) && (s.testBit (a / 2 * 4 + b / 2) && s.testBit (a % 4 * 4 + b % 4))) (acc.1 ||| 2 ^ (a / 2 * 4 + b / 2), acc.2 ||| 2 ^ (a % 4 * 4 + b % 4)) acc
def laG (u s a : Nat) (acc : Nat × Nat) : Nat × Nat := iterG (laF u s a) 8 0 acc
def laV (u s : Nat) : Nat := s &&& (iterG (laG u s) 8 0 (0, 0)).1 &&& (iterG (laG u s) 8 0 (0, 0)).2
theorem p16_lt {k : Nat} (h : k < 16) : 2 ^ k < 65536 := by
  have : 2 ^ k ≤ 2 ^ 15 := Nat.pow_le_pow_right (by omega) (by omega)
  omega
theorem and_p {s k : Nat} (hs : s < 65536) (hk : k < 16) : (!eqI (bitV .and .u16 (s : Int) ((2 ^ k : Nat) : Int)) 0) = s.testBit k := by
  rw [and16 hs (p16_lt hk), eqI_eq]
  cases hb : s.testBit k with
  | false =>
    have : s &&& 2 ^ k = 0 := by
      apply Nat.eq_of_testBit_eq
      intro i
      rw [Nat.testBit_and, Nat.testBit_two_pow, Nat.zero_testBit]
      by_cases e : k = i
      · subst e; rw [hb]; rfl
      · rw [decide_eq_false e, Bool.and_false]
    rw [this]; rfl
  | true =>
    have : s &&& 2 ^ k ≠ 0 := fun e => by
      have h2 : (s &&& 2 ^ k).testBit k = true := by rw [Nat.testBit_and, Nat.testBit_two_pow, hb]; simp
      rw [e, Nat.zero_testBit] at h2; cases h2
    have e : (((s &&& 2 ^ k : Nat) : Int) == 0) = false := beq_eq_false_iff_ne.2 (by omega)
    rw [e]; rfl
theorem lasting_ok {ro : List ABlk} {h : Heap} {u s : Nat} (hu : u < 256) (hs : s < 65536) : callX F1 ro 79 [.i .u8 u, .i .u16 s] h = some (.i .u16 (laV u s : Nat), h, h.length, h.length) := by
  refine g79_ok (meansX_ok F1 ro) rfl ?_
  unfold g79
  have e0 : ((0 : Nat) : Int) = 0 := rfl
  have inner : ∀ (a : Nat) (acc : Nat × Nat), a < 8 → acc.1 < 65536 ∧ acc.2 < 65536 → loopX (fun z => g79_b1 (meansX F1 ro) ro u s a z.1 z.2.1 z.2.2.1 z.2.2.2) ((acc.1 : Int), (acc.2 : Int), (0 : Int), (⟨h, h.length, h.length⟩ : Mm)) = some ((((laG u s a acc).1 : Nat) : Int), (((laG u s a acc).2 : Nat) : Int), ⟨h, h.length, h.length⟩) ∧ ((laG u s a acc).1 < 65536 ∧ (laG u s a acc).2 < 65536) := by
    intro a acc ha hP
    have hl := loop_acc2 (b := fun z => g79_b1 (meansX F1 ro) ro u s a z.1 z.2.1 z.2.2.1 z.2.2.2) 8 (laF u s a) ⟨h, h.length, h.length⟩ (fun acc => acc.1 < 65536 ∧ acc.2 < 65536) (fun b acc hb hP => by
      obtain ⟨e1, e2⟩ := la_num a ha b hb
      have e1' : bitV .or .i64 (shlV .i64 (shrV .i64 (a : Int) 1) 2) (shrV .i64 (b : Int) 1) = ((a / 2 * 4 + b / 2 : Nat) : Int) := e1
      have e2' : bitV .or .i64 (shlV .i64 (bitV .and .i64 (a : Int) 3) 2) (bitV .and .i64 (b : Int) 3) = ((a % 4 * 4 + b % 4 : Nat) : Int) := e2
      have k1 : a / 2 * 4 + b / 2 < 16 := by omega
      have k2 : a % 4 * 4 + b % 4 < 16 := by omega
      have s1 : shlV .u16 1 ((a / 2 * 4 + b / 2 : Nat) : Int) = ((2 ^ (a / 2 * 4 + b / 2) : Nat) : Int) := sh_num _ k1
      have s2 : shlV .u16 1 ((a % 4 * 4 + b % 4 : Nat) : Int) = ((2 ^ (a % 4 * 4 + b % 4) : Nat) : Int) := sh_num _ k2
      have c1 := callM_pure (call := callX F1 ro) (l := h.length) (p := h.length) (next_ok (ro := ro) (h := h) hu ha) (Nat.le_refl _) (Nat.le_refl _)
      have c2 := callM_pure (call := callX F1 ro) (l := h.length) (p := h.length) (next_ok (ro := ro) (h := h) hu hb) (Nat.le_refl _) (Nat.le_refl _)
      have e3 : (((nx u a : Nat) : Int) == ((nx u b : Nat) : Int)) = Nat.beq (nx u a) (nx u b) := by
        cases hb : Nat.beq (nx u a) (nx u b)
        · exact beq_eq_false_iff_ne.2 fun e => by
            have : Nat.beq (nx u a) (nx u b) = true := beq_iff.2 (by omega)
            rw [this] at hb; cases hb
        · rw [beq_iff.1 hb]; simp
      have hl8 : decide ((b : Int) < 8) = true := by simp; omega
      have t1 := and_p hs k1
      have t2 := and_p hs k2
      rw [eqI_eq] at t1 t2
      have o1 := or16 hP.1 (p16_lt k1)
      have o2 := or16 hP.2 (p16_lt k2)
      have l1 : acc.1 ||| 2 ^ (a / 2 * 4 + b / 2) < 65536 := Nat.or_lt_two_pow (n := 16) hP.1 (p16_lt k1)
      have l2 : acc.2 ||| 2 ^ (a % 4 * 4 + b % 4) < 65536 := Nat.or_lt_two_pow (n := 16) hP.2 (p16_lt k2)
      unfold laF
      cases hn : Nat.beq (nx u a) (nx u b) with
      | false =>
        rw [hn] at e3
        refine ⟨?_, by simpa using hP⟩
        simp only [g79_b1, forceB_eq, ltI_eq, hl8, cond_true, forceI_eq, e1', e2', nneg, chk_true, s1, s2, meansX_call, c1, c2, bindP_some, asI_i, eqI_eq, e3, cond_false, bindO_some, wr_next (by omega : b ≤ 1000000), Bool.false_and]
      | true =>
        rw [hn] at e3
        cases h1 : s.testBit (a / 2 * 4 + b / 2) with
        | false =>
          rw [h1] at t1
          refine ⟨?_, by simpa using hP⟩
          simp only [g79_b1, forceB_eq, ltI_eq, hl8, cond_true, forceI_eq, e1', e2', nneg, chk_true, s1, s2, meansX_call, c1, c2, bindP_some, asI_i, eqI_eq, e3, t1, cond_false, bindO_some, wr_next (by omega : b ≤ 1000000), Bool.false_and, Bool.true_and]
        | true =>
          rw [h1] at t1
          cases h2 : s.testBit (a % 4 * 4 + b % 4) with
          | false =>
            rw [h2] at t2
            refine ⟨?_, by simpa using hP⟩
            simp only [g79_b1, forceB_eq, ltI_eq, hl8, cond_true, forceI_eq, e1', e2', nneg, chk_true, s1, s2, meansX_call, c1, c2, bindP_some, asI_i, eqI_eq, e3, t1, t2, cond_false, bindO_some, wr_next (by omega : b ≤ 1000000), Bool.false_and, Bool.true_and]
          | true =>
            rw [h2] at t2
            refine ⟨?_, by simpa using And.intro l1 l2⟩
            simp only [g79_b1, forceB_eq, ltI_eq, hl8, cond_true, forceI_eq, e1', e2', nneg, chk_true, s1, s2, meansX_call, c1, c2, bindP_some, asI_i, eqI_eq, e3, t1, t2, o1, o2, bindO_some, wr_next (by omega : b ≤ 1000000), Bool.true_and]) (fun x y => by
      have : decide ((8 : Int) < 8) = false := rfl
      show g79_b1 (meansX F1 ro) ro u s a x y 8 _ = _
      simp only [g79_b1, forceB_eq, ltI_eq, this, cond_false]) 8 0 acc (by omega) hP
    exact hl
  have hl := loop_acc2 (b := fun z => g79_b0 (meansX F1 ro) ro u s z.1 z.2.1 z.2.2.1 z.2.2.2) 8 (laG u s) ⟨h, h.length, h.length⟩ (fun acc => acc.1 < 65536 ∧ acc.2 < 65536) (fun a acc ha hP => by
    obtain ⟨i1, i2⟩ := inner a acc ha hP
    have hl8 : decide ((a : Int) < 8) = true := by simp; omega
    refine ⟨?_, i2⟩
    simp only [g79_b0, forceB_eq, ltI_eq, hl8, cond_true, meansX_loop, i1, bindO_some, forceI_eq, wr_next (by omega : a ≤ 1000000)]) (fun x y => by
    have : decide ((8 : Int) < 8) = false := rfl
    show g79_b0 (meansX F1 ro) ro u s x y 8 _ = _
    simp only [g79_b0, forceB_eq, ltI_eq, this, cond_false]) 8 0 (0, 0) (by omega) ⟨by omega, by omega⟩
  obtain ⟨h1, h2, h3⟩ := hl
  simp only [e0] at h1
  have a1 := and16 hs h2
  have a1l : s &&& (iterG (laG u s) 8 0 (0, 0)).1 < 65536 := Nat.lt_of_le_of_lt Nat.and_le_left hs
  have a2 := and16 a1l h3
  simp only [meansX_loop, h1, bindO_some, forceI_eq, a1, a2, tupA]
  exact fin_pure rfl
end Go.Proofs.Ytgbkicelkpagpaa.W

/- Tables: the orphan of each rule, and whether it is one to one; reckoned. -/
open Go.Vm
set_option linter.unusedVariables false
namespace Go.Proofs.Ytgbkicelkpagpaa.W
open Go

/-- the small functions, known by their numbers -/
def leafO : Caller := fun f a h => match a with
  | [.i .u8 (.ofNat u), .i .u8 (.ofNat s), .i .i64 (.ofNat c)] => cond (Nat.blt u 256 && Nat.blt s 256)
      (cond (Nat.beq f 78) (some (.i .u8 (.ofNat (ahV u s c)), h, h.length, h.length)) (cond (Nat.beq f 74) (some (.i .u8 (.ofNat (beV u s c)), h, h.length, h.length)) none)) none
  | [.i .u8 (.ofNat u), .i .u16 (.ofNat s)] => cond (Nat.beq f 79 && (Nat.blt u 256 && Nat.blt s 65536)) (some (.i .u16 (.ofNat (laV u s)), h, h.length, h.length)) none
  | [] => cond (Nat.beq f 15) (some (.b true, h, h.length, h.length)) none
  | _ => none
theorem leaf_le {ro : List ABlk} {f : Nat} {a : List AVal} {h : Heap} {r : AVal × Heap × Nat × Nat} (e : leafO f a h = some r) : callX F1 ro f a h = some r := by
  unfold leafO at e
  split at e
  · rename_i u s c
    cases hc : (Nat.blt u 256 && Nat.blt s 256) with
    | false => rw [hc] at e; cases e
    | true =>
      rw [hc] at e
      rw [Bool.and_eq_true, Nat.blt_eq, Nat.blt_eq] at hc
      cases h1 : Nat.beq f 78 with
      | true =>
        rw [h1] at e
        cases e
        rw [beq_iff.1 h1]
        exact ahead_ok hc.1 hc.2
      | false =>
        rw [h1] at e
        cases h2 : Nat.beq f 74 with
        | true =>
          rw [h2] at e
          cases e
          rw [beq_iff.1 h2]
          exact behind_ok hc.1 hc.2
        | false => rw [h2] at e; cases e
  · rename_i u s
    cases hc : (Nat.beq f 79 && (Nat.blt u 256 && Nat.blt s 65536)) with
    | false => rw [hc] at e; cases e
    | true =>
      rw [hc] at e
      rw [Bool.and_eq_true, Bool.and_eq_true, Nat.blt_eq, Nat.blt_eq] at hc
      cases e
      rw [beq_iff.1 hc.1]
      exact lasting_ok hc.2.1 hc.2.2
  · cases hc : Nat.beq f 15 with
    | false => rw [hc] at e; cases e
    | true =>
      rw [hc] at e
      cases e
      rw [beq_iff.1 hc]
      exact alive_any
  · cases e
abbrev F2 : Tab := ⟨F, leafO⟩
abbrev Rk2 (n : Nat) : Means := meansS [] leafO n

def orphL : List (List UInt8) := [[49], [49, 48, 49], [49, 49], [49, 48, 49], [49, 49], [49, 48, 48, 48, 49], [49, 49, 49], [49, 48, 48, 49], [49, 49], [49, 48, 49, 49], [49, 48, 49], [49, 48, 49], [49, 49], [49, 49, 48, 48], [49, 49, 49], [], [49, 49], [49, 48, 49], [49, 49, 49], [48, 49, 48], [49, 49, 49], [49, 48, 48, 49], [49, 48, 48, 49, 48, 49, 48, 49], [48, 49, 48, 48, 49], [49, 49], [49, 49, 48, 49, 49], [49, 49, 49, 49], [49, 48, 49, 48], [49, 49, 49], [49, 49, 48, 48], [], [48, 49, 49, 48], [49, 49], [49, 48, 49, 49], [49, 49], [49, 48, 49, 49], [49, 48, 49], [49, 48, 48, 49, 48, 49, 48, 48, 49], [48, 49, 48, 49], [48, 49, 48, 49], [49, 49, 49], [49, 48, 49, 49, 49], [49, 49, 49], [48, 49, 48, 48, 48], [49, 48, 49, 48], [], [48, 49, 48], [48, 49, 48], [49, 49], [49, 49, 48, 49], [49, 49, 49], [], [49, 48, 49, 48], [49, 48, 49, 48], [48, 49, 49, 48, 49], [49, 48, 49], [49, 49, 49], [48, 48, 49, 48, 48, 48], [49, 49, 49, 49], [48, 49, 48, 48], [], [48, 48, 49, 48, 48], [48, 49, 48, 49, 48], [48, 49, 48], [49, 49], [49, 49, 48, 49], [49, 49], [49, 49, 48, 49, 49], [49, 49], [48, 48, 49, 49], [49, 49, 49], [48, 48, 49, 49], [49, 49, 49], [49, 48, 48, 49, 49, 49], [49, 49, 49, 49], [], [49, 49, 49], [48, 48, 48, 49, 49], [49, 49, 49, 49], [48, 48, 49, 49], [49, 48, 49], [49, 48, 49], [49, 49, 49, 49], [48, 49, 48, 49], [49, 49, 49], [], [], [48, 49, 49, 48], [49, 49, 49, 49], [], [], [48, 49, 48, 48, 49, 48, 48, 49, 48], [49, 49, 49, 49], [49, 49, 48, 48], [48, 48, 49, 48, 48], [48, 48, 49, 48, 48], [49, 49, 49], [49, 49, 49, 48, 49], [49, 49, 49], [48, 48, 48, 49, 48, 48], [48, 49, 48, 49], [], [], [48, 48, 49, 48, 48], [49, 48, 48, 49, 48, 49, 48, 49], [], [], [48, 49, 48, 48, 48], [48, 49, 49, 48, 49], [48, 48, 48, 49, 49, 48], [48, 49, 48, 49, 48], [48, 49, 48, 48], [49, 49, 49], [48, 48, 48, 49, 48], [49, 49, 49, 49], [48, 48, 49, 48], [48, 49, 48], [48, 49, 48], [48, 49, 48, 49, 48], [48, 49, 48], [], [48, 48, 48, 49, 48], [48, 48, 49, 48, 48], [48, 48, 49, 48], [48, 49, 48, 49, 48], [48, 48, 49, 48], [48, 49, 48], [48, 49, 48], [49, 48, 49], [49, 48, 49], [49, 49, 48, 49], [49, 48, 49, 48, 49], [49, 48, 49, 49], [49, 49, 48, 49, 49], [49, 49, 49, 48, 49], [], [49, 48, 49], [49, 48, 49, 48, 49], [49, 48, 49], [49, 48, 49], [49, 49, 48, 49], [48, 48, 48, 48], [48, 48, 48, 49, 48], [48, 48, 48], [49, 48, 49, 49], [49, 48, 49, 48, 49], [49, 48, 48, 49, 49, 49], [48, 49, 48, 48, 49], [49, 48, 49, 49, 49], [], [], [48, 49, 48, 49, 48, 49, 49, 48], [49, 49, 48, 49, 49], [], [], [49, 48, 49, 48], [48, 48, 49, 48, 48, 48], [48, 48, 48], [48, 48, 48, 49, 48], [48, 48, 48], [49, 48, 48, 48, 49], [49, 49, 48, 49, 49], [48, 48, 49, 49], [48, 48, 48, 48], [49, 48, 48, 49, 48, 49, 48, 48, 49], [], [], [48, 48, 48, 48], [49, 48, 48, 49], [], [], [48, 48, 48], [49, 48, 49, 48], [48, 48, 48, 48], [48, 49, 48], [48, 48, 48], [49, 49, 48, 48], [48, 48, 48, 48], [48, 48, 48, 49, 49], [48, 48, 48], [], [48, 48, 48, 48], [48, 48, 48, 49, 49, 48], [48, 48, 48], [49, 49, 48, 48], [48, 48, 48], [49, 49, 48, 48], [48, 48], [48, 48, 49, 48, 48], [48, 48], [48, 48, 49, 48], [48, 48], [49, 48, 49], [49, 48, 49, 48, 49], [49, 49, 48, 49, 49], [], [49, 48, 49, 49], [48, 48, 48, 48], [48, 48, 48, 49, 48, 48], [48, 48, 48], [48, 49, 48], [48, 49, 48, 48, 49], [48, 49, 48, 49], [48, 49, 48, 49], [], [48, 48, 48], [48, 48, 49, 48], [48, 48], [49, 48, 49], [49, 48, 49], [], [48, 49, 48, 49], [48, 49, 48, 48, 48], [48, 48, 48], [48, 49, 48, 48, 48], [48, 48, 48], [49, 48, 49, 48], [49, 48, 49, 48], [48, 49, 48, 48, 49, 48, 48, 49, 48], [48, 49, 48], [48, 49, 48, 48], [48, 48], [48, 48, 49, 48], [48, 48], [49, 48, 48, 49], [], [48, 48, 49, 49], [48, 48, 48], [48, 49, 48, 49], [48, 48, 48, 48], [48, 48, 49, 48, 48], [48, 48], [48, 49, 48, 48, 49], [48, 49, 48, 49, 48, 49, 49, 48], [48, 49, 49, 48], [48, 48, 48], [49, 48, 49], [48, 48, 48], [48, 49, 48], [48, 48], [], [48, 48, 48], [48, 48, 49, 49], [48, 48], [48, 49, 48], [48, 48, 48], [48, 49, 48, 48], [48, 48], [48, 49, 49, 48], [48, 48, 48], [48, 48, 49, 48, 48], [48, 48], [48, 49, 48], [48, 48], [48, 49, 48], [48]]
def orphT (r : Nat) : List UInt8 := orphL.getD r []
def oneN : Nat := 1766847064804095338292937922828216753893183071823361306064178494985764864
def oneT (r : Nat) : Bool := oneN.testBit r
def okS (w : List UInt8) (o : Option (AVal × Heap × Nat × Nat)) : Bool := match o with
  | some (.s w', _, _, _) => eqL w w'
  | _ => false
def okBb (w : Bool) (o : Option (AVal × Heap × Nat × Nat)) : Bool := match o with
  | some (.b w', _, _, _) => w == w'
  | _ => false
def chk1 (n : Nat) : Bool := okS (orphT n) ((Rk2 300).call 62 [.i .u8 (Int.ofNat n)] []) && okBb (oneT n) ((Rk2 300).call 64 [.i .u8 (Int.ofNat n)] [])
theorem tab0 : ((List.range 16).all fun i => chk1 (16 * 0 + i)) = true := by decide +kernel
theorem tab1 : ((List.range 16).all fun i => chk1 (16 * 1 + i)) = true := by decide +kernel
theorem tab2 : ((List.range 16).all fun i => chk1 (16 * 2 + i)) = true := by decide +kernel
theorem tab3 : ((List.range 16).all fun i => chk1 (16 * 3 + i)) = true := by decide +kernel
theorem tab4 : ((List.range 16).all fun i => chk1 (16 * 4 + i)) = true := by decide +kernel
theorem tab5 : ((List.range 16).all fun i => chk1 (16 * 5 + i)) = true := by decide +kernel
theorem tab6 : ((List.range 16).all fun i => chk1 (16 * 6 + i)) = true := by decide +kernel
theorem tab7 : ((List.range 16).all fun i => chk1 (16 * 7 + i)) = true := by decide +kernel
theorem tab8 : ((List.range 16).all fun i => chk1 (16 * 8 + i)) = true := by decide +kernel
theorem tab9 : ((List.range 16).all fun i => chk1 (16 * 9 + i)) = true := by decide +kernel
theorem tab10 : ((List.range 16).all fun i => chk1 (16 * 10 + i)) = true := by decide +kernel
theorem tab11 : ((List.range 16).all fun i => chk1 (16 * 11 + i)) = true := by decide +kernel
theorem tab12 : ((List.range 16).all fun i => chk1 (16 * 12 + i)) = true := by decide +kernel
theorem tab13 : ((List.range 16).all fun i => chk1 (16 * 13 + i)) = true := by decide +kernel
theorem tab14 : ((List.range 16).all fun i => chk1 (16 * 14 + i)) = true := by decide +kernel
theorem tab15 : ((List.range 16).all fun i => chk1 (16 * 15 + i)) = true := by decide +kernel
theorem tab_all {n : Nat} (hn : n < 256) : chk1 n = true := by
  by_cases h0 : n < 16
  · exact all_16 (P := chk1) tab0 (by omega) (by omega)
  by_cases h1 : n < 32
  · exact all_16 (P := chk1) tab1 (by omega) (by omega)
  by_cases h2 : n < 48
  · exact all_16 (P := chk1) tab2 (by omega) (by omega)
  by_cases h3 : n < 64
  · exact all_16 (P := chk1) tab3 (by omega) (by omega)
  by_cases h4 : n < 80
  · exact all_16 (P := chk1) tab4 (by omega) (by omega)
  by_cases h5 : n < 96
  · exact all_16 (P := chk1) tab5 (by omega) (by omega)
  by_cases h6 : n < 112
  · exact all_16 (P := chk1) tab6 (by omega) (by omega)
  by_cases h7 : n < 128
  · exact all_16 (P := chk1) tab7 (by omega) (by omega)
  by_cases h8 : n < 144
  · exact all_16 (P := chk1) tab8 (by omega) (by omega)
  by_cases h9 : n < 160
  · exact all_16 (P := chk1) tab9 (by omega) (by omega)
  by_cases h10 : n < 176
  · exact all_16 (P := chk1) tab10 (by omega) (by omega)
  by_cases h11 : n < 192
  · exact all_16 (P := chk1) tab11 (by omega) (by omega)
  by_cases h12 : n < 208
  · exact all_16 (P := chk1) tab12 (by omega) (by omega)
  by_cases h13 : n < 224
  · exact all_16 (P := chk1) tab13 (by omega) (by omega)
  by_cases h14 : n < 240
  · exact all_16 (P := chk1) tab14 (by omega) (by omega)
  by_cases h15 : n < 256
  · exact all_16 (P := chk1) tab15 (by omega) (by omega)
  omega
theorem okS_eq {w : List UInt8} {o : Option (AVal × Heap × Nat × Nat)} (h : okS w o = true) : ∃ h' lw lp, o = some (.s w, h', lw, lp) := by
  unfold okS at h
  split at h
  · rw [eqL_eq] at h
    exact ⟨_, _, _, by rw [eq_of_beq h]⟩
  · cases h
theorem okBb_eq {w : Bool} {o : Option (AVal × Heap × Nat × Nat)} (h : okBb w o = true) : ∃ h' lw lp, o = some (.b w, h', lw, lp) := by
  unfold okBb at h
  split at h
  · exact ⟨_, _, _, by rw [eq_of_beq h]⟩
  · cases h

/-- what is known of each rule -/
def ruleK : Nat → List AVal → Option AVal := fun f a => match a with
  | [.i .u8 (.ofNat n)] => cond (Nat.blt n 256) (cond (Nat.beq f 62) (some (.s (orphT n))) (cond (Nat.beq f 64) (some (.b (oneT n))) none)) none
  | _ => none
theorem ruleK_ok {f : Nat} {a : List AVal} {v : AVal} (e : ruleK f a = some v) : (∀ x ∈ a, x.scalar = true) ∧ v.scalar = true ∧ ∃ h' lw lp, callX F2 [] f a [] = some (v, h', lw, lp) := by
  unfold ruleK at e
  split at e
  · rename_i n
    cases hc : Nat.blt n 256 with
    | false => rw [hc] at e; cases e
    | true =>
      rw [hc] at e
      rw [Nat.blt_eq] at hc
      have ht := tab_all hc
      unfold chk1 at ht
      rw [Bool.and_eq_true] at ht
      cases h1 : Nat.beq f 62 with
      | true =>
        rw [h1] at e
        cases e
        rw [beq_iff.1 h1]
        obtain ⟨h', lw, lp, h2⟩ := okS_eq ht.1
        exact ⟨fun x hx => by simp at hx; subst hx; rfl, rfl, h', lw, lp, (meansS_ok [] leafO 300).call _ _ _ _ h2⟩
      | false =>
        rw [h1] at e
        cases h3 : Nat.beq f 64 with
        | true =>
          rw [h3] at e
          cases e
          rw [beq_iff.1 h3]
          obtain ⟨h', lw, lp, h2⟩ := okBb_eq ht.2
          exact ⟨fun x hx => by simp at hx; subst hx; rfl, rfl, h', lw, lp, (meansS_ok [] leafO 300).call _ _ _ _ h2⟩
        | false => rw [h3] at e; cases e
  · cases e
def allO : Caller := orC (knownS ruleK) leafO
end Go.Proofs.Ytgbkicelkpagpaa.W

/- The reference's orphans, reckoned; Eden and Onto. -/
open Go.Vm
set_option linter.unusedVariables false
namespace Go.Proofs.Ytgbkicelkpagpaa.W
open Go

theorem becomes_num : ∀ n, n < 256 → ∀ t, t < 8 → Int.tmod (shrV .i64 (Int.ofNat n) (Int.ofNat t)) 2 = Int.ofNat (nx n t) := by decide +kernel
theorem becomes_ok {ro : List ABlk} {h : Heap} {n l c r : Nat} (hn : n < 256) (hl : l < 2) (hc : c < 2) (hr : r < 2) :
    callX F1 ro 49 [.i .i64 n, .i .i64 l, .i .i64 c, .i .i64 r] h = some (.i .i64 (nx n (4 * l + 2 * c + r) : Nat), h, h.length, h.length) := by
  refine g49_ok (meansX_ok F1 ro) rfl ?_
  unfold g49
  have e1 : wr .i64 (4 * (l : Int)) = 4 * (l : Int) := wr_id' (by omega) (by omega)
  have e2 : wr .i64 (2 * (c : Int)) = 2 * (c : Int) := wr_id' (by omega) (by omega)
  have e3 : wr .i64 (4 * (l : Int) + 2 * (c : Int)) = 4 * (l : Int) + 2 * (c : Int) := wr_id' (by omega) (by omega)
  have e4 : wr .i64 (4 * (l : Int) + 2 * (c : Int) + (r : Int)) = ((4 * l + 2 * c + r : Nat) : Int) := by rw [wr_id' (by omega) (by omega)]; omega
  have e5 : Int.tmod (shrV .i64 (n : Int) ((4 * l + 2 * c + r : Nat) : Int)) 2 = ((nx n (4 * l + 2 * c + r) : Nat) : Int) := becomes_num n hn _ (by omega)
  simp only [forceI_eq, e1, e2, e3, e4, ltI_eq, nneg, chk_true, e5, tupA]
  exact fin_pure rfl

def leafB : Caller := fun f a h => match a with
  | [.i .i64 (.ofNat n), .i .i64 (.ofNat l), .i .i64 (.ofNat c), .i .i64 (.ofNat r)] =>
    cond (Nat.beq f 49 && (Nat.blt n 256 && (Nat.blt l 2 && (Nat.blt c 2 && Nat.blt r 2)))) (some (.i .i64 (.ofNat (nx n (4 * l + 2 * c + r))), h, h.length, h.length)) none
  | _ => none
theorem leafB_le {ro : List ABlk} {f : Nat} {a : List AVal} {h : Heap} {r : AVal × Heap × Nat × Nat} (e : leafB f a h = some r) : callX F1 ro f a h = some r := by
  unfold leafB at e
  split at e
  · rename_i n l c r
    cases hc : (Nat.beq f 49 && (Nat.blt n 256 && (Nat.blt l 2 && (Nat.blt c 2 && Nat.blt r 2)))) with
    | false => rw [hc] at e; cases e
    | true =>
      rw [hc] at e
      simp only [Bool.and_eq_true, Nat.blt_eq] at hc
      cases e
      rw [beq_iff.1 hc.1]
      exact becomes_ok hc.2.1 hc.2.2.1 hc.2.2.2.1 hc.2.2.2.2
  · cases e
def allB : Caller := orC allO leafB
abbrev F5 : Tab := ⟨F, allB⟩
end Go.Proofs.Ytgbkicelkpagpaa.W

/- Rows of plots: what is read, and the errors. -/
open Go.Vm
set_option linter.unusedVariables false
namespace Go.Proofs.Ytgbkicelkpagpaa.W
open Go

/- strings -/
theorem e_len (w : List UInt8) : evP .e (.len true (.c (.s w))) = some (.i .i64 (w.length : Nat)) := by simp only [evP, ev_len, opd, cond_true, mkI, forceI_eq]
theorem e_eq (a b : List UInt8) : evP .e (.sbin BinOp.eql (.c (.s a)) (.c (.s b))) = some (.b (eqL a b)) := rfl
theorem e_neq (a b : List UInt8) : evP .e (.sbin BinOp.neq (.c (.s a)) (.c (.s b))) = some (.b (!eqL a b)) := rfl
theorem e_x0 (a b : AVal) : evP .e (.ext 0 (.c (.tup [a, b]))) = some a := rfl
theorem e_x1 (a b : AVal) : evP .e (.ext 1 (.c (.tup [a, b]))) = some b := rfl
theorem asS_s {β : Type} (x : List UInt8) (f : List UInt8 → Option β) : asS (.s x) f = f x := rfl
theorem eqL_self (a : List UInt8) : eqL a a = true := by rw [eqL_eq]; exact beq_self_eq_true a
theorem eqL_nil (a : List UInt8) : eqL a [] = a.isEmpty := by rw [eqL_eq]; cases a <;> rfl
theorem num_eq (a b : Nat) : ((a : Int) == (b : Int)) = Nat.beq a b := by
  cases hb : Nat.beq a b
  · exact beq_eq_false_iff_ne.2 fun e => by
      have : Nat.beq a b = true := beq_iff.2 (by omega)
      rw [this] at hb; cases hb
  · rw [beq_iff.1 hb]; simp
theorem u8_num : ∀ n, n < 256 → wr .u8 (Int.ofNat n) = Int.ofNat n := by decide +kernel
theorem Rule_ok {ro : List ABlk} {h : Heap} {n : Nat} (hn : n < 256) : callX F1 ro 54 [.i .i64 n] h = some (.b true, h, h.length, h.length) := by
  refine g54_ok (meansX_ok F1 ro) rfl ?_
  unfold g54
  have a1 : ¬ ((n : Int) < 0) := by omega
  have a2 : ¬ ((255 : Int) < (n : Int)) := by omega
  simp only [forceB_eq, ltI_eq, decide_eq_false a1, decide_eq_false a2, Bool.not_false, cond_true, bindO_some, tupA]
  exact fin_pure rfl

end Go.Proofs.Ytgbkicelkpagpaa.W

/- Walks and Ways. -/
open Go.Vm
set_option linter.unusedVariables false
namespace Go.Proofs.Ytgbkicelkpagpaa.W
open Go

/- four numbers in memory -/
def agg4 (f : Nat → Nat) : AVal := .agg [.i .i64 (f 0 : Nat), .i .i64 (f 1 : Nat), .i .i64 (f 2 : Nat), .i .i64 (f 3 : Nat)]
abbrev V4 (hp : Heap) (b : Nat) (f : Nat → Nat) : Prop := Vec hp 63 b 4 (fun j => .i .i64 (f j : Nat))
theorem V4.ld4 {ro : List ABlk} {hp : Heap} {b : Nat} {f : Nat → Nat} (h : V4 hp b f) {l p : Nat} : ldM ro ⟨hp, l, p⟩ false 4 (.p (some ⟨false, b, 0⟩)) = some (agg4 f) := by
  obtain ⟨blk, h1, h2, h3, h4⟩ := h
  have hb : Nat.ble (0 + 4) blk.n = true := by rw [Nat.ble_eq]; omega
  simp only [ldM, rd, rdB_heap h1, cond_false, hb, cond_true]
  show some (AVal.agg [blk.c.get 0, blk.c.get 1, blk.c.get 2, blk.c.get 3]) = _
  rw [h4 0 (by omega), h4 1 (by omega), h4 2 (by omega), h4 3 (by omega)]
  rfl
/- the letter as a number -/
/- one letter more: how many walks end in each pair -/
def st1 (u c : Nat) (at' to : Nat → Nat) (t : Nat) : Nat → Nat := if nx u t = c then fun j => if j = t % 4 then to j + at' (t / 2) else to j else to
def stp (u c : Nat) (at' : Nat → Nat) : Nat → Nat → Nat
  | 0 => fun _ => 0
  | k + 1 => st1 u c at' (stp u c at' k) k
def nxt (u c : Nat) (at' : Nat → Nat) : Nat → Nat := stp u c at' 8
theorem stp_le {u c X : Nat} {at' : Nat → Nat} (h : ∀ j, j < 4 → at' j ≤ X) : ∀ k, k ≤ 8 → ∀ j, j < 4 → stp u c at' k j ≤ (k + 3 - j) / 4 * X
  | 0, _, j, _ => Nat.zero_le _
  | k + 1, hk, j, hj => by
    have ih := stp_le (u := u) (c := c) h k (by omega) j hj
    have ha := h (k / 2) (by omega)
    have hm : (k + 3 - j) / 4 * X ≤ (k + 1 + 3 - j) / 4 * X := Nat.mul_le_mul_right _ (Nat.div_le_div_right (by omega))
    show st1 u c at' (stp u c at' k) k j ≤ _
    unfold st1
    by_cases e : nx u k = c
    · rw [if_pos e]
      show (if j = k % 4 then _ else _) ≤ _
      by_cases e2 : j = k % 4
      · rw [if_pos e2]
        have : (k + 1 + 3 - j) / 4 = (k + 3 - j) / 4 + 1 := by omega
        rw [this, Nat.add_mul, Nat.one_mul]
        omega
      · rw [if_neg e2]; omega
    · rw [if_neg e]; omega
theorem nxt_le {u c X : Nat} {at' : Nat → Nat} (h : ∀ j, j < 4 → at' j ≤ X) {j : Nat} (hj : j < 4) : nxt u c at' j ≤ 2 * X := by
  have := stp_le (u := u) (c := c) h 8 (Nat.le_refl _) j hj
  have e : (8 + 3 - j) / 4 = 2 := by omega
  rw [e] at this
  exact this
end Go.Proofs.Ytgbkicelkpagpaa.W

/- Walks, Ways: what they answer. -/
open Go.Vm
set_option linter.unusedVariables false
namespace Go.Proofs.Ytgbkicelkpagpaa.W
open Go

theorem pow50 {i : Nat} (h : i ≤ 50) : 2 ^ i ≤ 1125899906842624 := Nat.le_trans (Nat.pow_le_pow_right (by omega) h) (by decide)
/- the errors of a row whose ways are counted -/
end Go.Proofs.Ytgbkicelkpagpaa.W

/- Ways of onto rules, and of the others: tables. -/
open Go.Vm
set_option linter.unusedVariables false
namespace Go.Proofs.Ytgbkicelkpagpaa.W
open Go

abbrev Q4 := Nat × Nat × Nat × Nat
def sel (b : Bool) (a : Nat) : Nat := cond b a 0
def n4 (u c : Nat) : Q4 → Q4
  | (a, b, d, e) => (sel (Nat.beq (nx u 0) c) a + sel (Nat.beq (nx u 4) c) d, sel (Nat.beq (nx u 1) c) a + sel (Nat.beq (nx u 5) c) d, sel (Nat.beq (nx u 2) c) b + sel (Nat.beq (nx u 6) c) e, sel (Nat.beq (nx u 3) c) b + sel (Nat.beq (nx u 7) c) e)
/- onto rules: the counts that come -/
/- the others: a row with more -/
end Go.Proofs.Ytgbkicelkpagpaa.W

/- Rows by numbers. -/
open Go.Vm
set_option linter.unusedVariables false
namespace Go.Proofs.Ytgbkicelkpagpaa.W
open Go

end Go.Proofs.Ytgbkicelkpagpaa.W

/- Eden and Onto of the program. -/
open Go.Vm
set_option linter.unusedVariables false
namespace Go.Proofs.Ytgbkicelkpagpaa.W
open Go

def edS (n : Nat) (k : Int) : List UInt8 := if k < 1 ∨ 20 < k ∨ (orphT n).isEmpty = true ∨ k < ((orphT n).length : Int) then [] else orphT n
def edE (n : Nat) (k : Int) : Int := if k < 1 ∨ 20 < k then 2 else if (orphT n).isEmpty = true ∨ k < ((orphT n).length : Int) then 10 else 0

theorem c61 {n : Nat} (hn : n < 256) : callX F5 [] 61 [.i .i64 n] [] = some (.tup [.i .u8 n, .i .i64 0], [], 0, 0) := by
  refine g61_ok (meansX_ok F5 []) rfl ?_
  unfold g61
  have a1 : ¬ ((n : Int) < 0) := by omega
  have a2 : ¬ ((255 : Int) < (n : Int)) := by omega
  have a3 : wr .u8 (n : Int) = (n : Int) := u8_num n hn
  simp only [forceB_eq, ltI_eq, decide_eq_false a1, decide_eq_false a2, cond_false, bindO_some, forceI_eq, a3, tupA]
  exact fin_pure rfl
theorem c61n {n : Int} (hn : n < 0 ∨ 255 < n) : callX F5 [] 61 [.i .i64 n] [] = some (.tup [.i .u8 0, .i .i64 2], [], 0, 0) := by
  refine g61_ok (meansX_ok F5 []) (by cases n <;> rfl) ?_
  unfold g61
  simp only [forceB_eq, ltI_eq]
  by_cases e : n < 0
  · simp only [decide_eq_true e, cond_true, bindO_some, tupA]
    exact fin_pure rfl
  · have e2 : 255 < n := by omega
    simp only [decide_eq_false e, decide_eq_true e2, cond_false, cond_true, bindO_some, tupA]
    exact fin_pure rfl
theorem c62 {n : Nat} (hn : n < 256) : callX F5 [] 62 [.i .u8 n] [] = some (.s (orphT n), [], 0, 0) := by
  refine callX_ov ?_
  have h : ruleK 62 [.i .u8 (Int.ofNat n)] = some (.s (orphT n)) := by
    have hb : Nat.blt n 256 = true := by rw [Nat.blt_eq]; exact hn
    simp only [ruleK, hb, cond_true]; rfl
  show orC (orC (knownS ruleK) leafO) leafB 62 [.i .u8 (Int.ofNat n)] [] = _
  simp only [orC, knownS, h]; rfl
theorem c15 : callX F5 [] 15 [] [] = some (.b true, [], 0, 0) := callX_ov rfl

section
variable {n : Nat} (hn : n < 256) (k : Int)
include hn
theorem eden_ok : callX F5 [] 26 [.i .i64 n, .i .i64 k] [] = some (.tup [.s (edS n k), .i .i64 (edE n k)], [], 0, 0) := by
  refine g26_ok (meansX_ok F5 []) (by cases k <;> rfl) ?_
  unfold g26
  have d61 := callM_pure (call := callX F5 []) (h := []) (l := 0) (p := 0) (c61 hn) (Nat.le_refl _) (Nat.le_refl _)
  have d62 := callM_pure (call := callX F5 []) (h := []) (l := 0) (p := 0) (c62 hn) (Nat.le_refl _) (Nat.le_refl _)
  have z0 : ((0 : Int) == 0) = true := rfl
  show (bindP (callM (meansX F5 []).call ⟨[], 0, 0⟩ 61 [(.i .i64 n)]) _) = _
  simp only [meansX_call, d61, bindP_some, e_x0, e_x1, bindO_some, asI_i, eqI_eq, z0, forceB_eq, Bool.not_true, cond_false, ltI_eq]
  by_cases h1 : k < 1
  · simp only [decide_eq_true h1, cond_true, bindO_some, tupA, edS, edE, if_pos (Or.inl h1 : k < 1 ∨ _)]
    exact fin_pure rfl
  · by_cases h2 : 20 < k
    · simp only [decide_eq_false h1, decide_eq_true h2, cond_false, cond_true, bindO_some, tupA, edS, edE, if_pos (Or.inr h2 : k < 1 ∨ 20 < k), if_pos (Or.inr (Or.inl h2) : k < 1 ∨ 20 < k ∨ _)]
      exact fin_pure rfl
    · simp only [decide_eq_false h1, decide_eq_false h2, cond_false, bindO_some, d62, bindP_some, asS_s, e_eq, asB_b, eqL_nil]
      have h3 : ¬ (k < 1 ∨ 20 < k) := by omega
      unfold edE
      rw [if_neg h3]
      cases he : (orphT n).isEmpty with
      | true =>
        have hs : edS n k = [] := if_pos (Or.inr (Or.inr (Or.inl he)))
        simp only [cond_true, bindO_some, tupA, hs, true_or, if_true]
        exact fin_pure rfl
      | false =>
        simp only [cond_false, bindO_some, e_len, asI_i, ltI_eq, forceB_eq]
        by_cases h4 : k < ((orphT n).length : Int)
        · have hs : edS n k = [] := if_pos (Or.inr (Or.inr (Or.inr h4)))
          simp only [decide_eq_true h4, cond_true, tupA, hs, h4, or_true, if_true]
          exact fin_pure rfl
        · have hs : edS n k = orphT n := if_neg (by rw [he]; simp only [Bool.false_eq_true, false_or]; omega)
          simp only [decide_eq_false h4, cond_false, tupA, hs, h4, Bool.false_eq_true, or_false, if_false]
          exact fin_pure rfl
theorem onto_ok : callX F5 [] 28 [.i .i64 n] [] = some (.tup [.b (orphT n).isEmpty, .i .i64 0], [], 0, 0) := by
  refine g28_ok (meansX_ok F5 []) rfl ?_
  unfold g28
  have d61 := callM_pure (call := callX F5 []) (h := []) (l := 0) (p := 0) (c61 hn) (Nat.le_refl _) (Nat.le_refl _)
  have d62 := callM_pure (call := callX F5 []) (h := []) (l := 0) (p := 0) (c62 hn) (Nat.le_refl _) (Nat.le_refl _)
  have z0 : ((0 : Int) == 0) = true := rfl
  show (bindP (callM (meansX F5 []).call ⟨[], 0, 0⟩ 61 [(.i .i64 n)]) _) = _
  simp only [meansX_call, d61, d62, bindP_some, e_x0, e_x1, bindO_some, asI_i, asS_s, asB_b, eqI_eq, z0, forceB_eq, Bool.not_true, cond_false, e_eq, eqL_nil, tupA]
  exact fin_pure rfl
end
end Go.Proofs.Ytgbkicelkpagpaa.W

/- Strings that are made byte by byte; grow, ring, Ring. -/
open Go.Vm
set_option linter.unusedVariables false
namespace Go.Proofs.Ytgbkicelkpagpaa.W
open Go

/- a ring as a row with its ends put to it -/
end Go.Proofs.Ytgbkicelkpagpaa.W

/- Rows reversed, and with 0 and 1 exchanged. -/
open Go.Vm
set_option linter.unusedVariables false
namespace Go.Proofs.Ytgbkicelkpagpaa.W
open Go

/- strings letter by letter -/
end Go.Proofs.Ytgbkicelkpagpaa.W

/- Rows as lists of numbers: Grow, and the reference's Grow and Ring. -/
open Go.Vm
set_option linter.unusedVariables false
namespace Go.Proofs.Ytgbkicelkpagpaa.W
open Go

/-- numbers as a vector in memory, behind what was there -/
structure NV (h hp : Heap) (b n : Nat) (f : Nat → Nat) : Prop where
  vec : Vec hp 3 b n (fun i => .i .i64 (f i : Nat))
  new : h.length ≤ b
  len : h.length ≤ hp.length
  keep : ∀ j, j < h.length → hp[j]? = h[j]?

theorem callM_new {call : Caller} {hp hp' : Heap} {L f : Nat} {vs : List AVal} {v : AVal} (e : call f vs hp = some (v, hp', hp.length, hp.length)) (hL : L ≤ hp.length) : callM call ⟨hp, L, L⟩ f vs = some (v, ⟨hp', L, L⟩) := by
  rw [callM_eq (m := ⟨hp, L, L⟩) e]; simp [Nat.min_eq_left hL]
theorem fin_new {hp : Heap} {L l p b k : Nat} {cap : Cap} (hb : L ≤ b) : finM L (.sl ⟨false, b, 0⟩ k cap) ⟨hp, l, p⟩ = some (.sl ⟨false, b, 0⟩ k cap, hp, l, p) := by
  simp [finM, gc, not_bel hb]
theorem e_lenS {q : Vm.Loc} {k : Nat} {cap : Cap} : evP .e (.len false (.c (.sl q k cap))) = some (.i .i64 (k : Nat)) := by simp only [evP, ev_len, opd, cond_false, mkI, forceI_eq]
/-- numbers put one behind the other -/
theorem push_loop {ro : List ABlk} {h : Heap} {L : Nat} (hL : L ≤ h.length) {b : AVal × Int × Mm → Option ((AVal × Int × Mm) ⊕ (AVal × Mm))} (a n : Nat) (hn : n ≤ 999) (h0 : 0 < n) (w : Nat → Nat)
    (hin : ∀ k, k < n → ∀ (v : AVal) (hp : Heap), h.length ≤ hp.length → (∀ j, j < h.length → hp[j]? = h[j]?) → ∀ v2 hp2 v3 hp3,
      stepM ro ⟨hp, L, L⟩ (.bsl 3 1 [.i .i64 0] 1 [((0, 1), .c (.i .i64 (w k : Nat)))]) = some (v2, ⟨hp2, L, L⟩) → stepM ro ⟨hp2, L, L⟩ (.app 3 1 8 [.i .i64 0] (.c v) (.c v2)) = some (v3, ⟨hp3, L, L⟩) →
      b (v, ((a + k : Nat) : Int), ⟨hp, L, L⟩) = some (.inl (v3, ((a + k + 1 : Nat) : Int), ⟨hp3, L, L⟩)))
    (hout : ∀ v m, b (v, ((a + n : Nat) : Int), m) = some (.inr (v, m))) :
    ∃ b' hp, loopX b (.nsl, (a : Int), ⟨h, L, L⟩) = some (.sl ⟨false, b', 0⟩ n .grow, ⟨hp, L, L⟩) ∧ NV h hp b' n w := by
  have key := loop_all3 (b := b) (a + n)
    (fun i v m => a ≤ i ∧ ∃ hp, m = ⟨hp, L, L⟩ ∧ VecV hp h.length 3 v (i - a) (fun j => .i .i64 (w j : Nat)) ∧ h.length ≤ hp.length ∧ ∀ j, j < h.length → hp[j]? = h[j]?)
    (fun i v m hi hI => by
      obtain ⟨hai, hp, rfl, hv, hlen, hkeep⟩ := hI
      obtain ⟨k, rfl⟩ : ∃ k, i = a + k := ⟨i - a, by omega⟩
      rw [Nat.add_sub_cancel_left] at hv
      obtain ⟨v2, hp2, v3, hp3, b3, s1, s2, e3, hb3, hvec, hl3, hk3⟩ := push_ok (ro := ro) (bytes := 8) (z := .i .i64 0) (w := .i .i64 (w k : Nat)) (hv.low hL) (by omega) (by omega) (by omega) rfl rfl
      refine ⟨v3, ⟨hp3, L, L⟩, hin k (by omega) v hp hlen hkeep v2 hp2 v3 hp3 s1 s2, by omega, hp3, rfl, .inr ⟨b3, ?_, ?_, by omega, ?_⟩, by omega, fun j hj => ?_⟩
      · rw [e3, show a + k + 1 - a = k + 1 by omega]
      · omega
      · rw [show a + k + 1 - a = k + 1 by omega]
        refine hvec.congr fun r hr => ?_
        show (if r < k then _ else _) = _
        by_cases e : r < k
        · rw [if_pos e]
        · rw [if_neg e, show r = k by omega]
      · rw [hk3 j (by omega) fun len cap e => ?_, hkeep j hj]
        rcases hv with ⟨hv, _⟩ | ⟨b0, hv, _, hb0, _⟩
        · rw [hv] at e; cases e
        · rw [hv] at e; cases e; omega)
    (fun v m hI => hout v m)
    n a .nsl ⟨h, L, L⟩ rfl ⟨Nat.le_refl _, h, rfl, .inl ⟨rfl, by omega⟩, Nat.le_refl _, fun _ _ => rfl⟩
  obtain ⟨v', m', k1, -, hp, rfl, hv, hlen, hkeep⟩ := key
  rw [Nat.add_sub_cancel_left] at hv
  rcases hv with ⟨_, hz⟩ | ⟨b', rfl, _, hb', hvec⟩
  · omega
  · exact ⟨b', hp, k1, hvec, hb', hlen, hkeep⟩

/- Grow -/
/- the reference's plots and row -/
/- the reference's ring -/
theorem NV.congr {h hp : Heap} {b n : Nat} {f f' : Nat → Nat} (h1 : NV h hp b n f) (hc : ∀ i, i < n → f i = f' i) : NV h hp b n f' :=
  ⟨h1.vec.congr fun r hr => by rw [hc r hr], h1.new, h1.len, h1.keep⟩
end Go.Proofs.Ytgbkicelkpagpaa.W

/- The sets of pairs from which the rest of a row can come; Back; Rings. -/
open Go.Vm
set_option linter.unusedVariables false
namespace Go.Proofs.Ytgbkicelkpagpaa.W
open Go

/- from which pairs the rest of a row can come -/
/- the least row -/
/- one more behind a vector whose room is full or open -/
theorem push_any {ro : List ABlk} {hp : Heap} {L e bytes b k : Nat} {z w : AVal} {cap : Cap} {get : Nat → AVal} (hcap : cap = .grow ∨ cap = .known k) (hv : Vec hp e b k get) (hLb : L ≤ b) (h0 : 0 < k) (hk : k ≤ 1000) (hb : bytes ≤ 1000) (hL : L ≤ hp.length) (hw : w.cells = [w]) (ho : w.one = true) :
    ∃ v2 hp2 hp3 b3, stepM ro ⟨hp, L, L⟩ (.bsl e 1 [z] 1 [((0, 1), .c w)]) = some (v2, ⟨hp2, L, L⟩) ∧ stepM ro ⟨hp2, L, L⟩ (.app e 1 bytes [z] (.c (.sl ⟨false, b, 0⟩ k cap)) (.c v2)) = some (.sl ⟨false, b3, 0⟩ (k + 1) .grow, ⟨hp3, L, L⟩) ∧
      hp.length ≤ b3 ∧ Vec hp3 e b3 (k + 1) (fun r => if r < k then get r else w) ∧ hp.length ≤ hp3.length ∧ ∀ i, i < hp.length → i ≠ b → hp3[i]? = hp[i]? := by
  rcases hcap with rfl | rfl
  · obtain ⟨v2, hp2, v3, hp3, b3, s1, s2, rfl, h3, h4, h5, h6⟩ := push_ok (ro := ro) (bytes := bytes) (z := z) (w := w) (.inr ⟨b, rfl, h0, hLb, hv⟩ : VecV hp L e (.sl ⟨false, b, 0⟩ k .grow) k get) hL hk hb hw ho
    exact ⟨v2, hp2, hp3, b3, s1, s2, h3, h4, h5, fun i hi hne => h6 i hi fun len cap e => by cases e; exact hne rfl⟩
  · have s1 : stepM ro ⟨hp, L, L⟩ (.bsl e 1 [z] 1 [((0, 1), .c w)]) = some (.sl ⟨false, hp.length, 0⟩ 1 (.known 1), ⟨hp ++ [some (blkOf e [w])], L, L⟩) := by
      simp [stepM, stepK, st_bsl, rep, fillA, opd, hw, splice, newB, St.mm]
    have src : app_src ro (hp ++ [some (blkOf e [w])]) 1 (.sl ⟨false, hp.length, 0⟩ 1 (.known 1)) = some ([w], 1) := by
      have hb : rdB ro (hp ++ [some (blkOf e [w])]) ⟨false, hp.length, 0⟩ = some (blkOf e [w]) := by simp [rdB, lget_eq]
      have hg : (blkOf e [w]).c.row 0 1 = [w] := by simp only [Tr.row, get_blk]; rfl
      have hble : Nat.ble (0 + 1 * 1) (blkOf e [w]).n = true := rfl
      simp only [app_src, hb, hble, cond_true]
      rw [show 1 * 1 = 1 from rfl, hg]
    obtain ⟨blk, hbk, hbe, hbn, hrows⟩ := hv
    have hlt : b < hp.length := lget_lt hbk
    obtain ⟨hp2, e2⟩ : ∃ hp2, hp2 = hp ++ [some (blkOf e [w])] := ⟨_, rfl⟩
    rw [← e2] at src s1
    have hb2 : lget hp2 b = some (some blk) := by rw [e2]; exact lget_ext hbk _
    have hlen2 : hp2.length = hp.length + 1 := by rw [e2]; simp
    refine ⟨_, _, hp2 ++ [some (blkOf e (blk.c.row 0 k ++ [w]))], hp2.length, s1, ?_, by omega, ⟨blkOf e (blk.c.row 0 k ++ [w]), lget_last _ _, rfl, ?_, fun r hr => ?_⟩, ?_, fun i hi hne => ?_⟩
    · have h1 : Nat.ble (k + 1) k = false := by rw [← Bool.not_eq_true, Nat.ble_eq]; omega
      have h2 : (Nat.ble (0 + k) blk.n && fits (k + 1) bytes) = true := by
        rw [fits_small (by omega : k + 1 ≤ 1000000) hb, Bool.and_true, Nat.ble_eq]; omega
      have hrd : rdB ro hp2 ⟨false, b, 0⟩ = some blk := by simp only [rdB, cond_false, hb2]
      simp only [stepM, stepK, opd, st_app, src, app_known, h1, cond_false, hrd, h2, cond_true, St.mm, newB, Nat.mul_one]
    · simp [blkOf, length_row]
    · show (blkOf e (blk.c.row 0 k ++ [w])).c.get r = if r < k then get r else w
      rw [get_blk]
      by_cases hrk : r < k
      · rw [if_pos hrk, List.getD_eq_getElem?_getD, List.getElem?_append_left (by rw [length_row]; exact hrk), getElem?_row, if_pos hrk]
        simp [hrows r hrk]
      · rw [if_neg hrk, List.getD_eq_getElem?_getD, List.getElem?_append_right (by rw [length_row]; omega), length_row, show r - k = 0 by omega]
        rfl
    · simp; omega
    · rw [List.getElem?_append_left (by omega), e2, List.getElem?_append_left hi]
/-- a loop that counts, whatever it carries -/
theorem loop_seq {S R : Type} {b : S → Option (S ⊕ R)} (n : Nat) (I : Nat → S → Prop) (Q : R → Prop) (hin : ∀ i s, i < n → I i s → ∃ s', b s = some (.inl s') ∧ I (i + 1) s') (hout : ∀ s, I n s → ∃ r, b s = some (.inr r) ∧ Q r) :
    ∀ (k i : Nat) (s : S), i + k = n → I i s → ∃ r, loopX b s = some r ∧ Q r
  | 0, i, s, hk, hi => by
    obtain rfl : i = n := by omega
    obtain ⟨r, h1, h2⟩ := hout s hi
    exact ⟨r, loopX_out h1, h2⟩
  | k + 1, i, s, hk, hi => by
    obtain ⟨s', h1, h2⟩ := hin i s (by omega) hi
    obtain ⟨r, h3, h4⟩ := loop_seq n I Q hin hout k (i + 1) s' (by omega) h2
    exact ⟨r, loopX_on h1 h3, h4⟩

end Go.Proofs.Ytgbkicelkpagpaa.W

/- Back and Rings: what they answer. -/
open Go.Vm
set_option linter.unusedVariables false
namespace Go.Proofs.Ytgbkicelkpagpaa.W
open Go

end Go.Proofs.Ytgbkicelkpagpaa.W

/- Back and Rings of the program. -/
open Go.Vm
set_option linter.unusedVariables false
namespace Go.Proofs.Ytgbkicelkpagpaa.W
open Go

/- Rings -/
end Go.Proofs.Ytgbkicelkpagpaa.W

/- The reference's walks: ways, small, sum, one, can; Ways and Rings. -/
open Go.Vm
set_option linter.unusedVariables false
namespace Go.Proofs.Ytgbkicelkpagpaa.W
open Go

/- walks by a function of the letters -/
def wkC (u : Nat) (c : Nat → Nat) (from' : Nat → Nat) : Nat → Nat → Nat
  | 0 => from'
  | i + 1 => nxt u (c i) (wkC u c from' i)
theorem wkC_le {u : Nat} {c : Nat → Nat} {from' : Nat → Nat} (h : ∀ j, j < 4 → from' j ≤ 1) : ∀ i j, j < 4 → wkC u c from' i j ≤ 2 ^ i
  | 0, j, hj => h j hj
  | i + 1, j, hj => by
    have := nxt_le (u := u) (c := c i) (at' := wkC u c from' i) (X := 2 ^ i) (fun j hj => wkC_le h i j hj) hj
    have e : 2 ^ (i + 1) = 2 * 2 ^ i := by rw [Nat.pow_succ]; omega
    rw [e]; exact this
theorem st1_eq (u c : Nat) (a to : Nat → Nat) (t j : Nat) : st1 u c a to t j = to j + (if j = t % 4 ∧ nx u t = c then a (t / 2) else 0) := by
  unfold st1
  by_cases h1 : nx u t = c
  · by_cases h2 : j = t % 4
    · simp [h1, h2]
    · simp [h1, h2]
  · simp [h1]
/- one, small, sum -/
theorem mx_num (x : Nat) : mxV false (x : Int) 1 = ((min x 1 : Nat) : Int) := by
  unfold mxV
  rw [if_neg (by decide)]
  split <;> omega
theorem small_ok {ro : List ABlk} {h : Heap} {b : Nat} {cap : Cap} {g : Nat → Nat} (hv : Vec h 3 b 4 (fun i => .i .i64 (g i : Nat))) :
    ∃ b' hp, callX F1 ro 77 [.sl ⟨false, b, 0⟩ 4 cap] h = some (.sl ⟨false, b', 0⟩ 4 .grow, hp, h.length, h.length) ∧ NV h hp b' 4 (fun j => min (g j) 1) := by
  obtain ⟨b', hp, k1, nv⟩ := push_loop (ro := ro) (h := h) (L := h.length) (Nat.le_refl _) (b := fun z => g77_b0 (meansX F1 ro) ro (.sl ⟨false, b, 0⟩ 4 cap) z.1 z.2.1 z.2.2) 0 4 (by omega) (by omega) (fun j => min (g j) 1)
    (fun k hk v hp hlen hkeep v2 hp2 v3 hp3 s1 s2 => by
      have hlt : decide ((k : Int) < ((4 : Nat) : Int)) = true := by simp; omega
      have ld := Vec.ld (ro := ro) (l := h.length) (p := h.length) (hv.keep (hkeep b hv.lt)) hk
      rw [Nat.zero_add]
      simp only [g77_b0, e_lenS, bindO_some, asI_i, ltI_eq, forceB_eq, hlt, cond_true, ixS_eq hk, ld, forceI_eq, mx_num, s1, bindP_some, s2, wr_next (by omega : k ≤ 1000000)])
    (fun v m => by
      have : decide (((4 : Nat) : Int) < ((4 : Nat) : Int)) = false := lt_no
      show g77_b0 (meansX F1 ro) ro _ v ((0 + 4 : Nat) : Int) m = _
      rw [Nat.zero_add]
      simp only [g77_b0, e_lenS, bindO_some, asI_i, ltI_eq, forceB_eq, this, cond_false])
  have e0 : ((0 : Nat) : Int) = 0 := rfl
  rw [e0] at k1
  refine ⟨b', hp, g77_ok (meansX_ok F1 ro) rfl ?_, nv⟩
  unfold g77
  simp only [meansX_loop, k1, bindO_some, tupA]
  exact fin_new nv.new
def sumT (g : Nat → Nat) : Nat → Nat
  | 0 => 0
  | i + 1 => sumT g i + g i
theorem sum_ok {ro : List ABlk} {h : Heap} {b : Nat} {cap : Cap} {g : Nat → Nat} (hv : Vec h 3 b 4 (fun i => .i .i64 (g i : Nat))) (hg : ∀ j, j < 4 → g j ≤ 1125899906842624) :
    callX F1 ro 58 [.sl ⟨false, b, 0⟩ 4 cap] h = some (.i .i64 (sumT g 4 : Nat), h, h.length, h.length) := by
  refine g58_ok (meansX_ok F1 ro) rfl ?_
  unfold g58
  have hle : ∀ i, i ≤ 4 → sumT g i ≤ i * 1125899906842624 := by
    intro i
    induction i with
    | zero => intro _; exact Nat.zero_le _
    | succ i ih =>
      intro hi
      have h1 := ih (by omega)
      have h2 := hg i (by omega)
      show sumT g i + g i ≤ _
      omega
  obtain ⟨r, k1, rfl⟩ := loop_seq (b := fun z : Int × Int => g58_b0 (meansX F1 ro) ro (.sl ⟨false, b, 0⟩ 4 cap) ⟨h, h.length, h.length⟩ z.1 z.2) 4 (fun i z => z = (((sumT g i : Nat) : Int), (i : Int))) (fun r => r = ((sumT g 4 : Nat) : Int))
    (fun i z hi hI => by
      subst hI
      have hlt : decide ((i : Int) < ((4 : Nat) : Int)) = true := by simp; omega
      have ld := Vec.ld (ro := ro) (l := h.length) (p := h.length) hv hi
      have h1 := hle (i + 1) (by omega)
      have h2 : (i + 1) * 1125899906842624 ≤ 4 * 1125899906842624 := Nat.mul_le_mul_right _ (by omega)
      have e : sumT g (i + 1) = sumT g i + g i := rfl
      have ew : wr .i64 (((sumT g i : Nat) : Int) + ((g i : Nat) : Int)) = ((sumT g (i + 1) : Nat) : Int) := by rw [wr_id' (by omega) (by omega)]; omega
      refine ⟨_, ?_, rfl⟩
      simp only [g58_b0, e_lenS, bindO_some, asI_i, ltI_eq, forceB_eq, hlt, cond_true, ixS_eq hi, ld, forceI_eq, ew, wr_next (by omega : i ≤ 1000000)])
    (fun z hI => by
      subst hI
      have : decide (((4 : Nat) : Int) < ((4 : Nat) : Int)) = false := lt_no
      refine ⟨_, ?_, rfl⟩
      simp only [g58_b0, e_lenS, bindO_some, asI_i, ltI_eq, forceB_eq, this, cond_false])
    4 0 (0, 0) rfl rfl
  simp only [meansX_loop, k1, bindO_some, tupA]
  exact fin_pure rfl

/- ways -/
theorem div_num : ∀ p, p < 4 → wr .i64 (Int.tdiv (Int.ofNat p) 2) = Int.ofNat (p / 2) ∧ Int.tmod (Int.ofNat p) 2 = Int.ofNat (p % 2) ∧ wr .i64 (Int.ofNat (p % 2) * 2) = Int.ofNat (p % 2 * 2) := by decide +kernel
theorem rways_ok {ro : List ABlk} {h : Heap} {u b n off k b2 : Nat} {cap cap2 : Cap} {f from' : Nat → Nat} (hu : u < 256) (hv : Vec h 3 b n (fun i => .i .i64 (f i : Nat))) (hf : ∀ i, i < n → f i < 2) (hoff : off + k ≤ n) (h0 : 0 < k) (hk : k ≤ 50)
    (hv2 : Vec h 3 b2 4 (fun i => .i .i64 (from' i : Nat))) (hfr : ∀ j, j < 4 → from' j ≤ 1) :
    ∃ b' hp, callX F1 ro 59 [.i .i64 u, .sl ⟨false, b, off⟩ k cap, .sl ⟨false, b2, 0⟩ 4 cap2] h = some (.sl ⟨false, b', 0⟩ 4 (.known 4), hp, h.length, h.length) ∧ NV h hp b' 4 (wkC u (fun i => f (off + i)) from' k) := by
  obtain ⟨v', m', k1, b', cap', hp, rfl, rfl, hvec, hnew, hlen, hkeep⟩ := loop_all3 (b := fun z => g59_b0 (meansX F1 ro) ro u (.sl ⟨false, b, off⟩ k cap) z.1 z.2.1 z.2.2) k
    (fun i v m => ∃ b' cap' hp, v = .sl ⟨false, b', 0⟩ 4 cap' ∧ m = ⟨hp, h.length, h.length⟩ ∧ Vec hp 3 b' 4 (fun j => .i .i64 (wkC u (fun i => f (off + i)) from' i j : Nat)) ∧ (0 < i → h.length ≤ b' ∧ cap' = .known 4) ∧ h.length ≤ hp.length ∧ ∀ j, j < h.length → hp[j]? = h[j]?)
    (fun i v m hi hI => by
      obtain ⟨b7, cap7, hp, rfl, rfl, hv7, hnew, hlen, hkeep⟩ := hI
      have hlt : decide ((i : Int) < (k : Int)) = true := by simp; omega
      have hmk : stepM ro ⟨hp, h.length, h.length⟩ (.mk 3 1 8 [(AVal.i IntKind.i64 0)] (.c (.i .i64 4)) (.c (.i .i64 4))) = some (.sl ⟨false, hp.length, 0⟩ 4 (.known 4), ⟨hp ++ [some (newBlk 3 (AVal.i IntKind.i64 0) 4)], h.length, h.length⟩) :=
        mk_ok (n := 4) (by omega) (by omega)
      have hv9 := Vec.new hp 3 4 (AVal.i IntKind.i64 0)
      generalize hB : hp ++ [some (newBlk 3 (AVal.i IntKind.i64 0) 4)] = H at hmk hv9
      have hL : H.length = hp.length + 1 := by rw [← hB]; simp
      have hK : ∀ k, k < hp.length → H[k]? = hp[k]? := fun k hk => by rw [← hB]; exact List.getElem?_append_left hk
      have hX : ∀ j, j < 4 → wkC u (fun i => f (off + i)) from' i j ≤ 1125899906842624 := fun j hj => Nat.le_trans (wkC_le hfr i j hj) (pow50 (by omega))
      have hfi : f (off + i) < 2 := hf _ (by omega)
      show ∃ v' m', g59_b0 (meansX F1 ro) ro u (.sl ⟨false, b, off⟩ k cap) (.sl ⟨false, b7, 0⟩ 4 cap7) i ⟨hp, h.length, h.length⟩ = _ ∧ ∃ b' cap' hp, v' = _ ∧ m' = _ ∧ Vec hp 3 b' 4 (fun j => .i .i64 (nxt u (f (off + i)) (wkC u (fun i => f (off + i)) from' i) j : Nat)) ∧ _
      generalize hat : wkC u (fun i => f (off + i)) from' i = at' at hv7 hX
      -- the two loops within
      have inner : ∀ (p : Nat) (hp1 : Heap), p < 4 → Vec hp1 3 hp.length 4 (fun j => .i .i64 (stp u (f (off + i)) at' (2 * p) j : Nat)) → hp1.length = hp.length + 1 → (∀ j, j < hp.length → hp1[j]? = hp[j]?) →
          ∃ hp2, loopX (fun z : Int × Mm => g59_b2 (meansX F1 ro) ro u (.sl ⟨false, b, off⟩ k cap) (.sl ⟨false, b7, 0⟩ 4 cap7) i (.sl ⟨false, hp.length, 0⟩ 4 (.known 4)) p z.1 z.2) (0, ⟨hp1, h.length, h.length⟩) = some ⟨hp2, h.length, h.length⟩ ∧
            Vec hp2 3 hp.length 4 (fun j => .i .i64 (stp u (f (off + i)) at' (2 * (p + 1)) j : Nat)) ∧ hp2.length = hp.length + 1 ∧ ∀ j, j < hp.length → hp2[j]? = hp[j]? := by
        intro p hp1 hp4 hvp hlp hkp
        obtain ⟨m', q1, hp2, rfl, q2, q3, q4⟩ := loop_all (b := fun z : Int × Mm => g59_b2 (meansX F1 ro) ro u (.sl ⟨false, b, off⟩ k cap) (.sl ⟨false, b7, 0⟩ 4 cap7) i (.sl ⟨false, hp.length, 0⟩ 4 (.known 4)) p z.1 z.2) 2
          (fun r m => ∃ hp2, m = ⟨hp2, h.length, h.length⟩ ∧ Vec hp2 3 hp.length 4 (fun j => .i .i64 (stp u (f (off + i)) at' (2 * p + r) j : Nat)) ∧ hp2.length = hp.length + 1 ∧ ∀ j, j < hp.length → hp2[j]? = hp[j]?)
          (fun r m hr hI => by
            obtain ⟨hp2, rfl, w9, wl, wk⟩ := hI
            have hr2 : decide ((r : Int) < 2) = true := by simp; omega
            obtain ⟨d1, d2, d3⟩ := div_num p hp4
            have d1' : wr .i64 (Int.tdiv (p : Int) 2) = ((p / 2 : Nat) : Int) := d1
            have d2' : Int.tmod (p : Int) 2 = ((p % 2 : Nat) : Int) := d2
            have d3' : wr .i64 (((p % 2 : Nat) : Int) * 2) = ((p % 2 * 2 : Nat) : Int) := d3
            have d4 : wr .i64 (((p % 2 * 2 : Nat) : Int) + (r : Int)) = (((2 * p + r) % 4 : Nat) : Int) := by rw [wr_id' (by omega) (by omega)]; omega
            have cb := callN_pure (call := callX F1 ro) (becomes_ok (ro := ro) (h := hp2) hu (by omega : p / 2 < 2) (by omega : p % 2 < 2) hr) rfl rfl
            rw [show 4 * (p / 2) + 2 * (p % 2) + r = 2 * p + r by omega] at cb
            have lb := Vec.lda (ro := ro) ((hv.keep (hkeep b hv.lt)).keep (wk b (Nat.lt_of_lt_of_le hv.lt hlen))) (i := off + i) (by omega)
            rw [Nat.zero_add] at lb
            have l7 := Vec.lda (ro := ro) (hv7.keep (wk b7 hv7.lt)) hp4
            have l9 := Vec.lda (ro := ro) w9 (i := (2 * p + r) % 4) (by omega)
            have hcmp := num_eq (nx u (2 * p + r)) (f (off + i))
            have hst : ∀ j, stp u (f (off + i)) at' (2 * p + (r + 1)) j = stp u (f (off + i)) at' (2 * p + r) j + (if j = (2 * p + r) % 4 ∧ nx u (2 * p + r) = f (off + i) then at' ((2 * p + r) / 2) else 0) := fun j => st1_eq _ _ _ _ _ _
            cases hb : Nat.beq (nx u (2 * p + r)) (f (off + i)) with
            | false =>
              rw [hb] at hcmp
              refine ⟨⟨hp2, h.length, h.length⟩, ?_, hp2, rfl, w9.congr fun j hj => ?_, wl, wk⟩
              · simp only [g59_b2, ltI_eq, forceB_eq, hr2, cond_true, forceI_eq, d1', d2', meansX_call, cb, bindO_some, asI_i, ixS_eq hi, lb, eqI_eq, hcmp, cond_false, wr_next (by omega : r ≤ 1000000)]
              · rw [hst, if_neg (fun hh => by rw [hh.2, Nat.beq_refl] at hb; cases hb)]; rfl
            | true =>
              rw [hb] at hcmp
              have hsum : stp u (f (off + i)) at' (2 * p + r) ((2 * p + r) % 4) + at' p ≤ 9007199254740992 := by
                have a1 := stp_le (u := u) (c := f (off + i)) hX (2 * p + r) (by omega) ((2 * p + r) % 4) (by omega)
                have a2 := hX p hp4
                have a3 : (2 * p + r + 3 - (2 * p + r) % 4) / 4 * 1125899906842624 ≤ 2 * 1125899906842624 := Nat.mul_le_mul_right _ (by omega)
                omega
              have ew : wr .i64 (((stp u (f (off + i)) at' (2 * p + r) ((2 * p + r) % 4) : Nat) : Int) + ((at' p : Nat) : Int)) = ((stp u (f (off + i)) at' (2 * p + r) ((2 * p + r) % 4) + at' p : Nat) : Int) := by rw [wr_id' (by omega) (by omega)]; omega
              obtain ⟨y, g1, g2⟩ := Vec.wr (ro := ro) (l := h.length) (p := h.length) w9 (r := (2 * p + r) % 4) (by omega) (v := .i .i64 ((stp u (f (off + i)) at' (2 * p + r) ((2 * p + r) % 4) + at' p : Nat) : Int)) rfl rfl
              rw [Nat.min_eq_left hlen] at g1
              refine ⟨⟨hp2.set hp.length y, h.length, h.length⟩, ?_, _, rfl, g2.congr fun j hj => ?_, by rw [List.length_set]; exact wl, fun j hj => by rw [List.getElem?_set_ne (by omega)]; exact wk j hj⟩
              · simp only [g59_b2, ltI_eq, forceB_eq, hr2, cond_true, forceI_eq, d1', d2', meansX_call, cb, bindO_some, asI_i, ixS_eq hi, lb, eqI_eq, hcmp, d3', d4, ixS_eq (by omega : (2 * p + r) % 4 < 4), l9, ixS_eq hp4, l7, ew, asP_p, AVal.cells, g1, wr_next (by omega : r ≤ 1000000)]
              · show (if j = (2 * p + r) % 4 then _ else _) = _
                rw [hst]
                by_cases e : j = (2 * p + r) % 4
                · rw [if_pos e, if_pos ⟨e, beq_iff.1 hb⟩, show (2 * p + r) / 2 = p by omega, e]
                · rw [if_neg e, if_neg (fun hh => e hh.1)]; rfl)
          (fun m hI => by
            have : decide ((2 : Int) < 2) = false := rfl
            show g59_b2 (meansX F1 ro) ro u _ _ i _ p 2 m = _
            simp only [g59_b2, ltI_eq, forceB_eq, this, cond_false])
          2 0 ⟨hp1, h.length, h.length⟩ rfl ⟨hp1, rfl, hvp, hlp, hkp⟩
        exact ⟨hp2, q1, q2, q3, q4⟩
      obtain ⟨m', q1, hp2, rfl, q2, q3, q4⟩ := loop_all (b := fun z : Int × Mm => g59_b1 (meansX F1 ro) ro u (.sl ⟨false, b, off⟩ k cap) (.sl ⟨false, b7, 0⟩ 4 cap7) i (.sl ⟨false, hp.length, 0⟩ 4 (.known 4)) z.1 z.2) 4
        (fun p m => ∃ hp2, m = ⟨hp2, h.length, h.length⟩ ∧ Vec hp2 3 hp.length 4 (fun j => .i .i64 (stp u (f (off + i)) at' (2 * p) j : Nat)) ∧ hp2.length = hp.length + 1 ∧ ∀ j, j < hp.length → hp2[j]? = hp[j]?)
        (fun p m hp4 hI => by
          obtain ⟨hp1, rfl, w9, wl, wk⟩ := hI
          have hp4' : decide ((p : Int) < 4) = true := by simp; omega
          obtain ⟨hp2, r1, r2, r3, r4⟩ := inner p hp1 hp4 w9 wl wk
          refine ⟨_, ?_, hp2, rfl, r2, r3, r4⟩
          simp only [g59_b1, ltI_eq, forceB_eq, hp4', cond_true, meansX_loop, r1, bindO_some, forceI_eq, wr_next (by omega : p ≤ 1000000)])
        (fun m hI => by
          have : decide ((4 : Int) < 4) = false := rfl
          show g59_b1 (meansX F1 ro) ro u _ _ i _ 4 m = _
          simp only [g59_b1, ltI_eq, forceB_eq, this, cond_false])
        4 0 ⟨H, h.length, h.length⟩ rfl ⟨H, rfl, hv9.congr fun r hr => rfl, hL, hK⟩
      have e0 : ((0 : Nat) : Int) = 0 := rfl
      rw [e0] at q1
      refine ⟨.sl ⟨false, hp.length, 0⟩ 4 (.known 4), ⟨hp2, h.length, h.length⟩, ?_, hp.length, .known 4, hp2, rfl, rfl, q2, fun _ => ⟨hlen, rfl⟩, by omega, fun j hj => by rw [q4 j (by omega), hkeep j hj]⟩
      simp only [g59_b0, e_lenS, bindO_some, asI_i, ltI_eq, forceB_eq, hlt, cond_true, hmk, bindP_some, meansX_loop, q1, forceI_eq, wr_next (by omega : i ≤ 1000000)])
    (fun v m _ => by
      have : decide ((k : Int) < (k : Int)) = false := lt_no
      show g59_b0 (meansX F1 ro) ro u _ v k m = _
      simp only [g59_b0, e_lenS, bindO_some, asI_i, ltI_eq, forceB_eq, this, cond_false])
    k 0 (.sl ⟨false, b2, 0⟩ 4 cap2) ⟨h, h.length, h.length⟩ (by omega) ⟨b2, cap2, h, rfl, rfl, hv2, fun hh => absurd hh (by omega), Nat.le_refl _, fun _ _ => rfl⟩
  obtain ⟨hnb, rfl⟩ := hnew h0
  have e0 : ((0 : Nat) : Int) = 0 := rfl
  rw [e0] at k1
  refine ⟨b', hp, g59_ok (meansX_ok F1 ro) rfl ?_, hvec, hnb, hlen, hkeep⟩
  unfold g59
  simp only [meansX_loop, k1, bindO_some, tupA]
  exact fin_new hnb
end Go.Proofs.Ytgbkicelkpagpaa.W

/- The reference's orphans: by contract, and a search on numbers that is reckoned for all rules. -/
open Go.Vm
set_option linter.unusedVariables false
namespace Go.Proofs.Ytgbkicelkpagpaa.W
open Go

/- sets of pairs as numbers of four bits -/
def m4 (g : Nat → Nat) : Nat := g 0 + 2 * g 1 + 4 * g 2 + 8 * g 3
def cmpF (x : Nat) (g : Nat → Nat) : Nat → Bool
  | 0 => true
  | p + 1 => cond (cmpF x g p) (Nat.beq (nx x p) (g p)) false
def cmpN (x a b c d : Nat) : Bool := cond (cond (cond (cond true (Nat.beq (nx x 0) a) false) (Nat.beq (nx x 1) b) false) (Nat.beq (nx x 2) c) false) (Nat.beq (nx x 3) d) false
def m4B (a b c d : Nat) : Bool := (Nat.blt (a + 2 * b + 4 * c + 8 * d) 16 && (Nat.beq (nx (a + 2 * b + 4 * c + 8 * d) 0) a && (Nat.beq (nx (a + 2 * b + 4 * c + 8 * d) 1) b && (Nat.beq (nx (a + 2 * b + 4 * c + 8 * d) 2) c && Nat.beq (nx (a + 2 * b + 4 * c + 8 * d) 3) d)))) &&
  (List.range 16).all fun x => cmpN x a b c d == Nat.beq x (a + 2 * b + 4 * c + 8 * d)
theorem m4_tab : ((List.range 2).all fun a => (List.range 2).all fun b => (List.range 2).all fun c => (List.range 2).all fun d => m4B a b c d) = true := by decide +kernel
theorem m4_sum {g : Nat → Nat} : sumT g 4 = 0 ↔ m4 g = 0 := by
  have e : sumT g 4 = g 0 + g 1 + g 2 + g 3 := by simp only [sumT, Nat.zero_add]
  rw [e]; unfold m4; omega
section
variable {g : Nat → Nat} (hg : ∀ j, j < 4 → g j ≤ 1)
include hg
theorem m4_all : (m4 g < 16 ∧ nx (m4 g) 0 = g 0 ∧ nx (m4 g) 1 = g 1 ∧ nx (m4 g) 2 = g 2 ∧ nx (m4 g) 3 = g 3) ∧ ∀ x, x < 16 → cmpN x (g 0) (g 1) (g 2) (g 3) = Nat.beq x (m4 g) := by
  have h0 := hg 0 (by omega)
  have h1 := hg 1 (by omega)
  have h2 := hg 2 (by omega)
  have h3 := hg 3 (by omega)
  have h := List.all_eq_true.1 (List.all_eq_true.1 (List.all_eq_true.1 (List.all_eq_true.1 m4_tab (g 0) (List.mem_range.2 (by omega))) (g 1) (List.mem_range.2 (by omega))) (g 2) (List.mem_range.2 (by omega))) (g 3) (List.mem_range.2 (by omega))
  unfold m4B at h
  simp only [Bool.and_eq_true, Nat.blt_eq, beq_iff] at h
  obtain ⟨⟨a0, a1, a2, a3, a4⟩, a5⟩ := h
  exact ⟨⟨a0, a1, a2, a3, a4⟩, fun x hx => eq_of_beq (List.all_eq_true.1 a5 x (List.mem_range.2 hx))⟩
theorem m4_lt : m4 g < 16 := (m4_all hg).1.1
theorem m4_bit {j : Nat} (hj : j < 4) : nx (m4 g) j = g j := by
  obtain ⟨⟨_, h0, h1, h2, h3⟩, _⟩ := m4_all hg
  rcases (by omega : j = 0 ∨ j = 1 ∨ j = 2 ∨ j = 3) with rfl | rfl | rfl | rfl
  · exact h0
  · exact h1
  · exact h2
  · exact h3
theorem cmp_all {x : Nat} (hx : x < 16) : cmpF x g 4 = Nat.beq x (m4 g) := (m4_all hg).2 x hx
end
def fwdG (u b S j : Nat) : Nat := min (nxt u b (nx S) j) 1
theorem fwdG_le (u b S j : Nat) : fwdG u b S j ≤ 1 := Nat.min_le_right _ _
def FM (u b S : Nat) : Nat := m4 (fwdG u b S)

/- the search -/
abbrev St2 := List Nat × List (List UInt8)
def newF (S : List Nat) (f : Nat) : Nat → Bool
  | 0 => true
  | k + 1 => cond (newF S f k) (!Nat.beq (S.getD k 0) f) false
def wdF (W : List (List UInt8)) (b i : Nat) : List UInt8 := W.getD i [] ++ [UInt8.ofNat (48 + b)]
def stepO (u b i : Nat) (st : St2) : List UInt8 ⊕ St2 :=
  cond (Nat.beq (FM u b (st.1.getD i 0)) 0) (.inl (wdF st.2 b i)) (.inr (cond (newF st.1 (FM u b (st.1.getD i 0)) st.1.length) (st.1 ++ [FM u b (st.1.getD i 0)], st.2 ++ [wdF st.2 b i]) st))
def rndO (u i : Nat) (st : St2) : List UInt8 ⊕ St2 :=
  match stepO u 0 i st with
  | .inl w => .inl w
  | .inr st' => stepO u 1 i st'
def srch (u : Nat) : Nat → Nat → St2 → Option (Option (List UInt8))
  | 0, _, _ => none
  | k + 1, i, st => cond (Nat.blt i st.1.length) (match rndO u i st with
    | .inl w => some (some w)
    | .inr st' => srch u k (i + 1) st') (some none)
def chkO (n : Nat) : Bool := match srch n 20 0 ([15], [[]]) with
  | some none => (orphT n).isEmpty
  | some (some w) => eqL w (orphT n) && !(orphT n).isEmpty
  | none => false
theorem chkO0 : ((List.range 64).all fun i => chkO i) = true := by decide +kernel
theorem chkO1 : ((List.range 64).all fun i => chkO (64 + i)) = true := by decide +kernel
theorem chkO2 : ((List.range 64).all fun i => chkO (128 + i)) = true := by decide +kernel
theorem chkO3 : ((List.range 64).all fun i => chkO (192 + i)) = true := by decide +kernel
theorem chkO_all {n : Nat} (hn : n < 256) : chkO n = true := by
  rcases (by omega : n < 64 ∨ (64 ≤ n ∧ n < 128) ∨ (128 ≤ n ∧ n < 192) ∨ (192 ≤ n ∧ n < 256)) with h | h | h | h
  · exact List.all_eq_true.1 chkO0 n (List.mem_range.2 h)
  · have := List.all_eq_true.1 chkO1 (n - 64) (List.mem_range.2 (by omega)); rwa [show 64 + (n - 64) = n by omega] at this
  · have := List.all_eq_true.1 chkO2 (n - 128) (List.mem_range.2 (by omega)); rwa [show 128 + (n - 128) = n by omega] at this
  · have := List.all_eq_true.1 chkO3 (n - 192) (List.mem_range.2 (by omega)); rwa [show 192 + (n - 192) = n by omega] at this

/- what is in memory -/
structure OIv (hp : Heap) (S : List Nat) (W : List (List UInt8)) (b4 : Nat) (cap4 : Cap) (b5 : Nat) (cap5 : Cap) (bb : Nat → Nat) (cc : Nat → Cap) : Prop where
  hlen : W.length = S.length
  pos : 0 < S.length
  c4 : cap4 = .grow ∨ cap4 = .known S.length
  c5 : cap5 = .grow ∨ cap5 = .known S.length
  vec4 : Vec hp 55 b4 S.length (fun i => .sl ⟨false, bb i, 0⟩ 4 (cc i))
  vec5 : Vec hp 9 b5 S.length (fun i => .s (W.getD i []))
  rows : ∀ i, i < S.length → Vec hp 3 (bb i) 4 (fun j => .i .i64 (nx (S.getD i 0) j : Nat))
  lt16 : ∀ i, i < S.length → S.getD i 0 < 16
  wlen : ∀ i, i < S.length → (W.getD i []).length ≤ S.length
section
variable {hp hp' : Heap} {S : List Nat} {W : List (List UInt8)} {b4 b5 : Nat} {cap4 cap5 : Cap} {bb : Nat → Nat} {cc : Nat → Cap}
theorem OIv.keep (h : OIv hp S W b4 cap4 b5 cap5 bb cc) (hk : ∀ j, j < hp.length → hp'[j]? = hp[j]?) : OIv hp' S W b4 cap4 b5 cap5 bb cc :=
  ⟨h.hlen, h.pos, h.c4, h.c5, h.vec4.keep (hk _ h.vec4.lt), h.vec5.keep (hk _ h.vec5.lt), fun i hi => (h.rows i hi).keep (hk _ (h.rows i hi).lt), h.lt16, h.wlen⟩
theorem cut01 {b : Nat} (hb : b < 2) : evP .e (.slStr (.c (AVal.s [48, 49])) (some (.c (.i .i64 (b : Int)))) (some (.c (.i .i64 ((b + 1 : Nat) : Int))))) = some (.s [UInt8.ofNat (48 + b)]) := by
  rcases (by omega : b = 0 ∨ b = 1) with rfl | rfl <;> rfl
theorem add_ok2 {a b : List UInt8} (hab : a.length + b.length ≤ 100000) : evP .e (.sbin BinOp.add (.c (.s a)) (.c (.s b))) = some (.s (a ++ b)) := by
  show cond (Nat.ble (a.length + b.length) 1099511627776) (some (AVal.s (a ++ b))) none = _
  rw [show Nat.ble (a.length + b.length) 1099511627776 = true by rw [Nat.ble_eq]; omega]; rfl
theorem getD_app {α : Type} (l : List α) (x d : α) (i : Nat) : (l ++ [x]).getD i d = if i < l.length then l.getD i d else if i = l.length then x else d := by
  rw [List.getD_eq_getElem?_getD, List.getD_eq_getElem?_getD]
  by_cases h : i < l.length
  · rw [if_pos h, List.getElem?_append_left h]
  · rw [if_neg h, List.getElem?_append_right (by omega)]
    by_cases e : i = l.length
    · rw [if_pos e, show i - l.length = 0 by omega]; rfl
    · rw [if_neg e, show i - l.length = (i - l.length - 1) + 1 by omega]; rfl

/-- one letter more behind one of the words -/
theorem b1_ok {u i b : Nat} {x6 : Int} (h : OIv hp S W b4 cap4 b5 cap5 bb cc) (hu : u < 256) (hi : i < S.length) (hb : b < 2) (hN : S.length ≤ 60) (e6 : x6 = (i : Int)) :
    match stepO u b i (S, W) with
    | .inl w => ∃ hp', g63_b1 (meansX F1 []) [] u x6 (.sl ⟨false, b4, 0⟩ S.length cap4) (.sl ⟨false, b5, 0⟩ S.length cap5) b ⟨hp, 0, 0⟩ = some (.inr (.inr (w, true, ⟨hp', 0, 0⟩)))
    | .inr st => ∃ hp' b4' cap4' b5' cap5' bb' cc', g63_b1 (meansX F1 []) [] u x6 (.sl ⟨false, b4, 0⟩ S.length cap4) (.sl ⟨false, b5, 0⟩ S.length cap5) b ⟨hp, 0, 0⟩ = some (.inl (.sl ⟨false, b4', 0⟩ st.1.length cap4', .sl ⟨false, b5', 0⟩ st.1.length cap5', ((b + 1 : Nat) : Int), ⟨hp', 0, 0⟩)) ∧ OIv hp' st.1 st.2 b4' cap4' b5' cap5' bb' cc' := by
  subst e6
  have hlt : decide ((b : Int) < 2) = true := by simp; omega
  have s1 : stepM [] ⟨hp, 0, 0⟩ (.bsl 3 1 [(AVal.i IntKind.i64 0)] 1 [((0, 1), .c (.i .i64 (b : Int)))]) = some (.sl ⟨false, hp.length, 0⟩ 1 (.known 1), ⟨hp ++ [some (blkOf 3 [.i .i64 (b : Int)])], 0, 0⟩) := by
    simp [stepM, stepK, st_bsl, rep, fillA, opd, AVal.cells, splice, newB, St.mm]
  have vb : Vec (hp ++ [some (blkOf 3 [.i .i64 (b : Int)])]) 3 hp.length 1 (fun j => .i .i64 (((fun _ => b : Nat → Nat) j : Nat) : Int)) :=
    ⟨_, lget_last _ _, rfl, Nat.le_refl 1, fun r hr => by
      rw [get_blk]
      rcases (by omega : r = 0) with rfl; rfl⟩
  have hl1 : (hp ++ [some (blkOf 3 [AVal.i .i64 (b : Int)])]).length = hp.length + 1 := by simp
  have hk1 : ∀ j, j < hp.length → (hp ++ [some (blkOf 3 [AVal.i .i64 (b : Int)])])[j]? = hp[j]? := fun j hj => List.getElem?_append_left hj
  generalize hp ++ [some (blkOf 3 [AVal.i .i64 (b : Int)])] = hp1 at s1 vb hl1 hk1
  have h1 := h.keep hk1
  have ld4 := Vec.ld (ro := []) (l := 0) (p := 0) h1.vec4 hi
  have hgb : ∀ j, j < 4 → nx (S.getD i 0) j ≤ 1 := fun j _ => nx_le _ _
  obtain ⟨b8, hp8, t8, nv8⟩ := rways_ok (ro := []) (off := 0) (k := 1) (cap := .known 1) (cap2 := cc i) hu vb (fun _ _ => hb) (by omega) (by omega) (by omega) (h1.rows i hi) hgb
  have c8 := callM_new (L := 0) t8 (Nat.zero_le _)
  obtain ⟨b9, hp9, t9, nv9⟩ := small_ok (ro := []) (cap := .known 4) nv8.vec
  have c9 := callM_new (L := 0) t9 (Nat.zero_le _)
  have nv : NV hp8 hp9 b9 4 (fwdG u b (S.getD i 0)) := nv9.congr fun j _ => rfl
  have hk9 : ∀ j, j < hp.length → hp9[j]? = hp[j]? := fun j hj => by
    have := nv8.len
    rw [nv9.keep j (by omega), nv8.keep j (by omega), hk1 j hj]
  have h9 := h.keep hk9
  have ld5 := Vec.ld (ro := []) (l := 0) (p := 0) h9.vec5 hi
  have cs := callM_pure (call := callX F1 []) (l := 0) (p := 0) (sum_ok (ro := []) (cap := .grow) nv.vec (fun j hj => Nat.le_trans (fwdG_le u b (S.getD i 0) j) (by omega))) (Nat.zero_le _) (Nat.zero_le _)
  have wl := h.wlen i hi
  have ea := add_ok2 (a := W.getD i []) (b := [UInt8.ofNat (48 + b)]) (by show (W.getD i []).length + 1 ≤ 100000; omega)
  have hg1 : ∀ j, j < 4 → fwdG u b (S.getD i 0) j ≤ 1 := fun j _ => fwdG_le _ _ _ j
  unfold stepO
  cases hF : Nat.beq (FM u b (S.getD i 0)) 0 with
  | true =>
    have e0 : (((sumT (fwdG u b (S.getD i 0)) 4 : Nat) : Int) == 0) = true := by rw [m4_sum.2 (beq_iff.1 hF)]; rfl
    refine ⟨hp9, ?_⟩
    simp only [g63_b1, ltI_eq, forceB_eq, hlt, cond_true, s1, bindP_some, ixS_eq hi, bindO_some, ld4, meansX_call, c8, c9, forceI_eq, wr_next (by omega : b ≤ 1000000), cut01 hb, asS_s, ld5, ea, cs, asI_i, eqI_eq, e0]
    rfl
  | false =>
    have e0 : (((sumT (fwdG u b (S.getD i 0)) 4 : Nat) : Int) == 0) = false := by
      rw [beq_eq_false_iff_ne]
      intro e
      have h2 : FM u b (S.getD i 0) = 0 := m4_sum.1 (by omega)
      rw [h2] at hF; cases hF
    -- is it new?
    have hnew : loopX (fun z : Bool × Int => g63_b2 (meansX F1 []) [] u (.sl ⟨false, b4, 0⟩ S.length cap4) (.sl ⟨false, b5, 0⟩ S.length cap5) i b (.sl ⟨false, b9, 0⟩ 4 .grow) (wdF W b i) ⟨hp9, 0, 0⟩ z.1 z.2) (true, 0) = some (newF S (FM u b (S.getD i 0)) S.length) := by
      obtain ⟨r, k1, rfl⟩ := loop_seq (b := fun z : Bool × Int => g63_b2 (meansX F1 []) [] u (.sl ⟨false, b4, 0⟩ S.length cap4) (.sl ⟨false, b5, 0⟩ S.length cap5) i b (.sl ⟨false, b9, 0⟩ 4 .grow) (wdF W b i) ⟨hp9, 0, 0⟩ z.1 z.2) S.length
        (fun k z => z = (newF S (FM u b (S.getD i 0)) k, (k : Int))) (fun r => r = newF S (FM u b (S.getD i 0)) S.length)
        (fun k z hk hI => by
          subst hI
          have hkl : decide ((k : Int) < (S.length : Int)) = true := by simp; omega
          have hcmp : loopX (fun z : Bool × Int => g63_b3 (meansX F1 []) [] u (.sl ⟨false, b4, 0⟩ S.length cap4) (.sl ⟨false, b5, 0⟩ S.length cap5) i b (.sl ⟨false, b9, 0⟩ 4 .grow) (wdF W b i) (newF S (FM u b (S.getD i 0)) k) k ⟨hp9, 0, 0⟩ z.1 z.2) (true, 0) = some (Nat.beq (S.getD k 0) (FM u b (S.getD i 0))) := by
            rw [show Nat.beq (S.getD k 0) (FM u b (S.getD i 0)) = cmpF (S.getD k 0) (fwdG u b (S.getD i 0)) 4 from (cmp_all hg1 (h.lt16 k hk)).symm]
            obtain ⟨r, q1, rfl⟩ := loop_seq (b := fun z : Bool × Int => g63_b3 (meansX F1 []) [] u (.sl ⟨false, b4, 0⟩ S.length cap4) (.sl ⟨false, b5, 0⟩ S.length cap5) i b (.sl ⟨false, b9, 0⟩ 4 .grow) (wdF W b i) (newF S (FM u b (S.getD i 0)) k) k ⟨hp9, 0, 0⟩ z.1 z.2) 4
              (fun p z => z = (cmpF (S.getD k 0) (fwdG u b (S.getD i 0)) p, (p : Int))) (fun r => r = cmpF (S.getD k 0) (fwdG u b (S.getD i 0)) 4)
              (fun p z hp4 hI => by
                subst hI
                have hp4' : decide ((p : Int) < 4) = true := by simp; omega
                have l4 := Vec.lda (ro := []) h9.vec4 hk
                have lr := Vec.lda (ro := []) (h9.rows k hk) hp4
                have lg := Vec.lda (ro := []) nv.vec hp4
                refine ⟨_, ?_, rfl⟩
                cases hc : cmpF (S.getD k 0) (fwdG u b (S.getD i 0)) p with
                | false =>
                  simp only [g63_b3, ltI_eq, forceB_eq, hp4', cond_true, cond_false, bindO_some, forceI_eq, wr_next (by omega : p ≤ 1000000), cmpF, hc]
                | true =>
                  simp only [g63_b3, ltI_eq, forceB_eq, hp4', cond_true, bindO_some, ixS_eq hk, l4, ixS_eq hp4, lr, lg, asI_i, eqI_eq, num_eq, forceI_eq, wr_next (by omega : p ≤ 1000000), cmpF, hc])
              (fun z hI => by
                subst hI
                have : decide ((4 : Int) < 4) = false := rfl
                refine ⟨_, ?_, rfl⟩
                show g63_b3 (meansX F1 []) [] u _ _ i b _ _ _ k _ _ 4 = _
                simp only [g63_b3, ltI_eq, forceB_eq, this, cond_false])
              4 0 (true, 0) rfl rfl
            exact q1
          refine ⟨_, ?_, rfl⟩
          cases hc : newF S (FM u b (S.getD i 0)) k with
          | false =>
            rw [hc] at hcmp
            simp only [g63_b2, e_lenS, bindO_some, asI_i, ltI_eq, forceB_eq, hkl, cond_true, meansX_loop, hcmp, cond_false, forceI_eq, wr_next (by omega : k ≤ 1000000), newF, hc]
          | true =>
            rw [hc] at hcmp
            simp only [g63_b2, e_lenS, bindO_some, asI_i, ltI_eq, forceB_eq, hkl, cond_true, meansX_loop, hcmp, forceI_eq, wr_next (by omega : k ≤ 1000000), newF, hc])
        (fun z hI => by
          subst hI
          have : decide ((S.length : Int) < (S.length : Int)) = false := lt_no
          refine ⟨_, ?_, rfl⟩
          simp only [g63_b2, e_lenS, bindO_some, asI_i, ltI_eq, forceB_eq, this, cond_false])
        S.length 0 (true, 0) (by omega) rfl
      exact k1
    cases hn : newF S (FM u b (S.getD i 0)) S.length with
    | false =>
      rw [hn] at hnew
      refine ⟨hp9, b4, cap4, b5, cap5, bb, cc, ?_, h9⟩
      simp only [g63_b1, ltI_eq, forceB_eq, hlt, cond_true, s1, bindP_some, ixS_eq hi, bindO_some, ld4, meansX_call, c8, c9, forceI_eq, wr_next (by omega : b ≤ 1000000), cut01 hb, asS_s, ld5, ea, cs, asI_i, eqI_eq, e0, cond_false]
      show bindO (loopX (fun z : Bool × Int => g63_b2 (meansX F1 []) [] u (.sl ⟨false, b4, 0⟩ S.length cap4) (.sl ⟨false, b5, 0⟩ S.length cap5) i b (.sl ⟨false, b9, 0⟩ 4 .grow) (wdF W b i) ⟨hp9, 0, 0⟩ z.1 z.2) (true, 0)) _ = _
      simp only [hnew, bindO_some, cond_false]
    | true =>
      rw [hn] at hnew
      obtain ⟨va, hpa, hpb, b4', sa, sb, g1, g2, g3, g4⟩ := push_any (ro := []) (L := 0) (bytes := 24) (z := AVal.nsl) (w := .sl ⟨false, b9, 0⟩ 4 .grow) h9.c4 h9.vec4 (Nat.zero_le _) h.pos (by omega) (by omega) (Nat.zero_le _) rfl rfl
      have v5b := h9.vec5.keep (g4 b5 h9.vec5.lt (h9.vec5.ne h9.vec4 (by decide)))
      obtain ⟨vc, hpc, hpd, b5', sc, sd, k1, k2, k3, k4⟩ := push_any (ro := []) (L := 0) (bytes := 16) (z := AVal.s []) (w := .s (wdF W b i)) h9.c5 v5b (Nat.zero_le _) h.pos (by omega) (by omega) (Nat.zero_le _) rfl rfl
      refine ⟨hpd, b4', .grow, b5', .grow, fun j => if j < S.length then bb j else b9, fun j => if j < S.length then cc j else .grow, ?_, ?_⟩
      · simp only [g63_b1, ltI_eq, forceB_eq, hlt, cond_true, s1, bindP_some, ixS_eq hi, bindO_some, ld4, meansX_call, c8, c9, forceI_eq, wr_next (by omega : b ≤ 1000000), cut01 hb, asS_s, ld5, ea, cs, asI_i, eqI_eq, e0, cond_false]
        show bindO (loopX (fun z : Bool × Int => g63_b2 (meansX F1 []) [] u (.sl ⟨false, b4, 0⟩ S.length cap4) (.sl ⟨false, b5, 0⟩ S.length cap5) i b (.sl ⟨false, b9, 0⟩ 4 .grow) (wdF W b i) ⟨hp9, 0, 0⟩ z.1 z.2) (true, 0)) _ = _
        simp only [hnew, bindO_some, cond_true, sa, bindP_some, sb]
        show bindO (bindP (stepM [] ⟨hpb, 0, 0⟩ (.bsl 9 1 [(AVal.s [])] 1 [((0, 1), .c (.s (wdF W b i)))])) _) _ = _
        simp only [sc, bindP_some, sd, bindO_some, List.length_append, List.length_singleton]
      · have lenS : (S ++ [FM u b (S.getD i 0)]).length = S.length + 1 := by simp
        have hb4 : b4' < hpb.length := g2.lt
        show OIv hpd (S ++ [FM u b (S.getD i 0)]) (W ++ [wdF W b i]) b4' .grow b5' .grow (fun j => if j < S.length then bb j else b9) (fun j => if j < S.length then cc j else .grow)
        refine ⟨by simp [h.hlen], by rw [lenS]; omega, .inl rfl, .inl rfl, ?_, ?_, fun j hj => ?_, fun j hj => ?_, fun j hj => ?_⟩
        · rw [lenS]
          refine (g2.keep (k4 b4' hb4 (g2.ne v5b (by decide)))).congr fun r hr => ?_
          show (if r < S.length then _ else _) = AVal.sl ⟨false, if r < S.length then bb r else b9, 0⟩ 4 (if r < S.length then cc r else .grow)
          by_cases e : r < S.length
          · rw [if_pos e, if_pos e, if_pos e]
          · rw [if_neg e, if_neg e, if_neg e]
        · rw [lenS]
          refine k2.congr fun r hr => ?_
          show (if r < S.length then _ else _) = AVal.s ((W ++ [wdF W b i]).getD r [])
          rw [getD_app, h.hlen]
          by_cases e : r < S.length
          · rw [if_pos e, if_pos e]
          · rw [if_neg e, if_neg e, if_pos (by omega)]
        · rw [lenS] at hj
          show Vec hpd 3 (if j < S.length then bb j else b9) 4 _
          by_cases e : j < S.length
          · rw [if_pos e]
            have hr := h9.rows j e
            have hr2 := hr.keep (g4 (bb j) hr.lt (hr.ne h9.vec4 (by decide)))
            have hr3 := hr2.keep (k4 (bb j) hr2.lt (hr2.ne v5b (by decide)))
            refine hr3.congr fun q hq => ?_
            rw [getD_app, if_pos e]
          · rw [if_neg e]
            have hr := nv.vec
            have hr2 := hr.keep (g4 b9 hr.lt (hr.ne h9.vec4 (by decide)))
            have hr3 := hr2.keep (k4 b9 hr2.lt (hr2.ne v5b (by decide)))
            refine hr3.congr fun q hq => ?_
            rw [getD_app, if_neg e, if_pos (by omega)]
            show AVal.i .i64 ((fwdG u b (S.getD i 0) q : Nat) : Int) = AVal.i .i64 ((nx (m4 (fwdG u b (S.getD i 0))) q : Nat) : Int)
            rw [m4_bit hg1 hq]
        · rw [lenS] at hj
          rw [getD_app]
          by_cases e : j < S.length
          · rw [if_pos e]; exact h.lt16 j e
          · rw [if_neg e, if_pos (by omega)]; exact m4_lt hg1
        · rw [lenS] at hj
          show ((W ++ [wdF W b i]).getD j []).length ≤ _
          rw [lenS, getD_app, h.hlen]
          by_cases e : j < S.length
          · rw [if_pos e]; have := h.wlen j e; omega
          · rw [if_neg e, if_pos (by omega)]
            show (W.getD i [] ++ [UInt8.ofNat (48 + b)]).length ≤ _
            rw [List.length_append]
            show (W.getD i []).length + 1 ≤ _
            omega
end

theorem stepO_len {u b i : Nat} {st st' : St2} (h : stepO u b i st = .inr st') : st'.1.length ≤ st.1.length + 1 ∧ st.1.length ≤ st'.1.length := by
  unfold stepO at h
  cases hF : Nat.beq (FM u b (st.1.getD i 0)) 0 with
  | true => rw [hF] at h; cases h
  | false =>
    rw [hF] at h
    cases hn : newF st.1 (FM u b (st.1.getD i 0)) st.1.length with
    | true => rw [hn] at h; cases h; simp
    | false =>
      rw [hn] at h; cases h
      show st.1.length ≤ st.1.length + 1 ∧ st.1.length ≤ st.1.length
      omega
def outO (r : Option (List UInt8)) (hp : Heap) : Mm ⊕ (List UInt8 × Bool × Mm) := match r with
  | none => .inl ⟨hp, 0, 0⟩
  | some w => .inr (w, true, ⟨hp, 0, 0⟩)
theorem srch_ok {u : Nat} (hu : u < 256) : ∀ (k i : Nat) (st : St2) (r : Option (List UInt8)) (hp : Heap) (b4 : Nat) (cap4 : Cap) (b5 : Nat) (cap5 : Cap) (bb : Nat → Nat) (cc : Nat → Cap), srch u k i st = some r → OIv hp st.1 st.2 b4 cap4 b5 cap5 bb cc → st.1.length + 2 * k ≤ 60 → i ≤ 1000 - k →
    ∃ hp', loopX (fun z : AVal × AVal × Int × Mm => g63_b0 (meansX F1 []) [] u z.1 z.2.1 z.2.2.1 z.2.2.2) (.sl ⟨false, b4, 0⟩ st.1.length cap4, .sl ⟨false, b5, 0⟩ st.1.length cap5, (i : Int), ⟨hp, 0, 0⟩) = some (outO r hp')
  | 0, i, st, r, hp, b4, cap4, b5, cap5, bb, cc, h, _, _, _ => by cases h
  | k + 1, i, st, r, hp, b4, cap4, b5, cap5, bb, cc, h, hI, hN, hik => by
    obtain ⟨S, W⟩ := st
    unfold srch at h
    by_cases hi : i < S.length
    · have hib : Nat.blt i S.length = true := by rw [Nat.blt_eq]; exact hi
      have hlt : decide ((i : Int) < (S.length : Int)) = true := by simp; omega
      rw [hib, cond_true] at h
      simp only at hN
      have hI' : OIv hp S W b4 cap4 b5 cap5 bb cc := hI
      have f0 := b1_ok hI' hu hi (by omega : 0 < 2) (by omega) rfl
      have z0 : ((0 : Nat) : Int) = 0 := rfl
      cases hs0 : stepO u 0 i (S, W) with
      | inl w =>
        rw [hs0] at f0
        obtain ⟨hp1, f0⟩ := f0
        have hr : r = some w := by
          simp only [rndO, hs0] at h
          exact (Option.some.inj h).symm
        subst hr
        refine ⟨hp1, loopX_out ?_⟩
        have l0 : loopX (fun z : AVal × AVal × Int × Mm => g63_b1 (meansX F1 []) [] u i z.1 z.2.1 z.2.2.1 z.2.2.2) (.sl ⟨false, b4, 0⟩ S.length cap4, .sl ⟨false, b5, 0⟩ S.length cap5, 0, ⟨hp, 0, 0⟩) = some (.inr (w, true, ⟨hp1, 0, 0⟩)) := loopX_out f0
        simp only [g63_b0, e_lenS, bindO_some, asI_i, ltI_eq, forceB_eq, hlt, cond_true, meansX_loop, l0, outO]
      | inr st1 =>
        rw [hs0] at f0
        obtain ⟨hp1, b41, cap41, b51, cap51, bb1, cc1, f0, hI1⟩ := f0
        obtain ⟨n1, n2⟩ := stepO_len hs0
        simp only at n1 n2
        obtain ⟨S1, W1⟩ := st1
        simp only at n1 n2 hI1 f0
        have f1 := b1_ok hI1 hu (by omega : i < S1.length) (by omega : 1 < 2) (by omega) rfl
        cases hs1 : stepO u 1 i (S1, W1) with
        | inl w =>
          rw [hs1] at f1
          obtain ⟨hp2, f1⟩ := f1
          have hr : r = some w := by
            simp only [rndO, hs0, hs1] at h
            exact (Option.some.inj h).symm
          subst hr
          refine ⟨hp2, loopX_out ?_⟩
          have l0 : loopX (fun z : AVal × AVal × Int × Mm => g63_b1 (meansX F1 []) [] u i z.1 z.2.1 z.2.2.1 z.2.2.2) (.sl ⟨false, b4, 0⟩ S.length cap4, .sl ⟨false, b5, 0⟩ S.length cap5, 0, ⟨hp, 0, 0⟩) = some (.inr (w, true, ⟨hp2, 0, 0⟩)) :=
            loopX_on (s' := (.sl ⟨false, b41, 0⟩ S1.length cap41, .sl ⟨false, b51, 0⟩ S1.length cap51, ((1 : Nat) : Int), (⟨hp1, 0, 0⟩ : Mm))) f0 (loopX_out f1)
          simp only [g63_b0, e_lenS, bindO_some, asI_i, ltI_eq, forceB_eq, hlt, cond_true, meansX_loop, l0, outO]
        | inr st2 =>
          rw [hs1] at f1
          obtain ⟨hp2, b42, cap42, b52, cap52, bb2, cc2, f1, hI2⟩ := f1
          obtain ⟨n3, n4⟩ := stepO_len hs1
          simp only at n3 n4
          simp only [rndO, hs0, hs1] at h
          obtain ⟨hp', hq⟩ := srch_ok hu k (i + 1) st2 r hp2 b42 cap42 b52 cap52 bb2 cc2 h hI2 (by omega) (by omega)
          refine ⟨hp', loopX_on ?_ hq⟩
          have fe : g63_b1 (meansX F1 []) [] u i (.sl ⟨false, b42, 0⟩ st2.1.length cap42) (.sl ⟨false, b52, 0⟩ st2.1.length cap52) ((2 : Nat) : Int) ⟨hp2, 0, 0⟩ = some (.inr (.inl (.sl ⟨false, b42, 0⟩ st2.1.length cap42, .sl ⟨false, b52, 0⟩ st2.1.length cap52, ⟨hp2, 0, 0⟩))) := by
            have : decide (((2 : Nat) : Int) < 2) = false := rfl
            simp only [g63_b1, ltI_eq, forceB_eq, this, cond_false]
          have l0 : loopX (fun z : AVal × AVal × Int × Mm => g63_b1 (meansX F1 []) [] u i z.1 z.2.1 z.2.2.1 z.2.2.2) (.sl ⟨false, b4, 0⟩ S.length cap4, .sl ⟨false, b5, 0⟩ S.length cap5, 0, ⟨hp, 0, 0⟩) = some (.inl (.sl ⟨false, b42, 0⟩ st2.1.length cap42, .sl ⟨false, b52, 0⟩ st2.1.length cap52, ⟨hp2, 0, 0⟩)) :=
            loopX_on (s' := (.sl ⟨false, b41, 0⟩ S1.length cap41, .sl ⟨false, b51, 0⟩ S1.length cap51, ((1 : Nat) : Int), (⟨hp1, 0, 0⟩ : Mm))) f0
              (loopX_on (s' := (.sl ⟨false, b42, 0⟩ st2.1.length cap42, .sl ⟨false, b52, 0⟩ st2.1.length cap52, ((2 : Nat) : Int), (⟨hp2, 0, 0⟩ : Mm))) f1 (loopX_out fe))
          simp only [g63_b0, e_lenS, bindO_some, asI_i, ltI_eq, forceB_eq, hlt, cond_true, meansX_loop, l0, forceI_eq, wr_next (by omega : i ≤ 1000000)]
    · have hib : Nat.blt i S.length = false := by rw [← Bool.not_eq_true, Nat.blt_eq]; exact hi
      have hlt : decide ((i : Int) < (S.length : Int)) = false := by simp; omega
      rw [hib, cond_false] at h
      have hr : r = none := (Option.some.inj h).symm
      subst hr
      refine ⟨hp, loopX_out ?_⟩
      simp only [g63_b0, e_lenS, bindO_some, asI_i, ltI_eq, forceB_eq, hlt, cond_false, outO]

/-- what the reference's orphan answers -/
theorem rorphan_ok {n : Nat} (hn : n < 256) : callX F1 [] 63 [.i .i64 n] [] = some (.tup [.s (orphT n), .b (!(orphT n).isEmpty)], [], 0, 0) := by
  refine g63_ok (meansX_ok F1 []) rfl ?_
  unfold g63
  have s1 : stepM [] ⟨[], 0, 0⟩ (.bsl 3 1 [(AVal.i IntKind.i64 0)] 4 [((0, 1), .c (.i .i64 1)), ((1, 1), .c (.i .i64 1)), ((2, 1), .c (.i .i64 1)), ((3, 1), .c (.i .i64 1))]) = some (.sl ⟨false, 0, 0⟩ 4 (.known 4), ⟨[some (blkOf 3 [.i .i64 1, .i .i64 1, .i .i64 1, .i .i64 1])], 0, 0⟩) := by
    simp [stepM, stepK, st_bsl, rep, fillA, opd, AVal.cells, splice, newB, St.mm]
  have s2 : stepM [] ⟨[some (blkOf 3 [.i .i64 1, .i .i64 1, .i .i64 1, .i .i64 1])], 0, 0⟩ (.bsl 55 1 [AVal.nsl] 1 [((0, 1), .c (.sl ⟨false, 0, 0⟩ 4 (.known 4)))]) = some (.sl ⟨false, 1, 0⟩ 1 (.known 1), ⟨[some (blkOf 3 [.i .i64 1, .i .i64 1, .i .i64 1, .i .i64 1]), some (blkOf 55 [.sl ⟨false, 0, 0⟩ 4 (.known 4)])], 0, 0⟩) := by
    simp [stepM, stepK, st_bsl, rep, fillA, opd, AVal.cells, splice, newB, St.mm]
  have s3 : stepM [] ⟨[some (blkOf 3 [.i .i64 1, .i .i64 1, .i .i64 1, .i .i64 1]), some (blkOf 55 [.sl ⟨false, 0, 0⟩ 4 (.known 4)])], 0, 0⟩ (.bsl 9 1 [(AVal.s [])] 1 [((0, 1), .c (AVal.s []))]) = some (.sl ⟨false, 2, 0⟩ 1 (.known 1), ⟨[some (blkOf 3 [.i .i64 1, .i .i64 1, .i .i64 1, .i .i64 1]), some (blkOf 55 [.sl ⟨false, 0, 0⟩ 4 (.known 4)]), some (blkOf 9 [.s []])], 0, 0⟩) := by
    simp [stepM, stepK, st_bsl, rep, fillA, opd, AVal.cells, splice, newB, St.mm]
  have hI : OIv [some (blkOf 3 [.i .i64 1, .i .i64 1, .i .i64 1, .i .i64 1]), some (blkOf 55 [.sl ⟨false, 0, 0⟩ 4 (.known 4)]), some (blkOf 9 [.s []])] [15] [[]] 1 (.known 1) 2 (.known 1) (fun _ => 0) (fun _ => .known 4) := by
    refine ⟨rfl, by decide, .inr rfl, .inr rfl, ⟨_, rfl, rfl, Nat.le_refl 1, fun r hr => ?_⟩, ⟨_, rfl, rfl, Nat.le_refl 1, fun r hr => ?_⟩, fun i hi => ⟨_, rfl, rfl, Nat.le_refl 4, fun r hr => ?_⟩, fun i hi => ?_, fun i hi => ?_⟩
    · rw [get_blk]; have hr' : r < 1 := hr; rcases (by omega : r = 0) with rfl; rfl
    · rw [get_blk]; have hr' : r < 1 := hr; rcases (by omega : r = 0) with rfl; rfl
    · have hi' : i < 1 := hi
      rcases (by omega : i = 0) with rfl
      rw [get_blk]
      rcases (by omega : r = 0 ∨ r = 1 ∨ r = 2 ∨ r = 3) with rfl | rfl | rfl | rfl <;> rfl
    · have hi' : i < 1 := hi
      rcases (by omega : i = 0) with rfl; decide
    · have hi' : i < 1 := hi
      rcases (by omega : i = 0) with rfl; decide
  have hc := chkO_all hn
  unfold chkO at hc
  cases hs : srch n 20 0 ([15], [[]]) with
  | none => rw [hs] at hc; cases hc
  | some r =>
    rw [hs] at hc
    obtain ⟨hp', hq⟩ := srch_ok hn 20 0 ([15], [[]]) r _ 1 (.known 1) 2 (.known 1) _ _ hs hI (by decide) (by decide)
    have e0 : ((0 : Nat) : Int) = 0 := rfl
    rw [e0] at hq
    have hq' : loopX (fun z : AVal × AVal × Int × Mm => g63_b0 (meansX F1 []) [] n z.1 z.2.1 z.2.2.1 z.2.2.2) (.sl ⟨false, 1, 0⟩ 1 (.known 1), .sl ⟨false, 2, 0⟩ 1 (.known 1), 0, ⟨[some (blkOf 3 [.i .i64 1, .i .i64 1, .i .i64 1, .i .i64 1]), some (blkOf 55 [.sl ⟨false, 0, 0⟩ 4 (.known 4)]), some (blkOf 9 [.s []])], 0, 0⟩) = some (outO r hp') := hq
    show bindP (stepM [] ⟨[], 0, 0⟩ _) _ = _
    rw [s1]
    simp only [bindP_some]
    rw [s2]
    simp only [bindP_some]
    rw [s3]
    simp only [bindP_some, meansX_loop]
    rw [hq']
    cases r with
    | none =>
      have he : (orphT n).isEmpty = true := hc
      have hw : orphT n = [] := List.isEmpty_iff.1 he
      rw [hw]
      simp only [bindO_some, outO, tupA]
      show finM 0 _ ⟨hp', 0, 0⟩ = _
      rw [fin_take (by rfl)]
      rfl
    | some w =>
      simp only [Bool.and_eq_true, eqL_eq] at hc
      obtain ⟨h1, h2⟩ := hc
      have hw : w = orphT n := eq_of_beq h1
      subst hw
      rw [h2]
      simp only [bindO_some, outO, tupA]
      show finM 0 _ ⟨hp', 0, 0⟩ = _
      rw [fin_take (by rfl)]
      rfl
end Go.Proofs.Ytgbkicelkpagpaa.W

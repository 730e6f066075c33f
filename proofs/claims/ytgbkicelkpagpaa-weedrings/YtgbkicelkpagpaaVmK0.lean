/- Contracts of the functions: what each of them answers. -/
import Derived.Test.YtgbkicelkpagpaaVmGt
import Derived.Test.YtgbkicelkpagpaaVmAF
import Derived.Test.YtgbkicelkpagpaaVmFO
import Derived.Test.YtgbkicelkpagpaaRows
import Derived.WalkKit
import Derived.ProofKit
import Derived.OpenShut
import Derived.Carry
import Derived.Below
import Derived.Deep.Matrix
import Derived.Test.YtgbkicelkpagpaaVmAG
/- From the statement to the small machine, for numbers as arguments; readings of a rule. -/
open Go.Vm
set_option linter.unusedVariables false
namespace Go.Proofs.Ytgbkicelkpagpaa.W
open Go Go.RowKit Go.Deep Go.WideShapes Go.ChangeShapes

abbrev F1 : Tab := ⟨F, known0 15 (.b true)⟩
theorem own : ownKnob Try.prog.godebug = none := by kernel_rfl
theorem env_ok {W : World} {ro : List ABlk} {rl : Rl} (h : ∀ (i : Nat) (b : ABlk), ro[i]? = some b → ∃ x, rl[i]? = some x ∧ ∀ j, j < b.n → x.block < W.heap.size ∧ ∃ v', W.cell? (x.add j) = some v' ∧ VR rl [] (b.c.get j) v') :
    (Env.mk Try.prog W.heap.size W ro rl).Ok := ⟨fun i b hb => h i b hb, Nat.le_refl _⟩
theorem alive_any {ro : List ABlk} {h : Heap} : callX F1 ro 15 [] h = some (.b true, h, h.length, h.length) := callX_ov (by rfl)

theorem all_16 {P : Nat → Bool} {j : Nat} (h : ((List.range 16).all fun i => P (16 * j + i)) = true) {n : Nat} (h1 : 16 * j ≤ n) (h2 : n < 16 * j + 16) : P n = true := by
  have := List.all_eq_true.1 h (n - 16 * j) (List.mem_range.2 (by omega))
  rwa [show 16 * j + (n - 16 * j) = n by omega] at this

/- a number that is no rule -/
theorem read_not {ro : List ABlk} {h : Heap} {n : Int} (hn : n < 0 ∨ 255 < n) : callX F1 ro 61 [.i .i64 n] h = some (.tup [.i .u8 0, .i .i64 2], h, h.length, h.length) := by
  refine g61_ok (meansX_ok F1 ro) rfl ?_
  unfold g61
  simp only [forceB_eq, ltI_eq]
  by_cases e : n < 0
  · simp only [decide_eq_true e, cond_true, bindO_some, tupA]
    exact fin_pure rfl
  · have e2 : 255 < n := by omega
    simp only [decide_eq_false e, decide_eq_true e2, cond_false, cond_true, bindO_some, tupA]
    exact fin_pure rfl
theorem u8_nat {n : Int} (h : (Lit.int .u8 n).wf = true) : ∃ k : Nat, n = (k : Int) ∧ k < 256 := by
  have := bounds_u8 h
  exact ⟨n.toNat, by omega, by omega⟩
end Go.Proofs.Ytgbkicelkpagpaa.W

/- The rule's small functions. -/
open Go.Vm
set_option linter.unusedVariables false
namespace Go.Proofs.Ytgbkicelkpagpaa.W
open Go

/-- the bit of a rule -/
def nx (u t : Nat) : Nat := (u >>> t) % 2
theorem nx_le (u t : Nat) : nx u t ≤ 1 := by unfold nx; omega
theorem next_num : ∀ u, u < 256 → ∀ t, t < 8 → bitV .and .i64 (wr .i64 (shrV .u8 (Int.ofNat u) (Int.ofNat t))) 1 = Int.ofNat (nx u t) := by decide +kernel
theorem next_ok {ro : List ABlk} {h : Heap} {u t : Nat} (hu : u < 256) (ht : t < 8) : callX F1 ro 72 [.i .u8 u, .i .i64 t] h = some (.i .i64 (nx u t : Nat), h, h.length, h.length) := by
  refine g72_ok (meansX_ok F1 ro) rfl ?_
  unfold g72
  have e := next_num u hu t ht
  have e' : bitV .and .i64 (wr .i64 (shrV .u8 (u : Int) (t : Int))) 1 = ((nx u t : Nat) : Int) := e
  simp only [ltI_eq, nneg, chk_true, forceI_eq, e', tupA]
  exact fin_pure rfl
theorem has_num : ∀ s, s < 256 → ∀ t, t < 8 → eqI (bitV .and .u8 (shrV .u8 (Int.ofNat s) (Int.ofNat t)) 1) 1 = Nat.testBit s t := by decide +kernel
theorem has_ok {ro : List ABlk} {h : Heap} {s t : Nat} (hs : s < 256) (ht : t < 8) : callX F1 ro 76 [.i .u8 s, .i .i64 t] h = some (.b (s.testBit t), h, h.length, h.length) := by
  refine g76_ok (meansX_ok F1 ro) rfl ?_
  unfold g76
  have e := has_num s hs t ht
  have e' : eqI (bitV .and .u8 (shrV .u8 (s : Int) (t : Int)) 1) 1 = s.testBit t := e
  simp only [ltI_eq, nneg, chk_true, forceI_eq, e', forceB_eq, tupA]
  exact fin_pure rfl

theorem sm_num : ∀ t, t < 8 → shrV .i64 (Int.ofNat t) 1 = Int.ofNat (t / 2) ∧ bitV .and .i64 (Int.ofNat t) 3 = Int.ofNat (t % 4) := by decide +kernel
theorem p2_lt {k : Nat} (h : k < 8) : 2 ^ k < 256 := by
  have : 2 ^ k ≤ 2 ^ 7 := Nat.pow_le_pow_right (by omega) (by omega)
  omega
def ahF (u s c i acc : Nat) : Nat := cond (s.testBit (i / 2) && Nat.beq (nx u i) c) (acc ||| 2 ^ (i % 4)) acc
def ahV (u s c : Nat) : Nat := iterF (ahF u s c) 8 0 0
theorem ahead_ok {ro : List ABlk} {h : Heap} {u s c : Nat} (hu : u < 256) (hs : s < 256) : callX F1 ro 78 [.i .u8 u, .i .u8 s, .i .i64 c] h = some (.i .u8 (ahV u s c : Nat), h, h.length, h.length) := by
  refine g78_ok (meansX_ok F1 ro) rfl ?_
  unfold g78
  have hl := loop_acc (b := fun z => g78_b0 (meansX F1 ro) ro u s c z.1 z.2.1 z.2.2) 8 (ahF u s c) ⟨h, h.length, h.length⟩ (fun acc => acc < 256) (fun i acc hi hP => by
    obtain ⟨e1, e2⟩ := sm_num i hi
    have e1' : shrV .i64 (i : Int) 1 = ((i / 2 : Nat) : Int) := e1
    have e2' : bitV .and .i64 (i : Int) 3 = ((i % 4 : Nat) : Int) := e2
    have c1 := callM_pure (call := callX F1 ro) (l := h.length) (p := h.length) (has_ok (ro := ro) (h := h) hs (by omega : i / 2 < 8)) (Nat.le_refl _) (Nat.le_refl _)
    have c2 := callM_pure (call := callX F1 ro) (l := h.length) (p := h.length) (next_ok (ro := ro) (h := h) hu hi) (Nat.le_refl _) (Nat.le_refl _)
    have e3 : (((nx u i : Nat) : Int) == (c : Int)) = Nat.beq (nx u i) c := by
      cases hb : Nat.beq (nx u i) c
      · exact beq_eq_false_iff_ne.2 fun e => by
          have : Nat.beq (nx u i) c = true := beq_iff.2 (by omega)
          rw [this] at hb; cases hb
      · rw [beq_iff.1 hb]; simp
    have hl8 : decide ((i : Int) < 8) = true := by simp; omega
    have hor := bit_or hP (p2_lt (by omega : i % 4 < 8))
    have hlt := or_lt hP (p2_lt (by omega : i % 4 < 8))
    unfold ahF
    cases hb : s.testBit (i / 2) with
    | false =>
      rw [hb] at c1
      refine ⟨?_, by simpa using hP⟩
      simp only [g78_b0, forceB_eq, ltI_eq, hl8, cond_true, e1', forceI_eq, meansX_call, c1, bindP_some, asB_b, cond_false, bindO_some, wr_next (by omega : i ≤ 1000000), Bool.false_and]
    | true =>
      rw [hb] at c1
      cases hn : Nat.beq (nx u i) c with
      | false =>
        rw [hn] at e3
        refine ⟨?_, by simpa using hP⟩
        simp only [g78_b0, forceB_eq, ltI_eq, hl8, cond_true, e1', forceI_eq, meansX_call, c1, c2, bindP_some, asB_b, asI_i, eqI_eq, e3, cond_false, bindO_some, wr_next (by omega : i ≤ 1000000), Bool.true_and]
      | true =>
        rw [hn] at e3
        refine ⟨?_, by simpa using hlt⟩
        simp only [g78_b0, forceB_eq, ltI_eq, hl8, cond_true, e1', e2', forceI_eq, meansX_call, c1, c2, bindP_some, asB_b, asI_i, eqI_eq, e3, nneg, chk_true, shl_any (by omega : i % 4 ≤ 7), hor, bindO_some, wr_next (by omega : i ≤ 1000000), Bool.true_and]) (fun acc => by
    have : decide ((8 : Int) < 8) = false := rfl
    show g78_b0 (meansX F1 ro) ro u s c acc 8 _ = _
    simp only [g78_b0, forceB_eq, ltI_eq, this, cond_false]) 8 0 0 (by omega) (by omega)
  have hl2 := hl.1
  have e0 : ((0 : Nat) : Int) = 0 := rfl
  rw [e0] at hl2
  simp only [meansX_loop, hl2, bindO_some, tupA]
  exact fin_pure rfl
def beF (u s c i acc : Nat) : Nat := cond (s.testBit (i % 4) && Nat.beq (nx u i) c) (acc ||| 2 ^ (i / 2)) acc
def beV (u s c : Nat) : Nat := iterF (beF u s c) 8 0 0
theorem behind_ok {ro : List ABlk} {h : Heap} {u s c : Nat} (hu : u < 256) (hs : s < 256) : callX F1 ro 74 [.i .u8 u, .i .u8 s, .i .i64 c] h = some (.i .u8 (beV u s c : Nat), h, h.length, h.length) := by
  refine g74_ok (meansX_ok F1 ro) rfl ?_
  unfold g74
  have hl := loop_acc (b := fun z => g74_b0 (meansX F1 ro) ro u s c z.1 z.2.1 z.2.2) 8 (beF u s c) ⟨h, h.length, h.length⟩ (fun acc => acc < 256) (fun i acc hi hP => by
    obtain ⟨e1, e2⟩ := sm_num i hi
    have e1' : shrV .i64 (i : Int) 1 = ((i / 2 : Nat) : Int) := e1
    have e2' : bitV .and .i64 (i : Int) 3 = ((i % 4 : Nat) : Int) := e2
    have c1 := callM_pure (call := callX F1 ro) (l := h.length) (p := h.length) (has_ok (ro := ro) (h := h) hs (by omega : i % 4 < 8)) (Nat.le_refl _) (Nat.le_refl _)
    have c2 := callM_pure (call := callX F1 ro) (l := h.length) (p := h.length) (next_ok (ro := ro) (h := h) hu hi) (Nat.le_refl _) (Nat.le_refl _)
    have e3 : (((nx u i : Nat) : Int) == (c : Int)) = Nat.beq (nx u i) c := by
      cases hb : Nat.beq (nx u i) c
      · exact beq_eq_false_iff_ne.2 fun e => by
          have : Nat.beq (nx u i) c = true := beq_iff.2 (by omega)
          rw [this] at hb; cases hb
      · rw [beq_iff.1 hb]; simp
    have hl8 : decide ((i : Int) < 8) = true := by simp; omega
    have hor := bit_or hP (p2_lt (by omega : i / 2 < 8))
    have hlt := or_lt hP (p2_lt (by omega : i / 2 < 8))
    unfold beF
    cases hb : s.testBit (i % 4) with
    | false =>
      rw [hb] at c1
      refine ⟨?_, by simpa using hP⟩
      simp only [g74_b0, forceB_eq, ltI_eq, hl8, cond_true, e2', forceI_eq, meansX_call, c1, bindP_some, asB_b, cond_false, bindO_some, wr_next (by omega : i ≤ 1000000), Bool.false_and]
    | true =>
      rw [hb] at c1
      cases hn : Nat.beq (nx u i) c with
      | false =>
        rw [hn] at e3
        refine ⟨?_, by simpa using hP⟩
        simp only [g74_b0, forceB_eq, ltI_eq, hl8, cond_true, e2', forceI_eq, meansX_call, c1, c2, bindP_some, asB_b, asI_i, eqI_eq, e3, cond_false, bindO_some, wr_next (by omega : i ≤ 1000000), Bool.true_and]
      | true =>
        rw [hn] at e3
        refine ⟨?_, by simpa using hlt⟩
        simp only [g74_b0, forceB_eq, ltI_eq, hl8, cond_true, e1', e2', forceI_eq, meansX_call, c1, c2, bindP_some, asB_b, asI_i, eqI_eq, e3, nneg, chk_true, shl_any (by omega : i / 2 ≤ 7), hor, bindO_some, wr_next (by omega : i ≤ 1000000), Bool.true_and]) (fun acc => by
    have : decide ((8 : Int) < 8) = false := rfl
    show g74_b0 (meansX F1 ro) ro u s c acc 8 _ = _
    simp only [g74_b0, forceB_eq, ltI_eq, this, cond_false]) 8 0 0 (by omega) (by omega)
  have hl2 := hl.1
  have e0 : ((0 : Nat) : Int) = 0 := rfl
  rw [e0] at hl2
  simp only [meansX_loop, hl2, bindO_some, tupA]
  exact fin_pure rfl

/- sixteen bits -/
theorem bv16 {x : Nat} (hx : x < 65536) : (BitVec.ofInt IntKind.u16.bits (x : Int)).toNat = x := by
  show (BitVec.ofInt 16 (x : Int)).toNat = x
  rw [BitVec.ofInt_natCast, BitVec.toNat_ofNat]
  exact Nat.mod_eq_of_lt hx
theorem wrap16 {x : Nat} (hx : x < 65536) : IntKind.u16.wrap (x : Int) = (x : Int) := by
  simp [IntKind.wrap, IntKind.signed, IntKind.bits]
  omega
theorem or16 {a c : Nat} (ha : a < 65536) (hc : c < 65536) : bitV .or .u16 a c = ((a ||| c : Nat) : Int) := by
  have h : a ||| c < 65536 := Nat.or_lt_two_pow (n := 16) ha hc
  have e : (BitVec.ofInt IntKind.u16.bits (a : Int) ||| BitVec.ofInt IntKind.u16.bits (c : Int)).toNat = a ||| c := by rw [BitVec.toNat_or, bv16 ha, bv16 hc]
  unfold bitV
  simp only [Vm.bits, bitsS, e, mkI_eq, wrap16 h, numA]
theorem and16 {a c : Nat} (ha : a < 65536) (hc : c < 65536) : bitV .and .u16 a c = ((a &&& c : Nat) : Int) := by
  have h : a &&& c < 65536 := Nat.lt_of_le_of_lt Nat.and_le_left ha
  have e : (BitVec.ofInt IntKind.u16.bits (a : Int) &&& BitVec.ofInt IntKind.u16.bits (c : Int)).toNat = a &&& c := by rw [BitVec.toNat_and, bv16 ha, bv16 hc]
  unfold bitV
  simp only [Vm.bits, bitsS, e, mkI_eq, wrap16 h, numA]
theorem la_num : ∀ a, a < 8 → ∀ b, b < 8 → bitV .or .i64 (shlV .i64 (shrV .i64 (Int.ofNat a) 1) 2) (shrV .i64 (Int.ofNat b) 1) = Int.ofNat (a / 2 * 4 + b / 2) ∧
    bitV .or .i64 (shlV .i64 (bitV .and .i64 (Int.ofNat a) 3) 2) (bitV .and .i64 (Int.ofNat b) 3) = Int.ofNat (a % 4 * 4 + b % 4) := by decide +kernel
theorem sh_num : ∀ k, k < 16 → shlV .u16 1 (Int.ofNat k) = Int.ofNat (2 ^ k) := by decide +kernel
def laF (u s a b : Nat) (acc : Nat × Nat) : Nat × Nat :=
  cond (Nat.beq (nx u a) (nx u b) && (s.testBit (a / 2 * 4 + b / 2) && s.testBit (a % 4 * 4 + b % 4))) (acc.1 ||| 2 ^ (a / 2 * 4 + b / 2), acc.2 ||| 2 ^ (a % 4 * 4 + b % 4)) acc
def laG (u s a : Nat) (acc : Nat × Nat) : Nat × Nat := iterG (laF u s a) 8 0 acc
def laV (u s : Nat) : Nat := s &&& (iterG (laG u s) 8 0 (0, 0)).1 &&& (iterG (laG u s) 8 0 (0, 0)).2
theorem p16_lt {k : Nat} (h : k < 16) : 2 ^ k < 65536 := by
  have : 2 ^ k ≤ 2 ^ 15 := Nat.pow_le_pow_right (by omega) (by omega)
  omega
theorem and_p {s k : Nat} (hs : s < 65536) (hk : k < 16) : (!eqI (bitV .and .u16 (s : Int) ((2 ^ k : Nat) : Int)) 0) = s.testBit k := by
  rw [and16 hs (p16_lt hk), eqI_eq]
  cases hb : s.testBit k with
  | false =>
    have : s &&& 2 ^ k = 0 := by
      apply Nat.eq_of_testBit_eq
      intro i
      rw [Nat.testBit_and, Nat.testBit_two_pow, Nat.zero_testBit]
      by_cases e : k = i
      · subst e; rw [hb]; rfl
      · rw [decide_eq_false e, Bool.and_false]
    rw [this]; rfl
  | true =>
    have : s &&& 2 ^ k ≠ 0 := fun e => by
      have h2 : (s &&& 2 ^ k).testBit k = true := by rw [Nat.testBit_and, Nat.testBit_two_pow, hb]; simp
      rw [e, Nat.zero_testBit] at h2; cases h2
    have e : (((s &&& 2 ^ k : Nat) : Int) == 0) = false := beq_eq_false_iff_ne.2 (by omega)
    rw [e]; rfl
theorem lasting_ok {ro : List ABlk} {h : Heap} {u s : Nat} (hu : u < 256) (hs : s < 65536) : callX F1 ro 79 [.i .u8 u, .i .u16 s] h = some (.i .u16 (laV u s : Nat), h, h.length, h.length) := by
  refine g79_ok (meansX_ok F1 ro) rfl ?_
  unfold g79
  have e0 : ((0 : Nat) : Int) = 0 := rfl
  have inner : ∀ (a : Nat) (acc : Nat × Nat), a < 8 → acc.1 < 65536 ∧ acc.2 < 65536 → loopX (fun z => g79_b1 (meansX F1 ro) ro u s a z.1 z.2.1 z.2.2.1 z.2.2.2) ((acc.1 : Int), (acc.2 : Int), (0 : Int), (⟨h, h.length, h.length⟩ : Mm)) = some ((((laG u s a acc).1 : Nat) : Int), (((laG u s a acc).2 : Nat) : Int), ⟨h, h.length, h.length⟩) ∧ ((laG u s a acc).1 < 65536 ∧ (laG u s a acc).2 < 65536) := by
    intro a acc ha hP
    have hl := loop_acc2 (b := fun z => g79_b1 (meansX F1 ro) ro u s a z.1 z.2.1 z.2.2.1 z.2.2.2) 8 (laF u s a) ⟨h, h.length, h.length⟩ (fun acc => acc.1 < 65536 ∧ acc.2 < 65536) (fun b acc hb hP => by
      obtain ⟨e1, e2⟩ := la_num a ha b hb
      have e1' : bitV .or .i64 (shlV .i64 (shrV .i64 (a : Int) 1) 2) (shrV .i64 (b : Int) 1) = ((a / 2 * 4 + b / 2 : Nat) : Int) := e1
      have e2' : bitV .or .i64 (shlV .i64 (bitV .and .i64 (a : Int) 3) 2) (bitV .and .i64 (b : Int) 3) = ((a % 4 * 4 + b % 4 : Nat) : Int) := e2
      have k1 : a / 2 * 4 + b / 2 < 16 := by omega
      have k2 : a % 4 * 4 + b % 4 < 16 := by omega
      have s1 : shlV .u16 1 ((a / 2 * 4 + b / 2 : Nat) : Int) = ((2 ^ (a / 2 * 4 + b / 2) : Nat) : Int) := sh_num _ k1
      have s2 : shlV .u16 1 ((a % 4 * 4 + b % 4 : Nat) : Int) = ((2 ^ (a % 4 * 4 + b % 4) : Nat) : Int) := sh_num _ k2
      have c1 := callM_pure (call := callX F1 ro) (l := h.length) (p := h.length) (next_ok (ro := ro) (h := h) hu ha) (Nat.le_refl _) (Nat.le_refl _)
      have c2 := callM_pure (call := callX F1 ro) (l := h.length) (p := h.length) (next_ok (ro := ro) (h := h) hu hb) (Nat.le_refl _) (Nat.le_refl _)
      have e3 : (((nx u a : Nat) : Int) == ((nx u b : Nat) : Int)) = Nat.beq (nx u a) (nx u b) := by
        cases hb : Nat.beq (nx u a) (nx u b)
        · exact beq_eq_false_iff_ne.2 fun e => by
            have : Nat.beq (nx u a) (nx u b) = true := beq_iff.2 (by omega)
            rw [this] at hb; cases hb
        · rw [beq_iff.1 hb]; simp
      have hl8 : decide ((b : Int) < 8) = true := by simp; omega
      have t1 := and_p hs k1
      have t2 := and_p hs k2
      rw [eqI_eq] at t1 t2
      have o1 := or16 hP.1 (p16_lt k1)
      have o2 := or16 hP.2 (p16_lt k2)
      have l1 : acc.1 ||| 2 ^ (a / 2 * 4 + b / 2) < 65536 := Nat.or_lt_two_pow (n := 16) hP.1 (p16_lt k1)
      have l2 : acc.2 ||| 2 ^ (a % 4 * 4 + b % 4) < 65536 := Nat.or_lt_two_pow (n := 16) hP.2 (p16_lt k2)
      unfold laF
      cases hn : Nat.beq (nx u a) (nx u b) with
      | false =>
        rw [hn] at e3
        refine ⟨?_, by simpa using hP⟩
        simp only [g79_b1, forceB_eq, ltI_eq, hl8, cond_true, forceI_eq, e1', e2', nneg, chk_true, s1, s2, meansX_call, c1, c2, bindP_some, asI_i, eqI_eq, e3, cond_false, bindO_some, wr_next (by omega : b ≤ 1000000), Bool.false_and]
      | true =>
        rw [hn] at e3
        cases h1 : s.testBit (a / 2 * 4 + b / 2) with
        | false =>
          rw [h1] at t1
          refine ⟨?_, by simpa using hP⟩
          simp only [g79_b1, forceB_eq, ltI_eq, hl8, cond_true, forceI_eq, e1', e2', nneg, chk_true, s1, s2, meansX_call, c1, c2, bindP_some, asI_i, eqI_eq, e3, t1, cond_false, bindO_some, wr_next (by omega : b ≤ 1000000), Bool.false_and, Bool.true_and]
        | true =>
          rw [h1] at t1
          cases h2 : s.testBit (a % 4 * 4 + b % 4) with
          | false =>
            rw [h2] at t2
            refine ⟨?_, by simpa using hP⟩
            simp only [g79_b1, forceB_eq, ltI_eq, hl8, cond_true, forceI_eq, e1', e2', nneg, chk_true, s1, s2, meansX_call, c1, c2, bindP_some, asI_i, eqI_eq, e3, t1, t2, cond_false, bindO_some, wr_next (by omega : b ≤ 1000000), Bool.false_and, Bool.true_and]
          | true =>
            rw [h2] at t2
            refine ⟨?_, by simpa using And.intro l1 l2⟩
            simp only [g79_b1, forceB_eq, ltI_eq, hl8, cond_true, forceI_eq, e1', e2', nneg, chk_true, s1, s2, meansX_call, c1, c2, bindP_some, asI_i, eqI_eq, e3, t1, t2, o1, o2, bindO_some, wr_next (by omega : b ≤ 1000000), Bool.true_and]) (fun x y => by
      have : decide ((8 : Int) < 8) = false := rfl
      show g79_b1 (meansX F1 ro) ro u s a x y 8 _ = _
      simp only [g79_b1, forceB_eq, ltI_eq, this, cond_false]) 8 0 acc (by omega) hP
    exact hl
  have hl := loop_acc2 (b := fun z => g79_b0 (meansX F1 ro) ro u s z.1 z.2.1 z.2.2.1 z.2.2.2) 8 (laG u s) ⟨h, h.length, h.length⟩ (fun acc => acc.1 < 65536 ∧ acc.2 < 65536) (fun a acc ha hP => by
    obtain ⟨i1, i2⟩ := inner a acc ha hP
    have hl8 : decide ((a : Int) < 8) = true := by simp; omega
    refine ⟨?_, i2⟩
    simp only [g79_b0, forceB_eq, ltI_eq, hl8, cond_true, meansX_loop, i1, bindO_some, forceI_eq, wr_next (by omega : a ≤ 1000000)]) (fun x y => by
    have : decide ((8 : Int) < 8) = false := rfl
    show g79_b0 (meansX F1 ro) ro u s x y 8 _ = _
    simp only [g79_b0, forceB_eq, ltI_eq, this, cond_false]) 8 0 (0, 0) (by omega) ⟨by omega, by omega⟩
  obtain ⟨h1, h2, h3⟩ := hl
  simp only [e0] at h1
  have a1 := and16 hs h2
  have a1l : s &&& (iterG (laG u s) 8 0 (0, 0)).1 < 65536 := Nat.lt_of_le_of_lt Nat.and_le_left hs
  have a2 := and16 a1l h3
  simp only [meansX_loop, h1, bindO_some, forceI_eq, a1, a2, tupA]
  exact fin_pure rfl
end Go.Proofs.Ytgbkicelkpagpaa.W

/- Tables: the orphan of each rule, and whether it is one to one; reckoned. -/
open Go.Vm
set_option linter.unusedVariables false
namespace Go.Proofs.Ytgbkicelkpagpaa.W
open Go

/-- the small functions, known by their numbers -/
def leafO : Caller := fun f a h => match a with
  | [.i .u8 (.ofNat u), .i .u8 (.ofNat s), .i .i64 (.ofNat c)] => cond (Nat.blt u 256 && Nat.blt s 256)
      (cond (Nat.beq f 78) (some (.i .u8 (.ofNat (ahV u s c)), h, h.length, h.length)) (cond (Nat.beq f 74) (some (.i .u8 (.ofNat (beV u s c)), h, h.length, h.length)) none)) none
  | [.i .u8 (.ofNat u), .i .u16 (.ofNat s)] => cond (Nat.beq f 79 && (Nat.blt u 256 && Nat.blt s 65536)) (some (.i .u16 (.ofNat (laV u s)), h, h.length, h.length)) none
  | [] => cond (Nat.beq f 15) (some (.b true, h, h.length, h.length)) none
  | _ => none
theorem leaf_le {ro : List ABlk} {f : Nat} {a : List AVal} {h : Heap} {r : AVal × Heap × Nat × Nat} (e : leafO f a h = some r) : callX F1 ro f a h = some r := by
  unfold leafO at e
  split at e
  · rename_i u s c
    cases hc : (Nat.blt u 256 && Nat.blt s 256) with
    | false => rw [hc] at e; cases e
    | true =>
      rw [hc] at e
      rw [Bool.and_eq_true, Nat.blt_eq, Nat.blt_eq] at hc
      cases h1 : Nat.beq f 78 with
      | true =>
        rw [h1] at e
        cases e
        rw [beq_iff.1 h1]
        exact ahead_ok hc.1 hc.2
      | false =>
        rw [h1] at e
        cases h2 : Nat.beq f 74 with
        | true =>
          rw [h2] at e
          cases e
          rw [beq_iff.1 h2]
          exact behind_ok hc.1 hc.2
        | false => rw [h2] at e; cases e
  · rename_i u s
    cases hc : (Nat.beq f 79 && (Nat.blt u 256 && Nat.blt s 65536)) with
    | false => rw [hc] at e; cases e
    | true =>
      rw [hc] at e
      rw [Bool.and_eq_true, Bool.and_eq_true, Nat.blt_eq, Nat.blt_eq] at hc
      cases e
      rw [beq_iff.1 hc.1]
      exact lasting_ok hc.2.1 hc.2.2
  · cases hc : Nat.beq f 15 with
    | false => rw [hc] at e; cases e
    | true =>
      rw [hc] at e
      cases e
      rw [beq_iff.1 hc]
      exact alive_any
  · cases e
abbrev F2 : Tab := ⟨F, leafO⟩
abbrev Rk2 (n : Nat) : Means := meansS [] leafO n

def orphL : List (List UInt8) := [[49], [49, 48, 49], [49, 49], [49, 48, 49], [49, 49], [49, 48, 48, 48, 49], [49, 49, 49], [49, 48, 48, 49], [49, 49], [49, 48, 49, 49], [49, 48, 49], [49, 48, 49], [49, 49], [49, 49, 48, 48], [49, 49, 49], [], [49, 49], [49, 48, 49], [49, 49, 49], [48, 49, 48], [49, 49, 49], [49, 48, 48, 49], [49, 48, 48, 49, 48, 49, 48, 49], [48, 49, 48, 48, 49], [49, 49], [49, 49, 48, 49, 49], [49, 49, 49, 49], [49, 48, 49, 48], [49, 49, 49], [49, 49, 48, 48], [], [48, 49, 49, 48], [49, 49], [49, 48, 49, 49], [49, 49], [49, 48, 49, 49], [49, 48, 49], [49, 48, 48, 49, 48, 49, 48, 48, 49], [48, 49, 48, 49], [48, 49, 48, 49], [49, 49, 49], [49, 48, 49, 49, 49], [49, 49, 49], [48, 49, 48, 48, 48], [49, 48, 49, 48], [], [48, 49, 48], [48, 49, 48], [49, 49], [49, 49, 48, 49], [49, 49, 49], [], [49, 48, 49, 48], [49, 48, 49, 48], [48, 49, 49, 48, 49], [49, 48, 49], [49, 49, 49], [48, 48, 49, 48, 48, 48], [49, 49, 49, 49], [48, 49, 48, 48], [], [48, 48, 49, 48, 48], [48, 49, 48, 49, 48], [48, 49, 48], [49, 49], [49, 49, 48, 49], [49, 49], [49, 49, 48, 49, 49], [49, 49], [48, 48, 49, 49], [49, 49, 49], [48, 48, 49, 49], [49, 49, 49], [49, 48, 48, 49, 49, 49], [49, 49, 49, 49], [], [49, 49, 49], [48, 48, 48, 49, 49], [49, 49, 49, 49], [48, 48, 49, 49], [49, 48, 49], [49, 48, 49], [49, 49, 49, 49], [48, 49, 48, 49], [49, 49, 49], [], [], [48, 49, 49, 48], [49, 49, 49, 49], [], [], [48, 49, 48, 48, 49, 48, 48, 49, 48], [49, 49, 49, 49], [49, 49, 48, 48], [48, 48, 49, 48, 48], [48, 48, 49, 48, 48], [49, 49, 49], [49, 49, 49, 48, 49], [49, 49, 49], [48, 48, 48, 49, 48, 48], [48, 49, 48, 49], [], [], [48, 48, 49, 48, 48], [49, 48, 48, 49, 48, 49, 48, 49], [], [], [48, 49, 48, 48, 48], [48, 49, 49, 48, 49], [48, 48, 48, 49, 49, 48], [48, 49, 48, 49, 48], [48, 49, 48, 48], [49, 49, 49], [48, 48, 48, 49, 48], [49, 49, 49, 49], [48, 48, 49, 48], [48, 49, 48], [48, 49, 48], [48, 49, 48, 49, 48], [48, 49, 48], [], [48, 48, 48, 49, 48], [48, 48, 49, 48, 48], [48, 48, 49, 48], [48, 49, 48, 49, 48], [48, 48, 49, 48], [48, 49, 48], [48, 49, 48], [49, 48, 49], [49, 48, 49], [49, 49, 48, 49], [49, 48, 49, 48, 49], [49, 48, 49, 49], [49, 49, 48, 49, 49], [49, 49, 49, 48, 49], [], [49, 48, 49], [49, 48, 49, 48, 49], [49, 48, 49], [49, 48, 49], [49, 49, 48, 49], [48, 48, 48, 48], [48, 48, 48, 49, 48], [48, 48, 48], [49, 48, 49, 49], [49, 48, 49, 48, 49], [49, 48, 48, 49, 49, 49], [48, 49, 48, 48, 49], [49, 48, 49, 49, 49], [], [], [48, 49, 48, 49, 48, 49, 49, 48], [49, 49, 48, 49, 49], [], [], [49, 48, 49, 48], [48, 48, 49, 48, 48, 48], [48, 48, 48], [48, 48, 48, 49, 48], [48, 48, 48], [49, 48, 48, 48, 49], [49, 49, 48, 49, 49], [48, 48, 49, 49], [48, 48, 48, 48], [49, 48, 48, 49, 48, 49, 48, 48, 49], [], [], [48, 48, 48, 48], [49, 48, 48, 49], [], [], [48, 48, 48], [49, 48, 49, 48], [48, 48, 48, 48], [48, 49, 48], [48, 48, 48], [49, 49, 48, 48], [48, 48, 48, 48], [48, 48, 48, 49, 49], [48, 48, 48], [], [48, 48, 48, 48], [48, 48, 48, 49, 49, 48], [48, 48, 48], [49, 49, 48, 48], [48, 48, 48], [49, 49, 48, 48], [48, 48], [48, 48, 49, 48, 48], [48, 48], [48, 48, 49, 48], [48, 48], [49, 48, 49], [49, 48, 49, 48, 49], [49, 49, 48, 49, 49], [], [49, 48, 49, 49], [48, 48, 48, 48], [48, 48, 48, 49, 48, 48], [48, 48, 48], [48, 49, 48], [48, 49, 48, 48, 49], [48, 49, 48, 49], [48, 49, 48, 49], [], [48, 48, 48], [48, 48, 49, 48], [48, 48], [49, 48, 49], [49, 48, 49], [], [48, 49, 48, 49], [48, 49, 48, 48, 48], [48, 48, 48], [48, 49, 48, 48, 48], [48, 48, 48], [49, 48, 49, 48], [49, 48, 49, 48], [48, 49, 48, 48, 49, 48, 48, 49, 48], [48, 49, 48], [48, 49, 48, 48], [48, 48], [48, 48, 49, 48], [48, 48], [49, 48, 48, 49], [], [48, 48, 49, 49], [48, 48, 48], [48, 49, 48, 49], [48, 48, 48, 48], [48, 48, 49, 48, 48], [48, 48], [48, 49, 48, 48, 49], [48, 49, 48, 49, 48, 49, 49, 48], [48, 49, 49, 48], [48, 48, 48], [49, 48, 49], [48, 48, 48], [48, 49, 48], [48, 48], [], [48, 48, 48], [48, 48, 49, 49], [48, 48], [48, 49, 48], [48, 48, 48], [48, 49, 48, 48], [48, 48], [48, 49, 49, 48], [48, 48, 48], [48, 48, 49, 48, 48], [48, 48], [48, 49, 48], [48, 48], [48, 49, 48], [48]]
def orphT (r : Nat) : List UInt8 := orphL.getD r []
def oneN : Nat := 1766847064804095338292937922828216753893183071823361306064178494985764864
def oneT (r : Nat) : Bool := oneN.testBit r
def okS (w : List UInt8) (o : Option (AVal × Heap × Nat × Nat)) : Bool := match o with
  | some (.s w', _, _, _) => eqL w w'
  | _ => false
def okBb (w : Bool) (o : Option (AVal × Heap × Nat × Nat)) : Bool := match o with
  | some (.b w', _, _, _) => w == w'
  | _ => false
def chk1 (n : Nat) : Bool := okS (orphT n) ((Rk2 300).call 62 [.i .u8 (Int.ofNat n)] []) && okBb (oneT n) ((Rk2 300).call 64 [.i .u8 (Int.ofNat n)] [])
theorem tab0 : ((List.range 16).all fun i => chk1 (16 * 0 + i)) = true := by decide +kernel
theorem tab1 : ((List.range 16).all fun i => chk1 (16 * 1 + i)) = true := by decide +kernel
theorem tab2 : ((List.range 16).all fun i => chk1 (16 * 2 + i)) = true := by decide +kernel
theorem tab3 : ((List.range 16).all fun i => chk1 (16 * 3 + i)) = true := by decide +kernel
theorem tab4 : ((List.range 16).all fun i => chk1 (16 * 4 + i)) = true := by decide +kernel
theorem tab5 : ((List.range 16).all fun i => chk1 (16 * 5 + i)) = true := by decide +kernel
theorem tab6 : ((List.range 16).all fun i => chk1 (16 * 6 + i)) = true := by decide +kernel
theorem tab7 : ((List.range 16).all fun i => chk1 (16 * 7 + i)) = true := by decide +kernel
theorem tab8 : ((List.range 16).all fun i => chk1 (16 * 8 + i)) = true := by decide +kernel
theorem tab9 : ((List.range 16).all fun i => chk1 (16 * 9 + i)) = true := by decide +kernel
theorem tab10 : ((List.range 16).all fun i => chk1 (16 * 10 + i)) = true := by decide +kernel
theorem tab11 : ((List.range 16).all fun i => chk1 (16 * 11 + i)) = true := by decide +kernel
theorem tab12 : ((List.range 16).all fun i => chk1 (16 * 12 + i)) = true := by decide +kernel
theorem tab13 : ((List.range 16).all fun i => chk1 (16 * 13 + i)) = true := by decide +kernel
theorem tab14 : ((List.range 16).all fun i => chk1 (16 * 14 + i)) = true := by decide +kernel
theorem tab15 : ((List.range 16).all fun i => chk1 (16 * 15 + i)) = true := by decide +kernel
theorem tab_all {n : Nat} (hn : n < 256) : chk1 n = true := by
  by_cases h0 : n < 16
  · exact all_16 (P := chk1) tab0 (by omega) (by omega)
  by_cases h1 : n < 32
  · exact all_16 (P := chk1) tab1 (by omega) (by omega)
  by_cases h2 : n < 48
  · exact all_16 (P := chk1) tab2 (by omega) (by omega)
  by_cases h3 : n < 64
  · exact all_16 (P := chk1) tab3 (by omega) (by omega)
  by_cases h4 : n < 80
  · exact all_16 (P := chk1) tab4 (by omega) (by omega)
  by_cases h5 : n < 96
  · exact all_16 (P := chk1) tab5 (by omega) (by omega)
  by_cases h6 : n < 112
  · exact all_16 (P := chk1) tab6 (by omega) (by omega)
  by_cases h7 : n < 128
  · exact all_16 (P := chk1) tab7 (by omega) (by omega)
  by_cases h8 : n < 144
  · exact all_16 (P := chk1) tab8 (by omega) (by omega)
  by_cases h9 : n < 160
  · exact all_16 (P := chk1) tab9 (by omega) (by omega)
  by_cases h10 : n < 176
  · exact all_16 (P := chk1) tab10 (by omega) (by omega)
  by_cases h11 : n < 192
  · exact all_16 (P := chk1) tab11 (by omega) (by omega)
  by_cases h12 : n < 208
  · exact all_16 (P := chk1) tab12 (by omega) (by omega)
  by_cases h13 : n < 224
  · exact all_16 (P := chk1) tab13 (by omega) (by omega)
  by_cases h14 : n < 240
  · exact all_16 (P := chk1) tab14 (by omega) (by omega)
  by_cases h15 : n < 256
  · exact all_16 (P := chk1) tab15 (by omega) (by omega)
  omega
theorem okS_eq {w : List UInt8} {o : Option (AVal × Heap × Nat × Nat)} (h : okS w o = true) : ∃ h' lw lp, o = some (.s w, h', lw, lp) := by
  unfold okS at h
  split at h
  · rw [eqL_eq] at h
    exact ⟨_, _, _, by rw [eq_of_beq h]⟩
  · cases h
theorem okBb_eq {w : Bool} {o : Option (AVal × Heap × Nat × Nat)} (h : okBb w o = true) : ∃ h' lw lp, o = some (.b w, h', lw, lp) := by
  unfold okBb at h
  split at h
  · exact ⟨_, _, _, by rw [eq_of_beq h]⟩
  · cases h

/-- what is known of each rule -/
def ruleK : Nat → List AVal → Option AVal := fun f a => match a with
  | [.i .u8 (.ofNat n)] => cond (Nat.blt n 256) (cond (Nat.beq f 62) (some (.s (orphT n))) (cond (Nat.beq f 64) (some (.b (oneT n))) none)) none
  | _ => none
theorem ruleK_ok {f : Nat} {a : List AVal} {v : AVal} (e : ruleK f a = some v) : (∀ x ∈ a, x.scalar = true) ∧ v.scalar = true ∧ ∃ h' lw lp, callX F2 [] f a [] = some (v, h', lw, lp) := by
  unfold ruleK at e
  split at e
  · rename_i n
    cases hc : Nat.blt n 256 with
    | false => rw [hc] at e; cases e
    | true =>
      rw [hc] at e
      rw [Nat.blt_eq] at hc
      have ht := tab_all hc
      unfold chk1 at ht
      rw [Bool.and_eq_true] at ht
      cases h1 : Nat.beq f 62 with
      | true =>
        rw [h1] at e
        cases e
        rw [beq_iff.1 h1]
        obtain ⟨h', lw, lp, h2⟩ := okS_eq ht.1
        exact ⟨fun x hx => by simp at hx; subst hx; rfl, rfl, h', lw, lp, (meansS_ok [] leafO 300).call _ _ _ _ h2⟩
      | false =>
        rw [h1] at e
        cases h3 : Nat.beq f 64 with
        | true =>
          rw [h3] at e
          cases e
          rw [beq_iff.1 h3]
          obtain ⟨h', lw, lp, h2⟩ := okBb_eq ht.2
          exact ⟨fun x hx => by simp at hx; subst hx; rfl, rfl, h', lw, lp, (meansS_ok [] leafO 300).call _ _ _ _ h2⟩
        | false => rw [h3] at e; cases e
  · cases e
def allO : Caller := orC (knownS ruleK) leafO
abbrev F3 : Tab := ⟨F, allO⟩
abbrev Rk3 (n : Nat) : Means := meansS [] allO n
end Go.Proofs.Ytgbkicelkpagpaa.W

/- The reference's orphans, reckoned; Eden and Onto. -/
open Go.Vm
set_option linter.unusedVariables false
namespace Go.Proofs.Ytgbkicelkpagpaa.W
open Go

end Go.Proofs.Ytgbkicelkpagpaa.W

/- Rows of plots: what is read, and the errors. -/
open Go.Vm
set_option linter.unusedVariables false
namespace Go.Proofs.Ytgbkicelkpagpaa.W
open Go

/- strings -/
theorem e_len (w : List UInt8) : evP .e (.len true (.c (.s w))) = some (.i .i64 (w.length : Nat)) := by simp only [evP, ev_len, opd, cond_true, mkI, forceI_eq]
theorem e_eq (a b : List UInt8) : evP .e (.sbin BinOp.eql (.c (.s a)) (.c (.s b))) = some (.b (eqL a b)) := rfl
theorem e_neq (a b : List UInt8) : evP .e (.sbin BinOp.neq (.c (.s a)) (.c (.s b))) = some (.b (!eqL a b)) := rfl
theorem e_x0 (a b : AVal) : evP .e (.ext 0 (.c (.tup [a, b]))) = some a := rfl
theorem e_x1 (a b : AVal) : evP .e (.ext 1 (.c (.tup [a, b]))) = some b := rfl
theorem asS_s {β : Type} (x : List UInt8) (f : List UInt8 → Option β) : asS (.s x) f = f x := rfl
theorem eqL_self (a : List UInt8) : eqL a a = true := by rw [eqL_eq]; exact beq_self_eq_true a
theorem eqL_nil (a : List UInt8) : eqL a [] = a.isEmpty := by rw [eqL_eq]; cases a <;> rfl
theorem lget_at {α : Type} : ∀ (l : List α) (i : Nat) (d : α), i < l.length → lget l i = some (l.getD i d)
  | a :: l, 0, d, _ => rfl
  | a :: l, i + 1, d, h => by
    have := lget_at l i d (by simpa using h)
    simpa [lget] using this
/-- the letter at a place -/
def ch (s : List UInt8) (i : Nat) : Nat := (s.getD i 0).toNat
theorem ch_lt (s : List UInt8) (i : Nat) : ch s i < 256 := (s.getD i 0).toNat_lt
theorem e_ix {s : List UInt8} {i : Nat} (h : i < s.length) : evP .e (.ixStr (.c (.s s)) (.c (.i .i64 (i : Int)))) = some (.i .u8 (ch s i : Nat)) := by
  show (lget s i).map (fun c => mkI .u8 c.toNat) = _
  rw [lget_at s i 0 h]
  simp only [Option.map_some, mkI, forceI_eq]
  rfl

/-- is it a letter of a row? -/
def bad (s : List UInt8) (i : Nat) : Bool := !Nat.beq (ch s i) 48 && !Nat.beq (ch s i) 49
theorem num_eq (a b : Nat) : ((a : Int) == (b : Int)) = Nat.beq a b := by
  cases hb : Nat.beq a b
  · exact beq_eq_false_iff_ne.2 fun e => by
      have : Nat.beq a b = true := beq_iff.2 (by omega)
      rw [this] at hb; cases hb
  · rw [beq_iff.1 hb]; simp
/-- is there a letter that no row has? -/
def badR (s : List UInt8) : Bool := (List.range s.length).any (bad s)
def rowE (s : List UInt8) (most : Int) : Int := if most < (s.length : Int) then 3 else if s.isEmpty = true then 5 else if badR s = true then 5 else 0
theorem first_any {R : Type} {P : Nat → Bool} {k : Nat} {r : R} : firstS (fun i => cond (P i) (some r) none) k 0 = cond ((List.range k).any P) (some r) none := by
  have h := first_ex (R := R) (P := fun i => P i = true) (k := k) (r := r)
  have e : (fun i => cond (P i) (some r) none) = fun i => if P i = true then some r else none := by funext i; cases P i <;> rfl
  rw [e, h]
  cases hb : (List.range k).any P
  · rw [if_neg]; rfl
    rintro ⟨i, h1, h2⟩
    rw [← Bool.not_eq_true] at hb
    exact hb (List.any_eq_true.2 ⟨i, List.mem_range.2 h1, h2⟩)
  · rw [if_pos]; rfl
    obtain ⟨i, h1, h2⟩ := List.any_eq_true.1 hb
    exact ⟨i, List.mem_range.1 h1, h2⟩

theorem u8_num : ∀ n, n < 256 → wr .u8 (Int.ofNat n) = Int.ofNat n := by decide +kernel
theorem rule_ok {ro : List ABlk} {h : Heap} {n : Nat} (hn : n < 256) : callX F1 ro 61 [.i .i64 n] h = some (.tup [.i .u8 n, .i .i64 0], h, h.length, h.length) := by
  refine g61_ok (meansX_ok F1 ro) rfl ?_
  unfold g61
  have a1 : ¬ ((n : Int) < 0) := by omega
  have a2 : ¬ ((255 : Int) < (n : Int)) := by omega
  have a3 : wr .u8 (n : Int) = (n : Int) := u8_num n hn
  simp only [forceB_eq, ltI_eq, decide_eq_false a1, decide_eq_false a2, cond_false, bindO_some, forceI_eq, a3, tupA]
  exact fin_pure rfl
/-- the reference's errors of a rule and a row -/
def askE (n : Int) (s : List UInt8) (most : Int) : Int := if n < 0 ∨ 255 < n then 2 else rowE s most
/-- what read answers: the rule, or 0, and the error -/
def rdU (n : Int) (s : List UInt8) : Int := if askE n s 400 = 0 then n else 0
theorem read_ok {ro : List ABlk} {h : Heap} {n : Int} {s : List UInt8} : callX F1 ro 45 [.i .i64 n, .s s] h = some (.tup [.i .u8 (rdU n s), .i .i64 (askE n s 400)], h, h.length, h.length) := by
  refine g45_ok (meansX_ok F1 ro) rfl ?_
  unfold g45
  have z0 : ((0 : Int) == 0) = true := rfl
  have z2 : ((2 : Int) == 0) = false := rfl
  by_cases hn : n < 0 ∨ 255 < n
  · have c1 := callM_pure (call := callX F1 ro) (l := h.length) (p := h.length) (read_not (ro := ro) (h := h) hn) (Nat.le_refl _) (Nat.le_refl _)
    have ha : askE n s 400 = 2 := if_pos hn
    have hu : rdU n s = 0 := if_neg (by rw [ha]; omega)
    simp only [meansX_call, c1, bindP_some, e_x0, e_x1, bindO_some, asI_i, eqI_eq, z2, forceB_eq, Bool.not_false, cond_true, ha, hu, tupA]
    exact fin_pure rfl
  · obtain ⟨k, rfl⟩ : ∃ k : Nat, n = (k : Int) := ⟨n.toNat, by omega⟩
    have c1 := callM_pure (call := callX F1 ro) (l := h.length) (p := h.length) (rule_ok (ro := ro) (h := h) (by omega : k < 256)) (Nat.le_refl _) (Nat.le_refl _)
    have ha : askE k s 400 = rowE s 400 := if_neg hn
    unfold rdU
    rw [ha]
    unfold rowE
    simp only [meansX_call, c1, bindP_some, e_x0, e_x1, bindO_some, asI_i, asB_b, eqI_eq, z0, forceB_eq, Bool.not_true, cond_false, e_len, ltI_eq, e_eq, eqL_nil]
    by_cases h1 : (400 : Int) < (s.length : Int)
    · simp only [decide_eq_true h1, cond_true, if_pos h1, tupA, (by decide : ¬ ((3 : Int) = 0)), if_false]
      exact fin_pure rfl
    · simp only [decide_eq_false h1, cond_false, if_neg h1]
      cases he : s.isEmpty
      · simp only [cond_false, Bool.false_eq_true, if_false]
        have hl := loop_first (R := Int × Int) (b := fun z => g45_b0 (meansX F1 ro) ro s k s.length ⟨h, h.length, h.length⟩ z) s.length (fun i => cond (bad s i) (some (0, 5)) none) (by
          have : ¬ ((s.length : Int) < (s.length : Int)) := by omega
          simp only [g45_b0, bindO_some, ltI_eq, forceB_eq, decide_eq_false this, cond_false]) (fun i hi => by
          have hlt : ((i : Int) < (s.length : Int)) := by omega
          have e1' : (((ch s i : Nat) : Int) == 48) = Nat.beq (ch s i) 48 := num_eq (ch s i) 48
          have e2' : (((ch s i : Nat) : Int) == 49) = Nat.beq (ch s i) 49 := num_eq (ch s i) 49
          simp only [g45_b0, bindO_some, asI_i, ltI_eq, forceB_eq, decide_eq_true hlt, cond_true, e_ix hi, eqI_eq, e1', e2', bad, forceI_eq, wr_next (by omega : i ≤ 1000000)]
          cases Nat.beq (ch s i) 48 <;> cases Nat.beq (ch s i) 49 <;> rfl) s.length 0 (by omega)
        rw [first_any] at hl
        have e00 : ((0 : Nat) : Int) = 0 := rfl
        rw [e00] at hl
        simp only [meansX_loop, hl, bindO_some]
        unfold badR
        cases (List.range s.length).any (bad s)
        · simp only [cond_false, outS, Bool.false_eq_true, if_false, if_true, tupA]
          exact fin_pure rfl
        · simp only [cond_true, outS, if_true, tupA, (by decide : ¬ ((5 : Int) = 0)), if_false]
          exact fin_pure rfl
      · simp only [cond_true, if_true, tupA, (by decide : ¬ ((5 : Int) = 0)), if_false]
        exact fin_pure rfl
end Go.Proofs.Ytgbkicelkpagpaa.W

/- Walks and Ways. -/
open Go.Vm
set_option linter.unusedVariables false
namespace Go.Proofs.Ytgbkicelkpagpaa.W
open Go

/- four numbers in memory -/
def agg4 (f : Nat → Nat) : AVal := .agg [.i .i64 (f 0 : Nat), .i .i64 (f 1 : Nat), .i .i64 (f 2 : Nat), .i .i64 (f 3 : Nat)]
abbrev V4 (hp : Heap) (b : Nat) (f : Nat → Nat) : Prop := Vec hp 63 b 4 (fun j => .i .i64 (f j : Nat))
theorem V4.ld4 {ro : List ABlk} {hp : Heap} {b : Nat} {f : Nat → Nat} (h : V4 hp b f) {l p : Nat} : ldM ro ⟨hp, l, p⟩ false 4 (.p (some ⟨false, b, 0⟩)) = some (agg4 f) := by
  obtain ⟨blk, h1, h2, h3, h4⟩ := h
  have hb : Nat.ble (0 + 4) blk.n = true := by rw [Nat.ble_eq]; omega
  simp only [ldM, rd, rdB_heap h1, cond_false, hb, cond_true]
  show some (AVal.agg [blk.c.get 0, blk.c.get 1, blk.c.get 2, blk.c.get 3]) = _
  rw [h4 0 (by omega), h4 1 (by omega), h4 2 (by omega), h4 3 (by omega)]
  rfl
theorem V4.st4 {ro : List ABlk} {hp : Heap} {b : Nat} {g : Nat → AVal} (h : Vec hp 63 b 4 g) (f : Nat → Nat) {l p : Nat} :
    ∃ y, stepM ro ⟨hp, l, p⟩ (.st 4 (.c (.p (some ⟨false, b, 0⟩))) (.c (agg4 f))) = some (und, ⟨hp.set b y, min l b, p⟩) ∧ V4 (hp.set b y) b f := by
  obtain ⟨blk, h1, h2, h3, h4⟩ := h
  refine ⟨some { blk with c := blk.c.splice 0 [.i .i64 (f 0 : Nat), .i .i64 (f 1 : Nat), .i .i64 (f 2 : Nat), .i .i64 (f 3 : Nat)] }, ?_, { blk with c := blk.c.splice 0 [.i .i64 (f 0 : Nat), .i .i64 (f 1 : Nat), .i .i64 (f 2 : Nat), .i .i64 (f 3 : Nat)] }, lget_set h1 _, h2, h3, fun r hr => ?_⟩
  · have hb : Nat.ble 4 blk.n = true := by rw [Nat.ble_eq]; omega
    have ho : (Nat.ble 4 blk.n && ones [AVal.i .i64 (f 0 : Nat), .i .i64 (f 1 : Nat), .i .i64 (f 2 : Nat), .i .i64 (f 3 : Nat)]) = true := by rw [hb]; rfl
    simp only [stepM, stepK, opd, agg4, AVal.cells, st_st, List.length_cons, List.length_nil, Nat.zero_add, wrH, cond_false, h1]
    simp only [show Nat.beq (0 + 1 + 1 + 1 + 1) 4 = true from rfl, cond_true, ho, lset_eq, St.mm]
    rfl
  · show ((((blk.c.set 0 (.i .i64 (f 0 : Nat))).set 1 (.i .i64 (f 1 : Nat))).set 2 (.i .i64 (f 2 : Nat))).set 3 (.i .i64 (f 3 : Nat))).get r = _
    rw [get_set, get_set, get_set, get_set]
    have : r = 0 ∨ r = 1 ∨ r = 2 ∨ r = 3 := by omega
    rcases this with rfl | rfl | rfl | rfl <;> simp
theorem blk4 (hp : Heap) (f : Nat → Nat) : V4 (hp ++ [some (blkOf 63 [.i .i64 (f 0 : Nat), .i .i64 (f 1 : Nat), .i .i64 (f 2 : Nat), .i .i64 (f 3 : Nat)])]) hp.length f :=
  ⟨_, lget_last _ _, rfl, Nat.le_refl 4, fun r hr => by
    rw [get_blk]
    have : r = 0 ∨ r = 1 ∨ r = 2 ∨ r = 3 := by omega
    rcases this with rfl | rfl | rfl | rfl <;> rfl⟩
theorem bx4 {ro : List ABlk} {hp : Heap} {l p : Nat} (f : Nat → Nat) :
    stepM ro ⟨hp, l, p⟩ (.bx 63 4 (.c (agg4 f))) = some (.p (some ⟨false, hp.length, 0⟩), ⟨hp ++ [some (blkOf 63 [.i .i64 (f 0 : Nat), .i .i64 (f 1 : Nat), .i .i64 (f 2 : Nat), .i .i64 (f 3 : Nat)])], l, p⟩) := rfl
theorem al4 {ro : List ABlk} {hp : Heap} {l p : Nat} :
    stepM ro ⟨hp, l, p⟩ (.al 63 [(AVal.i IntKind.i64 0), (AVal.i IntKind.i64 0), (AVal.i IntKind.i64 0), (AVal.i IntKind.i64 0)]) = some (.p (some ⟨false, hp.length, 0⟩), ⟨hp ++ [some (blkOf 63 [(AVal.i IntKind.i64 0), (AVal.i IntKind.i64 0), (AVal.i IntKind.i64 0), (AVal.i IntKind.i64 0)])], l, p⟩) := rfl
theorem blk4_0 (hp : Heap) : V4 (hp ++ [some (blkOf 63 [(AVal.i IntKind.i64 0), (AVal.i IntKind.i64 0), (AVal.i IntKind.i64 0), (AVal.i IntKind.i64 0)])]) hp.length (fun _ => 0) := blk4 hp (fun _ => 0)
theorem ixA4 {b i : Nat} (hi : i < 4) : evP .e (.ixA 4 1 (.c (.p (some ⟨false, b, 0⟩))) (.c (.i .i64 (i : Int)))) = some (.p (some ⟨false, b, 0 + i⟩)) := by
  have : Nat.blt i 4 = true := by rw [Nat.blt_eq]; exact hi
  have e : ((i : Int)) = Int.ofNat i := rfl
  simp only [evP, ev_ixA, opd, e, atI, this, cond_true, Nat.mul_one]

/- the letter as a number -/
def bw (s : List UInt8) (i : Nat) : Nat := ch s i - 48
theorem bit_num : ∀ c, c < 256 → 48 ≤ c → wr .i64 (wr .u8 (Int.ofNat c - 48)) = Int.ofNat (c - 48) := by decide +kernel
theorem bit_ok {ro : List ABlk} {h : Heap} {c : Nat} (hc : c < 256) (h48 : 48 ≤ c) : callX F1 ro 73 [.i .u8 c] h = some (.i .i64 (c - 48 : Nat), h, h.length, h.length) := by
  refine g73_ok (meansX_ok F1 ro) rfl ?_
  unfold g73
  have e : wr .i64 (wr .u8 ((c : Int) - 48)) = ((c - 48 : Nat) : Int) := bit_num c hc h48
  simp only [forceI_eq, e, tupA]
  exact fin_pure rfl

/- one letter more: how many walks end in each pair -/
def st1 (u c : Nat) (at' to : Nat → Nat) (t : Nat) : Nat → Nat := if nx u t = c then fun j => if j = t % 4 then to j + at' (t / 2) else to j else to
def stp (u c : Nat) (at' : Nat → Nat) : Nat → Nat → Nat
  | 0 => fun _ => 0
  | k + 1 => st1 u c at' (stp u c at' k) k
def nxt (u c : Nat) (at' : Nat → Nat) : Nat → Nat := stp u c at' 8
def wkN (u : Nat) (s : List UInt8) (from' : Nat → Nat) : Nat → Nat → Nat
  | 0 => from'
  | k + 1 => nxt u (bw s k) (wkN u s from' k)
theorem stp_le {u c X : Nat} {at' : Nat → Nat} (h : ∀ j, j < 4 → at' j ≤ X) : ∀ k, k ≤ 8 → ∀ j, j < 4 → stp u c at' k j ≤ (k + 3 - j) / 4 * X
  | 0, _, j, _ => Nat.zero_le _
  | k + 1, hk, j, hj => by
    have ih := stp_le (u := u) (c := c) h k (by omega) j hj
    have ha := h (k / 2) (by omega)
    have hm : (k + 3 - j) / 4 * X ≤ (k + 1 + 3 - j) / 4 * X := Nat.mul_le_mul_right _ (Nat.div_le_div_right (by omega))
    show st1 u c at' (stp u c at' k) k j ≤ _
    unfold st1
    by_cases e : nx u k = c
    · rw [if_pos e]
      show (if j = k % 4 then _ else _) ≤ _
      by_cases e2 : j = k % 4
      · rw [if_pos e2]
        have : (k + 1 + 3 - j) / 4 = (k + 3 - j) / 4 + 1 := by omega
        rw [this, Nat.add_mul, Nat.one_mul]
        omega
      · rw [if_neg e2]; omega
    · rw [if_neg e]; omega
theorem nxt_le {u c X : Nat} {at' : Nat → Nat} (h : ∀ j, j < 4 → at' j ≤ X) {j : Nat} (hj : j < 4) : nxt u c at' j ≤ 2 * X := by
  have := stp_le (u := u) (c := c) h 8 (Nat.le_refl _) j hj
  have e : (8 + 3 - j) / 4 = 2 := by omega
  rw [e] at this
  exact this
theorem wkN_le {u : Nat} {s : List UInt8} {from' : Nat → Nat} (h : ∀ j, j < 4 → from' j ≤ 1) : ∀ i j, j < 4 → wkN u s from' i j ≤ 2 ^ i
  | 0, j, hj => h j hj
  | i + 1, j, hj => by
    have := nxt_le (u := u) (c := bw s i) (at' := wkN u s from' i) (X := 2 ^ i) (fun j hj => wkN_le h i j hj) hj
    have e : 2 ^ (i + 1) = 2 * 2 ^ i := by rw [Nat.pow_succ]; omega
    rw [e]; exact this

def okR (s : List UInt8) : Prop := ∀ i, i < s.length → ch s i = 48 ∨ ch s i = 49
theorem inner_ok {ro : List ABlk} {h hp : Heap} {u b7 b9 i : Nat} {s : List UInt8} {at' : Nat → Nat} {v6 : AVal} {x13 : Int} (hu : u < 256) (hi : i < s.length) (hs : okR s) (hL : h.length ≤ hp.length) (h7 : V4 hp b7 at') (h9 : V4 hp b9 (fun _ => 0)) (hne : b7 ≠ b9)
    (h9L : h.length ≤ b9) (hX : ∀ j, j < 4 → at' j ≤ 1125899906842624) :
    ∃ hp', loopX (fun z => g57_b1 (meansX F1 ro) ro u s v6 (.p (some ⟨false, b7, 0⟩)) i (.p (some ⟨false, b9, 0⟩)) x13 z.1 z.2) (0, ⟨hp, h.length, h.length⟩) = some ⟨hp', h.length, h.length⟩ ∧ V4 hp' b9 (nxt u (bw s i) at') ∧ hp'.length = hp.length ∧ ∀ k, k ≠ b9 → hp'[k]? = hp[k]? := by
  have key := loop_all (b := fun z => g57_b1 (meansX F1 ro) ro u s v6 (.p (some ⟨false, b7, 0⟩)) i (.p (some ⟨false, b9, 0⟩)) x13 z.1 z.2) 8
    (fun k m => ∃ hp', m = ⟨hp', h.length, h.length⟩ ∧ V4 hp' b9 (stp u (bw s i) at' k) ∧ hp'.length = hp.length ∧ ∀ k, k ≠ b9 → hp'[k]? = hp[k]?)
    (fun k m hk hI => by
      obtain ⟨hp', rfl, hv, hl, hkeep⟩ := hI
      have hv7 : V4 hp' b7 at' := h7.keep (hkeep b7 hne)
      have hk8 : ((k : Int) < 8) := by omega
      have hc48 : 48 ≤ ch s i := by rcases hs i hi with e | e <;> omega
      have c1 := callM_pure (call := callX F1 ro) (l := h.length) (p := h.length) (next_ok (ro := ro) (h := hp') hu hk) (by omega) (by omega)
      have c2 := callM_pure (call := callX F1 ro) (l := h.length) (p := h.length) (bit_ok (ro := ro) (h := hp') (ch_lt s i) hc48) (by omega) (by omega)
      obtain ⟨e1, e2⟩ := sm_num k hk
      have e1' : shrV .i64 (k : Int) 1 = ((k / 2 : Nat) : Int) := e1
      have e2' : bitV .and .i64 (k : Int) 3 = ((k % 4 : Nat) : Int) := e2
      have hsum : stp u (bw s i) at' k (k % 4) + at' (k / 2) ≤ 9007199254740992 := by
        have a1 := stp_le (u := u) (c := bw s i) hX k (by omega) (k % 4) (by omega)
        have a2 := hX (k / 2) (by omega)
        have a3 : (k + 3 - k % 4) / 4 * 1125899906842624 ≤ 2 * 1125899906842624 := Nat.mul_le_mul_right _ (by omega)
        omega
      have ew : wr .i64 (((stp u (bw s i) at' k (k % 4) : Nat) : Int) + ((at' (k / 2) : Nat) : Int)) = ((stp u (bw s i) at' k (k % 4) + at' (k / 2) : Nat) : Int) := by rw [wr_id' (by omega) (by omega)]; omega
      have hcmp := num_eq (nx u k) (ch s i - 48)
      cases hb : Nat.beq (nx u k) (ch s i - 48)
      · rw [hb] at hcmp
        refine ⟨⟨hp', h.length, h.length⟩, ?_, hp', rfl, ?_, hl, hkeep⟩
        · simp only [g57_b1, forceB_eq, ltI_eq, decide_eq_true hk8, cond_true, e_ix hi, bindO_some, asI_i, meansX_call, c1, c2, bindP_some, eqI_eq, hcmp, cond_false, forceI_eq, wr_next (by omega : k ≤ 1000000)]
        · show V4 hp' b9 (st1 u (bw s i) at' (stp u (bw s i) at' k) k)
          unfold st1
          rw [if_neg (fun e => by rw [show nx u k = ch s i - 48 from e, Nat.beq_refl] at hb; cases hb)]
          exact hv
      · rw [hb] at hcmp
        obtain ⟨y, g1, g2⟩ := Vec.wr (ro := ro) (l := h.length) (p := h.length) hv (r := k % 4) (by omega) (v := .i .i64 ((stp u (bw s i) at' k (k % 4) + at' (k / 2) : Nat) : Int)) rfl rfl
        refine ⟨⟨hp'.set b9 y, h.length, h.length⟩, ?_, _, rfl, ?_, by simp [hl], fun k' hk' => by rw [List.getElem?_set_ne (Ne.symm hk')]; exact hkeep k' hk'⟩
        · have l9 := Vec.lda (ro := ro) hv (i := k % 4) (by omega)
          have l7 := Vec.lda (ro := ro) hv7 (i := k / 2) (by omega)
          rw [Nat.min_eq_left h9L] at g1
          simp only [g57_b1, forceB_eq, ltI_eq, decide_eq_true hk8, cond_true, e_ix hi, bindO_some, asI_i, meansX_call, c1, c2, bindP_some, eqI_eq, hcmp, forceI_eq, e1', e2', ixA4 (by omega : k % 4 < 4), ixA4 (by omega : k / 2 < 4), l9, l7, ew, asP_p, AVal.cells, g1, wr_next (by omega : k ≤ 1000000)]
        · refine g2.congr fun r hr => ?_
          show _ = AVal.i .i64 ((st1 u (bw s i) at' (stp u (bw s i) at' k) k r : Nat) : Int)
          unfold st1
          rw [if_pos (beq_iff.1 hb : nx u k = bw s i)]
          show _ = AVal.i .i64 (((if r = k % 4 then _ else _ : Nat)) : Int)
          by_cases e : r = k % 4
          · rw [if_pos e, if_pos e, e]
          · rw [if_neg e, if_neg e])
    (fun m hI => by
      have : decide ((8 : Int) < 8) = false := rfl
      show g57_b1 (meansX F1 ro) ro u s v6 (.p (some ⟨false, b7, 0⟩)) i (.p (some ⟨false, b9, 0⟩)) x13 8 m = _
      simp only [g57_b1, forceB_eq, ltI_eq, this, cond_false])
    8 0 ⟨hp, h.length, h.length⟩ rfl ⟨hp, rfl, h9, rfl, fun _ _ => rfl⟩
  obtain ⟨m', h1, hp', rfl, h2, h3, h4⟩ := key
  exact ⟨hp', h1, h2, h3, h4⟩
end Go.Proofs.Ytgbkicelkpagpaa.W

/- Walks, Ways: what they answer. -/
open Go.Vm
set_option linter.unusedVariables false
namespace Go.Proofs.Ytgbkicelkpagpaa.W
open Go

theorem pow50 {i : Nat} (h : i ≤ 50) : 2 ^ i ≤ 1125899906842624 := Nat.le_trans (Nat.pow_le_pow_right (by omega) h) (by decide)
theorem len_app (hp : Heap) (x : Option ABlk) : (hp ++ [x]).length = hp.length + 1 := by simp
theorem get_app {hp : Heap} {x : Option ABlk} {k : Nat} (h : k < hp.length) : (hp ++ [x])[k]? = hp[k]? := List.getElem?_append_left h
theorem walks_ok {ro : List ABlk} {h : Heap} {u : Nat} {s : List UInt8} {f : Nat → Nat} (hu : u < 256) (hs : okR s) (hl : s.length ≤ 50) (hf : ∀ j, j < 4 → f j ≤ 1) :
    callX F1 ro 57 [.i .u8 u, .s s, agg4 f] h = some (agg4 (wkN u s f s.length), h, h.length, h.length) := by
  refine g57_ok (meansX_ok F1 ro) rfl ?_
  unfold g57
  -- the three blocks
  have hp1 : V4 _ h.length f := blk4 h f
  have hb1 := bx4 (ro := ro) (hp := h) (l := h.length) (p := h.length) f
  generalize hB1 : h ++ [some (blkOf 63 [.i .i64 (f 0 : Nat), .i .i64 (f 1 : Nat), .i .i64 (f 2 : Nat), .i .i64 (f 3 : Nat)])] = H1 at hp1 hb1
  have hL1 : H1.length = h.length + 1 := by rw [← hB1]; exact len_app _ _
  have hK1 : ∀ k, k < h.length → H1[k]? = h[k]? := fun k hk => by rw [← hB1]; exact get_app hk
  have hb2 := al4 (ro := ro) (hp := H1) (l := h.length) (p := h.length)
  have hp2 := blk4_0 H1
  generalize hB2 : H1 ++ [some (blkOf 63 [(AVal.i IntKind.i64 0), (AVal.i IntKind.i64 0), (AVal.i IntKind.i64 0), (AVal.i IntKind.i64 0)])] = H2 at hb2 hp2
  have hL2 : H2.length = h.length + 2 := by rw [← hB2, len_app]; omega
  have hK2 : ∀ k, k < h.length + 1 → H2[k]? = H1[k]? := fun k hk => by rw [← hB2]; exact get_app (by omega)
  have hp1' : V4 H2 h.length f := hp1.keep (hK2 _ (by omega))
  have hb3 := al4 (ro := ro) (hp := H2) (l := h.length) (p := h.length)
  have hp3 := blk4_0 H2
  generalize hB3 : H2 ++ [some (blkOf 63 [(AVal.i IntKind.i64 0), (AVal.i IntKind.i64 0), (AVal.i IntKind.i64 0), (AVal.i IntKind.i64 0)])] = H3 at hb3 hp3
  have hL3 : H3.length = h.length + 3 := by rw [← hB3, len_app]; omega
  have hK3 : ∀ k, k < h.length + 2 → H3[k]? = H2[k]? := fun k hk => by rw [← hB3]; exact get_app (by omega)
  have hp2' : V4 H3 H1.length (fun _ => 0) := hp2.keep (hK3 _ (by omega))
  obtain ⟨y, hst, hp4⟩ := V4.st4 (ro := ro) (l := h.length) (p := h.length) hp3 f
  rw [Nat.min_eq_left (by omega)] at hst
  have hK4 : ∀ k, k ≠ H2.length → (H3.set H2.length y)[k]? = H3[k]? := fun k hk => List.getElem?_set_ne (Ne.symm hk)
  have hp2'' : V4 (H3.set H2.length y) H1.length (fun _ => 0) := hp2'.keep (hK4 _ (by omega))
  have hL4 : (H3.set H2.length y).length = h.length + 3 := by rw [List.length_set]; exact hL3
  have hkeep4 : ∀ k, k < h.length → (H3.set H2.length y)[k]? = h[k]? := fun k hk => by rw [hK4 k (by omega), hK3 k (by omega), hK2 k (by omega), hK1 k hk]
  have key := loop_all (b := fun z => g57_b0 (meansX F1 ro) ro u s (.p (some ⟨false, H1.length, 0⟩)) (.p (some ⟨false, H2.length, 0⟩)) s.length z.1 z.2) s.length
    (fun k m => ∃ hp', m = ⟨hp', h.length, h.length⟩ ∧ V4 hp' H2.length (wkN u s f k) ∧ V4 hp' H1.length (fun _ => 0) ∧ h.length + 3 ≤ hp'.length ∧ ∀ k, k < h.length → hp'[k]? = h[k]?)
    (fun k m hk hI => by
      obtain ⟨hp', rfl, hv7, hv6, hlen, hkeep⟩ := hI
      have hkl : ((k : Int) < (s.length : Int)) := by omega
      have ha := al4 (ro := ro) (hp := hp') (l := h.length) (p := h.length)
      have h9 := blk4_0 hp'
      generalize hBn : hp' ++ [some (blkOf 63 [(AVal.i IntKind.i64 0), (AVal.i IntKind.i64 0), (AVal.i IntKind.i64 0), (AVal.i IntKind.i64 0)])] = Hn at ha h9
      have hLn : Hn.length = hp'.length + 1 := by rw [← hBn]; exact len_app _ _
      have hKn : ∀ k, k < hp'.length → Hn[k]? = hp'[k]? := fun k hk => by rw [← hBn]; exact get_app hk
      obtain ⟨hq, q1, q2, q3, q4⟩ := inner_ok (ro := ro) (h := h) (v6 := .p (some ⟨false, H1.length, 0⟩)) (x13 := s.length) hu hk hs (by omega) (hv7.keep (hKn _ (by omega))) h9 (by omega) (by omega)
        (fun j hj => Nat.le_trans (wkN_le hf k j hj) (pow50 (by omega)))
      obtain ⟨y2, s1, s2⟩ := V4.st4 (ro := ro) (l := h.length) (p := h.length) (hv7.keep (by rw [q4 _ (by omega), hKn _ (by omega)]) : V4 hq H2.length _) (nxt u (bw s k) (wkN u s f k))
      rw [Nat.min_eq_left (by omega)] at s1
      have l9 := V4.ld4 (ro := ro) (l := h.length) (p := h.length) q2
      refine ⟨⟨hq.set H2.length y2, h.length, h.length⟩, ?_, _, rfl, s2, hv6.keep ?_, by rw [List.length_set]; omega, fun j hj => ?_⟩
      · simp only [g57_b0, forceB_eq, ltI_eq, decide_eq_true hkl, cond_true, ha, bindP_some, meansX_loop, q1, bindO_some, l9, s1, forceI_eq, wr_next (by omega : k ≤ 1000000)]
      · rw [List.getElem?_set_ne (by omega), q4 _ (by omega), hKn _ (by omega)]
      · rw [List.getElem?_set_ne (by omega), q4 _ (by omega), hKn _ (by omega), hkeep j hj])
    (fun m hI => by
      have : decide ((s.length : Int) < (s.length : Int)) = false := lt_no
      show g57_b0 (meansX F1 ro) ro u s (.p (some ⟨false, H1.length, 0⟩)) (.p (some ⟨false, H2.length, 0⟩)) s.length s.length m = _
      simp only [g57_b0, forceB_eq, ltI_eq, this, cond_false])
    s.length 0 ⟨H3.set H2.length y, h.length, h.length⟩ (by omega) ⟨_, rfl, hp4, hp2'', by omega, hkeep4⟩
  obtain ⟨m', k1, hq, rfl, k2, k3, k4, k5⟩ := key
  have e0 : ((0 : Nat) : Int) = 0 := rfl
  rw [e0] at k1
  obtain ⟨y3, t1, t2⟩ := V4.st4 (ro := ro) (l := h.length) (p := h.length) k3 (wkN u s f s.length)
  rw [Nat.min_eq_left (by omega)] at t1
  have lf := V4.ld4 (ro := ro) (l := h.length) (p := h.length) k2
  have lr := V4.ld4 (ro := ro) (l := h.length) (p := h.length) t2
  have l5 := V4.ld4 (ro := ro) (l := h.length) (p := h.length) hp1'
  simp only [hb1, bindP_some, hb2, l5, bindO_some, hb3, hst, e_len, asI_i, meansX_loop, k1, lf, t1, lr, tupA]
  rw [fin_take (by rfl)]
  have : (hq.set H1.length y3).take h.length = h := by
    apply List.ext_getElem?
    intro j
    rw [List.getElem?_take]
    by_cases hj : j < h.length
    · rw [if_pos hj, List.getElem?_set_ne (by omega), k5 j hj]
    · rw [if_neg hj, List.getElem?_eq_none (by omega)]
  rw [this]

/- the errors of a row whose ways are counted -/
def shE (n : Int) (s : List UInt8) : Int := if askE n s 400 = 0 ∧ 50 < s.length then 2 else askE n s 400
def shU (n : Int) (s : List UInt8) : Int := if askE n s 400 = 0 ∧ 50 < s.length then 0 else rdU n s
theorem short_ok {ro : List ABlk} {h : Heap} {n : Int} {s : List UInt8} : callX F1 ro 56 [.i .i64 n, .s s] h = some (.tup [.i .u8 (shU n s), .i .i64 (shE n s)], h, h.length, h.length) := by
  refine g56_ok (meansX_ok F1 ro) rfl ?_
  unfold g56
  have c1 := callM_pure (call := callX F1 ro) (l := h.length) (p := h.length) (read_ok (ro := ro) (h := h) (n := n) (s := s)) (Nat.le_refl _) (Nat.le_refl _)
  unfold shE shU
  simp only [meansX_call, c1, bindP_some, e_x0, e_x1, bindO_some, asI_i, eqI_eq, forceB_eq, e_len, ltI_eq]
  by_cases h1 : askE n s 400 = 0
  · have b1 : (askE n s 400 == 0) = true := by rw [h1]; rfl
    by_cases h2 : 50 < s.length
    · have h2' : ((50 : Int) < (s.length : Int)) := by omega
      simp only [b1, cond_true, decide_eq_true h2', bindO_some, if_pos (And.intro h1 h2), tupA]
      exact fin_pure rfl
    · have h2' : ¬ ((50 : Int) < (s.length : Int)) := by omega
      have hn : ¬ (askE n s 400 = 0 ∧ 50 < s.length) := fun hh => h2 hh.2
      simp only [b1, cond_true, decide_eq_false h2', bindO_some, cond_false, if_neg hn, tupA]
      exact fin_pure rfl
  · have b1 : (askE n s 400 == 0) = false := beq_eq_false_iff_ne.2 h1
    have hn : ¬ (askE n s 400 = 0 ∧ 50 < s.length) := fun hh => h1 hh.1
    simp only [b1, cond_false, bindO_some, if_neg hn, tupA]
    exact fin_pure rfl
/-- a row without errors is one -/
theorem okR_of {n : Int} {s : List UInt8} {most : Int} (h : askE n s most = 0) : 0 ≤ n ∧ n ≤ 255 ∧ s.length ≤ most ∧ 0 < s.length ∧ okR s := by
  unfold askE at h
  by_cases hn : n < 0 ∨ 255 < n
  · rw [if_pos hn] at h; cases h
  · rw [if_neg hn] at h
    unfold rowE at h
    by_cases h1 : most < (s.length : Int)
    · rw [if_pos h1] at h; cases h
    · rw [if_neg h1] at h
      cases he : s.isEmpty with
      | true => rw [he, if_pos rfl] at h; cases h
      | false =>
        rw [he, if_neg (by decide)] at h
        cases hb : badR s with
        | true => rw [hb, if_pos rfl] at h; cases h
        | false =>
          refine ⟨by omega, by omega, by omega, ?_, fun i hi => ?_⟩
          · cases s with
            | nil => cases he
            | cons a l => simp
          · have := List.any_eq_false.1 hb i (List.mem_range.2 hi)
            unfold bad at this
            cases e1 : Nat.beq (ch s i) 48
            · cases e2 : Nat.beq (ch s i) 49
              · rw [e1, e2] at this; exact absurd rfl this
              · exact .inr (beq_iff.1 e2)
            · exact .inl (beq_iff.1 e1)

end Go.Proofs.Ytgbkicelkpagpaa.W

/- Ways of onto rules, and of the others: tables. -/
open Go.Vm
set_option linter.unusedVariables false
namespace Go.Proofs.Ytgbkicelkpagpaa.W
open Go

/- onto rules: the counts that come -/
/- the others: a row with more -/
def plotsL (x m : Nat) : List UInt8 := (List.range m).map fun i => UInt8.ofNat (48 + nx x (m - 1 - i))
end Go.Proofs.Ytgbkicelkpagpaa.W

/- Rows by numbers. -/
open Go.Vm
set_option linter.unusedVariables false
namespace Go.Proofs.Ytgbkicelkpagpaa.W
open Go

theorem bytes_row {t : Tr} {g : Nat → Nat} : ∀ (k i : Nat), (∀ j, j < k → t.get (i + j) = .i .u8 (g (i + j) : Nat) ∧ g (i + j) < 256) → bytesA (t.row i k) = some ((List.range' i k).map fun j => UInt8.ofNat (g j))
  | 0, i, _ => rfl
  | k + 1, i, h => by
    have h0 := h 0 (by omega)
    have ih := bytes_row (t := t) (g := g) k (i + 1) (fun j hj => by have := h (j + 1) (by omega); rwa [show i + 1 + j = i + (j + 1) by omega])
    show bytesA (t.get i :: t.row (i + 1) k) = _
    rw [Nat.add_zero] at h0
    rw [h0.1]
    show cond (Nat.blt (g i) 256) ((bytesA (t.row (i + 1) k)).map (UInt8.ofNat (g i) :: ·)) none = _
    rw [show Nat.blt (g i) 256 = true by rw [Nat.blt_eq]; exact h0.2, ih]
    rfl
theorem bts_ok {ro : List ABlk} {hp : Heap} {b k : Nat} {cap : Cap} {g : Nat → Nat} (h : Vec hp 5 b k (fun j => .i .u8 (g j : Nat))) (hg : ∀ j, j < k → g j < 256) {l p : Nat} :
    btsM ro ⟨hp, l, p⟩ (.sl ⟨false, b, 0⟩ k cap) = some (.s ((List.range k).map fun j => UInt8.ofNat (g j))) := by
  obtain ⟨blk, h1, h2, h3, h4⟩ := h
  have hb : Nat.ble (0 + k) blk.n = true := by rw [Nat.ble_eq]; omega
  have hr := bytes_row (t := blk.c) (g := g) k 0 (fun j hj => by rw [Nat.zero_add]; exact ⟨h4 j hj, hg j hj⟩)
  have h1' : lget (Mm.st ⟨hp, l, p⟩ .e).h b = some (some blk) := h1
  simp only [btsM, st_bts, rdB_heap h1', hb, cond_true, hr, Option.map_some, List.range_eq_range']

end Go.Proofs.Ytgbkicelkpagpaa.W

/- Eden and Onto of the program. -/
open Go.Vm
set_option linter.unusedVariables false
namespace Go.Proofs.Ytgbkicelkpagpaa.W
open Go

section
variable {n : Nat} (hn : n < 256) (k : Int)
include hn
end
end Go.Proofs.Ytgbkicelkpagpaa.W

/- Strings that are made byte by byte; grow, ring, Ring. -/
open Go.Vm
set_option linter.unusedVariables false
namespace Go.Proofs.Ytgbkicelkpagpaa.W
open Go

/-- bytes written one by one, and their string -/
theorem bytes_loop {ro : List ABlk} {h : Heap} {n : Nat} {g : Nat → Nat} {b : Int × Mm → Option ((Int × Mm) ⊕ Mm)} (hg : ∀ k, k < n → g k < 256)
    (σ : Nat → Nat) (done : Nat → Nat → Bool) (hσ : ∀ k, k < n → σ k < n) (hd0 : ∀ j, j < n → done 0 j = false) (hdn : ∀ j, j < n → done n j = true) (hds : ∀ k j, k < n → j < n → done (k + 1) j = (done k j || Nat.beq j (σ k)))
    (hin : ∀ k, k < n → ∀ hp' hp'' : Heap, h.length ≤ hp'.length → stepM ro ⟨hp', h.length, h.length⟩ (.st 1 (.c (.p (some ⟨false, h.length, 0 + σ k⟩))) (.c (.i .u8 (g (σ k) : Nat)))) = some (und, ⟨hp'', h.length, h.length⟩) →
      b ((k : Int), ⟨hp', h.length, h.length⟩) = some (.inl (((k + 1 : Nat) : Int), ⟨hp'', h.length, h.length⟩)))
    (hout : ∀ m, b ((n : Int), m) = some (.inr m)) :
    ∃ hq, loopX b (0, ⟨h ++ [some (newBlk 5 (AVal.i IntKind.u8 0) n)], h.length, h.length⟩) = some ⟨hq, h.length, h.length⟩ ∧
      btsM ro ⟨hq, h.length, h.length⟩ (.sl ⟨false, h.length, 0⟩ n (.known n)) = some (.s ((List.range n).map fun j => UInt8.ofNat (g j))) ∧ hq.take h.length = h ∧ h.length ≤ hq.length := by
  have hv := Vec.new h 5 n (AVal.i IntKind.u8 0)
  generalize hB : h ++ [some (newBlk 5 (AVal.i IntKind.u8 0) n)] = H at hv
  have hL : H.length = h.length + 1 := by rw [← hB]; simp
  have hK : ∀ k, k < h.length → H[k]? = h[k]? := fun k hk => by rw [← hB]; exact List.getElem?_append_left hk
  have key := loop_all (b := b) n
    (fun k mm => ∃ hp', mm = ⟨hp', h.length, h.length⟩ ∧ Vec hp' 5 h.length n (fun j => .i .u8 ((cond (done k j) (g j) 0 : Nat) : Int)) ∧ hp'.length = h.length + 1 ∧ ∀ k, k < h.length → hp'[k]? = h[k]?)
    (fun k mm hk hI => by
      obtain ⟨hp', rfl, hv', hl, hkeep⟩ := hI
      obtain ⟨y, s1, s2⟩ := Vec.set (ro := ro) (l := h.length) (p := h.length) hv' (hσ k hk) (v := .i .u8 ((g (σ k) : Nat) : Int)) rfl rfl rfl
      rw [Nat.min_self] at s1
      refine ⟨⟨hp'.set h.length y, h.length, h.length⟩, hin k hk _ _ (by omega) s1, _, rfl, ?_, by rw [List.length_set]; exact hl, fun j hj => by rw [List.getElem?_set_ne (by omega)]; exact hkeep j hj⟩
      refine s2.congr fun r hr => ?_
      show (if r = σ k then _ else _) = _
      rw [hds k r hk hr]
      by_cases e : r = σ k
      · rw [if_pos e, show Nat.beq r (σ k) = true from beq_iff.2 e, Bool.or_true, cond_true, e]
      · have hb : Nat.beq r (σ k) = false := by
          cases hb : Nat.beq r (σ k)
          · rfl
          · exact absurd (beq_iff.1 hb) e
        rw [if_neg e, hb, Bool.or_false])
    (fun mm hI => hout mm)
    n 0 ⟨H, h.length, h.length⟩ (by omega) ⟨H, rfl, hv.congr fun r hr => by rw [hd0 r hr]; rfl, hL, hK⟩
  obtain ⟨m', k1, hq, rfl, k2, k3, k4⟩ := key
  have e0 : ((0 : Nat) : Int) = 0 := rfl
  rw [e0] at k1
  refine ⟨hq, k1, bts_ok (k2.congr (get' := fun j => .i .u8 ((g j : Nat) : Int)) fun r hr => by rw [hdn r hr, cond_true]) hg, ?_, by omega⟩
  apply List.ext_getElem?
  intro j
  rw [List.getElem?_take]
  by_cases hj : j < h.length
  · rw [if_pos hj, k4 j hj]
  · rw [if_neg hj, List.getElem?_eq_none (by omega)]

theorem blt_succ {k j n : Nat} (hk : k < n) (hj : j < n) : Nat.blt j (k + 1) = (Nat.blt j k || Nat.beq j k) := by
  rcases Nat.lt_trichotomy j k with h | h | h
  · rw [show Nat.blt j (k + 1) = true by rw [Nat.blt_eq]; omega, show Nat.blt j k = true by rw [Nat.blt_eq]; exact h]; rfl
  · subst h
    rw [show Nat.blt j (j + 1) = true by rw [Nat.blt_eq]; omega, Nat.beq_refl, Bool.or_true]
  · rw [show Nat.blt j (k + 1) = false by rw [← Bool.not_eq_true, Nat.blt_eq]; omega, show Nat.blt j k = false by rw [← Bool.not_eq_true, Nat.blt_eq]; omega, show Nat.beq j k = false by rw [← Bool.not_eq_true, beq_iff]; omega]; rfl
theorem blt_none (j : Nat) : Nat.blt j 0 = false := by rw [← Bool.not_eq_true, Nat.blt_eq]; omega
theorem blt_all {j n : Nat} (h : j < n) : Nat.blt j n = true := by rw [Nat.blt_eq]; exact h
theorem plot_num : ∀ t, t < 2 → wr .u8 (48 + wr .u8 (Int.ofNat t)) = Int.ofNat (48 + t) := by decide +kernel
theorem plot_ok {ro : List ABlk} {h : Heap} {t : Nat} (ht : t < 2) : callX F1 ro 71 [.i .i64 t] h = some (.i .u8 (48 + t : Nat), h, h.length, h.length) := by
  refine g71_ok (meansX_ok F1 ro) rfl ?_
  unfold g71
  have e : wr .u8 (48 + wr .u8 (t : Int)) = ((48 + t : Nat) : Int) := plot_num t ht
  simp only [forceI_eq, e, tupA]
  exact fin_pure rfl

theorem bw_lt {s : List UInt8} (hs : okR s) {i : Nat} (hi : i < s.length) : bw s i < 2 ∧ 48 ≤ ch s i := by
  unfold bw
  rcases hs i hi with e | e <;> omega
def growV (u : Nat) (s : List UInt8) (k : Nat) : Nat := 48 + nx u (4 * bw s k + 2 * bw s (k + 1) + bw s (k + 2))
def growS (u : Nat) (s : List UInt8) : List UInt8 := (List.range (s.length - 2)).map fun k => UInt8.ofNat (growV u s k)
theorem grow_ok {ro : List ABlk} {h : Heap} {u : Nat} {s : List UInt8} (hu : u < 256) (hs : okR s) (h2 : 2 ≤ s.length) (hl : s.length ≤ 1000) :
    callX F1 ro 46 [.i .u8 u, .s s] h = some (.s (growS u s), h, h.length, h.length) := by
  refine g46_ok (meansX_ok F1 ro) rfl ?_
  unfold g46
  have e9 : wr .i64 ((s.length : Int) - 2) = ((s.length - 2 : Nat) : Int) := by rw [wr_id' (by omega) (by omega)]; omega
  have hmk := mk_ok (ro := ro) (hp := h) (l := h.length) (p := h.length) (e := 5) (es := 1) (bytes := 1) (v := AVal.i IntKind.u8 0) (n := s.length - 2) (by omega) (by omega)
  have hlen : evP .e (.len false (.c (.sl ⟨false, h.length, 0⟩ (s.length - 2) (.known (s.length - 2))))) = some (.i .i64 ((s.length - 2 : Nat) : Int)) := by simp only [evP, ev_len, opd, cond_false, mkI, forceI_eq]
  obtain ⟨hq, k1, k2, k3, k4⟩ := bytes_loop (ro := ro) (h := h) (n := s.length - 2) (g := growV u s)
    (b := fun z => g46_b0 (meansX F1 ro) ro u s (.sl ⟨false, h.length, 0⟩ (s.length - 2) (.known (s.length - 2))) ((s.length - 2 : Nat) : Int) z.1 z.2)
    (fun k hk => by have := nx_le u (4 * bw s k + 2 * bw s (k + 1) + bw s (k + 2)); unfold growV; omega)
    (fun k => k) (fun k j => Nat.blt j k) (fun k hk => hk) (fun j _ => blt_none j) (fun j hj => blt_all hj) (fun k j hk hj => blt_succ hk hj)
    (fun k hk hp' hp'' hL hst => by
      have hlt : ((k : Int) < ((s.length - 2 : Nat) : Int)) := by omega
      have w1 : wr .i64 ((k : Int) + 1) = ((k + 1 : Nat) : Int) := wr_next (by omega)
      have w2 : wr .i64 ((k : Int) + 2) = ((k + 2 : Nat) : Int) := by rw [wr_id' (by omega) (by omega)]; omega
      obtain ⟨b0, a0⟩ := bw_lt hs (by omega : k < s.length)
      obtain ⟨b1, a1⟩ := bw_lt hs (by omega : k + 1 < s.length)
      obtain ⟨b2, a2⟩ := bw_lt hs (by omega : k + 2 < s.length)
      have c0 := callM_pure (call := callX F1 ro) (l := h.length) (p := h.length) (bit_ok (ro := ro) (h := hp') (ch_lt s k) a0) hL hL
      have c1 := callM_pure (call := callX F1 ro) (l := h.length) (p := h.length) (bit_ok (ro := ro) (h := hp') (ch_lt s (k + 1)) a1) hL hL
      have c2 := callM_pure (call := callX F1 ro) (l := h.length) (p := h.length) (bit_ok (ro := ro) (h := hp') (ch_lt s (k + 2)) a2) hL hL
      have m0 : wr .i64 (4 * ((ch s k - 48 : Nat) : Int)) = ((4 * bw s k : Nat) : Int) := by unfold bw at *; rw [wr_id' (by omega) (by omega)]; omega
      have m1 : wr .i64 (2 * ((ch s (k + 1) - 48 : Nat) : Int)) = ((2 * bw s (k + 1) : Nat) : Int) := by unfold bw at *; rw [wr_id' (by omega) (by omega)]; omega
      have m2 : wr .i64 (((4 * bw s k : Nat) : Int) + ((2 * bw s (k + 1) : Nat) : Int)) = ((4 * bw s k + 2 * bw s (k + 1) : Nat) : Int) := by rw [wr_id' (by omega) (by omega)]; omega
      have m3 : wr .i64 (((4 * bw s k + 2 * bw s (k + 1) : Nat) : Int) + ((ch s (k + 2) - 48 : Nat) : Int)) = ((4 * bw s k + 2 * bw s (k + 1) + bw s (k + 2) : Nat) : Int) := by unfold bw at *; rw [wr_id' (by omega) (by omega)]; omega
      have c3 := callM_pure (call := callX F1 ro) (l := h.length) (p := h.length) (next_ok (ro := ro) (h := hp') hu (by omega : 4 * bw s k + 2 * bw s (k + 1) + bw s (k + 2) < 8)) hL hL
      have c4 := callM_pure (call := callX F1 ro) (l := h.length) (p := h.length) (plot_ok (ro := ro) (h := hp') (t := nx u (4 * bw s k + 2 * bw s (k + 1) + bw s (k + 2))) (by have := nx_le u (4 * bw s k + 2 * bw s (k + 1) + bw s (k + 2)); omega)) hL hL
      have ei := ixS_eq (q := ⟨false, h.length, 0⟩) (len := s.length - 2) (cap := .known (s.length - 2)) (i := k) hk
      have hst' : stepM ro ⟨hp', h.length, h.length⟩ (.st 1 (.c (.p (some ⟨false, h.length, 0 + k⟩))) (.c (.i .u8 ((48 + nx u (4 * bw s k + 2 * bw s (k + 1) + bw s (k + 2)) : Nat) : Int)))) = some (und, ⟨hp'', h.length, h.length⟩) := hst
      simp only [g46_b0, forceB_eq, ltI_eq, decide_eq_true hlt, cond_true, e_ix (by omega : k < s.length), bindO_some, asI_i, forceI_eq, w1, e_ix (by omega : k + 1 < s.length), w2, e_ix (by omega : k + 2 < s.length), meansX_call, c0, c1, c2, bindP_some, m0, m1, m2, m3, c3, c4, ei, hst'])
    (fun m => by
      have : decide (((s.length - 2 : Nat) : Int) < ((s.length - 2 : Nat) : Int)) = false := lt_no
      show g46_b0 (meansX F1 ro) ro u s _ _ ((s.length - 2 : Nat) : Int) m = _
      simp only [g46_b0, forceB_eq, ltI_eq, this, cond_false])
  simp only [e_len, bindO_some, asI_i, forceI_eq, e9, hmk, bindP_some, hlen, meansX_loop, k1, k2, asS_s, tupA]
  rw [fin_take (by rfl), k3]
  rfl

/- a ring as a row with its ends put to it -/
def pad (s : List UInt8) : List UInt8 := s.drop (s.length - 1) ++ s ++ s.take 1
def ringS (u : Nat) (s : List UInt8) : List UInt8 := growS u (pad s)
theorem pad_len {s : List UInt8} (h : 0 < s.length) : (pad s).length = s.length + 2 := by
  simp only [pad, List.length_append, List.length_drop, List.length_take]; omega
theorem pad_get {s : List UInt8} (h : 0 < s.length) {k : Nat} (hk : k < s.length + 2) : (pad s).getD k 0 = s.getD ((k + s.length - 1) % s.length) 0 := by
  have hd : (s.drop (s.length - 1)).length = 1 := by simp; omega
  simp only [pad, List.getD, List.append_assoc]
  by_cases h0 : k = 0
  · subst h0
    rw [List.getElem?_append_left (by omega), List.getElem?_drop, show (0 + s.length - 1) % s.length = s.length - 1 by rw [Nat.zero_add]; exact Nat.mod_eq_of_lt (by omega)]
    rfl
  · rw [List.getElem?_append_right (by omega), hd]
    by_cases h1 : k - 1 < s.length
    · rw [List.getElem?_append_left h1, show (k + s.length - 1) % s.length = k - 1 by rw [show k + s.length - 1 = (k - 1) + s.length by omega, Nat.add_mod_right]; exact Nat.mod_eq_of_lt h1]
    · have e : k = s.length + 1 := by omega
      rw [List.getElem?_append_right (by omega), show (k + s.length - 1) % s.length = 0 by rw [show k + s.length - 1 = s.length * 2 by omega]; exact Nat.mul_mod_right _ _, List.getElem?_take, if_pos (by omega), e]
      simp
theorem pad_ch {s : List UInt8} (h : 0 < s.length) {k : Nat} (hk : k < s.length + 2) : ch (pad s) k = ch s ((k + s.length - 1) % s.length) := by
  unfold ch; rw [pad_get h hk]
theorem pad_ok {s : List UInt8} (hs : okR s) (h : 0 < s.length) : okR (pad s) := fun i hi => by
  rw [pad_len h] at hi
  rw [pad_ch h hi]
  exact hs _ (Nat.mod_lt _ h)
theorem ring_ok {ro : List ABlk} {h : Heap} {u : Nat} {s : List UInt8} (hu : u < 256) (hs : okR s) (h0 : 0 < s.length) (hl : s.length ≤ 900) :
    callX F1 ro 51 [.i .u8 u, .s s] h = some (.s (ringS u s), h, h.length, h.length) := by
  refine g51_ok (meansX_ok F1 ro) rfl ?_
  unfold g51
  have e9 : wr .i64 ((s.length : Int) - 1) = ((s.length - 1 : Nat) : Int) := by rw [wr_id' (by omega) (by omega)]; omega
  have b1 : Nat.ble (s.length - 1) s.length = true := by rw [Nat.ble_eq]; omega
  have b2 : Nat.ble 1 s.length = true := by rw [Nat.ble_eq]; omega
  have s1 : evP .e (.slStr (.c (.s s)) (some (.c (.i .i64 ((s.length - 1 : Nat) : Int)))) none) = some (.s (s.drop (s.length - 1))) := by
    have e : ((s.length - 1 : Nat) : Int) = Int.ofNat (s.length - 1) := rfl
    rw [e]
    simp only [evP, ev_slStr, opd, Option.map_some, Option.map_none, sbound, b1, cond_true, List.take_length]
  have s2 : evP .e (.slStr (.c (.s s)) none (some (.c (.i .i64 1)))) = some (.s (s.take 1)) := by
    have e : (1 : Int) = Int.ofNat 1 := rfl
    rw [e]
    simp only [evP, ev_slStr, opd, Option.map_some, Option.map_none, sbound, b2, cond_true, List.drop_zero]
  have add : ∀ a b : List UInt8, a.length + b.length ≤ 100000 → evP .e (.sbin BinOp.add (.c (.s a)) (.c (.s b))) = some (.s (a ++ b)) := fun a b hab => by
    show cond (Nat.ble (a.length + b.length) 1099511627776) (some (AVal.s (a ++ b))) none = _
    rw [show Nat.ble (a.length + b.length) 1099511627776 = true by rw [Nat.ble_eq]; omega]; rfl
  have c1 := callM_pure (call := callX F1 ro) (l := h.length) (p := h.length) (grow_ok (ro := ro) (h := h) hu (pad_ok hs h0) (by rw [pad_len h0]; omega) (by rw [pad_len h0]; omega)) (Nat.le_refl _) (Nat.le_refl _)
  have c1' : callM (callX F1 ro) ⟨h, h.length, h.length⟩ 46 [(.i .u8 u), (.s (s.drop (s.length - 1) ++ s ++ s.take 1))] = some (.s (ringS u s), ⟨h, h.length, h.length⟩) := c1
  simp only [e_len, bindO_some, asI_i, forceI_eq, e9, s1, asS_s, add _ _ (by simp; omega : (s.drop (s.length - 1)).length + s.length ≤ 100000), s2, add _ _ (by simp; omega : (s.drop (s.length - 1) ++ s).length + (s.take 1).length ≤ 100000), meansX_call, c1', bindP_some, tupA]
  exact fin_pure rfl
theorem ofNat_48 {t : Nat} (h : t ≤ 1) : (UInt8.ofNat (48 + t)).toNat = 48 + t := by
  have : t = 0 ∨ t = 1 := by omega
  rcases this with rfl | rfl <;> rfl
theorem ringS_len {u : Nat} {s : List UInt8} (h : 0 < s.length) : (ringS u s).length = s.length := by
  simp only [ringS, growS, List.length_map, List.length_range, pad_len h]; omega
/-- the letters of what a ring becomes -/
theorem ringS_ch {u : Nat} {s : List UInt8} (h : 0 < s.length) {k : Nat} (hk : k < s.length) :
    ch (ringS u s) k = 48 + nx u (4 * bw s ((k + s.length - 1) % s.length) + 2 * bw s k + bw s ((k + 1) % s.length)) := by
  have e : ch (ringS u s) k = (UInt8.ofNat (growV u (pad s) k)).toNat := by
    simp only [ch, ringS, growS, List.getD, List.getElem?_map, pad_len h]
    rw [List.getElem?_range (by omega)]
    rfl
  rw [e]
  unfold growV
  rw [ofNat_48 (nx_le _ _)]
  have p0 : bw (pad s) k = bw s ((k + s.length - 1) % s.length) := by unfold bw; rw [pad_ch h (by omega)]
  have p1 : bw (pad s) (k + 1) = bw s k := by
    unfold bw; rw [pad_ch h (by omega), show (k + 1 + s.length - 1) % s.length = k by rw [show k + 1 + s.length - 1 = k + s.length by omega, Nat.add_mod_right]; exact Nat.mod_eq_of_lt hk]
  have p2 : bw (pad s) (k + 2) = bw s ((k + 1) % s.length) := by
    unfold bw; rw [pad_ch h (by omega), show k + 2 + s.length - 1 = (k + 1) + s.length by omega, Nat.add_mod_right]
  rw [p0, p1, p2]
theorem ringS_ok {u : Nat} {s : List UInt8} (h : 0 < s.length) : okR (ringS u s) := fun i hi => by
  rw [ringS_len h] at hi
  rw [ringS_ch h hi]
  have := nx_le u (4 * bw s ((i + s.length - 1) % s.length) + 2 * bw s i + bw s ((i + 1) % s.length))
  omega
/-- after so many years -/
def yrs (u : Nat) (s : List UInt8) : Nat → List UInt8
  | 0 => s
  | k + 1 => ringS u (yrs u s k)
theorem yrs_spec {u : Nat} {s : List UInt8} (hs : okR s) (h0 : 0 < s.length) : ∀ k, okR (yrs u s k) ∧ (yrs u s k).length = s.length
  | 0 => ⟨hs, rfl⟩
  | k + 1 => by
    obtain ⟨h1, h2⟩ := yrs_spec (u := u) hs h0 k
    exact ⟨ringS_ok (by omega), by show (ringS u (yrs u s k)).length = _; rw [ringS_len (by omega), h2]⟩
def rgE (n : Int) (s : List UInt8) (y : Int) : Int := if askE n s 400 = 0 then (if y < 0 ∨ 1000 < y then 3 else 0) else askE n s 400
def rgS (n : Int) (s : List UInt8) (y : Int) : List UInt8 := if rgE n s y = 0 then yrs n.toNat s y.toNat else []
theorem Ring_ok {ro : List ABlk} {h : Heap} {n y : Int} {s : List UInt8} : callX F1 ro 18 [.i .i64 n, .s s, .i .i64 y] h = some (.tup [.s (rgS n s y), .i .i64 (rgE n s y)], h, h.length, h.length) := by
  refine g18_ok (meansX_ok F1 ro) rfl ?_
  unfold g18
  have c1 := callM_pure (call := callX F1 ro) (l := h.length) (p := h.length) (read_ok (ro := ro) (h := h) (n := n) (s := s)) (Nat.le_refl _) (Nat.le_refl _)
  simp only [meansX_call, c1, bindP_some, e_x0, e_x1, bindO_some, asI_i, eqI_eq, forceB_eq, ltI_eq]
  by_cases h1 : askE n s 400 = 0
  · have b1 : (askE n s 400 == 0) = true := by rw [h1]; rfl
    obtain ⟨p1, p2, p3, p4, p5⟩ := okR_of h1
    obtain ⟨k, rfl⟩ : ∃ k : Nat, n = (k : Int) := ⟨n.toNat, by omega⟩
    have hU : rdU k s = (k : Int) := if_pos h1
    by_cases hy : y < 0 ∨ 1000 < y
    · have e : rgE k s y = 3 := by rw [rgE, if_pos h1, if_pos hy]
      have e2 : rgS k s y = [] := by rw [rgS, e]; rfl
      rw [e, e2]
      by_cases hy1 : y < 0
      · simp only [b1, Bool.not_true, cond_false, decide_eq_true hy1, cond_true, bindO_some, tupA]
        exact fin_pure rfl
      · have hy2 : 1000 < y := by omega
        simp only [b1, Bool.not_true, cond_false, decide_eq_false hy1, decide_eq_true hy2, cond_true, bindO_some, tupA]
        exact fin_pure rfl
    · have e : rgE k s y = 0 := by rw [rgE, if_pos h1, if_neg hy]
      obtain ⟨j, rfl⟩ : ∃ j : Nat, y = (j : Int) := ⟨y.toNat, by omega⟩
      have e2 : rgS k s j = yrs k s j := by rw [rgS, if_pos e]; rfl
      rw [e, e2]
      have hy1 : ¬ ((j : Int) < 0) := by omega
      have hy2 : ¬ ((1000 : Int) < (j : Int)) := by omega
      have lp : ∀ d i, i + d = j → loopX (fun z : List UInt8 × Int × Mm => g18_b1 (meansX F1 ro) ro k j z.1 z.2.1 z.2.2) (yrs k s i, (i : Int), ⟨h, h.length, h.length⟩) = some (yrs k s j, ⟨h, h.length, h.length⟩) := by
        intro d
        induction d with
        | zero =>
          intro i hi
          obtain rfl : i = j := by omega
          exact loopX_out (by
            have : decide ((i : Int) < (i : Int)) = false := lt_no
            simp only [g18_b1, forceB_eq, ltI_eq, this, cond_false])
        | succ d ih =>
          intro i hi
          obtain ⟨q1, q2⟩ := yrs_spec (u := k) p5 p4 i
          have hlt : ((i : Int) < (j : Int)) := by omega
          have cr := callM_pure (call := callX F1 ro) (l := h.length) (p := h.length) (ring_ok (ro := ro) (h := h) (by omega : k < 256) q1 (by omega) (by omega)) (Nat.le_refl _) (Nat.le_refl _)
          refine loopX_on (s' := (yrs k s (i + 1), ((i + 1 : Nat) : Int), ⟨h, h.length, h.length⟩)) ?_ (ih (i + 1) (by omega))
          simp only [g18_b1, forceB_eq, ltI_eq, decide_eq_true hlt, cond_true, meansX_call, cr, bindP_some, asS_s, forceI_eq, wr_next (by omega : i ≤ 1000000)]
          rfl
      have lp0 := lp j 0 (by omega)
      have e0 : ((0 : Nat) : Int) = 0 := rfl
      rw [e0] at lp0
      have lp0' : loopX (fun z : List UInt8 × Int × Mm => g18_b1 (meansX F1 ro) ro k j z.1 z.2.1 z.2.2) (s, 0, ⟨h, h.length, h.length⟩) = some (yrs k s j, ⟨h, h.length, h.length⟩) := lp0
      simp only [b1, Bool.not_true, cond_false, decide_eq_false hy1, decide_eq_false hy2, bindO_some, hU, meansX_loop, lp0', tupA]
      exact fin_pure rfl
  · have b1 : (askE n s 400 == 0) = false := beq_eq_false_iff_ne.2 h1
    have e : rgE n s y = askE n s 400 := if_neg h1
    have e2 : rgS n s y = [] := by rw [rgS, e, if_neg h1]
    simp only [b1, Bool.not_false, cond_true, e, e2, tupA]
    exact fin_pure rfl
end Go.Proofs.Ytgbkicelkpagpaa.W

/- Rows reversed, and with 0 and 1 exchanged. -/
open Go.Vm
set_option linter.unusedVariables false
namespace Go.Proofs.Ytgbkicelkpagpaa.W
open Go

/- strings letter by letter -/
theorem str_ext {a b : List UInt8} (hl : a.length = b.length) (h : ∀ i, i < a.length → ch a i = ch b i) : a = b := by
  apply List.ext_getElem hl
  intro i h1 h2
  have := h i h1
  simp only [ch, List.getD, List.getElem?_eq_getElem h1, List.getElem?_eq_getElem h2, Option.getD_some] at this
  exact UInt8.toNat_inj.1 this
end Go.Proofs.Ytgbkicelkpagpaa.W

/- Rows as lists of numbers: Grow, and the reference's Grow and Ring. -/
open Go.Vm
set_option linter.unusedVariables false
namespace Go.Proofs.Ytgbkicelkpagpaa.W
open Go

/-- numbers as a vector in memory, behind what was there -/
structure NV (h hp : Heap) (b n : Nat) (f : Nat → Nat) : Prop where
  vec : Vec hp 3 b n (fun i => .i .i64 (f i : Nat))
  new : h.length ≤ b
  len : h.length ≤ hp.length
  keep : ∀ j, j < h.length → hp[j]? = h[j]?

theorem e_lenS {q : Vm.Loc} {k : Nat} {cap : Cap} : evP .e (.len false (.c (.sl q k cap))) = some (.i .i64 (k : Nat)) := by simp only [evP, ev_len, opd, cond_false, mkI, forceI_eq]
theorem take_keep {h hp : Heap} (hl : h.length ≤ hp.length) (hk : ∀ j, j < h.length → hp[j]? = h[j]?) : hp.take h.length = h := by
  apply List.ext_getElem?
  intro j
  rw [List.getElem?_take]
  by_cases hj : j < h.length
  · rw [if_pos hj, hk j hj]
  · rw [if_neg hj, List.getElem?_eq_none (by omega)]

/- Grow -/
/- the reference's plots and row -/
/- the reference's ring -/
theorem NV.congr {h hp : Heap} {b n : Nat} {f f' : Nat → Nat} (h1 : NV h hp b n f) (hc : ∀ i, i < n → f i = f' i) : NV h hp b n f' :=
  ⟨h1.vec.congr fun r hr => by rw [hc r hr], h1.new, h1.len, h1.keep⟩
end Go.Proofs.Ytgbkicelkpagpaa.W

/- The sets of pairs from which the rest of a row can come; Back; Rings. -/
open Go.Vm
set_option linter.unusedVariables false
namespace Go.Proofs.Ytgbkicelkpagpaa.W
open Go

/- from which pairs the rest of a row can come -/
/- the least row -/
/- one more behind a vector whose room is full or open -/
/-- a loop that counts, whatever it carries -/
theorem loop_seq {S R : Type} {b : S → Option (S ⊕ R)} (n : Nat) (I : Nat → S → Prop) (Q : R → Prop) (hin : ∀ i s, i < n → I i s → ∃ s', b s = some (.inl s') ∧ I (i + 1) s') (hout : ∀ s, I n s → ∃ r, b s = some (.inr r) ∧ Q r) :
    ∀ (k i : Nat) (s : S), i + k = n → I i s → ∃ r, loopX b s = some r ∧ Q r
  | 0, i, s, hk, hi => by
    obtain rfl : i = n := by omega
    obtain ⟨r, h1, h2⟩ := hout s hi
    exact ⟨r, loopX_out h1, h2⟩
  | k + 1, i, s, hk, hi => by
    obtain ⟨s', h1, h2⟩ := hin i s (by omega) hi
    obtain ⟨r, h3, h4⟩ := loop_seq n I Q hin hout k (i + 1) s' (by omega) h2
    exact ⟨r, loopX_on h1 h3, h4⟩

end Go.Proofs.Ytgbkicelkpagpaa.W

/- Back and Rings: what they answer. -/
open Go.Vm
set_option linter.unusedVariables false
namespace Go.Proofs.Ytgbkicelkpagpaa.W
open Go

end Go.Proofs.Ytgbkicelkpagpaa.W

/- Back and Rings of the program. -/
open Go.Vm
set_option linter.unusedVariables false
namespace Go.Proofs.Ytgbkicelkpagpaa.W
open Go

/- Rings -/
def oneF (p j : Nat) : Nat := if j = p then 1 else 0
def sumR (u : Nat) (s : List UInt8) : Nat → Nat
  | 0 => 0
  | p + 1 => sumR u s p + wkN u s (oneF p) s.length p
def rgN (n : Int) (s : List UInt8) : Int := if shE n s = 0 then (sumR n.toNat s 4 : Nat) else 0
theorem oneF_le (p j : Nat) : oneF p j ≤ 1 := by unfold oneF; split <;> omega
theorem ixV4 {g : Nat → Nat} {p : Nat} (hp : p < 4) : evP .e (.ixV 4 1 true (.c (agg4 g)) (.c (.i .i64 (p : Int)))) = some (.i .i64 (g p : Nat)) := by
  rcases (by omega : p = 0 ∨ p = 1 ∨ p = 2 ∨ p = 3) with rfl | rfl | rfl | rfl <;> rfl
theorem sumR_le {u : Nat} {s : List UInt8} (hl : s.length ≤ 50) : ∀ p, p ≤ 4 → sumR u s p ≤ p * 1125899906842624
  | 0, _ => Nat.zero_le _
  | p + 1, hp => by
    have ih := sumR_le (u := u) hl p (by omega)
    have h1 := wkN_le (u := u) (s := s) (from' := oneF p) (fun j _ => oneF_le p j) s.length p (by omega)
    have h2 := pow50 hl
    show sumR u s p + wkN u s (oneF p) s.length p ≤ _
    omega
theorem shE_zero {n : Int} {s : List UInt8} (h1 : shE n s = 0) : askE n s 400 = 0 ∧ s.length ≤ 50 := by
  by_cases hh : askE n s 400 = 0 ∧ 50 < s.length
  · rw [shE, if_pos hh] at h1; cases h1
  · rw [shE, if_neg hh] at h1
    refine ⟨h1, ?_⟩
    rcases Nat.lt_or_ge 50 s.length with h | h
    · exact absurd ⟨h1, h⟩ hh
    · exact h
theorem Rings_ok {ro : List ABlk} {h : Heap} {n : Int} {s : List UInt8} : callX F1 ro 24 [.i .i64 n, .s s] h = some (.tup [.i .i64 (rgN n s), .i .i64 (shE n s)], h, h.length, h.length) := by
  refine g24_ok (meansX_ok F1 ro) rfl ?_
  unfold g24
  have c1 := callM_pure (call := callX F1 ro) (l := h.length) (p := h.length) (short_ok (ro := ro) (h := h) (n := n) (s := s)) (Nat.le_refl _) (Nat.le_refl _)
  unfold rgN
  simp only [meansX_call, c1, bindP_some, e_x0, e_x1, bindO_some, asI_i, eqI_eq, forceB_eq]
  by_cases h1 : shE n s = 0
  · obtain ⟨hask, h50⟩ := shE_zero h1
    obtain ⟨p1, p2, p3, p4, p5⟩ := okR_of hask
    obtain ⟨k, rfl⟩ : ∃ k : Nat, n = (k : Int) := ⟨n.toNat, by omega⟩
    have hU : shU k s = (k : Int) := by rw [shU, if_neg (fun hh => by omega), rdU, if_pos hask]
    obtain ⟨r, k1, hq, rfl, q1, q2⟩ := loop_seq (b := fun z : Int × Int × Mm => g24_b0 (meansX F1 ro) ro s k z.1 z.2.1 z.2.2) 4
      (fun p z => ∃ hp, z = (((sumR k s p : Nat) : Int), (p : Int), ⟨hp, h.length, h.length⟩) ∧ h.length ≤ hp.length ∧ ∀ j, j < h.length → hp[j]? = h[j]?)
      (fun r => ∃ hp, r = (((sumR k s 4 : Nat) : Int), ⟨hp, h.length, h.length⟩) ∧ h.length ≤ hp.length ∧ ∀ j, j < h.length → hp[j]? = h[j]?)
      (fun p z hp4 hI => by
        obtain ⟨hp, rfl, hlen, hkeep⟩ := hI
        have hlt : decide ((p : Int) < 4) = true := by simp; omega
        have ha := al4 (ro := ro) (hp := hp) (l := h.length) (p := h.length)
        have h9 := blk4_0 hp
        generalize hBn : hp ++ [some (blkOf 63 [(AVal.i IntKind.i64 0), (AVal.i IntKind.i64 0), (AVal.i IntKind.i64 0), (AVal.i IntKind.i64 0)])] = Hn at ha h9
        have hLn : Hn.length = hp.length + 1 := by rw [← hBn]; simp
        have hKn : ∀ k, k < hp.length → Hn[k]? = hp[k]? := fun k hk => by rw [← hBn]; exact List.getElem?_append_left hk
        obtain ⟨y, s1, s2⟩ := Vec.set (ro := ro) (l := h.length) (p := h.length) h9 (r := p) hp4 (v := .i .i64 1) rfl rfl rfl
        rw [Nat.min_eq_left hlen] at s1
        have v4 : V4 (Hn.set hp.length y) hp.length (oneF p) := s2.congr fun r hr => by
          show (if r = p then _ else _) = _
          unfold oneF
          by_cases e : r = p
          · rw [if_pos e, if_pos e]; rfl
          · rw [if_neg e, if_neg e]
        have ld := V4.ld4 (ro := ro) (l := h.length) (p := h.length) v4
        have hl2 : (Hn.set hp.length y).length = hp.length + 1 := by rw [List.length_set]; exact hLn
        have cw := callM_pure (call := callX F1 ro) (l := h.length) (p := h.length) (walks_ok (ro := ro) (h := Hn.set hp.length y) (f := oneF p) (by omega : k < 256) p5 h50 (fun j _ => oneF_le p j)) (by omega) (by omega)
        have hs4 := sumR_le (u := k) h50 p (by omega)
        have hs5 := sumR_le (u := k) h50 (p + 1) (by omega)
        have ew : wr .i64 (((sumR k s p : Nat) : Int) + ((wkN k s (oneF p) s.length p : Nat) : Int)) = ((sumR k s (p + 1) : Nat) : Int) := by
          have e : sumR k s (p + 1) = sumR k s p + wkN k s (oneF p) s.length p := rfl
          have h6 : (p + 1) * 1125899906842624 ≤ 4 * 1125899906842624 := Nat.mul_le_mul_right _ (by omega)
          rw [wr_id' (by omega) (by omega)]; omega
        refine ⟨_, ?_, Hn.set hp.length y, rfl, by omega, fun j hj => by rw [List.getElem?_set_ne (by omega), hKn j (by omega), hkeep j hj]⟩
        simp only [g24_b0, ltI_eq, forceB_eq, hlt, cond_true, ha, bindP_some, ixA4 hp4, bindO_some, s1, ld, meansX_call, cw, ixV4 hp4, asI_i, forceI_eq, ew, wr_next (by omega : p ≤ 1000000)])
      (fun z hI => by
        obtain ⟨hp, rfl, hlen, hkeep⟩ := hI
        refine ⟨_, ?_, hp, rfl, hlen, hkeep⟩
        have : decide ((4 : Int) < 4) = false := rfl
        show g24_b0 (meansX F1 ro) ro s k _ 4 _ = _
        simp only [g24_b0, ltI_eq, forceB_eq, this, cond_false])
      4 0 (0, 0, ⟨h, h.length, h.length⟩) rfl ⟨h, rfl, Nat.le_refl _, fun _ _ => rfl⟩
    have z0 : ((0 : Int) == 0) = true := rfl
    simp only [h1, z0, Bool.not_true, cond_false, hU, meansX_loop, k1, bindO_some, if_true, Int.toNat_natCast, tupA]
    rw [fin_take (by rfl), take_keep q1 q2]
  · have b1 : (shE n s == 0) = false := beq_eq_false_iff_ne.2 h1
    simp only [b1, Bool.not_false, cond_true, if_neg h1, tupA]
    exact fin_pure rfl
end Go.Proofs.Ytgbkicelkpagpaa.W

/- The reference's walks: ways, small, sum, one, can; Ways and Rings. -/
open Go.Vm
set_option linter.unusedVariables false
namespace Go.Proofs.Ytgbkicelkpagpaa.W
open Go

/- walks by a function of the letters -/
theorem st1_eq (u c : Nat) (a to : Nat → Nat) (t j : Nat) : st1 u c a to t j = to j + (if j = t % 4 ∧ nx u t = c then a (t / 2) else 0) := by
  unfold st1
  by_cases h1 : nx u t = c
  · by_cases h2 : j = t % 4
    · simp [h1, h2]
    · simp [h1, h2]
  · simp [h1]
theorem nxt_eq {u c : Nat} {a : Nat → Nat} {j : Nat} (hj : j < 4) : nxt u c a j = (if nx u j = c then a (j / 2) else 0) + (if nx u (j + 4) = c then a (j / 2 + 2) else 0) := by
  rcases (by omega : j = 0 ∨ j = 1 ∨ j = 2 ∨ j = 3) with rfl | rfl | rfl | rfl <;> simp [nxt, stp, st1_eq]
/- one, small, sum -/
/- ways -/
end Go.Proofs.Ytgbkicelkpagpaa.W

/- Sums over all rows; what Back and Ways have to do with one another. -/
open Go.Vm
set_option linter.unusedVariables false
namespace Go.Proofs.Ytgbkicelkpagpaa.W
open Go

theorem ask_row {n : Nat} {s : List UInt8} (hn : n < 256) (hl : s.length ≤ 400) (h0 : 0 < s.length) (hs : okR s) : askE n s 400 = 0 := by
  unfold askE
  rw [if_neg (by omega)]
  unfold rowE
  rw [if_neg (by omega)]
  have he : s.isEmpty = false := by
    cases s with
    | nil => simp at h0
    | cons a l => rfl
  rw [he, if_neg (by decide)]
  have hb : badR s = false := by
    refine List.any_eq_false.2 fun i hi => ?_
    unfold bad
    rcases hs i (List.mem_range.1 hi) with e | e <;> rw [e] <;> decide
  rw [hb]; rfl

/- sums -/
/- each pair goes on to two -/
/- Ways above 0 -/
/- Back becomes the row -/
end Go.Proofs.Ytgbkicelkpagpaa.W

/- The reference's can, Back, Ways and Rings. -/
open Go.Vm
set_option linter.unusedVariables false
namespace Go.Proofs.Ytgbkicelkpagpaa.W
open Go

/- cuts of a list -/
/- Ways -/
/- Rings -/
end Go.Proofs.Ytgbkicelkpagpaa.W

/- The reference's Back. -/
open Go.Vm
set_option linter.unusedVariables false
namespace Go.Proofs.Ytgbkicelkpagpaa.W
open Go

end Go.Proofs.Ytgbkicelkpagpaa.W

/- The reference's orphans: by contract, and a search on numbers that is reckoned for all rules. -/
open Go.Vm
set_option linter.unusedVariables false
namespace Go.Proofs.Ytgbkicelkpagpaa.W
open Go

/- sets of pairs as numbers of four bits -/
section
variable {g : Nat → Nat} (hg : ∀ j, j < 4 → g j ≤ 1)
include hg
end
/- the search -/
/- what is in memory -/
structure OIv (hp : Heap) (S : List Nat) (W : List (List UInt8)) (b4 : Nat) (cap4 : Cap) (b5 : Nat) (cap5 : Cap) (bb : Nat → Nat) (cc : Nat → Cap) : Prop where
  hlen : W.length = S.length
  pos : 0 < S.length
  c4 : cap4 = .grow ∨ cap4 = .known S.length
  c5 : cap5 = .grow ∨ cap5 = .known S.length
  vec4 : Vec hp 55 b4 S.length (fun i => .sl ⟨false, bb i, 0⟩ 4 (cc i))
  vec5 : Vec hp 9 b5 S.length (fun i => .s (W.getD i []))
  rows : ∀ i, i < S.length → Vec hp 3 (bb i) 4 (fun j => .i .i64 (nx (S.getD i 0) j : Nat))
  lt16 : ∀ i, i < S.length → S.getD i 0 < 16
  wlen : ∀ i, i < S.length → (W.getD i []).length ≤ S.length
section
variable {hp hp' : Heap} {S : List Nat} {W : List (List UInt8)} {b4 b5 : Nat} {cap4 cap5 : Cap} {bb : Nat → Nat} {cc : Nat → Cap}
theorem OIv.keep (h : OIv hp S W b4 cap4 b5 cap5 bb cc) (hk : ∀ j, j < hp.length → hp'[j]? = hp[j]?) : OIv hp' S W b4 cap4 b5 cap5 bb cc :=
  ⟨h.hlen, h.pos, h.c4, h.c5, h.vec4.keep (hk _ h.vec4.lt), h.vec5.keep (hk _ h.vec5.lt), fun i hi => (h.rows i hi).keep (hk _ (h.rows i hi).lt), h.lt16, h.wlen⟩
end

end Go.Proofs.Ytgbkicelkpagpaa.W

/- Rings that come again: numbers of rows, and when one comes again. -/
open Go.Vm
set_option linter.unusedVariables false
namespace Go.Proofs.Ytgbkicelkpagpaa.W
open Go

/- the number of a row -/
def numF (f : Nat → Nat) : Nat → Nat
  | 0 => 0
  | k + 1 => 2 * numF f k + f k
theorem numF_lt {f : Nat → Nat} : ∀ {k : Nat}, (∀ i, i < k → f i < 2) → numF f k < 2 ^ k
  | 0, _ => by show 0 < 1; omega
  | k + 1, h => by
    have h1 := numF_lt (k := k) fun i hi => h i (by omega)
    have h2 := h k (by omega)
    show 2 * numF f k + f k < _
    rw [Nat.pow_succ]; omega
theorem numF_inj {f g : Nat → Nat} : ∀ {k : Nat}, (∀ i, i < k → f i < 2) → (∀ i, i < k → g i < 2) → numF f k = numF g k → ∀ i, i < k → f i = g i
  | 0, _, _, _, i, hi => by omega
  | k + 1, hf, hg, he, i, hi => by
    have h1 := hf k (by omega)
    have h2 := hg k (by omega)
    have e : 2 * numF f k + f k = 2 * numF g k + g k := he
    by_cases hik : i = k
    · subst hik; omega
    · exact numF_inj (k := k) (fun i hi => hf i (by omega)) (fun i hi => hg i (by omega)) (by omega) i (by omega)
def numS (s : List UInt8) : Nat := numF (bw s) s.length
theorem numS_lt {s : List UInt8} (hs : okR s) : numS s < 2 ^ s.length := numF_lt fun i hi => (bw_lt hs hi).1
theorem numS_inj {a b : List UInt8} (ha : okR a) (hb : okR b) (hl : a.length = b.length) (h : numS a = numS b) : a = b :=
  str_ext hl fun i hi => by
    unfold numS at h
    rw [← hl] at h
    have := numF_inj (k := a.length) (fun i hi => (bw_lt ha hi).1) (fun i hi => (bw_lt hb (by omega)).1) h i hi
    unfold bw at this
    rcases ha i hi with e1 | e1 <;> rcases hb i (by omega) with e2 | e2 <;> omega
theorem eqL_num {a b : List UInt8} (ha : okR a) (hb : okR b) (hl : a.length = b.length) : eqL a b = Nat.beq (numS a) (numS b) := by
  cases h : Nat.beq (numS a) (numS b) with
  | true =>
    have := numS_inj ha hb hl (beq_iff.1 h)
    rw [this]; exact eqL_self b
  | false =>
    cases h2 : eqL a b with
    | false => rfl
    | true =>
      have : a = b := by rw [eqL_eq] at h2; exact eq_of_beq h2
      rw [this, Nat.beq_refl] at h; cases h

/- when it comes again -/
def nY (u : Nat) (s : List UInt8) (i : Nat) : Nat := numS (yrs u s i)
def fndY (u : Nat) (s : List UInt8) (y k : Nat) : Option Nat := (List.range y).find? fun i => Nat.beq (nY u s i) k
def stl (u : Nat) (s : List UInt8) : Nat → Nat → Option (Nat × Nat)
  | 0, _ => none
  | k + 1, y => match fndY u s y (nY u s y) with
    | some i => some (i, y - i)
    | none => stl u s k (y + 1)
theorem fndY_none {u : Nat} {s : List UInt8} {y k : Nat} : fndY u s y k = none ↔ ∀ i, i < y → nY u s i ≠ k := by
  unfold fndY
  rw [List.find?_eq_none]
  constructor
  · intro h i hi e
    have := h i (List.mem_range.2 hi)
    rw [e, Nat.beq_refl] at this
    exact this rfl
  · intro h i hi hb
    exact h i (List.mem_range.1 hi) (beq_iff.1 hb)
theorem fndY_some {u : Nat} {s : List UInt8} {y k i : Nat} (h : fndY u s y k = some i) : i < y ∧ nY u s i = k := by
  have h1 := List.mem_of_find?_eq_some h
  have h2 := List.find?_some h
  exact ⟨List.mem_range.1 h1, beq_iff.1 h2⟩
theorem stl_some {u : Nat} {s : List UInt8} : ∀ (k y : Nat), (∃ z, y ≤ z ∧ z < y + k ∧ fndY u s z (nY u s z) ≠ none) → ∃ r, stl u s k y = some r
  | 0, y, ⟨z, h1, h2, _⟩ => by omega
  | k + 1, y, ⟨z, h1, h2, h3⟩ => by
    unfold stl
    cases hf : fndY u s y (nY u s y) with
    | some i => exact ⟨_, rfl⟩
    | none =>
      refine stl_some k (y + 1) ⟨z, ?_, by omega, h3⟩
      by_cases e : z = y
      · rw [e] at h3; exact absurd hf h3
      · omega
/-- a ring comes again within as many years as there are rings -/
theorem comes_again {u : Nat} {s : List UInt8} (hs : okR s) (h0 : 0 < s.length) : ∃ r, stl u s (2 ^ s.length + 1) 0 = some r := by
  refine stl_some _ 0 (Classical.byContradiction fun hno => ?_)
  have hall : ∀ z, z < 2 ^ s.length + 1 → ∀ i, i < z → nY u s i ≠ nY u s z := fun z hz i hi e => by
    refine hno ⟨z, Nat.zero_le _, by omega, fun hf => ?_⟩
    exact fndY_none.1 hf i hi e
  have hnd : ((List.range (2 ^ s.length + 1)).map (nY u s)).Nodup := by
    rw [List.Nodup, List.pairwise_map]
    refine List.Pairwise.imp_of_mem ?_ List.nodup_range
    intro a b ha hb hab he
    have ha' := List.mem_range.1 ha
    have hb' := List.mem_range.1 hb
    rcases Nat.lt_trichotomy a b with h | h | h
    · exact hall b hb' a h he
    · exact hab h
    · exact hall a ha' b h he.symm
  have h1 := nodup_len (l' := List.range (2 ^ s.length)) hnd fun x hx => by
    obtain ⟨i, hi, rfl⟩ := List.mem_map.1 hx
    obtain ⟨p, q⟩ := yrs_spec (u := u) hs h0 i
    have := numS_lt p
    rw [q] at this
    exact List.mem_range.2 this
  simp at h1
  omega
def setV (u : Nat) (s : List UInt8) : Nat × Nat := (stl u s (2 ^ s.length + 1) 0).getD (0, 0)
theorem setV_eq {u : Nat} {s : List UInt8} (hs : okR s) (h0 : 0 < s.length) : stl u s (2 ^ s.length + 1) 0 = some (setV u s) := by
  obtain ⟨r, hr⟩ := comes_again (u := u) hs h0
  unfold setV
  rw [hr]; rfl

/- what a map holds -/
def mapY (u : Nat) (s : List UInt8) (y : Nat) : List (List UInt8 × AVal) := (List.range y).map fun i => (yrs u s i, .i .i64 (i : Nat))
theorem mfind_map {w : Nat → List UInt8} {q : List UInt8} : ∀ (l : List Nat), mfind (l.map fun i => (w i, AVal.i .i64 (i : Nat))) q = (l.find? fun i => eqL (w i) q).map fun i => AVal.i .i64 (i : Nat)
  | [] => rfl
  | i :: l => by
    show cond (eqL (w i) q) (some (AVal.i .i64 (i : Nat))) (mfind (l.map fun i => (w i, AVal.i .i64 (i : Nat))) q) = _
    cases h : eqL (w i) q with
    | true => rw [List.find?_cons_of_pos (by exact h)]; rfl
    | false => rw [List.find?_cons_of_neg (by rw [h]; decide), mfind_map l]; rfl
theorem mput_none {q : List UInt8} {v : AVal} : ∀ {l : List (List UInt8 × AVal)}, mfind l q = none → mput l q v = l ++ [(q, v)]
  | [], _ => rfl
  | (k, x) :: l, h => by
    unfold mfind at h
    unfold mput
    cases he : eqL k q with
    | true => rw [he] at h; cases h
    | false => rw [he] at h; rw [cond_false, mput_none h]; rfl
theorem mfindY {u y : Nat} {s : List UInt8} (hs : okR s) (h0 : 0 < s.length) : mfind (mapY u s y) (yrs u s y) = (fndY u s y (nY u s y)).map fun i => AVal.i .i64 (i : Nat) := by
  unfold mapY
  rw [mfind_map]
  congr 1
  unfold fndY
  congr 1
  funext i
  obtain ⟨p, q⟩ := yrs_spec (u := u) hs h0 i
  obtain ⟨p', q'⟩ := yrs_spec (u := u) hs h0 y
  exact eqL_num p p' (by omega)
theorem mputY {u y : Nat} {s : List UInt8} (hs : okR s) (h0 : 0 < s.length) (hn : fndY u s y (nY u s y) = none) : mput (mapY u s y) (yrs u s y) (.i .i64 (y : Nat)) = mapY u s (y + 1) := by
  rw [mput_none (by rw [mfindY hs h0, hn]; rfl)]
  unfold mapY
  rw [List.range_succ, List.map_append]
  rfl
/- what the list of years holds -/
end Go.Proofs.Ytgbkicelkpagpaa.W

/- Settle, the program's by a map and the reference's by a list of years. -/
open Go.Vm
set_option linter.unusedVariables false
namespace Go.Proofs.Ytgbkicelkpagpaa.W
open Go

/- maps in memory -/
def mapB (l : List (List UInt8 × AVal)) : ABlk := { e := 0, n := 0, c := .e, g := some l }
theorem mkm_ok {ro : List ABlk} {hp : Heap} {l p : Nat} : stepM ro ⟨hp, l, p⟩ .mkm = some (.mp hp.length, ⟨hp ++ [some (mapB [])], l, p⟩) := rfl
theorem mlk_ok {ro : List ABlk} {hp : Heap} {l p b : Nat} {L : List (List UInt8 × AVal)} {ok : Bool} {z : AVal} {q : List UInt8} (hb : lget hp b = some (some (mapB L))) :
    stepM ro ⟨hp, l, p⟩ (.mlk ok z (.c (.mp b)) (.c (.s q))) = some (mlkV ok z (mfind L q), ⟨hp, l, p⟩) := by
  have hb' : lget (Mm.st ⟨hp, l, p⟩ .e).h b = some (some (mapB L)) := hb
  simp only [stepM, stepK, st_mlk, opd, hb']
  rfl
theorem mup_ok {ro : List ABlk} {hp : Heap} {l p b : Nat} {L : List (List UInt8 × AVal)} {v : AVal} {q : List UInt8} (hb : lget hp b = some (some (mapB L))) (hv : v.scalar = true) :
    stepM ro ⟨hp, l, p⟩ (.mup (.c (.mp b)) (.c (.s q)) (.c v)) = some (und, ⟨hp.set b (some (mapB (mput L q v))), min l b, p⟩) := by
  have hb' : lget (Mm.st ⟨hp, l, p⟩ .e).h b = some (some (mapB L)) := hb
  simp only [stepM, stepK, st_mup, opd, hb', hv]
  show some (und, (⟨lset (some (mapB (mput L q v))) hp b, min l b, p⟩ : Mm)) = _
  rw [lset_eq]
theorem set_last (h : Heap) (x y : Option ABlk) : (h ++ [x]).set h.length y = h ++ [y] := by simp

def stE (n : Int) (s : List UInt8) : Int := if askE n s 400 = 0 ∧ 16 < s.length then 2 else askE n s 400
def stA (n : Int) (s : List UInt8) : Int := if stE n s = 0 then ((setV n.toNat s).1 : Nat) else 0
def stB (n : Int) (s : List UInt8) : Int := if stE n s = 0 then ((setV n.toNat s).2 : Nat) else 0
theorem pow16 {i : Nat} (h : i ≤ 16) : 2 ^ i ≤ 65536 := Nat.le_trans (Nat.pow_le_pow_right (by omega) h) (by decide)

theorem settle_loop {ro : List ABlk} {h : Heap} {u : Nat} {s : List UInt8} (hu : u < 256) (hs : okR s) (h0 : 0 < s.length) (hl : s.length ≤ 16) : ∀ (k y : Nat) (r : Nat × Nat), stl u s k y = some r → y + k ≤ 100000 →
    ∃ L, loopX (fun z : List UInt8 × Int × Mm => g34_b0 (meansX F1 ro) ro u (.mp h.length) z.1 z.2.1 z.2.2) (yrs u s y, (y : Int), ⟨h ++ [some (mapB (mapY u s y))], h.length, h.length⟩) = some ((r.1 : Int), (r.2 : Int), 0, ⟨h ++ [some (mapB L)], h.length, h.length⟩)
  | 0, y, r, hr, _ => by cases hr
  | k + 1, y, r, hr, hk => by
    have hb : lget (h ++ [some (mapB (mapY u s y))]) h.length = some (some (mapB (mapY u s y))) := lget_last _ _
    have c1 := mlk_ok (ro := ro) (l := h.length) (p := h.length) (ok := true) (z := AVal.i IntKind.i64 0) (q := yrs u s y) hb
    rw [mfindY hs h0] at c1
    unfold stl at hr
    cases hf : fndY u s y (nY u s y) with
    | some i =>
      rw [hf] at hr c1
      cases hr
      obtain ⟨hi, _⟩ := fndY_some hf
      have c1' : stepM ro ⟨h ++ [some (mapB (mapY u s y))], h.length, h.length⟩ (.mlk true (AVal.i IntKind.i64 0) (.c (.mp h.length)) (.c (.s (yrs u s y)))) = some (.tup [.i .i64 (i : Nat), .b true], ⟨h ++ [some (mapB (mapY u s y))], h.length, h.length⟩) := c1
      have ew : wr .i64 ((y : Int) - (i : Int)) = ((y - i : Nat) : Int) := by rw [wr_id' (by omega) (by omega)]; omega
      refine ⟨mapY u s y, loopX_out ?_⟩
      simp only [g34_b0, c1', bindP_some, e_x0, e_x1, bindO_some, asI_i, asB_b, cond_true, forceI_eq, ew]
    | none =>
      rw [hf] at hr c1
      have c1' : stepM ro ⟨h ++ [some (mapB (mapY u s y))], h.length, h.length⟩ (.mlk true (AVal.i IntKind.i64 0) (.c (.mp h.length)) (.c (.s (yrs u s y)))) = some (.tup [.i .i64 0, .b false], ⟨h ++ [some (mapB (mapY u s y))], h.length, h.length⟩) := c1
      have c2 := mup_ok (ro := ro) (l := h.length) (p := h.length) (v := AVal.i .i64 (y : Nat)) (q := yrs u s y) hb rfl
      rw [mputY hs h0 hf, set_last, Nat.min_self] at c2
      obtain ⟨p, q⟩ := yrs_spec (u := u) hs h0 y
      have c3 := callM_pure (call := callX F1 ro) (l := h.length) (p := h.length) (ring_ok (ro := ro) (h := h ++ [some (mapB (mapY u s (y + 1)))]) hu p (by omega) (by omega)) (by simp) (by simp)
      obtain ⟨L, ih⟩ := settle_loop (ro := ro) (h := h) hu hs h0 hl k (y + 1) r hr (by omega)
      refine ⟨L, loopX_on ?_ ih⟩
      simp only [g34_b0, c1', bindP_some, e_x0, e_x1, bindO_some, asI_i, asB_b, cond_false, c2, meansX_call, c3, asS_s, forceI_eq, wr_next (by omega : y ≤ 1000000)]
      rfl
theorem Settle_ok {ro : List ABlk} {h : Heap} {n : Int} {s : List UInt8} : callX F1 ro 34 [.i .i64 n, .s s] h = some (.tup [.i .i64 (stA n s), .i .i64 (stB n s), .i .i64 (stE n s)], h, h.length, h.length) := by
  refine g34_ok (meansX_ok F1 ro) rfl ?_
  unfold g34
  have c1 := callM_pure (call := callX F1 ro) (l := h.length) (p := h.length) (read_ok (ro := ro) (h := h) (n := n) (s := s)) (Nat.le_refl _) (Nat.le_refl _)
  simp only [meansX_call, c1, bindP_some, e_x0, e_x1, bindO_some, asI_i, eqI_eq, forceB_eq, e_len, ltI_eq]
  by_cases h1 : askE n s 400 = 0
  · have b1 : (askE n s 400 == 0) = true := by rw [h1]; rfl
    obtain ⟨p1, p2, p3, p4, p5⟩ := okR_of h1
    obtain ⟨k, rfl⟩ : ∃ k : Nat, n = (k : Int) := ⟨n.toNat, by omega⟩
    by_cases h16 : 16 < s.length
    · have e : stE k s = 2 := by rw [stE, if_pos ⟨h1, h16⟩]
      have ea : stA k s = 0 := by rw [stA, e]; rfl
      have eb : stB k s = 0 := by rw [stB, e]; rfl
      have h16' : ((16 : Int) < (s.length : Int)) := by omega
      simp only [b1, Bool.not_true, cond_false, decide_eq_true h16', cond_true, e, ea, eb, tupA]
      exact fin_pure rfl
    · have e : stE k s = 0 := by rw [stE, if_neg (fun hh => h16 hh.2), h1]
      have ea : stA k s = ((setV k s).1 : Nat) := by rw [stA, if_pos e]; rfl
      have eb : stB k s = ((setV k s).2 : Nat) := by rw [stB, if_pos e]; rfl
      have h16' : ¬ ((16 : Int) < (s.length : Int)) := by omega
      have hU : rdU k s = (k : Int) := if_pos h1
      have hp := pow16 (by omega : s.length ≤ 16)
      obtain ⟨L, lp⟩ := settle_loop (ro := ro) (h := h) (by omega : k < 256) p5 p4 (by omega) _ 0 _ (setV_eq p5 p4) (by omega)
      have e0 : ((0 : Nat) : Int) = 0 := rfl
      rw [e0] at lp
      have lp' : loopX (fun z : List UInt8 × Int × Mm => g34_b0 (meansX F1 ro) ro k (.mp h.length) z.1 z.2.1 z.2.2) (s, 0, ⟨h ++ [some (mapB [])], h.length, h.length⟩) = some (((setV k s).1 : Int), ((setV k s).2 : Int), 0, ⟨h ++ [some (mapB L)], h.length, h.length⟩) := lp
      simp only [b1, Bool.not_true, cond_false, decide_eq_false h16', mkm_ok, bindP_some, hU, meansX_loop, lp', bindO_some, e, ea, eb, tupA]
      rw [fin_take (by rfl)]
      simp
  · have b1 : (askE n s 400 == 0) = false := beq_eq_false_iff_ne.2 h1
    have e : stE n s = askE n s 400 := by rw [stE, if_neg (fun hh => h1 hh.1)]
    have ea : stA n s = 0 := by rw [stA, e, if_neg h1]
    have eb : stB n s = 0 := by rw [stB, e, if_neg h1]
    simp only [b1, Bool.not_false, cond_true, e, ea, eb, tupA]
    exact fin_pure rfl

/- the reference's -/
end Go.Proofs.Ytgbkicelkpagpaa.W

/- Mirrored rules: what Mirror, Onto, OneToOne and Additive answer of all rules, reckoned. -/
open Go.Vm
set_option linter.unusedVariables false
namespace Go.Proofs.Ytgbkicelkpagpaa.W
open Go
def mirN (n : Nat) : Nat := nx n 0 + nx n 4 * 2 + nx n 2 * 4 + nx n 6 * 8 + nx n 1 * 16 + nx n 5 * 32 + nx n 3 * 64 + nx n 7 * 128
def excN (n : Nat) : Nat := (1 - nx n 7) + (1 - nx n 6) * 2 + (1 - nx n 5) * 4 + (1 - nx n 4) * 8 + (1 - nx n 3) * 16 + (1 - nx n 2) * 32 + (1 - nx n 1) * 64 + (1 - nx n 0) * 128
def addN (n : Nat) : Bool := Nat.beq n 0 || (Nat.beq n 60 || (Nat.beq n 90 || (Nat.beq n 102 || (Nat.beq n 150 || (Nat.beq n 170 || (Nat.beq n 204 || Nat.beq n 240))))))
def eqIs (a : Int) (k : Nat) : Bool := match a with
  | .ofNat j => Nat.beq j k
  | .negSucc _ => false
theorem eqIs_eq {a : Int} {k : Nat} (h : eqIs a k = true) : a = (k : Int) := by
  unfold eqIs at h
  split at h
  · rw [beq_iff.1 h]; rfl
  · cases h
def okM (a b : Nat) (o : Option (AVal × Heap × Nat × Nat)) : Bool := match o with
  | some (.tup [.i .i64 x, .i .i64 y, .i .i64 z], [], 0, 0) => eqIs x a && (eqIs y b && eqIs z 0)
  | _ => false
theorem okM_eq {a b : Nat} {o : Option (AVal × Heap × Nat × Nat)} (h : okM a b o = true) : o = some (.tup [.i .i64 a, .i .i64 b, .i .i64 0], [], 0, 0) := by
  unfold okM at h
  split at h
  · rw [Bool.and_eq_true, Bool.and_eq_true] at h
    rw [eqIs_eq h.1, eqIs_eq h.2.1, eqIs_eq h.2.2]; rfl
  · cases h
def okJ (w : Bool) (o : Option (AVal × Heap × Nat × Nat)) : Bool := match o with
  | some (.tup [.b w', .i .i64 z], [], 0, 0) => (w == w') && eqIs z 0
  | _ => false
theorem okJ_eq {w : Bool} {o : Option (AVal × Heap × Nat × Nat)} (h : okJ w o = true) : o = some (.tup [.b w, .i .i64 0], [], 0, 0) := by
  unfold okJ at h
  split at h
  · rw [Bool.and_eq_true] at h
    rw [eq_of_beq h.1, eqIs_eq h.2]; rfl
  · cases h
def chkM (n : Nat) : Bool := okM (mirN n) (excN n) ((Rk3 200).call 36 [.i .i64 (Int.ofNat n)] []) && (okJ (orphT n).isEmpty ((Rk3 200).call 28 [.i .i64 (Int.ofNat n)] []) && (okJ (oneT n) ((Rk3 200).call 30 [.i .i64 (Int.ofNat n)] []) && okJ (addN n) ((Rk3 200).call 38 [.i .i64 (Int.ofNat n)] [])))
theorem mm0 : ((List.range 16).all fun i => chkM (16 * 0 + i)) = true := by decide +kernel
theorem mm1 : ((List.range 16).all fun i => chkM (16 * 1 + i)) = true := by decide +kernel
theorem mm2 : ((List.range 16).all fun i => chkM (16 * 2 + i)) = true := by decide +kernel
theorem mm3 : ((List.range 16).all fun i => chkM (16 * 3 + i)) = true := by decide +kernel
theorem mm4 : ((List.range 16).all fun i => chkM (16 * 4 + i)) = true := by decide +kernel
theorem mm5 : ((List.range 16).all fun i => chkM (16 * 5 + i)) = true := by decide +kernel
theorem mm6 : ((List.range 16).all fun i => chkM (16 * 6 + i)) = true := by decide +kernel
theorem mm7 : ((List.range 16).all fun i => chkM (16 * 7 + i)) = true := by decide +kernel
theorem mm8 : ((List.range 16).all fun i => chkM (16 * 8 + i)) = true := by decide +kernel
theorem mm9 : ((List.range 16).all fun i => chkM (16 * 9 + i)) = true := by decide +kernel
theorem mm10 : ((List.range 16).all fun i => chkM (16 * 10 + i)) = true := by decide +kernel
theorem mm11 : ((List.range 16).all fun i => chkM (16 * 11 + i)) = true := by decide +kernel
theorem mm12 : ((List.range 16).all fun i => chkM (16 * 12 + i)) = true := by decide +kernel
theorem mm13 : ((List.range 16).all fun i => chkM (16 * 13 + i)) = true := by decide +kernel
theorem mm14 : ((List.range 16).all fun i => chkM (16 * 14 + i)) = true := by decide +kernel
theorem mm15 : ((List.range 16).all fun i => chkM (16 * 15 + i)) = true := by decide +kernel
theorem mm_all {n : Nat} (hn : n < 256) : chkM n = true := by
  by_cases h0 : n < 16
  · exact all_16 (P := chkM) mm0 (by omega) (by omega)
  by_cases h1 : n < 32
  · exact all_16 (P := chkM) mm1 (by omega) (by omega)
  by_cases h2 : n < 48
  · exact all_16 (P := chkM) mm2 (by omega) (by omega)
  by_cases h3 : n < 64
  · exact all_16 (P := chkM) mm3 (by omega) (by omega)
  by_cases h4 : n < 80
  · exact all_16 (P := chkM) mm4 (by omega) (by omega)
  by_cases h5 : n < 96
  · exact all_16 (P := chkM) mm5 (by omega) (by omega)
  by_cases h6 : n < 112
  · exact all_16 (P := chkM) mm6 (by omega) (by omega)
  by_cases h7 : n < 128
  · exact all_16 (P := chkM) mm7 (by omega) (by omega)
  by_cases h8 : n < 144
  · exact all_16 (P := chkM) mm8 (by omega) (by omega)
  by_cases h9 : n < 160
  · exact all_16 (P := chkM) mm9 (by omega) (by omega)
  by_cases h10 : n < 176
  · exact all_16 (P := chkM) mm10 (by omega) (by omega)
  by_cases h11 : n < 192
  · exact all_16 (P := chkM) mm11 (by omega) (by omega)
  by_cases h12 : n < 208
  · exact all_16 (P := chkM) mm12 (by omega) (by omega)
  by_cases h13 : n < 224
  · exact all_16 (P := chkM) mm13 (by omega) (by omega)
  by_cases h14 : n < 240
  · exact all_16 (P := chkM) mm14 (by omega) (by omega)
  by_cases h15 : n < 256
  · exact all_16 (P := chkM) mm15 (by omega) (by omega)
  omega
theorem facts {n : Nat} (hn : n < 256) : callX F3 [] 36 [.i .i64 n] [] = some (.tup [.i .i64 (mirN n : Nat), .i .i64 (excN n : Nat), .i .i64 0], [], 0, 0) ∧ callX F3 [] 28 [.i .i64 n] [] = some (.tup [.b (orphT n).isEmpty, .i .i64 0], [], 0, 0) ∧
    callX F3 [] 30 [.i .i64 n] [] = some (.tup [.b (oneT n), .i .i64 0], [], 0, 0) ∧ callX F3 [] 38 [.i .i64 n] [] = some (.tup [.b (addN n), .i .i64 0], [], 0, 0) := by
  have h := mm_all hn
  simp only [chkM, Bool.and_eq_true] at h
  exact ⟨(meansS_ok [] allO 200).call _ _ _ _ (okM_eq h.1), (meansS_ok [] allO 200).call _ _ _ _ (okJ_eq h.2.1), (meansS_ok [] allO 200).call _ _ _ _ (okJ_eq h.2.2.1), (meansS_ok [] allO 200).call _ _ _ _ (okJ_eq h.2.2.2)⟩
end Go.Proofs.Ytgbkicelkpagpaa.W

/- Twins of all rules, reckoned. -/
open Go.Vm
set_option linter.unusedVariables false
namespace Go.Proofs.Ytgbkicelkpagpaa.W
open Go

theorem bits_num : ∀ x, x < 1024 → ∀ t, t < 10 → bitV .and .i64 (shrV .i64 (Int.ofNat x) (Int.ofNat t)) 1 = Int.ofNat (nx x t) := by decide +kernel
theorem ringOf_ok {ro : List ABlk} {h : Heap} {x m : Nat} (hx : x < 1024) (hm : m ≤ 10) : callX F1 ro 81 [.i .i64 x, .i .i64 m] h = some (.s (plotsL x m), h, h.length, h.length) := by
  refine g81_ok (meansX_ok F1 ro) rfl ?_
  unfold g81
  have hmk := mk_ok (ro := ro) (hp := h) (l := h.length) (p := h.length) (e := 5) (es := 1) (bytes := 1) (v := AVal.i IntKind.u8 0) (n := m) (by omega) (by omega)
  obtain ⟨hq, k1, k2, k3, k4⟩ := bytes_loop (ro := ro) (h := h) (n := m) (g := fun k => 48 + nx x (m - 1 - k))
    (b := fun z => g81_b0 (meansX F1 ro) ro x m (.sl ⟨false, h.length, 0⟩ m (.known m)) ((m : Nat) : Int) z.1 z.2)
    (fun k hk => by have := nx_le x (m - 1 - k); show 48 + nx x (m - 1 - k) < 256; omega)
    (fun k => k) (fun k j => Nat.blt j k) (fun k hk => hk) (fun j _ => blt_none j) (fun j hj => blt_all hj) (fun k j hk hj => blt_succ hk hj)
    (fun k hk hp' hp'' hL hst => by
      have hlt : ((k : Int) < ((m : Nat) : Int)) := by omega
      have w1 : wr .i64 ((m : Int) - 1) = ((m - 1 : Nat) : Int) := by rw [wr_id' (by omega) (by omega)]; omega
      have w2 : wr .i64 (((m - 1 : Nat) : Int) - (k : Int)) = ((m - 1 - k : Nat) : Int) := by rw [wr_id' (by omega) (by omega)]; omega
      have e1 : bitV .and .i64 (shrV .i64 (x : Int) ((m - 1 - k : Nat) : Int)) 1 = ((nx x (m - 1 - k) : Nat) : Int) := bits_num x hx _ (by omega)
      have hn := nx_le x (m - 1 - k)
      have c4 := callM_pure (call := callX F1 ro) (l := h.length) (p := h.length) (plot_ok (ro := ro) (h := hp') (t := nx x (m - 1 - k)) (by omega)) hL hL
      have ei := ixS_eq (q := ⟨false, h.length, 0⟩) (len := m) (cap := .known m) (i := k) hk
      simp only [g81_b0, forceB_eq, ltI_eq, decide_eq_true hlt, cond_true, forceI_eq, w1, w2, nneg, chk_true, e1, meansX_call, c4, bindP_some, asI_i, ei, bindO_some, hst, wr_next (by omega : k ≤ 1000000)])
    (fun mm => by
      have : decide (((m : Nat) : Int) < ((m : Nat) : Int)) = false := lt_no
      show g81_b0 (meansX F1 ro) ro x m _ _ ((m : Nat) : Int) mm = _
      simp only [g81_b0, forceB_eq, ltI_eq, this, cond_false])
  simp only [hmk, bindP_some, e_lenS, bindO_some, asI_i, meansX_loop, k1, k2, asS_s, tupA]
  rw [fin_take (by rfl), k3]
  rfl

/- what is known of calls -/
def okB (s : List UInt8) : Bool := (List.range s.length).all fun i => Nat.beq (ch s i) 48 || Nat.beq (ch s i) 49
theorem okB_ok {s : List UInt8} (h : okB s = true) : okR s := fun i hi => by
  have := List.all_eq_true.1 h i (List.mem_range.2 hi)
  rw [Bool.or_eq_true] at this
  exact this.imp beq_iff.1 beq_iff.1
def leafR : Caller := fun f a h => match a with
  | [.i .u8 (.ofNat u), .s s] => cond (Nat.beq f 51 && (Nat.blt u 256 && (okB s && (Nat.blt 0 s.length && Nat.ble s.length 900)))) (some (.s (ringS u s), h, h.length, h.length)) none
  | [.i .i64 (.ofNat x), .i .i64 (.ofNat m)] => cond (Nat.beq f 81 && (Nat.blt x 1024 && Nat.ble m 10)) (some (.s (plotsL x m), h, h.length, h.length)) none
  | _ => none
theorem leafR_le {ro : List ABlk} {f : Nat} {a : List AVal} {h : Heap} {r : AVal × Heap × Nat × Nat} (e : leafR f a h = some r) : callX F1 ro f a h = some r := by
  unfold leafR at e
  split at e
  · rename_i u s
    cases hc : (Nat.beq f 51 && (Nat.blt u 256 && (okB s && (Nat.blt 0 s.length && Nat.ble s.length 900)))) with
    | false => rw [hc] at e; cases e
    | true =>
      rw [hc] at e
      simp only [Bool.and_eq_true, Nat.blt_eq, Nat.ble_eq] at hc
      cases e
      rw [beq_iff.1 hc.1]
      exact ring_ok hc.2.1 (okB_ok hc.2.2.1) hc.2.2.2.1 hc.2.2.2.2
  · rename_i x m
    cases hc : (Nat.beq f 81 && (Nat.blt x 1024 && Nat.ble m 10)) with
    | false => rw [hc] at e; cases e
    | true =>
      rw [hc] at e
      simp only [Bool.and_eq_true, Nat.blt_eq, Nat.ble_eq] at hc
      cases e
      rw [beq_iff.1 hc.1]
      exact ringOf_ok hc.2.1 hc.2.2
  · cases e
def allR : Caller := orC allO leafR
abbrev F7 : Tab := ⟨F, allR⟩
abbrev Rk7 (n : Nat) : Means := meansS [] allR n
def chkT (n : Nat) : Bool := match (Rk7 300).call 32 [.i .i64 (Int.ofNat n)] [] with
  | some (.tup [.s a, .s b, .i .i64 e], [], 0, 0) => cond (oneT n) (intEq e 10 && (a.isEmpty && b.isEmpty))
      (intEq e 0 && (okB a && (okB b && (Nat.beq a.length b.length && (Nat.ble a.length 50 && (Nat.blt 0 a.length && (ltL a b && (eqL (ringS n a) (ringS n b) && Nat.blt 1 (sumR n (ringS n a) 4)))))))))
  | _ => false
end Go.Proofs.Ytgbkicelkpagpaa.W

/- Twins of all rules, reckoned: the table. -/
open Go.Vm
set_option linter.unusedVariables false
namespace Go.Proofs.Ytgbkicelkpagpaa.W
open Go

theorem tw0 : ((List.range 16).all fun i => chkT (16 * 0 + i)) = true := by decide +kernel
theorem tw1 : ((List.range 16).all fun i => chkT (16 * 1 + i)) = true := by decide +kernel
theorem tw2 : ((List.range 16).all fun i => chkT (16 * 2 + i)) = true := by decide +kernel
theorem tw3 : ((List.range 16).all fun i => chkT (16 * 3 + i)) = true := by decide +kernel
theorem tw4 : ((List.range 16).all fun i => chkT (16 * 4 + i)) = true := by decide +kernel
theorem tw5 : ((List.range 16).all fun i => chkT (16 * 5 + i)) = true := by decide +kernel
theorem tw6 : ((List.range 16).all fun i => chkT (16 * 6 + i)) = true := by decide +kernel
theorem tw7 : ((List.range 16).all fun i => chkT (16 * 7 + i)) = true := by decide +kernel
theorem tw8 : ((List.range 16).all fun i => chkT (16 * 8 + i)) = true := by decide +kernel
theorem tw9 : ((List.range 16).all fun i => chkT (16 * 9 + i)) = true := by decide +kernel
theorem tw10 : ((List.range 16).all fun i => chkT (16 * 10 + i)) = true := by decide +kernel
theorem tw11 : ((List.range 16).all fun i => chkT (16 * 11 + i)) = true := by decide +kernel
theorem tw12 : ((List.range 16).all fun i => chkT (16 * 12 + i)) = true := by decide +kernel
theorem tw13 : ((List.range 16).all fun i => chkT (16 * 13 + i)) = true := by decide +kernel
theorem tw14 : ((List.range 16).all fun i => chkT (16 * 14 + i)) = true := by decide +kernel
theorem tw15 : ((List.range 16).all fun i => chkT (16 * 15 + i)) = true := by decide +kernel
theorem tw_all {n : Nat} (hn : n < 256) : chkT n = true := by
  by_cases h0 : n < 16
  · exact all_16 (P := chkT) tw0 (by omega) (by omega)
  by_cases h1 : n < 32
  · exact all_16 (P := chkT) tw1 (by omega) (by omega)
  by_cases h2 : n < 48
  · exact all_16 (P := chkT) tw2 (by omega) (by omega)
  by_cases h3 : n < 64
  · exact all_16 (P := chkT) tw3 (by omega) (by omega)
  by_cases h4 : n < 80
  · exact all_16 (P := chkT) tw4 (by omega) (by omega)
  by_cases h5 : n < 96
  · exact all_16 (P := chkT) tw5 (by omega) (by omega)
  by_cases h6 : n < 112
  · exact all_16 (P := chkT) tw6 (by omega) (by omega)
  by_cases h7 : n < 128
  · exact all_16 (P := chkT) tw7 (by omega) (by omega)
  by_cases h8 : n < 144
  · exact all_16 (P := chkT) tw8 (by omega) (by omega)
  by_cases h9 : n < 160
  · exact all_16 (P := chkT) tw9 (by omega) (by omega)
  by_cases h10 : n < 176
  · exact all_16 (P := chkT) tw10 (by omega) (by omega)
  by_cases h11 : n < 192
  · exact all_16 (P := chkT) tw11 (by omega) (by omega)
  by_cases h12 : n < 208
  · exact all_16 (P := chkT) tw12 (by omega) (by omega)
  by_cases h13 : n < 224
  · exact all_16 (P := chkT) tw13 (by omega) (by omega)
  by_cases h14 : n < 240
  · exact all_16 (P := chkT) tw14 (by omega) (by omega)
  by_cases h15 : n < 256
  · exact all_16 (P := chkT) tw15 (by omega) (by omega)
  omega
theorem intEq_of : ∀ {a b : Int}, intEq a b = true → a = b
  | .ofNat a, .ofNat b, h => by rw [beq_iff.1 (show Nat.beq a b = true from h)]
  | .negSucc a, .negSucc b, h => by rw [beq_iff.1 (show Nat.beq a b = true from h)]
  | .ofNat _, .negSucc _, h => by cases h
  | .negSucc _, .ofNat _, h => by cases h
/-- Twins of a rule that is one to one -/
theorem twins_one {n : Nat} (hn : n < 256) (h1 : oneT n = true) : callX F7 [] 32 [.i .i64 n] [] = some (.tup [.s [], .s [], .i .i64 10], [], 0, 0) := by
  have h := tw_all hn
  unfold chkT at h
  split at h
  · rename_i a b e heq
    rw [h1, cond_true] at h
    simp only [Bool.and_eq_true, List.isEmpty_iff] at h
    obtain ⟨h2, rfl, rfl⟩ := h
    obtain rfl : e = 10 := intEq_of h2
    exact (meansS_ok [] allR 300).call _ _ _ _ heq
  · cases h
/-- and of another -/
theorem twins_not {n : Nat} (hn : n < 256) (h1 : oneT n = false) : ∃ a b, callX F7 [] 32 [.i .i64 n] [] = some (.tup [.s a, .s b, .i .i64 0], [], 0, 0) ∧ okR a ∧ okR b ∧ a.length = b.length ∧ a.length ≤ 50 ∧ 0 < a.length ∧ ltL a b = true ∧ ringS n a = ringS n b ∧ 1 < sumR n (ringS n a) 4 := by
  have h := tw_all hn
  unfold chkT at h
  split at h
  · rename_i a b e heq
    rw [h1, cond_false] at h
    simp only [Bool.and_eq_true, Nat.ble_eq, Nat.blt_eq, beq_iff] at h
    obtain ⟨h2, h3, h4, h5, h6, h7, h8, h9, h10⟩ := h
    obtain rfl : e = 0 := intEq_of h2
    exact ⟨a, b, (meansS_ok [] allR 300).call _ _ _ _ heq, okB_ok h3, okB_ok h4, h5, h6, h7, h8, (by rw [eqL_eq] at h9; exact eq_of_beq h9), h10⟩
  · cases h
end Go.Proofs.Ytgbkicelkpagpaa.W

/- Rules that are one to one: every ring has just one in Rings, and comes again at once. -/
open Go.Vm
set_option linter.unusedVariables false
namespace Go.Proofs.Ytgbkicelkpagpaa.W
open Go

/- the six rules: what comes is one of the three plots, or the other of it -/
def isB (u b : Nat) (B : Nat → Nat) : Bool := (List.range 8).all fun t => Nat.beq (nx u t) ((B t + b) % 2)
theorem one_tab : ((List.range 256).all fun n => !oneT n || ((List.range 2).any fun b => isB n b (fun t => t % 2) || isB n b (fun t => t / 2 % 2) || isB n b (fun t => t / 4))) = true := by decide +kernel
theorem one_kind {n : Nat} (hn : n < 256) (h1 : oneT n = true) : ∃ b, b < 2 ∧ ((∀ t, t < 8 → nx n t = (t % 2 + b) % 2) ∨ (∀ t, t < 8 → nx n t = (t / 2 % 2 + b) % 2) ∨ ∀ t, t < 8 → nx n t = (t / 4 + b) % 2) := by
  have h := List.all_eq_true.1 one_tab n (List.mem_range.2 hn)
  rw [h1, Bool.not_true, Bool.false_or] at h
  obtain ⟨b, hb, h⟩ := List.any_eq_true.1 h
  have un : ∀ {B : Nat → Nat}, isB n b B = true → ∀ t, t < 8 → nx n t = (B t + b) % 2 := fun hB t ht => beq_iff.1 (List.all_eq_true.1 hB t (List.mem_range.2 ht))
  refine ⟨b, List.mem_range.1 hb, ?_⟩
  rw [Bool.or_eq_true, Bool.or_eq_true] at h
  rcases h with (h | h) | h
  · exact Or.inl (un h)
  · exact Or.inr (Or.inl (un h))
  · exact Or.inr (Or.inr (un h))

/-- what the plot was -/
def dk (b : Nat) (s : List UInt8) (k : Nat) : Nat := (bw s k + b) % 2
theorem dk_lt {b : Nat} (hb : b < 2) {s : List UInt8} (hs : okR s) (k : Nat) : dk b s k < 2 := Nat.mod_lt _ (by omega)
theorem dk_iff {b : Nat} (hb : b < 2) {s : List UInt8} (hs : okR s) {x k : Nat} (hx : x < 2) (hk : k < s.length) : ((x + b) % 2 = bw s k) ↔ x = dk b s k := by
  have := (bw_lt hs hk).1
  unfold dk; omega
section
variable {u b : Nat} (hb : b < 2) {s : List UInt8} (hs : okR s)
include hb hs
/- the right plot -/
def qR (b : Nat) (s : List UInt8) (p : Nat) : Nat → Nat
  | 0 => p
  | k + 1 => 2 * (qR b s p k % 2) + dk b s k
theorem walkR (H : ∀ t, t < 8 → nx u t = (t % 2 + b) % 2) {p : Nat} (hp : p < 4) : ∀ k, k ≤ s.length → ∀ j, j < 4 → wkN u s (oneF p) k j = if j = qR b s p k then 1 else 0
  | 0, _, j, hj => rfl
  | k + 1, hk, j, hj => by
    have hd := dk_lt hb hs k
    have e1 := dk_iff hb hs (x := j % 2) (by omega) (by omega : k < s.length)
    show nxt u (bw s k) (wkN u s (oneF p) k) j = if j = 2 * (qR b s p k % 2) + dk b s k then 1 else 0
    rw [nxt_eq hj, H j (by omega), H (j + 4) (by omega), show (j + 4) % 2 = j % 2 by omega, walkR H hp k (by omega) (j / 2) (by omega), walkR H hp k (by omega) (j / 2 + 2) (by omega)]
    have hq : qR b s p k < 4 := by
      cases k with
      | zero => exact hp
      | succ k => have := dk_lt hb hs k; show 2 * (qR b s p k % 2) + dk b s k < 4; omega
    by_cases h1 : j % 2 = dk b s k
    · rw [if_pos (e1.2 h1), if_pos (e1.2 h1)]
      by_cases h2 : j / 2 = qR b s p k
      · rw [if_pos h2, if_neg (by omega), if_pos (by omega)]
      · rw [if_neg h2]
        by_cases h3 : j / 2 + 2 = qR b s p k
        · rw [if_pos h3, if_pos (by omega)]
        · rw [if_neg h3, if_neg (by omega)]
    · rw [if_neg (fun h => h1 (e1.1 h)), if_neg (fun h => h1 (e1.1 h)), if_neg (by omega)]
/- the left one -/
theorem walkL1 (H : ∀ t, t < 8 → nx u t = (t / 4 + b) % 2) {p : Nat} (hp : p < 4) (h0 : 0 < s.length) {j : Nat} (hj : j < 4) : wkN u s (oneF p) 1 j = if j / 2 + 2 * dk b s 0 = p then 1 else 0 := by
  have hd := dk_lt hb hs 0
  have e1 := dk_iff hb hs (x := 0) (by omega) (by omega : 0 < s.length)
  have e2 := dk_iff hb hs (x := 1) (by omega) (by omega : 0 < s.length)
  show nxt u (bw s 0) (oneF p) j = _
  rw [nxt_eq hj, H j (by omega), H (j + 4) (by omega), show j / 4 = 0 by omega, show (j + 4) / 4 = 1 by omega]
  rcases (by omega : dk b s 0 = 0 ∨ dk b s 0 = 1) with h | h
  · rw [if_pos (e1.2 h.symm), if_neg (fun e => by have := e2.1 e; omega), h]; rfl
  · rw [if_neg (fun e => by have := e1.1 e; omega), if_pos (e2.2 h.symm), h, Nat.zero_add]; rfl
theorem walkL2 (H : ∀ t, t < 8 → nx u t = (t / 4 + b) % 2) {p : Nat} (hp : p < 4) : ∀ k, k + 2 ≤ s.length → ∀ j, j < 4 → wkN u s (oneF p) (k + 2) j = if 2 * dk b s 0 + dk b s 1 = p then 1 else 0
  | k, hk, j, hj => by
    have hd := dk_lt hb hs 0
    have hd1 := dk_lt hb hs 1
    have hdk := dk_lt hb hs (k + 1)
    have e1 := dk_iff hb hs (x := 0) (by omega) (by omega : k + 1 < s.length)
    have e2 := dk_iff hb hs (x := 1) (by omega) (by omega : k + 1 < s.length)
    show nxt u (bw s (k + 1)) (wkN u s (oneF p) (k + 1)) j = _
    have st : nxt u (bw s (k + 1)) (wkN u s (oneF p) (k + 1)) j = wkN u s (oneF p) (k + 1) (j / 2 + 2 * dk b s (k + 1)) := by
      rw [nxt_eq hj, H j (by omega), H (j + 4) (by omega), show j / 4 = 0 by omega, show (j + 4) / 4 = 1 by omega]
      rcases (by omega : dk b s (k + 1) = 0 ∨ dk b s (k + 1) = 1) with h | h
      · rw [if_pos (e1.2 h.symm), if_neg (fun e => by have := e2.1 e; omega), h, Nat.add_zero]; rfl
      · rw [if_neg (fun e => by have := e1.1 e; omega), if_pos (e2.2 h.symm), h, Nat.zero_add]
    rw [st]
    cases k with
    | zero =>
      rw [walkL1 hb hs H hp (by omega) (by omega), show (j / 2 + 2 * dk b s (0 + 1)) / 2 = dk b s 1 by show (j / 2 + 2 * dk b s 1) / 2 = _; omega]
      rw [show dk b s 1 + 2 * dk b s 0 = 2 * dk b s 0 + dk b s 1 by omega]
    | succ k => exact walkL2 H hp k (by omega) _ (by omega)
/- the one in the middle -/
theorem walkM (H : ∀ t, t < 8 → nx u t = (t / 2 % 2 + b) % 2) {p : Nat} (hp : p < 4) : ∀ k, k + 1 ≤ s.length → ∀ j, j < 4 → wkN u s (oneF p) (k + 1) j = if j / 2 = dk b s k ∧ p % 2 = dk b s 0 then 1 else 0
  | k, hk, j, hj => by
    have hd := dk_lt hb hs 0
    have hdk := dk_lt hb hs k
    have e1 := dk_iff hb hs (x := j / 2) (by omega) (by omega : k < s.length)
    show nxt u (bw s k) (wkN u s (oneF p) k) j = _
    rw [nxt_eq hj, H j (by omega), H (j + 4) (by omega), show j / 2 % 2 = j / 2 by omega, show (j + 4) / 2 % 2 = j / 2 by omega]
    by_cases h1 : j / 2 = dk b s k
    · rw [if_pos (e1.2 h1), if_pos (e1.2 h1)]
      cases k with
      | zero =>
        show (if j / 2 = p then 1 else 0) + (if j / 2 + 2 = p then 1 else 0) = (if j / 2 = dk b s 0 ∧ p % 2 = dk b s 0 then 1 else 0)
        have h1' : j / 2 = dk b s 0 := h1
        by_cases h2 : p % 2 = dk b s 0
        · rw [if_pos (⟨h1', h2⟩ : j / 2 = dk b s 0 ∧ p % 2 = dk b s 0)]
          by_cases h3 : j / 2 = p
          · rw [if_pos h3, if_neg (by omega)]
          · rw [if_neg h3, if_pos (by omega)]
        · rw [if_neg (fun h : j / 2 = dk b s 0 ∧ p % 2 = dk b s 0 => h2 h.2), if_neg (by omega), if_neg (by omega)]
      | succ k =>
        have hdk' := dk_lt hb hs k
        rw [walkM H hp k (by omega) (j / 2) (by omega), walkM H hp k (by omega) (j / 2 + 2) (by omega)]
        by_cases h2 : p % 2 = dk b s 0
        · by_cases h3 : j / 2 / 2 = dk b s k
          · rw [if_pos ⟨h3, h2⟩, if_neg (by omega), if_pos ⟨h1, h2⟩]
          · rw [if_neg (fun h => h3 h.1), if_pos ⟨by omega, h2⟩, if_pos ⟨h1, h2⟩]
        · rw [if_neg (fun h => h2 h.2), if_neg (fun h => h2 h.2), if_neg (fun h => h2 h.2)]
    · rw [if_neg (fun h => h1 (e1.1 h)), if_neg (fun h => h1 (e1.1 h)), if_neg (fun h => h1 h.1)]
end
theorem one_of4 {P : Nat → Nat} {d : Nat} (hd : d < 4) (h : ∀ p, p < 4 → P p = if p = d then 1 else 0) : 0 + P 0 + P 1 + P 2 + P 3 = 1 := by
  rw [h 0 (by omega), h 1 (by omega), h 2 (by omega), h 3 (by omega)]
  rcases (by omega : d = 0 ∨ d = 1 ∨ d = 2 ∨ d = 3) with rfl | rfl | rfl | rfl <;> rfl
theorem rings_one {u : Nat} {s : List UInt8} (hu : u < 256) (h1 : oneT u = true) (hs : okR s) (h0 : 0 < s.length) : sumR u s 4 = 1 := by
  obtain ⟨b, hb, H⟩ := one_kind hu h1
  show 0 + wkN u s (oneF 0) s.length 0 + wkN u s (oneF 1) s.length 1 + wkN u s (oneF 2) s.length 2 + wkN u s (oneF 3) s.length 3 = 1
  have d0 := dk_lt hb hs 0
  rcases H with H | H | H
  · cases hl : s.length with
    | zero => omega
    | succ m =>
      have dm := dk_lt hb hs m
      cases m with
      | zero =>
        refine one_of4 (P := fun p => wkN u s (oneF p) (0 + 1) p) (d := 3 * dk b s 0) (by omega) fun p hp => ?_
        show wkN u s (oneF p) (0 + 1) p = _
        rw [walkR hb hs H hp 1 (by omega) p hp]
        show (if p = 2 * (p % 2) + dk b s 0 then 1 else 0) = _
        by_cases e : p = 3 * dk b s 0
        · rw [if_pos e, if_pos (by omega)]
        · rw [if_neg e, if_neg (by omega)]
      | succ m =>
        have dm' := dk_lt hb hs m
        refine one_of4 (P := fun p => wkN u s (oneF p) (m + 1 + 1) p) (d := 2 * dk b s m + dk b s (m + 1)) (by omega) fun p hp => ?_
        show wkN u s (oneF p) (m + 1 + 1) p = _
        rw [walkR hb hs H hp _ (by omega) p hp]
        show (if p = 2 * ((2 * (qR b s p m % 2) + dk b s m) % 2) + dk b s (m + 1) then 1 else 0) = _
        rw [show (2 * (qR b s p m % 2) + dk b s m) % 2 = dk b s m by omega]
  · obtain ⟨m, hl⟩ : ∃ m, s.length = m + 1 := ⟨s.length - 1, by omega⟩
    have dm := dk_lt hb hs m
    rw [hl]
    refine one_of4 (P := fun p => wkN u s (oneF p) (m + 1) p) (d := 2 * dk b s m + dk b s 0) (by omega) fun p hp => ?_
    show wkN u s (oneF p) (m + 1) p = _
    rw [walkM hb hs H hp m (by omega) p hp]
    by_cases e : p = 2 * dk b s m + dk b s 0
    · rw [if_pos e, if_pos ⟨by omega, by omega⟩]
    · rw [if_neg e, if_neg (by omega)]
  · cases hl : s.length with
    | zero => omega
    | succ m =>
      cases m with
      | zero =>
        refine one_of4 (P := fun p => wkN u s (oneF p) (0 + 1) p) (d := 3 * dk b s 0) (by omega) fun p hp => ?_
        show wkN u s (oneF p) 1 p = _
        rw [walkL1 hb hs H hp (by omega) hp]
        by_cases e : p = 3 * dk b s 0
        · rw [if_pos e, if_pos (by omega)]
        · rw [if_neg e, if_neg (by omega)]
      | succ m =>
        have d1 := dk_lt hb hs 1
        refine one_of4 (P := fun p => wkN u s (oneF p) (m + 2) p) (d := 2 * dk b s 0 + dk b s 1) (by omega) fun p hp => ?_
        show wkN u s (oneF p) (m + 2) p = _
        rw [walkL2 hb hs H hp m (by omega) p hp]
        by_cases e : p = 2 * dk b s 0 + dk b s 1
        · rw [if_pos e, if_pos (by omega)]
        · rw [if_neg e, if_neg (by omega)]

/- no two rings become the same -/
theorem ring_back {i m : Nat} (hi : i < m) : ((i + 1) % m + m - 1) % m = i ∧ ((i + m - 1) % m + 1) % m = i := by
  constructor
  · by_cases h : i + 1 = m
    · rw [h, Nat.mod_self, Nat.zero_add, Nat.mod_eq_of_lt (by omega)]; omega
    · rw [Nat.mod_eq_of_lt (by omega : i + 1 < m), show i + 1 + m - 1 = i + m by omega, Nat.add_mod_right, Nat.mod_eq_of_lt hi]
  · by_cases h : i = 0
    · subst h
      rw [Nat.zero_add, Nat.mod_eq_of_lt (by omega : m - 1 < m), show m - 1 + 1 = m by omega, Nat.mod_self]
    · rw [show i + m - 1 = i - 1 + m by omega, Nat.add_mod_right, Nat.mod_eq_of_lt (by omega : i - 1 < m), show i - 1 + 1 = i by omega, Nat.mod_eq_of_lt hi]
theorem ring_inj {u : Nat} {s r : List UInt8} (hu : u < 256) (h1 : oneT u = true) (hs : okR s) (hr : okR r) (hl : s.length = r.length) (h0 : 0 < s.length) (he : ringS u s = ringS u r) : s = r := by
  obtain ⟨b, hb, H⟩ := one_kind hu h1
  refine str_ext hl fun i hi => ?_
  have key : ∀ k, k < s.length → nx u (4 * bw s ((k + s.length - 1) % s.length) + 2 * bw s k + bw s ((k + 1) % s.length)) = nx u (4 * bw r ((k + s.length - 1) % s.length) + 2 * bw r k + bw r ((k + 1) % s.length)) := fun k hk => by
    have e1 := ringS_ch (u := u) h0 hk
    have e2 := ringS_ch (u := u) (by omega : 0 < r.length) (by omega : k < r.length)
    rw [← hl] at e2
    rw [he, e2] at e1
    omega
  have lt : ∀ k, bw s (k % s.length) < 2 ∧ bw r (k % s.length) < 2 := fun k => ⟨(bw_lt hs (Nat.mod_lt _ h0)).1, (bw_lt hr (by rw [← hl]; exact Nat.mod_lt _ h0)).1⟩
  have same : bw s i = bw r i := by
    obtain ⟨r1, r2⟩ := ring_back hi
    rcases H with H | H | H
    · have k := key ((i + s.length - 1) % s.length) (Nat.mod_lt _ h0)
      have a1 := lt ((i + s.length - 1) % s.length + s.length - 1)
      have a2 := lt (i + s.length - 1)
      have a3 := lt ((i + s.length - 1) % s.length + 1)
      rw [H _ (by omega), H _ (by omega)] at k
      rw [r2] at k a3
      omega
    · have k := key i hi
      have a1 := lt (i + s.length - 1)
      have a2 : bw s i < 2 ∧ bw r i < 2 := ⟨(bw_lt hs hi).1, (bw_lt hr (by omega)).1⟩
      have a3 := lt (i + 1)
      rw [H _ (by omega), H _ (by omega)] at k
      omega
    · have k := key ((i + 1) % s.length) (Nat.mod_lt _ h0)
      have a1 := lt ((i + 1) % s.length + s.length - 1)
      have a2 := lt (i + 1)
      have a3 := lt ((i + 1) % s.length + 1)
      rw [H _ (by omega), H _ (by omega)] at k
      rw [r1] at k a1
      omega
  unfold bw at same
  rcases hs i hi with e1 | e1 <;> rcases hr i (by omega) with e2 | e2 <;> omega
theorem stl_zero {u : Nat} {s : List UInt8} (hu : u < 256) (h1 : oneT u = true) (hs : okR s) (h0 : 0 < s.length) : ∀ (k y : Nat) (r : Nat × Nat), (∀ z, z < y → fndY u s z (nY u s z) = none) → stl u s k y = some r → r.1 = 0
  | 0, y, r, _, h => by cases h
  | k + 1, y, r, hz, h => by
    unfold stl at h
    cases hf : fndY u s y (nY u s y) with
    | none =>
      rw [hf] at h
      refine stl_zero hu h1 hs h0 k (y + 1) r (fun z hzy => ?_) h
      by_cases e : z = y
      · rw [e]; exact hf
      · exact hz z (by omega)
    | some i =>
      rw [hf] at h
      cases h
      obtain ⟨hi, he⟩ := fndY_some hf
      show i = 0
      cases i with
      | zero => rfl
      | succ i =>
        exfalso
        obtain ⟨y', rfl⟩ : ∃ y', y = y' + 1 := ⟨y - 1, by omega⟩
        obtain ⟨p1, p2⟩ := yrs_spec (u := u) hs h0 i
        obtain ⟨p3, p4⟩ := yrs_spec (u := u) hs h0 y'
        obtain ⟨p5, p6⟩ := yrs_spec (u := u) hs h0 (i + 1)
        obtain ⟨p7, p8⟩ := yrs_spec (u := u) hs h0 (y' + 1)
        have e2 : yrs u s (i + 1) = yrs u s (y' + 1) := numS_inj p5 p7 (by omega) he
        have e3 : yrs u s i = yrs u s y' := ring_inj hu h1 p1 p3 (by omega) (by omega) e2
        exact fndY_none.1 (hz y' (by omega)) i (by omega) (by unfold nY; rw [e3])
theorem set_zero {u : Nat} {s : List UInt8} (hu : u < 256) (h1 : oneT u = true) (hs : okR s) (h0 : 0 < s.length) : (setV u s).1 = 0 :=
  stl_zero hu h1 hs h0 _ 0 _ (fun z hz => by omega) (setV_eq hs h0)
end Go.Proofs.Ytgbkicelkpagpaa.W

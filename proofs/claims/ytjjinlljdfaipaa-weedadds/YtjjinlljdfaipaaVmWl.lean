/- The rule's small functions. -/
import Derived.Test.YtjjinlljdfaipaaVmWb
import Derived.Test.YtjjinlljdfaipaaVmAG
open Go.Vm
set_option linter.unusedVariables false
namespace Go.Proofs.Ytjjinlljdfaipaa.W
open Go

/-- the bit of a rule -/
def nx (u t : Nat) : Nat := (u >>> t) % 2
theorem nx_le (u t : Nat) : nx u t ≤ 1 := by unfold nx; omega
theorem next_num : ∀ u, u < 256 → ∀ t, t < 8 → bitV .and .i64 (wr .i64 (shrV .u8 (Int.ofNat u) (Int.ofNat t))) 1 = Int.ofNat (nx u t) := by decide +kernel
theorem next_ok {ro : List ABlk} {h : Heap} {u t : Nat} (hu : u < 256) (ht : t < 8) : callX F1 ro 72 [.i .u8 u, .i .i64 t] h = some (.i .i64 (nx u t : Nat), h, h.length, h.length) := by
  refine g72_ok (meansX_ok F1 ro) rfl ?_
  unfold g72
  have e := next_num u hu t ht
  have e' : bitV .and .i64 (wr .i64 (shrV .u8 (u : Int) (t : Int))) 1 = ((nx u t : Nat) : Int) := e
  simp only [ltI_eq, nneg, chk_true, forceI_eq, e', tupA]
  exact fin_pure rfl
theorem has_num : ∀ s, s < 256 → ∀ t, t < 8 → eqI (bitV .and .u8 (shrV .u8 (Int.ofNat s) (Int.ofNat t)) 1) 1 = Nat.testBit s t := by decide +kernel
theorem has_ok {ro : List ABlk} {h : Heap} {s t : Nat} (hs : s < 256) (ht : t < 8) : callX F1 ro 76 [.i .u8 s, .i .i64 t] h = some (.b (s.testBit t), h, h.length, h.length) := by
  refine g76_ok (meansX_ok F1 ro) rfl ?_
  unfold g76
  have e := has_num s hs t ht
  have e' : eqI (bitV .and .u8 (shrV .u8 (s : Int) (t : Int)) 1) 1 = s.testBit t := e
  simp only [ltI_eq, nneg, chk_true, forceI_eq, e', forceB_eq, tupA]
  exact fin_pure rfl

theorem sm_num : ∀ t, t < 8 → shrV .i64 (Int.ofNat t) 1 = Int.ofNat (t / 2) ∧ bitV .and .i64 (Int.ofNat t) 3 = Int.ofNat (t % 4) := by decide +kernel
theorem p2_lt {k : Nat} (h : k < 8) : 2 ^ k < 256 := by
  have : 2 ^ k ≤ 2 ^ 7 := Nat.pow_le_pow_right (by omega) (by omega)
  omega
def ahF (u s c i acc : Nat) : Nat := cond (s.testBit (i / 2) && Nat.beq (nx u i) c) (acc ||| 2 ^ (i % 4)) acc
def ahV (u s c : Nat) : Nat := iterF (ahF u s c) 8 0 0
theorem ahead_ok {ro : List ABlk} {h : Heap} {u s c : Nat} (hu : u < 256) (hs : s < 256) : callX F1 ro 78 [.i .u8 u, .i .u8 s, .i .i64 c] h = some (.i .u8 (ahV u s c : Nat), h, h.length, h.length) := by
  refine g78_ok (meansX_ok F1 ro) rfl ?_
  unfold g78
  have hl := loop_acc (b := fun z => g78_b0 (meansX F1 ro) ro u s c z.1 z.2.1 z.2.2) 8 (ahF u s c) ⟨h, h.length, h.length⟩ (fun acc => acc < 256) (fun i acc hi hP => by
    obtain ⟨e1, e2⟩ := sm_num i hi
    have e1' : shrV .i64 (i : Int) 1 = ((i / 2 : Nat) : Int) := e1
    have e2' : bitV .and .i64 (i : Int) 3 = ((i % 4 : Nat) : Int) := e2
    have c1 := callM_pure (call := callX F1 ro) (l := h.length) (p := h.length) (has_ok (ro := ro) (h := h) hs (by omega : i / 2 < 8)) (Nat.le_refl _) (Nat.le_refl _)
    have c2 := callM_pure (call := callX F1 ro) (l := h.length) (p := h.length) (next_ok (ro := ro) (h := h) hu hi) (Nat.le_refl _) (Nat.le_refl _)
    have e3 : (((nx u i : Nat) : Int) == (c : Int)) = Nat.beq (nx u i) c := by
      cases hb : Nat.beq (nx u i) c
      · exact beq_eq_false_iff_ne.2 fun e => by
          have : Nat.beq (nx u i) c = true := beq_iff.2 (by omega)
          rw [this] at hb; cases hb
      · rw [beq_iff.1 hb]; simp
    have hl8 : decide ((i : Int) < 8) = true := by simp; omega
    have hor := bit_or hP (p2_lt (by omega : i % 4 < 8))
    have hlt := or_lt hP (p2_lt (by omega : i % 4 < 8))
    unfold ahF
    cases hb : s.testBit (i / 2) with
    | false =>
      rw [hb] at c1
      refine ⟨?_, by simpa using hP⟩
      simp only [g78_b0, forceB_eq, ltI_eq, hl8, cond_true, e1', forceI_eq, meansX_call, c1, bindP_some, asB_b, cond_false, bindO_some, wr_next (by omega : i ≤ 1000000), Bool.false_and]
    | true =>
      rw [hb] at c1
      cases hn : Nat.beq (nx u i) c with
      | false =>
        rw [hn] at e3
        refine ⟨?_, by simpa using hP⟩
        simp only [g78_b0, forceB_eq, ltI_eq, hl8, cond_true, e1', forceI_eq, meansX_call, c1, c2, bindP_some, asB_b, asI_i, eqI_eq, e3, cond_false, bindO_some, wr_next (by omega : i ≤ 1000000), Bool.true_and]
      | true =>
        rw [hn] at e3
        refine ⟨?_, by simpa using hlt⟩
        simp only [g78_b0, forceB_eq, ltI_eq, hl8, cond_true, e1', e2', forceI_eq, meansX_call, c1, c2, bindP_some, asB_b, asI_i, eqI_eq, e3, nneg, chk_true, shl_any (by omega : i % 4 ≤ 7), hor, bindO_some, wr_next (by omega : i ≤ 1000000), Bool.true_and]) (fun acc => by
    have : decide ((8 : Int) < 8) = false := rfl
    show g78_b0 (meansX F1 ro) ro u s c acc 8 _ = _
    simp only [g78_b0, forceB_eq, ltI_eq, this, cond_false]) 8 0 0 (by omega) (by omega)
  have hl2 := hl.1
  have e0 : ((0 : Nat) : Int) = 0 := rfl
  rw [e0] at hl2
  simp only [meansX_loop, hl2, bindO_some, tupA]
  exact fin_pure rfl
def beF (u s c i acc : Nat) : Nat := cond (s.testBit (i % 4) && Nat.beq (nx u i) c) (acc ||| 2 ^ (i / 2)) acc
def beV (u s c : Nat) : Nat := iterF (beF u s c) 8 0 0
theorem behind_ok {ro : List ABlk} {h : Heap} {u s c : Nat} (hu : u < 256) (hs : s < 256) : callX F1 ro 74 [.i .u8 u, .i .u8 s, .i .i64 c] h = some (.i .u8 (beV u s c : Nat), h, h.length, h.length) := by
  refine g74_ok (meansX_ok F1 ro) rfl ?_
  unfold g74
  have hl := loop_acc (b := fun z => g74_b0 (meansX F1 ro) ro u s c z.1 z.2.1 z.2.2) 8 (beF u s c) ⟨h, h.length, h.length⟩ (fun acc => acc < 256) (fun i acc hi hP => by
    obtain ⟨e1, e2⟩ := sm_num i hi
    have e1' : shrV .i64 (i : Int) 1 = ((i / 2 : Nat) : Int) := e1
    have e2' : bitV .and .i64 (i : Int) 3 = ((i % 4 : Nat) : Int) := e2
    have c1 := callM_pure (call := callX F1 ro) (l := h.length) (p := h.length) (has_ok (ro := ro) (h := h) hs (by omega : i % 4 < 8)) (Nat.le_refl _) (Nat.le_refl _)
    have c2 := callM_pure (call := callX F1 ro) (l := h.length) (p := h.length) (next_ok (ro := ro) (h := h) hu hi) (Nat.le_refl _) (Nat.le_refl _)
    have e3 : (((nx u i : Nat) : Int) == (c : Int)) = Nat.beq (nx u i) c := by
      cases hb : Nat.beq (nx u i) c
      · exact beq_eq_false_iff_ne.2 fun e => by
          have : Nat.beq (nx u i) c = true := beq_iff.2 (by omega)
          rw [this] at hb; cases hb
      · rw [beq_iff.1 hb]; simp
    have hl8 : decide ((i : Int) < 8) = true := by simp; omega
    have hor := bit_or hP (p2_lt (by omega : i / 2 < 8))
    have hlt := or_lt hP (p2_lt (by omega : i / 2 < 8))
    unfold beF
    cases hb : s.testBit (i % 4) with
    | false =>
      rw [hb] at c1
      refine ⟨?_, by simpa using hP⟩
      simp only [g74_b0, forceB_eq, ltI_eq, hl8, cond_true, e2', forceI_eq, meansX_call, c1, bindP_some, asB_b, cond_false, bindO_some, wr_next (by omega : i ≤ 1000000), Bool.false_and]
    | true =>
      rw [hb] at c1
      cases hn : Nat.beq (nx u i) c with
      | false =>
        rw [hn] at e3
        refine ⟨?_, by simpa using hP⟩
        simp only [g74_b0, forceB_eq, ltI_eq, hl8, cond_true, e2', forceI_eq, meansX_call, c1, c2, bindP_some, asB_b, asI_i, eqI_eq, e3, cond_false, bindO_some, wr_next (by omega : i ≤ 1000000), Bool.true_and]
      | true =>
        rw [hn] at e3
        refine ⟨?_, by simpa using hlt⟩
        simp only [g74_b0, forceB_eq, ltI_eq, hl8, cond_true, e1', e2', forceI_eq, meansX_call, c1, c2, bindP_some, asB_b, asI_i, eqI_eq, e3, nneg, chk_true, shl_any (by omega : i / 2 ≤ 7), hor, bindO_some, wr_next (by omega : i ≤ 1000000), Bool.true_and]) (fun acc => by
    have : decide ((8 : Int) < 8) = false := rfl
    show g74_b0 (meansX F1 ro) ro u s c acc 8 _ = _
    simp only [g74_b0, forceB_eq, ltI_eq, this, cond_false]) 8 0 0 (by omega) (by omega)
  have hl2 := hl.1
  have e0 : ((0 : Nat) : Int) = 0 := rfl
  rw [e0] at hl2
  simp only [meansX_loop, hl2, bindO_some, tupA]
  exact fin_pure rfl

/- sixteen bits -/
theorem bv16 {x : Nat} (hx : x < 65536) : (BitVec.ofInt IntKind.u16.bits (x : Int)).toNat = x := by
  show (BitVec.ofInt 16 (x : Int)).toNat = x
  rw [BitVec.ofInt_natCast, BitVec.toNat_ofNat]
  exact Nat.mod_eq_of_lt hx
theorem wrap16 {x : Nat} (hx : x < 65536) : IntKind.u16.wrap (x : Int) = (x : Int) := by
  simp [IntKind.wrap, IntKind.signed, IntKind.bits]
  omega
theorem or16 {a c : Nat} (ha : a < 65536) (hc : c < 65536) : bitV .or .u16 a c = ((a ||| c : Nat) : Int) := by
  have h : a ||| c < 65536 := Nat.or_lt_two_pow (n := 16) ha hc
  have e : (BitVec.ofInt IntKind.u16.bits (a : Int) ||| BitVec.ofInt IntKind.u16.bits (c : Int)).toNat = a ||| c := by rw [BitVec.toNat_or, bv16 ha, bv16 hc]
  unfold bitV
  simp only [Vm.bits, bitsS, e, mkI_eq, wrap16 h, numA]
theorem and16 {a c : Nat} (ha : a < 65536) (hc : c < 65536) : bitV .and .u16 a c = ((a &&& c : Nat) : Int) := by
  have h : a &&& c < 65536 := Nat.lt_of_le_of_lt Nat.and_le_left ha
  have e : (BitVec.ofInt IntKind.u16.bits (a : Int) &&& BitVec.ofInt IntKind.u16.bits (c : Int)).toNat = a &&& c := by rw [BitVec.toNat_and, bv16 ha, bv16 hc]
  unfold bitV
  simp only [Vm.bits, bitsS, e, mkI_eq, wrap16 h, numA]
theorem la_num : ∀ a, a < 8 → ∀ b, b < 8 → bitV .or .i64 (shlV .i64 (shrV .i64 (Int.ofNat a) 1) 2) (shrV .i64 (Int.ofNat b) 1) = Int.ofNat (a / 2 * 4 + b / 2) ∧
    bitV .or .i64 (shlV .i64 (bitV .and .i64 (Int.ofNat a) 3) 2) (bitV .and .i64 (Int.ofNat b) 3) = Int.ofNat (a % 4 * 4 + b % 4) := by decide +kernel
theorem sh_num : ∀ k, k < 16 → shlV .u16 1 (Int.ofNat k) = Int.ofNat (2 ^ k) := by decide +kernel
def laF (u s a b : Nat) (acc : Nat × Nat) : Nat × Nat :=
  cond (Nat.beq (nx u a) (nx u b) && (s.testBit (a / 2 * 4 + b / 2) && s.testBit (a % 4 * 4 + b % 4))) (acc.1 ||| 2 ^ (a / 2 * 4 + b / 2), acc.2 ||| 2 ^ (a % 4 * 4 + b % 4)) acc
def laG (u s a : Nat) (acc : Nat × Nat) : Nat × Nat := iterG (laF u s a) 8 0 acc
def laV (u s : Nat) : Nat := s &&& (iterG (laG u s) 8 0 (0, 0)).1 &&& (iterG (laG u s) 8 0 (0, 0)).2
theorem p16_lt {k : Nat} (h : k < 16) : 2 ^ k < 65536 := by
  have : 2 ^ k ≤ 2 ^ 15 := Nat.pow_le_pow_right (by omega) (by omega)
  omega
theorem and_p {s k : Nat} (hs : s < 65536) (hk : k < 16) : (!eqI (bitV .and .u16 (s : Int) ((2 ^ k : Nat) : Int)) 0) = s.testBit k := by
  rw [and16 hs (p16_lt hk), eqI_eq]
  cases hb : s.testBit k with
  | false =>
    have : s &&& 2 ^ k = 0 := by
      apply Nat.eq_of_testBit_eq
      intro i
      rw [Nat.testBit_and, Nat.testBit_two_pow, Nat.zero_testBit]
      by_cases e : k = i
      · subst e; rw [hb]; rfl
      · rw [decide_eq_false e, Bool.and_false]
    rw [this]; rfl
  | true =>
    have : s &&& 2 ^ k ≠ 0 := fun e => by
      have h2 : (s &&& 2 ^ k).testBit k = true := by rw [Nat.testBit_and, Nat.testBit_two_pow, hb]; simp
      rw [e, Nat.zero_testBit] at h2; cases h2
    have e : (((s &&& 2 ^ k : Nat) : Int) == 0) = false := beq_eq_false_iff_ne.2 (by omega)
    rw [e]; rfl
theorem lasting_ok {ro : List ABlk} {h : Heap} {u s : Nat} (hu : u < 256) (hs : s < 65536) : callX F1 ro 79 [.i .u8 u, .i .u16 s] h = some (.i .u16 (laV u s : Nat), h, h.length, h.length) := by
  refine g79_ok (meansX_ok F1 ro) rfl ?_
  unfold g79
  have e0 : ((0 : Nat) : Int) = 0 := rfl
  have inner : ∀ (a : Nat) (acc : Nat × Nat), a < 8 → acc.1 < 65536 ∧ acc.2 < 65536 → loopX (fun z => g79_b1 (meansX F1 ro) ro u s a z.1 z.2.1 z.2.2.1 z.2.2.2) ((acc.1 : Int), (acc.2 : Int), (0 : Int), (⟨h, h.length, h.length⟩ : Mm)) = some ((((laG u s a acc).1 : Nat) : Int), (((laG u s a acc).2 : Nat) : Int), ⟨h, h.length, h.length⟩) ∧ ((laG u s a acc).1 < 65536 ∧ (laG u s a acc).2 < 65536) := by
    intro a acc ha hP
    have hl := loop_acc2 (b := fun z => g79_b1 (meansX F1 ro) ro u s a z.1 z.2.1 z.2.2.1 z.2.2.2) 8 (laF u s a) ⟨h, h.length, h.length⟩ (fun acc => acc.1 < 65536 ∧ acc.2 < 65536) (fun b acc hb hP => by
      obtain ⟨e1, e2⟩ := la_num a ha b hb
      have e1' : bitV .or .i64 (shlV .i64 (shrV .i64 (a : Int) 1) 2) (shrV .i64 (b : Int) 1) = ((a / 2 * 4 + b / 2 : Nat) : Int) := e1
      have e2' : bitV .or .i64 (shlV .i64 (bitV .and .i64 (a : Int) 3) 2) (bitV .and .i64 (b : Int) 3) = ((a % 4 * 4 + b % 4 : Nat) : Int) := e2
      have k1 : a / 2 * 4 + b / 2 < 16 := by omega
      have k2 : a % 4 * 4 + b % 4 < 16 := by omega
      have s1 : shlV .u16 1 ((a / 2 * 4 + b / 2 : Nat) : Int) = ((2 ^ (a / 2 * 4 + b / 2) : Nat) : Int) := sh_num _ k1
      have s2 : shlV .u16 1 ((a % 4 * 4 + b % 4 : Nat) : Int) = ((2 ^ (a % 4 * 4 + b % 4) : Nat) : Int) := sh_num _ k2
      have c1 := callM_pure (call := callX F1 ro) (l := h.length) (p := h.length) (next_ok (ro := ro) (h := h) hu ha) (Nat.le_refl _) (Nat.le_refl _)
      have c2 := callM_pure (call := callX F1 ro) (l := h.length) (p := h.length) (next_ok (ro := ro) (h := h) hu hb) (Nat.le_refl _) (Nat.le_refl _)
      have e3 : (((nx u a : Nat) : Int) == ((nx u b : Nat) : Int)) = Nat.beq (nx u a) (nx u b) := by
        cases hb : Nat.beq (nx u a) (nx u b)
        · exact beq_eq_false_iff_ne.2 fun e => by
            have : Nat.beq (nx u a) (nx u b) = true := beq_iff.2 (by omega)
            rw [this] at hb; cases hb
        · rw [beq_iff.1 hb]; simp
      have hl8 : decide ((b : Int) < 8) = true := by simp; omega
      have t1 := and_p hs k1
      have t2 := and_p hs k2
      rw [eqI_eq] at t1 t2
      have o1 := or16 hP.1 (p16_lt k1)
      have o2 := or16 hP.2 (p16_lt k2)
      have l1 : acc.1 ||| 2 ^ (a / 2 * 4 + b / 2) < 65536 := Nat.or_lt_two_pow (n := 16) hP.1 (p16_lt k1)
      have l2 : acc.2 ||| 2 ^ (a % 4 * 4 + b % 4) < 65536 := Nat.or_lt_two_pow (n := 16) hP.2 (p16_lt k2)
      unfold laF
      cases hn : Nat.beq (nx u a) (nx u b) with
      | false =>
        rw [hn] at e3
        refine ⟨?_, by simpa using hP⟩
        simp only [g79_b1, forceB_eq, ltI_eq, hl8, cond_true, forceI_eq, e1', e2', nneg, chk_true, s1, s2, meansX_call, c1, c2, bindP_some, asI_i, eqI_eq, e3, cond_false, bindO_some, wr_next (by omega : b ≤ 1000000), Bool.false_and]
      | true =>
        rw [hn] at e3
        cases h1 : s.testBit (a / 2 * 4 + b / 2) with
        | false =>
          rw [h1] at t1
          refine ⟨?_, by simpa using hP⟩
          simp only [g79_b1, forceB_eq, ltI_eq, hl8, cond_true, forceI_eq, e1', e2', nneg, chk_true, s1, s2, meansX_call, c1, c2, bindP_some, asI_i, eqI_eq, e3, t1, cond_false, bindO_some, wr_next (by omega : b ≤ 1000000), Bool.false_and, Bool.true_and]
        | true =>
          rw [h1] at t1
          cases h2 : s.testBit (a % 4 * 4 + b % 4) with
          | false =>
            rw [h2] at t2
            refine ⟨?_, by simpa using hP⟩
            simp only [g79_b1, forceB_eq, ltI_eq, hl8, cond_true, forceI_eq, e1', e2', nneg, chk_true, s1, s2, meansX_call, c1, c2, bindP_some, asI_i, eqI_eq, e3, t1, t2, cond_false, bindO_some, wr_next (by omega : b ≤ 1000000), Bool.false_and, Bool.true_and]
          | true =>
            rw [h2] at t2
            refine ⟨?_, by simpa using And.intro l1 l2⟩
            simp only [g79_b1, forceB_eq, ltI_eq, hl8, cond_true, forceI_eq, e1', e2', nneg, chk_true, s1, s2, meansX_call, c1, c2, bindP_some, asI_i, eqI_eq, e3, t1, t2, o1, o2, bindO_some, wr_next (by omega : b ≤ 1000000), Bool.true_and]) (fun x y => by
      have : decide ((8 : Int) < 8) = false := rfl
      show g79_b1 (meansX F1 ro) ro u s a x y 8 _ = _
      simp only [g79_b1, forceB_eq, ltI_eq, this, cond_false]) 8 0 acc (by omega) hP
    exact hl
  have hl := loop_acc2 (b := fun z => g79_b0 (meansX F1 ro) ro u s z.1 z.2.1 z.2.2.1 z.2.2.2) 8 (laG u s) ⟨h, h.length, h.length⟩ (fun acc => acc.1 < 65536 ∧ acc.2 < 65536) (fun a acc ha hP => by
    obtain ⟨i1, i2⟩ := inner a acc ha hP
    have hl8 : decide ((a : Int) < 8) = true := by simp; omega
    refine ⟨?_, i2⟩
    simp only [g79_b0, forceB_eq, ltI_eq, hl8, cond_true, meansX_loop, i1, bindO_some, forceI_eq, wr_next (by omega : a ≤ 1000000)]) (fun x y => by
    have : decide ((8 : Int) < 8) = false := rfl
    show g79_b0 (meansX F1 ro) ro u s x y 8 _ = _
    simp only [g79_b0, forceB_eq, ltI_eq, this, cond_false]) 8 0 (0, 0) (by omega) ⟨by omega, by omega⟩
  obtain ⟨h1, h2, h3⟩ := hl
  simp only [e0] at h1
  have a1 := and16 hs h2
  have a1l : s &&& (iterG (laG u s) 8 0 (0, 0)).1 < 65536 := Nat.lt_of_le_of_lt Nat.and_le_left hs
  have a2 := and16 a1l h3
  simp only [meansX_loop, h1, bindO_some, forceI_eq, a1, a2, tupA]
  exact fin_pure rfl
end Go.Proofs.Ytjjinlljdfaipaa.W

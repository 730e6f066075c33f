/- Contracts of the functions: what each of them answers. -/
import Derived.Test.YtgbkicelkpagpaaVmGt
import Derived.Test.YtgbkicelkpagpaaVmAF
import Derived.Test.YtgbkicelkpagpaaVmFO
import Derived.Test.YtgbkicelkpagpaaRows
import Derived.WalkKit
import Derived.ProofKit
import Derived.OpenShut
import Derived.Carry
import Derived.Below
import Derived.Deep.Matrix
import Derived.Test.YtgbkicelkpagpaaVmAG
/- From the statement to the small machine, for numbers as arguments; readings of a rule. -/
open Go.Vm
set_option linter.unusedVariables false
namespace Go.Proofs.Ytgbkicelkpagpaa.W
open Go Go.RowKit Go.Deep Go.WideShapes Go.ChangeShapes

abbrev F1 : Tab := ⟨F, known0 15 (.b true)⟩
theorem own : ownKnob Try.prog.godebug = none := by kernel_rfl
theorem env_ok {W : World} {ro : List ABlk} {rl : Rl} (h : ∀ (i : Nat) (b : ABlk), ro[i]? = some b → ∃ x, rl[i]? = some x ∧ ∀ j, j < b.n → x.block < W.heap.size ∧ ∃ v', W.cell? (x.add j) = some v' ∧ VR rl [] (b.c.get j) v') :
    (Env.mk Try.prog W.heap.size W ro rl).Ok := ⟨fun i b hb => h i b hb, Nat.le_refl _⟩
/-- the call of the model: true, and below nothing has turned -/
theorem call_of (alive : callX ⟨F, noCall⟩ [] 15 [] [] = some (.b true, [], 0, 0)) {W : World} {ro : List ABlk} {rl : Rl} (hE : (Env.mk Try.prog W.heap.size W ro rl).Ok) {K : Nat} {vs : List AVal} {args : Array Value}
    (hv : LR rl [] vs args) {h' : Heap} {lw lp : Nat} (hc : callX F1 ro K vs [] = some (.b true, h', lw, lp)) : Calls Try.prog K args W fun e W' => e = .returned (.bool true) ∧ Below W.heap.size W W' := by
  have hm : (Env.mk Try.prog W.heap.size W ro rl).P.follows .mixedOrders = true := Try.checked.mixed
  have hO : CallOk (Env.mk Try.prog W.heap.size W ro rl) (known0 15 (.b true)) := known0_of hE hm fok alive rfl
  obtain ⟨-, h2⟩ := callX_sound hE hm (F := F1) fok hO K vs [] _ _ _ _ hc
  refine Calls.mono (h2 [] W args ⟨Below.refl _ _, rfl, by simp, fun i b r K hl => by simp [Live] at hl, fun i j b b' r K K' hl => by simp [Live] at hl⟩ hv) fun e w' hq => ?_
  obtain ⟨v', rfl, m', hvr, T⟩ := hq
  exact ⟨by rw [hvr.inv_b], T.hr.below⟩
theorem alive_any {ro : List ABlk} {h : Heap} : callX F1 ro 15 [] h = some (.b true, h, h.length, h.length) := callX_ov (by rfl)

theorem all_16 {P : Nat → Bool} {j : Nat} (h : ((List.range 16).all fun i => P (16 * j + i)) = true) {n : Nat} (h1 : 16 * j ≤ n) (h2 : n < 16 * j + 16) : P n = true := by
  have := List.all_eq_true.1 h (n - 16 * j) (List.mem_range.2 (by omega))
  rwa [show 16 * j + (n - 16 * j) = n by omega] at this

/- a number that is no rule -/
end Go.Proofs.Ytgbkicelkpagpaa.W

/- The rule's small functions. -/
open Go.Vm
set_option linter.unusedVariables false
namespace Go.Proofs.Ytgbkicelkpagpaa.W
open Go

/-- the bit of a rule -/
def nx (u t : Nat) : Nat := (u >>> t) % 2
theorem nx_le (u t : Nat) : nx u t ≤ 1 := by unfold nx; omega
theorem next_num : ∀ u, u < 256 → ∀ t, t < 8 → bitV .and .i64 (wr .i64 (shrV .u8 (Int.ofNat u) (Int.ofNat t))) 1 = Int.ofNat (nx u t) := by decide +kernel
theorem next_ok {ro : List ABlk} {h : Heap} {u t : Nat} (hu : u < 256) (ht : t < 8) : callX F1 ro 72 [.i .u8 u, .i .i64 t] h = some (.i .i64 (nx u t : Nat), h, h.length, h.length) := by
  refine g72_ok (meansX_ok F1 ro) rfl ?_
  unfold g72
  have e := next_num u hu t ht
  have e' : bitV .and .i64 (wr .i64 (shrV .u8 (u : Int) (t : Int))) 1 = ((nx u t : Nat) : Int) := e
  simp only [ltI_eq, nneg, chk_true, forceI_eq, e', tupA]
  exact fin_pure rfl
theorem has_num : ∀ s, s < 256 → ∀ t, t < 8 → eqI (bitV .and .u8 (shrV .u8 (Int.ofNat s) (Int.ofNat t)) 1) 1 = Nat.testBit s t := by decide +kernel
theorem has_ok {ro : List ABlk} {h : Heap} {s t : Nat} (hs : s < 256) (ht : t < 8) : callX F1 ro 76 [.i .u8 s, .i .i64 t] h = some (.b (s.testBit t), h, h.length, h.length) := by
  refine g76_ok (meansX_ok F1 ro) rfl ?_
  unfold g76
  have e := has_num s hs t ht
  have e' : eqI (bitV .and .u8 (shrV .u8 (s : Int) (t : Int)) 1) 1 = s.testBit t := e
  simp only [ltI_eq, nneg, chk_true, forceI_eq, e', forceB_eq, tupA]
  exact fin_pure rfl

theorem sm_num : ∀ t, t < 8 → shrV .i64 (Int.ofNat t) 1 = Int.ofNat (t / 2) ∧ bitV .and .i64 (Int.ofNat t) 3 = Int.ofNat (t % 4) := by decide +kernel
theorem p2_lt {k : Nat} (h : k < 8) : 2 ^ k < 256 := by
  have : 2 ^ k ≤ 2 ^ 7 := Nat.pow_le_pow_right (by omega) (by omega)
  omega
def ahF (u s c i acc : Nat) : Nat := cond (s.testBit (i / 2) && Nat.beq (nx u i) c) (acc ||| 2 ^ (i % 4)) acc
def ahV (u s c : Nat) : Nat := iterF (ahF u s c) 8 0 0
theorem ahead_ok {ro : List ABlk} {h : Heap} {u s c : Nat} (hu : u < 256) (hs : s < 256) : callX F1 ro 78 [.i .u8 u, .i .u8 s, .i .i64 c] h = some (.i .u8 (ahV u s c : Nat), h, h.length, h.length) := by
  refine g78_ok (meansX_ok F1 ro) rfl ?_
  unfold g78
  have hl := loop_acc (b := fun z => g78_b0 (meansX F1 ro) ro u s c z.1 z.2.1 z.2.2) 8 (ahF u s c) ⟨h, h.length, h.length⟩ (fun acc => acc < 256) (fun i acc hi hP => by
    obtain ⟨e1, e2⟩ := sm_num i hi
    have e1' : shrV .i64 (i : Int) 1 = ((i / 2 : Nat) : Int) := e1
    have e2' : bitV .and .i64 (i : Int) 3 = ((i % 4 : Nat) : Int) := e2
    have c1 := callM_pure (call := callX F1 ro) (l := h.length) (p := h.length) (has_ok (ro := ro) (h := h) hs (by omega : i / 2 < 8)) (Nat.le_refl _) (Nat.le_refl _)
    have c2 := callM_pure (call := callX F1 ro) (l := h.length) (p := h.length) (next_ok (ro := ro) (h := h) hu hi) (Nat.le_refl _) (Nat.le_refl _)
    have e3 : (((nx u i : Nat) : Int) == (c : Int)) = Nat.beq (nx u i) c := by
      cases hb : Nat.beq (nx u i) c
      · exact beq_eq_false_iff_ne.2 fun e => by
          have : Nat.beq (nx u i) c = true := beq_iff.2 (by omega)
          rw [this] at hb; cases hb
      · rw [beq_iff.1 hb]; simp
    have hl8 : decide ((i : Int) < 8) = true := by simp; omega
    have hor := bit_or hP (p2_lt (by omega : i % 4 < 8))
    have hlt := or_lt hP (p2_lt (by omega : i % 4 < 8))
    unfold ahF
    cases hb : s.testBit (i / 2) with
    | false =>
      rw [hb] at c1
      refine ⟨?_, by simpa using hP⟩
      simp only [g78_b0, forceB_eq, ltI_eq, hl8, cond_true, e1', forceI_eq, meansX_call, c1, bindP_some, asB_b, cond_false, bindO_some, wr_next (by omega : i ≤ 1000000), Bool.false_and]
    | true =>
      rw [hb] at c1
      cases hn : Nat.beq (nx u i) c with
      | false =>
        rw [hn] at e3
        refine ⟨?_, by simpa using hP⟩
        simp only [g78_b0, forceB_eq, ltI_eq, hl8, cond_true, e1', forceI_eq, meansX_call, c1, c2, bindP_some, asB_b, asI_i, eqI_eq, e3, cond_false, bindO_some, wr_next (by omega : i ≤ 1000000), Bool.true_and]
      | true =>
        rw [hn] at e3
        refine ⟨?_, by simpa using hlt⟩
        simp only [g78_b0, forceB_eq, ltI_eq, hl8, cond_true, e1', e2', forceI_eq, meansX_call, c1, c2, bindP_some, asB_b, asI_i, eqI_eq, e3, nneg, chk_true, shl_any (by omega : i % 4 ≤ 7), hor, bindO_some, wr_next (by omega : i ≤ 1000000), Bool.true_and]) (fun acc => by
    have : decide ((8 : Int) < 8) = false := rfl
    show g78_b0 (meansX F1 ro) ro u s c acc 8 _ = _
    simp only [g78_b0, forceB_eq, ltI_eq, this, cond_false]) 8 0 0 (by omega) (by omega)
  have hl2 := hl.1
  have e0 : ((0 : Nat) : Int) = 0 := rfl
  rw [e0] at hl2
  simp only [meansX_loop, hl2, bindO_some, tupA]
  exact fin_pure rfl
def beF (u s c i acc : Nat) : Nat := cond (s.testBit (i % 4) && Nat.beq (nx u i) c) (acc ||| 2 ^ (i / 2)) acc
def beV (u s c : Nat) : Nat := iterF (beF u s c) 8 0 0
theorem behind_ok {ro : List ABlk} {h : Heap} {u s c : Nat} (hu : u < 256) (hs : s < 256) : callX F1 ro 74 [.i .u8 u, .i .u8 s, .i .i64 c] h = some (.i .u8 (beV u s c : Nat), h, h.length, h.length) := by
  refine g74_ok (meansX_ok F1 ro) rfl ?_
  unfold g74
  have hl := loop_acc (b := fun z => g74_b0 (meansX F1 ro) ro u s c z.1 z.2.1 z.2.2) 8 (beF u s c) ⟨h, h.length, h.length⟩ (fun acc => acc < 256) (fun i acc hi hP => by
    obtain ⟨e1, e2⟩ := sm_num i hi
    have e1' : shrV .i64 (i : Int) 1 = ((i / 2 : Nat) : Int) := e1
    have e2' : bitV .and .i64 (i : Int) 3 = ((i % 4 : Nat) : Int) := e2
    have c1 := callM_pure (call := callX F1 ro) (l := h.length) (p := h.length) (has_ok (ro := ro) (h := h) hs (by omega : i % 4 < 8)) (Nat.le_refl _) (Nat.le_refl _)
    have c2 := callM_pure (call := callX F1 ro) (l := h.length) (p := h.length) (next_ok (ro := ro) (h := h) hu hi) (Nat.le_refl _) (Nat.le_refl _)
    have e3 : (((nx u i : Nat) : Int) == (c : Int)) = Nat.beq (nx u i) c := by
      cases hb : Nat.beq (nx u i) c
      · exact beq_eq_false_iff_ne.2 fun e => by
          have : Nat.beq (nx u i) c = true := beq_iff.2 (by omega)
          rw [this] at hb; cases hb
      · rw [beq_iff.1 hb]; simp
    have hl8 : decide ((i : Int) < 8) = true := by simp; omega
    have hor := bit_or hP (p2_lt (by omega : i / 2 < 8))
    have hlt := or_lt hP (p2_lt (by omega : i / 2 < 8))
    unfold beF
    cases hb : s.testBit (i % 4) with
    | false =>
      rw [hb] at c1
      refine ⟨?_, by simpa using hP⟩
      simp only [g74_b0, forceB_eq, ltI_eq, hl8, cond_true, e2', forceI_eq, meansX_call, c1, bindP_some, asB_b, cond_false, bindO_some, wr_next (by omega : i ≤ 1000000), Bool.false_and]
    | true =>
      rw [hb] at c1
      cases hn : Nat.beq (nx u i) c with
      | false =>
        rw [hn] at e3
        refine ⟨?_, by simpa using hP⟩
        simp only [g74_b0, forceB_eq, ltI_eq, hl8, cond_true, e2', forceI_eq, meansX_call, c1, c2, bindP_some, asB_b, asI_i, eqI_eq, e3, cond_false, bindO_some, wr_next (by omega : i ≤ 1000000), Bool.true_and]
      | true =>
        rw [hn] at e3
        refine ⟨?_, by simpa using hlt⟩
        simp only [g74_b0, forceB_eq, ltI_eq, hl8, cond_true, e1', e2', forceI_eq, meansX_call, c1, c2, bindP_some, asB_b, asI_i, eqI_eq, e3, nneg, chk_true, shl_any (by omega : i / 2 ≤ 7), hor, bindO_some, wr_next (by omega : i ≤ 1000000), Bool.true_and]) (fun acc => by
    have : decide ((8 : Int) < 8) = false := rfl
    show g74_b0 (meansX F1 ro) ro u s c acc 8 _ = _
    simp only [g74_b0, forceB_eq, ltI_eq, this, cond_false]) 8 0 0 (by omega) (by omega)
  have hl2 := hl.1
  have e0 : ((0 : Nat) : Int) = 0 := rfl
  rw [e0] at hl2
  simp only [meansX_loop, hl2, bindO_some, tupA]
  exact fin_pure rfl

/- sixteen bits -/
theorem bv16 {x : Nat} (hx : x < 65536) : (BitVec.ofInt IntKind.u16.bits (x : Int)).toNat = x := by
  show (BitVec.ofInt 16 (x : Int)).toNat = x
  rw [BitVec.ofInt_natCast, BitVec.toNat_ofNat]
  exact Nat.mod_eq_of_lt hx
theorem wrap16 {x : Nat} (hx : x < 65536) : IntKind.u16.wrap (x : Int) = (x : Int) := by
  simp [IntKind.wrap, IntKind.signed, IntKind.bits]
  omega
theorem or16 {a c : Nat} (ha : a < 65536) (hc : c < 65536) : bitV .or .u16 a c = ((a ||| c : Nat) : Int) := by
  have h : a ||| c < 65536 := Nat.or_lt_two_pow (n := 16) ha hc
  have e : (BitVec.ofInt IntKind.u16.bits (a : Int) ||| BitVec.ofInt IntKind.u16.bits (c : Int)).toNat = a ||| c := by rw [BitVec.toNat_or, bv16 ha, bv16 hc]
  unfold bitV
  simp only [Vm.bits, bitsS, e, mkI_eq, wrap16 h, numA]
theorem and16 {a c : Nat} (ha : a < 65536) (hc : c < 65536) : bitV .and .u16 a c = ((a &&& c : Nat) : Int) := by
  have h : a &&& c < 65536 := Nat.lt_of_le_of_lt Nat.and_le_left ha
  have e : (BitVec.ofInt IntKind.u16.bits (a : Int) &&& BitVec.ofInt IntKind.u16.bits (c : Int)).toNat = a &&& c := by rw [BitVec.toNat_and, bv16 ha, bv16 hc]
  unfold bitV
  simp only [Vm.bits, bitsS, e, mkI_eq, wrap16 h, numA]
theorem la_num : ∀ a, a < 8 → ∀ b, b < 8 → bitV .or .i64 (shlV .i64 (shrV .i64 (Int.ofNat a) 1) 2) (shrV .i64 (Int.ofNat b) 1) = Int.ofNat (a / 2 * 4 + b / 2) ∧
    bitV .or .i64 (shlV .i64 (bitV .and .i64 (Int.ofNat a) 3) 2) (bitV .and .i64 (Int.ofNat b) 3) = Int.ofNat (a % 4 * 4 + b % 4) := by decide +kernel
theorem sh_num : ∀ k, k < 16 → shlV .u16 1 (Int.ofNat k) = Int.ofNat (2 ^ k) := by decide +kernel
def laF (u s a b : Nat) (acc : Nat × Nat) : Nat × Nat :=
  cond (Nat.beq (nx u a) (nx u b) && (s.testBit (a / 2 * 4 + b / 2) && s.testBit (a % 4 * 4 + b % 4))) (acc.1 ||| 2 ^ (a / 2 * 4 + b / 2), acc.2 ||| 2 ^ (a % 4 * 4 + b % 4)) acc
def laG (u s a : Nat) (acc : Nat × Nat) : Nat × Nat := iterG (laF u s a) 8 0 acc
def laV (u s : Nat) : Nat := s &&& (iterG (laG u s) 8 0 (0, 0)).1 &&& (iterG (laG u s) 8 0 (0, 0)).2
theorem p16_lt {k : Nat} (h : k < 16) : 2 ^ k < 65536 := by
  have : 2 ^ k ≤ 2 ^ 15 := Nat.pow_le_pow_right (by omega) (by omega)
  omega
theorem and_p {s k : Nat} (hs : s < 65536) (hk : k < 16) : (!eqI (bitV .and .u16 (s : Int) ((2 ^ k : Nat) : Int)) 0) = s.testBit k := by
  rw [and16 hs (p16_lt hk), eqI_eq]
  cases hb : s.testBit k with
  | false =>
    have : s &&& 2 ^ k = 0 := by
      apply Nat.eq_of_testBit_eq
      intro i
      rw [Nat.testBit_and, Nat.testBit_two_pow, Nat.zero_testBit]
      by_cases e : k = i
      · subst e; rw [hb]; rfl
      · rw [decide_eq_false e, Bool.and_false]
    rw [this]; rfl
  | true =>
    have : s &&& 2 ^ k ≠ 0 := fun e => by
      have h2 : (s &&& 2 ^ k).testBit k = true := by rw [Nat.testBit_and, Nat.testBit_two_pow, hb]; simp
      rw [e, Nat.zero_testBit] at h2; cases h2
    have e : (((s &&& 2 ^ k : Nat) : Int) == 0) = false := beq_eq_false_iff_ne.2 (by omega)
    rw [e]; rfl
theorem lasting_ok {ro : List ABlk} {h : Heap} {u s : Nat} (hu : u < 256) (hs : s < 65536) : callX F1 ro 79 [.i .u8 u, .i .u16 s] h = some (.i .u16 (laV u s : Nat), h, h.length, h.length) := by
  refine g79_ok (meansX_ok F1 ro) rfl ?_
  unfold g79
  have e0 : ((0 : Nat) : Int) = 0 := rfl
  have inner : ∀ (a : Nat) (acc : Nat × Nat), a < 8 → acc.1 < 65536 ∧ acc.2 < 65536 → loopX (fun z => g79_b1 (meansX F1 ro) ro u s a z.1 z.2.1 z.2.2.1 z.2.2.2) ((acc.1 : Int), (acc.2 : Int), (0 : Int), (⟨h, h.length, h.length⟩ : Mm)) = some ((((laG u s a acc).1 : Nat) : Int), (((laG u s a acc).2 : Nat) : Int), ⟨h, h.length, h.length⟩) ∧ ((laG u s a acc).1 < 65536 ∧ (laG u s a acc).2 < 65536) := by
    intro a acc ha hP
    have hl := loop_acc2 (b := fun z => g79_b1 (meansX F1 ro) ro u s a z.1 z.2.1 z.2.2.1 z.2.2.2) 8 (laF u s a) ⟨h, h.length, h.length⟩ (fun acc => acc.1 < 65536 ∧ acc.2 < 65536) (fun b acc hb hP => by
      obtain ⟨e1, e2⟩ := la_num a ha b hb
      have e1' : bitV .or .i64 (shlV .i64 (shrV .i64 (a : Int) 1) 2) (shrV .i64 (b : Int) 1) = ((a / 2 * 4 + b / 2 : Nat) : Int) := e1
      have e2' : bitV .or .i64 (shlV .i64 (bitV .and .i64 (a : Int) 3) 2) (bitV .and .i64 (b : Int) 3) = ((a % 4 * 4 + b % 4 : Nat) : Int) := e2
      have k1 : a / 2 * 4 + b / 2 < 16 := by omega
      have k2 : a % 4 * 4 + b % 4 < 16 := by omega
      have s1 : shlV .u16 1 ((a / 2 * 4 + b / 2 : Nat) : Int) = ((2 ^ (a / 2 * 4 + b / 2) : Nat) : Int) := sh_num _ k1
      have s2 : shlV .u16 1 ((a % 4 * 4 + b % 4 : Nat) : Int) = ((2 ^ (a % 4 * 4 + b % 4) : Nat) : Int) := sh_num _ k2
      have c1 := callM_pure (call := callX F1 ro) (l := h.length) (p := h.length) (next_ok (ro := ro) (h := h) hu ha) (Nat.le_refl _) (Nat.le_refl _)
      have c2 := callM_pure (call := callX F1 ro) (l := h.length) (p := h.length) (next_ok (ro := ro) (h := h) hu hb) (Nat.le_refl _) (Nat.le_refl _)
      have e3 : (((nx u a : Nat) : Int) == ((nx u b : Nat) : Int)) = Nat.beq (nx u a) (nx u b) := by
        cases hb : Nat.beq (nx u a) (nx u b)
        · exact beq_eq_false_iff_ne.2 fun e => by
            have : Nat.beq (nx u a) (nx u b) = true := beq_iff.2 (by omega)
            rw [this] at hb; cases hb
        · rw [beq_iff.1 hb]; simp
      have hl8 : decide ((b : Int) < 8) = true := by simp; omega
      have t1 := and_p hs k1
      have t2 := and_p hs k2
      rw [eqI_eq] at t1 t2
      have o1 := or16 hP.1 (p16_lt k1)
      have o2 := or16 hP.2 (p16_lt k2)
      have l1 : acc.1 ||| 2 ^ (a / 2 * 4 + b / 2) < 65536 := Nat.or_lt_two_pow (n := 16) hP.1 (p16_lt k1)
      have l2 : acc.2 ||| 2 ^ (a % 4 * 4 + b % 4) < 65536 := Nat.or_lt_two_pow (n := 16) hP.2 (p16_lt k2)
      unfold laF
      cases hn : Nat.beq (nx u a) (nx u b) with
      | false =>
        rw [hn] at e3
        refine ⟨?_, by simpa using hP⟩
        simp only [g79_b1, forceB_eq, ltI_eq, hl8, cond_true, forceI_eq, e1', e2', nneg, chk_true, meansX_call, c1, c2, bindP_some, asI_i, eqI_eq, e3, cond_false, bindO_some, wr_next (by omega : b ≤ 1000000), Bool.false_and]
      | true =>
        rw [hn] at e3
        cases h1 : s.testBit (a / 2 * 4 + b / 2) with
        | false =>
          rw [h1] at t1
          refine ⟨?_, by simpa using hP⟩
          simp only [g79_b1, forceB_eq, ltI_eq, hl8, cond_true, forceI_eq, e1', e2', nneg, chk_true, s1, s2, meansX_call, c1, c2, bindP_some, asI_i, eqI_eq, e3, t1, cond_false, bindO_some, wr_next (by omega : b ≤ 1000000), Bool.false_and, Bool.true_and]
        | true =>
          rw [h1] at t1
          cases h2 : s.testBit (a % 4 * 4 + b % 4) with
          | false =>
            rw [h2] at t2
            refine ⟨?_, by simpa using hP⟩
            simp only [g79_b1, forceB_eq, ltI_eq, hl8, cond_true, forceI_eq, e1', e2', nneg, chk_true, s1, s2, meansX_call, c1, c2, bindP_some, asI_i, eqI_eq, e3, t1, t2, cond_false, bindO_some, wr_next (by omega : b ≤ 1000000), Bool.true_and]
          | true =>
            rw [h2] at t2
            refine ⟨?_, by simpa using And.intro l1 l2⟩
            simp only [g79_b1, forceB_eq, ltI_eq, hl8, cond_true, forceI_eq, e1', e2', nneg, chk_true, s1, s2, meansX_call, c1, c2, bindP_some, asI_i, eqI_eq, e3, t1, t2, o1, o2, bindO_some, wr_next (by omega : b ≤ 1000000), Bool.true_and]) (fun x y => by
      have : decide ((8 : Int) < 8) = false := rfl
      show g79_b1 (meansX F1 ro) ro u s a x y 8 _ = _
      simp only [g79_b1, forceB_eq, ltI_eq, this, cond_false]) 8 0 acc (by omega) hP
    exact hl
  have hl := loop_acc2 (b := fun z => g79_b0 (meansX F1 ro) ro u s z.1 z.2.1 z.2.2.1 z.2.2.2) 8 (laG u s) ⟨h, h.length, h.length⟩ (fun acc => acc.1 < 65536 ∧ acc.2 < 65536) (fun a acc ha hP => by
    obtain ⟨i1, i2⟩ := inner a acc ha hP
    have hl8 : decide ((a : Int) < 8) = true := by simp; omega
    refine ⟨?_, i2⟩
    simp only [g79_b0, forceB_eq, ltI_eq, hl8, cond_true, meansX_loop, i1, bindO_some, forceI_eq, wr_next (by omega : a ≤ 1000000)]) (fun x y => by
    have : decide ((8 : Int) < 8) = false := rfl
    show g79_b0 (meansX F1 ro) ro u s x y 8 _ = _
    simp only [g79_b0, forceB_eq, ltI_eq, this, cond_false]) 8 0 (0, 0) (by omega) ⟨by omega, by omega⟩
  obtain ⟨h1, h2, h3⟩ := hl
  simp only [e0] at h1
  have a1 := and16 hs h2
  have a1l : s &&& (iterG (laG u s) 8 0 (0, 0)).1 < 65536 := Nat.lt_of_le_of_lt Nat.and_le_left hs
  have a2 := and16 a1l h3
  simp only [meansX_loop, h1, bindO_some, forceI_eq, a1, a2, tupA]
  exact fin_pure rfl
end Go.Proofs.Ytgbkicelkpagpaa.W

/- Tables: the orphan of each rule, and whether it is one to one; reckoned. -/
open Go.Vm
set_option linter.unusedVariables false
namespace Go.Proofs.Ytgbkicelkpagpaa.W
open Go

/-- the small functions, known by their numbers -/
def leafO : Caller := fun f a h => match a with
  | [.i .u8 (.ofNat u), .i .u8 (.ofNat s), .i .i64 (.ofNat c)] => cond (Nat.blt u 256 && Nat.blt s 256)
      (cond (Nat.beq f 78) (some (.i .u8 (.ofNat (ahV u s c)), h, h.length, h.length)) (cond (Nat.beq f 74) (some (.i .u8 (.ofNat (beV u s c)), h, h.length, h.length)) none)) none
  | [.i .u8 (.ofNat u), .i .u16 (.ofNat s)] => cond (Nat.beq f 79 && (Nat.blt u 256 && Nat.blt s 65536)) (some (.i .u16 (.ofNat (laV u s)), h, h.length, h.length)) none
  | [] => cond (Nat.beq f 15) (some (.b true, h, h.length, h.length)) none
  | _ => none
theorem leaf_le {ro : List ABlk} {f : Nat} {a : List AVal} {h : Heap} {r : AVal × Heap × Nat × Nat} (e : leafO f a h = some r) : callX F1 ro f a h = some r := by
  unfold leafO at e
  split at e
  · rename_i u s c
    cases hc : (Nat.blt u 256 && Nat.blt s 256) with
    | false => rw [hc] at e; cases e
    | true =>
      rw [hc] at e
      rw [Bool.and_eq_true, Nat.blt_eq, Nat.blt_eq] at hc
      cases h1 : Nat.beq f 78 with
      | true =>
        rw [h1] at e
        cases e
        rw [beq_iff.1 h1]
        exact ahead_ok hc.1 hc.2
      | false =>
        rw [h1] at e
        cases h2 : Nat.beq f 74 with
        | true =>
          rw [h2] at e
          cases e
          rw [beq_iff.1 h2]
          exact behind_ok hc.1 hc.2
        | false => rw [h2] at e; cases e
  · rename_i u s
    cases hc : (Nat.beq f 79 && (Nat.blt u 256 && Nat.blt s 65536)) with
    | false => rw [hc] at e; cases e
    | true =>
      rw [hc] at e
      rw [Bool.and_eq_true, Bool.and_eq_true, Nat.blt_eq, Nat.blt_eq] at hc
      cases e
      rw [beq_iff.1 hc.1]
      exact lasting_ok hc.2.1 hc.2.2
  · cases hc : Nat.beq f 15 with
    | false => rw [hc] at e; cases e
    | true =>
      rw [hc] at e
      cases e
      rw [beq_iff.1 hc]
      exact alive_any
  · cases e
abbrev F2 : Tab := ⟨F, leafO⟩
abbrev Rk2 (n : Nat) : Means := meansS [] leafO n

def orphL : List (List UInt8) := [[49], [49, 48, 49], [49, 49], [49, 48, 49], [49, 49], [49, 48, 48, 48, 49], [49, 49, 49], [49, 48, 48, 49], [49, 49], [49, 48, 49, 49], [49, 48, 49], [49, 48, 49], [49, 49], [49, 49, 48, 48], [49, 49, 49], [], [49, 49], [49, 48, 49], [49, 49, 49], [48, 49, 48], [49, 49, 49], [49, 48, 48, 49], [49, 48, 48, 49, 48, 49, 48, 49], [48, 49, 48, 48, 49], [49, 49], [49, 49, 48, 49, 49], [49, 49, 49, 49], [49, 48, 49, 48], [49, 49, 49], [49, 49, 48, 48], [], [48, 49, 49, 48], [49, 49], [49, 48, 49, 49], [49, 49], [49, 48, 49, 49], [49, 48, 49], [49, 48, 48, 49, 48, 49, 48, 48, 49], [48, 49, 48, 49], [48, 49, 48, 49], [49, 49, 49], [49, 48, 49, 49, 49], [49, 49, 49], [48, 49, 48, 48, 48], [49, 48, 49, 48], [], [48, 49, 48], [48, 49, 48], [49, 49], [49, 49, 48, 49], [49, 49, 49], [], [49, 48, 49, 48], [49, 48, 49, 48], [48, 49, 49, 48, 49], [49, 48, 49], [49, 49, 49], [48, 48, 49, 48, 48, 48], [49, 49, 49, 49], [48, 49, 48, 48], [], [48, 48, 49, 48, 48], [48, 49, 48, 49, 48], [48, 49, 48], [49, 49], [49, 49, 48, 49], [49, 49], [49, 49, 48, 49, 49], [49, 49], [48, 48, 49, 49], [49, 49, 49], [48, 48, 49, 49], [49, 49, 49], [49, 48, 48, 49, 49, 49], [49, 49, 49, 49], [], [49, 49, 49], [48, 48, 48, 49, 49], [49, 49, 49, 49], [48, 48, 49, 49], [49, 48, 49], [49, 48, 49], [49, 49, 49, 49], [48, 49, 48, 49], [49, 49, 49], [], [], [48, 49, 49, 48], [49, 49, 49, 49], [], [], [48, 49, 48, 48, 49, 48, 48, 49, 48], [49, 49, 49, 49], [49, 49, 48, 48], [48, 48, 49, 48, 48], [48, 48, 49, 48, 48], [49, 49, 49], [49, 49, 49, 48, 49], [49, 49, 49], [48, 48, 48, 49, 48, 48], [48, 49, 48, 49], [], [], [48, 48, 49, 48, 48], [49, 48, 48, 49, 48, 49, 48, 49], [], [], [48, 49, 48, 48, 48], [48, 49, 49, 48, 49], [48, 48, 48, 49, 49, 48], [48, 49, 48, 49, 48], [48, 49, 48, 48], [49, 49, 49], [48, 48, 48, 49, 48], [49, 49, 49, 49], [48, 48, 49, 48], [48, 49, 48], [48, 49, 48], [48, 49, 48, 49, 48], [48, 49, 48], [], [48, 48, 48, 49, 48], [48, 48, 49, 48, 48], [48, 48, 49, 48], [48, 49, 48, 49, 48], [48, 48, 49, 48], [48, 49, 48], [48, 49, 48], [49, 48, 49], [49, 48, 49], [49, 49, 48, 49], [49, 48, 49, 48, 49], [49, 48, 49, 49], [49, 49, 48, 49, 49], [49, 49, 49, 48, 49], [], [49, 48, 49], [49, 48, 49, 48, 49], [49, 48, 49], [49, 48, 49], [49, 49, 48, 49], [48, 48, 48, 48], [48, 48, 48, 49, 48], [48, 48, 48], [49, 48, 49, 49], [49, 48, 49, 48, 49], [49, 48, 48, 49, 49, 49], [48, 49, 48, 48, 49], [49, 48, 49, 49, 49], [], [], [48, 49, 48, 49, 48, 49, 49, 48], [49, 49, 48, 49, 49], [], [], [49, 48, 49, 48], [48, 48, 49, 48, 48, 48], [48, 48, 48], [48, 48, 48, 49, 48], [48, 48, 48], [49, 48, 48, 48, 49], [49, 49, 48, 49, 49], [48, 48, 49, 49], [48, 48, 48, 48], [49, 48, 48, 49, 48, 49, 48, 48, 49], [], [], [48, 48, 48, 48], [49, 48, 48, 49], [], [], [48, 48, 48], [49, 48, 49, 48], [48, 48, 48, 48], [48, 49, 48], [48, 48, 48], [49, 49, 48, 48], [48, 48, 48, 48], [48, 48, 48, 49, 49], [48, 48, 48], [], [48, 48, 48, 48], [48, 48, 48, 49, 49, 48], [48, 48, 48], [49, 49, 48, 48], [48, 48, 48], [49, 49, 48, 48], [48, 48], [48, 48, 49, 48, 48], [48, 48], [48, 48, 49, 48], [48, 48], [49, 48, 49], [49, 48, 49, 48, 49], [49, 49, 48, 49, 49], [], [49, 48, 49, 49], [48, 48, 48, 48], [48, 48, 48, 49, 48, 48], [48, 48, 48], [48, 49, 48], [48, 49, 48, 48, 49], [48, 49, 48, 49], [48, 49, 48, 49], [], [48, 48, 48], [48, 48, 49, 48], [48, 48], [49, 48, 49], [49, 48, 49], [], [48, 49, 48, 49], [48, 49, 48, 48, 48], [48, 48, 48], [48, 49, 48, 48, 48], [48, 48, 48], [49, 48, 49, 48], [49, 48, 49, 48], [48, 49, 48, 48, 49, 48, 48, 49, 48], [48, 49, 48], [48, 49, 48, 48], [48, 48], [48, 48, 49, 48], [48, 48], [49, 48, 48, 49], [], [48, 48, 49, 49], [48, 48, 48], [48, 49, 48, 49], [48, 48, 48, 48], [48, 48, 49, 48, 48], [48, 48], [48, 49, 48, 48, 49], [48, 49, 48, 49, 48, 49, 49, 48], [48, 49, 49, 48], [48, 48, 48], [49, 48, 49], [48, 48, 48], [48, 49, 48], [48, 48], [], [48, 48, 48], [48, 48, 49, 49], [48, 48], [48, 49, 48], [48, 48, 48], [48, 49, 48, 48], [48, 48], [48, 49, 49, 48], [48, 48, 48], [48, 48, 49, 48, 48], [48, 48], [48, 49, 48], [48, 48], [48, 49, 48], [48]]
def orphT (r : Nat) : List UInt8 := orphL.getD r []
def oneN : Nat := 1766847064804095338292937922828216753893183071823361306064178494985764864
def oneT (r : Nat) : Bool := oneN.testBit r
def okS (w : List UInt8) (o : Option (AVal × Heap × Nat × Nat)) : Bool := match o with
  | some (.s w', _, _, _) => eqL w w'
  | _ => false
def okBb (w : Bool) (o : Option (AVal × Heap × Nat × Nat)) : Bool := match o with
  | some (.b w', _, _, _) => w == w'
  | _ => false
def chk1 (n : Nat) : Bool := okS (orphT n) ((Rk2 300).call 62 [.i .u8 (Int.ofNat n)] []) && okBb (oneT n) ((Rk2 300).call 64 [.i .u8 (Int.ofNat n)] [])
theorem tab0 : ((List.range 16).all fun i => chk1 (16 * 0 + i)) = true := by decide +kernel
theorem tab1 : ((List.range 16).all fun i => chk1 (16 * 1 + i)) = true := by decide +kernel
theorem tab2 : ((List.range 16).all fun i => chk1 (16 * 2 + i)) = true := by decide +kernel
theorem tab3 : ((List.range 16).all fun i => chk1 (16 * 3 + i)) = true := by decide +kernel
theorem tab4 : ((List.range 16).all fun i => chk1 (16 * 4 + i)) = true := by decide +kernel
theorem tab5 : ((List.range 16).all fun i => chk1 (16 * 5 + i)) = true := by decide +kernel
theorem tab6 : ((List.range 16).all fun i => chk1 (16 * 6 + i)) = true := by decide +kernel
theorem tab7 : ((List.range 16).all fun i => chk1 (16 * 7 + i)) = true := by decide +kernel
theorem tab8 : ((List.range 16).all fun i => chk1 (16 * 8 + i)) = true := by decide +kernel
theorem tab9 : ((List.range 16).all fun i => chk1 (16 * 9 + i)) = true := by decide +kernel
theorem tab10 : ((List.range 16).all fun i => chk1 (16 * 10 + i)) = true := by decide +kernel
theorem tab11 : ((List.range 16).all fun i => chk1 (16 * 11 + i)) = true := by decide +kernel
theorem tab12 : ((List.range 16).all fun i => chk1 (16 * 12 + i)) = true := by decide +kernel
theorem tab13 : ((List.range 16).all fun i => chk1 (16 * 13 + i)) = true := by decide +kernel
theorem tab14 : ((List.range 16).all fun i => chk1 (16 * 14 + i)) = true := by decide +kernel
theorem tab15 : ((List.range 16).all fun i => chk1 (16 * 15 + i)) = true := by decide +kernel
theorem tab_all {n : Nat} (hn : n < 256) : chk1 n = true := by
  by_cases h0 : n < 16
  · exact all_16 (P := chk1) tab0 (by omega) (by omega)
  by_cases h1 : n < 32
  · exact all_16 (P := chk1) tab1 (by omega) (by omega)
  by_cases h2 : n < 48
  · exact all_16 (P := chk1) tab2 (by omega) (by omega)
  by_cases h3 : n < 64
  · exact all_16 (P := chk1) tab3 (by omega) (by omega)
  by_cases h4 : n < 80
  · exact all_16 (P := chk1) tab4 (by omega) (by omega)
  by_cases h5 : n < 96
  · exact all_16 (P := chk1) tab5 (by omega) (by omega)
  by_cases h6 : n < 112
  · exact all_16 (P := chk1) tab6 (by omega) (by omega)
  by_cases h7 : n < 128
  · exact all_16 (P := chk1) tab7 (by omega) (by omega)
  by_cases h8 : n < 144
  · exact all_16 (P := chk1) tab8 (by omega) (by omega)
  by_cases h9 : n < 160
  · exact all_16 (P := chk1) tab9 (by omega) (by omega)
  by_cases h10 : n < 176
  · exact all_16 (P := chk1) tab10 (by omega) (by omega)
  by_cases h11 : n < 192
  · exact all_16 (P := chk1) tab11 (by omega) (by omega)
  by_cases h12 : n < 208
  · exact all_16 (P := chk1) tab12 (by omega) (by omega)
  by_cases h13 : n < 224
  · exact all_16 (P := chk1) tab13 (by omega) (by omega)
  by_cases h14 : n < 240
  · exact all_16 (P := chk1) tab14 (by omega) (by omega)
  by_cases h15 : n < 256
  · exact all_16 (P := chk1) tab15 (by omega) (by omega)
  omega
theorem okS_eq {w : List UInt8} {o : Option (AVal × Heap × Nat × Nat)} (h : okS w o = true) : ∃ h' lw lp, o = some (.s w, h', lw, lp) := by
  unfold okS at h
  split at h
  · rw [eqL_eq] at h
    exact ⟨_, _, _, by rw [eq_of_beq h]⟩
  · cases h
theorem okBb_eq {w : Bool} {o : Option (AVal × Heap × Nat × Nat)} (h : okBb w o = true) : ∃ h' lw lp, o = some (.b w, h', lw, lp) := by
  unfold okBb at h
  split at h
  · exact ⟨_, _, _, by rw [eq_of_beq h]⟩
  · cases h

/-- what is known of each rule -/
def ruleK : Nat → List AVal → Option AVal := fun f a => match a with
  | [.i .u8 (.ofNat n)] => cond (Nat.blt n 256) (cond (Nat.beq f 62) (some (.s (orphT n))) (cond (Nat.beq f 64) (some (.b (oneT n))) none)) none
  | _ => none
theorem ruleK_ok {f : Nat} {a : List AVal} {v : AVal} (e : ruleK f a = some v) : (∀ x ∈ a, x.scalar = true) ∧ v.scalar = true ∧ ∃ h' lw lp, callX F2 [] f a [] = some (v, h', lw, lp) := by
  unfold ruleK at e
  split at e
  · rename_i n
    cases hc : Nat.blt n 256 with
    | false => rw [hc] at e; cases e
    | true =>
      rw [hc] at e
      rw [Nat.blt_eq] at hc
      have ht := tab_all hc
      unfold chk1 at ht
      rw [Bool.and_eq_true] at ht
      cases h1 : Nat.beq f 62 with
      | true =>
        rw [h1] at e
        cases e
        rw [beq_iff.1 h1]
        obtain ⟨h', lw, lp, h2⟩ := okS_eq ht.1
        exact ⟨fun x hx => by simp at hx; subst hx; rfl, rfl, h', lw, lp, (meansS_ok [] leafO 300).call _ _ _ _ h2⟩
      | false =>
        rw [h1] at e
        cases h3 : Nat.beq f 64 with
        | true =>
          rw [h3] at e
          cases e
          rw [beq_iff.1 h3]
          obtain ⟨h', lw, lp, h2⟩ := okBb_eq ht.2
          exact ⟨fun x hx => by simp at hx; subst hx; rfl, rfl, h', lw, lp, (meansS_ok [] leafO 300).call _ _ _ _ h2⟩
        | false => rw [h3] at e; cases e
  · cases e
def allO : Caller := orC (knownS ruleK) leafO
abbrev F3 : Tab := ⟨F, allO⟩
abbrev Rk3 (n : Nat) : Means := meansS [] allO n
end Go.Proofs.Ytgbkicelkpagpaa.W

/- The reference's orphans, reckoned; Eden and Onto. -/
open Go.Vm
set_option linter.unusedVariables false
namespace Go.Proofs.Ytgbkicelkpagpaa.W
open Go

theorem becomes_num : ∀ n, n < 256 → ∀ t, t < 8 → Int.tmod (shrV .i64 (Int.ofNat n) (Int.ofNat t)) 2 = Int.ofNat (nx n t) := by decide +kernel
theorem becomes_ok {ro : List ABlk} {h : Heap} {n l c r : Nat} (hn : n < 256) (hl : l < 2) (hc : c < 2) (hr : r < 2) :
    callX F1 ro 49 [.i .i64 n, .i .i64 l, .i .i64 c, .i .i64 r] h = some (.i .i64 (nx n (4 * l + 2 * c + r) : Nat), h, h.length, h.length) := by
  refine g49_ok (meansX_ok F1 ro) rfl ?_
  unfold g49
  have e1 : wr .i64 (4 * (l : Int)) = 4 * (l : Int) := wr_id' (by omega) (by omega)
  have e2 : wr .i64 (2 * (c : Int)) = 2 * (c : Int) := wr_id' (by omega) (by omega)
  have e3 : wr .i64 (4 * (l : Int) + 2 * (c : Int)) = 4 * (l : Int) + 2 * (c : Int) := wr_id' (by omega) (by omega)
  have e4 : wr .i64 (4 * (l : Int) + 2 * (c : Int) + (r : Int)) = ((4 * l + 2 * c + r : Nat) : Int) := by rw [wr_id' (by omega) (by omega)]; omega
  have e5 : Int.tmod (shrV .i64 (n : Int) ((4 * l + 2 * c + r : Nat) : Int)) 2 = ((nx n (4 * l + 2 * c + r) : Nat) : Int) := becomes_num n hn _ (by omega)
  simp only [forceI_eq, e1, e2, e3, e4, ltI_eq, nneg, chk_true, e5, tupA]
  exact fin_pure rfl

def leafB : Caller := fun f a h => match a with
  | [.i .i64 (.ofNat n), .i .i64 (.ofNat l), .i .i64 (.ofNat c), .i .i64 (.ofNat r)] =>
    cond (Nat.beq f 49 && (Nat.blt n 256 && (Nat.blt l 2 && (Nat.blt c 2 && Nat.blt r 2)))) (some (.i .i64 (.ofNat (nx n (4 * l + 2 * c + r))), h, h.length, h.length)) none
  | _ => none
def allB : Caller := orC allO leafB
abbrev F5 : Tab := ⟨F, allB⟩
end Go.Proofs.Ytgbkicelkpagpaa.W

/- Rows of plots: what is read, and the errors. -/
open Go.Vm
set_option linter.unusedVariables false
namespace Go.Proofs.Ytgbkicelkpagpaa.W
open Go

/- strings -/
theorem e_len (w : List UInt8) : evP .e (.len true (.c (.s w))) = some (.i .i64 (w.length : Nat)) := by simp only [evP, ev_len, opd, cond_true, mkI, forceI_eq]
theorem e_eq (a b : List UInt8) : evP .e (.sbin BinOp.eql (.c (.s a)) (.c (.s b))) = some (.b (eqL a b)) := rfl
theorem e_x0 (a b : AVal) : evP .e (.ext 0 (.c (.tup [a, b]))) = some a := rfl
theorem e_x1 (a b : AVal) : evP .e (.ext 1 (.c (.tup [a, b]))) = some b := rfl
theorem asS_s {β : Type} (x : List UInt8) (f : List UInt8 → Option β) : asS (.s x) f = f x := rfl
theorem eqL_self (a : List UInt8) : eqL a a = true := by rw [eqL_eq]; exact beq_self_eq_true a
theorem lget_at {α : Type} : ∀ (l : List α) (i : Nat) (d : α), i < l.length → lget l i = some (l.getD i d)
  | a :: l, 0, d, _ => rfl
  | a :: l, i + 1, d, h => by
    have := lget_at l i d (by simpa using h)
    simpa [lget] using this
/-- the letter at a place -/
def ch (s : List UInt8) (i : Nat) : Nat := (s.getD i 0).toNat
theorem ch_lt (s : List UInt8) (i : Nat) : ch s i < 256 := (s.getD i 0).toNat_lt
theorem e_ix {s : List UInt8} {i : Nat} (h : i < s.length) : evP .e (.ixStr (.c (.s s)) (.c (.i .i64 (i : Int)))) = some (.i .u8 (ch s i : Nat)) := by
  show (lget s i).map (fun c => mkI .u8 c.toNat) = _
  rw [lget_at s i 0 h]
  simp only [Option.map_some, mkI, forceI_eq]
  rfl

theorem num_eq (a b : Nat) : ((a : Int) == (b : Int)) = Nat.beq a b := by
  cases hb : Nat.beq a b
  · exact beq_eq_false_iff_ne.2 fun e => by
      have : Nat.beq a b = true := beq_iff.2 (by omega)
      rw [this] at hb; cases hb
  · rw [beq_iff.1 hb]; simp
theorem u8_num : ∀ n, n < 256 → wr .u8 (Int.ofNat n) = Int.ofNat n := by decide +kernel
theorem Rule_ok {ro : List ABlk} {h : Heap} {n : Nat} (hn : n < 256) : callX F1 ro 54 [.i .i64 n] h = some (.b true, h, h.length, h.length) := by
  refine g54_ok (meansX_ok F1 ro) rfl ?_
  unfold g54
  have a1 : ¬ ((n : Int) < 0) := by omega
  have a2 : ¬ ((255 : Int) < (n : Int)) := by omega
  simp only [forceB_eq, ltI_eq, decide_eq_false a1, decide_eq_false a2, Bool.not_false, cond_true, bindO_some, tupA]
  exact fin_pure rfl

end Go.Proofs.Ytgbkicelkpagpaa.W

/- Walks and Ways. -/
open Go.Vm
set_option linter.unusedVariables false
namespace Go.Proofs.Ytgbkicelkpagpaa.W
open Go

/- four numbers in memory -/
/- the letter as a number -/
def bw (s : List UInt8) (i : Nat) : Nat := ch s i - 48
theorem bit_num : ∀ c, c < 256 → 48 ≤ c → wr .i64 (wr .u8 (Int.ofNat c - 48)) = Int.ofNat (c - 48) := by decide +kernel
theorem bit_ok {ro : List ABlk} {h : Heap} {c : Nat} (hc : c < 256) (h48 : 48 ≤ c) : callX F1 ro 73 [.i .u8 c] h = some (.i .i64 (c - 48 : Nat), h, h.length, h.length) := by
  refine g73_ok (meansX_ok F1 ro) rfl ?_
  unfold g73
  have e : wr .i64 (wr .u8 ((c : Int) - 48)) = ((c - 48 : Nat) : Int) := bit_num c hc h48
  simp only [forceI_eq, e, tupA]
  exact fin_pure rfl

/- one letter more: how many walks end in each pair -/
def st1 (u c : Nat) (at' to : Nat → Nat) (t : Nat) : Nat → Nat := if nx u t = c then fun j => if j = t % 4 then to j + at' (t / 2) else to j else to
def stp (u c : Nat) (at' : Nat → Nat) : Nat → Nat → Nat
  | 0 => fun _ => 0
  | k + 1 => st1 u c at' (stp u c at' k) k
def nxt (u c : Nat) (at' : Nat → Nat) : Nat → Nat := stp u c at' 8
def wkN (u : Nat) (s : List UInt8) (from' : Nat → Nat) : Nat → Nat → Nat
  | 0 => from'
  | k + 1 => nxt u (bw s k) (wkN u s from' k)
def okR (s : List UInt8) : Prop := ∀ i, i < s.length → ch s i = 48 ∨ ch s i = 49
end Go.Proofs.Ytgbkicelkpagpaa.W

/- Walks, Ways: what they answer. -/
open Go.Vm
set_option linter.unusedVariables false
namespace Go.Proofs.Ytgbkicelkpagpaa.W
open Go

/- the errors of a row whose ways are counted -/
end Go.Proofs.Ytgbkicelkpagpaa.W

/- Ways of onto rules, and of the others: tables. -/
open Go.Vm
set_option linter.unusedVariables false
namespace Go.Proofs.Ytgbkicelkpagpaa.W
open Go

/- onto rules: the counts that come -/
/- the others: a row with more -/
def plotsL (x m : Nat) : List UInt8 := (List.range m).map fun i => UInt8.ofNat (48 + nx x (m - 1 - i))
end Go.Proofs.Ytgbkicelkpagpaa.W

/- Rows by numbers. -/
open Go.Vm
set_option linter.unusedVariables false
namespace Go.Proofs.Ytgbkicelkpagpaa.W
open Go

theorem bytes_row {t : Tr} {g : Nat → Nat} : ∀ (k i : Nat), (∀ j, j < k → t.get (i + j) = .i .u8 (g (i + j) : Nat) ∧ g (i + j) < 256) → bytesA (t.row i k) = some ((List.range' i k).map fun j => UInt8.ofNat (g j))
  | 0, i, _ => rfl
  | k + 1, i, h => by
    have h0 := h 0 (by omega)
    have ih := bytes_row (t := t) (g := g) k (i + 1) (fun j hj => by have := h (j + 1) (by omega); rwa [show i + 1 + j = i + (j + 1) by omega])
    show bytesA (t.get i :: t.row (i + 1) k) = _
    rw [Nat.add_zero] at h0
    rw [h0.1]
    show cond (Nat.blt (g i) 256) ((bytesA (t.row (i + 1) k)).map (UInt8.ofNat (g i) :: ·)) none = _
    rw [show Nat.blt (g i) 256 = true by rw [Nat.blt_eq]; exact h0.2, ih]
    rfl
theorem bts_ok {ro : List ABlk} {hp : Heap} {b k : Nat} {cap : Cap} {g : Nat → Nat} (h : Vec hp 5 b k (fun j => .i .u8 (g j : Nat))) (hg : ∀ j, j < k → g j < 256) {l p : Nat} :
    btsM ro ⟨hp, l, p⟩ (.sl ⟨false, b, 0⟩ k cap) = some (.s ((List.range k).map fun j => UInt8.ofNat (g j))) := by
  obtain ⟨blk, h1, h2, h3, h4⟩ := h
  have hb : Nat.ble (0 + k) blk.n = true := by rw [Nat.ble_eq]; omega
  have hr := bytes_row (t := blk.c) (g := g) k 0 (fun j hj => by rw [Nat.zero_add]; exact ⟨h4 j hj, hg j hj⟩)
  have h1' : lget (Mm.st ⟨hp, l, p⟩ .e).h b = some (some blk) := h1
  simp only [btsM, st_bts, rdB_heap h1', hb, cond_true, hr, Option.map_some, List.range_eq_range']

end Go.Proofs.Ytgbkicelkpagpaa.W

/- Eden and Onto of the program. -/
open Go.Vm
set_option linter.unusedVariables false
namespace Go.Proofs.Ytgbkicelkpagpaa.W
open Go

theorem c61 {n : Nat} (hn : n < 256) : callX F5 [] 61 [.i .i64 n] [] = some (.tup [.i .u8 n, .i .i64 0], [], 0, 0) := by
  refine g61_ok (meansX_ok F5 []) rfl ?_
  unfold g61
  have a1 : ¬ ((n : Int) < 0) := by omega
  have a2 : ¬ ((255 : Int) < (n : Int)) := by omega
  have a3 : wr .u8 (n : Int) = (n : Int) := u8_num n hn
  simp only [forceB_eq, ltI_eq, decide_eq_false a1, decide_eq_false a2, cond_false, bindO_some, forceI_eq, a3, tupA]
  exact fin_pure rfl
theorem c54 {n : Nat} (hn : n < 256) : callX F5 [] 54 [.i .i64 n] [] = some (.b true, [], 0, 0) := by
  refine g54_ok (meansX_ok F5 []) rfl ?_
  unfold g54
  have a1 : ¬ ((n : Int) < 0) := by omega
  have a2 : ¬ ((255 : Int) < (n : Int)) := by omega
  simp only [forceB_eq, ltI_eq, decide_eq_false a1, decide_eq_false a2, Bool.not_false, cond_true, bindO_some, tupA]
  exact fin_pure rfl
section
variable {n : Nat} (hn : n < 256) (k : Int)
include hn
end
end Go.Proofs.Ytgbkicelkpagpaa.W

/- Strings that are made byte by byte; grow, ring, Ring. -/
open Go.Vm
set_option linter.unusedVariables false
namespace Go.Proofs.Ytgbkicelkpagpaa.W
open Go

/-- bytes written one by one, and their string -/
theorem bytes_loop {ro : List ABlk} {h : Heap} {n : Nat} {g : Nat → Nat} {b : Int × Mm → Option ((Int × Mm) ⊕ Mm)} (hg : ∀ k, k < n → g k < 256)
    (σ : Nat → Nat) (done : Nat → Nat → Bool) (hσ : ∀ k, k < n → σ k < n) (hd0 : ∀ j, j < n → done 0 j = false) (hdn : ∀ j, j < n → done n j = true) (hds : ∀ k j, k < n → j < n → done (k + 1) j = (done k j || Nat.beq j (σ k)))
    (hin : ∀ k, k < n → ∀ hp' hp'' : Heap, h.length ≤ hp'.length → stepM ro ⟨hp', h.length, h.length⟩ (.st 1 (.c (.p (some ⟨false, h.length, 0 + σ k⟩))) (.c (.i .u8 (g (σ k) : Nat)))) = some (und, ⟨hp'', h.length, h.length⟩) →
      b ((k : Int), ⟨hp', h.length, h.length⟩) = some (.inl (((k + 1 : Nat) : Int), ⟨hp'', h.length, h.length⟩)))
    (hout : ∀ m, b ((n : Int), m) = some (.inr m)) :
    ∃ hq, loopX b (0, ⟨h ++ [some (newBlk 5 (AVal.i IntKind.u8 0) n)], h.length, h.length⟩) = some ⟨hq, h.length, h.length⟩ ∧
      btsM ro ⟨hq, h.length, h.length⟩ (.sl ⟨false, h.length, 0⟩ n (.known n)) = some (.s ((List.range n).map fun j => UInt8.ofNat (g j))) ∧ hq.take h.length = h ∧ h.length ≤ hq.length := by
  have hv := Vec.new h 5 n (AVal.i IntKind.u8 0)
  generalize hB : h ++ [some (newBlk 5 (AVal.i IntKind.u8 0) n)] = H at hv
  have hL : H.length = h.length + 1 := by rw [← hB]; simp
  have hK : ∀ k, k < h.length → H[k]? = h[k]? := fun k hk => by rw [← hB]; exact List.getElem?_append_left hk
  have key := loop_all (b := b) n
    (fun k mm => ∃ hp', mm = ⟨hp', h.length, h.length⟩ ∧ Vec hp' 5 h.length n (fun j => .i .u8 ((cond (done k j) (g j) 0 : Nat) : Int)) ∧ hp'.length = h.length + 1 ∧ ∀ k, k < h.length → hp'[k]? = h[k]?)
    (fun k mm hk hI => by
      obtain ⟨hp', rfl, hv', hl, hkeep⟩ := hI
      obtain ⟨y, s1, s2⟩ := Vec.set (ro := ro) (l := h.length) (p := h.length) hv' (hσ k hk) (v := .i .u8 ((g (σ k) : Nat) : Int)) rfl rfl rfl
      rw [Nat.min_self] at s1
      refine ⟨⟨hp'.set h.length y, h.length, h.length⟩, hin k hk _ _ (by omega) s1, _, rfl, ?_, by rw [List.length_set]; exact hl, fun j hj => by rw [List.getElem?_set_ne (by omega)]; exact hkeep j hj⟩
      refine s2.congr fun r hr => ?_
      show (if r = σ k then _ else _) = _
      rw [hds k r hk hr]
      by_cases e : r = σ k
      · rw [if_pos e, show Nat.beq r (σ k) = true from beq_iff.2 e, Bool.or_true, cond_true, e]
      · have hb : Nat.beq r (σ k) = false := by
          cases hb : Nat.beq r (σ k)
          · rfl
          · exact absurd (beq_iff.1 hb) e
        rw [if_neg e, hb, Bool.or_false])
    (fun mm hI => hout mm)
    n 0 ⟨H, h.length, h.length⟩ (by omega) ⟨H, rfl, hv.congr fun r hr => by rw [hd0 r hr]; rfl, hL, hK⟩
  obtain ⟨m', k1, hq, rfl, k2, k3, k4⟩ := key
  have e0 : ((0 : Nat) : Int) = 0 := rfl
  rw [e0] at k1
  refine ⟨hq, k1, bts_ok (k2.congr (get' := fun j => .i .u8 ((g j : Nat) : Int)) fun r hr => by rw [hdn r hr, cond_true]) hg, ?_, by omega⟩
  apply List.ext_getElem?
  intro j
  rw [List.getElem?_take]
  by_cases hj : j < h.length
  · rw [if_pos hj, k4 j hj]
  · rw [if_neg hj, List.getElem?_eq_none (by omega)]

theorem blt_succ {k j n : Nat} (hk : k < n) (hj : j < n) : Nat.blt j (k + 1) = (Nat.blt j k || Nat.beq j k) := by
  rcases Nat.lt_trichotomy j k with h | h | h
  · rw [show Nat.blt j (k + 1) = true by rw [Nat.blt_eq]; omega, show Nat.blt j k = true by rw [Nat.blt_eq]; exact h]; rfl
  · subst h
    rw [show Nat.blt j (j + 1) = true by rw [Nat.blt_eq]; omega, Nat.beq_refl, Bool.or_true]
  · rw [show Nat.blt j (k + 1) = false by rw [← Bool.not_eq_true, Nat.blt_eq]; omega, show Nat.blt j k = false by rw [← Bool.not_eq_true, Nat.blt_eq]; omega, show Nat.beq j k = false by rw [← Bool.not_eq_true, beq_iff]; omega]; rfl
theorem blt_none (j : Nat) : Nat.blt j 0 = false := by rw [← Bool.not_eq_true, Nat.blt_eq]; omega
theorem blt_all {j n : Nat} (h : j < n) : Nat.blt j n = true := by rw [Nat.blt_eq]; exact h
theorem plot_num : ∀ t, t < 2 → wr .u8 (48 + wr .u8 (Int.ofNat t)) = Int.ofNat (48 + t) := by decide +kernel
theorem plot_ok {ro : List ABlk} {h : Heap} {t : Nat} (ht : t < 2) : callX F1 ro 71 [.i .i64 t] h = some (.i .u8 (48 + t : Nat), h, h.length, h.length) := by
  refine g71_ok (meansX_ok F1 ro) rfl ?_
  unfold g71
  have e : wr .u8 (48 + wr .u8 (t : Int)) = ((48 + t : Nat) : Int) := plot_num t ht
  simp only [forceI_eq, e, tupA]
  exact fin_pure rfl

theorem bw_lt {s : List UInt8} (hs : okR s) {i : Nat} (hi : i < s.length) : bw s i < 2 ∧ 48 ≤ ch s i := by
  unfold bw
  rcases hs i hi with e | e <;> omega
def growV (u : Nat) (s : List UInt8) (k : Nat) : Nat := 48 + nx u (4 * bw s k + 2 * bw s (k + 1) + bw s (k + 2))
def growS (u : Nat) (s : List UInt8) : List UInt8 := (List.range (s.length - 2)).map fun k => UInt8.ofNat (growV u s k)
theorem grow_ok {ro : List ABlk} {h : Heap} {u : Nat} {s : List UInt8} (hu : u < 256) (hs : okR s) (h2 : 2 ≤ s.length) (hl : s.length ≤ 1000) :
    callX F1 ro 46 [.i .u8 u, .s s] h = some (.s (growS u s), h, h.length, h.length) := by
  refine g46_ok (meansX_ok F1 ro) rfl ?_
  unfold g46
  have e9 : wr .i64 ((s.length : Int) - 2) = ((s.length - 2 : Nat) : Int) := by rw [wr_id' (by omega) (by omega)]; omega
  have hmk := mk_ok (ro := ro) (hp := h) (l := h.length) (p := h.length) (e := 5) (es := 1) (bytes := 1) (v := AVal.i IntKind.u8 0) (n := s.length - 2) (by omega) (by omega)
  have hlen : evP .e (.len false (.c (.sl ⟨false, h.length, 0⟩ (s.length - 2) (.known (s.length - 2))))) = some (.i .i64 ((s.length - 2 : Nat) : Int)) := by simp only [evP, ev_len, opd, cond_false, mkI, forceI_eq]
  obtain ⟨hq, k1, k2, k3, k4⟩ := bytes_loop (ro := ro) (h := h) (n := s.length - 2) (g := growV u s)
    (b := fun z => g46_b0 (meansX F1 ro) ro u s (.sl ⟨false, h.length, 0⟩ (s.length - 2) (.known (s.length - 2))) ((s.length - 2 : Nat) : Int) z.1 z.2)
    (fun k hk => by have := nx_le u (4 * bw s k + 2 * bw s (k + 1) + bw s (k + 2)); unfold growV; omega)
    (fun k => k) (fun k j => Nat.blt j k) (fun k hk => hk) (fun j _ => blt_none j) (fun j hj => blt_all hj) (fun k j hk hj => blt_succ hk hj)
    (fun k hk hp' hp'' hL hst => by
      have hlt : ((k : Int) < ((s.length - 2 : Nat) : Int)) := by omega
      have w1 : wr .i64 ((k : Int) + 1) = ((k + 1 : Nat) : Int) := wr_next (by omega)
      have w2 : wr .i64 ((k : Int) + 2) = ((k + 2 : Nat) : Int) := by rw [wr_id' (by omega) (by omega)]; omega
      obtain ⟨b0, a0⟩ := bw_lt hs (by omega : k < s.length)
      obtain ⟨b1, a1⟩ := bw_lt hs (by omega : k + 1 < s.length)
      obtain ⟨b2, a2⟩ := bw_lt hs (by omega : k + 2 < s.length)
      have c0 := callM_pure (call := callX F1 ro) (l := h.length) (p := h.length) (bit_ok (ro := ro) (h := hp') (ch_lt s k) a0) hL hL
      have c1 := callM_pure (call := callX F1 ro) (l := h.length) (p := h.length) (bit_ok (ro := ro) (h := hp') (ch_lt s (k + 1)) a1) hL hL
      have c2 := callM_pure (call := callX F1 ro) (l := h.length) (p := h.length) (bit_ok (ro := ro) (h := hp') (ch_lt s (k + 2)) a2) hL hL
      have m0 : wr .i64 (4 * ((ch s k - 48 : Nat) : Int)) = ((4 * bw s k : Nat) : Int) := by unfold bw at *; rw [wr_id' (by omega) (by omega)]; omega
      have m1 : wr .i64 (2 * ((ch s (k + 1) - 48 : Nat) : Int)) = ((2 * bw s (k + 1) : Nat) : Int) := by unfold bw at *; rw [wr_id' (by omega) (by omega)]; omega
      have m2 : wr .i64 (((4 * bw s k : Nat) : Int) + ((2 * bw s (k + 1) : Nat) : Int)) = ((4 * bw s k + 2 * bw s (k + 1) : Nat) : Int) := by rw [wr_id' (by omega) (by omega)]; omega
      have m3 : wr .i64 (((4 * bw s k + 2 * bw s (k + 1) : Nat) : Int) + ((ch s (k + 2) - 48 : Nat) : Int)) = ((4 * bw s k + 2 * bw s (k + 1) + bw s (k + 2) : Nat) : Int) := by unfold bw at *; rw [wr_id' (by omega) (by omega)]; omega
      have c3 := callM_pure (call := callX F1 ro) (l := h.length) (p := h.length) (next_ok (ro := ro) (h := hp') hu (by omega : 4 * bw s k + 2 * bw s (k + 1) + bw s (k + 2) < 8)) hL hL
      have c4 := callM_pure (call := callX F1 ro) (l := h.length) (p := h.length) (plot_ok (ro := ro) (h := hp') (t := nx u (4 * bw s k + 2 * bw s (k + 1) + bw s (k + 2))) (by have := nx_le u (4 * bw s k + 2 * bw s (k + 1) + bw s (k + 2)); omega)) hL hL
      have ei := ixS_eq (q := ⟨false, h.length, 0⟩) (len := s.length - 2) (cap := .known (s.length - 2)) (i := k) hk
      have hst' : stepM ro ⟨hp', h.length, h.length⟩ (.st 1 (.c (.p (some ⟨false, h.length, 0 + k⟩))) (.c (.i .u8 ((48 + nx u (4 * bw s k + 2 * bw s (k + 1) + bw s (k + 2)) : Nat) : Int)))) = some (und, ⟨hp'', h.length, h.length⟩) := hst
      simp only [g46_b0, forceB_eq, ltI_eq, decide_eq_true hlt, cond_true, e_ix (by omega : k < s.length), bindO_some, asI_i, forceI_eq, w1, e_ix (by omega : k + 1 < s.length), w2, e_ix (by omega : k + 2 < s.length), meansX_call, c0, c1, c2, bindP_some, m0, m1, m2, m3, c3, c4, ei, hst'])
    (fun m => by
      have : decide (((s.length - 2 : Nat) : Int) < ((s.length - 2 : Nat) : Int)) = false := lt_no
      show g46_b0 (meansX F1 ro) ro u s _ _ ((s.length - 2 : Nat) : Int) m = _
      simp only [g46_b0, forceB_eq, ltI_eq, this, cond_false])
  simp only [e_len, bindO_some, asI_i, forceI_eq, e9, hmk, bindP_some, hlen, meansX_loop, k1, k2, asS_s, tupA]
  rw [fin_take (by rfl), k3]
  rfl

/- a ring as a row with its ends put to it -/
def pad (s : List UInt8) : List UInt8 := s.drop (s.length - 1) ++ s ++ s.take 1
def ringS (u : Nat) (s : List UInt8) : List UInt8 := growS u (pad s)
theorem pad_len {s : List UInt8} (h : 0 < s.length) : (pad s).length = s.length + 2 := by
  simp only [pad, List.length_append, List.length_drop, List.length_take]; omega
theorem pad_get {s : List UInt8} (h : 0 < s.length) {k : Nat} (hk : k < s.length + 2) : (pad s).getD k 0 = s.getD ((k + s.length - 1) % s.length) 0 := by
  have hd : (s.drop (s.length - 1)).length = 1 := by simp; omega
  simp only [pad, List.getD, List.append_assoc]
  by_cases h0 : k = 0
  · subst h0
    rw [List.getElem?_append_left (by omega), List.getElem?_drop, show (0 + s.length - 1) % s.length = s.length - 1 by rw [Nat.zero_add]; exact Nat.mod_eq_of_lt (by omega)]
    rfl
  · rw [List.getElem?_append_right (by omega), hd]
    by_cases h1 : k - 1 < s.length
    · rw [List.getElem?_append_left h1, show (k + s.length - 1) % s.length = k - 1 by rw [show k + s.length - 1 = (k - 1) + s.length by omega, Nat.add_mod_right]; exact Nat.mod_eq_of_lt h1]
    · have e : k = s.length + 1 := by omega
      rw [List.getElem?_append_right (by omega), show (k + s.length - 1) % s.length = 0 by rw [show k + s.length - 1 = s.length * 2 by omega]; exact Nat.mul_mod_right _ _, List.getElem?_take, if_pos (by omega), e]
      simp
theorem pad_ch {s : List UInt8} (h : 0 < s.length) {k : Nat} (hk : k < s.length + 2) : ch (pad s) k = ch s ((k + s.length - 1) % s.length) := by
  unfold ch; rw [pad_get h hk]
theorem pad_ok {s : List UInt8} (hs : okR s) (h : 0 < s.length) : okR (pad s) := fun i hi => by
  rw [pad_len h] at hi
  rw [pad_ch h hi]
  exact hs _ (Nat.mod_lt _ h)
theorem ring_ok {ro : List ABlk} {h : Heap} {u : Nat} {s : List UInt8} (hu : u < 256) (hs : okR s) (h0 : 0 < s.length) (hl : s.length ≤ 900) :
    callX F1 ro 51 [.i .u8 u, .s s] h = some (.s (ringS u s), h, h.length, h.length) := by
  refine g51_ok (meansX_ok F1 ro) rfl ?_
  unfold g51
  have e9 : wr .i64 ((s.length : Int) - 1) = ((s.length - 1 : Nat) : Int) := by rw [wr_id' (by omega) (by omega)]; omega
  have b1 : Nat.ble (s.length - 1) s.length = true := by rw [Nat.ble_eq]; omega
  have b2 : Nat.ble 1 s.length = true := by rw [Nat.ble_eq]; omega
  have s1 : evP .e (.slStr (.c (.s s)) (some (.c (.i .i64 ((s.length - 1 : Nat) : Int)))) none) = some (.s (s.drop (s.length - 1))) := by
    have e : ((s.length - 1 : Nat) : Int) = Int.ofNat (s.length - 1) := rfl
    rw [e]
    simp only [evP, ev_slStr, opd, Option.map_some, Option.map_none, sbound, b1, cond_true, List.take_length]
  have s2 : evP .e (.slStr (.c (.s s)) none (some (.c (.i .i64 1)))) = some (.s (s.take 1)) := by
    have e : (1 : Int) = Int.ofNat 1 := rfl
    rw [e]
    simp only [evP, ev_slStr, opd, Option.map_some, Option.map_none, sbound, b2, cond_true, List.drop_zero]
  have add : ∀ a b : List UInt8, a.length + b.length ≤ 100000 → evP .e (.sbin BinOp.add (.c (.s a)) (.c (.s b))) = some (.s (a ++ b)) := fun a b hab => by
    show cond (Nat.ble (a.length + b.length) 1099511627776) (some (AVal.s (a ++ b))) none = _
    rw [show Nat.ble (a.length + b.length) 1099511627776 = true by rw [Nat.ble_eq]; omega]; rfl
  have c1 := callM_pure (call := callX F1 ro) (l := h.length) (p := h.length) (grow_ok (ro := ro) (h := h) hu (pad_ok hs h0) (by rw [pad_len h0]; omega) (by rw [pad_len h0]; omega)) (Nat.le_refl _) (Nat.le_refl _)
  have c1' : callM (callX F1 ro) ⟨h, h.length, h.length⟩ 46 [(.i .u8 u), (.s (s.drop (s.length - 1) ++ s ++ s.take 1))] = some (.s (ringS u s), ⟨h, h.length, h.length⟩) := c1
  simp only [e_len, bindO_some, asI_i, forceI_eq, e9, s1, asS_s, add _ _ (by simp; omega : (s.drop (s.length - 1)).length + s.length ≤ 100000), s2, add _ _ (by simp; omega : (s.drop (s.length - 1) ++ s).length + (s.take 1).length ≤ 100000), meansX_call, c1', bindP_some, tupA]
  exact fin_pure rfl
end Go.Proofs.Ytgbkicelkpagpaa.W

/- Rows reversed, and with 0 and 1 exchanged. -/
open Go.Vm
set_option linter.unusedVariables false
namespace Go.Proofs.Ytgbkicelkpagpaa.W
open Go

/- strings letter by letter -/
end Go.Proofs.Ytgbkicelkpagpaa.W

/- Rows as lists of numbers: Grow, and the reference's Grow and Ring. -/
open Go.Vm
set_option linter.unusedVariables false
namespace Go.Proofs.Ytgbkicelkpagpaa.W
open Go

/-- numbers as a vector in memory, behind what was there -/
structure NV (h hp : Heap) (b n : Nat) (f : Nat → Nat) : Prop where
  vec : Vec hp 3 b n (fun i => .i .i64 (f i : Nat))
  new : h.length ≤ b
  len : h.length ≤ hp.length
  keep : ∀ j, j < h.length → hp[j]? = h[j]?

theorem callM_new {call : Caller} {hp hp' : Heap} {L f : Nat} {vs : List AVal} {v : AVal} (e : call f vs hp = some (v, hp', hp.length, hp.length)) (hL : L ≤ hp.length) : callM call ⟨hp, L, L⟩ f vs = some (v, ⟨hp', L, L⟩) := by
  rw [callM_eq (m := ⟨hp, L, L⟩) e]; simp [Nat.min_eq_left hL]
theorem fin_new {hp : Heap} {L l p b k : Nat} {cap : Cap} (hb : L ≤ b) : finM L (.sl ⟨false, b, 0⟩ k cap) ⟨hp, l, p⟩ = some (.sl ⟨false, b, 0⟩ k cap, hp, l, p) := by
  simp [finM, gc, not_bel hb]
theorem e_lenS {q : Vm.Loc} {k : Nat} {cap : Cap} : evP .e (.len false (.c (.sl q k cap))) = some (.i .i64 (k : Nat)) := by simp only [evP, ev_len, opd, cond_false, mkI, forceI_eq]
theorem take_keep {h hp : Heap} (hl : h.length ≤ hp.length) (hk : ∀ j, j < h.length → hp[j]? = h[j]?) : hp.take h.length = h := by
  apply List.ext_getElem?
  intro j
  rw [List.getElem?_take]
  by_cases hj : j < h.length
  · rw [if_pos hj, hk j hj]
  · rw [if_neg hj, List.getElem?_eq_none (by omega)]

/-- numbers put one behind the other -/
theorem push_loop {ro : List ABlk} {h : Heap} {L : Nat} (hL : L ≤ h.length) {b : AVal × Int × Mm → Option ((AVal × Int × Mm) ⊕ (AVal × Mm))} (a n : Nat) (hn : n ≤ 999) (h0 : 0 < n) (w : Nat → Nat)
    (hin : ∀ k, k < n → ∀ (v : AVal) (hp : Heap), h.length ≤ hp.length → (∀ j, j < h.length → hp[j]? = h[j]?) → ∀ v2 hp2 v3 hp3,
      stepM ro ⟨hp, L, L⟩ (.bsl 3 1 [.i .i64 0] 1 [((0, 1), .c (.i .i64 (w k : Nat)))]) = some (v2, ⟨hp2, L, L⟩) → stepM ro ⟨hp2, L, L⟩ (.app 3 1 8 [.i .i64 0] (.c v) (.c v2)) = some (v3, ⟨hp3, L, L⟩) →
      b (v, ((a + k : Nat) : Int), ⟨hp, L, L⟩) = some (.inl (v3, ((a + k + 1 : Nat) : Int), ⟨hp3, L, L⟩)))
    (hout : ∀ v m, b (v, ((a + n : Nat) : Int), m) = some (.inr (v, m))) :
    ∃ b' hp, loopX b (.nsl, (a : Int), ⟨h, L, L⟩) = some (.sl ⟨false, b', 0⟩ n .grow, ⟨hp, L, L⟩) ∧ NV h hp b' n w := by
  have key := loop_all3 (b := b) (a + n)
    (fun i v m => a ≤ i ∧ ∃ hp, m = ⟨hp, L, L⟩ ∧ VecV hp h.length 3 v (i - a) (fun j => .i .i64 (w j : Nat)) ∧ h.length ≤ hp.length ∧ ∀ j, j < h.length → hp[j]? = h[j]?)
    (fun i v m hi hI => by
      obtain ⟨hai, hp, rfl, hv, hlen, hkeep⟩ := hI
      obtain ⟨k, rfl⟩ : ∃ k, i = a + k := ⟨i - a, by omega⟩
      rw [Nat.add_sub_cancel_left] at hv
      obtain ⟨v2, hp2, v3, hp3, b3, s1, s2, e3, hb3, hvec, hl3, hk3⟩ := push_ok (ro := ro) (bytes := 8) (z := .i .i64 0) (w := .i .i64 (w k : Nat)) (hv.low hL) (by omega) (by omega) (by omega) rfl rfl
      refine ⟨v3, ⟨hp3, L, L⟩, hin k (by omega) v hp hlen hkeep v2 hp2 v3 hp3 s1 s2, by omega, hp3, rfl, .inr ⟨b3, ?_, ?_, by omega, ?_⟩, by omega, fun j hj => ?_⟩
      · rw [e3, show a + k + 1 - a = k + 1 by omega]
      · omega
      · rw [show a + k + 1 - a = k + 1 by omega]
        refine hvec.congr fun r hr => ?_
        show (if r < k then _ else _) = _
        by_cases e : r < k
        · rw [if_pos e]
        · rw [if_neg e, show r = k by omega]
      · rw [hk3 j (by omega) fun len cap e => ?_, hkeep j hj]
        rcases hv with ⟨hv, _⟩ | ⟨b0, hv, _, hb0, _⟩
        · rw [hv] at e; cases e
        · rw [hv] at e; cases e; omega)
    (fun v m hI => hout v m)
    n a .nsl ⟨h, L, L⟩ rfl ⟨Nat.le_refl _, h, rfl, .inl ⟨rfl, by omega⟩, Nat.le_refl _, fun _ _ => rfl⟩
  obtain ⟨v', m', k1, -, hp, rfl, hv, hlen, hkeep⟩ := key
  rw [Nat.add_sub_cancel_left] at hv
  rcases hv with ⟨_, hz⟩ | ⟨b', rfl, _, hb', hvec⟩
  · omega
  · exact ⟨b', hp, k1, hvec, hb', hlen, hkeep⟩

/- Grow -/
/- the reference's plots and row -/
def rowL (n : Nat) (f : Nat → Nat) : List UInt8 := (List.range n).map fun j => UInt8.ofNat (cond (Nat.beq (f j) 1) 49 48)
theorem rrow_ok {ro : List ABlk} {h : Heap} {b n : Nat} {cap : Cap} {f : Nat → Nat} (hv : Vec h 3 b n (fun i => .i .i64 (f i : Nat))) (hn : n ≤ 900) :
    callX F1 ro 50 [.sl ⟨false, b, 0⟩ n cap] h = some (.s (rowL n f), h, h.length, h.length) := by
  refine g50_ok (meansX_ok F1 ro) rfl ?_
  unfold g50
  have hb := hv.lt
  have hmk := mk_ok (ro := ro) (hp := h) (l := h.length) (p := h.length) (e := 5) (es := 1) (bytes := 1) (v := AVal.i IntKind.u8 0) (n := n) (by omega) (by omega)
  have hw := Vec.new h 5 n (AVal.i IntKind.u8 0)
  generalize hB : h ++ [some (newBlk 5 (AVal.i IntKind.u8 0) n)] = H at hmk hw
  have hL : H.length = h.length + 1 := by rw [← hB]; simp
  have hK : ∀ k, k < h.length → H[k]? = h[k]? := fun k hk => by rw [← hB]; exact List.getElem?_append_left hk
  have key := loop_all (b := fun z => g50_b0 (meansX F1 ro) ro (.sl ⟨false, b, 0⟩ n cap) (.sl ⟨false, h.length, 0⟩ n (.known n)) z.1 z.2) n
    (fun k mm => ∃ hp', mm = ⟨hp', h.length, h.length⟩ ∧ Vec hp' 5 h.length n (fun j => .i .u8 ((if j < k then cond (Nat.beq (f j) 1) 49 48 else 0 : Nat) : Int)) ∧ hp'.length = h.length + 1 ∧ ∀ k, k < h.length → hp'[k]? = h[k]?)
    (fun k mm hk hI => by
      obtain ⟨hp', rfl, hv', hl, hkeep⟩ := hI
      have hlt : ((k : Int) < (n : Int)) := by omega
      have ei := ixS_eq (q := ⟨false, h.length, 0⟩) (len := n) (cap := .known n) (i := k) hk
      have ei2 := ixS_eq (q := ⟨false, b, 0⟩) (len := n) (cap := cap) (i := k) hk
      obtain ⟨y, s1, s2⟩ := Vec.set (ro := ro) (l := h.length) (p := h.length) hv' hk (v := .i .u8 48) rfl rfl rfl
      rw [Nat.min_self] at s1
      have hl1 : (hp'.set h.length y).length = h.length + 1 := by rw [List.length_set]; exact hl
      have hk1 : ∀ k, k < h.length → (hp'.set h.length y)[k]? = h[k]? := fun j hj => by rw [List.getElem?_set_ne (by omega)]; exact hkeep j hj
      have ld := Vec.ld (ro := ro) (l := h.length) (p := h.length) (hv.keep (hk1 b hb)) hk
      obtain ⟨y2, t1, t2⟩ := Vec.set (ro := ro) (l := h.length) (p := h.length) s2 hk (v := .i .u8 49) rfl rfl rfl
      rw [Nat.min_self] at t1
      cases hf : Nat.beq (f k) 1 with
      | false =>
        have hne : ((((f k : Nat) : Int)) == 1) = false := by
          rw [beq_eq_false_iff_ne]
          intro e
          have : f k = 1 := by omega
          rw [this] at hf; cases hf
        refine ⟨⟨hp'.set h.length y, h.length, h.length⟩, ?_, _, rfl, s2.congr fun r hr => ?_, hl1, hk1⟩
        · simp only [g50_b0, e_lenS, bindO_some, asI_i, ltI_eq, forceB_eq, decide_eq_true hlt, cond_true, ei, s1, bindP_some, ei2, ld, eqI_eq, hne, cond_false, forceI_eq, wr_next (by omega : k ≤ 1000000)]
        · show (if r = k then _ else _) = _
          by_cases e : r = k
          · rw [if_pos e, if_pos (by omega), e, hf]; rfl
          · rw [if_neg e]
            by_cases e' : r < k
            · rw [if_pos e', if_pos (by omega)]
            · rw [if_neg e', if_neg (by omega)]
      | true =>
        have he : ((((f k : Nat) : Int)) == 1) = true := by rw [beq_iff.1 hf]; rfl
        refine ⟨⟨(hp'.set h.length y).set h.length y2, h.length, h.length⟩, ?_, _, rfl, t2.congr fun r hr => ?_, by rw [List.length_set]; exact hl1, fun j hj => by rw [List.getElem?_set_ne (by omega)]; exact hk1 j hj⟩
        · simp only [g50_b0, e_lenS, bindO_some, asI_i, ltI_eq, forceB_eq, decide_eq_true hlt, cond_true, ei, s1, bindP_some, ei2, ld, eqI_eq, he, t1, forceI_eq, wr_next (by omega : k ≤ 1000000)]
        · show (if r = k then _ else (if r = k then _ else _)) = _
          by_cases e : r = k
          · rw [if_pos e, if_pos (by omega), e, hf]; rfl
          · rw [if_neg e, if_neg e]
            by_cases e' : r < k
            · rw [if_pos e', if_pos (by omega)]
            · rw [if_neg e', if_neg (by omega)])
    (fun mm hI => by
      have : decide ((n : Int) < (n : Int)) = false := lt_no
      show g50_b0 (meansX F1 ro) ro _ _ n mm = _
      simp only [g50_b0, e_lenS, bindO_some, asI_i, ltI_eq, forceB_eq, this, cond_false])
    n 0 ⟨H, h.length, h.length⟩ (by omega) ⟨H, rfl, hw.congr fun r hr => by rw [if_neg (by omega)]; rfl, hL, hK⟩
  obtain ⟨m', k1, hq, rfl, k2, k3, k4⟩ := key
  have e0 : ((0 : Nat) : Int) = 0 := rfl
  rw [e0] at k1
  have hbt := bts_ok (ro := ro) (cap := .known n) (l := h.length) (p := h.length) (k2.congr (get' := fun j => .i .u8 ((cond (Nat.beq (f j) 1) 49 48 : Nat) : Int)) fun r hr => by rw [if_pos hr]) (fun j hj => by cases Nat.beq (f j) 1 <;> decide)
  simp only [e_lenS, bindO_some, asI_i, hmk, bindP_some, meansX_loop, k1, hbt, asS_s, tupA]
  rw [fin_take (by rfl), take_keep (by omega) k4]
  rfl

/- the reference's ring -/
def ringF (u n : Nat) (f : Nat → Nat) (i : Nat) : Nat := nx u (4 * f ((i + n - 1) % n) + 2 * f i + f ((i + 1) % n))
theorem rring_ok {ro : List ABlk} {h : Heap} {u b n : Nat} {f : Nat → Nat} (hu : u < 256) (hv : Vec h 3 b n (fun i => .i .i64 (f i : Nat))) (hf : ∀ i, i < n → f i < 2) (h0 : 0 < n) (hn : n ≤ 900) :
    ∃ b' hp, callX F1 ro 52 [.i .i64 u, .sl ⟨false, b, 0⟩ n .grow] h = some (.sl ⟨false, b', 0⟩ n .grow, hp, h.length, h.length) ∧ NV h hp b' n (ringF u n f) := by
  obtain ⟨b', hp, k1, nv⟩ := push_loop (ro := ro) (h := h) (L := h.length) (Nat.le_refl _) (b := fun z => g52_b0 (meansX F1 ro) ro u (.sl ⟨false, b, 0⟩ n .grow) n z.1 z.2.1 z.2.2) 0 n (by omega) h0 (ringF u n f)
    (fun k hk v hp hlen hkeep v2 hp2 v3 hp3 s1 s2 => by
      have hlt : ((k : Int) < (n : Int)) := by omega
      have m1 := Nat.mod_lt (k + n - 1) h0
      have m2 := Nat.mod_lt (k + 1) h0
      have w1 : wr .i64 ((k : Int) + (n : Int)) = ((k + n : Nat) : Int) := by rw [wr_id' (by omega) (by omega)]; omega
      have w2 : wr .i64 (((k + n : Nat) : Int) - 1) = ((k + n - 1 : Nat) : Int) := by rw [wr_id' (by omega) (by omega)]; omega
      have t1 : Int.tmod ((k + n - 1 : Nat) : Int) (n : Int) = (((k + n - 1) % n : Nat) : Int) := rfl
      have t2 : Int.tmod ((k + 1 : Nat) : Int) (n : Int) = (((k + 1) % n : Nat) : Int) := rfl
      have nz : ((n : Int) == Int.ofNat 0) = false := by
        show ((n : Int) == 0) = false
        rw [beq_eq_false_iff_ne]; omega
      have vk := hv.keep (hkeep b hv.lt)
      have l1 := Vec.lda (ro := ro) vk m1
      have l2 := Vec.lda (ro := ro) vk hk
      have l3 := Vec.lda (ro := ro) vk m2
      have cb := callM_pure (call := callX F1 ro) (l := h.length) (p := h.length) (becomes_ok (ro := ro) (h := hp) hu (hf _ m1) (hf _ hk) (hf _ m2)) hlen hlen
      have s1' : stepM ro ⟨hp, h.length, h.length⟩ (.bsl 3 1 [.i .i64 0] 1 [((0, 1), .c (.i .i64 ((nx u (4 * f ((k + n - 1) % n) + 2 * f k + f ((k + 1) % n)) : Nat) : Int)))]) = some (v2, ⟨hp2, h.length, h.length⟩) := s1
      rw [Nat.zero_add]
      simp only [g52_b0, ltI_eq, forceB_eq, decide_eq_true hlt, cond_true, forceI_eq, w1, w2, eqI_eq, nz, Bool.not_false, chk_true, t1, ixS_eq m1, ixS_eq hk, bindO_some, wr_next (by omega : k ≤ 1000000), t2, ixS_eq m2, l1, l2, l3, asI_i, meansX_call, cb, bindP_some, s1', s2])
    (fun v m => by
      have : decide ((n : Int) < (n : Int)) = false := lt_no
      show g52_b0 (meansX F1 ro) ro u _ n v ((0 + n : Nat) : Int) m = _
      rw [Nat.zero_add]
      simp only [g52_b0, ltI_eq, forceB_eq, this, cond_false])
  have e0 : ((0 : Nat) : Int) = 0 := rfl
  rw [e0] at k1
  refine ⟨b', hp, g52_ok (meansX_ok F1 ro) rfl ?_, nv⟩
  unfold g52
  simp only [e_lenS, bindO_some, asI_i, meansX_loop, k1, tupA]
  exact fin_new nv.new

theorem NV.congr {h hp : Heap} {b n : Nat} {f f' : Nat → Nat} (h1 : NV h hp b n f) (hc : ∀ i, i < n → f i = f' i) : NV h hp b n f' :=
  ⟨h1.vec.congr fun r hr => by rw [hc r hr], h1.new, h1.len, h1.keep⟩
end Go.Proofs.Ytgbkicelkpagpaa.W

/- The sets of pairs from which the rest of a row can come; Back; Rings. -/
open Go.Vm
set_option linter.unusedVariables false
namespace Go.Proofs.Ytgbkicelkpagpaa.W
open Go

/- from which pairs the rest of a row can come -/
/- the least row -/
/- one more behind a vector whose room is full or open -/
/-- a loop that counts, whatever it carries -/
theorem loop_seq {S R : Type} {b : S → Option (S ⊕ R)} (n : Nat) (I : Nat → S → Prop) (Q : R → Prop) (hin : ∀ i s, i < n → I i s → ∃ s', b s = some (.inl s') ∧ I (i + 1) s') (hout : ∀ s, I n s → ∃ r, b s = some (.inr r) ∧ Q r) :
    ∀ (k i : Nat) (s : S), i + k = n → I i s → ∃ r, loopX b s = some r ∧ Q r
  | 0, i, s, hk, hi => by
    obtain rfl : i = n := by omega
    obtain ⟨r, h1, h2⟩ := hout s hi
    exact ⟨r, loopX_out h1, h2⟩
  | k + 1, i, s, hk, hi => by
    obtain ⟨s', h1, h2⟩ := hin i s (by omega) hi
    obtain ⟨r, h3, h4⟩ := loop_seq n I Q hin hout k (i + 1) s' (by omega) h2
    exact ⟨r, loopX_on h1 h3, h4⟩

end Go.Proofs.Ytgbkicelkpagpaa.W

/- Back and Rings: what they answer. -/
open Go.Vm
set_option linter.unusedVariables false
namespace Go.Proofs.Ytgbkicelkpagpaa.W
open Go

end Go.Proofs.Ytgbkicelkpagpaa.W

/- Back and Rings of the program. -/
open Go.Vm
set_option linter.unusedVariables false
namespace Go.Proofs.Ytgbkicelkpagpaa.W
open Go

/- Rings -/
def oneF (p j : Nat) : Nat := if j = p then 1 else 0
def sumR (u : Nat) (s : List UInt8) : Nat → Nat
  | 0 => 0
  | p + 1 => sumR u s p + wkN u s (oneF p) s.length p
end Go.Proofs.Ytgbkicelkpagpaa.W

/- The reference's walks: ways, small, sum, one, can; Ways and Rings. -/
open Go.Vm
set_option linter.unusedVariables false
namespace Go.Proofs.Ytgbkicelkpagpaa.W
open Go

/- walks by a function of the letters -/
/- one, small, sum -/
/- ways -/
theorem div_num : ∀ p, p < 4 → wr .i64 (Int.tdiv (Int.ofNat p) 2) = Int.ofNat (p / 2) ∧ Int.tmod (Int.ofNat p) 2 = Int.ofNat (p % 2) ∧ wr .i64 (Int.ofNat (p % 2) * 2) = Int.ofNat (p % 2 * 2) := by decide +kernel
end Go.Proofs.Ytgbkicelkpagpaa.W

/- Sums over all rows; what Back and Ways have to do with one another. -/
open Go.Vm
set_option linter.unusedVariables false
namespace Go.Proofs.Ytgbkicelkpagpaa.W
open Go

/- sums -/
/- each pair goes on to two -/
/- Ways above 0 -/
/- Back becomes the row -/
end Go.Proofs.Ytgbkicelkpagpaa.W

/- The reference's can, Back, Ways and Rings. -/
open Go.Vm
set_option linter.unusedVariables false
namespace Go.Proofs.Ytgbkicelkpagpaa.W
open Go

/- cuts of a list -/
/- Ways -/
/- Rings -/
end Go.Proofs.Ytgbkicelkpagpaa.W

/- The reference's Back. -/
open Go.Vm
set_option linter.unusedVariables false
namespace Go.Proofs.Ytgbkicelkpagpaa.W
open Go

end Go.Proofs.Ytgbkicelkpagpaa.W

/- The reference's orphans: by contract, and a search on numbers that is reckoned for all rules. -/
open Go.Vm
set_option linter.unusedVariables false
namespace Go.Proofs.Ytgbkicelkpagpaa.W
open Go

/- sets of pairs as numbers of four bits -/
section
variable {g : Nat → Nat} (hg : ∀ j, j < 4 → g j ≤ 1)
include hg
end
/- the search -/
/- what is in memory -/
structure OIv (hp : Heap) (S : List Nat) (W : List (List UInt8)) (b4 : Nat) (cap4 : Cap) (b5 : Nat) (cap5 : Cap) (bb : Nat → Nat) (cc : Nat → Cap) : Prop where
  hlen : W.length = S.length
  pos : 0 < S.length
  c4 : cap4 = .grow ∨ cap4 = .known S.length
  c5 : cap5 = .grow ∨ cap5 = .known S.length
  vec4 : Vec hp 55 b4 S.length (fun i => .sl ⟨false, bb i, 0⟩ 4 (cc i))
  vec5 : Vec hp 9 b5 S.length (fun i => .s (W.getD i []))
  rows : ∀ i, i < S.length → Vec hp 3 (bb i) 4 (fun j => .i .i64 (nx (S.getD i 0) j : Nat))
  lt16 : ∀ i, i < S.length → S.getD i 0 < 16
  wlen : ∀ i, i < S.length → (W.getD i []).length ≤ S.length
section
variable {hp hp' : Heap} {S : List Nat} {W : List (List UInt8)} {b4 b5 : Nat} {cap4 cap5 : Cap} {bb : Nat → Nat} {cc : Nat → Cap}
theorem OIv.keep (h : OIv hp S W b4 cap4 b5 cap5 bb cc) (hk : ∀ j, j < hp.length → hp'[j]? = hp[j]?) : OIv hp' S W b4 cap4 b5 cap5 bb cc :=
  ⟨h.hlen, h.pos, h.c4, h.c5, h.vec4.keep (hk _ h.vec4.lt), h.vec5.keep (hk _ h.vec5.lt), fun i hi => (h.rows i hi).keep (hk _ (h.rows i hi).lt), h.lt16, h.wlen⟩
end

end Go.Proofs.Ytgbkicelkpagpaa.W

/- Rings that come again: numbers of rows, and when one comes again. -/
open Go.Vm
set_option linter.unusedVariables false
namespace Go.Proofs.Ytgbkicelkpagpaa.W
open Go

/- the number of a row -/
def numF (f : Nat → Nat) : Nat → Nat
  | 0 => 0
  | k + 1 => 2 * numF f k + f k
theorem numF_lt {f : Nat → Nat} : ∀ {k : Nat}, (∀ i, i < k → f i < 2) → numF f k < 2 ^ k
  | 0, _ => by show 0 < 1; omega
  | k + 1, h => by
    have h1 := numF_lt (k := k) fun i hi => h i (by omega)
    have h2 := h k (by omega)
    show 2 * numF f k + f k < _
    rw [Nat.pow_succ]; omega
/- when it comes again -/
/- what a map holds -/
/- what the list of years holds -/
end Go.Proofs.Ytgbkicelkpagpaa.W

/- Settle, the program's by a map and the reference's by a list of years. -/
open Go.Vm
set_option linter.unusedVariables false
namespace Go.Proofs.Ytgbkicelkpagpaa.W
open Go

/- maps in memory -/
theorem pow16 {i : Nat} (h : i ≤ 16) : 2 ^ i ≤ 65536 := Nat.le_trans (Nat.pow_le_pow_right (by omega) h) (by decide)

/- the reference's -/
theorem number_ok {ro : List ABlk} {h : Heap} {b n : Nat} {cap : Cap} {f : Nat → Nat} (hv : Vec h 3 b n (fun i => .i .i64 (f i : Nat))) (hf : ∀ i, i < n → f i < 2) (hn : n ≤ 16) :
    callX F1 ro 67 [.sl ⟨false, b, 0⟩ n cap] h = some (.i .i64 (numF f n : Nat), h, h.length, h.length) := by
  refine g67_ok (meansX_ok F1 ro) rfl ?_
  unfold g67
  obtain ⟨r, k1, rfl⟩ := loop_seq (b := fun z : Int × Int => g67_b0 (meansX F1 ro) ro (.sl ⟨false, b, 0⟩ n cap) ⟨h, h.length, h.length⟩ z.1 z.2) n (fun i z => z = (((numF f i : Nat) : Int), (i : Int))) (fun r => r = ((numF f n : Nat) : Int))
    (fun i z hi hI => by
      subst hI
      have hlt : decide ((i : Int) < ((n : Nat) : Int)) = true := by simp; omega
      have ld := Vec.ld (ro := ro) (l := h.length) (p := h.length) hv hi
      have h1 := numF_lt (f := f) (k := i) fun j hj => hf j (by omega)
      have h2 := pow16 (by omega : i ≤ 16)
      have h3 := hf i hi
      have w1 : wr .i64 (2 * ((numF f i : Nat) : Int)) = ((2 * numF f i : Nat) : Int) := by rw [wr_id' (by omega) (by omega)]; omega
      have w2 : wr .i64 (((2 * numF f i : Nat) : Int) + ((f i : Nat) : Int)) = ((2 * numF f i + f i : Nat) : Int) := by rw [wr_id' (by omega) (by omega)]; omega
      refine ⟨_, ?_, rfl⟩
      simp only [g67_b0, e_lenS, bindO_some, asI_i, ltI_eq, forceB_eq, hlt, cond_true, forceI_eq, w1, ixS_eq hi, ld, w2, wr_next (by omega : i ≤ 1000000)]
      rfl)
    (fun z hI => by
      subst hI
      have : decide (((n : Nat) : Int) < ((n : Nat) : Int)) = false := lt_no
      refine ⟨_, ?_, rfl⟩
      simp only [g67_b0, e_lenS, bindO_some, asI_i, ltI_eq, forceB_eq, this, cond_false])
    n 0 (0, 0) (by omega) rfl
  simp only [meansX_loop, k1, bindO_some, tupA]
  exact fin_pure rfl
theorem mk_big {ro : List ABlk} {hp : Heap} {l p n : Nat} (hn : n ≤ 65536) :
    stepM ro ⟨hp, l, p⟩ (.mk 3 1 8 [AVal.i .i64 0] (.c (.i .i64 (n : Int))) (.c (.i .i64 (n : Int)))) = some (.sl ⟨false, hp.length, 0⟩ n (.known n), ⟨hp ++ [some (newBlk 3 (AVal.i .i64 0) n)], l, p⟩) := by
  have hc : (Nat.ble n n && Nat.ble n 1048576 && Nat.ble (n * 8) 281474976710656) = true := by
    simp only [Bool.and_eq_true, Nat.ble_eq]; omega
  have e : ((n : Int)) = Int.ofNat n := rfl
  rw [e]
  simp only [stepM, stepK, opd, st_mk, hc, cond_true, newB, St.mm]
  rfl
end Go.Proofs.Ytgbkicelkpagpaa.W

/- Mirrored rules: what Mirror, Onto, OneToOne and Additive answer of all rules, reckoned. -/
open Go.Vm
set_option linter.unusedVariables false
namespace Go.Proofs.Ytgbkicelkpagpaa.W
open Go
def mirN (n : Nat) : Nat := nx n 0 + nx n 4 * 2 + nx n 2 * 4 + nx n 6 * 8 + nx n 1 * 16 + nx n 5 * 32 + nx n 3 * 64 + nx n 7 * 128
def excN (n : Nat) : Nat := (1 - nx n 7) + (1 - nx n 6) * 2 + (1 - nx n 5) * 4 + (1 - nx n 4) * 8 + (1 - nx n 3) * 16 + (1 - nx n 2) * 32 + (1 - nx n 1) * 64 + (1 - nx n 0) * 128
def addN (n : Nat) : Bool := Nat.beq n 0 || (Nat.beq n 60 || (Nat.beq n 90 || (Nat.beq n 102 || (Nat.beq n 150 || (Nat.beq n 170 || (Nat.beq n 204 || Nat.beq n 240))))))
def eqIs (a : Int) (k : Nat) : Bool := match a with
  | .ofNat j => Nat.beq j k
  | .negSucc _ => false
theorem eqIs_eq {a : Int} {k : Nat} (h : eqIs a k = true) : a = (k : Int) := by
  unfold eqIs at h
  split at h
  · rw [beq_iff.1 h]; rfl
  · cases h
def okM (a b : Nat) (o : Option (AVal × Heap × Nat × Nat)) : Bool := match o with
  | some (.tup [.i .i64 x, .i .i64 y, .i .i64 z], [], 0, 0) => eqIs x a && (eqIs y b && eqIs z 0)
  | _ => false
theorem okM_eq {a b : Nat} {o : Option (AVal × Heap × Nat × Nat)} (h : okM a b o = true) : o = some (.tup [.i .i64 a, .i .i64 b, .i .i64 0], [], 0, 0) := by
  unfold okM at h
  split at h
  · rw [Bool.and_eq_true, Bool.and_eq_true] at h
    rw [eqIs_eq h.1, eqIs_eq h.2.1, eqIs_eq h.2.2]; rfl
  · cases h
def okJ (w : Bool) (o : Option (AVal × Heap × Nat × Nat)) : Bool := match o with
  | some (.tup [.b w', .i .i64 z], [], 0, 0) => (w == w') && eqIs z 0
  | _ => false
theorem okJ_eq {w : Bool} {o : Option (AVal × Heap × Nat × Nat)} (h : okJ w o = true) : o = some (.tup [.b w, .i .i64 0], [], 0, 0) := by
  unfold okJ at h
  split at h
  · rw [Bool.and_eq_true] at h
    rw [eq_of_beq h.1, eqIs_eq h.2]; rfl
  · cases h
def chkM (n : Nat) : Bool := okM (mirN n) (excN n) ((Rk3 200).call 36 [.i .i64 (Int.ofNat n)] []) && (okJ (orphT n).isEmpty ((Rk3 200).call 28 [.i .i64 (Int.ofNat n)] []) && (okJ (oneT n) ((Rk3 200).call 30 [.i .i64 (Int.ofNat n)] []) && okJ (addN n) ((Rk3 200).call 38 [.i .i64 (Int.ofNat n)] [])))
theorem mm0 : ((List.range 16).all fun i => chkM (16 * 0 + i)) = true := by decide +kernel
theorem mm1 : ((List.range 16).all fun i => chkM (16 * 1 + i)) = true := by decide +kernel
theorem mm2 : ((List.range 16).all fun i => chkM (16 * 2 + i)) = true := by decide +kernel
theorem mm3 : ((List.range 16).all fun i => chkM (16 * 3 + i)) = true := by decide +kernel
theorem mm4 : ((List.range 16).all fun i => chkM (16 * 4 + i)) = true := by decide +kernel
theorem mm5 : ((List.range 16).all fun i => chkM (16 * 5 + i)) = true := by decide +kernel
theorem mm6 : ((List.range 16).all fun i => chkM (16 * 6 + i)) = true := by decide +kernel
theorem mm7 : ((List.range 16).all fun i => chkM (16 * 7 + i)) = true := by decide +kernel
theorem mm8 : ((List.range 16).all fun i => chkM (16 * 8 + i)) = true := by decide +kernel
theorem mm9 : ((List.range 16).all fun i => chkM (16 * 9 + i)) = true := by decide +kernel
theorem mm10 : ((List.range 16).all fun i => chkM (16 * 10 + i)) = true := by decide +kernel
theorem mm11 : ((List.range 16).all fun i => chkM (16 * 11 + i)) = true := by decide +kernel
theorem mm12 : ((List.range 16).all fun i => chkM (16 * 12 + i)) = true := by decide +kernel
theorem mm13 : ((List.range 16).all fun i => chkM (16 * 13 + i)) = true := by decide +kernel
theorem mm14 : ((List.range 16).all fun i => chkM (16 * 14 + i)) = true := by decide +kernel
theorem mm15 : ((List.range 16).all fun i => chkM (16 * 15 + i)) = true := by decide +kernel
theorem mm_all {n : Nat} (hn : n < 256) : chkM n = true := by
  by_cases h0 : n < 16
  · exact all_16 (P := chkM) mm0 (by omega) (by omega)
  by_cases h1 : n < 32
  · exact all_16 (P := chkM) mm1 (by omega) (by omega)
  by_cases h2 : n < 48
  · exact all_16 (P := chkM) mm2 (by omega) (by omega)
  by_cases h3 : n < 64
  · exact all_16 (P := chkM) mm3 (by omega) (by omega)
  by_cases h4 : n < 80
  · exact all_16 (P := chkM) mm4 (by omega) (by omega)
  by_cases h5 : n < 96
  · exact all_16 (P := chkM) mm5 (by omega) (by omega)
  by_cases h6 : n < 112
  · exact all_16 (P := chkM) mm6 (by omega) (by omega)
  by_cases h7 : n < 128
  · exact all_16 (P := chkM) mm7 (by omega) (by omega)
  by_cases h8 : n < 144
  · exact all_16 (P := chkM) mm8 (by omega) (by omega)
  by_cases h9 : n < 160
  · exact all_16 (P := chkM) mm9 (by omega) (by omega)
  by_cases h10 : n < 176
  · exact all_16 (P := chkM) mm10 (by omega) (by omega)
  by_cases h11 : n < 192
  · exact all_16 (P := chkM) mm11 (by omega) (by omega)
  by_cases h12 : n < 208
  · exact all_16 (P := chkM) mm12 (by omega) (by omega)
  by_cases h13 : n < 224
  · exact all_16 (P := chkM) mm13 (by omega) (by omega)
  by_cases h14 : n < 240
  · exact all_16 (P := chkM) mm14 (by omega) (by omega)
  by_cases h15 : n < 256
  · exact all_16 (P := chkM) mm15 (by omega) (by omega)
  omega
theorem facts {n : Nat} (hn : n < 256) : callX F3 [] 36 [.i .i64 n] [] = some (.tup [.i .i64 (mirN n : Nat), .i .i64 (excN n : Nat), .i .i64 0], [], 0, 0) ∧ callX F3 [] 28 [.i .i64 n] [] = some (.tup [.b (orphT n).isEmpty, .i .i64 0], [], 0, 0) ∧
    callX F3 [] 30 [.i .i64 n] [] = some (.tup [.b (oneT n), .i .i64 0], [], 0, 0) ∧ callX F3 [] 38 [.i .i64 n] [] = some (.tup [.b (addN n), .i .i64 0], [], 0, 0) := by
  have h := mm_all hn
  simp only [chkM, Bool.and_eq_true] at h
  exact ⟨(meansS_ok [] allO 200).call _ _ _ _ (okM_eq h.1), (meansS_ok [] allO 200).call _ _ _ _ (okJ_eq h.2.1), (meansS_ok [] allO 200).call _ _ _ _ (okJ_eq h.2.2.1), (meansS_ok [] allO 200).call _ _ _ _ (okJ_eq h.2.2.2)⟩
end Go.Proofs.Ytgbkicelkpagpaa.W

/- Twins of all rules, reckoned. -/
open Go.Vm
set_option linter.unusedVariables false
namespace Go.Proofs.Ytgbkicelkpagpaa.W
open Go

theorem bits_num : ∀ x, x < 1024 → ∀ t, t < 10 → bitV .and .i64 (shrV .i64 (Int.ofNat x) (Int.ofNat t)) 1 = Int.ofNat (nx x t) := by decide +kernel
theorem ringOf_ok {ro : List ABlk} {h : Heap} {x m : Nat} (hx : x < 1024) (hm : m ≤ 10) : callX F1 ro 81 [.i .i64 x, .i .i64 m] h = some (.s (plotsL x m), h, h.length, h.length) := by
  refine g81_ok (meansX_ok F1 ro) rfl ?_
  unfold g81
  have hmk := mk_ok (ro := ro) (hp := h) (l := h.length) (p := h.length) (e := 5) (es := 1) (bytes := 1) (v := AVal.i IntKind.u8 0) (n := m) (by omega) (by omega)
  obtain ⟨hq, k1, k2, k3, k4⟩ := bytes_loop (ro := ro) (h := h) (n := m) (g := fun k => 48 + nx x (m - 1 - k))
    (b := fun z => g81_b0 (meansX F1 ro) ro x m (.sl ⟨false, h.length, 0⟩ m (.known m)) ((m : Nat) : Int) z.1 z.2)
    (fun k hk => by have := nx_le x (m - 1 - k); show 48 + nx x (m - 1 - k) < 256; omega)
    (fun k => k) (fun k j => Nat.blt j k) (fun k hk => hk) (fun j _ => blt_none j) (fun j hj => blt_all hj) (fun k j hk hj => blt_succ hk hj)
    (fun k hk hp' hp'' hL hst => by
      have hlt : ((k : Int) < ((m : Nat) : Int)) := by omega
      have w1 : wr .i64 ((m : Int) - 1) = ((m - 1 : Nat) : Int) := by rw [wr_id' (by omega) (by omega)]; omega
      have w2 : wr .i64 (((m - 1 : Nat) : Int) - (k : Int)) = ((m - 1 - k : Nat) : Int) := by rw [wr_id' (by omega) (by omega)]; omega
      have e1 : bitV .and .i64 (shrV .i64 (x : Int) ((m - 1 - k : Nat) : Int)) 1 = ((nx x (m - 1 - k) : Nat) : Int) := bits_num x hx _ (by omega)
      have hn := nx_le x (m - 1 - k)
      have c4 := callM_pure (call := callX F1 ro) (l := h.length) (p := h.length) (plot_ok (ro := ro) (h := hp') (t := nx x (m - 1 - k)) (by omega)) hL hL
      have ei := ixS_eq (q := ⟨false, h.length, 0⟩) (len := m) (cap := .known m) (i := k) hk
      simp only [g81_b0, forceB_eq, ltI_eq, decide_eq_true hlt, cond_true, forceI_eq, w1, w2, nneg, chk_true, e1, meansX_call, c4, bindP_some, asI_i, ei, bindO_some, hst, wr_next (by omega : k ≤ 1000000)])
    (fun mm => by
      have : decide (((m : Nat) : Int) < ((m : Nat) : Int)) = false := lt_no
      show g81_b0 (meansX F1 ro) ro x m _ _ ((m : Nat) : Int) mm = _
      simp only [g81_b0, forceB_eq, ltI_eq, this, cond_false])
  simp only [hmk, bindP_some, e_lenS, bindO_some, asI_i, meansX_loop, k1, k2, asS_s, tupA]
  rw [fin_take (by rfl), k3]
  rfl

/- what is known of calls -/
def okB (s : List UInt8) : Bool := (List.range s.length).all fun i => Nat.beq (ch s i) 48 || Nat.beq (ch s i) 49
theorem okB_ok {s : List UInt8} (h : okB s = true) : okR s := fun i hi => by
  have := List.all_eq_true.1 h i (List.mem_range.2 hi)
  rw [Bool.or_eq_true] at this
  exact this.imp beq_iff.1 beq_iff.1
def leafR : Caller := fun f a h => match a with
  | [.i .u8 (.ofNat u), .s s] => cond (Nat.beq f 51 && (Nat.blt u 256 && (okB s && (Nat.blt 0 s.length && Nat.ble s.length 900)))) (some (.s (ringS u s), h, h.length, h.length)) none
  | [.i .i64 (.ofNat x), .i .i64 (.ofNat m)] => cond (Nat.beq f 81 && (Nat.blt x 1024 && Nat.ble m 10)) (some (.s (plotsL x m), h, h.length, h.length)) none
  | _ => none
theorem leafR_le {ro : List ABlk} {f : Nat} {a : List AVal} {h : Heap} {r : AVal × Heap × Nat × Nat} (e : leafR f a h = some r) : callX F1 ro f a h = some r := by
  unfold leafR at e
  split at e
  · rename_i u s
    cases hc : (Nat.beq f 51 && (Nat.blt u 256 && (okB s && (Nat.blt 0 s.length && Nat.ble s.length 900)))) with
    | false => rw [hc] at e; cases e
    | true =>
      rw [hc] at e
      simp only [Bool.and_eq_true, Nat.blt_eq, Nat.ble_eq] at hc
      cases e
      rw [beq_iff.1 hc.1]
      exact ring_ok hc.2.1 (okB_ok hc.2.2.1) hc.2.2.2.1 hc.2.2.2.2
  · rename_i x m
    cases hc : (Nat.beq f 81 && (Nat.blt x 1024 && Nat.ble m 10)) with
    | false => rw [hc] at e; cases e
    | true =>
      rw [hc] at e
      simp only [Bool.and_eq_true, Nat.blt_eq, Nat.ble_eq] at hc
      cases e
      rw [beq_iff.1 hc.1]
      exact ringOf_ok hc.2.1 hc.2.2
  · cases e
def allR : Caller := orC allO leafR
abbrev F7 : Tab := ⟨F, allR⟩
abbrev Rk7 (n : Nat) : Means := meansS [] allR n
def chkT (n : Nat) : Bool := match (Rk7 300).call 32 [.i .i64 (Int.ofNat n)] [] with
  | some (.tup [.s a, .s b, .i .i64 e], [], 0, 0) => cond (oneT n) (intEq e 10 && (a.isEmpty && b.isEmpty))
      (intEq e 0 && (okB a && (okB b && (Nat.beq a.length b.length && (Nat.ble a.length 50 && (Nat.blt 0 a.length && (ltL a b && (eqL (ringS n a) (ringS n b) && Nat.blt 1 (sumR n (ringS n a) 4)))))))))
  | _ => false
end Go.Proofs.Ytgbkicelkpagpaa.W

/- Twins of all rules, reckoned: the table. -/
open Go.Vm
set_option linter.unusedVariables false
namespace Go.Proofs.Ytgbkicelkpagpaa.W
open Go

theorem tw0 : ((List.range 16).all fun i => chkT (16 * 0 + i)) = true := by decide +kernel
theorem tw1 : ((List.range 16).all fun i => chkT (16 * 1 + i)) = true := by decide +kernel
theorem tw2 : ((List.range 16).all fun i => chkT (16 * 2 + i)) = true := by decide +kernel
theorem tw3 : ((List.range 16).all fun i => chkT (16 * 3 + i)) = true := by decide +kernel
theorem tw4 : ((List.range 16).all fun i => chkT (16 * 4 + i)) = true := by decide +kernel
theorem tw5 : ((List.range 16).all fun i => chkT (16 * 5 + i)) = true := by decide +kernel
theorem tw6 : ((List.range 16).all fun i => chkT (16 * 6 + i)) = true := by decide +kernel
theorem tw7 : ((List.range 16).all fun i => chkT (16 * 7 + i)) = true := by decide +kernel
theorem tw8 : ((List.range 16).all fun i => chkT (16 * 8 + i)) = true := by decide +kernel
theorem tw9 : ((List.range 16).all fun i => chkT (16 * 9 + i)) = true := by decide +kernel
theorem tw10 : ((List.range 16).all fun i => chkT (16 * 10 + i)) = true := by decide +kernel
theorem tw11 : ((List.range 16).all fun i => chkT (16 * 11 + i)) = true := by decide +kernel
theorem tw12 : ((List.range 16).all fun i => chkT (16 * 12 + i)) = true := by decide +kernel
theorem tw13 : ((List.range 16).all fun i => chkT (16 * 13 + i)) = true := by decide +kernel
theorem tw14 : ((List.range 16).all fun i => chkT (16 * 14 + i)) = true := by decide +kernel
theorem tw15 : ((List.range 16).all fun i => chkT (16 * 15 + i)) = true := by decide +kernel
theorem tw_all {n : Nat} (hn : n < 256) : chkT n = true := by
  by_cases h0 : n < 16
  · exact all_16 (P := chkT) tw0 (by omega) (by omega)
  by_cases h1 : n < 32
  · exact all_16 (P := chkT) tw1 (by omega) (by omega)
  by_cases h2 : n < 48
  · exact all_16 (P := chkT) tw2 (by omega) (by omega)
  by_cases h3 : n < 64
  · exact all_16 (P := chkT) tw3 (by omega) (by omega)
  by_cases h4 : n < 80
  · exact all_16 (P := chkT) tw4 (by omega) (by omega)
  by_cases h5 : n < 96
  · exact all_16 (P := chkT) tw5 (by omega) (by omega)
  by_cases h6 : n < 112
  · exact all_16 (P := chkT) tw6 (by omega) (by omega)
  by_cases h7 : n < 128
  · exact all_16 (P := chkT) tw7 (by omega) (by omega)
  by_cases h8 : n < 144
  · exact all_16 (P := chkT) tw8 (by omega) (by omega)
  by_cases h9 : n < 160
  · exact all_16 (P := chkT) tw9 (by omega) (by omega)
  by_cases h10 : n < 176
  · exact all_16 (P := chkT) tw10 (by omega) (by omega)
  by_cases h11 : n < 192
  · exact all_16 (P := chkT) tw11 (by omega) (by omega)
  by_cases h12 : n < 208
  · exact all_16 (P := chkT) tw12 (by omega) (by omega)
  by_cases h13 : n < 224
  · exact all_16 (P := chkT) tw13 (by omega) (by omega)
  by_cases h14 : n < 240
  · exact all_16 (P := chkT) tw14 (by omega) (by omega)
  by_cases h15 : n < 256
  · exact all_16 (P := chkT) tw15 (by omega) (by omega)
  omega
theorem intEq_of : ∀ {a b : Int}, intEq a b = true → a = b
  | .ofNat a, .ofNat b, h => by rw [beq_iff.1 (show Nat.beq a b = true from h)]
  | .negSucc a, .negSucc b, h => by rw [beq_iff.1 (show Nat.beq a b = true from h)]
  | .ofNat _, .negSucc _, h => by cases h
  | .negSucc _, .ofNat _, h => by cases h
/-- Twins of a rule that is one to one -/
theorem twins_one {n : Nat} (hn : n < 256) (h1 : oneT n = true) : callX F7 [] 32 [.i .i64 n] [] = some (.tup [.s [], .s [], .i .i64 10], [], 0, 0) := by
  have h := tw_all hn
  unfold chkT at h
  split at h
  · rename_i a b e heq
    rw [h1, cond_true] at h
    simp only [Bool.and_eq_true, List.isEmpty_iff] at h
    obtain ⟨h2, rfl, rfl⟩ := h
    obtain rfl : e = 10 := intEq_of h2
    exact (meansS_ok [] allR 300).call _ _ _ _ heq
  · cases h
end Go.Proofs.Ytgbkicelkpagpaa.W

/- The reference's judgement whether a rule is one to one: what is left of the pairs of pairs. -/
open Go.Vm
set_option linter.unusedVariables false
namespace Go.Proofs.Ytgbkicelkpagpaa.W
open Go

def gB (u a b c d : Nat) : Bool := cond (cond (Nat.beq (c / 2) (a % 2)) (Nat.beq (d / 2) (b % 2)) false) (Nat.beq (nx u (4 * (a / 2) + 2 * (a % 2) + c % 2)) (nx u (4 * (b / 2) + 2 * (b % 2) + d % 2))) false
theorem goes_ok {ro : List ABlk} {h : Heap} {u a b c d : Nat} (hu : u < 256) (ha : a < 4) (hb : b < 4) (hc : c < 4) (hd : d < 4) :
    callX F1 ro 80 [.i .i64 u, .i .i64 a, .i .i64 b, .i .i64 c, .i .i64 d] h = some (.b (gB u a b c d), h, h.length, h.length) := by
  refine g80_ok (meansX_ok F1 ro) rfl ?_
  unfold g80
  have dv : ∀ p : Nat, p < 4 → wr .i64 (Int.tdiv (p : Int) 2) = ((p / 2 : Nat) : Int) ∧ Int.tmod (p : Int) 2 = ((p % 2 : Nat) : Int) := fun p hp => ⟨(div_num p hp).1, (div_num p hp).2.1⟩
  have c1 := callM_pure (call := callX F1 ro) (l := h.length) (p := h.length) (becomes_ok (ro := ro) (h := h) hu (by omega : a / 2 < 2) (by omega : a % 2 < 2) (by omega : c % 2 < 2)) (Nat.le_refl _) (Nat.le_refl _)
  have c2 := callM_pure (call := callX F1 ro) (l := h.length) (p := h.length) (becomes_ok (ro := ro) (h := h) hu (by omega : b / 2 < 2) (by omega : b % 2 < 2) (by omega : d % 2 < 2)) (Nat.le_refl _) (Nat.le_refl _)
  simp only [(dv a ha).1, (dv a ha).2, (dv b hb).1, (dv b hb).2, (dv c hc).1, (dv c hc).2, (dv d hd).1, (dv d hd).2, forceI_eq, eqI_eq, num_eq, forceB_eq]
  unfold gB
  cases h1 : Nat.beq (c / 2) (a % 2) with
  | false =>
    simp only [cond_false, bindO_some, tupA]
    exact fin_pure rfl
  | true =>
    simp only [cond_true, bindO_some]
    cases h2 : Nat.beq (d / 2) (b % 2) with
    | false =>
      simp only [cond_false, bindO_some, tupA]
      exact fin_pure rfl
    | true =>
      simp only [cond_true, meansX_call, c1, c2, bindP_some, asI_i, bindO_some, num_eq, tupA]
      exact fin_pure rfl

def gV (u i k : Nat) : Bool := gB u (i / 4) (i % 4) (k / 4) (k % 4)
def onN (u N i : Nat) : Nat → Bool
  | 0 => false
  | k + 1 => onN u N i k || (N.testBit k && gV u i k)
def toN (u N i : Nat) : Nat → Bool
  | 0 => false
  | k + 1 => toN u N i k || (N.testBit k && gV u k i)
def stN (u : Nat) (x : Bool × Nat) (i : Nat) : Bool × Nat := cond (x.2.testBit i && !(onN u x.2 i 16 && toN u x.2 i 16)) (true, x.2 ^^^ 2 ^ i) x
def psN (u N : Nat) : Nat → Bool × Nat
  | 0 => (false, N)
  | i + 1 => stN u (psN u N i) i
def sgN (u : Nat) : Nat → Nat → Option Nat
  | 0, _ => none
  | k + 1, N => cond (psN u N 16).1 (sgN u k (psN u N 16).2) (some (psN u N 16).2)
def dgN (N : Nat) : Nat → Nat → Bool
  | 0, _ => true
  | k + 1, i => cond (N.testBit i && !Nat.beq (i / 4) (i % 4)) false (dgN N k (i + 1))
def oneC (u : Nat) : Bool := match sgN u 17 65535 with
  | some N => dgN N 16 0 == oneT u
  | none => false
theorem oneC_tab : ((List.range 256).all oneC) = true := by decide +kernel
theorem bits16 : ∀ i, i < 16 → (65535 : Nat).testBit i = true := by decide +kernel
theorem xor_bit {N i j : Nat} (h : N.testBit i = true) : (N ^^^ 2 ^ i).testBit j = if j = i then false else N.testBit j := by
  rw [Nat.testBit_xor, Nat.testBit_two_pow]
  by_cases e : j = i
  · subst e; simp [h]
  · rw [if_neg e, decide_eq_false (fun h => e h.symm), Bool.xor_false]
theorem dvs4 : ∀ p, p < 16 → wr .i64 (Int.tdiv (Int.ofNat p) 4) = Int.ofNat (p / 4) ∧ Int.tmod (Int.ofNat p) 4 = Int.ofNat (p % 4) := by decide +kernel

abbrev BV (hp : Heap) (b N : Nat) : Prop := Vec hp 4 b 16 (fun i => .b (N.testBit i))
section
variable {ro : List ABlk} {h : Heap} {u : Nat} (hu : u < 256)
include hu
theorem single_in {N i : Nat} {c5 : Bool} {hp : Heap} (hv : BV hp h.length N) (hl : h.length ≤ hp.length) (hi : i < 16) :
    loopX (fun z : Bool × Bool × Int × Mm => g65_b3 (meansX F1 ro) ro u (.sl ⟨false, h.length, 0⟩ 16 (.known 16)) c5 i z.1 z.2.1 z.2.2.1 z.2.2.2) (false, false, 0, ⟨hp, h.length, h.length⟩) = some (onN u N i 16, toN u N i 16, ⟨hp, h.length, h.length⟩) := by
  obtain ⟨r, k1, rfl⟩ := loop_seq (b := fun z : Bool × Bool × Int × Mm => g65_b3 (meansX F1 ro) ro u (.sl ⟨false, h.length, 0⟩ 16 (.known 16)) c5 i z.1 z.2.1 z.2.2.1 z.2.2.2) 16
    (fun k z => z = (onN u N i k, toN u N i k, (k : Int), ⟨hp, h.length, h.length⟩)) (fun r => r = (onN u N i 16, toN u N i 16, ⟨hp, h.length, h.length⟩))
    (fun k z hk hI => by
      subst hI
      have hlt : decide ((k : Int) < 16) = true := by simp; omega
      have ld := Vec.ld (ro := ro) (l := h.length) (p := h.length) hv hk
      have a1 : wr .i64 (Int.tdiv (i : Int) 4) = ((i / 4 : Nat) : Int) := (dvs4 i hi).1
      have a2 : Int.tmod (i : Int) 4 = ((i % 4 : Nat) : Int) := (dvs4 i hi).2
      have a3 : wr .i64 (Int.tdiv (k : Int) 4) = ((k / 4 : Nat) : Int) := (dvs4 k hk).1
      have a4 : Int.tmod (k : Int) 4 = ((k % 4 : Nat) : Int) := (dvs4 k hk).2
      have c1 := callM_pure (call := callX F1 ro) (l := h.length) (p := h.length) (goes_ok (ro := ro) (h := hp) hu (by omega : i / 4 < 4) (by omega : i % 4 < 4) (by omega : k / 4 < 4) (by omega : k % 4 < 4)) hl hl
      have c2 := callM_pure (call := callX F1 ro) (l := h.length) (p := h.length) (goes_ok (ro := ro) (h := hp) hu (by omega : k / 4 < 4) (by omega : k % 4 < 4) (by omega : i / 4 < 4) (by omega : i % 4 < 4)) hl hl
      refine ⟨_, ?_, rfl⟩
      have e1 : onN u N i (k + 1) = (onN u N i k || (N.testBit k && gB u (i / 4) (i % 4) (k / 4) (k % 4))) := rfl
      have e2 : toN u N i (k + 1) = (toN u N i k || (N.testBit k && gB u (k / 4) (k % 4) (i / 4) (i % 4))) := rfl
      rw [e1, e2]
      cases onN u N i k <;> cases toN u N i k <;> cases hb : N.testBit k <;> rw [hb] at ld <;>
        simp only [g65_b3, ltI_eq, forceB_eq, hlt, cond_true, cond_false, ixS_eq hk, bindO_some, ld, asB_b, forceI_eq, a1, a2, a3, a4, meansX_call, c1, c2, bindP_some, wr_next (by omega : k ≤ 1000000), Bool.true_or, Bool.false_or, Bool.true_and, Bool.false_and])
    (fun z hI => by
      subst hI
      refine ⟨_, ?_, rfl⟩
      have : decide (((16 : Nat) : Int) < 16) = false := rfl
      simp only [g65_b3, ltI_eq, forceB_eq, this, cond_false])
    16 0 (false, false, 0, ⟨hp, h.length, h.length⟩) rfl rfl
  exact k1
theorem single_pass {N : Nat} {hp : Heap} (hv : BV hp h.length N) (hl : hp.length = h.length + 1) (hk : ∀ j, j < h.length → hp[j]? = h[j]?) :
    ∃ hp', loopX (fun z : Bool × Int × Mm => g65_b2 (meansX F1 ro) ro u (.sl ⟨false, h.length, 0⟩ 16 (.known 16)) z.1 z.2.1 z.2.2) (false, 0, ⟨hp, h.length, h.length⟩) = some ((psN u N 16).1, ⟨hp', h.length, h.length⟩) ∧
      BV hp' h.length (psN u N 16).2 ∧ hp'.length = h.length + 1 ∧ ∀ j, j < h.length → hp'[j]? = h[j]? := by
  obtain ⟨r, k1, hp', rfl, k2⟩ := loop_seq (b := fun z : Bool × Int × Mm => g65_b2 (meansX F1 ro) ro u (.sl ⟨false, h.length, 0⟩ 16 (.known 16)) z.1 z.2.1 z.2.2) 16
    (fun i z => ∃ hp', z = ((psN u N i).1, (i : Int), ⟨hp', h.length, h.length⟩) ∧ BV hp' h.length (psN u N i).2 ∧ hp'.length = h.length + 1 ∧ ∀ j, j < h.length → hp'[j]? = h[j]?)
    (fun r => ∃ hp', r = ((psN u N 16).1, ⟨hp', h.length, h.length⟩) ∧ BV hp' h.length (psN u N 16).2 ∧ hp'.length = h.length + 1 ∧ ∀ j, j < h.length → hp'[j]? = h[j]?)
    (fun i z hi hI => by
      obtain ⟨hp', rfl, w, wl, wk⟩ := hI
      have hlt : decide ((i : Int) < 16) = true := by simp; omega
      have e : psN u N (i + 1) = stN u (psN u N i) i := rfl
      rw [e]
      generalize psN u N i = x at w
      obtain ⟨c5, N'⟩ := x
      have lp := single_in (ro := ro) hu (c5 := c5) w (by omega) hi
      have ld := Vec.ld (ro := ro) (l := h.length) (p := h.length) w hi
      obtain ⟨y, s1, s2⟩ := Vec.set (ro := ro) (l := h.length) (p := h.length) w hi (v := .b false) rfl rfl rfl
      rw [Nat.min_self] at s1
      show ∃ s', g65_b2 (meansX F1 ro) ro u (.sl ⟨false, h.length, 0⟩ 16 (.known 16)) c5 i ⟨hp', h.length, h.length⟩ = _ ∧ _
      unfold stN
      cases hb : N'.testBit i with
      | false =>
        rw [Bool.false_and, cond_false]
        have ld' : ldM ro ⟨hp', h.length, h.length⟩ true 1 (.p (some ⟨false, h.length, 0 + i⟩)) = some (.b false) := by rw [ld]; exact congrArg (fun b => some (AVal.b b)) hb
        refine ⟨_, ?_, hp', rfl, w, wl, wk⟩
        simp only [g65_b2, ltI_eq, forceB_eq, hlt, cond_true, meansX_loop, lp, bindO_some, ixS_eq hi, ld', asB_b, cond_false, forceI_eq, wr_next (by omega : i ≤ 1000000)]
      | true =>
        have ld' : ldM ro ⟨hp', h.length, h.length⟩ true 1 (.p (some ⟨false, h.length, 0 + i⟩)) = some (.b true) := by rw [ld]; exact congrArg (fun b => some (AVal.b b)) hb
        rw [Bool.true_and]
        show ∃ s', _ ∧ ∃ hp', s' = ((cond (!(onN u N' i 16 && toN u N' i 16)) (true, N' ^^^ 2 ^ i) (c5, N')).1, _, _) ∧ BV _ _ (cond (!(onN u N' i 16 && toN u N' i 16)) (true, N' ^^^ 2 ^ i) (c5, N')).2 ∧ _
        have stay : ∀ (o t : Bool), (o && t) = true → onN u N' i 16 = o → toN u N' i 16 = t → ∃ s', g65_b2 (meansX F1 ro) ro u (.sl ⟨false, h.length, 0⟩ 16 (.known 16)) c5 i ⟨hp', h.length, h.length⟩ = some (.inl s') ∧ s' = (c5, ((i + 1 : Nat) : Int), ⟨hp', h.length, h.length⟩) := by
          intro o t hot ho ht
          rw [Bool.and_eq_true] at hot
          obtain ⟨rfl, rfl⟩ := hot
          rw [ho, ht] at lp
          refine ⟨_, ?_, rfl⟩
          simp only [g65_b2, ltI_eq, forceB_eq, hlt, cond_true, meansX_loop, lp, bindO_some, ixS_eq hi, ld', asB_b, Bool.not_true, cond_false, forceI_eq, wr_next (by omega : i ≤ 1000000)]
        have go : ∀ (o t : Bool), (o && t) = false → onN u N' i 16 = o → toN u N' i 16 = t → ∃ s', g65_b2 (meansX F1 ro) ro u (.sl ⟨false, h.length, 0⟩ 16 (.known 16)) c5 i ⟨hp', h.length, h.length⟩ = some (.inl s') ∧ s' = (true, ((i + 1 : Nat) : Int), ⟨hp'.set h.length y, h.length, h.length⟩) := by
          intro o t hot ho ht
          rw [ho, ht] at lp
          refine ⟨_, ?_, rfl⟩
          cases o with
          | false => simp only [g65_b2, ltI_eq, forceB_eq, hlt, cond_true, meansX_loop, lp, bindO_some, ixS_eq hi, ld', asB_b, Bool.not_false, cond_false, s1, bindP_some, forceI_eq, wr_next (by omega : i ≤ 1000000)]
          | true =>
            rw [Bool.true_and] at hot
            subst hot
            simp only [g65_b2, ltI_eq, forceB_eq, hlt, cond_true, meansX_loop, lp, bindO_some, ixS_eq hi, ld', asB_b, Bool.not_false, s1, bindP_some, forceI_eq, wr_next (by omega : i ≤ 1000000)]
        cases hot : (onN u N' i 16 && toN u N' i 16) with
        | true =>
          obtain ⟨s', t1, t2⟩ := stay _ _ hot rfl rfl
          exact ⟨s', t1, hp', t2, w, wl, wk⟩
        | false =>
          obtain ⟨s', t1, t2⟩ := go _ _ hot rfl rfl
          refine ⟨s', t1, hp'.set h.length y, t2, s2.congr fun j hj => ?_, by rw [List.length_set]; exact wl, fun j hj => by rw [List.getElem?_set_ne (by omega)]; exact wk j hj⟩
          show (if j = i then _ else _) = AVal.b ((N' ^^^ 2 ^ i).testBit j)
          rw [xor_bit hb]
          by_cases e : j = i
          · rw [if_pos e, if_pos e]
          · rw [if_neg e, if_neg e])
    (fun z hI => by
      obtain ⟨hp', rfl, w, wl, wk⟩ := hI
      refine ⟨_, ?_, hp', rfl, w, wl, wk⟩
      have : decide (((16 : Nat) : Int) < 16) = false := rfl
      simp only [g65_b2, ltI_eq, forceB_eq, this, cond_false])
    16 0 (false, 0, ⟨hp, h.length, h.length⟩) rfl ⟨hp, rfl, hv, hl, hk⟩
  exact ⟨hp', k1, k2⟩
theorem single_loop : ∀ (k N N' : Nat) (hp : Heap), sgN u k N = some N' → BV hp h.length N → hp.length = h.length + 1 → (∀ j, j < h.length → hp[j]? = h[j]?) →
    ∃ hp', loopX (fun z : Bool × Mm => g65_b1 (meansX F1 ro) ro u (.sl ⟨false, h.length, 0⟩ 16 (.known 16)) z.1 z.2) (true, ⟨hp, h.length, h.length⟩) = some ⟨hp', h.length, h.length⟩ ∧ BV hp' h.length N' ∧ hp'.length = h.length + 1 ∧ ∀ j, j < h.length → hp'[j]? = h[j]?
  | 0, N, N', hp, e, _, _, _ => by cases e
  | k + 1, N, N', hp, e, hv, hl, hk => by
    obtain ⟨hp2, t1, t2, t3, t4⟩ := single_pass (ro := ro) hu hv hl hk
    unfold sgN at e
    have st : ∀ c, (psN u N 16).1 = c → g65_b1 (meansX F1 ro) ro u (.sl ⟨false, h.length, 0⟩ 16 (.known 16)) true ⟨hp, h.length, h.length⟩ = some (.inl (c, ⟨hp2, h.length, h.length⟩)) := fun c hc => by
      rw [hc] at t1
      simp only [g65_b1, cond_true, meansX_loop, t1, bindO_some]
    cases hc : (psN u N 16).1 with
    | true =>
      rw [hc, cond_true] at e
      obtain ⟨hp3, r1, r2⟩ := single_loop k _ N' hp2 e t2 t3 t4
      exact ⟨hp3, loopX_on (st _ hc) r1, r2⟩
    | false =>
      rw [hc, cond_false] at e
      cases e
      refine ⟨hp2, loopX_on (st _ hc) (loopX_out ?_), t2, t3, t4⟩
      simp only [g65_b1, cond_false]
omit hu in
theorem single_end {N : Nat} {hp : Heap} (hv : BV hp h.length N) : ∀ k i : Nat, i + k = 16 →
    ∃ o, loopX (fun z : Int => g65_b11 (meansX F1 ro) ro (.sl ⟨false, h.length, 0⟩ 16 (.known 16)) ⟨hp, h.length, h.length⟩ z) (i : Int) = some o ∧ (dgN N k i = true → o = .inl ()) ∧ (dgN N k i = false → o = .inr false)
  | 0, i, e => by
    obtain rfl : i = 16 := by omega
    refine ⟨.inl (), loopX_out ?_, (fun _ => rfl), fun h => by cases h⟩
    have : decide (((16 : Nat) : Int) < 16) = false := rfl
    simp only [g65_b11, ltI_eq, forceB_eq, this, cond_false]
  | k + 1, i, e => by
    have hi : i < 16 := by omega
    have hlt : decide ((i : Int) < 16) = true := by simp; omega
    have ld := Vec.ld (ro := ro) (l := h.length) (p := h.length) hv hi
    have a1 : wr .i64 (Int.tdiv (i : Int) 4) = ((i / 4 : Nat) : Int) := (dvs4 i hi).1
    have a2 : Int.tmod (i : Int) 4 = ((i % 4 : Nat) : Int) := (dvs4 i hi).2
    obtain ⟨o, o1, o2, o3⟩ := single_end hv k (i + 1) (by omega)
    unfold dgN
    cases hb : N.testBit i with
    | false =>
      rw [hb] at ld
      rw [Bool.false_and, cond_false]
      refine ⟨o, loopX_on ?_ o1, o2, o3⟩
      simp only [g65_b11, ltI_eq, forceB_eq, hlt, cond_true, ixS_eq hi, bindO_some, ld, asB_b, cond_false, forceI_eq, wr_next (by omega : i ≤ 1000000)]
    | true =>
      rw [hb] at ld
      rw [Bool.true_and]
      cases hd : Nat.beq (i / 4) (i % 4) with
      | true =>
        rw [Bool.not_true, cond_false]
        refine ⟨o, loopX_on ?_ o1, o2, o3⟩
        simp only [g65_b11, ltI_eq, forceB_eq, hlt, cond_true, ixS_eq hi, bindO_some, ld, asB_b, forceI_eq, a1, a2, eqI_eq, num_eq, hd, Bool.not_true, cond_false, wr_next (by omega : i ≤ 1000000)]
      | false =>
        rw [Bool.not_false, cond_true]
        refine ⟨.inr false, loopX_out ?_, (fun h => by cases h), fun _ => rfl⟩
        simp only [g65_b11, ltI_eq, forceB_eq, hlt, cond_true, ixS_eq hi, bindO_some, ld, asB_b, forceI_eq, a1, a2, eqI_eq, num_eq, hd, Bool.not_false]
theorem single_ok : callX F1 ro 65 [.i .i64 u] h = some (.b (oneT u), h, h.length, h.length) := by
  refine g65_ok (meansX_ok F1 ro) rfl ?_
  unfold g65
  have hmk := mk_ok (ro := ro) (hp := h) (l := h.length) (p := h.length) (e := 4) (es := 1) (bytes := 1) (v := AVal.b false) (n := 16) (by omega) (by omega)
  have hmk' : stepM ro ⟨h, h.length, h.length⟩ (.mk 4 1 1 [(AVal.b false)] (.c (.i .i64 16)) (.c (.i .i64 16))) = some (.sl ⟨false, h.length, 0⟩ 16 (.known 16), ⟨h ++ [some (newBlk 4 (AVal.b false) 16)], h.length, h.length⟩) := hmk
  have hw := Vec.new h 4 16 (AVal.b false)
  have hL : (h ++ [some (newBlk 4 (AVal.b false) 16)]).length = h.length + 1 := by simp
  have hK : ∀ k, k < h.length → (h ++ [some (newBlk 4 (AVal.b false) 16)])[k]? = h[k]? := fun k hk => List.getElem?_append_left hk
  generalize h ++ [some (newBlk 4 (AVal.b false) 16)] = H at hmk' hw hL hK
  obtain ⟨m', k1, hp1, rfl, k2, k3, k4⟩ := loop_all (b := fun z => g65_b0 (meansX F1 ro) ro u (.sl ⟨false, h.length, 0⟩ 16 (.known 16)) z.1 z.2) 16
    (fun i m => ∃ hp', m = ⟨hp', h.length, h.length⟩ ∧ Vec hp' 4 h.length 16 (fun j => .b (decide (j < i))) ∧ hp'.length = h.length + 1 ∧ ∀ k, k < h.length → hp'[k]? = h[k]?)
    (fun i m hi hI => by
      obtain ⟨hp', rfl, w, wl, wk⟩ := hI
      have hlt : decide ((i : Int) < 16) = true := by simp; omega
      obtain ⟨y, s1, s2⟩ := Vec.set (ro := ro) (l := h.length) (p := h.length) w hi (v := .b true) rfl rfl rfl
      rw [Nat.min_self] at s1
      refine ⟨⟨hp'.set h.length y, h.length, h.length⟩, ?_, _, rfl, s2.congr fun j hj => ?_, by rw [List.length_set]; exact wl, fun j hj => by rw [List.getElem?_set_ne (by omega)]; exact wk j hj⟩
      · simp only [g65_b0, ltI_eq, forceB_eq, hlt, cond_true, ixS_eq hi, bindO_some, s1, bindP_some, forceI_eq, wr_next (by omega : i ≤ 1000000)]
      · show (if j = i then _ else _) = _
        by_cases e : j = i
        · rw [if_pos e, decide_eq_true (by omega)]
        · rw [if_neg e]
          exact congrArg AVal.b (by simp only [decide_eq_decide]; omega))
    (fun m hI => by
      have : decide (((16 : Nat) : Int) < 16) = false := rfl
      show g65_b0 (meansX F1 ro) ro u _ ((16 : Nat) : Int) m = _
      simp only [g65_b0, ltI_eq, forceB_eq, this, cond_false])
    16 0 ⟨H, h.length, h.length⟩ rfl ⟨H, rfl, hw.congr fun j hj => (congrArg AVal.b (decide_eq_false (by omega))).symm, hL, hK⟩
  have e0 : ((0 : Nat) : Int) = 0 := rfl
  rw [e0] at k1
  have hB : BV hp1 h.length 65535 := k2.congr fun j hj => by rw [bits16 j hj, decide_eq_true hj]
  have hone := List.all_eq_true.1 oneC_tab u (List.mem_range.2 hu)
  unfold oneC at hone
  split at hone
  · rename_i N hsg
    obtain ⟨hp2, r1, r2, r3, r4⟩ := single_loop (ro := ro) hu 17 65535 N hp1 hsg hB k3 k4
    obtain ⟨o, o1, o2, o3⟩ := single_end (ro := ro) r2 16 0 rfl
    rw [e0] at o1
    have hd : dgN N 16 0 = oneT u := eq_of_beq hone
    rw [hd] at o2 o3
    simp only [hmk', bindP_some, meansX_loop, k1, bindO_some, r1, o1]
    cases h1 : oneT u with
    | true =>
      rw [o2 h1]
      simp only [tupA]
      rw [fin_take (by rfl), take_keep (by omega) r4]
    | false =>
      rw [o3 h1]
      simp only [tupA]
      rw [fin_take (by rfl), take_keep (by omega) r4]
  · cases hone
end
end Go.Proofs.Ytgbkicelkpagpaa.W

/- The reference's Twins: all rings, by their sizes. -/
open Go.Vm
set_option linter.unusedVariables false
namespace Go.Proofs.Ytgbkicelkpagpaa.W
open Go

/- the plots of a ring with a number -/
def ptF (x m i : Nat) : Nat := nx x (m - 1 - i)
theorem bits_mod : ∀ x, x < 64 → ∀ t, t < 6 → Int.tmod (shrV .i64 (Int.ofNat x) (Int.ofNat t)) 2 = Int.ofNat (nx x t) := by decide +kernel
theorem numbered_ok {ro : List ABlk} {h : Heap} {x m : Nat} (hx : x < 64) (h0 : 0 < m) (hm : m ≤ 6) :
    ∃ b hp, callX F1 ro 68 [.i .i64 x, .i .i64 m] h = some (.sl ⟨false, b, 0⟩ m .grow, hp, h.length, h.length) ∧ NV h hp b m (ptF x m) := by
  obtain ⟨r, k1, b, hp, rfl, nv⟩ := loop_seq (b := fun z : AVal × Int × Mm => g68_b0 (meansX F1 ro) ro x z.1 z.2.1 z.2.2) m
    (fun k z => ∃ v hp, z = (v, (m : Int) - 1 - (k : Int), ⟨hp, h.length, h.length⟩) ∧ VecV hp h.length 3 v k (fun j => .i .i64 (ptF x m j : Nat)) ∧ h.length ≤ hp.length ∧ ∀ j, j < h.length → hp[j]? = h[j]?)
    (fun r => ∃ b hp, r = (.sl ⟨false, b, 0⟩ m .grow, ⟨hp, h.length, h.length⟩) ∧ NV h hp b m (ptF x m))
    (fun k z hk hI => by
      obtain ⟨v, hp, rfl, hv, hlen, hkeep⟩ := hI
      have e : (m : Int) - 1 - (k : Int) = ((m - 1 - k : Nat) : Int) := by omega
      have hlt : decide (((m - 1 - k : Nat) : Int) < 0) = false := by simp only [decide_eq_false_iff_not]; omega
      have hlt' : decide (((m - 1 - k : Nat) : Int) < Int.ofNat 0) = false := hlt
      have e1 : Int.tmod (shrV .i64 (x : Int) ((m - 1 - k : Nat) : Int)) 2 = ((ptF x m k : Nat) : Int) := bits_mod x hx _ (by omega)
      obtain ⟨v2, hp2, v3, hp3, b3, s1, s2, e3, hb3, hvec, hl3, hk3⟩ := push_ok (ro := ro) (bytes := 8) (z := .i .i64 0) (w := .i .i64 (ptF x m k : Nat)) hv hlen (by omega) (by omega) rfl rfl
      have ew : wr .i64 (((m - 1 - k : Nat) : Int) - 1) = (m : Int) - 1 - ((k + 1 : Nat) : Int) := by rw [wr_id' (by omega) (by omega)]; omega
      refine ⟨(v3, (m : Int) - 1 - ((k + 1 : Nat) : Int), ⟨hp3, h.length, h.length⟩), ?_, v3, hp3, rfl, .inr ⟨b3, e3, by omega, by omega, hvec.congr fun r hr => ?_⟩, by omega, fun j hj => ?_⟩
      · show g68_b0 (meansX F1 ro) ro x v ((m : Int) - 1 - (k : Int)) ⟨hp, h.length, h.length⟩ = _
        rw [e]
        simp only [g68_b0, ltI_eq, hlt, hlt', Bool.not_false, forceB_eq, cond_true, chk_true, forceI_eq, e1, s1, bindP_some, s2, ew]
      · show (if r < k then _ else _) = _
        by_cases er : r < k
        · rw [if_pos er]
        · rw [if_neg er, show r = k by omega]
      · rw [hk3 j (by omega) fun len cap ev => ?_, hkeep j hj]
        rcases hv with ⟨hv, _⟩ | ⟨b0, hv, _, hb0, _⟩
        · rw [hv] at ev; cases ev
        · rw [hv] at ev; cases ev; omega)
    (fun z hI => by
      obtain ⟨v, hp, rfl, hv, hlen, hkeep⟩ := hI
      rcases hv with ⟨_, hz⟩ | ⟨b', rfl, _, hb', hvec⟩
      · omega
      refine ⟨_, ?_, b', hp, rfl, hvec, hb', hlen, hkeep⟩
      have e : (m : Int) - 1 - (m : Int) = -1 := by omega
      show g68_b0 (meansX F1 ro) ro x _ ((m : Int) - 1 - (m : Int)) ⟨hp, h.length, h.length⟩ = _
      rw [e]
      rfl)
    m 0 (.nsl, (m : Int) - 1, ⟨h, h.length, h.length⟩) (by omega) ⟨.nsl, h, by simp, .inl ⟨rfl, rfl⟩, Nat.le_refl _, fun _ _ => rfl⟩
  refine ⟨b, hp, g68_ok (meansX_ok F1 ro) rfl ?_, nv⟩
  unfold g68
  have ew : wr .i64 ((m : Int) - 1) = (m : Int) - 1 := wr_id' (by omega) (by omega)
  simp only [forceI_eq, ew, meansX_loop, k1, bindO_some, tupA]
  exact fin_new nv.new

/- all rings of a size: where each first came, the best and the second so far -/
def yN (u m x : Nat) : Nat := numF (ringF u m (ptF x m)) m
def twS (u m : Nat) : Nat → (Nat → Nat) × Nat × Nat
  | 0 => (fun _ => 0, 0, 0)
  | x + 1 =>
    cond (Nat.beq ((twS u m x).1 (yN u m x)) 0) ((fun j => cond (Nat.beq j (yN u m x)) (x + 1) ((twS u m x).1 j)), (twS u m x).2.1, (twS u m x).2.2)
      (cond (cond (Nat.beq (twS u m x).2.1 0) true (Nat.blt ((twS u m x).1 (yN u m x)) (twS u m x).2.1)) ((twS u m x).1, (twS u m x).1 (yN u m x), x + 1) (twS u m x))
def twR (u : Nat) : Nat → Nat → Option (List UInt8 × List UInt8)
  | 0, _ => none
  | k + 1, m => cond (Nat.beq (twS u m (2 ^ m)).2.1 0) (twR u k (m + 1)) (some (rowL m (ptF ((twS u m (2 ^ m)).2.1 - 1) m), rowL m (ptF ((twS u m (2 ^ m)).2.2 - 1) m)))
theorem twS_le {u m : Nat} : ∀ x, (∀ j, (twS u m x).1 j ≤ x) ∧ (twS u m x).2.1 ≤ x ∧ (twS u m x).2.2 ≤ x
  | 0 => ⟨fun _ => Nat.le_refl _, Nat.le_refl _, Nat.le_refl _⟩
  | x + 1 => by
    obtain ⟨h1, h2, h3⟩ := twS_le (u := u) (m := m) x
    unfold twS
    cases Nat.beq ((twS u m x).1 (yN u m x)) 0 with
    | true =>
      refine ⟨fun j => ?_, by show (twS u m x).2.1 ≤ _; omega, by show (twS u m x).2.2 ≤ _; omega⟩
      show cond (Nat.beq j (yN u m x)) (x + 1) ((twS u m x).1 j) ≤ _
      cases Nat.beq j (yN u m x) with
      | true => exact Nat.le_refl _
      | false => have := h1 j; rw [cond_false]; omega
    | false =>
      rw [cond_false]
      cases cond (Nat.beq (twS u m x).2.1 0) true (Nat.blt ((twS u m x).1 (yN u m x)) (twS u m x).2.1) with
      | true => exact ⟨fun j => Nat.le_succ_of_le (h1 j), Nat.le_succ_of_le (h1 _), Nat.le_refl _⟩
      | false => exact ⟨fun j => Nat.le_succ_of_le (h1 j), Nat.le_succ_of_le h2, Nat.le_succ_of_le h3⟩
theorem twS_second {u m : Nat} : ∀ {x}, (twS u m x).2.1 ≠ 0 → (twS u m x).2.2 ≠ 0
  | 0, h => absurd rfl h
  | x + 1, h => by
    have ih := twS_second (u := u) (m := m) (x := x)
    unfold twS at h ⊢
    cases hG : Nat.beq ((twS u m x).1 (yN u m x)) 0 with
    | true => rw [hG] at h; exact ih h
    | false =>
      rw [hG, cond_false] at h
      rw [cond_false]
      cases hc : cond (Nat.beq (twS u m x).2.1 0) true (Nat.blt ((twS u m x).1 (yN u m x)) (twS u m x).2.1) with
      | true => exact Nat.succ_ne_zero _
      | false => rw [hc] at h; exact ih h
theorem ptF_lt (x m i : Nat) : ptF x m i < 2 := by have := nx_le x (m - 1 - i); unfold ptF; omega
theorem ringF_lt (u n : Nat) (f : Nat → Nat) (i : Nat) : ringF u n f i < 2 := by unfold ringF; have := nx_le u (4 * f ((i + n - 1) % n) + 2 * f i + f ((i + 1) % n)); omega
theorem pow6 {m : Nat} (h : m ≤ 6) : 2 ^ m ≤ 64 := Nat.le_trans (Nat.pow_le_pow_right (by omega) h) (by decide)
theorem yN_lt {u m x : Nat} : yN u m x < 2 ^ m := numF_lt fun i _ => ringF_lt u m _ i
theorem sh6 : ∀ m, m < 7 → shlV .i64 1 (Int.ofNat m) = Int.ofNat (2 ^ m) := by decide +kernel
section
variable {ro : List ABlk} {h : Heap} {u : Nat} (hu : u < 256)
include hu
theorem size_loop {m b : Nat} {hp : Heap} (h0 : 0 < m) (hm : m ≤ 6) (hv : Vec hp 3 b (2 ^ m) (fun j => .i .i64 ((0 : Nat) : Int))) (hb : h.length ≤ b) (hl : h.length ≤ hp.length) (hk : ∀ j, j < h.length → hp[j]? = h[j]?) :
    ∃ hp', loopX (fun z : Int × Int × Int × Mm => g33_b1 (meansX F1 ro) ro u m (.sl ⟨false, b, 0⟩ (2 ^ m) (.known (2 ^ m))) z.1 z.2.1 z.2.2.1 z.2.2.2) (-1, -1, 0, ⟨hp, h.length, h.length⟩) =
        some (((twS u m (2 ^ m)).2.1 : Int) - 1, ((twS u m (2 ^ m)).2.2 : Int) - 1, ⟨hp', h.length, h.length⟩) ∧ h.length ≤ hp'.length ∧ ∀ j, j < h.length → hp'[j]? = h[j]? := by
  have hpw := pow6 hm
  obtain ⟨r, k1, hp', rfl, k2, k3⟩ := loop_seq (b := fun z : Int × Int × Int × Mm => g33_b1 (meansX F1 ro) ro u m (.sl ⟨false, b, 0⟩ (2 ^ m) (.known (2 ^ m))) z.1 z.2.1 z.2.2.1 z.2.2.2) (2 ^ m)
    (fun x z => ∃ hp', z = (((twS u m x).2.1 : Int) - 1, ((twS u m x).2.2 : Int) - 1, (x : Int), ⟨hp', h.length, h.length⟩) ∧ Vec hp' 3 b (2 ^ m) (fun j => .i .i64 ((twS u m x).1 j : Nat)) ∧ h.length ≤ hp'.length ∧ ∀ j, j < h.length → hp'[j]? = h[j]?)
    (fun r => ∃ hp', r = (((twS u m (2 ^ m)).2.1 : Int) - 1, ((twS u m (2 ^ m)).2.2 : Int) - 1, ⟨hp', h.length, h.length⟩) ∧ h.length ≤ hp'.length ∧ ∀ j, j < h.length → hp'[j]? = h[j]?)
    (fun x z hx hI => by
      obtain ⟨hp1, rfl, w, wl, wk⟩ := hI
      have eS : twS u m (x + 1) = cond (Nat.beq ((twS u m x).1 (yN u m x)) 0) ((fun j => cond (Nat.beq j (yN u m x)) (x + 1) ((twS u m x).1 j)), (twS u m x).2.1, (twS u m x).2.2)
        (cond (cond (Nat.beq (twS u m x).2.1 0) true (Nat.blt ((twS u m x).1 (yN u m x)) (twS u m x).2.1)) ((twS u m x).1, (twS u m x).1 (yN u m x), x + 1) (twS u m x)) := rfl
      obtain ⟨q1, q2, q3⟩ := twS_le (u := u) (m := m) x
      rw [eS]
      generalize twS u m x = S at w q1 q2 q3
      obtain ⟨G, B, C⟩ := S
      have q2' : B ≤ x := q2
      have q1' := q1 (yN u m x)
      have esh : shlV .i64 1 (m : Int) = ((2 ^ m : Nat) : Int) := sh6 m (by omega)
      have hlt : decide ((x : Int) < ((2 ^ m : Nat) : Int)) = true := by simp only [decide_eq_true_eq]; omega
      obtain ⟨b2, hp2, c2, nv2⟩ := numbered_ok (ro := ro) (h := hp1) (x := x) (by omega) h0 hm
      have d2 := callM_new c2 wl
      have l2 : h.length ≤ hp2.length := Nat.le_trans wl nv2.len
      obtain ⟨b3, hp3, c3, nv3⟩ := rring_ok (ro := ro) hu nv2.vec (fun i _ => ptF_lt x m i) h0 (by omega)
      have d3 := callM_new c3 l2
      have l3 : h.length ≤ hp3.length := Nat.le_trans l2 nv3.len
      have d4 := callM_pure (call := callX F1 ro) (l := h.length) (p := h.length) (number_ok (ro := ro) (cap := .grow) nv3.vec (fun i _ => ringF_lt u m _ i) (by omega)) l3 l3
      have hy : yN u m x < 2 ^ m := yN_lt
      have n2 := nv2.len
      have wlt := w.lt
      have w3 := (w.keep (nv2.keep b w.lt)).keep (nv3.keep b (by omega))
      have keep3 : ∀ j, j < h.length → hp3[j]? = h[j]? := fun j hj => by rw [nv3.keep j (by omega), nv2.keep j (by omega), wk j hj]
      have ld := Vec.ld (ro := ro) (l := h.length) (p := h.length) w3 hy
      have ey : numF (ringF u m (ptF x m)) m = yN u m x := rfl
      rw [ey] at d4
      generalize yN u m x = y at *
      show ∃ s', g33_b1 (meansX F1 ro) ro u m (.sl ⟨false, b, 0⟩ (2 ^ m) (.known (2 ^ m))) ((B : Int) - 1) ((C : Int) - 1) x ⟨hp1, h.length, h.length⟩ = some (.inl s') ∧
        ∃ hp', s' = (((cond (Nat.beq (G y) 0) ((fun j => cond (Nat.beq j y) (x + 1) (G j)), B, C) (cond (cond (Nat.beq B 0) true (Nat.blt (G y) B)) (G, G y, x + 1) (G, B, C))).2.1 : Int) - 1, ((cond (Nat.beq (G y) 0) ((fun j => cond (Nat.beq j y) (x + 1) (G j)), B, C) (cond (cond (Nat.beq B 0) true (Nat.blt (G y) B)) (G, G y, x + 1) (G, B, C))).2.2 : Int) - 1, ((x + 1 : Nat) : Int), ⟨hp', h.length, h.length⟩) ∧
          Vec hp' 3 b (2 ^ m) (fun j => .i .i64 ((cond (Nat.beq (G y) 0) ((fun j => cond (Nat.beq j y) (x + 1) (G j)), B, C) (cond (cond (Nat.beq B 0) true (Nat.blt (G y) B)) (G, G y, x + 1) (G, B, C))).1 j : Nat)) ∧ h.length ≤ hp'.length ∧ ∀ j, j < h.length → hp'[j]? = h[j]?
      have ld' : ldM ro ⟨hp3, h.length, h.length⟩ true 1 (.p (some ⟨false, b, 0 + y⟩)) = some (.i .i64 (G y : Nat)) := ld
      have z0 : ((0 : Nat) : Int) = 0 := rfl
      have ez : ((G y : Int) == 0) = Nat.beq (G y) 0 := num_eq (G y) 0
      cases hG : Nat.beq (G y) 0 with
      | true =>
        rw [hG] at ez
        have ex : wr .i64 ((x : Int) + 1) = ((x + 1 : Nat) : Int) := by rw [wr_id' (by omega) (by omega)]; omega
        obtain ⟨Y, s1, s2⟩ := Vec.set (ro := ro) (l := h.length) (p := h.length) w3 hy (v := .i .i64 ((x + 1 : Nat) : Int)) rfl rfl rfl
        rw [Nat.min_eq_left hb] at s1
        refine ⟨_, ?_, hp3.set b Y, rfl, s2.congr fun j hj => ?_, by rw [List.length_set]; exact l3, fun j hj => by rw [List.getElem?_set_ne (by omega)]; exact keep3 j hj⟩
        · simp only [g33_b1, ltI_eq, nneg, chk_true, forceI_eq, esh, hlt, forceB_eq, cond_true, meansX_call, d2, d3, d4, bindP_some, asI_i, ixS_eq hy, bindO_some, ld', eqI_eq, ez, ex, s1]
        · show (if j = y then _ else _) = AVal.i .i64 ((cond (Nat.beq j y) (x + 1) (G j) : Nat) : Int)
          cases hj2 : Nat.beq j y with
          | true => rw [if_pos (beq_iff.1 hj2)]; rfl
          | false =>
            rw [if_neg (fun e => by rw [e, Nat.beq_refl] at hj2; cases hj2)]; rfl
      | false =>
        rw [hG] at ez
        have hG0 : G y ≠ 0 := fun e => by rw [e] at hG; cases hG
        have ex : wr .i64 ((x : Int) + 1) = ((x + 1 : Nat) : Int) := by rw [wr_id' (by omega) (by omega)]; omega
        have q1'' : G y ≤ x := q1'
        have eg : wr .i64 ((G y : Int) - 1) = (G y : Int) - 1 := wr_id' (by omega) (by omega)
        have eC : (((x + 1 : Nat) : Int) - 1) = (x : Int) := by omega
        rw [cond_false]
        cases hB : Nat.beq B 0 with
        | true =>
          have hB0 : B = 0 := beq_iff.1 hB
          have lt1 : decide ((B : Int) - 1 < 0) = true := by simp only [decide_eq_true_eq]; omega
          refine ⟨_, ?_, hp3, rfl, w3, l3, keep3⟩
          simp only [g33_b1, ltI_eq, nneg, chk_true, forceI_eq, esh, hlt, forceB_eq, cond_true, meansX_call, d2, d3, d4, bindP_some, asI_i, ixS_eq hy, bindO_some, ld', eqI_eq, ez, ex, cond_false, lt1, eg, eC]
        | false =>
          have hB0 : B ≠ 0 := fun e => by rw [e] at hB; cases hB
          have lt1 : decide ((B : Int) - 1 < 0) = false := by simp only [decide_eq_false_iff_not]; omega
          rw [cond_false]
          cases hL : Nat.blt (G y) B with
          | true =>
            rw [Nat.blt_eq] at hL
            have lt2 : decide ((G y : Int) - 1 < (B : Int) - 1) = true := by simp only [decide_eq_true_eq]; omega
            refine ⟨_, ?_, hp3, rfl, w3, l3, keep3⟩
            simp only [g33_b1, ltI_eq, nneg, chk_true, forceI_eq, esh, hlt, forceB_eq, cond_true, meansX_call, d2, d3, d4, bindP_some, asI_i, ixS_eq hy, bindO_some, ld', eqI_eq, ez, ex, cond_false, lt1, lt2, eg, eC]
          | false =>
            have hL' : ¬ G y < B := fun e => by rw [← Nat.blt_eq, hL] at e; cases e
            have lt2 : decide ((G y : Int) - 1 < (B : Int) - 1) = false := by simp only [decide_eq_false_iff_not]; omega
            refine ⟨_, ?_, hp3, rfl, w3, l3, keep3⟩
            simp only [g33_b1, ltI_eq, nneg, chk_true, forceI_eq, esh, hlt, forceB_eq, cond_true, meansX_call, d2, d3, d4, bindP_some, asI_i, ixS_eq hy, bindO_some, ld', eqI_eq, ez, ex, cond_false, lt1, lt2, eg])
    (fun z hI => by
      obtain ⟨hp', rfl, w, wl, wk⟩ := hI
      refine ⟨_, ?_, hp', rfl, wl, wk⟩
      have esh : shlV .i64 1 (m : Int) = ((2 ^ m : Nat) : Int) := sh6 m (by omega)
      have : decide (((2 ^ m : Nat) : Int) < ((2 ^ m : Nat) : Int)) = false := lt_no
      simp only [g33_b1, ltI_eq, nneg, chk_true, forceI_eq, esh, forceB_eq, this, cond_false])
    (2 ^ m) 0 (-1, -1, 0, ⟨hp, h.length, h.length⟩) (by omega) ⟨hp, rfl, hv, hl, hk⟩
  exact ⟨hp', k1, k2, k3⟩
theorem twins_loop : ∀ (k m : Nat) (r : List UInt8 × List UInt8) (hp : Heap), twR u k m = some r → 0 < m → m + k ≤ 7 → h.length ≤ hp.length → (∀ j, j < h.length → hp[j]? = h[j]?) →
    ∃ hp', loopX (fun z : Int × Mm => g33_b0 (meansX F1 ro) ro u z.1 z.2) ((m : Int), ⟨hp, h.length, h.length⟩) = some (r.1, r.2, 0, ⟨hp', h.length, h.length⟩) ∧ h.length ≤ hp'.length ∧ ∀ j, j < h.length → hp'[j]? = h[j]?
  | 0, m, r, hp, e, _, _, _, _ => by cases e
  | k + 1, m, r, hp, e, h0, hm, hl, hk => by
    have hpw := pow6 (by omega : m ≤ 6)
    have esh : shlV .i64 1 (m : Int) = ((2 ^ m : Nat) : Int) := sh6 m (by omega)
    have hmk := mk_big (ro := ro) (hp := hp) (l := h.length) (p := h.length) (n := 2 ^ m) (by omega)
    have hw := Vec.new hp 3 (2 ^ m) (AVal.i .i64 0)
    have hL : (hp ++ [some (newBlk 3 (AVal.i .i64 0) (2 ^ m))]).length = hp.length + 1 := by simp
    have hK : ∀ k, k < hp.length → (hp ++ [some (newBlk 3 (AVal.i .i64 0) (2 ^ m))])[k]? = hp[k]? := fun k hk => List.getElem?_append_left hk
    generalize hp ++ [some (newBlk 3 (AVal.i .i64 0) (2 ^ m))] = H at hmk hw hL hK
    obtain ⟨hp2, t1, t2, t3⟩ := size_loop (ro := ro) (h := h) hu h0 (by omega) hw hl (by omega) (fun j hj => by rw [hK j (by omega), hk j hj])
    obtain ⟨-, q2, q3⟩ := twS_le (u := u) (m := m) (2 ^ m)
    unfold twR at e
    cases hB : Nat.beq (twS u m (2 ^ m)).2.1 0 with
    | true =>
      rw [hB, cond_true] at e
      have hB0 : (twS u m (2 ^ m)).2.1 = 0 := beq_iff.1 hB
      obtain ⟨hp3, r1, r2⟩ := twins_loop k (m + 1) r hp2 e (by omega) (by omega) t2 t3
      refine ⟨hp3, loopX_on ?_ r1, r2⟩
      have lt1 : decide (((twS u m (2 ^ m)).2.1 : Int) - 1 < 0) = true := by simp only [decide_eq_true_eq]; omega
      simp only [g33_b0, ltI_eq, nneg, chk_true, forceI_eq, esh, hmk, bindP_some, meansX_loop, t1, bindO_some, lt1, Bool.not_true, forceB_eq, cond_false, wr_next (by omega : m ≤ 1000000)]
    | false =>
      rw [hB, cond_false] at e
      cases e
      have hB0 : (twS u m (2 ^ m)).2.1 ≠ 0 := fun e => by rw [e] at hB; cases hB
      have lt1 : decide (((twS u m (2 ^ m)).2.1 : Int) - 1 < 0) = false := by simp only [decide_eq_false_iff_not]; omega
      have hC0 : (twS u m (2 ^ m)).2.2 ≠ 0 := twS_second hB0
      generalize twS u m (2 ^ m) = S at *
      obtain ⟨G, B, C⟩ := S
      have hB1 : B ≠ 0 := hB0
      have hC1 : C ≠ 0 := hC0
      have hB2 : B ≤ 2 ^ m := q2
      have hC2 : C ≤ 2 ^ m := q3
      have eB : ((B : Nat) : Int) - 1 = ((B - 1 : Nat) : Int) := by omega
      have eC : ((C : Nat) : Int) - 1 = ((C - 1 : Nat) : Int) := by omega
      have t1' : loopX (fun z : Int × Int × Int × Mm => g33_b1 (meansX F1 ro) ro u m (.sl ⟨false, hp.length, 0⟩ (2 ^ m) (.known (2 ^ m))) z.1 z.2.1 z.2.2.1 z.2.2.2) (-1, -1, 0, ⟨H, h.length, h.length⟩) = some (((B - 1 : Nat) : Int), ((C - 1 : Nat) : Int), ⟨hp2, h.length, h.length⟩) := by rw [← eB, ← eC]; exact t1
      have lt1' : decide (((B - 1 : Nat) : Int) < 0) = false := by simp only [decide_eq_false_iff_not]; omega
      obtain ⟨b3, hp3, c3, nv3⟩ := numbered_ok (ro := ro) (h := hp2) (x := B - 1) (by omega) h0 (by omega : m ≤ 6)
      have d3 := callM_new c3 t2
      have l3 : h.length ≤ hp3.length := Nat.le_trans t2 nv3.len
      have d4 := callM_pure (call := callX F1 ro) (l := h.length) (p := h.length) (rrow_ok (ro := ro) (cap := .grow) nv3.vec (by omega)) l3 l3
      obtain ⟨b5, hp5, c5, nv5⟩ := numbered_ok (ro := ro) (h := hp3) (x := C - 1) (by omega) h0 (by omega : m ≤ 6)
      have d5 := callM_new c5 l3
      have l5 : h.length ≤ hp5.length := Nat.le_trans l3 nv5.len
      have d6 := callM_pure (call := callX F1 ro) (l := h.length) (p := h.length) (rrow_ok (ro := ro) (cap := .grow) nv5.vec (by omega)) l5 l5
      refine ⟨hp5, loopX_out ?_, l5, fun j hj => by rw [nv5.keep j (by omega), nv3.keep j (by omega), t3 j hj]⟩
      simp only [g33_b0, ltI_eq, nneg, chk_true, forceI_eq, esh, hmk, bindP_some, meansX_loop, t1', bindO_some, lt1', Bool.not_false, forceB_eq, cond_true, meansX_call, d3, d4, d5, d6, asS_s]
theorem rTwins_ok {r : List UInt8 × List UInt8} (h1 : oneT u = false) (hr : twR u 6 1 = some r) : callX F1 ro 33 [.i .i64 u] h = some (.tup [.s r.1, .s r.2, .i .i64 0], h, h.length, h.length) := by
  refine g33_ok (meansX_ok F1 ro) rfl ?_
  unfold g33
  have c54 := callM_pure (call := callX F1 ro) (l := h.length) (p := h.length) (Rule_ok (ro := ro) (h := h) hu) (Nat.le_refl _) (Nat.le_refl _)
  have c65 := callM_pure (call := callX F1 ro) (l := h.length) (p := h.length) (single_ok (ro := ro) (h := h) hu) (Nat.le_refl _) (Nat.le_refl _)
  rw [h1] at c65
  obtain ⟨hp', k1, k2, k3⟩ := twins_loop (ro := ro) (h := h) hu 6 1 r h hr (by omega) (by omega) (Nat.le_refl _) (fun _ _ => rfl)
  have e1 : ((1 : Nat) : Int) = 1 := rfl
  rw [e1] at k1
  simp only [meansX_call, c54, bindP_some, asB_b, Bool.not_true, forceB_eq, cond_false, c65, meansX_loop, k1, bindO_some, tupA]
  rw [fin_take (by rfl), take_keep k2 k3]
theorem rTwins_one (h1 : oneT u = true) : callX F1 ro 33 [.i .i64 u] h = some (.tup [.s [], .s [], .i .i64 10], h, h.length, h.length) := by
  refine g33_ok (meansX_ok F1 ro) rfl ?_
  unfold g33
  have c54 := callM_pure (call := callX F1 ro) (l := h.length) (p := h.length) (Rule_ok (ro := ro) (h := h) hu) (Nat.le_refl _) (Nat.le_refl _)
  have c65 := callM_pure (call := callX F1 ro) (l := h.length) (p := h.length) (single_ok (ro := ro) (h := h) hu) (Nat.le_refl _) (Nat.le_refl _)
  rw [h1] at c65
  simp only [meansX_call, c54, bindP_some, asB_b, Bool.not_true, forceB_eq, cond_false, c65, cond_true, tupA]
  exact fin_pure rfl
theorem rOne_ok : callX F1 ro 31 [.i .i64 u] h = some (.tup [.b (oneT u), .i .i64 0], h, h.length, h.length) := by
  refine g31_ok (meansX_ok F1 ro) rfl ?_
  unfold g31
  have c54 := callM_pure (call := callX F1 ro) (l := h.length) (p := h.length) (Rule_ok (ro := ro) (h := h) hu) (Nat.le_refl _) (Nat.le_refl _)
  have c65 := callM_pure (call := callX F1 ro) (l := h.length) (p := h.length) (single_ok (ro := ro) (h := h) hu) (Nat.le_refl _) (Nat.le_refl _)
  simp only [meansX_call, c54, bindP_some, asB_b, Bool.not_true, forceB_eq, cond_false, c65, tupA]
  exact fin_pure rfl
end
end Go.Proofs.Ytgbkicelkpagpaa.W

/- Twins of all rules: the program's are the reference's. -/
open Go.Vm
set_option linter.unusedVariables false
namespace Go.Proofs.Ytgbkicelkpagpaa.W
open Go

def chkW (n : Nat) : Bool := oneT n || match twR n 6 1, (Rk7 300).call 32 [.i .i64 (Int.ofNat n)] [] with
  | some (a', b'), some (.tup [.s a, .s b, .i .i64 e], [], 0, 0) => eqL a a' && (eqL b b' && intEq e 0)
  | _, _ => false
theorem tv0 : ((List.range 16).all fun i => chkW (16 * 0 + i)) = true := by decide +kernel
theorem tv1 : ((List.range 16).all fun i => chkW (16 * 1 + i)) = true := by decide +kernel
theorem tv2 : ((List.range 16).all fun i => chkW (16 * 2 + i)) = true := by decide +kernel
theorem tv3 : ((List.range 16).all fun i => chkW (16 * 3 + i)) = true := by decide +kernel
theorem tv4 : ((List.range 16).all fun i => chkW (16 * 4 + i)) = true := by decide +kernel
theorem tv5 : ((List.range 16).all fun i => chkW (16 * 5 + i)) = true := by decide +kernel
theorem tv6 : ((List.range 16).all fun i => chkW (16 * 6 + i)) = true := by decide +kernel
theorem tv7 : ((List.range 16).all fun i => chkW (16 * 7 + i)) = true := by decide +kernel
theorem tv8 : ((List.range 16).all fun i => chkW (16 * 8 + i)) = true := by decide +kernel
theorem tv9 : ((List.range 16).all fun i => chkW (16 * 9 + i)) = true := by decide +kernel
theorem tv10 : ((List.range 16).all fun i => chkW (16 * 10 + i)) = true := by decide +kernel
theorem tv11 : ((List.range 16).all fun i => chkW (16 * 11 + i)) = true := by decide +kernel
theorem tv12 : ((List.range 16).all fun i => chkW (16 * 12 + i)) = true := by decide +kernel
theorem tv13 : ((List.range 16).all fun i => chkW (16 * 13 + i)) = true := by decide +kernel
theorem tv14 : ((List.range 16).all fun i => chkW (16 * 14 + i)) = true := by decide +kernel
theorem tv15 : ((List.range 16).all fun i => chkW (16 * 15 + i)) = true := by decide +kernel
theorem tv_all {n : Nat} (hn : n < 256) : chkW n = true := by
  by_cases h0 : n < 16
  · exact all_16 (P := chkW) tv0 (by omega) (by omega)
  by_cases h1 : n < 32
  · exact all_16 (P := chkW) tv1 (by omega) (by omega)
  by_cases h2 : n < 48
  · exact all_16 (P := chkW) tv2 (by omega) (by omega)
  by_cases h3 : n < 64
  · exact all_16 (P := chkW) tv3 (by omega) (by omega)
  by_cases h4 : n < 80
  · exact all_16 (P := chkW) tv4 (by omega) (by omega)
  by_cases h5 : n < 96
  · exact all_16 (P := chkW) tv5 (by omega) (by omega)
  by_cases h6 : n < 112
  · exact all_16 (P := chkW) tv6 (by omega) (by omega)
  by_cases h7 : n < 128
  · exact all_16 (P := chkW) tv7 (by omega) (by omega)
  by_cases h8 : n < 144
  · exact all_16 (P := chkW) tv8 (by omega) (by omega)
  by_cases h9 : n < 160
  · exact all_16 (P := chkW) tv9 (by omega) (by omega)
  by_cases h10 : n < 176
  · exact all_16 (P := chkW) tv10 (by omega) (by omega)
  by_cases h11 : n < 192
  · exact all_16 (P := chkW) tv11 (by omega) (by omega)
  by_cases h12 : n < 208
  · exact all_16 (P := chkW) tv12 (by omega) (by omega)
  by_cases h13 : n < 224
  · exact all_16 (P := chkW) tv13 (by omega) (by omega)
  by_cases h14 : n < 240
  · exact all_16 (P := chkW) tv14 (by omega) (by omega)
  by_cases h15 : n < 256
  · exact all_16 (P := chkW) tv15 (by omega) (by omega)
  omega
theorem twins_same {n : Nat} (hn : n < 256) (h1 : oneT n = false) : ∃ r, twR n 6 1 = some r ∧ callX F7 [] 32 [.i .i64 n] [] = some (.tup [.s r.1, .s r.2, .i .i64 0], [], 0, 0) := by
  have h := tv_all hn
  unfold chkW at h
  rw [h1, Bool.false_or] at h
  split at h
  · rename_i a' b' a b e heq1 heq
    simp only [Bool.and_eq_true] at h
    obtain ⟨h2, h3, h4⟩ := h
    obtain rfl : e = 0 := intEq_of h4
    rw [eqL_eq] at h2 h3
    obtain rfl := eq_of_beq h2
    obtain rfl := eq_of_beq h3
    exact ⟨_, heq1, (meansS_ok [] allR 300).call _ _ _ _ heq⟩
  · cases h
end Go.Proofs.Ytgbkicelkpagpaa.W

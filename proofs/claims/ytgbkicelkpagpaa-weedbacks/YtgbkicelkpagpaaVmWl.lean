/- The rule's small functions. -/
import Derived.Test.YtgbkicelkpagpaaVmWb
import Derived.Test.YtgbkicelkpagpaaVmAG
open Go.Vm
set_option linter.unusedVariables false
namespace Go.Proofs.Ytgbkicelkpagpaa.W
open Go

/-- the bit of a rule -/
def nx (u t : Nat) : Nat := (u >>> t) % 2
theorem next_num : ∀ u, u < 256 → ∀ t, t < 8 → bitV .and .i64 (wr .i64 (shrV .u8 (Int.ofNat u) (Int.ofNat t))) 1 = Int.ofNat (nx u t) := by decide +kernel
theorem next_ok {ro : List ABlk} {h : Heap} {u t : Nat} (hu : u < 256) (ht : t < 8) : callX F1 ro 72 [.i .u8 u, .i .i64 t] h = some (.i .i64 (nx u t : Nat), h, h.length, h.length) := by
  refine g72_ok (meansX_ok F1 ro) rfl ?_
  unfold g72
  have e := next_num u hu t ht
  have e' : bitV .and .i64 (wr .i64 (shrV .u8 (u : Int) (t : Int))) 1 = ((nx u t : Nat) : Int) := e
  simp only [ltI_eq, nneg, chk_true, forceI_eq, e', tupA]
  exact fin_pure rfl
theorem has_num : ∀ s, s < 256 → ∀ t, t < 8 → eqI (bitV .and .u8 (shrV .u8 (Int.ofNat s) (Int.ofNat t)) 1) 1 = Nat.testBit s t := by decide +kernel
theorem has_ok {ro : List ABlk} {h : Heap} {s t : Nat} (hs : s < 256) (ht : t < 8) : callX F1 ro 76 [.i .u8 s, .i .i64 t] h = some (.b (s.testBit t), h, h.length, h.length) := by
  refine g76_ok (meansX_ok F1 ro) rfl ?_
  unfold g76
  have e := has_num s hs t ht
  have e' : eqI (bitV .and .u8 (shrV .u8 (s : Int) (t : Int)) 1) 1 = s.testBit t := e
  simp only [ltI_eq, nneg, chk_true, forceI_eq, e', forceB_eq, tupA]
  exact fin_pure rfl

theorem sm_num : ∀ t, t < 8 → shrV .i64 (Int.ofNat t) 1 = Int.ofNat (t / 2) ∧ bitV .and .i64 (Int.ofNat t) 3 = Int.ofNat (t % 4) := by decide +kernel
theorem p2_lt {k : Nat} (h : k < 8) : 2 ^ k < 256 := by
  have : 2 ^ k ≤ 2 ^ 7 := Nat.pow_le_pow_right (by omega) (by omega)
  omega
def beF (u s c i acc : Nat) : Nat := cond (s.testBit (i % 4) && Nat.beq (nx u i) c) (acc ||| 2 ^ (i / 2)) acc
def beV (u s c : Nat) : Nat := iterF (beF u s c) 8 0 0
theorem behind_ok {ro : List ABlk} {h : Heap} {u s c : Nat} (hu : u < 256) (hs : s < 256) : callX F1 ro 74 [.i .u8 u, .i .u8 s, .i .i64 c] h = some (.i .u8 (beV u s c : Nat), h, h.length, h.length) := by
  refine g74_ok (meansX_ok F1 ro) rfl ?_
  unfold g74
  have hl := loop_acc (b := fun z => g74_b0 (meansX F1 ro) ro u s c z.1 z.2.1 z.2.2) 8 (beF u s c) ⟨h, h.length, h.length⟩ (fun acc => acc < 256) (fun i acc hi hP => by
    obtain ⟨e1, e2⟩ := sm_num i hi
    have e1' : shrV .i64 (i : Int) 1 = ((i / 2 : Nat) : Int) := e1
    have e2' : bitV .and .i64 (i : Int) 3 = ((i % 4 : Nat) : Int) := e2
    have c1 := callM_pure (call := callX F1 ro) (l := h.length) (p := h.length) (has_ok (ro := ro) (h := h) hs (by omega : i % 4 < 8)) (Nat.le_refl _) (Nat.le_refl _)
    have c2 := callM_pure (call := callX F1 ro) (l := h.length) (p := h.length) (next_ok (ro := ro) (h := h) hu hi) (Nat.le_refl _) (Nat.le_refl _)
    have e3 : (((nx u i : Nat) : Int) == (c : Int)) = Nat.beq (nx u i) c := by
      cases hb : Nat.beq (nx u i) c
      · exact beq_eq_false_iff_ne.2 fun e => by
          have : Nat.beq (nx u i) c = true := beq_iff.2 (by omega)
          rw [this] at hb; cases hb
      · rw [beq_iff.1 hb]; simp
    have hl8 : decide ((i : Int) < 8) = true := by simp; omega
    have hor := bit_or hP (p2_lt (by omega : i / 2 < 8))
    have hlt := or_lt hP (p2_lt (by omega : i / 2 < 8))
    unfold beF
    cases hb : s.testBit (i % 4) with
    | false =>
      rw [hb] at c1
      refine ⟨?_, by simpa using hP⟩
      simp only [g74_b0, forceB_eq, ltI_eq, hl8, cond_true, e2', forceI_eq, meansX_call, c1, bindP_some, asB_b, cond_false, bindO_some, wr_next (by omega : i ≤ 1000000), Bool.false_and]
    | true =>
      rw [hb] at c1
      cases hn : Nat.beq (nx u i) c with
      | false =>
        rw [hn] at e3
        refine ⟨?_, by simpa using hP⟩
        simp only [g74_b0, forceB_eq, ltI_eq, hl8, cond_true, e2', forceI_eq, meansX_call, c1, c2, bindP_some, asB_b, asI_i, eqI_eq, e3, cond_false, bindO_some, wr_next (by omega : i ≤ 1000000), Bool.true_and]
      | true =>
        rw [hn] at e3
        refine ⟨?_, by simpa using hlt⟩
        simp only [g74_b0, forceB_eq, ltI_eq, hl8, cond_true, e1', e2', forceI_eq, meansX_call, c1, c2, bindP_some, asB_b, asI_i, eqI_eq, e3, nneg, chk_true, shl_any (by omega : i / 2 ≤ 7), hor, bindO_some, wr_next (by omega : i ≤ 1000000), Bool.true_and]) (fun acc => by
    have : decide ((8 : Int) < 8) = false := rfl
    show g74_b0 (meansX F1 ro) ro u s c acc 8 _ = _
    simp only [g74_b0, forceB_eq, ltI_eq, this, cond_false]) 8 0 0 (by omega) (by omega)
  have hl2 := hl.1
  have e0 : ((0 : Nat) : Int) = 0 := rfl
  rw [e0] at hl2
  simp only [meansX_loop, hl2, bindO_some, tupA]
  exact fin_pure rfl

/- sixteen bits -/
end Go.Proofs.Ytgbkicelkpagpaa.W

/- Walks and Ways. -/
import Derived.Test.YtgbkicelkpagpaaVmWg
open Go.Vm
set_option linter.unusedVariables false
namespace Go.Proofs.Ytgbkicelkpagpaa.W
open Go

/- four numbers in memory -/
def agg4 (f : Nat → Nat) : AVal := .agg [.i .i64 (f 0 : Nat), .i .i64 (f 1 : Nat), .i .i64 (f 2 : Nat), .i .i64 (f 3 : Nat)]
abbrev V4 (hp : Heap) (b : Nat) (f : Nat → Nat) : Prop := Vec hp 63 b 4 (fun j => .i .i64 (f j : Nat))
theorem V4.ld4 {ro : List ABlk} {hp : Heap} {b : Nat} {f : Nat → Nat} (h : V4 hp b f) {l p : Nat} : ldM ro ⟨hp, l, p⟩ false 4 (.p (some ⟨false, b, 0⟩)) = some (agg4 f) := by
  obtain ⟨blk, h1, h2, h3, h4⟩ := h
  have hb : Nat.ble (0 + 4) blk.n = true := by rw [Nat.ble_eq]; omega
  simp only [ldM, rd, rdB_heap h1, cond_false, hb, cond_true]
  show some (AVal.agg [blk.c.get 0, blk.c.get 1, blk.c.get 2, blk.c.get 3]) = _
  rw [h4 0 (by omega), h4 1 (by omega), h4 2 (by omega), h4 3 (by omega)]
  rfl
theorem V4.st4 {ro : List ABlk} {hp : Heap} {b : Nat} {g : Nat → AVal} (h : Vec hp 63 b 4 g) (f : Nat → Nat) {l p : Nat} :
    ∃ y, stepM ro ⟨hp, l, p⟩ (.st 4 (.c (.p (some ⟨false, b, 0⟩))) (.c (agg4 f))) = some (und, ⟨hp.set b y, min l b, p⟩) ∧ V4 (hp.set b y) b f := by
  obtain ⟨blk, h1, h2, h3, h4⟩ := h
  refine ⟨some { blk with c := blk.c.splice 0 [.i .i64 (f 0 : Nat), .i .i64 (f 1 : Nat), .i .i64 (f 2 : Nat), .i .i64 (f 3 : Nat)] }, ?_, { blk with c := blk.c.splice 0 [.i .i64 (f 0 : Nat), .i .i64 (f 1 : Nat), .i .i64 (f 2 : Nat), .i .i64 (f 3 : Nat)] }, lget_set h1 _, h2, h3, fun r hr => ?_⟩
  · have hb : Nat.ble 4 blk.n = true := by rw [Nat.ble_eq]; omega
    have ho : (Nat.ble 4 blk.n && ones [AVal.i .i64 (f 0 : Nat), .i .i64 (f 1 : Nat), .i .i64 (f 2 : Nat), .i .i64 (f 3 : Nat)]) = true := by rw [hb]; rfl
    simp only [stepM, stepK, opd, agg4, AVal.cells, st_st, List.length_cons, List.length_nil, Nat.zero_add, wrH, cond_false, h1]
    simp only [show Nat.beq (0 + 1 + 1 + 1 + 1) 4 = true from rfl, cond_true, ho, lset_eq, St.mm]
    rfl
  · show ((((blk.c.set 0 (.i .i64 (f 0 : Nat))).set 1 (.i .i64 (f 1 : Nat))).set 2 (.i .i64 (f 2 : Nat))).set 3 (.i .i64 (f 3 : Nat))).get r = _
    rw [get_set, get_set, get_set, get_set]
    have : r = 0 ∨ r = 1 ∨ r = 2 ∨ r = 3 := by omega
    rcases this with rfl | rfl | rfl | rfl <;> simp
theorem blk4 (hp : Heap) (f : Nat → Nat) : V4 (hp ++ [some (blkOf 63 [.i .i64 (f 0 : Nat), .i .i64 (f 1 : Nat), .i .i64 (f 2 : Nat), .i .i64 (f 3 : Nat)])]) hp.length f :=
  ⟨_, lget_last _ _, rfl, Nat.le_refl 4, fun r hr => by
    rw [get_blk]
    have : r = 0 ∨ r = 1 ∨ r = 2 ∨ r = 3 := by omega
    rcases this with rfl | rfl | rfl | rfl <;> rfl⟩
theorem bx4 {ro : List ABlk} {hp : Heap} {l p : Nat} (f : Nat → Nat) :
    stepM ro ⟨hp, l, p⟩ (.bx 63 4 (.c (agg4 f))) = some (.p (some ⟨false, hp.length, 0⟩), ⟨hp ++ [some (blkOf 63 [.i .i64 (f 0 : Nat), .i .i64 (f 1 : Nat), .i .i64 (f 2 : Nat), .i .i64 (f 3 : Nat)])], l, p⟩) := rfl
theorem al4 {ro : List ABlk} {hp : Heap} {l p : Nat} :
    stepM ro ⟨hp, l, p⟩ (.al 63 [(AVal.i IntKind.i64 0), (AVal.i IntKind.i64 0), (AVal.i IntKind.i64 0), (AVal.i IntKind.i64 0)]) = some (.p (some ⟨false, hp.length, 0⟩), ⟨hp ++ [some (blkOf 63 [(AVal.i IntKind.i64 0), (AVal.i IntKind.i64 0), (AVal.i IntKind.i64 0), (AVal.i IntKind.i64 0)])], l, p⟩) := rfl
theorem blk4_0 (hp : Heap) : V4 (hp ++ [some (blkOf 63 [(AVal.i IntKind.i64 0), (AVal.i IntKind.i64 0), (AVal.i IntKind.i64 0), (AVal.i IntKind.i64 0)])]) hp.length (fun _ => 0) := blk4 hp (fun _ => 0)
theorem ixA4 {b i : Nat} (hi : i < 4) : evP .e (.ixA 4 1 (.c (.p (some ⟨false, b, 0⟩))) (.c (.i .i64 (i : Int)))) = some (.p (some ⟨false, b, 0 + i⟩)) := by
  have : Nat.blt i 4 = true := by rw [Nat.blt_eq]; exact hi
  have e : ((i : Int)) = Int.ofNat i := rfl
  simp only [evP, ev_ixA, opd, e, atI, this, cond_true, Nat.mul_one]

/- the letter as a number -/
def bw (s : List UInt8) (i : Nat) : Nat := ch s i - 48
theorem bit_num : ∀ c, c < 256 → 48 ≤ c → wr .i64 (wr .u8 (Int.ofNat c - 48)) = Int.ofNat (c - 48) := by decide +kernel
theorem bit_ok {ro : List ABlk} {h : Heap} {c : Nat} (hc : c < 256) (h48 : 48 ≤ c) : callX F1 ro 73 [.i .u8 c] h = some (.i .i64 (c - 48 : Nat), h, h.length, h.length) := by
  refine g73_ok (meansX_ok F1 ro) rfl ?_
  unfold g73
  have e : wr .i64 (wr .u8 ((c : Int) - 48)) = ((c - 48 : Nat) : Int) := bit_num c hc h48
  simp only [forceI_eq, e, tupA]
  exact fin_pure rfl

/- one letter more: how many walks end in each pair -/
def st1 (u c : Nat) (at' to : Nat → Nat) (t : Nat) : Nat → Nat := if nx u t = c then fun j => if j = t % 4 then to j + at' (t / 2) else to j else to
def stp (u c : Nat) (at' : Nat → Nat) : Nat → Nat → Nat
  | 0 => fun _ => 0
  | k + 1 => st1 u c at' (stp u c at' k) k
def nxt (u c : Nat) (at' : Nat → Nat) : Nat → Nat := stp u c at' 8
def wkN (u : Nat) (s : List UInt8) (from' : Nat → Nat) : Nat → Nat → Nat
  | 0 => from'
  | k + 1 => nxt u (bw s k) (wkN u s from' k)
theorem stp_le {u c X : Nat} {at' : Nat → Nat} (h : ∀ j, j < 4 → at' j ≤ X) : ∀ k, k ≤ 8 → ∀ j, j < 4 → stp u c at' k j ≤ (k + 3 - j) / 4 * X
  | 0, _, j, _ => Nat.zero_le _
  | k + 1, hk, j, hj => by
    have ih := stp_le (u := u) (c := c) h k (by omega) j hj
    have ha := h (k / 2) (by omega)
    have hm : (k + 3 - j) / 4 * X ≤ (k + 1 + 3 - j) / 4 * X := Nat.mul_le_mul_right _ (Nat.div_le_div_right (by omega))
    show st1 u c at' (stp u c at' k) k j ≤ _
    unfold st1
    by_cases e : nx u k = c
    · rw [if_pos e]
      show (if j = k % 4 then _ else _) ≤ _
      by_cases e2 : j = k % 4
      · rw [if_pos e2]
        have : (k + 1 + 3 - j) / 4 = (k + 3 - j) / 4 + 1 := by omega
        rw [this, Nat.add_mul, Nat.one_mul]
        omega
      · rw [if_neg e2]; omega
    · rw [if_neg e]; omega
theorem nxt_le {u c X : Nat} {at' : Nat → Nat} (h : ∀ j, j < 4 → at' j ≤ X) {j : Nat} (hj : j < 4) : nxt u c at' j ≤ 2 * X := by
  have := stp_le (u := u) (c := c) h 8 (Nat.le_refl _) j hj
  have e : (8 + 3 - j) / 4 = 2 := by omega
  rw [e] at this
  exact this
theorem wkN_le {u : Nat} {s : List UInt8} {from' : Nat → Nat} (h : ∀ j, j < 4 → from' j ≤ 1) : ∀ i j, j < 4 → wkN u s from' i j ≤ 2 ^ i
  | 0, j, hj => h j hj
  | i + 1, j, hj => by
    have := nxt_le (u := u) (c := bw s i) (at' := wkN u s from' i) (X := 2 ^ i) (fun j hj => wkN_le h i j hj) hj
    have e : 2 ^ (i + 1) = 2 * 2 ^ i := by rw [Nat.pow_succ]; omega
    rw [e]; exact this

def okR (s : List UInt8) : Prop := ∀ i, i < s.length → ch s i = 48 ∨ ch s i = 49
theorem inner_ok {ro : List ABlk} {h hp : Heap} {u b7 b9 i : Nat} {s : List UInt8} {at' : Nat → Nat} {v6 : AVal} {x13 : Int} (hu : u < 256) (hi : i < s.length) (hs : okR s) (hL : h.length ≤ hp.length) (h7 : V4 hp b7 at') (h9 : V4 hp b9 (fun _ => 0)) (hne : b7 ≠ b9)
    (h9L : h.length ≤ b9) (hX : ∀ j, j < 4 → at' j ≤ 1125899906842624) :
    ∃ hp', loopX (fun z => g57_b1 (meansX F1 ro) ro u s v6 (.p (some ⟨false, b7, 0⟩)) i (.p (some ⟨false, b9, 0⟩)) x13 z.1 z.2) (0, ⟨hp, h.length, h.length⟩) = some ⟨hp', h.length, h.length⟩ ∧ V4 hp' b9 (nxt u (bw s i) at') ∧ hp'.length = hp.length ∧ ∀ k, k ≠ b9 → hp'[k]? = hp[k]? := by
  have key := loop_all (b := fun z => g57_b1 (meansX F1 ro) ro u s v6 (.p (some ⟨false, b7, 0⟩)) i (.p (some ⟨false, b9, 0⟩)) x13 z.1 z.2) 8
    (fun k m => ∃ hp', m = ⟨hp', h.length, h.length⟩ ∧ V4 hp' b9 (stp u (bw s i) at' k) ∧ hp'.length = hp.length ∧ ∀ k, k ≠ b9 → hp'[k]? = hp[k]?)
    (fun k m hk hI => by
      obtain ⟨hp', rfl, hv, hl, hkeep⟩ := hI
      have hv7 : V4 hp' b7 at' := h7.keep (hkeep b7 hne)
      have hk8 : ((k : Int) < 8) := by omega
      have hc48 : 48 ≤ ch s i := by rcases hs i hi with e | e <;> omega
      have c1 := callM_pure (call := callX F1 ro) (l := h.length) (p := h.length) (next_ok (ro := ro) (h := hp') hu hk) (by omega) (by omega)
      have c2 := callM_pure (call := callX F1 ro) (l := h.length) (p := h.length) (bit_ok (ro := ro) (h := hp') (ch_lt s i) hc48) (by omega) (by omega)
      obtain ⟨e1, e2⟩ := sm_num k hk
      have e1' : shrV .i64 (k : Int) 1 = ((k / 2 : Nat) : Int) := e1
      have e2' : bitV .and .i64 (k : Int) 3 = ((k % 4 : Nat) : Int) := e2
      have hsum : stp u (bw s i) at' k (k % 4) + at' (k / 2) ≤ 9007199254740992 := by
        have a1 := stp_le (u := u) (c := bw s i) hX k (by omega) (k % 4) (by omega)
        have a2 := hX (k / 2) (by omega)
        have a3 : (k + 3 - k % 4) / 4 * 1125899906842624 ≤ 2 * 1125899906842624 := Nat.mul_le_mul_right _ (by omega)
        omega
      have ew : wr .i64 (((stp u (bw s i) at' k (k % 4) : Nat) : Int) + ((at' (k / 2) : Nat) : Int)) = ((stp u (bw s i) at' k (k % 4) + at' (k / 2) : Nat) : Int) := by rw [wr_id' (by omega) (by omega)]; omega
      have hcmp := num_eq (nx u k) (ch s i - 48)
      cases hb : Nat.beq (nx u k) (ch s i - 48)
      · rw [hb] at hcmp
        refine ⟨⟨hp', h.length, h.length⟩, ?_, hp', rfl, ?_, hl, hkeep⟩
        · simp only [g57_b1, forceB_eq, ltI_eq, decide_eq_true hk8, cond_true, e_ix hi, bindO_some, asI_i, meansX_call, c1, c2, bindP_some, eqI_eq, hcmp, cond_false, forceI_eq, wr_next (by omega : k ≤ 1000000)]
        · show V4 hp' b9 (st1 u (bw s i) at' (stp u (bw s i) at' k) k)
          unfold st1
          rw [if_neg (fun e => by rw [show nx u k = ch s i - 48 from e, Nat.beq_refl] at hb; cases hb)]
          exact hv
      · rw [hb] at hcmp
        obtain ⟨y, g1, g2⟩ := Vec.wr (ro := ro) (l := h.length) (p := h.length) hv (r := k % 4) (by omega) (v := .i .i64 ((stp u (bw s i) at' k (k % 4) + at' (k / 2) : Nat) : Int)) rfl rfl
        refine ⟨⟨hp'.set b9 y, h.length, h.length⟩, ?_, _, rfl, ?_, by simp [hl], fun k' hk' => by rw [List.getElem?_set_ne (Ne.symm hk')]; exact hkeep k' hk'⟩
        · have l9 := Vec.lda (ro := ro) hv (i := k % 4) (by omega)
          have l7 := Vec.lda (ro := ro) hv7 (i := k / 2) (by omega)
          rw [Nat.min_eq_left h9L] at g1
          simp only [g57_b1, forceB_eq, ltI_eq, decide_eq_true hk8, cond_true, e_ix hi, bindO_some, asI_i, meansX_call, c1, c2, bindP_some, eqI_eq, hcmp, forceI_eq, e1', e2', ixA4 (by omega : k % 4 < 4), ixA4 (by omega : k / 2 < 4), l9, l7, ew, asP_p, AVal.cells, g1, wr_next (by omega : k ≤ 1000000)]
        · refine g2.congr fun r hr => ?_
          show _ = AVal.i .i64 ((st1 u (bw s i) at' (stp u (bw s i) at' k) k r : Nat) : Int)
          unfold st1
          rw [if_pos (beq_iff.1 hb : nx u k = bw s i)]
          show _ = AVal.i .i64 (((if r = k % 4 then _ else _ : Nat)) : Int)
          by_cases e : r = k % 4
          · rw [if_pos e, if_pos e, e]
          · rw [if_neg e, if_neg e])
    (fun m hI => by
      have : decide ((8 : Int) < 8) = false := rfl
      show g57_b1 (meansX F1 ro) ro u s v6 (.p (some ⟨false, b7, 0⟩)) i (.p (some ⟨false, b9, 0⟩)) x13 8 m = _
      simp only [g57_b1, forceB_eq, ltI_eq, this, cond_false])
    8 0 ⟨hp, h.length, h.length⟩ rfl ⟨hp, rfl, h9, rfl, fun _ _ => rfl⟩
  obtain ⟨m', h1, hp', rfl, h2, h3, h4⟩ := key
  exact ⟨hp', h1, h2, h3, h4⟩
end Go.Proofs.Ytgbkicelkpagpaa.W

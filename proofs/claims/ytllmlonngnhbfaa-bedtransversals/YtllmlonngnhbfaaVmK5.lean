/- The ground: a new one, its options, a sowing. -/
import Derived.Test.YtllmlonngnhbfaaVmK4
open Go.Vm
set_option linter.unusedVariables false
namespace Go.Proofs.Ytllmlonngnhbfaa.Bed
open Go

/- places of the heap -/
section
variable {ro : List ABlk} {hp : Heap} {b off : Nat} {blk : ABlk}
theorem rdB_heap (hb : lget hp b = some (some blk)) (off : Nat) : rdB ro hp ⟨false, b, off⟩ = some blk := by simp only [rdB, cond_false, hb]
theorem ld_heap {m : Mm} (hm : m.h = hp) (hb : lget hp b = some (some blk)) (ho : off < blk.n) : ldM ro m true 1 (.p (some ⟨false, b, off⟩)) = some (blk.c.get off) := by
  subst hm
  have : Nat.blt off blk.n = true := by rw [Nat.blt_eq]; exact ho
  simp only [ldM, rd, rdB_heap hb, cond_true, this]
theorem lda_heap {h0 : Heap} (hb : lget h0 b = some (some blk)) (ho : off < blk.n) : ldA ro h0 true 1 (.p (some ⟨false, b, off⟩)) = some (blk.c.get off) := by
  have h1 : (false || Nat.blt b h0.length) = true := by
    rw [lget_eq] at hb
    have := (List.getElem?_eq_some_iff.1 hb).1
    simpa [Nat.blt_eq] using this
  have : Nat.blt off blk.n = true := by rw [Nat.blt_eq]; exact ho
  simp only [ldA, h1, rd, rdB_heap hb, cond_true, this]
theorem wrH_heap (hb : lget hp b = some (some blk)) (ho : off < blk.n) {v : AVal} (hv : v.one = true) : wrH hp ⟨false, b, off⟩ [v] = some (hp.set b (some { blk with c := blk.c.set off v })) := by
  have : (Nat.ble (off + 1) blk.n && ones [v]) = true := by simp [ones, hv, Nat.ble_eq]; omega
  simp only [wrH, cond_false, hb, List.length_cons, List.length_nil, Nat.zero_add, this, cond_true, lset_eq, Tr.splice]
theorem st_heap {l p : Nat} (hb : lget hp b = some (some blk)) (ho : off < blk.n) {v : AVal} (hv : v.one = true) (hc : v.cells = [v]) (hn : nonp [v] = true) :
    stepM ro ⟨hp, l, p⟩ (.st 1 (.c (.p (some ⟨false, b, off⟩))) (.c v)) = some (und, ⟨hp.set b (some { blk with c := blk.c.set off v }), min l b, p⟩) := by
  simp only [stepM, stepK, opd, st_st, hc, List.length_cons, List.length_nil, Nat.zero_add, wrH_heap hb ho hv, hn, cond_true, St.mm]
  rfl
theorem wr_heap {l p : Nat} (hb : lget hp b = some (some blk)) (ho : off < blk.n) {v : AVal} (hv : v.one = true) (hn : nonp [v] = true) :
    writesM ro [] [(⟨false, b, off⟩, [v])] ⟨hp, l, p⟩ = some ⟨hp.set b (some { blk with c := blk.c.set off v }), min l b, p⟩ := by
  simp only [writesM, writes, wrH_heap hb ho hv, hn, ckOk, if_true, St.mm]
theorem lget_set (hb : lget hp b = some (some blk)) (x : Option ABlk) : lget (hp.set b x) b = some x := by
  rw [lget_eq] at hb ⊢
  have := (List.getElem?_eq_some_iff.1 hb).1
  simp [this]
theorem lget_ext (hb : lget hp b = some (some blk)) (x : Heap) : lget (hp ++ x) b = some (some blk) := by
  rw [lget_eq] at hb ⊢
  rw [List.getElem?_append_left (List.getElem?_eq_some_iff.1 hb).1]; exact hb
theorem lget_lt (hb : lget hp b = some (some blk)) : b < hp.length := by
  rw [lget_eq] at hb
  exact (List.getElem?_eq_some_iff.1 hb).1
theorem lget_last (h : Heap) (x : Option ABlk) : lget (h ++ [x]) h.length = some x := by rw [lget_eq]; simp
end

/- pointers -/
theorem p_nilck (q : Vm.Loc) : evP .e (.nilck (.c (.p (some q)))) = some (.p (some q)) := rfl
theorem p_faddr (r : Bool) (b o off : Nat) : evP .e (.faddr off (.c (.p (some ⟨r, b, o⟩)))) = some (.p (some ⟨r, b, o + off⟩)) := rfl
theorem p_ixA {r : Bool} {b o len es : Nat} {x : Int} {i : Nat} (hx : x = (i : Int)) (hi : i < len) : evP .e (.ixA len es (.c (.p (some ⟨r, b, o⟩))) (.c (.i .i64 x))) = some (.p (some ⟨r, b, o + i * es⟩)) := by
  have : Nat.blt i len = true := by rw [Nat.blt_eq]; exact hi
  have e : ((i : Int)) = Int.ofNat i := rfl
  subst hx
  simp only [evP, ev_ixA, opd, e, atI, this, cond_true]

/-- the ground's cells: its size, its crops, what has been met -/
structure Gr (c : Tr) (n : Nat) (crop : Nat → Nat → Int) (met : Nat → Nat → Nat → Nat) : Prop where
  size : c.get 0 = .i .i64 n
  crops : ∀ r k, r < 7 → k < 7 → c.get (1 + r * 7 + k * 1) = .i .i64 (crop r k)
  mets : ∀ i j a, i < 3 → j < 3 → a < 7 → c.get (50 + i * 21 + j * 7 + a * 1) = .i .u8 (met i j a) ∧ met i j a < 256

theorem Gr.setCrop {c : Tr} {n : Nat} {crop : Nat → Nat → Int} {met : Nat → Nat → Nat → Nat} (h : Gr c n crop met) {r k : Nat} (hr : r < 7) (hk : k < 7) (v : Int) :
    Gr (c.set (1 + r * 7 + k * 1) (.i .i64 v)) n (fun r' k' => if r' = r ∧ k' = k then v else crop r' k') met := by
  refine ⟨?_, fun r' k' hr' hk' => ?_, fun i j a hi hj ha => ?_⟩
  · rw [get_set, if_neg (by omega)]; exact h.size
  · rw [get_set]
    by_cases e : r' = r ∧ k' = k
    · rw [if_pos (by omega), if_pos e]
    · rw [if_neg (by omega), if_neg e]; exact h.crops r' k' hr' hk'
  · rw [get_set, if_neg (by omega)]; exact h.mets i j a hi hj ha
theorem Gr.setMet {c : Tr} {n : Nat} {crop : Nat → Nat → Int} {met : Nat → Nat → Nat → Nat} (h : Gr c n crop met) {i j a : Nat} (hi : i < 3) (hj : j < 3) (ha : a < 7) {v : Nat} (hv : v < 256) :
    Gr (c.set (50 + i * 21 + j * 7 + a * 1) (.i .u8 v)) n crop (fun i' j' a' => if i' = i ∧ j' = j ∧ a' = a then v else met i' j' a') := by
  refine ⟨?_, fun r' k' hr' hk' => ?_, fun i' j' a' hi' hj' ha' => ?_⟩
  · rw [get_set, if_neg (by omega)]; exact h.size
  · rw [get_set, if_neg (by omega)]; exact h.crops r' k' hr' hk'
  · rw [get_set]
    by_cases e : i' = i ∧ j' = j ∧ a' = a
    · rw [if_pos (by omega)]
      exact ⟨by simp only [if_pos e], by simp only [if_pos e]; exact hv⟩
    · rw [if_neg (by omega)]
      simp only [e, if_false]
      exact h.mets i' j' a' hi' hj' ha'
theorem Gr.congr {c : Tr} {n : Nat} {crop crop' : Nat → Nat → Int} {met met' : Nat → Nat → Nat → Nat} (h : Gr c n crop met) (hc : ∀ r k, r < 7 → k < 7 → crop r k = crop' r k) (hm : ∀ i j a, i < 3 → j < 3 → a < 7 → met i j a = met' i j a) : Gr c n crop' met' :=
  ⟨h.size, fun r k hr hk => by rw [← hc r k hr hk]; exact h.crops r k hr hk, fun i j a hi hj ha => by rw [← hm i j a hi hj ha]; exact h.mets i j a hi hj ha⟩

/-- the ground lies in block b -/
def IsGr (hp : Heap) (b n : Nat) (crop : Nat → Nat → Int) (met : Nat → Nat → Nat → Nat) : Prop := ∃ blk, lget hp b = some (some blk) ∧ blk.n = 113 ∧ Gr blk.c n crop met

/- a new ground -/
theorem newGround_ok {ro : List ABlk} {h : Heap} {n : Nat} (hn : n ≤ 7) : ∃ blk, callX F1 ro 52 [.i .i64 n] h = some (.p (some ⟨false, h.length, 0⟩), h ++ [some blk], h.length, h.length) ∧ blk.n = 113 ∧
    Gr blk.c n (fun r k => if r < n ∧ k < n then -1 else 0) (fun _ _ _ => 0) := by
  obtain ⟨blk0, hblk0, hn0, hg0⟩ : ∃ blk : ABlk, blk = blkOf 75 (.i .i64 n :: (List.replicate 49 (.i .i64 0) ++ List.replicate 63 (.i .u8 0))) ∧ blk.n = 113 ∧ Gr blk.c n (fun _ _ => 0) (fun _ _ _ => 0) := by
    refine ⟨_, rfl, rfl, ?_, fun r k hr hk => ?_, fun i j a hi hj ha => ⟨?_, by omega⟩⟩
    · rw [get_blk]; rfl
    · rw [get_blk, show 1 + r * 7 + k * 1 = (r * 7 + k) + 1 by omega, List.getD_cons_succ, List.getD_eq_getElem?_getD, List.getElem?_append_left (by simp; omega), List.getElem?_replicate, if_pos (by omega)]
      rfl
    · rw [get_blk, show 50 + i * 21 + j * 7 + a * 1 = (49 + (i * 21 + j * 7 + a)) + 1 by omega, List.getD_cons_succ, List.getD_eq_getElem?_getD, List.getElem?_append_right (by simp), List.getElem?_replicate, if_pos (by simp; omega)]
      rfl
  have wri : ∀ k : Nat, k < 7 → wr .i64 ((k : Int) + 1) = ((k + 1 : Nat) : Int) := fun k hk => by rw [wr_id' (by omega) (by omega)]; omega
  have inner : ∀ (r : Nat) (blk : ABlk), r < n → blk.n = 113 → Gr blk.c n (fun r' k => if r' < n ∧ k < n ∧ (r' < r ∨ (r' = r ∧ k < 0)) then -1 else 0) (fun _ _ _ => 0) → ∃ blk', loopX (fun s => g52_b1 (meansX F1 ro) ro n (.p (some ⟨false, h.length, 0⟩)) r s.1 s.2) (0, ⟨h ++ [some blk], h.length, h.length⟩) =
      some ⟨h ++ [some blk'], h.length, h.length⟩ ∧ blk'.n = 113 ∧ Gr blk'.c n (fun r' k => if r' < n ∧ k < n ∧ (r' < r ∨ (r' = r ∧ k < n)) then -1 else 0) (fun _ _ _ => 0) := by
    intro r blk hr hbn hg
    refine loopX_elim (b := fun s => g52_b1 (meansX F1 ro) ro n (.p (some ⟨false, h.length, 0⟩)) r s.1 s.2)
      (fun s => ∃ (k : Nat) (blk : ABlk), s.1 = (k : Int) ∧ k ≤ n ∧ s.2 = ⟨h ++ [some blk], h.length, h.length⟩ ∧ blk.n = 113 ∧ Gr blk.c n (fun r' k' => if r' < n ∧ k' < n ∧ (r' < r ∨ (r' = r ∧ k' < k)) then -1 else 0) (fun _ _ _ => 0))
      (fun m => ∃ blk, m = ⟨h ++ [some blk], h.length, h.length⟩ ∧ blk.n = 113 ∧ Gr blk.c n (fun r' k => if r' < n ∧ k < n ∧ (r' < r ∨ (r' = r ∧ k < n)) then -1 else 0) (fun _ _ _ => 0))
      (fun s => n - s.1.toNat) (0, ⟨h ++ [some blk], h.length, h.length⟩) ⟨0, blk, rfl, by omega, rfl, hbn, hg⟩ ?_ ?_
    · rintro ⟨x, m⟩ ⟨k, blk, hx, hk, hm, hbn, hg⟩
      simp only at hx hm
      subst hx hm
      by_cases hlt : k < n
      · left
        have e : decide ((k : Int) < (n : Int)) = true := by simp; omega
        have hst := st_heap (ro := ro) (l := h.length) (p := h.length) (lget_last h (some blk)) (by rw [hbn]; omega : 0 + 1 + r * 7 + k * 1 < blk.n) (v := .i .i64 (-1)) rfl rfl rfl
        rw [Nat.min_self] at hst
        refine ⟨(((k + 1 : Nat) : Int), ⟨h ++ [some { blk with c := blk.c.set (1 + r * 7 + k * 1) (.i .i64 (-1)) }], h.length, h.length⟩), ?_, ⟨k + 1, { blk with c := blk.c.set (1 + r * 7 + k * 1) (.i .i64 (-1)) }, rfl, by omega, rfl, hbn, ?_⟩, by simp only; omega⟩
        · simp only [g52_b1, forceB_eq, ltI_eq, e, cond_true, p_nilck, p_faddr, bindO_some, p_ixA rfl (by omega : r < 7), p_ixA rfl (by omega : k < 7), hst, bindP_some, forceI_eq, wri k (by omega)]
          simp
        · refine (hg.setCrop (r := r) (k := k) (by omega) (by omega) (-1)).congr (fun r' k' hr' hk' => ?_) (fun _ _ _ _ _ _ => rfl)
          by_cases c1 : r' = r ∧ k' = k
          · rw [if_pos c1, if_pos (by omega)]
          · rw [if_neg c1]
            by_cases c2 : r' < n ∧ k' < n ∧ (r' < r ∨ (r' = r ∧ k' < k))
            · rw [if_pos c2, if_pos (by omega)]
            · rw [if_neg c2, if_neg (by omega)]
      · right
        have : k = n := by omega
        subst this
        refine ⟨_, ?_, blk, rfl, hbn, hg⟩
        simp only [g52_b1, forceB_eq, ltI_eq]
        simp
    · rintro m hl ⟨blk', rfl, h1, h2⟩
      exact ⟨blk', hl, h1, h2⟩
  refine loopX_elim (b := fun s => g52_b0 (meansX F1 ro) ro n (.p (some ⟨false, h.length, 0⟩)) s.1 s.2)
    (fun s => ∃ (r : Nat) (blk : ABlk), s.1 = (r : Int) ∧ r ≤ n ∧ s.2 = ⟨h ++ [some blk], h.length, h.length⟩ ∧ blk.n = 113 ∧ Gr blk.c n (fun r' k' => if r' < n ∧ k' < n ∧ (r' < r ∨ (r' = r ∧ k' < 0)) then -1 else 0) (fun _ _ _ => 0))
    (fun m => ∃ blk, m = ⟨h ++ [some blk], h.length, h.length⟩ ∧ blk.n = 113 ∧ Gr blk.c n (fun r' k => if r' < n ∧ k < n ∧ (r' < n ∨ (r' = n ∧ k < 0)) then -1 else 0) (fun _ _ _ => 0))
    (fun s => n - s.1.toNat) (0, ⟨h ++ [some blk0], h.length, h.length⟩) ⟨0, blk0, rfl, by omega, rfl, hn0, hg0.congr (fun r k _ _ => by rw [if_neg (by omega)]) (fun _ _ _ _ _ _ => rfl)⟩ ?_ ?_
  · rintro ⟨x, m⟩ ⟨r, blk, hx, hr, hm, hbn, hg⟩
    simp only at hx hm
    subst hx hm
    by_cases hlt : r < n
    · left
      have e : decide ((r : Int) < (n : Int)) = true := by simp; omega
      obtain ⟨blk', i1, i2, i3⟩ := inner r blk hlt hbn hg
      refine ⟨(((r + 1 : Nat) : Int), ⟨h ++ [some blk'], h.length, h.length⟩), ?_, ⟨r + 1, blk', rfl, by omega, rfl, i2, i3.congr (fun r' k' _ _ => ?_) (fun _ _ _ _ _ _ => rfl)⟩, by simp only; omega⟩
      · simp only [g52_b0, forceB_eq, ltI_eq, e, cond_true, meansX_loop, i1, bindO_some, forceI_eq, wri r (by omega)]
      · by_cases c2 : r' < n ∧ k' < n ∧ (r' < r ∨ (r' = r ∧ k' < n))
        · rw [if_pos c2, if_pos (by omega)]
        · rw [if_neg c2, if_neg (by omega)]
    · right
      have : r = n := by omega
      subst this
      refine ⟨_, ?_, blk, rfl, hbn, hg⟩
      simp only [g52_b0, forceB_eq, ltI_eq]
      simp
  · rintro m hl ⟨blk', rfl, h1, h2⟩
    refine ⟨blk', g52_ok (meansX_ok F1 ro) rfl ?_, h1, h2.congr (fun r k _ _ => ?_) (fun _ _ _ _ _ _ => rfl)⟩
    · unfold g52
      change bindO (some (AVal.agg (.i .i64 n :: (List.replicate 49 (.i .i64 0) ++ List.replicate 63 (.i .u8 0))))) _ = _
      rw [bindO_some]
      have hbx : stepM ro ⟨h, h.length, h.length⟩ (.bx 75 113 (.c (AVal.agg (.i .i64 n :: (List.replicate 49 (.i .i64 0) ++ List.replicate 63 (.i .u8 0)))))) = some (.p (some ⟨false, h.length, 0⟩), ⟨h ++ [some blk0], h.length, h.length⟩) := by
        rw [hblk0]; rfl
      rw [hbx, bindP_some, meansX_loop, hl, bindO_some]
      have hb : (AVal.p (some ⟨false, h.length, 0⟩)).bel h.length = false := by
        simp only [AVal.bel, Bool.false_or]
        cases hh : Nat.blt h.length h.length
        · rfl
        · rw [Nat.blt_eq] at hh; omega
      simp [finM, gc, tupA, hb]
    · by_cases c : r < n ∧ k < n
      · rw [if_pos (by omega), if_pos c]
      · rw [if_neg (by omega), if_neg c]

/- options -/
def optsV (n m : Nat) : Nat := Nat.xor (2 ^ n - 1) (Nat.land (2 ^ n - 1) m)
theorem bit_or {a c : Nat} (ha : a < 256) (hc : c < 256) : bitV .or .u8 a c = ((a ||| c : Nat) : Int) := by
  have e : (Nat.blt a 256 && Nat.blt c 256) = true := by simp [Nat.blt_eq, ha, hc]
  show numA (Go.Vm.bits .or .u8 (Int.ofNat a) (Int.ofNat c)) = _
  simp only [Go.Vm.bits, e, cond_true, bits8, mkN_eq, numA]
  rfl
theorem bit_and {a c : Nat} (ha : a < 256) (hc : c < 256) : bitV .and .u8 a c = ((a &&& c : Nat) : Int) := by
  have e : (Nat.blt a 256 && Nat.blt c 256) = true := by simp [Nat.blt_eq, ha, hc]
  show numA (Go.Vm.bits .and .u8 (Int.ofNat a) (Int.ofNat c)) = _
  simp only [Go.Vm.bits, e, cond_true, bits8, mkN_eq, numA]
  rfl
theorem bit_andNot {a c : Nat} (ha : a < 256) (hc : c < 256) : bitV .andNot .u8 a c = ((Nat.xor a (Nat.land a c) : Nat) : Int) := by
  have e : (Nat.blt a 256 && Nat.blt c 256) = true := by simp [Nat.blt_eq, ha, hc]
  show numA (Go.Vm.bits .andNot .u8 (Int.ofNat a) (Int.ofNat c)) = _
  simp only [Go.Vm.bits, e, cond_true, bits8, mkN_eq, numA]
  rfl
theorem wr_u8_id {x : Nat} (h : x < 256) : wr .u8 (x : Int) = (x : Int) := by
  rw [wr_u8]; exact wrap_u8_in _ (by omega) (by omega)
theorem shl_one {n : Nat} (hn : n ≤ 7) : shlV .u8 1 n = ((2 ^ n : Nat) : Int) := by
  have h : ∀ n, n ≤ 7 → shlV .u8 1 ((n : Nat) : Int) = ((2 ^ n : Nat) : Int) := by decide
  exact h n hn
theorem or_lt {a b : Nat} (ha : a < 256) (hb : b < 256) : a ||| b < 256 := Nat.or_lt_two_pow (n := 8) ha hb
theorem optsV_lt {n m : Nat} (hn : n ≤ 7) : optsV n m < 256 := by
  have h1 : 2 ^ n - 1 < 2 ^ 8 := by
    have : 2 ^ n ≤ 2 ^ 7 := Nat.pow_le_pow_right (by omega) hn
    omega
  have h2 : (2 ^ n - 1) &&& m < 2 ^ 8 := Nat.lt_of_le_of_lt Nat.and_le_left h1
  exact Nat.xor_lt_two_pow h1 h2
theorem optsV_bit {n m k : Nat} : (optsV n m).testBit k = (decide (k < n) && !m.testBit k) := by
  unfold optsV
  show ((2 ^ n - 1) ^^^ ((2 ^ n - 1) &&& m)).testBit k = _
  rw [Nat.testBit_xor, Nat.testBit_and, Nat.testBit_two_pow_sub_one]
  cases decide (k < n) <;> cases m.testBit k <;> rfl

theorem options_ok {ro : List ABlk} {hp : Heap} {b n : Nat} {crop : Nat → Nat → Int} {met : Nat → Nat → Nat → Nat} (hg : IsGr hp b n crop met) (hn : n ≤ 7) {i a j c : Nat} (hi : i < 3) (hj : j < 3) (hij : i + j ≤ 3) (hij2 : 1 ≤ i + j) (ha : a < 7) (hc : c < 7) :
    callX F1 ro 53 [.p (some ⟨false, b, 0⟩), .agg [.i .i64 i, .i .i64 a, .i .i64 j, .i .i64 c]] hp = some (.i .u8 (optsV n (met i (3 - i - j) a ||| met j (3 - i - j) c) : Nat), hp, hp.length, hp.length) := by
  obtain ⟨blk, hb, hbn, hg⟩ := hg
  refine g53_ok (meansX_ok F1 ro) rfl ?_
  unfold g53
  obtain ⟨bx, hbx⟩ : ∃ bx, bx = blkOf 59 [.i .i64 (i : Int), .i .i64 (a : Int), .i .i64 (j : Int), .i .i64 (c : Int)] := ⟨_, rfl⟩
  have e1 : stepM ro ⟨hp, hp.length, hp.length⟩ (.bx 59 4 (.c (.agg [.i .i64 i, .i .i64 a, .i .i64 j, .i .i64 c]))) = some (.p (some ⟨false, hp.length, 0⟩), ⟨hp ++ [some bx], hp.length, hp.length⟩) := by rw [hbx]; rfl
  have l0 : lget (hp ++ [some bx]) hp.length = some (some bx) := lget_last _ _
  have lb : lget (hp ++ [some bx]) b = some (some blk) := lget_ext hb _
  have n4 : bx.n = 4 := by rw [hbx]; rfl
  have c0 : bx.c.get (0 + 0) = .i .i64 i := by rw [hbx]; rfl
  have c1 : bx.c.get (0 + 1) = .i .i64 a := by rw [hbx]; rfl
  have c2 : bx.c.get (0 + 2) = .i .i64 j := by rw [hbx]; rfl
  have c3 : bx.c.get (0 + 3) = .i .i64 c := by rw [hbx]; rfl
  have hw1 : wr .i64 (3 - (i : Int)) = ((3 - i : Nat) : Int) := by rw [wr_id' (by omega) (by omega)]; omega
  have hw2 : wr .i64 (((3 - i : Nat) : Int) - (j : Int)) = ((3 - i - j : Nat) : Int) := by rw [wr_id' (by omega) (by omega)]; omega
  have hk : 3 - i - j < 3 := by omega
  have hn0 : (!ltI (n : Int) (.ofNat 0)) = true := by rw [ltI_eq]; simp
  have hsub : wr .u8 (((2 ^ n : Nat) : Int) - 1) = ((2 ^ n - 1 : Nat) : Int) := by
    have h1 : 1 ≤ 2 ^ n := Nat.one_le_two_pow
    have h2 : 2 ^ n ≤ 2 ^ 7 := Nat.pow_le_pow_right (by omega) hn
    have e : (((2 ^ n : Nat) : Int) - 1) = ((2 ^ n - 1 : Nat) : Int) := by omega
    rw [e, wr_u8_id (by omega)]
  obtain ⟨m1, m1'⟩ := hg.mets i (3 - i - j) a hi hk ha
  obtain ⟨m2, m2'⟩ := hg.mets j (3 - i - j) c hj hk hc
  have hsz := hg.size
  have q1 : ∀ off, off < 4 → ldM ro ⟨hp ++ [some bx], hp.length, hp.length⟩ true 1 (.p (some ⟨false, hp.length, 0 + off⟩)) = some (bx.c.get (0 + off)) := fun off ho => ld_heap rfl l0 (by omega)
  have q2 : ∀ off, off < 4 → ldA ro (hp ++ [some bx]) true 1 (.p (some ⟨false, hp.length, 0 + off⟩)) = some (bx.c.get (0 + off)) := fun off ho => lda_heap l0 (by omega)
  have q3 : ldM ro ⟨hp ++ [some bx], hp.length, hp.length⟩ true 1 (.p (some ⟨false, b, 0 + 0⟩)) = some (.i .i64 n) := by rw [ld_heap rfl lb (by omega), hsz]
  have q4 : ldA ro (hp ++ [some bx]) true 1 (.p (some ⟨false, b, 0 + 50 + i * 21 + (3 - i - j) * 7 + a * 1⟩)) = some (.i .u8 (met i (3 - i - j) a)) := by
    rw [lda_heap lb (by omega), Nat.zero_add, m1]
  have q5 : ldA ro (hp ++ [some bx]) true 1 (.p (some ⟨false, b, 0 + 50 + j * 21 + (3 - i - j) * 7 + c * 1⟩)) = some (.i .u8 (met j (3 - i - j) c)) := by
    rw [lda_heap lb (by omega), Nat.zero_add, m2]
  have h256 : 2 ^ n - 1 < 256 := by
    have : 2 ^ n ≤ 2 ^ 7 := Nat.pow_le_pow_right (by omega) hn
    omega
  simp only [e1, bindP_some, p_faddr, p_nilck, bindO_some, q1 0 (by omega), q1 2 (by omega), c0, c2, asI_i, forceI_eq, hw1, hw2, q3, hn0, chk_true, shl_one hn, hsub, q2 0 (by omega), q2 1 (by omega), q2 2 (by omega), q2 3 (by omega), c1, c3,
    p_ixA rfl hi, p_ixA rfl hj, p_ixA rfl hk, p_ixA rfl ha, p_ixA rfl hc, q4, q5, bit_or m1' m2', bit_andNot h256 (or_lt m1' m2'), tupA]
  exact fin_drop rfl
end Go.Proofs.Ytllmlonngnhbfaa.Bed

/- The sets of pairs from which the rest of a row can come; Back; Rings. -/
import Derived.Test.YtgbkicelkpagpaaVmWa
open Go.Vm
set_option linter.unusedVariables false
namespace Go.Proofs.Ytgbkicelkpagpaa.W
open Go

theorem iter_be (u s c p : Nat) : ∀ k i acc, (iterF (beF u s c) k i acc).testBit p = (acc.testBit p || (List.range' i k).any fun t => s.testBit (t % 4) && Nat.beq (nx u t) c && decide (t / 2 = p))
  | 0, i, acc => by simp [iterF]
  | k + 1, i, acc => by
    show (iterF (beF u s c) k (i + 1) (beF u s c i acc)).testBit p = _
    rw [iter_be u s c p k (i + 1)]
    have e : (beF u s c i acc).testBit p = (acc.testBit p || (s.testBit (i % 4) && Nat.beq (nx u i) c && decide (i / 2 = p))) := by
      unfold beF
      cases hb : (s.testBit (i % 4) && Nat.beq (nx u i) c) with
      | false => simp
      | true => simp only [cond_true, Nat.testBit_or, Nat.testBit_two_pow, Bool.true_and]
    rw [e, List.range'_succ, List.any_cons, Bool.or_assoc]
theorem beV_bit {u s c p : Nat} (hp : p < 4) : (beV u s c).testBit p = ((s.testBit (2 * p % 4) && Nat.beq (nx u (2 * p)) c) || (s.testBit ((2 * p + 1) % 4) && Nat.beq (nx u (2 * p + 1)) c)) := by
  unfold beV
  rw [iter_be]
  rcases (by omega : p = 0 ∨ p = 1 ∨ p = 2 ∨ p = 3) with rfl | rfl | rfl | rfl <;> simp [List.range']
theorem iter_be_lt {u s c : Nat} : ∀ k i acc, i + k ≤ 8 → acc < 16 → iterF (beF u s c) k i acc < 16
  | 0, i, acc, _, h => h
  | k + 1, i, acc, hi, h => by
    refine iter_be_lt k (i + 1) _ (by omega) ?_
    unfold beF
    cases (s.testBit (i % 4) && Nat.beq (nx u i) c)
    · exact h
    · have h2 : 2 ^ (i / 2) < 2 ^ 4 := Nat.pow_lt_pow_right (by omega) (by omega)
      exact Nat.or_lt_two_pow (n := 4) h h2
theorem beV_lt (u s c : Nat) : beV u s c < 16 := iter_be_lt 8 0 0 (by omega) (by omega)

/- from which pairs the rest of a row can come -/
def canD (u : Nat) (f : Nat → Nat) (n : Nat) : Nat → Nat
  | 0 => 15
  | d + 1 => beV u (canD u f n d) (f (n - (d + 1)))
def canI (u : Nat) (f : Nat → Nat) (n i : Nat) : Nat := canD u f n (n - i)
theorem canD_lt {u : Nat} {f : Nat → Nat} {n : Nat} : ∀ d, canD u f n d < 16
  | 0 => by show 15 < 16; omega
  | d + 1 => beV_lt _ _ _
theorem canI_lt {u : Nat} {f : Nat → Nat} {n i : Nat} : canI u f n i < 16 := canD_lt _
theorem canI_end {u : Nat} {f : Nat → Nat} {n : Nat} : canI u f n n = 15 := by unfold canI; rw [Nat.sub_self]; rfl
theorem canI_step {u : Nat} {f : Nat → Nat} {n i : Nat} (h : i < n) : canI u f n i = beV u (canI u f n (i + 1)) (f i) := by
  unfold canI
  rw [show n - i = (n - (i + 1)) + 1 by omega]
  show beV u _ (f (n - ((n - (i + 1)) + 1))) = _
  rw [show n - ((n - (i + 1)) + 1) = i by omega]

/- the least row -/
def tzb (x : Nat) : Nat := cond (x.testBit 0) 0 (cond (x.testBit 1) 1 (cond (x.testBit 2) 2 3))
def bkB (u : Nat) (f : Nat → Nat) (n a i : Nat) : Nat := cond (Nat.beq (nx u (2 * a)) (f i) && (canI u f n (i + 1)).testBit (2 * a % 4)) 0 1
def bkA (u : Nat) (f : Nat → Nat) (n : Nat) : Nat → Nat
  | 0 => tzb (canI u f n 0)
  | i + 1 => (2 * bkA u f n i + bkB u f n (bkA u f n i) i) % 4
theorem bkB_le (u : Nat) (f : Nat → Nat) (n a i : Nat) : bkB u f n a i ≤ 1 := by
  unfold bkB; cases (Nat.beq (nx u (2 * a)) (f i) && (canI u f n (i + 1)).testBit (2 * a % 4)) <;> decide
theorem tz_tab : ((List.range 16).all fun x => Nat.beq x 0 || (Nat.blt (tzb x) 4 && x.testBit (tzb x))) = true := by decide +kernel
theorem bkA_lt {u : Nat} {f : Nat → Nat} {n : Nat} : ∀ i, bkA u f n i < 4
  | 0 => by
    show tzb _ < 4
    unfold tzb
    cases (canI u f n 0).testBit 0 <;> cases (canI u f n 0).testBit 1 <;> cases (canI u f n 0).testBit 2 <;> decide
  | i + 1 => Nat.mod_lt _ (by omega)
/-- each pair of the row is one from which the rest can come; and the row becomes what it shall -/
theorem bkA_ok {u : Nat} {f : Nat → Nat} {n : Nat} (h0 : canI u f n 0 ≠ 0) : ∀ i, i ≤ n → (canI u f n i).testBit (bkA u f n i) = true
  | 0, _ => by
    have := List.all_eq_true.1 tz_tab _ (List.mem_range.2 (canI_lt (u := u) (f := f) (n := n) (i := 0)))
    simp only [Bool.or_eq_true, Bool.and_eq_true] at this
    rcases this with h | h
    · exact absurd (beq_iff.1 h) h0
    · exact h.2
  | i + 1, hi => by
    have ih := bkA_ok h0 i (by omega)
    rw [canI_step (by omega), beV_bit (bkA_lt i)] at ih
    show (canI u f n (i + 1)).testBit ((2 * bkA u f n i + bkB u f n (bkA u f n i) i) % 4) = true
    unfold bkB
    cases hb : (Nat.beq (nx u (2 * bkA u f n i)) (f i) && (canI u f n (i + 1)).testBit (2 * bkA u f n i % 4)) with
    | true =>
      simp only [Bool.and_eq_true] at hb
      exact hb.2
    | false =>
      rw [Bool.and_comm] at hb
      rw [hb, Bool.false_or, Bool.and_eq_true] at ih
      exact ih.1
theorem bkA_next {u : Nat} {f : Nat → Nat} {n : Nat} (h0 : canI u f n 0 ≠ 0) {i : Nat} (hi : i < n) : nx u (2 * bkA u f n i + bkB u f n (bkA u f n i) i) = f i := by
  have ih := bkA_ok h0 i (by omega)
  rw [canI_step hi, beV_bit (bkA_lt i)] at ih
  unfold bkB
  cases hb : (Nat.beq (nx u (2 * bkA u f n i)) (f i) && (canI u f n (i + 1)).testBit (2 * bkA u f n i % 4)) with
  | true =>
    simp only [Bool.and_eq_true] at hb
    exact beq_iff.1 hb.1
  | false =>
    rw [Bool.and_comm] at hb
    rw [hb, Bool.false_or, Bool.and_eq_true] at ih
    exact beq_iff.1 ih.2
def bkG (u : Nat) (f : Nat → Nat) (n : Nat) : Nat → Nat
  | 0 => bkA u f n 0 / 2
  | j + 1 => bkA u f n j % 2
def backL (u : Nat) (f : Nat → Nat) (n : Nat) : List UInt8 := (List.range (n + 2)).map fun j => UInt8.ofNat (48 + bkG u f n j)
theorem bkG_le {u : Nat} {f : Nat → Nat} {n : Nat} : ∀ j, bkG u f n j ≤ 1
  | 0 => by have := bkA_lt (u := u) (f := f) (n := n) 0; show bkA u f n 0 / 2 ≤ 1; omega
  | j + 1 => by show bkA u f n j % 2 ≤ 1; omega
theorem bkG_B {u : Nat} {f : Nat → Nat} {n : Nat} (j : Nat) : bkG u f n (j + 2) = bkB u f n (bkA u f n j) j := by
  show ((2 * bkA u f n j + bkB u f n (bkA u f n j) j) % 4) % 2 = _
  have := bkB_le u f n (bkA u f n j) j
  omega

/- one more behind a vector whose room is full or open -/
theorem push_any {ro : List ABlk} {hp : Heap} {L e bytes b k : Nat} {z w : AVal} {cap : Cap} {get : Nat → AVal} (hcap : cap = .grow ∨ cap = .known k) (hv : Vec hp e b k get) (hLb : L ≤ b) (h0 : 0 < k) (hk : k ≤ 1000) (hb : bytes ≤ 1000) (hL : L ≤ hp.length) (hw : w.cells = [w]) (ho : w.one = true) :
    ∃ v2 hp2 hp3 b3, stepM ro ⟨hp, L, L⟩ (.bsl e 1 [z] 1 [((0, 1), .c w)]) = some (v2, ⟨hp2, L, L⟩) ∧ stepM ro ⟨hp2, L, L⟩ (.app e 1 bytes [z] (.c (.sl ⟨false, b, 0⟩ k cap)) (.c v2)) = some (.sl ⟨false, b3, 0⟩ (k + 1) .grow, ⟨hp3, L, L⟩) ∧
      hp.length ≤ b3 ∧ Vec hp3 e b3 (k + 1) (fun r => if r < k then get r else w) ∧ hp.length ≤ hp3.length ∧ ∀ i, i < hp.length → i ≠ b → hp3[i]? = hp[i]? := by
  rcases hcap with rfl | rfl
  · obtain ⟨v2, hp2, v3, hp3, b3, s1, s2, rfl, h3, h4, h5, h6⟩ := push_ok (ro := ro) (bytes := bytes) (z := z) (w := w) (.inr ⟨b, rfl, h0, hLb, hv⟩ : VecV hp L e (.sl ⟨false, b, 0⟩ k .grow) k get) hL hk hb hw ho
    exact ⟨v2, hp2, hp3, b3, s1, s2, h3, h4, h5, fun i hi hne => h6 i hi fun len cap e => by cases e; exact hne rfl⟩
  · have s1 : stepM ro ⟨hp, L, L⟩ (.bsl e 1 [z] 1 [((0, 1), .c w)]) = some (.sl ⟨false, hp.length, 0⟩ 1 (.known 1), ⟨hp ++ [some (blkOf e [w])], L, L⟩) := by
      simp [stepM, stepK, st_bsl, rep, fillA, opd, hw, splice, newB, St.mm]
    have src : app_src ro (hp ++ [some (blkOf e [w])]) 1 (.sl ⟨false, hp.length, 0⟩ 1 (.known 1)) = some ([w], 1) := by
      have hb : rdB ro (hp ++ [some (blkOf e [w])]) ⟨false, hp.length, 0⟩ = some (blkOf e [w]) := by simp [rdB, lget_eq]
      have hg : (blkOf e [w]).c.row 0 1 = [w] := by simp only [Tr.row, get_blk]; rfl
      have hble : Nat.ble (0 + 1 * 1) (blkOf e [w]).n = true := rfl
      simp only [app_src, hb, hble, cond_true]
      rw [show 1 * 1 = 1 from rfl, hg]
    obtain ⟨blk, hbk, hbe, hbn, hrows⟩ := hv
    have hlt : b < hp.length := lget_lt hbk
    obtain ⟨hp2, e2⟩ : ∃ hp2, hp2 = hp ++ [some (blkOf e [w])] := ⟨_, rfl⟩
    rw [← e2] at src s1
    have hb2 : lget hp2 b = some (some blk) := by rw [e2]; exact lget_ext hbk _
    have hlen2 : hp2.length = hp.length + 1 := by rw [e2]; simp
    refine ⟨_, _, hp2 ++ [some (blkOf e (blk.c.row 0 k ++ [w]))], hp2.length, s1, ?_, by omega, ⟨blkOf e (blk.c.row 0 k ++ [w]), lget_last _ _, rfl, ?_, fun r hr => ?_⟩, ?_, fun i hi hne => ?_⟩
    · have h1 : Nat.ble (k + 1) k = false := by rw [← Bool.not_eq_true, Nat.ble_eq]; omega
      have h2 : (Nat.ble (0 + k) blk.n && fits (k + 1) bytes) = true := by
        rw [fits_small (by omega : k + 1 ≤ 1000000) hb, Bool.and_true, Nat.ble_eq]; omega
      have hrd : rdB ro hp2 ⟨false, b, 0⟩ = some blk := by simp only [rdB, cond_false, hb2]
      simp only [stepM, stepK, opd, st_app, src, app_known, h1, cond_false, hrd, h2, cond_true, St.mm, newB, Nat.mul_one]
    · simp [blkOf, length_row]
    · show (blkOf e (blk.c.row 0 k ++ [w])).c.get r = if r < k then get r else w
      rw [get_blk]
      by_cases hrk : r < k
      · rw [if_pos hrk, List.getD_eq_getElem?_getD, List.getElem?_append_left (by rw [length_row]; exact hrk), getElem?_row, if_pos hrk]
        simp [hrows r hrk]
      · rw [if_neg hrk, List.getD_eq_getElem?_getD, List.getElem?_append_right (by rw [length_row]; omega), length_row, show r - k = 0 by omega]
        rfl
    · simp; omega
    · rw [List.getElem?_append_left (by omega), e2, List.getElem?_append_left hi]
/-- a loop that counts, whatever it carries -/
theorem loop_seq {S R : Type} {b : S → Option (S ⊕ R)} (n : Nat) (I : Nat → S → Prop) (Q : R → Prop) (hin : ∀ i s, i < n → I i s → ∃ s', b s = some (.inl s') ∧ I (i + 1) s') (hout : ∀ s, I n s → ∃ r, b s = some (.inr r) ∧ Q r) :
    ∀ (k i : Nat) (s : S), i + k = n → I i s → ∃ r, loopX b s = some r ∧ Q r
  | 0, i, s, hk, hi => by
    obtain rfl : i = n := by omega
    obtain ⟨r, h1, h2⟩ := hout s hi
    exact ⟨r, loopX_out h1, h2⟩
  | k + 1, i, s, hk, hi => by
    obtain ⟨s', h1, h2⟩ := hin i s (by omega) hi
    obtain ⟨r, h3, h4⟩ := loop_seq n I Q hin hout k (i + 1) s' (by omega) h2
    exact ⟨r, loopX_on h1 h3, h4⟩

theorem tzT_len : tzT.length = 256 := by decide +kernel
theorem tz_num : ∀ x, x < 16 → x ≠ 0 → ch tzT x = tzb x := by decide +kernel
theorem tz_ok {ro : List ABlk} {h : Heap} {x : Nat} (hx : x < 16) (h0 : x ≠ 0) : callX F1 ro 75 [.i .u8 x] h = some (.i .i64 (tzb x : Nat), h, h.length, h.length) := by
  refine g75_ok (meansX_ok F1 ro) rfl ?_
  unfold g75
  have e : evP .e (.ixStr (.c (AVal.s tzT)) (.c (.i .u8 (x : Int)))) = some (.i .u8 (tzb x : Nat)) := by
    show (lget tzT x).map (fun c => mkI .u8 c.toNat) = _
    rw [lget_at tzT x 0 (by rw [tzT_len]; omega)]
    have := tz_num x hx h0
    unfold ch at this
    simp only [Option.map_some, mkI, forceI_eq, this]
  have ht : tzb x < 4 := by unfold tzb; cases x.testBit 0 <;> cases x.testBit 1 <;> cases x.testBit 2 <;> decide
  have e2 : wr .i64 ((tzb x : Nat) : Int) = ((tzb x : Nat) : Int) := wr_id' (by omega) (by omega)
  show bindO (evP .e (.ixStr (.c (AVal.s tzT)) (.c (.i .u8 (x : Int))))) _ = _
  simp only [e, bindO_some, asI_i, forceI_eq, e2, tupA]
  exact fin_pure rfl
theorem sm4 : ∀ a, a < 4 → shrV .i64 (Int.ofNat a) 1 = Int.ofNat (a / 2) ∧ bitV .and .i64 (Int.ofNat a) 1 = Int.ofNat (a % 2) := by decide +kernel
theorem sm8 : ∀ t, t < 8 → bitV .and .i64 (Int.ofNat t) 3 = Int.ofNat (t % 4) ∧ bitV .and .i64 (Int.ofNat t) 1 = Int.ofNat (t % 2) := by decide +kernel
end Go.Proofs.Ytgbkicelkpagpaa.W

/- The exclusive or of rows; rows of zeros; additive rules. -/
import Derived.Test.YtjjinlljdfaipaaVmWy
import Derived.Test.YtjjinlljdfaipaaVmM13
open Go.Vm
set_option linter.unusedVariables false
namespace Go.Proofs.Ytjjinlljdfaipaa.W
open Go

def addS (a b : List UInt8) : List UInt8 := (List.range a.length).map fun i => UInt8.ofNat (48 + (bw a i + bw b i) % 2)
theorem xor_num {c d : Nat} (hc : c = 48 ∨ c = 49) (hd : d = 48 ∨ d = 49) : bitV .xor .u8 (wr .u8 (48 + wr .u8 ((c : Int) - 48))) (wr .u8 ((d : Int) - 48)) = ((48 + (c - 48 + (d - 48)) % 2 : Nat) : Int) := by
  rcases hc with rfl | rfl <;> rcases hd with rfl | rfl <;> decide +kernel
theorem add_ok {ro : List ABlk} {h : Heap} {a b : List UInt8} (ha : okR a) (hb : okR b) (hab : b.length = a.length) (hl : a.length ≤ 1000) : callX F1 ro 44 [.s a, .s b] h = some (.s (addS a b), h, h.length, h.length) := by
  refine g44_ok (meansX_ok F1 ro) rfl ?_
  unfold g44
  have hmk := mk_ok (ro := ro) (hp := h) (l := h.length) (p := h.length) (e := 5) (es := 1) (bytes := 1) (v := AVal.i IntKind.u8 0) (n := a.length) hl (by omega)
  obtain ⟨hq, k1, k2, k3, k4⟩ := bytes_loop (ro := ro) (h := h) (n := a.length) (g := fun j => 48 + (bw a j + bw b j) % 2)
    (b := fun z => g44_b0 (meansX F1 ro) ro a b (.sl ⟨false, h.length, 0⟩ a.length (.known a.length)) z.1 z.2)
    (fun k hk => by omega)
    (fun k => k) (fun k j => Nat.blt j k) (fun k hk => hk) (fun j _ => blt_none j) (fun j hj => blt_all hj) (fun k j hk hj => blt_succ hk hj)
    (fun k hk hp' hp'' hL hst => by
      have hlt : ((k : Int) < (a.length : Int)) := by omega
      have w1 := xor_num (ha k hk) (hb k (by omega))
      have ei := ixS_eq (q := ⟨false, h.length, 0⟩) (len := a.length) (cap := .known a.length) (i := k) hk
      have hst' : stepM ro ⟨hp', h.length, h.length⟩ (.st 1 (.c (.p (some ⟨false, h.length, 0 + k⟩))) (.c (.i .u8 ((48 + (ch a k - 48 + (ch b k - 48)) % 2 : Nat) : Int)))) = some (und, ⟨hp'', h.length, h.length⟩) := hst
      simp only [g44_b0, e_len, bindO_some, asI_i, forceB_eq, ltI_eq, decide_eq_true hlt, cond_true, e_ix hk, e_ix (by omega : k < b.length), forceI_eq, w1, ei, hst', bindP_some, wr_next (by omega : k ≤ 1000000)])
    (fun m => by
      have : decide ((a.length : Int) < (a.length : Int)) = false := lt_no
      show g44_b0 (meansX F1 ro) ro a b _ a.length m = _
      simp only [g44_b0, e_len, bindO_some, asI_i, forceB_eq, ltI_eq, this, cond_false])
  simp only [e_len, bindO_some, asI_i, hmk, bindP_some, meansX_loop, k1, k2, asS_s, tupA]
  rw [fin_take (by rfl), k3]
  rfl
theorem addS_len (a b : List UInt8) : (addS a b).length = a.length := by simp [addS]
theorem addS_ch {a b : List UInt8} {i : Nat} (hi : i < a.length) : ch (addS a b) i = 48 + (bw a i + bw b i) % 2 := made_ch (g := fun j => 48 + (bw a j + bw b j) % 2) hi (by omega)
theorem addS_row {a b : List UInt8} : okR (addS a b) := fun i hi => by
  rw [addS_len] at hi
  rw [addS_ch hi]; omega
theorem add_ring {u : Nat} {a b : List UInt8} (ha : okR a) (hb : okR b) (hab : b.length = a.length) (h0 : 0 < a.length)
    (hv : ∀ l c r l' c' r', l < 2 → c < 2 → r < 2 → l' < 2 → c' < 2 → r' < 2 → nx u (4 * ((l + l') % 2) + 2 * ((c + c') % 2) + (r + r') % 2) = (nx u (4 * l + 2 * c + r) + nx u (4 * l' + 2 * c' + r')) % 2) :
    ringS u (addS a b) = addS (ringS u a) (ringS u b) := by
  refine str_ext (by rw [ringS_len (by rw [addS_len]; exact h0), addS_len, addS_len, ringS_len h0]) fun i hi => ?_
  rw [ringS_len (by rw [addS_len]; exact h0), addS_len] at hi
  rw [ringS_ch (by rw [addS_len]; exact h0) (by rw [addS_len]; exact hi), addS_ch (by rw [ringS_len h0]; exact hi), addS_len]
  have la : ∀ j, j < a.length → bw a j < 2 := fun j hj => (bw_lt ha hj).1
  have lb : ∀ j, j < a.length → bw b j < 2 := fun j hj => (bw_lt hb (by omega)).1
  have ob : ∀ j, j < a.length → bw (addS a b) j = (bw a j + bw b j) % 2 := fun j hj => by
    show ch (addS a b) j - 48 = _
    rw [addS_ch hj]; omega
  have ra : bw (ringS u a) i = nx u (4 * bw a ((i + a.length - 1) % a.length) + 2 * bw a i + bw a ((i + 1) % a.length)) := by
    show ch (ringS u a) i - 48 = _
    rw [ringS_ch h0 hi]; omega
  have rb : bw (ringS u b) i = nx u (4 * bw b ((i + a.length - 1) % a.length) + 2 * bw b i + bw b ((i + 1) % a.length)) := by
    show ch (ringS u b) i - 48 = _
    rw [ringS_ch (by omega) (by omega), hab]; omega
  have m1 := Nat.mod_lt (i + a.length - 1) h0
  have m2 := Nat.mod_lt (i + 1) h0
  rw [ob _ m1, ob _ hi, ob _ m2, hv _ _ _ _ _ _ (la _ m1) (la _ hi) (la _ m2) (lb _ m1) (lb _ hi) (lb _ m2), ra, rb]

/- a row of zeros -/
def zer (m : Nat) : List UInt8 := (List.range m).map fun _ => UInt8.ofNat 48
theorem zer_num : ∀ t, t < 1000 → Int.tmod (shrV .i64 0 (Int.ofNat t)) 2 = 0 := by decide +kernel
theorem zer_ok {ro : List ABlk} {h : Heap} {m : Nat} (hm : m ≤ 1000) : callX F1 ro 40 [.i .i64 0, .i .i64 m] h = some (.s (zer m), h, h.length, h.length) := by
  refine g40_ok (meansX_ok F1 ro) rfl ?_
  unfold g40
  have hmk := mk_ok (ro := ro) (hp := h) (l := h.length) (p := h.length) (e := 5) (es := 1) (bytes := 1) (v := AVal.i IntKind.u8 0) (n := m) hm (by omega)
  obtain ⟨hq, k1, k2, k3, k4⟩ := bytes_loop (ro := ro) (h := h) (n := m) (g := fun _ => 48)
    (b := fun z => g40_b0 (meansX F1 ro) ro 0 m (.sl ⟨false, h.length, 0⟩ m (.known m)) z.1 z.2)
    (fun k hk => by omega)
    (fun k => k) (fun k j => Nat.blt j k) (fun k hk => hk) (fun j _ => blt_none j) (fun j hj => blt_all hj) (fun k j hk hj => blt_succ hk hj)
    (fun k hk hp' hp'' hL hst => by
      have hlt : ((k : Int) < (m : Int)) := by omega
      have e1 : wr .i64 ((m : Int) - 1) = (m : Int) - 1 := wr_id' (by omega) (by omega)
      have e2 : wr .i64 ((m : Int) - 1 - (k : Int)) = ((m - 1 - k : Nat) : Int) := by rw [wr_id' (by omega) (by omega)]; omega
      have e3 : Int.tmod (shrV .i64 0 ((m - 1 - k : Nat) : Int)) 2 = 0 := zer_num _ (by omega)
      have e4 : evP .e (.ixStr (.c (AVal.s [48, 49])) (.c (.i .i64 0))) = some (.i .u8 48) := rfl
      have ei := ixS_eq (q := ⟨false, h.length, 0⟩) (len := m) (cap := .known m) (i := k) hk
      have hst' : stepM ro ⟨hp', h.length, h.length⟩ (.st 1 (.c (.p (some ⟨false, h.length, 0 + k⟩))) (.c (.i .u8 48))) = some (und, ⟨hp'', h.length, h.length⟩) := hst
      simp only [g40_b0, forceB_eq, ltI_eq, decide_eq_true hlt, cond_true, forceI_eq, e1, e2, nneg, chk_true, e3, e4, bindO_some, asI_i, ei, hst', bindP_some, wr_next (by omega : k ≤ 1000000)])
    (fun mm => by
      have : decide ((m : Int) < (m : Int)) = false := lt_no
      show g40_b0 (meansX F1 ro) ro 0 m _ m mm = _
      simp only [g40_b0, forceB_eq, ltI_eq, this, cond_false])
  simp only [hmk, bindP_some, meansX_loop, k1, k2, bindO_some, asS_s, tupA]
  rw [fin_take (by rfl), k3]
  rfl
theorem zer_len (m : Nat) : (zer m).length = m := by simp [zer]
theorem zer_ch {m i : Nat} (hi : i < m) : ch (zer m) i = 48 := made_ch (g := fun _ => 48) hi (by omega)
theorem zer_row {m : Nat} : okR (zer m) := fun i hi => by rw [zer_len] at hi; exact .inl (zer_ch hi)

/- additive rules -/
def linB (n : Nat) : Bool := !addN n || ((List.range 2).all fun l => (List.range 2).all fun c => (List.range 2).all fun r => (List.range 2).all fun l' => (List.range 2).all fun c' => (List.range 2).all fun r' =>
  Nat.beq (nx n (4 * ((l + l') % 2) + 2 * ((c + c') % 2) + (r + r') % 2)) ((nx n (4 * l + 2 * c + r) + nx n (4 * l' + 2 * c' + r')) % 2))
theorem lin_tab : ((List.range 256).all linB) = true := by decide +kernel
theorem lin_of {n : Nat} (hn : n < 256) (ha : addN n = true) : ∀ l c r l' c' r', l < 2 → c < 2 → r < 2 → l' < 2 → c' < 2 → r' < 2 → nx n (4 * ((l + l') % 2) + 2 * ((c + c') % 2) + (r + r') % 2) = (nx n (4 * l + 2 * c + r) + nx n (4 * l' + 2 * c' + r')) % 2 := fun l c r l' c' r' h1 h2 h3 h4 h5 h6 => by
  have h := List.all_eq_true.1 lin_tab n (List.mem_range.2 hn)
  unfold linB at h
  rw [ha, Bool.not_true, Bool.false_or] at h
  have := List.all_eq_true.1 (List.all_eq_true.1 (List.all_eq_true.1 (List.all_eq_true.1 (List.all_eq_true.1 (List.all_eq_true.1 h l (List.mem_range.2 h1)) c (List.mem_range.2 h2)) r (List.mem_range.2 h3)) l' (List.mem_range.2 h4)) c' (List.mem_range.2 h5)) r' (List.mem_range.2 h6)
  exact beq_iff.1 this
theorem addN_onto : ((List.range 256).all fun n => !addN n || (Nat.beq n 0 || (orphT n).isEmpty)) = true := by decide +kernel
theorem n4_zero (c a b d e : Nat) : n4 0 (c + 1) (a, b, d, e) = (0, 0, 0, 0) := by
  have : ∀ t, Nat.beq (nx 0 t) (c + 1) = false := fun t => by
    rw [← Bool.not_eq_true, beq_iff]
    unfold nx; simp
  simp only [n4, this, sel, cond_false]
theorem n4_none (c : Nat) : n4 0 c (0, 0, 0, 0) = (0, 0, 0, 0) := by
  have : ∀ b, sel b 0 = 0 := fun b => by cases b <;> rfl
  simp only [n4, this]
theorem w4_zero (s : List UInt8) : ∀ k, w4 0 s k = (0, 0, 0, 0) ∨ ∀ i, i < k → bw s i = 0
  | 0 => .inr fun i hi => by omega
  | k + 1 => by
    rcases w4_zero s k with h | h
    · left; show n4 0 (bw s k) (w4 0 s k) = _; rw [h, n4_none]
    · cases hb : bw s k with
      | zero =>
        right
        intro i hi
        by_cases e : i = k
        · rw [e]; exact hb
        · exact h i (by omega)
      | succ c =>
        left; show n4 0 (bw s k) (w4 0 s k) = _
        rw [hb]
        obtain ⟨a, b, d, e⟩ := w4 0 s k
        exact n4_zero c _ _ _ _
theorem w4_congr {u : Nat} {s s' : List UInt8} : ∀ k, (∀ i, i < k → bw s i = bw s' i) → w4 u s k = w4 u s' k
  | 0, _ => rfl
  | k + 1, h => by
    show n4 u (bw s k) (w4 u s k) = n4 u (bw s' k) (w4 u s' k)
    rw [h k (by omega), w4_congr k fun i hi => h i (by omega)]
theorem add_ways {n : Nat} (hn : n < 256) (ha : addN n = true) {s : List UInt8} (hs : okR s) : waysV n s = 0 ∨ waysV n s = waysV n (zer s.length) := by
  have h := List.all_eq_true.1 addN_onto n (List.mem_range.2 hn)
  simp only [ha, Bool.not_true, Bool.false_or, Bool.or_eq_true, beq_iff] at h
  rcases h with rfl | h
  · rw [ways_sum, ways_sum, zer_len]
    rcases w4_zero s s.length with e | e
    · left; rw [e]; rfl
    · right
      rw [w4_congr (s' := zer s.length) s.length fun i hi => by rw [e i hi]; unfold bw; rw [zer_ch hi]]
  · right
    rw [onto_ways hn h hs, onto_ways hn h zer_row]
end Go.Proofs.Ytjjinlljdfaipaa.W

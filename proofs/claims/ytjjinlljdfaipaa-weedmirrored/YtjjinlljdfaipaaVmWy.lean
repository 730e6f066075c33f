/- Rows reversed, and with 0 and 1 exchanged. -/
import Derived.Test.YtjjinlljdfaipaaVmWx
open Go.Vm
set_option linter.unusedVariables false
namespace Go.Proofs.Ytjjinlljdfaipaa.W
open Go

def revS (s : List UInt8) : List UInt8 := (List.range s.length).map fun i => UInt8.ofNat (ch s (s.length - 1 - i))
theorem rev_ok {ro : List ABlk} {h : Heap} {s : List UInt8} (hl : s.length ≤ 1000) : callX F1 ro 41 [.s s] h = some (.s (revS s), h, h.length, h.length) := by
  refine g41_ok (meansX_ok F1 ro) rfl ?_
  unfold g41
  have hmk := mk_ok (ro := ro) (hp := h) (l := h.length) (p := h.length) (e := 5) (es := 1) (bytes := 1) (v := AVal.i IntKind.u8 0) (n := s.length) hl (by omega)
  obtain ⟨hq, k1, k2, k3, k4⟩ := bytes_loop (ro := ro) (h := h) (n := s.length) (g := fun j => ch s (s.length - 1 - j))
    (b := fun z => g41_b0 (meansX F1 ro) ro s (.sl ⟨false, h.length, 0⟩ s.length (.known s.length)) z.1 z.2)
    (fun k hk => ch_lt s _)
    (fun k => s.length - 1 - k) (fun k j => Nat.blt (s.length - 1 - j) k) (fun k hk => by omega) (fun j _ => blt_none _) (fun j hj => blt_all (by omega))
    (fun k j hk hj => by
      rw [blt_succ (n := s.length) hk (by omega)]
      congr 1
      cases hb : Nat.beq j (s.length - 1 - k)
      · rw [← Bool.not_eq_true, beq_iff] at hb ⊢; omega
      · rw [beq_iff] at hb ⊢; omega)
    (fun k hk hp' hp'' hL hst => by
      have hlt : ((k : Int) < (s.length : Int)) := by omega
      have w1 : wr .i64 ((s.length : Int) - 1) = (s.length : Int) - 1 := wr_id' (by omega) (by omega)
      have w2 : wr .i64 ((s.length : Int) - 1 - (k : Int)) = ((s.length - 1 - k : Nat) : Int) := by rw [wr_id' (by omega) (by omega)]; omega
      have ei := ixS_eq (q := ⟨false, h.length, 0⟩) (len := s.length) (cap := .known s.length) (i := s.length - 1 - k) (by omega)
      have hst' : stepM ro ⟨hp', h.length, h.length⟩ (.st 1 (.c (.p (some ⟨false, h.length, 0 + (s.length - 1 - k)⟩))) (.c (.i .u8 ((ch s k : Nat) : Int)))) = some (und, ⟨hp'', h.length, h.length⟩) := by
        have e : s.length - 1 - (s.length - 1 - k) = k := by omega
        simp only [e] at hst
        exact hst
      simp only [g41_b0, e_len, bindO_some, asI_i, forceB_eq, ltI_eq, decide_eq_true hlt, cond_true, forceI_eq, w1, w2, e_ix hk, ei, hst', bindP_some, wr_next (by omega : k ≤ 1000000)])
    (fun m => by
      have : decide ((s.length : Int) < (s.length : Int)) = false := lt_no
      show g41_b0 (meansX F1 ro) ro s _ s.length m = _
      simp only [g41_b0, e_len, bindO_some, asI_i, forceB_eq, ltI_eq, this, cond_false])
  simp only [e_len, bindO_some, asI_i, hmk, bindP_some, meansX_loop, k1, k2, asS_s, tupA]
  rw [fin_take (by rfl), k3]
  rfl
def othS (s : List UInt8) : List UInt8 := (List.range s.length).map fun i => UInt8.ofNat (97 - ch s i)
theorem oth_num : ∀ c, c < 98 → wr .u8 (97 - Int.ofNat c) = Int.ofNat (97 - c) := by decide +kernel
theorem oth_ok {ro : List ABlk} {h : Heap} {s : List UInt8} (hs : okR s) (hl : s.length ≤ 1000) : callX F1 ro 42 [.s s] h = some (.s (othS s), h, h.length, h.length) := by
  refine g42_ok (meansX_ok F1 ro) rfl ?_
  unfold g42
  have hmk := mk_ok (ro := ro) (hp := h) (l := h.length) (p := h.length) (e := 5) (es := 1) (bytes := 1) (v := AVal.i IntKind.u8 0) (n := s.length) hl (by omega)
  obtain ⟨hq, k1, k2, k3, k4⟩ := bytes_loop (ro := ro) (h := h) (n := s.length) (g := fun j => 97 - ch s j)
    (b := fun z => g42_b0 (meansX F1 ro) ro s (.sl ⟨false, h.length, 0⟩ s.length (.known s.length)) z.1 z.2)
    (fun k hk => by omega)
    (fun k => k) (fun k j => Nat.blt j k) (fun k hk => hk) (fun j _ => blt_none j) (fun j hj => blt_all hj) (fun k j hk hj => blt_succ hk hj)
    (fun k hk hp' hp'' hL hst => by
      have hlt : ((k : Int) < (s.length : Int)) := by omega
      have w1 : wr .u8 (97 - ((ch s k : Nat) : Int)) = ((97 - ch s k : Nat) : Int) := oth_num _ (by rcases hs k hk with e | e <;> omega)
      have ei := ixS_eq (q := ⟨false, h.length, 0⟩) (len := s.length) (cap := .known s.length) (i := k) hk
      have hst' : stepM ro ⟨hp', h.length, h.length⟩ (.st 1 (.c (.p (some ⟨false, h.length, 0 + k⟩))) (.c (.i .u8 ((97 - ch s k : Nat) : Int)))) = some (und, ⟨hp'', h.length, h.length⟩) := hst
      simp only [g42_b0, e_len, bindO_some, asI_i, forceB_eq, ltI_eq, decide_eq_true hlt, cond_true, e_ix hk, forceI_eq, w1, ei, hst', bindP_some, wr_next (by omega : k ≤ 1000000)])
    (fun m => by
      have : decide ((s.length : Int) < (s.length : Int)) = false := lt_no
      show g42_b0 (meansX F1 ro) ro s _ s.length m = _
      simp only [g42_b0, e_len, bindO_some, asI_i, forceB_eq, ltI_eq, this, cond_false])
  simp only [e_len, bindO_some, asI_i, hmk, bindP_some, meansX_loop, k1, k2, asS_s, tupA]
  rw [fin_take (by rfl), k3]
  rfl

/- strings letter by letter -/
theorem str_ext {a b : List UInt8} (hl : a.length = b.length) (h : ∀ i, i < a.length → ch a i = ch b i) : a = b := by
  apply List.ext_getElem hl
  intro i h1 h2
  have := h i h1
  simp only [ch, List.getD, List.getElem?_eq_getElem h1, List.getElem?_eq_getElem h2, Option.getD_some] at this
  exact UInt8.toNat_inj.1 this
theorem made_ch {n i : Nat} {g : Nat → Nat} (hi : i < n) (hg : g i < 256) : ch ((List.range n).map fun j => UInt8.ofNat (g j)) i = g i := by
  simp only [ch, List.getD, List.getElem?_map]
  rw [List.getElem?_range hi]
  show (UInt8.ofNat (g i)).toNat = g i
  rw [UInt8.toNat_ofNat']
  exact Nat.mod_eq_of_lt hg
theorem revS_len (s : List UInt8) : (revS s).length = s.length := by simp [revS]
theorem othS_len (s : List UInt8) : (othS s).length = s.length := by simp [othS]
theorem revS_ch {s : List UInt8} {i : Nat} (hi : i < s.length) : ch (revS s) i = ch s (s.length - 1 - i) := made_ch hi (ch_lt s _)
theorem othS_ch {s : List UInt8} {i : Nat} (hi : i < s.length) : ch (othS s) i = 97 - ch s i := made_ch (g := fun j => 97 - ch s j) hi (by omega)
theorem rev_rev (s : List UInt8) : revS (revS s) = s := str_ext (by rw [revS_len, revS_len]) fun i hi => by
  rw [revS_len, revS_len] at hi
  rw [revS_ch (by rw [revS_len]; exact hi), revS_len, revS_ch (by omega)]
  congr 1
  omega
theorem oth_oth {s : List UInt8} (hs : okR s) : othS (othS s) = s := str_ext (by rw [othS_len, othS_len]) fun i hi => by
  rw [othS_len, othS_len] at hi
  rw [othS_ch (by rw [othS_len]; exact hi), othS_ch hi]
  rcases hs i hi with e | e <;> omega
theorem rev_row {s : List UInt8} (hs : okR s) : okR (revS s) := fun i hi => by
  rw [revS_len] at hi
  rw [revS_ch hi]
  exact hs _ (by omega)
theorem oth_row {s : List UInt8} (hs : okR s) : okR (othS s) := fun i hi => by
  rw [othS_len] at hi
  rw [othS_ch hi]
  rcases hs i hi with e | e <;> omega

theorem rev_ring {u v : Nat} {s : List UInt8} (hs : okR s) (h0 : 0 < s.length) (hv : ∀ l c r, l < 2 → c < 2 → r < 2 → nx v (4 * l + 2 * c + r) = nx u (4 * r + 2 * c + l)) : ringS v (revS s) = revS (ringS u s) := by
  refine str_ext (by rw [ringS_len (by rw [revS_len]; exact h0), revS_len, revS_len, ringS_len h0]) fun i hi => ?_
  rw [ringS_len (by rw [revS_len]; exact h0), revS_len] at hi
  rw [ringS_ch (by rw [revS_len]; exact h0) (by rw [revS_len]; exact hi), revS_ch (by rw [ringS_len h0]; exact hi), ringS_len h0, ringS_ch h0 (by omega), revS_len]
  have lt : ∀ j, j < s.length → bw s j < 2 := fun j hj => (bw_lt hs hj).1
  have rb : ∀ j, j < s.length → bw (revS s) j = bw s (s.length - 1 - j) := fun j hj => by unfold bw; rw [revS_ch hj]
  have m1 := Nat.mod_lt (i + s.length - 1) h0
  have m2 := Nat.mod_lt (i + 1) h0
  rw [rb _ m1, rb _ hi, rb _ m2, hv _ _ _ (lt _ (by omega)) (lt _ (by omega)) (lt _ (by omega))]
  have e1 : s.length - 1 - (i + s.length - 1) % s.length = (s.length - 1 - i + 1) % s.length := by
    by_cases hz : i = 0
    · subst hz
      rw [Nat.mod_eq_of_lt (by omega : 0 + s.length - 1 < s.length), show s.length - 1 - 0 + 1 = s.length by omega, Nat.mod_self]
      omega
    · rw [show i + s.length - 1 = (i - 1) + s.length by omega, Nat.add_mod_right, Nat.mod_eq_of_lt (by omega : i - 1 < s.length), Nat.mod_eq_of_lt (by omega : s.length - 1 - i + 1 < s.length)]
      omega
  have e2 : s.length - 1 - (i + 1) % s.length = (s.length - 1 - i + s.length - 1) % s.length := by
    by_cases hz : i + 1 = s.length
    · rw [hz, Nat.mod_self, show s.length - 1 - i + s.length - 1 = s.length - 1 by omega, Nat.mod_eq_of_lt (by omega)]
      omega
    · rw [Nat.mod_eq_of_lt (by omega : i + 1 < s.length), show s.length - 1 - i + s.length - 1 = (s.length - 2 - i) + s.length by omega, Nat.add_mod_right, Nat.mod_eq_of_lt (by omega)]
      omega
  rw [e1, e2]
theorem oth_ring {u v : Nat} {s : List UInt8} (hs : okR s) (h0 : 0 < s.length) (hv : ∀ l c r, l < 2 → c < 2 → r < 2 → nx v (4 * (1 - l) + 2 * (1 - c) + (1 - r)) = 1 - nx u (4 * l + 2 * c + r)) : ringS v (othS s) = othS (ringS u s) := by
  refine str_ext (by rw [ringS_len (by rw [othS_len]; exact h0), othS_len, othS_len, ringS_len h0]) fun i hi => ?_
  rw [ringS_len (by rw [othS_len]; exact h0), othS_len] at hi
  rw [ringS_ch (by rw [othS_len]; exact h0) (by rw [othS_len]; exact hi), othS_ch (by rw [ringS_len h0]; exact hi), ringS_ch h0 hi, othS_len]
  have lt : ∀ j, j < s.length → bw s j < 2 := fun j hj => (bw_lt hs hj).1
  have ob : ∀ j, j < s.length → bw (othS s) j = 1 - bw s j := fun j hj => by
    unfold bw; rw [othS_ch hj]
    rcases hs j hj with e | e <;> omega
  rw [ob _ (Nat.mod_lt _ h0), ob _ hi, ob _ (Nat.mod_lt _ h0), hv _ _ _ (lt _ (Nat.mod_lt _ h0)) (lt _ hi) (lt _ (Nat.mod_lt _ h0))]
  have := nx_le u (4 * bw s ((i + s.length - 1) % s.length) + 2 * bw s i + bw s ((i + 1) % s.length))
  omega
theorem rev_yrs {u v : Nat} {s : List UInt8} (hs : okR s) (h0 : 0 < s.length) (hv : ∀ l c r, l < 2 → c < 2 → r < 2 → nx v (4 * l + 2 * c + r) = nx u (4 * r + 2 * c + l)) : ∀ k, revS (yrs v (revS s) k) = yrs u s k := fun k => by
  have : ∀ k, yrs v (revS s) k = revS (yrs u s k) := by
    intro k
    induction k with
    | zero => rfl
    | succ k ih =>
      obtain ⟨q1, q2⟩ := yrs_spec (u := u) hs h0 k
      show ringS v (yrs v (revS s) k) = revS (ringS u (yrs u s k))
      rw [ih]
      exact rev_ring q1 (by omega) hv
  rw [this, rev_rev]
theorem oth_yrs {u v : Nat} {s : List UInt8} (hs : okR s) (h0 : 0 < s.length) (hv : ∀ l c r, l < 2 → c < 2 → r < 2 → nx v (4 * (1 - l) + 2 * (1 - c) + (1 - r)) = 1 - nx u (4 * l + 2 * c + r)) : ∀ k, yrs v (othS s) k = othS (yrs u s k) := by
  intro k
  induction k with
  | zero => rfl
  | succ k ih =>
    obtain ⟨q1, q2⟩ := yrs_spec (u := u) hs h0 k
    show ringS v (yrs v (othS s) k) = othS (ringS u (yrs u s k))
    rw [ih]
    exact oth_ring q1 (by omega) hv
end Go.Proofs.Ytjjinlljdfaipaa.W

/- Ways of onto rules, and of the others: tables. -/
import Derived.Test.YtjjinlljdfaipaaVmWw
import Derived.Test.YtjjinlljdfaipaaVmWo
open Go.Vm
set_option linter.unusedVariables false
namespace Go.Proofs.Ytjjinlljdfaipaa.W
open Go

abbrev Q4 := Nat × Nat × Nat × Nat
def sel (b : Bool) (a : Nat) : Nat := cond b a 0
def n4 (u c : Nat) : Q4 → Q4
  | (a, b, d, e) => (sel (Nat.beq (nx u 0) c) a + sel (Nat.beq (nx u 4) c) d, sel (Nat.beq (nx u 1) c) a + sel (Nat.beq (nx u 5) c) d, sel (Nat.beq (nx u 2) c) b + sel (Nat.beq (nx u 6) c) e, sel (Nat.beq (nx u 3) c) b + sel (Nat.beq (nx u 7) c) e)
theorem st1_at {u c t j : Nat} {f to : Nat → Nat} : st1 u c f to t j = to j + cond (Nat.beq j (t % 4)) (sel (Nat.beq (nx u t) c) (f (t / 2))) 0 := by
  unfold st1 sel
  cases hb : Nat.beq (nx u t) c
  · rw [if_neg (fun e => by rw [e, Nat.beq_refl] at hb; cases hb)]
    cases Nat.beq j (t % 4) <;> rfl
  · rw [if_pos (beq_iff.1 hb)]
    show (if j = t % 4 then _ else _) = _
    cases hj : Nat.beq j (t % 4)
    · rw [if_neg (fun e => by rw [e, Nat.beq_refl] at hj; cases hj)]; rfl
    · rw [if_pos (beq_iff.1 hj)]; rfl
def tup4 (f : Nat → Nat) : Q4 := (f 0, f 1, f 2, f 3)
theorem nxt_n4 (u c : Nat) (f : Nat → Nat) : tup4 (nxt u c f) = n4 u c (tup4 f) := by
  have h0 : nxt u c f 0 = sel (Nat.beq (nx u 0) c) (f 0) + sel (Nat.beq (nx u 4) c) (f 2) := by
    simp only [nxt, stp, st1_at]
    show 0 + sel _ (f 0) + 0 + 0 + 0 + sel _ (f 2) + 0 + 0 + 0 = _
    omega
  have h1 : nxt u c f 1 = sel (Nat.beq (nx u 1) c) (f 0) + sel (Nat.beq (nx u 5) c) (f 2) := by
    simp only [nxt, stp, st1_at]
    show 0 + 0 + sel _ (f 0) + 0 + 0 + 0 + sel _ (f 2) + 0 + 0 = _
    omega
  have h2 : nxt u c f 2 = sel (Nat.beq (nx u 2) c) (f 1) + sel (Nat.beq (nx u 6) c) (f 3) := by
    simp only [nxt, stp, st1_at]
    show 0 + 0 + 0 + sel _ (f 1) + 0 + 0 + 0 + sel _ (f 3) + 0 = _
    omega
  have h3 : nxt u c f 3 = sel (Nat.beq (nx u 3) c) (f 1) + sel (Nat.beq (nx u 7) c) (f 3) := by
    simp only [nxt, stp, st1_at]
    show 0 + 0 + 0 + 0 + sel _ (f 1) + 0 + 0 + 0 + sel _ (f 3) = _
    omega
  unfold tup4 n4
  rw [h0, h1, h2, h3]
def w4 (u : Nat) (s : List UInt8) : Nat → Q4
  | 0 => (1, 1, 1, 1)
  | k + 1 => n4 u (bw s k) (w4 u s k)
theorem w4_eq (u : Nat) (s : List UInt8) : ∀ k, tup4 (wkN u s (fun _ => 1) k) = w4 u s k
  | 0 => rfl
  | k + 1 => by
    show tup4 (nxt u (bw s k) (wkN u s (fun _ => 1) k)) = n4 u (bw s k) (w4 u s k)
    rw [nxt_n4, w4_eq u s k]
def sum4 : Q4 → Nat
  | (a, b, c, d) => a + b + c + d
theorem ways_sum (u : Nat) (s : List UInt8) : waysV u s = sum4 (w4 u s s.length) := by rw [← w4_eq]; rfl

/- onto rules: the counts that come -/
def eq4 : Q4 → Q4 → Bool
  | (a, b, c, d), (a', b', c', d') => Nat.beq a a' && (Nat.beq b b' && (Nat.beq c c' && Nat.beq d d'))
theorem eq4_eq {v w : Q4} (h : eq4 v w = true) : v = w := by
  obtain ⟨a, b, c, d⟩ := v
  obtain ⟨a', b', c', d'⟩ := w
  simp only [eq4, Bool.and_eq_true, beq_iff] at h
  obtain ⟨rfl, rfl, rfl, rfl⟩ := h
  rfl
def mem4 (v : Q4) : List Q4 → Bool
  | [] => false
  | w :: l => cond (eq4 v w) true (mem4 v l)
theorem mem4_mem {v : Q4} : ∀ {l : List Q4}, mem4 v l = true → v ∈ l
  | [], h => by cases h
  | w :: l, h => by
    unfold mem4 at h
    cases hc : eq4 v w
    · rw [hc] at h
      exact List.mem_cons_of_mem _ (mem4_mem h)
    · rw [eq4_eq hc]; exact List.mem_cons_self
def ontoL : List (Nat × List Q4) := [(15, [(1, 1, 1, 1)]), (30, [(1, 1, 1, 1)]), (45, [(1, 1, 1, 1)]), (51, [(0, 0, 2, 2), (1, 1, 1, 1), (2, 2, 0, 0)]), (60, [(1, 1, 1, 1)]), (75, [(1, 1, 1, 1)]), (85, [(0, 0, 0, 4), (0, 0, 4, 0), (0, 2, 0, 2), (0, 4, 0, 0), (1, 1, 1, 1), (2, 0, 2, 0), (4, 0, 0, 0)]), (86, [(0, 0, 0, 4), (0, 0, 4, 0), (0, 1, 0, 3), (0, 1, 3, 0), (0, 2, 0, 2), (0, 2, 2, 0), (0, 3, 0, 1), (0, 3, 1, 0), (0, 4, 0, 0), (1, 0, 0, 3), (1, 0, 3, 0), (1, 1, 0, 2), (1, 1, 1, 1), (1, 1, 2, 0), (1, 2, 0, 1), (1, 2, 1, 0), (1, 3, 0, 0), (2, 0, 0, 2), (2, 0, 2, 0), (2, 1, 0, 1), (2, 1, 1, 0), (2, 2, 0, 0), (3, 0, 0, 1), (3, 0, 1, 0), (3, 1, 0, 0), (4, 0, 0, 0)]), (89, [(0, 0, 0, 4), (0, 0, 1, 3), (0, 0, 2, 2), (0, 0, 3, 1), (0, 0, 4, 0), (0, 1, 0, 3), (0, 1, 2, 1), (0, 2, 0, 2), (0, 2, 1, 1), (0, 3, 0, 1), (0, 4, 0, 0), (1, 0, 1, 2), (1, 0, 3, 0), (1, 1, 1, 1), (2, 0, 1, 1), (2, 0, 2, 0), (3, 0, 1, 0), (4, 0, 0, 0)]), (90, [(1, 1, 1, 1)]), (101, [(0, 0, 0, 4), (0, 0, 4, 0), (0, 1, 0, 3), (0, 2, 0, 2), (0, 3, 0, 1), (0, 4, 0, 0), (1, 0, 3, 0), (1, 1, 0, 2), (1, 1, 1, 1), (1, 1, 2, 0), (1, 2, 1, 0), (1, 3, 0, 0), (2, 0, 2, 0), (2, 1, 0, 1), (2, 2, 0, 0), (3, 0, 1, 0), (3, 1, 0, 0), (4, 0, 0, 0)]), (102, [(0, 2, 2, 0), (1, 1, 1, 1), (2, 0, 0, 2)]), (105, [(1, 1, 1, 1)]), (106, [(0, 0, 0, 4), (0, 0, 1, 3), (0, 0, 2, 2), (0, 0, 3, 1), (0, 0, 4, 0), (0, 1, 0, 3), (0, 1, 1, 2), (0, 1, 2, 1), (0, 1, 3, 0), (0, 2, 0, 2), (0, 2, 1, 1), (0, 2, 2, 0), (0, 3, 0, 1), (0, 3, 1, 0), (0, 4, 0, 0), (1, 0, 0, 3), (1, 0, 1, 2), (1, 0, 2, 1), (1, 0, 3, 0), (1, 1, 1, 1), (2, 0, 0, 2), (2, 0, 1, 1), (2, 0, 2, 0), (3, 0, 0, 1), (3, 0, 1, 0), (4, 0, 0, 0)]), (120, [(1, 1, 1, 1)]), (135, [(1, 1, 1, 1)]), (149, [(0, 0, 0, 4), (0, 0, 1, 3), (0, 0, 2, 2), (0, 0, 3, 1), (0, 0, 4, 0), (0, 1, 0, 3), (0, 1, 1, 2), (0, 1, 2, 1), (0, 1, 3, 0), (0, 2, 0, 2), (0, 2, 1, 1), (0, 2, 2, 0), (0, 3, 0, 1), (0, 3, 1, 0), (0, 4, 0, 0), (1, 0, 0, 3), (1, 0, 1, 2), (1, 0, 2, 1), (1, 0, 3, 0), (1, 1, 1, 1), (2, 0, 0, 2), (2, 0, 1, 1), (2, 0, 2, 0), (3, 0, 0, 1), (3, 0, 1, 0), (4, 0, 0, 0)]), (150, [(1, 1, 1, 1)]), (153, [(0, 2, 2, 0), (1, 1, 1, 1), (2, 0, 0, 2)]), (154, [(0, 0, 0, 4), (0, 0, 4, 0), (0, 1, 0, 3), (0, 2, 0, 2), (0, 3, 0, 1), (0, 4, 0, 0), (1, 0, 3, 0), (1, 1, 0, 2), (1, 1, 1, 1), (1, 1, 2, 0), (1, 2, 1, 0), (1, 3, 0, 0), (2, 0, 2, 0), (2, 1, 0, 1), (2, 2, 0, 0), (3, 0, 1, 0), (3, 1, 0, 0), (4, 0, 0, 0)]), (165, [(1, 1, 1, 1)]), (166, [(0, 0, 0, 4), (0, 0, 1, 3), (0, 0, 2, 2), (0, 0, 3, 1), (0, 0, 4, 0), (0, 1, 0, 3), (0, 1, 2, 1), (0, 2, 0, 2), (0, 2, 1, 1), (0, 3, 0, 1), (0, 4, 0, 0), (1, 0, 1, 2), (1, 0, 3, 0), (1, 1, 1, 1), (2, 0, 1, 1), (2, 0, 2, 0), (3, 0, 1, 0), (4, 0, 0, 0)]), (169, [(0, 0, 0, 4), (0, 0, 4, 0), (0, 1, 0, 3), (0, 1, 3, 0), (0, 2, 0, 2), (0, 2, 2, 0), (0, 3, 0, 1), (0, 3, 1, 0), (0, 4, 0, 0), (1, 0, 0, 3), (1, 0, 3, 0), (1, 1, 0, 2), (1, 1, 1, 1), (1, 1, 2, 0), (1, 2, 0, 1), (1, 2, 1, 0), (1, 3, 0, 0), (2, 0, 0, 2), (2, 0, 2, 0), (2, 1, 0, 1), (2, 1, 1, 0), (2, 2, 0, 0), (3, 0, 0, 1), (3, 0, 1, 0), (3, 1, 0, 0), (4, 0, 0, 0)]), (170, [(0, 0, 0, 4), (0, 0, 4, 0), (0, 2, 0, 2), (0, 4, 0, 0), (1, 1, 1, 1), (2, 0, 2, 0), (4, 0, 0, 0)]), (180, [(1, 1, 1, 1)]), (195, [(1, 1, 1, 1)]), (204, [(0, 0, 2, 2), (1, 1, 1, 1), (2, 2, 0, 0)]), (210, [(1, 1, 1, 1)]), (225, [(1, 1, 1, 1)]), (240, [(1, 1, 1, 1)])]
def ontoF (u : Nat) : List (Nat × List Q4) → List Q4
  | [] => []
  | (k, l) :: r => cond (Nat.beq k u) l (ontoF u r)
def chkR (u : Nat) (l : List Q4) : Bool := mem4 (1, 1, 1, 1) l && l.all fun v => Nat.beq (sum4 v) 4 && (mem4 (n4 u 0 v) l && mem4 (n4 u 1 v) l)
theorem onto_tab : ((List.range 256).all fun u => !(orphT u).isEmpty || chkR u (ontoF u ontoL)) = true := by decide +kernel
theorem onto_ways {u : Nat} (hu : u < 256) (ho : (orphT u).isEmpty = true) {s : List UInt8} (hs : okR s) : waysV u s = 4 := by
  have h := List.all_eq_true.1 onto_tab u (List.mem_range.2 hu)
  simp only [ho, Bool.not_true, Bool.false_or, chkR, Bool.and_eq_true, List.all_eq_true] at h
  obtain ⟨h1, h2⟩ := h
  have key : ∀ k, k ≤ s.length → w4 u s k ∈ ontoF u ontoL := by
    intro k
    induction k with
    | zero => exact fun _ => mem4_mem h1
    | succ k ih =>
      intro hk
      obtain ⟨_, h3, h4⟩ := h2 _ (ih (by omega))
      show n4 u (bw s k) (w4 u s k) ∈ _
      rcases hs k (by omega) with e | e
      · rw [show bw s k = 0 by unfold bw; omega]; exact mem4_mem h3
      · rw [show bw s k = 1 by unfold bw; omega]; exact mem4_mem h4
  rw [ways_sum]
  exact beq_iff.1 (h2 _ (key _ (Nat.le_refl _))).1

/- the others: a row with more -/
end Go.Proofs.Ytjjinlljdfaipaa.W

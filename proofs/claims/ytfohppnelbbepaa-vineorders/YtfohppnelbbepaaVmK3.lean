/- Contracts of the functions: what each of them answers. -/
import Derived.Test.YtfohppnelbbepaaVmK2
/- What the polynomials say -/
open Go.Vm
set_option linter.unusedVariables false
set_option linter.unusedSectionVars false
namespace Go.Proofs.Ytfohppnelbbepaa.T
open Go
variable [Ovr]
section
variable (a : Nat → Nat → Int)
variable {a}
end
end Go.Proofs.Ytfohppnelbbepaa.T
/- Bounds -/
open Go.Vm
set_option linter.unusedVariables false
set_option linter.unusedSectionVars false
namespace Go.Proofs.Ytfohppnelbbepaa.T
open Go
variable [Ovr]
section
def Bd (B x : Int) : Prop := -B ≤ x ∧ x ≤ B
end
end Go.Proofs.Ytfohppnelbbepaa.T
/- one and trace -/
open Go.Vm
set_option linter.unusedVariables false
set_option linter.unusedSectionVars false
namespace Go.Proofs.Ytfohppnelbbepaa.T
open Go
variable [Ovr]
section
variable {ro : List ABlk} {h hp : Heap}
theorem NewM.by {α : Type} {enc : α → AVal} {H H' : Heap} {L : Nat} {w : AVal} {x : List (List α)} (a : NewM enc H L w x) (k : ∀ i, L ≤ i → i < H.length → H'[i]? = H[i]?) : NewM enc H' L w x := by
 obtain ⟨bs, cs, rfl, g1, g2, g3⟩ := a
 refine ⟨bs, cs, rfl, g1.keep (k L (Nat.le_refl _) g1.lt), fun r hr => ?_, g3⟩
 obtain ⟨f1, f2⟩ := g2 r hr
 exact ⟨f1, f2.keep (k _ (by omega) f2.lt)⟩
end
end Go.Proofs.Ytfohppnelbbepaa.T
/- Recurrence of the program -/
open Go.Vm
set_option linter.unusedVariables false
set_option linter.unusedSectionVars false
namespace Go.Proofs.Ytfohppnelbbepaa.T
open Go
variable [Ovr]
section
variable {ro : List ABlk} {h hp : Heap}
end
end Go.Proofs.Ytfohppnelbbepaa.T
/- The determinant -/
open Go.Vm
set_option linter.unusedVariables false
set_option linter.unusedSectionVars false
namespace Go.Proofs.Ytfohppnelbbepaa.T
open Go
variable [Ovr]
section
end
section
variable {ro : List ABlk} {h hp : Heap}
end
end Go.Proofs.Ytfohppnelbbepaa.T
/- Recurrence of the reference -/
open Go.Vm
set_option linter.unusedVariables false
set_option linter.unusedSectionVars false
namespace Go.Proofs.Ytfohppnelbbepaa.T
open Go
variable [Ovr]
section
variable {ro : List ABlk} {h hp : Heap}
end
end Go.Proofs.Ytfohppnelbbepaa.T
/- Law 9 -/
open Go.Vm
set_option linter.unusedVariables false
set_option linter.unusedSectionVars false
namespace Go.Proofs.Ytfohppnelbbepaa.T
open Go
variable [Ovr]
section
variable {ro : List ABlk} {h hp : Heap}
end
end Go.Proofs.Ytfohppnelbbepaa.T
/- Lengths follow from those before -/
open Go.Vm
set_option linter.unusedVariables false
set_option linter.unusedSectionVars false
namespace Go.Proofs.Ytfohppnelbbepaa.T
open Go
variable [Ovr]
section
theorem cnt_bd {z : List (List UInt8)} (hz : VOk z) : ∀ y p, p < z.length → cnt z y p ≤ 8 ^ y
 | 0, p, _ => Nat.le_refl _
 | y + 1, p, hp => by
  have h8 := hz.h8 p hp
  have hsum : ∀ (l : List UInt8), (∀ b ∈ l, isL z.length b) → sumS (cnt z y) l ≤ l.length * 8 ^ y := fun l => by
   induction l with
   | nil => intro _; simp [sumS]
   | cons b l ih =>
    intro h
    have h1 := ih fun c hc => h c (List.mem_cons_of_mem _ hc)
    have h2 := cnt_bd hz y (ix b) (ix_lt (h b (List.mem_cons_self ..)))
    show cnt z y (ix b) + sumS (cnt z y) l ≤ _
    rw [List.length_cons, Nat.add_mul, Nat.one_mul]; omega
  have h1 := hsum _ (qcd.1 (hz.hh p hp))
  have h2 : (z.getD p []).length * 8 ^ y ≤ 8 * 8 ^ y := Nat.mul_le_mul_right _ h8
  show sumS (cnt z y) (z.getD p []) ≤ _
  rw [Nat.pow_succ, Nat.mul_comm (8 ^ y) 8]
  omega
theorem lenS_bd {z : List (List UInt8)} (hz : VOk z) (y : Nat) : ∀ (l : List UInt8), (∀ b ∈ l, isL z.length b) → lenS z y l ≤ l.length * 8 ^ y
 | [], _ => by simp [lenS, sumS]
 | b :: l, h => by
  have h1 := lenS_bd hz y l fun c hc => h c (List.mem_cons_of_mem _ hc)
  have h2 := cnt_bd hz y (ix b) (ix_lt (h b (List.mem_cons_self ..)))
  show cnt z y (ix b) + lenS z y l ≤ _
  rw [List.length_cons, Nat.add_mul, Nat.one_mul]; omega
end
end Go.Proofs.Ytfohppnelbbepaa.T
/- Same of the program -/
open Go.Vm
set_option linter.unusedVariables false
set_option linter.unusedSectionVars false
namespace Go.Proofs.Ytfohppnelbbepaa.T
open Go
variable [Ovr]
section
variable {ro : List ABlk} {h hp : Heap}
abbrev Few (z : List (List UInt8)) (s : List UInt8) : Prop := z.length ≤ 1000000 ∧ (∀ i, i < z.length → (z.getD i []).length ≤ 1000000) ∧ s.length ≤ 1000000
theorem sat_len {z : List (List UInt8)} (hz : VOk z) {s : List UInt8} (hs : s.length ≤ 30) (hh : has z.length s) {y : Nat} (hy : y ≤ 12) : sat (lenS z y s) = lenS z y s ∧ lenS z y s ≤ 2061584302080 := by
 have h1 := lenS_bd hz y s (qcd.1 hh)
 have h2 : 8 ^ y ≤ 8 ^ 12 := Nat.pow_le_pow_right (by omega) hy
 have h3 : s.length * 8 ^ y ≤ 30 * 8 ^ 12 := Nat.mul_le_mul hs h2
 have h4 : (30 : Nat) * 8 ^ 12 = 2061584302080 := by decide
 exact ⟨sat_id (by omega), by omega⟩
end
end Go.Proofs.Ytfohppnelbbepaa.T
/- Law 11 -/
open Go.Vm
set_option linter.unusedVariables false
set_option linter.unusedSectionVars false
namespace Go.Proofs.Ytfohppnelbbepaa.T
open Go
variable [Ovr]
section
variable {ro : List ABlk} {h hp : Heap}
theorem longV_at {z : List (List UInt8)} {s : List UInt8} (hS : errS z s = 0) {y : Nat} (hy : y ≤ 1000) : longV z s (y : Int) = if 1152921504606846976 < lenS z y s then (0, 4) else ((lenS z y s : Int), 0) := by
 have e1 : errY z s (y : Int) = 0 := by
  unfold errY
  rw [if_neg (fun h => h hS), if_pos (by omega)]
 unfold longV
 rw [if_neg (fun h => h e1), Int.toNat_natCast]
end
end Go.Proofs.Ytfohppnelbbepaa.T
/- Alike -/
open Go.Vm
set_option linter.unusedVariables false
set_option linter.unusedSectionVars false
namespace Go.Proofs.Ytfohppnelbbepaa.T
open Go
variable [Ovr]
section
variable {ro : List ABlk} {h hp : Heap}
theorem RowG.bel {L e n : Nat} {v : AVal} {vs : List AVal} (g : RowG hp L e v vs) (hn : n ≤ L) (hv : vs ≠ []) : v.bel n = false := by
 rcases g with ⟨-, e1⟩ | ⟨b, blk, rfl, h2, h3, h4, h5, h6, h7⟩
 ·exact absurd e1 hv
 ·have : Nat.blt b n = false := by rw [← Bool.not_eq_true, Nat.blt_eq]; omega
  simp [AVal.bel, this]
end
end Go.Proofs.Ytfohppnelbbepaa.T
/- Law 6 -/
open Go.Vm
set_option linter.unusedVariables false
set_option linter.unusedSectionVars false
namespace Go.Proofs.Ytfohppnelbbepaa.T
open Go
variable [Ovr]
section
variable {ro : List ABlk} {h hp : Heap}
end
end Go.Proofs.Ytfohppnelbbepaa.T
/- Series and their differences -/
open Go.Vm
set_option linter.unusedVariables false
set_option linter.unusedSectionVars false
namespace Go.Proofs.Ytfohppnelbbepaa.T
open Go
variable [Ovr]
/- series and their differences, 60 years apart -/
section
def itD : Nat → (Nat → Int) → Nat → Int
 | 0, g => g
 | c + 1, g => fun y => itD c g (y + 60) - itD c g y
theorem qcn (c : Nat) (g : Nat → Int) (y : Nat) : itD (c + 1) g y = itD c g (y + 60) - itD c g y := rfl
theorem itD_in : ∀ (c : Nat) (g : Nat → Int) (y : Nat), itD (c + 1) g y = itD c (fun y => g (y + 60) - g y) y
 | 0, g, y => rfl
 | c + 1, g, y => by
  rw [qcn (c + 1), itD_in c g (y + 60), itD_in c g y]; rfl
theorem qgm : ∀ (c : Nat) (g g' : Nat → Int) (y : Nat), itD c (fun y => g y + g' y) y = itD c g y + itD c g' y
 | 0, g, g', y => rfl
 | c + 1, g, g', y => by
  rw [qcn, qcn, qcn, qgm c g g' (y + 60), qgm c g g' y]; omega
theorem qhv : ∀ (c : Nat) (g : Nat → Int) (k y : Nat), itD c (fun y => g (y + k)) y = itD c g (y + k)
 | 0, g, k, y => rfl
 | c + 1, g, k, y => by
  rw [qcn, qcn, qhv c g k (y + 60), qhv c g k y, show y + 60 + k = y + k + 60 by omega]
theorem qjx {g : Nat → Int} {T : Nat} (h : ∀ y, T ≤ y → g y = 0) : ∀ (c y : Nat), T ≤ y → itD c g y = 0
 | 0, y, hy => h y hy
 | c + 1, y, hy => by rw [qcn, qjx h c (y + 60) (by omega), qjx h c y hy]; rfl
def Deg : Nat → Nat → (Nat → Int) → Prop
 | 0, T, g => ∀ y, T ≤ y → g y = 0
 | c + 1, T, g => ∀ y, T ≤ y → 0 < itD c g y ∧ itD (c + 1) g y = 0
theorem Deg.mono {c T T' : Nat} {g : Nat → Int} (d : Deg c T g) (h : T ≤ T') : Deg c T' g := by
 cases c with
 | zero => exact fun y hy => d y (by omega)
 | succ c => exact fun y hy => d y (by omega)
theorem Deg.up {c T : Nat} {g : Nat → Int} (d : Deg c T g) : ∀ (e : Nat), c ≤ e → ∀ y, T ≤ y → itD e g y = 0 := by
 cases c with
 | zero => exact fun e _ y hy => qjx d e y hy
 | succ c =>
  intro e he
  induction e with
  | zero => omega
  | succ e ih =>
   intro y hy
   by_cases h : c = e
   ·subst h; exact (d y hy).2
   ·rw [qcn, ih (by omega) (y + 60) (by omega), ih (by omega) y hy]; rfl
theorem Deg.add {c c' T : Nat} {g g' : Nat → Int} (d : Deg c T g) (d' : Deg c' T g') : Deg (max c c') T fun y => g y + g' y := by
 rcases Nat.lt_trichotomy c c' with h | h | h
 ·obtain ⟨k, rfl⟩ : ∃ k, c' = k + 1 := ⟨c' - 1, by omega⟩
  rw [Nat.max_eq_right (by omega)]
  intro y hy
  rw [qgm, qgm, d.up k (by omega) y hy, d.up (k + 1) (by omega) y hy]
  have := d' y hy
  omega
 ·subst h
  rw [Nat.max_self]
  cases c with
  | zero => intro y hy; show g y + g' y = 0; rw [d y hy, d' y hy]; rfl
  | succ c =>
   intro y hy
   rw [qgm, qgm]
   have h1 := d y hy
   have h2 := d' y hy
   omega
 ·obtain ⟨k, rfl⟩ : ∃ k, c = k + 1 := ⟨c - 1, by omega⟩
  rw [Nat.max_eq_left (by omega)]
  intro y hy
  rw [qgm, qgm, d'.up k (by omega) y hy, d'.up (k + 1) (by omega) y hy]
  have := d y hy
  omega
theorem Deg.shift {c T : Nat} {g : Nat → Int} (d : Deg c T g) (k : Nat) : Deg c T fun y => g (y + k) := by
 cases c with
 | zero => exact fun y hy => d (y + k) (by omega)
 | succ c => intro y hy; rw [qhv, qhv]; exact d (y + k) (by omega)
theorem Deg.congr {c T : Nat} {g g' : Nat → Int} (d : Deg c T g) (h : ∀ y, g y = g' y) : Deg c T g' := by
 have : g = g' := funext h
 subst this; exact d
theorem Deg.later {c T : Nat} {g g' : Nat → Int} (d : Deg c T g) (h : ∀ y, g' (y + 1) = g y) : Deg c (T + 1) g' := by
 have e : ∀ k y, itD k g' (y + 1) = itD k g y := fun k => by
  induction k with
  | zero => exact h
  | succ k ih => intro y; rw [qcn, qcn, show y + 1 + 60 = y + 60 + 1 by omega, ih, ih]
 cases c with
 | zero => intro y hy; obtain ⟨u, rfl⟩ : ∃ u, y = u + 1 := ⟨y - 1, by omega⟩; rw [h]; exact d u (by omega)
 | succ c => intro y hy; obtain ⟨u, rfl⟩ : ∃ u, y = u + 1 := ⟨y - 1, by omega⟩; rw [e, e]; exact d u (by omega)
theorem Deg.more {c T : Nat} {g : Nat → Int} (d : Deg c T fun y => g (y + 60) - g y) (hp : ∀ y, T ≤ y → 0 < g y) : Deg (c + 1) T g := by
 cases c with
 | zero => exact fun y hy => ⟨hp y hy, by rw [qcn]; exact d y hy⟩
 | succ c => intro y hy; rw [itD_in, itD_in]; exact d y hy
theorem Deg.sum {T : Nat} {g : Nat → Nat → Int} {c : Nat → Nat} : ∀ k, (∀ j, j < k → Deg (c j) T (g j)) → Deg (mxU c (fun _ => true) k) T fun y => sumZ (fun j => g j y) k
 | 0, _ => fun y _ => rfl
 | k + 1, h => by
  have h1 := (Deg.sum k fun j hj => h j (by omega)).add (h k (by omega))
  have e : mxU c (fun _ => true) (k + 1) = max (mxU c (fun _ => true) k) (c k) := rfl
  rw [e]
  exact h1
theorem Deg.letters {z : List (List UInt8)} {T : Nat} {c : Nat → Nat} {s : List UInt8} (h : ∀ i, i < s.length → Deg (c (ix (s.getD i 0))) T fun y => ((cnt z y (ix (s.getD i 0)) : Nat) : Int)) : Deg (mxU (fun i => c (ix (s.getD i 0))) (fun _ => true) s.length) T fun y => ((lenS z y s : Nat) : Int) := by
 have key : ∀ k, k ≤ s.length → Deg (mxU (fun i => c (ix (s.getD i 0))) (fun _ => true) k) T fun y => ((lenS z y (s.take k) : Nat) : Int) := by
  intro k
  induction k with
  | zero => intro _ y _; rfl
  | succ k ih =>
   intro hk
   have h1 := (ih (by omega)).add (h k (by omega))
   have e : mxU (fun i => c (ix (s.getD i 0))) (fun _ => true) (k + 1) = max (mxU (fun i => c (ix (s.getD i 0))) (fun _ => true) k) (c (ix (s.getD k 0))) := rfl
   rw [e]
   refine h1.congr fun y => ?_
   have e2 : lenS z y (s.take (k + 1)) = lenS z y (s.take k) + cnt z y (ix (s.getD k 0)) := sumS_take (by omega)
   rw [e2]; omega
 have := key s.length (Nat.le_refl _)
 rwa [List.take_length] at this
theorem mxU_le' {g : Nat → Nat} {c : Nat → Bool} {B : Nat} : ∀ j, (∀ q, q < j → c q = true → g q ≤ B) → mxU g c j ≤ B
 | 0, _ => Nat.zero_le _
 | j + 1, h => by
  have h1 := mxU_le' j fun q hq hc => h q (by omega) hc
  unfold mxU
  split
  ·rename_i e; have := h j (by omega) e; omega
  ·exact h1
theorem qkx {g : Nat → Nat} {c : Nat → Bool} {q : Nat} (hc : c q = true) : ∀ j, q < j → g q ≤ mxU g c j
 | 0, h => by omega
 | j + 1, h => by
  unfold mxU
  by_cases e : q = j
  ·subst e; rw [if_pos hc]; omega
  ·have := qkx (g := g) hc j (by omega)
   split <;> omega
theorem qkt {g g' : Nat → Nat} {c c' : Nat → Bool} : ∀ j, (∀ q, q < j → c q = c' q) → (∀ q, q < j → c q = true → g q = g' q) → mxU g c j = mxU g' c' j
 | 0, _, _ => rfl
 | j + 1, h1, h2 => by
  have ih := qkt j (fun q hq => h1 q (by omega)) fun q hq => h2 q (by omega)
  unfold mxU
  rw [← h1 j (by omega), ih]
  by_cases e : c j = true
  ·rw [if_pos e, if_pos e, h2 j (by omega) e]
  ·rw [if_neg e, if_neg e]
end
end Go.Proofs.Ytfohppnelbbepaa.T
/- Ways from part to part -/
open Go.Vm
set_option linter.unusedVariables false
set_option linter.unusedSectionVars false
namespace Go.Proofs.Ytfohppnelbbepaa.T
open Go
variable [Ovr]
/- ways from part to part -/
section
abbrev dX (z : List (List UInt8)) : List (List Bool) := descK z z.length
abbrev Cm (z : List (List UInt8)) (p q : Nat) : Prop := cellB (dX z) p q = true
theorem Cm.tr {z : List (List UInt8)} (hz : VOk z) {r s t : Nat} (hr : r < z.length) (hs : s < z.length) (ht : t < z.length) (h1 : Cm z r s) (h2 : Cm z s t) : Cm z r t := desc_tr hz r s t hr hs ht h1 h2
theorem qex {z : List (List UInt8)} (hz : VOk z) {q : Nat} (hq : q < z.length) {b : UInt8} (hb : b ∈ z.getD q []) : ix b < z.length := ix_lt (qcd.1 (hz.hh q hq) b hb)
theorem RK0_iff {z : List (List UInt8)} (hz : VOk z) {t q : Nat} (ht : t < z.length) (hq : q < z.length) : RK z 0 t q ↔ ∃ b ∈ z.getD q [], ix b = t := by
 rw [← matE_cell hz hq ht]
 have e1 : cellB (matE z z.length) q t = (z.getD q []).any fun b => decide (ix b = t) := by simp [cellB, matE, List.getD, hq, rowE, ht]
 rw [e1, List.any_eq_true]
 simp only [decide_eq_true_eq]
theorem Cm.of {z : List (List UInt8)} (hz : VOk z) {k t q : Nat} (ht : t < z.length) (hq : q < z.length) (h : RK z k t q) : Cm z t q := RK_all hz.h1 ht k q hq h
theorem Cm.letter {z : List (List UInt8)} (hz : VOk z) {q : Nat} (hq : q < z.length) {b : UInt8} (hb : b ∈ z.getD q []) : Cm z (ix b) q := Cm.of hz (qex hz hq hb) hq ((RK0_iff hz (qex hz hq hb) hq).2 ⟨b, hb, rfl⟩)
def Path (z : List (List UInt8)) : Nat → Nat → Nat → Prop
 | 0, t, q => t = q
 | a + 1, t, q => ∃ b ∈ z.getD q [], Path z a t (ix b)
theorem Path.app {z : List (List UInt8)} {i t u : Nat} (h : Path z i t u) : ∀ {j q : Nat}, Path z j u q → Path z (i + j) t q
 | 0, q, h2 => by have e : u = q := h2; subst e; exact h
 | j + 1, q, ⟨b, hb, h2⟩ => ⟨b, hb, Path.app h h2⟩
theorem Path.rep {z : List (List UInt8)} {a q : Nat} (h : Path z a q q) : ∀ k, Path z (k * a) q q
 | 0 => by rw [Nat.zero_mul]; rfl
 | k + 1 => by rw [Nat.add_mul, Nat.one_mul]; exact (Path.rep h k).app h
theorem RK.path {z : List (List UInt8)} (hz : VOk z) : ∀ (k : Nat) {t q : Nat}, t < z.length → q < z.length → RK z k t q → ∃ a, 1 ≤ a ∧ a ≤ k + 1 ∧ Path z a t q
 | 0, t, q, ht, hq, h => by
  obtain ⟨b, hb, e⟩ := (RK0_iff hz ht hq).1 h
  exact ⟨1, Nat.le_refl _, Nat.le_refl _, b, hb, e.symm⟩
 | k + 1, t, q, ht, hq, h => by
  obtain ⟨u, hu, h1, h2⟩ := (qga hz.h1 ht hq).1 h
  obtain ⟨a, g1, g2, g3⟩ := RK.path hz k ht hu h1
  rcases h2 with h2 | rfl
  ·obtain ⟨b, hb, e⟩ := (RK0_iff hz hu hq).1 h2
   subst e
   exact ⟨a + 1, by omega, by omega, b, hb, g3⟩
  ·exact ⟨a, g1, by omega, g3⟩
theorem Path.cm {z : List (List UInt8)} (hz : VOk z) : ∀ (a : Nat) {t q : Nat}, q < z.length → Path z a t q → t < z.length ∧ (t = q ∨ Cm z t q)
 | 0, t, q, hq, h => by have e : t = q := h; subst e; exact ⟨hq, .inl rfl⟩
 | a + 1, t, q, hq, ⟨b, hb, h⟩ => by
  have hl := qex hz hq hb
  obtain ⟨g1, g2⟩ := Path.cm hz a hl h
  refine ⟨g1, .inr ?_⟩
  rcases g2 with rfl | g2
  ·exact Cm.letter hz hq hb
  ·exact Cm.tr hz g1 hl hq g2 (Cm.letter hz hq hb)
theorem Cm.front {z : List (List UInt8)} (hz : VOk z) {t q : Nat} (ht : t < z.length) (hq : q < z.length) (h : Cm z t q) : ∃ b ∈ z.getD q [], ix b = t ∨ Cm z t (ix b) := by
 obtain ⟨a, h1, -, h3⟩ := RK.path hz z.length ht hq h
 obtain ⟨a, rfl⟩ : ∃ k, a = k + 1 := ⟨a - 1, by omega⟩
 obtain ⟨b, hb, h4⟩ := h3
 obtain ⟨-, h5⟩ := Path.cm hz a (qex hz hq hb) h4
 exact ⟨b, hb, h5.imp Eq.symm id⟩
/- short ways -/
def cQ (z : List (List UInt8)) (k p : Nat) : Nat → Nat
 | 0 => 0
 | m + 1 => cQ z k p m + if m ≠ p ∧ cellB (descK z k) p m = true then 1 else 0
theorem cQ_up {z : List (List UInt8)} (h1 : 1 ≤ z.length) {k p : Nat} (hp : p < z.length) : ∀ m, m ≤ z.length → cQ z k p m ≤ cQ z (k + 1) p m ∧ (cQ z k p m = cQ z (k + 1) p m → ∀ q, q < m → q ≠ p → RK z (k + 1) p q → RK z k p q)
 | 0, _ => ⟨Nat.le_refl _, fun _ q hq => by omega⟩
 | m + 1, hm => by
  obtain ⟨g1, g2⟩ := cQ_up h1 (k := k) hp m (by omega)
  have hu := RK_up h1 (k := k) hp (show m < z.length by omega)
  unfold RK at hu g2 ⊢
  unfold cQ
  by_cases a : m ≠ p ∧ cellB (descK z k) p m = true
  ·rw [if_pos a, if_pos ⟨a.1, hu a.2⟩]
   refine ⟨by omega, fun e q hq hne hd => ?_⟩
   rcases Nat.lt_or_ge q m with h | h
   ·exact g2 (by omega) q h hne hd
   ·obtain rfl : q = m := by omega
    exact a.2
  ·rw [if_neg a]
   by_cases b : m ≠ p ∧ cellB (descK z (k + 1)) p m = true
   ·rw [if_pos b]; exact ⟨by omega, fun e => by omega⟩
   ·rw [if_neg b]
    refine ⟨by omega, fun e q hq hne hd => ?_⟩
    rcases Nat.lt_or_ge q m with h | h
    ·exact g2 (by omega) q h hne hd
    ·obtain rfl : q = m := by omega
     exact absurd ⟨hne, hd⟩ b
theorem cQ_stop {z : List (List UInt8)} (h1 : 1 ≤ z.length) {p : Nat} (hp : p < z.length) : ∀ m, (∃ k, k < m ∧ ∀ q, q < z.length → q ≠ p → RK z (k + 1) p q → RK z k p q) ∨ cQ z 0 p z.length + m ≤ cQ z m p z.length
 | 0 => .inr (Nat.le_refl _)
 | m + 1 => by
  rcases cQ_stop h1 hp m with ⟨k, h2, h3⟩ | h
  ·exact .inl ⟨k, by omega, h3⟩
  ·obtain ⟨g1, g2⟩ := cQ_up h1 (k := m) hp z.length (Nat.le_refl _)
   by_cases e : cQ z m p z.length = cQ z (m + 1) p z.length
   ·exact .inl ⟨m, by omega, g2 e⟩
   ·exact .inr (by omega)
theorem cQ_all {z : List (List UInt8)} {k p q : Nat} (hne : q ≠ p) (hq : ¬ RK z k p q) : ∀ m, q < m → p < m → cQ z k p m + 2 ≤ m := by
 have one : ∀ m, (q < m ∨ p < m → cQ z k p m + 1 ≤ m) ∧ cQ z k p m ≤ m := fun m => by
  induction m with
  | zero => exact ⟨fun h => by omega, Nat.le_refl _⟩
  | succ m ih =>
   unfold cQ
   by_cases a : m ≠ p ∧ cellB (descK z k) p m = true
   ·rw [if_pos a]
    refine ⟨fun h => ?_, by omega⟩
    have hmq : m ≠ q := fun e => hq (by rw [← e]; exact a.2)
    have := ih.1 (by have := a.1; omega)
    omega
   ·rw [if_neg a]; omega
 intro m
 induction m with
 | zero => intro h; omega
 | succ m ih =>
  intro h1 h2
  unfold cQ
  by_cases a : m ≠ p ∧ cellB (descK z k) p m = true
  ·rw [if_pos a]
   have hmq : m ≠ q := fun e => hq (by rw [← e]; exact a.2)
   have := ih (by omega) (by have := a.1; omega)
   omega
  ·rw [if_neg a]
   have := (one m).1 (by omega)
   omega
theorem qkh {z : List (List UInt8)} (hz : VOk z) {k p : Nat} (hp : p < z.length) (h : ∀ q, q < z.length → q ≠ p → RK z (k + 1) p q → RK z k p q) : ∀ j q, q < z.length → q ≠ p → RK z (k + j) p q → RK z k p q
 | 0, q, _, _, h2 => h2
 | j + 1, q, hq, hne, h2 => by
  obtain ⟨u, hu, r1, r2⟩ := (qga hz.h1 hp hq).1 h2
  rcases r2 with r2 | rfl
  ·by_cases e : u = p
   ·subst e
    have := RK_mono hz.h1 hp hq r2 k
    rwa [Nat.zero_add] at this
   ·exact h q hq hne ((qga hz.h1 hp hq).2 ⟨u, hu, qkh hz hp h j u hu e r1, .inl r2⟩)
  ·exact qkh hz hp h j u hq hne r1
theorem Cm.short {z : List (List UInt8)} (hz : VOk z) {p q : Nat} (hp : p < z.length) (hq : q < z.length) (hne : q ≠ p) (h : Cm z p q) : ∃ a, 1 ≤ a ∧ a + 1 ≤ z.length ∧ Path z a p q := by
 have hn : RK z z.length p q := h
 have h0 : 1 ≤ cQ z 0 p z.length := by
  rcases Nat.eq_zero_or_pos (cQ z 0 p z.length) with e | e
  ·exfalso
   have none : ∀ m, m ≤ z.length → cQ z 0 p m = 0 → ∀ u, u < m → u ≠ p → ¬ RK z 0 p u := fun m => by
    induction m with
    | zero => intro _ _ u hu; omega
    | succ m ih =>
     intro hm h0 u hu hup hr
     unfold cQ at h0
     by_cases a : m ≠ p ∧ cellB (descK z 0) p m = true
     ·rw [if_pos a] at h0; omega
     ·rw [if_neg a] at h0
      by_cases e2 : u = m
      ·subst e2; exact a ⟨hup, hr⟩
      ·exact ih (by omega) (by omega) u (by omega) hup hr
   have nn := none z.length (Nat.le_refl _) e
   have st : ∀ q, q < z.length → q ≠ p → RK z (0 + 1) p q → RK z 0 p q := fun q hq hne h2 => by
    obtain ⟨u, hu, r1, r2⟩ := (qga hz.h1 hp hq).1 h2
    rcases r2 with r2 | rfl
    ·by_cases e : u = p
     ·subst e; exact r2
     ·exact absurd r1 (nn u hu e)
    ·exact r1
   refine nn q hq hne (qkh hz hp st z.length q hq hne ?_)
   rwa [Nat.zero_add]
  ·exact e
 have h2 : 2 ≤ z.length := by omega
 rcases cQ_stop hz.h1 hp (z.length - 2) with ⟨k, hk, st⟩ | hc
 ·have : RK z k p q := qkh hz hp st (z.length - k) q hq hne (by rwa [show k + (z.length - k) = z.length by omega])
  obtain ⟨a, g1, g2, g3⟩ := RK.path hz k hp hq this
  exact ⟨a, g1, by omega, g3⟩
 ·have : RK z (z.length - 2) p q := by
   cases hb : cellB (descK z (z.length - 2)) p q
   ·have := cQ_all (k := z.length - 2) hne (fun h => by unfold RK at h; rw [hb] at h; cases h) z.length hq hp
    omega
   ·exact hb
  obtain ⟨a, g1, g2, g3⟩ := RK.path hz (z.length - 2) hp hq this
  exact ⟨a, g1, by omega, g3⟩
theorem Cm.back {z : List (List UInt8)} (hz : VOk z) {q : Nat} (hq : q < z.length) {b : UInt8} (hb : b ∈ z.getD q []) (h : Cm z q (ix b)) : ∃ a, a + 1 ≤ z.length ∧ Path z a q (ix b) := by
 have hl := qex hz hq hb
 by_cases e : ix b = q
 ·exact ⟨0, hz.h1, e.symm⟩
 ·obtain ⟨a, -, g2, g3⟩ := Cm.short hz hq hl e h
  exact ⟨a, g2, g3⟩
end
end Go.Proofs.Ytfohppnelbbepaa.T
/- How fast a part grows -/
open Go.Vm
set_option linter.unusedVariables false
set_option linter.unusedSectionVars false
namespace Go.Proofs.Ytfohppnelbbepaa.T
open Go
variable [Ovr]
/- circles -/
section
structure Scc (z : List (List UInt8)) (p r : Nat) : Prop where
 lt : r < z.length
 of : Cm z r p
 to : Cm z p r
theorem Scc.cm {z : List (List UInt8)} (hz : VOk z) {p r t : Nat} (hp : p < z.length) (a : Scc z p r) (b : Scc z p t) : Cm z r t := Cm.tr hz a.lt hp b.lt a.of b.to
def Tame (z : List (List UInt8)) (p : Nat) : Prop := ∀ r, r < z.length → (r = p ∨ Cm z r p) → dblB z (dX z) r = false
theorem tame_of {z : List (List UInt8)} {p : Nat} (h : expB z (dX z) p = false) : Tame z p := fun r hr hc => by
 unfold expB at h
 rw [List.any_eq_false] at h
 have := h r (List.mem_range.2 hr)
 cases hd : dblB z (dX z) r
 ·rfl
 ·rw [hd] at this
  rcases hc with rfl | hc
  ·simp at this
  ·unfold Cm at hc; rw [hc] at this; simp at this
theorem Tame.down {z : List (List UInt8)} (hz : VOk z) {p q : Nat} (hp : p < z.length) (hq : q < z.length) (t : Tame z p) (h : Cm z q p) : Tame z q := fun r hr hc => t r hr (.inr (by
 rcases hc with rfl | hc
 ·exact h
 ·exact Cm.tr hz hr hq hp hc h))
abbrev bkB (z : List (List UInt8)) (r : Nat) (b : UInt8) : Bool := cellB (dX z) r (ix b)
theorem one_back {z : List (List UInt8)} (hz : VOk z) {p r : Nat} (hp : p < z.length) (t : Tame z p) (s : Scc z p r) : (z.getD r []).countP (bkB z r) = 1 := by
 have h1 := t r s.lt (.inr s.of)
 unfold dblB cntD at h1
 rw [List.take_length] at h1
 have h2 : (z.getD r []).countP (bkB z r) < 2 := by simpa using h1
 obtain ⟨b, hb, h3⟩ := Cm.front hz s.lt s.lt (Cm.tr hz s.lt hp s.lt s.of s.to)
 have h4 : bkB z r b = true := by
  rcases h3 with h3 | h3
  ·show cellB (dX z) r (ix b) = true
   rw [h3]
   exact Cm.tr hz s.lt hp s.lt s.of s.to
  ·exact h3
 have : 0 < (z.getD r []).countP (bkB z r) := List.countP_pos_iff.2 ⟨b, hb, h4⟩
 omega
theorem find_one {P : UInt8 → Bool} {b : UInt8} : ∀ {l : List UInt8}, l.countP P = 1 → b ∈ l → P b = true → l.find? P = some b
 | c :: l, h, hb, hP => by
  rw [List.countP_cons] at h
  by_cases hc : P c = true
  ·rw [if_pos hc] at h
   have h0 : l.countP P = 0 := by omega
   rcases List.mem_cons.1 hb with rfl | hb
   ·rw [List.find?_cons_of_pos hP]
   ·exact absurd hP (by have := List.countP_eq_zero.1 h0 b hb; exact this)
  ·rw [if_neg hc] at h
   rcases List.mem_cons.1 hb with rfl | hb
   ·exact absurd hP hc
   ·rw [List.find?_cons_of_neg hc]
    exact find_one (by omega) hb hP
def nxt (z : List (List UInt8)) (r : Nat) : Nat := match (z.getD r []).find? (bkB z r) with
 | some b => ix b
 | none => r
def offL (z : List (List UInt8)) (r : Nat) : List UInt8 := (z.getD r []).filter fun b => !bkB z r b
theorem sum_split {P : UInt8 → Bool} (f : Nat → Nat) : ∀ {l : List UInt8} {b : UInt8}, l.countP P = 1 → l.find? P = some b → sumS f l = f (ix b) + sumS f (l.filter fun c => !P c)
 | c :: l, b, h, hf => by
  rw [List.countP_cons] at h
  by_cases hc : P c = true
  ·rw [if_pos hc] at h
   rw [List.find?_cons_of_pos hc] at hf
   cases hf
   have h0 : l.countP P = 0 := by omega
   have e : (c :: l).filter (fun c => !P c) = l := by
    rw [List.filter_cons_of_neg (by simp [hc])]
    refine List.filter_eq_self.2 fun b hb => ?_
    have := List.countP_eq_zero.1 h0 b hb
    simpa using this
   rw [e]; rfl
  ·rw [if_neg hc] at h
   rw [List.find?_cons_of_neg hc] at hf
   have e : (c :: l).filter (fun c => !P c) = c :: l.filter fun c => !P c := List.filter_cons_of_pos (by simp [hc])
   rw [e]
   show f (ix c) + sumS f l = f (ix b) + (f (ix c) + sumS f (l.filter fun c => !P c))
   rw [sum_split f (by omega) hf]; omega
theorem nxt_spec {z : List (List UInt8)} (hz : VOk z) {p r : Nat} (hp : p < z.length) (t : Tame z p) (s : Scc z p r) : ∃ b ∈ z.getD r [], (z.getD r []).find? (bkB z r) = some b ∧ nxt z r = ix b ∧ Scc z p (ix b) := by
 have h1 := one_back hz hp t s
 obtain ⟨b, hb, hP⟩ := List.countP_pos_iff.1 (show 0 < (z.getD r []).countP (bkB z r) by omega)
 have hf := find_one h1 hb hP
 have hl := qex hz s.lt hb
 refine ⟨b, hb, hf, by unfold nxt; rw [hf], hl, Cm.tr hz hl s.lt hp (Cm.letter hz s.lt hb) s.of, Cm.tr hz hp s.lt hl s.to hP⟩
theorem cnt_step {z : List (List UInt8)} (hz : VOk z) {p r : Nat} (hp : p < z.length) (t : Tame z p) (s : Scc z p r) (y : Nat) : cnt z (y + 1) r = cnt z y (nxt z r) + lenS z y (offL z r) := by
 obtain ⟨b, hb, hf, hn, -⟩ := nxt_spec hz hp t s
 rw [hn]
 exact sum_split (cnt z y) (one_back hz hp t s) hf
def nx' (z : List (List UInt8)) : Nat → Nat → Nat
 | 0, r => r
 | k + 1, r => nxt z (nx' z k r)
theorem nx_in (z : List (List UInt8)) : ∀ k r, nx' z k (nxt z r) = nx' z (k + 1) r
 | 0, r => rfl
 | k + 1, r => by show nxt z (nx' z k (nxt z r)) = nxt z (nx' z (k + 1) r); rw [nx_in z k r]
theorem nx_add (z : List (List UInt8)) (r : Nat) (j : Nat) : ∀ k, nx' z (k + j) r = nx' z k (nx' z j r)
 | 0 => by rw [Nat.zero_add]; rfl
 | k + 1 => by rw [show k + 1 + j = k + j + 1 by omega]; show nxt z (nx' z (k + j) r) = nxt z (nx' z k (nx' z j r)); rw [nx_add z r j k]
theorem nx_scc {z : List (List UInt8)} (hz : VOk z) {p : Nat} (hp : p < z.length) (t : Tame z p) {r : Nat} (s : Scc z p r) : ∀ k, Scc z p (nx' z k r)
 | 0 => s
 | k + 1 => by
  obtain ⟨b, -, -, hn, hs⟩ := nxt_spec hz hp t (nx_scc hz hp t s k)
  show Scc z p (nxt z (nx' z k r))
  rw [hn]; exact hs
theorem path_nx {z : List (List UInt8)} (hz : VOk z) {p : Nat} (hp : p < z.length) (t : Tame z p) : ∀ (a : Nat) {u r : Nat}, Scc z p r → Scc z p u → Path z a u r → nx' z a r = u
 | 0, u, r, _, _, h => (show u = r from h).symm
 | a + 1, u, r, sr, su, ⟨b, hb, h⟩ => by
  have hl := qex hz sr.lt hb
  obtain ⟨-, h2⟩ := Path.cm hz a hl h
  have hP : bkB z r b = true := by
   rcases h2 with rfl | h2
   ·exact sr.cm hz hp su
   ·exact Cm.tr hz sr.lt su.lt hl (sr.cm hz hp su) h2
  have hf := find_one (one_back hz hp t sr) hb hP
  have hn : nxt z r = ix b := by unfold nxt; rw [hf]
  have sb : Scc z p (ix b) := ⟨hl, Cm.tr hz hl sr.lt hp (Cm.letter hz sr.lt hb) sr.of, Cm.tr hz hp sr.lt hl sr.to hP⟩
  rw [← nx_in, hn]
  exact path_nx hz hp t a sb su h
theorem nx_mul {z : List (List UInt8)} {p m : Nat} (h : nx' z m p = p) : ∀ k, nx' z (k * m) p = p
 | 0 => by rw [Nat.zero_mul]; rfl
 | k + 1 => by rw [Nat.add_mul, Nat.one_mul, nx_add, h]; exact nx_mul h k
theorem dvd60 {m : Nat} (h1 : 1 ≤ m) (h6 : m ≤ 6) : ∃ k, 60 = k * m := by
 have : m = 1 ∨ m = 2 ∨ m = 3 ∨ m = 4 ∨ m = 5 ∨ m = 6 := by omega
 rcases this with rfl | rfl | rfl | rfl | rfl | rfl
 ·exact ⟨60, rfl⟩
 ·exact ⟨30, rfl⟩
 ·exact ⟨20, rfl⟩
 ·exact ⟨15, rfl⟩
 ·exact ⟨12, rfl⟩
 ·exact ⟨10, rfl⟩
theorem nx_60 {z : List (List UInt8)} (hz : VOk z) {p : Nat} (hp : p < z.length) (t : Tame z p) (hr : Cm z p p) : nx' z 60 p = p := by
 have s : Scc z p p := ⟨hp, hr, hr⟩
 have h6 := hz.h6
 obtain ⟨b, hb, h1⟩ := Cm.front hz hp hp hr
 have hP : Cm z p (ix b) := by
  rcases h1 with h1 | h1
  ·rw [h1]; exact hr
  ·exact h1
 obtain ⟨a, g1, g2⟩ := Cm.back hz hp hb hP
 have h2 : Path z (a + 1) p p := ⟨b, hb, g2⟩
 have h3 := path_nx hz hp t (a + 1) s s h2
 obtain ⟨k, hk⟩ := dvd60 (m := a + 1) (by omega) (by omega)
 rw [hk]; exact nx_mul h3 k
theorem cnt_unroll {z : List (List UInt8)} (hz : VOk z) {p : Nat} (hp : p < z.length) (t : Tame z p) {r : Nat} (s : Scc z p r) : ∀ (k y : Nat), ((cnt z (y + k) r : Nat) : Int) = ((cnt z y (nx' z k r) : Nat) : Int) + sumZ (fun j => ((lenS z (y + (k - 1 - j)) (offL z (nx' z j r)) : Nat) : Int)) k
 | 0, y => by show _ = _ + (0 : Int); rw [Int.add_zero]; rfl
 | k + 1, y => by
  have h1 := cnt_unroll hz hp t s k (y + 1)
  have h2 := cnt_step hz hp t (nx_scc hz hp t s k) y
  have e : sumZ (fun j => ((lenS z (y + 1 + (k - 1 - j)) (offL z (nx' z j r)) : Nat) : Int)) k = sumZ (fun j => ((lenS z (y + (k + 1 - 1 - j)) (offL z (nx' z j r)) : Nat) : Int)) k := sumZ_congr k fun j hj => by rw [show y + 1 + (k - 1 - j) = y + (k + 1 - 1 - j) by omega]
  rw [show y + (k + 1) = y + 1 + k by omega, h1, h2, e]
  show _ = ((cnt z y (nxt z (nx' z k r)) : Nat) : Int) + (sumZ _ k + ((lenS z (y + (k + 1 - 1 - k)) (offL z (nx' z k r)) : Nat) : Int))
  rw [show y + (k + 1 - 1 - k) = y by omega]
  omega
theorem cnt_pos {z : List (List UInt8)} (hz : VOk z) {p : Nat} (hp : p < z.length) (hr : Cm z p p) : ∀ (y : Nat) {r : Nat}, Scc z p r → 0 < cnt z y r
 | 0, r, _ => Nat.one_pos
 | y + 1, r, s => by
  obtain ⟨b, hb, h1⟩ := Cm.front hz hp s.lt s.to
  have hl := qex hz s.lt hb
  have sb : Scc z p (ix b) := by
   refine ⟨hl, Cm.tr hz hl s.lt hp (Cm.letter hz s.lt hb) s.of, ?_⟩
   rcases h1 with h1 | h1
   ·rw [h1]; exact hr
   ·exact h1
  have h2 := cnt_pos hz hp hr y sb
  have h3 : ∀ l : List UInt8, b ∈ l → cnt z y (ix b) ≤ sumS (cnt z y) l := fun l => by
   induction l with
   | nil => intro h; cases h
   | cons c l ih =>
    intro h
    show _ ≤ cnt z y (ix c) + sumS (cnt z y) l
    rcases List.mem_cons.1 h with rfl | h
    ·omega
    ·have := ih h; omega
  have := h3 _ hb
  show 0 < sumS (cnt z y) (z.getD r [])
  omega
end
/- how fast a part grows -/
section
abbrev cirN (z : List (List UInt8)) (f p : Nat) : Nat := circN z.length (dX z) f p
abbrev kidN (z : List (List UInt8)) (p : Nat) : Nat := kids (dX z) p z.length
abbrev below (z : List (List UInt8)) (p : Nat) : Nat → Bool := fun q => cellB (dX z) q p && !cellB (dX z) p q
theorem qdk {z : List (List UInt8)} {p q : Nat} : below z p q = true ↔ Cm z q p ∧ cellB (dX z) p q = false := by
 unfold below Cm
 rw [Bool.and_eq_true]
 cases cellB (dX z) p q <;> simp
theorem qky {z : List (List UInt8)} (hz : VOk z) {p q : Nat} (hp : p < z.length) (hq : q < z.length) (h : below z p q = true) : kidN z q < kidN z p := by
 obtain ⟨h1, h2⟩ := qdk.1 h
 exact (kids_lt (desc_tr hz) hp hq h1 h2 z.length (Nat.le_refl _)).2 hp
theorem kid_pos {z : List (List UInt8)} {p : Nat} (hp : p < z.length) : 1 ≤ kidN z p := by
 have e : (decide (p = p) || cellB (dX z) p p) = true := by simp
 have : ∀ m, p < m → 1 ≤ kids (dX z) p m := fun m => by
  induction m with
  | zero => intro h; omega
  | succ m ih =>
   intro h
   unfold kids
   rcases Nat.lt_or_ge p m with h3 | h3
   ·have := ih h3; omega
   ·obtain rfl : p = m := by omega
    rw [if_pos e]; omega
 exact this _ hp
theorem qfv (z : List (List UInt8)) (f p : Nat) : cirN z (f + 1) p = mxU (cirN z f) (below z p) z.length + if cellB (dX z) p p = true then 1 else 0 := rfl
theorem cir_fuel {z : List (List UInt8)} (hz : VOk z) : ∀ (f p : Nat), p < z.length → kidN z p ≤ f → cirN z (f + 1) p = cirN z f p
 | 0, p, hp, h => by have := kid_pos hp; omega
 | f + 1, p, hp, h => by
  rw [qfv, qfv]
  congr 1
  exact qkt _ (fun _ _ => rfl) fun q hq hc => cir_fuel hz f q hq (by have := qky hz hp hq hc; omega)
theorem cir_mono {z : List (List UInt8)} (hz : VOk z) {q t f : Nat} (hq : q < z.length) (ht : t < z.length) (h : Cm z t q) (hk : kidN z q ≤ f) (hkt : kidN z t ≤ f) : cirN z f t ≤ cirN z f q := by
 obtain ⟨f, rfl⟩ : ∃ k, f = k + 1 := ⟨f - 1, by have := kid_pos hq; omega⟩
 cases hb : cellB (dX z) q t
 ·have hbl : below z q t = true := qdk.2 ⟨h, hb⟩
  have h1 := qky hz hq ht hbl
  have h2 := qkx (g := cirN z f) hbl z.length ht
  rw [cir_fuel hz f t ht (by omega), qfv]
  omega
 ·have hqt : Cm z q t := hb
  have e1 : cellB (dX z) t t = true := Cm.tr hz ht hq ht h hqt
  have e2 : cellB (dX z) q q = true := Cm.tr hz hq ht hq hqt h
  rw [qfv, qfv, if_pos e1, if_pos e2]
  have : mxU (cirN z f) (below z t) z.length = mxU (cirN z f) (below z q) z.length := qkt _ (fun u hu => by
   have : (below z t u = true) ↔ (below z q u = true) := by
    rw [qdk, qdk]
    constructor
    ·rintro ⟨g1, g2⟩
     refine ⟨Cm.tr hz hu ht hq g1 h, ?_⟩
     cases hc : cellB (dX z) q u
     ·rfl
     ·have : Cm z t u := Cm.tr hz ht hq hu h hc
      unfold Cm at this; rw [this] at g2; cases g2
    ·rintro ⟨g1, g2⟩
     refine ⟨Cm.tr hz hu hq ht g1 hqt, ?_⟩
     cases hc : cellB (dX z) t u
     ·rfl
     ·have : Cm z q u := Cm.tr hz hq ht hu hqt hc
      unfold Cm at this; rw [this] at g2; cases g2
   cases h1 : below z t u <;> cases h2 : below z q u <;> simp_all) fun _ _ _ => rfl
  rw [this]; exact Nat.le_refl _
theorem leave {z : List (List UInt8)} (hz : VOk z) {p t : Nat} (hp : p < z.length) (ht : t < z.length) (hpt : cellB (dX z) p t = false) : ∀ (a : Nat) {r : Nat}, Scc z p r → Path z a t r → ∃ r', Scc z p r' ∧ ∃ b ∈ offL z r', t = ix b ∨ Cm z t (ix b)
 | 0, r, s, h => by
  have e : t = r := h
  subst e
  have := s.to
  unfold Cm at this; rw [this] at hpt; cases hpt
 | a + 1, r, s, ⟨b, hb, h⟩ => by
  have hl := qex hz s.lt hb
  obtain ⟨-, h2⟩ := Path.cm hz a hl h
  cases hP : bkB z r b
  ·exact ⟨r, s, b, List.mem_filter.2 ⟨hb, by rw [hP]; rfl⟩, h2⟩
  ·exact leave hz hp ht hpt a (r := ix b) ⟨hl, Cm.tr hz hl s.lt hp (Cm.letter hz s.lt hb) s.of, Cm.tr hz hp s.lt hl s.to hP⟩ h
theorem qkq {z : List (List UInt8)} (hz : VOk z) {p r : Nat} (hp : p < z.length) (s : Scc z p r) {b : UInt8} (hb : b ∈ offL z r) : ix b < z.length ∧ below z p (ix b) = true := by
 obtain ⟨h1, h2⟩ := List.mem_filter.1 hb
 have hl := qex hz s.lt h1
 refine ⟨hl, qdk.2 ⟨Cm.tr hz hl s.lt hp (Cm.letter hz s.lt h1) s.of, ?_⟩⟩
 cases hc : cellB (dX z) p (ix b)
 ·rfl
 ·have : Cm z r (ix b) := Cm.tr hz s.lt hp hl s.of hc
  have h3 : bkB z r b = true := this
  rw [h3] at h2; cases h2
theorem deg_part {z : List (List UInt8)} (hz : VOk z) : ∀ (f p : Nat), p < z.length → kidN z p ≤ f → Tame z p → Deg (cirN z f p) (kidN z p) fun y => ((cnt z y p : Nat) : Int)
 | 0, p, hp, h, _ => by have := kid_pos hp; omega
 | f + 1, p, hp, hk, tm => by
  have hkp := kid_pos hp
  -- what comes below p
  have ih : ∀ q, q < z.length → below z p q = true → Deg (cirN z f q) (kidN z p - 1) fun y => ((cnt z y q : Nat) : Int) := fun q hq hb => by
   have h1 := qky hz hp hq hb
   exact (deg_part hz f q hq (by omega) (tm.down hz hp hq (qdk.1 hb).1)).mono (by omega)
  have getm : ∀ (l : List UInt8) (i : Nat), i < l.length → l.getD i 0 ∈ l := fun l i hi => by
   rw [List.getD_eq_getElem?_getD, List.getElem?_eq_getElem hi]; exact List.getElem_mem hi
  cases hr : cellB (dX z) p p
  ·-- no circle
   have hbl : ∀ b ∈ z.getD p [], ix b < z.length ∧ below z p (ix b) = true := fun b hb => by
    have hl := qex hz hp hb
    refine ⟨hl, qdk.2 ⟨Cm.letter hz hp hb, ?_⟩⟩
    cases hc : cellB (dX z) p (ix b)
    ·rfl
    ·have : Cm z p p := Cm.tr hz hp hl hp hc (Cm.letter hz hp hb)
     unfold Cm at this; rw [this] at hr; cases hr
   have d := Deg.letters (z := z) (T := kidN z p - 1) (c := cirN z f) (s := z.getD p []) fun i hi => by
    obtain ⟨h1, h2⟩ := hbl _ (getm _ i hi)
    exact ih _ h1 h2
   have d2 := d.later (g' := fun y => ((cnt z y p : Nat) : Int)) fun y => rfl
   have e : mxU (fun i => cirN z f (ix ((z.getD p []).getD i 0))) (fun _ => true) (z.getD p []).length = cirN z (f + 1) p := by
    rw [qfv, hr, if_neg (by decide), Nat.add_zero]
    refine Nat.le_antisymm (mxU_le' _ fun i hi _ => ?_) (mxU_le' _ fun q hq hc => ?_)
    ·obtain ⟨h1, h2⟩ := hbl _ (getm _ i hi)
     exact qkx h2 _ h1
    ·obtain ⟨h1, h2⟩ := qdk.1 hc
     obtain ⟨b, hb, h3⟩ := Cm.front hz hq hp h1
     obtain ⟨i, hi, hib⟩ := List.getElem_of_mem hb
     have hgi : (z.getD p []).getD i 0 = b := by rw [List.getD_eq_getElem?_getD, List.getElem?_eq_getElem hi]; exact hib
     have h4 := qkx (g := fun i => cirN z f (ix ((z.getD p []).getD i 0))) (c := fun _ => true) rfl (z.getD p []).length hi
     simp only [hgi] at h4
     have hl := qex hz hp hb
     have hkb := qky hz hp hl (hbl b hb).2
     have hkq := qky hz hp hq hc
     have h5 : cirN z f q ≤ cirN z f (ix b) := by
      rcases h3 with h3 | h3
      ·rw [h3]; exact Nat.le_refl _
      ·exact cir_mono hz hl hq h3 (by omega) (by omega)
     omega
   rw [e] at d2
   exact d2.mono (by omega)
  ·-- a circle
   have s : Scc z p p := ⟨hp, hr, hr⟩
   obtain ⟨N, hN⟩ : ∃ N, N = 60 := ⟨_, rfl⟩
   have h60 : nx' z N p = p := by rw [hN]; exact nx_60 hz hp tm hr
   have dj : ∀ j, j < N → Deg (mxU (fun i => cirN z f (ix ((offL z (nx' z j p)).getD i 0))) (fun _ => true) (offL z (nx' z j p)).length) (kidN z p - 1) fun y => ((lenS z (y + (N - 1 - j)) (offL z (nx' z j p)) : Nat) : Int) := fun j _ => by
    have d := Deg.letters (z := z) (T := kidN z p - 1) (c := cirN z f) (s := offL z (nx' z j p)) fun i hi => by
     obtain ⟨h1, h2⟩ := qkq hz hp (nx_scc hz hp tm s j) (getm _ i hi)
     exact ih _ h1 h2
    exact d.shift (N - 1 - j)
   have ds := Deg.sum (T := kidN z p - 1) (g := fun j y => ((lenS z (y + (N - 1 - j)) (offL z (nx' z j p)) : Nat) : Int)) (c := fun j => mxU (fun i => cirN z f (ix ((offL z (nx' z j p)).getD i 0))) (fun _ => true) (offL z (nx' z j p)).length) N dj
   have ds2 := ds.congr (g' := fun y => ((cnt z (y + N) p : Nat) : Int) - ((cnt z y p : Nat) : Int)) fun y => by
    have h1 := cnt_unroll hz hp tm s N y
    rw [h60] at h1
    omega
   have e : mxU (fun j => mxU (fun i => cirN z f (ix ((offL z (nx' z j p)).getD i 0))) (fun _ => true) (offL z (nx' z j p)).length) (fun _ => true) N + 1 = cirN z (f + 1) p := by
    rw [qfv, hr, if_pos rfl]
    congr 1
    refine Nat.le_antisymm (mxU_le' _ fun j hj _ => mxU_le' _ fun i hi _ => ?_) (mxU_le' _ fun q hq hc => ?_)
    ·obtain ⟨h1, h2⟩ := qkq hz hp (nx_scc hz hp tm s j) (getm _ i hi)
     exact qkx h2 _ h1
    ·obtain ⟨h1, h2⟩ := qdk.1 hc
     obtain ⟨a, -, -, ha⟩ := RK.path hz z.length hq hp h1
     obtain ⟨r', sr, b, hb, h3⟩ := leave hz hp hq h2 a s ha
     obtain ⟨a2, -, -, ha2⟩ := RK.path hz z.length sr.lt hp sr.of
     have hnx := path_nx hz hp tm a2 s sr ha2
     have hmod : nx' z (a2 % N) p = r' := by
      have h4 : nx' z (a2 % N + a2 / N * N) p = nx' z (a2 % N) (nx' z (a2 / N * N) p) := nx_add z p _ _
      rw [nx_mul h60, show a2 % N + a2 / N * N = a2 by rw [hN]; omega, hnx] at h4
      exact h4.symm
     obtain ⟨i, hi, hib⟩ := List.getElem_of_mem hb
     have hgi : (offL z r').getD i 0 = b := by rw [List.getD_eq_getElem?_getD, List.getElem?_eq_getElem hi]; exact hib
     obtain ⟨hl, hbl⟩ := qkq hz hp sr hb
     have hkb := qky hz hp hl hbl
     have hkq := qky hz hp hq hc
     have h5 : cirN z f q ≤ cirN z f (ix b) := by
      rcases h3 with h3 | h3
      ·rw [h3]; exact Nat.le_refl _
      ·exact cir_mono hz hl hq h3 (by omega) (by omega)
     have h6 := qkx (g := fun i => cirN z f (ix ((offL z r').getD i 0))) (c := fun _ => true) rfl (offL z r').length hi
     have h7 := qkx (g := fun j => mxU (fun i => cirN z f (ix ((offL z (nx' z j p)).getD i 0))) (fun _ => true) (offL z (nx' z j p)).length) (c := fun _ => true) rfl N (show a2 % N < N by rw [hN]; omega)
     simp only [hgi] at h6
     simp only [hmod] at h7
     omega
   obtain ⟨C, hC⟩ : ∃ C, C = mxU (fun j => mxU (fun i => cirN z f (ix ((offL z (nx' z j p)).getD i 0))) (fun _ => true) (offL z (nx' z j p)).length) (fun _ => true) N := ⟨_, rfl⟩
   rw [← hC] at ds2 e
   rw [hN] at ds2
   have dm := ds2.more fun y _ => by
    have := cnt_pos hz hp hr y s
    show (0 : Int) < ((cnt z y p : Nat) : Int)
    omega
   rw [e] at dm
   exact dm.mono (by omega)
end
end Go.Proofs.Ytfohppnelbbepaa.T
/- Kinds and deaths -/
open Go.Vm
set_option linter.unusedVariables false
set_option linter.unusedSectionVars false
namespace Go.Proofs.Ytfohppnelbbepaa.T
open Go
variable [Ovr]
section
theorem getD_mem0 {l : List UInt8} {i : Nat} (hi : i < l.length) : l.getD i 0 ∈ l := by
 rw [List.getD_eq_getElem?_getD, List.getElem?_eq_getElem hi]; exact List.getElem_mem hi
def topN (z : List (List UInt8)) (s : List UInt8) : Nat := mxU (fun i => circN z.length (descK z z.length) z.length (ix (s.getD i 0))) (fun _ => true) s.length
def expS (z : List (List UInt8)) (s : List UInt8) : Bool := s.any fun b => expB z (descK z z.length) (ix b)
theorem kindV_eq {z : List (List UInt8)} {s : List UInt8} (hS : errS z s = 0) : kindV z s = if expS z s = true then (3, 0, 0) else if topN z s < 2 then ((topN z s : Int), 0, 0) else (2, (topN z s : Int) - 1, 0) := by
 unfold kindV; (rw [if_neg (fun h => h hS)] <;> rfl)
theorem topN_le (z : List (List UInt8)) (s : List UInt8) : topN z s ≤ z.length := mxU_le (fun _ => qkf _ _ _ _) _
theorem deg_shoot {z : List (List UInt8)} (hz : VOk z) {s : List UInt8} (hs : has z.length s) (he : expS z s = false) : Deg (topN z s) z.length fun y => ((lenS z y s : Nat) : Int) := by
 refine Deg.letters (c := cirN z z.length) fun i hi => ?_
 have hl := ix_lt (hs i hi)
 have ht : expB z (dX z) (ix (s.getD i 0)) = false := by
  unfold expS at he
  rw [List.any_eq_false] at he
  have := he _ (getD_mem0 hi)
  simpa using this
 exact (deg_part hz z.length _ hl (kids_le _ _ _) (tame_of ht)).mono (kids_le _ _ _)
theorem cnt_dead {z : List (List UInt8)} : ∀ (y p : Nat), cnt z y p = 0 → cnt z (y + 1) p = 0
 | 0, p, h => by cases h
 | y + 1, p, h => by
  have key : ∀ l : List UInt8, sumS (cnt z y) l = 0 → sumS (cnt z (y + 1)) l = 0 := fun l => by
   induction l with
   | nil => intro _; rfl
   | cons b l ih =>
    intro h
    have h' : cnt z y (ix b) + sumS (cnt z y) l = 0 := h
    show cnt z (y + 1) (ix b) + sumS (cnt z (y + 1)) l = 0
    rw [cnt_dead y (ix b) (by omega), ih (by omega)]
  exact key _ h
theorem lens_dead {z : List (List UInt8)} {y : Nat} : ∀ {s : List UInt8}, lenS z y s = 0 → ∀ k, lenS z (y + k) s = 0 := by
 intro s h k
 induction k with
 | zero => exact h
 | succ k ih =>
  have key : ∀ l : List UInt8, sumS (cnt z (y + k)) l = 0 → sumS (cnt z (y + k + 1)) l = 0 := fun l => by
   induction l with
   | nil => intro _; rfl
   | cons b l ih =>
    intro h
    have h' : cnt z (y + k) (ix b) + sumS (cnt z (y + k)) l = 0 := h
    show cnt z (y + k + 1) (ix b) + sumS (cnt z (y + k + 1)) l = 0
    rw [cnt_dead _ (ix b) (by omega), ih (by omega)]
  exact key s ih
theorem dieY_spec {z : List (List UInt8)} {s : List UInt8} {y : Nat} (h : dieY z s = some y) : y ≤ z.length ∧ lenS z y s = 0 := by
 unfold dieY at h
 have h1 := List.find?_some h
 have h2 := List.mem_of_find?_eq_some h
 rw [List.mem_range] at h2
 exact ⟨by omega, by simpa using h1⟩
theorem dieY_of {z : List (List UInt8)} {s : List UInt8} (h : lenS z z.length s = 0) : ∃ y, dieY z s = some y := by
 cases hd : dieY z s with
 | some y => exact ⟨y, rfl⟩
 | none =>
  unfold dieY at hd
  rw [List.find?_eq_none] at hd
  have := hd z.length (List.mem_range.2 (by omega))
  simp [h] at this
theorem die_kind0 {z : List (List UInt8)} (hz : VOk z) {s : List UInt8} (hs : has z.length s) (he : expS z s = false) (h0 : topN z s = 0) : ∃ y, dieY z s = some y := by
 have d := deg_shoot hz hs he
 rw [h0] at d
 have h1 : ((lenS z z.length s : Nat) : Int) = 0 := d z.length (Nat.le_refl _)
 exact dieY_of (by omega)
theorem die_kind1 {z : List (List UInt8)} (hz : VOk z) {s : List UInt8} (hs : has z.length s) (he : expS z s = false) (h0 : 1 ≤ topN z s) : dieY z s = none := by
 cases hd : dieY z s with
 | none => rfl
 | some y =>
  exfalso
  obtain ⟨h1, h2⟩ := dieY_spec hd
  have d := deg_shoot hz hs he
  obtain ⟨c, hc⟩ : ∃ c, topN z s = c + 1 := ⟨topN z s - 1, by omega⟩
  rw [hc] at d
  have h3 := (d (max y z.length) (by omega)).1
  have h4 := qjx (g := fun y => ((lenS z y s : Nat) : Int)) (T := y) (fun u hu => by
   have := lens_dead h2 (u - y)
   rw [show y + (u - y) = u by omega] at this
   show ((lenS z u s : Nat) : Int) = 0
   omega) c (max y z.length) (by omega)
  omega
theorem path_pos {z : List (List UInt8)} {q y : Nat} (h : 0 < cnt z y q) : ∀ (a : Nat) {t : Nat}, Path z a q t → 0 < cnt z (y + a) t
 | 0, t, h2 => by have e : q = t := h2; subst e; exact h
 | a + 1, t, ⟨b, hb, h2⟩ => by
  have h3 := path_pos h a h2
  have h4 : ∀ l : List UInt8, b ∈ l → cnt z (y + a) (ix b) ≤ sumS (cnt z (y + a)) l := fun l => by
   induction l with
   | nil => intro h; cases h
   | cons c l ih =>
    intro h
    show _ ≤ cnt z (y + a) (ix c) + sumS (cnt z (y + a)) l
    rcases List.mem_cons.1 h with rfl | h
    ·omega
    ·have := ih h; omega
  have := h4 _ hb
  show 0 < sumS (cnt z (y + a)) (z.getD t [])
  omega
theorem expS_spec {z : List (List UInt8)} {s : List UInt8} (h : expS z s = true) : ∃ b ∈ s, ∃ q, q < z.length ∧ (q = ix b ∨ Cm z q (ix b)) ∧ 2 ≤ (z.getD q []).countP (bkB z q) := by
 unfold expS at h
 rw [List.any_eq_true] at h
 obtain ⟨b, hb, h⟩ := h
 unfold expB at h
 rw [List.any_eq_true] at h
 obtain ⟨q, hq, h⟩ := h
 rw [Bool.and_eq_true, Bool.or_eq_true, decide_eq_true_eq] at h
 obtain ⟨h1, h2⟩ := h
 unfold dblB cntD at h2
 rw [List.take_length] at h2
 exact ⟨b, hb, q, List.mem_range.1 hq, h1, by simpa using h2⟩
theorem die_kind3 {z : List (List UInt8)} (hz : VOk z) {s : List UInt8} (hs : has z.length s) (he : expS z s = true) : dieY z s = none := by
 cases hd : dieY z s with
 | none => rfl
 | some y =>
  exfalso
  obtain ⟨-, h2⟩ := dieY_spec hd
  obtain ⟨b, hb, q, hq, h3, h4⟩ := expS_spec he
  have hl := ix_lt (qcd.1 hs b hb)
  obtain ⟨c, hc, hP⟩ := List.countP_pos_iff.1 (show 0 < (z.getD q []).countP (bkB z q) by omega)
  have hcq : Cm z q q := Cm.tr hz hq (qex hz hq hc) hq hP (Cm.letter hz hq hc)
  have hpos := cnt_pos hz hq hcq y (r := q) ⟨hq, hcq, hcq⟩
  have hpath : ∃ a, Path z a q (ix b) := by
   rcases h3 with rfl | h3
   ·exact ⟨0, rfl⟩
   ·obtain ⟨a, -, -, g⟩ := RK.path hz z.length hq hl h3
    exact ⟨a, g⟩
  obtain ⟨a, ha⟩ := hpath
  have h5 := path_pos hpos a ha
  have h6 := lens_dead h2 a
  have h7 : ∀ l : List UInt8, b ∈ l → cnt z (y + a) (ix b) ≤ sumS (cnt z (y + a)) l := fun l => by
   induction l with
   | nil => intro h; cases h
   | cons c l ih =>
    intro h
    show _ ≤ cnt z (y + a) (ix c) + sumS (cnt z (y + a)) l
    rcases List.mem_cons.1 h with rfl | h
    ·omega
    ·have := ih h; omega
  have := h7 s hb
  have h8 : sumS (cnt z (y + a)) s = 0 := h6
  omega
end
end Go.Proofs.Ytfohppnelbbepaa.T
/- Lengths and differences -/
open Go.Vm
set_option linter.unusedVariables false
set_option linter.unusedSectionVars false
namespace Go.Proofs.Ytfohppnelbbepaa.T
open Go
variable [Ovr]
section
variable {ro : List ABlk} {h hp : Heap}
def difA (l : List Int) (k : Nat) : List Int := (List.range k).map fun i => l.getD (i + 1) 0 - l.getD i 0
theorem difA_snoc (l : List Int) (k : Nat) : (difA l k).map (AVal.i .i64) ++ [.i .i64 (l.getD (k + 1) 0 - l.getD k 0)] = (difA l (k + 1)).map (AVal.i .i64) := by simp [difA, List.range_succ]
theorem dif45 {v : AVal} {l : List Int} {B : Int} (a : IsRow ro h v l) (h1 : 1 ≤ l.length) (h2 : l.length ≤ 1000) (hB : B ≤ 2305843009213693952) (hb : ∀ i, i < l.length → Bd B (l.getD i 0)) :
  ∃ w H, callX F1 ro 45 [v] h = some (w, H, h.length, h.length) ∧ Keep h H ∧ IsRow ro H w (difA l (l.length - 1)) := by
 obtain ⟨L, hL⟩ : ∃ L, L = h.length := ⟨_, rfl⟩
 have key : ∃ r, loopX (fun s : AVal × Int × Mm => g45_b0 (qbs F1 ro) ro v s.1 s.2.1 s.2.2) (.nsl, 1, ⟨h, L, L⟩) = some r ∧ ∃ w K, r = (w, ⟨K, L, L⟩) ∧ Keep h K ∧ RowG K L 3 w ((difA l (l.length - 1)).map (AVal.i .i64)) := by
  refine qbt l.length (fun i s => ∃ w K, s = (w, (i : Int), ⟨K, L, L⟩) ∧ 1 ≤ i ∧ Keep h K ∧ RowG K L 3 w ((difA l (i - 1)).map (AVal.i .i64))) _ ?_ ?_ (l.length - 1) 1 _ (by omega) ⟨.nsl, h, rfl, Nat.le_refl _, Keep.refl _, RowG.nil _ _ _⟩
  ·rintro i s hi ⟨w, K, rfl, h1i, kK, gK⟩
   have hqK := kK.1
   obtain ⟨k, rfl⟩ : ∃ k, i = k + 1 := ⟨i - 1, by omega⟩
   rw [show k + 1 - 1 = k by omega] at gK
   have aK := row_by a kK
   obtain ⟨p1, i1, i2, i3⟩ := at_row (ro := ro) (h := K) (m := ⟨K, 0, 0⟩) rfl aK hi
   obtain ⟨p2, j1, j2, j3⟩ := at_row (ro := ro) (h := K) (m := ⟨K, 0, 0⟩) rfl aK (show k < l.length by omega)
   have hw1 : wr .i64 (((k + 1 : Nat) : Int) - 1) = (k : Int) := by rw [wr_id' (by omega) (by omega)]; omega
   have b1 := hb (k + 1) hi
   have b2 := hb k (by omega)
   have hw2 : wr .i64 (l.getD (k + 1) 0 - l.getD k 0) = l.getD (k + 1) 0 - l.getD k 0 := by unfold Bd at b1 b2; exact wr_id' (by omega) (by omega)
   obtain ⟨K2, K3, l', p', s1, s2, g4, n3, n4, o4, b4, b5, b6⟩ := gK.push (ro := ro) (l := L) (p := L) (bytes := 8) (z := AVal.i .i64 0) (w := .i .i64 (l.getD (k + 1) 0 - l.getD k 0)) (by omega) (by simp [difA]; omega) (by omega) rfl rfl
   have hl' : l' = L ∧ p' = L := by have := b4 L (by omega) (Nat.le_refl _) (Nat.le_refl _); omega
   rw [hl'.1, hl'.2] at s2
   rw [difA_snoc] at g4
   have hwb : ∀ b, rb w = some b → L ≤ b := fun b e => (gK.holds e).2.1
   exact ⟨_, (by simp only [g45_b0, len_row aK, oS, iS, fB, ltT (show ((k + 1 : Nat) : Int) < (l.length : Int) by omega), cT, i1, hw1, fI', j1, i3, j3, hw2, s1, pS, s2, nx (show k + 1 ≤ 1000000 by omega)] <;> rfl), _, K3, rfl, by omega, ⟨by omega, fun t ht => by rw [o4 t (by omega) (fun e => by have := hwb t e; omega), kK.2 t ht]⟩, g4⟩
  ·rintro s ⟨w, K, rfl, h1i, kK, gK⟩
   exact ⟨_, (by simp only [g45_b0, len_row (row_by a kK), oS, iS, fB, ltF (Int.lt_irrefl _), cF] <;> rfl), w, K, rfl, kK, gK⟩
 obtain ⟨r, e1, w, K, rfl, kK, gK⟩ := key
 obtain ⟨H, f1, f2, f3⟩ := fin_rowW (ro := ro) (w := w) kK gK.row rfl
 refine ⟨w, H, g45_ok (qav F1 ro) (Ovr.no rfl) ?_, f2, f3⟩
 unfold g45
 simp only [← hL, qaw, e1, oS, tA]
 rw [hL]; exact f1
theorem fin_rowB {K : Heap} {L e : Nat} {w : AVal} {x : List Int} {c : Bool} (k : Keep h K) (g : RowG K L e w (x.map (AVal.i .i64))) (hL : h.length ≤ L) : ∃ H, finM h.length (.tup [w, .b c]) ⟨K, h.length, h.length⟩ = some (.tup [w, .b c], H, h.length, h.length) ∧ Keep h H ∧ IsRow ro H w x := by
 obtain ⟨H, f1, f2, f3⟩ := qft (w := .tup [w, .b c]) k
 refine ⟨H, f1, f2, ?_⟩
 rcases g with ⟨rfl, e1⟩ | ⟨b, blk, rfl, h2, h3, h4, h5⟩
 ·exact .inl ⟨rfl, by simpa using e1⟩
 ·have hbel : (AVal.tup [.sl ⟨false, b, 0⟩ (x.map (AVal.i .i64)).length .grow, .b c]).bel h.length = false := by
   have : Nat.blt b h.length = false := by rw [← Bool.not_eq_true, Nat.blt_eq]; omega
   simp [AVal.bel, bels, this]
  obtain rfl := f3 hbel
  exact RowG.row (L := L) (e := e) (.inr ⟨b, blk, rfl, h2, h3, h4, h5⟩)
def len60 (z : List (List UInt8)) (s : List UInt8) (a k : Nat) : List Int := (List.range k).map fun i => ((lenS z (a + 60 * i) s : Nat) : Int)
theorem len60_snoc (z : List (List UInt8)) (s : List UInt8) (a k : Nat) : (len60 z s a k).map (AVal.i .i64) ++ [.i .i64 ((lenS z (a + 60 * k) s : Nat) : Int)] = (len60 z s a (k + 1)).map (AVal.i .i64) := by simp [len60, List.range_succ]
theorem len44 {v : AVal} {z : List (List UInt8)} {s : List UInt8} {a0 m : Nat} (a : IsS ro h v z) (hf : Few z s) (hS : errS z s = 0) (ha : a0 ≤ 100) (hm : m ≤ 10) :
  ∃ w H c, callX F1 ro 44 [v, .s s, .i .i64 (a0 : Int), .i .i64 (m : Int)] h = some (.tup [w, .b c], H, h.length, h.length) ∧ Keep h H ∧ (c = true → IsRow ro H w (len60 z s a0 m) ∧ ∀ i, i < m → lenS z (a0 + 60 * i) s ≤ 1125899906842624) := by
 obtain ⟨L, hL⟩ : ∃ L, L = h.length := ⟨_, rfl⟩
 have key : ∃ r, loopX (fun q : AVal × Int × Mm => g44_b0 (qbs F1 ro) ro v s (a0 : Int) (m : Int) q.1 q.2.1 q.2.2) (.nsl, 0, ⟨h, L, L⟩) = some r ∧ ∃ K, Keep h K ∧ ((∃ w, r = .inl (w, ⟨K, L, L⟩) ∧ RowG K L 3 w ((len60 z s a0 m).map (AVal.i .i64)) ∧ ∀ i, i < m → lenS z (a0 + 60 * i) s ≤ 1125899906842624) ∨ r = .inr (.nsl, false, ⟨K, L, L⟩)) := by
  refine loop_exit m (fun i q => ∃ w K, q = (w, (i : Int), ⟨K, L, L⟩) ∧ Keep h K ∧ RowG K L 3 w ((len60 z s a0 i).map (AVal.i .i64)) ∧ ∀ j, j < i → lenS z (a0 + 60 * j) s ≤ 1125899906842624) _ ?_ ?_ m 0 _ (by omega) ⟨.nsl, h, rfl, Keep.refl _, RowG.nil _ _ _, fun j hj => by omega⟩
  ·rintro i q hi ⟨w, K, rfl, kK, gK, hall⟩
   have hqK := kK.1
   have hw1 : wr .i64 (60 * (i : Int)) = ((60 * i : Nat) : Int) := by rw [wr_id' (by omega) (by omega)]; omega
   have hw2 : wr .i64 ((a0 : Int) + ((60 * i : Nat) : Int)) = ((a0 + 60 * i : Nat) : Int) := by rw [wr_id' (by omega) (by omega)]; omega
   have c19 := cp (l := L) (p := L) (long19 (ro := ro) (s := s) (y := ((a0 + 60 * i : Nat) : Int)) (S_by a kK) hf) (by omega) (by omega)
   rw [longV_at hS (by omega)] at c19
   by_cases hbig : 1152921504606846976 < lenS z (a0 + 60 * i) s
   ·rw [if_pos hbig] at c19
    have e4 : eqI 4 0 = false := rfl
    exact .inr ⟨_, (by simp only [g44_b0, fB, ltT (show (i : Int) < (m : Int) by omega), cT, hw1, hw2, fI', mC, c19, pS, x0, x1, oS, iS, e4, nF] <;> rfl), K, kK, .inr rfl⟩
   rw [if_neg hbig] at c19
   have e4 : eqI 0 0 = true := rfl
   by_cases h50 : 1125899906842624 < lenS z (a0 + 60 * i) s
   ·have l50 : ltI 1125899906842624 ((lenS z (a0 + 60 * i) s : Nat) : Int) = true := ltT (by omega)
    exact .inr ⟨_, (by simp only [g44_b0, fB, ltT (show (i : Int) < (m : Int) by omega), cT, hw1, hw2, fI', mC, c19, pS, x0, x1, oS, iS, e4, nT, cF, l50] <;> rfl), K, kK, .inr rfl⟩
   have l50 : ltI 1125899906842624 ((lenS z (a0 + 60 * i) s : Nat) : Int) = false := ltF (by omega)
   obtain ⟨K2, K3, l', p', s1, s2, g4, n3, n4, o4, b4, b5, b6⟩ := gK.push (ro := ro) (l := L) (p := L) (bytes := 8) (z := AVal.i .i64 0) (w := .i .i64 ((lenS z (a0 + 60 * i) s : Nat) : Int)) (by omega) (by simp [len60]; omega) (by omega) rfl rfl
   have hl' : l' = L ∧ p' = L := by have := b4 L (by omega) (Nat.le_refl _) (Nat.le_refl _); omega
   rw [hl'.1, hl'.2] at s2
   rw [len60_snoc] at g4
   have hwb : ∀ b, rb w = some b → L ≤ b := fun b e => (gK.holds e).2.1
   exact .inl ⟨_, (by simp only [g44_b0, fB, ltT (show (i : Int) < (m : Int) by omega), cT, hw1, hw2, fI', mC, c19, pS, x0, x1, oS, iS, e4, nT, cF, l50, s1, s2, nx (show i ≤ 1000000 by omega)] <;> rfl), _, K3, rfl, ⟨by omega, fun t ht => by rw [o4 t (by omega) (fun e => by have := hwb t e; omega), kK.2 t ht]⟩, g4, fun j hj => by
    rcases Nat.lt_or_ge j i with h | h
    ·exact hall j h
    ·obtain rfl : j = i := by omega
     omega⟩
  ·rintro q ⟨w, K, rfl, kK, gK, hall⟩
   exact ⟨_, (by simp only [g44_b0, fB, ltF (Int.lt_irrefl _), cF] <;> rfl), K, kK, .inl ⟨w, rfl, gK, hall⟩⟩
 obtain ⟨r, e1, K, kK, h2⟩ := key
 rcases h2 with ⟨w, rfl, gK, hall⟩ | rfl
 ·obtain ⟨H, f1, f2, f3⟩ := fin_rowB (ro := ro) (c := true) kK gK (by omega)
  refine ⟨w, H, true, g44_ok (qav F1 ro) (Ovr.no rfl) ?_, f2, fun _ => ⟨f3, hall⟩⟩
  unfold g44
  simp only [← hL, qaw, e1, oS, tA2]
  rw [hL]; exact f1
 ·refine ⟨.nsl, h, false, g44_ok (qav F1 ro) (Ovr.no rfl) ?_, Keep.refl _, fun h => by cases h⟩
  unfold g44
  simp only [← hL, qaw, e1, oS, tA2]
  rw [hL]; exact qce kK rfl
end
end Go.Proofs.Ytfohppnelbbepaa.T
/- doubles of the law -/
open Go.Vm
set_option linter.unusedVariables false
set_option linter.unusedSectionVars false
namespace Go.Proofs.Ytfohppnelbbepaa.T
open Go
variable [Ovr]
section
theorem mem_grw {z : List (List UInt8)} {y : Nat} {c : UInt8} : ∀ {l : List UInt8}, (∃ b ∈ l, c ∈ grw z y [b]) → c ∈ grw z y l
 | [], ⟨b, hb, _⟩ => by cases hb
 | d :: l, ⟨b, hb, h⟩ => by
  have e : grw z y (d :: l) = grw z y [d] ++ grw z y l := qlb z y [d] l
  rw [e, List.mem_append]
  rcases List.mem_cons.1 hb with rfl | hb
  ·exact .inl h
  ·exact .inr (mem_grw ⟨b, hb, h⟩)
theorem qjv {z : List (List UInt8)} (hz : VOk z) {q : Nat} : ∀ (a : Nat) {t : Nat}, t < z.length → Path z a q t → lt q ∈ grw z a [lt t]
 | 0, t, ht, h => by have e : q = t := h; subst e; show lt q ∈ [lt q]; exact List.mem_singleton.2 rfl
 | a + 1, t, ht, ⟨b, hb, h⟩ => by
  have h6 := hz.h6
  rw [grw_one, ix_lt' (by omega)]
  have hbl := qcd.1 (hz.hh t ht) b hb
  have h1 := qjv hz a (ix_lt hbl) h
  rw [lt_ix hbl (by omega)] at h1
  exact mem_grw ⟨b, hb, h1⟩
theorem two_of {P : UInt8 → Bool} : ∀ {l : List UInt8}, 2 ≤ l.countP P → ∃ l1 b l2, l = l1 ++ b :: l2 ∧ P b = true ∧ ∃ c ∈ l2, P c = true
 | [], h => by simp at h
 | b :: l, h => by
  rw [List.countP_cons] at h
  by_cases hb : P b = true
  ·rw [if_pos hb] at h
   obtain ⟨c, hc, hP⟩ := List.countP_pos_iff.1 (show 0 < l.countP P by omega)
   exact ⟨[], b, l, rfl, hb, c, hc, hP⟩
  ·rw [if_neg hb] at h
   obtain ⟨l1, b', l2, e, h1, h2⟩ := two_of (l := l) (by omega)
   exact ⟨b :: l1, b', l2, by rw [e]; rfl, h1, h2⟩
theorem doubles_soon {z : List (List UInt8)} (hz : VOk z) {q : Nat} (hq : q < z.length) (h : 2 ≤ (z.getD q []).countP (bkB z q)) : ∃ y, y ≤ 35 ∧ 2 ≤ (grw z (y + 1) [lt q]).count (lt q) := by
 have h6 := hz.h6
 obtain ⟨l1, b, l2, e, hb, c, hc, hcP⟩ := two_of h
 have mb : b ∈ z.getD q [] := by rw [e]; simp
 have mc : c ∈ z.getD q [] := by rw [e]; simp [hc]
 obtain ⟨a1, g1, p1⟩ := Cm.back hz hq mb hb
 obtain ⟨a2, g2, p2⟩ := Cm.back hz hq mc hcP
 have L1 : Path z (a1 + 1) q q := ⟨b, mb, p1⟩
 have L2 : Path z (a2 + 1) q q := ⟨c, mc, p2⟩
 have w1 : Path z (a2 * (a1 + 1) + a1) q (ix b) := (L1.rep a2).app p1
 have w2 : Path z (a1 * (a2 + 1) + a2) q (ix c) := (L2.rep a1).app p2
 have e1 : a2 * (a1 + 1) + a1 = a1 * a2 + a1 + a2 := by rw [Nat.mul_add, Nat.mul_comm a2 a1]; omega
 have e2 : a1 * (a2 + 1) + a2 = a1 * a2 + a1 + a2 := by rw [Nat.mul_add]; omega
 rw [e1] at w1
 rw [e2] at w2
 obtain ⟨Y, hY⟩ : ∃ Y, Y = a1 * a2 + a1 + a2 := ⟨_, rfl⟩
 rw [← hY] at w1 w2
 have hm : a1 * a2 ≤ 5 * 5 := Nat.mul_le_mul (by omega) (by omega)
 refine ⟨Y, by omega, ?_⟩
 have hbl := qcd.1 (hz.hh q hq) b mb
 have hcl := qcd.1 (hz.hh q hq) c mc
 have m1 := qjv hz Y (ix_lt hbl) w1
 have m2 := qjv hz Y (ix_lt hcl) w2
 rw [lt_ix hbl (by omega)] at m1
 rw [lt_ix hcl (by omega)] at m2
 rw [grw_one, ix_lt' (by omega), e, qlb, show b :: l2 = [b] ++ l2 from rfl, qlb, List.count_append, List.count_append]
 have n1 : 0 < (grw z Y [b]).count (lt q) := List.count_pos_iff.2 m1
 have n2 : 0 < (grw z Y l2).count (lt q) := List.count_pos_iff.2 (mem_grw ⟨c, hc, m2⟩)
 omega
noncomputable def rB (z : List (List UInt8)) (s : List UInt8) (p y : Nat) : Bool := decide (cntOk z y s z.length) && decide (0 < (grw z y s).count (lt p))
noncomputable def tB (z : List (List UInt8)) (p y : Nat) : Bool := !decide (cntOk z y [lt p] z.length) || decide (2 ≤ (grw z y [lt p]).count (lt p))
noncomputable def reB (z : List (List UInt8)) (s : List UInt8) (p k : Nat) : Bool := (List.range k).any (rB z s p)
theorem hit {z : List (List UInt8)} (hz : VOk z) {s : List UInt8} (hs30 : s.length ≤ 30) (hs : has z.length s) (he : expS z s = true) : ∃ q, q < z.length ∧ reB z s q (z.length + 1) = true ∧ ∃ y, 1 ≤ y ∧ y ≤ 36 ∧ tB z q y = true := by
 have h6 := hz.h6
 obtain ⟨b, hb, q, hq, h1, h2⟩ := expS_spec he
 have hbl := qcd.1 hs b hb
 have hl := ix_lt hbl
 refine ⟨q, hq, ?_, ?_⟩
 ·have hp : ∃ a, a ≤ z.length ∧ Path z a q (ix b) := by
   by_cases e : ix b = q
   ·exact ⟨0, Nat.zero_le _, e.symm⟩
   ·rcases h1 with h1 | h1
    ·exact absurd h1.symm e
    ·obtain ⟨a, -, g2, g3⟩ := Cm.short hz hq hl e h1
     exact ⟨a, by omega, g3⟩
  obtain ⟨a, ha, hp⟩ := hp
  have m := qjv hz a hl hp
  rw [lt_ix hbl (by omega)] at m
  have hm : lt q ∈ grw z a s := mem_grw ⟨b, hb, m⟩
  unfold reB
  rw [List.any_eq_true]
  refine ⟨a, List.mem_range.2 (by omega), ?_⟩
  unfold rB
  have hc : cntOk z a s z.length := fun p hp => by
   have h3 : (grw z a s).count (lt p) ≤ (grw z a s).length := List.count_le_length
   rw [grw_len] at h3
   have h4 := (sat_len hz hs30 hs (show a ≤ 12 by omega)).2
   omega
  rw [dT hc, dT (List.count_pos_iff.2 hm)]; rfl
 ·obtain ⟨y, hy, h3⟩ := doubles_soon hz hq h2
  refine ⟨y + 1, by omega, by omega, ?_⟩
  unfold tB
  rw [dT h3, Bool.or_true]
end
section
variable {ro : List ABlk} {h hp : Heap}
theorem partsV_at {z : List (List UInt8)} {s : List UInt8} (hS : errS z s = 0) {y : Nat} (hy : y ≤ 1000) : qjg z s (y : Int) = if cntOk z y s z.length then (cntL z y s z.length, 0) else ([], 4) := by
 have e1 : errY z s (y : Int) = 0 := by
  unfold errY
  rw [if_neg (fun h => h hS), if_pos (by omega)]
 unfold qjg
 rw [if_neg (fun h => h e1), Int.toNat_natCast]
set_option maxHeartbeats 2000000 in
theorem doubles43 {v : AVal} {z : List (List UInt8)} {s : List UInt8} (a : IsS ro h v z) (hf : Few z s) (hS : errS z s = 0) (he : expS z s = true) :
  callX F1 ro 43 [v, .s s] h = some (.b true, h, h.length, h.length) := by
 have hz := VOk.of (qjm hS)
 have n1 := hz.h1
 have n6 := hz.h6
 obtain ⟨hs30, hsh⟩ := qiu hS
 obtain ⟨L, hL⟩ : ∃ L, L = h.length := ⟨_, rfl⟩
 obtain ⟨n, hn⟩ : ∃ n, n = z.length := ⟨_, rfl⟩
 have hlS : ∀ {K : Heap}, Keep h K → evP .e (.len false (.c v)) = some (.i .i64 (n : Int)) := fun k => by rw [hn]; exact len_S (S_by a k)
 -- one part
 have part : ∀ (p : Nat) (K : Heap), p < n → Keep h K → ∃ K', Keep h K' ∧ ((g43_b0 (qbs F1 ro) ro v s (p : Int) ⟨K, L, L⟩ = some (.inl (((p + 1 : Nat) : Int), ⟨K', L, L⟩)) ∧ ¬ (reB z s p (n + 1) = true ∧ ∃ y, 1 ≤ y ∧ y ≤ 36 ∧ tB z p y = true)) ∨ g43_b0 (qbs F1 ro) ro v s (p : Int) ⟨K, L, L⟩ = some (.inr (.inr (true, ⟨K', L, L⟩)))) := by
  intro p K hp kK
  have hqK := kK.1
  have w1 : wr .i64 (97 + (p : Int)) = ((97 + p : Nat) : Int) := by rw [wr_id' (by omega) (by omega)]; omega
  have w2 : wr .u8 ((97 + p : Nat) : Int) = ((97 + p : Nat) : Int) := wr_u8 (by omega)
  obtain ⟨K1, hK1⟩ : ∃ K1, K1 = K ++ [some (blkOf 5 [.i .u8 ((97 + p : Nat) : Int)])] := ⟨_, rfl⟩
  have s1 : stepM ro ⟨K, L, L⟩ (.bsl 5 1 [(AVal.i IntKind.u8 0)] 1 [((0, 1), .c (.i .u8 ((97 + p : Nat) : Int)))]) = some (.sl ⟨false, K.length, 0⟩ 1 (.known 1), ⟨K1, L, L⟩) := by
   rw [hK1]; simp [stepM, stepK, qjb, rep, fillA, opd, AVal.cells, splice, newB, St.mm]
  have kK1 : Keep K K1 := by rw [hK1]; exact Keep.app _
  have s2 : btsM ro ⟨K1, L, L⟩ (.sl ⟨false, K.length, 0⟩ 1 (.known 1)) = some (.s [lt p]) := by
   have hbq : rdB ro K1 ⟨false, K.length, 0⟩ = some (blkOf 5 [.i .u8 ((97 + p : Nat) : Int)]) := by rw [hK1]; simp [rdB, qbk]
   have hg : (blkOf 5 [AVal.i .u8 ((97 + p : Nat) : Int)]).c.row 0 1 = [.i .u8 ((97 + p : Nat) : Int)] := qgg 1 0 _ rfl fun j hj => by rw [Nat.zero_add, qdu]
   have hble : Nat.ble (0 + 1) (blkOf 5 [AVal.i .u8 ((97 + p : Nat) : Int)]).n = true := rfl
   have e : ((97 + p : Nat) : Int) = Int.ofNat (97 + p) := rfl
   have e3 : Nat.blt (97 + p) 256 = true := by rw [Nat.blt_eq]; omega
   simp only [btsM, qki, hbq, hble, cond_true, hg]
   rw [e]
   simp only [qdz, e3, cond_true, Option.map_some]
   rfl
  have kh1 := kK.trans kK1
  have hbud : errS z [lt p] = 0 := by
   have hh : has z.length [lt p] := qcd.2 fun b hb => by
    rw [List.mem_singleton.1 hb]
    exact isL_lt (by omega) (by omega)
   unfold errS
   rw [if_neg (fun h => h (qjm hS)), if_pos ⟨by simp, hh⟩]
  have hfb : Few z [lt p] := ⟨hf.1, hf.2.1, by simp⟩
  -- is it reached?
  have key1 : ∃ r, loopX (fun q : Bool × Int × Mm => g43_b1 (qbs F1 ro) ro v s (p : Int) [lt p] q.1 q.2.1 q.2.2) (false, 0, ⟨K1, L, L⟩) = some r ∧ ∃ J, r = (reB z s p (n + 1), ⟨J, L, L⟩) ∧ Keep h J := by
   refine qbt (n + 1) (fun y q => ∃ J, q = (reB z s p y, (y : Int), ⟨J, L, L⟩) ∧ Keep h J) _ ?_ ?_ (n + 1) 0 _ (by omega) ⟨K1, rfl, kh1⟩
   ·rintro y q hy ⟨J, rfl, kJ⟩
    have hqJ := kJ.1
    obtain ⟨w, H, c1, k1, R1⟩ := parts21 (ro := ro) (s := s) (y := (y : Int)) (S_by a kJ) hf
    have q1 := k1.1
    have c1' := cM (l := L) (p := L) c1 (by omega) (by omega)
    rw [partsV_at hS (by omega)] at c1' R1
    have hle : (!ltI (n : Int) (y : Int)) = true := by rw [ltF (show ¬ (n : Int) < (y : Int) by omega)]; rfl
    have kH := kJ.trans k1
    have hsucc : reB z s p (y + 1) = (reB z s p y || rB z s p y) := by unfold reB; rw [List.range_succ, List.any_append]; simp
    cases hre : reB z s p y
    ·rw [hre, Bool.false_or] at hsucc
     by_cases hc : cntOk z y s z.length
     ·rw [if_pos hc] at c1' R1
      have hlen : (cntL z y s z.length).length = n := by rw [hn]; simp [cntL]
      have hlr := len_row R1
      rw [hlen] at hlr
      obtain ⟨p1, i1, i2, i3⟩ := at_row (ro := ro) (h := H) (m := ⟨H, L, L⟩) rfl R1 (show p < (cntL z y s z.length).length by omega)
      have eg : (cntL z y s z.length).getD p 0 = (((grw z y s).count (lt p) : Nat) : Int) := by simp [cntL, List.getD, show p < z.length by omega]
      rw [eg] at i2
      have e00 : eqI 0 0 = true := rfl
      have hrb : rB z s p y = ltI 0 (((grw z y s).count (lt p) : Nat) : Int) := by
       unfold rB
       rw [dT hc, Bool.true_and, qji]
       congr 1
       exact propext ⟨fun h => by omega, fun h => by omega⟩
      rw [hrb] at hsucc
      exact ⟨_, (by simp only [g43_b1, hlS kJ, oS, iS, fB, hle, cT, cF, mC, c1', pS, x0, x1, e00, hlr, hlS kH, qds, i1, i2, ← hsucc, fI', nx (show y ≤ 1000000 by omega)] <;> rfl), H, rfl, kH⟩
     ·rw [if_neg hc] at c1' R1
      have e40 : eqI 4 0 = false := rfl
      have hrb : rB z s p y = false := by unfold rB; rw [dF hc]; rfl
      rw [hrb] at hsucc
      exact ⟨_, (by simp only [g43_b1, hlS kJ, oS, iS, fB, hle, cT, cF, mC, c1', pS, x0, x1, e40, fI', nx (show y ≤ 1000000 by omega)] <;> rfl), H, by rw [hsucc], kH⟩
    ·rw [hre, Bool.true_or] at hsucc
     exact ⟨_, (by simp only [g43_b1, hlS kJ, oS, iS, fB, hle, cT, mC, c1', pS, x0, x1, fI', nx (show y ≤ 1000000 by omega)] <;> rfl), H, by rw [hsucc], kH⟩
   ·rintro q ⟨J, rfl, kJ⟩
    have hle : (!ltI (n : Int) ((n + 1 : Nat) : Int)) = false := by rw [ltT (show (n : Int) < ((n + 1 : Nat) : Int) by omega)]; rfl
    exact ⟨_, (by simp only [g43_b1, hlS kJ, oS, iS, fB, hle, cF] <;> rfl), J, rfl, kJ⟩
  obtain ⟨r1, e1, J, rfl, kJ⟩ := key1
  obtain ⟨c, hc⟩ : ∃ c, c = reB z s p (n + 1) := ⟨_, rfl⟩
  rw [← hc] at e1
  -- are there two of it?
  have key5 : ∃ r, loopX (fun q : Int × Mm => g43_b5 (qbs F1 ro) ro v s (p : Int) [lt p] c q.1 q.2) (1, ⟨J, L, L⟩) = some r ∧ ∃ J', Keep h J' ∧ ((r = .inl ⟨J', L, L⟩ ∧ ¬ (c = true ∧ ∃ y, 1 ≤ y ∧ y ≤ 36 ∧ tB z p y = true)) ∨ r = .inr (true, ⟨J', L, L⟩)) := by
   cases hcc : c
   ·refine ⟨.inl ⟨J, L, L⟩, qew ?_, J, kJ, .inl ⟨rfl, fun h => by cases h.1⟩⟩
    have h36 : (!ltI 36 1) = true := rfl
    simp only [g43_b5, fB, h36, cT, oS, cF]
   ·refine loop_exit 37 (fun y q => ∃ J', q = ((y : Int), ⟨J', L, L⟩) ∧ 1 ≤ y ∧ Keep h J' ∧ ∀ i, 1 ≤ i → i < y → tB z p i = false) _ ?_ ?_ 36 1 _ (by omega) ⟨J, rfl, Nat.le_refl _, kJ, fun i h1 h2 => by omega⟩
    ·rintro y q hy ⟨J', rfl, h1y, kJ', hall⟩
     have hqJ := kJ'.1
     obtain ⟨w, H, c1, k1, R1⟩ := parts21 (ro := ro) (s := [lt p]) (y := (y : Int)) (S_by a kJ') hfb
     have q1 := k1.1
     have c1' := cM (l := L) (p := L) c1 (by omega) (by omega)
     rw [partsV_at hbud (by omega)] at c1' R1
     have h36 : (!ltI 36 (y : Int)) = true := by rw [ltF (show ¬ (36 : Int) < (y : Int) by omega)]; rfl
     have kH := kJ'.trans k1
     by_cases hok : cntOk z y [lt p] z.length
     ·rw [if_pos hok] at c1' R1
      have hlen : (cntL z y [lt p] z.length).length = n := by rw [hn]; simp [cntL]
      have hlr := len_row R1
      rw [hlen] at hlr
      obtain ⟨p1, i1, i2, i3⟩ := at_row (ro := ro) (h := H) (m := ⟨H, L, L⟩) rfl R1 (show p < (cntL z y [lt p] z.length).length by omega)
      have eg : (cntL z y [lt p] z.length).getD p 0 = (((grw z y [lt p]).count (lt p) : Nat) : Int) := by simp [cntL, List.getD, show p < z.length by omega]
      rw [eg] at i2
      have e00 : eqI 0 0 = true := rfl
      have e04 : eqI 0 4 = false := rfl
      have htb : (!ltI (((grw z y [lt p]).count (lt p) : Nat) : Int) 2) = tB z p y := by
       unfold tB
       rw [dT hok]
       by_cases h2 : 2 ≤ (grw z y [lt p]).count (lt p)
       ·rw [dT h2, ltF (by omega)]; rfl
       ·rw [dF h2, ltT (by omega)]; rfl
      cases htt : tB z p y <;> rw [htt] at htb
      ·exact .inl ⟨_, (by simp only [g43_b5, fB, h36, cT, cF, oS, mC, c1', pS, x0, x1, iS, e04, e00, hlr, hlS kH, qds, i1, i2, htb, fI', nx (show y ≤ 1000000 by omega)] <;> rfl), H, rfl, by omega, kH, fun i h1 h2 => by
        rcases Nat.lt_or_ge i y with h | h
        ·exact hall i h1 h
        ·obtain rfl : i = y := by omega
         exact htt⟩
      ·exact .inr ⟨_, (by simp only [g43_b5, fB, h36, cT, cF, oS, mC, c1', pS, x0, x1, iS, e04, e00, hlr, hlS kH, qds, i1, i2, htb] <;> rfl), H, kH, .inr rfl⟩
     ·rw [if_neg hok] at c1' R1
      have e44 : eqI 4 4 = true := rfl
      exact .inr ⟨_, (by simp only [g43_b5, fB, h36, cT, oS, mC, c1', pS, x0, x1, iS, e44] <;> rfl), H, kH, .inr rfl⟩
    ·rintro q ⟨J', rfl, h1y, kJ', hall⟩
     have h36 : (!ltI 36 ((37 : Nat) : Int)) = false := rfl
     refine ⟨_, (by simp only [g43_b5, fB, h36, cF, oS] <;> rfl), J', kJ', .inl ⟨rfl, fun ⟨_, y, g1, g2, g3⟩ => ?_⟩⟩
     have := hall y g1 (by omega)
     rw [this] at g3; cases g3
  obtain ⟨r5, e5, J', kJ', h5⟩ := key5
  refine ⟨J', kJ', ?_⟩
  rcases h5 with ⟨rfl, hno⟩ | rfl
  ·refine .inl ⟨?_, by rw [← hc]; exact hno⟩
   simp only [g43_b0, hlS kK, oS, iS, fB, ltT (show (p : Int) < (n : Int) by omega), cT, w1, w2, fI', s1, pS, s2, sS, qaw, e1, e5, nx (show p ≤ 1000000 by omega)]
  ·refine .inr ?_
   simp only [g43_b0, hlS kK, oS, iS, fB, ltT (show (p : Int) < (n : Int) by omega), cT, w1, w2, fI', s1, pS, s2, sS, qaw, e1, e5]
 obtain ⟨q, hq, hq1, hq2⟩ := hit hz hs30 hsh he
 have key : ∃ r, loopX (fun s' : Int × Mm => g43_b0 (qbs F1 ro) ro v s s'.1 s'.2) (0, ⟨h, L, L⟩) = some r ∧ ∃ K, r = .inr (true, ⟨K, L, L⟩) ∧ Keep h K := by
  refine loop_exit n (fun p s' => ∃ K, s' = ((p : Int), ⟨K, L, L⟩) ∧ Keep h K ∧ p ≤ q) _ ?_ ?_ n 0 _ (by omega) ⟨h, rfl, Keep.refl _, Nat.zero_le _⟩
  ·rintro p s' hp ⟨K, rfl, kK, hpq⟩
   obtain ⟨K', kK', h1⟩ := part p K hp kK
   rcases h1 with ⟨h1, hno⟩ | h1
   ·refine .inl ⟨_, h1, K', rfl, kK', ?_⟩
    have : p ≠ q := fun e => by subst e; exact hno ⟨by rw [hn]; exact hq1, hq2⟩
    omega
   ·exact .inr ⟨_, h1, K', rfl, kK'⟩
  ·rintro s' ⟨K, rfl, kK, hpq⟩
   omega
 obtain ⟨r, e1, K, rfl, kK⟩ := key
 refine g43_ok (qav F1 ro) (Ovr.no rfl) ?_
 unfold g43
 simp only [← hL, qaw, e1, oS, tA]
 rw [hL]
 exact qce kK rfl
end
end Go.Proofs.Ytfohppnelbbepaa.T
/- Law 12 -/
open Go.Vm
set_option linter.unusedVariables false
set_option linter.unusedSectionVars false
namespace Go.Proofs.Ytfohppnelbbepaa.T
open Go
variable [Ovr]
section
variable {ro : List ABlk} {h hp : Heap}
def itL (z : List (List UInt8)) (s : List UInt8) (a m i : Nat) : List Int := (List.range (m - i)).map fun j => itD i (fun y => ((lenS z y s : Nat) : Int)) (a + 60 * j)
theorem itL_len (z : List (List UInt8)) (s : List UInt8) (a m i : Nat) : (itL z s a m i).length = m - i := by simp [itL]
theorem qip (z : List (List UInt8)) (s : List UInt8) (a m i : Nat) {j : Nat} (hj : j < m - i) : (itL z s a m i).getD j 0 = itD i (fun y => ((lenS z y s : Nat) : Int)) (a + 60 * j) := by simp [itL, List.getD, hj]
theorem itL_dif (z : List (List UInt8)) (s : List UInt8) (a m i : Nat) : difA (itL z s a m i) ((itL z s a m i).length - 1) = itL z s a m (i + 1) := by
 rw [itL_len]
 unfold difA
 rw [show m - i - 1 = m - (i + 1) by omega]
 conv => rhs; unfold itL
 refine List.map_congr_left fun j hj => ?_
 have := List.mem_range.1 hj
 rw [qip z s a m i (by omega), qip z s a m i (by omega), qcn, show a + 60 * (j + 1) = a + 60 * j + 60 by omega]
theorem itL_bd {z : List (List UInt8)} {s : List UInt8} {a m : Nat} (h : ∀ j, j < m → lenS z (a + 60 * j) s ≤ 1125899906842624) : ∀ i j, i + j < m → Bd (1125899906842624 * 2 ^ i) (itD i (fun y => ((lenS z y s : Nat) : Int)) (a + 60 * j))
 | 0, j, hj => by
  have := h j (by omega)
  show Bd _ ((lenS z (a + 60 * j) s : Nat) : Int)
  unfold Bd
  simp only [Int.pow_zero]
  omega
 | i + 1, j, hj => by
  have h1 := itL_bd h i (j + 1) (by omega)
  have h2 := itL_bd h i j (by omega)
  rw [qcn, show a + 60 * j + 60 = a + 60 * (j + 1) by omega]
  have e : (1125899906842624 : Int) * 2 ^ (i + 1) = 1125899906842624 * 2 ^ i + 1125899906842624 * 2 ^ i := by rw [Int.pow_succ, Int.mul_comm (2 ^ i) 2, ← Int.mul_assoc]; omega
  unfold Bd at h1 h2 ⊢
  rw [e]; omega
theorem p2_le {i : Nat} (h : i ≤ 8) : (1125899906842624 : Int) * 2 ^ i ≤ 2305843009213693952 := by
 have : i = 0 ∨ i = 1 ∨ i = 2 ∨ i = 3 ∨ i = 4 ∨ i = 5 ∨ i = 6 ∨ i = 7 ∨ i = 8 := by omega
 rcases this with rfl | rfl | rfl | rfl | rfl | rfl | rfl | rfl | rfl <;> decide
theorem deadV_eq {z : List (List UInt8)} {s : List UInt8} (hS : errS z s = 0) : deadV z s = match dieY z s with
  | some y => ((y : Int), 0)
  | none => (0, 10) := by unfold deadV; (rw [if_neg (fun h => h hS)] <;> rfl)
set_option maxHeartbeats 2000000 in
theorem law12 {v : AVal} {z : List (List UInt8)} {s : List UInt8} {fr : Nat} (hA : ∀ h, callX F1 ro 16 [] h = some (.b true, h, h.length, h.length)) (a : IsS ro h v z) (hfr : fr ≤ 255) :
  callX F1 ro 12 [v, .s s, .i .u8 (fr : Int)] h = some (.b true, h, h.length, h.length) := by
 refine g12_ok (qav F1 ro) (Ovr.no rfl) ?_
 unfold g12
 have c15 := cp0 (few15 (ro := ro) (s := s) a)
 by_cases hf : fewB z s
 rotate_left
 ·simp only [mC, c15, pS, bS, fB, dF hf, nF, cT, cp0 (hA h), tA]
  exact qbe rfl
 have hf' := fewB_len hf
 simp only [mC, c15, pS, bS, fB, dT hf, nT, cF, cp0 (kind28 a hf'), cp0 (dies26 a hf'), x0, x1, x2, oS, iS]
 have e00 : eqI 0 0 = true := rfl
 by_cases hS : errS z s = 0
 rotate_left
 ·have ek : kindV z s = (0, 0, errS z s) := by unfold kindV; rw [if_pos hS]
  have ed : deadV z s = (0, errS z s) := by unfold deadV; rw [if_pos hS]
  have w0 : wr .i64 (0 + 0) = 0 := rfl
  simp only [ek, ed, qfa hS, nF, cT, qds, w0, fI', oS, cp0 (hA h), pS, bS, tA]
  exact qbe rfl
 have hz := VOk.of (qjm hS)
 have n1 := hz.h1
 have n6 := hz.h6
 obtain ⟨hs30, hsh⟩ := qiu hS
 rw [kindV_eq hS, deadV_eq hS]
 cases he : expS z s
 rotate_left
 ·-- kind 3
  have f30 : ltI 3 0 = false := rfl
  have f33 : ltI 3 3 = false := rfl
  have q30 : eqI 3 0 = false := rfl
  have q100 : eqI 10 0 = false := rfl
  have q32 : eqI 3 2 = false := rfl
  have q33 : eqI 3 3 = true := rfl
  have q10 : eqI 10 10 = true := rfl
  have bb : (!(false == false)) = false := rfl
  have c43 := cp0 (doubles43 (ro := ro) a hf' hS he)
  simp only [die_kind3 hz hsh he, if_true, e00, f30, f33, q30, q100, q32, q33, q10, bb, nT, nF, cF, cT, oS, c43, pS, bS, cp0 (hA h), tA]
  exact qbe rfl
 by_cases h0 : topN z s = 0
 ·-- kind 0
  obtain ⟨y, hy⟩ := die_kind0 hz hsh he h0
  obtain ⟨hyn, hyl⟩ := dieY_spec hy
  have f00 : ltI 0 0 = false := rfl
  have f30 : ltI 3 0 = false := rfl
  have bb : (!(true == true)) = false := rfl
  have q02 : eqI 0 2 = false := rfl
  have q03 : eqI 0 3 = false := rfl
  have fny : ltI (z.length : Int) (y : Int) = false := ltF (by omega)
  have c19 := cp0 (long19 (ro := ro) (s := s) (y := (y : Int)) a hf')
  rw [longV_at hS (by omega), hyl, if_neg (by decide)] at c19
  have c19' : callM (callX F1 ro) ⟨h, h.length, h.length⟩ 19 [v, .s s, .i .i64 (y : Int)] = some (.tup [.i .i64 0, .i .i64 0], ⟨h, h.length, h.length⟩) := c19
  have hff : ¬ (false = true) := by decide
  have hlt : (0 : Nat) < 2 := by decide
  have hz0 : ((0 : Nat) : Int) = 0 := rfl
  simp only [hy, h0, if_neg hff, if_pos hlt, hz0, e00, f00, f30, bb, q02, q03, len_S a, fny, nT, nF, cF, cT, oS, iS, c19', pS, x0, x1, bS, cp0 (hA h), tA]
  exact qbe rfl
 -- kinds 1 and 2
 obtain ⟨d, hd⟩ : ∃ d, topN z s = d + 1 := ⟨topN z s - 1, by omega⟩
 have htop := topN_le z s
 have hdn : d < z.length := by omega
 have dg := deg_shoot hz hsh he
 rw [hd] at dg
 have hdie := die_kind1 hz hsh he (by omega)
 obtain ⟨L, hL⟩ : ∃ L, L = h.length := ⟨_, rfl⟩
 obtain ⟨a0, ha0⟩ : ∃ a0, a0 = 6 + fr % 60 := ⟨_, rfl⟩
 have t1 : Int.tmod (fr : Int) 60 = ((fr % 60 : Nat) : Int) := (Int.ofNat_tmod _ _).symm
 have t2 : wr .i64 ((fr % 60 : Nat) : Int) = ((fr % 60 : Nat) : Int) := wr_id' (by omega) (by omega)
 have t3 : wr .i64 (6 + ((fr % 60 : Nat) : Int)) = (a0 : Int) := by rw [wr_id' (by omega) (by omega)]; omega
 have t4 : wr .i64 ((d : Int) + 3) = ((d + 3 : Nat) : Int) := by rw [wr_id' (by omega) (by omega)]; omega
 obtain ⟨w, H, c, c44, k1, R1⟩ := len44 (ro := ro) (a0 := a0) (m := d + 3) a hf' hS (by omega) (by omega)
 have q1 := k1.1
 have c44' := cM (l := L) (p := L) c44 (by omega) (by omega)
 have cAH := cp (l := L) (p := L) (hA H) (by omega) (by omega)
 -- the end, whatever the kind
 have fin : ∀ (tail : Option (AVal × Heap × Nat × Nat)), tail = (bindO (evP .e (.ext 0 (.c (.tup [w, .b c])))) fun v140 =>
      bindO (evP .e (.ext 1 (.c (.tup [w, .b c])))) fun v141 =>
      asB v141 fun c141 =>
      cond (!c141) (
       bindP (callM (callX F1 ro) ⟨H, L, L⟩ 16 []) fun v144 m_14 =>
       asB v144 fun c144 =>
       finM h.length (tupA [(.b c144)]) m_14) (
       bindO (loopX (fun s : AVal × Int × Mm => g12_b16 (qbs F1 ro) ro (d : Int) s.1 s.2.1 s.2.2) (v140, 0, ⟨H, L, L⟩)) fun ⟨v14_1, m_17⟩ =>
       bindO (some (Mm.base m_17)) fun m_18 =>
       bindO (evP .e (.ixS 1 (.c v14_1) (.c (.i .i64 0)))) fun v153 =>
       bindO (ldM ro m_18 true 1 v153) fun v154 =>
       asI .i64 v154 fun x154 =>
       bindO (cond (ltI 0 x154) (
        bindO (evP .e (.ixS 1 (.c v14_1) (.c (.i .i64 0)))) fun v158 =>
        bindO (ldM ro m_18 true 1 v158) fun v159 =>
        asI .i64 v159 fun x159 =>
        bindO (evP .e (.ixS 1 (.c v14_1) (.c (.i .i64 1)))) fun v161 =>
        bindO (ldM ro m_18 true 1 v161) fun v162 =>
        asI .i64 v162 fun x162 =>
        some (eqI x159 x162)) (
        some false)) fun c164 =>
       bindO (cond c164 (
        bindO (evP .e (.ixS 1 (.c v14_1) (.c (.i .i64 1)))) fun v167 =>
        bindO (ldM ro m_18 true 1 v167) fun v168 =>
        asI .i64 v168 fun x168 =>
        bindO (evP .e (.ixS 1 (.c v14_1) (.c (.i .i64 2)))) fun v170 =>
        bindO (ldM ro m_18 true 1 v170) fun v171 =>
        asI .i64 v171 fun x171 =>
        some (eqI x168 x171)) (
        some false)) fun c173 =>
       bindO (cond c173 (
        bindP (callM (callX F1 ro) m_18 16 []) fun v175 m_20 =>
        asB v175 fun c175 =>
        some (c175, m_20)) (
        some (false, m_18))) fun ⟨c176, m_19⟩ =>
       bindO (some (Mm.join m_17 m_19)) fun m_21 =>
       finM h.length (tupA [(.b c176)]) m_21)) → tail = some (.b true, h, h.length, h.length) := by
  rintro tail rfl
  cases hc : c
  ·simp only [x0, x1, oS, bS, nF, cT, cAH, pS, tA]
   rw [hL]; exact qce k1 rfl
  obtain ⟨R1, hall⟩ := R1 hc
  have e1 : len60 z s a0 (d + 3) = itL z s a0 (d + 3) 0 := rfl
  rw [e1] at R1
  have key : ∃ r, loopX (fun s : AVal × Int × Mm => g12_b16 (qbs F1 ro) ro (d : Int) s.1 s.2.1 s.2.2) (w, 0, ⟨H, L, L⟩) = some r ∧ ∃ u K, r = (u, ⟨K, L, L⟩) ∧ Keep h K ∧ IsRow ro K u (itL z s a0 (d + 3) d) := by
   refine qbt d (fun i q => ∃ u K, q = (u, (i : Int), ⟨K, L, L⟩) ∧ Keep h K ∧ IsRow ro K u (itL z s a0 (d + 3) i)) _ ?_ ?_ d 0 _ (by omega) ⟨w, H, rfl, k1, R1⟩
   ·rintro i q hi ⟨u, K, rfl, kK, RK⟩
    have hqK := kK.1
    have hll := itL_len z s a0 (d + 3) i
    obtain ⟨u', K', c45, k45, R45⟩ := dif45 (ro := ro) RK (by omega) (by omega) (p2_le (i := i) (by omega)) fun j hj => by
     rw [qip z s a0 (d + 3) i (by omega)]
     exact itL_bd hall i j (by omega)
    have c45' := cM (l := L) (p := L) c45 (by omega) (by omega)
    rw [itL_dif] at R45
    exact ⟨_, (by simp only [g12_b16, fB, ltT (show (i : Int) < (d : Int) by omega), cT, mC, c45', pS, fI', nx (show i ≤ 1000000 by omega)] <;> rfl), u', K', rfl, kK.trans k45, R45⟩
   ·rintro q ⟨u, K, rfl, kK, RK⟩
    exact ⟨_, (by simp only [g12_b16, fB, ltF (Int.lt_irrefl _), cF] <;> rfl), u, K, rfl, kK, RK⟩
  obtain ⟨r, l1, u, K, rfl, kK, RK⟩ := key
  have hqK := kK.1
  have hll := itL_len z s a0 (d + 3) d
  obtain ⟨X, hX⟩ : ∃ X, X = itD d (fun y => ((lenS z y s : Nat) : Int)) a0 := ⟨_, rfl⟩
  have g0 : (itL z s a0 (d + 3) d).getD 0 0 = X := by rw [qip z s a0 (d + 3) d (by omega), hX]; rfl
  have gn : ∀ j, 6 ≤ a0 + 60 * j → itD d (fun y => ((lenS z y s : Nat) : Int)) (a0 + 60 * (j + 1)) = itD d (fun y => ((lenS z y s : Nat) : Int)) (a0 + 60 * j) := fun j hj => by
   have h1 := (dg (a0 + 60 * j) (by omega)).2
   rw [qcn, show a0 + 60 * j + 60 = a0 + 60 * (j + 1) by omega] at h1
   omega
  have gg1 : itD d (fun y => ((lenS z y s : Nat) : Int)) (a0 + 60 * 1) = X := by rw [gn 0 (by omega), hX]; rfl
  have gg2 : itD d (fun y => ((lenS z y s : Nat) : Int)) (a0 + 60 * 2) = X := by rw [gn 1 (by omega), gg1]
  have g1 : (itL z s a0 (d + 3) d).getD 1 0 = X := by rw [qip z s a0 (d + 3) d (by omega), gg1]
  have g2 : (itL z s a0 (d + 3) d).getD 2 0 = X := by rw [qip z s a0 (d + 3) d (by omega), gg2]
  have hpos : 0 < X := by rw [hX]; exact (dg a0 (by omega)).1
  obtain ⟨p0, i1, i2, i3⟩ := at_row (ro := ro) (h := K) (m := ⟨K, K.length, K.length⟩) rfl RK (show 0 < (itL z s a0 (d + 3) d).length by omega)
  obtain ⟨p1, j1, j2, j3⟩ := at_row (ro := ro) (h := K) (m := ⟨K, K.length, K.length⟩) rfl RK (show 1 < (itL z s a0 (d + 3) d).length by omega)
  obtain ⟨p2, m1, m2, m3⟩ := at_row (ro := ro) (h := K) (m := ⟨K, K.length, K.length⟩) rfl RK (show 2 < (itL z s a0 (d + 3) d).length by omega)
  rw [g0] at i2
  rw [g1] at j2
  rw [g2] at m2
  have i1' : evP .e (.ixS 1 (.c u) (.c (.i .i64 0))) = some p0 := i1
  have j1' : evP .e (.ixS 1 (.c u) (.c (.i .i64 1))) = some p1 := j1
  have m1' : evP .e (.ixS 1 (.c u) (.c (.i .i64 2))) = some p2 := m1
  have hjn : Mm.join ⟨K, L, L⟩ ⟨K, K.length, K.length⟩ = ⟨K, L, L⟩ := joinL (by omega) (by omega)
  simp only [x0, x1, oS, bS, nT, cF, l1, baseL, i1', i2, iS, ltT hpos, cT, j1', j2, qds, m1', m2, cp0 (hA K), pS, hjn, tA]
  rw [hL]; exact qce kK rfl
 have hff : ¬ (false = true) := by decide
 have q100 : eqI 10 0 = false := rfl
 have q10 : eqI 10 10 = true := rfl
 have bb : (!(false == false)) = false := rfl
 by_cases hd0 : d = 0
 ·-- kind 1
  have hlt : topN z s < 2 := by omega
  have ht1 : ((topN z s : Nat) : Int) = 1 := by omega
  have f10 : ltI 1 0 = false := rfl
  have f31 : ltI 3 1 = false := rfl
  have u10 : eqI 1 0 = false := rfl
  have u12 : eqI 1 2 = false := rfl
  have u13 : eqI 1 3 = false := rfl
  have hd' : (d : Int) = 0 := by omega
  rw [hd'] at t4 fin
  simp only [hdie, if_neg hff, if_pos hlt, ht1, e00, f10, f31, u10, u12, u13, q100, q10, bb, nT, nF, cF, cT, oS, fI', fB, ← hL, t1, t2, t3, t4, c44', pS, iS, qaw]
  rw [hL] at fin ⊢
  exact fin _ rfl
 ·-- kind 2
  have hlt : ¬ topN z s < 2 := by omega
  have ht1 : ((topN z s : Nat) : Int) - 1 = (d : Int) := by omega
  have f10 : ltI 2 0 = false := rfl
  have f31 : ltI 3 2 = false := rfl
  have u10 : eqI 2 0 = false := rfl
  have u12 : eqI 2 2 = true := rfl
  have u13 : eqI 2 3 = false := rfl
  have fd1 : ltI (d : Int) 1 = false := ltF (by omega)
  have fdn : ltI (d : Int) (z.length : Int) = true := ltT (by omega)
  simp only [hdie, if_neg hff, if_neg hlt, ht1, e00, f10, f31, u10, u12, u13, q100, q10, bb, len_S a, fd1, fdn, nT, nF, cF, cT, oS, iS, fI', fB, ← hL, t1, t2, t3, t4, c44', pS, qaw]
  rw [hL] at fin ⊢
  exact fin _ rfl
end
section
variable {ro : List ABlk} {h : Heap}
theorem law12I {v : AVal} {z : List (List UInt8)} {s : List UInt8} {x : Int} (hA : ∀ h, callX F1 ro 16 [] h = some (.b true, h, h.length, h.length)) (a : IsS ro h v z) (hx : 0 ≤ x ∧ x ≤ 255) :
  callX F1 ro 12 [v, .s s, .i .u8 x] h = some (.b true, h, h.length, h.length) := by
 obtain ⟨n, rfl⟩ : ∃ n : Nat, x = (n : Int) := ⟨x.toNat, by omega⟩
 exact law12 hA a (by omega)
end
end Go.Proofs.Ytfohppnelbbepaa.T
/- The bridge, alive known -/
open Go.Vm
set_option linter.unusedVariables false
set_option linter.unusedSectionVars false
namespace Go.Proofs.Ytfohppnelbbepaa.T
open Go Go.RowKit Go.Deep Go.WideShapes Go.ChangeShapes
attribute [local instance] ovA
theorem aliveA {ro : List ABlk} (h : Heap) : callX F1 ro 16 [] h = some (.b true, h, h.length, h.length) := callX_ov rfl
theorem call_ofA {W : World} {ro : List ABlk} {rl : Rl} (hE : (Env.mk Try.prog W.heap.size W ro rl).Ok) {K : Nat} {vs : List AVal} {args : Array Value}
  (hv : LR rl [] vs args) {h' : Heap} {lw lp : Nat} (hc : callX F1 ro K vs [] = some (.b true, h', lw, lp)) : Calls Try.prog K args W fun e W' => e = .returned (.bool true) ∧ Below W.heap.size W W' :=
 call_of hE (alive_known hE (Try.checked.mixed) fok) hv hc
theorem exC {ro : List ABlk} {k : Nat} {l : List AVal} {h : Heap} {n m : Nat} {H : Heap} (e : callX F1 ro k l h = some (.b true, H, n, m)) : ∃ h' lw lp, callX F1 ro k l h = some (.b true, h', lw, lp) := ⟨_, _, _, e⟩
end Go.Proofs.Ytfohppnelbbepaa.T

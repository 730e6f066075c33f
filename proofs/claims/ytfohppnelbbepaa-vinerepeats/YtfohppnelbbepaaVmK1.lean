/- Contracts of the functions: what each of them answers. -/
import Derived.Test.YtfohppnelbbepaaVmK0
/- Law 14 -/
open Go.Vm
set_option linter.unusedVariables false
set_option linter.unusedSectionVars false
namespace Go.Proofs.Ytfohppnelbbepaa.T
open Go
variable [Ovr]
section
variable {ro : List ABlk} {h hp : Heap}
end
end Go.Proofs.Ytfohppnelbbepaa.T
/- Law 13 -/
open Go.Vm
set_option linter.unusedVariables false
set_option linter.unusedSectionVars false
namespace Go.Proofs.Ytfohppnelbbepaa.T
open Go
variable [Ovr]
/- what a bud becomes is a beginning of the word -/
section
variable {ro : List ABlk} {h hp : Heap}
end
end Go.Proofs.Ytfohppnelbbepaa.T
/- Law 10 -/
open Go.Vm
set_option linter.unusedVariables false
set_option linter.unusedSectionVars false
namespace Go.Proofs.Ytfohppnelbbepaa.T
open Go
variable [Ovr]
section
variable {ro : List ABlk} {h hp : Heap}
def rowI (n : Nat) (f : Nat → Nat) : List AVal := (List.range n).map fun p => .i .i64 ((f p : Nat) : Int)
end
end Go.Proofs.Ytfohppnelbbepaa.T
/- Dies, both -/
open Go.Vm
set_option linter.unusedVariables false
set_option linter.unusedSectionVars false
namespace Go.Proofs.Ytfohppnelbbepaa.T
open Go
variable [Ovr]
section
variable {ro : List ABlk} {h hp : Heap}
end
end Go.Proofs.Ytfohppnelbbepaa.T
/- A cell of a new matrix -/
open Go.Vm
set_option linter.unusedVariables false
set_option linter.unusedSectionVars false
namespace Go.Proofs.Ytfohppnelbbepaa.T
open Go
variable [Ovr]
section
variable {ro : List ABlk} {h hp : Heap} {α : Type} {enc : α → AVal}
def setM (x : List (List α)) (r c : Nat) (y : α) : List (List α) := x.set r ((x.getD r []).set c y)
theorem setM_len (x : List (List α)) (r c : Nat) (y : α) : (setM x r c y).length = x.length := by simp [setM]
theorem setM_row {x : List (List α)} {r c : Nat} {y : α} (hr : r < x.length) (t : Nat) : (setM x r c y).getD t [] = if t = r then (x.getD r []).set c y else x.getD t [] := by
  unfold setM
  rw [List.getD_eq_getElem?_getD, List.getElem?_set]
  by_cases e : r = t
  · subst e; simp [hr]
  · rw [if_neg e, if_neg fun e2 => e e2.symm, List.getD_eq_getElem?_getD]
theorem setM_rlen {x : List (List α)} {r c : Nat} {y : α} (hr : r < x.length) (t : Nat) : ((setM x r c y).getD t []).length = (x.getD t []).length := by
  rw [setM_row hr]
  split
  · rename_i e; rw [e, List.length_set]
  · rfl
theorem NewM.put {H : Heap} {L : Nat} {w : AVal} {x : List (List α)} (a : NewM enc H L w x) {r c : Nat} {y0 y : α} (hr : r < x.length) (hc : (x.getD r [])[c]? = some y0) (h1 : (enc y).one = true) (h2 : (enc y).cells = [enc y]) (h3 : nonp [enc y] = true) :
    ∃ q u q2 H', evP .e (.ixS 1 (.c w) (.c (.i .i64 (r : Int)))) = some q ∧ (∀ l p, ldM ro ⟨H, l, p⟩ true 1 q = some u) ∧ evP .e (.ixS 1 (.c u) (.c (.i .i64 (c : Int)))) = some q2 ∧ (∀ l p, ldM ro ⟨H, l, p⟩ true 1 q2 = some (enc y0)) ∧
      (∀ l p, l ≤ L → stepM ro ⟨H, l, p⟩ (.st 1 (.c q2) (.c (enc y))) = some (und, ⟨H', l, p⟩)) ∧ NewM enc H' L w (setM x r c y) ∧ H'.length = H.length ∧ ∀ i, i ≤ L → H'[i]? = H[i]? := by
  obtain ⟨bs, cs, rfl, g1, g2, g3⟩ := a
  obtain ⟨hL, hb⟩ := g2 r hr
  have hcl : c < (x.getD r []).length := (List.getElem?_eq_some_iff.1 hc).1
  obtain ⟨H', s1, f1, f2, f3⟩ := hb.put (ro := ro) (k := c) (w := enc y) (by rw [List.length_map]; exact hcl) h1 h2
  refine ⟨_, _, _, H', ixS_eq hr, fun l p => (g1.ld (ro := ro) (k := r) (w := .sl ⟨false, bs r, 0⟩ (x.getD r []).length (cs r)) (by simp [hr]) l p).1, ixS_eq hcl, fun l p => (hb.ld (ro := ro) (k := c) (by rw [List.getElem?_map, hc]; rfl) l p).1, fun l p hl => ?_, ⟨bs, cs, by rw [setM_len], ?_, fun t ht => ?_, fun t t' ht ht' => ?_⟩, f2, fun i hi => f3 i (by omega)⟩
  · have := s1 l p
    rwa [h3, cond_true, show min l (bs r) = l by omega] at this
  · rw [setM_len]
    have e : ((List.range x.length).map fun t => AVal.sl ⟨false, bs t, 0⟩ ((setM x r c y).getD t []).length (cs t)) = (List.range x.length).map fun t => AVal.sl ⟨false, bs t, 0⟩ (x.getD t []).length (cs t) := List.map_congr_left fun t _ => by rw [setM_rlen hr]
    rw [e]
    exact g1.keep (f3 L (by omega))
  · rw [setM_len] at ht
    obtain ⟨u1, u2⟩ := g2 t ht
    refine ⟨u1, ?_⟩
    rw [setM_row hr]
    by_cases e : t = r
    · subst e
      rw [if_pos rfl, List.map_set]
      exact f1
    · rw [if_neg e]
      exact u2.keep (f3 _ fun e2 => e (g3 t r ht hr e2))
  · rw [setM_len] at ht ht'
    exact g3 t t' ht ht'
end
end Go.Proofs.Ytfohppnelbbepaa.T
/- descent -/
open Go.Vm
set_option linter.unusedVariables false
set_option linter.unusedSectionVars false
namespace Go.Proofs.Ytfohppnelbbepaa.T
open Go
variable [Ovr]
section
variable {ro : List ABlk} {h hp : Heap}
end
end Go.Proofs.Ytfohppnelbbepaa.T
/- doubles -/
open Go.Vm
set_option linter.unusedVariables false
set_option linter.unusedSectionVars false
namespace Go.Proofs.Ytfohppnelbbepaa.T
open Go
variable [Ovr]
section
variable {ro : List ABlk} {h hp : Heap}
end
end Go.Proofs.Ytfohppnelbbepaa.T
/- explodes -/
open Go.Vm
set_option linter.unusedVariables false
set_option linter.unusedSectionVars false
namespace Go.Proofs.Ytfohppnelbbepaa.T
open Go
variable [Ovr]
section
variable {ro : List ABlk} {h hp : Heap}
end
end Go.Proofs.Ytfohppnelbbepaa.T
/- The closure -/
open Go.Vm
set_option linter.unusedVariables false
set_option linter.unusedSectionVars false
namespace Go.Proofs.Ytfohppnelbbepaa.T
open Go
variable [Ovr]
/- what comes of what: the closure -/
end Go.Proofs.Ytfohppnelbbepaa.T
/- circles -/
open Go.Vm
set_option linter.unusedVariables false
set_option linter.unusedSectionVars false
namespace Go.Proofs.Ytfohppnelbbepaa.T
open Go
variable [Ovr]
section
variable {ro : List ABlk}
end
end Go.Proofs.Ytfohppnelbbepaa.T
/- Kind -/
open Go.Vm
set_option linter.unusedVariables false
set_option linter.unusedSectionVars false
namespace Go.Proofs.Ytfohppnelbbepaa.T
open Go
variable [Ovr]
section
variable {ro : List ABlk} {h hp : Heap}
end
end Go.Proofs.Ytfohppnelbbepaa.T
/- circles and doubles of the reference -/
open Go.Vm
set_option linter.unusedVariables false
set_option linter.unusedSectionVars false
namespace Go.Proofs.Ytfohppnelbbepaa.T
open Go
variable [Ovr]
section
variable {ro : List ABlk}
end
end Go.Proofs.Ytfohppnelbbepaa.T
/- Warshall -/
open Go.Vm
set_option linter.unusedVariables false
set_option linter.unusedSectionVars false
namespace Go.Proofs.Ytfohppnelbbepaa.T
open Go
variable [Ovr]
/- Warshall: ways whose places between are below a number -/
end Go.Proofs.Ytfohppnelbbepaa.T
/- Matrices made by append -/
open Go.Vm
set_option linter.unusedVariables false
set_option linter.unusedSectionVars false
namespace Go.Proofs.Ytfohppnelbbepaa.T
open Go
variable [Ovr]
section
variable {ro : List ABlk} {h hp : Heap} {α : Type} {enc : α → AVal}
theorem Holds.wr {b k : Nat} {vs : List AVal} {w : AVal} (a : Holds hp b vs) (hk : k < vs.length) (h1 : w.one = true) (hc : w.cells = [w]) (hn : nonp [w] = true) : ∃ hp', (∀ l p, writesM ro [] [(⟨false, b, 0 + k⟩, AVal.cells w)] ⟨hp, l, p⟩ = some ⟨hp', min l b, p⟩) ∧ Holds hp' b (vs.set k w) ∧ hp'.length = hp.length ∧ ∀ i, i ≠ b → hp'[i]? = hp[i]? := by
  obtain ⟨blk, g1, g2, g3⟩ := a
  refine ⟨hp.set b (some { blk with c := blk.c.set k w }), fun l p => ?_, ⟨_, lget_set g1 _, by simpa using g2, fun j hj => ?_⟩, by simp, fun i hi => List.getElem?_set_ne (Ne.symm hi)⟩
  · have hw := wrH_heap (off := k) g1 (by omega : k < blk.n) h1
    have e : 0 + k = k := by omega
    rw [hc, e]
    simp only [writesM, writes, hw, hn, ckOk, if_true, St.mm]
  · show (blk.c.set k w).get j = _
    rw [get_set]
    simp only [List.length_set] at hj
    by_cases e : k = j
    · subst e; simp [List.getD, hj]
    · rw [if_neg e, g3 j hj]
      simp [List.getD, List.getElem?_set_ne e]
end
end Go.Proofs.Ytfohppnelbbepaa.T
/- reach -/
open Go.Vm
set_option linter.unusedVariables false
set_option linter.unusedSectionVars false
namespace Go.Proofs.Ytfohppnelbbepaa.T
open Go
variable [Ovr]
section
variable {ro : List ABlk} {h hp : Heap}
end
end Go.Proofs.Ytfohppnelbbepaa.T
/- Kind of the reference, law 5 -/
open Go.Vm
set_option linter.unusedVariables false
set_option linter.unusedSectionVars false
namespace Go.Proofs.Ytfohppnelbbepaa.T
open Go
variable [Ovr]
section
variable {ro : List ABlk} {h hp : Heap}
end
end Go.Proofs.Ytfohppnelbbepaa.T

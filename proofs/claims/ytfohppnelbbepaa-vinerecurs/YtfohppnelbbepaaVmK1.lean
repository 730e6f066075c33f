/- Contracts of the functions: what each of them answers. -/
import Derived.Test.YtfohppnelbbepaaVmK0
/- Law 14 -/
open Go.Vm
set_option linter.unusedVariables false
set_option linter.unusedSectionVars false
namespace Go.Proofs.Ytfohppnelbbepaa.T
open Go
variable [Ovr]
section
variable {ro : List ABlk} {h hp : Heap}
end
end Go.Proofs.Ytfohppnelbbepaa.T
/- Law 13 -/
open Go.Vm
set_option linter.unusedVariables false
set_option linter.unusedSectionVars false
namespace Go.Proofs.Ytfohppnelbbepaa.T
open Go
variable [Ovr]
/- what a bud becomes is a beginning of the word -/
section
variable {ro : List ABlk} {h hp : Heap}
end
end Go.Proofs.Ytfohppnelbbepaa.T
/- Law 10 -/
open Go.Vm
set_option linter.unusedVariables false
set_option linter.unusedSectionVars false
namespace Go.Proofs.Ytfohppnelbbepaa.T
open Go
variable [Ovr]
section
variable {ro : List ABlk} {h hp : Heap}
def rowI (n : Nat) (f : Nat → Nat) : List AVal := (List.range n).map fun p => .i .i64 ((f p : Nat) : Int)
end
end Go.Proofs.Ytfohppnelbbepaa.T
/- Dies, both -/
open Go.Vm
set_option linter.unusedVariables false
set_option linter.unusedSectionVars false
namespace Go.Proofs.Ytfohppnelbbepaa.T
open Go
variable [Ovr]
section
variable {ro : List ABlk} {h hp : Heap}
end
end Go.Proofs.Ytfohppnelbbepaa.T
/- A cell of a new matrix -/
open Go.Vm
set_option linter.unusedVariables false
set_option linter.unusedSectionVars false
namespace Go.Proofs.Ytfohppnelbbepaa.T
open Go
variable [Ovr]
section
variable {ro : List ABlk} {h hp : Heap} {α : Type} {enc : α → AVal}
def setM (x : List (List α)) (r c : Nat) (y : α) : List (List α) := x.set r ((x.getD r []).set c y)
theorem setM_len (x : List (List α)) (r c : Nat) (y : α) : (setM x r c y).length = x.length := by simp [setM]
theorem setM_row {x : List (List α)} {r c : Nat} {y : α} (hr : r < x.length) (t : Nat) : (setM x r c y).getD t [] = if t = r then (x.getD r []).set c y else x.getD t [] := by
  unfold setM
  rw [List.getD_eq_getElem?_getD, List.getElem?_set]
  by_cases e : r = t
  · subst e; simp [hr]
  · rw [if_neg e, if_neg fun e2 => e e2.symm, List.getD_eq_getElem?_getD]
theorem setM_rlen {x : List (List α)} {r c : Nat} {y : α} (hr : r < x.length) (t : Nat) : ((setM x r c y).getD t []).length = (x.getD t []).length := by
  rw [setM_row hr]
  split
  · rename_i e; rw [e, List.length_set]
  · rfl
theorem NewM.put {H : Heap} {L : Nat} {w : AVal} {x : List (List α)} (a : NewM enc H L w x) {r c : Nat} {y0 y : α} (hr : r < x.length) (hc : (x.getD r [])[c]? = some y0) (h1 : (enc y).one = true) (h2 : (enc y).cells = [enc y]) (h3 : nonp [enc y] = true) :
    ∃ q u q2 H', evP .e (.ixS 1 (.c w) (.c (.i .i64 (r : Int)))) = some q ∧ (∀ l p, ldM ro ⟨H, l, p⟩ true 1 q = some u) ∧ evP .e (.ixS 1 (.c u) (.c (.i .i64 (c : Int)))) = some q2 ∧ (∀ l p, ldM ro ⟨H, l, p⟩ true 1 q2 = some (enc y0)) ∧
      (∀ l p, l ≤ L → stepM ro ⟨H, l, p⟩ (.st 1 (.c q2) (.c (enc y))) = some (und, ⟨H', l, p⟩)) ∧ NewM enc H' L w (setM x r c y) ∧ H'.length = H.length ∧ ∀ i, i ≤ L → H'[i]? = H[i]? := by
  obtain ⟨bs, cs, rfl, g1, g2, g3⟩ := a
  obtain ⟨hL, hb⟩ := g2 r hr
  have hcl : c < (x.getD r []).length := (List.getElem?_eq_some_iff.1 hc).1
  obtain ⟨H', s1, f1, f2, f3⟩ := hb.put (ro := ro) (k := c) (w := enc y) (by rw [List.length_map]; exact hcl) h1 h2
  refine ⟨_, _, _, H', ixS_eq hr, fun l p => (g1.ld (ro := ro) (k := r) (w := .sl ⟨false, bs r, 0⟩ (x.getD r []).length (cs r)) (by simp [hr]) l p).1, ixS_eq hcl, fun l p => (hb.ld (ro := ro) (k := c) (by rw [List.getElem?_map, hc]; rfl) l p).1, fun l p hl => ?_, ⟨bs, cs, by rw [setM_len], ?_, fun t ht => ?_, fun t t' ht ht' => ?_⟩, f2, fun i hi => f3 i (by omega)⟩
  · have := s1 l p
    rwa [h3, cond_true, show min l (bs r) = l by omega] at this
  · rw [setM_len]
    have e : ((List.range x.length).map fun t => AVal.sl ⟨false, bs t, 0⟩ ((setM x r c y).getD t []).length (cs t)) = (List.range x.length).map fun t => AVal.sl ⟨false, bs t, 0⟩ (x.getD t []).length (cs t) := List.map_congr_left fun t _ => by rw [setM_rlen hr]
    rw [e]
    exact g1.keep (f3 L (by omega))
  · rw [setM_len] at ht
    obtain ⟨u1, u2⟩ := g2 t ht
    refine ⟨u1, ?_⟩
    rw [setM_row hr]
    by_cases e : t = r
    · subst e
      rw [if_pos rfl, List.map_set]
      exact f1
    · rw [if_neg e]
      exact u2.keep (f3 _ fun e2 => e (g3 t r ht hr e2))
  · rw [setM_len] at ht ht'
    exact g3 t t' ht ht'
end
end Go.Proofs.Ytfohppnelbbepaa.T
/- descent -/
open Go.Vm
set_option linter.unusedVariables false
set_option linter.unusedSectionVars false
namespace Go.Proofs.Ytfohppnelbbepaa.T
open Go
variable [Ovr]
section
variable {ro : List ABlk} {h hp : Heap}
end
end Go.Proofs.Ytfohppnelbbepaa.T
/- doubles -/
open Go.Vm
set_option linter.unusedVariables false
set_option linter.unusedSectionVars false
namespace Go.Proofs.Ytfohppnelbbepaa.T
open Go
variable [Ovr]
section
variable {ro : List ABlk} {h hp : Heap}
end
end Go.Proofs.Ytfohppnelbbepaa.T
/- explodes -/
open Go.Vm
set_option linter.unusedVariables false
set_option linter.unusedSectionVars false
namespace Go.Proofs.Ytfohppnelbbepaa.T
open Go
variable [Ovr]
section
variable {ro : List ABlk} {h hp : Heap}
end
end Go.Proofs.Ytfohppnelbbepaa.T
/- The closure -/
open Go.Vm
set_option linter.unusedVariables false
set_option linter.unusedSectionVars false
namespace Go.Proofs.Ytfohppnelbbepaa.T
open Go
variable [Ovr]
/- what comes of what: the closure -/
end Go.Proofs.Ytfohppnelbbepaa.T
/- circles -/
open Go.Vm
set_option linter.unusedVariables false
set_option linter.unusedSectionVars false
namespace Go.Proofs.Ytfohppnelbbepaa.T
open Go
variable [Ovr]
section
variable {ro : List ABlk}
end
end Go.Proofs.Ytfohppnelbbepaa.T
/- Kind -/
open Go.Vm
set_option linter.unusedVariables false
set_option linter.unusedSectionVars false
namespace Go.Proofs.Ytfohppnelbbepaa.T
open Go
variable [Ovr]
section
variable {ro : List ABlk} {h hp : Heap}
end
end Go.Proofs.Ytfohppnelbbepaa.T
/- circles and doubles of the reference -/
open Go.Vm
set_option linter.unusedVariables false
set_option linter.unusedSectionVars false
namespace Go.Proofs.Ytfohppnelbbepaa.T
open Go
variable [Ovr]
section
variable {ro : List ABlk}
end
end Go.Proofs.Ytfohppnelbbepaa.T
/- Warshall -/
open Go.Vm
set_option linter.unusedVariables false
set_option linter.unusedSectionVars false
namespace Go.Proofs.Ytfohppnelbbepaa.T
open Go
variable [Ovr]
/- Warshall: ways whose places between are below a number -/
end Go.Proofs.Ytfohppnelbbepaa.T
/- Matrices made by append -/
open Go.Vm
set_option linter.unusedVariables false
set_option linter.unusedSectionVars false
namespace Go.Proofs.Ytfohppnelbbepaa.T
open Go
variable [Ovr]
section
variable {ro : List ABlk} {h hp : Heap} {α : Type} {enc : α → AVal}
def GM (enc : α → AVal) (J : Heap) (L e : Nat) (w : AVal) (x : List (List α)) : Prop := ∃ (bs : Nat → Nat) (cs : Nat → Cap), RowG J L e w ((List.range x.length).map fun r => .sl ⟨false, bs r, 0⟩ (x.getD r []).length (cs r)) ∧
  (∀ r, r < x.length → L ≤ bs r ∧ bs r < J.length ∧ rb w ≠ some (bs r) ∧ Holds J (bs r) ((x.getD r []).map enc)) ∧ ∀ r r', r < x.length → r' < x.length → bs r = bs r' → r = r'
theorem GM.nil (J : Heap) (L e : Nat) : GM enc J L e .nsl [] := ⟨fun _ => 0, fun _ => .grow, RowG.nil _ _ _, fun r hr => by simp at hr, fun r r' hr => by simp at hr⟩
theorem GM.keep {J K : Heap} {L e : Nat} {w : AVal} {x : List (List α)} (g : GM enc J L e w x) (k : Keep J K) : GM enc K L e w x := by
  obtain ⟨bs, cs, g1, g2, g3⟩ := g
  refine ⟨bs, cs, g1.keep k, fun r hr => ?_, g3⟩
  obtain ⟨f1, f2, f3, f4⟩ := g2 r hr
  exact ⟨f1, by have := k.1; omega, f3, f4.by k⟩
theorem GM.isM {J : Heap} {L e : Nat} {w : AVal} {x : List (List α)} (g : GM enc J L e w x) : IsM enc ro J w x := by
  obtain ⟨bs, cs, g1, g2, g3⟩ := g
  rcases g1 with ⟨rfl, e1⟩ | ⟨b, blk, rfl, h2, h3, h4, h5, h6, h7⟩
  · refine .inl ⟨rfl, ?_⟩
    simpa using e1
  · have := rowsM (ro := ro) (enc := enc) (x := x) (c := .grow) (⟨blk, h4, h6, h7⟩ : Holds J b _) (by simp) fun i z hz => by
      have hi : i < x.length := (List.getElem?_eq_some_iff.1 hz).1
      have e2 : x.getD i [] = z := by rw [List.getD_eq_getElem?_getD, hz]; rfl
      obtain ⟨f1, f2, f3, f4⟩ := g2 i hi
      rw [e2] at f4
      refine ⟨.sl ⟨false, bs i, 0⟩ z.length (cs i), by rw [List.getElem?_map, List.getElem?_range hi, ← e2]; rfl, f4.R _ rfl⟩
    simpa using this
theorem GM.bel {J : Heap} {L e : Nat} {w : AVal} {x : List (List α)} (g : GM enc J L e w x) (h1 : 1 ≤ x.length) {n : Nat} (hn : n ≤ L) : w.bel n = false := by
  obtain ⟨bs, cs, g1, -⟩ := g
  rcases g1 with ⟨rfl, e1⟩ | ⟨b, blk, rfl, h2, h3, h4, h5, h6, h7⟩
  · simp at e1; subst e1; simp at h1
  · have : Nat.blt b n = false := by rw [← Bool.not_eq_true, Nat.blt_eq]; omega
    simp [AVal.bel, this]
theorem GM.push {J K : Heap} {L e bytes b : Nat} {c : Cap} {w : AVal} {x : List (List α)} {row : List α} (g : GM enc J L e w x) (k : Keep J K) (hb : J.length ≤ b) (hL : L ≤ J.length) (hrow : Holds K b (row.map enc)) (hx : x.length ≤ 100000) (hbb : bytes ≤ 1000) :
    ∃ u w' K2 K3, stepM ro ⟨K, L, L⟩ (.bsl e 1 [AVal.nsl] 1 [((0, 1), .c (.sl ⟨false, b, 0⟩ row.length c))]) = some (u, ⟨K2, L, L⟩) ∧ stepM ro ⟨K2, L, L⟩ (.app e 1 bytes [AVal.nsl] (.c w) (.c u)) = some (w', ⟨K3, L, L⟩) ∧ GM enc K3 L e w' (x ++ [row]) ∧ K.length ≤ K3.length ∧ ∀ i, i < L → K3[i]? = K[i]? := by
  obtain ⟨bs, cs, g1, g2, g3⟩ := g
  have hbK := hrow.lt
  obtain ⟨J3, J4, l', p', s1, s2, g4, n3, n4, o4, b4, b5, b6⟩ := (g1.keep k).push (ro := ro) (l := L) (p := L) (bytes := bytes) (z := AVal.nsl) (w := .sl ⟨false, b, 0⟩ row.length c) (by have := k.1; omega) (by simp; omega) hbb rfl rfl
  obtain ⟨b41, b42⟩ := b4 L (Nat.le_refl _) (Nat.le_refl _) (Nat.le_refl _)
  have hl' : l' = L ∧ p' = L := by omega
  rw [hl'.1, hl'.2] at s2
  have hwb : ∀ b, rb w = some b → b < J.length ∧ L ≤ b := fun b e => ⟨(g1.holds e).1.lt, (g1.holds e).2.1⟩
  refine ⟨_, _, J3, J4, s1, s2, ⟨fun r => if r < x.length then bs r else b, fun r => if r < x.length then cs r else c, ?_, fun r hr => ?_, fun r r' hr hr' he => ?_⟩, by omega, fun i hi => o4 i (by have := k.1; omega) fun e => by have := hwb _ e; omega⟩
  · have e1 : ((List.range (x ++ [row]).length).map fun r => AVal.sl ⟨false, if r < x.length then bs r else b, 0⟩ ((x ++ [row]).getD r []).length (if r < x.length then cs r else c)) = ((List.range x.length).map fun r => AVal.sl ⟨false, bs r, 0⟩ (x.getD r []).length (cs r)) ++ [AVal.sl ⟨false, b, 0⟩ row.length c] := by
      rw [List.length_append, List.length_singleton, List.range_succ, List.map_append]
      congr 1
      · refine List.map_congr_left fun r hr => ?_
        have hr' := List.mem_range.1 hr
        rw [if_pos hr', if_pos hr', List.getD_eq_getElem?_getD, List.getElem?_append_left hr', ← List.getD_eq_getElem?_getD]
      · simp
    rw [e1]
    simp only [List.length_map, List.length_range] at g4
    simpa using g4
  · have hrb : ∀ t, t < K.length → (rb (AVal.sl ⟨false, K.length + 1, 0⟩ (((List.range x.length).map fun r => AVal.sl ⟨false, bs r, 0⟩ (x.getD r []).length (cs r)).length + 1) .grow)) ≠ some t := fun t ht e => by
      have : K.length + 1 = t := by simpa [rb] using e
      omega
    by_cases hlt : r < x.length
    · obtain ⟨f1, f2, f3, f4⟩ := g2 r hlt
      simp only [if_pos hlt]
      have hk := k.1
      refine ⟨f1, by omega, hrb _ (by omega), ?_⟩
      rw [List.getD_eq_getElem?_getD, List.getElem?_append_left hlt, ← List.getD_eq_getElem?_getD]
      exact (f4.by k).keep (o4 _ (by omega) f3)
    · have hr0 : r = x.length := by simp at hr; omega
      simp only [if_neg hlt]
      have hk := k.1
      refine ⟨by omega, by omega, hrb _ hbK, ?_⟩
      have e2 : (x ++ [row]).getD r [] = row := by rw [hr0, List.getD_eq_getElem?_getD, List.getElem?_append_right (Nat.le_refl _)]; simp
      rw [e2]
      exact hrow.keep (o4 _ hbK fun e => by have := hwb _ e; omega)
  · simp only [List.length_append, List.length_singleton] at hr hr'
    simp only at he
    by_cases h1 : r < x.length <;> by_cases h2 : r' < x.length
    · rw [if_pos h1, if_pos h2] at he
      exact g3 r r' h1 h2 he
    · rw [if_pos h1, if_neg h2] at he
      have := (g2 r h1).2.1
      omega
    · rw [if_neg h1, if_pos h2] at he
      have := (g2 r' h2).2.1
      omega
    · omega
theorem Holds.wr {b k : Nat} {vs : List AVal} {w : AVal} (a : Holds hp b vs) (hk : k < vs.length) (h1 : w.one = true) (hc : w.cells = [w]) (hn : nonp [w] = true) : ∃ hp', (∀ l p, writesM ro [] [(⟨false, b, 0 + k⟩, AVal.cells w)] ⟨hp, l, p⟩ = some ⟨hp', min l b, p⟩) ∧ Holds hp' b (vs.set k w) ∧ hp'.length = hp.length ∧ ∀ i, i ≠ b → hp'[i]? = hp[i]? := by
  obtain ⟨blk, g1, g2, g3⟩ := a
  refine ⟨hp.set b (some { blk with c := blk.c.set k w }), fun l p => ?_, ⟨_, lget_set g1 _, by simpa using g2, fun j hj => ?_⟩, by simp, fun i hi => List.getElem?_set_ne (Ne.symm hi)⟩
  · have hw := wrH_heap (off := k) g1 (by omega : k < blk.n) h1
    have e : 0 + k = k := by omega
    rw [hc, e]
    simp only [writesM, writes, hw, hn, ckOk, if_true, St.mm]
  · show (blk.c.set k w).get j = _
    rw [get_set]
    simp only [List.length_set] at hj
    by_cases e : k = j
    · subst e; simp [List.getD, hj]
    · rw [if_neg e, g3 j hj]
      simp [List.getD, List.getElem?_set_ne e]
theorem GM.row {J : Heap} {L e : Nat} {w : AVal} {x : List (List α)} (g : GM enc J L e w x) {r : Nat} (hr : r < x.length) :
    ∃ q u, evP .e (.ixS 1 (.c w) (.c (.i .i64 (r : Int)))) = some q ∧ (∀ l p, ldM ro ⟨J, l, p⟩ true 1 q = some u) ∧ ldA ro J true 1 q = some u ∧ ∀ (c : Nat) (y0 : α), (x.getD r [])[c]? = some y0 → ∃ q2, evP .e (.ixS 1 (.c u) (.c (.i .i64 (c : Int)))) = some (.p (some q2)) ∧ (∀ l p, ldM ro ⟨J, l, p⟩ true 1 (.p (some q2)) = some (enc y0)) ∧ ldA ro J true 1 (.p (some q2)) = some (enc y0) ∧
      ∀ y, (enc y).one = true → (enc y).cells = [enc y] → nonp [enc y] = true → ∃ J', (∀ l p, l ≤ L → stepM ro ⟨J, l, p⟩ (.st 1 (.c (.p (some q2))) (.c (enc y))) = some (und, ⟨J', l, p⟩)) ∧ (∀ l p, l ≤ L → writesM ro [] [(q2, AVal.cells (enc y))] ⟨J, l, p⟩ = some ⟨J', l, p⟩) ∧ GM enc J' L e w (setM x r c y) ∧ J'.length = J.length ∧ ∀ i, i < L → J'[i]? = J[i]? := by
  obtain ⟨bs, cs, g1, g2, g3⟩ := g
  obtain ⟨f1, f2, f3, f4⟩ := g2 r hr
  rcases g1 with ⟨rfl, e1⟩ | ⟨b, blk, rfl, k2, k3, k4, k5, k6, k7⟩
  · simp at e1; subst e1; simp at hr
  have hO : Holds J b ((List.range x.length).map fun r => .sl ⟨false, bs r, 0⟩ (x.getD r []).length (cs r)) := ⟨blk, k4, k6, k7⟩
  have hlen : ((List.range x.length).map fun r => AVal.sl ⟨false, bs r, 0⟩ (x.getD r []).length (cs r)).length = x.length := by simp
  have o1 := hO.ld (ro := ro) (k := r) (w := .sl ⟨false, bs r, 0⟩ (x.getD r []).length (cs r)) (by simp [hr])
  refine ⟨_, _, ixS_eq (by rw [hlen]; exact hr), fun l p => (o1 l p).1, (o1 0 0).2, fun c y0 hc => ?_⟩
  have hcl : c < (x.getD r []).length := (List.getElem?_eq_some_iff.1 hc).1
  have o2 := f4.ld (ro := ro) (k := c) (w := enc y0) (by rw [List.getElem?_map, hc]; rfl)
  refine ⟨_, ixS_eq hcl, fun l p => (o2 l p).1, (o2 0 0).2, fun y h1 h2 h3 => ?_⟩
  obtain ⟨J1, s1, m1, m2, m3⟩ := f4.put (ro := ro) (k := c) (w := enc y) (by rw [List.length_map]; exact hcl) h1 h2
  obtain ⟨J2, t1, n1, n2, n3⟩ := f4.wr (ro := ro) (k := c) (w := enc y) (by rw [List.length_map]; exact hcl) h1 h2 h3
  have hJ : J1 = J2 := by
    have a1 := s1 0 0
    have a2 := t1 0 0
    rw [h2] at a2
    have hbq : Nat.beq [enc y].length 1 = true := rfl
    simp only [stepM, stepK, opd, st_st, h2, hbq, cond_true, St.mm] at a1
    simp only [writesM, writes] at a2
    cases hw : wrH J ⟨false, bs r, 0 + c⟩ [enc y] with
    | none =>
      simp only [hw] at a1
      exact absurd a1 (by simp)
    | some Z =>
      simp only [hw, h3, ckOk, if_true, St.mm, Option.some.injEq, Mm.mk.injEq, Prod.mk.injEq] at a1 a2
      rw [← a1.2.1, ← a2.1]
  subst hJ
  refine ⟨J1, fun l p hl => ?_, fun l p hl => ?_, ⟨bs, cs, ?_, fun t ht => ?_, fun t t' ht ht' => ?_⟩, m2, fun i hi => m3 i (by omega)⟩
  · have := s1 l p
    rwa [h3, cond_true, show min l (bs r) = l by omega] at this
  · have := t1 l p
    rwa [show min l (bs r) = l by omega] at this
  · rw [setM_len]
    have e : ((List.range x.length).map fun t => AVal.sl ⟨false, bs t, 0⟩ ((setM x r c y).getD t []).length (cs t)) = (List.range x.length).map fun t => AVal.sl ⟨false, bs t, 0⟩ (x.getD t []).length (cs t) := List.map_congr_left fun t _ => by rw [setM_rlen hr]
    rw [e]
    refine RowG.by (.inr ⟨b, blk, rfl, k2, k3, k4, k5, k6, k7⟩) fun b' hb' => m3 b' fun e3 => ?_
    rw [e3] at hb'
    exact f3 hb'
  · rw [setM_len] at ht
    obtain ⟨u1, u2, u3, u4⟩ := g2 t ht
    refine ⟨u1, by omega, u3, ?_⟩
    rw [setM_row hr]
    by_cases e : t = r
    · subst e
      rw [if_pos rfl, List.map_set]
      exact m1
    · rw [if_neg e]
      exact u4.keep (m3 _ fun e2 => e (g3 t r ht hr e2))
  · rw [setM_len] at ht ht'
    exact g3 t t' ht ht'
end
end Go.Proofs.Ytfohppnelbbepaa.T
/- reach -/
open Go.Vm
set_option linter.unusedVariables false
set_option linter.unusedSectionVars false
namespace Go.Proofs.Ytfohppnelbbepaa.T
open Go
variable [Ovr]
section
variable {ro : List ABlk} {h hp : Heap}
end
end Go.Proofs.Ytfohppnelbbepaa.T
/- Kind of the reference, law 5 -/
open Go.Vm
set_option linter.unusedVariables false
set_option linter.unusedSectionVars false
namespace Go.Proofs.Ytfohppnelbbepaa.T
open Go
variable [Ovr]
section
variable {ro : List ABlk} {h hp : Heap}
end
end Go.Proofs.Ytfohppnelbbepaa.T

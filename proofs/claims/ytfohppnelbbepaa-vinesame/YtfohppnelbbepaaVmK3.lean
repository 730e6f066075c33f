/- Contracts of the functions: what each of them answers. -/
import Derived.Test.YtfohppnelbbepaaVmK2
/- What the polynomials say -/
open Go.Vm
set_option linter.unusedVariables false
set_option linter.unusedSectionVars false
namespace Go.Proofs.Ytfohppnelbbepaa.T
open Go
variable [Ovr]
section
variable (a : Nat → Nat → Int)
variable {a}
end
end Go.Proofs.Ytfohppnelbbepaa.T
/- Bounds -/
open Go.Vm
set_option linter.unusedVariables false
set_option linter.unusedSectionVars false
namespace Go.Proofs.Ytfohppnelbbepaa.T
open Go
variable [Ovr]
section
end
end Go.Proofs.Ytfohppnelbbepaa.T
/- one and trace -/
open Go.Vm
set_option linter.unusedVariables false
set_option linter.unusedSectionVars false
namespace Go.Proofs.Ytfohppnelbbepaa.T
open Go
variable [Ovr]
section
variable {ro : List ABlk} {h hp : Heap}
theorem NewM.by {α : Type} {enc : α → AVal} {H H' : Heap} {L : Nat} {w : AVal} {x : List (List α)} (a : NewM enc H L w x) (k : ∀ i, L ≤ i → i < H.length → H'[i]? = H[i]?) : NewM enc H' L w x := by
  obtain ⟨bs, cs, rfl, g1, g2, g3⟩ := a
  refine ⟨bs, cs, rfl, g1.keep (k L (Nat.le_refl _) g1.lt), fun r hr => ?_, g3⟩
  obtain ⟨f1, f2⟩ := g2 r hr
  exact ⟨f1, f2.keep (k _ (by omega) f2.lt)⟩
end
end Go.Proofs.Ytfohppnelbbepaa.T
/- Recurrence of the program -/
open Go.Vm
set_option linter.unusedVariables false
set_option linter.unusedSectionVars false
namespace Go.Proofs.Ytfohppnelbbepaa.T
open Go
variable [Ovr]
section
variable {ro : List ABlk} {h hp : Heap}
end
end Go.Proofs.Ytfohppnelbbepaa.T
/- The determinant -/
open Go.Vm
set_option linter.unusedVariables false
set_option linter.unusedSectionVars false
namespace Go.Proofs.Ytfohppnelbbepaa.T
open Go
variable [Ovr]
section
end
section
variable {ro : List ABlk} {h hp : Heap}
end
end Go.Proofs.Ytfohppnelbbepaa.T
/- Recurrence of the reference -/
open Go.Vm
set_option linter.unusedVariables false
set_option linter.unusedSectionVars false
namespace Go.Proofs.Ytfohppnelbbepaa.T
open Go
variable [Ovr]
section
variable {ro : List ABlk} {h hp : Heap}
end
end Go.Proofs.Ytfohppnelbbepaa.T
/- Law 9 -/
open Go.Vm
set_option linter.unusedVariables false
set_option linter.unusedSectionVars false
namespace Go.Proofs.Ytfohppnelbbepaa.T
open Go
variable [Ovr]
section
variable {ro : List ABlk} {h hp : Heap}
end
end Go.Proofs.Ytfohppnelbbepaa.T
/- Lengths follow from those before -/
open Go.Vm
set_option linter.unusedVariables false
set_option linter.unusedSectionVars false
namespace Go.Proofs.Ytfohppnelbbepaa.T
open Go
variable [Ovr]
section
theorem cnt_bd {z : List (List UInt8)} (hz : VOk z) : ∀ y p, p < z.length → cnt z y p ≤ 8 ^ y
  | 0, p, _ => Nat.le_refl _
  | y + 1, p, hp => by
    have h8 := hz.h8 p hp
    have hsum : ∀ (l : List UInt8), (∀ b ∈ l, isL z.length b) → sumS (cnt z y) l ≤ l.length * 8 ^ y := fun l => by
      induction l with
      | nil => intro _; simp [sumS]
      | cons b l ih =>
        intro h
        have h1 := ih fun c hc => h c (List.mem_cons_of_mem _ hc)
        have h2 := cnt_bd hz y (ix b) (ix_lt (h b (List.mem_cons_self ..)))
        show cnt z y (ix b) + sumS (cnt z y) l ≤ _
        rw [List.length_cons, Nat.add_mul, Nat.one_mul]; omega
    have h1 := hsum _ (has_mem.1 (hz.hh p hp))
    have h2 : (z.getD p []).length * 8 ^ y ≤ 8 * 8 ^ y := Nat.mul_le_mul_right _ h8
    show sumS (cnt z y) (z.getD p []) ≤ _
    rw [Nat.pow_succ, Nat.mul_comm (8 ^ y) 8]
    omega
theorem lenS_bd {z : List (List UInt8)} (hz : VOk z) (y : Nat) : ∀ (l : List UInt8), (∀ b ∈ l, isL z.length b) → lenS z y l ≤ l.length * 8 ^ y
  | [], _ => by simp [lenS, sumS]
  | b :: l, h => by
    have h1 := lenS_bd hz y l fun c hc => h c (List.mem_cons_of_mem _ hc)
    have h2 := cnt_bd hz y (ix b) (ix_lt (h b (List.mem_cons_self ..)))
    show cnt z y (ix b) + lenS z y l ≤ _
    rw [List.length_cons, Nat.add_mul, Nat.one_mul]; omega
end
end Go.Proofs.Ytfohppnelbbepaa.T
/- Same of the program -/
open Go.Vm
set_option linter.unusedVariables false
set_option linter.unusedSectionVars false
namespace Go.Proofs.Ytfohppnelbbepaa.T
open Go
variable [Ovr]
section
variable {ro : List ABlk} {h hp : Heap}
def fD (P : Nat → Bool) : Nat → Nat → Option Nat
  | 0, _ => none
  | k + 1, i => if P i = true then some i else fD P k (i + 1)
theorem fD_some {P : Nat → Bool} : ∀ (k i y : Nat), i ≤ y → y < i + k → P y = true → (∀ t, i ≤ t → t < y → P t = false) → fD P k i = some y
  | 0, i, y, h1, h2, _, _ => by omega
  | k + 1, i, y, h1, h2, h3, h4 => by
    unfold fD
    by_cases e : i = y
    · subst e; rw [if_pos h3]
    · rw [if_neg (by rw [h4 i (Nat.le_refl _) (by omega)]; decide)]
      exact fD_some k (i + 1) y (by omega) (by omega) h3 fun t h5 h6 => h4 t (by omega) h6
theorem fD_none {P : Nat → Bool} : ∀ (k i : Nat), (∀ t, i ≤ t → t < i + k → P t = false) → fD P k i = none
  | 0, i, _ => rfl
  | k + 1, i, h => by
    unfold fD
    rw [if_neg (by rw [h i (Nat.le_refl _) (by omega)]; decide)]
    exact fD_none k (i + 1) fun t h5 h6 => h t (by omega) (by omega)
def difB (z : List (List UInt8)) (s : List UInt8) (w : List (List UInt8)) (t : List UInt8) (y : Nat) : Bool := !decide (lenS z y s = lenS w y t)
noncomputable def errT (z : List (List UInt8)) (s : List UInt8) (w : List (List UInt8)) (t : List UInt8) : Int := if errS z s ≠ 0 then errS z s else errS w t
noncomputable def sameV (z : List (List UInt8)) (s : List UInt8) (w : List (List UInt8)) (t : List UInt8) : Int × Int := if errT z s w t ≠ 0 then (0, errT z s w t) else match fD (difB z s w t) (z.length + w.length) 0 with
  | some y => ((y : Int), 0)
  | none => (0, 10)
abbrev Few (z : List (List UInt8)) (s : List UInt8) : Prop := z.length ≤ 1000000 ∧ (∀ i, i < z.length → (z.getD i []).length ≤ 1000000) ∧ s.length ≤ 1000000
theorem fin_pure3 {v w x : AVal} (hv : v.bel h.length = true) (hw : w.bel h.length = true) (hx : x.bel h.length = true) : finM h.length (.tup [v, w, x]) ⟨h, h.length, h.length⟩ = some (.tup [v, w, x], h, h.length, h.length) := fin_pure (by simp [AVal.bel, bels, hv, hw, hx])
theorem two69 {v u : AVal} {z w : List (List UInt8)} {s t : List UInt8} (a : IsS ro h v z) (b : IsS ro h u w) (hf : Few z s) (hg : Few w t) :
    callX F1 ro 69 [v, .s s, u, .s t] h = some (.tup [if errT z s w t = 0 then v else .nsl, if errT z s w t = 0 then u else .nsl, .i .i64 (errT z s w t)], h, h.length, h.length) := by
  refine g69_ok (meansX_ok F1 ro) (Ovr.no rfl) ?_
  unfold g69
  simp only [mC, cp0 (read60 (s := s) a hf.1 hf.2.1 hf.2.2), pS, x0, x1, oS, iS, fB]
  by_cases hS : errS z s = 0
  rotate_left
  · have e : errT z s w t = errS z s := by unfold errT; rw [if_pos hS]
    simp only [eqI_ne hS, nF, cT, e, if_neg hS, tA3]
    exact fin_pure3 rfl rfl rfl
  have e0 : eqI (errS z s) 0 = true := by rw [hS]; rfl
  have e : errT z s w t = errS w t := by unfold errT; rw [if_neg (fun h => h hS)]
  simp only [e0, nT, cF, cp0 (read60 (s := t) b hg.1 hg.2.1 hg.2.2), pS, x0, x1, oS, iS, e, if_pos hS]
  by_cases hT : errS w t = 0
  rotate_left
  · simp only [eqI_ne hT, nF, cT, if_neg hT, tA3]
    exact fin_pure3 rfl rfl rfl
  have e1 : eqI (errS w t) 0 = true := by rw [hT]; rfl
  simp only [e1, nT, cF, if_pos hT, tA3]
  rw [hT]
  exact fin_pure3 (S_bel a) (S_bel b) rfl
theorem errT_ok {z w : List (List UInt8)} {s t : List UInt8} (h : errT z s w t = 0) : errS z s = 0 ∧ errS w t = 0 := by
  unfold errT at h
  by_cases e : errS z s = 0
  · rw [if_neg (fun h => h e)] at h; exact ⟨e, h⟩
  · rw [if_pos e] at h; exact absurd h e
theorem sat_len {z : List (List UInt8)} (hz : VOk z) {s : List UInt8} (hs : s.length ≤ 30) (hh : has z.length s) {y : Nat} (hy : y ≤ 12) : sat (lenS z y s) = lenS z y s ∧ lenS z y s ≤ 2061584302080 := by
  have h1 := lenS_bd hz y s (has_mem.1 hh)
  have h2 : 8 ^ y ≤ 8 ^ 12 := Nat.pow_le_pow_right (by omega) hy
  have h3 : s.length * 8 ^ y ≤ 30 * 8 ^ 12 := Nat.mul_le_mul hs h2
  have h4 : (30 : Nat) * 8 ^ 12 = 2061584302080 := by decide
  exact ⟨sat_id (by omega), by omega⟩
theorem eqI_dif {a b : Nat} : (!eqI (a : Int) (b : Int)) = !decide (a = b) := by
  by_cases e : a = b
  · rw [e, eqI_self, dT rfl]
  · rw [eqI_ne (by omega), dF e]
set_option maxHeartbeats 1000000 in
theorem same30 {v u : AVal} {z w : List (List UInt8)} {s t : List UInt8} (a : IsS ro h v z) (b : IsS ro h u w) (hf : Few z s) (hg : Few w t) :
    callX F1 ro 30 [v, .s s, u, .s t] h = some (.tup [.i .i64 (sameV z s w t).1, .i .i64 (sameV z s w t).2], h, h.length, h.length) := by
  refine g30_ok (meansX_ok F1 ro) (Ovr.no rfl) ?_
  unfold g30
  simp only [mC, cp0 (two69 a b hf hg), pS, x0, x1, x2, oS, iS, fB]
  by_cases hS : errT z s w t = 0
  rotate_left
  · have e : sameV z s w t = (0, errT z s w t) := by unfold sameV; rw [if_pos hS]
    simp only [eqI_ne hS, nF, cT, e, tA2]
    exact fin_pure2 rfl rfl
  have e0 : eqI (errT z s w t) 0 = true := by rw [hS]; rfl
  obtain ⟨hS1, hS2⟩ := errT_ok hS
  have vz := VOk.of (errS_V hS1)
  have vw := VOk.of (errS_V hS2)
  have z6 := vz.h6
  have w6 := vw.h6
  obtain ⟨hs30, hsh⟩ := errS_ok hS1
  obtain ⟨ht30, hth⟩ := errS_ok hS2
  obtain ⟨L, hL⟩ : ∃ L, L = h.length := ⟨_, rfl⟩
  obtain ⟨N, hN⟩ : ∃ N, N = z.length + w.length := ⟨_, rfl⟩
  have hyr : wr .i64 ((z.length : Int) + (w.length : Int)) = (N : Int) := by rw [wr_id' (by omega) (by omega)]; omega
  obtain ⟨w1, H1, c1, k1, M1⟩ := lengths48 (ro := ro) a vz (show N ≤ 1000 by omega)
  have q1 := k1.1
  have c1' := cM (l := L) (p := L) c1 (by omega) (by omega)
  obtain ⟨w2, H2, c2, k2, M2⟩ := lengths48 (ro := ro) (S_by b k1) vw (show N ≤ 1000 by omega)
  have q2 := k2.1
  have c2' := cM (l := L) (p := L) c2 (by omega) (by omega)
  have M1' := M_by M1 k2
  have kh := k1.trans k2
  have key : ∃ r, loopX (fun q : Int × Mm => g30_b0 (meansX F1 ro) ro s t w1 w2 (N : Int) q.1 q.2) (0, ⟨H2, L, L⟩) = some r ∧ ((r = .inl ⟨H2, L, L⟩ ∧ ∀ y, y < N → difB z s w t y = false) ∨ ∃ y : Nat, r = .inr ((y : Int), 0, ⟨H2, L, L⟩) ∧ y < N ∧ difB z s w t y = true ∧ ∀ i, i < y → difB z s w t i = false) := by
    refine loop_exit N (fun y q => q = ((y : Int), ⟨H2, L, L⟩) ∧ ∀ i, i < y → difB z s w t i = false) _ ?_ ?_ N 0 _ (by omega) ⟨rfl, fun i hi => by omega⟩
    · rintro y q hy ⟨rfl, hall⟩
      have r1 : ((List.range (N + 1)).map (rowN z))[y]? = some (rowN z y) := by simp [show y < N + 1 by omega]
      have r2 : ((List.range (N + 1)).map (rowN w))[y]? = some (rowN w y) := by simp [show y < N + 1 by omega]
      obtain ⟨p1, u1, i1, i2, i3⟩ := at_M M1' r1
      obtain ⟨p2, u2, j1, j2, j3⟩ := at_M M2 r2
      have i3' := (i3 (hp := H2) (l := H2.length) (q := H2.length) (Keep.refl _)).1
      have j3' := (j3 (hp := H2) (l := 0) (q := 0) (Keep.refl _)).2
      have d1 := cp0 (long49 (ro := ro) i2 hf.2.2 hsh)
      have d2 := cp0 (long49 (ro := ro) j2 hg.2.2 hth)
      rw [(sat_len vz hs30 hsh (show y ≤ 12 by omega)).1] at d1
      rw [(sat_len vw ht30 hth (show y ≤ 12 by omega)).1] at d2
      have hck := chkL (a := H2.length) (b := H2.length) (Nat.le_refl _)
      have hjn : Mm.join ⟨H2, L, L⟩ ⟨H2, H2.length, H2.length⟩ = ⟨H2, L, L⟩ := joinL (by omega) (by omega)
      have hd : (!eqI ((lenS z y s : Nat) : Int) ((lenS w y t : Nat) : Int)) = difB z s w t y := eqI_dif
      cases hb : difB z s w t y <;> rw [hb] at hd
      · exact .inl ⟨_, (by simp only [g30_b0, fB, ltT (show (y : Int) < (N : Int) by omega), cT, baseL, oS, i1, i3', mC, d1, pS, iS, hck, ckT, j1, j3', d2, hd, hjn, cF, fI', nx (show y ≤ 1000000 by omega)] <;> rfl), rfl, fun i hi => by
          rcases Nat.lt_or_ge i y with h | h
          · exact hall i h
          · obtain rfl : i = y := by omega
            exact hb⟩
      · exact .inr ⟨_, (by simp only [g30_b0, fB, ltT (show (y : Int) < (N : Int) by omega), cT, baseL, oS, i1, i3', mC, d1, pS, iS, hck, ckT, j1, j3', d2, hd, hjn] <;> rfl), .inr ⟨y, rfl, hy, hb, hall⟩⟩
    · rintro q ⟨rfl, hall⟩
      exact ⟨_, (by simp only [g30_b0, fB, ltF (Int.lt_irrefl _), cF] <;> rfl), .inl ⟨rfl, hall⟩⟩
  obtain ⟨r, e1, e2⟩ := key
  have e : sameV z s w t = match fD (difB z s w t) (z.length + w.length) 0 with
    | some y => ((y : Int), 0)
    | none => (0, 10) := by unfold sameV; rw [if_neg (fun h => h hS)]
  rw [e, ← hN]
  simp only [e0, nT, cF, if_pos hS, len_S a, len_S b, oS, iS, hyr, fI', ← hL, c1', c2', pS, meansX_loop, e1]
  rcases e2 with ⟨rfl, hall⟩ | ⟨y, rfl, hy, hb, hall⟩
  · rw [fD_none N 0 fun t _ h2 => hall t (by omega)]
    simp only [oS, tA2]
    rw [hL]
    exact fin_keep kh rfl
  · rw [fD_some N 0 y (by omega) (by omega) hb fun t _ h2 => hall t h2]
    simp only [oS, tA2]
    rw [hL]
    exact fin_keep kh rfl
end
end Go.Proofs.Ytfohppnelbbepaa.T
/- Law 11 -/
open Go.Vm
set_option linter.unusedVariables false
set_option linter.unusedSectionVars false
namespace Go.Proofs.Ytfohppnelbbepaa.T
open Go
variable [Ovr]
section
variable {ro : List ABlk} {h hp : Heap}
end
end Go.Proofs.Ytfohppnelbbepaa.T
/- Alike -/
open Go.Vm
set_option linter.unusedVariables false
set_option linter.unusedSectionVars false
namespace Go.Proofs.Ytfohppnelbbepaa.T
open Go
variable [Ovr]
section
variable {ro : List ABlk} {h hp : Heap}
theorem btsA_row {L : Nat} {v : AVal} {s : List UInt8} (g : RowG hp L 5 v (s.map bv)) : btsA ro hp v = some (.s s) := by
  have h1 := bts_row (ro := ro) (l := 0) (p := 0) g
  rcases g with ⟨rfl, e⟩ | ⟨b, blk, rfl, h2, h3, h4, h5, h6, h7⟩
  · have : s = [] := by simpa using e
    subst this; rfl
  · have e1 : rdB ro hp ⟨false, b, 0⟩ = some blk := rdB_heap h4 0
    simp only [btsM, st_bts, btsA, e1] at h1 ⊢
    cases hc : Nat.ble (0 + (s.map bv).length) blk.n
    · rw [hc] at h1; simp at h1
    · rw [hc] at h1
      simp only [cond_true] at h1 ⊢
      cases hb : bytesA (blk.c.row 0 (s.map bv).length) with
      | none => rw [hb] at h1; simp at h1
      | some l => rw [hb] at h1; simpa using h1
theorem RowG.bel {L e n : Nat} {v : AVal} {vs : List AVal} (g : RowG hp L e v vs) (hn : n ≤ L) (hv : vs ≠ []) : v.bel n = false := by
  rcases g with ⟨-, e1⟩ | ⟨b, blk, rfl, h2, h3, h4, h5, h6, h7⟩
  · exact absurd e1 hv
  · have : Nat.blt b n = false := by rw [← Bool.not_eq_true, Nat.blt_eq]; omega
    simp [AVal.bel, this]
theorem callNF_down {z : List (List UInt8)} {h0 hh : Heap} {v w : AVal} {y : Nat} {s : List UInt8} (a : IsS ro h0 v z) (M : IsM eU ro h0 w ((List.range (y + 1)).map (rowN z))) (hz : VOk z) (hy : y ≤ 1000) (hs : has z.length s) (hl : s.length ≤ 1000000) (hlen : lenS z y s ≤ 200000) (k : Keep h0 hh) :
    ∃ u H, callNF (callX F1 ro) h0 hh 53 [v, w, .s s, .i .i64 (y : Int), .nsl] = some (u, H) ∧ Keep hh H ∧ btsA ro H u = some (.s (grw z y s)) := by
  have hd := down53 (ro := ro) a M hz hy y (Nat.le_refl _)
  obtain ⟨u1, K1, lw1, lp1, c1, g1, k1, b1, b2, b3, o1⟩ := hd s [] h0 .nsl h0.length hs hl (Keep.refl _) (Nat.le_refl _) (Nat.le_refl _) (RowG.nil _ _ _) (by simpa using hlen)
  rw [List.nil_append] at g1
  have hb0 : bels h0.length [v, w, .s s, .i .i64 (y : Int), .nsl] = true := by simp [bels, S_bel a, M_bel M, AVal.bel]
  have hw1 : (Nat.ble h0.length lw1 && Nat.ble h0.length lp1) = true := by rw [Bool.and_eq_true, Nat.ble_eq, Nat.ble_eq]; exact ⟨b1, b2⟩
  by_cases he : grw z y s = []
  · rw [he] at g1 ⊢
    rcases g1 with ⟨rfl, -⟩ | ⟨b, blk, -, hpos, -⟩
    · exact ⟨.nsl, hh, by simp only [callNF, hb0, cond_true, c1, hw1, AVal.bel], Keep.refl _, rfl⟩
    · simp at hpos
  · obtain ⟨P, hP⟩ : ∃ P, P = h0 ++ List.replicate (hh.length - h0.length) (none : Option ABlk) := ⟨_, rfl⟩
    have hk := k.1
    have lP : P.length = hh.length := by rw [hP]; simp; omega
    have kP : Keep h0 P := by rw [hP]; exact Keep.app _
    obtain ⟨u2, K2, lw2, lp2, c2, g2, k2, d1, d2, d3, o2⟩ := hd s [] P .nsl P.length hs hl kP kP.1 (Nat.le_refl _) (RowG.nil _ _ _) (by simpa using hlen)
    rw [List.nil_append] at g2
    have hne : (grw z y s).map bv ≠ [] := by simpa using he
    have f1 := g1.bel (n := h0.length) (Nat.le_refl _) hne
    have hw2 : (Nat.ble hh.length lw2 && Nat.ble h0.length hh.length) = true := by rw [Bool.and_eq_true, Nat.ble_eq, Nat.ble_eq]; exact ⟨by omega, hk⟩
    refine ⟨u2, hh ++ K2.drop hh.length, ?_, Keep.app _, ?_⟩
    · simp only [callNF, hb0, cond_true, c1, hw1, f1, cond_false, ← hP, c2, hw2]
    · refine btsA_row (L := P.length) (g2.by fun b hb => ?_)
      have := (g2.holds hb).2.1
      rw [List.getElem?_append_right (by omega), List.getElem?_drop]
      congr 1; omega
theorem M_take {α : Type} {enc : α → AVal} {w : AVal} {x : List (List α)} {k : Nat} (M : IsM enc ro h w x) (hc : CapOk w x.length) (h1 : 1 ≤ k) (hk : k ≤ x.length) : ∃ u, evP .e (.slS 1 (.c w) none (some (.c (.i .i64 (k : Int)))) none) = some u ∧ IsM enc ro h u (x.take k) := by
  rcases M with ⟨rfl, rfl⟩ | ⟨q, cap, blk, rfl, hb, hn, hr⟩
  · simp at hk; omega
  · have eh : ((k : Nat) : Int) = Int.ofNat k := rfl
    have hl : (x.take k).length = k := by rw [List.length_take]; omega
    have b1 : Nat.ble k (capB cap x.length) = true := by
      rw [Nat.ble_eq]
      cases cap with
      | known c => exact Nat.le_trans hk (hc _ _ c rfl)
      | grow => exact hk
      | any => exact hk
    refine ⟨.sl q k cap, ?_, .inr ⟨q, cap, blk, by rw [hl], hb, by omega, fun j z hj => hr j z ?_⟩⟩
    · simp only [evP, ev_slS, opd, sl_lh, eh, Option.map_some, Option.map_none, sbound, b1, cond_true]
    · rw [List.getElem?_take] at hj
      split at hj
      · exact hj
      · cases hj
noncomputable def alikeS (z : List (List UInt8)) (s : List UInt8) (w : List (List UInt8)) (t : List UInt8) (y : Nat) : Option (Int × Int) :=
  if lenS z y s ≠ lenS w y t then some ((y : Int), 0) else if 100000 < lenS z y s then some (0, 8) else if grw z y s ≠ grw w y t then some ((y : Int), 0) else none
noncomputable def alikeV (z : List (List UInt8)) (s : List UInt8) (w : List (List UInt8)) (t : List UInt8) : Int × Int := if errT z s w t ≠ 0 then (0, errT z s w t) else match fD (fun y => (alikeS z s w t y).isSome) 12 0 with
  | some y => (alikeS z s w t y).getD (0, 10)
  | none => (0, 10)
theorem alikeV_some {z w : List (List UInt8)} {s t : List UInt8} (hS : errT z s w t = 0) {y : Nat} (hy : y < 12) {r : Int × Int} (hr : alikeS z s w t y = some r) (hall : ∀ i, i < y → alikeS z s w t i = none) : alikeV z s w t = r := by
  unfold alikeV
  rw [if_neg (fun h => h hS), fD_some (P := fun y => (alikeS z s w t y).isSome) 12 0 y (by omega) (by omega) (by simp [hr]) fun i _ h2 => by simp [hall i h2]]
  simp [hr]
theorem alikeV_none {z w : List (List UInt8)} {s t : List UInt8} (hS : errT z s w t = 0) (hall : ∀ i, i < 12 → alikeS z s w t i = none) : alikeV z s w t = (0, 10) := by
  unfold alikeV
  rw [if_neg (fun h => h hS), fD_none (P := fun y => (alikeS z s w t y).isSome) 12 0 fun i _ h2 => by simp [hall i (by omega)]]
theorem both70 {v u : AVal} {z w : List (List UInt8)} {s t : List UInt8} (a : IsS ro h v z) (b : IsS ro h u w) (hf : Few z s) (hg : Few w t) :
    callX F1 ro 70 [v, .s s, u, .s t] h = some (.i .i64 (errT z s w t), h, h.length, h.length) := by
  refine g70_ok (meansX_ok F1 ro) (Ovr.no rfl) ?_
  unfold g70
  simp only [mC, cp0 (shoot42 (s := s) a hf.1 hf.2.1 hf.2.2), pS, iS, fB]
  by_cases hS : errS z s = 0
  · have e : errT z s w t = errS w t := by unfold errT; rw [if_neg (fun h => h hS)]
    have e0 : eqI (errS z s) 0 = true := by rw [hS]; rfl
    simp only [e0, cT, cp0 (shoot42 (s := t) b hg.1 hg.2.1 hg.2.2), pS, iS, oS, e, tA]
    exact fin_pure rfl
  · have e : errT z s w t = errS z s := by unfold errT; rw [if_pos hS]
    simp only [eqI_ne hS, cF, oS, e, tA]
    exact fin_pure rfl
end
end Go.Proofs.Ytfohppnelbbepaa.T
/- Law 6 -/
open Go.Vm
set_option linter.unusedVariables false
set_option linter.unusedSectionVars false
namespace Go.Proofs.Ytfohppnelbbepaa.T
open Go
variable [Ovr]
section
variable {ro : List ABlk} {h hp : Heap}
set_option maxHeartbeats 1000000 in
theorem same31 {v u : AVal} {z w : List (List UInt8)} {s t : List UInt8} (a : IsS ro h v z) (b : IsS ro h u w) (hf : Few z s) (hg : Few w t) :
    callX F1 ro 31 [v, .s s, u, .s t] h = some (.tup [.i .i64 (sameV z s w t).1, .i .i64 (sameV z s w t).2], h, h.length, h.length) := by
  refine g31_ok (meansX_ok F1 ro) (Ovr.no rfl) ?_
  unfold g31
  simp only [mC, cp0 (both70 a b hf hg), pS, oS, iS, fB]
  by_cases hS : errT z s w t = 0
  rotate_left
  · have e : sameV z s w t = (0, errT z s w t) := by unfold sameV; rw [if_pos hS]
    simp only [eqI_ne hS, nF, cT, e, tA2]
    exact fin_pure2 rfl rfl
  have e0 : eqI (errT z s w t) 0 = true := by rw [hS]; rfl
  obtain ⟨hS1, hS2⟩ := errT_ok hS
  have vz := VOk.of (errS_V hS1)
  have vw := VOk.of (errS_V hS2)
  have z6 := vz.h6
  have w6 := vw.h6
  obtain ⟨hs30, hsh⟩ := errS_ok hS1
  obtain ⟨ht30, hth⟩ := errS_ok hS2
  obtain ⟨L, hL⟩ : ∃ L, L = h.length := ⟨_, rfl⟩
  obtain ⟨N, hN⟩ : ∃ N, N = z.length + w.length := ⟨_, rfl⟩
  have hyr : wr .i64 ((z.length : Int) + (w.length : Int)) = (N : Int) := by rw [wr_id' (by omega) (by omega)]; omega
  obtain ⟨w1, H1, c1, k1, M1⟩ := table51 (ro := ro) a vz (show N ≤ 1000 by omega)
  have q1 := k1.1
  have c1' := cM (l := L) (p := L) c1 (by omega) (by omega)
  obtain ⟨w2, H2, c2, k2, M2⟩ := table51 (ro := ro) (S_by b k1) vw (show N ≤ 1000 by omega)
  have q2 := k2.1
  have c2' := cM (l := L) (p := L) c2 (by omega) (by omega)
  have M1' := M_by M1 k2
  have kh := k1.trans k2
  have key : ∃ r, loopX (fun q : Int × Mm => g31_b0 (meansX F1 ro) ro s t (N : Int) w1 w2 q.1 q.2) (0, ⟨H2, L, L⟩) = some r ∧ ((r = .inl ⟨H2, L, L⟩ ∧ ∀ y, y < N → difB z s w t y = false) ∨ ∃ y : Nat, r = .inr ((y : Int), 0, ⟨H2, L, L⟩) ∧ y < N ∧ difB z s w t y = true ∧ ∀ i, i < y → difB z s w t i = false) := by
    refine loop_exit N (fun y q => q = ((y : Int), ⟨H2, L, L⟩) ∧ ∀ i, i < y → difB z s w t i = false) _ ?_ ?_ N 0 _ (by omega) ⟨rfl, fun i hi => by omega⟩
    · rintro y q hy ⟨rfl, hall⟩
      have r1 : ((List.range (N + 1)).map (rowN z))[y]? = some (rowN z y) := by simp [show y < N + 1 by omega]
      have r2 : ((List.range (N + 1)).map (rowN w))[y]? = some (rowN w y) := by simp [show y < N + 1 by omega]
      obtain ⟨p1, u1, i1, i2, i3⟩ := at_M M1' r1
      obtain ⟨p2, u2, j1, j2, j3⟩ := at_M M2 r2
      have i3' := (i3 (hp := H2) (l := H2.length) (q := H2.length) (Keep.refl _)).1
      have j3' := (j3 (hp := H2) (l := 0) (q := 0) (Keep.refl _)).2
      have d1 := cp0 (long52 (ro := ro) i2 hf.2.2 hsh)
      have d2 := cp0 (long52 (ro := ro) j2 hg.2.2 hth)
      rw [(sat_len vz hs30 hsh (show y ≤ 12 by omega)).1] at d1
      rw [(sat_len vw ht30 hth (show y ≤ 12 by omega)).1] at d2
      have hck := chkL (a := H2.length) (b := H2.length) (Nat.le_refl _)
      have hjn : Mm.join ⟨H2, L, L⟩ ⟨H2, H2.length, H2.length⟩ = ⟨H2, L, L⟩ := joinL (by omega) (by omega)
      have hd : (!eqI ((lenS z y s : Nat) : Int) ((lenS w y t : Nat) : Int)) = difB z s w t y := eqI_dif
      cases hb : difB z s w t y <;> rw [hb] at hd
      · exact .inl ⟨_, (by simp only [g31_b0, fB, ltT (show (y : Int) < (N : Int) by omega), cT, baseL, oS, i1, i3', mC, d1, pS, iS, hck, ckT, j1, j3', d2, hd, hjn, cF, fI', nx (show y ≤ 1000000 by omega)] <;> rfl), rfl, fun i hi => by
          rcases Nat.lt_or_ge i y with h | h
          · exact hall i h
          · obtain rfl : i = y := by omega
            exact hb⟩
      · exact .inr ⟨_, (by simp only [g31_b0, fB, ltT (show (y : Int) < (N : Int) by omega), cT, baseL, oS, i1, i3', mC, d1, pS, iS, hck, ckT, j1, j3', d2, hd, hjn] <;> rfl), .inr ⟨y, rfl, hy, hb, hall⟩⟩
    · rintro q ⟨rfl, hall⟩
      exact ⟨_, (by simp only [g31_b0, fB, ltF (Int.lt_irrefl _), cF] <;> rfl), .inl ⟨rfl, hall⟩⟩
  obtain ⟨r, e1, e2⟩ := key
  have e : sameV z s w t = match fD (difB z s w t) (z.length + w.length) 0 with
    | some y => ((y : Int), 0)
    | none => (0, 10) := by unfold sameV; (rw [if_neg (fun h => h hS)] <;> rfl)
  rw [e, ← hN]
  simp only [e0, nT, cF, len_S a, len_S b, oS, iS, hyr, fI', ← hL, c1', c2', pS, meansX_loop, e1]
  rcases e2 with ⟨rfl, hall⟩ | ⟨y, rfl, hy, hb, hall⟩
  · rw [fD_none N 0 fun t _ h2 => hall t (by omega)]
    simp only [oS, tA2]
    rw [hL]
    exact fin_keep kh rfl
  · rw [fD_some N 0 y (by omega) (by omega) hb fun t _ h2 => hall t h2]
    simp only [oS, tA2]
    rw [hL]
    exact fin_keep kh rfl
set_option maxHeartbeats 1000000 in
theorem alike33 {v u : AVal} {z w : List (List UInt8)} {s t : List UInt8} (a : IsS ro h v z) (b : IsS ro h u w) (hf : Few z s) (hg : Few w t) :
    callX F1 ro 33 [v, .s s, u, .s t] h = some (.tup [.i .i64 (alikeV z s w t).1, .i .i64 (alikeV z s w t).2], h, h.length, h.length) := by
  refine g33_ok (meansX_ok F1 ro) (Ovr.no rfl) ?_
  unfold g33
  simp only [mC, cp0 (both70 a b hf hg), pS, oS, iS, fB]
  by_cases hS : errT z s w t = 0
  rotate_left
  · have e : alikeV z s w t = (0, errT z s w t) := by unfold alikeV; rw [if_pos hS]
    simp only [eqI_ne hS, nF, cT, e, tA2]
    exact fin_pure2 rfl rfl
  have e0 : eqI (errT z s w t) 0 = true := by rw [hS]; rfl
  obtain ⟨hS1, hS2⟩ := errT_ok hS
  have vz := VOk.of (errS_V hS1)
  have vw := VOk.of (errS_V hS2)
  obtain ⟨hs30, hsh⟩ := errS_ok hS1
  obtain ⟨ht30, hth⟩ := errS_ok hS2
  obtain ⟨L, hL⟩ : ∃ L, L = h.length := ⟨_, rfl⟩
  have key : ∃ r, loopX (fun q : Int × Mm => g33_b0 (meansX F1 ro) ro v s u t q.1 q.2) (0, ⟨h, L, L⟩) = some r ∧ ∃ K, Keep h K ∧ ((r = .inl ⟨K, L, L⟩ ∧ ∀ y, y < 12 → alikeS z s w t y = none) ∨ ∃ (y : Nat) (x : Int × Int), r = .inr (x.1, x.2, ⟨K, L, L⟩) ∧ y < 12 ∧ alikeS z s w t y = some x ∧ ∀ i, i < y → alikeS z s w t i = none) := by
    refine loop_exit 12 (fun y q => ∃ K, q = ((y : Int), ⟨K, L, L⟩) ∧ Keep h K ∧ ∀ i, i < y → alikeS z s w t i = none) _ ?_ ?_ 12 0 _ (by omega) ⟨h, rfl, Keep.refl _, fun i hi => by omega⟩
    · rintro y q hy ⟨K, rfl, kK, hall⟩
      have hqK := kK.1
      obtain ⟨w1, H1, c1, k1, M1⟩ := table51 (ro := ro) (S_by a kK) vz (show y ≤ 1000 by omega)
      have q1 := k1.1
      have c1' := cM (l := L) (p := L) c1 (by omega) (by omega)
      obtain ⟨w2, H2, c2, k2, M2⟩ := table51 (ro := ro) (S_by b (kK.trans k1)) vw (show y ≤ 1000 by omega)
      have q2 := k2.1
      have c2' := cM (l := L) (p := L) c2 (by omega) (by omega)
      have M1' := M_by M1 k2
      have kh2 := (kK.trans k1).trans k2
      have r1 : ((List.range (y + 1)).map (rowN z))[y]? = some (rowN z y) := by simp
      have r2 : ((List.range (y + 1)).map (rowN w))[y]? = some (rowN w y) := by simp
      obtain ⟨p1, u1, i1, i2, i3⟩ := at_M M1' r1
      obtain ⟨p2, u2, j1, j2, j3⟩ := at_M M2 r2
      have i3' := (i3 (hp := H2) (l := L) (q := L) (Keep.refl _)).1
      have j3' := (j3 (hp := H2) (l := L) (q := L) (Keep.refl _)).1
      have d1 := cp (l := L) (p := L) (long52 (ro := ro) i2 hf.2.2 hsh) (by omega) (by omega)
      have d2 := cp (l := L) (p := L) (long52 (ro := ro) j2 hg.2.2 hth) (by omega) (by omega)
      rw [(sat_len vz hs30 hsh (show y ≤ 12 by omega)).1] at d1
      rw [(sat_len vw ht30 hth (show y ≤ 12 by omega)).1] at d2
      have lt12 : ltI (y : Int) 12 = true := ltT (by omega)
      by_cases hl : lenS z y s = lenS w y t
      rotate_left
      · have hd : (!eqI ((lenS z y s : Nat) : Int) ((lenS w y t : Nat) : Int)) = true := by rw [eqI_dif, dF hl]; rfl
        have hal : alikeS z s w t y = some ((y : Int), 0) := by unfold alikeS; rw [if_pos hl]
        exact .inr ⟨_, (by simp only [g33_b0, fB, lt12, cT, mC, c1', c2', pS, i1, oS, i3', d1, iS, j1, j3', d2, hd] <;> rfl), H2, kh2, .inr ⟨y, _, rfl, hy, hal, hall⟩⟩
      have hd : (!eqI ((lenS z y s : Nat) : Int) ((lenS w y t : Nat) : Int)) = false := by rw [eqI_dif, dT hl]; rfl
      by_cases hbig : 100000 < lenS z y s
      · have hal : alikeS z s w t y = some (0, 8) := by unfold alikeS; rw [if_neg (fun h => h hl), if_pos hbig]
        have hlt : ltI 100000 ((lenS z y s : Nat) : Int) = true := ltT (by omega)
        exact .inr ⟨_, (by simp only [g33_b0, fB, lt12, cT, mC, c1', c2', pS, i1, oS, i3', d1, iS, j1, j3', d2, hd, cF, hlt] <;> rfl), H2, kh2, .inr ⟨y, _, rfl, hy, hal, hall⟩⟩
      have hlt : ltI 100000 ((lenS z y s : Nat) : Int) = false := ltF (by omega)
      obtain ⟨x1, K1, e1, n1, b1⟩ := callNF_down (ro := ro) (h0 := H2) (hh := H2) (S_by a kh2) M1' vz (show y ≤ 1000 by omega) hsh hf.2.2 (by omega) (Keep.refl _)
      obtain ⟨x2, K2, e2, n2, b2⟩ := callNF_down (ro := ro) (h0 := H2) (hh := K1) (S_by b kh2) M2 vw (show y ≤ 1000 by omega) hth hg.2.2 (by omega) n1
      have kK2 := (kh2.trans n1).trans n2
      have hwM : writesM ro [] [] ⟨K2, L, L⟩ = some ⟨K2, L, L⟩ := rfl
      by_cases hgr : grw z y s = grw w y t
      · have hal : alikeS z s w t y = none := by unfold alikeS; rw [if_neg (fun h => h hl), if_neg hbig, if_neg (fun h => h hgr)]
        exact .inl ⟨_, (by simp only [g33_b0, fB, lt12, cT, mC, c1', c2', pS, i1, oS, i3', d1, iS, j1, j3', d2, hd, cF, hlt, e1, b1, sS, e2, b2, strNe, dT hgr, nT, bS, hwM, fI', nx (show y ≤ 1000000 by omega)] <;> rfl), K2, rfl, kK2, fun i hi => by
          rcases Nat.lt_or_ge i y with h | h
          · exact hall i h
          · obtain rfl : i = y := by omega
            exact hal⟩
      · have hal : alikeS z s w t y = some ((y : Int), 0) := by unfold alikeS; rw [if_neg (fun h => h hl), if_neg hbig, if_pos hgr]
        exact .inr ⟨_, (by simp only [g33_b0, fB, lt12, cT, mC, c1', c2', pS, i1, oS, i3', d1, iS, j1, j3', d2, hd, cF, hlt, e1, b1, sS, e2, b2, strNe, dF hgr, nF, bS, hwM] <;> rfl), K2, kK2, .inr ⟨y, _, rfl, hy, hal, hall⟩⟩
    · rintro q ⟨K, rfl, kK, hall⟩
      have lt12 : ltI ((12 : Nat) : Int) 12 = false := rfl
      exact ⟨_, (by simp only [g33_b0, fB, lt12, cF] <;> rfl), K, kK, .inl ⟨rfl, hall⟩⟩
  obtain ⟨r, e1, K, kK, e2⟩ := key
  simp only [e0, nT, cF, ← hL, meansX_loop, e1, oS]
  rcases e2 with ⟨rfl, hall⟩ | ⟨y, x, rfl, hy, hal, hall⟩
  · rw [alikeV_none hS hall]
    simp only [oS, tA2]
    rw [hL]
    exact fin_keep kK rfl
  · rw [alikeV_some hS hy hal hall]
    simp only [oS, tA2]
    rw [hL]
    exact fin_keep kK rfl
set_option maxHeartbeats 1000000 in
theorem alike32 {v u : AVal} {z w : List (List UInt8)} {s t : List UInt8} (a : IsS ro h v z) (b : IsS ro h u w) (hf : Few z s) (hg : Few w t) :
    callX F1 ro 32 [v, .s s, u, .s t] h = some (.tup [.i .i64 (alikeV z s w t).1, .i .i64 (alikeV z s w t).2], h, h.length, h.length) := by
  refine g32_ok (meansX_ok F1 ro) (Ovr.no rfl) ?_
  unfold g32
  simp only [mC, cp0 (two69 a b hf hg), pS, x0, x1, x2, oS, iS, fB]
  by_cases hS : errT z s w t = 0
  rotate_left
  · have e : alikeV z s w t = (0, errT z s w t) := by unfold alikeV; rw [if_pos hS]
    simp only [eqI_ne hS, nF, cT, e, tA2]
    exact fin_pure2 rfl rfl
  have e0 : eqI (errT z s w t) 0 = true := by rw [hS]; rfl
  obtain ⟨hS1, hS2⟩ := errT_ok hS
  have vz := VOk.of (errS_V hS1)
  have vw := VOk.of (errS_V hS2)
  obtain ⟨hs30, hsh⟩ := errS_ok hS1
  obtain ⟨ht30, hth⟩ := errS_ok hS2
  obtain ⟨L, hL⟩ : ∃ L, L = h.length := ⟨_, rfl⟩
  obtain ⟨w1, H1, c1, k1, M1, hc1⟩ := lengths48x (ro := ro) a vz (show 12 ≤ 1000 by omega)
  have M1 := M1 H1 fun _ _ _ => rfl
  have q1 := k1.1
  have c1' : callM (callX F1 ro) ⟨h, L, L⟩ 48 [v, .i .i64 12] = some (w1, ⟨H1, L, L⟩) := cM (l := L) (p := L) c1 (by omega) (by omega)
  obtain ⟨w2, H2, c2, k2, M2, hc2⟩ := lengths48x (ro := ro) (S_by b k1) vw (show 12 ≤ 1000 by omega)
  have M2 := M2 H2 fun _ _ _ => rfl
  have q2 := k2.1
  have c2' : callM (callX F1 ro) ⟨H1, L, L⟩ 48 [u, .i .i64 12] = some (w2, ⟨H2, L, L⟩) := cM (l := L) (p := L) c2 (by omega) (by omega)
  have M1' := M_by M1 k2
  have kh := k1.trans k2
  have aH := S_by a kh
  have bH := S_by b kh
  have key : ∃ r, loopX (fun q : Int × Mm => g32_b0 (meansX F1 ro) ro s t v u w1 w2 q.1 q.2) (0, ⟨H2, L, L⟩) = some r ∧ ((r = .inl ⟨H2, L, L⟩ ∧ ∀ y, y < 12 → alikeS z s w t y = none) ∨ ∃ (y : Nat) (x : Int × Int), r = .inr (x.1, x.2, ⟨H2, L, L⟩) ∧ y < 12 ∧ alikeS z s w t y = some x ∧ ∀ i, i < y → alikeS z s w t i = none) := by
    refine loop_exit 12 (fun y q => q = ((y : Int), ⟨H2, L, L⟩) ∧ ∀ i, i < y → alikeS z s w t i = none) _ ?_ ?_ 12 0 _ (by omega) ⟨rfl, fun i hi => by omega⟩
    · rintro y q hy ⟨rfl, hall⟩
      have r1 : ((List.range (12 + 1)).map (rowN z))[y]? = some (rowN z y) := by simp [show y < 12 + 1 by omega]
      have r2 : ((List.range (12 + 1)).map (rowN w))[y]? = some (rowN w y) := by simp [show y < 12 + 1 by omega]
      obtain ⟨p1, u1, i1, i2, i3⟩ := at_M M1' r1
      obtain ⟨p2, u2, j1, j2, j3⟩ := at_M M2 r2
      have i3' := (i3 (hp := H2) (l := L) (q := L) (Keep.refl _)).1
      have j3' := (j3 (hp := H2) (l := L) (q := L) (Keep.refl _)).1
      have d1 := cp (l := L) (p := L) (long49 (ro := ro) i2 hf.2.2 hsh) (by omega) (by omega)
      have d2 := cp (l := L) (p := L) (long49 (ro := ro) j2 hg.2.2 hth) (by omega) (by omega)
      rw [(sat_len vz hs30 hsh (show y ≤ 12 by omega)).1] at d1
      rw [(sat_len vw ht30 hth (show y ≤ 12 by omega)).1] at d2
      have lt12 : ltI (y : Int) 12 = true := ltT (by omega)
      by_cases hl : lenS z y s = lenS w y t
      rotate_left
      · have hd : (!eqI ((lenS z y s : Nat) : Int) ((lenS w y t : Nat) : Int)) = true := by rw [eqI_dif, dF hl]; rfl
        have hal : alikeS z s w t y = some ((y : Int), 0) := by unfold alikeS; rw [if_pos hl]
        exact .inr ⟨_, (by simp only [g32_b0, fB, lt12, cT, mC, pS, i1, oS, i3', d1, iS, j1, j3', d2, hd] <;> rfl), .inr ⟨y, _, rfl, hy, hal, hall⟩⟩
      have hd : (!eqI ((lenS z y s : Nat) : Int) ((lenS w y t : Nat) : Int)) = false := by rw [eqI_dif, dT hl]; rfl
      by_cases hbig : 100000 < lenS z y s
      · have hal : alikeS z s w t y = some (0, 8) := by unfold alikeS; rw [if_neg (fun h => h hl), if_pos hbig]
        have hlt : ltI 100000 ((lenS z y s : Nat) : Int) = true := ltT (by omega)
        exact .inr ⟨_, (by simp only [g32_b0, fB, lt12, cT, mC, pS, i1, oS, i3', d1, iS, j1, j3', d2, hd, cF, hlt] <;> rfl), .inr ⟨y, _, rfl, hy, hal, hall⟩⟩
      have hlt : ltI 100000 ((lenS z y s : Nat) : Int) = false := ltF (by omega)
      obtain ⟨s1, g1, g2⟩ := M_take M1' (by simpa using hc1) (show 1 ≤ y + 1 by omega) (by simp; omega)
      obtain ⟨s2, f1, f2⟩ := M_take M2 (by simpa using hc2) (show 1 ≤ y + 1 by omega) (by simp; omega)
      have et : ∀ z : List (List UInt8), ((List.range (12 + 1)).map (rowN z)).take (y + 1) = (List.range (y + 1)).map (rowN z) := fun z => by
        rw [← List.map_take, List.take_range, Nat.min_eq_left (by omega)]
      rw [et] at g2 f2
      have c50 := cp (l := L) (p := L) (grow50 (ro := ro) aH vz (show y ≤ 1000 by omega) hsh hf.2.2 g2 (by omega)) (by omega) (by omega)
      have c50b := cp (l := L) (p := L) (grow50 (ro := ro) bH vw (show y ≤ 1000 by omega) hth hg.2.2 f2 (by omega)) (by omega) (by omega)
      have nxy := nx (show y ≤ 1000000 by omega)
      by_cases hgr : grw z y s = grw w y t
      · have hal : alikeS z s w t y = none := by unfold alikeS; rw [if_neg (fun h => h hl), if_neg hbig, if_neg (fun h => h hgr)]
        exact .inl ⟨_, (by simp only [g32_b0, fB, lt12, cT, mC, pS, i1, oS, i3', d1, iS, j1, j3', d2, hd, cF, hlt, fI', nxy, g1, f1, c50, c50b, sS, strNe, dT hgr, nT, bS] <;> rfl), rfl, fun i hi => by
          rcases Nat.lt_or_ge i y with h | h
          · exact hall i h
          · obtain rfl : i = y := by omega
            exact hal⟩
      · have hal : alikeS z s w t y = some ((y : Int), 0) := by unfold alikeS; rw [if_neg (fun h => h hl), if_neg hbig, if_pos hgr]
        exact .inr ⟨_, (by simp only [g32_b0, fB, lt12, cT, mC, pS, i1, oS, i3', d1, iS, j1, j3', d2, hd, cF, hlt, fI', nxy, g1, f1, c50, c50b, sS, strNe, dF hgr, nF, bS] <;> rfl), .inr ⟨y, _, rfl, hy, hal, hall⟩⟩
    · rintro q ⟨rfl, hall⟩
      have lt12 : ltI ((12 : Nat) : Int) 12 = false := rfl
      exact ⟨_, (by simp only [g32_b0, fB, lt12, cF] <;> rfl), .inl ⟨rfl, hall⟩⟩
  obtain ⟨r, e1, e2⟩ := key
  simp only [e0, nT, cF, if_pos hS, ← hL, c1', c2', pS, meansX_loop, e1, oS]
  rcases e2 with ⟨rfl, hall⟩ | ⟨y, x, rfl, hy, hal, hall⟩
  · rw [alikeV_none hS hall]
    simp only [oS, tA2]
    rw [hL]
    exact fin_keep kh rfl
  · rw [alikeV_some hS hy hal hall]
    simp only [oS, tA2]
    rw [hL]
    exact fin_keep kh rfl
theorem law6 {v u : AVal} {z w : List (List UInt8)} {s t : List UInt8} (hA : ∀ h, callX F1 ro 16 [] h = some (.b true, h, h.length, h.length)) (a : IsS ro h v z) (b : IsS ro h u w) :
    callX F1 ro 6 [v, .s s, u, .s t] h = some (.b true, h, h.length, h.length) := by
  refine g6_ok (meansX_ok F1 ro) (Ovr.no rfl) ?_
  unfold g6
  have c15 := cp0 (few15 (ro := ro) (s := s) a)
  have c15b := cp0 (few15 (ro := ro) (s := t) b)
  by_cases hf : fewB z s
  rotate_left
  · simp only [mC, c15, pS, bS, fB, dF hf, nF, cT, oS, cp0 (hA h), tA]
    exact fin_pure rfl
  by_cases hg : fewB w t
  rotate_left
  · simp only [mC, c15, c15b, pS, bS, fB, dT hf, dF hg, nT, nF, cT, cF, oS, cp0 (hA h), tA]
    exact fin_pure rfl
  have hf' := fewB_len hf
  have hg' := fewB_len hg
  simp only [mC, c15, c15b, pS, bS, fB, dT hf, dT hg, nT, cF, oS, cp0 (same30 a b hf' hg'), cp0 (same31 a b hf' hg'), cp0 (alike32 a b hf' hg'), cp0 (alike33 a b hf' hg'), x0, x1, iS, eqI_self, cT, cp0 (hA h), tA]
  exact fin_pure rfl
end
end Go.Proofs.Ytfohppnelbbepaa.T
/- The bridge, alive known -/
open Go.Vm
set_option linter.unusedVariables false
set_option linter.unusedSectionVars false
namespace Go.Proofs.Ytfohppnelbbepaa.T
open Go Go.RowKit Go.Deep Go.WideShapes Go.ChangeShapes
attribute [local instance] ovA
theorem aliveA {ro : List ABlk} (h : Heap) : callX F1 ro 16 [] h = some (.b true, h, h.length, h.length) := callX_ov rfl
theorem call_ofA {W : World} {ro : List ABlk} {rl : Rl} (hE : (Env.mk Try.prog W.heap.size W ro rl).Ok) {K : Nat} {vs : List AVal} {args : Array Value}
    (hv : LR rl [] vs args) {h' : Heap} {lw lp : Nat} (hc : callX F1 ro K vs [] = some (.b true, h', lw, lp)) : Calls Try.prog K args W fun e W' => e = .returned (.bool true) ∧ Below W.heap.size W W' :=
  call_of hE (alive_known hE (Try.checked.mixed) fok) hv hc
theorem exC {ro : List ABlk} {k : Nat} {l : List AVal} {h : Heap} {n m : Nat} {H : Heap} (e : callX F1 ro k l h = some (.b true, H, n, m)) : ∃ h' lw lp, callX F1 ro k l h = some (.b true, h', lw, lp) := ⟨_, _, _, e⟩
end Go.Proofs.Ytfohppnelbbepaa.T

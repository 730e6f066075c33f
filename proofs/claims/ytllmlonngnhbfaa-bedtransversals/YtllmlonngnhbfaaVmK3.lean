/- The reference's Shaped, again and Check. -/
import Derived.Test.YtllmlonngnhbfaaVmK2
open Go.Vm
set_option linter.unusedVariables false
namespace Go.Proofs.Ytllmlonngnhbfaa.Bed
open Go

theorem Shaped_ok {ro : List ABlk} {h : Heap} {a : AVal} {x : List (List Int)} (ha : IsMat ro h a x) : callX F1 ro 55 [a] h = some (.b (decide (shapedP x)), h, h.length, h.length) := by
  refine g55_ok (meansX_ok F1 ro) rfl ?_
  unfold g55
  simp only [len_mat ha, bindO_some, asI_i, forceB_eq, ltI_eq, meansX_loop]
  by_cases h1 : x.length < 1
  · have e : decide ((x.length : Int) < 1) = true := by simp only [decide_eq_true_eq]; omega
    have hs : ¬ shapedP x := fun hs => by have := hs.1; omega
    simp only [e, cond_true, bindO_some, hs, decide_false, tupA]
    exact fin_pure rfl
  have e : decide ((x.length : Int) < 1) = false := by simp only [decide_eq_false_iff_not]; omega
  simp only [e, cond_false, bindO_some]
  by_cases h7 : 7 < x.length
  · have e : decide ((7 : Int) < x.length) = true := by simp only [decide_eq_true_eq]; omega
    have hs : ¬ shapedP x := fun hs => by have := hs.2.1; omega
    simp only [e, cond_true, hs, decide_false, tupA]
    exact fin_pure rfl
  have e : decide ((7 : Int) < x.length) = false := by simp only [decide_eq_false_iff_not]; omega
  simp only [e, cond_false]
  have hloop := loop_first (b := fun s => g55_b1 (meansX F1 ro) ro a x.length ⟨h, h.length, h.length⟩ s) x.length
    (fun r => if ((x.getD r []).length = x.length ∧ ∀ c, c < x.length → -1 ≤ (x.getD r []).getD c 0 ∧ (x.getD r []).getD c 0 < x.length) then none else some false) ?_ ?_ x.length 0 (by omega)
  · have e0 : ((0 : Nat) : Int) = 0 := rfl
    rw [e0] at hloop
    rw [hloop, first_all]
    by_cases hs : shapedP x
    · rw [if_pos hs.2.2]
      simp only [outS, bindO_some, hs, decide_true, tupA]
      exact fin_pure rfl
    · rw [if_neg (fun hh => hs ⟨by omega, by omega, hh⟩)]
      simp only [outS, bindO_some, hs, decide_false, tupA]
      exact fin_pure rfl
  · simp only [g55_b1, forceB_eq, ltI_eq]
    simp
  · intro r hr
    obtain ⟨p, u, k1, k2, k3, k4⟩ := at_mat (m := ⟨h, h.length, h.length⟩) rfl ha hr
    have e : decide ((r : Int) < (x.length : Int)) = true := by simp; omega
    simp only [g55_b1, bindO_some, asI_i, forceB_eq, ltI_eq, eqI_eq, e, cond_true, k1, k2, len_row k4, meansX_loop]
    by_cases hlen : (x.getD r []).length = x.length
    · simp only [hlen, beq_self_eq_true, Bool.not_true, cond_false, true_and]
      have hloop2 := loop_first (b := fun s => g55_b2 (meansX F1 ro) ro a x.length r ⟨h, h.length, h.length⟩ s) x.length
        (fun c => if (-1 ≤ (x.getD r []).getD c 0 ∧ (x.getD r []).getD c 0 < x.length) then none else some false) ?_ ?_ x.length 0 (by omega)
      · have e0 : ((0 : Nat) : Int) = 0 := rfl
        rw [e0] at hloop2
        rw [hloop2, first_all]
        by_cases hall : ∀ c, c < x.length → -1 ≤ (x.getD r []).getD c 0 ∧ (x.getD r []).getD c 0 < x.length
        · simp only [if_pos hall, outS, bindO_some, forceI_eq]
          rw [wr_id' (by omega) (by omega)]
        · simp only [if_neg hall, outS, bindO_some]
      · simp only [g55_b2, forceB_eq, ltI_eq]
        simp
      · intro c hc
        obtain ⟨p', l1, l2, l3⟩ := at_row (m := ⟨h, h.length, h.length⟩) rfl k4 (by rw [hlen]; exact hc : c < (x.getD r []).length)
        have e : decide ((c : Int) < (x.length : Int)) = true := by simp; omega
        simp only [g55_b2, bindO_some, asI_i, forceB_eq, ltI_eq, e, cond_true, k1, k2, l1, l2]
        by_cases q1 : (x.getD r []).getD c 0 < -1
        · have q2 : ¬ (-1 ≤ (x.getD r []).getD c 0 ∧ (x.getD r []).getD c 0 < x.length) := by omega
          simp only [q1, q2, decide_true, cond_true, bindO_some, if_false]
        · simp only [q1, decide_false, cond_false, bindO_some]
          by_cases q3 : (x.getD r []).getD c 0 < (x.length : Int)
          · have q2 : (-1 ≤ (x.getD r []).getD c 0 ∧ (x.getD r []).getD c 0 < x.length) := by omega
            simp only [q2, q3, decide_true, Bool.not_true, cond_false, and_self, if_true, forceI_eq]
            rw [wr_id' (by omega) (by omega)]
          · have q2 : ¬ (-1 ≤ (x.getD r []).getD c 0 ∧ (x.getD r []).getD c 0 < x.length) := by omega
            rw [if_neg q2]
            simp only [q3, decide_false, Bool.not_false, cond_true]
    · have e3 : (((x.getD r []).length : Int) == (x.length : Int)) = false := by simp only [beq_eq_false_iff_ne, ne_eq]; omega
      simp only [e3, Bool.not_false, cond_true, hlen, false_and, if_false]

/-- the crop at a place -/
def at2 (x : List (List Int)) (r c : Nat) : Int := (x.getD r []).getD c 0
/-- is the crop of a place also at an earlier place of its row or column? -/
def dupP (x : List (List Int)) (r c : Nat) : Prop := 0 ≤ at2 x r c ∧ ((∃ i, i < c ∧ at2 x r i = at2 x r c) ∨ ∃ i, i < r ∧ at2 x i c = at2 x r c)
open Classical in
noncomputable def dupRow {R : Type} (x : List (List Int)) (f : Nat → Nat → R) (r : Nat) : Option R := firstS (fun c => if dupP x r c then some (f r c) else none) x.length 0
noncomputable def dup1 {R : Type} (x : List (List Int)) (f : Nat → Nat → R) : Option R := firstS (dupRow x f) x.length 0

theorem first_ex {R : Type} {P : Nat → Prop} [DecidablePred P] {k : Nat} {r : R} : firstS (fun i => if P i then some r else none) k 0 = if (∃ i, i < k ∧ P i) then some r else none := by
  by_cases h : ∃ i, i < k ∧ P i
  · rw [if_pos h]
    obtain ⟨i, h1, h2⟩ := h
    cases hf : firstS (fun i => if P i then some r else none) k 0 with
    | none =>
      have := firstS_none.1 hf i (by omega) (by omega)
      rw [if_pos h2] at this; cases this
    | some r' =>
      obtain ⟨j, -, -, h3, -⟩ := firstS_some hf
      by_cases hc : P j
      · rw [if_pos hc] at h3; exact h3.symm
      · rw [if_neg hc] at h3; cases h3
  · rw [if_neg h]
    exact firstS_none.2 fun j _ h2 => by rw [if_neg (fun hp => h ⟨j, by omega, hp⟩)]

open Classical in
theorem again_ok {ro : List ABlk} {h : Heap} {a : AVal} {x : List (List Int)} (ha : IsMat ro h a x) (hs : shapedP x) :
    callX F1 ro 56 [a] h = some ((match dup1 x fun r c => ((r : Int), (c : Int), true) with
      | some (r, c, b) => .tup [.i .i64 r, .i .i64 c, .b b]
      | none => .tup [.i .i64 0, .i .i64 0, .b false]), h, h.length, h.length) := by
  refine g56_ok (meansX_ok F1 ro) rfl ?_
  unfold g56
  simp only [meansX_loop]
  have hloop := loop_first (b := fun s => g56_b0 (meansX F1 ro) ro a ⟨h, h.length, h.length⟩ s) x.length (dupRow x fun r c => ((r : Int), (c : Int), true)) ?_ ?_ x.length 0 (by omega)
  · have e0 : ((0 : Nat) : Int) = 0 := rfl
    rw [e0] at hloop
    rw [hloop]
    unfold dup1
    cases firstS (dupRow x fun r c => ((r : Int), (c : Int), true)) x.length 0 with
    | none =>
      simp only [outS, bindO_some, tupA]
      exact fin_pure rfl
    | some o =>
      obtain ⟨r, c, b⟩ := o
      simp only [outS, bindO_some, tupA]
      exact fin_pure rfl
  · simp only [g56_b0, len_mat ha, bindO_some, asI_i, forceB_eq, ltI_eq]
    simp
  · intro r hr
    obtain ⟨p, u, k1, k2, k3, k4⟩ := at_mat (m := ⟨h, h.length, h.length⟩) rfl ha hr
    have hlen := (hs.2.2 r hr).1
    have e : decide ((r : Int) < (x.length : Int)) = true := by simp; omega
    simp only [g56_b0, len_mat ha, bindO_some, asI_i, forceB_eq, ltI_eq, e, cond_true, meansX_loop]
    have hloop2 := loop_first (b := fun s => g56_b1 (meansX F1 ro) ro a r ⟨h, h.length, h.length⟩ s) x.length (fun c => if dupP x r c then some ((r : Int), (c : Int), true) else none) ?_ ?_ x.length 0 (by omega)
    · have e0 : ((0 : Nat) : Int) = 0 := rfl
      rw [e0] at hloop2
      rw [hloop2]
      unfold dupRow
      cases firstS (fun c => if dupP x r c then some ((r : Int), (c : Int), true) else none) x.length 0 with
      | none =>
        simp only [outS, bindO_some, forceI_eq]
        have := hs.2.1
        rw [wr_id' (by omega) (by omega)]
      | some o =>
        obtain ⟨r, c, b⟩ := o
        simp only [outS, bindO_some]
    · simp only [g56_b1, bindO_some, asI_i, forceB_eq, ltI_eq, k1, k2, len_row k4, hlen]
      simp
    · intro c hc
      obtain ⟨p', l1, l2, l3⟩ := at_row (m := ⟨h, h.length, h.length⟩) rfl k4 (by rw [hlen]; exact hc : c < (x.getD r []).length)
      have e : decide ((c : Int) < (x.length : Int)) = true := by simp; omega
      have hx7 := hs.2.1
      simp only [g56_b1, bindO_some, asI_i, forceB_eq, ltI_eq, e, cond_true, k1, k2, len_row k4, hlen, l1, l2, meansX_loop]
      have hcrop : (x.getD r []).getD c 0 = at2 x r c := rfl
      rw [hcrop]
      by_cases q : at2 x r c < 0
      · -- no crop
        have hd : ¬ dupP x r c := fun hd => by have := hd.1; omega
        have b2 : loopX (fun s => g56_b2 (meansX F1 ro) ro a r c (at2 x r c) ⟨h, h.length, h.length⟩ s) 0 = some (.inl ()) := by
          refine loopX_out ?_
          simp only [g56_b2, forceB_eq, ltI_eq, q, decide_true, Bool.not_true]
          cases decide ((0 : Int) < (c : Int)) <;> rfl
        have b4 : loopX (fun s => g56_b4 (meansX F1 ro) ro a r c (at2 x r c) ⟨h, h.length, h.length⟩ s) 0 = some (.inl ()) := by
          refine loopX_out ?_
          simp only [g56_b4, forceB_eq, ltI_eq, q, decide_true, Bool.not_true]
          cases decide ((0 : Int) < (r : Int)) <;> rfl
        rw [b2]
        simp only [bindO_some]
        rw [b4]
        simp only [bindO_some, forceI_eq, if_neg hd]
        rw [wr_id' (by omega) (by omega)]
      · have q' : decide (at2 x r c < 0) = false := by simp only [decide_eq_false_iff_not]; exact q
        have b2 := loop_first (b := fun s => g56_b2 (meansX F1 ro) ro a r c (at2 x r c) ⟨h, h.length, h.length⟩ s) c (fun i => if at2 x r i = at2 x r c then some ((r : Int), (c : Int), true) else none) ?_ ?_ c 0 (by omega)
        have b4 := loop_first (b := fun s => g56_b4 (meansX F1 ro) ro a r c (at2 x r c) ⟨h, h.length, h.length⟩ s) r (fun i => if at2 x i c = at2 x r c then some ((r : Int), (c : Int), true) else none) ?_ ?_ r 0 (by omega)
        · have e0 : ((0 : Nat) : Int) = 0 := rfl
          rw [e0, first_ex] at b2 b4
          rw [b2]
          by_cases d1 : ∃ i, i < c ∧ at2 x r i = at2 x r c
          · have hd : dupP x r c := ⟨by omega, .inl d1⟩
            simp only [if_pos d1, if_pos hd, outS, bindO_some]
          · simp only [if_neg d1, outS, bindO_some]
            rw [b4]
            by_cases d2 : ∃ i, i < r ∧ at2 x i c = at2 x r c
            · have hd : dupP x r c := ⟨by omega, .inr d2⟩
              simp only [if_pos d2, if_pos hd, outS, bindO_some]
            · have hd : ¬ dupP x r c := fun hd => hd.2.elim d1 d2
              simp only [if_neg d2, if_neg hd, outS, bindO_some, forceI_eq]
              rw [wr_id' (by omega) (by omega)]
        · simp only [g56_b4, forceB_eq, ltI_eq]
          simp [bindO_some]
        · intro i hi
          obtain ⟨p2, u2, m1, m2, m3, m4⟩ := at_mat (m := ⟨h, h.length, h.length⟩) rfl ha (by omega : i < x.length)
          obtain ⟨p3, n1, n2, n3⟩ := at_row (m := ⟨h, h.length, h.length⟩) rfl m4 (by rw [(hs.2.2 i (by omega)).1]; exact hc : c < (x.getD i []).length)
          have e : decide ((i : Int) < (r : Int)) = true := by simp; omega
          have hcrop : (x.getD i []).getD c 0 = at2 x i c := rfl
          simp only [g56_b4, bindO_some, asI_i, forceB_eq, ltI_eq, eqI_eq, e, cond_true, q', Bool.not_false, m1, m2, n1, n2, hcrop]
          by_cases w : at2 x i c = at2 x r c
          · simp only [w, beq_self_eq_true, cond_true, if_true]
          · have w' : (at2 x i c == at2 x r c) = false := by simpa using w
            simp only [w, w', cond_false, if_false, forceI_eq]
            rw [wr_id' (by omega) (by omega)]
        · simp only [g56_b2, forceB_eq, ltI_eq]
          simp [bindO_some]
        · intro i hi
          obtain ⟨p3, n1, n2, n3⟩ := at_row (m := ⟨h, h.length, h.length⟩) rfl k4 (by omega : i < (x.getD r []).length)
          have e : decide ((i : Int) < (c : Int)) = true := by simp; omega
          have hcrop : (x.getD r []).getD i 0 = at2 x r i := rfl
          simp only [g56_b2, bindO_some, asI_i, forceB_eq, ltI_eq, eqI_eq, e, cond_true, q', Bool.not_false, k1, k2, n1, n2, hcrop]
          by_cases w : at2 x r i = at2 x r c
          · simp only [w, beq_self_eq_true, cond_true, if_true]
          · have w' : (at2 x r i == at2 x r c) = false := by simpa using w
            simp only [w, w', cond_false, if_false, forceI_eq]
            rw [wr_id' (by omega) (by omega)]

/-- what both Checks answer -/
noncomputable def checkV (x : List (List Int)) : AVal :=
  if shapedP x then match dup1 x fun r c => ((r : Int), (c : Int)) with
    | some (r, c) => .tup [.i .i64 r, .i .i64 c, .i .i64 0]
    | none => .tup [.i .i64 0, .i .i64 0, .i .i64 10]
  else .tup [.i .i64 0, .i .i64 0, .i .i64 2]

open Classical in
theorem dup1_map {R S : Type} (x : List (List Int)) (f : Nat → Nat → R) (g : R → S) : dup1 x (fun r c => g (f r c)) = (dup1 x f).map g := by
  have key : ∀ (s : Nat → Option R) (k i : Nat), firstS (fun j => (s j).map g) k i = (firstS s k i).map g := by
    intro s k
    induction k with
    | zero => intro i; rfl
    | succ k ih =>
      intro i
      unfold firstS
      cases s i with
      | none => exact ih (i + 1)
      | some r => rfl
  unfold dup1
  rw [← key]
  congr 1
  funext r
  unfold dupRow
  rw [← key]
  congr 1
  funext c
  split <;> rfl

theorem refCheck_ok {ro : List ABlk} {h : Heap} {a : AVal} {x : List (List Int)} (ha : IsMat ro h a x) : callX F1 ro 20 [a] h = some (checkV x, h, h.length, h.length) := by
  refine g20_ok (meansX_ok F1 ro) rfl ?_
  unfold g20
  simp only [meansX_call, callM_pure (Shaped_ok ha) (Nat.le_refl _) (Nat.le_refl _), bindP_some, asB_b, forceB_eq]
  unfold checkV
  by_cases hs : shapedP x
  · simp only [hs, decide_true, Bool.not_true, cond_false, if_true]
    rw [callM_pure (again_ok ha hs) (Nat.le_refl _) (Nat.le_refl _)]
    have hm := dup1_map x (fun r c => ((r : Int), (c : Int))) (fun o => (o.1, o.2, true))
    simp only at hm
    rw [hm]
    cases dup1 x (fun r c => ((r : Int), (c : Int))) with
    | none =>
      simp only [Option.map_none, bindP_some, evP, ev_ext, opd, lget, bindO_some, asI_i, asB_b, forceB_eq, Bool.not_false, cond_true, tupA]
      exact fin_pure rfl
    | some o =>
      obtain ⟨r, c⟩ := o
      simp only [Option.map_some, bindP_some, evP, ev_ext, opd, lget, bindO_some, asI_i, asB_b, forceB_eq, Bool.not_true, cond_false, tupA]
      exact fin_pure rfl
  · simp only [hs, decide_false, Bool.not_false, cond_true, if_false, tupA]
    exact fin_pure rfl
end Go.Proofs.Ytllmlonngnhbfaa.Bed

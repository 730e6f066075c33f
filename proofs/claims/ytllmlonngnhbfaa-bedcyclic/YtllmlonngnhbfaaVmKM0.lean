/- Contracts of the functions, part 0. -/
import Derived.Test.YtllmlonngnhbfaaVmBr
import Derived.Test.YtllmlonngnhbfaaVmGt
/- Small laws for reading the plain functions. -/
open Go.Vm
set_option linter.unusedVariables false
namespace Go.Proofs.Ytllmlonngnhbfaa.Bed
open Go

section
variable {α β : Type}
theorem bindO_some (a : α) (f : α → Option β) : bindO (some a) f = f a := rfl
theorem bindP_some (v : AVal) (m : Mm) (f : AVal → Mm → Option β) : bindP (some (v, m)) f = f v m := rfl
theorem asI_i (k : IntKind) (x : Int) (f : Int → Option β) : asI k (.i k x) f = f x := by simp [asI, kEq_self]
theorem asB_b (x : Bool) (f : Bool → Option β) : asB (.b x) f = f x := rfl
theorem asP_p (q : Vm.Loc) (f : Vm.Loc → Option β) : asP (.p (some q)) f = f q := rfl
theorem chk_true (f : Option β) : chk true f = f := rfl
end

theorem wr_id {x : Int} (h : inI64 x) : wr .i64 x = x := by
  rw [wr_i64]; exact wrap_i64_in x h.1 h.2
theorem wr_id' {x : Int} (h1 : -9223372036854775808 ≤ x) (h2 : x ≤ 9223372036854775807) : wr .i64 x = x := wr_id ⟨h1, h2⟩

theorem callM_eq {call : Caller} {m : Mm} {f : Nat} {vs : List AVal} {v : AVal} {h : Heap} {lw lp : Nat} (e : call f vs m.h = some (v, h, lw, lp)) : callM call m f vs = some (v, ⟨h, min m.lw lw, min m.lp lp⟩) := by
  unfold callM; rw [e]
/-- a call that leaves everything as it was -/
theorem callM_pure {call : Caller} {h : Heap} {l p : Nat} {f : Nat} {vs : List AVal} {v : AVal} (e : call f vs h = some (v, h, h.length, h.length)) (hl : l ≤ h.length) (hp : p ≤ h.length) : callM call ⟨h, l, p⟩ f vs = some (v, ⟨h, l, p⟩) := by
  rw [callM_eq (m := ⟨h, l, p⟩) e]
  simp [Nat.min_eq_left hl, Nat.min_eq_left hp]

theorem fin_pure {h : Heap} {v : AVal} (hv : v.bel h.length = true) : finM h.length v ⟨h, h.length, h.length⟩ = some (v, h, h.length, h.length) := by
  simp [finM, gc, hv]
/-- what was made is dropped -/
theorem fin_drop {h x : Heap} {v : AVal} (hv : v.bel h.length = true) {lw : Nat} : finM h.length v ⟨h ++ x, lw, h.length⟩ = some (v, h, lw, h.length) := by
  simp [finM, gc, hv]

/- rows -/
section
variable {ro : List ABlk} {h : Heap} {v : AVal} {z : List Int} {rows : List (List Int)}

theorem len_row (hr : IsRow ro h v z) : evP .e (.len false (.c v)) = some (.i .i64 z.length) := by
  rcases hr with ⟨rfl, rfl⟩ | ⟨q, cap, blk, rfl, -⟩
  · rfl
  · simp [evP, ev_len, opd, mkI_eq]
theorem len_mat (hr : IsMat ro h v rows) : evP .e (.len false (.c v)) = some (.i .i64 rows.length) := by
  rcases hr with ⟨rfl, rfl⟩ | ⟨q, cap, blk, rfl, -⟩
  · rfl
  · simp [evP, ev_len, opd, mkI_eq]

theorem ixS_eq {q : Vm.Loc} {len : Nat} {cap : Cap} {i : Nat} (hi : i < len) : evP .e (.ixS 1 (.c (.sl q len cap)) (.c (.i .i64 (i : Int)))) = some (.p (some ⟨q.ro, q.b, q.off + i⟩)) := by
  have : Nat.blt i len = true := by rw [Nat.blt_eq]; exact hi
  have e : ((i : Int)) = Int.ofNat i := rfl
  simp only [evP, ev_ixS, opd, e, atI, this, cond_true, Nat.mul_one]

theorem rd_one {q : Vm.Loc} {blk : ABlk} {i : Nat} (hb : rdB ro h q = some blk) (hi : q.off + i < blk.n) : rd ro h true 1 ⟨q.ro, q.b, q.off + i⟩ = some (blk.c.get (q.off + i)) := by
  have e : rdB ro h ⟨q.ro, q.b, q.off + i⟩ = some blk := hb
  have : Nat.blt (q.off + i) blk.n = true := by rw [Nat.blt_eq]; exact hi
  simp only [rd, e, cond_true, this]
theorem rdB_lt {q : Vm.Loc} {blk : ABlk} (hb : rdB ro h q = some blk) : (q.ro || Nat.blt q.b h.length) = true := by
  cases hr : q.ro
  · simp only [rdB, hr, cond_false] at hb
    rw [lget_eq] at hb
    split at hb
    · rename_i e
      have := (List.getElem?_eq_some_iff.1 e).1
      simpa [Nat.blt_eq] using this
    · cases hb
  · rfl

/-- the place of an element, and what lies there, by a load or in a region of open order -/
theorem at_row {m : Mm} (hm : m.h = h) (hr : IsRow ro h v z) {i : Nat} (hi : i < z.length) : ∃ p, evP .e (.ixS 1 (.c v) (.c (.i .i64 (i : Int)))) = some p ∧ ldM ro m true 1 p = some (.i .i64 (z.getD i 0)) ∧ ldA ro m.h true 1 p = some (.i .i64 (z.getD i 0)) := by
  subst hm
  rcases hr with ⟨rfl, rfl⟩ | ⟨q, cap, blk, rfl, hb, hn, hc⟩
  · simp at hi
  · have h1 := rd_one (i := i) hb (by omega)
    rw [hc i hi] at h1
    refine ⟨_, ixS_eq hi, h1, ?_⟩
    have := rdB_lt hb
    simp only [ldA, this, cond_true, h1]
theorem at_mat {m : Mm} (hm : m.h = h) (hr : IsMat ro h v rows) {i : Nat} (hi : i < rows.length) : ∃ p u, evP .e (.ixS 1 (.c v) (.c (.i .i64 (i : Int)))) = some p ∧ ldM ro m true 1 p = some u ∧ ldA ro m.h true 1 p = some u ∧ IsRow ro h u (rows.getD i []) := by
  subst hm
  rcases hr with ⟨rfl, rfl⟩ | ⟨q, cap, blk, rfl, hb, hn, hc⟩
  · simp at hi
  · have h1 := rd_one (i := i) hb (by omega)
    refine ⟨_, _, ixS_eq hi, h1, ?_, hc i hi⟩
    have := rdB_lt hb
    simp only [ldA, this, cond_true, h1]

theorem rdB_ext {q : Vm.Loc} {blk : ABlk} (x : Heap) (hb : rdB ro h q = some blk) : rdB ro (h ++ x) q = some blk := by
  cases hr : q.ro
  · have e : rdB ro h q = match lget h q.b with
      | some (some b) => some b
      | _ => none := by unfold rdB; rw [hr]; rfl
    have e2 : rdB ro (h ++ x) q = match lget (h ++ x) q.b with
      | some (some b) => some b
      | _ => none := by unfold rdB; rw [hr]; rfl
    rw [e] at hb
    rw [e2]
    split at hb
    · rename_i b e3
      rw [lget_eq] at e3 ⊢
      have := (List.getElem?_eq_some_iff.1 e3).1
      rw [List.getElem?_append_left this, e3]; exact hb
    · cases hb
  · have e : rdB ro h q = lget ro q.b := by simp only [rdB, hr, cond_true]
    have e2 : rdB ro (h ++ x) q = lget ro q.b := by simp only [rdB, hr, cond_true]
    rw [e2, ← e]; exact hb
theorem IsRow.ext (x : Heap) (hr : IsRow ro h v z) : IsRow ro (h ++ x) v z := by
  rcases hr with h0 | ⟨q, cap, blk, e, hb, h1, h2⟩
  · exact .inl h0
  · exact .inr ⟨q, cap, blk, e, rdB_ext x hb, h1, h2⟩
theorem IsMat.ext (x : Heap) (hr : IsMat ro h v rows) : IsMat ro (h ++ x) v rows := by
  rcases hr with h0 | ⟨q, cap, blk, e, hb, h1, h2⟩
  · exact .inl h0
  · exact .inr ⟨q, cap, blk, e, rdB_ext x hb, h1, fun r hr => (h2 r hr).ext x⟩
end

/- loops that look for something -/
def firstS {R : Type} (step : Nat → Option R) : Nat → Nat → Option R
  | 0, _ => none
  | k + 1, i => match step i with
    | some r => some r
    | none => firstS step k (i + 1)
def outS {R : Type} : Option R → Unit ⊕ R
  | some r => .inr r
  | none => .inl ()
theorem loop_first {R : Type} {b : Int → Option (Int ⊕ (Unit ⊕ R))} (n : Nat) (step : Nat → Option R) (hout : b (n : Int) = some (.inr (.inl ()))) (hin : ∀ i, i < n → b (i : Int) = some (match step i with | some r => .inr (.inr r) | none => .inl ((i : Int) + 1))) :
    ∀ (k i : Nat), i + k = n → loopX b (i : Int) = some (outS (firstS step k i))
  | 0, i, hi => by
    simp only [Nat.add_zero] at hi
    subst hi
    exact loopX_out hout
  | k + 1, i, hi => by
    have h1 := hin i (by omega)
    unfold firstS
    cases hs : step i with
    | some r => rw [hs] at h1; exact loopX_out h1
    | none =>
      rw [hs] at h1
      exact loopX_on h1 (loop_first n step hout hin k (i + 1) (by omega))
theorem firstS_none {R : Type} {step : Nat → Option R} : ∀ {k i : Nat}, firstS step k i = none ↔ ∀ j, i ≤ j → j < i + k → step j = none
  | 0, i => ⟨fun _ j h1 h2 => by omega, fun _ => rfl⟩
  | k + 1, i => by
    unfold firstS
    cases hs : step i with
    | some r => simp only [reduceCtorEq, false_iff]; intro h; have := h i (Nat.le_refl _) (by omega); rw [hs] at this; cases this
    | none =>
      simp only
      rw [firstS_none]
      constructor
      · intro h j h1 h2
        by_cases e : i = j
        · subst e; exact hs
        · exact h j (by omega) (by omega)
      · intro h j h1 h2
        exact h j (by omega) (by omega)
theorem firstS_some {R : Type} {step : Nat → Option R} {r : R} : ∀ {k i : Nat}, firstS step k i = some r → ∃ j, i ≤ j ∧ j < i + k ∧ step j = some r ∧ ∀ j', i ≤ j' → j' < j → step j' = none
  | 0, i, h => by cases h
  | k + 1, i, h => by
    unfold firstS at h
    cases hs : step i with
    | some r' =>
      rw [hs] at h
      cases h
      exact ⟨i, Nat.le_refl _, by omega, hs, fun j' h1 h2 => by omega⟩
    | none =>
      rw [hs] at h
      obtain ⟨j, h1, h2, h3, h4⟩ := firstS_some h
      refine ⟨j, by omega, by omega, h3, fun j' h5 h6 => ?_⟩
      by_cases e : i = j'
      · subst e; exact hs
      · exact h4 j' (by omega) h6
theorem loopX_elim {S R : Type} {C : Prop} {b : S → Option (S ⊕ R)} (I : S → Prop) (Q : R → Prop) (f : S → Nat) (s : S) (hs : I s)
    (hb : ∀ s, I s → (∃ s', b s = some (.inl s') ∧ I s' ∧ f s' < f s) ∨ (∃ r, b s = some (.inr r) ∧ Q r)) (k : ∀ r, loopX b s = some r → Q r → C) : C := by
  obtain ⟨r, h1, h2⟩ := loopX_rule I Q f hb s hs
  exact k r h1 h2
theorem meansX_call (F : Tab) (ro : List ABlk) : (meansX F ro).call = callX F ro := rfl
theorem meansX_loop {S R : Type} (F : Tab) (ro : List ABlk) (b : S → Option (S ⊕ R)) (s : S) : (meansX F ro).loop b s = loopX b s := rfl
theorem alive_pure {ro : List ABlk} {h : Heap} : callX F1 ro 17 [] h = some (.b true, h, h.length, h.length) := callX_ov rfl
end Go.Proofs.Ytllmlonngnhbfaa.Bed

/- The functions that only look: same, beds, few, the reference's Shaped and the program's shaped. -/
open Go.Vm
set_option linter.unusedVariables false
namespace Go.Proofs.Ytllmlonngnhbfaa.Bed
open Go

/-- what a search with a test finds -/
theorem first_all {P : Nat → Prop} [DecidablePred P] {k : Nat} : firstS (fun i => if P i then none else some false) k 0 = if (∀ i, i < k → P i) then none else some false := by
  by_cases h : ∀ i, i < k → P i
  · rw [if_pos h]
    exact firstS_none.2 fun j _ h2 => by rw [if_pos (h j (by omega))]
  · rw [if_neg h]
    cases hf : firstS (fun i => if P i then none else some false) k 0 with
    | none =>
      refine absurd (fun i hi => ?_) h
      have := firstS_none.1 hf i (by omega) (by omega)
      simpa using this
    | some r =>
      obtain ⟨j, -, -, h3, -⟩ := firstS_some hf
      by_cases hc : P j
      · rw [if_pos hc] at h3; cases h3
      · rw [if_neg hc] at h3; exact h3.symm

def few (rows : List (List Int)) : Prop := ∀ i, i < rows.length → i < 20 ∧ (rows.getD i []).length ≤ 20
theorem few.len {rows : List (List Int)} (h : few rows) : rows.length ≤ 20 := by
  by_cases h1 : rows.length = 0
  · omega
  · have := (h (rows.length - 1) (by omega)).1
    omega
instance (rows : List (List Int)) : Decidable (few rows) := inferInstanceAs (Decidable (∀ i, i < rows.length → i < 20 ∧ (rows.getD i []).length ≤ 20))

/-- the shape of a bed: as many rows as crops, each as long, of numbers from -1 on that are less than the size -/
def shapedP (x : List (List Int)) : Prop := 1 ≤ x.length ∧ x.length ≤ 7 ∧ ∀ r, r < x.length → (x.getD r []).length = x.length ∧ ∀ c, c < x.length → -1 ≤ (x.getD r []).getD c 0 ∧ (x.getD r []).getD c 0 < x.length
instance (x : List (List Int)) : Decidable (shapedP x) := inferInstanceAs (Decidable (1 ≤ x.length ∧ x.length ≤ 7 ∧ ∀ r, r < x.length → (x.getD r []).length = x.length ∧ ∀ c, c < x.length → -1 ≤ (x.getD r []).getD c 0 ∧ (x.getD r []).getD c 0 < x.length))

theorem shaped_ok {ro : List ABlk} {h : Heap} {a : AVal} {x : List (List Int)} (ha : IsMat ro h a x) : callX F1 ro 51 [a] h = some (.b (decide (shapedP x)), h, h.length, h.length) := by
  refine g51_ok (meansX_ok F1 ro) rfl ?_
  unfold g51
  simp only [len_mat ha, bindO_some, asI_i, forceB_eq, ltI_eq, meansX_loop]
  by_cases h1 : x.length < 1
  · have e : decide ((x.length : Int) < 1) = true := by simp only [decide_eq_true_eq]; omega
    have hs : ¬ shapedP x := fun hs => by have := hs.1; omega
    simp only [e, cond_true, bindO_some, hs, decide_false, tupA]
    exact fin_pure rfl
  have e : decide ((x.length : Int) < 1) = false := by simp only [decide_eq_false_iff_not]; omega
  simp only [e, cond_false, bindO_some]
  by_cases h7 : 7 < x.length
  · have e : decide ((7 : Int) < x.length) = true := by simp only [decide_eq_true_eq]; omega
    have hs : ¬ shapedP x := fun hs => by have := hs.2.1; omega
    simp only [e, cond_true, hs, decide_false, tupA]
    exact fin_pure rfl
  have e : decide ((7 : Int) < x.length) = false := by simp only [decide_eq_false_iff_not]; omega
  simp only [e, cond_false]
  have hloop := loop_first (b := fun s => g51_b1 (meansX F1 ro) ro x.length a x.length ⟨h, h.length, h.length⟩ s) x.length
    (fun r => if ((x.getD r []).length = x.length ∧ ∀ c, c < x.length → -1 ≤ (x.getD r []).getD c 0 ∧ (x.getD r []).getD c 0 < x.length) then none else some false) ?_ ?_ x.length 0 (by omega)
  · have e0 : ((0 : Nat) : Int) = 0 := rfl
    rw [e0] at hloop
    rw [hloop, first_all]
    by_cases hs : shapedP x
    · rw [if_pos hs.2.2]
      simp only [outS, bindO_some, hs, decide_true, tupA]
      exact fin_pure rfl
    · rw [if_neg (fun hh => hs ⟨by omega, by omega, hh⟩)]
      simp only [outS, bindO_some, hs, decide_false, tupA]
      exact fin_pure rfl
  · simp only [g51_b1, forceB_eq, ltI_eq]
    simp
  · intro r hr
    obtain ⟨p, u, k1, k2, k3, k4⟩ := at_mat (m := ⟨h, h.length, h.length⟩) rfl ha hr
    have e : decide ((r : Int) < (x.length : Int)) = true := by simp; omega
    simp only [g51_b1, bindO_some, asI_i, forceB_eq, ltI_eq, eqI_eq, e, cond_true, k1, k2, len_row k4, meansX_loop]
    by_cases hlen : (x.getD r []).length = x.length
    · have e3 : (((x.getD r []).length : Int) == (x.length : Int)) = true := by simp [-List.getD_eq_getElem?_getD, hlen]
      simp only [hlen, beq_self_eq_true, Bool.not_true, cond_false, true_and]
      have hloop2 := loop_first (b := fun s => g51_b2 (meansX F1 ro) ro x.length a x.length r u x.length ⟨h, h.length, h.length⟩ s) x.length
        (fun c => if (-1 ≤ (x.getD r []).getD c 0 ∧ (x.getD r []).getD c 0 < x.length) then none else some false) ?_ ?_ x.length 0 (by omega)
      · have e0 : ((0 : Nat) : Int) = 0 := rfl
        rw [e0] at hloop2
        rw [hloop2, first_all]
        by_cases hall : ∀ c, c < x.length → -1 ≤ (x.getD r []).getD c 0 ∧ (x.getD r []).getD c 0 < x.length
        · simp only [if_pos hall, outS, bindO_some, forceI_eq]
          rw [wr_id' (by omega) (by omega)]
        · simp only [if_neg hall, outS, bindO_some]
      · simp only [g51_b2, forceB_eq, ltI_eq]
        simp
      · intro c hc
        obtain ⟨p', l1, l2, l3⟩ := at_row (m := ⟨h, h.length, h.length⟩) rfl k4 (by rw [hlen]; exact hc : c < (x.getD r []).length)
        have e : decide ((c : Int) < (x.length : Int)) = true := by simp; omega
        simp only [g51_b2, bindO_some, asI_i, forceB_eq, ltI_eq, e, cond_true, l1, l2]
        by_cases q1 : (x.getD r []).getD c 0 < -1
        · have q2 : ¬ (-1 ≤ (x.getD r []).getD c 0 ∧ (x.getD r []).getD c 0 < x.length) := by omega
          simp only [q1, q2, decide_true, cond_true, bindO_some, if_false]
        · simp only [q1, decide_false, cond_false, bindO_some]
          by_cases q3 : (x.getD r []).getD c 0 < (x.length : Int)
          · have q2 : (-1 ≤ (x.getD r []).getD c 0 ∧ (x.getD r []).getD c 0 < x.length) := by omega
            simp only [q2, q3, decide_true, Bool.not_true, cond_false, and_self, if_true, forceI_eq]
            rw [wr_id' (by omega) (by omega)]
          · have q2 : ¬ (-1 ≤ (x.getD r []).getD c 0 ∧ (x.getD r []).getD c 0 < x.length) := by omega
            rw [if_neg q2]
            simp only [q3, decide_false, Bool.not_false, cond_true]
    · have e3 : (((x.getD r []).length : Int) == (x.length : Int)) = false := by simp only [beq_eq_false_iff_ne, ne_eq]; omega
      simp only [e3, Bool.not_false, cond_true, hlen, false_and, if_false]
end Go.Proofs.Ytllmlonngnhbfaa.Bed

/- The reference's Shaped, again and Check. -/
open Go.Vm
set_option linter.unusedVariables false
namespace Go.Proofs.Ytllmlonngnhbfaa.Bed
open Go

/-- the crop at a place -/
def at2 (x : List (List Int)) (r c : Nat) : Int := (x.getD r []).getD c 0
/-- is the crop of a place also at an earlier place of its row or column? -/
def dupP (x : List (List Int)) (r c : Nat) : Prop := 0 ≤ at2 x r c ∧ ((∃ i, i < c ∧ at2 x r i = at2 x r c) ∨ ∃ i, i < r ∧ at2 x i c = at2 x r c)
open Classical in
noncomputable def dupRow {R : Type} (x : List (List Int)) (f : Nat → Nat → R) (r : Nat) : Option R := firstS (fun c => if dupP x r c then some (f r c) else none) x.length 0
noncomputable def dup1 {R : Type} (x : List (List Int)) (f : Nat → Nat → R) : Option R := firstS (dupRow x f) x.length 0

/-- what both Checks answer -/
noncomputable def checkV (x : List (List Int)) : AVal :=
  if shapedP x then match dup1 x fun r c => ((r : Int), (c : Int)) with
    | some (r, c) => .tup [.i .i64 r, .i .i64 c, .i .i64 0]
    | none => .tup [.i .i64 0, .i .i64 0, .i .i64 10]
  else .tup [.i .i64 0, .i .i64 0, .i .i64 2]

end Go.Proofs.Ytllmlonngnhbfaa.Bed

/- The reference's Copied: a new list of lists with the same numbers. -/
open Go.Vm
set_option linter.unusedVariables false
namespace Go.Proofs.Ytllmlonngnhbfaa.Bed
open Go

theorem row_eq {t : Tr} {off : Nat} {z : List Int} (h : ∀ j, j < z.length → t.get (off + j) = .i .i64 (z.getD j 0)) : t.row off z.length = z.map (AVal.i .i64) := by
  refine List.ext_getElem? fun j => ?_
  rw [getElem?_row, List.getElem?_map]
  by_cases hj : j < z.length
  · rw [if_pos hj, h j hj]
    simp [List.getD, hj]
  · rw [if_neg hj]
    simp [List.getElem?_eq_none (by omega : z.length ≤ j)]

theorem src_row {ro : List ABlk} {h : Heap} {u : AVal} {z : List Int} (hr : IsRow ro h u z) : app_src ro h 1 u = some (z.map (AVal.i .i64), z.length) := by
  rcases hr with ⟨rfl, rfl⟩ | ⟨q, cap, blk, rfl, hb, hn, hc⟩
  · rfl
  · have : Nat.ble (q.off + z.length) blk.n = true := by rw [Nat.ble_eq]; exact hn
    simp only [app_src, hb, this, cond_true, Nat.mul_one, row_eq hc]

theorem fits_small {n k : Nat} (h : n ≤ 1000000) (hk : k ≤ 1000) : fits n k = true := by
  simp only [fits, Bool.and_eq_true, Nat.ble_eq]
  have : n * k ≤ 1000000 * 1000 := Nat.mul_le_mul h hk
  omega

/-- a row of one's own -/
def OwnRow (hp : Heap) (w : AVal) (z : List Int) : Prop :=
  (w = .nsl ∧ z = []) ∨ ∃ b blk, w = .sl ⟨false, b, 0⟩ z.length .grow ∧ lget hp b = some (some blk) ∧ blk.e = 3 ∧ z.length ≤ blk.n ∧ ∀ j, j < z.length → blk.c.get j = .i .i64 (z.getD j 0)
theorem OwnRow.row {ro : List ABlk} {hp : Heap} {w : AVal} {z : List Int} (h : OwnRow hp w z) : IsRow ro hp w z := by
  rcases h with h0 | ⟨b, blk, rfl, h1, h2, h3, h4⟩
  · exact .inl h0
  · exact .inr ⟨_, _, blk, rfl, by simp only [rdB, cond_false, h1], by simpa using h3, fun j hj => by simpa using h4 j hj⟩
theorem OwnRow.ext {hp : Heap} {w : AVal} {z : List Int} (x : Heap) (h : OwnRow hp w z) : OwnRow (hp ++ x) w z := by
  rcases h with h0 | ⟨b, blk, rfl, h1, h2, h3, h4⟩
  · exact .inl h0
  · refine .inr ⟨b, blk, rfl, ?_, h2, h3, h4⟩
    rw [lget_eq] at h1 ⊢
    rw [List.getElem?_append_left (List.getElem?_eq_some_iff.1 h1).1]; exact h1
theorem map_getD {z : List Int} {j : Nat} (hj : j < z.length) : (z.map (AVal.i .i64)).getD j und = .i .i64 (z.getD j 0) := by simp [List.getD, hj]
theorem get_blk (e : Nat) (l : List AVal) (j : Nat) : (blkOf e l).c.get j = l.getD j und := get_mk l j

end Go.Proofs.Ytllmlonngnhbfaa.Bed

/- The ground: a new one, its options, a sowing. -/
open Go.Vm
set_option linter.unusedVariables false
namespace Go.Proofs.Ytllmlonngnhbfaa.Bed
open Go

/- places of the heap -/
section
variable {ro : List ABlk} {hp : Heap} {b off : Nat} {blk : ABlk}
theorem rdB_heap (hb : lget hp b = some (some blk)) (off : Nat) : rdB ro hp ⟨false, b, off⟩ = some blk := by simp only [rdB, cond_false, hb]
theorem ld_heap {m : Mm} (hm : m.h = hp) (hb : lget hp b = some (some blk)) (ho : off < blk.n) : ldM ro m true 1 (.p (some ⟨false, b, off⟩)) = some (blk.c.get off) := by
  subst hm
  have : Nat.blt off blk.n = true := by rw [Nat.blt_eq]; exact ho
  simp only [ldM, rd, rdB_heap hb, cond_true, this]
theorem lda_heap {h0 : Heap} (hb : lget h0 b = some (some blk)) (ho : off < blk.n) : ldA ro h0 true 1 (.p (some ⟨false, b, off⟩)) = some (blk.c.get off) := by
  have h1 : (false || Nat.blt b h0.length) = true := by
    rw [lget_eq] at hb
    have := (List.getElem?_eq_some_iff.1 hb).1
    simpa [Nat.blt_eq] using this
  have : Nat.blt off blk.n = true := by rw [Nat.blt_eq]; exact ho
  simp only [ldA, h1, rd, rdB_heap hb, cond_true, this]
theorem wrH_heap (hb : lget hp b = some (some blk)) (ho : off < blk.n) {v : AVal} (hv : v.one = true) : wrH hp ⟨false, b, off⟩ [v] = some (hp.set b (some { blk with c := blk.c.set off v })) := by
  have : (Nat.ble (off + 1) blk.n && ones [v]) = true := by simp [ones, hv, Nat.ble_eq]; omega
  simp only [wrH, cond_false, hb, List.length_cons, List.length_nil, Nat.zero_add, this, cond_true, lset_eq, Tr.splice]
theorem st_heap {l p : Nat} (hb : lget hp b = some (some blk)) (ho : off < blk.n) {v : AVal} (hv : v.one = true) (hc : v.cells = [v]) (hn : nonp [v] = true) :
    stepM ro ⟨hp, l, p⟩ (.st 1 (.c (.p (some ⟨false, b, off⟩))) (.c v)) = some (und, ⟨hp.set b (some { blk with c := blk.c.set off v }), min l b, p⟩) := by
  simp only [stepM, stepK, opd, st_st, hc, List.length_cons, List.length_nil, Nat.zero_add, wrH_heap hb ho hv, hn, cond_true, St.mm]
  rfl
theorem wr_heap {l p : Nat} (hb : lget hp b = some (some blk)) (ho : off < blk.n) {v : AVal} (hv : v.one = true) (hn : nonp [v] = true) :
    writesM ro [] [(⟨false, b, off⟩, [v])] ⟨hp, l, p⟩ = some ⟨hp.set b (some { blk with c := blk.c.set off v }), min l b, p⟩ := by
  simp only [writesM, writes, wrH_heap hb ho hv, hn, ckOk, if_true, St.mm]
theorem lget_set (hb : lget hp b = some (some blk)) (x : Option ABlk) : lget (hp.set b x) b = some x := by
  rw [lget_eq] at hb ⊢
  have := (List.getElem?_eq_some_iff.1 hb).1
  simp [this]
theorem lget_ext (hb : lget hp b = some (some blk)) (x : Heap) : lget (hp ++ x) b = some (some blk) := by
  rw [lget_eq] at hb ⊢
  rw [List.getElem?_append_left (List.getElem?_eq_some_iff.1 hb).1]; exact hb
theorem lget_lt (hb : lget hp b = some (some blk)) : b < hp.length := by
  rw [lget_eq] at hb
  exact (List.getElem?_eq_some_iff.1 hb).1
theorem lget_last (h : Heap) (x : Option ABlk) : lget (h ++ [x]) h.length = some x := by rw [lget_eq]; simp
end

/- pointers -/
theorem p_nilck (q : Vm.Loc) : evP .e (.nilck (.c (.p (some q)))) = some (.p (some q)) := rfl
theorem p_faddr (r : Bool) (b o off : Nat) : evP .e (.faddr off (.c (.p (some ⟨r, b, o⟩)))) = some (.p (some ⟨r, b, o + off⟩)) := rfl
theorem p_ixA {r : Bool} {b o len es : Nat} {x : Int} {i : Nat} (hx : x = (i : Int)) (hi : i < len) : evP .e (.ixA len es (.c (.p (some ⟨r, b, o⟩))) (.c (.i .i64 x))) = some (.p (some ⟨r, b, o + i * es⟩)) := by
  have : Nat.blt i len = true := by rw [Nat.blt_eq]; exact hi
  have e : ((i : Int)) = Int.ofNat i := rfl
  subst hx
  simp only [evP, ev_ixA, opd, e, atI, this, cond_true]

/-- the ground's cells: its size, its crops, what has been met -/
structure Gr (c : Tr) (n : Nat) (crop : Nat → Nat → Int) (met : Nat → Nat → Nat → Nat) : Prop where
  size : c.get 0 = .i .i64 n
  crops : ∀ r k, r < 7 → k < 7 → c.get (1 + r * 7 + k * 1) = .i .i64 (crop r k)
  mets : ∀ i j a, i < 3 → j < 3 → a < 7 → c.get (50 + i * 21 + j * 7 + a * 1) = .i .u8 (met i j a) ∧ met i j a < 256

theorem Gr.setCrop {c : Tr} {n : Nat} {crop : Nat → Nat → Int} {met : Nat → Nat → Nat → Nat} (h : Gr c n crop met) {r k : Nat} (hr : r < 7) (hk : k < 7) (v : Int) :
    Gr (c.set (1 + r * 7 + k * 1) (.i .i64 v)) n (fun r' k' => if r' = r ∧ k' = k then v else crop r' k') met := by
  refine ⟨?_, fun r' k' hr' hk' => ?_, fun i j a hi hj ha => ?_⟩
  · rw [get_set, if_neg (by omega)]; exact h.size
  · rw [get_set]
    by_cases e : r' = r ∧ k' = k
    · rw [if_pos (by omega), if_pos e]
    · rw [if_neg (by omega), if_neg e]; exact h.crops r' k' hr' hk'
  · rw [get_set, if_neg (by omega)]; exact h.mets i j a hi hj ha
theorem Gr.setMet {c : Tr} {n : Nat} {crop : Nat → Nat → Int} {met : Nat → Nat → Nat → Nat} (h : Gr c n crop met) {i j a : Nat} (hi : i < 3) (hj : j < 3) (ha : a < 7) {v : Nat} (hv : v < 256) :
    Gr (c.set (50 + i * 21 + j * 7 + a * 1) (.i .u8 v)) n crop (fun i' j' a' => if i' = i ∧ j' = j ∧ a' = a then v else met i' j' a') := by
  refine ⟨?_, fun r' k' hr' hk' => ?_, fun i' j' a' hi' hj' ha' => ?_⟩
  · rw [get_set, if_neg (by omega)]; exact h.size
  · rw [get_set, if_neg (by omega)]; exact h.crops r' k' hr' hk'
  · rw [get_set]
    by_cases e : i' = i ∧ j' = j ∧ a' = a
    · rw [if_pos (by omega)]
      exact ⟨by simp only [if_pos e], by simp only [if_pos e]; exact hv⟩
    · rw [if_neg (by omega)]
      simp only [e, if_false]
      exact h.mets i' j' a' hi' hj' ha'
theorem Gr.congr {c : Tr} {n : Nat} {crop crop' : Nat → Nat → Int} {met met' : Nat → Nat → Nat → Nat} (h : Gr c n crop met) (hc : ∀ r k, r < 7 → k < 7 → crop r k = crop' r k) (hm : ∀ i j a, i < 3 → j < 3 → a < 7 → met i j a = met' i j a) : Gr c n crop' met' :=
  ⟨h.size, fun r k hr hk => by rw [← hc r k hr hk]; exact h.crops r k hr hk, fun i j a hi hj ha => by rw [← hm i j a hi hj ha]; exact h.mets i j a hi hj ha⟩

/-- the ground lies in block b -/
def IsGr (hp : Heap) (b n : Nat) (crop : Nat → Nat → Int) (met : Nat → Nat → Nat → Nat) : Prop := ∃ blk, lget hp b = some (some blk) ∧ blk.n = 113 ∧ Gr blk.c n crop met

/- a new ground -/
theorem newGround_ok {ro : List ABlk} {h : Heap} {n : Nat} (hn : n ≤ 7) : ∃ blk, callX F1 ro 52 [.i .i64 n] h = some (.p (some ⟨false, h.length, 0⟩), h ++ [some blk], h.length, h.length) ∧ blk.n = 113 ∧
    Gr blk.c n (fun r k => if r < n ∧ k < n then -1 else 0) (fun _ _ _ => 0) := by
  obtain ⟨blk0, hblk0, hn0, hg0⟩ : ∃ blk : ABlk, blk = blkOf 75 (.i .i64 n :: (List.replicate 49 (.i .i64 0) ++ List.replicate 63 (.i .u8 0))) ∧ blk.n = 113 ∧ Gr blk.c n (fun _ _ => 0) (fun _ _ _ => 0) := by
    refine ⟨_, rfl, rfl, ?_, fun r k hr hk => ?_, fun i j a hi hj ha => ⟨?_, by omega⟩⟩
    · rw [get_blk]; rfl
    · rw [get_blk, show 1 + r * 7 + k * 1 = (r * 7 + k) + 1 by omega, List.getD_cons_succ, List.getD_eq_getElem?_getD, List.getElem?_append_left (by simp; omega), List.getElem?_replicate, if_pos (by omega)]
      rfl
    · rw [get_blk, show 50 + i * 21 + j * 7 + a * 1 = (49 + (i * 21 + j * 7 + a)) + 1 by omega, List.getD_cons_succ, List.getD_eq_getElem?_getD, List.getElem?_append_right (by simp), List.getElem?_replicate, if_pos (by simp; omega)]
      rfl
  have wri : ∀ k : Nat, k < 7 → wr .i64 ((k : Int) + 1) = ((k + 1 : Nat) : Int) := fun k hk => by rw [wr_id' (by omega) (by omega)]; omega
  have inner : ∀ (r : Nat) (blk : ABlk), r < n → blk.n = 113 → Gr blk.c n (fun r' k => if r' < n ∧ k < n ∧ (r' < r ∨ (r' = r ∧ k < 0)) then -1 else 0) (fun _ _ _ => 0) → ∃ blk', loopX (fun s => g52_b1 (meansX F1 ro) ro n (.p (some ⟨false, h.length, 0⟩)) r s.1 s.2) (0, ⟨h ++ [some blk], h.length, h.length⟩) =
      some ⟨h ++ [some blk'], h.length, h.length⟩ ∧ blk'.n = 113 ∧ Gr blk'.c n (fun r' k => if r' < n ∧ k < n ∧ (r' < r ∨ (r' = r ∧ k < n)) then -1 else 0) (fun _ _ _ => 0) := by
    intro r blk hr hbn hg
    refine loopX_elim (b := fun s => g52_b1 (meansX F1 ro) ro n (.p (some ⟨false, h.length, 0⟩)) r s.1 s.2)
      (fun s => ∃ (k : Nat) (blk : ABlk), s.1 = (k : Int) ∧ k ≤ n ∧ s.2 = ⟨h ++ [some blk], h.length, h.length⟩ ∧ blk.n = 113 ∧ Gr blk.c n (fun r' k' => if r' < n ∧ k' < n ∧ (r' < r ∨ (r' = r ∧ k' < k)) then -1 else 0) (fun _ _ _ => 0))
      (fun m => ∃ blk, m = ⟨h ++ [some blk], h.length, h.length⟩ ∧ blk.n = 113 ∧ Gr blk.c n (fun r' k => if r' < n ∧ k < n ∧ (r' < r ∨ (r' = r ∧ k < n)) then -1 else 0) (fun _ _ _ => 0))
      (fun s => n - s.1.toNat) (0, ⟨h ++ [some blk], h.length, h.length⟩) ⟨0, blk, rfl, by omega, rfl, hbn, hg⟩ ?_ ?_
    · rintro ⟨x, m⟩ ⟨k, blk, hx, hk, hm, hbn, hg⟩
      simp only at hx hm
      subst hx hm
      by_cases hlt : k < n
      · left
        have e : decide ((k : Int) < (n : Int)) = true := by simp; omega
        have hst := st_heap (ro := ro) (l := h.length) (p := h.length) (lget_last h (some blk)) (by rw [hbn]; omega : 0 + 1 + r * 7 + k * 1 < blk.n) (v := .i .i64 (-1)) rfl rfl rfl
        rw [Nat.min_self] at hst
        refine ⟨(((k + 1 : Nat) : Int), ⟨h ++ [some { blk with c := blk.c.set (1 + r * 7 + k * 1) (.i .i64 (-1)) }], h.length, h.length⟩), ?_, ⟨k + 1, { blk with c := blk.c.set (1 + r * 7 + k * 1) (.i .i64 (-1)) }, rfl, by omega, rfl, hbn, ?_⟩, by simp only; omega⟩
        · simp only [g52_b1, forceB_eq, ltI_eq, e, cond_true, p_nilck, p_faddr, bindO_some, p_ixA rfl (by omega : r < 7), p_ixA rfl (by omega : k < 7), hst, bindP_some, forceI_eq, wri k (by omega)]
          simp
        · refine (hg.setCrop (r := r) (k := k) (by omega) (by omega) (-1)).congr (fun r' k' hr' hk' => ?_) (fun _ _ _ _ _ _ => rfl)
          by_cases c1 : r' = r ∧ k' = k
          · rw [if_pos c1, if_pos (by omega)]
          · rw [if_neg c1]
            by_cases c2 : r' < n ∧ k' < n ∧ (r' < r ∨ (r' = r ∧ k' < k))
            · rw [if_pos c2, if_pos (by omega)]
            · rw [if_neg c2, if_neg (by omega)]
      · right
        have : k = n := by omega
        subst this
        refine ⟨_, ?_, blk, rfl, hbn, hg⟩
        simp only [g52_b1, forceB_eq, ltI_eq]
        simp
    · rintro m hl ⟨blk', rfl, h1, h2⟩
      exact ⟨blk', hl, h1, h2⟩
  refine loopX_elim (b := fun s => g52_b0 (meansX F1 ro) ro n (.p (some ⟨false, h.length, 0⟩)) s.1 s.2)
    (fun s => ∃ (r : Nat) (blk : ABlk), s.1 = (r : Int) ∧ r ≤ n ∧ s.2 = ⟨h ++ [some blk], h.length, h.length⟩ ∧ blk.n = 113 ∧ Gr blk.c n (fun r' k' => if r' < n ∧ k' < n ∧ (r' < r ∨ (r' = r ∧ k' < 0)) then -1 else 0) (fun _ _ _ => 0))
    (fun m => ∃ blk, m = ⟨h ++ [some blk], h.length, h.length⟩ ∧ blk.n = 113 ∧ Gr blk.c n (fun r' k => if r' < n ∧ k < n ∧ (r' < n ∨ (r' = n ∧ k < 0)) then -1 else 0) (fun _ _ _ => 0))
    (fun s => n - s.1.toNat) (0, ⟨h ++ [some blk0], h.length, h.length⟩) ⟨0, blk0, rfl, by omega, rfl, hn0, hg0.congr (fun r k _ _ => by rw [if_neg (by omega)]) (fun _ _ _ _ _ _ => rfl)⟩ ?_ ?_
  · rintro ⟨x, m⟩ ⟨r, blk, hx, hr, hm, hbn, hg⟩
    simp only at hx hm
    subst hx hm
    by_cases hlt : r < n
    · left
      have e : decide ((r : Int) < (n : Int)) = true := by simp; omega
      obtain ⟨blk', i1, i2, i3⟩ := inner r blk hlt hbn hg
      refine ⟨(((r + 1 : Nat) : Int), ⟨h ++ [some blk'], h.length, h.length⟩), ?_, ⟨r + 1, blk', rfl, by omega, rfl, i2, i3.congr (fun r' k' _ _ => ?_) (fun _ _ _ _ _ _ => rfl)⟩, by simp only; omega⟩
      · simp only [g52_b0, forceB_eq, ltI_eq, e, cond_true, meansX_loop, i1, bindO_some, forceI_eq, wri r (by omega)]
      · by_cases c2 : r' < n ∧ k' < n ∧ (r' < r ∨ (r' = r ∧ k' < n))
        · rw [if_pos c2, if_pos (by omega)]
        · rw [if_neg c2, if_neg (by omega)]
    · right
      have : r = n := by omega
      subst this
      refine ⟨_, ?_, blk, rfl, hbn, hg⟩
      simp only [g52_b0, forceB_eq, ltI_eq]
      simp
  · rintro m hl ⟨blk', rfl, h1, h2⟩
    refine ⟨blk', g52_ok (meansX_ok F1 ro) rfl ?_, h1, h2.congr (fun r k _ _ => ?_) (fun _ _ _ _ _ _ => rfl)⟩
    · unfold g52
      change bindO (some (AVal.agg (.i .i64 n :: (List.replicate 49 (.i .i64 0) ++ List.replicate 63 (.i .u8 0))))) _ = _
      rw [bindO_some]
      have hbx : stepM ro ⟨h, h.length, h.length⟩ (.bx 75 113 (.c (AVal.agg (.i .i64 n :: (List.replicate 49 (.i .i64 0) ++ List.replicate 63 (.i .u8 0)))))) = some (.p (some ⟨false, h.length, 0⟩), ⟨h ++ [some blk0], h.length, h.length⟩) := by
        rw [hblk0]; rfl
      rw [hbx, bindP_some, meansX_loop, hl, bindO_some]
      have hb : (AVal.p (some ⟨false, h.length, 0⟩)).bel h.length = false := by
        simp only [AVal.bel, Bool.false_or]
        cases hh : Nat.blt h.length h.length
        · rfl
        · rw [Nat.blt_eq] at hh; omega
      simp [finM, gc, tupA, hb]
    · by_cases c : r < n ∧ k < n
      · rw [if_pos (by omega), if_pos c]
      · rw [if_neg (by omega), if_neg c]

/- options -/
def optsV (n m : Nat) : Nat := Nat.xor (2 ^ n - 1) (Nat.land (2 ^ n - 1) m)
theorem bit_or {a c : Nat} (ha : a < 256) (hc : c < 256) : bitV .or .u8 a c = ((a ||| c : Nat) : Int) := by
  have e : (Nat.blt a 256 && Nat.blt c 256) = true := by simp [Nat.blt_eq, ha, hc]
  show numA (Go.Vm.bits .or .u8 (Int.ofNat a) (Int.ofNat c)) = _
  simp only [Go.Vm.bits, e, cond_true, bits8, mkN_eq, numA]
  rfl
theorem bit_and {a c : Nat} (ha : a < 256) (hc : c < 256) : bitV .and .u8 a c = ((a &&& c : Nat) : Int) := by
  have e : (Nat.blt a 256 && Nat.blt c 256) = true := by simp [Nat.blt_eq, ha, hc]
  show numA (Go.Vm.bits .and .u8 (Int.ofNat a) (Int.ofNat c)) = _
  simp only [Go.Vm.bits, e, cond_true, bits8, mkN_eq, numA]
  rfl
theorem bit_andNot {a c : Nat} (ha : a < 256) (hc : c < 256) : bitV .andNot .u8 a c = ((Nat.xor a (Nat.land a c) : Nat) : Int) := by
  have e : (Nat.blt a 256 && Nat.blt c 256) = true := by simp [Nat.blt_eq, ha, hc]
  show numA (Go.Vm.bits .andNot .u8 (Int.ofNat a) (Int.ofNat c)) = _
  simp only [Go.Vm.bits, e, cond_true, bits8, mkN_eq, numA]
  rfl
theorem wr_u8_id {x : Nat} (h : x < 256) : wr .u8 (x : Int) = (x : Int) := by
  rw [wr_u8]; exact wrap_u8_in _ (by omega) (by omega)
theorem shl_one {n : Nat} (hn : n ≤ 7) : shlV .u8 1 n = ((2 ^ n : Nat) : Int) := by
  have h : ∀ n, n ≤ 7 → shlV .u8 1 ((n : Nat) : Int) = ((2 ^ n : Nat) : Int) := by decide
  exact h n hn
theorem or_lt {a b : Nat} (ha : a < 256) (hb : b < 256) : a ||| b < 256 := Nat.or_lt_two_pow (n := 8) ha hb
theorem optsV_lt {n m : Nat} (hn : n ≤ 7) : optsV n m < 256 := by
  have h1 : 2 ^ n - 1 < 2 ^ 8 := by
    have : 2 ^ n ≤ 2 ^ 7 := Nat.pow_le_pow_right (by omega) hn
    omega
  have h2 : (2 ^ n - 1) &&& m < 2 ^ 8 := Nat.lt_of_le_of_lt Nat.and_le_left h1
  exact Nat.xor_lt_two_pow h1 h2
theorem optsV_bit {n m k : Nat} : (optsV n m).testBit k = (decide (k < n) && !m.testBit k) := by
  unfold optsV
  show ((2 ^ n - 1) ^^^ ((2 ^ n - 1) &&& m)).testBit k = _
  rw [Nat.testBit_xor, Nat.testBit_and, Nat.testBit_two_pow_sub_one]
  cases decide (k < n) <;> cases m.testBit k <;> rfl

theorem options_ok {ro : List ABlk} {hp : Heap} {b n : Nat} {crop : Nat → Nat → Int} {met : Nat → Nat → Nat → Nat} (hg : IsGr hp b n crop met) (hn : n ≤ 7) {i a j c : Nat} (hi : i < 3) (hj : j < 3) (hij : i + j ≤ 3) (hij2 : 1 ≤ i + j) (ha : a < 7) (hc : c < 7) :
    callX F1 ro 53 [.p (some ⟨false, b, 0⟩), .agg [.i .i64 i, .i .i64 a, .i .i64 j, .i .i64 c]] hp = some (.i .u8 (optsV n (met i (3 - i - j) a ||| met j (3 - i - j) c) : Nat), hp, hp.length, hp.length) := by
  obtain ⟨blk, hb, hbn, hg⟩ := hg
  refine g53_ok (meansX_ok F1 ro) rfl ?_
  unfold g53
  obtain ⟨bx, hbx⟩ : ∃ bx, bx = blkOf 59 [.i .i64 (i : Int), .i .i64 (a : Int), .i .i64 (j : Int), .i .i64 (c : Int)] := ⟨_, rfl⟩
  have e1 : stepM ro ⟨hp, hp.length, hp.length⟩ (.bx 59 4 (.c (.agg [.i .i64 i, .i .i64 a, .i .i64 j, .i .i64 c]))) = some (.p (some ⟨false, hp.length, 0⟩), ⟨hp ++ [some bx], hp.length, hp.length⟩) := by rw [hbx]; rfl
  have l0 : lget (hp ++ [some bx]) hp.length = some (some bx) := lget_last _ _
  have lb : lget (hp ++ [some bx]) b = some (some blk) := lget_ext hb _
  have n4 : bx.n = 4 := by rw [hbx]; rfl
  have c0 : bx.c.get (0 + 0) = .i .i64 i := by rw [hbx]; rfl
  have c1 : bx.c.get (0 + 1) = .i .i64 a := by rw [hbx]; rfl
  have c2 : bx.c.get (0 + 2) = .i .i64 j := by rw [hbx]; rfl
  have c3 : bx.c.get (0 + 3) = .i .i64 c := by rw [hbx]; rfl
  have hw1 : wr .i64 (3 - (i : Int)) = ((3 - i : Nat) : Int) := by rw [wr_id' (by omega) (by omega)]; omega
  have hw2 : wr .i64 (((3 - i : Nat) : Int) - (j : Int)) = ((3 - i - j : Nat) : Int) := by rw [wr_id' (by omega) (by omega)]; omega
  have hk : 3 - i - j < 3 := by omega
  have hn0 : (!ltI (n : Int) (.ofNat 0)) = true := by rw [ltI_eq]; simp
  have hsub : wr .u8 (((2 ^ n : Nat) : Int) - 1) = ((2 ^ n - 1 : Nat) : Int) := by
    have h1 : 1 ≤ 2 ^ n := Nat.one_le_two_pow
    have h2 : 2 ^ n ≤ 2 ^ 7 := Nat.pow_le_pow_right (by omega) hn
    have e : (((2 ^ n : Nat) : Int) - 1) = ((2 ^ n - 1 : Nat) : Int) := by omega
    rw [e, wr_u8_id (by omega)]
  obtain ⟨m1, m1'⟩ := hg.mets i (3 - i - j) a hi hk ha
  obtain ⟨m2, m2'⟩ := hg.mets j (3 - i - j) c hj hk hc
  have hsz := hg.size
  have q1 : ∀ off, off < 4 → ldM ro ⟨hp ++ [some bx], hp.length, hp.length⟩ true 1 (.p (some ⟨false, hp.length, 0 + off⟩)) = some (bx.c.get (0 + off)) := fun off ho => ld_heap rfl l0 (by omega)
  have q2 : ∀ off, off < 4 → ldA ro (hp ++ [some bx]) true 1 (.p (some ⟨false, hp.length, 0 + off⟩)) = some (bx.c.get (0 + off)) := fun off ho => lda_heap l0 (by omega)
  have q3 : ldM ro ⟨hp ++ [some bx], hp.length, hp.length⟩ true 1 (.p (some ⟨false, b, 0 + 0⟩)) = some (.i .i64 n) := by rw [ld_heap rfl lb (by omega), hsz]
  have q4 : ldA ro (hp ++ [some bx]) true 1 (.p (some ⟨false, b, 0 + 50 + i * 21 + (3 - i - j) * 7 + a * 1⟩)) = some (.i .u8 (met i (3 - i - j) a)) := by
    rw [lda_heap lb (by omega), Nat.zero_add, m1]
  have q5 : ldA ro (hp ++ [some bx]) true 1 (.p (some ⟨false, b, 0 + 50 + j * 21 + (3 - i - j) * 7 + c * 1⟩)) = some (.i .u8 (met j (3 - i - j) c)) := by
    rw [lda_heap lb (by omega), Nat.zero_add, m2]
  have h256 : 2 ^ n - 1 < 256 := by
    have : 2 ^ n ≤ 2 ^ 7 := Nat.pow_le_pow_right (by omega) hn
    omega
  simp only [e1, bindP_some, p_faddr, p_nilck, bindO_some, q1 0 (by omega), q1 2 (by omega), c0, c2, asI_i, forceI_eq, hw1, hw2, q3, hn0, chk_true, shl_one hn, hsub, q2 0 (by omega), q2 1 (by omega), q2 2 (by omega), q2 3 (by omega), c1, c3,
    p_ixA rfl hi, p_ixA rfl hj, p_ixA rfl hk, p_ixA rfl ha, p_ixA rfl hc, q4, q5, bit_or m1' m2', bit_andNot h256 (or_lt m1' m2'), tupA]
  exact fin_drop rfl
end Go.Proofs.Ytllmlonngnhbfaa.Bed

/- A sowing; the program's Check. -/
open Go.Vm
set_option linter.unusedVariables false
namespace Go.Proofs.Ytllmlonngnhbfaa.Bed
open Go

def sw (r c k : Nat) : Nat → Nat
  | 0 => r
  | 1 => c
  | _ => k
theorem sw_lt {r c k : Nat} (hr : r < 7) (hc : c < 7) (hk : k < 7) (i : Nat) : sw r c k i < 7 := by
  unfold sw; split <;> assumption

theorem pow_lt {k : Nat} (hk : k ≤ 7) : 2 ^ k < 256 := by
  have : 2 ^ k ≤ 2 ^ 7 := Nat.pow_le_pow_right (by omega) hk
  omega

theorem set_last {hp : Heap} {x : Heap} {b : Nat} (hb : b < hp.length) (v : Option ABlk) : (hp ++ x).set b v = hp.set b v ++ x := List.set_append_left b v hb

theorem sow_ok {ro : List ABlk} {hp : Heap} {b n : Nat} {crop : Nat → Nat → Int} {met : Nat → Nat → Nat → Nat} (hg : IsGr hp b n crop met) {r c k : Nat} (hr : r < 7) (hc : c < 7) (hk : k < 7) :
    ∃ blk', callX F1 ro 54 [.p (some ⟨false, b, 0⟩), .agg [.i .i64 r, .i .i64 c, .i .i64 k]] hp = some (.tup [], hp.set b (some blk'), b, hp.length) ∧ blk'.n = 113 ∧
      Gr blk'.c n (fun r' c' => if r' = r ∧ c' = c then (k : Int) else crop r' c') (fun i j a => if a = sw r c k i then met i j a ||| 2 ^ sw r c k j else met i j a) := by
  obtain ⟨blk, hb, hbn, hg⟩ := hg
  have hlt := lget_lt hb
  obtain ⟨bx, hbx⟩ : ∃ bx, bx = blkOf 62 [.i .i64 (r : Int), .i .i64 (c : Int), .i .i64 (k : Int)] := ⟨_, rfl⟩
  have e1 : stepM ro ⟨hp, hp.length, hp.length⟩ (.bx 62 3 (.c (.agg [.i .i64 r, .i .i64 c, .i .i64 k]))) = some (.p (some ⟨false, hp.length, 0⟩), ⟨hp ++ [some bx], hp.length, hp.length⟩) := by rw [hbx]; rfl
  have n3 : bx.n = 3 := by rw [hbx]; rfl
  have cx : ∀ i, i < 3 → bx.c.get (0 + i * 1) = .i .i64 (sw r c k i : Nat) := fun i hi => by
    rw [hbx, get_blk]
    match i, hi with
    | 0, _ => rfl
    | 1, _ => rfl
    | 2, _ => rfl
  have lx : ∀ y, lget ((hp ++ [some bx]).set b y) hp.length = some (some bx) := fun y => by
    rw [lget_eq, List.getElem?_set_ne (by omega)]; simp
  have hsw := sw_lt hr hc hk
  have wri : ∀ k : Nat, k < 7 → wr .i64 ((k : Int) + 1) = ((k + 1 : Nat) : Int) := fun k hk => by rw [wr_id' (by omega) (by omega)]; omega
  -- the inner loop
  have inner : ∀ (i : Nat) (blk : ABlk) (crop : Nat → Nat → Int) (met : Nat → Nat → Nat → Nat), i < 3 → blk.n = 113 → Gr blk.c n crop met →
      ∃ blk', loopX (fun s => g54_b1 (meansX F1 ro) ro (.p (some ⟨false, b, 0⟩)) (.p (some ⟨false, hp.length, 0⟩)) i s.1 s.2) (0, ⟨(hp ++ [some bx]).set b (some blk), b, hp.length⟩) = some ⟨(hp ++ [some bx]).set b (some blk'), b, hp.length⟩ ∧
        blk'.n = 113 ∧ Gr blk'.c n crop (fun i' j a => if i' = i ∧ a = sw r c k i then met i' j a ||| 2 ^ sw r c k j else met i' j a) := by
    intro i blk crop met hi hbn hg
    refine loopX_elim (b := fun s => g54_b1 (meansX F1 ro) ro (.p (some ⟨false, b, 0⟩)) (.p (some ⟨false, hp.length, 0⟩)) i s.1 s.2)
      (fun s => ∃ (j : Nat) (blk : ABlk), s.1 = (j : Int) ∧ j ≤ 3 ∧ s.2 = ⟨(hp ++ [some bx]).set b (some blk), b, hp.length⟩ ∧ blk.n = 113 ∧ Gr blk.c n crop (fun i' j' a => if i' = i ∧ a = sw r c k i ∧ j' < j then met i' j' a ||| 2 ^ sw r c k j' else met i' j' a))
      (fun m => ∃ blk, m = ⟨(hp ++ [some bx]).set b (some blk), b, hp.length⟩ ∧ blk.n = 113 ∧ Gr blk.c n crop (fun i' j' a => if i' = i ∧ a = sw r c k i then met i' j' a ||| 2 ^ sw r c k j' else met i' j' a))
      (fun s => 3 - s.1.toNat) (0, ⟨(hp ++ [some bx]).set b (some blk), b, hp.length⟩) ⟨0, blk, rfl, by omega, rfl, hbn, hg.congr (fun _ _ _ _ => rfl) (fun i' j' a _ _ _ => by simp)⟩ ?_ ?_
    · rintro ⟨x, m⟩ ⟨j, blk, hx, hj, hm, hbn, hg⟩
      simp only at hx hm
      subst hx hm
      by_cases hlt3 : j < 3
      · left
        have e : decide ((j : Int) < 3) = true := by simp; omega
        have lb : lget ((hp ++ [some bx]).set b (some blk)) b = some (some blk) := by rw [lget_eq]; exact List.getElem?_set_self (by rw [List.length_append]; omega)
        have qi : ∀ i, i < 3 → ldA ro ((hp ++ [some bx]).set b (some blk)) true 1 (.p (some ⟨false, hp.length, 0 + i * 1⟩)) = some (.i .i64 (sw r c k i : Nat)) := fun i hi => by rw [lda_heap (lx _) (by omega), cx i hi]
        have ha := hsw i
        obtain ⟨m1, m1'⟩ := hg.mets i j (sw r c k i) hi hlt3 ha
        have qm : ldA ro ((hp ++ [some bx]).set b (some blk)) true 1 (.p (some ⟨false, b, 0 + 50 + i * 21 + j * 7 + sw r c k i * 1⟩)) = some (.i .u8 (met i j (sw r c k i))) := by
          rw [lda_heap lb (by omega), Nat.zero_add, m1, if_neg (by omega)]
        rw [if_neg (by omega)] at m1'
        have hs0 : (!ltI (sw r c k j : Int) (.ofNat 0)) = true := by rw [ltI_eq]; simp
        have hor := bit_or m1' (pow_lt (Nat.le_of_lt (hsw j)))
        have hw := wr_heap (ro := ro) (l := b) (p := hp.length) lb (by omega : 0 + 50 + i * 21 + j * 7 + sw r c k i * 1 < blk.n) (v := .i .u8 ((met i j (sw r c k i) ||| 2 ^ sw r c k j : Nat) : Int)) rfl rfl
        rw [Nat.min_self, List.set_set] at hw
        refine ⟨(((j + 1 : Nat) : Int), ⟨(hp ++ [some bx]).set b (some { blk with c := blk.c.set (0 + 50 + i * 21 + j * 7 + sw r c k i * 1) (.i .u8 ((met i j (sw r c k i) ||| 2 ^ sw r c k j : Nat) : Int)) }), b, hp.length⟩), ?_,
          ⟨j + 1, { blk with c := blk.c.set (0 + 50 + i * 21 + j * 7 + sw r c k i * 1) (.i .u8 ((met i j (sw r c k i) ||| 2 ^ sw r c k j : Nat) : Int)) }, rfl, by omega, rfl, hbn, ?_⟩, by first | omega | (simp only; omega)⟩
        · simp only [g54_b1, forceB_eq, ltI_eq, e, cond_true, p_ixA rfl hi, p_ixA rfl hlt3, bindO_some, qi i hi, qi j hlt3, asI_i, p_nilck, p_faddr, p_ixA rfl ha, qm, shl_one (Nat.le_of_lt (hsw j)), forceI_eq, hor, asP_p, AVal.cells, hw, wri j (by omega)]
          have hs0' : (!decide ((sw r c k j : Int) < Int.ofNat 0)) = true := by rw [← ltI_eq]; exact hs0
          rw [hs0']
          rfl
        · have h2 := (hg.setMet (i := i) (j := j) (a := sw r c k i) hi hlt3 ha (v := met i j (sw r c k i) ||| 2 ^ sw r c k j) (or_lt m1' (pow_lt (Nat.le_of_lt (hsw j)))))
          rw [Nat.zero_add]
          refine h2.congr (fun _ _ _ _ => rfl) (fun i' j' a' _ _ _ => ?_)
          by_cases c1 : i' = i ∧ j' = j ∧ a' = sw r c k i
          · obtain ⟨rfl, rfl, rfl⟩ := c1
            rw [if_pos ⟨rfl, rfl, rfl⟩, if_pos ⟨rfl, rfl, by omega⟩]
          · rw [if_neg c1]
            by_cases c2 : i' = i ∧ a' = sw r c k i ∧ j' < j
            · rw [if_pos c2, if_pos ⟨c2.1, c2.2.1, by omega⟩]
            · rw [if_neg c2, if_neg (fun c3 => by
                by_cases c4 : j' = j
                · exact c1 ⟨c3.1, c4, c3.2.1⟩
                · exact c2 ⟨c3.1, c3.2.1, by omega⟩)]
      · right
        have : j = 3 := by omega
        subst this
        refine ⟨_, ?_, blk, rfl, hbn, hg.congr (fun _ _ _ _ => rfl) (fun i' j' a' _ hj' _ => ?_)⟩
        · simp only [g54_b1, forceB_eq, ltI_eq]
          simp
        · by_cases c2 : i' = i ∧ a' = sw r c k i
          · rw [if_pos ⟨c2.1, c2.2, hj'⟩, if_pos c2]
          · rw [if_neg (fun c3 => c2 ⟨c3.1, c3.2.1⟩), if_neg c2]
    · rintro m hl ⟨blk', rfl, h1, h2⟩
      exact ⟨blk', hl, h1, h2⟩
  -- the first store
  have lb0 : lget (hp ++ [some bx]) b = some (some blk) := lget_ext hb _
  obtain ⟨blk1, hblk1⟩ : ∃ blk1 : ABlk, blk1 = { blk with c := blk.c.set (1 + r * 7 + c * 1) (.i .i64 (k : Int)) } := ⟨_, rfl⟩
  have hw0 := wr_heap (ro := ro) (l := hp.length) (p := hp.length) lb0 (by omega : 0 + 1 + r * 7 + c * 1 < blk.n) (v := .i .i64 (k : Int)) rfl rfl
  rw [Nat.min_eq_right (Nat.le_of_lt hlt), Nat.zero_add, ← hblk1] at hw0
  have q0 : ∀ i, i < 3 → ldA ro (hp ++ [some bx]) true 1 (.p (some ⟨false, hp.length, 0 + i * 1⟩)) = some (.i .i64 (sw r c k i : Nat)) := fun i hi => by rw [lda_heap (lget_last _ _) (by omega), cx i hi]
  have hg1 : Gr blk1.c n (fun r' c' => if r' = r ∧ c' = c then (k : Int) else crop r' c') met := by rw [hblk1]; exact hg.setCrop hr hc k
  have hn1 : blk1.n = 113 := by rw [hblk1]; exact hbn
  refine loopX_elim (b := fun s => g54_b0 (meansX F1 ro) ro (.p (some ⟨false, b, 0⟩)) (.p (some ⟨false, hp.length, 0⟩)) s.1 s.2)
    (fun s => ∃ (i : Nat) (blk : ABlk), s.1 = (i : Int) ∧ i ≤ 3 ∧ s.2 = ⟨(hp ++ [some bx]).set b (some blk), b, hp.length⟩ ∧ blk.n = 113 ∧ Gr blk.c n (fun r' c' => if r' = r ∧ c' = c then (k : Int) else crop r' c') (fun i' j' a => if a = sw r c k i' ∧ i' < i then met i' j' a ||| 2 ^ sw r c k j' else met i' j' a))
    (fun m => ∃ blk, m = ⟨(hp ++ [some bx]).set b (some blk), b, hp.length⟩ ∧ blk.n = 113 ∧ Gr blk.c n (fun r' c' => if r' = r ∧ c' = c then (k : Int) else crop r' c') (fun i' j' a => if a = sw r c k i' then met i' j' a ||| 2 ^ sw r c k j' else met i' j' a))
    (fun s => 3 - s.1.toNat) (0, ⟨(hp ++ [some bx]).set b (some blk1), b, hp.length⟩) ⟨0, blk1, rfl, by omega, rfl, hn1, hg1.congr (fun _ _ _ _ => rfl) (fun i' j' a _ _ _ => by simp)⟩ ?_ ?_
  · rintro ⟨x, m⟩ ⟨i, blk, hx, hi, hm, hbn, hg⟩
    simp only at hx hm
    subst hx hm
    by_cases hlt3 : i < 3
    · left
      have e : decide ((i : Int) < 3) = true := by simp; omega
      obtain ⟨blk', i1, i2, i3⟩ := inner i blk _ _ hlt3 hbn hg
      refine ⟨(((i + 1 : Nat) : Int), ⟨(hp ++ [some bx]).set b (some blk'), b, hp.length⟩), ?_, ⟨i + 1, blk', rfl, by omega, rfl, i2, i3.congr (fun _ _ _ _ => rfl) (fun i' j' a _ _ _ => ?_)⟩, by first | omega | (simp only; omega)⟩
      · simp only [g54_b0, forceB_eq, ltI_eq, e, cond_true, meansX_loop, i1, bindO_some, forceI_eq, wri i (by omega)]
      · by_cases c1 : i' = i ∧ a = sw r c k i
        · obtain ⟨rfl, rfl⟩ := c1
          rw [if_pos ⟨rfl, rfl⟩, if_neg (by omega), if_pos ⟨rfl, by omega⟩]
        · rw [if_neg c1]
          by_cases c2 : a = sw r c k i' ∧ i' < i
          · rw [if_pos c2, if_pos ⟨c2.1, by omega⟩]
          · rw [if_neg c2, if_neg (fun c3 => by
              by_cases c4 : i' = i
              · subst c4; exact c1 ⟨rfl, c3.1⟩
              · exact c2 ⟨c3.1, by omega⟩)]
    · right
      have : i = 3 := by omega
      subst this
      refine ⟨_, ?_, blk, rfl, hbn, hg.congr (fun _ _ _ _ => rfl) (fun i' j' a' hi' _ _ => ?_)⟩
      · simp only [g54_b0, forceB_eq, ltI_eq]
        simp
      · by_cases c2 : a' = sw r c k i'
        · rw [if_pos ⟨c2, hi'⟩, if_pos c2]
        · rw [if_neg (fun c3 => c2 c3.1), if_neg c2]
  · rintro m hl ⟨blk', rfl, h1, h2⟩
    refine ⟨blk', g54_ok (meansX_ok F1 ro) rfl ?_, h1, h2⟩
    unfold g54
    have i0 : (0 : Int) = ((0 : Nat) : Int) := rfl
    have i1 : (1 : Int) = ((1 : Nat) : Int) := rfl
    have i2 : (2 : Int) = ((2 : Nat) : Int) := rfl
    have w0 : sw r c k 0 = r := rfl
    have w1 : sw r c k 1 = c := rfl
    have w2 : sw r c k 2 = k := rfl
    simp only [e1, bindP_some, p_ixA i0 (by omega : 0 < 3), p_ixA i1 (by omega : 1 < 3), p_ixA i2 (by omega : 2 < 3), bindO_some, q0 0 (by omega), q0 1 (by omega), q0 2 (by omega), w0, w1, w2, asI_i, p_nilck, p_faddr, p_ixA rfl hr, p_ixA rfl hc, asP_p, AVal.cells,
      Nat.zero_add, hw0, meansX_loop, hl, tupA]
    rw [set_last hlt]
    have hble : Nat.ble hp.length hp.length = true := by rw [Nat.ble_eq]; exact Nat.le_refl _
    simp [finM, gc, hble, AVal.bel, bels]
end Go.Proofs.Ytllmlonngnhbfaa.Bed

/- The program's Check. -/
open Go.Vm
set_option linter.unusedVariables false
namespace Go.Proofs.Ytllmlonngnhbfaa.Bed
open Go

theorem firstS_at {R : Type} {step : Nat → Option R} {r : R} : ∀ {k i j : Nat}, i ≤ j → j < i + k → (∀ j', i ≤ j' → j' < j → step j' = none) → step j = some r → firstS step k i = some r
  | 0, i, j, h1, h2, _, _ => by omega
  | k + 1, i, j, h1, h2, h3, h4 => by
    unfold firstS
    by_cases e : i = j
    · subst e; rw [h4]
    · rw [h3 i (Nat.le_refl _) (by omega)]
      exact firstS_at (by omega) (by omega) (fun j' h5 h6 => h3 j' (by omega) h6) h4

open Classical in
theorem dup1_none {R : Type} {x : List (List Int)} {f : Nat → Nat → R} (h : ∀ r c, r < x.length → c < x.length → ¬ dupP x r c) : dup1 x f = none :=
  firstS_none.2 fun r _ hr => firstS_none.2 fun c _ hc => by rw [if_neg (h r c (by omega) (by omega))]
open Classical in
theorem dup1_some {R : Type} {x : List (List Int)} {f : Nat → Nat → R} {r c : Nat} (hr : r < x.length) (hc : c < x.length) (h : ∀ r' c', c' < x.length → (r' < r ∨ (r' = r ∧ c' < c)) → ¬ dupP x r' c') (hd : dupP x r c) : dup1 x f = some (f r c) := by
  refine firstS_at (j := r) (by omega) (by omega) (fun r' _ hr' => firstS_none.2 fun c' _ hc' => by rw [if_neg (h r' c' (by omega) (.inl hr'))]) ?_
  exact firstS_at (j := c) (by omega) (by omega) (fun c' _ hc' => by rw [if_neg (h r c' (by omega) (.inr ⟨rfl, hc'⟩))]) (by rw [if_pos hd])

theorem shr_and {X q : Nat} (hX : X < 256) (hq : q ≤ 7) : eqI (bitV .and .u8 (shrV .u8 X q) 1) 0 = !X.testBit q := by
  have h1 : shrV .u8 (X : Int) (q : Int) = ((X / 2 ^ q : Nat) : Int) := by
    unfold shrV
    have : min ((q : Int).toNat) (IntKind.u8.bits) = q := by
      show min q 8 = q
      omega
    rw [this]
    show Int.fdiv (X : Int) (((2 ^ q : Nat)) : Int) = _
    rw [Int.fdiv_eq_ediv_of_nonneg _ (Int.natCast_nonneg _)]
    norm_cast
  have h2 : X / 2 ^ q < 256 := Nat.lt_of_le_of_lt (Nat.div_le_self _ _) hX
  rw [h1, show (1 : Int) = ((1 : Nat) : Int) from rfl, bit_and h2 (by omega), eqI_eq]
  have h3 : X.testBit q = (X / 2 ^ q &&& 1 != 0) := by
    unfold Nat.testBit
    rw [Nat.shiftRight_eq_div_pow, Nat.and_comm]
  rw [h3]
  cases h : X / 2 ^ q &&& 1 with
  | zero => simp
  | succ n => simp; omega

/-- what is met so far: the places ahead of (r, k) -/
structure MetInv (x : List (List Int)) (r k : Nat) (met : Nat → Nat → Nat → Nat) : Prop where
  row : ∀ a q, a < 7 → ((met 0 2 a).testBit q = true ↔ ∃ c, c < x.length ∧ (a < r ∨ (a = r ∧ c < k)) ∧ a < x.length ∧ at2 x a c = q)
  col : ∀ a q, a < 7 → ((met 1 2 a).testBit q = true ↔ ∃ i, i < x.length ∧ (i < r ∨ (i = r ∧ a < k)) ∧ a < x.length ∧ at2 x i a = q)

theorem MetInv.skip {x : List (List Int)} {r k : Nat} {met : Nat → Nat → Nat → Nat} (h : MetInv x r k met) (hv : at2 x r k < 0) : MetInv x r (k + 1) met := by
  refine ⟨fun a q ha => (h.row a q ha).trans ⟨?_, ?_⟩, fun a q ha => (h.col a q ha).trans ⟨?_, ?_⟩⟩
  · rintro ⟨c, h1, h2, h3, h4⟩
    exact ⟨c, h1, by omega, h3, h4⟩
  · rintro ⟨c, h1, h2, h3, h4⟩
    refine ⟨c, h1, ?_, h3, h4⟩
    by_cases e : a = r ∧ c = k
    · obtain ⟨rfl, rfl⟩ := e; omega
    · omega
  · rintro ⟨i, h1, h2, h3, h4⟩
    exact ⟨i, h1, by omega, h3, h4⟩
  · rintro ⟨i, h1, h2, h3, h4⟩
    refine ⟨i, h1, ?_, h3, h4⟩
    by_cases e : i = r ∧ a = k
    · obtain ⟨rfl, rfl⟩ := e; omega
    · omega
theorem MetInv.sow {x : List (List Int)} {r k : Nat} {met : Nat → Nat → Nat → Nat} (h : MetInv x r k met) (hr : r < x.length) (hk : k < x.length) {v : Nat} (hv : at2 x r k = v) :
    MetInv x r (k + 1) (fun i j a => if a = sw r k v i then met i j a ||| 2 ^ sw r k v j else met i j a) := by
  refine ⟨fun a q ha => ?_, fun a q ha => ?_⟩
  · show (if a = r then met 0 2 a ||| 2 ^ v else met 0 2 a).testBit q = true ↔ _
    by_cases e : a = r
    · subst e
      rw [if_pos rfl, Nat.testBit_or, Nat.testBit_two_pow, Bool.or_eq_true, h.row a q ha, decide_eq_true_eq]
      constructor
      · rintro (⟨c, h1, h2, h3, h4⟩ | rfl)
        · exact ⟨c, h1, by omega, h3, h4⟩
        · exact ⟨k, hk, by omega, hr, hv⟩
      · rintro ⟨c, h1, h2, h3, h4⟩
        by_cases e2 : c = k
        · subst e2; right; omega
        · exact .inl ⟨c, h1, by omega, h3, h4⟩
    · rw [if_neg e, h.row a q ha]
      constructor
      · rintro ⟨c, h1, h2, h3, h4⟩
        exact ⟨c, h1, by omega, h3, h4⟩
      · rintro ⟨c, h1, h2, h3, h4⟩
        exact ⟨c, h1, by omega, h3, h4⟩
  · show (if a = k then met 1 2 a ||| 2 ^ v else met 1 2 a).testBit q = true ↔ _
    by_cases e : a = k
    · subst e
      rw [if_pos rfl, Nat.testBit_or, Nat.testBit_two_pow, Bool.or_eq_true, h.col a q ha, decide_eq_true_eq]
      constructor
      · rintro (⟨i, h1, h2, h3, h4⟩ | rfl)
        · exact ⟨i, h1, by omega, h3, h4⟩
        · exact ⟨r, hr, by omega, hk, hv⟩
      · rintro ⟨i, h1, h2, h3, h4⟩
        by_cases e2 : i = r
        · subst e2; right; omega
        · exact .inl ⟨i, h1, by omega, h3, h4⟩
    · rw [if_neg e, h.col a q ha]
      constructor
      · rintro ⟨i, h1, h2, h3, h4⟩
        exact ⟨i, h1, by omega, h3, h4⟩
      · rintro ⟨i, h1, h2, h3, h4⟩
        exact ⟨i, h1, by omega, h3, h4⟩
theorem MetInv.next {x : List (List Int)} {r : Nat} {met : Nat → Nat → Nat → Nat} (h : MetInv x r x.length met) : MetInv x (r + 1) 0 met := by
  refine ⟨fun a q ha => (h.row a q ha).trans ⟨?_, ?_⟩, fun a q ha => (h.col a q ha).trans ⟨?_, ?_⟩⟩ <;>
  · rintro ⟨c, h1, h2, h3, h4⟩
    exact ⟨c, h1, by omega, h3, h4⟩
theorem MetInv.dup {x : List (List Int)} {r k n : Nat} {met : Nat → Nat → Nat → Nat} (h : MetInv x r k met) (hr : r < x.length) (hk : k < x.length) (h7 : x.length ≤ 7) {v : Nat} (hv : at2 x r k = v) (hvn : v < n) :
    (optsV n (met 0 2 r ||| met 1 2 k)).testBit v = false ↔ dupP x r k := by
  rw [optsV_bit, Nat.testBit_or]
  have h1 := h.row r v (by omega)
  have h2 := h.col k v (by omega)
  simp only [hvn, decide_true, Bool.true_and, Bool.not_eq_false', Bool.or_eq_true, h1, h2]
  unfold dupP
  rw [hv]
  constructor
  · rintro (⟨c, a1, a2, a3, a4⟩ | ⟨i, a1, a2, a3, a4⟩)
    · have hck : c < k := by omega
      exact ⟨Int.natCast_nonneg _, .inl ⟨c, hck, a4⟩⟩
    · have hir : i < r := by omega
      exact ⟨Int.natCast_nonneg _, .inr ⟨i, hir, a4⟩⟩
  · rintro ⟨-, ⟨c, a1, a2⟩ | ⟨i, a1, a2⟩⟩
    · exact .inl ⟨c, by omega, .inr ⟨trivial, a1⟩, hr, a2⟩
    · exact .inr ⟨i, by omega, .inl a1, hk, a2⟩

/-- the state of the walk -/
def St7 (h : Heap) (x : List (List Int)) (r k : Nat) (m : Mm) : Prop := ∃ blk crop met, m = ⟨h ++ [some blk], h.length, h.length⟩ ∧ blk.n = 113 ∧ Gr blk.c x.length crop met ∧ MetInv x r k met ∧ ∀ r' c', c' < x.length → (r' < r ∨ (r' = r ∧ c' < k)) → ¬ dupP x r' c'

theorem check_inner {ro : List ABlk} {h : Heap} {a u : AVal} {x : List (List Int)} (hs : shapedP x) {r : Nat} (hr : r < x.length) (hu : IsRow ro h u (x.getD r [])) {m : Mm} (hm : St7 h x r 0 m) :
    ∃ o, loopX (fun s => g19_b1 (meansX F1 ro) ro (.p (some ⟨false, h.length, 0⟩)) r a x.length u x.length s.1 s.2) (0, m) = some o ∧
      ((∃ m', o = .inl m' ∧ St7 h x (r + 1) 0 m') ∨ (∃ (c : Nat) (blk : ABlk), o = .inr ((r : Int), (c : Int), 0, ⟨h ++ [some blk], h.length, h.length⟩) ∧ c < x.length ∧ dupP x r c ∧ ∀ r' c', c' < x.length → (r' < r ∨ (r' = r ∧ c' < c)) → ¬ dupP x r' c')) := by
  have h7 := hs.2.1
  have wri : ∀ k : Nat, k < 7 → wr .i64 ((k : Int) + 1) = ((k + 1 : Nat) : Int) := fun k hk => by rw [wr_id' (by omega) (by omega)]; omega
  refine loopX_rule (b := fun s => g19_b1 (meansX F1 ro) ro (.p (some ⟨false, h.length, 0⟩)) r a x.length u x.length s.1 s.2)
    (fun s => ∃ k : Nat, s.1 = (k : Int) ∧ k ≤ x.length ∧ St7 h x r k s.2) _ (fun s => x.length - s.1.toNat) ?_ (0, m) ⟨0, rfl, by omega, hm⟩
  rintro ⟨y, m⟩ ⟨k, hy, hk, blk, crop, met, hm, hbn, hg, hM, hno⟩
  simp only at hy hm
  subst hy hm
  by_cases hlt : k < x.length
  · have e : decide ((k : Int) < (x.length : Int)) = true := by simp; omega
    obtain ⟨hrl, hrc⟩ := hs.2.2 r hr
    obtain ⟨v1, v2⟩ := hrc k hlt
    have hat : (x.getD r []).getD k 0 = at2 x r k := rfl
    rw [hat] at v1 v2
    obtain ⟨p, l1, l2, l3⟩ := at_row (m := ⟨h ++ [some blk], h.length, h.length⟩) rfl (hu.ext [some blk]) (by omega : k < (x.getD r []).length)
    rw [hat] at l2
    by_cases hv : at2 x r k = -1
    · left
      refine ⟨(((k + 1 : Nat) : Int), ⟨h ++ [some blk], h.length, h.length⟩), ?_, ⟨k + 1, rfl, by omega, blk, crop, met, rfl, hbn, hg, hM.skip (by omega), fun r' c' hc' hh => ?_⟩, by first | omega | (simp only; omega)⟩
      · have e2 : (at2 x r k == -1) = true := by simp [hv]
        simp only [g19_b1, forceB_eq, ltI_eq, e, cond_true, l1, l2, bindO_some, asI_i, eqI_eq, e2, forceI_eq, wri k (by omega)]
      · by_cases e2 : r' = r ∧ c' = k
        · obtain ⟨rfl, rfl⟩ := e2
          exact fun hd => by have := hd.1; omega
        · exact hno r' c' hc' (by omega)
    · obtain ⟨v, hvv⟩ : ∃ v : Nat, at2 x r k = (v : Int) := ⟨(at2 x r k).toNat, by omega⟩
      have hvn : v < x.length := by omega
      have e2 : (at2 x r k == -1) = false := by simp only [beq_eq_false_iff_ne, ne_eq]; exact hv
      have hG : IsGr (h ++ [some blk]) h.length x.length crop met := ⟨blk, lget_last _ _, hbn, hg⟩
      have ho := options_ok (ro := ro) hG h7 (i := 0) (a := r) (j := 1) (c := k) (by omega) (by omega) (by omega) (by omega) (by omega) (by omega)
      have hcall := callM_pure (l := h.length) (p := h.length) ho (by simp) (by simp)
      have hneg : (!ltI ((v : Nat) : Int) (.ofNat 0)) = true := by rw [ltI_eq]; simp
      have hfill : (fillA [(AVal.i IntKind.i64 0), (AVal.i IntKind.i64 0), (AVal.i IntKind.i64 0), (AVal.i IntKind.i64 0)] [((0, 1), (.i .i64 0)), ((1, 1), (.i .i64 (r : Int))), ((2, 1), (.i .i64 1)), ((3, 1), (.i .i64 (k : Int)))]).map AVal.agg =
          some (.agg [.i .i64 ((0 : Nat) : Int), .i .i64 (r : Int), .i .i64 ((1 : Nat) : Int), .i .i64 (k : Int)]) := rfl
      have hsh := shr_and (optsV_lt (n := x.length) (m := met 0 (3 - 0 - 1) r ||| met 1 (3 - 0 - 1) k) h7) (by omega : v ≤ 7)
      have hd := hM.dup hr hlt h7 hvv hvn
      cases hb : (optsV x.length (met 0 2 r ||| met 1 2 k)).testBit v with
      | false =>
        right
        refine ⟨.inr ((r : Int), (k : Int), 0, ⟨h ++ [some blk], h.length, h.length⟩), ?_, .inr ⟨k, blk, rfl, hlt, hd.1 hb, hno⟩⟩
        have hb' : (optsV x.length (met 0 (3 - 0 - 1) r ||| met 1 (3 - 0 - 1) k)).testBit v = false := hb
        rw [hb'] at hsh
        simp only [g19_b1, forceB_eq, ltI_eq, e, cond_true, l1, l2, bindO_some, asI_i, eqI_eq, e2, cond_false, hfill, meansX_call, hcall, bindP_some]
        rw [hvv]
        rw [← ltI_eq, hneg, chk_true]
        simp only [forceI_eq]
        rw [← eqI_eq, hsh]
        rfl
      | true =>
        left
        have hb' : (optsV x.length (met 0 (3 - 0 - 1) r ||| met 1 (3 - 0 - 1) k)).testBit v = true := hb
        rw [hb'] at hsh
        obtain ⟨blk', hsow, hn', hg'⟩ := sow_ok (ro := ro) hG (r := r) (c := k) (k := v) (by omega) (by omega) (by omega)
        have hset : (h ++ [some blk]).set h.length (some blk') = h ++ [some blk'] := by simp
        rw [hset] at hsow
        have hcall2 := callM_eq (m := ⟨h ++ [some blk], h.length, h.length⟩) hsow
        have hl1 : min h.length (h ++ [some blk]).length = h.length := by simp
        simp only [Nat.min_self, hl1] at hcall2
        refine ⟨(((k + 1 : Nat) : Int), ⟨h ++ [some blk'], h.length, h.length⟩), ?_, ⟨k + 1, rfl, by omega, blk', _, _, rfl, hn', hg', hM.sow hr hlt hvv, fun r' c' hc' hh => ?_⟩, by first | omega | (simp only; omega)⟩
        · have hfill2 : (fillA [(AVal.i IntKind.i64 0), (AVal.i IntKind.i64 0), (AVal.i IntKind.i64 0)] [((0, 1), (.i .i64 (r : Int))), ((1, 1), (.i .i64 (k : Int))), ((2, 1), (.i .i64 (v : Int)))]).map AVal.agg = some (.agg [.i .i64 (r : Int), .i .i64 (k : Int), .i .i64 (v : Int)]) := rfl
          simp only [g19_b1, forceB_eq, ltI_eq, e, cond_true, l1, l2, bindO_some, asI_i, eqI_eq, e2, cond_false, hfill, meansX_call, hcall, bindP_some]
          rw [hvv]
          rw [← ltI_eq, hneg, chk_true]
          simp only [forceI_eq]
          rw [← eqI_eq, hsh]
          simp only [Bool.not_true, cond_false, hfill2, bindO_some, hcall2, bindP_some, wri k (by omega)]
        · by_cases e3 : r' = r ∧ c' = k
          · obtain ⟨rfl, rfl⟩ := e3
            intro hdd
            have := hd.2 hdd
            rw [hb] at this; cases this
          · exact hno r' c' hc' (by omega)
  · right
    have : k = x.length := by omega
    subst this
    refine ⟨.inl ⟨h ++ [some blk], h.length, h.length⟩, ?_, .inl ⟨_, rfl, blk, crop, met, rfl, hbn, hg, hM.next, fun r' c' hc' hh => hno r' c' hc' (by omega)⟩⟩
    simp only [g19_b1, forceB_eq, ltI_eq]
    simp

theorem check_ok {ro : List ABlk} {h : Heap} {a : AVal} {x : List (List Int)} (ha : IsMat ro h a x) : ∃ lw, callX F1 ro 19 [a] h = some (checkV x, h, lw, h.length) ∧ lw ≤ h.length ∧ h.length ≤ lw := by
  have h7n : shapedP x → x.length ≤ 7 := fun hs => hs.2.1
  unfold checkV
  by_cases hs : shapedP x
  · rw [if_pos hs]
    have h7 := hs.2.1
    obtain ⟨blk, hnew, hbn, hg⟩ := newGround_ok (ro := ro) (h := h) h7
    have hcall1 := callM_pure (call := callX F1 ro) (l := h.length) (p := h.length) (shaped_ok ha) (Nat.le_refl _) (Nat.le_refl _)
    have hcall2 := callM_eq (call := callX F1 ro) (m := ⟨h, h.length, h.length⟩) hnew
    simp only [Nat.min_self] at hcall2
    have wri : ∀ k : Nat, k < 7 → wr .i64 ((k : Int) + 1) = ((k + 1 : Nat) : Int) := fun k hk => by rw [wr_id' (by omega) (by omega)]; omega
    have hst0 : St7 h x 0 0 ⟨h ++ [some blk], h.length, h.length⟩ := ⟨blk, _, _, rfl, hbn, hg, ⟨fun a q _ => by simp, fun a q _ => by simp⟩, fun r' c' _ hh => by omega⟩
    refine loopX_elim (b := fun s => g19_b0 (meansX F1 ro) ro (.p (some ⟨false, h.length, 0⟩)) a x.length s.1 s.2)
      (fun s => ∃ r : Nat, s.1 = (r : Int) ∧ r ≤ x.length ∧ St7 h x r 0 s.2)
      (fun o => (∃ blk, o = .inl ⟨h ++ [some blk], h.length, h.length⟩ ∧ ∀ r c, r < x.length → c < x.length → ¬ dupP x r c) ∨ (∃ (r c : Nat) (blk : ABlk), o = .inr ((r : Int), (c : Int), 0, ⟨h ++ [some blk], h.length, h.length⟩) ∧ r < x.length ∧ c < x.length ∧ dupP x r c ∧ ∀ r' c', c' < x.length → (r' < r ∨ (r' = r ∧ c' < c)) → ¬ dupP x r' c'))
      (fun s => x.length - s.1.toNat) (0, ⟨h ++ [some blk], h.length, h.length⟩) ⟨0, rfl, by omega, hst0⟩ ?_ ?_
    · rintro ⟨y, m⟩ ⟨r, hy, hr, hst⟩
      simp only at hy hst
      subst hy
      by_cases hlt : r < x.length
      · have e : decide ((r : Int) < (x.length : Int)) = true := by simp; omega
        obtain ⟨blk, crop, met, hm, hbn, hg, hM, hno⟩ := hst
        subst hm
        obtain ⟨p, u, k1, k2, k3, k4⟩ := at_mat (m := ⟨h ++ [some blk], h.length, h.length⟩) rfl (ha.ext [some blk]) hlt
        obtain ⟨p', u', k1', k2', k3', k4'⟩ := at_mat (m := ⟨h, h.length, h.length⟩) rfl ha hlt
        have huu : IsRow ro h u (x.getD r []) := by
          rcases ha with ⟨rfl, rfl⟩ | ⟨q, cap, bk, rfl, hb, hn, hc⟩
          · simp at hlt
          · have h1 := ixS_eq (q := q) (cap := cap) hlt
            rw [h1] at k1
            cases k1
            have h2 := rd_one (h := h ++ [some blk]) (i := r) (rdB_ext _ hb) (by omega)
            simp only [ldM] at k2
            rw [h2] at k2
            cases k2
            exact hc r hlt
        obtain ⟨o, ho, hcase⟩ := check_inner (a := a) hs hlt huu (⟨blk, crop, met, rfl, hbn, hg, hM, hno⟩ : St7 h x r 0 _)
        have hl := (hs.2.2 r hlt).1
        rcases hcase with ⟨m', rfl, hst'⟩ | ⟨c, blk', rfl, hc, hd, hno'⟩
        · left
          refine ⟨(((r + 1 : Nat) : Int), m'), ?_, ⟨r + 1, rfl, by omega, hst'⟩, by first | omega | (simp only; omega)⟩
          simp only [g19_b0, forceB_eq, ltI_eq, e, cond_true, k1, k2, bindO_some, len_row k4, hl, asI_i, meansX_loop, ho, forceI_eq, wri r (by omega)]
        · right
          refine ⟨.inr ((r : Int), (c : Int), 0, ⟨h ++ [some blk'], h.length, h.length⟩), ?_, .inr ⟨r, c, blk', rfl, hlt, hc, hd, hno'⟩⟩
          simp only [g19_b0, forceB_eq, ltI_eq, e, cond_true, k1, k2, bindO_some, len_row k4, hl, asI_i, meansX_loop, ho]
      · right
        have : r = x.length := by omega
        subst this
        obtain ⟨blk, crop, met, hm, hbn, hg, hM, hno⟩ := hst
        subst hm
        refine ⟨.inl ⟨h ++ [some blk], h.length, h.length⟩, ?_, .inl ⟨blk, rfl, fun r c hr hc => hno r c hc (.inl hr)⟩⟩
        simp only [g19_b0, forceB_eq, ltI_eq]
        simp
    · rintro o hl hq
      refine ⟨h.length, g19_ok (meansX_ok F1 ro) rfl ?_, Nat.le_refl _, Nat.le_refl _⟩
      unfold g19
      simp only [meansX_call, hcall1, bindP_some, asB_b, hs, decide_true, forceB_eq, Bool.not_true, cond_false, len_mat ha, bindO_some, asI_i, hcall2, meansX_loop, hl]
      rcases hq with ⟨blk', rfl, hno⟩ | ⟨r, c, blk', rfl, hr, hc, hd, hno⟩
      · rw [dup1_none hno]
        simp only [tupA]
        exact fin_drop rfl
      · rw [dup1_some hr hc hno hd]
        simp only [tupA]
        exact fin_drop rfl
  · rw [if_neg hs]
    refine ⟨h.length, g19_ok (meansX_ok F1 ro) rfl ?_, Nat.le_refl _, Nat.le_refl _⟩
    unfold g19
    simp only [meansX_call, callM_pure (shaped_ok ha) (Nat.le_refl _) (Nat.le_refl _), bindP_some, asB_b, hs, decide_false, forceB_eq, Bool.not_false, cond_true, tupA]
    exact fin_pure rfl
end Go.Proofs.Ytllmlonngnhbfaa.Bed

/- Beds and full beds: the reference's tests, the program's reading into a ground. -/
open Go.Vm
set_option linter.unusedVariables false
namespace Go.Proofs.Ytllmlonngnhbfaa.Bed
open Go

def bedP (x : List (List Int)) : Prop := shapedP x ∧ ∀ r c, r < x.length → c < x.length → ¬ dupP x r c
def fullP (x : List (List Int)) : Prop := bedP x ∧ ∀ r c, r < x.length → c < x.length → 0 ≤ at2 x r c

theorem dup1_iff {R : Type} {x : List (List Int)} {f : Nat → Nat → R} : dup1 x f = none ↔ ∀ r c, r < x.length → c < x.length → ¬ dupP x r c := by
  classical
  constructor
  · intro h r c hr hc hd
    have h1 := firstS_none.1 h r (by omega) (by omega)
    have h2 := firstS_none.1 h1 c (by omega) (by omega)
    rw [if_pos hd] at h2
    cases h2
  · exact dup1_none

/- is a number in a row? -/
open Classical in
theorem contains_ok {ro : List ABlk} {h : Heap} {u : AVal} {z : List Int} {v : Int} (hu : IsRow ro h u z) (hz : z.length ≤ 1000000) : callX F1 ro 90 [u, .i .i64 v] h = some (.b (decide (∃ j, j < z.length ∧ z.getD j 0 = v)), h, h.length, h.length) := by
  have hidx : ∃ i : Int, callX F1 ro 97 [u, .i .i64 v] h = some (.i .i64 i, h, h.length, h.length) ∧ (0 ≤ i ↔ ∃ j, j < z.length ∧ z.getD j 0 = v) := by
    have hloop := loop_first (b := fun s => g97_b0 (meansX F1 ro) ro u v z.length ⟨h, h.length, h.length⟩ s) z.length (fun i => if z.getD i 0 = v then some ((i : Nat) : Int) else none) ?_ ?_ z.length 0 (by omega)
    · have e0 : ((0 : Nat) : Int) = 0 := rfl
      rw [e0] at hloop
      cases hf : firstS (fun i => if z.getD i 0 = v then some ((i : Nat) : Int) else none) z.length 0 with
      | none =>
        rw [hf] at hloop
        refine ⟨-1, g97_ok (meansX_ok F1 ro) rfl ?_, ⟨fun h => by omega, fun ⟨j, h1, h2⟩ => ?_⟩⟩
        · unfold g97
          simp only [len_row hu, bindO_some, asI_i, meansX_loop, hloop, outS, tupA]
          exact fin_pure rfl
        · have := firstS_none.1 hf j (by omega) (by omega)
          rw [if_pos h2] at this; cases this
      | some i =>
        rw [hf] at hloop
        obtain ⟨j, -, h2, h3, -⟩ := firstS_some hf
        by_cases hc : z.getD j 0 = v
        · rw [if_pos hc] at h3
          cases h3
          refine ⟨(j : Int), g97_ok (meansX_ok F1 ro) rfl ?_, ⟨fun _ => ⟨j, by omega, hc⟩, fun _ => by omega⟩⟩
          unfold g97
          simp only [len_row hu, bindO_some, asI_i, meansX_loop, hloop, outS, tupA]
          exact fin_pure rfl
        · rw [if_neg hc] at h3; cases h3
    · simp only [g97_b0, forceB_eq, ltI_eq]
      simp
    · intro i hi
      obtain ⟨p, l1, l2, l3⟩ := at_row (m := ⟨h, h.length, h.length⟩) rfl hu hi
      have e : decide ((i : Int) < (z.length : Int)) = true := by simp; omega
      simp only [g97_b0, bindO_some, asI_i, forceB_eq, ltI_eq, e, cond_true, l1, l2, eqI_eq]
      by_cases hc : z.getD i 0 = v
      · rw [if_pos hc, hc]
        simp only [beq_self_eq_true, cond_true]
      · have e2 : (v == z.getD i 0) = false := by simp only [beq_eq_false_iff_ne, ne_eq]; exact fun hh => hc hh.symm
        rw [if_neg hc]
        simp only [e2, cond_false, forceI_eq]
        rw [wr_id' (by omega) (by omega)]
  obtain ⟨i, h1, h2⟩ := hidx
  refine g90_ok (meansX_ok F1 ro) rfl ?_
  unfold g90
  simp only [meansX_call, callM_pure h1 (Nat.le_refl _) (Nat.le_refl _), bindP_some, asI_i, forceB_eq, ltI_eq, tupA]
  by_cases hc : ∃ j, j < z.length ∧ z.getD j 0 = v
  · have : ¬ (i < 0) := by have := h2.2 hc; omega
    simp only [decide_eq_true hc, decide_eq_false this, Bool.not_false]
    exact fin_pure rfl
  · have : i < 0 := by
      by_cases hh : 0 ≤ i
      · exact absurd (h2.1 hh) hc
      · omega
    simp only [decide_eq_false hc, decide_eq_true this, Bool.not_true]
    exact fin_pure rfl

/-- all that is met, of the places ahead of (r, k) -/
def MetAll (x : List (List Int)) (r k : Nat) (met : Nat → Nat → Nat → Nat) : Prop := ∀ i j a b, i < 3 → j < 3 → a < 7 →
  ((met i j a).testBit b = true ↔ ∃ r' k' v : Nat, r' < x.length ∧ k' < x.length ∧ (r' < r ∨ (r' = r ∧ k' < k)) ∧ at2 x r' k' = v ∧ sw r' k' v i = a ∧ sw r' k' v j = b)
theorem MetAll.skip {x : List (List Int)} {r k : Nat} {met : Nat → Nat → Nat → Nat} (h : MetAll x r k met) (hv : at2 x r k < 0) : MetAll x r (k + 1) met := by
  intro i j a b hi hj ha
  rw [h i j a b hi hj ha]
  constructor
  · rintro ⟨r', k', v, h1, h2, h3, h4⟩
    exact ⟨r', k', v, h1, h2, by omega, h4⟩
  · rintro ⟨r', k', v, h1, h2, h3, h4, h5⟩
    refine ⟨r', k', v, h1, h2, ?_, h4, h5⟩
    by_cases e : r' = r ∧ k' = k
    · obtain ⟨rfl, rfl⟩ := e; omega
    · omega
theorem MetAll.sow {x : List (List Int)} {r k : Nat} {met : Nat → Nat → Nat → Nat} (h : MetAll x r k met) (hr : r < x.length) (hk : k < x.length) {v : Nat} (hv : at2 x r k = v) :
    MetAll x r (k + 1) (fun i j a => if a = sw r k v i then met i j a ||| 2 ^ sw r k v j else met i j a) := by
  intro i j a b hi hj ha
  show (if a = sw r k v i then met i j a ||| 2 ^ sw r k v j else met i j a).testBit b = true ↔ _
  have hb := h i j a b hi hj ha
  by_cases e : a = sw r k v i
  · rw [if_pos e, Nat.testBit_or, Nat.testBit_two_pow, Bool.or_eq_true, hb, decide_eq_true_eq]
    constructor
    · rintro (⟨r', k', v', h1, h2, h3, h4⟩ | h5)
      · exact ⟨r', k', v', h1, h2, by omega, h4⟩
      · exact ⟨r, k, v, hr, hk, by omega, hv, e.symm, h5⟩
    · rintro ⟨r', k', v', h1, h2, h3, h4, h5, h6⟩
      by_cases e2 : r' = r ∧ k' = k
      · obtain ⟨rfl, rfl⟩ := e2
        have : v' = v := by omega
        subst this
        exact .inr h6
      · exact .inl ⟨r', k', v', h1, h2, by omega, h4, h5, h6⟩
  · rw [if_neg e, hb]
    constructor
    · rintro ⟨r', k', v', h1, h2, h3, h4⟩
      exact ⟨r', k', v', h1, h2, by omega, h4⟩
    · rintro ⟨r', k', v', h1, h2, h3, h4, h5, h6⟩
      by_cases e2 : r' = r ∧ k' = k
      · obtain ⟨rfl, rfl⟩ := e2
        have : v' = v := by omega
        subst this
        exact absurd h5.symm e
      · exact ⟨r', k', v', h1, h2, by omega, h4, h5, h6⟩
theorem MetAll.next {x : List (List Int)} {r : Nat} {met : Nat → Nat → Nat → Nat} (h : MetAll x r x.length met) : MetAll x (r + 1) 0 met := by
  intro i j a b hi hj ha
  rw [h i j a b hi hj ha]
  constructor <;>
  · rintro ⟨r', k', v, h1, h2, h3, h4⟩
    exact ⟨r', k', v, h1, h2, by omega, h4⟩

def cropOf (x : List (List Int)) (r k : Nat) (r' k' : Nat) : Int := if r' < x.length ∧ k' < x.length then (if r' < r ∨ (r' = r ∧ k' < k) then at2 x r' k' else -1) else 0
/-- the state while a bed is read -/
def St8 (h : Heap) (x : List (List Int)) (r k : Nat) (m : Mm) : Prop := ∃ blk met, m = ⟨h ++ [some blk], h.length, h.length⟩ ∧ blk.n = 113 ∧ Gr blk.c x.length (cropOf x r k) met ∧ MetAll x r k met
/-- the ground of a bed -/
def GrOf (c : Tr) (x : List (List Int)) : Prop := ∃ met, Gr c x.length (fun r k => if r < x.length ∧ k < x.length then at2 x r k else 0) met ∧ MetAll x x.length 0 met

theorem read_inner {ro : List ABlk} {h : Heap} {a u : AVal} {x : List (List Int)} (hs : shapedP x) {r : Nat} (hr : r < x.length) (hu : IsRow ro h u (x.getD r [])) {m : Mm} (hm : St8 h x r 0 m) :
    ∃ m', loopX (fun s => g59_b1 (meansX F1 ro) ro (.p (some ⟨false, h.length, 0⟩)) r a x.length u x.length s.1 s.2) (0, m) = some m' ∧ St8 h x (r + 1) 0 m' := by
  have h7 := hs.2.1
  have wri : ∀ k : Nat, k < 7 → wr .i64 ((k : Int) + 1) = ((k + 1 : Nat) : Int) := fun k hk => by rw [wr_id' (by omega) (by omega)]; omega
  refine loopX_rule (b := fun s => g59_b1 (meansX F1 ro) ro (.p (some ⟨false, h.length, 0⟩)) r a x.length u x.length s.1 s.2)
    (fun s => ∃ k : Nat, s.1 = (k : Int) ∧ k ≤ x.length ∧ St8 h x r k s.2) _ (fun s => x.length - s.1.toNat) ?_ (0, m) ⟨0, rfl, by omega, hm⟩
  rintro ⟨y, m⟩ ⟨k, hy, hk, blk, met, hm, hbn, hg, hM⟩
  simp only at hy hm
  subst hy hm
  by_cases hlt : k < x.length
  · left
    have e : decide ((k : Int) < (x.length : Int)) = true := by simp; omega
    obtain ⟨hrl, hrc⟩ := hs.2.2 r hr
    obtain ⟨v1, v2⟩ := hrc k hlt
    have hat : (x.getD r []).getD k 0 = at2 x r k := rfl
    rw [hat] at v1 v2
    obtain ⟨p, l1, l2, l3⟩ := at_row (m := ⟨h ++ [some blk], h.length, h.length⟩) rfl (hu.ext [some blk]) (by omega : k < (x.getD r []).length)
    rw [hat] at l2
    by_cases hv : at2 x r k = -1
    · refine ⟨(((k + 1 : Nat) : Int), ⟨h ++ [some blk], h.length, h.length⟩), ?_, ⟨k + 1, rfl, by omega, blk, met, rfl, hbn, hg.congr (fun r' k' hr' hk' => ?_) (fun _ _ _ _ _ _ => rfl), hM.skip (by omega)⟩, by first | omega | (simp only; omega)⟩
      · have e2 : (at2 x r k == -1) = true := by simp [hv]
        simp only [g59_b1, forceB_eq, ltI_eq, e, cond_true, l1, l2, bindO_some, asI_i, eqI_eq, e2, Bool.not_true, cond_false, forceI_eq, wri k (by omega)]
      · unfold cropOf
        by_cases c0 : r' < x.length ∧ k' < x.length
        · rw [if_pos c0, if_pos c0]
          by_cases c1 : r' = r ∧ k' = k
          · obtain ⟨rfl, rfl⟩ := c1
            rw [if_neg (by omega), if_pos (by omega), hv]
          · by_cases c2 : r' < r ∨ (r' = r ∧ k' < k)
            · rw [if_pos c2, if_pos (by omega)]
            · rw [if_neg c2, if_neg (by omega)]
        · rw [if_neg c0, if_neg c0]
    · obtain ⟨v, hvv⟩ : ∃ v : Nat, at2 x r k = (v : Int) := ⟨(at2 x r k).toNat, by omega⟩
      have hvn : v < x.length := by omega
      have e2 : (at2 x r k == -1) = false := by simp only [beq_eq_false_iff_ne, ne_eq]; exact hv
      have hG : IsGr (h ++ [some blk]) h.length x.length (cropOf x r k) met := ⟨blk, lget_last _ _, hbn, hg⟩
      obtain ⟨blk', hsow, hn', hg'⟩ := sow_ok (ro := ro) hG (r := r) (c := k) (k := v) (by omega) (by omega) (by omega)
      have hset : (h ++ [some blk]).set h.length (some blk') = h ++ [some blk'] := by simp
      rw [hset] at hsow
      have hcall2 := callM_eq (m := ⟨h ++ [some blk], h.length, h.length⟩) hsow
      have hl1 : min h.length (h ++ [some blk]).length = h.length := by simp
      simp only [Nat.min_self, hl1] at hcall2
      refine ⟨(((k + 1 : Nat) : Int), ⟨h ++ [some blk'], h.length, h.length⟩), ?_, ⟨k + 1, rfl, by omega, blk', _, rfl, hn', hg'.congr (fun r' k' hr' hk' => ?_) (fun _ _ _ _ _ _ => rfl), hM.sow hr hlt hvv⟩, by first | omega | (simp only; omega)⟩
      · have hfill2 : (fillA [(AVal.i IntKind.i64 0), (AVal.i IntKind.i64 0), (AVal.i IntKind.i64 0)] [((0, 1), (.i .i64 (r : Int))), ((1, 1), (.i .i64 (k : Int))), ((2, 1), (.i .i64 (v : Int)))]).map AVal.agg = some (.agg [.i .i64 (r : Int), .i .i64 (k : Int), .i .i64 (v : Int)]) := rfl
        simp only [g59_b1, forceB_eq, ltI_eq, e, cond_true, l1, l2, bindO_some, asI_i, eqI_eq, e2, Bool.not_false, meansX_call]
        rw [hvv]
        simp only [hfill2, bindO_some, hcall2, bindP_some, forceI_eq, wri k (by omega)]
      · unfold cropOf
        by_cases c1 : r' = r ∧ k' = k
        · obtain ⟨rfl, rfl⟩ := c1
          rw [if_pos ⟨rfl, rfl⟩, if_pos ⟨hr, hlt⟩, if_pos (by omega), hvv]
        · rw [if_neg c1]
          by_cases c0 : r' < x.length ∧ k' < x.length
          · rw [if_pos c0, if_pos c0]
            by_cases c2 : r' < r ∨ (r' = r ∧ k' < k)
            · rw [if_pos c2, if_pos (by omega)]
            · rw [if_neg c2, if_neg (by omega)]
          · rw [if_neg c0, if_neg c0]
  · right
    have : k = x.length := by omega
    subst this
    refine ⟨⟨h ++ [some blk], h.length, h.length⟩, ?_, blk, met, rfl, hbn, hg.congr (fun r' k' hr' hk' => ?_) (fun _ _ _ _ _ _ => rfl), hM.next⟩
    · simp only [g59_b1, forceB_eq, ltI_eq]
      simp
    · unfold cropOf
      by_cases c0 : r' < x.length ∧ k' < x.length
      · rw [if_pos c0, if_pos c0]
        by_cases c2 : r' < r ∨ (r' = r ∧ k' < x.length)
        · rw [if_pos c2, if_pos (by omega)]
        · rw [if_neg c2, if_neg (by omega)]
      · rw [if_neg c0, if_neg c0]
end Go.Proofs.Ytllmlonngnhbfaa.Bed

/- readBed and readFull. -/
open Go.Vm
set_option linter.unusedVariables false
namespace Go.Proofs.Ytllmlonngnhbfaa.Bed
open Go

theorem checkV_bed {x : List (List Int)} (h : bedP x) : checkV x = .tup [.i .i64 0, .i .i64 0, .i .i64 10] := by
  unfold checkV
  rw [if_pos h.1, dup1_iff.2 h.2]
/-- a row of a list of lists, in a heap that is longer -/
theorem at_mat_ext {ro : List ABlk} {h : Heap} {a : AVal} {x : List (List Int)} (ha : IsMat ro h a x) {m : Mm} {y : Heap} (hm : m.h = h ++ y) {r : Nat} (hr : r < x.length) :
    ∃ p u, evP .e (.ixS 1 (.c a) (.c (.i .i64 (r : Int)))) = some p ∧ ldM ro m true 1 p = some u ∧ ldA ro m.h true 1 p = some u ∧ IsRow ro h u (x.getD r []) := by
  rcases ha with ⟨rfl, rfl⟩ | ⟨q, cap, bk, rfl, hb, hn, hc⟩
  · simp at hr
  · have h1 := ixS_eq (q := q) (cap := cap) hr
    have hb' := rdB_ext y hb
    have h2 := rd_one (i := r) hb' (by omega)
    have h3 := rdB_lt hb'
    refine ⟨_, _, h1, ?_, ?_, hc r hr⟩
    · simp only [ldM, hm]; exact h2
    · simp only [ldA, hm, h3, cond_true]; exact h2

theorem readBed_ok {ro : List ABlk} {h : Heap} {a : AVal} {x : List (List Int)} (ha : IsMat ro h a x) (hb : bedP x) :
    ∃ blk, callX F1 ro 59 [a] h = some (.tup [.p (some ⟨false, h.length, 0⟩), .i .i64 0], h ++ [some blk], h.length, h.length) ∧ blk.n = 113 ∧ GrOf blk.c x := by
  have hs := hb.1
  have h7 := hs.2.1
  obtain ⟨blk, hnew, hbn, hg⟩ := newGround_ok (ro := ro) (h := h) h7
  obtain ⟨lw, hck, hl1, hl2⟩ := check_ok ha
  have hlw : lw = h.length := by omega
  subst hlw
  rw [checkV_bed hb] at hck
  have hcall1 := callM_pure (call := callX F1 ro) (l := h.length) (p := h.length) hck (Nat.le_refl _) (Nat.le_refl _)
  have hcall2 := callM_eq (call := callX F1 ro) (m := ⟨h, h.length, h.length⟩) hnew
  simp only [Nat.min_self] at hcall2
  have wri : ∀ k : Nat, k < 7 → wr .i64 ((k : Int) + 1) = ((k + 1 : Nat) : Int) := fun k hk => by rw [wr_id' (by omega) (by omega)]; omega
  have hst0 : St8 h x 0 0 ⟨h ++ [some blk], h.length, h.length⟩ := ⟨blk, _, rfl, hbn, hg.congr (fun r k _ _ => by
    unfold cropOf
    by_cases c0 : r < x.length ∧ k < x.length
    · rw [if_pos c0, if_pos c0, if_neg (by omega)]
    · rw [if_neg c0, if_neg c0]) (fun _ _ _ _ _ _ => rfl), fun i j a b _ _ _ => by
      simp only [Nat.zero_testBit, Bool.false_eq_true, false_iff]
      rintro ⟨r', k', v, h1, h2, h3, -⟩
      omega⟩
  refine loopX_elim (b := fun s => g59_b0 (meansX F1 ro) ro (.p (some ⟨false, h.length, 0⟩)) a x.length s.1 s.2)
    (fun s => ∃ r : Nat, s.1 = (r : Int) ∧ r ≤ x.length ∧ St8 h x r 0 s.2) (fun m => St8 h x x.length 0 m) (fun s => x.length - s.1.toNat) (0, ⟨h ++ [some blk], h.length, h.length⟩) ⟨0, rfl, by omega, hst0⟩ ?_ ?_
  · rintro ⟨y, m⟩ ⟨r, hy, hr, hst⟩
    simp only at hy hst
    subst hy
    by_cases hlt : r < x.length
    · left
      have e : decide ((r : Int) < (x.length : Int)) = true := by simp; omega
      have hst' := hst
      obtain ⟨blk, met, hm, hbn, hg, hM⟩ := hst'
      obtain ⟨p, u, k1, k2, k3, k4⟩ := at_mat_ext ha (m := m) (y := [some blk]) (by rw [hm]) hlt
      obtain ⟨m', ho, hst2⟩ := read_inner (ro := ro) (a := a) hs hlt k4 hst
      have hl := (hs.2.2 r hlt).1
      refine ⟨(((r + 1 : Nat) : Int), m'), ?_, ⟨r + 1, rfl, by omega, hst2⟩, by first | omega | (simp only; omega)⟩
      simp only [g59_b0, forceB_eq, ltI_eq, e, cond_true, k1, k2, bindO_some, len_row k4, hl, asI_i, meansX_loop, ho, forceI_eq, wri r (by omega)]
    · right
      have : r = x.length := by omega
      subst this
      refine ⟨m, ?_, hst⟩
      simp only [g59_b0, forceB_eq, ltI_eq]
      simp
  · rintro m hl ⟨blk', met, rfl, hbn', hg', hM'⟩
    refine ⟨blk', g59_ok (meansX_ok F1 ro) rfl ?_, hbn', met, hg'.congr (fun r k _ _ => ?_) (fun _ _ _ _ _ _ => rfl), hM'⟩
    · unfold g59
      simp only [meansX_call, hcall1, bindP_some, evP, ev_ext, opd, lget, bindO_some, asI_i, eqI_eq, forceB_eq, beq_self_eq_true, Bool.not_true, cond_false]
      have hlen := len_mat ha
      simp only [evP] at hlen
      simp only [hlen, bindO_some, asI_i, hcall2, bindP_some, meansX_loop, hl, tupA]
      have hb : (AVal.tup [.p (some ⟨false, h.length, 0⟩), .i .i64 0]).bel h.length = false := by
        have : Nat.blt h.length h.length = false := by
          cases hh : Nat.blt h.length h.length
          · rfl
          · rw [Nat.blt_eq] at hh; omega
        simp [AVal.bel, bels, this]
      simp [finM, gc, hb]
    · unfold cropOf
      by_cases c0 : r < x.length ∧ k < x.length
      · rw [if_pos c0, if_pos c0, if_pos (by omega)]
      · rw [if_neg c0, if_neg c0]
theorem readFull_loop {ro : List ABlk} {h : Heap} {a v : AVal} {x : List (List Int)} (ha : IsMat ro h a x) (hb : bedP x) (y : Heap) :
    loopX (fun s => g71_b0 (meansX F1 ro) ro v a x.length s.1 s.2) (0, ⟨h ++ y, h.length, h.length⟩) = some (open Classical in if fullP x then .inl ⟨h ++ y, h.length, h.length⟩ else .inr (.p none, 2, ⟨h ++ y, h.length, h.length⟩)) := by
  classical
  have hs := hb.1
  have h7 := hs.2.1
  have wri : ∀ k : Nat, k < 7 → wr .i64 ((k : Int) + 1) = ((k + 1 : Nat) : Int) := fun k hk => by rw [wr_id' (by omega) (by omega)]; omega
  have key : ∀ (k r : Nat), r + k = x.length → (∀ r' c, r' < r → c < x.length → 0 ≤ at2 x r' c) → loopX (fun s => g71_b0 (meansX F1 ro) ro v a x.length s.1 s.2) ((r : Int), ⟨h ++ y, h.length, h.length⟩) =
      some (if fullP x then .inl ⟨h ++ y, h.length, h.length⟩ else .inr (.p none, 2, ⟨h ++ y, h.length, h.length⟩)) := by
    intro k
    induction k with
    | zero =>
      intro r hr hno
      have hr' : r = x.length := by omega
      subst hr'
      have hf : fullP x := ⟨hb, fun r c hr hc => hno r c hr hc⟩
      rw [if_pos hf]
      refine loopX_out ?_
      simp only [g71_b0, forceB_eq, ltI_eq]
      simp
    | succ k ih =>
      intro r hr hno
      have hlt : r < x.length := by omega
      have e : decide ((r : Int) < (x.length : Int)) = true := by simp; omega
      obtain ⟨p, u, k1, k2, k3, k4⟩ := at_mat_ext ha (m := ⟨h ++ y, h.length, h.length⟩) (y := y) rfl hlt
      obtain ⟨hlen, hrc⟩ := hs.2.2 r hlt
      have hcon := contains_ok (v := -1) (k4.ext y) (by omega)
      have hcall := callM_pure (call := callX F1 ro) (l := h.length) (p := h.length) hcon (by simp) (by simp)
      by_cases hc : ∃ j, j < (x.getD r []).length ∧ (x.getD r []).getD j 0 = -1
      · have hf : ¬ fullP x := fun hf => by
          obtain ⟨j, h1, h2⟩ := hc
          have := hf.2 r j hlt (by omega)
          unfold at2 at this
          omega
        rw [if_neg hf]
        refine loopX_out ?_
        simp only [g71_b0, forceB_eq, ltI_eq, e, cond_true, k1, k2, bindO_some, meansX_call, hcall, bindP_some, asB_b, decide_eq_true hc]
      · refine loopX_on (s' := (((r + 1 : Nat) : Int), ⟨h ++ y, h.length, h.length⟩)) ?_ (ih (r + 1) (by omega) fun r' c h1 h2 => ?_)
        · simp only [g71_b0, forceB_eq, ltI_eq, e, cond_true, k1, k2, bindO_some, meansX_call, hcall, bindP_some, asB_b, decide_eq_false hc, cond_false, forceI_eq, wri r (by omega)]
        · by_cases e2 : r' = r
          · subst e2
            have h3 := hrc c h2
            have h4 : (x.getD r' []).getD c 0 ≠ -1 := fun hh => hc ⟨c, by omega, hh⟩
            unfold at2
            omega
          · exact hno r' c (by omega) h2
  exact key x.length 0 (by omega) (fun r' c h => by omega)

theorem readFull_ok {ro : List ABlk} {h : Heap} {a : AVal} {x : List (List Int)} (ha : IsMat ro h a x) (hf : fullP x) :
    ∃ blk, callX F1 ro 71 [a] h = some (.tup [.p (some ⟨false, h.length, 0⟩), .i .i64 0], h ++ [some blk], h.length, h.length) ∧ blk.n = 113 ∧ GrOf blk.c x := by
  obtain ⟨blk, hrd, hbn, hg⟩ := readBed_ok ha hf.1
  refine ⟨blk, g71_ok (meansX_ok F1 ro) rfl ?_, hbn, hg⟩
  have hcall := callM_eq (call := callX F1 ro) (m := ⟨h, h.length, h.length⟩) hrd
  simp only [Nat.min_self] at hcall
  have hl := readFull_loop (v := .p (some ⟨false, h.length, 0⟩)) ha hf.1 [some blk]
  rw [if_pos hf] at hl
  unfold g71
  have hlen := len_mat ha
  simp only [evP] at hlen
  simp only [meansX_call, hcall, bindP_some, evP, ev_ext, opd, lget, bindO_some, asI_i, eqI_eq, forceB_eq, beq_self_eq_true, Bool.not_true, cond_false, hlen, meansX_loop, hl, tupA]
  have hb : (AVal.tup [.p (some ⟨false, h.length, 0⟩), .i .i64 0]).bel h.length = false := by
    have : Nat.blt h.length h.length = false := by
      cases hh : Nat.blt h.length h.length
      · rfl
      · rw [Nat.blt_eq] at hh; omega
    simp [AVal.bel, bels, this]
  simp [finM, gc, hb]
end Go.Proofs.Ytllmlonngnhbfaa.Bed

/- All transversals, in order: what is looked for; the program's search with a visitor. -/
open Go.Vm
set_option linter.unusedVariables false
namespace Go.Proofs.Ytllmlonngnhbfaa.Bed
open Go

/-- may the next row's column be c? -/
def okT (x : List (List Int)) (now : List Nat) (c : Nat) : Prop := c ∉ now ∧ ∀ i, i < now.length → at2 x i (now.getD i 0) ≠ at2 x now.length c
instance (x : List (List Int)) (now : List Nat) (c : Nat) : Decidable (okT x now c) := inferInstanceAs (Decidable (c ∉ now ∧ ∀ i, i < now.length → at2 x i (now.getD i 0) ≠ at2 x now.length c))
def tlc (f : Nat → List (List Nat)) : Nat → Nat → List (List Nat)
  | 0, _ => []
  | j + 1, c => f c ++ tlc f j (c + 1)
def tl (x : List (List Int)) : Nat → List Nat → List (List Nat)
  | 0, now => [now]
  | k + 1, now => tlc (fun c => if okT x now c then tl x k (now ++ [c]) else []) x.length 0

theorem tlc_len {f : Nat → List (List Nat)} {B : Nat} (h : ∀ c, (f c).length ≤ B) : ∀ j c, (tlc f j c).length ≤ j * B
  | 0, _ => by simp [tlc]
  | j + 1, c => by
    have h1 := tlc_len h j (c + 1)
    have h2 := h c
    simp only [tlc, List.length_append]
    rw [Nat.succ_mul]
    omega
theorem tl_len {x : List (List Int)} (hx : x.length ≤ 7) : ∀ k now, (tl x k now).length ≤ 7 ^ k
  | 0, _ => by simp [tl]
  | k + 1, now => by
    have h1 : ∀ c, (if okT x now c then tl x k (now ++ [c]) else []).length ≤ 7 ^ k := fun c => by
      split
      · exact tl_len hx k _
      · simp
    have h2 := tlc_len h1 x.length 0
    have h3 : x.length * 7 ^ k ≤ 7 * 7 ^ k := Nat.mul_le_mul_right _ hx
    simp only [tl]
    rw [Nat.pow_succ, Nat.mul_comm]
    omega

/-- a visitor of what is found: it goes on or stops -/
def runV {S : Type} (next : S → List Nat → S) (cont : S → List Nat → Bool) : S → List (List Nat) → S × Bool
  | s, [] => (s, true)
  | s, z :: l => cond (cont s z) (runV next cont (next s z) l) (next s z, false)
theorem runV_app {S : Type} {next : S → List Nat → S} {cont : S → List Nat → Bool} : ∀ {l l' : List (List Nat)} {s : S}, runV next cont s (l ++ l') = cond (runV next cont s l).2 (runV next cont (runV next cont s l).1 l') (runV next cont s l)
  | [], l', s => by simp [runV]
  | z :: l, l', s => by
    simp only [List.cons_append, runV]
    cases h : cont s z
    · rfl
    · simp only [cond_true]
      exact runV_app

def nts (z : List Nat) : List Int := z.map (fun n : Nat => ((n : Nat) : Int))
theorem nts_len (z : List Nat) : (nts z).length = z.length := by simp [nts]
theorem nts_get (z : List Nat) (j : Nat) : (nts z).getD j 0 = ((z.getD j 0 : Nat) : Int) := by
  unfold nts
  rw [List.getD_eq_getElem?_getD, List.getD_eq_getElem?_getD, List.getElem?_map]
  cases z[j]? <;> rfl

structure Vis (ro : List ABlk) (n : Nat) where
  S : Type
  f : Nat
  bv : Nat
  V : S → Heap → Prop
  Q : S → Prop
  next : S → List Nat → S
  cont : S → List Nat → Bool
  keep : ∀ s hp hp', V s hp → Q s → lget hp' bv = lget hp bv → V s hp'
  visit : ∀ s hp v z, V s hp → Q s → bv < hp.length → IsRow ro hp v (nts z) → v ≠ .nsl → z.length = n → ∃ hp' lw lp, callX F1 ro f [v, .p (some ⟨false, bv, 0⟩)] hp = some (.b (cont s z), hp', lw, lp) ∧ V (next s z) hp' ∧ (Q (next s z) ∨ lp ≤ bv) ∧ (cont s z = true → Q (next s z)) ∧
    hp.length ≤ hp'.length ∧ ∀ i, i < hp.length → i ≠ bv → hp'[i]? = hp[i]?

/-- the cells that the search shares -/
structure Ch (x : List (List Int)) (vf : AVal) (bg b3 b4 b5 b6 bc : Nat) (hp : Heap) : Prop where
  g : ∃ blk, lget hp bg = some (some blk) ∧ blk.n = 113 ∧ GrOf blk.c x
  c3 : ∃ blk, lget hp b3 = some (some blk) ∧ blk.n = 1 ∧ blk.c.get 0 = .p (some ⟨false, bg, 0⟩)
  c4 : ∃ blk, lget hp b4 = some (some blk) ∧ blk.n = 1 ∧ blk.c.get 0 = vf
  c5 : ∃ blk, lget hp b5 = some (some blk) ∧ blk.n = 1 ∧ blk.c.get 0 = .sl ⟨false, bc, 0⟩ x.length (.known x.length)
  c6 : ∃ blk, lget hp b6 = some (some blk) ∧ blk.n = 1 ∧ blk.c.get 0 = .fn 92 [] [.p (some ⟨false, b3, 0⟩), .p (some ⟨false, b4, 0⟩), .p (some ⟨false, b5, 0⟩), .p (some ⟨false, b6, 0⟩)]
/-- the columns chosen -/
def Cols (x : List (List Int)) (bc : Nat) (hp : Heap) (now : List Nat) : Prop := ∃ blk, lget hp bc = some (some blk) ∧ blk.n = x.length ∧ ∀ j, j < now.length → blk.c.get j = .i .i64 ((now.getD j 0 : Nat) : Int)

def Keep (a b : Nat) (hp hp' : Heap) : Prop := hp.length ≤ hp'.length ∧ ∀ i, i < hp.length → i ≠ a → i ≠ b → hp'[i]? = hp[i]?
theorem Keep.refl (a b : Nat) (hp : Heap) : Keep a b hp hp := ⟨Nat.le_refl _, fun _ _ _ _ => rfl⟩
theorem Keep.trans {a b : Nat} {x y z : Heap} (h : Keep a b x y) (k : Keep a b y z) : Keep a b x z :=
  ⟨Nat.le_trans h.1 k.1, fun i hi h1 h2 => (k.2 i (Nat.lt_of_lt_of_le hi h.1) h1 h2).trans (h.2 i hi h1 h2)⟩
theorem Keep.take {a b : Nat} {x y : Heap} (h : Keep a b x y) : Keep a b x (y.take x.length) :=
  ⟨by simp [h.1], fun i hi h1 h2 => by rw [List.getElem?_take, if_pos hi]; exact h.2 i hi h1 h2⟩
theorem lget_of {hp hp' : Heap} {i : Nat} (h : hp'[i]? = hp[i]?) : lget hp' i = lget hp i := by rw [lget_eq, lget_eq, h]
theorem Ch.keep {x : List (List Int)} {vf : AVal} {bg b3 b4 b5 b6 bc bv : Nat} {hp hp' : Heap} (h : Ch x vf bg b3 b4 b5 b6 bc hp) (hk : Keep bv bc hp hp') (hn : ∀ i, (i = bg ∨ i = b3 ∨ i = b4 ∨ i = b5 ∨ i = b6) → i ≠ bv ∧ i ≠ bc) : Ch x vf bg b3 b4 b5 b6 bc hp' := by
  have key : ∀ i, (i = bg ∨ i = b3 ∨ i = b4 ∨ i = b5 ∨ i = b6) → ∀ blk, lget hp i = some (some blk) → lget hp' i = some (some blk) := fun i hi blk hb => by
    obtain ⟨h1, h2⟩ := hn i hi
    rw [lget_of (hk.2 i (lget_lt hb) h1 h2)]; exact hb
  obtain ⟨⟨a1, a2, a3⟩, ⟨b1, b2, b3'⟩, ⟨c1, c2, c3⟩, ⟨d1, d2, d3⟩, ⟨e1, e2, e3⟩⟩ := h
  exact ⟨⟨a1, key _ (by omega) _ a2, a3⟩, ⟨b1, key _ (by omega) _ b2, b3'⟩, ⟨c1, key _ (by omega) _ c2, c3⟩, ⟨d1, key _ (by omega) _ d2, d3⟩, ⟨e1, key _ (by omega) _ e2, e3⟩⟩

structure MaskC (X : Nat) (now : List Nat) : Prop where
  lt : X < 256
  bit : ∀ c, X.testBit c = true ↔ c ∈ now
structure MaskK (x : List (List Int)) (X : Nat) (now : List Nat) : Prop where
  lt : X < 256
  bit : ∀ q : Nat, X.testBit q = true ↔ ∃ i, i < now.length ∧ at2 x i (now.getD i 0) = q
theorem MaskC.add {X : Nat} {now : List Nat} (h : MaskC X now) {c : Nat} (hc : c < 7) : MaskC (X ||| 2 ^ c) (now ++ [c]) :=
  ⟨or_lt h.lt (pow_lt (by omega)), fun q => by rw [Nat.testBit_or, Nat.testBit_two_pow, Bool.or_eq_true, h.bit q, decide_eq_true_eq, List.mem_append, List.mem_singleton]; constructor <;> (rintro (h | h); exact .inl h; exact .inr h.symm)⟩
theorem getD_app {now : List Nat} {c i : Nat} (hi : i < now.length) : (now ++ [c]).getD i 0 = now.getD i 0 := by
  rw [List.getD_eq_getElem?_getD, List.getD_eq_getElem?_getD, List.getElem?_append_left hi]
theorem getD_app' {now : List Nat} {c : Nat} : (now ++ [c]).getD now.length 0 = c := by
  rw [List.getD_eq_getElem?_getD, List.getElem?_append_right (Nat.le_refl _)]; simp
theorem MaskK.add {x : List (List Int)} {X : Nat} {now : List Nat} (h : MaskK x X now) {c v : Nat} (hv : at2 x now.length c = v) (hv7 : v < 7) : MaskK x (X ||| 2 ^ v) (now ++ [c]) := by
  refine ⟨or_lt h.lt (pow_lt (by omega)), fun q => ?_⟩
  rw [Nat.testBit_or, Nat.testBit_two_pow, Bool.or_eq_true, h.bit q, decide_eq_true_eq]
  constructor
  · rintro (⟨i, h1, h2⟩ | h3)
    · exact ⟨i, by simp; omega, by rw [getD_app h1]; exact h2⟩
    · exact ⟨now.length, by simp, by rw [getD_app']; omega⟩
  · rintro ⟨i, h1, h2⟩
    by_cases e : i < now.length
    · exact .inl ⟨i, e, by rw [getD_app e] at h2; exact h2⟩
    · have : i = now.length := by simp at h1; omega
      subst this
      rw [getD_app'] at h2
      exact .inr (by omega)

theorem and_pow' : ∀ c, c < 8 → ∀ X, X < 256 → Nat.beq (X &&& 2 ^ c) 0 = !X.testBit c := by decide +kernel
theorem and_pow {X c : Nat} (hX : X < 256) (hc : c ≤ 7) : eqI (bitV .and .u8 X ((2 ^ c : Nat) : Int)) 0 = !X.testBit c := by
  rw [bit_and hX (pow_lt hc), ← and_pow' c (by omega) X hX, eqI_eq]
  cases h : Nat.beq (X &&& 2 ^ c) 0
  · have : X &&& 2 ^ c ≠ 0 := fun e => by rw [e] at h; cases h
    simp only [beq_eq_false_iff_ne, ne_eq]
    omega
  · have := Nat.eq_of_beq_eq_true h
    rw [this]; rfl
end Go.Proofs.Ytllmlonngnhbfaa.Bed

/- The program's search for transversals, with a visitor. -/
open Go.Vm
set_option linter.unusedVariables false
namespace Go.Proofs.Ytllmlonngnhbfaa.Bed
open Go

section
variable {ro : List ABlk} {x : List (List Int)} {vf : AVal} {bg b3 b4 b5 b6 bc : Nat} {hp : Heap} {m : Mm}
theorem ch_3 (hm : m.h = hp) (h : Ch x vf bg b3 b4 b5 b6 bc hp) : ldM ro m true 1 (.p (some ⟨false, b3, 0⟩)) = some (.p (some ⟨false, bg, 0⟩)) := by
  obtain ⟨blk, h1, h2, h3⟩ := h.c3
  rw [ld_heap hm h1 (by omega), h3]
theorem ch_4 (hm : m.h = hp) (h : Ch x vf bg b3 b4 b5 b6 bc hp) : ldM ro m true 1 (.p (some ⟨false, b4, 0⟩)) = some vf := by
  obtain ⟨blk, h1, h2, h3⟩ := h.c4
  rw [ld_heap hm h1 (by omega), h3]
theorem ch_5 (hm : m.h = hp) (h : Ch x vf bg b3 b4 b5 b6 bc hp) : ldM ro m true 1 (.p (some ⟨false, b5, 0⟩)) = some (.sl ⟨false, bc, 0⟩ x.length (.known x.length)) := by
  obtain ⟨blk, h1, h2, h3⟩ := h.c5
  rw [ld_heap hm h1 (by omega), h3]
theorem ch_6 (hm : m.h = hp) (h : Ch x vf bg b3 b4 b5 b6 bc hp) : ldM ro m true 1 (.p (some ⟨false, b6, 0⟩)) = some (.fn 92 [] [.p (some ⟨false, b3, 0⟩), .p (some ⟨false, b4, 0⟩), .p (some ⟨false, b5, 0⟩), .p (some ⟨false, b6, 0⟩)]) := by
  obtain ⟨blk, h1, h2, h3⟩ := h.c6
  rw [ld_heap hm h1 (by omega), h3]
theorem ch_n (hm : m.h = hp) (h : Ch x vf bg b3 b4 b5 b6 bc hp) : ldM ro m true 1 (.p (some ⟨false, bg, 0 + 0⟩)) = some (.i .i64 x.length) := by
  obtain ⟨blk, h1, h2, met, h3, h4⟩ := h.g
  rw [ld_heap hm h1 (by omega), h3.size]
theorem ch_g (hm : m.h = hp) (h : Ch x vf bg b3 b4 b5 b6 bc hp) (h7 : x.length ≤ 7) {r c : Nat} (hr : r < x.length) (hc : c < x.length) : ldM ro m true 1 (.p (some ⟨false, bg, 0 + 1 + r * 7 + c * 1⟩)) = some (.i .i64 (at2 x r c)) := by
  obtain ⟨blk, h1, h2, met, h3, h4⟩ := h.g
  rw [ld_heap hm h1 (by omega), Nat.zero_add, h3.crops r c (by omega) (by omega), if_pos ⟨hr, hc⟩]
end

theorem fin_b {hp : Heap} {l p L : Nat} {c : Bool} : ∃ hp', finM L (.b c) ⟨hp, l, p⟩ = some (.b c, hp', l, p) ∧ (hp' = hp ∨ (L ≤ p ∧ hp' = hp.take L)) := by
  by_cases h : L ≤ p
  · exact ⟨hp.take L, by simp [finM, gc, AVal.bel, h], .inr ⟨h, rfl⟩⟩
  · exact ⟨hp, by simp [finM, gc, h], .inl rfl⟩

theorem lget_take {hp : Heap} {i L : Nat} (h : i < L) : lget (hp.take L) i = lget hp i := by
  rw [lget_eq, lget_eq, List.getElem?_take, if_pos h]

theorem okT_iff {x : List (List Int)} {now : List Nat} {X Y c v : Nat} (hX : MaskC X now) (hY : MaskK x Y now) (hv : at2 x now.length c = v) : okT x now c ↔ X.testBit c = false ∧ Y.testBit v = false := by
  unfold okT
  rw [hv]
  constructor
  · rintro ⟨h1, h2⟩
    constructor
    · cases h : X.testBit c
      · rfl
      · exact absurd ((hX.bit c).1 h) h1
    · cases h : Y.testBit v
      · rfl
      · obtain ⟨i, h3, h4⟩ := (hY.bit v).1 h
        exact absurd h4 (h2 i h3)
  · rintro ⟨h1, h2⟩
    refine ⟨fun h => ?_, fun i hi he => ?_⟩
    · rw [(hX.bit c).2 h] at h1; cases h1
    · rw [(hY.bit v).2 ⟨i, hi, he⟩] at h2; cases h2

theorem choose_ok {ro : List ABlk} {x : List (List Int)} (hf : fullP x) (Vi : Vis ro x.length) {bg b3 b4 b5 b6 bc : Nat} (hd : ∀ i, (i = bg ∨ i = b3 ∨ i = b4 ∨ i = b5 ∨ i = b6) → i ≠ Vi.bv ∧ i ≠ bc) (hbc : bc ≠ Vi.bv) :
    ∀ (k : Nat) (now : List Nat) (hp : Heap) (s : Vi.S) (X Y : Nat), now.length + k = x.length → Ch x (.fn Vi.f [] [.p (some ⟨false, Vi.bv, 0⟩)]) bg b3 b4 b5 b6 bc hp → Cols x bc hp now → Vi.V s hp → Vi.Q s → Vi.bv < hp.length → MaskC X now → MaskK x Y now →
      ∃ hp' lw lp, callX F1 ro 92 [.i .i64 now.length, .i .u8 X, .i .u8 Y, .p (some ⟨false, b3, 0⟩), .p (some ⟨false, b4, 0⟩), .p (some ⟨false, b5, 0⟩), .p (some ⟨false, b6, 0⟩)] hp = some (.b (runV Vi.next Vi.cont s (tl x k now)).2, hp', lw, lp) ∧
        Vi.V (runV Vi.next Vi.cont s (tl x k now)).1 hp' ∧ (Vi.Q (runV Vi.next Vi.cont s (tl x k now)).1 ∨ lp ≤ Vi.bv) ∧ ((runV Vi.next Vi.cont s (tl x k now)).2 = true → Vi.Q (runV Vi.next Vi.cont s (tl x k now)).1) ∧ Keep Vi.bv bc hp hp' ∧ Cols x bc hp' now := by
  have hs := hf.1.1
  have h7 := hs.2.1
  -- the call's end
  have fin : ∀ (hp hp1 : Heap) (s' : Vi.S) (b : Bool) (now : List Nat) (l p : Nat), Vi.bv < hp.length → bc < hp.length → Vi.V s' hp1 → (Vi.Q s' ∨ p ≤ Vi.bv) → Keep Vi.bv bc hp hp1 → Cols x bc hp1 now →
      ∃ hp', finM hp.length (.b b) ⟨hp1, l, p⟩ = some (.b b, hp', l, p) ∧ Vi.V s' hp' ∧ Keep Vi.bv bc hp hp' ∧ Cols x bc hp' now := by
    intro hp hp1 s' b now l p hbv hbc hV hQ hK hC
    obtain ⟨hp', h1, h2⟩ := fin_b (hp := hp1) (l := l) (p := p) (L := hp.length) (c := b)
    refine ⟨hp', h1, ?_⟩
    rcases h2 with rfl | ⟨hle, rfl⟩
    · exact ⟨hV, hK, hC⟩
    · have hQ' : Vi.Q s' := hQ.elim id fun h => by omega
      refine ⟨Vi.keep _ _ _ hV hQ' (lget_take hbv), hK.take, ?_⟩
      obtain ⟨blk, e1, e2, e3⟩ := hC
      exact ⟨blk, by rw [lget_take hbc]; exact e1, e2, e3⟩
  have colsLt : ∀ {hp : Heap} {now : List Nat}, Cols x bc hp now → bc < hp.length := fun ⟨blk, h, _⟩ => lget_lt h
  intro k
  induction k with
  | zero =>
    intro now hp s X Y hk hCh hCo hV hQ hbv hX hY
    have hrow : IsRow ro hp (.sl ⟨false, bc, 0⟩ x.length (.known x.length)) (nts now) := by
      obtain ⟨blk, h1, h2, h3⟩ := hCo
      refine .inr ⟨_, _, blk, by rw [nts_len]; congr 1; omega, rdB_heap h1 0, by rw [nts_len]; show 0 + now.length ≤ blk.n; omega, fun j hj => ?_⟩
      rw [nts_len] at hj
      rw [nts_get, Nat.zero_add, h3 j hj]
    obtain ⟨hp1, lw, lp, hc, hV1, hQ1, hQc, hl1, hk1⟩ := Vi.visit s hp _ now hV hQ hbv hrow (by simp) (by omega)
    have hK : Keep Vi.bv bc hp hp1 := ⟨hl1, fun i hi h1 _ => hk1 i hi h1⟩
    have hC1 : Cols x bc hp1 now := by
      obtain ⟨blk, h1, h2, h3⟩ := hCo
      exact ⟨blk, by rw [lget_of (hk1 bc (lget_lt h1) hbc)]; exact h1, h2, h3⟩
    have hrun : runV Vi.next Vi.cont s (tl x 0 now) = (Vi.next s now, Vi.cont s now) := by
      simp only [tl, runV]
      cases Vi.cont s now <;> rfl
    rw [hrun]
    have hcall := callM_eq (call := callX F1 ro) (m := ⟨hp, hp.length, hp.length⟩) hc
    obtain ⟨hp', f1, f2, f3, f4⟩ := fin hp hp1 _ (Vi.cont s now) now (min hp.length lw) (min hp.length lp) hbv (colsLt hCo) hV1 (hQ1.imp id fun h => by omega) hK hC1
    refine ⟨hp', min hp.length lw, min hp.length lp, g92_ok (meansX_ok F1 ro) rfl ?_, f2, hQ1.imp id fun h => by omega, hQc, f3, f4⟩
    · unfold g92
      have e : ((now.length : Int) == (x.length : Int)) = true := by simp; omega
      simp only [ch_3 (m := ⟨hp, hp.length, hp.length⟩) rfl hCh, bindO_some, p_nilck, p_faddr, ch_n (m := ⟨hp, hp.length, hp.length⟩) rfl hCh, asI_i, forceB_eq, eqI_eq, e, cond_true, ch_4 (m := ⟨hp, hp.length, hp.length⟩) rfl hCh, ch_5 (m := ⟨hp, hp.length, hp.length⟩) rfl hCh, meansX_call, callvM, List.nil_append, List.cons_append]
      rw [hcall]
      simp only [bindP_some, asB_b, tupA]
      exact f1
  | succ k ih =>
    intro now hp s X Y hk hCh hCo hV hQ hbv hX hY
    have hr : now.length < x.length := by omega
    have wri : ∀ k : Nat, k < 7 → wr .i64 ((k : Int) + 1) = ((k + 1 : Nat) : Int) := fun k hk => by rw [wr_id' (by omega) (by omega)]; omega
    -- the loop
    have loop : ∀ (j c : Nat) (s : Vi.S) (hp1 : Heap) (l p : Nat), c + j = x.length → Keep Vi.bv bc hp hp1 → Cols x bc hp1 now → Vi.V s hp1 → Vi.Q s →
        ∃ hp2 l2 p2, loopX (fun s => g92_b0 (meansX F1 ro) ro now.length X Y (.p (some ⟨false, b3, 0⟩)) (.p (some ⟨false, b5, 0⟩)) (.p (some ⟨false, b6, 0⟩)) x.length s.1 s.2) ((c : Int), ⟨hp1, l, p⟩) =
          some (cond (runV Vi.next Vi.cont s (tlc (fun c => if okT x now c then tl x k (now ++ [c]) else []) j c)).2 (.inl ⟨hp2, l2, p2⟩) (.inr (false, ⟨hp2, l2, p2⟩))) ∧
          Vi.V (runV Vi.next Vi.cont s (tlc (fun c => if okT x now c then tl x k (now ++ [c]) else []) j c)).1 hp2 ∧ (Vi.Q (runV Vi.next Vi.cont s (tlc (fun c => if okT x now c then tl x k (now ++ [c]) else []) j c)).1 ∨ p2 ≤ Vi.bv) ∧
          ((runV Vi.next Vi.cont s (tlc (fun c => if okT x now c then tl x k (now ++ [c]) else []) j c)).2 = true → Vi.Q (runV Vi.next Vi.cont s (tlc (fun c => if okT x now c then tl x k (now ++ [c]) else []) j c)).1) ∧
          Keep Vi.bv bc hp hp2 ∧ Cols x bc hp2 now := by
      intro j
      induction j with
      | zero =>
        intro c s hp1 l p hc hK hC hV hQ
        refine ⟨hp1, l, p, ?_, hV, .inl hQ, fun _ => hQ, hK, hC⟩
        refine loopX_out ?_
        have : c = x.length := by omega
        subst this
        simp only [g92_b0, forceB_eq, ltI_eq]
        simp [runV, tlc]
      | succ j ihj =>
        intro c s hp1 l p hc hK hC hV hQ
        have hcl : c < x.length := by omega
        have hCh1 := hCh.keep hK hd
        obtain ⟨v, hv⟩ : ∃ v : Nat, at2 x now.length c = (v : Int) := ⟨(at2 x now.length c).toNat, by have := hf.2 now.length c hr hcl; omega⟩
        have hvn : v < x.length := by
          have := (hs.2.2 now.length hr).2 c hcl
          unfold at2 at hv
          omega
        have e : decide ((c : Int) < (x.length : Int)) = true := by simp; omega
        have hc0 : (!decide ((c : Int) < Int.ofNat 0)) = true := by simp
        have hv0 : (!decide ((v : Int) < Int.ofNat 0)) = true := by simp
        have hg := ch_g (ro := ro) (m := ⟨hp1, l, p⟩) rfl hCh1 h7 hr hcl
        rw [hv] at hg
        have hok := okT_iff hX hY hv
        have a1 := and_pow hX.lt (by omega : c ≤ 7)
        have a2 := and_pow hY.lt (by omega : v ≤ 7)
        rw [eqI_eq] at a1 a2
        by_cases ho : okT x now c
        · obtain ⟨o1, o2⟩ := hok.1 ho
          rw [o1] at a1
          rw [o2] at a2
          -- the column is laid
          obtain ⟨blk, c1, c2, c3⟩ := hC
          have hst := st_heap (ro := ro) (l := l) (p := p) c1 (by omega : 0 + now.length < blk.n) (v := .i .i64 (c : Int)) rfl rfl rfl
          rw [Nat.zero_add] at hst
          obtain ⟨hp2, hhp2⟩ : ∃ hp2, hp2 = hp1.set bc (some { blk with c := blk.c.set now.length (.i .i64 (c : Int)) }) := ⟨_, rfl⟩
          rw [← hhp2] at hst
          have k2 : Keep Vi.bv bc hp1 hp2 := ⟨by rw [hhp2]; simp, fun i hi h1 h2 => by rw [hhp2, List.getElem?_set_ne (fun h => h2 h.symm)]⟩
          have hCh2 := hCh1.keep k2 hd
          have hC2 : Cols x bc hp2 (now ++ [c]) := by
            refine ⟨{ blk with c := blk.c.set now.length (.i .i64 (c : Int)) }, by rw [hhp2]; exact lget_set c1 _, c2, fun i hi => ?_⟩
            simp only [get_set]
            by_cases e : now.length = i
            · rw [if_pos e, ← e, getD_app']
            · rw [if_neg e, getD_app (by simp at hi; omega)]
              exact c3 i (by simp at hi; omega)
          have hV2 : Vi.V s hp2 := Vi.keep _ _ _ hV hQ (by rw [hhp2, lget_eq, lget_eq, List.getElem?_set_ne hbc])
          have hbv2 : Vi.bv < hp2.length := Nat.lt_of_lt_of_le hbv (Nat.le_trans hK.1 k2.1)
          obtain ⟨hp3, lw3, lp3, d1, d2, d3, d4, d5, d6⟩ := ih (now ++ [c]) hp2 s (X ||| 2 ^ c) (Y ||| 2 ^ v) (by simp; omega) hCh2 hC2 hV2 hQ hbv2 (hX.add (by omega)) (hY.add hv (by omega))
          have hlen : (((now ++ [c]).length : Nat) : Int) = ((now.length + 1 : Nat) : Int) := by simp
          rw [hlen] at d1
          have hcall := callM_eq (call := callX F1 ro) (m := ⟨hp2, min l bc, p⟩) d1
          have hC3 : Cols x bc hp3 now := by
            obtain ⟨blk3, e1, e2, e3⟩ := d6
            exact ⟨blk3, e1, e2, fun i hi => by rw [e3 i (by simp; omega), getD_app hi]⟩
          have hK3 : Keep Vi.bv bc hp hp3 := hK.trans (k2.trans d5)
          have hrunf : runV Vi.next Vi.cont s (tlc (fun c => if okT x now c then tl x k (now ++ [c]) else []) (j + 1) c) = cond (runV Vi.next Vi.cont s (tl x k (now ++ [c]))).2 (runV Vi.next Vi.cont (runV Vi.next Vi.cont s (tl x k (now ++ [c]))).1 (tlc (fun c => if okT x now c then tl x k (now ++ [c]) else []) j (c + 1))) (runV Vi.next Vi.cont s (tl x k (now ++ [c]))) := by
            simp only [tlc]
            rw [if_pos ho, runV_app]
          rw [hrunf]
          have hbody : ∀ b : Bool, (runV Vi.next Vi.cont s (tl x k (now ++ [c]))).2 = b → g92_b0 (meansX F1 ro) ro now.length X Y (.p (some ⟨false, b3, 0⟩)) (.p (some ⟨false, b5, 0⟩)) (.p (some ⟨false, b6, 0⟩)) x.length (c : Int) ⟨hp1, l, p⟩ =
              some (cond b (.inl (((c + 1 : Nat) : Int), ⟨hp3, min (min l bc) lw3, min p lp3⟩)) (.inr (.inr (false, ⟨hp3, min (min l bc) lw3, min p lp3⟩)))) := by
            intro b hb
            rw [hb] at hcall
            simp only [g92_b0, forceB_eq, ltI_eq, e, cond_true, hc0, chk_true, shl_one (by omega : c ≤ 7), forceI_eq, ch_3 (m := ⟨hp1, l, p⟩) rfl hCh1, bindO_some, p_nilck, p_faddr, p_ixA rfl (by omega : now.length < 7), p_ixA rfl (by omega : c < 7), hg, asI_i, hv0, shl_one (by omega : v ≤ 7), eqI_eq, a1, a2,
              Bool.not_false, Bool.not_true, cond_false, ch_5 (m := ⟨hp1, l, p⟩) rfl hCh1, ixS_eq hr, Nat.zero_add, hst, bindP_some, ch_6 (m := ⟨hp2, min l bc, p⟩) rfl hCh2, wri now.length (by omega), bit_or hX.lt (pow_lt (by omega : c ≤ 7)), bit_or hY.lt (pow_lt (by omega : v ≤ 7)), meansX_call, callvM, List.nil_append, List.cons_append]
            rw [hcall]
            cases b
            · simp only [bindP_some, asB_b, Bool.not_false, cond_true, bindO_some, cond_false]
            · simp only [bindP_some, asB_b, Bool.not_true, cond_false, bindO_some, cond_true, wri c (by omega)]
          cases hb : (runV Vi.next Vi.cont s (tl x k (now ++ [c]))).2 with
          | false =>
            simp only [cond_false]
            refine ⟨hp3, min (min l bc) lw3, min p lp3, ?_, d2, d3.imp id fun h => by omega, d4, hK3, hC3⟩
            rw [hb]
            exact loopX_out (hbody false hb)
          | true =>
            simp only [cond_true]
            have hQ3 := d4 hb
            obtain ⟨hp4, l4, p4, f1, f2, f3, f4, f5, f6⟩ := ihj (c + 1) _ hp3 (min (min l bc) lw3) (min p lp3) (by omega) hK3 hC3 d2 hQ3
            exact ⟨hp4, l4, p4, loopX_on (hbody true hb) f1, f2, f3, f4, f5, f6⟩
        · -- the column is taken, or the crop
          have hrunf : runV Vi.next Vi.cont s (tlc (fun c => if okT x now c then tl x k (now ++ [c]) else []) (j + 1) c) = runV Vi.next Vi.cont s (tlc (fun c => if okT x now c then tl x k (now ++ [c]) else []) j (c + 1)) := by
            simp only [tlc]
            rw [if_neg ho, List.nil_append]
          rw [hrunf]
          obtain ⟨hp4, l4, p4, f1, f2⟩ := ihj (c + 1) s hp1 l p (by omega) hK hC hV hQ
          refine ⟨hp4, l4, p4, loopX_on (s' := (((c + 1 : Nat) : Int), ⟨hp1, l, p⟩)) ?_ f1, f2⟩
          simp only [g92_b0, forceB_eq, ltI_eq, e, cond_true, hc0, chk_true, shl_one (by omega : c ≤ 7), forceI_eq, ch_3 (m := ⟨hp1, l, p⟩) rfl hCh1, bindO_some, p_nilck, p_faddr, p_ixA rfl (by omega : now.length < 7), p_ixA rfl (by omega : c < 7), hg, asI_i, hv0, shl_one (by omega : v ≤ 7), eqI_eq, a1, a2]
          cases h1 : X.testBit c with
          | true =>
            simp only [Bool.not_true, Bool.not_false, cond_true, bindO_some, wri c (by omega)]
          | false =>
            cases h2 : Y.testBit v with
            | true =>
              simp only [Bool.not_true, Bool.not_false, cond_true, cond_false, bindO_some, wri c (by omega)]
            | false => exact absurd (hok.2 ⟨h1, h2⟩) ho
    obtain ⟨hp2, l2, p2, f1, f2, f3, f4, f5, f6⟩ := loop x.length 0 s hp hp.length hp.length (by omega) (Keep.refl _ _ _) hCo hV hQ
    have hrunf : tl x (k + 1) now = tlc (fun c => if okT x now c then tl x k (now ++ [c]) else []) x.length 0 := rfl
    rw [hrunf]
    obtain ⟨hp', q1, q2, q3, q4⟩ := fin hp hp2 _ (runV Vi.next Vi.cont s (tlc (fun c => if okT x now c then tl x k (now ++ [c]) else []) x.length 0)).2 now l2 p2 hbv (colsLt hCo) f2 f3 f5 f6
    refine ⟨hp', l2, p2, g92_ok (meansX_ok F1 ro) rfl ?_, q2, f3, f4, q3, q4⟩
    unfold g92
    have e : ((now.length : Int) == (x.length : Int)) = false := by simp; omega
    have e0 : ((0 : Nat) : Int) = 0 := rfl
    rw [e0] at f1
    simp only [ch_3 (m := ⟨hp, hp.length, hp.length⟩) rfl hCh, bindO_some, p_nilck, p_faddr, ch_n (m := ⟨hp, hp.length, hp.length⟩) rfl hCh, asI_i, forceB_eq, eqI_eq, e, cond_false, meansX_loop]
    rw [f1]
    cases hb : (runV Vi.next Vi.cont s (tlc (fun c => if okT x now c then tl x k (now ++ [c]) else []) x.length 0)).2 with
    | false =>
      rw [hb] at q1
      simp only [cond_false, bindO_some, tupA]
      exact q1
    | true =>
      rw [hb] at q1
      simp only [cond_true, bindO_some, tupA]
      exact q1
end Go.Proofs.Ytllmlonngnhbfaa.Bed

/- The visitors; Transversal and Transversals of the program. -/
open Go.Vm
set_option linter.unusedVariables false
namespace Go.Proofs.Ytllmlonngnhbfaa.Bed
open Go

theorem not_bel {L b off len : Nat} {cap : Cap} (h : L ≤ b) : (AVal.sl ⟨false, b, off⟩ len cap).bel L = false := by
  simp only [AVal.bel, Bool.false_or]
  cases hh : Nat.blt b L
  · rfl
  · rw [Nat.blt_eq] at hh; omega

theorem st_ptr {ro : List ABlk} {hp : Heap} {b off l p : Nat} {blk : ABlk} (hb : lget hp b = some (some blk)) (ho : off < blk.n) {v : AVal} (hv : v.one = true) (hc : v.cells = [v]) (hn : nonp [v] = false) :
    stepM ro ⟨hp, l, p⟩ (.st 1 (.c (.p (some ⟨false, b, off⟩))) (.c v)) = some (und, ⟨hp.set b (some { blk with c := blk.c.set off v }), min l b, min p b⟩) := by
  simp only [stepM, stepK, opd, st_st, hc, List.length_cons, List.length_nil, Nat.zero_add, wrH_heap hb ho hv, hn, cond_false, St.mm]
  rfl

theorem clone_ok {ro : List ABlk} {h : Heap} {v : AVal} {z : List Int} (hr : IsRow ro h v z) (h0 : z ≠ []) (hz : z.length ≤ 1000) :
    callX F1 ro 74 [v] h = some (.sl ⟨false, h.length + 1, 0⟩ z.length .grow, h ++ [some (blkOf 3 []), some (blkOf 3 (z.map (AVal.i .i64)))], h.length, h.length) := by
  have hl : 0 < z.length := by
    cases z with
    | nil => exact absurd rfl h0
    | cons a l => simp
  rcases hr with ⟨rfl, rfl⟩ | ⟨q, cap, blk, rfl, hb, hn, hc⟩
  · exact absurd rfl h0
  · refine g74_ok (meansX_ok F1 ro) rfl ?_
    unfold g74
    have hr : IsRow ro h (.sl q z.length cap) z := .inr ⟨q, cap, blk, rfl, hb, hn, hc⟩
    have e1 : evP .e (.nilcmp false (.c (.sl q z.length cap))) = some (.b false) := rfl
    have e2 : stepM ro ⟨h, h.length, h.length⟩ (.bsl 3 1 [(AVal.i IntKind.i64 0)] 0 []) = some (.sl ⟨false, h.length, 0⟩ 0 (.known 0), ⟨h ++ [some (blkOf 3 [])], h.length, h.length⟩) := rfl
    have e3 : stepM ro ⟨h ++ [some (blkOf 3 [])], h.length, h.length⟩ (.app 3 1 8 [(AVal.i IntKind.i64 0)] (.c (.sl ⟨false, h.length, 0⟩ 0 (.known 0))) (.c (.sl q z.length cap))) =
        some (.sl ⟨false, h.length + 1, 0⟩ z.length .grow, ⟨h ++ [some (blkOf 3 []), some (blkOf 3 (z.map (AVal.i .i64)))], h.length, h.length⟩) := by
      have h1 : Nat.ble (0 + z.length) 0 = false := by
        cases hh : Nat.ble (0 + z.length) 0
        · rfl
        · rw [Nat.ble_eq] at hh; omega
      have h2 : rdB ro (h ++ [some (blkOf 3 [])]) ⟨false, h.length, 0⟩ = some (blkOf 3 []) := rdB_heap (lget_last _ _) 0
      have h3 : (Nat.ble (0 + 0 * 1) (blkOf 3 []).n && fits (0 + z.length) 8) = true := by
        rw [fits_small (by omega) (by omega)]; rfl
      have hsrc := src_row (hr.ext [some (blkOf 3 [])])
      simp only [stepM, stepK, opd, st_app, hsrc, app_known, h1, cond_false, h2, h3, cond_true, newB, St.mm]
      simp [Tr.row]
    simp only [e1, bindO_some, asB_b, cond_false, e2, bindP_some, e3, tupA]
    simp [finM, gc, not_bel (Nat.le_succ _)]

/-- counting -/
def visCount (ro : List ABlk) (n bv : Nat) : Vis ro n where
  S := Int
  f := 76
  bv := bv
  V := fun s hp => ∃ blk, lget hp bv = some (some blk) ∧ blk.n = 1 ∧ blk.c.get 0 = .i .i64 s
  Q := fun _ => True
  next := fun s _ => wr .i64 (s + 1)
  cont := fun _ _ => true
  keep := fun s hp hp' ⟨blk, h1, h2, h3⟩ _ h => ⟨blk, by rw [h]; exact h1, h2, h3⟩
  visit := fun s hp v z ⟨blk, h1, h2, h3⟩ _ hbv hr hne hz => by
    have hst := st_heap (ro := ro) (l := hp.length) (p := hp.length) h1 (by omega : 0 < blk.n) (v := .i .i64 (wr .i64 (s + 1))) rfl rfl rfl
    refine ⟨hp.set bv (some { blk with c := blk.c.set 0 (.i .i64 (wr .i64 (s + 1))) }), bv, hp.length, g76_ok (meansX_ok F1 ro) rfl ?_, ⟨_, lget_set h1 _, h2, by simp [get_set]⟩, .inl trivial, fun _ => trivial, by simp, fun i hi hne => by rw [List.getElem?_set_ne (fun h => hne h.symm)]⟩
    unfold g76
    simp only [ld_heap (m := ⟨hp, hp.length, hp.length⟩) rfl h1 (by omega : 0 < blk.n), h3, bindO_some, asI_i, forceI_eq, hst, bindP_some, tupA, Nat.min_eq_right (Nat.le_of_lt hbv)]
    have hble : Nat.ble hp.length hp.length = true := by rw [Nat.ble_eq]; exact Nat.le_refl _
    simp [finM, gc, hble, AVal.bel, List.take_of_length_le]

/-- keeping the first one -/
def visLeast (ro : List ABlk) (n bv : Nat) (hn : 0 < n) (hn7 : n ≤ 7) : Vis ro n where
  S := Option (List Nat)
  f := 73
  bv := bv
  V := fun s hp => ∃ blk, lget hp bv = some (some blk) ∧ blk.n = 1 ∧ (match s with
    | none => blk.c.get 0 = .nsl
    | some z => ∃ b, blk.c.get 0 = .sl ⟨false, b, 0⟩ z.length .grow ∧ bv < b ∧ IsRow ro hp (.sl ⟨false, b, 0⟩ z.length .grow) (nts z))
  Q := fun s => s = none
  next := fun _ z => some z
  cont := fun _ _ => false
  keep := fun s hp hp' ⟨blk, h1, h2, h3⟩ hq h => ⟨blk, by rw [h]; exact h1, h2, by subst hq; exact h3⟩
  visit := fun s hp v z ⟨blk, h1, h2, h3⟩ hq hbv hr hne hz => by
    have hzl : (nts z).length = n := by rw [nts_len]; exact hz
    have hcl := clone_ok hr (fun h => by rw [h] at hzl; simp at hzl; omega) (by omega)
    have hcall := callM_eq (call := callX F1 ro) (m := ⟨hp, hp.length, hp.length⟩) hcl
    simp only [Nat.min_self] at hcall
    obtain ⟨hp1, hhp1⟩ : ∃ hp1, hp1 = hp ++ [some (blkOf 3 []), some (blkOf 3 ((nts z).map (AVal.i .i64)))] := ⟨_, rfl⟩
    rw [← hhp1] at hcall
    have hb1 : lget hp1 bv = some (some blk) := by rw [hhp1]; exact lget_ext h1 _
    have hst := st_ptr (ro := ro) (l := hp.length) (p := hp.length) hb1 (by omega : 0 < blk.n) (v := .sl ⟨false, hp.length + 1, 0⟩ (nts z).length .grow) rfl rfl rfl
    refine ⟨hp1.set bv (some { blk with c := blk.c.set 0 (.sl ⟨false, hp.length + 1, 0⟩ (nts z).length .grow) }), bv, bv, g73_ok (meansX_ok F1 ro) rfl ?_, ⟨_, lget_set hb1 _, h2, hp.length + 1, by simp [get_set, nts_len], by omega, ?_⟩, .inr (Nat.le_refl _), (fun h => by cases h), by rw [List.length_set, hhp1, List.length_append]; omega, fun i hi hne => by
      rw [List.getElem?_set_ne (fun h => hne h.symm), hhp1, List.getElem?_append_left hi]⟩
    · unfold g73
      simp only [meansX_call, hcall, bindP_some, hst, tupA, Nat.min_eq_right (Nat.le_of_lt hbv)]
      have hble : Nat.ble hp.length bv = false := by
        cases hh : Nat.ble hp.length bv
        · rfl
        · rw [Nat.ble_eq] at hh; omega
      simp [finM, gc, hble]
    · refine .inr ⟨_, _, blkOf 3 ((nts z).map (AVal.i .i64)), by rw [nts_len], rdB_heap (by
        rw [lget_eq, List.getElem?_set_ne (by omega), hhp1, List.getElem?_append_right (by omega)]
        simp) 0, by simp [blkOf, nts_len], fun j hj => ?_⟩
      rw [get_blk, Nat.zero_add, map_getD hj]

theorem each_ok {ro : List ABlk} {x : List (List Int)} (hf : fullP x) (Vi : Vis ro x.length) {h : Heap} {bg : Nat} (hg : ∃ blk, lget h bg = some (some blk) ∧ blk.n = 113 ∧ GrOf blk.c x) (hbg : bg ≠ Vi.bv) (hbv : Vi.bv < h.length) {s : Vi.S} (hV : Vi.V s h) (hQ : Vi.Q s) :
    ∃ h' lw lp, callX F1 ro 72 [.p (some ⟨false, bg, 0⟩), .fn Vi.f [] [.p (some ⟨false, Vi.bv, 0⟩)]] h = some (.tup [], h', lw, lp) ∧ Vi.V (runV Vi.next Vi.cont s (tl x x.length [])).1 h' ∧ (Vi.Q (runV Vi.next Vi.cont s (tl x x.length [])).1 ∨ lp ≤ Vi.bv) ∧ h.length ≤ h'.length ∧ ∀ i, i < h.length → i ≠ Vi.bv → h'[i]? = h[i]? := by
  have h7 := hf.1.1.2.1
  obtain ⟨gb, hg1, hg2, hg3⟩ := hg
  have hglt := lget_lt hg1
  obtain ⟨L, hL⟩ : ∃ L, L = h.length := ⟨_, rfl⟩
  obtain ⟨vf, hvf⟩ : ∃ vf, vf = AVal.fn Vi.f [] [.p (some ⟨false, Vi.bv, 0⟩)] := ⟨_, rfl⟩
  obtain ⟨B3, hB3⟩ : ∃ B, B = blkOf 55 [.p (some ⟨false, bg, 0⟩)] := ⟨_, rfl⟩
  obtain ⟨B4, hB4⟩ : ∃ B, B = blkOf 88 [vf] := ⟨_, rfl⟩
  obtain ⟨BC, hBC⟩ : ∃ B, B = blkOf 3 (rep [AVal.i .i64 0] x.length) := ⟨_, rfl⟩
  obtain ⟨B5, hB5⟩ : ∃ B : ABlk, B = { blkOf 32 [AVal.nsl] with c := (blkOf 32 [AVal.nsl]).c.set 0 (.sl ⟨false, L + 2, 0⟩ x.length (.known x.length)) } := ⟨_, rfl⟩
  obtain ⟨fv, hfv⟩ : ∃ fv, fv = AVal.fn 92 [] [.p (some ⟨false, L, 0⟩), .p (some ⟨false, L + 1, 0⟩), .p (some ⟨false, L + 3, 0⟩), .p (some ⟨false, L + 4, 0⟩)] := ⟨_, rfl⟩
  obtain ⟨B6, hB6⟩ : ∃ B : ABlk, B = { blkOf 107 [AVal.nfn] with c := (blkOf 107 [AVal.nfn]).c.set 0 fv } := ⟨_, rfl⟩
  have s1 : stepM ro ⟨h, L, L⟩ (.bx 55 1 (.c (.p (some ⟨false, bg, 0⟩)))) = some (.p (some ⟨false, L, 0⟩), ⟨h ++ [some B3], L, L⟩) := by rw [hB3, hL]; rfl
  have s2 : stepM ro ⟨h ++ [some B3], L, L⟩ (.bx 88 1 (.c vf)) = some (.p (some ⟨false, L + 1, 0⟩), ⟨h ++ [some B3] ++ [some B4], L, L⟩) := by
    rw [hB4, hvf]; simp [stepM, stepK, st_bx, opd, AVal.cells, newB, St.mm, hL]
  have l2 : lget (h ++ [some B3] ++ [some B4]) L = some (some B3) := by rw [lget_eq, hL]; simp
  have lg2 : lget (h ++ [some B3] ++ [some B4]) bg = some (some gb) := lget_ext (lget_ext hg1 _) _
  have hrep : ∀ n, (rep [AVal.i .i64 0] n).length = n := fun n => by
    induction n with
    | zero => rfl
    | succ n ih => simp [rep, ih]
  have s3 : stepM ro ⟨h ++ [some B3] ++ [some B4], L, L⟩ (.mk 3 1 8 [(AVal.i IntKind.i64 0)] (.c (.i .i64 x.length)) (.c (.i .i64 x.length))) = some (.sl ⟨false, L + 2, 0⟩ x.length (.known x.length), ⟨h ++ [some B3] ++ [some B4] ++ [some BC], L, L⟩) := by
    have hc : (Nat.ble x.length x.length && Nat.ble x.length 1048576 && Nat.ble (x.length * 8) 281474976710656) = true := by
      simp only [Bool.and_eq_true, Nat.ble_eq]; omega
    have e : ((x.length : Int)) = Int.ofNat x.length := rfl
    rw [e]
    simp only [stepM, stepK, opd, st_mk, hc, cond_true, newB, St.mm]
    simp [hBC, hL]
  have s4 : stepM ro ⟨h ++ [some B3] ++ [some B4] ++ [some BC], L, L⟩ (.al 32 [AVal.nsl]) = some (.p (some ⟨false, L + 3, 0⟩), ⟨h ++ [some B3] ++ [some B4] ++ [some BC] ++ [some (blkOf 32 [AVal.nsl])], L, L⟩) := by
    simp [stepM, stepK, newB, St.mm, hL]
  have len3 : (h ++ [some B3] ++ [some B4] ++ [some BC]).length = L + 3 := by simp [hL]
  have l4 : lget (h ++ [some B3] ++ [some B4] ++ [some BC] ++ [some (blkOf 32 [AVal.nsl])]) (L + 3) = some (some (blkOf 32 [AVal.nsl])) := by
    rw [← len3]; exact lget_last _ _
  have s5 := st_ptr (ro := ro) (l := L) (p := L) l4 (by simp [blkOf] : 0 < (blkOf 32 [AVal.nsl]).n) (v := .sl ⟨false, L + 2, 0⟩ x.length (.known x.length)) rfl rfl rfl
  have hset5 : (h ++ [some B3] ++ [some B4] ++ [some BC] ++ [some (blkOf 32 [AVal.nsl])]).set (L + 3) (some B5) = h ++ [some B3] ++ [some B4] ++ [some BC] ++ [some B5] := by
    rw [← len3]; simp
  rw [← hB5, hset5, Nat.min_eq_left (by omega : L ≤ L + 3)] at s5
  have s6 : stepM ro ⟨h ++ [some B3] ++ [some B4] ++ [some BC] ++ [some B5], L, L⟩ (.al 107 [AVal.nfn]) = some (.p (some ⟨false, L + 4, 0⟩), ⟨h ++ [some B3] ++ [some B4] ++ [some BC] ++ [some B5] ++ [some (blkOf 107 [AVal.nfn])], L, L⟩) := by
    simp [stepM, stepK, newB, St.mm, hL]
  have len4 : (h ++ [some B3] ++ [some B4] ++ [some BC] ++ [some B5]).length = L + 4 := by simp [hL]
  have l6 : lget (h ++ [some B3] ++ [some B4] ++ [some BC] ++ [some B5] ++ [some (blkOf 107 [AVal.nfn])]) (L + 4) = some (some (blkOf 107 [AVal.nfn])) := by
    rw [← len4]; exact lget_last _ _
  have s7 := st_ptr (ro := ro) (l := L) (p := L) l6 (by simp [blkOf] : 0 < (blkOf 107 [AVal.nfn]).n) (v := fv) (by rw [hfv]; rfl) (by rw [hfv]; rfl) (by rw [hfv]; rfl)
  have hset7 : (h ++ [some B3] ++ [some B4] ++ [some BC] ++ [some B5] ++ [some (blkOf 107 [AVal.nfn])]).set (L + 4) (some B6) = h ++ [some B3] ++ [some B4] ++ [some BC] ++ [some B5] ++ [some B6] := by
    rw [← len4]; simp
  rw [← hB6, hset7, Nat.min_eq_left (by omega : L ≤ L + 4)] at s7
  obtain ⟨H, hH⟩ : ∃ H, H = h ++ [some B3] ++ [some B4] ++ [some BC] ++ [some B5] ++ [some B6] := ⟨_, rfl⟩
  rw [← hH] at s7
  have hHl : H.length = L + 5 := by rw [hH]; simp [hL]
  have hHh : ∀ i, i < L → H[i]? = h[i]? := fun i hi => by
    rw [hH]; simp only [List.append_assoc]; rw [List.getElem?_append_left (by omega)]
  have k3 : lget H L = some (some B3) := by rw [lget_eq, hH, hL]; simp
  have k4 : lget H (L + 1) = some (some B4) := by rw [lget_eq, hH, hL]; simp
  have kc : lget H (L + 2) = some (some BC) := by rw [lget_eq, hH, hL]; simp
  have k5 : lget H (L + 3) = some (some B5) := by rw [lget_eq, hH, hL]; simp
  have k6 : lget H (L + 4) = some (some B6) := by rw [lget_eq, hH, hL]; simp
  have kg : lget H bg = some (some gb) := by rw [lget_of (hHh bg (by omega))]; exact hg1
  have hCh : Ch x (.fn Vi.f [] [.p (some ⟨false, Vi.bv, 0⟩)]) bg L (L + 1) (L + 3) (L + 4) (L + 2) H :=
    ⟨⟨gb, kg, hg2, hg3⟩, ⟨B3, k3, by rw [hB3]; rfl, by rw [hB3]; rfl⟩, ⟨B4, k4, by rw [hB4]; rfl, by rw [hB4, ← hvf]; rfl⟩, ⟨B5, k5, by rw [hB5]; rfl, by rw [hB5]; simp [get_set]⟩, ⟨B6, k6, by rw [hB6]; rfl, by rw [hB6]; simp only [get_set_same]; exact hfv⟩⟩
  have hCo : Cols x (L + 2) H [] := ⟨BC, kc, by rw [hBC]; exact hrep _, fun j hj => by simp at hj⟩
  obtain ⟨h1, lw, lp, c1, c2, c3, c4, c5, c6⟩ := choose_ok hf Vi (bg := bg) (b3 := L) (b4 := L + 1) (b5 := L + 3) (b6 := L + 4) (bc := L + 2) (fun i hi => by omega) (by omega) x.length [] H s 0 0 (by simp) hCh hCo
    (Vi.keep _ _ _ hV hQ (lget_of (hHh _ (by omega)))) hQ (by omega) ⟨by omega, fun c => by simp⟩ ⟨by omega, fun q => by simp⟩
  have hcall := callM_eq (call := callX F1 ro) (m := ⟨H, L, L⟩) c1
  have hgc : ∃ h', finM L (.tup []) ⟨h1, min L lw, min L lp⟩ = some (.tup [], h', min L lw, min L lp) ∧ (h' = h1 ∨ (L ≤ lp ∧ h' = h1.take L)) := by
    by_cases hle : L ≤ lp
    · exact ⟨h1.take L, by simp [finM, gc, AVal.bel, bels, Nat.min_eq_left hle], .inr ⟨hle, rfl⟩⟩
    · refine ⟨h1, ?_, .inl rfl⟩
      have : Nat.ble L (min L lp) = false := by
        cases hh : Nat.ble L (min L lp)
        · rfl
        · rw [Nat.ble_eq] at hh; omega
      simp [finM, gc, this]
  obtain ⟨h', f1, f2⟩ := hgc
  have hkeep1 : ∀ i, i < h.length → i ≠ Vi.bv → h1[i]? = h[i]? := fun i hi hne => by
    rw [c5.2 i (by omega) hne (by omega), hHh i (by omega)]
  have hlen1 : h.length ≤ h1.length := by have := c5.1; omega
  refine ⟨h', min L lw, min L lp, g72_ok (meansX_ok F1 ro) rfl ?_, ?_, c3.imp id fun h => by omega, ?_, ?_⟩
  · unfold g72
    rw [← hL, ← hvf]
    have e5 : ldM ro ⟨H, L, L⟩ true 1 (.p (some ⟨false, L + 4, 0⟩)) = some fv := by rw [ld_heap rfl k6 (by rw [hB6]; simp [blkOf]), hB6]; simp [get_set]
    have e2 : ldM ro ⟨h ++ [some B3] ++ [some B4], L, L⟩ true 1 (.p (some ⟨false, L, 0⟩)) = some (.p (some ⟨false, bg, 0⟩)) := by rw [ld_heap rfl l2 (by rw [hB3]; simp [blkOf]), hB3]; rfl
    have e1 : ldM ro ⟨h ++ [some B3] ++ [some B4], L, L⟩ true 1 (.p (some ⟨false, bg, 0 + 0⟩)) = some (.i .i64 x.length) := by
      obtain ⟨met, q1, q2⟩ := hg3
      rw [ld_heap rfl lg2 (by omega), q1.size]
    simp only [s1, bindP_some, s2, e2, bindO_some, p_nilck, p_faddr, e1, asI_i, s3, s4, s5, s6]
    rw [← hfv]
    simp only [s7, bindP_some, e5, bindO_some, meansX_call]
    rw [hfv]
    simp only [callvM, List.nil_append, List.cons_append]
    have hz : ((([] : List Nat).length : Nat) : Int) = 0 := rfl
    have hz2 : ((0 : Nat) : Int) = 0 := rfl
    rw [hz, hz2] at hcall
    rw [hcall]
    simp only [bindP_some, asB_b, tupA]
    exact f1
  · rcases f2 with rfl | ⟨hle, rfl⟩
    · exact c2
    · have hq : Vi.Q (runV Vi.next Vi.cont s (tl x x.length [])).1 := c3.elim id fun h => by omega
      exact Vi.keep _ _ _ c2 hq (lget_take (by omega))
  · rcases f2 with rfl | ⟨hle, rfl⟩
    · exact hlen1
    · simp; omega
  · intro i hi hne
    rcases f2 with rfl | ⟨hle, rfl⟩
    · exact hkeep1 i hi hne
    · rw [List.getElem?_take, if_pos (by omega)]; exact hkeep1 i hi hne
end Go.Proofs.Ytllmlonngnhbfaa.Bed

/- Transversal and Transversals of the program. -/
open Go.Vm
set_option linter.unusedVariables false
namespace Go.Proofs.Ytllmlonngnhbfaa.Bed
open Go

def trs (x : List (List Int)) : List (List Nat) := tl x x.length []
theorem trs_len {x : List (List Int)} (h7 : x.length ≤ 7) : (trs x).length ≤ 823543 := by
  have h1 := tl_len h7 x.length []
  have h2 : 7 ^ x.length ≤ 7 ^ 7 := Nat.pow_le_pow_right (by omega) h7
  have h3 : (7 : Nat) ^ 7 = 823543 := by decide
  unfold trs
  omega

theorem run_count {ro : List ABlk} {n bv : Nat} : ∀ (l : List (List Nat)) (s : Nat), s + l.length ≤ 1000000 → runV (visCount ro n bv).next (visCount ro n bv).cont (s : Int) l = (((s + l.length : Nat) : Int), true)
  | [], s, _ => rfl
  | z :: l, s, h => by
    simp only [List.length_cons] at h
    have e : wr .i64 ((s : Int) + 1) = ((s + 1 : Nat) : Int) := by rw [wr_id' (by omega) (by omega)]; omega
    show cond true (runV (visCount ro n bv).next (visCount ro n bv).cont (wr .i64 ((s : Int) + 1)) l) _ = _
    rw [e, cond_true, run_count l (s + 1) (by omega)]
    simp only [List.length_cons]
    congr 1
    omega
theorem run_least {ro : List ABlk} {n bv : Nat} {hn : 0 < n} {h7 : n ≤ 7} : ∀ (l : List (List Nat)), (runV (visLeast ro n bv hn h7).next (visLeast ro n bv hn h7).cont none l).1 = l.head?
  | [] => rfl
  | z :: l => rfl

theorem take_eq {h h' : Heap} (hl : h.length ≤ h'.length) (hk : ∀ i, i < h.length → h'[i]? = h[i]?) : h' = h ++ h'.drop h.length := by
  have : h'.take h.length = h := by
    refine List.ext_getElem? fun i => ?_
    rw [List.getElem?_take]
    split
    · rename_i hi; exact hk i hi
    · rename_i hi; rw [List.getElem?_eq_none (by omega)]
  conv => lhs; rw [← List.take_append_drop h.length h', this]
theorem fin_gen {h h' : Heap} {v : AVal} {l p : Nat} (hl : h.length ≤ h'.length) (hk : ∀ i, i < h.length → h'[i]? = h[i]?) : ∃ y, finM h.length v ⟨h', l, p⟩ = some (v, h ++ y, l, p) ∧ (v.bel h.length = false → h ++ y = h') := by
  have he := take_eq hl hk
  by_cases hc : (Nat.ble h.length p && v.bel h.length) = true
  · refine ⟨[], ?_, fun hb => by rw [hb] at hc; simp at hc⟩
    have ht : h'.take h.length = h := by rw [he]; simp
    simp only [finM, gc, Mm.st, hc, if_true, ht, List.append_nil]
  · refine ⟨h'.drop h.length, ?_, fun _ => he.symm⟩
    simp only [finM, gc, Mm.st, hc]
    rw [← he]
    rfl

theorem transversals_ok {ro : List ABlk} {h : Heap} {a : AVal} {x : List (List Int)} (ha : IsMat ro h a x) (hf : fullP x) :
    ∃ y lw lp, callX F1 ro 33 [a] h = some (.tup [.i .i64 ((trs x).length : Nat), .i .i64 0], h ++ y, lw, lp) := by
  have h7 := hf.1.1.2.1
  obtain ⟨blk, hrd, hbn, hg⟩ := readFull_ok ha hf
  have hcall := callM_eq (call := callX F1 ro) (m := ⟨h, h.length, h.length⟩) hrd
  simp only [Nat.min_self] at hcall
  obtain ⟨C, hC⟩ : ∃ C : ABlk, C = { blkOf 3 [AVal.i .i64 0] with c := (blkOf 3 [AVal.i .i64 0]).c.set 0 (.i .i64 0) } := ⟨_, rfl⟩
  have s1 : stepM ro ⟨h ++ [some blk], h.length, h.length⟩ (.al 3 [(AVal.i IntKind.i64 0)]) = some (.p (some ⟨false, h.length + 1, 0⟩), ⟨h ++ [some blk] ++ [some (blkOf 3 [AVal.i .i64 0])], h.length, h.length⟩) := by
    simp [stepM, stepK, newB, St.mm]
  have len1 : (h ++ [some blk]).length = h.length + 1 := by simp
  have l1 : lget (h ++ [some blk] ++ [some (blkOf 3 [AVal.i .i64 0])]) (h.length + 1) = some (some (blkOf 3 [AVal.i .i64 0])) := by rw [← len1]; exact lget_last _ _
  have s2 := st_heap (ro := ro) (l := h.length) (p := h.length) l1 (by simp [blkOf] : 0 < (blkOf 3 [AVal.i .i64 0]).n) (v := .i .i64 0) rfl rfl rfl
  have hset : (h ++ [some blk] ++ [some (blkOf 3 [AVal.i .i64 0])]).set (h.length + 1) (some C) = h ++ [some blk] ++ [some C] := by rw [← len1]; simp
  rw [← hC, hset, Nat.min_eq_left (by omega : h.length ≤ h.length + 1)] at s2
  have hbg : lget (h ++ [some blk] ++ [some C]) h.length = some (some blk) := lget_ext (lget_last _ _) _
  have hV : (visCount ro x.length (h.length + 1)).V ((0 : Nat) : Int) (h ++ [some blk] ++ [some C]) := ⟨C, by rw [← len1]; exact lget_last _ _, by rw [hC]; rfl, by rw [hC]; rfl⟩
  obtain ⟨h', lw, lp, c1, c2, c3, c4, c5⟩ := each_ok hf (visCount ro x.length (h.length + 1)) (h := h ++ [some blk] ++ [some C]) (bg := h.length) ⟨blk, hbg, hbn, hg⟩ (by show h.length ≠ h.length + 1; omega) (by show h.length + 1 < _; simp) hV trivial
  rw [show tl x x.length [] = trs x from rfl, run_count (trs x) 0 (by have := trs_len h7; omega)] at c2
  obtain ⟨cb, d1, d2, d3⟩ := c2
  simp only [Nat.zero_add] at d3
  have hcall2 := callM_eq (call := callX F1 ro) (m := ⟨h ++ [some blk] ++ [some C], h.length, h.length⟩) c1
  have hl' : h.length ≤ h'.length := by simp at c4; omega
  have hk' : ∀ i, i < h.length → h'[i]? = h[i]? := fun i hi => by
    rw [c5 i (by simp; omega) (by show i ≠ h.length + 1; omega), List.append_assoc, List.getElem?_append_left hi]
  obtain ⟨y, f1, -⟩ := fin_gen (v := .tup [.i .i64 ((trs x).length : Nat), .i .i64 0]) (l := min h.length lw) (p := min h.length lp) hl' hk'
  refine ⟨y, min h.length lw, min h.length lp, g33_ok (meansX_ok F1 ro) rfl ?_⟩
  unfold g33
  have e1 : ldM ro ⟨h', min h.length lw, min h.length lp⟩ true 1 (.p (some ⟨false, h.length + 1, 0⟩)) = some (.i .i64 ((trs x).length : Nat)) := by rw [ld_heap rfl d1 (by omega), d3]
  simp only [meansX_call, hcall, bindP_some, evP, ev_ext, opd, lget, bindO_some, asI_i, eqI_eq, forceB_eq, beq_self_eq_true, Bool.not_true, cond_false, s1, s2]
  have hcall2' : callM (callX F1 ro) ⟨h ++ [some blk] ++ [some C], h.length, h.length⟩ 72 [.p (some ⟨false, h.length, 0⟩), .fn 76 [] [.p (some ⟨false, h.length + 1, 0⟩)]] = some (.tup [], ⟨h', min h.length lw, min h.length lp⟩) := hcall2
  simp only [hcall2', bindP_some, e1, bindO_some, asI_i, tupA]
  exact f1

theorem transversal_ok {ro : List ABlk} {h : Heap} {a : AVal} {x : List (List Int)} (ha : IsMat ro h a x) (hf : fullP x) :
    ∃ v e y lw lp, callX F1 ro 31 [a] h = some (.tup [v, .i .i64 e], h ++ y, lw, lp) ∧ (match (trs x).head? with
      | none => v = .nsl ∧ e = 10
      | some z => e = 0 ∧ IsRow ro (h ++ y) v (nts z)) := by
  have h7 := hf.1.1.2.1
  have h1 := hf.1.1.1
  obtain ⟨blk, hrd, hbn, hg⟩ := readFull_ok ha hf
  have hcall := callM_eq (call := callX F1 ro) (m := ⟨h, h.length, h.length⟩) hrd
  simp only [Nat.min_self] at hcall
  obtain ⟨C, hC⟩ : ∃ C : ABlk, C = blkOf 32 [AVal.nsl] := ⟨_, rfl⟩
  have s1 : stepM ro ⟨h ++ [some blk], h.length, h.length⟩ (.al 32 [AVal.nsl]) = some (.p (some ⟨false, h.length + 1, 0⟩), ⟨h ++ [some blk] ++ [some C], h.length, h.length⟩) := by
    simp [stepM, stepK, newB, St.mm, hC]
  have len1 : (h ++ [some blk]).length = h.length + 1 := by simp
  have hbg : lget (h ++ [some blk] ++ [some C]) h.length = some (some blk) := lget_ext (lget_last _ _) _
  have hV : (visLeast ro x.length (h.length + 1) (by omega) h7).V none (h ++ [some blk] ++ [some C]) := ⟨C, by rw [← len1]; exact lget_last _ _, by rw [hC]; rfl, by rw [hC]; rfl⟩
  obtain ⟨h', lw, lp, c1, c2, c3, c4, c5⟩ := each_ok hf (visLeast ro x.length (h.length + 1) (by omega) h7) (h := h ++ [some blk] ++ [some C]) (bg := h.length) ⟨blk, hbg, hbn, hg⟩ (by show h.length ≠ h.length + 1; omega) (by show h.length + 1 < _; simp) hV rfl
  rw [show tl x x.length [] = trs x from rfl, run_least] at c2
  obtain ⟨cb, d1, d2, d3⟩ := c2
  have hcall2 : callM (callX F1 ro) ⟨h ++ [some blk] ++ [some C], h.length, h.length⟩ 72 [.p (some ⟨false, h.length, 0⟩), .fn 73 [] [.p (some ⟨false, h.length + 1, 0⟩)]] = some (.tup [], ⟨h', min h.length lw, min h.length lp⟩) :=
    callM_eq (call := callX F1 ro) (m := ⟨h ++ [some blk] ++ [some C], h.length, h.length⟩) c1
  have hl' : h.length ≤ h'.length := by simp at c4; omega
  have hk' : ∀ i, i < h.length → h'[i]? = h[i]? := fun i hi => by
    rw [c5 i (by simp; omega) (by show i ≠ h.length + 1; omega), List.append_assoc, List.getElem?_append_left hi]
  have e1 : ldM ro ⟨h', min h.length lw, min h.length lp⟩ true 1 (.p (some ⟨false, h.length + 1, 0⟩)) = some (cb.c.get 0) := ld_heap rfl d1 (by omega)
  cases hd : (trs x).head? with
  | none =>
    rw [hd] at d3
    obtain ⟨y, f1, -⟩ := fin_gen (v := .tup [.nsl, .i .i64 10]) (l := min h.length lw) (p := min h.length lp) hl' hk'
    refine ⟨.nsl, 10, y, min h.length lw, min h.length lp, g31_ok (meansX_ok F1 ro) rfl ?_, rfl, rfl⟩
    unfold g31
    simp only at d3
    simp only [meansX_call, hcall, bindP_some, evP, ev_ext, opd, lget, bindO_some, asI_i, eqI_eq, forceB_eq, beq_self_eq_true, Bool.not_true, cond_false, s1, hcall2, e1, d3, ev_nilcmp, Bool.not_false, asB_b, cond_true, tupA]
    exact f1
  | some z =>
    rw [hd] at d3
    obtain ⟨b, d4, d5, d6⟩ := d3
    have hnb : (AVal.tup [.sl ⟨false, b, 0⟩ z.length .grow, .i .i64 0]).bel h.length = false := by
      have : (AVal.sl ⟨false, b, 0⟩ z.length .grow).bel h.length = false := not_bel (by omega)
      simp only [AVal.bel, bels] at this ⊢
      rw [this]; rfl
    obtain ⟨y, f1, f2⟩ := fin_gen (v := .tup [.sl ⟨false, b, 0⟩ z.length .grow, .i .i64 0]) (l := min h.length lw) (p := min h.length lp) hl' hk'
    refine ⟨.sl ⟨false, b, 0⟩ z.length .grow, 0, y, min h.length lw, min h.length lp, g31_ok (meansX_ok F1 ro) rfl ?_, rfl, by rw [f2 hnb]; exact d6⟩
    unfold g31
    simp only [meansX_call, hcall, bindP_some, evP, ev_ext, opd, lget, bindO_some, asI_i, eqI_eq, forceB_eq, beq_self_eq_true, Bool.not_true, cond_false, s1, hcall2, e1, d4, ev_nilcmp, asB_b, tupA]
    exact f1

end Go.Proofs.Ytllmlonngnhbfaa.Bed

/- The reference's transversals. -/
open Go.Vm
set_option linter.unusedVariables false
namespace Go.Proofs.Ytllmlonngnhbfaa.Bed
open Go

/-- the new list is the old one or lies in new memory -/
def Newer (L : Nat) (v v' : AVal) (F F' : List (List Int)) : Prop := (v' = v ∧ F' = F) ∨ ∃ b len cap, v' = .sl ⟨false, b, 0⟩ len cap ∧ L ≤ b
theorem Newer.trans {L L' : Nat} {v v' v'' : AVal} {F F' F'' : List (List Int)} (h : Newer L v v' F F') (k : Newer L' v' v'' F' F'') (hl : L ≤ L') : Newer L v v'' F F'' := by
  rcases k with ⟨rfl, rfl⟩ | ⟨b, len, cap, rfl, hb⟩
  · exact h
  · exact .inr ⟨b, len, cap, rfl, by omega⟩

theorem trs_elem {x : List (List Int)} : ∀ (k : Nat) (now z : List Nat), z ∈ tl x k now → z.length = now.length + k
  | 0, now, z, h => by simp [tl] at h; subst h; rfl
  | k + 1, now, z, h => by
    have key : ∀ j c, z ∈ tlc (fun c => if okT x now c then tl x k (now ++ [c]) else []) j c → z.length = now.length + (k + 1) := by
      intro j
      induction j with
      | zero => intro c h; simp [tlc] at h
      | succ j ih =>
        intro c h
        simp only [tlc, List.mem_append] at h
        rcases h with h | h
        · split at h
          · have := trs_elem k _ _ h
            simp at this
            omega
          · simp at h
        · exact ih _ h
    exact key _ _ h
end Go.Proofs.Ytllmlonngnhbfaa.Bed

/- Loops that count; Mates of the program. -/
open Go.Vm
set_option linter.unusedVariables false
namespace Go.Proofs.Ytllmlonngnhbfaa.Bed
open Go

/-- loops that count up to n, with a state, that may end early -/
theorem loop_upto {R : Type} {b : Int × Mm → Option ((Int × Mm) ⊕ (Mm ⊕ R))} (n : Nat) (I : Nat → Mm → Prop) (Q : R → Prop)
    (hin : ∀ i m, i < n → I i m → (∃ m', b ((i : Int), m) = some (.inl (((i + 1 : Nat) : Int), m')) ∧ I (i + 1) m') ∨ (∃ r, b ((i : Int), m) = some (.inr (.inr r)) ∧ Q r))
    (hout : ∀ m, I n m → b ((n : Int), m) = some (.inr (.inl m))) :
    ∀ (k i : Nat) (m : Mm), i + k = n → I i m → ∃ o, loopX b ((i : Int), m) = some o ∧ ((∃ m', o = .inl m' ∧ I n m') ∨ ∃ r, o = .inr r ∧ Q r)
  | 0, i, m, hk, hi => by
    obtain rfl : i = n := by omega
    exact ⟨_, loopX_out (hout m hi), .inl ⟨m, rfl, hi⟩⟩
  | k + 1, i, m, hk, hi => by
    rcases hin i m (by omega) hi with ⟨m', h1, h2⟩ | ⟨r, h1, h2⟩
    · obtain ⟨o, h3, h4⟩ := loop_upto n I Q hin hout k (i + 1) m' (by omega) h2
      exact ⟨o, loopX_on h1 h3, h4⟩
    · exact ⟨_, loopX_out h1, .inr ⟨r, rfl, h2⟩⟩
/-- loops that count up to n, with a state -/
theorem loop_all {b : Int × Mm → Option ((Int × Mm) ⊕ Mm)} (n : Nat) (I : Nat → Mm → Prop)
    (hin : ∀ i m, i < n → I i m → ∃ m', b ((i : Int), m) = some (.inl (((i + 1 : Nat) : Int), m')) ∧ I (i + 1) m')
    (hout : ∀ m, I n m → b ((n : Int), m) = some (.inr m)) :
    ∀ (k i : Nat) (m : Mm), i + k = n → I i m → ∃ m', loopX b ((i : Int), m) = some m' ∧ I n m'
  | 0, i, m, hk, hi => by
    obtain rfl : i = n := by omega
    exact ⟨_, loopX_out (hout m hi), hi⟩
  | k + 1, i, m, hk, hi => by
    obtain ⟨m', h1, h2⟩ := hin i m (by omega) hi
    obtain ⟨o, h3, h4⟩ := loop_all n I hin hout k (i + 1) m' (by omega) h2
    exact ⟨o, loopX_on h1 h3, h4⟩
theorem wr_next {k : Nat} (hk : k ≤ 1000000) : wr .i64 ((k : Int) + 1) = ((k + 1 : Nat) : Int) := by rw [wr_id' (by omega) (by omega)]; omega
theorem lt_yes {i n : Nat} (h : i < n) : decide ((i : Int) < (n : Int)) = true := by simp; omega
theorem lt_no {n : Nat} : decide ((n : Int) < (n : Int)) = false := by simp

theorem rep_len (v : AVal) : ∀ n, (rep [v] n).length = n
  | 0 => rfl
  | n + 1 => by simp [rep, rep_len v n]
theorem rep_get (v : AVal) : ∀ n j, j < n → (rep [v] n).getD j und = v
  | 0, j, h => by omega
  | n + 1, 0, _ => rfl
  | n + 1, j + 1, h => by
    have := rep_get v n j (by omega)
    simpa [rep] using this
/-- new memory for n elements -/
def newBlk (e : Nat) (v : AVal) (n : Nat) : ABlk := blkOf e (rep [v] n)
theorem newBlk_n {e : Nat} {v : AVal} {n : Nat} : (newBlk e v n).n = n := rep_len v n
theorem newBlk_get {e : Nat} {v : AVal} {n j : Nat} (h : j < n) : (newBlk e v n).c.get j = v := by
  unfold newBlk; rw [get_blk, rep_get v n j h]
theorem mk_ok {ro : List ABlk} {hp : Heap} {l p e es bytes : Nat} {v : AVal} {n : Nat} (hn : n ≤ 1000) (hb : bytes ≤ 1000) :
    stepM ro ⟨hp, l, p⟩ (.mk e es bytes [v] (.c (.i .i64 (n : Int))) (.c (.i .i64 (n : Int)))) = some (.sl ⟨false, hp.length, 0⟩ n (.known n), ⟨hp ++ [some (newBlk e v n)], l, p⟩) := by
  have h1 : n * bytes ≤ 1000 * 1000 := Nat.mul_le_mul hn hb
  have hc : (Nat.ble n n && Nat.ble n 1048576 && Nat.ble (n * bytes) 281474976710656) = true := by
    simp only [Bool.and_eq_true, Nat.ble_eq]; omega
  have e : ((n : Int)) = Int.ofNat n := rfl
  rw [e]
  simp only [stepM, stepK, opd, st_mk, hc, cond_true, newB, St.mm]
  rfl
theorem set_end (hp : Heap) (x y : Option ABlk) : (hp ++ [x]).set hp.length y = hp ++ [y] := by simp

/-- a pair of crops is at a place before another one -/
def seenP (x y : List (List Int)) (r c : Nat) (a b : Int) : Prop := ∃ r' c', c' < x.length ∧ (r' < r ∨ (r' = r ∧ c' < c)) ∧ at2 x r' c' = a ∧ at2 y r' c' = b
def mateP (x y : List (List Int)) : Prop := ∀ r c, r < x.length → c < x.length → ¬ seenP x y r c (at2 x r c) (at2 y r c)

theorem seenP_zero {x y : List (List Int)} {a b : Int} : ¬ seenP x y 0 0 a b := by rintro ⟨r', c', h1, h2, -⟩; omega
theorem seenP_row {x y : List (List Int)} {r : Nat} {a b : Int} : seenP x y (r + 1) 0 a b ↔ seenP x y r x.length a b := by
  constructor
  · rintro ⟨r', c', h1, h2, h3⟩; exact ⟨r', c', h1, by omega, h3⟩
  · rintro ⟨r', c', h1, h2, h3⟩; exact ⟨r', c', h1, by omega, h3⟩
theorem seenP_succ {x y : List (List Int)} {r c : Nat} (hc : c < x.length) {a b : Int} : seenP x y r (c + 1) a b ↔ seenP x y r c a b ∨ (a = at2 x r c ∧ b = at2 y r c) := by
  constructor
  · rintro ⟨r', c', h1, h2, h3, h4⟩
    by_cases e : r' = r ∧ c' = c
    · obtain ⟨rfl, rfl⟩ := e
      exact .inr ⟨h3.symm, h4.symm⟩
    · exact .inl ⟨r', c', h1, by omega, h3, h4⟩
  · rintro (⟨r', c', h1, h2, h3⟩ | ⟨rfl, rfl⟩)
    · exact ⟨r', c', h1, by omega, h3⟩
    · exact ⟨r, c, hc, .inr ⟨rfl, by omega⟩, rfl, rfl⟩

open Classical in
/-- the cells of what has been met -/
def MetB (t : Tr) (x y : List (List Int)) (r c : Nat) : Prop := ∀ a b, a < 7 → b < 7 → t.get (a * 7 + b * 1) = .b (decide (seenP x y r c a b))
theorem MetB.row {t : Tr} {x y : List (List Int)} {r : Nat} (h : MetB t x y r x.length) : MetB t x y (r + 1) 0 := fun a b ha hb => by
  rw [h a b ha hb]
  exact congrArg AVal.b (decide_eq_decide.2 seenP_row.symm)
theorem MetB.set {t : Tr} {x y : List (List Int)} {r c : Nat} (h : MetB t x y r c) (hc : c < x.length) {p q : Nat} (hp : at2 x r c = p) (hq : at2 y r c = q) (hp7 : p < 7) (hq7 : q < 7) : MetB (t.set (p * 7 + q * 1) (.b true)) x y r (c + 1) := fun a b ha hb => by
  have := seenP_succ (x := x) (y := y) (r := r) hc (a := (a : Int)) (b := (b : Int))
  rw [get_set]
  by_cases e : p * 7 + q * 1 = a * 7 + b * 1
  · rw [if_pos e]
    have h1 : seenP x y r (c + 1) a b := this.2 (.inr ⟨by omega, by omega⟩)
    exact congrArg AVal.b (@decide_eq_true _ (Classical.propDecidable _) h1).symm
  · rw [if_neg e, h a b ha hb]
    have h1 : seenP x y r (c + 1) a b ↔ seenP x y r c a b := by
      rw [this]
      constructor
      · rintro (h2 | ⟨h2, h3⟩)
        · exact h2
        · exact absurd (by omega) e
      · exact .inl
    exact congrArg AVal.b (decide_eq_decide.2 h1.symm)

theorem full_at {x : List (List Int)} (hf : fullP x) {r c : Nat} (hr : r < x.length) (hc : c < x.length) : ∃ v : Nat, at2 x r c = v ∧ v < x.length := by
  have h0 := hf.2 r c hr hc
  have h1 := ((hf.1.1.2.2 r hr).2 c hc).2
  have h2 : (x.getD r []).getD c 0 = at2 x r c := rfl
  rw [h2] at h1
  exact ⟨(at2 x r c).toNat, by omega, by omega⟩

theorem gr_get {t : Tr} {x : List (List Int)} (hg : GrOf t x) {r c : Nat} (hr : r < x.length) (hc : c < x.length) (h7 : x.length ≤ 7) : t.get (0 + 1 + r * 7 + c * 1) = .i .i64 (at2 x r c) := by
  obtain ⟨met, hg, -⟩ := hg
  rw [Nat.zero_add, hg.crops r c (by omega) (by omega), if_pos ⟨hr, hc⟩]
theorem gr_size {t : Tr} {x : List (List Int)} (hg : GrOf t x) : t.get (0 + 0) = .i .i64 x.length := by
  obtain ⟨met, hg, -⟩ := hg
  exact hg.size

/-- the heap of Mates -/
def StM (h : Heap) (ga gb : ABlk) (x y : List (List Int)) (r c : Nat) (m : Mm) : Prop :=
  ∃ bm : ABlk, m = ⟨h ++ [some ga] ++ [some gb] ++ [some bm], h.length, h.length⟩ ∧ bm.n = 49 ∧ MetB bm.c x y r c ∧ ∀ r' c', c' < x.length → (r' < r ∨ (r' = r ∧ c' < c)) → ¬ seenP x y r' c' (at2 x r' c') (at2 y r' c')

theorem mates_inner {ro : List ABlk} {h : Heap} {ga gb : ABlk} {x y : List (List Int)} (hx : fullP x) (hy : fullP y) (hxy : x.length = y.length)
    (an : ga.n = 113) (ag : GrOf ga.c x) (bn : gb.n = 113) (bg : GrOf gb.c y) {r : Nat} (hr : r < x.length) {m : Mm} (hm : StM h ga gb x y r 0 m) :
    ∃ o, loopX (fun s => g35_b1 (meansX F1 ro) ro (.p (some ⟨false, h.length, 0⟩)) (.p (some ⟨false, h.length + 1, 0⟩)) (.p (some ⟨false, h.length + 2, 0⟩)) r x.length x.length s.1 s.2) (((0 : Nat) : Int), m) = some o ∧
      ((∃ m', o = .inl m' ∧ StM h ga gb x y r x.length m') ∨ (∃ r, o = .inr r ∧ ∃ z, r = (false, 0, ⟨h ++ z, h.length, h.length⟩) ∧ ¬ mateP x y)) := by
  have h7 := hx.1.1.2.1
  refine loop_upto x.length (fun c m => StM h ga gb x y r c m) (fun o => ∃ z, o = ((false, 0, ⟨h ++ z, h.length, h.length⟩) : Bool × Int × Mm) ∧ ¬ mateP x y) ?_ ?_ x.length 0 m (by omega) hm
  · rintro c m hc ⟨bm, rfl, mn, mg, hno⟩
    obtain ⟨p, hp, hp7⟩ := full_at hx hr hc
    obtain ⟨q, hq, hq7⟩ := full_at hy (by omega : r < y.length) (by omega : c < y.length)
    have la : lget (h ++ [some ga] ++ [some gb] ++ [some bm]) h.length = some (some ga) := lget_ext (lget_ext (lget_last _ _) _) _
    have lb : lget (h ++ [some ga] ++ [some gb] ++ [some bm]) (h.length + 1) = some (some gb) := by
      refine lget_ext ?_ _
      have := lget_last (h ++ [some ga]) (some gb)
      rwa [List.length_append, List.length_singleton] at this
    have lm : lget (h ++ [some ga] ++ [some gb] ++ [some bm]) (h.length + 2) = some (some bm) := by
      have := lget_last (h ++ [some ga] ++ [some gb]) (some bm)
      rwa [List.length_append, List.length_append, List.length_singleton, List.length_singleton, Nat.add_assoc] at this
    have qa := lda_heap (ro := ro) la (by omega : 0 + 1 + r * 7 + c * 1 < ga.n)
    rw [gr_get ag hr hc h7, hp] at qa
    have qb := lda_heap (ro := ro) lb (by omega : 0 + 1 + r * 7 + c * 1 < gb.n)
    rw [gr_get bg (by omega) (by omega) (by omega), hq] at qb
    have qm := ld_heap (ro := ro) (m := ⟨h ++ [some ga] ++ [some gb] ++ [some bm], h.length, h.length⟩) rfl lm (by omega : 0 + p * 7 + q * 1 < bm.n)
    have hpq : bm.c.get (0 + p * 7 + q * 1) = _ := (congrArg bm.c.get (by omega : 0 + p * 7 + q * 1 = p * 7 + q * 1)).trans (mg p q (by omega) (by omega))
    rw [hpq] at qm
    by_cases hs : seenP x y r c p q
    · right
      refine ⟨(false, 0, ⟨h ++ [some ga] ++ [some gb] ++ [some bm], h.length, h.length⟩), ?_, [some ga] ++ [some gb] ++ [some bm], by simp, fun hm => hm r c hr hc (by rw [hp, hq]; exact hs)⟩
      simp only [g35_b1, forceB_eq, ltI_eq, lt_yes hc, cond_true, p_nilck, p_faddr, bindO_some, p_ixA (len := 7) (es := 7) rfl (by omega : r < 7), p_ixA (len := 7) (es := 1) rfl (by omega : c < 7), qa, qb, asI_i, p_ixA (len := 7) (es := 7) rfl (by omega : p < 7), p_ixA (len := 7) (es := 1) rfl (by omega : q < 7), qm, asB_b, hs, decide_true]
    · left
      have hst := st_heap (ro := ro) (l := h.length) (p := h.length) lm (by omega : 0 + p * 7 + q * 1 < bm.n) (v := .b true) rfl rfl rfl
      rw [Nat.min_eq_left (by omega)] at hst
      have hset : (h ++ [some ga] ++ [some gb] ++ [some bm]).set (h.length + 2) (some { bm with c := bm.c.set (0 + p * 7 + q * 1) (.b true) }) = h ++ [some ga] ++ [some gb] ++ [some { bm with c := bm.c.set (0 + p * 7 + q * 1) (.b true) }] := by
        have : h.length + 2 = (h ++ [some ga] ++ [some gb]).length := by simp
        rw [this]; simp
      rw [hset] at hst
      refine ⟨_, ?_, { bm with c := bm.c.set (0 + p * 7 + q * 1) (.b true) }, rfl, mn, by rw [Nat.zero_add]; exact mg.set hc hp hq (by omega) (by omega), fun r' c' hc' hh => ?_⟩
      · simp only [g35_b1, forceB_eq, ltI_eq, lt_yes hc, cond_true, p_nilck, p_faddr, bindO_some, p_ixA (len := 7) (es := 7) rfl (by omega : r < 7), p_ixA (len := 7) (es := 1) rfl (by omega : c < 7), qa, qb, asI_i, p_ixA (len := 7) (es := 7) rfl (by omega : p < 7), p_ixA (len := 7) (es := 1) rfl (by omega : q < 7), qm, asB_b, hs, decide_false, cond_false, hst, bindP_some, forceI_eq, wr_next (by omega : c ≤ 1000000)]
      · by_cases e : r' = r ∧ c' = c
        · obtain ⟨rfl, rfl⟩ := e
          rw [hp, hq]; exact hs
        · exact hno r' c' hc' (by omega)
  · rintro m -
    simp only [g35_b1, forceB_eq, ltI_eq, lt_no, cond_false]

theorem mates_ok {ro : List ABlk} {h : Heap} {a b : AVal} {x y : List (List Int)} (ha : IsMat ro h a x) (hb : IsMat ro h b y) (hx : fullP x) (hy : fullP y) (hxy : x.length = y.length) [Decidable (mateP x y)] :
    callX F1 ro 35 [a, b] h = some (.tup [.b (decide (mateP x y)), .i .i64 0], h, h.length, h.length) := by
  have h7 := hx.1.1.2.1
  obtain ⟨ga, hra, an, ag⟩ := readFull_ok ha hx
  obtain ⟨gb, hrb, bn, bg⟩ := readFull_ok (hb.ext [some ga]) hy
  have ca := callM_eq (call := callX F1 ro) (m := ⟨h, h.length, h.length⟩) hra
  have cb := callM_eq (call := callX F1 ro) (m := ⟨h ++ [some ga], h.length, h.length⟩) hrb
  rw [List.length_append, List.length_singleton] at cb
  simp only [Nat.min_self, Nat.min_eq_left (Nat.le_succ h.length)] at ca cb
  have la : ∀ z, lget (h ++ [some ga] ++ [some gb] ++ z) h.length = some (some ga) := fun z => lget_ext (lget_ext (lget_last _ _) _) _
  have lb : ∀ z, lget (h ++ [some ga] ++ [some gb] ++ z) (h.length + 1) = some (some gb) := fun z => by
    refine lget_ext ?_ _
    have := lget_last (h ++ [some ga]) (some gb)
    rwa [List.length_append, List.length_singleton] at this
  have qa := lda_heap (ro := ro) (la []) (by omega : 0 + 0 < ga.n)
  have qb := lda_heap (ro := ro) (lb []) (by omega : 0 + 0 < gb.n)
  rw [gr_size ag, List.append_nil] at qa
  rw [gr_size bg, List.append_nil] at qb
  have s1 : ∀ z, stepM ro ⟨h ++ [some ga] ++ [some gb], h.length, h.length⟩ (.al 91 z) = some (.p (some ⟨false, h.length + 2, 0⟩), ⟨h ++ [some ga] ++ [some gb] ++ [some (blkOf 91 z)], h.length, h.length⟩) := fun z => by
    simp [stepM, stepK, newB, St.mm]
  refine g35_ok (meansX_ok F1 ro) rfl ?_
  unfold g35
  have enn : ((x.length : Int) == (x.length : Int)) = true := by simp
  simp only [meansX_call, ca, cb, bindP_some, evP, ev_ext, opd, lget, bindO_some, asI_i, eqI_eq, forceB_eq, beq_self_eq_true, Bool.not_true, cond_false]
  have e1 : evP .e (.nilck (.c (.p (some ⟨false, h.length, 0⟩)))) = some (.p (some ⟨false, h.length, 0⟩)) := rfl
  have e2 : evP .e (.faddr 0 (.c (.p (some ⟨false, h.length, 0⟩)))) = some (.p (some ⟨false, h.length, 0 + 0⟩)) := rfl
  have e3 : evP .e (.nilck (.c (.p (some ⟨false, h.length + 1, 0⟩)))) = some (.p (some ⟨false, h.length + 1, 0⟩)) := rfl
  have e4 : evP .e (.faddr 0 (.c (.p (some ⟨false, h.length + 1, 0⟩)))) = some (.p (some ⟨false, h.length + 1, 0 + 0⟩)) := rfl
  simp only [evP] at e1 e2 e3 e4
  simp only [e1, e2, e3, e4, bindO_some, qa, qb, asI_i, ← hxy, enn, Bool.not_true, cond_false, s1, bindP_some]
  have mz0 : ∀ k, k < 49 → (blkOf 91 (rep [AVal.b false] 49)).c.get k = .b false := fun k hk => newBlk_get hk
  generalize hbm : blkOf 91 _ = bm
  have mn : bm.n = 49 := by rw [← hbm]; rfl
  have mz : ∀ k, k < 49 → bm.c.get k = .b false := fun k hk => by rw [← hbm]; exact mz0 k hk
  have hst0 : StM h ga gb x y 0 0 ⟨h ++ [some ga] ++ [some gb] ++ [some bm], h.length, h.length⟩ := ⟨bm, rfl, mn, fun a b ha hb => by rw [mz _ (by omega)]; exact congrArg AVal.b (@decide_eq_false _ (Classical.propDecidable _) seenP_zero).symm, fun r' c' _ hh => by omega⟩
  have qa2 := ld_heap (ro := ro) (m := ⟨h ++ [some ga] ++ [some gb] ++ [some bm], h.length, h.length⟩) rfl (la [some bm]) (by omega : 0 + 0 < ga.n)
  rw [gr_size ag] at qa2
  simp only [qa2, bindO_some, asI_i, meansX_loop]
  have hloop := loop_upto (b := fun s => g35_b0 (meansX F1 ro) ro (.p (some ⟨false, h.length, 0⟩)) (.p (some ⟨false, h.length + 1, 0⟩)) (.p (some ⟨false, h.length + 2, 0⟩)) x.length s.1 s.2) x.length
    (fun r m => StM h ga gb x y r 0 m) (fun o => ∃ z, o = ((false, 0, ⟨h ++ z, h.length, h.length⟩) : Bool × Int × Mm) ∧ ¬ mateP x y) ?_ ?_ x.length 0 _ (by omega) hst0
  · obtain ⟨o, ho, hcase⟩ := hloop
    have e0 : ((0 : Nat) : Int) = 0 := rfl
    rw [e0] at ho
    rw [ho]
    rcases hcase with ⟨m', rfl, bm', rfl, -, -, hno⟩ | ⟨r, rfl, z, rfl, hno⟩
    · have hp : mateP x y := fun r c hr hc => hno r c hc (.inl hr)
      simp only [bindO_some, hp, decide_true, tupA]
      rw [List.append_assoc, List.append_assoc]
      exact fin_drop rfl
    · simp only [bindO_some, hno, decide_false, tupA]
      exact fin_drop rfl
  · rintro r m hr hst
    have hld : ldM ro m true 1 (.p (some ⟨false, h.length, 0 + 0⟩)) = some (.i .i64 x.length) := by
      obtain ⟨bm', rfl, -⟩ := hst
      have := ld_heap (ro := ro) (m := ⟨h ++ [some ga] ++ [some gb] ++ [some bm'], h.length, h.length⟩) rfl (la [some bm']) (by omega : 0 + 0 < ga.n)
      rw [this, gr_size ag]
    obtain ⟨o, ho, hcase⟩ := mates_inner (ro := ro) hx hy hxy an ag bn bg hr hst
    have e0 : ((0 : Nat) : Int) = 0 := rfl
    rw [e0] at ho
    rcases hcase with ⟨m', rfl, bm', rfl, hn', hmet, hno⟩ | ⟨r', rfl, z, rfl, hno⟩
    · left
      refine ⟨_, ?_, bm', rfl, hn', hmet.row, fun r' c' hc' hh => hno r' c' hc' (by omega)⟩
      simp only [g35_b0, forceB_eq, ltI_eq, lt_yes hr, cond_true, p_nilck, p_faddr, bindO_some, hld, asI_i, meansX_loop, ho, forceI_eq, wr_next (by omega : r ≤ 1000000)]
    · right
      refine ⟨_, ?_, z, rfl, hno⟩
      simp only [g35_b0, forceB_eq, ltI_eq, lt_yes hr, cond_true, p_nilck, p_faddr, bindO_some, hld, asI_i, meansX_loop, ho]
  · rintro m -
    simp only [g35_b0, forceB_eq, ltI_eq, lt_no, cond_false]

end Go.Proofs.Ytllmlonngnhbfaa.Bed

/- Cyclic of the program; the greatest common divisors of the program and of the specification. -/
open Go.Vm
set_option linter.unusedVariables false
namespace Go.Proofs.Ytllmlonngnhbfaa.Bed
open Go

/- greatest common divisors -/
theorem gcd_step (a b : Nat) : Nat.gcd a b = Nat.gcd b (a % b) := by
  rw [Nat.gcd_comm a b, Nat.gcd_rec b a, Nat.gcd_comm]
theorem tmod_nat (a b : Nat) : Int.tmod (a : Int) (b : Int) = ((a % b : Nat) : Int) := rfl
theorem gcd_loop {b0 : Int × Int → Option ((Int × Int) ⊕ Int)} (hz : ∀ a : Nat, b0 ((a : Int), ((0 : Nat) : Int)) = some (.inr (a : Int))) (hs : ∀ a b : Nat, b ≠ 0 → b0 ((a : Int), (b : Int)) = some (.inl ((b : Int), ((a % b : Nat) : Int)))) :
    ∀ (k a b : Nat), b < k → loopX b0 ((a : Int), (b : Int)) = some ((Nat.gcd a b : Nat) : Int)
  | 0, a, b, h => by omega
  | k + 1, a, b, h => by
    by_cases e : b = 0
    · subst e
      rw [Nat.gcd_zero_right]
      exact loopX_out (hz a)
    · rw [gcd_step]
      have : a % b < b := Nat.mod_lt _ (by omega)
      exact loopX_on (hs a b e) (gcd_loop hz hs k b (a % b) (by omega))
theorem divisor_ok {ro : List ABlk} {h : Heap} {a b : Nat} : callX F1 ro 80 [.i .i64 a, .i .i64 b] h = some (.i .i64 (Nat.gcd a b : Nat), h, h.length, h.length) := by
  refine g80_ok (meansX_ok F1 ro) rfl ?_
  unfold g80
  have hl := gcd_loop (b0 := fun s => g80_b0 (meansX F1 ro) ro ⟨h, h.length, h.length⟩ s.1 s.2) (fun a => by
    have e : eqI (((0 : Nat) : Int)) 0 = true := rfl
    simp only [g80_b0, e, Bool.not_true, forceB_eq, cond_false]) (fun a b hb => by
    have e : eqI ((b : Nat) : Int) 0 = false := by rw [eqI_eq]; simp [hb]
    have e2 : eqI ((b : Nat) : Int) (.ofNat 0) = false := e
    simp only [g80_b0, e, e2, Bool.not_false, forceB_eq, cond_true, chk_true, forceI_eq, tmod_nat]) (b + 1) a b (by omega)
  simp only [meansX_loop, hl, bindO_some, tupA]
  exact fin_pure rfl
theorem gcd_ok {ro : List ABlk} {h : Heap} {a b : Nat} (ha : a ≤ 1000) (hb : b ≤ 1000) (h0 : 0 < a) : callX F1 ro 50 [.i .i64 a, .i .i64 b] h = some (.i .i64 (Nat.gcd a b : Nat), h, h.length, h.length) := by
  refine g50_ok (meansX_ok F1 ro) rfl ?_
  unfold g50
  have hl := gcd_loop (b0 := fun s => g50_b0 (meansX F1 ro) ro ⟨h, h.length, h.length⟩ s.1 s.2) (fun a => by
    have e : eqI (((0 : Nat) : Int)) 0 = true := rfl
    simp only [g50_b0, e, Bool.not_true, forceB_eq, cond_false]) (fun a b hb => by
    have e : eqI ((b : Nat) : Int) 0 = false := by rw [eqI_eq]; simp [hb]
    have e2 : eqI ((b : Nat) : Int) (.ofNat 0) = false := e
    simp only [g50_b0, e, e2, Bool.not_false, forceB_eq, cond_true, chk_true, forceI_eq, tmod_nat]) (b + 1) a b (by omega)
  have hle : Nat.gcd a b ≤ a := Nat.gcd_le_left b h0
  have hw : wr .i64 (0 - ((Nat.gcd a b : Nat) : Int)) = 0 - ((Nat.gcd a b : Nat) : Int) := wr_id' (by omega) (by omega)
  have hm : mxV true ((Nat.gcd a b : Nat) : Int) (0 - ((Nat.gcd a b : Nat) : Int)) = ((Nat.gcd a b : Nat) : Int) := by
    unfold mxV
    rw [if_pos rfl, if_neg (by omega)]
  simp only [meansX_loop, hl, bindO_some, forceI_eq, hw, hm, tupA]
  exact fin_pure rfl

/- Cyclic -/
def cyc (n s : Nat) : List (List Int) := (List.range n).map fun r => (List.range n).map fun c => (((r * s + c) % n : Nat) : Int)
theorem cyc_len (n s : Nat) : (cyc n s).length = n := by simp [cyc]
theorem cyc_row (n s : Nat) {r : Nat} (h : r < n) : (cyc n s).getD r [] = (List.range n).map fun c => (((r * s + c) % n : Nat) : Int) := by
  simp [cyc, List.getD, h]
theorem range_get {n c : Nat} {f : Nat → Int} (h : c < n) : ((List.range n).map f).getD c 0 = f c := by simp [List.getD, h]

def RowsC (L n s r : Nat) (bo : ABlk) (rows : Heap) : Prop := rows.length = r ∧ bo.n = n ∧ ∀ i, i < r → bo.c.get (0 + i) = .sl ⟨false, L + 1 + i, 0⟩ n (.known n) ∧ ∃ blk : ABlk, rows[i]? = some (some blk) ∧ blk.n = n ∧ ∀ c, c < n → blk.c.get c = .i .i64 (((i * s + c) % n : Nat) : Int)

theorem cyc_inner {ro : List ABlk} {n s r b : Nat} (h7 : n ≤ 7) (hs : s ≤ n) (hr : r < n) {hp : Heap} {p q : Nat} {v31 : AVal} {x33 : Int} {blk : ABlk} (hn : blk.n = n) (hb : b = hp.length)
    (hv : ∀ y, ∃ w, evP .e (.ixS 1 (.c v31) (.c (.i .i64 (r : Int)))) = some w ∧ ldM ro ⟨hp ++ [y], p, q⟩ true 1 w = some (.sl ⟨false, b, 0⟩ n (.known n))) (hpb : p ≤ b) (h0 : 0 < n) :
    ∃ blk', loopX (fun z => g39_b5 (meansX F1 ro) ro n s v31 r x33 n z.1 z.2) (((0 : Nat) : Int), ⟨hp ++ [some blk], p, q⟩) = some ⟨hp ++ [some blk'], p, q⟩ ∧ blk'.n = n ∧ ∀ c, c < n → blk'.c.get c = .i .i64 (((r * s + c) % n : Nat) : Int) := by
  subst hb
  have hloop := loop_all (b := fun z => g39_b5 (meansX F1 ro) ro n s v31 r x33 n z.1 z.2) n (fun c m => ∃ blk : ABlk, m = ⟨hp ++ [some blk], p, q⟩ ∧ blk.n = n ∧ ∀ c', c' < c → blk.c.get c' = .i .i64 (((r * s + c') % n : Nat) : Int)) ?_ ?_ n 0 _ (by omega) ⟨blk, rfl, hn, fun c' h => by omega⟩
  · obtain ⟨m', h1, blk', h2, h3, h4⟩ := hloop
    subst h2
    exact ⟨blk', h1, h3, h4⟩
  · rintro c m hc ⟨blk, rfl, hn, hcells⟩
    obtain ⟨w, w1, w2⟩ := hv (some blk)
    have hrs : r * s ≤ 7 * 7 := Nat.mul_le_mul (by omega) (by omega)
    have e1 : wr .i64 ((r : Int) * (s : Int)) = ((r * s : Nat) : Int) := by rw [show (r : Int) * (s : Int) = ((r * s : Nat) : Int) by simp, wr_id' (by omega) (by omega)]
    have e2 : wr .i64 (((r * s : Nat) : Int) + (c : Int)) = ((r * s + c : Nat) : Int) := by rw [show ((r * s : Nat) : Int) + (c : Int) = ((r * s + c : Nat) : Int) by simp, wr_id' (by omega) (by omega)]
    have e3 : eqI ((n : Nat) : Int) (.ofNat 0) = false := by rw [eqI_eq]; simp; omega
    have hst := st_heap (ro := ro) (l := p) (p := q) (lget_last hp (some blk)) (by omega : 0 + c < blk.n) (v := .i .i64 (((r * s + c) % n : Nat) : Int)) rfl rfl rfl
    rw [set_end, Nat.min_eq_left hpb] at hst
    refine ⟨_, ?_, { blk with c := blk.c.set (0 + c) (.i .i64 (((r * s + c) % n : Nat) : Int)) }, rfl, hn, fun c' hc' => ?_⟩
    · simp only [g39_b5, forceB_eq, ltI_eq, lt_yes hc, cond_true, w1, bindO_some, forceI_eq, e1, e2, e3, Bool.not_false, chk_true, tmod_nat, w2, ixS_eq hc, hst, bindP_some, wr_next (by omega : c ≤ 1000000)]
    · show (blk.c.set (0 + c) _).get c' = _
      rw [get_set]
      by_cases e : 0 + c = c'
      · rw [if_pos e, ← e, Nat.zero_add]
      · rw [if_neg e]; exact hcells c' (by omega)
  · rintro m -
    simp only [g39_b5, forceB_eq, ltI_eq, lt_no, cond_false]

theorem cyclic_ok {ro : List ABlk} {h : Heap} {n s : Nat} (h1 : 1 ≤ n) (h7 : n ≤ 7) (hs1 : 1 ≤ s) (hs : s ≤ n) (hg : Nat.gcd n s ≤ 1) :
    ∃ v y, callX F1 ro 39 [.i .i64 n, .i .i64 s] h = some (.tup [v, .i .i64 0], h ++ y, h.length, h.length) ∧ IsMat ro (h ++ y) v (cyc n s) := by
  have d1 : decide ((n : Int) < 1) = false := by simp; omega
  have d2 : decide ((7 : Int) < (n : Int)) = false := by simp; omega
  have d3 : decide ((s : Int) < 1) = false := by simp; omega
  have d4 : decide ((n : Int) < (s : Int)) = false := by simp; omega
  have d5 : decide ((1 : Int) < ((Nat.gcd n s : Nat) : Int)) = false := by simp; omega
  have hcall := callM_pure (call := callX F1 ro) (l := h.length) (p := h.length) (divisor_ok (ro := ro) (h := h) (a := n) (b := s)) (Nat.le_refl _) (Nat.le_refl _)
  have hmk := mk_ok (ro := ro) (hp := h) (l := h.length) (p := h.length) (e := 32) (es := 1) (bytes := 24) (v := .nsl) (by omega : n ≤ 1000) (by omega)
  have hloop := loop_all (b := fun z => g39_b4 (meansX F1 ro) ro n s (.sl ⟨false, h.length, 0⟩ n (.known n)) n z.1 z.2) n (fun r m => ∃ bo rows, m = ⟨h ++ [some bo] ++ rows, h.length, h.length⟩ ∧ RowsC h.length n s r bo rows) ?_ ?_ n 0 ⟨h ++ [some (newBlk 32 .nsl n)], h.length, h.length⟩ (by omega) ⟨newBlk 32 .nsl n, [], by simp, rfl, newBlk_n, fun i hi => by omega⟩
  · obtain ⟨m', hl, bo, rows, rfl, hR⟩ := hloop
    obtain ⟨r1, r2, r3⟩ := hR
    refine ⟨.sl ⟨false, h.length, 0⟩ n (.known n), [some bo] ++ rows, g39_ok (meansX_ok F1 ro) rfl ?_, ?_⟩
    · unfold g39
      have e0 : ((0 : Nat) : Int) = 0 := rfl
      rw [e0] at hl
      have hlen : evP .e (.len false (.c (.sl ⟨false, h.length, 0⟩ n (.known n)))) = some (.i .i64 n) := by simp [evP, ev_len, opd, mkI_eq]
      simp only [forceB_eq, ltI_eq, d1, d2, d3, d4, d5, cond_false, bindO_some, meansX_call, hcall, bindP_some, asI_i, hmk, hlen, meansX_loop, hl, tupA]
      have hb : (AVal.tup [.sl ⟨false, h.length, 0⟩ n (.known n), .i .i64 0]).bel h.length = false := by
        have : Nat.blt h.length h.length = false := by
          cases hh : Nat.blt h.length h.length
          · rfl
          · rw [Nat.blt_eq] at hh; omega
        simp [AVal.bel, bels, this]
      simp [finM, gc, hb]
    · refine .inr ⟨⟨false, h.length, 0⟩, .known n, bo, by rw [cyc_len], ?_, by rw [cyc_len]; show 0 + n ≤ bo.n; omega, fun r hr => ?_⟩
      · rw [← List.append_assoc]
        exact rdB_heap (lget_ext (lget_last _ _) _) _
      · rw [cyc_len] at hr
        obtain ⟨c1, blk, c2, c3, c4⟩ := r3 r hr
        rw [c1, cyc_row n s hr]
        refine .inr ⟨⟨false, h.length + 1 + r, 0⟩, .known n, blk, by simp, ?_, by simp; omega, fun j hj => ?_⟩
        · refine rdB_heap ?_ _
          have hx : h.length + 1 + r - (h ++ [some bo]).length = r := by simp
          rw [← List.append_assoc, lget_eq, List.getElem?_append_right (by simp), hx]
          exact c2
        · have hj' : j < n := by simpa using hj
          rw [range_get hj', Nat.zero_add]
          exact c4 j hj'
  · rintro r m hr ⟨bo, rows, rfl, r1, r2, r3⟩
    have hmk2 := mk_ok (ro := ro) (hp := h ++ [some bo] ++ rows) (l := h.length) (p := h.length) (e := 3) (es := 1) (bytes := 8) (v := .i .i64 0) (by omega : n ≤ 1000) (by omega)
    have hL : (h ++ [some bo] ++ rows).length = h.length + 1 + r := by simp [r1]; omega
    rw [hL] at hmk2
    obtain ⟨bo', hbo'⟩ : ∃ bo' : ABlk, bo' = { bo with c := bo.c.set (0 + r) (.sl ⟨false, h.length + 1 + r, 0⟩ n (.known n)) } := ⟨_, rfl⟩
    have lb : lget (h ++ [some bo] ++ rows ++ [some (newBlk 3 (.i .i64 0) n)]) h.length = some (some bo) := lget_ext (lget_ext (lget_last _ _) _) _
    have hst := st_ptr (ro := ro) (l := h.length) (p := h.length) lb (by omega : 0 + r < bo.n) (v := .sl ⟨false, h.length + 1 + r, 0⟩ n (.known n)) rfl rfl rfl
    have hset : (h ++ [some bo] ++ rows ++ [some (newBlk 3 (.i .i64 0) n)]).set h.length (some bo') = h ++ [some bo'] ++ rows ++ [some (newBlk 3 (.i .i64 0) n)] := by simp
    rw [← hbo', hset, Nat.min_self] at hst
    have hix := ixS_eq (q := ⟨false, h.length, 0⟩) (cap := .known n) hr
    have hn' : bo'.n = n := by rw [hbo']; exact r2
    have hld : ∀ y, ldM ro ⟨h ++ [some bo'] ++ rows ++ [y], h.length, h.length⟩ true 1 (.p (some ⟨false, h.length, 0 + r⟩)) = some (.sl ⟨false, h.length + 1 + r, 0⟩ n (.known n)) := fun y => by
      rw [ld_heap rfl (lget_ext (lget_ext (lget_last _ _) _) _ : lget (h ++ [some bo'] ++ rows ++ [y]) h.length = some (some bo')) (by omega), hbo']
      show some ((bo.c.set (0 + r) _).get (0 + r)) = _
      rw [get_set, if_pos rfl]
    have hlen : ∀ b, evP .e (.len false (.c (.sl ⟨false, b, 0⟩ n (.known n)))) = some (.i .i64 n) := fun b => by simp [evP, ev_len, opd, mkI_eq]
    obtain ⟨blk', k1, k2, k3⟩ := cyc_inner (ro := ro) (hp := h ++ [some bo'] ++ rows) (p := h.length) (q := h.length) (v31 := .sl ⟨false, h.length, 0⟩ n (.known n)) (x33 := n) (b := h.length + 1 + r) h7 hs hr (blk := newBlk 3 (.i .i64 0) n) newBlk_n (by simp [r1]; omega) (fun y => ⟨_, hix, hld y⟩) (by omega) (by omega)
    have e0 : ((0 : Nat) : Int) = 0 := rfl
    rw [e0] at k1
    refine ⟨⟨h ++ [some bo'] ++ rows ++ [some blk'], h.length, h.length⟩, ?_, bo', rows ++ [some blk'], by rw [List.append_assoc], by simp [r1], hn', fun i hi => ?_⟩
    · simp only [g39_b4, forceB_eq, ltI_eq, lt_yes hr, cond_true, hmk2, bindP_some, hix, bindO_some, hst, hld, hlen, asI_i, meansX_loop, k1, forceI_eq, wr_next (by omega : r ≤ 1000000)]
    · by_cases e : i = r
      · subst e
        refine ⟨?_, blk', ?_, k2, k3⟩
        · rw [hbo']
          show (bo.c.set (0 + i) _).get (0 + i) = _
          rw [get_set, if_pos rfl]
        · rw [List.getElem?_append_right (by omega), r1]; simp
      · obtain ⟨c1, blk, c2, c3⟩ := r3 i (by omega)
        refine ⟨?_, blk, ?_, c3⟩
        · rw [hbo']
          show (bo.c.set (0 + r) _).get (0 + i) = _
          rw [get_set, if_neg (by omega)]; exact c1
        · rw [List.getElem?_append_left (by omega)]; exact c2
  · rintro m -
    simp only [g39_b4, forceB_eq, ltI_eq, lt_no, cond_false]

theorem cyclic_not {ro : List ABlk} {h : Heap} {n s : Nat} (h1 : 1 ≤ n) (h7 : n ≤ 7) (hs1 : 1 ≤ s) (hs : s ≤ n) (hg : 1 < Nat.gcd n s) :
    callX F1 ro 39 [.i .i64 n, .i .i64 s] h = some (.tup [.nsl, .i .i64 2], h, h.length, h.length) := by
  have d1 : decide ((n : Int) < 1) = false := by simp; omega
  have d2 : decide ((7 : Int) < (n : Int)) = false := by simp; omega
  have d3 : decide ((s : Int) < 1) = false := by simp; omega
  have d4 : decide ((n : Int) < (s : Int)) = false := by simp; omega
  have d5 : decide ((1 : Int) < ((Nat.gcd n s : Nat) : Int)) = true := by simp; omega
  have hcall := callM_pure (call := callX F1 ro) (l := h.length) (p := h.length) (divisor_ok (ro := ro) (h := h) (a := n) (b := s)) (Nat.le_refl _) (Nat.le_refl _)
  refine g39_ok (meansX_ok F1 ro) rfl ?_
  unfold g39
  simp only [forceB_eq, ltI_eq, d1, d2, d3, d4, d5, cond_false, bindO_some, meansX_call, hcall, bindP_some, asI_i, cond_true, tupA]
  exact fin_pure rfl
end Go.Proofs.Ytllmlonngnhbfaa.Bed

/- Cyclic beds of up to seven crops, reckoned. -/
open Go.Vm
set_option linter.unusedVariables false
namespace Go.Proofs.Ytllmlonngnhbfaa.Bed
open Go

theorem at2_cyc {n s r c : Nat} (hr : r < n) (hc : c < n) : at2 (cyc n s) r c = (((r * s + c) % n : Nat) : Int) := by
  unfold at2
  rw [cyc_row n s hr, range_get hc]

def cval (n s r c : Nat) : Nat := (r * s + c) % n
/-- no crop twice -/
def fullB (n s : Nat) : Bool := (List.range n).all fun r => (List.range n).all fun c => ((List.range c).all fun i => !Nat.beq (cval n s r i) (cval n s r c)) && ((List.range r).all fun i => !Nat.beq (cval n s i c) (cval n s r c))
def befB (r' c' r c : Nat) : Bool := Nat.blt r' r || (Nat.beq r' r && Nat.blt c' c)
def mateB (n s t : Nat) : Bool := (List.range n).all fun r => (List.range n).all fun c => (List.range n).all fun r' => (List.range n).all fun c' => !(befB r' c' r c && Nat.beq (cval n s r' c') (cval n s r c) && Nat.beq (cval n t r' c') (cval n t r c))

theorem beq_iff {a b : Nat} : Nat.beq a b = true ↔ a = b := ⟨Nat.eq_of_beq_eq_true, fun h => by rw [h]; exact Nat.beq_refl b⟩
theorem befB_iff {r' c' r c : Nat} : befB r' c' r c = true ↔ r' < r ∨ (r' = r ∧ c' < c) := by
  unfold befB
  rw [Bool.or_eq_true, Bool.and_eq_true, Nat.blt_eq, Nat.blt_eq, beq_iff]
theorem cyc_full {n s : Nat} (h1 : 1 ≤ n) (h7 : n ≤ 7) (h : fullB n s = true) : fullP (cyc n s) := by
  have hlen := cyc_len n s
  have hpos : ∀ r c, r < n → c < n → 0 ≤ at2 (cyc n s) r c ∧ at2 (cyc n s) r c < n := fun r c hr hc => by
    rw [at2_cyc hr hc]
    have : (r * s + c) % n < n := Nat.mod_lt _ (by omega)
    exact ⟨by omega, by omega⟩
  refine ⟨⟨⟨by omega, by omega, fun r hr => ?_⟩, fun r c hr hc hd => ?_⟩, fun r c hr hc => ?_⟩
  · rw [hlen] at hr ⊢
    refine ⟨by rw [cyc_row n s hr]; simp, fun c hc => ?_⟩
    have := hpos r c hr hc
    unfold at2 at this
    exact ⟨by omega, this.2⟩
  · rw [hlen] at hr hc
    simp only [fullB, List.all_eq_true, List.mem_range, Bool.and_eq_true, Bool.not_eq_true'] at h
    obtain ⟨ha, hb⟩ := h r hr c hc
    rcases hd.2 with ⟨i, hi, he⟩ | ⟨i, hi, he⟩
    · rw [at2_cyc hr (by omega), at2_cyc hr hc] at he
      have h2 := ha i hi
      have h3 : Nat.beq (cval n s r i) (cval n s r c) = true := beq_iff.2 (by unfold cval; omega)
      rw [h3] at h2; cases h2
    · rw [at2_cyc (by omega) hc, at2_cyc hr hc] at he
      have h2 := hb i hi
      have h3 : Nat.beq (cval n s i c) (cval n s r c) = true := beq_iff.2 (by unfold cval; omega)
      rw [h3] at h2; cases h2
  · rw [hlen] at hr hc
    exact (hpos r c hr hc).1
theorem cyc_mate {n s t : Nat} : mateB n s t = true ↔ mateP (cyc n s) (cyc n t) := by
  unfold mateP
  rw [cyc_len]
  simp only [mateB, List.all_eq_true, List.mem_range, Bool.not_eq_true']
  constructor
  · rintro h r c hr hc ⟨r', c', h1, h2, h3, h4⟩
    rw [cyc_len] at h1
    have hr' : r' < n := by omega
    rw [at2_cyc hr' h1, at2_cyc hr hc] at h3 h4
    have := h r hr c hc r' hr' c' h1
    have e1 : befB r' c' r c = true := befB_iff.2 h2
    have e2 : Nat.beq (cval n s r' c') (cval n s r c) = true := beq_iff.2 (by unfold cval; omega)
    have e3 : Nat.beq (cval n t r' c') (cval n t r c) = true := beq_iff.2 (by unfold cval; omega)
    rw [e1, e2, e3] at this; cases this
  · intro h r hr c hc r' hr' c' hc'
    cases hb : (befB r' c' r c && Nat.beq (cval n s r' c') (cval n s r c) && Nat.beq (cval n t r' c') (cval n t r c)) with
    | false => rfl
    | true =>
      simp only [Bool.and_eq_true, befB_iff, beq_iff] at hb
      obtain ⟨⟨b1, b2⟩, b3⟩ := hb
      refine absurd ⟨r', c', by rw [cyc_len]; exact hc', b1, ?_, ?_⟩ (h r c hr hc)
      · rw [at2_cyc hr' hc', at2_cyc hr hc]; exact congrArg Int.ofNat b2
      · rw [at2_cyc hr' hc', at2_cyc hr hc]; exact congrArg Int.ofNat b3

/-- transversals of a cyclic bed, by numbers alone -/
def okN (n s : Nat) (now : List Nat) (c : Nat) : Bool := now.zipIdx.all fun (d, i) => !Nat.beq d c && !Nat.beq (cval n s i d) (cval n s now.length c)
def cntc (f : Nat → Nat) : Nat → Nat → Nat
  | 0, _ => 0
  | j + 1, c => f c + cntc f j (c + 1)
def cntN (n s : Nat) : Nat → List Nat → Nat
  | 0, now => 1
  | k + 1, now => cntc (fun c => cond (okN n s now c) (cntN n s k (now ++ [c])) 0) n 0
theorem tlc_cnt {f : Nat → List (List Nat)} {g : Nat → Nat} : ∀ j c, (∀ i, c ≤ i → i < c + j → (f i).length = g i) → (tlc f j c).length = cntc g j c
  | 0, c, _ => rfl
  | j + 1, c, h => by
    simp only [tlc, cntc, List.length_append]
    rw [h c (by omega) (by omega), tlc_cnt j (c + 1) fun i h1 h2 => h i (by omega) (by omega)]
theorem okN_iff {n s : Nat} {now : List Nat} {c : Nat} (hl : now.length < n) (hn : ∀ d ∈ now, d < n) (hc : c < n) : okN n s now c = true ↔ okT (cyc n s) now c := by
  unfold okN okT
  simp only [List.all_eq_true, Bool.and_eq_true, Bool.not_eq_true']
  constructor
  · intro h
    have h' : ∀ i (hi : i < now.length), Nat.beq now[i] c = false ∧ Nat.beq (cval n s i now[i]) (cval n s now.length c) = false := fun i hi =>
      h (now[i], i) (List.mem_zipIdx_iff_getElem?.2 (by simp [hi]))
    refine ⟨fun hm => ?_, fun i hi he => ?_⟩
    · obtain ⟨i, hi, he⟩ := List.getElem_of_mem hm
      have := (h' i hi).1
      rw [beq_iff.2 he] at this; cases this
    · have hg : now.getD i 0 = now[i] := by simp [List.getD, hi]
      have hd := hn now[i] (List.getElem_mem hi)
      rw [hg, at2_cyc (by omega) hd, at2_cyc hl hc] at he
      have := (h' i hi).2
      rw [beq_iff.2 (by unfold cval; omega)] at this; cases this
  · rintro ⟨h1, h2⟩ ⟨d, i⟩ hm
    have hm' := List.mem_zipIdx_iff_getElem?.1 hm
    simp only at hm'
    obtain ⟨hi, he⟩ := List.getElem?_eq_some_iff.1 hm'
    have hg : now.getD i 0 = d := by simp [List.getD, hm']
    have hdn : d < n := hn d (by rw [← he]; exact List.getElem_mem hi)
    have h3 := h2 i hi
    rw [hg, at2_cyc (by omega) hdn, at2_cyc hl hc] at h3
    constructor
    · cases hb : Nat.beq d c with
      | false => rfl
      | true => exact absurd (by rw [← beq_iff.1 hb, ← he]; exact List.getElem_mem hi) h1
    · cases hb : Nat.beq (cval n s i d) (cval n s now.length c) with
      | false => rfl
      | true => exact absurd (congrArg Int.ofNat (beq_iff.1 hb)) h3
theorem tl_cnt {n s : Nat} : ∀ k now, now.length + k = n → (∀ d ∈ now, d < n) → (tl (cyc n s) k now).length = cntN n s k now
  | 0, now, _, _ => rfl
  | k + 1, now, hl, hn => by
    simp only [tl, cntN]
    rw [cyc_len]
    refine tlc_cnt n 0 fun c _ hc => ?_
    have hc' : c < n := by omega
    have hok := okN_iff (s := s) (by omega : now.length < n) hn hc'
    cases hb : okN n s now c with
    | true =>
      rw [if_pos (hok.1 hb)]
      exact tl_cnt k (now ++ [c]) (by simp; omega) fun d hd => by
        rcases List.mem_append.1 hd with h | h
        · exact hn d h
        · rw [List.mem_singleton.1 h]; exact hc'
    | false =>
      rw [if_neg fun h => by rw [hok.2 h] at hb; cases hb]
      rfl
theorem trs_cnt {n s : Nat} : (trs (cyc n s)).length = cntN n s n [] := by
  unfold trs
  rw [cyc_len]
  exact tl_cnt n [] (by simp) (by simp)

/-- all that is to be reckoned -/
def allB : Bool := (List.range 8).all fun n => Nat.beq n 0 || (
  (let L := cntN n 1 n []; Nat.beq (L % n) 0 && (Nat.blt 0 L == Nat.beq (n % 2) 1)) &&
  (List.range (n + 1)).all fun s => Nat.beq s 0 || !Nat.beq (Nat.gcd n s) 1 || (fullB n s && (List.range (n + 1)).all fun t => Nat.beq t 0 || !Nat.beq (Nat.gcd n t) 1 ||
    ((mateB n s t == Nat.beq (Nat.gcd n ((s - t) + (t - s))) 1) && !(mateB n s t && Nat.beq n 2))))
theorem allB_ok : allB = true := by decide +kernel
theorem cnt_facts {n : Nat} (h1 : 1 ≤ n) (h7 : n ≤ 7) : (trs (cyc n 1)).length % n = 0 ∧ (0 < (trs (cyc n 1)).length ↔ n % 2 = 1) := by
  have h := allB_ok
  unfold allB at h
  have h2 := List.all_eq_true.1 h n (List.mem_range.2 (by omega))
  have e : Nat.beq n 0 = false := by cases hb : Nat.beq n 0 with | false => rfl | true => exact absurd (beq_iff.1 hb) (by omega)
  rw [e, Bool.false_or, Bool.and_eq_true, Bool.and_eq_true] at h2
  obtain ⟨⟨h3, h4⟩, -⟩ := h2
  rw [trs_cnt]
  refine ⟨beq_iff.1 h3, ?_⟩
  have h5 := eq_of_beq h4
  constructor
  · intro h
    rw [← Nat.blt_eq, h5, beq_iff] at h; exact h
  · intro h
    rw [← Nat.blt_eq, h5, beq_iff]; exact h
theorem full_facts {n s : Nat} (h1 : 1 ≤ n) (h7 : n ≤ 7) (hs1 : 1 ≤ s) (hs : s ≤ n) (hg : Nat.gcd n s = 1) : fullP (cyc n s) ∧
    ∀ t, 1 ≤ t → t ≤ n → Nat.gcd n t = 1 → (mateP (cyc n s) (cyc n t) ↔ Nat.gcd n ((s - t) + (t - s)) = 1) ∧ (mateP (cyc n s) (cyc n t) → n ≠ 2) := by
  have h := allB_ok
  unfold allB at h
  have h2 := List.all_eq_true.1 h n (List.mem_range.2 (by omega))
  have ez : ∀ {k : Nat}, 1 ≤ k → Nat.beq k 0 = false := fun {k} hk => by cases hb : Nat.beq k 0 with | false => rfl | true => exact absurd (beq_iff.1 hb) (by omega)
  rw [ez h1, Bool.false_or, Bool.and_eq_true] at h2
  have h3 := List.all_eq_true.1 h2.2 s (List.mem_range.2 (by omega))
  rw [ez hs1, Bool.false_or, beq_iff.2 hg, Bool.not_true, Bool.false_or, Bool.and_eq_true] at h3
  refine ⟨cyc_full h1 h7 h3.1, fun t ht1 ht hgt => ?_⟩
  have h4 := List.all_eq_true.1 h3.2 t (List.mem_range.2 (by omega))
  rw [ez ht1, Bool.false_or, beq_iff.2 hgt, Bool.not_true, Bool.false_or, Bool.and_eq_true] at h4
  have h5 := eq_of_beq h4.1
  refine ⟨by rw [← cyc_mate, h5, beq_iff], fun hm hn => ?_⟩
  have h6 := h4.2
  rw [cyc_mate.2 hm, beq_iff.2 hn] at h6
  cases h6
end Go.Proofs.Ytllmlonngnhbfaa.Bed

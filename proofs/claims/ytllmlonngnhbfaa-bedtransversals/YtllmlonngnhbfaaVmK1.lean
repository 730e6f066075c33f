/- Small laws for reading the plain functions. -/
import Derived.Test.YtllmlonngnhbfaaVmBr
import Derived.Test.YtllmlonngnhbfaaVmGt
open Go.Vm
set_option linter.unusedVariables false
namespace Go.Proofs.Ytllmlonngnhbfaa.Bed
open Go

section
variable {α β : Type}
theorem bindO_some (a : α) (f : α → Option β) : bindO (some a) f = f a := rfl
theorem bindP_some (v : AVal) (m : Mm) (f : AVal → Mm → Option β) : bindP (some (v, m)) f = f v m := rfl
theorem asI_i (k : IntKind) (x : Int) (f : Int → Option β) : asI k (.i k x) f = f x := by simp [asI, kEq_self]
theorem asB_b (x : Bool) (f : Bool → Option β) : asB (.b x) f = f x := rfl
theorem asP_p (q : Vm.Loc) (f : Vm.Loc → Option β) : asP (.p (some q)) f = f q := rfl
theorem chk_true (f : Option β) : chk true f = f := rfl
end

theorem wr_id {x : Int} (h : inI64 x) : wr .i64 x = x := by
  rw [wr_i64]; exact wrap_i64_in x h.1 h.2
theorem wr_id' {x : Int} (h1 : -9223372036854775808 ≤ x) (h2 : x ≤ 9223372036854775807) : wr .i64 x = x := wr_id ⟨h1, h2⟩

theorem callM_eq {call : Caller} {m : Mm} {f : Nat} {vs : List AVal} {v : AVal} {h : Heap} {lw lp : Nat} (e : call f vs m.h = some (v, h, lw, lp)) : callM call m f vs = some (v, ⟨h, min m.lw lw, min m.lp lp⟩) := by
  unfold callM; rw [e]
/-- a call that leaves everything as it was -/
theorem callM_pure {call : Caller} {h : Heap} {l p : Nat} {f : Nat} {vs : List AVal} {v : AVal} (e : call f vs h = some (v, h, h.length, h.length)) (hl : l ≤ h.length) (hp : p ≤ h.length) : callM call ⟨h, l, p⟩ f vs = some (v, ⟨h, l, p⟩) := by
  rw [callM_eq (m := ⟨h, l, p⟩) e]
  simp [Nat.min_eq_left hl, Nat.min_eq_left hp]

theorem fin_pure {h : Heap} {v : AVal} (hv : v.bel h.length = true) : finM h.length v ⟨h, h.length, h.length⟩ = some (v, h, h.length, h.length) := by
  simp [finM, gc, hv]
/-- what was made is dropped -/
theorem fin_drop {h x : Heap} {v : AVal} (hv : v.bel h.length = true) {lw : Nat} : finM h.length v ⟨h ++ x, lw, h.length⟩ = some (v, h, lw, h.length) := by
  simp [finM, gc, hv]

/- rows -/
section
variable {ro : List ABlk} {h : Heap} {v : AVal} {z : List Int} {rows : List (List Int)}

theorem len_row (hr : IsRow ro h v z) : evP .e (.len false (.c v)) = some (.i .i64 z.length) := by
  rcases hr with ⟨rfl, rfl⟩ | ⟨q, cap, blk, rfl, -⟩
  · rfl
  · simp [evP, ev_len, opd, mkI_eq]
theorem len_mat (hr : IsMat ro h v rows) : evP .e (.len false (.c v)) = some (.i .i64 rows.length) := by
  rcases hr with ⟨rfl, rfl⟩ | ⟨q, cap, blk, rfl, -⟩
  · rfl
  · simp [evP, ev_len, opd, mkI_eq]

theorem ixS_eq {q : Vm.Loc} {len : Nat} {cap : Cap} {i : Nat} (hi : i < len) : evP .e (.ixS 1 (.c (.sl q len cap)) (.c (.i .i64 (i : Int)))) = some (.p (some ⟨q.ro, q.b, q.off + i⟩)) := by
  have : Nat.blt i len = true := by rw [Nat.blt_eq]; exact hi
  have e : ((i : Int)) = Int.ofNat i := rfl
  simp only [evP, ev_ixS, opd, e, atI, this, cond_true, Nat.mul_one]

theorem rd_one {q : Vm.Loc} {blk : ABlk} {i : Nat} (hb : rdB ro h q = some blk) (hi : q.off + i < blk.n) : rd ro h true 1 ⟨q.ro, q.b, q.off + i⟩ = some (blk.c.get (q.off + i)) := by
  have e : rdB ro h ⟨q.ro, q.b, q.off + i⟩ = some blk := hb
  have : Nat.blt (q.off + i) blk.n = true := by rw [Nat.blt_eq]; exact hi
  simp only [rd, e, cond_true, this]
theorem rdB_lt {q : Vm.Loc} {blk : ABlk} (hb : rdB ro h q = some blk) : (q.ro || Nat.blt q.b h.length) = true := by
  cases hr : q.ro
  · simp only [rdB, hr, cond_false] at hb
    rw [lget_eq] at hb
    split at hb
    · rename_i e
      have := (List.getElem?_eq_some_iff.1 e).1
      simpa [Nat.blt_eq] using this
    · cases hb
  · rfl

/-- the place of an element, and what lies there, by a load or in a region of open order -/
theorem at_row {m : Mm} (hm : m.h = h) (hr : IsRow ro h v z) {i : Nat} (hi : i < z.length) : ∃ p, evP .e (.ixS 1 (.c v) (.c (.i .i64 (i : Int)))) = some p ∧ ldM ro m true 1 p = some (.i .i64 (z.getD i 0)) ∧ ldA ro m.h true 1 p = some (.i .i64 (z.getD i 0)) := by
  subst hm
  rcases hr with ⟨rfl, rfl⟩ | ⟨q, cap, blk, rfl, hb, hn, hc⟩
  · simp at hi
  · have h1 := rd_one (i := i) hb (by omega)
    rw [hc i hi] at h1
    refine ⟨_, ixS_eq hi, h1, ?_⟩
    have := rdB_lt hb
    simp only [ldA, this, cond_true, h1]
theorem at_mat {m : Mm} (hm : m.h = h) (hr : IsMat ro h v rows) {i : Nat} (hi : i < rows.length) : ∃ p u, evP .e (.ixS 1 (.c v) (.c (.i .i64 (i : Int)))) = some p ∧ ldM ro m true 1 p = some u ∧ ldA ro m.h true 1 p = some u ∧ IsRow ro h u (rows.getD i []) := by
  subst hm
  rcases hr with ⟨rfl, rfl⟩ | ⟨q, cap, blk, rfl, hb, hn, hc⟩
  · simp at hi
  · have h1 := rd_one (i := i) hb (by omega)
    refine ⟨_, _, ixS_eq hi, h1, ?_, hc i hi⟩
    have := rdB_lt hb
    simp only [ldA, this, cond_true, h1]

theorem rdB_ext {q : Vm.Loc} {blk : ABlk} (x : Heap) (hb : rdB ro h q = some blk) : rdB ro (h ++ x) q = some blk := by
  cases hr : q.ro
  · have e : rdB ro h q = match lget h q.b with
      | some (some b) => some b
      | _ => none := by unfold rdB; rw [hr]; rfl
    have e2 : rdB ro (h ++ x) q = match lget (h ++ x) q.b with
      | some (some b) => some b
      | _ => none := by unfold rdB; rw [hr]; rfl
    rw [e] at hb
    rw [e2]
    split at hb
    · rename_i b e3
      rw [lget_eq] at e3 ⊢
      have := (List.getElem?_eq_some_iff.1 e3).1
      rw [List.getElem?_append_left this, e3]; exact hb
    · cases hb
  · have e : rdB ro h q = lget ro q.b := by simp only [rdB, hr, cond_true]
    have e2 : rdB ro (h ++ x) q = lget ro q.b := by simp only [rdB, hr, cond_true]
    rw [e2, ← e]; exact hb
theorem IsRow.ext (x : Heap) (hr : IsRow ro h v z) : IsRow ro (h ++ x) v z := by
  rcases hr with h0 | ⟨q, cap, blk, e, hb, h1, h2⟩
  · exact .inl h0
  · exact .inr ⟨q, cap, blk, e, rdB_ext x hb, h1, h2⟩
theorem IsMat.ext (x : Heap) (hr : IsMat ro h v rows) : IsMat ro (h ++ x) v rows := by
  rcases hr with h0 | ⟨q, cap, blk, e, hb, h1, h2⟩
  · exact .inl h0
  · exact .inr ⟨q, cap, blk, e, rdB_ext x hb, h1, fun r hr => (h2 r hr).ext x⟩
end

/- loops that look for something -/
def firstS {R : Type} (step : Nat → Option R) : Nat → Nat → Option R
  | 0, _ => none
  | k + 1, i => match step i with
    | some r => some r
    | none => firstS step k (i + 1)
def outS {R : Type} : Option R → Unit ⊕ R
  | some r => .inr r
  | none => .inl ()
theorem loop_first {R : Type} {b : Int → Option (Int ⊕ (Unit ⊕ R))} (n : Nat) (step : Nat → Option R) (hout : b (n : Int) = some (.inr (.inl ()))) (hin : ∀ i, i < n → b (i : Int) = some (match step i with | some r => .inr (.inr r) | none => .inl ((i : Int) + 1))) :
    ∀ (k i : Nat), i + k = n → loopX b (i : Int) = some (outS (firstS step k i))
  | 0, i, hi => by
    simp only [Nat.add_zero] at hi
    subst hi
    exact loopX_out hout
  | k + 1, i, hi => by
    have h1 := hin i (by omega)
    unfold firstS
    cases hs : step i with
    | some r => rw [hs] at h1; exact loopX_out h1
    | none =>
      rw [hs] at h1
      exact loopX_on h1 (loop_first n step hout hin k (i + 1) (by omega))
theorem firstS_none {R : Type} {step : Nat → Option R} : ∀ {k i : Nat}, firstS step k i = none ↔ ∀ j, i ≤ j → j < i + k → step j = none
  | 0, i => ⟨fun _ j h1 h2 => by omega, fun _ => rfl⟩
  | k + 1, i => by
    unfold firstS
    cases hs : step i with
    | some r => simp only [reduceCtorEq, false_iff]; intro h; have := h i (Nat.le_refl _) (by omega); rw [hs] at this; cases this
    | none =>
      simp only
      rw [firstS_none]
      constructor
      · intro h j h1 h2
        by_cases e : i = j
        · subst e; exact hs
        · exact h j (by omega) (by omega)
      · intro h j h1 h2
        exact h j (by omega) (by omega)
theorem firstS_some {R : Type} {step : Nat → Option R} {r : R} : ∀ {k i : Nat}, firstS step k i = some r → ∃ j, i ≤ j ∧ j < i + k ∧ step j = some r ∧ ∀ j', i ≤ j' → j' < j → step j' = none
  | 0, i, h => by cases h
  | k + 1, i, h => by
    unfold firstS at h
    cases hs : step i with
    | some r' =>
      rw [hs] at h
      cases h
      exact ⟨i, Nat.le_refl _, by omega, hs, fun j' h1 h2 => by omega⟩
    | none =>
      rw [hs] at h
      obtain ⟨j, h1, h2, h3, h4⟩ := firstS_some h
      refine ⟨j, by omega, by omega, h3, fun j' h5 h6 => ?_⟩
      by_cases e : i = j'
      · subst e; exact hs
      · exact h4 j' (by omega) h6
theorem firstS_congr {R : Type} {s s' : Nat → Option R} : ∀ {k i : Nat}, (∀ j, i ≤ j → j < i + k → s j = s' j) → firstS s k i = firstS s' k i
  | 0, i, _ => rfl
  | k + 1, i, h => by
    unfold firstS
    rw [h i (Nat.le_refl _) (by omega), firstS_congr (i := i + 1) fun j h1 h2 => h j (by omega) (by omega)]

theorem loopX_elim {S R : Type} {C : Prop} {b : S → Option (S ⊕ R)} (I : S → Prop) (Q : R → Prop) (f : S → Nat) (s : S) (hs : I s)
    (hb : ∀ s, I s → (∃ s', b s = some (.inl s') ∧ I s' ∧ f s' < f s) ∨ (∃ r, b s = some (.inr r) ∧ Q r)) (k : ∀ r, loopX b s = some r → Q r → C) : C := by
  obtain ⟨r, h1, h2⟩ := loopX_rule I Q f hb s hs
  exact k r h1 h2
theorem meansX_call (F : Tab) (ro : List ABlk) : (meansX F ro).call = callX F ro := rfl
theorem meansX_loop {S R : Type} (F : Tab) (ro : List ABlk) (b : S → Option (S ⊕ R)) (s : S) : (meansX F ro).loop b s = loopX b s := rfl
theorem known_ne {f : Nat} {v : AVal} {k : Nat} {a : AVal} {l : List AVal} {h : Heap} : known0 f v k (a :: l) h = none := rfl
theorem alive_pure {ro : List ABlk} {h : Heap} : callX F1 ro 17 [] h = some (.b true, h, h.length, h.length) := callX_ov rfl
end Go.Proofs.Ytllmlonngnhbfaa.Bed

/- Reading the plain functions: laws that name no program. -/
import Derived.Test.YtageakoepjkkbaaVmAE
open Go.Vm
set_option linter.unusedVariables false
namespace Go.Vm
open Go

/-- a row of numbers -/
def IsRow (ro : List ABlk) (h : Heap) (v : AVal) (z : List Int) : Prop :=
  (v = .nsl ∧ z = []) ∨ ∃ q cap blk, v = .sl q z.length cap ∧ rdB ro h q = some blk ∧ q.off + z.length ≤ blk.n ∧ ∀ j, j < z.length → blk.c.get (q.off + j) = .i .i64 (z.getD j 0)
/-- a list of rows -/
def IsMat (ro : List ABlk) (h : Heap) (v : AVal) (rows : List (List Int)) : Prop :=
  (v = .nsl ∧ rows = []) ∨ ∃ q cap blk, v = .sl q rows.length cap ∧ rdB ro h q = some blk ∧ q.off + rows.length ≤ blk.n ∧ ∀ r, r < rows.length → IsRow ro h (blk.c.get (q.off + r)) (rows.getD r [])
def inI64 (n : Int) : Prop := -9223372036854775808 ≤ n ∧ n ≤ 9223372036854775807
theorem wf_i64 {n : Int} (h : (Lit.int .i64 n).wf = true) : inI64 n := by
  simp [Lit.wf, IntKind.min, IntKind.max, IntKind.signed, IntKind.bits] at h
  constructor <;> omega
def roCell (base : Nat) (A : Nat → Option Addr) (L C : Nat → Nat) (r : Nat) : AVal :=
  match A r with
  | none => .nsl
  | some _ => .sl ⟨true, base + 1 + r, 0⟩ (L r) (.known (C r))
def roMat (base cap : Nat) (A : Nat → Option Addr) (L C : Nat → Nat) (Z : Nat → List Int) : List ABlk :=
  ⟨0, cap, Tr.mk ((List.range cap).map (roCell base A L C)), none⟩ :: (List.range cap).map fun r => ⟨0, cond (A r).isSome (C r) 0, Tr.mk ((Z r).map (AVal.i .i64)), none⟩
def rlMat (a : Addr) (cap : Nat) (A : Nat → Option Addr) : Rl :=
  a :: (List.range cap).map fun r => (A r).getD a
section
variable {α β : Type}
theorem bindO_some (a : α) (f : α → Option β) : bindO (some a) f = f a := rfl
end
section
variable {α β : Type}
theorem bindP_some (v : AVal) (m : Mm) (f : AVal → Mm → Option β) : bindP (some (v, m)) f = f v m := rfl
end
section
variable {α β : Type}
theorem asI_i (k : IntKind) (x : Int) (f : Int → Option β) : asI k (.i k x) f = f x := by simp [asI, kEq_self]
end
section
variable {α β : Type}
theorem asB_b (x : Bool) (f : Bool → Option β) : asB (.b x) f = f x := rfl
end
section
variable {α β : Type}
theorem asP_p (q : Vm.Loc) (f : Vm.Loc → Option β) : asP (.p (some q)) f = f q := rfl
end
section
variable {α β : Type}
theorem chk_true (f : Option β) : chk true f = f := rfl
end
theorem wr_id {x : Int} (h : inI64 x) : wr .i64 x = x := by
  rw [wr_i64]; exact wrap_i64_in x h.1 h.2
theorem wr_id' {x : Int} (h1 : -9223372036854775808 ≤ x) (h2 : x ≤ 9223372036854775807) : wr .i64 x = x := wr_id ⟨h1, h2⟩
theorem callM_eq {call : Caller} {m : Mm} {f : Nat} {vs : List AVal} {v : AVal} {h : Heap} {lw lp : Nat} (e : call f vs m.h = some (v, h, lw, lp)) : callM call m f vs = some (v, ⟨h, min m.lw lw, min m.lp lp⟩) := by
  unfold callM; rw [e]
/-- a call that leaves everything as it was -/
theorem callM_pure {call : Caller} {h : Heap} {l p : Nat} {f : Nat} {vs : List AVal} {v : AVal} (e : call f vs h = some (v, h, h.length, h.length)) (hl : l ≤ h.length) (hp : p ≤ h.length) : callM call ⟨h, l, p⟩ f vs = some (v, ⟨h, l, p⟩) := by
  rw [callM_eq (m := ⟨h, l, p⟩) e]
  simp [Nat.min_eq_left hl, Nat.min_eq_left hp]
theorem fin_pure {h : Heap} {v : AVal} (hv : v.bel h.length = true) : finM h.length v ⟨h, h.length, h.length⟩ = some (v, h, h.length, h.length) := by
  simp [finM, gc, hv]
/-- what was made is dropped -/
theorem fin_drop {h x : Heap} {v : AVal} (hv : v.bel h.length = true) {lw : Nat} : finM h.length v ⟨h ++ x, lw, h.length⟩ = some (v, h, lw, h.length) := by
  simp [finM, gc, hv]
section
variable {ro : List ABlk} {h : Heap} {v : AVal} {z : List Int} {rows : List (List Int)}
theorem len_row (hr : IsRow ro h v z) : evP .e (.len false (.c v)) = some (.i .i64 z.length) := by
  rcases hr with ⟨rfl, rfl⟩ | ⟨q, cap, blk, rfl, -⟩
  · rfl
  · simp [evP, ev_len, opd, mkI_eq]
end
section
variable {ro : List ABlk} {h : Heap} {v : AVal} {z : List Int} {rows : List (List Int)}
theorem len_mat (hr : IsMat ro h v rows) : evP .e (.len false (.c v)) = some (.i .i64 rows.length) := by
  rcases hr with ⟨rfl, rfl⟩ | ⟨q, cap, blk, rfl, -⟩
  · rfl
  · simp [evP, ev_len, opd, mkI_eq]
end
section
variable {ro : List ABlk} {h : Heap} {v : AVal} {z : List Int} {rows : List (List Int)}
theorem ixS_eq {q : Vm.Loc} {len : Nat} {cap : Cap} {i : Nat} (hi : i < len) : evP .e (.ixS 1 (.c (.sl q len cap)) (.c (.i .i64 (i : Int)))) = some (.p (some ⟨q.ro, q.b, q.off + i⟩)) := by
  have : Nat.blt i len = true := by rw [Nat.blt_eq]; exact hi
  have e : ((i : Int)) = Int.ofNat i := rfl
  simp only [evP, ev_ixS, opd, e, atI, this, cond_true, Nat.mul_one]
end
section
variable {ro : List ABlk} {h : Heap} {v : AVal} {z : List Int} {rows : List (List Int)}
theorem rd_one {q : Vm.Loc} {blk : ABlk} {i : Nat} (hb : rdB ro h q = some blk) (hi : q.off + i < blk.n) : rd ro h true 1 ⟨q.ro, q.b, q.off + i⟩ = some (blk.c.get (q.off + i)) := by
  have e : rdB ro h ⟨q.ro, q.b, q.off + i⟩ = some blk := hb
  have : Nat.blt (q.off + i) blk.n = true := by rw [Nat.blt_eq]; exact hi
  simp only [rd, e, cond_true, this]
end
section
variable {ro : List ABlk} {h : Heap} {v : AVal} {z : List Int} {rows : List (List Int)}
theorem rdB_lt {q : Vm.Loc} {blk : ABlk} (hb : rdB ro h q = some blk) : (q.ro || Nat.blt q.b h.length) = true := by
  cases hr : q.ro
  · simp only [rdB, hr, cond_false] at hb
    rw [lget_eq] at hb
    split at hb
    · rename_i e
      have := (List.getElem?_eq_some_iff.1 e).1
      simpa [Nat.blt_eq] using this
    · cases hb
  · rfl
end
section
variable {ro : List ABlk} {h : Heap} {v : AVal} {z : List Int} {rows : List (List Int)}
/-- the place of an element, and what lies there, by a load or in a region of open order -/
theorem at_row {m : Mm} (hm : m.h = h) (hr : IsRow ro h v z) {i : Nat} (hi : i < z.length) : ∃ p, evP .e (.ixS 1 (.c v) (.c (.i .i64 (i : Int)))) = some p ∧ ldM ro m true 1 p = some (.i .i64 (z.getD i 0)) ∧ ldA ro m.h true 1 p = some (.i .i64 (z.getD i 0)) := by
  subst hm
  rcases hr with ⟨rfl, rfl⟩ | ⟨q, cap, blk, rfl, hb, hn, hc⟩
  · simp at hi
  · have h1 := rd_one (i := i) hb (by omega)
    rw [hc i hi] at h1
    refine ⟨_, ixS_eq hi, h1, ?_⟩
    have := rdB_lt hb
    simp only [ldA, this, cond_true, h1]
end
section
variable {ro : List ABlk} {h : Heap} {v : AVal} {z : List Int} {rows : List (List Int)}
theorem at_mat {m : Mm} (hm : m.h = h) (hr : IsMat ro h v rows) {i : Nat} (hi : i < rows.length) : ∃ p u, evP .e (.ixS 1 (.c v) (.c (.i .i64 (i : Int)))) = some p ∧ ldM ro m true 1 p = some u ∧ ldA ro m.h true 1 p = some u ∧ IsRow ro h u (rows.getD i []) := by
  subst hm
  rcases hr with ⟨rfl, rfl⟩ | ⟨q, cap, blk, rfl, hb, hn, hc⟩
  · simp at hi
  · have h1 := rd_one (i := i) hb (by omega)
    refine ⟨_, _, ixS_eq hi, h1, ?_, hc i hi⟩
    have := rdB_lt hb
    simp only [ldA, this, cond_true, h1]
end
section
variable {ro : List ABlk} {h : Heap} {v : AVal} {z : List Int} {rows : List (List Int)}
theorem rdB_ext {q : Vm.Loc} {blk : ABlk} (x : Heap) (hb : rdB ro h q = some blk) : rdB ro (h ++ x) q = some blk := by
  cases hr : q.ro
  · have e : rdB ro h q = match lget h q.b with
      | some (some b) => some b
      | _ => none := by unfold rdB; rw [hr]; rfl
    have e2 : rdB ro (h ++ x) q = match lget (h ++ x) q.b with
      | some (some b) => some b
      | _ => none := by unfold rdB; rw [hr]; rfl
    rw [e] at hb
    rw [e2]
    split at hb
    · rename_i b e3
      rw [lget_eq] at e3 ⊢
      have := (List.getElem?_eq_some_iff.1 e3).1
      rw [List.getElem?_append_left this, e3]; exact hb
    · cases hb
  · have e : rdB ro h q = lget ro q.b := by simp only [rdB, hr, cond_true]
    have e2 : rdB ro (h ++ x) q = lget ro q.b := by simp only [rdB, hr, cond_true]
    rw [e2, ← e]; exact hb
end
section
variable {ro : List ABlk} {h : Heap} {v : AVal} {z : List Int} {rows : List (List Int)}
theorem IsRow.ext (x : Heap) (hr : IsRow ro h v z) : IsRow ro (h ++ x) v z := by
  rcases hr with h0 | ⟨q, cap, blk, e, hb, h1, h2⟩
  · exact .inl h0
  · exact .inr ⟨q, cap, blk, e, rdB_ext x hb, h1, h2⟩
end
section
variable {ro : List ABlk} {h : Heap} {v : AVal} {z : List Int} {rows : List (List Int)}
theorem IsMat.ext (x : Heap) (hr : IsMat ro h v rows) : IsMat ro (h ++ x) v rows := by
  rcases hr with h0 | ⟨q, cap, blk, e, hb, h1, h2⟩
  · exact .inl h0
  · exact .inr ⟨q, cap, blk, e, rdB_ext x hb, h1, fun r hr => (h2 r hr).ext x⟩
end
def firstS {R : Type} (step : Nat → Option R) : Nat → Nat → Option R
  | 0, _ => none
  | k + 1, i => match step i with
    | some r => some r
    | none => firstS step k (i + 1)
def outS {R : Type} : Option R → Unit ⊕ R
  | some r => .inr r
  | none => .inl ()
theorem loop_first {R : Type} {b : Int → Option (Int ⊕ (Unit ⊕ R))} (n : Nat) (step : Nat → Option R) (hout : b (n : Int) = some (.inr (.inl ()))) (hin : ∀ i, i < n → b (i : Int) = some (match step i with | some r => .inr (.inr r) | none => .inl ((i : Int) + 1))) :
    ∀ (k i : Nat), i + k = n → loopX b (i : Int) = some (outS (firstS step k i))
  | 0, i, hi => by
    simp only [Nat.add_zero] at hi
    subst hi
    exact loopX_out hout
  | k + 1, i, hi => by
    have h1 := hin i (by omega)
    unfold firstS
    cases hs : step i with
    | some r => rw [hs] at h1; exact loopX_out h1
    | none =>
      rw [hs] at h1
      exact loopX_on h1 (loop_first n step hout hin k (i + 1) (by omega))
theorem firstS_none {R : Type} {step : Nat → Option R} : ∀ {k i : Nat}, firstS step k i = none ↔ ∀ j, i ≤ j → j < i + k → step j = none
  | 0, i => ⟨fun _ j h1 h2 => by omega, fun _ => rfl⟩
  | k + 1, i => by
    unfold firstS
    cases hs : step i with
    | some r => simp only [reduceCtorEq, false_iff]; intro h; have := h i (Nat.le_refl _) (by omega); rw [hs] at this; cases this
    | none =>
      simp only
      rw [firstS_none]
      constructor
      · intro h j h1 h2
        by_cases e : i = j
        · subst e; exact hs
        · exact h j (by omega) (by omega)
      · intro h j h1 h2
        exact h j (by omega) (by omega)
theorem firstS_some {R : Type} {step : Nat → Option R} {r : R} : ∀ {k i : Nat}, firstS step k i = some r → ∃ j, i ≤ j ∧ j < i + k ∧ step j = some r ∧ ∀ j', i ≤ j' → j' < j → step j' = none
  | 0, i, h => by cases h
  | k + 1, i, h => by
    unfold firstS at h
    cases hs : step i with
    | some r' =>
      rw [hs] at h
      cases h
      exact ⟨i, Nat.le_refl _, by omega, hs, fun j' h1 h2 => by omega⟩
    | none =>
      rw [hs] at h
      obtain ⟨j, h1, h2, h3, h4⟩ := firstS_some h
      refine ⟨j, by omega, by omega, h3, fun j' h5 h6 => ?_⟩
      by_cases e : i = j'
      · subst e; exact hs
      · exact h4 j' (by omega) h6
theorem firstS_congr {R : Type} {s s' : Nat → Option R} : ∀ {k i : Nat}, (∀ j, i ≤ j → j < i + k → s j = s' j) → firstS s k i = firstS s' k i
  | 0, i, _ => rfl
  | k + 1, i, h => by
    unfold firstS
    rw [h i (Nat.le_refl _) (by omega), firstS_congr (i := i + 1) fun j h1 h2 => h j (by omega) (by omega)]
theorem loopX_elim {S R : Type} {C : Prop} {b : S → Option (S ⊕ R)} (I : S → Prop) (Q : R → Prop) (f : S → Nat) (s : S) (hs : I s)
    (hb : ∀ s, I s → (∃ s', b s = some (.inl s') ∧ I s' ∧ f s' < f s) ∨ (∃ r, b s = some (.inr r) ∧ Q r)) (k : ∀ r, loopX b s = some r → Q r → C) : C := by
  obtain ⟨r, h1, h2⟩ := loopX_rule I Q f hb s hs
  exact k r h1 h2
theorem meansX_call (F : Tab) (ro : List ABlk) : (meansX F ro).call = callX F ro := rfl
theorem meansX_loop {S R : Type} (F : Tab) (ro : List ABlk) (b : S → Option (S ⊕ R)) (s : S) : (meansX F ro).loop b s = loopX b s := rfl
theorem known_ne {f : Nat} {v : AVal} {k : Nat} {a : AVal} {l : List AVal} {h : Heap} : known0 f v k (a :: l) h = none := rfl
theorem i64_small {n : Nat} (h : n ≤ 1000000) : inI64 (n : Int) := ⟨by omega, by omega⟩
/-- what a search with a test finds -/
theorem first_all {P : Nat → Prop} [DecidablePred P] {k : Nat} : firstS (fun i => if P i then none else some false) k 0 = if (∀ i, i < k → P i) then none else some false := by
  by_cases h : ∀ i, i < k → P i
  · rw [if_pos h]
    exact firstS_none.2 fun j _ h2 => by rw [if_pos (h j (by omega))]
  · rw [if_neg h]
    cases hf : firstS (fun i => if P i then none else some false) k 0 with
    | none =>
      refine absurd (fun i hi => ?_) h
      have := firstS_none.1 hf i (by omega) (by omega)
      simpa using this
    | some r =>
      obtain ⟨j, -, -, h3, -⟩ := firstS_some hf
      by_cases hc : P j
      · rw [if_pos hc] at h3; cases h3
      · rw [if_neg hc] at h3; exact h3.symm
theorem first_ex {R : Type} {P : Nat → Prop} [DecidablePred P] {k : Nat} {r : R} : firstS (fun i => if P i then some r else none) k 0 = if (∃ i, i < k ∧ P i) then some r else none := by
  by_cases h : ∃ i, i < k ∧ P i
  · rw [if_pos h]
    obtain ⟨i, h1, h2⟩ := h
    cases hf : firstS (fun i => if P i then some r else none) k 0 with
    | none =>
      have := firstS_none.1 hf i (by omega) (by omega)
      rw [if_pos h2] at this; cases this
    | some r' =>
      obtain ⟨j, -, -, h3, -⟩ := firstS_some hf
      by_cases hc : P j
      · rw [if_pos hc] at h3; exact h3.symm
      · rw [if_neg hc] at h3; cases h3
  · rw [if_neg h]
    exact firstS_none.2 fun j _ h2 => by rw [if_neg (fun hp => h ⟨j, by omega, hp⟩)]
theorem row_eq {t : Tr} {off : Nat} {z : List Int} (h : ∀ j, j < z.length → t.get (off + j) = .i .i64 (z.getD j 0)) : t.row off z.length = z.map (AVal.i .i64) := by
  refine List.ext_getElem? fun j => ?_
  rw [getElem?_row, List.getElem?_map]
  by_cases hj : j < z.length
  · rw [if_pos hj, h j hj]
    simp [List.getD, hj]
  · rw [if_neg hj]
    simp [List.getElem?_eq_none (by omega : z.length ≤ j)]
theorem src_row {ro : List ABlk} {h : Heap} {u : AVal} {z : List Int} (hr : IsRow ro h u z) : app_src ro h 1 u = some (z.map (AVal.i .i64), z.length) := by
  rcases hr with ⟨rfl, rfl⟩ | ⟨q, cap, blk, rfl, hb, hn, hc⟩
  · rfl
  · have : Nat.ble (q.off + z.length) blk.n = true := by rw [Nat.ble_eq]; exact hn
    simp only [app_src, hb, this, cond_true, Nat.mul_one, row_eq hc]
theorem fits_small {n k : Nat} (h : n ≤ 1000000) (hk : k ≤ 1000) : fits n k = true := by
  simp only [fits, Bool.and_eq_true, Nat.ble_eq]
  have : n * k ≤ 1000000 * 1000 := Nat.mul_le_mul h hk
  omega
theorem map_getD {z : List Int} {j : Nat} (hj : j < z.length) : (z.map (AVal.i .i64)).getD j und = .i .i64 (z.getD j 0) := by simp [List.getD, hj]
theorem get_blk (e : Nat) (l : List AVal) (j : Nat) : (blkOf e l).c.get j = l.getD j und := get_mk l j
section
variable {ro : List ABlk} {hp : Heap} {b off : Nat} {blk : ABlk}
theorem rdB_heap (hb : lget hp b = some (some blk)) (off : Nat) : rdB ro hp ⟨false, b, off⟩ = some blk := by simp only [rdB, cond_false, hb]
end
section
variable {ro : List ABlk} {hp : Heap} {b off : Nat} {blk : ABlk}
theorem ld_heap {m : Mm} (hm : m.h = hp) (hb : lget hp b = some (some blk)) (ho : off < blk.n) : ldM ro m true 1 (.p (some ⟨false, b, off⟩)) = some (blk.c.get off) := by
  subst hm
  have : Nat.blt off blk.n = true := by rw [Nat.blt_eq]; exact ho
  simp only [ldM, rd, rdB_heap hb, cond_true, this]
end
section
variable {ro : List ABlk} {hp : Heap} {b off : Nat} {blk : ABlk}
theorem lda_heap {h0 : Heap} (hb : lget h0 b = some (some blk)) (ho : off < blk.n) : ldA ro h0 true 1 (.p (some ⟨false, b, off⟩)) = some (blk.c.get off) := by
  have h1 : (false || Nat.blt b h0.length) = true := by
    rw [lget_eq] at hb
    have := (List.getElem?_eq_some_iff.1 hb).1
    simpa [Nat.blt_eq] using this
  have : Nat.blt off blk.n = true := by rw [Nat.blt_eq]; exact ho
  simp only [ldA, h1, rd, rdB_heap hb, cond_true, this]
end
section
variable {ro : List ABlk} {hp : Heap} {b off : Nat} {blk : ABlk}
theorem wrH_heap (hb : lget hp b = some (some blk)) (ho : off < blk.n) {v : AVal} (hv : v.one = true) : wrH hp ⟨false, b, off⟩ [v] = some (hp.set b (some { blk with c := blk.c.set off v })) := by
  have : (Nat.ble (off + 1) blk.n && ones [v]) = true := by simp [ones, hv, Nat.ble_eq]; omega
  simp only [wrH, cond_false, hb, List.length_cons, List.length_nil, Nat.zero_add, this, cond_true, lset_eq, Tr.splice]
end
section
variable {ro : List ABlk} {hp : Heap} {b off : Nat} {blk : ABlk}
theorem st_heap {l p : Nat} (hb : lget hp b = some (some blk)) (ho : off < blk.n) {v : AVal} (hv : v.one = true) (hc : v.cells = [v]) (hn : nonp [v] = true) :
    stepM ro ⟨hp, l, p⟩ (.st 1 (.c (.p (some ⟨false, b, off⟩))) (.c v)) = some (und, ⟨hp.set b (some { blk with c := blk.c.set off v }), min l b, p⟩) := by
  simp only [stepM, stepK, opd, st_st, hc, List.length_cons, List.length_nil, Nat.zero_add, wrH_heap hb ho hv, hn, cond_true, St.mm]
  rfl
end
section
variable {ro : List ABlk} {hp : Heap} {b off : Nat} {blk : ABlk}
theorem wr_heap {l p : Nat} (hb : lget hp b = some (some blk)) (ho : off < blk.n) {v : AVal} (hv : v.one = true) (hn : nonp [v] = true) :
    writesM ro [] [(⟨false, b, off⟩, [v])] ⟨hp, l, p⟩ = some ⟨hp.set b (some { blk with c := blk.c.set off v }), min l b, p⟩ := by
  simp only [writesM, writes, wrH_heap hb ho hv, hn, ckOk, if_true, St.mm]
end
section
variable {ro : List ABlk} {hp : Heap} {b off : Nat} {blk : ABlk}
theorem lget_set (hb : lget hp b = some (some blk)) (x : Option ABlk) : lget (hp.set b x) b = some x := by
  rw [lget_eq] at hb ⊢
  have := (List.getElem?_eq_some_iff.1 hb).1
  simp [this]
end
section
variable {ro : List ABlk} {hp : Heap} {b off : Nat} {blk : ABlk}
theorem lget_ext (hb : lget hp b = some (some blk)) (x : Heap) : lget (hp ++ x) b = some (some blk) := by
  rw [lget_eq] at hb ⊢
  rw [List.getElem?_append_left (List.getElem?_eq_some_iff.1 hb).1]; exact hb
end
section
variable {ro : List ABlk} {hp : Heap} {b off : Nat} {blk : ABlk}
theorem lget_lt (hb : lget hp b = some (some blk)) : b < hp.length := by
  rw [lget_eq] at hb
  exact (List.getElem?_eq_some_iff.1 hb).1
end
section
variable {ro : List ABlk} {hp : Heap} {b off : Nat} {blk : ABlk}
theorem lget_last (h : Heap) (x : Option ABlk) : lget (h ++ [x]) h.length = some x := by rw [lget_eq]; simp
end
theorem p_nilck (q : Vm.Loc) : evP .e (.nilck (.c (.p (some q)))) = some (.p (some q)) := rfl
theorem p_faddr (r : Bool) (b o off : Nat) : evP .e (.faddr off (.c (.p (some ⟨r, b, o⟩)))) = some (.p (some ⟨r, b, o + off⟩)) := rfl
theorem p_ixA {r : Bool} {b o len es : Nat} {x : Int} {i : Nat} (hx : x = (i : Int)) (hi : i < len) : evP .e (.ixA len es (.c (.p (some ⟨r, b, o⟩))) (.c (.i .i64 x))) = some (.p (some ⟨r, b, o + i * es⟩)) := by
  have : Nat.blt i len = true := by rw [Nat.blt_eq]; exact hi
  have e : ((i : Int)) = Int.ofNat i := rfl
  subst hx
  simp only [evP, ev_ixA, opd, e, atI, this, cond_true]
def optsV (n m : Nat) : Nat := Nat.xor (2 ^ n - 1) (Nat.land (2 ^ n - 1) m)
theorem bit_or {a c : Nat} (ha : a < 256) (hc : c < 256) : bitV .or .u8 a c = ((a ||| c : Nat) : Int) := by
  have e : (Nat.blt a 256 && Nat.blt c 256) = true := by simp [Nat.blt_eq, ha, hc]
  show numA (Go.Vm.bits .or .u8 (Int.ofNat a) (Int.ofNat c)) = _
  simp only [Go.Vm.bits, e, cond_true, bits8, mkN_eq, numA]
  rfl
theorem bit_and {a c : Nat} (ha : a < 256) (hc : c < 256) : bitV .and .u8 a c = ((a &&& c : Nat) : Int) := by
  have e : (Nat.blt a 256 && Nat.blt c 256) = true := by simp [Nat.blt_eq, ha, hc]
  show numA (Go.Vm.bits .and .u8 (Int.ofNat a) (Int.ofNat c)) = _
  simp only [Go.Vm.bits, e, cond_true, bits8, mkN_eq, numA]
  rfl
theorem bit_andNot {a c : Nat} (ha : a < 256) (hc : c < 256) : bitV .andNot .u8 a c = ((Nat.xor a (Nat.land a c) : Nat) : Int) := by
  have e : (Nat.blt a 256 && Nat.blt c 256) = true := by simp [Nat.blt_eq, ha, hc]
  show numA (Go.Vm.bits .andNot .u8 (Int.ofNat a) (Int.ofNat c)) = _
  simp only [Go.Vm.bits, e, cond_true, bits8, mkN_eq, numA]
  rfl
theorem wr_u8_id {x : Nat} (h : x < 256) : wr .u8 (x : Int) = (x : Int) := by
  rw [wr_u8]; exact wrap_u8_in _ (by omega) (by omega)
theorem shl_one {n : Nat} (hn : n ≤ 7) : shlV .u8 1 n = ((2 ^ n : Nat) : Int) := by
  have h : ∀ n, n ≤ 7 → shlV .u8 1 ((n : Nat) : Int) = ((2 ^ n : Nat) : Int) := by decide
  exact h n hn
theorem or_lt {a b : Nat} (ha : a < 256) (hb : b < 256) : a ||| b < 256 := Nat.or_lt_two_pow (n := 8) ha hb
theorem optsV_lt {n m : Nat} (hn : n ≤ 7) : optsV n m < 256 := by
  have h1 : 2 ^ n - 1 < 2 ^ 8 := by
    have : 2 ^ n ≤ 2 ^ 7 := Nat.pow_le_pow_right (by omega) hn
    omega
  have h2 : (2 ^ n - 1) &&& m < 2 ^ 8 := Nat.lt_of_le_of_lt Nat.and_le_left h1
  exact Nat.xor_lt_two_pow h1 h2
theorem optsV_bit {n m k : Nat} : (optsV n m).testBit k = (decide (k < n) && !m.testBit k) := by
  unfold optsV
  show ((2 ^ n - 1) ^^^ ((2 ^ n - 1) &&& m)).testBit k = _
  rw [Nat.testBit_xor, Nat.testBit_and, Nat.testBit_two_pow_sub_one]
  cases decide (k < n) <;> cases m.testBit k <;> rfl
def sw (r c k : Nat) : Nat → Nat
  | 0 => r
  | 1 => c
  | _ => k
theorem sw_lt {r c k : Nat} (hr : r < 7) (hc : c < 7) (hk : k < 7) (i : Nat) : sw r c k i < 7 := by
  unfold sw; split <;> assumption
theorem pow_lt {k : Nat} (hk : k ≤ 7) : 2 ^ k < 256 := by
  have : 2 ^ k ≤ 2 ^ 7 := Nat.pow_le_pow_right (by omega) hk
  omega
theorem set_last {hp : Heap} {x : Heap} {b : Nat} (hb : b < hp.length) (v : Option ABlk) : (hp ++ x).set b v = hp.set b v ++ x := List.set_append_left b v hb
theorem firstS_at {R : Type} {step : Nat → Option R} {r : R} : ∀ {k i j : Nat}, i ≤ j → j < i + k → (∀ j', i ≤ j' → j' < j → step j' = none) → step j = some r → firstS step k i = some r
  | 0, i, j, h1, h2, _, _ => by omega
  | k + 1, i, j, h1, h2, h3, h4 => by
    unfold firstS
    by_cases e : i = j
    · subst e; rw [h4]
    · rw [h3 i (Nat.le_refl _) (by omega)]
      exact firstS_at (by omega) (by omega) (fun j' h5 h6 => h3 j' (by omega) h6) h4
theorem shr_and {X q : Nat} (hX : X < 256) (hq : q ≤ 7) : eqI (bitV .and .u8 (shrV .u8 X q) 1) 0 = !X.testBit q := by
  have h1 : shrV .u8 (X : Int) (q : Int) = ((X / 2 ^ q : Nat) : Int) := by
    unfold shrV
    have : min ((q : Int).toNat) (IntKind.u8.bits) = q := by
      show min q 8 = q
      omega
    rw [this]
    show Int.fdiv (X : Int) (((2 ^ q : Nat)) : Int) = _
    rw [Int.fdiv_eq_ediv_of_nonneg _ (Int.natCast_nonneg _)]
    norm_cast
  have h2 : X / 2 ^ q < 256 := Nat.lt_of_le_of_lt (Nat.div_le_self _ _) hX
  rw [h1, show (1 : Int) = ((1 : Nat) : Int) from rfl, bit_and h2 (by omega), eqI_eq]
  have h3 : X.testBit q = (X / 2 ^ q &&& 1 != 0) := by
    unfold Nat.testBit
    rw [Nat.shiftRight_eq_div_pow, Nat.and_comm]
  rw [h3]
  cases h : X / 2 ^ q &&& 1 with
  | zero => simp
  | succ n => simp; omega
def nts (z : List Nat) : List Int := z.map (fun n : Nat => ((n : Nat) : Int))
theorem nts_len (z : List Nat) : (nts z).length = z.length := by simp [nts]
theorem nts_get (z : List Nat) (j : Nat) : (nts z).getD j 0 = ((z.getD j 0 : Nat) : Int) := by
  unfold nts
  rw [List.getD_eq_getElem?_getD, List.getD_eq_getElem?_getD, List.getElem?_map]
  cases z[j]? <;> rfl
theorem lget_of {hp hp' : Heap} {i : Nat} (h : hp'[i]? = hp[i]?) : lget hp' i = lget hp i := by rw [lget_eq, lget_eq, h]
structure MaskC (X : Nat) (now : List Nat) : Prop where
  lt : X < 256
  bit : ∀ c, X.testBit c = true ↔ c ∈ now
theorem MaskC.add {X : Nat} {now : List Nat} (h : MaskC X now) {c : Nat} (hc : c < 7) : MaskC (X ||| 2 ^ c) (now ++ [c]) :=
  ⟨or_lt h.lt (pow_lt (by omega)), fun q => by rw [Nat.testBit_or, Nat.testBit_two_pow, Bool.or_eq_true, h.bit q, decide_eq_true_eq, List.mem_append, List.mem_singleton]; constructor <;> (rintro (h | h); exact .inl h; exact .inr h.symm)⟩
theorem getD_app {now : List Nat} {c i : Nat} (hi : i < now.length) : (now ++ [c]).getD i 0 = now.getD i 0 := by
  rw [List.getD_eq_getElem?_getD, List.getD_eq_getElem?_getD, List.getElem?_append_left hi]
theorem getD_app' {now : List Nat} {c : Nat} : (now ++ [c]).getD now.length 0 = c := by
  rw [List.getD_eq_getElem?_getD, List.getElem?_append_right (Nat.le_refl _)]; simp
theorem and_pow' : ∀ c, c < 8 → ∀ X, X < 256 → Nat.beq (X &&& 2 ^ c) 0 = !X.testBit c := by decide +kernel
theorem and_pow {X c : Nat} (hX : X < 256) (hc : c ≤ 7) : eqI (bitV .and .u8 X ((2 ^ c : Nat) : Int)) 0 = !X.testBit c := by
  rw [bit_and hX (pow_lt hc), ← and_pow' c (by omega) X hX, eqI_eq]
  cases h : Nat.beq (X &&& 2 ^ c) 0
  · have : X &&& 2 ^ c ≠ 0 := fun e => by rw [e] at h; cases h
    simp only [beq_eq_false_iff_ne, ne_eq]
    omega
  · have := Nat.eq_of_beq_eq_true h
    rw [this]; rfl
theorem fin_b {hp : Heap} {l p L : Nat} {c : Bool} : ∃ hp', finM L (.b c) ⟨hp, l, p⟩ = some (.b c, hp', l, p) ∧ (hp' = hp ∨ (L ≤ p ∧ hp' = hp.take L)) := by
  by_cases h : L ≤ p
  · exact ⟨hp.take L, by simp [finM, gc, AVal.bel, h], .inr ⟨h, rfl⟩⟩
  · exact ⟨hp, by simp [finM, gc, h], .inl rfl⟩
theorem lget_take {hp : Heap} {i L : Nat} (h : i < L) : lget (hp.take L) i = lget hp i := by
  rw [lget_eq, lget_eq, List.getElem?_take, if_pos h]
theorem not_bel {L b off len : Nat} {cap : Cap} (h : L ≤ b) : (AVal.sl ⟨false, b, off⟩ len cap).bel L = false := by
  simp only [AVal.bel, Bool.false_or]
  cases hh : Nat.blt b L
  · rfl
  · rw [Nat.blt_eq] at hh; omega
theorem st_ptr {ro : List ABlk} {hp : Heap} {b off l p : Nat} {blk : ABlk} (hb : lget hp b = some (some blk)) (ho : off < blk.n) {v : AVal} (hv : v.one = true) (hc : v.cells = [v]) (hn : nonp [v] = false) :
    stepM ro ⟨hp, l, p⟩ (.st 1 (.c (.p (some ⟨false, b, off⟩))) (.c v)) = some (und, ⟨hp.set b (some { blk with c := blk.c.set off v }), min l b, min p b⟩) := by
  simp only [stepM, stepK, opd, st_st, hc, List.length_cons, List.length_nil, Nat.zero_add, wrH_heap hb ho hv, hn, cond_false, St.mm]
  rfl
theorem take_eq {h h' : Heap} (hl : h.length ≤ h'.length) (hk : ∀ i, i < h.length → h'[i]? = h[i]?) : h' = h ++ h'.drop h.length := by
  have : h'.take h.length = h := by
    refine List.ext_getElem? fun i => ?_
    rw [List.getElem?_take]
    split
    · rename_i hi; exact hk i hi
    · rename_i hi; rw [List.getElem?_eq_none (by omega)]
  conv => lhs; rw [← List.take_append_drop h.length h', this]
theorem fin_gen {h h' : Heap} {v : AVal} {l p : Nat} (hl : h.length ≤ h'.length) (hk : ∀ i, i < h.length → h'[i]? = h[i]?) : ∃ y, finM h.length v ⟨h', l, p⟩ = some (v, h ++ y, l, p) ∧ (v.bel h.length = false → h ++ y = h') := by
  have he := take_eq hl hk
  by_cases hc : (Nat.ble h.length p && v.bel h.length) = true
  · refine ⟨[], ?_, fun hb => by rw [hb] at hc; simp at hc⟩
    have ht : h'.take h.length = h := by rw [he]; simp
    simp only [finM, gc, hc, if_true, ht, List.append_nil]
  · refine ⟨h'.drop h.length, ?_, fun _ => he.symm⟩
    simp only [finM, gc, hc]
    rw [← he]
    rfl
theorem nts_app (now : List Nat) (c : Nat) : nts (now ++ [c]) = nts now ++ [(c : Int)] := by simp [nts]
theorem ones_ints (z : List Int) : ones (z.map (AVal.i .i64)) = true := by
  induction z with
  | nil => rfl
  | cons a z ih => simp only [List.map_cons, ones, ih]; rfl
/-- a copy of a row with one number more -/
theorem push_row {ro : List ABlk} {hp : Heap} {v : AVal} {z : List Int} {L : Nat} (hr : IsRow ro hp v z) (hz : z.length ≤ 1000) (hL : L ≤ hp.length) (c : Int) :
    ∃ v1 m1 v2 m2 v3 y, stepM ro ⟨hp, L, L⟩ (.app 3 1 8 [(AVal.i IntKind.i64 0)] (.c AVal.nsl) (.c v)) = some (v1, m1) ∧ stepM ro m1 (.bsl 3 1 [(AVal.i IntKind.i64 0)] 1 [((0, 1), .c (.i .i64 c))]) = some (v2, m2) ∧
      stepM ro m2 (.app 3 1 8 [(AVal.i IntKind.i64 0)] (.c v1) (.c v2)) = some (v3, ⟨hp ++ y, L, L⟩) ∧ IsRow ro (hp ++ y) v3 (z ++ [c]) := by
  have one : ∀ (H : Heap), app_src ro (H ++ [some (blkOf 3 [AVal.i .i64 c])]) 1 (.sl ⟨false, H.length, 0⟩ 1 (.known 1)) = some ([.i .i64 c], 1) := fun H => by
    have hb : rdB ro (H ++ [some (blkOf 3 [AVal.i .i64 c])]) ⟨false, H.length, 0⟩ = some (blkOf 3 [AVal.i .i64 c]) := rdB_heap (lget_last _ _) 0
    have hg : (blkOf 3 [AVal.i .i64 c]).c.row 0 1 = [.i .i64 c] := rfl
    have hble : Nat.ble (0 + 1 * 1) (blkOf 3 [AVal.i .i64 c]).n = true := rfl
    simp only [app_src, hb, hble, cond_true]
    rw [show 1 * 1 = 1 from rfl, hg]
  by_cases h0 : z = []
  · subst h0
    refine ⟨.nsl, ⟨hp, L, L⟩, .sl ⟨false, hp.length, 0⟩ 1 (.known 1), ⟨hp ++ [some (blkOf 3 [AVal.i .i64 c])], L, L⟩, .sl ⟨false, hp.length + 1, 0⟩ 1 .grow, [some (blkOf 3 [AVal.i .i64 c]), some (blkOf 3 [AVal.i .i64 c])], ?_, rfl, ?_, ?_⟩
    · have : Nat.beq ([] : List Int).length 0 = true := rfl
      simp only [stepM, stepK, opd, st_app, src_row hr, this, cond_true, St.mm]
    · have hb : Nat.beq 1 0 = false := rfl
      simp only [stepM, stepK, opd, st_app, one hp, hb, cond_false, fits_small (by omega : 1 ≤ 1000000) (by omega : 8 ≤ 1000), cond_true, newB, St.mm]
      simp
    · refine .inr ⟨_, _, blkOf 3 [AVal.i .i64 c], rfl, rdB_heap (by rw [lget_eq]; simp) 0, by simp [blkOf], fun j hj => ?_⟩
      have : j = 0 := by simp at hj; omega
      subst this
      rfl
  · have hl : z.length ≠ 0 := fun h => h0 (List.eq_nil_of_length_eq_zero h)
    have hb : Nat.beq z.length 0 = false := by
      cases hh : Nat.beq z.length 0
      · rfl
      · exact absurd (Nat.eq_of_beq_eq_true hh) hl
    obtain ⟨A, hA⟩ : ∃ A, A = blkOf 3 (z.map (AVal.i .i64)) := ⟨_, rfl⟩
    obtain ⟨B, hB⟩ : ∃ B, B = blkOf 3 [AVal.i .i64 c] := ⟨_, rfl⟩
    obtain ⟨C, hC⟩ : ∃ C, C = blkOf 3 (z.map (AVal.i .i64) ++ [AVal.i .i64 c]) := ⟨_, rfl⟩
    refine ⟨.sl ⟨false, hp.length, 0⟩ z.length .grow, ⟨hp ++ [some A], L, L⟩, .sl ⟨false, hp.length + 1, 0⟩ 1 (.known 1), ⟨hp ++ [some A] ++ [some B], L, L⟩, .sl ⟨false, hp.length + 2, 0⟩ (z.length + 1) .grow, [none, some B, some C], ?_, ?_, ?_, ?_⟩
    · simp only [stepM, stepK, opd, st_app, src_row hr, hb, cond_false, fits_small (by omega : z.length ≤ 1000000) (by omega : 8 ≤ 1000), cond_true, newB, St.mm, hA]
    · rw [hB]
      simp [stepM, stepK, st_bsl, rep, fillA, opd, AVal.cells, splice, newB, St.mm]
    · have hsrc := one (hp ++ [some A])
      rw [← hB] at hsrc
      have hlen : (hp ++ [some A]).length = hp.length + 1 := by simp
      rw [hlen] at hsrc
      have hg : lget (hp ++ [some A] ++ [some B]) hp.length = some (some A) := lget_ext (lget_last _ _) _
      have h1 : (Nat.beq A.e 3 && Nat.ble z.length A.n && fits (z.length + 1) 8 && ones [AVal.i .i64 c]) = true := by
        rw [hA, fits_small (by omega : z.length + 1 ≤ 1000000) (by omega : 8 ≤ 1000)]
        simp [blkOf, ones, AVal.one, Nat.ble_eq]
      have h2 : (false || !Nat.beq 0 0 || Nat.beq 1 0) = false := rfl
      have hrow : A.c.row 0 z.length = z.map (AVal.i .i64) := by
        refine row_eq fun j hj => ?_
        rw [hA, get_blk, Nat.zero_add, map_getD hj]
      have hset : lset none (hp ++ [some A] ++ [some B]) hp.length = hp ++ [none] ++ [some B] := by
        rw [lset_eq]; simp
      have h3 : Nat.blt 0 A.n = true := by rw [Nat.blt_eq, hA]; simp [blkOf]; omega
      simp only [stepM, stepK, opd, st_app, hsrc, app_grow, h2, cond_false, hg, Nat.mul_one, h1, h3, Bool.and_self, cond_true, St.mm, hrow, hset, Nat.min_eq_left hL, ← hC]
      simp
    · refine .inr ⟨⟨false, hp.length + 2, 0⟩, .grow, C, by simp, rdB_heap (by rw [lget_eq, List.getElem?_append_right (by omega), Nat.add_sub_cancel_left]; rfl) 0, by rw [hC]; simp [blkOf], fun j hj => ?_⟩
      rw [hC, get_blk, Nat.zero_add]
      have : z.map (AVal.i .i64) ++ [AVal.i .i64 c] = (z ++ [c]).map (AVal.i .i64) := by simp
      rw [this, map_getD hj]
theorem fin_same {h : Heap} {v : AVal} {l p : Nat} : finM h.length v ⟨h, l, p⟩ = some (v, h, l, p) := by
  unfold finM gc
  simp only
  split
  · simp
  · rfl
/-- loops that count up to n, with a state, that may end early -/
theorem loop_upto {R : Type} {b : Int × Mm → Option ((Int × Mm) ⊕ (Mm ⊕ R))} (n : Nat) (I : Nat → Mm → Prop) (Q : R → Prop)
    (hin : ∀ i m, i < n → I i m → (∃ m', b ((i : Int), m) = some (.inl (((i + 1 : Nat) : Int), m')) ∧ I (i + 1) m') ∨ (∃ r, b ((i : Int), m) = some (.inr (.inr r)) ∧ Q r))
    (hout : ∀ m, I n m → b ((n : Int), m) = some (.inr (.inl m))) :
    ∀ (k i : Nat) (m : Mm), i + k = n → I i m → ∃ o, loopX b ((i : Int), m) = some o ∧ ((∃ m', o = .inl m' ∧ I n m') ∨ ∃ r, o = .inr r ∧ Q r)
  | 0, i, m, hk, hi => by
    obtain rfl : i = n := by omega
    exact ⟨_, loopX_out (hout m hi), .inl ⟨m, rfl, hi⟩⟩
  | k + 1, i, m, hk, hi => by
    rcases hin i m (by omega) hi with ⟨m', h1, h2⟩ | ⟨r, h1, h2⟩
    · obtain ⟨o, h3, h4⟩ := loop_upto n I Q hin hout k (i + 1) m' (by omega) h2
      exact ⟨o, loopX_on h1 h3, h4⟩
    · exact ⟨_, loopX_out h1, .inr ⟨r, rfl, h2⟩⟩
/-- loops that count up to n, with a state -/
theorem loop_all {b : Int × Mm → Option ((Int × Mm) ⊕ Mm)} (n : Nat) (I : Nat → Mm → Prop)
    (hin : ∀ i m, i < n → I i m → ∃ m', b ((i : Int), m) = some (.inl (((i + 1 : Nat) : Int), m')) ∧ I (i + 1) m')
    (hout : ∀ m, I n m → b ((n : Int), m) = some (.inr m)) :
    ∀ (k i : Nat) (m : Mm), i + k = n → I i m → ∃ m', loopX b ((i : Int), m) = some m' ∧ I n m'
  | 0, i, m, hk, hi => by
    obtain rfl : i = n := by omega
    exact ⟨_, loopX_out (hout m hi), hi⟩
  | k + 1, i, m, hk, hi => by
    obtain ⟨m', h1, h2⟩ := hin i m (by omega) hi
    obtain ⟨o, h3, h4⟩ := loop_all n I hin hout k (i + 1) m' (by omega) h2
    exact ⟨o, loopX_on h1 h3, h4⟩
theorem wr_next {k : Nat} (hk : k ≤ 1000000) : wr .i64 ((k : Int) + 1) = ((k + 1 : Nat) : Int) := by rw [wr_id' (by omega) (by omega)]; omega
theorem lt_yes {i n : Nat} (h : i < n) : decide ((i : Int) < (n : Int)) = true := by simp; omega
theorem lt_no {n : Nat} : decide ((n : Int) < (n : Int)) = false := by simp
theorem rep_len (v : AVal) : ∀ n, (rep [v] n).length = n
  | 0 => rfl
  | n + 1 => by simp [rep, rep_len v n]
theorem rep_get (v : AVal) : ∀ n j, j < n → (rep [v] n).getD j und = v
  | 0, j, h => by omega
  | n + 1, 0, _ => rfl
  | n + 1, j + 1, h => by
    have := rep_get v n j (by omega)
    simpa [rep] using this
/-- new memory for n elements -/
def newBlk (e : Nat) (v : AVal) (n : Nat) : ABlk := blkOf e (rep [v] n)
theorem newBlk_n {e : Nat} {v : AVal} {n : Nat} : (newBlk e v n).n = n := rep_len v n
theorem newBlk_get {e : Nat} {v : AVal} {n j : Nat} (h : j < n) : (newBlk e v n).c.get j = v := by
  unfold newBlk; rw [get_blk, rep_get v n j h]
theorem mk_ok {ro : List ABlk} {hp : Heap} {l p e es bytes : Nat} {v : AVal} {n : Nat} (hn : n ≤ 1000) (hb : bytes ≤ 1000) :
    stepM ro ⟨hp, l, p⟩ (.mk e es bytes [v] (.c (.i .i64 (n : Int))) (.c (.i .i64 (n : Int)))) = some (.sl ⟨false, hp.length, 0⟩ n (.known n), ⟨hp ++ [some (newBlk e v n)], l, p⟩) := by
  have h1 : n * bytes ≤ 1000 * 1000 := Nat.mul_le_mul hn hb
  have hc : (Nat.ble n n && Nat.ble n 1048576 && Nat.ble (n * bytes) 281474976710656) = true := by
    simp only [Bool.and_eq_true, Nat.ble_eq]; omega
  have e : ((n : Int)) = Int.ofNat n := rfl
  rw [e]
  simp only [stepM, stepK, opd, st_mk, hc, cond_true, newB, St.mm]
  rfl
theorem set_end (hp : Heap) (x y : Option ABlk) : (hp ++ [x]).set hp.length y = hp ++ [y] := by simp
theorem gcd_step (a b : Nat) : Nat.gcd a b = Nat.gcd b (a % b) := by
  rw [Nat.gcd_comm a b, Nat.gcd_rec b a, Nat.gcd_comm]
theorem tmod_nat (a b : Nat) : Int.tmod (a : Int) (b : Int) = ((a % b : Nat) : Int) := rfl
theorem gcd_loop {b0 : Int × Int → Option ((Int × Int) ⊕ Int)} (hz : ∀ a : Nat, b0 ((a : Int), ((0 : Nat) : Int)) = some (.inr (a : Int))) (hs : ∀ a b : Nat, b ≠ 0 → b0 ((a : Int), (b : Int)) = some (.inl ((b : Int), ((a % b : Nat) : Int)))) :
    ∀ (k a b : Nat), b < k → loopX b0 ((a : Int), (b : Int)) = some ((Nat.gcd a b : Nat) : Int)
  | 0, a, b, h => by omega
  | k + 1, a, b, h => by
    by_cases e : b = 0
    · subst e
      rw [Nat.gcd_zero_right]
      exact loopX_out (hz a)
    · rw [gcd_step]
      have : a % b < b := Nat.mod_lt _ (by omega)
      exact loopX_on (hs a b e) (gcd_loop hz hs k b (a % b) (by omega))
theorem range_get {n c : Nat} {f : Nat → Int} (h : c < n) : ((List.range n).map f).getD c 0 = f c := by simp [List.getD, h]
def RowsC (L n s r : Nat) (bo : ABlk) (rows : Heap) : Prop := rows.length = r ∧ bo.n = n ∧ ∀ i, i < r → bo.c.get (0 + i) = .sl ⟨false, L + 1 + i, 0⟩ n (.known n) ∧ ∃ blk : ABlk, rows[i]? = some (some blk) ∧ blk.n = n ∧ ∀ c, c < n → blk.c.get c = .i .i64 (((i * s + c) % n : Nat) : Int)
def befB (r' c' r c : Nat) : Bool := Nat.blt r' r || (Nat.beq r' r && Nat.blt c' c)
theorem beq_iff {a b : Nat} : Nat.beq a b = true ↔ a = b := ⟨Nat.eq_of_beq_eq_true, fun h => by rw [h]; exact Nat.beq_refl b⟩
theorem befB_iff {r' c' r c : Nat} : befB r' c' r c = true ↔ r' < r ∨ (r' = r ∧ c' < c) := by
  unfold befB
  rw [Bool.or_eq_true, Bool.and_eq_true, Nat.blt_eq, Nat.blt_eq, beq_iff]
def andN (a b : Nat) : Nat := Nat.xor a (Nat.land a b)
theorem bit_andN {a c : Nat} (ha : a < 256) (hc : c < 256) : bitV .andNot .u8 a c = ((andN a c : Nat) : Int) := bit_andNot ha hc
theorem andN_lt {a c : Nat} (ha : a < 256) (hc : c < 256) : andN a c < 256 := by
  have h2 : a &&& c < 2 ^ 8 := Nat.lt_of_le_of_lt Nat.and_le_left ha
  exact Nat.xor_lt_two_pow (n := 8) ha h2
theorem andN_bit {a b k : Nat} : (andN a b).testBit k = (a.testBit k && !b.testBit k) := by
  unfold andN
  show (a ^^^ (a &&& b)).testBit k = _
  rw [Nat.testBit_xor, Nat.testBit_and]
  cases a.testBit k <;> cases b.testBit k <;> rfl
def tzT : List UInt8 := [8, 0, 1, 0, 2, 0, 1, 0, 3, 0, 1, 0, 2, 0, 1, 0, 4, 0, 1, 0, 2, 0, 1, 0, 3, 0, 1, 0, 2, 0, 1, 0, 5, 0, 1, 0, 2, 0, 1, 0, 3, 0, 1, 0, 2, 0, 1, 0, 4, 0, 1, 0, 2, 0, 1, 0, 3, 0, 1, 0, 2, 0, 1, 0, 6, 0, 1, 0, 2, 0, 1, 0, 3, 0, 1, 0, 2, 0, 1, 0, 4, 0, 1, 0, 2, 0, 1, 0, 3, 0, 1, 0, 2, 0, 1, 0, 5, 0, 1, 0, 2, 0, 1, 0, 3, 0, 1, 0, 2, 0, 1, 0, 4, 0, 1, 0, 2, 0, 1, 0, 3, 0, 1, 0, 2, 0, 1, 0, 7, 0, 1, 0, 2, 0, 1, 0, 3, 0, 1, 0, 2, 0, 1, 0, 4, 0, 1, 0, 2, 0, 1, 0, 3, 0, 1, 0, 2, 0, 1, 0, 5, 0, 1, 0, 2, 0, 1, 0, 3, 0, 1, 0, 2, 0, 1, 0, 4, 0, 1, 0, 2, 0, 1, 0, 3, 0, 1, 0, 2, 0, 1, 0, 6, 0, 1, 0, 2, 0, 1, 0, 3, 0, 1, 0, 2, 0, 1, 0, 4, 0, 1, 0, 2, 0, 1, 0, 3, 0, 1, 0, 2, 0, 1, 0, 5, 0, 1, 0, 2, 0, 1, 0, 3, 0, 1, 0, 2, 0, 1, 0, 4, 0, 1, 0, 2, 0, 1, 0, 3, 0, 1, 0, 2, 0, 1, 0]
def tz (X : Nat) : Nat := (tzT.getD X 0).toNat
theorem tz_get : ∀ X, X < 256 → (lget tzT X).map UInt8.toNat = some (tz X) := by decide +kernel
theorem tz_all : ∀ X, X < 256 → X ≠ 0 → tz X < 8 ∧ X.testBit (tz X) = true ∧ ∀ j, j < 8 → ((j < tz X → X.testBit j = false) ∧ (Nat.land X (X - 1)).testBit j = (X.testBit j && !Nat.beq j (tz X))) := by decide +kernel
/-- the first of some -/
def tryc {α : Type} (f : Nat → Option α) : Nat → Nat → Option α
  | 0, _ => none
  | j + 1, c => match f c with
    | some z => some z
    | none => tryc f j (c + 1)
theorem tryc_none {α : Type} {f : Nat → Option α} : ∀ {j c : Nat}, (∀ i, c ≤ i → i < c + j → f i = none) → tryc f j c = none
  | 0, c, _ => rfl
  | j + 1, c, h => by
    unfold tryc
    rw [h c (by omega) (by omega)]
    exact tryc_none fun i h1 h2 => h i (by omega) (by omega)
theorem tryc_app {α : Type} {f : Nat → Option α} : ∀ {j c k : Nat}, (∀ i, c + j ≤ i → i < c + j + k → f i = none) → tryc f (j + k) c = tryc f j c
  | 0, c, k, h => by rw [Nat.zero_add]; exact tryc_none fun i h1 h2 => h i (by omega) (by omega)
  | j + 1, c, k, h => by
    rw [show j + 1 + k = (j + k) + 1 by omega]
    unfold tryc
    rw [tryc_app fun i h1 h2 => h i (by omega) (by omega)]
theorem tryc_congr {α : Type} {f g : Nat → Option α} : ∀ {j c : Nat}, (∀ i, c ≤ i → i < c + j → f i = g i) → tryc f j c = tryc g j c
  | 0, c, _ => rfl
  | j + 1, c, h => by
    unfold tryc
    rw [h c (by omega) (by omega), tryc_congr fun i h1 h2 => h i (by omega) (by omega)]
theorem tryc_some {α : Type} {f : Nat → Option α} {z : α} : ∀ {j c : Nat}, tryc f j c = some z → ∃ i, c ≤ i ∧ i < c + j ∧ f i = some z
  | 0, c, h => by cases h
  | j + 1, c, h => by
    unfold tryc at h
    split at h
    · rename_i z' e; cases h; exact ⟨c, by omega, by omega, e⟩
    · obtain ⟨i, h1, h2, h3⟩ := tryc_some h; exact ⟨i, by omega, by omega, h3⟩
theorem tryc_all {α : Type} {f : Nat → Option α} : ∀ {j c : Nat}, tryc f j c = none → ∀ i, c ≤ i → i < c + j → f i = none
  | 0, c, _, i, h1, h2 => by omega
  | j + 1, c, h, i, h1, h2 => by
    unfold tryc at h
    split at h
    · cases h
    · rename_i e
      by_cases ei : i = c
      · subst ei; exact e
      · exact tryc_all h i (by omega) (by omega)
theorem zero_of_bits {X : Nat} (hX : X < 256) (h : ∀ c, c < 8 → X.testBit c = false) : X = 0 := by
  refine Nat.eq_of_testBit_eq fun c => ?_
  rw [Nat.zero_testBit]
  by_cases hc : c < 8
  · exact h c hc
  · exact Nat.testBit_lt_two_pow (Nat.lt_of_lt_of_le hX (by have : 2 ^ 8 ≤ 2 ^ c := Nat.pow_le_pow_right (by omega) (by omega); omega))
theorem high_bit {X c : Nat} (hX : X < 256) (hc : 8 ≤ c) : X.testBit c = false :=
  Nat.testBit_lt_two_pow (Nat.lt_of_lt_of_le hX (by have : 2 ^ 8 ≤ 2 ^ c := Nat.pow_le_pow_right (by omega) hc; omega))
/-- a loop over the bits of a mask, the lowest first, that ends early when something is found -/
theorem loop_mask {R α : Type} {b : Int × Mm → Option ((Int × Mm) ⊕ (Mm ⊕ R))} (f : Nat → Option α) (I : Mm → Prop) (Q : α → R → Prop) (X0 : Nat) (hf : ∀ c, c < 8 → X0.testBit c = false → f c = none)
    (h0 : ∀ m, I m → b (((0 : Nat) : Int), m) = some (.inr (.inl m)))
    (hin : ∀ X m, X < 256 → X ≠ 0 → X0.testBit (tz X) = true → I m → match f (tz X) with
      | some z => ∃ r, b ((X : Int), m) = some (.inr (.inr r)) ∧ Q z r
      | none => ∃ m', b ((X : Int), m) = some (.inl (((Nat.land X (X - 1) : Nat) : Int), m')) ∧ I m') :
    ∀ (k lo X : Nat) (m : Mm), lo + k = 8 → X < 256 → (∀ c, X.testBit c = (X0.testBit c && decide (lo ≤ c))) → I m → match tryc f k lo with
      | some z => ∃ r, loopX b ((X : Int), m) = some (.inr r) ∧ Q z r
      | none => ∃ m', loopX b ((X : Int), m) = some (.inl m') ∧ I m'
  | 0, lo, X, m, hk, hX, hb, hI => by
    have : X = 0 := zero_of_bits hX fun c hc => by rw [hb c, decide_eq_false (by omega)]; simp
    subst this
    exact ⟨m, loopX_out (h0 m hI), hI⟩
  | k + 1, lo, X, m, hk, hX, hb, hI => by
    have hlo := hb lo
    rw [decide_eq_true (Nat.le_refl lo), Bool.and_true] at hlo
    unfold tryc
    cases hbit : X.testBit lo with
    | false =>
      rw [hbit] at hlo
      rw [hf lo (by omega) hlo.symm]
      refine loop_mask f I Q X0 hf h0 hin k (lo + 1) X m (by omega) hX (fun c => ?_) hI
      rw [hb c]
      by_cases e : c = lo
      · subst e; rw [← hlo]; simp
      · have : decide (lo ≤ c) = decide (lo + 1 ≤ c) := decide_eq_decide.2 (by omega)
        rw [this]
    | true =>
      have hne : X ≠ 0 := fun e => by rw [e, Nat.zero_testBit] at hbit; cases hbit
      obtain ⟨t1, t2, t3⟩ := tz_all X hX hne
      have htz : tz X = lo := by
        by_cases e : lo < tz X
        · have := (t3 lo (by omega)).1 e; rw [this] at hbit; cases hbit
        · by_cases e2 : tz X < lo
          · have := hb (tz X)
            rw [t2, decide_eq_false (by omega), Bool.and_false] at this; cases this
          · omega
      rw [hbit] at hlo
      have hstep := hin X m hX hne (by rw [htz]; exact hlo.symm) hI
      rw [htz] at hstep
      cases hfl : f lo with
      | some z =>
        rw [hfl] at hstep
        obtain ⟨r, h1, h2⟩ := hstep
        exact ⟨r, loopX_out h1, h2⟩
      | none =>
        rw [hfl] at hstep
        obtain ⟨m', h1, h2⟩ := hstep
        have hX' : Nat.land X (X - 1) < 256 := Nat.lt_of_le_of_lt Nat.and_le_left hX
        have ih := loop_mask f I Q X0 hf h0 hin k (lo + 1) (Nat.land X (X - 1)) m' (by omega) hX' (fun c => by
          by_cases hc : c < 8
          · rw [(t3 c hc).2, hb c, htz]
            by_cases e : c = lo
            · subst e
              have : Nat.beq c c = true := Nat.beq_refl c
              rw [this]; simp
            · have h4 : Nat.beq c lo = false := by cases hh : Nat.beq c lo with | false => rfl | true => exact absurd (beq_iff.1 hh) e
              have h5 : decide (lo ≤ c) = decide (lo + 1 ≤ c) := decide_eq_decide.2 (by omega)
              rw [h4, h5]; simp
          · have h6 := hb c
            rw [high_bit hX (by omega), decide_eq_true (by omega : lo ≤ c), Bool.and_true] at h6
            rw [high_bit hX' (by omega), ← h6]; rfl) h2
        cases hr : tryc f k (lo + 1) with
        | some z =>
          rw [hr] at ih
          obtain ⟨r, h3, h4⟩ := ih
          exact ⟨r, loopX_on h1 h3, h4⟩
        | none =>
          rw [hr] at ih
          obtain ⟨m2, h3, h4⟩ := ih
          exact ⟨m2, loopX_on h1 h3, h4⟩
open Classical in
noncomputable def dm (ok : List Nat → Nat → Prop) : Nat → List Nat → Option (List Nat)
  | 0, now => some now
  | k + 1, now => tryc (fun c => if ok now c then dm ok k (now ++ [c]) else none) 8 0
/-- what may come behind -/
def Ext (ok : List Nat → Nat → Prop) : List Nat → List Nat → Prop
  | _, [] => True
  | now, c :: w => ok now c ∧ Ext ok (now ++ [c]) w
theorem dm_some {ok : List Nat → Nat → Prop} : ∀ {k : Nat} {now z : List Nat}, dm ok k now = some z → ∃ w, w.length = k ∧ z = now ++ w ∧ Ext ok now w
  | 0, now, z, h => by
    cases h; exact ⟨[], rfl, by simp, trivial⟩
  | k + 1, now, z, h => by
    simp only [dm] at h
    obtain ⟨c, -, -, hc⟩ := tryc_some h
    split at hc
    · rename_i hok
      obtain ⟨w, h1, h2, h3⟩ := dm_some hc
      exact ⟨c :: w, by simp [h1], by simp [h2], hok, h3⟩
    · cases hc
theorem dm_none {ok : List Nat → Nat → Prop} (h8 : ∀ now c, ok now c → c < 8) : ∀ {k : Nat} {now : List Nat}, dm ok k now = none → ∀ w : List Nat, w.length = k → ¬ Ext ok now w
  | 0, now, h, w, _, _ => by cases h
  | k + 1, now, h, [], hw, _ => by simp at hw
  | k + 1, now, h, c :: w, hw, he => by
    simp only [dm] at h
    have hc := tryc_all h c (Nat.zero_le _) (by have := h8 _ _ he.1; omega)
    rw [if_pos he.1] at hc
    exact dm_none h8 hc w (by simpa using hw) he.2
theorem dm_congr {ok ok' : List Nat → Nat → Prop} {l : Nat} (h : ∀ now c, l ≤ now.length → (ok now c ↔ ok' now c)) : ∀ {k : Nat} {now : List Nat}, l ≤ now.length → dm ok k now = dm ok' k now
  | 0, now, _ => rfl
  | k + 1, now, hl => by
    simp only [dm]
    refine tryc_congr fun i _ _ => ?_
    have h1 := h now i hl
    by_cases e : ok now i
    · rw [if_pos e, if_pos (h1.1 e), dm_congr h (by simp; omega)]
    · rw [if_neg e, if_neg (fun e' => e (h1.2 e'))]
theorem map_getD' {σ : Nat → Nat} {now : List Nat} {q : Nat} (hq : q < now.length) : (now.map σ).getD q 0 = σ (now.getD q 0) := by simp [List.getD, hq]
def swp (a b k : Nat) : Nat := if k = a then b else if k = b then a else k
theorem swp_inj {a b : Nat} (i j : Nat) (h : swp a b i = swp a b j) : i = j := by
  unfold swp at h
  split at h <;> split at h <;> (try split at h) <;> (try split at h) <;> omega
theorem range_map_swp {a b c : Nat} (ha : c ≤ a) (hb : c ≤ b) : (List.range c).map (swp a b) = List.range c := by
  refine List.ext_getElem (by simp) fun i h1 h2 => ?_
  simp at h2
  simp [swp]
  rw [if_neg (by omega), if_neg (by omega)]
theorem pos_of {n r c p : Nat} (hc : c < n) : r * n + c = p ↔ r = p / n ∧ c = p % n := by
  have hn : 0 < n := by omega
  constructor
  · intro h
    subst h
    rw [Nat.mul_comm, Nat.mul_add_div hn, Nat.mul_add_mod, Nat.div_eq_of_lt hc, Nat.mod_eq_of_lt hc]
    exact ⟨rfl, rfl⟩
  · rintro ⟨rfl, rfl⟩
    exact Nat.div_add_mod' p n
theorem gr_set {hp : Heap} {b : Nat} {blk : Option ABlk} {c : Nat} {blk' : ABlk} (h : lget hp c = some (some blk')) (hne : c ≠ b) : lget (hp.set b blk) c = some (some blk') := by
  rw [lget_eq] at h ⊢
  rw [List.getElem?_set_ne (Ne.symm hne)]; exact h
theorem callN_pure {call : Caller} {h : Heap} {f : Nat} {vs : List AVal} {v : AVal} (e : call f vs h = some (v, h, h.length, h.length)) (hb : bels h.length vs = true) (hv : v.bel h.length = true) : callN call h f vs = some v := by
  have hble : Nat.ble h.length h.length = true := by rw [Nat.ble_eq]; exact Nat.le_refl _
  simp only [callN, hb, cond_true, e, hv, hble, Bool.and_self]
theorem fin_take {h' : Heap} {lw L : Nat} {v : AVal} (hv : v.bel L = true) : finM L v ⟨h', lw, L⟩ = some (v, h'.take L, lw, L) := by
  have hble : Nat.ble L L = true := by rw [Nat.ble_eq]; exact Nat.le_refl _
  simp [finM, gc, hv, hble]
theorem bel_p {L b off : Nat} (h : b < L) : (AVal.p (some ⟨false, b, off⟩)).bel L = true := by
  simp only [AVal.bel, Bool.false_or]
  rw [Nat.blt_eq]; exact h
/-- three numbers in new memory -/
theorem box3 {ro : List ABlk} {hp : Heap} {l p : Nat} (a b c : Int) : ∃ B : ABlk, B.n = 3 ∧ stepM ro ⟨hp, l, p⟩ (.al 62 [(AVal.i IntKind.i64 0), (AVal.i IntKind.i64 0), (AVal.i IntKind.i64 0)]) = some (.p (some ⟨false, hp.length, 0⟩), ⟨hp ++ [some (blkOf 62 [(AVal.i IntKind.i64 0), (AVal.i IntKind.i64 0), (AVal.i IntKind.i64 0)])], l, p⟩) ∧
    stepM ro ⟨hp ++ [some (blkOf 62 [(AVal.i IntKind.i64 0), (AVal.i IntKind.i64 0), (AVal.i IntKind.i64 0)])], l, p⟩ (.st 3 (.c (.p (some ⟨false, hp.length, 0⟩))) (.c (.agg [.i .i64 a, .i .i64 b, .i .i64 c]))) = some (und, ⟨hp ++ [some B], min l hp.length, p⟩) ∧
    B.c.get (0 + 2 * 1) = .i .i64 c ∧ ∀ (h' : Heap) (l' p' bx : Nat), lget h' bx = some (some B) → ldM ro ⟨h', l', p'⟩ false 3 (.p (some ⟨false, bx, 0⟩)) = some (.agg [.i .i64 a, .i .i64 b, .i .i64 c]) := by
  refine ⟨{ blkOf 62 [(AVal.i IntKind.i64 0), (AVal.i IntKind.i64 0), (AVal.i IntKind.i64 0)] with c := (blkOf 62 [(AVal.i IntKind.i64 0), (AVal.i IntKind.i64 0), (AVal.i IntKind.i64 0)]).c.splice 0 [.i .i64 a, .i .i64 b, .i .i64 c] }, rfl, rfl, ?_, rfl, fun h' l' p' bx hb => ?_⟩
  · have hl : lget (hp ++ [some (blkOf 62 [(AVal.i IntKind.i64 0), (AVal.i IntKind.i64 0), (AVal.i IntKind.i64 0)])]) hp.length = some (some (blkOf 62 [(AVal.i IntKind.i64 0), (AVal.i IntKind.i64 0), (AVal.i IntKind.i64 0)])) := lget_last _ _
    have hc : (Nat.ble (0 + 3) (blkOf 62 [(AVal.i IntKind.i64 0), (AVal.i IntKind.i64 0), (AVal.i IntKind.i64 0)]).n && ones [AVal.i .i64 a, .i .i64 b, .i .i64 c]) = true := rfl
    simp only [stepM, stepK, opd, AVal.cells, st_st, List.length_cons, List.length_nil, Nat.zero_add, wrH, cond_false, hl]
    rw [show (Nat.ble 3 (blkOf 62 [(AVal.i IntKind.i64 0), (AVal.i IntKind.i64 0), (AVal.i IntKind.i64 0)]).n && ones [AVal.i .i64 a, .i .i64 b, .i .i64 c]) = true from rfl]
    simp only [cond_true, lset_eq, set_end, St.mm]
    rfl
  · simp only [ldM, rd, rdB_heap hb]
    rfl
/-- what the search keeps -/
structure SM (x : List (List Int)) (L : Nat) (h0 : Heap) (bg bm : Nat) (hp : Heap) : Prop where
  len : L ≤ hp.length
  keep : ∀ i, i < L → i ≠ bg → i ≠ bm → hp[i]? = h0[i]?
theorem tdiv_nat (a b : Nat) : Int.tdiv (a : Int) (b : Int) = ((a / b : Nat) : Int) := rfl
theorem fill3 (a b c : Int) : (fillA [(AVal.i IntKind.i64 0), (AVal.i IntKind.i64 0), (AVal.i IntKind.i64 0)] [((0, 1), (.i .i64 a)), ((1, 1), (.i .i64 b)), ((2, 1), (.i .i64 c))]).map AVal.agg = some (.agg [.i .i64 a, .i .i64 b, .i .i64 c]) := rfl
theorem fill4 (a b c d : Int) : (fillA [(AVal.i IntKind.i64 0), (AVal.i IntKind.i64 0), (AVal.i IntKind.i64 0), (AVal.i IntKind.i64 0)] [((0, 1), (.i .i64 a)), ((1, 1), (.i .i64 b)), ((2, 1), (.i .i64 c)), ((3, 1), (.i .i64 d))]).map AVal.agg = some (.agg [.i .i64 a, .i .i64 b, .i .i64 c, .i .i64 d]) := rfl
theorem shl_any {c : Nat} (hc : c ≤ 7) : shlV .u8 1 ((c : Nat) : Int) = ((2 ^ c : Nat) : Int) := shl_one hc
theorem nneg (c : Nat) : (!decide ((c : Int) < Int.ofNat 0)) = true := by simp
theorem wr_mul {a b : Nat} (h : a * b ≤ 1000000) : wr .i64 ((a : Int) * (b : Int)) = ((a * b : Nat) : Int) := by
  rw [show (a : Int) * (b : Int) = ((a * b : Nat) : Int) by simp, wr_id' (by omega) (by omega)]
theorem wr_add {a b : Nat} (h : a + b ≤ 1000000) : wr .i64 ((a : Int) + (b : Int)) = ((a + b : Nat) : Int) := by
  rw [show (a : Int) + (b : Int) = ((a + b : Nat) : Int) by simp, wr_id' (by omega) (by omega)]
theorem pos_inj {n a b p q : Nat} (hb : b < n) (hq : q < n) : a * n + b = p * n + q ↔ a = p ∧ b = q := by
  have h1 := pos_of (r := p) (p := p * n + q) hq
  have h2 := pos_of (r := a) (p := p * n + q) hb
  obtain ⟨e1, e2⟩ := h1.1 rfl
  rw [h2, ← e1, ← e2]
theorem pos_lt {n a b : Nat} (ha : a < n) (hb : b < n) : a * n + b < n * n := by
  have := Nat.mul_le_mul_right n (by omega : a + 1 ≤ n)
  rw [Nat.add_mul, Nat.one_mul] at this
  omega
/-- a vector in a block -/
def Vec (hp : Heap) (e b k : Nat) (get : Nat → AVal) : Prop := ∃ blk : ABlk, lget hp b = some (some blk) ∧ blk.e = e ∧ k ≤ blk.n ∧ ∀ r, r < k → blk.c.get r = get r
def VecV (hp : Heap) (L e : Nat) (v : AVal) (k : Nat) (get : Nat → AVal) : Prop := (v = .nsl ∧ k = 0) ∨ ∃ b, v = .sl ⟨false, b, 0⟩ k .grow ∧ 0 < k ∧ L ≤ b ∧ Vec hp e b k get
theorem Vec.lt {hp : Heap} {e b k : Nat} {get : Nat → AVal} (h : Vec hp e b k get) : b < hp.length := by
  obtain ⟨blk, h1, -⟩ := h; exact lget_lt h1
theorem Vec.keep {hp hp' : Heap} {e b k : Nat} {get : Nat → AVal} (h : Vec hp e b k get) (hk : hp'[b]? = hp[b]?) : Vec hp' e b k get := by
  obtain ⟨blk, h1, h2⟩ := h
  exact ⟨blk, by rw [lget_of hk]; exact h1, h2⟩
theorem Vec.ne {hp : Heap} {e e' b b' k k' : Nat} {get get' : Nat → AVal} (h : Vec hp e b k get) (h' : Vec hp e' b' k' get') (hne : e ≠ e') : b ≠ b' := by
  rintro rfl
  obtain ⟨blk, h1, h2, -⟩ := h
  obtain ⟨blk', h1', h2', -⟩ := h'
  rw [h1] at h1'
  cases h1'
  exact hne (h2.symm.trans h2')
theorem Vec.congr {hp : Heap} {e b k : Nat} {get get' : Nat → AVal} (h : Vec hp e b k get) (hc : ∀ r, r < k → get r = get' r) : Vec hp e b k get' := by
  obtain ⟨blk, h1, h2, h3, h4⟩ := h
  exact ⟨blk, h1, h2, h3, fun r hr => by rw [h4 r hr, hc r hr]⟩
theorem Vec.set {hp : Heap} {e b k : Nat} {get : Nat → AVal} {ro : List ABlk} {l p : Nat} (h : Vec hp e b k get) {r : Nat} (hr : r < k) {v : AVal} (hv : v.one = true) (hc : v.cells = [v]) (hn : nonp [v] = true) :
    ∃ y, stepM ro ⟨hp, l, p⟩ (.st 1 (.c (.p (some ⟨false, b, 0 + r⟩))) (.c v)) = some (und, ⟨hp.set b y, min l b, p⟩) ∧ Vec (hp.set b y) e b k (fun r' => if r' = r then v else get r') := by
  obtain ⟨blk, h1, h2, h3, h4⟩ := h
  refine ⟨some { blk with c := blk.c.set (0 + r) v }, st_heap h1 (by omega) hv hc hn, { blk with c := blk.c.set (0 + r) v }, lget_set h1 _, h2, h3, fun r' hr' => ?_⟩
  show (blk.c.set (0 + r) v).get r' = if r' = r then v else get r'
  rw [get_set]
  by_cases e : r' = r
  · rw [if_pos (by omega), if_pos e]
  · rw [if_neg (by omega), if_neg e]; exact h4 r' hr'
/-- one element behind a vector -/
theorem push_ok {ro : List ABlk} {hp : Heap} {L e bytes k : Nat} {z v w : AVal} {get : Nat → AVal} (h : VecV hp L e v k get) (hL : L ≤ hp.length) (hk : k ≤ 1000) (hb : bytes ≤ 1000) (hw : w.cells = [w]) (ho : w.one = true) :
    ∃ v2 hp2 v3 hp3 b3, stepM ro ⟨hp, L, L⟩ (.bsl e 1 [z] 1 [((0, 1), .c w)]) = some (v2, ⟨hp2, L, L⟩) ∧ stepM ro ⟨hp2, L, L⟩ (.app e 1 bytes [z] (.c v) (.c v2)) = some (v3, ⟨hp3, L, L⟩) ∧
      v3 = .sl ⟨false, b3, 0⟩ (k + 1) .grow ∧ hp.length ≤ b3 ∧ Vec hp3 e b3 (k + 1) (fun r => if r < k then get r else w) ∧ hp.length ≤ hp3.length ∧
      ∀ i, i < hp.length → (∀ len cap, v ≠ .sl ⟨false, i, 0⟩ len cap) → hp3[i]? = hp[i]? := by
  have s1 : stepM ro ⟨hp, L, L⟩ (.bsl e 1 [z] 1 [((0, 1), .c w)]) = some (.sl ⟨false, hp.length, 0⟩ 1 (.known 1), ⟨hp ++ [some (blkOf e [w])], L, L⟩) := by
    simp [stepM, stepK, st_bsl, rep, fillA, opd, hw, splice, newB, St.mm]
  have src : app_src ro (hp ++ [some (blkOf e [w])]) 1 (.sl ⟨false, hp.length, 0⟩ 1 (.known 1)) = some ([w], 1) := by
    have hb : rdB ro (hp ++ [some (blkOf e [w])]) ⟨false, hp.length, 0⟩ = some (blkOf e [w]) := by simp [rdB, lget_eq]
    have hg : (blkOf e [w]).c.row 0 1 = [w] := by simp only [Tr.row, get_blk]; rfl
    have hble : Nat.ble (0 + 1 * 1) (blkOf e [w]).n = true := rfl
    simp only [app_src, hb, hble, cond_true]
    rw [show 1 * 1 = 1 from rfl, hg]
  rcases h with ⟨rfl, rfl⟩ | ⟨b, rfl, hpos, hLb, blk, hbk, hbe, hbn, hrows⟩
  · refine ⟨_, _, .sl ⟨false, hp.length + 1, 0⟩ 1 .grow, hp ++ [some (blkOf e [w])] ++ [some (blkOf e [w])], hp.length + 1, s1, ?_, rfl, by omega, ⟨blkOf e [w], ?_, rfl, by simp [blkOf], fun r hr => ?_⟩, by simp, fun i hi _ => ?_⟩
    · have hb1 : Nat.beq 1 0 = false := rfl
      simp only [stepM, stepK, opd, st_app, src, hb1, cond_false, fits_small (by omega : 1 ≤ 1000000) hb, cond_true, newB, St.mm, List.length_append, List.length_cons, List.length_nil, Nat.zero_add]
    · have := lget_last (hp ++ [some (blkOf e [w])]) (some (blkOf e [w]))
      rwa [List.length_append, List.length_singleton] at this
    · have : r = 0 := by omega
      subst this
      rw [get_blk]; rfl
    · rw [List.append_assoc, List.getElem?_append_left hi]
  · obtain ⟨hp2, e2⟩ : ∃ hp2, hp2 = hp ++ [some (blkOf e [w])] := ⟨_, rfl⟩
    rw [← e2] at src s1
    have hlt : b < hp.length := lget_lt hbk
    have hb2 : lget hp2 b = some (some blk) := by rw [e2]; exact lget_ext hbk _
    have hlen2 : hp2.length = hp.length + 1 := by rw [e2]; simp
    refine ⟨_, _, .sl ⟨false, hp2.length, 0⟩ (k + 1) .grow, lset none hp2 b ++ [some (blkOf e (blk.c.row 0 k ++ [w]))], hp2.length, s1, ?_, rfl, by omega, ⟨blkOf e (blk.c.row 0 k ++ [w]), ?_, rfl, ?_, fun r hr => ?_⟩, ?_, fun i hi hne => ?_⟩
    · have h1 : (Nat.beq blk.e e && Nat.ble k blk.n && fits (k + 1) bytes && ones [w]) = true := by
        rw [hbe, fits_small (by omega : k + 1 ≤ 1000000) hb]
        simp [ones, ho, Nat.ble_eq]; omega
      have h2 : (false || !Nat.beq 0 0 || Nat.beq 1 0) = false := rfl
      have h3 : Nat.blt 0 blk.n = true := by rw [Nat.blt_eq]; omega
      simp only [stepM, stepK, opd, st_app, src, app_grow, h2, cond_false, hb2, h1, h3, Bool.and_self, cond_true, St.mm, Nat.mul_one, Nat.min_eq_left hLb]
    · rw [lget_eq, lset_eq, List.getElem?_append_right (by simp)]
      simp
    · simp [blkOf, length_row]
    · show (blkOf e (blk.c.row 0 k ++ [w])).c.get r = if r < k then get r else w
      rw [get_blk]
      by_cases hrk : r < k
      · rw [if_pos hrk, List.getD_eq_getElem?_getD, List.getElem?_append_left (by rw [length_row]; exact hrk), getElem?_row, if_pos hrk]
        simp [hrows r hrk]
      · rw [if_neg hrk, List.getD_eq_getElem?_getD, List.getElem?_append_right (by rw [length_row]; omega), length_row, show r - k = 0 by omega]
        rfl
    · simp [lset_eq]; omega
    · rw [lset_eq, List.getElem?_append_left (by simp; omega), List.getElem?_set_ne (fun e => hne k .grow (by rw [e])), e2, List.getElem?_append_left hi]
/-- a loop that tries one after another and ends early when something is found -/
theorem loop_try {R α : Type} {b : Int × Mm → Option ((Int × Mm) ⊕ (Mm ⊕ R))} (n : Nat) (f : Nat → Option α) (I : Mm → Prop) (Q : α → R → Prop)
    (hin : ∀ c m, c < n → I m → match f c with
      | some z => ∃ r, b ((c : Int), m) = some (.inr (.inr r)) ∧ Q z r
      | none => ∃ m', b ((c : Int), m) = some (.inl (((c + 1 : Nat) : Int), m')) ∧ I m')
    (hout : ∀ m, I m → b ((n : Int), m) = some (.inr (.inl m))) : ∀ (k c : Nat) (m : Mm), c + k = n → I m → match tryc f k c with
      | some z => ∃ r, loopX b ((c : Int), m) = some (.inr r) ∧ Q z r
      | none => ∃ m', loopX b ((c : Int), m) = some (.inl m') ∧ I m'
  | 0, c, m, hk, hI => by
    obtain rfl : c = n := by omega
    exact ⟨m, loopX_out (hout m hI), hI⟩
  | k + 1, c, m, hk, hI => by
    have hstep := hin c m (by omega) hI
    unfold tryc
    cases hf : f c with
    | some z =>
      rw [hf] at hstep
      obtain ⟨r, h1, h2⟩ := hstep
      exact ⟨r, loopX_out h1, h2⟩
    | none =>
      rw [hf] at hstep
      obtain ⟨m', h1, h2⟩ := hstep
      have ih := loop_try n f I Q hin hout k (c + 1) m' (by omega) h2
      show match tryc f k (c + 1) with
        | some z => ∃ r, loopX b ((c : Int), m) = some (.inr r) ∧ Q z r
        | none => ∃ m', loopX b ((c : Int), m) = some (.inl m') ∧ I m'
      cases hr : tryc f k (c + 1) with
      | some z =>
        rw [hr] at ih
        obtain ⟨r, h3, h4⟩ := ih
        exact ⟨r, loopX_on h1 h3, h4⟩
      | none =>
        rw [hr] at ih
        obtain ⟨m2, h3, h4⟩ := ih
        exact ⟨m2, loopX_on h1 h3, h4⟩
theorem loop_all3 {b : AVal × Int × Mm → Option ((AVal × Int × Mm) ⊕ (AVal × Mm))} (n : Nat) (I : Nat → AVal → Mm → Prop)
    (hin : ∀ i v m, i < n → I i v m → ∃ v' m', b (v, (i : Int), m) = some (.inl (v', ((i + 1 : Nat) : Int), m')) ∧ I (i + 1) v' m')
    (hout : ∀ v m, I n v m → b (v, (n : Int), m) = some (.inr (v, m))) :
    ∀ (k i : Nat) (v : AVal) (m : Mm), i + k = n → I i v m → ∃ v' m', loopX b (v, (i : Int), m) = some (v', m') ∧ I n v' m'
  | 0, i, v, m, hk, hi => by
    obtain rfl : i = n := by omega
    exact ⟨_, _, loopX_out (hout v m hi), hi⟩
  | k + 1, i, v, m, hk, hi => by
    obtain ⟨v1, m1, h1, h2⟩ := hin i v m (by omega) hi
    obtain ⟨v2, m2, h3, h4⟩ := loop_all3 n I hin hout k (i + 1) v1 m1 (by omega) h2
    exact ⟨v2, m2, loopX_on h1 h3, h4⟩
theorem VecV.low {hp : Heap} {L L' e : Nat} {v : AVal} {k : Nat} {get : Nat → AVal} (h : VecV hp L e v k get) (hl : L' ≤ L) : VecV hp L' e v k get := by
  rcases h with h | ⟨b, h1, h2, h3, h4⟩
  · exact .inl h
  · exact .inr ⟨b, h1, h2, by omega, h4⟩
theorem ext_get {ok : List Nat → Nat → Prop} : ∀ {w now : List Nat}, Ext ok now w → ∀ j, j < w.length → ok (now ++ w.take j) (w.getD j 0)
  | [], now, _, j, hj => by simp at hj
  | c :: w, now, h, 0, _ => by simpa using h.1
  | c :: w, now, h, j + 1, hj => by
    have := ext_get h.2 j (by simpa using hj)
    simpa using this
theorem ext_of {ok : List Nat → Nat → Prop} : ∀ {w now : List Nat}, (∀ j, j < w.length → ok (now ++ w.take j) (w.getD j 0)) → Ext ok now w
  | [], now, _ => trivial
  | c :: w, now, h => by
    refine ⟨by simpa using h 0 (by simp), ext_of fun j hj => ?_⟩
    have := h (j + 1) (by simpa using hj)
    simpa using this
theorem take_getD {z : List Nat} {q p : Nat} (h : q < p) : (z.take p).getD q 0 = z.getD q 0 := by
  rw [List.getD_eq_getElem?_getD, List.getD_eq_getElem?_getD, List.getElem?_take, if_pos h]
theorem take_len {z : List Nat} {p : Nat} (h : p ≤ z.length) : (z.take p).length = p := by rw [List.length_take]; omega
theorem divmod {n r c : Nat} (hc : c < n) : (r * n + c) / n = r ∧ (r * n + c) % n = c := by
  obtain ⟨h1, h2⟩ := (pos_of (r := r) (p := r * n + c) hc).1 rfl
  exact ⟨h1.symm, h2.symm⟩
theorem pos_mono {n r c r' c' : Nat} (hc' : c' < n) (h : r' < r ∨ (r' = r ∧ c' < c)) : r' * n + c' < r * n + c := by
  rcases h with h | ⟨rfl, h⟩
  · have := Nat.mul_le_mul_right n (by omega : r' + 1 ≤ r)
    rw [Nat.add_mul, Nat.one_mul] at this
    omega
  · omega
/-- a list without repeats within another one -/
theorem nodup_len {α : Type} [DecidableEq α] : ∀ {l l' : List α}, l.Nodup → (∀ a ∈ l, a ∈ l') → l.length ≤ l'.length
  | [], l', _, _ => Nat.zero_le _
  | a :: l, l', hd, hs => by
    have h1 := List.nodup_cons.1 hd
    have ha := hs a (by simp)
    have ih := nodup_len (l := l) (l' := l'.erase a) h1.2 fun b hb => by
      have hne : b ≠ a := fun e => h1.1 (e ▸ hb)
      exact (List.mem_erase_of_ne hne).2 (hs b (by simp [hb]))
    rw [List.length_erase_of_mem ha] at ih
    have : 0 < l'.length := List.length_pos_of_mem ha
    simp only [List.length_cons]
    omega
/-- what is one to one from n to n is onto -/
theorem onto_of {n : Nat} {f : Nat → Nat} (hlt : ∀ i, i < n → f i < n) (hi : ∀ i j, i < n → j < n → f i = f j → i = j) {k : Nat} (hk : k < n) : ∃ i, i < n ∧ f i = k := by
  refine Classical.byContradiction fun hno => ?_
  have hnd : ((List.range n).map f).Nodup := by
    rw [List.Nodup, List.pairwise_map]
    refine List.Pairwise.imp_of_mem ?_ List.nodup_range
    intro a b ha hb hab he
    exact hab (hi a b (List.mem_range.1 ha) (List.mem_range.1 hb) he)
  have h1 := nodup_len (l' := (List.range n).erase k) hnd fun b hb => by
    obtain ⟨i, hi2, rfl⟩ := List.mem_map.1 hb
    have hin := List.mem_range.1 hi2
    exact (List.mem_erase_of_ne fun e => hno ⟨i, hin, e⟩).2 (List.mem_range.2 (hlt i hin))
  rw [List.length_erase_of_mem (List.mem_range.2 hk)] at h1
  simp at h1
  omega
theorem Vec.ld {ro : List ABlk} {hp : Heap} {e b k : Nat} {get : Nat → AVal} (h : Vec hp e b k get) {i : Nat} (hi : i < k) {l p : Nat} : ldM ro ⟨hp, l, p⟩ true 1 (.p (some ⟨false, b, 0 + i⟩)) = some (get i) := by
  obtain ⟨blk, h1, h2, h3, h4⟩ := h
  rw [ld_heap rfl h1 (by omega), Nat.zero_add, h4 i hi]
theorem Vec.lda {ro : List ABlk} {hp : Heap} {e b k : Nat} {get : Nat → AVal} (h : Vec hp e b k get) {i : Nat} (hi : i < k) : ldA ro hp true 1 (.p (some ⟨false, b, 0 + i⟩)) = some (get i) := by
  obtain ⟨blk, h1, h2, h3, h4⟩ := h
  rw [lda_heap h1 (by omega), Nat.zero_add, h4 i hi]
theorem Vec.new (hp : Heap) (e k : Nat) (v : AVal) : Vec (hp ++ [some (newBlk e v k)]) e hp.length k (fun _ => v) :=
  ⟨newBlk e v k, lget_last _ _, rfl, by rw [newBlk_n]; omega, fun r hr => newBlk_get hr⟩
structure OwnB (hp : Heap) (b n : Nat) (rb : Nat → Nat) (val : Nat → Nat → Bool) : Prop where
  top : Vec hp 48 b n (fun r => .sl ⟨false, rb r, 0⟩ n (.known n))
  rows : ∀ r, r < n → Vec hp 4 (rb r) n (fun c => .b (val r c))
  apart : ∀ r r', r < n → r' < n → rb r = rb r' → r = r'
theorem OwnB.keep {hp hp' : Heap} {b n : Nat} {rb : Nat → Nat} {val : Nat → Nat → Bool} (h : OwnB hp b n rb val) (hk : hp'[b]? = hp[b]?) (hk2 : ∀ r, r < n → hp'[rb r]? = hp[rb r]?) : OwnB hp' b n rb val :=
  ⟨h.top.keep hk, fun r hr => (h.rows r hr).keep (hk2 r hr), h.apart⟩
theorem OwnB.congr {hp : Heap} {b n : Nat} {rb : Nat → Nat} {val val' : Nat → Nat → Bool} (h : OwnB hp b n rb val) (hc : ∀ r c, r < n → c < n → val r c = val' r c) : OwnB hp b n rb val' :=
  ⟨h.top, fun r hr => (h.rows r hr).congr fun c hc' => by rw [hc r c hr hc'], h.apart⟩
theorem Vec.wr {ro : List ABlk} {hp : Heap} {e b k : Nat} {get : Nat → AVal} {l p : Nat} (h : Vec hp e b k get) {r : Nat} (hr : r < k) {v : AVal} (hv : v.one = true) (hn : nonp [v] = true) :
    ∃ y, writesM ro [] [(⟨false, b, 0 + r⟩, [v])] ⟨hp, l, p⟩ = some ⟨hp.set b y, min l b, p⟩ ∧ Vec (hp.set b y) e b k (fun r' => if r' = r then v else get r') := by
  obtain ⟨blk, h1, h2, h3, h4⟩ := h
  refine ⟨some { blk with c := blk.c.set (0 + r) v }, wr_heap h1 (by omega) hv hn, { blk with c := blk.c.set (0 + r) v }, lget_set h1 _, h2, h3, fun r' hr' => ?_⟩
  show (blk.c.set (0 + r) v).get r' = if r' = r then v else get r'
  rw [get_set]
  by_cases e : r' = r
  · rw [if_pos (by omega), if_pos e]
  · rw [if_neg (by omega), if_neg e]; exact h4 r' hr'
theorem OwnB.set {ro : List ABlk} {hp : Heap} {b n : Nat} {rb : Nat → Nat} {val : Nat → Nat → Bool} (h : OwnB hp b n rb val) {r c : Nat} (hr : r < n) (hc : c < n) (x : Bool) {l p : Nat} :
    ∃ y, writesM ro [] [(⟨false, rb r, 0 + c⟩, [.b x])] ⟨hp, l, p⟩ = some ⟨hp.set (rb r) y, min l (rb r), p⟩ ∧ OwnB (hp.set (rb r) y) b n rb (fun r' c' => if r' = r ∧ c' = c then x else val r' c') := by
  obtain ⟨y, h1, h2⟩ := (h.rows r hr).wr (ro := ro) (l := l) (p := p) hc (v := .b x) rfl rfl
  refine ⟨y, h1, h.top.keep ?_, fun r' hr' => ?_, h.apart⟩
  · rw [List.getElem?_set_ne ((h.rows r hr).ne h.top (by decide))]
  · by_cases e : r' = r
    · subst e
      exact h2.congr fun c' _ => by
        by_cases e2 : c' = c
        · rw [if_pos e2, if_pos ⟨rfl, e2⟩]
        · rw [if_neg e2, if_neg fun h => e2 h.2]
    · have := (h.rows r' hr').keep (hp' := hp.set (rb r) y) (by rw [List.getElem?_set_ne fun h2 => e (h.apart r r' hr hr' h2).symm])
      exact this.congr fun c' _ => by rw [if_neg fun h => e h.1]
def allF (P : Nat → Bool) : Nat → Nat → Bool
  | 0, _ => true
  | k + 1, i => P i && allF P k (i + 1)
theorem allF_iff {P : Nat → Bool} : ∀ {k i : Nat}, allF P k i = true ↔ ∀ j, i ≤ j → j < i + k → P j = true
  | 0, i => ⟨fun _ j h1 h2 => by omega, fun _ => rfl⟩
  | k + 1, i => by
    rw [allF, Bool.and_eq_true, allF_iff]
    constructor
    · rintro ⟨h1, h2⟩ j h3 h4
      by_cases e : j = i
      · subst e; exact h1
      · exact h2 j (by omega) (by omega)
    · intro h
      exact ⟨h i (by omega) (by omega), fun j h3 h4 => h j (by omega) (by omega)⟩
theorem loop_and {b : Bool × Int → Option ((Bool × Int) ⊕ Bool)} (n : Nat) (P : Nat → Bool) (hin : ∀ i c, i < n → b (c, (i : Int)) = some (.inl (c && P i, ((i + 1 : Nat) : Int)))) (hout : ∀ c, b (c, (n : Int)) = some (.inr c)) :
    ∀ (k i : Nat) (c : Bool), i + k = n → loopX b (c, (i : Int)) = some (c && allF P k i)
  | 0, i, c, h => by
    obtain rfl : i = n := by omega
    rw [allF, Bool.and_true]
    exact loopX_out (hout c)
  | k + 1, i, c, h => by
    rw [allF, ← Bool.and_assoc]
    exact loopX_on (hin i c (by omega)) (loop_and n P hin hout k (i + 1) (c && P i) (by omega))
/-- a place has been used by one of the first transversals -/
def usedP (n : Nat) (now : List Nat) (m r c : Nat) : Prop := ∃ q, q < m ∧ q % n = r ∧ now.getD q 0 = c
/-- the cut of what has been chosen -/
def CutOk (v3 : AVal) (b r : Nat) : Prop := evP .e (.slS 1 (.c v3) none (some (.c (.i .i64 (r : Int)))) (some (.c (.i .i64 (r : Int))))) = some (.sl ⟨false, b, 0 + 0 * 1⟩ (r - 0) (.known (r - 0)))
theorem sb_all (r : Nat) : sbound (some (.i .i64 (r : Int))) r r = some r := by
  have h2 : Nat.ble r r = true := by rw [Nat.ble_eq]; exact Nat.le_refl _
  show cond (Nat.ble r r) (some r) none = _
  rw [h2]; rfl
theorem cut_any {b r : Nat} {cap : Cap} (h : capLe cap r r = true) : CutOk (.sl ⟨false, b, 0⟩ r cap) b r := by
  unfold CutOk
  show (cond (capLe cap r r) (match sbound (some (.i .i64 (r : Int))) r r with
    | some h => match sbound none 0 h with
      | some l => cond (Nat.blt l r || Nat.beq l 0) (some (AVal.sl ⟨false, b, 0 + l * 1⟩ (h - l) (.known (r - l)))) none
      | none => none
    | none => none) none) = _
  rw [h, sb_all]
  show cond (Nat.blt 0 r || Nat.beq 0 0) _ none = _
  have : (Nat.blt 0 r || Nat.beq 0 0) = true := by
    have : Nat.beq 0 0 = true := rfl
    rw [this, Bool.or_true]
  rw [this]
  rfl
theorem cut_known {b r : Nat} (h1 : r ≤ 1000) : CutOk (.sl ⟨false, b, 0⟩ r (.known r)) b r := cut_any (by show Nat.ble r r = true; rw [Nat.ble_eq]; exact Nat.le_refl _)
theorem cut_grow {b r : Nat} (h1 : r ≤ 1000) : CutOk (.sl ⟨false, b, 0⟩ r .grow) b r := cut_any (by show Nat.ble r r = true; rw [Nat.ble_eq]; exact Nat.le_refl _)
theorem cut_push {ro : List ABlk} {hp : Heap} {l p b r : Nat} {get : Nat → AVal} (h : Vec hp 3 b r get) (hr : r ≤ 1000) (c : Int) :
    ∃ hp1 hp2, stepM ro ⟨hp, l, p⟩ (.bsl 3 1 [(AVal.i IntKind.i64 0)] 1 [((0, 1), .c (.i .i64 c))]) = some (.sl ⟨false, hp.length, 0⟩ 1 (.known 1), ⟨hp1, l, p⟩) ∧
      stepM ro ⟨hp1, l, p⟩ (.app 3 1 8 [(AVal.i IntKind.i64 0)] (.c (.sl ⟨false, b, 0 + 0 * 1⟩ (r - 0) (.known (r - 0)))) (.c (.sl ⟨false, hp.length, 0⟩ 1 (.known 1)))) = some (.sl ⟨false, hp.length + 1, 0⟩ (r + 1) .grow, ⟨hp2, l, p⟩) ∧
      Vec hp2 3 (hp.length + 1) (r + 1) (fun i => if i < r then get i else .i .i64 c) ∧ hp2.length = hp.length + 2 ∧ ∀ i, i < hp.length → hp2[i]? = hp[i]? := by
  obtain ⟨blk, h1, h2, h3, h4⟩ := h
  have src : app_src ro (hp ++ [some (blkOf 3 [.i .i64 c])]) 1 (.sl ⟨false, hp.length, 0⟩ 1 (.known 1)) = some ([.i .i64 c], 1) := by
    have hb : rdB ro (hp ++ [some (blkOf 3 [.i .i64 c])]) ⟨false, hp.length, 0⟩ = some (blkOf 3 [.i .i64 c]) := by simp [rdB, lget_eq]
    have hg : (blkOf 3 [AVal.i .i64 c]).c.row 0 1 = [.i .i64 c] := by simp only [Tr.row, get_blk]; rfl
    have hble : Nat.ble (0 + 1 * 1) (blkOf 3 [AVal.i .i64 c]).n = true := rfl
    simp only [app_src, hb, hble, cond_true]
    rw [show 1 * 1 = 1 from rfl, hg]
  refine ⟨hp ++ [some (blkOf 3 [.i .i64 c])], hp ++ [some (blkOf 3 [.i .i64 c])] ++ [some (blkOf 3 (blk.c.row (0 + 0 * 1) ((r - 0) * 1) ++ [.i .i64 c]))], ?_, ?_, ⟨blkOf 3 (blk.c.row (0 + 0 * 1) ((r - 0) * 1) ++ [.i .i64 c]), ?_, rfl, ?_, fun i hi => ?_⟩, by simp, fun i hi => ?_⟩
  · simp [stepM, stepK, st_bsl, rep, fillA, opd, AVal.cells, splice, newB, St.mm]
  · have e1 : Nat.ble (r - 0 + 1) (r - 0) = false := by
      cases hh : Nat.ble (r - 0 + 1) (r - 0)
      · rfl
      · rw [Nat.ble_eq] at hh; omega
    have hb : rdB ro (hp ++ [some (blkOf 3 [.i .i64 c])]) ⟨false, b, 0 + 0 * 1⟩ = some blk := rdB_heap (lget_ext h1 _) _
    have e2 : (Nat.ble (0 + 0 * 1 + (r - 0) * 1) blk.n && fits (r - 0 + 1) 8) = true := by
      rw [fits_small (by omega : r - 0 + 1 ≤ 1000000) (by omega : 8 ≤ 1000)]
      simp [Nat.ble_eq]; omega
    simp only [stepM, stepK, opd, st_app, src, app_known, e1, cond_false, hb, e2, cond_true, newB, St.mm, List.length_append, List.length_singleton]
    rfl
  · have := lget_last (hp ++ [some (blkOf 3 [.i .i64 c])]) (some (blkOf 3 (blk.c.row (0 + 0 * 1) ((r - 0) * 1) ++ [.i .i64 c])))
    rwa [List.length_append, List.length_singleton] at this
  · simp [blkOf, length_row]
  · show (blkOf 3 (blk.c.row (0 + 0 * 1) ((r - 0) * 1) ++ [.i .i64 c])).c.get i = if i < r then get i else .i .i64 c
    rw [get_blk]
    by_cases hir : i < r
    · rw [if_pos hir, List.getD_eq_getElem?_getD, List.getElem?_append_left (by rw [length_row]; omega), getElem?_row, if_pos (by omega)]
      simp [h4 i hir]
    · rw [if_neg hir, List.getD_eq_getElem?_getD, List.getElem?_append_right (by rw [length_row]; omega), length_row, show i - (r - 0) * 1 = 0 by omega]
      rfl
  · rw [List.append_assoc, List.getElem?_append_left hi]
theorem tryc_one {α : Type} {f : Nat → Option α} {t : Nat} (ht : t < 8) (h : ∀ i, i ≠ t → f i = none) : tryc f 8 0 = f t := by
  have gen : ∀ j c, c ≤ t → t < c + j → tryc f j c = f t := by
    intro j
    induction j with
    | zero => intro c h1 h2; omega
    | succ j ih =>
      intro c h1 h2
      unfold tryc
      by_cases e : c = t
      · subst e
        cases hf : f c with
        | some z => rfl
        | none => exact tryc_none fun i h3 h4 => h i (by omega)
      · rw [h c e]
        exact ih (c + 1) (by omega) (by omega)
  exact gen 8 0 (by omega) (by omega)
theorem ext_snoc {ok : List Nat → Nat → Prop} : ∀ {w now : List Nat} {c : Nat}, Ext ok now w → ok (now ++ w) c → Ext ok now (w ++ [c])
  | [], now, c, _, h => ⟨by simpa using h, trivial⟩
  | d :: w, now, c, h, hc => ⟨h.1, ext_snoc h.2 (by simpa using hc)⟩
open Classical in
/-- the columns that the first transversals use -/
noncomputable def usedV (n : Nat) (now : List Nat) (m : Nat) : Nat → Nat → Bool := fun r c => decide (usedP n now m r c)
theorem used_step {n t r c : Nat} {now : List Nat} (hr : r < n) : usedP n now ((t + 1) * n) r c ↔ usedP n now (t * n) r c ∨ c = now.getD (t * n + r) 0 := by
  constructor
  · rintro ⟨q, h1, h2, h3⟩
    by_cases e : q < t * n
    · exact .inl ⟨q, e, h2, h3⟩
    · right
      have h4 := Nat.div_add_mod' q n
      have h5 : q / n = t := by
        rw [Nat.div_eq_iff (by omega)]
        rw [Nat.add_mul] at h1
        omega
      rw [h5, h2] at h4
      rw [h4, h3]
  · rintro (⟨q, h1, h2, h3⟩ | h)
    · exact ⟨q, by rw [Nat.add_mul]; omega, h2, h3⟩
    · exact ⟨t * n + r, by rw [Nat.add_mul]; omega, (divmod hr).2, h.symm⟩

end Go.Vm

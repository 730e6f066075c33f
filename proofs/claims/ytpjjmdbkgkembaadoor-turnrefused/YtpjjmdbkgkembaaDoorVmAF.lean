/- Reading the plain functions: laws that name no program. -/
import Derived.Test.YtpjjmdbkgkembaaDoorVmAE
open Go.Vm
set_option linter.unusedVariables false
namespace Go.Vm
open Go

/-- a row of numbers -/
def IsRow (ro : List ABlk) (h : Heap) (v : AVal) (z : List Int) : Prop :=
  (v = .nsl ∧ z = []) ∨ ∃ q cap blk, v = .sl q z.length cap ∧ rdB ro h q = some blk ∧ q.off + z.length ≤ blk.n ∧ ∀ j, j < z.length → blk.c.get (q.off + j) = .i .i64 (z.getD j 0)
/-- a list of rows -/
def IsMat (ro : List ABlk) (h : Heap) (v : AVal) (rows : List (List Int)) : Prop :=
  (v = .nsl ∧ rows = []) ∨ ∃ q cap blk, v = .sl q rows.length cap ∧ rdB ro h q = some blk ∧ q.off + rows.length ≤ blk.n ∧ ∀ r, r < rows.length → IsRow ro h (blk.c.get (q.off + r)) (rows.getD r [])
def inI64 (n : Int) : Prop := -9223372036854775808 ≤ n ∧ n ≤ 9223372036854775807
theorem wf_i64 {n : Int} (h : (Lit.int .i64 n).wf = true) : inI64 n := by
  simp [Lit.wf, IntKind.min, IntKind.max, IntKind.signed, IntKind.bits] at h
  constructor <;> omega
section
variable {α β : Type}
theorem qag (a : α) (f : α → Option β) : bindO (some a) f = f a := rfl
end
section
variable {α β : Type}
theorem qak (v : AVal) (m : Mm) (f : AVal → Mm → Option β) : bindP (some (v, m)) f = f v m := rfl
end
section
variable {α β : Type}
theorem asI_i (k : IntKind) (x : Int) (f : Int → Option β) : asI k (.i k x) f = f x := by simp [asI, qdd]
end
section
variable {α β : Type}
theorem asB_b (x : Bool) (f : Bool → Option β) : asB (.b x) f = f x := rfl
end
section
variable {α β : Type}
theorem asP_p (q : Vm.Loc) (f : Vm.Loc → Option β) : asP (.p (some q)) f = f q := rfl
end
section
variable {α β : Type}
theorem chk_true (f : Option β) : chk true f = f := rfl
end
theorem wr_id {x : Int} (h : inI64 x) : wr .i64 x = x := by
  rw [wr_i64]; exact wrap_i64_in x h.1 h.2
theorem wr_id' {x : Int} (h1 : -9223372036854775808 ≤ x) (h2 : x ≤ 9223372036854775807) : wr .i64 x = x := wr_id ⟨h1, h2⟩
theorem callM_eq {call : qas} {m : Mm} {f : Nat} {vs : List AVal} {v : AVal} {h : Heap} {lw lp : Nat} (e : call f vs m.h = some (v, h, lw, lp)) : callM call m f vs = some (v, ⟨h, min m.lw lw, min m.lp lp⟩) := by
  unfold callM; rw [e]
/-- a call that leaves everything as it was -/
theorem qbr {call : qas} {h : Heap} {l p : Nat} {f : Nat} {vs : List AVal} {v : AVal} (e : call f vs h = some (v, h, h.length, h.length)) (hl : l ≤ h.length) (hp : p ≤ h.length) : callM call ⟨h, l, p⟩ f vs = some (v, ⟨h, l, p⟩) := by
  rw [callM_eq (m := ⟨h, l, p⟩) e]
  simp [Nat.min_eq_left hl, Nat.min_eq_left hp]
theorem fin_pure {h : Heap} {v : AVal} (hv : v.bel h.length = true) : finM h.length v ⟨h, h.length, h.length⟩ = some (v, h, h.length, h.length) := by
  simp [finM, gc, hv]
/-- what was made is dropped -/
theorem fin_drop {h x : Heap} {v : AVal} (hv : v.bel h.length = true) {lw : Nat} : finM h.length v ⟨h ++ x, lw, h.length⟩ = some (v, h, lw, h.length) := by
  simp [finM, gc, hv]
section
variable {ro : List ABlk} {h : Heap} {v : AVal} {z : List Int} {rows : List (List Int)}
theorem len_row (hr : IsRow ro h v z) : evP .e (.len false (.c v)) = some (.i .i64 z.length) := by
  rcases hr with ⟨rfl, rfl⟩ | ⟨q, cap, blk, rfl, -⟩
  · rfl
  · simp [evP, ev_len, opd, qcl]
end
section
variable {ro : List ABlk} {h : Heap} {v : AVal} {z : List Int} {rows : List (List Int)}
end
section
variable {ro : List ABlk} {h : Heap} {v : AVal} {z : List Int} {rows : List (List Int)}
theorem ixS_eq {q : Vm.Loc} {len : Nat} {cap : Cap} {i : Nat} (hi : i < len) : evP .e (.ixS 1 (.c (.sl q len cap)) (.c (.i .i64 (i : Int)))) = some (.p (some ⟨q.ro, q.b, q.off + i⟩)) := by
  have : Nat.blt i len = true := by rw [Nat.blt_eq]; exact hi
  have e : ((i : Int)) = Int.ofNat i := rfl
  simp only [evP, ev_ixS, opd, e, atI, this, cond_true, Nat.mul_one]
end
section
variable {ro : List ABlk} {h : Heap} {v : AVal} {z : List Int} {rows : List (List Int)}
theorem rd_one {q : Vm.Loc} {blk : ABlk} {i : Nat} (hb : rdB ro h q = some blk) (hi : q.off + i < blk.n) : rd ro h true 1 ⟨q.ro, q.b, q.off + i⟩ = some (blk.c.get (q.off + i)) := by
  have e : rdB ro h ⟨q.ro, q.b, q.off + i⟩ = some blk := hb
  have : Nat.blt (q.off + i) blk.n = true := by rw [Nat.blt_eq]; exact hi
  simp only [rd, e, cond_true, this]
end
section
variable {ro : List ABlk} {h : Heap} {v : AVal} {z : List Int} {rows : List (List Int)}
theorem rdB_lt {q : Vm.Loc} {blk : ABlk} (hb : rdB ro h q = some blk) : (q.ro || Nat.blt q.b h.length) = true := by
  cases hr : q.ro
  · simp only [rdB, hr, cond_false] at hb
    rw [qbv] at hb
    split at hb
    · rename_i e
      have := (List.getElem?_eq_some_iff.1 e).1
      simpa [Nat.blt_eq] using this
    · cases hb
  · rfl
end
section
variable {ro : List ABlk} {h : Heap} {v : AVal} {z : List Int} {rows : List (List Int)}
/-- the place of an element, and what lies there, by a load or in a region of open order -/
theorem at_row {m : Mm} (hm : m.h = h) (hr : IsRow ro h v z) {i : Nat} (hi : i < z.length) : ∃ p, evP .e (.ixS 1 (.c v) (.c (.i .i64 (i : Int)))) = some p ∧ ldM ro m true 1 p = some (.i .i64 (z.getD i 0)) ∧ ldA ro m.h true 1 p = some (.i .i64 (z.getD i 0)) := by
  subst hm
  rcases hr with ⟨rfl, rfl⟩ | ⟨q, cap, blk, rfl, hb, hn, hc⟩
  · simp at hi
  · have h1 := rd_one (i := i) hb (by omega)
    rw [hc i hi] at h1
    refine ⟨_, ixS_eq hi, h1, ?_⟩
    have := rdB_lt hb
    simp only [ldA, this, cond_true, h1]
end
section
variable {ro : List ABlk} {h : Heap} {v : AVal} {z : List Int} {rows : List (List Int)}
end
section
variable {ro : List ABlk} {h : Heap} {v : AVal} {z : List Int} {rows : List (List Int)}
theorem rdB_ext {q : Vm.Loc} {blk : ABlk} (x : Heap) (hb : rdB ro h q = some blk) : rdB ro (h ++ x) q = some blk := by
  cases hr : q.ro
  · have e : rdB ro h q = match lget h q.b with
      | some (some b) => some b
      | _ => none := by unfold rdB; rw [hr]; rfl
    have e2 : rdB ro (h ++ x) q = match lget (h ++ x) q.b with
      | some (some b) => some b
      | _ => none := by unfold rdB; rw [hr]; rfl
    rw [e] at hb
    rw [e2]
    split at hb
    · rename_i b e3
      rw [qbv] at e3 ⊢
      have := (List.getElem?_eq_some_iff.1 e3).1
      rw [List.getElem?_append_left this, e3]; exact hb
    · cases hb
  · have e : rdB ro h q = lget ro q.b := by simp only [rdB, hr, cond_true]
    have e2 : rdB ro (h ++ x) q = lget ro q.b := by simp only [rdB, hr, cond_true]
    rw [e2, ← e]; exact hb
end
section
variable {ro : List ABlk} {h : Heap} {v : AVal} {z : List Int} {rows : List (List Int)}
theorem IsRow.ext (x : Heap) (hr : IsRow ro h v z) : IsRow ro (h ++ x) v z := by
  rcases hr with h0 | ⟨q, cap, blk, e, hb, h1, h2⟩
  · exact .inl h0
  · exact .inr ⟨q, cap, blk, e, rdB_ext x hb, h1, h2⟩
end
section
variable {ro : List ABlk} {h : Heap} {v : AVal} {z : List Int} {rows : List (List Int)}
theorem IsMat.ext (x : Heap) (hr : IsMat ro h v rows) : IsMat ro (h ++ x) v rows := by
  rcases hr with h0 | ⟨q, cap, blk, e, hb, h1, h2⟩
  · exact .inl h0
  · exact .inr ⟨q, cap, blk, e, rdB_ext x hb, h1, fun r hr => (h2 r hr).ext x⟩
end
def firstS {R : Type} (step : Nat → Option R) : Nat → Nat → Option R
  | 0, _ => none
  | k + 1, i => match step i with
    | some r => some r
    | none => firstS step k (i + 1)
theorem firstS_none {R : Type} {step : Nat → Option R} : ∀ {k i : Nat}, firstS step k i = none ↔ ∀ j, i ≤ j → j < i + k → step j = none
  | 0, i => ⟨fun _ j h1 h2 => by omega, fun _ => rfl⟩
  | k + 1, i => by
    unfold firstS
    cases hs : step i with
    | some r => simp only [reduceCtorEq, false_iff]; intro h; have := h i (Nat.le_refl _) (by omega); rw [hs] at this; cases this
    | none =>
      simp only
      rw [firstS_none]
      constructor
      · intro h j h1 h2
        by_cases e : i = j
        · subst e; exact hs
        · exact h j (by omega) (by omega)
      · intro h j h1 h2
        exact h j (by omega) (by omega)
theorem qav (F : Tab) (ro : List ABlk) : (qbw F ro).call = callX F ro := rfl
theorem qbl {S R : Type} (F : Tab) (ro : List ABlk) (b : S → Option (S ⊕ R)) (s : S) : (qbw F ro).loop b s = loopX b s := rfl
theorem fits_small {n k : Nat} (h : n ≤ 1000000) (hk : k ≤ 1000) : fits n k = true := by
  simp only [fits, Bool.and_eq_true, Nat.ble_eq]
  have : n * k ≤ 1000000 * 1000 := Nat.mul_le_mul h hk
  omega
theorem map_getD {z : List Int} {j : Nat} (hj : j < z.length) : (z.map (AVal.i .i64)).getD j und = .i .i64 (z.getD j 0) := by simp [List.getD, hj]
theorem get_blk (e : Nat) (l : List AVal) (j : Nat) : (blkOf e l).c.get j = l.getD j und := get_mk l j
section
variable {ro : List ABlk} {hp : Heap} {b off : Nat} {blk : ABlk}
theorem rdB_heap (hb : lget hp b = some (some blk)) (off : Nat) : rdB ro hp ⟨false, b, off⟩ = some blk := by simp only [rdB, cond_false, hb]
end
section
variable {ro : List ABlk} {hp : Heap} {b off : Nat} {blk : ABlk}
theorem ld_heap {m : Mm} (hm : m.h = hp) (hb : lget hp b = some (some blk)) (ho : off < blk.n) : ldM ro m true 1 (.p (some ⟨false, b, off⟩)) = some (blk.c.get off) := by
  subst hm
  have : Nat.blt off blk.n = true := by rw [Nat.blt_eq]; exact ho
  simp only [ldM, rd, rdB_heap hb, cond_true, this]
end
section
variable {ro : List ABlk} {hp : Heap} {b off : Nat} {blk : ABlk}
theorem lda_heap {h0 : Heap} (hb : lget h0 b = some (some blk)) (ho : off < blk.n) : ldA ro h0 true 1 (.p (some ⟨false, b, off⟩)) = some (blk.c.get off) := by
  have h1 : (false || Nat.blt b h0.length) = true := by
    rw [qbv] at hb
    have := (List.getElem?_eq_some_iff.1 hb).1
    simpa [Nat.blt_eq] using this
  have : Nat.blt off blk.n = true := by rw [Nat.blt_eq]; exact ho
  simp only [ldA, h1, rd, rdB_heap hb, cond_true, this]
end
section
variable {ro : List ABlk} {hp : Heap} {b off : Nat} {blk : ABlk}
theorem wrH_heap (hb : lget hp b = some (some blk)) (ho : off < blk.n) {v : AVal} (hv : v.one = true) : wrH hp ⟨false, b, off⟩ [v] = some (hp.set b (some { blk with c := blk.c.set off v })) := by
  have : (Nat.ble (off + 1) blk.n && ones [v]) = true := by simp [ones, hv, Nat.ble_eq]; omega
  simp only [wrH, cond_false, hb, List.length_cons, List.length_nil, Nat.zero_add, this, cond_true, qcp, Tr.splice]
end
section
variable {ro : List ABlk} {hp : Heap} {b off : Nat} {blk : ABlk}
theorem st_heap {l p : Nat} (hb : lget hp b = some (some blk)) (ho : off < blk.n) {v : AVal} (hv : v.one = true) (hc : v.cells = [v]) (hn : nonp [v] = true) :
    stepM ro ⟨hp, l, p⟩ (.st 1 (.c (.p (some ⟨false, b, off⟩))) (.c v)) = some (und, ⟨hp.set b (some { blk with c := blk.c.set off v }), min l b, p⟩) := by
  simp only [stepM, stepK, opd, st_st, hc, List.length_cons, List.length_nil, Nat.zero_add, wrH_heap hb ho hv, hn, cond_true, St.mm]
  rfl
end
section
variable {ro : List ABlk} {hp : Heap} {b off : Nat} {blk : ABlk}
theorem wr_heap {l p : Nat} (hb : lget hp b = some (some blk)) (ho : off < blk.n) {v : AVal} (hv : v.one = true) (hn : nonp [v] = true) :
    qed ro [] [(⟨false, b, off⟩, [v])] ⟨hp, l, p⟩ = some ⟨hp.set b (some { blk with c := blk.c.set off v }), min l b, p⟩ := by
  simp only [qed, writes, wrH_heap hb ho hv, hn, ckOk, if_true, St.mm]
end
section
variable {ro : List ABlk} {hp : Heap} {b off : Nat} {blk : ABlk}
theorem qei (hb : lget hp b = some (some blk)) (x : Option ABlk) : lget (hp.set b x) b = some x := by
  rw [qbv] at hb ⊢
  have := (List.getElem?_eq_some_iff.1 hb).1
  simp [this]
end
section
variable {ro : List ABlk} {hp : Heap} {b off : Nat} {blk : ABlk}
theorem lget_ext (hb : lget hp b = some (some blk)) (x : Heap) : lget (hp ++ x) b = some (some blk) := by
  rw [qbv] at hb ⊢
  rw [List.getElem?_append_left (List.getElem?_eq_some_iff.1 hb).1]; exact hb
end
section
variable {ro : List ABlk} {hp : Heap} {b off : Nat} {blk : ABlk}
theorem lget_lt (hb : lget hp b = some (some blk)) : b < hp.length := by
  rw [qbv] at hb
  exact (List.getElem?_eq_some_iff.1 hb).1
end
section
variable {ro : List ABlk} {hp : Heap} {b off : Nat} {blk : ABlk}
theorem lget_last (h : Heap) (x : Option ABlk) : lget (h ++ [x]) h.length = some x := by rw [qbv]; simp
end
theorem qbu (r : Bool) (b o off : Nat) : evP .e (.faddr off (.c (.p (some ⟨r, b, o⟩)))) = some (.p (some ⟨r, b, o + off⟩)) := rfl
theorem p_ixA {r : Bool} {b o len es : Nat} {x : Int} {i : Nat} (hx : x = (i : Int)) (hi : i < len) : evP .e (.ixA len es (.c (.p (some ⟨r, b, o⟩))) (.c (.i .i64 x))) = some (.p (some ⟨r, b, o + i * es⟩)) := by
  have : Nat.blt i len = true := by rw [Nat.blt_eq]; exact hi
  have e : ((i : Int)) = Int.ofNat i := rfl
  subst hx
  simp only [evP, ev_ixA, opd, e, atI, this, cond_true]
theorem or_lt {a b : Nat} (ha : a < 256) (hb : b < 256) : a ||| b < 256 := Nat.or_lt_two_pow (n := 8) ha hb
theorem pow_lt {k : Nat} (hk : k ≤ 7) : 2 ^ k < 256 := by
  have : 2 ^ k ≤ 2 ^ 7 := Nat.pow_le_pow_right (by omega) hk
  omega
theorem lget_of {hp hp' : Heap} {i : Nat} (h : hp'[i]? = hp[i]?) : lget hp' i = lget hp i := by rw [qbv, qbv, h]
structure MaskC (X : Nat) (now : List Nat) : Prop where
  lt : X < 256
  bit : ∀ c, X.testBit c = true ↔ c ∈ now
theorem MaskC.add {X : Nat} {now : List Nat} (h : MaskC X now) {c : Nat} (hc : c < 7) : MaskC (X ||| 2 ^ c) (now ++ [c]) :=
  ⟨or_lt h.lt (pow_lt (by omega)), fun q => by rw [Nat.testBit_or, Nat.testBit_two_pow, Bool.or_eq_true, h.bit q, decide_eq_true_eq, List.mem_append, List.mem_singleton]; constructor <;> (rintro (h | h); exact .inl h; exact .inr h.symm)⟩
theorem fin_b {hp : Heap} {l p L : Nat} {c : Bool} : ∃ hp', finM L (.b c) ⟨hp, l, p⟩ = some (.b c, hp', l, p) ∧ (hp' = hp ∨ (L ≤ p ∧ hp' = hp.take L)) := by
  by_cases h : L ≤ p
  · exact ⟨hp.take L, by simp [finM, gc, AVal.bel, h], .inr ⟨h, rfl⟩⟩
  · exact ⟨hp, by simp [finM, gc, h], .inl rfl⟩
theorem not_bel {L b off len : Nat} {cap : Cap} (h : L ≤ b) : (AVal.sl ⟨false, b, off⟩ len cap).bel L = false := by
  simp only [AVal.bel, Bool.false_or]
  cases hh : Nat.blt b L
  · rfl
  · rw [Nat.blt_eq] at hh; omega
theorem st_ptr {ro : List ABlk} {hp : Heap} {b off l p : Nat} {blk : ABlk} (hb : lget hp b = some (some blk)) (ho : off < blk.n) {v : AVal} (hv : v.one = true) (hc : v.cells = [v]) (hn : nonp [v] = false) :
    stepM ro ⟨hp, l, p⟩ (.st 1 (.c (.p (some ⟨false, b, off⟩))) (.c v)) = some (und, ⟨hp.set b (some { blk with c := blk.c.set off v }), min l b, min p b⟩) := by
  simp only [stepM, stepK, opd, st_st, hc, List.length_cons, List.length_nil, Nat.zero_add, wrH_heap hb ho hv, hn, cond_false, St.mm]
  rfl
theorem take_eq {h h' : Heap} (hl : h.length ≤ h'.length) (hk : ∀ i, i < h.length → h'[i]? = h[i]?) : h' = h ++ h'.drop h.length := by
  have : h'.take h.length = h := by
    refine List.ext_getElem? fun i => ?_
    rw [List.getElem?_take]
    split
    · rename_i hi; exact hk i hi
    · rename_i hi; rw [List.getElem?_eq_none (by omega)]
  conv => lhs; rw [← List.take_append_drop h.length h', this]
theorem fin_same {h : Heap} {v : AVal} {l p : Nat} : finM h.length v ⟨h, l, p⟩ = some (v, h, l, p) := by
  unfold finM gc
  simp only
  split
  · simp
  · rfl
/-- loops that count up to n, with a state, that may end early -/
theorem loop_upto {R : Type} {b : Int × Mm → Option ((Int × Mm) ⊕ (Mm ⊕ R))} (n : Nat) (I : Nat → Mm → Prop) (Q : R → Prop)
    (hin : ∀ i m, i < n → I i m → (∃ m', b ((i : Int), m) = some (.inl (((i + 1 : Nat) : Int), m')) ∧ I (i + 1) m') ∨ (∃ r, b ((i : Int), m) = some (.inr (.inr r)) ∧ Q r))
    (hout : ∀ m, I n m → b ((n : Int), m) = some (.inr (.inl m))) :
    ∀ (k i : Nat) (m : Mm), i + k = n → I i m → ∃ o, loopX b ((i : Int), m) = some o ∧ ((∃ m', o = .inl m' ∧ I n m') ∨ ∃ r, o = .inr r ∧ Q r)
  | 0, i, m, hk, hi => by
    obtain rfl : i = n := by omega
    exact ⟨_, qbx (hout m hi), .inl ⟨m, rfl, hi⟩⟩
  | k + 1, i, m, hk, hi => by
    rcases hin i m (by omega) hi with ⟨m', h1, h2⟩ | ⟨r, h1, h2⟩
    · obtain ⟨o, h3, h4⟩ := loop_upto n I Q hin hout k (i + 1) m' (by omega) h2
      exact ⟨o, qct h1 h3, h4⟩
    · exact ⟨_, qbx h1, .inr ⟨r, rfl, h2⟩⟩
/-- loops that count up to n, with a state -/
theorem loop_all {b : Int × Mm → Option ((Int × Mm) ⊕ Mm)} (n : Nat) (I : Nat → Mm → Prop)
    (hin : ∀ i m, i < n → I i m → ∃ m', b ((i : Int), m) = some (.inl (((i + 1 : Nat) : Int), m')) ∧ I (i + 1) m')
    (hout : ∀ m, I n m → b ((n : Int), m) = some (.inr m)) :
    ∀ (k i : Nat) (m : Mm), i + k = n → I i m → ∃ m', loopX b ((i : Int), m) = some m' ∧ I n m'
  | 0, i, m, hk, hi => by
    obtain rfl : i = n := by omega
    exact ⟨_, qbx (hout m hi), hi⟩
  | k + 1, i, m, hk, hi => by
    obtain ⟨m', h1, h2⟩ := hin i m (by omega) hi
    obtain ⟨o, h3, h4⟩ := loop_all n I hin hout k (i + 1) m' (by omega) h2
    exact ⟨o, qct h1 h3, h4⟩
theorem qcu {k : Nat} (hk : k ≤ 1000000) : wr .i64 ((k : Int) + 1) = ((k + 1 : Nat) : Int) := by rw [wr_id' (by omega) (by omega)]; omega
theorem qdu {i n : Nat} (h : i < n) : decide ((i : Int) < (n : Int)) = true := by simp; omega
theorem lt_no {n : Nat} : decide ((n : Int) < (n : Int)) = false := by simp
theorem rep_len (v : AVal) : ∀ n, (rep [v] n).length = n
  | 0 => rfl
  | n + 1 => by simp [rep, rep_len v n]
theorem rep_get (v : AVal) : ∀ n j, j < n → (rep [v] n).getD j und = v
  | 0, j, h => by omega
  | n + 1, 0, _ => rfl
  | n + 1, j + 1, h => by
    have := rep_get v n j (by omega)
    simpa [rep] using this
/-- new memory for n elements -/
def qdr (e : Nat) (v : AVal) (n : Nat) : ABlk := blkOf e (rep [v] n)
theorem newBlk_n {e : Nat} {v : AVal} {n : Nat} : (qdr e v n).n = n := rep_len v n
theorem newBlk_get {e : Nat} {v : AVal} {n j : Nat} (h : j < n) : (qdr e v n).c.get j = v := by
  unfold qdr; rw [get_blk, rep_get v n j h]
theorem mk_ok {ro : List ABlk} {hp : Heap} {l p e es bytes : Nat} {v : AVal} {n : Nat} (hn : n ≤ 1000) (hb : bytes ≤ 1000) :
    stepM ro ⟨hp, l, p⟩ (.mk e es bytes [v] (.c (.i .i64 (n : Int))) (.c (.i .i64 (n : Int)))) = some (.sl ⟨false, hp.length, 0⟩ n (.known n), ⟨hp ++ [some (qdr e v n)], l, p⟩) := by
  have h1 : n * bytes ≤ 1000 * 1000 := Nat.mul_le_mul hn hb
  have hc : (Nat.ble n n && Nat.ble n 1048576 && Nat.ble (n * bytes) 281474976710656) = true := by
    simp only [Bool.and_eq_true, Nat.ble_eq]; omega
  have e : ((n : Int)) = Int.ofNat n := rfl
  rw [e]
  simp only [stepM, stepK, opd, st_mk, hc, cond_true, newB, St.mm]
  rfl
theorem set_end (hp : Heap) (x y : Option ABlk) : (hp ++ [x]).set hp.length y = hp ++ [y] := by simp
def tzT : List UInt8 := [8, 0, 1, 0, 2, 0, 1, 0, 3, 0, 1, 0, 2, 0, 1, 0, 4, 0, 1, 0, 2, 0, 1, 0, 3, 0, 1, 0, 2, 0, 1, 0, 5, 0, 1, 0, 2, 0, 1, 0, 3, 0, 1, 0, 2, 0, 1, 0, 4, 0, 1, 0, 2, 0, 1, 0, 3, 0, 1, 0, 2, 0, 1, 0, 6, 0, 1, 0, 2, 0, 1, 0, 3, 0, 1, 0, 2, 0, 1, 0, 4, 0, 1, 0, 2, 0, 1, 0, 3, 0, 1, 0, 2, 0, 1, 0, 5, 0, 1, 0, 2, 0, 1, 0, 3, 0, 1, 0, 2, 0, 1, 0, 4, 0, 1, 0, 2, 0, 1, 0, 3, 0, 1, 0, 2, 0, 1, 0, 7, 0, 1, 0, 2, 0, 1, 0, 3, 0, 1, 0, 2, 0, 1, 0, 4, 0, 1, 0, 2, 0, 1, 0, 3, 0, 1, 0, 2, 0, 1, 0, 5, 0, 1, 0, 2, 0, 1, 0, 3, 0, 1, 0, 2, 0, 1, 0, 4, 0, 1, 0, 2, 0, 1, 0, 3, 0, 1, 0, 2, 0, 1, 0, 6, 0, 1, 0, 2, 0, 1, 0, 3, 0, 1, 0, 2, 0, 1, 0, 4, 0, 1, 0, 2, 0, 1, 0, 3, 0, 1, 0, 2, 0, 1, 0, 5, 0, 1, 0, 2, 0, 1, 0, 3, 0, 1, 0, 2, 0, 1, 0, 4, 0, 1, 0, 2, 0, 1, 0, 3, 0, 1, 0, 2, 0, 1, 0]
def tz (X : Nat) : Nat := (tzT.getD X 0).toNat
theorem tz_all : ∀ X, X < 256 → X ≠ 0 → tz X < 8 ∧ X.testBit (tz X) = true ∧ ∀ j, j < 8 → ((j < tz X → X.testBit j = false) ∧ (Nat.land X (X - 1)).testBit j = (X.testBit j && !Nat.beq j (tz X))) := by decide +kernel
theorem callN_pure {call : qas} {h : Heap} {f : Nat} {vs : List AVal} {v : AVal} (e : call f vs h = some (v, h, h.length, h.length)) (hb : bels h.length vs = true) (hv : v.bel h.length = true) : callN call h f vs = some v := by
  have hble : Nat.ble h.length h.length = true := by rw [Nat.ble_eq]; exact Nat.le_refl _
  simp only [callN, hb, cond_true, e, hv, hble, Bool.and_self]
theorem fin_take {h' : Heap} {lw L : Nat} {v : AVal} (hv : v.bel L = true) : finM L v ⟨h', lw, L⟩ = some (v, h'.take L, lw, L) := by
  have hble : Nat.ble L L = true := by rw [Nat.ble_eq]; exact Nat.le_refl _
  simp [finM, gc, hv, hble]
/-- a vector in a block -/
def Vec (hp : Heap) (e b k : Nat) (get : Nat → AVal) : Prop := ∃ blk : ABlk, lget hp b = some (some blk) ∧ blk.e = e ∧ k ≤ blk.n ∧ ∀ r, r < k → blk.c.get r = get r
def VecV (hp : Heap) (L e : Nat) (v : AVal) (k : Nat) (get : Nat → AVal) : Prop := (v = .nsl ∧ k = 0) ∨ ∃ b, v = .sl ⟨false, b, 0⟩ k .grow ∧ 0 < k ∧ L ≤ b ∧ Vec hp e b k get
theorem Vec.lt {hp : Heap} {e b k : Nat} {get : Nat → AVal} (h : Vec hp e b k get) : b < hp.length := by
  obtain ⟨blk, h1, -⟩ := h; exact lget_lt h1
theorem Vec.keep {hp hp' : Heap} {e b k : Nat} {get : Nat → AVal} (h : Vec hp e b k get) (hk : hp'[b]? = hp[b]?) : Vec hp' e b k get := by
  obtain ⟨blk, h1, h2⟩ := h
  exact ⟨blk, by rw [lget_of hk]; exact h1, h2⟩
theorem Vec.ne {hp : Heap} {e e' b b' k k' : Nat} {get get' : Nat → AVal} (h : Vec hp e b k get) (h' : Vec hp e' b' k' get') (hne : e ≠ e') : b ≠ b' := by
  rintro rfl
  obtain ⟨blk, h1, h2, -⟩ := h
  obtain ⟨blk', h1', h2', -⟩ := h'
  rw [h1] at h1'
  cases h1'
  exact hne (h2.symm.trans h2')
theorem Vec.congr {hp : Heap} {e b k : Nat} {get get' : Nat → AVal} (h : Vec hp e b k get) (hc : ∀ r, r < k → get r = get' r) : Vec hp e b k get' := by
  obtain ⟨blk, h1, h2, h3, h4⟩ := h
  exact ⟨blk, h1, h2, h3, fun r hr => by rw [h4 r hr, hc r hr]⟩
theorem Vec.set {hp : Heap} {e b k : Nat} {get : Nat → AVal} {ro : List ABlk} {l p : Nat} (h : Vec hp e b k get) {r : Nat} (hr : r < k) {v : AVal} (hv : v.one = true) (hc : v.cells = [v]) (hn : nonp [v] = true) :
    ∃ y, stepM ro ⟨hp, l, p⟩ (.st 1 (.c (.p (some ⟨false, b, 0 + r⟩))) (.c v)) = some (und, ⟨hp.set b y, min l b, p⟩) ∧ Vec (hp.set b y) e b k (fun r' => if r' = r then v else get r') := by
  obtain ⟨blk, h1, h2, h3, h4⟩ := h
  refine ⟨some { blk with c := blk.c.set (0 + r) v }, st_heap h1 (by omega) hv hc hn, { blk with c := blk.c.set (0 + r) v }, qei h1 _, h2, h3, fun r' hr' => ?_⟩
  show (blk.c.set (0 + r) v).get r' = if r' = r then v else get r'
  rw [qcn]
  by_cases e : r' = r
  · rw [if_pos (by omega), if_pos e]
  · rw [if_neg (by omega), if_neg e]; exact h4 r' hr'
theorem VecV.low {hp : Heap} {L L' e : Nat} {v : AVal} {k : Nat} {get : Nat → AVal} (h : VecV hp L e v k get) (hl : L' ≤ L) : VecV hp L' e v k get := by
  rcases h with h | ⟨b, h1, h2, h3, h4⟩
  · exact .inl h
  · exact .inr ⟨b, h1, h2, by omega, h4⟩
/-- a list without repeats within another one -/
theorem nodup_len {α : Type} [DecidableEq α] : ∀ {l l' : List α}, l.Nodup → (∀ a ∈ l, a ∈ l') → l.length ≤ l'.length
  | [], l', _, _ => Nat.zero_le _
  | a :: l, l', hd, hs => by
    have h1 := List.nodup_cons.1 hd
    have ha := hs a (by simp)
    have ih := nodup_len (l := l) (l' := l'.erase a) h1.2 fun b hb => by
      have hne : b ≠ a := fun e => h1.1 (e ▸ hb)
      exact (List.mem_erase_of_ne hne).2 (hs b (by simp [hb]))
    rw [List.length_erase_of_mem ha] at ih
    have : 0 < l'.length := List.length_pos_of_mem ha
    simp only [List.length_cons]
    omega
theorem Vec.ld {ro : List ABlk} {hp : Heap} {e b k : Nat} {get : Nat → AVal} (h : Vec hp e b k get) {i : Nat} (hi : i < k) {l p : Nat} : ldM ro ⟨hp, l, p⟩ true 1 (.p (some ⟨false, b, 0 + i⟩)) = some (get i) := by
  obtain ⟨blk, h1, h2, h3, h4⟩ := h
  rw [ld_heap rfl h1 (by omega), Nat.zero_add, h4 i hi]
theorem Vec.new (hp : Heap) (e k : Nat) (v : AVal) : Vec (hp ++ [some (qdr e v k)]) e hp.length k (fun _ => v) :=
  ⟨qdr e v k, lget_last _ _, rfl, by rw [newBlk_n]; omega, fun r hr => newBlk_get hr⟩
structure OwnB (hp : Heap) (b n : Nat) (rb : Nat → Nat) (val : Nat → Nat → Bool) : Prop where
  top : Vec hp 48 b n (fun r => .sl ⟨false, rb r, 0⟩ n (.known n))
  rows : ∀ r, r < n → Vec hp 4 (rb r) n (fun c => .b (val r c))
  apart : ∀ r r', r < n → r' < n → rb r = rb r' → r = r'
theorem OwnB.keep {hp hp' : Heap} {b n : Nat} {rb : Nat → Nat} {val : Nat → Nat → Bool} (h : OwnB hp b n rb val) (hk : hp'[b]? = hp[b]?) (hk2 : ∀ r, r < n → hp'[rb r]? = hp[rb r]?) : OwnB hp' b n rb val :=
  ⟨h.top.keep hk, fun r hr => (h.rows r hr).keep (hk2 r hr), h.apart⟩
theorem OwnB.congr {hp : Heap} {b n : Nat} {rb : Nat → Nat} {val val' : Nat → Nat → Bool} (h : OwnB hp b n rb val) (hc : ∀ r c, r < n → c < n → val r c = val' r c) : OwnB hp b n rb val' :=
  ⟨h.top, fun r hr => (h.rows r hr).congr fun c hc' => by rw [hc r c hr hc'], h.apart⟩
theorem Vec.wr {ro : List ABlk} {hp : Heap} {e b k : Nat} {get : Nat → AVal} {l p : Nat} (h : Vec hp e b k get) {r : Nat} (hr : r < k) {v : AVal} (hv : v.one = true) (hn : nonp [v] = true) :
    ∃ y, qed ro [] [(⟨false, b, 0 + r⟩, [v])] ⟨hp, l, p⟩ = some ⟨hp.set b y, min l b, p⟩ ∧ Vec (hp.set b y) e b k (fun r' => if r' = r then v else get r') := by
  obtain ⟨blk, h1, h2, h3, h4⟩ := h
  refine ⟨some { blk with c := blk.c.set (0 + r) v }, wr_heap h1 (by omega) hv hn, { blk with c := blk.c.set (0 + r) v }, qei h1 _, h2, h3, fun r' hr' => ?_⟩
  show (blk.c.set (0 + r) v).get r' = if r' = r then v else get r'
  rw [qcn]
  by_cases e : r' = r
  · rw [if_pos (by omega), if_pos e]
  · rw [if_neg (by omega), if_neg e]; exact h4 r' hr'
theorem OwnB.set {ro : List ABlk} {hp : Heap} {b n : Nat} {rb : Nat → Nat} {val : Nat → Nat → Bool} (h : OwnB hp b n rb val) {r c : Nat} (hr : r < n) (hc : c < n) (x : Bool) {l p : Nat} :
    ∃ y, qed ro [] [(⟨false, rb r, 0 + c⟩, [.b x])] ⟨hp, l, p⟩ = some ⟨hp.set (rb r) y, min l (rb r), p⟩ ∧ OwnB (hp.set (rb r) y) b n rb (fun r' c' => if r' = r ∧ c' = c then x else val r' c') := by
  obtain ⟨y, h1, h2⟩ := (h.rows r hr).wr (ro := ro) (l := l) (p := p) hc (v := .b x) rfl rfl
  refine ⟨y, h1, h.top.keep ?_, fun r' hr' => ?_, h.apart⟩
  · rw [List.getElem?_set_ne ((h.rows r hr).ne h.top (by decide))]
  · by_cases e : r' = r
    · subst e
      exact h2.congr fun c' _ => by
        by_cases e2 : c' = c
        · rw [if_pos e2, if_pos ⟨rfl, e2⟩]
        · rw [if_neg e2, if_neg fun h => e2 h.2]
    · have := (h.rows r' hr').keep (hp' := hp.set (rb r) y) (by rw [List.getElem?_set_ne fun h2 => e (h.apart r r' hr hr' h2).symm])
      exact this.congr fun c' _ => by rw [if_neg fun h => e h.1]
end Go.Vm

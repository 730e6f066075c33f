/- Reading the plain functions: laws that name no program. -/
import Derived.Test.YtfohppnelbbepaaVmAE
open Go.Vm
set_option linter.unusedVariables false
namespace Go.Vm
open Go
def IsRow (ro : List ABlk) (h : Heap) (v : AVal) (z : List Int) : Prop :=
 (v = .nsl ∧ z = []) ∨ ∃ q cap blk, v = .sl q z.length cap ∧ rdB ro h q = some blk ∧ q.off + z.length ≤ blk.n ∧ ∀ j, j < z.length → blk.c.get (q.off + j) = .i .i64 (z.getD j 0)
def inI64 (n : Int) : Prop := -9223372036854775808 ≤ n ∧ n ≤ 9223372036854775807
section
variable {α β : Type}
end
section
variable {α β : Type}
end
section
variable {α β : Type}
theorem asI_i (k : IntKind) (x : Int) (f : Int → Option β) : asI k (.i k x) f = f x := by simp [asI, qcw]
end
section
variable {α β : Type}
theorem asB_b (x : Bool) (f : Bool → Option β) : asB (.b x) f = f x := rfl
end
section
variable {α β : Type}
end
section
variable {α β : Type}
end
theorem wr_id {x : Int} (h : inI64 x) : wr .i64 x = x := by
 rw [wr_i64]; exact qhd x h.1 h.2
theorem wr_id' {x : Int} (h1 : -9223372036854775808 ≤ x) (h2 : x ≤ 9223372036854775807) : wr .i64 x = x := wr_id ⟨h1, h2⟩
theorem callM_eq {call : qao} {m : Mm} {f : Nat} {vs : List AVal} {v : AVal} {h : Heap} {lw lp : Nat} (e : call f vs m.h = some (v, h, lw, lp)) : callM call m f vs = some (v, ⟨h, min m.lw lw, min m.lp lp⟩) := by
 unfold callM; rw [e]
theorem callM_pure {call : qao} {h : Heap} {l p : Nat} {f : Nat} {vs : List AVal} {v : AVal} (e : call f vs h = some (v, h, h.length, h.length)) (hl : l ≤ h.length) (hp : p ≤ h.length) : callM call ⟨h, l, p⟩ f vs = some (v, ⟨h, l, p⟩) := by
 rw [callM_eq (m := ⟨h, l, p⟩) e]
 simp [Nat.min_eq_left hl, Nat.min_eq_left hp]
theorem qbe {h : Heap} {v : AVal} (hv : v.bel h.length = true) : finM h.length v ⟨h, h.length, h.length⟩ = some (v, h, h.length, h.length) := by
 simp [finM, gc, hv]
section
variable {ro : List ABlk} {h : Heap} {v : AVal} {z : List Int} {rows : List (List Int)}
theorem len_row (hr : IsRow ro h v z) : evP .e (.len false (.c v)) = some (.i .i64 z.length) := by
 rcases hr with ⟨rfl, rfl⟩ | ⟨q, cap, blk, rfl, -⟩
 ·rfl
 ·simp [evP, ev_len, opd, qbu]
end
section
variable {ro : List ABlk} {h : Heap} {v : AVal} {z : List Int} {rows : List (List Int)}
end
section
variable {ro : List ABlk} {h : Heap} {v : AVal} {z : List Int} {rows : List (List Int)}
theorem qdd {q : Vm.Loc} {len : Nat} {cap : Cap} {i : Nat} (hi : i < len) : evP .e (.ixS 1 (.c (.sl q len cap)) (.c (.i .i64 (i : Int)))) = some (.p (some ⟨q.ro, q.b, q.off + i⟩)) := by
 have : Nat.blt i len = true := by rw [Nat.blt_eq]; exact hi
 have e : ((i : Int)) = Int.ofNat i := rfl
 simp only [evP, ev_ixS, opd, e, atI, this, cond_true, Nat.mul_one]
end
section
variable {ro : List ABlk} {h : Heap} {v : AVal} {z : List Int} {rows : List (List Int)}
theorem rd_one {q : Vm.Loc} {blk : ABlk} {i : Nat} (hb : rdB ro h q = some blk) (hi : q.off + i < blk.n) : rd ro h true 1 ⟨q.ro, q.b, q.off + i⟩ = some (blk.c.get (q.off + i)) := by
 have e : rdB ro h ⟨q.ro, q.b, q.off + i⟩ = some blk := hb
 have : Nat.blt (q.off + i) blk.n = true := by rw [Nat.blt_eq]; exact hi
 simp only [rd, e, cond_true, this]
end
section
variable {ro : List ABlk} {h : Heap} {v : AVal} {z : List Int} {rows : List (List Int)}
theorem rdB_lt {q : Vm.Loc} {blk : ABlk} (hb : rdB ro h q = some blk) : (q.ro || Nat.blt q.b h.length) = true := by
 cases hr : q.ro
 ·simp only [rdB, hr, cond_false] at hb
  rw [qbk] at hb
  split at hb
  ·rename_i e
   have := (List.getElem?_eq_some_iff.1 e).1
   simpa [Nat.blt_eq] using this
  ·cases hb
 ·rfl
end
section
variable {ro : List ABlk} {h : Heap} {v : AVal} {z : List Int} {rows : List (List Int)}
theorem at_row {m : Mm} (hm : m.h = h) (hr : IsRow ro h v z) {i : Nat} (hi : i < z.length) : ∃ p, evP .e (.ixS 1 (.c v) (.c (.i .i64 (i : Int)))) = some p ∧ ldM ro m true 1 p = some (.i .i64 (z.getD i 0)) ∧ ldA ro m.h true 1 p = some (.i .i64 (z.getD i 0)) := by
 subst hm
 rcases hr with ⟨rfl, rfl⟩ | ⟨q, cap, blk, rfl, hb, hn, hc⟩
 ·simp at hi
 ·have h1 := rd_one (i := i) hb (by omega)
  rw [hc i hi] at h1
  refine ⟨_, qdd hi, h1, ?_⟩
  have := rdB_lt hb
  simp only [ldA, this, cond_true, h1]
end
section
variable {ro : List ABlk} {h : Heap} {v : AVal} {z : List Int} {rows : List (List Int)}
end
section
variable {ro : List ABlk} {h : Heap} {v : AVal} {z : List Int} {rows : List (List Int)}
theorem rdB_ext {q : Vm.Loc} {blk : ABlk} (x : Heap) (hb : rdB ro h q = some blk) : rdB ro (h ++ x) q = some blk := by
 cases hr : q.ro
 ·have e : rdB ro h q = match lget h q.b with
   | some (some b) => some b
   | _ => none := by unfold rdB; rw [hr]; rfl
  have e2 : rdB ro (h ++ x) q = match lget (h ++ x) q.b with
   | some (some b) => some b
   | _ => none := by unfold rdB; rw [hr]; rfl
  rw [e] at hb
  rw [e2]
  split at hb
  ·rename_i b e3
   rw [qbk] at e3 ⊢
   have := (List.getElem?_eq_some_iff.1 e3).1
   rw [List.getElem?_append_left this, e3]; exact hb
  ·cases hb
 ·have e : rdB ro h q = lget ro q.b := by simp only [rdB, hr, cond_true]
  have e2 : rdB ro (h ++ x) q = lget ro q.b := by simp only [rdB, hr, cond_true]
  rw [e2, ← e]; exact hb
end
section
variable {ro : List ABlk} {h : Heap} {v : AVal} {z : List Int} {rows : List (List Int)}
theorem IsRow.ext (x : Heap) (hr : IsRow ro h v z) : IsRow ro (h ++ x) v z := by
 rcases hr with h0 | ⟨q, cap, blk, e, hb, h1, h2⟩
 ·exact .inl h0
 ·exact .inr ⟨q, cap, blk, e, rdB_ext x hb, h1, h2⟩
end
section
variable {ro : List ABlk} {h : Heap} {v : AVal} {z : List Int} {rows : List (List Int)}
end
def qhy {R : Type} (step : Nat → Option R) : Nat → Nat → Option R
 | 0, _ => none
 | k + 1, i => match step i with
  | some r => some r
  | none => qhy step k (i + 1)
theorem qef {R : Type} {step : Nat → Option R} : ∀ {k i : Nat}, qhy step k i = none ↔ ∀ j, i ≤ j → j < i + k → step j = none
 | 0, i => ⟨fun _ j h1 h2 => by omega, fun _ => rfl⟩
 | k + 1, i => by
  unfold qhy
  cases hs : step i with
  | some r => simp only [reduceCtorEq, false_iff]; intro h; have := h i (Nat.le_refl _) (by omega); rw [hs] at this; cases this
  | none =>
   simp only
   rw [qef]
   constructor
   ·intro h j h1 h2
    by_cases e : i = j
    ·subst e; exact hs
    ·exact h j (by omega) (by omega)
   ·intro h j h1 h2
    exact h j (by omega) (by omega)
theorem qhj {R : Type} {step : Nat → Option R} {r : R} : ∀ {k i : Nat}, qhy step k i = some r → ∃ j, i ≤ j ∧ j < i + k ∧ step j = some r ∧ ∀ j', i ≤ j' → j' < j → step j' = none
 | 0, i, h => by cases h
 | k + 1, i, h => by
  unfold qhy at h
  cases hs : step i with
  | some r' =>
   rw [hs] at h
   cases h
   exact ⟨i, Nat.le_refl _, by omega, hs, fun j' h1 h2 => by omega⟩
  | none =>
   rw [hs] at h
   obtain ⟨j, h1, h2, h3, h4⟩ := qhj h
   refine ⟨j, by omega, by omega, h3, fun j' h5 h6 => ?_⟩
   by_cases e : i = j'
   ·subst e; exact hs
   ·exact h4 j' (by omega) h6
theorem meansX_call (F : Tab) (ro : List ABlk) : (qbs F ro).call = callX F ro := rfl
theorem qaw {S R : Type} (F : Tab) (ro : List ABlk) (b : S → Option (S ⊕ R)) (s : S) : (qbs F ro).loop b s = loopX b s := rfl
theorem qez {n k : Nat} (h : n ≤ 1000000) (hk : k ≤ 1000) : fits n k = true := by
 simp only [fits, Bool.and_eq_true, Nat.ble_eq]
 have : n * k ≤ 1000000 * 1000 := Nat.mul_le_mul h hk
 omega
theorem qdu (e : Nat) (l : List AVal) (j : Nat) : (blkOf e l).c.get j = l.getD j und := qjk l j
section
variable {ro : List ABlk} {hp : Heap} {b off : Nat} {blk : ABlk}
theorem qdi (hb : lget hp b = some (some blk)) (off : Nat) : rdB ro hp ⟨false, b, off⟩ = some blk := by simp only [rdB, cond_false, hb]
end
section
variable {ro : List ABlk} {hp : Heap} {b off : Nat} {blk : ABlk}
theorem ld_heap {m : Mm} (hm : m.h = hp) (hb : lget hp b = some (some blk)) (ho : off < blk.n) : ldM ro m true 1 (.p (some ⟨false, b, off⟩)) = some (blk.c.get off) := by
 subst hm
 have : Nat.blt off blk.n = true := by rw [Nat.blt_eq]; exact ho
 simp only [ldM, rd, qdi hb, cond_true, this]
end
section
variable {ro : List ABlk} {hp : Heap} {b off : Nat} {blk : ABlk}
theorem lda_heap {h0 : Heap} (hb : lget h0 b = some (some blk)) (ho : off < blk.n) : ldA ro h0 true 1 (.p (some ⟨false, b, off⟩)) = some (blk.c.get off) := by
 have h1 : (false || Nat.blt b h0.length) = true := by
  rw [qbk] at hb
  have := (List.getElem?_eq_some_iff.1 hb).1
  simpa [Nat.blt_eq] using this
 have : Nat.blt off blk.n = true := by rw [Nat.blt_eq]; exact ho
 simp only [ldA, h1, rd, qdi hb, cond_true, this]
end
section
variable {ro : List ABlk} {hp : Heap} {b off : Nat} {blk : ABlk}
theorem wrH_heap (hb : lget hp b = some (some blk)) (ho : off < blk.n) {v : AVal} (hv : v.one = true) : wrH hp ⟨false, b, off⟩ [v] = some (hp.set b (some { blk with c := blk.c.set off v })) := by
 have : (Nat.ble (off + 1) blk.n && ones [v]) = true := by simp [ones, hv, Nat.ble_eq]; omega
 simp only [wrH, cond_false, hb, List.length_cons, List.length_nil, Nat.zero_add, this, cond_true, qby, Tr.splice]
end
section
variable {ro : List ABlk} {hp : Heap} {b off : Nat} {blk : ABlk}
theorem st_heap {l p : Nat} (hb : lget hp b = some (some blk)) (ho : off < blk.n) {v : AVal} (hv : v.one = true) (hc : v.cells = [v]) (hn : nonp [v] = true) :
  stepM ro ⟨hp, l, p⟩ (.st 1 (.c (.p (some ⟨false, b, off⟩))) (.c v)) = some (und, ⟨hp.set b (some { blk with c := blk.c.set off v }), min l b, p⟩) := by
 simp only [stepM, stepK, opd, st_st, hc, List.length_cons, List.length_nil, Nat.zero_add, wrH_heap hb ho hv, hn, cond_true, St.mm]
 rfl
end
section
variable {ro : List ABlk} {hp : Heap} {b off : Nat} {blk : ABlk}
end
section
variable {ro : List ABlk} {hp : Heap} {b off : Nat} {blk : ABlk}
theorem qfs (hb : lget hp b = some (some blk)) (x : Option ABlk) : lget (hp.set b x) b = some x := by
 rw [qbk] at hb ⊢
 have := (List.getElem?_eq_some_iff.1 hb).1
 simp [this]
end
section
variable {ro : List ABlk} {hp : Heap} {b off : Nat} {blk : ABlk}
theorem lget_ext (hb : lget hp b = some (some blk)) (x : Heap) : lget (hp ++ x) b = some (some blk) := by
 rw [qbk] at hb ⊢
 rw [List.getElem?_append_left (List.getElem?_eq_some_iff.1 hb).1]; exact hb
end
section
variable {ro : List ABlk} {hp : Heap} {b off : Nat} {blk : ABlk}
theorem qgk (hb : lget hp b = some (some blk)) : b < hp.length := by
 rw [qbk] at hb
 exact (List.getElem?_eq_some_iff.1 hb).1
end
section
variable {ro : List ABlk} {hp : Heap} {b off : Nat} {blk : ABlk}
theorem qed (h : Heap) (x : Option ABlk) : lget (h ++ [x]) h.length = some x := by rw [qbk]; simp
end
theorem qkw {hp hp' : Heap} {i : Nat} (h : hp'[i]? = hp[i]?) : lget hp' i = lget hp i := by rw [qbk, qbk, h]
theorem take_eq {h h' : Heap} (hl : h.length ≤ h'.length) (hk : ∀ i, i < h.length → h'[i]? = h[i]?) : h' = h ++ h'.drop h.length := by
 have : h'.take h.length = h := by
  refine List.ext_getElem? fun i => ?_
  rw [List.getElem?_take]
  split
  ·rename_i hi; exact hk i hi
  ·rename_i hi; rw [List.getElem?_eq_none (by omega)]
 conv => lhs; rw [← List.take_append_drop h.length h', this]
theorem fin_gen {h h' : Heap} {v : AVal} {l p : Nat} (hl : h.length ≤ h'.length) (hk : ∀ i, i < h.length → h'[i]? = h[i]?) : ∃ y, finM h.length v ⟨h', l, p⟩ = some (v, h ++ y, l, p) ∧ (v.bel h.length = false → h ++ y = h') := by
 have he := take_eq hl hk
 by_cases hc : (Nat.ble h.length p && v.bel h.length) = true
 ·refine ⟨[], ?_, fun hb => by rw [hb] at hc; simp at hc⟩
  have ht : h'.take h.length = h := by rw [he]; simp
  simp only [finM, gc, hc, if_true, ht, List.append_nil]
 ·refine ⟨h'.drop h.length, ?_, fun _ => he.symm⟩
  simp only [finM, gc, hc]
  rw [← he]
  rfl
def newBlk (e : Nat) (v : AVal) (n : Nat) : ABlk := blkOf e (rep [v] n)
theorem mk_ok {ro : List ABlk} {hp : Heap} {l p e es bytes : Nat} {v : AVal} {n : Nat} (hn : n ≤ 1000) (hb : bytes ≤ 1000) :
  stepM ro ⟨hp, l, p⟩ (.mk e es bytes [v] (.c (.i .i64 (n : Int))) (.c (.i .i64 (n : Int)))) = some (.sl ⟨false, hp.length, 0⟩ n (.known n), ⟨hp ++ [some (newBlk e v n)], l, p⟩) := by
 have h1 : n * bytes ≤ 1000 * 1000 := Nat.mul_le_mul hn hb
 have hc : (Nat.ble n n && Nat.ble n 1048576 && Nat.ble (n * bytes) 281474976710656) = true := by
  simp only [Bool.and_eq_true, Nat.ble_eq]; omega
 have e : ((n : Int)) = Int.ofNat n := rfl
 rw [e]
 simp only [stepM, stepK, opd, st_mk, hc, cond_true, newB, St.mm]
 rfl
def tryc {α : Type} (f : Nat → Option α) : Nat → Nat → Option α
 | 0, _ => none
 | j + 1, c => match f c with
  | some z => some z
  | none => tryc f j (c + 1)
open Classical in
noncomputable def dm (ok : List Nat → Nat → Prop) : Nat → List Nat → Option (List Nat)
 | 0, now => some now
 | k + 1, now => tryc (fun c => if ok now c then dm ok k (now ++ [c]) else none) 8 0
theorem fin_take {h' : Heap} {lw L : Nat} {v : AVal} (hv : v.bel L = true) : finM L v ⟨h', lw, L⟩ = some (v, h'.take L, lw, L) := by
 have hble : Nat.ble L L = true := by rw [Nat.ble_eq]; exact Nat.le_refl _
 simp [finM, gc, hv, hble]
end Go.Vm

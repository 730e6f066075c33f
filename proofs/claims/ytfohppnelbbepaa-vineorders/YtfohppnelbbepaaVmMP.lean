/- Maps whose keys are strings: made, asked, written. -/
import Derived.Test.YtfohppnelbbepaaVmN
import Derived.MapKept
import Derived.Lib.MakeNoZero
import Derived.Lib.Bytealg
import Derived.Laws.Externs
import Derived.Laws.IdiomStrings
namespace Go.Vm
open Go.RowKit
section
variable {E : Env} {m : M} {h : Heap} {w : World}
theorem HR.newO (hE : E.Ok) (hr : HR E m h w) {K : Nat} {b0 : ABlk} {ob : Obj} (hb0 : ∀ m', Mle m m' → BlkR E m' b0 K (some ob)) (lw lp : Nat) :
  Tn E m h lw lp w (m ++ [some (w.heap.size, K)]) (h ++ [some b0]) lw lp (w.alloc ob) := by
 have hsz := hr.below.size
 have hBs : E.B ≤ w.heap.size := Nat.le_trans hE.hB hsz
 have hold : ∀ r, r < w.heap.size → (w.alloc ob).heap[r]? = w.heap[r]? := fun r h => Below.heap_alloc _ _ _ h
 have hcases : ∀ i b r K', Live (m ++ [some (w.heap.size, K)]) (h ++ [some b0]) i b r K' → Live m h i b r K' ∨ (i = h.length ∧ b = b0 ∧ r = w.heap.size ∧ K' = K) := by
  intro i b r K' ⟨h1, h2⟩
  rcases Nat.lt_or_ge i h.length with hi | hi
  ·rw [List.getElem?_append_left hi] at h1
   rw [List.getElem?_append_left (by rw [hr.len]; exact hi)] at h2
   exact .inl ⟨h1, h2⟩
  ·rw [List.getElem?_append_right hi] at h1
   rw [List.getElem?_append_right (by rw [hr.len]; exact hi), hr.len] at h2
   have : i - h.length = 0 := by
    rcases Nat.eq_zero_or_pos (i - h.length) with h0 | h0
    ·exact h0
    ·rw [List.getElem?_eq_none (by simp; omega)] at h1; cases h1
   rw [this] at h1 h2
   simp at h1 h2
   exact .inr ⟨by omega, h1.symm, h2.1.symm, h2.2.symm⟩
 have mle : Mle m (m ++ [some (w.heap.size, K)]) := Mle.app _ _
 refine ⟨⟨_, rfl⟩, ⟨hr.below.alloc hBs _, by simp [hr.len], ?_, ?_, ?_⟩, by simp, Nat.le_refl _, Nat.le_refl _, ?_, ?_, ?_, ?_⟩
 ·intro i b hb
  rcases Nat.lt_or_ge i h.length with hi | hi
  ·rw [List.getElem?_append_left hi] at hb
   obtain ⟨r, K', hm⟩ := hr.real i b hb
   exact ⟨r, K', mle _ _ hm⟩
  ·have : i = h.length := by
    rw [List.getElem?_append_right hi] at hb
    rcases Nat.eq_zero_or_pos (i - h.length) with h0 | h0
    ·omega
    ·rw [List.getElem?_eq_none (by simp; omega)] at hb; cases hb
   subst this
   exact ⟨w.heap.size, K, by rw [← hr.len]; simp⟩
 ·intro i b r K' hb
  rcases hcases i b r K' hb with hb | ⟨rfl, rfl, rfl, rfl⟩
  ·obtain ⟨h0, h1⟩ := hr.blk i b r K' hb
   exact ⟨h0, by rw [hold r (hr.lt hb)]; exact h1.mono mle⟩
  ·refine ⟨hBs, ?_⟩
   have e : (w.alloc ob).heap[w.heap.size]? = some ob := by show (w.heap.push _)[w.heap.size]? = _; rw [Array.getElem?_push_size]
   rw [e]
   exact hb0 _ mle
 ·intro i j b b' r K1 K2 h1 h2
  rcases hcases _ _ _ _ h1 with k1 | ⟨e1, -, e2, -⟩
  ·rcases hcases _ _ _ _ h2 with k2 | ⟨-, -, e3, -⟩
   ·exact hr.inj _ _ _ _ _ _ _ k1 k2
   ·have := hr.lt k1; omega
  ·rcases hcases _ _ _ _ h2 with k2 | ⟨e3, -, -, -⟩
   ·have := hr.lt k2; omega
   ·rw [e1, e3]
 ·intro i hi hil
  refine ⟨List.getElem?_append_left hil, fun b r K' hb => hold r (hr.lt hb)⟩
 ·intro i hi hil b' hb'
  rw [List.getElem?_append_left hil] at hb'
  exact ⟨b', hb', rfl, ⟨rfl, rfl⟩, fun _ _ => .inr rfl⟩
 ·intro r hrs _
  exact hold r hrs
 ·intro i b r K' hb hrs
  rcases hcases _ _ _ _ hb with hb | ⟨rfl, rfl, rfl, rfl⟩
  ·exact ⟨_, _, _, hb⟩
  ·omega
theorem HR.setO (hr : HR E m h w) {i : Nat} {b b' : ABlk} {r K : Nat} {ob : Obj} {w' : World} (hl : Live m h i b r K) (hw' : w' = { w with heap := w.heap.setIfInBounds r ob })
  (hb : BlkR E m b' K (some ob)) (he : b'.e = b.e) (hn : b'.n = b.n) (hz : b'.n = 0) (hfx : b'.fix = b.fix) (lw lp : Nat) : Tn E m h lw lp w m (h.set i (some b')) (min lw i) lp w' := by
 obtain ⟨hB, hbk⟩ := hr.blk i b r K hl
 have hrlt := hr.lt hl
 have hil := hl.lt
 have hget : w'.heap[r]? = some ob := by rw [hw']; simp [hrlt]
 have hne' : ∀ r', r ≠ r' → w'.heap[r']? = w.heap[r']? := fun r' hne => by rw [hw']; simp [hne]
 have hsize : w'.heap.size = w.heap.size := by rw [hw']; simp
 have other : ∀ j b0 r0 K0, Live m (h.set i (some b')) j b0 r0 K0 → (j = i ∧ b0 = b' ∧ r0 = r ∧ K0 = K) ∨ (j ≠ i ∧ Live m h j b0 r0 K0) := by
  intro j b0 r0 K0 ⟨h1, h2⟩
  rw [List.getElem?_set] at h1
  split at h1
  ·rename_i hij
   subst hij
   have h1' : b' = b0 := by simpa [hil] using h1
   rw [hl.2] at h2
   have h2' : r = r0 ∧ K = K0 := by simpa using h2
   exact .inl ⟨rfl, h1'.symm, h2'.1.symm, h2'.2.symm⟩
  ·rename_i hij
   exact .inr ⟨fun e => hij e.symm, h1, h2⟩
 refine ⟨⟨[], by simp⟩, ⟨?_, by simp [hr.len], ?_, ?_, ?_⟩, by rw [hsize]; exact Nat.le_refl _, Nat.min_le_left _ _, Nat.le_refl _, ?_, ?_, ?_, ?_⟩
 ·refine ⟨by rw [hw']; exact hr.below.os, by rw [hw']; exact hr.below.tape, by rw [hw']; exact hr.below.output, by rw [hsize]; exact hr.below.size, fun k hk => ?_⟩
  rw [hne' k (by omega)]
  exact hr.below.block k hk
 ·intro j b0 hb0
  rw [List.getElem?_set] at hb0
  split at hb0
  ·rename_i hij
   subst hij
   exact ⟨r, K, hl.2⟩
  ·exact hr.real j b0 hb0
 ·intro j b0 r0 K0 hb0
  rcases other _ _ _ _ hb0 with ⟨rfl, rfl, rfl, rfl⟩ | ⟨hne, hb0⟩
  ·exact ⟨hB, by rw [hget]; exact hb⟩
  ·obtain ⟨g0, gb⟩ := hr.blk _ _ _ _ hb0
   have hrr : r ≠ r0 := fun e => hne (hr.inj _ _ _ _ _ _ _ hb0 (e ▸ hl))
   exact ⟨g0, by rw [hne' _ hrr]; exact gb⟩
 ·intro j1 j2 b1 b2 r0 K1 K2 h1 h2
  rcases other _ _ _ _ h1 with ⟨e1, -, e2, -⟩ | ⟨n1, k1⟩
  ·rcases other _ _ _ _ h2 with ⟨e3, -, -, -⟩ | ⟨n2, k2⟩
   ·rw [e1, e3]
   ·rw [e1]; subst e2; exact hr.inj _ _ _ _ _ _ _ hl k2
  ·rcases other _ _ _ _ h2 with ⟨e3, -, e4, -⟩ | ⟨n2, k2⟩
   ·rw [e3]; subst e4; exact hr.inj _ _ _ _ _ _ _ k1 hl
   ·exact hr.inj _ _ _ _ _ _ _ k1 k2
 ·intro j hj hjl
  have hne : i ≠ j := by omega
  refine ⟨List.getElem?_set_ne hne, fun b0 r0 K0 hb0 => ?_⟩
  have hrr : r ≠ r0 := fun e => hne (hr.inj _ _ _ _ _ _ _ (e ▸ hl) hb0)
  exact hne' _ hrr
 ·intro j hj hjl b0 hb0
  by_cases hij : i = j
  ·subst hij
   rw [List.getElem?_set_self hil] at hb0
   cases hb0
   exact ⟨b, hl.1, he, ⟨hn, hfx⟩, fun j hj => by omega⟩
  ·rw [List.getElem?_set_ne hij] at hb0
   exact ⟨b0, hb0, rfl, ⟨rfl, rfl⟩, fun _ _ => .inr rfl⟩
 ·intro r0 _ hno
  exact hne' _ fun e => hno i b K (e ▸ hl)
 ·intro j b0 r0 K0 hb0 _
  rcases other _ _ _ _ hb0 with ⟨rfl, -, rfl, -⟩ | ⟨-, hb0⟩
  ·exact ⟨_, b, K, hl⟩
  ·exact ⟨_, _, _, hb0⟩
theorem HR.setF (hr : HR E m h w) {i : Nat} {b b' : ABlk} {r K : Nat} {ob : Obj} {w' : World} (hl : Live m h i b r K) (hw' : w' = { w with heap := w.heap.setIfInBounds r ob })
  (hb : BlkR E m b' K (some ob)) (lw lp : Nat) : Tn E m h lw lp w m (h.set i (some b')) (min lw i) (min lp i) w' := by
 obtain ⟨hB, hbk⟩ := hr.blk i b r K hl
 have hrlt := hr.lt hl
 have hil := hl.lt
 have hget : w'.heap[r]? = some ob := by rw [hw']; simp [hrlt]
 have hne' : ∀ r', r ≠ r' → w'.heap[r']? = w.heap[r']? := fun r' hne => by rw [hw']; simp [hne]
 have hsize : w'.heap.size = w.heap.size := by rw [hw']; simp
 have other : ∀ j b0 r0 K0, Live m (h.set i (some b')) j b0 r0 K0 → (j = i ∧ b0 = b' ∧ r0 = r ∧ K0 = K) ∨ (j ≠ i ∧ Live m h j b0 r0 K0) := by
  intro j b0 r0 K0 ⟨h1, h2⟩
  rw [List.getElem?_set] at h1
  split at h1
  ·rename_i hij
   subst hij
   have h1' : b' = b0 := by simpa [hil] using h1
   rw [hl.2] at h2
   have h2' : r = r0 ∧ K = K0 := by simpa using h2
   exact .inl ⟨rfl, h1'.symm, h2'.1.symm, h2'.2.symm⟩
  ·rename_i hij
   exact .inr ⟨fun e => hij e.symm, h1, h2⟩
 refine ⟨⟨[], by simp⟩, ⟨?_, by simp [hr.len], ?_, ?_, ?_⟩, by rw [hsize]; exact Nat.le_refl _, Nat.min_le_left _ _, Nat.min_le_left _ _, ?_, ?_, ?_, ?_⟩
 ·refine ⟨by rw [hw']; exact hr.below.os, by rw [hw']; exact hr.below.tape, by rw [hw']; exact hr.below.output, by rw [hsize]; exact hr.below.size, fun k hk => ?_⟩
  rw [hne' k (by omega)]
  exact hr.below.block k hk
 ·intro j b0 hb0
  rw [List.getElem?_set] at hb0
  split at hb0
  ·rename_i hij
   subst hij
   exact ⟨r, K, hl.2⟩
  ·exact hr.real j b0 hb0
 ·intro j b0 r0 K0 hb0
  rcases other _ _ _ _ hb0 with ⟨rfl, rfl, rfl, rfl⟩ | ⟨hne, hb0⟩
  ·exact ⟨hB, by rw [hget]; exact hb⟩
  ·obtain ⟨g0, gb⟩ := hr.blk _ _ _ _ hb0
   have hrr : r ≠ r0 := fun e => hne (hr.inj _ _ _ _ _ _ _ hb0 (e ▸ hl))
   exact ⟨g0, by rw [hne' _ hrr]; exact gb⟩
 ·intro j1 j2 b1 b2 r0 K1 K2 h1 h2
  rcases other _ _ _ _ h1 with ⟨e1, -, e2, -⟩ | ⟨n1, k1⟩
  ·rcases other _ _ _ _ h2 with ⟨e3, -, -, -⟩ | ⟨n2, k2⟩
   ·rw [e1, e3]
   ·rw [e1]; subst e2; exact hr.inj _ _ _ _ _ _ _ hl k2
  ·rcases other _ _ _ _ h2 with ⟨e3, -, e4, -⟩ | ⟨n2, k2⟩
   ·rw [e3]; subst e4; exact hr.inj _ _ _ _ _ _ _ k1 hl
   ·exact hr.inj _ _ _ _ _ _ _ k1 k2
 ·intro j hj hjl
  have hne : i ≠ j := by omega
  refine ⟨List.getElem?_set_ne hne, fun b0 r0 K0 hb0 => ?_⟩
  have hrr : r ≠ r0 := fun e => hne (hr.inj _ _ _ _ _ _ _ (e ▸ hl) hb0)
  exact hne' _ hrr
 ·intro j hj hjl b0 hb0
  have hij : i ≠ j := by omega
  rw [List.getElem?_set_ne hij] at hb0
  exact ⟨b0, hb0, rfl, ⟨rfl, rfl⟩, fun _ _ => .inr rfl⟩
 ·intro r0 _ hno
  exact hne' _ fun e => hno i b K (e ▸ hl)
 ·intro j b0 r0 K0 hb0 _
  rcases other _ _ _ _ hb0 with ⟨rfl, -, rfl, -⟩ | ⟨-, hb0⟩
  ·exact ⟨_, b, K, hl⟩
  ·exact ⟨_, _, _, hb0⟩
/- the entries -/
theorem eqL_iff : ∀ a b : List UInt8, eqL a b = true ↔ a = b
 | [], [] => by simp [eqL]
 | [], _ :: _ => by simp [eqL]
 | _ :: _, [] => by simp [eqL]
 | a :: x, b :: y => by
  unfold eqL
  cases hb : Nat.beq a.toNat b.toNat with
  | false =>
   have : a ≠ b := fun e => by rw [e, Nat.beq_refl] at hb; cases hb
   simp [this]
  | true =>
   have : a = b := UInt8.toNat_inj.1 (Nat.eq_of_beq_eq_true hb)
   simp [this, eqL_iff x y]
theorem str_inj {a b : List UInt8} (h : Value.string ⟨a.toArray⟩ = .string ⟨b.toArray⟩) : a = b := by
 simpa using h
theorem MapR.cons {rl : Rl} {s : List UInt8} {v : AVal} {L : List (List UInt8 × AVal)} {es : List MapEntry} (h : MapR rl ((s, v) :: L) es) : ∃ x es', es = x :: es' ∧ x.key = .string ⟨s.toArray⟩ ∧ v.scalar = true ∧ VR rl [] v x.val ∧ MapR rl L es' := by
 obtain ⟨hlen, hget⟩ := h
 cases es with
 | nil => simp at hlen
 | cons x es =>
  obtain ⟨x', h1, h2, h3, h4⟩ := hget 0 s v rfl
  simp at h1
  subst h1
  exact ⟨_, es, rfl, h2, h3, h4, by simpa using hlen, fun i s' v' hi => by simpa using hget (i + 1) s' v' (by simpa using hi)⟩
theorem MapR.mk {rl : Rl} {s : List UInt8} {v : AVal} {L : List (List UInt8 × AVal)} {x : MapEntry} {es : List MapEntry} (h1 : x.key = .string ⟨s.toArray⟩) (h2 : v.scalar = true) (h3 : VR rl [] v x.val) (h : MapR rl L es) : MapR rl ((s, v) :: L) (x :: es) :=
 ⟨by simp [h.1], fun i s' v' hi => by
  cases i with
  | zero => simp at hi; obtain ⟨rfl, rfl⟩ := hi; exact ⟨x, rfl, h1, h2, h3⟩
  | succ i => simpa using h.2 i s' v' (by simpa using hi)⟩
theorem MapR.keys {rl : Rl} {L : List (List UInt8 × AVal)} {es : List MapEntry} (h : MapR rl L es) : ∀ x ∈ es, MapKept.IsKey .string x.key := by
 intro x hx
 obtain ⟨i, hi, rfl⟩ := List.getElem_of_mem hx
 obtain ⟨y, h1, h2, -⟩ := h.2 i (L[i]'(by rw [h.1]; exact hi)).1 (L[i]'(by rw [h.1]; exact hi)).2 (by simp [h.1, hi])
 have : y = es[i] := by simpa [hi] using h1.symm
 rw [← this, h2]
 trivial
theorem qgt {rl : Rl} {s : List UInt8} : ∀ {L : List (List UInt8 × AVal)} {es : List MapEntry} (i : Nat), MapR rl L es →
  (mfind L s = none ∧ Instr.findNow .string (.string ⟨s.toArray⟩) es i = some none) ∨
  ∃ v j x, mfind L s = some v ∧ Instr.findNow .string (.string ⟨s.toArray⟩) es i = some (some (i + j, x.val)) ∧ es[j]? = some x ∧ x.key = .string ⟨s.toArray⟩ ∧ v.scalar = true ∧ VR rl [] v x.val
 | [], es, i, h => by
  have : es = [] := List.eq_nil_of_length_eq_zero h.1.symm
  subst this
  exact .inl ⟨rfl, rfl⟩
 | (k, v) :: L, es, i, h => by
  obtain ⟨x, es', rfl, h1, h2, h3, h4⟩ := h.cons
  obtain ⟨r, hr, hiff⟩ := MapKept.sameNow_of_keys (d := .string) (a := .string ⟨s.toArray⟩) (b := x.key) trivial (by rw [h1]; trivial)
  unfold mfind
  cases he : eqL k s with
  | true =>
   have hks := (eqL_iff _ _).1 he
   subst hks
   have hrt : r = true := hiff.2 h1.symm
   subst hrt
   exact .inr ⟨v, 0, x, rfl, by simp [Instr.findNow, hr], rfl, h1, h2, h3⟩
  | false =>
   have hrf : r = false := by
    cases r with
    | false => rfl
    | true =>
     have := hiff.1 rfl
     rw [h1] at this
     rw [(eqL_iff _ _).2 (str_inj this).symm] at he
     cases he
   subst hrf
   rcases qgt (i + 1) h4 with ⟨g1, g2⟩ | ⟨v', j, x', g1, g2, g3, g4, g5, g6⟩
   ·exact .inl ⟨g1, by simp [Instr.findNow, hr, g2]⟩
   ·exact .inr ⟨v', j + 1, x', g1, by simp [Instr.findNow, hr, g2]; omega, by simpa using g3, g4, g5, g6⟩
theorem put_new {rl : Rl} {s : List UInt8} {v : AVal} {y : MapEntry} (hy : y.key = .string ⟨s.toArray⟩) (hs : v.scalar = true) (hv : VR rl [] v y.val) : ∀ {L : List (List UInt8 × AVal)} {es : List MapEntry}, MapR rl L es → mfind L s = none → MapR rl (mput L s v) (es ++ [y])
 | [], es, h, _ => by
  have : es = [] := List.eq_nil_of_length_eq_zero h.1.symm
  subst this
  exact MapR.mk hy hs hv h
 | (k, u) :: L, es, h, hf => by
  obtain ⟨x, es', rfl, h1, h2, h3, h4⟩ := h.cons
  unfold mfind at hf
  unfold mput
  cases he : eqL k s with
  | true => rw [he] at hf; cases hf
  | false =>
   rw [he] at hf
   exact MapR.mk h1 h2 h3 (put_new hy hs hv h4 hf)
theorem put_old {rl : Rl} {s : List UInt8} {v : AVal} {f : MapEntry → MapEntry} (hs : v.scalar = true) (hf : ∀ x, (f x).key = .string ⟨s.toArray⟩ ∧ VR rl [] v (f x).val) : ∀ {L : List (List UInt8 × AVal)} {es : List MapEntry} {i j : Nat} {x : MapEntry}, MapR rl L es →
  Instr.findNow .string (.string ⟨s.toArray⟩) es i = some (some (i + j, x.val)) → MapR rl (mput L s v) (es.modify j f)
 | [], es, i, j, x, h, h0 => by
  have : es = [] := List.eq_nil_of_length_eq_zero h.1.symm
  subst this
  cases h0
 | (k, u) :: L, es, i, j, x, h, h0 => by
  obtain ⟨x1, es', rfl, h1, h2, h3, h4⟩ := h.cons
  obtain ⟨r, hr, hiff⟩ := MapKept.sameNow_of_keys (d := .string) (a := .string ⟨s.toArray⟩) (b := x1.key) trivial (by rw [h1]; trivial)
  unfold mput
  cases r with
  | true =>
   have hk := hiff.1 rfl
   rw [h1] at hk
   have hks := str_inj hk
   subst hks
   rw [(eqL_iff _ _).2 rfl]
   simp [Instr.findNow, hr] at h0
   have hj : j = 0 := by omega
   subst hj
   exact MapR.mk (hf x1).1 hs (hf x1).2 h4
  | false =>
   have he : eqL k s = false := by
    cases he : eqL k s with
    | false => rfl
    | true =>
     have hks := (eqL_iff _ _).1 he
     subst hks
     have := hiff.2 h1.symm
     cases this
   rw [he]
   simp only [Instr.findNow, hr] at h0
   obtain ⟨j', rfl⟩ : ∃ j', j = j' + 1 := by
    rcases qgt (i + 1) h4 with ⟨-, g2⟩ | ⟨v', j2, x', -, g2, -⟩
    ·rw [g2] at h0; cases h0
    ·rw [g2] at h0
     simp at h0
     exact ⟨j - 1, by omega⟩
   exact MapR.mk h1 h2 h3 (put_old hs hf (i := i + 1) (x := x) h4 (by rw [h0]; congr 3; omega))
/- the operations -/
variable {o : Oper} {a : Act} {st st' : St} {v : AVal}
theorem stp_mkm {t : TypeId} (hE : E.Ok) (hr : HR E m st.h w) (ho : o.op = .makeMap t none) (hs : stepK E.ro st .mkm = some (v, st')) : Stp E o a m st w v st' := by
 simp only [stepK, st_mkm, Option.some.injEq, Prod.mk.injEq] at hs
 obtain ⟨rfl, rfl⟩ := hs
 have T := hr.newO hE (K := 0) (b0 := { e := 0, n := 0, c := .e, g := some (.mp []) }) (ob := .map #[] 0) (fun m' _ => .inr (.inl ⟨rfl, [], #[], 0, rfl, rfl, rfl, by simp⟩)) st.lw st.lp
 refine ⟨rfl, .map (some w.heap.size), w.alloc (.map #[] 0), m ++ [some (w.heap.size, 0)], .inl ?_, .mp _ _ 0 (by rw [← hr.len]; simp), T⟩
 simp [execOp, ho, Instr.makeMap, Result.andThen]
theorem qkl {P : Program} {w : World} {t kt et : TypeId} {r : Nat} {k zv : Value} {es : Array MapEntry} {clock : Nat} (hu : P.underlying t = some (.map kt et)) (hd : P.underlying kt = some .string) (hb : w.heap[r]? = some (.map es clock)) (hk : MapKept.IsKey .string k)
  (h : Instr.findNow .string k es.toList 0 = some none) (hz : (zeroValue et).run P w = .ok zv w) (ok : Bool) : (Instr.lookup t (.map (some r)) k ok).run P w = .ok (if ok then .tuple #[zv, .bool false] else zv) w := by
 unfold Instr.lookup
 simp only [Sem.run_bind, run_underlying hu, Result.andThen, MapKept.run_getObj_map hb, Sem.run_pure, MapKept.run_checkKey hd hk, MapKept.run_findKey hd h, hz]
theorem qkk {P : Program} {w : World} {t kt et : TypeId} {r j : Nat} {k u : Value} {es : Array MapEntry} {clock : Nat} (hu : P.underlying t = some (.map kt et)) (hd : P.underlying kt = some .string) (hb : w.heap[r]? = some (.map es clock)) (hk : MapKept.IsKey .string k)
  (h : Instr.findNow .string k es.toList 0 = some (some (j, u))) (ok : Bool) : (Instr.lookup t (.map (some r)) k ok).run P w = .ok (if ok then .tuple #[u, .bool true] else u) w := by
 unfold Instr.lookup
 simp only [Sem.run_bind, run_underlying hu, Result.andThen, MapKept.run_getObj_map hb, Sem.run_pure, MapKept.run_checkKey hd hk, MapKept.run_findKey hd h]
theorem czv_sound {e : TypeId} {z : AVal} (h : czv E.P e = some z) : ∃ i zv, E.P.info? e = some i ∧ i.zero = some zv ∧ ∀ (rl : Rl) (m : M), VR rl m z zv := by
 unfold czv at h
 split at h
 ·rename_i i hi
  split at h
  ·rename_i zv hz
   exact ⟨i, zv, hi, hz, fun rl m => qiv h rl m⟩
  ·cases h
 ·cases h
theorem stp_mlk {t kt et : TypeId} {x k : Operand} {x' k' : AOpd} {z : AVal} {ok : Bool} (hr : HR E m st.h w) (ho : o.op = .lookup t x k ok) (hu : E.P.underlying t = some (.map kt et)) (hk : E.P.underlying kt = some .string) (hz : czv E.P et = some z)
  (hx : copd x = some x') (hkk : copd k = some k') (ht : TRk E.rl m st.t a (opdT x' ++ opdT k')) (hs : stepK E.ro st (.mlk ok z x' k') = some (v, st')) : Stp E o a m st w v st' := by
 have rx := qak hx (rl := E.rl) (m := m) (t := st.t) (a := a) (ht.mem fun n hn => by simp [hn])
 have ry := qak hkk (rl := E.rl) (m := m) (t := st.t) (a := a) (ht.mem fun n hn => by simp [hn])
 simp only [stepK, st_mlk] at hs
 split at hs
 ·rename_i b ex
  split at hs
  ·rename_i blk hb
   split at hs
   ·rename_i L hg
    split at hs
    ·rename_i s ek
     simp only [Option.some.injEq, Prod.mk.injEq] at hs
     obtain ⟨rfl, rfl⟩ := hs
     rw [ex] at rx
     rw [ek] at ry
     obtain ⟨r, K, e1, hm⟩ := rx.inv_mp
     have e2 := ry.inv_s
     rw [qbk] at hb
     obtain ⟨-, hbk⟩ := hr.blk b blk r K ⟨hb, hm⟩
     rcases hbk with ⟨h0, -⟩ | ⟨-, L', es, clock, hg', ho', hmr⟩ | ⟨-, L', _, _, _, hg', -⟩ | ⟨-, s', _, hg', -⟩ | ⟨-, s', _, _, _, hg', -⟩
     ·rw [h0] at hg; cases hg
     rotate_left
     ·rw [hg] at hg'; cases hg'
     ·rw [hg] at hg'; cases hg'
     ·rw [hg] at hg'; cases hg'
     ·rw [hg] at hg'
      cases hg'
      obtain ⟨i, zv, hi, hz0, hzr⟩ := czv_sound hz
      have hkey : MapKept.IsKey .string (.string ⟨s.toArray⟩) := trivial
      have hzrun := qfj (P := E.P) hi hz0 w
      rcases qgt 0 hmr with ⟨g1, g2⟩ | ⟨u, j, y, g1, g2, -, -, g5, g6⟩
      ·refine ⟨rfl, if ok then .tuple #[zv, .bool false] else zv, w, m, .inl ?_, ?_, Tn.refl hr _ _⟩
       ·simp [execOp, ho, e1, e2, qkl hu hk ho' hkey g2 hzrun ok]
       ·rw [g1]
        cases ok with
        | false => exact hzr _ _
        | true =>
         refine .tup _ _ rfl fun i u hu => ?_
         match i with
         | 0 => simp at hu; subst hu; exact hzr _ _
         | 1 => simp at hu; subst hu; exact .b _
         | i + 2 => simp at hu
      ·have g6' : VR E.rl m u y.val := g6.mono fun i x hx => by simp at hx
       refine ⟨rfl, if ok then .tuple #[y.val, .bool true] else y.val, w, m, .inl ?_, ?_, Tn.refl hr _ _⟩
       ·simp [execOp, ho, e1, e2, qkk hu hk ho' hkey g2 ok]
       ·rw [g1]
        cases ok with
        | false => exact g6'
        | true =>
         refine .tup _ _ rfl fun i u hu => ?_
         match i with
         | 0 => simp at hu; subst hu; exact g6'
         | 1 => simp at hu; subst hu; exact .b _
         | i + 2 => simp at hu
    ·cases hs
   ·cases hs
  ·cases hs
 ·cases hs
theorem stp_mln {t kt et : TypeId} {x : Operand} {x' : AOpd} (hr : HR E m st.h w) (ho : o.op = .call { callee := .builtin .len, args := #[x], argTypes := #[t] }) (hu : E.P.underlying t = some (.map kt et))
  (hx : copd x = some x') (ht : TRk E.rl m st.t a (opdT x')) (hs : stepK E.ro st (.mln x') = some (v, st')) : Stp E o a m st w v st' := by
 have rx := qak hx (rl := E.rl) (m := m) (t := st.t) (a := a) (ht.mem fun n hn => by simp [hn])
 simp only [stepK, st_mln] at hs
 split at hs
 ·rename_i b ex
  split at hs
  ·rename_i blk hb
   split at hs
   ·rename_i L hg
    simp only [Option.some.injEq, Prod.mk.injEq] at hs
    obtain ⟨rfl, rfl⟩ := hs
    rw [ex] at rx
    obtain ⟨r, K, e1, hm⟩ := rx.inv_mp
    rw [qbk] at hb
    obtain ⟨-, hbk⟩ := hr.blk b blk r K ⟨hb, hm⟩
    rcases hbk with ⟨h0, -⟩ | ⟨-, L', es, clock, hg', ho', hmr⟩ | ⟨-, L', _, _, _, hg', -⟩ | ⟨-, s', _, hg', -⟩ | ⟨-, s', _, _, _, hg', -⟩
    ·rw [h0] at hg; cases hg
    rotate_left
    ·rw [hg] at hg'; cases hg'
    ·rw [hg] at hg'; cases hg'
    ·rw [hg] at hg'; cases hg'
    ·rw [hg] at hg'
     cases hg'
     refine ⟨rfl, .int .i64 (es.size : Int), w, m, .inl ?_, ?_, Tn.refl hr _ _⟩
     ·have hgo := MapKept.run_getObj_map (P := E.P) ho'
      simp [execOp, ho, resolve, invoke, builtin, Builtin.len_, qay hu, e1, hgo, Result.andThen, goInt]
     ·have hl : L.length = es.size := by simpa using hmr.1
      rw [hl, qbu]
      exact .i _ _
   ·cases hs
  ·cases hs
 ·cases hs
theorem vr_flat {rl : Rl} {m m' : M} {v : AVal} {v' : Value} (hs : v.scalar = true) (h : VR rl m v v') : VR rl m' v v' := by
 cases h <;> first | (simp [AVal.scalar] at hs; done) | constructor
theorem stp_mup {t kt et : TypeId} {x k u : Operand} {x' k' u' : AOpd} (hr : HR E m st.h w) (ho : o.op = .mapUpdate t x k u) (hu : E.P.underlying t = some (.map kt et)) (hk : E.P.underlying kt = some .string)
  (hx : copd x = some x') (hkk : copd k = some k') (huu : copd u = some u') (ht : TRk E.rl m st.t a (opdT x' ++ opdT k' ++ opdT u')) (hs : stepK E.ro st (.mup x' k' u') = some (v, st')) : Stp E o a m st w v st' := by
 have rx := qak hx (rl := E.rl) (m := m) (t := st.t) (a := a) (ht.mem fun n hn => by simp [hn])
 have ry := qak hkk (rl := E.rl) (m := m) (t := st.t) (a := a) (ht.mem fun n hn => by simp [hn])
 have rz := qak huu (rl := E.rl) (m := m) (t := st.t) (a := a) (ht.mem fun n hn => by simp [hn])
 simp only [stepK, st_mup] at hs
 split at hs
 ·rename_i b ex
  split at hs
  ·rename_i blk hb
   split at hs
   ·rename_i L hg
    split at hs
    ·rename_i s ek
     cases hsc : (opd st.t u').scalar
     ·rw [hsc] at hs; cases hs
     rw [hsc] at hs
     simp only [cond_true, Option.some.injEq, Prod.mk.injEq] at hs
     obtain ⟨rfl, rfl⟩ := hs
     rw [ex] at rx
     rw [ek] at ry
     obtain ⟨r, K, e1, hm⟩ := rx.inv_mp
     have e2 := ry.inv_s
     rw [qbk] at hb
     have live : Live m st.h b blk r K := ⟨hb, hm⟩
     obtain ⟨-, hbk⟩ := hr.blk b blk r K live
     rcases hbk with ⟨h0, -⟩ | ⟨hn0, L', es, clock, hg', ho', hmr⟩ | ⟨-, L', _, _, _, hg', -⟩ | ⟨-, s', _, hg', -⟩ | ⟨-, s', _, _, _, hg', -⟩
     ·rw [h0] at hg; cases hg
     rotate_left
     ·rw [hg] at hg'; cases hg'
     ·rw [hg] at hg'; cases hg'
     ·rw [hg] at hg'; cases hg'
     ·rw [hg] at hg'
      cases hg'
      have hkey : MapKept.IsKey .string (.string ⟨s.toArray⟩) := trivial
      have rz0 : VR E.rl [] (opd st.t u') (a.eval u) := vr_flat hsc rz
      have hks := hmr.keys
      rw [qby]
      rcases qgt 0 hmr with ⟨g1, g2⟩ | ⟨u0, j, y, g1, g2, g3, g4, -, -⟩
      ·have hR : MapR E.rl (mput L s (opd st.t u')) (es.push { key := .string ⟨s.toArray⟩, val := a.eval u, born := clock }).toList := by
        rw [Array.toList_push]
        exact put_new rfl hsc rz0 hmr g1
       have T := hr.setO live (b' := { blk with g := some (.mp (mput L s (opd st.t u'))) }) (ob := .map (es.push { key := .string ⟨s.toArray⟩, val := a.eval u, born := clock }) (clock + 1)) rfl (.inr (.inl ⟨hn0, _, _, _, rfl, rfl, hR⟩)) rfl rfl hn0 (by simp [ABlk.fix, hg]) st.lw st.lp
       refine ⟨rfl, undef, _, m, .inr ⟨?_, rfl⟩, VR.und _ _, T⟩
       simp [execOp, ho, e1, e2, Instr.mapUpdate, run_underlying hu, MapKept.run_getObj_map ho', MapKept.run_checkKey hk hkey, MapKept.run_findKey hk g2, MapKept.run_setObj_map _ ho', Result.andThen]
      ·rw [Nat.zero_add] at g2
       have g3' : es[j]? = some y := by simpa using g3
       have hR : MapR E.rl (mput L s (opd st.t u')) (es.modify j fun e => { e with key := .string ⟨s.toArray⟩, val := a.eval u }).toList := by
        rw [Array.toList_modify]
        exact put_old (i := 0) (x := y) hsc (fun x => ⟨rfl, rz0⟩) hmr (by rw [Nat.zero_add]; exact g2)
       have T := hr.setO live (b' := { blk with g := some (.mp (mput L s (opd st.t u'))) }) (ob := .map (es.modify j fun e => { e with key := .string ⟨s.toArray⟩, val := a.eval u }) clock) rfl (.inr (.inl ⟨hn0, _, _, _, rfl, rfl, hR⟩)) rfl rfl hn0 (by simp [ABlk.fix, hg]) st.lw st.lp
       refine ⟨rfl, undef, _, m, .inr ⟨?_, rfl⟩, VR.und _ _, T⟩
       simp [execOp, ho, e1, e2, Instr.mapUpdate, run_underlying hu, MapKept.run_getObj_map ho', MapKept.run_checkKey hk hkey, MapKept.run_findKey hk g2, g3', g4, MapKept.run_keyThatStays hkey, MapKept.run_setObj_map _ ho', Result.andThen]
    ·cases hs
   ·cases hs
  ·cases hs
 ·cases hs
theorem stp_rgs {t : TypeId} {x : Operand} {x' : AOpd} (hE : E.Ok) (hr : HR E m st.h w) (ho : o.op = .range t x) (hu : E.P.underlying t = some .string) (hx : copd x = some x') (ht : TRk E.rl m st.t a (opdT x')) (hs : stepK E.ro st (.rgs x') = some (v, st')) : Stp E o a m st w v st' := by
 have rx := qak hx (rl := E.rl) (m := m) (t := st.t) (a := a) (ht.mem fun n hn => by simp [hn])
 simp only [stepK, st_rgs] at hs
 split at hs
 ·rename_i s ex
  simp only [Option.some.injEq, Prod.mk.injEq] at hs
  obtain ⟨rfl, rfl⟩ := hs
  rw [ex] at rx
  have e1 := rx.inv_s
  have T := hr.newO hE (K := 0) (b0 := { e := 0, n := 0, c := .e, g := some (.it s 0) }) (ob := .stringIter ⟨s.toArray⟩ 0) (fun m' _ => .inr (.inr (.inr (.inl ⟨rfl, s, 0, rfl, rfl⟩)))) st.lw st.lp
  refine ⟨rfl, .pointer (some ⟨w.heap.size, 0, none⟩), w.alloc (.stringIter ⟨s.toArray⟩ 0), m ++ [some (w.heap.size, 0)], .inl ?_, .p _ _ (by simp [addr, ← hr.len]), T⟩
  simp [execOp, ho, e1, Instr.range, run_underlying hu, Result.andThen]
 ·cases hs
theorem stp_nxs {x : Operand} {x' : AOpd} (hr : HR E m st.h w) (ho : o.op = .next x true) (hx : copd x = some x') (ht : TRk E.rl m st.t a (opdT x')) (hs : stepK E.ro st (.nxs x') = some (v, st')) : Stp E o a m st w v st' := by
 have rx := qak hx (rl := E.rl) (m := m) (t := st.t) (a := a) (ht.mem fun n hn => by simp [hn])
 simp only [stepK, st_nxs] at hs
 split at hs
 ·rename_i b ex
  split at hs
  ·rename_i blk hb
   split at hs
   ·rename_i s pos hg
    rw [ex] at rx
    obtain ⟨ad, e1, hm⟩ : ∃ ad, a.eval x = .pointer (some ad) ∧ addr E.rl m ⟨false, b, 0⟩ = some ad := by
     generalize a.eval x = y at rx
     cases rx with
     | p _ ad h => exact ⟨ad, rfl, h⟩
    obtain ⟨r, K, hmb, rfl⟩ : ∃ r K, m[b]? = some (some (r, K)) ∧ ad = ⟨r, 0, none⟩ := by
     simp only [addr, Bool.false_eq_true, if_false] at hm
     split at hm
     ·rename_i y hy
      cases hm
      exact ⟨y.1, y.2, hy, rfl⟩
     ·cases hm
    rw [qbk] at hb
    have live : Live m st.h b blk r K := ⟨hb, hmb⟩
    obtain ⟨-, hbk⟩ := hr.blk b blk r K live
    obtain ⟨hn0, hob⟩ : blk.n = 0 ∧ w.heap[r]? = some (.stringIter ⟨s.toArray⟩ pos) := by
     rcases hbk with ⟨h0, -⟩ | ⟨-, L', es, clock, hg', -⟩ | ⟨-, L', _, _, _, hg', -⟩ | ⟨hn0, s', pos', hg', ho'⟩ | ⟨-, s', _, _, _, hg', -⟩
     ·rw [h0] at hg; cases hg
     ·rw [hg] at hg'; cases hg'
     ·rw [hg] at hg'; cases hg'
     ·rw [hg] at hg'; cases hg'; exact ⟨hn0, ho'⟩
     ·rw [hg] at hg'; cases hg'
    have hget : (getObj r).run E.P w = .ok (.stringIter ⟨s.toArray⟩ pos) w := by simp [getObj, Sem.run_bind, Sem.run, Result.andThen, hob]
    have hset : ∀ ob, (setObj r ob).run E.P w = .ok () { w with heap := w.heap.setIfInBounds r ob } := fun ob => by simp [setObj, Sem.run_bind, Sem.run, Result.andThen, hob]
    cases hlt : Nat.blt pos s.length
    ·rw [hlt] at hs
     simp only [cond_false, Option.some.injEq, Prod.mk.injEq] at hs
     obtain ⟨rfl, rfl⟩ := hs
     have hp : ¬ pos < s.length := by rw [← Nat.blt_eq, hlt]; decide
     refine ⟨rfl, .tuple #[.bool false], w, m, .inl ?_, ?_, Tn.refl hr _ _⟩
     ·have : ¬ pos < (ByteArray.mk s.toArray).size := by simpa [ByteArray.size] using hp
      simp [execOp, ho, e1, Instr.next, hget, Result.andThen, this]
     ·refine .tup _ _ rfl fun i u hu => ?_
      match i with
      | 0 => simp at hu; subst hu; exact .b _
      | i + 1 => simp at hu
    ·rw [hlt] at hs
     simp only [cond_true, Option.some.injEq, Prod.mk.injEq] at hs
     obtain ⟨rfl, rfl⟩ := hs
     have hp : pos < s.length := by rw [← Nat.blt_eq, hlt]
     rw [qby]
     have T := hr.setO live (b' := { blk with g := some (.it s (pos + (decL s pos).2)) }) (ob := .stringIter ⟨s.toArray⟩ (pos + (decL s pos).2)) rfl (.inr (.inr (.inr (.inl ⟨hn0, s, _, rfl, rfl⟩)))) rfl rfl hn0 (by simp [ABlk.fix, hg]) st.lw st.lp
     refine ⟨rfl, .tuple #[.bool true, goInt pos, .int .i32 ((decL s pos).1 : Int)], _, m, .inl ?_, ?_, T⟩
     ·have : pos < (ByteArray.mk s.toArray).size := by simpa [ByteArray.size] using hp
      simp [execOp, ho, e1, Instr.next, hget, hset, Result.andThen, this, decL]
     ·refine .tup _ _ rfl fun i u hu => ?_
      match i with
      | 0 => simp at hu; subst hu; exact .b _
      | 1 => simp at hu; subst hu; rw [qbu]; exact .i _ _
      | 2 => simp at hu; subst hu; exact .i _ _
      | i + 3 => simp at hu
   ·cases hs
  ·cases hs
 ·cases hs
theorem qhw (l : List UInt8) (cap j : Nat) (hj : j < l.length) : (bytesRow ⟨l.toArray⟩ cap).getD j undef = .int .u8 ((l.getD j 0).toNat : Int) := by
 have h1 : j < (bytesRow ⟨l.toArray⟩ cap).size := by simp [bytesRow]; omega
 rw [Array.getD_eq_getD_getElem?, Array.getElem?_eq_getElem h1]
 simp [bytesRow, Array.getElem_append, hj, List.getD]
theorem stp_stb {src dst e : TypeId} {x : Operand} {x' : AOpd} (hE : E.Ok) (hr : HR E m st.h w) (ho : o.op = .convert src dst x) (hsz1 : csize E.P e = some 1) (hs1 : E.P.underlying src = some .string) (hd : E.P.underlying dst = some (.slice e)) (he : E.P.underlying e = some (.int .u8)) (hx : copd x = some x') (ht : TRk E.rl m st.t a (opdT x')) (hs : stepK E.ro st (.stb e x') = some (v, st')) : Stp E o a m st w v st' := by
 have rx := qak hx (rl := E.rl) (m := m) (t := st.t) (a := a) (ht.mem fun n hn => by simp [hn])
 simp only [stepK, st_stb] at hs
 split at hs
 ·rename_i c0 s0 ex
  simp only [Option.some.injEq, Prod.mk.injEq] at hs
  obtain ⟨rfl, rfl⟩ := hs
  rw [ex] at rx
  have e1 := rx.inv_s
  obtain ⟨s, hs⟩ : ∃ s, s = c0 :: s0 := ⟨_, rfl⟩
  have hsl : s.length = s0.length + 1 := by rw [hs]; rfl
  rw [← hs] at e1
  have hrun := run_bytes_of_string (P := E.P) w src dst e ⟨s.toArray⟩ hs1 hd he
  generalize hcp : grownCap w (ByteArray.mk s.toArray).size 0 e = cp at hrun
  have hsz : (ByteArray.mk s.toArray).size = s.length := by simp [ByteArray.size]
  have hle : s.length ≤ cp := by rw [← hcp, ← hsz]; simpa using grownCap_ge w (ByteArray.mk s.toArray).size 0 e
  have hbs : (bytesRow ⟨s.toArray⟩ cp).size = cp := by simp [bytesRow, hsz]; omega
  have T1 := Tn.drew hr st.lw st.lp
  have T2 := hr.drew.newO hE (K := cp) (b0 := blkOf e (s.map byteA)) (ob := .cells (bytesRow ⟨s.toArray⟩ cp) e ((bytesRow ⟨s.toArray⟩ cp).size, (bytesRow ⟨s.toArray⟩ cp).size + 1))
   (fun m' _ => .inl ⟨rfl, _, _, rfl, .inr rfl, by
    show (bytesRow ⟨s.toArray⟩ cp).size = cp * E.P.cellsOf e
    rw [hbs, qcl hsz1, Nat.mul_one], by rw [hbs]; simpa [blkOf] using hle, fun j hj => by
    have hj' : j < s.length := by simpa [blkOf] using hj
    show VR E.rl m' ((Tr.mk (s.map byteA)).get j) _
    rw [qjk, qhw s cp j hj']
    have : (s.map byteA).getD j und = .i .u8 ((s.getD j 0).toNat : Int) := by simp [hj', byteA, qbu]
    rw [this]
    exact .i _ _⟩) st.lw st.lp
  rw [← hs]
  refine ⟨rfl, .slice (some ⟨w.heap.size, 0, none⟩) s.length cp, _, m ++ [some (w.heap.size, cp)], .inl ?_, ?_, Tn.trans hr T1 T2⟩
  ·rw [hsz] at hrun
   simp [execOp, ho, e1, hrun, Result.andThen]
  ·rw [← hsl]
   exact .slg _ _ _ _ (by simp [← hr.len]) hle
 ·rename_i s hne ex
  simp only [Option.some.injEq, Prod.mk.injEq] at hs
  obtain ⟨rfl, rfl⟩ := hs
  rw [ex] at rx
  have e1 := rx.inv_s
  have hrun := run_bytes_of_string (P := E.P) w src dst e ⟨s.toArray⟩ hs1 hd he
  generalize hcp : grownCap w (ByteArray.mk s.toArray).size 0 e = cp at hrun
  have hsz : (ByteArray.mk s.toArray).size = s.length := by simp [ByteArray.size]
  have hle : s.length ≤ cp := by rw [← hcp, ← hsz]; simpa using grownCap_ge w (ByteArray.mk s.toArray).size 0 e
  have hbs : (bytesRow ⟨s.toArray⟩ cp).size = cp := by simp [bytesRow, hsz]; omega
  have T1 := Tn.drew hr st.lw st.lp
  have T2 := hr.drew.newO hE (K := 0) (b0 := { e := 0, n := 0, c := .e, g := some (.fz s) }) (ob := .cells (bytesRow ⟨s.toArray⟩ cp) e ((bytesRow ⟨s.toArray⟩ cp).size, (bytesRow ⟨s.toArray⟩ cp).size + 1))
   (fun m' _ => .inr (.inr (.inr (.inr ⟨rfl, s, _, _, _, rfl, rfl, by simp, by rw [hbs]; exact hle, fun j hj => qhw s cp j hj⟩)))) st.lw st.lp
  refine ⟨rfl, .slice (some ⟨w.heap.size, 0, none⟩) s.length cp, _, m ++ [some (w.heap.size, 0)], .inl ?_, .sla _ _ _ _ (by simp [addr, ← hr.len]) hle, Tn.trans hr T1 T2⟩
  rw [hsz] at hrun
  simp [execOp, ho, e1, hrun, Result.andThen]
 ·cases hs
theorem bytesA_each {rl : Rl} : ∀ {cs : List AVal} {l : List UInt8}, qdz cs = some l → l.length = cs.length ∧ ∀ j, j < l.length → ∃ u, cs[j]? = some u ∧ ∀ v', VR rl m u v' → v' = .int .u8 ((l.getD j 0).toNat : Int)
 | [], l, h => by
  simp only [qdz, Option.some.injEq] at h
  subst h
  exact ⟨rfl, fun j hj => by simp at hj⟩
 | c :: cs, l, h => by
  unfold qdz at h
  split at h
  ·cases ‹_ :: _ = []›
  ·rename_i n l2 e
   cases e
   split at h
   ·rename_i j
    cases hc : Nat.blt j 256
    ·rw [hc] at h; cases h
    ·rw [hc] at h
     simp only [cond_true, Option.map_eq_some_iff] at h
     obtain ⟨l', hl, rfl⟩ := h
     obtain ⟨h1, h2⟩ := bytesA_each (rl := rl) hl
     rw [Nat.blt_eq] at hc
     refine ⟨by simp [h1], fun i hi => ?_⟩
     cases i with
     | zero =>
      refine ⟨_, rfl, fun v' hv => ?_⟩
      rw [hv.inv_i]
      simp [UInt8.toNat_ofNat', Nat.mod_eq_of_lt hc]
     | succ i =>
      obtain ⟨u, h3, h4⟩ := h2 i (by simpa using hi)
      exact ⟨u, by simpa using h3, fun v' hv => by simpa using h4 v' hv⟩
   ·cases h
  ·cases h
theorem stp_mks {src dst e : TypeId} {x : Operand} {x' : AOpd} (hE : E.Ok) (hr : HR E m st.h w) (ho : o.op = .convert src src x) (hs1 : E.P.underlying src = some (.slice e)) (he : E.P.underlying e = some (.int .u8)) (hx : copd x = some x') (ht : TRk E.rl m st.t a (opdT x')) (hs : stepK E.ro st (.mks x') = some (v, st')) : Stp E o a m st w v st' := by
 have rx := qak hx (rl := E.rl) (m := m) (t := st.t) (a := a) (ht.mem fun n hn => by simp [hn])
 simp only [stepK, st_mks] at hs
 split at hs
 ·rename_i b n cp ex
  split at hs
  ·rename_i blk hb
   split at hs
   ·rename_i hg
    split at hs
    ·rename_i l hl
     cases hc : (Nat.blt 0 n && Nat.ble n blk.n)
     ·rw [hc] at hs; cases hs
     rw [hc] at hs
     simp only [cond_true, Option.some.injEq, Prod.mk.injEq] at hs
     obtain ⟨hv, rfl⟩ := hs
     simp only [Bool.and_eq_true, Nat.blt_eq] at hc
     have hn0 := hc.1
     have hnb := Nat.le_of_ble_eq_true hc.2
     rw [ex] at rx hv
     subst hv
     obtain ⟨p, c', e1, hp, -⟩ := rx.inv_sl
     obtain ⟨r, K, hmb, rfl⟩ : ∃ r K, m[b]? = some (some (r, K)) ∧ p = ⟨r, 0, none⟩ := by
      simp only [addr, Bool.false_eq_true, if_false] at hp
      split at hp
      ·rename_i y hy
       cases hp
       exact ⟨y.1, y.2, hy, rfl⟩
      ·cases hp
     rw [qbk] at hb
     have live : Live m st.h b blk r K := ⟨hb, hmb⟩
     obtain ⟨-, hbk⟩ := hr.blk b blk r K live
     obtain ⟨c, fr, hob, hfr, hcs, hcn, hcv⟩ := hbk.cells (by omega)
     have hlen : n ≤ c.size := by omega
     obtain ⟨hl1, hl2⟩ := bytesA_each (m := m) (rl := E.rl) hl
     rw [qci] at hl1
     rw [qby]
     have hfr : (w.freeze ⟨r, c.size, none⟩ 1) = { w with heap := w.heap.setIfInBounds r (.cells c blk.e (c.size, c.size + 1)) } := by
      unfold World.freeze
      rw [if_neg (by decide)]
      congr 1
      apply Array.ext
      ·simp
      ·intro i h1 h2
       simp only [Array.size_modify] at h1
       rw [Array.getElem_modify, Array.getElem_setIfInBounds h1]
       by_cases hir : r = i
       ·subst hir
        have : w.heap[r] = .cells c blk.e fr := by
         have := hob; rw [Array.getElem?_eq_getElem h1] at this; simpa using this
        rcases hfr with hfr | hfr
        ·simp [this, hfr]
        ·simp [this, hfr]
       ·simp [hir]
     have T := hr.setF live (b' := { e := blk.e, n := 0, c := .e, g := some (.fz l) }) (ob := .cells c blk.e (c.size, c.size + 1)) rfl (.inr (.inr (.inr (.inr ⟨rfl, l, c, blk.e, _, rfl, rfl, by simp, by omega, fun j hj => by
      obtain ⟨u, h3, h4⟩ := hl2 j hj
      rw [getElem?_row, if_pos (by omega)] at h3
      cases h3
      rw [Nat.zero_add] at h4
      exact h4 _ (hcv j (by omega))⟩)))) st.lw st.lp
     have hsh : w.shape? r = some (blk.e, c.size) := by simp [World.shape?, hob]
     refine ⟨rfl, .slice (some ⟨r, 0, none⟩) n c', _, m, .inl ?_, by rw [← e1]; exact rx, T⟩
     have hrun : (convert src src (.slice (some ⟨r, 0, none⟩) n c')).run E.P w = .ok (.slice (some ⟨r, 0, none⟩) n c') (w.freeze ⟨r, c.size, none⟩ 1) := by
      simp [convert, qay hs1, qay he, markStringish, hsh, Result.andThen]
     rw [hfr] at hrun
     simp [execOp, ho, e1, hrun, Result.andThen]
    ·cases hs
   ·cases hs
  ·cases hs
 ·cases hs
theorem find_cnt (fn : Func) (h : fn.name = "internal/bytealg.CountString") (h2 : fn.origin = "") : Extern.findNext fn = none := by
 unfold Extern.findNext
 simp only [h, h2]
 have h1 : Extern.allNextRows.lookup "internal/bytealg.CountString" = none := by rfl
 have h3 : Extern.allNextRows.lookup "" = none := by rfl
 rw [h1, h3]; rfl
theorem find_cnt2 (fn : Func) (h : fn.name = "internal/bytealg.CountString") : Extern.find fn = some Extern.BytealgCount.count := by
 unfold Extern.find
 simp only [h]
 have h1 : Extern.allGenericRows.lookup "internal/bytealg.CountString" = none := by rfl
 have h3 : Extern.allTypedRows.lookup "internal/bytealg.CountString" = none := by rfl
 have h4 : Extern.allRows.lookup "internal/bytealg.CountString" = some Extern.BytealgCount.count := by rfl
 rw [h1, h3, h4]; rfl
theorem stp_cnt {f : FuncId} {x y : Operand} {ts : Array TypeId} {x' y' : AOpd} (hr : HR E m st.h w) (ho : o.op = .call { callee := .value (.func f), args := #[x, y], argTypes := ts }) (hf : isCnt E.P f = true) (hx : copd x = some x') (hy : copd y = some y') (ht : TRk E.rl m st.t a (opdT x' ++ opdT y')) (hs : stepK E.ro st (.cnt x' y') = some (v, st')) : Stp E o a m st w v st' := by
 have rx := qak hx (rl := E.rl) (m := m) (t := st.t) (a := a) (ht.mem fun n hn => by simp [hn])
 have ry := qak hy (rl := E.rl) (m := m) (t := st.t) (a := a) (ht.mem fun n hn => by simp [hn])
 unfold isCnt at hf
 split at hf
 ·rename_i fn hfn
  simp only [Bool.and_eq_true, beq_iff_eq] at hf
  obtain ⟨hb, hname, horig⟩ := hf
  simp only [stepK, st_cnt] at hs
  split at hs
  ·rename_i l ex
   split at hs
   ·rename_i n ey
    split at hs
    ·rename_i c
     cases hc : Nat.blt c 256
     ·rw [hc] at hs; cases hs
     rw [hc] at hs
     simp only [cond_true, Option.some.injEq, Prod.mk.injEq] at hs
     obtain ⟨rfl, rfl⟩ := hs
     rw [ex] at rx
     rw [ey] at ry
     have e1 := rx.inv_s
     have e2 : a.eval y = .int .u8 (Int.ofNat c) := ry.inv_i
     have hcall := run_callFunc_extern (P := E.P) (f := f) (fn := fn) hfn (by rw [hname]; rfl) hb (find_cnt fn hname horig) (find_cnt2 fn hname) #[.string ⟨l.toArray⟩, .int .u8 (Int.ofNat c)] w
     rw [Lib.run_countString] at hcall
     have ef : a.eval (.func f) = .func (.func f) #[] #[] := rfl
     simp only [Result.andThen_ok] at hcall
     refine ⟨rfl, .int .i64 ((l.count (UInt8.ofNat c) : Nat) : Int), w, m, .inl ?_, ?_, Tn.refl hr _ _⟩
     ·simp only [execOp, ho, resolve, ef, Deferred.ofValue, invoke, List.map_toArray, List.map_cons, List.map_nil, e1, e2]
      simp only [Sem.run_bind, Sem.run_pure, Result.andThen_ok, Array.append_empty, Array.empty_append, hcall]
      rfl
     ·rw [qbu]; exact .i _ _
    ·cases hs
   ·cases hs
  ·cases hs
 ·cases hf
theorem qio : ∀ n, (jks n).length = n
 | 0 => rfl
 | n + 1 => by simp [jks, qio n]
theorem jks_get : ∀ (n i : Nat) (v : AVal), (jks n)[i]? = some v → v = .jk
 | 0, i, v, h => by simp [jks] at h
 | n + 1, 0, v, h => by simp [jks] at h; exact h.symm
 | n + 1, i + 1, v, h => jks_get n i v (by simpa [jks] using h)
theorem digits_int : ∀ (n t : Nat) (acc : Array Value), (∀ i, i < acc.size → ∃ k x, acc.getD i undef = .int k x) → ∀ i, i < (Extern.BytealgMakeNoZero.digits n t acc).size → ∃ k x, (Extern.BytealgMakeNoZero.digits n t acc).getD i undef = .int k x
 | 0, t, acc, h, i, hi => h i hi
 | n + 1, t, acc, h, i, hi => by
  unfold Extern.BytealgMakeNoZero.digits at hi ⊢
  refine digits_int n (t / 256) _ (fun j hj => ?_) i hi
  rcases Nat.lt_or_ge j acc.size with h1 | h1
  ·obtain ⟨k, x, h2⟩ := h j h1
   refine ⟨k, x, ?_⟩
   rw [Array.getD_eq_getD_getElem?] at h2 ⊢
   rw [Array.getElem?_push_lt h1]
   rw [Array.getElem?_eq_getElem h1] at h2
   exact h2
  ·have : j = acc.size := by simp at hj; omega
   subst this
   exact ⟨_, _, by rw [Array.getD_eq_getD_getElem?, Array.getElem?_push_size]; rfl⟩
theorem find_mnz (fn : Func) (h : fn.name = "internal/bytealg.MakeNoZero") (h2 : fn.origin = "") : Extern.findNext fn = none := by
 unfold Extern.findNext
 simp only [h, h2]
 have h1 : Extern.allNextRows.lookup "internal/bytealg.MakeNoZero" = none := by rfl
 have h3 : Extern.allNextRows.lookup "" = none := by rfl
 rw [h1, h3]; rfl
theorem find_mnz2 (fn : Func) (h : fn.name = "internal/bytealg.MakeNoZero") : Extern.find fn = some (Extern.BytealgMakeNoZero.makeNoZero fn.params fn.resultTypes) := by
 unfold Extern.find
 simp only [h]
 have h1 : Extern.allGenericRows.lookup "internal/bytealg.MakeNoZero" = none := by rfl
 have h3 : Extern.allTypedRows.lookup "internal/bytealg.MakeNoZero" = some Extern.BytealgMakeNoZero.makeNoZero := by rfl
 rw [h1, h3]; rfl
theorem run_mnz {P : Program} (w : World) (ps : Array TypeId) (t e : TypeId) (ht : P.underlying t = some (.slice e)) (n : Nat) (hn : n ≤ 281474976710656) :
  ∃ cs : Array Value, (Extern.BytealgMakeNoZero.makeNoZero ps #[t] #[.int .i64 n]).run P w = .ok (.slice (some ⟨w.heap.size, 0, none⟩) n cs.size) (w.drew.drew.alloc (.cells cs e)) ∧ n ≤ cs.size ∧ ∀ i, i < cs.size → ∃ k x, cs.getD i undef = .int k x := by
 have hdef : Extern.BytealgMakeNoZero.makeNoZero ps #[t] #[.int .i64 n] =
   (do
    let .slice elem ← underlying t | stuck "bytealg.MakeNoZero: slice type expected"
    if (n : Int) < 0 || (n : Int) > 2 ^ 48 then runtimePanic (.error "makeslice: len out of range")
    let cap ← choose (.appendCap (n : Int).toNat 0 elem)
    askRoom cap
    let bytes ← choose (.extern "internal/bytealg.MakeNoZero.bytes" 0)
    let a ← newRow elem (Extern.BytealgMakeNoZero.digits cap bytes #[])
    pure (.slice (some a) (n : Int).toNat cap)) := rfl
 refine ⟨Extern.BytealgMakeNoZero.digits (grownCap w n 0 e) ((Question.extern "internal/bytealg.MakeNoZero.bytes" 0).cut (w.tape (w.drawn + 1) (.extern "internal/bytealg.MakeNoZero.bytes" 0))) #[], ?_, ?_, ?_⟩
 ·rw [hdef]
  have h1 : ¬ (n : Int) < 0 := by omega
  have h2 : ¬ (281474976710656 : Int) < (n : Int) := by omega
  simp [run_underlying ht, h1, h2, Question.forced, newRow, Lib.size_digits, grownCap]
 ·rw [Lib.size_digits]
  simpa using grownCap_ge w n 0 e
 ·exact digits_int _ _ _ (fun i hi => by simp at hi)
theorem isMnz_inv {P : Program} {f e : Nat} (h : isMnz P f = some e) : ∃ fn t, P.funcs[f]? = some fn ∧ fn.body = none ∧ fn.name = "internal/bytealg.MakeNoZero" ∧ fn.origin = "" ∧ fn.resultTypes = #[t] ∧ P.underlying t = some (.slice e) ∧ csize P e = some 1 := by
 unfold isMnz at h
 split at h
 ·rename_i fn hf
  split at h
  ·cases h
  ·rename_i hb
   cases hc : (fn.name == "internal/bytealg.MakeNoZero" && fn.origin == "")
   ·rw [hc] at h; cases h
   rw [hc] at h
   simp only [cond_true] at h
   simp only [Bool.and_eq_true, beq_iff_eq] at hc
   split at h
   ·rename_i t ht
    split at h
    ·rename_i e' hu
     split at h
     ·rename_i hu8
      split at h
      ·rename_i s hs
       cases hb2 : Nat.beq s 1
       ·rw [hb2] at h; cases h
       rw [hb2] at h
       cases h
       have : s = 1 := Nat.eq_of_beq_eq_true hb2
       subst this
       exact ⟨fn, t, hf, hb, hc.1, hc.2, by rw [← Array.toArray_toList (xs := fn.resultTypes), ht], hu, hs⟩
      ·cases h
     ·cases h
    ·cases h
   ·cases h
 ·cases h
theorem stp_mnz {f : FuncId} {e : TypeId} {x : Operand} {ts : Array TypeId} {x' : AOpd} (hE : E.Ok) (hr : HR E m st.h w) (ho : o.op = .call { callee := .value (.func f), args := #[x], argTypes := ts }) (hf : isMnz E.P f = some e) (hx : copd x = some x') (ht : TRk E.rl m st.t a (opdT x')) (hs : stepK E.ro st (.mnz e x') = some (v, st')) : Stp E o a m st w v st' := by
 have rx := qak hx (rl := E.rl) (m := m) (t := st.t) (a := a) (ht.mem fun n hn => by simp [hn])
 obtain ⟨fn, t, hfn, hb, hname, horig, hres, hu, hsz⟩ := isMnz_inv hf
 simp only [stepK, st_mnz] at hs
 split at hs
 ·rename_i n ex
  cases hn : Nat.ble n 281474976710656
  ·rw [hn] at hs; cases hs
  rw [hn] at hs
  have hn := Nat.le_of_ble_eq_true hn
  simp only [cond_true, Option.some.injEq, Prod.mk.injEq] at hs
  obtain ⟨rfl, rfl⟩ := hs
  rw [ex] at rx
  have e1 : a.eval x = .int .i64 (n : Int) := rx.inv_i
  obtain ⟨cs, hrun, hle, hint⟩ := run_mnz (P := E.P) w fn.params t e hu n hn
  have T1 := Tn.drew hr st.lw st.lp
  have T2 := Tn.drew hr.drew st.lw st.lp
  have T3 := hr.drew.drew.newB hE (e := e) (K := cs.size) (cs := jks n) (cs' := cs) (.inr ⟨by rw [qio]; exact hle, fun i u hu => by
   have hlt : i < (jks n).length := (List.getElem?_eq_some_iff.1 hu).1
   rw [qio] at hlt
   rw [jks_get n i u hu]
   obtain ⟨k, y, hy⟩ := hint i (by omega)
   rw [hy]; exact .jk _ _⟩) (by rw [qcl hsz, Nat.mul_one]) st.lw st.lp
  refine ⟨rfl, .slice (some ⟨w.heap.size, 0, none⟩) n cs.size, _, m ++ [some (w.heap.size, cs.size)], .inl ?_, .slg _ _ _ _ (by rw [← hr.len]; simp) hle, Tn.trans hr T1 (Tn.trans hr.drew T2 T3)⟩
  have hcall := run_callFunc_extern (P := E.P) (f := f) (fn := fn) hfn (by rw [hname]; rfl) (by rw [hb]; rfl) (find_mnz fn hname horig) (find_mnz2 fn hname) #[.int .i64 (n : Int)] w
  rw [hres, hrun] at hcall
  have ef : a.eval (.func f) = .func (.func f) #[] #[] := rfl
  simp only [Result.andThen_ok] at hcall
  simp [execOp, ho, resolve, ef, Deferred.ofValue, invoke, e1, hcall]
 ·cases hs
end
end Go.Vm

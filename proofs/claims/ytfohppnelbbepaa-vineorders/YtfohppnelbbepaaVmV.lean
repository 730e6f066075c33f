/- Regions whose order is open: room for blocks to come, a block that comes, a call that leaves nothing. -/
import Derived.Test.YtfohppnelbbepaaVmT
namespace Go.Vm
open Go.RowKit
section
variable {E : Env} {m m1 : M} {h h1 : Heap} {w w1 w2 : World}
theorem Tn.anyL (T : Tn E m h h.length h.length w m1 h1 h.length h.length w1) (lw lp : Nat) : Tn E m h lw lp w m1 h1 lw lp w1 :=
 ⟨T.ext, T.hr, T.size, Nat.le_refl _, Nat.le_refl _, fun i _ hil => T.keepw i hil hil, fun i _ hil => T.keepp i hil hil, T.keepo, T.own⟩
theorem HR.pad (hr : HR E m h w) (k lw lp : Nat) : Tn E m h lw lp w (m ++ List.replicate k none) (h ++ List.replicate k none) lw lp w := by
 have back : ∀ i b r K, Live (m ++ List.replicate k none) (h ++ List.replicate k none) i b r K → Live m h i b r K ∧ i < h.length := by
  intro i b r K ⟨h1, h2⟩
  rcases Nat.lt_or_ge i h.length with hi | hi
  ·rw [List.getElem?_append_left hi] at h1
   rw [List.getElem?_append_left (by rw [hr.len]; exact hi)] at h2
   exact ⟨⟨h1, h2⟩, hi⟩
  ·rw [List.getElem?_append_right hi, List.getElem?_replicate] at h1
   split at h1 <;> simp at h1
 refine ⟨⟨_, rfl⟩, ⟨hr.below, by simp [hr.len], ?_, ?_, ?_⟩, Nat.le_refl _, Nat.le_refl _, Nat.le_refl _, ?_, ?_, fun _ _ _ => rfl, ?_⟩
 ·intro i b hb
  rcases Nat.lt_or_ge i h.length with hi | hi
  ·rw [List.getElem?_append_left hi] at hb
   obtain ⟨r, K, h0⟩ := hr.real i b hb
   exact ⟨r, K, Mle.app _ _ _ _ h0⟩
  ·rw [List.getElem?_append_right hi, List.getElem?_replicate] at hb
   split at hb <;> simp at hb
 ·intro i b r K hl
  obtain ⟨g0, gb⟩ := hr.blk i b r K (back _ _ _ _ hl).1
  exact ⟨g0, gb.mono (Mle.app _ _)⟩
 ·intro i j b b' r K K' h1 h2
  exact hr.inj _ _ _ _ _ _ _ (back _ _ _ _ h1).1 (back _ _ _ _ h2).1
 ·intro i _ hil
  exact ⟨List.getElem?_append_left hil, fun _ _ _ _ => rfl⟩
 ·intro i _ hil b' hb'
  rw [List.getElem?_append_left hil] at hb'
  exact ⟨b', hb', rfl, ⟨rfl, rfl⟩, fun _ _ => .inr rfl⟩
 ·intro i b r K hl _
  exact ⟨i, b, K, (back _ _ _ _ hl).1⟩
theorem Tn.fill (hE : E.Ok) (hr : HR E m h w) {lw lp : Nat} (T : Tn E m h lw lp w m1 h1 lw lp w1) {p e K : Nat} {z : List AVal} {cs : Array Value} (hp : h.length ≤ p) (hh : h1[p]? = some none) (hmp : m1[p]? = some none)
  (hl : LR E.rl [] z cs) (hk : cs.size = K * E.P.cellsOf e) :
  Mle m1 (m1.set p (some (w1.heap.size, K))) ∧ Tn E m h lw lp w (m1.set p (some (w1.heap.size, K))) (h1.set p (some (blkOf e z))) lw lp (w1.alloc (.cells cs e)) := by
 have hBs : E.B ≤ w1.heap.size := Nat.le_trans hE.hB T.hr.below.size
 have hph : p < h1.length := (List.getElem?_eq_some_iff.1 hh).1
 have hpm : p < m1.length := (List.getElem?_eq_some_iff.1 hmp).1
 have hold : ∀ r, r < w1.heap.size → (w1.alloc (.cells cs e)).heap[r]? = w1.heap[r]? := fun r h => Below.heap_alloc _ _ _ h
 have mle : Mle m1 (m1.set p (some (w1.heap.size, K))) := fun i x hx => by
  rw [List.getElem?_set]
  split
  ·rename_i e; subst e; rw [hmp] at hx; simp at hx
  ·exact hx
 have cases' : ∀ i b r K', Live (m1.set p (some (w1.heap.size, K))) (h1.set p (some (blkOf e z))) i b r K' → (i = p ∧ b = blkOf e z ∧ r = w1.heap.size ∧ K' = K) ∨ (i ≠ p ∧ Live m1 h1 i b r K') := by
  intro i b r K' ⟨g1, g2⟩
  by_cases hip : p = i
  ·subst hip
   rw [List.getElem?_set_self hph] at g1
   rw [List.getElem?_set_self hpm] at g2
   simp at g1 g2
   exact .inl ⟨rfl, g1.symm, g2.1.symm, g2.2.symm⟩
  ·rw [List.getElem?_set_ne hip] at g1
   rw [List.getElem?_set_ne hip] at g2
   exact .inr ⟨fun e => hip e.symm, g1, g2⟩
 refine ⟨mle, ?_, ⟨T.hr.below.alloc hBs _, by simp [T.hr.len], ?_, ?_, ?_⟩, Nat.le_trans T.size (by simp), Nat.le_refl _, Nat.le_refl _, ?_, ?_, ?_, ?_⟩
 ·obtain ⟨x, hx⟩ := T.ext
  subst hx
  exact ⟨x.set (p - m.length) (some (w1.heap.size, K)), List.set_append_right _ _ (by rw [hr.len]; exact hp)⟩
 ·intro i b hb
  by_cases hip : p = i
  ·subst hip
   exact ⟨w1.heap.size, K, List.getElem?_set_self hpm⟩
  ·rw [List.getElem?_set_ne hip] at hb
   obtain ⟨r, K', h0⟩ := T.hr.real i b hb
   exact ⟨r, K', mle _ _ h0⟩
 ·intro i b r K' hb
  rcases cases' _ _ _ _ hb with ⟨rfl, rfl, rfl, rfl⟩ | ⟨hne, hb⟩
  ·refine ⟨hBs, .inl ⟨rfl, cs, (0, 0), by show (w1.heap.push _)[w1.heap.size]? = _; rw [Array.getElem?_push_size]; rfl, .inl rfl, hk, by rw [← hl.1]; exact Nat.le_refl _, fun j hj => ?_⟩⟩
   have hj' : j < z.length := hj
   show VR E.rl _ ((Tr.mk z).get j) _
   rw [qjk]
   exact (hl.2 j (z.getD j und) (by simp [hj'])).mono fun i x hx => by simp at hx
  ·obtain ⟨g0, gb⟩ := T.hr.blk i b r K' hb
   exact ⟨g0, by rw [hold r (T.hr.lt hb)]; exact gb.mono mle⟩
 ·intro i j b b' r K1 K2 h1 h2
  rcases cases' _ _ _ _ h1 with ⟨e1, -, e2, -⟩ | ⟨-, k1⟩
  ·rcases cases' _ _ _ _ h2 with ⟨e3, -, -, -⟩ | ⟨-, k2⟩
   ·rw [e1, e3]
   ·have := T.hr.lt k2; omega
  ·rcases cases' _ _ _ _ h2 with ⟨-, -, e3, -⟩ | ⟨-, k2⟩
   ·have := T.hr.lt k1; omega
   ·exact T.hr.inj _ _ _ _ _ _ _ k1 k2
 ·intro i hi hil
  obtain ⟨k1, k2⟩ := T.keepw i hi hil
  refine ⟨by rw [List.getElem?_set_ne (by omega)]; exact k1, fun b r K' hb => ?_⟩
  have hlt := hr.lt hb
  rw [hold r (Nat.lt_of_lt_of_le hlt T.size)]
  exact k2 b r K' hb
 ·intro i hi hil b' hb'
  rw [List.getElem?_set_ne (by omega)] at hb'
  exact T.keepp i hi hil b' hb'
 ·intro r hrs hno
  rw [hold r (Nat.lt_of_lt_of_le hrs T.size)]
  exact T.keepo r hrs hno
 ·intro i b r K' hb hrs
  rcases cases' _ _ _ _ hb with ⟨-, -, rfl, -⟩ | ⟨-, hb⟩
  ·have := T.size; omega
  ·exact T.own i b r K' hb hrs
theorem HR.restrict (hr : HR E m h w) (T : Tn E m h h.length h.length w m1 h1 h.length h.length w1) : HR E m h w1 :=
 ⟨T.hr.below, hr.len, hr.real, fun i b r K hb => by
  obtain ⟨g0, gb⟩ := hr.blk i b r K hb
  exact ⟨g0, by rw [(T.keepw i hb.lt hb.lt).2 b r K hb]; exact gb⟩, hr.inj⟩
theorem Tn.call (hr : HR E m h w) (T : Tn E m h h.length h.length w m1 h1 h.length h.length w1) {m' : M} {h' : Heap} {lw' lp' : Nat} (T2 : Tn E m h h.length h.length w1 m' h' lw' lp' w2) (hlw : h.length ≤ lw') :
  Tn E m h h.length h.length w m1 h1 h.length h.length w2 := by
 have same : ∀ i b r K, Live m1 h1 i b r K → w2.heap[r]? = w1.heap[r]? := by
  intro i b r K hb
  rcases Nat.lt_or_ge i h.length with hi | hi
  ·have hb0 : Live m h i b r K := (Live.of_ext T.ext (by rw [hr.len]; exact hi) (T.keepw i hi hi).1).1 hb
   exact (T2.keepw i (by omega) hi).2 b r K hb0
  ·refine T2.keepo r (T.hr.lt hb) fun j b' K' hb' => ?_
   have hb1 : Live m1 h1 j b' r K' := (Live.of_ext T.ext (by rw [hr.len]; exact hb'.lt) (T.keepw j hb'.lt hb'.lt).1).2 hb'
   have := T.hr.inj _ _ _ _ _ _ _ hb1 hb
   have := hb'.lt
   omega
 refine ⟨T.ext, ⟨T2.hr.below, T.hr.len, T.hr.real, fun i b r K hb => ?_, T.hr.inj⟩, Nat.le_trans T.size T2.size, Nat.le_refl _, Nat.le_refl _, ?_, T.keepp, ?_, T.own⟩
 ·obtain ⟨g0, gb⟩ := T.hr.blk i b r K hb
  exact ⟨g0, by rw [same i b r K hb]; exact gb⟩
 ·intro i hi hil
  refine ⟨(T.keepw i hi hil).1, fun b r K hb => ?_⟩
  have hb1 : Live m1 h1 i b r K := (Live.of_ext T.ext (by rw [hr.len]; exact hil) (T.keepw i hi hil).1).2 hb
  rw [same i b r K hb1, (T.keepw i hi hil).2 b r K hb]
 ·intro r hrs hno
  rw [T2.keepo r (Nat.lt_of_lt_of_le hrs T.size) hno, T.keepo r hrs hno]
def mix {α : Type} (n c : Nat) (a b : List (Option α)) : List (Option α) :=
 (List.range a.length).map fun i => if n ≤ i ∧ i < n + c then (b[i]?).getD none else (a[i]?).getD none
theorem mix_len {α : Type} (n c : Nat) (a b : List (Option α)) : (mix n c a b).length = a.length := by simp [mix]
theorem mix_in {α : Type} {n c : Nat} {a b : List (Option α)} {i : Nat} (h1 : n ≤ i) (h2 : i < n + c) (hi : i < a.length) (hb : i < b.length) : (mix n c a b)[i]? = b[i]? := by
 have : b[i]? = some b[i] := List.getElem?_eq_getElem hb
 simp [mix, hi, h1, h2, this]
theorem qfr {α : Type} {n c : Nat} {a b : List (Option α)} {i : Nat} (h : ¬ (n ≤ i ∧ i < n + c)) : (mix n c a b)[i]? = a[i]? := by
 rcases Nat.lt_or_ge i a.length with hi | hi
 ·have : a[i]? = some a[i] := List.getElem?_eq_getElem hi
  rw [mix, List.getElem?_map, List.getElem?_range hi]
  simp only [Option.map_some, if_neg h, this, Option.getD_some]
 ·rw [List.getElem?_eq_none (by rw [mix_len]; exact hi), List.getElem?_eq_none hi]
theorem Tn.fillCall (hr : HR E m h w) {k c : Nat} (T : Tn E m h h.length h.length w m1 h1 h.length h.length w1) {m' : M} {h' : Heap} {lw' lp' : Nat}
  (T2 : Tn E (m ++ List.replicate k none) (h ++ List.replicate k none) (h.length + k) (h.length + k) w1 m' h' lw' lp' w2) (hlw : h.length + k ≤ lw') (hc : h'.length = h.length + k + c)
  (hh : ∀ p, h.length + k ≤ p → p < h.length + k + c → h1[p]? = some none ∧ m1[p]? = some none) :
  Mle m1 (mix (h.length + k) c m1 m') ∧ Mle m' (mix (h.length + k) c m1 m') ∧ Tn E m h h.length h.length w (mix (h.length + k) c m1 m') (mix (h.length + k) c h1 h') h.length h.length w2 := by
 obtain ⟨n, hn⟩ : ∃ n, n = h.length + k := ⟨_, rfl⟩
 rw [← hn] at hlw hc hh ⊢
 have hml := hr.len
 have hA : h.length ≤ n := by omega
 have hm'l : m'.length = h'.length := T2.hr.len
 have hm1l : m1.length = h1.length := T.hr.len
 have hrng : ∀ p, n ≤ p → p < n + c → p < h1.length := fun p k1 k2 => (List.getElem?_eq_some_iff.1 (hh p k1 k2).1).1
 have back : ∀ i b r K, Live (m ++ List.replicate k none) (h ++ List.replicate k none) i b r K → Live m h i b r K ∧ i < h.length := by
  intro i b r K ⟨k1, k2⟩
  rcases Nat.lt_or_ge i h.length with hi | hi
  ·rw [List.getElem?_append_left hi] at k1
   rw [List.getElem?_append_left (by rw [hml]; exact hi)] at k2
   exact ⟨⟨k1, k2⟩, hi⟩
  ·rw [List.getElem?_append_right hi, List.getElem?_replicate] at k1
   split at k1 <;> simp at k1
 have forth : ∀ i b r K, Live m h i b r K → Live (m ++ List.replicate k none) (h ++ List.replicate k none) i b r K := fun i b r K hb => by
  have hi := hb.lt
  obtain ⟨k1, k2⟩ := hb
  exact ⟨by rw [List.getElem?_append_left hi]; exact k1, by rw [List.getElem?_append_left (by rw [hml]; exact hi)]; exact k2⟩
 have live1 : ∀ i b r K, i < h.length → (Live m1 h1 i b r K ↔ Live m h i b r K) := fun i b r K hi => Live.of_ext T.ext (by rw [hml]; exact hi) (T.keepw i hi hi).1
 have same : ∀ i b r K, Live m1 h1 i b r K → w2.heap[r]? = w1.heap[r]? := by
  intro i b r K hb
  rcases Nat.lt_or_ge i h.length with hi | hi
  ·exact (T2.keepw i (by omega) (by simp; omega)).2 b r K (forth _ _ _ _ ((live1 i b r K hi).1 hb))
  ·refine T2.keepo r (T.hr.lt hb) fun j b' K' hb' => ?_
   obtain ⟨hb0, hj⟩ := back _ _ _ _ hb'
   have := T.hr.inj _ _ _ _ _ _ _ ((live1 j b' r K' hj).2 hb0) hb
   omega
 have mle1 : Mle m1 (mix n c m1 m') := fun i x hx => by
  by_cases hi : n ≤ i ∧ i < n + c
  ·rw [(hh i hi.1 hi.2).2] at hx; simp at hx
  ·rw [qfr hi]; exact hx
 have mle2 : Mle m' (mix n c m1 m') := fun i x hx => by
  have hil : i < m'.length := (List.getElem?_eq_some_iff.1 hx).1
  by_cases hi : n ≤ i ∧ i < n + c
  ·rw [mix_in hi.1 hi.2 (by rw [hm1l]; exact hrng i hi.1 hi.2) hil]; exact hx
  ·obtain ⟨y, hy⟩ := T2.ext
   rw [hy] at hx
   have hin : i < n := by omega
   rw [List.getElem?_append_left (by simp; omega)] at hx
   rcases Nat.lt_or_ge i m.length with h2 | h2
   ·rw [List.getElem?_append_left h2] at hx
    rw [qfr hi]
    exact T.mle i x hx
   ·rw [List.getElem?_append_right h2, List.getElem?_replicate] at hx
    split at hx <;> simp at hx
 have cases' : ∀ i b r K, Live (mix n c m1 m') (mix n c h1 h') i b r K → (n ≤ i ∧ i < n + c ∧ Live m' h' i b r K) ∨ (¬ (n ≤ i ∧ i < n + c) ∧ Live m1 h1 i b r K) := by
  intro i b r K ⟨k1, k2⟩
  by_cases hi : n ≤ i ∧ i < n + c
  ·rw [mix_in hi.1 hi.2 (hrng i hi.1 hi.2) (by omega)] at k1
   rw [mix_in hi.1 hi.2 (by rw [hm1l]; exact hrng i hi.1 hi.2) (by omega)] at k2
   exact .inl ⟨hi.1, hi.2, k1, k2⟩
  ·rw [qfr hi] at k1 k2
   exact .inr ⟨hi, k1, k2⟩
 have mixed : ∀ i j b b' r K K', n ≤ i → Live m' h' i b r K → ¬ (n ≤ j ∧ j < n + c) → Live m1 h1 j b' r K' → i = j := by
  intro i j b b' r K K' hi g1 hj g2
  exfalso
  obtain ⟨j', b2, K2, g3⟩ := T2.own i b r K g1 (T.hr.lt g2)
  obtain ⟨g4, hj'⟩ := back _ _ _ _ g3
  have g5 : Live m' h' j' b2 r K2 := (Live.of_ext T2.ext (by simp; omega) (T2.keepw j' (by omega) (by simp; omega)).1).2 g3
  have := T2.hr.inj _ _ _ _ _ _ _ g1 g5
  omega
 refine ⟨mle1, mle2, ?_, ⟨T2.hr.below, by rw [mix_len, mix_len]; exact hm1l, ?_, ?_, ?_⟩, Nat.le_trans T.size T2.size, Nat.le_refl _, Nat.le_refl _, ?_, ?_, ?_, ?_⟩
 ·obtain ⟨x, hx⟩ := T.ext
  refine ⟨(mix n c m1 m').drop m.length, ?_⟩
  have : (mix n c m1 m').take m.length = m := by
   refine List.ext_getElem? fun i => ?_
   rcases Nat.lt_or_ge i m.length with hi | hi
   ·rw [List.getElem?_take_of_lt hi, qfr (by omega), hx, List.getElem?_append_left hi]
   ·rw [List.getElem?_eq_none (by simp; omega), List.getElem?_eq_none hi]
  exact ((List.take_append_drop m.length _).symm.trans (by rw [this]))
 ·intro i b hb
  by_cases hi : n ≤ i ∧ i < n + c
  ·rw [mix_in hi.1 hi.2 (hrng i hi.1 hi.2) (by omega)] at hb
   obtain ⟨r, K, h0⟩ := T2.hr.real i b hb
   exact ⟨r, K, mle2 _ _ h0⟩
  ·rw [qfr hi] at hb
   obtain ⟨r, K, h0⟩ := T.hr.real i b hb
   exact ⟨r, K, mle1 _ _ h0⟩
 ·intro i b r K hb
  rcases cases' _ _ _ _ hb with ⟨-, -, hb⟩ | ⟨-, hb⟩
  ·obtain ⟨g0, gb⟩ := T2.hr.blk i b r K hb
   exact ⟨g0, gb.mono mle2⟩
  ·obtain ⟨g0, gb⟩ := T.hr.blk i b r K hb
   exact ⟨g0, by rw [same i b r K hb]; exact gb.mono mle1⟩
 ·intro i j b b' r K K' k1 k2
  rcases cases' _ _ _ _ k1 with ⟨i1, i2, g1⟩ | ⟨i1, g1⟩
  ·rcases cases' _ _ _ _ k2 with ⟨j1, j2, g2⟩ | ⟨j1, g2⟩
   ·exact T2.hr.inj _ _ _ _ _ _ _ g1 g2
   ·exact mixed i j b b' r K K' i1 g1 j1 g2
  ·rcases cases' _ _ _ _ k2 with ⟨j1, j2, g2⟩ | ⟨j1, g2⟩
   ·exact (mixed j i b' b r K' K j1 g2 i1 g1).symm
   ·exact T.hr.inj _ _ _ _ _ _ _ g1 g2
 ·intro i hi hil
  obtain ⟨k1, k2⟩ := T.keepw i hi hil
  refine ⟨by rw [qfr (by omega)]; exact k1, fun b r K hb => ?_⟩
  rw [same i b r K ((live1 i b r K hil).2 hb)]
  exact k2 b r K hb
 ·intro i hi hil b' hb'
  rw [qfr (by omega)] at hb'
  exact T.keepp i hi hil b' hb'
 ·intro r hrs hno
  rw [T2.keepo r (Nat.lt_of_lt_of_le hrs T.size) (fun i b K hb => hno i b K (back _ _ _ _ hb).1), T.keepo r hrs hno]
 ·intro i b r K hb hrs
  rcases cases' _ _ _ _ hb with ⟨-, -, hb⟩ | ⟨-, hb⟩
  ·obtain ⟨j, b', K', g⟩ := T2.own i b r K hb (Nat.lt_of_lt_of_le hrs T.size)
   exact ⟨j, b', K', (back _ _ _ _ g).1⟩
  ·exact T.own i b r K hb hrs
end
/- two values that look the same are the same -/
theorem intEq_eq {a b : Int} (h : intEq a b = true) : a = b := by
 cases a <;> cases b <;> simp [intEq] at h <;> simp [h]
theorem sameA_eq (x : AVal) : ∀ y, sameA x y = true → x = y := by
 refine AVal.rec (motive_1 := fun x => ∀ y, sameA x y = true → x = y) (motive_2 := fun l => ∀ l', qjd l l' = true → l = l') ?_ ?_ ?_ ?_ ?_ ?_ ?_ ?_ ?_ ?_ ?_ ?_ ?_ ?_ ?_ ?_ ?_ ?_ x
 ·intro x y h; cases y <;> simp [sameA] at h; subst h; rfl
 ·intro k n y h
  cases y <;> simp [sameA] at h
  obtain ⟨rfl, h2⟩ := h
  rw [intEq_eq h2]
 ·intro l y h; cases y <;> simp [sameA] at h
 ·intro q y h
  cases q with
  | none =>
   cases y with
   | p q => cases q with
    | none => rfl
    | some q => simp [sameA] at h
   | _ => simp [sameA] at h
  | some q =>
   cases y with
   | p q' => cases q' with
    | none => simp [sameA] at h
    | some q' => simp [sameA] at h; rw [h]
   | _ => simp [sameA] at h
 ·intro y h; cases y <;> simp [sameA] at h; rfl
 ·intro q n c y h
  cases y <;> simp [sameA] at h
  obtain ⟨⟨rfl, rfl⟩, rfl⟩ := h
  rfl
 ·intro f a c ha hc y h
  cases y <;> simp [sameA] at h
  obtain ⟨⟨rfl, h2⟩, h3⟩ := h
  rw [ha _ h2, hc _ h3]
 ·intro y h; cases y <;> simp [sameA] at h; rfl
 ·intro l hl y h
  cases y <;> simp [sameA] at h
  rw [hl _ h]
 ·intro l hl y h; cases y <;> simp [sameA] at h
 ·intro y h; cases y <;> simp [sameA] at h
 ·intro b y h; cases y <;> simp [sameA] at h
 ·intro b y h; cases y <;> simp [sameA] at h
 ·intro ty v _ y h; cases y <;> simp [sameA] at h
 ·intro nm v _ y h; cases y <;> simp [sameA] at h
 ·intro y h; cases y <;> simp [sameA] at h
 ·intro l' h; cases l' <;> simp [qjd] at h; rfl
 ·intro x l hx hl l' h
  cases l' with
  | nil => simp [qjd] at h
  | cons y l' =>
   simp [qjd] at h
   rw [hx _ h.1, hl _ h.2]
end Go.Vm

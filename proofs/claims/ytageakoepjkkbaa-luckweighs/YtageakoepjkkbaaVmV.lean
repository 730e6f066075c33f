/- Regions whose order is open: room for blocks to come, a block that comes, a call that leaves nothing. -/
import Derived.Test.YtageakoepjkkbaaVmT
namespace Go.Vm
open Go.RowKit

section
variable {E : Env} {m m1 : M} {h h1 : Heap} {w w1 w2 : World}

theorem Tn.anyL (T : Tn E m h h.length h.length w m1 h1 h.length h.length w1) (lw lp : Nat) : Tn E m h lw lp w m1 h1 lw lp w1 :=
  ⟨T.ext, T.hr, T.size, Nat.le_refl _, Nat.le_refl _, fun i _ hil => T.keepw i hil hil, fun i _ hil => T.keepp i hil hil, T.keepo, T.own⟩

/-- room for blocks to come -/
theorem HR.pad (hr : HR E m h w) (k lw lp : Nat) : Tn E m h lw lp w (m ++ List.replicate k none) (h ++ List.replicate k none) lw lp w := by
  have back : ∀ i b r K, Live (m ++ List.replicate k none) (h ++ List.replicate k none) i b r K → Live m h i b r K ∧ i < h.length := by
    intro i b r K ⟨h1, h2⟩
    rcases Nat.lt_or_ge i h.length with hi | hi
    · rw [List.getElem?_append_left hi] at h1
      rw [List.getElem?_append_left (by rw [hr.len]; exact hi)] at h2
      exact ⟨⟨h1, h2⟩, hi⟩
    · rw [List.getElem?_append_right hi, List.getElem?_replicate] at h1
      split at h1 <;> simp at h1
  refine ⟨⟨_, rfl⟩, ⟨hr.below, by simp [hr.len], ?_, ?_, ?_⟩, Nat.le_refl _, Nat.le_refl _, Nat.le_refl _, ?_, ?_, fun _ _ _ => rfl, ?_⟩
  · intro i b hb
    rcases Nat.lt_or_ge i h.length with hi | hi
    · rw [List.getElem?_append_left hi] at hb
      obtain ⟨r, K, h0⟩ := hr.real i b hb
      exact ⟨r, K, Mle.app _ _ _ _ h0⟩
    · rw [List.getElem?_append_right hi, List.getElem?_replicate] at hb
      split at hb <;> simp at hb
  · intro i b r K hl
    obtain ⟨g0, gb⟩ := hr.blk i b r K (back _ _ _ _ hl).1
    exact ⟨g0, gb.mono (Mle.app _ _)⟩
  · intro i j b b' r K K' h1 h2
    exact hr.inj _ _ _ _ _ _ _ (back _ _ _ _ h1).1 (back _ _ _ _ h2).1
  · intro i _ hil
    exact ⟨List.getElem?_append_left hil, fun _ _ _ _ => rfl⟩
  · intro i _ hil b' hb'
    rw [List.getElem?_append_left hil] at hb'
    exact ⟨b', hb', rfl, ⟨rfl, rfl⟩, fun _ _ => .inr rfl⟩
  · intro i b r K hl _
    exact ⟨i, b, K, (back _ _ _ _ hl).1⟩

/-- a block that comes -/
theorem Tn.fill (hE : E.Ok) (hr : HR E m h w) {lw lp : Nat} (T : Tn E m h lw lp w m1 h1 lw lp w1) {p e K : Nat} {z : List AVal} {cs : Array Value} (hp : h.length ≤ p) (hh : h1[p]? = some none) (hmp : m1[p]? = some none)
    (hl : LR E.rl [] z cs) (hk : cs.size = K * E.P.cellsOf e) :
    Mle m1 (m1.set p (some (w1.heap.size, K))) ∧ Tn E m h lw lp w (m1.set p (some (w1.heap.size, K))) (h1.set p (some (blkOf e z))) lw lp (w1.alloc (.cells cs e)) := by
  have hBs : E.B ≤ w1.heap.size := Nat.le_trans hE.hB T.hr.below.size
  have hph : p < h1.length := (List.getElem?_eq_some_iff.1 hh).1
  have hpm : p < m1.length := (List.getElem?_eq_some_iff.1 hmp).1
  have hold : ∀ r, r < w1.heap.size → (w1.alloc (.cells cs e)).heap[r]? = w1.heap[r]? := fun r h => Below.heap_alloc _ _ _ h
  have mle : Mle m1 (m1.set p (some (w1.heap.size, K))) := fun i x hx => by
    rw [List.getElem?_set]
    split
    · rename_i e; subst e; rw [hmp] at hx; simp at hx
    · exact hx
  have cases' : ∀ i b r K', Live (m1.set p (some (w1.heap.size, K))) (h1.set p (some (blkOf e z))) i b r K' → (i = p ∧ b = blkOf e z ∧ r = w1.heap.size ∧ K' = K) ∨ (i ≠ p ∧ Live m1 h1 i b r K') := by
    intro i b r K' ⟨g1, g2⟩
    by_cases hip : p = i
    · subst hip
      rw [List.getElem?_set_self hph] at g1
      rw [List.getElem?_set_self hpm] at g2
      simp at g1 g2
      exact .inl ⟨rfl, g1.symm, g2.1.symm, g2.2.symm⟩
    · rw [List.getElem?_set_ne hip] at g1
      rw [List.getElem?_set_ne hip] at g2
      exact .inr ⟨fun e => hip e.symm, g1, g2⟩
  refine ⟨mle, ?_, ⟨T.hr.below.alloc hBs _, by simp [T.hr.len], ?_, ?_, ?_⟩, Nat.le_trans T.size (by simp), Nat.le_refl _, Nat.le_refl _, ?_, ?_, ?_, ?_⟩
  · obtain ⟨x, hx⟩ := T.ext
    subst hx
    exact ⟨x.set (p - m.length) (some (w1.heap.size, K)), List.set_append_right _ _ (by rw [hr.len]; exact hp)⟩
  · intro i b hb
    by_cases hip : p = i
    · subst hip
      exact ⟨w1.heap.size, K, List.getElem?_set_self hpm⟩
    · rw [List.getElem?_set_ne hip] at hb
      obtain ⟨r, K', h0⟩ := T.hr.real i b hb
      exact ⟨r, K', mle _ _ h0⟩
  · intro i b r K' hb
    rcases cases' _ _ _ _ hb with ⟨rfl, rfl, rfl, rfl⟩ | ⟨hne, hb⟩
    · refine ⟨hBs, .inl ⟨rfl, cs, by show (w1.heap.push _)[w1.heap.size]? = _; rw [Array.getElem?_push_size]; rfl, hk, by rw [← hl.1]; exact Nat.le_refl _, fun j hj => ?_⟩⟩
      have hj' : j < z.length := hj
      show VR E.rl _ ((Tr.mk z).get j) _
      rw [get_mk]
      exact (hl.2 j (z.getD j und) (by simp [hj'])).mono fun i x hx => by simp at hx
    · obtain ⟨g0, gb⟩ := T.hr.blk i b r K' hb
      exact ⟨g0, by rw [hold r (T.hr.lt hb)]; exact gb.mono mle⟩
  · intro i j b b' r K1 K2 h1 h2
    rcases cases' _ _ _ _ h1 with ⟨e1, -, e2, -⟩ | ⟨-, k1⟩
    · rcases cases' _ _ _ _ h2 with ⟨e3, -, -, -⟩ | ⟨-, k2⟩
      · rw [e1, e3]
      · have := T.hr.lt k2; omega
    · rcases cases' _ _ _ _ h2 with ⟨-, -, e3, -⟩ | ⟨-, k2⟩
      · have := T.hr.lt k1; omega
      · exact T.hr.inj _ _ _ _ _ _ _ k1 k2
  · intro i hi hil
    obtain ⟨k1, k2⟩ := T.keepw i hi hil
    refine ⟨by rw [List.getElem?_set_ne (by omega)]; exact k1, fun b r K' hb => ?_⟩
    have hlt := hr.lt hb
    rw [hold r (Nat.lt_of_lt_of_le hlt T.size)]
    exact k2 b r K' hb
  · intro i hi hil b' hb'
    rw [List.getElem?_set_ne (by omega)] at hb'
    exact T.keepp i hi hil b' hb'
  · intro r hrs hno
    rw [hold r (Nat.lt_of_lt_of_le hrs T.size)]
    exact T.keepo r hrs hno
  · intro i b r K' hb hrs
    rcases cases' _ _ _ _ hb with ⟨-, -, rfl, -⟩ | ⟨-, hb⟩
    · have := T.size; omega
    · exact T.own i b r K' hb hrs

/-- what was there is there still -/
theorem HR.restrict (hr : HR E m h w) (T : Tn E m h h.length h.length w m1 h1 h.length h.length w1) : HR E m h w1 :=
  ⟨T.hr.below, hr.len, hr.real, fun i b r K hb => by
    obtain ⟨g0, gb⟩ := hr.blk i b r K hb
    exact ⟨g0, by rw [(T.keepw i hb.lt hb.lt).2 b r K hb]; exact gb⟩, hr.inj⟩

/-- a call that leaves what was there as it was -/
theorem Tn.call (hr : HR E m h w) (T : Tn E m h h.length h.length w m1 h1 h.length h.length w1) {m' : M} {h' : Heap} {lw' lp' : Nat} (T2 : Tn E m h h.length h.length w1 m' h' lw' lp' w2) (hlw : h.length ≤ lw') :
    Tn E m h h.length h.length w m1 h1 h.length h.length w2 := by
  have same : ∀ i b r K, Live m1 h1 i b r K → w2.heap[r]? = w1.heap[r]? := by
    intro i b r K hb
    rcases Nat.lt_or_ge i h.length with hi | hi
    · have hb0 : Live m h i b r K := (Live.of_ext T.ext (by rw [hr.len]; exact hi) (T.keepw i hi hi).1).1 hb
      exact (T2.keepw i (by omega) hi).2 b r K hb0
    · refine T2.keepo r (T.hr.lt hb) fun j b' K' hb' => ?_
      have hb1 : Live m1 h1 j b' r K' := (Live.of_ext T.ext (by rw [hr.len]; exact hb'.lt) (T.keepw j hb'.lt hb'.lt).1).2 hb'
      have := T.hr.inj _ _ _ _ _ _ _ hb1 hb
      have := hb'.lt
      omega
  refine ⟨T.ext, ⟨T2.hr.below, T.hr.len, T.hr.real, fun i b r K hb => ?_, T.hr.inj⟩, Nat.le_trans T.size T2.size, Nat.le_refl _, Nat.le_refl _, ?_, T.keepp, ?_, T.own⟩
  · obtain ⟨g0, gb⟩ := T.hr.blk i b r K hb
    exact ⟨g0, by rw [same i b r K hb]; exact gb⟩
  · intro i hi hil
    refine ⟨(T.keepw i hi hil).1, fun b r K hb => ?_⟩
    have hb1 : Live m1 h1 i b r K := (Live.of_ext T.ext (by rw [hr.len]; exact hil) (T.keepw i hi hil).1).2 hb
    rw [same i b r K hb1, (T.keepw i hi hil).2 b r K hb]
  · intro r hrs hno
    rw [T2.keepo r (Nat.lt_of_lt_of_le hrs T.size) hno, T.keepo r hrs hno]

end

/- two values that look the same are the same -/
theorem intEq_eq {a b : Int} (h : intEq a b = true) : a = b := by
  cases a <;> cases b <;> simp [intEq] at h <;> simp [h]

theorem sameA_eq (x : AVal) : ∀ y, sameA x y = true → x = y := by
  refine AVal.rec (motive_1 := fun x => ∀ y, sameA x y = true → x = y) (motive_2 := fun l => ∀ l', sameAs l l' = true → l = l') ?_ ?_ ?_ ?_ ?_ ?_ ?_ ?_ ?_ ?_ ?_ ?_ ?_ ?_ ?_ ?_ ?_ x
  · intro x y h; cases y <;> simp [sameA] at h; subst h; rfl
  · intro k n y h
    cases y <;> simp [sameA] at h
    obtain ⟨rfl, h2⟩ := h
    rw [intEq_eq h2]
  · intro l y h; cases y <;> simp [sameA] at h
  · intro q y h
    cases q with
    | none =>
      cases y with
      | p q => cases q with
        | none => rfl
        | some q => simp [sameA] at h
      | _ => simp [sameA] at h
    | some q =>
      cases y with
      | p q' => cases q' with
        | none => simp [sameA] at h
        | some q' => simp [sameA] at h; rw [h]
      | _ => simp [sameA] at h
  · intro y h; cases y <;> simp [sameA] at h; rfl
  · intro q n c y h
    cases y <;> simp [sameA] at h
    obtain ⟨⟨rfl, rfl⟩, rfl⟩ := h
    rfl
  · intro f a c ha hc y h
    cases y <;> simp [sameA] at h
    obtain ⟨⟨rfl, h2⟩, h3⟩ := h
    rw [ha _ h2, hc _ h3]
  · intro y h; cases y <;> simp [sameA] at h; rfl
  · intro l hl y h
    cases y <;> simp [sameA] at h
    rw [hl _ h]
  · intro l hl y h; cases y <;> simp [sameA] at h
  · intro y h; cases y <;> simp [sameA] at h
  · intro b y h; cases y <;> simp [sameA] at h
  · intro b y h; cases y <;> simp [sameA] at h
  · intro ty v _ y h; cases y <;> simp [sameA] at h
  · intro nm v _ y h; cases y <;> simp [sameA] at h
  · intro l' h; cases l' <;> simp [sameAs] at h; rfl
  · intro x l hx hl l' h
    cases l' with
    | nil => simp [sameAs] at h
    | cons y l' =>
      simp [sameAs] at h
      rw [hx _ h.1, hl _ h.2]

end Go.Vm

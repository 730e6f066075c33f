/- Memory: stores. -/
import Derived.Test.YtageakoepjkkbaaVmJ
namespace Go.Vm
open Go.RowKit

/-- block r of a world, written anew -/
def putB (w : World) (r : Nat) (c : Array Value) (e : TypeId) : World := { w with heap := w.heap.setIfInBounds r (.cells c e (0, 0)) }

def spl (c : Array Value) (k : Nat) : List Value → Array Value
  | [] => c
  | v :: l => spl (c.setIfInBounds k v) (k + 1) l

theorem size_spl : ∀ (l : List Value) (c : Array Value) (k : Nat), (spl c k l).size = c.size
  | [], _, _ => rfl
  | v :: l, c, k => by rw [spl, size_spl l]; simp

theorem getD_spl : ∀ (l : List Value) (c : Array Value) (k j : Nat), k + l.length ≤ c.size →
    (spl c k l).getD j undef = if k ≤ j ∧ j < k + l.length then l.getD (j - k) undef else c.getD j undef
  | [], c, k, j, _ => by rw [if_neg (by simp)]; rfl
  | v :: l, c, k, j, h => by
    simp only [List.length_cons] at h
    rw [spl, getD_spl l _ (k + 1) j (by simp; omega)]
    by_cases h1 : k = j
    · subst h1
      have n1 : ¬ (k + 1 ≤ k ∧ k < k + 1 + l.length) := by omega
      have n2 : k ≤ k ∧ k < k + (v :: l).length := by simp
      have n3 : k < c.size := by omega
      rw [if_neg n1, if_pos n2]
      simp [Array.getD_eq_getD_getElem?, n3]
    · by_cases h2 : k + 1 ≤ j ∧ j < k + 1 + l.length
      · rw [if_pos h2, if_pos (by simp; omega)]
        have : j - k = (j - (k + 1)) + 1 := by omega
        rw [this]; simp
      · rw [if_neg h2, if_neg (by simp; omega)]
        simp [Array.getD_eq_getD_getElem?, h1]

theorem putB_get (w : World) (r : Nat) (c : Array Value) (e : TypeId) (h : r < w.heap.size) : (putB w r c e).heap[r]? = some (.cells c e (0, 0)) := by
  simp [putB, h]
theorem putB_ne (w : World) {r k : Nat} (c : Array Value) (e : TypeId) (h : r ≠ k) : (putB w r c e).heap[k]? = w.heap[k]? := by
  simp [putB, Array.getElem?_setIfInBounds_ne h]
theorem putB_size (w : World) (r : Nat) (c : Array Value) (e : TypeId) : (putB w r c e).heap.size = w.heap.size := by simp [putB]
theorem putB_put (w : World) (r : Nat) (c c' : Array Value) (e : TypeId) : putB (putB w r c e) r c' e = putB w r c' e := by
  simp [putB]
theorem putB_same (w : World) (r : Nat) (c : Array Value) (e : TypeId) (h : w.heap[r]? = some (.cells c e (0, 0))) : putB w r c e = w := by
  unfold putB
  have hs : r < w.heap.size := by
    rcases Nat.lt_or_ge r w.heap.size with h' | h'
    · exact h'
    · rw [Array.getElem?_eq_none h'] at h; cases h
  have : w.heap.setIfInBounds r (.cells c e (0, 0)) = w.heap := by
    apply Array.ext_getElem?
    intro k
    rw [Array.getElem?_setIfInBounds]
    split
    · rename_i hk; subst hk; simp [hs, h.symm]
    · rfl
  rw [this]

theorem setCell_putB (w : World) (r o : Nat) (v : Value) (c : Array Value) (e : TypeId) (h : w.heap[r]? = some (.cells c e (0, 0))) :
    w.setCell ⟨r, o, none⟩ v = putB w r (c.setIfInBounds o v) e := by
  have hs : r < w.heap.size := by
    rcases Nat.lt_or_ge r w.heap.size with h' | h'
    · exact h'
    · rw [Array.getElem?_eq_none h'] at h; cases h
  unfold World.setCell putB
  congr 1
  apply Array.ext_getElem?
  intro k
  rw [Array.getElem?_modify, Array.getElem?_setIfInBounds]
  by_cases hk : r = k
  · subst hk
    have hg : w.heap[r] = .cells c e (0, 0) := by simpa [hs] using h
    simp [hs, hg]
  · simp [hk]

theorem store_run {P : Program} {w : World} {r o : Nat} {c : Array Value} {e : TypeId} (v : Value) (h : w.heap[r]? = some (.cells c e (0, 0))) (ho : o < c.size) (hv : v.oneCell' = true) :
    (store ⟨r, o, none⟩ v).run P w = .ok () (putB w r (c.setIfInBounds o v) e) := by
  rw [run_store P w _ v _ hv]
  have hc : w.cell? ⟨r, o, none⟩ = some c[o] := by simp [World.cell?, h, ho]
  have hf : w.frozen? ⟨r, o, none⟩ = false := by simp [World.frozen?, h]
  rw [hc]
  simp only [hf, Bool.false_eq_true, if_false]
  rw [setCell_putB w r o v c e h]

theorem storeCells_run {P : Program} {r off : Nat} {e : TypeId} : ∀ (vs : List Value) (i : Nat) (w : World) (c : Array Value), w.heap[r]? = some (.cells c e (0, 0)) → off + i + vs.length ≤ c.size →
    (∀ v ∈ vs, v.oneCell' = true) → (storeCells ⟨r, off, none⟩ vs i).run P w = .ok () (putB w r (spl c (off + i) vs) e)
  | [], i, w, c, h, _, _ => by
    simp only [storeCells, spl]
    rw [putB_same w r c e h]; rfl
  | v :: vs, i, w, c, h, hl, hv => by
    simp only [List.length_cons] at hl
    have hs : r < w.heap.size := by
      rcases Nat.lt_or_ge r w.heap.size with h' | h'
      · exact h'
      · rw [Array.getElem?_eq_none h'] at h; cases h
    have ha : (⟨r, off, none⟩ : Addr).add i = ⟨r, off + i, none⟩ := addr_add rfl i
    have ho : off + i < c.size := by omega
    have hst := store_run (P := P) v h ho (hv v (by simp))
    simp only [storeCells, Sem.run_bind, ha, hst, Result.andThen_ok]
    rw [storeCells_run vs (i + 1) _ _ (putB_get w r _ e hs) (by simp; omega) (fun u hu => hv u (by simp [hu])), putB_put]
    rfl

theorem one_sound {rl : Rl} {m : M} {v : AVal} {v' : Value} (h : VR rl m v v') (ho : v.one = true) : v'.oneCell' = true := by
  cases h <;> first | rfl | (simp [AVal.one] at ho)

theorem ones_mem : ∀ {l : List AVal}, ones l = true → ∀ v ∈ l, v.one = true
  | [], _, _, h => by cases h
  | x :: l, h, v, hv => by
    simp only [ones, Bool.and_eq_true] at h
    rcases List.mem_cons.1 hv with rfl | hv
    · exact h.1
    · exact ones_mem h.2 v hv

theorem nonp_mem : ∀ {l : List AVal}, nonp l = true → ∀ v ∈ l, v.scalar = true
  | [], _, _, h => by cases h
  | x :: l, h, v, hv => by
    simp only [nonp, Bool.and_eq_true] at h
    rcases List.mem_cons.1 hv with rfl | hv
    · exact h.1
    · exact nonp_mem h.2 v hv

theorem LR.ones {rl : Rl} {m : M} {cs : List AVal} {cs' : Array Value} (h : LR rl m cs cs') (ho : ones cs = true) : ∀ v ∈ cs'.toList, v.oneCell' = true := by
  intro v hv
  obtain ⟨i, hi, rfl⟩ := List.getElem_of_mem hv
  have hi' : i < cs.length := by rw [h.1]; simpa using hi
  have := h.2 i cs[i] (List.getElem?_eq_getElem hi')
  have e : cs'.getD i undef = cs'.toList[i] := by
    simp at hi
    simp [hi]
  rw [e] at this
  exact one_sound this (ones_mem ho _ (List.getElem_mem hi'))

theorem HR.lt {E : Env} {m : M} {h : Heap} {w : World} (hr : HR E m h w) {i : Nat} {b : ABlk} {r K : Nat} (hl : Live m h i b r K) : r < w.heap.size := by
  obtain ⟨-, hbk⟩ := hr.blk i b r K hl
  obtain ⟨c, hc⟩ := hbk.is
  rcases Nat.lt_or_ge r w.heap.size with h' | h'
  · exact h'
  · rw [Array.getElem?_eq_none h'] at hc; cases hc

theorem Live.lt {m : M} {h : Heap} {i : Nat} {b : ABlk} {r K : Nat} (hl : Live m h i b r K) : i < h.length := (List.getElem?_eq_some_iff.1 hl.1).1

/-- a live block written anew -/
theorem HR.upd {E : Env} {m : M} {h : Heap} {w : World} (hr : HR E m h w) {i : Nat} {b b' : ABlk} {r K : Nat} {c c' : Array Value} (hl : Live m h i b r K) (hc : w.heap[r]? = some (.cells c b.e (0, 0)))
    (he : b'.e = b.e) (hn : b'.n = b.n) (hg : b'.g = b.g) (hs : c'.size = c.size) (hv : ∀ j, j < b'.n → VR E.rl m (b'.c.get j) (c'.getD j undef)) {lw lp lw' lp' : Nat} (hlw : lw' ≤ lw) (hlp : lp' ≤ lp) (hwi : lw' ≤ i)
    (hpi : lp' ≤ i ∨ ∀ j, j < b'.n → (b'.c.get j).scalar = true ∨ b'.c.get j = b.c.get j) : Tn E m h lw lp w m (h.set i (some b')) lw' lp' (putB w r c' b.e) := by
  obtain ⟨hB, hbk⟩ := hr.blk i b r K hl
  obtain ⟨hgn, hsz, hnc, -⟩ := hbk.of_cells hc
  have hrlt := hr.lt hl
  have hil := hl.lt
  have other : ∀ j b0 r0 K0, Live m (h.set i (some b')) j b0 r0 K0 → (j = i ∧ b0 = b' ∧ r0 = r ∧ K0 = K) ∨ (j ≠ i ∧ Live m h j b0 r0 K0) := by
    intro j b0 r0 K0 ⟨h1, h2⟩
    rw [List.getElem?_set] at h1
    split at h1
    · rename_i hij
      subst hij
      have h1' : b' = b0 := by simpa [hil] using h1
      rw [hl.2] at h2
      have h2' : r = r0 ∧ K = K0 := by simpa using h2
      exact .inl ⟨rfl, h1'.symm, h2'.1.symm, h2'.2.symm⟩
    · rename_i hij
      exact .inr ⟨fun e => hij e.symm, h1, h2⟩
  refine ⟨⟨[], by simp⟩, ⟨?_, by simp [hr.len], ?_, ?_, ?_⟩, by rw [putB_size]; exact Nat.le_refl _, hlw, hlp, ?_, ?_, ?_, ?_⟩
  · refine ⟨hr.below.os, hr.below.tape, hr.below.output, by rw [putB_size]; exact hr.below.size, fun k hk => ?_⟩
    rw [putB_ne w c' b.e (by omega)]
    exact hr.below.block k hk
  · intro j b0 hb0
    rw [List.getElem?_set] at hb0
    split at hb0
    · rename_i hij
      subst hij
      exact ⟨r, K, hl.2⟩
    · exact hr.real j b0 hb0
  · intro j b0 r0 K0 hb0
    rcases other _ _ _ _ hb0 with ⟨rfl, rfl, rfl, rfl⟩ | ⟨hne, hb0⟩
    · exact ⟨hB, .inl ⟨by rw [hg]; exact hgn, c', by rw [he]; exact putB_get w _ _ _ hrlt, by rw [hs, hsz, he], by rw [hn, hs]; exact hnc, hv⟩⟩
    · obtain ⟨g0, gb⟩ := hr.blk _ _ _ _ hb0
      have hrr : r ≠ r0 := fun e => hne (hr.inj _ _ _ _ _ _ _ hb0 (e ▸ hl))
      exact ⟨g0, by rw [putB_ne w c' b.e hrr]; exact gb⟩
  · intro j1 j2 b1 b2 r0 K1 K2 h1 h2
    rcases other _ _ _ _ h1 with ⟨e1, -, e2, -⟩ | ⟨n1, k1⟩
    · rcases other _ _ _ _ h2 with ⟨e3, -, -, -⟩ | ⟨n2, k2⟩
      · rw [e1, e3]
      · rw [e1]; subst e2; exact hr.inj _ _ _ _ _ _ _ hl k2
    · rcases other _ _ _ _ h2 with ⟨e3, -, e4, -⟩ | ⟨n2, k2⟩
      · rw [e3]; subst e4; exact hr.inj _ _ _ _ _ _ _ k1 hl
      · exact hr.inj _ _ _ _ _ _ _ k1 k2
  · intro j hj hjl
    have hne : i ≠ j := by omega
    refine ⟨List.getElem?_set_ne hne, fun b0 r0 K0 hb0 => ?_⟩
    have hrr : r ≠ r0 := fun e => hne (hr.inj _ _ _ _ _ _ _ (e ▸ hl) hb0)
    exact putB_ne w c' b.e hrr
  · intro j hj hjl b0 hb0
    by_cases hij : i = j
    · subst hij
      rw [List.getElem?_set_self hil] at hb0
      cases hb0
      exact ⟨b, hl.1, he, ⟨hn, by unfold ABlk.fix; rw [hg]⟩, (hpi.resolve_left (by omega))⟩
    · rw [List.getElem?_set_ne hij] at hb0
      exact ⟨b0, hb0, rfl, ⟨rfl, rfl⟩, fun _ _ => .inr rfl⟩
  · intro r0 _ hno
    exact putB_ne w c' b.e fun e => hno i b K (e ▸ hl)
  · intro j b0 r0 K0 hb0 _
    rcases other _ _ _ _ hb0 with ⟨rfl, -, rfl, -⟩ | ⟨-, hb0⟩
    · exact ⟨_, b, K, hl⟩
    · exact ⟨_, _, _, hb0⟩

/-- a store of values one behind the other -/
theorem wrH_sound {E : Env} {m : M} {h h' : Heap} {w : World} (hr : HR E m h w) {q : Loc} {p : Addr} {cs : List AVal} {cs' : Array Value} (ha : addr E.rl m q = some p) (hl : LR E.rl m cs cs')
    (hw : wrH h q cs = some h') (lw lp : Nat) : ∃ w', (storeCells p cs'.toList).run E.P w = .ok () w' ∧
      Tn E m h lw lp w m h' (min lw q.b) (cond (nonp cs) lp (min lp q.b)) w' := by
  unfold wrH at hw
  unfold addr at ha
  cases hro : q.ro
  · rw [hro] at hw ha
    simp only [cond_false, Bool.false_eq_true, if_false] at hw ha
    rw [lget_eq] at hw
    split at hw
    · rename_i b hq
      cases hc : (Nat.ble (q.off + cs.length) b.n && ones cs)
      · rw [hc] at hw; cases hw
      rw [hc] at hw
      simp only [cond_true, Option.some.injEq] at hw
      subst hw
      rw [lset_eq]
      simp only [Bool.and_eq_true] at hc
      have hle := Nat.le_of_ble_eq_true hc.1
      split at ha
      · rename_i x hm
        cases ha
        have live : Live m h q.b b x.1 x.2 := ⟨hq, hm⟩
        obtain ⟨-, hbk⟩ := hr.blk _ _ _ _ live
        by_cases hn0 : b.n = 0
        · have hcs : cs = [] := List.eq_nil_of_length_eq_zero (by omega)
          subst hcs
          have hcs' : cs'.toList = [] := by
            have := hl.1
            simp at this
            simpa using this.symm
          rw [hcs']
          refine ⟨w, rfl, ?_⟩
          have hsame : h.set q.b (some { b with c := b.c.splice q.off [] }) = h := by
            apply List.ext_getElem?
            intro j
            rw [List.getElem?_set]
            split
            · rename_i e
              subst e
              split
              · exact hq.symm
              · rename_i hno
                exact absurd (List.getElem?_eq_some_iff.1 hq).1 hno
            · rfl
          rw [hsame]
          have T := Tn.refl hr (min lw q.b) (cond (nonp []) lp (min lp q.b))
          exact ⟨T.ext, T.hr, T.size, Nat.min_le_left _ _, Nat.le_refl _, T.keepw, T.keepp, T.keepo, T.own⟩
        obtain ⟨c, h1, h2, h3, h4⟩ := hbk.cells (by omega)
        have hcl : cs'.toList.length = cs.length := by rw [hl.1]; simp
        refine ⟨_, storeCells_run cs'.toList 0 w c h1 (by rw [hcl]; omega) (hl.ones hc.2), ?_⟩
        simp only [Nat.add_zero]
        have hg : ∀ j, (b.c.splice q.off cs).get j = if q.off ≤ j ∧ j < q.off + cs.length then cs.getD (j - q.off) und else b.c.get j := fun j => get_splice cs b.c q.off j
        refine hr.upd (b' := { b with c := b.c.splice q.off cs }) live h1 rfl rfl rfl (size_spl _ _ _) (fun j hj => ?_) (Nat.min_le_left _ _) ?_ (Nat.min_le_right _ _) ?_
        · show VR E.rl m ((b.c.splice q.off cs).get j) _
          rw [hg, getD_spl _ _ _ _ (by rw [hcl]; omega), hcl]
          split
          · rename_i hj2
            have hlt : j - q.off < cs.length := by omega
            have := hl.2 (j - q.off) cs[j - q.off] (List.getElem?_eq_getElem hlt)
            have e : cs'.getD (j - q.off) undef = cs'.toList.getD (j - q.off) undef := by simp [Array.getD_eq_getD_getElem?, List.getD]
            rw [e] at this
            simpa [hlt] using this
          · exact h4 j hj
        · cases nonp cs
          · exact Nat.min_le_left _ _
          · exact Nat.le_refl _
        · cases hnp : nonp cs
          · exact .inl (Nat.min_le_right _ _)
          · refine .inr fun j hj => ?_
            show ((b.c.splice q.off cs).get j).scalar = true ∨ (b.c.splice q.off cs).get j = b.c.get j
            rw [hg]
            split
            · rename_i hj2
              have hlt : j - q.off < cs.length := by omega
              left
              have := nonp_mem hnp _ (List.getElem_mem hlt)
              simpa [hlt] using this
            · exact .inr rfl
      · cases ha
    · cases hw
  · rw [hro] at hw; cases hw

end Go.Vm

/- Memory: the relation between the small machine's heap and the model's, reads, new blocks, stores. -/
import Derived.Test.YtageakoepjkkbaaVmI
import Derived.Laws.World
namespace Go.Vm
open Go.RowKit

structure Env where
  P : Program
  B : Nat
  w0 : World
  ro : List ABlk
  rl : Rl

structure Env.Ok (E : Env) : Prop where
  ro : ∀ (i : Nat) (b : ABlk), E.ro[i]? = some b → ∃ x, E.rl[i]? = some x ∧
    ∀ j, j < b.n → x.block < E.B ∧ ∃ v', E.w0.cell? (x.add j) = some v' ∧ VR E.rl [] (b.c.get j) v'
  hB : E.B ≤ E.w0.heap.size

/-- block i of the small heap is live and lies in block r of the world, with room for K elements -/
def Live (m : M) (h : Heap) (i : Nat) (b : ABlk) (r K : Nat) : Prop := h[i]? = some (some b) ∧ m[i]? = some (some (r, K))

/-- the entries of a map -/
def MapR (rl : Rl) (L : List (List UInt8 × AVal)) (es : List MapEntry) : Prop := L.length = es.length ∧ ∀ (i : Nat) (s : List UInt8) (v : AVal), L[i]? = some (s, v) → ∃ x, es[i]? = some x ∧ x.key = .string ⟨s.toArray⟩ ∧ v.scalar = true ∧ VR rl [] v x.val
/-- how a loop over a function was left, in the model's words -/
def jumpC : AExit → Code
  | .norm => .skip
  | .exit i => .exit i
  | .ret => .ret
/-- the record of a loop over a function -/
def LoopR (E : Env) (m : M) (nt : Nat) (L : LRec) (s : LoopState) (p : Option AExit) (r : Loop) : Prop :=
  r.state = s ∧ r.pending = p.map jumpC ∧ p ≠ some .norm ∧ r.params.toList = L.ps ∧ L.asg.flat = true ∧ L.body.flat = true ∧
  compC E.P r.assign = some L.asg ∧ compC E.P r.body = some L.body ∧
  r.tmps.size = nt ∧ (∀ n, n < nt → VR E.rl m (L.t.get n) (r.tmps.getD n undef)) ∧ (∀ n ∈ L.ps, n < nt) ∧ L.asg.in nt = true ∧ L.body.in nt = true
/-- a block and what lies in the world for it -/
def BlkR (E : Env) (m : M) (b : ABlk) (K : Nat) (o : Option Obj) : Prop :=
  (b.g = none ∧ ∃ c, o = some (.cells c b.e (0, 0)) ∧ c.size = K * E.P.cellsOf b.e ∧ b.n ≤ c.size ∧ ∀ j, j < b.n → VR E.rl m (b.c.get j) (c.getD j undef)) ∨
  (b.n = 0 ∧ ∃ L es clock, b.g = some (.mp L) ∧ o = some (.map es clock) ∧ MapR E.rl L es.toList) ∨
  (b.n = 0 ∧ ∃ L s p r, b.g = some (.lp L s p) ∧ o = some (.loop r) ∧ LoopR E m K L s p r)
theorem BlkR.mono {E : Env} {m m' : M} {b : ABlk} {K : Nat} {o : Option Obj} (h : BlkR E m b K o) (hm : Mle m m') : BlkR E m' b K o := by
  rcases h with ⟨h0, c, h1, h2, h3, h4⟩ | h
  · exact .inl ⟨h0, c, h1, h2, h3, fun j hj => (h4 j hj).mono hm⟩
  · rcases h with h | ⟨h0, L, s, p, r, h1, h2, k1, k2, k3, k4, k5, k6, k7, k8, k9, k10, k11⟩
    · exact .inr (.inl h)
    · exact .inr (.inr ⟨h0, L, s, p, r, h1, h2, k1, k2, k3, k4, k5, k6, k7, k8, k9, fun n hn => (k10 n hn).mono hm, k11⟩)
theorem BlkR.is {E : Env} {m : M} {b : ABlk} {K : Nat} {o : Option Obj} (h : BlkR E m b K o) : ∃ x, o = some x := by
  rcases h with ⟨h0, c, h1, -⟩ | ⟨-, L, es, clock, -, h1, -⟩ | ⟨-, L, s, p, r, -, h1, -⟩
  · exact ⟨_, h1⟩
  · exact ⟨_, h1⟩
  · exact ⟨_, h1⟩
theorem BlkR.cells {E : Env} {m : M} {b : ABlk} {K : Nat} {o : Option Obj} (h : BlkR E m b K o) (hn : 0 < b.n) : ∃ c, o = some (.cells c b.e (0, 0)) ∧ c.size = K * E.P.cellsOf b.e ∧ b.n ≤ c.size ∧ ∀ j, j < b.n → VR E.rl m (b.c.get j) (c.getD j undef) := by
  rcases h with ⟨h0, h1⟩ | ⟨h0, -⟩ | ⟨h0, -⟩
  · exact h1
  · omega
  · omega
theorem BlkR.of_cells {E : Env} {m : M} {b : ABlk} {K : Nat} {o : Option Obj} {c : Array Value} {e : TypeId} {x : Nat × Nat} (h : BlkR E m b K o) (ho : o = some (.cells c e x)) : b.g = none ∧ c.size = K * E.P.cellsOf b.e ∧ b.n ≤ c.size ∧ ∀ j, j < b.n → VR E.rl m (b.c.get j) (c.getD j undef) := by
  rcases h with ⟨h0, c', h1, h2⟩ | ⟨-, L, es, clock, -, h1, -⟩ | ⟨-, L, s, p, r, -, h1, -⟩
  · rw [ho] at h1
    simp only [Option.some.injEq, Obj.cells.injEq] at h1
    obtain ⟨rfl, -, -⟩ := h1
    exact ⟨h0, h2⟩
  · rw [ho] at h1; cases h1
  · rw [ho] at h1; cases h1

structure HR (E : Env) (m : M) (h : Heap) (w : World) : Prop where
  below : Below E.B E.w0 w
  len : m.length = h.length
  real : ∀ (i : Nat) (b : ABlk), h[i]? = some (some b) → ∃ r K, m[i]? = some (some (r, K))
  blk : ∀ i b r K, Live m h i b r K → E.B ≤ r ∧ BlkR E m b K w.heap[r]?
  inj : ∀ i j b b' r K K', Live m h i b r K → Live m h j b' r K' → i = j

/-- from one state to a later one -/
structure Tn (E : Env) (m : M) (h : Heap) (lw lp : Nat) (w : World) (m' : M) (h' : Heap) (lw' lp' : Nat) (w' : World) : Prop where
  ext : ∃ x, m' = m ++ x
  hr : HR E m' h' w'
  size : w.heap.size ≤ w'.heap.size
  lwle : lw' ≤ lw
  lple : lp' ≤ lp
  keepw : ∀ i, i < lw' → i < h.length → h'[i]? = h[i]? ∧ ∀ b r K, Live m h i b r K → w'.heap[r]? = w.heap[r]?
  keepp : ∀ i, i < lp' → i < h.length → ∀ b', h'[i]? = some (some b') → ∃ b, h[i]? = some (some b) ∧ b'.e = b.e ∧ (b'.n = b.n ∧ b'.fix = b.fix) ∧
    ∀ j, j < b'.n → (b'.c.get j).scalar = true ∨ b'.c.get j = b.c.get j
  keepo : ∀ r, r < w.heap.size → (∀ i b K, ¬ Live m h i b r K) → w'.heap[r]? = w.heap[r]?
  own : ∀ i b r K, Live m' h' i b r K → r < w.heap.size → ∃ j b' K', Live m h j b' r K'

theorem Tn.refl {E : Env} {m : M} {h : Heap} {w : World} (hr : HR E m h w) (lw lp : Nat) : Tn E m h lw lp w m h lw lp w :=
  ⟨⟨[], by simp⟩, hr, Nat.le_refl _, Nat.le_refl _, Nat.le_refl _, fun _ _ _ => ⟨rfl, fun _ _ _ _ => rfl⟩, fun _ _ _ b' hb => ⟨b', hb, rfl, ⟨rfl, rfl⟩, fun _ _ => .inr rfl⟩,
    fun _ _ _ => rfl, fun i b r K hl _ => ⟨i, b, K, hl⟩⟩

theorem Tn.mle {E : Env} {m m' : M} {h h' : Heap} {lw lp lw' lp' : Nat} {w w' : World} (t : Tn E m h lw lp w m' h' lw' lp' w') : Mle m m' := by
  obtain ⟨x, rfl⟩ := t.ext; exact Mle.app m x

theorem Tn.lenle {E : Env} {m m' : M} {h h' : Heap} {lw lp lw' lp' : Nat} {w w' : World} (hr : HR E m h w) (t : Tn E m h lw lp w m' h' lw' lp' w') : h.length ≤ h'.length := by
  obtain ⟨x, e⟩ := t.ext
  rw [← hr.len, ← t.hr.len, e]; simp

theorem Live.of_ext {m m' : M} {h h' : Heap} (hx : ∃ x, m' = m ++ x) {i : Nat} (hi : i < m.length) (he : h'[i]? = h[i]?) {b : ABlk} {r K : Nat} : Live m' h' i b r K ↔ Live m h i b r K := by
  obtain ⟨x, rfl⟩ := hx
  unfold Live
  rw [he, List.getElem?_append_left hi]

theorem Tn.trans {E : Env} {m m1 m2 : M} {h h1 h2 : Heap} {lw lp lw1 lp1 lw2 lp2 : Nat} {w w1 w2 : World} (hr : HR E m h w)
    (s : Tn E m h lw lp w m1 h1 lw1 lp1 w1) (t : Tn E m1 h1 lw1 lp1 w1 m2 h2 lw2 lp2 w2) : Tn E m h lw lp w m2 h2 lw2 lp2 w2 := by
  have hl1 := s.lenle hr
  refine ⟨?_, t.hr, Nat.le_trans s.size t.size, Nat.le_trans t.lwle s.lwle, Nat.le_trans t.lple s.lple, ?_, ?_, ?_, ?_⟩
  · obtain ⟨x, rfl⟩ := s.ext
    obtain ⟨y, rfl⟩ := t.ext
    exact ⟨x ++ y, by simp⟩
  · intro i hi hil
    have hw1 := s.keepw i (Nat.lt_of_lt_of_le hi t.lwle) hil
    have hw2 := t.keepw i hi (Nat.lt_of_lt_of_le hil hl1)
    refine ⟨hw2.1.trans hw1.1, fun b r K hb => ?_⟩
    have hb1 : Live m1 h1 i b r K := (Live.of_ext s.ext (by rw [hr.len]; exact hil) hw1.1).2 hb
    rw [hw2.2 b r K hb1, hw1.2 b r K hb]
  · intro i hi hil b2 hb2
    obtain ⟨b1, e1, f1, f2, f3⟩ := t.keepp i hi (Nat.lt_of_lt_of_le hil hl1) b2 hb2
    obtain ⟨b0, e0, g1, g2, g3⟩ := s.keepp i (Nat.lt_of_lt_of_le hi t.lple) hil b1 e1
    refine ⟨b0, e0, f1.trans g1, ⟨f2.1.trans g2.1, f2.2.trans g2.2⟩, fun j hj => ?_⟩
    rcases f3 j hj with h | h
    · exact .inl h
    · rcases g3 j (by rw [← f2.1]; exact hj) with k | k
      · exact .inl (by rw [h]; exact k)
      · exact .inr (h.trans k)
  · intro r hrs hno
    rw [t.keepo r (Nat.lt_of_lt_of_le hrs s.size) (fun i b K hl => by
      obtain ⟨j, b', K', hj⟩ := s.own i b r K hl hrs
      exact hno j b' K' hj), s.keepo r hrs hno]
  · intro i b r K hl hrs
    obtain ⟨j, b', K', hj⟩ := t.own i b r K hl (Nat.lt_of_lt_of_le hrs s.size)
    exact s.own j b' r K' hj hrs

/- a draw changes nothing -/
theorem HR.drew {E : Env} {m : M} {h : Heap} {w : World} (hr : HR E m h w) : HR E m h w.drew :=
  ⟨hr.below.drew, hr.len, hr.real, fun i b r K hl => hr.blk i b r K hl, hr.inj⟩

theorem Tn.drew {E : Env} {m : M} {h : Heap} {w : World} (hr : HR E m h w) (lw lp : Nat) : Tn E m h lw lp w m h lw lp w.drew :=
  ⟨⟨[], by simp⟩, hr.drew, Nat.le_refl _, Nat.le_refl _, Nat.le_refl _, fun _ _ _ => ⟨rfl, fun _ _ _ _ => rfl⟩, fun _ _ _ b' hb => ⟨b', hb, rfl, ⟨rfl, rfl⟩, fun _ _ => .inr rfl⟩,
    fun _ _ _ => rfl, fun i b r K hl _ => ⟨i, b, K, hl⟩⟩

/- reading -/
theorem addr_add {p : Addr} (h : p.spot = none) (n : Nat) : p.add n = ⟨p.block, p.off + n, none⟩ := by
  obtain ⟨b, o, s⟩ := p
  simp only at h; subst h
  unfold Addr.add; split <;> simp_all

/-- what lies at a place of a block that is known -/
theorem HR.read {E : Env} (hE : E.Ok) {m : M} {h : Heap} {w : World} (hr : HR E m h w) {q : Loc} {p : Addr} {b : ABlk} (ha : addr E.rl m q = some p) (hb : rdB E.ro h q = some b) :
    ∀ j, q.off + j < b.n → ∃ v', w.cell? (p.add j) = some v' ∧ VR E.rl m (b.c.get (q.off + j)) v' := by
  intro j hj
  unfold rdB at hb
  unfold addr at ha
  cases hro : q.ro
  · rw [hro] at hb ha
    simp only [cond_false, Bool.false_eq_true, if_false] at hb ha
    rw [lget_eq] at hb
    split at hb
    · rename_i b' hq
      cases hb
      split at ha
      · rename_i x hm
        cases ha
        obtain ⟨-, hbk⟩ := hr.blk q.b b x.1 x.2 ⟨hq, hm⟩
        obtain ⟨c, h1, h2, h3, h4⟩ := hbk.cells (by omega)
        refine ⟨c.getD (q.off + j) undef, ?_, h4 _ hj⟩
        rw [addr_add rfl]
        have hlt : q.off + j < c.size := Nat.lt_of_lt_of_le hj h3
        simp [World.cell?, h1, hlt]
      · cases ha
    · cases hb
  · rw [hro] at hb ha
    simp only [cond_true, if_true] at hb ha
    rw [lget_eq] at hb
    obtain ⟨x, h1, h3⟩ := hE.ro q.b b hb
    rw [h1] at ha
    cases ha
    obtain ⟨h2, v', e1, e2⟩ := h3 (q.off + j) hj
    refine ⟨v', ?_, e2.mono fun i x hx => by simp at hx⟩
    rw [addr_addadd, hr.below.cell (p := x.add (q.off + j)) (by rw [addr_block]; exact h2)]
    exact e1

theorem HR.reads {E : Env} (hE : E.Ok) {m : M} {h : Heap} {w : World} (hr : HR E m h w) {q : Loc} {p : Addr} {b : ABlk} (ha : addr E.rl m q = some p) (hb : rdB E.ro h q = some b)
    (n : Nat) (hn : q.off + n ≤ b.n) : ∃ cs', (loadCells p n).run E.P w = .ok cs' w ∧ LR E.rl m (b.c.row q.off n) cs' := by
  have hrd := hr.read hE ha hb
  refine ⟨((List.range n).map fun j => (w.cell? (p.add j)).getD undef).toArray, run_loadCells w p n _ (fun j hj => ?_), ?_⟩
  · obtain ⟨v', e, -⟩ := hrd j (by omega); rw [e]; rfl
  · refine ⟨by simp [length_row], fun i v hv => ?_⟩
    rw [getElem?_row] at hv
    split at hv
    · rename_i hi
      cases hv
      obtain ⟨v', e, hv'⟩ := hrd i (by omega)
      simpa [Array.getD_eq_getD_getElem?, hi, e] using hv'
    · cases hv

/-- a load -/
theorem rd_sound {E : Env} (hE : E.Ok) {m : M} {h : Heap} {w : World} (hr : HR E m h w) {q : Loc} {p : Addr} (ha : addr E.rl m q = some p) {t : TypeId} {ag : Bool} {n : Nat} {v : AVal}
    (hag : cagg E.P t = some ag) (hn : csize E.P t = some n) (hv : rd E.ro h (!ag) n q = some v) : ∃ v', (loadVar t p).run E.P w = .ok v' w ∧ VR E.rl m v v' := by
  unfold rd at hv
  split at hv
  · rename_i b hb
    cases ag
    · simp only [Bool.not_false, cond_true] at hv
      cases hc : Nat.blt q.off b.n
      · rw [hc] at hv; cases hv
      · rw [hc] at hv; cases hv
        rw [Nat.blt_eq] at hc
        obtain ⟨v', e, hv'⟩ := hr.read hE ha hb 0 (by simpa using hc)
        refine ⟨v', ?_, by simpa using hv'⟩
        rw [add_zero_addr] at e
        simp [loadVar, cagg_sound hag, e]
    · simp only [Bool.not_true, cond_false] at hv
      cases hc : Nat.ble (q.off + n) b.n
      · rw [hc] at hv; cases hv
      · rw [hc] at hv; cases hv
        obtain ⟨cs', h1, h2⟩ := hr.reads hE ha hb n (Nat.le_of_ble_eq_true hc)
        refine ⟨.agg cs', ?_, .agg _ _ h2.1 h2.2⟩
        simp [loadVar, cagg_sound hag, csize_sound hn, h1]
  · cases hv

/- a new block -/
theorem HR.newB {E : Env} {m : M} {h : Heap} {w : World} (hE : E.Ok) (hr : HR E m h w) {e K : Nat} {cs : List AVal} {cs' : Array Value} (hl : LR E.rl m cs cs' ∨ (cs.length ≤ cs'.size ∧ ∀ i v, cs[i]? = some v → VR E.rl m v (cs'.getD i undef)))
    (hk : cs'.size = K * E.P.cellsOf e) (lw lp : Nat) : Tn E m h lw lp w (m ++ [some (w.heap.size, K)]) (h ++ [some (blkOf e cs)]) lw lp (w.alloc (.cells cs' e)) := by
  have hl' : cs.length ≤ cs'.size ∧ ∀ i v, cs[i]? = some v → VR E.rl m v (cs'.getD i undef) := by
    rcases hl with hl | hl
    · exact ⟨Nat.le_of_eq hl.1, hl.2⟩
    · exact hl
  have hsz := hr.below.size
  have hBs : E.B ≤ w.heap.size := Nat.le_trans hE.hB hsz
  have hold : ∀ r, r < w.heap.size → (w.alloc (.cells cs' e)).heap[r]? = w.heap[r]? := fun r h => Below.heap_alloc _ _ _ h
  have hrlt : ∀ i b r K, Live m h i b r K → r < w.heap.size := fun i b r K hb => by
    obtain ⟨-, hbk⟩ := hr.blk i b r K hb
    obtain ⟨c, hc⟩ := hbk.is
    rcases Nat.lt_or_ge r w.heap.size with h' | h'
    · exact h'
    · rw [Array.getElem?_eq_none h'] at hc; cases hc
  have hcases : ∀ i b r K', Live (m ++ [some (w.heap.size, K)]) (h ++ [some (blkOf e cs)]) i b r K' → Live m h i b r K' ∨ (i = h.length ∧ b = blkOf e cs ∧ r = w.heap.size ∧ K' = K) := by
    intro i b r K' ⟨h1, h2⟩
    rcases Nat.lt_or_ge i h.length with hi | hi
    · rw [List.getElem?_append_left hi] at h1
      rw [List.getElem?_append_left (by rw [hr.len]; exact hi)] at h2
      exact .inl ⟨h1, h2⟩
    · rw [List.getElem?_append_right hi] at h1
      rw [List.getElem?_append_right (by rw [hr.len]; exact hi), hr.len] at h2
      have : i - h.length = 0 := by
        rcases Nat.eq_zero_or_pos (i - h.length) with h0 | h0
        · exact h0
        · rw [List.getElem?_eq_none (by simp; omega)] at h1; cases h1
      rw [this] at h1 h2
      simp at h1 h2
      exact .inr ⟨by omega, h1.symm, h2.1.symm, h2.2.symm⟩
  have mle : Mle m (m ++ [some (w.heap.size, K)]) := Mle.app _ _
  refine ⟨⟨_, rfl⟩, ⟨hr.below.alloc hBs _, by simp [hr.len], ?_, ?_, ?_⟩, by simp, Nat.le_refl _, Nat.le_refl _, ?_, ?_, ?_, ?_⟩
  · intro i b hb
    rcases Nat.lt_or_ge i h.length with hi | hi
    · rw [List.getElem?_append_left hi] at hb
      obtain ⟨r, K', hm⟩ := hr.real i b hb
      exact ⟨r, K', mle _ _ hm⟩
    · have : i = h.length := by
        rw [List.getElem?_append_right hi] at hb
        rcases Nat.eq_zero_or_pos (i - h.length) with h0 | h0
        · omega
        · rw [List.getElem?_eq_none (by simp; omega)] at hb; cases hb
      subst this
      exact ⟨w.heap.size, K, by rw [← hr.len]; simp⟩
  · intro i b r K' hb
    rcases hcases i b r K' hb with hb | ⟨rfl, rfl, rfl, rfl⟩
    · obtain ⟨h0, h1⟩ := hr.blk i b r K' hb
      exact ⟨h0, by rw [hold r (hrlt _ _ _ _ hb)]; exact h1.mono mle⟩
    · refine ⟨hBs, .inl ⟨rfl, cs', by show (w.heap.push _)[w.heap.size]? = _; rw [Array.getElem?_push_size]; rfl, hk, hl'.1, fun j hj => ?_⟩⟩
      have hj' : j < cs.length := hj
      show VR E.rl _ ((Tr.mk cs).get j) _
      rw [get_mk]
      have : cs[j]? = some (cs.getD j und) := by simp [hj']
      exact (hl'.2 j _ this).mono mle
  · intro i j b b' r K1 K2 h1 h2
    rcases hcases _ _ _ _ h1 with k1 | ⟨e1, -, e2, -⟩
    · rcases hcases _ _ _ _ h2 with k2 | ⟨-, -, e3, -⟩
      · exact hr.inj _ _ _ _ _ _ _ k1 k2
      · have := hrlt _ _ _ _ k1; omega
    · rcases hcases _ _ _ _ h2 with k2 | ⟨e3, -, -, -⟩
      · have := hrlt _ _ _ _ k2; omega
      · rw [e1, e3]
  · intro i hi hil
    refine ⟨List.getElem?_append_left hil, fun b r K' hb => hold r (hrlt _ _ _ _ hb)⟩
  · intro i hi hil b' hb'
    rw [List.getElem?_append_left hil] at hb'
    exact ⟨b', hb', rfl, ⟨rfl, rfl⟩, fun _ _ => .inr rfl⟩
  · intro r hrs _
    exact hold r hrs
  · intro i b r K' hb hrs
    rcases hcases _ _ _ _ hb with hb | ⟨rfl, rfl, rfl, rfl⟩
    · exact ⟨_, _, _, hb⟩
    · omega

end Go.Vm

/- append, whole; and every operation but calls. -/
import Derived.Test.YtageakoepjkkbaaVmM
namespace Go.Vm
open Go.RowKit

section
variable {E : Env} {m : M} {h : Heap} {w : World}

/-- a block given up -/
theorem HR.kill {i : Nat} (hr : HR E m h w) (lw lp : Nat) : Tn E m h lw lp w m (h.set i none) (min lw i) (min lp i) w := by
  have back : ∀ j b r K, Live m (h.set i none) j b r K → Live m h j b r K ∧ i ≠ j := by
    intro j b r K ⟨h1, h2⟩
    rw [List.getElem?_set] at h1
    split at h1
    · split at h1 <;> simp at h1
    · exact ⟨⟨h1, h2⟩, ‹_›⟩
  refine ⟨⟨[], by simp⟩, ⟨hr.below, by simp [hr.len], ?_, ?_, ?_⟩, Nat.le_refl _, Nat.min_le_left _ _, Nat.min_le_left _ _, ?_, ?_, fun _ _ _ => rfl, ?_⟩
  · intro j b hb
    rw [List.getElem?_set] at hb
    split at hb
    · split at hb <;> simp at hb
    · exact hr.real j b hb
  · intro j b r K hl; exact hr.blk j b r K (back _ _ _ _ hl).1
  · intro j1 j2 b1 b2 r K1 K2 h1 h2
    exact hr.inj _ _ _ _ _ _ _ (back _ _ _ _ h1).1 (back _ _ _ _ h2).1
  · intro j hj hjl
    have hne : i ≠ j := by omega
    exact ⟨List.getElem?_set_ne hne, fun _ _ _ _ => rfl⟩
  · intro j hj hjl b' hb'
    have hne : i ≠ j := by omega
    rw [List.getElem?_set_ne hne] at hb'
    exact ⟨b', hb', rfl, ⟨rfl, rfl⟩, fun _ _ => .inr rfl⟩
  · intro j b r K hl _
    exact ⟨j, b, K, (back _ _ _ _ hl).1⟩

/-- a block that goes on under a new number -/
theorem HR.regrow {i : Nat} {b : ABlk} {r K : Nat} {c c' : Array Value} {cs : List AVal} (hr : HR E m h w) (hl : Live m h i b r K) (hc : w.heap[r]? = some (.cells c b.e (0, 0)))
    (hs : c'.size = c.size) (hcs : cs.length ≤ c.size) (hv : ∀ j v, cs[j]? = some v → VR E.rl m v (c'.getD j undef)) (lw lp : Nat) :
    Tn E m h lw lp w (m ++ [some (r, K)]) (h.set i none ++ [some (blkOf b.e cs)]) (min lw i) (min lp i) (putB w r c' b.e) := by
  obtain ⟨hB, hbk⟩ := hr.blk i b r K hl
  obtain ⟨hgn, hsz, hnc, -⟩ := hbk.of_cells hc
  have hrlt := hr.lt hl
  have hil := hl.lt
  have mle : Mle m (m ++ [some (r, K)]) := Mle.app _ _
  have hlen : (h.set i none).length = h.length := by simp
  have other : ∀ j b0 r0 K0, Live (m ++ [some (r, K)]) (h.set i none ++ [some (blkOf b.e cs)]) j b0 r0 K0 →
      (j = h.length ∧ b0 = blkOf b.e cs ∧ r0 = r ∧ K0 = K) ∨ (j < h.length ∧ j ≠ i ∧ Live m h j b0 r0 K0) := by
    intro j b0 r0 K0 ⟨h1, h2⟩
    rcases Nat.lt_or_ge j h.length with hj | hj
    · rw [List.getElem?_append_left (by rw [hlen]; exact hj)] at h1
      rw [List.getElem?_append_left (by rw [hr.len]; exact hj)] at h2
      rw [List.getElem?_set] at h1
      split at h1
      · simp at h1
      · rename_i hij
        exact .inr ⟨hj, fun e => hij e.symm, h1, h2⟩
    · rw [List.getElem?_append_right (by rw [hlen]; exact hj), hlen] at h1
      rw [List.getElem?_append_right (by rw [hr.len]; exact hj), hr.len] at h2
      have : j - h.length = 0 := by
        rcases Nat.eq_zero_or_pos (j - h.length) with h0 | h0
        · exact h0
        · rw [List.getElem?_eq_none (by simp; omega)] at h1; cases h1
      rw [this] at h1 h2
      simp at h1 h2
      exact .inl ⟨by omega, h1.symm, h2.1.symm, h2.2.symm⟩
  refine ⟨⟨_, rfl⟩, ⟨?_, by simp [hr.len], ?_, ?_, ?_⟩, by rw [putB_size]; exact Nat.le_refl _, Nat.min_le_left _ _, Nat.min_le_left _ _, ?_, ?_, ?_, ?_⟩
  · refine ⟨hr.below.os, hr.below.tape, hr.below.output, by rw [putB_size]; exact hr.below.size, fun k hk => ?_⟩
    rw [putB_ne w c' b.e (by omega)]
    exact hr.below.block k hk
  · intro j b0 hb0
    rcases Nat.lt_or_ge j h.length with hj | hj
    · rw [List.getElem?_append_left (by rw [hlen]; exact hj), List.getElem?_set] at hb0
      split at hb0
      · simp at hb0
      · obtain ⟨r0, K0, h0⟩ := hr.real j b0 hb0
        exact ⟨r0, K0, mle _ _ h0⟩
    · have : j = h.length := by
        rw [List.getElem?_append_right (by rw [hlen]; exact hj), hlen] at hb0
        rcases Nat.eq_zero_or_pos (j - h.length) with h0 | h0
        · omega
        · rw [List.getElem?_eq_none (by simp; omega)] at hb0; cases hb0
      subst this
      exact ⟨r, K, by rw [← hr.len]; simp⟩
  · intro j b0 r0 K0 hb0
    rcases other _ _ _ _ hb0 with ⟨-, rfl, rfl, rfl⟩ | ⟨-, hne, hb0⟩
    · refine ⟨hB, .inl ⟨rfl, c', putB_get w _ _ _ hrlt, by rw [hs, hsz]; rfl, by rw [hs]; exact hcs, fun j hj => ?_⟩⟩
      have hj' : j < cs.length := hj
      show VR E.rl _ ((Tr.mk cs).get j) _
      rw [get_mk]
      exact (hv j (cs.getD j und) (by simp [hj'])).mono mle
    · obtain ⟨g0, gb⟩ := hr.blk _ _ _ _ hb0
      have hrr : r ≠ r0 := fun e => hne (hr.inj _ _ _ _ _ _ _ hb0 (e ▸ hl))
      exact ⟨g0, by rw [putB_ne w c' b.e hrr]; exact gb.mono mle⟩
  · intro j1 j2 b1 b2 r0 K1 K2 h1 h2
    rcases other _ _ _ _ h1 with ⟨e1, -, e2, -⟩ | ⟨-, n1, k1⟩
    · rcases other _ _ _ _ h2 with ⟨e3, -, -, -⟩ | ⟨-, n2, k2⟩
      · rw [e1, e3]
      · subst e2; exact absurd (hr.inj _ _ _ _ _ _ _ k2 hl) n2
    · rcases other _ _ _ _ h2 with ⟨-, -, e4, -⟩ | ⟨-, n2, k2⟩
      · subst e4; exact absurd (hr.inj _ _ _ _ _ _ _ k1 hl) n1
      · exact hr.inj _ _ _ _ _ _ _ k1 k2
  · intro j hj hjl
    have hne : i ≠ j := by omega
    refine ⟨by rw [List.getElem?_append_left (by rw [hlen]; exact hjl)]; exact List.getElem?_set_ne hne, fun b0 r0 K0 hb0 => ?_⟩
    have hrr : r ≠ r0 := fun e => hne (hr.inj _ _ _ _ _ _ _ (e ▸ hl) hb0)
    exact putB_ne w c' b.e hrr
  · intro j hj hjl b0 hb0
    have hne : i ≠ j := by omega
    rw [List.getElem?_append_left (by rw [hlen]; exact hjl), List.getElem?_set_ne hne] at hb0
    exact ⟨b0, hb0, rfl, ⟨rfl, rfl⟩, fun _ _ => .inr rfl⟩
  · intro r0 _ hno
    exact putB_ne w c' b.e fun e => hno i b K (e ▸ hl)
  · intro j b0 r0 K0 hb0 _
    rcases other _ _ _ _ hb0 with ⟨-, -, rfl, -⟩ | ⟨-, -, hb0⟩
    · exact ⟨_, b, K, hl⟩
    · exact ⟨_, _, _, hb0⟩

theorem size_zeroCells (z : Array Value) (n : Nat) : (Builtin.zeroCells z n).size = n * z.size := by simp [Builtin.zeroCells]

theorem LR.left {rl : Rl} {x : List AVal} {x' y' : Array Value} (hx : LR rl m x x') : x.length ≤ (x' ++ y').size ∧ ∀ i v, x[i]? = some v → VR rl m v ((x' ++ y').getD i undef) := by
  refine ⟨by rw [hx.1]; simp, fun i v hv => ?_⟩
  have := hx.2 i v hv
  have hi : i < x'.size := by rw [← hx.1]; exact (List.getElem?_eq_some_iff.1 hv).1
  simpa [Array.getD_eq_getD_getElem?, Array.getElem?_append_left hi] using this

variable {o : Oper} {a : Act} {st st' : St} {v : AVal}

/-- where append makes a new block -/
theorem app_new {x y : Operand} {t u e e2 : TypeId} {s len cap n : Nat} {A : Option Addr} {i : TypeInfo} {zv : Value} {old ys : List AVal} {old' ys' : Array Value} (hE : E.Ok) {h1 : Heap} (hr1 : HR E m h1 w)
    (ho : o.op = .call { callee := .builtin .append, args := #[x, y], argTypes := #[t, u] })
    (hu : E.P.underlying t = some (.slice e)) (hu2 : E.P.underlying u = some (.slice e2)) (hsz : csize E.P e = some s) (hi : E.P.info? e = some i) (hz0 : i.zero = some zv) (hzs : zv.cells.size = s)
    (ex : a.eval x = .slice A len cap) (hlen : ∀ w2, (Builtin.lenOf (a.eval y)).run E.P w2 = .ok n w2) (hnew : ∀ w2, w2.heap = w.heap → (Builtin.firstCells s n (a.eval y)).run E.P w2 = .ok ys' w2)
    (hold : ∀ w2, w2.heap = w.heap → (Builtin.firstCells s len (.slice A len cap)).run E.P w2 = .ok old' w2) (hgt : cap < len + n) (hf : fits (len + n) i.bytes = true)
    (lo : LR E.rl m old old') (ly : LR E.rl m ys ys') (hol : old.length = len * s) (hyl : ys.length = n * s) (lw lp : Nat) :
    ∃ nc w', len + n ≤ nc ∧ (execOp a.eval o).run E.P w = .ok (.value (.slice (some ⟨w.heap.size, 0, none⟩) (len + n) nc)) w' ∧
      Tn E m h1 lw lp w (m ++ [some (w.heap.size, nc)]) (h1 ++ [some (blkOf e (old ++ ys))]) lw lp w' := by
  obtain ⟨nc, hnc, hrun⟩ := app_run_new (E := E) (w := w) ho hu hu2 hsz hi hz0 ex hlen hnew hold hgt hf
  refine ⟨nc, _, hnc, hrun, ?_⟩
  have T1 := Tn.drew hr1 lw lp
  have hk : (old' ++ ys' ++ Builtin.zeroCells zv.cells (nc - (len + n))).size = nc * E.P.cellsOf e := by
    rw [Array.size_append, Array.size_append, size_zeroCells, ← lo.1, ← ly.1, hol, hyl, hzs, csize_cells hsz, ← Nat.add_mul, ← Nat.add_mul]
    congr 1; omega
  have T2 := hr1.drew.newB hE (e := e) (K := nc) (cs := old ++ ys) (.inr (lo.app ly).left) hk lw lp
  exact Tn.trans hr1 T1 T2

theorem stp_app {x y : Operand} {t u e e2 : TypeId} {s by_ : Nat} {x' y' : AOpd} {z : List AVal} (hE : E.Ok) (hr : HR E m st.h w) (ho : o.op = .call { callee := .builtin .append, args := #[x, y], argTypes := #[t, u] })
    (hu : E.P.underlying t = some (.slice e)) (hu2 : E.P.underlying u = some (.slice e2)) (hsz : csize E.P e = some s) (_hs0 : s ≠ 0)
    (hby : cbytes E.P e = some by_) (hz : czero E.P e = some z) (hx : copd x = some x') (hy : copd y = some y') (ht : TRk E.rl m st.t a (opdT x' ++ opdT y')) (hs : stepK E.ro st (.app e s by_ z x' y') = some (v, st')) : Stp E o a m st w v st' := by
  have rx := copd_sound hx (rl := E.rl) (m := m) (t := st.t) (a := a) (ht.mem fun n hn => by simp [hn])
  have ry := copd_sound hy (rl := E.rl) (m := m) (t := st.t) (a := a) (ht.mem fun n hn => by simp [hn])
  obtain ⟨i, zv, hi, hz0, hcv, hlen⟩ := czero_sound hz
  have his : i.size = s := by obtain ⟨i', h1, h2⟩ := csize_info hsz; rw [hi] at h1; cases h1; exact h2
  have hib : i.bytes = by_ := by simpa [cbytes, hi] using hby
  have hzs : zv.cells.size = s := by
    obtain ⟨c1, -⟩ := cvals_sound hcv E.rl m
    rw [← his, ← hlen, c1]; simp
  subst hib
  simp only [stepK, st_app] at hs
  split at hs
  · cases hs
  · rename_i ys n hsrc
    obtain ⟨hyl, hln, ys', ly, hyr⟩ := app_src_sound hE hr ry hsrc
    split at hs
    · rename_i ex
      rw [ex] at rx
      cases hn : Nat.beq n 0
      · rw [hn] at hs
        simp only [cond_false] at hs
        cases hf : fits n i.bytes
        · rw [hf] at hs; cases hs
        rw [hf] at hs
        cases hs
        have hn0 : n ≠ 0 := fun e => by subst e; simp at hn
        obtain ⟨nc, w', h1, h2, T⟩ := app_new (old := []) (old' := #[]) (len := 0) (cap := 0) (A := none) hE hr ho hu hu2 hsz hi hz0 hzs rx.inv_nsl hln hyr (fun _ _ => rfl) (by omega) (by simpa using hf) ⟨rfl, by simp⟩ ly (by simp) hyl st.lw st.lp
        simp only [Nat.zero_add, List.nil_append] at h1 h2 T
        exact ⟨rfl, _, w', _, .inl h2, .slg _ _ _ _ (by simp [← hr.len]) h1, T⟩
      · rw [hn] at hs
        cases hs
        have hn0 : n = 0 := Nat.eq_of_beq_eq_true hn
        subst hn0
        exact ⟨rfl, _, w, m, .inl (app_run_nil ho hu hu2 hsz rx.inv_nsl hln (hyr w rfl)), .nsl, Tn.refl hr _ _⟩
    · rename_i q len c ex
      rw [ex] at rx
      obtain ⟨p, c', e', hp, hcap⟩ := rx.inv_sl
      split at hs
      · rename_i c0
        have hcc : c' = c0 := hcap
        subst hcc
        simp only [app_known] at hs
        cases hle : Nat.ble (len + n) c'
        · rw [hle] at hs
          simp only [cond_false] at hs
          split at hs
          · rename_i b hb
            cases hcond : (Nat.ble (q.off + len * s) b.n && fits (len + n) i.bytes)
            · rw [hcond] at hs; cases hs
            rw [hcond] at hs
            cases hs
            simp only [Bool.and_eq_true] at hcond
            obtain ⟨old', lo, hor⟩ := first_sound hE hr hp hb (len * s) (Nat.le_of_ble_eq_true hcond.1)
            have hgt : c' < len + n := by
              rcases Nat.lt_or_ge c' (len + n) with h | h
              · exact h
              · rw [Nat.ble_eq_true_of_le h] at hle; cases hle
            obtain ⟨nc, w', h1, h2, T⟩ := app_new (old := b.c.row q.off (len * s)) (old' := old') (A := some p) hE hr ho hu hu2 hsz hi hz0 hzs e' hln hyr (fun w2 hw2 => hor w2 hw2) hgt hcond.2 lo ly (length_row _ _ _) hyl st.lw st.lp
            exact ⟨rfl, _, w', _, .inl h2, .slg _ _ _ _ (by simp [← hr.len]) h1, T⟩
          · cases hs
        · rw [hle] at hs
          simp only [cond_true] at hs
          have hle' := Nat.le_of_ble_eq_true hle
          cases hn : Nat.beq (n * s) 0
          · rw [hn] at hs
            simp only [cond_false] at hs
            split at hs
            · rename_i h' hw
              cases hs
              obtain ⟨w', h1, T⟩ := wrH_sound hr (addr_off hp (len * s)) ly hw st.lw st.lp
              exact ⟨rfl, _, w', m, .inl (app_run_in ho hu hu2 hsz e' hln (hyr w rfl) h1 hle'), .slk _ _ _ _ hp, T⟩
            · cases hs
          · rw [hn] at hs
            cases hs
            have hn0 : n * s = 0 := Nat.eq_of_beq_eq_true hn
            have hy0 : ys'.toList = [] := by
              have : ys'.size = 0 := by rw [← ly.1, hyl, hn0]
              simpa using this
            exact ⟨rfl, _, w, m, .inl (app_run_in (w' := w) ho hu hu2 hsz e' hln (hyr w rfl) (by rw [hy0]; rfl) hle'), .slk _ _ _ _ hp, Tn.refl hr _ _⟩
      · simp only [app_grow] at hs
        obtain ⟨g1, g2, ⟨r, hmr⟩, g3⟩ := hcap
        cases hcond : (q.ro || !Nat.beq q.off 0 || Nat.beq n 0)
        · rw [hcond] at hs
          simp only [cond_false, lget_eq] at hs
          split at hs
          · rename_i b hb
            cases hc2 : (Nat.beq b.e e && Nat.ble (len * s) b.n && fits (len + n) i.bytes && ones ys && Nat.blt 0 b.n)
            · rw [hc2] at hs; cases hs
            rw [hc2] at hs
            cases hs
            simp only [Bool.and_eq_true] at hc2
            obtain ⟨⟨⟨⟨d1, d2⟩, d3⟩, d4⟩, d5⟩ := hc2
            rw [Nat.blt_eq] at d5
            have d1 := Nat.eq_of_beq_eq_true d1
            have d2 := Nat.le_of_ble_eq_true d2
            subst d1
            have live : Live m st.h q.b b r c' := ⟨hb, hmr⟩
            obtain ⟨hB, hbk⟩ := hr.blk _ _ _ _ live
            obtain ⟨cc, hc1, hcs, hcn, hcv⟩ := hbk.cells (by omega)
            have hpr : p = ⟨r, 0, none⟩ := by
              have := hp
              unfold addr at this
              rw [g1, hmr] at this
              simp [g2] at this
              exact this.symm
            have hrdb : rdB E.ro st.h q = some b := by
              unfold rdB; rw [g1]; simp only [cond_false, lget_eq, hb]
            rw [lset_eq]
            by_cases hle : len + n ≤ c'
            · have hyl' : ys'.toList.length = n * s := by rw [← hyl, ly.1]; simp
              have hszc : cc.size = c' * s := by rw [hcs, csize_cells hsz]
              have hfit : len * s + n * s ≤ cc.size := by rw [hszc, ← Nat.add_mul]; exact Nat.mul_le_mul_right _ hle
              have hst := storeCells_run (P := E.P) (off := len * s) ys'.toList 0 w cc hc1 (by rw [hyl']; omega) (ly.ones d4)
              have hpa : p.add (len * s) = ⟨r, len * s, none⟩ := by rw [hpr, addr_add rfl]; simp
              have T := hr.regrow (c' := spl cc (len * s) ys'.toList) (cs := b.c.row 0 (len * s) ++ ys) live hc1 (size_spl _ _ _) (by rw [List.length_append, length_row, hyl]; exact hfit) (fun j v hv => by
                rw [getD_spl _ _ _ _ (by rw [hyl']; exact hfit)]
                by_cases hj : j < len * s
                · rw [List.getElem?_append_left (by rw [length_row]; exact hj), getElem?_row, if_pos hj] at hv
                  cases hv
                  rw [if_neg (by omega)]
                  simpa using hcv j (by omega)
                · rw [List.getElem?_append_right (by rw [length_row]; omega), length_row] at hv
                  have hjl := (List.getElem?_eq_some_iff.1 hv).1
                  rw [if_pos (by rw [hyl', ← hyl]; omega)]
                  have := ly.2 _ _ hv
                  simpa [Array.getD_eq_getD_getElem?, List.getD] using this) st.lw st.lp
              refine ⟨rfl, .slice (some p) (len + n) c', _, _, .inl (app_run_in ho hu hu2 hsz e' hln (hyr w rfl) (by rw [hpa]; simpa using hst) hle), ?_, T⟩
              rw [hpr]
              exact .slg _ _ _ _ (by simp [← hr.len]) hle
            · obtain ⟨old', lo, hor⟩ := first_sound hE hr hp hrdb (len * s) (by rw [g2]; omega)
              rw [g2] at lo
              have T0 := HR.kill (i := q.b) hr st.lw st.lp
              obtain ⟨nc, w', h1, h2, T⟩ := app_new (old := b.c.row 0 (len * s)) (old' := old') (A := some p) hE T0.hr ho hu hu2 hsz hi hz0 hzs e' hln hyr (fun w2 hw2 => hor w2 hw2) (by omega) d3 lo ly (length_row _ _ _) hyl (min st.lw q.b) (min st.lp q.b)
              exact ⟨rfl, _, w', _, .inl h2, .slg _ _ _ _ (by simp [← hr.len]) h1, Tn.trans hr T0 T⟩
          · cases hs
        · rw [hcond] at hs; cases hs
      · cases hs
    · cases hs

theorem stp_cpy {x y : Operand} {t u e : TypeId} {s : Nat} {x' y' : AOpd} (hE : E.Ok) (hr : HR E m st.h w) (ho : o.op = .call { callee := .builtin .copy, args := #[x, y], argTypes := #[t, u] })
    (hu : E.P.underlying t = some (.slice e)) (hsz : csize E.P e = some s) (hx : copd x = some x') (hy : copd y = some y') (ht : TRk E.rl m st.t a (opdT x' ++ opdT y')) (hs : stepK E.ro st (.cpy s x' y') = some (v, st')) : Stp E o a m st w v st' := by
  have rx := copd_sound hx (rl := E.rl) (m := m) (t := st.t) (a := a) (ht.mem fun n hn => by simp [hn])
  have ry := copd_sound hy (rl := E.rl) (m := m) (t := st.t) (a := a) (ht.mem fun n hn => by simp [hn])
  simp only [stepK, st_cpy] at hs
  split at hs
  · rename_i q n c e1
    split at hs
    · rename_i q2 n2 c2 e2
      split at hs
      · rename_i b hb
        cases hc : Nat.ble (q2.off + min n2 n * s) b.n
        · rw [hc] at hs; cases hs
        rw [hc] at hs
        simp only [cond_true] at hs
        split at hs
        · rename_i h hw
          cases hs
          rw [e1] at rx; rw [e2] at ry
          obtain ⟨p1, cc1, ex, hp1, -⟩ := rx.inv_sl
          obtain ⟨p2, cc2, ey, hp2, -⟩ := ry.inv_sl
          obtain ⟨cs', hl, hrd⟩ := first_sound hE hr hp2 hb (min n2 n * s) (Nat.le_of_ble_eq_true hc)
          obtain ⟨w', h1, T⟩ := wrH_sound hr hp1 hl hw st.lw st.lp
          rw [mkI_eq]
          refine ⟨rfl, .int .i64 ((min n2 n : Nat) : Int), w', m, .inl ?_, .i _ _, T⟩
          have hmn : Nat.min n2 n = min n2 n := rfl
          simp [execOp, ho, resolve, invoke, builtin, Builtin.copy_, run_und hu, csize_sound hsz, ex, ey, Builtin.lenOf, Builtin.firstCells, hrd, h1, goInt, hmn]
        · cases hs
      · cases hs
    · cases hs
  · cases hs

end
end Go.Vm

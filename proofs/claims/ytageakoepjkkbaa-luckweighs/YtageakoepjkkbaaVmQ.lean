/- What a call leaves behind may be dropped where nothing points to it. -/
import Derived.Test.YtageakoepjkkbaaVmO
namespace Go.Vm
open Go.RowKit

theorem addr_fun {rl : Rl} {m m' : M} (h : Mle m m') {q : Loc} {a a' : Addr} (h1 : addr rl m q = some a) (h2 : addr rl m' q = some a') : a = a' := by
  have := addr_mono h h1
  rw [h2] at this
  exact (Option.some.inj this).symm

/-- a value that has a reading under fewer blocks reads there as it does under more -/
theorem VR.down {rl : Rl} {m m' : M} (h : Mle m m') {v : AVal} {x : Value} (hx : VR rl m v x) : ∀ {v' : Value}, VR rl m' v v' → VR rl m v v' := by
  induction hx with
  | b x => intro v' h'; cases h'; exact .b x
  | i k n => intro v' h'; cases h'; exact .i k n
  | s l => intro v' h'; cases h'; exact .s l
  | pn => intro v' h'; cases h'; exact .pn
  | p q a ha =>
    intro v' h'
    cases h' with
    | p _ a' ha' => rw [← addr_fun h ha ha']; exact .p q a ha
  | nsl => intro v' h'; cases h'; exact .nsl
  | slk q a len c ha =>
    intro v' h'
    cases h' with
    | slk _ a' _ _ ha' => rw [← addr_fun h ha ha']; exact .slk q a len c ha
  | slg b r K len hb hl =>
    intro v' h'
    cases h' with
    | slg _ r' K' _ hb' hl' =>
      have := h _ _ hb
      rw [hb'] at this
      simp at this
      obtain ⟨rfl, rfl⟩ := this
      exact .slg b _ _ len hb hl
  | sla q a len c ha hl =>
    intro v' h'
    cases h' with
    | sla _ a' _ c' ha' hl' => rw [← addr_fun h ha ha']; exact .sla q a len c' ha hl'
  | esl o c => intro v' h'; cases h'; exact .esl _ _
  | mp b r K hb =>
    intro v' h'
    cases h' with
    | mp _ r' K' hb' =>
      have := h _ _ hb
      rw [hb'] at this
      simp at this
      obtain ⟨rfl, rfl⟩ := this
      exact .mp b _ _ hb
  | yld b r K hb =>
    intro v' h'
    cases h' with
    | yld _ r' K' hb' =>
      have := h _ _ hb
      rw [hb'] at this
      simp at this
      obtain ⟨rfl, rfl⟩ := this
      exact .yld b _ _ hb
  | fn f a c a' c' ha hc _ _ h1 h2 =>
    intro v' h'
    cases h' with
    | fn _ _ _ a2 c2 ha2 hc2 g1 g2 => exact .fn f a c a2 c2 ha2 hc2 (fun i v hv => h1 i v hv (g1 i v hv)) (fun i v hv => h2 i v hv (g2 i v hv))
  | nfn => intro v' h'; cases h'; exact .nfn
  | agg cs cs' hl _ h1 =>
    intro v' h'
    cases h' with
    | agg _ c2 hl2 g => exact .agg cs c2 hl2 fun i v hv => h1 i v hv (g i v hv)
  | tup cs cs' hl _ h1 =>
    intro v' h'
    cases h' with
    | tup _ c2 hl2 g => exact .tup cs c2 hl2 fun i v hv => h1 i v hv (g i v hv)
  | ifc ty v v1 _ h1 =>
    intro v' h'
    cases h' with
    | ifc _ _ v2 g => exact .ifc ty v v2 (h1 g)
  | bm name v v1 _ h1 =>
    intro v' h'
    cases h' with
    | bm _ _ v2 g => exact .bm name v v2 (h1 g)

theorem VR.of_scalar {rl : Rl} {m m' : M} {v : AVal} {v' : Value} (hs : v.scalar = true) (h : VR rl m' v v') : VR rl m v v' := by
  cases h <;> first | (simp [AVal.scalar] at hs; done) | constructor

theorem bels_mem (L : Nat) : ∀ {l : List AVal}, bels L l = true → ∀ (i : Nat) (v : AVal), l[i]? = some v → v.bel L = true
  | [], _, i, v, h => by simp at h
  | x :: l, hb, i, v, h => by
    simp only [bels, Bool.and_eq_true] at hb
    cases i with
    | zero => simp at h; subst h; exact hb.1
    | succ i => exact bels_mem L hb.2 i v (by simpa using h)

theorem addr_bel {rl : Rl} {m x : M} {q : Loc} {a : Addr} (hb : (q.ro || Nat.blt q.b m.length) = true) (h : addr rl (m ++ x) q = some a) : addr rl m q = some a := by
  unfold addr at *
  cases hr : q.ro
  · rw [hr] at h hb
    simp only [Bool.false_or] at hb
    rw [Nat.blt_eq] at hb
    simp only [Bool.false_eq_true, if_false] at h ⊢
    rw [List.getElem?_append_left hb] at h
    exact h
  · rw [hr] at h; simpa using h

theorem VR.of_bel {rl : Rl} {m x : M} {v : AVal} {v' : Value} (h : VR rl (m ++ x) v v') (hb : v.bel m.length = true) : VR rl m v v' := by
  induction h with
  | b x => exact .b x
  | i k n => exact .i k n
  | s l => exact .s l
  | pn => exact .pn
  | p q a ha => exact .p q a (addr_bel (by simpa [AVal.bel] using hb) ha)
  | nsl => exact .nsl
  | slk q a len c ha => exact .slk q a len c (addr_bel (by simpa [AVal.bel] using hb) ha)
  | slg b r K len hm hl =>
    have hlt : b < m.length := by simpa [AVal.bel, Nat.blt_eq] using hb
    rw [List.getElem?_append_left hlt] at hm
    exact .slg b r K len hm hl
  | sla q a len c ha hl => exact .sla q a len c (addr_bel (by simpa [AVal.bel] using hb) ha) hl
  | esl o c => exact .esl o c
  | mp b r K hm =>
    have hlt : b < m.length := by simpa [AVal.bel, Nat.blt_eq] using hb
    rw [List.getElem?_append_left hlt] at hm
    exact .mp b r K hm
  | yld b r K hm =>
    have hlt : b < m.length := by simpa [AVal.bel, Nat.blt_eq] using hb
    rw [List.getElem?_append_left hlt] at hm
    exact .yld b r K hm
  | fn f a c a' c' ha hc _ _ h1 h2 =>
    simp only [AVal.bel, Bool.and_eq_true] at hb
    exact .fn f a c a' c' ha hc (fun i v hv => h1 i v hv (bels_mem _ hb.1 i v hv)) (fun i v hv => h2 i v hv (bels_mem _ hb.2 i v hv))
  | nfn => exact .nfn
  | agg cs cs' hl _ h1 =>
    simp only [AVal.bel] at hb
    exact .agg cs cs' hl fun i v hv => h1 i v hv (bels_mem _ hb i v hv)
  | tup cs cs' hl _ h1 =>
    simp only [AVal.bel] at hb
    exact .tup cs cs' hl fun i v hv => h1 i v hv (bels_mem _ hb i v hv)
  | ifc ty v v1 _ h1 =>
    simp only [AVal.bel] at hb
    exact .ifc ty v v1 (h1 hb)
  | bm name v v1 _ h1 =>
    simp only [AVal.bel] at hb
    exact .bm name v v1 (h1 hb)

section
variable {E : Env} {m m' : M} {h : Heap} {w w' : World} {v : AVal} {v' : Value}

theorem gc_sound {st : St} {h2 : Heap} {lw lp : Nat} {u : AVal} (hr : HR E m h w) (T : Tn E m h h.length h.length w m' st.h st.lw st.lp w') (hv : VR E.rl m' v v') (hg : gc h.length v st = (u, h2, lw, lp)) :
    u = v ∧ ∃ m2, VR E.rl m2 v v' ∧ Tn E m h h.length h.length w m2 h2 lw lp w' := by
  unfold gc at hg
  split at hg
  · rename_i hc
    simp only [Prod.mk.injEq] at hg
    obtain ⟨rfl, rfl, rfl, rfl⟩ := hg
    simp only [Bool.and_eq_true] at hc
    obtain ⟨c1, c2⟩ := hc
    have c1 := Nat.le_of_ble_eq_true c1
    obtain ⟨x, hx⟩ := T.ext
    subst hx
    have hlm : h.length = m.length := hr.len.symm
    have hll := T.lenle hr
    have up : ∀ i b r K, Live m (st.h.take h.length) i b r K → Live (m ++ x) st.h i b r K ∧ i < h.length := by
      intro i b r K ⟨h1, h2⟩
      rw [List.getElem?_take] at h1
      split at h1
      · rename_i hi
        exact ⟨⟨h1, by rw [List.getElem?_append_left (by rw [hr.len]; exact hi)]; exact h2⟩, hi⟩
      · cases h1
    refine ⟨rfl, m, hv.of_bel (by rw [← hlm]; exact c2), ⟨[], by simp⟩, ⟨T.hr.below, by simp [hr.len]; omega, ?_, ?_, ?_⟩, T.size, T.lwle, T.lple, ?_, ?_, T.keepo, ?_⟩
    · intro i b hb
      rw [List.getElem?_take] at hb
      split at hb
      · rename_i hi
        obtain ⟨r, K, h0⟩ := T.hr.real i b hb
        rw [List.getElem?_append_left (by rw [hr.len]; exact hi)] at h0
        exact ⟨r, K, h0⟩
      · cases hb
    · intro i b r K hl
      obtain ⟨hl', hi⟩ := up i b r K hl
      obtain ⟨g0, gb⟩ := T.hr.blk i b r K hl'
      refine ⟨g0, ?_⟩
      rcases gb with ⟨gg, c, g1, g2, g3, g4⟩ | gm | ⟨g1, L, s, p, rc, g2, g3, k1, k2, k3, k4, k5, k6, k7, k8, k9, k10, k11⟩
      rotate_left
      · exact .inr (.inl gm)
      · refine .inr (.inr ⟨g1, L, s, p, rc, g2, g3, k1, k2, k3, k4, k5, k6, k7, k8, k9, fun n hn => ?_, k11⟩)
        obtain ⟨b0, e0, -, ⟨-, efx⟩, -⟩ := T.keepp i (Nat.lt_of_lt_of_le hi c1) hi b hl'.1
        have hfx : b0.fix = some L := by rw [← efx]; simp [ABlk.fix, g2]
        obtain ⟨-, kb⟩ := hr.blk i b0 r K ⟨e0, hl.2⟩
        rcases kb with ⟨q0, -⟩ | ⟨-, _, _, _, q0, -⟩ | ⟨-, L0, s0, p0, r0, q0, -, -, -, -, -, -, -, -, -, -, q2, -⟩
        · simp [ABlk.fix, q0] at hfx
        · simp [ABlk.fix, q0] at hfx
        · simp only [ABlk.fix, q0, Option.some.injEq] at hfx
          subst hfx
          exact (q2 n hn).down (Mle.app m x) (k10 n hn)
      · refine .inl ⟨gg, c, g1, g2, g3, fun j hj => ?_⟩
        obtain ⟨b0, e0, -, ⟨en, -⟩, e1⟩ := T.keepp i (Nat.lt_of_lt_of_le hi c1) hi b hl'.1
        rcases e1 j hj with hs | he
        · exact (g4 j hj).of_scalar hs
        · obtain ⟨-, kb⟩ := hr.blk i b0 r K ⟨e0, hl.2⟩
          obtain ⟨c0, -, -, -, k4⟩ := kb.cells (by rw [← en]; omega)
          have := k4 j (by rw [← en]; exact hj)
          rw [← he] at this
          exact this.down (Mle.app m x) (g4 j hj)
    · intro i j b b' r K K' h1 h2
      exact T.hr.inj _ _ _ _ _ _ _ (up _ _ _ _ h1).1 (up _ _ _ _ h2).1
    · intro i hi hil
      obtain ⟨k1, k2⟩ := T.keepw i hi hil
      exact ⟨by rw [List.getElem?_take, if_pos hil]; exact k1, k2⟩
    · intro i hi hil b' hb'
      rw [List.getElem?_take, if_pos hil] at hb'
      exact T.keepp i hi hil b' hb'
    · intro i b r K hl hrs
      exact T.own i b r K (up _ _ _ _ hl).1 hrs
  · simp only [Prod.mk.injEq] at hg
    obtain ⟨rfl, rfl, rfl, rfl⟩ := hg
    exact ⟨rfl, m', hv, T⟩

theorem Tn.relax {lw lp lw' lp' lw0 lp0 : Nat} {h' : Heap} (T : Tn E m h lw lp w m' h' lw' lp' w') : Tn E m h lw0 lp0 w m' h' (min lw0 lw') (min lp0 lp') w' :=
  ⟨T.ext, T.hr, T.size, Nat.min_le_left _ _, Nat.min_le_left _ _, fun i hi => T.keepw i (Nat.lt_of_lt_of_le hi (Nat.min_le_right _ _)), fun i hi => T.keepp i (Nat.lt_of_lt_of_le hi (Nat.min_le_right _ _)), T.keepo, T.own⟩

end
end Go.Vm

/- Regions whose order is open: one operation more. -/
import Derived.Test.YtageakoepjkkbaaVmZ
namespace Go.Vm
open Go.RowKit

theorem step_pure {call : Caller} {ro : List ABlk} {h0 : Heap} {o : AOp} {fl : Bool} {s s1 : AnyS} {v : AVal} {k : PK} (hs : StepR call ro h0 (o, fl) s s1 v) (hk : o.k = .pure k) (hw : wantedA o.g s.t = true) : evP s.t k = some v := by
  rcases hs with ⟨_, s', h1, rfl, _⟩ | ⟨hw', _, _⟩
  · rw [hk] at h1
    simp only [anyK, Option.map_eq_some_iff] at h1
    obtain ⟨u, hu, e⟩ := h1
    cases e
    exact hu
  · rw [hw] at hw'; cases hw'

section
variable {ds : List Deferred} {E : Env} {call : Caller} {ops : Array Oper} {l : List AOp} {ms : List Nat} {nt : Nat} {m : M} {st : St} {w0 : World} {σ : Nat → AnyS} {val : Nat → AVal} {η : Nat → St} {flg : Nat → Bool}
variable (R : Reg E call ops l ms nt m st w0 σ val η flg) {S : Array Bool} {a : Act} {w w2 : World} {j c c2 : Nat} {x : AOp} {o : Oper} {m1 m2 : M}
include R

/-- what is read now reads as it did in the text's order -/
theorem Reg.read (hE : E.Ok) (hc : Closed ops S) (hh : ∀ (k : Nat) (y : AOp), l[k]? = some y → hardK y.k = true → (Lsd S k = true ↔ (σ k).ws.length < c)) (hcle : c ≤ (σ l.length).ws.length) (ph : Phase E l m st w0 σ η S m1 c w)
    (hun : S.getD j true = false) (hx : l[j]? = some x) {one : Bool} {n : Nat} {xo : AOpd} (hk : x.k = .ld one n xo) (hw : wantedA x.g (σ j).t = true) {ty : TypeId} {ag : Bool} (hag : cagg E.P ty = some ag) (hone : one = !ag) (hn : csize E.P ty = some n) {v' : Value}
    (rx : VR E.rl m1 (opd (σ j).t xo) v') : ∃ p u, v' = .pointer (some p) ∧ (loadVar ty p).run E.P w = .ok u w ∧ VR E.rl m1 (val j) u := by
  obtain ⟨q, hq, hb, hrd, hfl⟩ := step_ld (R.step j x hx) hk hw
  rw [hq] at rx
  obtain ⟨p, e', hp⟩ := rx.inv_p
  subst hone
  have hjl : j < l.length := (List.getElem?_eq_some_iff.1 hx).1
  rcases ph with ⟨hc0, h1, T, hlen, hals⟩ | ⟨hc0, hsoft, T⟩
  · obtain ⟨mx, hmx⟩ := T.ext
    have hp0 : addr E.rl m q = some p := addr_bel (x := mx) (by rw [R.hr.len]; exact hb) (by rw [← hmx]; exact hp)
    obtain ⟨u, g1, g2⟩ := rd_sound hE (R.hr.restrict T) hp0 hag hn hrd
    exact ⟨p, u, e', g1, g2.mono T.mle⟩
  · have hrd' : rd E.ro (η c).h (!ag) n q = some (val j) := by
      cases hf : flg j
      · obtain ⟨k, y, hkl, hy, hhk, hws⟩ := R.ws_cover (Nat.le_refl _) (Nat.lt_of_lt_of_le hc0 hcle)
        have hlk : Lsd S k = true := (hh k y hy hhk).2 (by omega)
        have hbit := R.flag j x hx hf _ _ _ hk k y hy hhk
        have := waits_listed R.edged hc k j hbit hlk
        rw [getD_both hun] at this; cases this
      · have hmem := hfl hf
        obtain ⟨y, hy⟩ := R.ck_grow (i := j + 1) (k := l.length) (by omega) (Nat.le_refl _)
        obtain ⟨c', rfl⟩ : ∃ c', c = c' + 1 := ⟨c - 1, by omega⟩
        have hlt : c' < (σ l.length).ws.reverse.length := by simp; omega
        have hck := (R.ew c' _ _ (List.getElem?_eq_getElem hlt)).2.1
        have := ckOk_mem hck (by rw [hy]; exact List.mem_append_right _ hmem)
        simpa using this
    obtain ⟨u, g1, g2⟩ := rd_sound hE T.hr hp hag hn hrd'
    exact ⟨p, u, e', g1, g2⟩

/-- the next store is that of the text's order -/
theorem Reg.turn (hc : Closed ops S) (hh : ∀ (k : Nat) (y : AOp), l[k]? = some y → hardK y.k = true → (Lsd S k = true ↔ (σ k).ws.length < c)) (hr : j ∈ Region.ready .any ops S) (hx : l[j]? = some x) (hk : hardK x.k = true) : (σ j).ws.length = c := by
  have hun := (mem_ready.1 hr).1
  have hjl : j < l.length := (List.getElem?_eq_some_iff.1 hx).1
  rcases Nat.lt_trichotomy (σ j).ws.length c with h | h | h
  · have := (hh j x hx hk).2 h
    rw [Lsd, getD_both hun] at this; cases this
  · exact h
  · obtain ⟨k, y, hkj, hy, hhk, hws⟩ := R.ws_cover (Nat.le_of_lt hjl) h
    have hb := (R.pairs k j y x hy hx).1 hkj (by simp [mustWait, hhk, hk])
    have := (hh k y hy hhk).1 (waits_ready R.edged hc hr hb)
    omega

theorem Reg.hard_next (hun : S.getD j true = false) (hx : l[j]? = some x) (hk : hardK x.k = true) (hj : (σ j).ws.length = c) (hh : ∀ (k : Nat) (y : AOp), l[k]? = some y → hardK y.k = true → (Lsd S k = true ↔ (σ k).ws.length < c)) :
    ∀ (k : Nat) (y : AOp), l[k]? = some y → hardK y.k = true → (Lsd (S.setIfInBounds j true) k = true ↔ (σ k).ws.length < c + 1) := by
  intro k y hy hk'
  rw [Lsd_set hun]
  by_cases e : k = j
  · subst e; simp; omega
  · have hne := R.st_ne hx hk hy hk' (fun h => e h.symm)
    rw [decide_eq_false e, Bool.or_false, hh k y hy hk']
    omega

theorem Reg.step_wp (hE : E.Ok) (hcall : CallOk E call) (hI : Inv ds E ops l nt m st w0 σ val η S a w) (hr : j ∈ Region.ready .any ops S) {K : Act → World → Prop} {Q : Exit → Act → World → Prop}
    (hK : ∀ a' w', Inv ds E ops l nt m st w0 σ val η (S.setIfInBounds j true) a' w' → K a' w') : wpOp E.P ops Q j K a w := by
  obtain ⟨hc, hd, hsz, m1, c, hslots, hcle, hh, ph⟩ := hI
  obtain ⟨hun, o, ho, hall⟩ := mem_ready.1 hr
  obtain ⟨x, hx, hco⟩ := R.op ho
  obtain ⟨d1, d2, d3⟩ := compO_inv hco
  obtain ⟨i1, i2, i3⟩ := AOp.in_spec (R.hin j x hx)
  have hjl : j < l.length := (List.getElem?_eq_some_iff.1 hx).1
  have hs := R.step j x hx
  obtain ⟨hak, hgn⟩ := R.guards j x hx
  have hop : ∀ s, s ∈ x.looks → s < nt → VR E.rl m1 ((σ j).t.get s) (a.tmps.getD s undef) := fun s hs hlt => by
    rw [← R.operand hc hr hx hs]; exact hslots s hlt
  have htk : TRk E.rl m1 (σ j).t a x.k.looks := fun s hs => hop s (by simp [AOp.looks, hs]) (i1 s hs)
  have hwq : Region.wanted o (yielded ops a.tmps) = wantedA x.g (σ j).t := wanted_eq1 d2 fun s want hg => ⟨by rw [hsz]; exact i2 s want hg, hop s (by simp [AOp.looks, hg]) (i2 s want hg)⟩
  have nxt : ∀ {m2 : M} {v' : Value} {c2 : Nat} {w2 : World}, Mle m1 m2 → VR E.rl m2 (val j) v' → c2 ≤ (σ l.length).ws.length → (∀ (k : Nat) (y : AOp), l[k]? = some y → hardK y.k = true → (Lsd (S.setIfInBounds j true) k = true ↔ (σ k).ws.length < c2)) →
      Phase E l m st w0 σ η (S.setIfInBounds j true) m2 c2 w2 → K (a.put o.dst v') w2 := fun mle hv hc2 hh2 ph2 => hK _ _ (R.next hc hd hsz hslots hr hx d1 mle hv hc2 hh2 ph2)
  have mrefl : Mle m1 m1 := fun _ _ h => h
  have soft0 : softW x.k = true → ∃ h1, c = 0 ∧ Tn E m st.h st.h.length st.h.length w0 m1 h1 st.h.length st.h.length w ∧ h1.length = (σ l.length).h.length ∧
      ∀ (j : Nat) (x : AOp) (e : Nat) (z : List AVal), l[j]? = some x → x.k = .al e z → h1[(σ j).h.length]? = some (if Lsd S j then some (blkOf e z) else none) ∧ (Lsd S j = false → m1[(σ j).h.length]? = some none) := by
    intro hsw
    rcases ph with ⟨hc0, h1, T, hlen, hals⟩ | ⟨hc0, hso, T⟩
    · exact ⟨h1, hc0, T, hlen, hals⟩
    · have := hso j x hx hsw
      rw [Lsd, getD_both hun] at this; cases this
  unfold wpOp
  simp only [ho]
  rw [hwq]
  cases hw : wantedA x.g (σ j).t
  · simp only [Bool.false_eq_true, if_false]
    have hv : val j = und := by
      rcases hs with ⟨hw', _⟩ | ⟨_, hv, _⟩
      · rw [hw] at hw'; cases hw'
      · exact hv
    have hgne : x.g ≠ none := fun e => by simp [wantedA, e] at hw
    have hnh : hardK x.k = false := by
      cases h : hardK x.k
      · rfl
      · exact absurd (hgn (.inl h)) hgne
    have hna : ∀ e z, x.k ≠ .al e z := fun e z h => hgne (hgn (.inr (by rw [h]; rfl)))
    exact nxt mrefl (by rw [hv]; exact VR.und _ _) hcle (hard_same hun hx hnh hh) (phase_same hun hx hna ph)
  · simp only [if_true]
    refine .inl ?_
    cases hk : x.k with
    | pure k =>
      rw [hk] at d3 htk
      obtain ⟨v', h1, h2⟩ := pure_sound d3 htk (step_pure hs hk hw)
      exact wp_value (h1 w) (nxt mrefl h2 hcle (hard_same hun hx (by rw [hk]; rfl) hh) (phase_same hun hx (by rw [hk]; intro _ _ h; cases h) ph))
    | ld one n xo =>
      have sh := compK_shape d3
      rw [hk] at sh htk
      obtain ⟨ty, xx, ag, hop', hag, hone, hn, hcx⟩ := sh
      have rx := copd_sound hcx htk
      obtain ⟨p, u, e', g1, g2⟩ := R.read hE hc hh hcle ph hun hx hk hw hag hone hn rx
      exact wp_value (by simp [execOp, hop', e', Instr.loadAt, Instr.sureAddr, g1]) (nxt mrefl g2 hcle (hard_same hun hx (by rw [hk]; rfl) hh) (phase_same hun hx (by rw [hk]; intro _ _ h; cases h) ph))
    | al e z =>
      have sh := compK_shape d3
      rw [hk] at sh
      obtain ⟨hop', hz⟩ := sh
      have hg := hgn (.inr (by rw [hk]; rfl))
      obtain ⟨hv, hh', _⟩ := step_al hs hk hg
      obtain ⟨h1, hc0, T, hlen, hals⟩ := soft0 (by rw [hk]; rfl)
      obtain ⟨i, zv, hi, hz0, hcv, hzl⟩ := czero_sound hz
      obtain ⟨c1, c2⟩ := cvals_sound hcv E.rl []
      have hl : LR E.rl [] z zv.cells := ⟨by simp [c1], fun j u hu => by simpa [Array.getD_eq_getD_getElem?, List.getD] using c2 j u hu⟩
      have hkk : zv.cells.size = 1 * E.P.cellsOf e := by rw [← hl.1, hzl]; simp [Program.cellsOf, hi]
      have hlj : Lsd S j = false := getD_both hun
      obtain ⟨a1, a2⟩ := hals j x e z hx hk
      rw [hlj] at a1
      simp only [Bool.false_eq_true, if_false] at a1
      have hp : st.h.length ≤ (σ j).h.length := by
        obtain ⟨y, hy⟩ := R.hp_grow (i := 0) (k := j) (by omega) (by omega)
        rw [hy, R.s0]; simp
      have hmp := a2 hlj
      obtain ⟨mle, T'⟩ := Tn.fill hE R.hr T hp a1 hmp hl hkk
      have hpm : (σ j).h.length < m1.length := (List.getElem?_eq_some_iff.1 hmp).1
      have hph : (σ j).h.length < h1.length := (List.getElem?_eq_some_iff.1 a1).1
      refine wp_value (v := .pointer (some ⟨w.heap.size, 0, none⟩)) (w' := w.alloc (.cells zv.cells e)) (by simp [execOp, hop', Instr.alloc, run_zero hi hz0, newVar, newRow]) (nxt mle ?_ hcle (hard_same hun hx (by rw [hk]; rfl) hh) (.inl ⟨hc0, _, T', by simp [hlen], fun k y e' z' hy hk' => ?_⟩))
      · rw [hv]
        exact .p _ _ (by simp [addr, hpm])
      · by_cases hkj : k = j
        · subst hkj
          rw [hx] at hy; cases hy
          rw [hk] at hk'; cases hk'
          rw [Lsd_set hun]
          simp [List.getElem?_set_self hph]
        · have hne := R.al_ne hx hk hy hk' (fun h => hkj h.symm)
          rw [Lsd_set hun, decide_eq_false hkj, Bool.or_false, List.getElem?_set_ne hne, List.getElem?_set_ne hne]
          exact hals k y e' z' hy hk'
    | st n xo yo =>
      have sh := compK_shape d3
      rw [hk] at sh htk
      obtain ⟨ty, xx, yy, hop', hn, hcx, hcy⟩ := sh
      have hhk : hardK x.k = true := by rw [hk]; rfl
      have hg := hgn (.inl hhk)
      obtain ⟨q, hq, hlen, hv, _, hws⟩ := step_st hs hk hg
      have hj := R.turn hc hh hr hx hhk
      have hat := R.ws_at hx hws
      rw [hj] at hat
      have hlt := (List.getElem?_eq_some_iff.1 hat).1
      obtain ⟨hwr, _, hlw, hlp⟩ := R.ew _ _ _ hat
      have hsoft : ∀ (k : Nat) (y : AOp), l[k]? = some y → softW y.k = true → Lsd S k = true := fun k y hy hyk => waits_ready R.edged hc hr ((R.pairs k j y x hy hx).2 hyk hhk)
      have T : Tn E m st.h st.lw st.lp w0 m1 (η c).h (η c).lw (η c).lp w := by
        rcases ph with ⟨hc0, h1, T, hlen, hals⟩ | ⟨hc0, _, T⟩
        · have hfull := R.heap_full T hlen fun k y e z hy hyk => by
            have := (hals k y e z hy hyk).1
            rw [hsoft k y hy (by rw [hyk]; rfl)] at this
            simpa using this
          subst hc0
          rw [R.e0, ← hfull]
          exact T.anyL _ _
        · exact T
      have rx := copd_sound hcx (rl := E.rl) (m := m1) (t := (σ j).t) (a := a) (htk.mem fun n hn => by simp [Kind.looks, hn])
      have ry := copd_sound hcy (rl := E.rl) (m := m1) (t := (σ j).t) (a := a) (htk.mem fun n hn => by simp [Kind.looks, hn])
      rw [hq] at rx
      obtain ⟨p, e', hp⟩ := rx.inv_p
      have hl := ry.cells
      obtain ⟨w', h1, T'⟩ := wrH_sound T.hr hp hl hwr (η c).lw (η c).lp
      have hsz' : (a.eval yy).cells.size = n := by rw [← hl.1]; exact hlen
      rw [← hlw, ← hlp] at T'
      refine wp_skip' (w' := w') (by simp [execOp, hop', e', Instr.storeAt, Instr.sureAddr, storeVar, csize_sound hn, hsz', h1]) (nxt mrefl (by rw [hv]; exact VR.und _ _) (c2 := c + 1) (by simp at hlt; omega) (R.hard_next hun hx hhk hj hh) (.inr ⟨by omega, fun k y hy hyk => ?_, Tn.trans R.hr T T'⟩))
      rw [Lsd_set hun, hsoft k y hy hyk, Bool.true_or]
    | call f as =>
      have hg := hgn (.inr (by rw [hk]; rfl))
      obtain ⟨hb, h', lw, lp, hcl, hbel, hle⟩ := step_callf hs hk hg
      rw [hk] at d3 htk
      obtain ⟨cal, args, ats, as', hop', has, hcc⟩ := compK_call rfl d3
      rcases hcc with ⟨f', hcal, e⟩ | ⟨n, hcal, e⟩ | ⟨_, _, _, _, _, e⟩
      · cases e
        subst hcal
        have hl := map_sound has htk
        obtain ⟨henter, hcalls⟩ := R.call_step hcall ph hun hx (by rw [hk]; rfl) (by rw [hk]; intro _ _ h; cases h) hl hb hcl hbel hle
        have hrun : (execOp a.eval o).run E.P w = .ok (.enter f (args.map a.eval)) w := by
          have ef : a.eval (.func f) = .func (.func f) #[] #[] := rfl
          simp [execOp, hop', resolve, ef, Deferred.ofValue, invoke, henter]
        exact enter_wp hrun hcalls fun e w' ⟨v', e1, hv, ph2⟩ => ⟨v', e1, nxt mrefl hv hcle (hard_same hun hx (by rw [hk]; rfl) hh) ph2⟩
      · cases e
      · cases e
    | callv xo as =>
      have hg := hgn (.inr (by rw [hk]; rfl))
      obtain ⟨f, fs, cs, ex, hb, h', lw, lp, hcl, hbel, hle⟩ := step_callv hs hk hg
      rw [hk] at d3 htk
      obtain ⟨cal, args, ats, as', hop', has, hcc⟩ := compK_call rfl d3
      rcases hcc with ⟨f', hcal, e⟩ | ⟨n, hcal, e⟩ | ⟨_, _, _, _, _, e⟩
      · cases e
      · cases e
        subst hcal
        have rx : VR E.rl m1 (opd (σ j).t (.t n)) (a.eval (.tmp n)) := copd_sound (x := .tmp n) rfl (htk.mem fun k hk => by simp only [Kind.looks, List.mem_append]; exact .inl hk)
        have ta : TRk E.rl m1 (σ j).t a (as.flatMap opdT) := htk.mem fun k hk => by simp only [Kind.looks, List.mem_append]; exact .inr hk
        rw [ex] at rx
        obtain ⟨f', c', e', l1, l2, r1, r2⟩ := rx.inv_fn
        have hl0 := map_sound has ta
        have hl : LR E.rl m1 (fs ++ as.map (opd (σ j).t) ++ cs) (f' ++ args.map a.eval ++ c') := (LR.app (LR.app ⟨l1, r1⟩ hl0) ⟨l2, r2⟩)
        obtain ⟨henter, hcalls⟩ := R.call_step hcall ph hun hx (by rw [hk]; rfl) (by rw [hk]; intro _ _ h; cases h) hl hb hcl hbel hle
        have hrun : (execOp a.eval o).run E.P w = .ok (.enter f (f' ++ args.map a.eval ++ c')) w := by
          simp [execOp, hop', resolve, e', Deferred.ofValue, invoke, henter]
        exact enter_wp hrun hcalls fun e w' ⟨v', e1, hv, ph2⟩ => ⟨v', e1, nxt mrefl hv hcle (hard_same hun hx (by rw [hk]; rfl) hh) ph2⟩
      · cases e
    | _ => rw [hk] at hak; cases hak

end
end Go.Vm

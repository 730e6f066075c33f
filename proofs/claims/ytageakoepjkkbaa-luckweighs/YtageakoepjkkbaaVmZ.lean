/- Regions whose order is open: one operation more. -/
import Derived.Test.YtageakoepjkkbaaVmY
namespace Go.Vm
open Go.RowKit

theorem Lsd_set {S : Array Bool} {j : Nat} (hun : S.getD j true = false) (k : Nat) : Lsd (S.setIfInBounds j true) k = (Lsd S k || decide (k = j)) := by
  have hjs : j < S.size := by
    rcases Nat.lt_or_ge j S.size with h | h
    · exact h
    · simp [Array.getD_eq_getD_getElem?, Array.getElem?_eq_none h] at hun
  unfold Lsd
  by_cases h : j = k
  · subst h; simp [Array.getD_eq_getD_getElem?, hjs]
  · rw [getD_set_ne false h]
    have : ¬ k = j := fun e => h e.symm
    simp [this]

section
variable {ds : List Deferred} {E : Env} {call : Caller} {ops : Array Oper} {l : List AOp} {ms : List Nat} {nt : Nat} {m : M} {st : St} {w0 : World} {σ : Nat → AnyS} {val : Nat → AVal} {η : Nat → St} {flg : Nat → Bool}
variable (R : Reg E call ops l ms nt m st w0 σ val η flg) {S : Array Bool} {a : Act} {w w2 : World} {j c c2 : Nat} {x : AOp} {o : Oper} {m1 m2 : M}
include R

theorem Reg.next (hc : Closed ops S) (hd : a.defers = ds) (hsz : a.tmps.size = nt) (hslots : ∀ s, s < nt → VR E.rl m1 (ts (dstOf l) val st.t.get l.length (Lsd S) s) (a.tmps.getD s undef))
    (hr : j ∈ Region.ready .any ops S) (hx : l[j]? = some x) (d1 : x.dst = o.dst) (mle : Mle m1 m2) {v' : Value} (hv : VR E.rl m2 (val j) v') (hc2 : c2 ≤ (σ l.length).ws.length)
    (hh : ∀ (k : Nat) (y : AOp), l[k]? = some y → hardK y.k = true → (Lsd (S.setIfInBounds j true) k = true ↔ (σ k).ws.length < c2)) (ph : Phase E l m st w0 σ η (S.setIfInBounds j true) m2 c2 w2) :
    Inv ds E ops l nt m st w0 σ val η (S.setIfInBounds j true) (a.put o.dst v') w2 := by
  obtain ⟨i1, i2, i3⟩ := AOp.in_spec (R.hin j x hx)
  refine ⟨hc.set hr, by rw [defers_put]; exact hd, ?_, m2, c2, fun s hs => ?_, hc2, hh, ph⟩
  · cases o.dst <;> simp [Act.put, hsz]
  · rw [R.after hc hr hx s, ← d1]
    have old := (hslots s hs).mono mle
    cases hdd : x.dst with
    | none => simpa [Act.put] using old
    | some d =>
      have hdl := i3 d hdd
      by_cases e : d = s
      · subst e
        have : d < a.tmps.size := by rw [hsz]; exact hdl
        simpa [Act.put, Array.getD_eq_getD_getElem?, this] using hv
      · simp only [Option.some.injEq, e, if_false]
        simpa [Act.put, Array.getD_eq_getD_getElem?, Array.getElem?_setIfInBounds_ne e] using old

omit R in
theorem hard_same (hun : S.getD j true = false) (hx : l[j]? = some x) (hnh : hardK x.k = false) (hh : ∀ (k : Nat) (y : AOp), l[k]? = some y → hardK y.k = true → (Lsd S k = true ↔ (σ k).ws.length < c)) :
    ∀ (k : Nat) (y : AOp), l[k]? = some y → hardK y.k = true → (Lsd (S.setIfInBounds j true) k = true ↔ (σ k).ws.length < c) := by
  intro k y hy hk
  have hne : ¬ k = j := fun e => by subst e; rw [hx] at hy; cases hy; rw [hnh] at hk; cases hk
  rw [Lsd_set hun, decide_eq_false hne, Bool.or_false]
  exact hh k y hy hk

omit R in
theorem phase_same (hun : S.getD j true = false) (hx : l[j]? = some x) (hna : ∀ e z, x.k ≠ .al e z) (ph : Phase E l m st w0 σ η S m1 c w) : Phase E l m st w0 σ η (S.setIfInBounds j true) m1 c w := by
  rcases ph with ⟨hc0, h1, T, hlen, hals⟩ | ⟨hc0, hsoft, T⟩
  · refine .inl ⟨hc0, h1, T, hlen, fun k y e z hy hk => ?_⟩
    have hne : ¬ k = j := fun e' => by subst e'; rw [hx] at hy; cases hy; exact hna e z hk
    rw [Lsd_set hun, decide_eq_false hne, Bool.or_false]
    exact hals k y e z hy hk
  · refine .inr ⟨hc0, fun k y hy hk => ?_, T⟩
    rw [Lsd_set hun, hsoft k y hy hk, Bool.true_or]

theorem Reg.heap_full {h1 : Heap} (T : Tn E m st.h st.h.length st.h.length w0 m1 h1 st.h.length st.h.length w) (hlen : h1.length = (σ l.length).h.length)
    (hals : ∀ (j : Nat) (x : AOp) (e : Nat) (z : List AVal), l[j]? = some x → x.k = .al e z → h1[(σ j).h.length]? = some (some (blkOf e z))) : h1 = (σ l.length).h := by
  refine List.ext_getElem? fun i => ?_
  rcases Nat.lt_or_ge i st.h.length with hi | hi
  · rw [(T.keepw i hi hi).1]
    obtain ⟨y, hy⟩ := R.hp_grow (i := 0) (k := l.length) (by omega) (Nat.le_refl _)
    rw [hy, R.s0, List.getElem?_append_left hi]
  · rcases Nat.lt_or_ge i (σ l.length).h.length with hi2 | hi2
    · obtain ⟨j, x, e, z, hx, hk, hp, hN⟩ := R.hp_cover hi hi2
      rw [hN, ← hp, hals j x e z hx hk]
    · rw [List.getElem?_eq_none (by omega), List.getElem?_eq_none hi2]

theorem Reg.call_step (hcall : CallOk E call) (ph : Phase E l m st w0 σ η S m1 c w) (hun : S.getD j true = false) (hx : l[j]? = some x) (hsoft : softW x.k = true) (hna : ∀ e z, x.k ≠ .al e z)
    {f : Nat} {AL : List AVal} {args' : Array Value} (hl : LR E.rl m1 AL args') (hb : bels st.h.length AL = true) {h' : Heap} {lw lp : Nat} (hcl : call f AL st.h = some (val j, h', lw, lp)) (hbel : (val j).bel st.h.length = true) (hle : st.h.length ≤ lw) :
    (∀ args'' w, (callFunc f args'').run E.P w = .ok (.enter f args'') w) ∧ Calls E.P f args' w fun e w2 => ∃ v', e = .returned v' ∧ VR E.rl m1 (val j) v' ∧ Phase E l m st w0 σ η (S.setIfInBounds j true) m1 c w2 := by
  rcases ph with ⟨hc0, h1, T, hlen, hals⟩ | ⟨hc0, hso, T⟩
  · obtain ⟨mx, hmx⟩ := T.ext
    have hl0 : LR E.rl m AL args' := ⟨hl.1, fun i v hi => VR.of_bel (x := mx) (by rw [← hmx]; exact hl.2 i v hi) (by rw [R.hr.len]; exact bels_mem _ hb i v hi)⟩
    obtain ⟨h3, h4⟩ := hcall _ _ _ _ _ _ _ hcl
    refine ⟨h3, Calls.mono (h4 m w args' (R.hr.restrict T) hl0) fun e w2 ⟨v', e1, m', hv, T2⟩ => ⟨v', e1, ?_, ?_⟩⟩
    · obtain ⟨my, hmy⟩ := T2.ext
      exact (VR.of_bel (x := my) (by rw [← hmy]; exact hv) (by rw [R.hr.len]; exact hbel)).mono T.mle
    · exact phase_same hun hx hna (.inl ⟨hc0, h1, Tn.call R.hr T T2 hle, hlen, hals⟩)
  · have := hso j x hx hsoft
    rw [Lsd, getD_both hun] at this; cases this

end
end Go.Vm

/- Regions whose order is open: one operation more. -/
import Derived.Test.YtfohppnelbbepaaVmY
namespace Go.Vm
open Go.RowKit
theorem qdv {S : Array Bool} {j : Nat} (hun : S.getD j true = false) (k : Nat) : Lsd (S.setIfInBounds j true) k = (Lsd S k || decide (k = j)) := by
 have hjs : j < S.size := by
  rcases Nat.lt_or_ge j S.size with h | h
  ·exact h
  ·simp [Array.getD_eq_getD_getElem?, Array.getElem?_eq_none h] at hun
 unfold Lsd
 by_cases h : j = k
 ·subst h; simp [Array.getD_eq_getD_getElem?, hjs]
 ·rw [getD_set_ne false h]
  have : ¬ k = j := fun e => h e.symm
  simp [this]
section
variable {ds : List Deferred} {E : Env} {call : qao} {ops : Array Oper} {l : List AOp} {ms : List Nat} {nt : Nat} {m : M} {st : St} {w0 : World} {σ : Nat → AnyS} {val : Nat → AVal} {η : Nat → St} {flg : Nat → Bool}
variable (R : Reg E call ops l ms nt m st w0 σ val η flg) {S : Array Bool} {a : Act} {w w2 : World} {j c c2 : Nat} {x : AOp} {o : Oper} {m1 m2 : M}
include R
theorem Reg.next (hc : Closed ops S) (hd : a.defers = ds) (hsz : a.tmps.size = nt) (hslots : ∀ s, s < nt → VR E.rl m1 (ts (dstOf l) val st.t.get l.length (Lsd S) s) (a.tmps.getD s undef))
  (hr : j ∈ Region.ready .any ops S) (hx : l[j]? = some x) (d1 : x.dst = o.dst) (mle : Mle m1 m2) {v' : Value} (hv : VR E.rl m2 (val j) v') (hc2 : c2 ≤ (σ l.length).ws.length)
  (hh : ∀ (k : Nat) (y : AOp), l[k]? = some y → hardK y.k = true → (Lsd (S.setIfInBounds j true) k = true ↔ (σ k).ws.length < c2)) (ph : Phase E l m st w0 σ η (S.setIfInBounds j true) m2 c2 w2) :
  Inv ds E ops l nt m st w0 σ val η (S.setIfInBounds j true) (a.put o.dst v') w2 := by
 obtain ⟨i1, i2, i3⟩ := AOp.in_spec (R.hin j x hx)
 refine ⟨hc.set hr, by rw [qbq]; exact hd, ?_, m2, c2, fun s hs => ?_, hc2, hh, ph⟩
 ·cases o.dst <;> simp [Act.put, hsz]
 ·rw [R.after hc hr hx s, ← d1]
  have old := (hslots s hs).mono mle
  cases hdd : x.dst with
  | none => simpa [Act.put] using old
  | some d =>
   have hdl := i3 d hdd
   by_cases e : d = s
   ·subst e
    have : d < a.tmps.size := by rw [hsz]; exact hdl
    simpa [Act.put, Array.getD_eq_getD_getElem?, this] using hv
   ·simp only [Option.some.injEq, e, if_false]
    simpa [Act.put, Array.getD_eq_getD_getElem?, Array.getElem?_setIfInBounds_ne e] using old
omit R in
theorem qee (hun : S.getD j true = false) (hx : l[j]? = some x) (hnh : hardK x.k = false) (hh : ∀ (k : Nat) (y : AOp), l[k]? = some y → hardK y.k = true → (Lsd S k = true ↔ (σ k).ws.length < c)) :
  ∀ (k : Nat) (y : AOp), l[k]? = some y → hardK y.k = true → (Lsd (S.setIfInBounds j true) k = true ↔ (σ k).ws.length < c) := by
 intro k y hy hk
 have hne : ¬ k = j := fun e => by subst e; rw [hx] at hy; cases hy; rw [hnh] at hk; cases hk
 rw [qdv hun, decide_eq_false hne, Bool.or_false]
 exact hh k y hy hk
omit R in
theorem qeu (hun : S.getD j true = false) (hx : l[j]? = some x) (hna : (σ (j + 1)).h.length ≤ (σ j).h.length) (ph : Phase E l m st w0 σ η S m1 c w) : Phase E l m st w0 σ η (S.setIfInBounds j true) m1 c w := by
 rcases ph with ⟨hc0, h1, T, hlen, hals⟩ | ⟨hc0, hsoft, T⟩
 ·refine .inl ⟨hc0, h1, T, hlen, fun k hk p hp1 hp2 => ?_⟩
  have hne : ¬ k = j := fun e' => by subst e'; omega
  rw [qdv hun, decide_eq_false hne, Bool.or_false]
  exact hals k hk p hp1 hp2
 ·refine .inr ⟨hc0, fun k y hy hk => ?_, T⟩
  rw [qdv hun, hsoft k y hy hk, Bool.true_or]
theorem Reg.none_more (hx : l[j]? = some x) (h : softW x.k = false) : (σ (j + 1)).h.length ≤ (σ j).h.length := by
 rw [(R.hp j x hx).2 h]; exact Nat.le_refl _
theorem Reg.heap_full {h1 : Heap} (T : Tn E m st.h st.h.length st.h.length w0 m1 h1 st.h.length st.h.length w) (hlen : h1.length = (σ l.length).h.length)
  (hals : ∀ (j : Nat), j < l.length → ∀ p, (σ j).h.length ≤ p → p < (σ (j + 1)).h.length → h1[p]? = (σ l.length).h[p]?) : h1 = (σ l.length).h := by
 refine List.ext_getElem? fun i => ?_
 rcases Nat.lt_or_ge i st.h.length with hi | hi
 ·rw [(T.keepw i hi hi).1]
  obtain ⟨y, hy⟩ := R.hp_grow (i := 0) (k := l.length) (by omega) (Nat.le_refl _)
  rw [hy, R.s0, List.getElem?_append_left hi]
 ·rcases Nat.lt_or_ge i (σ l.length).h.length with hi2 | hi2
  ·obtain ⟨j, hj, hp1, hp2⟩ := R.hp_cover hi hi2
   exact hals j hj i hp1 hp2
  ·rw [List.getElem?_eq_none (by omega), List.getElem?_eq_none hi2]
theorem Reg.call_step (hcall : qbv E call) (ph : Phase E l m st w0 σ η S m1 c w) (hun : S.getD j true = false) (hx : l[j]? = some x) (hsoft : softW x.k = true)
  {f : Nat} {AL : List AVal} {args' : Array Value} (hl : LR E.rl m1 AL args') (hcl : qdy call st.h (σ j).h f AL = some (val j, (σ (j + 1)).h)) :
  (∀ args'' w, (callFunc f args'').run E.P w = .ok (.enter f args'') w) ∧ Calls E.P f args' w fun e w2 => ∃ v' m2, e = .returned v' ∧ Mle m1 m2 ∧ VR E.rl m2 (val j) v' ∧ Phase E l m st w0 σ η (S.setIfInBounds j true) m2 c w2 := by
 have hjl : j < l.length := (List.getElem?_eq_some_iff.1 hx).1
 have hlj : Lsd S j = false := getD_both hun
 rcases ph with ⟨hc0, h1, T, hlen, hals⟩ | ⟨hc0, hso, T⟩
 ·obtain ⟨mx, hmx⟩ := T.ext
  obtain ⟨hb, hor⟩ := callNF_inv hcl
  have hl0 : LR E.rl m AL args' := ⟨hl.1, fun i v hi => VR.of_bel (x := mx) (by rw [← hmx]; exact hl.2 i v hi) (by rw [R.hr.len]; exact qgy _ hb i v hi)⟩
  rcases hor with ⟨hH, h', lw, lp, hcl, hbel, hle⟩ | ⟨hle0, h2, lw, lp, hcl, hle, hH⟩
  ·obtain ⟨h3, h4⟩ := hcall _ _ _ _ _ _ _ hcl
   refine ⟨h3, Calls.mono (h4 m w args' (R.hr.restrict T) hl0) fun e w2 ⟨v', e1, m', hv, T2⟩ => ⟨v', m1, e1, fun _ _ h => h, ?_, ?_⟩⟩
   ·obtain ⟨my, hmy⟩ := T2.ext
    exact (VR.of_bel (x := my) (by rw [← hmy]; exact hv) (by rw [R.hr.len]; exact hbel)).mono T.mle
   ·exact qeu hun hx (by rw [hH]; exact Nat.le_refl _) (.inl ⟨hc0, h1, Tn.call R.hr T T2 hle, hlen, hals⟩)
  ·obtain ⟨h3, h4⟩ := hcall _ _ _ _ _ _ _ hcl
   obtain ⟨k, hk⟩ : ∃ k, k = (σ j).h.length - st.h.length := ⟨_, rfl⟩
   have hn : (σ j).h.length = st.h.length + k := by omega
   rw [← hk] at h4
   have hr0 := (HR.pad (R.hr.restrict T) k st.h.length st.h.length).hr
   refine ⟨h3, Calls.mono (h4 _ w args' hr0 (hl0.mono (Mle.app _ _))) fun e w2 ⟨v', e1, m', hv, T2⟩ => ?_⟩
   have hlb : (st.h ++ List.replicate k none).length = st.h.length + k := by simp
   rw [hlb] at T2
   have hl2 : st.h.length + k ≤ h2.length := by
    have := Tn.lenle hr0 T2
    rwa [hlb] at this
   obtain ⟨c', hc'⟩ : ∃ c', h2.length = st.h.length + k + c' := ⟨h2.length - (st.h.length + k), by omega⟩
   have hlenj : (σ (j + 1)).h.length = st.h.length + k + c' := by rw [hH]; simp; omega
   have hmle : (σ (j + 1)).h.length ≤ (σ l.length).h.length := R.hp_len hjl (Nat.le_refl _)
   have hrange : ∀ p, st.h.length + k ≤ p → p < st.h.length + k + c' → h1[p]? = some none ∧ m1[p]? = some none := fun p hp1 hp2 => by
    obtain ⟨a1, a2⟩ := hals j hjl p (by omega) (by omega)
    rw [hlj] at a1
    exact ⟨by simpa using a1, a2 hlj⟩
   obtain ⟨q1, q2, q3⟩ := Tn.fillCall R.hr T T2 (by omega) hc' hrange
   refine ⟨v', _, e1, q1, hv.mono q2, .inl ⟨hc0, _, q3, by rw [mix_len]; exact hlen, fun i hi p hp1 hp2 => ?_⟩⟩
   by_cases hij : i = j
   ·subst hij
    rw [qdv hun]
    simp only [decide_true, Bool.or_true, if_true]
    refine ⟨?_, fun h => by cases h⟩
    rw [mix_in (by omega) (by omega) (by omega) (by omega)]
    obtain ⟨y, hy⟩ := R.hp_grow (i := i + 1) (k := l.length) hjl (Nat.le_refl _)
    rw [hy, hH, List.append_assoc, List.getElem?_append_right hp1, List.getElem?_append_left (by simp; omega), List.getElem?_drop]
    congr 1; omega
   ·have hout : ¬ (st.h.length + k ≤ p ∧ p < st.h.length + k + c') := fun hh => hij (R.al_ne hi hjl hp1 hp2 (by omega) (by omega))
    rw [qdv hun, decide_eq_false hij, Bool.or_false, qfr hout, qfr hout]
    exact hals i hi p hp1 hp2
 ·have := hso j x hx hsoft
  rw [Lsd, getD_both hun] at this; cases this
end
end Go.Vm

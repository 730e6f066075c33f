/- Regions whose operations on memory are in a chain, with loads that float: whatever the order, the end is that of the text's order. -/
import Derived.Test.YtageakoepjkkbaaVmAA
namespace Go.Vm
open Go.RowKit

def FStep (call : Caller) (ro : List ABlk) (h0 : Heap) (af : Bool) (x : AOp × Bool) (s s1 : St) (v : AVal) : Prop :=
  (wantedA x.1.g s.t = true ∧ ∃ s', fstep call ro h0 af x.2 s x.1.k = some (v, s') ∧ s1 = { s' with t := put s.t x.1.dst v }) ∨
  (wantedA x.1.g s.t = false ∧ v = und ∧ s1 = { s with t := put s.t x.1.dst und })

theorem trace_flt {call : Caller} {ro : List ABlk} {h0 : Heap} {af : Bool} : ∀ (l : List (AOp × Bool)) (st stN : St), runFlt call ro h0 af l st = some stN →
    ∃ (σ : Nat → St) (val : Nat → AVal), σ 0 = st ∧ (∀ (i : Nat) (x : AOp × Bool), l[i]? = some x → FStep call ro h0 af x (σ i) (σ (i + 1)) (val i)) ∧ σ l.length = stN
  | [], st, stN, h => by cases h; exact ⟨fun _ => st, fun _ => und, rfl, by simp, rfl⟩
  | (o, fl) :: l, st, stN, h => by
    have mk : ∀ (s1 : St) (v : AVal), FStep call ro h0 af (o, fl) st s1 v → runFlt call ro h0 af l s1 = some stN →
        ∃ (σ : Nat → St) (val : Nat → AVal), σ 0 = st ∧ (∀ (i : Nat) (x : AOp × Bool), ((o, fl) :: l)[i]? = some x → FStep call ro h0 af x (σ i) (σ (i + 1)) (val i)) ∧ σ ((o, fl) :: l).length = stN := fun s1 v hs hr => by
      obtain ⟨σ, val, e0, e1, e2⟩ := trace_flt l s1 stN hr
      refine ⟨fun | 0 => st | i + 1 => σ i, fun | 0 => v | i + 1 => val i, rfl, fun i x hx => ?_, e2⟩
      cases i with
      | zero =>
        simp at hx
        subst hx
        show FStep call ro h0 af (o, fl) st (σ 0) v
        rw [e0]; exact hs
      | succ i => exact e1 i x (by simpa using hx)
    unfold runFlt at h
    split at h
    · rename_i hw
      split at h
      · rename_i v s' hf
        exact mk _ v (.inl ⟨hw, s', hf, rfl⟩) h
      · cases h
    · rename_i hw
      exact mk _ und (.inr ⟨by simpa using hw, rfl, rfl⟩) h

section
variable {call : Caller} {ro : List ABlk} {h0 : Heap} {af fl : Bool} {o : AOp} {s s1 : St} {v : AVal}
theorem fs_t (hs : FStep call ro h0 af (o, fl) s s1 v) : s1.t = put s.t o.dst v := by
  rcases hs with ⟨_, s', _, rfl⟩ | ⟨_, rfl, rfl⟩ <;> rfl
theorem fs_same (hs : FStep call ro h0 af (o, fl) s s1 v) (hk : memK o.k = false) : s1.h = s.h ∧ s1.lw = s.lw ∧ s1.lp = s.lp := by
  rcases hs with ⟨_, s', h1, rfl⟩ | ⟨_, rfl, rfl⟩
  · unfold fstep at h1
    cases hf : (fl && isLd o.k) with
    | true =>
      rw [hf] at h1
      simp only [cond_true] at h1
      split at h1
      · cases h1; exact ⟨rfl, rfl, rfl⟩
      · cases h1
    | false =>
      rw [hf] at h1
      simp only [cond_false] at h1
      split at h1
      · rename_i u s2 h2
        simp only [hk, Bool.and_false, Bool.false_and, cond_false, Option.some.injEq, Prod.mk.injEq] at h1
        obtain ⟨rfl, rfl⟩ := h1
        cases hkk : o.k <;> rw [hkk] at hk h2 <;> simp only [memK] at hk <;> first | cases hk | skip
        · simp only [stepC, stepK, Option.map_eq_some_iff] at h2
          obtain ⟨_, _, e⟩ := h2
          cases e; exact ⟨rfl, rfl, rfl⟩
        · simp only [stepC, stepK] at h2
          split at h2
          · simp only [Option.map_eq_some_iff] at h2
            obtain ⟨_, _, e⟩ := h2
            cases e; exact ⟨rfl, rfl, rfl⟩
          · cases h2
      · cases h1
  · exact ⟨rfl, rfl, rfl⟩
theorem fs_lw (hs : FStep call ro h0 true (o, fl) s s1 v) (hfl : memK o.k = true → fl = false) (h : h0.length ≤ s.lw) : h0.length ≤ s1.lw := by
  cases hk : memK o.k
  · have := (fs_same hs hk).2.1
    omega
  have hfl' := hfl hk
  subst hfl'
  rcases hs with ⟨_, s', h1, rfl⟩ | ⟨_, rfl, rfl⟩
  · unfold fstep at h1
    simp only [Bool.false_and, cond_false] at h1
    split at h1
    · rename_i u s2 h2
      cases hb : Nat.blt s2.lw h0.length
      · simp only [hk, hb, Bool.and_false, cond_false, Option.some.injEq, Prod.mk.injEq] at h1
        obtain ⟨rfl, rfl⟩ := h1
        show h0.length ≤ s2.lw
        rcases Nat.lt_or_ge s2.lw h0.length with h3 | h3
        · rw [← Nat.blt_eq] at h3; rw [h3] at hb; cases hb
        · exact h3
      · simp [hk, hb] at h1
    · cases h1
  · exact h
end

structure FReg (E : Env) (call : Caller) (ops : Array Oper) (l : List AOp) (ms : List Nat) (nt : Nat) (m : M) (st : St) (w0 : World) (σ : Nat → St) (val : Nat → AVal) (flg : Nat → Bool) (af : Bool) : Prop where
  hl : compL E.P ops ops.toList = some l
  edged : Edged ops ms
  hin : ∀ (i : Nat) (x : AOp), l[i]? = some x → x.in nt = true
  pairs : ∀ (i j : Nat) (x y : AOp), l[i]? = some x → l[j]? = some y → i < j → (clash x y = true ∨ (memK x.k = true ∧ memK y.k = true)) → (ms.getD j 0).testBit i = true
  flag : ∀ (i : Nat) (x : AOp), l[i]? = some x → flg i = false → ∀ one n q, x.k = .ld one n q → ∀ (j : Nat) (y : AOp), l[j]? = some y → memK y.k = true → (j < i → (ms.getD i 0).testBit j = true) ∧ (i < j → (ms.getD j 0).testBit i = true)
  isaf : ∀ (i : Nat) (x : AOp), l[i]? = some x → flg i = true → af = true
  free : ∀ (i : Nat) (x : AOp), l[i]? = some x → flg i = true → isLd x.k = false → ∀ (j : Nat) (y : AOp), l[j]? = some y → flg j = true → isLd y.k = true → (ms.getD i 0).testBit j = true
  hr : HR E m st.h w0
  s0 : σ 0 = { st with lw := st.h.length, lp := st.h.length }
  step : ∀ (i : Nat) (x : AOp), l[i]? = some x → FStep call E.ro st.h af (x, flg i) (σ i) (σ (i + 1)) (val i)

section
variable {ds : List Deferred} {E : Env} {call : Caller} {ops : Array Oper} {l : List AOp} {ms : List Nat} {nt : Nat} {m : M} {st : St} {w0 : World} {σ : Nat → St} {val : Nat → AVal} {flg : Nat → Bool} {af : Bool}

def FInv (ds : List Deferred) (E : Env) (ops : Array Oper) (l : List AOp) (nt : Nat) (m : M) (st : St) (w0 : World) (σ : Nat → St) (val : Nat → AVal) (S : Array Bool) (a : Act) (w : World) : Prop :=
  Closed ops S ∧ a.defers = ds ∧ a.tmps.size = nt ∧ ∃ (m1 : M) (p : Nat), p ≤ l.length ∧
    (∀ s, s < nt → VR E.rl m1 (ts (dstOf l) val st.t.get l.length (Lsd S) s) (a.tmps.getD s undef)) ∧
    (∀ (k : Nat) (y : AOp), l[k]? = some y → memK y.k = true → (Lsd S k = true ↔ k < p)) ∧ Tn E m st.h st.h.length st.h.length w0 m1 (σ p).h (σ p).lw (σ p).lp w

variable (R : FReg E call ops l ms nt m st w0 σ val flg af)
include R

theorem FReg.slots (i : Nat) : i ≤ l.length → ∀ s, (σ i).t.get s = ts (dstOf l) val st.t.get i (fun _ => true) s := by
  induction i with
  | zero => intro _ s; rw [R.s0]; rfl
  | succ i ih =>
    intro hi s
    have hx : l[i]? = some l[i] := List.getElem?_eq_getElem (by omega)
    rw [fs_t (R.step i _ hx)]
    have ih := ih (by omega) s
    have hd : dstOf l i = l[i].dst := by simp [dstOf, hx]
    simp only [ts, hd, true_and]
    cases hdd : l[i].dst with
    | none => simpa [put] using ih
    | some d =>
      simp only [put, get_set, Option.some.injEq]
      by_cases e : d = s
      · subst e; simp
      · simp only [e, if_false]; exact ih

theorem FReg.len_ops : l.length = ops.size := by
  have := (compL_get R.hl).1
  simpa using this

theorem FReg.op {j : Nat} {o : Oper} (ho : ops[j]? = some o) : ∃ x, l[j]? = some x ∧ compO E.P ops o = some x := (compL_get R.hl).2 j o (by simpa using ho)

theorem FReg.operand {S : Array Bool} (hc : Closed ops S) {j : Nat} {x : AOp} (hr : j ∈ Region.ready .any ops S) (hx : l[j]? = some x) {s : Nat} (hs : s ∈ x.looks) :
    ts (dstOf l) val st.t.get l.length (Lsd S) s = (σ j).t.get s := by
  have hjl : j < l.length := (List.getElem?_eq_some_iff.1 hx).1
  rw [R.slots j (by omega) s, ← ts_before j l.length (by omega)]
  refine ts_congr _ fun k hk hd => ?_
  have hy : l[k]? = some l[k] := List.getElem?_eq_getElem hk
  have hdk : l[k].dst = some s := by simpa [dstOf, hy] using hd
  have hun : S.getD j true = false := (mem_ready.1 hr).1
  rcases Nat.lt_trichotomy k j with h | h | h
  · have hcl : clash l[k] x = true := by simp [clash, hdk, hs]
    have := waits_ready R.edged hc hr (R.pairs k j _ _ hy hx h (.inl hcl))
    simp [Lsd, this, h]
  · subst h
    simp [Lsd, getD_both hun]
  · have hcl : clash x l[k] = true := by
      simp only [clash, hdk, Bool.or_eq_true]
      exact .inr (by simpa using hs)
    have hb := R.pairs j k _ _ hx hy h (.inl hcl)
    have hk0 : Lsd S k = false := by
      cases hb2 : Lsd S k
      · rfl
      · have := waits_listed R.edged hc k j hb hb2
        rw [getD_both hun] at this; cases this
    rw [hk0]
    simp; omega

theorem FReg.after {S : Array Bool} (hc : Closed ops S) {j : Nat} {x : AOp} (hr : j ∈ Region.ready .any ops S) (hx : l[j]? = some x) (s : Nat) :
    ts (dstOf l) val st.t.get l.length (Lsd (S.setIfInBounds j true)) s = if x.dst = some s then val j else ts (dstOf l) val st.t.get l.length (Lsd S) s := by
  have hjl : j < l.length := (List.getElem?_eq_some_iff.1 hx).1
  have hun : S.getD j true = false := (mem_ready.1 hr).1
  have hdj : dstOf l j = x.dst := by simp [dstOf, hx]
  rw [ts_congr (S' := fun k => Lsd S k || decide (k = j)) _ fun k _ _ => Lsd_set hun k, ts_put (getD_both hun) l.length hjl, hdj]
  intro k hjk hk hdk hdj'
  have hy : l[k]? = some l[k] := List.getElem?_eq_getElem hk
  have h1 : l[k].dst = some s := by simpa [dstOf, hy] using hdk
  have h2 : x.dst = some s := by rw [← hdj]; exact hdj'
  have hcl : clash x l[k] = true := by simp [clash, h1, h2]
  have hb := R.pairs j k _ _ hx hy hjk (.inl hcl)
  cases hb2 : Lsd S k
  · rfl
  · have := waits_listed R.edged hc k j hb hb2
    rw [getD_both hun] at this; cases this

theorem FReg.between {p : Nat} : ∀ (j : Nat), p ≤ j → j ≤ l.length → (∀ (k : Nat) (y : AOp), l[k]? = some y → p ≤ k → k < j → memK y.k = false) → (σ j).h = (σ p).h ∧ (σ j).lw = (σ p).lw ∧ (σ j).lp = (σ p).lp := by
  intro j hpj
  induction hpj with
  | refl => intros; exact ⟨rfl, rfl, rfl⟩
  | @step j hpj ih =>
    intro hj hk
    obtain ⟨e1, e2, e3⟩ := ih (Nat.le_of_succ_le hj) fun k y hy h1 h2 => hk k y hy h1 (Nat.lt_succ_of_lt h2)
    have hx : l[j]? = some l[j] := List.getElem?_eq_getElem (Nat.lt_of_succ_le hj)
    obtain ⟨f1, f2, f3⟩ := fs_same (R.step j _ hx) (hk j _ hx hpj (Nat.lt_succ_self j))
    exact ⟨f1.trans e1, f2.trans e2, f3.trans e3⟩

theorem FReg.lw (ha : af = true) : ∀ i, i ≤ l.length → (∀ (k : Nat) (y : AOp), l[k]? = some y → k < i → memK y.k = true → flg k = false) → st.h.length ≤ (σ i).lw := by
  intro i
  induction i with
  | zero => intro _ _; rw [R.s0]; exact Nat.le_refl _
  | succ i ih =>
    intro hi hno
    have hx : l[i]? = some l[i] := List.getElem?_eq_getElem (by omega)
    have hs := R.step i _ hx
    subst ha
    exact fs_lw hs (hno i _ hx (Nat.lt_succ_self i)) (ih (by omega) fun k y hy hk => hno k y hy (Nat.lt_succ_of_lt hk))

theorem FReg.step_wp (hE : E.Ok) (hcall : CallOk E call) {S : Array Bool} {j : Nat} {a : Act} {w : World} (hI : FInv ds E ops l nt m st w0 σ val S a w) (hr : j ∈ Region.ready .any ops S) {K : Act → World → Prop} {Q : Exit → Act → World → Prop}
    (hK : ∀ a' w', FInv ds E ops l nt m st w0 σ val (S.setIfInBounds j true) a' w' → K a' w') : wpOp E.P ops Q j K a w := by
  obtain ⟨hc, hd, hsz, m1, p, hpl, hslots, hp, T⟩ := hI
  obtain ⟨hun, o, ho, hall⟩ := mem_ready.1 hr
  obtain ⟨x, hx, hco⟩ := R.op ho
  obtain ⟨d1, d2, d3⟩ := compO_inv hco
  obtain ⟨i1, i2, i3⟩ := AOp.in_spec (R.hin j x hx)
  have hjl : j < l.length := (List.getElem?_eq_some_iff.1 hx).1
  have hs := R.step j x hx
  have hun' : Lsd S j = false := getD_both hun
  have hop : ∀ s, s ∈ x.looks → s < nt → VR E.rl m1 ((σ j).t.get s) (a.tmps.getD s undef) := fun s hs hlt => by
    rw [← R.operand hc hr hx hs]; exact hslots s hlt
  have htk : TRk E.rl m1 (σ j).t a x.k.looks := fun s hs => hop s (by simp [AOp.looks, hs]) (i1 s hs)
  have hwq : Region.wanted o (yielded ops a.tmps) = wantedA x.g (σ j).t := wanted_eq1 d2 fun s want hg => ⟨by rw [hsz]; exact i2 s want hg, hop s (by simp [AOp.looks, hg]) (i2 s want hg)⟩
  -- the slots behind it
  have slots' : ∀ {m2 : M} {v' : Value}, Mle m1 m2 → VR E.rl m2 (val j) v' → (a.put o.dst v').tmps.size = nt ∧ ∀ s, s < nt → VR E.rl m2 (ts (dstOf l) val st.t.get l.length (Lsd (S.setIfInBounds j true)) s) ((a.put o.dst v').tmps.getD s undef) := by
    intro m2 v' mle hv
    refine ⟨by cases o.dst <;> simp [Act.put, hsz], fun s hs => ?_⟩
    rw [R.after hc hr hx s, ← d1]
    have old := (hslots s hs).mono mle
    cases hdd : x.dst with
    | none => simpa [Act.put] using old
    | some d =>
      have hdl := i3 d hdd
      by_cases e : d = s
      · subst e
        have : d < a.tmps.size := by rw [hsz]; exact hdl
        simpa [Act.put, Array.getD_eq_getD_getElem?, this] using hv
      · simp only [Option.some.injEq, e, if_false]
        simpa [Act.put, Array.getD_eq_getD_getElem?, Array.getElem?_setIfInBounds_ne e] using old
  -- the same chain behind an operation that is none of it
  have stay : ∀ {m2 : M} {v' : Value} {w2 : World}, memK x.k = false → Mle m1 m2 → VR E.rl m2 (val j) v' → Tn E m st.h st.h.length st.h.length w0 m2 (σ p).h (σ p).lw (σ p).lp w2 → K (a.put o.dst v') w2 := by
    intro m2 v' w2 hnm mle hv T2
    obtain ⟨h1, h2⟩ := slots' mle hv
    refine hK _ _ ⟨hc.set hr, by rw [defers_put]; exact hd, h1, m2, p, hpl, h2, fun k y hy hk => ?_, T2⟩
    have hne : ¬ k = j := fun e => by subst e; rw [hx] at hy; cases hy; rw [hnm] at hk; cases hk
    rw [Lsd_set hun, decide_eq_false hne, Bool.or_false]
    exact hp k y hy hk
  -- where the chain stands at an operation of it
  have stage : memK x.k = true → (σ j).h = (σ p).h ∧ (σ j).lw = (σ p).lw ∧ (σ j).lp = (σ p).lp := by
    intro hm
    have hpj : p ≤ j := by
      rcases Nat.lt_or_ge j p with h | h
      · have := (hp j x hx hm).2 h
        rw [hun'] at this; cases this
      · exact h
    refine R.between j hpj (by omega) fun k y hy h1 h2 => ?_
    cases hk : memK y.k
    · rfl
    · have := waits_ready R.edged hc hr (R.pairs k j y x hy hx h2 (.inr ⟨hk, hm⟩))
      have := (hp k y hy hk).1 this
      omega
  have go : ∀ {m2 : M} {v' : Value} {w2 : World}, memK x.k = true → Mle m1 m2 → VR E.rl m2 (val j) v' → Tn E m st.h st.h.length st.h.length w0 m2 (σ (j + 1)).h (σ (j + 1)).lw (σ (j + 1)).lp w2 → K (a.put o.dst v') w2 := by
    intro m2 v' w2 hm mle hv T2
    obtain ⟨h1, h2⟩ := slots' mle hv
    refine hK _ _ ⟨hc.set hr, by rw [defers_put]; exact hd, h1, m2, j + 1, by omega, h2, fun k y hy hk => ?_, T2⟩
    rw [Lsd_set hun]
    rcases Nat.lt_trichotomy k j with h | h | h
    · have h3 : Lsd S k = true := waits_ready R.edged hc hr (R.pairs k j y x hy hx h (.inr ⟨hk, hm⟩))
      simp [h3]; omega
    · subst h; simp
    · have hb := R.pairs j k x y hx hy h (.inr ⟨hm, hk⟩)
      have h3 : Lsd S k = false := by
        cases hb2 : Lsd S k
        · rfl
        · have := waits_listed R.edged hc k j hb hb2
          rw [getD_both hun] at this; cases this
      have hne : ¬ k = j := by omega
      simp [h3, hne]; omega
  have mrefl : Mle m1 m1 := fun _ _ h => h
  unfold wpOp
  simp only [ho]
  rw [hwq]
  cases hw : wantedA x.g (σ j).t
  · simp only [Bool.false_eq_true, if_false]
    rcases hs with ⟨hw', _⟩ | ⟨_, hv, hs1⟩
    · rw [hw] at hw'; cases hw'
    have hu : VR E.rl m1 (val j) undef := by rw [hv]; exact VR.und _ _
    cases hm : memK x.k
    · exact stay hm mrefl hu T
    · obtain ⟨e1, e2, e3⟩ := stage hm
      refine go hm mrefl hu ?_
      rw [hs1]
      show Tn E m st.h st.h.length st.h.length w0 m1 (σ j).h (σ j).lw (σ j).lp w
      rw [e1, e2, e3]; exact T
  · simp only [if_true]
    refine .inl ?_
    have hs2 : ∃ s', fstep call E.ro st.h af (flg j) (σ j) x.k = some (val j, s') ∧ σ (j + 1) = { s' with t := put (σ j).t x.dst (val j) } := by
      rcases hs with ⟨_, s', hf, hs1⟩ | ⟨hw', _⟩
      · exact ⟨s', hf, hs1⟩
      · rw [hw] at hw'; cases hw'
    obtain ⟨s', hf, hs1⟩ := hs2
    unfold fstep at hf
    cases hfl : (flg j && isLd x.k)
    · rw [hfl] at hf
      simp only [cond_false] at hf
      split at hf
      · rename_i u s2 hst
        have hbb : (af && !flg j && memK x.k && Nat.blt s2.lw st.h.length) = false := by
          cases hbb : (af && !flg j && memK x.k && Nat.blt s2.lw st.h.length)
          · rfl
          · rw [hbb] at hf; cases hf
        rw [hbb] at hf
        simp only [cond_false, Option.some.injEq, Prod.mk.injEq] at hf
        obtain ⟨rfl, rfl⟩ := hf
        cases hm : memK x.k
        · -- a pure one, or a load in its place
          have hsame : ∃ q, stepC call E.ro { (σ j) with h := (σ p).h, lw := (σ p).lw, lp := (σ p).lp } x.k = some (val j, q) ∧ q.h = (σ p).h ∧ q.lw = (σ p).lw ∧ q.lp = (σ p).lp := by
            cases hk : x.k <;> rw [hk] at hm hst <;> simp only [memK] at hm <;> first | cases hm | skip
            · rename_i pk
              simp only [stepC, stepK, Option.map_eq_some_iff] at hst ⊢
              obtain ⟨v0, h1, h2⟩ := hst
              cases h2
              exact ⟨_, ⟨_, h1, rfl⟩, rfl, rfl, rfl⟩
            · rename_i one n q
              have heq : (σ j).h = (σ p).h := by
                rcases Nat.lt_or_ge j p with h | h
                · refine ((R.between p (Nat.le_of_lt h) hpl fun k y hy h1 h2 => ?_).1).symm
                  cases hmk : memK y.k
                  · rfl
                  · have hkj : j < k := by
                      rcases Nat.lt_or_ge j k with h3 | h3
                      · exact h3
                      · have : k = j := by omega
                        subst this; rw [hx] at hy; cases hy; rw [hk] at hmk; cases hmk
                    have hb := (R.flag j x hx (by rw [hk] at hfl; simpa [isLd] using hfl) one n q hk k y hy hmk).2 hkj
                    have := waits_listed R.edged hc k j hb ((hp k y hy hmk).2 h2)
                    rw [getD_both hun] at this; cases this
                · refine (R.between j h (by omega) fun k y hy h1 h2 => ?_).1
                  cases hmk : memK y.k
                  · rfl
                  · have hb := (R.flag j x hx (by rw [hk] at hfl; simpa [isLd] using hfl) one n q hk k y hy hmk).1 h2
                    have := (hp k y hy hmk).1 (waits_ready R.edged hc hr hb)
                    omega
              simp only [stepC, stepK] at hst ⊢
              split at hst
              · simp only [Option.map_eq_some_iff] at hst ⊢
                obtain ⟨v0, h1, h2⟩ := hst
                cases h2
                rw [heq] at h1
                exact ⟨_, ⟨_, h1, rfl⟩, rfl, rfl, rfl⟩
              · cases hst
          obtain ⟨q, hq, q1, q2, q3⟩ := hsame
          refine op_wp (st := { (σ j) with h := (σ p).h, lw := (σ p).lw, lp := (σ p).lp }) hE hcall T.hr htk d3 hq fun _ v' m' w' hv T' => ?_
          refine stay hm T'.mle hv ?_
          have T2 := Tn.trans R.hr T T'
          rw [q1, q2, q3] at T2
          exact T2
        · obtain ⟨e1, e2, e3⟩ := stage hm
          rw [← e1, ← e2, ← e3] at T
          refine op_wp (st := σ j) hE hcall T.hr htk d3 hst fun _ v' m' w' hv T' => ?_
          refine go hm T'.mle hv ?_
          rw [hs1]
          exact Tn.trans R.hr T T'
      · cases hf
    · -- a load that floats
      rw [hfl] at hf
      simp only [cond_true] at hf
      simp only [Bool.and_eq_true] at hfl
      obtain ⟨hfl1, hfl2⟩ := hfl
      have haf := R.isaf j x hx hfl1
      obtain ⟨one, n, xo, hk⟩ : ∃ one n q, x.k = .ld one n q := by
        cases hk : x.k <;> rw [hk] at hfl2 <;> first | (cases hfl2; done) | exact ⟨_, _, _, rfl⟩
      split at hf
      · rename_i u hu
        simp only [Option.some.injEq, Prod.mk.injEq] at hf
        obtain ⟨rfl, rfl⟩ := hf
        rw [hk] at hu
        simp only [ldO] at hu
        split at hu
        · rename_i q hq
          cases hb : (q.ro || Nat.blt q.b st.h.length)
          · rw [hb] at hu; cases hu
          rw [hb] at hu
          simp only [cond_true] at hu
          have hrd : rd E.ro (σ p).h one n q = some (val j) := by
            have hB : rdB E.ro (σ p).h q = rdB E.ro st.h q := by
              unfold rdB
              cases hro : q.ro
              · simp only [cond_false]
                have hlt : q.b < st.h.length := by
                  rw [hro] at hb
                  simpa [Nat.blt_eq] using hb
                have hlw := R.lw haf p hpl fun k y hy hkp hkm => by
                  cases hfk : flg k
                  · rfl
                  · have hnl : isLd y.k = false := by cases hyk : y.k <;> rw [hyk] at hkm <;> first | rfl | cases hkm
                    have hb2 := R.free k y hy hfk hnl j x hx hfl1 hfl2
                    have := waits_listed R.edged hc k j hb2 ((hp k y hy hkm).2 hkp)
                    rw [getD_both hun] at this; cases this
                have := (T.keepw q.b (by omega) hlt).1
                simp only [lget_eq, this]
              · rfl
            unfold rd at hu ⊢
            rw [hB]; exact hu
          have hst : stepC call E.ro { (σ j) with h := (σ p).h, lw := (σ p).lw, lp := (σ p).lp } x.k = some (val j, { (σ j) with h := (σ p).h, lw := (σ p).lw, lp := (σ p).lp }) := by
            rw [hk]
            simp only [stepC, stepK, hq, hrd, Option.map_some]
          refine op_wp (st := { (σ j) with h := (σ p).h, lw := (σ p).lw, lp := (σ p).lp }) hE hcall T.hr htk d3 hst fun _ v' m' w' hv T' => ?_
          exact stay (by rw [hk]; rfl) T'.mle hv (Tn.trans R.hr T T')
        · cases hu
      · cases hf

theorem FReg.fin {S : Array Bool} {a : Act} {w : World} (hI : FInv ds E ops l nt m st w0 σ val S a w) (hS : ∀ i, i < ops.size → S.getD i false = true) :
    ∃ m1, Tn E m st.h st.h.length st.h.length w0 m1 (σ l.length).h (σ l.length).lw (σ l.length).lp w ∧ TRn E m1 (σ l.length).t a nt ∧ a.defers = ds := by
  obtain ⟨hc, hd, hsz, m1, p, hpl, hslots, hp, T⟩ := hI
  have hlen := R.len_ops
  have hL : ∀ k, k < l.length → Lsd S k = true := fun k hk => hS k (by omega)
  obtain ⟨e1, e2, e3⟩ := R.between l.length hpl (Nat.le_refl _) fun k y hy h1 h2 => by
    cases hk : memK y.k
    · rfl
    · have := (hp k y hy hk).1 (hL k h2)
      omega
  refine ⟨m1, by rw [e1, e2, e3]; exact T, ⟨hsz, fun s hs => ?_⟩, hd⟩
  rw [R.slots l.length (Nat.le_refl _) s, ← ts_congr (S := Lsd S) l.length fun k hk _ => hL k hk]
  exact hslots s hs

theorem FReg.start {a : Act} (ht : TRn E m st.t a nt) (hd : a.defers = ds) : FInv ds E ops l nt m st w0 σ val (Array.replicate ops.size false) a w0.drew := by
  have hf : ∀ k, Lsd (Array.replicate ops.size false) k = false := fun k => by
    simp [Lsd, Array.getD_eq_getD_getElem?, Array.getElem?_replicate]
    split <;> rfl
  refine ⟨fun j o _ hl => ?_, hd, ht.1, m, 0, Nat.zero_le _, fun s hs => ?_, fun k y _ _ => ?_, ?_⟩
  · have := hf j
    rw [Lsd, hl] at this; cases this
  · rw [ts_congr (S' := fun k => decide (k < 0)) l.length fun k _ _ => by rw [hf]; simp, ts_before 0 l.length (Nat.zero_le _)]
    exact ht.2 s hs
  · rw [hf]; simp
  · rw [R.s0]
    exact Tn.drew R.hr _ _
end

theorem fltFlags_get (ms : List Nat) (l : List AOp) (i : Nat) (x : AOp) (h : l[i]? = some x) : (fltFlags ms l)[i]? = some (x, fltLd ms l x i || fltFree ms l x i) := by
  have hz : l.zipIdx[i]? = some (x, i) := by simp [List.getElem?_zipIdx, h]
  unfold fltFlags
  rw [List.getElem?_map, hz]
  rfl
theorem fltLd_ld {ms : List Nat} {l : List AOp} {x : AOp} {i : Nat} (h : fltLd ms l x i = true) : isLd x.k = true := by
  unfold fltLd at h
  split at h
  · rename_i hk; rw [hk]; rfl
  · cases h
theorem fltFree_no {ms : List Nat} {l : List AOp} {x : AOp} {i : Nat} (h : isLd x.k = true) : fltFree ms l x i = false := by
  unfold fltFree; rw [h]; rfl

section
variable {E : Env} {call : Caller}
theorem freg_of {ops : Array Oper} {l : List AOp} {nt : Nat} {m : M} {st st' : St} {w : World} (hl : compL E.P ops ops.toList = some l) (hin : ((fltFlags (masks [] ops.toList) l).all fun o => AOp.in nt o.1) = true)
    (hpairs : fltOk (masks [] ops.toList) l = true) (hx : execFlt call E.ro (fltFlags (masks [] ops.toList) l) st = some st') (hr : HR E m st.h w) :
    ∃ σ val flg af, FReg E call ops l (masks [] ops.toList) nt m st w σ val flg af ∧ st' = { (σ l.length) with lw := min st.lw (σ l.length).lw, lp := min st.lp (σ l.length).lp } := by
  have hed : Edged ops (masks [] ops.toList) := masks_edged ops ops.toList [] (fun j i hb => by simp at hb) (by simp)
  generalize masks [] ops.toList = ms at *
  unfold execFlt at hx
  split at hx
  · rename_i sN hrun
    cases hx
    obtain ⟨σ, val, h0, hstep, hN⟩ := trace_flt _ _ _ hrun
    have hfl : (fltFlags ms l).length = l.length := by simp [fltFlags]
    rw [hfl] at hN
    subst hN
    have hz : ∀ (i : Nat) (x : AOp), l[i]? = some x → (x, i) ∈ l.zipIdx ∧ l.zipIdx[i]? = some (x, i) := fun i x hxi => ⟨by rw [List.mem_zipIdx_iff_getElem?]; simpa using hxi, by simp [List.getElem?_zipIdx, hxi]⟩
    have hg := fltFlags_get ms l
    refine ⟨σ, val, fun i => match (fltFlags ms l)[i]? with | some x => x.2 | none => false, (fltFlags ms l).any fun o => o.2, ⟨hl, hed, fun i x hxi => ?_, fun i j x y hxi hyj hij hor => ?_, fun i x hxi hfg one n q hk j y hyj hm => ?_, fun i x hxi hfg => ?_, fun i x hxi hfg hnl j y hyj hfy hly => ?_, hr, h0, fun i x hxi => ?_⟩, rfl⟩
    · exact List.all_eq_true.1 hin (x, fltLd ms l x i || fltFree ms l x i) (List.mem_map.2 ⟨(x, i), (hz i x hxi).1, rfl⟩)
    · have h1 := List.all_eq_true.1 hpairs (y, j) (hz j y hyj).1
      have h2 := List.all_eq_true.1 h1 (x, i) (hz i x hxi).1
      simp only [Bool.or_eq_true, Bool.not_eq_true', Bool.and_eq_false_iff, Bool.or_eq_false_iff] at h2
      rcases h2 with (h2 | ⟨h2, h3⟩) | h2
      · have : Nat.blt i j = true := by rw [Nat.blt_eq]; exact hij
        rw [this] at h2; cases h2
      · rcases hor with h | ⟨h, h'⟩
        · rw [h] at h2; cases h2
        · rcases h3 with h3 | h3
          · rw [h] at h3; cases h3
          · rw [h'] at h3; cases h3
      · exact h2
    · have hfi := hg i x hxi
      simp only [hfi] at hfg
      rw [fltFree_no (by rw [hk]; rfl), Bool.or_false] at hfg
      simp only [fltLd, hk, Bool.not_eq_false'] at hfg
      have h1 := List.all_eq_true.1 hfg (y, j) (hz j y hyj).1
      simp only [hm, Bool.not_true, Bool.false_or] at h1
      constructor
      · intro hlt
        have : Nat.blt j i = true := by rw [Nat.blt_eq]; exact hlt
        rw [this] at h1; exact h1
      · intro hlt
        have : Nat.blt j i = false := by
          cases hb : Nat.blt j i
          · rfl
          · rw [Nat.blt_eq] at hb; omega
        rw [this] at h1; exact h1
    · have hfi := hg i x hxi
      have hmem := List.mem_of_getElem? hfi
      simp only [hfi] at hfg
      exact List.any_eq_true.2 ⟨_, hmem, hfg⟩
    · have hfi := hg i x hxi
      have hfj := hg j y hyj
      simp only [hfi] at hfg
      simp only [hfj] at hfy
      rw [fltFree_no hly, Bool.or_false] at hfy
      have hnf : fltLd ms l x i = false := by
        cases hb : fltLd ms l x i
        · rfl
        · have := fltLd_ld hb; rw [hnl] at this; cases this
      rw [hnf, Bool.false_or] at hfg
      unfold fltFree at hfg
      simp only [Bool.and_eq_true] at hfg
      have h1 := List.all_eq_true.1 hfg.2 (y, j) (hz j y hyj).1
      simp only [hfy, Bool.not_true, Bool.false_or] at h1
      exact h1
    · have hfi := hg i x hxi
      have := hstep i _ hfi
      simp only [hfi]
      exact this
  · cases hx
end
end Go.Vm

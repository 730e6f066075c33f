/- Regions whose order is open: whatever the order, the end is that of the text's order. -/
import Derived.Test.YtageakoepjkkbaaVmW
namespace Go.Vm
open Go.RowKit

theorem wp_value {P : Program} {o : Oper} {a : Act} {w w' : World} {v : Value} {K : Act → World → Prop} {Q : Exit → Act → World → Prop} (hrun : (execOp a.eval o).run P w = .ok (.value v) w') (hK : K (a.put o.dst v) w') : o.wp P a w K Q := by
  unfold Oper.wp; rw [hrun]; exact hK
theorem wp_skip' {P : Program} {o : Oper} {a : Act} {w w' : World} {K : Act → World → Prop} {Q : Exit → Act → World → Prop} (hrun : (execOp a.eval o).run P w = .ok .skip w') (hK : K (a.put o.dst undef) w') : o.wp P a w K Q := by
  unfold Oper.wp; rw [hrun]; exact hK

/-- does an operation's guard let it run? by its one slot -/
theorem wanted_eq1 {rl : Rl} {m : M} {t : Tr} {a : Act} {ops : Array Oper} {o : Oper} {g : Option (Nat × Bool)} (hg : compG ops o.guard = some g)
    (hv : ∀ s want, g = some (s, want) → s < a.tmps.size ∧ VR rl m (t.get s) (a.tmps.getD s undef)) : Region.wanted o (yielded ops a.tmps) = wantedA g t := by
  unfold compG at hg
  split at hg
  · rename_i e
    cases hg
    simp [Region.wanted, e, wantedA]
  · rename_i j want e
    split at hg
    · rename_i s hs
      cases hg
      obtain ⟨hsz, hv⟩ := hv s want rfl
      simp only [Region.wanted, e, yielded, hs, wantedA, Option.bind_some]
      have hget : a.tmps[s]? = some (a.tmps.getD s undef) := by simp [hsz]
      rw [hget]
      generalize t.get s = x at hv
      generalize a.tmps.getD s undef = y at hv
      cases hv <;> simp
    · cases hg

structure Reg (E : Env) (call : Caller) (ops : Array Oper) (l : List AOp) (ms : List Nat) (nt : Nat) (m : M) (st : St) (w0 : World) (σ : Nat → AnyS) (val : Nat → AVal) (η : Nat → St) (flg : Nat → Bool) : Prop where
  hl : compL E.P ops ops.toList = some l
  edged : Edged ops ms
  hin : ∀ (i : Nat) (x : AOp), l[i]? = some x → x.in nt = true
  pairs : ∀ (i j : Nat) (x y : AOp), l[i]? = some x → l[j]? = some y → (i < j → mustWait x y = true → (ms.getD j 0).testBit i = true) ∧ (softW x.k = true → hardK y.k = true → (ms.getD j 0).testBit i = true)
  guards : ∀ (i : Nat) (x : AOp), l[i]? = some x → anyKind x.k = true ∧ (hardK x.k = true ∨ softW x.k = true → x.g = none)
  flag : ∀ (i : Nat) (x : AOp), l[i]? = some x → flg i = false → ∀ one n q, x.k = .ld one n q → ∀ (j : Nat) (y : AOp), l[j]? = some y → hardK y.k = true → (ms.getD j 0).testBit i = true
  hr : HR E m st.h w0
  s0 : σ 0 = { t := st.t, h := st.h, ws := [], ck := [] }
  step : ∀ (i : Nat) (x : AOp), l[i]? = some x → StepR call E.ro st.h (x, flg i) (σ i) (σ (i + 1)) (val i)
  e0 : η 0 = { st with t := (σ l.length).t, h := (σ l.length).h }
  ew : ∀ (c : Nat) (q : Loc) (vs : List AVal), (σ l.length).ws.reverse[c]? = some (q, vs) → wrH (η c).h q vs = some (η (c + 1)).h ∧ ckOk E.ro (η (c + 1)).h (σ l.length).ck = true ∧
    (η (c + 1)).lw = min (η c).lw q.b ∧ (η (c + 1)).lp = cond (nonp vs) (η c).lp (min (η c).lp q.b)

section
variable {ds : List Deferred} {E : Env} {call : Caller} {ops : Array Oper} {l : List AOp} {ms : List Nat} {nt : Nat} {m : M} {st : St} {w0 : World} {σ : Nat → AnyS} {val : Nat → AVal} {η : Nat → St} {flg : Nat → Bool}

def dstOf (l : List AOp) (i : Nat) : Option Nat := (l[i]?).bind (·.dst)

def Lsd (S : Array Bool) (k : Nat) : Bool := S.getD k false

/-- where the run is: which stores are done, which blocks are there -/
def Phase (E : Env) (l : List AOp) (m : M) (st : St) (w0 : World) (σ : Nat → AnyS) (η : Nat → St) (S : Array Bool) (m1 : M) (c : Nat) (w : World) : Prop :=
  (c = 0 ∧ ∃ h1 : Heap, Tn E m st.h st.h.length st.h.length w0 m1 h1 st.h.length st.h.length w ∧ h1.length = (σ l.length).h.length ∧
    ∀ (j : Nat) (x : AOp) (e : Nat) (z : List AVal), l[j]? = some x → x.k = .al e z →
      h1[(σ j).h.length]? = some (if Lsd S j then some (blkOf e z) else none) ∧ (Lsd S j = false → m1[(σ j).h.length]? = some none)) ∨
  (0 < c ∧ (∀ (j : Nat) (x : AOp), l[j]? = some x → softW x.k = true → Lsd S j = true) ∧ Tn E m st.h st.lw st.lp w0 m1 (η c).h (η c).lw (η c).lp w)

def Inv (ds : List Deferred) (E : Env) (ops : Array Oper) (l : List AOp) (nt : Nat) (m : M) (st : St) (w0 : World) (σ : Nat → AnyS) (val : Nat → AVal) (η : Nat → St) (S : Array Bool) (a : Act) (w : World) : Prop :=
  Closed ops S ∧ a.defers = ds ∧ a.tmps.size = nt ∧ ∃ (m1 : M) (c : Nat),
    (∀ s, s < nt → VR E.rl m1 (ts (dstOf l) val st.t.get l.length (Lsd S) s) (a.tmps.getD s undef)) ∧ c ≤ (σ l.length).ws.length ∧
    (∀ (j : Nat) (x : AOp), l[j]? = some x → hardK x.k = true → (Lsd S j = true ↔ (σ j).ws.length < c)) ∧ Phase E l m st w0 σ η S m1 c w

variable (R : Reg E call ops l ms nt m st w0 σ val η flg)
include R

/-- the slots before operation i -/
theorem Reg.slots (i : Nat) : i ≤ l.length → ∀ s, (σ i).t.get s = ts (dstOf l) val st.t.get i (fun _ => true) s := by
  induction i with
  | zero => intro _ s; rw [R.s0]; rfl
  | succ i ih =>
    intro hi s
    have hx : l[i]? = some l[i] := List.getElem?_eq_getElem (by omega)
    rw [step_t (R.step i _ hx)]
    have ih := ih (by omega) s
    have hd : dstOf l i = l[i].dst := by simp [dstOf, hx]
    simp only [ts, hd, true_and]
    cases hdd : l[i].dst with
    | none => simpa [put] using ih
    | some d =>
      simp only [put, get_set, Option.some.injEq]
      by_cases e : d = s
      · subst e; simp
      · have e' : ¬ s = d := fun h => e h.symm
        simp only [e, if_false]; exact ih

theorem Reg.len_ops : l.length = ops.size := by
  have := (compL_get R.hl).1
  simpa using this

theorem Reg.op {j : Nat} {o : Oper} (ho : ops[j]? = some o) : ∃ x, l[j]? = some x ∧ compO E.P ops o = some x := (compL_get R.hl).2 j o (by simpa using ho)

theorem Reg.operand {S : Array Bool} (hc : Closed ops S) {j : Nat} {x : AOp} (hr : j ∈ Region.ready .any ops S) (hx : l[j]? = some x) {s : Nat} (hs : s ∈ x.looks) :
    ts (dstOf l) val st.t.get l.length (Lsd S) s = (σ j).t.get s := by
  have hjl : j < l.length := (List.getElem?_eq_some_iff.1 hx).1
  rw [R.slots j (by omega) s, ← ts_before j l.length (by omega)]
  refine ts_congr _ fun k hk hd => ?_
  have hy : l[k]? = some l[k] := List.getElem?_eq_getElem hk
  have hdk : l[k].dst = some s := by simpa [dstOf, hy] using hd
  have hun : S.getD j true = false := (mem_ready.1 hr).1
  rcases Nat.lt_trichotomy k j with h | h | h
  · have hcl : mustWait l[k] x = true := by simp [mustWait, clash, hdk, hs]
    have := waits_ready R.edged hc hr ((R.pairs k j _ _ hy hx).1 h hcl)
    simp [Lsd, this, h]
  · subst h
    simp [Lsd, getD_both hun]
  · have hcl : mustWait x l[k] = true := by
      simp only [mustWait, clash, hdk, Bool.or_eq_true]
      exact .inl (.inr (by simpa using hs))
    have hb := (R.pairs j k _ _ hx hy).1 h hcl
    have hk0 : Lsd S k = false := by
      cases hb2 : Lsd S k
      · rfl
      · have := waits_listed R.edged hc k j hb hb2
        rw [getD_both hun] at this; cases this
    rw [hk0]
    simp; omega

/-- the slots after one operation more -/
theorem Reg.after {S : Array Bool} (hc : Closed ops S) {j : Nat} {x : AOp} (hr : j ∈ Region.ready .any ops S) (hx : l[j]? = some x) (s : Nat) :
    ts (dstOf l) val st.t.get l.length (Lsd (S.setIfInBounds j true)) s = if x.dst = some s then val j else ts (dstOf l) val st.t.get l.length (Lsd S) s := by
  have hjl : j < l.length := (List.getElem?_eq_some_iff.1 hx).1
  have hun : S.getD j true = false := (mem_ready.1 hr).1
  have hjs : j < S.size := by
    rcases Nat.lt_or_ge j S.size with h | h
    · exact h
    · simp [Array.getD_eq_getD_getElem?, Array.getElem?_eq_none h] at hun
  have hdj : dstOf l j = x.dst := by simp [dstOf, hx]
  have e : ∀ k, Lsd (S.setIfInBounds j true) k = (Lsd S k || decide (k = j)) := fun k => by
    unfold Lsd
    by_cases h : j = k
    · subst h; simp [Array.getD_eq_getD_getElem?, hjs]
    · rw [getD_set_ne false h]
      have : ¬ k = j := fun e => h e.symm
      simp [this]
  rw [ts_congr (S' := fun k => Lsd S k || decide (k = j)) _ fun k _ _ => e k, ts_put (getD_both hun) l.length hjl, hdj]
  intro k hjk hk hdk hdj'
  have hy : l[k]? = some l[k] := List.getElem?_eq_getElem hk
  have h1 : l[k].dst = some s := by simpa [dstOf, hy] using hdk
  have h2 : x.dst = some s := by rw [← hdj]; exact hdj'
  have hcl : mustWait x l[k] = true := by simp [mustWait, clash, h1, h2]
  have hb := (R.pairs j k _ _ hx hy).1 hjk hcl
  cases hb2 : Lsd S k
  · rfl
  · have := waits_listed R.edged hc k j hb hb2
    rw [getD_both hun] at this; cases this

end
end Go.Vm

/- Calls without arguments that answer a plain value, reckoned in an empty heap, answer so in every heap; and what a call of the model does, by the machine without fuel. -/
import Derived.Test.YtageakoepjkkbaaVmAB
import Derived.Test.YtageakoepjkkbaaVmAD
namespace Go.Vm

def noCall : Caller := fun _ _ _ => none

/-- known beforehand: the function f without arguments answers v and leaves everything as it was -/
def known0 (f : Nat) (v : AVal) : Caller := fun f' a h =>
  match a with
  | [] => cond (Nat.beq f' f) (some (v, h, h.length, h.length)) none
  | _ => none

theorem noCall_ok {E : Env} : CallOk E noCall := fun _ _ _ _ _ _ _ h => nomatch h

theorem vr_scalar {rl : Rl} {m m' : M} {v : AVal} {v' : Value} (hs : v.scalar = true) (h : VR rl m v v') : VR rl m' v v' := by
  cases h <;> first | (simp [AVal.scalar] at hs; done) | skip
  · exact .b _
  · exact .i _ _
  · exact .s _
  · exact .pn
  · exact .nsl
  · exact .nfn

def Env.bare (E : Env) : Env := { E with ro := [] }
theorem Env.bare_ok {E : Env} (h : E.Ok) : E.bare.Ok := ⟨fun i b hb => by simp [Env.bare] at hb, h.hB⟩

theorem known0_ok {E : Env} {call : Caller} (hc : CallOk E.bare call) {f : Nat} {v : AVal} {h' : Heap} {lw lp : Nat} (h1 : call f [] [] = some (v, h', lw, lp)) (hv : v.scalar = true) : CallOk E (known0 f v) := by
  intro f' args h u h2 lw2 lp2 hcl
  unfold known0 at hcl
  split at hcl
  · cases hb : Nat.beq f' f
    · rw [hb] at hcl; cases hcl
    · rw [hb] at hcl
      have := Nat.eq_of_beq_eq_true hb
      subst this
      simp only [cond_true, Option.some.injEq, Prod.mk.injEq] at hcl
      obtain ⟨rfl, rfl, rfl, rfl⟩ := hcl
      obtain ⟨c1, c2⟩ := hc _ _ _ _ _ _ _ h1
      refine ⟨c1, fun m w args' hr hl => ?_⟩
      have hr0 : HR E.bare [] [] w := ⟨hr.below, rfl, by simp, fun i b r K hl => by simp [Live] at hl, fun i j b b' r K K' hl => by simp [Live] at hl⟩
      refine Calls.mono (c2 [] w args' hr0 ⟨hl.1, by simp⟩) fun e w' hq => ?_
      obtain ⟨v', rfl, m', hvr, T⟩ := hq
      refine ⟨v', rfl, m, vr_scalar hv hvr, ?_⟩
      have keep : ∀ r, r < w.heap.size → w'.heap[r]? = w.heap[r]? := fun r hlt => T.keepo r hlt fun i b K hl => by simp [Live] at hl
      have lt : ∀ i b r K, Live m h i b r K → r < w.heap.size := fun i b r K hl => by
        exact hr.lt hl
      refine ⟨⟨[], by simp⟩, ⟨T.hr.below, hr.len, hr.real, fun i b r K hl => ?_, hr.inj⟩, T.size, Nat.le_refl _, Nat.le_refl _, fun i _ _ => ⟨rfl, fun b r K hl => keep r (lt _ _ _ _ hl)⟩,
        fun i _ _ b' hb => ⟨b', hb, rfl, ⟨rfl, rfl⟩, fun _ _ => .inr rfl⟩, fun r hlt _ => keep r hlt, fun i b r K hl _ => ⟨i, b, K, hl⟩⟩
      obtain ⟨hB, hc⟩ := hr.blk i b r K hl
      exact ⟨hB, by rw [keep r (lt _ _ _ _ hl)]; exact hc⟩
  · cases hcl

theorem callX_ov {F : Tab} {ro : List ABlk} {f : Nat} {a : List AVal} {h : Heap} {r : AVal × Heap × Nat × Nat} (ho : F.ov f a h = some r) : callX F ro f a h = some r := by
  unfold callX callA
  rw [ho]

/-- what the machine answers, the model's call does -/
theorem callX_sound {E : Env} (hE : E.Ok) (hm : E.P.follows .mixedOrders = true) {F : Tab} (hF : FOk E.P F.fn) (hO : CallOk E F.ov) : CallOk E (callX F E.ro) := by
  intro f args h v h' lw lp hcl
  obtain ⟨n, hn⟩ := callX_some.1 hcl
  exact call_sound hE hm (any_ok E hE hm) hF hO n f args h v h' lw lp hn

theorem known0_of {E : Env} (hE : E.Ok) (hm : E.P.follows .mixedOrders = true) {fn : Nat → Option AFn} (hF : FOk E.P fn) {f : Nat} {v : AVal} {h' : Heap} {lw lp : Nat} (h1 : callX ⟨fn, noCall⟩ [] f [] [] = some (v, h', lw, lp)) (hv : v.scalar = true) :
    CallOk E (known0 f v) :=
  known0_ok (callX_sound (E := E.bare) (Env.bare_ok hE) hm (F := ⟨fn, noCall⟩) hF noCall_ok) h1 hv

open Classical in
/-- loops to their end -/
noncomputable def loopX {S R : Type} (b : S → Option (S ⊕ R)) (s : S) : Option R :=
  if h : ∃ r, ∃ n, iter b n s = some r then some h.choose else none

theorem iter_mono {S R : Type} {b : S → Option (S ⊕ R)} : ∀ {n k : Nat} {s : S} {r : R}, n ≤ k → iter b n s = some r → iter b k s = some r
  | 0, _, _, _, _, h => nomatch h
  | n + 1, 0, _, _, hk, _ => absurd hk (by omega)
  | n + 1, k + 1, s, r, hk, h => by
    unfold iter at h ⊢
    split at h
    · exact iter_mono (by omega) h
    · exact h
    · cases h

theorem loopX_some {S R : Type} {b : S → Option (S ⊕ R)} {s : S} {r : R} : loopX b s = some r ↔ ∃ n, iter b n s = some r := by
  unfold loopX
  constructor
  · intro h
    split at h
    · rename_i hh
      cases h
      exact hh.choose_spec
    · cases h
  · rintro ⟨n, hn⟩
    have hh : ∃ r, ∃ n, iter b n s = some r := ⟨r, n, hn⟩
    rw [dif_pos hh]
    obtain ⟨k, hk⟩ := hh.choose_spec
    have h1 := iter_mono (Nat.le_max_left n k) hn
    have h2 := iter_mono (Nat.le_max_right n k) hk
    rw [h1] at h2
    exact h2.symm

theorem loopX_on {S R : Type} {b : S → Option (S ⊕ R)} {s s' : S} {r : R} (h : b s = some (.inl s')) (h2 : loopX b s' = some r) : loopX b s = some r := by
  obtain ⟨n, hn⟩ := loopX_some.1 h2
  exact loopX_some.2 ⟨n + 1, by unfold iter; rw [h]; exact hn⟩
theorem loopX_out {S R : Type} {b : S → Option (S ⊕ R)} {s : S} {r : R} (h : b s = some (.inr r)) : loopX b s = some r :=
  loopX_some.2 ⟨1, by unfold iter; rw [h]⟩

/-- a loop with something that gets less -/
theorem loopX_rule {S R : Type} {b : S → Option (S ⊕ R)} (I : S → Prop) (Q : R → Prop) (f : S → Nat) (hb : ∀ s, I s → (∃ s', b s = some (.inl s') ∧ I s' ∧ f s' < f s) ∨ (∃ r, b s = some (.inr r) ∧ Q r)) (s : S) (hs : I s) : ∃ r, loopX b s = some r ∧ Q r := by
  have key : ∀ n s, f s < n → I s → ∃ r, loopX b s = some r ∧ Q r := by
    intro n
    induction n with
    | zero => intro s h; omega
    | succ n ih =>
      intro s h hi
      rcases hb s hi with ⟨s', h1, h2, h3⟩ | ⟨r, h1, h2⟩
      · obtain ⟨r, h4, h5⟩ := ih s' (by omega) h2
        exact ⟨r, loopX_on h1 h4, h5⟩
      · exact ⟨r, loopX_out h1, h2⟩
  exact key (f s + 1) s (by omega) hs

noncomputable def meansX (F : Tab) (ro : List ABlk) : Means := ⟨callX F ro, loopX, roundX F ro⟩
theorem meansX_ok (F : Tab) (ro : List ABlk) : (meansX F ro).Ok F ro := ⟨fun _ _ _ _ h => h, fun _ _ _ h => loopX_some.1 h, fun _ _ _ _ h => h⟩

end Go.Vm

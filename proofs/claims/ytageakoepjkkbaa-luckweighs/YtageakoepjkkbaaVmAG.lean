/- Calls with plain arguments that answer a plain value, reckoned in an empty heap, answer so in every heap; calls that are known to answer so may be taken as known beforehand. -/
import Derived.Test.YtageakoepjkkbaaVmAF
namespace Go.Vm

/-- known beforehand: calls with plain arguments that leave everything as it was -/
def knownS (K : Nat → List AVal → Option AVal) : Caller := fun f a h =>
  match K f a with
  | some v => some (v, h, h.length, h.length)
  | none => none

theorem knownS_ok {E : Env} {call : Caller} (hc : CallOk E.bare call) {K : Nat → List AVal → Option AVal}
    (hK : ∀ f a v, K f a = some v → (∀ x ∈ a, x.scalar = true) ∧ v.scalar = true ∧ ∃ h' lw lp, call f a [] = some (v, h', lw, lp)) : CallOk E (knownS K) := by
  intro f args h u h2 lw2 lp2 hcl
  unfold knownS at hcl
  split at hcl
  · rename_i v hv
    obtain ⟨hs, hvs, h', lw, lp, h1⟩ := hK _ _ _ hv
    simp only [Option.some.injEq, Prod.mk.injEq] at hcl
    obtain ⟨rfl, rfl, rfl, rfl⟩ := hcl
    obtain ⟨c1, c2⟩ := hc _ _ _ _ _ _ _ h1
    refine ⟨c1, fun m w args' hr hl => ?_⟩
    have hr0 : HR E.bare [] [] w := ⟨hr.below, rfl, by simp, fun i b r K hl => by simp [Live] at hl, fun i j b b' r K K' hl => by simp [Live] at hl⟩
    refine Calls.mono (c2 [] w args' hr0 ⟨hl.1, fun i x hx => vr_scalar (hs x (List.mem_of_getElem? hx)) (hl.2 i x hx)⟩) fun e w' hq => ?_
    obtain ⟨v', rfl, m', hvr, T⟩ := hq
    refine ⟨v', rfl, m, vr_scalar hvs hvr, ?_⟩
    have keep : ∀ r, r < w.heap.size → w'.heap[r]? = w.heap[r]? := fun r hlt => T.keepo r hlt fun i b K hl => by simp [Live] at hl
    have lt : ∀ i b r K, Live m h i b r K → r < w.heap.size := fun i b r K hl => by
      exact hr.lt hl
    refine ⟨⟨[], by simp⟩, ⟨T.hr.below, hr.len, hr.real, fun i b r K hl => ?_, hr.inj⟩, T.size, Nat.le_refl _, Nat.le_refl _, fun i _ _ => ⟨rfl, fun b r K hl => keep r (lt _ _ _ _ hl)⟩,
      fun i _ _ b' hb => ⟨b', hb, rfl, ⟨rfl, rfl⟩, fun _ _ => .inr rfl⟩, fun r hlt _ => keep r hlt, fun i b r K hl _ => ⟨i, b, K, hl⟩⟩
    obtain ⟨hB, hc⟩ := hr.blk i b r K hl
    exact ⟨hB, by rw [keep r (lt _ _ _ _ hl)]; exact hc⟩
  · cases hcl

/-- what a sound caller answers may be known beforehand -/
theorem le_ok {E : Env} {call O : Caller} (hc : CallOk E call) (hO : ∀ f a h r, O f a h = some r → call f a h = some r) : CallOk E O :=
  fun f args h v h' lw lp hcl => hc f args h v h' lw lp (hO _ _ _ _ hcl)
/-- two that are known, the one before the other -/
def orC (A B : Caller) : Caller := fun f a h => match A f a h with
  | some r => some r
  | none => B f a h
theorem or_ok {E : Env} {A B : Caller} (hA : CallOk E A) (hB : CallOk E B) : CallOk E (orC A B) := fun f args h v h' lw lp hcl => by
  unfold orC at hcl
  split at hcl
  · rename_i r e
    cases hcl
    exact hA f args h _ _ _ _ e
  · exact hB f args h v h' lw lp hcl

/-- a number is gathered in a loop that counts -/
def iterF (f : Nat → Nat → Nat) : Nat → Nat → Nat → Nat
  | 0, _, acc => acc
  | k + 1, i, acc => iterF f k (i + 1) (f i acc)
theorem loop_acc {b : Int × Int × Mm → Option ((Int × Int × Mm) ⊕ (Int × Mm))} (n : Nat) (f : Nat → Nat → Nat) (m : Mm) (P : Nat → Prop)
    (hin : ∀ i acc : Nat, i < n → P acc → b ((acc : Int), (i : Int), m) = some (.inl (((f i acc : Nat) : Int), ((i + 1 : Nat) : Int), m)) ∧ P (f i acc))
    (hout : ∀ acc : Int, b (acc, (n : Int), m) = some (.inr (acc, m))) : ∀ (k i acc : Nat), i + k = n → P acc → loopX b ((acc : Int), (i : Int), m) = some (((iterF f k i acc : Nat) : Int), m) ∧ P (iterF f k i acc)
  | 0, i, acc, h, hP => by
    obtain rfl : i = n := by omega
    exact ⟨loopX_out (hout _), hP⟩
  | k + 1, i, acc, h, hP => by
    obtain ⟨h1, h2⟩ := hin i acc (by omega) hP
    obtain ⟨h3, h4⟩ := loop_acc n f m P hin hout k (i + 1) (f i acc) (by omega) h2
    exact ⟨loopX_on h1 h3, h4⟩
def iterG (f : Nat → Nat × Nat → Nat × Nat) : Nat → Nat → Nat × Nat → Nat × Nat
  | 0, _, acc => acc
  | k + 1, i, acc => iterG f k (i + 1) (f i acc)
theorem loop_acc2 {b : Int × Int × Int × Mm → Option ((Int × Int × Int × Mm) ⊕ (Int × Int × Mm))} (n : Nat) (f : Nat → Nat × Nat → Nat × Nat) (m : Mm) (P : Nat × Nat → Prop)
    (hin : ∀ (i : Nat) (acc : Nat × Nat), i < n → P acc → b ((acc.1 : Int), (acc.2 : Int), (i : Int), m) = some (.inl ((((f i acc).1 : Nat) : Int), (((f i acc).2 : Nat) : Int), ((i + 1 : Nat) : Int), m)) ∧ P (f i acc))
    (hout : ∀ a c : Int, b (a, c, (n : Int), m) = some (.inr (a, c, m))) : ∀ (k i : Nat) (acc : Nat × Nat), i + k = n → P acc → loopX b ((acc.1 : Int), (acc.2 : Int), (i : Int), m) = some ((((iterG f k i acc).1 : Nat) : Int), (((iterG f k i acc).2 : Nat) : Int), m) ∧ P (iterG f k i acc)
  | 0, i, acc, h, hP => by
    obtain rfl : i = n := by omega
    exact ⟨loopX_out (hout _ _), hP⟩
  | k + 1, i, acc, h, hP => by
    obtain ⟨h1, h2⟩ := hin i acc (by omega) hP
    obtain ⟨h3, h4⟩ := loop_acc2 n f m P hin hout k (i + 1) (f i acc) (by omega) h2
    exact ⟨loopX_on h1 h3, h4⟩
end Go.Vm

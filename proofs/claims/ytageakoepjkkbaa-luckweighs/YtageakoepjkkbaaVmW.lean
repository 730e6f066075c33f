/- Regions whose order is open: what each step of the trace does to the heap, to the stores put off, to what is looked at again. -/
import Derived.Test.YtageakoepjkkbaaVmV
namespace Go.Vm
open Go.RowKit

section
variable {call : Caller} {ro : List ABlk} {h0 : Heap} {o : AOp} {fl : Bool} {s s1 : AnyS} {v : AVal}

theorem step_t (hs : StepR call ro h0 (o, fl) s s1 v) : s1.t = put s.t o.dst v := by
  rcases hs with ⟨_, s', _, rfl, _⟩ | ⟨_, rfl, rfl⟩ <;> rfl

theorem step_wanted (hs : StepR call ro h0 (o, fl) s s1 v) (hg : o.g = none) : ∃ s', anyK call ro h0 s o.k fl = some (v, s') ∧ s1 = { s' with t := put s.t o.dst v } := by
  rcases hs with ⟨_, s', h1, h2, _⟩ | ⟨hw, _, _⟩
  · exact ⟨s', h1, h2⟩
  · simp [wantedA, hg] at hw

theorem step_al {e : Nat} {z : List AVal} (hs : StepR call ro h0 (o, fl) s s1 v) (hk : o.k = .al e z) (hg : o.g = none) :
    v = .p (some ⟨false, s.h.length, 0⟩) ∧ s1.h = s.h ++ [some (blkOf e z)] ∧ s1.ws = s.ws := by
  obtain ⟨s', h1, rfl⟩ := step_wanted hs hg
  rw [hk] at h1
  simp only [anyK] at h1
  cases h1
  exact ⟨rfl, rfl, rfl⟩

theorem step_st {n : Nat} {x y : AOpd} (hs : StepR call ro h0 (o, fl) s s1 v) (hk : o.k = .st n x y) (hg : o.g = none) :
    ∃ q, opd s.t x = .p (some q) ∧ (opd s.t y).cells.length = n ∧ v = und ∧ s1.h = s.h ∧ s1.ws = (q, (opd s.t y).cells) :: s.ws := by
  obtain ⟨s', h1, rfl⟩ := step_wanted hs hg
  rw [hk] at h1
  simp only [anyK] at h1
  split at h1
  · rename_i q e
    split at h1
    · rename_i hn
      cases h1
      exact ⟨q, e, hn, rfl, rfl, rfl⟩
    · cases h1
  · cases h1

theorem step_soft (hs : StepR call ro h0 (o, fl) s s1 v) (h1 : ∀ e z, o.k ≠ .al e z) (h2 : hardK o.k = false) : s1.h = s.h ∧ s1.ws = s.ws := by
  rcases hs with ⟨_, s', hk, rfl, _⟩ | ⟨_, _, rfl⟩
  · cases hkk : o.k <;> rw [hkk] at hk h1 h2 <;> simp only [anyK] at hk
    case pure => rw [Option.map_eq_some_iff] at hk; obtain ⟨_, _, e⟩ := hk; cases e; exact ⟨rfl, rfl⟩
    case ld =>
      split at hk
      · split at hk
        · split at hk
          · cases hk; split <;> exact ⟨rfl, rfl⟩
          · cases hk
        · cases hk
      · cases hk
    case al e z => exact absurd rfl (h1 e z)
    case st => cases h2
    case call =>
      split at hk
      · split at hk
        · split at hk
          · cases hk; exact ⟨rfl, rfl⟩
          · cases hk
        · cases hk
      · cases hk
    case callv =>
      split at hk
      · split at hk
        · split at hk
          · split at hk
            · cases hk; exact ⟨rfl, rfl⟩
            · cases hk
          · cases hk
        · cases hk
      · cases hk
    all_goals cases hk
  · exact ⟨rfl, rfl⟩

theorem step_ck (hs : StepR call ro h0 (o, fl) s s1 v) : ∃ pre, s1.ck = pre ++ s.ck := by
  rcases hs with ⟨_, s', hk, rfl, _⟩ | ⟨_, _, rfl⟩
  · cases hkk : o.k <;> rw [hkk] at hk <;> simp only [anyK] at hk
    case pure => rw [Option.map_eq_some_iff] at hk; obtain ⟨_, _, e⟩ := hk; cases e; exact ⟨[], rfl⟩
    case ld =>
      split at hk
      · split at hk
        · split at hk
          · cases hk; split
            · exact ⟨[_], rfl⟩
            · exact ⟨[], rfl⟩
          · cases hk
        · cases hk
      · cases hk
    case al => cases hk; exact ⟨[], rfl⟩
    case st =>
      split at hk
      · split at hk
        · cases hk; exact ⟨[], rfl⟩
        · cases hk
      · cases hk
    case call =>
      split at hk
      · split at hk
        · split at hk
          · cases hk; exact ⟨[], rfl⟩
          · cases hk
        · cases hk
      · cases hk
    case callv =>
      split at hk
      · split at hk
        · split at hk
          · split at hk
            · cases hk; exact ⟨[], rfl⟩
            · cases hk
          · cases hk
        · cases hk
      · cases hk
    all_goals cases hk
  · exact ⟨[], rfl⟩

theorem step_ld {one : Bool} {n : Nat} {x : AOpd} (hs : StepR call ro h0 (o, fl) s s1 v) (hk : o.k = .ld one n x) (hw : wantedA o.g s.t = true) :
    ∃ q, opd s.t x = .p (some q) ∧ (q.ro || Nat.blt q.b h0.length) = true ∧ rd ro h0 one n q = some v ∧ (fl = true → ((q, [.b one, .i .i64 n]), v) ∈ s1.ck) := by
  rcases hs with ⟨_, s', h1, rfl, _⟩ | ⟨hw', _, _⟩
  · rw [hk] at h1
    simp only [anyK] at h1
    split at h1
    · rename_i q e
      split at h1
      · rename_i hb
        split at h1
        · rename_i u hu
          cases h1
          exact ⟨q, e, hb, hu, fun hf => by simp [hf]⟩
        · cases h1
      · cases h1
    · cases h1
  · rw [hw] at hw'; cases hw'

theorem step_callf {f : Nat} {as : List AOpd} (hs : StepR call ro h0 (o, fl) s s1 v) (hk : o.k = .call f as) (hg : o.g = none) :
    bels h0.length (as.map (opd s.t)) = true ∧ ∃ h' lw lp, call f (as.map (opd s.t)) h0 = some (v, h', lw, lp) ∧ v.bel h0.length = true ∧ h0.length ≤ lw := by
  obtain ⟨s', h1, rfl⟩ := step_wanted hs hg
  rw [hk] at h1
  simp only [anyK] at h1
  split at h1
  · rename_i hb
    split at h1
    · rename_i u h' lw lp hc
      split at h1
      · rename_i hcond
        cases h1
        simp only [Bool.and_eq_true] at hcond
        exact ⟨hb, h', lw, lp, hc, hcond.1.1, Nat.le_of_ble_eq_true hcond.1.2⟩
      · cases h1
    · cases h1
  · cases h1

theorem step_callv {x : AOpd} {as : List AOpd} (hs : StepR call ro h0 (o, fl) s s1 v) (hk : o.k = .callv x as) (hg : o.g = none) :
    ∃ f fs cs, opd s.t x = .fn f fs cs ∧ bels h0.length (fs ++ as.map (opd s.t) ++ cs) = true ∧
      ∃ h' lw lp, call f (fs ++ as.map (opd s.t) ++ cs) h0 = some (v, h', lw, lp) ∧ v.bel h0.length = true ∧ h0.length ≤ lw := by
  obtain ⟨s', h1, rfl⟩ := step_wanted hs hg
  rw [hk] at h1
  simp only [anyK] at h1
  split at h1
  · rename_i f fs cs e
    split at h1
    · rename_i hb
      split at h1
      · rename_i u h' lw lp hc
        split at h1
        · rename_i hcond
          cases h1
          simp only [Bool.and_eq_true] at hcond
          exact ⟨f, fs, cs, e, hb, h', lw, lp, hc, hcond.1.1, Nat.le_of_ble_eq_true hcond.1.2⟩
        · cases h1
      · cases h1
    · cases h1
  · cases h1

end

/- lists that grow -/
theorem grow_app {α : Type} {f : Nat → List α} {n : Nat} (h : ∀ i, i < n → ∃ x, f (i + 1) = f i ++ x) : ∀ (k k' : Nat), k ≤ k' → k' ≤ n → ∃ x, f k' = f k ++ x
  | k, 0, hk, _ => by have : k = 0 := by omega
                      subst this; exact ⟨[], by simp⟩
  | k, k' + 1, hk, hn => by
    by_cases e : k = k' + 1
    · subst e; exact ⟨[], by simp⟩
    · obtain ⟨x, hx⟩ := grow_app h k k' (by omega) (by omega)
      obtain ⟨y, hy⟩ := h k' (by omega)
      exact ⟨x ++ y, by rw [hy, hx]; simp⟩

theorem grow_pre {α : Type} {f : Nat → List α} {n : Nat} (h : ∀ i, i < n → ∃ x, f (i + 1) = x ++ f i) : ∀ (k k' : Nat), k ≤ k' → k' ≤ n → ∃ x, f k' = x ++ f k
  | k, 0, hk, _ => by have : k = 0 := by omega
                      subst this; exact ⟨[], by simp⟩
  | k, k' + 1, hk, hn => by
    by_cases e : k = k' + 1
    · subst e; exact ⟨[], by simp⟩
    · obtain ⟨x, hx⟩ := grow_pre h k k' (by omega) (by omega)
      obtain ⟨y, hy⟩ := h k' (by omega)
      exact ⟨y ++ x, by rw [hy, hx]; simp⟩

/-- what grows by one at certain steps alone has each size at such a step -/
theorem grow_cover {α : Type} {f : Nat → List α} {P : Nat → Prop} {n : Nat} (h : ∀ i, i < n → (f (i + 1)).length = (f i).length ∨ (P i ∧ (f (i + 1)).length = (f i).length + 1)) :
    ∀ (k : Nat), k ≤ n → ∀ c, (f 0).length ≤ c → c < (f k).length → ∃ j, j < k ∧ P j ∧ (f j).length = c
  | 0, _, c, h1, h2 => by omega
  | k + 1, hk, c, h1, h2 => by
    rcases h k (by omega) with e | ⟨hp, e⟩
    · obtain ⟨j, a, b, d⟩ := grow_cover h k (by omega) c h1 (by omega)
      exact ⟨j, by omega, b, d⟩
    · by_cases hc : c < (f k).length
      · obtain ⟨j, a, b, d⟩ := grow_cover h k (by omega) c h1 hc
        exact ⟨j, by omega, b, d⟩
      · exact ⟨k, by omega, hp, by omega⟩

/-- how many are not listed -/
def cnt (S : Array Bool) : Nat → Nat
  | 0 => 0
  | k + 1 => cnt S k + cond (S.getD k false) 0 1

theorem cnt_set {S : Array Bool} {j : Nat} (hj : S.getD j true = false) : ∀ (n : Nat), j < n → cnt (S.setIfInBounds j true) n + 1 = cnt S n
  | 0, h => by omega
  | n + 1, h => by
    have hjs : j < S.size := by
      rcases Nat.lt_or_ge j S.size with h | h
      · exact h
      · simp [Array.getD_eq_getD_getElem?, Array.getElem?_eq_none h] at hj
    have same : ∀ (n : Nat), n ≤ j → cnt (S.setIfInBounds j true) n = cnt S n := by
      intro n
      induction n with
      | zero => intro _; rfl
      | succ n ih => intro hn; simp only [cnt]; rw [ih (by omega), getD_set_ne false (by omega)]
    simp only [cnt]
    by_cases e : j = n
    · subst e
      rw [same j (Nat.le_refl _), getD_both hj]
      have : (S.setIfInBounds j true).getD j false = true := by simp [Array.getD_eq_getD_getElem?, hjs]
      rw [this]; simp
    · rw [getD_set_ne false e]
      have := cnt_set hj n (by omega)
      omega

theorem cnt_zero {S : Array Bool} : ∀ (n : Nat), cnt S n = 0 → ∀ i, i < n → S.getD i false = true
  | 0, _, i, h => by omega
  | n + 1, h, i, hi => by
    simp only [cnt] at h
    by_cases e : i = n
    · subst e
      cases hb : S.getD i false
      · rw [hb] at h; simp at h
      · rfl
    · exact cnt_zero n (by omega) i (by omega)

end Go.Vm

/- Regions whose order is open: what waits for what; the trace of the run in the text's order. -/
import Derived.Test.YtageakoepjkkbaaVmU
namespace Go.Vm
open Go.RowKit

/- WHAT WAITS FOR WHAT -/
def Closed (ops : Array Oper) (S : Array Bool) : Prop := ∀ j o, ops[j]? = some o → S.getD j false = true → ∀ e ∈ o.after, Region.binds .any e = true → S.getD e.on false = true

theorem fold_bits (ms : List Nat) (i : Nat) : ∀ (l : List Edge) (s : Nat), (l.foldl (fun s e => if Region.binds .any e then s ||| 2 ^ e.on ||| ms.getD e.on 0 else s) s).testBit i = true →
    s.testBit i = true ∨ ∃ e ∈ l, Region.binds .any e = true ∧ (e.on = i ∨ (ms.getD e.on 0).testBit i = true)
  | [], s, h => .inl h
  | e :: l, s, h => by
    simp only [List.foldl_cons] at h
    rcases fold_bits ms i l _ h with h | ⟨e', he, hb, hor⟩
    · split at h
      · rename_i hb
        simp only [Nat.testBit_or, Bool.or_eq_true, Nat.testBit_two_pow, decide_eq_true_eq] at h
        rcases h with (h | h) | h
        · exact .inl h
        · exact .inr ⟨e, by simp, hb, .inl h⟩
        · exact .inr ⟨e, by simp, hb, .inr h⟩
      · exact .inl h
    · exact .inr ⟨e', by simp [he], hb, hor⟩

/-- a bit of a mask comes over an edge -/
def Edged (ops : Array Oper) (ms : List Nat) : Prop := ∀ j i, (ms.getD j 0).testBit i = true → ∃ o e, ops[j]? = some o ∧ e ∈ o.after ∧ Region.binds .any e = true ∧ (e.on = i ∨ (e.on < j ∧ (ms.getD e.on 0).testBit i = true))

theorem masks_edged (ops : Array Oper) : ∀ (l : List Oper) (ms : List Nat), Edged ops ms → (∀ k, l[k]? = ops[ms.length + k]?) → Edged ops (masks ms l)
  | [], ms, h, _ => h
  | o :: l, ms, h, hl => by
    have h0 : ops[ms.length]? = some o := by simpa using (hl 0).symm
    refine masks_edged ops l (ms ++ [maskOf ms o]) (fun j i hb => ?_) (fun k => by have := hl (k + 1); simpa [Nat.add_assoc, Nat.add_comm 1 k] using this)
    have old : ∀ k, k < ms.length → (ms ++ [maskOf ms o]).getD k 0 = ms.getD k 0 := fun k hk => by simp [List.getD, List.getElem?_append_left hk]
    rcases Nat.lt_trichotomy j ms.length with hj | hj | hj
    · rw [old j hj] at hb
      obtain ⟨o', e, h1, h2, h3, h4⟩ := h j i hb
      exact ⟨o', e, h1, h2, h3, h4.imp id fun ⟨k1, k2⟩ => ⟨k1, by rw [old _ (by omega)]; exact k2⟩⟩
    · subst hj
      have e0 : (ms ++ [maskOf ms o]).getD ms.length 0 = maskOf ms o := by simp [List.getD]
      rw [e0] at hb
      unfold maskOf at hb
      rcases fold_bits ms i _ _ hb with hz | ⟨e, he, hbi, hor⟩
      · simp at hz
      · refine ⟨o, e, h0, by simpa using he, hbi, hor.imp id fun hm => ?_⟩
        have hlt : e.on < ms.length := by
          rcases Nat.lt_or_ge e.on ms.length with h | h
          · exact h
          · simp [List.getD, List.getElem?_eq_none h] at hm
        exact ⟨hlt, by rw [old _ hlt]; exact hm⟩
    · have : (ms ++ [maskOf ms o]).getD j 0 = 0 := by
        simp [List.getD, List.getElem?_eq_none (l := ms ++ [maskOf ms o]) (i := j) (by simp; omega)]
      rw [this] at hb; simp at hb

theorem waits_listed {ops : Array Oper} {ms : List Nat} (hm : Edged ops ms) {S : Array Bool} (hc : Closed ops S) : ∀ (j i : Nat), (ms.getD j 0).testBit i = true → S.getD j false = true → S.getD i false = true := by
  intro j
  induction j using Nat.strongRecOn with
  | _ j ih =>
    intro i hb hj
    obtain ⟨o, e, h1, h2, h3, h4⟩ := hm j i hb
    have hon := hc j o h1 hj e h2 h3
    rcases h4 with rfl | ⟨hlt, hb2⟩
    · exact hon
    · exact ih e.on hlt i hb2 hon

theorem waits_ready {ops : Array Oper} {ms : List Nat} (hm : Edged ops ms) {S : Array Bool} (hc : Closed ops S) {j i : Nat} (hr : j ∈ Region.ready .any ops S) (hb : (ms.getD j 0).testBit i = true) : S.getD i false = true := by
  obtain ⟨_, o, ho, hall⟩ := mem_ready.1 hr
  obtain ⟨o', e, h1, h2, h3, h4⟩ := hm j i hb
  rw [ho] at h1; cases h1
  have hon := hall e h2 h3
  rcases h4 with rfl | ⟨_, hb2⟩
  · exact hon
  · exact waits_listed hm hc _ _ hb2 hon

theorem Closed.set {ops : Array Oper} {S : Array Bool} (hc : Closed ops S) {j : Nat} (hr : j ∈ Region.ready .any ops S) : Closed ops (S.setIfInBounds j true) := by
  obtain ⟨_, o, ho, hall⟩ := mem_ready.1 hr
  intro k o' hk hl e he hb
  by_cases hjk : j = k
  · subst hjk
    rw [ho] at hk; cases hk
    exact getD_set_true (hall e he hb)
  · rw [getD_set_ne false hjk] at hl
    exact getD_set_true (hc k o' hk hl e he hb)

/- THE TRACE -/
/-- one operation in the text's order: the value that it puts -/
def StepR (call : Caller) (ro : List ABlk) (h0 : Heap) (x : AOp × Bool) (s s1 : AnyS) (v : AVal) : Prop :=
  (wantedA x.1.g s.t = true ∧ ∃ s', anyK call ro h0 s x.1.k x.2 = some (v, s') ∧ s1 = { s' with t := put s.t x.1.dst v } ∧ s'.t = s.t) ∨
  (wantedA x.1.g s.t = false ∧ v = und ∧ s1 = { s with t := put s.t x.1.dst und })

theorem anyK_t {call : Caller} {ro : List ABlk} {h0 : Heap} {s s' : AnyS} {k : Kind} {fl : Bool} {v : AVal} (h : anyK call ro h0 s k fl = some (v, s')) : s'.t = s.t := by
  cases k <;> simp only [anyK] at h
  case pure => rw [Option.map_eq_some_iff] at h; obtain ⟨_, _, e⟩ := h; cases e; rfl
  case ld =>
    split at h
    · split at h
      · split at h
        · cases h; split <;> rfl
        · cases h
      · cases h
    · cases h
  case al => cases h; rfl
  case st =>
    split at h
    · split at h
      · cases h; rfl
      · cases h
    · cases h
  case call =>
    split at h
    · split at h
      · split at h
        · cases h; rfl
        · cases h
      · cases h
    · cases h
  case callv =>
    split at h
    · split at h
      · split at h
        · split at h
          · cases h; rfl
          · cases h
        · cases h
      · cases h
    · cases h
  all_goals cases h

theorem trace {call : Caller} {ro : List ABlk} {h0 : Heap} : ∀ (fl : List (AOp × Bool)) (s sN : AnyS), runAny call ro h0 fl s = some sN →
    ∃ (σ : Nat → AnyS) (val : Nat → AVal), σ 0 = s ∧ (∀ (i : Nat) (x : AOp × Bool), fl[i]? = some x → StepR call ro h0 x (σ i) (σ (i + 1)) (val i)) ∧ σ fl.length = sN
  | [], s, sN, h => by cases h; exact ⟨fun _ => s, fun _ => und, rfl, by simp, rfl⟩
  | (o, flag) :: fl, s, sN, h => by
    simp only [runAny] at h
    have mk : ∀ s1 v, StepR call ro h0 (o, flag) s s1 v → runAny call ro h0 fl s1 = some sN →
        ∃ (σ : Nat → AnyS) (val : Nat → AVal), σ 0 = s ∧ (∀ (i : Nat) (x : AOp × Bool), ((o, flag) :: fl)[i]? = some x → StepR call ro h0 x (σ i) (σ (i + 1)) (val i)) ∧ σ ((o, flag) :: fl).length = sN := by
      intro s1 v hs hrun
      obtain ⟨σ, val, h1, h2, h3⟩ := trace fl s1 sN hrun
      refine ⟨fun | 0 => s | i + 1 => σ i, fun | 0 => v | i + 1 => val i, rfl, fun i x hx => ?_, h3⟩
      cases i with
      | zero => simp at hx; subst hx; show StepR _ _ _ _ s (σ 0) v; rw [h1]; exact hs
      | succ i => exact h2 i x (by simpa using hx)
    split at h
    · rename_i hw
      split at h
      · rename_i v s' hk
        exact mk { s' with t := put s.t o.dst v } v (.inl ⟨hw, s', hk, rfl, anyK_t hk⟩) (by have e := anyK_t hk; rw [e] at h; exact h)
      · cases h
    · rename_i hw
      exact mk _ und (.inr ⟨by simpa using hw, rfl, rfl⟩) h

/- SLOTS: the last of the listed operations that writes one -/
def ts (dst : Nat → Option Nat) (val : Nat → AVal) (base : Nat → AVal) : Nat → (Nat → Bool) → Nat → AVal
  | 0, _, s => base s
  | k + 1, S, s => if S k = true ∧ dst k = some s then val k else ts dst val base k S s

section
variable {dst : Nat → Option Nat} {val : Nat → AVal} {base : Nat → AVal}

theorem ts_congr {s : Nat} : ∀ (n : Nat) {S S' : Nat → Bool}, (∀ k, k < n → dst k = some s → S k = S' k) → ts dst val base n S s = ts dst val base n S' s
  | 0, _, _, _ => rfl
  | n + 1, S, S', h => by
    simp only [ts]
    have ih := ts_congr n (S := S) (S' := S') fun k hk => h k (by omega)
    by_cases hd : dst n = some s
    · rw [h n (by omega) hd, ih]
    · simp [hd, ih]

/-- before operation i, in the text's order -/
theorem ts_before {s : Nat} (i : Nat) : ∀ (n : Nat), i ≤ n → ts dst val base n (fun k => decide (k < i)) s = ts dst val base i (fun _ => true) s
  | 0, h => by have : i = 0 := by omega
               subst this; rfl
  | n + 1, h => by
    by_cases hi : i = n + 1
    · subst hi
      exact ts_congr _ fun k hk _ => by simp [hk]
    · simp only [ts]
      rw [if_neg (by simp; omega)]
      exact ts_before i n (by omega)

theorem ts_put {s : Nat} {S : Nat → Bool} {j : Nat} (hS : S j = false) : ∀ (n : Nat), j < n → (∀ k, j < k → k < n → dst k = some s → dst j = some s → S k = false) →
    ts dst val base n (fun k => S k || decide (k = j)) s = if dst j = some s then val j else ts dst val base n S s
  | 0, h, _ => by omega
  | n + 1, h, hk => by
    simp only [ts]
    by_cases hjn : j = n
    · subst hjn
      by_cases hd : dst j = some s
      · simp [hd]
      · simp only [hd, and_false, if_false]
        exact ts_congr j fun k hk _ => by have : k ≠ j := by omega
                                          simp [this]
    · have hne : ¬ n = j := fun e => hjn e.symm
      simp only [hne, decide_false, Bool.or_false]
      by_cases hd : dst j = some s
      · have ih := ts_put hS n (by omega) fun k h1 h2 => hk k h1 (by omega)
        by_cases hdn : dst n = some s
        · have := hk n (by omega) (by omega) hdn hd
          simp [this, ih, hd]
        · simp [hdn, ih, hd]
      · have e : ∀ T : Nat → Bool, ts dst val base n (fun k => T k || decide (k = j)) s = ts dst val base n T s := fun T => ts_congr n fun k _ hdk => by
          have : k ≠ j := fun e => hd (e ▸ hdk)
          simp [this]
        rw [e S, if_neg hd]
end

end Go.Vm

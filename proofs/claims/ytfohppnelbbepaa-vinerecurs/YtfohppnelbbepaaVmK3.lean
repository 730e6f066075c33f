/- Contracts of the functions: what each of them answers. -/
import Derived.Test.YtfohppnelbbepaaVmK2
/- What the polynomials say -/
open Go.Vm
set_option linter.unusedVariables false
set_option linter.unusedSectionVars false
namespace Go.Proofs.Ytfohppnelbbepaa.T
open Go
variable [Ovr]
section
variable (a : Nat → Nat → Int)
def vals : Nat → Int := fun v => a (v / 6) (v % 6)
theorem vals_at {r c : Nat} (hc : c < 6) : vals a (6 * r + c) = a r c := by
  unfold vals
  rw [show (6 * r + c) / 6 = r by omega, show (6 * r + c) % 6 = c by omega]
theorem mon_zero (ρ : Nat → Int) : ∀ f i, mon ρ f i 0 = 1
  | 0, _ => rfl
  | f + 1, i => by show ρ i ^ 0 * mon ρ f (i + 1) 0 = 1; rw [mon_zero ρ f (i + 1)]; simp
theorem pev_one (ρ : Nat → Int) : pev ρ [(0, 1)] = 1 := by simp [pev, mon_zero]
variable {a}
theorem addO_ev {ρ : Nat → Int} {x y : Option Poly} {p : Poly} (h : addO x y = some p) : ∃ u v, x = some u ∧ y = some v ∧ pev ρ p = pev ρ u + pev ρ v := by
  cases x with
  | none => cases h
  | some u =>
    cases y with
    | none => cases h
    | some v => cases h; exact ⟨u, v, rfl, rfl, pev_add _ _ _ _⟩
theorem scO_ev {ρ : Nat → Int} {c : Int} {x : Option Poly} {p : Poly} (h : scO c x = some p) : ∃ u, x = some u ∧ pev ρ p = c * pev ρ u := by
  cases x with
  | none => cases h
  | some u => cases h; exact ⟨u, rfl, pev_sc _ _ _⟩
theorem mvO_ev {ρ : Nat → Int} {j : Nat} (hj : j < 36) {x : Option Poly} {p : Poly} (h : mvO j x = some p) : ∃ u, x = some u ∧ pev ρ p = ρ j * pev ρ u := by
  cases x with
  | none => cases h
  | some u => exact ⟨u, rfl, pev_mv ρ hj h⟩
theorem sign_pow : ∀ i : Nat, (cond (Nat.beq (i % 2) 0) 1 (-1) : Int) = (-1) ^ i
  | 0 => rfl
  | 1 => rfl
  | i + 2 => by
    have e : (i + 2) % 2 = i % 2 := by omega
    rw [e, sign_pow i, Int.pow_succ, Int.pow_succ]; simp
theorem expP_ev {f : List Nat → Option Poly} {g : List Nat → Int} (hf : ∀ cols p, (∀ c ∈ cols, c < 6) → f cols = some p → pev (vals a) p = g cols) {r : Nat} (hr : r < 6) {cols : List Nat} (hc : ∀ c ∈ cols, c < 6) : ∀ (i : Nat) {p : Poly}, i ≤ cols.length → expP f r cols i = some p → pev (vals a) p = sumZ (fun i => (-1) ^ i * a r (cols.getD i 0) * g (cols.eraseIdx i)) i
  | 0, p, _, h => by cases h; rfl
  | i + 1, p, hi, h => by
    obtain ⟨u, v, h1, h2, h3⟩ := addO_ev (ρ := vals a) h
    obtain ⟨w, h4, h5⟩ := scO_ev (ρ := vals a) h2
    have hci : cols.getD i 0 < 6 := by
      rw [List.getD_eq_getElem?_getD, List.getElem?_eq_getElem (by omega)]
      exact hc _ (List.getElem_mem _)
    obtain ⟨x, h6, h7⟩ := mvO_ev (ρ := vals a) (by omega) h4
    have h8 := hf _ x (fun c h => hc c (List.mem_of_mem_eraseIdx h)) h6
    show _ = sumZ _ i + _
    rw [h3, expP_ev hf hr hc i (by omega) h1, h5, h7, vals_at a hci, h8, sign_pow, ← Int.mul_assoc]
theorem detP_ev : ∀ (rows : List Nat) (cols : List Nat) (p : Poly), (∀ r ∈ rows, r < 6) → (∀ c ∈ cols, c < 6) → detP rows cols = some p → pev (vals a) p = detZ a rows cols
  | [], cols, p, _, _, h => by cases h; exact pev_one _
  | r :: rs, cols, p, hr, hc, h => expP_ev (a := a) (g := detZ a rs) (fun cols p hc h => detP_ev rs cols p (fun r h => hr r (List.mem_cons_of_mem _ h)) hc h) (hr r (List.mem_cons_self ..)) hc _ (Nat.le_refl _) h
theorem subs_lt (s : Nat) : ∀ n, ∀ p ∈ subs s n, p < n
  | 0, p, h => by cases h
  | n + 1, p, h => by
    unfold subs at h
    rw [List.mem_append] at h
    rcases h with h | h
    · have := subs_lt s n p h; omega
    · cases hb : Nat.beq (s / 2 ^ n % 2) 1 <;> rw [hb] at h
      · cases h
      · have : p = n := by simpa using h
        omega
theorem coP_ev {n k : Nat} (hn : n ≤ 6) : ∀ (s : Nat) {p : Poly}, coP n k s = some p → pev (vals a) p = eZ a n k s
  | 0, p, h => by cases h; rfl
  | s + 1, p, h => by
    obtain ⟨u, v, h1, h2, h3⟩ := addO_ev (ρ := vals a) h
    show _ = eZ a n k s + _
    rw [h3, coP_ev hn s h1]
    congr 1
    cases hb : Nat.beq (subs s n).length k <;> rw [hb] at h2
    · cases h2; show (0 : Int) = cond (Nat.beq (subs s n).length k) _ _; rw [hb]; rfl
    · obtain ⟨w, h4, h5⟩ := scO_ev (ρ := vals a) h2
      have hl : ∀ c ∈ subs s n, c < 6 := fun c hc => by have := subs_lt s n c hc; omega
      rw [h5, detP_ev _ _ w hl hl h4]
      show _ = cond (Nat.beq (subs s n).length k) _ _
      rw [hb]; rfl
abbrev entP (M : PMat) (p q : Nat) : Poly := (M.getD p []).getD q []
theorem dotP_ev {M : PMat} {p q : Nat} (hp : p < 6) : ∀ (t : Nat) {x : Poly}, t ≤ 6 → dotP M p q t = some x → pev (vals a) x = sumZ (fun t => a p t * pev (vals a) (entP M t q)) t
  | 0, x, _, h => by cases h; rfl
  | t + 1, x, ht, h => by
    obtain ⟨u, v, h1, h2, h3⟩ := addO_ev (ρ := vals a) h
    have h4 := pev_mv (vals a) (show 6 * p + t < 36 by omega) h2
    show _ = sumZ _ t + _
    rw [h3, dotP_ev hp t (by omega) h1, h4, vals_at a (by omega)]
theorem getD_snoc {α : Type} {l : List α} {x d : α} {i : Nat} : (l ++ [x]).getD i d = if i < l.length then l.getD i d else if i = l.length then x else d := by
  rw [List.getD_eq_getElem?_getD]
  by_cases h1 : i < l.length
  · rw [if_pos h1, List.getElem?_append_left h1, ← List.getD_eq_getElem?_getD]
  · rw [if_neg h1, List.getElem?_append_right (by omega)]
    by_cases h2 : i = l.length
    · rw [if_pos h2, h2]; simp
    · rw [if_neg h2, List.getElem?_eq_none (by simp; omega)]; rfl
theorem rowP_ev {M : PMat} {n p : Nat} (hn : n ≤ 6) (hp : p < 6) : ∀ (Q : Nat) {l : List Poly}, rowP M n p Q = some l → l.length = Q ∧ ∀ q, q < Q → pev (vals a) (l.getD q []) = sumZ (fun t => a p t * pev (vals a) (entP M t q)) n
  | 0, l, h => by cases h; exact ⟨rfl, fun q hq => by omega⟩
  | Q + 1, l, h => by
    change (match rowP M n p Q with | some l => (match dotP M p Q n with | some x => some (l ++ [x]) | none => none) | none => none) = some l at h
    cases h1 : rowP M n p Q with
    | none => rw [h1] at h; cases h
    | some l1 =>
      rw [h1] at h
      cases h2 : dotP M p Q n with
      | none => rw [h2] at h; cases h
      | some x =>
        rw [h2] at h
        cases h
        obtain ⟨g1, g2⟩ := rowP_ev hn hp Q h1
        refine ⟨by simp [g1], fun q hq => ?_⟩
        rw [getD_snoc, g1]
        by_cases e : q < Q
        · rw [if_pos e]; exact g2 q e
        · have e2 : q = Q := by omega
          rw [if_neg e, if_pos e2, e2]
          exact dotP_ev hp n hn h2
theorem mulP_ev {M : PMat} {n : Nat} (hn : n ≤ 6) : ∀ (P : Nat) {l : PMat}, P ≤ n → mulP M n P = some l → l.length = P ∧ ∀ p q, p < P → q < n → pev (vals a) (entP l p q) = sumZ (fun t => a p t * pev (vals a) (entP M t q)) n
  | 0, l, _, h => by cases h; exact ⟨rfl, fun p q hp => by omega⟩
  | P + 1, l, hP, h => by
    change (match mulP M n P with | some l => (match rowP M n P n with | some x => some (l ++ [x]) | none => none) | none => none) = some l at h
    cases h1 : mulP M n P with
    | none => rw [h1] at h; cases h
    | some l1 =>
      rw [h1] at h
      cases h2 : rowP M n P n with
      | none => rw [h2] at h; cases h
      | some x =>
        rw [h2] at h
        cases h
        obtain ⟨g1, g2⟩ := mulP_ev hn P (by omega) h1
        refine ⟨by simp [g1], fun p q hp hq => ?_⟩
        show pev _ (((l1 ++ [x]).getD p []).getD q []) = _
        rw [getD_snoc, g1]
        by_cases e : p < P
        · rw [if_pos e]; exact g2 p q e hq
        · have e2 : p = P := by omega
          rw [if_neg e, if_pos e2, e2]
          exact (rowP_ev hn (by omega) n h2).2 q hq
theorem trP_ev {M : PMat} : ∀ P, pev (vals a) (trP M P) = sumZ (fun p => pev (vals a) (entP M p p)) P
  | 0 => rfl
  | P + 1 => by
    show pev _ (padd 4000 (trP M P) (entP M P P)) = sumZ _ P + _
    rw [pev_add, trP_ev P]
theorem rowS_ev {e : Poly} {r : List Poly} {p : Nat} : ∀ Q, (rowS e r p Q).length = Q ∧ ∀ q, q < Q → pev (vals a) ((rowS e r p Q).getD q []) = pev (vals a) (r.getD q []) - if p = q then pev (vals a) e else 0
  | 0 => ⟨rfl, fun q hq => by omega⟩
  | Q + 1 => by
    obtain ⟨g1, g2⟩ := rowS_ev (e := e) (r := r) (p := p) Q
    have e0 : rowS e r p (Q + 1) = rowS e r p Q ++ [cond (Nat.beq p Q) (padd 4000 (r.getD Q []) (psc (-1) e)) (r.getD Q [])] := rfl
    refine ⟨by rw [e0]; simp [g1], fun q hq => ?_⟩
    rw [e0, getD_snoc, g1]
    by_cases h : q < Q
    · rw [if_pos h]; exact g2 q h
    · have h2 : q = Q := by omega
      rw [if_neg h, if_pos h2, h2]
      by_cases h3 : p = Q
      · have hb : Nat.beq p Q = true := by rw [h3]; exact Nat.beq_refl _
        rw [hb, if_pos h3, cond_true, pev_add, pev_sc]; omega
      · have hb : Nat.beq p Q = false := by rw [← Bool.not_eq_true]; intro h; exact h3 (Nat.eq_of_beq_eq_true h)
        rw [hb, if_neg h3, cond_false]; omega
theorem subP_ev {e : Poly} {M : PMat} {n : Nat} : ∀ P, (subP e M n P).length = P ∧ ∀ p q, p < P → q < n → pev (vals a) (entP (subP e M n P) p q) = pev (vals a) (entP M p q) - if p = q then pev (vals a) e else 0
  | 0 => ⟨rfl, fun p q hp => by omega⟩
  | P + 1 => by
    obtain ⟨g1, g2⟩ := subP_ev (e := e) (M := M) (n := n) P
    have e0 : subP e M n (P + 1) = subP e M n P ++ [rowS e (M.getD P []) P n] := rfl
    refine ⟨by rw [e0]; simp [g1], fun p q hp hq => ?_⟩
    show pev _ (((subP e M n (P + 1)).getD p []).getD q []) = _
    rw [e0, getD_snoc, g1]
    by_cases h : p < P
    · rw [if_pos h]; exact g2 p q h hq
    · have h2 : p = P := by omega
      rw [if_neg h, if_pos h2, h2]
      exact (rowS_ev n).2 q hq
theorem oneP_ev {n : Nat} : ∀ P, (oneP n P).length = P ∧ ∀ p q, p < P → q < n → pev (vals a) (entP (oneP n P) p q) = if p = q then 1 else 0
  | 0 => ⟨rfl, fun p q hp => by omega⟩
  | P + 1 => by
    obtain ⟨g1, g2⟩ := oneP_ev (n := n) P
    have e0 : oneP n (P + 1) = oneP n P ++ [(List.range n).map fun q => cond (Nat.beq P q) [(0, 1)] []] := rfl
    refine ⟨by rw [e0]; simp [g1], fun p q hp hq => ?_⟩
    show pev _ (((oneP n (P + 1)).getD p []).getD q []) = _
    rw [e0, getD_snoc, g1]
    by_cases h : p < P
    · rw [if_pos h]; exact g2 p q h hq
    · have h2 : p = P := by omega
      rw [if_neg h, if_pos h2, h2]
      have e1 : ((List.range n).map fun q => cond (Nat.beq P q) [((0 : Nat), (1 : Int))] []).getD q [] = cond (Nat.beq P q) [(0, 1)] [] := by simp [List.getD, hq]
      rw [e1]
      by_cases h3 : P = q
      · rw [if_pos h3, h3, Nat.beq_refl, cond_true]; exact pev_one _
      · have hb : Nat.beq P q = false := by rw [← Bool.not_eq_true]; intro h; exact h3 (Nat.eq_of_beq_eq_true h)
        rw [if_neg h3, hb]; rfl
theorem beqP_eq : ∀ {x y : Poly}, beqP x y = true → x = y
  | [], [], _ => rfl
  | (k, c) :: x, (l, d) :: y, h => by
    simp only [beqP, Bool.and_eq_true] at h
    obtain ⟨h1, h2, h3⟩ := h
    rw [Nat.eq_of_beq_eq_true h1, beqP_eq h3]
    have : c = d := by rw [eqI_eq] at h2; simpa using h2
    rw [this]
theorem stepP_ev {n k : Nat} (hn : n ≤ 6) {M M' : PMat} (hM : ∀ p q, p < n → q < n → pev (vals a) (entP M p q) = flM a n k p q) (h : stepP n k M = some M') :
    (∀ p q, p < n → q < n → pev (vals a) (entP M' p q) = flM a n (k + 1) p q) ∧ sumZ (fun p => sumZ (fun t => a p t * flM a n k t p) n) n = ((k + 1 : Nat) : Int) * coZ a n (k + 1) := by
  unfold stepP at h
  cases h1 : mulP M n n with
  | none => rw [h1] at h; cases h
  | some M1 =>
    rw [h1] at h
    cases h2 : coP n (k + 1) (2 ^ n) with
    | none => rw [h2] at h; cases h
    | some e =>
      rw [h2] at h
      have he := coP_ev (a := a) hn _ h2
      obtain ⟨-, g2⟩ := mulP_ev (a := a) hn n (Nat.le_refl _) h1
      have g3 : ∀ p q, p < n → q < n → pev (vals a) (entP M1 p q) = sumZ (fun t => a p t * flM a n k t q) n := fun p q hp hq => by
        rw [g2 p q hp hq]
        exact sumZ_congr n fun t ht => by rw [hM t q ht hq]
      cases h3 : beqP (trP M1 n) (psc (.ofNat (k + 1)) e) with
      | false => simp only [h3] at h; cases h
      | true =>
        simp only [h3, cond_true] at h
        cases h
        refine ⟨fun p q hp hq => ?_, ?_⟩
        · rw [(subP_ev n).2 p q hp hq, g3 p q hp hq, he]
          rfl
        · have h4 := congrArg (pev (vals a)) (beqP_eq h3)
          rw [trP_ev, pev_sc, he] at h4
          rw [← sumZ_congr n fun p hp => g3 p p hp hp]
          exact h4
theorem runP_ev {n : Nat} (hn : n ≤ 6) : ∀ (k : Nat) {M : PMat}, runP n k = some M → (∀ p q, p < n → q < n → pev (vals a) (entP M p q) = flM a n k p q) ∧ ∀ j, j < k → sumZ (fun p => sumZ (fun t => a p t * flM a n j t p) n) n = ((j + 1 : Nat) : Int) * coZ a n (j + 1)
  | 0, M, h => by cases h; exact ⟨fun p q hp hq => (oneP_ev n).2 p q hp hq, fun j hj => by omega⟩
  | k + 1, M, h => by
    change (match runP n k with | some M => stepP n k M | none => none) = some M at h
    cases h1 : runP n k with
    | none => rw [h1] at h; cases h
    | some M0 =>
      rw [h1] at h
      obtain ⟨g1, g2⟩ := runP_ev hn k h1
      obtain ⟨g3, g4⟩ := stepP_ev hn g1 h
      refine ⟨g3, fun j hj => ?_⟩
      by_cases e : j < k
      · exact g2 j e
      · have e2 : j = k := by omega
        rw [e2]; exact g4
theorem chk_ev {n : Nat} (hn : n ≤ 6) (h : chkP n = true) : (∀ j, j < n → sumZ (fun p => sumZ (fun t => a p t * flM a n j t p) n) n = ((j + 1 : Nat) : Int) * coZ a n (j + 1)) ∧ ∀ p q, p < n → q < n → flM a n n p q = 0 := by
  unfold chkP at h
  cases h1 : runP n n with
  | none => rw [h1] at h; cases h
  | some M =>
    rw [h1] at h
    obtain ⟨g1, g2⟩ := runP_ev (a := a) hn n h1
    refine ⟨g2, fun p q hp hq => ?_⟩
    rw [← g1 p q hp hq]
    have h2 : zeroP M = true := h
    have : entP M p q = [] := by
      unfold zeroP at h2
      rw [List.all_eq_true] at h2
      unfold entP
      rw [List.getD_eq_getElem?_getD (l := M)]
      cases e1 : M[p]? with
      | none => rfl
      | some r =>
        have h3 := h2 r (List.mem_of_getElem? e1)
        rw [List.all_eq_true] at h3
        show r.getD q [] = []
        rw [List.getD_eq_getElem?_getD]
        cases e2 : r[q]? with
        | none => rfl
        | some x =>
          have := h3 x (List.mem_of_getElem? e2)
          simpa using this
    rw [this]; rfl
theorem FL (a : Nat → Nat → Int) {n : Nat} (h1 : 1 ≤ n) (h6 : n ≤ 6) : (∀ j, j < n → sumZ (fun p => sumZ (fun t => a p t * flM a n j t p) n) n = ((j + 1 : Nat) : Int) * coZ a n (j + 1)) ∧ ∀ p q, p < n → q < n → flM a n n p q = 0 := by
  refine chk_ev h6 ?_
  match n, h1, h6 with
  | 1, _, _ => exact chk1
  | 2, _, _ => exact chk2
  | 3, _, _ => exact chk3
  | 4, _, _ => exact chk4
  | 5, _, _ => exact chk5
  | 6, _, _ => exact chk6
end
end Go.Proofs.Ytfohppnelbbepaa.T
/- Bounds -/
open Go.Vm
set_option linter.unusedVariables false
set_option linter.unusedSectionVars false
namespace Go.Proofs.Ytfohppnelbbepaa.T
open Go
variable [Ovr]
section
def aM (z : List (List UInt8)) : Nat → Nat → Int := fun p q => (((z.getD q []).count (UInt8.ofNat (97 + p)) : Nat) : Int)
theorem aM_bd {z : List (List UInt8)} (hz : VOk z) {p q : Nat} (hq : q < z.length) : 0 ≤ aM z p q ∧ aM z p q ≤ 8 := by
  have h1 := hz.h8 q hq
  have h2 : (z.getD q []).count (UInt8.ofNat (97 + p)) ≤ (z.getD q []).length := List.count_le_length
  unfold aM
  omega
def Bd (B x : Int) : Prop := -B ≤ x ∧ x ≤ B
theorem Bd.mul {B a x : Int} (ha : 0 ≤ a ∧ a ≤ 8) (h : Bd B x) : Bd (8 * B) (a * x) := by
  have hB : 0 ≤ B := by have := h.1; have := h.2; omega
  have h1 : a * x ≤ a * B := Int.mul_le_mul_of_nonneg_left h.2 ha.1
  have h2 : a * B ≤ 8 * B := Int.mul_le_mul_of_nonneg_right ha.2 hB
  have h3 : a * (-B) ≤ a * x := Int.mul_le_mul_of_nonneg_left h.1 ha.1
  rw [Int.mul_neg] at h3
  exact ⟨by omega, by omega⟩
theorem sumZ_bd {B : Int} (hB : 0 ≤ B) {f : Nat → Int} : ∀ n, (∀ i, i < n → Bd B (f i)) → Bd (n * B) (sumZ f n)
  | 0, _ => by show Bd _ 0; unfold Bd; omega
  | n + 1, h => by
    have h1 := sumZ_bd hB n fun i hi => h i (by omega)
    have h2 := h n (by omega)
    have e : ((n + 1 : Nat) : Int) * B = n * B + B := by rw [show ((n + 1 : Nat) : Int) = n + 1 by omega, Int.add_mul, Int.one_mul]
    show Bd _ (sumZ f n + f n)
    unfold Bd at h1 h2 ⊢
    rw [e]
    omega
theorem Bd.le {B C x : Int} (h : Bd B x) (hBC : B ≤ C) : Bd C x := ⟨by have := h.1; omega, by have := h.2; omega⟩
theorem sum6_bd {B : Int} (hB : 0 ≤ B) {f : Nat → Int} {n : Nat} (hn : n ≤ 6) (h : ∀ i, i < n → Bd B (f i)) : Bd (6 * B) (sumZ f n) :=
  (sumZ_bd hB n h).le (Int.mul_le_mul_of_nonneg_right (by omega) hB)
theorem p400 (k : Nat) : (0 : Int) ≤ 400 ^ k := Int.pow_nonneg (by decide)
theorem flM_bd {z : List (List UInt8)} (hz : VOk z) : ∀ k, k ≤ 6 → (∀ p q, p < z.length → q < z.length → Bd (400 ^ k) (flM (aM z) z.length k p q)) ∧ (k < 6 → k < z.length → Bd (288 * 400 ^ k) (coZ (aM z) z.length (k + 1)))
  | 0, _ => by
    have hn := hz.h6
    have h0 : ∀ p q, p < z.length → q < z.length → Bd (400 ^ 0) (flM (aM z) z.length 0 p q) := fun p q _ _ => by
      show Bd _ (if p = q then 1 else 0)
      unfold Bd
      split <;> simp
    refine ⟨h0, fun _ hk => ?_⟩
    have hs : ∀ p q, p < z.length → q < z.length → Bd (48 * 400 ^ 0) (sumZ (fun t => aM z p t * flM (aM z) z.length 0 t q) z.length) := fun p q hp hq => by
      have := sum6_bd (B := 8 * 400 ^ 0) (by decide) hn fun t ht => (h0 t q ht hq).mul (aM_bd hz (p := p) ht)
      exact this.le (by omega)
    have ht := sum6_bd (B := 48 * 400 ^ 0) (by decide) hn fun p hp => hs p p hp hp
    have h2 := (FL (aM z) hz.h1 hz.h6).1 0 hk
    rw [h2] at ht
    unfold Bd at ht ⊢
    omega
  | k + 1, hk => by
    have hn := hz.h6
    obtain ⟨g1, -⟩ := flM_bd hz k (by omega)
    obtain ⟨B, hB⟩ : ∃ B : Int, B = 400 ^ k := ⟨_, rfl⟩
    have hB0 : 0 ≤ B := by rw [hB]; exact p400 k
    have e : (400 : Int) ^ (k + 1) = 400 * B := by rw [Int.pow_succ, ← hB, Int.mul_comm]
    rw [← hB] at g1
    have hs : ∀ p q, p < z.length → q < z.length → Bd (48 * B) (sumZ (fun t => aM z p t * flM (aM z) z.length k t q) z.length) := fun p q hp hq => by
      have := sum6_bd (B := 8 * B) (by omega) hn fun t ht => (g1 t q ht hq).mul (aM_bd hz (p := p) ht)
      exact this.le (by omega)
    have h1 : ∀ p q, p < z.length → q < z.length → Bd (400 ^ (k + 1)) (flM (aM z) z.length (k + 1) p q) := fun p q hp hq => by
      have hc : p = q → Bd (288 * B) (coZ (aM z) z.length (k + 1)) := fun e => by
        have hkn : k < z.length ∨ z.length ≤ k := by omega
        have ht := sum6_bd (B := 48 * B) (by omega) hn fun p hp => hs p p hp hp
        rcases hkn with hkn | hkn
        · have h2 := (FL (aM z) hz.h1 hz.h6).1 k hkn
          rw [h2] at ht
          obtain ⟨c, hcc⟩ : ∃ c, c = coZ (aM z) z.length (k + 1) := ⟨_, rfl⟩
          rw [← hcc] at ht ⊢
          unfold Bd at ht ⊢
          have : k = 0 ∨ k = 1 ∨ k = 2 ∨ k = 3 ∨ k = 4 ∨ k = 5 := by omega
          rcases this with rfl | rfl | rfl | rfl | rfl | rfl <;> omega
        · have h0 : coZ (aM z) z.length (k + 1) = 0 := by
            have hl : ∀ s m, (subs s m).length ≤ m := fun s m => by
              induction m with
              | zero => exact Nat.le_refl _
              | succ m ih => unfold subs; rw [List.length_append]; cases Nat.beq (s / 2 ^ m % 2) 1 <;> simp <;> omega
            have : ∀ m, eZ (aM z) z.length (k + 1) m = 0 := fun m => by
              induction m with
              | zero => rfl
              | succ m ih =>
                show eZ (aM z) z.length (k + 1) m + cond (Nat.beq (subs m z.length).length (k + 1)) _ 0 = 0
                have hb : Nat.beq (subs m z.length).length (k + 1) = false := by
                  rw [← Bool.not_eq_true]; intro h
                  have := Nat.eq_of_beq_eq_true h
                  have := hl m z.length
                  omega
                rw [ih, hb]; rfl
            exact this _
          rw [h0]; unfold Bd; omega
      have h3 := hs p q hp hq
      show Bd _ (sumZ _ _ - if p = q then _ else 0)
      rw [e]
      by_cases h : p = q
      · have := hc h
        rw [if_pos h]
        unfold Bd at h3 this ⊢
        omega
      · rw [if_neg h]
        unfold Bd at h3 ⊢
        omega
    refine ⟨h1, fun hk6 hkn => ?_⟩
    obtain ⟨C, hC⟩ : ∃ C : Int, C = 400 ^ (k + 1) := ⟨_, rfl⟩
    have hC0 : 0 ≤ C := by rw [hC]; exact p400 _
    rw [← hC] at h1 ⊢
    have hs2 : ∀ p q, p < z.length → q < z.length → Bd (48 * C) (sumZ (fun t => aM z p t * flM (aM z) z.length (k + 1) t q) z.length) := fun p q hp hq => by
      have := sum6_bd (B := 8 * C) (by omega) hn fun t ht => (h1 t q ht hq).mul (aM_bd hz (p := p) ht)
      exact this.le (by omega)
    have ht := sum6_bd (B := 48 * C) (by omega) hn fun p hp => hs2 p p hp hp
    have h2 := (FL (aM z) hz.h1 hz.h6).1 (k + 1) hkn
    rw [h2] at ht
    obtain ⟨c, hcc⟩ : ∃ c, c = coZ (aM z) z.length (k + 1 + 1) := ⟨_, rfl⟩
    rw [← hcc] at ht ⊢
    unfold Bd at ht ⊢
    have : k = 0 ∨ k = 1 ∨ k = 2 ∨ k = 3 ∨ k = 4 := by omega
    rcases this with rfl | rfl | rfl | rfl | rfl <;> omega
theorem p400_le {k : Nat} (hk : k ≤ 6) : (400 : Int) ^ k ≤ 4096000000000000 := by
  have : k = 0 ∨ k = 1 ∨ k = 2 ∨ k = 3 ∨ k = 4 ∨ k = 5 ∨ k = 6 := by omega
  rcases this with rfl | rfl | rfl | rfl | rfl | rfl | rfl <;> decide
def cellI (x : List (List Int)) (p q : Nat) : Int := (x.getD p []).getD q 0
def DimI (n : Nat) (y : List (List Int)) : Prop := y.length = n ∧ ∀ t, t < n → (y.getD t []).length = n
theorem DimI.cell {n : Nat} {y : List (List Int)} (d : DimI n y) {p q : Nat} (hp : p < n) (hq : q < n) : (y.getD p [])[q]? = some (cellI y p q) := by
  have h3 : q < (y.getD p []).length := by rw [d.2 p hp]; exact hq
  unfold cellI
  rw [List.getElem?_eq_getElem h3, List.getD_eq_getElem?_getD (l := y.getD p []), List.getElem?_eq_getElem h3]
  rfl
theorem DimI.row {n : Nat} {y : List (List Int)} (d : DimI n y) {p : Nat} (hp : p < n) : y[p]? = some (y.getD p []) := by
  have h1 : p < y.length := by rw [d.1]; exact hp
  simp [List.getD, h1]
theorem DimI.set {n : Nat} {y : List (List Int)} (d : DimI n y) {r c : Nat} (hr : r < n) (b : Int) : DimI n (setM y r c b) := ⟨by rw [setM_len, d.1], fun t ht => by rw [setM_rlen (by rw [d.1]; exact hr), d.2 t ht]⟩
theorem DimI.cell_set {n : Nat} {y : List (List Int)} (d : DimI n y) {r c p q : Nat} (hr : r < n) (hc : c < n) (b : Int) : cellI (setM y r c b) p q = if p = r ∧ q = c then b else cellI y p q := by
  unfold cellI
  rw [setM_row (by rw [d.1]; exact hr)]
  by_cases e : p = r
  · subst e
    rw [if_pos rfl, List.getD_eq_getElem?_getD, List.getElem?_set]
    by_cases e2 : c = q
    · subst e2
      rw [if_pos rfl, if_pos (by rw [d.2 p hr]; exact hc), if_pos ⟨rfl, rfl⟩]; rfl
    · rw [if_neg e2, if_neg (fun e => e2 e.2.symm), ← List.getD_eq_getElem?_getD]
  · rw [if_neg e, if_neg (fun e2 => e e2.1)]
theorem DimI.mem {n : Nat} {y : List (List Int)} (d : DimI n y) : ∀ r ∈ y, r.length = n := fun r hr => by
  obtain ⟨t, ht, rfl⟩ := List.getElem_of_mem hr
  have := d.2 t (by rw [← d.1]; exact ht)
  simpa [List.getD, ht] using this
theorem mat79_dim (z : List (List UInt8)) : DimI z.length (mat79 z) := ⟨by simp [mat79], fun t ht => by simp [mat79, List.getD, ht]⟩
theorem mat79_cell {z : List (List UInt8)} {p q : Nat} (hp : p < z.length) (hq : q < z.length) : cellI (mat79 z) p q = aM z p q := by
  simp [cellI, mat79, List.getD, hp, hq, aM, cI]
theorem prod82_cell {xa xb : List (List Int)} {p q : Nat} (hp : p < xa.length) (hq : q < (xb.getD 0 []).length) : cellI (prod82 xa xb) p q = dot82 (xa.getD p []) xb q xb.length := by
  have e : xa.getD p [] = xa[p] := by simp [List.getD, hp]
  have e1 : (prod82 xa xb).getD p [] = (List.range (xb.getD 0 []).length).map fun j => dot82 xa[p] xb j xb.length := by
    unfold prod82
    rw [List.getD_eq_getElem?_getD, List.getElem?_map, List.getElem?_eq_getElem hp]
    rfl
  unfold cellI
  rw [e, e1, List.getD_eq_getElem?_getD, List.getElem?_map, List.getElem?_range hq]
  rfl
theorem prod82_dim {n : Nat} {xa xb : List (List Int)} (h1 : 1 ≤ n) (d1 : DimI n xa) (d2 : DimI n xb) : DimI n (prod82 xa xb) := by
  refine ⟨by simp [prod82, d1.1], fun t ht => ?_⟩
  have e1 : (prod82 xa xb).getD t [] = (List.range (xb.getD 0 []).length).map fun j => dot82 (xa.getD t []) xb j xb.length := by
    unfold prod82
    rw [List.getD_eq_getElem?_getD, List.getElem?_map, d1.row ht]
    rfl
  rw [e1]; simp only [List.length_map, List.length_range]; exact d2.2 0 (by omega)
theorem dot82_eq {row : List Int} {xb : List (List Int)} {j : Nat} {B : Int} (hB0 : 0 ≤ B) (hB : B ≤ 4096000000000000) {f g : Nat → Int} : ∀ k, k ≤ 6 → (∀ t, t < k → row.getD t 0 = f t ∧ 0 ≤ f t ∧ f t ≤ 8) → (∀ t, t < k → cellI xb t j = g t ∧ Bd B (g t)) → dot82 row xb j k = sumZ (fun t => f t * g t) k ∧ Bd (k * (8 * B)) (sumZ (fun t => f t * g t) k)
  | 0, _, _, _ => ⟨rfl, by show Bd _ 0; unfold Bd; omega⟩
  | k + 1, hk, h1, h2 => by
    obtain ⟨i1, i2⟩ := dot82_eq hB0 hB k (by omega) (fun t ht => h1 t (by omega)) (fun t ht => h2 t (by omega))
    obtain ⟨a1, a2, a3⟩ := h1 k (by omega)
    obtain ⟨b1, b2⟩ := h2 k (by omega)
    have h3 := b2.mul ⟨a2, a3⟩
    have i3 := i2.le (show (k : Int) * (8 * B) ≤ 5 * (8 * B) from Int.mul_le_mul_of_nonneg_right (by omega) (by omega))
    have e : ((k + 1 : Nat) : Int) * (8 * B) = k * (8 * B) + 8 * B := by rw [show ((k + 1 : Nat) : Int) = k + 1 by omega, Int.add_mul, Int.one_mul]
    have e1 : dot82 row xb j (k + 1) = plI (dot82 row xb j k) (tmI (row.getD k 0) (cellI xb k j)) := rfl
    have w1 : tmI (f k) (g k) = f k * g k := by
      unfold Bd at h3
      exact wr_id' (by omega) (by omega)
    refine ⟨?_, ?_⟩
    · rw [e1, i1, a1, b1, w1]
      show plI _ _ = sumZ _ k + f k * g k
      unfold Bd at h3 i3
      exact wr_id' (by omega) (by omega)
    · show Bd _ (sumZ _ k + f k * g k)
      unfold Bd at i2 h3 ⊢
      rw [e]; omega
end
end Go.Proofs.Ytfohppnelbbepaa.T
/- one and trace -/
open Go.Vm
set_option linter.unusedVariables false
set_option linter.unusedSectionVars false
namespace Go.Proofs.Ytfohppnelbbepaa.T
open Go
variable [Ovr]
section
variable {ro : List ABlk} {h hp : Heap}
theorem NewM.by {α : Type} {enc : α → AVal} {H H' : Heap} {L : Nat} {w : AVal} {x : List (List α)} (a : NewM enc H L w x) (k : ∀ i, L ≤ i → i < H.length → H'[i]? = H[i]?) : NewM enc H' L w x := by
  obtain ⟨bs, cs, rfl, g1, g2, g3⟩ := a
  refine ⟨bs, cs, rfl, g1.keep (k L (Nat.le_refl _) g1.lt), fun r hr => ?_, g3⟩
  obtain ⟨f1, f2⟩ := g2 r hr
  exact ⟨f1, f2.keep (k _ (by omega) f2.lt)⟩
def oneM (n : Nat) : List (List Int) := (List.range n).map fun p => (List.range n).map fun q => if q = p then (1 : Int) else 0
theorem oneM_dim (n : Nat) : DimI n (oneM n) := ⟨by simp [oneM], fun t ht => by simp [oneM, List.getD, ht]⟩
theorem oneM_cell {n p q : Nat} (hp : p < n) (hq : q < n) : cellI (oneM n) p q = if q = p then 1 else 0 := by simp [cellI, oneM, List.getD, hp, hq]
theorem one81 {n : Nat} (hn : n ≤ 10) : ∃ u H, callX F1 ro 81 [.i .i64 (n : Int)] h = some (u, H, h.length, h.length) ∧ Keep h H ∧ NewM eI H h.length u (oneM n) := by
  obtain ⟨L, hL⟩ : ∃ L, L = h.length := ⟨_, rfl⟩
  have hmk := mk_ok (ro := ro) (hp := h) (e := 111) (es := 1) (bytes := 24) (z := [AVal.nsl]) (n := n) (l := L) (p := L) (by omega) (by omega)
  obtain ⟨H0, hH0⟩ : ∃ H0, H0 = h ++ [some (blkOf 111 (rep [AVal.nsl] n))] := ⟨_, rfl⟩
  rw [← hH0, ← hL] at hmk
  have k0 : Keep h H0 := by rw [hH0]; exact Keep.app _
  have l0 : H0.length = L + 1 := by rw [hH0, hL]; simp
  obtain ⟨cell, hcell⟩ : ∃ cell : Nat → Nat → AVal, cell = fun i r => if r < i then .sl ⟨false, L + 1 + r, 0⟩ n (.known n) else .nsl := ⟨_, rfl⟩
  have ho0 : Holds H0 L ((List.range n).map (cell 0)) := by
    have := Holds.new h 111 (rep [AVal.nsl] n)
    rw [← hH0, ← hL, rep_repl] at this
    have e : (List.range n).map (cell 0) = List.replicate n .nsl := by
      refine List.ext_getElem? fun i => ?_
      rcases Nat.lt_or_ge i n with hi | hi
      · simp [hcell, hi]
      · rw [List.getElem?_eq_none (by simpa using hi), List.getElem?_eq_none (by simpa using hi)]
    rw [e]; exact this
  obtain ⟨row, hrow⟩ : ∃ row : Nat → List AVal, row = fun r => (List.range n).map fun q => eI (if q = r then (1 : Int) else 0) := ⟨_, rfl⟩
  have key : ∃ r, loopX (fun s : Int × Mm => g81_b0 (meansX F1 ro) ro (n : Int) (.sl ⟨false, L, 0⟩ n (.known n)) (n : Int) s.1 s.2) (0, ⟨H0, L, L⟩) = some r ∧ ∃ K, r = ⟨K, L, L⟩ ∧ (Keep h K ∧ K.length = L + 1 + n ∧ Holds K L ((List.range n).map (cell n)) ∧ ∀ r, r < n → Holds K (L + 1 + r) (row r)) := by
    refine loop_gen n (fun i s => ∃ K, s = ((i : Int), ⟨K, L, L⟩) ∧ (Keep h K ∧ K.length = L + 1 + i ∧ Holds K L ((List.range n).map (cell i)) ∧ ∀ r, r < i → Holds K (L + 1 + r) (row r))) _ ?_ ?_ n 0 _ (by omega) ⟨H0, rfl, k0, by omega, ho0, fun r hr => by omega⟩
    · rintro i s hi ⟨K, rfl, kK, lK, hK, rK⟩
      have hm2 := mk_ok (ro := ro) (hp := K) (e := 106) (es := 1) (bytes := 8) (z := [(AVal.i IntKind.i64 0)]) (n := n) (l := L) (p := L) (by omega) (by omega)
      obtain ⟨K1, hK1⟩ : ∃ K1, K1 = K ++ [some (blkOf 106 (rep [(AVal.i IntKind.i64 0)] n))] := ⟨_, rfl⟩
      rw [← hK1] at hm2
      have l1 : K1.length = L + 1 + i + 1 := by rw [hK1]; simp [lK]
      have kk1 : Keep K K1 := by rw [hK1]; exact Keep.app _
      have hnew : Holds K1 (L + 1 + i) ((List.range n).map fun _ => (AVal.i IntKind.i64 0)) := by
        have := Holds.new K 106 (rep [(AVal.i IntKind.i64 0)] n)
        rw [← hK1, lK, rep_repl] at this
        have e : (List.range n).map (fun _ => (AVal.i IntKind.i64 0)) = List.replicate n (AVal.i IntKind.i64 0) := by simp [List.map_const']
        rw [e]; exact this
      obtain ⟨K2, s2, h2, n2, o2⟩ := (hK.by kk1).put (ro := ro) (k := i) (w := .sl ⟨false, K.length, 0⟩ n (.known n)) (by simp [hi]) rfl rfl
      have hnp : nonp [AVal.sl ⟨false, K.length, 0⟩ n (.known n)] = false := rfl
      have s2' := s2 L L
      rw [hnp, cond_false, Nat.min_self] at s2'
      have hcs : ((List.range n).map (cell i)).set i (.sl ⟨false, K.length, 0⟩ n (.known n)) = (List.range n).map (cell (i + 1)) := by
        refine setF (fun t ht hne => ?_) fun _ => ?_
        · simp only [hcell]
          by_cases e2 : t < i
          · rw [if_pos e2, if_pos (by omega)]
          · rw [if_neg e2, if_neg (by omega)]
        · simp only [hcell]
          rw [if_pos (by omega), lK]
      rw [hcs] at h2
      have hrow2 : Holds K2 (L + 1 + i) ((List.range n).map fun _ => (AVal.i IntKind.i64 0)) := hnew.keep (o2 _ (by omega))
      have hcell2 : ((List.range n).map (cell (i + 1)))[i]? = some (.sl ⟨false, L + 1 + i, 0⟩ n (.known n)) := by simp [hcell, hi]
      obtain ⟨m1, -⟩ := h2.ld (ro := ro) hcell2 L L
      obtain ⟨K3, s3, h3, n3, o3⟩ := hrow2.put (ro := ro) (k := i) (w := eI 1) (by simp [hi]) rfl rfl
      have s3' := s3 L L
      rw [show nonp [eI 1] = true from rfl, cond_true, show min L (L + 1 + i) = L by omega] at s3'
      have s3'' : stepM ro ⟨K2, L, L⟩ (.st 1 (.c (.p (some ⟨false, L + 1 + i, 0 + i⟩))) (.c (.i .i64 1))) = some (und, ⟨K3, L, L⟩) := s3'
      have hrs : ((List.range n).map fun _ => (AVal.i IntKind.i64 0)).set i (eI 1) = row i := by
        rw [hrow]
        refine setF (fun t ht hne => ?_) fun _ => ?_
        · rw [if_neg hne]
        · rw [if_pos rfl]
      rw [hrs] at h3
      refine ⟨_, (by simp only [g81_b0, fB, ltT (show (i : Int) < (n : Int) by omega), cT, hm2, pS, ixS_eq (show i < n from hi), s2', oS, m1, s3'', fI', nx (show i ≤ 1000000 by omega)] <;> rfl), K3, rfl, ⟨by have := kK.1; omega, fun t ht => by rw [o3 t (by omega), o2 t (by omega), kk1.2 t (by have := kK.1; omega), kK.2 t ht]⟩, by omega, h2.keep (o3 L (by omega)), fun r hr => ?_⟩
      by_cases e : r = i
      · subst e; exact h3
      · exact (rK r (by omega)).keep (by rw [o3 _ (by omega), o2 _ (by omega), kk1.2 _ (by omega)])
    · rintro s ⟨K, rfl, ho⟩
      exact ⟨_, (by simp only [g81_b0, fB, ltF (Int.lt_irrefl _), cF] <;> rfl), K, rfl, ho⟩
  obtain ⟨r, l1, K, rfl, kK, lK, hK, rK⟩ := key
  obtain ⟨H, f1, f2, f3⟩ := fin_any (w := .sl ⟨false, L, 0⟩ n (.known n)) kK
  have hbel : (AVal.sl ⟨false, L, 0⟩ n (.known n)).bel h.length = false := by
    have : Nat.blt L h.length = false := by rw [← Bool.not_eq_true, Nat.blt_eq]; omega
    simp [AVal.bel, this]
  obtain rfl := f3 hbel
  refine ⟨_, _, g81_ok (meansX_ok F1 ro) (Ovr.no rfl) (?_ : _ = some (.sl ⟨false, L, 0⟩ n (.known n), H, h.length, h.length)), kK, ?_⟩
  · unfold g81
    simp only [← hL, hmk, pS, len_sl, oS, iS, meansX_loop, l1, tA]
    rw [← hL] at f1
    exact f1
  · have hxl : (oneM n).length = n := (oneM_dim n).1
    have hxr : ∀ r, r < n → (oneM n).getD r [] = (List.range n).map fun q => if q = r then (1 : Int) else 0 := fun r hr => by simp [oneM, List.getD, hr]
    refine ⟨fun r => L + 1 + r, fun _ => .known n, by rw [hxl, hL], ?_, fun r hr => ?_, fun r r' hr hr' e => by have e2 : L + 1 + r = L + 1 + r' := e; omega⟩
    · have e : ((List.range (oneM n).length).map fun r => AVal.sl ⟨false, L + 1 + r, 0⟩ ((oneM n).getD r []).length (.known n)) = (List.range n).map (cell n) := by
        rw [hxl]
        refine List.map_congr_left fun r hr => ?_
        have hr' := List.mem_range.1 hr
        rw [hxr r hr', hcell]
        simp [hr']
      rw [e, ← hL]; exact hK
    · rw [hxl] at hr
      rw [hxr r hr, ← hL]
      refine ⟨by show L < L + 1 + r; omega, ?_⟩
      have := rK r hr
      rw [hrow] at this
      rw [List.map_map]
      exact this
theorem trace83 {w : AVal} {x : List (List Int)} {n : Nat} (hn : n ≤ 10) (M : IsM eI ro h w x) (d : DimI n x) {B : Int} (hB0 : 0 ≤ B) (hB : B ≤ 500000000000000000) (hb : ∀ p, p < n → Bd B (cellI x p p)) :
    callX F1 ro 83 [w] h = some (.i .i64 (sumZ (fun p => cellI x p p) n), h, h.length, h.length) := by
  refine g83_ok (meansX_ok F1 ro) (Ovr.no rfl) ?_
  unfold g83
  have hl := len_M M
  rw [d.1] at hl
  have hbd : ∀ i, i ≤ n → Bd (i * B) (sumZ (fun p => cellI x p p) i) := fun i hi => sumZ_bd hB0 i fun p hp => hb p (by omega)
  have key : ∃ r, loopX (fun s : Int × Int => g83_b0 (meansX F1 ro) ro w (n : Int) ⟨h, h.length, h.length⟩ s.1 s.2) (0, 0) = some r ∧ r = sumZ (fun p => cellI x p p) n := by
    refine loop_gen n (fun i s => s = (sumZ (fun p => cellI x p p) i, (i : Int))) _ ?_ ?_ n 0 _ (by omega) rfl
    · rintro i s hi rfl
      obtain ⟨p1, u, i1, i2, i3⟩ := at_M M (d.row hi)
      obtain ⟨p2, j1, j2⟩ := at_R i2 (d.cell hi hi)
      have i3' := fun l q => (i3 (hp := h) (l := l) (q := q) (Keep.refl h)).1
      have j2' := fun l q => (j2 (hp := h) (l := l) (q := q) (Keep.refl h)).1
      have h1 := (hbd i (by omega)).le (show (i : Int) * B ≤ 10 * B from Int.mul_le_mul_of_nonneg_right (by omega) hB0)
      have h2 := hb i hi
      have hw : wr .i64 (sumZ (fun p => cellI x p p) i + cellI x i i) = sumZ (fun p => cellI x p p) (i + 1) := by
        unfold Bd at h1 h2
        exact wr_id' (by omega) (by omega)
      exact ⟨_, (by simp only [g83_b0, fB, ltT (show (i : Int) < (n : Int) by omega), cT, i1, oS, i3', j1, j2', eI, iS, hw, fI', nx (show i ≤ 1000000 by omega)] <;> rfl), rfl⟩
    · rintro s rfl
      exact ⟨_, (by simp only [g83_b0, fB, ltF (Int.lt_irrefl _), cF] <;> rfl), rfl⟩
  obtain ⟨r, e1, rfl⟩ := key
  simp only [hl, oS, iS, meansX_loop, e1, tA]
  exact fin_pure rfl
end
end Go.Proofs.Ytfohppnelbbepaa.T
/- Recurrence of the program -/
open Go.Vm
set_option linter.unusedVariables false
set_option linter.unusedSectionVars false
namespace Go.Proofs.Ytfohppnelbbepaa.T
open Go
variable [Ovr]
section
variable {ro : List ABlk} {h hp : Heap}
noncomputable def recL (z : List (List UInt8)) (s : List UInt8) : List Int := if errS z s = 0 then (List.range z.length).map fun j => coZ (aM z) z.length (j + 1) else []
theorem fin_tupL {K : Heap} {b n : Nat} {c : Cap} {t : Int} (k : Keep h K) (hb : h.length ≤ b) : finM h.length (.tup [.sl ⟨false, b, 0⟩ n c, .i .i64 t]) ⟨K, h.length, h.length⟩ = some (.tup [.sl ⟨false, b, 0⟩ n c, .i .i64 t], K, h.length, h.length) := by
  obtain ⟨H, f1, f2, f3⟩ := fin_any (w := .tup [.sl ⟨false, b, 0⟩ n c, .i .i64 t]) k
  have : Nat.blt b h.length = false := by rw [← Bool.not_eq_true, Nat.blt_eq]; omega
  obtain rfl := f3 (by simp [AVal.bel, bels, this])
  exact f1
theorem Holds.rowI {b n : Nat} {c : Cap} {x : List Int} (a : Holds hp b (x.map eI)) (hn : n = x.length) : IsRow ro hp (.sl ⟨false, b, 0⟩ n c) x := by
  subst hn
  obtain ⟨blk, h1, h2, h3⟩ := a
  rw [List.length_map] at h2 h3
  exact .inr ⟨_, _, blk, rfl, rdB_heap h1 0, by show 0 + x.length ≤ blk.n; omega, fun j hj => by rw [Nat.zero_add, h3 j hj, map_getD hj]⟩
set_option maxHeartbeats 1000000 in
theorem rec40 {v : AVal} {z : List (List UInt8)} {s : List UInt8} (a : IsS ro h v z) (hf : z.length ≤ 1000000 ∧ (∀ i, i < z.length → (z.getD i []).length ≤ 1000000) ∧ s.length ≤ 1000000) :
    ∃ w H, callX F1 ro 40 [v, .s s] h = some (.tup [w, .i .i64 (errS z s)], H, h.length, h.length) ∧ Keep h H ∧ IsRow ro H w (recL z s) := by
  have c60 := cp0 (read60 (ro := ro) (s := s) a hf.1 hf.2.1 hf.2.2)
  by_cases hS : errS z s = 0
  rotate_left
  · refine ⟨.nsl, h, g40_ok (meansX_ok F1 ro) (Ovr.no rfl) ?_, Keep.refl _, .inl ⟨rfl, by unfold recL; rw [if_neg hS]⟩⟩
    unfold g40
    simp only [mC, c60, pS, x0, x1, oS, iS, fB, eqI_ne hS, nF, cT, tA2]
    exact fin_pure2 rfl rfl
  have vok := VOk.of (errS_V hS)
  have n1 := vok.h1
  have n6 := vok.h6
  have e0 : eqI (errS z s) 0 = true := by rw [hS]; rfl
  obtain ⟨L, hL⟩ : ∃ L, L = h.length := ⟨_, rfl⟩
  obtain ⟨n, hn⟩ : ∃ n, n = z.length := ⟨_, rfl⟩
  obtain ⟨w1, H1, c1, k1, m1⟩ := matrix79 (ro := ro) a vok.h1 vok.h6 vok.h8
  have q1 := k1.1
  have c1' := cM (l := L) (p := L) c1 (by omega) (by omega)
  have hmk := mk_ok (ro := ro) (hp := H1) (e := 3) (es := 1) (bytes := 8) (z := [(AVal.i IntKind.i64 0)]) (n := n) (l := L) (p := L) (by omega) (by omega)
  obtain ⟨bo, hbo⟩ : ∃ bo, bo = H1.length := ⟨_, rfl⟩
  obtain ⟨H2, hH2⟩ : ∃ H2, H2 = H1 ++ [some (blkOf 3 (rep [(AVal.i IntKind.i64 0)] n))] := ⟨_, rfl⟩
  rw [← hH2, ← hbo] at hmk
  have k2 : Keep H1 H2 := by rw [hH2]; exact Keep.app _
  have l2 : H2.length = bo + 1 := by rw [hH2, hbo]; simp
  obtain ⟨cell, hcell⟩ : ∃ cell : Nat → Nat → AVal, cell = fun i j => eI (if j < i then coZ (aM z) n (j + 1) else 0) := ⟨_, rfl⟩
  have ho2 : Holds H2 bo ((List.range n).map (cell 0)) := by
    have := Holds.new H1 3 (rep [(AVal.i IntKind.i64 0)] n)
    rw [← hH2, ← hbo, rep_repl] at this
    have e : (List.range n).map (cell 0) = List.replicate n (AVal.i IntKind.i64 0) := by simp [hcell, List.map_const']
    rw [e]; exact this
  obtain ⟨w3, H3, c3, k3, m3⟩ := one81 (ro := ro) (h := H2) (n := n) (by omega)
  have q3 := k3.1
  have q2 := k2.1
  have c3' := cM (l := L) (p := L) c3 (by omega) (by omega)
  have key : ∃ r, loopX (fun s : AVal × Int × Mm => g40_b0 (meansX F1 ro) ro w1 (.sl ⟨false, bo, 0⟩ n (.known n)) (n : Int) s.1 s.2.1 s.2.2) (w3, 0, ⟨H3, L, L⟩) = some r ∧ ∃ K, r = ⟨K, L, L⟩ ∧ Keep H1 K ∧ Holds K bo ((List.range n).map (cell n)) := by
    refine loop_gen n (fun i s => ∃ u K x L2, s = (u, (i : Int), ⟨K, L, L⟩) ∧ Keep H1 K ∧ Holds K bo ((List.range n).map (cell i)) ∧ NewM eI K L2 u x ∧ bo < L2 ∧ DimI n x ∧ ∀ p q, p < n → q < n → cellI x p q = flM (aM z) n i p q) _ ?_ ?_ n 0 _ (by omega) ⟨w3, H3, oneM n, H2.length, rfl, k2.trans k3, ho2.by k3, m3, by omega, oneM_dim n, fun p q hp hq => ?_⟩
    · rintro i s hi ⟨u, K, x, L2, rfl, kK, hK, mK, hb2, dx, cx⟩
      have hqK := kK.1
      have hlK := hK.lt
      have M1 := M_by (ro := ro) m1.isM kK
      obtain ⟨d1l, d1r⟩ := mat79_dim z
      have d1 : DimI n (mat79 z) := by rw [hn]; exact mat79_dim z
      obtain ⟨B, hB⟩ : ∃ B : Int, B = 400 ^ i := ⟨_, rfl⟩
      have hB0 : 0 ≤ B := by rw [hB]; exact p400 i
      have hB1 : B ≤ 4096000000000000 := by rw [hB]; exact p400_le (by omega)
      obtain ⟨fb1, fb2⟩ := flM_bd vok i (by omega)
      rw [← hB, ← hn] at fb1 fb2
      have hco := fb2 (by omega) (by omega)
      obtain ⟨w4, K1, c4, k4, m4⟩ := prod82_ok (ro := ro) M1 mK.isM (by rw [d1.1]; omega) (by rw [dx.1]; omega) (by rw [dx.1]; omega) (fun r hr => by rw [dx.1]; exact d1.mem r hr) (m := n) (by omega) dx.mem (fun _ _ _ _ => trivial) (fun _ _ _ _ => trivial)
      have c4' := cM (l := L) (p := L) c4 (by omega) (by omega)
      have q4 := k4.1
      have dP := prod82_dim (show 1 ≤ n by omega) d1 dx
      -- the cells of the product
      have cP : ∀ p q, p < n → q < n → cellI (prod82 (mat79 z) x) p q = sumZ (fun t => aM z p t * flM (aM z) n i t q) n ∧ Bd (48 * B) (sumZ (fun t => aM z p t * flM (aM z) n i t q) n) := fun p q hp hq => by
        rw [prod82_cell (by rw [d1.1]; exact hp) (by rw [dx.2 0 (by omega)]; exact hq), dx.1]
        obtain ⟨g1, g2⟩ := dot82_eq (row := (mat79 z).getD p []) (xb := x) (j := q) hB0 hB1 (f := fun t => aM z p t) (g := fun t => flM (aM z) n i t q) n (by omega)
          (fun t ht => ⟨mat79_cell (by omega) (by omega), aM_bd vok (by omega)⟩) (fun t ht => ⟨cx t q ht hq, fb1 t q ht hq⟩)
        exact ⟨g1, g2.le (by have : (n : Int) * (8 * B) ≤ 6 * (8 * B) := Int.mul_le_mul_of_nonneg_right (by omega) (by omega); omega)⟩
      have ct := trace83 (ro := ro) (n := n) (by omega) m4.isM dP (B := 48 * B) (by omega) (by omega) (fun p hp => by rw [(cP p p hp hp).1]; exact (cP p p hp hp).2)
      have ht : sumZ (fun p => cellI (prod82 (mat79 z) x) p p) n = ((i + 1 : Nat) : Int) * coZ (aM z) n (i + 1) := by
        rw [sumZ_congr n fun p hp => (cP p p hp hp).1, hn]
        exact (FL (aM z) n1 n6).1 i (by omega)
      rw [ht] at ct
      have ct' := cp (l := L) (p := L) ct (by omega) (by omega)
      obtain ⟨c, hc⟩ : ∃ c, c = coZ (aM z) n (i + 1) := ⟨_, rfl⟩
      rw [← hc] at ct' hco
      have hdiv : Int.tdiv (((i + 1 : Nat) : Int) * c) ((i + 1 : Nat) : Int) = c := Int.mul_tdiv_cancel_left _ (by omega)
      have hwc : wr .i64 c = c := by unfold Bd at hco; exact wr_id' (by omega) (by omega)
      have hne : (!eqI (((i + 1 : Nat) : Int)) (.ofNat 0)) = true := by rw [eqI_ne (by show ((i + 1 : Nat) : Int) ≠ 0; omega)]; rfl
      have hl4 := len_M (ro := ro) m4.isM
      rw [dP.1] at hl4
      have hlk1 : L ≤ K.length := by omega
      have inner : ∃ r, loopX (fun s : Int × Mm => g40_b1 (meansX F1 ro) ro w1 (.sl ⟨false, bo, 0⟩ n (.known n)) w4 (i : Int) c (n : Int) (n : Int) s.1 s.2) (0, ⟨K1, L, L⟩) = some r ∧ ∃ J y, r = ⟨J, L, L⟩ ∧ J.length = K1.length ∧ (∀ t, t ≤ K.length → J[t]? = K1[t]?) ∧ NewM eI J K.length w4 y ∧ DimI n y ∧ ∀ p q, p < n → q < n → cellI y p q = cellI (prod82 (mat79 z) x) p q - if p = q ∧ p < n then c else 0 := by
        refine loop_gen n (fun t s => ∃ J y, s = ((t : Int), ⟨J, L, L⟩) ∧ J.length = K1.length ∧ (∀ t, t ≤ K.length → J[t]? = K1[t]?) ∧ NewM eI J K.length w4 y ∧ DimI n y ∧ ∀ p q, p < n → q < n → cellI y p q = cellI (prod82 (mat79 z) x) p q - if p = q ∧ p < t then c else 0) _ ?_ ?_ n 0 _ (by omega) ⟨K1, _, rfl, rfl, fun _ _ => rfl, m4, dP, fun p q _ _ => by rw [if_neg (by omega)]; omega⟩
        · rintro t s ht' ⟨J, y, rfl, lJ, oJ, mJ, dy, cy⟩
          have hcy := cy t t ht' ht'
          rw [if_neg (by omega), (cP t t ht' ht').1] at hcy
          have hb3 := (cP t t ht' ht').2
          obtain ⟨P, hP⟩ : ∃ P, P = sumZ (fun s => aM z t s * flM (aM z) n i s t) n := ⟨_, rfl⟩
          rw [← hP] at hcy hb3
          have hw : wr .i64 (cellI y t t - c) = cellI y t t - c := by
            unfold Bd at hb3 hco
            exact wr_id' (by omega) (by omega)
          obtain ⟨p1, u1, p2, J', i1, i2, i3, i4, i5, i6, i7, i8⟩ := mJ.put (ro := ro) (r := t) (c := t) (y := cellI y t t - c) (by rw [dy.1]; exact ht') (dy.cell ht' ht') rfl rfl rfl
          refine ⟨_, (by simp only [g40_b1, fB, ltT (show (t : Int) < (n : Int) by omega), cT, i1, oS, i2, i3, i4, eI, iS, hw, fI', i5 L L hlk1, pS, nx (show t ≤ 1000000 by omega)] <;> rfl), J', _, rfl, by omega, fun j hj => by rw [i8 j hj, oJ j hj], i6, dy.set ht' _, fun p q hp hq => ?_⟩
          rw [dy.cell_set ht' ht']
          by_cases e : p = t ∧ q = t
          · obtain ⟨rfl, rfl⟩ := e
            have := cy _ _ ht' ht'
            rw [if_neg (by omega)] at this
            rw [if_pos ⟨rfl, rfl⟩, if_pos ⟨rfl, by omega⟩, this]; omega
          · rw [if_neg e, cy p q hp hq]
            by_cases e2 : p = q ∧ p < t
            · rw [if_pos e2, if_pos ⟨e2.1, by omega⟩]
            · rw [if_neg e2, if_neg (by omega)]
        · rintro s ⟨J, y, rfl, lJ, oJ, mJ, dy, cy⟩
          exact ⟨_, (by simp only [g40_b1, fB, ltF (Int.lt_irrefl _), cF] <;> rfl), J, y, rfl, lJ, oJ, mJ, dy, cy⟩
      obtain ⟨r, l1, J, y, rfl, lJ, oJ, mJ, dy, cy⟩ := inner
      have hJo : Holds J bo ((List.range n).map (cell i)) := (hK.by k4).keep (oJ bo (by omega))
      obtain ⟨J2, s1, g1, n3, o1⟩ := hJo.put (ro := ro) (k := i) (w := eI c) (by simp [hi]) rfl rfl
      have s1' := s1 L L
      rw [show nonp [eI c] = true from rfl, cond_true, Nat.min_eq_left (show L ≤ bo by omega)] at s1'
      have s1'' : stepM ro ⟨J, L, L⟩ (.st 1 (.c (.p (some ⟨false, bo, 0 + i⟩))) (.c (.i .i64 c))) = some (und, ⟨J2, L, L⟩) := s1'
      rw [setF (g := cell (i + 1))] at g1
      rotate_left
      · intro t ht hne
        simp only [hcell]
        by_cases e2 : t < i
        · rw [if_pos e2, if_pos (by omega)]
        · rw [if_neg e2, if_neg (by omega)]
      · intro _
        simp only [hcell]
        rw [if_pos (by omega), ← hc]
      have nx' := nx (show i ≤ 1000000 by omega)
      refine ⟨_, (by simp only [g40_b0, fB, ltT (show (i : Int) < (n : Int) by omega), cT, mC, c4', pS, ct', iS, nx', fI', hne, ckT, hdiv, hwc, hl4, oS, meansX_loop, l1, ixS_eq (show i < n from hi), s1''] <;> rfl), w4, J2, y, K.length, rfl, ⟨by omega, fun t ht => ?_⟩, g1, mJ.by fun t h1 h2 => o1 t (by omega), by omega, dy, fun p q hp hq => ?_⟩
      · rw [o1 t (by omega), oJ t (by omega), k4.2 t (by omega), kK.2 t ht]
      · rw [cy p q hp hq, (cP p q hp hq).1]
        show _ = sumZ _ n - if p = q then coZ (aM z) n (i + 1) else 0
        rw [← hc]
        by_cases e : p = q
        · rw [if_pos e, if_pos ⟨e, hp⟩]
        · rw [if_neg e, if_neg (fun h => e h.1)]
    · rintro s ⟨u, K, x, L2, rfl, kK, hK, mK, hb2, dx, cx⟩
      exact ⟨_, (by simp only [g40_b0, fB, ltF (Int.lt_irrefl _), cF] <;> rfl), K, rfl, kK, hK⟩
    · rw [oneM_cell hp hq]
      show _ = if p = q then (1 : Int) else 0
      by_cases e : p = q
      · rw [if_pos e, if_pos e.symm]
      · rw [if_neg e, if_neg (fun h => e h.symm)]
  obtain ⟨r, l1, K, rfl, kK, hK⟩ := key
  have khK := k1.trans kK
  have hlS : evP .e (.len false (.c v)) = some (.i .i64 (n : Int)) := by rw [hn]; exact len_S a
  refine ⟨.sl ⟨false, bo, 0⟩ n (.known n), K, g40_ok (meansX_ok F1 ro) (Ovr.no rfl) ?_, khK, ?_⟩
  · unfold g40
    simp only [mC, c60, pS, x0, x1, oS, iS, fB, e0, nT, cF, if_pos hS]
    simp only [← hL, c1', pS, hlS, hmk, c3', len_sl, oS, iS, meansX_loop, l1, tA2]
    rw [hS, hL]
    exact fin_tupL khK (by omega)
  · have e : recL z s = (List.range n).map fun j => coZ (aM z) n (j + 1) := by unfold recL; rw [if_pos hS, hn]
    rw [e]
    refine Holds.rowI ?_ (by simp)
    rw [List.map_map]
    have e2 : (List.range n).map (eI ∘ fun j => coZ (aM z) n (j + 1)) = (List.range n).map (cell n) := by
      refine List.map_congr_left fun j hj => ?_
      simp only [hcell, Function.comp]
      rw [if_pos (List.mem_range.1 hj)]
    rw [e2]; exact hK
end
end Go.Proofs.Ytfohppnelbbepaa.T
/- The determinant -/
open Go.Vm
set_option linter.unusedVariables false
set_option linter.unusedSectionVars false
namespace Go.Proofs.Ytfohppnelbbepaa.T
open Go
variable [Ovr]
section
theorem wr_emod (x : Int) : wr .i64 x = (x + 9223372036854775808) % 18446744073709551616 - 9223372036854775808 := by
  rw [wr_i64]
  have e1 : ((2 : Int) ^ IntKind.i64.bits) = 18446744073709551616 := by decide
  have e2 : ((2 : Int) ^ (IntKind.i64.bits - 1)) = 9223372036854775808 := by decide
  have e3 : IntKind.i64.signed = true := rfl
  unfold IntKind.wrap
  simp only [e1, e2, e3, Bool.true_and, decide_eq_true_eq]
  split <;> omega
theorem wr_addL (a b : Int) : wr .i64 (wr .i64 a + b) = wr .i64 (a + b) := by simp only [wr_emod]; omega
theorem wr_addR (a b : Int) : wr .i64 (a + wr .i64 b) = wr .i64 (a + b) := by simp only [wr_emod]; omega
theorem wr_neg (a : Int) : wr .i64 (0 - wr .i64 a) = wr .i64 (-a) := by simp only [wr_emod]; omega
theorem wr_off (a : Int) : ∃ k : Int, a = wr .i64 a + 18446744073709551616 * k := ⟨(a + 9223372036854775808) / 18446744073709551616, by rw [wr_emod]; omega⟩
theorem wr_per (a k : Int) : wr .i64 (a + 18446744073709551616 * k) = wr .i64 a := by simp only [wr_emod]; omega
theorem wr_mulL (a b : Int) : wr .i64 (wr .i64 a * b) = wr .i64 (a * b) := by
  obtain ⟨k, hk⟩ := wr_off a
  have e : a * b = wr .i64 a * b + 18446744073709551616 * (k * b) := by
    have : a * b = (wr .i64 a + 18446744073709551616 * k) * b := by rw [← hk]
    rw [this, Int.add_mul, Int.mul_assoc]
  rw [e, wr_per]
theorem wr_mulR (a b : Int) : wr .i64 (a * wr .i64 b) = wr .i64 (a * b) := by rw [Int.mul_comm, wr_mulL, Int.mul_comm]
end
section
variable {ro : List ABlk} {h hp : Heap}
def LS (ro : List ABlk) (h : Heap) (v : AVal) (z : List Int) : Prop := (z = [] ∧ (v = .nsl ∨ v = .esl)) ∨ RowS ro h v z
theorem LS.by {v : AVal} {z : List Int} (a : LS ro h v z) (k : Keep h hp) : LS ro hp v z := by
  rcases a with a | a
  · exact .inl a
  · exact .inr (a.by k)
theorem LS.len {v : AVal} {z : List Int} (a : LS ro h v z) : evP .e (.len false (.c v)) = some (.i .i64 (z.length : Int)) := by
  rcases a with ⟨rfl, rfl | rfl⟩ | a
  · rfl
  · rfl
  · exact len_row a.row
theorem LS.src {v : AVal} {z : List Int} (a : LS ro h v z) : app_src ro h 1 v = some (z.map (AVal.i .i64), z.length) := by
  rcases a with ⟨rfl, rfl | rfl⟩ | ⟨q, cap, blk, rfl, h0, h2, h3, h4⟩
  · rfl
  · rfl
  · have hble : Nat.ble (q.off + z.length * 1) blk.n = true := by rw [Nat.ble_eq]; omega
    have hrow : blk.c.row q.off (z.length * 1) = z.map (AVal.i .i64) := row_row (z.length * 1) q.off _ (by simp) fun j hj => by rw [h4 j (by omega), map_getD (by omega)]
    simp only [app_src, h2, hble, cond_true, hrow]
theorem rowS_dropL {v : AVal} {z : List Int} {k : Nat} (a : RowS ro h v z) (h1 : 0 < k) (hk : k ≤ z.length) : ∃ u, evP .e (.slS 1 (.c v) (some (.c (.i .i64 (k : Int)))) none none) = some u ∧ LS ro h u (z.drop k) := by
  by_cases h2 : k < z.length
  · obtain ⟨u, g1, g2⟩ := rowS_drop a h1 h2
    exact ⟨u, g1, .inr g2⟩
  · have hk2 : k = z.length := by omega
    obtain ⟨q, cap, blk, rfl, h0, h2, h3, h4⟩ := a
    obtain ⟨m, rfl⟩ : ∃ m, k = m + 1 := ⟨k - 1, by omega⟩
    have eh : ((m + 1 : Nat) : Int) = Int.ofNat (m + 1) := rfl
    have b1 : Nat.ble (m + 1) z.length = true := by rw [Nat.ble_eq]; omega
    have b2 : Nat.blt (m + 1) z.length = false := by rw [← Bool.not_eq_true, Nat.blt_eq]; omega
    refine ⟨.esl, ?_, .inl ⟨by rw [hk2]; simp, .inr rfl⟩⟩
    cases cap with
    | known c => exact absurd rfl (h0 c)
    | _ => simp only [evP, ev_slS, opd, sl_lh, eh, Option.map_some, Option.map_none, sbound, capB, b1, b2, cond_true, cond_false]
theorem RowG.pushR {L l p : Nat} {v y : AVal} {c t : List Int} (g : RowG hp L 3 v (c.map (AVal.i .i64))) (a : LS ro hp y t) (hL : L ≤ hp.length) (hk : c.length + t.length ≤ 1000000) :
    ∃ v' hp' l' p', stepM ro ⟨hp, l, p⟩ (.app 3 1 8 [(AVal.i IntKind.i64 0)] (.c v) (.c y)) = some (v', ⟨hp', l', p'⟩) ∧ RowG hp' L 3 v' ((c ++ t).map (AVal.i .i64)) ∧ hp.length ≤ hp'.length ∧ (∀ i, i < hp.length → rb v ≠ some i → hp'[i]? = hp[i]?) ∧ (∀ a, a ≤ L → a ≤ l → a ≤ p → a ≤ l' ∧ a ≤ p') ∧ l' ≤ l ∧ p' ≤ p := by
  have src := a.src
  have ho : ∀ l : List Int, ones (l.map (AVal.i .i64)) = true := fun l => by
    induction l with
    | nil => rfl
    | cons b l ih => simp only [List.map_cons, ones, ih]; rfl
  cases t with
  | nil =>
    refine ⟨v, hp, l, p, ?_, by simpa using g, Nat.le_refl _, fun _ _ _ => rfl, fun a _ h2 h3 => ⟨h2, h3⟩, Nat.le_refl _, Nat.le_refl _⟩
    have e0 : Nat.beq ([] : List Int).length 0 = true := rfl
    rcases g with ⟨rfl, e⟩ | ⟨b, blk, rfl, -⟩
    · simp only [stepM, stepK, opd, st_app, src, e0, cond_true, St.mm]
    · simp only [stepM, stepK, opd, st_app, src, e0, cond_true, St.mm]
  | cons x t =>
    obtain ⟨s, hs⟩ : ∃ s, s = x :: t := ⟨_, rfl⟩
    have hsl : 0 < s.length := by rw [hs]; simp
    rw [← hs] at src hk ⊢
    have e0 : Nat.beq s.length 0 = false := by
      cases hb : Nat.beq s.length 0
      · rfl
      · have := Nat.eq_of_beq_eq_true hb; omega
    rcases g with ⟨rfl, e⟩ | ⟨b, blk, rfl, hpos, hLb, hbk, hbe, hbn, hrows⟩
    · have ec : c = [] := by simpa using e
      subst ec
      refine ⟨.sl ⟨false, hp.length, 0⟩ s.length .grow, hp ++ [some (blkOf 3 (s.map (AVal.i .i64)))], l, p, ?_, .inr ⟨hp.length, blkOf 3 (s.map (AVal.i .i64)), by simp, by simpa using hsl, hL, lget_last _ _, rfl, by simp [blkOf], fun j hj => by simpa using get_blk 3 (s.map (AVal.i .i64)) j⟩, by simp, fun i hi _ => List.getElem?_append_left hi, fun a _ h2 h3 => ⟨h2, h3⟩, Nat.le_refl _, Nat.le_refl _⟩
      have ef : fits s.length 8 = true := fits_small (by simp at hk; omega) (by omega)
      simp only [stepM, stepK, opd, st_app, src, e0, cond_false, ef, cond_true, newB, St.mm]
    · rw [List.length_map] at hpos hbn hrows ⊢
      have hlt : b < hp.length := lget_lt hbk
      have hrow : blk.c.row 0 (c.length * 1) = c.map (AVal.i .i64) := row_row (c.length * 1) 0 _ (by simp) fun j hj => by rw [Nat.zero_add]; exact hrows j (by omega)
      refine ⟨.sl ⟨false, hp.length, 0⟩ (c.length + s.length) .grow, lset none hp b ++ [some (blkOf 3 ((c ++ s).map (AVal.i .i64)))], min l b, min p b, ?_, .inr ⟨hp.length, blkOf 3 ((c ++ s).map (AVal.i .i64)), by simp, by simp; omega, hL, ?_, rfl, by simp [blkOf], fun j hj => get_blk 3 _ j⟩, by simp [lset_eq], fun i hi hn => ?_, fun a h1 h2 h3 => ⟨by omega, by omega⟩, Nat.min_le_left _ _, Nat.min_le_left _ _⟩
      · have h1 : (Nat.beq blk.e 3 && Nat.ble (c.length * 1) blk.n && fits (c.length + s.length) 8 && ones (s.map (AVal.i .i64))) = true := by
          rw [hbe, fits_small (by omega) (by omega), ho]
          simp [Nat.ble_eq]; omega
        have h2 : (!Nat.beq 0 0) = false := rfl
        have h3 : Nat.blt 0 blk.n = true := by rw [Nat.blt_eq]; omega
        simp only [stepM, stepK, opd, st_app, src, app_grow, e0, h2, cond_false, Bool.or_false, hbk, h1, h3, Bool.and_self, cond_true, St.mm, hrow, lset_eq, List.length_set, List.map_append]
      · rw [lget_eq, lset_eq, List.getElem?_append_right (by simp)]
        simp
      · have hne : b ≠ i := fun e => hn (by rw [e]; rfl)
        rw [lset_eq, List.getElem?_append_left (by simpa using hi), List.getElem?_set_ne hne]
abbrev zN (l : List Nat) : List Int := l.map fun n : Nat => ((n : Nat) : Int)
theorem zN_get {l : List Nat} {i : Nat} (hi : i < l.length) : (zN l).getD i 0 = ((l.getD i 0 : Nat) : Int) := by simp [zN, List.getD, hi]
theorem sg_pow (i : Nat) : wr .i64 (0 - (-1) ^ i) = (-1) ^ (i + 1) := by
  have : ((-1 : Int) ^ i = 1) ∨ ((-1 : Int) ^ i = -1) := by
    rw [← sign_pow i]
    cases Nat.beq (i % 2) 0
    · exact .inr rfl
    · exact .inl rfl
  rw [Int.pow_succ]
  rcases this with h | h <;> rw [h] <;> decide
set_option maxHeartbeats 1000000 in
theorem det84 {x : List (List Int)} {n : Nat} (hn : n ≤ 6) (d : DimI n x) : ∀ (rows cols : List Nat) {h : Heap} {v0 v1 v2 : AVal}, IsM eI ro h v0 x → rows.length = cols.length → cols.length ≤ 6 → (∀ r ∈ rows, r < n) → (∀ c ∈ cols, c < n) → LS ro h v1 (zN rows) → LS ro h v2 (zN cols) →
    callX F1 ro 84 [v0, v1, v2] h = some (.i .i64 (wr .i64 (detZ (cellI x) rows cols)), h, h.length, h.length)
  | [], cols, h, v0, v1, v2, M, hl, h6, hr, hc, a1, a2 => by
    refine g84_ok (meansX_ok F1 ro) (Ovr.no rfl) ?_
    unfold g84
    have e0 : eqI (((zN []).length : Nat) : Int) 0 = true := rfl
    simp only [a1.len, oS, iS, fB, e0, cT, tA]
    exact fin_pure rfl
  | r :: rs, cols, h, v0, v1, v2, M, hl, h6, hr, hc, a1, a2 => by
    have hl1 : (zN (r :: rs)).length = rs.length + 1 := by simp [zN]
    have hlc : (zN cols).length = cols.length := by simp [zN]
    rw [List.length_cons] at hl
    have b1 : RowS ro h v1 (zN (r :: rs)) := by
      rcases a1 with ⟨e, -⟩ | a1
      · simp [zN] at e
      · exact a1
    have b2 : RowS ro h v2 (zN cols) := by
      rcases a2 with ⟨e, -⟩ | a2
      · rw [e] at hlc; simp at hlc; omega
      · exact a2
    have hrn : r < n := hr r (List.mem_cons_self ..)
    have e0 : eqI (((zN (r :: rs)).length : Nat) : Int) 0 = false := eqI_ne (by rw [hl1]; omega)
    obtain ⟨v48, s48, a48⟩ := rowS_dropL (k := 1) b1 (by omega) (by rw [hl1]; omega)
    have e48 : (zN (r :: rs)).drop 1 = zN rs := by simp [zN]
    rw [e48] at a48
    have s48' : evP .e (.slS 1 (.c v1) (some (.c (.i .i64 1))) none none) = some v48 := s48
    obtain ⟨S, hS⟩ : ∃ S : Nat → Int, S = sumZ (fun i => (-1) ^ i * cellI x r (cols.getD i 0) * detZ (cellI x) rs (cols.eraseIdx i)) := ⟨_, rfl⟩
    have key : ∃ q, loopX (fun s : Int × Int × Int × Mm => g84_b0 (meansX F1 ro) ro v0 v1 v2 s.1 s.2.1 s.2.2.1 s.2.2.2) (0, 1, 0, ⟨h, h.length, h.length⟩) = some q ∧ ∃ K, q = (wr .i64 (S cols.length), ⟨K, h.length, h.length⟩) ∧ Keep h K := by
      refine loop_gen cols.length (fun i s => ∃ K, s = (wr .i64 (S i), (-1) ^ i, (i : Int), ⟨K, h.length, h.length⟩) ∧ Keep h K) _ ?_ ?_ cols.length 0 _ (by omega) ⟨h, by rw [hS]; rfl, Keep.refl _⟩
      · rintro i s hi ⟨K, rfl, kK⟩
        have hqK := kK.1
        have c2 := b2.by kK
        obtain ⟨u1, s1, t1⟩ := rowS_take c2 (show i ≤ (zN cols).length by omega)
        obtain ⟨v3, K1, l1, p1, s2, g2, n2, o2, f2, f3, f4⟩ := (RowG.nil K K.length 3).pushR (ro := ro) (l := h.length) (p := h.length) (c := []) (.inr t1) (Nat.le_refl _) (by simp; omega)
        have hl1' : l1 = h.length ∧ p1 = h.length := by have := f2 h.length (by omega) (Nat.le_refl _) (Nat.le_refl _); omega
        rw [hl1'.1, hl1'.2] at s2
        have kK1 : Keep K K1 := ⟨n2, fun t ht => o2 t ht (fun e => by cases e)⟩
        obtain ⟨u2, s3, t3⟩ := rowS_dropL (k := i + 1) (c2.by kK1) (by omega) (by omega)
        obtain ⟨v5, K2, l2, p2, s4, g4, n4, o4, f5, f6, f7⟩ := g2.pushR (ro := ro) (l := h.length) (p := h.length) t3 n2 (by simp; omega)
        have hl2' : l2 = h.length ∧ p2 = h.length := by have := f5 h.length (by omega) (Nat.le_refl _) (Nat.le_refl _); omega
        rw [hl2'.1, hl2'.2] at s4
        have kK2 : Keep K K2 := ⟨by omega, fun t ht => by rw [o4 t (by omega) (fun e => by have := (g2.holds e).2.1; omega), o2 t ht (fun e => by cases e)]⟩
        have kh2 := kK.trans kK2
        have erest : ([] ++ List.take i (zN cols)) ++ List.drop (i + 1) (zN cols) = zN (cols.eraseIdx i) := by
          rw [List.eraseIdx_eq_take_drop_succ]; simp [zN]
        rw [erest] at g4
        -- the entry
        have hci : cols.getD i 0 < n := by
          rw [List.getD_eq_getElem?_getD, List.getElem?_eq_getElem hi]
          exact hc _ (List.getElem_mem hi)
        obtain ⟨q1, j1, j2, j3⟩ := at_row (ro := ro) (h := K2) (m := ⟨K2, 0, 0⟩) rfl (row_by b1.row kh2) (show 0 < (zN (r :: rs)).length by omega)
        have er : (zN (r :: rs)).getD 0 0 = ((r : Nat) : Int) := rfl
        rw [er] at j3
        have j1' : evP .e (.ixS 1 (.c v1) (.c (.i .i64 0))) = some q1 := j1
        obtain ⟨q2, w2, k1, k2, k3⟩ := at_M (M_by M kh2) (d.row hrn)
        have k3' := (k3 (hp := K2) (l := 0) (q := 0) (Keep.refl _)).2
        obtain ⟨q3, m1, m2, m3⟩ := at_row (ro := ro) (h := K2) (m := ⟨K2, 0, 0⟩) rfl (row_by b2.row kh2) (show i < (zN cols).length by omega)
        rw [zN_get hi] at m3
        obtain ⟨q4, r1, r2⟩ := at_R k2 (d.cell hrn hci)
        have r2' := (r2 (hp := K2) (l := 0) (q := 0) (Keep.refl _)).2
        -- the call
        have hrl : rs.length = (cols.eraseIdx i).length := by rw [List.length_eraseIdx_of_lt hi]; omega
        have hrest : LS ro K2 v5 (zN (cols.eraseIdx i)) := by
          by_cases hz : zN (cols.eraseIdx i) = []
          · rcases g4 with ⟨rfl, -⟩ | ⟨b, blk, -, hpos, -⟩
            · exact .inl ⟨hz, .inl rfl⟩
            · rw [hz] at hpos; simp at hpos
          · exact .inr (g4.rowS hz)
        have cd := det84 hn d rs (cols.eraseIdx i) (M_by M kh2) hrl (by omega) (fun r' h' => hr r' (List.mem_cons_of_mem _ h')) (fun c' h' => hc c' (List.mem_of_mem_eraseIdx h')) (a48.by kh2) hrest
        have cd' := cp0 cd
        have hck := chkL (a := K2.length) (b := K2.length) (Nat.le_refl _)
        have hjn : Mm.join ⟨K2, h.length, h.length⟩ ⟨K2, K2.length, K2.length⟩ = ⟨K2, h.length, h.length⟩ := joinL kh2.1 kh2.1
        have hsum : wr .i64 (wr .i64 (S i) + wr .i64 (wr .i64 ((-1) ^ i * cellI x r (cols.getD i 0)) * wr .i64 (detZ (cellI x) rs (cols.eraseIdx i)))) = wr .i64 (S (i + 1)) := by
          rw [wr_mulL, wr_mulR, wr_addL, wr_addR, hS]; rfl
        exact ⟨_, (by simp only [g84_b0, LS.len (a2.by kK), hlc, oS, iS, fB, ltT (show (i : Int) < (cols.length : Int) by omega), cT, s1, s2, pS, fI', nx (show i ≤ 1000000 by omega), s3, s4, baseL, j1', j3, k1, k3', m1, m3, r1, r2', eI, s48', mC, cd', hck, ckT, hsum, hjn, sg_pow] <;> rfl), K2, rfl, kh2⟩
      · rintro s ⟨K, rfl, kK⟩
        exact ⟨_, (by simp only [g84_b0, LS.len (a2.by kK), hlc, oS, iS, fB, ltF (Int.lt_irrefl _), cF] <;> rfl), K, rfl, kK⟩
    obtain ⟨q, e1, K, rfl, kK⟩ := key
    refine g84_ok (meansX_ok F1 ro) (Ovr.no rfl) ?_
    unfold g84
    simp only [a1.len, oS, iS, fB, e0, cF, meansX_loop, e1, tA]
    have e2 : detZ (cellI x) (r :: rs) cols = S cols.length := by rw [hS]; rfl
    rw [e2]
    exact fin_keep kK rfl
end
end Go.Proofs.Ytfohppnelbbepaa.T
/- Recurrence of the reference -/
open Go.Vm
set_option linter.unusedVariables false
set_option linter.unusedSectionVars false
namespace Go.Proofs.Ytfohppnelbbepaa.T
open Go
variable [Ovr]
section
variable {ro : List ABlk} {h hp : Heap}
def cP (p : Nat) (s : List UInt8) : Nat := s.countP fun b => decide (ix b = p)
theorem cP_snoc (p : Nat) {s : List UInt8} {j : Nat} (hj : j < s.length) : cP p (s.take (j + 1)) = cP p (s.take j) + if ix (s.getD j 0) = p then 1 else 0 := by
  unfold cP
  rw [take_snoc 0 hj, List.countP_append]
  congr 1
  by_cases e : ix (s.getD j 0) = p
  · rw [if_pos e, List.countP_cons, dT e]; rfl
  · rw [if_neg e, List.countP_cons, dF e]; rfl
theorem cP_count {n p : Nat} (hp : p < n) (hn : n ≤ 6) {s : List UInt8} (hs : has n s) : cP p s = s.count (UInt8.ofNat (97 + p)) := by
  unfold cP
  rw [List.count_eq_countP]
  refine List.countP_congr fun b hb => ?_
  obtain ⟨i, hi, rfl⟩ := List.getElem_of_mem hb
  have h1 := hs i hi
  have e3 : s.getD i 0 = s[i] := by rw [List.getD_eq_getElem?_getD, List.getElem?_eq_getElem hi]; rfl
  rw [e3] at h1
  have h2 := (s[i]).toNat_lt
  have h3 := h1.1
  simp only [decide_eq_true_eq, beq_iff_eq]
  constructor
  · rintro rfl
    refine UInt8.toNat_inj.1 ?_
    rw [UInt8.toNat_ofNat']
    unfold ix
    omega
  · intro e
    rw [e]
    exact ix_ofNat (by omega)
def rowC (z : List (List UInt8)) (p : Nat) : List Int := (List.range z.length).map fun q => ((cP p (z.getD q []) : Nat) : Int)
def matC (z : List (List UInt8)) (i : Nat) : List (List Int) := (List.range i).map (rowC z)
theorem matC_snoc (z : List (List UInt8)) (i : Nat) : matC z (i + 1) = matC z i ++ [rowC z i] := by simp [matC, List.range_succ]
theorem rowC_len (z : List (List UInt8)) (p : Nat) : (rowC z p).length = z.length := by simp [rowC]
theorem matC_dim (z : List (List UInt8)) : DimI z.length (matC z z.length) := ⟨by simp [matC], fun t ht => by simp [matC, List.getD, ht, rowC_len]⟩
theorem matC_cell {z : List (List UInt8)} (hz : VOk z) {p q : Nat} (hp : p < z.length) (hq : q < z.length) : cellI (matC z z.length) p q = aM z p q := by
  have e1 : cellI (matC z z.length) p q = ((cP p (z.getD q []) : Nat) : Int) := by simp [cellI, matC, List.getD, hp, rowC, hq]
  rw [e1, cP_count hp hz.h6 (hz.hh q hq)]
  rfl
theorem detZ_congr {a b : Nat → Nat → Int} : ∀ (rows cols : List Nat), (∀ r ∈ rows, ∀ c ∈ cols, a r c = b r c) → detZ a rows cols = detZ b rows cols
  | [], _, _ => rfl
  | r :: rs, cols, h => by
    refine sumZ_congr _ fun i hi => ?_
    have hci : cols.getD i 0 ∈ cols := by
      rw [List.getD_eq_getElem?_getD, List.getElem?_eq_getElem hi]
      exact List.getElem_mem hi
    rw [h r (List.mem_cons_self ..) _ hci, detZ_congr rs (cols.eraseIdx i) fun r' h1 c h2 => h r' (List.mem_cons_of_mem _ h1) c (List.mem_of_mem_eraseIdx h2)]
theorem subs_ne : ∀ (n s : Nat), 0 < s → s < 2 ^ n → subs s n ≠ []
  | 0, s, h0, h1 => by simp at h1; omega
  | n + 1, s, h0, h1 => by
    unfold subs
    obtain ⟨y, hy⟩ : ∃ y, y = 2 ^ n := ⟨_, rfl⟩
    have hy0 : 0 < y := by rw [hy]; exact Nat.two_pow_pos n
    rw [Nat.pow_succ, ← hy] at h1
    rw [← hy]
    obtain ⟨q, hq⟩ : ∃ q, q = s / y := ⟨_, rfl⟩
    by_cases e : s / y = 0
    · have h2 : s < y := by
        rcases Nat.lt_or_ge s y with h | h
        · exact h
        · have := Nat.div_pos h hy0; omega
      have := subs_ne n s h0 (by rw [← hy]; exact h2)
      intro h
      exact this (List.append_eq_nil_iff.1 h).1
    · have h3 : s / y < 2 := Nat.div_lt_of_lt_mul (by omega)
      have h4 : s / y = 1 := by rw [← hq] at e h3 ⊢; omega
      rw [h4]
      simp
theorem subs_len (s : Nat) : ∀ n, (subs s n).length ≤ n
  | 0 => Nat.le_refl _
  | n + 1 => by unfold subs; rw [List.length_append]; have := subs_len s n; cases Nat.beq (s / 2 ^ n % 2) 1 <;> simp <;> omega
theorem subs_zero : ∀ n, subs 0 n = []
  | 0 => rfl
  | n + 1 => by unfold subs; rw [subs_zero n, Nat.zero_div]; rfl
theorem shl1 {n : Nat} (hn : n ≤ 6) : shlV .i64 1 (n : Int) = ((2 ^ n : Nat) : Int) := by
  have : n = 0 ∨ n = 1 ∨ n = 2 ∨ n = 3 ∨ n = 4 ∨ n = 5 ∨ n = 6 := by omega
  rcases this with rfl | rfl | rfl | rfl | rfl | rfl | rfl <;> decide
theorem shrN {s p : Nat} (hp : p ≤ 6) : shrV .i64 (s : Int) (p : Int) = ((s / 2 ^ p : Nat) : Int) := by
  have e : (2 : Nat) ^ (min (p : Int).toNat IntKind.i64.bits) = 2 ^ p := by
    have : min (p : Int).toNat IntKind.i64.bits = p := by show min p 64 = p; omega
    rw [this]
  unfold shrV
  rw [e, Int.fdiv_eq_ediv_of_nonneg _ (show (0 : Int) ≤ Int.ofNat (2 ^ p) from Int.natCast_nonneg (2 ^ p))]
  rfl
theorem tmod2 (s : Nat) : Int.tmod (s : Int) 2 = ((s % 2 : Nat) : Int) := (Int.ofNat_tmod _ _).symm
theorem RowG.LS {L e : Nat} {v : AVal} {z : List Int} (g : RowG hp L e v (z.map (AVal.i .i64))) : LS ro hp v z := by
  by_cases hz : z = []
  · rcases g with ⟨rfl, -⟩ | ⟨b, blk, -, hpos, -⟩
    · exact .inl ⟨hz, .inl rfl⟩
    · rw [hz] at hpos; simp at hpos
  · exact .inr (g.rowS hz)
set_option maxHeartbeats 2000000 in
theorem rec41 {v : AVal} {z : List (List UInt8)} {s : List UInt8} (a : IsS ro h v z) (hf : z.length ≤ 1000000 ∧ (∀ i, i < z.length → (z.getD i []).length ≤ 1000000) ∧ s.length ≤ 1000000) :
    ∃ w H, callX F1 ro 41 [v, .s s] h = some (.tup [w, .i .i64 (errS z s)], H, h.length, h.length) ∧ Keep h H ∧ IsRow ro H w (recL z s) := by
  have c42 := cp0 (shoot42 (ro := ro) (s := s) a hf.1 hf.2.1 hf.2.2)
  by_cases hS : errS z s = 0
  rotate_left
  · refine ⟨.nsl, h, g41_ok (meansX_ok F1 ro) (Ovr.no rfl) ?_, Keep.refl _, .inl ⟨rfl, by unfold recL; rw [if_neg hS]⟩⟩
    unfold g41
    simp only [mC, c42, pS, oS, iS, fB, eqI_ne hS, nF, cT, tA2]
    exact fin_pure2 rfl rfl
  have hz := VOk.of (errS_V hS)
  have n1 := hz.h1
  have n6 := hz.h6
  have e0 : eqI (errS z s) 0 = true := by rw [hS]; rfl
  obtain ⟨L, hL⟩ : ∃ L, L = h.length := ⟨_, rfl⟩
  obtain ⟨n, hn⟩ : ∃ n, n = z.length := ⟨_, rfl⟩
  have key0 : ∃ r, loopX (fun s : AVal × Int × Mm => g41_b0 (meansX F1 ro) ro v (n : Int) s.1 s.2.1 s.2.2) (.nsl, 0, ⟨h, L, L⟩) = some r ∧ ∃ w J, r = (w, ⟨J, L, L⟩) ∧ Keep h J ∧ GM eI J L 30 w (matC z n) := by
    refine loop_gen n (fun i s => ∃ w J, s = (w, (i : Int), ⟨J, L, L⟩) ∧ Keep h J ∧ GM eI J L 30 w (matC z i)) _ ?_ ?_ n 0 _ (by omega) ⟨_, h, rfl, Keep.refl _, GM.nil _ _ _⟩
    · rintro p s' hp ⟨w, J, rfl, kJ, gJ⟩
      have hlJ := kJ.1
      have hm := mk_ok (ro := ro) (hp := J) (e := 3) (es := 1) (bytes := 8) (z := [AVal.i IntKind.i64 0]) (n := n) (l := L) (p := L) (by omega) (by omega)
      obtain ⟨J1, hJ1⟩ : ∃ J1, J1 = J ++ [some (blkOf 3 (rep [AVal.i IntKind.i64 0] n))] := ⟨_, rfl⟩
      rw [← hJ1] at hm
      have lJ1 : J1.length = J.length + 1 := by rw [hJ1]; simp
      have kJ1 : Keep J J1 := by rw [hJ1]; exact Keep.app _
      obtain ⟨c, hc⟩ : ∃ c : Nat → Nat → Nat → AVal, c = fun t x q => eI (((if q < t then cP p (z.getD q []) else if q = t then x else 0) : Nat) : Int) := ⟨_, rfl⟩
      have hnew : Holds J1 J.length ((List.range n).map (c 0 0)) := by
        have := Holds.new J 3 (rep [AVal.i IntKind.i64 0] n)
        rw [← hJ1, rep_repl] at this
        have e : (List.range n).map (c 0 0) = List.replicate n (AVal.i IntKind.i64 0) := by
          refine List.ext_getElem? fun i => ?_
          rcases Nat.lt_or_ge i n with hi | hi
          · simp [hc, hi]
          · rw [List.getElem?_eq_none (by simpa using hi), List.getElem?_eq_none (by simpa using hi)]
        rw [e]; exact this
      have key1 : ∃ r, loopX (fun s : Int × Mm => g41_b1 (meansX F1 ro) ro v (n : Int) w (p : Int) (.sl ⟨false, J.length, 0⟩ n (.known n)) s.1 s.2) (0, ⟨J1, L, L⟩) = some r ∧ ∃ K, r = ⟨K, L, L⟩ ∧ K.length = J1.length ∧ (∀ t, t ≠ J.length → K[t]? = J1[t]?) ∧ Holds K J.length ((List.range n).map (c n 0)) := by
        refine loop_gen n (fun t s => ∃ K, s = ((t : Int), ⟨K, L, L⟩) ∧ K.length = J1.length ∧ (∀ t, t ≠ J.length → K[t]? = J1[t]?) ∧ Holds K J.length ((List.range n).map (c t 0))) _ ?_ ?_ n 0 _ (by omega) ⟨J1, rfl, rfl, fun _ _ => rfl, hnew⟩
        · rintro t s' ht ⟨K, rfl, lK, oK, hK⟩
          obtain ⟨l, hs⟩ : ∃ l, l = z.getD t [] := ⟨_, rfl⟩
          have hsl : l.length ≤ 8 := by rw [hs]; exact hz.h8 t (by omega)
          have hsh : has n l := by rw [hs, hn]; exact hz.hh t (by omega)
          have cle : ∀ j, cP p (l.take j) ≤ 8 := fun j => by
            have h1 : cP p (l.take j) ≤ (l.take j).length := List.countP_le_length
            rw [List.length_take] at h1
            omega
          have key2 : ∃ r, loopX (fun s : Int × Mm => g41_b2 (meansX F1 ro) ro v (n : Int) w (p : Int) (.sl ⟨false, J.length, 0⟩ n (.known n)) (t : Int) s.1 s.2) (0, ⟨K, L, L⟩) = some r ∧ ∃ Q, r = ⟨Q, L, L⟩ ∧ Q.length = J1.length ∧ (∀ t, t ≠ J.length → Q[t]? = J1[t]?) ∧ Holds Q J.length ((List.range n).map (c t (cP p (l.take l.length)))) := by
            refine loop_gen l.length (fun j q => ∃ Q, q = ((j : Int), ⟨Q, L, L⟩) ∧ Q.length = J1.length ∧ (∀ t, t ≠ J.length → Q[t]? = J1[t]?) ∧ Holds Q J.length ((List.range n).map (c t (cP p (l.take j))))) _ ?_ ?_ l.length 0 _ (by omega) ⟨K, rfl, lK, oK, hK⟩
            · rintro j q hj ⟨Q, rfl, lQ, oQ, hQ⟩
              have kQ : Keep h Q := kJ.trans ⟨by omega, fun t ht => by rw [oQ t (by omega), kJ1.2 t ht]⟩
              obtain ⟨p1, i1, i2⟩ := at_S a (show t < z.length by omega)
              rw [← hs] at i2
              have i2' := fun l q => (i2 (hp := Q) (l := l) (q := q) kQ).1
              have hb := hsh j hj
              have hx := ix_lt hb
              have e2 : ix (l.getD j 0) ≤ 255 := by unfold ix; have := (l.getD j 0).toNat_lt; omega
              have est := cP_snoc p hj
              by_cases e : ix (l.getD j 0) = p
              · rw [if_pos e] at est
                have he : eqI ((ix (l.getD j 0) : Nat) : Int) (p : Int) = true := by rw [e]; exact eqI_self _
                obtain ⟨m1, -⟩ := hQ.ld (ro := ro) (k := t) (w := eI ((cP p (l.take j) : Nat) : Int)) (by simp [hc, ht]) L L
                obtain ⟨Q2, s1, g1, n1', o1⟩ := hQ.put (ro := ro) (k := t) (w := eI ((cP p (l.take (j + 1)) : Nat) : Int)) (by rw [List.length_map, List.length_range]; exact ht) rfl rfl
                have s1' := s1 L L
                rw [show nonp [eI ((cP p (l.take (j + 1)) : Nat) : Int)] = true from rfl, cond_true, Nat.min_eq_left (show L ≤ J.length by omega)] at s1'
                rw [setF (g := c t (cP p (l.take (j + 1))))] at g1
                rotate_left
                · intro u hu hne
                  simp only [hc]
                  by_cases e1 : u < t
                  · rw [if_pos e1, if_pos e1]
                  · rw [if_neg e1, if_neg e1, if_neg hne, if_neg hne]
                · intro _
                  simp only [hc]
                  rw [if_neg (Nat.lt_irrefl _), if_pos trivial]
                have hw : wr .i64 (((cP p (l.take j) : Nat) : Int) + 1) = ((cP p (l.take (j + 1)) : Nat) : Int) := by rw [nx (by have := cle j; omega), est]
                exact ⟨_, (by simp only [g41_b2, i1, oS, i2', sS, len_str, iS, fB, ltT (show (j : Int) < (l.length : Int) by omega), cT, ix_str hj, fI', sub97 hb.1, lt64 (show ix (l.getD j 0) ≤ 9223372036854775807 by omega), he, ixS_eq (show t < n from ht), m1, eI, hw, s1', pS, nx (show j ≤ 1000000 by omega)] <;> rfl), Q2, rfl, by omega, fun t ht => by rw [o1 t ht, oQ t ht], g1⟩
              · rw [if_neg e] at est
                have he : eqI ((ix (l.getD j 0) : Nat) : Int) (p : Int) = false := eqI_ne (by omega)
                exact ⟨_, (by simp only [g41_b2, i1, oS, i2', sS, len_str, iS, fB, ltT (show (j : Int) < (l.length : Int) by omega), cT, cF, ix_str hj, fI', sub97 hb.1, lt64 (show ix (l.getD j 0) ≤ 9223372036854775807 by omega), he, nx (show j ≤ 1000000 by omega)] <;> rfl), Q, rfl, lQ, oQ, by rw [est, Nat.add_zero]; exact hQ⟩
            · rintro q ⟨Q, rfl, lQ, oQ, hQ⟩
              have kQ : Keep h Q := kJ.trans ⟨by omega, fun t ht => by rw [oQ t (by omega), kJ1.2 t ht]⟩
              obtain ⟨p1, i1, i2⟩ := at_S a (show t < z.length by omega)
              rw [← hs] at i2
              have i2' := fun l q => (i2 (hp := Q) (l := l) (q := q) kQ).1
              exact ⟨_, (by simp only [g41_b2, i1, oS, i2', sS, len_str, iS, fB, ltF (Int.lt_irrefl _), cF] <;> rfl), Q, rfl, lQ, oQ, hQ⟩
          obtain ⟨r, q1, Q, rfl, lQ, oQ, hQ⟩ := key2
          refine ⟨_, (by simp only [g41_b1, fB, ltT (show (t : Int) < (n : Int) by omega), cT, meansX_loop, q1, oS, fI', nx (show t ≤ 1000000 by omega)] <;> rfl), Q, rfl, lQ, oQ, ?_⟩
          have e : (List.range n).map (c t (cP p (l.take l.length))) = (List.range n).map (c (t + 1) 0) := by
            refine List.map_congr_left fun u _ => ?_
            simp only [hc]
            rw [List.take_length]
            by_cases e1 : u < t
            · rw [if_pos e1, if_pos (by omega)]
            · by_cases e2 : u = t
              · subst e2; rw [if_neg e1, if_pos rfl, if_pos (by omega), hs]
              · rw [if_neg e1, if_neg e2, if_neg (by omega)]
                split <;> rfl
          rw [← e]; exact hQ
        · rintro s' ⟨K, rfl, lK, oK, hK⟩
          exact ⟨_, (by simp only [g41_b1, fB, ltF (Int.lt_irrefl _), cF] <;> rfl), K, rfl, lK, oK, hK⟩
      obtain ⟨r, q1, K, rfl, lK, oK, hK⟩ := key1
      have hrow : (List.range n).map (c n 0) = (rowC z p).map eI := by
        unfold rowC
        rw [List.map_map, ← hn]
        refine List.map_congr_left fun u hu => ?_
        simp only [hc, Function.comp]
        rw [if_pos (List.mem_range.1 hu)]
      rw [hrow] at hK
      have kK : Keep J K := ⟨by omega, fun t ht => by rw [oK t (by omega), kJ1.2 t ht]⟩
      obtain ⟨u, w', K2, K3, s1, s2, g4, l4, o4⟩ := gJ.push (ro := ro) (bytes := 24) (c := .known n) kK (Nat.le_refl _) (by omega) hK (by simp [matC]; omega) (by omega)
      rw [rowC_len, ← hn] at s1
      refine ⟨_, (by simp only [g41_b0, fB, ltT (show (p : Int) < (n : Int) by omega), cT, oS, iS, hm, pS, meansX_loop, q1, s1, s2, fI', nx (show p ≤ 1000000 by omega)] <;> rfl), w', K3, rfl, ⟨by have := kK.1; omega, fun t ht => by rw [o4 t (by omega), kK.2 t (by omega), kJ.2 t ht]⟩, by rw [matC_snoc]; exact g4⟩
    · rintro s' ⟨w, J, rfl, kJ, gJ⟩
      exact ⟨_, (by simp only [g41_b0, fB, ltF (Int.lt_irrefl _), cF] <;> rfl), w, J, rfl, kJ, gJ⟩
  obtain ⟨r0, l0, w, J, rfl, kJ, gJ⟩ := key0
  have MJ := gJ.isM (ro := ro)
  have dm : DimI n (matC z n) := by rw [hn]; exact matC_dim z
  have hlJ := kJ.1
  have hmk := mk_ok (ro := ro) (hp := J) (e := 3) (es := 1) (bytes := 8) (z := [(AVal.i IntKind.i64 0)]) (n := n) (l := L) (p := L) (by omega) (by omega)
  obtain ⟨bo, hbo⟩ : ∃ bo, bo = J.length := ⟨_, rfl⟩
  obtain ⟨H2, hH2⟩ : ∃ H2, H2 = J ++ [some (blkOf 3 (rep [(AVal.i IntKind.i64 0)] n))] := ⟨_, rfl⟩
  rw [← hH2, ← hbo] at hmk
  have k2 : Keep J H2 := by rw [hH2]; exact Keep.app _
  have l2 : H2.length = bo + 1 := by rw [hH2, hbo]; simp
  obtain ⟨cell, hcell⟩ : ∃ cell : Nat → Nat → AVal, cell = fun set j => eI (wr .i64 (eZ (aM z) n (j + 1) set)) := ⟨_, rfl⟩
  have ho2 : Holds H2 bo ((List.range n).map (cell 1)) := by
    have := Holds.new J 3 (rep [(AVal.i IntKind.i64 0)] n)
    rw [← hH2, ← hbo, rep_repl] at this
    have e : (List.range n).map (cell 1) = List.replicate n (AVal.i IntKind.i64 0) := by
      refine List.ext_getElem? fun i => ?_
      rcases Nat.lt_or_ge i n with hi | hi
      · have h1 : cell 1 i = .i .i64 0 := by
          have h2 : eZ (aM z) n (i + 1) 1 = 0 + cond (Nat.beq (subs 0 n).length (i + 1)) (sgn (i + 1) * detZ (aM z) (subs 0 n) (subs 0 n)) 0 := rfl
          rw [subs_zero] at h2
          have h3 : Nat.beq ([] : List Nat).length (i + 1) = false := rfl
          rw [h3] at h2
          simp only [hcell, h2]
          rfl
        simp [hi, h1]
      · rw [List.getElem?_eq_none (by simpa using hi), List.getElem?_eq_none (by simpa using hi)]
    rw [e]; exact this
  have hpow : 2 ^ n ≤ 64 := by
    have : 2 ^ n ≤ 2 ^ 6 := Nat.pow_le_pow_right (by omega) (by omega)
    omega
  have hn0 : (!ltI (n : Int) (.ofNat 0)) = true := by rw [ltF (show ¬ (n : Int) < Int.ofNat 0 by show ¬ (n : Int) < 0; omega)]; rfl
  have key : ∃ r, loopX (fun s : Int × Mm => g41_b4 (meansX F1 ro) ro (n : Int) w (.sl ⟨false, bo, 0⟩ n (.known n)) s.1 s.2) (1, ⟨H2, L, L⟩) = some r ∧ ∃ K, r = ⟨K, L, L⟩ ∧ Keep J K ∧ Holds K bo ((List.range n).map (cell (2 ^ n))) := by
    refine loop_gen (2 ^ n) (fun set s => ∃ K, s = ((set : Int), ⟨K, L, L⟩) ∧ 1 ≤ set ∧ Keep J K ∧ bo < K.length ∧ Holds K bo ((List.range n).map (cell set))) _ ?_ ?_ (2 ^ n - 1) 1 _ (by have := Nat.two_pow_pos n; omega) ⟨H2, rfl, Nat.le_refl _, k2, by omega, ho2⟩
    · rintro set s' hset ⟨K, rfl, h1s, kK, hbK, hK⟩
      have hqK := kK.1
      -- the places of the set
      have key5 : ∃ r, loopX (fun s : AVal × Int × Mm => g41_b5 (meansX F1 ro) ro (n : Int) w (.sl ⟨false, bo, 0⟩ n (.known n)) (set : Int) s.1 s.2.1 s.2.2) (.nsl, 0, ⟨K, L, L⟩) = some r ∧ ∃ u Q, r = (u, ⟨Q, L, L⟩) ∧ Keep K Q ∧ RowG Q K.length 3 u ((zN (subs set n)).map (AVal.i .i64)) := by
        refine loop_gen n (fun p s => ∃ u Q, s = (u, (p : Int), ⟨Q, L, L⟩) ∧ Keep K Q ∧ RowG Q K.length 3 u ((zN (subs set p)).map (AVal.i .i64))) _ ?_ ?_ n 0 _ (by omega) ⟨.nsl, K, rfl, Keep.refl _, RowG.nil _ _ _⟩
        · rintro p s' hp ⟨u, Q, rfl, kQ, gQ⟩
          have hqQ := kQ.1
          have hp0 : (!ltI (p : Int) (.ofNat 0)) = true := by rw [ltF (show ¬ (p : Int) < Int.ofNat 0 by show ¬ (p : Int) < 0; omega)]; rfl
          have hsub : subs set (p + 1) = subs set p ++ cond (Nat.beq (set / 2 ^ p % 2) 1) [p] [] := rfl
          have hsl := subs_len set p
          by_cases e : set / 2 ^ p % 2 = 1
          · have hb : Nat.beq (set / 2 ^ p % 2) 1 = true := by rw [e]; rfl
            have he : eqI ((set / 2 ^ p % 2 : Nat) : Int) 1 = true := by rw [e]; rfl
            rw [hb, cond_true] at hsub
            obtain ⟨Q2, Q3, l', p', s1, s2, g4, n3, n4, o4, b4, b5, b6⟩ := gQ.push (ro := ro) (l := L) (p := L) (bytes := 8) (z := AVal.i .i64 0) (w := .i .i64 (p : Int)) hqQ (by simp; omega) (by omega) rfl rfl
            have hl' : l' = L ∧ p' = L := by have := b4 L (by omega) (Nat.le_refl _) (Nat.le_refl _); omega
            rw [hl'.1, hl'.2] at s2
            have e3 : (zN (subs set p)).map (AVal.i .i64) ++ [.i .i64 (p : Int)] = (zN (subs set (p + 1))).map (AVal.i .i64) := by rw [hsub]; simp [zN]
            rw [e3] at g4
            have hwb : ∀ b, rb u = some b → K.length ≤ b := fun b e => (gQ.holds e).2.1
            refine ⟨_, (by simp only [g41_b5, fB, ltT (show (p : Int) < (n : Int) by omega), cT, hp0, ckT, shrN (show p ≤ 6 by omega), fI', tmod2, he, s1, pS, s2, oS, nx (show p ≤ 1000000 by omega)] <;> rfl), _, Q3, rfl, ⟨by omega, fun t ht => by rw [o4 t (by omega) (fun e => by have := hwb t e; omega), kQ.2 t ht]⟩, g4⟩
          · have hb : Nat.beq (set / 2 ^ p % 2) 1 = false := by rw [← Bool.not_eq_true]; intro h; exact e (Nat.eq_of_beq_eq_true h)
            have he : eqI ((set / 2 ^ p % 2 : Nat) : Int) 1 = false := eqI_ne (by omega)
            rw [hb, cond_false, List.append_nil] at hsub
            rw [← hsub] at gQ
            exact ⟨_, (by simp only [g41_b5, fB, ltT (show (p : Int) < (n : Int) by omega), cT, cF, hp0, ckT, shrN (show p ≤ 6 by omega), fI', tmod2, he, oS, nx (show p ≤ 1000000 by omega)] <;> rfl), u, Q, rfl, kQ, gQ⟩
        · rintro s' ⟨u, Q, rfl, kQ, gQ⟩
          exact ⟨_, (by simp only [g41_b5, fB, ltF (Int.lt_irrefl _), cF] <;> rfl), u, Q, rfl, kQ, gQ⟩
      obtain ⟨r5, e5, u, Q, rfl, kQ, gQ⟩ := key5
      have hqQ := kQ.1
      obtain ⟨l, hl⟩ : ∃ l, l = subs set n := ⟨_, rfl⟩
      rw [← hl] at gQ
      have hll : l.length ≤ n := by rw [hl]; exact subs_len set n
      have hlt : ∀ p ∈ l, p < n := by rw [hl]; exact subs_lt set n
      have hne : l ≠ [] := by rw [hl]; exact subs_ne n set (by omega) hset
      have hpos : 0 < l.length := List.length_pos_iff.2 hne
      have lsl := gQ.LS (ro := ro)
      have cd := det84 (ro := ro) (show n ≤ 6 by omega) dm l l (M_by MJ (kK.trans kQ)) rfl (by omega) hlt hlt lsl lsl
      have hdz : detZ (cellI (matC z n)) l l = detZ (aM z) l l := detZ_congr l l fun r hr c hc => by
        have h1 := hlt r hr
        have h2 := hlt c hc
        rw [hn] at h1 h2 ⊢
        exact matC_cell hz h1 h2
      rw [hdz] at cd
      have cd' := cp (l := L) (p := L) cd (by omega) (by omega)
      have hlen := lsl.len
      have hzl : (zN l).length = l.length := by simp [zN]
      rw [hzl] at hlen
      have hKQ : Holds Q bo ((List.range n).map (cell set)) := hK.by kQ
      have hk1 : wr .i64 ((l.length : Int) - 1) = ((l.length - 1 : Nat) : Int) := by rw [wr_id' (by omega) (by omega)]; omega
      obtain ⟨m1, -⟩ := hKQ.ld (ro := ro) (k := l.length - 1) (w := cell set (l.length - 1)) (by rw [List.getElem?_map, List.getElem?_range (by omega)]; rfl) L L
      rw [show cell set (l.length - 1) = .i .i64 (wr .i64 (eZ (aM z) n l.length set)) by rw [hcell]; simp only; rw [show l.length - 1 + 1 = l.length by omega]] at m1
      have m1' : ldM ro ⟨Q, L, L⟩ true 1 (.p (some ⟨false, bo, 0 + (l.length - 1)⟩)) = some (.i .i64 (wr .i64 (eZ (aM z) n l.length set))) := m1
      have estep : eZ (aM z) n l.length (set + 1) = eZ (aM z) n l.length set + sgn l.length * detZ (aM z) l l := by
        show _ + cond (Nat.beq (subs set n).length l.length) (sgn l.length * detZ (aM z) (subs set n) (subs set n)) 0 = _
        rw [← hl, Nat.beq_refl]; rfl
      have eother : ∀ j, j + 1 ≠ l.length → eZ (aM z) n (j + 1) (set + 1) = eZ (aM z) n (j + 1) set := fun j hj => by
        show _ + cond (Nat.beq (subs set n).length (j + 1)) (sgn (j + 1) * detZ (aM z) (subs set n) (subs set n)) 0 = _
        have hb : Nat.beq (subs set n).length (j + 1) = false := by rw [← Bool.not_eq_true, ← hl]; intro h; exact hj (Nat.eq_of_beq_eq_true h).symm
        rw [hb]
        exact Int.add_zero _
      obtain ⟨Q2, s1, g1, n1', o1⟩ := hKQ.put (ro := ro) (k := l.length - 1) (w := cell (set + 1) (l.length - 1)) (by rw [List.length_map, List.length_range]; omega) (by rw [hcell]; rfl) (by rw [hcell]; rfl)
      have s1' := s1 L L
      rw [show nonp [cell (set + 1) (l.length - 1)] = true by rw [hcell]; rfl, cond_true, Nat.min_eq_left (show L ≤ bo by omega)] at s1'
      rw [show cell (set + 1) (l.length - 1) = .i .i64 (wr .i64 (eZ (aM z) n l.length (set + 1))) by rw [hcell]; simp only; rw [show l.length - 1 + 1 = l.length by omega]] at s1'
      rw [setF (g := cell (set + 1))] at g1
      rotate_left
      · intro t ht hne
        simp only [hcell]
        rw [eother t (by omega)]
      · intro _; rfl
      have kQ2 : Keep J Q2 := ⟨by omega, fun t ht => by rw [o1 t (by omega), kQ.2 t (by omega), kK.2 t ht]⟩
      have h2n : ltI (set : Int) ((2 ^ n : Nat) : Int) = true := ltT (by omega)
      refine ⟨(((set + 1 : Nat) : Int), ⟨Q2, L, L⟩), ?_, Q2, rfl, by omega, kQ2, by omega, g1⟩
      by_cases ev : l.length % 2 = 0
      · have hs1 : sgn l.length = -1 := by unfold sgn; rw [ev]; rfl
        have he : eqI ((l.length % 2 : Nat) : Int) 0 = true := by rw [ev]; rfl
        have hw : wr .i64 (wr .i64 (eZ (aM z) n l.length set) + wr .i64 (-detZ (aM z) l l)) = wr .i64 (eZ (aM z) n l.length (set + 1)) := by
          rw [wr_addL, wr_addR, estep, hs1, Int.neg_mul, Int.one_mul]
        simp only [g41_b4, hn0, ckT, shl1 (show n ≤ 6 by omega), fI', fB, h2n, cT, meansX_loop, e5, oS, mC, cd', pS, iS, hlen, tmod2, he, wr_neg, hk1, ixS_eq (show l.length - 1 < n by omega), m1', hw, s1', nx (show set ≤ 1000000 by omega)]
      · have hb : Nat.beq (l.length % 2) 0 = false := by rw [← Bool.not_eq_true]; intro h; exact ev (Nat.eq_of_beq_eq_true h)
        have hs1 : sgn l.length = 1 := by unfold sgn; rw [hb]; rfl
        have he : eqI ((l.length % 2 : Nat) : Int) 0 = false := eqI_ne (by omega)
        have hw : wr .i64 (wr .i64 (eZ (aM z) n l.length set) + wr .i64 (detZ (aM z) l l)) = wr .i64 (eZ (aM z) n l.length (set + 1)) := by
          rw [wr_addL, wr_addR, estep, hs1, Int.one_mul]
        simp only [g41_b4, hn0, ckT, shl1 (show n ≤ 6 by omega), fI', fB, h2n, cT, cF, meansX_loop, e5, oS, mC, cd', pS, iS, hlen, tmod2, he, hk1, ixS_eq (show l.length - 1 < n by omega), m1', hw, s1', nx (show set ≤ 1000000 by omega)]
    · rintro s' ⟨K, rfl, h1s, kK, hbK, hK⟩
      exact ⟨_, (by simp only [g41_b4, hn0, ckT, shl1 (show n ≤ 6 by omega), fI', fB, ltF (Int.lt_irrefl _), cF] <;> rfl), K, rfl, kK, hK⟩
  obtain ⟨r, l1, K, rfl, kK, hK⟩ := key
  have khK := kJ.trans kK
  have hlS : evP .e (.len false (.c v)) = some (.i .i64 (n : Int)) := by rw [hn]; exact len_S a
  refine ⟨.sl ⟨false, bo, 0⟩ n (.known n), K, g41_ok (meansX_ok F1 ro) (Ovr.no rfl) ?_, khK, ?_⟩
  · unfold g41
    simp only [mC, c42, pS, oS, iS, fB, e0, nT, cF]
    simp only [← hL, hlS, oS, iS, meansX_loop, l0, hmk, pS, l1, tA2]
    rw [hS, hL]
    exact fin_tupL khK (by omega)
  · have e : recL z s = (List.range n).map fun j => coZ (aM z) n (j + 1) := by unfold recL; rw [if_pos hS, hn]
    rw [e]
    refine Holds.rowI ?_ (by simp)
    rw [List.map_map]
    have e2 : (List.range n).map (eI ∘ fun j => coZ (aM z) n (j + 1)) = (List.range n).map (cell (2 ^ n)) := by
      refine List.map_congr_left fun j hj => ?_
      have hjn := List.mem_range.1 hj
      simp only [hcell, Function.comp]
      have hb := (flM_bd hz j (by omega)).2 (by omega) (by omega)
      have h4 := p400_le (show j ≤ 6 by omega)
      have h5 := p400 j
      rw [← hn] at hb
      congr 1
      unfold Bd at hb
      exact (wr_id' (by omega) (by omega)).symm
    rw [e2]; exact hK
end
end Go.Proofs.Ytfohppnelbbepaa.T
/- Law 9 -/
open Go.Vm
set_option linter.unusedVariables false
set_option linter.unusedSectionVars false
namespace Go.Proofs.Ytfohppnelbbepaa.T
open Go
variable [Ovr]
section
variable {ro : List ABlk} {h hp : Heap}
theorem copyS {v : AVal} {z : List (List UInt8)} (a : IsS ro h v z) (hz : z.length ≤ 100000) {l p : Nat} : ∃ u u2 H1 H2, stepM ro ⟨h, l, p⟩ (.bsl 9 1 [(AVal.s [])] 0 []) = some (u, ⟨H1, l, p⟩) ∧ stepM ro ⟨H1, l, p⟩ (.app 9 1 16 [(AVal.s [])] (.c u) (.c v)) = some (u2, ⟨H2, l, p⟩) ∧ Keep h H2 ∧ IsS ro H2 u2 z := by
  obtain ⟨H1, hH1⟩ : ∃ H1, H1 = h ++ [some (blkOf 9 ([] : List AVal))] := ⟨_, rfl⟩
  have k1 : Keep h H1 := by rw [hH1]; exact Keep.app _
  have s1 : stepM ro ⟨h, l, p⟩ (.bsl 9 1 [(AVal.s [])] 0 []) = some (.sl ⟨false, h.length, 0⟩ 0 (.known 0), ⟨H1, l, p⟩) := by
    rw [hH1]; simp [stepM, stepK, st_bsl, rep, fillA, newB, St.mm]
  have hb1 : rdB ro H1 ⟨false, h.length, 0⟩ = some (blkOf 9 ([] : List AVal)) := by rw [hH1]; simp [rdB, lget_eq]
  have a1 := S_by a k1
  rcases a1 with ⟨rfl, rfl⟩ | ⟨q, cap, blk, rfl, hb, hn, hc⟩
  · refine ⟨_, .sl ⟨false, h.length, 0⟩ 0 (.known 0), H1, H1, s1, ?_, k1, .inr ⟨_, _, _, rfl, hb1, by show 0 + 0 ≤ 0; omega, fun j hj => by simp at hj⟩⟩
    have e1 : Nat.ble (0 + 0) 0 = true := rfl
    have e2 : Nat.beq (0 * 1) 0 = true := rfl
    simp only [stepM, stepK, opd, st_app, app_src, app_known, e1, e2, cond_true, St.mm]
  · have hrow : blk.c.row q.off (z.length * 1) = z.map AVal.s := row_row (z.length * 1) q.off _ (by simp) fun j hj => by
      rw [hc j (by omega)]
      simp [List.getD, show j < z.length by omega]
    have hble : Nat.ble (q.off + z.length * 1) blk.n = true := by rw [Nat.ble_eq]; omega
    have src : app_src ro H1 1 (.sl q z.length cap) = some (z.map AVal.s, z.length) := by simp only [app_src, hb, hble, cond_true, hrow]
    by_cases h0 : z.length = 0
    · have hz0 : z = [] := List.length_eq_zero_iff.1 h0
      subst hz0
      refine ⟨_, .sl ⟨false, h.length, 0⟩ 0 (.known 0), H1, H1, s1, ?_, k1, .inr ⟨_, _, _, rfl, hb1, by show 0 + 0 ≤ 0; omega, fun j hj => by simp at hj⟩⟩
      have e1 : Nat.ble (0 + ([] : List (List UInt8)).length) 0 = true := rfl
      have e2 : Nat.beq (([] : List (List UInt8)).length * 1) 0 = true := rfl
      simp only [stepM, stepK, opd, st_app, src, app_known, e1, e2, cond_true, St.mm]
      rfl
    · have e1 : Nat.ble (0 + z.length) 0 = false := by rw [← Bool.not_eq_true, Nat.ble_eq]; omega
      have e2 : (Nat.ble (0 + 0 * 1) (blkOf 9 ([] : List AVal)).n && fits (0 + z.length) 16) = true := by rw [fits_small (by omega) (by omega)]; rfl
      refine ⟨_, .sl ⟨false, H1.length, 0⟩ (0 + z.length) .grow, H1, H1 ++ [some (blkOf 9 (z.map AVal.s))], s1, ?_, k1.trans (Keep.app _), .inr ⟨⟨false, H1.length, 0⟩, .grow, blkOf 9 (z.map AVal.s), by rw [Nat.zero_add], ?_, by show 0 + z.length ≤ _; simp [blkOf], fun j hj => ?_⟩⟩
      · have e3 : (blkOf 9 ([] : List AVal)).c.row 0 (0 * 1) = [] := rfl
        simp only [stepM, stepK, opd, st_app, src, app_known, e1, cond_false, hb1, e2, cond_true, St.mm, newB, e3, List.nil_append]
      · exact rdB_heap (lget_last _ _) 0
      · rw [Nat.zero_add, get_blk]
        simp [List.getD, hj]
theorem law9 {v : AVal} {z : List (List UInt8)} {s : List UInt8} (hA : ∀ h, callX F1 ro 16 [] h = some (.b true, h, h.length, h.length)) (a : IsS ro h v z) :
    callX F1 ro 9 [v, .s s] h = some (.b true, h, h.length, h.length) := by
  refine g9_ok (meansX_ok F1 ro) (Ovr.no rfl) ?_
  unfold g9
  have c15 := cp0 (few15 (ro := ro) (s := s) a)
  by_cases hf : fewB z s
  rotate_left
  · simp only [mC, c15, pS, bS, fB, dF hf, nF, cT, cp0 (hA h), tA]
    exact fin_pure rfl
  have hf' := fewB_len hf
  obtain ⟨L, hL⟩ : ∃ L, L = h.length := ⟨_, rfl⟩
  have h20 : z.length ≤ 100000 := by
    rcases Nat.lt_or_ge 20 z.length with h0 | h0
    · have := (hf.1 20 h0).1; omega
    · omega
  obtain ⟨u, u2, H1, H2, s1, s2, k2, a2⟩ := copyS (ro := ro) a h20 (l := L) (p := L)
  have q2 := k2.1
  obtain ⟨w3, H3, c3, k3, r3⟩ := rec40 (ro := ro) (s := s) a2 hf'
  have q3 := k3.1
  have c3' := cM (l := L) (p := L) c3 (by omega) (by omega)
  obtain ⟨w4, H4, c4, k4, r4⟩ := rec41 (ro := ro) (s := s) (S_by a (k2.trans k3)) hf'
  have q4 := k4.1
  have c4' := cM (l := L) (p := L) c4 (by omega) (by omega)
  have aV := S_by a ((k2.trans k3).trans k4)
  have aO := S_by a2 (k3.trans k4)
  obtain ⟨E, hE⟩ : ∃ E, E = errS z s := ⟨_, rfl⟩
  rw [← hE] at c3' c4'
  have key : ∃ r, loopX (fun s : Int => g9_b0 (meansX F1 ro) ro v u2 w3 E w4 E ⟨H4, L, L⟩ s) 0 = some r ∧ r = .inl () := by
    refine loop_gen z.length (fun i s => s = (i : Int)) _ ?_ ?_ z.length 0 _ (by omega) rfl
    · rintro i s' hi rfl
      obtain ⟨p1, i1, i2⟩ := at_S aO hi
      obtain ⟨p2, j1, j2⟩ := at_S aV hi
      have i2' := (i2 (hp := H4) (l := 0) (q := 0) (Keep.refl _)).2
      have j2' := (j2 (hp := H4) (l := 0) (q := 0) (Keep.refl _)).2
      have hne : evP .e (.sbin BinOp.neq (.c (.s (z.getD i []))) (.c (.s (z.getD i [])))) = some (.b false) := by
        rw [strNe]; simp
      exact ⟨_, (by simp only [g9_b0, len_S aV, oS, iS, fB, ltT (show (i : Int) < (z.length : Int) by omega), cT, i1, i2', sS, j1, j2', hne, bS, cF, fI', nx (show i ≤ 1000000 by have := hf'.1; omega)] <;> rfl), rfl⟩
    · rintro s' rfl
      exact ⟨_, (by simp only [g9_b0, len_S aV, oS, iS, fB, ltF (Int.lt_irrefl _), cF] <;> rfl), rfl⟩
  obtain ⟨r, l1, rfl⟩ := key
  have hrl : (recL z s).length ≤ 1000000 := by
    unfold recL
    split
    · simp; exact hf'.1
    · simp
  have c23 := cp (l := L) (p := L) (same23 (ro := ro) (row_by r3 k4) r4 hrl) (by omega) (by omega)
  have cA := cp (l := L) (p := L) (hA H4) (by omega) (by omega)
  simp only [mC, c15, pS, bS, fB, dT hf, nT, cF]
  simp only [← hL, s1, s2, c3', c4', pS, x0, x1, oS, iS, meansX_loop, l1, c23, dT trivial, decide_true, bS, fB, eqI_self, cT, cA, tA]
  rw [hL]
  exact fin_keep ((k2.trans k3).trans k4) rfl
end
end Go.Proofs.Ytfohppnelbbepaa.T
/- The bridge, alive known -/
open Go.Vm
set_option linter.unusedVariables false
set_option linter.unusedSectionVars false
namespace Go.Proofs.Ytfohppnelbbepaa.T
open Go Go.RowKit Go.Deep Go.WideShapes Go.ChangeShapes
attribute [local instance] ovA
theorem aliveA {ro : List ABlk} (h : Heap) : callX F1 ro 16 [] h = some (.b true, h, h.length, h.length) := callX_ov rfl
theorem call_ofA {W : World} {ro : List ABlk} {rl : Rl} (hE : (Env.mk Try.prog W.heap.size W ro rl).Ok) {K : Nat} {vs : List AVal} {args : Array Value}
    (hv : LR rl [] vs args) {h' : Heap} {lw lp : Nat} (hc : callX F1 ro K vs [] = some (.b true, h', lw, lp)) : Calls Try.prog K args W fun e W' => e = .returned (.bool true) ∧ Below W.heap.size W W' :=
  call_of hE (alive_known hE (Try.checked.mixed) fok) hv hc
theorem exC {ro : List ABlk} {k : Nat} {l : List AVal} {h : Heap} {n m : Nat} {H : Heap} (e : callX F1 ro k l h = some (.b true, H, n, m)) : ∃ h' lw lp, callX F1 ro k l h = some (.b true, h', lw, lp) := ⟨_, _, _, e⟩
end Go.Proofs.Ytfohppnelbbepaa.T

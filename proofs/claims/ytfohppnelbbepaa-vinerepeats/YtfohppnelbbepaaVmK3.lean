/- Contracts of the functions: what each of them answers. -/
import Derived.Test.YtfohppnelbbepaaVmK2
/- What the polynomials say -/
open Go.Vm
set_option linter.unusedVariables false
set_option linter.unusedSectionVars false
namespace Go.Proofs.Ytfohppnelbbepaa.T
open Go
variable [Ovr]
section
variable (a : Nat → Nat → Int)
def vals : Nat → Int := fun v => a (v / 6) (v % 6)
theorem vals_at {r c : Nat} (hc : c < 6) : vals a (6 * r + c) = a r c := by
  unfold vals
  rw [show (6 * r + c) / 6 = r by omega, show (6 * r + c) % 6 = c by omega]
theorem mon_zero (ρ : Nat → Int) : ∀ f i, mon ρ f i 0 = 1
  | 0, _ => rfl
  | f + 1, i => by show ρ i ^ 0 * mon ρ f (i + 1) 0 = 1; rw [mon_zero ρ f (i + 1)]; simp
theorem pev_one (ρ : Nat → Int) : pev ρ [(0, 1)] = 1 := by simp [pev, mon_zero]
variable {a}
theorem addO_ev {ρ : Nat → Int} {x y : Option Poly} {p : Poly} (h : addO x y = some p) : ∃ u v, x = some u ∧ y = some v ∧ pev ρ p = pev ρ u + pev ρ v := by
  cases x with
  | none => cases h
  | some u =>
    cases y with
    | none => cases h
    | some v => cases h; exact ⟨u, v, rfl, rfl, pev_add _ _ _ _⟩
theorem scO_ev {ρ : Nat → Int} {c : Int} {x : Option Poly} {p : Poly} (h : scO c x = some p) : ∃ u, x = some u ∧ pev ρ p = c * pev ρ u := by
  cases x with
  | none => cases h
  | some u => cases h; exact ⟨u, rfl, pev_sc _ _ _⟩
theorem mvO_ev {ρ : Nat → Int} {j : Nat} (hj : j < 36) {x : Option Poly} {p : Poly} (h : mvO j x = some p) : ∃ u, x = some u ∧ pev ρ p = ρ j * pev ρ u := by
  cases x with
  | none => cases h
  | some u => exact ⟨u, rfl, pev_mv ρ hj h⟩
theorem sign_pow : ∀ i : Nat, (cond (Nat.beq (i % 2) 0) 1 (-1) : Int) = (-1) ^ i
  | 0 => rfl
  | 1 => rfl
  | i + 2 => by
    have e : (i + 2) % 2 = i % 2 := by omega
    rw [e, sign_pow i, Int.pow_succ, Int.pow_succ]; simp
theorem expP_ev {f : List Nat → Option Poly} {g : List Nat → Int} (hf : ∀ cols p, (∀ c ∈ cols, c < 6) → f cols = some p → pev (vals a) p = g cols) {r : Nat} (hr : r < 6) {cols : List Nat} (hc : ∀ c ∈ cols, c < 6) : ∀ (i : Nat) {p : Poly}, i ≤ cols.length → expP f r cols i = some p → pev (vals a) p = sumZ (fun i => (-1) ^ i * a r (cols.getD i 0) * g (cols.eraseIdx i)) i
  | 0, p, _, h => by cases h; rfl
  | i + 1, p, hi, h => by
    obtain ⟨u, v, h1, h2, h3⟩ := addO_ev (ρ := vals a) h
    obtain ⟨w, h4, h5⟩ := scO_ev (ρ := vals a) h2
    have hci : cols.getD i 0 < 6 := by
      rw [List.getD_eq_getElem?_getD, List.getElem?_eq_getElem (by omega)]
      exact hc _ (List.getElem_mem _)
    obtain ⟨x, h6, h7⟩ := mvO_ev (ρ := vals a) (by omega) h4
    have h8 := hf _ x (fun c h => hc c (List.mem_of_mem_eraseIdx h)) h6
    show _ = sumZ _ i + _
    rw [h3, expP_ev hf hr hc i (by omega) h1, h5, h7, vals_at a hci, h8, sign_pow, ← Int.mul_assoc]
theorem detP_ev : ∀ (rows : List Nat) (cols : List Nat) (p : Poly), (∀ r ∈ rows, r < 6) → (∀ c ∈ cols, c < 6) → detP rows cols = some p → pev (vals a) p = detZ a rows cols
  | [], cols, p, _, _, h => by cases h; exact pev_one _
  | r :: rs, cols, p, hr, hc, h => expP_ev (a := a) (g := detZ a rs) (fun cols p hc h => detP_ev rs cols p (fun r h => hr r (List.mem_cons_of_mem _ h)) hc h) (hr r (List.mem_cons_self ..)) hc _ (Nat.le_refl _) h
theorem subs_lt (s : Nat) : ∀ n, ∀ p ∈ subs s n, p < n
  | 0, p, h => by cases h
  | n + 1, p, h => by
    unfold subs at h
    rw [List.mem_append] at h
    rcases h with h | h
    · have := subs_lt s n p h; omega
    · cases hb : Nat.beq (s / 2 ^ n % 2) 1 <;> rw [hb] at h
      · cases h
      · have : p = n := by simpa using h
        omega
theorem coP_ev {n k : Nat} (hn : n ≤ 6) : ∀ (s : Nat) {p : Poly}, coP n k s = some p → pev (vals a) p = eZ a n k s
  | 0, p, h => by cases h; rfl
  | s + 1, p, h => by
    obtain ⟨u, v, h1, h2, h3⟩ := addO_ev (ρ := vals a) h
    show _ = eZ a n k s + _
    rw [h3, coP_ev hn s h1]
    congr 1
    cases hb : Nat.beq (subs s n).length k <;> rw [hb] at h2
    · cases h2; show (0 : Int) = cond (Nat.beq (subs s n).length k) _ _; rw [hb]; rfl
    · obtain ⟨w, h4, h5⟩ := scO_ev (ρ := vals a) h2
      have hl : ∀ c ∈ subs s n, c < 6 := fun c hc => by have := subs_lt s n c hc; omega
      rw [h5, detP_ev _ _ w hl hl h4]
      show _ = cond (Nat.beq (subs s n).length k) _ _
      rw [hb]; rfl
abbrev entP (M : PMat) (p q : Nat) : Poly := (M.getD p []).getD q []
theorem dotP_ev {M : PMat} {p q : Nat} (hp : p < 6) : ∀ (t : Nat) {x : Poly}, t ≤ 6 → dotP M p q t = some x → pev (vals a) x = sumZ (fun t => a p t * pev (vals a) (entP M t q)) t
  | 0, x, _, h => by cases h; rfl
  | t + 1, x, ht, h => by
    obtain ⟨u, v, h1, h2, h3⟩ := addO_ev (ρ := vals a) h
    have h4 := pev_mv (vals a) (show 6 * p + t < 36 by omega) h2
    show _ = sumZ _ t + _
    rw [h3, dotP_ev hp t (by omega) h1, h4, vals_at a (by omega)]
theorem getD_snoc {α : Type} {l : List α} {x d : α} {i : Nat} : (l ++ [x]).getD i d = if i < l.length then l.getD i d else if i = l.length then x else d := by
  rw [List.getD_eq_getElem?_getD]
  by_cases h1 : i < l.length
  · rw [if_pos h1, List.getElem?_append_left h1, ← List.getD_eq_getElem?_getD]
  · rw [if_neg h1, List.getElem?_append_right (by omega)]
    by_cases h2 : i = l.length
    · rw [if_pos h2, h2]; simp
    · rw [if_neg h2, List.getElem?_eq_none (by simp; omega)]; rfl
theorem rowP_ev {M : PMat} {n p : Nat} (hn : n ≤ 6) (hp : p < 6) : ∀ (Q : Nat) {l : List Poly}, rowP M n p Q = some l → l.length = Q ∧ ∀ q, q < Q → pev (vals a) (l.getD q []) = sumZ (fun t => a p t * pev (vals a) (entP M t q)) n
  | 0, l, h => by cases h; exact ⟨rfl, fun q hq => by omega⟩
  | Q + 1, l, h => by
    change (match rowP M n p Q with | some l => (match dotP M p Q n with | some x => some (l ++ [x]) | none => none) | none => none) = some l at h
    cases h1 : rowP M n p Q with
    | none => rw [h1] at h; cases h
    | some l1 =>
      rw [h1] at h
      cases h2 : dotP M p Q n with
      | none => rw [h2] at h; cases h
      | some x =>
        rw [h2] at h
        cases h
        obtain ⟨g1, g2⟩ := rowP_ev hn hp Q h1
        refine ⟨by simp [g1], fun q hq => ?_⟩
        rw [getD_snoc, g1]
        by_cases e : q < Q
        · rw [if_pos e]; exact g2 q e
        · have e2 : q = Q := by omega
          rw [if_neg e, if_pos e2, e2]
          exact dotP_ev hp n hn h2
theorem mulP_ev {M : PMat} {n : Nat} (hn : n ≤ 6) : ∀ (P : Nat) {l : PMat}, P ≤ n → mulP M n P = some l → l.length = P ∧ ∀ p q, p < P → q < n → pev (vals a) (entP l p q) = sumZ (fun t => a p t * pev (vals a) (entP M t q)) n
  | 0, l, _, h => by cases h; exact ⟨rfl, fun p q hp => by omega⟩
  | P + 1, l, hP, h => by
    change (match mulP M n P with | some l => (match rowP M n P n with | some x => some (l ++ [x]) | none => none) | none => none) = some l at h
    cases h1 : mulP M n P with
    | none => rw [h1] at h; cases h
    | some l1 =>
      rw [h1] at h
      cases h2 : rowP M n P n with
      | none => rw [h2] at h; cases h
      | some x =>
        rw [h2] at h
        cases h
        obtain ⟨g1, g2⟩ := mulP_ev hn P (by omega) h1
        refine ⟨by simp [g1], fun p q hp hq => ?_⟩
        show pev _ (((l1 ++ [x]).getD p []).getD q []) = _
        rw [getD_snoc, g1]
        by_cases e : p < P
        · rw [if_pos e]; exact g2 p q e hq
        · have e2 : p = P := by omega
          rw [if_neg e, if_pos e2, e2]
          exact (rowP_ev hn (by omega) n h2).2 q hq
theorem trP_ev {M : PMat} : ∀ P, pev (vals a) (trP M P) = sumZ (fun p => pev (vals a) (entP M p p)) P
  | 0 => rfl
  | P + 1 => by
    show pev _ (padd 4000 (trP M P) (entP M P P)) = sumZ _ P + _
    rw [pev_add, trP_ev P]
theorem rowS_ev {e : Poly} {r : List Poly} {p : Nat} : ∀ Q, (rowS e r p Q).length = Q ∧ ∀ q, q < Q → pev (vals a) ((rowS e r p Q).getD q []) = pev (vals a) (r.getD q []) - if p = q then pev (vals a) e else 0
  | 0 => ⟨rfl, fun q hq => by omega⟩
  | Q + 1 => by
    obtain ⟨g1, g2⟩ := rowS_ev (e := e) (r := r) (p := p) Q
    have e0 : rowS e r p (Q + 1) = rowS e r p Q ++ [cond (Nat.beq p Q) (padd 4000 (r.getD Q []) (psc (-1) e)) (r.getD Q [])] := rfl
    refine ⟨by rw [e0]; simp [g1], fun q hq => ?_⟩
    rw [e0, getD_snoc, g1]
    by_cases h : q < Q
    · rw [if_pos h]; exact g2 q h
    · have h2 : q = Q := by omega
      rw [if_neg h, if_pos h2, h2]
      by_cases h3 : p = Q
      · have hb : Nat.beq p Q = true := by rw [h3]; exact Nat.beq_refl _
        rw [hb, if_pos h3, cond_true, pev_add, pev_sc]; omega
      · have hb : Nat.beq p Q = false := by rw [← Bool.not_eq_true]; intro h; exact h3 (Nat.eq_of_beq_eq_true h)
        rw [hb, if_neg h3, cond_false]; omega
theorem subP_ev {e : Poly} {M : PMat} {n : Nat} : ∀ P, (subP e M n P).length = P ∧ ∀ p q, p < P → q < n → pev (vals a) (entP (subP e M n P) p q) = pev (vals a) (entP M p q) - if p = q then pev (vals a) e else 0
  | 0 => ⟨rfl, fun p q hp => by omega⟩
  | P + 1 => by
    obtain ⟨g1, g2⟩ := subP_ev (e := e) (M := M) (n := n) P
    have e0 : subP e M n (P + 1) = subP e M n P ++ [rowS e (M.getD P []) P n] := rfl
    refine ⟨by rw [e0]; simp [g1], fun p q hp hq => ?_⟩
    show pev _ (((subP e M n (P + 1)).getD p []).getD q []) = _
    rw [e0, getD_snoc, g1]
    by_cases h : p < P
    · rw [if_pos h]; exact g2 p q h hq
    · have h2 : p = P := by omega
      rw [if_neg h, if_pos h2, h2]
      exact (rowS_ev n).2 q hq
theorem oneP_ev {n : Nat} : ∀ P, (oneP n P).length = P ∧ ∀ p q, p < P → q < n → pev (vals a) (entP (oneP n P) p q) = if p = q then 1 else 0
  | 0 => ⟨rfl, fun p q hp => by omega⟩
  | P + 1 => by
    obtain ⟨g1, g2⟩ := oneP_ev (n := n) P
    have e0 : oneP n (P + 1) = oneP n P ++ [(List.range n).map fun q => cond (Nat.beq P q) [(0, 1)] []] := rfl
    refine ⟨by rw [e0]; simp [g1], fun p q hp hq => ?_⟩
    show pev _ (((oneP n (P + 1)).getD p []).getD q []) = _
    rw [e0, getD_snoc, g1]
    by_cases h : p < P
    · rw [if_pos h]; exact g2 p q h hq
    · have h2 : p = P := by omega
      rw [if_neg h, if_pos h2, h2]
      have e1 : ((List.range n).map fun q => cond (Nat.beq P q) [((0 : Nat), (1 : Int))] []).getD q [] = cond (Nat.beq P q) [(0, 1)] [] := by simp [List.getD, hq]
      rw [e1]
      by_cases h3 : P = q
      · rw [if_pos h3, h3, Nat.beq_refl, cond_true]; exact pev_one _
      · have hb : Nat.beq P q = false := by rw [← Bool.not_eq_true]; intro h; exact h3 (Nat.eq_of_beq_eq_true h)
        rw [if_neg h3, hb]; rfl
theorem beqP_eq : ∀ {x y : Poly}, beqP x y = true → x = y
  | [], [], _ => rfl
  | (k, c) :: x, (l, d) :: y, h => by
    simp only [beqP, Bool.and_eq_true] at h
    obtain ⟨h1, h2, h3⟩ := h
    rw [Nat.eq_of_beq_eq_true h1, beqP_eq h3]
    have : c = d := by rw [eqI_eq] at h2; simpa using h2
    rw [this]
theorem stepP_ev {n k : Nat} (hn : n ≤ 6) {M M' : PMat} (hM : ∀ p q, p < n → q < n → pev (vals a) (entP M p q) = flM a n k p q) (h : stepP n k M = some M') :
    (∀ p q, p < n → q < n → pev (vals a) (entP M' p q) = flM a n (k + 1) p q) ∧ sumZ (fun p => sumZ (fun t => a p t * flM a n k t p) n) n = ((k + 1 : Nat) : Int) * coZ a n (k + 1) := by
  unfold stepP at h
  cases h1 : mulP M n n with
  | none => rw [h1] at h; cases h
  | some M1 =>
    rw [h1] at h
    cases h2 : coP n (k + 1) (2 ^ n) with
    | none => rw [h2] at h; cases h
    | some e =>
      rw [h2] at h
      have he := coP_ev (a := a) hn _ h2
      obtain ⟨-, g2⟩ := mulP_ev (a := a) hn n (Nat.le_refl _) h1
      have g3 : ∀ p q, p < n → q < n → pev (vals a) (entP M1 p q) = sumZ (fun t => a p t * flM a n k t q) n := fun p q hp hq => by
        rw [g2 p q hp hq]
        exact sumZ_congr n fun t ht => by rw [hM t q ht hq]
      cases h3 : beqP (trP M1 n) (psc (.ofNat (k + 1)) e) with
      | false => simp only [h3] at h; cases h
      | true =>
        simp only [h3, cond_true] at h
        cases h
        refine ⟨fun p q hp hq => ?_, ?_⟩
        · rw [(subP_ev n).2 p q hp hq, g3 p q hp hq, he]
          rfl
        · have h4 := congrArg (pev (vals a)) (beqP_eq h3)
          rw [trP_ev, pev_sc, he] at h4
          rw [← sumZ_congr n fun p hp => g3 p p hp hp]
          exact h4
theorem runP_ev {n : Nat} (hn : n ≤ 6) : ∀ (k : Nat) {M : PMat}, runP n k = some M → (∀ p q, p < n → q < n → pev (vals a) (entP M p q) = flM a n k p q) ∧ ∀ j, j < k → sumZ (fun p => sumZ (fun t => a p t * flM a n j t p) n) n = ((j + 1 : Nat) : Int) * coZ a n (j + 1)
  | 0, M, h => by cases h; exact ⟨fun p q hp hq => (oneP_ev n).2 p q hp hq, fun j hj => by omega⟩
  | k + 1, M, h => by
    change (match runP n k with | some M => stepP n k M | none => none) = some M at h
    cases h1 : runP n k with
    | none => rw [h1] at h; cases h
    | some M0 =>
      rw [h1] at h
      obtain ⟨g1, g2⟩ := runP_ev hn k h1
      obtain ⟨g3, g4⟩ := stepP_ev hn g1 h
      refine ⟨g3, fun j hj => ?_⟩
      by_cases e : j < k
      · exact g2 j e
      · have e2 : j = k := by omega
        rw [e2]; exact g4
theorem chk_ev {n : Nat} (hn : n ≤ 6) (h : chkP n = true) : (∀ j, j < n → sumZ (fun p => sumZ (fun t => a p t * flM a n j t p) n) n = ((j + 1 : Nat) : Int) * coZ a n (j + 1)) ∧ ∀ p q, p < n → q < n → flM a n n p q = 0 := by
  unfold chkP at h
  cases h1 : runP n n with
  | none => rw [h1] at h; cases h
  | some M =>
    rw [h1] at h
    obtain ⟨g1, g2⟩ := runP_ev (a := a) hn n h1
    refine ⟨g2, fun p q hp hq => ?_⟩
    rw [← g1 p q hp hq]
    have h2 : zeroP M = true := h
    have : entP M p q = [] := by
      unfold zeroP at h2
      rw [List.all_eq_true] at h2
      unfold entP
      rw [List.getD_eq_getElem?_getD (l := M)]
      cases e1 : M[p]? with
      | none => rfl
      | some r =>
        have h3 := h2 r (List.mem_of_getElem? e1)
        rw [List.all_eq_true] at h3
        show r.getD q [] = []
        rw [List.getD_eq_getElem?_getD]
        cases e2 : r[q]? with
        | none => rfl
        | some x =>
          have := h3 x (List.mem_of_getElem? e2)
          simpa using this
    rw [this]; rfl
theorem FL (a : Nat → Nat → Int) {n : Nat} (h1 : 1 ≤ n) (h6 : n ≤ 6) : (∀ j, j < n → sumZ (fun p => sumZ (fun t => a p t * flM a n j t p) n) n = ((j + 1 : Nat) : Int) * coZ a n (j + 1)) ∧ ∀ p q, p < n → q < n → flM a n n p q = 0 := by
  refine chk_ev h6 ?_
  match n, h1, h6 with
  | 1, _, _ => exact chk1
  | 2, _, _ => exact chk2
  | 3, _, _ => exact chk3
  | 4, _, _ => exact chk4
  | 5, _, _ => exact chk5
  | 6, _, _ => exact chk6
end
end Go.Proofs.Ytfohppnelbbepaa.T
/- Bounds -/
open Go.Vm
set_option linter.unusedVariables false
set_option linter.unusedSectionVars false
namespace Go.Proofs.Ytfohppnelbbepaa.T
open Go
variable [Ovr]
section
def aM (z : List (List UInt8)) : Nat → Nat → Int := fun p q => (((z.getD q []).count (UInt8.ofNat (97 + p)) : Nat) : Int)
theorem aM_bd {z : List (List UInt8)} (hz : VOk z) {p q : Nat} (hq : q < z.length) : 0 ≤ aM z p q ∧ aM z p q ≤ 8 := by
  have h1 := hz.h8 q hq
  have h2 : (z.getD q []).count (UInt8.ofNat (97 + p)) ≤ (z.getD q []).length := List.count_le_length
  unfold aM
  omega
def Bd (B x : Int) : Prop := -B ≤ x ∧ x ≤ B
theorem Bd.mul {B a x : Int} (ha : 0 ≤ a ∧ a ≤ 8) (h : Bd B x) : Bd (8 * B) (a * x) := by
  have hB : 0 ≤ B := by have := h.1; have := h.2; omega
  have h1 : a * x ≤ a * B := Int.mul_le_mul_of_nonneg_left h.2 ha.1
  have h2 : a * B ≤ 8 * B := Int.mul_le_mul_of_nonneg_right ha.2 hB
  have h3 : a * (-B) ≤ a * x := Int.mul_le_mul_of_nonneg_left h.1 ha.1
  rw [Int.mul_neg] at h3
  exact ⟨by omega, by omega⟩
theorem sumZ_bd {B : Int} (hB : 0 ≤ B) {f : Nat → Int} : ∀ n, (∀ i, i < n → Bd B (f i)) → Bd (n * B) (sumZ f n)
  | 0, _ => by show Bd _ 0; unfold Bd; omega
  | n + 1, h => by
    have h1 := sumZ_bd hB n fun i hi => h i (by omega)
    have h2 := h n (by omega)
    have e : ((n + 1 : Nat) : Int) * B = n * B + B := by rw [show ((n + 1 : Nat) : Int) = n + 1 by omega, Int.add_mul, Int.one_mul]
    show Bd _ (sumZ f n + f n)
    unfold Bd at h1 h2 ⊢
    rw [e]
    omega
theorem Bd.le {B C x : Int} (h : Bd B x) (hBC : B ≤ C) : Bd C x := ⟨by have := h.1; omega, by have := h.2; omega⟩
theorem sum6_bd {B : Int} (hB : 0 ≤ B) {f : Nat → Int} {n : Nat} (hn : n ≤ 6) (h : ∀ i, i < n → Bd B (f i)) : Bd (6 * B) (sumZ f n) :=
  (sumZ_bd hB n h).le (Int.mul_le_mul_of_nonneg_right (by omega) hB)
theorem p400 (k : Nat) : (0 : Int) ≤ 400 ^ k := Int.pow_nonneg (by decide)
theorem flM_bd {z : List (List UInt8)} (hz : VOk z) : ∀ k, k ≤ 6 → (∀ p q, p < z.length → q < z.length → Bd (400 ^ k) (flM (aM z) z.length k p q)) ∧ (k < 6 → k < z.length → Bd (288 * 400 ^ k) (coZ (aM z) z.length (k + 1)))
  | 0, _ => by
    have hn := hz.h6
    have h0 : ∀ p q, p < z.length → q < z.length → Bd (400 ^ 0) (flM (aM z) z.length 0 p q) := fun p q _ _ => by
      show Bd _ (if p = q then 1 else 0)
      unfold Bd
      split <;> simp
    refine ⟨h0, fun _ hk => ?_⟩
    have hs : ∀ p q, p < z.length → q < z.length → Bd (48 * 400 ^ 0) (sumZ (fun t => aM z p t * flM (aM z) z.length 0 t q) z.length) := fun p q hp hq => by
      have := sum6_bd (B := 8 * 400 ^ 0) (by decide) hn fun t ht => (h0 t q ht hq).mul (aM_bd hz (p := p) ht)
      exact this.le (by omega)
    have ht := sum6_bd (B := 48 * 400 ^ 0) (by decide) hn fun p hp => hs p p hp hp
    have h2 := (FL (aM z) hz.h1 hz.h6).1 0 hk
    rw [h2] at ht
    unfold Bd at ht ⊢
    omega
  | k + 1, hk => by
    have hn := hz.h6
    obtain ⟨g1, -⟩ := flM_bd hz k (by omega)
    obtain ⟨B, hB⟩ : ∃ B : Int, B = 400 ^ k := ⟨_, rfl⟩
    have hB0 : 0 ≤ B := by rw [hB]; exact p400 k
    have e : (400 : Int) ^ (k + 1) = 400 * B := by rw [Int.pow_succ, ← hB, Int.mul_comm]
    rw [← hB] at g1
    have hs : ∀ p q, p < z.length → q < z.length → Bd (48 * B) (sumZ (fun t => aM z p t * flM (aM z) z.length k t q) z.length) := fun p q hp hq => by
      have := sum6_bd (B := 8 * B) (by omega) hn fun t ht => (g1 t q ht hq).mul (aM_bd hz (p := p) ht)
      exact this.le (by omega)
    have h1 : ∀ p q, p < z.length → q < z.length → Bd (400 ^ (k + 1)) (flM (aM z) z.length (k + 1) p q) := fun p q hp hq => by
      have hc : p = q → Bd (288 * B) (coZ (aM z) z.length (k + 1)) := fun e => by
        have hkn : k < z.length ∨ z.length ≤ k := by omega
        have ht := sum6_bd (B := 48 * B) (by omega) hn fun p hp => hs p p hp hp
        rcases hkn with hkn | hkn
        · have h2 := (FL (aM z) hz.h1 hz.h6).1 k hkn
          rw [h2] at ht
          obtain ⟨c, hcc⟩ : ∃ c, c = coZ (aM z) z.length (k + 1) := ⟨_, rfl⟩
          rw [← hcc] at ht ⊢
          unfold Bd at ht ⊢
          have : k = 0 ∨ k = 1 ∨ k = 2 ∨ k = 3 ∨ k = 4 ∨ k = 5 := by omega
          rcases this with rfl | rfl | rfl | rfl | rfl | rfl <;> omega
        · have h0 : coZ (aM z) z.length (k + 1) = 0 := by
            have hl : ∀ s m, (subs s m).length ≤ m := fun s m => by
              induction m with
              | zero => exact Nat.le_refl _
              | succ m ih => unfold subs; rw [List.length_append]; cases Nat.beq (s / 2 ^ m % 2) 1 <;> simp <;> omega
            have : ∀ m, eZ (aM z) z.length (k + 1) m = 0 := fun m => by
              induction m with
              | zero => rfl
              | succ m ih =>
                show eZ (aM z) z.length (k + 1) m + cond (Nat.beq (subs m z.length).length (k + 1)) _ 0 = 0
                have hb : Nat.beq (subs m z.length).length (k + 1) = false := by
                  rw [← Bool.not_eq_true]; intro h
                  have := Nat.eq_of_beq_eq_true h
                  have := hl m z.length
                  omega
                rw [ih, hb]; rfl
            exact this _
          rw [h0]; unfold Bd; omega
      have h3 := hs p q hp hq
      show Bd _ (sumZ _ _ - if p = q then _ else 0)
      rw [e]
      by_cases h : p = q
      · have := hc h
        rw [if_pos h]
        unfold Bd at h3 this ⊢
        omega
      · rw [if_neg h]
        unfold Bd at h3 ⊢
        omega
    refine ⟨h1, fun hk6 hkn => ?_⟩
    obtain ⟨C, hC⟩ : ∃ C : Int, C = 400 ^ (k + 1) := ⟨_, rfl⟩
    have hC0 : 0 ≤ C := by rw [hC]; exact p400 _
    rw [← hC] at h1 ⊢
    have hs2 : ∀ p q, p < z.length → q < z.length → Bd (48 * C) (sumZ (fun t => aM z p t * flM (aM z) z.length (k + 1) t q) z.length) := fun p q hp hq => by
      have := sum6_bd (B := 8 * C) (by omega) hn fun t ht => (h1 t q ht hq).mul (aM_bd hz (p := p) ht)
      exact this.le (by omega)
    have ht := sum6_bd (B := 48 * C) (by omega) hn fun p hp => hs2 p p hp hp
    have h2 := (FL (aM z) hz.h1 hz.h6).1 (k + 1) hkn
    rw [h2] at ht
    obtain ⟨c, hcc⟩ : ∃ c, c = coZ (aM z) z.length (k + 1 + 1) := ⟨_, rfl⟩
    rw [← hcc] at ht ⊢
    unfold Bd at ht ⊢
    have : k = 0 ∨ k = 1 ∨ k = 2 ∨ k = 3 ∨ k = 4 := by omega
    rcases this with rfl | rfl | rfl | rfl | rfl <;> omega
theorem p400_le {k : Nat} (hk : k ≤ 6) : (400 : Int) ^ k ≤ 4096000000000000 := by
  have : k = 0 ∨ k = 1 ∨ k = 2 ∨ k = 3 ∨ k = 4 ∨ k = 5 ∨ k = 6 := by omega
  rcases this with rfl | rfl | rfl | rfl | rfl | rfl | rfl <;> decide
def cellI (x : List (List Int)) (p q : Nat) : Int := (x.getD p []).getD q 0
def DimI (n : Nat) (y : List (List Int)) : Prop := y.length = n ∧ ∀ t, t < n → (y.getD t []).length = n
theorem DimI.cell {n : Nat} {y : List (List Int)} (d : DimI n y) {p q : Nat} (hp : p < n) (hq : q < n) : (y.getD p [])[q]? = some (cellI y p q) := by
  have h3 : q < (y.getD p []).length := by rw [d.2 p hp]; exact hq
  unfold cellI
  rw [List.getElem?_eq_getElem h3, List.getD_eq_getElem?_getD (l := y.getD p []), List.getElem?_eq_getElem h3]
  rfl
theorem DimI.row {n : Nat} {y : List (List Int)} (d : DimI n y) {p : Nat} (hp : p < n) : y[p]? = some (y.getD p []) := by
  have h1 : p < y.length := by rw [d.1]; exact hp
  simp [List.getD, h1]
theorem DimI.set {n : Nat} {y : List (List Int)} (d : DimI n y) {r c : Nat} (hr : r < n) (b : Int) : DimI n (setM y r c b) := ⟨by rw [setM_len, d.1], fun t ht => by rw [setM_rlen (by rw [d.1]; exact hr), d.2 t ht]⟩
theorem DimI.cell_set {n : Nat} {y : List (List Int)} (d : DimI n y) {r c p q : Nat} (hr : r < n) (hc : c < n) (b : Int) : cellI (setM y r c b) p q = if p = r ∧ q = c then b else cellI y p q := by
  unfold cellI
  rw [setM_row (by rw [d.1]; exact hr)]
  by_cases e : p = r
  · subst e
    rw [if_pos rfl, List.getD_eq_getElem?_getD, List.getElem?_set]
    by_cases e2 : c = q
    · subst e2
      rw [if_pos rfl, if_pos (by rw [d.2 p hr]; exact hc), if_pos ⟨rfl, rfl⟩]; rfl
    · rw [if_neg e2, if_neg (fun e => e2 e.2.symm), ← List.getD_eq_getElem?_getD]
  · rw [if_neg e, if_neg (fun e2 => e e2.1)]
theorem DimI.mem {n : Nat} {y : List (List Int)} (d : DimI n y) : ∀ r ∈ y, r.length = n := fun r hr => by
  obtain ⟨t, ht, rfl⟩ := List.getElem_of_mem hr
  have := d.2 t (by rw [← d.1]; exact ht)
  simpa [List.getD, ht] using this
theorem mat79_dim (z : List (List UInt8)) : DimI z.length (mat79 z) := ⟨by simp [mat79], fun t ht => by simp [mat79, List.getD, ht]⟩
theorem mat79_cell {z : List (List UInt8)} {p q : Nat} (hp : p < z.length) (hq : q < z.length) : cellI (mat79 z) p q = aM z p q := by
  simp [cellI, mat79, List.getD, hp, hq, aM, cI]
theorem prod82_cell {xa xb : List (List Int)} {p q : Nat} (hp : p < xa.length) (hq : q < (xb.getD 0 []).length) : cellI (prod82 xa xb) p q = dot82 (xa.getD p []) xb q xb.length := by
  have e : xa.getD p [] = xa[p] := by simp [List.getD, hp]
  have e1 : (prod82 xa xb).getD p [] = (List.range (xb.getD 0 []).length).map fun j => dot82 xa[p] xb j xb.length := by
    unfold prod82
    rw [List.getD_eq_getElem?_getD, List.getElem?_map, List.getElem?_eq_getElem hp]
    rfl
  unfold cellI
  rw [e, e1, List.getD_eq_getElem?_getD, List.getElem?_map, List.getElem?_range hq]
  rfl
theorem prod82_dim {n : Nat} {xa xb : List (List Int)} (h1 : 1 ≤ n) (d1 : DimI n xa) (d2 : DimI n xb) : DimI n (prod82 xa xb) := by
  refine ⟨by simp [prod82, d1.1], fun t ht => ?_⟩
  have e1 : (prod82 xa xb).getD t [] = (List.range (xb.getD 0 []).length).map fun j => dot82 (xa.getD t []) xb j xb.length := by
    unfold prod82
    rw [List.getD_eq_getElem?_getD, List.getElem?_map, d1.row ht]
    rfl
  rw [e1]; simp only [List.length_map, List.length_range]; exact d2.2 0 (by omega)
theorem dot82_eq {row : List Int} {xb : List (List Int)} {j : Nat} {B : Int} (hB0 : 0 ≤ B) (hB : B ≤ 4096000000000000) {f g : Nat → Int} : ∀ k, k ≤ 6 → (∀ t, t < k → row.getD t 0 = f t ∧ 0 ≤ f t ∧ f t ≤ 8) → (∀ t, t < k → cellI xb t j = g t ∧ Bd B (g t)) → dot82 row xb j k = sumZ (fun t => f t * g t) k ∧ Bd (k * (8 * B)) (sumZ (fun t => f t * g t) k)
  | 0, _, _, _ => ⟨rfl, by show Bd _ 0; unfold Bd; omega⟩
  | k + 1, hk, h1, h2 => by
    obtain ⟨i1, i2⟩ := dot82_eq hB0 hB k (by omega) (fun t ht => h1 t (by omega)) (fun t ht => h2 t (by omega))
    obtain ⟨a1, a2, a3⟩ := h1 k (by omega)
    obtain ⟨b1, b2⟩ := h2 k (by omega)
    have h3 := b2.mul ⟨a2, a3⟩
    have i3 := i2.le (show (k : Int) * (8 * B) ≤ 5 * (8 * B) from Int.mul_le_mul_of_nonneg_right (by omega) (by omega))
    have e : ((k + 1 : Nat) : Int) * (8 * B) = k * (8 * B) + 8 * B := by rw [show ((k + 1 : Nat) : Int) = k + 1 by omega, Int.add_mul, Int.one_mul]
    have e1 : dot82 row xb j (k + 1) = plI (dot82 row xb j k) (tmI (row.getD k 0) (cellI xb k j)) := rfl
    have w1 : tmI (f k) (g k) = f k * g k := by
      unfold Bd at h3
      exact wr_id' (by omega) (by omega)
    refine ⟨?_, ?_⟩
    · rw [e1, i1, a1, b1, w1]
      show plI _ _ = sumZ _ k + f k * g k
      unfold Bd at h3 i3
      exact wr_id' (by omega) (by omega)
    · show Bd _ (sumZ _ k + f k * g k)
      unfold Bd at i2 h3 ⊢
      rw [e]; omega
end
end Go.Proofs.Ytfohppnelbbepaa.T
/- one and trace -/
open Go.Vm
set_option linter.unusedVariables false
set_option linter.unusedSectionVars false
namespace Go.Proofs.Ytfohppnelbbepaa.T
open Go
variable [Ovr]
section
variable {ro : List ABlk} {h hp : Heap}
theorem NewM.by {α : Type} {enc : α → AVal} {H H' : Heap} {L : Nat} {w : AVal} {x : List (List α)} (a : NewM enc H L w x) (k : ∀ i, L ≤ i → i < H.length → H'[i]? = H[i]?) : NewM enc H' L w x := by
  obtain ⟨bs, cs, rfl, g1, g2, g3⟩ := a
  refine ⟨bs, cs, rfl, g1.keep (k L (Nat.le_refl _) g1.lt), fun r hr => ?_, g3⟩
  obtain ⟨f1, f2⟩ := g2 r hr
  exact ⟨f1, f2.keep (k _ (by omega) f2.lt)⟩
def oneM (n : Nat) : List (List Int) := (List.range n).map fun p => (List.range n).map fun q => if q = p then (1 : Int) else 0
theorem oneM_dim (n : Nat) : DimI n (oneM n) := ⟨by simp [oneM], fun t ht => by simp [oneM, List.getD, ht]⟩
theorem oneM_cell {n p q : Nat} (hp : p < n) (hq : q < n) : cellI (oneM n) p q = if q = p then 1 else 0 := by simp [cellI, oneM, List.getD, hp, hq]
theorem one81 {n : Nat} (hn : n ≤ 10) : ∃ u H, callX F1 ro 81 [.i .i64 (n : Int)] h = some (u, H, h.length, h.length) ∧ Keep h H ∧ NewM eI H h.length u (oneM n) := by
  obtain ⟨L, hL⟩ : ∃ L, L = h.length := ⟨_, rfl⟩
  have hmk := mk_ok (ro := ro) (hp := h) (e := 111) (es := 1) (bytes := 24) (z := [AVal.nsl]) (n := n) (l := L) (p := L) (by omega) (by omega)
  obtain ⟨H0, hH0⟩ : ∃ H0, H0 = h ++ [some (blkOf 111 (rep [AVal.nsl] n))] := ⟨_, rfl⟩
  rw [← hH0, ← hL] at hmk
  have k0 : Keep h H0 := by rw [hH0]; exact Keep.app _
  have l0 : H0.length = L + 1 := by rw [hH0, hL]; simp
  obtain ⟨cell, hcell⟩ : ∃ cell : Nat → Nat → AVal, cell = fun i r => if r < i then .sl ⟨false, L + 1 + r, 0⟩ n (.known n) else .nsl := ⟨_, rfl⟩
  have ho0 : Holds H0 L ((List.range n).map (cell 0)) := by
    have := Holds.new h 111 (rep [AVal.nsl] n)
    rw [← hH0, ← hL, rep_repl] at this
    have e : (List.range n).map (cell 0) = List.replicate n .nsl := by
      refine List.ext_getElem? fun i => ?_
      rcases Nat.lt_or_ge i n with hi | hi
      · simp [hcell, hi]
      · rw [List.getElem?_eq_none (by simpa using hi), List.getElem?_eq_none (by simpa using hi)]
    rw [e]; exact this
  obtain ⟨row, hrow⟩ : ∃ row : Nat → List AVal, row = fun r => (List.range n).map fun q => eI (if q = r then (1 : Int) else 0) := ⟨_, rfl⟩
  have key : ∃ r, loopX (fun s : Int × Mm => g81_b0 (meansX F1 ro) ro (n : Int) (.sl ⟨false, L, 0⟩ n (.known n)) (n : Int) s.1 s.2) (0, ⟨H0, L, L⟩) = some r ∧ ∃ K, r = ⟨K, L, L⟩ ∧ (Keep h K ∧ K.length = L + 1 + n ∧ Holds K L ((List.range n).map (cell n)) ∧ ∀ r, r < n → Holds K (L + 1 + r) (row r)) := by
    refine loop_gen n (fun i s => ∃ K, s = ((i : Int), ⟨K, L, L⟩) ∧ (Keep h K ∧ K.length = L + 1 + i ∧ Holds K L ((List.range n).map (cell i)) ∧ ∀ r, r < i → Holds K (L + 1 + r) (row r))) _ ?_ ?_ n 0 _ (by omega) ⟨H0, rfl, k0, by omega, ho0, fun r hr => by omega⟩
    · rintro i s hi ⟨K, rfl, kK, lK, hK, rK⟩
      have hm2 := mk_ok (ro := ro) (hp := K) (e := 106) (es := 1) (bytes := 8) (z := [(AVal.i IntKind.i64 0)]) (n := n) (l := L) (p := L) (by omega) (by omega)
      obtain ⟨K1, hK1⟩ : ∃ K1, K1 = K ++ [some (blkOf 106 (rep [(AVal.i IntKind.i64 0)] n))] := ⟨_, rfl⟩
      rw [← hK1] at hm2
      have l1 : K1.length = L + 1 + i + 1 := by rw [hK1]; simp [lK]
      have kk1 : Keep K K1 := by rw [hK1]; exact Keep.app _
      have hnew : Holds K1 (L + 1 + i) ((List.range n).map fun _ => (AVal.i IntKind.i64 0)) := by
        have := Holds.new K 106 (rep [(AVal.i IntKind.i64 0)] n)
        rw [← hK1, lK, rep_repl] at this
        have e : (List.range n).map (fun _ => (AVal.i IntKind.i64 0)) = List.replicate n (AVal.i IntKind.i64 0) := by simp [List.map_const']
        rw [e]; exact this
      obtain ⟨K2, s2, h2, n2, o2⟩ := (hK.by kk1).put (ro := ro) (k := i) (w := .sl ⟨false, K.length, 0⟩ n (.known n)) (by simp [hi]) rfl rfl
      have hnp : nonp [AVal.sl ⟨false, K.length, 0⟩ n (.known n)] = false := rfl
      have s2' := s2 L L
      rw [hnp, cond_false, Nat.min_self] at s2'
      have hcs : ((List.range n).map (cell i)).set i (.sl ⟨false, K.length, 0⟩ n (.known n)) = (List.range n).map (cell (i + 1)) := by
        refine setF (fun t ht hne => ?_) fun _ => ?_
        · simp only [hcell]
          by_cases e2 : t < i
          · rw [if_pos e2, if_pos (by omega)]
          · rw [if_neg e2, if_neg (by omega)]
        · simp only [hcell]
          rw [if_pos (by omega), lK]
      rw [hcs] at h2
      have hrow2 : Holds K2 (L + 1 + i) ((List.range n).map fun _ => (AVal.i IntKind.i64 0)) := hnew.keep (o2 _ (by omega))
      have hcell2 : ((List.range n).map (cell (i + 1)))[i]? = some (.sl ⟨false, L + 1 + i, 0⟩ n (.known n)) := by simp [hcell, hi]
      obtain ⟨m1, -⟩ := h2.ld (ro := ro) hcell2 L L
      obtain ⟨K3, s3, h3, n3, o3⟩ := hrow2.put (ro := ro) (k := i) (w := eI 1) (by simp [hi]) rfl rfl
      have s3' := s3 L L
      rw [show nonp [eI 1] = true from rfl, cond_true, show min L (L + 1 + i) = L by omega] at s3'
      have s3'' : stepM ro ⟨K2, L, L⟩ (.st 1 (.c (.p (some ⟨false, L + 1 + i, 0 + i⟩))) (.c (.i .i64 1))) = some (und, ⟨K3, L, L⟩) := s3'
      have hrs : ((List.range n).map fun _ => (AVal.i IntKind.i64 0)).set i (eI 1) = row i := by
        rw [hrow]
        refine setF (fun t ht hne => ?_) fun _ => ?_
        · rw [if_neg hne]
        · rw [if_pos rfl]
      rw [hrs] at h3
      refine ⟨_, (by simp only [g81_b0, fB, ltT (show (i : Int) < (n : Int) by omega), cT, hm2, pS, ixS_eq (show i < n from hi), s2', oS, m1, s3'', fI', nx (show i ≤ 1000000 by omega)] <;> rfl), K3, rfl, ⟨by have := kK.1; omega, fun t ht => by rw [o3 t (by omega), o2 t (by omega), kk1.2 t (by have := kK.1; omega), kK.2 t ht]⟩, by omega, h2.keep (o3 L (by omega)), fun r hr => ?_⟩
      by_cases e : r = i
      · subst e; exact h3
      · exact (rK r (by omega)).keep (by rw [o3 _ (by omega), o2 _ (by omega), kk1.2 _ (by omega)])
    · rintro s ⟨K, rfl, ho⟩
      exact ⟨_, (by simp only [g81_b0, fB, ltF (Int.lt_irrefl _), cF] <;> rfl), K, rfl, ho⟩
  obtain ⟨r, l1, K, rfl, kK, lK, hK, rK⟩ := key
  obtain ⟨H, f1, f2, f3⟩ := fin_any (w := .sl ⟨false, L, 0⟩ n (.known n)) kK
  have hbel : (AVal.sl ⟨false, L, 0⟩ n (.known n)).bel h.length = false := by
    have : Nat.blt L h.length = false := by rw [← Bool.not_eq_true, Nat.blt_eq]; omega
    simp [AVal.bel, this]
  obtain rfl := f3 hbel
  refine ⟨_, _, g81_ok (meansX_ok F1 ro) (Ovr.no rfl) (?_ : _ = some (.sl ⟨false, L, 0⟩ n (.known n), H, h.length, h.length)), kK, ?_⟩
  · unfold g81
    simp only [← hL, hmk, pS, len_sl, oS, iS, meansX_loop, l1, tA]
    rw [← hL] at f1
    exact f1
  · have hxl : (oneM n).length = n := (oneM_dim n).1
    have hxr : ∀ r, r < n → (oneM n).getD r [] = (List.range n).map fun q => if q = r then (1 : Int) else 0 := fun r hr => by simp [oneM, List.getD, hr]
    refine ⟨fun r => L + 1 + r, fun _ => .known n, by rw [hxl, hL], ?_, fun r hr => ?_, fun r r' hr hr' e => by have e2 : L + 1 + r = L + 1 + r' := e; omega⟩
    · have e : ((List.range (oneM n).length).map fun r => AVal.sl ⟨false, L + 1 + r, 0⟩ ((oneM n).getD r []).length (.known n)) = (List.range n).map (cell n) := by
        rw [hxl]
        refine List.map_congr_left fun r hr => ?_
        have hr' := List.mem_range.1 hr
        rw [hxr r hr', hcell]
        simp [hr']
      rw [e, ← hL]; exact hK
    · rw [hxl] at hr
      rw [hxr r hr, ← hL]
      refine ⟨by show L < L + 1 + r; omega, ?_⟩
      have := rK r hr
      rw [hrow] at this
      rw [List.map_map]
      exact this
theorem trace83 {w : AVal} {x : List (List Int)} {n : Nat} (hn : n ≤ 10) (M : IsM eI ro h w x) (d : DimI n x) {B : Int} (hB0 : 0 ≤ B) (hB : B ≤ 500000000000000000) (hb : ∀ p, p < n → Bd B (cellI x p p)) :
    callX F1 ro 83 [w] h = some (.i .i64 (sumZ (fun p => cellI x p p) n), h, h.length, h.length) := by
  refine g83_ok (meansX_ok F1 ro) (Ovr.no rfl) ?_
  unfold g83
  have hl := len_M M
  rw [d.1] at hl
  have hbd : ∀ i, i ≤ n → Bd (i * B) (sumZ (fun p => cellI x p p) i) := fun i hi => sumZ_bd hB0 i fun p hp => hb p (by omega)
  have key : ∃ r, loopX (fun s : Int × Int => g83_b0 (meansX F1 ro) ro w (n : Int) ⟨h, h.length, h.length⟩ s.1 s.2) (0, 0) = some r ∧ r = sumZ (fun p => cellI x p p) n := by
    refine loop_gen n (fun i s => s = (sumZ (fun p => cellI x p p) i, (i : Int))) _ ?_ ?_ n 0 _ (by omega) rfl
    · rintro i s hi rfl
      obtain ⟨p1, u, i1, i2, i3⟩ := at_M M (d.row hi)
      obtain ⟨p2, j1, j2⟩ := at_R i2 (d.cell hi hi)
      have i3' := fun l q => (i3 (hp := h) (l := l) (q := q) (Keep.refl h)).1
      have j2' := fun l q => (j2 (hp := h) (l := l) (q := q) (Keep.refl h)).1
      have h1 := (hbd i (by omega)).le (show (i : Int) * B ≤ 10 * B from Int.mul_le_mul_of_nonneg_right (by omega) hB0)
      have h2 := hb i hi
      have hw : wr .i64 (sumZ (fun p => cellI x p p) i + cellI x i i) = sumZ (fun p => cellI x p p) (i + 1) := by
        unfold Bd at h1 h2
        exact wr_id' (by omega) (by omega)
      exact ⟨_, (by simp only [g83_b0, fB, ltT (show (i : Int) < (n : Int) by omega), cT, i1, oS, i3', j1, j2', eI, iS, hw, fI', nx (show i ≤ 1000000 by omega)] <;> rfl), rfl⟩
    · rintro s rfl
      exact ⟨_, (by simp only [g83_b0, fB, ltF (Int.lt_irrefl _), cF] <;> rfl), rfl⟩
  obtain ⟨r, e1, rfl⟩ := key
  simp only [hl, oS, iS, meansX_loop, e1, tA]
  exact fin_pure rfl
end
end Go.Proofs.Ytfohppnelbbepaa.T
/- Recurrence of the program -/
open Go.Vm
set_option linter.unusedVariables false
set_option linter.unusedSectionVars false
namespace Go.Proofs.Ytfohppnelbbepaa.T
open Go
variable [Ovr]
section
variable {ro : List ABlk} {h hp : Heap}
noncomputable def recL (z : List (List UInt8)) (s : List UInt8) : List Int := if errS z s = 0 then (List.range z.length).map fun j => coZ (aM z) z.length (j + 1) else []
theorem fin_tupL {K : Heap} {b n : Nat} {c : Cap} {t : Int} (k : Keep h K) (hb : h.length ≤ b) : finM h.length (.tup [.sl ⟨false, b, 0⟩ n c, .i .i64 t]) ⟨K, h.length, h.length⟩ = some (.tup [.sl ⟨false, b, 0⟩ n c, .i .i64 t], K, h.length, h.length) := by
  obtain ⟨H, f1, f2, f3⟩ := fin_any (w := .tup [.sl ⟨false, b, 0⟩ n c, .i .i64 t]) k
  have : Nat.blt b h.length = false := by rw [← Bool.not_eq_true, Nat.blt_eq]; omega
  obtain rfl := f3 (by simp [AVal.bel, bels, this])
  exact f1
theorem Holds.rowI {b n : Nat} {c : Cap} {x : List Int} (a : Holds hp b (x.map eI)) (hn : n = x.length) : IsRow ro hp (.sl ⟨false, b, 0⟩ n c) x := by
  subst hn
  obtain ⟨blk, h1, h2, h3⟩ := a
  rw [List.length_map] at h2 h3
  exact .inr ⟨_, _, blk, rfl, rdB_heap h1 0, by show 0 + x.length ≤ blk.n; omega, fun j hj => by rw [Nat.zero_add, h3 j hj, map_getD hj]⟩
set_option maxHeartbeats 1000000 in
theorem rec40 {v : AVal} {z : List (List UInt8)} {s : List UInt8} (a : IsS ro h v z) (hf : z.length ≤ 1000000 ∧ (∀ i, i < z.length → (z.getD i []).length ≤ 1000000) ∧ s.length ≤ 1000000) :
    ∃ w H, callX F1 ro 40 [v, .s s] h = some (.tup [w, .i .i64 (errS z s)], H, h.length, h.length) ∧ Keep h H ∧ IsRow ro H w (recL z s) := by
  have c60 := cp0 (read60 (ro := ro) (s := s) a hf.1 hf.2.1 hf.2.2)
  by_cases hS : errS z s = 0
  rotate_left
  · refine ⟨.nsl, h, g40_ok (meansX_ok F1 ro) (Ovr.no rfl) ?_, Keep.refl _, .inl ⟨rfl, by unfold recL; rw [if_neg hS]⟩⟩
    unfold g40
    simp only [mC, c60, pS, x0, x1, oS, iS, fB, eqI_ne hS, nF, cT, tA2]
    exact fin_pure2 rfl rfl
  have vok := VOk.of (errS_V hS)
  have n1 := vok.h1
  have n6 := vok.h6
  have e0 : eqI (errS z s) 0 = true := by rw [hS]; rfl
  obtain ⟨L, hL⟩ : ∃ L, L = h.length := ⟨_, rfl⟩
  obtain ⟨n, hn⟩ : ∃ n, n = z.length := ⟨_, rfl⟩
  obtain ⟨w1, H1, c1, k1, m1⟩ := matrix79 (ro := ro) a vok.h1 vok.h6 vok.h8
  have q1 := k1.1
  have c1' := cM (l := L) (p := L) c1 (by omega) (by omega)
  have hmk := mk_ok (ro := ro) (hp := H1) (e := 3) (es := 1) (bytes := 8) (z := [(AVal.i IntKind.i64 0)]) (n := n) (l := L) (p := L) (by omega) (by omega)
  obtain ⟨bo, hbo⟩ : ∃ bo, bo = H1.length := ⟨_, rfl⟩
  obtain ⟨H2, hH2⟩ : ∃ H2, H2 = H1 ++ [some (blkOf 3 (rep [(AVal.i IntKind.i64 0)] n))] := ⟨_, rfl⟩
  rw [← hH2, ← hbo] at hmk
  have k2 : Keep H1 H2 := by rw [hH2]; exact Keep.app _
  have l2 : H2.length = bo + 1 := by rw [hH2, hbo]; simp
  obtain ⟨cell, hcell⟩ : ∃ cell : Nat → Nat → AVal, cell = fun i j => eI (if j < i then coZ (aM z) n (j + 1) else 0) := ⟨_, rfl⟩
  have ho2 : Holds H2 bo ((List.range n).map (cell 0)) := by
    have := Holds.new H1 3 (rep [(AVal.i IntKind.i64 0)] n)
    rw [← hH2, ← hbo, rep_repl] at this
    have e : (List.range n).map (cell 0) = List.replicate n (AVal.i IntKind.i64 0) := by simp [hcell, List.map_const']
    rw [e]; exact this
  obtain ⟨w3, H3, c3, k3, m3⟩ := one81 (ro := ro) (h := H2) (n := n) (by omega)
  have q3 := k3.1
  have q2 := k2.1
  have c3' := cM (l := L) (p := L) c3 (by omega) (by omega)
  have key : ∃ r, loopX (fun s : AVal × Int × Mm => g40_b0 (meansX F1 ro) ro w1 (.sl ⟨false, bo, 0⟩ n (.known n)) (n : Int) s.1 s.2.1 s.2.2) (w3, 0, ⟨H3, L, L⟩) = some r ∧ ∃ K, r = ⟨K, L, L⟩ ∧ Keep H1 K ∧ Holds K bo ((List.range n).map (cell n)) := by
    refine loop_gen n (fun i s => ∃ u K x L2, s = (u, (i : Int), ⟨K, L, L⟩) ∧ Keep H1 K ∧ Holds K bo ((List.range n).map (cell i)) ∧ NewM eI K L2 u x ∧ bo < L2 ∧ DimI n x ∧ ∀ p q, p < n → q < n → cellI x p q = flM (aM z) n i p q) _ ?_ ?_ n 0 _ (by omega) ⟨w3, H3, oneM n, H2.length, rfl, k2.trans k3, ho2.by k3, m3, by omega, oneM_dim n, fun p q hp hq => ?_⟩
    · rintro i s hi ⟨u, K, x, L2, rfl, kK, hK, mK, hb2, dx, cx⟩
      have hqK := kK.1
      have hlK := hK.lt
      have M1 := M_by (ro := ro) m1.isM kK
      obtain ⟨d1l, d1r⟩ := mat79_dim z
      have d1 : DimI n (mat79 z) := by rw [hn]; exact mat79_dim z
      obtain ⟨B, hB⟩ : ∃ B : Int, B = 400 ^ i := ⟨_, rfl⟩
      have hB0 : 0 ≤ B := by rw [hB]; exact p400 i
      have hB1 : B ≤ 4096000000000000 := by rw [hB]; exact p400_le (by omega)
      obtain ⟨fb1, fb2⟩ := flM_bd vok i (by omega)
      rw [← hB, ← hn] at fb1 fb2
      have hco := fb2 (by omega) (by omega)
      obtain ⟨w4, K1, c4, k4, m4⟩ := prod82_ok (ro := ro) M1 mK.isM (by rw [d1.1]; omega) (by rw [dx.1]; omega) (by rw [dx.1]; omega) (fun r hr => by rw [dx.1]; exact d1.mem r hr) (m := n) (by omega) dx.mem (fun _ _ _ _ => trivial) (fun _ _ _ _ => trivial)
      have c4' := cM (l := L) (p := L) c4 (by omega) (by omega)
      have q4 := k4.1
      have dP := prod82_dim (show 1 ≤ n by omega) d1 dx
      -- the cells of the product
      have cP : ∀ p q, p < n → q < n → cellI (prod82 (mat79 z) x) p q = sumZ (fun t => aM z p t * flM (aM z) n i t q) n ∧ Bd (48 * B) (sumZ (fun t => aM z p t * flM (aM z) n i t q) n) := fun p q hp hq => by
        rw [prod82_cell (by rw [d1.1]; exact hp) (by rw [dx.2 0 (by omega)]; exact hq), dx.1]
        obtain ⟨g1, g2⟩ := dot82_eq (row := (mat79 z).getD p []) (xb := x) (j := q) hB0 hB1 (f := fun t => aM z p t) (g := fun t => flM (aM z) n i t q) n (by omega)
          (fun t ht => ⟨mat79_cell (by omega) (by omega), aM_bd vok (by omega)⟩) (fun t ht => ⟨cx t q ht hq, fb1 t q ht hq⟩)
        exact ⟨g1, g2.le (by have : (n : Int) * (8 * B) ≤ 6 * (8 * B) := Int.mul_le_mul_of_nonneg_right (by omega) (by omega); omega)⟩
      have ct := trace83 (ro := ro) (n := n) (by omega) m4.isM dP (B := 48 * B) (by omega) (by omega) (fun p hp => by rw [(cP p p hp hp).1]; exact (cP p p hp hp).2)
      have ht : sumZ (fun p => cellI (prod82 (mat79 z) x) p p) n = ((i + 1 : Nat) : Int) * coZ (aM z) n (i + 1) := by
        rw [sumZ_congr n fun p hp => (cP p p hp hp).1, hn]
        exact (FL (aM z) n1 n6).1 i (by omega)
      rw [ht] at ct
      have ct' := cp (l := L) (p := L) ct (by omega) (by omega)
      obtain ⟨c, hc⟩ : ∃ c, c = coZ (aM z) n (i + 1) := ⟨_, rfl⟩
      rw [← hc] at ct' hco
      have hdiv : Int.tdiv (((i + 1 : Nat) : Int) * c) ((i + 1 : Nat) : Int) = c := Int.mul_tdiv_cancel_left _ (by omega)
      have hwc : wr .i64 c = c := by unfold Bd at hco; exact wr_id' (by omega) (by omega)
      have hne : (!eqI (((i + 1 : Nat) : Int)) (.ofNat 0)) = true := by rw [eqI_ne (by show ((i + 1 : Nat) : Int) ≠ 0; omega)]; rfl
      have hl4 := len_M (ro := ro) m4.isM
      rw [dP.1] at hl4
      have hlk1 : L ≤ K.length := by omega
      have inner : ∃ r, loopX (fun s : Int × Mm => g40_b1 (meansX F1 ro) ro w1 (.sl ⟨false, bo, 0⟩ n (.known n)) w4 (i : Int) c (n : Int) (n : Int) s.1 s.2) (0, ⟨K1, L, L⟩) = some r ∧ ∃ J y, r = ⟨J, L, L⟩ ∧ J.length = K1.length ∧ (∀ t, t ≤ K.length → J[t]? = K1[t]?) ∧ NewM eI J K.length w4 y ∧ DimI n y ∧ ∀ p q, p < n → q < n → cellI y p q = cellI (prod82 (mat79 z) x) p q - if p = q ∧ p < n then c else 0 := by
        refine loop_gen n (fun t s => ∃ J y, s = ((t : Int), ⟨J, L, L⟩) ∧ J.length = K1.length ∧ (∀ t, t ≤ K.length → J[t]? = K1[t]?) ∧ NewM eI J K.length w4 y ∧ DimI n y ∧ ∀ p q, p < n → q < n → cellI y p q = cellI (prod82 (mat79 z) x) p q - if p = q ∧ p < t then c else 0) _ ?_ ?_ n 0 _ (by omega) ⟨K1, _, rfl, rfl, fun _ _ => rfl, m4, dP, fun p q _ _ => by rw [if_neg (by omega)]; omega⟩
        · rintro t s ht' ⟨J, y, rfl, lJ, oJ, mJ, dy, cy⟩
          have hcy := cy t t ht' ht'
          rw [if_neg (by omega), (cP t t ht' ht').1] at hcy
          have hb3 := (cP t t ht' ht').2
          obtain ⟨P, hP⟩ : ∃ P, P = sumZ (fun s => aM z t s * flM (aM z) n i s t) n := ⟨_, rfl⟩
          rw [← hP] at hcy hb3
          have hw : wr .i64 (cellI y t t - c) = cellI y t t - c := by
            unfold Bd at hb3 hco
            exact wr_id' (by omega) (by omega)
          obtain ⟨p1, u1, p2, J', i1, i2, i3, i4, i5, i6, i7, i8⟩ := mJ.put (ro := ro) (r := t) (c := t) (y := cellI y t t - c) (by rw [dy.1]; exact ht') (dy.cell ht' ht') rfl rfl rfl
          refine ⟨_, (by simp only [g40_b1, fB, ltT (show (t : Int) < (n : Int) by omega), cT, i1, oS, i2, i3, i4, eI, iS, hw, fI', i5 L L hlk1, pS, nx (show t ≤ 1000000 by omega)] <;> rfl), J', _, rfl, by omega, fun j hj => by rw [i8 j hj, oJ j hj], i6, dy.set ht' _, fun p q hp hq => ?_⟩
          rw [dy.cell_set ht' ht']
          by_cases e : p = t ∧ q = t
          · obtain ⟨rfl, rfl⟩ := e
            have := cy _ _ ht' ht'
            rw [if_neg (by omega)] at this
            rw [if_pos ⟨rfl, rfl⟩, if_pos ⟨rfl, by omega⟩, this]; omega
          · rw [if_neg e, cy p q hp hq]
            by_cases e2 : p = q ∧ p < t
            · rw [if_pos e2, if_pos ⟨e2.1, by omega⟩]
            · rw [if_neg e2, if_neg (by omega)]
        · rintro s ⟨J, y, rfl, lJ, oJ, mJ, dy, cy⟩
          exact ⟨_, (by simp only [g40_b1, fB, ltF (Int.lt_irrefl _), cF] <;> rfl), J, y, rfl, lJ, oJ, mJ, dy, cy⟩
      obtain ⟨r, l1, J, y, rfl, lJ, oJ, mJ, dy, cy⟩ := inner
      have hJo : Holds J bo ((List.range n).map (cell i)) := (hK.by k4).keep (oJ bo (by omega))
      obtain ⟨J2, s1, g1, n3, o1⟩ := hJo.put (ro := ro) (k := i) (w := eI c) (by simp [hi]) rfl rfl
      have s1' := s1 L L
      rw [show nonp [eI c] = true from rfl, cond_true, Nat.min_eq_left (show L ≤ bo by omega)] at s1'
      have s1'' : stepM ro ⟨J, L, L⟩ (.st 1 (.c (.p (some ⟨false, bo, 0 + i⟩))) (.c (.i .i64 c))) = some (und, ⟨J2, L, L⟩) := s1'
      rw [setF (g := cell (i + 1))] at g1
      rotate_left
      · intro t ht hne
        simp only [hcell]
        by_cases e2 : t < i
        · rw [if_pos e2, if_pos (by omega)]
        · rw [if_neg e2, if_neg (by omega)]
      · intro _
        simp only [hcell]
        rw [if_pos (by omega), ← hc]
      have nx' := nx (show i ≤ 1000000 by omega)
      refine ⟨_, (by simp only [g40_b0, fB, ltT (show (i : Int) < (n : Int) by omega), cT, mC, c4', pS, ct', iS, nx', fI', hne, ckT, hdiv, hwc, hl4, oS, meansX_loop, l1, ixS_eq (show i < n from hi), s1''] <;> rfl), w4, J2, y, K.length, rfl, ⟨by omega, fun t ht => ?_⟩, g1, mJ.by fun t h1 h2 => o1 t (by omega), by omega, dy, fun p q hp hq => ?_⟩
      · rw [o1 t (by omega), oJ t (by omega), k4.2 t (by omega), kK.2 t ht]
      · rw [cy p q hp hq, (cP p q hp hq).1]
        show _ = sumZ _ n - if p = q then coZ (aM z) n (i + 1) else 0
        rw [← hc]
        by_cases e : p = q
        · rw [if_pos e, if_pos ⟨e, hp⟩]
        · rw [if_neg e, if_neg (fun h => e h.1)]
    · rintro s ⟨u, K, x, L2, rfl, kK, hK, mK, hb2, dx, cx⟩
      exact ⟨_, (by simp only [g40_b0, fB, ltF (Int.lt_irrefl _), cF] <;> rfl), K, rfl, kK, hK⟩
    · rw [oneM_cell hp hq]
      show _ = if p = q then (1 : Int) else 0
      by_cases e : p = q
      · rw [if_pos e, if_pos e.symm]
      · rw [if_neg e, if_neg (fun h => e h.symm)]
  obtain ⟨r, l1, K, rfl, kK, hK⟩ := key
  have khK := k1.trans kK
  have hlS : evP .e (.len false (.c v)) = some (.i .i64 (n : Int)) := by rw [hn]; exact len_S a
  refine ⟨.sl ⟨false, bo, 0⟩ n (.known n), K, g40_ok (meansX_ok F1 ro) (Ovr.no rfl) ?_, khK, ?_⟩
  · unfold g40
    simp only [mC, c60, pS, x0, x1, oS, iS, fB, e0, nT, cF, if_pos hS]
    simp only [← hL, c1', pS, hlS, hmk, c3', len_sl, oS, iS, meansX_loop, l1, tA2]
    rw [hS, hL]
    exact fin_tupL khK (by omega)
  · have e : recL z s = (List.range n).map fun j => coZ (aM z) n (j + 1) := by unfold recL; rw [if_pos hS, hn]
    rw [e]
    refine Holds.rowI ?_ (by simp)
    rw [List.map_map]
    have e2 : (List.range n).map (eI ∘ fun j => coZ (aM z) n (j + 1)) = (List.range n).map (cell n) := by
      refine List.map_congr_left fun j hj => ?_
      simp only [hcell, Function.comp]
      rw [if_pos (List.mem_range.1 hj)]
    rw [e2]; exact hK
end
end Go.Proofs.Ytfohppnelbbepaa.T
/- The determinant -/
open Go.Vm
set_option linter.unusedVariables false
set_option linter.unusedSectionVars false
namespace Go.Proofs.Ytfohppnelbbepaa.T
open Go
variable [Ovr]
section
theorem wr_emod (x : Int) : wr .i64 x = (x + 9223372036854775808) % 18446744073709551616 - 9223372036854775808 := by
  rw [wr_i64]
  have e1 : ((2 : Int) ^ IntKind.i64.bits) = 18446744073709551616 := by decide
  have e2 : ((2 : Int) ^ (IntKind.i64.bits - 1)) = 9223372036854775808 := by decide
  have e3 : IntKind.i64.signed = true := rfl
  unfold IntKind.wrap
  simp only [e1, e2, e3, Bool.true_and, decide_eq_true_eq]
  split <;> omega
theorem wr_addL (a b : Int) : wr .i64 (wr .i64 a + b) = wr .i64 (a + b) := by simp only [wr_emod]; omega
theorem wr_addR (a b : Int) : wr .i64 (a + wr .i64 b) = wr .i64 (a + b) := by simp only [wr_emod]; omega
end
section
variable {ro : List ABlk} {h hp : Heap}
end
end Go.Proofs.Ytfohppnelbbepaa.T
/- Recurrence of the reference -/
open Go.Vm
set_option linter.unusedVariables false
set_option linter.unusedSectionVars false
namespace Go.Proofs.Ytfohppnelbbepaa.T
open Go
variable [Ovr]
section
variable {ro : List ABlk} {h hp : Heap}
def cP (p : Nat) (s : List UInt8) : Nat := s.countP fun b => decide (ix b = p)
end
end Go.Proofs.Ytfohppnelbbepaa.T
/- Law 9 -/
open Go.Vm
set_option linter.unusedVariables false
set_option linter.unusedSectionVars false
namespace Go.Proofs.Ytfohppnelbbepaa.T
open Go
variable [Ovr]
section
variable {ro : List ABlk} {h hp : Heap}
end
end Go.Proofs.Ytfohppnelbbepaa.T
/- Lengths follow from those before -/
open Go.Vm
set_option linter.unusedVariables false
set_option linter.unusedSectionVars false
namespace Go.Proofs.Ytfohppnelbbepaa.T
open Go
variable [Ovr]
section
theorem sumZ_add (f g : Nat → Int) : ∀ n, sumZ (fun i => f i + g i) n = sumZ f n + sumZ g n
  | 0 => rfl
  | n + 1 => by show sumZ _ n + (f n + g n) = (sumZ f n + f n) + (sumZ g n + g n); rw [sumZ_add f g n]; omega
theorem sumZ_sub (f g : Nat → Int) : ∀ n, sumZ (fun i => f i - g i) n = sumZ f n - sumZ g n
  | 0 => rfl
  | n + 1 => by show sumZ _ n + (f n - g n) = (sumZ f n + f n) - (sumZ g n + g n); rw [sumZ_sub f g n]; omega
theorem sumZ_mulL (c : Int) (f : Nat → Int) : ∀ n, sumZ (fun i => c * f i) n = c * sumZ f n
  | 0 => by show 0 = c * 0; simp
  | n + 1 => by show sumZ _ n + c * f n = c * (sumZ f n + f n); rw [sumZ_mulL c f n, Int.mul_add]
theorem sumZ_mulR (c : Int) (f : Nat → Int) (n : Nat) : sumZ (fun i => f i * c) n = sumZ f n * c := by
  rw [Int.mul_comm, ← sumZ_mulL]
  exact sumZ_congr n fun i _ => Int.mul_comm _ _
theorem sumZ_zero : ∀ n, sumZ (fun _ => 0) n = 0
  | 0 => rfl
  | n + 1 => by show sumZ _ n + 0 = 0; rw [sumZ_zero n]; rfl
theorem sumZ_comm (f : Nat → Nat → Int) (m : Nat) : ∀ n, sumZ (fun i => sumZ (fun j => f i j) m) n = sumZ (fun j => sumZ (fun i => f i j) n) m
  | 0 => (sumZ_zero m).symm
  | n + 1 => by
    show sumZ _ n + sumZ (fun j => f n j) m = _
    rw [sumZ_comm f m n, ← sumZ_add]
    rfl
theorem sumZ_one {f : Nat → Int} {p : Nat} {c : Int} : ∀ n, sumZ (fun t => f t * (if t = p then c else 0)) n = if p < n then f p * c else 0
  | 0 => rfl
  | n + 1 => by
    show sumZ _ n + f n * (if n = p then c else 0) = _
    rw [sumZ_one n]
    by_cases e : n = p
    · subst e
      rw [if_neg (Nat.lt_irrefl _), if_pos rfl, if_pos (by omega)]; omega
    · rw [if_neg e]
      by_cases h : p < n
      · rw [if_pos h, if_pos (by omega)]; omega
      · rw [if_neg h, if_neg (by omega)]; omega
theorem sumT_Z (f : Nat → Nat) : ∀ n, ((sumT f n : Nat) : Int) = sumZ (fun i => ((f i : Nat) : Int)) n
  | 0 => rfl
  | n + 1 => by
    show ((sumT f n + f n : Nat) : Int) = sumZ _ n + ((f n : Nat) : Int)
    rw [← sumT_Z f n]; omega
theorem u_step {z : List (List UInt8)} (hz : VOk z) (y : Nat) {p : Nat} (hp : p < z.length) : ((cnt z (y + 1) p : Nat) : Int) = sumZ (fun t => ((cnt z y t : Nat) : Int) * aM z t p) z.length := by
  have e : cnt z (y + 1) p = sumT (fun t => cnt z y t * (z.getD p []).count (lt t)) z.length := (count_sum (by have := hz.h6; omega) (has_mem.1 (hz.hh p hp))).symm
  rw [e, sumT_Z]
  exact sumZ_congr _ fun t _ => by show ((_ * _ : Nat) : Int) = _; rw [Int.natCast_mul]; rfl
def op (n : Nat) (c : Nat → Int) (x : Nat → Int) (y : Nat) : Int := x (y + n) - sumZ (fun i => c i * x (y + (n - 1 - i))) n
theorem u_fl {z : List (List UInt8)} (hz : VOk z) {p : Nat} (hp : p < z.length) : ∀ k y, sumZ (fun t => ((cnt z y t : Nat) : Int) * flM (aM z) z.length k t p) z.length = op k (fun i => coZ (aM z) z.length (i + 1)) (fun y => ((cnt z y p : Nat) : Int)) y
  | 0, y => by
    have : ∀ t, flM (aM z) z.length 0 t p = if t = p then 1 else 0 := fun t => rfl
    rw [sumZ_congr _ fun t _ => by rw [this t], sumZ_one, if_pos hp]
    show _ = _ - (0 : Int)
    rw [Int.mul_one]; simp
  | k + 1, y => by
    obtain ⟨n, hn⟩ : ∃ n, n = z.length := ⟨_, rfl⟩
    have e1 : sumZ (fun t => ((cnt z y t : Nat) : Int) * flM (aM z) z.length (k + 1) t p) z.length = sumZ (fun t => ((cnt z y t : Nat) : Int) * sumZ (fun s => aM z t s * flM (aM z) z.length k s p) z.length) z.length - ((cnt z y p : Nat) : Int) * coZ (aM z) z.length (k + 1) := by
      have : ∀ t, ((cnt z y t : Nat) : Int) * flM (aM z) z.length (k + 1) t p = ((cnt z y t : Nat) : Int) * sumZ (fun s => aM z t s * flM (aM z) z.length k s p) z.length - ((cnt z y t : Nat) : Int) * (if t = p then coZ (aM z) z.length (k + 1) else 0) := fun t => by
        rw [← Int.mul_sub]; rfl
      rw [sumZ_congr _ fun t _ => this t, sumZ_sub, sumZ_one, if_pos hp]
    have e2 : sumZ (fun t => ((cnt z y t : Nat) : Int) * sumZ (fun s => aM z t s * flM (aM z) z.length k s p) z.length) z.length = sumZ (fun s => ((cnt z (y + 1) s : Nat) : Int) * flM (aM z) z.length k s p) z.length := by
      rw [sumZ_congr _ fun t _ => (sumZ_mulL _ _ _).symm, sumZ_comm]
      refine sumZ_congr _ fun s hs => ?_
      rw [u_step hz y hs, ← sumZ_mulR]
      exact sumZ_congr _ fun t _ => (Int.mul_assoc _ _ _).symm
    rw [e1, e2, u_fl hz hp k (y + 1)]
    unfold op
    have e3 : sumZ (fun i => coZ (aM z) z.length (i + 1) * ((cnt z (y + 1 + (k - 1 - i)) p : Nat) : Int)) k = sumZ (fun i => coZ (aM z) z.length (i + 1) * ((cnt z (y + (k + 1 - 1 - i)) p : Nat) : Int)) k := sumZ_congr k fun i hi => by rw [show y + 1 + (k - 1 - i) = y + (k + 1 - 1 - i) by omega]
    show ((cnt z (y + 1 + k) p : Nat) : Int) - _ - _ = ((cnt z (y + (k + 1)) p : Nat) : Int) - (sumZ (fun i => coZ (aM z) z.length (i + 1) * ((cnt z (y + (k + 1 - 1 - i)) p : Nat) : Int)) k + coZ (aM z) z.length (k + 1) * ((cnt z (y + (k + 1 - 1 - k)) p : Nat) : Int))
    rw [e3, show y + (k + 1 - 1 - k) = y by omega, show y + 1 + k = y + (k + 1) by omega, Int.mul_comm (coZ (aM z) z.length (k + 1))]
    omega
theorem op_add (n : Nat) (c x x' : Nat → Int) (y : Nat) : op n c (fun y => x y + x' y) y = op n c x y + op n c x' y := by
  unfold op
  rw [sumZ_congr n fun i _ => Int.mul_add _ _ _, sumZ_add]
  show (x (y + n) + x' (y + n)) - _ = _
  omega
theorem op_sub (n : Nat) (c x x' : Nat → Int) (y : Nat) : op n c (fun y => x y - x' y) y = op n c x y - op n c x' y := by
  unfold op
  rw [sumZ_congr n fun i _ => Int.mul_sub _ _ _, sumZ_sub]
  show (x (y + n) - x' (y + n)) - _ = _
  omega
theorem op_none (n : Nat) (c : Nat → Int) (y : Nat) : op n c (fun _ => 0) y = 0 := by
  unfold op
  rw [sumZ_congr n fun i _ => Int.mul_zero _, sumZ_zero]; rfl
theorem len_op {z : List (List UInt8)} (hz : VOk z) : ∀ {s : List UInt8}, (∀ b ∈ s, isL z.length b) → ∀ y, op z.length (fun i => coZ (aM z) z.length (i + 1)) (fun y => ((lenS z y s : Nat) : Int)) y = 0
  | [], _, y => op_none _ _ _
  | b :: s, h, y => by
    have hb := ix_lt (h b (List.mem_cons_self ..))
    have e : (fun y => ((lenS z y (b :: s) : Nat) : Int)) = fun y => ((cnt z y (ix b) : Nat) : Int) + ((lenS z y s : Nat) : Int) := by
      funext y
      show ((cnt z y (ix b) + lenS z y s : Nat) : Int) = _
      omega
    rw [e, op_add _ _ (fun y => ((cnt z y (ix b) : Nat) : Int)) (fun y => ((lenS z y s : Nat) : Int)), len_op hz (fun c hc => h c (List.mem_cons_of_mem _ hc)) y, ← u_fl hz hb]
    rw [sumZ_congr _ fun t ht => by rw [(FL (aM z) hz.h1 hz.h6).2 t (ix b) ht hb, Int.mul_zero], sumZ_zero]; rfl
theorem op_comm (n m : Nat) (d c x : Nat → Int) (y : Nat) : op n d (op m c x) y = op m c (op n d x) y := by
  have e1 : op n d (op m c x) y = (x (y + n + m) - sumZ (fun i => c i * x (y + n + (m - 1 - i))) m) - (sumZ (fun j => d j * x (y + (n - 1 - j) + m)) n - sumZ (fun j => sumZ (fun i => d j * (c i * x (y + (n - 1 - j) + (m - 1 - i)))) m) n) := by
    rw [← sumZ_sub]
    show _ - sumZ _ n = _
    congr 1
    exact sumZ_congr n fun j _ => by show d j * (_ - sumZ _ m) = _; rw [Int.mul_sub, sumZ_mulL]
  have e2 : op m c (op n d x) y = (x (y + m + n) - sumZ (fun j => d j * x (y + m + (n - 1 - j))) n) - (sumZ (fun i => c i * x (y + (m - 1 - i) + n)) m - sumZ (fun i => sumZ (fun j => c i * (d j * x (y + (m - 1 - i) + (n - 1 - j)))) n) m) := by
    rw [← sumZ_sub]
    show _ - sumZ _ m = _
    congr 1
    exact sumZ_congr m fun j _ => by show c j * (_ - sumZ _ n) = _; rw [Int.mul_sub, sumZ_mulL]
  rw [e1, e2, sumZ_comm (fun j i => d j * (c i * x (y + (n - 1 - j) + (m - 1 - i)))) m n]
  have f1 : sumZ (fun i => c i * x (y + n + (m - 1 - i))) m = sumZ (fun i => c i * x (y + (m - 1 - i) + n)) m := sumZ_congr m fun i _ => by rw [show y + n + (m - 1 - i) = y + (m - 1 - i) + n by omega]
  have f2 : sumZ (fun j => d j * x (y + (n - 1 - j) + m)) n = sumZ (fun j => d j * x (y + m + (n - 1 - j))) n := sumZ_congr n fun i _ => by rw [show y + (n - 1 - i) + m = y + m + (n - 1 - i) by omega]
  have f3 : sumZ (fun i => sumZ (fun j => d j * (c i * x (y + (n - 1 - j) + (m - 1 - i)))) n) m = sumZ (fun i => sumZ (fun j => c i * (d j * x (y + (m - 1 - i) + (n - 1 - j)))) n) m := sumZ_congr m fun i _ => sumZ_congr n fun j _ => by rw [show y + (n - 1 - j) + (m - 1 - i) = y + (m - 1 - i) + (n - 1 - j) by omega, Int.mul_left_comm]
  rw [f1, f2, f3, show y + n + m = y + m + n by omega]
  omega
theorem op_all {n : Nat} {c x : Nat → Int} (h : ∀ y, op n c x y = 0) (h0 : ∀ j, j < n → x j = 0) : ∀ y, x y = 0 := by
  intro y
  induction y using Nat.strongRecOn with
  | _ y ih =>
    rcases Nat.lt_or_ge y n with hy | hy
    · exact h0 y hy
    · obtain ⟨k, rfl⟩ : ∃ k, y = k + n := ⟨y - n, by omega⟩
      have h1 := h k
      unfold op at h1
      rw [sumZ_congr n fun i hi => by rw [ih (k + (n - 1 - i)) (by omega), Int.mul_zero], sumZ_zero] at h1
      omega
theorem same_all {m n : Nat} {c d x w : Nat → Int} (hx : ∀ y, op m c x y = 0) (hw : ∀ y, op n d w y = 0) (h : ∀ y, y < m + n → x y = w y) : ∀ y, x y = w y := by
  have e0 : ∀ y, (fun y => x y - w y) y = 0 := by
    have hf : ∀ y, op m c (fun y => x y - w y) y = 0 := by
      refine op_all (n := n) (c := d) (fun y => ?_) (fun j hj => ?_)
      · have e1 : op m c (fun y => x y - w y) = fun y => op m c x y - op m c w y := funext fun y => op_sub m c x w y
        rw [e1, op_sub n d (op m c x) (op m c w) y, op_comm n m d c w y]
        have e2 : op m c x = fun _ => 0 := funext hx
        have e3 : op n d w = fun _ => 0 := funext hw
        rw [e2, e3, op_none, op_none]; rfl
      · unfold op
        rw [sumZ_congr m fun i hi => by show c i * (x (j + (m - 1 - i)) - w (j + (m - 1 - i))) = 0; rw [h (j + (m - 1 - i)) (by omega), Int.sub_self, Int.mul_zero], sumZ_zero]
        show (x (j + m) - w (j + m)) - 0 = 0
        rw [h (j + m) (by omega)]; omega
    exact op_all hf fun j hj => by show x j - w j = 0; rw [h j (by omega)]; omega
  intro y
  have : x y - w y = 0 := e0 y
  omega
theorem cnt_bd {z : List (List UInt8)} (hz : VOk z) : ∀ y p, p < z.length → cnt z y p ≤ 8 ^ y
  | 0, p, _ => Nat.le_refl _
  | y + 1, p, hp => by
    have h8 := hz.h8 p hp
    have hsum : ∀ (l : List UInt8), (∀ b ∈ l, isL z.length b) → sumS (cnt z y) l ≤ l.length * 8 ^ y := fun l => by
      induction l with
      | nil => intro _; simp [sumS]
      | cons b l ih =>
        intro h
        have h1 := ih fun c hc => h c (List.mem_cons_of_mem _ hc)
        have h2 := cnt_bd hz y (ix b) (ix_lt (h b (List.mem_cons_self ..)))
        show cnt z y (ix b) + sumS (cnt z y) l ≤ _
        rw [List.length_cons, Nat.add_mul, Nat.one_mul]; omega
    have h1 := hsum _ (has_mem.1 (hz.hh p hp))
    have h2 : (z.getD p []).length * 8 ^ y ≤ 8 * 8 ^ y := Nat.mul_le_mul_right _ h8
    show sumS (cnt z y) (z.getD p []) ≤ _
    rw [Nat.pow_succ, Nat.mul_comm (8 ^ y) 8]
    omega
theorem lenS_bd {z : List (List UInt8)} (hz : VOk z) (y : Nat) : ∀ (l : List UInt8), (∀ b ∈ l, isL z.length b) → lenS z y l ≤ l.length * 8 ^ y
  | [], _ => by simp [lenS, sumS]
  | b :: l, h => by
    have h1 := lenS_bd hz y l fun c hc => h c (List.mem_cons_of_mem _ hc)
    have h2 := cnt_bd hz y (ix b) (ix_lt (h b (List.mem_cons_self ..)))
    show cnt z y (ix b) + lenS z y l ≤ _
    rw [List.length_cons, Nat.add_mul, Nat.one_mul]; omega
end
end Go.Proofs.Ytfohppnelbbepaa.T
/- Same of the program -/
open Go.Vm
set_option linter.unusedVariables false
set_option linter.unusedSectionVars false
namespace Go.Proofs.Ytfohppnelbbepaa.T
open Go
variable [Ovr]
section
variable {ro : List ABlk} {h hp : Heap}
def fD (P : Nat → Bool) : Nat → Nat → Option Nat
  | 0, _ => none
  | k + 1, i => if P i = true then some i else fD P k (i + 1)
theorem fD_some {P : Nat → Bool} : ∀ (k i y : Nat), i ≤ y → y < i + k → P y = true → (∀ t, i ≤ t → t < y → P t = false) → fD P k i = some y
  | 0, i, y, h1, h2, _, _ => by omega
  | k + 1, i, y, h1, h2, h3, h4 => by
    unfold fD
    by_cases e : i = y
    · subst e; rw [if_pos h3]
    · rw [if_neg (by rw [h4 i (Nat.le_refl _) (by omega)]; decide)]
      exact fD_some k (i + 1) y (by omega) (by omega) h3 fun t h5 h6 => h4 t (by omega) h6
theorem fD_none {P : Nat → Bool} : ∀ (k i : Nat), (∀ t, i ≤ t → t < i + k → P t = false) → fD P k i = none
  | 0, i, _ => rfl
  | k + 1, i, h => by
    unfold fD
    rw [if_neg (by rw [h i (Nat.le_refl _) (by omega)]; decide)]
    exact fD_none k (i + 1) fun t h5 h6 => h t (by omega) (by omega)
def difB (z : List (List UInt8)) (s : List UInt8) (w : List (List UInt8)) (t : List UInt8) (y : Nat) : Bool := !decide (lenS z y s = lenS w y t)
noncomputable def errT (z : List (List UInt8)) (s : List UInt8) (w : List (List UInt8)) (t : List UInt8) : Int := if errS z s ≠ 0 then errS z s else errS w t
noncomputable def sameV (z : List (List UInt8)) (s : List UInt8) (w : List (List UInt8)) (t : List UInt8) : Int × Int := if errT z s w t ≠ 0 then (0, errT z s w t) else match fD (difB z s w t) (z.length + w.length) 0 with
  | some y => ((y : Int), 0)
  | none => (0, 10)
abbrev Few (z : List (List UInt8)) (s : List UInt8) : Prop := z.length ≤ 1000000 ∧ (∀ i, i < z.length → (z.getD i []).length ≤ 1000000) ∧ s.length ≤ 1000000
theorem fin_pure3 {v w x : AVal} (hv : v.bel h.length = true) (hw : w.bel h.length = true) (hx : x.bel h.length = true) : finM h.length (.tup [v, w, x]) ⟨h, h.length, h.length⟩ = some (.tup [v, w, x], h, h.length, h.length) := fin_pure (by simp [AVal.bel, bels, hv, hw, hx])
theorem two69 {v u : AVal} {z w : List (List UInt8)} {s t : List UInt8} (a : IsS ro h v z) (b : IsS ro h u w) (hf : Few z s) (hg : Few w t) :
    callX F1 ro 69 [v, .s s, u, .s t] h = some (.tup [if errT z s w t = 0 then v else .nsl, if errT z s w t = 0 then u else .nsl, .i .i64 (errT z s w t)], h, h.length, h.length) := by
  refine g69_ok (meansX_ok F1 ro) (Ovr.no rfl) ?_
  unfold g69
  simp only [mC, cp0 (read60 (s := s) a hf.1 hf.2.1 hf.2.2), pS, x0, x1, oS, iS, fB]
  by_cases hS : errS z s = 0
  rotate_left
  · have e : errT z s w t = errS z s := by unfold errT; rw [if_pos hS]
    simp only [eqI_ne hS, nF, cT, e, if_neg hS, tA3]
    exact fin_pure3 rfl rfl rfl
  have e0 : eqI (errS z s) 0 = true := by rw [hS]; rfl
  have e : errT z s w t = errS w t := by unfold errT; rw [if_neg (fun h => h hS)]
  simp only [e0, nT, cF, cp0 (read60 (s := t) b hg.1 hg.2.1 hg.2.2), pS, x0, x1, oS, iS, e, if_pos hS]
  by_cases hT : errS w t = 0
  rotate_left
  · simp only [eqI_ne hT, nF, cT, if_neg hT, tA3]
    exact fin_pure3 rfl rfl rfl
  have e1 : eqI (errS w t) 0 = true := by rw [hT]; rfl
  simp only [e1, nT, cF, if_pos hT, tA3]
  rw [hT]
  exact fin_pure3 (S_bel a) (S_bel b) rfl
theorem errT_ok {z w : List (List UInt8)} {s t : List UInt8} (h : errT z s w t = 0) : errS z s = 0 ∧ errS w t = 0 := by
  unfold errT at h
  by_cases e : errS z s = 0
  · rw [if_neg (fun h => h e)] at h; exact ⟨e, h⟩
  · rw [if_pos e] at h; exact absurd h e
theorem sat_len {z : List (List UInt8)} (hz : VOk z) {s : List UInt8} (hs : s.length ≤ 30) (hh : has z.length s) {y : Nat} (hy : y ≤ 12) : sat (lenS z y s) = lenS z y s ∧ lenS z y s ≤ 2061584302080 := by
  have h1 := lenS_bd hz y s (has_mem.1 hh)
  have h2 : 8 ^ y ≤ 8 ^ 12 := Nat.pow_le_pow_right (by omega) hy
  have h3 : s.length * 8 ^ y ≤ 30 * 8 ^ 12 := Nat.mul_le_mul hs h2
  have h4 : (30 : Nat) * 8 ^ 12 = 2061584302080 := by decide
  exact ⟨sat_id (by omega), by omega⟩
theorem eqI_dif {a b : Nat} : (!eqI (a : Int) (b : Int)) = !decide (a = b) := by
  by_cases e : a = b
  · rw [e, eqI_self, dT rfl]
  · rw [eqI_ne (by omega), dF e]
set_option maxHeartbeats 1000000 in
theorem same30 {v u : AVal} {z w : List (List UInt8)} {s t : List UInt8} (a : IsS ro h v z) (b : IsS ro h u w) (hf : Few z s) (hg : Few w t) :
    callX F1 ro 30 [v, .s s, u, .s t] h = some (.tup [.i .i64 (sameV z s w t).1, .i .i64 (sameV z s w t).2], h, h.length, h.length) := by
  refine g30_ok (meansX_ok F1 ro) (Ovr.no rfl) ?_
  unfold g30
  simp only [mC, cp0 (two69 a b hf hg), pS, x0, x1, x2, oS, iS, fB]
  by_cases hS : errT z s w t = 0
  rotate_left
  · have e : sameV z s w t = (0, errT z s w t) := by unfold sameV; rw [if_pos hS]
    simp only [eqI_ne hS, nF, cT, e, tA2]
    exact fin_pure2 rfl rfl
  have e0 : eqI (errT z s w t) 0 = true := by rw [hS]; rfl
  obtain ⟨hS1, hS2⟩ := errT_ok hS
  have vz := VOk.of (errS_V hS1)
  have vw := VOk.of (errS_V hS2)
  have z6 := vz.h6
  have w6 := vw.h6
  obtain ⟨hs30, hsh⟩ := errS_ok hS1
  obtain ⟨ht30, hth⟩ := errS_ok hS2
  obtain ⟨L, hL⟩ : ∃ L, L = h.length := ⟨_, rfl⟩
  obtain ⟨N, hN⟩ : ∃ N, N = z.length + w.length := ⟨_, rfl⟩
  have hyr : wr .i64 ((z.length : Int) + (w.length : Int)) = (N : Int) := by rw [wr_id' (by omega) (by omega)]; omega
  obtain ⟨w1, H1, c1, k1, M1⟩ := lengths48 (ro := ro) a vz (show N ≤ 1000 by omega)
  have q1 := k1.1
  have c1' := cM (l := L) (p := L) c1 (by omega) (by omega)
  obtain ⟨w2, H2, c2, k2, M2⟩ := lengths48 (ro := ro) (S_by b k1) vw (show N ≤ 1000 by omega)
  have q2 := k2.1
  have c2' := cM (l := L) (p := L) c2 (by omega) (by omega)
  have M1' := M_by M1 k2
  have kh := k1.trans k2
  have key : ∃ r, loopX (fun q : Int × Mm => g30_b0 (meansX F1 ro) ro s t w1 w2 (N : Int) q.1 q.2) (0, ⟨H2, L, L⟩) = some r ∧ ((r = .inl ⟨H2, L, L⟩ ∧ ∀ y, y < N → difB z s w t y = false) ∨ ∃ y : Nat, r = .inr ((y : Int), 0, ⟨H2, L, L⟩) ∧ y < N ∧ difB z s w t y = true ∧ ∀ i, i < y → difB z s w t i = false) := by
    refine loop_exit N (fun y q => q = ((y : Int), ⟨H2, L, L⟩) ∧ ∀ i, i < y → difB z s w t i = false) _ ?_ ?_ N 0 _ (by omega) ⟨rfl, fun i hi => by omega⟩
    · rintro y q hy ⟨rfl, hall⟩
      have r1 : ((List.range (N + 1)).map (rowN z))[y]? = some (rowN z y) := by simp [show y < N + 1 by omega]
      have r2 : ((List.range (N + 1)).map (rowN w))[y]? = some (rowN w y) := by simp [show y < N + 1 by omega]
      obtain ⟨p1, u1, i1, i2, i3⟩ := at_M M1' r1
      obtain ⟨p2, u2, j1, j2, j3⟩ := at_M M2 r2
      have i3' := (i3 (hp := H2) (l := H2.length) (q := H2.length) (Keep.refl _)).1
      have j3' := (j3 (hp := H2) (l := 0) (q := 0) (Keep.refl _)).2
      have d1 := cp0 (long49 (ro := ro) i2 hf.2.2 hsh)
      have d2 := cp0 (long49 (ro := ro) j2 hg.2.2 hth)
      rw [(sat_len vz hs30 hsh (show y ≤ 12 by omega)).1] at d1
      rw [(sat_len vw ht30 hth (show y ≤ 12 by omega)).1] at d2
      have hck := chkL (a := H2.length) (b := H2.length) (Nat.le_refl _)
      have hjn : Mm.join ⟨H2, L, L⟩ ⟨H2, H2.length, H2.length⟩ = ⟨H2, L, L⟩ := joinL (by omega) (by omega)
      have hd : (!eqI ((lenS z y s : Nat) : Int) ((lenS w y t : Nat) : Int)) = difB z s w t y := eqI_dif
      cases hb : difB z s w t y <;> rw [hb] at hd
      · exact .inl ⟨_, (by simp only [g30_b0, fB, ltT (show (y : Int) < (N : Int) by omega), cT, baseL, oS, i1, i3', mC, d1, pS, iS, hck, ckT, j1, j3', d2, hd, hjn, cF, fI', nx (show y ≤ 1000000 by omega)] <;> rfl), rfl, fun i hi => by
          rcases Nat.lt_or_ge i y with h | h
          · exact hall i h
          · obtain rfl : i = y := by omega
            exact hb⟩
      · exact .inr ⟨_, (by simp only [g30_b0, fB, ltT (show (y : Int) < (N : Int) by omega), cT, baseL, oS, i1, i3', mC, d1, pS, iS, hck, ckT, j1, j3', d2, hd, hjn] <;> rfl), .inr ⟨y, rfl, hy, hb, hall⟩⟩
    · rintro q ⟨rfl, hall⟩
      exact ⟨_, (by simp only [g30_b0, fB, ltF (Int.lt_irrefl _), cF] <;> rfl), .inl ⟨rfl, hall⟩⟩
  obtain ⟨r, e1, e2⟩ := key
  have e : sameV z s w t = match fD (difB z s w t) (z.length + w.length) 0 with
    | some y => ((y : Int), 0)
    | none => (0, 10) := by unfold sameV; rw [if_neg (fun h => h hS)]
  rw [e, ← hN]
  simp only [e0, nT, cF, if_pos hS, len_S a, len_S b, oS, iS, hyr, fI', ← hL, c1', c2', pS, meansX_loop, e1]
  rcases e2 with ⟨rfl, hall⟩ | ⟨y, rfl, hy, hb, hall⟩
  · rw [fD_none N 0 fun t _ h2 => hall t (by omega)]
    simp only [oS, tA2]
    rw [hL]
    exact fin_keep kh rfl
  · rw [fD_some N 0 y (by omega) (by omega) hb fun t _ h2 => hall t h2]
    simp only [oS, tA2]
    rw [hL]
    exact fin_keep kh rfl
end
end Go.Proofs.Ytfohppnelbbepaa.T
/- Law 11 -/
open Go.Vm
set_option linter.unusedVariables false
set_option linter.unusedSectionVars false
namespace Go.Proofs.Ytfohppnelbbepaa.T
open Go
variable [Ovr]
section
variable {ro : List ABlk} {h hp : Heap}
theorem fD_inv {P : Nat → Bool} : ∀ (k i : Nat), fD P k i = none → ∀ t, i ≤ t → t < i + k → P t = false
  | 0, i, _, t, h1, h2 => by omega
  | k + 1, i, h, t, h1, h2 => by
    unfold fD at h
    by_cases e : P i = true
    · rw [if_pos e] at h; cases h
    · rw [if_neg e] at h
      by_cases e2 : t = i
      · subst e2
        cases hp : P t
        · rfl
        · exact absurd hp e
      · exact fD_inv k (i + 1) h t (by omega) (by omega)
theorem longV_at {z : List (List UInt8)} {s : List UInt8} (hS : errS z s = 0) {y : Nat} (hy : y ≤ 1000) : longV z s (y : Int) = if 1152921504606846976 < lenS z y s then (0, 4) else ((lenS z y s : Int), 0) := by
  have e1 : errY z s (y : Int) = 0 := by
    unfold errY
    rw [if_neg (fun h => h hS), if_pos (by omega)]
  unfold longV
  rw [if_neg (fun h => h e1), Int.toNat_natCast]
theorem lens_all {z w : List (List UInt8)} {s t : List UInt8} (hz : VOk z) (hw : VOk w) (hs : has z.length s) (ht : has w.length t) (h : ∀ y, y < z.length + w.length → difB z s w t y = false) (y : Nat) : lenS z y s = lenS w y t := by
  have e := same_all (x := fun y => ((lenS z y s : Nat) : Int)) (w := fun y => ((lenS w y t : Nat) : Int)) (len_op hz (has_mem.1 hs)) (len_op hw (has_mem.1 ht)) (fun y hy => by
    have := h y hy
    unfold difB at this
    have h2 : lenS z y s = lenS w y t := by simpa using this
    show ((lenS z y s : Nat) : Int) = ((lenS w y t : Nat) : Int)
    rw [h2]) y
  have e2 : ((lenS z y s : Nat) : Int) = ((lenS w y t : Nat) : Int) := e
  omega
def lenL (z : List (List UInt8)) (s : List UInt8) (y : Nat) : List Int := (List.range y).map fun t => ((lenS z t s : Nat) : Int)
theorem lenL_snoc (z : List (List UInt8)) (s : List UInt8) (y : Nat) : (lenL z s y).map (AVal.i .i64) ++ [.i .i64 ((lenS z y s : Nat) : Int)] = (lenL z s (y + 1)).map (AVal.i .i64) := by simp [lenL, List.range_succ]
set_option maxHeartbeats 2000000 in
theorem law11 {v u : AVal} {z w : List (List UInt8)} {s t : List UInt8} (hA : ∀ h, callX F1 ro 16 [] h = some (.b true, h, h.length, h.length)) (a : IsS ro h v z) (b : IsS ro h u w) :
    callX F1 ro 11 [v, .s s, u, .s t] h = some (.b true, h, h.length, h.length) := by
  refine g11_ok (meansX_ok F1 ro) (Ovr.no rfl) ?_
  unfold g11
  have c15 := cp0 (few15 (ro := ro) (s := s) a)
  have c15b := cp0 (few15 (ro := ro) (s := t) b)
  by_cases hf : fewB z s
  rotate_left
  · simp only [mC, c15, pS, bS, fB, dF hf, nF, cT, oS, cp0 (hA h), tA]
    exact fin_pure rfl
  by_cases hg : fewB w t
  rotate_left
  · simp only [mC, c15, c15b, pS, bS, fB, dT hf, dF hg, nT, nF, cT, cF, oS, cp0 (hA h), tA]
    exact fin_pure rfl
  have hf' := fewB_len hf
  have hg' := fewB_len hg
  obtain ⟨L, hL⟩ : ∃ L, L = h.length := ⟨_, rfl⟩
  simp only [mC, c15, c15b, pS, bS, fB, dT hf, dT hg, nT, cF, oS]
  obtain ⟨wc, H, c1, k1, R1⟩ := rec40 (ro := ro) (s := s) a hf'
  have q1 := k1.1
  have c1' := cM (l := L) (p := L) c1 (by omega) (by omega)
  have hlr := len_row R1
  by_cases hS : errS z s = 0
  rotate_left
  · have e : recL z s = [] := by unfold recL; rw [if_neg hS]
    rw [e] at hlr
    have c42 := cp (l := L) (p := L) (shoot42 (ro := ro) (s := s) (S_by a k1) hf'.1 hf'.2.1 hf'.2.2) (by omega) (by omega)
    have cA := cp (l := L) (p := L) (hA H) (by omega) (by omega)
    have e0 : eqI ((([] : List Int).length : Nat) : Int) 0 = true := rfl
    simp only [← hL, c1', pS, x0, x1, oS, iS, fB, eqI_ne hS, nF, cT, c42, eqI_self, hlr, e0, cA, bS, tA]
    rw [hL]
    exact fin_keep k1 rfl
  have e0 : eqI (errS z s) 0 = true := by rw [hS]; rfl
  have vz := VOk.of (errS_V hS)
  have z1 := vz.h1
  have z6 := vz.h6
  obtain ⟨hs30, hsh⟩ := errS_ok hS
  obtain ⟨n, hn⟩ : ∃ n, n = z.length := ⟨_, rfl⟩
  have hrec : recL z s = (List.range n).map fun j => coZ (aM z) n (j + 1) := by unfold recL; rw [if_pos hS, hn]
  have hrl : (recL z s).length = n := by rw [hrec]; simp
  rw [hrl] at hlr
  have hlS : ∀ {K : Heap}, Keep h K → evP .e (.len false (.c v)) = some (.i .i64 (n : Int)) := fun k => by rw [hn]; exact len_S (S_by a k)
  have hw3 : wr .i64 (3 * (n : Int)) = ((3 * n : Nat) : Int) := by rw [wr_id' (by omega) (by omega)]; omega
  -- the first loop
  have key3 : ∃ r, loopX (fun q : AVal × Int × Mm => g11_b3 (meansX F1 ro) ro v s u t wc q.1 q.2.1 q.2.2) (.nsl, 0, ⟨H, L, L⟩) = some r ∧ ∃ K, r = .inl ⟨K, L, L⟩ ∧ Keep H K := by
    refine loop_exit (3 * n) (fun y q => ∃ v1 K, q = (v1, (y : Int), ⟨K, L, L⟩) ∧ Keep H K ∧ RowG K H.length 3 v1 ((lenL z s y).map (AVal.i .i64))) _ ?_ ?_ (3 * n) 0 _ (by omega) ⟨.nsl, H, rfl, Keep.refl _, RowG.nil _ _ _⟩
    · rintro y q hy ⟨v1, K, rfl, kK, gK⟩
      have hqK := kK.1
      have khK := k1.trans kK
      have c19 := cp (l := L) (p := L) (long19 (ro := ro) (s := s) (y := (y : Int)) (S_by a khK) hf') (by omega) (by omega)
      rw [longV_at hS (by omega)] at c19
      have lt3 : ltI (y : Int) ((3 * n : Nat) : Int) = true := ltT (by omega)
      by_cases hbig : 1152921504606846976 < lenS z y s
      · rw [if_pos hbig] at c19
        have e4 : eqI 4 0 = false := rfl
        exact .inr ⟨_, (by simp only [g11_b3, hlS khK, oS, iS, hw3, fI', fB, lt3, cT, mC, c19, pS, x0, x1, e4, nF] <;> rfl), K, rfl, kK⟩
      rw [if_neg hbig] at c19
      have e4 : eqI 0 0 = true := rfl
      obtain ⟨K2, K3, l', p', s1, s2, g4, n3, n4, o4, b4, b5, b6⟩ := gK.push (ro := ro) (l := L) (p := L) (bytes := 8) (z := AVal.i .i64 0) (w := .i .i64 ((lenS z y s : Nat) : Int)) hqK (by simp [lenL]; omega) (by omega) rfl rfl
      have hl' : l' = L ∧ p' = L := by have := b4 L (by omega) (Nat.le_refl _) (Nat.le_refl _); omega
      rw [hl'.1, hl'.2] at s2
      rw [lenL_snoc] at g4
      have hwb : ∀ b, rb v1 = some b → H.length ≤ b := fun b e => (gK.holds e).2.1
      have kK3 : Keep H K3 := ⟨by omega, fun i hi => by rw [o4 i (by omega) (fun e => by have := hwb i e; omega), kK.2 i hi]⟩
      by_cases h40 : 1099511627776 < lenS z y s
      · have l40 : ltI 1099511627776 ((lenS z y s : Nat) : Int) = true := ltT (by omega)
        exact .inr ⟨_, (by simp only [g11_b3, hlS khK, oS, iS, hw3, fI', fB, lt3, cT, mC, c19, pS, x0, x1, e4, nT, cF, s1, s2, l40] <;> rfl), K3, rfl, kK3⟩
      have l40 : ltI 1099511627776 ((lenS z y s : Nat) : Int) = false := ltF (by omega)
      rcases Nat.lt_or_ge y n with hyn | hyn
      · have lyn : ltI (y : Int) (n : Int) = true := ltT (by omega)
        exact .inl ⟨_, (by simp only [g11_b3, hlS khK, oS, iS, hw3, fI', fB, lt3, cT, mC, c19, pS, x0, x1, e4, nT, cF, s1, s2, l40, lyn, nx (show y ≤ 1000000 by omega)] <;> rfl), _, K3, rfl, kK3, g4⟩
      · have lyn : ltI (y : Int) (n : Int) = false := ltF (by omega)
        have R3 := row_by R1 kK3
        have key5 : ∃ r, loopX (fun q : Int × Int => g11_b5 (meansX F1 ro) ro v s u t wc (AVal.sl { ro := false, b := K.length + 1, off := 0 } (((lenL z s y).map (AVal.i .i64)).length + 1) .grow) (y : Int) ((lenS z y s : Nat) : Int) ⟨K3, L, L⟩ q.1 q.2) (0, 0) = some r ∧ r = ((lenS z y s : Nat) : Int) := by
          refine loop_gen n (fun i q => q = (wr .i64 (sumZ (fun i => coZ (aM z) n (i + 1) * ((lenS z (y - 1 - i) s : Nat) : Int)) i), (i : Int))) _ ?_ ?_ n 0 _ (by omega) rfl
          · rintro i q hi rfl
            obtain ⟨p1, i1, i2, i3⟩ := at_row (ro := ro) (h := K3) (m := ⟨K3, 0, 0⟩) rfl R3 (show i < (recL z s).length by omega)
            have er : (recL z s).getD i 0 = coZ (aM z) n (i + 1) := by rw [hrec]; simp [List.getD, hi]
            rw [er] at i3
            have hx : (lenL z s (y + 1))[y - 1 - i]? = some ((lenS z (y - 1 - i) s : Nat) : Int) := by simp [lenL, show y - 1 - i < y + 1 by omega]
            obtain ⟨p2, j1, j2⟩ := at_R (enc := AVal.i .i64) (g4.isR (ro := ro) (enc := AVal.i .i64)) hx
            have j2' := (j2 (hp := K3) (l := 0) (q := 0) (Keep.refl _)).2
            have hw1 : wr .i64 ((y : Int) - 1) = ((y - 1 : Nat) : Int) := by rw [wr_id' (by omega) (by omega)]; omega
            have hw2 : wr .i64 (((y - 1 : Nat) : Int) - (i : Int)) = ((y - 1 - i : Nat) : Int) := by rw [wr_id' (by omega) (by omega)]; omega
            have hsum : wr .i64 (wr .i64 (sumZ (fun i => coZ (aM z) n (i + 1) * ((lenS z (y - 1 - i) s : Nat) : Int)) i) + wr .i64 (coZ (aM z) n (i + 1) * ((lenS z (y - 1 - i) s : Nat) : Int))) = wr .i64 (sumZ (fun i => coZ (aM z) n (i + 1) * ((lenS z (y - 1 - i) s : Nat) : Int)) (i + 1)) := by rw [wr_addL, wr_addR]; rfl
            exact ⟨_, (by simp only [g11_b5, hlr, oS, iS, fB, ltT (show (i : Int) < (n : Int) by omega), cT, i1, i3, hw1, hw2, fI', j1, j2', hsum, nx (show i ≤ 1000000 by omega)] <;> rfl), rfl⟩
          · rintro q rfl
            refine ⟨_, (by simp only [g11_b5, hlr, oS, iS, fB, ltF (Int.lt_irrefl _), cF] <;> rfl), ?_⟩
            have h1 := len_op vz (has_mem.1 hsh) (y - n)
            rw [← hn] at h1
            unfold op at h1
            have h2 : sumZ (fun i => coZ (aM z) n (i + 1) * ((lenS z (y - n + (n - 1 - i)) s : Nat) : Int)) n = sumZ (fun i => coZ (aM z) n (i + 1) * ((lenS z (y - 1 - i) s : Nat) : Int)) n := sumZ_congr n fun i hi => by rw [show y - n + (n - 1 - i) = y - 1 - i by omega]
            have h3 : ((lenS z (y - n + n) s : Nat) : Int) - sumZ (fun i => coZ (aM z) n (i + 1) * ((lenS z (y - n + (n - 1 - i)) s : Nat) : Int)) n = 0 := h1
            rw [h2, show y - n + n = y by omega] at h3
            have h4 : sumZ (fun i => coZ (aM z) n (i + 1) * ((lenS z (y - 1 - i) s : Nat) : Int)) n = ((lenS z y s : Nat) : Int) := by omega
            rw [h4]
            exact wr_id' (by omega) (by omega)
        obtain ⟨r5, e5, rfl⟩ := key5
        exact .inl ⟨_, (by simp only [g11_b3, hlS khK, oS, iS, hw3, fI', fB, lt3, cT, mC, c19, pS, x0, x1, e4, nT, cF, s1, s2, l40, lyn, meansX_loop, e5, eqI_self, nx (show y ≤ 1000000 by omega)] <;> rfl), _, K3, rfl, kK3, g4⟩
    · rintro q ⟨v1, K, rfl, kK, gK⟩
      exact ⟨_, (by simp only [g11_b3, hlS (k1.trans kK), oS, iS, hw3, fI', fB, ltF (Int.lt_irrefl _), cF] <;> rfl), K, rfl, kK⟩
  obtain ⟨r3, e3, K, rfl, kK⟩ := key3
  have khK := k1.trans kK
  have hqK := khK.1
  have aK := S_by a khK
  have bK := S_by b khK
  have c30 := cp (l := L) (p := L) (same30 (ro := ro) aK bK hf' hg') (by omega) (by omega)
  have c42 := cp (l := L) (p := L) (shoot42 (ro := ro) (s := t) bK hg'.1 hg'.2.1 hg'.2.2) (by omega) (by omega)
  have cA := cp (l := L) (p := L) (hA K) (by omega) (by omega)
  simp only [← hL, c1', pS, x0, x1, oS, iS, fB, e0, nT, cF, hlr, hlS k1, eqI_self, meansX_loop, e3, c30, c42]
  have eT : errT z s w t = errS w t := by unfold errT; rw [if_neg (fun h => h hS)]
  by_cases hT : errS w t = 0
  rotate_left
  · have e : sameV z s w t = (0, errS w t) := by unfold sameV; rw [eT, if_pos hT]
    have e00 : eqI 0 0 = true := rfl
    simp only [eqI_ne hT, nF, cT, e, eqI_self, e00, oS, cA, pS, bS, tA]
    rw [hL]
    exact fin_keep khK rfl
  have eT0 : eqI (errS w t) 0 = true := by rw [hT]; rfl
  have vw := VOk.of (errS_V hT)
  have w6 := vw.h6
  obtain ⟨ht30, hth⟩ := errS_ok hT
  have esame : sameV z s w t = match fD (difB z s w t) (z.length + w.length) 0 with
    | some y => ((y : Int), 0)
    | none => (0, 10) := by unfold sameV; (rw [if_neg (fun h => h (by rw [eT]; exact hT))] <;> rfl)
  have hlT : evP .e (.len false (.c u)) = some (.i .i64 (w.length : Int)) := len_S bK
  have hyr : wr .i64 ((n : Int) + (w.length : Int)) = ((n + w.length : Nat) : Int) := by rw [wr_id' (by omega) (by omega)]; omega
  have e00 : eqI 0 0 = true := rfl
  have e10 : eqI 10 0 = false := rfl
  have eaa : eqI 10 10 = true := rfl
  obtain ⟨V, hV⟩ : ∃ V, V = sameV z s w t := ⟨_, rfl⟩
  rw [← hV]
  have key8 : ∃ r, loopX (fun q : Int × Mm => g11_b8 (meansX F1 ro) ro v s u t V.2 V.1 q.1 q.2) (0, ⟨K, L, L⟩) = some r ∧ (r = .inr (true, ⟨K, L, L⟩) ∨ (r = .inl ⟨K, L, L⟩ ∧ ∀ y, y < 30 → difB z s w t y = false)) := by
    refine loop_exit 30 (fun y q => q = ((y : Int), ⟨K, L, L⟩) ∧ ∀ i, i < y → difB z s w t i = false) _ ?_ ?_ 30 0 _ (by omega) ⟨rfl, fun i hi => by omega⟩
    · rintro y q hy ⟨rfl, hall⟩
      have lt30 : ltI (y : Int) 30 = true := ltT (by omega)
      have c19 := cp (l := L) (p := L) (long19 (ro := ro) (s := s) (y := (y : Int)) aK hf') (by omega) (by omega)
      have c19b := cp (l := L) (p := L) (long19 (ro := ro) (s := t) (y := (y : Int)) bK hg') (by omega) (by omega)
      rw [longV_at hS (by omega)] at c19
      rw [longV_at hT (by omega)] at c19b
      have e40 : eqI 4 0 = false := rfl
      have e04 : eqI 0 4 = false := rfl
      have e44 : eqI 4 4 = true := rfl
      by_cases hbad : 1152921504606846976 < lenS z y s ∨ 1152921504606846976 < lenS w y t
      · -- an error
        refine .inr ⟨.inr (true, ⟨K, L, L⟩), ?_, .inl rfl⟩
        cases hfd : fD (difB z s w t) (z.length + w.length) 0 with
        | some y' =>
          have hv2 : V.2 = 0 := by rw [hV, esame, hfd]
          by_cases h1 : 1152921504606846976 < lenS z y s
          · rw [if_pos h1] at c19
            by_cases h2 : 1152921504606846976 < lenS w y t
            · rw [if_pos h2] at c19b
              simp only [g11_b8, fB, lt30, cT, mC, c19, c19b, pS, x0, x1, oS, iS, e40, nF, hv2, e00, cA, bS]
            · rw [if_neg h2] at c19b
              simp only [g11_b8, fB, lt30, cT, mC, c19, c19b, pS, x0, x1, oS, iS, e40, nF, hv2, e00, cA, bS]
          · rw [if_neg h1] at c19
            rw [if_pos (by omega)] at c19b
            simp only [g11_b8, fB, lt30, cT, mC, c19, c19b, pS, x0, x1, oS, iS, e40, e00, nT, nF, cF, hv2, cA, bS]
        | none =>
          have hv2 : V.2 = 10 := by rw [hV, esame, hfd]
          have heq := lens_all vz vw hsh hth (fun i hi => fD_inv _ _ hfd i (by omega) (by omega)) y
          rw [← heq] at c19b hbad
          have h1 : 1152921504606846976 < lenS z y s := by omega
          rw [if_pos h1] at c19 c19b
          simp only [g11_b8, fB, lt30, cT, mC, c19, c19b, pS, x0, x1, oS, iS, e40, nF, hv2, e10, cF, e44, cA, bS]
      · rw [if_neg (by omega)] at c19 c19b
        have hd : (!eqI ((lenS z y s : Nat) : Int) ((lenS w y t : Nat) : Int)) = difB z s w t y := eqI_dif
        cases hb : difB z s w t y <;> rw [hb] at hd
        · exact .inl ⟨_, (by simp only [g11_b8, fB, lt30, cT, mC, c19, c19b, pS, x0, x1, oS, iS, e00, nT, cF, hd, fI', nx (show y ≤ 1000000 by omega)] <;> rfl), rfl, fun i hi => by
            rcases Nat.lt_or_ge i y with h | h
            · exact hall i h
            · obtain rfl : i = y := by omega
              exact hb⟩
        · have hyN : y < z.length + w.length := by
            rcases Nat.lt_or_ge y (z.length + w.length) with h | h
            · exact h
            · have heq := lens_all vz vw hsh hth (fun i hi => hall i (by omega)) y
              unfold difB at hb
              rw [dT heq] at hb; cases hb
          have hfd := fD_some (P := difB z s w t) (z.length + w.length) 0 y (by omega) (by omega) hb fun i _ h2 => hall i h2
          have hv : V = ((y : Int), 0) := by rw [hV, esame, hfd]
          have hlt : ltI (y : Int) ((n + w.length : Nat) : Int) = true := ltT (by omega)
          exact .inr ⟨_, (by rw [hv]; simp only [g11_b8, fB, lt30, cT, mC, c19, c19b, pS, x0, x1, oS, iS, e00, nT, cF, hd, eqI_self, hlS khK, hlT, hyr, fI', hlt, cA, bS] <;> rfl), .inl rfl⟩
    · rintro q ⟨rfl, hall⟩
      have lt30 : ltI ((30 : Nat) : Int) 30 = false := rfl
      exact ⟨_, (by simp only [g11_b8, fB, lt30, cF] <;> rfl), .inr ⟨rfl, hall⟩⟩
  obtain ⟨r8, e8, h8⟩ := key8
  simp only [eT0, nT, cF, e8, oS]
  rcases h8 with rfl | ⟨rfl, hall⟩
  · simp only [oS, tA]
    rw [hL]
    exact fin_keep khK rfl
  · have hfd := fD_none (P := difB z s w t) (z.length + w.length) 0 fun i _ h2 => hall i (by omega)
    have hv : V = (0, 10) := by rw [hV, esame, hfd]
    rw [hv]
    simp only [eaa, e00, cT, oS, cA, pS, bS, tA]
    rw [hL]
    exact fin_keep khK rfl
end
end Go.Proofs.Ytfohppnelbbepaa.T
/- The bridge, alive known -/
open Go.Vm
set_option linter.unusedVariables false
set_option linter.unusedSectionVars false
namespace Go.Proofs.Ytfohppnelbbepaa.T
open Go Go.RowKit Go.Deep Go.WideShapes Go.ChangeShapes
attribute [local instance] ovA
theorem aliveA {ro : List ABlk} (h : Heap) : callX F1 ro 16 [] h = some (.b true, h, h.length, h.length) := callX_ov rfl
theorem call_ofA {W : World} {ro : List ABlk} {rl : Rl} (hE : (Env.mk Try.prog W.heap.size W ro rl).Ok) {K : Nat} {vs : List AVal} {args : Array Value}
    (hv : LR rl [] vs args) {h' : Heap} {lw lp : Nat} (hc : callX F1 ro K vs [] = some (.b true, h', lw, lp)) : Calls Try.prog K args W fun e W' => e = .returned (.bool true) ∧ Below W.heap.size W W' :=
  call_of hE (alive_known hE (Try.checked.mixed) fok) hv hc
theorem exC {ro : List ABlk} {k : Nat} {l : List AVal} {h : Heap} {n m : Nat} {H : Heap} (e : callX F1 ro k l h = some (.b true, H, n, m)) : ∃ h' lw lp, callX F1 ro k l h = some (.b true, h', lw, lp) := ⟨_, _, _, e⟩
end Go.Proofs.Ytfohppnelbbepaa.T

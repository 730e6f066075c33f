/- Contracts of the functions: what each of them answers. -/
import Derived.Test.YtfohppnelbbepaaVmK1
/- Polynomials -/
open Go.Vm
set_option linter.unusedVariables false
set_option linter.unusedSectionVars false
namespace Go.Proofs.Ytfohppnelbbepaa.T
open Go
variable [Ovr]
/- polynomials in 36 variables: a monomial is a number of 36 digits to the base 8 -/
section
def mon (ρ : Nat → Int) : Nat → Nat → Nat → Int
  | 0, _, _ => 1
  | f + 1, i, k => ρ i ^ (k % 8) * mon ρ f (i + 1) (k / 8)
theorem mon_mul (ρ : Nat → Int) : ∀ (f i j k : Nat), j < f → (k / 8 ^ j) % 8 < 7 → mon ρ f i (k + 8 ^ j) = ρ (i + j) * mon ρ f i k
  | 0, i, j, k, h, _ => by omega
  | f + 1, i, 0, k, _, h => by
    simp only [Nat.pow_zero, Nat.div_one] at h
    have e1 : (k + 1) % 8 = k % 8 + 1 := by omega
    have e2 : (k + 1) / 8 = k / 8 := by omega
    simp only [mon, Nat.pow_zero, e1, e2, Nat.add_zero, Int.pow_succ]
    rw [Int.mul_comm (ρ i ^ (k % 8)) (ρ i), Int.mul_assoc]
  | f + 1, i, j + 1, k, hj, h => by
    obtain ⟨y, hy⟩ : ∃ y, y = 8 ^ j := ⟨_, rfl⟩
    have e0 : 8 ^ (j + 1) = 8 * y := by rw [Nat.pow_succ, hy, Nat.mul_comm]
    have e1 : (k + 8 * y) % 8 = k % 8 := by omega
    have e2 : (k + 8 * y) / 8 = k / 8 + y := by omega
    have h' : (k / 8 / 8 ^ j) % 8 < 7 := by rw [Nat.div_div_eq_div_mul, ← hy, ← e0]; exact h
    have ih := mon_mul ρ f (i + 1) j (k / 8) (by omega) h'
    simp only [mon, e0, e1, e2]
    rw [hy, ih, show i + 1 + j = i + (j + 1) by omega, Int.mul_left_comm]
abbrev Poly := List (Nat × Int)
def pev (ρ : Nat → Int) : Poly → Int
  | [] => 0
  | (k, c) :: p => c * mon ρ 36 0 k + pev ρ p
noncomputable def padd (f : Nat) : Poly → Poly → Poly := Nat.rec (fun a b => a ++ b) (fun _ ih a b => List.casesOn a b fun x a' => List.casesOn b (x :: a') fun y b' => cond (Nat.blt y.1 x.1) (x :: ih a' (y :: b')) (cond (Nat.blt x.1 y.1) (y :: ih (x :: a') b') (cond (eqI (x.2 + y.2) 0) (ih a' b') ((x.1, x.2 + y.2) :: ih a' b')))) f
theorem pev_app (ρ : Nat → Int) : ∀ a b, pev ρ (a ++ b) = pev ρ a + pev ρ b
  | [], b => by simp [pev]
  | (k, c) :: a, b => by simp only [List.cons_append, pev, pev_app ρ a b, Int.add_assoc]
theorem pev_add (ρ : Nat → Int) : ∀ f a b, pev ρ (padd f a b) = pev ρ a + pev ρ b
  | 0, a, b => pev_app ρ a b
  | f + 1, [], b => by show pev ρ b = 0 + pev ρ b; omega
  | f + 1, (k, c) :: a, [] => by show pev ρ ((k, c) :: a) = pev ρ ((k, c) :: a) + 0; omega
  | f + 1, (k, c) :: a, (l, d) :: b => by
    show pev ρ (cond (Nat.blt l k) ((k, c) :: padd f a ((l, d) :: b)) (cond (Nat.blt k l) ((l, d) :: padd f ((k, c) :: a) b) (cond (eqI (c + d) 0) (padd f a b) ((k, c + d) :: padd f a b)))) = _
    cases h1 : Nat.blt l k
    · cases h2 : Nat.blt k l
      · have e : k = l := by
          have h3 : ¬ l < k := fun h => by rw [← Nat.blt_eq, h1] at h; cases h
          have h4 : ¬ k < l := fun h => by rw [← Nat.blt_eq, h2] at h; cases h
          omega
        have hc : (c + d) * mon ρ 36 0 k = c * mon ρ 36 0 k + d * mon ρ 36 0 l := by rw [← e]; exact Int.add_mul _ _ _
        cases h3 : eqI (c + d) 0 
        · simp only [cond_false, pev, pev_add ρ f a b, hc]; omega
        · have h0 : c + d = 0 := by rw [eqI_eq] at h3; simpa using h3
          rw [h0, Int.zero_mul] at hc
          simp only [cond_false, cond_true, pev, pev_add ρ f a b]; omega
      · simp only [cond_false, cond_true, pev, pev_add ρ f ((k, c) :: a) b]; omega
    · simp only [cond_true, pev, pev_add ρ f a ((l, d) :: b)]; omega
def psc (x : Int) (p : Poly) : Poly := p.map fun t => (t.1, x * t.2)
theorem pev_sc (ρ : Nat → Int) (x : Int) : ∀ p, pev ρ (psc x p) = x * pev ρ p
  | [] => by simp [psc, pev]
  | (k, c) :: p => by
    have := pev_sc ρ x p
    simp only [psc, List.map_cons, pev] at this ⊢
    rw [this, Int.mul_add, Int.mul_assoc]
def pmv (j : Nat) : Poly → Option Poly
  | [] => some []
  | (k, c) :: p => cond (Nat.blt ((k / 8 ^ j) % 8) 7) (match pmv j p with | some q => some ((k + 8 ^ j, c) :: q) | none => none) none
theorem pev_mv (ρ : Nat → Int) {j : Nat} (hj : j < 36) : ∀ {p q : Poly}, pmv j p = some q → pev ρ q = ρ j * pev ρ p
  | [], q, h => by cases h; simp [pev]
  | (k, c) :: p, q, h => by
    unfold pmv at h
    cases h1 : Nat.blt ((k / 8 ^ j) % 8) 7 <;> rw [h1] at h
    · cases h
    · rw [cond_true] at h
      cases h2 : pmv j p with
      | none => rw [h2] at h; cases h
      | some q' =>
        rw [h2] at h
        cases h
        have := mon_mul ρ 36 0 j k hj (by rw [Nat.blt_eq] at h1; exact h1)
        rw [Nat.zero_add] at this
        simp only [pev, this, pev_mv ρ hj h2, Int.mul_add]
        rw [Int.mul_left_comm]
end
end Go.Proofs.Ytfohppnelbbepaa.T
/- Faddeev and Leverrier -/
open Go.Vm
set_option linter.unusedVariables false
set_option linter.unusedSectionVars false
namespace Go.Proofs.Ytfohppnelbbepaa.T
open Go
variable [Ovr]
/- Faddeev and Leverrier, by polynomials -/
section
def sumZ (f : Nat → Int) : Nat → Int
  | 0 => 0
  | i + 1 => sumZ f i + f i
theorem sumZ_congr {f g : Nat → Int} : ∀ n, (∀ i, i < n → f i = g i) → sumZ f n = sumZ g n
  | 0, _ => rfl
  | n + 1, h => by show sumZ f n + f n = sumZ g n + g n; rw [sumZ_congr n fun i hi => h i (by omega), h n (by omega)]
def detZ (a : Nat → Nat → Int) : List Nat → List Nat → Int
  | [], _ => 1
  | r :: rs, cols => sumZ (fun i => (-1) ^ i * a r (cols.getD i 0) * detZ a rs (cols.eraseIdx i)) cols.length
def subs (s : Nat) : Nat → List Nat
  | 0 => []
  | p + 1 => subs s p ++ cond (Nat.beq (s / 2 ^ p % 2) 1) [p] []
def sgn (k : Nat) : Int := cond (Nat.beq (k % 2) 0) (-1) 1
def eZ (a : Nat → Nat → Int) (n k : Nat) : Nat → Int := sumZ fun s => cond (Nat.beq (subs s n).length k) (sgn k * detZ a (subs s n) (subs s n)) 0
abbrev coZ (a : Nat → Nat → Int) (n k : Nat) : Int := eZ a n k (2 ^ n)
def flM (a : Nat → Nat → Int) (n : Nat) : Nat → Nat → Nat → Int
  | 0, p, q => if p = q then 1 else 0
  | k + 1, p, q => sumZ (fun t => a p t * flM a n k t q) n - (if p = q then coZ a n (k + 1) else 0)
/- the same with polynomials -/
noncomputable def addO (x y : Option Poly) : Option Poly := match x with
  | some a => match y with
    | some b => some (padd 4000 a b)
    | none => none
  | none => none
def mvO (j : Nat) (x : Option Poly) : Option Poly := match x with
  | some a => pmv j a
  | none => none
def scO (c : Int) (x : Option Poly) : Option Poly := match x with
  | some a => some (psc c a)
  | none => none
noncomputable def expP (f : List Nat → Option Poly) (r : Nat) (cols : List Nat) : Nat → Option Poly
  | 0 => some []
  | i + 1 => addO (expP f r cols i) (scO (cond (Nat.beq (i % 2) 0) 1 (-1)) (mvO (6 * r + cols.getD i 0) (f (cols.eraseIdx i))))
noncomputable def detP : List Nat → List Nat → Option Poly
  | [], _ => some [(0, 1)]
  | r :: rs, cols => expP (detP rs) r cols cols.length
noncomputable def coP (n k : Nat) : Nat → Option Poly
  | 0 => some []
  | s + 1 => addO (coP n k s) (cond (Nat.beq (subs s n).length k) (scO (sgn k) (detP (subs s n) (subs s n))) (some []))
abbrev PMat := List (List Poly)
noncomputable def dotP (M : PMat) (p q : Nat) : Nat → Option Poly
  | 0 => some []
  | t + 1 => addO (dotP M p q t) (pmv (6 * p + t) ((M.getD t []).getD q []))
noncomputable def rowP (M : PMat) (n p : Nat) : Nat → Option (List Poly)
  | 0 => some []
  | q + 1 => match rowP M n p q with
    | some l => match dotP M p q n with
      | some x => some (l ++ [x])
      | none => none
    | none => none
noncomputable def mulP (M : PMat) (n : Nat) : Nat → Option PMat
  | 0 => some []
  | p + 1 => match mulP M n p with
    | some l => match rowP M n p n with
      | some x => some (l ++ [x])
      | none => none
    | none => none
noncomputable def trP (M : PMat) : Nat → Poly
  | 0 => []
  | p + 1 => padd 4000 (trP M p) ((M.getD p []).getD p [])
noncomputable def rowS (e : Poly) (r : List Poly) (p : Nat) : Nat → List Poly
  | 0 => []
  | q + 1 => rowS e r p q ++ [cond (Nat.beq p q) (padd 4000 (r.getD q []) (psc (-1) e)) (r.getD q [])]
noncomputable def subP (e : Poly) (M : PMat) (n : Nat) : Nat → PMat
  | 0 => []
  | p + 1 => subP e M n p ++ [rowS e (M.getD p []) p n]
def oneP (n : Nat) : Nat → PMat
  | 0 => []
  | p + 1 => oneP n p ++ [(List.range n).map fun q => cond (Nat.beq p q) [(0, 1)] []]
def beqP : Poly → Poly → Bool
  | [], [] => true
  | (k, c) :: a, (l, d) :: b => Nat.beq k l && (eqI c d && beqP a b)
  | _, _ => false
noncomputable def stepP (n k : Nat) (M : PMat) : Option PMat := match mulP M n n with
  | some M1 => match coP n (k + 1) (2 ^ n) with
    | some e => cond (beqP (trP M1 n) (psc (.ofNat (k + 1)) e)) (some (subP e M1 n n)) none
    | none => none
  | none => none
noncomputable def runP (n : Nat) : Nat → Option PMat
  | 0 => some (oneP n n)
  | k + 1 => match runP n k with
    | some M => stepP n k M
    | none => none
def zeroP (M : PMat) : Bool := M.all fun r => r.all fun p => p.isEmpty
noncomputable def chkP (n : Nat) : Bool := match runP n n with
  | some M => zeroP M
  | none => false
set_option maxRecDepth 100000 in
theorem chk1 : chkP 1 = true := by decide +kernel
set_option maxRecDepth 100000 in
theorem chk2 : chkP 2 = true := by decide +kernel
set_option maxRecDepth 100000 in
theorem chk3 : chkP 3 = true := by decide +kernel
set_option maxRecDepth 100000 in
theorem chk4 : chkP 4 = true := by decide +kernel
set_option maxRecDepth 100000 in
theorem chk5 : chkP 5 = true := by decide +kernel
set_option maxRecDepth 100000 in
theorem chk6 : chkP 6 = true := by decide +kernel
end
end Go.Proofs.Ytfohppnelbbepaa.T

/- Contracts of the functions: what each of them answers. -/
import Derived.Test.YtfohppnelbbepaaVmK1
/- Polynomials -/
open Go.Vm
set_option linter.unusedVariables false
set_option linter.unusedSectionVars false
namespace Go.Proofs.Ytfohppnelbbepaa.T
open Go
variable [Ovr]
/- polynomials in 36 variables: a monomial is a number of 36 digits to the base 8 -/
section
end
end Go.Proofs.Ytfohppnelbbepaa.T
/- Faddeev and Leverrier -/
open Go.Vm
set_option linter.unusedVariables false
set_option linter.unusedSectionVars false
namespace Go.Proofs.Ytfohppnelbbepaa.T
open Go
variable [Ovr]
/- Faddeev and Leverrier, by polynomials -/
section
def sumZ (f : Nat → Int) : Nat → Int
 | 0 => 0
 | i + 1 => sumZ f i + f i
theorem sumZ_congr {f g : Nat → Int} : ∀ n, (∀ i, i < n → f i = g i) → sumZ f n = sumZ g n
 | 0, _ => rfl
 | n + 1, h => by show sumZ f n + f n = sumZ g n + g n; rw [sumZ_congr n fun i hi => h i (by omega), h n (by omega)]
/- the same with polynomials -/
end
end Go.Proofs.Ytfohppnelbbepaa.T

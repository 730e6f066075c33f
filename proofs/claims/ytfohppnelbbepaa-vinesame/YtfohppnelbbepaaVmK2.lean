/- Contracts of the functions: what each of them answers. -/
import Derived.Test.YtfohppnelbbepaaVmK1
/- Polynomials -/
open Go.Vm
set_option linter.unusedVariables false
set_option linter.unusedSectionVars false
namespace Go.Proofs.Ytfohppnelbbepaa.T
open Go
variable [Ovr]
/- polynomials in 36 variables: a monomial is a number of 36 digits to the base 8 -/
section
end
end Go.Proofs.Ytfohppnelbbepaa.T
/- Faddeev and Leverrier -/
open Go.Vm
set_option linter.unusedVariables false
set_option linter.unusedSectionVars false
namespace Go.Proofs.Ytfohppnelbbepaa.T
open Go
variable [Ovr]
/- Faddeev and Leverrier, by polynomials -/
section
/- the same with polynomials -/
end
end Go.Proofs.Ytfohppnelbbepaa.T

/- Tables: the orphan of each rule, and whether it is one to one; reckoned. -/
import Derived.Test.YtgbkicelkpagpaaVmWl
open Go.Vm
set_option linter.unusedVariables false
namespace Go.Proofs.Ytgbkicelkpagpaa.W
open Go

end Go.Proofs.Ytgbkicelkpagpaa.W

/- The reference's orphans, reckoned; Eden and Onto. -/
import Derived.Test.YtjjinlljdfaipaaVmWt
open Go.Vm
set_option linter.unusedVariables false
namespace Go.Proofs.Ytjjinlljdfaipaa.W
open Go

end Go.Proofs.Ytjjinlljdfaipaa.W

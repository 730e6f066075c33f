/- Ways of onto rules, and of the others: tables. -/
import Derived.Test.YtjjinlljdfaipaaVmWw
import Derived.Test.YtjjinlljdfaipaaVmWo
open Go.Vm
set_option linter.unusedVariables false
namespace Go.Proofs.Ytjjinlljdfaipaa.W
open Go

/- onto rules: the counts that come -/
/- the others: a row with more -/
end Go.Proofs.Ytjjinlljdfaipaa.W

/- Ways of onto rules, and of the others: tables. -/
import Derived.Test.YtgbkicelkpagpaaVmWw
import Derived.Test.YtgbkicelkpagpaaVmWo
open Go.Vm
set_option linter.unusedVariables false
namespace Go.Proofs.Ytgbkicelkpagpaa.W
open Go

/- onto rules: the counts that come -/
/- the others: a row with more -/
end Go.Proofs.Ytgbkicelkpagpaa.W

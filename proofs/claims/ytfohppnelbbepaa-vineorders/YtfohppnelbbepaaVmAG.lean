/- Calls with plain arguments that answer a plain value, reckoned in an empty heap, answer so in every heap; calls that are known to answer so may be taken as known beforehand. -/
import Derived.Test.YtfohppnelbbepaaVmAF
namespace Go.Vm
theorem le_ok {E : Env} {call O : qao} (hc : qbv E call) (hO : ∀ f a h r, O f a h = some r → call f a h = some r) : qbv E O :=
 fun f args h v h' lw lp hcl => hc f args h v h' lw lp (hO _ _ _ _ hcl)
end Go.Vm

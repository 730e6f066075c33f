/- alive, reckoned. -/
import Derived.Test.YtobmcofkcfifkaaVmP
import Derived.Test.YtobmcofkcfifkaaVmAE
import Derived.KernelRfl
open Go.Vm
set_option linter.unusedVariables false
namespace Go.Proofs.Ytobmcofkcfifkaa.T
open Go

def okA (o : Option (AVal × Heap × Nat × Nat)) : Bool := match o with
  | some (.b true, [], 0, 0) => true
  | _ => false
theorem okA_eq {o : Option (AVal × Heap × Nat × Nat)} (h : okA o = true) : o = some (.b true, [], 0, 0) := by
  unfold okA at h
  split at h
  · rfl
  · cases h
theorem alive0 : callX ⟨F, noCall⟩ [] 18 [] [] = some (.b true, [], 0, 0) := callX_some.2 ⟨200, okA_eq (by decide +kernel)⟩
end Go.Proofs.Ytobmcofkcfifkaa.T

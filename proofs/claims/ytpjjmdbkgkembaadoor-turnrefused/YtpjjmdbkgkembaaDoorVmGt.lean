/- alive, reckoned. -/
import Derived.Test.YtpjjmdbkgkembaaDoorVmP
import Derived.Test.YtpjjmdbkgkembaaDoorVmAE
import Derived.KernelRfl
open Go.Vm
set_option linter.unusedVariables false
namespace Go.Proofs.YtpjjmdbkgkembaaDoor.T
open Go

/-- how many zeros a number ends with -/
def ctzF : Nat → Nat → Nat
  | 0, _ => 0
  | k + 1, n => cond (Nat.beq (Nat.mod n 2) 1) 0 (ctzF k (Nat.div n 2) + 1)
/-- known beforehand: math/bits.TrailingZeros32 -/
def tzC : qas := fun f a h =>
  cond (Nat.beq f 79) (match a with
    | [.i .u32 x] => match x with
      | .ofNat n => cond (Nat.blt n 4294967296) (some (mkN .i64 (ctzF 32 n), h, h.length, h.length)) none
      | _ => none
    | _ => none) none
def okA (o : Option (AVal × Heap × Nat × Nat)) : Bool := match o with
  | some (.b true, [], 0, 0) => true
  | _ => false
theorem okA_eq {o : Option (AVal × Heap × Nat × Nat)} (h : okA o = true) : o = some (.b true, [], 0, 0) := by
  unfold okA at h
  split at h
  · rfl
  · cases h
theorem alive0 : callX ⟨F, tzC⟩ [] 16 [] [] = some (.b true, [], 0, 0) := qdn.2 ⟨700, okA_eq (by decide +kernel)⟩
end Go.Proofs.YtpjjmdbkgkembaaDoor.T

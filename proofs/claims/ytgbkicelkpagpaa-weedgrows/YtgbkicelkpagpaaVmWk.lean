/- Walks and Ways. -/
import Derived.Test.YtgbkicelkpagpaaVmWg
open Go.Vm
set_option linter.unusedVariables false
namespace Go.Proofs.Ytgbkicelkpagpaa.W
open Go

/- four numbers in memory -/
/- the letter as a number -/
def bw (s : List UInt8) (i : Nat) : Nat := ch s i - 48
theorem bit_num : ∀ c, c < 256 → 48 ≤ c → wr .i64 (wr .u8 (Int.ofNat c - 48)) = Int.ofNat (c - 48) := by decide +kernel
theorem bit_ok {ro : List ABlk} {h : Heap} {c : Nat} (hc : c < 256) (h48 : 48 ≤ c) : callX F1 ro 73 [.i .u8 c] h = some (.i .i64 (c - 48 : Nat), h, h.length, h.length) := by
  refine g73_ok (meansX_ok F1 ro) rfl ?_
  unfold g73
  have e : wr .i64 (wr .u8 ((c : Int) - 48)) = ((c - 48 : Nat) : Int) := bit_num c hc h48
  simp only [forceI_eq, e, tupA]
  exact fin_pure rfl

/- one letter more: how many walks end in each pair -/
def okR (s : List UInt8) : Prop := ∀ i, i < s.length → ch s i = 48 ∨ ch s i = 49
end Go.Proofs.Ytgbkicelkpagpaa.W

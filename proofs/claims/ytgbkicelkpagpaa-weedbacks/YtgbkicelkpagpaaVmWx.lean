/- Strings that are made byte by byte; grow, ring, Ring. -/
import Derived.Test.YtgbkicelkpagpaaVmWp
open Go.Vm
set_option linter.unusedVariables false
namespace Go.Proofs.Ytgbkicelkpagpaa.W
open Go

theorem plot_num : ∀ t, t < 2 → wr .u8 (48 + wr .u8 (Int.ofNat t)) = Int.ofNat (48 + t) := by decide +kernel
theorem plot_ok {ro : List ABlk} {h : Heap} {t : Nat} (ht : t < 2) : callX F1 ro 71 [.i .i64 t] h = some (.i .u8 (48 + t : Nat), h, h.length, h.length) := by
  refine g71_ok (meansX_ok F1 ro) rfl ?_
  unfold g71
  have e : wr .u8 (48 + wr .u8 (t : Int)) = ((48 + t : Nat) : Int) := plot_num t ht
  simp only [forceI_eq, e, tupA]
  exact fin_pure rfl

theorem bw_lt {s : List UInt8} (hs : okR s) {i : Nat} (hi : i < s.length) : bw s i < 2 ∧ 48 ≤ ch s i := by
  unfold bw
  rcases hs i hi with e | e <;> omega
/- a ring as a row with its ends put to it -/
end Go.Proofs.Ytgbkicelkpagpaa.W

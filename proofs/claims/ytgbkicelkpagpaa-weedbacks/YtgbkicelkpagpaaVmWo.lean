/- The reference's orphans, reckoned; Eden and Onto. -/
import Derived.Test.YtgbkicelkpagpaaVmWt
open Go.Vm
set_option linter.unusedVariables false
namespace Go.Proofs.Ytgbkicelkpagpaa.W
open Go

theorem becomes_num : ∀ n, n < 256 → ∀ t, t < 8 → Int.tmod (shrV .i64 (Int.ofNat n) (Int.ofNat t)) 2 = Int.ofNat (nx n t) := by decide +kernel
theorem becomes_ok {ro : List ABlk} {h : Heap} {n l c r : Nat} (hn : n < 256) (hl : l < 2) (hc : c < 2) (hr : r < 2) :
    callX F1 ro 49 [.i .i64 n, .i .i64 l, .i .i64 c, .i .i64 r] h = some (.i .i64 (nx n (4 * l + 2 * c + r) : Nat), h, h.length, h.length) := by
  refine g49_ok (meansX_ok F1 ro) rfl ?_
  unfold g49
  have e1 : wr .i64 (4 * (l : Int)) = 4 * (l : Int) := wr_id' (by omega) (by omega)
  have e2 : wr .i64 (2 * (c : Int)) = 2 * (c : Int) := wr_id' (by omega) (by omega)
  have e3 : wr .i64 (4 * (l : Int) + 2 * (c : Int)) = 4 * (l : Int) + 2 * (c : Int) := wr_id' (by omega) (by omega)
  have e4 : wr .i64 (4 * (l : Int) + 2 * (c : Int) + (r : Int)) = ((4 * l + 2 * c + r : Nat) : Int) := by rw [wr_id' (by omega) (by omega)]; omega
  have e5 : Int.tmod (shrV .i64 (n : Int) ((4 * l + 2 * c + r : Nat) : Int)) 2 = ((nx n (4 * l + 2 * c + r) : Nat) : Int) := becomes_num n hn _ (by omega)
  simp only [forceI_eq, e1, e2, e3, e4, ltI_eq, nneg, chk_true, e5, tupA]
  exact fin_pure rfl

end Go.Proofs.Ytgbkicelkpagpaa.W

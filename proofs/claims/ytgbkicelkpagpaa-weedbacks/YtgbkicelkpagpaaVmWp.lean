/- Rows by numbers. -/
import Derived.Test.YtgbkicelkpagpaaVmWv
open Go.Vm
set_option linter.unusedVariables false
namespace Go.Proofs.Ytgbkicelkpagpaa.W
open Go

theorem bytes_row {t : Tr} {g : Nat → Nat} : ∀ (k i : Nat), (∀ j, j < k → t.get (i + j) = .i .u8 (g (i + j) : Nat) ∧ g (i + j) < 256) → bytesA (t.row i k) = some ((List.range' i k).map fun j => UInt8.ofNat (g j))
  | 0, i, _ => rfl
  | k + 1, i, h => by
    have h0 := h 0 (by omega)
    have ih := bytes_row (t := t) (g := g) k (i + 1) (fun j hj => by have := h (j + 1) (by omega); rwa [show i + 1 + j = i + (j + 1) by omega])
    show bytesA (t.get i :: t.row (i + 1) k) = _
    rw [Nat.add_zero] at h0
    rw [h0.1]
    show cond (Nat.blt (g i) 256) ((bytesA (t.row (i + 1) k)).map (UInt8.ofNat (g i) :: ·)) none = _
    rw [show Nat.blt (g i) 256 = true by rw [Nat.blt_eq]; exact h0.2, ih]
    rfl
theorem bts_ok {ro : List ABlk} {hp : Heap} {b k : Nat} {cap : Cap} {g : Nat → Nat} (h : Vec hp 5 b k (fun j => .i .u8 (g j : Nat))) (hg : ∀ j, j < k → g j < 256) {l p : Nat} :
    btsM ro ⟨hp, l, p⟩ (.sl ⟨false, b, 0⟩ k cap) = some (.s ((List.range k).map fun j => UInt8.ofNat (g j))) := by
  obtain ⟨blk, h1, h2, h3, h4⟩ := h
  have hb : Nat.ble (0 + k) blk.n = true := by rw [Nat.ble_eq]; omega
  have hr := bytes_row (t := blk.c) (g := g) k 0 (fun j hj => by rw [Nat.zero_add]; exact ⟨h4 j hj, hg j hj⟩)
  have h1' : lget (Mm.st ⟨hp, l, p⟩ .e).h b = some (some blk) := h1
  simp only [btsM, st_bts, rdB_heap h1', hb, cond_true, hr, Option.map_some, List.range_eq_range']

end Go.Proofs.Ytgbkicelkpagpaa.W

/- From the statement to the small machine, for numbers as arguments; readings of a rule. -/
import Derived.Test.YtjjinlljdfaipaaVmGt
import Derived.Test.YtjjinlljdfaipaaVmAF
import Derived.Test.YtjjinlljdfaipaaVmFO
import Derived.Test.YtjjinlljdfaipaaRows
import Derived.WalkKit
import Derived.ProofKit
import Derived.OpenShut
import Derived.Carry
import Derived.Below
import Derived.Deep.Matrix
open Go.Vm
set_option linter.unusedVariables false
namespace Go.Proofs.Ytjjinlljdfaipaa.W
open Go Go.RowKit Go.Deep Go.WideShapes Go.ChangeShapes

abbrev F1 : Tab := ⟨F, known0 15 (.b true)⟩
theorem own : ownKnob Try.prog.godebug = none := by kernel_rfl
theorem env_ok {W : World} {ro : List ABlk} {rl : Rl} (h : ∀ (i : Nat) (b : ABlk), ro[i]? = some b → ∃ x, rl[i]? = some x ∧ ∀ j, j < b.n → x.block < W.heap.size ∧ ∃ v', W.cell? (x.add j) = some v' ∧ VR rl [] (b.c.get j) v') :
    (Env.mk Try.prog W.heap.size W ro rl).Ok := ⟨fun i b hb => h i b hb, Nat.le_refl _⟩
theorem alive_any {ro : List ABlk} {h : Heap} : callX F1 ro 15 [] h = some (.b true, h, h.length, h.length) := callX_ov (by rfl)

theorem all_16 {P : Nat → Bool} {j : Nat} (h : ((List.range 16).all fun i => P (16 * j + i)) = true) {n : Nat} (h1 : 16 * j ≤ n) (h2 : n < 16 * j + 16) : P n = true := by
  have := List.all_eq_true.1 h (n - 16 * j) (List.mem_range.2 (by omega))
  rwa [show 16 * j + (n - 16 * j) = n by omega] at this

/- a number that is no rule -/
theorem read_not {ro : List ABlk} {h : Heap} {n : Int} (hn : n < 0 ∨ 255 < n) : callX F1 ro 61 [.i .i64 n] h = some (.tup [.i .u8 0, .i .i64 2], h, h.length, h.length) := by
  refine g61_ok (meansX_ok F1 ro) rfl ?_
  unfold g61
  simp only [forceB_eq, ltI_eq]
  by_cases e : n < 0
  · simp only [decide_eq_true e, cond_true, bindO_some, tupA]
    exact fin_pure rfl
  · have e2 : 255 < n := by omega
    simp only [decide_eq_false e, decide_eq_true e2, cond_false, cond_true, bindO_some, tupA]
    exact fin_pure rfl
theorem u8_nat {n : Int} (h : (Lit.int .u8 n).wf = true) : ∃ k : Nat, n = (k : Int) ∧ k < 256 := by
  have := bounds_u8 h
  exact ⟨n.toNat, by omega, by omega⟩
end Go.Proofs.Ytjjinlljdfaipaa.W

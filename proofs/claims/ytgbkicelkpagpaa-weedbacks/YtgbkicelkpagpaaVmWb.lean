/- From the statement to the small machine, for numbers as arguments; readings of a rule. -/
import Derived.Test.YtgbkicelkpagpaaVmGt
import Derived.Test.YtgbkicelkpagpaaVmAF
import Derived.Test.YtgbkicelkpagpaaVmFO
import Derived.Test.YtgbkicelkpagpaaRows
import Derived.WalkKit
import Derived.ProofKit
import Derived.OpenShut
import Derived.Carry
import Derived.Below
import Derived.Deep.Matrix
open Go.Vm
set_option linter.unusedVariables false
namespace Go.Proofs.Ytgbkicelkpagpaa.W
open Go Go.RowKit Go.Deep Go.WideShapes Go.ChangeShapes

abbrev F1 : Tab := ⟨F, known0 15 (.b true)⟩
theorem own : ownKnob Try.prog.godebug = none := by kernel_rfl
theorem env_ok {W : World} {ro : List ABlk} {rl : Rl} (h : ∀ (i : Nat) (b : ABlk), ro[i]? = some b → ∃ x, rl[i]? = some x ∧ ∀ j, j < b.n → x.block < W.heap.size ∧ ∃ v', W.cell? (x.add j) = some v' ∧ VR rl [] (b.c.get j) v') :
    (Env.mk Try.prog W.heap.size W ro rl).Ok := ⟨fun i b hb => h i b hb, Nat.le_refl _⟩
/-- the call of the model: true, and below nothing has turned -/
theorem call_of (alive : callX ⟨F, noCall⟩ [] 15 [] [] = some (.b true, [], 0, 0)) {W : World} {ro : List ABlk} {rl : Rl} (hE : (Env.mk Try.prog W.heap.size W ro rl).Ok) {K : Nat} {vs : List AVal} {args : Array Value}
    (hv : LR rl [] vs args) {h' : Heap} {lw lp : Nat} (hc : callX F1 ro K vs [] = some (.b true, h', lw, lp)) : Calls Try.prog K args W fun e W' => e = .returned (.bool true) ∧ Below W.heap.size W W' := by
  have hm : (Env.mk Try.prog W.heap.size W ro rl).P.follows .mixedOrders = true := Try.checked.mixed
  have hO : CallOk (Env.mk Try.prog W.heap.size W ro rl) (known0 15 (.b true)) := known0_of hE hm fok alive rfl
  obtain ⟨-, h2⟩ := callX_sound hE hm (F := F1) fok hO K vs [] _ _ _ _ hc
  refine Calls.mono (h2 [] W args ⟨Below.refl _ _, rfl, by simp, fun i b r K hl => by simp [Live] at hl, fun i j b b' r K K' hl => by simp [Live] at hl⟩ hv) fun e w' hq => ?_
  obtain ⟨v', rfl, m', hvr, T⟩ := hq
  exact ⟨by rw [hvr.inv_b], T.hr.below⟩
theorem alive_any {ro : List ABlk} {h : Heap} : callX F1 ro 15 [] h = some (.b true, h, h.length, h.length) := callX_ov (by rfl)

/- a number that is no rule -/
theorem read_not {ro : List ABlk} {h : Heap} {n : Int} (hn : n < 0 ∨ 255 < n) : callX F1 ro 61 [.i .i64 n] h = some (.tup [.i .u8 0, .i .i64 2], h, h.length, h.length) := by
  refine g61_ok (meansX_ok F1 ro) rfl ?_
  unfold g61
  simp only [forceB_eq, ltI_eq]
  by_cases e : n < 0
  · simp only [decide_eq_true e, cond_true, bindO_some, tupA]
    exact fin_pure rfl
  · have e2 : 255 < n := by omega
    simp only [decide_eq_false e, decide_eq_true e2, cond_false, cond_true, bindO_some, tupA]
    exact fin_pure rfl
theorem Rule_not {ro : List ABlk} {h : Heap} {n : Int} (hn : n < 0 ∨ 255 < n) : callX F1 ro 54 [.i .i64 n] h = some (.b false, h, h.length, h.length) := by
  refine g54_ok (meansX_ok F1 ro) rfl ?_
  unfold g54
  simp only [forceB_eq, ltI_eq]
  by_cases e : n < 0
  · simp only [decide_eq_true e, Bool.not_true, cond_false, bindO_some, tupA]
    exact fin_pure rfl
  · have e2 : 255 < n := by omega
    simp only [decide_eq_false e, decide_eq_true e2, Bool.not_false, Bool.not_true, cond_true, bindO_some, tupA]
    exact fin_pure rfl
end Go.Proofs.Ytgbkicelkpagpaa.W

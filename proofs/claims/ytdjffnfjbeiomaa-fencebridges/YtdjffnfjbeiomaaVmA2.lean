/- The polynomials of small gardens, step 2. -/
import Derived.Test.YtdjffnfjbeiomaaVmA0
open Go.Vm
set_option linter.unusedVariables false
namespace Go.Proofs.Ytdjffnfjbeiomaa.T
open Go
theorem p2_0 : isP (reck T1 [2, 0, 1, 1, 2, 0, 0, 0, 0, 0, 0, 0, 0, 0, 0, 0, 0, 0, 0, 0, 0, 0, 0, 0, 0, 0, 0, 0, 0]) [(2, 1)] = true := by decide +kernel
theorem p2_1 : isP (reck T1 [2, 2, 1, 1, 2, 0, 0, 0, 0, 0, 0, 0, 0, 0, 0, 0, 0, 0, 0, 0, 0, 0, 0, 0, 0, 0, 0, 0, 0]) [(1, 1), (8, 1)] = true := by decide +kernel
theorem p2_2 : isP (reck T1 [2, 0, 1, 0, 1, 0, 0, 0, 0, 0, 0, 0, 0, 0, 0, 0, 0, 0, 0, 0, 0, 0, 0, 0, 0, 0, 0, 0, 0]) [(1, 1), (8, 1)] = true := by decide +kernel
theorem p2 : ∀ t ∈ T2, ∃ hp lw lp, callX (FT T1) [] 22 [.agg (t.1.map (AVal.i .i64))] [] = some (.agg ((ofNz t.2).map (AVal.i .i64)), hp, lw, lp) := by
  intro t ht
  simp only [T2, List.mem_cons, List.not_mem_nil, or_false] at ht
  rcases ht with rfl | rfl | rfl
  · exact (let ⟨hp, lw, lp, e⟩ := isP_eq p2_0; ⟨hp, lw, lp, callX_some.2 ⟨100, e⟩⟩)
  · exact (let ⟨hp, lw, lp, e⟩ := isP_eq p2_1; ⟨hp, lw, lp, callX_some.2 ⟨100, e⟩⟩)
  · exact (let ⟨hp, lw, lp, e⟩ := isP_eq p2_2; ⟨hp, lw, lp, callX_some.2 ⟨100, e⟩⟩)
end Go.Proofs.Ytdjffnfjbeiomaa.T

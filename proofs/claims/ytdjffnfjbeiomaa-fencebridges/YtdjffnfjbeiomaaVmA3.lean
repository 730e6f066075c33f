/- The polynomials of small gardens, step 3. -/
import Derived.Test.YtdjffnfjbeiomaaVmA0
open Go.Vm
set_option linter.unusedVariables false
namespace Go.Proofs.Ytdjffnfjbeiomaa.T
open Go
theorem p3_0 : isP (reck T2 [3, 0, 1, 1, 2, 2, 0, 0, 0, 0, 0, 0, 0, 0, 0, 0, 0, 0, 0, 0, 0, 0, 0, 0, 0, 0, 0, 0, 0]) [(1, 1), (2, 1), (8, 1)] = true := by decide +kernel
theorem p3_1 : isP (reck T2 [2, 0, 1, 0, 1, 0, 0, 0, 0, 0, 0, 0, 0, 0, 0, 0, 0, 0, 0, 0, 0, 0, 0, 0, 0, 0, 0, 0, 0]) [(1, 1), (8, 1)] = true := by decide +kernel
theorem p3 : ∀ t ∈ T3, ∃ hp lw lp, callX (FT T2) [] 22 [.agg (t.1.map (AVal.i .i64))] [] = some (.agg ((ofNz t.2).map (AVal.i .i64)), hp, lw, lp) := by
  intro t ht
  simp only [T3, List.mem_cons, List.not_mem_nil, or_false] at ht
  rcases ht with rfl | rfl
  · exact (let ⟨hp, lw, lp, e⟩ := isP_eq p3_0; ⟨hp, lw, lp, callX_some.2 ⟨100, e⟩⟩)
  · exact (let ⟨hp, lw, lp, e⟩ := isP_eq p3_1; ⟨hp, lw, lp, callX_some.2 ⟨100, e⟩⟩)
end Go.Proofs.Ytdjffnfjbeiomaa.T

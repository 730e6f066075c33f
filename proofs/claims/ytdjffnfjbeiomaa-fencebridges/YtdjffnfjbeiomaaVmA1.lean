/- The polynomials of small gardens, step 1. -/
import Derived.Test.YtdjffnfjbeiomaaVmA0
open Go.Vm
set_option linter.unusedVariables false
namespace Go.Proofs.Ytdjffnfjbeiomaa.T
open Go
theorem p1_0 : isP (reck T0 [0, 0, 0, 0, 0, 0, 0, 0, 0, 0, 0, 0, 0, 0, 0, 0, 0, 0, 0, 0, 0, 0, 0, 0, 0, 0, 0, 0, 0]) [(0, 1)] = true := by decide +kernel
theorem p1_1 : isP (reck T0 [1, 0, 1, 0, 0, 0, 0, 0, 0, 0, 0, 0, 0, 0, 0, 0, 0, 0, 0, 0, 0, 0, 0, 0, 0, 0, 0, 0, 0]) [(1, 1)] = true := by decide +kernel
theorem p1_2 : isP (reck T0 [1, 2, 1, 0, 0, 0, 0, 0, 0, 0, 0, 0, 0, 0, 0, 0, 0, 0, 0, 0, 0, 0, 0, 0, 0, 0, 0, 0, 0]) [(1, 1)] = true := by decide +kernel
theorem p1_3 : isP (reck T0 [1, 1, 1, 0, 0, 0, 0, 0, 0, 0, 0, 0, 0, 0, 0, 0, 0, 0, 0, 0, 0, 0, 0, 0, 0, 0, 0, 0, 0]) [(8, 1)] = true := by decide +kernel
theorem p1_4 : isP (reck T0 [1, 0, 0, 0, 0, 0, 0, 0, 0, 0, 0, 0, 0, 0, 0, 0, 0, 0, 0, 0, 0, 0, 0, 0, 0, 0, 0, 0, 0]) [(8, 1)] = true := by decide +kernel
theorem p1 : ∀ t ∈ T1, ∃ hp lw lp, callX (FT T0) [] 22 [.agg (t.1.map (AVal.i .i64))] [] = some (.agg ((ofNz t.2).map (AVal.i .i64)), hp, lw, lp) := by
  intro t ht
  simp only [T1, List.mem_cons, List.not_mem_nil, or_false] at ht
  rcases ht with rfl | rfl | rfl | rfl | rfl
  · exact (let ⟨hp, lw, lp, e⟩ := isP_eq p1_0; ⟨hp, lw, lp, callX_some.2 ⟨100, e⟩⟩)
  · exact (let ⟨hp, lw, lp, e⟩ := isP_eq p1_1; ⟨hp, lw, lp, callX_some.2 ⟨100, e⟩⟩)
  · exact (let ⟨hp, lw, lp, e⟩ := isP_eq p1_2; ⟨hp, lw, lp, callX_some.2 ⟨100, e⟩⟩)
  · exact (let ⟨hp, lw, lp, e⟩ := isP_eq p1_3; ⟨hp, lw, lp, callX_some.2 ⟨100, e⟩⟩)
  · exact (let ⟨hp, lw, lp, e⟩ := isP_eq p1_4; ⟨hp, lw, lp, callX_some.2 ⟨100, e⟩⟩)
end Go.Proofs.Ytdjffnfjbeiomaa.T

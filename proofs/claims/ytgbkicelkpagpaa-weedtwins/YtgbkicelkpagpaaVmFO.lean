/- The functions of the table are those of the program. -/
import Derived.Test.YtgbkicelkpagpaaVmP
import Derived.Test.YtgbkicelkpagpaaProg
import Derived.KernelRfl
import Derived.Test.YtgbkicelkpagpaaVmU
open Go.Vm
namespace Go.Proofs.Ytgbkicelkpagpaa.W
open Go
theorem ok6 : compF Try.prog Try.f6 = some fn6 := by kernel_rfl
theorem ok9 : compF Try.prog Try.f9 = some fn9 := by kernel_rfl
theorem ok13 : compF Try.prog Try.f13 = some fn13 := by kernel_rfl
theorem ok15 : compF Try.prog Try.f15 = some fn15 := by kernel_rfl
theorem ok16 : compF Try.prog Try.f16 = some fn16 := by kernel_rfl
theorem ok18 : compF Try.prog Try.f18 = some fn18 := by kernel_rfl
theorem ok20 : compF Try.prog Try.f20 = some fn20 := by kernel_rfl
theorem ok26 : compF Try.prog Try.f26 = some fn26 := by kernel_rfl
theorem ok28 : compF Try.prog Try.f28 = some fn28 := by kernel_rfl
theorem ok30 : compF Try.prog Try.f30 = some fn30 := by kernel_rfl
theorem ok31 : compF Try.prog Try.f31 = some fn31 := by kernel_rfl
theorem ok32 : compF Try.prog Try.f32 = some fn32 := by kernel_rfl
theorem ok33 : compF Try.prog Try.f33 = some fn33 := by kernel_rfl
theorem ok36 : compF Try.prog Try.f36 = some fn36 := by kernel_rfl
theorem ok38 : compF Try.prog Try.f38 = some fn38 := by kernel_rfl
theorem ok41 : compF Try.prog Try.f41 = some fn41 := by kernel_rfl
theorem ok42 : compF Try.prog Try.f42 = some fn42 := by kernel_rfl
theorem ok45 : compF Try.prog Try.f45 = some fn45 := by kernel_rfl
theorem ok46 : compF Try.prog Try.f46 = some fn46 := by kernel_rfl
theorem ok49 : compF Try.prog Try.f49 = some fn49 := by kernel_rfl
theorem ok50 : compF Try.prog Try.f50 = some fn50 := by kernel_rfl
theorem ok51 : compF Try.prog Try.f51 = some fn51 := by kernel_rfl
theorem ok52 : compF Try.prog Try.f52 = some fn52 := by kernel_rfl
theorem ok53 : compF Try.prog Try.f53 = some fn53 := by kernel_rfl
theorem ok54 : compF Try.prog Try.f54 = some fn54 := by kernel_rfl
theorem ok61 : compF Try.prog Try.f61 = some fn61 := by kernel_rfl
theorem ok62 : compF Try.prog Try.f62 = some fn62 := by kernel_rfl
theorem ok64 : compF Try.prog Try.f64 = some fn64 := by kernel_rfl
theorem ok65 : compF Try.prog Try.f65 = some fn65 := by kernel_rfl
theorem ok66 : compF Try.prog Try.f66 = some fn66 := by kernel_rfl
theorem ok67 : compF Try.prog Try.f67 = some fn67 := by kernel_rfl
theorem ok68 : compF Try.prog Try.f68 = some fn68 := by kernel_rfl
theorem ok69 : compF Try.prog Try.f69 = some fn69 := by kernel_rfl
theorem ok70 : compF Try.prog Try.f70 = some fn70 := by kernel_rfl
theorem ok71 : compF Try.prog Try.f71 = some fn71 := by kernel_rfl
theorem ok72 : compF Try.prog Try.f72 = some fn72 := by kernel_rfl
theorem ok73 : compF Try.prog Try.f73 = some fn73 := by kernel_rfl
theorem ok74 : compF Try.prog Try.f74 = some fn74 := by kernel_rfl
theorem ok75 : compF Try.prog Try.f75 = some fn75 := by kernel_rfl
theorem ok76 : compF Try.prog Try.f76 = some fn76 := by kernel_rfl
theorem ok78 : compF Try.prog Try.f78 = some fn78 := by kernel_rfl
theorem ok79 : compF Try.prog Try.f79 = some fn79 := by kernel_rfl
theorem ok80 : compF Try.prog Try.f80 = some fn80 := by kernel_rfl
theorem ok81 : compF Try.prog Try.f81 = some fn81 := by kernel_rfl
theorem ok82 : compF Try.prog Try.f82 = some fn82 := by kernel_rfl
theorem ok83 : compF Try.prog Try.f83 = some fn83 := by kernel_rfl
theorem ok84 : compF Try.prog Try.f84 = some fn84 := by kernel_rfl
theorem leaf {P : Program} {f k : Nat} {x fn : AFn} {pf : Func} (h1 : P.funcs[k]? = some pf) (h2 : compF P pf = some x) (h : cond (Nat.beq f k) (some x) none = some fn) : ∃ pf, P.funcs[f]? = some pf ∧ compF P pf = some fn := by
  cases hb : Nat.beq f k
  · rw [hb] at h; cases h
  · rw [hb] at h; cases h
    have := Nat.eq_of_beq_eq_true hb
    subst this
    exact ⟨pf, h1, h2⟩
theorem node {f k : Nat} {fn : AFn} {A B : Option AFn} {G : Prop} (hA : A = some fn → G) (hB : B = some fn → G) (h : cond (Nat.blt f k) A B = some fn) : G := by
  cases hb : Nat.blt f k
  · rw [hb] at h; exact hB h
  · rw [hb] at h; exact hA h
theorem fok : FOk Try.prog F := fun _ _ h => (node (node (node (node (node (leaf Try.func6 ok6) (leaf Try.func9 ok9)) (node (leaf Try.func13 ok13) (node (leaf Try.func15 ok15) (leaf Try.func16 ok16)))) (node (node (leaf Try.func18 ok18) (node (leaf Try.func20 ok20) (leaf Try.func26 ok26))) (node (leaf Try.func28 ok28) (node (leaf Try.func30 ok30) (leaf Try.func31 ok31))))) (node (node (node (leaf Try.func32 ok32) (node (leaf Try.func33 ok33) (leaf Try.func36 ok36))) (node (leaf Try.func38 ok38) (node (leaf Try.func41 ok41) (leaf Try.func42 ok42)))) (node (node (leaf Try.func45 ok45) (node (leaf Try.func46 ok46) (leaf Try.func49 ok49))) (node (leaf Try.func50 ok50) (node (leaf Try.func51 ok51) (leaf Try.func52 ok52)))))) (node (node (node (node (leaf Try.func53 ok53) (node (leaf Try.func54 ok54) (leaf Try.func61 ok61))) (node (leaf Try.func62 ok62) (node (leaf Try.func64 ok64) (leaf Try.func65 ok65)))) (node (node (leaf Try.func66 ok66) (node (leaf Try.func67 ok67) (leaf Try.func68 ok68))) (node (leaf Try.func69 ok69) (node (leaf Try.func70 ok70) (leaf Try.func71 ok71))))) (node (node (node (leaf Try.func72 ok72) (node (leaf Try.func73 ok73) (leaf Try.func74 ok74))) (node (leaf Try.func75 ok75) (node (leaf Try.func76 ok76) (leaf Try.func78 ok78)))) (node (node (leaf Try.func79 ok79) (node (leaf Try.func80 ok80) (leaf Try.func81 ok81))) (node (leaf Try.func82 ok82) (node (leaf Try.func83 ok83) (leaf Try.func84 ok84))))))) h
end Go.Proofs.Ytgbkicelkpagpaa.W

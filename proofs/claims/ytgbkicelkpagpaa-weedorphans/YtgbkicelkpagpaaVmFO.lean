/- The functions of the table are those of the program. -/
import Derived.Test.YtgbkicelkpagpaaVmP
import Derived.Test.YtgbkicelkpagpaaProg
import Derived.KernelRfl
import Derived.Test.YtgbkicelkpagpaaVmU
open Go.Vm
namespace Go.Proofs.Ytgbkicelkpagpaa.W
open Go
theorem ok5 : compF Try.prog Try.f5 = some fn5 := by kernel_rfl
theorem ok9 : compF Try.prog Try.f9 = some fn9 := by kernel_rfl
theorem ok15 : compF Try.prog Try.f15 = some fn15 := by kernel_rfl
theorem ok16 : compF Try.prog Try.f16 = some fn16 := by kernel_rfl
theorem ok20 : compF Try.prog Try.f20 = some fn20 := by kernel_rfl
theorem ok26 : compF Try.prog Try.f26 = some fn26 := by kernel_rfl
theorem ok27 : compF Try.prog Try.f27 = some fn27 := by kernel_rfl
theorem ok28 : compF Try.prog Try.f28 = some fn28 := by kernel_rfl
theorem ok29 : compF Try.prog Try.f29 = some fn29 := by kernel_rfl
theorem ok30 : compF Try.prog Try.f30 = some fn30 := by kernel_rfl
theorem ok36 : compF Try.prog Try.f36 = some fn36 := by kernel_rfl
theorem ok45 : compF Try.prog Try.f45 = some fn45 := by kernel_rfl
theorem ok46 : compF Try.prog Try.f46 = some fn46 := by kernel_rfl
theorem ok49 : compF Try.prog Try.f49 = some fn49 := by kernel_rfl
theorem ok53 : compF Try.prog Try.f53 = some fn53 := by kernel_rfl
theorem ok54 : compF Try.prog Try.f54 = some fn54 := by kernel_rfl
theorem ok58 : compF Try.prog Try.f58 = some fn58 := by kernel_rfl
theorem ok59 : compF Try.prog Try.f59 = some fn59 := by kernel_rfl
theorem ok61 : compF Try.prog Try.f61 = some fn61 := by kernel_rfl
theorem ok62 : compF Try.prog Try.f62 = some fn62 := by kernel_rfl
theorem ok63 : compF Try.prog Try.f63 = some fn63 := by kernel_rfl
theorem ok64 : compF Try.prog Try.f64 = some fn64 := by kernel_rfl
theorem ok69 : compF Try.prog Try.f69 = some fn69 := by kernel_rfl
theorem ok71 : compF Try.prog Try.f71 = some fn71 := by kernel_rfl
theorem ok72 : compF Try.prog Try.f72 = some fn72 := by kernel_rfl
theorem ok73 : compF Try.prog Try.f73 = some fn73 := by kernel_rfl
theorem ok74 : compF Try.prog Try.f74 = some fn74 := by kernel_rfl
theorem ok75 : compF Try.prog Try.f75 = some fn75 := by kernel_rfl
theorem ok76 : compF Try.prog Try.f76 = some fn76 := by kernel_rfl
theorem ok77 : compF Try.prog Try.f77 = some fn77 := by kernel_rfl
theorem ok78 : compF Try.prog Try.f78 = some fn78 := by kernel_rfl
theorem ok79 : compF Try.prog Try.f79 = some fn79 := by kernel_rfl
theorem ok82 : compF Try.prog Try.f82 = some fn82 := by kernel_rfl
theorem ok83 : compF Try.prog Try.f83 = some fn83 := by kernel_rfl
theorem ok84 : compF Try.prog Try.f84 = some fn84 := by kernel_rfl
theorem leaf {P : Program} {f k : Nat} {x fn : AFn} {pf : Func} (h1 : P.funcs[k]? = some pf) (h2 : compF P pf = some x) (h : cond (Nat.beq f k) (some x) none = some fn) : ∃ pf, P.funcs[f]? = some pf ∧ compF P pf = some fn := by
  cases hb : Nat.beq f k
  · rw [hb] at h; cases h
  · rw [hb] at h; cases h
    have := Nat.eq_of_beq_eq_true hb
    subst this
    exact ⟨pf, h1, h2⟩
theorem node {f k : Nat} {fn : AFn} {A B : Option AFn} {G : Prop} (hA : A = some fn → G) (hB : B = some fn → G) (h : cond (Nat.blt f k) A B = some fn) : G := by
  cases hb : Nat.blt f k
  · rw [hb] at h; exact hB h
  · rw [hb] at h; exact hA h
theorem fok : FOk Try.prog F := fun _ _ h => (node (node (node (node (node (leaf Try.func5 ok5) (leaf Try.func9 ok9)) (node (leaf Try.func15 ok15) (leaf Try.func16 ok16))) (node (node (leaf Try.func20 ok20) (leaf Try.func26 ok26)) (node (leaf Try.func27 ok27) (leaf Try.func28 ok28)))) (node (node (node (leaf Try.func29 ok29) (leaf Try.func30 ok30)) (node (leaf Try.func36 ok36) (leaf Try.func45 ok45))) (node (node (leaf Try.func46 ok46) (leaf Try.func49 ok49)) (node (leaf Try.func53 ok53) (node (leaf Try.func54 ok54) (leaf Try.func58 ok58)))))) (node (node (node (node (leaf Try.func59 ok59) (leaf Try.func61 ok61)) (node (leaf Try.func62 ok62) (leaf Try.func63 ok63))) (node (node (leaf Try.func64 ok64) (leaf Try.func69 ok69)) (node (leaf Try.func71 ok71) (node (leaf Try.func72 ok72) (leaf Try.func73 ok73))))) (node (node (node (leaf Try.func74 ok74) (leaf Try.func75 ok75)) (node (leaf Try.func76 ok76) (leaf Try.func77 ok77))) (node (node (leaf Try.func78 ok78) (leaf Try.func79 ok79)) (node (leaf Try.func82 ok82) (node (leaf Try.func83 ok83) (leaf Try.func84 ok84))))))) h
end Go.Proofs.Ytgbkicelkpagpaa.W

/- The functions of the table are those of the program. -/
import Derived.Test.YtgbkicelkpagpaaVmP
import Derived.Test.YtgbkicelkpagpaaProg
import Derived.KernelRfl
import Derived.Test.YtgbkicelkpagpaaVmU
open Go.Vm
namespace Go.Proofs.Ytgbkicelkpagpaa.W
open Go
theorem ok7 : compF Try.prog Try.f7 = some fn7 := by kernel_rfl
theorem ok15 : compF Try.prog Try.f15 = some fn15 := by kernel_rfl
theorem ok16 : compF Try.prog Try.f16 = some fn16 := by kernel_rfl
theorem ok26 : compF Try.prog Try.f26 = some fn26 := by kernel_rfl
theorem ok28 : compF Try.prog Try.f28 = some fn28 := by kernel_rfl
theorem ok34 : compF Try.prog Try.f34 = some fn34 := by kernel_rfl
theorem ok35 : compF Try.prog Try.f35 = some fn35 := by kernel_rfl
theorem ok36 : compF Try.prog Try.f36 = some fn36 := by kernel_rfl
theorem ok43 : compF Try.prog Try.f43 = some fn43 := by kernel_rfl
theorem ok45 : compF Try.prog Try.f45 = some fn45 := by kernel_rfl
theorem ok46 : compF Try.prog Try.f46 = some fn46 := by kernel_rfl
theorem ok47 : compF Try.prog Try.f47 = some fn47 := by kernel_rfl
theorem ok48 : compF Try.prog Try.f48 = some fn48 := by kernel_rfl
theorem ok49 : compF Try.prog Try.f49 = some fn49 := by kernel_rfl
theorem ok51 : compF Try.prog Try.f51 = some fn51 := by kernel_rfl
theorem ok52 : compF Try.prog Try.f52 = some fn52 := by kernel_rfl
theorem ok54 : compF Try.prog Try.f54 = some fn54 := by kernel_rfl
theorem ok61 : compF Try.prog Try.f61 = some fn61 := by kernel_rfl
theorem ok62 : compF Try.prog Try.f62 = some fn62 := by kernel_rfl
theorem ok67 : compF Try.prog Try.f67 = some fn67 := by kernel_rfl
theorem ok69 : compF Try.prog Try.f69 = some fn69 := by kernel_rfl
theorem ok71 : compF Try.prog Try.f71 = some fn71 := by kernel_rfl
theorem ok72 : compF Try.prog Try.f72 = some fn72 := by kernel_rfl
theorem ok73 : compF Try.prog Try.f73 = some fn73 := by kernel_rfl
theorem ok76 : compF Try.prog Try.f76 = some fn76 := by kernel_rfl
theorem ok78 : compF Try.prog Try.f78 = some fn78 := by kernel_rfl
theorem ok82 : compF Try.prog Try.f82 = some fn82 := by kernel_rfl
theorem ok83 : compF Try.prog Try.f83 = some fn83 := by kernel_rfl
theorem ok84 : compF Try.prog Try.f84 = some fn84 := by kernel_rfl
theorem leaf {P : Program} {f k : Nat} {x fn : AFn} {pf : Func} (h1 : P.funcs[k]? = some pf) (h2 : compF P pf = some x) (h : cond (Nat.beq f k) (some x) none = some fn) : ∃ pf, P.funcs[f]? = some pf ∧ compF P pf = some fn := by
  cases hb : Nat.beq f k
  · rw [hb] at h; cases h
  · rw [hb] at h; cases h
    have := Nat.eq_of_beq_eq_true hb
    subst this
    exact ⟨pf, h1, h2⟩
theorem node {f k : Nat} {fn : AFn} {A B : Option AFn} {G : Prop} (hA : A = some fn → G) (hB : B = some fn → G) (h : cond (Nat.blt f k) A B = some fn) : G := by
  cases hb : Nat.blt f k
  · rw [hb] at h; exact hB h
  · rw [hb] at h; exact hA h
theorem fok : FOk Try.prog F := fun _ _ h => (node (node (node (node (leaf Try.func7 ok7) (node (leaf Try.func15 ok15) (leaf Try.func16 ok16))) (node (node (leaf Try.func26 ok26) (leaf Try.func28 ok28)) (node (leaf Try.func34 ok34) (leaf Try.func35 ok35)))) (node (node (leaf Try.func36 ok36) (node (leaf Try.func43 ok43) (leaf Try.func45 ok45))) (node (node (leaf Try.func46 ok46) (leaf Try.func47 ok47)) (node (leaf Try.func48 ok48) (leaf Try.func49 ok49))))) (node (node (node (leaf Try.func51 ok51) (node (leaf Try.func52 ok52) (leaf Try.func54 ok54))) (node (node (leaf Try.func61 ok61) (leaf Try.func62 ok62)) (node (leaf Try.func67 ok67) (leaf Try.func69 ok69)))) (node (node (node (leaf Try.func71 ok71) (leaf Try.func72 ok72)) (node (leaf Try.func73 ok73) (leaf Try.func76 ok76))) (node (node (leaf Try.func78 ok78) (leaf Try.func82 ok82)) (node (leaf Try.func83 ok83) (leaf Try.func84 ok84)))))) h
end Go.Proofs.Ytgbkicelkpagpaa.W

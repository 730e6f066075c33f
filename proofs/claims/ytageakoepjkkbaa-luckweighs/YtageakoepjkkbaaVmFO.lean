/- The functions of the table are those of the program. -/
import Derived.Test.YtageakoepjkkbaaVmP
import Derived.Test.YtageakoepjkkbaaProg
import Derived.KernelRfl
import Derived.Test.YtageakoepjkkbaaVmU
open Go.Vm
namespace Go.Proofs.Ytageakoepjkkbaa.T
open Go
theorem ok4 : compF Try.prog Try.f4 = some fn4 := by kernel_rfl
theorem ok15 : compF Try.prog Try.f15 = some fn15 := by kernel_rfl
theorem ok16 : compF Try.prog Try.f16 = some fn16 := by kernel_rfl
theorem ok20 : compF Try.prog Try.f20 = some fn20 := by kernel_rfl
theorem ok23 : compF Try.prog Try.f23 = some fn23 := by kernel_rfl
theorem ok24 : compF Try.prog Try.f24 = some fn24 := by kernel_rfl
theorem ok25 : compF Try.prog Try.f25 = some fn25 := by kernel_rfl
theorem ok26 : compF Try.prog Try.f26 = some fn26 := by kernel_rfl
theorem ok29 : compF Try.prog Try.f29 = some fn29 := by kernel_rfl
theorem ok31 : compF Try.prog Try.f31 = some fn31 := by kernel_rfl
theorem ok35 : compF Try.prog Try.f35 = some fn35 := by kernel_rfl
theorem ok38 : compF Try.prog Try.f38 = some fn38 := by kernel_rfl
theorem ok49 : compF Try.prog Try.f49 = some fn49 := by kernel_rfl
theorem ok50 : compF Try.prog Try.f50 = some fn50 := by kernel_rfl
theorem ok52 : compF Try.prog Try.f52 = some fn52 := by kernel_rfl
theorem ok53 : compF Try.prog Try.f53 = some fn53 := by kernel_rfl
theorem ok54 : compF Try.prog Try.f54 = some fn54 := by kernel_rfl
theorem ok55 : compF Try.prog Try.f55 = some fn55 := by kernel_rfl
theorem ok58 : compF Try.prog Try.f58 = some fn58 := by kernel_rfl
theorem ok59 : compF Try.prog Try.f59 = some fn59 := by kernel_rfl
theorem ok61 : compF Try.prog Try.f61 = some fn61 := by kernel_rfl
theorem ok62 : compF Try.prog Try.f62 = some fn62 := by kernel_rfl
theorem ok63 : compF Try.prog Try.f63 = some fn63 := by kernel_rfl
theorem ok64 : compF Try.prog Try.f64 = some fn64 := by kernel_rfl
theorem ok65 : compF Try.prog Try.f65 = some fn65 := by kernel_rfl
theorem ok68 : compF Try.prog Try.f68 = some fn68 := by kernel_rfl
theorem ok69 : compF Try.prog Try.f69 = some fn69 := by kernel_rfl
theorem ok76 : compF Try.prog Try.f76 = some fn76 := by kernel_rfl
theorem ok78 : compF Try.prog Try.f78 = some fn78 := by kernel_rfl
theorem ok82 : compF Try.prog Try.f82 = some fn82 := by kernel_rfl
theorem ok83 : compF Try.prog Try.f83 = some fn83 := by kernel_rfl
theorem ok99 : compF Try.prog Try.f99 = some fn99 := by kernel_rfl
theorem ok100 : compF Try.prog Try.f100 = some fn100 := by kernel_rfl
theorem ok101 : compF Try.prog Try.f101 = some fn101 := by kernel_rfl
theorem ok102 : compF Try.prog Try.f102 = some fn102 := by kernel_rfl
theorem ok103 : compF Try.prog Try.f103 = some fn103 := by kernel_rfl
theorem ok104 : compF Try.prog Try.f104 = some fn104 := by kernel_rfl
theorem ok105 : compF Try.prog Try.f105 = some fn105 := by kernel_rfl
theorem leaf {P : Program} {f k : Nat} {x fn : AFn} {pf : Func} (h1 : P.funcs[k]? = some pf) (h2 : compF P pf = some x) (h : cond (Nat.beq f k) (some x) none = some fn) : ∃ pf, P.funcs[f]? = some pf ∧ compF P pf = some fn := by
  cases hb : Nat.beq f k
  · rw [hb] at h; cases h
  · rw [hb] at h; cases h
    have := Nat.eq_of_beq_eq_true hb
    subst this
    exact ⟨pf, h1, h2⟩
theorem node {f k : Nat} {fn : AFn} {A B : Option AFn} {G : Prop} (hA : A = some fn → G) (hB : B = some fn → G) (h : cond (Nat.blt f k) A B = some fn) : G := by
  cases hb : Nat.blt f k
  · rw [hb] at h; exact hB h
  · rw [hb] at h; exact hA h
theorem fok : FOk Try.prog F := fun _ _ h => (node (node (node (node (node (leaf Try.func4 ok4) (leaf Try.func15 ok15)) (node (leaf Try.func16 ok16) (leaf Try.func20 ok20))) (node (node (leaf Try.func23 ok23) (leaf Try.func24 ok24)) (node (leaf Try.func25 ok25) (node (leaf Try.func26 ok26) (leaf Try.func29 ok29))))) (node (node (node (leaf Try.func31 ok31) (leaf Try.func35 ok35)) (node (leaf Try.func38 ok38) (node (leaf Try.func49 ok49) (leaf Try.func50 ok50)))) (node (node (leaf Try.func52 ok52) (leaf Try.func53 ok53)) (node (leaf Try.func54 ok54) (node (leaf Try.func55 ok55) (leaf Try.func58 ok58)))))) (node (node (node (node (leaf Try.func59 ok59) (leaf Try.func61 ok61)) (node (leaf Try.func62 ok62) (leaf Try.func63 ok63))) (node (node (leaf Try.func64 ok64) (leaf Try.func65 ok65)) (node (leaf Try.func68 ok68) (node (leaf Try.func69 ok69) (leaf Try.func76 ok76))))) (node (node (node (leaf Try.func78 ok78) (leaf Try.func82 ok82)) (node (leaf Try.func83 ok83) (node (leaf Try.func99 ok99) (leaf Try.func100 ok100)))) (node (node (leaf Try.func101 ok101) (leaf Try.func102 ok102)) (node (leaf Try.func103 ok103) (node (leaf Try.func104 ok104) (leaf Try.func105 ok105))))))) h
end Go.Proofs.Ytageakoepjkkbaa.T

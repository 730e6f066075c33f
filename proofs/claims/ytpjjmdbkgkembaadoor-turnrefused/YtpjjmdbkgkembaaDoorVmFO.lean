/- The functions of the table are those of the program. -/
import Derived.Test.YtpjjmdbkgkembaaDoorVmP
import Derived.Test.YtpjjmdbkgkembaaDoorProg
import Derived.KernelRfl
import Derived.Test.YtpjjmdbkgkembaaDoorVmU
open Go.Vm
namespace Go.Proofs.YtpjjmdbkgkembaaDoor.T
open Go
theorem ok9 : compF Tryd.prog Tryd.f9 = some fn9 := by kernel_rfl
theorem ok15 : compF Tryd.prog Tryd.f15 = some fn15 := by kernel_rfl
theorem ok16 : compF Tryd.prog Tryd.f16 = some fn16 := by kernel_rfl
theorem ok17 : compF Tryd.prog Tryd.f17 = some fn17 := by kernel_rfl
theorem ok19 : compF Tryd.prog Tryd.f19 = some fn19 := by kernel_rfl
theorem ok20 : compF Tryd.prog Tryd.f20 = some fn20 := by kernel_rfl
theorem ok22 : compF Tryd.prog Tryd.f22 = some fn22 := by kernel_rfl
theorem ok30 : compF Tryd.prog Tryd.f30 = some fn30 := by kernel_rfl
theorem ok32 : compF Tryd.prog Tryd.f32 = some fn32 := by kernel_rfl
theorem ok36 : compF Tryd.prog Tryd.f36 = some fn36 := by kernel_rfl
theorem ok38 : compF Tryd.prog Tryd.f38 = some fn38 := by kernel_rfl
theorem ok42 : compF Tryd.prog Tryd.f42 = some fn42 := by kernel_rfl
theorem ok43 : compF Tryd.prog Tryd.f43 = some fn43 := by kernel_rfl
theorem ok44 : compF Tryd.prog Tryd.f44 = some fn44 := by kernel_rfl
theorem ok54 : compF Tryd.prog Tryd.f54 = some fn54 := by kernel_rfl
theorem ok55 : compF Tryd.prog Tryd.f55 = some fn55 := by kernel_rfl
theorem ok57 : compF Tryd.prog Tryd.f57 = some fn57 := by kernel_rfl
theorem ok60 : compF Tryd.prog Tryd.f60 = some fn60 := by kernel_rfl
theorem ok61 : compF Tryd.prog Tryd.f61 = some fn61 := by kernel_rfl
theorem ok62 : compF Tryd.prog Tryd.f62 = some fn62 := by kernel_rfl
theorem ok63 : compF Tryd.prog Tryd.f63 = some fn63 := by kernel_rfl
theorem ok64 : compF Tryd.prog Tryd.f64 = some fn64 := by kernel_rfl
theorem ok65 : compF Tryd.prog Tryd.f65 = some fn65 := by kernel_rfl
theorem ok70 : compF Tryd.prog Tryd.f70 = some fn70 := by kernel_rfl
theorem ok74 : compF Tryd.prog Tryd.f74 = some fn74 := by kernel_rfl
theorem ok75 : compF Tryd.prog Tryd.f75 = some fn75 := by kernel_rfl
theorem ok76 : compF Tryd.prog Tryd.f76 = some fn76 := by kernel_rfl
theorem ok77 : compF Tryd.prog Tryd.f77 = some fn77 := by kernel_rfl
theorem ok78 : compF Tryd.prog Tryd.f78 = some fn78 := by kernel_rfl
theorem ok79 : compF Tryd.prog Tryd.f79 = some fn79 := by kernel_rfl
theorem leaf {P : Program} {f k : Nat} {x fn : AFn} {pf : Func} (h1 : P.funcs[k]? = some pf) (h2 : compF P pf = some x) (h : cond (Nat.beq f k) (some x) none = some fn) : ∃ pf, P.funcs[f]? = some pf ∧ compF P pf = some fn := by
  cases hb : Nat.beq f k
  · rw [hb] at h; cases h
  · rw [hb] at h; cases h
    have := Nat.eq_of_beq_eq_true hb
    subst this
    exact ⟨pf, h1, h2⟩
theorem node {f k : Nat} {fn : AFn} {A B : Option AFn} {G : Prop} (hA : A = some fn → G) (hB : B = some fn → G) (h : cond (Nat.blt f k) A B = some fn) : G := by
  cases hb : Nat.blt f k
  · rw [hb] at h; exact hB h
  · rw [hb] at h; exact hA h
theorem fok : FOk Tryd.prog F := fun _ _ h => (node (node (node (node (leaf Tryd.func9 ok9) (node (leaf Tryd.func15 ok15) (leaf Tryd.func16 ok16))) (node (node (leaf Tryd.func17 ok17) (leaf Tryd.func19 ok19)) (node (leaf Tryd.func20 ok20) (leaf Tryd.func22 ok22)))) (node (node (node (leaf Tryd.func30 ok30) (leaf Tryd.func32 ok32)) (node (leaf Tryd.func36 ok36) (leaf Tryd.func38 ok38))) (node (node (leaf Tryd.func42 ok42) (leaf Tryd.func43 ok43)) (node (leaf Tryd.func44 ok44) (leaf Tryd.func54 ok54))))) (node (node (node (leaf Tryd.func55 ok55) (node (leaf Tryd.func57 ok57) (leaf Tryd.func60 ok60))) (node (node (leaf Tryd.func61 ok61) (leaf Tryd.func62 ok62)) (node (leaf Tryd.func63 ok63) (leaf Tryd.func64 ok64)))) (node (node (node (leaf Tryd.func65 ok65) (leaf Tryd.func70 ok70)) (node (leaf Tryd.func74 ok74) (leaf Tryd.func75 ok75))) (node (node (leaf Tryd.func76 ok76) (leaf Tryd.func77 ok77)) (node (leaf Tryd.func78 ok78) (leaf Tryd.func79 ok79)))))) h
end Go.Proofs.YtpjjmdbkgkembaaDoor.T

/- The functions of the table are those of the program. -/
import Derived.Test.YtddnpchfjdgigaaDoorVmP
import Derived.Test.YtddnpchfjdgigaaDoorProg
import Derived.KernelRfl
import Derived.Test.YtddnpchfjdgigaaDoorVmU
open Go.Vm
namespace Go.Proofs.YtddnpchfjdgigaaDoor.T
open Go
theorem ok8 : compF Tryd.prog Tryd.f8 = some fn8 := by kernel_rfl
theorem ok16 : compF Tryd.prog Tryd.f16 = some fn16 := by kernel_rfl
theorem ok17 : compF Tryd.prog Tryd.f17 = some fn17 := by kernel_rfl
theorem ok19 : compF Tryd.prog Tryd.f19 = some fn19 := by kernel_rfl
theorem ok22 : compF Tryd.prog Tryd.f22 = some fn22 := by kernel_rfl
theorem ok24 : compF Tryd.prog Tryd.f24 = some fn24 := by kernel_rfl
theorem ok32 : compF Tryd.prog Tryd.f32 = some fn32 := by kernel_rfl
theorem ok42 : compF Tryd.prog Tryd.f42 = some fn42 := by kernel_rfl
theorem ok43 : compF Tryd.prog Tryd.f43 = some fn43 := by kernel_rfl
theorem ok44 : compF Tryd.prog Tryd.f44 = some fn44 := by kernel_rfl
theorem ok48 : compF Tryd.prog Tryd.f48 = some fn48 := by kernel_rfl
theorem ok49 : compF Tryd.prog Tryd.f49 = some fn49 := by kernel_rfl
theorem ok55 : compF Tryd.prog Tryd.f55 = some fn55 := by kernel_rfl
theorem ok57 : compF Tryd.prog Tryd.f57 = some fn57 := by kernel_rfl
theorem ok60 : compF Tryd.prog Tryd.f60 = some fn60 := by kernel_rfl
theorem ok61 : compF Tryd.prog Tryd.f61 = some fn61 := by kernel_rfl
theorem ok62 : compF Tryd.prog Tryd.f62 = some fn62 := by kernel_rfl
theorem ok63 : compF Tryd.prog Tryd.f63 = some fn63 := by kernel_rfl
theorem ok64 : compF Tryd.prog Tryd.f64 = some fn64 := by kernel_rfl
theorem ok65 : compF Tryd.prog Tryd.f65 = some fn65 := by kernel_rfl
theorem ok70 : compF Tryd.prog Tryd.f70 = some fn70 := by kernel_rfl
theorem ok74 : compF Tryd.prog Tryd.f74 = some fn74 := by kernel_rfl
theorem ok75 : compF Tryd.prog Tryd.f75 = some fn75 := by kernel_rfl
theorem ok76 : compF Tryd.prog Tryd.f76 = some fn76 := by kernel_rfl
theorem ok77 : compF Tryd.prog Tryd.f77 = some fn77 := by kernel_rfl
theorem ok78 : compF Tryd.prog Tryd.f78 = some fn78 := by kernel_rfl
theorem ok79 : compF Tryd.prog Tryd.f79 = some fn79 := by kernel_rfl
theorem leaf {P : Program} {f k : Nat} {x fn : AFn} {pf : Func} (h1 : P.funcs[k]? = some pf) (h2 : compF P pf = some x) (h : cond (Nat.beq f k) (some x) none = some fn) : ∃ pf, P.funcs[f]? = some pf ∧ compF P pf = some fn := by
  cases hb : Nat.beq f k
  · rw [hb] at h; cases h
  · rw [hb] at h; cases h
    have := Nat.eq_of_beq_eq_true hb
    subst this
    exact ⟨pf, h1, h2⟩
theorem node {f k : Nat} {fn : AFn} {A B : Option AFn} {G : Prop} (hA : A = some fn → G) (hB : B = some fn → G) (h : cond (Nat.blt f k) A B = some fn) : G := by
  cases hb : Nat.blt f k
  · rw [hb] at h; exact hB h
  · rw [hb] at h; exact hA h
theorem fok : FOk Tryd.prog F := fun _ _ h => (node (node (node (node (leaf Tryd.func8 ok8) (node (leaf Tryd.func16 ok16) (leaf Tryd.func17 ok17))) (node (leaf Tryd.func19 ok19) (node (leaf Tryd.func22 ok22) (leaf Tryd.func24 ok24)))) (node (node (leaf Tryd.func32 ok32) (node (leaf Tryd.func42 ok42) (leaf Tryd.func43 ok43))) (node (node (leaf Tryd.func44 ok44) (leaf Tryd.func48 ok48)) (node (leaf Tryd.func49 ok49) (leaf Tryd.func55 ok55))))) (node (node (node (leaf Tryd.func57 ok57) (node (leaf Tryd.func60 ok60) (leaf Tryd.func61 ok61))) (node (node (leaf Tryd.func62 ok62) (leaf Tryd.func63 ok63)) (node (leaf Tryd.func64 ok64) (leaf Tryd.func65 ok65)))) (node (node (leaf Tryd.func70 ok70) (node (leaf Tryd.func74 ok74) (leaf Tryd.func75 ok75))) (node (node (leaf Tryd.func76 ok76) (leaf Tryd.func77 ok77)) (node (leaf Tryd.func78 ok78) (leaf Tryd.func79 ok79)))))) h
end Go.Proofs.YtddnpchfjdgigaaDoor.T

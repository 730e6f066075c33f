/- The functions of the table are those of the program. -/
import Derived.Test.YtobmcofkcfifkaaVmP
import Derived.Test.YtobmcofkcfifkaaProg
import Derived.KernelRfl
import Derived.Test.YtobmcofkcfifkaaVmU
open Go.Vm
namespace Go.Proofs.Ytobmcofkcfifkaa.T
open Go
theorem ok5 : compF Try.prog Try.f5 = some fn5 := by kernel_rfl
theorem ok18 : compF Try.prog Try.f18 = some fn18 := by kernel_rfl
theorem ok19 : compF Try.prog Try.f19 = some fn19 := by kernel_rfl
theorem ok25 : compF Try.prog Try.f25 = some fn25 := by kernel_rfl
theorem ok26 : compF Try.prog Try.f26 = some fn26 := by kernel_rfl
theorem ok27 : compF Try.prog Try.f27 = some fn27 := by kernel_rfl
theorem ok28 : compF Try.prog Try.f28 = some fn28 := by kernel_rfl
theorem ok29 : compF Try.prog Try.f29 = some fn29 := by kernel_rfl
theorem ok37 : compF Try.prog Try.f37 = some fn37 := by kernel_rfl
theorem ok39 : compF Try.prog Try.f39 = some fn39 := by kernel_rfl
theorem ok50 : compF Try.prog Try.f50 = some fn50 := by kernel_rfl
theorem ok51 : compF Try.prog Try.f51 = some fn51 := by kernel_rfl
theorem ok52 : compF Try.prog Try.f52 = some fn52 := by kernel_rfl
theorem ok53 : compF Try.prog Try.f53 = some fn53 := by kernel_rfl
theorem ok54 : compF Try.prog Try.f54 = some fn54 := by kernel_rfl
theorem ok59 : compF Try.prog Try.f59 = some fn59 := by kernel_rfl
theorem ok60 : compF Try.prog Try.f60 = some fn60 := by kernel_rfl
theorem ok61 : compF Try.prog Try.f61 = some fn61 := by kernel_rfl
theorem ok62 : compF Try.prog Try.f62 = some fn62 := by kernel_rfl
theorem ok63 : compF Try.prog Try.f63 = some fn63 := by kernel_rfl
theorem ok64 : compF Try.prog Try.f64 = some fn64 := by kernel_rfl
theorem ok65 : compF Try.prog Try.f65 = some fn65 := by kernel_rfl
theorem ok66 : compF Try.prog Try.f66 = some fn66 := by kernel_rfl
theorem ok68 : compF Try.prog Try.f68 = some fn68 := by kernel_rfl
theorem ok71 : compF Try.prog Try.f71 = some fn71 := by kernel_rfl
theorem ok72 : compF Try.prog Try.f72 = some fn72 := by kernel_rfl
theorem ok73 : compF Try.prog Try.f73 = some fn73 := by kernel_rfl
theorem ok75 : compF Try.prog Try.f75 = some fn75 := by kernel_rfl
theorem ok76 : compF Try.prog Try.f76 = some fn76 := by kernel_rfl
theorem ok78 : compF Try.prog Try.f78 = some fn78 := by kernel_rfl
theorem ok85 : compF Try.prog Try.f85 = some fn85 := by kernel_rfl
theorem ok86 : compF Try.prog Try.f86 = some fn86 := by kernel_rfl
theorem leaf {P : Program} {f k : Nat} {x fn : AFn} {pf : Func} (h1 : P.funcs[k]? = some pf) (h2 : compF P pf = some x) (h : cond (Nat.beq f k) (some x) none = some fn) : ∃ pf, P.funcs[f]? = some pf ∧ compF P pf = some fn := by
  cases hb : Nat.beq f k
  · rw [hb] at h; cases h
  · rw [hb] at h; cases h
    have := Nat.eq_of_beq_eq_true hb
    subst this
    exact ⟨pf, h1, h2⟩
theorem node {f k : Nat} {fn : AFn} {A B : Option AFn} {G : Prop} (hA : A = some fn → G) (hB : B = some fn → G) (h : cond (Nat.blt f k) A B = some fn) : G := by
  cases hb : Nat.blt f k
  · rw [hb] at h; exact hB h
  · rw [hb] at h; exact hA h
theorem fok : FOk Try.prog F := fun _ _ h => (node (node (node (node (node (leaf Try.func5 ok5) (leaf Try.func18 ok18)) (node (leaf Try.func19 ok19) (leaf Try.func25 ok25))) (node (node (leaf Try.func26 ok26) (leaf Try.func27 ok27)) (node (leaf Try.func28 ok28) (leaf Try.func29 ok29)))) (node (node (node (leaf Try.func37 ok37) (leaf Try.func39 ok39)) (node (leaf Try.func50 ok50) (leaf Try.func51 ok51))) (node (node (leaf Try.func52 ok52) (leaf Try.func53 ok53)) (node (leaf Try.func54 ok54) (leaf Try.func59 ok59))))) (node (node (node (node (leaf Try.func60 ok60) (leaf Try.func61 ok61)) (node (leaf Try.func62 ok62) (leaf Try.func63 ok63))) (node (node (leaf Try.func64 ok64) (leaf Try.func65 ok65)) (node (leaf Try.func66 ok66) (leaf Try.func68 ok68)))) (node (node (node (leaf Try.func71 ok71) (leaf Try.func72 ok72)) (node (leaf Try.func73 ok73) (leaf Try.func75 ok75))) (node (node (leaf Try.func76 ok76) (leaf Try.func78 ok78)) (node (leaf Try.func85 ok85) (leaf Try.func86 ok86)))))) h
end Go.Proofs.Ytobmcofkcfifkaa.T

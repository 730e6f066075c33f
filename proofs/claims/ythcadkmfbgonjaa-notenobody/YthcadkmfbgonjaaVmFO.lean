/- The functions of the table are those of the program. -/
import Derived.Test.YthcadkmfbgonjaaVmP
import Derived.Test.YthcadkmfbgonjaaProg
import Derived.KernelRfl
import Derived.Test.YthcadkmfbgonjaaVmU
open Go.Vm
namespace Go.Proofs.Ythcadkmfbgonjaa.T
open Go
theorem ok10 : compF Try.prog Try.f10 = some fn10 := by kernel_rfl
theorem ok17 : compF Try.prog Try.f17 = some fn17 := by kernel_rfl
theorem ok20 : compF Try.prog Try.f20 = some fn20 := by kernel_rfl
theorem ok25 : compF Try.prog Try.f25 = some fn25 := by kernel_rfl
theorem ok40 : compF Try.prog Try.f40 = some fn40 := by kernel_rfl
theorem ok44 : compF Try.prog Try.f44 = some fn44 := by kernel_rfl
theorem ok46 : compF Try.prog Try.f46 = some fn46 := by kernel_rfl
theorem ok47 : compF Try.prog Try.f47 = some fn47 := by kernel_rfl
theorem ok48 : compF Try.prog Try.f48 = some fn48 := by kernel_rfl
theorem ok49 : compF Try.prog Try.f49 = some fn49 := by kernel_rfl
theorem ok50 : compF Try.prog Try.f50 = some fn50 := by kernel_rfl
theorem ok51 : compF Try.prog Try.f51 = some fn51 := by kernel_rfl
theorem ok52 : compF Try.prog Try.f52 = some fn52 := by kernel_rfl
theorem ok59 : compF Try.prog Try.f59 = some fn59 := by kernel_rfl
theorem ok62 : compF Try.prog Try.f62 = some fn62 := by kernel_rfl
theorem ok63 : compF Try.prog Try.f63 = some fn63 := by kernel_rfl
theorem ok64 : compF Try.prog Try.f64 = some fn64 := by kernel_rfl
theorem ok65 : compF Try.prog Try.f65 = some fn65 := by kernel_rfl
theorem ok66 : compF Try.prog Try.f66 = some fn66 := by kernel_rfl
theorem ok67 : compF Try.prog Try.f67 = some fn67 := by kernel_rfl
theorem ok69 : compF Try.prog Try.f69 = some fn69 := by kernel_rfl
theorem ok71 : compF Try.prog Try.f71 = some fn71 := by kernel_rfl
theorem ok76 : compF Try.prog Try.f76 = some fn76 := by kernel_rfl
theorem ok77 : compF Try.prog Try.f77 = some fn77 := by kernel_rfl
theorem ok83 : compF Try.prog Try.f83 = some fn83 := by kernel_rfl
theorem ok84 : compF Try.prog Try.f84 = some fn84 := by kernel_rfl
theorem ok85 : compF Try.prog Try.f85 = some fn85 := by kernel_rfl
theorem ok86 : compF Try.prog Try.f86 = some fn86 := by kernel_rfl
theorem ok87 : compF Try.prog Try.f87 = some fn87 := by kernel_rfl
theorem ok90 : compF Try.prog Try.f90 = some fn90 := by kernel_rfl
theorem ok91 : compF Try.prog Try.f91 = some fn91 := by kernel_rfl
theorem ok92 : compF Try.prog Try.f92 = some fn92 := by kernel_rfl
theorem ok94 : compF Try.prog Try.f94 = some fn94 := by kernel_rfl
theorem ok95 : compF Try.prog Try.f95 = some fn95 := by kernel_rfl
theorem ok96 : compF Try.prog Try.f96 = some fn96 := by kernel_rfl
theorem ok97 : compF Try.prog Try.f97 = some fn97 := by kernel_rfl
theorem ok98 : compF Try.prog Try.f98 = some fn98 := by kernel_rfl
theorem ok99 : compF Try.prog Try.f99 = some fn99 := by kernel_rfl
theorem ok100 : compF Try.prog Try.f100 = some fn100 := by kernel_rfl
theorem ok101 : compF Try.prog Try.f101 = some fn101 := by kernel_rfl
theorem ok102 : compF Try.prog Try.f102 = some fn102 := by kernel_rfl
theorem ok103 : compF Try.prog Try.f103 = some fn103 := by kernel_rfl
theorem leaf {P : Program} {f k : Nat} {x fn : AFn} {pf : Func} (h1 : P.funcs[k]? = some pf) (h2 : compF P pf = some x) (h : cond (Nat.beq f k) (some x) none = some fn) : ∃ pf, P.funcs[f]? = some pf ∧ compF P pf = some fn := by
  cases hb : Nat.beq f k
  · rw [hb] at h; cases h
  · rw [hb] at h; cases h
    have := Nat.eq_of_beq_eq_true hb
    subst this
    exact ⟨pf, h1, h2⟩
theorem node {f k : Nat} {fn : AFn} {A B : Option AFn} {G : Prop} (hA : A = some fn → G) (hB : B = some fn → G) (h : cond (Nat.blt f k) A B = some fn) : G := by
  cases hb : Nat.blt f k
  · rw [hb] at h; exact hB h
  · rw [hb] at h; exact hA h
theorem fok : FOk Try.prog F := fun _ _ h => (node (node (node (node (node (leaf Try.func10 ok10) (leaf Try.func17 ok17)) (node (leaf Try.func20 ok20) (node (leaf Try.func25 ok25) (leaf Try.func40 ok40)))) (node (node (leaf Try.func44 ok44) (leaf Try.func46 ok46)) (node (leaf Try.func47 ok47) (node (leaf Try.func48 ok48) (leaf Try.func49 ok49))))) (node (node (node (leaf Try.func50 ok50) (leaf Try.func51 ok51)) (node (leaf Try.func52 ok52) (node (leaf Try.func59 ok59) (leaf Try.func62 ok62)))) (node (node (leaf Try.func63 ok63) (node (leaf Try.func64 ok64) (leaf Try.func65 ok65))) (node (leaf Try.func66 ok66) (node (leaf Try.func67 ok67) (leaf Try.func69 ok69)))))) (node (node (node (node (leaf Try.func71 ok71) (leaf Try.func76 ok76)) (node (leaf Try.func77 ok77) (node (leaf Try.func83 ok83) (leaf Try.func84 ok84)))) (node (node (leaf Try.func85 ok85) (leaf Try.func86 ok86)) (node (leaf Try.func87 ok87) (node (leaf Try.func90 ok90) (leaf Try.func91 ok91))))) (node (node (node (leaf Try.func92 ok92) (leaf Try.func94 ok94)) (node (leaf Try.func95 ok95) (node (leaf Try.func96 ok96) (leaf Try.func97 ok97)))) (node (node (leaf Try.func98 ok98) (node (leaf Try.func99 ok99) (leaf Try.func100 ok100))) (node (leaf Try.func101 ok101) (node (leaf Try.func102 ok102) (leaf Try.func103 ok103))))))) h
end Go.Proofs.Ythcadkmfbgonjaa.T

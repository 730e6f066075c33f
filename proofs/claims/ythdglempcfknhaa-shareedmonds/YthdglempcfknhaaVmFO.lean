/- The functions of the table are those of the program. -/
import Derived.Test.YthdglempcfknhaaVmP
import Derived.Test.YthdglempcfknhaaProg
import Derived.KernelRfl
import Derived.Test.YthdglempcfknhaaVmU
open Go.Vm
namespace Go.Proofs.Ythdglempcfknhaa.T
open Go
theorem ok10 : compF Try.prog Try.f10 = some fn10 := by kernel_rfl
theorem ok14 : compF Try.prog Try.f14 = some fn14 := by kernel_rfl
theorem ok15 : compF Try.prog Try.f15 = some fn15 := by kernel_rfl
theorem ok16 : compF Try.prog Try.f16 = some fn16 := by kernel_rfl
theorem ok17 : compF Try.prog Try.f17 = some fn17 := by kernel_rfl
theorem ok20 : compF Try.prog Try.f20 = some fn20 := by kernel_rfl
theorem ok21 : compF Try.prog Try.f21 = some fn21 := by kernel_rfl
theorem ok25 : compF Try.prog Try.f25 = some fn25 := by kernel_rfl
theorem ok27 : compF Try.prog Try.f27 = some fn27 := by kernel_rfl
theorem ok29 : compF Try.prog Try.f29 = some fn29 := by kernel_rfl
theorem ok31 : compF Try.prog Try.f31 = some fn31 := by kernel_rfl
theorem ok33 : compF Try.prog Try.f33 = some fn33 := by kernel_rfl
theorem ok39 : compF Try.prog Try.f39 = some fn39 := by kernel_rfl
theorem ok42 : compF Try.prog Try.f42 = some fn42 := by kernel_rfl
theorem ok44 : compF Try.prog Try.f44 = some fn44 := by kernel_rfl
theorem ok45 : compF Try.prog Try.f45 = some fn45 := by kernel_rfl
theorem ok46 : compF Try.prog Try.f46 = some fn46 := by kernel_rfl
theorem ok47 : compF Try.prog Try.f47 = some fn47 := by kernel_rfl
theorem ok48 : compF Try.prog Try.f48 = some fn48 := by kernel_rfl
theorem ok49 : compF Try.prog Try.f49 = some fn49 := by kernel_rfl
theorem ok50 : compF Try.prog Try.f50 = some fn50 := by kernel_rfl
theorem ok51 : compF Try.prog Try.f51 = some fn51 := by kernel_rfl
theorem ok52 : compF Try.prog Try.f52 = some fn52 := by kernel_rfl
theorem ok53 : compF Try.prog Try.f53 = some fn53 := by kernel_rfl
theorem ok60 : compF Try.prog Try.f60 = some fn60 := by kernel_rfl
theorem ok65 : compF Try.prog Try.f65 = some fn65 := by kernel_rfl
theorem ok66 : compF Try.prog Try.f66 = some fn66 := by kernel_rfl
theorem ok67 : compF Try.prog Try.f67 = some fn67 := by kernel_rfl
theorem ok70 : compF Try.prog Try.f70 = some fn70 := by kernel_rfl
theorem ok71 : compF Try.prog Try.f71 = some fn71 := by kernel_rfl
theorem ok73 : compF Try.prog Try.f73 = some fn73 := by kernel_rfl
theorem ok74 : compF Try.prog Try.f74 = some fn74 := by kernel_rfl
theorem ok75 : compF Try.prog Try.f75 = some fn75 := by kernel_rfl
theorem ok78 : compF Try.prog Try.f78 = some fn78 := by kernel_rfl
theorem ok79 : compF Try.prog Try.f79 = some fn79 := by kernel_rfl
theorem ok80 : compF Try.prog Try.f80 = some fn80 := by kernel_rfl
theorem ok84 : compF Try.prog Try.f84 = some fn84 := by kernel_rfl
theorem ok87 : compF Try.prog Try.f87 = some fn87 := by kernel_rfl
theorem ok88 : compF Try.prog Try.f88 = some fn88 := by kernel_rfl
theorem ok89 : compF Try.prog Try.f89 = some fn89 := by kernel_rfl
theorem ok90 : compF Try.prog Try.f90 = some fn90 := by kernel_rfl
theorem ok91 : compF Try.prog Try.f91 = some fn91 := by kernel_rfl
theorem ok95 : compF Try.prog Try.f95 = some fn95 := by kernel_rfl
theorem ok97 : compF Try.prog Try.f97 = some fn97 := by kernel_rfl
theorem ok98 : compF Try.prog Try.f98 = some fn98 := by kernel_rfl
theorem ok99 : compF Try.prog Try.f99 = some fn99 := by kernel_rfl
theorem leaf {P : Program} {f k : Nat} {x fn : AFn} {pf : Func} (h1 : P.funcs[k]? = some pf) (h2 : compF P pf = some x) (h : cond (Nat.beq f k) (some x) none = some fn) : ∃ pf, P.funcs[f]? = some pf ∧ compF P pf = some fn := by
  cases hb : Nat.beq f k
  · rw [hb] at h; cases h
  · rw [hb] at h; cases h
    have := Nat.eq_of_beq_eq_true hb
    subst this
    exact ⟨pf, h1, h2⟩
theorem node {f k : Nat} {fn : AFn} {A B : Option AFn} {G : Prop} (hA : A = some fn → G) (hB : B = some fn → G) (h : cond (Nat.blt f k) A B = some fn) : G := by
  cases hb : Nat.blt f k
  · rw [hb] at h; exact hB h
  · rw [hb] at h; exact hA h
theorem fok : FOk Try.prog F := fun _ _ h => (node (node (node (node (node (leaf Try.func10 ok10) (leaf Try.func14 ok14)) (node (leaf Try.func15 ok15) (node (leaf Try.func16 ok16) (leaf Try.func17 ok17)))) (node (node (leaf Try.func20 ok20) (node (leaf Try.func21 ok21) (leaf Try.func25 ok25))) (node (leaf Try.func27 ok27) (node (leaf Try.func29 ok29) (leaf Try.func31 ok31))))) (node (node (node (leaf Try.func33 ok33) (node (leaf Try.func39 ok39) (leaf Try.func42 ok42))) (node (leaf Try.func44 ok44) (node (leaf Try.func45 ok45) (leaf Try.func46 ok46)))) (node (node (leaf Try.func47 ok47) (node (leaf Try.func48 ok48) (leaf Try.func49 ok49))) (node (leaf Try.func50 ok50) (node (leaf Try.func51 ok51) (leaf Try.func52 ok52)))))) (node (node (node (node (leaf Try.func53 ok53) (leaf Try.func60 ok60)) (node (leaf Try.func65 ok65) (node (leaf Try.func66 ok66) (leaf Try.func67 ok67)))) (node (node (leaf Try.func70 ok70) (node (leaf Try.func71 ok71) (leaf Try.func73 ok73))) (node (leaf Try.func74 ok74) (node (leaf Try.func75 ok75) (leaf Try.func78 ok78))))) (node (node (node (leaf Try.func79 ok79) (node (leaf Try.func80 ok80) (leaf Try.func84 ok84))) (node (leaf Try.func87 ok87) (node (leaf Try.func88 ok88) (leaf Try.func89 ok89)))) (node (node (leaf Try.func90 ok90) (node (leaf Try.func91 ok91) (leaf Try.func95 ok95))) (node (leaf Try.func97 ok97) (node (leaf Try.func98 ok98) (leaf Try.func99 ok99))))))) h
end Go.Proofs.Ythdglempcfknhaa.T

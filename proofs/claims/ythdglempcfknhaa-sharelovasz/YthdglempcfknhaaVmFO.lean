/- The functions of the table are those of the program. -/
import Derived.Test.YthdglempcfknhaaVmP
import Derived.Test.YthdglempcfknhaaProg
import Derived.KernelRfl
import Derived.Test.YthdglempcfknhaaVmU
open Go.Vm
namespace Go.Proofs.Ythdglempcfknhaa.T
open Go
theorem ok12 : compF Try.prog Try.f12 = some fn12 := by kernel_rfl
theorem ok14 : compF Try.prog Try.f14 = some fn14 := by kernel_rfl
theorem ok15 : compF Try.prog Try.f15 = some fn15 := by kernel_rfl
theorem ok16 : compF Try.prog Try.f16 = some fn16 := by kernel_rfl
theorem ok17 : compF Try.prog Try.f17 = some fn17 := by kernel_rfl
theorem ok20 : compF Try.prog Try.f20 = some fn20 := by kernel_rfl
theorem ok21 : compF Try.prog Try.f21 = some fn21 := by kernel_rfl
theorem ok25 : compF Try.prog Try.f25 = some fn25 := by kernel_rfl
theorem ok29 : compF Try.prog Try.f29 = some fn29 := by kernel_rfl
theorem ok31 : compF Try.prog Try.f31 = some fn31 := by kernel_rfl
theorem ok33 : compF Try.prog Try.f33 = some fn33 := by kernel_rfl
theorem ok35 : compF Try.prog Try.f35 = some fn35 := by kernel_rfl
theorem ok39 : compF Try.prog Try.f39 = some fn39 := by kernel_rfl
theorem ok42 : compF Try.prog Try.f42 = some fn42 := by kernel_rfl
theorem ok43 : compF Try.prog Try.f43 = some fn43 := by kernel_rfl
theorem ok44 : compF Try.prog Try.f44 = some fn44 := by kernel_rfl
theorem ok45 : compF Try.prog Try.f45 = some fn45 := by kernel_rfl
theorem ok46 : compF Try.prog Try.f46 = some fn46 := by kernel_rfl
theorem ok47 : compF Try.prog Try.f47 = some fn47 := by kernel_rfl
theorem ok48 : compF Try.prog Try.f48 = some fn48 := by kernel_rfl
theorem ok49 : compF Try.prog Try.f49 = some fn49 := by kernel_rfl
theorem ok50 : compF Try.prog Try.f50 = some fn50 := by kernel_rfl
theorem ok51 : compF Try.prog Try.f51 = some fn51 := by kernel_rfl
theorem ok52 : compF Try.prog Try.f52 = some fn52 := by kernel_rfl
theorem ok53 : compF Try.prog Try.f53 = some fn53 := by kernel_rfl
theorem ok60 : compF Try.prog Try.f60 = some fn60 := by kernel_rfl
theorem ok65 : compF Try.prog Try.f65 = some fn65 := by kernel_rfl
theorem ok66 : compF Try.prog Try.f66 = some fn66 := by kernel_rfl
theorem ok67 : compF Try.prog Try.f67 = some fn67 := by kernel_rfl
theorem ok70 : compF Try.prog Try.f70 = some fn70 := by kernel_rfl
theorem ok71 : compF Try.prog Try.f71 = some fn71 := by kernel_rfl
theorem ok73 : compF Try.prog Try.f73 = some fn73 := by kernel_rfl
theorem ok74 : compF Try.prog Try.f74 = some fn74 := by kernel_rfl
theorem ok75 : compF Try.prog Try.f75 = some fn75 := by kernel_rfl
theorem ok78 : compF Try.prog Try.f78 = some fn78 := by kernel_rfl
theorem ok79 : compF Try.prog Try.f79 = some fn79 := by kernel_rfl
theorem ok80 : compF Try.prog Try.f80 = some fn80 := by kernel_rfl
theorem ok81 : compF Try.prog Try.f81 = some fn81 := by kernel_rfl
theorem ok82 : compF Try.prog Try.f82 = some fn82 := by kernel_rfl
theorem ok83 : compF Try.prog Try.f83 = some fn83 := by kernel_rfl
theorem ok84 : compF Try.prog Try.f84 = some fn84 := by kernel_rfl
theorem ok87 : compF Try.prog Try.f87 = some fn87 := by kernel_rfl
theorem ok88 : compF Try.prog Try.f88 = some fn88 := by kernel_rfl
theorem ok89 : compF Try.prog Try.f89 = some fn89 := by kernel_rfl
theorem ok90 : compF Try.prog Try.f90 = some fn90 := by kernel_rfl
theorem ok91 : compF Try.prog Try.f91 = some fn91 := by kernel_rfl
theorem ok95 : compF Try.prog Try.f95 = some fn95 := by kernel_rfl
theorem ok97 : compF Try.prog Try.f97 = some fn97 := by kernel_rfl
theorem ok98 : compF Try.prog Try.f98 = some fn98 := by kernel_rfl
theorem ok99 : compF Try.prog Try.f99 = some fn99 := by kernel_rfl
theorem ok100 : compF Try.prog Try.f100 = some fn100 := by kernel_rfl
theorem ok101 : compF Try.prog Try.f101 = some fn101 := by kernel_rfl
theorem ok113 : compF Try.prog Try.f113 = some fn113 := by kernel_rfl
theorem ok114 : compF Try.prog Try.f114 = some fn114 := by kernel_rfl
theorem ok120 : compF Try.prog Try.f120 = some fn120 := by kernel_rfl
theorem ok122 : compF Try.prog Try.f122 = some fn122 := by kernel_rfl
theorem leaf {P : Program} {f k : Nat} {x fn : AFn} {pf : Func} (h1 : P.funcs[k]? = some pf) (h2 : compF P pf = some x) (h : cond (Nat.beq f k) (some x) none = some fn) : ∃ pf, P.funcs[f]? = some pf ∧ compF P pf = some fn := by
  cases hb : Nat.beq f k
  · rw [hb] at h; cases h
  · rw [hb] at h; cases h
    have := Nat.eq_of_beq_eq_true hb
    subst this
    exact ⟨pf, h1, h2⟩
theorem node {f k : Nat} {fn : AFn} {A B : Option AFn} {G : Prop} (hA : A = some fn → G) (hB : B = some fn → G) (h : cond (Nat.blt f k) A B = some fn) : G := by
  cases hb : Nat.blt f k
  · rw [hb] at h; exact hB h
  · rw [hb] at h; exact hA h
theorem fok : FOk Try.prog F := fun _ _ h => (node (node (node (node (node (leaf Try.func12 ok12) (node (leaf Try.func14 ok14) (leaf Try.func15 ok15))) (node (node (leaf Try.func16 ok16) (leaf Try.func17 ok17)) (node (leaf Try.func20 ok20) (leaf Try.func21 ok21)))) (node (node (leaf Try.func25 ok25) (node (leaf Try.func29 ok29) (leaf Try.func31 ok31))) (node (node (leaf Try.func33 ok33) (leaf Try.func35 ok35)) (node (leaf Try.func39 ok39) (leaf Try.func42 ok42))))) (node (node (node (leaf Try.func43 ok43) (node (leaf Try.func44 ok44) (leaf Try.func45 ok45))) (node (node (leaf Try.func46 ok46) (leaf Try.func47 ok47)) (node (leaf Try.func48 ok48) (leaf Try.func49 ok49)))) (node (node (leaf Try.func50 ok50) (node (leaf Try.func51 ok51) (leaf Try.func52 ok52))) (node (node (leaf Try.func53 ok53) (leaf Try.func60 ok60)) (node (leaf Try.func65 ok65) (leaf Try.func66 ok66)))))) (node (node (node (node (leaf Try.func67 ok67) (node (leaf Try.func70 ok70) (leaf Try.func71 ok71))) (node (node (leaf Try.func73 ok73) (leaf Try.func74 ok74)) (node (leaf Try.func75 ok75) (leaf Try.func78 ok78)))) (node (node (leaf Try.func79 ok79) (node (leaf Try.func80 ok80) (leaf Try.func81 ok81))) (node (node (leaf Try.func82 ok82) (leaf Try.func83 ok83)) (node (leaf Try.func84 ok84) (leaf Try.func87 ok87))))) (node (node (node (leaf Try.func88 ok88) (node (leaf Try.func89 ok89) (leaf Try.func90 ok90))) (node (node (leaf Try.func91 ok91) (leaf Try.func95 ok95)) (node (leaf Try.func97 ok97) (leaf Try.func98 ok98)))) (node (node (leaf Try.func99 ok99) (node (leaf Try.func100 ok100) (leaf Try.func101 ok101))) (node (node (leaf Try.func113 ok113) (leaf Try.func114 ok114)) (node (leaf Try.func120 ok120) (leaf Try.func122 ok122))))))) h
end Go.Proofs.Ythdglempcfknhaa.T

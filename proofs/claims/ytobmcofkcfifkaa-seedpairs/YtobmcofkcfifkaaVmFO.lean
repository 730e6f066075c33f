/- The functions of the table are those of the program. -/
import Derived.Test.YtobmcofkcfifkaaVmP
import Derived.Test.YtobmcofkcfifkaaProg
import Derived.KernelRfl
import Derived.Test.YtobmcofkcfifkaaVmU
open Go.Vm
namespace Go.Proofs.Ytobmcofkcfifkaa.T
open Go
theorem ok7 : compF Try.prog Try.f7 = some fn7 := by kernel_rfl
theorem ok18 : compF Try.prog Try.f18 = some fn18 := by kernel_rfl
theorem ok19 : compF Try.prog Try.f19 = some fn19 := by kernel_rfl
theorem ok25 : compF Try.prog Try.f25 = some fn25 := by kernel_rfl
theorem ok29 : compF Try.prog Try.f29 = some fn29 := by kernel_rfl
theorem ok33 : compF Try.prog Try.f33 = some fn33 := by kernel_rfl
theorem ok34 : compF Try.prog Try.f34 = some fn34 := by kernel_rfl
theorem ok35 : compF Try.prog Try.f35 = some fn35 := by kernel_rfl
theorem ok36 : compF Try.prog Try.f36 = some fn36 := by kernel_rfl
theorem ok37 : compF Try.prog Try.f37 = some fn37 := by kernel_rfl
theorem ok38 : compF Try.prog Try.f38 = some fn38 := by kernel_rfl
theorem ok39 : compF Try.prog Try.f39 = some fn39 := by kernel_rfl
theorem ok51 : compF Try.prog Try.f51 = some fn51 := by kernel_rfl
theorem ok52 : compF Try.prog Try.f52 = some fn52 := by kernel_rfl
theorem ok53 : compF Try.prog Try.f53 = some fn53 := by kernel_rfl
theorem ok59 : compF Try.prog Try.f59 = some fn59 := by kernel_rfl
theorem ok60 : compF Try.prog Try.f60 = some fn60 := by kernel_rfl
theorem ok63 : compF Try.prog Try.f63 = some fn63 := by kernel_rfl
theorem ok66 : compF Try.prog Try.f66 = some fn66 := by kernel_rfl
theorem ok67 : compF Try.prog Try.f67 = some fn67 := by kernel_rfl
theorem ok68 : compF Try.prog Try.f68 = some fn68 := by kernel_rfl
theorem ok69 : compF Try.prog Try.f69 = some fn69 := by kernel_rfl
theorem ok70 : compF Try.prog Try.f70 = some fn70 := by kernel_rfl
theorem ok71 : compF Try.prog Try.f71 = some fn71 := by kernel_rfl
theorem ok72 : compF Try.prog Try.f72 = some fn72 := by kernel_rfl
theorem ok73 : compF Try.prog Try.f73 = some fn73 := by kernel_rfl
theorem ok75 : compF Try.prog Try.f75 = some fn75 := by kernel_rfl
theorem ok77 : compF Try.prog Try.f77 = some fn77 := by kernel_rfl
theorem ok78 : compF Try.prog Try.f78 = some fn78 := by kernel_rfl
theorem ok81 : compF Try.prog Try.f81 = some fn81 := by kernel_rfl
theorem ok82 : compF Try.prog Try.f82 = some fn82 := by kernel_rfl
theorem ok83 : compF Try.prog Try.f83 = some fn83 := by kernel_rfl
theorem ok84 : compF Try.prog Try.f84 = some fn84 := by kernel_rfl
theorem ok85 : compF Try.prog Try.f85 = some fn85 := by kernel_rfl
theorem ok86 : compF Try.prog Try.f86 = some fn86 := by kernel_rfl
theorem ok87 : compF Try.prog Try.f87 = some fn87 := by kernel_rfl
theorem ok88 : compF Try.prog Try.f88 = some fn88 := by kernel_rfl
theorem ok89 : compF Try.prog Try.f89 = some fn89 := by kernel_rfl
theorem ok90 : compF Try.prog Try.f90 = some fn90 := by kernel_rfl
theorem ok91 : compF Try.prog Try.f91 = some fn91 := by kernel_rfl
theorem ok92 : compF Try.prog Try.f92 = some fn92 := by kernel_rfl
theorem leaf {P : Program} {f k : Nat} {x fn : AFn} {pf : Func} (h1 : P.funcs[k]? = some pf) (h2 : compF P pf = some x) (h : cond (Nat.beq f k) (some x) none = some fn) : ∃ pf, P.funcs[f]? = some pf ∧ compF P pf = some fn := by
  cases hb : Nat.beq f k
  · rw [hb] at h; cases h
  · rw [hb] at h; cases h
    have := Nat.eq_of_beq_eq_true hb
    subst this
    exact ⟨pf, h1, h2⟩
theorem node {f k : Nat} {fn : AFn} {A B : Option AFn} {G : Prop} (hA : A = some fn → G) (hB : B = some fn → G) (h : cond (Nat.blt f k) A B = some fn) : G := by
  cases hb : Nat.blt f k
  · rw [hb] at h; exact hB h
  · rw [hb] at h; exact hA h
theorem fok : FOk Try.prog F := fun _ _ h => (node (node (node (node (node (leaf Try.func7 ok7) (leaf Try.func18 ok18)) (node (leaf Try.func19 ok19) (node (leaf Try.func25 ok25) (leaf Try.func29 ok29)))) (node (node (leaf Try.func33 ok33) (leaf Try.func34 ok34)) (node (leaf Try.func35 ok35) (node (leaf Try.func36 ok36) (leaf Try.func37 ok37))))) (node (node (node (leaf Try.func38 ok38) (leaf Try.func39 ok39)) (node (leaf Try.func51 ok51) (node (leaf Try.func52 ok52) (leaf Try.func53 ok53)))) (node (node (leaf Try.func59 ok59) (leaf Try.func60 ok60)) (node (leaf Try.func63 ok63) (node (leaf Try.func66 ok66) (leaf Try.func67 ok67)))))) (node (node (node (node (leaf Try.func68 ok68) (leaf Try.func69 ok69)) (node (leaf Try.func70 ok70) (node (leaf Try.func71 ok71) (leaf Try.func72 ok72)))) (node (node (leaf Try.func73 ok73) (leaf Try.func75 ok75)) (node (leaf Try.func77 ok77) (node (leaf Try.func78 ok78) (leaf Try.func81 ok81))))) (node (node (node (leaf Try.func82 ok82) (leaf Try.func83 ok83)) (node (leaf Try.func84 ok84) (node (leaf Try.func85 ok85) (leaf Try.func86 ok86)))) (node (node (leaf Try.func87 ok87) (node (leaf Try.func88 ok88) (leaf Try.func89 ok89))) (node (leaf Try.func90 ok90) (node (leaf Try.func91 ok91) (leaf Try.func92 ok92))))))) h
end Go.Proofs.Ytobmcofkcfifkaa.T

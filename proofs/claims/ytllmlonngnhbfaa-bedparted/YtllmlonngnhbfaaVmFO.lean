/- The functions of the table are those of the program. -/
import Derived.Test.YtllmlonngnhbfaaVmP
import Derived.Test.YtllmlonngnhbfaaProg
import Derived.KernelRfl
import Derived.Test.YtllmlonngnhbfaaVmU
open Go.Vm
namespace Go.Proofs.Ytllmlonngnhbfaa.Bed
open Go
theorem ok13 : compF Try.prog Try.f13 = some fn13 := by kernel_rfl
theorem ok16 : compF Try.prog Try.f16 = some fn16 := by kernel_rfl
theorem ok17 : compF Try.prog Try.f17 = some fn17 := by kernel_rfl
theorem ok19 : compF Try.prog Try.f19 = some fn19 := by kernel_rfl
theorem ok21 : compF Try.prog Try.f21 = some fn21 := by kernel_rfl
theorem ok23 : compF Try.prog Try.f23 = some fn23 := by kernel_rfl
theorem ok28 : compF Try.prog Try.f28 = some fn28 := by kernel_rfl
theorem ok33 : compF Try.prog Try.f33 = some fn33 := by kernel_rfl
theorem ok37 : compF Try.prog Try.f37 = some fn37 := by kernel_rfl
theorem ok39 : compF Try.prog Try.f39 = some fn39 := by kernel_rfl
theorem ok47 : compF Try.prog Try.f47 = some fn47 := by kernel_rfl
theorem ok48 : compF Try.prog Try.f48 = some fn48 := by kernel_rfl
theorem ok49 : compF Try.prog Try.f49 = some fn49 := by kernel_rfl
theorem ok51 : compF Try.prog Try.f51 = some fn51 := by kernel_rfl
theorem ok52 : compF Try.prog Try.f52 = some fn52 := by kernel_rfl
theorem ok53 : compF Try.prog Try.f53 = some fn53 := by kernel_rfl
theorem ok54 : compF Try.prog Try.f54 = some fn54 := by kernel_rfl
theorem ok55 : compF Try.prog Try.f55 = some fn55 := by kernel_rfl
theorem ok56 : compF Try.prog Try.f56 = some fn56 := by kernel_rfl
theorem ok59 : compF Try.prog Try.f59 = some fn59 := by kernel_rfl
theorem ok60 : compF Try.prog Try.f60 = some fn60 := by kernel_rfl
theorem ok61 : compF Try.prog Try.f61 = some fn61 := by kernel_rfl
theorem ok62 : compF Try.prog Try.f62 = some fn62 := by kernel_rfl
theorem ok68 : compF Try.prog Try.f68 = some fn68 := by kernel_rfl
theorem ok71 : compF Try.prog Try.f71 = some fn71 := by kernel_rfl
theorem ok72 : compF Try.prog Try.f72 = some fn72 := by kernel_rfl
theorem ok74 : compF Try.prog Try.f74 = some fn74 := by kernel_rfl
theorem ok76 : compF Try.prog Try.f76 = some fn76 := by kernel_rfl
theorem ok78 : compF Try.prog Try.f78 = some fn78 := by kernel_rfl
theorem ok80 : compF Try.prog Try.f80 = some fn80 := by kernel_rfl
theorem ok82 : compF Try.prog Try.f82 = some fn82 := by kernel_rfl
theorem ok83 : compF Try.prog Try.f83 = some fn83 := by kernel_rfl
theorem ok84 : compF Try.prog Try.f84 = some fn84 := by kernel_rfl
theorem ok85 : compF Try.prog Try.f85 = some fn85 := by kernel_rfl
theorem ok86 : compF Try.prog Try.f86 = some fn86 := by kernel_rfl
theorem ok90 : compF Try.prog Try.f90 = some fn90 := by kernel_rfl
theorem ok92 : compF Try.prog Try.f92 = some fn92 := by kernel_rfl
theorem ok93 : compF Try.prog Try.f93 = some fn93 := by kernel_rfl
theorem ok94 : compF Try.prog Try.f94 = some fn94 := by kernel_rfl
theorem ok97 : compF Try.prog Try.f97 = some fn97 := by kernel_rfl
theorem leaf {P : Program} {f k : Nat} {x fn : AFn} {pf : Func} (h1 : P.funcs[k]? = some pf) (h2 : compF P pf = some x) (h : cond (Nat.beq f k) (some x) none = some fn) : ∃ pf, P.funcs[f]? = some pf ∧ compF P pf = some fn := by
  cases hb : Nat.beq f k
  · rw [hb] at h; cases h
  · rw [hb] at h; cases h
    have := Nat.eq_of_beq_eq_true hb
    subst this
    exact ⟨pf, h1, h2⟩
theorem node {f k : Nat} {fn : AFn} {A B : Option AFn} {G : Prop} (hA : A = some fn → G) (hB : B = some fn → G) (h : cond (Nat.blt f k) A B = some fn) : G := by
  cases hb : Nat.blt f k
  · rw [hb] at h; exact hB h
  · rw [hb] at h; exact hA h
theorem fok : FOk Try.prog F := fun _ _ h => (node (node (node (node (node (leaf Try.func13 ok13) (leaf Try.func16 ok16)) (node (leaf Try.func17 ok17) (node (leaf Try.func19 ok19) (leaf Try.func21 ok21)))) (node (node (leaf Try.func23 ok23) (leaf Try.func28 ok28)) (node (leaf Try.func33 ok33) (node (leaf Try.func37 ok37) (leaf Try.func39 ok39))))) (node (node (node (leaf Try.func47 ok47) (leaf Try.func48 ok48)) (node (leaf Try.func49 ok49) (node (leaf Try.func51 ok51) (leaf Try.func52 ok52)))) (node (node (leaf Try.func53 ok53) (leaf Try.func54 ok54)) (node (leaf Try.func55 ok55) (node (leaf Try.func56 ok56) (leaf Try.func59 ok59)))))) (node (node (node (node (leaf Try.func60 ok60) (leaf Try.func61 ok61)) (node (leaf Try.func62 ok62) (node (leaf Try.func68 ok68) (leaf Try.func71 ok71)))) (node (node (leaf Try.func72 ok72) (leaf Try.func74 ok74)) (node (leaf Try.func76 ok76) (node (leaf Try.func78 ok78) (leaf Try.func80 ok80))))) (node (node (node (leaf Try.func82 ok82) (leaf Try.func83 ok83)) (node (leaf Try.func84 ok84) (node (leaf Try.func85 ok85) (leaf Try.func86 ok86)))) (node (node (leaf Try.func90 ok90) (leaf Try.func92 ok92)) (node (leaf Try.func93 ok93) (node (leaf Try.func94 ok94) (leaf Try.func97 ok97))))))) h
end Go.Proofs.Ytllmlonngnhbfaa.Bed

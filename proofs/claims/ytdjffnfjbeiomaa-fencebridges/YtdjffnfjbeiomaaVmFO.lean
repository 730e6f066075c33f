/- The functions of the table are those of the program. -/
import Derived.Test.YtdjffnfjbeiomaaVmP
import Derived.Test.YtdjffnfjbeiomaaProg
import Derived.KernelRfl
import Derived.Test.YtdjffnfjbeiomaaVmU
open Go.Vm
namespace Go.Proofs.Ytdjffnfjbeiomaa.T
open Go
theorem ok3 : compF Try.prog Try.f3 = some fn3 := by kernel_rfl
theorem ok4 : compF Try.prog Try.f4 = some fn4 := by kernel_rfl
theorem ok5 : compF Try.prog Try.f5 = some fn5 := by kernel_rfl
theorem ok6 : compF Try.prog Try.f6 = some fn6 := by kernel_rfl
theorem ok7 : compF Try.prog Try.f7 = some fn7 := by kernel_rfl
theorem ok8 : compF Try.prog Try.f8 = some fn8 := by kernel_rfl
theorem ok9 : compF Try.prog Try.f9 = some fn9 := by kernel_rfl
theorem ok10 : compF Try.prog Try.f10 = some fn10 := by kernel_rfl
theorem ok11 : compF Try.prog Try.f11 = some fn11 := by kernel_rfl
theorem ok12 : compF Try.prog Try.f12 = some fn12 := by kernel_rfl
theorem ok13 : compF Try.prog Try.f13 = some fn13 := by kernel_rfl
theorem ok14 : compF Try.prog Try.f14 = some fn14 := by kernel_rfl
theorem ok15 : compF Try.prog Try.f15 = some fn15 := by kernel_rfl
theorem ok16 : compF Try.prog Try.f16 = some fn16 := by kernel_rfl
theorem ok17 : compF Try.prog Try.f17 = some fn17 := by kernel_rfl
theorem ok18 : compF Try.prog Try.f18 = some fn18 := by kernel_rfl
theorem ok19 : compF Try.prog Try.f19 = some fn19 := by kernel_rfl
theorem ok20 : compF Try.prog Try.f20 = some fn20 := by kernel_rfl
theorem ok21 : compF Try.prog Try.f21 = some fn21 := by kernel_rfl
theorem ok22 : compF Try.prog Try.f22 = some fn22 := by kernel_rfl
theorem ok23 : compF Try.prog Try.f23 = some fn23 := by kernel_rfl
theorem ok24 : compF Try.prog Try.f24 = some fn24 := by kernel_rfl
theorem ok25 : compF Try.prog Try.f25 = some fn25 := by kernel_rfl
theorem ok26 : compF Try.prog Try.f26 = some fn26 := by kernel_rfl
theorem ok27 : compF Try.prog Try.f27 = some fn27 := by kernel_rfl
theorem ok28 : compF Try.prog Try.f28 = some fn28 := by kernel_rfl
theorem ok29 : compF Try.prog Try.f29 = some fn29 := by kernel_rfl
theorem ok30 : compF Try.prog Try.f30 = some fn30 := by kernel_rfl
theorem ok31 : compF Try.prog Try.f31 = some fn31 := by kernel_rfl
theorem ok32 : compF Try.prog Try.f32 = some fn32 := by kernel_rfl
theorem ok33 : compF Try.prog Try.f33 = some fn33 := by kernel_rfl
theorem ok34 : compF Try.prog Try.f34 = some fn34 := by kernel_rfl
theorem ok35 : compF Try.prog Try.f35 = some fn35 := by kernel_rfl
theorem ok37 : compF Try.prog Try.f37 = some fn37 := by kernel_rfl
theorem ok38 : compF Try.prog Try.f38 = some fn38 := by kernel_rfl
theorem ok39 : compF Try.prog Try.f39 = some fn39 := by kernel_rfl
theorem ok44 : compF Try.prog Try.f44 = some fn44 := by kernel_rfl
theorem ok45 : compF Try.prog Try.f45 = some fn45 := by kernel_rfl
theorem ok64 : compF Try.prog Try.f64 = some fn64 := by kernel_rfl
theorem leaf {P : Program} {f k : Nat} {x fn : AFn} {pf : Func} (h1 : P.funcs[k]? = some pf) (h2 : compF P pf = some x) (h : cond (Nat.beq f k) (some x) none = some fn) : ∃ pf, P.funcs[f]? = some pf ∧ compF P pf = some fn := by
  cases hb : Nat.beq f k
  · rw [hb] at h; cases h
  · rw [hb] at h; cases h
    have := Nat.eq_of_beq_eq_true hb
    subst this
    exact ⟨pf, h1, h2⟩
theorem node {f k : Nat} {fn : AFn} {A B : Option AFn} {G : Prop} (hA : A = some fn → G) (hB : B = some fn → G) (h : cond (Nat.blt f k) A B = some fn) : G := by
  cases hb : Nat.blt f k
  · rw [hb] at h; exact hB h
  · rw [hb] at h; exact hA h
theorem fok : FOk Try.prog F := fun _ _ h => (node (node (node (node (node (leaf Try.func3 ok3) (leaf Try.func4 ok4)) (node (leaf Try.func5 ok5) (leaf Try.func6 ok6))) (node (node (leaf Try.func7 ok7) (leaf Try.func8 ok8)) (node (leaf Try.func9 ok9) (node (leaf Try.func10 ok10) (leaf Try.func11 ok11))))) (node (node (node (leaf Try.func12 ok12) (leaf Try.func13 ok13)) (node (leaf Try.func14 ok14) (node (leaf Try.func15 ok15) (leaf Try.func16 ok16)))) (node (node (leaf Try.func17 ok17) (leaf Try.func18 ok18)) (node (leaf Try.func19 ok19) (node (leaf Try.func20 ok20) (leaf Try.func21 ok21)))))) (node (node (node (node (leaf Try.func22 ok22) (leaf Try.func23 ok23)) (node (leaf Try.func24 ok24) (node (leaf Try.func25 ok25) (leaf Try.func26 ok26)))) (node (node (leaf Try.func27 ok27) (leaf Try.func28 ok28)) (node (leaf Try.func29 ok29) (node (leaf Try.func30 ok30) (leaf Try.func31 ok31))))) (node (node (node (leaf Try.func32 ok32) (leaf Try.func33 ok33)) (node (leaf Try.func34 ok34) (node (leaf Try.func35 ok35) (leaf Try.func37 ok37)))) (node (node (leaf Try.func38 ok38) (leaf Try.func39 ok39)) (node (leaf Try.func44 ok44) (node (leaf Try.func45 ok45) (leaf Try.func64 ok64))))))) h
end Go.Proofs.Ytdjffnfjbeiomaa.T

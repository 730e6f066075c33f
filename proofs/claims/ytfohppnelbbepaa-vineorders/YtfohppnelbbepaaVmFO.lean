/- The functions of the table are those of the program. -/
import Derived.Test.YtfohppnelbbepaaVmP
import Derived.Test.YtfohppnelbbepaaProg
import Derived.KernelRfl
import Derived.Test.YtfohppnelbbepaaVmU
open Go.Vm
namespace Go.Proofs.Ytfohppnelbbepaa.T
open Go
theorem ok12 : compF Try.prog Try.f12 = some fn12 := by kernel_rfl
theorem ok15 : compF Try.prog Try.f15 = some fn15 := by kernel_rfl
theorem ok16 : compF Try.prog Try.f16 = some fn16 := by kernel_rfl
theorem ok17 : compF Try.prog Try.f17 = some fn17 := by kernel_rfl
theorem ok19 : compF Try.prog Try.f19 = some fn19 := by kernel_rfl
theorem ok21 : compF Try.prog Try.f21 = some fn21 := by kernel_rfl
theorem ok23 : compF Try.prog Try.f23 = some fn23 := by kernel_rfl
theorem ok26 : compF Try.prog Try.f26 = some fn26 := by kernel_rfl
theorem ok28 : compF Try.prog Try.f28 = some fn28 := by kernel_rfl
theorem ok38 : compF Try.prog Try.f38 = some fn38 := by kernel_rfl
theorem ok40 : compF Try.prog Try.f40 = some fn40 := by kernel_rfl
theorem ok43 : compF Try.prog Try.f43 = some fn43 := by kernel_rfl
theorem ok44 : compF Try.prog Try.f44 = some fn44 := by kernel_rfl
theorem ok45 : compF Try.prog Try.f45 = some fn45 := by kernel_rfl
theorem ok47 : compF Try.prog Try.f47 = some fn47 := by kernel_rfl
theorem ok48 : compF Try.prog Try.f48 = some fn48 := by kernel_rfl
theorem ok49 : compF Try.prog Try.f49 = some fn49 := by kernel_rfl
theorem ok50 : compF Try.prog Try.f50 = some fn50 := by kernel_rfl
theorem ok54 : compF Try.prog Try.f54 = some fn54 := by kernel_rfl
theorem ok55 : compF Try.prog Try.f55 = some fn55 := by kernel_rfl
theorem ok56 : compF Try.prog Try.f56 = some fn56 := by kernel_rfl
theorem ok57 : compF Try.prog Try.f57 = some fn57 := by kernel_rfl
theorem ok59 : compF Try.prog Try.f59 = some fn59 := by kernel_rfl
theorem ok60 : compF Try.prog Try.f60 = some fn60 := by kernel_rfl
theorem ok61 : compF Try.prog Try.f61 = some fn61 := by kernel_rfl
theorem ok63 : compF Try.prog Try.f63 = some fn63 := by kernel_rfl
theorem ok64 : compF Try.prog Try.f64 = some fn64 := by kernel_rfl
theorem ok65 : compF Try.prog Try.f65 = some fn65 := by kernel_rfl
theorem ok71 : compF Try.prog Try.f71 = some fn71 := by kernel_rfl
theorem ok72 : compF Try.prog Try.f72 = some fn72 := by kernel_rfl
theorem ok74 : compF Try.prog Try.f74 = some fn74 := by kernel_rfl
theorem ok75 : compF Try.prog Try.f75 = some fn75 := by kernel_rfl
theorem ok79 : compF Try.prog Try.f79 = some fn79 := by kernel_rfl
theorem ok80 : compF Try.prog Try.f80 = some fn80 := by kernel_rfl
theorem ok81 : compF Try.prog Try.f81 = some fn81 := by kernel_rfl
theorem ok82 : compF Try.prog Try.f82 = some fn82 := by kernel_rfl
theorem ok83 : compF Try.prog Try.f83 = some fn83 := by kernel_rfl
theorem ok86 : compF Try.prog Try.f86 = some fn86 := by kernel_rfl
theorem ok88 : compF Try.prog Try.f88 = some fn88 := by kernel_rfl
theorem ok89 : compF Try.prog Try.f89 = some fn89 := by kernel_rfl
theorem ok90 : compF Try.prog Try.f90 = some fn90 := by kernel_rfl
theorem ok91 : compF Try.prog Try.f91 = some fn91 := by kernel_rfl
theorem ok92 : compF Try.prog Try.f92 = some fn92 := by kernel_rfl
theorem ok93 : compF Try.prog Try.f93 = some fn93 := by kernel_rfl
theorem ok94 : compF Try.prog Try.f94 = some fn94 := by kernel_rfl
theorem ok95 : compF Try.prog Try.f95 = some fn95 := by kernel_rfl
theorem ok96 : compF Try.prog Try.f96 = some fn96 := by kernel_rfl
theorem ok97 : compF Try.prog Try.f97 = some fn97 := by kernel_rfl
theorem ok98 : compF Try.prog Try.f98 = some fn98 := by kernel_rfl
theorem ok102 : compF Try.prog Try.f102 = some fn102 := by kernel_rfl
theorem ok104 : compF Try.prog Try.f104 = some fn104 := by kernel_rfl
theorem ok126 : compF Try.prog Try.f126 = some fn126 := by kernel_rfl
theorem ok127 : compF Try.prog Try.f127 = some fn127 := by kernel_rfl
theorem ok128 : compF Try.prog Try.f128 = some fn128 := by kernel_rfl
theorem ok129 : compF Try.prog Try.f129 = some fn129 := by kernel_rfl
theorem ok130 : compF Try.prog Try.f130 = some fn130 := by kernel_rfl
theorem ok131 : compF Try.prog Try.f131 = some fn131 := by kernel_rfl
theorem leaf {P : Program} {f k : Nat} {x fn : AFn} {pf : Func} (h1 : P.funcs[k]? = some pf) (h2 : compF P pf = some x) (h : cond (Nat.beq f k) (some x) none = some fn) : ∃ pf, P.funcs[f]? = some pf ∧ compF P pf = some fn := by
 cases hb : Nat.beq f k
 ·rw [hb] at h; cases h
 ·rw [hb] at h; cases h
  have := Nat.eq_of_beq_eq_true hb
  subst this
  exact ⟨pf, h1, h2⟩
theorem node {f k : Nat} {fn : AFn} {A B : Option AFn} {G : Prop} (hA : A = some fn → G) (hB : B = some fn → G) (h : cond (Nat.blt f k) A B = some fn) : G := by
 cases hb : Nat.blt f k
 ·rw [hb] at h; exact hB h
 ·rw [hb] at h; exact hA h
theorem fok : FOk Try.prog F := fun _ _ h => (node (node (node (node (node (leaf Try.func12 ok12) (node (leaf Try.func15 ok15) (leaf Try.func16 ok16))) (node (node (leaf Try.func17 ok17) (leaf Try.func19 ok19)) (node (leaf Try.func21 ok21) (leaf Try.func23 ok23)))) (node (node (leaf Try.func26 ok26) (node (leaf Try.func28 ok28) (leaf Try.func38 ok38))) (node (node (leaf Try.func40 ok40) (leaf Try.func43 ok43)) (node (leaf Try.func44 ok44) (leaf Try.func45 ok45))))) (node (node (node (leaf Try.func47 ok47) (node (leaf Try.func48 ok48) (leaf Try.func49 ok49))) (node (node (leaf Try.func50 ok50) (leaf Try.func54 ok54)) (node (leaf Try.func55 ok55) (leaf Try.func56 ok56)))) (node (node (leaf Try.func57 ok57) (node (leaf Try.func59 ok59) (leaf Try.func60 ok60))) (node (node (leaf Try.func61 ok61) (leaf Try.func63 ok63)) (node (leaf Try.func64 ok64) (leaf Try.func65 ok65)))))) (node (node (node (node (leaf Try.func71 ok71) (node (leaf Try.func72 ok72) (leaf Try.func74 ok74))) (node (node (leaf Try.func75 ok75) (leaf Try.func79 ok79)) (node (leaf Try.func80 ok80) (leaf Try.func81 ok81)))) (node (node (leaf Try.func82 ok82) (node (leaf Try.func83 ok83) (leaf Try.func86 ok86))) (node (node (leaf Try.func88 ok88) (leaf Try.func89 ok89)) (node (leaf Try.func90 ok90) (leaf Try.func91 ok91))))) (node (node (node (leaf Try.func92 ok92) (node (leaf Try.func93 ok93) (leaf Try.func94 ok94))) (node (node (leaf Try.func95 ok95) (leaf Try.func96 ok96)) (node (leaf Try.func97 ok97) (leaf Try.func98 ok98)))) (node (node (node (leaf Try.func102 ok102) (leaf Try.func104 ok104)) (node (leaf Try.func126 ok126) (leaf Try.func127 ok127))) (node (node (leaf Try.func128 ok128) (leaf Try.func129 ok129)) (node (leaf Try.func130 ok130) (leaf Try.func131 ok131))))))) h
end Go.Proofs.Ytfohppnelbbepaa.T

/- alive, reckoned, the polynomials known. -/
import Derived.Test.YtdjffnfjbeiomaaVmA4
open Go.Vm
set_option linter.unusedVariables false
namespace Go.Proofs.Ytdjffnfjbeiomaa.T
open Go

def okA (o : Option (AVal × Heap × Nat × Nat)) : Bool := match o with
  | some (.b true, _, _, _) => true
  | _ => false
theorem okA_eq {o : Option (AVal × Heap × Nat × Nat)} (h : okA o = true) : ∃ hp lw lp, o = some (.b true, hp, lw, lp) := by
  unfold okA at h
  split at h
  · exact ⟨_, _, _, rfl⟩
  · cases h
abbrev FV : Tab := ⟨F, orC (knownS (Kp T3)) (knownS Kv)⟩
theorem aliveS : okA (callA FV [] (exec FV [] 100) 5 [] []) = true := by decide +kernel
theorem aliveT : ∃ hp lw lp, callX FV [] 5 [] [] = some (.b true, hp, lw, lp) := by
  obtain ⟨hp, lw, lp, e⟩ := okA_eq aliveS
  exact ⟨hp, lw, lp, callX_some.2 ⟨100, e⟩⟩
section
variable {E : Env} (hE : E.Ok) (hm : E.P.follows .mixedOrders = true) (hF : FOk E.P F)
include hE hm hF
omit hE hm hF in
theorem Kp0_ok : CallOk E (knownS (Kp T0)) := knownP_ok (noCall_ok (E := E.bare)) (Kp_ok (T := T0) (call := noCall) (by simp))
theorem Kp1_ok : CallOk E (knownS (Kp T1)) := knownP_ok (callX_sound (E := E.bare) (Env.bare_ok hE) hm (F := FT T0) hF Kp0_ok) (Kp_ok p1)
theorem Kp2_ok : CallOk E (knownS (Kp T2)) := knownP_ok (callX_sound (E := E.bare) (Env.bare_ok hE) hm (F := FT T1) hF (Kp1_ok (Env.bare_ok hE) hm hF)) (Kp_ok p2)
theorem Kp3_ok : CallOk E (knownS (Kp T3)) := knownP_ok (callX_sound (E := E.bare) (Env.bare_ok hE) hm (F := FT T2) hF (Kp2_ok (Env.bare_ok hE) hm hF)) (Kp_ok p3)
theorem Kv_all : CallOk E (orC (knownS (Kp T3)) (knownS Kv)) := or_ok (Kp3_ok hE hm hF) (knownP_ok (callX_sound (E := E.bare) (Env.bare_ok hE) hm (F := FT T3) hF (Kp3_ok (Env.bare_ok hE) hm hF)) Kv_ok)
theorem alive_known : CallOk E (known0 5 (.b true)) := by
  obtain ⟨hp, lw, lp, e⟩ := aliveT
  exact known0_ok (callX_sound (E := E.bare) (Env.bare_ok hE) hm (F := FV) hF (Kv_all (Env.bare_ok hE) hm hF)) e rfl
end
end Go.Proofs.Ytdjffnfjbeiomaa.T

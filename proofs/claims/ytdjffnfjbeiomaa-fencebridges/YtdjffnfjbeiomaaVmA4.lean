/- Values of the triangle's polynomial, known beforehand. -/
import Derived.Test.YtdjffnfjbeiomaaVmA1
import Derived.Test.YtdjffnfjbeiomaaVmA2
import Derived.Test.YtdjffnfjbeiomaaVmA3
open Go.Vm
set_option linter.unusedVariables false
namespace Go.Proofs.Ytdjffnfjbeiomaa.T
open Go

def tri : List Int := ofNz [(2, 1), (1, 1), (8, 1)]
def isI (o : Option (AVal × Heap × Nat × Nat)) (n : Int) : Bool := match o with
  | some (.i .i64 m, _, _, _) => eqI m n
  | _ => false
theorem isI_eq {o : Option (AVal × Heap × Nat × Nat)} {n : Int} (h : isI o n = true) : ∃ hp lw lp, o = some (.i .i64 n, hp, lw, lp) := by
  unfold isI at h
  split at h
  · rw [eqI_eq] at h
    rw [eq_of_beq h]
    exact ⟨_, _, _, rfl⟩
  · cases h

def Kv (f : Nat) (args : List AVal) : Option AVal :=
  cond (Nat.beq f 26) (match args with
    | [.agg cs, .i .i64 x, .i .i64 y] => cond (eqs cs tri) (cond (eqI x (-2)) (cond (eqI y 0) (some (.i .i64 2)) none) (cond (eqI x 2) (cond (eqI y 0) (some (.i .i64 6)) none) (cond (eqI x 0) (cond (eqI y 2) (some (.i .i64 2)) none) none))) none
    | _ => none) none
theorem v1 : isI (callA (FT T3) [] (exec (FT T3) [] 100) 26 [.agg (tri.map (AVal.i .i64)), .i .i64 (-2), .i .i64 0] []) 2 = true := by decide +kernel
theorem v2 : isI (callA (FT T3) [] (exec (FT T3) [] 100) 26 [.agg (tri.map (AVal.i .i64)), .i .i64 2, .i .i64 0] []) 6 = true := by decide +kernel
theorem v3 : isI (callA (FT T3) [] (exec (FT T3) [] 100) 26 [.agg (tri.map (AVal.i .i64)), .i .i64 0, .i .i64 2] []) 2 = true := by decide +kernel
theorem Kv_ok : ∀ f a v, Kv f a = some v → (∀ x ∈ a, plainB x = true) ∧ plainB v = true ∧ ∃ h' lw lp, callX (FT T3) [] f a [] = some (v, h', lw, lp) := by
  intro f a v hK
  unfold Kv at hK
  cases e : Nat.beq f 26
  · rw [e] at hK; cases hK
  · rw [e] at hK
    have hf := Nat.eq_of_beq_eq_true e
    subst hf
    simp only [cond_true] at hK
    split at hK
    · rename_i cs x y
      cases e0 : eqs cs tri
      · rw [e0] at hK; cases hK
      · rw [e0] at hK
        have hc := eqs_eq e0
        subst hc
        have hp : ∀ a ∈ [AVal.agg (tri.map (AVal.i .i64)), .i .i64 x, .i .i64 y], plainB a = true := fun a ha => by
          simp only [List.mem_cons, List.not_mem_nil, or_false] at ha
          rcases ha with rfl | rfl | rfl
          · exact plain_ints _
          · rfl
          · rfl
        simp only [eqI_eq, cond_true] at hK
        cases x1 : (x == -2)
        · cases x2 : (x == 2)
          · cases x3 : (x == 0)
            · rw [x1, x2, x3] at hK; cases hK
            · cases y1 : (y == 2)
              · rw [x1, x2, x3, y1] at hK; cases hK
              · rw [x1, x2, x3, y1] at hK
                have hx := eq_of_beq x3
                have hy := eq_of_beq y1
                subst hx hy
                simp only [cond_true, cond_false, Option.some.injEq] at hK
                subst hK
                obtain ⟨hp', lw, lp, e⟩ := isI_eq v3
                exact ⟨hp, rfl, hp', lw, lp, callX_some.2 ⟨100, e⟩⟩
          · cases y1 : (y == 0)
            · rw [x1, x2, y1] at hK; cases hK
            · rw [x1, x2, y1] at hK
              have hx := eq_of_beq x2
              have hy := eq_of_beq y1
              subst hx hy
              simp only [cond_true, cond_false, Option.some.injEq] at hK
              subst hK
              obtain ⟨hp', lw, lp, e⟩ := isI_eq v2
              exact ⟨hp, rfl, hp', lw, lp, callX_some.2 ⟨100, e⟩⟩
        · cases y1 : (y == 0)
          · rw [x1, y1] at hK; cases hK
          · rw [x1, y1] at hK
            have hx := eq_of_beq x1
            have hy := eq_of_beq y1
            subst hx hy
            simp only [cond_true, Option.some.injEq] at hK
            subst hK
            obtain ⟨hp', lw, lp, e⟩ := isI_eq v1
            exact ⟨hp, rfl, hp', lw, lp, callX_some.2 ⟨100, e⟩⟩
    · cases hK
end Go.Proofs.Ytdjffnfjbeiomaa.T

/- Eden and Onto of the program. -/
import Derived.Test.YtjjinlljdfaipaaVmWo
import Derived.Test.YtjjinlljdfaipaaVmWg
open Go.Vm
set_option linter.unusedVariables false
namespace Go.Proofs.Ytjjinlljdfaipaa.W
open Go

def edS (n : Nat) (k : Int) : List UInt8 := if k < 1 ∨ 20 < k ∨ (orphT n).isEmpty = true ∨ k < ((orphT n).length : Int) then [] else orphT n
def edE (n : Nat) (k : Int) : Int := if k < 1 ∨ 20 < k then 2 else if (orphT n).isEmpty = true ∨ k < ((orphT n).length : Int) then 10 else 0

theorem c61 {n : Nat} (hn : n < 256) : callX F5 [] 61 [.i .i64 n] [] = some (.tup [.i .u8 n, .i .i64 0], [], 0, 0) := by
  refine g61_ok (meansX_ok F5 []) rfl ?_
  unfold g61
  have a1 : ¬ ((n : Int) < 0) := by omega
  have a2 : ¬ ((255 : Int) < (n : Int)) := by omega
  have a3 : wr .u8 (n : Int) = (n : Int) := u8_num n hn
  simp only [forceB_eq, ltI_eq, decide_eq_false a1, decide_eq_false a2, cond_false, bindO_some, forceI_eq, a3, tupA]
  exact fin_pure rfl
theorem c54 {n : Nat} (hn : n < 256) : callX F5 [] 54 [.i .i64 n] [] = some (.b true, [], 0, 0) := by
  refine g54_ok (meansX_ok F5 []) rfl ?_
  unfold g54
  have a1 : ¬ ((n : Int) < 0) := by omega
  have a2 : ¬ ((255 : Int) < (n : Int)) := by omega
  simp only [forceB_eq, ltI_eq, decide_eq_false a1, decide_eq_false a2, Bool.not_false, cond_true, bindO_some, tupA]
  exact fin_pure rfl
theorem c61n {n : Int} (hn : n < 0 ∨ 255 < n) : callX F5 [] 61 [.i .i64 n] [] = some (.tup [.i .u8 0, .i .i64 2], [], 0, 0) := by
  refine g61_ok (meansX_ok F5 []) (by cases n <;> rfl) ?_
  unfold g61
  simp only [forceB_eq, ltI_eq]
  by_cases e : n < 0
  · simp only [decide_eq_true e, cond_true, bindO_some, tupA]
    exact fin_pure rfl
  · have e2 : 255 < n := by omega
    simp only [decide_eq_false e, decide_eq_true e2, cond_false, cond_true, bindO_some, tupA]
    exact fin_pure rfl
theorem c54n {n : Int} (hn : n < 0 ∨ 255 < n) : callX F5 [] 54 [.i .i64 n] [] = some (.b false, [], 0, 0) := by
  refine g54_ok (meansX_ok F5 []) (by cases n <;> rfl) ?_
  unfold g54
  simp only [forceB_eq, ltI_eq]
  by_cases e : n < 0
  · simp only [decide_eq_true e, Bool.not_true, cond_false, bindO_some, tupA]
    exact fin_pure rfl
  · have e2 : 255 < n := by omega
    simp only [decide_eq_false e, decide_eq_true e2, Bool.not_false, Bool.not_true, cond_true, bindO_some, tupA]
    exact fin_pure rfl
theorem c62 {n : Nat} (hn : n < 256) : callX F5 [] 62 [.i .u8 n] [] = some (.s (orphT n), [], 0, 0) := by
  refine callX_ov ?_
  have h : ruleK 62 [.i .u8 (Int.ofNat n)] = some (.s (orphT n)) := by
    have hb : Nat.blt n 256 = true := by rw [Nat.blt_eq]; exact hn
    simp only [ruleK, hb, cond_true]; rfl
  show orC (orC (knownS ruleK) leafO) leafB 62 [.i .u8 (Int.ofNat n)] [] = _
  simp only [orC, knownS, h]; rfl
theorem c15 : callX F5 [] 15 [] [] = some (.b true, [], 0, 0) := callX_ov rfl

section
variable {n : Nat} (hn : n < 256) (k : Int)
include hn
theorem eden_ok : callX F5 [] 26 [.i .i64 n, .i .i64 k] [] = some (.tup [.s (edS n k), .i .i64 (edE n k)], [], 0, 0) := by
  refine g26_ok (meansX_ok F5 []) (by cases k <;> rfl) ?_
  unfold g26
  have d61 := callM_pure (call := callX F5 []) (h := []) (l := 0) (p := 0) (c61 hn) (Nat.le_refl _) (Nat.le_refl _)
  have d62 := callM_pure (call := callX F5 []) (h := []) (l := 0) (p := 0) (c62 hn) (Nat.le_refl _) (Nat.le_refl _)
  have z0 : ((0 : Int) == 0) = true := rfl
  show (bindP (callM (meansX F5 []).call ⟨[], 0, 0⟩ 61 [(.i .i64 n)]) _) = _
  simp only [meansX_call, d61, bindP_some, e_x0, e_x1, bindO_some, asI_i, eqI_eq, z0, forceB_eq, Bool.not_true, cond_false, ltI_eq]
  by_cases h1 : k < 1
  · simp only [decide_eq_true h1, cond_true, bindO_some, tupA, edS, edE, if_pos (Or.inl h1 : k < 1 ∨ _)]
    exact fin_pure rfl
  · by_cases h2 : 20 < k
    · simp only [decide_eq_false h1, decide_eq_true h2, cond_false, cond_true, bindO_some, tupA, edS, edE, if_pos (Or.inr h2 : k < 1 ∨ 20 < k), if_pos (Or.inr (Or.inl h2) : k < 1 ∨ 20 < k ∨ _)]
      exact fin_pure rfl
    · simp only [decide_eq_false h1, decide_eq_false h2, cond_false, bindO_some, d62, bindP_some, asS_s, e_eq, asB_b, eqL_nil]
      have h3 : ¬ (k < 1 ∨ 20 < k) := by omega
      unfold edE
      rw [if_neg h3]
      cases he : (orphT n).isEmpty with
      | true =>
        have hs : edS n k = [] := if_pos (Or.inr (Or.inr (Or.inl he)))
        simp only [cond_true, bindO_some, tupA, hs, true_or, if_true]
        exact fin_pure rfl
      | false =>
        simp only [cond_false, bindO_some, e_len, asI_i, ltI_eq, forceB_eq]
        by_cases h4 : k < ((orphT n).length : Int)
        · have hs : edS n k = [] := if_pos (Or.inr (Or.inr (Or.inr h4)))
          simp only [decide_eq_true h4, cond_true, tupA, hs, h4, or_true, if_true]
          exact fin_pure rfl
        · have hs : edS n k = orphT n := if_neg (by rw [he]; simp only [Bool.false_eq_true, false_or]; omega)
          simp only [decide_eq_false h4, cond_false, tupA, hs, h4, Bool.false_eq_true, or_false, if_false]
          exact fin_pure rfl
theorem onto_ok : callX F5 [] 28 [.i .i64 n] [] = some (.tup [.b (orphT n).isEmpty, .i .i64 0], [], 0, 0) := by
  refine g28_ok (meansX_ok F5 []) rfl ?_
  unfold g28
  have d61 := callM_pure (call := callX F5 []) (h := []) (l := 0) (p := 0) (c61 hn) (Nat.le_refl _) (Nat.le_refl _)
  have d62 := callM_pure (call := callX F5 []) (h := []) (l := 0) (p := 0) (c62 hn) (Nat.le_refl _) (Nat.le_refl _)
  have z0 : ((0 : Int) == 0) = true := rfl
  show (bindP (callM (meansX F5 []).call ⟨[], 0, 0⟩ 61 [(.i .i64 n)]) _) = _
  simp only [meansX_call, d61, d62, bindP_some, e_x0, e_x1, bindO_some, asI_i, asS_s, asB_b, eqI_eq, z0, forceB_eq, Bool.not_true, cond_false, e_eq, eqL_nil, tupA]
  exact fin_pure rfl
end
end Go.Proofs.Ytjjinlljdfaipaa.W

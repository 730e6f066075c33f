/- Walks, Ways: what they answer. -/
import Derived.Test.YtgbkicelkpagpaaVmWk
open Go.Vm
set_option linter.unusedVariables false
namespace Go.Proofs.Ytgbkicelkpagpaa.W
open Go

/- the errors of a row whose ways are counted -/
/-- a row without errors is one -/
theorem okR_of {n : Int} {s : List UInt8} {most : Int} (h : askE n s most = 0) : 0 ≤ n ∧ n ≤ 255 ∧ s.length ≤ most ∧ 0 < s.length ∧ okR s := by
  unfold askE at h
  by_cases hn : n < 0 ∨ 255 < n
  · rw [if_pos hn] at h; cases h
  · rw [if_neg hn] at h
    unfold rowE at h
    by_cases h1 : most < (s.length : Int)
    · rw [if_pos h1] at h; cases h
    · rw [if_neg h1] at h
      cases he : s.isEmpty with
      | true => rw [he, if_pos rfl] at h; cases h
      | false =>
        rw [he, if_neg (by decide)] at h
        cases hb : badR s with
        | true => rw [hb, if_pos rfl] at h; cases h
        | false =>
          refine ⟨by omega, by omega, by omega, ?_, fun i hi => ?_⟩
          · cases s with
            | nil => cases he
            | cons a l => simp
          · have := List.any_eq_false.1 hb i (List.mem_range.2 hi)
            unfold bad at this
            cases e1 : Nat.beq (ch s i) 48
            · cases e2 : Nat.beq (ch s i) 49
              · rw [e1, e2] at this; exact absurd rfl this
              · exact .inr (beq_iff.1 e2)
            · exact .inl (beq_iff.1 e1)

end Go.Proofs.Ytgbkicelkpagpaa.W

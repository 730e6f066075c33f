/- Rows reversed, and with 0 and 1 exchanged. -/
import Derived.Test.YtgbkicelkpagpaaVmWx
open Go.Vm
set_option linter.unusedVariables false
namespace Go.Proofs.Ytgbkicelkpagpaa.W
open Go

/- strings letter by letter -/
theorem str_ext {a b : List UInt8} (hl : a.length = b.length) (h : ∀ i, i < a.length → ch a i = ch b i) : a = b := by
  apply List.ext_getElem hl
  intro i h1 h2
  have := h i h1
  simp only [ch, List.getD, List.getElem?_eq_getElem h1, List.getElem?_eq_getElem h2, Option.getD_some] at this
  exact UInt8.toNat_inj.1 this
theorem made_ch {n i : Nat} {g : Nat → Nat} (hi : i < n) (hg : g i < 256) : ch ((List.range n).map fun j => UInt8.ofNat (g j)) i = g i := by
  simp only [ch, List.getD, List.getElem?_map]
  rw [List.getElem?_range hi]
  show (UInt8.ofNat (g i)).toNat = g i
  rw [UInt8.toNat_ofNat']
  exact Nat.mod_eq_of_lt hg
end Go.Proofs.Ytgbkicelkpagpaa.W

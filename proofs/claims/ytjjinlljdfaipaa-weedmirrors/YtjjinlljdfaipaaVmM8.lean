/- All rules: Mirror and Additive and the specification, reckoned. -/
import Derived.Test.YtjjinlljdfaipaaVmWb
open Go.Vm
set_option linter.unusedVariables false
namespace Go.Proofs.Ytjjinlljdfaipaa.W
open Go
theorem mir0 : ((List.range 16).all fun i => okT ((Rk 100).call 8 [.i .i64 (Int.ofNat (16 * 0 + i))] [])) = true := by decide +kernel
theorem mir1 : ((List.range 16).all fun i => okT ((Rk 100).call 8 [.i .i64 (Int.ofNat (16 * 1 + i))] [])) = true := by decide +kernel
theorem mir2 : ((List.range 16).all fun i => okT ((Rk 100).call 8 [.i .i64 (Int.ofNat (16 * 2 + i))] [])) = true := by decide +kernel
theorem mir3 : ((List.range 16).all fun i => okT ((Rk 100).call 8 [.i .i64 (Int.ofNat (16 * 3 + i))] [])) = true := by decide +kernel
theorem mir4 : ((List.range 16).all fun i => okT ((Rk 100).call 8 [.i .i64 (Int.ofNat (16 * 4 + i))] [])) = true := by decide +kernel
theorem mir5 : ((List.range 16).all fun i => okT ((Rk 100).call 8 [.i .i64 (Int.ofNat (16 * 5 + i))] [])) = true := by decide +kernel
theorem mir6 : ((List.range 16).all fun i => okT ((Rk 100).call 8 [.i .i64 (Int.ofNat (16 * 6 + i))] [])) = true := by decide +kernel
theorem mir7 : ((List.range 16).all fun i => okT ((Rk 100).call 8 [.i .i64 (Int.ofNat (16 * 7 + i))] [])) = true := by decide +kernel
theorem mir8 : ((List.range 16).all fun i => okT ((Rk 100).call 8 [.i .i64 (Int.ofNat (16 * 8 + i))] [])) = true := by decide +kernel
theorem mir9 : ((List.range 16).all fun i => okT ((Rk 100).call 8 [.i .i64 (Int.ofNat (16 * 9 + i))] [])) = true := by decide +kernel
theorem mir10 : ((List.range 16).all fun i => okT ((Rk 100).call 8 [.i .i64 (Int.ofNat (16 * 10 + i))] [])) = true := by decide +kernel
theorem mir11 : ((List.range 16).all fun i => okT ((Rk 100).call 8 [.i .i64 (Int.ofNat (16 * 11 + i))] [])) = true := by decide +kernel
theorem mir12 : ((List.range 16).all fun i => okT ((Rk 100).call 8 [.i .i64 (Int.ofNat (16 * 12 + i))] [])) = true := by decide +kernel
theorem mir13 : ((List.range 16).all fun i => okT ((Rk 100).call 8 [.i .i64 (Int.ofNat (16 * 13 + i))] [])) = true := by decide +kernel
theorem mir14 : ((List.range 16).all fun i => okT ((Rk 100).call 8 [.i .i64 (Int.ofNat (16 * 14 + i))] [])) = true := by decide +kernel
theorem mir15 : ((List.range 16).all fun i => okT ((Rk 100).call 8 [.i .i64 (Int.ofNat (16 * 15 + i))] [])) = true := by decide +kernel
theorem mir_all {n : Nat} (hn : n < 256) : okT ((Rk 100).call 8 [.i .i64 (Int.ofNat n)] []) = true := by
  by_cases h0 : n < 16
  · exact all_16 (P := fun n => okT ((Rk 100).call 8 [.i .i64 (Int.ofNat n)] [])) mir0 (by omega) (by omega)
  by_cases h1 : n < 32
  · exact all_16 (P := fun n => okT ((Rk 100).call 8 [.i .i64 (Int.ofNat n)] [])) mir1 (by omega) (by omega)
  by_cases h2 : n < 48
  · exact all_16 (P := fun n => okT ((Rk 100).call 8 [.i .i64 (Int.ofNat n)] [])) mir2 (by omega) (by omega)
  by_cases h3 : n < 64
  · exact all_16 (P := fun n => okT ((Rk 100).call 8 [.i .i64 (Int.ofNat n)] [])) mir3 (by omega) (by omega)
  by_cases h4 : n < 80
  · exact all_16 (P := fun n => okT ((Rk 100).call 8 [.i .i64 (Int.ofNat n)] [])) mir4 (by omega) (by omega)
  by_cases h5 : n < 96
  · exact all_16 (P := fun n => okT ((Rk 100).call 8 [.i .i64 (Int.ofNat n)] [])) mir5 (by omega) (by omega)
  by_cases h6 : n < 112
  · exact all_16 (P := fun n => okT ((Rk 100).call 8 [.i .i64 (Int.ofNat n)] [])) mir6 (by omega) (by omega)
  by_cases h7 : n < 128
  · exact all_16 (P := fun n => okT ((Rk 100).call 8 [.i .i64 (Int.ofNat n)] [])) mir7 (by omega) (by omega)
  by_cases h8 : n < 144
  · exact all_16 (P := fun n => okT ((Rk 100).call 8 [.i .i64 (Int.ofNat n)] [])) mir8 (by omega) (by omega)
  by_cases h9 : n < 160
  · exact all_16 (P := fun n => okT ((Rk 100).call 8 [.i .i64 (Int.ofNat n)] [])) mir9 (by omega) (by omega)
  by_cases h10 : n < 176
  · exact all_16 (P := fun n => okT ((Rk 100).call 8 [.i .i64 (Int.ofNat n)] [])) mir10 (by omega) (by omega)
  by_cases h11 : n < 192
  · exact all_16 (P := fun n => okT ((Rk 100).call 8 [.i .i64 (Int.ofNat n)] [])) mir11 (by omega) (by omega)
  by_cases h12 : n < 208
  · exact all_16 (P := fun n => okT ((Rk 100).call 8 [.i .i64 (Int.ofNat n)] [])) mir12 (by omega) (by omega)
  by_cases h13 : n < 224
  · exact all_16 (P := fun n => okT ((Rk 100).call 8 [.i .i64 (Int.ofNat n)] [])) mir13 (by omega) (by omega)
  by_cases h14 : n < 240
  · exact all_16 (P := fun n => okT ((Rk 100).call 8 [.i .i64 (Int.ofNat n)] [])) mir14 (by omega) (by omega)
  by_cases h15 : n < 256
  · exact all_16 (P := fun n => okT ((Rk 100).call 8 [.i .i64 (Int.ofNat n)] [])) mir15 (by omega) (by omega)
  omega
end Go.Proofs.Ytjjinlljdfaipaa.W

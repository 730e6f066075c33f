/- All rules: the law of orphans, reckoned. -/
import Derived.Test.YtjjinlljdfaipaaVmWt
open Go.Vm
set_option linter.unusedVariables false
namespace Go.Proofs.Ytjjinlljdfaipaa.W
open Go
theorem moo0 : ((List.range 16).all fun i => okT ((Rk3 200).call 9 [.i .u8 (Int.ofNat (16 * 0 + i))] [])) = true := by decide +kernel
theorem moo1 : ((List.range 16).all fun i => okT ((Rk3 200).call 9 [.i .u8 (Int.ofNat (16 * 1 + i))] [])) = true := by decide +kernel
theorem moo2 : ((List.range 16).all fun i => okT ((Rk3 200).call 9 [.i .u8 (Int.ofNat (16 * 2 + i))] [])) = true := by decide +kernel
theorem moo3 : ((List.range 16).all fun i => okT ((Rk3 200).call 9 [.i .u8 (Int.ofNat (16 * 3 + i))] [])) = true := by decide +kernel
theorem moo4 : ((List.range 16).all fun i => okT ((Rk3 200).call 9 [.i .u8 (Int.ofNat (16 * 4 + i))] [])) = true := by decide +kernel
theorem moo5 : ((List.range 16).all fun i => okT ((Rk3 200).call 9 [.i .u8 (Int.ofNat (16 * 5 + i))] [])) = true := by decide +kernel
theorem moo6 : ((List.range 16).all fun i => okT ((Rk3 200).call 9 [.i .u8 (Int.ofNat (16 * 6 + i))] [])) = true := by decide +kernel
theorem moo7 : ((List.range 16).all fun i => okT ((Rk3 200).call 9 [.i .u8 (Int.ofNat (16 * 7 + i))] [])) = true := by decide +kernel
theorem moo8 : ((List.range 16).all fun i => okT ((Rk3 200).call 9 [.i .u8 (Int.ofNat (16 * 8 + i))] [])) = true := by decide +kernel
theorem moo9 : ((List.range 16).all fun i => okT ((Rk3 200).call 9 [.i .u8 (Int.ofNat (16 * 9 + i))] [])) = true := by decide +kernel
theorem moo10 : ((List.range 16).all fun i => okT ((Rk3 200).call 9 [.i .u8 (Int.ofNat (16 * 10 + i))] [])) = true := by decide +kernel
theorem moo11 : ((List.range 16).all fun i => okT ((Rk3 200).call 9 [.i .u8 (Int.ofNat (16 * 11 + i))] [])) = true := by decide +kernel
theorem moo12 : ((List.range 16).all fun i => okT ((Rk3 200).call 9 [.i .u8 (Int.ofNat (16 * 12 + i))] [])) = true := by decide +kernel
theorem moo13 : ((List.range 16).all fun i => okT ((Rk3 200).call 9 [.i .u8 (Int.ofNat (16 * 13 + i))] [])) = true := by decide +kernel
theorem moo14 : ((List.range 16).all fun i => okT ((Rk3 200).call 9 [.i .u8 (Int.ofNat (16 * 14 + i))] [])) = true := by decide +kernel
theorem moo15 : ((List.range 16).all fun i => okT ((Rk3 200).call 9 [.i .u8 (Int.ofNat (16 * 15 + i))] [])) = true := by decide +kernel
theorem moo_all {n : Nat} (hn : n < 256) : okT ((Rk3 200).call 9 [.i .u8 (Int.ofNat n)] []) = true := by
  by_cases h0 : n < 16
  · exact all_16 (P := fun n => okT ((Rk3 200).call 9 [.i .u8 (Int.ofNat n)] [])) moo0 (by omega) (by omega)
  by_cases h1 : n < 32
  · exact all_16 (P := fun n => okT ((Rk3 200).call 9 [.i .u8 (Int.ofNat n)] [])) moo1 (by omega) (by omega)
  by_cases h2 : n < 48
  · exact all_16 (P := fun n => okT ((Rk3 200).call 9 [.i .u8 (Int.ofNat n)] [])) moo2 (by omega) (by omega)
  by_cases h3 : n < 64
  · exact all_16 (P := fun n => okT ((Rk3 200).call 9 [.i .u8 (Int.ofNat n)] [])) moo3 (by omega) (by omega)
  by_cases h4 : n < 80
  · exact all_16 (P := fun n => okT ((Rk3 200).call 9 [.i .u8 (Int.ofNat n)] [])) moo4 (by omega) (by omega)
  by_cases h5 : n < 96
  · exact all_16 (P := fun n => okT ((Rk3 200).call 9 [.i .u8 (Int.ofNat n)] [])) moo5 (by omega) (by omega)
  by_cases h6 : n < 112
  · exact all_16 (P := fun n => okT ((Rk3 200).call 9 [.i .u8 (Int.ofNat n)] [])) moo6 (by omega) (by omega)
  by_cases h7 : n < 128
  · exact all_16 (P := fun n => okT ((Rk3 200).call 9 [.i .u8 (Int.ofNat n)] [])) moo7 (by omega) (by omega)
  by_cases h8 : n < 144
  · exact all_16 (P := fun n => okT ((Rk3 200).call 9 [.i .u8 (Int.ofNat n)] [])) moo8 (by omega) (by omega)
  by_cases h9 : n < 160
  · exact all_16 (P := fun n => okT ((Rk3 200).call 9 [.i .u8 (Int.ofNat n)] [])) moo9 (by omega) (by omega)
  by_cases h10 : n < 176
  · exact all_16 (P := fun n => okT ((Rk3 200).call 9 [.i .u8 (Int.ofNat n)] [])) moo10 (by omega) (by omega)
  by_cases h11 : n < 192
  · exact all_16 (P := fun n => okT ((Rk3 200).call 9 [.i .u8 (Int.ofNat n)] [])) moo11 (by omega) (by omega)
  by_cases h12 : n < 208
  · exact all_16 (P := fun n => okT ((Rk3 200).call 9 [.i .u8 (Int.ofNat n)] [])) moo12 (by omega) (by omega)
  by_cases h13 : n < 224
  · exact all_16 (P := fun n => okT ((Rk3 200).call 9 [.i .u8 (Int.ofNat n)] [])) moo13 (by omega) (by omega)
  by_cases h14 : n < 240
  · exact all_16 (P := fun n => okT ((Rk3 200).call 9 [.i .u8 (Int.ofNat n)] [])) moo14 (by omega) (by omega)
  by_cases h15 : n < 256
  · exact all_16 (P := fun n => okT ((Rk3 200).call 9 [.i .u8 (Int.ofNat n)] [])) moo15 (by omega) (by omega)
  omega
end Go.Proofs.Ytjjinlljdfaipaa.W

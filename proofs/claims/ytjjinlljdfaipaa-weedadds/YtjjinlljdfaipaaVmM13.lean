/- Mirrored rules: what Mirror, Onto, OneToOne and Additive answer of all rules, reckoned. -/
import Derived.Test.YtjjinlljdfaipaaVmWt
open Go.Vm
set_option linter.unusedVariables false
namespace Go.Proofs.Ytjjinlljdfaipaa.W
open Go
def mirN (n : Nat) : Nat := nx n 0 + nx n 4 * 2 + nx n 2 * 4 + nx n 6 * 8 + nx n 1 * 16 + nx n 5 * 32 + nx n 3 * 64 + nx n 7 * 128
def excN (n : Nat) : Nat := (1 - nx n 7) + (1 - nx n 6) * 2 + (1 - nx n 5) * 4 + (1 - nx n 4) * 8 + (1 - nx n 3) * 16 + (1 - nx n 2) * 32 + (1 - nx n 1) * 64 + (1 - nx n 0) * 128
def addN (n : Nat) : Bool := Nat.beq n 0 || (Nat.beq n 60 || (Nat.beq n 90 || (Nat.beq n 102 || (Nat.beq n 150 || (Nat.beq n 170 || (Nat.beq n 204 || Nat.beq n 240))))))
def eqIs (a : Int) (k : Nat) : Bool := match a with
  | .ofNat j => Nat.beq j k
  | .negSucc _ => false
theorem eqIs_eq {a : Int} {k : Nat} (h : eqIs a k = true) : a = (k : Int) := by
  unfold eqIs at h
  split at h
  · rw [beq_iff.1 h]; rfl
  · cases h
def okM (a b : Nat) (o : Option (AVal × Heap × Nat × Nat)) : Bool := match o with
  | some (.tup [.i .i64 x, .i .i64 y, .i .i64 z], [], 0, 0) => eqIs x a && (eqIs y b && eqIs z 0)
  | _ => false
theorem okM_eq {a b : Nat} {o : Option (AVal × Heap × Nat × Nat)} (h : okM a b o = true) : o = some (.tup [.i .i64 a, .i .i64 b, .i .i64 0], [], 0, 0) := by
  unfold okM at h
  split at h
  · rw [Bool.and_eq_true, Bool.and_eq_true] at h
    rw [eqIs_eq h.1, eqIs_eq h.2.1, eqIs_eq h.2.2]; rfl
  · cases h
def okJ (w : Bool) (o : Option (AVal × Heap × Nat × Nat)) : Bool := match o with
  | some (.tup [.b w', .i .i64 z], [], 0, 0) => (w == w') && eqIs z 0
  | _ => false
theorem okJ_eq {w : Bool} {o : Option (AVal × Heap × Nat × Nat)} (h : okJ w o = true) : o = some (.tup [.b w, .i .i64 0], [], 0, 0) := by
  unfold okJ at h
  split at h
  · rw [Bool.and_eq_true] at h
    rw [eq_of_beq h.1, eqIs_eq h.2]; rfl
  · cases h
def chkM (n : Nat) : Bool := okM (mirN n) (excN n) ((Rk3 200).call 36 [.i .i64 (Int.ofNat n)] []) && (okJ (orphT n).isEmpty ((Rk3 200).call 28 [.i .i64 (Int.ofNat n)] []) && (okJ (oneT n) ((Rk3 200).call 30 [.i .i64 (Int.ofNat n)] []) && okJ (addN n) ((Rk3 200).call 38 [.i .i64 (Int.ofNat n)] [])))
theorem mm0 : ((List.range 16).all fun i => chkM (16 * 0 + i)) = true := by decide +kernel
theorem mm1 : ((List.range 16).all fun i => chkM (16 * 1 + i)) = true := by decide +kernel
theorem mm2 : ((List.range 16).all fun i => chkM (16 * 2 + i)) = true := by decide +kernel
theorem mm3 : ((List.range 16).all fun i => chkM (16 * 3 + i)) = true := by decide +kernel
theorem mm4 : ((List.range 16).all fun i => chkM (16 * 4 + i)) = true := by decide +kernel
theorem mm5 : ((List.range 16).all fun i => chkM (16 * 5 + i)) = true := by decide +kernel
theorem mm6 : ((List.range 16).all fun i => chkM (16 * 6 + i)) = true := by decide +kernel
theorem mm7 : ((List.range 16).all fun i => chkM (16 * 7 + i)) = true := by decide +kernel
theorem mm8 : ((List.range 16).all fun i => chkM (16 * 8 + i)) = true := by decide +kernel
theorem mm9 : ((List.range 16).all fun i => chkM (16 * 9 + i)) = true := by decide +kernel
theorem mm10 : ((List.range 16).all fun i => chkM (16 * 10 + i)) = true := by decide +kernel
theorem mm11 : ((List.range 16).all fun i => chkM (16 * 11 + i)) = true := by decide +kernel
theorem mm12 : ((List.range 16).all fun i => chkM (16 * 12 + i)) = true := by decide +kernel
theorem mm13 : ((List.range 16).all fun i => chkM (16 * 13 + i)) = true := by decide +kernel
theorem mm14 : ((List.range 16).all fun i => chkM (16 * 14 + i)) = true := by decide +kernel
theorem mm15 : ((List.range 16).all fun i => chkM (16 * 15 + i)) = true := by decide +kernel
theorem mm_all {n : Nat} (hn : n < 256) : chkM n = true := by
  by_cases h0 : n < 16
  · exact all_16 (P := chkM) mm0 (by omega) (by omega)
  by_cases h1 : n < 32
  · exact all_16 (P := chkM) mm1 (by omega) (by omega)
  by_cases h2 : n < 48
  · exact all_16 (P := chkM) mm2 (by omega) (by omega)
  by_cases h3 : n < 64
  · exact all_16 (P := chkM) mm3 (by omega) (by omega)
  by_cases h4 : n < 80
  · exact all_16 (P := chkM) mm4 (by omega) (by omega)
  by_cases h5 : n < 96
  · exact all_16 (P := chkM) mm5 (by omega) (by omega)
  by_cases h6 : n < 112
  · exact all_16 (P := chkM) mm6 (by omega) (by omega)
  by_cases h7 : n < 128
  · exact all_16 (P := chkM) mm7 (by omega) (by omega)
  by_cases h8 : n < 144
  · exact all_16 (P := chkM) mm8 (by omega) (by omega)
  by_cases h9 : n < 160
  · exact all_16 (P := chkM) mm9 (by omega) (by omega)
  by_cases h10 : n < 176
  · exact all_16 (P := chkM) mm10 (by omega) (by omega)
  by_cases h11 : n < 192
  · exact all_16 (P := chkM) mm11 (by omega) (by omega)
  by_cases h12 : n < 208
  · exact all_16 (P := chkM) mm12 (by omega) (by omega)
  by_cases h13 : n < 224
  · exact all_16 (P := chkM) mm13 (by omega) (by omega)
  by_cases h14 : n < 240
  · exact all_16 (P := chkM) mm14 (by omega) (by omega)
  by_cases h15 : n < 256
  · exact all_16 (P := chkM) mm15 (by omega) (by omega)
  omega
theorem facts {n : Nat} (hn : n < 256) : callX F3 [] 36 [.i .i64 n] [] = some (.tup [.i .i64 (mirN n : Nat), .i .i64 (excN n : Nat), .i .i64 0], [], 0, 0) ∧ callX F3 [] 28 [.i .i64 n] [] = some (.tup [.b (orphT n).isEmpty, .i .i64 0], [], 0, 0) ∧
    callX F3 [] 30 [.i .i64 n] [] = some (.tup [.b (oneT n), .i .i64 0], [], 0, 0) ∧ callX F3 [] 38 [.i .i64 n] [] = some (.tup [.b (addN n), .i .i64 0], [], 0, 0) := by
  have h := mm_all hn
  simp only [chkM, Bool.and_eq_true] at h
  exact ⟨(meansS_ok [] allO 200).call _ _ _ _ (okM_eq h.1), (meansS_ok [] allO 200).call _ _ _ _ (okJ_eq h.2.1), (meansS_ok [] allO 200).call _ _ _ _ (okJ_eq h.2.2.1), (meansS_ok [] allO 200).call _ _ _ _ (okJ_eq h.2.2.2)⟩
end Go.Proofs.Ytjjinlljdfaipaa.W

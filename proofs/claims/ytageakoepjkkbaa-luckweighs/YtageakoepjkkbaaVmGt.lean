/- The plain functions together; alive, reckoned. -/
import Derived.Test.YtageakoepjkkbaaVmGa0
import Derived.Test.YtageakoepjkkbaaVmGa1
import Derived.KernelRfl
open Go.Vm
set_option linter.unusedVariables false
namespace Go.Proofs.Ytageakoepjkkbaa.T
open Go
def d16 (O : Caller) (M : Means) (ro : List ABlk) (l : List AVal) (h : Heap) : Option (AVal × Heap × Nat × Nat) :=
  match l with
  | [] => g16 M ro  ⟨h, h.length, h.length⟩
  | _ => none
theorem d16_ok {ro : List ABlk} {O : Caller} {M : Means} (hM : M.Ok ⟨F, O⟩ ro) {l h r} (hr : d16 O M ro l h = some r) (ho : O 16 l h = none) : callX ⟨F, O⟩ ro 16 l h = some r := by
  unfold d16 at hr
  split at hr
  · exact g16_ok hM ho hr
  · cases hr
def d20 (O : Caller) (M : Means) (ro : List ABlk) (l : List AVal) (h : Heap) : Option (AVal × Heap × Nat × Nat) :=
  match l with
  | [a0, a1] => g20 M ro a0 a1 ⟨h, h.length, h.length⟩
  | _ => none
theorem d20_ok {ro : List ABlk} {O : Caller} {M : Means} (hM : M.Ok ⟨F, O⟩ ro) {l h r} (hr : d20 O M ro l h = some r) (ho : O 20 l h = none) : callX ⟨F, O⟩ ro 20 l h = some r := by
  unfold d20 at hr
  split at hr
  · exact g20_ok hM ho hr
  · cases hr
def d23 (O : Caller) (M : Means) (ro : List ABlk) (l : List AVal) (h : Heap) : Option (AVal × Heap × Nat × Nat) :=
  match l with
  | [.i .i64 a0, a1, a2] => g23 M ro a0 a1 a2 ⟨h, h.length, h.length⟩
  | _ => none
theorem d23_ok {ro : List ABlk} {O : Caller} {M : Means} (hM : M.Ok ⟨F, O⟩ ro) {l h r} (hr : d23 O M ro l h = some r) (ho : O 23 l h = none) : callX ⟨F, O⟩ ro 23 l h = some r := by
  unfold d23 at hr
  split at hr
  · exact g23_ok hM ho hr
  · cases hr
def d29 (O : Caller) (M : Means) (ro : List ABlk) (l : List AVal) (h : Heap) : Option (AVal × Heap × Nat × Nat) :=
  match l with
  | [.i .i64 a0, a1] => g29 M ro a0 a1 ⟨h, h.length, h.length⟩
  | _ => none
theorem d29_ok {ro : List ABlk} {O : Caller} {M : Means} (hM : M.Ok ⟨F, O⟩ ro) {l h r} (hr : d29 O M ro l h = some r) (ho : O 29 l h = none) : callX ⟨F, O⟩ ro 29 l h = some r := by
  unfold d29 at hr
  split at hr
  · exact g29_ok hM ho hr
  · cases hr
def d31 (O : Caller) (M : Means) (ro : List ABlk) (l : List AVal) (h : Heap) : Option (AVal × Heap × Nat × Nat) :=
  match l with
  | [.i .i64 a0, a1, a2] => g31 M ro a0 a1 a2 ⟨h, h.length, h.length⟩
  | _ => none
theorem d31_ok {ro : List ABlk} {O : Caller} {M : Means} (hM : M.Ok ⟨F, O⟩ ro) {l h r} (hr : d31 O M ro l h = some r) (ho : O 31 l h = none) : callX ⟨F, O⟩ ro 31 l h = some r := by
  unfold d31 at hr
  split at hr
  · exact g31_ok hM ho hr
  · cases hr
def d35 (O : Caller) (M : Means) (ro : List ABlk) (l : List AVal) (h : Heap) : Option (AVal × Heap × Nat × Nat) :=
  match l with
  | [.i .i64 a0, .i .i64 a1, a2] => g35 M ro a0 a1 a2 ⟨h, h.length, h.length⟩
  | _ => none
theorem d35_ok {ro : List ABlk} {O : Caller} {M : Means} (hM : M.Ok ⟨F, O⟩ ro) {l h r} (hr : d35 O M ro l h = some r) (ho : O 35 l h = none) : callX ⟨F, O⟩ ro 35 l h = some r := by
  unfold d35 at hr
  split at hr
  · exact g35_ok hM ho hr
  · cases hr
def d49 (O : Caller) (M : Means) (ro : List ABlk) (l : List AVal) (h : Heap) : Option (AVal × Heap × Nat × Nat) :=
  match l with
  | [.i .i64 a0, a1, a2] => g49 M ro a0 a1 a2 ⟨h, h.length, h.length⟩
  | _ => none
theorem d49_ok {ro : List ABlk} {O : Caller} {M : Means} (hM : M.Ok ⟨F, O⟩ ro) {l h r} (hr : d49 O M ro l h = some r) (ho : O 49 l h = none) : callX ⟨F, O⟩ ro 49 l h = some r := by
  unfold d49 at hr
  split at hr
  · exact g49_ok hM ho hr
  · cases hr
def d50 (O : Caller) (M : Means) (ro : List ABlk) (l : List AVal) (h : Heap) : Option (AVal × Heap × Nat × Nat) :=
  match l with
  | [a0, a1, a2] => g50 M ro a0 a1 a2 ⟨h, h.length, h.length⟩
  | _ => none
theorem d50_ok {ro : List ABlk} {O : Caller} {M : Means} (hM : M.Ok ⟨F, O⟩ ro) {l h r} (hr : d50 O M ro l h = some r) (ho : O 50 l h = none) : callX ⟨F, O⟩ ro 50 l h = some r := by
  unfold d50 at hr
  split at hr
  · exact g50_ok hM ho hr
  · cases hr
def d58 (O : Caller) (M : Means) (ro : List ABlk) (l : List AVal) (h : Heap) : Option (AVal × Heap × Nat × Nat) :=
  match l with
  | [.i .i64 a0, a1] => g58 M ro a0 a1 ⟨h, h.length, h.length⟩
  | _ => none
theorem d58_ok {ro : List ABlk} {O : Caller} {M : Means} (hM : M.Ok ⟨F, O⟩ ro) {l h r} (hr : d58 O M ro l h = some r) (ho : O 58 l h = none) : callX ⟨F, O⟩ ro 58 l h = some r := by
  unfold d58 at hr
  split at hr
  · exact g58_ok hM ho hr
  · cases hr
def d59 (O : Caller) (M : Means) (ro : List ABlk) (l : List AVal) (h : Heap) : Option (AVal × Heap × Nat × Nat) :=
  match l with
  | [a0] => g59 M ro a0 ⟨h, h.length, h.length⟩
  | _ => none
theorem d59_ok {ro : List ABlk} {O : Caller} {M : Means} (hM : M.Ok ⟨F, O⟩ ro) {l h r} (hr : d59 O M ro l h = some r) (ho : O 59 l h = none) : callX ⟨F, O⟩ ro 59 l h = some r := by
  unfold d59 at hr
  split at hr
  · exact g59_ok hM ho hr
  · cases hr
def d61 (O : Caller) (M : Means) (ro : List ABlk) (l : List AVal) (h : Heap) : Option (AVal × Heap × Nat × Nat) :=
  match l with
  | [a0, .i .i64 a1] => g61 M ro a0 a1 ⟨h, h.length, h.length⟩
  | _ => none
theorem d61_ok {ro : List ABlk} {O : Caller} {M : Means} (hM : M.Ok ⟨F, O⟩ ro) {l h r} (hr : d61 O M ro l h = some r) (ho : O 61 l h = none) : callX ⟨F, O⟩ ro 61 l h = some r := by
  unfold d61 at hr
  split at hr
  · exact g61_ok hM ho hr
  · cases hr
def d62 (O : Caller) (M : Means) (ro : List ABlk) (l : List AVal) (h : Heap) : Option (AVal × Heap × Nat × Nat) :=
  match l with
  | [a0, .i .i64 a1] => g62 M ro a0 a1 ⟨h, h.length, h.length⟩
  | _ => none
theorem d62_ok {ro : List ABlk} {O : Caller} {M : Means} (hM : M.Ok ⟨F, O⟩ ro) {l h r} (hr : d62 O M ro l h = some r) (ho : O 62 l h = none) : callX ⟨F, O⟩ ro 62 l h = some r := by
  unfold d62 at hr
  split at hr
  · exact g62_ok hM ho hr
  · cases hr
def d63 (O : Caller) (M : Means) (ro : List ABlk) (l : List AVal) (h : Heap) : Option (AVal × Heap × Nat × Nat) :=
  match l with
  | [.i .i64 a0, .i .i64 a1] => g63 M ro a0 a1 ⟨h, h.length, h.length⟩
  | _ => none
theorem d63_ok {ro : List ABlk} {O : Caller} {M : Means} (hM : M.Ok ⟨F, O⟩ ro) {l h r} (hr : d63 O M ro l h = some r) (ho : O 63 l h = none) : callX ⟨F, O⟩ ro 63 l h = some r := by
  unfold d63 at hr
  split at hr
  · exact g63_ok hM ho hr
  · cases hr
def d64 (O : Caller) (M : Means) (ro : List ABlk) (l : List AVal) (h : Heap) : Option (AVal × Heap × Nat × Nat) :=
  match l with
  | [a0] => g64 M ro a0 ⟨h, h.length, h.length⟩
  | _ => none
theorem d64_ok {ro : List ABlk} {O : Caller} {M : Means} (hM : M.Ok ⟨F, O⟩ ro) {l h r} (hr : d64 O M ro l h = some r) (ho : O 64 l h = none) : callX ⟨F, O⟩ ro 64 l h = some r := by
  unfold d64 at hr
  split at hr
  · exact g64_ok hM ho hr
  · cases hr
def d68 (O : Caller) (M : Means) (ro : List ABlk) (l : List AVal) (h : Heap) : Option (AVal × Heap × Nat × Nat) :=
  match l with
  | [a0, .i .i64 a1, .i .i64 a2] => g68 M ro a0 a1 a2 ⟨h, h.length, h.length⟩
  | _ => none
theorem d68_ok {ro : List ABlk} {O : Caller} {M : Means} (hM : M.Ok ⟨F, O⟩ ro) {l h r} (hr : d68 O M ro l h = some r) (ho : O 68 l h = none) : callX ⟨F, O⟩ ro 68 l h = some r := by
  unfold d68 at hr
  split at hr
  · exact g68_ok hM ho hr
  · cases hr
def d69 (O : Caller) (M : Means) (ro : List ABlk) (l : List AVal) (h : Heap) : Option (AVal × Heap × Nat × Nat) :=
  match l with
  | [a0, .i .i64 a1] => g69 M ro a0 a1 ⟨h, h.length, h.length⟩
  | _ => none
theorem d69_ok {ro : List ABlk} {O : Caller} {M : Means} (hM : M.Ok ⟨F, O⟩ ro) {l h r} (hr : d69 O M ro l h = some r) (ho : O 69 l h = none) : callX ⟨F, O⟩ ro 69 l h = some r := by
  unfold d69 at hr
  split at hr
  · exact g69_ok hM ho hr
  · cases hr
def d76 (O : Caller) (M : Means) (ro : List ABlk) (l : List AVal) (h : Heap) : Option (AVal × Heap × Nat × Nat) :=
  match l with
  | [a0] => g76 M ro a0 ⟨h, h.length, h.length⟩
  | _ => none
theorem d76_ok {ro : List ABlk} {O : Caller} {M : Means} (hM : M.Ok ⟨F, O⟩ ro) {l h r} (hr : d76 O M ro l h = some r) (ho : O 76 l h = none) : callX ⟨F, O⟩ ro 76 l h = some r := by
  unfold d76 at hr
  split at hr
  · exact g76_ok hM ho hr
  · cases hr
def d78 (O : Caller) (M : Means) (ro : List ABlk) (l : List AVal) (h : Heap) : Option (AVal × Heap × Nat × Nat) :=
  match l with
  | [.i .u64 a0] => g78 M ro a0 ⟨h, h.length, h.length⟩
  | _ => none
theorem d78_ok {ro : List ABlk} {O : Caller} {M : Means} (hM : M.Ok ⟨F, O⟩ ro) {l h r} (hr : d78 O M ro l h = some r) (ho : O 78 l h = none) : callX ⟨F, O⟩ ro 78 l h = some r := by
  unfold d78 at hr
  split at hr
  · exact g78_ok hM ho hr
  · cases hr
def d82 (O : Caller) (M : Means) (ro : List ABlk) (l : List AVal) (h : Heap) : Option (AVal × Heap × Nat × Nat) :=
  match l with
  | [.i .u32 a0] => g82 M ro a0 ⟨h, h.length, h.length⟩
  | _ => none
theorem d82_ok {ro : List ABlk} {O : Caller} {M : Means} (hM : M.Ok ⟨F, O⟩ ro) {l h r} (hr : d82 O M ro l h = some r) (ho : O 82 l h = none) : callX ⟨F, O⟩ ro 82 l h = some r := by
  unfold d82 at hr
  split at hr
  · exact g82_ok hM ho hr
  · cases hr
def d83 (O : Caller) (M : Means) (ro : List ABlk) (l : List AVal) (h : Heap) : Option (AVal × Heap × Nat × Nat) :=
  match l with
  | [.i .u64 a0] => g83 M ro a0 ⟨h, h.length, h.length⟩
  | _ => none
theorem d83_ok {ro : List ABlk} {O : Caller} {M : Means} (hM : M.Ok ⟨F, O⟩ ro) {l h r} (hr : d83 O M ro l h = some r) (ho : O 83 l h = none) : callX ⟨F, O⟩ ro 83 l h = some r := by
  unfold d83 at hr
  split at hr
  · exact g83_ok hM ho hr
  · cases hr
def d99 (O : Caller) (M : Means) (ro : List ABlk) (l : List AVal) (h : Heap) : Option (AVal × Heap × Nat × Nat) :=
  match l with
  | [a0, a1] => g99 M ro a0 a1 ⟨h, h.length, h.length⟩
  | _ => none
theorem d99_ok {ro : List ABlk} {O : Caller} {M : Means} (hM : M.Ok ⟨F, O⟩ ro) {l h r} (hr : d99 O M ro l h = some r) (ho : O 99 l h = none) : callX ⟨F, O⟩ ro 99 l h = some r := by
  unfold d99 at hr
  split at hr
  · exact g99_ok hM ho hr
  · cases hr
def d100 (O : Caller) (M : Means) (ro : List ABlk) (l : List AVal) (h : Heap) : Option (AVal × Heap × Nat × Nat) :=
  match l with
  | [a0, a1, .i .i64 a2, .i .i64 a3] => g100 M ro a0 a1 a2 a3 ⟨h, h.length, h.length⟩
  | _ => none
theorem d100_ok {ro : List ABlk} {O : Caller} {M : Means} (hM : M.Ok ⟨F, O⟩ ro) {l h r} (hr : d100 O M ro l h = some r) (ho : O 100 l h = none) : callX ⟨F, O⟩ ro 100 l h = some r := by
  unfold d100 at hr
  split at hr
  · exact g100_ok hM ho hr
  · cases hr
def d101 (O : Caller) (M : Means) (ro : List ABlk) (l : List AVal) (h : Heap) : Option (AVal × Heap × Nat × Nat) :=
  match l with
  | [.i .i64 a0] => g101 M ro a0 ⟨h, h.length, h.length⟩
  | _ => none
theorem d101_ok {ro : List ABlk} {O : Caller} {M : Means} (hM : M.Ok ⟨F, O⟩ ro) {l h r} (hr : d101 O M ro l h = some r) (ho : O 101 l h = none) : callX ⟨F, O⟩ ro 101 l h = some r := by
  unfold d101 at hr
  split at hr
  · exact g101_ok hM ho hr
  · cases hr
def d102 (O : Caller) (M : Means) (ro : List ABlk) (l : List AVal) (h : Heap) : Option (AVal × Heap × Nat × Nat) :=
  match l with
  | [.i .i64 a0] => g102 M ro a0 ⟨h, h.length, h.length⟩
  | _ => none
theorem d102_ok {ro : List ABlk} {O : Caller} {M : Means} (hM : M.Ok ⟨F, O⟩ ro) {l h r} (hr : d102 O M ro l h = some r) (ho : O 102 l h = none) : callX ⟨F, O⟩ ro 102 l h = some r := by
  unfold d102 at hr
  split at hr
  · exact g102_ok hM ho hr
  · cases hr
def d103 (O : Caller) (M : Means) (ro : List ABlk) (l : List AVal) (h : Heap) : Option (AVal × Heap × Nat × Nat) :=
  match l with
  | [a0, a1] => g103 M ro a0 a1 ⟨h, h.length, h.length⟩
  | _ => none
theorem d103_ok {ro : List ABlk} {O : Caller} {M : Means} (hM : M.Ok ⟨F, O⟩ ro) {l h r} (hr : d103 O M ro l h = some r) (ho : O 103 l h = none) : callX ⟨F, O⟩ ro 103 l h = some r := by
  unfold d103 at hr
  split at hr
  · exact g103_ok hM ho hr
  · cases hr
def d104 (O : Caller) (M : Means) (ro : List ABlk) (l : List AVal) (h : Heap) : Option (AVal × Heap × Nat × Nat) :=
  match l with
  | [a0, a1, .i .i64 a2, .i .i64 a3] => g104 M ro a0 a1 a2 a3 ⟨h, h.length, h.length⟩
  | _ => none
theorem d104_ok {ro : List ABlk} {O : Caller} {M : Means} (hM : M.Ok ⟨F, O⟩ ro) {l h r} (hr : d104 O M ro l h = some r) (ho : O 104 l h = none) : callX ⟨F, O⟩ ro 104 l h = some r := by
  unfold d104 at hr
  split at hr
  · exact g104_ok hM ho hr
  · cases hr
def d105 (O : Caller) (M : Means) (ro : List ABlk) (l : List AVal) (h : Heap) : Option (AVal × Heap × Nat × Nat) :=
  match l with
  | [a0, a1] => g105 M ro a0 a1 ⟨h, h.length, h.length⟩
  | _ => none
theorem d105_ok {ro : List ABlk} {O : Caller} {M : Means} (hM : M.Ok ⟨F, O⟩ ro) {l h r} (hr : d105 O M ro l h = some r) (ho : O 105 l h = none) : callX ⟨F, O⟩ ro 105 l h = some r := by
  unfold d105 at hr
  split at hr
  · exact g105_ok hM ho hr
  · cases hr
def tabS (O : Caller) (M : Means) (ro : List ABlk) (f : Nat) (l : List AVal) (h : Heap) : Option (AVal × Heap × Nat × Nat) :=
  (cond (Nat.blt f 64) (cond (Nat.blt f 49) (cond (Nat.blt f 29) (cond (Nat.blt f 20) (cond (Nat.beq f 16) (d16 O M ro l h) none) (cond (Nat.blt f 23) (cond (Nat.beq f 20) (d20 O M ro l h) none) (cond (Nat.beq f 23) (d23 O M ro l h) none))) (cond (Nat.blt f 31) (cond (Nat.beq f 29) (d29 O M ro l h) none) (cond (Nat.blt f 35) (cond (Nat.beq f 31) (d31 O M ro l h) none) (cond (Nat.beq f 35) (d35 O M ro l h) none)))) (cond (Nat.blt f 59) (cond (Nat.blt f 50) (cond (Nat.beq f 49) (d49 O M ro l h) none) (cond (Nat.blt f 58) (cond (Nat.beq f 50) (d50 O M ro l h) none) (cond (Nat.beq f 58) (d58 O M ro l h) none))) (cond (Nat.blt f 62) (cond (Nat.blt f 61) (cond (Nat.beq f 59) (d59 O M ro l h) none) (cond (Nat.beq f 61) (d61 O M ro l h) none)) (cond (Nat.blt f 63) (cond (Nat.beq f 62) (d62 O M ro l h) none) (cond (Nat.beq f 63) (d63 O M ro l h) none))))) (cond (Nat.blt f 99) (cond (Nat.blt f 76) (cond (Nat.blt f 68) (cond (Nat.beq f 64) (d64 O M ro l h) none) (cond (Nat.blt f 69) (cond (Nat.beq f 68) (d68 O M ro l h) none) (cond (Nat.beq f 69) (d69 O M ro l h) none))) (cond (Nat.blt f 82) (cond (Nat.blt f 78) (cond (Nat.beq f 76) (d76 O M ro l h) none) (cond (Nat.beq f 78) (d78 O M ro l h) none)) (cond (Nat.blt f 83) (cond (Nat.beq f 82) (d82 O M ro l h) none) (cond (Nat.beq f 83) (d83 O M ro l h) none)))) (cond (Nat.blt f 102) (cond (Nat.blt f 100) (cond (Nat.beq f 99) (d99 O M ro l h) none) (cond (Nat.blt f 101) (cond (Nat.beq f 100) (d100 O M ro l h) none) (cond (Nat.beq f 101) (d101 O M ro l h) none))) (cond (Nat.blt f 104) (cond (Nat.blt f 103) (cond (Nat.beq f 102) (d102 O M ro l h) none) (cond (Nat.beq f 103) (d103 O M ro l h) none)) (cond (Nat.blt f 105) (cond (Nat.beq f 104) (d104 O M ro l h) none) (cond (Nat.beq f 105) (d105 O M ro l h) none))))))
theorem leafS {f k : Nat} {A : Option (AVal × Heap × Nat × Nat)} {r : AVal × Heap × Nat × Nat} {G : Nat → Prop} (hA : A = some r → G k) (h : cond (Nat.beq f k) A none = some r) : G f := by
  cases hb : Nat.beq f k
  · rw [hb] at h; cases h
  · rw [hb] at h
    rw [Nat.eq_of_beq_eq_true hb]
    exact hA h
theorem nodeS {f k : Nat} {A B : Option (AVal × Heap × Nat × Nat)} {r : AVal × Heap × Nat × Nat} {G : Prop} (hA : A = some r → G) (hB : B = some r → G) (h : cond (Nat.blt f k) A B = some r) : G := by
  cases hb : Nat.blt f k
  · rw [hb] at h; exact hB h
  · rw [hb] at h; exact hA h
theorem tabS_ok {ro : List ABlk} {O : Caller} {M : Means} (hM : M.Ok ⟨F, O⟩ ro) {f : Nat} {l : List AVal} {h : Heap} {r : AVal × Heap × Nat × Nat} (hr : tabS O M ro f l h = some r) : O f l h = none → callX ⟨F, O⟩ ro f l h = some r :=
  (nodeS (nodeS (nodeS (nodeS (leafS (G := fun f => O f l h = none → callX ⟨F, O⟩ ro f l h = some r) (d16_ok hM)) (nodeS (leafS (G := fun f => O f l h = none → callX ⟨F, O⟩ ro f l h = some r) (d20_ok hM)) (leafS (G := fun f => O f l h = none → callX ⟨F, O⟩ ro f l h = some r) (d23_ok hM)))) (nodeS (leafS (G := fun f => O f l h = none → callX ⟨F, O⟩ ro f l h = some r) (d29_ok hM)) (nodeS (leafS (G := fun f => O f l h = none → callX ⟨F, O⟩ ro f l h = some r) (d31_ok hM)) (leafS (G := fun f => O f l h = none → callX ⟨F, O⟩ ro f l h = some r) (d35_ok hM))))) (nodeS (nodeS (leafS (G := fun f => O f l h = none → callX ⟨F, O⟩ ro f l h = some r) (d49_ok hM)) (nodeS (leafS (G := fun f => O f l h = none → callX ⟨F, O⟩ ro f l h = some r) (d50_ok hM)) (leafS (G := fun f => O f l h = none → callX ⟨F, O⟩ ro f l h = some r) (d58_ok hM)))) (nodeS (nodeS (leafS (G := fun f => O f l h = none → callX ⟨F, O⟩ ro f l h = some r) (d59_ok hM)) (leafS (G := fun f => O f l h = none → callX ⟨F, O⟩ ro f l h = some r) (d61_ok hM))) (nodeS (leafS (G := fun f => O f l h = none → callX ⟨F, O⟩ ro f l h = some r) (d62_ok hM)) (leafS (G := fun f => O f l h = none → callX ⟨F, O⟩ ro f l h = some r) (d63_ok hM)))))) (nodeS (nodeS (nodeS (leafS (G := fun f => O f l h = none → callX ⟨F, O⟩ ro f l h = some r) (d64_ok hM)) (nodeS (leafS (G := fun f => O f l h = none → callX ⟨F, O⟩ ro f l h = some r) (d68_ok hM)) (leafS (G := fun f => O f l h = none → callX ⟨F, O⟩ ro f l h = some r) (d69_ok hM)))) (nodeS (nodeS (leafS (G := fun f => O f l h = none → callX ⟨F, O⟩ ro f l h = some r) (d76_ok hM)) (leafS (G := fun f => O f l h = none → callX ⟨F, O⟩ ro f l h = some r) (d78_ok hM))) (nodeS (leafS (G := fun f => O f l h = none → callX ⟨F, O⟩ ro f l h = some r) (d82_ok hM)) (leafS (G := fun f => O f l h = none → callX ⟨F, O⟩ ro f l h = some r) (d83_ok hM))))) (nodeS (nodeS (leafS (G := fun f => O f l h = none → callX ⟨F, O⟩ ro f l h = some r) (d99_ok hM)) (nodeS (leafS (G := fun f => O f l h = none → callX ⟨F, O⟩ ro f l h = some r) (d100_ok hM)) (leafS (G := fun f => O f l h = none → callX ⟨F, O⟩ ro f l h = some r) (d101_ok hM)))) (nodeS (nodeS (leafS (G := fun f => O f l h = none → callX ⟨F, O⟩ ro f l h = some r) (d102_ok hM)) (leafS (G := fun f => O f l h = none → callX ⟨F, O⟩ ro f l h = some r) (d103_ok hM))) (nodeS (leafS (G := fun f => O f l h = none → callX ⟨F, O⟩ ro f l h = some r) (d104_ok hM)) (leafS (G := fun f => O f l h = none → callX ⟨F, O⟩ ro f l h = some r) (d105_ok hM))))))) hr
def meansS (ro : List ABlk) (O : Caller) : Nat → Means
  | 0 => ⟨fun _ _ _ => none, fun _ _ => none, fun _ _ _ => none⟩
  | n + 1 => ⟨fun f l h => match O f l h with
    | some r => some r
    | none => tabS O (meansS ro O n) ro f l h, fun b s => iter b (n + 1) s, fun _ _ _ => none⟩
theorem meansS_ok (ro : List ABlk) (O : Caller) : ∀ n, (meansS ro O n).Ok ⟨F, O⟩ ro
  | 0 => ⟨fun _ _ _ _ h => (nomatch h), fun _ _ _ h => (nomatch h), fun _ _ _ _ h => (nomatch h)⟩
  | n + 1 => ⟨fun f l h r hr => by
      simp only [meansS] at hr
      split at hr
      · rename_i e; cases hr; exact callX_ov e
      · rename_i e; exact tabS_ok (meansS_ok ro O n) hr e, fun _ _ _ h => ⟨n + 1, h⟩, fun _ _ _ _ h => (nomatch h)⟩
def okA (o : Option (AVal × Heap × Nat × Nat)) : Bool := match o with
  | some (.b true, [], 0, 0) => true
  | _ => false
theorem okA_eq {o : Option (AVal × Heap × Nat × Nat)} (h : okA o = true) : o = some (.b true, [], 0, 0) := by
  unfold okA at h
  split at h
  · rfl
  · cases h
theorem alive0 : callX ⟨F, noCall⟩ [] 16 [] [] = some (.b true, [], 0, 0) :=
  (meansS_ok [] noCall 300).call 16 [] [] _ (okA_eq (by decide +kernel))
end Go.Proofs.Ytageakoepjkkbaa.T

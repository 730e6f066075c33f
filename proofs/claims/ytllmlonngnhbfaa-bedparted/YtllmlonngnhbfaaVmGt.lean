/- The plain functions together; alive, reckoned. -/
import Derived.Test.YtllmlonngnhbfaaVmGa0
import Derived.Test.YtllmlonngnhbfaaVmGa1
open Go.Vm
set_option linter.unusedVariables false
namespace Go.Proofs.Ytllmlonngnhbfaa.Bed
open Go
def d13 (M : Means) (ro : List ABlk) (l : List AVal) (h : Heap) : Option (AVal × Heap × Nat × Nat) :=
  match l with
  | [a0] => g13 M ro a0 ⟨h, h.length, h.length⟩
  | _ => none
theorem d13_ok {ro : List ABlk} {O : Caller} {M : Means} (hM : M.Ok ⟨F, O⟩ ro) {l h r} (hr : d13 M ro l h = some r) (ho : O 13 l h = none) : callX ⟨F, O⟩ ro 13 l h = some r := by
  unfold d13 at hr
  split at hr
  · exact g13_ok hM ho hr
  · cases hr
def d16 (M : Means) (ro : List ABlk) (l : List AVal) (h : Heap) : Option (AVal × Heap × Nat × Nat) :=
  match l with
  | [a0] => g16 M ro a0 ⟨h, h.length, h.length⟩
  | _ => none
theorem d16_ok {ro : List ABlk} {O : Caller} {M : Means} (hM : M.Ok ⟨F, O⟩ ro) {l h r} (hr : d16 M ro l h = some r) (ho : O 16 l h = none) : callX ⟨F, O⟩ ro 16 l h = some r := by
  unfold d16 at hr
  split at hr
  · exact g16_ok hM ho hr
  · cases hr
def d17 (M : Means) (ro : List ABlk) (l : List AVal) (h : Heap) : Option (AVal × Heap × Nat × Nat) :=
  match l with
  | [] => g17 M ro  ⟨h, h.length, h.length⟩
  | _ => none
theorem d17_ok {ro : List ABlk} {O : Caller} {M : Means} (hM : M.Ok ⟨F, O⟩ ro) {l h r} (hr : d17 M ro l h = some r) (ho : O 17 l h = none) : callX ⟨F, O⟩ ro 17 l h = some r := by
  unfold d17 at hr
  split at hr
  · exact g17_ok hM ho hr
  · cases hr
def d19 (M : Means) (ro : List ABlk) (l : List AVal) (h : Heap) : Option (AVal × Heap × Nat × Nat) :=
  match l with
  | [a0] => g19 M ro a0 ⟨h, h.length, h.length⟩
  | _ => none
theorem d19_ok {ro : List ABlk} {O : Caller} {M : Means} (hM : M.Ok ⟨F, O⟩ ro) {l h r} (hr : d19 M ro l h = some r) (ho : O 19 l h = none) : callX ⟨F, O⟩ ro 19 l h = some r := by
  unfold d19 at hr
  split at hr
  · exact g19_ok hM ho hr
  · cases hr
def d21 (M : Means) (ro : List ABlk) (l : List AVal) (h : Heap) : Option (AVal × Heap × Nat × Nat) :=
  match l with
  | [a0, a1] => g21 M ro a0 a1 ⟨h, h.length, h.length⟩
  | _ => none
theorem d21_ok {ro : List ABlk} {O : Caller} {M : Means} (hM : M.Ok ⟨F, O⟩ ro) {l h r} (hr : d21 M ro l h = some r) (ho : O 21 l h = none) : callX ⟨F, O⟩ ro 21 l h = some r := by
  unfold d21 at hr
  split at hr
  · exact g21_ok hM ho hr
  · cases hr
def d23 (M : Means) (ro : List ABlk) (l : List AVal) (h : Heap) : Option (AVal × Heap × Nat × Nat) :=
  match l with
  | [a0] => g23 M ro a0 ⟨h, h.length, h.length⟩
  | _ => none
theorem d23_ok {ro : List ABlk} {O : Caller} {M : Means} (hM : M.Ok ⟨F, O⟩ ro) {l h r} (hr : d23 M ro l h = some r) (ho : O 23 l h = none) : callX ⟨F, O⟩ ro 23 l h = some r := by
  unfold d23 at hr
  split at hr
  · exact g23_ok hM ho hr
  · cases hr
def d28 (M : Means) (ro : List ABlk) (l : List AVal) (h : Heap) : Option (AVal × Heap × Nat × Nat) :=
  match l with
  | [a0, a1] => g28 M ro a0 a1 ⟨h, h.length, h.length⟩
  | _ => none
theorem d28_ok {ro : List ABlk} {O : Caller} {M : Means} (hM : M.Ok ⟨F, O⟩ ro) {l h r} (hr : d28 M ro l h = some r) (ho : O 28 l h = none) : callX ⟨F, O⟩ ro 28 l h = some r := by
  unfold d28 at hr
  split at hr
  · exact g28_ok hM ho hr
  · cases hr
def d33 (M : Means) (ro : List ABlk) (l : List AVal) (h : Heap) : Option (AVal × Heap × Nat × Nat) :=
  match l with
  | [a0] => g33 M ro a0 ⟨h, h.length, h.length⟩
  | _ => none
theorem d33_ok {ro : List ABlk} {O : Caller} {M : Means} (hM : M.Ok ⟨F, O⟩ ro) {l h r} (hr : d33 M ro l h = some r) (ho : O 33 l h = none) : callX ⟨F, O⟩ ro 33 l h = some r := by
  unfold d33 at hr
  split at hr
  · exact g33_ok hM ho hr
  · cases hr
def d37 (M : Means) (ro : List ABlk) (l : List AVal) (h : Heap) : Option (AVal × Heap × Nat × Nat) :=
  match l with
  | [a0] => g37 M ro a0 ⟨h, h.length, h.length⟩
  | _ => none
theorem d37_ok {ro : List ABlk} {O : Caller} {M : Means} (hM : M.Ok ⟨F, O⟩ ro) {l h r} (hr : d37 M ro l h = some r) (ho : O 37 l h = none) : callX ⟨F, O⟩ ro 37 l h = some r := by
  unfold d37 at hr
  split at hr
  · exact g37_ok hM ho hr
  · cases hr
def d39 (M : Means) (ro : List ABlk) (l : List AVal) (h : Heap) : Option (AVal × Heap × Nat × Nat) :=
  match l with
  | [.i .i64 a0, .i .i64 a1] => g39 M ro a0 a1 ⟨h, h.length, h.length⟩
  | _ => none
theorem d39_ok {ro : List ABlk} {O : Caller} {M : Means} (hM : M.Ok ⟨F, O⟩ ro) {l h r} (hr : d39 M ro l h = some r) (ho : O 39 l h = none) : callX ⟨F, O⟩ ro 39 l h = some r := by
  unfold d39 at hr
  split at hr
  · exact g39_ok hM ho hr
  · cases hr
def d47 (M : Means) (ro : List ABlk) (l : List AVal) (h : Heap) : Option (AVal × Heap × Nat × Nat) :=
  match l with
  | [a0] => g47 M ro a0 ⟨h, h.length, h.length⟩
  | _ => none
theorem d47_ok {ro : List ABlk} {O : Caller} {M : Means} (hM : M.Ok ⟨F, O⟩ ro) {l h r} (hr : d47 M ro l h = some r) (ho : O 47 l h = none) : callX ⟨F, O⟩ ro 47 l h = some r := by
  unfold d47 at hr
  split at hr
  · exact g47_ok hM ho hr
  · cases hr
def d48 (M : Means) (ro : List ABlk) (l : List AVal) (h : Heap) : Option (AVal × Heap × Nat × Nat) :=
  match l with
  | [a0] => g48 M ro a0 ⟨h, h.length, h.length⟩
  | _ => none
theorem d48_ok {ro : List ABlk} {O : Caller} {M : Means} (hM : M.Ok ⟨F, O⟩ ro) {l h r} (hr : d48 M ro l h = some r) (ho : O 48 l h = none) : callX ⟨F, O⟩ ro 48 l h = some r := by
  unfold d48 at hr
  split at hr
  · exact g48_ok hM ho hr
  · cases hr
def d49 (M : Means) (ro : List ABlk) (l : List AVal) (h : Heap) : Option (AVal × Heap × Nat × Nat) :=
  match l with
  | [a0, a1, .i .i64 a2] => g49 M ro a0 a1 a2 ⟨h, h.length, h.length⟩
  | _ => none
theorem d49_ok {ro : List ABlk} {O : Caller} {M : Means} (hM : M.Ok ⟨F, O⟩ ro) {l h r} (hr : d49 M ro l h = some r) (ho : O 49 l h = none) : callX ⟨F, O⟩ ro 49 l h = some r := by
  unfold d49 at hr
  split at hr
  · exact g49_ok hM ho hr
  · cases hr
def d51 (M : Means) (ro : List ABlk) (l : List AVal) (h : Heap) : Option (AVal × Heap × Nat × Nat) :=
  match l with
  | [a0] => g51 M ro a0 ⟨h, h.length, h.length⟩
  | _ => none
theorem d51_ok {ro : List ABlk} {O : Caller} {M : Means} (hM : M.Ok ⟨F, O⟩ ro) {l h r} (hr : d51 M ro l h = some r) (ho : O 51 l h = none) : callX ⟨F, O⟩ ro 51 l h = some r := by
  unfold d51 at hr
  split at hr
  · exact g51_ok hM ho hr
  · cases hr
def d52 (M : Means) (ro : List ABlk) (l : List AVal) (h : Heap) : Option (AVal × Heap × Nat × Nat) :=
  match l with
  | [.i .i64 a0] => g52 M ro a0 ⟨h, h.length, h.length⟩
  | _ => none
theorem d52_ok {ro : List ABlk} {O : Caller} {M : Means} (hM : M.Ok ⟨F, O⟩ ro) {l h r} (hr : d52 M ro l h = some r) (ho : O 52 l h = none) : callX ⟨F, O⟩ ro 52 l h = some r := by
  unfold d52 at hr
  split at hr
  · exact g52_ok hM ho hr
  · cases hr
def d53 (M : Means) (ro : List ABlk) (l : List AVal) (h : Heap) : Option (AVal × Heap × Nat × Nat) :=
  match l with
  | [a0, a1] => g53 M ro a0 a1 ⟨h, h.length, h.length⟩
  | _ => none
theorem d53_ok {ro : List ABlk} {O : Caller} {M : Means} (hM : M.Ok ⟨F, O⟩ ro) {l h r} (hr : d53 M ro l h = some r) (ho : O 53 l h = none) : callX ⟨F, O⟩ ro 53 l h = some r := by
  unfold d53 at hr
  split at hr
  · exact g53_ok hM ho hr
  · cases hr
def d54 (M : Means) (ro : List ABlk) (l : List AVal) (h : Heap) : Option (AVal × Heap × Nat × Nat) :=
  match l with
  | [a0, a1] => g54 M ro a0 a1 ⟨h, h.length, h.length⟩
  | _ => none
theorem d54_ok {ro : List ABlk} {O : Caller} {M : Means} (hM : M.Ok ⟨F, O⟩ ro) {l h r} (hr : d54 M ro l h = some r) (ho : O 54 l h = none) : callX ⟨F, O⟩ ro 54 l h = some r := by
  unfold d54 at hr
  split at hr
  · exact g54_ok hM ho hr
  · cases hr
def d55 (M : Means) (ro : List ABlk) (l : List AVal) (h : Heap) : Option (AVal × Heap × Nat × Nat) :=
  match l with
  | [a0] => g55 M ro a0 ⟨h, h.length, h.length⟩
  | _ => none
theorem d55_ok {ro : List ABlk} {O : Caller} {M : Means} (hM : M.Ok ⟨F, O⟩ ro) {l h r} (hr : d55 M ro l h = some r) (ho : O 55 l h = none) : callX ⟨F, O⟩ ro 55 l h = some r := by
  unfold d55 at hr
  split at hr
  · exact g55_ok hM ho hr
  · cases hr
def d56 (M : Means) (ro : List ABlk) (l : List AVal) (h : Heap) : Option (AVal × Heap × Nat × Nat) :=
  match l with
  | [a0] => g56 M ro a0 ⟨h, h.length, h.length⟩
  | _ => none
theorem d56_ok {ro : List ABlk} {O : Caller} {M : Means} (hM : M.Ok ⟨F, O⟩ ro) {l h r} (hr : d56 M ro l h = some r) (ho : O 56 l h = none) : callX ⟨F, O⟩ ro 56 l h = some r := by
  unfold d56 at hr
  split at hr
  · exact g56_ok hM ho hr
  · cases hr
def d59 (M : Means) (ro : List ABlk) (l : List AVal) (h : Heap) : Option (AVal × Heap × Nat × Nat) :=
  match l with
  | [a0] => g59 M ro a0 ⟨h, h.length, h.length⟩
  | _ => none
theorem d59_ok {ro : List ABlk} {O : Caller} {M : Means} (hM : M.Ok ⟨F, O⟩ ro) {l h r} (hr : d59 M ro l h = some r) (ho : O 59 l h = none) : callX ⟨F, O⟩ ro 59 l h = some r := by
  unfold d59 at hr
  split at hr
  · exact g59_ok hM ho hr
  · cases hr
def d60 (M : Means) (ro : List ABlk) (l : List AVal) (h : Heap) : Option (AVal × Heap × Nat × Nat) :=
  match l with
  | [a0] => g60 M ro a0 ⟨h, h.length, h.length⟩
  | _ => none
theorem d60_ok {ro : List ABlk} {O : Caller} {M : Means} (hM : M.Ok ⟨F, O⟩ ro) {l h r} (hr : d60 M ro l h = some r) (ho : O 60 l h = none) : callX ⟨F, O⟩ ro 60 l h = some r := by
  unfold d60 at hr
  split at hr
  · exact g60_ok hM ho hr
  · cases hr
def d61 (M : Means) (ro : List ABlk) (l : List AVal) (h : Heap) : Option (AVal × Heap × Nat × Nat) :=
  match l with
  | [a0, .i .i64 a1, .i .i64 a2, a3] => g61 M ro a0 a1 a2 a3 ⟨h, h.length, h.length⟩
  | _ => none
theorem d61_ok {ro : List ABlk} {O : Caller} {M : Means} (hM : M.Ok ⟨F, O⟩ ro) {l h r} (hr : d61 M ro l h = some r) (ho : O 61 l h = none) : callX ⟨F, O⟩ ro 61 l h = some r := by
  unfold d61 at hr
  split at hr
  · exact g61_ok hM ho hr
  · cases hr
def d62 (M : Means) (ro : List ABlk) (l : List AVal) (h : Heap) : Option (AVal × Heap × Nat × Nat) :=
  match l with
  | [a0] => g62 M ro a0 ⟨h, h.length, h.length⟩
  | _ => none
theorem d62_ok {ro : List ABlk} {O : Caller} {M : Means} (hM : M.Ok ⟨F, O⟩ ro) {l h r} (hr : d62 M ro l h = some r) (ho : O 62 l h = none) : callX ⟨F, O⟩ ro 62 l h = some r := by
  unfold d62 at hr
  split at hr
  · exact g62_ok hM ho hr
  · cases hr
def d68 (M : Means) (ro : List ABlk) (l : List AVal) (h : Heap) : Option (AVal × Heap × Nat × Nat) :=
  match l with
  | [a0, .i .i64 a1] => g68 M ro a0 a1 ⟨h, h.length, h.length⟩
  | _ => none
theorem d68_ok {ro : List ABlk} {O : Caller} {M : Means} (hM : M.Ok ⟨F, O⟩ ro) {l h r} (hr : d68 M ro l h = some r) (ho : O 68 l h = none) : callX ⟨F, O⟩ ro 68 l h = some r := by
  unfold d68 at hr
  split at hr
  · exact g68_ok hM ho hr
  · cases hr
def d71 (M : Means) (ro : List ABlk) (l : List AVal) (h : Heap) : Option (AVal × Heap × Nat × Nat) :=
  match l with
  | [a0] => g71 M ro a0 ⟨h, h.length, h.length⟩
  | _ => none
theorem d71_ok {ro : List ABlk} {O : Caller} {M : Means} (hM : M.Ok ⟨F, O⟩ ro) {l h r} (hr : d71 M ro l h = some r) (ho : O 71 l h = none) : callX ⟨F, O⟩ ro 71 l h = some r := by
  unfold d71 at hr
  split at hr
  · exact g71_ok hM ho hr
  · cases hr
def d72 (M : Means) (ro : List ABlk) (l : List AVal) (h : Heap) : Option (AVal × Heap × Nat × Nat) :=
  match l with
  | [a0, a1] => g72 M ro a0 a1 ⟨h, h.length, h.length⟩
  | _ => none
theorem d72_ok {ro : List ABlk} {O : Caller} {M : Means} (hM : M.Ok ⟨F, O⟩ ro) {l h r} (hr : d72 M ro l h = some r) (ho : O 72 l h = none) : callX ⟨F, O⟩ ro 72 l h = some r := by
  unfold d72 at hr
  split at hr
  · exact g72_ok hM ho hr
  · cases hr
def d74 (M : Means) (ro : List ABlk) (l : List AVal) (h : Heap) : Option (AVal × Heap × Nat × Nat) :=
  match l with
  | [a0] => g74 M ro a0 ⟨h, h.length, h.length⟩
  | _ => none
theorem d74_ok {ro : List ABlk} {O : Caller} {M : Means} (hM : M.Ok ⟨F, O⟩ ro) {l h r} (hr : d74 M ro l h = some r) (ho : O 74 l h = none) : callX ⟨F, O⟩ ro 74 l h = some r := by
  unfold d74 at hr
  split at hr
  · exact g74_ok hM ho hr
  · cases hr
def d76 (M : Means) (ro : List ABlk) (l : List AVal) (h : Heap) : Option (AVal × Heap × Nat × Nat) :=
  match l with
  | [a0, a1] => g76 M ro a0 a1 ⟨h, h.length, h.length⟩
  | _ => none
theorem d76_ok {ro : List ABlk} {O : Caller} {M : Means} (hM : M.Ok ⟨F, O⟩ ro) {l h r} (hr : d76 M ro l h = some r) (ho : O 76 l h = none) : callX ⟨F, O⟩ ro 76 l h = some r := by
  unfold d76 at hr
  split at hr
  · exact g76_ok hM ho hr
  · cases hr
def d78 (M : Means) (ro : List ABlk) (l : List AVal) (h : Heap) : Option (AVal × Heap × Nat × Nat) :=
  match l with
  | [a0, a1, .i .i64 a2, a3] => g78 M ro a0 a1 a2 a3 ⟨h, h.length, h.length⟩
  | _ => none
theorem d78_ok {ro : List ABlk} {O : Caller} {M : Means} (hM : M.Ok ⟨F, O⟩ ro) {l h r} (hr : d78 M ro l h = some r) (ho : O 78 l h = none) : callX ⟨F, O⟩ ro 78 l h = some r := by
  unfold d78 at hr
  split at hr
  · exact g78_ok hM ho hr
  · cases hr
def d80 (M : Means) (ro : List ABlk) (l : List AVal) (h : Heap) : Option (AVal × Heap × Nat × Nat) :=
  match l with
  | [.i .i64 a0, .i .i64 a1] => g80 M ro a0 a1 ⟨h, h.length, h.length⟩
  | _ => none
theorem d80_ok {ro : List ABlk} {O : Caller} {M : Means} (hM : M.Ok ⟨F, O⟩ ro) {l h r} (hr : d80 M ro l h = some r) (ho : O 80 l h = none) : callX ⟨F, O⟩ ro 80 l h = some r := by
  unfold d80 at hr
  split at hr
  · exact g80_ok hM ho hr
  · cases hr
def d82 (M : Means) (ro : List ABlk) (l : List AVal) (h : Heap) : Option (AVal × Heap × Nat × Nat) :=
  match l with
  | [a0, a1, .i .i64 a2, a3] => g82 M ro a0 a1 a2 a3 ⟨h, h.length, h.length⟩
  | _ => none
theorem d82_ok {ro : List ABlk} {O : Caller} {M : Means} (hM : M.Ok ⟨F, O⟩ ro) {l h r} (hr : d82 M ro l h = some r) (ho : O 82 l h = none) : callX ⟨F, O⟩ ro 82 l h = some r := by
  unfold d82 at hr
  split at hr
  · exact g82_ok hM ho hr
  · cases hr
def d83 (M : Means) (ro : List ABlk) (l : List AVal) (h : Heap) : Option (AVal × Heap × Nat × Nat) :=
  match l with
  | [a0] => g83 M ro a0 ⟨h, h.length, h.length⟩
  | _ => none
theorem d83_ok {ro : List ABlk} {O : Caller} {M : Means} (hM : M.Ok ⟨F, O⟩ ro) {l h r} (hr : d83 M ro l h = some r) (ho : O 83 l h = none) : callX ⟨F, O⟩ ro 83 l h = some r := by
  unfold d83 at hr
  split at hr
  · exact g83_ok hM ho hr
  · cases hr
def d84 (M : Means) (ro : List ABlk) (l : List AVal) (h : Heap) : Option (AVal × Heap × Nat × Nat) :=
  match l with
  | [a0, .i .i64 a1] => g84 M ro a0 a1 ⟨h, h.length, h.length⟩
  | _ => none
theorem d84_ok {ro : List ABlk} {O : Caller} {M : Means} (hM : M.Ok ⟨F, O⟩ ro) {l h r} (hr : d84 M ro l h = some r) (ho : O 84 l h = none) : callX ⟨F, O⟩ ro 84 l h = some r := by
  unfold d84 at hr
  split at hr
  · exact g84_ok hM ho hr
  · cases hr
def d85 (M : Means) (ro : List ABlk) (l : List AVal) (h : Heap) : Option (AVal × Heap × Nat × Nat) :=
  match l with
  | [.i .u8 a0] => g85 M ro a0 ⟨h, h.length, h.length⟩
  | _ => none
theorem d85_ok {ro : List ABlk} {O : Caller} {M : Means} (hM : M.Ok ⟨F, O⟩ ro) {l h r} (hr : d85 M ro l h = some r) (ho : O 85 l h = none) : callX ⟨F, O⟩ ro 85 l h = some r := by
  unfold d85 at hr
  split at hr
  · exact g85_ok hM ho hr
  · cases hr
def d86 (M : Means) (ro : List ABlk) (l : List AVal) (h : Heap) : Option (AVal × Heap × Nat × Nat) :=
  match l with
  | [a0, a1] => g86 M ro a0 a1 ⟨h, h.length, h.length⟩
  | _ => none
theorem d86_ok {ro : List ABlk} {O : Caller} {M : Means} (hM : M.Ok ⟨F, O⟩ ro) {l h r} (hr : d86 M ro l h = some r) (ho : O 86 l h = none) : callX ⟨F, O⟩ ro 86 l h = some r := by
  unfold d86 at hr
  split at hr
  · exact g86_ok hM ho hr
  · cases hr
def d90 (M : Means) (ro : List ABlk) (l : List AVal) (h : Heap) : Option (AVal × Heap × Nat × Nat) :=
  match l with
  | [a0, .i .i64 a1] => g90 M ro a0 a1 ⟨h, h.length, h.length⟩
  | _ => none
theorem d90_ok {ro : List ABlk} {O : Caller} {M : Means} (hM : M.Ok ⟨F, O⟩ ro) {l h r} (hr : d90 M ro l h = some r) (ho : O 90 l h = none) : callX ⟨F, O⟩ ro 90 l h = some r := by
  unfold d90 at hr
  split at hr
  · exact g90_ok hM ho hr
  · cases hr
def d92 (M : Means) (ro : List ABlk) (l : List AVal) (h : Heap) : Option (AVal × Heap × Nat × Nat) :=
  match l with
  | [.i .i64 a0, .i .u8 a1, .i .u8 a2, a3, a4, a5, a6] => g92 M ro a0 a1 a2 a3 a4 a5 a6 ⟨h, h.length, h.length⟩
  | _ => none
theorem d92_ok {ro : List ABlk} {O : Caller} {M : Means} (hM : M.Ok ⟨F, O⟩ ro) {l h r} (hr : d92 M ro l h = some r) (ho : O 92 l h = none) : callX ⟨F, O⟩ ro 92 l h = some r := by
  unfold d92 at hr
  split at hr
  · exact g92_ok hM ho hr
  · cases hr
def d93 (M : Means) (ro : List ABlk) (l : List AVal) (h : Heap) : Option (AVal × Heap × Nat × Nat) :=
  match l with
  | [a0, a1] => g93 M ro a0 a1 ⟨h, h.length, h.length⟩
  | _ => none
theorem d93_ok {ro : List ABlk} {O : Caller} {M : Means} (hM : M.Ok ⟨F, O⟩ ro) {l h r} (hr : d93 M ro l h = some r) (ho : O 93 l h = none) : callX ⟨F, O⟩ ro 93 l h = some r := by
  unfold d93 at hr
  split at hr
  · exact g93_ok hM ho hr
  · cases hr
def d94 (M : Means) (ro : List ABlk) (l : List AVal) (h : Heap) : Option (AVal × Heap × Nat × Nat) :=
  match l with
  | [.i .u8 a0] => g94 M ro a0 ⟨h, h.length, h.length⟩
  | _ => none
theorem d94_ok {ro : List ABlk} {O : Caller} {M : Means} (hM : M.Ok ⟨F, O⟩ ro) {l h r} (hr : d94 M ro l h = some r) (ho : O 94 l h = none) : callX ⟨F, O⟩ ro 94 l h = some r := by
  unfold d94 at hr
  split at hr
  · exact g94_ok hM ho hr
  · cases hr
def d97 (M : Means) (ro : List ABlk) (l : List AVal) (h : Heap) : Option (AVal × Heap × Nat × Nat) :=
  match l with
  | [a0, .i .i64 a1] => g97 M ro a0 a1 ⟨h, h.length, h.length⟩
  | _ => none
theorem d97_ok {ro : List ABlk} {O : Caller} {M : Means} (hM : M.Ok ⟨F, O⟩ ro) {l h r} (hr : d97 M ro l h = some r) (ho : O 97 l h = none) : callX ⟨F, O⟩ ro 97 l h = some r := by
  unfold d97 at hr
  split at hr
  · exact g97_ok hM ho hr
  · cases hr
def tabS (M : Means) (ro : List ABlk) (f : Nat) (l : List AVal) (h : Heap) : Option (AVal × Heap × Nat × Nat) :=
  (cond (Nat.blt f 60) (cond (Nat.blt f 47) (cond (Nat.blt f 23) (cond (Nat.blt f 17) (cond (Nat.blt f 16) (cond (Nat.beq f 13) (d13 M ro l h) none) (cond (Nat.beq f 16) (d16 M ro l h) none)) (cond (Nat.blt f 19) (cond (Nat.beq f 17) (d17 M ro l h) none) (cond (Nat.blt f 21) (cond (Nat.beq f 19) (d19 M ro l h) none) (cond (Nat.beq f 21) (d21 M ro l h) none)))) (cond (Nat.blt f 33) (cond (Nat.blt f 28) (cond (Nat.beq f 23) (d23 M ro l h) none) (cond (Nat.beq f 28) (d28 M ro l h) none)) (cond (Nat.blt f 37) (cond (Nat.beq f 33) (d33 M ro l h) none) (cond (Nat.blt f 39) (cond (Nat.beq f 37) (d37 M ro l h) none) (cond (Nat.beq f 39) (d39 M ro l h) none))))) (cond (Nat.blt f 53) (cond (Nat.blt f 49) (cond (Nat.blt f 48) (cond (Nat.beq f 47) (d47 M ro l h) none) (cond (Nat.beq f 48) (d48 M ro l h) none)) (cond (Nat.blt f 51) (cond (Nat.beq f 49) (d49 M ro l h) none) (cond (Nat.blt f 52) (cond (Nat.beq f 51) (d51 M ro l h) none) (cond (Nat.beq f 52) (d52 M ro l h) none)))) (cond (Nat.blt f 55) (cond (Nat.blt f 54) (cond (Nat.beq f 53) (d53 M ro l h) none) (cond (Nat.beq f 54) (d54 M ro l h) none)) (cond (Nat.blt f 56) (cond (Nat.beq f 55) (d55 M ro l h) none) (cond (Nat.blt f 59) (cond (Nat.beq f 56) (d56 M ro l h) none) (cond (Nat.beq f 59) (d59 M ro l h) none)))))) (cond (Nat.blt f 82) (cond (Nat.blt f 72) (cond (Nat.blt f 62) (cond (Nat.blt f 61) (cond (Nat.beq f 60) (d60 M ro l h) none) (cond (Nat.beq f 61) (d61 M ro l h) none)) (cond (Nat.blt f 68) (cond (Nat.beq f 62) (d62 M ro l h) none) (cond (Nat.blt f 71) (cond (Nat.beq f 68) (d68 M ro l h) none) (cond (Nat.beq f 71) (d71 M ro l h) none)))) (cond (Nat.blt f 76) (cond (Nat.blt f 74) (cond (Nat.beq f 72) (d72 M ro l h) none) (cond (Nat.beq f 74) (d74 M ro l h) none)) (cond (Nat.blt f 78) (cond (Nat.beq f 76) (d76 M ro l h) none) (cond (Nat.blt f 80) (cond (Nat.beq f 78) (d78 M ro l h) none) (cond (Nat.beq f 80) (d80 M ro l h) none))))) (cond (Nat.blt f 90) (cond (Nat.blt f 84) (cond (Nat.blt f 83) (cond (Nat.beq f 82) (d82 M ro l h) none) (cond (Nat.beq f 83) (d83 M ro l h) none)) (cond (Nat.blt f 85) (cond (Nat.beq f 84) (d84 M ro l h) none) (cond (Nat.blt f 86) (cond (Nat.beq f 85) (d85 M ro l h) none) (cond (Nat.beq f 86) (d86 M ro l h) none)))) (cond (Nat.blt f 93) (cond (Nat.blt f 92) (cond (Nat.beq f 90) (d90 M ro l h) none) (cond (Nat.beq f 92) (d92 M ro l h) none)) (cond (Nat.blt f 94) (cond (Nat.beq f 93) (d93 M ro l h) none) (cond (Nat.blt f 97) (cond (Nat.beq f 94) (d94 M ro l h) none) (cond (Nat.beq f 97) (d97 M ro l h) none)))))))
theorem leafS {f k : Nat} {A : Option (AVal × Heap × Nat × Nat)} {r : AVal × Heap × Nat × Nat} {G : Nat → Prop} (hA : A = some r → G k) (h : cond (Nat.beq f k) A none = some r) : G f := by
  cases hb : Nat.beq f k
  · rw [hb] at h; cases h
  · rw [hb] at h
    rw [Nat.eq_of_beq_eq_true hb]
    exact hA h
theorem nodeS {f k : Nat} {A B : Option (AVal × Heap × Nat × Nat)} {r : AVal × Heap × Nat × Nat} {G : Prop} (hA : A = some r → G) (hB : B = some r → G) (h : cond (Nat.blt f k) A B = some r) : G := by
  cases hb : Nat.blt f k
  · rw [hb] at h; exact hB h
  · rw [hb] at h; exact hA h
theorem tabS_ok {ro : List ABlk} {O : Caller} {M : Means} (hM : M.Ok ⟨F, O⟩ ro) {f : Nat} {l : List AVal} {h : Heap} {r : AVal × Heap × Nat × Nat} (hr : tabS M ro f l h = some r) : O f l h = none → callX ⟨F, O⟩ ro f l h = some r :=
  (nodeS (nodeS (nodeS (nodeS (nodeS (leafS (G := fun f => O f l h = none → callX ⟨F, O⟩ ro f l h = some r) (d13_ok hM)) (leafS (G := fun f => O f l h = none → callX ⟨F, O⟩ ro f l h = some r) (d16_ok hM))) (nodeS (leafS (G := fun f => O f l h = none → callX ⟨F, O⟩ ro f l h = some r) (d17_ok hM)) (nodeS (leafS (G := fun f => O f l h = none → callX ⟨F, O⟩ ro f l h = some r) (d19_ok hM)) (leafS (G := fun f => O f l h = none → callX ⟨F, O⟩ ro f l h = some r) (d21_ok hM))))) (nodeS (nodeS (leafS (G := fun f => O f l h = none → callX ⟨F, O⟩ ro f l h = some r) (d23_ok hM)) (leafS (G := fun f => O f l h = none → callX ⟨F, O⟩ ro f l h = some r) (d28_ok hM))) (nodeS (leafS (G := fun f => O f l h = none → callX ⟨F, O⟩ ro f l h = some r) (d33_ok hM)) (nodeS (leafS (G := fun f => O f l h = none → callX ⟨F, O⟩ ro f l h = some r) (d37_ok hM)) (leafS (G := fun f => O f l h = none → callX ⟨F, O⟩ ro f l h = some r) (d39_ok hM)))))) (nodeS (nodeS (nodeS (leafS (G := fun f => O f l h = none → callX ⟨F, O⟩ ro f l h = some r) (d47_ok hM)) (leafS (G := fun f => O f l h = none → callX ⟨F, O⟩ ro f l h = some r) (d48_ok hM))) (nodeS (leafS (G := fun f => O f l h = none → callX ⟨F, O⟩ ro f l h = some r) (d49_ok hM)) (nodeS (leafS (G := fun f => O f l h = none → callX ⟨F, O⟩ ro f l h = some r) (d51_ok hM)) (leafS (G := fun f => O f l h = none → callX ⟨F, O⟩ ro f l h = some r) (d52_ok hM))))) (nodeS (nodeS (leafS (G := fun f => O f l h = none → callX ⟨F, O⟩ ro f l h = some r) (d53_ok hM)) (leafS (G := fun f => O f l h = none → callX ⟨F, O⟩ ro f l h = some r) (d54_ok hM))) (nodeS (leafS (G := fun f => O f l h = none → callX ⟨F, O⟩ ro f l h = some r) (d55_ok hM)) (nodeS (leafS (G := fun f => O f l h = none → callX ⟨F, O⟩ ro f l h = some r) (d56_ok hM)) (leafS (G := fun f => O f l h = none → callX ⟨F, O⟩ ro f l h = some r) (d59_ok hM))))))) (nodeS (nodeS (nodeS (nodeS (leafS (G := fun f => O f l h = none → callX ⟨F, O⟩ ro f l h = some r) (d60_ok hM)) (leafS (G := fun f => O f l h = none → callX ⟨F, O⟩ ro f l h = some r) (d61_ok hM))) (nodeS (leafS (G := fun f => O f l h = none → callX ⟨F, O⟩ ro f l h = some r) (d62_ok hM)) (nodeS (leafS (G := fun f => O f l h = none → callX ⟨F, O⟩ ro f l h = some r) (d68_ok hM)) (leafS (G := fun f => O f l h = none → callX ⟨F, O⟩ ro f l h = some r) (d71_ok hM))))) (nodeS (nodeS (leafS (G := fun f => O f l h = none → callX ⟨F, O⟩ ro f l h = some r) (d72_ok hM)) (leafS (G := fun f => O f l h = none → callX ⟨F, O⟩ ro f l h = some r) (d74_ok hM))) (nodeS (leafS (G := fun f => O f l h = none → callX ⟨F, O⟩ ro f l h = some r) (d76_ok hM)) (nodeS (leafS (G := fun f => O f l h = none → callX ⟨F, O⟩ ro f l h = some r) (d78_ok hM)) (leafS (G := fun f => O f l h = none → callX ⟨F, O⟩ ro f l h = some r) (d80_ok hM)))))) (nodeS (nodeS (nodeS (leafS (G := fun f => O f l h = none → callX ⟨F, O⟩ ro f l h = some r) (d82_ok hM)) (leafS (G := fun f => O f l h = none → callX ⟨F, O⟩ ro f l h = some r) (d83_ok hM))) (nodeS (leafS (G := fun f => O f l h = none → callX ⟨F, O⟩ ro f l h = some r) (d84_ok hM)) (nodeS (leafS (G := fun f => O f l h = none → callX ⟨F, O⟩ ro f l h = some r) (d85_ok hM)) (leafS (G := fun f => O f l h = none → callX ⟨F, O⟩ ro f l h = some r) (d86_ok hM))))) (nodeS (nodeS (leafS (G := fun f => O f l h = none → callX ⟨F, O⟩ ro f l h = some r) (d90_ok hM)) (leafS (G := fun f => O f l h = none → callX ⟨F, O⟩ ro f l h = some r) (d92_ok hM))) (nodeS (leafS (G := fun f => O f l h = none → callX ⟨F, O⟩ ro f l h = some r) (d93_ok hM)) (nodeS (leafS (G := fun f => O f l h = none → callX ⟨F, O⟩ ro f l h = some r) (d94_ok hM)) (leafS (G := fun f => O f l h = none → callX ⟨F, O⟩ ro f l h = some r) (d97_ok hM)))))))) hr
def meansS (ro : List ABlk) (O : Caller) : Nat → Means
  | 0 => ⟨fun _ _ _ => none, fun _ _ => none⟩
  | n + 1 => ⟨fun f l h => match O f l h with
    | some r => some r
    | none => tabS (meansS ro O n) ro f l h, fun b s => iter b (n + 1) s⟩
theorem meansS_ok (ro : List ABlk) (O : Caller) : ∀ n, (meansS ro O n).Ok ⟨F, O⟩ ro
  | 0 => ⟨fun _ _ _ _ h => (nomatch h), fun _ _ _ h => (nomatch h)⟩
  | n + 1 => ⟨fun f l h r hr => by
      simp only [meansS] at hr
      split at hr
      · rename_i e; cases hr; exact callX_ov e
      · rename_i e; exact tabS_ok (meansS_ok ro O n) hr e, fun _ _ _ h => ⟨n + 1, h⟩⟩
def okA (o : Option (AVal × Heap × Nat × Nat)) : Bool := match o with
  | some (.b true, [], 0, 0) => true
  | _ => false
theorem okA_eq {o : Option (AVal × Heap × Nat × Nat)} (h : okA o = true) : o = some (.b true, [], 0, 0) := by
  unfold okA at h
  split at h
  · rfl
  · cases h
theorem alive0 : callX ⟨F, noCall⟩ [] 17 [] [] = some (.b true, [], 0, 0) :=
  (meansS_ok [] noCall 300).call 17 [] [] _ (okA_eq (by decide +kernel))
end Go.Proofs.Ytllmlonngnhbfaa.Bed

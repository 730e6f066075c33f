/- The plain functions together; alive, reckoned. -/
import Derived.Test.YtgbkicelkpagpaaVmGa0
import Derived.Test.YtgbkicelkpagpaaVmGa1
import Derived.KernelRfl
open Go.Vm
set_option linter.unusedVariables false
namespace Go.Proofs.Ytgbkicelkpagpaa.W
open Go
def d6 (M : Means) (ro : List ABlk) (l : List AVal) (h : Heap) : Option (AVal × Heap × Nat × Nat) :=
  match l with
  | [.i .i64 a0] => g6 M ro a0 ⟨h, h.length, h.length⟩
  | _ => none
theorem d6_ok {ro : List ABlk} {O : Caller} {M : Means} (hM : M.Ok ⟨F, O⟩ ro) {l h r} (hr : d6 M ro l h = some r) (ho : O 6 l h = none) : callX ⟨F, O⟩ ro 6 l h = some r := by
  unfold d6 at hr
  split at hr
  · exact g6_ok hM ho hr
  · cases hr
def d9 (M : Means) (ro : List ABlk) (l : List AVal) (h : Heap) : Option (AVal × Heap × Nat × Nat) :=
  match l with
  | [.i .u8 a0] => g9 M ro a0 ⟨h, h.length, h.length⟩
  | _ => none
theorem d9_ok {ro : List ABlk} {O : Caller} {M : Means} (hM : M.Ok ⟨F, O⟩ ro) {l h r} (hr : d9 M ro l h = some r) (ho : O 9 l h = none) : callX ⟨F, O⟩ ro 9 l h = some r := by
  unfold d9 at hr
  split at hr
  · exact g9_ok hM ho hr
  · cases hr
def d13 (M : Means) (ro : List ABlk) (l : List AVal) (h : Heap) : Option (AVal × Heap × Nat × Nat) :=
  match l with
  | [.i .u8 a0, .s a1, .i .u8 a2] => g13 M ro a0 a1 a2 ⟨h, h.length, h.length⟩
  | _ => none
theorem d13_ok {ro : List ABlk} {O : Caller} {M : Means} (hM : M.Ok ⟨F, O⟩ ro) {l h r} (hr : d13 M ro l h = some r) (ho : O 13 l h = none) : callX ⟨F, O⟩ ro 13 l h = some r := by
  unfold d13 at hr
  split at hr
  · exact g13_ok hM ho hr
  · cases hr
def d15 (M : Means) (ro : List ABlk) (l : List AVal) (h : Heap) : Option (AVal × Heap × Nat × Nat) :=
  match l with
  | [] => g15 M ro  ⟨h, h.length, h.length⟩
  | _ => none
theorem d15_ok {ro : List ABlk} {O : Caller} {M : Means} (hM : M.Ok ⟨F, O⟩ ro) {l h r} (hr : d15 M ro l h = some r) (ho : O 15 l h = none) : callX ⟨F, O⟩ ro 15 l h = some r := by
  unfold d15 at hr
  split at hr
  · exact g15_ok hM ho hr
  · cases hr
def d16 (M : Means) (ro : List ABlk) (l : List AVal) (h : Heap) : Option (AVal × Heap × Nat × Nat) :=
  match l with
  | [.i .i64 a0, .s a1] => g16 M ro a0 a1 ⟨h, h.length, h.length⟩
  | _ => none
theorem d16_ok {ro : List ABlk} {O : Caller} {M : Means} (hM : M.Ok ⟨F, O⟩ ro) {l h r} (hr : d16 M ro l h = some r) (ho : O 16 l h = none) : callX ⟨F, O⟩ ro 16 l h = some r := by
  unfold d16 at hr
  split at hr
  · exact g16_ok hM ho hr
  · cases hr
def d18 (M : Means) (ro : List ABlk) (l : List AVal) (h : Heap) : Option (AVal × Heap × Nat × Nat) :=
  match l with
  | [.i .i64 a0, .s a1, .i .i64 a2] => g18 M ro a0 a1 a2 ⟨h, h.length, h.length⟩
  | _ => none
theorem d18_ok {ro : List ABlk} {O : Caller} {M : Means} (hM : M.Ok ⟨F, O⟩ ro) {l h r} (hr : d18 M ro l h = some r) (ho : O 18 l h = none) : callX ⟨F, O⟩ ro 18 l h = some r := by
  unfold d18 at hr
  split at hr
  · exact g18_ok hM ho hr
  · cases hr
def d20 (M : Means) (ro : List ABlk) (l : List AVal) (h : Heap) : Option (AVal × Heap × Nat × Nat) :=
  match l with
  | [.i .i64 a0, .s a1] => g20 M ro a0 a1 ⟨h, h.length, h.length⟩
  | _ => none
theorem d20_ok {ro : List ABlk} {O : Caller} {M : Means} (hM : M.Ok ⟨F, O⟩ ro) {l h r} (hr : d20 M ro l h = some r) (ho : O 20 l h = none) : callX ⟨F, O⟩ ro 20 l h = some r := by
  unfold d20 at hr
  split at hr
  · exact g20_ok hM ho hr
  · cases hr
def d26 (M : Means) (ro : List ABlk) (l : List AVal) (h : Heap) : Option (AVal × Heap × Nat × Nat) :=
  match l with
  | [.i .i64 a0, .i .i64 a1] => g26 M ro a0 a1 ⟨h, h.length, h.length⟩
  | _ => none
theorem d26_ok {ro : List ABlk} {O : Caller} {M : Means} (hM : M.Ok ⟨F, O⟩ ro) {l h r} (hr : d26 M ro l h = some r) (ho : O 26 l h = none) : callX ⟨F, O⟩ ro 26 l h = some r := by
  unfold d26 at hr
  split at hr
  · exact g26_ok hM ho hr
  · cases hr
def d28 (M : Means) (ro : List ABlk) (l : List AVal) (h : Heap) : Option (AVal × Heap × Nat × Nat) :=
  match l with
  | [.i .i64 a0] => g28 M ro a0 ⟨h, h.length, h.length⟩
  | _ => none
theorem d28_ok {ro : List ABlk} {O : Caller} {M : Means} (hM : M.Ok ⟨F, O⟩ ro) {l h r} (hr : d28 M ro l h = some r) (ho : O 28 l h = none) : callX ⟨F, O⟩ ro 28 l h = some r := by
  unfold d28 at hr
  split at hr
  · exact g28_ok hM ho hr
  · cases hr
def d30 (M : Means) (ro : List ABlk) (l : List AVal) (h : Heap) : Option (AVal × Heap × Nat × Nat) :=
  match l with
  | [.i .i64 a0] => g30 M ro a0 ⟨h, h.length, h.length⟩
  | _ => none
theorem d30_ok {ro : List ABlk} {O : Caller} {M : Means} (hM : M.Ok ⟨F, O⟩ ro) {l h r} (hr : d30 M ro l h = some r) (ho : O 30 l h = none) : callX ⟨F, O⟩ ro 30 l h = some r := by
  unfold d30 at hr
  split at hr
  · exact g30_ok hM ho hr
  · cases hr
def d31 (M : Means) (ro : List ABlk) (l : List AVal) (h : Heap) : Option (AVal × Heap × Nat × Nat) :=
  match l with
  | [.i .i64 a0] => g31 M ro a0 ⟨h, h.length, h.length⟩
  | _ => none
theorem d31_ok {ro : List ABlk} {O : Caller} {M : Means} (hM : M.Ok ⟨F, O⟩ ro) {l h r} (hr : d31 M ro l h = some r) (ho : O 31 l h = none) : callX ⟨F, O⟩ ro 31 l h = some r := by
  unfold d31 at hr
  split at hr
  · exact g31_ok hM ho hr
  · cases hr
def d32 (M : Means) (ro : List ABlk) (l : List AVal) (h : Heap) : Option (AVal × Heap × Nat × Nat) :=
  match l with
  | [.i .i64 a0] => g32 M ro a0 ⟨h, h.length, h.length⟩
  | _ => none
theorem d32_ok {ro : List ABlk} {O : Caller} {M : Means} (hM : M.Ok ⟨F, O⟩ ro) {l h r} (hr : d32 M ro l h = some r) (ho : O 32 l h = none) : callX ⟨F, O⟩ ro 32 l h = some r := by
  unfold d32 at hr
  split at hr
  · exact g32_ok hM ho hr
  · cases hr
def d33 (M : Means) (ro : List ABlk) (l : List AVal) (h : Heap) : Option (AVal × Heap × Nat × Nat) :=
  match l with
  | [.i .i64 a0] => g33 M ro a0 ⟨h, h.length, h.length⟩
  | _ => none
theorem d33_ok {ro : List ABlk} {O : Caller} {M : Means} (hM : M.Ok ⟨F, O⟩ ro) {l h r} (hr : d33 M ro l h = some r) (ho : O 33 l h = none) : callX ⟨F, O⟩ ro 33 l h = some r := by
  unfold d33 at hr
  split at hr
  · exact g33_ok hM ho hr
  · cases hr
def d36 (M : Means) (ro : List ABlk) (l : List AVal) (h : Heap) : Option (AVal × Heap × Nat × Nat) :=
  match l with
  | [.i .i64 a0] => g36 M ro a0 ⟨h, h.length, h.length⟩
  | _ => none
theorem d36_ok {ro : List ABlk} {O : Caller} {M : Means} (hM : M.Ok ⟨F, O⟩ ro) {l h r} (hr : d36 M ro l h = some r) (ho : O 36 l h = none) : callX ⟨F, O⟩ ro 36 l h = some r := by
  unfold d36 at hr
  split at hr
  · exact g36_ok hM ho hr
  · cases hr
def d38 (M : Means) (ro : List ABlk) (l : List AVal) (h : Heap) : Option (AVal × Heap × Nat × Nat) :=
  match l with
  | [.i .i64 a0] => g38 M ro a0 ⟨h, h.length, h.length⟩
  | _ => none
theorem d38_ok {ro : List ABlk} {O : Caller} {M : Means} (hM : M.Ok ⟨F, O⟩ ro) {l h r} (hr : d38 M ro l h = some r) (ho : O 38 l h = none) : callX ⟨F, O⟩ ro 38 l h = some r := by
  unfold d38 at hr
  split at hr
  · exact g38_ok hM ho hr
  · cases hr
def d41 (M : Means) (ro : List ABlk) (l : List AVal) (h : Heap) : Option (AVal × Heap × Nat × Nat) :=
  match l with
  | [.s a0] => g41 M ro a0 ⟨h, h.length, h.length⟩
  | _ => none
theorem d41_ok {ro : List ABlk} {O : Caller} {M : Means} (hM : M.Ok ⟨F, O⟩ ro) {l h r} (hr : d41 M ro l h = some r) (ho : O 41 l h = none) : callX ⟨F, O⟩ ro 41 l h = some r := by
  unfold d41 at hr
  split at hr
  · exact g41_ok hM ho hr
  · cases hr
def d42 (M : Means) (ro : List ABlk) (l : List AVal) (h : Heap) : Option (AVal × Heap × Nat × Nat) :=
  match l with
  | [.s a0] => g42 M ro a0 ⟨h, h.length, h.length⟩
  | _ => none
theorem d42_ok {ro : List ABlk} {O : Caller} {M : Means} (hM : M.Ok ⟨F, O⟩ ro) {l h r} (hr : d42 M ro l h = some r) (ho : O 42 l h = none) : callX ⟨F, O⟩ ro 42 l h = some r := by
  unfold d42 at hr
  split at hr
  · exact g42_ok hM ho hr
  · cases hr
def d45 (M : Means) (ro : List ABlk) (l : List AVal) (h : Heap) : Option (AVal × Heap × Nat × Nat) :=
  match l with
  | [.i .i64 a0, .s a1] => g45 M ro a0 a1 ⟨h, h.length, h.length⟩
  | _ => none
theorem d45_ok {ro : List ABlk} {O : Caller} {M : Means} (hM : M.Ok ⟨F, O⟩ ro) {l h r} (hr : d45 M ro l h = some r) (ho : O 45 l h = none) : callX ⟨F, O⟩ ro 45 l h = some r := by
  unfold d45 at hr
  split at hr
  · exact g45_ok hM ho hr
  · cases hr
def d46 (M : Means) (ro : List ABlk) (l : List AVal) (h : Heap) : Option (AVal × Heap × Nat × Nat) :=
  match l with
  | [.i .u8 a0, .s a1] => g46 M ro a0 a1 ⟨h, h.length, h.length⟩
  | _ => none
theorem d46_ok {ro : List ABlk} {O : Caller} {M : Means} (hM : M.Ok ⟨F, O⟩ ro) {l h r} (hr : d46 M ro l h = some r) (ho : O 46 l h = none) : callX ⟨F, O⟩ ro 46 l h = some r := by
  unfold d46 at hr
  split at hr
  · exact g46_ok hM ho hr
  · cases hr
def d49 (M : Means) (ro : List ABlk) (l : List AVal) (h : Heap) : Option (AVal × Heap × Nat × Nat) :=
  match l with
  | [.i .i64 a0, .i .i64 a1, .i .i64 a2, .i .i64 a3] => g49 M ro a0 a1 a2 a3 ⟨h, h.length, h.length⟩
  | _ => none
theorem d49_ok {ro : List ABlk} {O : Caller} {M : Means} (hM : M.Ok ⟨F, O⟩ ro) {l h r} (hr : d49 M ro l h = some r) (ho : O 49 l h = none) : callX ⟨F, O⟩ ro 49 l h = some r := by
  unfold d49 at hr
  split at hr
  · exact g49_ok hM ho hr
  · cases hr
def d50 (M : Means) (ro : List ABlk) (l : List AVal) (h : Heap) : Option (AVal × Heap × Nat × Nat) :=
  match l with
  | [a0] => g50 M ro a0 ⟨h, h.length, h.length⟩
  | _ => none
theorem d50_ok {ro : List ABlk} {O : Caller} {M : Means} (hM : M.Ok ⟨F, O⟩ ro) {l h r} (hr : d50 M ro l h = some r) (ho : O 50 l h = none) : callX ⟨F, O⟩ ro 50 l h = some r := by
  unfold d50 at hr
  split at hr
  · exact g50_ok hM ho hr
  · cases hr
def d51 (M : Means) (ro : List ABlk) (l : List AVal) (h : Heap) : Option (AVal × Heap × Nat × Nat) :=
  match l with
  | [.i .u8 a0, .s a1] => g51 M ro a0 a1 ⟨h, h.length, h.length⟩
  | _ => none
theorem d51_ok {ro : List ABlk} {O : Caller} {M : Means} (hM : M.Ok ⟨F, O⟩ ro) {l h r} (hr : d51 M ro l h = some r) (ho : O 51 l h = none) : callX ⟨F, O⟩ ro 51 l h = some r := by
  unfold d51 at hr
  split at hr
  · exact g51_ok hM ho hr
  · cases hr
def d52 (M : Means) (ro : List ABlk) (l : List AVal) (h : Heap) : Option (AVal × Heap × Nat × Nat) :=
  match l with
  | [.i .i64 a0, a1] => g52 M ro a0 a1 ⟨h, h.length, h.length⟩
  | _ => none
theorem d52_ok {ro : List ABlk} {O : Caller} {M : Means} (hM : M.Ok ⟨F, O⟩ ro) {l h r} (hr : d52 M ro l h = some r) (ho : O 52 l h = none) : callX ⟨F, O⟩ ro 52 l h = some r := by
  unfold d52 at hr
  split at hr
  · exact g52_ok hM ho hr
  · cases hr
def d53 (M : Means) (ro : List ABlk) (l : List AVal) (h : Heap) : Option (AVal × Heap × Nat × Nat) :=
  match l with
  | [.i .u8 a0, .s a1] => g53 M ro a0 a1 ⟨h, h.length, h.length⟩
  | _ => none
theorem d53_ok {ro : List ABlk} {O : Caller} {M : Means} (hM : M.Ok ⟨F, O⟩ ro) {l h r} (hr : d53 M ro l h = some r) (ho : O 53 l h = none) : callX ⟨F, O⟩ ro 53 l h = some r := by
  unfold d53 at hr
  split at hr
  · exact g53_ok hM ho hr
  · cases hr
def d54 (M : Means) (ro : List ABlk) (l : List AVal) (h : Heap) : Option (AVal × Heap × Nat × Nat) :=
  match l with
  | [.i .i64 a0] => g54 M ro a0 ⟨h, h.length, h.length⟩
  | _ => none
theorem d54_ok {ro : List ABlk} {O : Caller} {M : Means} (hM : M.Ok ⟨F, O⟩ ro) {l h r} (hr : d54 M ro l h = some r) (ho : O 54 l h = none) : callX ⟨F, O⟩ ro 54 l h = some r := by
  unfold d54 at hr
  split at hr
  · exact g54_ok hM ho hr
  · cases hr
def d61 (M : Means) (ro : List ABlk) (l : List AVal) (h : Heap) : Option (AVal × Heap × Nat × Nat) :=
  match l with
  | [.i .i64 a0] => g61 M ro a0 ⟨h, h.length, h.length⟩
  | _ => none
theorem d61_ok {ro : List ABlk} {O : Caller} {M : Means} (hM : M.Ok ⟨F, O⟩ ro) {l h r} (hr : d61 M ro l h = some r) (ho : O 61 l h = none) : callX ⟨F, O⟩ ro 61 l h = some r := by
  unfold d61 at hr
  split at hr
  · exact g61_ok hM ho hr
  · cases hr
def d62 (M : Means) (ro : List ABlk) (l : List AVal) (h : Heap) : Option (AVal × Heap × Nat × Nat) :=
  match l with
  | [.i .u8 a0] => g62 M ro a0 ⟨h, h.length, h.length⟩
  | _ => none
theorem d62_ok {ro : List ABlk} {O : Caller} {M : Means} (hM : M.Ok ⟨F, O⟩ ro) {l h r} (hr : d62 M ro l h = some r) (ho : O 62 l h = none) : callX ⟨F, O⟩ ro 62 l h = some r := by
  unfold d62 at hr
  split at hr
  · exact g62_ok hM ho hr
  · cases hr
def d64 (M : Means) (ro : List ABlk) (l : List AVal) (h : Heap) : Option (AVal × Heap × Nat × Nat) :=
  match l with
  | [.i .u8 a0] => g64 M ro a0 ⟨h, h.length, h.length⟩
  | _ => none
theorem d64_ok {ro : List ABlk} {O : Caller} {M : Means} (hM : M.Ok ⟨F, O⟩ ro) {l h r} (hr : d64 M ro l h = some r) (ho : O 64 l h = none) : callX ⟨F, O⟩ ro 64 l h = some r := by
  unfold d64 at hr
  split at hr
  · exact g64_ok hM ho hr
  · cases hr
def d65 (M : Means) (ro : List ABlk) (l : List AVal) (h : Heap) : Option (AVal × Heap × Nat × Nat) :=
  match l with
  | [.i .i64 a0] => g65 M ro a0 ⟨h, h.length, h.length⟩
  | _ => none
theorem d65_ok {ro : List ABlk} {O : Caller} {M : Means} (hM : M.Ok ⟨F, O⟩ ro) {l h r} (hr : d65 M ro l h = some r) (ho : O 65 l h = none) : callX ⟨F, O⟩ ro 65 l h = some r := by
  unfold d65 at hr
  split at hr
  · exact g65_ok hM ho hr
  · cases hr
def d66 (M : Means) (ro : List ABlk) (l : List AVal) (h : Heap) : Option (AVal × Heap × Nat × Nat) :=
  match l with
  | [.i .u8 a0, .i .i64 a1] => g66 M ro a0 a1 ⟨h, h.length, h.length⟩
  | _ => none
theorem d66_ok {ro : List ABlk} {O : Caller} {M : Means} (hM : M.Ok ⟨F, O⟩ ro) {l h r} (hr : d66 M ro l h = some r) (ho : O 66 l h = none) : callX ⟨F, O⟩ ro 66 l h = some r := by
  unfold d66 at hr
  split at hr
  · exact g66_ok hM ho hr
  · cases hr
def d67 (M : Means) (ro : List ABlk) (l : List AVal) (h : Heap) : Option (AVal × Heap × Nat × Nat) :=
  match l with
  | [a0] => g67 M ro a0 ⟨h, h.length, h.length⟩
  | _ => none
theorem d67_ok {ro : List ABlk} {O : Caller} {M : Means} (hM : M.Ok ⟨F, O⟩ ro) {l h r} (hr : d67 M ro l h = some r) (ho : O 67 l h = none) : callX ⟨F, O⟩ ro 67 l h = some r := by
  unfold d67 at hr
  split at hr
  · exact g67_ok hM ho hr
  · cases hr
def d68 (M : Means) (ro : List ABlk) (l : List AVal) (h : Heap) : Option (AVal × Heap × Nat × Nat) :=
  match l with
  | [.i .i64 a0, .i .i64 a1] => g68 M ro a0 a1 ⟨h, h.length, h.length⟩
  | _ => none
theorem d68_ok {ro : List ABlk} {O : Caller} {M : Means} (hM : M.Ok ⟨F, O⟩ ro) {l h r} (hr : d68 M ro l h = some r) (ho : O 68 l h = none) : callX ⟨F, O⟩ ro 68 l h = some r := by
  unfold d68 at hr
  split at hr
  · exact g68_ok hM ho hr
  · cases hr
def d69 (M : Means) (ro : List ABlk) (l : List AVal) (h : Heap) : Option (AVal × Heap × Nat × Nat) :=
  match l with
  | [.i .u8 a0] => g69 M ro a0 ⟨h, h.length, h.length⟩
  | _ => none
theorem d69_ok {ro : List ABlk} {O : Caller} {M : Means} (hM : M.Ok ⟨F, O⟩ ro) {l h r} (hr : d69 M ro l h = some r) (ho : O 69 l h = none) : callX ⟨F, O⟩ ro 69 l h = some r := by
  unfold d69 at hr
  split at hr
  · exact g69_ok hM ho hr
  · cases hr
def d70 (M : Means) (ro : List ABlk) (l : List AVal) (h : Heap) : Option (AVal × Heap × Nat × Nat) :=
  match l with
  | [.i .u8 a0] => g70 M ro a0 ⟨h, h.length, h.length⟩
  | _ => none
theorem d70_ok {ro : List ABlk} {O : Caller} {M : Means} (hM : M.Ok ⟨F, O⟩ ro) {l h r} (hr : d70 M ro l h = some r) (ho : O 70 l h = none) : callX ⟨F, O⟩ ro 70 l h = some r := by
  unfold d70 at hr
  split at hr
  · exact g70_ok hM ho hr
  · cases hr
def d71 (M : Means) (ro : List ABlk) (l : List AVal) (h : Heap) : Option (AVal × Heap × Nat × Nat) :=
  match l with
  | [.i .i64 a0] => g71 M ro a0 ⟨h, h.length, h.length⟩
  | _ => none
theorem d71_ok {ro : List ABlk} {O : Caller} {M : Means} (hM : M.Ok ⟨F, O⟩ ro) {l h r} (hr : d71 M ro l h = some r) (ho : O 71 l h = none) : callX ⟨F, O⟩ ro 71 l h = some r := by
  unfold d71 at hr
  split at hr
  · exact g71_ok hM ho hr
  · cases hr
def d72 (M : Means) (ro : List ABlk) (l : List AVal) (h : Heap) : Option (AVal × Heap × Nat × Nat) :=
  match l with
  | [.i .u8 a0, .i .i64 a1] => g72 M ro a0 a1 ⟨h, h.length, h.length⟩
  | _ => none
theorem d72_ok {ro : List ABlk} {O : Caller} {M : Means} (hM : M.Ok ⟨F, O⟩ ro) {l h r} (hr : d72 M ro l h = some r) (ho : O 72 l h = none) : callX ⟨F, O⟩ ro 72 l h = some r := by
  unfold d72 at hr
  split at hr
  · exact g72_ok hM ho hr
  · cases hr
def d73 (M : Means) (ro : List ABlk) (l : List AVal) (h : Heap) : Option (AVal × Heap × Nat × Nat) :=
  match l with
  | [.i .u8 a0] => g73 M ro a0 ⟨h, h.length, h.length⟩
  | _ => none
theorem d73_ok {ro : List ABlk} {O : Caller} {M : Means} (hM : M.Ok ⟨F, O⟩ ro) {l h r} (hr : d73 M ro l h = some r) (ho : O 73 l h = none) : callX ⟨F, O⟩ ro 73 l h = some r := by
  unfold d73 at hr
  split at hr
  · exact g73_ok hM ho hr
  · cases hr
def d74 (M : Means) (ro : List ABlk) (l : List AVal) (h : Heap) : Option (AVal × Heap × Nat × Nat) :=
  match l with
  | [.i .u8 a0, .i .u8 a1, .i .i64 a2] => g74 M ro a0 a1 a2 ⟨h, h.length, h.length⟩
  | _ => none
theorem d74_ok {ro : List ABlk} {O : Caller} {M : Means} (hM : M.Ok ⟨F, O⟩ ro) {l h r} (hr : d74 M ro l h = some r) (ho : O 74 l h = none) : callX ⟨F, O⟩ ro 74 l h = some r := by
  unfold d74 at hr
  split at hr
  · exact g74_ok hM ho hr
  · cases hr
def d75 (M : Means) (ro : List ABlk) (l : List AVal) (h : Heap) : Option (AVal × Heap × Nat × Nat) :=
  match l with
  | [.i .u8 a0] => g75 M ro a0 ⟨h, h.length, h.length⟩
  | _ => none
theorem d75_ok {ro : List ABlk} {O : Caller} {M : Means} (hM : M.Ok ⟨F, O⟩ ro) {l h r} (hr : d75 M ro l h = some r) (ho : O 75 l h = none) : callX ⟨F, O⟩ ro 75 l h = some r := by
  unfold d75 at hr
  split at hr
  · exact g75_ok hM ho hr
  · cases hr
def d76 (M : Means) (ro : List ABlk) (l : List AVal) (h : Heap) : Option (AVal × Heap × Nat × Nat) :=
  match l with
  | [.i .u8 a0, .i .i64 a1] => g76 M ro a0 a1 ⟨h, h.length, h.length⟩
  | _ => none
theorem d76_ok {ro : List ABlk} {O : Caller} {M : Means} (hM : M.Ok ⟨F, O⟩ ro) {l h r} (hr : d76 M ro l h = some r) (ho : O 76 l h = none) : callX ⟨F, O⟩ ro 76 l h = some r := by
  unfold d76 at hr
  split at hr
  · exact g76_ok hM ho hr
  · cases hr
def d78 (M : Means) (ro : List ABlk) (l : List AVal) (h : Heap) : Option (AVal × Heap × Nat × Nat) :=
  match l with
  | [.i .u8 a0, .i .u8 a1, .i .i64 a2] => g78 M ro a0 a1 a2 ⟨h, h.length, h.length⟩
  | _ => none
theorem d78_ok {ro : List ABlk} {O : Caller} {M : Means} (hM : M.Ok ⟨F, O⟩ ro) {l h r} (hr : d78 M ro l h = some r) (ho : O 78 l h = none) : callX ⟨F, O⟩ ro 78 l h = some r := by
  unfold d78 at hr
  split at hr
  · exact g78_ok hM ho hr
  · cases hr
def d79 (M : Means) (ro : List ABlk) (l : List AVal) (h : Heap) : Option (AVal × Heap × Nat × Nat) :=
  match l with
  | [.i .u8 a0, .i .u16 a1] => g79 M ro a0 a1 ⟨h, h.length, h.length⟩
  | _ => none
theorem d79_ok {ro : List ABlk} {O : Caller} {M : Means} (hM : M.Ok ⟨F, O⟩ ro) {l h r} (hr : d79 M ro l h = some r) (ho : O 79 l h = none) : callX ⟨F, O⟩ ro 79 l h = some r := by
  unfold d79 at hr
  split at hr
  · exact g79_ok hM ho hr
  · cases hr
def d80 (M : Means) (ro : List ABlk) (l : List AVal) (h : Heap) : Option (AVal × Heap × Nat × Nat) :=
  match l with
  | [.i .i64 a0, .i .i64 a1, .i .i64 a2, .i .i64 a3, .i .i64 a4] => g80 M ro a0 a1 a2 a3 a4 ⟨h, h.length, h.length⟩
  | _ => none
theorem d80_ok {ro : List ABlk} {O : Caller} {M : Means} (hM : M.Ok ⟨F, O⟩ ro) {l h r} (hr : d80 M ro l h = some r) (ho : O 80 l h = none) : callX ⟨F, O⟩ ro 80 l h = some r := by
  unfold d80 at hr
  split at hr
  · exact g80_ok hM ho hr
  · cases hr
def d81 (M : Means) (ro : List ABlk) (l : List AVal) (h : Heap) : Option (AVal × Heap × Nat × Nat) :=
  match l with
  | [.i .i64 a0, .i .i64 a1] => g81 M ro a0 a1 ⟨h, h.length, h.length⟩
  | _ => none
theorem d81_ok {ro : List ABlk} {O : Caller} {M : Means} (hM : M.Ok ⟨F, O⟩ ro) {l h r} (hr : d81 M ro l h = some r) (ho : O 81 l h = none) : callX ⟨F, O⟩ ro 81 l h = some r := by
  unfold d81 at hr
  split at hr
  · exact g81_ok hM ho hr
  · cases hr
def d82 (M : Means) (ro : List ABlk) (l : List AVal) (h : Heap) : Option (AVal × Heap × Nat × Nat) :=
  match l with
  | [.i .u8 a0, a1] => g82 M ro a0 a1 ⟨h, h.length, h.length⟩
  | _ => none
theorem d82_ok {ro : List ABlk} {O : Caller} {M : Means} (hM : M.Ok ⟨F, O⟩ ro) {l h r} (hr : d82 M ro l h = some r) (ho : O 82 l h = none) : callX ⟨F, O⟩ ro 82 l h = some r := by
  unfold d82 at hr
  split at hr
  · exact g82_ok hM ho hr
  · cases hr
def d83 (M : Means) (ro : List ABlk) (l : List AVal) (h : Heap) : Option (AVal × Heap × Nat × Nat) :=
  match l with
  | [.i .u8 a0, .i .i64 a1] => g83 M ro a0 a1 ⟨h, h.length, h.length⟩
  | _ => none
theorem d83_ok {ro : List ABlk} {O : Caller} {M : Means} (hM : M.Ok ⟨F, O⟩ ro) {l h r} (hr : d83 M ro l h = some r) (ho : O 83 l h = none) : callX ⟨F, O⟩ ro 83 l h = some r := by
  unfold d83 at hr
  split at hr
  · exact g83_ok hM ho hr
  · cases hr
def d84 (M : Means) (ro : List ABlk) (l : List AVal) (h : Heap) : Option (AVal × Heap × Nat × Nat) :=
  match l with
  | [.i .u8 a0, .i .i64 a1] => g84 M ro a0 a1 ⟨h, h.length, h.length⟩
  | _ => none
theorem d84_ok {ro : List ABlk} {O : Caller} {M : Means} (hM : M.Ok ⟨F, O⟩ ro) {l h r} (hr : d84 M ro l h = some r) (ho : O 84 l h = none) : callX ⟨F, O⟩ ro 84 l h = some r := by
  unfold d84 at hr
  split at hr
  · exact g84_ok hM ho hr
  · cases hr
def tabS (M : Means) (ro : List ABlk) (f : Nat) (l : List AVal) (h : Heap) : Option (AVal × Heap × Nat × Nat) :=
  (cond (Nat.blt f 53) (cond (Nat.blt f 32) (cond (Nat.blt f 18) (cond (Nat.blt f 13) (cond (Nat.blt f 9) (cond (Nat.beq f 6) (d6 M ro l h) none) (cond (Nat.beq f 9) (d9 M ro l h) none)) (cond (Nat.blt f 15) (cond (Nat.beq f 13) (d13 M ro l h) none) (cond (Nat.blt f 16) (cond (Nat.beq f 15) (d15 M ro l h) none) (cond (Nat.beq f 16) (d16 M ro l h) none)))) (cond (Nat.blt f 28) (cond (Nat.blt f 20) (cond (Nat.beq f 18) (d18 M ro l h) none) (cond (Nat.blt f 26) (cond (Nat.beq f 20) (d20 M ro l h) none) (cond (Nat.beq f 26) (d26 M ro l h) none))) (cond (Nat.blt f 30) (cond (Nat.beq f 28) (d28 M ro l h) none) (cond (Nat.blt f 31) (cond (Nat.beq f 30) (d30 M ro l h) none) (cond (Nat.beq f 31) (d31 M ro l h) none))))) (cond (Nat.blt f 45) (cond (Nat.blt f 38) (cond (Nat.blt f 33) (cond (Nat.beq f 32) (d32 M ro l h) none) (cond (Nat.blt f 36) (cond (Nat.beq f 33) (d33 M ro l h) none) (cond (Nat.beq f 36) (d36 M ro l h) none))) (cond (Nat.blt f 41) (cond (Nat.beq f 38) (d38 M ro l h) none) (cond (Nat.blt f 42) (cond (Nat.beq f 41) (d41 M ro l h) none) (cond (Nat.beq f 42) (d42 M ro l h) none)))) (cond (Nat.blt f 50) (cond (Nat.blt f 46) (cond (Nat.beq f 45) (d45 M ro l h) none) (cond (Nat.blt f 49) (cond (Nat.beq f 46) (d46 M ro l h) none) (cond (Nat.beq f 49) (d49 M ro l h) none))) (cond (Nat.blt f 51) (cond (Nat.beq f 50) (d50 M ro l h) none) (cond (Nat.blt f 52) (cond (Nat.beq f 51) (d51 M ro l h) none) (cond (Nat.beq f 52) (d52 M ro l h) none)))))) (cond (Nat.blt f 72) (cond (Nat.blt f 66) (cond (Nat.blt f 62) (cond (Nat.blt f 54) (cond (Nat.beq f 53) (d53 M ro l h) none) (cond (Nat.blt f 61) (cond (Nat.beq f 54) (d54 M ro l h) none) (cond (Nat.beq f 61) (d61 M ro l h) none))) (cond (Nat.blt f 64) (cond (Nat.beq f 62) (d62 M ro l h) none) (cond (Nat.blt f 65) (cond (Nat.beq f 64) (d64 M ro l h) none) (cond (Nat.beq f 65) (d65 M ro l h) none)))) (cond (Nat.blt f 69) (cond (Nat.blt f 67) (cond (Nat.beq f 66) (d66 M ro l h) none) (cond (Nat.blt f 68) (cond (Nat.beq f 67) (d67 M ro l h) none) (cond (Nat.beq f 68) (d68 M ro l h) none))) (cond (Nat.blt f 70) (cond (Nat.beq f 69) (d69 M ro l h) none) (cond (Nat.blt f 71) (cond (Nat.beq f 70) (d70 M ro l h) none) (cond (Nat.beq f 71) (d71 M ro l h) none))))) (cond (Nat.blt f 79) (cond (Nat.blt f 75) (cond (Nat.blt f 73) (cond (Nat.beq f 72) (d72 M ro l h) none) (cond (Nat.blt f 74) (cond (Nat.beq f 73) (d73 M ro l h) none) (cond (Nat.beq f 74) (d74 M ro l h) none))) (cond (Nat.blt f 76) (cond (Nat.beq f 75) (d75 M ro l h) none) (cond (Nat.blt f 78) (cond (Nat.beq f 76) (d76 M ro l h) none) (cond (Nat.beq f 78) (d78 M ro l h) none)))) (cond (Nat.blt f 82) (cond (Nat.blt f 80) (cond (Nat.beq f 79) (d79 M ro l h) none) (cond (Nat.blt f 81) (cond (Nat.beq f 80) (d80 M ro l h) none) (cond (Nat.beq f 81) (d81 M ro l h) none))) (cond (Nat.blt f 83) (cond (Nat.beq f 82) (d82 M ro l h) none) (cond (Nat.blt f 84) (cond (Nat.beq f 83) (d83 M ro l h) none) (cond (Nat.beq f 84) (d84 M ro l h) none)))))))
theorem leafS {f k : Nat} {A : Option (AVal × Heap × Nat × Nat)} {r : AVal × Heap × Nat × Nat} {G : Nat → Prop} (hA : A = some r → G k) (h : cond (Nat.beq f k) A none = some r) : G f := by
  cases hb : Nat.beq f k
  · rw [hb] at h; cases h
  · rw [hb] at h
    rw [Nat.eq_of_beq_eq_true hb]
    exact hA h
theorem nodeS {f k : Nat} {A B : Option (AVal × Heap × Nat × Nat)} {r : AVal × Heap × Nat × Nat} {G : Prop} (hA : A = some r → G) (hB : B = some r → G) (h : cond (Nat.blt f k) A B = some r) : G := by
  cases hb : Nat.blt f k
  · rw [hb] at h; exact hB h
  · rw [hb] at h; exact hA h
theorem tabS_ok {ro : List ABlk} {O : Caller} {M : Means} (hM : M.Ok ⟨F, O⟩ ro) {f : Nat} {l : List AVal} {h : Heap} {r : AVal × Heap × Nat × Nat} (hr : tabS M ro f l h = some r) : O f l h = none → callX ⟨F, O⟩ ro f l h = some r :=
  (nodeS (nodeS (nodeS (nodeS (nodeS (leafS (G := fun f => O f l h = none → callX ⟨F, O⟩ ro f l h = some r) (d6_ok hM)) (leafS (G := fun f => O f l h = none → callX ⟨F, O⟩ ro f l h = some r) (d9_ok hM))) (nodeS (leafS (G := fun f => O f l h = none → callX ⟨F, O⟩ ro f l h = some r) (d13_ok hM)) (nodeS (leafS (G := fun f => O f l h = none → callX ⟨F, O⟩ ro f l h = some r) (d15_ok hM)) (leafS (G := fun f => O f l h = none → callX ⟨F, O⟩ ro f l h = some r) (d16_ok hM))))) (nodeS (nodeS (leafS (G := fun f => O f l h = none → callX ⟨F, O⟩ ro f l h = some r) (d18_ok hM)) (nodeS (leafS (G := fun f => O f l h = none → callX ⟨F, O⟩ ro f l h = some r) (d20_ok hM)) (leafS (G := fun f => O f l h = none → callX ⟨F, O⟩ ro f l h = some r) (d26_ok hM)))) (nodeS (leafS (G := fun f => O f l h = none → callX ⟨F, O⟩ ro f l h = some r) (d28_ok hM)) (nodeS (leafS (G := fun f => O f l h = none → callX ⟨F, O⟩ ro f l h = some r) (d30_ok hM)) (leafS (G := fun f => O f l h = none → callX ⟨F, O⟩ ro f l h = some r) (d31_ok hM)))))) (nodeS (nodeS (nodeS (leafS (G := fun f => O f l h = none → callX ⟨F, O⟩ ro f l h = some r) (d32_ok hM)) (nodeS (leafS (G := fun f => O f l h = none → callX ⟨F, O⟩ ro f l h = some r) (d33_ok hM)) (leafS (G := fun f => O f l h = none → callX ⟨F, O⟩ ro f l h = some r) (d36_ok hM)))) (nodeS (leafS (G := fun f => O f l h = none → callX ⟨F, O⟩ ro f l h = some r) (d38_ok hM)) (nodeS (leafS (G := fun f => O f l h = none → callX ⟨F, O⟩ ro f l h = some r) (d41_ok hM)) (leafS (G := fun f => O f l h = none → callX ⟨F, O⟩ ro f l h = some r) (d42_ok hM))))) (nodeS (nodeS (leafS (G := fun f => O f l h = none → callX ⟨F, O⟩ ro f l h = some r) (d45_ok hM)) (nodeS (leafS (G := fun f => O f l h = none → callX ⟨F, O⟩ ro f l h = some r) (d46_ok hM)) (leafS (G := fun f => O f l h = none → callX ⟨F, O⟩ ro f l h = some r) (d49_ok hM)))) (nodeS (leafS (G := fun f => O f l h = none → callX ⟨F, O⟩ ro f l h = some r) (d50_ok hM)) (nodeS (leafS (G := fun f => O f l h = none → callX ⟨F, O⟩ ro f l h = some r) (d51_ok hM)) (leafS (G := fun f => O f l h = none → callX ⟨F, O⟩ ro f l h = some r) (d52_ok hM))))))) (nodeS (nodeS (nodeS (nodeS (leafS (G := fun f => O f l h = none → callX ⟨F, O⟩ ro f l h = some r) (d53_ok hM)) (nodeS (leafS (G := fun f => O f l h = none → callX ⟨F, O⟩ ro f l h = some r) (d54_ok hM)) (leafS (G := fun f => O f l h = none → callX ⟨F, O⟩ ro f l h = some r) (d61_ok hM)))) (nodeS (leafS (G := fun f => O f l h = none → callX ⟨F, O⟩ ro f l h = some r) (d62_ok hM)) (nodeS (leafS (G := fun f => O f l h = none → callX ⟨F, O⟩ ro f l h = some r) (d64_ok hM)) (leafS (G := fun f => O f l h = none → callX ⟨F, O⟩ ro f l h = some r) (d65_ok hM))))) (nodeS (nodeS (leafS (G := fun f => O f l h = none → callX ⟨F, O⟩ ro f l h = some r) (d66_ok hM)) (nodeS (leafS (G := fun f => O f l h = none → callX ⟨F, O⟩ ro f l h = some r) (d67_ok hM)) (leafS (G := fun f => O f l h = none → callX ⟨F, O⟩ ro f l h = some r) (d68_ok hM)))) (nodeS (leafS (G := fun f => O f l h = none → callX ⟨F, O⟩ ro f l h = some r) (d69_ok hM)) (nodeS (leafS (G := fun f => O f l h = none → callX ⟨F, O⟩ ro f l h = some r) (d70_ok hM)) (leafS (G := fun f => O f l h = none → callX ⟨F, O⟩ ro f l h = some r) (d71_ok hM)))))) (nodeS (nodeS (nodeS (leafS (G := fun f => O f l h = none → callX ⟨F, O⟩ ro f l h = some r) (d72_ok hM)) (nodeS (leafS (G := fun f => O f l h = none → callX ⟨F, O⟩ ro f l h = some r) (d73_ok hM)) (leafS (G := fun f => O f l h = none → callX ⟨F, O⟩ ro f l h = some r) (d74_ok hM)))) (nodeS (leafS (G := fun f => O f l h = none → callX ⟨F, O⟩ ro f l h = some r) (d75_ok hM)) (nodeS (leafS (G := fun f => O f l h = none → callX ⟨F, O⟩ ro f l h = some r) (d76_ok hM)) (leafS (G := fun f => O f l h = none → callX ⟨F, O⟩ ro f l h = some r) (d78_ok hM))))) (nodeS (nodeS (leafS (G := fun f => O f l h = none → callX ⟨F, O⟩ ro f l h = some r) (d79_ok hM)) (nodeS (leafS (G := fun f => O f l h = none → callX ⟨F, O⟩ ro f l h = some r) (d80_ok hM)) (leafS (G := fun f => O f l h = none → callX ⟨F, O⟩ ro f l h = some r) (d81_ok hM)))) (nodeS (leafS (G := fun f => O f l h = none → callX ⟨F, O⟩ ro f l h = some r) (d82_ok hM)) (nodeS (leafS (G := fun f => O f l h = none → callX ⟨F, O⟩ ro f l h = some r) (d83_ok hM)) (leafS (G := fun f => O f l h = none → callX ⟨F, O⟩ ro f l h = some r) (d84_ok hM)))))))) hr
def meansS (ro : List ABlk) (O : Caller) : Nat → Means
  | 0 => ⟨fun _ _ _ => none, fun _ _ => none⟩
  | n + 1 => ⟨fun f l h => match O f l h with
    | some r => some r
    | none => tabS (meansS ro O n) ro f l h, fun b s => iter b (n + 1) s⟩
theorem meansS_ok (ro : List ABlk) (O : Caller) : ∀ n, (meansS ro O n).Ok ⟨F, O⟩ ro
  | 0 => ⟨fun _ _ _ _ h => (nomatch h), fun _ _ _ h => (nomatch h)⟩
  | n + 1 => ⟨fun f l h r hr => by
      simp only [meansS] at hr
      split at hr
      · rename_i e; cases hr; exact callX_ov e
      · rename_i e; exact tabS_ok (meansS_ok ro O n) hr e, fun _ _ _ h => ⟨n + 1, h⟩⟩
def okA (o : Option (AVal × Heap × Nat × Nat)) : Bool := match o with
  | some (.b true, [], 0, 0) => true
  | _ => false
theorem okA_eq {o : Option (AVal × Heap × Nat × Nat)} (h : okA o = true) : o = some (.b true, [], 0, 0) := by
  unfold okA at h
  split at h
  · rfl
  · cases h
theorem alive0 : callX ⟨F, noCall⟩ [] 15 [] [] = some (.b true, [], 0, 0) :=
  (meansS_ok [] noCall 300).call 15 [] [] _ (okA_eq (by decide +kernel))
end Go.Proofs.Ytgbkicelkpagpaa.W

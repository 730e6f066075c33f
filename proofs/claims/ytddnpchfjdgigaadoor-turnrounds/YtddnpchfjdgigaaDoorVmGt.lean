/- The plain functions together; alive, reckoned. -/
import Derived.Test.YtddnpchfjdgigaaDoorVmGa0
import Derived.Test.YtddnpchfjdgigaaDoorVmGa1
import Derived.KernelRfl
open Go.Vm
set_option linter.unusedVariables false
namespace Go.Proofs.YtddnpchfjdgigaaDoor.T
open Go
def d16 (O : Caller) (M : Means) (ro : List ABlk) (l : List AVal) (h : Heap) : Option (AVal × Heap × Nat × Nat) :=
  match l with
  | [] => g16 M ro  ⟨h, h.length, h.length⟩
  | _ => none
theorem d16_ok {ro : List ABlk} {O : Caller} {M : Means} (hM : M.Ok ⟨F, O⟩ ro) {l h r} (hr : d16 O M ro l h = some r) (ho : O 16 l h = none) : callX ⟨F, O⟩ ro 16 l h = some r := by
  unfold d16 at hr
  split at hr
  · exact g16_ok hM ho hr
  · cases hr
def d17 (O : Caller) (M : Means) (ro : List ABlk) (l : List AVal) (h : Heap) : Option (AVal × Heap × Nat × Nat) := callA ⟨F, O⟩ ro (exec ⟨F, O⟩ ro 600) 17 l h
theorem d17_ok {ro : List ABlk} {O : Caller} {M : Means} (hM : M.Ok ⟨F, O⟩ ro) {l h r} (hr : d17 O M ro l h = some r) (ho : O 17 l h = none) : callX ⟨F, O⟩ ro 17 l h = some r := callX_some.2 ⟨600, hr⟩
def d19 (O : Caller) (M : Means) (ro : List ABlk) (l : List AVal) (h : Heap) : Option (AVal × Heap × Nat × Nat) :=
  match l with
  | [a0, a1] => g19 M ro a0 a1 ⟨h, h.length, h.length⟩
  | _ => none
theorem d19_ok {ro : List ABlk} {O : Caller} {M : Means} (hM : M.Ok ⟨F, O⟩ ro) {l h r} (hr : d19 O M ro l h = some r) (ho : O 19 l h = none) : callX ⟨F, O⟩ ro 19 l h = some r := by
  unfold d19 at hr
  split at hr
  · exact g19_ok hM ho hr
  · cases hr
def d22 (O : Caller) (M : Means) (ro : List ABlk) (l : List AVal) (h : Heap) : Option (AVal × Heap × Nat × Nat) := callA ⟨F, O⟩ ro (exec ⟨F, O⟩ ro 600) 22 l h
theorem d22_ok {ro : List ABlk} {O : Caller} {M : Means} (hM : M.Ok ⟨F, O⟩ ro) {l h r} (hr : d22 O M ro l h = some r) (ho : O 22 l h = none) : callX ⟨F, O⟩ ro 22 l h = some r := callX_some.2 ⟨600, hr⟩
def d32 (O : Caller) (M : Means) (ro : List ABlk) (l : List AVal) (h : Heap) : Option (AVal × Heap × Nat × Nat) :=
  match l with
  | [.i .i64 a0, .i .i64 a1, a2] => g32 M ro a0 a1 a2 ⟨h, h.length, h.length⟩
  | _ => none
theorem d32_ok {ro : List ABlk} {O : Caller} {M : Means} (hM : M.Ok ⟨F, O⟩ ro) {l h r} (hr : d32 O M ro l h = some r) (ho : O 32 l h = none) : callX ⟨F, O⟩ ro 32 l h = some r := by
  unfold d32 at hr
  split at hr
  · exact g32_ok hM ho hr
  · cases hr
def d42 (O : Caller) (M : Means) (ro : List ABlk) (l : List AVal) (h : Heap) : Option (AVal × Heap × Nat × Nat) :=
  match l with
  | [.i .i64 a0, .i .i64 a1] => g42 M ro a0 a1 ⟨h, h.length, h.length⟩
  | _ => none
theorem d42_ok {ro : List ABlk} {O : Caller} {M : Means} (hM : M.Ok ⟨F, O⟩ ro) {l h r} (hr : d42 O M ro l h = some r) (ho : O 42 l h = none) : callX ⟨F, O⟩ ro 42 l h = some r := by
  unfold d42 at hr
  split at hr
  · exact g42_ok hM ho hr
  · cases hr
def d43 (O : Caller) (M : Means) (ro : List ABlk) (l : List AVal) (h : Heap) : Option (AVal × Heap × Nat × Nat) :=
  match l with
  | [.i .i64 a0, .i .i64 a1, a2] => g43 M ro a0 a1 a2 ⟨h, h.length, h.length⟩
  | _ => none
theorem d43_ok {ro : List ABlk} {O : Caller} {M : Means} (hM : M.Ok ⟨F, O⟩ ro) {l h r} (hr : d43 O M ro l h = some r) (ho : O 43 l h = none) : callX ⟨F, O⟩ ro 43 l h = some r := by
  unfold d43 at hr
  split at hr
  · exact g43_ok hM ho hr
  · cases hr
def d44 (O : Caller) (M : Means) (ro : List ABlk) (l : List AVal) (h : Heap) : Option (AVal × Heap × Nat × Nat) :=
  match l with
  | [a0] => g44 M ro a0 ⟨h, h.length, h.length⟩
  | _ => none
theorem d44_ok {ro : List ABlk} {O : Caller} {M : Means} (hM : M.Ok ⟨F, O⟩ ro) {l h r} (hr : d44 O M ro l h = some r) (ho : O 44 l h = none) : callX ⟨F, O⟩ ro 44 l h = some r := by
  unfold d44 at hr
  split at hr
  · exact g44_ok hM ho hr
  · cases hr
def d55 (O : Caller) (M : Means) (ro : List ABlk) (l : List AVal) (h : Heap) : Option (AVal × Heap × Nat × Nat) :=
  match l with
  | [a0, .i .i64 a1, .i .i64 a2] => g55 M ro a0 a1 a2 ⟨h, h.length, h.length⟩
  | _ => none
theorem d55_ok {ro : List ABlk} {O : Caller} {M : Means} (hM : M.Ok ⟨F, O⟩ ro) {l h r} (hr : d55 O M ro l h = some r) (ho : O 55 l h = none) : callX ⟨F, O⟩ ro 55 l h = some r := by
  unfold d55 at hr
  split at hr
  · exact g55_ok hM ho hr
  · cases hr
def d57 (O : Caller) (M : Means) (ro : List ABlk) (l : List AVal) (h : Heap) : Option (AVal × Heap × Nat × Nat) :=
  match l with
  | [a0, .i .i64 a1] => g57 M ro a0 a1 ⟨h, h.length, h.length⟩
  | _ => none
theorem d57_ok {ro : List ABlk} {O : Caller} {M : Means} (hM : M.Ok ⟨F, O⟩ ro) {l h r} (hr : d57 O M ro l h = some r) (ho : O 57 l h = none) : callX ⟨F, O⟩ ro 57 l h = some r := by
  unfold d57 at hr
  split at hr
  · exact g57_ok hM ho hr
  · cases hr
def d60 (O : Caller) (M : Means) (ro : List ABlk) (l : List AVal) (h : Heap) : Option (AVal × Heap × Nat × Nat) :=
  match l with
  | [a0, a1] => g60 M ro a0 a1 ⟨h, h.length, h.length⟩
  | _ => none
theorem d60_ok {ro : List ABlk} {O : Caller} {M : Means} (hM : M.Ok ⟨F, O⟩ ro) {l h r} (hr : d60 O M ro l h = some r) (ho : O 60 l h = none) : callX ⟨F, O⟩ ro 60 l h = some r := by
  unfold d60 at hr
  split at hr
  · exact g60_ok hM ho hr
  · cases hr
def d61 (O : Caller) (M : Means) (ro : List ABlk) (l : List AVal) (h : Heap) : Option (AVal × Heap × Nat × Nat) :=
  match l with
  | [a0, a1] => g61 M ro a0 a1 ⟨h, h.length, h.length⟩
  | _ => none
theorem d61_ok {ro : List ABlk} {O : Caller} {M : Means} (hM : M.Ok ⟨F, O⟩ ro) {l h r} (hr : d61 O M ro l h = some r) (ho : O 61 l h = none) : callX ⟨F, O⟩ ro 61 l h = some r := by
  unfold d61 at hr
  split at hr
  · exact g61_ok hM ho hr
  · cases hr
def d62 (O : Caller) (M : Means) (ro : List ABlk) (l : List AVal) (h : Heap) : Option (AVal × Heap × Nat × Nat) :=
  match l with
  | [a0] => g62 M ro a0 ⟨h, h.length, h.length⟩
  | _ => none
theorem d62_ok {ro : List ABlk} {O : Caller} {M : Means} (hM : M.Ok ⟨F, O⟩ ro) {l h r} (hr : d62 O M ro l h = some r) (ho : O 62 l h = none) : callX ⟨F, O⟩ ro 62 l h = some r := by
  unfold d62 at hr
  split at hr
  · exact g62_ok hM ho hr
  · cases hr
def d63 (O : Caller) (M : Means) (ro : List ABlk) (l : List AVal) (h : Heap) : Option (AVal × Heap × Nat × Nat) :=
  match l with
  | [.i .u32 a0] => g63 M ro a0 ⟨h, h.length, h.length⟩
  | _ => none
theorem d63_ok {ro : List ABlk} {O : Caller} {M : Means} (hM : M.Ok ⟨F, O⟩ ro) {l h r} (hr : d63 O M ro l h = some r) (ho : O 63 l h = none) : callX ⟨F, O⟩ ro 63 l h = some r := by
  unfold d63 at hr
  split at hr
  · exact g63_ok hM ho hr
  · cases hr
def d64 (O : Caller) (M : Means) (ro : List ABlk) (l : List AVal) (h : Heap) : Option (AVal × Heap × Nat × Nat) :=
  match l with
  | [.i .u32 a0] => g64 M ro a0 ⟨h, h.length, h.length⟩
  | _ => none
theorem d64_ok {ro : List ABlk} {O : Caller} {M : Means} (hM : M.Ok ⟨F, O⟩ ro) {l h r} (hr : d64 O M ro l h = some r) (ho : O 64 l h = none) : callX ⟨F, O⟩ ro 64 l h = some r := by
  unfold d64 at hr
  split at hr
  · exact g64_ok hM ho hr
  · cases hr
def d65 (O : Caller) (M : Means) (ro : List ABlk) (l : List AVal) (h : Heap) : Option (AVal × Heap × Nat × Nat) :=
  match l with
  | [a0, a1, a2] => g65 M ro a0 a1 a2 ⟨h, h.length, h.length⟩
  | _ => none
theorem d65_ok {ro : List ABlk} {O : Caller} {M : Means} (hM : M.Ok ⟨F, O⟩ ro) {l h r} (hr : d65 O M ro l h = some r) (ho : O 65 l h = none) : callX ⟨F, O⟩ ro 65 l h = some r := by
  unfold d65 at hr
  split at hr
  · exact g65_ok hM ho hr
  · cases hr
def d70 (O : Caller) (M : Means) (ro : List ABlk) (l : List AVal) (h : Heap) : Option (AVal × Heap × Nat × Nat) :=
  match l with
  | [a0, .i .i64 a1] => g70 M ro a0 a1 ⟨h, h.length, h.length⟩
  | _ => none
theorem d70_ok {ro : List ABlk} {O : Caller} {M : Means} (hM : M.Ok ⟨F, O⟩ ro) {l h r} (hr : d70 O M ro l h = some r) (ho : O 70 l h = none) : callX ⟨F, O⟩ ro 70 l h = some r := by
  unfold d70 at hr
  split at hr
  · exact g70_ok hM ho hr
  · cases hr
def d74 (O : Caller) (M : Means) (ro : List ABlk) (l : List AVal) (h : Heap) : Option (AVal × Heap × Nat × Nat) :=
  match l with
  | [a0, .i .i64 a1] => g74 M ro a0 a1 ⟨h, h.length, h.length⟩
  | _ => none
theorem d74_ok {ro : List ABlk} {O : Caller} {M : Means} (hM : M.Ok ⟨F, O⟩ ro) {l h r} (hr : d74 O M ro l h = some r) (ho : O 74 l h = none) : callX ⟨F, O⟩ ro 74 l h = some r := by
  unfold d74 at hr
  split at hr
  · exact g74_ok hM ho hr
  · cases hr
def d75 (O : Caller) (M : Means) (ro : List ABlk) (l : List AVal) (h : Heap) : Option (AVal × Heap × Nat × Nat) :=
  match l with
  | [.i .i64 a0, .i .i64 a1, .i .i64 a2, a3, a4, a5, a6, a7, a8] => g75 M ro a0 a1 a2 a3 a4 a5 a6 a7 a8 ⟨h, h.length, h.length⟩
  | _ => none
theorem d75_ok {ro : List ABlk} {O : Caller} {M : Means} (hM : M.Ok ⟨F, O⟩ ro) {l h r} (hr : d75 O M ro l h = some r) (ho : O 75 l h = none) : callX ⟨F, O⟩ ro 75 l h = some r := by
  unfold d75 at hr
  split at hr
  · exact g75_ok hM ho hr
  · cases hr
def d76 (O : Caller) (M : Means) (ro : List ABlk) (l : List AVal) (h : Heap) : Option (AVal × Heap × Nat × Nat) :=
  match l with
  | [a0] => g76 M ro a0 ⟨h, h.length, h.length⟩
  | _ => none
theorem d76_ok {ro : List ABlk} {O : Caller} {M : Means} (hM : M.Ok ⟨F, O⟩ ro) {l h r} (hr : d76 O M ro l h = some r) (ho : O 76 l h = none) : callX ⟨F, O⟩ ro 76 l h = some r := by
  unfold d76 at hr
  split at hr
  · exact g76_ok hM ho hr
  · cases hr
def d77 (O : Caller) (M : Means) (ro : List ABlk) (l : List AVal) (h : Heap) : Option (AVal × Heap × Nat × Nat) :=
  match l with
  | [a0] => g77 M ro a0 ⟨h, h.length, h.length⟩
  | _ => none
theorem d77_ok {ro : List ABlk} {O : Caller} {M : Means} (hM : M.Ok ⟨F, O⟩ ro) {l h r} (hr : d77 O M ro l h = some r) (ho : O 77 l h = none) : callX ⟨F, O⟩ ro 77 l h = some r := by
  unfold d77 at hr
  split at hr
  · exact g77_ok hM ho hr
  · cases hr
def d78 (O : Caller) (M : Means) (ro : List ABlk) (l : List AVal) (h : Heap) : Option (AVal × Heap × Nat × Nat) :=
  match l with
  | [a0, .i .u32 a1, .i .i64 a2] => g78 M ro a0 a1 a2 ⟨h, h.length, h.length⟩
  | _ => none
theorem d78_ok {ro : List ABlk} {O : Caller} {M : Means} (hM : M.Ok ⟨F, O⟩ ro) {l h r} (hr : d78 O M ro l h = some r) (ho : O 78 l h = none) : callX ⟨F, O⟩ ro 78 l h = some r := by
  unfold d78 at hr
  split at hr
  · exact g78_ok hM ho hr
  · cases hr
def d79 (O : Caller) (M : Means) (ro : List ABlk) (l : List AVal) (h : Heap) : Option (AVal × Heap × Nat × Nat) :=
  match l with
  | [.i .u32 a0] => g79 M ro a0 ⟨h, h.length, h.length⟩
  | _ => none
theorem d79_ok {ro : List ABlk} {O : Caller} {M : Means} (hM : M.Ok ⟨F, O⟩ ro) {l h r} (hr : d79 O M ro l h = some r) (ho : O 79 l h = none) : callX ⟨F, O⟩ ro 79 l h = some r := by
  unfold d79 at hr
  split at hr
  · exact g79_ok hM ho hr
  · cases hr
def tabS (O : Caller) (M : Means) (ro : List ABlk) (f : Nat) (l : List AVal) (h : Heap) : Option (AVal × Heap × Nat × Nat) :=
  (cond (Nat.blt f 61) (cond (Nat.blt f 42) (cond (Nat.blt f 19) (cond (Nat.blt f 17) (cond (Nat.beq f 16) (d16 O M ro l h) none) (cond (Nat.beq f 17) (d17 O M ro l h) none)) (cond (Nat.blt f 22) (cond (Nat.beq f 19) (d19 O M ro l h) none) (cond (Nat.blt f 32) (cond (Nat.beq f 22) (d22 O M ro l h) none) (cond (Nat.beq f 32) (d32 O M ro l h) none)))) (cond (Nat.blt f 55) (cond (Nat.blt f 43) (cond (Nat.beq f 42) (d42 O M ro l h) none) (cond (Nat.blt f 44) (cond (Nat.beq f 43) (d43 O M ro l h) none) (cond (Nat.beq f 44) (d44 O M ro l h) none))) (cond (Nat.blt f 57) (cond (Nat.beq f 55) (d55 O M ro l h) none) (cond (Nat.blt f 60) (cond (Nat.beq f 57) (d57 O M ro l h) none) (cond (Nat.beq f 60) (d60 O M ro l h) none))))) (cond (Nat.blt f 74) (cond (Nat.blt f 64) (cond (Nat.blt f 62) (cond (Nat.beq f 61) (d61 O M ro l h) none) (cond (Nat.blt f 63) (cond (Nat.beq f 62) (d62 O M ro l h) none) (cond (Nat.beq f 63) (d63 O M ro l h) none))) (cond (Nat.blt f 65) (cond (Nat.beq f 64) (d64 O M ro l h) none) (cond (Nat.blt f 70) (cond (Nat.beq f 65) (d65 O M ro l h) none) (cond (Nat.beq f 70) (d70 O M ro l h) none)))) (cond (Nat.blt f 77) (cond (Nat.blt f 75) (cond (Nat.beq f 74) (d74 O M ro l h) none) (cond (Nat.blt f 76) (cond (Nat.beq f 75) (d75 O M ro l h) none) (cond (Nat.beq f 76) (d76 O M ro l h) none))) (cond (Nat.blt f 78) (cond (Nat.beq f 77) (d77 O M ro l h) none) (cond (Nat.blt f 79) (cond (Nat.beq f 78) (d78 O M ro l h) none) (cond (Nat.beq f 79) (d79 O M ro l h) none))))))
theorem leafS {f k : Nat} {A : Option (AVal × Heap × Nat × Nat)} {r : AVal × Heap × Nat × Nat} {G : Nat → Prop} (hA : A = some r → G k) (h : cond (Nat.beq f k) A none = some r) : G f := by
  cases hb : Nat.beq f k
  · rw [hb] at h; cases h
  · rw [hb] at h
    rw [Nat.eq_of_beq_eq_true hb]
    exact hA h
theorem nodeS {f k : Nat} {A B : Option (AVal × Heap × Nat × Nat)} {r : AVal × Heap × Nat × Nat} {G : Prop} (hA : A = some r → G) (hB : B = some r → G) (h : cond (Nat.blt f k) A B = some r) : G := by
  cases hb : Nat.blt f k
  · rw [hb] at h; exact hB h
  · rw [hb] at h; exact hA h
theorem tabS_ok {ro : List ABlk} {O : Caller} {M : Means} (hM : M.Ok ⟨F, O⟩ ro) {f : Nat} {l : List AVal} {h : Heap} {r : AVal × Heap × Nat × Nat} (hr : tabS O M ro f l h = some r) : O f l h = none → callX ⟨F, O⟩ ro f l h = some r :=
  (nodeS (nodeS (nodeS (nodeS (leafS (G := fun f => O f l h = none → callX ⟨F, O⟩ ro f l h = some r) (d16_ok hM)) (leafS (G := fun f => O f l h = none → callX ⟨F, O⟩ ro f l h = some r) (d17_ok hM))) (nodeS (leafS (G := fun f => O f l h = none → callX ⟨F, O⟩ ro f l h = some r) (d19_ok hM)) (nodeS (leafS (G := fun f => O f l h = none → callX ⟨F, O⟩ ro f l h = some r) (d22_ok hM)) (leafS (G := fun f => O f l h = none → callX ⟨F, O⟩ ro f l h = some r) (d32_ok hM))))) (nodeS (nodeS (leafS (G := fun f => O f l h = none → callX ⟨F, O⟩ ro f l h = some r) (d42_ok hM)) (nodeS (leafS (G := fun f => O f l h = none → callX ⟨F, O⟩ ro f l h = some r) (d43_ok hM)) (leafS (G := fun f => O f l h = none → callX ⟨F, O⟩ ro f l h = some r) (d44_ok hM)))) (nodeS (leafS (G := fun f => O f l h = none → callX ⟨F, O⟩ ro f l h = some r) (d55_ok hM)) (nodeS (leafS (G := fun f => O f l h = none → callX ⟨F, O⟩ ro f l h = some r) (d57_ok hM)) (leafS (G := fun f => O f l h = none → callX ⟨F, O⟩ ro f l h = some r) (d60_ok hM)))))) (nodeS (nodeS (nodeS (leafS (G := fun f => O f l h = none → callX ⟨F, O⟩ ro f l h = some r) (d61_ok hM)) (nodeS (leafS (G := fun f => O f l h = none → callX ⟨F, O⟩ ro f l h = some r) (d62_ok hM)) (leafS (G := fun f => O f l h = none → callX ⟨F, O⟩ ro f l h = some r) (d63_ok hM)))) (nodeS (leafS (G := fun f => O f l h = none → callX ⟨F, O⟩ ro f l h = some r) (d64_ok hM)) (nodeS (leafS (G := fun f => O f l h = none → callX ⟨F, O⟩ ro f l h = some r) (d65_ok hM)) (leafS (G := fun f => O f l h = none → callX ⟨F, O⟩ ro f l h = some r) (d70_ok hM))))) (nodeS (nodeS (leafS (G := fun f => O f l h = none → callX ⟨F, O⟩ ro f l h = some r) (d74_ok hM)) (nodeS (leafS (G := fun f => O f l h = none → callX ⟨F, O⟩ ro f l h = some r) (d75_ok hM)) (leafS (G := fun f => O f l h = none → callX ⟨F, O⟩ ro f l h = some r) (d76_ok hM)))) (nodeS (leafS (G := fun f => O f l h = none → callX ⟨F, O⟩ ro f l h = some r) (d77_ok hM)) (nodeS (leafS (G := fun f => O f l h = none → callX ⟨F, O⟩ ro f l h = some r) (d78_ok hM)) (leafS (G := fun f => O f l h = none → callX ⟨F, O⟩ ro f l h = some r) (d79_ok hM))))))) hr
def meansS (ro : List ABlk) (O : Caller) : Nat → Means
  | 0 => ⟨fun _ _ _ => none, fun _ _ => none, fun _ _ _ => none⟩
  | n + 1 => ⟨fun f l h => match O f l h with
    | some r => some r
    | none => tabS O (meansS ro O n) ro f l h, fun b s => iter b (n + 1) s, fun _ _ _ => none⟩
theorem meansS_ok (ro : List ABlk) (O : Caller) : ∀ n, (meansS ro O n).Ok ⟨F, O⟩ ro
  | 0 => ⟨fun _ _ _ _ h => (nomatch h), fun _ _ _ h => (nomatch h), fun _ _ _ _ h => (nomatch h)⟩
  | n + 1 => ⟨fun f l h r hr => by
      simp only [meansS] at hr
      split at hr
      · rename_i e; cases hr; exact callX_ov e
      · rename_i e; exact tabS_ok (meansS_ok ro O n) hr e, fun _ _ _ h => ⟨n + 1, h⟩, fun _ _ _ _ h => (nomatch h)⟩

/-- how many zeros a number ends with -/
def ctzF : Nat → Nat → Nat
  | 0, _ => 0
  | k + 1, n => cond (Nat.beq (Nat.mod n 2) 1) 0 (ctzF k (Nat.div n 2) + 1)
/-- known beforehand: math/bits.TrailingZeros32 -/
def tzC : Caller := fun f a h =>
  cond (Nat.beq f 79) (match a with
    | [.i .u32 x] => match x with
      | .ofNat n => cond (Nat.blt n 4294967296) (some (mkN .i64 (ctzF 32 n), h, h.length, h.length)) none
      | _ => none
    | _ => none) none
def okA (o : Option (AVal × Heap × Nat × Nat)) : Bool := match o with
  | some (.b true, [], 0, 0) => true
  | _ => false
theorem okA_eq {o : Option (AVal × Heap × Nat × Nat)} (h : okA o = true) : o = some (.b true, [], 0, 0) := by
  unfold okA at h
  split at h
  · rfl
  · cases h
theorem alive0 : callX ⟨F, tzC⟩ [] 16 [] [] = some (.b true, [], 0, 0) :=
  (meansS_ok [] tzC 100).call 16 [] [] _ (okA_eq (by decide +kernel))
end Go.Proofs.YtddnpchfjdgigaaDoor.T

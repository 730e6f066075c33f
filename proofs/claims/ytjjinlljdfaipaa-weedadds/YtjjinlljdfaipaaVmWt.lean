/- Tables: the orphan of each rule, and whether it is one to one; reckoned. -/
import Derived.Test.YtjjinlljdfaipaaVmWl
open Go.Vm
set_option linter.unusedVariables false
namespace Go.Proofs.Ytjjinlljdfaipaa.W
open Go

/-- the small functions, known by their numbers -/
def leafO : Caller := fun f a h => match a with
  | [.i .u8 (.ofNat u), .i .u8 (.ofNat s), .i .i64 (.ofNat c)] => cond (Nat.blt u 256 && Nat.blt s 256)
      (cond (Nat.beq f 78) (some (.i .u8 (.ofNat (ahV u s c)), h, h.length, h.length)) (cond (Nat.beq f 74) (some (.i .u8 (.ofNat (beV u s c)), h, h.length, h.length)) none)) none
  | [.i .u8 (.ofNat u), .i .u16 (.ofNat s)] => cond (Nat.beq f 79 && (Nat.blt u 256 && Nat.blt s 65536)) (some (.i .u16 (.ofNat (laV u s)), h, h.length, h.length)) none
  | [] => cond (Nat.beq f 15) (some (.b true, h, h.length, h.length)) none
  | _ => none
theorem leaf_le {ro : List ABlk} {f : Nat} {a : List AVal} {h : Heap} {r : AVal × Heap × Nat × Nat} (e : leafO f a h = some r) : callX F1 ro f a h = some r := by
  unfold leafO at e
  split at e
  · rename_i u s c
    cases hc : (Nat.blt u 256 && Nat.blt s 256) with
    | false => rw [hc] at e; cases e
    | true =>
      rw [hc] at e
      rw [Bool.and_eq_true, Nat.blt_eq, Nat.blt_eq] at hc
      cases h1 : Nat.beq f 78 with
      | true =>
        rw [h1] at e
        cases e
        rw [beq_iff.1 h1]
        exact ahead_ok hc.1 hc.2
      | false =>
        rw [h1] at e
        cases h2 : Nat.beq f 74 with
        | true =>
          rw [h2] at e
          cases e
          rw [beq_iff.1 h2]
          exact behind_ok hc.1 hc.2
        | false => rw [h2] at e; cases e
  · rename_i u s
    cases hc : (Nat.beq f 79 && (Nat.blt u 256 && Nat.blt s 65536)) with
    | false => rw [hc] at e; cases e
    | true =>
      rw [hc] at e
      rw [Bool.and_eq_true, Bool.and_eq_true, Nat.blt_eq, Nat.blt_eq] at hc
      cases e
      rw [beq_iff.1 hc.1]
      exact lasting_ok hc.2.1 hc.2.2
  · cases hc : Nat.beq f 15 with
    | false => rw [hc] at e; cases e
    | true =>
      rw [hc] at e
      cases e
      rw [beq_iff.1 hc]
      exact alive_any
  · cases e
abbrev F2 : Tab := ⟨F, leafO⟩
abbrev Rk2 (n : Nat) : Means := meansS [] leafO n

def orphL : List (List UInt8) := [[49], [49, 48, 49], [49, 49], [49, 48, 49], [49, 49], [49, 48, 48, 48, 49], [49, 49, 49], [49, 48, 48, 49], [49, 49], [49, 48, 49, 49], [49, 48, 49], [49, 48, 49], [49, 49], [49, 49, 48, 48], [49, 49, 49], [], [49, 49], [49, 48, 49], [49, 49, 49], [48, 49, 48], [49, 49, 49], [49, 48, 48, 49], [49, 48, 48, 49, 48, 49, 48, 49], [48, 49, 48, 48, 49], [49, 49], [49, 49, 48, 49, 49], [49, 49, 49, 49], [49, 48, 49, 48], [49, 49, 49], [49, 49, 48, 48], [], [48, 49, 49, 48], [49, 49], [49, 48, 49, 49], [49, 49], [49, 48, 49, 49], [49, 48, 49], [49, 48, 48, 49, 48, 49, 48, 48, 49], [48, 49, 48, 49], [48, 49, 48, 49], [49, 49, 49], [49, 48, 49, 49, 49], [49, 49, 49], [48, 49, 48, 48, 48], [49, 48, 49, 48], [], [48, 49, 48], [48, 49, 48], [49, 49], [49, 49, 48, 49], [49, 49, 49], [], [49, 48, 49, 48], [49, 48, 49, 48], [48, 49, 49, 48, 49], [49, 48, 49], [49, 49, 49], [48, 48, 49, 48, 48, 48], [49, 49, 49, 49], [48, 49, 48, 48], [], [48, 48, 49, 48, 48], [48, 49, 48, 49, 48], [48, 49, 48], [49, 49], [49, 49, 48, 49], [49, 49], [49, 49, 48, 49, 49], [49, 49], [48, 48, 49, 49], [49, 49, 49], [48, 48, 49, 49], [49, 49, 49], [49, 48, 48, 49, 49, 49], [49, 49, 49, 49], [], [49, 49, 49], [48, 48, 48, 49, 49], [49, 49, 49, 49], [48, 48, 49, 49], [49, 48, 49], [49, 48, 49], [49, 49, 49, 49], [48, 49, 48, 49], [49, 49, 49], [], [], [48, 49, 49, 48], [49, 49, 49, 49], [], [], [48, 49, 48, 48, 49, 48, 48, 49, 48], [49, 49, 49, 49], [49, 49, 48, 48], [48, 48, 49, 48, 48], [48, 48, 49, 48, 48], [49, 49, 49], [49, 49, 49, 48, 49], [49, 49, 49], [48, 48, 48, 49, 48, 48], [48, 49, 48, 49], [], [], [48, 48, 49, 48, 48], [49, 48, 48, 49, 48, 49, 48, 49], [], [], [48, 49, 48, 48, 48], [48, 49, 49, 48, 49], [48, 48, 48, 49, 49, 48], [48, 49, 48, 49, 48], [48, 49, 48, 48], [49, 49, 49], [48, 48, 48, 49, 48], [49, 49, 49, 49], [48, 48, 49, 48], [48, 49, 48], [48, 49, 48], [48, 49, 48, 49, 48], [48, 49, 48], [], [48, 48, 48, 49, 48], [48, 48, 49, 48, 48], [48, 48, 49, 48], [48, 49, 48, 49, 48], [48, 48, 49, 48], [48, 49, 48], [48, 49, 48], [49, 48, 49], [49, 48, 49], [49, 49, 48, 49], [49, 48, 49, 48, 49], [49, 48, 49, 49], [49, 49, 48, 49, 49], [49, 49, 49, 48, 49], [], [49, 48, 49], [49, 48, 49, 48, 49], [49, 48, 49], [49, 48, 49], [49, 49, 48, 49], [48, 48, 48, 48], [48, 48, 48, 49, 48], [48, 48, 48], [49, 48, 49, 49], [49, 48, 49, 48, 49], [49, 48, 48, 49, 49, 49], [48, 49, 48, 48, 49], [49, 48, 49, 49, 49], [], [], [48, 49, 48, 49, 48, 49, 49, 48], [49, 49, 48, 49, 49], [], [], [49, 48, 49, 48], [48, 48, 49, 48, 48, 48], [48, 48, 48], [48, 48, 48, 49, 48], [48, 48, 48], [49, 48, 48, 48, 49], [49, 49, 48, 49, 49], [48, 48, 49, 49], [48, 48, 48, 48], [49, 48, 48, 49, 48, 49, 48, 48, 49], [], [], [48, 48, 48, 48], [49, 48, 48, 49], [], [], [48, 48, 48], [49, 48, 49, 48], [48, 48, 48, 48], [48, 49, 48], [48, 48, 48], [49, 49, 48, 48], [48, 48, 48, 48], [48, 48, 48, 49, 49], [48, 48, 48], [], [48, 48, 48, 48], [48, 48, 48, 49, 49, 48], [48, 48, 48], [49, 49, 48, 48], [48, 48, 48], [49, 49, 48, 48], [48, 48], [48, 48, 49, 48, 48], [48, 48], [48, 48, 49, 48], [48, 48], [49, 48, 49], [49, 48, 49, 48, 49], [49, 49, 48, 49, 49], [], [49, 48, 49, 49], [48, 48, 48, 48], [48, 48, 48, 49, 48, 48], [48, 48, 48], [48, 49, 48], [48, 49, 48, 48, 49], [48, 49, 48, 49], [48, 49, 48, 49], [], [48, 48, 48], [48, 48, 49, 48], [48, 48], [49, 48, 49], [49, 48, 49], [], [48, 49, 48, 49], [48, 49, 48, 48, 48], [48, 48, 48], [48, 49, 48, 48, 48], [48, 48, 48], [49, 48, 49, 48], [49, 48, 49, 48], [48, 49, 48, 48, 49, 48, 48, 49, 48], [48, 49, 48], [48, 49, 48, 48], [48, 48], [48, 48, 49, 48], [48, 48], [49, 48, 48, 49], [], [48, 48, 49, 49], [48, 48, 48], [48, 49, 48, 49], [48, 48, 48, 48], [48, 48, 49, 48, 48], [48, 48], [48, 49, 48, 48, 49], [48, 49, 48, 49, 48, 49, 49, 48], [48, 49, 49, 48], [48, 48, 48], [49, 48, 49], [48, 48, 48], [48, 49, 48], [48, 48], [], [48, 48, 48], [48, 48, 49, 49], [48, 48], [48, 49, 48], [48, 48, 48], [48, 49, 48, 48], [48, 48], [48, 49, 49, 48], [48, 48, 48], [48, 48, 49, 48, 48], [48, 48], [48, 49, 48], [48, 48], [48, 49, 48], [48]]
def orphT (r : Nat) : List UInt8 := orphL.getD r []
def oneN : Nat := 1766847064804095338292937922828216753893183071823361306064178494985764864
def oneT (r : Nat) : Bool := oneN.testBit r
def okS (w : List UInt8) (o : Option (AVal × Heap × Nat × Nat)) : Bool := match o with
  | some (.s w', _, _, _) => eqL w w'
  | _ => false
def okBb (w : Bool) (o : Option (AVal × Heap × Nat × Nat)) : Bool := match o with
  | some (.b w', _, _, _) => w == w'
  | _ => false
def chk1 (n : Nat) : Bool := okS (orphT n) ((Rk2 300).call 62 [.i .u8 (Int.ofNat n)] []) && okBb (oneT n) ((Rk2 300).call 64 [.i .u8 (Int.ofNat n)] [])
theorem tab0 : ((List.range 16).all fun i => chk1 (16 * 0 + i)) = true := by decide +kernel
theorem tab1 : ((List.range 16).all fun i => chk1 (16 * 1 + i)) = true := by decide +kernel
theorem tab2 : ((List.range 16).all fun i => chk1 (16 * 2 + i)) = true := by decide +kernel
theorem tab3 : ((List.range 16).all fun i => chk1 (16 * 3 + i)) = true := by decide +kernel
theorem tab4 : ((List.range 16).all fun i => chk1 (16 * 4 + i)) = true := by decide +kernel
theorem tab5 : ((List.range 16).all fun i => chk1 (16 * 5 + i)) = true := by decide +kernel
theorem tab6 : ((List.range 16).all fun i => chk1 (16 * 6 + i)) = true := by decide +kernel
theorem tab7 : ((List.range 16).all fun i => chk1 (16 * 7 + i)) = true := by decide +kernel
theorem tab8 : ((List.range 16).all fun i => chk1 (16 * 8 + i)) = true := by decide +kernel
theorem tab9 : ((List.range 16).all fun i => chk1 (16 * 9 + i)) = true := by decide +kernel
theorem tab10 : ((List.range 16).all fun i => chk1 (16 * 10 + i)) = true := by decide +kernel
theorem tab11 : ((List.range 16).all fun i => chk1 (16 * 11 + i)) = true := by decide +kernel
theorem tab12 : ((List.range 16).all fun i => chk1 (16 * 12 + i)) = true := by decide +kernel
theorem tab13 : ((List.range 16).all fun i => chk1 (16 * 13 + i)) = true := by decide +kernel
theorem tab14 : ((List.range 16).all fun i => chk1 (16 * 14 + i)) = true := by decide +kernel
theorem tab15 : ((List.range 16).all fun i => chk1 (16 * 15 + i)) = true := by decide +kernel
theorem tab_all {n : Nat} (hn : n < 256) : chk1 n = true := by
  by_cases h0 : n < 16
  · exact all_16 (P := chk1) tab0 (by omega) (by omega)
  by_cases h1 : n < 32
  · exact all_16 (P := chk1) tab1 (by omega) (by omega)
  by_cases h2 : n < 48
  · exact all_16 (P := chk1) tab2 (by omega) (by omega)
  by_cases h3 : n < 64
  · exact all_16 (P := chk1) tab3 (by omega) (by omega)
  by_cases h4 : n < 80
  · exact all_16 (P := chk1) tab4 (by omega) (by omega)
  by_cases h5 : n < 96
  · exact all_16 (P := chk1) tab5 (by omega) (by omega)
  by_cases h6 : n < 112
  · exact all_16 (P := chk1) tab6 (by omega) (by omega)
  by_cases h7 : n < 128
  · exact all_16 (P := chk1) tab7 (by omega) (by omega)
  by_cases h8 : n < 144
  · exact all_16 (P := chk1) tab8 (by omega) (by omega)
  by_cases h9 : n < 160
  · exact all_16 (P := chk1) tab9 (by omega) (by omega)
  by_cases h10 : n < 176
  · exact all_16 (P := chk1) tab10 (by omega) (by omega)
  by_cases h11 : n < 192
  · exact all_16 (P := chk1) tab11 (by omega) (by omega)
  by_cases h12 : n < 208
  · exact all_16 (P := chk1) tab12 (by omega) (by omega)
  by_cases h13 : n < 224
  · exact all_16 (P := chk1) tab13 (by omega) (by omega)
  by_cases h14 : n < 240
  · exact all_16 (P := chk1) tab14 (by omega) (by omega)
  by_cases h15 : n < 256
  · exact all_16 (P := chk1) tab15 (by omega) (by omega)
  omega
theorem okS_eq {w : List UInt8} {o : Option (AVal × Heap × Nat × Nat)} (h : okS w o = true) : ∃ h' lw lp, o = some (.s w, h', lw, lp) := by
  unfold okS at h
  split at h
  · rw [eqL_eq] at h
    exact ⟨_, _, _, by rw [eq_of_beq h]⟩
  · cases h
theorem okBb_eq {w : Bool} {o : Option (AVal × Heap × Nat × Nat)} (h : okBb w o = true) : ∃ h' lw lp, o = some (.b w, h', lw, lp) := by
  unfold okBb at h
  split at h
  · exact ⟨_, _, _, by rw [eq_of_beq h]⟩
  · cases h

/-- what is known of each rule -/
def ruleK : Nat → List AVal → Option AVal := fun f a => match a with
  | [.i .u8 (.ofNat n)] => cond (Nat.blt n 256) (cond (Nat.beq f 62) (some (.s (orphT n))) (cond (Nat.beq f 64) (some (.b (oneT n))) none)) none
  | _ => none
theorem ruleK_ok {f : Nat} {a : List AVal} {v : AVal} (e : ruleK f a = some v) : (∀ x ∈ a, x.scalar = true) ∧ v.scalar = true ∧ ∃ h' lw lp, callX F2 [] f a [] = some (v, h', lw, lp) := by
  unfold ruleK at e
  split at e
  · rename_i n
    cases hc : Nat.blt n 256 with
    | false => rw [hc] at e; cases e
    | true =>
      rw [hc] at e
      rw [Nat.blt_eq] at hc
      have ht := tab_all hc
      unfold chk1 at ht
      rw [Bool.and_eq_true] at ht
      cases h1 : Nat.beq f 62 with
      | true =>
        rw [h1] at e
        cases e
        rw [beq_iff.1 h1]
        obtain ⟨h', lw, lp, h2⟩ := okS_eq ht.1
        exact ⟨fun x hx => by simp at hx; subst hx; rfl, rfl, h', lw, lp, (meansS_ok [] leafO 300).call _ _ _ _ h2⟩
      | false =>
        rw [h1] at e
        cases h3 : Nat.beq f 64 with
        | true =>
          rw [h3] at e
          cases e
          rw [beq_iff.1 h3]
          obtain ⟨h', lw, lp, h2⟩ := okBb_eq ht.2
          exact ⟨fun x hx => by simp at hx; subst hx; rfl, rfl, h', lw, lp, (meansS_ok [] leafO 300).call _ _ _ _ h2⟩
        | false => rw [h3] at e; cases e
  · cases e
def allO : Caller := orC (knownS ruleK) leafO
abbrev F3 : Tab := ⟨F, allO⟩
abbrev Rk3 (n : Nat) : Means := meansS [] allO n
end Go.Proofs.Ytjjinlljdfaipaa.W

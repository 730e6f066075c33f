/- The reference's orphans, reckoned; Eden and Onto. -/
import Derived.Test.YtjjinlljdfaipaaVmWt
open Go.Vm
set_option linter.unusedVariables false
namespace Go.Proofs.Ytjjinlljdfaipaa.W
open Go

theorem becomes_num : ∀ n, n < 256 → ∀ t, t < 8 → Int.tmod (shrV .i64 (Int.ofNat n) (Int.ofNat t)) 2 = Int.ofNat (nx n t) := by decide +kernel
theorem becomes_ok {ro : List ABlk} {h : Heap} {n l c r : Nat} (hn : n < 256) (hl : l < 2) (hc : c < 2) (hr : r < 2) :
    callX F1 ro 49 [.i .i64 n, .i .i64 l, .i .i64 c, .i .i64 r] h = some (.i .i64 (nx n (4 * l + 2 * c + r) : Nat), h, h.length, h.length) := by
  refine g49_ok (meansX_ok F1 ro) rfl ?_
  unfold g49
  have e1 : wr .i64 (4 * (l : Int)) = 4 * (l : Int) := wr_id' (by omega) (by omega)
  have e2 : wr .i64 (2 * (c : Int)) = 2 * (c : Int) := wr_id' (by omega) (by omega)
  have e3 : wr .i64 (4 * (l : Int) + 2 * (c : Int)) = 4 * (l : Int) + 2 * (c : Int) := wr_id' (by omega) (by omega)
  have e4 : wr .i64 (4 * (l : Int) + 2 * (c : Int) + (r : Int)) = ((4 * l + 2 * c + r : Nat) : Int) := by rw [wr_id' (by omega) (by omega)]; omega
  have e5 : Int.tmod (shrV .i64 (n : Int) ((4 * l + 2 * c + r : Nat) : Int)) 2 = ((nx n (4 * l + 2 * c + r) : Nat) : Int) := becomes_num n hn _ (by omega)
  simp only [forceI_eq, e1, e2, e3, e4, ltI_eq, nneg, chk_true, e5, tupA]
  exact fin_pure rfl

def leafB : Caller := fun f a h => match a with
  | [.i .i64 (.ofNat n), .i .i64 (.ofNat l), .i .i64 (.ofNat c), .i .i64 (.ofNat r)] =>
    cond (Nat.beq f 49 && (Nat.blt n 256 && (Nat.blt l 2 && (Nat.blt c 2 && Nat.blt r 2)))) (some (.i .i64 (.ofNat (nx n (4 * l + 2 * c + r))), h, h.length, h.length)) none
  | _ => none
theorem leafB_le {ro : List ABlk} {f : Nat} {a : List AVal} {h : Heap} {r : AVal × Heap × Nat × Nat} (e : leafB f a h = some r) : callX F1 ro f a h = some r := by
  unfold leafB at e
  split at e
  · rename_i n l c r
    cases hc : (Nat.beq f 49 && (Nat.blt n 256 && (Nat.blt l 2 && (Nat.blt c 2 && Nat.blt r 2)))) with
    | false => rw [hc] at e; cases e
    | true =>
      rw [hc] at e
      simp only [Bool.and_eq_true, Nat.blt_eq] at hc
      cases e
      rw [beq_iff.1 hc.1]
      exact becomes_ok hc.2.1 hc.2.2.1 hc.2.2.2.1 hc.2.2.2.2
  · cases e
def allB : Caller := orC allO leafB
abbrev F5 : Tab := ⟨F, allB⟩
abbrev Rk5 (n : Nat) : Means := meansS [] allB n
theorem call_of5 (alive : callX ⟨F, noCall⟩ [] 15 [] [] = some (.b true, [], 0, 0)) {W : World} {ro : List ABlk} {rl : Rl} (hE : (Env.mk Try.prog W.heap.size W ro rl).Ok) {K : Nat} {vs : List AVal} {args : Array Value}
    (hv : LR rl [] vs args) {h' : Heap} {lw lp : Nat} (hc : callX F5 ro K vs [] = some (.b true, h', lw, lp)) : Calls Try.prog K args W fun e W' => e = .returned (.bool true) ∧ RowKit.Below W.heap.size W W' := by
  have hm : (Env.mk Try.prog W.heap.size W ro rl).P.follows .mixedOrders = true := Try.checked.mixed
  have hO : CallOk (Env.mk Try.prog W.heap.size W ro rl) (known0 15 (.b true)) := known0_of hE hm fok alive rfl
  have h1 : CallOk (Env.mk Try.prog W.heap.size W ro rl) leafO := le_ok (callX_sound hE hm (F := F1) fok hO) fun _ _ _ _ e => leaf_le e
  have h1' : CallOk (Env.mk Try.prog W.heap.size W ro rl) leafB := le_ok (callX_sound hE hm (F := F1) fok hO) fun _ _ _ _ e => leafB_le e
  have hEb := Env.bare_ok hE
  have hOb : CallOk (Env.mk Try.prog W.heap.size W ro rl).bare (known0 15 (.b true)) := known0_of hEb hm fok alive rfl
  have h1b : CallOk (Env.mk Try.prog W.heap.size W ro rl).bare leafO := le_ok (callX_sound hEb hm (F := F1) fok hOb) fun _ _ _ _ e => leaf_le e
  have h2b : CallOk (Env.mk Try.prog W.heap.size W ro rl).bare (callX F2 []) := callX_sound hEb hm (F := F2) fok h1b
  have h3 : CallOk (Env.mk Try.prog W.heap.size W ro rl) allO := or_ok (knownS_ok h2b fun f a v e => ruleK_ok e) h1
  have h4 : CallOk (Env.mk Try.prog W.heap.size W ro rl) allB := or_ok h3 h1'
  obtain ⟨-, h2⟩ := callX_sound hE hm (F := F5) fok h4 K vs [] _ _ _ _ hc
  refine Calls.mono (h2 [] W args ⟨RowKit.Below.refl _ _, rfl, by simp, fun i b r K hl => by simp [Live] at hl, fun i j b b' r K K' hl => by simp [Live] at hl⟩ hv) fun e w' hq => ?_
  obtain ⟨v', rfl, m', hvr, T⟩ := hq
  exact ⟨by rw [hvr.inv_b], T.hr.below⟩

def okO (w : List UInt8) (o : Option (AVal × Heap × Nat × Nat)) : Bool := match o with
  | some (.tup [.s w', .b k], [], 0, 0) => eqL w w' && (k == !w.isEmpty)
  | _ => false
theorem okO_eq {w : List UInt8} {o : Option (AVal × Heap × Nat × Nat)} (h : okO w o = true) : o = some (.tup [.s w, .b (!w.isEmpty)], [], 0, 0) := by
  unfold okO at h
  split at h
  · rename_i w' k
    rw [Bool.and_eq_true, eqL_eq] at h
    rw [eq_of_beq h.1, eq_of_beq h.2, eq_of_beq h.1]
  · cases h
def chk63 (n : Nat) : Bool := okO (orphT n) ((Rk5 300).call 63 [.i .i64 (Int.ofNat n)] [])
end Go.Proofs.Ytjjinlljdfaipaa.W

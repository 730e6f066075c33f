/- Contracts of the functions: what each of them answers. -/
import Derived.Test.YtgbkicelkpagpaaVmGt
import Derived.Test.YtgbkicelkpagpaaVmAF
import Derived.Test.YtgbkicelkpagpaaVmFO
import Derived.Test.YtgbkicelkpagpaaRows
import Derived.WalkKit
import Derived.ProofKit
import Derived.OpenShut
import Derived.Carry
import Derived.Below
import Derived.Deep.Matrix
import Derived.Test.YtgbkicelkpagpaaVmAG
/- From the statement to the small machine, for numbers as arguments; readings of a rule. -/
open Go.Vm
set_option linter.unusedVariables false
namespace Go.Proofs.Ytgbkicelkpagpaa.W
open Go Go.RowKit Go.Deep Go.WideShapes Go.ChangeShapes

abbrev F1 : Tab := ⟨F, known0 15 (.b true)⟩
theorem own : ownKnob Try.prog.godebug = none := by kernel_rfl
theorem env_ok {W : World} {ro : List ABlk} {rl : Rl} (h : ∀ (i : Nat) (b : ABlk), ro[i]? = some b → ∃ x, rl[i]? = some x ∧ ∀ j, j < b.n → x.block < W.heap.size ∧ ∃ v', W.cell? (x.add j) = some v' ∧ VR rl [] (b.c.get j) v') :
    (Env.mk Try.prog W.heap.size W ro rl).Ok := ⟨fun i b hb => h i b hb, Nat.le_refl _⟩
/-- the call of the model: true, and below nothing has turned -/
theorem call_of (alive : callX ⟨F, noCall⟩ [] 15 [] [] = some (.b true, [], 0, 0)) {W : World} {ro : List ABlk} {rl : Rl} (hE : (Env.mk Try.prog W.heap.size W ro rl).Ok) {K : Nat} {vs : List AVal} {args : Array Value}
    (hv : LR rl [] vs args) {h' : Heap} {lw lp : Nat} (hc : callX F1 ro K vs [] = some (.b true, h', lw, lp)) : Calls Try.prog K args W fun e W' => e = .returned (.bool true) ∧ Below W.heap.size W W' := by
  have hm : (Env.mk Try.prog W.heap.size W ro rl).P.follows .mixedOrders = true := Try.checked.mixed
  have hO : CallOk (Env.mk Try.prog W.heap.size W ro rl) (known0 15 (.b true)) := known0_of hE hm fok alive rfl
  obtain ⟨-, h2⟩ := callX_sound hE hm (F := F1) fok hO K vs [] _ _ _ _ hc
  refine Calls.mono (h2 [] W args ⟨Below.refl _ _, rfl, by simp, fun i b r K hl => by simp [Live] at hl, fun i j b b' r K K' hl => by simp [Live] at hl⟩ hv) fun e w' hq => ?_
  obtain ⟨v', rfl, m', hvr, T⟩ := hq
  exact ⟨by rw [hvr.inv_b], T.hr.below⟩
theorem alive_any {ro : List ABlk} {h : Heap} : callX F1 ro 15 [] h = some (.b true, h, h.length, h.length) := callX_ov (by rfl)

/- a number that is no rule -/
theorem read_not {ro : List ABlk} {h : Heap} {n : Int} (hn : n < 0 ∨ 255 < n) : callX F1 ro 61 [.i .i64 n] h = some (.tup [.i .u8 0, .i .i64 2], h, h.length, h.length) := by
  refine g61_ok (meansX_ok F1 ro) rfl ?_
  unfold g61
  simp only [forceB_eq, ltI_eq]
  by_cases e : n < 0
  · simp only [decide_eq_true e, cond_true, bindO_some, tupA]
    exact fin_pure rfl
  · have e2 : 255 < n := by omega
    simp only [decide_eq_false e, decide_eq_true e2, cond_false, cond_true, bindO_some, tupA]
    exact fin_pure rfl
theorem u8_nat {n : Int} (h : (Lit.int .u8 n).wf = true) : ∃ k : Nat, n = (k : Int) ∧ k < 256 := by
  have := bounds_u8 h
  exact ⟨n.toNat, by omega, by omega⟩
end Go.Proofs.Ytgbkicelkpagpaa.W

/- The rule's small functions. -/
open Go.Vm
set_option linter.unusedVariables false
namespace Go.Proofs.Ytgbkicelkpagpaa.W
open Go

/-- the bit of a rule -/
def nx (u t : Nat) : Nat := (u >>> t) % 2
theorem nx_le (u t : Nat) : nx u t ≤ 1 := by unfold nx; omega
theorem next_num : ∀ u, u < 256 → ∀ t, t < 8 → bitV .and .i64 (wr .i64 (shrV .u8 (Int.ofNat u) (Int.ofNat t))) 1 = Int.ofNat (nx u t) := by decide +kernel
theorem next_ok {ro : List ABlk} {h : Heap} {u t : Nat} (hu : u < 256) (ht : t < 8) : callX F1 ro 72 [.i .u8 u, .i .i64 t] h = some (.i .i64 (nx u t : Nat), h, h.length, h.length) := by
  refine g72_ok (meansX_ok F1 ro) rfl ?_
  unfold g72
  have e := next_num u hu t ht
  have e' : bitV .and .i64 (wr .i64 (shrV .u8 (u : Int) (t : Int))) 1 = ((nx u t : Nat) : Int) := e
  simp only [ltI_eq, nneg, chk_true, forceI_eq, e', tupA]
  exact fin_pure rfl
theorem has_num : ∀ s, s < 256 → ∀ t, t < 8 → eqI (bitV .and .u8 (shrV .u8 (Int.ofNat s) (Int.ofNat t)) 1) 1 = Nat.testBit s t := by decide +kernel
theorem has_ok {ro : List ABlk} {h : Heap} {s t : Nat} (hs : s < 256) (ht : t < 8) : callX F1 ro 76 [.i .u8 s, .i .i64 t] h = some (.b (s.testBit t), h, h.length, h.length) := by
  refine g76_ok (meansX_ok F1 ro) rfl ?_
  unfold g76
  have e := has_num s hs t ht
  have e' : eqI (bitV .and .u8 (shrV .u8 (s : Int) (t : Int)) 1) 1 = s.testBit t := e
  simp only [ltI_eq, nneg, chk_true, forceI_eq, e', forceB_eq, tupA]
  exact fin_pure rfl

theorem sm_num : ∀ t, t < 8 → shrV .i64 (Int.ofNat t) 1 = Int.ofNat (t / 2) ∧ bitV .and .i64 (Int.ofNat t) 3 = Int.ofNat (t % 4) := by decide +kernel
theorem p2_lt {k : Nat} (h : k < 8) : 2 ^ k < 256 := by
  have : 2 ^ k ≤ 2 ^ 7 := Nat.pow_le_pow_right (by omega) (by omega)
  omega
def beF (u s c i acc : Nat) : Nat := cond (s.testBit (i % 4) && Nat.beq (nx u i) c) (acc ||| 2 ^ (i / 2)) acc
def beV (u s c : Nat) : Nat := iterF (beF u s c) 8 0 0
theorem behind_ok {ro : List ABlk} {h : Heap} {u s c : Nat} (hu : u < 256) (hs : s < 256) : callX F1 ro 74 [.i .u8 u, .i .u8 s, .i .i64 c] h = some (.i .u8 (beV u s c : Nat), h, h.length, h.length) := by
  refine g74_ok (meansX_ok F1 ro) rfl ?_
  unfold g74
  have hl := loop_acc (b := fun z => g74_b0 (meansX F1 ro) ro u s c z.1 z.2.1 z.2.2) 8 (beF u s c) ⟨h, h.length, h.length⟩ (fun acc => acc < 256) (fun i acc hi hP => by
    obtain ⟨e1, e2⟩ := sm_num i hi
    have e1' : shrV .i64 (i : Int) 1 = ((i / 2 : Nat) : Int) := e1
    have e2' : bitV .and .i64 (i : Int) 3 = ((i % 4 : Nat) : Int) := e2
    have c1 := callM_pure (call := callX F1 ro) (l := h.length) (p := h.length) (has_ok (ro := ro) (h := h) hs (by omega : i % 4 < 8)) (Nat.le_refl _) (Nat.le_refl _)
    have c2 := callM_pure (call := callX F1 ro) (l := h.length) (p := h.length) (next_ok (ro := ro) (h := h) hu hi) (Nat.le_refl _) (Nat.le_refl _)
    have e3 : (((nx u i : Nat) : Int) == (c : Int)) = Nat.beq (nx u i) c := by
      cases hb : Nat.beq (nx u i) c
      · exact beq_eq_false_iff_ne.2 fun e => by
          have : Nat.beq (nx u i) c = true := beq_iff.2 (by omega)
          rw [this] at hb; cases hb
      · rw [beq_iff.1 hb]; simp
    have hl8 : decide ((i : Int) < 8) = true := by simp; omega
    have hor := bit_or hP (p2_lt (by omega : i / 2 < 8))
    have hlt := or_lt hP (p2_lt (by omega : i / 2 < 8))
    unfold beF
    cases hb : s.testBit (i % 4) with
    | false =>
      rw [hb] at c1
      refine ⟨?_, by simpa using hP⟩
      simp only [g74_b0, forceB_eq, ltI_eq, hl8, cond_true, e2', forceI_eq, meansX_call, c1, bindP_some, asB_b, cond_false, bindO_some, wr_next (by omega : i ≤ 1000000), Bool.false_and]
    | true =>
      rw [hb] at c1
      cases hn : Nat.beq (nx u i) c with
      | false =>
        rw [hn] at e3
        refine ⟨?_, by simpa using hP⟩
        simp only [g74_b0, forceB_eq, ltI_eq, hl8, cond_true, e2', forceI_eq, meansX_call, c1, c2, bindP_some, asB_b, asI_i, eqI_eq, e3, cond_false, bindO_some, wr_next (by omega : i ≤ 1000000), Bool.true_and]
      | true =>
        rw [hn] at e3
        refine ⟨?_, by simpa using hlt⟩
        simp only [g74_b0, forceB_eq, ltI_eq, hl8, cond_true, e1', e2', forceI_eq, meansX_call, c1, c2, bindP_some, asB_b, asI_i, eqI_eq, e3, nneg, chk_true, shl_any (by omega : i / 2 ≤ 7), hor, bindO_some, wr_next (by omega : i ≤ 1000000), Bool.true_and]) (fun acc => by
    have : decide ((8 : Int) < 8) = false := rfl
    show g74_b0 (meansX F1 ro) ro u s c acc 8 _ = _
    simp only [g74_b0, forceB_eq, ltI_eq, this, cond_false]) 8 0 0 (by omega) (by omega)
  have hl2 := hl.1
  have e0 : ((0 : Nat) : Int) = 0 := rfl
  rw [e0] at hl2
  simp only [meansX_loop, hl2, bindO_some, tupA]
  exact fin_pure rfl

/- sixteen bits -/
end Go.Proofs.Ytgbkicelkpagpaa.W

/- Tables: the orphan of each rule, and whether it is one to one; reckoned. -/
open Go.Vm
set_option linter.unusedVariables false
namespace Go.Proofs.Ytgbkicelkpagpaa.W
open Go

end Go.Proofs.Ytgbkicelkpagpaa.W

/- The reference's orphans, reckoned; Eden and Onto. -/
open Go.Vm
set_option linter.unusedVariables false
namespace Go.Proofs.Ytgbkicelkpagpaa.W
open Go

end Go.Proofs.Ytgbkicelkpagpaa.W

/- Rows of plots: what is read, and the errors. -/
open Go.Vm
set_option linter.unusedVariables false
namespace Go.Proofs.Ytgbkicelkpagpaa.W
open Go

/- strings -/
theorem e_len (w : List UInt8) : evP .e (.len true (.c (.s w))) = some (.i .i64 (w.length : Nat)) := by simp only [evP, ev_len, opd, cond_true, mkI, forceI_eq]
theorem e_eq (a b : List UInt8) : evP .e (.sbin BinOp.eql (.c (.s a)) (.c (.s b))) = some (.b (eqL a b)) := rfl
theorem e_neq (a b : List UInt8) : evP .e (.sbin BinOp.neq (.c (.s a)) (.c (.s b))) = some (.b (!eqL a b)) := rfl
theorem e_x0 (a b : AVal) : evP .e (.ext 0 (.c (.tup [a, b]))) = some a := rfl
theorem e_x1 (a b : AVal) : evP .e (.ext 1 (.c (.tup [a, b]))) = some b := rfl
theorem asS_s {β : Type} (x : List UInt8) (f : List UInt8 → Option β) : asS (.s x) f = f x := rfl
theorem eqL_self (a : List UInt8) : eqL a a = true := by rw [eqL_eq]; exact beq_self_eq_true a
theorem eqL_nil (a : List UInt8) : eqL a [] = a.isEmpty := by rw [eqL_eq]; cases a <;> rfl
theorem lget_at {α : Type} : ∀ (l : List α) (i : Nat) (d : α), i < l.length → lget l i = some (l.getD i d)
  | a :: l, 0, d, _ => rfl
  | a :: l, i + 1, d, h => by
    have := lget_at l i d (by simpa using h)
    simpa [lget] using this
/-- the letter at a place -/
def ch (s : List UInt8) (i : Nat) : Nat := (s.getD i 0).toNat
theorem ch_lt (s : List UInt8) (i : Nat) : ch s i < 256 := (s.getD i 0).toNat_lt
theorem e_ix {s : List UInt8} {i : Nat} (h : i < s.length) : evP .e (.ixStr (.c (.s s)) (.c (.i .i64 (i : Int)))) = some (.i .u8 (ch s i : Nat)) := by
  show (lget s i).map (fun c => mkI .u8 c.toNat) = _
  rw [lget_at s i 0 h]
  simp only [Option.map_some, mkI, forceI_eq]
  rfl

/-- is it a letter of a row? -/
def bad (s : List UInt8) (i : Nat) : Bool := !Nat.beq (ch s i) 48 && !Nat.beq (ch s i) 49
theorem num_eq (a b : Nat) : ((a : Int) == (b : Int)) = Nat.beq a b := by
  cases hb : Nat.beq a b
  · exact beq_eq_false_iff_ne.2 fun e => by
      have : Nat.beq a b = true := beq_iff.2 (by omega)
      rw [this] at hb; cases hb
  · rw [beq_iff.1 hb]; simp
/-- is there a letter that no row has? -/
def badR (s : List UInt8) : Bool := (List.range s.length).any (bad s)
def rowE (s : List UInt8) (most : Int) : Int := if most < (s.length : Int) then 3 else if s.isEmpty = true then 5 else if badR s = true then 5 else 0
theorem first_any {R : Type} {P : Nat → Bool} {k : Nat} {r : R} : firstS (fun i => cond (P i) (some r) none) k 0 = cond ((List.range k).any P) (some r) none := by
  have h := first_ex (R := R) (P := fun i => P i = true) (k := k) (r := r)
  have e : (fun i => cond (P i) (some r) none) = fun i => if P i = true then some r else none := by funext i; cases P i <;> rfl
  rw [e, h]
  cases hb : (List.range k).any P
  · rw [if_neg]; rfl
    rintro ⟨i, h1, h2⟩
    rw [← Bool.not_eq_true] at hb
    exact hb (List.any_eq_true.2 ⟨i, List.mem_range.2 h1, h2⟩)
  · rw [if_pos]; rfl
    obtain ⟨i, h1, h2⟩ := List.any_eq_true.1 hb
    exact ⟨i, List.mem_range.1 h1, h2⟩

theorem u8_num : ∀ n, n < 256 → wr .u8 (Int.ofNat n) = Int.ofNat n := by decide +kernel
theorem rule_ok {ro : List ABlk} {h : Heap} {n : Nat} (hn : n < 256) : callX F1 ro 61 [.i .i64 n] h = some (.tup [.i .u8 n, .i .i64 0], h, h.length, h.length) := by
  refine g61_ok (meansX_ok F1 ro) rfl ?_
  unfold g61
  have a1 : ¬ ((n : Int) < 0) := by omega
  have a2 : ¬ ((255 : Int) < (n : Int)) := by omega
  have a3 : wr .u8 (n : Int) = (n : Int) := u8_num n hn
  simp only [forceB_eq, ltI_eq, decide_eq_false a1, decide_eq_false a2, cond_false, bindO_some, forceI_eq, a3, tupA]
  exact fin_pure rfl
/-- the reference's errors of a rule and a row -/
def askE (n : Int) (s : List UInt8) (most : Int) : Int := if n < 0 ∨ 255 < n then 2 else rowE s most
/-- what read answers: the rule, or 0, and the error -/
def rdU (n : Int) (s : List UInt8) : Int := if askE n s 400 = 0 then n else 0
theorem read_ok {ro : List ABlk} {h : Heap} {n : Int} {s : List UInt8} : callX F1 ro 45 [.i .i64 n, .s s] h = some (.tup [.i .u8 (rdU n s), .i .i64 (askE n s 400)], h, h.length, h.length) := by
  refine g45_ok (meansX_ok F1 ro) rfl ?_
  unfold g45
  have z0 : ((0 : Int) == 0) = true := rfl
  have z2 : ((2 : Int) == 0) = false := rfl
  by_cases hn : n < 0 ∨ 255 < n
  · have c1 := callM_pure (call := callX F1 ro) (l := h.length) (p := h.length) (read_not (ro := ro) (h := h) hn) (Nat.le_refl _) (Nat.le_refl _)
    have ha : askE n s 400 = 2 := if_pos hn
    have hu : rdU n s = 0 := if_neg (by rw [ha]; omega)
    simp only [meansX_call, c1, bindP_some, e_x0, e_x1, bindO_some, asI_i, eqI_eq, z2, forceB_eq, Bool.not_false, cond_true, ha, hu, tupA]
    exact fin_pure rfl
  · obtain ⟨k, rfl⟩ : ∃ k : Nat, n = (k : Int) := ⟨n.toNat, by omega⟩
    have c1 := callM_pure (call := callX F1 ro) (l := h.length) (p := h.length) (rule_ok (ro := ro) (h := h) (by omega : k < 256)) (Nat.le_refl _) (Nat.le_refl _)
    have ha : askE k s 400 = rowE s 400 := if_neg hn
    unfold rdU
    rw [ha]
    unfold rowE
    simp only [meansX_call, c1, bindP_some, e_x0, e_x1, bindO_some, asI_i, asB_b, eqI_eq, z0, forceB_eq, Bool.not_true, cond_false, e_len, ltI_eq, e_eq, eqL_nil]
    by_cases h1 : (400 : Int) < (s.length : Int)
    · simp only [decide_eq_true h1, cond_true, if_pos h1, tupA, (by decide : ¬ ((3 : Int) = 0)), if_false]
      exact fin_pure rfl
    · simp only [decide_eq_false h1, cond_false, if_neg h1]
      cases he : s.isEmpty
      · simp only [cond_false, Bool.false_eq_true, if_false]
        have hl := loop_first (R := Int × Int) (b := fun z => g45_b0 (meansX F1 ro) ro s k s.length ⟨h, h.length, h.length⟩ z) s.length (fun i => cond (bad s i) (some (0, 5)) none) (by
          have : ¬ ((s.length : Int) < (s.length : Int)) := by omega
          simp only [g45_b0, bindO_some, ltI_eq, forceB_eq, decide_eq_false this, cond_false]) (fun i hi => by
          have hlt : ((i : Int) < (s.length : Int)) := by omega
          have e1' : (((ch s i : Nat) : Int) == 48) = Nat.beq (ch s i) 48 := num_eq (ch s i) 48
          have e2' : (((ch s i : Nat) : Int) == 49) = Nat.beq (ch s i) 49 := num_eq (ch s i) 49
          simp only [g45_b0, bindO_some, asI_i, ltI_eq, forceB_eq, decide_eq_true hlt, cond_true, e_ix hi, eqI_eq, e1', e2', bad, forceI_eq, wr_next (by omega : i ≤ 1000000)]
          cases Nat.beq (ch s i) 48 <;> cases Nat.beq (ch s i) 49 <;> rfl) s.length 0 (by omega)
        rw [first_any] at hl
        have e00 : ((0 : Nat) : Int) = 0 := rfl
        rw [e00] at hl
        simp only [meansX_loop, hl, bindO_some]
        unfold badR
        cases (List.range s.length).any (bad s)
        · simp only [cond_false, outS, Bool.false_eq_true, if_false, if_true, tupA]
          exact fin_pure rfl
        · simp only [cond_true, outS, if_true, tupA, (by decide : ¬ ((5 : Int) = 0)), if_false]
          exact fin_pure rfl
      · simp only [cond_true, if_true, tupA, (by decide : ¬ ((5 : Int) = 0)), if_false]
        exact fin_pure rfl
end Go.Proofs.Ytgbkicelkpagpaa.W

/- Walks and Ways. -/
open Go.Vm
set_option linter.unusedVariables false
namespace Go.Proofs.Ytgbkicelkpagpaa.W
open Go

/- four numbers in memory -/
def agg4 (f : Nat → Nat) : AVal := .agg [.i .i64 (f 0 : Nat), .i .i64 (f 1 : Nat), .i .i64 (f 2 : Nat), .i .i64 (f 3 : Nat)]
abbrev V4 (hp : Heap) (b : Nat) (f : Nat → Nat) : Prop := Vec hp 63 b 4 (fun j => .i .i64 (f j : Nat))
theorem V4.ld4 {ro : List ABlk} {hp : Heap} {b : Nat} {f : Nat → Nat} (h : V4 hp b f) {l p : Nat} : ldM ro ⟨hp, l, p⟩ false 4 (.p (some ⟨false, b, 0⟩)) = some (agg4 f) := by
  obtain ⟨blk, h1, h2, h3, h4⟩ := h
  have hb : Nat.ble (0 + 4) blk.n = true := by rw [Nat.ble_eq]; omega
  simp only [ldM, rd, rdB_heap h1, cond_false, hb, cond_true]
  show some (AVal.agg [blk.c.get 0, blk.c.get 1, blk.c.get 2, blk.c.get 3]) = _
  rw [h4 0 (by omega), h4 1 (by omega), h4 2 (by omega), h4 3 (by omega)]
  rfl
theorem V4.st4 {ro : List ABlk} {hp : Heap} {b : Nat} {g : Nat → AVal} (h : Vec hp 63 b 4 g) (f : Nat → Nat) {l p : Nat} :
    ∃ y, stepM ro ⟨hp, l, p⟩ (.st 4 (.c (.p (some ⟨false, b, 0⟩))) (.c (agg4 f))) = some (und, ⟨hp.set b y, min l b, p⟩) ∧ V4 (hp.set b y) b f := by
  obtain ⟨blk, h1, h2, h3, h4⟩ := h
  refine ⟨some { blk with c := blk.c.splice 0 [.i .i64 (f 0 : Nat), .i .i64 (f 1 : Nat), .i .i64 (f 2 : Nat), .i .i64 (f 3 : Nat)] }, ?_, { blk with c := blk.c.splice 0 [.i .i64 (f 0 : Nat), .i .i64 (f 1 : Nat), .i .i64 (f 2 : Nat), .i .i64 (f 3 : Nat)] }, lget_set h1 _, h2, h3, fun r hr => ?_⟩
  · have hb : Nat.ble 4 blk.n = true := by rw [Nat.ble_eq]; omega
    have ho : (Nat.ble 4 blk.n && ones [AVal.i .i64 (f 0 : Nat), .i .i64 (f 1 : Nat), .i .i64 (f 2 : Nat), .i .i64 (f 3 : Nat)]) = true := by rw [hb]; rfl
    simp only [stepM, stepK, opd, agg4, AVal.cells, st_st, List.length_cons, List.length_nil, Nat.zero_add, wrH, cond_false, h1]
    simp only [show Nat.beq (0 + 1 + 1 + 1 + 1) 4 = true from rfl, cond_true, ho, lset_eq, St.mm]
    rfl
  · show ((((blk.c.set 0 (.i .i64 (f 0 : Nat))).set 1 (.i .i64 (f 1 : Nat))).set 2 (.i .i64 (f 2 : Nat))).set 3 (.i .i64 (f 3 : Nat))).get r = _
    rw [get_set, get_set, get_set, get_set]
    have : r = 0 ∨ r = 1 ∨ r = 2 ∨ r = 3 := by omega
    rcases this with rfl | rfl | rfl | rfl <;> simp
theorem blk4 (hp : Heap) (f : Nat → Nat) : V4 (hp ++ [some (blkOf 63 [.i .i64 (f 0 : Nat), .i .i64 (f 1 : Nat), .i .i64 (f 2 : Nat), .i .i64 (f 3 : Nat)])]) hp.length f :=
  ⟨_, lget_last _ _, rfl, Nat.le_refl 4, fun r hr => by
    rw [get_blk]
    have : r = 0 ∨ r = 1 ∨ r = 2 ∨ r = 3 := by omega
    rcases this with rfl | rfl | rfl | rfl <;> rfl⟩
theorem bx4 {ro : List ABlk} {hp : Heap} {l p : Nat} (f : Nat → Nat) :
    stepM ro ⟨hp, l, p⟩ (.bx 63 4 (.c (agg4 f))) = some (.p (some ⟨false, hp.length, 0⟩), ⟨hp ++ [some (blkOf 63 [.i .i64 (f 0 : Nat), .i .i64 (f 1 : Nat), .i .i64 (f 2 : Nat), .i .i64 (f 3 : Nat)])], l, p⟩) := rfl
theorem al4 {ro : List ABlk} {hp : Heap} {l p : Nat} :
    stepM ro ⟨hp, l, p⟩ (.al 63 [(AVal.i IntKind.i64 0), (AVal.i IntKind.i64 0), (AVal.i IntKind.i64 0), (AVal.i IntKind.i64 0)]) = some (.p (some ⟨false, hp.length, 0⟩), ⟨hp ++ [some (blkOf 63 [(AVal.i IntKind.i64 0), (AVal.i IntKind.i64 0), (AVal.i IntKind.i64 0), (AVal.i IntKind.i64 0)])], l, p⟩) := rfl
theorem blk4_0 (hp : Heap) : V4 (hp ++ [some (blkOf 63 [(AVal.i IntKind.i64 0), (AVal.i IntKind.i64 0), (AVal.i IntKind.i64 0), (AVal.i IntKind.i64 0)])]) hp.length (fun _ => 0) := blk4 hp (fun _ => 0)
theorem ixA4 {b i : Nat} (hi : i < 4) : evP .e (.ixA 4 1 (.c (.p (some ⟨false, b, 0⟩))) (.c (.i .i64 (i : Int)))) = some (.p (some ⟨false, b, 0 + i⟩)) := by
  have : Nat.blt i 4 = true := by rw [Nat.blt_eq]; exact hi
  have e : ((i : Int)) = Int.ofNat i := rfl
  simp only [evP, ev_ixA, opd, e, atI, this, cond_true, Nat.mul_one]

/- the letter as a number -/
def bw (s : List UInt8) (i : Nat) : Nat := ch s i - 48
theorem bit_num : ∀ c, c < 256 → 48 ≤ c → wr .i64 (wr .u8 (Int.ofNat c - 48)) = Int.ofNat (c - 48) := by decide +kernel
theorem bit_ok {ro : List ABlk} {h : Heap} {c : Nat} (hc : c < 256) (h48 : 48 ≤ c) : callX F1 ro 73 [.i .u8 c] h = some (.i .i64 (c - 48 : Nat), h, h.length, h.length) := by
  refine g73_ok (meansX_ok F1 ro) rfl ?_
  unfold g73
  have e : wr .i64 (wr .u8 ((c : Int) - 48)) = ((c - 48 : Nat) : Int) := bit_num c hc h48
  simp only [forceI_eq, e, tupA]
  exact fin_pure rfl

/- one letter more: how many walks end in each pair -/
def st1 (u c : Nat) (at' to : Nat → Nat) (t : Nat) : Nat → Nat := if nx u t = c then fun j => if j = t % 4 then to j + at' (t / 2) else to j else to
def stp (u c : Nat) (at' : Nat → Nat) : Nat → Nat → Nat
  | 0 => fun _ => 0
  | k + 1 => st1 u c at' (stp u c at' k) k
def nxt (u c : Nat) (at' : Nat → Nat) : Nat → Nat := stp u c at' 8
def wkN (u : Nat) (s : List UInt8) (from' : Nat → Nat) : Nat → Nat → Nat
  | 0 => from'
  | k + 1 => nxt u (bw s k) (wkN u s from' k)
theorem stp_le {u c X : Nat} {at' : Nat → Nat} (h : ∀ j, j < 4 → at' j ≤ X) : ∀ k, k ≤ 8 → ∀ j, j < 4 → stp u c at' k j ≤ (k + 3 - j) / 4 * X
  | 0, _, j, _ => Nat.zero_le _
  | k + 1, hk, j, hj => by
    have ih := stp_le (u := u) (c := c) h k (by omega) j hj
    have ha := h (k / 2) (by omega)
    have hm : (k + 3 - j) / 4 * X ≤ (k + 1 + 3 - j) / 4 * X := Nat.mul_le_mul_right _ (Nat.div_le_div_right (by omega))
    show st1 u c at' (stp u c at' k) k j ≤ _
    unfold st1
    by_cases e : nx u k = c
    · rw [if_pos e]
      show (if j = k % 4 then _ else _) ≤ _
      by_cases e2 : j = k % 4
      · rw [if_pos e2]
        have : (k + 1 + 3 - j) / 4 = (k + 3 - j) / 4 + 1 := by omega
        rw [this, Nat.add_mul, Nat.one_mul]
        omega
      · rw [if_neg e2]; omega
    · rw [if_neg e]; omega
theorem nxt_le {u c X : Nat} {at' : Nat → Nat} (h : ∀ j, j < 4 → at' j ≤ X) {j : Nat} (hj : j < 4) : nxt u c at' j ≤ 2 * X := by
  have := stp_le (u := u) (c := c) h 8 (Nat.le_refl _) j hj
  have e : (8 + 3 - j) / 4 = 2 := by omega
  rw [e] at this
  exact this
theorem wkN_le {u : Nat} {s : List UInt8} {from' : Nat → Nat} (h : ∀ j, j < 4 → from' j ≤ 1) : ∀ i j, j < 4 → wkN u s from' i j ≤ 2 ^ i
  | 0, j, hj => h j hj
  | i + 1, j, hj => by
    have := nxt_le (u := u) (c := bw s i) (at' := wkN u s from' i) (X := 2 ^ i) (fun j hj => wkN_le h i j hj) hj
    have e : 2 ^ (i + 1) = 2 * 2 ^ i := by rw [Nat.pow_succ]; omega
    rw [e]; exact this

def okR (s : List UInt8) : Prop := ∀ i, i < s.length → ch s i = 48 ∨ ch s i = 49
theorem inner_ok {ro : List ABlk} {h hp : Heap} {u b7 b9 i : Nat} {s : List UInt8} {at' : Nat → Nat} {v6 : AVal} {x13 : Int} (hu : u < 256) (hi : i < s.length) (hs : okR s) (hL : h.length ≤ hp.length) (h7 : V4 hp b7 at') (h9 : V4 hp b9 (fun _ => 0)) (hne : b7 ≠ b9)
    (h9L : h.length ≤ b9) (hX : ∀ j, j < 4 → at' j ≤ 1125899906842624) :
    ∃ hp', loopX (fun z => g57_b1 (meansX F1 ro) ro u s v6 (.p (some ⟨false, b7, 0⟩)) i (.p (some ⟨false, b9, 0⟩)) x13 z.1 z.2) (0, ⟨hp, h.length, h.length⟩) = some ⟨hp', h.length, h.length⟩ ∧ V4 hp' b9 (nxt u (bw s i) at') ∧ hp'.length = hp.length ∧ ∀ k, k ≠ b9 → hp'[k]? = hp[k]? := by
  have key := loop_all (b := fun z => g57_b1 (meansX F1 ro) ro u s v6 (.p (some ⟨false, b7, 0⟩)) i (.p (some ⟨false, b9, 0⟩)) x13 z.1 z.2) 8
    (fun k m => ∃ hp', m = ⟨hp', h.length, h.length⟩ ∧ V4 hp' b9 (stp u (bw s i) at' k) ∧ hp'.length = hp.length ∧ ∀ k, k ≠ b9 → hp'[k]? = hp[k]?)
    (fun k m hk hI => by
      obtain ⟨hp', rfl, hv, hl, hkeep⟩ := hI
      have hv7 : V4 hp' b7 at' := h7.keep (hkeep b7 hne)
      have hk8 : ((k : Int) < 8) := by omega
      have hc48 : 48 ≤ ch s i := by rcases hs i hi with e | e <;> omega
      have c1 := callM_pure (call := callX F1 ro) (l := h.length) (p := h.length) (next_ok (ro := ro) (h := hp') hu hk) (by omega) (by omega)
      have c2 := callM_pure (call := callX F1 ro) (l := h.length) (p := h.length) (bit_ok (ro := ro) (h := hp') (ch_lt s i) hc48) (by omega) (by omega)
      obtain ⟨e1, e2⟩ := sm_num k hk
      have e1' : shrV .i64 (k : Int) 1 = ((k / 2 : Nat) : Int) := e1
      have e2' : bitV .and .i64 (k : Int) 3 = ((k % 4 : Nat) : Int) := e2
      have hsum : stp u (bw s i) at' k (k % 4) + at' (k / 2) ≤ 9007199254740992 := by
        have a1 := stp_le (u := u) (c := bw s i) hX k (by omega) (k % 4) (by omega)
        have a2 := hX (k / 2) (by omega)
        have a3 : (k + 3 - k % 4) / 4 * 1125899906842624 ≤ 2 * 1125899906842624 := Nat.mul_le_mul_right _ (by omega)
        omega
      have ew : wr .i64 (((stp u (bw s i) at' k (k % 4) : Nat) : Int) + ((at' (k / 2) : Nat) : Int)) = ((stp u (bw s i) at' k (k % 4) + at' (k / 2) : Nat) : Int) := by rw [wr_id' (by omega) (by omega)]; omega
      have hcmp := num_eq (nx u k) (ch s i - 48)
      cases hb : Nat.beq (nx u k) (ch s i - 48)
      · rw [hb] at hcmp
        refine ⟨⟨hp', h.length, h.length⟩, ?_, hp', rfl, ?_, hl, hkeep⟩
        · simp only [g57_b1, forceB_eq, ltI_eq, decide_eq_true hk8, cond_true, e_ix hi, bindO_some, asI_i, meansX_call, c1, c2, bindP_some, eqI_eq, hcmp, cond_false, forceI_eq, wr_next (by omega : k ≤ 1000000)]
        · show V4 hp' b9 (st1 u (bw s i) at' (stp u (bw s i) at' k) k)
          unfold st1
          rw [if_neg (fun e => by rw [show nx u k = ch s i - 48 from e, Nat.beq_refl] at hb; cases hb)]
          exact hv
      · rw [hb] at hcmp
        obtain ⟨y, g1, g2⟩ := Vec.wr (ro := ro) (l := h.length) (p := h.length) hv (r := k % 4) (by omega) (v := .i .i64 ((stp u (bw s i) at' k (k % 4) + at' (k / 2) : Nat) : Int)) rfl rfl
        refine ⟨⟨hp'.set b9 y, h.length, h.length⟩, ?_, _, rfl, ?_, by simp [hl], fun k' hk' => by rw [List.getElem?_set_ne (Ne.symm hk')]; exact hkeep k' hk'⟩
        · have l9 := Vec.lda (ro := ro) hv (i := k % 4) (by omega)
          have l7 := Vec.lda (ro := ro) hv7 (i := k / 2) (by omega)
          rw [Nat.min_eq_left h9L] at g1
          simp only [g57_b1, forceB_eq, ltI_eq, decide_eq_true hk8, cond_true, e_ix hi, bindO_some, asI_i, meansX_call, c1, c2, bindP_some, eqI_eq, hcmp, forceI_eq, e1', e2', ixA4 (by omega : k % 4 < 4), ixA4 (by omega : k / 2 < 4), l9, l7, ew, asP_p, AVal.cells, g1, wr_next (by omega : k ≤ 1000000)]
        · refine g2.congr fun r hr => ?_
          show _ = AVal.i .i64 ((st1 u (bw s i) at' (stp u (bw s i) at' k) k r : Nat) : Int)
          unfold st1
          rw [if_pos (beq_iff.1 hb : nx u k = bw s i)]
          show _ = AVal.i .i64 (((if r = k % 4 then _ else _ : Nat)) : Int)
          by_cases e : r = k % 4
          · rw [if_pos e, if_pos e, e]
          · rw [if_neg e, if_neg e])
    (fun m hI => by
      have : decide ((8 : Int) < 8) = false := rfl
      show g57_b1 (meansX F1 ro) ro u s v6 (.p (some ⟨false, b7, 0⟩)) i (.p (some ⟨false, b9, 0⟩)) x13 8 m = _
      simp only [g57_b1, forceB_eq, ltI_eq, this, cond_false])
    8 0 ⟨hp, h.length, h.length⟩ rfl ⟨hp, rfl, h9, rfl, fun _ _ => rfl⟩
  obtain ⟨m', h1, hp', rfl, h2, h3, h4⟩ := key
  exact ⟨hp', h1, h2, h3, h4⟩
end Go.Proofs.Ytgbkicelkpagpaa.W

/- Walks, Ways: what they answer. -/
open Go.Vm
set_option linter.unusedVariables false
namespace Go.Proofs.Ytgbkicelkpagpaa.W
open Go

theorem pow50 {i : Nat} (h : i ≤ 50) : 2 ^ i ≤ 1125899906842624 := Nat.le_trans (Nat.pow_le_pow_right (by omega) h) (by decide)
theorem len_app (hp : Heap) (x : Option ABlk) : (hp ++ [x]).length = hp.length + 1 := by simp
theorem get_app {hp : Heap} {x : Option ABlk} {k : Nat} (h : k < hp.length) : (hp ++ [x])[k]? = hp[k]? := List.getElem?_append_left h
theorem walks_ok {ro : List ABlk} {h : Heap} {u : Nat} {s : List UInt8} {f : Nat → Nat} (hu : u < 256) (hs : okR s) (hl : s.length ≤ 50) (hf : ∀ j, j < 4 → f j ≤ 1) :
    callX F1 ro 57 [.i .u8 u, .s s, agg4 f] h = some (agg4 (wkN u s f s.length), h, h.length, h.length) := by
  refine g57_ok (meansX_ok F1 ro) rfl ?_
  unfold g57
  -- the three blocks
  have hp1 : V4 _ h.length f := blk4 h f
  have hb1 := bx4 (ro := ro) (hp := h) (l := h.length) (p := h.length) f
  generalize hB1 : h ++ [some (blkOf 63 [.i .i64 (f 0 : Nat), .i .i64 (f 1 : Nat), .i .i64 (f 2 : Nat), .i .i64 (f 3 : Nat)])] = H1 at hp1 hb1
  have hL1 : H1.length = h.length + 1 := by rw [← hB1]; exact len_app _ _
  have hK1 : ∀ k, k < h.length → H1[k]? = h[k]? := fun k hk => by rw [← hB1]; exact get_app hk
  have hb2 := al4 (ro := ro) (hp := H1) (l := h.length) (p := h.length)
  have hp2 := blk4_0 H1
  generalize hB2 : H1 ++ [some (blkOf 63 [(AVal.i IntKind.i64 0), (AVal.i IntKind.i64 0), (AVal.i IntKind.i64 0), (AVal.i IntKind.i64 0)])] = H2 at hb2 hp2
  have hL2 : H2.length = h.length + 2 := by rw [← hB2, len_app]; omega
  have hK2 : ∀ k, k < h.length + 1 → H2[k]? = H1[k]? := fun k hk => by rw [← hB2]; exact get_app (by omega)
  have hp1' : V4 H2 h.length f := hp1.keep (hK2 _ (by omega))
  have hb3 := al4 (ro := ro) (hp := H2) (l := h.length) (p := h.length)
  have hp3 := blk4_0 H2
  generalize hB3 : H2 ++ [some (blkOf 63 [(AVal.i IntKind.i64 0), (AVal.i IntKind.i64 0), (AVal.i IntKind.i64 0), (AVal.i IntKind.i64 0)])] = H3 at hb3 hp3
  have hL3 : H3.length = h.length + 3 := by rw [← hB3, len_app]; omega
  have hK3 : ∀ k, k < h.length + 2 → H3[k]? = H2[k]? := fun k hk => by rw [← hB3]; exact get_app (by omega)
  have hp2' : V4 H3 H1.length (fun _ => 0) := hp2.keep (hK3 _ (by omega))
  obtain ⟨y, hst, hp4⟩ := V4.st4 (ro := ro) (l := h.length) (p := h.length) hp3 f
  rw [Nat.min_eq_left (by omega)] at hst
  have hK4 : ∀ k, k ≠ H2.length → (H3.set H2.length y)[k]? = H3[k]? := fun k hk => List.getElem?_set_ne (Ne.symm hk)
  have hp2'' : V4 (H3.set H2.length y) H1.length (fun _ => 0) := hp2'.keep (hK4 _ (by omega))
  have hL4 : (H3.set H2.length y).length = h.length + 3 := by rw [List.length_set]; exact hL3
  have hkeep4 : ∀ k, k < h.length → (H3.set H2.length y)[k]? = h[k]? := fun k hk => by rw [hK4 k (by omega), hK3 k (by omega), hK2 k (by omega), hK1 k hk]
  have key := loop_all (b := fun z => g57_b0 (meansX F1 ro) ro u s (.p (some ⟨false, H1.length, 0⟩)) (.p (some ⟨false, H2.length, 0⟩)) s.length z.1 z.2) s.length
    (fun k m => ∃ hp', m = ⟨hp', h.length, h.length⟩ ∧ V4 hp' H2.length (wkN u s f k) ∧ V4 hp' H1.length (fun _ => 0) ∧ h.length + 3 ≤ hp'.length ∧ ∀ k, k < h.length → hp'[k]? = h[k]?)
    (fun k m hk hI => by
      obtain ⟨hp', rfl, hv7, hv6, hlen, hkeep⟩ := hI
      have hkl : ((k : Int) < (s.length : Int)) := by omega
      have ha := al4 (ro := ro) (hp := hp') (l := h.length) (p := h.length)
      have h9 := blk4_0 hp'
      generalize hBn : hp' ++ [some (blkOf 63 [(AVal.i IntKind.i64 0), (AVal.i IntKind.i64 0), (AVal.i IntKind.i64 0), (AVal.i IntKind.i64 0)])] = Hn at ha h9
      have hLn : Hn.length = hp'.length + 1 := by rw [← hBn]; exact len_app _ _
      have hKn : ∀ k, k < hp'.length → Hn[k]? = hp'[k]? := fun k hk => by rw [← hBn]; exact get_app hk
      obtain ⟨hq, q1, q2, q3, q4⟩ := inner_ok (ro := ro) (h := h) (v6 := .p (some ⟨false, H1.length, 0⟩)) (x13 := s.length) hu hk hs (by omega) (hv7.keep (hKn _ (by omega))) h9 (by omega) (by omega)
        (fun j hj => Nat.le_trans (wkN_le hf k j hj) (pow50 (by omega)))
      obtain ⟨y2, s1, s2⟩ := V4.st4 (ro := ro) (l := h.length) (p := h.length) (hv7.keep (by rw [q4 _ (by omega), hKn _ (by omega)]) : V4 hq H2.length _) (nxt u (bw s k) (wkN u s f k))
      rw [Nat.min_eq_left (by omega)] at s1
      have l9 := V4.ld4 (ro := ro) (l := h.length) (p := h.length) q2
      refine ⟨⟨hq.set H2.length y2, h.length, h.length⟩, ?_, _, rfl, s2, hv6.keep ?_, by rw [List.length_set]; omega, fun j hj => ?_⟩
      · simp only [g57_b0, forceB_eq, ltI_eq, decide_eq_true hkl, cond_true, ha, bindP_some, meansX_loop, q1, bindO_some, l9, s1, forceI_eq, wr_next (by omega : k ≤ 1000000)]
      · rw [List.getElem?_set_ne (by omega), q4 _ (by omega), hKn _ (by omega)]
      · rw [List.getElem?_set_ne (by omega), q4 _ (by omega), hKn _ (by omega), hkeep j hj])
    (fun m hI => by
      have : decide ((s.length : Int) < (s.length : Int)) = false := lt_no
      show g57_b0 (meansX F1 ro) ro u s (.p (some ⟨false, H1.length, 0⟩)) (.p (some ⟨false, H2.length, 0⟩)) s.length s.length m = _
      simp only [g57_b0, forceB_eq, ltI_eq, this, cond_false])
    s.length 0 ⟨H3.set H2.length y, h.length, h.length⟩ (by omega) ⟨_, rfl, hp4, hp2'', by omega, hkeep4⟩
  obtain ⟨m', k1, hq, rfl, k2, k3, k4, k5⟩ := key
  have e0 : ((0 : Nat) : Int) = 0 := rfl
  rw [e0] at k1
  obtain ⟨y3, t1, t2⟩ := V4.st4 (ro := ro) (l := h.length) (p := h.length) k3 (wkN u s f s.length)
  rw [Nat.min_eq_left (by omega)] at t1
  have lf := V4.ld4 (ro := ro) (l := h.length) (p := h.length) k2
  have lr := V4.ld4 (ro := ro) (l := h.length) (p := h.length) t2
  have l5 := V4.ld4 (ro := ro) (l := h.length) (p := h.length) hp1'
  simp only [hb1, bindP_some, hb2, l5, bindO_some, hb3, hst, e_len, asI_i, meansX_loop, k1, lf, t1, lr, tupA]
  rw [fin_take (by rfl)]
  have : (hq.set H1.length y3).take h.length = h := by
    apply List.ext_getElem?
    intro j
    rw [List.getElem?_take]
    by_cases hj : j < h.length
    · rw [if_pos hj, List.getElem?_set_ne (by omega), k5 j hj]
    · rw [if_neg hj, List.getElem?_eq_none (by omega)]
  rw [this]

/- the errors of a row whose ways are counted -/
def shE (n : Int) (s : List UInt8) : Int := if askE n s 400 = 0 ∧ 50 < s.length then 2 else askE n s 400
def shU (n : Int) (s : List UInt8) : Int := if askE n s 400 = 0 ∧ 50 < s.length then 0 else rdU n s
theorem short_ok {ro : List ABlk} {h : Heap} {n : Int} {s : List UInt8} : callX F1 ro 56 [.i .i64 n, .s s] h = some (.tup [.i .u8 (shU n s), .i .i64 (shE n s)], h, h.length, h.length) := by
  refine g56_ok (meansX_ok F1 ro) rfl ?_
  unfold g56
  have c1 := callM_pure (call := callX F1 ro) (l := h.length) (p := h.length) (read_ok (ro := ro) (h := h) (n := n) (s := s)) (Nat.le_refl _) (Nat.le_refl _)
  unfold shE shU
  simp only [meansX_call, c1, bindP_some, e_x0, e_x1, bindO_some, asI_i, eqI_eq, forceB_eq, e_len, ltI_eq]
  by_cases h1 : askE n s 400 = 0
  · have b1 : (askE n s 400 == 0) = true := by rw [h1]; rfl
    by_cases h2 : 50 < s.length
    · have h2' : ((50 : Int) < (s.length : Int)) := by omega
      simp only [b1, cond_true, decide_eq_true h2', bindO_some, if_pos (And.intro h1 h2), tupA]
      exact fin_pure rfl
    · have h2' : ¬ ((50 : Int) < (s.length : Int)) := by omega
      have hn : ¬ (askE n s 400 = 0 ∧ 50 < s.length) := fun hh => h2 hh.2
      simp only [b1, cond_true, decide_eq_false h2', bindO_some, cond_false, if_neg hn, tupA]
      exact fin_pure rfl
  · have b1 : (askE n s 400 == 0) = false := beq_eq_false_iff_ne.2 h1
    have hn : ¬ (askE n s 400 = 0 ∧ 50 < s.length) := fun hh => h1 hh.1
    simp only [b1, cond_false, bindO_some, if_neg hn, tupA]
    exact fin_pure rfl
/-- a row without errors is one -/
theorem okR_of {n : Int} {s : List UInt8} {most : Int} (h : askE n s most = 0) : 0 ≤ n ∧ n ≤ 255 ∧ s.length ≤ most ∧ 0 < s.length ∧ okR s := by
  unfold askE at h
  by_cases hn : n < 0 ∨ 255 < n
  · rw [if_pos hn] at h; cases h
  · rw [if_neg hn] at h
    unfold rowE at h
    by_cases h1 : most < (s.length : Int)
    · rw [if_pos h1] at h; cases h
    · rw [if_neg h1] at h
      cases he : s.isEmpty with
      | true => rw [he, if_pos rfl] at h; cases h
      | false =>
        rw [he, if_neg (by decide)] at h
        cases hb : badR s with
        | true => rw [hb, if_pos rfl] at h; cases h
        | false =>
          refine ⟨by omega, by omega, by omega, ?_, fun i hi => ?_⟩
          · cases s with
            | nil => cases he
            | cons a l => simp
          · have := List.any_eq_false.1 hb i (List.mem_range.2 hi)
            unfold bad at this
            cases e1 : Nat.beq (ch s i) 48
            · cases e2 : Nat.beq (ch s i) 49
              · rw [e1, e2] at this; exact absurd rfl this
              · exact .inr (beq_iff.1 e2)
            · exact .inl (beq_iff.1 e1)

def waysV (u : Nat) (s : List UInt8) : Nat := wkN u s (fun _ => 1) s.length 0 + wkN u s (fun _ => 1) s.length 1 + wkN u s (fun _ => 1) s.length 2 + wkN u s (fun _ => 1) s.length 3
def wysV (n : Int) (s : List UInt8) : Int := if shE n s = 0 then (waysV n.toNat s : Nat) else 0
theorem ways_ok {ro : List ABlk} {h : Heap} {n : Int} {s : List UInt8} : callX F1 ro 22 [.i .i64 n, .s s] h = some (.tup [.i .i64 (wysV n s), .i .i64 (shE n s)], h, h.length, h.length) := by
  refine g22_ok (meansX_ok F1 ro) rfl ?_
  unfold g22
  have c1 := callM_pure (call := callX F1 ro) (l := h.length) (p := h.length) (short_ok (ro := ro) (h := h) (n := n) (s := s)) (Nat.le_refl _) (Nat.le_refl _)
  unfold wysV
  simp only [meansX_call, c1, bindP_some, e_x0, e_x1, bindO_some, asI_i, eqI_eq, forceB_eq]
  by_cases h1 : shE n s = 0
  · have b1 : (shE n s == 0) = true := by rw [h1]; rfl
    have hno : ¬ (askE n s 400 = 0 ∧ 50 < s.length) := fun hh => by
      rw [shE, if_pos hh] at h1; cases h1
    have hask : askE n s 400 = 0 := by rw [shE, if_neg hno] at h1; exact h1
    obtain ⟨p1, p2, p3, p4, p5⟩ := okR_of hask
    have h50 : s.length ≤ 50 := by
      rcases Nat.lt_or_ge 50 s.length with hh | hh
      · exact absurd ⟨hask, hh⟩ hno
      · exact hh
    obtain ⟨k, rfl⟩ : ∃ k : Nat, n = (k : Int) := ⟨n.toNat, by omega⟩
    have hU : shU k s = (k : Int) := by rw [shU, if_neg hno, rdU, if_pos hask]
    have cw := callM_pure (call := callX F1 ro) (l := h.length) (p := h.length) (walks_ok (ro := ro) (h := h) (f := fun _ => 1) (by omega : k < 256) p5 h50 (fun _ _ => Nat.le_refl 1)) (Nat.le_refl _) (Nat.le_refl _)
    have ef : ((fillA [(AVal.i IntKind.i64 0), (AVal.i IntKind.i64 0), (AVal.i IntKind.i64 0), (AVal.i IntKind.i64 0)] [((0, 1), (.i .i64 1)), ((1, 1), (.i .i64 1)), ((2, 1), (.i .i64 1)), ((3, 1), (.i .i64 1))]).map AVal.agg) = some (agg4 fun _ => 1) := fill4 1 1 1 1
    have hW : ∀ j, j < 4 → wkN k s (fun _ => 1) s.length j ≤ 1125899906842624 := fun j hj => Nat.le_trans (wkN_le (fun _ _ => Nat.le_refl 1) _ j hj) (pow50 h50)
    simp only [b1, Bool.not_true, cond_false, hU, ef, bindO_some, cw, bindP_some]
    generalize hg : wkN k s (fun _ => 1) s.length = g at *
    have w0 := hW 0 (by omega)
    have w1 := hW 1 (by omega)
    have w2 := hW 2 (by omega)
    have w3 := hW 3 (by omega)
    have lp : loopX (fun z : Int × Int => g22_b0 (meansX F1 ro) ro (agg4 g) ⟨h, h.length, h.length⟩ z.1 z.2) (0, 0) = some (((g 0 + g 1 + g 2 + g 3 : Nat)) : Int) := by
      have a0 : wr .i64 (0 + ((g 0 : Nat) : Int)) = ((g 0 : Nat) : Int) := by rw [wr_id' (by omega) (by omega)]; omega
      have a1 : wr .i64 (((g 0 : Nat) : Int) + ((g 1 : Nat) : Int)) = ((g 0 + g 1 : Nat) : Int) := by rw [wr_id' (by omega) (by omega)]; omega
      have a2 : wr .i64 (((g 0 + g 1 : Nat) : Int) + ((g 2 : Nat) : Int)) = ((g 0 + g 1 + g 2 : Nat) : Int) := by rw [wr_id' (by omega) (by omega)]; omega
      have a3 : wr .i64 (((g 0 + g 1 + g 2 : Nat) : Int) + ((g 3 : Nat) : Int)) = ((g 0 + g 1 + g 2 + g 3 : Nat) : Int) := by rw [wr_id' (by omega) (by omega)]; omega
      have x0 : evP .e (.ixV 4 1 true (.c (agg4 g)) (.c (.i .i64 0))) = some (.i .i64 (g 0 : Nat)) := rfl
      have x1 : evP .e (.ixV 4 1 true (.c (agg4 g)) (.c (.i .i64 1))) = some (.i .i64 (g 1 : Nat)) := rfl
      have x2 : evP .e (.ixV 4 1 true (.c (agg4 g)) (.c (.i .i64 2))) = some (.i .i64 (g 2 : Nat)) := rfl
      have x3 : evP .e (.ixV 4 1 true (.c (agg4 g)) (.c (.i .i64 3))) = some (.i .i64 (g 3 : Nat)) := rfl
      have d0 : decide ((0 : Int) < 4) = true := rfl
      have d1 : decide ((1 : Int) < 4) = true := rfl
      have d2 : decide ((2 : Int) < 4) = true := rfl
      have d3 : decide ((3 : Int) < 4) = true := rfl
      have d4 : decide ((4 : Int) < 4) = false := rfl
      have n0 : wr .i64 (0 + 1) = 1 := rfl
      have n1 : wr .i64 (1 + 1) = 2 := rfl
      have n2 : wr .i64 (2 + 1) = 3 := rfl
      have n3 : wr .i64 (3 + 1) = 4 := rfl
      refine loopX_on (s' := (((g 0 : Nat) : Int), 1)) (by simp only [g22_b0, forceB_eq, ltI_eq, d0, cond_true, x0, bindO_some, asI_i, forceI_eq, a0, n0]) ?_
      refine loopX_on (s' := (((g 0 + g 1 : Nat) : Int), 2)) (by simp only [g22_b0, forceB_eq, ltI_eq, d1, cond_true, x1, bindO_some, asI_i, forceI_eq, a1, n1]) ?_
      refine loopX_on (s' := (((g 0 + g 1 + g 2 : Nat) : Int), 3)) (by simp only [g22_b0, forceB_eq, ltI_eq, d2, cond_true, x2, bindO_some, asI_i, forceI_eq, a2, n2]) ?_
      refine loopX_on (s' := (((g 0 + g 1 + g 2 + g 3 : Nat) : Int), 4)) (by simp only [g22_b0, forceB_eq, ltI_eq, d3, cond_true, x3, bindO_some, asI_i, forceI_eq, a3, n3]) ?_
      exact loopX_out (by simp only [g22_b0, forceB_eq, ltI_eq, d4, cond_false])
    simp only [meansX_loop, lp, bindO_some, if_pos h1, h1, Int.toNat_natCast, waysV, hg, tupA]
    exact fin_pure rfl
  · have b1 : (shE n s == 0) = false := beq_eq_false_iff_ne.2 h1
    simp only [b1, Bool.not_false, cond_true, if_neg h1, tupA]
    exact fin_pure rfl
end Go.Proofs.Ytgbkicelkpagpaa.W

/- Ways of onto rules, and of the others: tables. -/
open Go.Vm
set_option linter.unusedVariables false
namespace Go.Proofs.Ytgbkicelkpagpaa.W
open Go

/- onto rules: the counts that come -/
/- the others: a row with more -/
def plotsL (x m : Nat) : List UInt8 := (List.range m).map fun i => UInt8.ofNat (48 + nx x (m - 1 - i))
theorem plotsL_len (x m : Nat) : (plotsL x m).length = m := by simp [plotsL]
end Go.Proofs.Ytgbkicelkpagpaa.W

/- Rows by numbers. -/
open Go.Vm
set_option linter.unusedVariables false
namespace Go.Proofs.Ytgbkicelkpagpaa.W
open Go

theorem bytes_row {t : Tr} {g : Nat → Nat} : ∀ (k i : Nat), (∀ j, j < k → t.get (i + j) = .i .u8 (g (i + j) : Nat) ∧ g (i + j) < 256) → bytesA (t.row i k) = some ((List.range' i k).map fun j => UInt8.ofNat (g j))
  | 0, i, _ => rfl
  | k + 1, i, h => by
    have h0 := h 0 (by omega)
    have ih := bytes_row (t := t) (g := g) k (i + 1) (fun j hj => by have := h (j + 1) (by omega); rwa [show i + 1 + j = i + (j + 1) by omega])
    show bytesA (t.get i :: t.row (i + 1) k) = _
    rw [Nat.add_zero] at h0
    rw [h0.1]
    show cond (Nat.blt (g i) 256) ((bytesA (t.row (i + 1) k)).map (UInt8.ofNat (g i) :: ·)) none = _
    rw [show Nat.blt (g i) 256 = true by rw [Nat.blt_eq]; exact h0.2, ih]
    rfl
theorem bts_ok {ro : List ABlk} {hp : Heap} {b k : Nat} {cap : Cap} {g : Nat → Nat} (h : Vec hp 5 b k (fun j => .i .u8 (g j : Nat))) (hg : ∀ j, j < k → g j < 256) {l p : Nat} :
    btsM ro ⟨hp, l, p⟩ (.sl ⟨false, b, 0⟩ k cap) = some (.s ((List.range k).map fun j => UInt8.ofNat (g j))) := by
  obtain ⟨blk, h1, h2, h3, h4⟩ := h
  have hb : Nat.ble (0 + k) blk.n = true := by rw [Nat.ble_eq]; omega
  have hr := bytes_row (t := blk.c) (g := g) k 0 (fun j hj => by rw [Nat.zero_add]; exact ⟨h4 j hj, hg j hj⟩)
  have h1' : lget (Mm.st ⟨hp, l, p⟩ .e).h b = some (some blk) := h1
  simp only [btsM, st_bts, rdB_heap h1', hb, cond_true, hr, Option.map_some, List.range_eq_range']

theorem shr_num : ∀ x, x < 1024 → ∀ t, t < 10 → Int.tmod (shrV .i64 (Int.ofNat x) (Int.ofNat t)) 2 = Int.ofNat (nx x t) := by decide +kernel
theorem ix01 : ∀ t, t < 2 → evP .e (.ixStr (.c (AVal.s [48, 49])) (.c (.i .i64 (Int.ofNat t)))) = some (.i .u8 (Int.ofNat (48 + t)))
  | 0, _ => rfl
  | 1, _ => rfl
theorem plots_ok {ro : List ABlk} {h : Heap} {x m : Nat} (hx : x < 1024) (hm : m ≤ 10) : callX F1 ro 40 [.i .i64 x, .i .i64 m] h = some (.s (plotsL x m), h, h.length, h.length) := by
  refine g40_ok (meansX_ok F1 ro) rfl ?_
  unfold g40
  have hmk := mk_ok (ro := ro) (hp := h) (l := h.length) (p := h.length) (e := 5) (es := 1) (bytes := 1) (v := AVal.i IntKind.u8 0) (n := m) (by omega) (by omega)
  have hv := Vec.new h 5 m (AVal.i IntKind.u8 0)
  generalize hB : h ++ [some (newBlk 5 (AVal.i IntKind.u8 0) m)] = H at hmk hv
  have hL : H.length = h.length + 1 := by rw [← hB]; simp
  have hK : ∀ k, k < h.length → H[k]? = h[k]? := fun k hk => by rw [← hB]; exact List.getElem?_append_left hk
  have key := loop_all (b := fun z => g40_b0 (meansX F1 ro) ro x m (.sl ⟨false, h.length, 0⟩ m (.known m)) z.1 z.2) m
    (fun k mm => ∃ hp', mm = ⟨hp', h.length, h.length⟩ ∧ Vec hp' 5 h.length m (fun j => .i .u8 ((if j < k then 48 + nx x (m - 1 - j) else 0 : Nat) : Int)) ∧ hp'.length = h.length + 1 ∧ ∀ k, k < h.length → hp'[k]? = h[k]?)
    (fun k mm hk hI => by
      obtain ⟨hp', rfl, hv', hl, hkeep⟩ := hI
      have hlt : ((k : Int) < (m : Int)) := by omega
      have e1 : wr .i64 ((m : Int) - 1) = (m : Int) - 1 := wr_id' (by omega) (by omega)
      have e2 : wr .i64 ((m : Int) - 1 - (k : Int)) = ((m - 1 - k : Nat) : Int) := by rw [wr_id' (by omega) (by omega)]; omega
      have e3 : Int.tmod (shrV .i64 (x : Int) ((m - 1 - k : Nat) : Int)) 2 = ((nx x (m - 1 - k) : Nat) : Int) := shr_num x hx _ (by omega)
      have e4 : evP .e (.ixStr (.c (AVal.s [48, 49])) (.c (.i .i64 ((nx x (m - 1 - k) : Nat) : Int)))) = some (.i .u8 ((48 + nx x (m - 1 - k) : Nat) : Int)) := ix01 _ (by have := nx_le x (m - 1 - k); omega)
      obtain ⟨y, s1, s2⟩ := Vec.set (ro := ro) (l := h.length) (p := h.length) hv' hk (v := .i .u8 ((48 + nx x (m - 1 - k) : Nat) : Int)) rfl rfl rfl
      rw [Nat.min_self] at s1
      have ei := ixS_eq (q := ⟨false, h.length, 0⟩) (len := m) (cap := .known m) (i := k) hk
      refine ⟨⟨hp'.set h.length y, h.length, h.length⟩, ?_, _, rfl, ?_, by rw [List.length_set]; exact hl, fun j hj => by rw [List.getElem?_set_ne (by omega)]; exact hkeep j hj⟩
      · simp only [g40_b0, forceB_eq, ltI_eq, decide_eq_true hlt, cond_true, forceI_eq, e1, e2, nneg, chk_true, e3, e4, bindO_some, asI_i, ei, s1, bindP_some, wr_next (by omega : k ≤ 1000000)]
      · refine s2.congr fun r hr => ?_
        show (if r = k then _ else _) = _
        by_cases e : r = k
        · rw [if_pos e, if_pos (by omega), e]
        · rw [if_neg e]
          by_cases e' : r < k
          · rw [if_pos e', if_pos (by omega)]
          · rw [if_neg e', if_neg (by omega)])
    (fun mm hI => by
      have : decide ((m : Int) < (m : Int)) = false := lt_no
      show g40_b0 (meansX F1 ro) ro x m (.sl ⟨false, h.length, 0⟩ m (.known m)) m mm = _
      simp only [g40_b0, forceB_eq, ltI_eq, this, cond_false])
    m 0 ⟨H, h.length, h.length⟩ (by omega) ⟨H, rfl, hv.congr fun r hr => by rw [if_neg (by omega)]; rfl, hL, hK⟩
  obtain ⟨m', k1, hq, rfl, k2, k3, k4⟩ := key
  have e0 : ((0 : Nat) : Int) = 0 := rfl
  rw [e0] at k1
  have hb := bts_ok (ro := ro) (cap := .known m) (l := h.length) (p := h.length) (k2.congr (get' := fun j => .i .u8 ((48 + nx x (m - 1 - j) : Nat) : Int)) fun r hr => by rw [if_pos hr]) (fun j hj => by have := nx_le x (m - 1 - j); omega)
  simp only [hmk, bindP_some, meansX_loop, k1, bindO_some, hb, asS_s, tupA]
  rw [fin_take (by rfl)]
  have : hq.take h.length = h := by
    apply List.ext_getElem?
    intro j
    rw [List.getElem?_take]
    by_cases hj : j < h.length
    · rw [if_pos hj, k4 j hj]
    · rw [if_neg hj, List.getElem?_eq_none (by omega)]
  rw [this]
  rfl
/-- a row by a number is a row -/
theorem plots_row {x m : Nat} : okR (plotsL x m) := fun i hi => by
  rw [plotsL_len] at hi
  have e : ch (plotsL x m) i = 48 + nx x (m - 1 - i) := by
    have := nx_le x (m - 1 - i)
    simp [ch, plotsL, List.getD, hi]
    omega
  have := nx_le x (m - 1 - i)
  omega
end Go.Proofs.Ytgbkicelkpagpaa.W

/- Strings that are made byte by byte; grow, ring, Ring. -/
open Go.Vm
set_option linter.unusedVariables false
namespace Go.Proofs.Ytgbkicelkpagpaa.W
open Go

/-- bytes written one by one, and their string -/
theorem bytes_loop {ro : List ABlk} {h : Heap} {n : Nat} {g : Nat → Nat} {b : Int × Mm → Option ((Int × Mm) ⊕ Mm)} (hg : ∀ k, k < n → g k < 256)
    (σ : Nat → Nat) (done : Nat → Nat → Bool) (hσ : ∀ k, k < n → σ k < n) (hd0 : ∀ j, j < n → done 0 j = false) (hdn : ∀ j, j < n → done n j = true) (hds : ∀ k j, k < n → j < n → done (k + 1) j = (done k j || Nat.beq j (σ k)))
    (hin : ∀ k, k < n → ∀ hp' hp'' : Heap, h.length ≤ hp'.length → stepM ro ⟨hp', h.length, h.length⟩ (.st 1 (.c (.p (some ⟨false, h.length, 0 + σ k⟩))) (.c (.i .u8 (g (σ k) : Nat)))) = some (und, ⟨hp'', h.length, h.length⟩) →
      b ((k : Int), ⟨hp', h.length, h.length⟩) = some (.inl (((k + 1 : Nat) : Int), ⟨hp'', h.length, h.length⟩)))
    (hout : ∀ m, b ((n : Int), m) = some (.inr m)) :
    ∃ hq, loopX b (0, ⟨h ++ [some (newBlk 5 (AVal.i IntKind.u8 0) n)], h.length, h.length⟩) = some ⟨hq, h.length, h.length⟩ ∧
      btsM ro ⟨hq, h.length, h.length⟩ (.sl ⟨false, h.length, 0⟩ n (.known n)) = some (.s ((List.range n).map fun j => UInt8.ofNat (g j))) ∧ hq.take h.length = h ∧ h.length ≤ hq.length := by
  have hv := Vec.new h 5 n (AVal.i IntKind.u8 0)
  generalize hB : h ++ [some (newBlk 5 (AVal.i IntKind.u8 0) n)] = H at hv
  have hL : H.length = h.length + 1 := by rw [← hB]; simp
  have hK : ∀ k, k < h.length → H[k]? = h[k]? := fun k hk => by rw [← hB]; exact List.getElem?_append_left hk
  have key := loop_all (b := b) n
    (fun k mm => ∃ hp', mm = ⟨hp', h.length, h.length⟩ ∧ Vec hp' 5 h.length n (fun j => .i .u8 ((cond (done k j) (g j) 0 : Nat) : Int)) ∧ hp'.length = h.length + 1 ∧ ∀ k, k < h.length → hp'[k]? = h[k]?)
    (fun k mm hk hI => by
      obtain ⟨hp', rfl, hv', hl, hkeep⟩ := hI
      obtain ⟨y, s1, s2⟩ := Vec.set (ro := ro) (l := h.length) (p := h.length) hv' (hσ k hk) (v := .i .u8 ((g (σ k) : Nat) : Int)) rfl rfl rfl
      rw [Nat.min_self] at s1
      refine ⟨⟨hp'.set h.length y, h.length, h.length⟩, hin k hk _ _ (by omega) s1, _, rfl, ?_, by rw [List.length_set]; exact hl, fun j hj => by rw [List.getElem?_set_ne (by omega)]; exact hkeep j hj⟩
      refine s2.congr fun r hr => ?_
      show (if r = σ k then _ else _) = _
      rw [hds k r hk hr]
      by_cases e : r = σ k
      · rw [if_pos e, show Nat.beq r (σ k) = true from beq_iff.2 e, Bool.or_true, cond_true, e]
      · have hb : Nat.beq r (σ k) = false := by
          cases hb : Nat.beq r (σ k)
          · rfl
          · exact absurd (beq_iff.1 hb) e
        rw [if_neg e, hb, Bool.or_false])
    (fun mm hI => hout mm)
    n 0 ⟨H, h.length, h.length⟩ (by omega) ⟨H, rfl, hv.congr fun r hr => by rw [hd0 r hr]; rfl, hL, hK⟩
  obtain ⟨m', k1, hq, rfl, k2, k3, k4⟩ := key
  have e0 : ((0 : Nat) : Int) = 0 := rfl
  rw [e0] at k1
  refine ⟨hq, k1, bts_ok (k2.congr (get' := fun j => .i .u8 ((g j : Nat) : Int)) fun r hr => by rw [hdn r hr, cond_true]) hg, ?_, by omega⟩
  apply List.ext_getElem?
  intro j
  rw [List.getElem?_take]
  by_cases hj : j < h.length
  · rw [if_pos hj, k4 j hj]
  · rw [if_neg hj, List.getElem?_eq_none (by omega)]

theorem blt_succ {k j n : Nat} (hk : k < n) (hj : j < n) : Nat.blt j (k + 1) = (Nat.blt j k || Nat.beq j k) := by
  rcases Nat.lt_trichotomy j k with h | h | h
  · rw [show Nat.blt j (k + 1) = true by rw [Nat.blt_eq]; omega, show Nat.blt j k = true by rw [Nat.blt_eq]; exact h]; rfl
  · subst h
    rw [show Nat.blt j (j + 1) = true by rw [Nat.blt_eq]; omega, Nat.beq_refl, Bool.or_true]
  · rw [show Nat.blt j (k + 1) = false by rw [← Bool.not_eq_true, Nat.blt_eq]; omega, show Nat.blt j k = false by rw [← Bool.not_eq_true, Nat.blt_eq]; omega, show Nat.beq j k = false by rw [← Bool.not_eq_true, beq_iff]; omega]; rfl
theorem blt_none (j : Nat) : Nat.blt j 0 = false := by rw [← Bool.not_eq_true, Nat.blt_eq]; omega
theorem blt_all {j n : Nat} (h : j < n) : Nat.blt j n = true := by rw [Nat.blt_eq]; exact h
theorem plot_num : ∀ t, t < 2 → wr .u8 (48 + wr .u8 (Int.ofNat t)) = Int.ofNat (48 + t) := by decide +kernel
theorem plot_ok {ro : List ABlk} {h : Heap} {t : Nat} (ht : t < 2) : callX F1 ro 71 [.i .i64 t] h = some (.i .u8 (48 + t : Nat), h, h.length, h.length) := by
  refine g71_ok (meansX_ok F1 ro) rfl ?_
  unfold g71
  have e : wr .u8 (48 + wr .u8 (t : Int)) = ((48 + t : Nat) : Int) := plot_num t ht
  simp only [forceI_eq, e, tupA]
  exact fin_pure rfl

theorem bw_lt {s : List UInt8} (hs : okR s) {i : Nat} (hi : i < s.length) : bw s i < 2 ∧ 48 ≤ ch s i := by
  unfold bw
  rcases hs i hi with e | e <;> omega
def growV (u : Nat) (s : List UInt8) (k : Nat) : Nat := 48 + nx u (4 * bw s k + 2 * bw s (k + 1) + bw s (k + 2))
def growS (u : Nat) (s : List UInt8) : List UInt8 := (List.range (s.length - 2)).map fun k => UInt8.ofNat (growV u s k)
theorem grow_ok {ro : List ABlk} {h : Heap} {u : Nat} {s : List UInt8} (hu : u < 256) (hs : okR s) (h2 : 2 ≤ s.length) (hl : s.length ≤ 1000) :
    callX F1 ro 46 [.i .u8 u, .s s] h = some (.s (growS u s), h, h.length, h.length) := by
  refine g46_ok (meansX_ok F1 ro) rfl ?_
  unfold g46
  have e9 : wr .i64 ((s.length : Int) - 2) = ((s.length - 2 : Nat) : Int) := by rw [wr_id' (by omega) (by omega)]; omega
  have hmk := mk_ok (ro := ro) (hp := h) (l := h.length) (p := h.length) (e := 5) (es := 1) (bytes := 1) (v := AVal.i IntKind.u8 0) (n := s.length - 2) (by omega) (by omega)
  have hlen : evP .e (.len false (.c (.sl ⟨false, h.length, 0⟩ (s.length - 2) (.known (s.length - 2))))) = some (.i .i64 ((s.length - 2 : Nat) : Int)) := by simp only [evP, ev_len, opd, cond_false, mkI, forceI_eq]
  obtain ⟨hq, k1, k2, k3, k4⟩ := bytes_loop (ro := ro) (h := h) (n := s.length - 2) (g := growV u s)
    (b := fun z => g46_b0 (meansX F1 ro) ro u s (.sl ⟨false, h.length, 0⟩ (s.length - 2) (.known (s.length - 2))) ((s.length - 2 : Nat) : Int) z.1 z.2)
    (fun k hk => by have := nx_le u (4 * bw s k + 2 * bw s (k + 1) + bw s (k + 2)); unfold growV; omega)
    (fun k => k) (fun k j => Nat.blt j k) (fun k hk => hk) (fun j _ => blt_none j) (fun j hj => blt_all hj) (fun k j hk hj => blt_succ hk hj)
    (fun k hk hp' hp'' hL hst => by
      have hlt : ((k : Int) < ((s.length - 2 : Nat) : Int)) := by omega
      have w1 : wr .i64 ((k : Int) + 1) = ((k + 1 : Nat) : Int) := wr_next (by omega)
      have w2 : wr .i64 ((k : Int) + 2) = ((k + 2 : Nat) : Int) := by rw [wr_id' (by omega) (by omega)]; omega
      obtain ⟨b0, a0⟩ := bw_lt hs (by omega : k < s.length)
      obtain ⟨b1, a1⟩ := bw_lt hs (by omega : k + 1 < s.length)
      obtain ⟨b2, a2⟩ := bw_lt hs (by omega : k + 2 < s.length)
      have c0 := callM_pure (call := callX F1 ro) (l := h.length) (p := h.length) (bit_ok (ro := ro) (h := hp') (ch_lt s k) a0) hL hL
      have c1 := callM_pure (call := callX F1 ro) (l := h.length) (p := h.length) (bit_ok (ro := ro) (h := hp') (ch_lt s (k + 1)) a1) hL hL
      have c2 := callM_pure (call := callX F1 ro) (l := h.length) (p := h.length) (bit_ok (ro := ro) (h := hp') (ch_lt s (k + 2)) a2) hL hL
      have m0 : wr .i64 (4 * ((ch s k - 48 : Nat) : Int)) = ((4 * bw s k : Nat) : Int) := by unfold bw at *; rw [wr_id' (by omega) (by omega)]; omega
      have m1 : wr .i64 (2 * ((ch s (k + 1) - 48 : Nat) : Int)) = ((2 * bw s (k + 1) : Nat) : Int) := by unfold bw at *; rw [wr_id' (by omega) (by omega)]; omega
      have m2 : wr .i64 (((4 * bw s k : Nat) : Int) + ((2 * bw s (k + 1) : Nat) : Int)) = ((4 * bw s k + 2 * bw s (k + 1) : Nat) : Int) := by rw [wr_id' (by omega) (by omega)]; omega
      have m3 : wr .i64 (((4 * bw s k + 2 * bw s (k + 1) : Nat) : Int) + ((ch s (k + 2) - 48 : Nat) : Int)) = ((4 * bw s k + 2 * bw s (k + 1) + bw s (k + 2) : Nat) : Int) := by unfold bw at *; rw [wr_id' (by omega) (by omega)]; omega
      have c3 := callM_pure (call := callX F1 ro) (l := h.length) (p := h.length) (next_ok (ro := ro) (h := hp') hu (by omega : 4 * bw s k + 2 * bw s (k + 1) + bw s (k + 2) < 8)) hL hL
      have c4 := callM_pure (call := callX F1 ro) (l := h.length) (p := h.length) (plot_ok (ro := ro) (h := hp') (t := nx u (4 * bw s k + 2 * bw s (k + 1) + bw s (k + 2))) (by have := nx_le u (4 * bw s k + 2 * bw s (k + 1) + bw s (k + 2)); omega)) hL hL
      have ei := ixS_eq (q := ⟨false, h.length, 0⟩) (len := s.length - 2) (cap := .known (s.length - 2)) (i := k) hk
      have hst' : stepM ro ⟨hp', h.length, h.length⟩ (.st 1 (.c (.p (some ⟨false, h.length, 0 + k⟩))) (.c (.i .u8 ((48 + nx u (4 * bw s k + 2 * bw s (k + 1) + bw s (k + 2)) : Nat) : Int)))) = some (und, ⟨hp'', h.length, h.length⟩) := hst
      simp only [g46_b0, forceB_eq, ltI_eq, decide_eq_true hlt, cond_true, e_ix (by omega : k < s.length), bindO_some, asI_i, forceI_eq, w1, e_ix (by omega : k + 1 < s.length), w2, e_ix (by omega : k + 2 < s.length), meansX_call, c0, c1, c2, bindP_some, m0, m1, m2, m3, c3, c4, ei, hst'])
    (fun m => by
      have : decide (((s.length - 2 : Nat) : Int) < ((s.length - 2 : Nat) : Int)) = false := lt_no
      show g46_b0 (meansX F1 ro) ro u s _ _ ((s.length - 2 : Nat) : Int) m = _
      simp only [g46_b0, forceB_eq, ltI_eq, this, cond_false])
  simp only [e_len, bindO_some, asI_i, forceI_eq, e9, hmk, bindP_some, hlen, meansX_loop, k1, k2, asS_s, tupA]
  rw [fin_take (by rfl), k3]
  rfl

/- a ring as a row with its ends put to it -/
end Go.Proofs.Ytgbkicelkpagpaa.W

/- Rows reversed, and with 0 and 1 exchanged. -/
open Go.Vm
set_option linter.unusedVariables false
namespace Go.Proofs.Ytgbkicelkpagpaa.W
open Go

/- strings letter by letter -/
theorem str_ext {a b : List UInt8} (hl : a.length = b.length) (h : ∀ i, i < a.length → ch a i = ch b i) : a = b := by
  apply List.ext_getElem hl
  intro i h1 h2
  have := h i h1
  simp only [ch, List.getD, List.getElem?_eq_getElem h1, List.getElem?_eq_getElem h2, Option.getD_some] at this
  exact UInt8.toNat_inj.1 this
theorem made_ch {n i : Nat} {g : Nat → Nat} (hi : i < n) (hg : g i < 256) : ch ((List.range n).map fun j => UInt8.ofNat (g j)) i = g i := by
  simp only [ch, List.getD, List.getElem?_map]
  rw [List.getElem?_range hi]
  show (UInt8.ofNat (g i)).toNat = g i
  rw [UInt8.toNat_ofNat']
  exact Nat.mod_eq_of_lt hg
end Go.Proofs.Ytgbkicelkpagpaa.W

/- Rows as lists of numbers: Grow, and the reference's Grow and Ring. -/
open Go.Vm
set_option linter.unusedVariables false
namespace Go.Proofs.Ytgbkicelkpagpaa.W
open Go

/-- numbers as a vector in memory, behind what was there -/
structure NV (h hp : Heap) (b n : Nat) (f : Nat → Nat) : Prop where
  vec : Vec hp 3 b n (fun i => .i .i64 (f i : Nat))
  new : h.length ≤ b
  len : h.length ≤ hp.length
  keep : ∀ j, j < h.length → hp[j]? = h[j]?

theorem take_keep {h hp : Heap} (hl : h.length ≤ hp.length) (hk : ∀ j, j < h.length → hp[j]? = h[j]?) : hp.take h.length = h := by
  apply List.ext_getElem?
  intro j
  rw [List.getElem?_take]
  by_cases hj : j < h.length
  · rw [if_pos hj, hk j hj]
  · rw [if_neg hj, List.getElem?_eq_none (by omega)]

/- Grow -/
def gwE (n : Int) (s : List UInt8) : Int := if askE n s 400 = 0 then (if s.length < 3 then 5 else 0) else askE n s 400
def gwS (n : Int) (s : List UInt8) : List UInt8 := if gwE n s = 0 then growS n.toNat s else []
theorem Grow_ok {ro : List ABlk} {h : Heap} {n : Int} {s : List UInt8} : callX F1 ro 16 [.i .i64 n, .s s] h = some (.tup [.s (gwS n s), .i .i64 (gwE n s)], h, h.length, h.length) := by
  refine g16_ok (meansX_ok F1 ro) rfl ?_
  unfold g16
  have c1 := callM_pure (call := callX F1 ro) (l := h.length) (p := h.length) (read_ok (ro := ro) (h := h) (n := n) (s := s)) (Nat.le_refl _) (Nat.le_refl _)
  simp only [meansX_call, c1, bindP_some, e_x0, e_x1, bindO_some, asI_i, eqI_eq, forceB_eq, e_len, ltI_eq]
  by_cases h1 : askE n s 400 = 0
  · have b1 : (askE n s 400 == 0) = true := by rw [h1]; rfl
    obtain ⟨p1, p2, p3, p4, p5⟩ := okR_of h1
    obtain ⟨k, rfl⟩ : ∃ k : Nat, n = (k : Int) := ⟨n.toNat, by omega⟩
    have hU : rdU k s = (k : Int) := if_pos h1
    by_cases h3 : s.length < 3
    · have e : gwE k s = 5 := by rw [gwE, if_pos h1, if_pos h3]
      have e2 : gwS k s = [] := by rw [gwS, e]; rfl
      have h3' : ((s.length : Int) < 3) := by omega
      simp only [b1, Bool.not_true, cond_false, decide_eq_true h3', cond_true, e, e2, tupA]
      exact fin_pure rfl
    · have e : gwE k s = 0 := by rw [gwE, if_pos h1, if_neg h3]
      have e2 : gwS k s = growS k s := if_pos e
      have h3' : ¬ ((s.length : Int) < 3) := by omega
      have cg := callM_pure (call := callX F1 ro) (l := h.length) (p := h.length) (grow_ok (ro := ro) (h := h) (by omega : k < 256) p5 (by omega) (by omega)) (Nat.le_refl _) (Nat.le_refl _)
      simp only [b1, Bool.not_true, cond_false, decide_eq_false h3', hU, cg, bindP_some, asS_s, e, e2, tupA]
      exact fin_pure rfl
  · have b1 : (askE n s 400 == 0) = false := beq_eq_false_iff_ne.2 h1
    have e : gwE n s = askE n s 400 := if_neg h1
    have e2 : gwS n s = [] := by rw [gwS, e, if_neg h1]
    simp only [b1, Bool.not_false, cond_true, e, e2, tupA]
    exact fin_pure rfl

/- the reference's plots and row -/
/- the reference's ring -/
theorem NV.congr {h hp : Heap} {b n : Nat} {f f' : Nat → Nat} (h1 : NV h hp b n f) (hc : ∀ i, i < n → f i = f' i) : NV h hp b n f' :=
  ⟨h1.vec.congr fun r hr => by rw [hc r hr], h1.new, h1.len, h1.keep⟩
theorem growS_ch {u : Nat} {s : List UInt8} {k : Nat} (hk : k < s.length - 2) : ch (growS u s) k = 48 + nx u (4 * bw s k + 2 * bw s (k + 1) + bw s (k + 2)) :=
  made_ch (g := growV u s) hk (by have := nx_le u (4 * bw s k + 2 * bw s (k + 1) + bw s (k + 2)); unfold growV; omega)
theorem growS_len {u : Nat} {s : List UInt8} : (growS u s).length = s.length - 2 := by simp [growS]

end Go.Proofs.Ytgbkicelkpagpaa.W

/- The sets of pairs from which the rest of a row can come; Back; Rings. -/
open Go.Vm
set_option linter.unusedVariables false
namespace Go.Proofs.Ytgbkicelkpagpaa.W
open Go

theorem iter_be (u s c p : Nat) : ∀ k i acc, (iterF (beF u s c) k i acc).testBit p = (acc.testBit p || (List.range' i k).any fun t => s.testBit (t % 4) && Nat.beq (nx u t) c && decide (t / 2 = p))
  | 0, i, acc => by simp [iterF]
  | k + 1, i, acc => by
    show (iterF (beF u s c) k (i + 1) (beF u s c i acc)).testBit p = _
    rw [iter_be u s c p k (i + 1)]
    have e : (beF u s c i acc).testBit p = (acc.testBit p || (s.testBit (i % 4) && Nat.beq (nx u i) c && decide (i / 2 = p))) := by
      unfold beF
      cases hb : (s.testBit (i % 4) && Nat.beq (nx u i) c) with
      | false => simp
      | true => simp only [cond_true, Nat.testBit_or, Nat.testBit_two_pow, Bool.true_and]
    rw [e, List.range'_succ, List.any_cons, Bool.or_assoc]
theorem beV_bit {u s c p : Nat} (hp : p < 4) : (beV u s c).testBit p = ((s.testBit (2 * p % 4) && Nat.beq (nx u (2 * p)) c) || (s.testBit ((2 * p + 1) % 4) && Nat.beq (nx u (2 * p + 1)) c)) := by
  unfold beV
  rw [iter_be]
  rcases (by omega : p = 0 ∨ p = 1 ∨ p = 2 ∨ p = 3) with rfl | rfl | rfl | rfl <;> simp [List.range']
theorem iter_be_lt {u s c : Nat} : ∀ k i acc, i + k ≤ 8 → acc < 16 → iterF (beF u s c) k i acc < 16
  | 0, i, acc, _, h => h
  | k + 1, i, acc, hi, h => by
    refine iter_be_lt k (i + 1) _ (by omega) ?_
    unfold beF
    cases (s.testBit (i % 4) && Nat.beq (nx u i) c)
    · exact h
    · have h2 : 2 ^ (i / 2) < 2 ^ 4 := Nat.pow_lt_pow_right (by omega) (by omega)
      exact Nat.or_lt_two_pow (n := 4) h h2
theorem beV_lt (u s c : Nat) : beV u s c < 16 := iter_be_lt 8 0 0 (by omega) (by omega)

/- from which pairs the rest of a row can come -/
def canD (u : Nat) (f : Nat → Nat) (n : Nat) : Nat → Nat
  | 0 => 15
  | d + 1 => beV u (canD u f n d) (f (n - (d + 1)))
def canI (u : Nat) (f : Nat → Nat) (n i : Nat) : Nat := canD u f n (n - i)
theorem canD_lt {u : Nat} {f : Nat → Nat} {n : Nat} : ∀ d, canD u f n d < 16
  | 0 => by show 15 < 16; omega
  | d + 1 => beV_lt _ _ _
theorem canI_lt {u : Nat} {f : Nat → Nat} {n i : Nat} : canI u f n i < 16 := canD_lt _
theorem canI_end {u : Nat} {f : Nat → Nat} {n : Nat} : canI u f n n = 15 := by unfold canI; rw [Nat.sub_self]; rfl
theorem canI_step {u : Nat} {f : Nat → Nat} {n i : Nat} (h : i < n) : canI u f n i = beV u (canI u f n (i + 1)) (f i) := by
  unfold canI
  rw [show n - i = (n - (i + 1)) + 1 by omega]
  show beV u _ (f (n - ((n - (i + 1)) + 1))) = _
  rw [show n - ((n - (i + 1)) + 1) = i by omega]

/- the least row -/
def tzb (x : Nat) : Nat := cond (x.testBit 0) 0 (cond (x.testBit 1) 1 (cond (x.testBit 2) 2 3))
def bkB (u : Nat) (f : Nat → Nat) (n a i : Nat) : Nat := cond (Nat.beq (nx u (2 * a)) (f i) && (canI u f n (i + 1)).testBit (2 * a % 4)) 0 1
def bkA (u : Nat) (f : Nat → Nat) (n : Nat) : Nat → Nat
  | 0 => tzb (canI u f n 0)
  | i + 1 => (2 * bkA u f n i + bkB u f n (bkA u f n i) i) % 4
theorem bkB_le (u : Nat) (f : Nat → Nat) (n a i : Nat) : bkB u f n a i ≤ 1 := by
  unfold bkB; cases (Nat.beq (nx u (2 * a)) (f i) && (canI u f n (i + 1)).testBit (2 * a % 4)) <;> decide
theorem tz_tab : ((List.range 16).all fun x => Nat.beq x 0 || (Nat.blt (tzb x) 4 && x.testBit (tzb x))) = true := by decide +kernel
theorem bkA_lt {u : Nat} {f : Nat → Nat} {n : Nat} : ∀ i, bkA u f n i < 4
  | 0 => by
    show tzb _ < 4
    unfold tzb
    cases (canI u f n 0).testBit 0 <;> cases (canI u f n 0).testBit 1 <;> cases (canI u f n 0).testBit 2 <;> decide
  | i + 1 => Nat.mod_lt _ (by omega)
/-- each pair of the row is one from which the rest can come; and the row becomes what it shall -/
theorem bkA_ok {u : Nat} {f : Nat → Nat} {n : Nat} (h0 : canI u f n 0 ≠ 0) : ∀ i, i ≤ n → (canI u f n i).testBit (bkA u f n i) = true
  | 0, _ => by
    have := List.all_eq_true.1 tz_tab _ (List.mem_range.2 (canI_lt (u := u) (f := f) (n := n) (i := 0)))
    simp only [Bool.or_eq_true, Bool.and_eq_true] at this
    rcases this with h | h
    · exact absurd (beq_iff.1 h) h0
    · exact h.2
  | i + 1, hi => by
    have ih := bkA_ok h0 i (by omega)
    rw [canI_step (by omega), beV_bit (bkA_lt i)] at ih
    show (canI u f n (i + 1)).testBit ((2 * bkA u f n i + bkB u f n (bkA u f n i) i) % 4) = true
    unfold bkB
    cases hb : (Nat.beq (nx u (2 * bkA u f n i)) (f i) && (canI u f n (i + 1)).testBit (2 * bkA u f n i % 4)) with
    | true =>
      simp only [Bool.and_eq_true] at hb
      exact hb.2
    | false =>
      rw [Bool.and_comm] at hb
      rw [hb, Bool.false_or, Bool.and_eq_true] at ih
      exact ih.1
theorem bkA_next {u : Nat} {f : Nat → Nat} {n : Nat} (h0 : canI u f n 0 ≠ 0) {i : Nat} (hi : i < n) : nx u (2 * bkA u f n i + bkB u f n (bkA u f n i) i) = f i := by
  have ih := bkA_ok h0 i (by omega)
  rw [canI_step hi, beV_bit (bkA_lt i)] at ih
  unfold bkB
  cases hb : (Nat.beq (nx u (2 * bkA u f n i)) (f i) && (canI u f n (i + 1)).testBit (2 * bkA u f n i % 4)) with
  | true =>
    simp only [Bool.and_eq_true] at hb
    exact beq_iff.1 hb.1
  | false =>
    rw [Bool.and_comm] at hb
    rw [hb, Bool.false_or, Bool.and_eq_true] at ih
    exact beq_iff.1 ih.2
def bkG (u : Nat) (f : Nat → Nat) (n : Nat) : Nat → Nat
  | 0 => bkA u f n 0 / 2
  | j + 1 => bkA u f n j % 2
def backL (u : Nat) (f : Nat → Nat) (n : Nat) : List UInt8 := (List.range (n + 2)).map fun j => UInt8.ofNat (48 + bkG u f n j)
theorem bkG_le {u : Nat} {f : Nat → Nat} {n : Nat} : ∀ j, bkG u f n j ≤ 1
  | 0 => by have := bkA_lt (u := u) (f := f) (n := n) 0; show bkA u f n 0 / 2 ≤ 1; omega
  | j + 1 => by show bkA u f n j % 2 ≤ 1; omega
theorem bkG_two {u : Nat} {f : Nat → Nat} {n : Nat} : ∀ j, bkA u f n j = 2 * bkG u f n j + bkG u f n (j + 1)
  | 0 => by show bkA u f n 0 = 2 * (bkA u f n 0 / 2) + bkA u f n 0 % 2; omega
  | j + 1 => by
    show bkA u f n (j + 1) = 2 * (bkA u f n j % 2) + bkA u f n (j + 1) % 2
    have := bkB_le u f n (bkA u f n j) j
    have e : bkA u f n (j + 1) = (2 * bkA u f n j + bkB u f n (bkA u f n j) j) % 4 := rfl
    omega
theorem bkG_B {u : Nat} {f : Nat → Nat} {n : Nat} (j : Nat) : bkG u f n (j + 2) = bkB u f n (bkA u f n j) j := by
  show ((2 * bkA u f n j + bkB u f n (bkA u f n j) j) % 4) % 2 = _
  have := bkB_le u f n (bkA u f n j) j
  omega

/- one more behind a vector whose room is full or open -/
theorem push_any {ro : List ABlk} {hp : Heap} {L e bytes b k : Nat} {z w : AVal} {cap : Cap} {get : Nat → AVal} (hcap : cap = .grow ∨ cap = .known k) (hv : Vec hp e b k get) (hLb : L ≤ b) (h0 : 0 < k) (hk : k ≤ 1000) (hb : bytes ≤ 1000) (hL : L ≤ hp.length) (hw : w.cells = [w]) (ho : w.one = true) :
    ∃ v2 hp2 hp3 b3, stepM ro ⟨hp, L, L⟩ (.bsl e 1 [z] 1 [((0, 1), .c w)]) = some (v2, ⟨hp2, L, L⟩) ∧ stepM ro ⟨hp2, L, L⟩ (.app e 1 bytes [z] (.c (.sl ⟨false, b, 0⟩ k cap)) (.c v2)) = some (.sl ⟨false, b3, 0⟩ (k + 1) .grow, ⟨hp3, L, L⟩) ∧
      hp.length ≤ b3 ∧ Vec hp3 e b3 (k + 1) (fun r => if r < k then get r else w) ∧ hp.length ≤ hp3.length ∧ ∀ i, i < hp.length → i ≠ b → hp3[i]? = hp[i]? := by
  rcases hcap with rfl | rfl
  · obtain ⟨v2, hp2, v3, hp3, b3, s1, s2, rfl, h3, h4, h5, h6⟩ := push_ok (ro := ro) (bytes := bytes) (z := z) (w := w) (.inr ⟨b, rfl, h0, hLb, hv⟩ : VecV hp L e (.sl ⟨false, b, 0⟩ k .grow) k get) hL hk hb hw ho
    exact ⟨v2, hp2, hp3, b3, s1, s2, h3, h4, h5, fun i hi hne => h6 i hi fun len cap e => by cases e; exact hne rfl⟩
  · have s1 : stepM ro ⟨hp, L, L⟩ (.bsl e 1 [z] 1 [((0, 1), .c w)]) = some (.sl ⟨false, hp.length, 0⟩ 1 (.known 1), ⟨hp ++ [some (blkOf e [w])], L, L⟩) := by
      simp [stepM, stepK, st_bsl, rep, fillA, opd, hw, splice, newB, St.mm]
    have src : app_src ro (hp ++ [some (blkOf e [w])]) 1 (.sl ⟨false, hp.length, 0⟩ 1 (.known 1)) = some ([w], 1) := by
      have hb : rdB ro (hp ++ [some (blkOf e [w])]) ⟨false, hp.length, 0⟩ = some (blkOf e [w]) := by simp [rdB, lget_eq]
      have hg : (blkOf e [w]).c.row 0 1 = [w] := by simp only [Tr.row, get_blk]; rfl
      have hble : Nat.ble (0 + 1 * 1) (blkOf e [w]).n = true := rfl
      simp only [app_src, hb, hble, cond_true]
      rw [show 1 * 1 = 1 from rfl, hg]
    obtain ⟨blk, hbk, hbe, hbn, hrows⟩ := hv
    have hlt : b < hp.length := lget_lt hbk
    obtain ⟨hp2, e2⟩ : ∃ hp2, hp2 = hp ++ [some (blkOf e [w])] := ⟨_, rfl⟩
    rw [← e2] at src s1
    have hb2 : lget hp2 b = some (some blk) := by rw [e2]; exact lget_ext hbk _
    have hlen2 : hp2.length = hp.length + 1 := by rw [e2]; simp
    refine ⟨_, _, hp2 ++ [some (blkOf e (blk.c.row 0 k ++ [w]))], hp2.length, s1, ?_, by omega, ⟨blkOf e (blk.c.row 0 k ++ [w]), lget_last _ _, rfl, ?_, fun r hr => ?_⟩, ?_, fun i hi hne => ?_⟩
    · have h1 : Nat.ble (k + 1) k = false := by rw [← Bool.not_eq_true, Nat.ble_eq]; omega
      have h2 : (Nat.ble (0 + k) blk.n && fits (k + 1) bytes) = true := by
        rw [fits_small (by omega : k + 1 ≤ 1000000) hb, Bool.and_true, Nat.ble_eq]; omega
      have hrd : rdB ro hp2 ⟨false, b, 0⟩ = some blk := by simp only [rdB, cond_false, hb2]
      simp only [stepM, stepK, opd, st_app, src, app_known, h1, cond_false, hrd, h2, cond_true, St.mm, newB, Nat.mul_one]
    · simp [blkOf, length_row]
    · show (blkOf e (blk.c.row 0 k ++ [w])).c.get r = if r < k then get r else w
      rw [get_blk]
      by_cases hrk : r < k
      · rw [if_pos hrk, List.getD_eq_getElem?_getD, List.getElem?_append_left (by rw [length_row]; exact hrk), getElem?_row, if_pos hrk]
        simp [hrows r hrk]
      · rw [if_neg hrk, List.getD_eq_getElem?_getD, List.getElem?_append_right (by rw [length_row]; omega), length_row, show r - k = 0 by omega]
        rfl
    · simp; omega
    · rw [List.getElem?_append_left (by omega), e2, List.getElem?_append_left hi]
/-- a loop that counts, whatever it carries -/
theorem loop_seq {S R : Type} {b : S → Option (S ⊕ R)} (n : Nat) (I : Nat → S → Prop) (Q : R → Prop) (hin : ∀ i s, i < n → I i s → ∃ s', b s = some (.inl s') ∧ I (i + 1) s') (hout : ∀ s, I n s → ∃ r, b s = some (.inr r) ∧ Q r) :
    ∀ (k i : Nat) (s : S), i + k = n → I i s → ∃ r, loopX b s = some r ∧ Q r
  | 0, i, s, hk, hi => by
    obtain rfl : i = n := by omega
    obtain ⟨r, h1, h2⟩ := hout s hi
    exact ⟨r, loopX_out h1, h2⟩
  | k + 1, i, s, hk, hi => by
    obtain ⟨s', h1, h2⟩ := hin i s (by omega) hi
    obtain ⟨r, h3, h4⟩ := loop_seq n I Q hin hout k (i + 1) s' (by omega) h2
    exact ⟨r, loopX_on h1 h3, h4⟩

theorem tzT_len : tzT.length = 256 := by decide +kernel
theorem tz_num : ∀ x, x < 16 → x ≠ 0 → ch tzT x = tzb x := by decide +kernel
theorem tz_ok {ro : List ABlk} {h : Heap} {x : Nat} (hx : x < 16) (h0 : x ≠ 0) : callX F1 ro 75 [.i .u8 x] h = some (.i .i64 (tzb x : Nat), h, h.length, h.length) := by
  refine g75_ok (meansX_ok F1 ro) rfl ?_
  unfold g75
  have e : evP .e (.ixStr (.c (AVal.s tzT)) (.c (.i .u8 (x : Int)))) = some (.i .u8 (tzb x : Nat)) := by
    show (lget tzT x).map (fun c => mkI .u8 c.toNat) = _
    rw [lget_at tzT x 0 (by rw [tzT_len]; omega)]
    have := tz_num x hx h0
    unfold ch at this
    simp only [Option.map_some, mkI, forceI_eq, this]
  have ht : tzb x < 4 := by unfold tzb; cases x.testBit 0 <;> cases x.testBit 1 <;> cases x.testBit 2 <;> decide
  have e2 : wr .i64 ((tzb x : Nat) : Int) = ((tzb x : Nat) : Int) := wr_id' (by omega) (by omega)
  show bindO (evP .e (.ixStr (.c (AVal.s tzT)) (.c (.i .u8 (x : Int))))) _ = _
  simp only [e, bindO_some, asI_i, forceI_eq, e2, tupA]
  exact fin_pure rfl
theorem sm4 : ∀ a, a < 4 → shrV .i64 (Int.ofNat a) 1 = Int.ofNat (a / 2) ∧ bitV .and .i64 (Int.ofNat a) 1 = Int.ofNat (a % 2) := by decide +kernel
theorem sm8 : ∀ t, t < 8 → bitV .and .i64 (Int.ofNat t) 3 = Int.ofNat (t % 4) ∧ bitV .and .i64 (Int.ofNat t) 1 = Int.ofNat (t % 2) := by decide +kernel
end Go.Proofs.Ytgbkicelkpagpaa.W

/- Back and Rings: what they answer. -/
open Go.Vm
set_option linter.unusedVariables false
namespace Go.Proofs.Ytgbkicelkpagpaa.W
open Go

theorem back_ok {ro : List ABlk} {h : Heap} {u : Nat} {s : List UInt8} (hu : u < 256) (hs : okR s) (hl : s.length ≤ 900) :
    callX F1 ro 53 [.i .u8 u, .s s] h = some (.tup (if canI u (bw s) s.length 0 = 0 then [.s [], .b false] else [.s (backL u (bw s) s.length), .b true]), h, h.length, h.length) := by
  refine g53_ok (meansX_ok F1 ro) rfl ?_
  unfold g53
  have w1 : wr .i64 ((s.length : Int) + 1) = ((s.length + 1 : Nat) : Int) := wr_next (by omega)
  have w2 : wr .i64 ((s.length : Int) - 1) = (s.length : Int) - 1 := wr_id' (by omega) (by omega)
  have hmk := mk_ok (ro := ro) (hp := h) (l := h.length) (p := h.length) (e := 82) (es := 1) (bytes := 1) (v := AVal.i IntKind.u8 0) (n := s.length + 1) (by omega) (by omega)
  have hv := Vec.new h 82 (s.length + 1) (AVal.i IntKind.u8 0)
  generalize hB : h ++ [some (newBlk 82 (AVal.i IntKind.u8 0) (s.length + 1))] = H at hmk hv
  have hL : H.length = h.length + 1 := by rw [← hB]; simp
  have hK : ∀ k, k < h.length → H[k]? = h[k]? := fun k hk => by rw [← hB]; exact List.getElem?_append_left hk
  obtain ⟨y, s1, s2⟩ := Vec.set (ro := ro) (l := h.length) (p := h.length) hv (r := s.length) (by omega) (v := .i .u8 15) rfl rfl rfl
  rw [Nat.min_self] at s1
  have ie := ixS_eq (q := ⟨false, h.length, 0⟩) (len := s.length + 1) (cap := .known (s.length + 1)) (i := s.length) (by omega)
  obtain ⟨hq, k1, k2, k3, k4⟩ : ∃ hq, loopX (fun z : Int × Mm => g53_b0 (meansX F1 ro) ro u s (.sl ⟨false, h.length, 0⟩ (s.length + 1) (.known (s.length + 1))) z.1 z.2) ((s.length : Int) - 1, ⟨H.set h.length y, h.length, h.length⟩) = some ⟨hq, h.length, h.length⟩ ∧
      Vec hq 82 h.length (s.length + 1) (fun r => .i .u8 (canI u (bw s) s.length r : Nat)) ∧ hq.length = h.length + 1 ∧ ∀ j, j < h.length → hq[j]? = h[j]? := by
    obtain ⟨r, k1, hq, rfl, k2⟩ := loop_seq (b := fun z : Int × Mm => g53_b0 (meansX F1 ro) ro u s (.sl ⟨false, h.length, 0⟩ (s.length + 1) (.known (s.length + 1))) z.1 z.2) s.length
      (fun d z => ∃ hp, z.1 = (s.length : Int) - 1 - (d : Int) ∧ z.2 = ⟨hp, h.length, h.length⟩ ∧ Vec hp 82 h.length (s.length + 1) (fun r => .i .u8 ((if s.length - d ≤ r then canI u (bw s) s.length r else 0 : Nat) : Int)) ∧ hp.length = h.length + 1 ∧ ∀ j, j < h.length → hp[j]? = h[j]?)
      (fun r => ∃ hq, r = ⟨hq, h.length, h.length⟩ ∧ Vec hq 82 h.length (s.length + 1) (fun r => .i .u8 (canI u (bw s) s.length r : Nat)) ∧ hq.length = h.length + 1 ∧ ∀ j, j < h.length → hq[j]? = h[j]?)
      (fun d z hd hI => by
        obtain ⟨z1, z2⟩ := z
        obtain ⟨hp, hz, rfl, hv', hlen, hkeep⟩ := hI
        simp only at hz
        obtain ⟨k, hk⟩ : ∃ k, k = s.length - 1 - d := ⟨_, rfl⟩
        obtain rfl : z1 = (k : Int) := by omega
        have hkn : k < s.length := by omega
        have hk0 : decide ((k : Int) < 0) = false := by simp
        have ld := Vec.lda (ro := ro) hv' (i := k + 1) (by omega)
        rw [if_pos (by omega)] at ld
        have hc48 := (bw_lt hs hkn).2
        have c1 := callN_pure (call := callX F1 ro) (bit_ok (ro := ro) (h := hp) (ch_lt s k) hc48) rfl rfl
        have c2 := callN_pure (call := callX F1 ro) (behind_ok (ro := ro) (h := hp) (c := ch s k - 48) hu (by have := canI_lt (u := u) (f := bw s) (n := s.length) (i := k + 1); omega : canI u (bw s) s.length (k + 1) < 256)) rfl rfl
        obtain ⟨y2, t1, t2⟩ := Vec.wr (ro := ro) (l := h.length) (p := h.length) hv' (r := k) (by omega) (v := .i .u8 (beV u (canI u (bw s) s.length (k + 1)) (ch s k - 48) : Nat)) rfl rfl
        rw [Nat.min_self] at t1
        have w3 : wr .i64 ((k : Int) - 1) = (k : Int) - 1 := wr_id' (by omega) (by omega)
        refine ⟨((k : Int) - 1, ⟨hp.set h.length y2, h.length, h.length⟩), ?_, _, ?_, rfl, t2.congr fun r hr => ?_, by rw [List.length_set]; exact hlen, fun j hj => by rw [List.getElem?_set_ne (by omega)]; exact hkeep j hj⟩
        · simp only [g53_b0, ltI_eq, hk0, Bool.not_false, forceB_eq, cond_true, forceI_eq, wr_next (by omega : k ≤ 1000000), ixS_eq (by omega : k + 1 < s.length + 1), bindO_some, ld, asI_i, e_ix hkn, meansX_call, c1, c2, ixS_eq (by omega : k < s.length + 1), asP_p, AVal.cells, t1, w3]
        · show (k : Int) - 1 = (s.length : Int) - 1 - ((d + 1 : Nat) : Int)
          omega
        · show (if r = k then _ else _) = _
          by_cases e : r = k
          · rw [if_pos e, if_pos (by omega), e, canI_step hkn]; rfl
          · rw [if_neg e]
            by_cases e' : s.length - d ≤ r
            · rw [if_pos e', if_pos (by omega)]
            · rw [if_neg e', if_neg (by omega)])
      (fun z hI => by
        obtain ⟨z1, z2⟩ := z
        obtain ⟨hp, hz, rfl, hv', hlen, hkeep⟩ := hI
        simp only at hz
        obtain rfl : z1 = -1 := by omega
        have hk0 : decide ((-1 : Int) < 0) = true := rfl
        refine ⟨_, ?_, hp, rfl, hv'.congr fun r hr => by rw [if_pos (by omega)], hlen, hkeep⟩
        simp only [g53_b0, ltI_eq, hk0, Bool.not_true, forceB_eq, cond_false])
      s.length 0 ((s.length : Int) - 1, ⟨H.set h.length y, h.length, h.length⟩) (by omega) ⟨_, by simp, rfl, s2.congr fun r hr => by
        show (if r = s.length then _ else _) = _
        by_cases e : r = s.length
        · rw [if_pos e, if_pos (by omega), e, canI_end]; rfl
        · rw [if_neg e, if_neg (by omega)]; rfl, by rw [List.length_set]; exact hL, fun j hj => by rw [List.getElem?_set_ne (by omega)]; exact hK j hj⟩
    exact ⟨hq, k1, k2⟩
  have i0 : evP .e (.ixS 1 (.c (.sl ⟨false, h.length, 0⟩ (s.length + 1) (.known (s.length + 1)))) (.c (.i .i64 0))) = some (.p (some ⟨false, h.length, 0 + 0⟩)) := ixS_eq (i := 0) (by omega)
  have ld0 := Vec.ld (ro := ro) (l := h.length) (p := h.length) k2 (i := 0) (by omega)
  by_cases hz : canI u (bw s) s.length 0 = 0
  · have e0 : (((canI u (bw s) s.length 0 : Nat) : Int) == 0) = true := by rw [hz]; rfl
    simp only [e_len, bindO_some, asI_i, forceI_eq, w1, hmk, bindP_some, ie, s1, w2, meansX_loop, k1, i0, ld0, eqI_eq, e0, forceB_eq, cond_true, if_pos hz, tupA]
    rw [fin_take (by rfl), take_keep (by omega) k4]
  · have e0 : (((canI u (bw s) s.length 0 : Nat) : Int) == 0) = false := by rw [beq_eq_false_iff_ne]; omega
    have a4 := bkA_lt (u := u) (f := bw s) (n := s.length) 0
    have c75 := callM_pure (call := callX F1 ro) (l := h.length) (p := h.length) (tz_ok (ro := ro) (h := hq) canI_lt hz) (by omega) (by omega)
    obtain ⟨m1, m2⟩ := sm4 _ a4
    have m1' : shrV .i64 ((tzb (canI u (bw s) s.length 0) : Nat) : Int) 1 = ((bkA u (bw s) s.length 0 / 2 : Nat) : Int) := m1
    have m2' : bitV .and .i64 ((tzb (canI u (bw s) s.length 0) : Nat) : Int) 1 = ((bkA u (bw s) s.length 0 % 2 : Nat) : Int) := m2
    have p1 := callM_pure (call := callX F1 ro) (l := h.length) (p := h.length) (plot_ok (ro := ro) (h := hq) (t := bkA u (bw s) s.length 0 / 2) (by omega)) (by omega) (by omega)
    have p2 := callM_pure (call := callX F1 ro) (l := h.length) (p := h.length) (plot_ok (ro := ro) (h := hq) (t := bkA u (bw s) s.length 0 % 2) (by omega)) (by omega) (by omega)
    have sb : stepM ro ⟨hq, h.length, h.length⟩ (.bsl 5 1 [(AVal.i IntKind.u8 0)] 2 [((0, 1), .c (.i .u8 ((48 + bkA u (bw s) s.length 0 / 2 : Nat) : Int))), ((1, 1), .c (.i .u8 ((48 + bkA u (bw s) s.length 0 % 2 : Nat) : Int)))]) = some (.sl ⟨false, hq.length, 0⟩ 2 (.known 2), ⟨hq ++ [some (blkOf 5 [.i .u8 ((48 + bkA u (bw s) s.length 0 / 2 : Nat) : Int), .i .u8 ((48 + bkA u (bw s) s.length 0 % 2 : Nat) : Int)])], h.length, h.length⟩) := by
      simp [stepM, stepK, st_bsl, rep, fillA, opd, AVal.cells, splice, newB, St.mm]
    have vb : Vec (hq ++ [some (blkOf 5 [.i .u8 ((48 + bkA u (bw s) s.length 0 / 2 : Nat) : Int), .i .u8 ((48 + bkA u (bw s) s.length 0 % 2 : Nat) : Int)])]) 5 hq.length 2 (fun j => .i .u8 ((48 + bkG u (bw s) s.length j : Nat) : Int)) :=
      ⟨_, lget_last _ _, rfl, Nat.le_refl 2, fun r hr => by
        rw [get_blk]
        rcases (by omega : r = 0 ∨ r = 1) with rfl | rfl <;> rfl⟩
    have hl2 : (hq ++ [some (blkOf 5 [.i .u8 ((48 + bkA u (bw s) s.length 0 / 2 : Nat) : Int), .i .u8 ((48 + bkA u (bw s) s.length 0 % 2 : Nat) : Int)])]).length = hq.length + 1 := by simp
    have hk2 : ∀ j, j < hq.length → (hq ++ [some (blkOf 5 [.i .u8 ((48 + bkA u (bw s) s.length 0 / 2 : Nat) : Int), .i .u8 ((48 + bkA u (bw s) s.length 0 % 2 : Nat) : Int)])])[j]? = hq[j]? := fun j hj => List.getElem?_append_left hj
    generalize hq ++ [some (blkOf 5 [.i .u8 ((48 + bkA u (bw s) s.length 0 / 2 : Nat) : Int), .i .u8 ((48 + bkA u (bw s) s.length 0 % 2 : Nat) : Int)])] = H2 at sb vb hl2 hk2
    obtain ⟨r, q1, b, cap, hp, rfl, q2, q3, q4⟩ := loop_seq (b := fun z : Int × AVal × Int × Mm => g53_b1 (meansX F1 ro) ro u s (.sl ⟨false, h.length, 0⟩ (s.length + 1) (.known (s.length + 1))) (s.length : Int) z.1 z.2.1 z.2.2.1 z.2.2.2) s.length
      (fun i z => ∃ b cap hp, z = (((bkA u (bw s) s.length i : Nat) : Int), .sl ⟨false, b, 0⟩ (i + 2) cap, (i : Int), ⟨hp, h.length, h.length⟩) ∧ (cap = .grow ∨ cap = .known (i + 2)) ∧ Vec hp 5 b (i + 2) (fun j => .i .u8 ((48 + bkG u (bw s) s.length j : Nat) : Int)) ∧ hq.length ≤ b ∧ hq.length ≤ hp.length ∧ ∀ j, j < hq.length → hp[j]? = hq[j]?)
      (fun r => ∃ b cap hp, r = (.sl ⟨false, b, 0⟩ (s.length + 2) cap, ⟨hp, h.length, h.length⟩) ∧ Vec hp 5 b (s.length + 2) (fun j => .i .u8 ((48 + bkG u (bw s) s.length j : Nat) : Int)) ∧ hq.length ≤ hp.length ∧ ∀ j, j < hq.length → hp[j]? = hq[j]?)
      (fun i z hi hI => by
        obtain ⟨b, cap, hp, rfl, hcap, hv', hb, hlen, hkeep⟩ := hI
        have hlt : ((i : Int) < (s.length : Int)) := by omega
        have a4 := bkA_lt (u := u) (f := bw s) (n := s.length) i
        have hA : bkA u (bw s) s.length (i + 1) = (2 * bkA u (bw s) s.length i + bkB u (bw s) s.length (bkA u (bw s) s.length i) i) % 4 := rfl
        have hG := bkG_B (u := u) (f := bw s) (n := s.length) i
        have hBle := bkB_le u (bw s) s.length (bkA u (bw s) s.length i) i
        have hBd : bkB u (bw s) s.length (bkA u (bw s) s.length i) i = cond (Nat.beq (nx u (2 * bkA u (bw s) s.length i)) (ch s i - 48) && (canI u (bw s) s.length (i + 1)).testBit (2 * bkA u (bw s) s.length i % 4)) 0 1 := rfl
        generalize bkA u (bw s) s.length i = a at *
        generalize hBB : bkB u (bw s) s.length a i = B at *
        have hc48 := (bw_lt hs hi).2
        have hm : h.length ≤ hp.length := by omega
        have wa : wr .i64 (2 * (a : Int)) = ((2 * a : Nat) : Int) := by rw [wr_id' (by omega) (by omega)]; omega
        have wb : wr .i64 (((2 * a : Nat) : Int) + 1) = ((2 * a + 1 : Nat) : Int) := wr_next (by omega)
        have c1 := callM_pure (call := callX F1 ro) (l := h.length) (p := h.length) (next_ok (ro := ro) (h := hp) hu (by omega : 2 * a < 8)) hm hm
        have c2 := callM_pure (call := callX F1 ro) (l := h.length) (p := h.length) (bit_ok (ro := ro) (h := hp) (ch_lt s i) hc48) hm hm
        have hne := num_eq (nx u (2 * a)) (ch s i - 48)
        have ld := Vec.ld (ro := ro) (l := h.length) (p := h.length) (k2.keep (hkeep h.length (by omega))) (i := i + 1) (by omega)
        have c3 := callM_pure (call := callX F1 ro) (l := h.length) (p := h.length) (has_ok (ro := ro) (h := hp) (by have := canI_lt (u := u) (f := bw s) (n := s.length) (i := i + 1); omega : canI u (bw s) s.length (i + 1) < 256) (by omega : 2 * a % 4 < 8)) hm hm
        obtain ⟨x1, x2⟩ := sm8 (2 * a) (by omega)
        obtain ⟨y1, y2⟩ := sm8 (2 * a + 1) (by omega)
        have x1' : bitV .and .i64 ((2 * a : Nat) : Int) 3 = ((2 * a % 4 : Nat) : Int) := x1
        have x2' : bitV .and .i64 ((2 * a : Nat) : Int) 1 = ((2 * a % 2 : Nat) : Int) := x2
        have y1' : bitV .and .i64 ((2 * a + 1 : Nat) : Int) 3 = (((2 * a + 1) % 4 : Nat) : Int) := y1
        have y2' : bitV .and .i64 ((2 * a + 1 : Nat) : Int) 1 = (((2 * a + 1) % 2 : Nat) : Int) := y2
        obtain ⟨v2, hp2, hp3, b3, s1, s2, g1, g2, g3, g4⟩ := push_any (ro := ro) (L := h.length) (bytes := 1) (z := AVal.i IntKind.u8 0) (w := .i .u8 ((48 + (2 * a + B) % 2 : Nat) : Int)) hcap hv' (by omega) (by omega) (by omega) (by omega) hm rfl rfl
        have c4 := callM_pure (call := callX F1 ro) (l := h.length) (p := h.length) (plot_ok (ro := ro) (h := hp) (t := (2 * a + B) % 2) (by omega)) hm hm
        refine ⟨(((((2 * a + B) % 4 : Nat)) : Int), .sl ⟨false, b3, 0⟩ (i + 2 + 1) .grow, ((i + 1 : Nat) : Int), ⟨hp3, h.length, h.length⟩), ?_, b3, .grow, hp3, by rw [hA], .inl rfl, g2.congr fun r hr => ?_, by omega, by omega, fun j hj => by rw [g4 j (by omega) (by omega), hkeep j hj]⟩
        · cases hb1 : Nat.beq (nx u (2 * a)) (ch s i - 48) with
          | false =>
            rw [hb1] at hne
            have hB1 : B = 1 := by rw [hBd, hb1]; rfl
            subst hB1
            simp only [g53_b1, ltI_eq, forceB_eq, decide_eq_true hlt, cond_true, forceI_eq, wa, e_ix hi, bindO_some, asI_i, meansX_call, c1, c2, bindP_some, eqI_eq, hne, Bool.not_false, wb, y1', y2', c4, s1, s2, wr_next (by omega : i ≤ 1000000)]
          | true =>
            rw [hb1] at hne
            cases hb2 : (canI u (bw s) s.length (i + 1)).testBit (2 * a % 4) with
            | false =>
              rw [hb2] at c3
              have hB1 : B = 1 := by rw [hBd, hb1, hb2]; rfl
              subst hB1
              simp only [g53_b1, ltI_eq, forceB_eq, decide_eq_true hlt, cond_true, forceI_eq, wa, e_ix hi, bindO_some, asI_i, meansX_call, c1, c2, bindP_some, eqI_eq, hne, Bool.not_true, cond_false, wr_next (by omega : i ≤ 1000000), ixS_eq (by omega : i + 1 < s.length + 1), x1', ld, c3, asB_b, Bool.not_false, wb, y1', y2', c4, s1, s2]
            | true =>
              rw [hb2] at c3
              have hB0 : B = 0 := by rw [hBd, hb1, hb2]; rfl
              subst hB0
              have c4' : callM (callX F1 ro) ⟨hp, h.length, h.length⟩ 71 [.i .i64 ((2 * a % 2 : Nat) : Int)] = some (.i .u8 ((48 + 2 * a % 2 : Nat) : Int), ⟨hp, h.length, h.length⟩) := c4
              have s1' : stepM ro ⟨hp, h.length, h.length⟩ (.bsl 5 1 [(AVal.i IntKind.u8 0)] 1 [((0, 1), .c (.i .u8 ((48 + 2 * a % 2 : Nat) : Int)))]) = some (v2, ⟨hp2, h.length, h.length⟩) := s1
              simp only [g53_b1, ltI_eq, forceB_eq, decide_eq_true hlt, cond_true, forceI_eq, wa, e_ix hi, bindO_some, asI_i, meansX_call, c1, c2, bindP_some, eqI_eq, hne, Bool.not_true, cond_false, wr_next (by omega : i ≤ 1000000), ixS_eq (by omega : i + 1 < s.length + 1), x1', ld, c3, asB_b, x2', c4', s1', s2]
              rfl
        · show (if r < i + 2 then _ else _) = _
          by_cases e : r < i + 2
          · rw [if_pos e]
          · rw [if_neg e, show r = i + 2 by omega, hG, show (2 * a + B) % 2 = B by omega])
      (fun z hI => by
        obtain ⟨b, cap, hp, rfl, hcap, hv', hb, hlen, hkeep⟩ := hI
        have : decide ((s.length : Int) < (s.length : Int)) = false := lt_no
        refine ⟨(.sl ⟨false, b, 0⟩ (s.length + 2) cap, ⟨hp, h.length, h.length⟩), ?_, b, cap, hp, rfl, hv', hlen, hkeep⟩
        simp only [g53_b1, ltI_eq, forceB_eq, this, cond_false])
      s.length 0 (((bkA u (bw s) s.length 0 : Nat) : Int), .sl ⟨false, hq.length, 0⟩ 2 (.known 2), ((0 : Nat) : Int), ⟨H2, h.length, h.length⟩) (by omega) ⟨_, _, _, rfl, .inr rfl, vb, Nat.le_refl _, by omega, hk2⟩
    have z0 : ((0 : Nat) : Int) = 0 := rfl
    rw [z0] at q1
    have q1' : loopX (fun z : Int × AVal × Int × Mm => g53_b1 (meansX F1 ro) ro u s (.sl ⟨false, h.length, 0⟩ (s.length + 1) (.known (s.length + 1))) (s.length : Int) z.1 z.2.1 z.2.2.1 z.2.2.2) (((tzb (canI u (bw s) s.length 0) : Nat) : Int), .sl ⟨false, hq.length, 0⟩ 2 (.known 2), 0, ⟨H2, h.length, h.length⟩) = some (.sl ⟨false, b, 0⟩ (s.length + 2) cap, ⟨hp, h.length, h.length⟩) := q1
    have hbt := bts_ok (ro := ro) (cap := cap) (l := h.length) (p := h.length) q2 (fun j _ => by have := bkG_le (u := u) (f := bw s) (n := s.length) j; omega)
    simp only [e_len, bindO_some, asI_i, forceI_eq, w1, hmk, bindP_some, ie, s1, w2, meansX_loop, k1, i0, ld0, eqI_eq, e0, forceB_eq, cond_false, meansX_call, c75, m1', p1, m2', p2, sb, q1', hbt, asS_s, if_neg hz, tupA]
    rw [fin_take (by rfl), take_keep (by omega) fun j hj => by rw [q4 j (by omega), k4 j hj]]
    rfl
end Go.Proofs.Ytgbkicelkpagpaa.W

/- Back and Rings of the program. -/
open Go.Vm
set_option linter.unusedVariables false
namespace Go.Proofs.Ytgbkicelkpagpaa.W
open Go

def bkE (n : Int) (s : List UInt8) : Int := if n < 0 ∨ 255 < n then 2 else if rowE s 398 = 0 then (if canI n.toNat (bw s) s.length 0 = 0 then 10 else 0) else rowE s 398
def bkS (n : Int) (s : List UInt8) : List UInt8 := if bkE n s = 0 then backL n.toNat (bw s) s.length else []
theorem rowE_vals (s : List UInt8) (most : Int) : rowE s most = 0 ∨ rowE s most = 3 ∨ rowE s most = 5 := by
  unfold rowE
  split
  · exact .inr (.inl rfl)
  · split
    · exact .inr (.inr rfl)
    · split
      · exact .inr (.inr rfl)
      · exact .inl rfl
theorem rowE_398 {s : List UInt8} (h : (s.length : Int) ≤ 398) : rowE s 400 = rowE s 398 := by
  unfold rowE
  rw [if_neg (by omega : ¬ (400 : Int) < s.length), if_neg (by omega : ¬ (398 : Int) < s.length)]
theorem rowE_long {s : List UInt8} (h : 398 < (s.length : Int)) : rowE s 398 = 3 := by
  unfold rowE; rw [if_pos h]
theorem Back_ok {ro : List ABlk} {h : Heap} {n : Int} {s : List UInt8} : callX F1 ro 20 [.i .i64 n, .s s] h = some (.tup [.s (bkS n s), .i .i64 (bkE n s)], h, h.length, h.length) := by
  refine g20_ok (meansX_ok F1 ro) rfl ?_
  unfold g20
  have c1 := callM_pure (call := callX F1 ro) (l := h.length) (p := h.length) (read_ok (ro := ro) (h := h) (n := n) (s := s)) (Nat.le_refl _) (Nat.le_refl _)
  simp only [meansX_call, c1, bindP_some, e_x0, e_x1, bindO_some, asI_i, eqI_eq, forceB_eq, e_len, ltI_eq]
  by_cases hn : n < 0 ∨ 255 < n
  · have ha : askE n s 400 = 2 := if_pos hn
    have hb : bkE n s = 2 := if_pos hn
    have hS : bkS n s = [] := by rw [bkS, hb]; rfl
    have z1 : ((2 : Int) == 2) = true := rfl
    have z2 : ((2 : Int) == 0) = false := rfl
    simp only [ha, z1, Bool.not_true, cond_false, bindO_some, z2, Bool.not_false, cond_true, hb, hS, tupA]
    exact fin_pure rfl
  · have ha : askE n s 400 = rowE s 400 := if_neg hn
    have hr := rowE_vals s 400
    have h2 : (askE n s 400 == 2) = false := by rw [beq_eq_false_iff_ne, ha]; omega
    by_cases h398 : (398 : Int) < (s.length : Int)
    · have hb : bkE n s = 3 := by rw [bkE, if_neg hn, if_neg (by rw [rowE_long h398]; decide), rowE_long h398]
      have hS : bkS n s = [] := by rw [bkS, hb]; rfl
      simp only [h2, Bool.not_false, cond_true, decide_eq_true h398, bindO_some, hb, hS, tupA]
      exact fin_pure rfl
    · have he : askE n s 400 = rowE s 398 := by rw [ha, rowE_398 (by omega)]
      simp only [h2, Bool.not_false, cond_true, decide_eq_false h398, bindO_some, cond_false]
      by_cases h1 : rowE s 398 = 0
      · have ha0 : askE n s 400 = 0 := by rw [he, h1]
        obtain ⟨p1, p2, p3, p4, p5⟩ := okR_of ha0
        obtain ⟨k, rfl⟩ : ∃ k : Nat, n = (k : Int) := ⟨n.toNat, by omega⟩
        have hU : rdU k s = (k : Int) := if_pos ha0
        have b1 : (askE k s 400 == 0) = true := by rw [ha0]; rfl
        have cb := callM_pure (call := callX F1 ro) (l := h.length) (p := h.length) (back_ok (ro := ro) (h := h) (by omega : k < 256) p5 (by omega)) (Nat.le_refl _) (Nat.le_refl _)
        by_cases hz : canI k (bw s) s.length 0 = 0
        · have hb : bkE k s = 10 := by rw [bkE, if_neg hn, if_pos h1, Int.toNat_natCast, if_pos hz]
          have hS : bkS k s = [] := by rw [bkS, hb]; rfl
          rw [if_pos hz] at cb
          simp only [b1, Bool.not_true, cond_false, hU, cb, bindP_some, e_x0, e_x1, bindO_some, asS_s, asB_b, Bool.not_false, cond_true, hb, hS, tupA]
          exact fin_pure rfl
        · have hb : bkE k s = 0 := by rw [bkE, if_neg hn, if_pos h1, Int.toNat_natCast, if_neg hz]
          have hS : bkS k s = backL k (bw s) s.length := by rw [bkS, if_pos hb]; rfl
          rw [if_neg hz] at cb
          simp only [b1, Bool.not_true, cond_false, hU, cb, bindP_some, e_x0, e_x1, bindO_some, asS_s, asB_b, hb, hS, tupA]
          exact fin_pure rfl
      · have b1 : (rowE s 398 == 0) = false := beq_eq_false_iff_ne.2 h1
        have hb : bkE n s = rowE s 398 := by rw [bkE, if_neg hn, if_neg h1]
        have hS : bkS n s = [] := by rw [bkS, hb, if_neg h1]
        simp only [he, b1, Bool.not_false, cond_true, hb, hS, tupA]
        exact fin_pure rfl

/- Rings -/
def oneF (p j : Nat) : Nat := if j = p then 1 else 0
def sumR (u : Nat) (s : List UInt8) : Nat → Nat
  | 0 => 0
  | p + 1 => sumR u s p + wkN u s (oneF p) s.length p
def rgN (n : Int) (s : List UInt8) : Int := if shE n s = 0 then (sumR n.toNat s 4 : Nat) else 0
theorem oneF_le (p j : Nat) : oneF p j ≤ 1 := by unfold oneF; split <;> omega
theorem ixV4 {g : Nat → Nat} {p : Nat} (hp : p < 4) : evP .e (.ixV 4 1 true (.c (agg4 g)) (.c (.i .i64 (p : Int)))) = some (.i .i64 (g p : Nat)) := by
  rcases (by omega : p = 0 ∨ p = 1 ∨ p = 2 ∨ p = 3) with rfl | rfl | rfl | rfl <;> rfl
theorem sumR_le {u : Nat} {s : List UInt8} (hl : s.length ≤ 50) : ∀ p, p ≤ 4 → sumR u s p ≤ p * 1125899906842624
  | 0, _ => Nat.zero_le _
  | p + 1, hp => by
    have ih := sumR_le (u := u) hl p (by omega)
    have h1 := wkN_le (u := u) (s := s) (from' := oneF p) (fun j _ => oneF_le p j) s.length p (by omega)
    have h2 := pow50 hl
    show sumR u s p + wkN u s (oneF p) s.length p ≤ _
    omega
theorem shE_zero {n : Int} {s : List UInt8} (h1 : shE n s = 0) : askE n s 400 = 0 ∧ s.length ≤ 50 := by
  by_cases hh : askE n s 400 = 0 ∧ 50 < s.length
  · rw [shE, if_pos hh] at h1; cases h1
  · rw [shE, if_neg hh] at h1
    refine ⟨h1, ?_⟩
    rcases Nat.lt_or_ge 50 s.length with h | h
    · exact absurd ⟨h1, h⟩ hh
    · exact h
theorem Rings_ok {ro : List ABlk} {h : Heap} {n : Int} {s : List UInt8} : callX F1 ro 24 [.i .i64 n, .s s] h = some (.tup [.i .i64 (rgN n s), .i .i64 (shE n s)], h, h.length, h.length) := by
  refine g24_ok (meansX_ok F1 ro) rfl ?_
  unfold g24
  have c1 := callM_pure (call := callX F1 ro) (l := h.length) (p := h.length) (short_ok (ro := ro) (h := h) (n := n) (s := s)) (Nat.le_refl _) (Nat.le_refl _)
  unfold rgN
  simp only [meansX_call, c1, bindP_some, e_x0, e_x1, bindO_some, asI_i, eqI_eq, forceB_eq]
  by_cases h1 : shE n s = 0
  · obtain ⟨hask, h50⟩ := shE_zero h1
    obtain ⟨p1, p2, p3, p4, p5⟩ := okR_of hask
    obtain ⟨k, rfl⟩ : ∃ k : Nat, n = (k : Int) := ⟨n.toNat, by omega⟩
    have hU : shU k s = (k : Int) := by rw [shU, if_neg (fun hh => by omega), rdU, if_pos hask]
    obtain ⟨r, k1, hq, rfl, q1, q2⟩ := loop_seq (b := fun z : Int × Int × Mm => g24_b0 (meansX F1 ro) ro s k z.1 z.2.1 z.2.2) 4
      (fun p z => ∃ hp, z = (((sumR k s p : Nat) : Int), (p : Int), ⟨hp, h.length, h.length⟩) ∧ h.length ≤ hp.length ∧ ∀ j, j < h.length → hp[j]? = h[j]?)
      (fun r => ∃ hp, r = (((sumR k s 4 : Nat) : Int), ⟨hp, h.length, h.length⟩) ∧ h.length ≤ hp.length ∧ ∀ j, j < h.length → hp[j]? = h[j]?)
      (fun p z hp4 hI => by
        obtain ⟨hp, rfl, hlen, hkeep⟩ := hI
        have hlt : decide ((p : Int) < 4) = true := by simp; omega
        have ha := al4 (ro := ro) (hp := hp) (l := h.length) (p := h.length)
        have h9 := blk4_0 hp
        generalize hBn : hp ++ [some (blkOf 63 [(AVal.i IntKind.i64 0), (AVal.i IntKind.i64 0), (AVal.i IntKind.i64 0), (AVal.i IntKind.i64 0)])] = Hn at ha h9
        have hLn : Hn.length = hp.length + 1 := by rw [← hBn]; simp
        have hKn : ∀ k, k < hp.length → Hn[k]? = hp[k]? := fun k hk => by rw [← hBn]; exact List.getElem?_append_left hk
        obtain ⟨y, s1, s2⟩ := Vec.set (ro := ro) (l := h.length) (p := h.length) h9 (r := p) hp4 (v := .i .i64 1) rfl rfl rfl
        rw [Nat.min_eq_left hlen] at s1
        have v4 : V4 (Hn.set hp.length y) hp.length (oneF p) := s2.congr fun r hr => by
          show (if r = p then _ else _) = _
          unfold oneF
          by_cases e : r = p
          · rw [if_pos e, if_pos e]; rfl
          · rw [if_neg e, if_neg e]
        have ld := V4.ld4 (ro := ro) (l := h.length) (p := h.length) v4
        have hl2 : (Hn.set hp.length y).length = hp.length + 1 := by rw [List.length_set]; exact hLn
        have cw := callM_pure (call := callX F1 ro) (l := h.length) (p := h.length) (walks_ok (ro := ro) (h := Hn.set hp.length y) (f := oneF p) (by omega : k < 256) p5 h50 (fun j _ => oneF_le p j)) (by omega) (by omega)
        have hs4 := sumR_le (u := k) h50 p (by omega)
        have hs5 := sumR_le (u := k) h50 (p + 1) (by omega)
        have ew : wr .i64 (((sumR k s p : Nat) : Int) + ((wkN k s (oneF p) s.length p : Nat) : Int)) = ((sumR k s (p + 1) : Nat) : Int) := by
          have e : sumR k s (p + 1) = sumR k s p + wkN k s (oneF p) s.length p := rfl
          have h6 : (p + 1) * 1125899906842624 ≤ 4 * 1125899906842624 := Nat.mul_le_mul_right _ (by omega)
          rw [wr_id' (by omega) (by omega)]; omega
        refine ⟨_, ?_, Hn.set hp.length y, rfl, by omega, fun j hj => by rw [List.getElem?_set_ne (by omega), hKn j (by omega), hkeep j hj]⟩
        simp only [g24_b0, ltI_eq, forceB_eq, hlt, cond_true, ha, bindP_some, ixA4 hp4, bindO_some, s1, ld, meansX_call, cw, ixV4 hp4, asI_i, forceI_eq, ew, wr_next (by omega : p ≤ 1000000)])
      (fun z hI => by
        obtain ⟨hp, rfl, hlen, hkeep⟩ := hI
        refine ⟨_, ?_, hp, rfl, hlen, hkeep⟩
        have : decide ((4 : Int) < 4) = false := rfl
        show g24_b0 (meansX F1 ro) ro s k _ 4 _ = _
        simp only [g24_b0, ltI_eq, forceB_eq, this, cond_false])
      4 0 (0, 0, ⟨h, h.length, h.length⟩) rfl ⟨h, rfl, Nat.le_refl _, fun _ _ => rfl⟩
    have z0 : ((0 : Int) == 0) = true := rfl
    simp only [h1, z0, Bool.not_true, cond_false, hU, meansX_loop, k1, bindO_some, if_true, Int.toNat_natCast, tupA]
    rw [fin_take (by rfl), take_keep q1 q2]
  · have b1 : (shE n s == 0) = false := beq_eq_false_iff_ne.2 h1
    simp only [b1, Bool.not_false, cond_true, if_neg h1, tupA]
    exact fin_pure rfl
end Go.Proofs.Ytgbkicelkpagpaa.W

/- The reference's walks: ways, small, sum, one, can; Ways and Rings. -/
open Go.Vm
set_option linter.unusedVariables false
namespace Go.Proofs.Ytgbkicelkpagpaa.W
open Go

/- walks by a function of the letters -/
theorem st1_eq (u c : Nat) (a to : Nat → Nat) (t j : Nat) : st1 u c a to t j = to j + (if j = t % 4 ∧ nx u t = c then a (t / 2) else 0) := by
  unfold st1
  by_cases h1 : nx u t = c
  · by_cases h2 : j = t % 4
    · simp [h1, h2]
    · simp [h1, h2]
  · simp [h1]
theorem nxt_eq {u c : Nat} {a : Nat → Nat} {j : Nat} (hj : j < 4) : nxt u c a j = (if nx u j = c then a (j / 2) else 0) + (if nx u (j + 4) = c then a (j / 2 + 2) else 0) := by
  rcases (by omega : j = 0 ∨ j = 1 ∨ j = 2 ∨ j = 3) with rfl | rfl | rfl | rfl <;> simp [nxt, stp, st1_eq]
/-- a set from which one can go on -/
theorem pos_nxt {u c S : Nat} {g : Nat → Nat} : (∃ j, j < 4 ∧ 0 < nxt u c g j ∧ S.testBit j = true) ↔ ∃ p, p < 4 ∧ 0 < g p ∧ (beV u S c).testBit p = true := by
  constructor
  · rintro ⟨j, hj, hp, hS⟩
    rw [nxt_eq hj] at hp
    by_cases h1 : nx u j = c ∧ 0 < g (j / 2)
    · refine ⟨j / 2, by omega, h1.2, ?_⟩
      rw [beV_bit (by omega)]
      rcases (by omega : j = 2 * (j / 2) ∨ j = 2 * (j / 2) + 1) with e | e
      · have e2 : 2 * (j / 2) % 4 = j := by omega
        rw [e2, hS, ← e, beq_iff.2 h1.1]; rfl
      · have e2 : (2 * (j / 2) + 1) % 4 = j := by omega
        rw [e2, hS, ← e, beq_iff.2 h1.1]; simp
    · have h2 : nx u (j + 4) = c ∧ 0 < g (j / 2 + 2) := by
        by_cases k1 : nx u (j + 4) = c
        · refine ⟨k1, ?_⟩
          rw [if_pos k1] at hp
          by_cases k2 : nx u j = c
          · rw [if_pos k2] at hp
            have : ¬ 0 < g (j / 2) := fun h => h1 ⟨k2, h⟩
            omega
          · rw [if_neg k2] at hp; omega
        · rw [if_neg k1] at hp
          by_cases k2 : nx u j = c
          · rw [if_pos k2] at hp
            exact absurd ⟨k2, by omega⟩ h1
          · rw [if_neg k2] at hp; omega
      refine ⟨j / 2 + 2, by omega, h2.2, ?_⟩
      rw [beV_bit (by omega)]
      rcases (by omega : j = 2 * (j / 2) ∨ j = 2 * (j / 2) + 1) with e | e
      · have e2 : 2 * (j / 2 + 2) % 4 = j := by omega
        have e3 : 2 * (j / 2 + 2) = j + 4 := by omega
        rw [e2, hS, e3, beq_iff.2 h2.1]; rfl
      · have e2 : (2 * (j / 2 + 2) + 1) % 4 = j := by omega
        have e3 : 2 * (j / 2 + 2) + 1 = j + 4 := by omega
        rw [e2, hS, e3, beq_iff.2 h2.1]; simp
  · rintro ⟨p, hp, hg, hS⟩
    rw [beV_bit hp, Bool.or_eq_true, Bool.and_eq_true, Bool.and_eq_true] at hS
    have key : ∀ t, t / 2 = p → S.testBit (t % 4) = true → nx u t = c → t < 8 → ∃ j, j < 4 ∧ 0 < nxt u c g j ∧ S.testBit j = true := by
      intro t ht hSt hn h8
      refine ⟨t % 4, by omega, ?_, hSt⟩
      rw [nxt_eq (by omega)]
      by_cases h4 : t < 4
      · have e : t % 4 = t := by omega
        rw [e, if_pos hn, ht]; omega
      · have e : t % 4 + 4 = t := by omega
        have e2 : t % 4 / 2 + 2 = p := by omega
        rw [e, if_pos hn, e2]; omega
    rcases hS with ⟨h1, h2⟩ | ⟨h1, h2⟩
    · exact key (2 * p) (by omega) h1 (beq_iff.1 h2) (by omega)
    · exact key (2 * p + 1) (by omega) h1 (beq_iff.1 h2) (by omega)

/- one, small, sum -/
/- ways -/
end Go.Proofs.Ytgbkicelkpagpaa.W

/- Sums over all rows; what Back and Ways have to do with one another. -/
open Go.Vm
set_option linter.unusedVariables false
namespace Go.Proofs.Ytgbkicelkpagpaa.W
open Go

theorem ask_row {n : Nat} {s : List UInt8} (hn : n < 256) (hl : s.length ≤ 400) (h0 : 0 < s.length) (hs : okR s) : askE n s 400 = 0 := by
  unfold askE
  rw [if_neg (by omega)]
  unfold rowE
  rw [if_neg (by omega)]
  have he : s.isEmpty = false := by
    cases s with
    | nil => simp at h0
    | cons a l => rfl
  rw [he, if_neg (by decide)]
  have hb : badR s = false := by
    refine List.any_eq_false.2 fun i hi => ?_
    unfold bad
    rcases hs i (List.mem_range.1 hi) with e | e <;> rw [e] <;> decide
  rw [hb]; rfl

/- sums -/
def sumF (F : Nat → Nat) : Nat → Nat
  | 0 => 0
  | k + 1 => sumF F k + F k
theorem sumF_congr {F G : Nat → Nat} : ∀ {k : Nat}, (∀ x, x < k → F x = G x) → sumF F k = sumF G k
  | 0, _ => rfl
  | k + 1, h => by
    show sumF F k + F k = sumF G k + G k
    rw [sumF_congr fun x hx => h x (by omega), h k (by omega)]
theorem sumF_add (F G : Nat → Nat) : ∀ k, sumF (fun x => F x + G x) k = sumF F k + sumF G k
  | 0 => rfl
  | k + 1 => by
    show sumF (fun x => F x + G x) k + (F k + G k) = sumF F k + F k + (sumF G k + G k)
    rw [sumF_add F G k]; omega
theorem sumF_two (F : Nat → Nat) : ∀ k, sumF F (2 * k) = sumF (fun y => F (2 * y) + F (2 * y + 1)) k
  | 0 => rfl
  | k + 1 => by
    rw [show 2 * (k + 1) = 2 * k + 1 + 1 by omega]
    show sumF F (2 * k) + F (2 * k) + F (2 * k + 1) = sumF (fun y => F (2 * y) + F (2 * y + 1)) k + (F (2 * k) + F (2 * k + 1))
    rw [sumF_two F k]; omega
theorem sumF_mono {F : Nat → Nat} {a b : Nat} (h : a ≤ b) : sumF F a ≤ sumF F b := by
  induction b with
  | zero =>
    obtain rfl : a = 0 := by omega
    exact Nat.le_refl _
  | succ b ih =>
    by_cases e : a = b + 1
    · rw [e]; exact Nat.le_refl _
    · have := ih (by omega)
      show _ ≤ sumF F b + F b
      omega

/- each pair goes on to two -/
def tT (a : Nat → Nat) (j : Nat) : Nat := a (j / 2) + a (j / 2 + 2)
def tN (from' : Nat → Nat) : Nat → Nat → Nat
  | 0 => from'
  | m + 1 => tT (tN from' m)
theorem nxt_both (u : Nat) (a : Nat → Nat) {j : Nat} (hj : j < 4) : nxt u 0 a j + nxt u 1 a j = tT a j := by
  rw [nxt_eq hj, nxt_eq hj]
  unfold tT
  have h1 := nx_le u j
  have h2 := nx_le u (j + 4)
  rcases (by omega : nx u j = 0 ∨ nx u j = 1) with e1 | e1 <;> rcases (by omega : nx u (j + 4) = 0 ∨ nx u (j + 4) = 1) with e2 | e2 <;> rw [e1, e2] <;> simp <;> omega
theorem wkN_congr {u : Nat} {s s' : List UInt8} {from' : Nat → Nat} : ∀ {k : Nat}, (∀ i, i < k → bw s i = bw s' i) → wkN u s from' k = wkN u s' from' k
  | 0, _ => rfl
  | k + 1, h => by
    show nxt u (bw s k) (wkN u s from' k) = nxt u (bw s' k) (wkN u s' from' k)
    rw [h k (by omega), wkN_congr fun i hi => h i (by omega)]
theorem plots_bw {x m i : Nat} (hi : i < m) : bw (plotsL x m) i = nx x (m - 1 - i) := by
  have hle := nx_le x (m - 1 - i)
  have e : ch (plotsL x m) i = 48 + nx x (m - 1 - i) := made_ch (g := fun i => 48 + nx x (m - 1 - i)) hi (by show 48 + nx x (m - 1 - i) < 256; omega)
  unfold bw; rw [e]; omega
theorem nx_two {y b t : Nat} (hb : b < 2) : nx (2 * y + b) (t + 1) = nx y t ∧ nx (2 * y + b) 0 = b := by
  unfold nx
  constructor
  · rw [Nat.shiftRight_eq_div_pow, Nat.shiftRight_eq_div_pow, Nat.pow_succ, Nat.mul_comm (2 ^ t) 2, ← Nat.div_div_eq_div_mul, show (2 * y + b) / 2 = y by omega]
  · rw [Nat.shiftRight_zero]; omega
theorem walks_two (u m : Nat) (from' : Nat → Nat) {y b : Nat} (hb : b < 2) : wkN u (plotsL (2 * y + b) (m + 1)) from' (m + 1) = nxt u b (wkN u (plotsL y m) from' m) := by
  show nxt u (bw (plotsL (2 * y + b) (m + 1)) m) (wkN u (plotsL (2 * y + b) (m + 1)) from' m) = _
  rw [plots_bw (by omega : m < m + 1), show m + 1 - 1 - m = 0 by omega, (nx_two (t := 0) hb).2]
  have e : wkN u (plotsL (2 * y + b) (m + 1)) from' m = wkN u (plotsL y m) from' m := wkN_congr fun i hi => by
    rw [plots_bw (by omega : i < m + 1), plots_bw hi, show m + 1 - 1 - i = (m - 1 - i) + 1 by omega, (nx_two hb).1]
  rw [e]
theorem walks_all (u : Nat) (from' : Nat → Nat) : ∀ m j, j < 4 → sumF (fun x => wkN u (plotsL x m) from' m j) (2 ^ m) = tN from' m j
  | 0, j, _ => by
    show 0 + from' j = from' j
    omega
  | m + 1, j, hj => by
    rw [Nat.pow_succ, Nat.mul_comm, sumF_two]
    have e : sumF (fun y => wkN u (plotsL (2 * y) (m + 1)) from' (m + 1) j + wkN u (plotsL (2 * y + 1) (m + 1)) from' (m + 1) j) (2 ^ m) = sumF (fun y => wkN u (plotsL y m) from' m (j / 2) + wkN u (plotsL y m) from' m (j / 2 + 2)) (2 ^ m) :=
      sumF_congr fun y _ => by
        have h0 := walks_two u m from' (y := y) (b := 0) (by omega)
        have h1 := walks_two u m from' (y := y) (b := 1) (by omega)
        rw [Nat.add_zero] at h0
        rw [h0, h1, nxt_both u _ hj]
        rfl
    rw [e, sumF_add, walks_all u from' m (j / 2) (by omega), walks_all u from' m (j / 2 + 2) (by omega)]
    rfl
theorem tab_ways : ∀ m, m < 9 → tN (fun _ => 1) m 0 + tN (fun _ => 1) m 1 + tN (fun _ => 1) m 2 + tN (fun _ => 1) m 3 = 4 * 2 ^ m := by decide +kernel
theorem tab_rings : ∀ m, m < 9 → 0 < m → tN (oneF 0) m 0 + tN (oneF 1) m 1 + tN (oneF 2) m 2 + tN (oneF 3) m 3 = 2 ^ m := by decide +kernel
/-- all rows have as many Ways together as there are rows with two plots more -/
theorem all_ways (u : Nat) {m : Nat} (hm : m < 9) : sumF (fun x => waysV u (plotsL x m)) (2 ^ m) = 4 * 2 ^ m := by
  have e : (fun x => waysV u (plotsL x m)) = fun x => wkN u (plotsL x m) (fun _ => 1) m 0 + wkN u (plotsL x m) (fun _ => 1) m 1 + wkN u (plotsL x m) (fun _ => 1) m 2 + wkN u (plotsL x m) (fun _ => 1) m 3 := by
    funext x; unfold waysV; rw [plotsL_len]
  rw [e, sumF_add, sumF_add, sumF_add, walks_all u _ m 0 (by omega), walks_all u _ m 1 (by omega), walks_all u _ m 2 (by omega), walks_all u _ m 3 (by omega)]
  exact tab_ways m hm
theorem all_rings (u : Nat) {m : Nat} (hm : m < 9) (h0 : 0 < m) : sumF (fun x => sumR u (plotsL x m) 4) (2 ^ m) = 2 ^ m := by
  have e : (fun x => sumR u (plotsL x m) 4) = fun x => wkN u (plotsL x m) (oneF 0) m 0 + wkN u (plotsL x m) (oneF 1) m 1 + wkN u (plotsL x m) (oneF 2) m 2 + wkN u (plotsL x m) (oneF 3) m 3 := by
    funext x; simp only [sumR, plotsL_len, Nat.zero_add]
  rw [e, sumF_add, sumF_add, sumF_add, walks_all u _ m 0 (by omega), walks_all u _ m 1 (by omega), walks_all u _ m 2 (by omega), walks_all u _ m 3 (by omega)]
  exact tab_rings m hm h0

/- Ways above 0 -/
theorem pos_walks {u : Nat} {s : List UInt8} {from' : Nat → Nat} : ∀ i, i ≤ s.length → ((∃ j, j < 4 ∧ 0 < wkN u s from' i j ∧ (canI u (bw s) s.length i).testBit j = true) ↔ ∃ p, p < 4 ∧ 0 < from' p ∧ (canI u (bw s) s.length 0).testBit p = true)
  | 0, _ => Iff.rfl
  | i + 1, hi => by
    rw [← pos_walks i (by omega), canI_step (by omega : i < s.length)]
    exact pos_nxt
theorem t15' : ∀ j, j < 4 → (15 : Nat).testBit j = true := by decide +kernel
theorem some_bit : ∀ x, x < 16 → (x ≠ 0 ↔ ∃ p, p < 4 ∧ x.testBit p = true) := by
  intro x hx
  constructor
  · intro h
    have := List.all_eq_true.1 tz_tab x (List.mem_range.2 hx)
    simp only [Bool.or_eq_true, Bool.and_eq_true] at this
    rcases this with h2 | h2
    · exact absurd (beq_iff.1 h2) h
    · exact ⟨tzb x, by have := h2.1; rwa [Nat.blt_eq] at this, h2.2⟩
  · rintro ⟨p, _, h⟩ rfl
    rw [Nat.zero_testBit] at h; cases h
theorem ways_pos {u : Nat} {s : List UInt8} : 0 < waysV u s ↔ canI u (bw s) s.length 0 ≠ 0 := by
  have h1 := pos_walks (u := u) (s := s) (from' := fun _ => 1) s.length (Nat.le_refl _)
  rw [canI_end] at h1
  rw [some_bit _ canI_lt]
  constructor
  · intro h
    have : ∃ j, j < 4 ∧ 0 < wkN u s (fun _ => 1) s.length j := by
      unfold waysV at h
      by_cases h0 : 0 < wkN u s (fun _ => 1) s.length 0
      · exact ⟨0, by omega, h0⟩
      by_cases h1 : 0 < wkN u s (fun _ => 1) s.length 1
      · exact ⟨1, by omega, h1⟩
      by_cases h2 : 0 < wkN u s (fun _ => 1) s.length 2
      · exact ⟨2, by omega, h2⟩
      exact ⟨3, by omega, by omega⟩
    obtain ⟨j, hj, hp⟩ := this
    obtain ⟨p, k1, _, k2⟩ := h1.1 ⟨j, hj, hp, t15' j hj⟩
    exact ⟨p, k1, k2⟩
  · rintro ⟨p, hp, ht⟩
    obtain ⟨j, hj, k1, _⟩ := h1.2 ⟨p, hp, by omega, ht⟩
    unfold waysV
    rcases (by omega : j = 0 ∨ j = 1 ∨ j = 2 ∨ j = 3) with rfl | rfl | rfl | rfl <;> omega

/- Back becomes the row -/
theorem backL_ch {u : Nat} {f : Nat → Nat} {n j : Nat} (hj : j < n + 2) : ch (backL u f n) j = 48 + bkG u f n j :=
  made_ch (g := fun j => 48 + bkG u f n j) hj (by have := bkG_le (u := u) (f := f) (n := n) j; show 48 + bkG u f n j < 256; omega)
theorem backL_len {u : Nat} {f : Nat → Nat} {n : Nat} : (backL u f n).length = n + 2 := by simp [backL]
theorem backL_row {u : Nat} {f : Nat → Nat} {n : Nat} : okR (backL u f n) := fun i hi => by
  rw [backL_len] at hi
  rw [backL_ch hi]
  have := bkG_le (u := u) (f := f) (n := n) i
  omega
theorem back_grow {u : Nat} {s : List UInt8} (hs : okR s) (hz : canI u (bw s) s.length 0 ≠ 0) : growS u (backL u (bw s) s.length) = s :=
  str_ext (by rw [growS_len, backL_len]; omega) fun i hi => by
    rw [growS_len, backL_len] at hi
    rw [growS_ch (by rw [backL_len]; exact hi)]
    have b0 : bw (backL u (bw s) s.length) i = bkG u (bw s) s.length i := by unfold bw; rw [backL_ch (by omega)]; omega
    have b1 : bw (backL u (bw s) s.length) (i + 1) = bkG u (bw s) s.length (i + 1) := by unfold bw; rw [backL_ch (by omega)]; omega
    have b2 : bw (backL u (bw s) s.length) (i + 2) = bkG u (bw s) s.length (i + 2) := by unfold bw; rw [backL_ch (by omega)]; omega
    have h2 := bkG_two (u := u) (f := bw s) (n := s.length) i
    have h3 := bkG_B (u := u) (f := bw s) (n := s.length) i
    have h4 := bkA_next hz (by omega : i < s.length)
    rw [b0, b1, b2, show 4 * bkG u (bw s) s.length i + 2 * bkG u (bw s) s.length (i + 1) + bkG u (bw s) s.length (i + 2) = 2 * bkA u (bw s) s.length i + bkB u (bw s) s.length (bkA u (bw s) s.length i) i by omega, h4]
    unfold bw
    rcases hs i (by omega) with e | e <;> omega
theorem sh1 : ∀ m, m < 9 → shlV .i64 1 (Int.ofNat m) = Int.ofNat (2 ^ m) ∧ shlV .i64 4 (Int.ofNat m) = Int.ofNat (4 * 2 ^ m) := by decide +kernel
theorem mod8 : ∀ y, y < 256 → wr .i64 (1 + wr .i64 (Int.tmod (Int.ofNat y) 8)) = Int.ofNat (1 + y % 8) := by decide +kernel
end Go.Proofs.Ytgbkicelkpagpaa.W

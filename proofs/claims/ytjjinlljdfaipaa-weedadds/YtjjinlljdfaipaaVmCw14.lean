/- WeedAdds: for every rule, every string and every number the law returns true, and the arguments read behind the call as they read before. No conditions. -/
import Derived.Test.YtjjinlljdfaipaaVmWz
import Derived.ChangeMaps5
open Go.Vm
set_option linter.unusedVariables false
namespace Go.Proofs.Ytjjinlljdfaipaa.W
open Go Go.RowKit Go.Deep Go.WideShapes Go.ChangeShapes Go.ChangeAt

/-- what is known of the calls of the law -/
noncomputable def K14 : Caller := fun f a h =>
  if f = 38 ∨ f = 15 then callX F3 [] f a h else if f = 18 ∨ f = 22 ∨ f = 40 ∨ f = 43 ∨ f = 44 then callX F1 [] f a h else none
noncomputable abbrev F14 : Tab := ⟨F, K14⟩
theorem z3 {f : Nat} {a : List AVal} {h : Heap} {r : AVal × Heap × Nat × Nat} (hf : f = 38 ∨ f = 15) (e : callX F3 [] f a h = some r) : callX F14 [] f a h = some r := callX_ov (by show K14 f a h = _; unfold K14; rw [if_pos hf]; exact e)
theorem z1 {f : Nat} {a : List AVal} {h : Heap} {r : AVal × Heap × Nat × Nat} (hf : f = 18 ∨ f = 22 ∨ f = 40 ∨ f = 43 ∨ f = 44) (e : callX F1 [] f a h = some r) : callX F14 [] f a h = some r := callX_ov (by show K14 f a h = _; unfold K14; rw [if_neg (by omega), if_pos hf]; exact e)
theorem call_of14 (alive : callX ⟨F, noCall⟩ [] 15 [] [] = some (.b true, [], 0, 0)) {W : World} (hE : (Env.mk Try.prog W.heap.size W [] []).Ok) {K : Nat} {vs : List AVal} {args : Array Value}
    (hv : LR [] [] vs args) {h' : Heap} {lw lp : Nat} (hc : callX F14 [] K vs [] = some (.b true, h', lw, lp)) : Calls Try.prog K args W fun e W' => e = .returned (.bool true) ∧ RowKit.Below W.heap.size W W' := by
  have hm : (Env.mk Try.prog W.heap.size W [] []).P.follows .mixedOrders = true := Try.checked.mixed
  have hO : CallOk (Env.mk Try.prog W.heap.size W [] []) (known0 15 (.b true)) := known0_of hE hm fok alive rfl
  have h0 : CallOk (Env.mk Try.prog W.heap.size W [] []) (callX F1 []) := callX_sound hE hm (F := F1) fok hO
  have h1 : CallOk (Env.mk Try.prog W.heap.size W [] []) leafO := le_ok h0 fun _ _ _ _ e => leaf_le e
  have hEb := Env.bare_ok hE
  have hOb : CallOk (Env.mk Try.prog W.heap.size W [] []).bare (known0 15 (.b true)) := known0_of hEb hm fok alive rfl
  have h1b : CallOk (Env.mk Try.prog W.heap.size W [] []).bare leafO := le_ok (callX_sound hEb hm (F := F1) fok hOb) fun _ _ _ _ e => leaf_le e
  have h2b : CallOk (Env.mk Try.prog W.heap.size W [] []).bare (callX F2 []) := callX_sound hEb hm (F := F2) fok h1b
  have h3 : CallOk (Env.mk Try.prog W.heap.size W [] []) allO := or_ok (knownS_ok h2b fun f a v e => ruleK_ok e) h1
  have h5 : CallOk (Env.mk Try.prog W.heap.size W [] []) (callX F3 []) := callX_sound hE hm (F := F3) fok h3
  have h6 : CallOk (Env.mk Try.prog W.heap.size W [] []) K14 := fun f a h v h' lw lp e => by
    unfold K14 at e
    by_cases e1 : f = 38 ∨ f = 15
    · rw [if_pos e1] at e; exact h5 f a h v h' lw lp e
    · rw [if_neg e1] at e
      by_cases e2 : f = 18 ∨ f = 22 ∨ f = 40 ∨ f = 43 ∨ f = 44
      · rw [if_pos e2] at e; exact h0 f a h v h' lw lp e
      · rw [if_neg e2] at e; cases e
  obtain ⟨-, h2⟩ := callX_sound hE hm (F := F14) fok h6 K vs [] _ _ _ _ hc
  refine Calls.mono (h2 [] W args ⟨RowKit.Below.refl _ _, rfl, by simp, fun i b r K hl => by simp [Live] at hl, fun i j b b' r K K' hl => by simp [Live] at hl⟩ hv) fun e w' hq => ?_
  obtain ⟨v', rfl, m', hvr, T⟩ := hq
  exact ⟨by rw [hvr.inv_b], T.hr.below⟩

theorem i64_num14 : ∀ n, n < 256 → wr .i64 (Int.ofNat n) = Int.ofNat n := by decide +kernel
theorem alive_at {h : Heap} : callX F3 [] 15 [] h = some (.b true, h, h.length, h.length) := callX_ov rfl
def sb (x i : Nat) : Nat := (x / 2 ^ (min i IntKind.u64.bits)) % 2
theorem shr64 (x i : Nat) : Int.tmod (shrV .u64 (x : Int) (i : Int)) 2 = ((sb x i : Nat) : Int) := by
  have h1 : shrV .u64 (x : Int) (i : Int) = ((x / 2 ^ (min i IntKind.u64.bits) : Nat) : Int) := by
    unfold shrV
    show Int.fdiv (x : Int) (((2 ^ (min i IntKind.u64.bits) : Nat)) : Int) = _
    rw [Int.fdiv_eq_ediv_of_nonneg _ (Int.natCast_nonneg _)]
    norm_cast
  rw [h1]
  exact tmod_nat _ 2
theorem ix01u : ∀ t, t < 2 → evP .e (.ixStr (.c (AVal.s [48, 49])) (.c (.i .u64 (Int.ofNat t)))) = some (.i .u8 (Int.ofNat (48 + t)))
  | 0, _ => rfl
  | 1, _ => rfl
def sndS (x m : Nat) : List UInt8 := (List.range m).map fun i => UInt8.ofNat (48 + sb x i)
theorem sb_le (x i : Nat) : sb x i ≤ 1 := by unfold sb; omega
theorem snd_len (x m : Nat) : (sndS x m).length = m := by simp [sndS]
theorem snd_row {x m : Nat} : okR (sndS x m) := fun i hi => by
  rw [snd_len] at hi
  have := sb_le x i
  have e : ch (sndS x m) i = 48 + sb x i := made_ch (g := fun j => 48 + sb x j) hi (by omega)
  omega
theorem rowE_50 {s : List UInt8} (h : rowE s 50 = 0) : s.length ≤ 50 ∧ 0 < s.length ∧ okR s := by
  have : askE 0 s 50 = 0 := by rw [askE, if_neg (by omega)]; exact h
  obtain ⟨_, _, h3, h4, h5⟩ := okR_of this
  exact ⟨by omega, h4, h5⟩
theorem askE_14 {n : Nat} {s : List UInt8} (hn : n < 256) (hl : s.length ≤ 400) (h0 : 0 < s.length) (hs : okR s) : askE n s 400 = 0 := by
  unfold askE
  rw [if_neg (by omega)]
  unfold rowE
  rw [if_neg (by omega)]
  have he : s.isEmpty = false := by
    cases s with
    | nil => simp at h0
    | cons a l => rfl
  rw [he, if_neg (by decide)]
  have hb : badR s = false := by
    refine List.any_eq_false.2 fun i hi => ?_
    unfold bad
    rcases hs i (List.mem_range.1 hi) with e | e <;> rw [e] <;> decide
  rw [hb]; rfl
theorem ring_14 {n : Nat} {s : List UInt8} (hn : n < 256) (hl : s.length ≤ 50) (h0 : 0 < s.length) (hs : okR s) : rgE n s 1 = 0 ∧ rgS n s 1 = ringS n s := by
  have h1 : rgE n s 1 = 0 := by rw [rgE, if_pos (askE_14 hn (by omega) h0 hs), if_neg (by omega)]
  exact ⟨h1, if_pos h1⟩
theorem ways_14 {n : Nat} {s : List UInt8} (hn : n < 256) (hl : s.length ≤ 50) (h0 : 0 < s.length) (hs : okR s) : shE n s = 0 ∧ wysV n s = ((waysV n s : Nat) : Int) := by
  have h1 : shE n s = 0 := by rw [shE, askE_14 hn (by omega) h0 hs, if_neg (by omega)]
  exact ⟨h1, if_pos h1⟩
theorem is_chain {n : Nat} : (
    bindO (cond (eqI (n : Int) 0) (forceB (!(addN n == true)) fun c63 => some c63) (
      forceB (eqI (n : Int) 60) fun c37 => bindO (cond c37 (forceB (!(addN n == true)) fun c63_1 => some c63_1) (
        forceB (eqI (n : Int) 90) fun c41 => bindO (cond c41 (forceB (!(addN n == true)) fun c63_2 => some c63_2) (
          forceB (eqI (n : Int) 102) fun c45 => bindO (cond c45 (forceB (!(addN n == true)) fun c63_3 => some c63_3) (
            forceB (eqI (n : Int) 150) fun c49 => bindO (cond c49 (forceB (!(addN n == true)) fun c63_4 => some c63_4) (
              forceB (eqI (n : Int) 170) fun c53 => bindO (cond c53 (forceB (!(addN n == true)) fun c63_5 => some c63_5) (
                forceB (eqI (n : Int) 204) fun c57 => bindO (cond c57 (forceB (!(addN n == true)) fun c63_6 => some c63_6) (
                  forceB (eqI (n : Int) 240) fun c61 => forceB (!(addN n == c61)) fun c63_7 => some c63_7)) fun c64_7 => some c64_7)) fun c64_6 => some c64_6)) fun c64_5 => some c64_5)) fun c64_4 => some c64_4)) fun c64_3 => some c64_3)) fun c64_2 => some c64_2)) fun c64_1 => some c64_1) = some false := by
  have e : ∀ k : Nat, eqI (n : Int) (k : Int) = Nat.beq n k := fun k => by rw [eqI_eq]; exact num_eq n k
  have e0 : eqI (n : Int) 0 = Nat.beq n 0 := e 0
  have e60 : eqI (n : Int) 60 = Nat.beq n 60 := e 60
  have e90 : eqI (n : Int) 90 = Nat.beq n 90 := e 90
  have e102 : eqI (n : Int) 102 = Nat.beq n 102 := e 102
  have e150 : eqI (n : Int) 150 = Nat.beq n 150 := e 150
  have e170 : eqI (n : Int) 170 = Nat.beq n 170 := e 170
  have e204 : eqI (n : Int) 204 = Nat.beq n 204 := e 204
  have e240 : eqI (n : Int) 240 = Nat.beq n 240 := e 240
  simp only [e0, e60, e90, e102, e150, e170, e204, e240, addN, forceB_eq]
  cases Nat.beq n 0 <;> cases Nat.beq n 60 <;> cases Nat.beq n 90 <;> cases Nat.beq n 102 <;> cases Nat.beq n 150 <;> cases Nat.beq n 170 <;> cases Nat.beq n 204 <;> cases Nat.beq n 240 <;> rfl

theorem law14 {n : Nat} (hn : n < 256) (s : List UInt8) (x : Nat) : callX F14 [] 14 [.i .u8 n, .s s, .i .u64 x] [] = some (.b true, [], 0, 0) := by
  refine g14_ok (meansX_ok F14 []) (by show K14 14 _ _ = none; unfold K14; rw [if_neg (by omega), if_neg (by omega)]) ?_
  unfold g14
  have ew : wr .i64 (n : Int) = (n : Int) := i64_num14 n hn
  obtain ⟨f1, f2, f3, f4⟩ := facts hn
  have m4 := callM_pure (call := callX F14 []) (h := []) (l := 0) (p := 0) (z3 (by omega) f4) (Nat.le_refl _) (Nat.le_refl _)
  have cp : ∀ {h : Heap} {f : Nat} {a : List AVal} {v : AVal}, callX F14 [] f a h = some (v, h, h.length, h.length) → callM (callX F14 []) ⟨h, 0, 0⟩ f a = some (v, ⟨h, 0, 0⟩) := fun e => callM_pure (call := callX F14 []) (l := 0) (p := 0) e (Nat.zero_le _) (Nat.zero_le _)
  have d15 : ∀ h, callM (callX F14 []) ⟨h, 0, 0⟩ 15 [] = some (.b true, ⟨h, 0, 0⟩) := fun h => cp (z3 (by omega) alive_at)
  have z0 : ((0 : Int) == 0) = true := rfl
  have fin : ∀ h, finM ([] : Heap).length (tupA [.b true]) ⟨h, 0, 0⟩ = some (.b true, [], 0, 0) := fun h => fin_take (h' := h) (lw := 0) (L := 0) (v := .b true) rfl
  have ch' := is_chain (n := n)
  simp only [forceI_eq, ew]
  show (bindP (callM (meansX F14 []).call ⟨[], 0, 0⟩ 38 [(.i .i64 n)]) _) = _
  simp only [meansX_call, m4, bindP_some, e_x0, e_x1, bindO_some, asB_b, asI_i, eqI_eq, z0, forceB_eq, Bool.not_true, cond_false] at ch' ⊢
  rw [ch']
  simp only [bindO_some, cond_false]
  cases ha : addN n with
  | false =>
    simp only [Bool.not_false, cond_true, bindO_some, d15, bindP_some, asB_b]
    exact fin []
  | true =>
    have c43 := cp (h := []) (z1 (by omega) (Row_ok_any (ro := []) (h := []) (s := s) (most := 50) (by omega)))
    simp only [Bool.not_true, cond_false, c43, bindP_some, asI_i, bindO_some]
    cases hr : (rowE s 50 == 0) with
    | false =>
      simp only [Bool.not_false, cond_true, d15, bindP_some, asB_b]
      exact fin []
    | true =>
      have hz : rowE s 50 = 0 := by simpa using hr
      obtain ⟨hl, h0, hs⟩ := rowE_50 hz
      have hmk := mk_ok (ro := []) (hp := []) (l := 0) (p := 0) (e := 5) (es := 1) (bytes := 1) (v := AVal.i IntKind.u8 0) (n := s.length) (by omega) (by omega)
      obtain ⟨hq, k1, k2, k3, k4⟩ := bytes_loop (ro := []) (h := []) (n := s.length) (g := fun j => 48 + sb x j)
        (b := fun z => g14_b9 (meansX F14 []) [] s x n s.length (.sl ⟨false, 0, 0⟩ s.length (.known s.length)) z.1 z.2)
        (fun k hk => by have := sb_le x k; omega)
        (fun k => k) (fun k j => Nat.blt j k) (fun k hk => hk) (fun j _ => blt_none j) (fun j hj => blt_all hj) (fun k j hk hj => blt_succ hk hj)
        (fun k hk hp' hp'' hL hst => by
          have hlt : ((k : Int) < (s.length : Int)) := by omega
          have e4 : evP .e (.ixStr (.c (AVal.s [48, 49])) (.c (.i .u64 ((sb x k : Nat) : Int)))) = some (.i .u8 ((48 + sb x k : Nat) : Int)) := ix01u _ (by have := sb_le x k; omega)
          have ei := ixS_eq (q := ⟨false, 0, 0⟩) (len := s.length) (cap := .known s.length) (i := k) hk
          have hst' : stepM [] ⟨hp', 0, 0⟩ (.st 1 (.c (.p (some ⟨false, 0, 0 + k⟩))) (.c (.i .u8 ((48 + sb x k : Nat) : Int)))) = some (und, ⟨hp'', 0, 0⟩) := hst
          show g14_b9 _ _ _ _ _ _ _ _ ⟨hp', 0, 0⟩ = some (.inl (_, ⟨hp'', 0, 0⟩))
          simp only [g14_b9, forceB_eq, ltI_eq, decide_eq_true hlt, cond_true, nneg, chk_true, forceI_eq, shr64, e4, bindO_some, asI_i, ei, hst', bindP_some, wr_next (by omega : k ≤ 1000000)])
        (fun mm => by
          have : decide ((s.length : Int) < (s.length : Int)) = false := lt_no
          show g14_b9 _ _ _ _ _ _ _ s.length mm = _
          simp only [g14_b9, forceB_eq, ltI_eq, this, cond_false])
      have k1' : loopX (fun z => g14_b9 (meansX F14 []) [] s x n s.length (.sl ⟨false, 0, 0⟩ s.length (.known s.length)) z.1 z.2) (0, ⟨[some (newBlk 5 (AVal.i IntKind.u8 0) s.length)], 0, 0⟩) = some ⟨hq, 0, 0⟩ := k1
      have k2' : btsM [] ⟨hq, 0, 0⟩ (.sl ⟨false, 0, 0⟩ s.length (.known s.length)) = some (.s (sndS x s.length)) := k2
      have hmk' : stepM [] ⟨[], 0, 0⟩ (.mk 5 1 1 [(AVal.i IntKind.u8 0)] (.c (.i .i64 (s.length : Int))) (.c (.i .i64 (s.length : Int)))) = some (.sl ⟨false, 0, 0⟩ s.length (.known s.length), ⟨[some (newBlk 5 (AVal.i IntKind.u8 0) s.length)], 0, 0⟩) := hmk
      have sl := snd_len x s.length
      have r1 := cp (h := hq) (z1 (by omega) (Ring_ok (ro := []) (h := hq) (n := n) (y := 1) (s := s)))
      obtain ⟨a1, a2⟩ := ring_14 hn hl h0 hs
      have r2 := cp (h := hq) (z1 (by omega) (Ring_ok (ro := []) (h := hq) (n := n) (y := 1) (s := sndS x s.length)))
      obtain ⟨b1, b2⟩ := ring_14 hn (by omega) (by omega) (snd_row (x := x) (m := s.length))
      have c44 := cp (h := hq) (z1 (by omega) (add_ok (ro := []) (h := hq) (a := s) (b := sndS x s.length) hs snd_row sl (by omega)))
      have r3 := cp (h := hq) (z1 (by omega) (Ring_ok (ro := []) (h := hq) (n := n) (y := 1) (s := addS s (sndS x s.length))))
      obtain ⟨c1, c2⟩ := ring_14 (s := addS s (sndS x s.length)) hn (by rw [addS_len]; exact hl) (by rw [addS_len]; exact h0) addS_row
      have w1 := cp (h := hq) (z1 (by omega) (ways_ok (ro := []) (h := hq) (n := n) (s := s)))
      obtain ⟨d1, d2⟩ := ways_14 hn hl h0 hs
      have zz := cp (h := hq) (z1 (by omega) (zer_ok (ro := []) (h := hq) (m := s.length) (by omega)))
      have w2 := cp (h := hq) (z1 (by omega) (ways_ok (ro := []) (h := hq) (n := n) (s := zer s.length)))
      obtain ⟨e1, e2⟩ := ways_14 (s := zer s.length) hn (by rw [zer_len]; exact hl) (by rw [zer_len]; exact h0) zer_row
      have c44' := cp (h := hq) (z1 (by omega) (add_ok (ro := []) (h := hq) (a := ringS n s) (b := ringS n (sndS x s.length)) (ringS_ok h0) (ringS_ok (by omega)) (by rw [ringS_len (by omega), ringS_len h0, sl]) (by rw [ringS_len h0]; omega)))
      rw [a1, a2] at r1
      rw [b1, b2] at r2
      rw [c1, c2, add_ring hs snd_row sl h0 (lin_of hn ha)] at r3
      rw [d1, d2] at w1
      rw [e1, e2] at w2
      have l1 : (((ringS n s).length : Nat) : Int) = (s.length : Int) := by rw [ringS_len h0]
      have l2 : (((ringS n (sndS x s.length)).length : Nat) : Int) = (s.length : Int) := by rw [ringS_len (by omega), sl]
      have lq : ((s.length : Int) == (s.length : Int)) = true := beq_self_eq_true _
      have last' : cond (((waysV n s : Nat) : Int) == 0) (some true) (some (((waysV n s : Nat) : Int) == ((waysV n (zer s.length) : Nat) : Int))) = some true := by
        rcases add_ways hn ha hs with h | h
        · rw [h]; rfl
        · rw [h, beq_self_eq_true]
          cases (((waysV n (zer s.length) : Nat) : Int) == 0) <;> rfl
      simp only [Bool.not_true, cond_false, e_len, bindO_some, asI_i, hmk', bindP_some, meansX_loop, k1', r1, e_x0, e_x1, asS_s, k2', r2, c44, r3, w1, zz, w2, z0, cond_true, l1, l2, lq, c44', e_eq, eqL_self, asB_b, last', d15]
      exact fin hq

set_option maxRecDepth 100000 in
theorem lifted14 (os : Os) (started : os.Started) (H : Type) (enc : TypeId × Value → H) :
    ReturnsInHanded {} Try.checked os 14 .any (Rows.weedAddsSpec.pre6 enc Try.prog Try.f14 Rows.weedAddsRow.domain false) (Rows.weedAddsSpec.post enc Try.prog Try.f14 false true false false) := by
  refine returnsInHanded_of_change (C := Try.checked) own started (by kernel_rfl) Try.func14
    (ChangeSpec.witness6 (enc := enc) (C := Try.checked) false ⟨#[], #[.int .u8 0, .string ⟨#[]⟩, .int .u64 0], []⟩ 8 (by kernel_rfl) (by kernel_rfl) (by kernel_rfl) (by kernel_rfl)) ?_
  intro W base args ds gs before hval0 hW hcnd _
  have hval : ∀ (j : Nat) t v, Try.f14.params[j]? = some t → args[j]? = some v → Value.okWide Try.prog W .any base t v := hval0
  have hW' := hW
  obtain ⟨p, q, hA0, hV, rfl, hfz, hnd⟩ := hW
  have hA : DataW.TrodAll enc Try.prog W 0 (fun _ => true) true Try.f14.params.toList args.toList ds p := hA0
  rw [Try.params14] at hA hval
  obtain ⟨v0, vs0, d0, ds0, p0, q0, hargs, rfl, rfl, h0, r0⟩ := trodAll_cons hA
  obtain ⟨v1, vs1, d1, ds1, p1, q1', rfl, rfl, rfl, h1, r1⟩ := trodAll_cons r0
  obtain ⟨v2, vs2, d2, ds2, p2, q2, rfl, rfl, rfl, h2, r2⟩ := trodAll_cons r1
  obtain ⟨rfl, rfl, rfl⟩ := trodAll_nil r2
  obtain rfl : args = #[v0, v1, v2] := by cases args; simp_all
  obtain ⟨rfl, rfl⟩ := trodVars_none hV
  obtain ⟨n0, rfl, rfl, rfl, w0⟩ := open_int Try.underlying5 (hval 0 5 v0 rfl rfl) h0
  obtain ⟨n1, rfl, rfl, rfl, w1⟩ := ChangeMaps.open_string Try.underlying9 (hval 1 9 v1 rfl rfl) h1
  obtain ⟨n2, rfl, rfl, rfl, w2⟩ := open_int Try.underlying46 (hval 2 46 v2 rfl rfl) h2
  obtain ⟨k, rfl, hk⟩ := u8_nat w0
  obtain ⟨y, rfl⟩ : ∃ y : Nat, n2 = (y : Int) := ⟨n2.toNat, by have := bounds_u64 w2; omega⟩
  clear hA0 hval0
  have hE : (Env.mk Try.prog W.heap.size W [] []).Ok := env_ok fun i b hb => by simp at hb
  refine (call_of14 alive0 hE (vs := [.i .u8 k, .s n1.data.toList, .i .u64 y]) (args := #[.int .u8 k, .string n1, .int .u64 y]) ⟨rfl, fun i w hw => by
    match i with
    | 0 => simp at hw; subst hw; exact .i _ _
    | 1 => simp at hw; subst hw; exact .s n1.data.toList
    | 2 => simp at hw; subst hw; exact .i _ _
    | i + 3 => simp at hw⟩ (law14 hk n1.data.toList y)).mono fun e W' ⟨he, hb⟩ => ?_
  subst he
  exact ⟨_, rfl, ⟨_, _, _, [], [], [], hW', (trodAll_cons_mk (shut_bool Try.underlying4 _) trodAll_mk0), (trodAll_cons_mk (shut_int Try.underlying5 w0) (trodAll_cons_mk (ChangeMaps.shut_string Try.underlying9 w1) (trodAll_cons_mk (shut_int Try.underlying46 w2) trodAll_mk0))), rfl, hb.frame _, fun h => by cases h⟩⟩

theorem over14 : Rows.weedAddsRow.holds Try.pinned (OpenSpec.ofChange Rows.weedAddsSpec) :=
  OpenClaim.holds_of_wide 14 Try.f14 rfl rfl rfl rfl rfl rfl rfl ⟨rfl, rfl, rfl, rfl, rfl⟩ rfl rfl rfl rfl rfl (by kernel_rfl) Try.func14 (by kernel_rfl)
    (of_decide_eq_true (by kernel_rfl)) (by unfold Func.isWrapper; first | (rw [if_pos (by decide +kernel)]; kernel_rfl) | (rw [if_neg (by decide +kernel)]; exact ⟨rfl, rfl⟩))
    (fun os started H enc _ => lifted14 os started H enc)

end Go.Proofs.Ytjjinlljdfaipaa.W

namespace Go.Proofs.Ytjjinlljdfaipaa
/-- the statement -/
theorem weedAdds_holds : Rows.WeedAddsSaid := W.over14
end Go.Proofs.Ytjjinlljdfaipaa
#print axioms Go.Proofs.Ytjjinlljdfaipaa.weedAdds_holds

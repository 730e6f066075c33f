/- The reference's can, Back, Ways and Rings. -/
import Derived.Test.YtgbkicelkpagpaaVmWi
open Go.Vm
set_option linter.unusedVariables false
namespace Go.Proofs.Ytgbkicelkpagpaa.W
open Go

/- cuts of a list -/
theorem cut_one {b off k i : Nat} {cap : Cap} (hc : cap = .grow ∨ cap = .any) (hi : i < k) : ∃ cap', evP .e (.slS 1 (.c (.sl ⟨false, b, off⟩ k cap)) (some (.c (.i .i64 (i : Int)))) (some (.c (.i .i64 ((i + 1 : Nat) : Int)))) none) = some (.sl ⟨false, b, off + i⟩ 1 cap') := by
  have h1 : sbound (some (.i .i64 ((i + 1 : Nat) : Int))) k k = some (i + 1) := by
    show cond (Nat.ble (i + 1) k) (some (i + 1)) none = _
    rw [show Nat.ble (i + 1) k = true by rw [Nat.ble_eq]; omega]; rfl
  have h2 : sbound (some (.i .i64 (i : Int))) 0 (i + 1) = some i := by
    show cond (Nat.ble i (i + 1)) (some i) none = _
    rw [show Nat.ble i (i + 1) = true by rw [Nat.ble_eq]; omega]; rfl
  have hb : capB cap k = k := by rcases hc with rfl | rfl <;> rfl
  cases i with
  | zero =>
    refine ⟨cap, ?_⟩
    have e : ((0 : Nat) : Int) = 0 := rfl
    simp only [evP, ev_slS, opd, sl_lh, Option.map_some, hb, h1, h2, Nat.zero_add, Nat.add_zero]
  | succ i =>
    refine ⟨.any, ?_⟩
    have hlt : Nat.blt (i + 1) k = true := by rw [Nat.blt_eq]; exact hi
    rcases hc with rfl | rfl <;> simp only [evP, ev_slS, opd, sl_lh, Option.map_some, hb, h1, h2, hlt, cond_true, Nat.mul_one, Nat.add_sub_cancel_left]
/-- the rest of a list -/
def IsRest (b n i : Nat) (v : AVal) : Prop := (i < n ∧ ∃ cap, (cap = .grow ∨ cap = .any) ∧ v = .sl ⟨false, b, i⟩ (n - i) cap) ∨ (i = n ∧ v = .esl)
theorem cut_rest {b n i : Nat} (hi : i < n) : ∃ v, evP .e (.slS 1 (.c (.sl ⟨false, b, 0⟩ n .grow)) (some (.c (.i .i64 ((i + 1 : Nat) : Int)))) none none) = some v ∧ IsRest b n (i + 1) v := by
  have h1 : sbound (none : Option AVal) n n = some n := rfl
  have h2 : sbound (some (.i .i64 ((i + 1 : Nat) : Int))) 0 n = some (i + 1) := by
    show cond (Nat.ble (i + 1) n) (some (i + 1)) none = _
    rw [show Nat.ble (i + 1) n = true by rw [Nat.ble_eq]; omega]; rfl
  have hb : capB .grow n = n := rfl
  by_cases hlt : i + 1 < n
  · have hl : Nat.blt (i + 1) n = true := by rw [Nat.blt_eq]; exact hlt
    refine ⟨.sl ⟨false, b, i + 1⟩ (n - (i + 1)) .any, ?_, .inl ⟨hlt, .any, .inr rfl, rfl⟩⟩
    simp only [evP, ev_slS, opd, sl_lh, Option.map_some, Option.map_none, hb, h1, h2, hl, cond_true, Nat.mul_one, Nat.zero_add]
  · have hl : Nat.blt (i + 1) n = false := by rw [← Bool.not_eq_true, Nat.blt_eq]; exact hlt
    refine ⟨.esl, ?_, .inr ⟨by omega, rfl⟩⟩
    simp only [evP, ev_slS, opd, sl_lh, Option.map_some, Option.map_none, hb, h1, h2, hl, cond_false]
theorem rest_all {b n : Nat} (h0 : 0 < n) : IsRest b n 0 (.sl ⟨false, b, 0⟩ n .grow) := .inl ⟨h0, .grow, .inl rfl, rfl⟩

theorem t15 : ∀ j, j < 4 → (15 : Nat).testBit j = true := by decide +kernel
theorem sumT_pos (g : Nat → Nat) : 0 < sumT g 4 ↔ ∃ j, j < 4 ∧ 0 < g j := by
  have e : sumT g 4 = g 0 + g 1 + g 2 + g 3 := by show 0 + g 0 + g 1 + g 2 + g 3 = _; omega
  rw [e]
  constructor
  · intro h
    by_cases h0 : 0 < g 0
    · exact ⟨0, by omega, h0⟩
    by_cases h1 : 0 < g 1
    · exact ⟨1, by omega, h1⟩
    by_cases h2 : 0 < g 2
    · exact ⟨2, by omega, h2⟩
    exact ⟨3, by omega, by omega⟩
  · rintro ⟨j, hj, hp⟩
    rcases (by omega : j = 0 ∨ j = 1 ∨ j = 2 ∨ j = 3) with rfl | rfl | rfl | rfl <;> omega

theorem can_ok {ro : List ABlk} {h : Heap} {u b n i0 p : Nat} {v1 : AVal} {f : Nat → Nat} (hu : u < 256) (hv : Vec h 3 b n (fun i => .i .i64 (f i : Nat))) (hf : ∀ i, i < n → f i < 2) (hn : n ≤ 900) (hr : IsRest b n i0 v1) (hp4 : p < 4) :
    callX F1 ro 55 [.i .i64 u, v1, .i .i64 p] h = some (.b ((canI u f n i0).testBit p), h, h.length, h.length) := by
  refine g55_ok (meansX_ok F1 ro) (by rcases hr with ⟨_, cap, _, rfl⟩ | ⟨_, rfl⟩ <;> rfl) ?_
  unfold g55
  obtain ⟨b1, hp1, c1, nv1⟩ := one_ok (ro := ro) (h := h) hp4
  have c1' := callM_new c1 (Nat.le_refl _)
  have hone : (∃ j, j < 4 ∧ 0 < oneF p j ∧ (canI u f n i0).testBit j = true) ↔ (canI u f n i0).testBit p = true := by
    constructor
    · rintro ⟨j, hj, hpj, ht⟩
      unfold oneF at hpj
      by_cases e : j = p
      · rw [← e]; exact ht
      · rw [if_neg e] at hpj; omega
    · intro ht
      exact ⟨p, hp4, by unfold oneF; rw [if_pos rfl]; omega, ht⟩
  -- the loop, and what is there at its end
  obtain ⟨v', m', k1, b', cap', hp, g, rfl, rfl, hvec, hg1, hiff, hlen, hkeep⟩ : ∃ v' m', loopX (fun z : AVal × Int × Mm => g55_b0 (meansX F1 ro) ro u v1 z.1 z.2.1 z.2.2) (.sl ⟨false, b1, 0⟩ 4 (.known 4), 0, ⟨hp1, h.length, h.length⟩) = some (v', m') ∧
      ∃ b' cap' hp, ∃ g : Nat → Nat, v' = .sl ⟨false, b', 0⟩ 4 cap' ∧ m' = ⟨hp, h.length, h.length⟩ ∧ Vec hp 3 b' 4 (fun j => .i .i64 (g j : Nat)) ∧ (∀ j, j < 4 → g j ≤ 1) ∧ ((∃ j, j < 4 ∧ 0 < g j ∧ (canI u f n n).testBit j = true) ↔ (canI u f n i0).testBit p = true) ∧ h.length ≤ hp.length ∧ ∀ j, j < h.length → hp[j]? = h[j]? := by
    rcases hr with ⟨hlt0, cap, hcap, rfl⟩ | ⟨rfl, rfl⟩
    · have key := loop_all3 (b := fun z : AVal × Int × Mm => g55_b0 (meansX F1 ro) ro u (.sl ⟨false, b, i0⟩ (n - i0) cap) z.1 z.2.1 z.2.2) (n - i0)
        (fun i v m => ∃ b' cap' hp, ∃ g : Nat → Nat, v = .sl ⟨false, b', 0⟩ 4 cap' ∧ m = ⟨hp, h.length, h.length⟩ ∧ Vec hp 3 b' 4 (fun j => .i .i64 (g j : Nat)) ∧ (∀ j, j < 4 → g j ≤ 1) ∧ ((∃ j, j < 4 ∧ 0 < g j ∧ (canI u f n (i0 + i)).testBit j = true) ↔ (canI u f n i0).testBit p = true) ∧ h.length ≤ hp.length ∧ ∀ j, j < h.length → hp[j]? = h[j]?)
        (fun i v m hi hI => by
          obtain ⟨b7, cap7, hp, g, rfl, rfl, hv7, hg1, hiff, hlen, hkeep⟩ := hI
          have hlt : decide ((i : Int) < ((n - i0 : Nat) : Int)) = true := by simp; omega
          obtain ⟨cap', hcut⟩ := cut_one (b := b) (off := i0) hcap hi
          obtain ⟨b8, hp8, c8, nv8⟩ := rways_ok (ro := ro) (cap := cap') (cap2 := cap7) hu (hv.keep (hkeep b hv.lt)) hf (by omega : i0 + i + 1 ≤ n) (by omega) (by omega) hv7 hg1
          have c8' := callM_new c8 hlen
          obtain ⟨b9, hp9, c9, nv9⟩ := small_ok (ro := ro) (cap := .known 4) nv8.vec
          have hl8 : h.length ≤ hp8.length := Nat.le_trans hlen nv8.len
          have c9' := callM_new c9 hl8
          refine ⟨_, _, ?_, b9, .grow, hp9, _, rfl, rfl, nv9.vec, fun j _ => Nat.min_le_right _ _, ?_, Nat.le_trans hl8 nv9.len, fun j hj => by rw [nv9.keep j (by omega), nv8.keep j (by omega), hkeep j hj]⟩
          · simp only [g55_b0, e_lenS, bindO_some, asI_i, ltI_eq, forceB_eq, hlt, cond_true, forceI_eq, wr_next (by omega : i ≤ 1000000), hcut, meansX_call, c8', bindP_some, c9']
          · rw [← hiff, canI_step (by omega : i0 + i < n), ← pos_nxt]
            have e : wkC u (fun t => f (i0 + i + t)) g 1 = nxt u (f (i0 + i)) g := rfl
            rw [e]
            constructor
            · rintro ⟨j, hj, h1, h2⟩
              exact ⟨j, hj, by omega, h2⟩
            · rintro ⟨j, hj, h1, h2⟩
              exact ⟨j, hj, by omega, h2⟩)
        (fun v m _ => by
          have : decide (((n - i0 : Nat) : Int) < ((n - i0 : Nat) : Int)) = false := lt_no
          show g55_b0 (meansX F1 ro) ro u _ v ((n - i0 : Nat) : Int) m = _
          simp only [g55_b0, e_lenS, bindO_some, asI_i, ltI_eq, forceB_eq, this, cond_false])
        (n - i0) 0 (.sl ⟨false, b1, 0⟩ 4 (.known 4)) ⟨hp1, h.length, h.length⟩ (by omega) ⟨b1, .known 4, hp1, _, rfl, rfl, nv1.vec, fun j _ => oneF_le p j, hone, nv1.len, nv1.keep⟩
      obtain ⟨v', m', k1, b', cap', hp, g, rfl, rfl, k2, k3, k4, k5, k6⟩ := key
      rw [show i0 + (n - i0) = n by omega] at k4
      exact ⟨_, _, k1, b', cap', hp, g, rfl, rfl, k2, k3, k4, k5, k6⟩
    · refine ⟨_, _, loopX_out ?_, b1, .known 4, hp1, _, rfl, rfl, nv1.vec, fun j _ => oneF_le p j, hone, nv1.len, nv1.keep⟩
      have el : evP .e (.len false (.c AVal.esl)) = some (.i .i64 0) := rfl
      have : decide ((0 : Int) < 0) = false := rfl
      simp only [g55_b0, el, bindO_some, asI_i, ltI_eq, forceB_eq, this, cond_false]
  have cs := callM_pure (call := callX F1 ro) (l := h.length) (p := h.length) (sum_ok (ro := ro) (cap := cap') hvec (fun j hj => Nat.le_trans (hg1 j hj) (by omega))) hlen hlen
  have hd : decide ((0 : Int) < ((sumT g 4 : Nat) : Int)) = (canI u f n i0).testBit p := by
    rw [canI_end] at hiff
    have h1 : 0 < sumT g 4 ↔ (canI u f n i0).testBit p = true := by
      rw [sumT_pos, ← hiff]
      constructor
      · rintro ⟨j, hj, h1⟩; exact ⟨j, hj, h1, t15 j hj⟩
      · rintro ⟨j, hj, h1, _⟩; exact ⟨j, hj, h1⟩
    cases hb : (canI u f n i0).testBit p
    · rw [hb] at h1
      have : ¬ 0 < sumT g 4 := fun hh => by have := h1.1 hh; cases this
      simp; omega
    · rw [hb] at h1
      have := h1.2 rfl
      simp; omega
  simp only [meansX_call, c1', bindP_some, meansX_loop, k1, bindO_some, cs, asI_i, ltI_eq, hd, forceB_eq, tupA]
  rw [fin_take (by rfl), take_keep hlen hkeep]

/- Ways -/
theorem sumT_ways (u : Nat) (s : List UInt8) : sumT (wkN u s (fun _ => 1) s.length) 4 = waysV u s := by
  simp only [sumT, waysV, Nat.zero_add]
theorem rWays_ok {ro : List ABlk} {h : Heap} {n : Int} {s : List UInt8} (hs : s.length ≤ 1000000) : callX F1 ro 23 [.i .i64 n, .s s] h = some (.tup [.i .i64 (wysV n s), .i .i64 (shE n s)], h, h.length, h.length) := by
  refine g23_ok (meansX_ok F1 ro) rfl ?_
  unfold g23
  have c1 := callM_pure (call := callX F1 ro) (l := h.length) (p := h.length) (asked_ok (ro := ro) (h := h) (n := n) (s := s) (most := 400) hs) (Nat.le_refl _) (Nat.le_refl _)
  simp only [meansX_call, c1, bindP_some, bindO_some, asI_i, eqI_eq, forceB_eq, ltI_eq, e_len]
  by_cases h1 : askE n s 400 = 0
  · have b1 : (askE n s 400 == 0) = true := by rw [h1]; rfl
    obtain ⟨p1, p2, p3, p4, p5⟩ := okR_of h1
    obtain ⟨k, rfl⟩ : ∃ k : Nat, n = (k : Int) := ⟨n.toNat, by omega⟩
    by_cases h50 : 50 < s.length
    · have e : shE k s = 2 := by rw [shE, if_pos ⟨h1, h50⟩]
      have e2 : wysV k s = 0 := by rw [wysV, e]; rfl
      have h50' : ((50 : Int) < (s.length : Int)) := by omega
      simp only [b1, Bool.not_true, cond_false, decide_eq_true h50', cond_true, e, e2, tupA]
      exact fin_pure rfl
    · have e : shE k s = 0 := by rw [shE, if_neg (fun hh => h50 hh.2), h1]
      have e2 : wysV k s = (waysV k s : Nat) := by rw [wysV, if_pos e]; rfl
      have h50' : ¬ ((50 : Int) < (s.length : Int)) := by omega
      obtain ⟨b0, hp0, q1, nv0⟩ := rplots_ok (ro := ro) (h := h) p5 p4 (by omega)
      have c2 := callM_new q1 (Nat.le_refl _)
      have sb : stepM ro ⟨hp0, h.length, h.length⟩ (.bsl 3 1 [(AVal.i IntKind.i64 0)] 4 [((0, 1), .c (.i .i64 1)), ((1, 1), .c (.i .i64 1)), ((2, 1), .c (.i .i64 1)), ((3, 1), .c (.i .i64 1))]) = some (.sl ⟨false, hp0.length, 0⟩ 4 (.known 4), ⟨hp0 ++ [some (blkOf 3 [.i .i64 1, .i .i64 1, .i .i64 1, .i .i64 1])], h.length, h.length⟩) := by
        simp [stepM, stepK, st_bsl, rep, fillA, opd, AVal.cells, splice, newB, St.mm]
      have vb : Vec (hp0 ++ [some (blkOf 3 [.i .i64 1, .i .i64 1, .i .i64 1, .i .i64 1])]) 3 hp0.length 4 (fun j => .i .i64 (((fun _ => 1 : Nat → Nat) j : Nat) : Int)) :=
        ⟨_, lget_last _ _, rfl, Nat.le_refl 4, fun r hr => by
          rw [get_blk]
          rcases (by omega : r = 0 ∨ r = 1 ∨ r = 2 ∨ r = 3) with rfl | rfl | rfl | rfl <;> rfl⟩
      have hl2 : (hp0 ++ [some (blkOf 3 [AVal.i .i64 1, .i .i64 1, .i .i64 1, .i .i64 1])]).length = hp0.length + 1 := by simp
      have hk2 : ∀ j, j < hp0.length → (hp0 ++ [some (blkOf 3 [AVal.i .i64 1, .i .i64 1, .i .i64 1, .i .i64 1])])[j]? = hp0[j]? := fun j hj => List.getElem?_append_left hj
      generalize hp0 ++ [some (blkOf 3 [AVal.i .i64 1, .i .i64 1, .i .i64 1, .i .i64 1])] = H2 at sb vb hl2 hk2
      have hL0 := nv0.len
      obtain ⟨b8, hp8, c8, nv8⟩ := rways_ok (ro := ro) (off := 0) (cap := .grow) (cap2 := .known 4) (by omega : k < 256) (nv0.vec.keep (hk2 b0 nv0.vec.lt)) (fun i hi => (bw_lt p5 hi).1) (by omega : 0 + s.length ≤ s.length) p4 (by omega) vb (fun _ _ => Nat.le_refl 1)
      have c8' := callM_new c8 (by omega : h.length ≤ H2.length)
      have ef : (fun i => bw s (0 + i)) = bw s := by funext i; rw [Nat.zero_add]
      rw [ef, wkC_N] at nv8
      have hl8 : h.length ≤ hp8.length := by have := nv8.len; omega
      have cs := callM_pure (call := callX F1 ro) (l := h.length) (p := h.length) (sum_ok (ro := ro) (cap := .known 4) nv8.vec (fun j hj => Nat.le_trans (wkN_le (fun _ _ => Nat.le_refl 1) _ j hj) (pow50 (by omega)))) hl8 hl8
      rw [sumT_ways] at cs
      simp only [b1, Bool.not_true, cond_false, decide_eq_false h50', c2, bindP_some, sb, c8', cs, asI_i, e, e2, tupA]
      rw [fin_take (by rfl), take_keep hl8 fun j hj => by rw [nv8.keep j (by omega), hk2 j (by omega), nv0.keep j hj]]
  · have b1 : (askE n s 400 == 0) = false := beq_eq_false_iff_ne.2 h1
    have e : shE n s = askE n s 400 := by rw [shE, if_neg (fun hh => h1 hh.1)]
    have e2 : wysV n s = 0 := by rw [wysV, e, if_neg h1]
    simp only [b1, Bool.not_false, cond_true, e, e2, tupA]
    exact fin_pure rfl

/- Rings -/
theorem rRings_ok {ro : List ABlk} {h : Heap} {n : Int} {s : List UInt8} (hs : s.length ≤ 1000000) : callX F1 ro 25 [.i .i64 n, .s s] h = some (.tup [.i .i64 (rgN n s), .i .i64 (shE n s)], h, h.length, h.length) := by
  refine g25_ok (meansX_ok F1 ro) rfl ?_
  unfold g25
  have c1 := callM_pure (call := callX F1 ro) (l := h.length) (p := h.length) (asked_ok (ro := ro) (h := h) (n := n) (s := s) (most := 400) hs) (Nat.le_refl _) (Nat.le_refl _)
  simp only [meansX_call, c1, bindP_some, bindO_some, asI_i, eqI_eq, forceB_eq, ltI_eq, e_len]
  by_cases h1 : askE n s 400 = 0
  · have b1 : (askE n s 400 == 0) = true := by rw [h1]; rfl
    obtain ⟨p1, p2, p3, p4, p5⟩ := okR_of h1
    obtain ⟨k, rfl⟩ : ∃ k : Nat, n = (k : Int) := ⟨n.toNat, by omega⟩
    by_cases h50 : 50 < s.length
    · have e : shE k s = 2 := by rw [shE, if_pos ⟨h1, h50⟩]
      have e2 : rgN k s = 0 := by rw [rgN, e]; rfl
      have h50' : ((50 : Int) < (s.length : Int)) := by omega
      simp only [b1, Bool.not_true, cond_false, decide_eq_true h50', cond_true, e, e2, tupA]
      exact fin_pure rfl
    · have e : shE k s = 0 := by rw [shE, if_neg (fun hh => h50 hh.2), h1]
      have e2 : rgN k s = (sumR k s 4 : Nat) := by rw [rgN, if_pos e]; rfl
      have h50' : ¬ ((50 : Int) < (s.length : Int)) := by omega
      obtain ⟨r, k1, hq, rfl, q1, q2⟩ := loop_seq (b := fun z : Int × Int × Mm => g25_b0 (meansX F1 ro) ro k s z.1 z.2.1 z.2.2) 4
        (fun p z => ∃ hp, z = (((sumR k s p : Nat) : Int), (p : Int), ⟨hp, h.length, h.length⟩) ∧ h.length ≤ hp.length ∧ ∀ j, j < h.length → hp[j]? = h[j]?)
        (fun r => ∃ hp, r = (((sumR k s 4 : Nat) : Int), ⟨hp, h.length, h.length⟩) ∧ h.length ≤ hp.length ∧ ∀ j, j < h.length → hp[j]? = h[j]?)
        (fun p z hp4 hI => by
          obtain ⟨hp, rfl, hlen, hkeep⟩ := hI
          have hlt : decide ((p : Int) < 4) = true := by simp; omega
          obtain ⟨b0, hp0, t1, nv0⟩ := rplots_ok (ro := ro) (h := hp) p5 p4 (by omega)
          have c2 := callM_new t1 hlen
          have hl0 : h.length ≤ hp0.length := Nat.le_trans hlen nv0.len
          obtain ⟨b2, hp2, t2, nv2⟩ := one_ok (ro := ro) (h := hp0) hp4
          have c3 := callM_new t2 hl0
          have hl2 : h.length ≤ hp2.length := Nat.le_trans hl0 nv2.len
          obtain ⟨b8, hp8, t8, nv8⟩ := rways_ok (ro := ro) (off := 0) (cap := .grow) (cap2 := .known 4) (by omega : k < 256) (nv0.vec.keep (nv2.keep b0 nv0.vec.lt)) (fun i hi => (bw_lt p5 hi).1) (by omega : 0 + s.length ≤ s.length) p4 (by omega) nv2.vec (fun j _ => oneF_le p j)
          have c8 := callM_new t8 hl2
          have ef : (fun i => bw s (0 + i)) = bw s := by funext i; rw [Nat.zero_add]
          rw [ef, wkC_N] at nv8
          have hl8 : h.length ≤ hp8.length := Nat.le_trans hl2 nv8.len
          have ld := Vec.ld (ro := ro) (l := h.length) (p := h.length) nv8.vec hp4
          have hs4 := sumR_le (u := k) (by omega : s.length ≤ 50) p (by omega)
          have hs5 := sumR_le (u := k) (by omega : s.length ≤ 50) (p + 1) (by omega)
          have ew : wr .i64 (((sumR k s p : Nat) : Int) + ((wkN k s (oneF p) s.length p : Nat) : Int)) = ((sumR k s (p + 1) : Nat) : Int) := by
            have e : sumR k s (p + 1) = sumR k s p + wkN k s (oneF p) s.length p := rfl
            have h6 : (p + 1) * 1125899906842624 ≤ 4 * 1125899906842624 := Nat.mul_le_mul_right _ (by omega)
            rw [wr_id' (by omega) (by omega)]; omega
          have n0 := nv0.len
          have n2 := nv2.len
          refine ⟨_, ?_, hp8, rfl, hl8, fun j hj => by rw [nv8.keep j (by omega), nv2.keep j (by omega), nv0.keep j (by omega), hkeep j hj]⟩
          simp only [g25_b0, ltI_eq, forceB_eq, hlt, cond_true, meansX_call, c2, bindP_some, c3, c8, ixS_eq hp4, bindO_some, ld, asI_i, forceI_eq, ew, wr_next (by omega : p ≤ 1000000)])
        (fun z hI => by
          obtain ⟨hp, rfl, hlen, hkeep⟩ := hI
          refine ⟨_, ?_, hp, rfl, hlen, hkeep⟩
          have : decide ((4 : Int) < 4) = false := rfl
          show g25_b0 (meansX F1 ro) ro k s _ 4 _ = _
          simp only [g25_b0, ltI_eq, forceB_eq, this, cond_false])
        4 0 (0, 0, ⟨h, h.length, h.length⟩) rfl ⟨h, rfl, Nat.le_refl _, fun _ _ => rfl⟩
      simp only [b1, Bool.not_true, cond_false, decide_eq_false h50', meansX_loop, k1, bindO_some, e, e2, tupA]
      rw [fin_take (by rfl), take_keep q1 q2]
  · have b1 : (askE n s 400 == 0) = false := beq_eq_false_iff_ne.2 h1
    have e : shE n s = askE n s 400 := by rw [shE, if_neg (fun hh => h1 hh.1)]
    have e2 : rgN n s = 0 := by rw [rgN, e, if_neg h1]
    simp only [b1, Bool.not_false, cond_true, e, e2, tupA]
    exact fin_pure rfl
end Go.Proofs.Ytgbkicelkpagpaa.W

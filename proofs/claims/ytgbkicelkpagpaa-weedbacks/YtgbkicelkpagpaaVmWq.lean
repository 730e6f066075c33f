/- The reference's Back. -/
import Derived.Test.YtgbkicelkpagpaaVmWj
open Go.Vm
set_option linter.unusedVariables false
namespace Go.Proofs.Ytgbkicelkpagpaa.W
open Go

/-- the first pair of a set, 4 if it is empty -/
def fbt (x : Nat) : Nat := cond (x.testBit 0) 0 (cond (x.testBit 1) 1 (cond (x.testBit 2) 2 (cond (x.testBit 3) 3 4)))
theorem fbt_num : ∀ x, x < 16 → (x = 0 → fbt x = 4) ∧ (x ≠ 0 → fbt x = tzb x) := by decide +kernel
theorem div4 : ∀ a, a < 4 → wr .i64 (Int.tdiv (Int.ofNat a) 2) = Int.ofNat (a / 2) ∧ Int.tmod (Int.ofNat a) 2 = Int.ofNat (a % 2) ∧ wr .i64 (Int.ofNat (a % 2) * 2) = Int.ofNat (a % 2 * 2) := by decide +kernel
theorem rBack_ok {ro : List ABlk} {h : Heap} {n : Int} {s : List UInt8} (hs : s.length ≤ 1000000) : callX F1 ro 21 [.i .i64 n, .s s] h = some (.tup [.s (bkS n s), .i .i64 (bkE n s)], h, h.length, h.length) := by
  refine g21_ok (meansX_ok F1 ro) rfl ?_
  unfold g21
  have z2 : ((0 : Int) == 0) = true := rfl
  by_cases hn : n < 0 ∨ 255 < n
  · have c1 := callM_pure (call := callX F1 ro) (l := h.length) (p := h.length) (Rule_not (ro := ro) (h := h) hn) (Nat.le_refl _) (Nat.le_refl _)
    have hb : bkE n s = 2 := if_pos hn
    have hS : bkS n s = [] := by rw [bkS, hb]; rfl
    simp only [meansX_call, c1, bindP_some, asB_b, Bool.not_false, forceB_eq, cond_true, hb, hS, tupA]
    exact fin_pure rfl
  · obtain ⟨u, rfl⟩ : ∃ u : Nat, n = (u : Int) := ⟨n.toNat, by omega⟩
    have hu : u < 256 := by omega
    have c1 := callM_pure (call := callX F1 ro) (l := h.length) (p := h.length) (Rule_ok (ro := ro) (h := h) hu) (Nat.le_refl _) (Nat.le_refl _)
    have c2 := callM_pure (call := callX F1 ro) (l := h.length) (p := h.length) (Row_ok (ro := ro) (h := h) (s := s) (most := 398) hs) (Nat.le_refl _) (Nat.le_refl _)
    simp only [meansX_call, c1, bindP_some, asB_b, Bool.not_true, forceB_eq, cond_false, c2, asI_i, eqI_eq]
    by_cases h1 : rowE s 398 = 0
    · have b1 : (rowE s 398 == 0) = true := by rw [h1]; rfl
      have h398 : (s.length : Int) ≤ 398 := by
        unfold rowE at h1
        by_cases e : (398 : Int) < s.length
        · rw [if_pos e] at h1; cases h1
        · omega
      have hask : askE u s 400 = 0 := by rw [askE, if_neg hn, rowE_398 h398, h1]
      obtain ⟨p1, p2, p3, p4, p5⟩ := okR_of hask
      obtain ⟨b0, hp0, q1, nv0⟩ := rplots_ok (ro := ro) (h := h) p5 p4 (by omega)
      have cpl := callM_new q1 (Nat.le_refl _)
      have hf : ∀ i, i < s.length → bw s i < 2 := fun i hi => (bw_lt p5 hi).1
      have can : ∀ (hp : Heap) (i0 p : Nat) (v : AVal), h.length ≤ hp.length → (hp[b0]? = hp0[b0]?) → IsRest b0 s.length i0 v → p < 4 → callM (callX F1 ro) ⟨hp, h.length, h.length⟩ 55 [.i .i64 u, v, .i .i64 p] = some (.b ((canI u (bw s) s.length i0).testBit p), ⟨hp, h.length, h.length⟩) := fun hp i0 p v hlen hk hr hp4 =>
        callM_pure (call := callX F1 ro) (l := h.length) (p := h.length) (can_ok (ro := ro) hu (nv0.vec.keep hk) hf (by omega) hr hp4) hlen hlen
      have hS16 := canI_lt (u := u) (f := bw s) (n := s.length) (i := 0)
      -- the first pair
      have first : loopX (fun z : Int × Mm => g21_b0 (meansX F1 ro) ro u (.sl ⟨false, b0, 0⟩ s.length .grow) z.1 z.2) (0, ⟨hp0, h.length, h.length⟩) = some (((fbt (canI u (bw s) s.length 0) : Nat) : Int), ⟨hp0, h.length, h.length⟩) := by
        have step : ∀ p, p < 4 → g21_b0 (meansX F1 ro) ro u (.sl ⟨false, b0, 0⟩ s.length .grow) ((p : Nat) : Int) ⟨hp0, h.length, h.length⟩ = some (cond ((canI u (bw s) s.length 0).testBit p) (.inr (((p : Nat) : Int), ⟨hp0, h.length, h.length⟩)) (.inl (((p + 1 : Nat) : Int), ⟨hp0, h.length, h.length⟩))) := fun p hp4 => by
          have hlt : decide ((p : Int) < 4) = true := by simp; omega
          have cc := can hp0 0 p _ nv0.len rfl (rest_all p4) hp4
          cases hb : (canI u (bw s) s.length 0).testBit p with
          | false =>
            rw [hb] at cc
            simp only [g21_b0, ltI_eq, forceB_eq, hlt, cond_true, meansX_call, cc, bindP_some, asB_b, Bool.not_false, bindO_some, forceI_eq, wr_next (by omega : p ≤ 1000000), cond_false]
          | true =>
            rw [hb] at cc
            simp only [g21_b0, ltI_eq, forceB_eq, hlt, cond_true, meansX_call, cc, bindP_some, asB_b, Bool.not_true, bindO_some, cond_false]
        have s0 := step 0 (by omega)
        have s1 := step 1 (by omega)
        have s2 := step 2 (by omega)
        have s3 := step 3 (by omega)
        have s4 : g21_b0 (meansX F1 ro) ro u (.sl ⟨false, b0, 0⟩ s.length .grow) ((4 : Nat) : Int) ⟨hp0, h.length, h.length⟩ = some (.inr (((4 : Nat) : Int), ⟨hp0, h.length, h.length⟩)) := by
          have : decide (((4 : Nat) : Int) < 4) = false := rfl
          simp only [g21_b0, ltI_eq, forceB_eq, this, cond_false, bindO_some]
        unfold fbt
        cases t0 : (canI u (bw s) s.length 0).testBit 0 with
        | true => rw [t0] at s0; exact loopX_out s0
        | false =>
          rw [t0] at s0
          refine loopX_on (s' := (((1 : Nat) : Int), (⟨hp0, h.length, h.length⟩ : Mm))) s0 ?_
          cases t1 : (canI u (bw s) s.length 0).testBit 1 with
          | true => rw [t1] at s1; exact loopX_out s1
          | false =>
            rw [t1] at s1
            refine loopX_on (s' := (((2 : Nat) : Int), (⟨hp0, h.length, h.length⟩ : Mm))) s1 ?_
            cases t2 : (canI u (bw s) s.length 0).testBit 2 with
            | true => rw [t2] at s2; exact loopX_out s2
            | false =>
              rw [t2] at s2
              refine loopX_on (s' := (((3 : Nat) : Int), (⟨hp0, h.length, h.length⟩ : Mm))) s2 ?_
              cases t3 : (canI u (bw s) s.length 0).testBit 3 with
              | true => rw [t3] at s3; exact loopX_out s3
              | false =>
                rw [t3] at s3
                exact loopX_on (s' := (((4 : Nat) : Int), (⟨hp0, h.length, h.length⟩ : Mm))) s3 (loopX_out s4)
      obtain ⟨f1, f2⟩ := fbt_num _ hS16
      by_cases hz : canI u (bw s) s.length 0 = 0
      · have hb : bkE u s = 10 := by rw [bkE, if_neg hn, if_pos h1, Int.toNat_natCast, if_pos hz]
        have hS : bkS u s = [] := by rw [bkS, hb]; rfl
        rw [f1 hz] at first
        have e4 : (((4 : Nat) : Int) == 4) = true := rfl
        simp only [b1, Bool.not_true, cond_false, cpl, bindP_some, meansX_loop, first, bindO_some, e4, cond_true, hb, hS, tupA]
        rw [fin_take (by rfl), take_keep nv0.len nv0.keep]
      · have hb : bkE u s = 0 := by rw [bkE, if_neg hn, if_pos h1, Int.toNat_natCast, if_neg hz]
        have hS : bkS u s = backL u (bw s) s.length := by rw [bkS, if_pos hb]; rfl
        rw [f2 hz] at first
        have a4 := bkA_lt (u := u) (f := bw s) (n := s.length) 0
        have first' : loopX (fun z : Int × Mm => g21_b0 (meansX F1 ro) ro u (.sl ⟨false, b0, 0⟩ s.length .grow) z.1 z.2) (0, ⟨hp0, h.length, h.length⟩) = some (((bkA u (bw s) s.length 0 : Nat) : Int), ⟨hp0, h.length, h.length⟩) := first
        have e4 : (((bkA u (bw s) s.length 0 : Nat) : Int) == 4) = false := by rw [beq_eq_false_iff_ne]; omega
        obtain ⟨d1, d2, d3⟩ := div4 _ a4
        have d1' : wr .i64 (Int.tdiv ((bkA u (bw s) s.length 0 : Nat) : Int) 2) = ((bkG u (bw s) s.length 0 : Nat) : Int) := d1
        have d2' : Int.tmod ((bkA u (bw s) s.length 0 : Nat) : Int) 2 = ((bkG u (bw s) s.length 1 : Nat) : Int) := d2
        have sb : stepM ro ⟨hp0, h.length, h.length⟩ (.bsl 3 1 [(AVal.i IntKind.i64 0)] 2 [((0, 1), .c (.i .i64 ((bkG u (bw s) s.length 0 : Nat) : Int))), ((1, 1), .c (.i .i64 ((bkG u (bw s) s.length 1 : Nat) : Int)))]) = some (.sl ⟨false, hp0.length, 0⟩ 2 (.known 2), ⟨hp0 ++ [some (blkOf 3 [.i .i64 ((bkG u (bw s) s.length 0 : Nat) : Int), .i .i64 ((bkG u (bw s) s.length 1 : Nat) : Int)])], h.length, h.length⟩) := by
          simp [stepM, stepK, st_bsl, rep, fillA, opd, AVal.cells, splice, newB, St.mm]
        have vb : Vec (hp0 ++ [some (blkOf 3 [.i .i64 ((bkG u (bw s) s.length 0 : Nat) : Int), .i .i64 ((bkG u (bw s) s.length 1 : Nat) : Int)])]) 3 hp0.length 2 (fun j => .i .i64 ((bkG u (bw s) s.length j : Nat) : Int)) :=
          ⟨_, lget_last _ _, rfl, Nat.le_refl 2, fun r hr => by
            rw [get_blk]
            rcases (by omega : r = 0 ∨ r = 1) with rfl | rfl <;> rfl⟩
        have hl2 : (hp0 ++ [some (blkOf 3 [AVal.i .i64 ((bkG u (bw s) s.length 0 : Nat) : Int), .i .i64 ((bkG u (bw s) s.length 1 : Nat) : Int)])]).length = hp0.length + 1 := by simp
        have hk2 : ∀ j, j < hp0.length → (hp0 ++ [some (blkOf 3 [AVal.i .i64 ((bkG u (bw s) s.length 0 : Nat) : Int), .i .i64 ((bkG u (bw s) s.length 1 : Nat) : Int)])])[j]? = hp0[j]? := fun j hj => List.getElem?_append_left hj
        generalize hp0 ++ [some (blkOf 3 [AVal.i .i64 ((bkG u (bw s) s.length 0 : Nat) : Int), .i .i64 ((bkG u (bw s) s.length 1 : Nat) : Int)])] = H2 at sb vb hl2 hk2
        have hL0 := nv0.len
        obtain ⟨r, q1, b, cap, hp, rfl, q2, q3, q4⟩ := loop_seq (b := fun z : Int × AVal × Int × Mm => g21_b2 (meansX F1 ro) ro u (.sl ⟨false, b0, 0⟩ s.length .grow) z.1 z.2.1 z.2.2.1 z.2.2.2) s.length
          (fun i z => ∃ b cap hp, z = (((bkA u (bw s) s.length i : Nat) : Int), .sl ⟨false, b, 0⟩ (i + 2) cap, (i : Int), ⟨hp, h.length, h.length⟩) ∧ (cap = .grow ∨ cap = .known (i + 2)) ∧ Vec hp 3 b (i + 2) (fun j => .i .i64 ((bkG u (bw s) s.length j : Nat) : Int)) ∧ hp0.length ≤ b ∧ hp0.length ≤ hp.length ∧ ∀ j, j < hp0.length → hp[j]? = hp0[j]?)
          (fun r => ∃ b cap hp, r = (.sl ⟨false, b, 0⟩ (s.length + 2) cap, ⟨hp, h.length, h.length⟩) ∧ Vec hp 3 b (s.length + 2) (fun j => .i .i64 ((bkG u (bw s) s.length j : Nat) : Int)) ∧ hp0.length ≤ hp.length ∧ ∀ j, j < hp0.length → hp[j]? = hp0[j]?)
          (fun i z hi hI => by
            obtain ⟨b, cap, hp, rfl, hcap, hv', hb', hlen, hkeep⟩ := hI
            have hlt : decide ((i : Int) < (s.length : Int)) = true := by simp; omega
            have a4 := bkA_lt (u := u) (f := bw s) (n := s.length) i
            have hA : bkA u (bw s) s.length (i + 1) = (2 * bkA u (bw s) s.length i + bkB u (bw s) s.length (bkA u (bw s) s.length i) i) % 4 := rfl
            have hG := bkG_B (u := u) (f := bw s) (n := s.length) i
            have hBle := bkB_le u (bw s) s.length (bkA u (bw s) s.length i) i
            have hnext := bkA_next hz hi
            have hinn := bkA_ok hz (i + 1) (by omega)
            have hBd : bkB u (bw s) s.length (bkA u (bw s) s.length i) i = cond (Nat.beq (nx u (2 * bkA u (bw s) s.length i)) (bw s i) && (canI u (bw s) s.length (i + 1)).testBit (2 * bkA u (bw s) s.length i % 4)) 0 1 := rfl
            rw [hA] at hinn
            generalize bkA u (bw s) s.length i = a at *
            generalize bkB u (bw s) s.length a i = B at *
            have hm : h.length ≤ hp.length := by omega
            obtain ⟨d1, d2, d3⟩ := div4 a a4
            have d1' : wr .i64 (Int.tdiv ((a : Nat) : Int) 2) = ((a / 2 : Nat) : Int) := d1
            have d2' : Int.tmod ((a : Nat) : Int) 2 = ((a % 2 : Nat) : Int) := d2
            have d3' : wr .i64 (((a % 2 : Nat) : Int) * 2) = ((a % 2 * 2 : Nat) : Int) := d3
            have d4 : ∀ r : Nat, r < 2 → wr .i64 (((a % 2 * 2 : Nat) : Int) + (r : Int)) = (((2 * a + r) % 4 : Nat) : Int) := fun r hr => by rw [wr_id' (by omega) (by omega)]; omega
            have lb := Vec.lda (ro := ro) (nv0.vec.keep (hkeep b0 nv0.vec.lt)) (i := i) hi
            obtain ⟨vr, hcut, hrest⟩ := cut_rest (b := b0) hi
            have cb : ∀ r : Nat, r < 2 → callN (callX F1 ro) hp 49 [.i .i64 u, .i .i64 ((a / 2 : Nat) : Int), .i .i64 ((a % 2 : Nat) : Int), .i .i64 r] = some (.i .i64 (nx u (2 * a + r) : Nat)) := fun r hr => by
              have := callN_pure (call := callX F1 ro) (becomes_ok (ro := ro) (h := hp) hu (by omega : a / 2 < 2) (by omega : a % 2 < 2) hr) rfl rfl
              rwa [show 4 * (a / 2) + 2 * (a % 2) + r = 2 * a + r by omega] at this
            have cc : ∀ r : Nat, callM (callX F1 ro) ⟨hp, h.length, h.length⟩ 55 [.i .i64 u, vr, .i .i64 (((2 * a + r) % 4 : Nat) : Int)] = some (.b ((canI u (bw s) s.length (i + 1)).testBit ((2 * a + r) % 4)), ⟨hp, h.length, h.length⟩) := fun r =>
              can hp (i + 1) _ vr hm (hkeep b0 nv0.vec.lt) hrest (Nat.mod_lt _ (by omega))
            obtain ⟨v2, hp2, hp3, b3, s1, s2, g1, g2, g3, g4⟩ := push_any (ro := ro) (L := h.length) (bytes := 8) (z := AVal.i IntKind.i64 0) (w := .i .i64 ((B : Nat) : Int)) hcap hv' (by omega) (by omega) (by omega) (by omega) hm rfl rfl
            -- the plot that is taken
            have hit : ∀ r, r = B → g21_b3 (meansX F1 ro) ro u (.sl ⟨false, b0, 0⟩ s.length .grow) i a (.sl ⟨false, b, 0⟩ (i + 2) cap) ((r : Nat) : Int) ⟨hp, h.length, h.length⟩ = some (.inr ((((2 * a + B) % 4 : Nat) : Int), .sl ⟨false, b3, 0⟩ (i + 2 + 1) .grow, ⟨hp3, h.length, h.length⟩)) := fun r hrB => by
              subst hrB
              have hr2 : decide ((r : Int) < 2) = true := by simp; omega
              have hcmp := num_eq (nx u (2 * a + r)) (bw s i)
              rw [show Nat.beq (nx u (2 * a + r)) (bw s i) = true from beq_iff.2 hnext] at hcmp
              have hcc := cc r
              rw [hinn] at hcc
              simp only [g21_b3, ltI_eq, forceB_eq, hr2, cond_true, forceI_eq, d1', d2', ixS_eq hi, bindO_some, meansX_call, cb r (by omega), asI_i, lb, eqI_eq, hcmp, wr_next (by omega : i ≤ 1000000), hcut, d3', d4 r (by omega), hcc, bindP_some, asB_b, s1, s2]
            have miss : B = 1 → g21_b3 (meansX F1 ro) ro u (.sl ⟨false, b0, 0⟩ s.length .grow) i a (.sl ⟨false, b, 0⟩ (i + 2) cap) ((0 : Nat) : Int) ⟨hp, h.length, h.length⟩ = some (.inl (((a : Nat) : Int), .sl ⟨false, b, 0⟩ (i + 2) cap, ((0 + 1 : Nat) : Int), ⟨hp, h.length, h.length⟩)) := fun hB1 => by
              have hr2 : decide (((0 : Nat) : Int) < 2) = true := rfl
              have hcmp := num_eq (nx u (2 * a + 0)) (bw s i)
              have hcc := cc 0
              have hno : (Nat.beq (nx u (2 * a)) (bw s i) && (canI u (bw s) s.length (i + 1)).testBit (2 * a % 4)) = false := by
                cases hb : (Nat.beq (nx u (2 * a)) (bw s i) && (canI u (bw s) s.length (i + 1)).testBit (2 * a % 4))
                · rfl
                · rw [hb, hB1] at hBd; cases hBd
              cases hb : Nat.beq (nx u (2 * a)) (bw s i) with
              | false =>
                rw [show Nat.beq (nx u (2 * a + 0)) (bw s i) = false from hb] at hcmp
                simp only [g21_b3, ltI_eq, forceB_eq, hr2, cond_true, forceI_eq, d1', d2', ixS_eq hi, bindO_some, meansX_call, cb 0 (by omega), asI_i, lb, eqI_eq, hcmp, cond_false, wr_next (by omega : 0 ≤ 1000000)]
              | true =>
                rw [hb, Bool.true_and] at hno
                rw [show Nat.beq (nx u (2 * a + 0)) (bw s i) = true from hb] at hcmp
                rw [show (canI u (bw s) s.length (i + 1)).testBit ((2 * a + 0) % 4) = false from hno] at hcc
                simp only [g21_b3, ltI_eq, forceB_eq, hr2, cond_true, forceI_eq, d1', d2', ixS_eq hi, bindO_some, meansX_call, cb 0 (by omega), asI_i, lb, eqI_eq, hcmp, wr_next (by omega : i ≤ 1000000), hcut, d3', d4 0 (by omega), hcc, bindP_some, asB_b, cond_false, wr_next (by omega : 0 ≤ 1000000)]
            have inner : loopX (fun z : Int × AVal × Int × Mm => g21_b3 (meansX F1 ro) ro u (.sl ⟨false, b0, 0⟩ s.length .grow) i z.1 z.2.1 z.2.2.1 z.2.2.2) (((a : Nat) : Int), .sl ⟨false, b, 0⟩ (i + 2) cap, 0, ⟨hp, h.length, h.length⟩) = some ((((2 * a + B) % 4 : Nat) : Int), .sl ⟨false, b3, 0⟩ (i + 2 + 1) .grow, ⟨hp3, h.length, h.length⟩) := by
              rcases (by omega : B = 0 ∨ B = 1) with hB0 | hB1
              · exact loopX_out (hit 0 hB0.symm)
              · exact loopX_on (s' := (((a : Nat) : Int), AVal.sl ⟨false, b, 0⟩ (i + 2) cap, ((1 : Nat) : Int), (⟨hp, h.length, h.length⟩ : Mm))) (miss hB1) (loopX_out (hit 1 hB1.symm))
            refine ⟨(((((2 * a + B) % 4 : Nat)) : Int), .sl ⟨false, b3, 0⟩ (i + 2 + 1) .grow, ((i + 1 : Nat) : Int), ⟨hp3, h.length, h.length⟩), ?_, b3, .grow, hp3, by rw [hA], .inl rfl, g2.congr fun r hr => ?_, by omega, by omega, fun j hj => by rw [g4 j (by omega) (by omega), hkeep j hj]⟩
            · simp only [g21_b2, e_lenS, bindO_some, asI_i, ltI_eq, forceB_eq, hlt, cond_true, meansX_loop, inner, forceI_eq, wr_next (by omega : i ≤ 1000000)]
            · show (if r < i + 2 then _ else _) = _
              by_cases e : r < i + 2
              · rw [if_pos e]
              · rw [if_neg e, show r = i + 2 by omega, hG])
          (fun z hI => by
            obtain ⟨b, cap, hp, rfl, hcap, hv', hb', hlen, hkeep⟩ := hI
            have : decide ((s.length : Int) < (s.length : Int)) = false := lt_no
            refine ⟨(.sl ⟨false, b, 0⟩ (s.length + 2) cap, ⟨hp, h.length, h.length⟩), ?_, b, cap, hp, rfl, hv', hlen, hkeep⟩
            simp only [g21_b2, e_lenS, bindO_some, asI_i, ltI_eq, forceB_eq, this, cond_false])
          s.length 0 (((bkA u (bw s) s.length 0 : Nat) : Int), .sl ⟨false, hp0.length, 0⟩ 2 (.known 2), ((0 : Nat) : Int), ⟨H2, h.length, h.length⟩) (by omega) ⟨_, _, _, rfl, .inr rfl, vb, Nat.le_refl _, by omega, hk2⟩
        have z0 : ((0 : Nat) : Int) = 0 := rfl
        rw [z0] at q1
        have hlq : h.length ≤ hp.length := by omega
        have cw := callM_pure (call := callX F1 ro) (l := h.length) (p := h.length) (rrow_ok (ro := ro) (cap := cap) q2 (by omega)) hlq hlq
        have hrow : rowL (s.length + 2) (bkG u (bw s) s.length) = backL u (bw s) s.length :=
          str_ext (by rw [rowL_len]; simp [backL]) fun j hj => by
            rw [rowL_len] at hj
            have hle := bkG_le (u := u) (f := bw s) (n := s.length) j
            have e2 : ch (backL u (bw s) s.length) j = 48 + bkG u (bw s) s.length j := made_ch (g := fun j => 48 + bkG u (bw s) s.length j) hj (by show 48 + bkG u (bw s) s.length j < 256; omega)
            rw [rowL_ch hj, e2]
            rcases (by omega : bkG u (bw s) s.length j = 0 ∨ bkG u (bw s) s.length j = 1) with e | e <;> rw [e] <;> rfl
        rw [hrow] at cw
        simp only [b1, Bool.not_true, cond_false, cpl, bindP_some, meansX_loop, first', bindO_some, e4, forceI_eq, d1', d2', sb, q1, cw, asS_s, hb, hS, tupA]
        rw [fin_take (by rfl), take_keep hlq fun j hj => by rw [q4 j (by omega), nv0.keep j hj]]
    · have b1 : (rowE s 398 == 0) = false := beq_eq_false_iff_ne.2 h1
      have hb : bkE u s = rowE s 398 := by rw [bkE, if_neg hn, if_neg h1]
      have hS : bkS u s = [] := by rw [bkS, hb, if_neg h1]
      simp only [b1, Bool.not_false, cond_true, hb, hS, tupA]
      exact fin_pure rfl
end Go.Proofs.Ytgbkicelkpagpaa.W

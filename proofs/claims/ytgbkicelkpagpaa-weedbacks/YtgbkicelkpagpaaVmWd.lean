/- Back and Rings: what they answer. -/
import Derived.Test.YtgbkicelkpagpaaVmWc
open Go.Vm
set_option linter.unusedVariables false
namespace Go.Proofs.Ytgbkicelkpagpaa.W
open Go

theorem back_ok {ro : List ABlk} {h : Heap} {u : Nat} {s : List UInt8} (hu : u < 256) (hs : okR s) (hl : s.length ≤ 900) :
    callX F1 ro 53 [.i .u8 u, .s s] h = some (.tup (if canI u (bw s) s.length 0 = 0 then [.s [], .b false] else [.s (backL u (bw s) s.length), .b true]), h, h.length, h.length) := by
  refine g53_ok (meansX_ok F1 ro) rfl ?_
  unfold g53
  have w1 : wr .i64 ((s.length : Int) + 1) = ((s.length + 1 : Nat) : Int) := wr_next (by omega)
  have w2 : wr .i64 ((s.length : Int) - 1) = (s.length : Int) - 1 := wr_id' (by omega) (by omega)
  have hmk := mk_ok (ro := ro) (hp := h) (l := h.length) (p := h.length) (e := 82) (es := 1) (bytes := 1) (v := AVal.i IntKind.u8 0) (n := s.length + 1) (by omega) (by omega)
  have hv := Vec.new h 82 (s.length + 1) (AVal.i IntKind.u8 0)
  generalize hB : h ++ [some (newBlk 82 (AVal.i IntKind.u8 0) (s.length + 1))] = H at hmk hv
  have hL : H.length = h.length + 1 := by rw [← hB]; simp
  have hK : ∀ k, k < h.length → H[k]? = h[k]? := fun k hk => by rw [← hB]; exact List.getElem?_append_left hk
  obtain ⟨y, s1, s2⟩ := Vec.set (ro := ro) (l := h.length) (p := h.length) hv (r := s.length) (by omega) (v := .i .u8 15) rfl rfl rfl
  rw [Nat.min_self] at s1
  have ie := ixS_eq (q := ⟨false, h.length, 0⟩) (len := s.length + 1) (cap := .known (s.length + 1)) (i := s.length) (by omega)
  obtain ⟨hq, k1, k2, k3, k4⟩ : ∃ hq, loopX (fun z : Int × Mm => g53_b0 (meansX F1 ro) ro u s (.sl ⟨false, h.length, 0⟩ (s.length + 1) (.known (s.length + 1))) z.1 z.2) ((s.length : Int) - 1, ⟨H.set h.length y, h.length, h.length⟩) = some ⟨hq, h.length, h.length⟩ ∧
      Vec hq 82 h.length (s.length + 1) (fun r => .i .u8 (canI u (bw s) s.length r : Nat)) ∧ hq.length = h.length + 1 ∧ ∀ j, j < h.length → hq[j]? = h[j]? := by
    obtain ⟨r, k1, hq, rfl, k2⟩ := loop_seq (b := fun z : Int × Mm => g53_b0 (meansX F1 ro) ro u s (.sl ⟨false, h.length, 0⟩ (s.length + 1) (.known (s.length + 1))) z.1 z.2) s.length
      (fun d z => ∃ hp, z.1 = (s.length : Int) - 1 - (d : Int) ∧ z.2 = ⟨hp, h.length, h.length⟩ ∧ Vec hp 82 h.length (s.length + 1) (fun r => .i .u8 ((if s.length - d ≤ r then canI u (bw s) s.length r else 0 : Nat) : Int)) ∧ hp.length = h.length + 1 ∧ ∀ j, j < h.length → hp[j]? = h[j]?)
      (fun r => ∃ hq, r = ⟨hq, h.length, h.length⟩ ∧ Vec hq 82 h.length (s.length + 1) (fun r => .i .u8 (canI u (bw s) s.length r : Nat)) ∧ hq.length = h.length + 1 ∧ ∀ j, j < h.length → hq[j]? = h[j]?)
      (fun d z hd hI => by
        obtain ⟨z1, z2⟩ := z
        obtain ⟨hp, hz, rfl, hv', hlen, hkeep⟩ := hI
        simp only at hz
        obtain ⟨k, hk⟩ : ∃ k, k = s.length - 1 - d := ⟨_, rfl⟩
        obtain rfl : z1 = (k : Int) := by omega
        have hkn : k < s.length := by omega
        have hk0 : decide ((k : Int) < 0) = false := by simp
        have ld := Vec.lda (ro := ro) hv' (i := k + 1) (by omega)
        rw [if_pos (by omega)] at ld
        have hc48 := (bw_lt hs hkn).2
        have c1 := callN_pure (call := callX F1 ro) (bit_ok (ro := ro) (h := hp) (ch_lt s k) hc48) rfl rfl
        have c2 := callN_pure (call := callX F1 ro) (behind_ok (ro := ro) (h := hp) (c := ch s k - 48) hu (by have := canI_lt (u := u) (f := bw s) (n := s.length) (i := k + 1); omega : canI u (bw s) s.length (k + 1) < 256)) rfl rfl
        obtain ⟨y2, t1, t2⟩ := Vec.wr (ro := ro) (l := h.length) (p := h.length) hv' (r := k) (by omega) (v := .i .u8 (beV u (canI u (bw s) s.length (k + 1)) (ch s k - 48) : Nat)) rfl rfl
        rw [Nat.min_self] at t1
        have w3 : wr .i64 ((k : Int) - 1) = (k : Int) - 1 := wr_id' (by omega) (by omega)
        refine ⟨((k : Int) - 1, ⟨hp.set h.length y2, h.length, h.length⟩), ?_, _, ?_, rfl, t2.congr fun r hr => ?_, by rw [List.length_set]; exact hlen, fun j hj => by rw [List.getElem?_set_ne (by omega)]; exact hkeep j hj⟩
        · simp only [g53_b0, ltI_eq, hk0, Bool.not_false, forceB_eq, cond_true, forceI_eq, wr_next (by omega : k ≤ 1000000), ixS_eq (by omega : k + 1 < s.length + 1), bindO_some, ld, asI_i, e_ix hkn, meansX_call, c1, c2, ixS_eq (by omega : k < s.length + 1), asP_p, AVal.cells, t1, w3]
        · show (k : Int) - 1 = (s.length : Int) - 1 - ((d + 1 : Nat) : Int)
          omega
        · show (if r = k then _ else _) = _
          by_cases e : r = k
          · rw [if_pos e, if_pos (by omega), e, canI_step hkn]; rfl
          · rw [if_neg e]
            by_cases e' : s.length - d ≤ r
            · rw [if_pos e', if_pos (by omega)]
            · rw [if_neg e', if_neg (by omega)])
      (fun z hI => by
        obtain ⟨z1, z2⟩ := z
        obtain ⟨hp, hz, rfl, hv', hlen, hkeep⟩ := hI
        simp only at hz
        obtain rfl : z1 = -1 := by omega
        have hk0 : decide ((-1 : Int) < 0) = true := rfl
        refine ⟨_, ?_, hp, rfl, hv'.congr fun r hr => by rw [if_pos (by omega)], hlen, hkeep⟩
        simp only [g53_b0, ltI_eq, hk0, Bool.not_true, forceB_eq, cond_false])
      s.length 0 ((s.length : Int) - 1, ⟨H.set h.length y, h.length, h.length⟩) (by omega) ⟨_, by simp, rfl, s2.congr fun r hr => by
        show (if r = s.length then _ else _) = _
        by_cases e : r = s.length
        · rw [if_pos e, if_pos (by omega), e, canI_end]; rfl
        · rw [if_neg e, if_neg (by omega)]; rfl, by rw [List.length_set]; exact hL, fun j hj => by rw [List.getElem?_set_ne (by omega)]; exact hK j hj⟩
    exact ⟨hq, k1, k2⟩
  have i0 : evP .e (.ixS 1 (.c (.sl ⟨false, h.length, 0⟩ (s.length + 1) (.known (s.length + 1)))) (.c (.i .i64 0))) = some (.p (some ⟨false, h.length, 0 + 0⟩)) := ixS_eq (i := 0) (by omega)
  have ld0 := Vec.ld (ro := ro) (l := h.length) (p := h.length) k2 (i := 0) (by omega)
  by_cases hz : canI u (bw s) s.length 0 = 0
  · have e0 : (((canI u (bw s) s.length 0 : Nat) : Int) == 0) = true := by rw [hz]; rfl
    simp only [e_len, bindO_some, asI_i, forceI_eq, w1, hmk, bindP_some, ie, s1, w2, meansX_loop, k1, i0, ld0, eqI_eq, e0, forceB_eq, cond_true, if_pos hz, tupA]
    rw [fin_take (by rfl), take_keep (by omega) k4]
  · have e0 : (((canI u (bw s) s.length 0 : Nat) : Int) == 0) = false := by rw [beq_eq_false_iff_ne]; omega
    have a4 := bkA_lt (u := u) (f := bw s) (n := s.length) 0
    have c75 := callM_pure (call := callX F1 ro) (l := h.length) (p := h.length) (tz_ok (ro := ro) (h := hq) canI_lt hz) (by omega) (by omega)
    obtain ⟨m1, m2⟩ := sm4 _ a4
    have m1' : shrV .i64 ((tzb (canI u (bw s) s.length 0) : Nat) : Int) 1 = ((bkA u (bw s) s.length 0 / 2 : Nat) : Int) := m1
    have m2' : bitV .and .i64 ((tzb (canI u (bw s) s.length 0) : Nat) : Int) 1 = ((bkA u (bw s) s.length 0 % 2 : Nat) : Int) := m2
    have p1 := callM_pure (call := callX F1 ro) (l := h.length) (p := h.length) (plot_ok (ro := ro) (h := hq) (t := bkA u (bw s) s.length 0 / 2) (by omega)) (by omega) (by omega)
    have p2 := callM_pure (call := callX F1 ro) (l := h.length) (p := h.length) (plot_ok (ro := ro) (h := hq) (t := bkA u (bw s) s.length 0 % 2) (by omega)) (by omega) (by omega)
    have sb : stepM ro ⟨hq, h.length, h.length⟩ (.bsl 5 1 [(AVal.i IntKind.u8 0)] 2 [((0, 1), .c (.i .u8 ((48 + bkA u (bw s) s.length 0 / 2 : Nat) : Int))), ((1, 1), .c (.i .u8 ((48 + bkA u (bw s) s.length 0 % 2 : Nat) : Int)))]) = some (.sl ⟨false, hq.length, 0⟩ 2 (.known 2), ⟨hq ++ [some (blkOf 5 [.i .u8 ((48 + bkA u (bw s) s.length 0 / 2 : Nat) : Int), .i .u8 ((48 + bkA u (bw s) s.length 0 % 2 : Nat) : Int)])], h.length, h.length⟩) := by
      simp [stepM, stepK, st_bsl, rep, fillA, opd, AVal.cells, splice, newB, St.mm]
    have vb : Vec (hq ++ [some (blkOf 5 [.i .u8 ((48 + bkA u (bw s) s.length 0 / 2 : Nat) : Int), .i .u8 ((48 + bkA u (bw s) s.length 0 % 2 : Nat) : Int)])]) 5 hq.length 2 (fun j => .i .u8 ((48 + bkG u (bw s) s.length j : Nat) : Int)) :=
      ⟨_, lget_last _ _, rfl, Nat.le_refl 2, fun r hr => by
        rw [get_blk]
        rcases (by omega : r = 0 ∨ r = 1) with rfl | rfl <;> rfl⟩
    have hl2 : (hq ++ [some (blkOf 5 [.i .u8 ((48 + bkA u (bw s) s.length 0 / 2 : Nat) : Int), .i .u8 ((48 + bkA u (bw s) s.length 0 % 2 : Nat) : Int)])]).length = hq.length + 1 := by simp
    have hk2 : ∀ j, j < hq.length → (hq ++ [some (blkOf 5 [.i .u8 ((48 + bkA u (bw s) s.length 0 / 2 : Nat) : Int), .i .u8 ((48 + bkA u (bw s) s.length 0 % 2 : Nat) : Int)])])[j]? = hq[j]? := fun j hj => List.getElem?_append_left hj
    generalize hq ++ [some (blkOf 5 [.i .u8 ((48 + bkA u (bw s) s.length 0 / 2 : Nat) : Int), .i .u8 ((48 + bkA u (bw s) s.length 0 % 2 : Nat) : Int)])] = H2 at sb vb hl2 hk2
    obtain ⟨r, q1, b, cap, hp, rfl, q2, q3, q4⟩ := loop_seq (b := fun z : Int × AVal × Int × Mm => g53_b1 (meansX F1 ro) ro u s (.sl ⟨false, h.length, 0⟩ (s.length + 1) (.known (s.length + 1))) (s.length : Int) z.1 z.2.1 z.2.2.1 z.2.2.2) s.length
      (fun i z => ∃ b cap hp, z = (((bkA u (bw s) s.length i : Nat) : Int), .sl ⟨false, b, 0⟩ (i + 2) cap, (i : Int), ⟨hp, h.length, h.length⟩) ∧ (cap = .grow ∨ cap = .known (i + 2)) ∧ Vec hp 5 b (i + 2) (fun j => .i .u8 ((48 + bkG u (bw s) s.length j : Nat) : Int)) ∧ hq.length ≤ b ∧ hq.length ≤ hp.length ∧ ∀ j, j < hq.length → hp[j]? = hq[j]?)
      (fun r => ∃ b cap hp, r = (.sl ⟨false, b, 0⟩ (s.length + 2) cap, ⟨hp, h.length, h.length⟩) ∧ Vec hp 5 b (s.length + 2) (fun j => .i .u8 ((48 + bkG u (bw s) s.length j : Nat) : Int)) ∧ hq.length ≤ hp.length ∧ ∀ j, j < hq.length → hp[j]? = hq[j]?)
      (fun i z hi hI => by
        obtain ⟨b, cap, hp, rfl, hcap, hv', hb, hlen, hkeep⟩ := hI
        have hlt : ((i : Int) < (s.length : Int)) := by omega
        have a4 := bkA_lt (u := u) (f := bw s) (n := s.length) i
        have hA : bkA u (bw s) s.length (i + 1) = (2 * bkA u (bw s) s.length i + bkB u (bw s) s.length (bkA u (bw s) s.length i) i) % 4 := rfl
        have hG := bkG_B (u := u) (f := bw s) (n := s.length) i
        have hBle := bkB_le u (bw s) s.length (bkA u (bw s) s.length i) i
        have hBd : bkB u (bw s) s.length (bkA u (bw s) s.length i) i = cond (Nat.beq (nx u (2 * bkA u (bw s) s.length i)) (ch s i - 48) && (canI u (bw s) s.length (i + 1)).testBit (2 * bkA u (bw s) s.length i % 4)) 0 1 := rfl
        generalize bkA u (bw s) s.length i = a at *
        generalize hBB : bkB u (bw s) s.length a i = B at *
        have hc48 := (bw_lt hs hi).2
        have hm : h.length ≤ hp.length := by omega
        have wa : wr .i64 (2 * (a : Int)) = ((2 * a : Nat) : Int) := by rw [wr_id' (by omega) (by omega)]; omega
        have wb : wr .i64 (((2 * a : Nat) : Int) + 1) = ((2 * a + 1 : Nat) : Int) := wr_next (by omega)
        have c1 := callM_pure (call := callX F1 ro) (l := h.length) (p := h.length) (next_ok (ro := ro) (h := hp) hu (by omega : 2 * a < 8)) hm hm
        have c2 := callM_pure (call := callX F1 ro) (l := h.length) (p := h.length) (bit_ok (ro := ro) (h := hp) (ch_lt s i) hc48) hm hm
        have hne := num_eq (nx u (2 * a)) (ch s i - 48)
        have ld := Vec.ld (ro := ro) (l := h.length) (p := h.length) (k2.keep (hkeep h.length (by omega))) (i := i + 1) (by omega)
        have c3 := callM_pure (call := callX F1 ro) (l := h.length) (p := h.length) (has_ok (ro := ro) (h := hp) (by have := canI_lt (u := u) (f := bw s) (n := s.length) (i := i + 1); omega : canI u (bw s) s.length (i + 1) < 256) (by omega : 2 * a % 4 < 8)) hm hm
        obtain ⟨x1, x2⟩ := sm8 (2 * a) (by omega)
        obtain ⟨y1, y2⟩ := sm8 (2 * a + 1) (by omega)
        have x1' : bitV .and .i64 ((2 * a : Nat) : Int) 3 = ((2 * a % 4 : Nat) : Int) := x1
        have x2' : bitV .and .i64 ((2 * a : Nat) : Int) 1 = ((2 * a % 2 : Nat) : Int) := x2
        have y1' : bitV .and .i64 ((2 * a + 1 : Nat) : Int) 3 = (((2 * a + 1) % 4 : Nat) : Int) := y1
        have y2' : bitV .and .i64 ((2 * a + 1 : Nat) : Int) 1 = (((2 * a + 1) % 2 : Nat) : Int) := y2
        obtain ⟨v2, hp2, hp3, b3, s1, s2, g1, g2, g3, g4⟩ := push_any (ro := ro) (L := h.length) (bytes := 1) (z := AVal.i IntKind.u8 0) (w := .i .u8 ((48 + (2 * a + B) % 2 : Nat) : Int)) hcap hv' (by omega) (by omega) (by omega) (by omega) hm rfl rfl
        have c4 := callM_pure (call := callX F1 ro) (l := h.length) (p := h.length) (plot_ok (ro := ro) (h := hp) (t := (2 * a + B) % 2) (by omega)) hm hm
        refine ⟨(((((2 * a + B) % 4 : Nat)) : Int), .sl ⟨false, b3, 0⟩ (i + 2 + 1) .grow, ((i + 1 : Nat) : Int), ⟨hp3, h.length, h.length⟩), ?_, b3, .grow, hp3, by rw [hA], .inl rfl, g2.congr fun r hr => ?_, by omega, by omega, fun j hj => by rw [g4 j (by omega) (by omega), hkeep j hj]⟩
        · cases hb1 : Nat.beq (nx u (2 * a)) (ch s i - 48) with
          | false =>
            rw [hb1] at hne
            have hB1 : B = 1 := by rw [hBd, hb1]; rfl
            subst hB1
            simp only [g53_b1, ltI_eq, forceB_eq, decide_eq_true hlt, cond_true, forceI_eq, wa, e_ix hi, bindO_some, asI_i, meansX_call, c1, c2, bindP_some, eqI_eq, hne, Bool.not_false, wb, y1', y2', c4, s1, s2, wr_next (by omega : i ≤ 1000000)]
          | true =>
            rw [hb1] at hne
            cases hb2 : (canI u (bw s) s.length (i + 1)).testBit (2 * a % 4) with
            | false =>
              rw [hb2] at c3
              have hB1 : B = 1 := by rw [hBd, hb1, hb2]; rfl
              subst hB1
              simp only [g53_b1, ltI_eq, forceB_eq, decide_eq_true hlt, cond_true, forceI_eq, wa, e_ix hi, bindO_some, asI_i, meansX_call, c1, c2, bindP_some, eqI_eq, hne, Bool.not_true, cond_false, wr_next (by omega : i ≤ 1000000), ixS_eq (by omega : i + 1 < s.length + 1), x1', ld, c3, asB_b, Bool.not_false, wb, y1', y2', c4, s1, s2]
            | true =>
              rw [hb2] at c3
              have hB0 : B = 0 := by rw [hBd, hb1, hb2]; rfl
              subst hB0
              have c4' : callM (callX F1 ro) ⟨hp, h.length, h.length⟩ 71 [.i .i64 ((2 * a % 2 : Nat) : Int)] = some (.i .u8 ((48 + 2 * a % 2 : Nat) : Int), ⟨hp, h.length, h.length⟩) := c4
              have s1' : stepM ro ⟨hp, h.length, h.length⟩ (.bsl 5 1 [(AVal.i IntKind.u8 0)] 1 [((0, 1), .c (.i .u8 ((48 + 2 * a % 2 : Nat) : Int)))]) = some (v2, ⟨hp2, h.length, h.length⟩) := s1
              simp only [g53_b1, ltI_eq, forceB_eq, decide_eq_true hlt, cond_true, forceI_eq, wa, e_ix hi, bindO_some, asI_i, meansX_call, c1, c2, bindP_some, eqI_eq, hne, Bool.not_true, cond_false, wr_next (by omega : i ≤ 1000000), ixS_eq (by omega : i + 1 < s.length + 1), x1', ld, c3, asB_b, x2', c4', s1', s2]
              rfl
        · show (if r < i + 2 then _ else _) = _
          by_cases e : r < i + 2
          · rw [if_pos e]
          · rw [if_neg e, show r = i + 2 by omega, hG, show (2 * a + B) % 2 = B by omega])
      (fun z hI => by
        obtain ⟨b, cap, hp, rfl, hcap, hv', hb, hlen, hkeep⟩ := hI
        have : decide ((s.length : Int) < (s.length : Int)) = false := lt_no
        refine ⟨(.sl ⟨false, b, 0⟩ (s.length + 2) cap, ⟨hp, h.length, h.length⟩), ?_, b, cap, hp, rfl, hv', hlen, hkeep⟩
        simp only [g53_b1, ltI_eq, forceB_eq, this, cond_false])
      s.length 0 (((bkA u (bw s) s.length 0 : Nat) : Int), .sl ⟨false, hq.length, 0⟩ 2 (.known 2), ((0 : Nat) : Int), ⟨H2, h.length, h.length⟩) (by omega) ⟨_, _, _, rfl, .inr rfl, vb, Nat.le_refl _, by omega, hk2⟩
    have z0 : ((0 : Nat) : Int) = 0 := rfl
    rw [z0] at q1
    have q1' : loopX (fun z : Int × AVal × Int × Mm => g53_b1 (meansX F1 ro) ro u s (.sl ⟨false, h.length, 0⟩ (s.length + 1) (.known (s.length + 1))) (s.length : Int) z.1 z.2.1 z.2.2.1 z.2.2.2) (((tzb (canI u (bw s) s.length 0) : Nat) : Int), .sl ⟨false, hq.length, 0⟩ 2 (.known 2), 0, ⟨H2, h.length, h.length⟩) = some (.sl ⟨false, b, 0⟩ (s.length + 2) cap, ⟨hp, h.length, h.length⟩) := q1
    have hbt := bts_ok (ro := ro) (cap := cap) (l := h.length) (p := h.length) q2 (fun j _ => by have := bkG_le (u := u) (f := bw s) (n := s.length) j; omega)
    simp only [e_len, bindO_some, asI_i, forceI_eq, w1, hmk, bindP_some, ie, s1, w2, meansX_loop, k1, i0, ld0, eqI_eq, e0, forceB_eq, cond_false, meansX_call, c75, m1', p1, m2', p2, sb, q1', hbt, asS_s, if_neg hz, tupA]
    rw [fin_take (by rfl), take_keep (by omega) fun j hj => by rw [q4 j (by omega), k4 j hj]]
    rfl
end Go.Proofs.Ytgbkicelkpagpaa.W

/- Walks, Ways: what they answer. -/
import Derived.Test.YtgbkicelkpagpaaVmWk
open Go.Vm
set_option linter.unusedVariables false
namespace Go.Proofs.Ytgbkicelkpagpaa.W
open Go

theorem pow50 {i : Nat} (h : i ≤ 50) : 2 ^ i ≤ 1125899906842624 := Nat.le_trans (Nat.pow_le_pow_right (by omega) h) (by decide)
theorem len_app (hp : Heap) (x : Option ABlk) : (hp ++ [x]).length = hp.length + 1 := by simp
theorem get_app {hp : Heap} {x : Option ABlk} {k : Nat} (h : k < hp.length) : (hp ++ [x])[k]? = hp[k]? := List.getElem?_append_left h
theorem walks_ok {ro : List ABlk} {h : Heap} {u : Nat} {s : List UInt8} {f : Nat → Nat} (hu : u < 256) (hs : okR s) (hl : s.length ≤ 50) (hf : ∀ j, j < 4 → f j ≤ 1) :
    callX F1 ro 57 [.i .u8 u, .s s, agg4 f] h = some (agg4 (wkN u s f s.length), h, h.length, h.length) := by
  refine g57_ok (meansX_ok F1 ro) rfl ?_
  unfold g57
  -- the three blocks
  have hp1 : V4 _ h.length f := blk4 h f
  have hb1 := bx4 (ro := ro) (hp := h) (l := h.length) (p := h.length) f
  generalize hB1 : h ++ [some (blkOf 63 [.i .i64 (f 0 : Nat), .i .i64 (f 1 : Nat), .i .i64 (f 2 : Nat), .i .i64 (f 3 : Nat)])] = H1 at hp1 hb1
  have hL1 : H1.length = h.length + 1 := by rw [← hB1]; exact len_app _ _
  have hK1 : ∀ k, k < h.length → H1[k]? = h[k]? := fun k hk => by rw [← hB1]; exact get_app hk
  have hb2 := al4 (ro := ro) (hp := H1) (l := h.length) (p := h.length)
  have hp2 := blk4_0 H1
  generalize hB2 : H1 ++ [some (blkOf 63 [(AVal.i IntKind.i64 0), (AVal.i IntKind.i64 0), (AVal.i IntKind.i64 0), (AVal.i IntKind.i64 0)])] = H2 at hb2 hp2
  have hL2 : H2.length = h.length + 2 := by rw [← hB2, len_app]; omega
  have hK2 : ∀ k, k < h.length + 1 → H2[k]? = H1[k]? := fun k hk => by rw [← hB2]; exact get_app (by omega)
  have hp1' : V4 H2 h.length f := hp1.keep (hK2 _ (by omega))
  have hb3 := al4 (ro := ro) (hp := H2) (l := h.length) (p := h.length)
  have hp3 := blk4_0 H2
  generalize hB3 : H2 ++ [some (blkOf 63 [(AVal.i IntKind.i64 0), (AVal.i IntKind.i64 0), (AVal.i IntKind.i64 0), (AVal.i IntKind.i64 0)])] = H3 at hb3 hp3
  have hL3 : H3.length = h.length + 3 := by rw [← hB3, len_app]; omega
  have hK3 : ∀ k, k < h.length + 2 → H3[k]? = H2[k]? := fun k hk => by rw [← hB3]; exact get_app (by omega)
  have hp2' : V4 H3 H1.length (fun _ => 0) := hp2.keep (hK3 _ (by omega))
  obtain ⟨y, hst, hp4⟩ := V4.st4 (ro := ro) (l := h.length) (p := h.length) hp3 f
  rw [Nat.min_eq_left (by omega)] at hst
  have hK4 : ∀ k, k ≠ H2.length → (H3.set H2.length y)[k]? = H3[k]? := fun k hk => List.getElem?_set_ne (Ne.symm hk)
  have hp2'' : V4 (H3.set H2.length y) H1.length (fun _ => 0) := hp2'.keep (hK4 _ (by omega))
  have hL4 : (H3.set H2.length y).length = h.length + 3 := by rw [List.length_set]; exact hL3
  have hkeep4 : ∀ k, k < h.length → (H3.set H2.length y)[k]? = h[k]? := fun k hk => by rw [hK4 k (by omega), hK3 k (by omega), hK2 k (by omega), hK1 k hk]
  have key := loop_all (b := fun z => g57_b0 (meansX F1 ro) ro u s (.p (some ⟨false, H1.length, 0⟩)) (.p (some ⟨false, H2.length, 0⟩)) s.length z.1 z.2) s.length
    (fun k m => ∃ hp', m = ⟨hp', h.length, h.length⟩ ∧ V4 hp' H2.length (wkN u s f k) ∧ V4 hp' H1.length (fun _ => 0) ∧ h.length + 3 ≤ hp'.length ∧ ∀ k, k < h.length → hp'[k]? = h[k]?)
    (fun k m hk hI => by
      obtain ⟨hp', rfl, hv7, hv6, hlen, hkeep⟩ := hI
      have hkl : ((k : Int) < (s.length : Int)) := by omega
      have ha := al4 (ro := ro) (hp := hp') (l := h.length) (p := h.length)
      have h9 := blk4_0 hp'
      generalize hBn : hp' ++ [some (blkOf 63 [(AVal.i IntKind.i64 0), (AVal.i IntKind.i64 0), (AVal.i IntKind.i64 0), (AVal.i IntKind.i64 0)])] = Hn at ha h9
      have hLn : Hn.length = hp'.length + 1 := by rw [← hBn]; exact len_app _ _
      have hKn : ∀ k, k < hp'.length → Hn[k]? = hp'[k]? := fun k hk => by rw [← hBn]; exact get_app hk
      obtain ⟨hq, q1, q2, q3, q4⟩ := inner_ok (ro := ro) (h := h) (v6 := .p (some ⟨false, H1.length, 0⟩)) (x13 := s.length) hu hk hs (by omega) (hv7.keep (hKn _ (by omega))) h9 (by omega) (by omega)
        (fun j hj => Nat.le_trans (wkN_le hf k j hj) (pow50 (by omega)))
      obtain ⟨y2, s1, s2⟩ := V4.st4 (ro := ro) (l := h.length) (p := h.length) (hv7.keep (by rw [q4 _ (by omega), hKn _ (by omega)]) : V4 hq H2.length _) (nxt u (bw s k) (wkN u s f k))
      rw [Nat.min_eq_left (by omega)] at s1
      have l9 := V4.ld4 (ro := ro) (l := h.length) (p := h.length) q2
      refine ⟨⟨hq.set H2.length y2, h.length, h.length⟩, ?_, _, rfl, s2, hv6.keep ?_, by rw [List.length_set]; omega, fun j hj => ?_⟩
      · simp only [g57_b0, forceB_eq, ltI_eq, decide_eq_true hkl, cond_true, ha, bindP_some, meansX_loop, q1, bindO_some, l9, s1, forceI_eq, wr_next (by omega : k ≤ 1000000)]
      · rw [List.getElem?_set_ne (by omega), q4 _ (by omega), hKn _ (by omega)]
      · rw [List.getElem?_set_ne (by omega), q4 _ (by omega), hKn _ (by omega), hkeep j hj])
    (fun m hI => by
      have : decide ((s.length : Int) < (s.length : Int)) = false := lt_no
      show g57_b0 (meansX F1 ro) ro u s (.p (some ⟨false, H1.length, 0⟩)) (.p (some ⟨false, H2.length, 0⟩)) s.length s.length m = _
      simp only [g57_b0, forceB_eq, ltI_eq, this, cond_false])
    s.length 0 ⟨H3.set H2.length y, h.length, h.length⟩ (by omega) ⟨_, rfl, hp4, hp2'', by omega, hkeep4⟩
  obtain ⟨m', k1, hq, rfl, k2, k3, k4, k5⟩ := key
  have e0 : ((0 : Nat) : Int) = 0 := rfl
  rw [e0] at k1
  obtain ⟨y3, t1, t2⟩ := V4.st4 (ro := ro) (l := h.length) (p := h.length) k3 (wkN u s f s.length)
  rw [Nat.min_eq_left (by omega)] at t1
  have lf := V4.ld4 (ro := ro) (l := h.length) (p := h.length) k2
  have lr := V4.ld4 (ro := ro) (l := h.length) (p := h.length) t2
  have l5 := V4.ld4 (ro := ro) (l := h.length) (p := h.length) hp1'
  simp only [hb1, bindP_some, hb2, l5, bindO_some, hb3, hst, e_len, asI_i, meansX_loop, k1, lf, t1, lr, tupA]
  rw [fin_take (by rfl)]
  have : (hq.set H1.length y3).take h.length = h := by
    apply List.ext_getElem?
    intro j
    rw [List.getElem?_take]
    by_cases hj : j < h.length
    · rw [if_pos hj, List.getElem?_set_ne (by omega), k5 j hj]
    · rw [if_neg hj, List.getElem?_eq_none (by omega)]
  rw [this]

/- the errors of a row whose ways are counted -/
def shE (n : Int) (s : List UInt8) : Int := if askE n s 400 = 0 ∧ 50 < s.length then 2 else askE n s 400
def shU (n : Int) (s : List UInt8) : Int := if askE n s 400 = 0 ∧ 50 < s.length then 0 else rdU n s
theorem short_ok {ro : List ABlk} {h : Heap} {n : Int} {s : List UInt8} : callX F1 ro 56 [.i .i64 n, .s s] h = some (.tup [.i .u8 (shU n s), .i .i64 (shE n s)], h, h.length, h.length) := by
  refine g56_ok (meansX_ok F1 ro) rfl ?_
  unfold g56
  have c1 := callM_pure (call := callX F1 ro) (l := h.length) (p := h.length) (read_ok (ro := ro) (h := h) (n := n) (s := s)) (Nat.le_refl _) (Nat.le_refl _)
  unfold shE shU
  simp only [meansX_call, c1, bindP_some, e_x0, e_x1, bindO_some, asI_i, eqI_eq, forceB_eq, e_len, ltI_eq]
  by_cases h1 : askE n s 400 = 0
  · have b1 : (askE n s 400 == 0) = true := by rw [h1]; rfl
    by_cases h2 : 50 < s.length
    · have h2' : ((50 : Int) < (s.length : Int)) := by omega
      simp only [b1, cond_true, decide_eq_true h2', bindO_some, if_pos (And.intro h1 h2), tupA]
      exact fin_pure rfl
    · have h2' : ¬ ((50 : Int) < (s.length : Int)) := by omega
      have hn : ¬ (askE n s 400 = 0 ∧ 50 < s.length) := fun hh => h2 hh.2
      simp only [b1, cond_true, decide_eq_false h2', bindO_some, cond_false, if_neg hn, tupA]
      exact fin_pure rfl
  · have b1 : (askE n s 400 == 0) = false := beq_eq_false_iff_ne.2 h1
    have hn : ¬ (askE n s 400 = 0 ∧ 50 < s.length) := fun hh => h1 hh.1
    simp only [b1, cond_false, bindO_some, if_neg hn, tupA]
    exact fin_pure rfl
/-- a row without errors is one -/
theorem okR_of {n : Int} {s : List UInt8} {most : Int} (h : askE n s most = 0) : 0 ≤ n ∧ n ≤ 255 ∧ s.length ≤ most ∧ 0 < s.length ∧ okR s := by
  unfold askE at h
  by_cases hn : n < 0 ∨ 255 < n
  · rw [if_pos hn] at h; cases h
  · rw [if_neg hn] at h
    unfold rowE at h
    by_cases h1 : most < (s.length : Int)
    · rw [if_pos h1] at h; cases h
    · rw [if_neg h1] at h
      cases he : s.isEmpty with
      | true => rw [he, if_pos rfl] at h; cases h
      | false =>
        rw [he, if_neg (by decide)] at h
        cases hb : badR s with
        | true => rw [hb, if_pos rfl] at h; cases h
        | false =>
          refine ⟨by omega, by omega, by omega, ?_, fun i hi => ?_⟩
          · cases s with
            | nil => cases he
            | cons a l => simp
          · have := List.any_eq_false.1 hb i (List.mem_range.2 hi)
            unfold bad at this
            cases e1 : Nat.beq (ch s i) 48
            · cases e2 : Nat.beq (ch s i) 49
              · rw [e1, e2] at this; exact absurd rfl this
              · exact .inr (beq_iff.1 e2)
            · exact .inl (beq_iff.1 e1)

def waysV (u : Nat) (s : List UInt8) : Nat := wkN u s (fun _ => 1) s.length 0 + wkN u s (fun _ => 1) s.length 1 + wkN u s (fun _ => 1) s.length 2 + wkN u s (fun _ => 1) s.length 3
def wysV (n : Int) (s : List UInt8) : Int := if shE n s = 0 then (waysV n.toNat s : Nat) else 0
theorem ways_ok {ro : List ABlk} {h : Heap} {n : Int} {s : List UInt8} : callX F1 ro 22 [.i .i64 n, .s s] h = some (.tup [.i .i64 (wysV n s), .i .i64 (shE n s)], h, h.length, h.length) := by
  refine g22_ok (meansX_ok F1 ro) rfl ?_
  unfold g22
  have c1 := callM_pure (call := callX F1 ro) (l := h.length) (p := h.length) (short_ok (ro := ro) (h := h) (n := n) (s := s)) (Nat.le_refl _) (Nat.le_refl _)
  unfold wysV
  simp only [meansX_call, c1, bindP_some, e_x0, e_x1, bindO_some, asI_i, eqI_eq, forceB_eq]
  by_cases h1 : shE n s = 0
  · have b1 : (shE n s == 0) = true := by rw [h1]; rfl
    have hno : ¬ (askE n s 400 = 0 ∧ 50 < s.length) := fun hh => by
      rw [shE, if_pos hh] at h1; cases h1
    have hask : askE n s 400 = 0 := by rw [shE, if_neg hno] at h1; exact h1
    obtain ⟨p1, p2, p3, p4, p5⟩ := okR_of hask
    have h50 : s.length ≤ 50 := by
      rcases Nat.lt_or_ge 50 s.length with hh | hh
      · exact absurd ⟨hask, hh⟩ hno
      · exact hh
    obtain ⟨k, rfl⟩ : ∃ k : Nat, n = (k : Int) := ⟨n.toNat, by omega⟩
    have hU : shU k s = (k : Int) := by rw [shU, if_neg hno, rdU, if_pos hask]
    have cw := callM_pure (call := callX F1 ro) (l := h.length) (p := h.length) (walks_ok (ro := ro) (h := h) (f := fun _ => 1) (by omega : k < 256) p5 h50 (fun _ _ => Nat.le_refl 1)) (Nat.le_refl _) (Nat.le_refl _)
    have ef : ((fillA [(AVal.i IntKind.i64 0), (AVal.i IntKind.i64 0), (AVal.i IntKind.i64 0), (AVal.i IntKind.i64 0)] [((0, 1), (.i .i64 1)), ((1, 1), (.i .i64 1)), ((2, 1), (.i .i64 1)), ((3, 1), (.i .i64 1))]).map AVal.agg) = some (agg4 fun _ => 1) := fill4 1 1 1 1
    have hW : ∀ j, j < 4 → wkN k s (fun _ => 1) s.length j ≤ 1125899906842624 := fun j hj => Nat.le_trans (wkN_le (fun _ _ => Nat.le_refl 1) _ j hj) (pow50 h50)
    simp only [b1, Bool.not_true, cond_false, hU, ef, bindO_some, cw, bindP_some]
    generalize hg : wkN k s (fun _ => 1) s.length = g at *
    have w0 := hW 0 (by omega)
    have w1 := hW 1 (by omega)
    have w2 := hW 2 (by omega)
    have w3 := hW 3 (by omega)
    have lp : loopX (fun z : Int × Int => g22_b0 (meansX F1 ro) ro (agg4 g) ⟨h, h.length, h.length⟩ z.1 z.2) (0, 0) = some (((g 0 + g 1 + g 2 + g 3 : Nat)) : Int) := by
      have a0 : wr .i64 (0 + ((g 0 : Nat) : Int)) = ((g 0 : Nat) : Int) := by rw [wr_id' (by omega) (by omega)]; omega
      have a1 : wr .i64 (((g 0 : Nat) : Int) + ((g 1 : Nat) : Int)) = ((g 0 + g 1 : Nat) : Int) := by rw [wr_id' (by omega) (by omega)]; omega
      have a2 : wr .i64 (((g 0 + g 1 : Nat) : Int) + ((g 2 : Nat) : Int)) = ((g 0 + g 1 + g 2 : Nat) : Int) := by rw [wr_id' (by omega) (by omega)]; omega
      have a3 : wr .i64 (((g 0 + g 1 + g 2 : Nat) : Int) + ((g 3 : Nat) : Int)) = ((g 0 + g 1 + g 2 + g 3 : Nat) : Int) := by rw [wr_id' (by omega) (by omega)]; omega
      have x0 : evP .e (.ixV 4 1 true (.c (agg4 g)) (.c (.i .i64 0))) = some (.i .i64 (g 0 : Nat)) := rfl
      have x1 : evP .e (.ixV 4 1 true (.c (agg4 g)) (.c (.i .i64 1))) = some (.i .i64 (g 1 : Nat)) := rfl
      have x2 : evP .e (.ixV 4 1 true (.c (agg4 g)) (.c (.i .i64 2))) = some (.i .i64 (g 2 : Nat)) := rfl
      have x3 : evP .e (.ixV 4 1 true (.c (agg4 g)) (.c (.i .i64 3))) = some (.i .i64 (g 3 : Nat)) := rfl
      have d0 : decide ((0 : Int) < 4) = true := rfl
      have d1 : decide ((1 : Int) < 4) = true := rfl
      have d2 : decide ((2 : Int) < 4) = true := rfl
      have d3 : decide ((3 : Int) < 4) = true := rfl
      have d4 : decide ((4 : Int) < 4) = false := rfl
      have n0 : wr .i64 (0 + 1) = 1 := rfl
      have n1 : wr .i64 (1 + 1) = 2 := rfl
      have n2 : wr .i64 (2 + 1) = 3 := rfl
      have n3 : wr .i64 (3 + 1) = 4 := rfl
      refine loopX_on (s' := (((g 0 : Nat) : Int), 1)) (by simp only [g22_b0, forceB_eq, ltI_eq, d0, cond_true, x0, bindO_some, asI_i, forceI_eq, a0, n0]) ?_
      refine loopX_on (s' := (((g 0 + g 1 : Nat) : Int), 2)) (by simp only [g22_b0, forceB_eq, ltI_eq, d1, cond_true, x1, bindO_some, asI_i, forceI_eq, a1, n1]) ?_
      refine loopX_on (s' := (((g 0 + g 1 + g 2 : Nat) : Int), 3)) (by simp only [g22_b0, forceB_eq, ltI_eq, d2, cond_true, x2, bindO_some, asI_i, forceI_eq, a2, n2]) ?_
      refine loopX_on (s' := (((g 0 + g 1 + g 2 + g 3 : Nat) : Int), 4)) (by simp only [g22_b0, forceB_eq, ltI_eq, d3, cond_true, x3, bindO_some, asI_i, forceI_eq, a3, n3]) ?_
      exact loopX_out (by simp only [g22_b0, forceB_eq, ltI_eq, d4, cond_false])
    simp only [meansX_loop, lp, bindO_some, if_pos h1, h1, Int.toNat_natCast, waysV, hg, tupA]
    exact fin_pure rfl
  · have b1 : (shE n s == 0) = false := beq_eq_false_iff_ne.2 h1
    simp only [b1, Bool.not_false, cond_true, if_neg h1, tupA]
    exact fin_pure rfl
end Go.Proofs.Ytgbkicelkpagpaa.W

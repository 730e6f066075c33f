/- The reference's walks: ways, small, sum, one, can; Ways and Rings. -/
import Derived.Test.YtgbkicelkpagpaaVmWh
open Go.Vm
set_option linter.unusedVariables false
namespace Go.Proofs.Ytgbkicelkpagpaa.W
open Go

/- walks by a function of the letters -/
def wkC (u : Nat) (c : Nat → Nat) (from' : Nat → Nat) : Nat → Nat → Nat
  | 0 => from'
  | i + 1 => nxt u (c i) (wkC u c from' i)
theorem wkC_N (u : Nat) (s : List UInt8) (from' : Nat → Nat) : ∀ k, wkC u (bw s) from' k = wkN u s from' k
  | 0 => rfl
  | k + 1 => by show nxt u (bw s k) (wkC u (bw s) from' k) = nxt u (bw s k) (wkN u s from' k); rw [wkC_N u s from' k]
theorem wkC_le {u : Nat} {c : Nat → Nat} {from' : Nat → Nat} (h : ∀ j, j < 4 → from' j ≤ 1) : ∀ i j, j < 4 → wkC u c from' i j ≤ 2 ^ i
  | 0, j, hj => h j hj
  | i + 1, j, hj => by
    have := nxt_le (u := u) (c := c i) (at' := wkC u c from' i) (X := 2 ^ i) (fun j hj => wkC_le h i j hj) hj
    have e : 2 ^ (i + 1) = 2 * 2 ^ i := by rw [Nat.pow_succ]; omega
    rw [e]; exact this
theorem st1_eq (u c : Nat) (a to : Nat → Nat) (t j : Nat) : st1 u c a to t j = to j + (if j = t % 4 ∧ nx u t = c then a (t / 2) else 0) := by
  unfold st1
  by_cases h1 : nx u t = c
  · by_cases h2 : j = t % 4
    · simp [h1, h2]
    · simp [h1, h2]
  · simp [h1]
theorem nxt_eq {u c : Nat} {a : Nat → Nat} {j : Nat} (hj : j < 4) : nxt u c a j = (if nx u j = c then a (j / 2) else 0) + (if nx u (j + 4) = c then a (j / 2 + 2) else 0) := by
  rcases (by omega : j = 0 ∨ j = 1 ∨ j = 2 ∨ j = 3) with rfl | rfl | rfl | rfl <;> simp [nxt, stp, st1_eq]
/-- a set from which one can go on -/
theorem pos_nxt {u c S : Nat} {g : Nat → Nat} : (∃ j, j < 4 ∧ 0 < nxt u c g j ∧ S.testBit j = true) ↔ ∃ p, p < 4 ∧ 0 < g p ∧ (beV u S c).testBit p = true := by
  constructor
  · rintro ⟨j, hj, hp, hS⟩
    rw [nxt_eq hj] at hp
    by_cases h1 : nx u j = c ∧ 0 < g (j / 2)
    · refine ⟨j / 2, by omega, h1.2, ?_⟩
      rw [beV_bit (by omega)]
      rcases (by omega : j = 2 * (j / 2) ∨ j = 2 * (j / 2) + 1) with e | e
      · have e2 : 2 * (j / 2) % 4 = j := by omega
        rw [e2, hS, ← e, beq_iff.2 h1.1]; rfl
      · have e2 : (2 * (j / 2) + 1) % 4 = j := by omega
        rw [e2, hS, ← e, beq_iff.2 h1.1]; simp
    · have h2 : nx u (j + 4) = c ∧ 0 < g (j / 2 + 2) := by
        by_cases k1 : nx u (j + 4) = c
        · refine ⟨k1, ?_⟩
          rw [if_pos k1] at hp
          by_cases k2 : nx u j = c
          · rw [if_pos k2] at hp
            have : ¬ 0 < g (j / 2) := fun h => h1 ⟨k2, h⟩
            omega
          · rw [if_neg k2] at hp; omega
        · rw [if_neg k1] at hp
          by_cases k2 : nx u j = c
          · rw [if_pos k2] at hp
            exact absurd ⟨k2, by omega⟩ h1
          · rw [if_neg k2] at hp; omega
      refine ⟨j / 2 + 2, by omega, h2.2, ?_⟩
      rw [beV_bit (by omega)]
      rcases (by omega : j = 2 * (j / 2) ∨ j = 2 * (j / 2) + 1) with e | e
      · have e2 : 2 * (j / 2 + 2) % 4 = j := by omega
        have e3 : 2 * (j / 2 + 2) = j + 4 := by omega
        rw [e2, hS, e3, beq_iff.2 h2.1]; rfl
      · have e2 : (2 * (j / 2 + 2) + 1) % 4 = j := by omega
        have e3 : 2 * (j / 2 + 2) + 1 = j + 4 := by omega
        rw [e2, hS, e3, beq_iff.2 h2.1]; simp
  · rintro ⟨p, hp, hg, hS⟩
    rw [beV_bit hp, Bool.or_eq_true, Bool.and_eq_true, Bool.and_eq_true] at hS
    have key : ∀ t, t / 2 = p → S.testBit (t % 4) = true → nx u t = c → t < 8 → ∃ j, j < 4 ∧ 0 < nxt u c g j ∧ S.testBit j = true := by
      intro t ht hSt hn h8
      refine ⟨t % 4, by omega, ?_, hSt⟩
      rw [nxt_eq (by omega)]
      by_cases h4 : t < 4
      · have e : t % 4 = t := by omega
        rw [e, if_pos hn, ht]; omega
      · have e : t % 4 + 4 = t := by omega
        have e2 : t % 4 / 2 + 2 = p := by omega
        rw [e, if_pos hn, e2]; omega
    rcases hS with ⟨h1, h2⟩ | ⟨h1, h2⟩
    · exact key (2 * p) (by omega) h1 (beq_iff.1 h2) (by omega)
    · exact key (2 * p + 1) (by omega) h1 (beq_iff.1 h2) (by omega)

/- one, small, sum -/
theorem one_ok {ro : List ABlk} {h : Heap} {p : Nat} (hp4 : p < 4) : ∃ b hp, callX F1 ro 60 [.i .i64 p] h = some (.sl ⟨false, b, 0⟩ 4 (.known 4), hp, h.length, h.length) ∧ NV h hp b 4 (oneF p) := by
  have hmk : stepM ro ⟨h, h.length, h.length⟩ (.mk 3 1 8 [(AVal.i IntKind.i64 0)] (.c (.i .i64 4)) (.c (.i .i64 4))) = some (.sl ⟨false, h.length, 0⟩ 4 (.known 4), ⟨h ++ [some (newBlk 3 (AVal.i IntKind.i64 0) 4)], h.length, h.length⟩) :=
    mk_ok (n := 4) (by omega) (by omega)
  have hv := Vec.new h 3 4 (AVal.i IntKind.i64 0)
  generalize hB : h ++ [some (newBlk 3 (AVal.i IntKind.i64 0) 4)] = H at hmk hv
  have hL : H.length = h.length + 1 := by rw [← hB]; simp
  have hK : ∀ k, k < h.length → H[k]? = h[k]? := fun k hk => by rw [← hB]; exact List.getElem?_append_left hk
  obtain ⟨y, s1, s2⟩ := Vec.set (ro := ro) (l := h.length) (p := h.length) hv (r := p) hp4 (v := .i .i64 1) rfl rfl rfl
  rw [Nat.min_self] at s1
  refine ⟨h.length, H.set h.length y, g60_ok (meansX_ok F1 ro) rfl ?_, s2.congr fun r hr => ?_, Nat.le_refl _, by rw [List.length_set]; omega, fun j hj => by rw [List.getElem?_set_ne (by omega)]; exact hK j hj⟩
  · unfold g60
    simp only [hmk, bindP_some, ixS_eq hp4, bindO_some, s1, tupA]
    exact fin_new (Nat.le_refl _)
  · show (if r = p then _ else _) = _
    unfold oneF
    by_cases e : r = p
    · rw [if_pos e, if_pos e]; rfl
    · rw [if_neg e, if_neg e]; rfl
theorem mx_num (x : Nat) : mxV false (x : Int) 1 = ((min x 1 : Nat) : Int) := by
  unfold mxV
  rw [if_neg (by decide)]
  split <;> omega
theorem small_ok {ro : List ABlk} {h : Heap} {b : Nat} {cap : Cap} {g : Nat → Nat} (hv : Vec h 3 b 4 (fun i => .i .i64 (g i : Nat))) :
    ∃ b' hp, callX F1 ro 77 [.sl ⟨false, b, 0⟩ 4 cap] h = some (.sl ⟨false, b', 0⟩ 4 .grow, hp, h.length, h.length) ∧ NV h hp b' 4 (fun j => min (g j) 1) := by
  obtain ⟨b', hp, k1, nv⟩ := push_loop (ro := ro) (h := h) (L := h.length) (Nat.le_refl _) (b := fun z => g77_b0 (meansX F1 ro) ro (.sl ⟨false, b, 0⟩ 4 cap) z.1 z.2.1 z.2.2) 0 4 (by omega) (by omega) (fun j => min (g j) 1)
    (fun k hk v hp hlen hkeep v2 hp2 v3 hp3 s1 s2 => by
      have hlt : decide ((k : Int) < ((4 : Nat) : Int)) = true := by simp; omega
      have ld := Vec.ld (ro := ro) (l := h.length) (p := h.length) (hv.keep (hkeep b hv.lt)) hk
      rw [Nat.zero_add]
      simp only [g77_b0, e_lenS, bindO_some, asI_i, ltI_eq, forceB_eq, hlt, cond_true, ixS_eq hk, ld, forceI_eq, mx_num, s1, bindP_some, s2, wr_next (by omega : k ≤ 1000000)])
    (fun v m => by
      have : decide (((4 : Nat) : Int) < ((4 : Nat) : Int)) = false := lt_no
      show g77_b0 (meansX F1 ro) ro _ v ((0 + 4 : Nat) : Int) m = _
      rw [Nat.zero_add]
      simp only [g77_b0, e_lenS, bindO_some, asI_i, ltI_eq, forceB_eq, this, cond_false])
  have e0 : ((0 : Nat) : Int) = 0 := rfl
  rw [e0] at k1
  refine ⟨b', hp, g77_ok (meansX_ok F1 ro) rfl ?_, nv⟩
  unfold g77
  simp only [meansX_loop, k1, bindO_some, tupA]
  exact fin_new nv.new
def sumT (g : Nat → Nat) : Nat → Nat
  | 0 => 0
  | i + 1 => sumT g i + g i
theorem sum_ok {ro : List ABlk} {h : Heap} {b : Nat} {cap : Cap} {g : Nat → Nat} (hv : Vec h 3 b 4 (fun i => .i .i64 (g i : Nat))) (hg : ∀ j, j < 4 → g j ≤ 1125899906842624) :
    callX F1 ro 58 [.sl ⟨false, b, 0⟩ 4 cap] h = some (.i .i64 (sumT g 4 : Nat), h, h.length, h.length) := by
  refine g58_ok (meansX_ok F1 ro) rfl ?_
  unfold g58
  have hle : ∀ i, i ≤ 4 → sumT g i ≤ i * 1125899906842624 := by
    intro i
    induction i with
    | zero => intro _; exact Nat.zero_le _
    | succ i ih =>
      intro hi
      have h1 := ih (by omega)
      have h2 := hg i (by omega)
      show sumT g i + g i ≤ _
      omega
  obtain ⟨r, k1, rfl⟩ := loop_seq (b := fun z : Int × Int => g58_b0 (meansX F1 ro) ro (.sl ⟨false, b, 0⟩ 4 cap) ⟨h, h.length, h.length⟩ z.1 z.2) 4 (fun i z => z = (((sumT g i : Nat) : Int), (i : Int))) (fun r => r = ((sumT g 4 : Nat) : Int))
    (fun i z hi hI => by
      subst hI
      have hlt : decide ((i : Int) < ((4 : Nat) : Int)) = true := by simp; omega
      have ld := Vec.ld (ro := ro) (l := h.length) (p := h.length) hv hi
      have h1 := hle (i + 1) (by omega)
      have h2 : (i + 1) * 1125899906842624 ≤ 4 * 1125899906842624 := Nat.mul_le_mul_right _ (by omega)
      have e : sumT g (i + 1) = sumT g i + g i := rfl
      have ew : wr .i64 (((sumT g i : Nat) : Int) + ((g i : Nat) : Int)) = ((sumT g (i + 1) : Nat) : Int) := by rw [wr_id' (by omega) (by omega)]; omega
      refine ⟨_, ?_, rfl⟩
      simp only [g58_b0, e_lenS, bindO_some, asI_i, ltI_eq, forceB_eq, hlt, cond_true, ixS_eq hi, ld, forceI_eq, ew, wr_next (by omega : i ≤ 1000000)])
    (fun z hI => by
      subst hI
      have : decide (((4 : Nat) : Int) < ((4 : Nat) : Int)) = false := lt_no
      refine ⟨_, ?_, rfl⟩
      simp only [g58_b0, e_lenS, bindO_some, asI_i, ltI_eq, forceB_eq, this, cond_false])
    4 0 (0, 0) rfl rfl
  simp only [meansX_loop, k1, bindO_some, tupA]
  exact fin_pure rfl

/- ways -/
theorem div_num : ∀ p, p < 4 → wr .i64 (Int.tdiv (Int.ofNat p) 2) = Int.ofNat (p / 2) ∧ Int.tmod (Int.ofNat p) 2 = Int.ofNat (p % 2) ∧ wr .i64 (Int.ofNat (p % 2) * 2) = Int.ofNat (p % 2 * 2) := by decide +kernel
theorem rways_ok {ro : List ABlk} {h : Heap} {u b n off k b2 : Nat} {cap cap2 : Cap} {f from' : Nat → Nat} (hu : u < 256) (hv : Vec h 3 b n (fun i => .i .i64 (f i : Nat))) (hf : ∀ i, i < n → f i < 2) (hoff : off + k ≤ n) (h0 : 0 < k) (hk : k ≤ 50)
    (hv2 : Vec h 3 b2 4 (fun i => .i .i64 (from' i : Nat))) (hfr : ∀ j, j < 4 → from' j ≤ 1) :
    ∃ b' hp, callX F1 ro 59 [.i .i64 u, .sl ⟨false, b, off⟩ k cap, .sl ⟨false, b2, 0⟩ 4 cap2] h = some (.sl ⟨false, b', 0⟩ 4 (.known 4), hp, h.length, h.length) ∧ NV h hp b' 4 (wkC u (fun i => f (off + i)) from' k) := by
  obtain ⟨v', m', k1, b', cap', hp, rfl, rfl, hvec, hnew, hlen, hkeep⟩ := loop_all3 (b := fun z => g59_b0 (meansX F1 ro) ro u (.sl ⟨false, b, off⟩ k cap) z.1 z.2.1 z.2.2) k
    (fun i v m => ∃ b' cap' hp, v = .sl ⟨false, b', 0⟩ 4 cap' ∧ m = ⟨hp, h.length, h.length⟩ ∧ Vec hp 3 b' 4 (fun j => .i .i64 (wkC u (fun i => f (off + i)) from' i j : Nat)) ∧ (0 < i → h.length ≤ b' ∧ cap' = .known 4) ∧ h.length ≤ hp.length ∧ ∀ j, j < h.length → hp[j]? = h[j]?)
    (fun i v m hi hI => by
      obtain ⟨b7, cap7, hp, rfl, rfl, hv7, hnew, hlen, hkeep⟩ := hI
      have hlt : decide ((i : Int) < (k : Int)) = true := by simp; omega
      have hmk : stepM ro ⟨hp, h.length, h.length⟩ (.mk 3 1 8 [(AVal.i IntKind.i64 0)] (.c (.i .i64 4)) (.c (.i .i64 4))) = some (.sl ⟨false, hp.length, 0⟩ 4 (.known 4), ⟨hp ++ [some (newBlk 3 (AVal.i IntKind.i64 0) 4)], h.length, h.length⟩) :=
        mk_ok (n := 4) (by omega) (by omega)
      have hv9 := Vec.new hp 3 4 (AVal.i IntKind.i64 0)
      generalize hB : hp ++ [some (newBlk 3 (AVal.i IntKind.i64 0) 4)] = H at hmk hv9
      have hL : H.length = hp.length + 1 := by rw [← hB]; simp
      have hK : ∀ k, k < hp.length → H[k]? = hp[k]? := fun k hk => by rw [← hB]; exact List.getElem?_append_left hk
      have hX : ∀ j, j < 4 → wkC u (fun i => f (off + i)) from' i j ≤ 1125899906842624 := fun j hj => Nat.le_trans (wkC_le hfr i j hj) (pow50 (by omega))
      have hfi : f (off + i) < 2 := hf _ (by omega)
      show ∃ v' m', g59_b0 (meansX F1 ro) ro u (.sl ⟨false, b, off⟩ k cap) (.sl ⟨false, b7, 0⟩ 4 cap7) i ⟨hp, h.length, h.length⟩ = _ ∧ ∃ b' cap' hp, v' = _ ∧ m' = _ ∧ Vec hp 3 b' 4 (fun j => .i .i64 (nxt u (f (off + i)) (wkC u (fun i => f (off + i)) from' i) j : Nat)) ∧ _
      generalize hat : wkC u (fun i => f (off + i)) from' i = at' at hv7 hX
      -- the two loops within
      have inner : ∀ (p : Nat) (hp1 : Heap), p < 4 → Vec hp1 3 hp.length 4 (fun j => .i .i64 (stp u (f (off + i)) at' (2 * p) j : Nat)) → hp1.length = hp.length + 1 → (∀ j, j < hp.length → hp1[j]? = hp[j]?) →
          ∃ hp2, loopX (fun z : Int × Mm => g59_b2 (meansX F1 ro) ro u (.sl ⟨false, b, off⟩ k cap) (.sl ⟨false, b7, 0⟩ 4 cap7) i (.sl ⟨false, hp.length, 0⟩ 4 (.known 4)) p z.1 z.2) (0, ⟨hp1, h.length, h.length⟩) = some ⟨hp2, h.length, h.length⟩ ∧
            Vec hp2 3 hp.length 4 (fun j => .i .i64 (stp u (f (off + i)) at' (2 * (p + 1)) j : Nat)) ∧ hp2.length = hp.length + 1 ∧ ∀ j, j < hp.length → hp2[j]? = hp[j]? := by
        intro p hp1 hp4 hvp hlp hkp
        obtain ⟨m', q1, hp2, rfl, q2, q3, q4⟩ := loop_all (b := fun z : Int × Mm => g59_b2 (meansX F1 ro) ro u (.sl ⟨false, b, off⟩ k cap) (.sl ⟨false, b7, 0⟩ 4 cap7) i (.sl ⟨false, hp.length, 0⟩ 4 (.known 4)) p z.1 z.2) 2
          (fun r m => ∃ hp2, m = ⟨hp2, h.length, h.length⟩ ∧ Vec hp2 3 hp.length 4 (fun j => .i .i64 (stp u (f (off + i)) at' (2 * p + r) j : Nat)) ∧ hp2.length = hp.length + 1 ∧ ∀ j, j < hp.length → hp2[j]? = hp[j]?)
          (fun r m hr hI => by
            obtain ⟨hp2, rfl, w9, wl, wk⟩ := hI
            have hr2 : decide ((r : Int) < 2) = true := by simp; omega
            obtain ⟨d1, d2, d3⟩ := div_num p hp4
            have d1' : wr .i64 (Int.tdiv (p : Int) 2) = ((p / 2 : Nat) : Int) := d1
            have d2' : Int.tmod (p : Int) 2 = ((p % 2 : Nat) : Int) := d2
            have d3' : wr .i64 (((p % 2 : Nat) : Int) * 2) = ((p % 2 * 2 : Nat) : Int) := d3
            have d4 : wr .i64 (((p % 2 * 2 : Nat) : Int) + (r : Int)) = (((2 * p + r) % 4 : Nat) : Int) := by rw [wr_id' (by omega) (by omega)]; omega
            have cb := callN_pure (call := callX F1 ro) (becomes_ok (ro := ro) (h := hp2) hu (by omega : p / 2 < 2) (by omega : p % 2 < 2) hr) rfl rfl
            rw [show 4 * (p / 2) + 2 * (p % 2) + r = 2 * p + r by omega] at cb
            have lb := Vec.lda (ro := ro) ((hv.keep (hkeep b hv.lt)).keep (wk b (Nat.lt_of_lt_of_le hv.lt hlen))) (i := off + i) (by omega)
            rw [Nat.zero_add] at lb
            have l7 := Vec.lda (ro := ro) (hv7.keep (wk b7 hv7.lt)) hp4
            have l9 := Vec.lda (ro := ro) w9 (i := (2 * p + r) % 4) (by omega)
            have hcmp := num_eq (nx u (2 * p + r)) (f (off + i))
            have hst : ∀ j, stp u (f (off + i)) at' (2 * p + (r + 1)) j = stp u (f (off + i)) at' (2 * p + r) j + (if j = (2 * p + r) % 4 ∧ nx u (2 * p + r) = f (off + i) then at' ((2 * p + r) / 2) else 0) := fun j => st1_eq _ _ _ _ _ _
            cases hb : Nat.beq (nx u (2 * p + r)) (f (off + i)) with
            | false =>
              rw [hb] at hcmp
              refine ⟨⟨hp2, h.length, h.length⟩, ?_, hp2, rfl, w9.congr fun j hj => ?_, wl, wk⟩
              · simp only [g59_b2, ltI_eq, forceB_eq, hr2, cond_true, forceI_eq, d1', d2', meansX_call, cb, bindO_some, asI_i, ixS_eq hi, lb, eqI_eq, hcmp, cond_false, wr_next (by omega : r ≤ 1000000)]
              · rw [hst, if_neg (fun hh => by rw [hh.2, Nat.beq_refl] at hb; cases hb)]; rfl
            | true =>
              rw [hb] at hcmp
              have hsum : stp u (f (off + i)) at' (2 * p + r) ((2 * p + r) % 4) + at' p ≤ 9007199254740992 := by
                have a1 := stp_le (u := u) (c := f (off + i)) hX (2 * p + r) (by omega) ((2 * p + r) % 4) (by omega)
                have a2 := hX p hp4
                have a3 : (2 * p + r + 3 - (2 * p + r) % 4) / 4 * 1125899906842624 ≤ 2 * 1125899906842624 := Nat.mul_le_mul_right _ (by omega)
                omega
              have ew : wr .i64 (((stp u (f (off + i)) at' (2 * p + r) ((2 * p + r) % 4) : Nat) : Int) + ((at' p : Nat) : Int)) = ((stp u (f (off + i)) at' (2 * p + r) ((2 * p + r) % 4) + at' p : Nat) : Int) := by rw [wr_id' (by omega) (by omega)]; omega
              obtain ⟨y, g1, g2⟩ := Vec.wr (ro := ro) (l := h.length) (p := h.length) w9 (r := (2 * p + r) % 4) (by omega) (v := .i .i64 ((stp u (f (off + i)) at' (2 * p + r) ((2 * p + r) % 4) + at' p : Nat) : Int)) rfl rfl
              rw [Nat.min_eq_left hlen] at g1
              refine ⟨⟨hp2.set hp.length y, h.length, h.length⟩, ?_, _, rfl, g2.congr fun j hj => ?_, by rw [List.length_set]; exact wl, fun j hj => by rw [List.getElem?_set_ne (by omega)]; exact wk j hj⟩
              · simp only [g59_b2, ltI_eq, forceB_eq, hr2, cond_true, forceI_eq, d1', d2', meansX_call, cb, bindO_some, asI_i, ixS_eq hi, lb, eqI_eq, hcmp, d3', d4, ixS_eq (by omega : (2 * p + r) % 4 < 4), l9, ixS_eq hp4, l7, ew, asP_p, AVal.cells, g1, wr_next (by omega : r ≤ 1000000)]
              · show (if j = (2 * p + r) % 4 then _ else _) = _
                rw [hst]
                by_cases e : j = (2 * p + r) % 4
                · rw [if_pos e, if_pos ⟨e, beq_iff.1 hb⟩, show (2 * p + r) / 2 = p by omega, e]
                · rw [if_neg e, if_neg (fun hh => e hh.1)]; rfl)
          (fun m hI => by
            have : decide ((2 : Int) < 2) = false := rfl
            show g59_b2 (meansX F1 ro) ro u _ _ i _ p 2 m = _
            simp only [g59_b2, ltI_eq, forceB_eq, this, cond_false])
          2 0 ⟨hp1, h.length, h.length⟩ rfl ⟨hp1, rfl, hvp, hlp, hkp⟩
        exact ⟨hp2, q1, q2, q3, q4⟩
      obtain ⟨m', q1, hp2, rfl, q2, q3, q4⟩ := loop_all (b := fun z : Int × Mm => g59_b1 (meansX F1 ro) ro u (.sl ⟨false, b, off⟩ k cap) (.sl ⟨false, b7, 0⟩ 4 cap7) i (.sl ⟨false, hp.length, 0⟩ 4 (.known 4)) z.1 z.2) 4
        (fun p m => ∃ hp2, m = ⟨hp2, h.length, h.length⟩ ∧ Vec hp2 3 hp.length 4 (fun j => .i .i64 (stp u (f (off + i)) at' (2 * p) j : Nat)) ∧ hp2.length = hp.length + 1 ∧ ∀ j, j < hp.length → hp2[j]? = hp[j]?)
        (fun p m hp4 hI => by
          obtain ⟨hp1, rfl, w9, wl, wk⟩ := hI
          have hp4' : decide ((p : Int) < 4) = true := by simp; omega
          obtain ⟨hp2, r1, r2, r3, r4⟩ := inner p hp1 hp4 w9 wl wk
          refine ⟨_, ?_, hp2, rfl, r2, r3, r4⟩
          simp only [g59_b1, ltI_eq, forceB_eq, hp4', cond_true, meansX_loop, r1, bindO_some, forceI_eq, wr_next (by omega : p ≤ 1000000)])
        (fun m hI => by
          have : decide ((4 : Int) < 4) = false := rfl
          show g59_b1 (meansX F1 ro) ro u _ _ i _ 4 m = _
          simp only [g59_b1, ltI_eq, forceB_eq, this, cond_false])
        4 0 ⟨H, h.length, h.length⟩ rfl ⟨H, rfl, hv9.congr fun r hr => rfl, hL, hK⟩
      have e0 : ((0 : Nat) : Int) = 0 := rfl
      rw [e0] at q1
      refine ⟨.sl ⟨false, hp.length, 0⟩ 4 (.known 4), ⟨hp2, h.length, h.length⟩, ?_, hp.length, .known 4, hp2, rfl, rfl, q2, fun _ => ⟨hlen, rfl⟩, by omega, fun j hj => by rw [q4 j (by omega), hkeep j hj]⟩
      simp only [g59_b0, e_lenS, bindO_some, asI_i, ltI_eq, forceB_eq, hlt, cond_true, hmk, bindP_some, meansX_loop, q1, forceI_eq, wr_next (by omega : i ≤ 1000000)])
    (fun v m _ => by
      have : decide ((k : Int) < (k : Int)) = false := lt_no
      show g59_b0 (meansX F1 ro) ro u _ v k m = _
      simp only [g59_b0, e_lenS, bindO_some, asI_i, ltI_eq, forceB_eq, this, cond_false])
    k 0 (.sl ⟨false, b2, 0⟩ 4 cap2) ⟨h, h.length, h.length⟩ (by omega) ⟨b2, cap2, h, rfl, rfl, hv2, fun hh => absurd hh (by omega), Nat.le_refl _, fun _ _ => rfl⟩
  obtain ⟨hnb, rfl⟩ := hnew h0
  have e0 : ((0 : Nat) : Int) = 0 := rfl
  rw [e0] at k1
  refine ⟨b', hp, g59_ok (meansX_ok F1 ro) rfl ?_, hvec, hnb, hlen, hkeep⟩
  unfold g59
  simp only [meansX_loop, k1, bindO_some, tupA]
  exact fin_new hnb
end Go.Proofs.Ytgbkicelkpagpaa.W

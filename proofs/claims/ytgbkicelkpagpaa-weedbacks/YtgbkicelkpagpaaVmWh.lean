/- Back and Rings of the program. -/
import Derived.Test.YtgbkicelkpagpaaVmWd
open Go.Vm
set_option linter.unusedVariables false
namespace Go.Proofs.Ytgbkicelkpagpaa.W
open Go

def bkE (n : Int) (s : List UInt8) : Int := if n < 0 ∨ 255 < n then 2 else if rowE s 398 = 0 then (if canI n.toNat (bw s) s.length 0 = 0 then 10 else 0) else rowE s 398
def bkS (n : Int) (s : List UInt8) : List UInt8 := if bkE n s = 0 then backL n.toNat (bw s) s.length else []
theorem rowE_vals (s : List UInt8) (most : Int) : rowE s most = 0 ∨ rowE s most = 3 ∨ rowE s most = 5 := by
  unfold rowE
  split
  · exact .inr (.inl rfl)
  · split
    · exact .inr (.inr rfl)
    · split
      · exact .inr (.inr rfl)
      · exact .inl rfl
theorem rowE_398 {s : List UInt8} (h : (s.length : Int) ≤ 398) : rowE s 400 = rowE s 398 := by
  unfold rowE
  rw [if_neg (by omega : ¬ (400 : Int) < s.length), if_neg (by omega : ¬ (398 : Int) < s.length)]
theorem rowE_long {s : List UInt8} (h : 398 < (s.length : Int)) : rowE s 398 = 3 := by
  unfold rowE; rw [if_pos h]
theorem Back_ok {ro : List ABlk} {h : Heap} {n : Int} {s : List UInt8} : callX F1 ro 20 [.i .i64 n, .s s] h = some (.tup [.s (bkS n s), .i .i64 (bkE n s)], h, h.length, h.length) := by
  refine g20_ok (meansX_ok F1 ro) rfl ?_
  unfold g20
  have c1 := callM_pure (call := callX F1 ro) (l := h.length) (p := h.length) (read_ok (ro := ro) (h := h) (n := n) (s := s)) (Nat.le_refl _) (Nat.le_refl _)
  simp only [meansX_call, c1, bindP_some, e_x0, e_x1, bindO_some, asI_i, eqI_eq, forceB_eq, e_len, ltI_eq]
  by_cases hn : n < 0 ∨ 255 < n
  · have ha : askE n s 400 = 2 := if_pos hn
    have hb : bkE n s = 2 := if_pos hn
    have hS : bkS n s = [] := by rw [bkS, hb]; rfl
    have z1 : ((2 : Int) == 2) = true := rfl
    have z2 : ((2 : Int) == 0) = false := rfl
    simp only [ha, z1, Bool.not_true, cond_false, bindO_some, z2, Bool.not_false, cond_true, hb, hS, tupA]
    exact fin_pure rfl
  · have ha : askE n s 400 = rowE s 400 := if_neg hn
    have hr := rowE_vals s 400
    have h2 : (askE n s 400 == 2) = false := by rw [beq_eq_false_iff_ne, ha]; omega
    by_cases h398 : (398 : Int) < (s.length : Int)
    · have hb : bkE n s = 3 := by rw [bkE, if_neg hn, if_neg (by rw [rowE_long h398]; decide), rowE_long h398]
      have hS : bkS n s = [] := by rw [bkS, hb]; rfl
      simp only [h2, Bool.not_false, cond_true, decide_eq_true h398, bindO_some, hb, hS, tupA]
      exact fin_pure rfl
    · have he : askE n s 400 = rowE s 398 := by rw [ha, rowE_398 (by omega)]
      simp only [h2, Bool.not_false, cond_true, decide_eq_false h398, bindO_some, cond_false]
      by_cases h1 : rowE s 398 = 0
      · have ha0 : askE n s 400 = 0 := by rw [he, h1]
        obtain ⟨p1, p2, p3, p4, p5⟩ := okR_of ha0
        obtain ⟨k, rfl⟩ : ∃ k : Nat, n = (k : Int) := ⟨n.toNat, by omega⟩
        have hU : rdU k s = (k : Int) := if_pos ha0
        have b1 : (askE k s 400 == 0) = true := by rw [ha0]; rfl
        have cb := callM_pure (call := callX F1 ro) (l := h.length) (p := h.length) (back_ok (ro := ro) (h := h) (by omega : k < 256) p5 (by omega)) (Nat.le_refl _) (Nat.le_refl _)
        by_cases hz : canI k (bw s) s.length 0 = 0
        · have hb : bkE k s = 10 := by rw [bkE, if_neg hn, if_pos h1, Int.toNat_natCast, if_pos hz]
          have hS : bkS k s = [] := by rw [bkS, hb]; rfl
          rw [if_pos hz] at cb
          simp only [b1, Bool.not_true, cond_false, hU, cb, bindP_some, e_x0, e_x1, bindO_some, asS_s, asB_b, Bool.not_false, cond_true, hb, hS, tupA]
          exact fin_pure rfl
        · have hb : bkE k s = 0 := by rw [bkE, if_neg hn, if_pos h1, Int.toNat_natCast, if_neg hz]
          have hS : bkS k s = backL k (bw s) s.length := by rw [bkS, if_pos hb]; rfl
          rw [if_neg hz] at cb
          simp only [b1, Bool.not_true, cond_false, hU, cb, bindP_some, e_x0, e_x1, bindO_some, asS_s, asB_b, hb, hS, tupA]
          exact fin_pure rfl
      · have b1 : (rowE s 398 == 0) = false := beq_eq_false_iff_ne.2 h1
        have hb : bkE n s = rowE s 398 := by rw [bkE, if_neg hn, if_neg h1]
        have hS : bkS n s = [] := by rw [bkS, hb, if_neg h1]
        simp only [he, b1, Bool.not_false, cond_true, hb, hS, tupA]
        exact fin_pure rfl

/- Rings -/
def oneF (p j : Nat) : Nat := if j = p then 1 else 0
def sumR (u : Nat) (s : List UInt8) : Nat → Nat
  | 0 => 0
  | p + 1 => sumR u s p + wkN u s (oneF p) s.length p
def rgN (n : Int) (s : List UInt8) : Int := if shE n s = 0 then (sumR n.toNat s 4 : Nat) else 0
theorem oneF_le (p j : Nat) : oneF p j ≤ 1 := by unfold oneF; split <;> omega
theorem ixV4 {g : Nat → Nat} {p : Nat} (hp : p < 4) : evP .e (.ixV 4 1 true (.c (agg4 g)) (.c (.i .i64 (p : Int)))) = some (.i .i64 (g p : Nat)) := by
  rcases (by omega : p = 0 ∨ p = 1 ∨ p = 2 ∨ p = 3) with rfl | rfl | rfl | rfl <;> rfl
theorem sumR_le {u : Nat} {s : List UInt8} (hl : s.length ≤ 50) : ∀ p, p ≤ 4 → sumR u s p ≤ p * 1125899906842624
  | 0, _ => Nat.zero_le _
  | p + 1, hp => by
    have ih := sumR_le (u := u) hl p (by omega)
    have h1 := wkN_le (u := u) (s := s) (from' := oneF p) (fun j _ => oneF_le p j) s.length p (by omega)
    have h2 := pow50 hl
    show sumR u s p + wkN u s (oneF p) s.length p ≤ _
    omega
theorem shE_zero {n : Int} {s : List UInt8} (h1 : shE n s = 0) : askE n s 400 = 0 ∧ s.length ≤ 50 := by
  by_cases hh : askE n s 400 = 0 ∧ 50 < s.length
  · rw [shE, if_pos hh] at h1; cases h1
  · rw [shE, if_neg hh] at h1
    refine ⟨h1, ?_⟩
    rcases Nat.lt_or_ge 50 s.length with h | h
    · exact absurd ⟨h1, h⟩ hh
    · exact h
theorem Rings_ok {ro : List ABlk} {h : Heap} {n : Int} {s : List UInt8} : callX F1 ro 24 [.i .i64 n, .s s] h = some (.tup [.i .i64 (rgN n s), .i .i64 (shE n s)], h, h.length, h.length) := by
  refine g24_ok (meansX_ok F1 ro) rfl ?_
  unfold g24
  have c1 := callM_pure (call := callX F1 ro) (l := h.length) (p := h.length) (short_ok (ro := ro) (h := h) (n := n) (s := s)) (Nat.le_refl _) (Nat.le_refl _)
  unfold rgN
  simp only [meansX_call, c1, bindP_some, e_x0, e_x1, bindO_some, asI_i, eqI_eq, forceB_eq]
  by_cases h1 : shE n s = 0
  · obtain ⟨hask, h50⟩ := shE_zero h1
    obtain ⟨p1, p2, p3, p4, p5⟩ := okR_of hask
    obtain ⟨k, rfl⟩ : ∃ k : Nat, n = (k : Int) := ⟨n.toNat, by omega⟩
    have hU : shU k s = (k : Int) := by rw [shU, if_neg (fun hh => by omega), rdU, if_pos hask]
    obtain ⟨r, k1, hq, rfl, q1, q2⟩ := loop_seq (b := fun z : Int × Int × Mm => g24_b0 (meansX F1 ro) ro s k z.1 z.2.1 z.2.2) 4
      (fun p z => ∃ hp, z = (((sumR k s p : Nat) : Int), (p : Int), ⟨hp, h.length, h.length⟩) ∧ h.length ≤ hp.length ∧ ∀ j, j < h.length → hp[j]? = h[j]?)
      (fun r => ∃ hp, r = (((sumR k s 4 : Nat) : Int), ⟨hp, h.length, h.length⟩) ∧ h.length ≤ hp.length ∧ ∀ j, j < h.length → hp[j]? = h[j]?)
      (fun p z hp4 hI => by
        obtain ⟨hp, rfl, hlen, hkeep⟩ := hI
        have hlt : decide ((p : Int) < 4) = true := by simp; omega
        have ha := al4 (ro := ro) (hp := hp) (l := h.length) (p := h.length)
        have h9 := blk4_0 hp
        generalize hBn : hp ++ [some (blkOf 63 [(AVal.i IntKind.i64 0), (AVal.i IntKind.i64 0), (AVal.i IntKind.i64 0), (AVal.i IntKind.i64 0)])] = Hn at ha h9
        have hLn : Hn.length = hp.length + 1 := by rw [← hBn]; simp
        have hKn : ∀ k, k < hp.length → Hn[k]? = hp[k]? := fun k hk => by rw [← hBn]; exact List.getElem?_append_left hk
        obtain ⟨y, s1, s2⟩ := Vec.set (ro := ro) (l := h.length) (p := h.length) h9 (r := p) hp4 (v := .i .i64 1) rfl rfl rfl
        rw [Nat.min_eq_left hlen] at s1
        have v4 : V4 (Hn.set hp.length y) hp.length (oneF p) := s2.congr fun r hr => by
          show (if r = p then _ else _) = _
          unfold oneF
          by_cases e : r = p
          · rw [if_pos e, if_pos e]; rfl
          · rw [if_neg e, if_neg e]
        have ld := V4.ld4 (ro := ro) (l := h.length) (p := h.length) v4
        have hl2 : (Hn.set hp.length y).length = hp.length + 1 := by rw [List.length_set]; exact hLn
        have cw := callM_pure (call := callX F1 ro) (l := h.length) (p := h.length) (walks_ok (ro := ro) (h := Hn.set hp.length y) (f := oneF p) (by omega : k < 256) p5 h50 (fun j _ => oneF_le p j)) (by omega) (by omega)
        have hs4 := sumR_le (u := k) h50 p (by omega)
        have hs5 := sumR_le (u := k) h50 (p + 1) (by omega)
        have ew : wr .i64 (((sumR k s p : Nat) : Int) + ((wkN k s (oneF p) s.length p : Nat) : Int)) = ((sumR k s (p + 1) : Nat) : Int) := by
          have e : sumR k s (p + 1) = sumR k s p + wkN k s (oneF p) s.length p := rfl
          have h6 : (p + 1) * 1125899906842624 ≤ 4 * 1125899906842624 := Nat.mul_le_mul_right _ (by omega)
          rw [wr_id' (by omega) (by omega)]; omega
        refine ⟨_, ?_, Hn.set hp.length y, rfl, by omega, fun j hj => by rw [List.getElem?_set_ne (by omega), hKn j (by omega), hkeep j hj]⟩
        simp only [g24_b0, ltI_eq, forceB_eq, hlt, cond_true, ha, bindP_some, ixA4 hp4, bindO_some, s1, ld, meansX_call, cw, ixV4 hp4, asI_i, forceI_eq, ew, wr_next (by omega : p ≤ 1000000)])
      (fun z hI => by
        obtain ⟨hp, rfl, hlen, hkeep⟩ := hI
        refine ⟨_, ?_, hp, rfl, hlen, hkeep⟩
        have : decide ((4 : Int) < 4) = false := rfl
        show g24_b0 (meansX F1 ro) ro s k _ 4 _ = _
        simp only [g24_b0, ltI_eq, forceB_eq, this, cond_false])
      4 0 (0, 0, ⟨h, h.length, h.length⟩) rfl ⟨h, rfl, Nat.le_refl _, fun _ _ => rfl⟩
    have z0 : ((0 : Int) == 0) = true := rfl
    simp only [h1, z0, Bool.not_true, cond_false, hU, meansX_loop, k1, bindO_some, if_true, Int.toNat_natCast, tupA]
    rw [fin_take (by rfl), take_keep q1 q2]
  · have b1 : (shE n s == 0) = false := beq_eq_false_iff_ne.2 h1
    simp only [b1, Bool.not_false, cond_true, if_neg h1, tupA]
    exact fin_pure rfl
end Go.Proofs.Ytgbkicelkpagpaa.W

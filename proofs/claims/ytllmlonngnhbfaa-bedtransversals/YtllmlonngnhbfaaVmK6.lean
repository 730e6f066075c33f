/- A sowing; the program's Check. -/
import Derived.Test.YtllmlonngnhbfaaVmK5
open Go.Vm
set_option linter.unusedVariables false
namespace Go.Proofs.Ytllmlonngnhbfaa.Bed
open Go

def sw (r c k : Nat) : Nat → Nat
  | 0 => r
  | 1 => c
  | _ => k
theorem sw_lt {r c k : Nat} (hr : r < 7) (hc : c < 7) (hk : k < 7) (i : Nat) : sw r c k i < 7 := by
  unfold sw; split <;> assumption

theorem pow_lt {k : Nat} (hk : k ≤ 7) : 2 ^ k < 256 := by
  have : 2 ^ k ≤ 2 ^ 7 := Nat.pow_le_pow_right (by omega) hk
  omega

theorem set_last {hp : Heap} {x : Heap} {b : Nat} (hb : b < hp.length) (v : Option ABlk) : (hp ++ x).set b v = hp.set b v ++ x := List.set_append_left b v hb

theorem sow_ok {ro : List ABlk} {hp : Heap} {b n : Nat} {crop : Nat → Nat → Int} {met : Nat → Nat → Nat → Nat} (hg : IsGr hp b n crop met) {r c k : Nat} (hr : r < 7) (hc : c < 7) (hk : k < 7) :
    ∃ blk', callX F1 ro 54 [.p (some ⟨false, b, 0⟩), .agg [.i .i64 r, .i .i64 c, .i .i64 k]] hp = some (.tup [], hp.set b (some blk'), b, hp.length) ∧ blk'.n = 113 ∧
      Gr blk'.c n (fun r' c' => if r' = r ∧ c' = c then (k : Int) else crop r' c') (fun i j a => if a = sw r c k i then met i j a ||| 2 ^ sw r c k j else met i j a) := by
  obtain ⟨blk, hb, hbn, hg⟩ := hg
  have hlt := lget_lt hb
  obtain ⟨bx, hbx⟩ : ∃ bx, bx = blkOf 62 [.i .i64 (r : Int), .i .i64 (c : Int), .i .i64 (k : Int)] := ⟨_, rfl⟩
  have e1 : stepM ro ⟨hp, hp.length, hp.length⟩ (.bx 62 3 (.c (.agg [.i .i64 r, .i .i64 c, .i .i64 k]))) = some (.p (some ⟨false, hp.length, 0⟩), ⟨hp ++ [some bx], hp.length, hp.length⟩) := by rw [hbx]; rfl
  have n3 : bx.n = 3 := by rw [hbx]; rfl
  have cx : ∀ i, i < 3 → bx.c.get (0 + i * 1) = .i .i64 (sw r c k i : Nat) := fun i hi => by
    rw [hbx, get_blk]
    match i, hi with
    | 0, _ => rfl
    | 1, _ => rfl
    | 2, _ => rfl
  have lx : ∀ y, lget ((hp ++ [some bx]).set b y) hp.length = some (some bx) := fun y => by
    rw [lget_eq, List.getElem?_set_ne (by omega)]; simp
  have hsw := sw_lt hr hc hk
  have wri : ∀ k : Nat, k < 7 → wr .i64 ((k : Int) + 1) = ((k + 1 : Nat) : Int) := fun k hk => by rw [wr_id' (by omega) (by omega)]; omega
  -- the inner loop
  have inner : ∀ (i : Nat) (blk : ABlk) (crop : Nat → Nat → Int) (met : Nat → Nat → Nat → Nat), i < 3 → blk.n = 113 → Gr blk.c n crop met →
      ∃ blk', loopX (fun s => g54_b1 (meansX F1 ro) ro (.p (some ⟨false, b, 0⟩)) (.p (some ⟨false, hp.length, 0⟩)) i s.1 s.2) (0, ⟨(hp ++ [some bx]).set b (some blk), b, hp.length⟩) = some ⟨(hp ++ [some bx]).set b (some blk'), b, hp.length⟩ ∧
        blk'.n = 113 ∧ Gr blk'.c n crop (fun i' j a => if i' = i ∧ a = sw r c k i then met i' j a ||| 2 ^ sw r c k j else met i' j a) := by
    intro i blk crop met hi hbn hg
    refine loopX_elim (b := fun s => g54_b1 (meansX F1 ro) ro (.p (some ⟨false, b, 0⟩)) (.p (some ⟨false, hp.length, 0⟩)) i s.1 s.2)
      (fun s => ∃ (j : Nat) (blk : ABlk), s.1 = (j : Int) ∧ j ≤ 3 ∧ s.2 = ⟨(hp ++ [some bx]).set b (some blk), b, hp.length⟩ ∧ blk.n = 113 ∧ Gr blk.c n crop (fun i' j' a => if i' = i ∧ a = sw r c k i ∧ j' < j then met i' j' a ||| 2 ^ sw r c k j' else met i' j' a))
      (fun m => ∃ blk, m = ⟨(hp ++ [some bx]).set b (some blk), b, hp.length⟩ ∧ blk.n = 113 ∧ Gr blk.c n crop (fun i' j' a => if i' = i ∧ a = sw r c k i then met i' j' a ||| 2 ^ sw r c k j' else met i' j' a))
      (fun s => 3 - s.1.toNat) (0, ⟨(hp ++ [some bx]).set b (some blk), b, hp.length⟩) ⟨0, blk, rfl, by omega, rfl, hbn, hg.congr (fun _ _ _ _ => rfl) (fun i' j' a _ _ _ => by simp)⟩ ?_ ?_
    · rintro ⟨x, m⟩ ⟨j, blk, hx, hj, hm, hbn, hg⟩
      simp only at hx hm
      subst hx hm
      by_cases hlt3 : j < 3
      · left
        have e : decide ((j : Int) < 3) = true := by simp; omega
        have lb : lget ((hp ++ [some bx]).set b (some blk)) b = some (some blk) := by rw [lget_eq]; exact List.getElem?_set_self (by rw [List.length_append]; omega)
        have qi : ∀ i, i < 3 → ldA ro ((hp ++ [some bx]).set b (some blk)) true 1 (.p (some ⟨false, hp.length, 0 + i * 1⟩)) = some (.i .i64 (sw r c k i : Nat)) := fun i hi => by rw [lda_heap (lx _) (by omega), cx i hi]
        have ha := hsw i
        obtain ⟨m1, m1'⟩ := hg.mets i j (sw r c k i) hi hlt3 ha
        have qm : ldA ro ((hp ++ [some bx]).set b (some blk)) true 1 (.p (some ⟨false, b, 0 + 50 + i * 21 + j * 7 + sw r c k i * 1⟩)) = some (.i .u8 (met i j (sw r c k i))) := by
          rw [lda_heap lb (by omega), Nat.zero_add, m1, if_neg (by omega)]
        rw [if_neg (by omega)] at m1'
        have hs0 : (!ltI (sw r c k j : Int) (.ofNat 0)) = true := by rw [ltI_eq]; simp
        have hor := bit_or m1' (pow_lt (Nat.le_of_lt (hsw j)))
        have hw := wr_heap (ro := ro) (l := b) (p := hp.length) lb (by omega : 0 + 50 + i * 21 + j * 7 + sw r c k i * 1 < blk.n) (v := .i .u8 ((met i j (sw r c k i) ||| 2 ^ sw r c k j : Nat) : Int)) rfl rfl
        rw [Nat.min_self, List.set_set] at hw
        refine ⟨(((j + 1 : Nat) : Int), ⟨(hp ++ [some bx]).set b (some { blk with c := blk.c.set (0 + 50 + i * 21 + j * 7 + sw r c k i * 1) (.i .u8 ((met i j (sw r c k i) ||| 2 ^ sw r c k j : Nat) : Int)) }), b, hp.length⟩), ?_,
          ⟨j + 1, { blk with c := blk.c.set (0 + 50 + i * 21 + j * 7 + sw r c k i * 1) (.i .u8 ((met i j (sw r c k i) ||| 2 ^ sw r c k j : Nat) : Int)) }, rfl, by omega, rfl, hbn, ?_⟩, by first | omega | (simp only; omega)⟩
        · simp only [g54_b1, forceB_eq, ltI_eq, e, cond_true, p_ixA rfl hi, p_ixA rfl hlt3, bindO_some, qi i hi, qi j hlt3, asI_i, p_nilck, p_faddr, p_ixA rfl ha, qm, shl_one (Nat.le_of_lt (hsw j)), forceI_eq, hor, asP_p, AVal.cells, hw, wri j (by omega)]
          have hs0' : (!decide ((sw r c k j : Int) < Int.ofNat 0)) = true := by rw [← ltI_eq]; exact hs0
          rw [hs0']
          rfl
        · have h2 := (hg.setMet (i := i) (j := j) (a := sw r c k i) hi hlt3 ha (v := met i j (sw r c k i) ||| 2 ^ sw r c k j) (or_lt m1' (pow_lt (Nat.le_of_lt (hsw j)))))
          rw [Nat.zero_add]
          refine h2.congr (fun _ _ _ _ => rfl) (fun i' j' a' _ _ _ => ?_)
          by_cases c1 : i' = i ∧ j' = j ∧ a' = sw r c k i
          · obtain ⟨rfl, rfl, rfl⟩ := c1
            rw [if_pos ⟨rfl, rfl, rfl⟩, if_pos ⟨rfl, rfl, by omega⟩]
          · rw [if_neg c1]
            by_cases c2 : i' = i ∧ a' = sw r c k i ∧ j' < j
            · rw [if_pos c2, if_pos ⟨c2.1, c2.2.1, by omega⟩]
            · rw [if_neg c2, if_neg (fun c3 => by
                by_cases c4 : j' = j
                · exact c1 ⟨c3.1, c4, c3.2.1⟩
                · exact c2 ⟨c3.1, c3.2.1, by omega⟩)]
      · right
        have : j = 3 := by omega
        subst this
        refine ⟨_, ?_, blk, rfl, hbn, hg.congr (fun _ _ _ _ => rfl) (fun i' j' a' _ hj' _ => ?_)⟩
        · simp only [g54_b1, forceB_eq, ltI_eq]
          simp
        · by_cases c2 : i' = i ∧ a' = sw r c k i
          · rw [if_pos ⟨c2.1, c2.2, hj'⟩, if_pos c2]
          · rw [if_neg (fun c3 => c2 ⟨c3.1, c3.2.1⟩), if_neg c2]
    · rintro m hl ⟨blk', rfl, h1, h2⟩
      exact ⟨blk', hl, h1, h2⟩
  -- the first store
  have lb0 : lget (hp ++ [some bx]) b = some (some blk) := lget_ext hb _
  obtain ⟨blk1, hblk1⟩ : ∃ blk1 : ABlk, blk1 = { blk with c := blk.c.set (1 + r * 7 + c * 1) (.i .i64 (k : Int)) } := ⟨_, rfl⟩
  have hw0 := wr_heap (ro := ro) (l := hp.length) (p := hp.length) lb0 (by omega : 0 + 1 + r * 7 + c * 1 < blk.n) (v := .i .i64 (k : Int)) rfl rfl
  rw [Nat.min_eq_right (Nat.le_of_lt hlt), Nat.zero_add, ← hblk1] at hw0
  have q0 : ∀ i, i < 3 → ldA ro (hp ++ [some bx]) true 1 (.p (some ⟨false, hp.length, 0 + i * 1⟩)) = some (.i .i64 (sw r c k i : Nat)) := fun i hi => by rw [lda_heap (lget_last _ _) (by omega), cx i hi]
  have hg1 : Gr blk1.c n (fun r' c' => if r' = r ∧ c' = c then (k : Int) else crop r' c') met := by rw [hblk1]; exact hg.setCrop hr hc k
  have hn1 : blk1.n = 113 := by rw [hblk1]; exact hbn
  refine loopX_elim (b := fun s => g54_b0 (meansX F1 ro) ro (.p (some ⟨false, b, 0⟩)) (.p (some ⟨false, hp.length, 0⟩)) s.1 s.2)
    (fun s => ∃ (i : Nat) (blk : ABlk), s.1 = (i : Int) ∧ i ≤ 3 ∧ s.2 = ⟨(hp ++ [some bx]).set b (some blk), b, hp.length⟩ ∧ blk.n = 113 ∧ Gr blk.c n (fun r' c' => if r' = r ∧ c' = c then (k : Int) else crop r' c') (fun i' j' a => if a = sw r c k i' ∧ i' < i then met i' j' a ||| 2 ^ sw r c k j' else met i' j' a))
    (fun m => ∃ blk, m = ⟨(hp ++ [some bx]).set b (some blk), b, hp.length⟩ ∧ blk.n = 113 ∧ Gr blk.c n (fun r' c' => if r' = r ∧ c' = c then (k : Int) else crop r' c') (fun i' j' a => if a = sw r c k i' then met i' j' a ||| 2 ^ sw r c k j' else met i' j' a))
    (fun s => 3 - s.1.toNat) (0, ⟨(hp ++ [some bx]).set b (some blk1), b, hp.length⟩) ⟨0, blk1, rfl, by omega, rfl, hn1, hg1.congr (fun _ _ _ _ => rfl) (fun i' j' a _ _ _ => by simp)⟩ ?_ ?_
  · rintro ⟨x, m⟩ ⟨i, blk, hx, hi, hm, hbn, hg⟩
    simp only at hx hm
    subst hx hm
    by_cases hlt3 : i < 3
    · left
      have e : decide ((i : Int) < 3) = true := by simp; omega
      obtain ⟨blk', i1, i2, i3⟩ := inner i blk _ _ hlt3 hbn hg
      refine ⟨(((i + 1 : Nat) : Int), ⟨(hp ++ [some bx]).set b (some blk'), b, hp.length⟩), ?_, ⟨i + 1, blk', rfl, by omega, rfl, i2, i3.congr (fun _ _ _ _ => rfl) (fun i' j' a _ _ _ => ?_)⟩, by first | omega | (simp only; omega)⟩
      · simp only [g54_b0, forceB_eq, ltI_eq, e, cond_true, meansX_loop, i1, bindO_some, forceI_eq, wri i (by omega)]
      · by_cases c1 : i' = i ∧ a = sw r c k i
        · obtain ⟨rfl, rfl⟩ := c1
          rw [if_pos ⟨rfl, rfl⟩, if_neg (by omega), if_pos ⟨rfl, by omega⟩]
        · rw [if_neg c1]
          by_cases c2 : a = sw r c k i' ∧ i' < i
          · rw [if_pos c2, if_pos ⟨c2.1, by omega⟩]
          · rw [if_neg c2, if_neg (fun c3 => by
              by_cases c4 : i' = i
              · subst c4; exact c1 ⟨rfl, c3.1⟩
              · exact c2 ⟨c3.1, by omega⟩)]
    · right
      have : i = 3 := by omega
      subst this
      refine ⟨_, ?_, blk, rfl, hbn, hg.congr (fun _ _ _ _ => rfl) (fun i' j' a' hi' _ _ => ?_)⟩
      · simp only [g54_b0, forceB_eq, ltI_eq]
        simp
      · by_cases c2 : a' = sw r c k i'
        · rw [if_pos ⟨c2, hi'⟩, if_pos c2]
        · rw [if_neg (fun c3 => c2 c3.1), if_neg c2]
  · rintro m hl ⟨blk', rfl, h1, h2⟩
    refine ⟨blk', g54_ok (meansX_ok F1 ro) rfl ?_, h1, h2⟩
    unfold g54
    have i0 : (0 : Int) = ((0 : Nat) : Int) := rfl
    have i1 : (1 : Int) = ((1 : Nat) : Int) := rfl
    have i2 : (2 : Int) = ((2 : Nat) : Int) := rfl
    have w0 : sw r c k 0 = r := rfl
    have w1 : sw r c k 1 = c := rfl
    have w2 : sw r c k 2 = k := rfl
    simp only [e1, bindP_some, p_ixA i0 (by omega : 0 < 3), p_ixA i1 (by omega : 1 < 3), p_ixA i2 (by omega : 2 < 3), bindO_some, q0 0 (by omega), q0 1 (by omega), q0 2 (by omega), w0, w1, w2, asI_i, p_nilck, p_faddr, p_ixA rfl hr, p_ixA rfl hc, asP_p, AVal.cells,
      Nat.zero_add, hw0, meansX_loop, hl, tupA]
    rw [set_last hlt]
    have hble : Nat.ble hp.length hp.length = true := by rw [Nat.ble_eq]; exact Nat.le_refl _
    simp [finM, gc, hble, AVal.bel, bels]
end Go.Proofs.Ytllmlonngnhbfaa.Bed

/- Beds and full beds: the reference's tests, the program's reading into a ground. -/
import Derived.Test.YtllmlonngnhbfaaVmK7
open Go.Vm
set_option linter.unusedVariables false
namespace Go.Proofs.Ytllmlonngnhbfaa.Bed
open Go

def bedP (x : List (List Int)) : Prop := shapedP x ∧ ∀ r c, r < x.length → c < x.length → ¬ dupP x r c
def fullP (x : List (List Int)) : Prop := bedP x ∧ ∀ r c, r < x.length → c < x.length → 0 ≤ at2 x r c

theorem dup1_iff {R : Type} {x : List (List Int)} {f : Nat → Nat → R} : dup1 x f = none ↔ ∀ r c, r < x.length → c < x.length → ¬ dupP x r c := by
  classical
  constructor
  · intro h r c hr hc hd
    have h1 := firstS_none.1 h r (by omega) (by omega)
    have h2 := firstS_none.1 h1 c (by omega) (by omega)
    rw [if_pos hd] at h2
    cases h2
  · exact dup1_none

open Classical in
theorem Bed_ok {ro : List ABlk} {h : Heap} {a : AVal} {x : List (List Int)} (ha : IsMat ro h a x) : callX F1 ro 47 [a] h = some (.b (decide (bedP x)), h, h.length, h.length) := by
  refine g47_ok (meansX_ok F1 ro) rfl ?_
  unfold g47
  simp only [meansX_call, callM_pure (Shaped_ok ha) (Nat.le_refl _) (Nat.le_refl _), bindP_some, asB_b, forceB_eq]
  by_cases hs : shapedP x
  · have e1 : decide (shapedP x) = true := decide_eq_true hs
    rw [show (@decide (shapedP x) (instDecidableShapedP x)) = true from decide_eq_true hs]
    simp only [Bool.not_true, cond_false]
    rw [callM_pure (again_ok ha hs) (Nat.le_refl _) (Nat.le_refl _)]
    cases hd : dup1 x fun r c => ((r : Int), (c : Int), true) with
    | none =>
      have hb : bedP x := ⟨hs, dup1_iff.1 hd⟩
      simp only [bindP_some, evP, ev_ext, opd, lget, bindO_some, asI_i, asB_b, Bool.not_false, decide_eq_true hb, tupA]
      exact fin_pure rfl
    | some o =>
      obtain ⟨r, c, b⟩ := o
      have hb : ¬ bedP x := fun hb => by rw [dup1_iff.2 hb.2] at hd; cases hd
      have hbt : b = true := by
        obtain ⟨j, -, -, h3, -⟩ := firstS_some hd
        obtain ⟨j2, -, -, h4, -⟩ := firstS_some h3
        split at h4
        · cases h4; rfl
        · cases h4
      subst hbt
      simp only [bindP_some, evP, ev_ext, opd, lget, bindO_some, asI_i, asB_b, Bool.not_true, decide_eq_false hb, tupA]
      exact fin_pure rfl
  · have hb : ¬ bedP x := fun hb => hs hb.1
    rw [show (@decide (shapedP x) (instDecidableShapedP x)) = false from decide_eq_false hs]
    simp only [Bool.not_false, cond_true, decide_eq_false hb, tupA]
    exact fin_pure rfl

open Classical in
theorem Full_ok {ro : List ABlk} {h : Heap} {a : AVal} {x : List (List Int)} (ha : IsMat ro h a x) : callX F1 ro 48 [a] h = some (.b (decide (fullP x)), h, h.length, h.length) := by
  refine g48_ok (meansX_ok F1 ro) rfl ?_
  unfold g48
  simp only [meansX_call, callM_pure (Bed_ok ha) (Nat.le_refl _) (Nat.le_refl _), bindP_some, asB_b, forceB_eq]
  by_cases hb : bedP x
  · have hs := hb.1
    have h7 := hs.2.1
    simp only [decide_eq_true hb, Bool.not_true, cond_false, meansX_loop]
    have hloop := loop_first (b := fun s => g48_b0 (meansX F1 ro) ro a ⟨h, h.length, h.length⟩ s) x.length
      (fun r => if (∀ c, c < x.length → 0 ≤ at2 x r c) then none else some false) ?_ ?_ x.length 0 (by omega)
    · have e0 : ((0 : Nat) : Int) = 0 := rfl
      rw [e0] at hloop
      rw [hloop, first_all]
      by_cases hf : fullP x
      · rw [if_pos (fun r hr c hc => hf.2 r c hr hc)]
        simp only [outS, bindO_some, decide_eq_true hf, tupA]
        exact fin_pure rfl
      · rw [if_neg (fun hh => hf ⟨hb, fun r c hr hc => hh r hr c hc⟩)]
        simp only [outS, bindO_some, decide_eq_false hf, tupA]
        exact fin_pure rfl
    · simp only [g48_b0, len_mat ha, bindO_some, asI_i, forceB_eq, ltI_eq]
      simp
    · intro r hr
      obtain ⟨p, u, k1, k2, k3, k4⟩ := at_mat (m := ⟨h, h.length, h.length⟩) rfl ha hr
      have e : decide ((r : Int) < (x.length : Int)) = true := by simp; omega
      have hlen := (hs.2.2 r hr).1
      simp only [g48_b0, len_mat ha, bindO_some, asI_i, forceB_eq, ltI_eq, e, cond_true, meansX_loop]
      have hloop2 := loop_first (b := fun s => g48_b1 (meansX F1 ro) ro a r ⟨h, h.length, h.length⟩ s) x.length (fun c => if 0 ≤ at2 x r c then none else some false) ?_ ?_ x.length 0 (by omega)
      · have e0 : ((0 : Nat) : Int) = 0 := rfl
        rw [e0] at hloop2
        rw [hloop2, first_all]
        by_cases hall : ∀ c, c < x.length → 0 ≤ at2 x r c
        · simp only [if_pos hall, outS, bindO_some, forceI_eq]
          rw [wr_id' (by omega) (by omega)]
        · simp only [if_neg hall, outS, bindO_some]
      · simp only [g48_b1, len_mat ha, bindO_some, asI_i, forceB_eq, ltI_eq]
        simp
      · intro c hc
        obtain ⟨p', l1, l2, l3⟩ := at_row (m := ⟨h, h.length, h.length⟩) rfl k4 (by rw [hlen]; exact hc : c < (x.getD r []).length)
        have e : decide ((c : Int) < (x.length : Int)) = true := by simp; omega
        have hat : (x.getD r []).getD c 0 = at2 x r c := rfl
        rw [hat] at l2
        simp only [g48_b1, len_mat ha, bindO_some, asI_i, forceB_eq, ltI_eq, e, cond_true, k1, k2, l1, l2]
        by_cases q1 : at2 x r c < 0
        · have q2 : ¬ (0 ≤ at2 x r c) := by omega
          rw [if_neg q2]
          simp only [q1, decide_true, cond_true]
        · have q2 : 0 ≤ at2 x r c := by omega
          rw [if_pos q2]
          simp only [q1, decide_false, cond_false, forceI_eq]
          rw [wr_id' (by omega) (by omega)]
  · have hf : ¬ fullP x := fun hf => hb hf.1
    simp only [decide_eq_false hb, Bool.not_false, cond_true, decide_eq_false hf, tupA]
    exact fin_pure rfl

/- is a number in a row? -/
open Classical in
theorem contains_ok {ro : List ABlk} {h : Heap} {u : AVal} {z : List Int} {v : Int} (hu : IsRow ro h u z) (hz : z.length ≤ 1000000) : callX F1 ro 90 [u, .i .i64 v] h = some (.b (decide (∃ j, j < z.length ∧ z.getD j 0 = v)), h, h.length, h.length) := by
  have hidx : ∃ i : Int, callX F1 ro 97 [u, .i .i64 v] h = some (.i .i64 i, h, h.length, h.length) ∧ (0 ≤ i ↔ ∃ j, j < z.length ∧ z.getD j 0 = v) := by
    have hloop := loop_first (b := fun s => g97_b0 (meansX F1 ro) ro u v z.length ⟨h, h.length, h.length⟩ s) z.length (fun i => if z.getD i 0 = v then some ((i : Nat) : Int) else none) ?_ ?_ z.length 0 (by omega)
    · have e0 : ((0 : Nat) : Int) = 0 := rfl
      rw [e0] at hloop
      cases hf : firstS (fun i => if z.getD i 0 = v then some ((i : Nat) : Int) else none) z.length 0 with
      | none =>
        rw [hf] at hloop
        refine ⟨-1, g97_ok (meansX_ok F1 ro) rfl ?_, ⟨fun h => by omega, fun ⟨j, h1, h2⟩ => ?_⟩⟩
        · unfold g97
          simp only [len_row hu, bindO_some, asI_i, meansX_loop, hloop, outS, tupA]
          exact fin_pure rfl
        · have := firstS_none.1 hf j (by omega) (by omega)
          rw [if_pos h2] at this; cases this
      | some i =>
        rw [hf] at hloop
        obtain ⟨j, -, h2, h3, -⟩ := firstS_some hf
        by_cases hc : z.getD j 0 = v
        · rw [if_pos hc] at h3
          cases h3
          refine ⟨(j : Int), g97_ok (meansX_ok F1 ro) rfl ?_, ⟨fun _ => ⟨j, by omega, hc⟩, fun _ => by omega⟩⟩
          unfold g97
          simp only [len_row hu, bindO_some, asI_i, meansX_loop, hloop, outS, tupA]
          exact fin_pure rfl
        · rw [if_neg hc] at h3; cases h3
    · simp only [g97_b0, forceB_eq, ltI_eq]
      simp
    · intro i hi
      obtain ⟨p, l1, l2, l3⟩ := at_row (m := ⟨h, h.length, h.length⟩) rfl hu hi
      have e : decide ((i : Int) < (z.length : Int)) = true := by simp; omega
      simp only [g97_b0, bindO_some, asI_i, forceB_eq, ltI_eq, e, cond_true, l1, l2, eqI_eq]
      by_cases hc : z.getD i 0 = v
      · rw [if_pos hc, hc]
        simp only [beq_self_eq_true, cond_true]
      · have e2 : (v == z.getD i 0) = false := by simp only [beq_eq_false_iff_ne, ne_eq]; exact fun hh => hc hh.symm
        rw [if_neg hc]
        simp only [e2, cond_false, forceI_eq]
        rw [wr_id' (by omega) (by omega)]
  obtain ⟨i, h1, h2⟩ := hidx
  refine g90_ok (meansX_ok F1 ro) rfl ?_
  unfold g90
  simp only [meansX_call, callM_pure h1 (Nat.le_refl _) (Nat.le_refl _), bindP_some, asI_i, forceB_eq, ltI_eq, tupA]
  by_cases hc : ∃ j, j < z.length ∧ z.getD j 0 = v
  · have : ¬ (i < 0) := by have := h2.2 hc; omega
    simp only [decide_eq_true hc, decide_eq_false this, Bool.not_false]
    exact fin_pure rfl
  · have : i < 0 := by
      by_cases hh : 0 ≤ i
      · exact absurd (h2.1 hh) hc
      · omega
    simp only [decide_eq_false hc, decide_eq_true this, Bool.not_true]
    exact fin_pure rfl

/-- all that is met, of the places ahead of (r, k) -/
def MetAll (x : List (List Int)) (r k : Nat) (met : Nat → Nat → Nat → Nat) : Prop := ∀ i j a b, i < 3 → j < 3 → a < 7 →
  ((met i j a).testBit b = true ↔ ∃ r' k' v : Nat, r' < x.length ∧ k' < x.length ∧ (r' < r ∨ (r' = r ∧ k' < k)) ∧ at2 x r' k' = v ∧ sw r' k' v i = a ∧ sw r' k' v j = b)
theorem MetAll.skip {x : List (List Int)} {r k : Nat} {met : Nat → Nat → Nat → Nat} (h : MetAll x r k met) (hv : at2 x r k < 0) : MetAll x r (k + 1) met := by
  intro i j a b hi hj ha
  rw [h i j a b hi hj ha]
  constructor
  · rintro ⟨r', k', v, h1, h2, h3, h4⟩
    exact ⟨r', k', v, h1, h2, by omega, h4⟩
  · rintro ⟨r', k', v, h1, h2, h3, h4, h5⟩
    refine ⟨r', k', v, h1, h2, ?_, h4, h5⟩
    by_cases e : r' = r ∧ k' = k
    · obtain ⟨rfl, rfl⟩ := e; omega
    · omega
theorem MetAll.sow {x : List (List Int)} {r k : Nat} {met : Nat → Nat → Nat → Nat} (h : MetAll x r k met) (hr : r < x.length) (hk : k < x.length) {v : Nat} (hv : at2 x r k = v) :
    MetAll x r (k + 1) (fun i j a => if a = sw r k v i then met i j a ||| 2 ^ sw r k v j else met i j a) := by
  intro i j a b hi hj ha
  show (if a = sw r k v i then met i j a ||| 2 ^ sw r k v j else met i j a).testBit b = true ↔ _
  have hb := h i j a b hi hj ha
  by_cases e : a = sw r k v i
  · rw [if_pos e, Nat.testBit_or, Nat.testBit_two_pow, Bool.or_eq_true, hb, decide_eq_true_eq]
    constructor
    · rintro (⟨r', k', v', h1, h2, h3, h4⟩ | h5)
      · exact ⟨r', k', v', h1, h2, by omega, h4⟩
      · exact ⟨r, k, v, hr, hk, by omega, hv, e.symm, h5⟩
    · rintro ⟨r', k', v', h1, h2, h3, h4, h5, h6⟩
      by_cases e2 : r' = r ∧ k' = k
      · obtain ⟨rfl, rfl⟩ := e2
        have : v' = v := by omega
        subst this
        exact .inr h6
      · exact .inl ⟨r', k', v', h1, h2, by omega, h4, h5, h6⟩
  · rw [if_neg e, hb]
    constructor
    · rintro ⟨r', k', v', h1, h2, h3, h4⟩
      exact ⟨r', k', v', h1, h2, by omega, h4⟩
    · rintro ⟨r', k', v', h1, h2, h3, h4, h5, h6⟩
      by_cases e2 : r' = r ∧ k' = k
      · obtain ⟨rfl, rfl⟩ := e2
        have : v' = v := by omega
        subst this
        exact absurd h5.symm e
      · exact ⟨r', k', v', h1, h2, by omega, h4, h5, h6⟩
theorem MetAll.next {x : List (List Int)} {r : Nat} {met : Nat → Nat → Nat → Nat} (h : MetAll x r x.length met) : MetAll x (r + 1) 0 met := by
  intro i j a b hi hj ha
  rw [h i j a b hi hj ha]
  constructor <;>
  · rintro ⟨r', k', v, h1, h2, h3, h4⟩
    exact ⟨r', k', v, h1, h2, by omega, h4⟩

def cropOf (x : List (List Int)) (r k : Nat) (r' k' : Nat) : Int := if r' < x.length ∧ k' < x.length then (if r' < r ∨ (r' = r ∧ k' < k) then at2 x r' k' else -1) else 0
/-- the state while a bed is read -/
def St8 (h : Heap) (x : List (List Int)) (r k : Nat) (m : Mm) : Prop := ∃ blk met, m = ⟨h ++ [some blk], h.length, h.length⟩ ∧ blk.n = 113 ∧ Gr blk.c x.length (cropOf x r k) met ∧ MetAll x r k met
/-- the ground of a bed -/
def GrOf (c : Tr) (x : List (List Int)) : Prop := ∃ met, Gr c x.length (fun r k => if r < x.length ∧ k < x.length then at2 x r k else 0) met ∧ MetAll x x.length 0 met

theorem read_inner {ro : List ABlk} {h : Heap} {a u : AVal} {x : List (List Int)} (hs : shapedP x) {r : Nat} (hr : r < x.length) (hu : IsRow ro h u (x.getD r [])) {m : Mm} (hm : St8 h x r 0 m) :
    ∃ m', loopX (fun s => g59_b1 (meansX F1 ro) ro (.p (some ⟨false, h.length, 0⟩)) r a x.length u x.length s.1 s.2) (0, m) = some m' ∧ St8 h x (r + 1) 0 m' := by
  have h7 := hs.2.1
  have wri : ∀ k : Nat, k < 7 → wr .i64 ((k : Int) + 1) = ((k + 1 : Nat) : Int) := fun k hk => by rw [wr_id' (by omega) (by omega)]; omega
  refine loopX_rule (b := fun s => g59_b1 (meansX F1 ro) ro (.p (some ⟨false, h.length, 0⟩)) r a x.length u x.length s.1 s.2)
    (fun s => ∃ k : Nat, s.1 = (k : Int) ∧ k ≤ x.length ∧ St8 h x r k s.2) _ (fun s => x.length - s.1.toNat) ?_ (0, m) ⟨0, rfl, by omega, hm⟩
  rintro ⟨y, m⟩ ⟨k, hy, hk, blk, met, hm, hbn, hg, hM⟩
  simp only at hy hm
  subst hy hm
  by_cases hlt : k < x.length
  · left
    have e : decide ((k : Int) < (x.length : Int)) = true := by simp; omega
    obtain ⟨hrl, hrc⟩ := hs.2.2 r hr
    obtain ⟨v1, v2⟩ := hrc k hlt
    have hat : (x.getD r []).getD k 0 = at2 x r k := rfl
    rw [hat] at v1 v2
    obtain ⟨p, l1, l2, l3⟩ := at_row (m := ⟨h ++ [some blk], h.length, h.length⟩) rfl (hu.ext [some blk]) (by omega : k < (x.getD r []).length)
    rw [hat] at l2
    by_cases hv : at2 x r k = -1
    · refine ⟨(((k + 1 : Nat) : Int), ⟨h ++ [some blk], h.length, h.length⟩), ?_, ⟨k + 1, rfl, by omega, blk, met, rfl, hbn, hg.congr (fun r' k' hr' hk' => ?_) (fun _ _ _ _ _ _ => rfl), hM.skip (by omega)⟩, by first | omega | (simp only; omega)⟩
      · have e2 : (at2 x r k == -1) = true := by simp [hv]
        simp only [g59_b1, forceB_eq, ltI_eq, e, cond_true, l1, l2, bindO_some, asI_i, eqI_eq, e2, Bool.not_true, cond_false, forceI_eq, wri k (by omega)]
      · unfold cropOf
        by_cases c0 : r' < x.length ∧ k' < x.length
        · rw [if_pos c0, if_pos c0]
          by_cases c1 : r' = r ∧ k' = k
          · obtain ⟨rfl, rfl⟩ := c1
            rw [if_neg (by omega), if_pos (by omega), hv]
          · by_cases c2 : r' < r ∨ (r' = r ∧ k' < k)
            · rw [if_pos c2, if_pos (by omega)]
            · rw [if_neg c2, if_neg (by omega)]
        · rw [if_neg c0, if_neg c0]
    · obtain ⟨v, hvv⟩ : ∃ v : Nat, at2 x r k = (v : Int) := ⟨(at2 x r k).toNat, by omega⟩
      have hvn : v < x.length := by omega
      have e2 : (at2 x r k == -1) = false := by simp only [beq_eq_false_iff_ne, ne_eq]; exact hv
      have hG : IsGr (h ++ [some blk]) h.length x.length (cropOf x r k) met := ⟨blk, lget_last _ _, hbn, hg⟩
      obtain ⟨blk', hsow, hn', hg'⟩ := sow_ok (ro := ro) hG (r := r) (c := k) (k := v) (by omega) (by omega) (by omega)
      have hset : (h ++ [some blk]).set h.length (some blk') = h ++ [some blk'] := by simp
      rw [hset] at hsow
      have hcall2 := callM_eq (m := ⟨h ++ [some blk], h.length, h.length⟩) hsow
      have hl1 : min h.length (h ++ [some blk]).length = h.length := by simp
      simp only [Nat.min_self, hl1] at hcall2
      refine ⟨(((k + 1 : Nat) : Int), ⟨h ++ [some blk'], h.length, h.length⟩), ?_, ⟨k + 1, rfl, by omega, blk', _, rfl, hn', hg'.congr (fun r' k' hr' hk' => ?_) (fun _ _ _ _ _ _ => rfl), hM.sow hr hlt hvv⟩, by first | omega | (simp only; omega)⟩
      · have hfill2 : (fillA [(AVal.i IntKind.i64 0), (AVal.i IntKind.i64 0), (AVal.i IntKind.i64 0)] [((0, 1), (.i .i64 (r : Int))), ((1, 1), (.i .i64 (k : Int))), ((2, 1), (.i .i64 (v : Int)))]).map AVal.agg = some (.agg [.i .i64 (r : Int), .i .i64 (k : Int), .i .i64 (v : Int)]) := rfl
        simp only [g59_b1, forceB_eq, ltI_eq, e, cond_true, l1, l2, bindO_some, asI_i, eqI_eq, e2, Bool.not_false, meansX_call]
        rw [hvv]
        simp only [hfill2, bindO_some, hcall2, bindP_some, forceI_eq, wri k (by omega)]
      · unfold cropOf
        by_cases c1 : r' = r ∧ k' = k
        · obtain ⟨rfl, rfl⟩ := c1
          rw [if_pos ⟨rfl, rfl⟩, if_pos ⟨hr, hlt⟩, if_pos (by omega), hvv]
        · rw [if_neg c1]
          by_cases c0 : r' < x.length ∧ k' < x.length
          · rw [if_pos c0, if_pos c0]
            by_cases c2 : r' < r ∨ (r' = r ∧ k' < k)
            · rw [if_pos c2, if_pos (by omega)]
            · rw [if_neg c2, if_neg (by omega)]
          · rw [if_neg c0, if_neg c0]
  · right
    have : k = x.length := by omega
    subst this
    refine ⟨⟨h ++ [some blk], h.length, h.length⟩, ?_, blk, met, rfl, hbn, hg.congr (fun r' k' hr' hk' => ?_) (fun _ _ _ _ _ _ => rfl), hM.next⟩
    · simp only [g59_b1, forceB_eq, ltI_eq]
      simp
    · unfold cropOf
      by_cases c0 : r' < x.length ∧ k' < x.length
      · rw [if_pos c0, if_pos c0]
        by_cases c2 : r' < r ∨ (r' = r ∧ k' < x.length)
        · rw [if_pos c2, if_pos (by omega)]
        · rw [if_neg c2, if_neg (by omega)]
      · rw [if_neg c0, if_neg c0]
end Go.Proofs.Ytllmlonngnhbfaa.Bed

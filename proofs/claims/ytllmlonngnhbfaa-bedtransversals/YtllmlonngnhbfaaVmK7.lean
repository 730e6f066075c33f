/- The program's Check. -/
import Derived.Test.YtllmlonngnhbfaaVmK6
open Go.Vm
set_option linter.unusedVariables false
namespace Go.Proofs.Ytllmlonngnhbfaa.Bed
open Go

theorem firstS_at {R : Type} {step : Nat → Option R} {r : R} : ∀ {k i j : Nat}, i ≤ j → j < i + k → (∀ j', i ≤ j' → j' < j → step j' = none) → step j = some r → firstS step k i = some r
  | 0, i, j, h1, h2, _, _ => by omega
  | k + 1, i, j, h1, h2, h3, h4 => by
    unfold firstS
    by_cases e : i = j
    · subst e; rw [h4]
    · rw [h3 i (Nat.le_refl _) (by omega)]
      exact firstS_at (by omega) (by omega) (fun j' h5 h6 => h3 j' (by omega) h6) h4

open Classical in
theorem dup1_none {R : Type} {x : List (List Int)} {f : Nat → Nat → R} (h : ∀ r c, r < x.length → c < x.length → ¬ dupP x r c) : dup1 x f = none :=
  firstS_none.2 fun r _ hr => firstS_none.2 fun c _ hc => by rw [if_neg (h r c (by omega) (by omega))]
open Classical in
theorem dup1_some {R : Type} {x : List (List Int)} {f : Nat → Nat → R} {r c : Nat} (hr : r < x.length) (hc : c < x.length) (h : ∀ r' c', c' < x.length → (r' < r ∨ (r' = r ∧ c' < c)) → ¬ dupP x r' c') (hd : dupP x r c) : dup1 x f = some (f r c) := by
  refine firstS_at (j := r) (by omega) (by omega) (fun r' _ hr' => firstS_none.2 fun c' _ hc' => by rw [if_neg (h r' c' (by omega) (.inl hr'))]) ?_
  exact firstS_at (j := c) (by omega) (by omega) (fun c' _ hc' => by rw [if_neg (h r c' (by omega) (.inr ⟨rfl, hc'⟩))]) (by rw [if_pos hd])

theorem shr_and {X q : Nat} (hX : X < 256) (hq : q ≤ 7) : eqI (bitV .and .u8 (shrV .u8 X q) 1) 0 = !X.testBit q := by
  have h1 : shrV .u8 (X : Int) (q : Int) = ((X / 2 ^ q : Nat) : Int) := by
    unfold shrV
    have : min ((q : Int).toNat) (IntKind.u8.bits) = q := by
      show min q 8 = q
      omega
    rw [this]
    show Int.fdiv (X : Int) (((2 ^ q : Nat)) : Int) = _
    rw [Int.fdiv_eq_ediv_of_nonneg _ (Int.natCast_nonneg _)]
    norm_cast
  have h2 : X / 2 ^ q < 256 := Nat.lt_of_le_of_lt (Nat.div_le_self _ _) hX
  rw [h1, show (1 : Int) = ((1 : Nat) : Int) from rfl, bit_and h2 (by omega), eqI_eq]
  have h3 : X.testBit q = (X / 2 ^ q &&& 1 != 0) := by
    unfold Nat.testBit
    rw [Nat.shiftRight_eq_div_pow, Nat.and_comm]
  rw [h3]
  cases h : X / 2 ^ q &&& 1 with
  | zero => simp
  | succ n => simp; omega

/-- what is met so far: the places ahead of (r, k) -/
structure MetInv (x : List (List Int)) (r k : Nat) (met : Nat → Nat → Nat → Nat) : Prop where
  row : ∀ a q, a < 7 → ((met 0 2 a).testBit q = true ↔ ∃ c, c < x.length ∧ (a < r ∨ (a = r ∧ c < k)) ∧ a < x.length ∧ at2 x a c = q)
  col : ∀ a q, a < 7 → ((met 1 2 a).testBit q = true ↔ ∃ i, i < x.length ∧ (i < r ∨ (i = r ∧ a < k)) ∧ a < x.length ∧ at2 x i a = q)

theorem MetInv.skip {x : List (List Int)} {r k : Nat} {met : Nat → Nat → Nat → Nat} (h : MetInv x r k met) (hv : at2 x r k < 0) : MetInv x r (k + 1) met := by
  refine ⟨fun a q ha => (h.row a q ha).trans ⟨?_, ?_⟩, fun a q ha => (h.col a q ha).trans ⟨?_, ?_⟩⟩
  · rintro ⟨c, h1, h2, h3, h4⟩
    exact ⟨c, h1, by omega, h3, h4⟩
  · rintro ⟨c, h1, h2, h3, h4⟩
    refine ⟨c, h1, ?_, h3, h4⟩
    by_cases e : a = r ∧ c = k
    · obtain ⟨rfl, rfl⟩ := e; omega
    · omega
  · rintro ⟨i, h1, h2, h3, h4⟩
    exact ⟨i, h1, by omega, h3, h4⟩
  · rintro ⟨i, h1, h2, h3, h4⟩
    refine ⟨i, h1, ?_, h3, h4⟩
    by_cases e : i = r ∧ a = k
    · obtain ⟨rfl, rfl⟩ := e; omega
    · omega
theorem MetInv.sow {x : List (List Int)} {r k : Nat} {met : Nat → Nat → Nat → Nat} (h : MetInv x r k met) (hr : r < x.length) (hk : k < x.length) {v : Nat} (hv : at2 x r k = v) :
    MetInv x r (k + 1) (fun i j a => if a = sw r k v i then met i j a ||| 2 ^ sw r k v j else met i j a) := by
  refine ⟨fun a q ha => ?_, fun a q ha => ?_⟩
  · show (if a = r then met 0 2 a ||| 2 ^ v else met 0 2 a).testBit q = true ↔ _
    by_cases e : a = r
    · subst e
      rw [if_pos rfl, Nat.testBit_or, Nat.testBit_two_pow, Bool.or_eq_true, h.row a q ha, decide_eq_true_eq]
      constructor
      · rintro (⟨c, h1, h2, h3, h4⟩ | rfl)
        · exact ⟨c, h1, by omega, h3, h4⟩
        · exact ⟨k, hk, by omega, hr, hv⟩
      · rintro ⟨c, h1, h2, h3, h4⟩
        by_cases e2 : c = k
        · subst e2; right; omega
        · exact .inl ⟨c, h1, by omega, h3, h4⟩
    · rw [if_neg e, h.row a q ha]
      constructor
      · rintro ⟨c, h1, h2, h3, h4⟩
        exact ⟨c, h1, by omega, h3, h4⟩
      · rintro ⟨c, h1, h2, h3, h4⟩
        exact ⟨c, h1, by omega, h3, h4⟩
  · show (if a = k then met 1 2 a ||| 2 ^ v else met 1 2 a).testBit q = true ↔ _
    by_cases e : a = k
    · subst e
      rw [if_pos rfl, Nat.testBit_or, Nat.testBit_two_pow, Bool.or_eq_true, h.col a q ha, decide_eq_true_eq]
      constructor
      · rintro (⟨i, h1, h2, h3, h4⟩ | rfl)
        · exact ⟨i, h1, by omega, h3, h4⟩
        · exact ⟨r, hr, by omega, hk, hv⟩
      · rintro ⟨i, h1, h2, h3, h4⟩
        by_cases e2 : i = r
        · subst e2; right; omega
        · exact .inl ⟨i, h1, by omega, h3, h4⟩
    · rw [if_neg e, h.col a q ha]
      constructor
      · rintro ⟨i, h1, h2, h3, h4⟩
        exact ⟨i, h1, by omega, h3, h4⟩
      · rintro ⟨i, h1, h2, h3, h4⟩
        exact ⟨i, h1, by omega, h3, h4⟩
theorem MetInv.next {x : List (List Int)} {r : Nat} {met : Nat → Nat → Nat → Nat} (h : MetInv x r x.length met) : MetInv x (r + 1) 0 met := by
  refine ⟨fun a q ha => (h.row a q ha).trans ⟨?_, ?_⟩, fun a q ha => (h.col a q ha).trans ⟨?_, ?_⟩⟩ <;>
  · rintro ⟨c, h1, h2, h3, h4⟩
    exact ⟨c, h1, by omega, h3, h4⟩
theorem MetInv.dup {x : List (List Int)} {r k n : Nat} {met : Nat → Nat → Nat → Nat} (h : MetInv x r k met) (hr : r < x.length) (hk : k < x.length) (h7 : x.length ≤ 7) {v : Nat} (hv : at2 x r k = v) (hvn : v < n) :
    (optsV n (met 0 2 r ||| met 1 2 k)).testBit v = false ↔ dupP x r k := by
  rw [optsV_bit, Nat.testBit_or]
  have h1 := h.row r v (by omega)
  have h2 := h.col k v (by omega)
  simp only [hvn, decide_true, Bool.true_and, Bool.not_eq_false', Bool.or_eq_true, h1, h2]
  unfold dupP
  rw [hv]
  constructor
  · rintro (⟨c, a1, a2, a3, a4⟩ | ⟨i, a1, a2, a3, a4⟩)
    · have hck : c < k := by omega
      exact ⟨Int.natCast_nonneg _, .inl ⟨c, hck, a4⟩⟩
    · have hir : i < r := by omega
      exact ⟨Int.natCast_nonneg _, .inr ⟨i, hir, a4⟩⟩
  · rintro ⟨-, ⟨c, a1, a2⟩ | ⟨i, a1, a2⟩⟩
    · exact .inl ⟨c, by omega, .inr ⟨trivial, a1⟩, hr, a2⟩
    · exact .inr ⟨i, by omega, .inl a1, hk, a2⟩

/-- the state of the walk -/
def St7 (h : Heap) (x : List (List Int)) (r k : Nat) (m : Mm) : Prop := ∃ blk crop met, m = ⟨h ++ [some blk], h.length, h.length⟩ ∧ blk.n = 113 ∧ Gr blk.c x.length crop met ∧ MetInv x r k met ∧ ∀ r' c', c' < x.length → (r' < r ∨ (r' = r ∧ c' < k)) → ¬ dupP x r' c'

theorem check_inner {ro : List ABlk} {h : Heap} {a u : AVal} {x : List (List Int)} (hs : shapedP x) {r : Nat} (hr : r < x.length) (hu : IsRow ro h u (x.getD r [])) {m : Mm} (hm : St7 h x r 0 m) :
    ∃ o, loopX (fun s => g19_b1 (meansX F1 ro) ro (.p (some ⟨false, h.length, 0⟩)) r a x.length u x.length s.1 s.2) (0, m) = some o ∧
      ((∃ m', o = .inl m' ∧ St7 h x (r + 1) 0 m') ∨ (∃ (c : Nat) (blk : ABlk), o = .inr ((r : Int), (c : Int), 0, ⟨h ++ [some blk], h.length, h.length⟩) ∧ c < x.length ∧ dupP x r c ∧ ∀ r' c', c' < x.length → (r' < r ∨ (r' = r ∧ c' < c)) → ¬ dupP x r' c')) := by
  have h7 := hs.2.1
  have wri : ∀ k : Nat, k < 7 → wr .i64 ((k : Int) + 1) = ((k + 1 : Nat) : Int) := fun k hk => by rw [wr_id' (by omega) (by omega)]; omega
  refine loopX_rule (b := fun s => g19_b1 (meansX F1 ro) ro (.p (some ⟨false, h.length, 0⟩)) r a x.length u x.length s.1 s.2)
    (fun s => ∃ k : Nat, s.1 = (k : Int) ∧ k ≤ x.length ∧ St7 h x r k s.2) _ (fun s => x.length - s.1.toNat) ?_ (0, m) ⟨0, rfl, by omega, hm⟩
  rintro ⟨y, m⟩ ⟨k, hy, hk, blk, crop, met, hm, hbn, hg, hM, hno⟩
  simp only at hy hm
  subst hy hm
  by_cases hlt : k < x.length
  · have e : decide ((k : Int) < (x.length : Int)) = true := by simp; omega
    obtain ⟨hrl, hrc⟩ := hs.2.2 r hr
    obtain ⟨v1, v2⟩ := hrc k hlt
    have hat : (x.getD r []).getD k 0 = at2 x r k := rfl
    rw [hat] at v1 v2
    obtain ⟨p, l1, l2, l3⟩ := at_row (m := ⟨h ++ [some blk], h.length, h.length⟩) rfl (hu.ext [some blk]) (by omega : k < (x.getD r []).length)
    rw [hat] at l2
    by_cases hv : at2 x r k = -1
    · left
      refine ⟨(((k + 1 : Nat) : Int), ⟨h ++ [some blk], h.length, h.length⟩), ?_, ⟨k + 1, rfl, by omega, blk, crop, met, rfl, hbn, hg, hM.skip (by omega), fun r' c' hc' hh => ?_⟩, by first | omega | (simp only; omega)⟩
      · have e2 : (at2 x r k == -1) = true := by simp [hv]
        simp only [g19_b1, forceB_eq, ltI_eq, e, cond_true, l1, l2, bindO_some, asI_i, eqI_eq, e2, forceI_eq, wri k (by omega)]
      · by_cases e2 : r' = r ∧ c' = k
        · obtain ⟨rfl, rfl⟩ := e2
          exact fun hd => by have := hd.1; omega
        · exact hno r' c' hc' (by omega)
    · obtain ⟨v, hvv⟩ : ∃ v : Nat, at2 x r k = (v : Int) := ⟨(at2 x r k).toNat, by omega⟩
      have hvn : v < x.length := by omega
      have e2 : (at2 x r k == -1) = false := by simp only [beq_eq_false_iff_ne, ne_eq]; exact hv
      have hG : IsGr (h ++ [some blk]) h.length x.length crop met := ⟨blk, lget_last _ _, hbn, hg⟩
      have ho := options_ok (ro := ro) hG h7 (i := 0) (a := r) (j := 1) (c := k) (by omega) (by omega) (by omega) (by omega) (by omega) (by omega)
      have hcall := callM_pure (l := h.length) (p := h.length) ho (by simp) (by simp)
      have hneg : (!ltI ((v : Nat) : Int) (.ofNat 0)) = true := by rw [ltI_eq]; simp
      have hfill : (fillA [(AVal.i IntKind.i64 0), (AVal.i IntKind.i64 0), (AVal.i IntKind.i64 0), (AVal.i IntKind.i64 0)] [((0, 1), (.i .i64 0)), ((1, 1), (.i .i64 (r : Int))), ((2, 1), (.i .i64 1)), ((3, 1), (.i .i64 (k : Int)))]).map AVal.agg =
          some (.agg [.i .i64 ((0 : Nat) : Int), .i .i64 (r : Int), .i .i64 ((1 : Nat) : Int), .i .i64 (k : Int)]) := rfl
      have hsh := shr_and (optsV_lt (n := x.length) (m := met 0 (3 - 0 - 1) r ||| met 1 (3 - 0 - 1) k) h7) (by omega : v ≤ 7)
      have hd := hM.dup hr hlt h7 hvv hvn
      cases hb : (optsV x.length (met 0 2 r ||| met 1 2 k)).testBit v with
      | false =>
        right
        refine ⟨.inr ((r : Int), (k : Int), 0, ⟨h ++ [some blk], h.length, h.length⟩), ?_, .inr ⟨k, blk, rfl, hlt, hd.1 hb, hno⟩⟩
        have hb' : (optsV x.length (met 0 (3 - 0 - 1) r ||| met 1 (3 - 0 - 1) k)).testBit v = false := hb
        rw [hb'] at hsh
        simp only [g19_b1, forceB_eq, ltI_eq, e, cond_true, l1, l2, bindO_some, asI_i, eqI_eq, e2, cond_false, hfill, meansX_call, hcall, bindP_some]
        rw [hvv]
        rw [← ltI_eq, hneg, chk_true]
        simp only [forceI_eq]
        rw [← eqI_eq, hsh]
        rfl
      | true =>
        left
        have hb' : (optsV x.length (met 0 (3 - 0 - 1) r ||| met 1 (3 - 0 - 1) k)).testBit v = true := hb
        rw [hb'] at hsh
        obtain ⟨blk', hsow, hn', hg'⟩ := sow_ok (ro := ro) hG (r := r) (c := k) (k := v) (by omega) (by omega) (by omega)
        have hset : (h ++ [some blk]).set h.length (some blk') = h ++ [some blk'] := by simp
        rw [hset] at hsow
        have hcall2 := callM_eq (m := ⟨h ++ [some blk], h.length, h.length⟩) hsow
        have hl1 : min h.length (h ++ [some blk]).length = h.length := by simp
        simp only [Nat.min_self, hl1] at hcall2
        refine ⟨(((k + 1 : Nat) : Int), ⟨h ++ [some blk'], h.length, h.length⟩), ?_, ⟨k + 1, rfl, by omega, blk', _, _, rfl, hn', hg', hM.sow hr hlt hvv, fun r' c' hc' hh => ?_⟩, by first | omega | (simp only; omega)⟩
        · have hfill2 : (fillA [(AVal.i IntKind.i64 0), (AVal.i IntKind.i64 0), (AVal.i IntKind.i64 0)] [((0, 1), (.i .i64 (r : Int))), ((1, 1), (.i .i64 (k : Int))), ((2, 1), (.i .i64 (v : Int)))]).map AVal.agg = some (.agg [.i .i64 (r : Int), .i .i64 (k : Int), .i .i64 (v : Int)]) := rfl
          simp only [g19_b1, forceB_eq, ltI_eq, e, cond_true, l1, l2, bindO_some, asI_i, eqI_eq, e2, cond_false, hfill, meansX_call, hcall, bindP_some]
          rw [hvv]
          rw [← ltI_eq, hneg, chk_true]
          simp only [forceI_eq]
          rw [← eqI_eq, hsh]
          simp only [Bool.not_true, cond_false, hfill2, bindO_some, hcall2, bindP_some, wri k (by omega)]
        · by_cases e3 : r' = r ∧ c' = k
          · obtain ⟨rfl, rfl⟩ := e3
            intro hdd
            have := hd.2 hdd
            rw [hb] at this; cases this
          · exact hno r' c' hc' (by omega)
  · right
    have : k = x.length := by omega
    subst this
    refine ⟨.inl ⟨h ++ [some blk], h.length, h.length⟩, ?_, .inl ⟨_, rfl, blk, crop, met, rfl, hbn, hg, hM.next, fun r' c' hc' hh => hno r' c' hc' (by omega)⟩⟩
    simp only [g19_b1, forceB_eq, ltI_eq]
    simp

theorem check_ok {ro : List ABlk} {h : Heap} {a : AVal} {x : List (List Int)} (ha : IsMat ro h a x) : ∃ lw, callX F1 ro 19 [a] h = some (checkV x, h, lw, h.length) ∧ lw ≤ h.length ∧ h.length ≤ lw := by
  have h7n : shapedP x → x.length ≤ 7 := fun hs => hs.2.1
  unfold checkV
  by_cases hs : shapedP x
  · rw [if_pos hs]
    have h7 := hs.2.1
    obtain ⟨blk, hnew, hbn, hg⟩ := newGround_ok (ro := ro) (h := h) h7
    have hcall1 := callM_pure (call := callX F1 ro) (l := h.length) (p := h.length) (shaped_ok ha) (Nat.le_refl _) (Nat.le_refl _)
    have hcall2 := callM_eq (call := callX F1 ro) (m := ⟨h, h.length, h.length⟩) hnew
    simp only [Nat.min_self] at hcall2
    have wri : ∀ k : Nat, k < 7 → wr .i64 ((k : Int) + 1) = ((k + 1 : Nat) : Int) := fun k hk => by rw [wr_id' (by omega) (by omega)]; omega
    have hst0 : St7 h x 0 0 ⟨h ++ [some blk], h.length, h.length⟩ := ⟨blk, _, _, rfl, hbn, hg, ⟨fun a q _ => by simp, fun a q _ => by simp⟩, fun r' c' _ hh => by omega⟩
    refine loopX_elim (b := fun s => g19_b0 (meansX F1 ro) ro (.p (some ⟨false, h.length, 0⟩)) a x.length s.1 s.2)
      (fun s => ∃ r : Nat, s.1 = (r : Int) ∧ r ≤ x.length ∧ St7 h x r 0 s.2)
      (fun o => (∃ blk, o = .inl ⟨h ++ [some blk], h.length, h.length⟩ ∧ ∀ r c, r < x.length → c < x.length → ¬ dupP x r c) ∨ (∃ (r c : Nat) (blk : ABlk), o = .inr ((r : Int), (c : Int), 0, ⟨h ++ [some blk], h.length, h.length⟩) ∧ r < x.length ∧ c < x.length ∧ dupP x r c ∧ ∀ r' c', c' < x.length → (r' < r ∨ (r' = r ∧ c' < c)) → ¬ dupP x r' c'))
      (fun s => x.length - s.1.toNat) (0, ⟨h ++ [some blk], h.length, h.length⟩) ⟨0, rfl, by omega, hst0⟩ ?_ ?_
    · rintro ⟨y, m⟩ ⟨r, hy, hr, hst⟩
      simp only at hy hst
      subst hy
      by_cases hlt : r < x.length
      · have e : decide ((r : Int) < (x.length : Int)) = true := by simp; omega
        obtain ⟨blk, crop, met, hm, hbn, hg, hM, hno⟩ := hst
        subst hm
        obtain ⟨p, u, k1, k2, k3, k4⟩ := at_mat (m := ⟨h ++ [some blk], h.length, h.length⟩) rfl (ha.ext [some blk]) hlt
        obtain ⟨p', u', k1', k2', k3', k4'⟩ := at_mat (m := ⟨h, h.length, h.length⟩) rfl ha hlt
        have huu : IsRow ro h u (x.getD r []) := by
          rcases ha with ⟨rfl, rfl⟩ | ⟨q, cap, bk, rfl, hb, hn, hc⟩
          · simp at hlt
          · have h1 := ixS_eq (q := q) (cap := cap) hlt
            rw [h1] at k1
            cases k1
            have h2 := rd_one (h := h ++ [some blk]) (i := r) (rdB_ext _ hb) (by omega)
            simp only [ldM] at k2
            rw [h2] at k2
            cases k2
            exact hc r hlt
        obtain ⟨o, ho, hcase⟩ := check_inner (a := a) hs hlt huu (⟨blk, crop, met, rfl, hbn, hg, hM, hno⟩ : St7 h x r 0 _)
        have hl := (hs.2.2 r hlt).1
        rcases hcase with ⟨m', rfl, hst'⟩ | ⟨c, blk', rfl, hc, hd, hno'⟩
        · left
          refine ⟨(((r + 1 : Nat) : Int), m'), ?_, ⟨r + 1, rfl, by omega, hst'⟩, by first | omega | (simp only; omega)⟩
          simp only [g19_b0, forceB_eq, ltI_eq, e, cond_true, k1, k2, bindO_some, len_row k4, hl, asI_i, meansX_loop, ho, forceI_eq, wri r (by omega)]
        · right
          refine ⟨.inr ((r : Int), (c : Int), 0, ⟨h ++ [some blk'], h.length, h.length⟩), ?_, .inr ⟨r, c, blk', rfl, hlt, hc, hd, hno'⟩⟩
          simp only [g19_b0, forceB_eq, ltI_eq, e, cond_true, k1, k2, bindO_some, len_row k4, hl, asI_i, meansX_loop, ho]
      · right
        have : r = x.length := by omega
        subst this
        obtain ⟨blk, crop, met, hm, hbn, hg, hM, hno⟩ := hst
        subst hm
        refine ⟨.inl ⟨h ++ [some blk], h.length, h.length⟩, ?_, .inl ⟨blk, rfl, fun r c hr hc => hno r c hc (.inl hr)⟩⟩
        simp only [g19_b0, forceB_eq, ltI_eq]
        simp
    · rintro o hl hq
      refine ⟨h.length, g19_ok (meansX_ok F1 ro) rfl ?_, Nat.le_refl _, Nat.le_refl _⟩
      unfold g19
      simp only [meansX_call, hcall1, bindP_some, asB_b, hs, decide_true, forceB_eq, Bool.not_true, cond_false, len_mat ha, bindO_some, asI_i, hcall2, meansX_loop, hl]
      rcases hq with ⟨blk', rfl, hno⟩ | ⟨r, c, blk', rfl, hr, hc, hd, hno⟩
      · rw [dup1_none hno]
        simp only [tupA]
        exact fin_drop rfl
      · rw [dup1_some hr hc hno hd]
        simp only [tupA]
        exact fin_drop rfl
  · rw [if_neg hs]
    refine ⟨h.length, g19_ok (meansX_ok F1 ro) rfl ?_, Nat.le_refl _, Nat.le_refl _⟩
    unfold g19
    simp only [meansX_call, callM_pure (shaped_ok ha) (Nat.le_refl _) (Nat.le_refl _), bindP_some, asB_b, hs, decide_false, forceB_eq, Bool.not_false, cond_true, tupA]
    exact fin_pure rfl
end Go.Proofs.Ytllmlonngnhbfaa.Bed

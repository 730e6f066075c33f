/- Contracts of the functions: what each of them answers. -/
import Derived.Test.YtddnpchfjdgigaaDoorVmK0
/- The law TurnTurned. -/
open Go.Vm
set_option linter.unusedVariables false
namespace Go.Proofs.YtddnpchfjdgigaaDoor.T
open Go

def backL (l : List Sp) : List Sp := (List.range l.length).map fun i => (l.getD i Sp.z).turn
theorem backL_len (l : List Sp) : (backL l).length = l.length := by simp [backL]
theorem backL_get {l : List Sp} {i : Nat} (hi : i < l.length) : (backL l).getD i Sp.z = (l.getD i Sp.z).turn := by simp [backL, List.getD, hi]
def negL (xs : List Int) : List Int := (List.range xs.length).map fun i => -(xs.getD i 0)
theorem negL_len (xs : List Int) : (negL xs).length = xs.length := by simp [negL]
theorem negL_get {xs : List Int} {i : Nat} (hi : i < xs.length) : (negL xs).getD i 0 = -(xs.getD i 0) := by simp [negL, List.getD, hi]
theorem step_back (l : List Sp) (x : Int) : stepP (backL l) (-x) = stepP l x := by
  unfold stepP
  rw [backL_len]
  by_cases h1 : 1 ≤ x ∧ x ≤ l.length
  · rw [if_pos h1, if_neg (by omega), if_pos (by omega), Int.neg_neg, backL_get (by omega), turn_turn]
  · by_cases h2 : x ≤ -1 ∧ -(l.length : Int) ≤ x
    · rw [if_neg h1, if_pos h2, if_pos (by omega), backL_get (by omega)]
    · rw [if_neg h1, if_neg h2, if_neg (by omega), if_neg (by omega)]
theorem ring_back (l : List Sp) (xs : List Int) (ss : List Sp) : RingC (backL l) (negL xs) ss ↔ RingC l xs ss := by
  have hl := negL_len xs
  have hst : ∀ i, i < xs.length → stepP (backL l) ((negL xs).getD i 0) = stepP l (xs.getD i 0) := fun i hi => by rw [negL_get hi, step_back]
  constructor
  · intro ⟨⟨p1, p2, p3, p4⟩, e, t, c⟩
    rw [hl] at p1 p2 p3 p4 e t c
    exact ⟨⟨p1, Nat.le_refl _, fun i hi => by rw [← hst i hi]; exact p3 i hi, p4⟩, e, t, c⟩
  · intro ⟨⟨p1, p2, p3, p4⟩, e, t, c⟩
    refine ⟨⟨by rw [hl]; exact p1, Nat.le_refl _, fun i hi => ?_, by rw [hl]; exact p4⟩, by rw [hl]; exact e, by rw [hl]; exact t, by rw [hl]; exact c⟩
    rw [hl] at hi
    rw [hst i hi]; exact p3 i hi
theorem kept_back {t n : Int} {l : List Sp} (ok : Ok t n l) (z : List Int) : KeptP t (backL l) z ↔ KeptP t l z := by
  obtain ⟨r1, r2, r3, r4⟩ := ok.r
  have key : ∀ i, i < l.length → (keeps t ((backL l).getD i Sp.z) z ↔ keeps t (l.getD i Sp.z) z) := fun i hi => by
    have := ok.sp i hi
    unfold spOk at this
    rw [backL_get hi, keeps_turn r1 (by omega)]
  unfold KeptP
  rw [backL_len]
  exact ⟨fun g i hi => (key i hi).1 (g i hi), fun g i hi => (key i hi).2 (g i hi)⟩
theorem plL_back {t n : Int} {l : List Sp} (ok : Ok t n l) (okb : Ok t n (backL l)) : plL t n (backL l) = plL t n l := by
  rw [plL_eq ok, plL_eq okb]
  refine List.filter_congr fun z _ => decide_eq_decide.2 ?_
  unfold PlanP
  rw [kept_back ok]

theorem loop13a {ro : List ABlk} {t n : Int} {v w : AVal} {l : List Sp} (a : IsSpans ro [] v l) (ok : Ok t n l) :
    ∃ u hp', loopX (fun s : AVal × Int × Mm => g13_b2 (meansX F1 ro) ro t n v w s.1 s.2.1 s.2.2) (.nsl, 0, ⟨[], 0, 0⟩) = some (u, ⟨hp', 0, 0⟩) ∧ IsSpans ro hp' u (backL l) := by
  have hlen := ok.len
  have hloop := loop_all3 (b := fun s : AVal × Int × Mm => g13_b2 (meansX F1 ro) ro t n v w s.1 s.2.1 s.2.2) l.length (fun i u m => m.lw = 0 ∧ m.lp = 0 ∧ GV m.h 0 31 4 u i (((backL l).take i).flatMap Sp.vs)) ?_ ?_ l.length 0 .nsl ⟨[], 0, 0⟩ (by omega) ⟨rfl, rfl, GV.nil _ _ _ _⟩
  · obtain ⟨u, ⟨hq, lw, lp⟩, h1, g1, g2, g3⟩ := hloop
    simp only at g1 g2 g3
    subst g1 g2
    rw [List.take_of_length_le (by rw [backL_len]; omega)] at g3
    exact ⟨u, hq, h1, g3.spans (backL_len l)⟩
  · rintro i u ⟨hq, lw, lp⟩ hi ⟨g1, g2, g3⟩
    simp only at g1 g2 g3
    subst g1 g2
    have aq := a.by (keep0 hq)
    obtain ⟨⟨qr, qb, qo⟩, q1, q2, q3, q4⟩ := at_span aq hi
    have b0 := (q4 0 (by omega)).2 hq.length hq.length
    have b1 := (q4 1 (by omega)).2 hq.length hq.length
    have b2 := (q4 2 (by omega)).2 hq.length hq.length
    have b3 := (q4 3 (by omega)).2 hq.length hq.length
    simp only [List.getD_cons_zero, List.getD_cons_succ] at b0 b1 b2 b3
    have hs := ok.sp i hi
    have hsn : (backL l).take (i + 1) = (backL l).take i ++ [(l.getD i Sp.z).turn] := by
      have := take_next (ss := backL l) (i := i) (by rw [backL_len]; exact hi)
      rw [backL_get hi] at this
      exact this
    generalize l.getD i Sp.z = s at *
    unfold spOk at hs
    obtain ⟨r1, r2, r3, r4⟩ := ok.r
    have hbase : Mm.base ⟨hq, 0, 0⟩ = (⟨hq, hq.length, hq.length⟩ : Mm) := rfl
    have hf : (fillA [(AVal.i IntKind.i64 0), (AVal.i IntKind.i64 0), (AVal.i IntKind.i64 0), (AVal.i IntKind.i64 0)] [((0, 1), (.i .i64 s.t)), ((1, 1), (.i .i64 s.f)), ((2, 1), (.i .i64 (0 - s.hi))), ((3, 1), (.i .i64 (0 - s.lo)))]).map AVal.agg = some s.turn.v := by
      have e1 : (0 : Int) - s.hi = -s.hi := by omega
      have e2 : (0 : Int) - s.lo = -s.lo := by omega
      rw [e1, e2]; rfl
    obtain ⟨v2', hq2, v3, hq3, l3, q3', b3', s1, s2, s3, -⟩ := g3.pushS (ro := ro) (L0 := hq.length) (P0 := hq.length) (bytes := 32) (z := z4) (w := s.turn.v) (ws := s.turn.vs) (Nat.zero_le _) (by omega) (by omega) (by omega) rfl rfl rfl rfl rfl
    have hjoin : Mm.join ⟨hq, 0, 0⟩ ⟨hq3, l3, q3'⟩ = (⟨hq3, 0, 0⟩ : Mm) := by simp [Mm.join]
    refine ⟨v3, ⟨hq3, 0, 0⟩, ?_, rfl, rfl, ?_⟩
    · simp only [g13_b2, len_spans aq, bindO_some, asI_i, forceB_eq, ltI_eq, lt_yes hi, cond_true, hbase, q1, p_faddr, b0, b1, b2, b3, forceI_eq, wr_id' (x := 0 - s.hi) (by omega) (by omega), wr_id' (x := 0 - s.lo) (by omega) (by omega), hf, s1, s2, bindP_some, hjoin]
      rw [wr_next (by omega)]
    · rw [hsn, List.flatMap_append]
      simpa using s3
  · rintro u ⟨hq, lw, lp⟩ _
    simp only [g13_b2, len_spans (a.by (keep0 hq)), bindO_some, asI_i, forceB_eq, ltI_eq, lt_no, cond_false]

theorem loop13b {ro : List ABlk} {hp : Heap} {t n : Int} {v w v9 : AVal} {xs : List Int} (r : IsRow ro [] w xs) (hx40 : xs.length ≤ 40) :
    ∃ o, loopX (fun s : AVal × Int × Mm => g13_b3 (meansX F1 ro) ro t n v w v9 s.1 s.2.1 s.2.2) (.nsl, 0, ⟨hp, 0, 0⟩) = some o ∧ ((∃ u hp', o = .inl (u, ⟨hp', 0, 0⟩) ∧ Keep hp hp' ∧ IsRow ro hp' u (negL xs) ∧ ∀ i, i < xs.length → -20 ≤ xs.getD i 0 ∧ xs.getD i 0 ≤ 20) ∨ ∃ m, o = .inr (true, m)) := by
  have hlp := loopX_rule (b := fun s : AVal × Int × Mm => g13_b3 (meansX F1 ro) ro t n v w v9 s.1 s.2.1 s.2.2)
    (fun s => ∃ i : Nat, i ≤ xs.length ∧ s.2.1 = (i : Int) ∧ s.2.2.lw = 0 ∧ s.2.2.lp = 0 ∧ Keep hp s.2.2.h ∧ GV s.2.2.h hp.length 3 1 s.1 i (((negL xs).take i).map (AVal.i .i64)) ∧ ∀ j, j < i → -20 ≤ xs.getD j 0 ∧ xs.getD j 0 ≤ 20)
    (fun o => (∃ u hp', o = .inl (u, ⟨hp', 0, 0⟩) ∧ Keep hp hp' ∧ IsRow ro hp' u (negL xs) ∧ ∀ i, i < xs.length → -20 ≤ xs.getD i 0 ∧ xs.getD i 0 ≤ 20) ∨ ∃ m, o = .inr (true, m)) (fun s => xs.length - s.2.1.toNat) ?_ (.nsl, 0, ⟨hp, 0, 0⟩) ⟨0, Nat.zero_le _, rfl, rfl, rfl, Keep.refl hp, GV.nil _ _ _ _, fun j hj => by omega⟩
  · exact hlp
  · rintro ⟨u, x, hq, lw, lp⟩ ⟨i, hi, e1, e2, e3, e4, e5, e6⟩
    simp only at e1 e2 e3 e4 e5 ⊢
    subst e1 e2 e3
    have hlr := len_row (row_by r (keep0 hq))
    by_cases hlt : i < xs.length
    · obtain ⟨p, p1, p2⟩ := at_rowK r hlt
      have l1 := (p2 (hp := hq) (l := 0) (q := 0) (keep0 hq)).1
      have hsn : (negL xs).take (i + 1) = (negL xs).take i ++ [-(xs.getD i 0)] := take_map_snoc hlt
      generalize hxe : xs.getD i 0 = x at *
      by_cases hb : -20 ≤ x ∧ x ≤ 20
      · obtain ⟨v2, hp3, v3, hp4, u1, u2, u3, u4, u5⟩ := e5.push (ro := ro) (L0 := 0) (bytes := 8) (z := [(AVal.i IntKind.i64 0)]) (w := .i .i64 (0 - x)) (ws := [.i .i64 (0 - x)]) (Nat.zero_le _) e4.1 (by omega) (by omega) (by omega) rfl rfl rfl rfl rfl
        refine .inl ⟨(v3, ((i + 1 : Nat) : Int), ⟨hp4, 0, 0⟩), ?_, ⟨i + 1, by omega, rfl, rfl, rfl, ⟨Nat.le_trans e4.1 u4, fun j hj => by show hp4[j]? = _; rw [u5 j hj]; exact e4.2 j hj⟩, ?_, fun j hj => ?_⟩, by simp only; omega⟩
        · have c1 : decide (x < -20) = false := decide_eq_false (by omega)
          have c2 : decide (20 < x) = false := decide_eq_false (by omega)
          simp only [g13_b3, hlr, bindO_some, asI_i, forceB_eq, ltI_eq, lt_yes hlt, cond_true, p1, l1, c1, c2, cond_false, forceI_eq, wr_id' (x := 0 - x) (by omega) (by omega), u1, u2, bindP_some]
          rw [wr_next (by omega)]
        · rw [hsn, List.map_append]
          have : (0 : Int) - x = -x := by omega
          rw [this] at u3
          exact u3
        · rcases Nat.lt_or_ge j i with h | h
          · exact e6 j h
          · obtain rfl : j = i := by omega
            rw [hxe]; exact hb
      · refine .inr ⟨.inr (true, ⟨hq, 0, 0⟩), ?_, .inr ⟨_, rfl⟩⟩
        have hal := lawM (alive_pure (ro := ro) (h := hq))
        by_cases c : x < -20
        · simp only [g13_b3, hlr, bindO_some, asI_i, forceB_eq, ltI_eq, lt_yes hlt, cond_true, p1, l1, c, decide_true, meansX_call, hal, bindP_some, asB_b]
        · have c1 : decide (x < -20) = false := decide_eq_false c
          have c2 : decide (20 < x) = true := decide_eq_true (by omega)
          simp only [g13_b3, hlr, bindO_some, asI_i, forceB_eq, ltI_eq, lt_yes hlt, cond_true, p1, l1, c1, c2, cond_false, meansX_call, hal, bindP_some, asB_b]
    · obtain rfl : i = xs.length := by omega
      refine .inr ⟨.inl (u, ⟨hq, 0, 0⟩), ?_, .inl ⟨u, hq, rfl, e4, ?_, e6⟩⟩
      · simp only [g13_b3, hlr, bindO_some, asI_i, forceB_eq, ltI_eq, lt_no, cond_false]
      · rw [List.take_of_length_le (by rw [negL_len]; omega)] at e5
        exact e5.row (negL_len xs)

theorem law13 {ro : List ABlk} {t n : Int} {v w : AVal} {l : List Sp} {xs : List Int} (a : IsSpans ro [] v l) (r : IsRow ro [] w xs) (hx : ∀ x ∈ xs, inI64 x) : ∃ h' lw lp, callX F1 ro 13 [.i .i64 t, .i .i64 n, v, w] [] = some (.b true, h', lw, lp) := by
  suffices h : ∃ q, g13 (meansX F1 ro) ro t n v w ⟨[], 0, 0⟩ = some q ∧ q.1 = .b true by
    obtain ⟨⟨u, h', lw, lp⟩, h1, rfl⟩ := h
    exact ⟨h', lw, lp, g13_ok (meansX_ok F1 ro) rfl h1⟩
  have hal : ∀ h : Heap, callM (callX F1 ro) ⟨h, 0, 0⟩ 16 [] = some (.b true, ⟨h, 0, 0⟩) := fun h => lawM alive_pure
  unfold g13
  simp only [meansX_call, lawM (few15 a r), bindP_some, asB_b, forceB_eq]
  by_cases hf : l.length ≤ 40 ∧ xs.length ≤ 40
  · obtain ⟨b, hm, hmb⟩ := mild21 (ro := ro) (h := []) (t := t) (n := n)
    simp only [hf, and_self, decide_true, Bool.not_true, cond_false, lawM hm, bindP_some, asB_b, bindO_some]
    cases b with
    | false =>
      simp only [Bool.not_false, cond_true, bindO_some, hal, bindP_some, asB_b]
      exact ⟨_, rfl, rfl⟩
    | true =>
      have hsp := lawM (spans20 (ro := ro) (t := t) (n := n) a)
      simp only [Bool.not_true, cond_false, hsp, bindP_some, asI_i, eqI_eq, bindO_some]
      by_cases he : rdE t n l = 0
      · have ok := rdE_ok.1 he
        have hcount := hmb rfl ok.r
        obtain ⟨u, hp, l1, sp⟩ := loop13a (w := w) a ok
        have hsp2 := lawM (spans20 (ro := ro) (t := t) (n := n) sp)
        rw [he]
        simp only [beq_self_eq_true, Bool.not_true, cond_false, meansX_loop, l1, bindO_some, hsp2, bindP_some, asI_i]
        by_cases he2 : rdE t n (backL l) = 0
        · have okb := rdE_ok.1 he2
          rw [he2]
          simp only [beq_self_eq_true, Bool.not_true, cond_false]
          obtain ⟨o, l2, ho⟩ := loop13b (ro := ro) (hp := hp) (t := t) (n := n) (v := v) (v9 := u) r hf.2
          rw [l2, bindO_some]
          rcases ho with ⟨u2, hp2, rfl, k2, i2, hrng⟩ | ⟨m, rfl⟩
          · have spb := sp.by k2
            have ap := a.by (keep0 hp2)
            have rp := row_by r (keep0 hp2)
            have hp1 := plans22 (ro := ro) (t := t) (n := n) ap
            have hp3 := plans22 (ro := ro) (t := t) (n := n) spb
            have hle := plL_len ok
            have e1 : plE t n l = 0 := by simp only [plE, he, show (plL t n l).length ≤ 1000000 by omega, if_true]
            have e2 : plE t n (backL l) = 0 := by simp only [plE, he2, plL_back ok okb, show (plL t n l).length ≤ 1000000 by omega, if_true]
            have e3 : plC t n (backL l) = plC t n l := by simp only [plC, he, he2, plL_back ok okb]
            rw [e1] at hp1
            rw [e2, e3] at hp3
            obtain ⟨b1, h1, hb1⟩ := refuses30 (t := t) (n := n) ap rp hx hf.2
            have hxn : ∀ x ∈ negL xs, inI64 x := fun x hxm => by
              obtain ⟨i, hi, rfl⟩ := List.mem_map.1 hxm
              have := hrng i (List.mem_range.1 hi)
              constructor <;> omega
            obtain ⟨b2, h2, hb2⟩ := refuses30 (t := t) (n := n) spb i2 hxn (by rw [negL_len]; exact hf.2)
            have hbb : b1 = b2 := by
              rw [Bool.eq_iff_iff, hb1, hb2]
              unfold RefC
              constructor
              · rintro ⟨-, ss, rc, h⟩; exact ⟨okb, ss, (ring_back l xs ss).2 rc, h⟩
              · rintro ⟨-, ss, rc, h⟩; exact ⟨ok, ss, (ring_back l xs ss).1 rc, h⟩
            subst hbb
            rw [he] at h1
            rw [he2] at h2
            simp only [lawM hp1, lawM hp3, lawM h1, lawM h2, bindP_some, ext0, ext1, bindO_some, asI_i, asB_b, beq_self_eq_true, cond_true, hal]
            exact ⟨_, rfl, rfl⟩
          · exact ⟨_, rfl, rfl⟩
        · have c1 : (!(rdE t n (backL l) == 0)) = true := by simpa using he2
          simp only [c1, cond_true, hal, bindP_some, asB_b]
          exact ⟨_, rfl, rfl⟩
      · have c1 : (!(rdE t n l == 0)) = true := by simpa using he
        simp only [c1, cond_true, hal, bindP_some, asB_b]
        exact ⟨_, rfl, rfl⟩
  · have e : decide (l.length ≤ 40 ∧ xs.length ≤ 40) = false := decide_eq_false hf
    rw [e]
    simp only [Bool.not_false, cond_true, bindO_some, hal, bindP_some, asB_b]
    exact ⟨_, rfl, rfl⟩
end Go.Proofs.YtddnpchfjdgigaaDoor.T

/- BedPairs: for every input the law returns true, and the arguments read behind the call as they read before. No conditions. -/
import Derived.Test.YtllmlonngnhbfaaVmKM1
open Go.Vm
set_option linter.unusedVariables false
namespace Go.Proofs.Ytllmlonngnhbfaa.Bed
open Go Go.RowKit Go.Deep Go.WideShapes Go.ChangeShapes Go.ChangeAt

def bef (r' c' r c : Nat) : Prop := r' < r ∨ (r' = r ∧ c' < c)
def usedC (x : List (List Int)) (k r c j : Nat) : Prop := ∃ r', bef r' j r c ∧ at2 x r' j = (k : Int)
def usedK (x y : List (List Int)) (k r c v : Nat) : Prop := ∃ r' c', c' < x.length ∧ bef r' c' r c ∧ at2 x r' c' = (k : Int) ∧ at2 y r' c' = (v : Int)
open Classical in
def PSt (x y : List (List Int)) (k b1 b2 r c : Nat) (m : Mm) : Prop := ∃ hp, m = ⟨hp, 0, 0⟩ ∧ Vec hp 4 b1 x.length (fun j => .b (decide (usedC x k r c j))) ∧ Vec hp 4 b2 x.length (fun v => .b (decide (usedK x y k r c v)))

theorem bef_row {r' c' r n : Nat} (hc : c' < n) : bef r' c' (r + 1) 0 ↔ bef r' c' r n := by unfold bef; omega
theorem bef_succ {r' c' r c : Nat} : bef r' c' r (c + 1) ↔ bef r' c' r c ∨ (r' = r ∧ c' = c) := by unfold bef; omega

open Classical in
theorem pairs_inner {ro : List ABlk} {a b : AVal} {x y : List (List Int)} (ha : ∀ h, IsMat ro h a x) (hb : ∀ h, IsMat ro h b y) (hx : fullP x) (hy : fullP y) (hl : x.length = y.length) (hm : mateP x y) {x53 : Int} {k b1 b2 r : Nat} {cap1 cap2 : Cap} (hne : b1 ≠ b2) (hr : r < x.length) {m : Mm} (hs : PSt x y k b1 b2 r 0 m) :
    ∃ m', loopX (fun s => g12_b10 (meansX F1 ro) ro a b x53 x.length k (.sl ⟨false, b1, 0⟩ x.length cap1) (.sl ⟨false, b2, 0⟩ x.length cap2) r s.1 s.2) (((0 : Nat) : Int), m) = some (.inl m') ∧ PSt x y k b1 b2 r x.length m' := by
  have h7 := hx.1.1.2.1
  have hloop := loop_upto (b := fun s => g12_b10 (meansX F1 ro) ro a b x53 x.length k (.sl ⟨false, b1, 0⟩ x.length cap1) (.sl ⟨false, b2, 0⟩ x.length cap2) r s.1 s.2) x.length (fun c m => PSt x y k b1 b2 r c m) (fun _ => False) ?_ ?_ x.length 0 m (by omega) hs
  · obtain ⟨o, h1, ⟨m', rfl, h2⟩ | ⟨r, -, h2⟩⟩ := hloop
    · exact ⟨m', h1, h2⟩
    · exact h2.elim
  · rintro c m hc ⟨hp, rfl, s1, s2⟩
    left
    obtain ⟨v, hv, hvn⟩ := full_at hx hr hc
    obtain ⟨q, hq, hqn⟩ := full_at hy (by omega : r < y.length) (by omega : c < y.length)
    have cellA : ∀ h, ∃ w u w', evP .e (.ixS 1 (.c a) (.c (.i .i64 (r : Int)))) = some w ∧ ldM ro ⟨h, 0, 0⟩ true 1 w = some u ∧ evP .e (.ixS 1 (.c u) (.c (.i .i64 (c : Int)))) = some w' ∧ ldM ro ⟨h, 0, 0⟩ true 1 w' = some (.i .i64 (v : Int)) := fun h => by
      obtain ⟨w, u, w', a1, a2, a3, a4, a5, a6⟩ := at_cell (ha h) hx.1.1 hr hc (l := 0) (p := 0)
      rw [hv] at a5
      exact ⟨w, u, w', a1, a2, a4, a5⟩
    have cellB : ∀ h, ∃ w u w', evP .e (.ixS 1 (.c b) (.c (.i .i64 (r : Int)))) = some w ∧ ldM ro ⟨h, 0, 0⟩ true 1 w = some u ∧ evP .e (.ixS 1 (.c u) (.c (.i .i64 (c : Int)))) = some w' ∧ ldM ro ⟨h, 0, 0⟩ true 1 w' = some (.i .i64 (q : Int)) := fun h => by
      obtain ⟨w, u, w', a1, a2, a3, a4, a5, a6⟩ := at_cell (hb h) hy.1.1 (by omega : r < y.length) (by omega : c < y.length) (l := 0) (p := 0)
      rw [hq] at a5
      exact ⟨w, u, w', a1, a2, a4, a5⟩
    obtain ⟨w1, u1, w2, a1, a2, a3, a4⟩ := cellA hp
    by_cases e : v = k
    · subst e
      have e2 : ((v : Int) == (v : Int)) = true := by simp
      have hnc : ¬ usedC x v r c c := by
        rintro ⟨r', h1, h2⟩
        unfold bef at h1
        have hr' : r' < x.length := by omega
        have := dup_col hx hr' hr hc (by rw [h2, hv])
        omega
      have hnk : ¬ usedK x y v r c q := by
        rintro ⟨r', c', h1, h2, h3, h4⟩
        exact hm r c hr hc ⟨r', c', h1, h2, by rw [h3, hv], by rw [h4, hq]⟩
      obtain ⟨w3, u3, w4, b3, b4, b5, b6⟩ := cellB hp
      have i1 := ixS_eq (q := ⟨false, b1, 0⟩) (cap := cap1) hc
      have i2 := ixS_eq (q := ⟨false, b2, 0⟩) (cap := cap2) (by omega : q < x.length)
      have l1 := s1.ld (ro := ro) hc (l := 0) (p := 0)
      have l2 := s2.ld (ro := ro) (by omega : q < x.length) (l := 0) (p := 0)
      simp only [hnc, hnk, decide_false] at l1 l2
      obtain ⟨y1, t1, t2⟩ := s1.set (ro := ro) (l := 0) (p := 0) hc (v := .b true) rfl rfl rfl
      rw [Nat.zero_min] at t1
      obtain ⟨hp2, hhp2⟩ : ∃ hp2, hp2 = hp.set b1 y1 := ⟨_, rfl⟩
      rw [← hhp2] at t1 t2
      have s2' : Vec hp2 4 b2 x.length (fun v' => .b (decide (usedK x y v r c v'))) := s2.keep (by rw [hhp2, List.getElem?_set_ne hne])
      obtain ⟨w5, u5, w6, d3, d4, d5, d6⟩ := cellB hp2
      obtain ⟨y2, t3, t4⟩ := s2'.set (ro := ro) (l := 0) (p := 0) (by omega : q < x.length) (v := .b true) rfl rfl rfl
      rw [Nat.zero_min] at t3
      obtain ⟨hp3, hhp3⟩ : ∃ hp3, hp3 = hp2.set b2 y2 := ⟨_, rfl⟩
      rw [← hhp3] at t3 t4
      rw [b3] at d3
      cases d3
      refine ⟨⟨hp3, 0, 0⟩, ?_, hp3, rfl, ?_, ?_⟩
      · simp only [g12_b10, forceB_eq, ltI_eq, lt_yes hc, cond_true, a1, a2, a3, a4, bindO_some, asI_i, eqI_eq, e2, Bool.not_true, cond_false, i1, l1, asB_b, b3, b4, b5, b6, i2, l2, t1, bindP_some, d4, d5, d6, t3, forceI_eq, wr_next (by omega : c ≤ 1000000)]
      · refine (t2.keep (by rw [hhp3, List.getElem?_set_ne (Ne.symm hne)])).congr fun j hj => ?_
        by_cases ej : j = c
        · rw [if_pos ej]
          exact congrArg AVal.b (decide_eq_true (by subst ej; exact ⟨r, bef_succ.2 (.inr ⟨rfl, rfl⟩), hv⟩)).symm
        · rw [if_neg ej]
          refine congrArg AVal.b (decide_eq_decide.2 ⟨?_, ?_⟩)
          · rintro ⟨r', h1, h2⟩; exact ⟨r', bef_succ.2 (.inl h1), h2⟩
          · rintro ⟨r', h1, h2⟩; exact ⟨r', (bef_succ.1 h1).resolve_right fun h => ej h.2, h2⟩
      · refine t4.congr fun v' hv' => ?_
        by_cases ej : v' = q
        · rw [if_pos ej]
          exact congrArg AVal.b (decide_eq_true (by subst ej; exact ⟨r, c, hc, bef_succ.2 (.inr ⟨rfl, rfl⟩), hv, hq⟩)).symm
        · rw [if_neg ej]
          refine congrArg AVal.b (decide_eq_decide.2 ⟨?_, ?_⟩)
          · rintro ⟨r', c', h0, h1, h2⟩; exact ⟨r', c', h0, bef_succ.2 (.inl h1), h2⟩
          · rintro ⟨r', c', h0, h1, h2, h3⟩
            refine ⟨r', c', h0, (bef_succ.1 h1).resolve_right fun h => ej ?_, h2, h3⟩
            rw [h.1, h.2, hq] at h3
            omega
    · have e2 : ((v : Int) == (k : Int)) = false := by simp; omega
      refine ⟨⟨hp, 0, 0⟩, ?_, hp, rfl, s1.congr fun j hj => ?_, s2.congr fun v' hv' => ?_⟩
      · simp only [g12_b10, forceB_eq, ltI_eq, lt_yes hc, cond_true, a1, a2, a3, a4, bindO_some, asI_i, eqI_eq, e2, Bool.not_false, forceI_eq, wr_next (by omega : c ≤ 1000000)]
      · refine congrArg AVal.b (decide_eq_decide.2 ⟨?_, ?_⟩)
        · rintro ⟨r', h1, h2⟩; exact ⟨r', bef_succ.2 (.inl h1), h2⟩
        · rintro ⟨r', h1, h2⟩
          refine ⟨r', (bef_succ.1 h1).resolve_right fun h => e ?_, h2⟩
          rw [h.1, h.2, hv] at h2
          omega
      · refine congrArg AVal.b (decide_eq_decide.2 ⟨?_, ?_⟩)
        · rintro ⟨r', c', h0, h1, h2⟩; exact ⟨r', c', h0, bef_succ.2 (.inl h1), h2⟩
        · rintro ⟨r', c', h0, h1, h2, h3⟩
          refine ⟨r', c', h0, (bef_succ.1 h1).resolve_right fun h => e ?_, h2, h3⟩
          rw [h.1, h.2, hv] at h2
          omega
  · rintro m -
    simp only [g12_b10, forceB_eq, ltI_eq, lt_no, cond_false]

open Classical in
theorem pairs_loop {ro : List ABlk} {a b : AVal} {x y : List (List Int)} (ha : ∀ h, IsMat ro h a x) (hb : ∀ h, IsMat ro h b y) (hx : fullP x) (hy : fullP y) (hl : x.length = y.length) (hm : mateP x y) {x53 : Int} (hp : Heap) :
    ∃ hp', loopX (fun s => g12_b8 (meansX F1 ro) ro a b x53 x.length s.1 s.2) (0, (⟨hp, 0, 0⟩ : Mm)) = some (.inl ⟨hp', 0, 0⟩) := by
  have h7 := hx.1.1.2.1
  have hloop := loop_upto (b := fun s => g12_b8 (meansX F1 ro) ro a b x53 x.length s.1 s.2) x.length (fun k m => ∃ hp, m = ⟨hp, 0, 0⟩) (fun _ => False) ?_ ?_ x.length 0 ⟨hp, 0, 0⟩ (by omega) ⟨hp, rfl⟩
  · obtain ⟨o, h1, ⟨m', rfl, hp', rfl⟩ | ⟨r, -, h2⟩⟩ := hloop
    · exact ⟨hp', h1⟩
    · exact h2.elim
  · rintro k m hk ⟨hp, rfl⟩
    left
    have k1 := mk_ok (ro := ro) (hp := hp) (l := 0) (p := 0) (e := 4) (es := 1) (bytes := 1) (v := .b false) (by omega : x.length ≤ 1000) (by omega)
    have k2 := mk_ok (ro := ro) (hp := hp ++ [some (newBlk 4 (.b false) x.length)]) (l := 0) (p := 0) (e := 4) (es := 1) (bytes := 1) (v := .b false) (by omega : x.length ≤ 1000) (by omega)
    have hl1 : (hp ++ [some (newBlk 4 (.b false) x.length)]).length = hp.length + 1 := by simp
    rw [hl1] at k2
    have n1 := Vec.new hp 4 x.length (.b false)
    have n2 := Vec.new (hp ++ [some (newBlk 4 (.b false) x.length)]) 4 x.length (.b false)
    rw [hl1] at n2
    have s0 : PSt x y k hp.length (hp.length + 1) 0 0 ⟨hp ++ [some (newBlk 4 (.b false) x.length)] ++ [some (newBlk 4 (.b false) x.length)], 0, 0⟩ := by
      refine ⟨_, rfl, (n1.keep (by rw [List.getElem?_append_left (by omega)])).congr fun j hj => ?_, n2.congr fun v hv => ?_⟩
      · exact congrArg AVal.b (decide_eq_false (by rintro ⟨r', h1, -⟩; unfold bef at h1; omega)).symm
      · exact congrArg AVal.b (decide_eq_false (by rintro ⟨r', c', -, h1, -⟩; unfold bef at h1; omega)).symm
    have hloop2 := loop_upto (b := fun s => g12_b9 (meansX F1 ro) ro a b x53 x.length k (.sl ⟨false, hp.length, 0⟩ x.length (.known x.length)) (.sl ⟨false, hp.length + 1, 0⟩ x.length (.known x.length)) s.1 s.2) x.length (fun r m => PSt x y k hp.length (hp.length + 1) r 0 m) (fun _ => False) ?_ ?_ x.length 0 _ (by omega) s0
    · obtain ⟨o, h1, ⟨m', rfl, hp', rfl, -⟩ | ⟨r, -, h2⟩⟩ := hloop2
      · have e0 : ((0 : Nat) : Int) = 0 := rfl
        rw [e0] at h1
        refine ⟨⟨hp', 0, 0⟩, ?_, hp', rfl⟩
        simp only [g12_b8, forceB_eq, ltI_eq, lt_yes hk, cond_true, k1, k2, bindP_some, meansX_loop, h1, bindO_some, forceI_eq, wr_next (by omega : k ≤ 1000000)]
      · exact h2.elim
    · rintro r m hr hs
      left
      obtain ⟨m', h1, hp', rfl, h2, h3⟩ := pairs_inner (ro := ro) ha hb hx hy hl hm (x53 := x53) (cap1 := .known x.length) (cap2 := .known x.length) (by omega : hp.length ≠ hp.length + 1) hr hs
      have e0 : ((0 : Nat) : Int) = 0 := rfl
      rw [e0] at h1
      refine ⟨⟨hp', 0, 0⟩, ?_, hp', rfl, h2.congr fun j hj => ?_, h3.congr fun v hv => ?_⟩
      · simp only [g12_b9, forceB_eq, ltI_eq, lt_yes hr, cond_true, meansX_loop, h1, bindO_some, forceI_eq, wr_next (by omega : r ≤ 1000000)]
      · refine congrArg AVal.b (decide_eq_decide.2 ⟨?_, ?_⟩)
        · rintro ⟨r', h1, h2⟩; exact ⟨r', (bef_row hj).2 h1, h2⟩
        · rintro ⟨r', h1, h2⟩; exact ⟨r', (bef_row hj).1 h1, h2⟩
      · refine congrArg AVal.b (decide_eq_decide.2 ⟨?_, ?_⟩)
        · rintro ⟨r', c', h0, h1, h2⟩; exact ⟨r', c', h0, (bef_row h0).2 h1, h2⟩
        · rintro ⟨r', c', h0, h1, h2⟩; exact ⟨r', c', h0, (bef_row h0).1 h1, h2⟩
    · rintro m -
      simp only [g12_b9, forceB_eq, ltI_eq, lt_no, cond_false]
  · rintro m -
    simp only [g12_b8, forceB_eq, ltI_eq, lt_no, cond_false]

theorem law12 {ro : List ABlk} {a b : AVal} {x y : List (List Int)} (ha : ∀ h, IsMat ro h a x) (hb : ∀ h, IsMat ro h b y) (hx : Fits x) (hy : Fits y) : ∃ h' lw lp, callX F1 ro 12 [a, b] [] = some (.b true, h', lw, lp) := by
  classical
  suffices h : ∃ r, g12 (meansX F1 ro) ro a b ⟨[], 0, 0⟩ = some r ∧ r.1 = .b true by
    obtain ⟨⟨w, h', lw, lp⟩, h1, rfl⟩ := h
    exact ⟨h', lw, lp, g12_ok (meansX_ok F1 ro) rfl h1⟩
  have c1 := callM_pure (call := callX F1 ro) (l := 0) (p := 0) (few_ok (ha []) hx) (Nat.zero_le _) (Nat.zero_le _)
  have c2 := callM_pure (call := callX F1 ro) (l := 0) (p := 0) (few_ok (hb []) hy) (Nat.zero_le _) (Nat.zero_le _)
  have halive := fun y => callM_pure (call := callX F1 ro) (h := y) (l := 0) (p := 0) alive_pure (Nat.zero_le _) (Nat.zero_le _)
  have c3 := callM_pure (call := callX F1 ro) (l := 0) (p := 0) (ma35 (ha []) (hb [])) (Nat.zero_le _) (Nat.zero_le _)
  have c4 := callM_pure (call := callX F1 ro) (l := 0) (p := 0) (ma35 (hb []) (ha [])) (Nat.zero_le _) (Nat.zero_le _)
  rw [← me_sym, ← mq_sym] at c4
  obtain ⟨v1, y1, l1, p1, d1, d2⟩ := ma37 (ha [])
  rw [List.nil_append] at d1 d2
  have c5 : callM (callX F1 ro) ⟨[], 0, 0⟩ 37 [a] = some (.tup [v1, .i .i64 (mme x)], ⟨y1, 0, 0⟩) := (callM_eq (call := callX F1 ro) (m := ⟨[], 0, 0⟩) d1).trans (by simp)
  have c6 := callM_pure (call := callX F1 ro) (l := 0) (p := 0) (ma35 (ha y1) d2) (Nat.zero_le _) (Nat.zero_le _)
  have bb : ∀ p : Bool, (p == p) = true := fun p => by cases p <;> rfl
  have ii : ∀ p : Int, (p == p) = true := fun p => by simp
  unfold g12
  by_cases hfx : few x
  · by_cases hfy : few y
    · -- what Mate answers is a mate
      have hmate : (mme x == 0) = true → (me x (mm x) == 0) = true ∧ mq x (mm x) = true := fun h0 => by
        obtain ⟨h1, -, h2, h3, h4⟩ := mme_zero (by simpa using h0)
        obtain ⟨h5, h6⟩ := m_of h1 h2 h3.symm h4
        exact ⟨by rw [h5]; rfl, h6⟩
      by_cases h0 : me x y = 0
      · have h0' : (me x y == 0) = true := by rw [h0]; rfl
        cases hq : mq x y with
        | false =>
          have e1 : (false == false) = true := rfl
          cases hz : (mme x == 0) with
          | false =>
            simp only [meansX_call, c1, hfx, bindP_some, asB_b, forceB_eq, decide_true, Bool.not_true, cond_false, c2, hfy, bindO_some, c3, c4, c5, c6, evP, ev_ext, opd, lget, asI_i, bb, eqI_eq, ii, h0', hq, hz, Bool.not_false, cond_true, halive, tupA]
            exact ⟨_, rfl, rfl⟩
          | true =>
            obtain ⟨z1, z2⟩ := hmate hz
            simp only [meansX_call, c1, hfx, bindP_some, asB_b, forceB_eq, decide_true, Bool.not_true, cond_false, c2, hfy, bindO_some, c3, c4, c5, c6, evP, ev_ext, opd, lget, asI_i, bb, eqI_eq, ii, h0', hq, hz, z1, z2, Bool.not_false, cond_true, halive, tupA]
            exact ⟨_, rfl, rfl⟩
        | true =>
          obtain ⟨fx, fy, hl, hm⟩ := m_true h0 hq
          have h7 := fx.1.1.2.1
          have c7 := callM_pure (call := callX F1 ro) (l := 0) (p := 0) (Full_ok (ha y1)) (Nat.zero_le _) (Nat.zero_le _)
          have c8 := callM_pure (call := callX F1 ro) (l := 0) (p := 0) (Full_ok (hb y1)) (Nat.zero_le _) (Nat.zero_le _)
          rw [decide_eq_true fx] at c7
          rw [decide_eq_true fy] at c8
          obtain ⟨y2, lw2, lp2, t1⟩ := transversals_ok (ro := ro) (hb y1) fy
          have c9 : callM (callX F1 ro) ⟨y1, 0, 0⟩ 33 [b] = some (.tup [.i .i64 ((trs y).length : Nat), .i .i64 0], ⟨y1 ++ y2, 0, 0⟩) := (callM_eq (call := callX F1 ro) (m := ⟨y1, 0, 0⟩) t1).trans (by simp)
          have htr := mate_trs fx fy hl hm
          have hlt : decide (((trs y).length : Int) < (x.length : Int)) = false := by simp; omega
          have hle : ((x.length : Int) == (y.length : Int)) = true := by simp [hl]
          obtain ⟨hp', hloop⟩ := pairs_loop (ro := ro) ha hb fx fy hl hm (x53 := mme x) (y1 ++ y2)
          by_cases h5 : x.length ≤ 5
          · have hz0 := mme_mate fx fy hl hm h5
            have hz : (mme x == 0) = true := by rw [hz0]; rfl
            obtain ⟨z1, z2⟩ := hmate hz
            have d5 : decide ((5 : Int) < (x.length : Int)) = false := by simp; omega
            simp only [meansX_call, meansX_loop, c1, hfx, bindP_some, asB_b, forceB_eq, decide_true, Bool.not_true, cond_false, c2, hfy, bindO_some, c3, c4, c5, c6, evP, ev_ext, opd, lget, asI_i, bb, eqI_eq, ii, h0', hq, hz, z1, z2, Bool.not_false, cond_true, c7, c8, c9, len_mat (ha _), len_mat (hb _), hle, ltI_eq, hlt]
            have hla := len_mat (ha [])
            have hlb := len_mat (hb [])
            simp only [evP] at hla hlb
            simp only [hla, hlb, bindO_some, asI_i, hle, Bool.not_true, cond_false, ii, hlt, hloop, d5, Bool.not_false, cond_true, halive, bindP_some, asB_b, tupA, c9, evP, ev_ext, opd, lget]
            exact ⟨_, rfl, rfl⟩
          · have hz0 := mme_big h5
            have hz : (mme x == 0) = false := by rw [hz0]; rfl
            have hz2 : (mme x == 2) = true := by rw [hz0]; rfl
            have d5 : decide ((5 : Int) < (x.length : Int)) = true := by simp; omega
            simp only [meansX_call, meansX_loop, c1, hfx, bindP_some, asB_b, forceB_eq, decide_true, Bool.not_true, cond_false, c2, hfy, bindO_some, c3, c4, c5, c6, evP, ev_ext, opd, lget, asI_i, bb, eqI_eq, ii, h0', hq, hz, Bool.not_false, cond_true, c7, c8, c9, len_mat (ha _), len_mat (hb _), hle, ltI_eq, hlt]
            have hla := len_mat (ha [])
            have hlb := len_mat (hb [])
            simp only [evP] at hla hlb
            simp only [hla, hlb, bindO_some, asI_i, hle, Bool.not_true, cond_false, ii, hlt, hloop, d5, hz2, Bool.not_false, cond_true, halive, bindP_some, asB_b, tupA, c9, evP, ev_ext, opd, lget]
            exact ⟨_, rfl, rfl⟩
      · have h0' : (me x y == 0) = false := by simp [h0]
        cases hz : (mme x == 0) with
        | false =>
          simp only [meansX_call, c1, hfx, bindP_some, asB_b, forceB_eq, decide_true, Bool.not_true, cond_false, c2, hfy, bindO_some, c3, c4, c5, c6, evP, ev_ext, opd, lget, asI_i, bb, eqI_eq, ii, h0', hz, Bool.not_false, cond_true, halive, tupA]
          exact ⟨_, rfl, rfl⟩
        | true =>
          obtain ⟨z1, z2⟩ := hmate hz
          simp only [meansX_call, c1, hfx, bindP_some, asB_b, forceB_eq, decide_true, Bool.not_true, cond_false, c2, hfy, bindO_some, c3, c4, c5, c6, evP, ev_ext, opd, lget, asI_i, bb, eqI_eq, ii, h0', hz, z1, z2, Bool.not_false, cond_true, halive, tupA]
          exact ⟨_, rfl, rfl⟩
    · simp only [meansX_call, c1, hfx, bindP_some, asB_b, forceB_eq, decide_true, Bool.not_true, cond_false, c2, hfy, decide_false, Bool.not_false, bindO_some, cond_true, halive, tupA]
      exact ⟨_, rfl, rfl⟩
  · simp only [meansX_call, c1, hfx, bindP_some, asB_b, forceB_eq, decide_false, Bool.not_false, cond_true, bindO_some, halive, tupA]
    exact ⟨_, rfl, rfl⟩

set_option maxRecDepth 100000 in
theorem lifted12 (os : Os) (started : os.Started) (H : Type) (enc : TypeId × Value → H) :
    ReturnsInHanded {} Try.checked os 12 .any (Rows.bedPairsSpec.pre6 enc Try.prog Try.f12 Rows.bedPairsRow.domain false) (Rows.bedPairsSpec.post enc Try.prog Try.f12 false true false false) := by
  refine returnsInHanded_of_change (C := Try.checked) own started (by kernel_rfl) Try.func12
    (ChangeSpec.witness6 (enc := enc) (C := Try.checked) false ⟨#[], #[.slice none 0 0, .slice none 0 0], []⟩ 8 (by kernel_rfl) (by kernel_rfl) (by kernel_rfl) (by kernel_rfl)) ?_
  intro W base args ds gs before hval0 hW hcnd _
  have hval : ∀ (j : Nat) t v, Try.f12.params[j]? = some t → args[j]? = some v → Value.okWide Try.prog W .any base t v := hval0
  have hW' := hW
  obtain ⟨p, q, hA0, hV, rfl, hfz, hnd⟩ := hW
  have hA : DataW.TrodAll enc Try.prog W 0 (fun _ => true) true Try.f12.params.toList args.toList ds p := hA0
  rw [Try.params12] at hA hval
  obtain ⟨v0, vs0, d0, ds0, p0, q0, hargs, rfl, rfl, h0, r0⟩ := trodAll_cons hA
  obtain ⟨v1, vs1, d1, ds1, p1, q1, rfl, rfl, rfl, h1, r1⟩ := trodAll_cons r0
  obtain ⟨rfl, rfl, rfl⟩ := trodAll_nil r1
  obtain rfl : args = #[v0, v1] := by cases args; simp_all
  obtain ⟨rfl, rfl⟩ := trodVars_none hV
  obtain ⟨x, hO⟩ := opened (okWide_slice Try.underlying22 (hval 0 22 v0 rfl rfl)) h0
  obtain ⟨y, hO1⟩ := opened (okWide_slice Try.underlying22 (hval 1 22 v1 rfl rfl)) h1
  clear hA0 hval0
  have hlt0 : ∀ y ∈ p0, y.block < W.heap.size := fun y hy => hW'.lt y (by simp [hy])
  have hlt1 : ∀ y ∈ p1, y.block < W.heap.size := fun y hy => hW'.lt y (by simp [hy])
  obtain ⟨ro, rl, u0, u1, hE, hm0, hm1, hv0, hv1⟩ := two_of hO hO1
  obtain ⟨h', lw, lp, hc⟩ := law12 hm0 hm1 hO.fits hO1.fits
  refine (call_of alive0 hE (vs := [u0, u1]) (args := #[v0, v1]) ⟨rfl, fun i w hw => by
    match i with
    | 0 => simp at hw; subst hw; exact hv0
    | 1 => simp at hw; subst hw; exact hv1
    | i + 2 => simp at hw⟩ hc).mono fun e W' ⟨he, hb⟩ => ?_
  subst he
  exact ⟨_, rfl, ⟨_, _, _, [], p0 ++ (p1 ++ []), [], hW', (trodAll_cons_mk (shut_bool Try.underlying4 _) trodAll_mk0), (trodAll_cons_mk (Below.trod laidOut (by kernel_rfl) (of_decide_eq_true (by kernel_rfl)) h0 hb hlt0) (trodAll_cons_mk (Below.trod laidOut (by kernel_rfl) (of_decide_eq_true (by kernel_rfl)) h1 hb hlt1) trodAll_mk0)), rfl, hb.frame _, fun h => by cases h⟩⟩

theorem over12 : Rows.bedPairsRow.holds Try.pinned (OpenSpec.ofChange Rows.bedPairsSpec) :=
  OpenClaim.holds_of_wide 12 Try.f12 rfl rfl rfl rfl rfl rfl rfl ⟨rfl, rfl, rfl, rfl, rfl⟩ rfl rfl rfl rfl rfl (by kernel_rfl) Try.func12 (by kernel_rfl)
    (of_decide_eq_true (by kernel_rfl)) (by unfold Func.isWrapper; first | (rw [if_pos (by decide +kernel)]; kernel_rfl) | (rw [if_neg (by decide +kernel)]; exact ⟨rfl, rfl⟩))
    (fun os started H enc _ => lifted12 os started H enc)

end Go.Proofs.Ytllmlonngnhbfaa.Bed

namespace Go.Proofs.Ytllmlonngnhbfaa
/-- the statement -/
theorem bedPairs_holds : Rows.BedPairsSaid := Bed.over12
end Go.Proofs.Ytllmlonngnhbfaa
#print axioms Go.Proofs.Ytllmlonngnhbfaa.bedPairs_holds

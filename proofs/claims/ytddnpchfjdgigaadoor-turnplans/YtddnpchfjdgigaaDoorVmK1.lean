/- Contracts of the functions: what each of them answers. -/
import Derived.Test.YtddnpchfjdgigaaDoorVmK0
/- The rounds of Shortest. -/
open Go.Vm
set_option linter.unusedVariables false
namespace Go.Proofs.YtddnpchfjdgigaaDoor.T
open Go

def spanBlk (s : Sp) : ABlk := { blkOf 31 z4 with c := (blkOf 31 z4).c.splice 0 s.vs }
theorem st_span {ro : List ABlk} (s : Sp) (h : Heap) (l p : Nat) : stepM ro ⟨h ++ [some (blkOf 31 z4)], l, p⟩ (.st 4 (.c (.p (some ⟨false, h.length, 0⟩))) (.c s.v)) = some (und, ⟨h ++ [some (spanBlk s)], min l h.length, p⟩) := by
  have hw := wrH_all (vs := s.vs) (lget_last h (some (blkOf 31 z4))) (by show 4 ≤ 4; omega) rfl
  have hbq : Nat.beq s.vs.length 4 = true := rfl
  have hn : nonp s.vs = true := rfl
  simp only [stepM, stepK, opd, st_st, AVal.cells, hbq, cond_true, hw, St.mm, hn, set_end]
  rfl
theorem spanBlk_holds (s : Sp) (h : Heap) : Holds (h ++ [some (spanBlk s)]) h.length s.vs :=
  ⟨spanBlk s, lget_last _ _, rfl, fun j hj => by
    show ((blkOf 31 z4).c.splice 0 s.vs).get j = _
    rw [spliceGet, if_pos (by omega)]; simp⟩
def ysL (l : List Sp) (i : Nat) : Heap := (List.range i).map fun j => some (spanBlk (l.getD j Sp.z))
theorem ysL_succ (l : List Sp) (i : Nat) : ysL l (i + 1) = ysL l i ++ [some (spanBlk (l.getD i Sp.z))] := by simp [ysL, List.range_succ]

def qcb (t : Int) (l : List Sp) (z : List Int) : Int := sumTo (fun i => qcu t (l.getD i Sp.z) z) l.length
theorem slackSum_bd {t n : Int} {l : List Sp} (ok : Ok t n l) (z : List Int) {i : Nat} (hi : i ≤ l.length) : -1000 ≤ sumTo (fun i => qcu t (l.getD i Sp.z) z) i ∧ sumTo (fun i => qcu t (l.getD i Sp.z) z) i ≤ 1000 := by
  obtain ⟨r1, r2, r3, r4⟩ := ok.r
  have hlen := ok.len
  have := sumTo_bd (f := fun i => qcu t (l.getD i Sp.z) z) (B := 24) (k := i) fun j hj => by
    have := slackP_rng r1 (l.getD j Sp.z) z
    omega
  omega

theorem loop24 {ro : List ABlk} {G : Heap} {t n : Int} {B : Nat} {v w v11 v12 : AVal} {l : List Sp} {z : List Int} (ok : Ok t n l) (a : qbh ro G v l) (d : Holds G B [.i .i64 t, .i .i64 n, v]) (r : IsRow ro G w z) (hz : Hz t z) (hzl : (z.length : Int) = n) {lw lp : Nat} (hlw : lw ≤ G.length) (hlp : lp ≤ G.length) :
    loopX (fun s : Int × Int × Mm => g24_b0 (qbt F1 ro) ro (.p (some ⟨false, B, 0⟩)) v11 v12 w v l.length s.1 s.2.1 s.2.2) (0, 0, ⟨G, lw, lp⟩) = some (qcb t l z, ⟨G ++ ysL l l.length, lw, lp⟩) := by
  obtain ⟨r1, r2, r3, r4⟩ := ok.r
  have hlen := ok.len
  have hloop := loop_run (b := fun s : Int × Int × Mm => g24_b0 (qbt F1 ro) ro (.p (some ⟨false, B, 0⟩)) v11 v12 w v l.length s.1 s.2.1 s.2.2) (fun i => (sumTo (fun i => qcu t (l.getD i Sp.z) z) i, (i : Int), (⟨G ++ ysL l i, lw, lp⟩ : Mm))) l.length (r0 := (qcb t l z, (⟨G ++ ysL l l.length, lw, lp⟩ : Mm))) ?_ ?_
  · have e1 : G ++ ysL l 0 = G := by simp [ysL]
    simp only [e1] at hloop
    exact hloop
  · simp only [g24_b0, qam, qbf, lt_no, cond_false]
    rfl
  · intro i hi
    have kG : Keep G (G ++ ysL l i) := Keep.app _
    obtain ⟨q, q1, q2, q3, q4⟩ := at_span (a.by kG) hi
    have hs := ok.sp i hi
    have hb0 := slackSum_bd ok z (i := i) (by omega)
    have hb1 := slackSum_bd ok z (i := i + 1) (by omega)
    simp only [sumTo] at hb1 ⊢
    rw [ysL_succ, ← List.append_assoc]
    generalize l.getD i Sp.z = s at *
    obtain ⟨i1, i2, i3, i4⟩ := spOk_in hs hzl r2
    have hal := al_ok (ro := ro) (hp := G ++ ysL l i) (l := lw) (p := lp) 31 z4
    have hst := st_span (ro := ro) s (G ++ ysL l i) lw lp
    have hmin : min lw (G ++ ysL l i).length = lw := by have := kG.1; omega
    rw [hmin] at hst
    have k2 : Keep G (G ++ ysL l i ++ [some (spanBlk s)]) := kG.trans (Keep.app _)
    have d2 := d.by k2
    have s2 := spanBlk_holds s (G ++ ysL l i)
    have hc := qco (slack48 (ro := ro) (h := G ++ ysL l i ++ [some (spanBlk s)]) ok.r (a.by k2) (row_by r k2) hz i1 i2 i3) (l := lw) (p := lp) (Nat.le_trans hlw k2.1) (Nat.le_trans hlp k2.1)
    simp only [g24_b0, qam, qbf, lt_yes hi, cond_true, q1, q2, qah, hal, qal, hst, d2.all (ro := ro) (l := lw) (p := lp) (n := 3) rfl, s2.all (ro := ro) (l := lw) (p := lp) (n := 4) rfl, qav, hc, asI_i, qax]
    rw [wr_id' (x := _ + qcu t s z) (by omega) (by omega), qdd (by omega)]

theorem clone49 {ro : List ABlk} {h : Heap} {q : Vm.Loc} {nn : Nat} {cap : Cap} {z : List Int} (r : IsRow ro h (.sl q nn cap) z) (h0 : 0 < z.length) (hz : z.length ≤ 1000) :
    callX F1 ro 49 [.sl q nn cap] h = some (.sl ⟨false, h.length + 1, 0⟩ z.length .grow, h ++ [some (blkOf 3 [])] ++ [some (blkOf 3 (ints z))], h.length, h.length) := by
  refine g49_ok (qat F1 ro) rfl ?_
  unfold g49
  have e0 : evP .e (.nilcmp false (.c (.sl q nn cap))) = some (.b false) := rfl
  have k2 : Keep h (h ++ [some (blkOf 3 [])]) := Keep.app _
  have s1 : ∀ l p, stepM ro ⟨h, l, p⟩ (.bsl 3 1 [(AVal.i IntKind.i64 0)] 0 []) = some (.sl ⟨false, h.length, 0⟩ 0 (.known 0), ⟨h ++ [some (blkOf 3 [])], l, p⟩) := fun l p => rfl
  have src := src_row (row_by r k2)
  have hl : (h ++ [some (blkOf 3 [])]).length = h.length + 1 := by simp
  have s2 : ∀ l p, stepM ro ⟨h ++ [some (blkOf 3 [])], l, p⟩ (.app 3 1 8 [(AVal.i IntKind.i64 0)] (.c (.sl ⟨false, h.length, 0⟩ 0 (.known 0))) (.c (.sl q nn cap))) = some (.sl ⟨false, h.length + 1, 0⟩ z.length .grow, ⟨h ++ [some (blkOf 3 [])] ++ [some (blkOf 3 (ints z))], l, p⟩) := fun l p => by
    have e3 : Nat.ble (0 + z.length) 0 = false := by rw [Bool.eq_false_iff, Ne, Nat.ble_eq]; omega
    have hrd : rdB ro (h ++ [some (blkOf 3 [])]) ⟨false, h.length, 0⟩ = some (blkOf 3 []) := by simp [rdB, qbs]
    have e5 : (Nat.ble (0 + 0 * 1) (blkOf 3 []).n && fits (0 + z.length) 8) = true := by
      rw [Nat.zero_add, fits_small (by omega) (by omega)]; rfl
    simp only [stepM, stepK, opd, Mm.st, st_app, src, app_known, e3, cond_false, hrd, e5, cond_true, newB, St.mm]
    rw [Nat.zero_add, hl]
    rfl
  simp only [e0, qah, asB_b, cond_false, s1, s2, qal]
  have hbel : (tupA [AVal.sl ⟨false, h.length + 1, 0⟩ z.length .grow]).bel h.length = false := by
    have := not_bel (L := h.length) (b := h.length + 1) (off := 0) (len := z.length) (cap := .grow) (by omega)
    simpa only [tupA] using this
  exact fin_new hbel

theorem look_bind {β : Type} {A : Option AVal} {B : AVal → Option AVal} {C : Bool → Option Bool} {K : Bool → Option β} {c : Bool} (h : (bindO A fun v => bindO (B v) fun w => asB w fun c => C c) = some c) : (bindO A fun v => bindO (B v) fun w => asB w fun c => bindO (C c) K) = K c := by
  obtain ⟨v, h1, h2⟩ := qab h
  obtain ⟨w, h3, h4⟩ := qab h2
  obtain ⟨x, rfl, h5⟩ := qde h4
  rw [h1, qah, h3, qah, asB_b, h5, qah]
/-- the rounds of Shortest -/
structure ShS where
  k : Nat
  best : Option (List Int × Int)
  full : Bool
def shBest (t : Int) (l : List Sp) (b : Option (List Int × Int)) (z : List Int) : Option (List Int × Int) := match b with
  | none => some (z, qcb t l z)
  | some (w, m) => if qcb t l z < m then some (z, qcb t l z) else some (w, m)
def shStep (t : Int) (l : List Sp) (s : ShS) (z : List Int) : ShS × Bool := if s.k = 1000000 then (⟨s.k, s.best, true⟩, false) else (⟨s.k + 1, shBest t l s.best z, s.full⟩, true)
theorem sh_run (t : Int) (l : List Sp) : ∀ (R : List (List Int)) (k : Nat) (b : Option (List Int × Int)), k ≤ 1000000 → ∃ s, runF (shStep t l) ⟨k, b, false⟩ R = (s, decide (k + R.length ≤ 1000000)) ∧ (k + R.length ≤ 1000000 → s = ⟨k + R.length, R.foldl (shBest t l) b, false⟩) ∧ (¬ k + R.length ≤ 1000000 → s.full = true)
  | [], k, b, hk => ⟨⟨k, b, false⟩, by simp [runF, hk], fun _ => rfl, fun h => absurd hk h⟩
  | z :: R, k, b, hk => by
    by_cases h : k = 1000000
    · have hs : shStep t l ⟨k, b, false⟩ z = (⟨k, b, true⟩, false) := by unfold shStep; rw [if_pos h]
      refine ⟨⟨k, b, true⟩, ?_, fun hh => by simp at hh; omega, fun _ => rfl⟩
      rw [runF_off (by rw [hs]), hs]
      have : decide (k + (z :: R).length ≤ 1000000) = false := decide_eq_false (by simp; omega)
      rw [this]
    · have hs : shStep t l ⟨k, b, false⟩ z = (⟨k + 1, shBest t l b z, false⟩, true) := by unfold shStep; rw [if_neg h]
      obtain ⟨s, h1, h2, h3⟩ := sh_run t l R (k + 1) (shBest t l b z) (by omega)
      have e : k + 1 + R.length = k + (z :: R).length := by simp; omega
      rw [e] at h1 h2 h3
      exact ⟨s, by rw [runF_on (by rw [hs]), hs]; exact h1, h2, h3⟩

def shBase (h : Heap) (L0 : Nat) (dem : List AVal) (v : AVal) (X : Heap) : Prop :=
  Keep h X ∧ Holds X (h.length + 8) dem ∧ Holds X (h.length + 4) dem ∧ Holds X h.length [v]
def shV (h : Heap) (L0 nN : Nat) (b : Option (List Int × Int)) (X : Heap) (lp : Nat) : Prop := match b with
  | none => lp = L0 + 1 ∧ Holds X (h.length + 5) [.nsl] ∧ Holds X (h.length + 6) [.i .i64 0]
  | some (w, m) => lp ≤ h.length + 5 ∧ (∃ c, L0 + 4 ≤ c ∧ Holds X (h.length + 5) [.sl ⟨false, c, 0⟩ nN .grow] ∧ Holds X c (ints w)) ∧ w.length = nN ∧ Holds X (h.length + 6) [.i .i64 m]
def shSt (h : Heap) (L0 nN : Nat) (dem : List AVal) (v : AVal) (s : ShS) (X : Heap) (lp : Nat) : Prop :=
  shBase h L0 dem v X ∧ s.k ≤ 1000000 ∧ Holds X (h.length + 1) [.nsl] ∧ Holds X (h.length + 2) [.i .i64 0] ∧ Holds X (h.length + 3) [.i .i64 0] ∧ Holds X (h.length + 7) [.i .i64 (s.k : Int)] ∧ shV h L0 nN s.best X lp
def shE (h : Heap) (s : ShS) (X : Heap) (lp : Nat) : Prop :=
  s.full = true ∧ Keep h X ∧ Holds X (h.length + 1) [.nsl] ∧ Holds X (h.length + 2) [.i .i64 0] ∧ Holds X (h.length + 3) [.i .i64 8]
theorem shBase.keep' {h : Heap} {L0 : Nat} {dem : List AVal} {v : AVal} {X X' : Heap} (a : shBase h L0 dem v X) (hl : X.length ≤ X'.length) (h1 : ∀ i, i < h.length → X'[i]? = X[i]?) (h2 : X'[h.length + 8]? = X[h.length + 8]?) (h3 : X'[h.length + 4]? = X[h.length + 4]?) (h4 : X'[h.length]? = X[h.length]?) : shBase h L0 dem v X' := by
  obtain ⟨b1, b2, b3, b4⟩ := a
  exact ⟨⟨Nat.le_trans b1.1 hl, fun i hi => by rw [h1 i hi]; exact b1.2 i hi⟩, b2.keep h2, b3.keep h3, b4.keep h4⟩

theorem shR {ro : List ABlk} {h : Heap} {L0 T nN : Nat} {v : AVal} {l : List Sp} (hL : L0 = h.length + 9) (a : qbh ro h v l) (ok : Ok T nN l) :
    Rnd ro [30] k24a0 k24c0 (g24_P0 (.p (some ⟨false, h.length, 0⟩)) (.p (some ⟨false, h.length + 1, 0⟩)) (.p (some ⟨false, h.length + 2, 0⟩)) (.p (some ⟨false, h.length + 3, 0⟩)) (.p (some ⟨false, h.length + 4, 0⟩)) (.p (some ⟨false, h.length + 5, 0⟩)) (.p (some ⟨false, h.length + 6, 0⟩)) (.p (some ⟨false, h.length + 7, 0⟩)))
      h (h.length + 8) L0 h.length nN [.i .i64 (T : Int), .i .i64 (nN : Int), v] (fun z => Hz (T : Int) z) (shSt h L0 nN [.i .i64 (T : Int), .i .i64 (nN : Int), v] v) (shE h) (shStep T l) := by
  obtain ⟨r1, r2, r3, r4⟩ := ok.r
  refine ⟨⟨by omega, by omega, by omega⟩, fun s X lp hS => ⟨hS.1.1, hS.1.2.1⟩, fun s X X' lp hS hl hk => ?_, fun s X z lp hS hX hz hzl hzok => ?_⟩
  · obtain ⟨h1, h2, h3, h4, h5, h6, h7⟩ := hS
    refine ⟨h1.keep' (by omega) (fun i hi => hk i (by omega)) (hk _ (by omega)) (hk _ (by omega)) (hk _ (by omega)), h2, h3.keep (hk _ (by omega)), h4.keep (hk _ (by omega)), h5.keep (hk _ (by omega)), h6.keep (hk _ (by omega)), ?_⟩
    cases hb : s.best with
    | none =>
      rw [hb] at h7
      obtain ⟨g1, g2, g3⟩ := h7
      exact ⟨g1, g2.keep (hk _ (by omega)), g3.keep (hk _ (by omega))⟩
    | some wm =>
      obtain ⟨w, m⟩ := wm
      rw [hb] at h7
      obtain ⟨g1, ⟨c, g2, g3, g4⟩, g5, g6⟩ := h7
      exact ⟨g1, ⟨c, g2, g3.keep (hk _ (by omega)), g4.keep (hk _ (by omega))⟩, g5, g6.keep (hk _ (by omega))⟩
  · obtain ⟨h1, h2, h3, h4, h5, h6, h7⟩ := hS
    obtain ⟨k, best, full⟩ := s
    simp only at h2 h6 h7
    by_cases hk : k = 1000000
    · have hs : shStep T l ⟨k, best, full⟩ z = (⟨k, best, true⟩, false) := by unfold shStep; rw [if_pos hk]
      obtain ⟨X1, w1, -, w2, w3, w4⟩ := h3.setU (ro := ro) (L0 := L0) (k := 0) (v := .nsl) (by simp) rfl rfl rfl (by omega)
      obtain ⟨X2, y1, -, y2, y3, y4⟩ := (h4.keep (w4 _ (by omega))).setU (ro := ro) (L0 := L0) (k := 0) (v := .i .i64 0) (by simp) rfl rfl rfl (by omega)
      obtain ⟨X3, z1, -, z2, z3, z4⟩ := ((h5.keep (w4 _ (by omega))).keep (y4 _ (by omega))).setU (ro := ro) (L0 := L0) (k := 0) (v := .i .i64 8) (by simp) rfl rfl rfl (by omega)
      have hlen : X3.length = X.length := by rw [z3, y3, w3]
      refine ⟨X3, min (min (min (min (min X.length L0) (h.length + 1)) (h.length + 2)) (h.length + 3)) L0, X.length, fun t ht => ?_, ?_, by omega, fun i hi1 hi2 => by rw [z4 i (by omega), y4 i (by omega), w4 i (by omega)], by omega, by omega⟩
      · rw [hs]
        refine g24_r0_ok (qat F1 ro) (rec_get (by omega) _) rfl ht ?_
        unfold g24_r0
        have hB := rndB_ok (ps := [30]) (asg := k24a0) (body := k24c0) (t := t) (X := X) (L0 := L0) (by omega) X.length X.length
        have hc := qce (ro := ro) (lw := min X.length L0) (lp := X.length) (h6.put (L0 := L0) (by omega) (some (recR [30] k24a0 k24c0 t .busy none)))
        have e1 : ((k : Int) == 1000000) = true := by simp; omega
        have hE := rndE_ok (ps := [30]) (asg := k24a0) (body := k24c0) (t := t) (X := X3) (L0 := L0) (by omega) X.length .ret (min (min (min (min X.length L0) (h.length + 1)) (h.length + 2)) (h.length + 3)) X.length
        simp only [List.length_set]
        unfold on' at hB
        refine (qbe hB).trans ?_
        refine (qbe hc).trans ?_
        refine (asI_i ..).trans ?_
        rw [qam, qbv, e1, cond_true]
        have w1' := w1 (some (recR [30] k24a0 k24c0 t .busy none)) (min X.length L0) X.length
        have y1' := y1 (some (recR [30] k24a0 k24c0 t .busy none)) (min (min X.length L0) (h.length + 1)) X.length
        have z1' := z1 (some (recR [30] k24a0 k24c0 t .busy none)) (min (min (min X.length L0) (h.length + 1)) (h.length + 2)) X.length
        simp only [Nat.add_zero] at w1' y1' z1'
        refine (qbp w1').trans ?_
        refine (qbp y1').trans ?_
        refine (qbp z1').trans ?_
        rw [hE, if_pos (Nat.le_refl _), List.take_of_length_le (by omega)]
        rfl
      · rw [hs]
        obtain ⟨b1, b2, b3, b4⟩ := h1
        refine ⟨rfl, ⟨by rw [hlen]; exact b1.1, fun i hi => by rw [z4 i (by omega), y4 i (by omega), w4 i (by omega)]; exact b1.2 i hi⟩, ?_, ?_, ?_⟩
        · have := (w2.keep (hp' := X2) (y4 _ (by omega))).keep (hp' := X3) (z4 _ (by omega))
          simpa using this
        · have := y2.keep (hp' := X3) (z4 _ (by omega))
          simpa using this
        · simpa using z2
    · have hs : shStep T l ⟨k, best, full⟩ z = (⟨k + 1, shBest T l best z, full⟩, true) := by unfold shStep; rw [if_neg hk]
      obtain ⟨X1, w1, -, w2, w3, w4⟩ := h6.setU (ro := ro) (L0 := L0) (k := 0) (v := .i .i64 ((k + 1 : Nat) : Int)) (by simp) rfl rfl rfl (by omega)
      have w2' : Holds X1 (h.length + 7) [.i .i64 ((k + 1 : Nat) : Int)] := by simpa using w2
      have hb1 := h1.keep' (X' := X1) (by omega) (fun i hi => w4 i (by omega)) (w4 _ (by omega)) (w4 _ (by omega)) (w4 _ (by omega))
      have kX : Keep X1 (X1 ++ ysL l l.length) := Keep.app _
      have hz1 : Holds X1 (L0 + 2) (ints z) := hz.keep (w4 _ (by omega))
      have hsl := slackSum_bd ok z (i := l.length) (Nat.le_refl _)
      -- what the round does until it looks at the best
      have pre : ∀ t, ∃ hB : rndB L0 ⟨X.set L0 (some (recR [30] k24a0 k24c0 t .ready none)), X.length, X.length⟩ = some ⟨X.set L0 (some (recR [30] k24a0 k24c0 t .busy none)), min X.length L0, X.length⟩,
          ldM ro ⟨X.set L0 (some (recR [30] k24a0 k24c0 t .busy none)), min X.length L0, X.length⟩ true 1 (.p (some ⟨false, h.length + 7, 0⟩)) = some (.i .i64 (k : Int)) ∧
          stepM ro ⟨X.set L0 (some (recR [30] k24a0 k24c0 t .busy none)), min X.length L0, X.length⟩ (.st 1 (.c (.p (some ⟨false, h.length + 7, 0⟩))) (.c (.i .i64 ((k + 1 : Nat) : Int)))) = some (und, ⟨X1.set L0 (some (recR [30] k24a0 k24c0 t .busy none)), min (min X.length L0) (h.length + 7), X.length⟩) ∧
          ldM ro ⟨X1.set L0 (some (recR [30] k24a0 k24c0 t .busy none)), min (min X.length L0) (h.length + 7), X.length⟩ true 1 (.p (some ⟨false, h.length, 0⟩)) = some v ∧
          loopX (fun s : Int × Int × Mm => g24_b0 (qbt F1 ro) ro (.p (some ⟨false, h.length + 4, 0⟩)) (.p (some ⟨false, h.length + 5, 0⟩)) (.p (some ⟨false, h.length + 6, 0⟩)) (sl2 L0 nN) v l.length s.1 s.2.1 s.2.2) (0, 0, ⟨X1.set L0 (some (recR [30] k24a0 k24c0 t .busy none)), min (min X.length L0) (h.length + 7), X.length⟩) = some (qcb T l z, ⟨(X1 ++ ysL l l.length).set L0 (some (recR [30] k24a0 k24c0 t .busy none)), min (min X.length L0) (h.length + 7), X.length⟩) := by
        intro t
        have hB := rndB_ok (ps := [30]) (asg := k24a0) (body := k24c0) (t := t) (X := X) (L0 := L0) (by omega) X.length X.length
        unfold on' at hB
        refine ⟨hB, qce (h6.put (L0 := L0) (by omega) _), ?_, qce (hb1.2.2.2.put (L0 := L0) (by omega) _), ?_⟩
        · have := w1 (some (recR [30] k24a0 k24c0 t .busy none)) (min X.length L0) X.length
          simpa only [Nat.add_zero] using this
        · have := loop24 (ro := ro) (G := X1.set L0 (some (recR [30] k24a0 k24c0 t .busy none))) (v11 := .p (some ⟨false, h.length + 5, 0⟩)) (v12 := .p (some ⟨false, h.length + 6, 0⟩)) (w := sl2 L0 nN) (z := z) ok (a.by (hb1.1.put (by omega) _)) (hb1.2.2.1.put (L0 := L0) (by omega) _) (holds_row (hz1.put (L0 := L0) (by omega) _) rfl hzl.symm) hzok (by omega) (lw := min (min X.length L0) (h.length + 7)) (lp := X.length) (by simp; omega) (by simp; omega)
          rw [← set_last (by omega)] at this
          exact this
      -- whether the plan is better
      have hlenX : (X1 ++ ysL l l.length).length ≥ X.length := by simp; omega
      have look : ∀ t, ∃ c : Bool, (bindO (ldM ro ⟨(X1 ++ ysL l l.length).set L0 (some (recR [30] k24a0 k24c0 t .busy none)), min (min X.length L0) (h.length + 7), X.length⟩ true 1 (.p (some ⟨false, h.length + 5, 0⟩))) fun v48 => bindO (evP .e (.nilcmp false (.c v48))) fun v49 => asB v49 fun c49 => cond c49 (some true) (bindO (ldM ro ⟨(X1 ++ ysL l l.length).set L0 (some (recR [30] k24a0 k24c0 t .busy none)), min (min X.length L0) (h.length + 7), X.length⟩ true 1 (.p (some ⟨false, h.length + 6, 0⟩))) fun v52 => asI .i64 v52 fun x52 => qaw (ltI (qcb T l z) x52) fun c53 => some c53)) = some c ∧ (c = true ↔ shBest T l best z = some (z, qcb T l z) ∧ ∀ w m, best = some (w, m) → qcb T l z < m) ∧ (c = false → ∃ w m, best = some (w, m) ∧ shBest T l best z = some (w, m)) := by
        intro t
        cases hb : best with
        | none =>
          rw [hb] at h7
          obtain ⟨g1, g2, g3⟩ := h7
          refine ⟨true, ?_, ⟨fun _ => ⟨rfl, fun w m hwm => by cases hwm⟩, fun _ => rfl⟩, fun hc => by cases hc⟩
          have := qce (ro := ro) (lw := min (min X.length L0) (h.length + 7)) (lp := X.length) ((((g2.keep (w4 _ (by omega))).ext (ysL l l.length)).put (L0 := L0) (by omega) (some (recR [30] k24a0 k24c0 t .busy none))))
          have e : evP .e (.nilcmp false (.c AVal.nsl)) = some (.b true) := rfl
          simp only [this, qah, e, asB_b, cond_true]
        | some wm =>
          obtain ⟨w, m⟩ := wm
          rw [hb] at h7
          obtain ⟨g1, ⟨c, g2, g3, g4⟩, g5, g6⟩ := h7
          have l1 := qce (ro := ro) (lw := min (min X.length L0) (h.length + 7)) (lp := X.length) ((((g3.keep (w4 _ (by omega))).ext (ysL l l.length)).put (L0 := L0) (by omega) (some (recR [30] k24a0 k24c0 t .busy none))))
          have l2 := qce (ro := ro) (lw := min (min X.length L0) (h.length + 7)) (lp := X.length) ((((g6.keep (w4 _ (by omega))).ext (ysL l l.length)).put (L0 := L0) (by omega) (some (recR [30] k24a0 k24c0 t .busy none))))
          have e : evP .e (.nilcmp false (.c (.sl ⟨false, c, 0⟩ nN .grow))) = some (.b false) := rfl
          refine ⟨decide (qcb T l z < m), ?_, ?_, fun hc => ⟨w, m, rfl, ?_⟩⟩
          · simp only [l1, qah, e, asB_b, cond_false, l2, asI_i, qam, qbf]
          · rw [decide_eq_true_eq]
            constructor
            · intro hlt
              exact ⟨by simp [shBest, hlt], fun w' m' he => by cases he; exact hlt⟩
            · exact fun hh => hh.2 w m rfl
          · have := of_decide_eq_false hc
            simp [shBest, this]
      have old : ∃ u m0, Holds X (h.length + 5) [u] ∧ Holds X (h.length + 6) [.i .i64 m0] := by
        cases hb : best with
        | none => rw [hb] at h7; exact ⟨_, _, h7.2.1, h7.2.2⟩
        | some wm =>
          obtain ⟨w, m⟩ := wm
          rw [hb] at h7
          obtain ⟨g1, ⟨c, g2, g3, g4⟩, g5, g6⟩ := h7
          exact ⟨_, _, g3, g6⟩
      obtain ⟨u, m0, o1, o2⟩ := old
      by_cases hbt : shBest T l best z = some (z, qcb T l z) ∧ ∀ w m, best = some (w, m) → qcb T l z < m
      · have hX3l : (X1 ++ ysL l l.length ++ [some (blkOf 3 [])] ++ [some (blkOf 3 (ints z))]).length = (X1 ++ ysL l l.length).length + 2 := by simp; omega
        have kX3 : Keep X1 (X1 ++ ysL l l.length ++ [some (blkOf 3 [])] ++ [some (blkOf 3 (ints z))]) := (kX.trans (Keep.app _)).trans (Keep.app _)
        have hzz := Holds.new (X1 ++ ysL l l.length ++ [some (blkOf 3 [])]) 3 (ints z)
        have hzl2 : (X1 ++ ysL l l.length ++ [some (blkOf 3 [])]).length = (X1 ++ ysL l l.length).length + 1 := by simp; omega
        rw [hzl2] at hzz
        obtain ⟨X4, y1, y2, y3, y4⟩ := ((o1.keep (w4 _ (by omega))).by kX3).setP (ro := ro) (L0 := L0) (k := 0) (v := .sl ⟨false, (X1 ++ ysL l l.length).length + 1, 0⟩ nN .grow) (by simp) rfl rfl rfl (by omega)
        have o2' : Holds X4 (h.length + 6) [.i .i64 m0] := ((o2.keep (w4 _ (by omega))).by kX3).keep (y4 _ (by omega))
        obtain ⟨X5, z1, -, z2, z3, z4⟩ := o2'.setU (ro := ro) (L0 := L0) (k := 0) (v := .i .i64 (qcb T l z)) (by simp) rfl rfl rfl (by omega)
        have hlen5 : X5.length = (X1 ++ ysL l l.length).length + 2 := by rw [z3, y3, hX3l]
        have old5 : ∀ i, i < X.length → i ≠ h.length + 5 → i ≠ h.length + 6 → i ≠ h.length + 7 → X5[i]? = X[i]? := fun i hi h5 h6 h7 => by rw [z4 i h6, y4 i h5, kX3.2 i (by omega), w4 i h7]
        refine ⟨X5, min (min (min (min (min X.length L0) (h.length + 7)) (h.length + 5)) (h.length + 6)) L0, min X.length (h.length + 5), fun t ht => ?_, ?_, by omega, fun i hi1 hi2 => old5 i (by omega) (by omega) (by omega) (by omega), by omega, by omega⟩
        · rw [hs]
          refine g24_r0_ok (qat F1 ro) (rec_get (by omega) _) rfl ht ?_
          unfold g24_r0
          obtain ⟨hB, hc, hst, hv, hlp⟩ := pre t
          obtain ⟨c, lk, lk1, lk2⟩ := look t
          obtain rfl : c = true := lk1.2 hbt
          have e1 : ((k : Int) == 1000000) = false := by simp; omega
          have hw : Go.Vm.wr .i64 ((k : Int) + 1) = ((k + 1 : Nat) : Int) := by rw [wr_id' (by omega) (by omega)]; omega
          have aX : qbh ro X1 v l := a.by hb1.1
          simp only [List.length_set]
          refine (qbe hB).trans ?_
          refine (qbe hc).trans ?_
          refine (asI_i ..).trans ?_
          rw [qam, qbv, e1, cond_false]
          refine (qbe hc).trans ?_
          refine (asI_i ..).trans ?_
          rw [qax, hw]
          refine (qbp hst).trans ?_
          refine (qbe hv).trans ?_
          refine (qbe (qcr aX)).trans ?_
          refine (asI_i ..).trans ?_
          refine (qbe (show (qbt F1 ro).loop _ _ = _ from hlp)).trans ?_
          refine (look_bind lk).trans ?_
          rw [cond_true]
          have hrow : IsRow ro ((X1 ++ ysL l l.length).set L0 (some (recR [30] k24a0 k24c0 t .busy none))) (sl2 L0 nN) z := holds_row ((hz1.by kX).put (L0 := L0) (by omega) _) rfl hzl.symm
          have hcl := qdf (m := ⟨(X1 ++ ysL l l.length).set L0 (some (recR [30] k24a0 k24c0 t .busy none)), min (min X.length L0) (h.length + 7), X.length⟩) (clone49 hrow (by omega) (by omega))
          have hm1 : min (min (min X.length L0) (h.length + 7)) ((X1 ++ ysL l l.length).set L0 (some (recR [30] k24a0 k24c0 t .busy none))).length = min (min X.length L0) (h.length + 7) := by rw [List.length_set]; omega
          have hm2 : min X.length ((X1 ++ ysL l l.length).set L0 (some (recR [30] k24a0 k24c0 t .busy none))).length = X.length := by rw [List.length_set]; omega
          have hheap : (X1 ++ ysL l l.length).set L0 (some (recR [30] k24a0 k24c0 t .busy none)) ++ [some (blkOf 3 [])] ++ [some (blkOf 3 (ints z))] = (X1 ++ ysL l l.length ++ [some (blkOf 3 [])] ++ [some (blkOf 3 (ints z))]).set L0 (some (recR [30] k24a0 k24c0 t .busy none)) := by
            rw [set_last (hp := X1 ++ ysL l l.length ++ [some (blkOf 3 [])]) (by simp; omega), set_last (hp := X1 ++ ysL l l.length) (by simp; omega)]
          simp only at hcl
          rw [hm1, hm2, hheap, List.length_set, hzl] at hcl
          have y1' := y1 (some (recR [30] k24a0 k24c0 t .busy none)) (min (min X.length L0) (h.length + 7)) X.length
          have z1' := z1 (some (recR [30] k24a0 k24c0 t .busy none)) (min (min (min X.length L0) (h.length + 7)) (h.length + 5)) (min X.length (h.length + 5))
          simp only [Nat.add_zero] at y1' z1'
          have hE := rndE_ok (ps := [30]) (asg := k24a0) (body := k24c0) (t := t) (X := X5) (L0 := L0) (by omega) X.length .norm (min (min (min (min X.length L0) (h.length + 7)) (h.length + 5)) (h.length + 6)) (min X.length (h.length + 5))
          rw [qav, hcl, qal, y1', qal, z1', qal, qah, hE, if_neg (by omega)]
          rfl
        · rw [hs]
          show shSt _ _ _ _ _ _ _ _
          refine ⟨h1.keep' (by omega) (fun i hi => ?_) ?_ ?_ ?_, by show k + 1 ≤ 1000000; omega, ?_, ?_, ?_, ?_, ?_⟩
          · exact old5 i (by have := h1.1.1; omega) (by omega) (by omega) (by omega)
          · exact old5 _ (by omega) (by omega) (by omega) (by omega)
          · exact old5 _ (by omega) (by omega) (by omega) (by omega)
          · exact old5 _ (by omega) (by omega) (by omega) (by omega)
          · exact h3.keep (old5 _ (by omega) (by omega) (by omega) (by omega))
          · exact h4.keep (old5 _ (by omega) (by omega) (by omega) (by omega))
          · exact h5.keep (old5 _ (by omega) (by omega) (by omega) (by omega))
          · exact ((w2'.by kX3).keep (y4 _ (by omega))).keep (z4 _ (by omega))
          · show shV h L0 nN (shBest T l best z) X5 (min lp (min X.length (h.length + 5)))
            rw [hbt.1]
            refine ⟨by omega, ⟨(X1 ++ ysL l l.length).length + 1, by omega, ?_, ?_⟩, hzl, ?_⟩
            · have := y2.keep (hp' := X5) (z4 _ (by omega))
              simpa using this
            · exact (hzz.keep (y4 _ (by omega))).keep (z4 _ (by omega))
            · simpa using z2
      · have hold : ∃ w m, best = some (w, m) ∧ shBest T l best z = some (w, m) := by
          obtain ⟨c, -, lk1, lk2⟩ := look Tr.e
          cases c with
          | true => exact absurd (lk1.1 rfl) hbt
          | false => exact lk2 rfl
        obtain ⟨w, m, hbw, hsb⟩ := hold
        refine ⟨X1, min (min (min X.length L0) (h.length + 7)) L0, X.length, fun t ht => ?_, ?_, by omega, fun i hi1 hi2 => w4 i (by omega), by omega, by omega⟩
        · rw [hs]
          refine g24_r0_ok (qat F1 ro) (rec_get (by omega) _) rfl ht ?_
          unfold g24_r0
          obtain ⟨hB, hc, hst, hv, hlp⟩ := pre t
          obtain ⟨c, lk, lk1, lk2⟩ := look t
          obtain rfl : c = false := by
            cases c with
            | true => exact absurd (lk1.1 rfl) hbt
            | false => rfl
          have e1 : ((k : Int) == 1000000) = false := by simp; omega
          have hw : Go.Vm.wr .i64 ((k : Int) + 1) = ((k + 1 : Nat) : Int) := by rw [wr_id' (by omega) (by omega)]; omega
          have aX : qbh ro X1 v l := a.by hb1.1
          simp only [List.length_set]
          refine (qbe hB).trans ?_
          refine (qbe hc).trans ?_
          refine (asI_i ..).trans ?_
          rw [qam, qbv, e1, cond_false]
          refine (qbe hc).trans ?_
          refine (asI_i ..).trans ?_
          rw [qax, hw]
          refine (qbp hst).trans ?_
          refine (qbe hv).trans ?_
          refine (qbe (qcr aX)).trans ?_
          refine (asI_i ..).trans ?_
          refine (qbe (show (qbt F1 ro).loop _ _ = _ from hlp)).trans ?_
          refine (look_bind lk).trans ?_
          have hE := rndE_ok (ps := [30]) (asg := k24a0) (body := k24c0) (t := t) (X := X1 ++ ysL l l.length) (L0 := L0) (by omega) X.length .norm (min (min X.length L0) (h.length + 7)) X.length
          rw [cond_false, qah, hE, if_pos (Nat.le_refl _), List.take_left' w3]
          rfl
        · rw [hs]
          show shSt _ _ _ _ _ _ _ _
          refine ⟨hb1, by show k + 1 ≤ 1000000; omega, h3.keep (w4 _ (by omega)), h4.keep (w4 _ (by omega)), h5.keep (w4 _ (by omega)), w2', ?_⟩
          show shV h L0 nN (shBest T l best z) X1 (min lp X.length)
          rw [hsb]
          rw [hbw] at h7
          obtain ⟨g1, ⟨c, g2, g3, g4⟩, g5, g6⟩ := h7
          exact ⟨by omega, ⟨c, g2, g3.keep (w4 _ (by omega)), g4.keep (w4 _ (by omega))⟩, g5, g6.keep (w4 _ (by omega))⟩
end Go.Proofs.YtddnpchfjdgigaaDoor.T

/- Shortest. -/
open Go.Vm
set_option linter.unusedVariables false
namespace Go.Proofs.YtddnpchfjdgigaaDoor.T
open Go

theorem bx1 {ro : List ABlk} {h : Heap} {l p e : Nat} {v : AVal} (hc : v.cells = [v]) : stepM ro ⟨h, l, p⟩ (.bx e 1 (.c v)) = some (.p (some ⟨false, h.length, 0⟩), ⟨h ++ [some (blkOf e [v])], l, p⟩) := by
  have hbq : Nat.beq [v].length 1 = true := rfl
  simp only [stepM, stepK, opd, st_bx, hc, hbq, cond_true, newB, St.mm]
theorem qbh.cells {ro : List ABlk} {h : Heap} {v : AVal} {l : List Sp} (a : qbh ro h v l) : v.cells = [v] := by
  rcases a with ⟨rfl, -⟩ | ⟨q, cap, blk, rfl, -⟩ <;> rfl
theorem sameA_i (k : IntKind) (x : Int) : sameA (.i k x) (.i k x) = true := by
  cases x <;> simp [sameA, intEq]
theorem Holds.rd1 {ro : List ABlk} {X : Heap} {b : Nat} {v : AVal} (a : Holds X b [v]) : Go.Vm.rd ro X true 1 ⟨false, b, 0⟩ = some v := qce (ro := ro) (lw := 0) (lp := 0) a
theorem Holds.wrOne {X : Heap} {b : Nat} {x v : AVal} (a : Holds X b [x]) (hv : v.one = true) : ∃ X', wrH X ⟨false, b, 0⟩ [v] = some X' ∧ Holds X' b [v] ∧ X'.length = X.length ∧ ∀ i, i ≠ b → X'[i]? = X[i]? := by
  obtain ⟨blk, h1, h2, h3⟩ := a
  refine ⟨X.set b (some { blk with c := blk.c.set 0 v }), wrH_heap h1 (by rw [h2]; simp) hv, ⟨_, lget_set h1 _, h2, fun j hj => ?_⟩, by simp, fun i hi => List.getElem?_set_ne (Ne.symm hi)⟩
  show (blk.c.set 0 v).get j = _
  have : j = 0 := by simpa using hj
  subst this
  rw [qbm]; simp
/-- three answers are written at once -/
theorem wr3 {ro : List ABlk} {X : Heap} {a b c d lw lp : Nat} {x y z u : AVal} {m : Int} (ha : Holds X a [x]) (hb : Holds X b [y]) (hc : Holds X c [z]) (hd : Holds X d [.i .i64 m]) (hu : u.one = true) (hn : nonp [u] = false) (hab : a ≠ b) (hac : a ≠ c) (hbc : b ≠ c) (hda : d ≠ a) (hdb : d ≠ b) (hdc : d ≠ c) :
    ∃ X', qdb ro [((⟨false, d, 0⟩, [.b true, .i .i64 1]), (.i .i64 m))] [(⟨false, a, 0⟩, [u]), (⟨false, b, 0⟩, [.i .i64 m]), (⟨false, c, 0⟩, [.i .i64 0])] ⟨X, lw, lp⟩ = some ⟨X', min (min (min lw a) b) c, min lp a⟩ ∧ Holds X' a [u] ∧ Holds X' b [.i .i64 m] ∧ Holds X' c [.i .i64 0] ∧ X'.length = X.length ∧ ∀ i, i ≠ a → i ≠ b → i ≠ c → X'[i]? = X[i]? := by
  obtain ⟨X1, w1, w2, w3, w4⟩ := ha.wrOne hu
  obtain ⟨X2, y1, y2, y3, y4⟩ := (hb.keep (w4 b (Ne.symm hab))).wrOne (v := .i .i64 m) rfl
  obtain ⟨X3, z1, z2, z3, z4⟩ := ((hc.keep (w4 c (Ne.symm hac))).keep (y4 c (Ne.symm hbc))).wrOne (v := .i .i64 0) rfl
  have d1 := (hd.keep (hp' := X1) (w4 d hda)).rd1 (ro := ro)
  have d2 := ((hd.keep (hp' := X1) (w4 d hda)).keep (hp' := X2) (y4 d hdb)).rd1 (ro := ro)
  have d3 := (((hd.keep (hp' := X1) (w4 d hda)).keep (hp' := X2) (y4 d hdb)).keep (hp' := X3) (z4 d hdc)).rd1 (ro := ro)
  have hnm : nonp [AVal.i .i64 m] = true := rfl
  have hn0 : nonp [AVal.i .i64 0] = true := rfl
  have e1 : Int.toNat 1 = 1 := rfl
  refine ⟨X3, ?_, (w2.keep (y4 a hab)).keep (z4 a hac), y2.keep (z4 b hbc), z2, by rw [z3, y3, w3], fun i h1 h2 h3 => by rw [z4 i h3, y4 i h2, w4 i h1]⟩
  simp only [qdb, writes, Mm.st, w1, y1, z1, ckOk, e1, d1, d2, d3, sameA_i, Bool.and_true, if_true, hn, hnm, hn0, St.mm]
  rfl

def shL (t n : Int) (l : List Sp) : Option (List Int × Int) := (plL t n l).foldl (shBest t l) none
def shEr (t n : Int) (l : List Sp) : Int := if rdE t n l = 0 then if (plL t n l).length ≤ 1000000 then (match shL t n l with | none => 10 | some _ => 0) else 8 else rdE t n l
def shRes (t n : Int) (l : List Sp) : List Int × Int := if rdE t n l = 0 ∧ (plL t n l).length ≤ 1000000 then (shL t n l).getD ([], 0) else ([], 0)
theorem p0_24 (a b c d e f g i : AVal) : ∃ t, g24_P0 a b c d e f g i t := ⟨(((((((Tr.e.set 5 a).set 6 b).set 7 c).set 8 d).set 9 e).set 11 f).set 12 g).set 13 i, trivial, by simp [qbm], by simp [qbm], by simp [qbm], by simp [qbm], by simp [qbm], by simp [qbm], by simp [qbm], by simp [qbm]⟩
theorem ret3 {ro : List ABlk} {h hp : Heap} (kh : Keep h hp) {a b c : Nat} {x y z u w r : AVal} (ha : Holds hp a [x]) (hb : Holds hp b [y]) (hc : Holds hp c [z]) (hLa : h.length ≤ a) (hLb : h.length ≤ b) (hLc : h.length ≤ c) (hab : a ≠ b) (hac : a ≠ c) (hbc : b ≠ c) (u1 : u.one = true) (u2 : u.cells = [u]) (u3 : nonp [u] = true) (w1 : w.one = true) (w2 : w.cells = [w]) (w3 : nonp [w] = true) (r1 : r.one = true) (r2 : r.cells = [r]) (r3 : nonp [r] = true) :
    ∃ hp1 hp2 hp3, stepM ro ⟨hp, h.length, h.length⟩ (.st 1 (.c (.p (some ⟨false, a, 0⟩))) (.c u)) = some (und, ⟨hp1, h.length, h.length⟩) ∧ stepM ro ⟨hp1, h.length, h.length⟩ (.st 1 (.c (.p (some ⟨false, b, 0⟩))) (.c w)) = some (und, ⟨hp2, h.length, h.length⟩) ∧ stepM ro ⟨hp2, h.length, h.length⟩ (.st 1 (.c (.p (some ⟨false, c, 0⟩))) (.c r)) = some (und, ⟨hp3, h.length, h.length⟩) ∧ Keep h hp3 ∧ Holds hp3 a [u] ∧ Holds hp3 b [w] ∧ Holds hp3 c [r] := by
  obtain ⟨h1, s1, s2, s3, s4, s5⟩ := ha.set (ro := ro) (h := h) (k := 0) (v := u) (by simp) u1 u2 u3 hLa kh
  obtain ⟨h2, t1, t2, t3, t4, t5⟩ := (hb.keep (s4 b (Ne.symm hab))).set (ro := ro) (h := h) (k := 0) (v := w) (by simp) w1 w2 w3 hLb s5
  obtain ⟨h3, q1, q2, q3, q4, q5⟩ := ((hc.keep (s4 c (Ne.symm hac))).keep (t4 c (Ne.symm hbc))).set (ro := ro) (h := h) (k := 0) (v := r) (by simp) r1 r2 r3 hLc t5
  simp only [Nat.zero_mul, Nat.add_zero] at s1 t1 q1
  exact ⟨h1, h2, h3, s1, t1, q1, q5, by simpa using (s2.keep (hp' := h2) (t4 a hab)).keep (hp' := h3) (q4 a hac), by simpa using t2.keep (hp' := h3) (q4 b hbc), by simpa using q2⟩
theorem plan_hz {t n : Int} {l : List Sp} {z : List Int} (h : PlanP t n l z) : Hz t z := h.1.2

def aft24 (ro : List ABlk) (L : Nat) (v6 v7 v8 v11 v12 : AVal) (ex : AExit) (m_31 : Mm) : Option (AVal × Heap × Nat × Nat) :=
    onE ex (
      bindO (ldM ro m_31 true 1 v11) fun v58 =>
      bindO (evP .e (.nilcmp false (.c v58))) fun v59 =>
      asB v59 fun c59 =>
      cond c59 (
        bindP (stepM ro m_31 (.st 1 (.c v6) (.c AVal.nsl))) fun vn_13 m_32 =>
        bindP (stepM ro m_32 (.st 1 (.c v7) (.c (.i .i64 0)))) fun vn_14 m_33 =>
        bindP (stepM ro m_33 (.st 1 (.c v8) (.c (.i .i64 10)))) fun vn_15 m_34 =>
        bindO (ldM ro m_34 true 1 v6) fun vr_3 =>
        bindO (ldM ro m_34 true 1 v7) fun vr_4 =>
        bindO (ldM ro m_34 true 1 v8) fun vr_5 =>
        finM L (tupA [vr_3, vr_4, vr_5]) m_34) (
        bindO (ldA ro m_31.h true 1 v11) fun v60 =>
        asP v12 fun q61 =>
        bindO (ldA ro m_31.h true 1 (.p (some q61))) fun v61 =>
        asI .i64 v61 fun x61 =>
        asP v6 fun qs =>
        chk (Nat.beq (AVal.cells v60).length 1) <|
        asP v7 fun qs_1 =>
        asP v8 fun qs_2 =>
        bindO (qdb ro [((q61, [.b true, .i .i64 1]), (.i .i64 x61))] [(qs, AVal.cells v60), (qs_1, AVal.cells (.i .i64 x61)), (qs_2, AVal.cells (.i .i64 0))] ⟨m_31.h, m_31.lw, m_31.lp⟩) fun m_35 =>
        bindO (ldM ro m_35 true 1 v6) fun vr_6 =>
        bindO (ldM ro m_35 true 1 v7) fun vr_7 =>
        bindO (ldM ro m_35 true 1 v8) fun vr_8 =>
        finM L (tupA [vr_6, vr_7, vr_8]) m_35)) (
      bindO (ldM ro m_31 true 1 v6) fun vr_9 =>
      bindO (ldM ro m_31 true 1 v7) fun vr_10 =>
      bindO (ldM ro m_31 true 1 v8) fun vr_11 =>
      finM L (tupA [vr_9, vr_10, vr_11]) m_31) (fun ix =>
      none)
set_option maxHeartbeats 1000000 in
theorem short24 {ro : List ABlk} {h : Heap} {t n : Int} {v : AVal} {l : List Sp} (a : qbh ro h v l) : ∃ u hp, callX F1 ro 24 [.i .i64 t, .i .i64 n, v] h = some (.tup [u, .i .i64 (shRes t n l).2, .i .i64 (shEr t n l)], hp, h.length, h.length) ∧ Keep h hp ∧ IsRow ro hp u (shRes t n l).1 := by
  have fin : ∀ (b e : Int) (hp : Heap), Keep h hp → finM h.length (tupA [.nsl, .i .i64 b, .i .i64 e]) ⟨hp, h.length, h.length⟩ = some (.tup [.nsl, .i .i64 b, .i .i64 e], h, h.length, h.length) := fun b e hp k => qcn k rfl
  -- the cells that it makes
  obtain ⟨g4, hg4⟩ : ∃ g4 : Heap, g4 = h ++ [some (blkOf 22 [v])] ++ [some (blkOf 25 [AVal.nsl])] ++ [some (blkOf 3 [(AVal.i IntKind.i64 0)])] ++ [some (blkOf 26 [(AVal.i IntKind.i64 0)])] := ⟨_, rfl⟩
  have e1 : (h ++ [some (blkOf 22 [v])]).length = h.length + 1 := by simp
  have e2 : (h ++ [some (blkOf 22 [v])] ++ [some (blkOf 25 [AVal.nsl])]).length = h.length + 2 := by simp
  have e3 : (h ++ [some (blkOf 22 [v])] ++ [some (blkOf 25 [AVal.nsl])] ++ [some (blkOf 3 [(AVal.i IntKind.i64 0)])]).length = h.length + 3 := by simp
  have e4 : g4.length = h.length + 4 := by rw [hg4]; simp
  have k4 : Keep h g4 := by rw [hg4]; exact (((Keep.app _).trans (Keep.app _)).trans (Keep.app _)).trans (Keep.app _)
  have d5 : Holds g4 h.length [v] := by rw [hg4]; exact (((Holds.new h 22 [v]).ext _).ext _).ext _
  have d6 : Holds g4 (h.length + 1) [AVal.nsl] := by
    have := ((Holds.new (h ++ [some (blkOf 22 [v])]) 25 [AVal.nsl]).ext [some (blkOf 3 [(AVal.i IntKind.i64 0)])]).ext [some (blkOf 26 [(AVal.i IntKind.i64 0)])]
    rw [e1] at this
    rw [hg4]; exact this
  have d7 : Holds g4 (h.length + 2) [AVal.i .i64 0] := by
    have := (Holds.new (h ++ [some (blkOf 22 [v])] ++ [some (blkOf 25 [AVal.nsl])]) 3 [(AVal.i IntKind.i64 0)]).ext [some (blkOf 26 [(AVal.i IntKind.i64 0)])]
    rw [e2] at this
    rw [hg4]; exact this
  have d8 : Holds g4 (h.length + 3) [AVal.i .i64 0] := by
    have := Holds.new (h ++ [some (blkOf 22 [v])] ++ [some (blkOf 25 [AVal.nsl])] ++ [some (blkOf 3 [(AVal.i IntKind.i64 0)])]) 26 [(AVal.i IntKind.i64 0)]
    rw [e3] at this
    rw [hg4]; exact this
  have al1 := bx1 (ro := ro) (h := h) (l := h.length) (p := h.length) (e := 22) a.cells
  have al2 := al_ok (ro := ro) (hp := h ++ [some (blkOf 22 [v])]) (l := h.length) (p := h.length) 25 [AVal.nsl]
  have al3 := al_ok (ro := ro) (hp := h ++ [some (blkOf 22 [v])] ++ [some (blkOf 25 [AVal.nsl])]) (l := h.length) (p := h.length) 3 [(AVal.i IntKind.i64 0)]
  have al4 := al_ok (ro := ro) (hp := h ++ [some (blkOf 22 [v])] ++ [some (blkOf 25 [AVal.nsl])] ++ [some (blkOf 3 [(AVal.i IntKind.i64 0)])]) (l := h.length) (p := h.length) 26 [(AVal.i IntKind.i64 0)]
  rw [e1] at al2
  rw [e2] at al3
  rw [e3, ← hg4] at al4
  have a4 := a.by k4
  have hs := qco (read43 (ro := ro) (t := t) (n := n) a4) (l := h.length) (p := h.length) k4.1 k4.1
  have hal := al_ok (ro := ro) (hp := g4) (l := h.length) (p := h.length) 55 z3
  have hv5 := qce (ro := ro) (lw := h.length) (lp := h.length) d5
  by_cases he : rdE t n l = 0
  · have ok := rdE_ok.1 he
    obtain ⟨r1, r2, r3, r4⟩ := ok.r
    have hd : demR t n v l = demV t n v := by simp only [demR, he, if_true]
    rw [he, hd] at hs
    obtain ⟨hp1, s1, s2, s3, s4, s5⟩ := (Holds.new g4 55 z3).st (ro := ro) (h := h) (n := 3) (v := demV t n v) (vs' := [.i .i64 t, .i .i64 n, v]) rfl rfl rfl (ones3 a.one) k4.1 (k4.trans (Keep.app _))
    have kA : Keep g4 hp1 := ⟨by rw [s3]; simp, fun i hi => by rw [s4 i (by omega)]; exact List.getElem?_append_left hi⟩
    have l5 : hp1.length = h.length + 5 := by rw [s3]; simp [e4]
    rw [e4] at hal s1 s2
    have al5 := al_ok (ro := ro) (hp := hp1) (l := h.length) (p := h.length) 25 [AVal.nsl]
    have l6 : (hp1 ++ [some (blkOf 25 [AVal.nsl])]).length = h.length + 6 := by simp [l5]
    have al6 := al_ok (ro := ro) (hp := hp1 ++ [some (blkOf 25 [AVal.nsl])]) (l := h.length) (p := h.length) 3 [(AVal.i IntKind.i64 0)]
    have l7 : (hp1 ++ [some (blkOf 25 [AVal.nsl])] ++ [some (blkOf 3 [(AVal.i IntKind.i64 0)])]).length = h.length + 7 := by simp [l5]
    have al7 := al_ok (ro := ro) (hp := hp1 ++ [some (blkOf 25 [AVal.nsl])] ++ [some (blkOf 3 [(AVal.i IntKind.i64 0)])]) (l := h.length) (p := h.length) 3 [(AVal.i IntKind.i64 0)]
    rw [l5] at al5
    rw [l6] at al6
    rw [l7] at al7
    obtain ⟨g8, hg8⟩ : ∃ g8 : Heap, g8 = hp1 ++ [some (blkOf 25 [AVal.nsl])] ++ [some (blkOf 3 [(AVal.i IntKind.i64 0)])] ++ [some (blkOf 3 [(AVal.i IntKind.i64 0)])] := ⟨_, rfl⟩
    rw [← hg8] at al7
    have l8 : g8.length = h.length + 8 := by rw [hg8]; simp [l5]
    have k8 : Keep hp1 g8 := by rw [hg8]; exact ((Keep.app _).trans (Keep.app _)).trans (Keep.app _)
    have f11 : Holds g8 (h.length + 5) [AVal.nsl] := by
      have := ((Holds.new hp1 25 [AVal.nsl]).ext [some (blkOf 3 [(AVal.i IntKind.i64 0)])]).ext [some (blkOf 3 [(AVal.i IntKind.i64 0)])]
      rw [l5] at this
      rw [hg8]; exact this
    have f12 : Holds g8 (h.length + 6) [AVal.i .i64 0] := by
      have := (Holds.new (hp1 ++ [some (blkOf 25 [AVal.nsl])]) 3 [(AVal.i IntKind.i64 0)]).ext [some (blkOf 3 [(AVal.i IntKind.i64 0)])]
      rw [l6] at this
      rw [hg8]; exact this
    have f13 : Holds g8 (h.length + 7) [AVal.i .i64 0] := by
      have := Holds.new (hp1 ++ [some (blkOf 25 [AVal.nsl])] ++ [some (blkOf 3 [(AVal.i IntKind.i64 0)])]) 3 [(AVal.i IntKind.i64 0)]
      rw [l7] at this
      rw [hg8]; exact this
    obtain ⟨g9, t1, t2, t3, t4, t5⟩ := f12.set (ro := ro) (h := h) (k := 0) (v := .i .i64 0) (by simp) rfl rfl rfl (by omega) (s5.trans k8)
    obtain ⟨g10, u1, u2, u3, u4, u5⟩ := (f13.keep (t4 _ (by omega))).set (ro := ro) (h := h) (k := 0) (v := .i .i64 0) (by simp) rfl rfl rfl (by omega) t5
    simp only [Nat.zero_mul, Nat.add_zero] at t1 u1
    have l10 : g10.length = h.length + 8 := by rw [u3, t3, l8]
    have old10 : ∀ i, i ≠ h.length + 6 → i ≠ h.length + 7 → g10[i]? = g8[i]? := fun i h6 h7 => by rw [u4 i h7, t4 i h6]
    have s10 : Holds g10 (h.length + 4) [.i .i64 t, .i .i64 n, v] := (s2.by k8).keep (old10 _ (by omega) (by omega))
    have hw8 := s10.all (ro := ro) (l := h.length) (p := h.length) (n := 3) rfl
    have hc44 : callM (callX F1 ro) ⟨g10, h.length, h.length⟩ 44 [demV t n v] = some (.fn 61 [] [.p (some ⟨false, h.length + 8, 0⟩)], ⟨g10 ++ [some (blkOf 55 [.i .i64 t, .i .i64 n, v])], h.length, h.length⟩) := by
      rw [qdf (m := ⟨g10, h.length, h.length⟩) plans44, l10]
      have : min h.length (h.length + 8) = h.length := by omega
      simp only [this]
    have hT : t = ((t.toNat : Nat) : Int) := by omega
    have hN : n = ((n.toNat : Nat) : Int) := by omega
    have okN : Ok (t.toNat : Int) (n.toNat : Int) l := by rw [← hT, ← hN]; exact ok
    have hB := Holds.new g10 55 [.i .i64 t, .i .i64 n, v]
    rw [l10] at hB
    have kD : Keep h (g10 ++ [some (blkOf 55 [.i .i64 t, .i .i64 n, v])]) := u5.trans (Keep.app _)
    have hR := shR (ro := ro) (h := h) (L0 := h.length + 9) rfl a okN
    obtain ⟨t0, ht0⟩ := p0_24 (.p (some ⟨false, h.length, 0⟩)) (.p (some ⟨false, h.length + 1, 0⟩)) (.p (some ⟨false, h.length + 2, 0⟩)) (.p (some ⟨false, h.length + 3, 0⟩)) (.p (some ⟨false, h.length + 4, 0⟩)) (.p (some ⟨false, h.length + 5, 0⟩)) (.p (some ⟨false, h.length + 6, 0⟩)) (.p (some ⟨false, h.length + 7, 0⟩))
    have hlH : (g10 ++ [some (blkOf 55 [.i .i64 t, .i .i64 n, v])]).length = h.length + 9 := by simp [l10]
    have q5 : Holds (g10 ++ [some (blkOf 55 [.i .i64 t, .i .i64 n, v])]) h.length [v] := ((((d5.by kA).by k8).keep (old10 _ (by omega) (by omega)))).ext _
    have q6 : Holds (g10 ++ [some (blkOf 55 [.i .i64 t, .i .i64 n, v])]) (h.length + 1) [AVal.nsl] := ((((d6.by kA).by k8).keep (old10 _ (by omega) (by omega)))).ext _
    have q7 : Holds (g10 ++ [some (blkOf 55 [.i .i64 t, .i .i64 n, v])]) (h.length + 2) [AVal.i .i64 0] := ((((d7.by kA).by k8).keep (old10 _ (by omega) (by omega)))).ext _
    have q8 : Holds (g10 ++ [some (blkOf 55 [.i .i64 t, .i .i64 n, v])]) (h.length + 3) [AVal.i .i64 0] := ((((d8.by kA).by k8).keep (old10 _ (by omega) (by omega)))).ext _
    have q11 : Holds (g10 ++ [some (blkOf 55 [.i .i64 t, .i .i64 n, v])]) (h.length + 5) [AVal.nsl] := (f11.keep (old10 _ (by omega) (by omega))).ext _
    have q12 : Holds (g10 ++ [some (blkOf 55 [.i .i64 t, .i .i64 n, v])]) (h.length + 6) [AVal.i .i64 0] := by
      have := (t2.keep (hp' := g10) (u4 _ (by omega))).ext [some (blkOf 55 [.i .i64 t, .i .i64 n, v])]
      simpa using this
    have q13 : Holds (g10 ++ [some (blkOf 55 [.i .i64 t, .i .i64 n, v])]) (h.length + 7) [AVal.i .i64 ((0 : Nat) : Int)] := by
      have := u2.ext [some (blkOf 55 [.i .i64 t, .i .i64 n, v])]
      simpa using this
    have q4 : Holds (g10 ++ [some (blkOf 55 [.i .i64 t, .i .i64 n, v])]) (h.length + 4) [.i .i64 t, .i .i64 n, v] := s10.ext _
    obtain ⟨c, s', X', lw', lp', z1, z2, z3', z4, z5, z6⟩ := rng_plans hR a okN hlH (by rw [← hT, ← hN]; exact hB) kD (s0 := ⟨0, none, false⟩) (fun X hX hXi => ⟨⟨⟨by omega, fun i hi => by rw [hXi i (by omega)]; exact kD.2 i hi⟩, (by rw [← hT, ← hN]; exact hB.keep (hXi _ (by omega))), (by rw [← hT, ← hN]; exact q4.keep (hXi _ (by omega))), q5.keep (hXi _ (by omega))⟩, by simp, q6.keep (hXi _ (by omega)), q7.keep (hXi _ (by omega)), q8.keep (hXi _ (by omega)), q13.keep (hXi _ (by omega)), rfl, q11.keep (hXi _ (by omega)), q12.keep (hXi _ (by omega))⟩) (fun z hz => plan_hz ((mem_plansL okN).1 hz)) ht0
    have hrg := z6 h.length h.length
    have m1 : min (min h.length lw') (h.length + 9) = h.length := by omega
    have m2 : min h.length lp' = h.length := by omega
    rw [m1, m2] at hrg
    obtain ⟨sE, v1, v2, v3⟩ := sh_run (t.toNat : Int) l (qcv t.toNat n.toNat l) 0 none (by omega)
    rw [z1] at v1
    simp only [Prod.mk.injEq] at v1
    obtain ⟨rfl, v1⟩ := v1
    have epl : qcv t.toNat n.toNat l = plL t n l := rfl
    rw [epl, Nat.zero_add] at v1 v2 v3
    rw [← hT] at v2
    have efold : (plL t n l).foldl (shBest t l) none = shL t n l := rfl
    rw [efold] at v2
    -- the text up to the loop
    have hpre : g24 (qbt F1 ro) ro t n v ⟨h, h.length, h.length⟩ = aft24 ro h.length (.p (some ⟨false, h.length + 1, 0⟩)) (.p (some ⟨false, h.length + 2, 0⟩)) (.p (some ⟨false, h.length + 3, 0⟩)) (.p (some ⟨false, h.length + 5, 0⟩)) (.p (some ⟨false, h.length + 6, 0⟩)) (cond c .norm .ret) ⟨endH (h.length + 9) lp' X', h.length, h.length⟩ := by
      unfold g24
      refine (qbp al1).trans ?_
      refine (qbp al2).trans ?_
      refine (qbp al3).trans ?_
      refine (qbp al4).trans ?_
      refine (qbe hv5).trans ?_
      refine (qbp hs).trans ?_
      refine (qbe (ext0 ..)).trans ?_
      refine (qbe (ext1 ..)).trans ?_
      refine (asI_i ..).trans ?_
      refine (qbp hal).trans ?_
      refine (qbp s1).trans ?_
      refine (qam ..).trans ?_
      refine (cond_of rfl).trans ?_
      refine (qbp al5).trans ?_
      refine (qbp al6).trans ?_
      refine (qbp al7).trans ?_
      refine (qbp t1).trans ?_
      refine (qbp u1).trans ?_
      refine (qbe hw8).trans ?_
      refine (qbp hc44).trans ?_
      exact (qbe hrg).trans rfl
    by_cases hcnt : (plL t n l).length ≤ 1000000
    · obtain rfl : c = true := by rw [v1]; exact decide_eq_true hcnt
      have hs' := v2 hcnt
      subst hs'
      simp only [if_true] at z2
      obtain ⟨⟨b1, b2, b3, b4⟩, -, c1, c2, c3, c4, c5⟩ := z2
      have kE : Keep h (endH (h.length + 9) lp' X') := endH_keep b1 (by omega)
      have w6 := qcd (lp := lp') c1 (show h.length + 1 < h.length + 9 by omega)
      have w7 := qcd (lp := lp') c2 (show h.length + 2 < h.length + 9 by omega)
      have w8 := qcd (lp := lp') c3 (show h.length + 3 < h.length + 9 by omega)
      cases hb : shL t n l with
      | none =>
        rw [hb] at c5
        have w11 := qcd (lp := lp') c5.2.1 (show h.length + 5 < h.length + 9 by omega)
        generalize hEH : endH (h.length + 9) lp' X' = hE at *
        have ep : shEr t n l = 10 := by simp only [shEr, he, hcnt, hb, if_true]
        have er : shRes t n l = ([], 0) := by simp [shRes, he, hcnt, hb]
        rw [ep, er]
        obtain ⟨y1, y2, y3, x1, x2, x3, x4, x5, x6, x7⟩ := ret3 (ro := ro) kE w6 w7 w8 (u := .nsl) (w := .i .i64 0) (r := .i .i64 10) (by omega) (by omega) (by omega) (by omega) (by omega) (by omega) rfl rfl rfl rfl rfl rfl rfl rfl rfl
        refine ⟨.nsl, h, g24_ok (qat F1 ro) rfl (hpre.trans ?_), Keep.refl h, .inl ⟨rfl, rfl⟩⟩
        have enil : evP .e (.nilcmp false (.c AVal.nsl)) = some (.b true) := rfl
        unfold aft24
        simp only [qal, qah, asI_i, cond_false, cond_true, onE, qce w11, enil, asB_b, x1, x2, x3, qce x5, qce x6, qce x7]
        exact fin _ _ _ x4
      | some wm =>
        obtain ⟨w, m⟩ := wm
        rw [hb] at c5
        obtain ⟨i1, ⟨cb, i2, i3, i4⟩, i5, i6⟩ := c5
        have hend : endH (h.length + 9) lp' X' = X'.set (h.length + 9) none := by unfold endH; rw [if_neg (by omega)]
        have w11 := qcd (lp := lp') i3 (show h.length + 5 < h.length + 9 by omega)
        have w12 := qcd (lp := lp') i6 (show h.length + 6 < h.length + 9 by omega)
        have wz : Holds (endH (h.length + 9) lp' X') cb (ints w) := by rw [hend]; exact i4.put (by omega) none
        generalize hEH : endH (h.length + 9) lp' X' = hE at *
        have ep : shEr t n l = 0 := by simp only [shEr, he, hcnt, hb, if_true]
        have er : shRes t n l = (w, m) := by simp [shRes, he, hcnt, hb]
        rw [ep, er]
        obtain ⟨hF, x1, x2, x3, x4, x5, x6⟩ := wr3 (ro := ro) (lw := h.length) (lp := h.length) (u := .sl ⟨false, cb, 0⟩ n.toNat .grow) w6 w7 w8 w12 rfl rfl (by omega) (by omega) (by omega) (by omega) (by omega) (by omega)
        have m3 : min (min (min h.length (h.length + 1)) (h.length + 2)) (h.length + 3) = h.length := by omega
        have m4 : min h.length (h.length + 1) = h.length := by omega
        rw [m3, m4] at x1
        have kF : Keep h hF := ⟨by rw [x5]; exact kE.1, fun i hi => by rw [x6 i (by omega) (by omega) (by omega)]; exact kE.2 i hi⟩
        have wz' : Holds hF cb (ints w) := wz.keep (x6 _ (by omega) (by omega) (by omega))
        refine ⟨.sl ⟨false, cb, 0⟩ n.toNat .grow, hF, g24_ok (qat F1 ro) rfl (hpre.trans ?_), kF, holds_row wz' rfl i5.symm⟩
        have enil : evP .e (.nilcmp false (.c (.sl ⟨false, cb, 0⟩ n.toNat .grow))) = some (.b false) := rfl
        have la11 : ldA ro hE true 1 (.p (some ⟨false, h.length + 5, 0⟩)) = some (.sl ⟨false, cb, 0⟩ n.toNat .grow) := by
          have := w11.oneA (ro := ro) (k := 0) (by simp)
          simpa using this
        have la12 : ldA ro hE true 1 (.p (some ⟨false, h.length + 6, 0⟩)) = some (.i .i64 m) := by
          have := w12.oneA (ro := ro) (k := 0) (by simp)
          simpa using this
        have hcl : Nat.beq (AVal.cells (.sl ⟨false, cb, 0⟩ n.toNat .grow)).length 1 = true := rfl
        have x1' : qdb ro [((⟨false, h.length + 6, 0⟩, [.b true, .i .i64 1]), (.i .i64 m))] [(⟨false, h.length + 1, 0⟩, AVal.cells (.sl ⟨false, cb, 0⟩ n.toNat .grow)), (⟨false, h.length + 2, 0⟩, AVal.cells (.i .i64 m)), (⟨false, h.length + 3, 0⟩, AVal.cells (.i .i64 0))] ⟨hE, h.length, h.length⟩ = some ⟨hF, h.length, h.length⟩ := x1
        unfold aft24
        simp only [qal, qah, asI_i, cond_false, cond_true, onE, qce w11, enil, asB_b, la11, la12, asP_p, hcl, chk_true, x1', qce x2, qce x3, qce x4]
        have hbel : (tupA [.sl ⟨false, cb, 0⟩ n.toNat .grow, .i .i64 m, .i .i64 0]).bel h.length = false := by
          have := not_bel (L := h.length) (b := cb) (off := 0) (len := n.toNat) (cap := .grow) (by omega)
          simp only [tupA, AVal.bel, bels] at this ⊢
          rw [this]; rfl
        exact fin_new hbel
    · obtain rfl : c = false := by rw [v1]; exact decide_eq_false hcnt
      simp only [Bool.false_eq_true, if_false] at z2
      obtain ⟨-, b1, c1, c2, c3⟩ := z2
      have kE : Keep h (endH (h.length + 9) lp' X') := endH_keep b1 (by omega)
      have w6 := qcd (lp := lp') c1 (show h.length + 1 < h.length + 9 by omega)
      have w7 := qcd (lp := lp') c2 (show h.length + 2 < h.length + 9 by omega)
      have w8 := qcd (lp := lp') c3 (show h.length + 3 < h.length + 9 by omega)
      generalize hEH : endH (h.length + 9) lp' X' = hE at *
      have ep : shEr t n l = 8 := by simp only [shEr, he, hcnt, if_true, if_false]
      have er : shRes t n l = ([], 0) := by simp [shRes, hcnt]
      rw [ep, er]
      refine ⟨.nsl, h, g24_ok (qat F1 ro) rfl (hpre.trans ?_), Keep.refl h, .inl ⟨rfl, rfl⟩⟩
      unfold aft24
      simp only [qal, qah, asI_i, cond_false, onE, qce w6, qce w7, qce w8]
      exact fin _ _ _ kE
  · have hd : demR t n v l = .agg z3 := by simp only [demR, he, if_false]
    have ep : shEr t n l = rdE t n l := by simp only [shEr, he, if_false]
    have er : shRes t n l = ([], 0) := by simp [shRes, he]
    rw [hd] at hs
    obtain ⟨hp1, s1, s2, s3, s4, s5⟩ := (Holds.new g4 55 z3).st (ro := ro) (h := h) (n := 3) (v := .agg z3) (vs' := z3) rfl rfl rfl rfl k4.1 (k4.trans (Keep.app _))
    have kA : Keep g4 hp1 := ⟨by rw [s3]; simp, fun i hi => by rw [s4 i (by omega)]; exact List.getElem?_append_left hi⟩
    rw [e4] at hal s1
    have e : (rdE t n l == 0) = false := by simpa using he
    obtain ⟨y1, y2, y3, x1, x2, x3, x4, x5, x6, x7⟩ := ret3 (ro := ro) s5 (d6.by kA) (d7.by kA) (d8.by kA) (u := .nsl) (w := .i .i64 0) (r := .i .i64 (rdE t n l)) (by omega) (by omega) (by omega) (by omega) (by omega) (by omega) rfl rfl rfl rfl rfl rfl rfl rfl rfl
    rw [ep, er]
    refine ⟨.nsl, h, g24_ok (qat F1 ro) rfl ?_, Keep.refl h, .inl ⟨rfl, rfl⟩⟩
    unfold g24
    refine (qbp al1).trans ?_
    refine (qbp al2).trans ?_
    refine (qbp al3).trans ?_
    refine (qbp al4).trans ?_
    refine (qbe hv5).trans ?_
    refine (qbp hs).trans ?_
    refine (qbe (ext0 ..)).trans ?_
    refine (qbe (ext1 ..)).trans ?_
    refine (asI_i ..).trans ?_
    refine (qbp hal).trans ?_
    refine (qbp s1).trans ?_
    refine (qam ..).trans ?_
    refine (condT_of (by rw [qbv, e]; rfl)).trans ?_
    refine (qbp x1).trans ?_
    refine (qbp x2).trans ?_
    refine (qbp x3).trans ?_
    refine (qbe (qce x5)).trans ?_
    refine (qbe (qce x6)).trans ?_
    refine (qbe (qce x7)).trans ?_
    exact fin _ _ _ x4
end Go.Proofs.YtddnpchfjdgigaaDoor.T

/- Sets of differences of the reference. -/
open Go.Vm
set_option linter.unusedVariables false
namespace Go.Proofs.YtddnpchfjdgigaaDoor.T
open Go

theorem ofInt64 {a : Nat} (ha : a < 9223372036854775808) : (BitVec.ofInt 64 (a : Int)).toNat = a := by
  rw [BitVec.ofInt_natCast, BitVec.toNat_ofNat]; exact Nat.mod_eq_of_lt (by omega)
theorem and64 {a b : Nat} (ha : a < 9223372036854775808) (hb : b < 9223372036854775808) : bitV .and .i64 (a : Int) (b : Int) = ((a &&& b : Nat) : Int) := by
  have hx : a &&& b < 2 ^ 63 := Nat.and_lt_two_pow _ (by omega)
  show numA (some (mkI .i64 (IntKind.i64.wrap ((BitVec.ofInt 64 (a : Int) &&& BitVec.ofInt 64 (b : Int)).toNat : Int)))) = _
  rw [qcm, BitVec.toNat_and, ofInt64 ha, ofInt64 hb, wrap_i64_in _ (by omega) (by omega)]
  rfl
theorem or64 {a b : Nat} (ha : a < 9223372036854775808) (hb : b < 9223372036854775808) : bitV .or .i64 (a : Int) (b : Int) = ((a ||| b : Nat) : Int) := by
  have hx : a ||| b < 2 ^ 63 := Nat.or_lt_two_pow (by omega) (by omega)
  show numA (some (mkI .i64 (IntKind.i64.wrap ((BitVec.ofInt 64 (a : Int) ||| BitVec.ofInt 64 (b : Int)).toNat : Int)))) = _
  rw [qcm, BitVec.toNat_or, ofInt64 ha, ofInt64 hb, wrap_i64_in _ (by omega) (by omega)]
  rfl
theorem shl64 {a c : Nat} (hc : c ≤ 60) (hr : a * 2 ^ c < 9223372036854775808) : shlV .i64 (a : Int) (c : Int) = ((a * 2 ^ c : Nat) : Int) := by
  unfold shlV
  have : min ((c : Int).toNat) (IntKind.i64.bits) = c := by
    show min c 64 = c
    omega
  rw [this]
  have e : ((a : Int) * ((2 ^ c : Nat) : Int)) = ((a * 2 ^ c : Nat) : Int) := (Int.natCast_mul _ _).symm
  show Go.Vm.wr .i64 ((a : Int) * ((2 ^ c : Nat) : Int)) = _
  rw [e, wr_id' (by omega) (by omega)]
theorem shr64 {a c : Nat} (hc : c ≤ 60) : shrV .i64 (a : Int) (c : Int) = ((a / 2 ^ c : Nat) : Int) := by
  unfold shrV
  have : min ((c : Int).toNat) (IntKind.i64.bits) = c := by
    show min c 64 = c
    omega
  rw [this]
  show Int.fdiv (a : Int) (((2 ^ c : Nat)) : Int) = _
  rw [Int.fdiv_eq_ediv_of_nonneg _ (Int.natCast_nonneg _)]
  norm_cast
theorem rot_eq {T X d : Nat} (hT : T ≤ 24) (hd : d ≤ T) : (X * 2 ^ d ||| X * 2 ^ d / 2 ^ T) &&& allN T = rotN T X d := by
  unfold rotN
  have e1 : X * 2 ^ d / 2 ^ T = X / 2 ^ (T - d) := by
    have : 2 ^ T = 2 ^ (T - d) * 2 ^ d := by rw [← Nat.pow_add]; congr 1; omega
    rw [this, Nat.mul_div_mul_right _ _ (Nat.two_pow_pos d)]
  rw [e1]
  refine Nat.eq_of_testBit_eq fun i => ?_
  rw [Nat.testBit_and, Nat.testBit_and, Nat.testBit_or, Nat.testBit_or, allN_bit]
  by_cases hi : i < T
  · have : (X * 2 ^ d % 4294967296).testBit i = (X * 2 ^ d).testBit i := by
      rw [show (4294967296 : Nat) = 2 ^ 32 from rfl, Nat.testBit_mod_two_pow, decide_eq_true (show i < 32 by omega), Bool.true_and]
    rw [this]
  · rw [decide_eq_false hi, Bool.and_false, Bool.and_false]
theorem mul_pow24 {X T d : Nat} (hT : T ≤ 24) (hX : X < 2 ^ T) (hd : d ≤ T) : X * 2 ^ d < 9223372036854775808 := by
  have h1 := qcq hT
  have h2 := qcq (Nat.le_trans hd hT)
  have : X * 2 ^ d ≤ 16777216 * 16777216 := Nat.mul_le_mul (by omega) h2
  omega
theorem neg_ltI {a : Nat} : (!ltI (a : Int) (.ofNat 0)) = true := by
  rw [qbf]
  have : decide ((a : Int) < Int.ofNat 0) = false := decide_eq_false (by show ¬ ((a : Int) < 0); omega)
  rw [this]; rfl
theorem turned80 {ro : List ABlk} {h : Heap} {T X d : Nat} (hT : T ≤ 24) (hX : X < 2 ^ T) (hd : d ≤ T) : callX F1 ro 80 [.i .i64 (T : Int), .i .i64 (X : Int), .i .i64 (d : Int)] h = some (.i .i64 ((rotN T X d : Nat) : Int), h, h.length, h.length) := by
  refine g80_ok (qat F1 ro) rfl ?_
  unfold g80
  have hp := qcq hT
  have h1 := mul_pow24 hT hX hd
  have h2 : X * 2 ^ d / 2 ^ T < 9223372036854775808 := Nat.lt_of_le_of_lt (Nat.div_le_self _ _) h1
  have h3 : X * 2 ^ d ||| X * 2 ^ d / 2 ^ T < 2 ^ 63 := Nat.or_lt_two_pow (by omega) (by omega)
  have hs : shlV .i64 1 (T : Int) = ((2 ^ T : Nat) : Int) := by
    have := shl64 (a := 1) (c := T) (by omega) (by omega)
    rw [Nat.one_mul] at this
    exact this
  have hm : Go.Vm.wr .i64 (((2 ^ T : Nat) : Int) - 1) = ((allN T : Nat) : Int) := by
    have := Nat.two_pow_pos T
    rw [wr_id' (by omega) (by omega)]
    unfold allN; omega
  have ha : allN T < 9223372036854775808 := by unfold allN; omega
  simp only [neg_ltI, chk_true, qax, shl64 (show d ≤ 60 by omega) h1, shr64 (show T ≤ 60 by omega), or64 h1 h2, hs, hm, and64 (show X * 2 ^ d ||| X * 2 ^ d / 2 ^ T < 9223372036854775808 by omega) ha, rot_eq hT hd, tupA]
  exact qcj rfl
/-- the differences that come of one of a set and one of another one -/
def togN (T A B : Nat) : Nat → Nat
  | 0 => 0
  | k + 1 => if A.testBit k then togN T A B k ||| rotN T B k else togN T A B k
theorem togN_lt {T A B : Nat} : ∀ k, togN T A B k < 2 ^ T
  | 0 => Nat.two_pow_pos T
  | k + 1 => by
    unfold togN
    split
    · exact Nat.or_lt_two_pow (togN_lt k) rotN_lt
    · exact togN_lt k
theorem togN_bit {T A B i : Nat} : ∀ k, (togN T A B k).testBit i = true ↔ ∃ d, d < k ∧ A.testBit d = true ∧ (rotN T B d).testBit i = true
  | 0 => by simp [togN]
  | k + 1 => by
    have ih := togN_bit (T := T) (A := A) (B := B) (i := i) k
    unfold togN
    by_cases hc : A.testBit k = true
    · rw [if_pos hc, Nat.testBit_or, Bool.or_eq_true, ih]
      constructor
      · rintro (⟨d, h1, h2, h3⟩ | h)
        · exact ⟨d, by omega, h2, h3⟩
        · exact ⟨k, by omega, hc, h⟩
      · rintro ⟨d, h1, h2, h3⟩
        rcases Nat.lt_or_ge d k with h4 | h4
        · exact .inl ⟨d, h4, h2, h3⟩
        · obtain rfl : d = k := by omega
          exact .inr h3
    · rw [if_neg hc, ih]
      constructor
      · rintro ⟨d, h1, h2, h3⟩; exact ⟨d, by omega, h2, h3⟩
      · rintro ⟨d, h1, h2, h3⟩
        rcases Nat.lt_or_ge d k with h4 | h4
        · exact ⟨d, h4, h2, h3⟩
        · obtain rfl : d = k := by omega
          exact absurd h2 hc
/-- is an hour in a set? -/
theorem bit_of {A d : Nat} (hd : d ≤ 60) : (!ltI (d : Int) (.ofNat 0)) = true ∧ Int.tmod (shrV .i64 (A : Int) (d : Int)) 2 = if A.testBit d then 1 else 0 := by
  refine ⟨neg_ltI, ?_⟩
  rw [shr64 hd, Int.tmod_eq_emod_of_nonneg (Int.natCast_nonneg _), Nat.testBit_eq_decide_div_mod_eq]
  generalize A / 2 ^ d = q
  by_cases h : q % 2 = 1
  · rw [decide_eq_true h, if_pos rfl]; omega
  · rw [decide_eq_false h, if_neg (by simp)]; omega
theorem together68 {ro : List ABlk} {h : Heap} {T A B : Nat} (hT : T ≤ 24) (hA : A < 2 ^ T) (hB : B < 2 ^ T) : callX F1 ro 68 [.i .i64 (T : Int), .i .i64 (A : Int), .i .i64 (B : Int)] h = some (.i .i64 ((togN T A B T : Nat) : Int), h, h.length, h.length) := by
  refine g68_ok (qat F1 ro) rfl ?_
  have hp := qcq hT
  have hl := loop_run (b := fun s : Int × Int × Mm => g68_b0 (qbt F1 ro) ro T A B s.1 s.2.1 s.2.2) (fun i => (((togN T A B i : Nat) : Int), ((i : Nat) : Int), (⟨h, h.length, h.length⟩ : Mm))) T (r0 := (((togN T A B T : Nat) : Int), ⟨h, h.length, h.length⟩)) ?_ fun i hi => ?_
  · unfold g68
    simp only [qbi]
    refine (qbe hl).trans ?_
    simp only [tupA]
    exact qcj rfl
  · simp only [g68_b0, qam, qbf, decide_eq_false (show ¬ ((T : Int) < (T : Int)) by omega), cond_false]
  · obtain ⟨b1, b2⟩ := bit_of (A := A) (d := i) (by omega)
    have h1 := togN_lt (T := T) (A := A) (B := B) i
    have h2 := rotN_lt (t := T) (X := B) (d := i)
    have hcall := cp0 (turned80 (ro := ro) (h := h) hT hB (Nat.le_of_lt hi))
    by_cases hc : A.testBit i = true
    · have e : togN T A B (i + 1) = togN T A B i ||| rotN T B i := by conv => lhs; unfold togN; rw [if_pos hc]
      rw [if_pos hc] at b2
      simp only [g68_b0, qam, qbf, decide_eq_true (show ((i : Int) < (T : Int)) by omega), cond_true, neg_ltI, chk_true, qax, b2, qbv, beq_self_eq_true, decide_true, qav, hcall, qal, asI_i, or64 (show togN T A B i < 9223372036854775808 by omega) (show rotN T B i < 9223372036854775808 by omega), qah, e]
      rw [wr_id' (by omega) (by omega)]
      rfl
    · have e : togN T A B (i + 1) = togN T A B i := by conv => lhs; unfold togN; rw [if_neg hc]
      rw [if_neg hc] at b2
      have e0 : eqI 0 1 = false := by rw [qbv]; rfl
      simp only [g68_b0, qam, qbf, decide_eq_true (show ((i : Int) < (T : Int)) by omega), cond_true, neg_ltI, chk_true, qax, b2, e0, cond_false, qah, e]
      rw [wr_id' (by omega) (by omega)]
      rfl
end Go.Proofs.YtddnpchfjdgigaaDoor.T

/- Which hours fit. -/
open Go.Vm
set_option linter.unusedVariables false
namespace Go.Proofs.YtddnpchfjdgigaaDoor.T
open Go

theorem mat_by {ro : List ABlk} {h hp : Heap} {v : AVal} {z : List (List Int)} (a : IsMat ro h v z) (k : Keep h hp) : IsMat ro hp v z := by
  rw [take_eq k.1 k.2]; exact a.ext _
theorem at_matK {ro : List ABlk} {h : Heap} {v : AVal} {x : List (List Int)} (hr : IsMat ro h v x) {i : Nat} (hi : i < x.length) : ∃ p u, evP .e (.ixS 1 (.c v) (.c (.i .i64 (i : Int)))) = some p ∧ (∀ {hp : Heap} {l q : Nat}, Keep h hp → ldM ro ⟨hp, l, q⟩ true 1 p = some u ∧ ldA ro hp true 1 p = some u) ∧ IsRow ro h u (x.getD i []) := by
  rcases hr with ⟨rfl, rfl⟩ | ⟨q, cap, blk, rfl, hb, hn, hc⟩
  · simp at hi
  · refine ⟨_, _, ixS_eq hi, fun {hp l q'} k => ?_, hc i hi⟩
    have hb' : rdB ro hp q = some blk := by rw [take_eq k.1 k.2]; exact rdB_ext _ hb
    have h1 := rd_one (i := i) hb' (by omega)
    refine ⟨h1, ?_⟩
    have := rdB_lt hb'
    simp only [ldA, this, cond_true, h1]
/-- sets of differences by two events -/
def rowX (n : Nat) (X : Nat → Nat → Nat) (a : Nat) : List Int := (List.range n).map fun b => ((X a b : Nat) : Int)
def matX (n : Nat) (X : Nat → Nat → Nat) : List (List Int) := (List.range n).map fun a => rowX n X a
theorem rowX_len {n : Nat} {X : Nat → Nat → Nat} {a : Nat} : (rowX n X a).length = n := by simp [rowX]
theorem matX_len {n : Nat} {X : Nat → Nat → Nat} : (matX n X).length = n := by simp [matX]
theorem rowX_get {n : Nat} {X : Nat → Nat → Nat} {a b : Nat} (hb : b < n) : (rowX n X a).getD b 0 = ((X a b : Nat) : Int) := by simp [rowX, List.getD, hb]
theorem matX_get {n : Nat} {X : Nat → Nat → Nat} {a : Nat} (ha : a < n) : (matX n X).getD a [] = rowX n X a := by simp [matX, List.getD, ha]
/-- the place of a set, and what lies there -/
theorem at_set {ro : List ABlk} {h : Heap} {v : AVal} {n : Nat} {X : Nat → Nat → Nat} (hm : IsMat ro h v (matX n X)) {a b : Nat} (ha : a < n) (hb : b < n) : ∃ p u q, evP .e (.ixS 1 (.c v) (.c (.i .i64 (a : Int)))) = some p ∧ ldM ro ⟨h, h.length, h.length⟩ true 1 p = some u ∧ ldA ro h true 1 p = some u ∧ evP .e (.ixS 1 (.c u) (.c (.i .i64 (b : Int)))) = some q ∧ ldM ro ⟨h, h.length, h.length⟩ true 1 q = some (.i .i64 ((X a b : Nat) : Int)) ∧ ldA ro h true 1 q = some (.i .i64 ((X a b : Nat) : Int)) := by
  obtain ⟨p, u, p1, p2, r⟩ := at_matK hm (i := a) (by rw [matX_len]; exact ha)
  rw [matX_get ha] at r
  obtain ⟨q, q1, q2⟩ := at_rowK r (i := b) (by rw [rowX_len]; exact hb)
  rw [rowX_get hb] at q2
  have p3 := p2 (l := h.length) (q := h.length) (Keep.refl h)
  have q3 := q2 (l := h.length) (q := h.length) (Keep.refl h)
  exact ⟨p, u, q, p1, p3.1, p3.2, q1, q3.1, q3.2⟩

/-- may an hour be the one of the next event? -/
def fitP (T : Nat) (X : Nat → Nat → Nat) (now : List Int) (hh : Int) : Prop :=
  ∀ k, k < now.length → (X k now.length).testBit (((hh - now.getD k 0) % (T : Int)).toNat) = true
instance (T : Nat) (X : Nat → Nat → Nat) (now : List Int) (hh : Int) : Decidable (fitP T X now hh) := inferInstanceAs (Decidable (∀ k, k < now.length → _))
def fitB (T : Nat) (X : Nat → Nat → Nat) (now : List Int) (hh : Int) : Bool := decide (fitP T X now hh) && (decide (0 < now.length) || (decide (hh = 0) && decide (X 0 0 = 1)))
theorem fits66 {ro : List ABlk} {h : Heap} {v w : AVal} {T n : Nat} {X : Nat → Nat → Nat} {now : List Int} {hh : Int} (hT : 1 ≤ T ∧ T ≤ 24) (hm : IsMat ro h v (matX n X)) (hw : IsRow ro h w now) (hn : now.length < n) (h6 : n ≤ 6) (hz : ∀ i, i < now.length → 0 ≤ now.getD i 0 ∧ now.getD i 0 < (T : Int)) (hh0 : 0 ≤ hh ∧ hh < T) :
    callX F1 ro 66 [.i .i64 (T : Int), v, w, .i .i64 hh] h = some (.b (fitB T X now hh), h, h.length, h.length) := by
  refine g66_ok (qat F1 ro) rfl ?_
  have hl := loop_if (b := fun s : Int => g66_b0 (qbt F1 ro) ro (T : Int) v w hh ⟨h, h.length, h.length⟩ s) (fun i => ((i : Nat) : Int)) now.length (fun k => (X k now.length).testBit (((hh - now.getD k 0) % (T : Int)).toNat) = true) (.inl ()) (.inr false) ?_ ?_ ?_
  · unfold g66
    simp only [qbi]
    have e0 : ((0 : Nat) : Int) = 0 := rfl
    rw [e0] at hl
    refine (qbe hl).trans ?_
    by_cases hf : ∀ k, k < now.length → (X k now.length).testBit (((hh - now.getD k 0) % (T : Int)).toNat) = true
    · rw [if_pos hf]
      have ef : decide (fitP T X now hh) = true := decide_eq_true hf
      simp only [qcs hw, qah, asI_i, qam, qbf]
      by_cases h0 : 0 < now.length
      · have e : fitB T X now hh = true := by unfold fitB; rw [ef, decide_eq_true h0]; rfl
        simp only [decide_eq_true (show (0 : Int) < (now.length : Int) by omega), cond_true, qah, tupA, e]
        exact qcj rfl
      · simp only [decide_eq_false (show ¬ (0 : Int) < (now.length : Int) by omega), cond_false]
        by_cases h1 : hh = 0
        · subst h1
          obtain ⟨p, u, q, a1, a2, a3, a4, a5, a6⟩ := at_set hm (a := 0) (b := 0) (by omega) (by omega)
          rw [e0] at a1 a4
          have e : fitB T X now 0 = decide (((X 0 0 : Nat) : Int) = 1) := by
            unfold fitB; rw [ef, decide_eq_false h0]
            simp only [Bool.true_and, Bool.false_or, decide_true]
            exact decide_eq_decide.2 (by omega)
          have e2 : eqI ((X 0 0 : Nat) : Int) 1 = decide (((X 0 0 : Nat) : Int) = 1) := by rw [qbv]; rfl
          have e3 : eqI 0 0 = true := by rw [qbv]; rfl
          simp only [e3, cond_true, a1, a2, a4, a5, qah, asI_i, qam, tupA, e, e2]
          exact qcj rfl
        · have e : fitB T X now hh = false := by
            unfold fitB; rw [decide_eq_false h0, decide_eq_false h1]; simp
          have e3 : eqI hh 0 = false := by rw [qbv]; simpa using h1
          simp only [e3, cond_false, qah, tupA, e]
          exact qcj rfl
    · rw [if_neg hf]
      have e : fitB T X now hh = false := by unfold fitB; rw [decide_eq_false (p := fitP T X now hh) hf]; rfl
      simp only [tupA, e]
      exact qcj rfl
  · simp only [g66_b0, qcs hw, qah, asI_i, qam, qbf, decide_eq_false (show ¬ ((now.length : Int) < (now.length : Int)) by omega), cond_false]
  all_goals
    intro i hi hc
    obtain ⟨p, u, q, a1, a2, a3, a4, a5, a6⟩ := at_set hm (a := i) (b := now.length) (by omega) hn
    obtain ⟨p3, b1, b2⟩ := at_rowK hw hi
    have b2 := (b2 (l := 0) (q := 0) (Keep.refl h)).2
    have hzi := hz i hi
    have hd := Int.emod_nonneg (hh - now.getD i 0) (show (T : Int) ≠ 0 by omega)
    have hd2 := Int.emod_lt_of_pos (hh - now.getD i 0) (show 0 < (T : Int) by omega)
    have hc67 := callN_pure (mod67 (ro := ro) (h := h) (x := hh - now.getD i 0) (t := (T : Int)) (by omega) (by omega)) (by simp [AVal.bel, bels]) rfl
    obtain ⟨c1, c2⟩ := bit_of (A := X i now.length) (d := ((hh - now.getD i 0) % (T : Int)).toNat) (by omega)
    rw [Int.toNat_of_nonneg hd] at c1 c2
    simp only [g66_b0, qcs hw, qah, asI_i, qam, qbf, decide_eq_true (show ((i : Int) < (now.length : Int)) by omega), cond_true, a1, a3, a4, a6, b1, b2, qax, wr_id' (x := hh - now.getD i 0) (by omega) (by omega), qav, hc67]
    rw [← qbf, c1, chk_true, c2]
  · have e : eqI 1 0 = false := by rw [qbv]; rfl
    rw [if_pos hc, e, cond_false, wr_id' (by omega) (by omega)]
    rfl
  · have e : eqI 0 0 = true := by rw [qbv]; rfl
    rw [if_neg hc, e, cond_true]
end Go.Proofs.YtddnpchfjdgigaaDoor.T

/- The first list that fits. -/
open Go.Vm
set_option linter.unusedVariables false
namespace Go.Proofs.YtddnpchfjdgigaaDoor.T
open Go

theorem bel_bno {v : AVal} {L : Nat} {q : Vm.Loc} {n : Nat} {c : Cap} (e : v = .sl q n c) (hr : q.ro = false) : v.bel L = decide (q.b < L) := by
  subst e
  show (q.ro || Nat.blt q.b L) = _
  rw [hr, Bool.false_or]
  by_cases h : q.b < L
  · rw [decide_eq_true h, Nat.blt_eq]; exact h
  · rw [decide_eq_false h]
    cases hb : Nat.blt q.b L
    · rfl
    · rw [Nat.blt_eq] at hb; omega
/-- a list cut to itself, and one more: in new memory -/
theorem cut_app {ro : List ABlk} {hp : Heap} {l p : Nat} {v : AVal} {z : List Int} (g : GV hp 0 3 1 v z.length (z.map (AVal.i .i64))) (hk : z.length ≤ 1000) (c : Int) :
    ∃ w v2 hp2 v3 hp3, evP .e (.slS 1 (.c v) none (some (.c (.i .i64 (z.length : Int)))) (some (.c (.i .i64 (z.length : Int))))) = some w ∧
      stepM ro ⟨hp, l, p⟩ (.bsl 3 1 [(AVal.i IntKind.i64 0)] 1 [((0, 1), .c (.i .i64 c))]) = some (v2, ⟨hp2, l, p⟩) ∧
      stepM ro ⟨hp2, l, p⟩ (.app 3 1 8 [(AVal.i IntKind.i64 0)] (.c w) (.c v2)) = some (v3, ⟨hp3, l, p⟩) ∧
      GV hp3 0 3 1 v3 (z.length + 1) ((z ++ [c]).map (AVal.i .i64)) ∧ Keep hp hp3 ∧ v3 ≠ .nsl ∧ ∀ L, L ≤ hp.length → v3.bel L = false := by
  have s1 : stepM ro ⟨hp, l, p⟩ (.bsl 3 1 [(AVal.i IntKind.i64 0)] 1 [((0, 1), .c (.i .i64 c))]) = some (.sl ⟨false, hp.length, 0⟩ 1 (.known 1), ⟨hp ++ [some (blkOf 3 [.i .i64 c])], l, p⟩) := by
    simp [stepM, stepK, st_bsl, rep, fillA, opd, AVal.cells, splice, newB, St.mm]
  have src : app_src ro (hp ++ [some (blkOf 3 [.i .i64 c])]) 1 (.sl ⟨false, hp.length, 0⟩ 1 (.known 1)) = some ([.i .i64 c], 1) := by
    have hb : rdB ro (hp ++ [some (blkOf 3 [.i .i64 c])]) ⟨false, hp.length, 0⟩ = some (blkOf 3 [.i .i64 c]) := by simp [rdB, qbs]
    have hg : (blkOf 3 [AVal.i .i64 c]).c.row 0 1 = [.i .i64 c] := by simp only [Tr.row, get_blk]; rfl
    have hble : Nat.ble (0 + 1 * 1) (blkOf 3 [AVal.i .i64 c]).n = true := rfl
    simp only [app_src, hb, hble, cond_true]
    rw [show 1 * 1 = 1 from rfl, hg]
  have nb : ∀ L, L ≤ hp.length → (AVal.sl ⟨false, hp.length + 1, 0⟩ (z.length + 1) .grow).bel L = false := fun L hL => by
    rw [bel_bno rfl rfl]; exact decide_eq_false (by show ¬ hp.length + 1 < L; omega)
  have kp : ∀ x : Option ABlk, Keep hp (hp ++ [some (blkOf 3 [.i .i64 c])] ++ [x]) := fun x => (Keep.app _).trans (Keep.app _)
  have res : ∀ cs : List AVal, cs = (z ++ [c]).map (AVal.i .i64) → GV (hp ++ [some (blkOf 3 [AVal.i .i64 c])] ++ [some (blkOf 3 cs)]) 0 3 1 (.sl ⟨false, hp.length + 1, 0⟩ (z.length + 1) .grow) (z.length + 1) ((z ++ [c]).map (AVal.i .i64)) := by
    rintro cs rfl
    refine .inr ⟨hp.length + 1, blkOf 3 ((z ++ [c]).map (AVal.i .i64)), rfl, by omega, Nat.zero_le _, ?_, rfl, by simp, by show (z.length + 1) * 1 ≤ ((z ++ [c]).map (AVal.i .i64)).length; simp, fun j hj => ?_⟩
    · have := lget_last (hp ++ [some (blkOf 3 [.i .i64 c])]) (some (blkOf 3 ((z ++ [c]).map (AVal.i .i64))))
      rwa [List.length_append, List.length_singleton] at this
    · rw [get_blk]
  rcases g with ⟨rfl, h2, h3⟩ | ⟨b, blk, rfl, hpos, hLb, hbk, hbe, hcl, hbn, hrows⟩
  · have hz : z = [] := List.length_eq_zero_iff.1 h2
    subst hz
    refine ⟨.nsl, _, _, .sl ⟨false, hp.length + 1, 0⟩ 1 .grow, hp ++ [some (blkOf 3 [.i .i64 c])] ++ [some (blkOf 3 [.i .i64 c])], rfl, s1, ?_, res _ rfl, kp _, by simp, nb⟩
    have hb1 : Nat.beq 1 0 = false := rfl
    simp only [stepM, stepK, opd, st_app, src, hb1, cond_false, fits_small (by omega : 1 ≤ 1000000) (by omega : 8 ≤ 1000), cond_true, newB, St.mm, List.length_append, List.length_cons, List.length_nil, Nat.zero_add]
  · have hrow : blk.c.row (0 + 0 * 1) ((z.length - 0) * 1) = z.map (AVal.i .i64) := row_row _ _ _ (by simp) fun j hj => by rw [Nat.zero_mul, Nat.zero_add]; exact hrows j (by omega)
    refine ⟨_, _, _, .sl ⟨false, hp.length + 1, 0⟩ (z.length + 1) .grow, hp ++ [some (blkOf 3 [.i .i64 c])] ++ [some (blkOf 3 (z.map (AVal.i .i64) ++ [.i .i64 c]))], cut_grow hk, s1, ?_, res _ (by simp), kp _, by simp, nb⟩
    have e1 : Nat.ble (z.length - 0 + 1) (z.length - 0) = false := by
      cases hh : Nat.ble (z.length - 0 + 1) (z.length - 0)
      · rfl
      · rw [Nat.ble_eq] at hh; omega
    have hb : rdB ro (hp ++ [some (blkOf 3 [.i .i64 c])]) ⟨false, b, 0 + 0 * 1⟩ = some blk := rdB_heap (lget_ext hbk _) _
    have e2 : (Nat.ble (0 + 0 * 1 + (z.length - 0) * 1) blk.n && fits (z.length - 0 + 1) 8) = true := by
      rw [fits_small (by omega : z.length - 0 + 1 ≤ 1000000) (by omega : 8 ≤ 1000)]
      simp [Nat.ble_eq]; omega
    simp only [stepM, stepK, opd, st_app, src, app_known, e1, cond_false, hb, e2, cond_true, newB, St.mm, List.length_append, List.length_singleton, hrow]
    rfl
/-- those that begin with an hour from i on -/
def restX (T : Nat) (X : Nat → Nat → Nat) (k : Nat) (now : List Int) (i : Nat) : List (List Int) := (((qcx T).drop i).filter (fitB T X now)).flatMap fun h => ext (fitB T X) T k (now ++ [h])
theorem hoursL_drop {T i : Nat} (hi : i < T) : (qcx T).drop i = (i : Int) :: (qcx T).drop (i + 1) := by
  have hl : i < (qcx T).length := by simpa [qcx] using hi
  rw [List.drop_eq_getElem_cons hl]
  simp [qcx]
theorem restX_end {T : Nat} {X : Nat → Nat → Nat} {k : Nat} {now : List Int} : restX T X k now T = [] := by
  have : (qcx T).drop T = [] := List.drop_eq_nil_of_le (by simp [qcx])
  simp [restX, this]
theorem restX_step {T : Nat} {X : Nat → Nat → Nat} {k : Nat} {now : List Int} {i : Nat} (hi : i < T) : restX T X k now i = (if fitB T X now (i : Int) then ext (fitB T X) T k (now ++ [(i : Int)]) else []) ++ restX T X k now (i + 1) := by
  unfold restX
  rw [hoursL_drop hi, List.filter_cons]
  by_cases h : fitB T X now (i : Int) = true
  · rw [if_pos h, if_pos h, List.flatMap_cons]
  · rw [if_neg h, if_neg h, List.nil_append]
theorem restX_zero {T : Nat} {X : Nat → Nat → Nat} {k : Nat} {now : List Int} : restX T X k now 0 = ext (fitB T X) T (k + 1) now := by simp [restX, ext]
theorem hz_snoc {t : Int} {z : List Int} {x : Int} (h : Hz t z) (hx : 0 ≤ x ∧ x < t) : Hz t (z ++ [x]) := by
  intro i hi
  rw [List.length_append, List.length_singleton] at hi
  rcases Nat.lt_or_ge i z.length with h1 | h1
  · have := h i h1
    rw [show (z ++ [x]).getD i 0 = z.getD i 0 by simp [List.getD, List.getElem?_append_left h1]]; exact this
  · obtain rfl : i = z.length := by omega
    simpa [List.getD] using hx
/-- what an answer is -/
def FirstR (ro : List ABlk) (L : Nat) (hp : Heap) (u : AVal) : Option (List Int) → Prop
  | none => u = .nsl
  | some z => IsRow ro hp u z ∧ u ≠ .nsl ∧ u.bel L = false
theorem nilcmp_ne {u : AVal} {ro : List ABlk} {hp : Heap} {z : List Int} (r : IsRow ro hp u z) (hn : u ≠ .nsl) : evP .e (.nilcmp true (.c u)) = some (.b true) := by
  rcases r with ⟨rfl, -⟩ | ⟨q, cap, blk, rfl, -⟩
  · exact absurd rfl hn
  · rfl
section
variable {ro : List ABlk} {T n : Nat} {X : Nat → Nat → Nat} {m : AVal}
/-- one that has no room left -/
theorem first45_end {h : Heap} {v : AVal} {now : List Int} (g : GV h 0 3 1 v now.length (now.map (AVal.i .i64))) (hn : now.length = n) : callX F1 ro 45 [.i .i64 (T : Int), .i .i64 (n : Int), m, v] h = some (v, h, h.length, h.length) := by
  have r := g.row (ro := ro) rfl
  refine g45_ok (qat F1 ro) rfl ?_
  unfold g45
  have e : eqI (now.length : Int) (n : Int) = true := by rw [qbv]; simp [hn]
  simp only [qcs r, qah, asI_i, qam, e, cond_true, tupA]
  exact qcj (row_bel r)
theorem first45 (hT : 1 ≤ T ∧ T ≤ 24) (h6 : n ≤ 6) : ∀ (k : Nat) (h : Heap) (v : AVal) (now : List Int), GV h 0 3 1 v now.length (now.map (AVal.i .i64)) → IsMat ro h m (matX n X) → now.length + k = n → Hz (T : Int) now →
    ∃ u hp, callX F1 ro 45 [.i .i64 (T : Int), .i .i64 (n : Int), m, v] h = some (u, hp, h.length, h.length) ∧ Keep h hp ∧ ∀ L, L ≤ h.length → (k = 0 → v.bel L = false) → FirstR ro L hp u (ext (fitB T X) T k now).head?
  | 0, h, v, now, g, hm, hk, hz => by
    refine ⟨v, h, first45_end g hk, Keep.refl h, fun L hL hb => ?_⟩
    have hb := hb rfl
    show IsRow ro h v now ∧ v ≠ .nsl ∧ v.bel L = false
    exact ⟨g.row rfl, fun e => (by rw [e] at hb; cases hb), hb⟩
  | k + 1, h, v, now, g, hm, hk, hz => by
    have r := g.row (ro := ro) rfl
    have key : ∀ (j i : Nat) (hp : Heap), i + j = T → Keep h hp → ∃ o, loopX (fun s : Int × Mm => g45_b0 (qbt F1 ro) ro T n m v s.1 s.2) ((i : Int), ⟨hp, h.length, h.length⟩) = some o ∧
        match (restX T X k now i).head? with
        | none => ∃ hp', o = .inl ⟨hp', h.length, h.length⟩ ∧ Keep h hp'
        | some z => ∃ u hp', o = .inr (u, ⟨hp', h.length, h.length⟩) ∧ Keep h hp' ∧ IsRow ro hp' u z ∧ u ≠ .nsl ∧ ∀ L, L ≤ h.length → u.bel L = false := by
      intro j
      induction j with
      | zero =>
        intro i hp hi kp
        obtain rfl : i = T := by omega
        refine ⟨.inl ⟨hp, h.length, h.length⟩, qcf ?_, ?_⟩
        · simp only [g45_b0, qam, qbf, decide_eq_false (show ¬ ((i : Int) < (i : Int)) by omega), cond_false]
        · rw [restX_end]; exact ⟨hp, rfl, kp⟩
      | succ j ihj =>
        intro i hp hi kp
        have hf := cp (fits66 (X := X) (hh := (i : Int)) hT (mat_by hm kp) (row_by r kp) (by omega) h6 hz ⟨by omega, by omega⟩) kp.1 kp.1
        have hnext : Go.Vm.wr .i64 ((i : Int) + 1) = ((i + 1 : Nat) : Int) := by rw [wr_id' (by omega) (by omega)]; omega
        rw [restX_step (show i < T by omega)]
        by_cases hc : fitB T X now (i : Int) = true
        · rw [if_pos hc]
          obtain ⟨w, v2, hp2, v3, hp3, c1, c2, c3, g3, k3, n3, b3⟩ := cut_app (ro := ro) (l := h.length) (p := h.length) (g.by kp) (show now.length ≤ 1000 by omega) (i : Int)
          have g3' : GV hp3 0 3 1 v3 (now ++ [(i : Int)]).length ((now ++ [(i : Int)]).map (AVal.i .i64)) := by rw [List.length_append, List.length_singleton]; exact g3
          obtain ⟨u, hp4, e4, k4, f4⟩ := first45 hT h6 k hp3 v3 (now ++ [(i : Int)]) g3' (mat_by hm (kp.trans k3)) (by simp; omega) (hz_snoc hz ⟨by omega, by omega⟩)
          have e4' := qdf (call := callX F1 ro) (m := ⟨hp3, h.length, h.length⟩) e4
          have hle : h.length ≤ hp3.length := (kp.trans k3).1
          rw [Nat.min_eq_left hle] at e4'
          have f4 := fun L (hL : L ≤ h.length) => f4 L (by omega) fun _ => b3 L (by have := kp.1; omega)
          have k04 : Keep h hp4 := (kp.trans k3).trans k4
          cases hh : (ext (fitB T X) T k (now ++ [(i : Int)])).head? with
          | none =>
            rw [hh] at f4
            have hu : u = .nsl := f4 0 (Nat.zero_le _)
            subst hu
            have he : ext (fitB T X) T k (now ++ [(i : Int)]) = [] := List.head?_eq_none_iff.1 hh
            rw [he, List.nil_append]
            obtain ⟨o, o1, o2⟩ := ihj (i + 1) hp4 (by omega) k04
            refine ⟨o, qct ?_ o1, o2⟩
            have hn : evP .e (.nilcmp true (.c AVal.nsl)) = some (.b false) := rfl
            simp only [g45_b0, qam, qbf, decide_eq_true (show ((i : Int) < (T : Int)) by omega), cond_true, qav, hf, qal, asB_b, hc, qcs r, qah, asI_i, c1, c2, c3, e4', hn, cond_false, qax, hnext]
          | some z =>
            rw [hh] at f4
            obtain ⟨f1, f2, -⟩ := f4 0 (Nat.zero_le _)
            rw [List.head?_append, hh]
            refine ⟨.inr (u, ⟨hp4, h.length, h.length⟩), qcf ?_, u, hp4, rfl, k04, f1, f2, fun L hL => (f4 L hL).2.2⟩
            simp only [g45_b0, qam, qbf, decide_eq_true (show ((i : Int) < (T : Int)) by omega), cond_true, qav, hf, qal, asB_b, hc, qcs r, qah, asI_i, c1, c2, c3, e4', nilcmp_ne f1 f2]
        · rw [if_neg hc, List.nil_append]
          obtain ⟨o, o1, o2⟩ := ihj (i + 1) hp (by omega) kp
          refine ⟨o, qct ?_ o1, o2⟩
          have hc : fitB T X now (i : Int) = false := by simpa using hc
          simp only [g45_b0, qam, qbf, decide_eq_true (show ((i : Int) < (T : Int)) by omega), cond_true, qav, hf, qal, asB_b, hc, cond_false, qah, qax, hnext]
    obtain ⟨o, o1, o2⟩ := key T 0 h (by omega) (Keep.refl h)
    rw [restX_zero] at o2
    have e0 : ((0 : Nat) : Int) = 0 := rfl
    rw [e0] at o1
    have e : eqI (now.length : Int) (n : Int) = false := by rw [qbv]; simp; omega
    cases hh : (ext (fitB T X) T (k + 1) now).head? with
    | none =>
      rw [hh] at o2
      obtain ⟨hp', rfl, kp⟩ := o2
      refine ⟨.nsl, h, g45_ok (qat F1 ro) rfl ?_, Keep.refl h, fun L hL _ => rfl⟩
      unfold g45
      simp only [qcs r, qah, asI_i, qam, e, cond_false, qbi, o1, tupA]
      exact qcn kp rfl
    | some z =>
      rw [hh] at o2
      obtain ⟨u, hp', rfl, kp, f1, f2, f3⟩ := o2
      refine ⟨u, hp', g45_ok (qat F1 ro) rfl ?_, kp, fun L hL _ => ⟨f1, f2, f3 L hL⟩⟩
      unfold g45
      simp only [qcs r, qah, asI_i, qam, e, cond_false, qbi, o1, tupA]
      exact fin_new (f3 h.length (Nat.le_refl _))
end
end Go.Proofs.YtddnpchfjdgigaaDoor.T

/- The reference's matrix of differences: how it is built. -/
open Go.Vm
set_option linter.unusedVariables false
namespace Go.Proofs.YtddnpchfjdgigaaDoor.T
open Go

abbrev rowV (n b : Nat) : AVal := .sl ⟨false, b, 0⟩ n (.known n)
/-- a matrix whose first k rows are there, each in a block of its own -/
structure MatH (hp : Heap) (L : Nat) (v : AVal) (n : Nat) (X : Nat → Nat → Nat) (bs : Nat → Nat) (k : Nat) : Prop where
  g : GV hp L 25 1 v k ((List.range k).map fun a => rowV n (bs a))
  r : ∀ a, a < k → L ≤ bs a ∧ bno v ≠ some (bs a) ∧ Holds hp (bs a) (ints (rowX n X a))
  d : ∀ a c, a < k → c < k → a ≠ c → bs a ≠ bs c
theorem MatH.mat {ro : List ABlk} {hp : Heap} {L : Nat} {v : AVal} {n : Nat} {X : Nat → Nat → Nat} {bs : Nat → Nat} (a : MatH hp L v n X bs n) : IsMat ro hp v (matX n X) := by
  have hrow : ∀ j, j < n → IsRow ro hp (rowV n (bs j)) (rowX n X j) := fun j hj => holds_row (a.r j hj).2.2 rfl rowX_len.symm
  rcases a.g with ⟨rfl, h2, -⟩ | ⟨b, blk, rfl, hpos, hLb, hbk, hbe, hcl, hbn, hrows⟩
  · exact .inl ⟨rfl, List.length_eq_zero_iff.1 (by rw [matX_len]; exact h2)⟩
  · refine .inr ⟨_, _, blk, by rw [matX_len], rdB_heap hbk 0, by rw [matX_len]; simpa using hbn, fun j hj => ?_⟩
    rw [matX_len] at hj
    rw [Nat.zero_add, hrows j (by omega), matX_get hj]
    have : ((List.range n).map fun a => rowV n (bs a)).getD j und = rowV n (bs j) := by simp [List.getD, hj]
    rw [this]
    exact hrow j hj
def updX (X : Nat → Nat → Nat) (a c x : Nat) : Nat → Nat → Nat := fun i j => if i = a ∧ j = c then x else X i j
theorem rowX_upd {n : Nat} {X : Nat → Nat → Nat} {a c x : Nat} (hc : c < n) : (ints (rowX n X a)).set c (.i .i64 (x : Int)) = ints (rowX n (updX X a c x) a) := by
  refine List.ext_getElem (by simp [ints, rowX]) fun j h1 h2 => ?_
  simp only [ints, rowX, updX, List.getElem_set, List.getElem_map, List.getElem_range, true_and]
  by_cases e : c = j
  · subst e; simp
  · rw [if_neg e, if_neg (fun h => e h.symm)]
theorem rowX_other {n : Nat} {X : Nat → Nat → Nat} {a b c x : Nat} (h : b ≠ a) : rowX n (updX X a c x) b = rowX n X b := by
  unfold rowX updX
  refine List.map_congr_left fun j _ => ?_
  rw [if_neg (fun e => h e.1)]
/-- the place of a set in a matrix -/
theorem MatH.at {ro : List ABlk} {hp : Heap} {L : Nat} {v : AVal} {n : Nat} {X : Nat → Nat → Nat} {bs : Nat → Nat} (g : MatH hp L v n X bs n) {a c : Nat} (ha : a < n) (hc : c < n) :
    ∃ p, evP .e (.ixS 1 (.c v) (.c (.i .i64 (a : Int)))) = some p ∧ (∀ l q, ldM ro ⟨hp, l, q⟩ true 1 p = some (rowV n (bs a))) ∧ ldA ro hp true 1 p = some (rowV n (bs a)) ∧
      evP .e (.ixS 1 (.c (rowV n (bs a))) (.c (.i .i64 (c : Int)))) = some (.p (some ⟨false, bs a, 0 + c⟩)) ∧
      (∀ l q, ldM ro ⟨hp, l, q⟩ true 1 (.p (some ⟨false, bs a, 0 + c⟩)) = some (.i .i64 ((X a c : Nat) : Int))) ∧ ldA ro hp true 1 (.p (some ⟨false, bs a, 0 + c⟩)) = some (.i .i64 ((X a c : Nat) : Int)) := by
  have hh := (g.r a ha).2.2
  have hv : (ints (rowX n X a)).getD c und = .i .i64 ((X a c : Nat) : Int) := by
    rw [map_getD (by rw [rowX_len]; exact hc), rowX_get hc]
  have hlen : c < (ints (rowX n X a)).length := by simp [ints, rowX_len]; exact hc
  rcases g.g with ⟨rfl, h2, -⟩ | ⟨b, blk, rfl, hpos, hLb, hbk, hbe, hcl, hbn, hrows⟩
  · omega
  · have hb := rdB_heap (ro := ro) hbk 0
    have h1 := rd_one (ro := ro) (i := a) hb (by show 0 + a < blk.n; omega)
    have hc0 : blk.c.get (0 + a) = rowV n (bs a) := by
      rw [Nat.zero_add, hrows a (by omega)]; simp [List.getD, ha]
    refine ⟨_, ixS_eq ha, fun l q => ?_, ?_, ixS_eq hc, fun l q => ?_, ?_⟩
    · rw [← hc0]; exact h1
    · have := rdB_lt hb
      simp only [ldA, this, cond_true]
      rw [← hc0]; exact h1
    · rw [hh.one hlen, hv]
    · rw [hh.oneA hlen, hv]
/-- a set is written -/
theorem MatH.put {h hp hp' : Heap} {v : AVal} {n : Nat} {X : Nat → Nat → Nat} {bs : Nat → Nat} (g : MatH hp h.length v n X bs n) {a c x : Nat} (ha : a < n) (hc : c < n)
    (hw : Holds hp' (bs a) ((ints (rowX n X a)).set c (.i .i64 (x : Int)))) (ho : ∀ i, i ≠ bs a → hp'[i]? = hp[i]?) : MatH hp' h.length v n (updX X a c x) bs n := by
  refine ⟨g.g.byB fun i _ hi => ho i fun e => (g.r a ha).2.1 (by rw [← e]; exact hi), fun b hb => ?_, g.d⟩
  obtain ⟨r1, r2, r3⟩ := g.r b hb
  refine ⟨r1, r2, ?_⟩
  by_cases e : b = a
  · subst e
    rw [rowX_upd hc] at hw
    exact hw
  · rw [rowX_other e]
    exact r3.keep (ho _ (g.d b a hb ha e))
theorem MatH.by {hp hp' : Heap} {L : Nat} {v : AVal} {n : Nat} {X : Nat → Nat → Nat} {bs : Nat → Nat} {k : Nat} (g : MatH hp L v n X bs k) (kp : Keep hp hp') : MatH hp' L v n X bs k :=
  ⟨g.g.by kp, fun a ha => ⟨(g.r a ha).1, (g.r a ha).2.1, (g.r a ha).2.2.by kp⟩, g.d⟩
/-- where nothing is known -/
def topX (T : Nat) : Nat → Nat → Nat := fun a c => if a = c then 1 else allN T
theorem topX_row {T n a : Nat} (ha : a < n) : (fillV (fun _ => ((allN T : Nat) : Int)) n n).set a (.i .i64 1) = ints (rowX n (topX T) a) := by
  refine List.ext_getElem (by simp [ints, rowX, fillV]) fun j h1 h2 => ?_
  simp only [ints, rowX, topX, fillV, List.getElem_set, List.getElem_map, List.getElem_range]
  have : j < n := by simpa [ints, rowX] using h2
  by_cases e : a = j
  · subst e; simp
  · rw [if_neg e, if_neg e, if_pos this]
theorem shl_mask {T : Nat} (hT : T ≤ 24) : shlV .i64 1 (T : Int) = ((2 ^ T : Nat) : Int) ∧ Go.Vm.wr .i64 (((2 ^ T : Nat) : Int) - 1) = ((allN T : Nat) : Int) := by
  have hp := qcq hT
  constructor
  · have := shl64 (a := 1) (c := T) (by omega) (by omega)
    rw [Nat.one_mul] at this
    exact this
  · have := Nat.two_pow_pos T
    rw [wr_id' (by omega) (by omega)]
    unfold allN; omega
theorem loop46a {ro : List ABlk} {h : Heap} {T n : Nat} {v : AVal} (hT : 1 ≤ T ∧ T ≤ 24) (h6 : n ≤ 6) :
    ∃ w hp bs, loopX (fun s : AVal × Int × Mm => g46_b0 (qbt F1 ro) ro (T : Int) (n : Int) v s.1 s.2.1 s.2.2) (AVal.nsl, 0, ⟨h, h.length, h.length⟩) = some (w, ⟨hp, h.length, h.length⟩) ∧ Keep h hp ∧ MatH hp h.length w n (topX T) bs n := by
  have hlp := loopX_rule (b := fun s : AVal × Int × Mm => g46_b0 (qbt F1 ro) ro (T : Int) (n : Int) v s.1 s.2.1 s.2.2)
    (fun s => ∃ i : Nat, s.2.1 = (i : Int) ∧ i ≤ n ∧ ∃ hp, s.2.2 = ⟨hp, h.length, h.length⟩ ∧ Keep h hp ∧ ∃ bs, MatH hp h.length s.1 n (topX T) bs i)
    (fun r => ∃ hp, r.2 = ⟨hp, h.length, h.length⟩ ∧ Keep h hp ∧ ∃ bs, MatH hp h.length r.1 n (topX T) bs n) (fun s => n - s.2.1.toNat) ?_ (AVal.nsl, 0, ⟨h, h.length, h.length⟩) ⟨0, rfl, by omega, h, rfl, Keep.refl h, fun _ => 0, GV.nil _ _ _ _, fun a ha => by omega, fun a c ha => by omega⟩
  · obtain ⟨⟨w, m⟩, h1, hp, hm, kp, bs, g⟩ := hlp
    simp only at hm g
    subst hm
    exact ⟨w, hp, bs, h1, kp, g⟩
  · rintro ⟨w, x8, m⟩ ⟨i, hi1, hi2, hp, hm, kp, bs, g⟩
    simp only at hi1 hm g ⊢
    subst hi1 hm
    by_cases hc : i < n
    · left
      have hmk := mk_ok (ro := ro) (hp := hp) (l := h.length) (p := h.length) (e := 3) (es := 1) (bytes := 8) (v := .i .i64 0) (n := n) (by omega) (by omega)
      have hnb : newBlk 3 (.i .i64 0) n = blkOf 3 (fillV (fun _ => ((allN T : Nat) : Int)) n 0) := by unfold newBlk; rw [fillV_zero (fun _ => ((allN T : Nat) : Int))]
      rw [hnb] at hmk
      have d1 := Holds.new hp 3 (fillV (fun _ => ((allN T : Nat) : Int)) n 0)
      have kx : Keep hp (hp ++ [some (blkOf 3 (fillV (fun _ => ((allN T : Nat) : Int)) n 0))]) := Keep.app _
      have hlen1 : (hp ++ [some (blkOf 3 (fillV (fun _ => ((allN T : Nat) : Int)) n 0))]).length = hp.length + 1 := by simp
      generalize hp ++ [some (blkOf 3 (fillV (fun _ => ((allN T : Nat) : Int)) n 0))] = hp1 at *
      obtain ⟨hs, hm⟩ := shl_mask hT.2
      have hloop := loop_all (b := fun s : Int × Mm => g46_b1 (qbt F1 ro) ro (T : Int) (n : Int) v w (i : Int) (rowV n hp.length) s.1 s.2) n (fun j m => m.lw = h.length ∧ m.lp = h.length ∧ Keep h m.h ∧ Holds m.h hp.length (fillV (fun _ => ((allN T : Nat) : Int)) n j) ∧ m.h.length = hp1.length ∧ ∀ q, q ≠ hp.length → m.h[q]? = hp1[q]?) ?_ ?_ n 0 ⟨hp1, h.length, h.length⟩ (by omega) ⟨rfl, rfl, kp.trans kx, d1, rfl, fun _ _ => rfl⟩
      · obtain ⟨⟨hp2, lw, lp⟩, l1, q1, q2, q3, q4, q5, q6⟩ := hloop
        simp only at q1 q2 q3 q4 q5 q6
        subst q1 q2
        obtain ⟨hp3, w1, w2, w3, w4, w5⟩ := q4.set (ro := ro) (h := h) (k := i) (v := .i .i64 1) (by rw [fillV_len]; exact hc) rfl rfl rfl kp.1 q3
        rw [Nat.mul_one] at w1
        rw [topX_row hc] at w2
        have hbw : ∀ q, bno w = some q → q < hp.length := fun q hq => (g.g.bno q hq).2
        have g3 : GV hp3 h.length 25 1 w i ((List.range i).map fun a => rowV n (bs a)) := (g.g.by kx).byB fun q _ hq => by
          have := hbw q hq
          rw [w4 q (by omega), q6 q (by omega)]
        obtain ⟨v2, hp4, v3, hp5, l3, p3, b3, s1, s2, s3, s4, s5, s6, s7, s8, s9, s10, s11⟩ := GV.pushS (ro := ro) (L0 := h.length) (P0 := h.length) (bytes := 24) (z := [.nsl]) (w := rowV n hp.length) (ws := [rowV n hp.length]) g3 (by rw [w3, q5, hlen1]; have := kp.1; omega) (by omega) (by omega) (by omega) rfl rfl rfl rfl rfl
        obtain rfl : l3 = h.length := Nat.le_antisymm s9 (s8 (Nat.le_refl _))
        obtain rfl : p3 = h.length := Nat.le_antisymm s11 (s10 (Nat.le_refl _))
        have h35 : hp3.length = hp.length + 1 := by rw [w3, q5, hlen1]
        have k5 : Keep h hp5 := ⟨by have := kp.1; omega, fun q hq => by
          have hL := kp.1
          rw [s7 q (by omega) (fun e => by have := (g.g.bno q e).1; omega), w5.2 q hq]⟩
        refine ⟨(v3, ((i + 1 : Nat) : Int), ⟨hp5, h.length, h.length⟩), ?_, ⟨i + 1, rfl, by omega, hp5, rfl, k5, fun a => if a = i then hp.length else bs a, ?_, ?_, ?_⟩, by simp only; omega⟩
        · simp only [g46_b0, qam, qbf, lt_yes hc, cond_true, hmk, qal, qbi]
          refine (qbe l1).trans ?_
          simp only [ixS_eq hc, qah, w1, qal, s1, s2, qax]
          rw [qdd (by omega)]
        · rw [List.range_succ, List.map_append, List.map_singleton, if_pos rfl]
          have : (List.range i).map (fun a => rowV n (if a = i then hp.length else bs a)) = (List.range i).map fun a => rowV n (bs a) := List.map_congr_left fun a ha => by
            have := List.mem_range.1 ha
            rw [if_neg (by omega)]
          rw [this]
          exact s3
        · intro a ha
          by_cases e : a = i
          · subst e
            rw [if_pos rfl]
            refine ⟨kp.1, fun e => by rw [s4] at e; cases e; omega, w2.keep (s7 _ (by omega) fun e => by have := hbw _ e; omega)⟩
          · rw [if_neg e]
            obtain ⟨r1, r2, r3⟩ := g.r a (by omega)
            have hlt := r3.lt
            refine ⟨r1, fun e => by rw [s4] at e; cases e; omega, (r3.by kx).keep ?_⟩
            rw [s7 _ (by omega) r2, w4 _ (by omega), q6 _ (by omega)]
        · intro a c ha hc' hac
          by_cases e : a = i
          · rw [if_pos e, if_neg (by omega)]
            have := (g.r c (by omega)).2.2.lt
            omega
          · rw [if_neg e]
            have := (g.r a (by omega)).2.2.lt
            by_cases e2 : c = i
            · rw [if_pos e2]; omega
            · rw [if_neg e2]; exact g.d a c (by omega) (by omega) hac
      · rintro j ⟨hq, lw, lp⟩ hj ⟨q1, q2, q3, q4, q5, q6⟩
        simp only at q1 q2 q3 q4 q5 q6
        subst q1 q2
        obtain ⟨hr, w1, w2, w3, w4, w5⟩ := q4.set (ro := ro) (h := h) (k := j) (v := .i .i64 ((allN T : Nat) : Int)) (by rw [fillV_len]; exact hj) rfl rfl rfl kp.1 q3
        rw [Nat.mul_one] at w1
        rw [fillV_set (f := fun _ => ((allN T : Nat) : Int)) hj] at w2
        refine ⟨⟨hr, h.length, h.length⟩, ?_, rfl, rfl, w5, w2, by rw [w3, q5], fun q hq => by rw [w4 q hq, q6 q hq]⟩
        have hd := neg_ltI (a := T)
        rw [qbf] at hd
        simp only [g46_b1, qam, qbf, lt_yes hj, cond_true, hd, chk_true, qax, hs, hm, ixS_eq hj, qah, w1, qal]
        rw [qdd (by omega)]
      · rintro ⟨hq, lw, lp⟩ _
        simp only [g46_b1, qam, qbf, lt_no, cond_false]
    · right
      obtain rfl : i = n := by omega
      exact ⟨(w, ⟨hp, h.length, h.length⟩), by simp only [g46_b0, qam, qbf, lt_no, cond_false], hp, rfl, kp, bs, g⟩
end Go.Proofs.YtddnpchfjdgigaaDoor.T

/- The reference's matrix of differences: what the spans allow. -/
open Go.Vm
set_option linter.unusedVariables false
namespace Go.Proofs.YtddnpchfjdgigaaDoor.T
open Go

/-- the remainders of the first numbers, as a set -/
def setD (T : Nat) (f : Nat → Int) : Nat → Nat
  | 0 => 0
  | k + 1 => setD T f k ||| 2 ^ (f k % (T : Int)).toNat
theorem setD_lt {T : Nat} (hT : 1 ≤ T) {f : Nat → Int} : ∀ k, setD T f k < 2 ^ T
  | 0 => Nat.two_pow_pos T
  | k + 1 => by
    unfold setD
    have h1 := Int.emod_nonneg (f k) (show (T : Int) ≠ 0 by omega)
    have h2 := Int.emod_lt_of_pos (f k) (show 0 < (T : Int) by omega)
    exact Nat.or_lt_two_pow (setD_lt hT k) (Nat.pow_lt_pow_right (by omega) (by omega))
theorem setD_bit {T : Nat} {f : Nat → Int} {i : Nat} : ∀ k, (setD T f k).testBit i = true ↔ ∃ j, j < k ∧ (f j % (T : Int)).toNat = i
  | 0 => by simp [setD]
  | k + 1 => by
    unfold setD
    rw [Nat.testBit_or, Bool.or_eq_true, setD_bit k, Nat.testBit_two_pow, decide_eq_true_eq]
    constructor
    · rintro (⟨j, h1, h2⟩ | h)
      · exact ⟨j, by omega, h2⟩
      · exact ⟨k, by omega, h⟩
    · rintro ⟨j, h1, h2⟩
      rcases Nat.lt_or_ge j k with h | h
      · exact .inl ⟨j, h, h2⟩
      · obtain rfl : j = k := by omega
        exact .inr h2
theorem shl1 {d : Nat} (hd : d ≤ 24) : shlV .i64 1 (d : Int) = ((2 ^ d : Nat) : Int) := (shl_mask hd).1
/-- what a span allows, there and back -/
def thereD (T : Nat) (s : Sp) : Nat := setD T (fun j => s.lo + (j : Int)) (s.hi - s.lo + 1).toNat
def backD (T : Nat) (s : Sp) : Nat := setD T (fun j => -(s.lo + (j : Int))) (s.hi - s.lo + 1).toNat
/-- the sets behind the first spans -/
def spanX (T : Nat) (l : List Sp) : Nat → Nat → Nat → Nat
  | 0 => topX T
  | i + 1 => updX (updX (spanX T l i) (l.getD i Sp.z).f.toNat (l.getD i Sp.z).t.toNat (spanX T l i (l.getD i Sp.z).f.toNat (l.getD i Sp.z).t.toNat &&& thereD T (l.getD i Sp.z)))
      (l.getD i Sp.z).t.toNat (l.getD i Sp.z).f.toNat (spanX T l i (l.getD i Sp.z).t.toNat (l.getD i Sp.z).f.toNat &&& backD T (l.getD i Sp.z))
theorem loop46d {ro : List ABlk} {h hq : Heap} {T n : Nat} {v w : AVal} {x : Int} {B : Nat} {s : Sp} (hT : 1 ≤ T ∧ T ≤ 24) (kp : Keep h hq) (d : Holds hq B s.vs) (hs : -600 ≤ s.lo ∧ s.lo ≤ 600 ∧ s.lo ≤ s.hi ∧ s.hi ≤ s.lo + T - 1) :
    loopX (fun z : Int × Int × Int × Mm => g46_b3 (qbt F1 ro) ro (T : Int) (n : Int) v w x (.p (some ⟨false, B, 0⟩)) z.1 z.2.1 z.2.2.1 z.2.2.2) (0, 0, s.lo, ⟨hq, h.length, h.length⟩) = some (((thereD T s : Nat) : Int), ((backD T s : Nat) : Int), ⟨hq, h.length, h.length⟩) := by
  have hK : (((s.hi - s.lo + 1).toNat : Nat) : Int) = s.hi - s.lo + 1 := by omega
  have b3 : ldM ro ⟨hq, h.length, h.length⟩ true 1 (.p (some ⟨false, B, 0 + 3⟩)) = some (.i .i64 s.hi) := d.one (ro := ro) (l := h.length) (p := h.length) (k := 3) (by simp)
  have hl := loop_run (b := fun z : Int × Int × Int × Mm => g46_b3 (qbt F1 ro) ro (T : Int) (n : Int) v w x (.p (some ⟨false, B, 0⟩)) z.1 z.2.1 z.2.2.1 z.2.2.2)
    (fun j => (((setD T (fun j => s.lo + (j : Int)) j : Nat) : Int), ((setD T (fun j => -(s.lo + (j : Int))) j : Nat) : Int), s.lo + (j : Int), (⟨hq, h.length, h.length⟩ : Mm))) (s.hi - s.lo + 1).toNat
    (r0 := (((thereD T s : Nat) : Int), ((backD T s : Nat) : Int), ⟨hq, h.length, h.length⟩)) ?_ fun j hj => ?_
  · have e : s.lo + (((0 : Nat) : Nat) : Int) = s.lo := by omega
    rw [e] at hl
    exact hl
  · have e : (!decide (s.hi < s.lo + (((s.hi - s.lo + 1).toNat : Nat) : Int))) = false := by rw [decide_eq_true (by omega)]; rfl
    simp only [g46_b3, qcl, qah, b3, asI_i, qam, qbf, e, cond_false]
    rfl
  · have hj' : (j : Int) ≤ s.hi - s.lo := by omega
    have m1 := Int.emod_nonneg (s.lo + (j : Int)) (show (T : Int) ≠ 0 by omega)
    have m2 := Int.emod_lt_of_pos (s.lo + (j : Int)) (show 0 < (T : Int) by omega)
    have m3 := Int.emod_nonneg (0 - (s.lo + (j : Int))) (show (T : Int) ≠ 0 by omega)
    have m4 := Int.emod_lt_of_pos (0 - (s.lo + (j : Int))) (show 0 < (T : Int) by omega)
    obtain ⟨a1, ha1⟩ : ∃ a : Nat, (s.lo + (j : Int)) % (T : Int) = (a : Int) := ⟨((s.lo + (j : Int)) % (T : Int)).toNat, by omega⟩
    obtain ⟨a2, ha2⟩ : ∃ a : Nat, (0 - (s.lo + (j : Int))) % (T : Int) = (a : Int) := ⟨((0 - (s.lo + (j : Int))) % (T : Int)).toNat, by omega⟩
    have c1 := cp (mod67 (ro := ro) (h := hq) (x := s.lo + (j : Int)) (t := (T : Int)) (by omega) (by omega)) kp.1 kp.1
    have c2 := cp (mod67 (ro := ro) (h := hq) (x := 0 - (s.lo + (j : Int))) (t := (T : Int)) (by omega) (by omega)) kp.1 kp.1
    rw [ha1] at c1
    rw [ha2] at c2
    have e1 : setD T (fun j => s.lo + (j : Int)) (j + 1) = setD T (fun j => s.lo + (j : Int)) j ||| 2 ^ a1 := by
      conv => lhs; unfold setD
      rw [ha1, Int.toNat_natCast]
    have e2 : setD T (fun j => -(s.lo + (j : Int))) (j + 1) = setD T (fun j => -(s.lo + (j : Int))) j ||| 2 ^ a2 := by
      conv => lhs; unfold setD
      rw [show -(s.lo + (j : Int)) = 0 - (s.lo + (j : Int)) by omega, ha2, Int.toNat_natCast]
    have p24 := qcq hT.2
    have l1 := setD_lt hT.1 (f := fun j => s.lo + (j : Int)) j
    have l2 := setD_lt hT.1 (f := fun j => -(s.lo + (j : Int))) j
    have q1 := qcq (show a1 ≤ 24 by omega)
    have q2 := qcq (show a2 ≤ 24 by omega)
    have o1 := or64 (a := setD T (fun j => s.lo + (j : Int)) j) (b := 2 ^ a1) (by omega) (by omega)
    have o2 := or64 (a := setD T (fun j => -(s.lo + (j : Int))) j) (b := 2 ^ a2) (by omega) (by omega)
    have d1 := neg_ltI (a := a1)
    have d2 := neg_ltI (a := a2)
    rw [qbf] at d1 d2
    have e : (!decide (s.hi < s.lo + (j : Int))) = true := by rw [decide_eq_false (by omega)]; rfl
    rw [e1, e2]
    simp only [g46_b3, qcl, qah, b3, asI_i, qam, qbf, e, cond_true, qav, c1, qal, d1, chk_true, shl1 (show a1 ≤ 24 by omega), qax, o1, wr_id' (x := 0 - (s.lo + (j : Int))) (by omega) (by omega), c2, d2, shl1 (show a2 ≤ 24 by omega), o2]
    rw [wr_id' (by omega) (by omega), show s.lo + (j : Int) + 1 = s.lo + ((j + 1 : Nat) : Int) by omega]
theorem topX_lt {T : Nat} (hT : 1 ≤ T) (a c : Nat) : topX T a c < 2 ^ T := by
  have h1 := Nat.two_pow_pos T
  have h2 : 2 ^ 1 ≤ 2 ^ T := Nat.pow_le_pow_right (by omega) hT
  unfold topX allN
  split <;> omega
theorem updX_lt {T : Nat} {X : Nat → Nat → Nat} {a c x : Nat} (h : ∀ i j, X i j < 2 ^ T) (hx : x < 2 ^ T) (i j : Nat) : updX X a c x i j < 2 ^ T := by
  unfold updX
  split
  · exact hx
  · exact h i j
theorem spanX_lt {T : Nat} (hT : 1 ≤ T) {l : List Sp} : ∀ (i a c : Nat), spanX T l i a c < 2 ^ T
  | 0, a, c => topX_lt hT a c
  | i + 1, a, c => by
    unfold spanX
    exact updX_lt (updX_lt (spanX_lt hT i) (Nat.lt_of_le_of_lt Nat.and_le_left (spanX_lt hT i _ _))) (Nat.lt_of_le_of_lt Nat.and_le_left (spanX_lt hT i _ _)) a c
theorem loop46b {ro : List ABlk} {h hp : Heap} {T n : Nat} {v w : AVal} {l : List Sp} {bs : Nat → Nat} (a : qbh ro h v l) (ok : Ok T n l) (kp : Keep h hp) (g : MatH hp h.length w n (topX T) bs n) :
    ∃ hp', loopX (fun s : Int × Mm => g46_b2 (qbt F1 ro) ro (T : Int) (n : Int) v w s.1 s.2) (0, ⟨hp, h.length, h.length⟩) = some ⟨hp', h.length, h.length⟩ ∧ Keep h hp' ∧ MatH hp' h.length w n (spanX T l l.length) bs n := by
  obtain ⟨r1, r2, r3, r4⟩ := ok.r
  have hT : 1 ≤ T ∧ T ≤ 24 := by omega
  have hlen := ok.len
  have hloop := loop_all (b := fun s : Int × Mm => g46_b2 (qbt F1 ro) ro (T : Int) (n : Int) v w s.1 s.2) l.length (fun i m => m.lw = h.length ∧ m.lp = h.length ∧ Keep h m.h ∧ MatH m.h h.length w n (spanX T l i) bs n) ?_ ?_ l.length 0 ⟨hp, h.length, h.length⟩ (by omega) ⟨rfl, rfl, kp, g⟩
  · obtain ⟨⟨hq, lw, lp⟩, h1, g1, g2, g3, g4⟩ := hloop
    simp only at g1 g2 g3 g4
    subst g1 g2
    exact ⟨hq, h1, g3, g4⟩
  · rintro i ⟨hq, lw, lp⟩ hi ⟨g1, g2, g3, g4⟩
    simp only at g1 g2 g3 g4
    subst g1 g2
    obtain ⟨q, q1, q2, q3, q4⟩ := at_span (a.by g3) hi
    have hs := ok.sp i hi
    have e0 : spanX T l (i + 1) = updX (updX (spanX T l i) (l.getD i Sp.z).f.toNat (l.getD i Sp.z).t.toNat (spanX T l i (l.getD i Sp.z).f.toNat (l.getD i Sp.z).t.toNat &&& thereD T (l.getD i Sp.z)))
      (l.getD i Sp.z).t.toNat (l.getD i Sp.z).f.toNat (spanX T l i (l.getD i Sp.z).t.toNat (l.getD i Sp.z).f.toNat &&& backD T (l.getD i Sp.z)) := rfl
    rw [e0]
    have hX := spanX_lt hT.1 (l := l) i
    generalize spanX T l i = X at *
    generalize l.getD i Sp.z = s at *
    unfold spOk at hs
    obtain ⟨f, hf⟩ : ∃ k : Nat, s.f = (k : Int) := ⟨s.f.toNat, by omega⟩
    obtain ⟨t, ht⟩ : ∃ k : Nat, s.t = (k : Int) := ⟨s.t.toNat, by omega⟩
    have hfn : f < n := by omega
    have htn : t < n := by omega
    have hft : f ≠ t := by omega
    obtain ⟨hq', s1, s2, s3, s4⟩ := tmp_span (ro := ro) g3 s
    have hal := al_ok (ro := ro) (hp := hq) (l := h.length) (p := h.length) 31 z4
    have k2 := g3.trans s3
    have m1 := g4.by s3
    have lf := (g4.r f hfn).2.2.lt
    have lt := (g4.r t htn).2.2.lt
    have b2 : ldM ro ⟨hq', h.length, h.length⟩ true 1 (.p (some ⟨false, hq.length, 0 + 2⟩)) = some (.i .i64 s.lo) := s2.one (ro := ro) (l := h.length) (p := h.length) (k := 2) (by simp)
    have b0 : ldA ro hq' true 1 (.p (some ⟨false, hq.length, 0 + 0⟩)) = some (.i .i64 s.f) := s2.oneA (ro := ro) (k := 0) (by simp)
    have b1 : ldA ro hq' true 1 (.p (some ⟨false, hq.length, 0 + 1⟩)) = some (.i .i64 s.t) := s2.oneA (ro := ro) (k := 1) (by simp)
    have l1 := loop46d (ro := ro) (n := n) (v := v) (w := w) (x := (i : Int)) hT k2 s2 ⟨by omega, by omega, by omega, by omega⟩
    rw [hf] at b0
    rw [ht] at b1
    have hth : thereD T s < 2 ^ T := setD_lt hT.1 _
    have hbk : backD T s < 2 ^ T := setD_lt hT.1 _
    have p24 := qcq hT.2
    -- there
    obtain ⟨p1, u1, -, u2, u3, -, u4⟩ := m1.at (ro := ro) hfn htn
    have a1 := and64 (a := X f t) (b := thereD T s) (by have := hX f t; omega) (by omega)
    obtain ⟨hr, w1, w2, w3, w4, w5⟩ := (m1.r f hfn).2.2.wr (ro := ro) (h := h) (k := t) (v := .i .i64 ((X f t &&& thereD T s : Nat) : Int)) (by simp [ints, rowX_len]; exact htn) rfl rfl rfl (m1.r f hfn).1 k2
    have m2 := m1.put hfn htn w2 w4
    have d2 := s2.keep (hp' := hr) (w4 _ (by omega))
    have c0 : ldA ro hr true 1 (.p (some ⟨false, hq.length, 0 + 0⟩)) = some (.i .i64 (f : Int)) := by rw [← hf]; exact d2.oneA (ro := ro) (k := 0) (by simp)
    have c1 : ldA ro hr true 1 (.p (some ⟨false, hq.length, 0 + 1⟩)) = some (.i .i64 (t : Int)) := by rw [← ht]; exact d2.oneA (ro := ro) (k := 1) (by simp)
    -- back
    obtain ⟨p2, x1, -, x2, x3, -, x4⟩ := m2.at (ro := ro) htn hfn
    have e1 : updX X f t (X f t &&& thereD T s) t f = X t f := by unfold updX; rw [if_neg (fun e => hft e.2)]
    rw [e1] at x4
    have a2 := and64 (a := X t f) (b := backD T s) (by have := hX t f; omega) (by omega)
    obtain ⟨hr2, y1, y2, y3, y4, y5⟩ := (m2.r t htn).2.2.wr (ro := ro) (h := h) (k := f) (v := .i .i64 ((X t f &&& backD T s : Nat) : Int)) (by simp [ints, rowX_len]; exact hfn) rfl rfl rfl (m2.r t htn).1 w5
    have m3 := m2.put htn hfn y2 y4
    refine ⟨⟨hr2, h.length, h.length⟩, ?_, rfl, rfl, y5, ?_⟩
    · unfold g46_b2
      refine (qbe (qcr a)).trans ?_
      simp only [asI_i, qam, qbf, lt_yes hi, cond_true, q1, q2, qah, hal, qal, s1, qcl, b2, qbi]
      refine (qbe l1).trans ?_
      simp only [b0, b1, qah, asI_i, u1, u2, u3, u4, qax, a1, asP_p, w1, c0, c1, x1, x2, x3, x4, a2, y1]
      rw [qdd (by omega)]
    · rw [show s.f.toNat = f by omega, show s.t.toNat = t by omega]
      exact m3
  · rintro ⟨hq, lw, lp⟩ _
    unfold g46_b2
    refine (qbe (qcr a)).trans ?_
    simp only [asI_i, qam, qbf, lt_no, cond_false]
end Go.Proofs.YtddnpchfjdgigaaDoor.T

/- The reference's matrix of differences: of three events only those are left that the third one allows, too. -/
open Go.Vm
set_option linter.unusedVariables false
namespace Go.Proofs.YtddnpchfjdgigaaDoor.T
open Go

def sumN (f : Nat → Nat) : Nat → Nat
  | 0 => 0
  | k + 1 => sumN f k + f k
theorem sumN_congr {f g : Nat → Nat} : ∀ k, (∀ i, i < k → f i = g i) → sumN f k = sumN g k
  | 0, _ => rfl
  | k + 1, h => by
    unfold sumN
    rw [sumN_congr k fun i hi => h i (by omega), h k (by omega)]
theorem sumN_one {f g : Nat → Nat} {a : Nat} (h : ∀ i, i ≠ a → f i = g i) : ∀ k, a < k → sumN f k + g a = sumN g k + f a
  | 0, ha => by omega
  | k + 1, ha => by
    unfold sumN
    by_cases e : a = k
    · subst e
      rw [sumN_congr a fun i hi => h i (by omega)]; omega
    · have := sumN_one h k (by omega)
      rw [h k (by omega)]; omega
/-- what gets less -/
def massX (n : Nat) (X : Nat → Nat → Nat) : Nat := sumN (fun i => sumN (fun j => X i j) n) n
theorem massX_upd {n : Nat} {X : Nat → Nat → Nat} {a c x : Nat} (ha : a < n) (hc : c < n) : massX n (updX X a c x) + X a c = massX n X + x := by
  have h1 := sumN_one (f := fun j => updX X a c x a j) (g := fun j => X a j) (a := c) (fun j hj => by simp only [updX]; rw [if_neg (fun e => hj e.2)]) n hc
  have h2 := sumN_one (f := fun i => sumN (fun j => updX X a c x i j) n) (g := fun i => sumN (fun j => X i j) n) (a := a) (fun i hi => sumN_congr n fun j _ => by simp only [updX]; rw [if_neg (fun e => hi e.1)]) n ha
  have e : updX X a c x a c = x := by simp [updX]
  simp only [e] at h1
  unfold massX
  omega
/-- all plans' differences are in the sets -/
def SoundX (T n : Nat) (l : List Sp) (X : Nat → Nat → Nat) : Prop := ∀ z, PlanP (T : Int) (n : Int) l z → ∀ i j, i < n → j < n → (X i j).testBit (((z.getD j 0 - z.getD i 0) % (T : Int)).toNat) = true
def LtX (T : Nat) (X : Nat → Nat → Nat) : Prop := ∀ i j, X i j < 2 ^ T
def SubX (X Y : Nat → Nat → Nat) : Prop := ∀ i j d, (X i j).testBit d = true → (Y i j).testBit d = true
/-- what a step makes of the sets -/
structure RelX (T n : Nat) (l : List Sp) (X : Nat → Nat → Nat) (f : Bool) (X' : Nat → Nat → Nat) (f' : Bool) : Prop where
  sub : SubX X' X
  snd : SoundX T n l X → SoundX T n l X'
  lt : LtX T X → LtX T X'
  le : massX n X' ≤ massX n X
  fl : f' = true → f = true ∨ massX n X' < massX n X
theorem RelX.refl {T n : Nat} {l : List Sp} {X : Nat → Nat → Nat} {f : Bool} : RelX T n l X f X f := ⟨fun _ _ _ h => h, fun h => h, fun h => h, Nat.le_refl _, .inl⟩
theorem RelX.trans {T n : Nat} {l : List Sp} {X Y Z : Nat → Nat → Nat} {f g k : Bool} (a : RelX T n l X f Y g) (b : RelX T n l Y g Z k) : RelX T n l X f Z k :=
  ⟨fun i j d h => a.sub i j d (b.sub i j d h), fun h => b.snd (a.snd h), fun h => b.lt (a.lt h), Nat.le_trans b.le a.le, fun h => by
    rcases b.fl h with h1 | h1
    · rcases a.fl h1 with h2 | h2
      · exact .inl h2
      · exact .inr (Nat.lt_of_le_of_lt b.le h2)
    · exact .inr (Nat.lt_of_lt_of_le h1 a.le)⟩
theorem tog_sound {T A B : Nat} (hT : 1 ≤ T ∧ T ≤ 24) (hB : B < 2 ^ T) {x y z : Int} (h1 : A.testBit (((y - x) % (T : Int)).toNat) = true) (h2 : B.testBit (((z - y) % (T : Int)).toNat) = true) : (togN T A B T).testBit (((z - x) % (T : Int)).toNat) = true := by
  have n0 : (T : Int) ≠ 0 := by omega
  have p0 : 0 < (T : Int) := by omega
  have a1 := Int.emod_nonneg (y - x) n0
  have a2 := Int.emod_lt_of_pos (y - x) p0
  have b1 := Int.emod_nonneg (z - x) n0
  have b2 := Int.emod_lt_of_pos (z - x) p0
  refine (togN_bit T).2 ⟨((y - x) % (T : Int)).toNat, by omega, h1, ?_⟩
  rw [rot_at hT.2 hB (by omega) (by omega)]
  have e : (((((z - x) % (T : Int)).toNat : Nat) : Int) - ((((y - x) % (T : Int)).toNat : Nat) : Int)) % (T : Int) = (z - y) % (T : Int) := by
    rw [Int.toNat_of_nonneg a1, Int.toNat_of_nonneg b1, Int.sub_emod_emod, Int.emod_sub_emod]
    congr 1; omega
  rw [e]; exact h2
theorem step_rel {T n : Nat} {l : List Sp} {X : Nat → Nat → Nat} {f : Bool} {a b c : Nat} (hT : 1 ≤ T ∧ T ≤ 24) (hX : LtX T X) (ha : a < n) (hb : b < n) (hc : c < n) :
    RelX T n l X f (updX X a c (X a c &&& togN T (X a b) (X b c) T)) (f || decide ((X a c &&& togN T (X a b) (X b c) T) ≠ X a c)) := by
  have hle : X a c &&& togN T (X a b) (X b c) T ≤ X a c := Nat.and_le_left
  have hm := massX_upd (X := X) (x := X a c &&& togN T (X a b) (X b c) T) ha hc
  refine ⟨fun i j d h => ?_, fun h z hz i j hi hj => ?_, fun h => updX_lt h (Nat.lt_of_le_of_lt hle (h a c)), by omega, fun h => ?_⟩
  · unfold updX at h
    split at h
    · rename_i e
      rw [Nat.testBit_and, Bool.and_eq_true] at h
      rw [e.1, e.2]; exact h.1
    · exact h
  · unfold updX
    split
    · rename_i e
      rw [e.1, e.2, Nat.testBit_and, Bool.and_eq_true]
      exact ⟨h z hz a c ha hc, tog_sound hT (hX b c) (h z hz a b ha hb) (h z hz b c hb hc)⟩
    · exact h z hz i j hi hj
  · rw [Bool.or_eq_true, decide_eq_true_eq] at h
    rcases h with h | h
    · exact .inl h
    · right; omega
section
variable {ro : List ABlk} {h : Heap} {T n : Nat} {w : AVal} {l : List Sp} {bs : Nat → Nat}
/-- a loop that takes such steps -/
theorem loop_rel {b : Bool × Int × Mm → Option ((Bool × Int × Mm) ⊕ (Bool × Mm))}
    (hin : ∀ (i : Nat) (f : Bool) (hq : Heap) (X : Nat → Nat → Nat), i < n → Keep h hq → MatH hq h.length w n X bs n → LtX T X → ∃ f' hq' X', b (f, (i : Int), ⟨hq, h.length, h.length⟩) = some (.inl (f', ((i + 1 : Nat) : Int), ⟨hq', h.length, h.length⟩)) ∧ Keep h hq' ∧ MatH hq' h.length w n X' bs n ∧ RelX T n l X f X' f')
    (hout : ∀ f m, b (f, (n : Int), m) = some (.inr (f, m))) :
    ∀ (k i : Nat) (f : Bool) (hq : Heap) (X : Nat → Nat → Nat), i + k = n → Keep h hq → MatH hq h.length w n X bs n → LtX T X → ∃ f' hq' X', loopX b (f, (i : Int), ⟨hq, h.length, h.length⟩) = some (f', ⟨hq', h.length, h.length⟩) ∧ Keep h hq' ∧ MatH hq' h.length w n X' bs n ∧ RelX T n l X f X' f'
  | 0, i, f, hq, X, hi, kp, g, hX => by
    obtain rfl : i = n := by omega
    exact ⟨f, hq, X, qcf (hout f _), kp, g, RelX.refl⟩
  | k + 1, i, f, hq, X, hi, kp, g, hX => by
    obtain ⟨f1, h1, X1, e1, k1, g1, r1⟩ := hin i f hq X (by omega) kp g hX
    obtain ⟨f2, h2, X2, e2, k2, g2, r2⟩ := loop_rel hin hout k (i + 1) f1 h1 X1 (by omega) k1 g1 (r1.lt hX)
    exact ⟨f2, h2, X2, qct e1 e2, k2, g2, r1.trans r2⟩
theorem in46_7 (hT : 1 ≤ T ∧ T ≤ 24) {a b : Nat} (ha : a < n) (hb : b < n) (h6 : n ≤ 6) (i : Nat) (f : Bool) (hq : Heap) (X : Nat → Nat → Nat) (hi : i < n) (kp : Keep h hq) (g : MatH hq h.length w n X bs n) (hX : LtX T X) :
    ∃ f' hq' X', g46_b7 (qbt F1 ro) ro (T : Int) (n : Int) w (a : Int) (b : Int) f (i : Int) ⟨hq, h.length, h.length⟩ = some (.inl (f', ((i + 1 : Nat) : Int), ⟨hq', h.length, h.length⟩)) ∧ Keep h hq' ∧ MatH hq' h.length w n X' bs n ∧ RelX T n l X f X' f' := by
  obtain ⟨p1, u1, u2, u3, u4, u5, u6⟩ := g.at (ro := ro) ha hi
  obtain ⟨p2, v1, v2, v3, v4, v5, v6⟩ := g.at (ro := ro) ha hb
  obtain ⟨p3, x1, x2, x3, x4, x5, x6⟩ := g.at (ro := ro) hb hi
  have hc := callN_pure (together68 (ro := ro) (h := hq) hT.2 (hX a b) (hX b i)) (by simp [AVal.bel, bels]) rfl
  have p24 := qcq hT.2
  have t1 := togN_lt (T := T) (A := X a b) (B := X b i) T
  have a1 := and64 (a := X a i) (b := togN T (X a b) (X b i) T) (by have := hX a i; omega) (by omega)
  obtain ⟨hr, w1, w2, w3, w4, w5⟩ := (g.r a ha).2.2.set (ro := ro) (h := h) (k := i) (v := .i .i64 ((X a i &&& togN T (X a b) (X b i) T : Nat) : Int)) (by simp [ints, rowX_len]; exact hi) rfl rfl rfl (g.r a ha).1 kp
  rw [Nat.mul_one] at w1
  refine ⟨f || decide ((X a i &&& togN T (X a b) (X b i) T) ≠ X a i), hr, updX X a i (X a i &&& togN T (X a b) (X b i) T), ?_, w5, g.put ha hi w2 w4, step_rel hT hX ha hb hi⟩
  rw [v1] at u1
  cases u1
  have e : (!eqI ((X a i &&& togN T (X a b) (X b i) T : Nat) : Int) ((X a i : Nat) : Int)) = decide ((X a i &&& togN T (X a b) (X b i) T) ≠ X a i) := by
    rw [qbv]
    by_cases hh : X a i &&& togN T (X a b) (X b i) T = X a i
    · rw [hh, decide_eq_false (fun hn => hn rfl)]; simp
    · rw [decide_eq_true hh]
      have : ((((X a i &&& togN T (X a b) (X b i) T : Nat) : Int) == ((X a i : Nat) : Int))) = false := by
        rw [beq_eq_false_iff_ne]; omega
      rw [this]; rfl
  unfold g46_b7
  simp only [qam, qbf, lt_yes hi, cond_true, v1, v2, v3, u4, u5, u6, v4, v6, x1, x3, x4, x6, qah, asI_i, qav, hc, qax, a1, e]
  cases f
  · simp only [cond_false, qah, Bool.false_or, w1, qal]
    rw [qdd (by omega)]
  · simp only [cond_true, qah, Bool.true_or, w1, qal]
    rw [qdd (by omega)]
theorem in46_6 (hT : 1 ≤ T ∧ T ≤ 24) {a : Nat} (ha : a < n) (h6 : n ≤ 6) (i : Nat) (f : Bool) (hq : Heap) (X : Nat → Nat → Nat) (hi : i < n) (kp : Keep h hq) (g : MatH hq h.length w n X bs n) (hX : LtX T X) :
    ∃ f' hq' X', g46_b6 (qbt F1 ro) ro (T : Int) (n : Int) w (a : Int) f (i : Int) ⟨hq, h.length, h.length⟩ = some (.inl (f', ((i + 1 : Nat) : Int), ⟨hq', h.length, h.length⟩)) ∧ Keep h hq' ∧ MatH hq' h.length w n X' bs n ∧ RelX T n l X f X' f' := by
  obtain ⟨f', hq', X', e1, k1, g1, r1⟩ := loop_rel (l := l) (b := fun s : Bool × Int × Mm => g46_b7 (qbt F1 ro) ro (T : Int) (n : Int) w (a : Int) (i : Int) s.1 s.2.1 s.2.2) (fun j f hq X hj kp g hX => in46_7 hT ha hi h6 j f hq X hj kp g hX)
    (fun f m => by simp only [g46_b7, qam, qbf, lt_no, cond_false]) n 0 f hq X (by omega) kp g hX
  refine ⟨f', hq', X', ?_, k1, g1, r1⟩
  unfold g46_b6
  simp only [qam, qbf, lt_yes hi, cond_true, qbi]
  refine (qbe e1).trans ?_
  simp only [qax]
  rw [qdd (by omega)]
theorem in46_5 (hT : 1 ≤ T ∧ T ≤ 24) (h6 : n ≤ 6) (i : Nat) (f : Bool) (hq : Heap) (X : Nat → Nat → Nat) (hi : i < n) (kp : Keep h hq) (g : MatH hq h.length w n X bs n) (hX : LtX T X) :
    ∃ f' hq' X', g46_b5 (qbt F1 ro) ro (T : Int) (n : Int) w f (i : Int) ⟨hq, h.length, h.length⟩ = some (.inl (f', ((i + 1 : Nat) : Int), ⟨hq', h.length, h.length⟩)) ∧ Keep h hq' ∧ MatH hq' h.length w n X' bs n ∧ RelX T n l X f X' f' := by
  obtain ⟨f', hq', X', e1, k1, g1, r1⟩ := loop_rel (l := l) (b := fun s : Bool × Int × Mm => g46_b6 (qbt F1 ro) ro (T : Int) (n : Int) w (i : Int) s.1 s.2.1 s.2.2) (fun j f hq X hj kp g hX => in46_6 hT hi h6 j f hq X hj kp g hX)
    (fun f m => by simp only [g46_b6, qam, qbf, lt_no, cond_false]) n 0 f hq X (by omega) kp g hX
  refine ⟨f', hq', X', ?_, k1, g1, r1⟩
  unfold g46_b5
  simp only [qam, qbf, lt_yes hi, cond_true, qbi]
  refine (qbe e1).trans ?_
  simp only [qax]
  rw [qdd (by omega)]
theorem pass46 (hT : 1 ≤ T ∧ T ≤ 24) (h6 : n ≤ 6) (hq : Heap) (X : Nat → Nat → Nat) (kp : Keep h hq) (g : MatH hq h.length w n X bs n) (hX : LtX T X) :
    ∃ f' hq' X', g46_b4 (qbt F1 ro) ro (T : Int) (n : Int) w true ⟨hq, h.length, h.length⟩ = some (.inl (f', ⟨hq', h.length, h.length⟩)) ∧ Keep h hq' ∧ MatH hq' h.length w n X' bs n ∧ RelX T n l X false X' f' := by
  obtain ⟨f', hq', X', e1, k1, g1, r1⟩ := loop_rel (l := l) (b := fun s : Bool × Int × Mm => g46_b5 (qbt F1 ro) ro (T : Int) (n : Int) w s.1 s.2.1 s.2.2) (fun j f hq X hj kp g hX => in46_5 hT h6 j f hq X hj kp g hX)
    (fun f m => by simp only [g46_b5, qam, qbf, lt_no, cond_false]) n 0 false hq X (by omega) kp g hX
  refine ⟨f', hq', X', ?_, k1, g1, r1⟩
  unfold g46_b4
  simp only [cond_true, qbi]
  exact (qbe e1).trans rfl
theorem loop46c (hT : 1 ≤ T ∧ T ≤ 24) (h6 : n ≤ 6) : ∀ (s : Nat) (hq : Heap) (X : Nat → Nat → Nat), massX n X ≤ s → Keep h hq → MatH hq h.length w n X bs n → LtX T X →
    ∃ hq' X', loopX (fun s : Bool × Mm => g46_b4 (qbt F1 ro) ro (T : Int) (n : Int) w s.1 s.2) (true, ⟨hq, h.length, h.length⟩) = some ⟨hq', h.length, h.length⟩ ∧ Keep h hq' ∧ MatH hq' h.length w n X' bs n ∧ SubX X' X ∧ (SoundX T n l X → SoundX T n l X') ∧ LtX T X'
  | s, hq, X, hs, kp, g, hX => by
    obtain ⟨f', hq', X', e1, k1, g1, r1⟩ := pass46 (ro := ro) (l := l) hT h6 hq X kp g hX
    cases f' with
    | false =>
      exact ⟨hq', X', qct e1 (qcf rfl), k1, g1, r1.sub, r1.snd, r1.lt hX⟩
    | true =>
      have hlt : massX n X' < massX n X := by
        rcases r1.fl rfl with h | h
        · cases h
        · exact h
      match s, hs with
      | 0, hs => omega
      | s + 1, hs =>
        obtain ⟨hq2, X2, e2, k2, g2, s2, n2, l2⟩ := loop46c hT h6 s hq' X' (by omega) k1 g1 (r1.lt hX)
        exact ⟨hq2, X2, qct e1 e2, k2, g2, fun i j d h => r1.sub i j d (s2 i j d h), fun h => n2 (r1.snd h), l2⟩
end
end Go.Proofs.YtddnpchfjdgigaaDoor.T

/- The lists that fit are the plans. -/
open Go.Vm
set_option linter.unusedVariables false
namespace Go.Proofs.YtddnpchfjdgigaaDoor.T
open Go

/-- what a span allows, by its slack -/
theorem there_bit {T : Nat} {s : Sp} (hT : 1 ≤ T ∧ T ≤ 24) (hs : s.lo ≤ s.hi ∧ s.hi ≤ s.lo + T - 1) (x : Int) : (thereD T s).testBit ((x % (T : Int)).toNat) = true ↔ (x - s.lo) % (T : Int) ≤ s.hi - s.lo := by
  have n0 : (T : Int) ≠ 0 := by omega
  have p0 : 0 < (T : Int) := by omega
  have a1 := Int.emod_nonneg x n0
  have a2 := Int.emod_nonneg (x - s.lo) n0
  have a3 := Int.emod_lt_of_pos (x - s.lo) p0
  unfold thereD
  rw [setD_bit]
  constructor
  · rintro ⟨j, h1, h2⟩
    have b1 := Int.emod_nonneg (s.lo + (j : Int)) n0
    have e : (s.lo + (j : Int)) % (T : Int) = x % (T : Int) := by omega
    have e2 : (x - s.lo) % (T : Int) = (j : Int) % (T : Int) := by
      rw [← Int.emod_sub_emod, ← e, Int.emod_sub_emod]; congr 1; omega
    rw [e2, Int.emod_eq_of_lt (by omega) (by omega)]; omega
  · intro h
    refine ⟨((x - s.lo) % (T : Int)).toNat, by omega, ?_⟩
    have e : (s.lo + ((((x - s.lo) % (T : Int)).toNat : Nat) : Int)) % (T : Int) = x % (T : Int) := by
      rw [Int.toNat_of_nonneg a2, Int.add_comm, Int.emod_add_emod]; congr 1; omega
    rw [e]
theorem neg_mod {T : Nat} (hT : 1 ≤ T) {x y : Int} (h : x % (T : Int) = y % (T : Int)) : (-x) % (T : Int) = (-y) % (T : Int) := by
  have e1 : (0 - x % (T : Int)) % (T : Int) = (0 - x) % (T : Int) := Int.sub_emod_emod ..
  have e2 : (0 - y % (T : Int)) % (T : Int) = (0 - y) % (T : Int) := Int.sub_emod_emod ..
  rw [h, e2] at e1
  rw [show -x = 0 - x by omega, show -y = 0 - y by omega, e1]
theorem back_bit {T : Nat} {s : Sp} (hT : 1 ≤ T ∧ T ≤ 24) (hs : s.lo ≤ s.hi ∧ s.hi ≤ s.lo + T - 1) (x : Int) : (backD T s).testBit (((-x) % (T : Int)).toNat) = true ↔ (x - s.lo) % (T : Int) ≤ s.hi - s.lo := by
  rw [← there_bit hT hs x]
  have n0 : (T : Int) ≠ 0 := by omega
  unfold backD thereD
  rw [setD_bit, setD_bit]
  have a1 := Int.emod_nonneg x n0
  have a2 := Int.emod_nonneg (-x) n0
  constructor
  · rintro ⟨j, h1, h2⟩
    have b1 := Int.emod_nonneg (s.lo + (j : Int)) n0
    have b2 := Int.emod_nonneg (-(s.lo + (j : Int))) n0
    have e : (-(s.lo + (j : Int))) % (T : Int) = (-x) % (T : Int) := by omega
    have := neg_mod hT.1 e
    rw [Int.neg_neg, Int.neg_neg] at this
    exact ⟨j, h1, by rw [this]⟩
  · rintro ⟨j, h1, h2⟩
    have b1 := Int.emod_nonneg (s.lo + (j : Int)) n0
    have b2 := Int.emod_nonneg (-(s.lo + (j : Int))) n0
    have e : (s.lo + (j : Int)) % (T : Int) = x % (T : Int) := by omega
    exact ⟨j, h1, by rw [neg_mod hT.1 e]⟩
section
variable {T n : Nat} {l : List Sp}
theorem spanX_mono (i : Nat) : SubX (spanX T l (i + 1)) (spanX T l i) := by
  intro a c d h
  have e : spanX T l (i + 1) = updX (updX (spanX T l i) (l.getD i Sp.z).f.toNat (l.getD i Sp.z).t.toNat (spanX T l i (l.getD i Sp.z).f.toNat (l.getD i Sp.z).t.toNat &&& thereD T (l.getD i Sp.z)))
      (l.getD i Sp.z).t.toNat (l.getD i Sp.z).f.toNat (spanX T l i (l.getD i Sp.z).t.toNat (l.getD i Sp.z).f.toNat &&& backD T (l.getD i Sp.z)) := rfl
  rw [e] at h
  unfold updX at h
  split at h
  · rename_i e1
    rw [Nat.testBit_and, Bool.and_eq_true] at h
    rw [e1.1, e1.2]; exact h.1
  · split at h
    · rename_i e1
      rw [Nat.testBit_and, Bool.and_eq_true] at h
      rw [e1.1, e1.2]; exact h.1
    · exact h
theorem spanX_top : ∀ i, SubX (spanX T l i) (topX T)
  | 0 => fun _ _ _ h => h
  | i + 1 => fun a c d h => spanX_top i a c d (spanX_mono i a c d h)
theorem spanX_at (ok : Ok (T : Int) (n : Int) l) {m d : Nat} (hm : m < l.length) : ∀ i, m < i → i ≤ l.length →
    ((spanX T l i (l.getD m Sp.z).f.toNat (l.getD m Sp.z).t.toNat).testBit d = true → (thereD T (l.getD m Sp.z)).testBit d = true) ∧
    ((spanX T l i (l.getD m Sp.z).t.toNat (l.getD m Sp.z).f.toNat).testBit d = true → (backD T (l.getD m Sp.z)).testBit d = true)
  | 0, h, _ => by omega
  | i + 1, h, hi => by
    rcases Nat.lt_or_ge m i with h1 | h1
    · obtain ⟨g1, g2⟩ := spanX_at ok hm i h1 (by omega)
      exact ⟨fun hh => g1 (spanX_mono i _ _ _ hh), fun hh => g2 (spanX_mono i _ _ _ hh)⟩
    · obtain rfl : m = i := by omega
      have hs := ok.sp m hm
      have e : spanX T l (m + 1) = updX (updX (spanX T l m) (l.getD m Sp.z).f.toNat (l.getD m Sp.z).t.toNat (spanX T l m (l.getD m Sp.z).f.toNat (l.getD m Sp.z).t.toNat &&& thereD T (l.getD m Sp.z)))
        (l.getD m Sp.z).t.toNat (l.getD m Sp.z).f.toNat (spanX T l m (l.getD m Sp.z).t.toNat (l.getD m Sp.z).f.toNat &&& backD T (l.getD m Sp.z)) := rfl
      rw [e]
      unfold spOk at hs
      generalize l.getD m Sp.z = s at *
      have hne : s.f.toNat ≠ s.t.toNat := by omega
      constructor
      · intro hh
        unfold updX at hh
        rw [if_neg (fun e => hne e.1), if_pos ⟨rfl, rfl⟩, Nat.testBit_and, Bool.and_eq_true] at hh
        exact hh.2
      · intro hh
        unfold updX at hh
        rw [if_pos ⟨rfl, rfl⟩, Nat.testBit_and, Bool.and_eq_true] at hh
        exact hh.2
theorem span_sound (ok : Ok (T : Int) (n : Int) l) : ∀ i, i ≤ l.length → SoundX T n l (spanX T l i)
  | 0, _ => fun z hz a c ha hc => by
    obtain ⟨r1, r2, r3, r4⟩ := ok.r
    show (topX T a c).testBit _ = true
    have a1 := Int.emod_nonneg (z.getD c 0 - z.getD a 0) (show (T : Int) ≠ 0 by omega)
    have a2 := Int.emod_lt_of_pos (z.getD c 0 - z.getD a 0) (show 0 < (T : Int) by omega)
    unfold topX
    split
    · rename_i e
      subst e
      rw [Int.sub_self, Int.zero_emod]; rfl
    · rw [allN_bit, decide_eq_true_eq]; omega
  | i + 1, hi => fun z hz a c ha hc => by
    obtain ⟨r1, r2, r3, r4⟩ := ok.r
    have ih := span_sound ok i (by omega) z hz
    have hs := ok.sp i (by omega)
    have hk := hz.2.2 i (by omega)
    have e : spanX T l (i + 1) = updX (updX (spanX T l i) (l.getD i Sp.z).f.toNat (l.getD i Sp.z).t.toNat (spanX T l i (l.getD i Sp.z).f.toNat (l.getD i Sp.z).t.toNat &&& thereD T (l.getD i Sp.z)))
      (l.getD i Sp.z).t.toNat (l.getD i Sp.z).f.toNat (spanX T l i (l.getD i Sp.z).t.toNat (l.getD i Sp.z).f.toNat &&& backD T (l.getD i Sp.z)) := rfl
    rw [e]
    unfold spOk at hs
    unfold keeps qcu hourP at hk
    generalize l.getD i Sp.z = s at *
    unfold updX
    split
    · rename_i e1
      rw [Nat.testBit_and, Bool.and_eq_true]
      refine ⟨by have := ih a c ha hc; rw [e1.1, e1.2] at this ⊢; exact this, ?_⟩
      have := (back_bit (T := T) (s := s) (by omega) (by omega) (z.getD s.t.toNat 0 - z.getD s.f.toNat 0)).2 hk
      rw [e1.1, e1.2, show z.getD s.f.toNat 0 - z.getD s.t.toNat 0 = -(z.getD s.t.toNat 0 - z.getD s.f.toNat 0) by omega]
      exact this
    · split
      · rename_i e1
        rw [Nat.testBit_and, Bool.and_eq_true]
        refine ⟨by have := ih a c ha hc; rw [e1.1, e1.2] at this ⊢; exact this, ?_⟩
        have := (there_bit (T := T) (s := s) (by omega) (by omega) (z.getD s.t.toNat 0 - z.getD s.f.toNat 0)).2 hk
        rw [e1.1, e1.2]
        exact this
      · exact ih a c ha hc
end
end Go.Proofs.YtddnpchfjdgigaaDoor.T

/- The lists that fit are the plans; Plan of the reference. -/
open Go.Vm
set_option linter.unusedVariables false
namespace Go.Proofs.YtddnpchfjdgigaaDoor.T
open Go

section
variable {T n : Nat} {l : List Sp} {X : Nat → Nat → Nat}
/-- all differences of a list are in the sets -/
def FitAll (T : Nat) (X : Nat → Nat → Nat) (z : List Int) : Prop := ∀ i q, i < q → q < z.length → (X i q).testBit (((z.getD q 0 - z.getD i 0) % (T : Int)).toNat) = true
theorem fit_kept (ok : Ok (T : Int) (n : Int) l) (hs : SubX X (spanX T l l.length)) (hn : SoundX T n l X) {z : List Int} (hz : HoursP (T : Int) (n : Int) z) (h0 : z.getD 0 0 = 0) : FitAll T X z ↔ KeptP (T : Int) l z := by
  obtain ⟨r1, r2, r3, r4⟩ := ok.r
  constructor
  · intro h m hm
    have hsp := ok.sp m hm
    have hat := fun d => spanX_at (d := d) ok hm l.length hm (Nat.le_refl _)
    have hl := hz.1
    unfold spOk at hsp
    unfold keeps qcu hourP
    generalize l.getD m Sp.z = s at *
    rcases Nat.lt_or_ge s.f.toNat s.t.toNat with h1 | h1
    · have := (hat _).1 (hs _ _ _ (h s.f.toNat s.t.toNat h1 (by omega)))
      exact (there_bit (by omega) (by omega) _).1 this
    · have := (hat _).2 (hs _ _ _ (h s.t.toNat s.f.toNat (by omega) (by omega)))
      rw [show z.getD s.f.toNat 0 - z.getD s.t.toNat 0 = -(z.getD s.t.toNat 0 - z.getD s.f.toNat 0) by omega] at this
      exact (back_bit (by omega) (by omega) _).1 this
  · intro h i q hi hq
    have := hz.1
    exact hn z ⟨hz, h0, h⟩ i q (by omega) (by omega)
theorem fitB_nil {h : Int} : fitB T X [] h = (decide (h = 0) && decide (X 0 0 = 1)) := by
  have : fitP T X [] h := fun k hk => absurd hk (by simp)
  unfold fitB
  rw [decide_eq_true this]
  simp
theorem hours_zero (hT : 1 ≤ T) : (qcx T).filter (fun h => decide (h = 0)) = [0] := by
  have e : qcx T = 0 :: (qcx T).drop 1 := by
    have := hoursL_drop (T := T) (i := 0) (by omega)
    simpa using this
  rw [e, List.filter_cons]
  have : ((qcx T).drop 1).filter (fun h => decide (h = 0)) = [] := by
    refine List.filter_eq_nil_iff.2 fun a ha => ?_
    unfold qcx at ha
    rw [← List.map_drop] at ha
    obtain ⟨k, hk, rfl⟩ := List.mem_map.1 ha
    obtain ⟨j, hj, rfl⟩ := List.mem_iff_getElem.1 hk
    simp
    omega
  rw [this]; rfl
theorem okAll_fit {w : List Int} : okAll (fitB T X) [0] w = true ↔ FitAll T X (0 :: w) := by
  rw [okAll_iff]
  have key : ∀ j, j < w.length → (fitB T X ([0] ++ w.take j) (w.getD j 0) = true ↔ ∀ i, i < j + 1 → (X i (j + 1)).testBit ((((0 :: w).getD (j + 1) 0 - (0 :: w).getD i 0) % (T : Int)).toNat) = true) := by
    intro j hj
    have hl : ([0] ++ w.take j).length = j + 1 := by simp; omega
    have hg : ∀ i, i < j + 1 → ([0] ++ w.take j).getD i 0 = (0 :: w).getD i 0 := fun i hi => by
      cases i with
      | zero => rfl
      | succ i => simp [List.getD, List.getElem?_take, show i < j by omega]
    unfold fitB
    rw [hl, decide_eq_true (show 0 < j + 1 by omega), Bool.true_or, Bool.and_true, decide_eq_true_eq]
    unfold fitP
    rw [hl]
    constructor
    · intro h i hi
      have := h i hi
      rw [hg i hi] at this
      exact this
    · intro h i hi
      rw [hg i hi]
      exact h i hi
  constructor
  · intro h i q hi hq
    obtain ⟨j, rfl⟩ : ∃ j, q = j + 1 := ⟨q - 1, by omega⟩
    have hj : j < w.length := by simpa using hq
    exact (key j hj).1 (h j hj) i hi
  · intro h j hj
    exact (key j hj).2 fun i hi => h i (j + 1) hi (by simpa using hj)
theorem okAll_step (ok : Ok (T : Int) (n : Int) l) {w : List Int} (hw : ((0 :: w).length : Int) = n) : okAll (stepB T l) [0] w = true ↔ KeptP (T : Int) l (0 :: w) := by
  rw [okAll_iff, kept_iff ok hw]
  simp only [stepB, decide_eq_true_eq]
  constructor
  · intro h j hj1 hj2
    obtain ⟨j, rfl⟩ : ∃ k, j = k + 1 := ⟨j - 1, by omega⟩
    have := h j (by simpa using hj2)
    simpa using this
  · intro h j hj
    have := h (j + 1) (by omega) (by simp; omega)
    simpa using this
theorem fit_plans (ok : Ok (T : Int) (n : Int) l) (hs : SubX X (spanX T l l.length)) (hn : SoundX T n l X) : ext (fitB T X) T n [] = qcv T n l := by
  obtain ⟨r1, r2, r3, r4⟩ := ok.r
  obtain ⟨k, rfl⟩ : ∃ k, n = k + 1 := ⟨n - 1, by omega⟩
  have e1 : ext (fitB T X) T (k + 1) [] = ((qcx T).filter (fitB T X [])).flatMap fun h => ext (fitB T X) T k ([] ++ [h]) := rfl
  rw [e1]
  by_cases hx : X 0 0 = 1
  · have : fitB T X [] = fun h => decide (h = 0) := by
      funext h
      rw [fitB_nil, decide_eq_true hx, Bool.and_true]
    rw [this, hours_zero (by omega), List.flatMap_cons, List.flatMap_nil, List.append_nil, List.nil_append]
    show ext (fitB T X) T k [0] = ext (stepB T l) T k [0]
    rw [ext_eq, ext_eq]
    congr 1
    refine List.filter_congr fun w hw => ?_
    obtain ⟨h1, h2⟩ := allL_mem.1 hw
    rw [Bool.eq_iff_iff, okAll_fit, okAll_step ok (by simp [h1])]
    refine fit_kept ok hs hn ⟨by simp [h1], fun i hi => ?_⟩ rfl
    cases i with
    | zero => simp; omega
    | succ i => have := h2 i (by simp at hi; omega); simpa using this
  · have : fitB T X [] = fun _ => false := by
      funext h
      rw [fitB_nil, decide_eq_false hx, Bool.and_false]
    rw [this]
    have e2 : (qcx T).filter (fun _ => false) = [] := by simp
    rw [e2, List.flatMap_nil]
    cases hp : qcv T (k + 1) l with
    | nil => rfl
    | cons z zs =>
      exfalso
      have hz := (mem_plansL ok (z := z)).1 (by rw [hp]; simp)
      have h0 := hn z hz 0 0 (by omega) (by omega)
      rw [Int.sub_self, Int.zero_emod] at h0
      refine hx (Nat.eq_of_testBit_eq fun d => ?_)
      rw [Bool.eq_iff_iff]
      constructor
      · intro hd
        have := spanX_top l.length 0 0 d (hs 0 0 d hd)
        exact this
      · intro hd
        cases d with
        | zero => exact h0
        | succ d => rw [Nat.testBit_succ] at hd; simp at hd
end
section
variable {ro : List ABlk} {h : Heap} {T n : Nat} {v : AVal} {l : List Sp}
theorem diff46 (a : qbh ro h v l) (ok : Ok (T : Int) (n : Int) l) :
    ∃ w hp X bs, callX F1 ro 46 [.i .i64 (T : Int), .i .i64 (n : Int), v] h = some (w, hp, h.length, h.length) ∧ Keep h hp ∧ MatH hp h.length w n X bs n ∧ ext (fitB T X) T n [] = qcv T n l := by
  obtain ⟨r1, r2, r3, r4⟩ := ok.r
  have hT : 1 ≤ T ∧ T ≤ 24 := by omega
  obtain ⟨w, h1, bs, e1, k1, g1⟩ := loop46a (ro := ro) (h := h) (T := T) (n := n) (v := v) hT (by omega)
  obtain ⟨h2, e2, k2, g2⟩ := loop46b a ok k1 g1
  obtain ⟨h3, X, e3, k3, g3, s3, n3, l3⟩ := loop46c (ro := ro) (l := l) hT (by omega) _ h2 _ (Nat.le_refl _) k2 g2 (fun i j => spanX_lt hT.1 _ i j)
  refine ⟨w, h3, X, bs, g46_ok (qat F1 ro) rfl ?_, k3, g3, fit_plans ok s3 (n3 (span_sound ok _ (Nat.le_refl _)))⟩
  unfold g46
  simp only [qbi]
  refine (qbe e1).trans ?_
  refine (qbe e2).trans ?_
  refine (qbe e3).trans ?_
  rcases g3.g with ⟨-, h2', -⟩ | ⟨b, blk, rfl, hpos, hLb, -⟩
  · omega
  · have : (tupA [AVal.sl ⟨false, b, 0⟩ n .grow]).bel h.length = false := by
      show (AVal.sl ⟨false, b, 0⟩ n .grow).bel h.length = false
      rw [bel_bno rfl rfl]; exact decide_eq_false (by show ¬ b < h.length; omega)
    rw [fin_new this]
    rfl
end
theorem plan18 {ro : List ABlk} {h : Heap} {t n : Int} {v : AVal} {l : List Sp} (a : qbh ro h v l) : ∃ u hp, callX F1 ro 18 [.i .i64 t, .i .i64 n, v] h = some (.tup [u, .i .i64 (pnE t n l)], hp, h.length, h.length) ∧ Keep h hp ∧ IsRow ro hp u (pnR t n l) := by
  have h20 := cp0 (spans20 (t := t) (n := n) a)
  by_cases he : rdE t n l = 0
  · have ok := rdE_ok.1 he
    obtain ⟨r1, r2, r3, r4⟩ := ok.r
    obtain ⟨T, rfl⟩ : ∃ k : Nat, t = (k : Int) := ⟨t.toNat, by omega⟩
    obtain ⟨N, rfl⟩ : ∃ k : Nat, n = (k : Int) := ⟨n.toNat, by omega⟩
    obtain ⟨w, h1, X, bs, e1, k1, g1, f1⟩ := diff46 a ok
    obtain ⟨u, h2, e2, k2, f2⟩ := first45 (ro := ro) (X := X) (m := w) (show 1 ≤ T ∧ T ≤ 24 by omega) (show N ≤ 6 by omega) N h1 .nsl [] (GV.nil _ _ _ _) g1.mat (by simp) (fun i hi => absurd hi (by simp))
    rw [f1] at f2
    have f2 := f2 h.length k1.1 (fun e => by omega)
    have ep : plL (T : Int) (N : Int) l = qcv T N l := by unfold plL; rw [Int.toNat_natCast, Int.toNat_natCast]
    have c1 := qdf (call := callX F1 ro) (m := ⟨h, h.length, h.length⟩) e1
    rw [Nat.min_self] at c1
    have c2 := qdf (call := callX F1 ro) (m := ⟨h1, h.length, h.length⟩) e2
    rw [Nat.min_eq_left k1.1] at c2
    rw [he] at h20
    cases hh : (qcv T N l).head? with
    | none =>
      rw [hh] at f2
      have hu : u = .nsl := f2
      subst hu
      have hnil : qcv T N l = [] := List.head?_eq_none_iff.1 hh
      refine ⟨.nsl, h, g18_ok (qat F1 ro) rfl ?_, Keep.refl h, ?_⟩
      · have e : pnE (T : Int) (N : Int) l = 10 := by simp only [pnE, he, ep, hnil, if_true, List.isEmpty_nil]
        rw [e]
        have hn : evP .e (.nilcmp false (.c AVal.nsl)) = some (.b true) := rfl
        unfold g18
        simp only [qav, h20, qal, asI_i, qam, qbv, beq_self_eq_true, Bool.not_true, cond_false, c1, c2, hn, qah, asB_b, cond_true]
        exact qcn (k1.trans k2) rfl
      · have : pnR (T : Int) (N : Int) l = [] := by simp [pnR, ep, hnil]
        rw [this]; exact .inl ⟨rfl, rfl⟩
    | some z =>
      rw [hh] at f2
      obtain ⟨q1, q2, q3⟩ := f2
      obtain ⟨zs, hz⟩ : ∃ zs, qcv T N l = z :: zs := by
        cases hp : qcv T N l with
        | nil => rw [hp] at hh; cases hh
        | cons y ys => rw [hp] at hh; cases hh; exact ⟨ys, rfl⟩
      refine ⟨u, h2, g18_ok (qat F1 ro) rfl ?_, k1.trans k2, ?_⟩
      · have e : pnE (T : Int) (N : Int) l = 0 := by simp [pnE, he, ep, hz]
        rw [e]
        have hn : evP .e (.nilcmp false (.c u)) = some (.b false) := by
          rcases q1 with ⟨rfl, -⟩ | ⟨q, cap, blk, rfl, -⟩
          · exact absurd rfl q2
          · rfl
        unfold g18
        simp only [qav, h20, qal, asI_i, qam, qbv, beq_self_eq_true, Bool.not_true, cond_false, c1, c2, hn, qah, asB_b]
        have : (tupA [u, AVal.i .i64 0]).bel h.length = false := by
          simp only [tupA, AVal.bel, bels]
          rw [q3]; rfl
        rw [fin_new this]
        rfl
      · have : pnR (T : Int) (N : Int) l = z := by simp [pnR, he, ep, hz]
        rw [this]; exact q1
  · refine ⟨.nsl, h, g18_ok (qat F1 ro) rfl ?_, Keep.refl h, ?_⟩
    · have e : pnE t n l = rdE t n l := by simp only [pnE, he, if_false]
      rw [e]
      have e2 : (rdE t n l == 0) = false := by simpa using he
      unfold g18
      simp only [qav, h20, qal, asI_i, qam, qbv, e2, Bool.not_false, cond_true]
      exact qcj rfl
    · have : pnR t n l = [] := by simp only [pnR, he, if_false]
      rw [this]; exact .inl ⟨rfl, rfl⟩
end Go.Proofs.YtddnpchfjdgigaaDoor.T

/- found.plans: what is kept when one block changes. -/
open Go.Vm
set_option linter.unusedVariables false
namespace Go.Proofs.YtddnpchfjdgigaaDoor.T
open Go

/-- all that is in one is in the other -/
def Ext (h1 h2 : Heap) : Prop := ∀ i blk, lget h1 i = some (some blk) → lget h2 i = some (some blk)
def Er (b : Nat) (h : Heap) : Heap := h.set b none
theorem Ext.trans {a b c : Heap} (x : Ext a b) (y : Ext b c) : Ext a c := fun i blk h => y i blk (x i blk h)
theorem Ext.keep {a b : Heap} (k : Keep a b) : Ext a b := fun i blk h => by rw [lget_of (k.2 i (lget_lt h))]; exact h
theorem er_get {b i : Nat} {h : Heap} (hi : i ≠ b) : (Er b h)[i]? = h[i]? := List.getElem?_set_ne (Ne.symm hi)
theorem er_self {b : Nat} {h : Heap} {blk : ABlk} (e : lget (Er b h) b = some (some blk)) : False := by
  rw [qbs] at e
  unfold Er at e
  rw [List.getElem?_set] at e
  simp at e
/-- frames but one block -/
theorem ext_er {b : Nat} {h h' : Heap} (o : ∀ i, i < h.length → i ≠ b → h'[i]? = h[i]?) : Ext (Er b h) (Er b h') := fun i blk e => by
  by_cases hb : i = b
  · subst hb; exact (er_self e).elim
  · have hlt : i < h.length := by have := lget_lt e; simpa [Er] using this
    rw [lget_of (er_get hb)] at e ⊢
    rw [lget_of (o i hlt hb)]; exact e
theorem er_ext (b : Nat) (h : Heap) : Ext (Er b h) h := fun i blk e => by
  by_cases hb : i = b
  · subst hb; exact (er_self e).elim
  · rw [lget_of (er_get hb)] at e; exact e
section
variable {ro : List ABlk} {h1 h2 : Heap} {v : AVal}
theorem rdB_sub (x : Ext h1 h2) {q : Vm.Loc} {blk : ABlk} (h : rdB ro h1 q = some blk) : rdB ro h2 q = some blk := by
  unfold rdB at h ⊢
  cases hr : q.ro
  · rw [hr] at h
    simp only [cond_false] at h ⊢
    split at h
    · rename_i b e
      cases h
      rw [x _ _ e]
    · cases h
  · rw [hr] at h
    exact h
theorem row_sub (x : Ext h1 h2) {z : List Int} (r : IsRow ro h1 v z) : IsRow ro h2 v z := by
  rcases r with h | ⟨q, cap, blk, e, hb, h⟩
  · exact .inl h
  · exact .inr ⟨q, cap, blk, e, rdB_sub x hb, h⟩
theorem mat_sub (x : Ext h1 h2) {z : List (List Int)} (r : IsMat ro h1 v z) : IsMat ro h2 v z := by
  rcases r with h | ⟨q, cap, blk, e, hb, h, hr⟩
  · exact .inl h
  · exact .inr ⟨q, cap, blk, e, rdB_sub x hb, h, fun i hi => row_sub x (hr i hi)⟩
theorem spans_sub (x : Ext h1 h2) {l : List Sp} (r : qbh ro h1 v l) : qbh ro h2 v l := by
  rcases r with h | ⟨q, cap, blk, e, hb, h⟩
  · exact .inl h
  · exact .inr ⟨q, cap, blk, e, rdB_sub x hb, h⟩
theorem GV.sub (x : Ext h1 h2) {L e es k : Nat} {cs : List AVal} (g : GV h1 L e es v k cs) : GV h2 L e es v k cs := by
  rcases g with h | ⟨b, blk, h1', h2', h3, h4, h5⟩
  · exact .inl h
  · exact .inr ⟨b, blk, h1', h2', h3, x _ _ h4, h5⟩
theorem bno_ge {L i : Nat} (hb : v.bel L = false) (h : bno v = some i) : L ≤ i := by
  cases v <;> try cases h
  rename_i q n c
  have : (q.ro || Nat.blt q.b L) = false := hb
  rw [Bool.or_eq_false_iff] at this
  rcases Nat.lt_or_ge q.b L with h1 | h1
  · have h2 : Nat.blt q.b L = true := by rw [Nat.blt_eq]; exact h1
    rw [h2] at this; cases this.2
  · exact h1
end
/-- a cell of a block is written, from any memory -/
theorem Holds.stG {ro : List ABlk} {hp : Heap} {b k l p : Nat} {vs : List AVal} {v : AVal} (a : Holds hp b vs) (hk : k < vs.length) (hv : v.one = true) (hc : v.cells = [v]) :
    ∃ hp', stepM ro ⟨hp, l, p⟩ (.st 1 (.c (.p (some ⟨false, b, 0 + k⟩))) (.c v)) = some (und, ⟨hp', min l b, cond (nonp [v]) p (min p b)⟩) ∧ Holds hp' b (vs.set k v) ∧ hp'.length = hp.length ∧ ∀ i, i ≠ b → hp'[i]? = hp[i]? := by
  obtain ⟨blk, h1, h2, h3⟩ := a
  refine ⟨hp.set b (some { blk with c := blk.c.set k v }), ?_, ⟨_, lget_set h1 _, by simpa using h2, fun j hj => ?_⟩, by simp, fun i hi => List.getElem?_set_ne (Ne.symm hi)⟩
  · rw [Nat.zero_add]
    have hw := wrH_heap (hp := hp) (b := b) (off := k) h1 (by omega) hv
    simp only [stepM, stepK, opd, st_st, hc, List.length_cons, List.length_nil, Nat.zero_add, hw, St.mm]
    rfl
  · show (blk.c.set k v).get j = _
    rw [qbm]
    simp only [List.length_set] at hj
    by_cases e : k = j
    · subst e; simp [List.getD, hj]
    · rw [if_neg e, h3 j hj]
      simp [List.getD, List.getElem?_set_ne e]
/-- a list is copied -/
theorem copy_row {ro : List ABlk} {hp : Heap} {l p : Nat} {v : AVal} {z : List Int} (r : IsRow ro hp v z) (h0 : 0 < z.length) (hk : z.length ≤ 1000) :
    ∃ hp2 hp3, stepM ro ⟨hp, l, p⟩ (.bsl 3 1 [(AVal.i IntKind.i64 0)] 0 []) = some (.sl ⟨false, hp.length, 0⟩ 0 (.known 0), ⟨hp2, l, p⟩) ∧
      stepM ro ⟨hp2, l, p⟩ (.app 3 1 8 [(AVal.i IntKind.i64 0)] (.c (.sl ⟨false, hp.length, 0⟩ 0 (.known 0))) (.c v)) = some (.sl ⟨false, hp.length + 1, 0⟩ z.length .grow, ⟨hp3, l, p⟩) ∧ Keep hp hp3 ∧ Holds hp3 (hp.length + 1) (ints z) := by
  rcases r with ⟨-, hz⟩ | ⟨q, cap, blk, rfl, hb, hn, hg⟩
  · rw [hz] at h0; simp at h0
  · have hb2 : rdB ro (hp ++ [some (blkOf 3 [])]) q = some blk := rdB_ext _ hb
    have hrow : blk.c.row q.off (z.length * 1) = ints z := row_row _ _ _ (by simp) fun j hj => by
      rw [hg j (by omega), map_getD (by omega)]
    have hble : Nat.ble (q.off + z.length * 1) blk.n = true := by rw [Nat.ble_eq]; omega
    have src : app_src ro (hp ++ [some (blkOf 3 [])]) 1 (.sl q z.length cap) = some (ints z, z.length) := by
      simp only [app_src, hb2, hble, cond_true, hrow]
    refine ⟨hp ++ [some (blkOf 3 [])], hp ++ [some (blkOf 3 [])] ++ [some (blkOf 3 (ints z))], rfl, ?_, (Keep.app _).trans (Keep.app _), ?_⟩
    · have e1 : Nat.ble (0 + z.length) 0 = false := by
        cases hh : Nat.ble (0 + z.length) 0
        · rfl
        · rw [Nat.ble_eq] at hh; omega
      have hbe : rdB ro (hp ++ [some (blkOf 3 [])]) ⟨false, hp.length, 0⟩ = some (blkOf 3 []) := by simp [rdB, qbs]
      have e2 : (Nat.ble (0 + 0 * 1) (blkOf 3 []).n && fits (0 + z.length) 8) = true := by
        rw [fits_small (by omega : 0 + z.length ≤ 1000000) (by omega : 8 ≤ 1000)]
        rfl
      simp only [stepM, stepK, opd, st_app, src, app_known, e1, cond_false, hbe, e2, cond_true, newB, St.mm, List.length_append, List.length_singleton]
      have : (blkOf 3 ([] : List AVal)).c.row 0 (0 * 1) = [] := rfl
      rw [this, List.nil_append, Nat.zero_add]
    · have := Holds.new (hp ++ [some (blkOf 3 [])]) 3 (ints z)
      rwa [List.length_append, List.length_singleton] at this
end Go.Proofs.YtddnpchfjdgigaaDoor.T

/- found.plans: all lists that fit, one after another. -/
open Go.Vm
set_option linter.unusedVariables false
namespace Go.Proofs.YtddnpchfjdgigaaDoor.T
open Go

/-- what was found: how many, the best, its sum -/
structure Fd where
  many : Int
  best : List Int
  least : Int
def fdStep (t : Int) (l : List Sp) (s : Fd) (z : List Int) : Fd := if s.many + 1 = 1 ∨ qcb t l z < s.least then ⟨s.many + 1, z, qcb t l z⟩ else ⟨s.many + 1, s.best, s.least⟩
theorem fdStep_many (t : Int) (l : List Sp) (s : Fd) (z : List Int) : (fdStep t l s z).many = s.many + 1 := by
  unfold fdStep; split <;> rfl
theorem fd_many (t : Int) (l : List Sp) : ∀ (R : List (List Int)) (s : Fd), (R.foldl (fdStep t l) s).many = s.many + R.length
  | [], s => by simp
  | z :: R, s => by
    rw [List.foldl_cons, fd_many t l R, fdStep_many, List.length_cons]; omega
section
variable {ro : List ABlk} {T n : Nat} {X : Nat → Nat → Nat} {m lv : AVal} {l : List Sp} {b : Nat}
/-- what a call leaves -/
structure After (ro : List ABlk) (b : Nat) (hp : Heap) (bv : AVal) (hp' : Heap) (lw lp : Nat) (bv' : AVal) (s : Fd) : Prop where
  len : hp.length ≤ hp'.length
  fr : ∀ i, i < hp.length → i ≠ b → hp'[i]? = hp[i]?
  lw : b ≤ lw ∧ lw ≤ hp.length
  lp : lp = b ∨ (lp = hp.length ∧ bv' = bv)
  hold : Holds hp' b [.i .i64 s.many, bv', .i .i64 s.least]
  row : IsRow ro (Er b hp') bv' s.best
theorem nilm_p {tab} {q : Vm.Loc} : evP .e (.nilm tab (.c (.p (some q)))) = some (.p (some q)) := rfl
theorem sum69 {hp : Heap} {v : AVal} {now : List Int} {l0 p0 : Nat} (hT : 1 ≤ T ∧ T ≤ 24) (ok : Ok (T : Int) (n : Int) l) (ls : qbh ro hp lv l) (r : IsRow ro hp v now) (hz : Hz (T : Int) now) (hk : now.length = n) (h1 : l0 ≤ hp.length) (h2 : p0 ≤ hp.length) (w : AVal) :
    loopX (fun s : Int × Int × Mm => g69_b0 (qbt F1 ro) ro w (T : Int) lv v s.1 s.2.1 s.2.2) (0, 0, ⟨hp, l0, p0⟩) = some (qcb (T : Int) l now, ⟨hp, l0, p0⟩) := by
  have hlen := ok.len
  have hloop := loop_sum (b := fun s : Int × Int × Mm => g69_b0 (qbt F1 ro) ro w (T : Int) lv v s.1 s.2.1 s.2.2) l.length (fun i => qcu (T : Int) (l.getD i Sp.z) now) (fun i m => m = ⟨hp, l0, p0⟩) ?_ ?_ ⟨hp, l0, p0⟩ rfl
  · obtain ⟨m', e, h⟩ := hloop
    subst h
    exact e
  · rintro i m hi rfl
    obtain ⟨q, q1, q2, q3, q4⟩ := at_span ls hi
    have hs := ok.sp i hi
    have hsl := slackP_rng (show 1 ≤ (T : Int) by omega) (l.getD i Sp.z) now
    unfold spOk at hs
    have hc := cp (slack53 (ro := ro) (h := hp) (s := l.getD i Sp.z) ⟨by omega, by omega⟩ r hz ⟨by omega, by omega⟩ ⟨by omega, by omega⟩ ⟨by omega, by omega⟩) h1 h2
    have hsum : ∀ k, k ≤ l.length → 0 ≤ sumTo (fun i => qcu (T : Int) (l.getD i Sp.z) now) k ∧ sumTo (fun i => qcu (T : Int) (l.getD i Sp.z) now) k ≤ 24 * (k : Int) := by
      intro k
      induction k with
      | zero => intro _; simp [sumTo]
      | succ k ih =>
        intro hk'
        have := ih (by omega)
        have h3 := slackP_rng (show 1 ≤ (T : Int) by omega) (l.getD k Sp.z) now
        simp only [sumTo]
        omega
    have hb := hsum i (by omega)
    refine ⟨⟨hp, l0, p0⟩, ?_, rfl⟩
    simp only [g69_b0, qcr ls, qah, asI_i, qam, qbf, lt_yes hi, cond_true, q1, q2, qav, hc, qal, qax]
    rw [wr_id' (x := _ + qcu (T : Int) (l.getD i Sp.z) now) (by omega) (by omega), qdd (by omega)]
    rfl
  · rintro m rfl
    simp only [g69_b0, qcr ls, qah, asI_i, qam, qbf, lt_no, cond_false]
theorem leaf69 {hp : Heap} {v bv : AVal} {now : List Int} {s : Fd} (hT : 1 ≤ T ∧ T ≤ 24) (ok : Ok (T : Int) (n : Int) l) (ls : qbh ro (Er b hp) lv l) (r : IsRow ro (Er b hp) v now) (hz : Hz (T : Int) now) (hk : now.length = n)
    (hr : Holds hp b [.i .i64 s.many, bv, .i .i64 s.least]) (hb : IsRow ro (Er b hp) bv s.best) (hm : 0 ≤ s.many ∧ s.many + 1 ≤ 1000000) :
    ∃ hp' lw lp bv', callX F1 ro 69 [.p (some ⟨false, b, 0⟩), .i .i64 (T : Int), .i .i64 (n : Int), lv, m, v] hp = some (.tup [], hp', lw, lp) ∧ After ro b hp bv hp' lw lp bv' (fdStep (T : Int) l s now) := by
  obtain ⟨r1, r2, r3, r4⟩ := ok.r
  have hb0 := hr.lt
  have lsH := spans_sub (er_ext b hp) ls
  have rH := row_sub (er_ext b hp) r
  have hs := sum69 (w := .p (some ⟨false, b, 0⟩)) hT ok lsH rH hz hk (Nat.le_refl _) (Nat.le_refl _)
  have e : eqI (now.length : Int) (n : Int) = true := by rw [qbv]; simp [hk]
  have m0 : ∀ l0 p0, ldM ro ⟨hp, l0, p0⟩ true 1 (.p (some ⟨false, b, 0 + 0⟩)) = some (.i .i64 s.many) := fun l0 p0 => hr.one (k := 0) (by simp)
  obtain ⟨h1, w1, w2, w3, w4⟩ := hr.stG (ro := ro) (l := hp.length) (p := hp.length) (k := 0) (v := .i .i64 (s.many + 1)) (by simp) rfl rfl
  simp only [List.set_cons_zero] at w2
  have mn : min hp.length b = b := Nat.min_eq_right (Nat.le_of_lt hb0)
  have c1 : cond (nonp [AVal.i .i64 (s.many + 1)]) hp.length b = hp.length := rfl
  rw [mn, c1] at w1
  have m1 : ∀ l0 p0, ldM ro ⟨h1, l0, p0⟩ true 1 (.p (some ⟨false, b, 0 + 0⟩)) = some (.i .i64 (s.many + 1)) := fun l0 p0 => w2.one (k := 0) (by simp)
  have m2 : ∀ l0 p0, ldM ro ⟨h1, l0, p0⟩ true 1 (.p (some ⟨false, b, 0 + 2⟩)) = some (.i .i64 s.least) := fun l0 p0 => w2.one (k := 2) (by simp)
  have hw : Go.Vm.wr .i64 (s.many + 1) = s.many + 1 := wr_id' (by omega) (by omega)
  have hval : cond (eqI (s.many + 1) 1) (some true) (some (ltI (qcb (T : Int) l now) s.least)) = some (decide (s.many + 1 = 1 ∨ qcb (T : Int) l now < s.least)) := by
    rw [qbv, qbf]
    by_cases q : s.many + 1 = 1
    · rw [decide_eq_true (Or.inl q)]
      have : (s.many + 1 == 1) = true := by simpa using q
      rw [this]; rfl
    · have : (s.many + 1 == 1) = false := by simpa using q
      rw [this]
      show some (decide _) = _
      congr 1
      exact decide_eq_decide.2 ⟨.inr, fun h => h.resolve_left q⟩
  by_cases hc : s.many + 1 = 1 ∨ qcb (T : Int) l now < s.least
  · obtain ⟨h2, x1, x2, x3, x4⟩ := w2.stG (ro := ro) (l := b) (p := hp.length) (k := 2) (v := .i .i64 (qcb (T : Int) l now)) (by simp) rfl rfl
    have c2 : cond (nonp [AVal.i .i64 (qcb (T : Int) l now)]) hp.length (min hp.length b) = hp.length := rfl
    rw [Nat.min_self, c2] at x1
    have f02 : ∀ i, i < hp.length → i ≠ b → h2[i]? = hp[i]? := fun i _ hi => by rw [x4 i hi, w4 i hi]
    have rH2 := row_sub ((ext_er f02).trans (er_ext b h2)) r
    obtain ⟨h3, h4, y1, y2, y3, y4⟩ := copy_row (ro := ro) (l := b) (p := hp.length) rH2 (by omega) (by omega)
    have x2' : Holds h4 b [.i .i64 (s.many + 1), bv, .i .i64 (qcb (T : Int) l now)] := x2.by y3
    obtain ⟨h5, z1, z2, z3, z4⟩ := x2'.stG (ro := ro) (l := b) (p := hp.length) (k := 1) (v := .sl ⟨false, h2.length + 1, 0⟩ now.length .grow) (by simp) rfl rfl
    have c3 : cond (nonp [AVal.sl ⟨false, h2.length + 1, 0⟩ now.length .grow]) hp.length (min hp.length b) = b := by
      show min hp.length b = b; exact mn
    rw [Nat.min_self, c3] at z1
    have hl24 := y3.1
    have hfd : fdStep (T : Int) l s now = ⟨s.many + 1, now, qcb (T : Int) l now⟩ := by unfold fdStep; rw [if_pos hc]
    refine ⟨h5, b, b, .sl ⟨false, h2.length + 1, 0⟩ now.length .grow, g69_ok (qat F1 ro) rfl ?_, ?_⟩
    · unfold g69
      simp only [qcs rH, qah, asI_i, qam, e, cond_true, qbi]
      refine (qbe hs).trans ?_
      simp only [nilm_p, qcl, qah, m0, asI_i, qax, hw, w1, qal, m1, m2, qam, hval]
      rw [decide_eq_true hc]
      simp only [cond_true, x1, qal, y1, y2, z1, qah, tupA]
      have hb2 : Nat.ble hp.length b = false := by
        cases hh : Nat.ble hp.length b
        · rfl
        · rw [Nat.ble_eq] at hh; omega
      simp [finM, gc, hb2]
    · rw [hfd]
      refine ⟨by omega, fun i hi hib => by rw [z4 i hib, y3.2 i (by omega), f02 i hi hib], ⟨Nat.le_refl _, by omega⟩, .inl rfl, z2, ?_⟩
      refine holds_row (y4.keep ?_) rfl rfl
      rw [er_get (by omega), z4 _ (by omega)]
  · have hfd : fdStep (T : Int) l s now = ⟨s.many + 1, s.best, s.least⟩ := by unfold fdStep; rw [if_neg hc]
    have f01 : ∀ i, i < hp.length → i ≠ b → h1[i]? = hp[i]? := fun i _ hi => w4 i hi
    refine ⟨h1, b, hp.length, bv, g69_ok (qat F1 ro) rfl ?_, ?_⟩
    · unfold g69
      simp only [qcs rH, qah, asI_i, qam, e, cond_true, qbi]
      refine (qbe hs).trans ?_
      simp only [nilm_p, qcl, qah, m0, asI_i, qax, hw, w1, qal, m1, m2, qam, hval]
      rw [decide_eq_false hc]
      simp only [cond_false, qah, tupA]
      rw [fin_take rfl, ← w3, List.take_length]
    · rw [hfd]
      exact ⟨by omega, f01, ⟨by omega, Nat.le_of_lt hb0⟩, .inr ⟨rfl, rfl⟩, w2, row_sub (ext_er f01) hb⟩
theorem After.then {hp hp1 hp3 hp4 : Heap} {bv bv1 bv4 : AVal} {lw1 lp1 lw4 lp4 : Nat} {s1 s4 : Fd} (a : After ro b hp bv hp1 lw1 lp1 bv1 s1) (k : Keep hp1 hp3) (c : After ro b hp3 bv1 hp4 lw4 lp4 bv4 s4) (hb : b < hp.length) :
    After ro b hp bv hp4 (min lw1 lw4) (min lp1 lp4) bv4 s4 := by
  have h1 := a.len
  have h2 := k.1
  have h3 := c.len
  refine ⟨by omega, fun i hi hib => by rw [c.fr i (by omega) hib, k.2 i (by omega), a.fr i hi hib], ?_, ?_, c.hold, c.row⟩
  · have := a.lw; have := c.lw; omega
  · rcases a.lp with h | ⟨h, e⟩
    · left
      rcases c.lp with h' | ⟨h', -⟩ <;> omega
    · rcases c.lp with h' | ⟨h', e'⟩
      · left; omega
      · right; exact ⟨by omega, by rw [e', e]⟩
theorem plans69 (hT : 1 ≤ T ∧ T ≤ 24) (ok : Ok (T : Int) (n : Int) l) : ∀ (k : Nat) (hp : Heap) (v bv : AVal) (now : List Int) (s : Fd), now.length + k = n → Hz (T : Int) now → GV (Er b hp) 0 3 1 v now.length (now.map (AVal.i .i64)) → Holds hp b [.i .i64 s.many, bv, .i .i64 s.least] → IsMat ro (Er b hp) m (matX n X) → qbh ro (Er b hp) lv l → IsRow ro (Er b hp) bv s.best →
    0 ≤ s.many → s.many + (ext (fitB T X) T k now).length ≤ 1000000 →
    ∃ hp' lw lp bv', callX F1 ro 69 [.p (some ⟨false, b, 0⟩), .i .i64 (T : Int), .i .i64 (n : Int), lv, m, v] hp = some (.tup [], hp', lw, lp) ∧ After ro b hp bv hp' lw lp bv' ((ext (fitB T X) T k now).foldl (fdStep (T : Int) l) s)
  | 0, hp, v, bv, now, s, hk, hz, g, hr, hm, ls, hb, h0, hmany => leaf69 hT ok ls (g.row rfl) hz hk hr hb ⟨h0, by simpa [ext] using hmany⟩
  | k + 1, hp, v, bv, now, s, hk, hz, g, hr, hm, ls, hb, h0, hmany => by
    obtain ⟨r1, r2, r3, r4⟩ := ok.r
    have hlt := hr.lt
    have r := g.row (ro := ro) rfl
    have key : ∀ (j i : Nat) (hq : Heap) (lw lp : Nat) (bvq : AVal) (sq : Fd), i + j = T → After ro b hp bv hq lw lp bvq sq → 0 ≤ sq.many → sq.many + (restX T X k now i).length ≤ 1000000 →
        ∃ hq' lw' lp' bv', loopX (fun z : Int × Mm => g69_b3 (qbt F1 ro) ro (.p (some ⟨false, b, 0⟩)) (T : Int) (n : Int) lv m v z.1 z.2) ((i : Int), ⟨hq, lw, lp⟩) = some ⟨hq', lw', lp'⟩ ∧ After ro b hp bv hq' lw' lp' bv' ((restX T X k now i).foldl (fdStep (T : Int) l) sq) := by
      intro j
      induction j with
      | zero =>
        intro i hq lw lp bvq sq hi a q0 hq1
        obtain rfl : i = T := by omega
        refine ⟨hq, lw, lp, bvq, qcf ?_, by rw [restX_end]; exact a⟩
        simp only [g69_b3, qam, qbf, decide_eq_false (show ¬ ((i : Int) < (i : Int)) by omega), cond_false, qah]
      | succ j ihj =>
        intro i hq lw lp bvq sq hi a q0 hq1
        have xq : Ext (Er b hp) hq := (ext_er a.fr).trans (er_ext b hq)
        have hl := a.len
        have hw := a.lw
        have hlp : lp ≤ hp.length := by rcases a.lp with h | ⟨h, -⟩ <;> omega
        have hf := cp (fits66 (X := X) (hh := (i : Int)) hT (mat_sub xq hm) (row_sub xq r) (by omega) (by omega) hz ⟨by omega, by omega⟩) (show lw ≤ hq.length by omega) (show lp ≤ hq.length by omega)
        have hnext : Go.Vm.wr .i64 ((i : Int) + 1) = ((i + 1 : Nat) : Int) := by rw [wr_id' (by omega) (by omega)]; omega
        have hst := restX_step (T := T) (X := X) (k := k) (now := now) (show i < T by omega)
        have hm1 : ldM ro ⟨hq, lw, lp⟩ true 1 (.p (some ⟨false, b, 0 + 0⟩)) = some (.i .i64 sq.many) := a.hold.one (k := 0) (by simp)
        have hmx : (!decide ((1000000 : Int) < sq.many)) = true := by rw [decide_eq_false (by omega)]; rfl
        have rq := row_sub xq r
        rw [hst]
        rw [hst] at hq1
        by_cases hc : fitB T X now (i : Int) = true
        · rw [if_pos hc] at hq1 ⊢
          rw [List.length_append] at hq1
          obtain ⟨w, v2, hp2, v3, hp3, c1, c2, c3, g3, k3, n3, b3⟩ := cut_app (ro := ro) (l := lw) (p := lp) (g.sub xq) (show now.length ≤ 1000 by omega) (i : Int)
          have g3' : GV (Er b hp3) 0 3 1 v3 (now ++ [(i : Int)]).length ((now ++ [(i : Int)]).map (AVal.i .i64)) := by
            rw [List.length_append, List.length_singleton]
            refine g3.byB fun q hq' hbq => er_get ?_
            have := bno_ge (b3 hq.length (Nat.le_refl _)) hbq
            omega
          have x3 : Ext (Er b hp) (Er b hp3) := ext_er fun q hq1 hq2 => by rw [k3.2 q (by omega), a.fr q hq1 hq2]
          have x13 : Ext (Er b hq) (Er b hp3) := ext_er fun q hq1 _ => k3.2 q hq1
          obtain ⟨hp4, lw4, lp4, bv4, e4, a4⟩ := plans69 hT ok k hp3 v3 bvq (now ++ [(i : Int)]) sq (by simp; omega) (hz_snoc hz ⟨by omega, by omega⟩) g3' (a.hold.by k3) (mat_sub x3 hm) (spans_sub x3 ls) (row_sub x13 a.row) q0 (by omega)
          have aa := a.then k3 a4 hlt
          have hmn := fd_many (T : Int) l (ext (fitB T X) T k (now ++ [(i : Int)])) sq
          obtain ⟨hq5, lw5, lp5, bv5, e5, a5⟩ := ihj (i + 1) hp4 _ _ bv4 _ (by omega) aa (by omega) (by omega)
          rw [List.foldl_append]
          refine ⟨hq5, lw5, lp5, bv5, qct ?_ e5, a5⟩
          have e4' := qdf (call := callX F1 ro) (m := ⟨hp3, lw, lp⟩) e4
          simp only [g69_b3, qam, qbf, decide_eq_true (show ((i : Int) < (T : Int)) by omega), cond_true, nilm_p, qcl, qah, hm1, asI_i, hmx, qav, hf, qal, asB_b, hc, qcs rq, c1, c2, c3, e4', qax, hnext]
        · rw [if_neg hc] at hq1 ⊢
          rw [List.nil_append] at hq1 ⊢
          obtain ⟨hq5, lw5, lp5, bv5, e5, a5⟩ := ihj (i + 1) hq lw lp bvq sq (by omega) a q0 hq1
          refine ⟨hq5, lw5, lp5, bv5, qct ?_ e5, a5⟩
          have hc : fitB T X now (i : Int) = false := by simpa using hc
          simp only [g69_b3, qam, qbf, decide_eq_true (show ((i : Int) < (T : Int)) by omega), cond_true, nilm_p, qcl, qah, hm1, asI_i, hmx, qav, hf, qal, asB_b, hc, cond_false, qax, hnext]
    obtain ⟨hq, lw, lp, bv', e1, a1⟩ := key T 0 hp hp.length hp.length bv s (by omega) ⟨Nat.le_refl _, fun _ _ _ => rfl, ⟨Nat.le_of_lt hlt, Nat.le_refl _⟩, .inr ⟨rfl, rfl⟩, hr, hb⟩ h0 (by rw [restX_zero]; exact hmany)
    rw [restX_zero] at a1
    have e0 : ((0 : Nat) : Int) = 0 := rfl
    rw [e0] at e1
    have rH := row_sub (er_ext b hp) r
    have e : eqI (now.length : Int) (n : Int) = false := by rw [qbv]; simp; omega
    have hl := a1.len
    rcases a1.lp with hlp | ⟨hlp, hbv⟩
    · refine ⟨hq, lw, lp, bv', g69_ok (qat F1 ro) rfl ?_, a1⟩
      unfold g69
      simp only [qcs rH, qah, asI_i, qam, e, cond_false, qbi, e1, tupA]
      have hb2 : Nat.ble hp.length lp = false := by
        cases hh : Nat.ble hp.length lp
        · rfl
        · rw [Nat.ble_eq] at hh; omega
      simp [finM, gc, hb2]
    · subst hbv
      subst hlp
      refine ⟨hq.take hp.length, lw, hp.length, bv', g69_ok (qat F1 ro) rfl ?_, ?_⟩
      · unfold g69
        simp only [qcs rH, qah, asI_i, qam, e, cond_false, qbi, e1, tupA]
        exact fin_take rfl
      · have hlen : (hq.take hp.length).length = hp.length := by simp; omega
        have ht : ∀ i, i < hp.length → (hq.take hp.length)[i]? = hq[i]? := fun i hi => List.getElem?_take_of_lt hi
        have hfr : ∀ i, i < hp.length → i ≠ b → (hq.take hp.length)[i]? = hp[i]? := fun i hi hib => by rw [ht i hi, a1.fr i hi hib]
        refine ⟨by omega, hfr, a1.lw, .inr ⟨rfl, rfl⟩, a1.hold.keep (ht b hlt), ?_⟩
        have x1 : Ext (Er b hp) (Er b hq) := ext_er a1.fr
        have x2 : Ext (Er b hp) (Er b (hq.take hp.length)) := ext_er hfr
        rcases hb with ⟨hn, -⟩ | ⟨q, cap, blk, hv, hbk, -⟩
        · rcases a1.row with h | ⟨q', _, _, hv', _⟩
          · exact .inl h
          · rw [hn] at hv'; cases hv'
        · rcases a1.row with ⟨h, h'⟩ | ⟨q', cap', blk', hv', hbk', hh⟩
          · rw [hv] at h; cases h
          · have hqq : q = q' := by rw [hv] at hv'; injection hv'
            subst hqq
            have e1 := rdB_sub x1 hbk
            rw [hbk'] at e1
            have hbb := Option.some.inj e1
            subst hbb
            exact .inr ⟨q, cap', blk', hv', rdB_sub x2 hbk, hh⟩
end
end Go.Proofs.YtddnpchfjdgigaaDoor.T

/- Plans and Shortest of the reference. -/
open Go.Vm
set_option linter.unusedVariables false
namespace Go.Proofs.YtddnpchfjdgigaaDoor.T
open Go

theorem MatH.er {hp : Heap} {L b : Nat} {v : AVal} {n : Nat} {X : Nat → Nat → Nat} {bs : Nat → Nat} {k : Nat} (g : MatH hp L v n X bs k) (hb : b < L) : MatH (Er b hp) L v n X bs k :=
  ⟨g.g.byB fun i _ hi => er_get (by have := (g.g.bno i hi).1; omega), fun a ha => ⟨(g.r a ha).1, (g.r a ha).2.1, (g.r a ha).2.2.keep (er_get (by have := (g.r a ha).1; omega))⟩, g.d⟩
section
variable {ro : List ABlk} {h : Heap} {T n : Nat} {v : AVal} {l : List Sp}
theorem all47 (a : qbh ro h v l) (ok : Ok (T : Int) (n : Int) l) (hc : (qcv T n l).length ≤ 1000000) :
    ∃ hp bv, callX F1 ro 47 [.i .i64 (T : Int), .i .i64 (n : Int), v] h = some (.p (some ⟨false, h.length, 0⟩), hp, h.length, h.length) ∧ Keep h hp ∧
      Holds hp h.length [.i .i64 ((qcv T n l).foldl (fdStep (T : Int) l) ⟨0, [], 0⟩).many, bv, .i .i64 ((qcv T n l).foldl (fdStep (T : Int) l) ⟨0, [], 0⟩).least] ∧ IsRow ro hp bv ((qcv T n l).foldl (fdStep (T : Int) l) ⟨0, [], 0⟩).best := by
  obtain ⟨r1, r2, r3, r4⟩ := ok.r
  have hbx : stepM ro ⟨h, h.length, h.length⟩ (.bx 67 3 (.c (.agg [.i .i64 0, .nsl, .i .i64 0]))) = _ := bx_ok (vs := [.i .i64 0, .nsl, .i .i64 0]) 67 rfl
  have hfa : (fillA [(AVal.i IntKind.i64 0), AVal.nsl, (AVal.i IntKind.i64 0)] []).map AVal.agg = some (.agg [.i .i64 0, .nsl, .i .i64 0]) := rfl
  have d0 := Holds.new h 67 [.i .i64 0, .nsl, .i .i64 0]
  have k0 : Keep h (h ++ [some (blkOf 67 [.i .i64 0, .nsl, .i .i64 0])]) := Keep.app _
  have hl : (h ++ [some (blkOf 67 [.i .i64 0, .nsl, .i .i64 0])]).length = h.length + 1 := by simp
  generalize h ++ [some (blkOf 67 [.i .i64 0, .nsl, .i .i64 0])] = h1 at *
  obtain ⟨w, h2, X, bs, e1, k1, g1, f1⟩ := diff46 (a.by k0) ok
  have c1 := qdf (call := callX F1 ro) (m := ⟨h1, h.length, h.length⟩) e1
  simp only [Nat.min_eq_left k0.1] at c1
  have g2 := g1.er (b := h.length) (by omega)
  have hl2 := k1.1
  have xs : Ext h (Er h.length h2) := fun i blk e => by
    have hi := lget_lt e
    rw [lget_of (er_get (by omega)), lget_of (k1.2 i (by omega)), lget_of (k0.2 i hi)]; exact e
  obtain ⟨h3, lw, lp, bv, e2, af⟩ := plans69 (ro := ro) (X := X) (m := w) (lv := v) (b := h.length) (T := T) (n := n) (by omega) ok n h2 .nsl .nsl [] ⟨0, [], 0⟩ (by simp) (fun i hi => absurd hi (by simp)) (GV.nil _ _ _ _) (d0.by k1) g2.mat (spans_sub xs a) (.inl ⟨rfl, rfl⟩) (Int.le_refl _) (by rw [f1]; simp only; omega)
  rw [f1] at af
  have c2 := qdf (call := callX F1 ro) (m := ⟨h2, h.length, h.length⟩) e2
  have m1 : min h.length lw = h.length := Nat.min_eq_left af.lw.1
  have m2 : min h.length lp = h.length := by
    rcases af.lp with e | ⟨e, -⟩ <;> omega
  simp only [m1, m2] at c2
  refine ⟨h3, bv, g47_ok (qat F1 ro) rfl ?_, ⟨by have := af.len; omega, fun i hi => by rw [af.fr i (by omega) (by omega), k1.2 i (by omega), k0.2 i hi]⟩, af.hold, row_sub (er_ext _ _) af.row⟩
  unfold g47
  rw [hfa]
  simp only [qah, hbx, qal, qav, c1, c2, tupA]
  have hbel : (AVal.p (some ⟨false, h.length, 0⟩)).bel h.length = false := by
    show (false || Nat.blt h.length h.length) = false
    rw [Bool.false_or]
    cases hh : Nat.blt h.length h.length
    · rfl
    · rw [Nat.blt_eq] at hh; omega
  exact fin_new hbel
end
/-- the two ways to keep the best -/
def FdRel (s : Fd) : Option (List Int × Int) → Prop
  | none => s.many = 0 ∧ s.best = [] ∧ s.least = 0
  | some (z, m) => 1 ≤ s.many ∧ s.best = z ∧ s.least = m
theorem fd_rel {t : Int} {l : List Sp} : ∀ (R : List (List Int)) (s : Fd) (o : Option (List Int × Int)), FdRel s o → FdRel (R.foldl (fdStep t l) s) (R.foldl (shBest t l) o)
  | [], s, o, h => h
  | z :: R, s, o, h => by
    rw [List.foldl_cons, List.foldl_cons]
    refine fd_rel R _ _ ?_
    cases o with
    | none =>
      obtain ⟨h1, h2, h3⟩ := h
      unfold fdStep
      rw [if_pos (Or.inl (by omega))]
      exact ⟨by show 1 ≤ s.many + 1; omega, rfl, rfl⟩
    | some zm =>
      obtain ⟨y, m⟩ := zm
      obtain ⟨h1, h2, h3⟩ := h
      unfold fdStep shBest
      by_cases hc : qcb t l z < m
      · rw [if_pos (Or.inr (by omega))]
        simp only [hc, if_true]
        exact ⟨by show 1 ≤ s.many + 1; omega, rfl, rfl⟩
      · rw [if_neg (by omega)]
        simp only [hc, if_false]
        exact ⟨by show 1 ≤ s.many + 1; omega, h2, h3⟩
theorem fin_any {ro : List ABlk} {h hp : Heap} {u : AVal} {z : List Int} {x y : Int} (k : Keep h hp) (r : IsRow ro hp u z) : ∃ hp', finM h.length (tupA [u, .i .i64 x, .i .i64 y]) ⟨hp, h.length, h.length⟩ = some (.tup [u, .i .i64 x, .i .i64 y], hp', h.length, h.length) ∧ Keep h hp' ∧ IsRow ro hp' u z := by
  have hb : (tupA [u, AVal.i .i64 x, AVal.i .i64 y]).bel h.length = u.bel h.length := by
    simp [tupA, AVal.bel, bels]
  cases hu : u.bel h.length
  · exact ⟨hp, fin_new (by rw [hb, hu]), k, r⟩
  · refine ⟨h, qcn k (by rw [hb, hu]), Keep.refl h, ?_⟩
    rcases r with r | ⟨q, cap, blk, rfl, hbk, hh⟩
    · exact .inl r
    · refine .inr ⟨q, cap, blk, rfl, ?_, hh⟩
      have hq : (q.ro || Nat.blt q.b h.length) = true := hu
      unfold rdB at hbk ⊢
      cases hr : q.ro
      · rw [hr] at hbk hq
        simp only [cond_false, Bool.false_or] at hbk hq ⊢
        rw [Nat.blt_eq] at hq
        rw [← lget_of (k.2 _ hq)]
        exact hbk
      · rw [hr] at hbk
        exact hbk
section
variable {ro : List ABlk} {h : Heap} {t n : Int} {v : AVal} {l : List Sp}
theorem all_of (a : qbh ro h v l) (he : rdE t n l = 0) (hc : (plL t n l).length ≤ 1000000) :
    ∃ hp bv s, callX F1 ro 47 [.i .i64 t, .i .i64 n, v] h = some (.p (some ⟨false, h.length, 0⟩), hp, h.length, h.length) ∧ Keep h hp ∧ Holds hp h.length [.i .i64 s.many, bv, .i .i64 s.least] ∧ IsRow ro hp bv s.best ∧ s.many = ((plL t n l).length : Int) ∧ FdRel s (shL t n l) := by
  have ok := rdE_ok.1 he
  obtain ⟨r1, r2, r3, r4⟩ := ok.r
  obtain ⟨T, rfl⟩ : ∃ k : Nat, t = (k : Int) := ⟨t.toNat, by omega⟩
  obtain ⟨N, rfl⟩ : ∃ k : Nat, n = (k : Int) := ⟨n.toNat, by omega⟩
  have ep : plL (T : Int) (N : Int) l = qcv T N l := by unfold plL; rw [Int.toNat_natCast, Int.toNat_natCast]
  rw [ep] at hc ⊢
  obtain ⟨hp, bv, e1, k1, d1, i1⟩ := all47 a ok hc
  refine ⟨hp, bv, _, e1, k1, d1, i1, by rw [fd_many]; simp, ?_⟩
  unfold shL
  rw [ep]
  exact fd_rel _ _ none ⟨rfl, rfl, rfl⟩
theorem plans23 (a : qbh ro h v l) (hc : rdE t n l = 0 → (plL t n l).length ≤ 1000000) : callX F1 ro 23 [.i .i64 t, .i .i64 n, v] h = some (.tup [.i .i64 (plC t n l), .i .i64 (plE t n l)], h, h.length, h.length) := by
  have h20 := cp0 (spans20 (t := t) (n := n) a)
  refine g23_ok (qat F1 ro) rfl ?_
  unfold g23
  by_cases he : rdE t n l = 0
  · have hc := hc he
    obtain ⟨hp, bv, s, e1, k1, d1, i1, hm, hrel⟩ := all_of a he hc
    have c1 := qdf (call := callX F1 ro) (m := ⟨h, h.length, h.length⟩) e1
    simp only [Nat.min_self] at c1
    rw [he] at h20
    have b0 : ldM ro ⟨hp, h.length, h.length⟩ true 1 (.p (some ⟨false, h.length, 0 + 0⟩)) = some (.i .i64 s.many) := d1.one (k := 0) (by simp)
    have x1 : plE t n l = 0 := by simp only [plE, he, hc, if_true]
    have x2 : plC t n l = s.many := by unfold plC; rw [if_pos ⟨he, hc⟩, hm]
    have cc : decide ((1000000 : Int) < s.many) = false := decide_eq_false (by omega)
    rw [x1, x2]
    simp only [qav, h20, qal, asI_i, qam, qbv, beq_self_eq_true, Bool.not_true, cond_false, c1, nilm_p, qcl, qah, b0, qbf, cc]
    exact qcn k1 rfl
  · have x1 : plE t n l = rdE t n l := by simp only [plE, he, if_false]
    have x2 : plC t n l = 0 := by unfold plC; rw [if_neg (fun q => he q.1)]
    have e2 : (rdE t n l == 0) = false := by simpa using he
    rw [x1, x2]
    simp only [qav, h20, qal, asI_i, qam, qbv, e2, Bool.not_false, cond_true]
    exact qcj rfl
theorem short25 (a : qbh ro h v l) (hc : rdE t n l = 0 → (plL t n l).length ≤ 1000000) : ∃ u hp, callX F1 ro 25 [.i .i64 t, .i .i64 n, v] h = some (.tup [u, .i .i64 (shRes t n l).2, .i .i64 (shEr t n l)], hp, h.length, h.length) ∧ Keep h hp ∧ IsRow ro hp u (shRes t n l).1 := by
  have h20 := cp0 (spans20 (t := t) (n := n) a)
  by_cases he : rdE t n l = 0
  · have hc := hc he
    obtain ⟨hp, bv, s, e1, k1, d1, i1, hm, hrel⟩ := all_of a he hc
    have c1 := qdf (call := callX F1 ro) (m := ⟨h, h.length, h.length⟩) e1
    simp only [Nat.min_self] at c1
    rw [he] at h20
    have b0 : ldM ro ⟨hp, h.length, h.length⟩ true 1 (.p (some ⟨false, h.length, 0 + 0⟩)) = some (.i .i64 s.many) := d1.one (k := 0) (by simp)
    have b1 : ldA ro hp true 1 (.p (some ⟨false, h.length, 0 + 1⟩)) = some bv := d1.oneA (k := 1) (by simp)
    have b2 : ldA ro hp true 1 (.p (some ⟨false, h.length, 0 + 2⟩)) = some (.i .i64 s.least) := d1.oneA (k := 2) (by simp)
    have cc : decide ((1000000 : Int) < s.many) = false := decide_eq_false (by omega)
    cases hs : shL t n l with
    | none =>
      rw [hs] at hrel
      have x1 : shEr t n l = 10 := by simp only [shEr, he, hc, hs, if_true]
      have x2 : shRes t n l = ([], 0) := by simp [shRes, he, hc, hs]
      have e0 : (s.many == 0) = true := by simpa using hrel.1
      refine ⟨.nsl, h, g25_ok (qat F1 ro) rfl ?_, Keep.refl h, by rw [x2]; exact .inl ⟨rfl, rfl⟩⟩
      unfold g25
      rw [x1, x2]
      simp only [qav, h20, qal, asI_i, qam, qbv, beq_self_eq_true, Bool.not_true, cond_false, c1, nilm_p, qcl, qah, b0, e0, cond_true]
      exact qcn k1 rfl
    | some zm =>
      obtain ⟨z, mm⟩ := zm
      rw [hs] at hrel
      obtain ⟨q1, q2, q3⟩ := hrel
      have x1 : shEr t n l = 0 := by simp only [shEr, he, hc, hs, if_true]
      have x2 : shRes t n l = (z, mm) := by simp [shRes, he, hc, hs]
      have e0 : (s.many == 0) = false := by rw [beq_eq_false_iff_ne]; omega
      rw [q2] at i1
      obtain ⟨hp', f1, f2, f3⟩ := fin_any (x := s.least) (y := 0) k1 i1
      refine ⟨bv, hp', g25_ok (qat F1 ro) rfl ?_, f2, by rw [x2]; exact f3⟩
      unfold g25
      rw [x1, x2]
      simp only [qav, h20, qal, asI_i, qam, qbv, beq_self_eq_true, Bool.not_true, cond_false, c1, nilm_p, qcl, qah, b0, e0, qbf, cc, b1, b2]
      rw [f1, q3]
  · have x1 : shEr t n l = rdE t n l := by simp only [shEr, he, if_false]
    have x2 : shRes t n l = ([], 0) := by simp [shRes, he]
    have e2 : (rdE t n l == 0) = false := by simpa using he
    refine ⟨.nsl, h, g25_ok (qat F1 ro) rfl ?_, Keep.refl h, by rw [x2]; exact .inl ⟨rfl, rfl⟩⟩
    unfold g25
    rw [x1, x2]
    simp only [qav, h20, qal, asI_i, qam, qbv, e2, Bool.not_false, cond_true]
    exact qcj rfl
end
end Go.Proofs.YtddnpchfjdgigaaDoor.T

/- The law TurnPlans. -/
open Go.Vm
set_option linter.unusedVariables false
namespace Go.Proofs.YtddnpchfjdgigaaDoor.T
open Go

/-- spans are copied -/
theorem copy_spans {ro : List ABlk} {hp : Heap} {lw lp : Nat} {v : AVal} {l : List Sp} (a : qbh ro hp v l) (hk : l.length ≤ 1000) :
    ∃ v2 hp2 v3 hp3, stepM ro ⟨hp, lw, lp⟩ (.bsl 31 4 [(AVal.i IntKind.i64 0), (AVal.i IntKind.i64 0), (AVal.i IntKind.i64 0), (AVal.i IntKind.i64 0)] 0 []) = some (v2, ⟨hp2, lw, lp⟩) ∧
      stepM ro ⟨hp2, lw, lp⟩ (.app 31 4 32 [(AVal.i IntKind.i64 0), (AVal.i IntKind.i64 0), (AVal.i IntKind.i64 0), (AVal.i IntKind.i64 0)] (.c v2) (.c v)) = some (v3, ⟨hp3, lw, lp⟩) ∧ Keep hp hp3 ∧ qbh ro hp3 v3 l := by
  have hbe : rdB ro (hp ++ [some (blkOf 31 [])]) ⟨false, hp.length, 0⟩ = some (blkOf 31 []) := by simp [rdB, qbs]
  have empty : app_src ro (hp ++ [some (blkOf 31 [])]) 4 v = some ([], 0) → l = [] → ∃ v3 hp3, stepM ro ⟨hp ++ [some (blkOf 31 [])], lw, lp⟩ (.app 31 4 32 [(AVal.i IntKind.i64 0), (AVal.i IntKind.i64 0), (AVal.i IntKind.i64 0), (AVal.i IntKind.i64 0)] (.c (.sl ⟨false, hp.length, 0⟩ 0 (.known 0))) (.c v)) = some (v3, ⟨hp3, lw, lp⟩) ∧ Keep hp hp3 ∧ qbh ro hp3 v3 l := fun src hl => by
    refine ⟨.sl ⟨false, hp.length, 0⟩ 0 (.known 0), hp ++ [some (blkOf 31 [])], ?_, Keep.app _, ?_⟩
    · have e1 : Nat.ble (0 + 0) 0 = true := rfl
      have e2 : Nat.beq (0 * 4) 0 = true := rfl
      simp only [stepM, stepK, opd, st_app, src, app_known, e1, cond_true, e2, St.mm]
    · subst hl
      exact .inr ⟨⟨false, hp.length, 0⟩, .known 0, blkOf 31 [], rfl, hbe, by simp, fun j hj => absurd hj (by simp)⟩
  rcases a with ⟨rfl, hl⟩ | ⟨q, cap, blk, rfl, hb, hn, hg⟩
  · obtain ⟨v3, hp3, e1, e2, e3⟩ := empty rfl hl
    exact ⟨_, _, v3, hp3, rfl, e1, e2, e3⟩
  · have hb2 : rdB ro (hp ++ [some (blkOf 31 [])]) q = some blk := rdB_ext _ hb
    have hble : Nat.ble (q.off + l.length * 4) blk.n = true := by rw [Nat.ble_eq]; omega
    have src : app_src ro (hp ++ [some (blkOf 31 [])]) 4 (.sl q l.length cap) = some (blk.c.row q.off (l.length * 4), l.length) := by
      simp only [app_src, hb2, hble, cond_true]
    by_cases h0 : l = []
    · subst h0
      obtain ⟨v3, hp3, e1, e2, e3⟩ := empty src rfl
      exact ⟨_, _, v3, hp3, rfl, e1, e2, e3⟩
    · have hpos : 0 < l.length := List.length_pos_iff.2 h0
      refine ⟨.sl ⟨false, hp.length, 0⟩ 0 (.known 0), hp ++ [some (blkOf 31 [])], .sl ⟨false, hp.length + 1, 0⟩ l.length .grow, hp ++ [some (blkOf 31 [])] ++ [some (blkOf 31 (blk.c.row q.off (l.length * 4)))], rfl, ?_, (Keep.app _).trans (Keep.app _), ?_⟩
      · have e1 : Nat.ble (0 + l.length) 0 = false := by
          cases hh : Nat.ble (0 + l.length) 0
          · rfl
          · rw [Nat.ble_eq] at hh; omega
        have e2 : (Nat.ble (0 + 0 * 4) (blkOf 31 []).n && fits (0 + l.length) 32) = true := by
          rw [fits_small (by omega : 0 + l.length ≤ 1000000) (by omega : 32 ≤ 1000)]
          rfl
        simp only [stepM, stepK, opd, st_app, src, app_known, e1, cond_false, hbe, e2, cond_true, newB, St.mm, List.length_append, List.length_singleton]
        have : (blkOf 31 ([] : List AVal)).c.row 0 (0 * 4) = [] := rfl
        rw [this, List.nil_append, Nat.zero_add]
      · have hlast := lget_last (hp ++ [some (blkOf 31 [])]) (some (blkOf 31 (blk.c.row q.off (l.length * 4))))
        rw [List.length_append, List.length_singleton] at hlast
        refine .inr ⟨_, _, blkOf 31 (blk.c.row q.off (l.length * 4)), rfl, rdB_heap hlast 0, by show 0 + l.length * 4 ≤ (blk.c.row q.off (l.length * 4)).length; rw [qcw]; omega, fun j hj k hk => ?_⟩
        rw [← hg j hj k hk, get_blk, List.getD_eq_getElem?_getD, getElem?_row, if_pos (by show 0 + j * 4 + k < l.length * 4; omega)]
        show blk.c.get (q.off + (0 + j * 4 + k)) = blk.c.get (q.off + j * 4 + k)
        congr 1; omega
theorem seq_self (s : Sp) : evP .e (.seq true [0, 1, 2, 3] (.c s.v) (.c s.v)) = some (.b false) := by
  have hk : kEq IntKind.i64 IntKind.i64 = true := rfl
  have he : ∀ n : Int, eqI n n = true := fun n => by rw [qbv]; simp
  simp [evP, ev_seq, opd, seqA, qbs, hk, he]
theorem pnR_len {t n : Int} {l : List Sp} : (pnR t n l).length ≤ 6 := by
  unfold pnR
  split
  · rename_i he
    have ok := rdE_ok.1 he
    obtain ⟨r1, r2, r3, r4⟩ := ok.r
    cases hp : plL t n l with
    | nil => simp
    | cons z R =>
      have := ((mem_plL ok (z := z)).1 (by rw [hp]; simp)).1.1
      simp; omega
  · simp
theorem shRes_len {t n : Int} {l : List Sp} : (shRes t n l).1.length ≤ 6 := by
  unfold shRes
  split
  · rename_i hc
    have ok := rdE_ok.1 hc.1
    obtain ⟨r1, r2, r3, r4⟩ := ok.r
    by_cases hp : plL t n l = []
    · have : shL t n l = none := by unfold shL; rw [hp]; rfl
      rw [this]; simp
    · have key : ∀ (R : List (List Int)) (o : Option (List Int × Int)), (∀ z ∈ R, z.length ≤ 6) → (∀ z m, o = some (z, m) → z.length ≤ 6) → ∀ z m, R.foldl (shBest t l) o = some (z, m) → z.length ≤ 6 := by
        intro R
        induction R with
        | nil => intro o _ ho z m h; exact ho z m h
        | cons y R ih =>
          intro o hR ho z m h
          rw [List.foldl_cons] at h
          refine ih _ (fun x hx => hR x (by simp [hx])) (fun x k hx => ?_) z m h
          unfold shBest at hx
          split at hx
          · cases hx; exact hR y (by simp)
          · split at hx
            · cases hx; exact hR y (by simp)
            · cases hx; exact ho _ _ rfl
      cases hs : shL t n l with
      | none => simp
      | some zm =>
        obtain ⟨z, m⟩ := zm
        exact key (plL t n l) none (fun y hy => by have := ((mem_plL ok).1 hy).1.1; omega) (fun _ _ h => by cases h) z m hs
  · simp
theorem law3 {ro : List ABlk} {t n : Int} {v : AVal} {l : List Sp} (a : qbh ro [] v l) : ∃ h' lw lp, callX F1 ro 3 [.i .i64 t, .i .i64 n, v] [] = some (.b true, h', lw, lp) := by
  suffices h : ∃ q, g3 (qbt F1 ro) ro t n v ⟨[], 0, 0⟩ = some q ∧ q.1 = .b true by
    obtain ⟨⟨u, h', lw, lp⟩, h1, rfl⟩ := h
    exact ⟨h', lw, lp, g3_ok (qat F1 ro) rfl h1⟩
  have hal : ∀ h : Heap, callM (callX F1 ro) ⟨h, 0, 0⟩ 16 [] = some (.b true, ⟨h, 0, 0⟩) := fun h => lawM alive_pure
  have hnil : IsRow ro [] AVal.nsl [] := .inl ⟨rfl, rfl⟩
  unfold g3
  simp only [qav, lawM (few15 a hnil), qal, asB_b, qam]
  by_cases hf : l.length ≤ 40 ∧ ([] : List Int).length ≤ 40
  · rw [decide_eq_true hf]
    obtain ⟨v2, hp2, w, hp3, s1, s2, k3, i3⟩ := copy_spans (ro := ro) (lw := 0) (lp := 0) a (by omega)
    obtain ⟨u1, hp4, e1, k4, i4⟩ := plan17 (t := t) (n := n) i3
    have a4 := (a.by k3).by k4
    obtain ⟨u2, hp5, e2, k5, i5⟩ := plan18 (t := t) (n := n) a4
    have e3 := same19 (row_by i4 k5) i5 (by have := pnR_len (t := t) (n := n) (l := l); omega)
    simp only [decide_true] at e3
    have i35 := (i3.by k4).by k5
    have a5 := a4.by k5
    simp only [Bool.not_true, cond_false, s1, s2, qal, lawM e1, ext0, ext1, qah, asI_i, lawM e2, lawM e3, asB_b, qbv, beq_self_eq_true, qbi]
    have hloop := loop_run (b := fun s : Int => g3_b1 (qbt F1 ro) ro t n v w ⟨hp5, 0, 0⟩ s) (fun i => ((i : Nat) : Int)) l.length (r0 := .inl ()) ?_ fun i hi => ?_
    · have e0 : ((0 : Nat) : Int) = 0 := rfl
      rw [e0] at hloop
      have h20 := spans20 (t := t) (n := n) a5
      simp only [hloop, qah, lawM h20, qal, asI_i]
      by_cases he : rdE t n l = 0
      · obtain ⟨b, hm, hmb⟩ := mild21 (ro := ro) (h := hp5) (t := t) (n := n)
        rw [he]
        simp only [beq_self_eq_true, cond_true, lawM hm, qal, asB_b, qah]
        cases b with
        | false =>
          simp only [Bool.not_false, cond_true, hal, qal, asB_b]
          exact ⟨_, rfl, rfl⟩
        | true =>
          have ok := rdE_ok.1 he
          have hc : rdE t n l = 0 → (plL t n l).length ≤ 1000000 := fun _ => by
            have h1 := plL_len ok
            have h2 := hmb rfl ok.r
            omega
          have h22 := plans22 (t := t) (n := n) a5
          have h23 := plans23 (t := t) (n := n) a5 hc
          obtain ⟨u5, hp6, h24, k6, i6⟩ := short24 (t := t) (n := n) a5
          obtain ⟨u6, hp7, h25, k7, i7⟩ := short25 (t := t) (n := n) (a5.by k6) hc
          have h19 := same19 (row_by i6 k7) i7 (by have := shRes_len (t := t) (n := n) (l := l); omega)
          simp only [decide_true] at h19
          simp only [Bool.not_true, cond_false, lawM h22, lawM h23, ext0, ext1, ext2, qah, asI_i, Bool.not_true, lawM h24, lawM h25, lawM h19, cond_true, hal, qal, asB_b, beq_self_eq_true]
          exact ⟨_, rfl, rfl⟩
      · have hc : rdE t n l = 0 → (plL t n l).length ≤ 1000000 := fun e => absurd e he
        have e2 : (rdE t n l == 0) = false := by simpa using he
        have h22 := plans22 (t := t) (n := n) a5
        have h23 := plans23 (t := t) (n := n) a5 hc
        obtain ⟨u5, hp6, h24, k6, i6⟩ := short24 (t := t) (n := n) a5
        obtain ⟨u6, hp7, h25, k7, i7⟩ := short25 (t := t) (n := n) (a5.by k6) hc
        have h19 := same19 (row_by i6 k7) i7 (by have := shRes_len (t := t) (n := n) (l := l); omega)
        simp only [decide_true] at h19
        simp only [e2, cond_false, lawM h22, lawM h23, ext0, ext1, ext2, qah, asI_i, Bool.not_true, lawM h24, lawM h25, lawM h19, cond_true, hal, qal, asB_b, beq_self_eq_true]
        exact ⟨_, rfl, rfl⟩
    · simp only [g3_b1, qcr a5, qah, asI_i, qam, qbf, lt_no, cond_false]
    · obtain ⟨q, q1, q2, q3, q4⟩ := at_span i35 hi
      obtain ⟨p, p1, p2, p3, p4⟩ := at_span a5 hi
      simp only [g3_b1, qcr a5, qah, asI_i, qam, qbf, lt_yes hi, cond_true, q1, q3, p1, p3, seq_self, asB_b, cond_false, qax]
      rw [qdd (by omega)]
  · have e : decide (l.length ≤ 40 ∧ ([] : List Int).length ≤ 40) = false := decide_eq_false hf
    rw [e]
    simp only [Bool.not_false, cond_true, hal, qal, asB_b]
    exact ⟨_, rfl, rfl⟩
end Go.Proofs.YtddnpchfjdgigaaDoor.T

/- Contracts of the functions: what each of them answers. -/
import Derived.Test.YtddnpchfjdgigaaDoorVmK0
/- Shortest. -/
open Go.Vm
set_option linter.unusedVariables false
namespace Go.Proofs.YtddnpchfjdgigaaDoor.T
open Go

theorem bx1 {ro : List ABlk} {h : Heap} {l p e : Nat} {v : AVal} (hc : v.cells = [v]) : stepM ro ⟨h, l, p⟩ (.bx e 1 (.c v)) = some (.p (some ⟨false, h.length, 0⟩), ⟨h ++ [some (blkOf e [v])], l, p⟩) := by
  have hbq : Nat.beq [v].length 1 = true := rfl
  simp only [stepM, stepK, opd, st_bx, hc, hbq, cond_true, newB, St.mm]
theorem IsSpans.cells {ro : List ABlk} {h : Heap} {v : AVal} {l : List Sp} (a : IsSpans ro h v l) : v.cells = [v] := by
  rcases a with ⟨rfl, -⟩ | ⟨q, cap, blk, rfl, -⟩ <;> rfl
theorem sameA_i (k : IntKind) (x : Int) : sameA (.i k x) (.i k x) = true := by
  cases x <;> simp [sameA, intEq]
theorem Holds.rd1 {ro : List ABlk} {X : Heap} {b : Nat} {v : AVal} (a : Holds X b [v]) : Go.Vm.rd ro X true 1 ⟨false, b, 0⟩ = some v := one_ld (ro := ro) (lw := 0) (lp := 0) a
theorem Holds.wrOne {X : Heap} {b : Nat} {x v : AVal} (a : Holds X b [x]) (hv : v.one = true) : ∃ X', wrH X ⟨false, b, 0⟩ [v] = some X' ∧ Holds X' b [v] ∧ X'.length = X.length ∧ ∀ i, i ≠ b → X'[i]? = X[i]? := by
  obtain ⟨blk, h1, h2, h3⟩ := a
  refine ⟨X.set b (some { blk with c := blk.c.set 0 v }), wrH_heap h1 (by rw [h2]; simp) hv, ⟨_, lget_set h1 _, h2, fun j hj => ?_⟩, by simp, fun i hi => List.getElem?_set_ne (Ne.symm hi)⟩
  show (blk.c.set 0 v).get j = _
  have : j = 0 := by simpa using hj
  subst this
  rw [get_set]; simp
/-- three answers are written at once -/
theorem wr3 {ro : List ABlk} {X : Heap} {a b c d lw lp : Nat} {x y z u : AVal} {m : Int} (ha : Holds X a [x]) (hb : Holds X b [y]) (hc : Holds X c [z]) (hd : Holds X d [.i .i64 m]) (hu : u.one = true) (hn : nonp [u] = false) (hab : a ≠ b) (hac : a ≠ c) (hbc : b ≠ c) (hda : d ≠ a) (hdb : d ≠ b) (hdc : d ≠ c) :
    ∃ X', writesM ro [((⟨false, d, 0⟩, [.b true, .i .i64 1]), (.i .i64 m))] [(⟨false, a, 0⟩, [u]), (⟨false, b, 0⟩, [.i .i64 m]), (⟨false, c, 0⟩, [.i .i64 0])] ⟨X, lw, lp⟩ = some ⟨X', min (min (min lw a) b) c, min lp a⟩ ∧ Holds X' a [u] ∧ Holds X' b [.i .i64 m] ∧ Holds X' c [.i .i64 0] ∧ X'.length = X.length ∧ ∀ i, i ≠ a → i ≠ b → i ≠ c → X'[i]? = X[i]? := by
  obtain ⟨X1, w1, w2, w3, w4⟩ := ha.wrOne hu
  obtain ⟨X2, y1, y2, y3, y4⟩ := (hb.keep (w4 b (Ne.symm hab))).wrOne (v := .i .i64 m) rfl
  obtain ⟨X3, z1, z2, z3, z4⟩ := ((hc.keep (w4 c (Ne.symm hac))).keep (y4 c (Ne.symm hbc))).wrOne (v := .i .i64 0) rfl
  have d1 := (hd.keep (hp' := X1) (w4 d hda)).rd1 (ro := ro)
  have d2 := ((hd.keep (hp' := X1) (w4 d hda)).keep (hp' := X2) (y4 d hdb)).rd1 (ro := ro)
  have d3 := (((hd.keep (hp' := X1) (w4 d hda)).keep (hp' := X2) (y4 d hdb)).keep (hp' := X3) (z4 d hdc)).rd1 (ro := ro)
  have hnm : nonp [AVal.i .i64 m] = true := rfl
  have hn0 : nonp [AVal.i .i64 0] = true := rfl
  have e1 : Int.toNat 1 = 1 := rfl
  refine ⟨X3, ?_, (w2.keep (y4 a hab)).keep (z4 a hac), y2.keep (z4 b hbc), z2, by rw [z3, y3, w3], fun i h1 h2 h3 => by rw [z4 i h3, y4 i h2, w4 i h1]⟩
  simp only [writesM, writes, Mm.st, w1, y1, z1, ckOk, e1, d1, d2, d3, sameA_i, Bool.and_true, if_true, hn, hnm, hn0, St.mm]
  rfl

def shL (t n : Int) (l : List Sp) : Option (List Int × Int) := (plL t n l).foldl (shBest t l) none
def shEr (t n : Int) (l : List Sp) : Int := if rdE t n l = 0 then if (plL t n l).length ≤ 1000000 then (match shL t n l with | none => 10 | some _ => 0) else 8 else rdE t n l
def shRes (t n : Int) (l : List Sp) : List Int × Int := if rdE t n l = 0 ∧ (plL t n l).length ≤ 1000000 then (shL t n l).getD ([], 0) else ([], 0)
theorem p0_24 (a b c d e f g i : AVal) : ∃ t, g24_P0 a b c d e f g i t := ⟨(((((((Tr.e.set 5 a).set 6 b).set 7 c).set 8 d).set 9 e).set 11 f).set 12 g).set 13 i, trivial, by simp [get_set], by simp [get_set], by simp [get_set], by simp [get_set], by simp [get_set], by simp [get_set], by simp [get_set], by simp [get_set]⟩
theorem ret3 {ro : List ABlk} {h hp : Heap} (kh : Keep h hp) {a b c : Nat} {x y z u w r : AVal} (ha : Holds hp a [x]) (hb : Holds hp b [y]) (hc : Holds hp c [z]) (hLa : h.length ≤ a) (hLb : h.length ≤ b) (hLc : h.length ≤ c) (hab : a ≠ b) (hac : a ≠ c) (hbc : b ≠ c) (u1 : u.one = true) (u2 : u.cells = [u]) (u3 : nonp [u] = true) (w1 : w.one = true) (w2 : w.cells = [w]) (w3 : nonp [w] = true) (r1 : r.one = true) (r2 : r.cells = [r]) (r3 : nonp [r] = true) :
    ∃ hp1 hp2 hp3, stepM ro ⟨hp, h.length, h.length⟩ (.st 1 (.c (.p (some ⟨false, a, 0⟩))) (.c u)) = some (und, ⟨hp1, h.length, h.length⟩) ∧ stepM ro ⟨hp1, h.length, h.length⟩ (.st 1 (.c (.p (some ⟨false, b, 0⟩))) (.c w)) = some (und, ⟨hp2, h.length, h.length⟩) ∧ stepM ro ⟨hp2, h.length, h.length⟩ (.st 1 (.c (.p (some ⟨false, c, 0⟩))) (.c r)) = some (und, ⟨hp3, h.length, h.length⟩) ∧ Keep h hp3 ∧ Holds hp3 a [u] ∧ Holds hp3 b [w] ∧ Holds hp3 c [r] := by
  obtain ⟨h1, s1, s2, s3, s4, s5⟩ := ha.set (ro := ro) (h := h) (k := 0) (v := u) (by simp) u1 u2 u3 hLa kh
  obtain ⟨h2, t1, t2, t3, t4, t5⟩ := (hb.keep (s4 b (Ne.symm hab))).set (ro := ro) (h := h) (k := 0) (v := w) (by simp) w1 w2 w3 hLb s5
  obtain ⟨h3, q1, q2, q3, q4, q5⟩ := ((hc.keep (s4 c (Ne.symm hac))).keep (t4 c (Ne.symm hbc))).set (ro := ro) (h := h) (k := 0) (v := r) (by simp) r1 r2 r3 hLc t5
  simp only [Nat.zero_mul, Nat.add_zero] at s1 t1 q1
  exact ⟨h1, h2, h3, s1, t1, q1, q5, by simpa using (s2.keep (hp' := h2) (t4 a hab)).keep (hp' := h3) (q4 a hac), by simpa using t2.keep (hp' := h3) (q4 b hbc), by simpa using q2⟩
theorem plan_hz {t n : Int} {l : List Sp} {z : List Int} (h : PlanP t n l z) : Hz t z := h.1.2

def aft24 (ro : List ABlk) (L : Nat) (v6 v7 v8 v11 v12 : AVal) (ex : AExit) (m_31 : Mm) : Option (AVal × Heap × Nat × Nat) :=
    onE ex (
      bindO (ldM ro m_31 true 1 v11) fun v58 =>
      bindO (evP .e (.nilcmp false (.c v58))) fun v59 =>
      asB v59 fun c59 =>
      cond c59 (
        bindP (stepM ro m_31 (.st 1 (.c v6) (.c AVal.nsl))) fun vn_13 m_32 =>
        bindP (stepM ro m_32 (.st 1 (.c v7) (.c (.i .i64 0)))) fun vn_14 m_33 =>
        bindP (stepM ro m_33 (.st 1 (.c v8) (.c (.i .i64 10)))) fun vn_15 m_34 =>
        bindO (ldM ro m_34 true 1 v6) fun vr_3 =>
        bindO (ldM ro m_34 true 1 v7) fun vr_4 =>
        bindO (ldM ro m_34 true 1 v8) fun vr_5 =>
        finM L (tupA [vr_3, vr_4, vr_5]) m_34) (
        bindO (ldA ro m_31.h true 1 v11) fun v60 =>
        asP v12 fun q61 =>
        bindO (ldA ro m_31.h true 1 (.p (some q61))) fun v61 =>
        asI .i64 v61 fun x61 =>
        asP v6 fun qs =>
        chk (Nat.beq (AVal.cells v60).length 1) <|
        asP v7 fun qs_1 =>
        asP v8 fun qs_2 =>
        bindO (writesM ro [((q61, [.b true, .i .i64 1]), (.i .i64 x61))] [(qs, AVal.cells v60), (qs_1, AVal.cells (.i .i64 x61)), (qs_2, AVal.cells (.i .i64 0))] ⟨m_31.h, m_31.lw, m_31.lp⟩) fun m_35 =>
        bindO (ldM ro m_35 true 1 v6) fun vr_6 =>
        bindO (ldM ro m_35 true 1 v7) fun vr_7 =>
        bindO (ldM ro m_35 true 1 v8) fun vr_8 =>
        finM L (tupA [vr_6, vr_7, vr_8]) m_35)) (
      bindO (ldM ro m_31 true 1 v6) fun vr_9 =>
      bindO (ldM ro m_31 true 1 v7) fun vr_10 =>
      bindO (ldM ro m_31 true 1 v8) fun vr_11 =>
      finM L (tupA [vr_9, vr_10, vr_11]) m_31) (fun ix =>
      none)
set_option maxHeartbeats 1000000 in
theorem short24 {ro : List ABlk} {h : Heap} {t n : Int} {v : AVal} {l : List Sp} (a : IsSpans ro h v l) : ∃ u hp, callX F1 ro 24 [.i .i64 t, .i .i64 n, v] h = some (.tup [u, .i .i64 (shRes t n l).2, .i .i64 (shEr t n l)], hp, h.length, h.length) ∧ Keep h hp ∧ IsRow ro hp u (shRes t n l).1 := by
  have fin : ∀ (b e : Int) (hp : Heap), Keep h hp → finM h.length (tupA [.nsl, .i .i64 b, .i .i64 e]) ⟨hp, h.length, h.length⟩ = some (.tup [.nsl, .i .i64 b, .i .i64 e], h, h.length, h.length) := fun b e hp k => fin_keep k rfl
  -- the cells that it makes
  obtain ⟨g4, hg4⟩ : ∃ g4 : Heap, g4 = h ++ [some (blkOf 22 [v])] ++ [some (blkOf 25 [AVal.nsl])] ++ [some (blkOf 3 [(AVal.i IntKind.i64 0)])] ++ [some (blkOf 26 [(AVal.i IntKind.i64 0)])] := ⟨_, rfl⟩
  have e1 : (h ++ [some (blkOf 22 [v])]).length = h.length + 1 := by simp
  have e2 : (h ++ [some (blkOf 22 [v])] ++ [some (blkOf 25 [AVal.nsl])]).length = h.length + 2 := by simp
  have e3 : (h ++ [some (blkOf 22 [v])] ++ [some (blkOf 25 [AVal.nsl])] ++ [some (blkOf 3 [(AVal.i IntKind.i64 0)])]).length = h.length + 3 := by simp
  have e4 : g4.length = h.length + 4 := by rw [hg4]; simp
  have k4 : Keep h g4 := by rw [hg4]; exact (((Keep.app _).trans (Keep.app _)).trans (Keep.app _)).trans (Keep.app _)
  have d5 : Holds g4 h.length [v] := by rw [hg4]; exact (((Holds.new h 22 [v]).ext _).ext _).ext _
  have d6 : Holds g4 (h.length + 1) [AVal.nsl] := by
    have := ((Holds.new (h ++ [some (blkOf 22 [v])]) 25 [AVal.nsl]).ext [some (blkOf 3 [(AVal.i IntKind.i64 0)])]).ext [some (blkOf 26 [(AVal.i IntKind.i64 0)])]
    rw [e1] at this
    rw [hg4]; exact this
  have d7 : Holds g4 (h.length + 2) [AVal.i .i64 0] := by
    have := (Holds.new (h ++ [some (blkOf 22 [v])] ++ [some (blkOf 25 [AVal.nsl])]) 3 [(AVal.i IntKind.i64 0)]).ext [some (blkOf 26 [(AVal.i IntKind.i64 0)])]
    rw [e2] at this
    rw [hg4]; exact this
  have d8 : Holds g4 (h.length + 3) [AVal.i .i64 0] := by
    have := Holds.new (h ++ [some (blkOf 22 [v])] ++ [some (blkOf 25 [AVal.nsl])] ++ [some (blkOf 3 [(AVal.i IntKind.i64 0)])]) 26 [(AVal.i IntKind.i64 0)]
    rw [e3] at this
    rw [hg4]; exact this
  have al1 := bx1 (ro := ro) (h := h) (l := h.length) (p := h.length) (e := 22) a.cells
  have al2 := al_ok (ro := ro) (hp := h ++ [some (blkOf 22 [v])]) (l := h.length) (p := h.length) 25 [AVal.nsl]
  have al3 := al_ok (ro := ro) (hp := h ++ [some (blkOf 22 [v])] ++ [some (blkOf 25 [AVal.nsl])]) (l := h.length) (p := h.length) 3 [(AVal.i IntKind.i64 0)]
  have al4 := al_ok (ro := ro) (hp := h ++ [some (blkOf 22 [v])] ++ [some (blkOf 25 [AVal.nsl])] ++ [some (blkOf 3 [(AVal.i IntKind.i64 0)])]) (l := h.length) (p := h.length) 26 [(AVal.i IntKind.i64 0)]
  rw [e1] at al2
  rw [e2] at al3
  rw [e3, ← hg4] at al4
  have a4 := a.by k4
  have hs := callM_pure (read43 (ro := ro) (t := t) (n := n) a4) (l := h.length) (p := h.length) k4.1 k4.1
  have hal := al_ok (ro := ro) (hp := g4) (l := h.length) (p := h.length) 55 z3
  have hv5 := one_ld (ro := ro) (lw := h.length) (lp := h.length) d5
  by_cases he : rdE t n l = 0
  · have ok := rdE_ok.1 he
    obtain ⟨r1, r2, r3, r4⟩ := ok.r
    have hd : demR t n v l = demV t n v := by simp only [demR, he, if_true]
    rw [he, hd] at hs
    obtain ⟨hp1, s1, s2, s3, s4, s5⟩ := (Holds.new g4 55 z3).st (ro := ro) (h := h) (n := 3) (v := demV t n v) (vs' := [.i .i64 t, .i .i64 n, v]) rfl rfl rfl (ones3 a.one) k4.1 (k4.trans (Keep.app _))
    have kA : Keep g4 hp1 := ⟨by rw [s3]; simp, fun i hi => by rw [s4 i (by omega)]; exact List.getElem?_append_left hi⟩
    have l5 : hp1.length = h.length + 5 := by rw [s3]; simp [e4]
    rw [e4] at hal s1 s2
    have al5 := al_ok (ro := ro) (hp := hp1) (l := h.length) (p := h.length) 25 [AVal.nsl]
    have l6 : (hp1 ++ [some (blkOf 25 [AVal.nsl])]).length = h.length + 6 := by simp [l5]
    have al6 := al_ok (ro := ro) (hp := hp1 ++ [some (blkOf 25 [AVal.nsl])]) (l := h.length) (p := h.length) 3 [(AVal.i IntKind.i64 0)]
    have l7 : (hp1 ++ [some (blkOf 25 [AVal.nsl])] ++ [some (blkOf 3 [(AVal.i IntKind.i64 0)])]).length = h.length + 7 := by simp [l5]
    have al7 := al_ok (ro := ro) (hp := hp1 ++ [some (blkOf 25 [AVal.nsl])] ++ [some (blkOf 3 [(AVal.i IntKind.i64 0)])]) (l := h.length) (p := h.length) 3 [(AVal.i IntKind.i64 0)]
    rw [l5] at al5
    rw [l6] at al6
    rw [l7] at al7
    obtain ⟨g8, hg8⟩ : ∃ g8 : Heap, g8 = hp1 ++ [some (blkOf 25 [AVal.nsl])] ++ [some (blkOf 3 [(AVal.i IntKind.i64 0)])] ++ [some (blkOf 3 [(AVal.i IntKind.i64 0)])] := ⟨_, rfl⟩
    rw [← hg8] at al7
    have l8 : g8.length = h.length + 8 := by rw [hg8]; simp [l5]
    have k8 : Keep hp1 g8 := by rw [hg8]; exact ((Keep.app _).trans (Keep.app _)).trans (Keep.app _)
    have f11 : Holds g8 (h.length + 5) [AVal.nsl] := by
      have := ((Holds.new hp1 25 [AVal.nsl]).ext [some (blkOf 3 [(AVal.i IntKind.i64 0)])]).ext [some (blkOf 3 [(AVal.i IntKind.i64 0)])]
      rw [l5] at this
      rw [hg8]; exact this
    have f12 : Holds g8 (h.length + 6) [AVal.i .i64 0] := by
      have := (Holds.new (hp1 ++ [some (blkOf 25 [AVal.nsl])]) 3 [(AVal.i IntKind.i64 0)]).ext [some (blkOf 3 [(AVal.i IntKind.i64 0)])]
      rw [l6] at this
      rw [hg8]; exact this
    have f13 : Holds g8 (h.length + 7) [AVal.i .i64 0] := by
      have := Holds.new (hp1 ++ [some (blkOf 25 [AVal.nsl])] ++ [some (blkOf 3 [(AVal.i IntKind.i64 0)])]) 3 [(AVal.i IntKind.i64 0)]
      rw [l7] at this
      rw [hg8]; exact this
    obtain ⟨g9, t1, t2, t3, t4, t5⟩ := f12.set (ro := ro) (h := h) (k := 0) (v := .i .i64 0) (by simp) rfl rfl rfl (by omega) (s5.trans k8)
    obtain ⟨g10, u1, u2, u3, u4, u5⟩ := (f13.keep (t4 _ (by omega))).set (ro := ro) (h := h) (k := 0) (v := .i .i64 0) (by simp) rfl rfl rfl (by omega) t5
    simp only [Nat.zero_mul, Nat.add_zero] at t1 u1
    have l10 : g10.length = h.length + 8 := by rw [u3, t3, l8]
    have old10 : ∀ i, i ≠ h.length + 6 → i ≠ h.length + 7 → g10[i]? = g8[i]? := fun i h6 h7 => by rw [u4 i h7, t4 i h6]
    have s10 : Holds g10 (h.length + 4) [.i .i64 t, .i .i64 n, v] := (s2.by k8).keep (old10 _ (by omega) (by omega))
    have hw8 := s10.all (ro := ro) (l := h.length) (p := h.length) (n := 3) rfl
    have hc44 : callM (callX F1 ro) ⟨g10, h.length, h.length⟩ 44 [demV t n v] = some (.fn 61 [] [.p (some ⟨false, h.length + 8, 0⟩)], ⟨g10 ++ [some (blkOf 55 [.i .i64 t, .i .i64 n, v])], h.length, h.length⟩) := by
      rw [callM_eq (m := ⟨g10, h.length, h.length⟩) plans44, l10]
      have : min h.length (h.length + 8) = h.length := by omega
      simp only [this]
    have hT : t = ((t.toNat : Nat) : Int) := by omega
    have hN : n = ((n.toNat : Nat) : Int) := by omega
    have okN : Ok (t.toNat : Int) (n.toNat : Int) l := by rw [← hT, ← hN]; exact ok
    have hB := Holds.new g10 55 [.i .i64 t, .i .i64 n, v]
    rw [l10] at hB
    have kD : Keep h (g10 ++ [some (blkOf 55 [.i .i64 t, .i .i64 n, v])]) := u5.trans (Keep.app _)
    have hR := shR (ro := ro) (h := h) (L0 := h.length + 9) rfl a okN
    obtain ⟨t0, ht0⟩ := p0_24 (.p (some ⟨false, h.length, 0⟩)) (.p (some ⟨false, h.length + 1, 0⟩)) (.p (some ⟨false, h.length + 2, 0⟩)) (.p (some ⟨false, h.length + 3, 0⟩)) (.p (some ⟨false, h.length + 4, 0⟩)) (.p (some ⟨false, h.length + 5, 0⟩)) (.p (some ⟨false, h.length + 6, 0⟩)) (.p (some ⟨false, h.length + 7, 0⟩))
    have hlH : (g10 ++ [some (blkOf 55 [.i .i64 t, .i .i64 n, v])]).length = h.length + 9 := by simp [l10]
    have q5 : Holds (g10 ++ [some (blkOf 55 [.i .i64 t, .i .i64 n, v])]) h.length [v] := ((((d5.by kA).by k8).keep (old10 _ (by omega) (by omega)))).ext _
    have q6 : Holds (g10 ++ [some (blkOf 55 [.i .i64 t, .i .i64 n, v])]) (h.length + 1) [AVal.nsl] := ((((d6.by kA).by k8).keep (old10 _ (by omega) (by omega)))).ext _
    have q7 : Holds (g10 ++ [some (blkOf 55 [.i .i64 t, .i .i64 n, v])]) (h.length + 2) [AVal.i .i64 0] := ((((d7.by kA).by k8).keep (old10 _ (by omega) (by omega)))).ext _
    have q8 : Holds (g10 ++ [some (blkOf 55 [.i .i64 t, .i .i64 n, v])]) (h.length + 3) [AVal.i .i64 0] := ((((d8.by kA).by k8).keep (old10 _ (by omega) (by omega)))).ext _
    have q11 : Holds (g10 ++ [some (blkOf 55 [.i .i64 t, .i .i64 n, v])]) (h.length + 5) [AVal.nsl] := (f11.keep (old10 _ (by omega) (by omega))).ext _
    have q12 : Holds (g10 ++ [some (blkOf 55 [.i .i64 t, .i .i64 n, v])]) (h.length + 6) [AVal.i .i64 0] := by
      have := (t2.keep (hp' := g10) (u4 _ (by omega))).ext [some (blkOf 55 [.i .i64 t, .i .i64 n, v])]
      simpa using this
    have q13 : Holds (g10 ++ [some (blkOf 55 [.i .i64 t, .i .i64 n, v])]) (h.length + 7) [AVal.i .i64 ((0 : Nat) : Int)] := by
      have := u2.ext [some (blkOf 55 [.i .i64 t, .i .i64 n, v])]
      simpa using this
    have q4 : Holds (g10 ++ [some (blkOf 55 [.i .i64 t, .i .i64 n, v])]) (h.length + 4) [.i .i64 t, .i .i64 n, v] := s10.ext _
    obtain ⟨c, s', X', lw', lp', z1, z2, z3', z4, z5, z6⟩ := rng_plans hR a okN hlH (by rw [← hT, ← hN]; exact hB) kD (s0 := ⟨0, none, false⟩) (fun X hX hXi => ⟨⟨⟨by omega, fun i hi => by rw [hXi i (by omega)]; exact kD.2 i hi⟩, (by rw [← hT, ← hN]; exact hB.keep (hXi _ (by omega))), (by rw [← hT, ← hN]; exact q4.keep (hXi _ (by omega))), q5.keep (hXi _ (by omega))⟩, by simp, q6.keep (hXi _ (by omega)), q7.keep (hXi _ (by omega)), q8.keep (hXi _ (by omega)), q13.keep (hXi _ (by omega)), rfl, q11.keep (hXi _ (by omega)), q12.keep (hXi _ (by omega))⟩) (fun z hz => plan_hz ((mem_plansL okN).1 hz)) ht0
    have hrg := z6 h.length h.length
    have m1 : min (min h.length lw') (h.length + 9) = h.length := by omega
    have m2 : min h.length lp' = h.length := by omega
    rw [m1, m2] at hrg
    obtain ⟨sE, v1, v2, v3⟩ := sh_run (t.toNat : Int) l (plansL t.toNat n.toNat l) 0 none (by omega)
    rw [z1] at v1
    simp only [Prod.mk.injEq] at v1
    obtain ⟨rfl, v1⟩ := v1
    have epl : plansL t.toNat n.toNat l = plL t n l := rfl
    rw [epl, Nat.zero_add] at v1 v2 v3
    rw [← hT] at v2
    have efold : (plL t n l).foldl (shBest t l) none = shL t n l := rfl
    rw [efold] at v2
    -- the text up to the loop
    have hpre : g24 (meansX F1 ro) ro t n v ⟨h, h.length, h.length⟩ = aft24 ro h.length (.p (some ⟨false, h.length + 1, 0⟩)) (.p (some ⟨false, h.length + 2, 0⟩)) (.p (some ⟨false, h.length + 3, 0⟩)) (.p (some ⟨false, h.length + 5, 0⟩)) (.p (some ⟨false, h.length + 6, 0⟩)) (cond c .norm .ret) ⟨endH (h.length + 9) lp' X', h.length, h.length⟩ := by
      unfold g24
      refine (bindP_of al1).trans ?_
      refine (bindP_of al2).trans ?_
      refine (bindP_of al3).trans ?_
      refine (bindP_of al4).trans ?_
      refine (bindO_of hv5).trans ?_
      refine (bindP_of hs).trans ?_
      refine (bindO_of (ext0 ..)).trans ?_
      refine (bindO_of (ext1 ..)).trans ?_
      refine (asI_i ..).trans ?_
      refine (bindP_of hal).trans ?_
      refine (bindP_of s1).trans ?_
      refine (forceB_eq ..).trans ?_
      refine (cond_of rfl).trans ?_
      refine (bindP_of al5).trans ?_
      refine (bindP_of al6).trans ?_
      refine (bindP_of al7).trans ?_
      refine (bindP_of t1).trans ?_
      refine (bindP_of u1).trans ?_
      refine (bindO_of hw8).trans ?_
      refine (bindP_of hc44).trans ?_
      exact (bindO_of hrg).trans rfl
    by_cases hcnt : (plL t n l).length ≤ 1000000
    · obtain rfl : c = true := by rw [v1]; exact decide_eq_true hcnt
      have hs' := v2 hcnt
      subst hs'
      simp only [if_true] at z2
      obtain ⟨⟨b1, b2, b3, b4⟩, -, c1, c2, c3, c4, c5⟩ := z2
      have kE : Keep h (endH (h.length + 9) lp' X') := endH_keep b1 (by omega)
      have w6 := endH_holds (lp := lp') c1 (show h.length + 1 < h.length + 9 by omega)
      have w7 := endH_holds (lp := lp') c2 (show h.length + 2 < h.length + 9 by omega)
      have w8 := endH_holds (lp := lp') c3 (show h.length + 3 < h.length + 9 by omega)
      cases hb : shL t n l with
      | none =>
        rw [hb] at c5
        have w11 := endH_holds (lp := lp') c5.2.1 (show h.length + 5 < h.length + 9 by omega)
        generalize hEH : endH (h.length + 9) lp' X' = hE at *
        have ep : shEr t n l = 10 := by simp only [shEr, he, hcnt, hb, if_true]
        have er : shRes t n l = ([], 0) := by simp [shRes, he, hcnt, hb]
        rw [ep, er]
        obtain ⟨y1, y2, y3, x1, x2, x3, x4, x5, x6, x7⟩ := ret3 (ro := ro) kE w6 w7 w8 (u := .nsl) (w := .i .i64 0) (r := .i .i64 10) (by omega) (by omega) (by omega) (by omega) (by omega) (by omega) rfl rfl rfl rfl rfl rfl rfl rfl rfl
        refine ⟨.nsl, h, g24_ok (meansX_ok F1 ro) rfl (hpre.trans ?_), Keep.refl h, .inl ⟨rfl, rfl⟩⟩
        have enil : evP .e (.nilcmp false (.c AVal.nsl)) = some (.b true) := rfl
        unfold aft24
        simp only [bindP_some, bindO_some, asI_i, cond_false, cond_true, onE, one_ld w11, enil, asB_b, x1, x2, x3, one_ld x5, one_ld x6, one_ld x7]
        exact fin _ _ _ x4
      | some wm =>
        obtain ⟨w, m⟩ := wm
        rw [hb] at c5
        obtain ⟨i1, ⟨cb, i2, i3, i4⟩, i5, i6⟩ := c5
        have hend : endH (h.length + 9) lp' X' = X'.set (h.length + 9) none := by unfold endH; rw [if_neg (by omega)]
        have w11 := endH_holds (lp := lp') i3 (show h.length + 5 < h.length + 9 by omega)
        have w12 := endH_holds (lp := lp') i6 (show h.length + 6 < h.length + 9 by omega)
        have wz : Holds (endH (h.length + 9) lp' X') cb (ints w) := by rw [hend]; exact i4.put (by omega) none
        generalize hEH : endH (h.length + 9) lp' X' = hE at *
        have ep : shEr t n l = 0 := by simp only [shEr, he, hcnt, hb, if_true]
        have er : shRes t n l = (w, m) := by simp [shRes, he, hcnt, hb]
        rw [ep, er]
        obtain ⟨hF, x1, x2, x3, x4, x5, x6⟩ := wr3 (ro := ro) (lw := h.length) (lp := h.length) (u := .sl ⟨false, cb, 0⟩ n.toNat .grow) w6 w7 w8 w12 rfl rfl (by omega) (by omega) (by omega) (by omega) (by omega) (by omega)
        have m3 : min (min (min h.length (h.length + 1)) (h.length + 2)) (h.length + 3) = h.length := by omega
        have m4 : min h.length (h.length + 1) = h.length := by omega
        rw [m3, m4] at x1
        have kF : Keep h hF := ⟨by rw [x5]; exact kE.1, fun i hi => by rw [x6 i (by omega) (by omega) (by omega)]; exact kE.2 i hi⟩
        have wz' : Holds hF cb (ints w) := wz.keep (x6 _ (by omega) (by omega) (by omega))
        refine ⟨.sl ⟨false, cb, 0⟩ n.toNat .grow, hF, g24_ok (meansX_ok F1 ro) rfl (hpre.trans ?_), kF, holds_row wz' rfl i5.symm⟩
        have enil : evP .e (.nilcmp false (.c (.sl ⟨false, cb, 0⟩ n.toNat .grow))) = some (.b false) := rfl
        have la11 : ldA ro hE true 1 (.p (some ⟨false, h.length + 5, 0⟩)) = some (.sl ⟨false, cb, 0⟩ n.toNat .grow) := by
          have := w11.oneA (ro := ro) (k := 0) (by simp)
          simpa using this
        have la12 : ldA ro hE true 1 (.p (some ⟨false, h.length + 6, 0⟩)) = some (.i .i64 m) := by
          have := w12.oneA (ro := ro) (k := 0) (by simp)
          simpa using this
        have hcl : Nat.beq (AVal.cells (.sl ⟨false, cb, 0⟩ n.toNat .grow)).length 1 = true := rfl
        have x1' : writesM ro [((⟨false, h.length + 6, 0⟩, [.b true, .i .i64 1]), (.i .i64 m))] [(⟨false, h.length + 1, 0⟩, AVal.cells (.sl ⟨false, cb, 0⟩ n.toNat .grow)), (⟨false, h.length + 2, 0⟩, AVal.cells (.i .i64 m)), (⟨false, h.length + 3, 0⟩, AVal.cells (.i .i64 0))] ⟨hE, h.length, h.length⟩ = some ⟨hF, h.length, h.length⟩ := x1
        unfold aft24
        simp only [bindP_some, bindO_some, asI_i, cond_false, cond_true, onE, one_ld w11, enil, asB_b, la11, la12, asP_p, hcl, chk_true, x1', one_ld x2, one_ld x3, one_ld x4]
        have hbel : (tupA [.sl ⟨false, cb, 0⟩ n.toNat .grow, .i .i64 m, .i .i64 0]).bel h.length = false := by
          have := not_bel (L := h.length) (b := cb) (off := 0) (len := n.toNat) (cap := .grow) (by omega)
          simp only [tupA, AVal.bel, bels] at this ⊢
          rw [this]; rfl
        exact fin_new hbel
    · obtain rfl : c = false := by rw [v1]; exact decide_eq_false hcnt
      simp only [Bool.false_eq_true, if_false] at z2
      obtain ⟨-, b1, c1, c2, c3⟩ := z2
      have kE : Keep h (endH (h.length + 9) lp' X') := endH_keep b1 (by omega)
      have w6 := endH_holds (lp := lp') c1 (show h.length + 1 < h.length + 9 by omega)
      have w7 := endH_holds (lp := lp') c2 (show h.length + 2 < h.length + 9 by omega)
      have w8 := endH_holds (lp := lp') c3 (show h.length + 3 < h.length + 9 by omega)
      generalize hEH : endH (h.length + 9) lp' X' = hE at *
      have ep : shEr t n l = 8 := by simp only [shEr, he, hcnt, if_true, if_false]
      have er : shRes t n l = ([], 0) := by simp [shRes, hcnt]
      rw [ep, er]
      refine ⟨.nsl, h, g24_ok (meansX_ok F1 ro) rfl (hpre.trans ?_), Keep.refl h, .inl ⟨rfl, rfl⟩⟩
      unfold aft24
      simp only [bindP_some, bindO_some, asI_i, cond_false, onE, one_ld w6, one_ld w7, one_ld w8]
      exact fin _ _ _ kE
  · have hd : demR t n v l = .agg z3 := by simp only [demR, he, if_false]
    have ep : shEr t n l = rdE t n l := by simp only [shEr, he, if_false]
    have er : shRes t n l = ([], 0) := by simp [shRes, he]
    rw [hd] at hs
    obtain ⟨hp1, s1, s2, s3, s4, s5⟩ := (Holds.new g4 55 z3).st (ro := ro) (h := h) (n := 3) (v := .agg z3) (vs' := z3) rfl rfl rfl rfl k4.1 (k4.trans (Keep.app _))
    have kA : Keep g4 hp1 := ⟨by rw [s3]; simp, fun i hi => by rw [s4 i (by omega)]; exact List.getElem?_append_left hi⟩
    rw [e4] at hal s1
    have e : (rdE t n l == 0) = false := by simpa using he
    obtain ⟨y1, y2, y3, x1, x2, x3, x4, x5, x6, x7⟩ := ret3 (ro := ro) s5 (d6.by kA) (d7.by kA) (d8.by kA) (u := .nsl) (w := .i .i64 0) (r := .i .i64 (rdE t n l)) (by omega) (by omega) (by omega) (by omega) (by omega) (by omega) rfl rfl rfl rfl rfl rfl rfl rfl rfl
    rw [ep, er]
    refine ⟨.nsl, h, g24_ok (meansX_ok F1 ro) rfl ?_, Keep.refl h, .inl ⟨rfl, rfl⟩⟩
    unfold g24
    refine (bindP_of al1).trans ?_
    refine (bindP_of al2).trans ?_
    refine (bindP_of al3).trans ?_
    refine (bindP_of al4).trans ?_
    refine (bindO_of hv5).trans ?_
    refine (bindP_of hs).trans ?_
    refine (bindO_of (ext0 ..)).trans ?_
    refine (bindO_of (ext1 ..)).trans ?_
    refine (asI_i ..).trans ?_
    refine (bindP_of hal).trans ?_
    refine (bindP_of s1).trans ?_
    refine (forceB_eq ..).trans ?_
    refine (condT_of (by rw [eqI_eq, e]; rfl)).trans ?_
    refine (bindP_of x1).trans ?_
    refine (bindP_of x2).trans ?_
    refine (bindP_of x3).trans ?_
    refine (bindO_of (one_ld x5)).trans ?_
    refine (bindO_of (one_ld x6)).trans ?_
    refine (bindO_of (one_ld x7)).trans ?_
    exact fin _ _ _ x4
end Go.Proofs.YtddnpchfjdgigaaDoor.T

/- The law TurnMany. -/
open Go.Vm
set_option linter.unusedVariables false
namespace Go.Proofs.YtddnpchfjdgigaaDoor.T
open Go
theorem u8_nat {n : Int} (h : (Lit.int .u8 n).wf = true) : ∃ k : Nat, n = (k : Int) ∧ k < 256 := by
  have := bounds_u8 h
  exact ⟨n.toNat, by omega, by omega⟩

theorem many_ok {T : Nat} (h : 14 ≤ T ∧ T ≤ 24) : rdE (T : Int) 6 [] = 0 := by
  have hr : rOk (T : Int) 6 := by unfold rOk; omega
  unfold rdE
  rw [if_pos hr, if_pos (by simp), if_pos (fun i hi => by simp at hi)]
theorem hoursL_cons {T : Nat} (h : 1 ≤ T) : ∃ R, hoursL T = 0 :: R := by
  obtain ⟨k, rfl⟩ : ∃ k, T = k + 1 := ⟨T - 1, by omega⟩
  exact ⟨_, by unfold hoursL; rw [List.range_succ_eq_map, List.map_cons]; rfl⟩
theorem allL_head {T : Nat} (h : 1 ≤ T) : ∀ k, ∃ R, allL T k = List.replicate k 0 :: R
  | 0 => ⟨[], rfl⟩
  | k + 1 => by
    obtain ⟨R, hR⟩ := allL_head h k
    obtain ⟨S, hS⟩ := hoursL_cons h
    unfold allL
    rw [hS, List.flatMap_cons, hR, List.map_cons, List.cons_append]
    exact ⟨_, rfl⟩
theorem many_pl {T : Nat} (h : 14 ≤ T ∧ T ≤ 24) : plL (T : Int) 6 [] = (allL T 5).map (0 :: ·) := by
  have ok := rdE_ok.1 (many_ok h)
  rw [plL_eq ok]
  show ((allL T 5).map (0 :: ·)).filter _ = _
  refine List.filter_eq_self.2 fun z hz => decide_eq_true ?_
  obtain ⟨w, hw, rfl⟩ := List.mem_map.1 hz
  obtain ⟨h1, h2⟩ := allL_mem.1 hw
  refine ⟨⟨by simp [h1], fun i hi => ?_⟩, rfl, fun i hi => by simp at hi⟩
  cases i with
  | zero => simp; omega
  | succ i => have := h2 i (by simp at hi; omega); simpa using this
theorem many_head {T : Nat} (h : 14 ≤ T ∧ T ≤ 24) : ∃ R, plL (T : Int) 6 [] = [0, 0, 0, 0, 0, 0] :: R := by
  rw [many_pl h]
  obtain ⟨R, hR⟩ := allL_head (T := T) (by omega) 5
  rw [hR, List.map_cons]
  exact ⟨_, rfl⟩
theorem many_len {T : Nat} (h : 14 ≤ T ∧ T ≤ 24) : (plL (T : Int) 6 []).length = T ^ 5 := by
  rw [many_pl h, List.length_map, allL_len]
theorem many_fold (t : Int) : ∀ (R : List (List Int)) (w : List Int), R.foldl (shBest t []) (some (w, 0)) = some (w, 0)
  | [], _ => rfl
  | z :: R, w => by
    rw [List.foldl_cons]
    have : shBest t [] (some (w, 0)) z = some (w, 0) := by simp [shBest, slackSum, sumTo]
    rw [this]
    exact many_fold t R w

theorem law8 {ro : List ABlk} {k : Nat} (hk : k < 256) : ∃ h' lw lp, callX F1 ro 8 [.i .u8 k] [] = some (.b true, h', lw, lp) := by
  suffices h : ∃ q, g8 (meansX F1 ro) ro k ⟨[], 0, 0⟩ = some q ∧ q.1 = .b true by
    obtain ⟨⟨u, h', lw, lp⟩, h1, rfl⟩ := h
    exact ⟨h', lw, lp, g8_ok (meansX_ok F1 ro) rfl h1⟩
  have hal : ∀ h : Heap, callM (callX F1 ro) ⟨h, 0, 0⟩ 16 [] = some (.b true, ⟨h, 0, 0⟩) := fun h => lawM alive_pure
  obtain ⟨T, hT⟩ : ∃ T : Nat, T = 14 + k % 11 := ⟨_, rfl⟩
  have hTb : 14 ≤ T ∧ T ≤ 24 := by omega
  have he := many_ok hTb
  have hlen := many_len hTb
  obtain ⟨R, hR⟩ := many_head hTb
  have e1 : Int.tmod (k : Int) 11 = ((k % 11 : Nat) : Int) := rfl
  have e2 : Go.Vm.wr .i64 ((k % 11 : Nat) : Int) = ((k % 11 : Nat) : Int) := wr_id' (by omega) (by omega)
  have e3 : Go.Vm.wr .i64 (14 + ((k % 11 : Nat) : Int)) = (T : Int) := by rw [wr_id' (by omega) (by omega), hT]; omega
  have nil : ∀ h, IsSpans ro h .nsl [] := fun h => .inl ⟨rfl, rfl⟩
  obtain ⟨u, hp, h1, k1, i1⟩ := plan17 (ro := ro) (h := []) (t := (T : Int)) (n := 6) (nil _)
  have ep : pnE (T : Int) 6 [] = 0 := by simp [pnE, he, hR]
  have er : pnR (T : Int) 6 [] = [0, 0, 0, 0, 0, 0] := by simp [pnR, he, hR]
  rw [ep] at h1
  rw [er] at i1
  have hbsl : stepM ro ⟨hp, 0, 0⟩ (.bsl 3 1 [(AVal.i IntKind.i64 0)] 6 [((0, 1), .c (.i .i64 0)), ((1, 1), .c (.i .i64 0)), ((2, 1), .c (.i .i64 0)), ((3, 1), .c (.i .i64 0)), ((4, 1), .c (.i .i64 0)), ((5, 1), .c (.i .i64 0))]) = some (.sl ⟨false, hp.length, 0⟩ 6 (.known 6), ⟨hp ++ [some (blkOf 3 (ints [0, 0, 0, 0, 0, 0]))], 0, 0⟩) := rfl
  have kq : Keep hp (hp ++ [some (blkOf 3 (ints [0, 0, 0, 0, 0, 0]))]) := Keep.app _
  have i2 : IsRow ro (hp ++ [some (blkOf 3 (ints [0, 0, 0, 0, 0, 0]))]) (.sl ⟨false, hp.length, 0⟩ 6 (.known 6)) [0, 0, 0, 0, 0, 0] := holds_row (Holds.new hp 3 (ints [0, 0, 0, 0, 0, 0])) rfl rfl
  have i1' := row_by i1 kq
  generalize hq : hp ++ [some (blkOf 3 (ints [0, 0, 0, 0, 0, 0]))] = hp2 at *
  have h2 := same19 i1' i2 (by simp)
  simp only [decide_true] at h2
  have h3 := plans22 (ro := ro) (h := hp2) (t := (T : Int)) (n := 6) (nil _)
  obtain ⟨u4, hp4, h4, k4, i4⟩ := short24 (ro := ro) (h := hp2) (t := (T : Int)) (n := 6) (nil _)
  have c0 : (!((0 : Int) == 0)) = false := rfl
  have e0 : ((0 : Nat) : Int) = 0 := rfl
  unfold g8
  simp only [e1, forceI_eq, e2, e3, meansX_call, lawM h1, bindP_some, ext0, ext1, ext2, bindO_some, asI_i, forceB_eq, eqI_eq, c0, cond_false, hbsl, lawM h2, asB_b, Bool.not_true, lawM h3, lawM h4, ltI_eq]
  by_cases h15 : 15 < T
  · have hbig : ¬ (plL (T : Int) 6 []).length ≤ 1000000 := by
      rw [hlen]
      have : 16 ^ 5 ≤ T ^ 5 := Nat.pow_le_pow_left (by omega) 5
      omega
    have x1 : plE (T : Int) 6 [] = 8 := by simp only [plE, he, hbig, if_true, if_false]
    have x2 : plC (T : Int) 6 [] = 0 := by simp only [plC, hbig, and_false, if_false]
    have x3 : shEr (T : Int) 6 [] = 8 := by simp only [shEr, he, hbig, if_true, if_false]
    have x4 : shRes (T : Int) 6 [] = ([], 0) := by simp only [shRes, hbig, and_false, if_false]
    rw [x4] at i4
    have hl0 := len_row i4
    simp only [List.length_nil] at hl0
    rw [e0] at hl0
    have c1 : decide (15 < (T : Int)) = true := decide_eq_true (by omega)
    simp only [c1, cond_true, x1, x2, x3, x4, beq_self_eq_true, bindO_some, hl0, asI_i, hal, bindP_some, asB_b]
    exact ⟨_, rfl, rfl⟩
  · have hsm : T ^ 5 ≤ 15 ^ 5 := Nat.pow_le_pow_left (by omega) 5
    have hcnt : (plL (T : Int) 6 []).length ≤ 1000000 := by rw [hlen]; omega
    have x1 : plE (T : Int) 6 [] = 0 := by simp only [plE, he, hcnt, if_true]
    have x2 : plC (T : Int) 6 [] = ((T ^ 5 : Nat) : Int) := by
      unfold plC
      rw [if_pos ⟨he, hcnt⟩, hlen]
    have hsl : shL (T : Int) 6 [] = some ([0, 0, 0, 0, 0, 0], 0) := by
      unfold shL
      rw [hR, List.foldl_cons]
      have : shBest (T : Int) [] none [0, 0, 0, 0, 0, 0] = some ([0, 0, 0, 0, 0, 0], 0) := rfl
      rw [this]
      exact many_fold _ _ _
    have x3 : shEr (T : Int) 6 [] = 0 := by simp only [shEr, he, hcnt, hsl, if_true]
    have x4 : shRes (T : Int) 6 [] = ([0, 0, 0, 0, 0, 0], 0) := by simp [shRes, he, hcnt, hsl]
    rw [x4] at i4
    have h5 := same19 i4 (row_by i1' k4) (by simp)
    simp only [decide_true] at h5
    have c1 : decide (15 < (T : Int)) = false := decide_eq_false (by omega)
    have p2 : T * T ≤ 15 * 15 := Nat.mul_le_mul (by omega) (by omega)
    have p3 : T * T * T ≤ 15 * 15 * 15 := Nat.mul_le_mul p2 (by omega)
    have p4 : T * T * T * T ≤ 15 * 15 * 15 * 15 := Nat.mul_le_mul p3 (by omega)
    have p5 : T * T * T * T * T ≤ 15 * 15 * 15 * 15 * 15 := Nat.mul_le_mul p4 (by omega)
    have w2 : Go.Vm.wr .i64 ((T : Int) * (T : Int)) = ((T * T : Nat) : Int) := by rw [← Int.natCast_mul, wr_id' (by omega) (by omega)]
    have w3 : Go.Vm.wr .i64 (((T * T : Nat) : Int) * (T : Int)) = ((T * T * T : Nat) : Int) := by rw [← Int.natCast_mul, wr_id' (by omega) (by omega)]
    have w4 : Go.Vm.wr .i64 (((T * T * T : Nat) : Int) * (T : Int)) = ((T * T * T * T : Nat) : Int) := by rw [← Int.natCast_mul, wr_id' (by omega) (by omega)]
    have w5 : Go.Vm.wr .i64 (((T * T * T * T : Nat) : Int) * (T : Int)) = ((T * T * T * T * T : Nat) : Int) := by rw [← Int.natCast_mul, wr_id' (by omega) (by omega)]
    have hp5 : T ^ 5 = T * T * T * T * T := by
      rw [show (5 : Nat) = 4 + 1 from rfl, Nat.pow_succ, show (4 : Nat) = 3 + 1 from rfl, Nat.pow_succ, show (3 : Nat) = 2 + 1 from rfl, Nat.pow_succ, Nat.pow_two]
    have c2 : (((T ^ 5 : Nat) : Int) == ((T * T * T * T * T : Nat) : Int)) = true := by rw [hp5]; simp
    simp only [c1, cond_false, x1, x2, x3, x4, beq_self_eq_true, cond_true, forceI_eq, w2, w3, w4, w5, c2, bindO_some, lawM h5, bindP_some, asB_b, hal]
    exact ⟨_, rfl, rfl⟩
end Go.Proofs.YtddnpchfjdgigaaDoor.T

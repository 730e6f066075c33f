/- Contracts of the functions: what each of them answers. -/
import Derived.Test.YtpjjmdbkgkembaaDoorVmK0
/- distances and open. -/
open Go.Vm
set_option linter.unusedVariables false
namespace Go.Proofs.YtpjjmdbkgkembaaDoor.T
open Go

theorem Holds.wr {ro : List ABlk} {h hp : Heap} {b k : Nat} {vs : List AVal} {v : AVal} (a : Holds hp b vs) (hk : k < vs.length) (hv : v.one = true) (hc : v.cells = [v]) (hn : nonp [v] = true) (hL : h.length ≤ b) (kp : Keep h hp) :
    ∃ hp', qed ro [] [(⟨false, b, 0 + k⟩, v.cells)] ⟨hp, h.length, h.length⟩ = some ⟨hp', h.length, h.length⟩ ∧ Holds hp' b (vs.set k v) ∧ hp'.length = hp.length ∧ (∀ i, i ≠ b → hp'[i]? = hp[i]?) ∧ Keep h hp' := by
  obtain ⟨blk, h1, h2, h3⟩ := a
  refine ⟨hp.set b (some { blk with c := blk.c.set k v }), ?_, ⟨_, qei h1 _, by simpa using h2, fun j hj => ?_⟩, by simp, fun i hi => List.getElem?_set_ne (Ne.symm hi), kp.set hL _⟩
  · rw [hc, Nat.zero_add, wr_heap h1 (by omega) hv hn, Nat.min_eq_left hL]
  · show (blk.c.set k v).get j = _
    rw [qcn]
    simp only [List.length_set] at hj
    by_cases e : k = j
    · subst e; simp [List.getD, hj]
    · rw [if_neg e, h3 j hj]
      simp [List.getD, List.getElem?_set_ne e]
theorem bels_map {α : Type} {L : Nat} (f : α → AVal) (hf : ∀ a, (f a).bel L = true) : ∀ l : List α, bels L (l.map f) = true
  | [] => rfl
  | a :: l => by simp [bels, hf a, bels_map f hf l]
theorem fitV_bel (T : Nat) (l : List Sp) (k L : Nat) : (AVal.agg (fitV T l k)).bel L = true := by
  unfold fitV
  simp only [AVal.bel]
  exact bels_map _ (fun _ => rfl) _
theorem ones_map {α : Type} (f : α → AVal) (hf : ∀ a, (f a).one = true) : ∀ l : List α, ones (l.map f) = true
  | [] => rfl
  | a :: l => by simp [ones, hf a, ones_map f hf l]
theorem fitV_ones (T : Nat) (l : List Sp) (k : Nat) : ones (fitV T l k) = true := ones_map _ (fun _ => rfl) _

theorem loop62 {ro : List ABlk} {h hp : Heap} {T : Nat} {n : Int} {v v2 : AVal} {l : List Sp} (a : qbm ro h v l) (ok : Ok T n l) (kh : Keep h hp) (d : Holds hp h.length [.i .i64 T, .i .i64 n, v]) {B : Nat} (hB : Holds hp B (fitV T l 0)) (hLB : h.length < B) :
    ∃ hp', loopX (fun s : Int × Mm => g62_b2 (qbw F1 ro) ro (.p (some ⟨false, h.length, 0⟩)) v2 (.p (some ⟨false, B, 0⟩)) v l.length s.1 s.2) (0, ⟨hp, h.length, h.length⟩) = some ⟨hp', h.length, h.length⟩ ∧ Keep h hp' ∧ Holds hp' B (fitV T l l.length) ∧ hp.length ≤ hp'.length ∧ ∀ k, k < hp.length → k ≠ B → hp'[k]? = hp[k]? := by
  obtain ⟨r1, r2, r3, r4⟩ := ok.r
  have hlen := ok.len
  have hT : 1 ≤ T ∧ T ≤ 24 := by omega
  have hloop := loop_all (b := fun s : Int × Mm => g62_b2 (qbw F1 ro) ro (.p (some ⟨false, h.length, 0⟩)) v2 (.p (some ⟨false, B, 0⟩)) v l.length s.1 s.2) l.length (fun i m => m.lw = h.length ∧ m.lp = h.length ∧ Keep h m.h ∧ Holds m.h h.length [.i .i64 T, .i .i64 n, v] ∧ Holds m.h B (fitV T l i) ∧ hp.length ≤ m.h.length ∧ ∀ k, k < hp.length → k ≠ B → m.h[k]? = hp[k]?) ?_ ?_ l.length 0 ⟨hp, h.length, h.length⟩ (by omega) ⟨rfl, rfl, kh, d, hB, Nat.le_refl _, fun _ _ _ => rfl⟩
  · obtain ⟨⟨hr, lw, lp⟩, h1, g1, g2, g3, g4, g5, g6, g7⟩ := hloop
    simp only at g1 g2 g3 g5 g6 g7
    subst g1 g2
    exact ⟨hr, h1, g3, g5, g6, g7⟩
  · rintro i ⟨hq, lw, lp⟩ hi ⟨g1, g2, g3, g4, g5, g6, g7⟩
    simp only at g1 g2 g3 g4 g5 g6 g7
    subst g1 g2
    obtain ⟨q, q1, q2, q3, q4⟩ := qee (a.by g3) hi
    have hs := ok.sp i hi
    have hno := nrm_ok hs ⟨by omega, by omega⟩
    have hset := fun (i' j' : Nat) => fitV_set (T := T) (l := l) (k := i) (i := i') (j := j')
    have hfit := fun (i' j' : Nat) => fitTo_lt (T := T) (l := l) (i := i') (j := j') i
    have hfs : ∀ (i' j' : Nat), (nrm (l.getD i Sp.z)).f = (i' : Int) → (nrm (l.getD i Sp.z)).t = (j' : Int) → fitTo T l i' j' (i + 1) = fitTo T l i' j' i &&& rotN T (2 ^ ((nrm (l.getD i Sp.z)).hi - (nrm (l.getD i Sp.z)).lo + 1).toNat - 1) ((nrm (l.getD i Sp.z)).lo % T).toNat := fun i' j' h1 h2 => by
      conv => lhs; unfold fitTo
      rw [if_pos ⟨h1, h2⟩]
    generalize hse : l.getD i Sp.z = s at *
    obtain ⟨hq1, s1, s2, s3, s4⟩ := tmp_span (ro := ro) g3 s
    have hal := al_ok (ro := ro) (hp := hq) (l := h.length) (p := h.length) 31 z4
    have k1 := g3.trans s3
    have b0 := s2.one (ro := ro) (l := h.length) (p := h.length) (k := 0) (by simp)
    have b1 := s2.one (ro := ro) (l := h.length) (p := h.length) (k := 1) (by simp)
    simp only [List.getD_cons_zero, List.getD_cons_succ] at b0 b1
    -- the span, its less event first
    have hnr : ∃ hq2, (bindO (α := Mm) (cond (decide (s.t < s.f)) (
        bindO (ldM ro ⟨hq1, h.length, h.length⟩ false 4 (.p (some ⟨false, hq.length, 0⟩))) fun v35 =>
        bindP (callM (callX F1 ro) ⟨hq1, h.length, h.length⟩ 77 [v35]) fun v36 m_13 =>
        bindP (stepM ro m_13 (.st 4 (.c (.p (some ⟨false, hq.length, 0⟩))) (.c v36))) fun vn_2 m_14 =>
        some m_14) (some ⟨hq1, h.length, h.length⟩)) fun m => some m) = some ⟨hq2, h.length, h.length⟩ ∧ Holds hq2 hq.length (nrm s).vs ∧ Keep hq hq2 := by
      by_cases hc : s.t < s.f
      · unfold spOk at hs
        obtain ⟨hq2, w1, w2, w3, w4, w5⟩ := s2.st (ro := ro) (h := h) (n := 4) (v := s.turn.v) (vs' := s.turn.vs) rfl rfl rfl rfl g3.1 k1
        have hc77 := qbr (turned77 (ro := ro) (h := hq1) (s := s) (by omega) (by omega)) (l := h.length) (p := h.length) k1.1 k1.1
        refine ⟨hq2, ?_, ?_, ⟨by rw [w3, s4]; omega, fun k hk => by rw [w4 k (by omega)]; exact s3.2 k hk⟩⟩
        · rw [decide_eq_true hc]
          simp only [cond_true, s2.all (ro := ro) (l := h.length) (p := h.length) (n := 4) rfl, qag, hc77, qak, w1]
        · unfold nrm; rw [if_pos hc]; exact w2
      · refine ⟨hq1, by rw [decide_eq_false hc]; rfl, ?_, s3⟩
        unfold nrm; rw [if_neg hc]; exact s2
    obtain ⟨hq2, n1, n2, n3⟩ := hnr
    have n1' : (cond (decide (s.t < s.f)) (
        bindO (ldM ro ⟨hq1, h.length, h.length⟩ false 4 (.p (some ⟨false, hq.length, 0⟩))) fun v35 =>
        bindP (callM (callX F1 ro) ⟨hq1, h.length, h.length⟩ 77 [v35]) fun v36 m_13 =>
        bindP (stepM ro m_13 (.st 4 (.c (.p (some ⟨false, hq.length, 0⟩))) (.c v36))) fun vn_2 m_14 =>
        some m_14) (some ⟨hq1, h.length, h.length⟩) : Option Mm) = some ⟨hq2, h.length, h.length⟩ := by
      cases e : (cond (decide (s.t < s.f)) (
        bindO (ldM ro ⟨hq1, h.length, h.length⟩ false 4 (.p (some ⟨false, hq.length, 0⟩))) fun v35 =>
        bindP (callM (callX F1 ro) ⟨hq1, h.length, h.length⟩ 77 [v35]) fun v36 m_13 =>
        bindP (stepM ro m_13 (.st 4 (.c (.p (some ⟨false, hq.length, 0⟩))) (.c v36))) fun vn_2 m_14 =>
        some m_14) (some ⟨hq1, h.length, h.length⟩) : Option Mm) with
      | none => rw [e] at n1; cases n1
      | some m => rw [e] at n1; exact n1
    have k2 := g3.trans n3
    have d2 := g4.by n3
    have f2 := g5.by n3
    generalize nrm s = u at *
    obtain ⟨i', hi'⟩ : ∃ i' : Nat, u.f = (i' : Int) := ⟨u.f.toNat, by omega⟩
    obtain ⟨j', hj'⟩ : ∃ j' : Nat, u.t = (j' : Int) := ⟨u.t.toNat, by omega⟩
    have c3 := n2.one (ro := ro) (l := h.length) (p := h.length) (k := 3) (by simp)
    have c2 := n2.one (ro := ro) (l := h.length) (p := h.length) (k := 2) (by simp)
    have a0 := n2.oneA (ro := ro) (k := 0) (by simp)
    have a1 := n2.oneA (ro := ro) (k := 1) (by simp)
    have a2 := n2.oneA (ro := ro) (k := 2) (by simp)
    simp only [List.getD_cons_zero, List.getD_cons_succ] at c2 c3 a0 a1 a2
    obtain ⟨c, hc⟩ : ∃ c : Nat, u.hi - u.lo + 1 = (c : Int) := ⟨(u.hi - u.lo + 1).toNat, by omega⟩
    have hc24 : c ≤ 24 := by omega
    have hp2 := pow_le24 hc24
    have hp0 := Nat.two_pow_pos c
    have e1 : shlV .u32 1 (c : Int) = ((2 ^ c : Nat) : Int) := by
      have := shl32 (a := 1) (c := c) (by omega)
      rw [Nat.one_mul, Nat.mod_eq_of_lt (by omega)] at this
      exact this
    have e2 : Go.Vm.wr .u32 (((2 ^ c : Nat) : Int) - 1) = ((2 ^ c - 1 : Nat) : Int) := by rw [wr32]; omega
    have cc : (!decide ((c : Int) < Int.ofNat 0)) = true := by simp
    obtain ⟨q', p1, p2⟩ := ixA2 (b := B) (x := u.f) (y := u.t) hi' hj' (by omega) (by omega)
    have cell := f2.oneA (ro := ro) (k := i' * 6 + j') (by rw [qde]; omega)
    rw [fitV_get (by omega) (by omega)] at cell
    have aq := a.by k2
    have hm := Int.emod_nonneg u.lo (show (T : Int) ≠ 0 by omega)
    have hm2 := Int.emod_lt_of_pos u.lo (show 0 < (T : Int) by omega)
    have h70 := callN_pure (mod70 (ro := ro) (h := hq2) (x := u.lo) (n := n) (v := v) (t := T) (by omega) (by omega)) (by simp [demV, AVal.bel, bels, aq.bel]) rfl
    have h78 := callN_pure (later78' (ro := ro) (n := n) (X := 2 ^ c - 1) (d := u.lo % T) aq hT (by omega) ⟨hm, hm2⟩) (by simp [demV, AVal.bel, bels, aq.bel]) rfl
    have hfl := hfit i' j'
    have hpT := pow_le24 hT.2
    have hrl := @rotN_lt T (2 ^ c - 1) (u.lo % T).toNat
    have hand := and32 (a := fitTo T l i' j' i) (b := rotN T (2 ^ c - 1) (u.lo % T).toNat) (by omega) (by omega)
    have hnew := hfs i' j' hi' hj'
    rw [hc, Int.toNat_natCast] at hnew
    rw [← hnew] at hand
    obtain ⟨hr, w1, w2, w3, w4, w5⟩ := f2.wr (ro := ro) (h := h) (k := i' * 6 + j') (v := .i .u32 ((fitTo T l i' j' (i + 1) : Nat) : Int)) (by rw [qde]; omega) rfl rfl rfl (by omega) k2
    rw [hset i' j' (by omega) (by omega) hi' hj'] at w2
    refine ⟨⟨hr, h.length, h.length⟩, ?_, rfl, rfl, w5, d2.keep (w4 _ (by omega)), w2, by rw [w3]; have := n3.1; omega, fun k hk hkB => by rw [w4 k hkB, n3.2 k (by omega), g7 k hk hkB]⟩
    simp only [g62_b2, qaq, qbj, qdu hi, cond_true, q1, q2, qag, hal, qak, s1, qbu, b0, b1, asI_i, qav, n1', c2, c3, qay, wr_id' (x := u.hi - u.lo) (by omega) (by omega), wr_id' (x := u.hi - u.lo + 1) (by omega) (by omega)]
    rw [hc]
    simp only [cc, chk_true, e1, e2, a0, a1, a2, qag, asI_i, p1, p2, cell, d2.allA (ro := ro) (n := 3) rfl, h70, h78, hand, asP_p, w1]
    rw [qcu (by omega)]
  · rintro ⟨hq, lw, lp⟩ _
    simp only [g62_b2, qaq, qbj, lt_no, cond_false]

theorem dist62 {ro : List ABlk} {h : Heap} {T : Nat} {n : Int} {v : AVal} {l : List Sp} (a : qbm ro h v l) (ok : Ok T n l) : callX F1 ro 62 [demV T n v] h = some (.agg (fitV T l l.length), h, h.length, h.length) := by
  refine g62_ok (qax F1 ro) rfl ?_
  unfold g62
  obtain ⟨r1, r2, r3, r4⟩ := ok.r
  have hT : 1 ≤ T ∧ T ≤ 24 := by omega
  have hb1 : stepM ro ⟨h, h.length, h.length⟩ (.bx 55 3 (.c (demV T n v))) = _ := bx_ok (vs := [.i .i64 T, .i .i64 n, v]) 55 rfl
  have d1 := Holds.new h 55 [.i .i64 T, .i .i64 n, v]
  rw [hb1]
  simp only [qak]
  rw [z36]
  simp only [al_ok, qak]
  have kp : Keep h (h ++ [some (blkOf 55 [.i .i64 T, .i .i64 n, v])] ++ [some (blkOf 84 zu)] ++ [some (blkOf 84 zu)]) := ((Keep.app _).trans (Keep.app _)).trans (Keep.app _)
  have d1' := (d1.ext [some (blkOf 84 zu)]).ext [some (blkOf 84 zu)]
  have dv2 := (Holds.new (h ++ [some (blkOf 55 [.i .i64 T, .i .i64 n, v])]) 84 zu).ext [some (blkOf 84 zu)]
  have dv3 := Holds.new (h ++ [some (blkOf 55 [.i .i64 T, .i .i64 n, v])] ++ [some (blkOf 84 zu)]) 84 zu
  have e1 : (h ++ [some (blkOf 55 [.i .i64 T, .i .i64 n, v])]).length = h.length + 1 := by simp
  have e2 : (h ++ [some (blkOf 55 [.i .i64 T, .i .i64 n, v])] ++ [some (blkOf 84 zu)]).length = h.length + 2 := by simp
  have e3 : (h ++ [some (blkOf 55 [.i .i64 T, .i .i64 n, v])] ++ [some (blkOf 84 zu)] ++ [some (blkOf 84 zu)]).length = h.length + 3 := by simp
  rw [e1] at dv2 ⊢
  rw [e2] at dv3 ⊢
  generalize h ++ [some (blkOf 55 [.i .i64 T, .i .i64 n, v])] ++ [some (blkOf 84 zu)] ++ [some (blkOf 84 zu)] = hp at *
  rw [allV_zero T] at dv3
  obtain ⟨hp1, l1, k1, d2, f1, len1, o1⟩ := fill62 (ro := ro) (v2 := .p (some ⟨false, h.length + 1, 0⟩)) hT kp d1' dv3 (by omega)
  rw [allV_full T l] at f1
  obtain ⟨hp2, l2, k2, f2, len2, o2⟩ := loop62 (v2 := .p (some ⟨false, h.length + 1, 0⟩)) a ok k1 d2 f1 (by omega)
  have b2 := d2.one (ro := ro) (l := h.length) (p := h.length) (k := 2) (by simp)
  simp only [List.getD_cons_zero, List.getD_cons_succ] at b2
  have dv2' : Holds hp2 (h.length + 1) zu := (dv2.keep (o1 _ (by omega))).keep (o2 _ (by omega) (by omega))
  have hzl : zu.length = 36 := by rw [allV_zero T, allV_len]
  obtain ⟨hp3, s1, s2, s3, s4, s5⟩ := dv2'.st (ro := ro) (h := h) (n := 36) (v := .agg (fitV T l l.length)) (vs' := fitV T l l.length) rfl (qde _ _ _).symm (by rw [qde, hzl]) (fitV_ones _ _ _) (by omega) k2
  simp only [qbl, l1, qag, qbu, b2, qbt (a.by k1), asI_i, l2, f2.all (ro := ro) (l := h.length) (p := h.length) (n := 36) (qde _ _ _).symm, s1, qak, s2.all (ro := ro) (l := h.length) (p := h.length) (n := 36) (qde _ _ _).symm, tupA]
  exact qcm s5 (fitV_bel _ _ _ _)

/-- the hours that are left to the next event -/
def openTo (T : Nat) (l : List Sp) (now : List Int) : Nat → Nat
  | 0 => allN T
  | k + 1 => openTo T l now k &&& rotN T (fitTo T l k now.length l.length) (now.getD k 0).toNat
def openN (T : Nat) (l : List Sp) (now : List Int) : Nat := openTo T l now now.length
theorem openTo_lt {T : Nat} {l : List Sp} {now : List Int} : ∀ k, openTo T l now k < 2 ^ T
  | 0 => allN_lt
  | k + 1 => Nat.and_lt_two_pow _ rotN_lt
theorem open65 {ro : List ABlk} {h : Heap} {T : Nat} {n : Int} {v w : AVal} {l : List Sp} {now : List Int} (a : qbm ro h v l) (ok : Ok T n l) (r : IsRow ro h w now) (hn : now.length < 6) (hz : Hz T now) : callX F1 ro 65 [demV T n v, .agg (fitV T l l.length), w] h = some (.i .u32 ((openN T l now : Nat) : Int), h, h.length, h.length) := by
  refine g65_ok (qax F1 ro) rfl ?_
  unfold g65
  obtain ⟨r1, r2, r3, r4⟩ := ok.r
  have hT : 1 ≤ T ∧ T ≤ 24 := by omega
  have hb1 : stepM ro ⟨h, h.length, h.length⟩ (.bx 55 3 (.c (demV T n v))) = _ := bx_ok (vs := [.i .i64 T, .i .i64 n, v]) 55 rfl
  have hb2 : stepM ro ⟨h ++ [some (blkOf 55 [.i .i64 T, .i .i64 n, v])], h.length, h.length⟩ (.bx 84 36 (.c (.agg (fitV T l l.length)))) = _ := bx_ok (vs := fitV T l l.length) 84 (qde _ _ _)
  have d1 := (Holds.new h 55 [.i .i64 T, .i .i64 n, v]).ext [some (blkOf 84 (fitV T l l.length))]
  have d2 := Holds.new (h ++ [some (blkOf 55 [.i .i64 T, .i .i64 n, v])]) 84 (fitV T l l.length)
  have kp : Keep h (h ++ [some (blkOf 55 [.i .i64 T, .i .i64 n, v])] ++ [some (blkOf 84 (fitV T l l.length))]) := (Keep.app _).trans (Keep.app _)
  rw [hb1]
  simp only [qak]
  rw [hb2]
  have e1 : (h ++ [some (blkOf 55 [.i .i64 T, .i .i64 n, v])]).length = h.length + 1 := by simp
  rw [e1] at d2 ⊢
  generalize h ++ [some (blkOf 55 [.i .i64 T, .i .i64 n, v])] ++ [some (blkOf 84 (fitV T l l.length))] = hp at *
  have hw := d1.all (ro := ro) (l := h.length) (p := h.length) (n := 3) rfl
  have h76 := qbr (all76 (ro := ro) (h := hp) (n := n) (v := v) hT) (l := h.length) (p := h.length) kp.1 kp.1
  have ap := a.by kp
  have rp := row_by r kp
  have hpT := pow_le24 hT.2
  have hloop := loop_run (b := fun s : Int × Int => g65_b0 (qbw F1 ro) ro w (.p (some ⟨false, h.length, 0⟩)) (.p (some ⟨false, h.length + 1, 0⟩)) now.length ⟨hp, h.length, h.length⟩ s.1 s.2) (fun i => (((openTo T l now i : Nat) : Int), (i : Int))) now.length (r0 := ((openN T l now : Nat) : Int)) ?_ ?_
  · simp only [qak, hw, qag, qav, h76, asI_i, len_row r, qbl]
    have hl0 : openTo T l now 0 = allN T := rfl
    rw [hl0, show ((0 : Nat) : Int) = 0 from rfl] at hloop
    rw [hloop]
    exact qcm kp rfl
  · simp only [g65_b0, qaq, qbj, lt_no, cond_false]
    rfl
  · intro i hi
    obtain ⟨p, p1, p2⟩ := at_rowK rp hi
    have l1 := (p2 (l := h.length) (q := h.length) (Keep.refl hp)).1
    obtain ⟨q, q1, q2⟩ := ixA2 (b := h.length + 1) (x := (i : Int)) (y := (now.length : Int)) rfl rfl (by omega) hn
    have cell := d2.oneA (ro := ro) (k := i * 6 + now.length) (by rw [qde]; omega)
    rw [fitV_get (by omega) hn] at cell
    have hzi := hz i hi
    have hfl := fitTo_lt (T := T) (l := l) (i := i) (j := now.length) l.length
    have h78 := callN_pure (later78' (ro := ro) (n := n) (X := fitTo T l i now.length l.length) (d := now.getD i 0) ap hT (by omega) hzi) (by simp [demV, AVal.bel, bels, ap.bel]) rfl
    have hol := openTo_lt (T := T) (l := l) (now := now) i
    have hrl := @rotN_lt T (fitTo T l i now.length l.length) (now.getD i 0).toNat
    simp only [g65_b0, qaq, qbj, qdu hi, cond_true, p1, l1, qag, asI_i, d1.allA (ro := ro) (n := 3) rfl, len_row rp, q1, q2, cell, qav, h78, qay, and32 (a := openTo T l now i) (b := rotN T (fitTo T l i now.length l.length) (now.getD i 0).toNat) (by omega) (by omega)]
    rw [qcu (by omega)]
    rfl
end Go.Proofs.YtpjjmdbkgkembaaDoor.T

/- What is open is what the spans allow. -/
open Go.Vm
set_option linter.unusedVariables false
namespace Go.Proofs.YtpjjmdbkgkembaaDoor.T
open Go

/-- the hours of a set, in order -/
def setL (T U : Nat) : List Int := (qel T).filter fun h => U.testBit h.toNat
theorem rot_at {T X d i : Nat} (hT : T ≤ 24) (hX : X < 2 ^ T) (hd : d < T) (hi : i < T) : (rotN T X d).testBit i = X.testBit ((((i : Int) - (d : Int)) % (T : Int)).toNat) := by
  rw [rotN_bit hT hX hd, decide_eq_true hi, Bool.true_and]
  congr 1
  have e : ((i : Int) - (d : Int)) % (T : Int) = (((i + (T - d)) % T : Nat) : Int) := by
    rw [Int.natCast_emod]
    have : ((i + (T - d) : Nat) : Int) = ((i : Int) - d) + T * 1 := by omega
    rw [this, Int.add_mul_emod_self_left]
  rw [e, Int.toNat_natCast]
theorem fit_bit {T : Nat} {n : Int} {l : List Sp} (ok : Ok T n l) {i j d : Nat} (hd : d < T) : ∀ k, k ≤ l.length → ((fitTo T l i j k).testBit d = true ↔ ∀ m, m < k → (nrm (l.getD m Sp.z)).f = (i : Int) → (nrm (l.getD m Sp.z)).t = (j : Int) → ((d : Int) - (nrm (l.getD m Sp.z)).lo) % (T : Int) ≤ (nrm (l.getD m Sp.z)).hi - (nrm (l.getD m Sp.z)).lo)
  | 0, _ => by
    simp only [fitTo, allN_bit, decide_eq_true_eq]
    exact ⟨fun _ m hm => by omega, fun _ => hd⟩
  | k + 1, hk => by
    obtain ⟨r1, r2, r3, r4⟩ := ok.r
    have ih := fit_bit ok (i := i) (j := j) hd k (by omega)
    have hno := nrm_ok (ok.sp k (by omega)) ⟨r1, r2⟩
    by_cases hc : (nrm (l.getD k Sp.z)).f = (i : Int) ∧ (nrm (l.getD k Sp.z)).t = (j : Int)
    · have e : fitTo T l i j (k + 1) = fitTo T l i j k &&& rotN T (2 ^ ((nrm (l.getD k Sp.z)).hi - (nrm (l.getD k Sp.z)).lo + 1).toNat - 1) ((nrm (l.getD k Sp.z)).lo % T).toNat := by
        conv => lhs; unfold fitTo
        rw [if_pos hc]
      rw [e, Nat.testBit_and, Bool.and_eq_true, ih]
      have hm := Int.emod_nonneg (nrm (l.getD k Sp.z)).lo (show (T : Int) ≠ 0 by omega)
      have hm2 := Int.emod_lt_of_pos (nrm (l.getD k Sp.z)).lo (show 0 < (T : Int) by omega)
      have hc2 : 2 ^ ((nrm (l.getD k Sp.z)).hi - (nrm (l.getD k Sp.z)).lo + 1).toNat - 1 < 2 ^ T := by
        have h1 : 2 ^ ((nrm (l.getD k Sp.z)).hi - (nrm (l.getD k Sp.z)).lo + 1).toNat ≤ 2 ^ T := Nat.pow_le_pow_right (by omega) (by omega)
        have := Nat.two_pow_pos ((nrm (l.getD k Sp.z)).hi - (nrm (l.getD k Sp.z)).lo + 1).toNat
        omega
      rw [rot_at (by omega) hc2 (by omega) hd, Nat.testBit_two_pow_sub_one, decide_eq_true_eq]
      have e2 : ((d : Int) - ((((nrm (l.getD k Sp.z)).lo % (T : Int)).toNat : Nat) : Int)) % (T : Int) = ((d : Int) - (nrm (l.getD k Sp.z)).lo) % (T : Int) := by
        rw [show ((((nrm (l.getD k Sp.z)).lo % (T : Int)).toNat : Nat) : Int) = (nrm (l.getD k Sp.z)).lo % (T : Int) by omega, Int.sub_emod_emod]
      rw [e2]
      have hn := Int.emod_nonneg ((d : Int) - (nrm (l.getD k Sp.z)).lo) (show (T : Int) ≠ 0 by omega)
      constructor
      · intro ⟨h1, h2⟩ m hm h3 h4
        rcases Nat.lt_or_ge m k with h5 | h5
        · exact h1 m h5 h3 h4
        · obtain rfl : m = k := by omega
          omega
      · intro h
        refine ⟨fun m hm => h m (by omega), ?_⟩
        have := h k (by omega) hc.1 hc.2
        omega
    · have e : fitTo T l i j (k + 1) = fitTo T l i j k := by
        conv => lhs; unfold fitTo
        rw [if_neg hc]
      rw [e, ih]
      constructor
      · intro h m hm h3 h4
        rcases Nat.lt_or_ge m k with h5 | h5
        · exact h m h5 h3 h4
        · obtain rfl : m = k := by omega
          exact absurd ⟨h3, h4⟩ hc
      · exact fun h m hm => h m (by omega)
theorem open_bit {T : Nat} {l : List Sp} {now : List Int} (hT : T ≤ 24) (hz : Hz T now) {h : Nat} (hh : h < T) : ∀ k, k ≤ now.length → ((openTo T l now k).testBit h = true ↔ ∀ i, i < k → (fitTo T l i now.length l.length).testBit ((((h : Int) - now.getD i 0) % (T : Int)).toNat) = true)
  | 0, _ => by
    simp only [openTo, allN_bit, decide_eq_true_eq]
    exact ⟨fun _ m hm => by omega, fun _ => hh⟩
  | k + 1, hk => by
    have ih := open_bit (l := l) hT hz hh k (by omega)
    have hzk := hz k (by omega)
    simp only [openTo, Nat.testBit_and, Bool.and_eq_true, ih]
    rw [rot_at hT (fitTo_lt _) (by omega) hh, show (((now.getD k 0).toNat : Nat) : Int) = now.getD k 0 by omega]
    constructor
    · intro ⟨h1, h2⟩ i hi
      rcases Nat.lt_or_ge i k with h5 | h5
      · exact h1 i h5
      · obtain rfl : i = k := by omega
        exact h2
    · exact fun h1 => ⟨fun i hi => h1 i (by omega), h1 k (by omega)⟩
theorem nrm_keeps {t : Int} (ht : 1 ≤ t) {s : Sp} (hs : s.lo ≤ s.hi ∧ s.hi ≤ s.lo + t - 1) {z : List Int} : keeps t (nrm s) z ↔ keeps t s z := by
  unfold nrm
  split
  · exact keeps_turn ht hs
  · exact Iff.rfl
theorem nrm_max {s : Sp} : (nrm s).t = max s.f s.t ∧ (nrm s).f = min s.f s.t := by
  unfold nrm
  by_cases hc : s.t < s.f
  · rw [if_pos hc]; simp only [Sp.turn]; omega
  · rw [if_neg hc]; omega
theorem open_step {T : Nat} {n : Int} {l : List Sp} (ok : Ok T n l) {now : List Int} (hz : Hz T now) {h : Nat} (hh : h < T) : (openN T l now).testBit h = true ↔ stepOk T l now (h : Int) := by
  obtain ⟨r1, r2, r3, r4⟩ := ok.r
  unfold openN
  rw [open_bit (by omega) hz hh _ (Nat.le_refl _)]
  have hT0 : (T : Int) ≠ 0 := by omega
  have hTp : 0 < (T : Int) := by omega
  -- the slack of a span whose greater event is the next one
  have sl : ∀ s : Sp, s.t = (now.length : Int) → 0 ≤ s.f → s.f < (now.length : Int) → qef T s (now ++ [(h : Int)]) = ((((h : Int) - now.getD s.f.toNat 0) % (T : Int)) - s.lo) % (T : Int) := by
    intro s h1 h2 h3
    unfold qef hourP
    have e1 : (now ++ [(h : Int)]).getD s.t.toNat 0 = (h : Int) := by
      rw [h1]; simp [List.getD]
    have e2 : (now ++ [(h : Int)]).getD s.f.toNat 0 = now.getD s.f.toNat 0 := by
      simp [List.getD, List.getElem?_append_left (show s.f.toNat < now.length by omega)]
    rw [e1, e2, Int.emod_sub_emod]
  constructor
  · intro hall m hm hmax
    have hs := ok.sp m hm
    have hno := nrm_ok hs ⟨r1, r2⟩
    obtain ⟨n1, n2⟩ := @nrm_max (l.getD m Sp.z)
    have hb := hs
    unfold spOk at hb
    rw [← nrm_keeps r1 (by omega)]
    have hf : (nrm (l.getD m Sp.z)).f = (((nrm (l.getD m Sp.z)).f.toNat : Nat) : Int) := by omega
    have hd := Int.emod_nonneg ((h : Int) - now.getD (nrm (l.getD m Sp.z)).f.toNat 0) hT0
    have hd2 := Int.emod_lt_of_pos ((h : Int) - now.getD (nrm (l.getD m Sp.z)).f.toNat 0) hTp
    have := (fit_bit ok (i := (nrm (l.getD m Sp.z)).f.toNat) (j := now.length) (by omega) l.length (Nat.le_refl _)).1 (hall (nrm (l.getD m Sp.z)).f.toNat (by omega)) m hm hf (by omega)
    unfold keeps
    rw [sl _ (by omega) (by omega) (by omega)]
    rw [Int.toNat_of_nonneg hd] at this
    exact this
  · intro hst i hi
    have hd := Int.emod_nonneg ((h : Int) - now.getD i 0) hT0
    have hd2 := Int.emod_lt_of_pos ((h : Int) - now.getD i 0) hTp
    refine (fit_bit ok (by omega) l.length (Nat.le_refl _)).2 fun m hm h3 h4 => ?_
    have hs := ok.sp m hm
    have hno := nrm_ok hs ⟨r1, r2⟩
    obtain ⟨n1, n2⟩ := @nrm_max (l.getD m Sp.z)
    have hb := hs
    unfold spOk at hb
    have hk := hst m hm (by omega)
    rw [← nrm_keeps r1 (by omega)] at hk
    unfold keeps at hk
    rw [sl _ (by omega) (by omega) (by omega)] at hk
    rw [Int.toNat_of_nonneg hd]
    rw [show (nrm (l.getD m Sp.z)).f.toNat = i by omega] at hk
    exact hk
theorem setL_open {T : Nat} {n : Int} {l : List Sp} (ok : Ok T n l) {now : List Int} (hz : Hz T now) : setL T (openN T l now) = (qel T).filter (stepB T l now) := by
  refine List.filter_congr fun h hh => ?_
  have := mem_hoursL.1 hh
  rw [Bool.eq_iff_iff]
  unfold stepB
  rw [decide_eq_true_eq, open_step ok hz (by omega), show ((h.toNat : Nat) : Int) = h by omega]

/-- a set that is not empty: its least hour, and the rest -/
theorem setL_least {T U : Nat} (hT : T ≤ 24) (h0 : U ≠ 0) (hU : U < 2 ^ T) : setL T U = ((ctzF 32 U : Nat) : Int) :: setL T (U &&& (U - 1)) ∧ ctzF 32 U < T ∧ (U &&& (U - 1)) < 2 ^ T := by
  have hp := pow_le24 hT
  obtain ⟨h1, h2, h3⟩ := ctz_low h0 (show U < 4294967296 by omega)
  have hc := clear_low h0 (show U < 4294967296 by omega)
  have hlt : ctzF 32 U < T := by
    rcases Nat.lt_or_ge (ctzF 32 U) T with h | h
    · exact h
    · have := Nat.testBit_lt_two_pow (Nat.lt_of_lt_of_le hU (Nat.pow_le_pow_right (by omega) h))
      rw [this] at h1; cases h1
  refine ⟨?_, hlt, Nat.and_lt_two_pow _ (by omega)⟩
  generalize ctzF 32 U = k at *
  unfold setL qel
  rw [List.filter_map, List.filter_map]
  have e : ((List.range T).filter ((fun h : Int => U.testBit h.toNat) ∘ fun n : Nat => (n : Int))) = k :: ((List.range T).filter ((fun h : Int => (U &&& (U - 1)).testBit h.toNat) ∘ fun n : Nat => (n : Int))) := by
    have hs : List.range T = List.range k ++ (k :: (List.range (T - k - 1)).map fun j => k + 1 + j) := by
      refine List.ext_getElem (by simp; omega) fun j g1 g2 => ?_
      simp only [List.length_range] at g1
      rw [List.getElem_range]
      rcases Nat.lt_trichotomy j k with h | h | h
      · rw [List.getElem_append_left (by simpa using h)]; simp
      · subst h
        rw [List.getElem_append_right (by simp)]; simp
      · rw [List.getElem_append_right (by simp; omega)]
        simp only [List.length_range]
        obtain ⟨q, rfl⟩ : ∃ q, j = k + 1 + q := ⟨j - k - 1, by omega⟩
        have e1 : k + 1 + q - k = q + 1 := by omega
        simp [e1]
    rw [hs, List.filter_append, List.filter_append]
    have f1 : (List.range k).filter ((fun h : Int => U.testBit h.toNat) ∘ fun n : Nat => (n : Int)) = [] := by
      refine List.filter_eq_nil_iff.2 fun j hj => ?_
      simp only [Function.comp, Int.toNat_natCast, h3 j (List.mem_range.1 hj)]
      simp
    have f2 : (List.range k).filter ((fun h : Int => (U &&& (U - 1)).testBit h.toNat) ∘ fun n : Nat => (n : Int)) = [] := by
      refine List.filter_eq_nil_iff.2 fun j hj => ?_
      simp only [Function.comp, Int.toNat_natCast, hc, h3 j (List.mem_range.1 hj)]
      simp
    rw [f1, f2, List.nil_append, List.nil_append, List.filter_cons, List.filter_cons]
    simp only [Function.comp, Int.toNat_natCast, h1, hc, if_true, ne_eq, not_true_eq_false, decide_false, Bool.and_false, Bool.false_eq_true, if_false]
    congr 1
    refine List.filter_congr fun j hj => ?_
    obtain ⟨q, -, rfl⟩ := List.mem_map.1 hj
    have : decide (¬ (k + 1 + q = k)) = true := decide_eq_true (by omega)
    show U.testBit (((k + 1 + q : Nat) : Int).toNat) = (U.testBit (((k + 1 + q : Nat) : Int).toNat) && decide (¬ ((k + 1 + q : Nat) : Int).toNat = k))
    rw [Int.toNat_natCast, this, Bool.and_true]
  rw [e]
  rfl
theorem setL_zero (T : Nat) : setL T 0 = [] := by
  unfold setL
  exact List.filter_eq_nil_iff.2 fun j _ => by simp
theorem setL_one {T : Nat} (hT : 1 ≤ T) : setL T 1 = [0] := by
  obtain ⟨k, rfl⟩ : ∃ k, T = k + 1 := ⟨T - 1, by omega⟩
  unfold setL qel
  rw [List.range_succ_eq_map, List.map_cons, List.filter_cons]
  have : (List.map (fun n : Nat => (n : Int)) (List.map Nat.succ (List.range k))).filter (fun h : Int => Nat.testBit 1 h.toNat) = [] := by
    refine List.filter_eq_nil_iff.2 fun j hj => ?_
    obtain ⟨a, ha, rfl⟩ := List.mem_map.1 hj
    obtain ⟨b, -, rfl⟩ := List.mem_map.1 ha
    have h1 : Nat.testBit 1 (b + 1) = false := by rw [Nat.testBit_succ]; simp
    show ¬ (Nat.testBit 1 (((b + 1 : Nat) : Int).toNat)) = true
    rw [Int.toNat_natCast, h1]
    simp
  rw [this]
  rfl
end Go.Proofs.YtpjjmdbkgkembaaDoor.T

/- The search of all plans, in steps; what a loop over it asks of its rounds. -/
open Go.Vm
set_option linter.unusedVariables false
namespace Go.Proofs.YtpjjmdbkgkembaaDoor.T
open Go

abbrev u32s (z : List Nat) : List AVal := z.map fun n : Nat => AVal.i .u32 (n : Int)
theorem u32s_get {z : List Nat} {k : Nat} (hk : k < z.length) : (u32s z).getD k und = .i .u32 ((z.getD k 0 : Nat) : Int) := by simp [u32s, List.getD, hk]
theorem u32s_set (z : List Nat) (k x : Nat) : (u32s z).set k (.i .u32 (x : Int)) = u32s (z.set k x) := by
  unfold u32s
  rw [List.map_set]
theorem nset_at {x : List Nat} {k j v : Nat} (hj : j < x.length) : (x.set k v).getD j 0 = if k = j then v else x.getD j 0 := by
  rw [List.getD_eq_getElem?_getD, List.getElem?_set]
  by_cases e : k = j
  · subst e; simp [hj]
  · simp [e]

/-- the record of a loop -/
def recR (ps : List Nat) (asg body : ACode) (t : Tr) (st : LoopState) (p : Option AExit) : ABlk := { e := 0, n := 0, c := .e, g := some (.lp ⟨t, ps, asg, body⟩ st p) }

section
variable {ro : List ABlk} {X : Heap} {b k L0 : Nat} {vs : List AVal} {v : AVal}
theorem Holds.put (a : Holds X b vs) (hb : b ≠ L0) (r : Option ABlk) : Holds (X.set L0 r) b vs := a.keep (List.getElem?_set_ne (Ne.symm hb))
theorem Keep.put {H : Heap} (a : Keep H X) (hb : H.length ≤ L0) (r : Option ABlk) : Keep H (X.set L0 r) := a.set hb r
/-- a cell is written, whatever the record is -/
theorem Holds.setU (a : Holds X b vs) (hk : k < vs.length) (hv : v.one = true) (hc : v.cells = [v]) (hn : nonp [v] = true) (hb : b ≠ L0) :
    ∃ X', (∀ (r : Option ABlk) (l p : Nat), stepM ro ⟨X.set L0 r, l, p⟩ (.st 1 (.c (.p (some ⟨false, b, 0 + k⟩))) (.c v)) = some (und, ⟨X'.set L0 r, min l b, p⟩)) ∧
      (∀ (r : Option ABlk) (l p : Nat), qed ro [] [(⟨false, b, 0 + k⟩, v.cells)] ⟨X.set L0 r, l, p⟩ = some ⟨X'.set L0 r, min l b, p⟩) ∧ Holds X' b (vs.set k v) ∧ X'.length = X.length ∧ ∀ i, i ≠ b → X'[i]? = X[i]? := by
  obtain ⟨blk, h1, h2, h3⟩ := a
  have hl : ∀ r, lget (X.set L0 r) b = some (some blk) := fun r => by rw [lget_of (List.getElem?_set_ne (Ne.symm hb))]; exact h1
  refine ⟨X.set b (some { blk with c := blk.c.set k v }), fun r l p => ?_, fun r l p => ?_, ⟨_, qei h1 _, by simpa using h2, fun j hj => ?_⟩, by simp, fun i hi => List.getElem?_set_ne (Ne.symm hi)⟩
  · rw [Nat.zero_add, st_heap (hl r) (by omega) hv hc hn, List.set_comm _ _ (Ne.symm hb)]
  · rw [hc, Nat.zero_add, wr_heap (hl r) (by omega) hv hn, List.set_comm _ _ (Ne.symm hb)]
  · show (blk.c.set k v).get j = _
    rw [qcn]
    simp only [List.length_set] at hj
    by_cases e : k = j
    · subst e; simp [List.getD, hj]
    · rw [if_neg e, h3 j hj]
      simp [List.getD, List.getElem?_set_ne e]
end

/-- what a loop over all plans asks of its rounds -/
structure Rnd (ro : List ABlk) (ps : List Nat) (asg body : ACode) (P : Tr → Prop) (Hs : Heap) (B L0 Lb nN : Nat) (dem : List AVal) (Zok : List Int → Prop) {σ : Type} (S E : σ → Heap → Nat → Prop) (step : σ → List Int → σ × Bool) : Prop where
  low : Hs.length ≤ L0 ∧ Lb ≤ L0 ∧ B < L0
  base : ∀ s X lp, S s X lp → Keep Hs X ∧ Holds X B dem
  keep : ∀ s X X' lp, S s X lp → X'.length = X.length → (∀ i, i < L0 ∨ L0 + 4 ≤ i → X'[i]? = X[i]?) → S s X' lp
  round : ∀ s X z lp, S s X lp → L0 + 4 ≤ X.length → Holds X (L0 + 2) (ints z) → z.length = nN → Zok z → ∃ X' lw' lp', (∀ t, P t → qeg F1 ro L0 [.sl ⟨false, L0 + 2, 0⟩ nN (.known nN)] (X.set L0 (some (recR ps asg body t .ready none))) =
      some (.b (step s z).2, X'.set L0 (some (recR ps asg body t (if (step s z).2 then .ready else .done) (if (step s z).2 then none else some .ret))), lw', lp')) ∧
      (if (step s z).2 = true then S (step s z).1 X' (min lp lp') else E (step s z).1 X' (min lp lp')) ∧ X.length ≤ X'.length ∧ (∀ i, L0 < i → i < L0 + 4 → X'[i]? = X[i]?) ∧ Lb ≤ lw' ∧ Lb ≤ lp'

/-- rounds until one stops -/
def runF {σ : Type} (step : σ → List Int → σ × Bool) : σ → List (List Int) → σ × Bool
  | s, [] => (s, true)
  | s, z :: R => if (step s z).2 then runF step (step s z).1 R else ((step s z).1, false)
theorem runF_on {σ : Type} {step : σ → List Int → σ × Bool} {s : σ} {z : List Int} {R : List (List Int)} (h : (step s z).2 = true) : runF step s (z :: R) = runF step (step s z).1 R := by
  show (if (step s z).2 then runF step (step s z).1 R else ((step s z).1, false)) = _
  simp [h]
theorem runF_off {σ : Type} {step : σ → List Int → σ × Bool} {s : σ} {z : List Int} {R : List (List Int)} (h : (step s z).2 = false) : runF step s (z :: R) = ((step s z).1, false) := by
  show (if (step s z).2 then runF step (step s z).1 R else ((step s z).1, false)) = _
  simp [h]
theorem runF_app {σ : Type} {step : σ → List Int → σ × Bool} : ∀ {A B : List (List Int)} {s s' : σ} {c : Bool}, runF step s A = (s', c) → runF step s (A ++ B) = cond c (runF step s' B) (s', false)
  | [], B, s, s', c, h => by
    simp only [runF, Prod.mk.injEq] at h
    obtain ⟨rfl, rfl⟩ := h
    rfl
  | z :: A, B, s, s', c, h => by
    rw [List.cons_append]
    cases hc : (step s z).2 with
    | true =>
      rw [runF_on hc] at h ⊢
      exact runF_app h
    | false =>
      rw [runF_off hc] at h ⊢
      simp only [Prod.mk.injEq] at h
      obtain ⟨rfl, rfl⟩ := h
      rfl

/-- the stack of the search: the hours and the untried ones of the first k events -/
structure Stk (T nN L0 : Nat) (l : List Sp) (X : Heap) (k : Nat) (zs : List Int) (Us : List Nat) : Prop where
  zl : zs.length = nN
  ul : Us.length = nN
  kle : k ≤ nN
  b1 : Holds X (L0 + 1) (fitV T l l.length)
  b2 : Holds X (L0 + 2) (ints zs)
  b3 : Holds X (L0 + 3) (u32s Us)
  bits : ∀ i, i < k → Us.getD i 0 < 2 ^ T
  hz : ∀ i, i + 1 < k → 0 ≤ zs.getD i 0 ∧ zs.getD i 0 < T
/-- what is still to come -/
def remK (T nN : Nat) (l : List Sp) (zs : List Int) (Us : List Nat) : Nat → List (List Int)
  | 0 => []
  | k + 1 => (setL T (Us.getD k 0)).flatMap (fun h => ext (stepB T l) T (nN - 1 - k) (zs.take k ++ [h])) ++ remK T nN l zs Us k
theorem remK_congr {T nN : Nat} {l : List Sp} {zs zs' : List Int} {Us Us' : List Nat} : ∀ {k : Nat}, (∀ i, i < k → Us.getD i 0 = Us'.getD i 0) → (∀ i, i < k → zs.take i = zs'.take i) → remK T nN l zs Us k = remK T nN l zs' Us' k
  | 0, _, _ => rfl
  | k + 1, h1, h2 => by
    simp only [remK]
    rw [h1 k (by omega), h2 k (by omega), remK_congr (fun i hi => h1 i (by omega)) (fun i hi => h2 i (by omega))]
/-- how much there is still to be tried, at most -/
def muK (T nN : Nat) (Us : List Nat) : Nat → Nat
  | 0 => 0
  | k + 1 => (setL T (Us.getD k 0)).length * 26 ^ (nN - k) + 1 + muK T nN Us k
theorem muK_congr {T nN : Nat} {Us Us' : List Nat} : ∀ {k : Nat}, (∀ i, i < k → Us.getD i 0 = Us'.getD i 0) → muK T nN Us k = muK T nN Us' k
  | 0, _ => rfl
  | k + 1, h1 => by
    simp only [muK]
    rw [h1 k (by omega), muK_congr fun i hi => h1 i (by omega)]
theorem setL_len (T U : Nat) : (setL T U).length ≤ T := by
  unfold setL
  have := List.length_filter_le (fun h : Int => U.testBit h.toNat) (qel T)
  rw [hoursL_len] at this
  exact this
theorem take_set_ge {z : List Int} {e i : Nat} {x : Int} (h : i ≤ e) : (z.set e x).take i = z.take i := by
  refine List.ext_getElem? fun j => ?_
  rw [List.getElem?_take, List.getElem?_take]
  by_cases hj : j < i
  · rw [if_pos hj, if_pos hj, List.getElem?_set_ne (by omega)]
  · rw [if_neg hj, if_neg hj]
theorem take_set_succ {z : List Int} {e : Nat} {x : Int} (h : e < z.length) : (z.set e x).take (e + 1) = z.take e ++ [x] := by
  have h1 := take_snoc (z := z.set e x) (j := e) (by simpa using h)
  rw [set_at h, if_pos rfl, take_set_ge (Nat.le_refl _)] at h1
  exact h1.symm

section
variable {ro : List ABlk} {Hs : Heap} {T nN B L0 Lb : Nat} {v : AVal} {l : List Sp}
abbrev sl2 (L0 nN : Nat) : AVal := .sl ⟨false, L0 + 2, 0⟩ nN (.known nN)
abbrev sl3 (L0 nN : Nat) : AVal := .sl ⟨false, L0 + 3, 0⟩ nN (.known nN)
noncomputable abbrev b2F (ro : List ABlk) (B L0 nN : Nat) (s : Int × Mm) := g61_b2 (qbw F1 ro) ro (.yld L0) (.p (some ⟨false, B, 0⟩)) (.p (some ⟨false, L0 + 1, 0⟩)) (sl2 L0 nN) (sl3 L0 nN) s.1 s.2
noncomputable abbrev b0F (ro : List ABlk) (B L0 nN : Nat) (s : Int × Mm) := g61_b0 (qbw F1 ro) ro (.yld L0) (.p (some ⟨false, B, 0⟩)) (.p (some ⟨false, L0 + 1, 0⟩)) (sl2 L0 nN) (sl3 L0 nN) s.1 s.2

/-- no hour is left to be tried -/
theorem b2_zero {X : Heap} {e : Nat} {zs : List Int} {Us : List Nat} (st : Stk T nN L0 l X (e + 1) zs Us) (h0 : Us.getD e 0 = 0) (r : Option ABlk) (lw lp : Nat) :
    b2F ro B L0 nN ((e : Int), ⟨X.set L0 r, lw, lp⟩) = some (.inr (.inr (.inl ((e : Int), ⟨X.set L0 r, lw, lp⟩)))) := by
  have hk := st.kle
  have hul := st.ul
  have c := (st.b3.put (L0 := L0) (by omega) r).one (ro := ro) (l := lw) (p := lp) (k := e) (by simp [hul]; omega)
  rw [u32s_get (by omega), h0] at c
  have e0 : ((0 : Nat) : Int) = 0 := rfl
  simp only [b2F, g61_b2, ixS_eq (show e < nN by omega), qag, c, asI_i, qaq, qcc, e0, beq_self_eq_true, Bool.not_true, cond_false]

/-- the least hour that is left is taken -/
theorem b2_take {X : Heap} {e : Nat} {zs : List Int} {Us : List Nat} (hT : T ≤ 24) (st : Stk T nN L0 l X (e + 1) zs Us) (h0 : Us.getD e 0 ≠ 0) (hX : L0 + 4 ≤ X.length) :
    ∃ X', Stk T nN L0 l X' (e + 1) (zs.set e ((ctzF 32 (Us.getD e 0) : Nat) : Int)) (Us.set e (Us.getD e 0 &&& (Us.getD e 0 - 1))) ∧ X'.length = X.length ∧ (∀ i, i < L0 ∨ L0 + 4 ≤ i → X'[i]? = X[i]?) ∧
      ∀ (r : Option ABlk) (lw lp : Nat), lw ≤ X.length → lp ≤ X.length → b2F ro B L0 nN ((e : Int), ⟨X.set L0 r, lw, lp⟩) = (
        qbb (wr .i64 ((e : Int) + 1)) fun x41 =>
        bindO (evP .e (.faddr 1 (.c (.p (some ⟨false, B, 0⟩))))) fun v42 =>
        bindO (ldM ro ⟨X'.set L0 r, min (min lw (L0 + 2)) (L0 + 3), lp⟩ true 1 v42) fun v43 =>
        asI .i64 v43 fun x43 =>
        qar (ltI x41 x43) fun c44 =>
        cond c44 (
          qbb (wr .i64 ((e : Int) + 1)) fun x46 =>
          bindO (ldA ro (X'.set L0 r) false 3 (.p (some ⟨false, B, 0⟩))) fun v49 =>
          bindO (ldA ro (X'.set L0 r) false 36 (.p (some ⟨false, L0 + 1, 0⟩))) fun v50 =>
          bindO (evP .e (.slS 1 (.c (sl2 L0 nN)) none (some (.c (.i .i64 x46))) none)) fun v53 =>
          bindO (callN (callX F1 ro) (X'.set L0 r) 65 [v49, v50, v53]) fun v54 =>
          asI .u32 v54 fun x54 =>
          bindO (evP .e (.ixS 1 (.c (sl3 L0 nN)) (.c (.i .i64 x46)))) fun v55 =>
          asP v55 fun qs =>
          bindO (qed ro [] [(qs, AVal.cells (.i .u32 x54))] ⟨X'.set L0 r, min (min lw (L0 + 2)) (L0 + 3), lp⟩) fun m_13 =>
          some (.inr (.inl (x46, m_13)))) (
          bindP (qen (callX F1 ro) (qeg F1 ro) ⟨X'.set L0 r, min (min lw (L0 + 2)) (L0 + 3), lp⟩ (.yld L0) [sl2 L0 nN]) fun v58 m_14 =>
          asB v58 fun c58 =>
          qar (!c58) fun c59 =>
          cond c59 (
            some (.inr (.inr (.inr m_14)))) (
            some (.inl ((e : Int), m_14))))) := by
  have hk := st.kle
  have hul := st.ul
  have hzl := st.zl
  have hp := pow_le24 hT
  have hU := st.bits e (by omega)
  obtain ⟨hs1, hs2, hs3⟩ := setL_least hT h0 hU
  obtain ⟨X1, w1, -, w2, w3, w4⟩ := st.b2.setU (ro := ro) (L0 := L0) (k := e) (v := .i .i64 ((ctzF 32 (Us.getD e 0) : Nat) : Int)) (by simp [hzl]; omega) rfl rfl rfl (by omega)
  rw [ints_set] at w2
  have b3' : Holds X1 (L0 + 3) (u32s Us) := st.b3.keep (w4 _ (by omega))
  obtain ⟨X2, y1, -, y2, y3, y4⟩ := b3'.setU (ro := ro) (L0 := L0) (k := e) (v := .i .u32 ((Us.getD e 0 &&& (Us.getD e 0 - 1) : Nat) : Int)) (by simp [hul]; omega) rfl rfl rfl (by omega)
  rw [u32s_set] at y2
  refine ⟨X2, ⟨by simpa using hzl, by simpa using hul, hk, (st.b1.keep (w4 _ (by omega))).keep (y4 _ (by omega)), w2.keep (y4 _ (by omega)), y2, fun i hi => ?_, fun i hi => ?_⟩, by rw [y3, w3], fun i hi => by rw [y4 i (by omega), w4 i (by omega)], fun r lw lp hlw hlp => ?_⟩
  · rw [nset_at (by omega)]
    split
    · exact hs3
    · exact st.bits i hi
  · rw [set_at (by omega), if_neg (by omega)]
    exact st.hz i hi
  · have c := (st.b3.put (L0 := L0) (by omega) r).one (ro := ro) (l := lw) (p := lp) (k := e) (by simp [hul]; omega)
    rw [u32s_get (by omega)] at c
    have c2 := (b3'.put (L0 := L0) (by omega) r).one (ro := ro) (l := min lw (L0 + 2)) (p := lp) (k := e) (by simp [hul]; omega)
    rw [u32s_get (by omega)] at c2
    have hne : (!(((Us.getD e 0 : Nat) : Int) == 0)) = true := by simp; exact h0
    have h63 := qbr (least63 (ro := ro) (h := X.set L0 r) (show Us.getD e 0 < 4294967296 by omega)) (l := lw) (p := lp) (by simpa using hlw) (by simpa using hlp)
    have h64 := qbr (without64 (ro := ro) (h := X1.set L0 r) h0 (show Us.getD e 0 < 4294967296 by omega)) (l := min lw (L0 + 2)) (p := lp) (by simp; omega) (by simp; omega)
    simp only [b2F, g61_b2, ixS_eq (show e < nN by omega), qag, c, asI_i, qaq, qcc, hne, cond_true, qav, h63, qak, w1, c2, h64, y1]
    rfl
end
end Go.Proofs.YtpjjmdbkgkembaaDoor.T

/- A loop over all plans is a fold over their list. -/
open Go.Vm
set_option linter.unusedVariables false
namespace Go.Proofs.YtpjjmdbkgkembaaDoor.T
open Go

section
variable {ro : List ABlk} {ps : List Nat} {asg body : ACode} {P : Tr → Prop} {Hs : Heap} {T nN B L0 Lb : Nat} {v : AVal} {l : List Sp} {Zok : List Int → Prop} {σ : Type} {S E : σ → Heap → Nat → Prop} {step : σ → List Int → σ × Bool}

abbrev on' (ps : List Nat) (asg body : ACode) (L0 : Nat) (t : Tr) (X : Heap) : Heap := X.set L0 (some (recR ps asg body t .ready none))
abbrev off' (ps : List Nat) (asg body : ACode) (L0 : Nat) (t : Tr) (X : Heap) : Heap := X.set L0 (some (recR ps asg body t .done (some .ret)))

theorem Stk.by {X X' : Heap} {k : Nat} {zs : List Int} {Us : List Nat} (st : Stk T nN L0 l X k zs Us) (h : ∀ i, L0 < i → i < L0 + 4 → X'[i]? = X[i]?) : Stk T nN L0 l X' k zs Us :=
  ⟨st.zl, st.ul, st.kle, st.b1.keep (h _ (by omega) (by omega)), st.b2.keep (h _ (by omega) (by omega)), st.b3.keep (h _ (by omega) (by omega)), st.bits, st.hz⟩
theorem Stk.low {X : Heap} {k k' : Nat} {zs : List Int} {Us : List Nat} (st : Stk T nN L0 l X k zs Us) (h : k' ≤ k) : Stk T nN L0 l X k' zs Us :=
  ⟨st.zl, st.ul, by have := st.kle; omega, st.b1, st.b2, st.b3, fun i hi => st.bits i (by omega), fun i hi => st.hz i (by omega)⟩

theorem leafL (R : Rnd ro ps asg body P Hs B L0 Lb nN [.i .i64 T, .i .i64 nN, v] Zok S E step) (hT : T ≤ 24) (hn6 : nN ≤ 6) {e : Nat} (he : e + 1 = nN) : ∀ (m : Nat) {s : σ} {X : Heap} {lw lp : Nat} {zs : List Int} {Us : List Nat}, (setL T (Us.getD e 0)).length = m → Stk T nN L0 l X (e + 1) zs Us → S s X lp → L0 + 4 ≤ X.length → Lb ≤ lw → Lb ≤ lp → lw ≤ X.length → lp ≤ X.length → (∀ h ∈ setL T (Us.getD e 0), Zok (zs.take e ++ [h])) →
    ∃ c s' X' lw' lp', runF step s ((setL T (Us.getD e 0)).map fun h => zs.take e ++ [h]) = (s', c) ∧ (if c = true then S s' X' lp' else E s' X' lp') ∧ L0 + 4 ≤ X'.length ∧ Lb ≤ lw' ∧ Lb ≤ lp' ∧ lw' ≤ X'.length ∧ lp' ≤ X'.length ∧
      (c = true → ∃ zs' Us', Stk T nN L0 l X' (e + 1) zs' Us' ∧ Us'.getD e 0 = 0 ∧ (∀ i, i < e → Us'.getD i 0 = Us.getD i 0) ∧ zs'.take e = zs.take e) ∧
      ∀ t, P t → loopX (b2F ro B L0 nN) ((e : Int), ⟨on' ps asg body L0 t X, lw, lp⟩) = some (cond c (.inr (.inl ((e : Int), ⟨on' ps asg body L0 t X', lw', lp'⟩))) (.inr (.inr ⟨off' ps asg body L0 t X', lw', lp'⟩))) := by
  intro m
  induction m with
  | zero =>
    intro s X lw lp zs Us hm st hS hX h1 h2 h3 h4 hZ
    have hnil : setL T (Us.getD e 0) = [] := List.length_eq_zero_iff.1 hm
    have h0 : Us.getD e 0 = 0 := by
      rcases Nat.eq_zero_or_pos (Us.getD e 0) with h | h
      · exact h
      · have := (setL_least hT (by omega) (st.bits e (by omega))).1
        rw [hnil] at this; cases this
    refine ⟨true, s, X, lw, lp, by rw [hnil]; rfl, by rw [if_pos rfl]; exact hS, hX, h1, h2, h3, h4, fun _ => ⟨zs, Us, st, h0, fun _ _ => rfl, rfl⟩, fun t _ => ?_⟩
    exact qbx (b2_zero st h0 _ lw lp)
  | succ m ih =>
    intro s X lw lp zs Us hm st hS hX h1 h2 h3 h4 hZ
    have h0 : Us.getD e 0 ≠ 0 := fun h => by rw [h, setL_zero] at hm; cases hm
    obtain ⟨hs1, hs2, hs3⟩ := setL_least hT h0 (st.bits e (by omega))
    obtain ⟨X1, st1, len1, kp1, eq1⟩ := b2_take (ro := ro) (B := B) hT st h0 hX
    have hS1 := R.keep _ _ _ _ hS len1 kp1
    have hzl := st.zl
    have hul := st.ul
    obtain ⟨low1, low2, low3⟩ := R.low
    generalize hk : ctzF 32 (Us.getD e 0) = k at *
    have hzz : zs.set e (k : Int) = zs.take e ++ [(k : Int)] := by
      have := take_set_succ (z := zs) (e := e) (x := (k : Int)) (by omega)
      rw [List.take_of_length_le (by simp; omega)] at this
      exact this
    have hzok : Zok (zs.set e (k : Int)) := by rw [hzz]; exact hZ _ (by rw [hs1]; exact List.mem_cons_self)
    obtain ⟨X2, lw2, lp2, r1, r2, r3, r4, r5, r6⟩ := R.round s X1 _ lp hS1 (by omega) st1.b2 (by simpa using hzl) hzok
    have hcy : ∀ t, P t → qen (callX F1 ro) (qeg F1 ro) ⟨on' ps asg body L0 t X1, min (min lw (L0 + 2)) (L0 + 3), lp⟩ (.yld L0) [sl2 L0 nN] = some (.b (step s (zs.set e (k : Int))).2, ⟨X2.set L0 (some (recR ps asg body t (if (step s (zs.set e (k : Int))).2 then .ready else .done) (if (step s (zs.set e (k : Int))).2 then none else some .ret))), min (min (min lw (L0 + 2)) (L0 + 3)) lw2, min lp lp2⟩) := by
      intro t ht
      have := r1 t ht
      simp only [qen, this]
    have hdem : ∀ r, ldM ro ⟨X1.set L0 r, min (min lw (L0 + 2)) (L0 + 3), lp⟩ true 1 (.p (some ⟨false, B, 0 + 1⟩)) = some (.i .i64 (nN : Int)) := fun r => by
      have := (((R.base _ _ _ hS1).2).put (L0 := L0) (by omega) r).one (ro := ro) (l := min (min lw (L0 + 2)) (L0 + 3)) (p := lp) (k := 1) (by simp)
      simpa using this
    have hw : Go.Vm.wr .i64 ((e : Int) + 1) = ((e + 1 : Nat) : Int) := qcu (by omega)
    have hone : ∀ t, P t → b2F ro B L0 nN ((e : Int), ⟨on' ps asg body L0 t X, lw, lp⟩) = some (cond (step s (zs.set e (k : Int))).2 (.inl ((e : Int), ⟨on' ps asg body L0 t X2, min (min (min lw (L0 + 2)) (L0 + 3)) lw2, min lp lp2⟩)) (.inr (.inr (.inr ⟨off' ps asg body L0 t X2, min (min (min lw (L0 + 2)) (L0 + 3)) lw2, min lp lp2⟩)))) := by
      intro t ht
      rw [eq1 _ _ _ h3 h4]
      simp only [hw, qay, qbu, qag, hdem, asI_i, qaq, qbj, he, lt_no, cond_false, hcy t ht, qak, asB_b]
      cases (step s (zs.set e (k : Int))).2 <;> rfl
    rw [hs1, List.map_cons, ← hzz]
    cases hc : (step s (zs.set e (k : Int))).2 with
    | true =>
      rw [hc] at hone
      rw [hc, if_pos rfl] at r2
      have hU' : (Us.set e (Us.getD e 0 &&& (Us.getD e 0 - 1))).getD e 0 = Us.getD e 0 &&& (Us.getD e 0 - 1) := by rw [nset_at (by omega), if_pos rfl]
      have ht' : (zs.set e (k : Int)).take e = zs.take e := take_set_ge (Nat.le_refl _)
      obtain ⟨c, s', X', lw', lp', q1, q2, q3, q4, q5, q6, q7, q8, q9⟩ := ih (s := (step s (zs.set e (k : Int))).1) (X := X2) (lw := min (min (min lw (L0 + 2)) (L0 + 3)) lw2) (lp := min lp lp2) (zs := zs.set e (k : Int)) (Us := Us.set e (Us.getD e 0 &&& (Us.getD e 0 - 1)))
        (by rw [hU']; rw [hs1] at hm; simpa using hm) (st1.by r4) r2 (by omega) (by omega) (by omega) (by omega) (by omega) (fun h hh => by rw [ht']; rw [hU'] at hh; exact hZ h (by rw [hs1]; exact List.mem_cons_of_mem _ hh))
      rw [hU', ht'] at q1
      refine ⟨c, s', X', lw', lp', by rw [runF_on hc]; exact q1, q2, q3, q4, q5, q6, q7, fun hcc => ?_, fun t ht => ?_⟩
      · obtain ⟨zs', Us', g1, g2, g3, g4⟩ := q8 hcc
        exact ⟨zs', Us', g1, g2, fun i hi => by rw [g3 i hi, nset_at (by omega), if_neg (by omega)], by rw [g4, ht']⟩
      · exact qct (hone t ht) (q9 t ht)
    | false =>
      rw [hc] at hone
      refine ⟨false, _, X2, _, _, runF_off hc, by rw [hc] at r2; exact r2, by omega, ?_, ?_, ?_, ?_, fun h => (by cases h), fun t ht => qbx (hone t ht)⟩ <;> omega

theorem b0_neg (m : Mm) : b0F ro B L0 nN (-1, m) = some (.inr (.inl m)) := by
  have : (!decide ((-1 : Int) < 0)) = false := by decide
  simp only [b0F, g61_b0, qaq, qbj, this, cond_false]
theorem b0_on {e : Nat} {m m' : Mm} {x : Int} (h : loopX (b2F ro B L0 nN) ((e : Int), m) = some (.inl (x, m'))) : b0F ro B L0 nN ((e : Int), m) = some (.inl (x, m')) := by
  have c : (!decide ((e : Int) < 0)) = true := by rw [decide_eq_false (by omega)]; rfl
  simp only [b0F, g61_b0, qaq, qbj, c, cond_true, qbl]
  rw [show loopX (fun s : Int × Mm => g61_b2 (qbw F1 ro) ro (.yld L0) (.p (some ⟨false, B, 0⟩)) (.p (some ⟨false, L0 + 1, 0⟩)) (sl2 L0 nN) (sl3 L0 nN) s.1 s.2) ((e : Int), m) = _ from h]
  rfl
theorem b0_down {e : Nat} {m m' : Mm} (he : e ≤ 1000) (h : loopX (b2F ro B L0 nN) ((e : Int), m) = some (.inr (.inl ((e : Int), m')))) : b0F ro B L0 nN ((e : Int), m) = some (.inl ((e : Int) - 1, m')) := by
  have c : (!decide ((e : Int) < 0)) = true := by rw [decide_eq_false (by omega)]; rfl
  simp only [b0F, g61_b0, qaq, qbj, c, cond_true, qbl]
  rw [show loopX (fun s : Int × Mm => g61_b2 (qbw F1 ro) ro (.yld L0) (.p (some ⟨false, B, 0⟩)) (.p (some ⟨false, L0 + 1, 0⟩)) (sl2 L0 nN) (sl3 L0 nN) s.1 s.2) ((e : Int), m) = _ from h]
  simp only [qag, qay]
  rw [wr_id' (by omega) (by omega)]
theorem b0_off {e : Nat} {m m' : Mm} (h : loopX (b2F ro B L0 nN) ((e : Int), m) = some (.inr (.inr m'))) : b0F ro B L0 nN ((e : Int), m) = some (.inr (.inr m')) := by
  have c : (!decide ((e : Int) < 0)) = true := by rw [decide_eq_false (by omega)]; rfl
  simp only [b0F, g61_b0, qaq, qbj, c, cond_true, qbl]
  rw [show loopX (fun s : Int × Mm => g61_b2 (qbw F1 ro) ro (.yld L0) (.p (some ⟨false, B, 0⟩)) (.p (some ⟨false, L0 + 1, 0⟩)) (sl2 L0 nN) (sl3 L0 nN) s.1 s.2) ((e : Int), m) = _ from h]
  rfl

theorem holds_take {X : Heap} {b m nn : Nat} {z : List Int} (a : Holds X b (ints z)) (hm : m ≤ z.length) (hn : m ≤ nn) : evP .e (.slS 1 (.c (.sl ⟨false, b, 0⟩ nn (.known nn))) none (some (.c (.i .i64 (m : Int)))) none) = some (.sl ⟨false, b, 0⟩ m (.known nn)) ∧ IsRow ro X (.sl ⟨false, b, 0⟩ m (.known nn)) (z.take m) := by
  obtain ⟨blk, h1, h2, h3⟩ := a
  constructor
  · have hble : Nat.ble m (capB (.known nn) nn) = true := by rw [Nat.ble_eq]; exact hn
    have en : ((m : Nat) : Int) = Int.ofNat m := rfl
    simp only [evP, ev_slS, opd, sl_lh, Option.map_some, Option.map_none, qdj, en, hble, cond_true]
  · simp only [List.length_map] at h2 h3
    refine .inr ⟨⟨false, b, 0⟩, .known nn, blk, by rw [List.length_take]; congr 1; omega, rdB_heap h1 0, by rw [List.length_take, h2]; simp; omega, fun t ht => ?_⟩
    rw [List.length_take] at ht
    rw [Nat.zero_add, h3 t (by omega), map_getD (by omega)]
    simp [List.getD, show t < m by omega]

/-- from one event to the next -/
theorem b2_down (R : Rnd ro ps asg body P Hs B L0 Lb nN [.i .i64 T, .i .i64 nN, v] Zok S E step) (a : qbm ro Hs v l) (ok : Ok T nN l) {e : Nat} (he : e + 1 < nN) {s : σ} {X : Heap} {lw lp : Nat} {zs : List Int} {Us : List Nat} (st : Stk T nN L0 l X (e + 1) zs Us) (h0 : Us.getD e 0 ≠ 0) (hS : S s X lp) (hX : L0 + 4 ≤ X.length) (hlw : lw ≤ X.length) (hlp : lp ≤ X.length) :
    ∃ X' zs' Us', Stk T nN L0 l X' (e + 2) zs' Us' ∧ S s X' lp ∧ X'.length = X.length ∧ remK T nN l zs' Us' (e + 2) = remK T nN l zs Us (e + 1) ∧ muK T nN Us' (e + 2) < muK T nN Us (e + 1) ∧
      ∀ r, loopX (b2F ro B L0 nN) ((e : Int), ⟨X.set L0 r, lw, lp⟩) = some (.inl (((e + 1 : Nat) : Int), ⟨X'.set L0 r, min (min (min lw (L0 + 2)) (L0 + 3)) (L0 + 3), lp⟩)) := by
  obtain ⟨r1, r2, r3, r4⟩ := ok.r
  have hT : T ≤ 24 := by omega
  obtain ⟨low1, low2, low3⟩ := R.low
  have hzl := st.zl
  have hul := st.ul
  obtain ⟨hs1, hs2, hs3⟩ := setL_least hT h0 (st.bits e (by omega))
  obtain ⟨X1, st1, len1, kp1, eq1⟩ := b2_take (ro := ro) (B := B) hT st h0 hX
  have hS1 := R.keep _ _ _ _ hS len1 kp1
  generalize hk : ctzF 32 (Us.getD e 0) = k at *
  have htk : (zs.set e (k : Int)).take (e + 1) = zs.take e ++ [(k : Int)] := take_set_succ (by omega)
  have hHz : Hz T ((zs.set e (k : Int)).take (e + 1)) := by
    intro i hi
    rw [List.length_take] at hi
    have hi' : i < e + 1 := by omega
    have e1 : ((zs.set e (k : Int)).take (e + 1)).getD i 0 = (zs.set e (k : Int)).getD i 0 := by simp [List.getD, hi']
    rw [e1, set_at (by omega)]
    split
    · omega
    · exact st.hz i (by omega)
  have htl : ((zs.set e (k : Int)).take (e + 1)).length = e + 1 := by rw [List.length_take, List.length_set]; omega
  have hol := openTo_lt (T := T) (l := l) (now := (zs.set e (k : Int)).take (e + 1)) ((zs.set e (k : Int)).take (e + 1)).length
  obtain ⟨X2, -, w1, w2, w3, w4⟩ := st1.b3.setU (ro := ro) (L0 := L0) (k := e + 1) (v := .i .u32 ((openN T l ((zs.set e (k : Int)).take (e + 1)) : Nat) : Int)) (by simp [hul]; omega) rfl rfl rfl (by omega)
  rw [u32s_set] at w2
  have hset := setL_open ok hHz
  generalize hop : openN T l ((zs.set e (k : Int)).take (e + 1)) = op at *
  have hopl : op < 2 ^ T := by rw [← hop]; exact hol
  have gU : ∀ i, i < nN → ((Us.set e (Us.getD e 0 &&& (Us.getD e 0 - 1))).set (e + 1) op).getD i 0 = if e + 1 = i then op else if e = i then Us.getD e 0 &&& (Us.getD e 0 - 1) else Us.getD i 0 := fun i hi => by
    rw [nset_at (by simp; omega), nset_at (by omega)]
  refine ⟨X2, zs.set e (k : Int), (Us.set e (Us.getD e 0 &&& (Us.getD e 0 - 1))).set (e + 1) op, ⟨st1.zl, by simpa using hul, by omega, st1.b1.keep (w4 _ (by omega)), st1.b2.keep (w4 _ (by omega)), w2, fun i hi => ?_, fun i hi => ?_⟩, R.keep _ _ _ _ hS1 w3 (fun i hi => w4 i (by omega)), by rw [w3, len1], ?_, ?_, fun r => ?_⟩
  · rw [gU i (by omega)]
    split
    · exact hopl
    · split
      · exact hs3
      · exact st.bits i (by omega)
  · rw [set_at (by omega)]
    split
    · omega
    · exact st.hz i (by omega)
  · have e1 := gU (e + 1) (by omega)
    have e2 := gU e (by omega)
    rw [if_pos rfl] at e1
    rw [if_neg (by omega), if_pos rfl] at e2
    have e3 : remK T nN l (zs.set e (k : Int)) ((Us.set e (Us.getD e 0 &&& (Us.getD e 0 - 1))).set (e + 1) op) e = remK T nN l zs Us e := remK_congr (fun i hi => by rw [gU i (by omega), if_neg (by omega), if_neg (by omega)]) (fun i hi => take_set_ge (by omega))
    show (setL T (((Us.set e (Us.getD e 0 &&& (Us.getD e 0 - 1))).set (e + 1) op).getD (e + 1) 0)).flatMap (fun h => ext (stepB T l) T (nN - 1 - (e + 1)) ((zs.set e (k : Int)).take (e + 1) ++ [h])) ++ ((setL T (((Us.set e (Us.getD e 0 &&& (Us.getD e 0 - 1))).set (e + 1) op).getD e 0)).flatMap (fun h => ext (stepB T l) T (nN - 1 - e) ((zs.set e (k : Int)).take e ++ [h])) ++ remK T nN l (zs.set e (k : Int)) ((Us.set e (Us.getD e 0 &&& (Us.getD e 0 - 1))).set (e + 1) op) e) =
      (setL T (Us.getD e 0)).flatMap (fun h => ext (stepB T l) T (nN - 1 - e) (zs.take e ++ [h])) ++ remK T nN l zs Us e
    rw [e1, e2, e3, hs1, List.flatMap_cons, take_set_ge (Nat.le_refl e), List.append_assoc, hset]
    congr 1
    rw [show nN - 1 - e = (nN - 1 - (e + 1)) + 1 by omega, ← htk]
    rfl
  · have e1 := gU (e + 1) (by omega)
    have e2 := gU e (by omega)
    rw [if_pos rfl] at e1
    rw [if_neg (by omega), if_pos rfl] at e2
    have e3 : muK T nN ((Us.set e (Us.getD e 0 &&& (Us.getD e 0 - 1))).set (e + 1) op) e = muK T nN Us e := muK_congr fun i hi => by rw [gU i (by omega), if_neg (by omega), if_neg (by omega)]
    have hl1 := setL_len T op
    have e4 : (setL T (Us.getD e 0)).length = (setL T (Us.getD e 0 &&& (Us.getD e 0 - 1))).length + 1 := by rw [hs1]; rfl
    simp only [muK]
    rw [e1, e2, e3, e4]
    have e5 : 26 ^ (nN - e) = 26 * 26 ^ (nN - (e + 1)) := by
      rw [← Nat.pow_succ']; congr 1; omega
    have hp : 1 ≤ 26 ^ (nN - (e + 1)) := Nat.pow_pos (show 0 < 26 by omega)
    rw [e5, Nat.add_mul, Nat.one_mul]
    have : (setL T op).length * 26 ^ (nN - (e + 1)) ≤ 24 * 26 ^ (nN - (e + 1)) := Nat.mul_le_mul_right _ (by omega)
    omega
  · refine qbx ?_
    have hb := (R.base _ _ _ hS1)
    have kq : Keep Hs (X1.set L0 r) := hb.1.put low1 r
    have dq := hb.2.put (L0 := L0) (by omega) r
    have aq := a.by kq
    have d1 := dq.one (ro := ro) (l := min (min lw (L0 + 2)) (L0 + 3)) (p := lp) (k := 1) (by simp)
    simp only [List.getD_cons_zero, List.getD_cons_succ] at d1
    obtain ⟨t1, t2⟩ := holds_take (ro := ro) (nn := nN) (m := e + 1) (st1.b2.put (L0 := L0) (by omega) r) (by simp; omega) (by omega)
    have hc := callN_pure (open65 (ro := ro) (h := X1.set L0 r) aq ok t2 (by rw [htl]; omega) hHz) (by simp only [bels, bel_dem aq.bel, fitV_bel, row_bel t2, Bool.and_true]) rfl
    rw [hop] at hc
    have hw : Go.Vm.wr .i64 ((e : Int) + 1) = ((e + 1 : Nat) : Int) := qcu (by omega)
    have hix := ixS_eq (q := ⟨false, L0 + 3, 0⟩) (cap := .known nN) he
    rw [eq1 _ _ _ hlw hlp]
    simp only [hw, qay, qbu, qag, d1, asI_i, qaq, qbj, qdu he, cond_true, dq.allA (ro := ro) (n := 3) rfl, (st1.b1.put (L0 := L0) (by omega) r).allA (ro := ro) (n := 36) (qde _ _ _).symm, t1, hc, hix, asP_p, w1]

theorem outer (R : Rnd ro ps asg body P Hs B L0 Lb nN [.i .i64 T, .i .i64 nN, v] Zok S E step) (a : qbm ro Hs v l) (ok : Ok T nN l) : ∀ (mu : Nat) {k : Nat} {s : σ} {X : Heap} {lw lp : Nat} {zs : List Int} {Us : List Nat}, muK T nN Us k < mu → Stk T nN L0 l X k zs Us → S s X lp → L0 + 4 ≤ X.length → Lb ≤ lw → Lb ≤ lp → lw ≤ X.length → lp ≤ X.length → (∀ z ∈ remK T nN l zs Us k, Zok z) →
    ∃ c s' X' lw' lp', runF step s (remK T nN l zs Us k) = (s', c) ∧ (if c = true then S s' X' lp' else E s' X' lp') ∧ L0 + 4 ≤ X'.length ∧ Lb ≤ lw' ∧ Lb ≤ lp' ∧ lw' ≤ X'.length ∧ lp' ≤ X'.length ∧
      ∀ t, P t → loopX (b0F ro B L0 nN) ((k : Int) - 1, ⟨on' ps asg body L0 t X, lw, lp⟩) = some (cond c (.inl ⟨on' ps asg body L0 t X', lw', lp'⟩) (.inr ⟨off' ps asg body L0 t X', lw', lp'⟩)) := by
  obtain ⟨r1, r2, r3, r4⟩ := ok.r
  have hT : T ≤ 24 := by omega
  intro mu
  induction mu with
  | zero => intro k s X lw lp zs Us h; omega
  | succ mu ih =>
    intro k s X lw lp zs Us hmu st hS hX h1 h2 h3 h4 hZ
    cases k with
    | zero =>
      refine ⟨true, s, X, lw, lp, rfl, by rw [if_pos rfl]; exact hS, hX, h1, h2, h3, h4, fun t _ => qbx ?_⟩
      exact b0_neg _
    | succ e =>
      have hkl := st.kle
      obtain ⟨low1, low2, low3⟩ := R.low
      have ek : (((e + 1 : Nat) : Int)) - 1 = (e : Int) := by omega
      rw [ek]
      by_cases hleaf : e + 1 = nN
      · have hrem : remK T nN l zs Us (e + 1) = ((setL T (Us.getD e 0)).map fun h => zs.take e ++ [h]) ++ remK T nN l zs Us e := by
          show (setL T (Us.getD e 0)).flatMap (fun h => ext (stepB T l) T (nN - 1 - e) (zs.take e ++ [h])) ++ _ = _
          rw [show nN - 1 - e = 0 by omega]
          congr 1
          simp only [ext]
          induction setL T (Us.getD e 0) with
          | nil => rfl
          | cons x xs ih => simp [List.flatMap_cons, ih]
        obtain ⟨c, s', X', lw', lp', q1, q2, q3, q4, q5, q6, q7, q8, q9⟩ := leafL R hT (by omega) hleaf _ rfl st hS hX h1 h2 h3 h4 (fun h hh => hZ _ (by rw [hrem]; exact List.mem_append_left _ (List.mem_map.2 ⟨h, hh, rfl⟩)))
        rw [hrem, runF_app q1]
        cases c with
        | true =>
          obtain ⟨zs', Us', g1, g2, g3, g4⟩ := q8 rfl
          have hr : remK T nN l zs' Us' e = remK T nN l zs Us e := remK_congr (fun i hi => g3 i hi) (fun i hi => by
            have := congrArg (List.take i) g4
            rw [List.take_take, List.take_take, Nat.min_eq_left (by omega)] at this
            exact this)
          have hm : muK T nN Us' e = muK T nN Us e := muK_congr fun i hi => g3 i hi
          have hmu' : muK T nN Us' e < mu := by rw [hm]; simp only [muK] at hmu; omega
          obtain ⟨c2, s2, X2, lw2, lp2, p1, p2, p3, p4, p5, p6, p7, p8⟩ := ih hmu' (g1.low (by omega)) (by rw [if_pos rfl] at q2; exact q2) q3 q4 q5 q6 q7 (fun z hz => hZ z (by rw [hrem]; rw [hr] at hz; exact List.mem_append_right _ hz))
          rw [hr] at p1
          exact ⟨c2, s2, X2, lw2, lp2, p1, p2, p3, p4, p5, p6, p7, fun t ht => qct (b0_down (by omega) (q9 t ht)) (p8 t ht)⟩
        | false => exact ⟨false, s', X', lw', lp', rfl, q2, q3, q4, q5, q6, q7, fun t ht => qbx (b0_off (q9 t ht))⟩
      · by_cases h0 : Us.getD e 0 = 0
        · have hrem : remK T nN l zs Us (e + 1) = remK T nN l zs Us e := by
            show (setL T (Us.getD e 0)).flatMap (fun h => ext (stepB T l) T (nN - 1 - e) (zs.take e ++ [h])) ++ _ = _
            rw [h0, setL_zero]; rfl
          have hmu' : muK T nN Us e < mu := by simp only [muK] at hmu; omega
          obtain ⟨c2, s2, X2, lw2, lp2, p1, p2, p3, p4, p5, p6, p7, p8⟩ := ih hmu' (st.low (by omega)) hS hX h1 h2 h3 h4 (fun z hz => hZ z (by rw [hrem]; exact hz))
          rw [hrem]
          exact ⟨c2, s2, X2, lw2, lp2, p1, p2, p3, p4, p5, p6, p7, fun t ht => qct (b0_down (by omega) (qbx (b2_zero st h0 _ lw lp))) (p8 t ht)⟩
        · obtain ⟨X1, zs1, Us1, g1, g2, g3, g4, g5, g6⟩ := b2_down R a ok (by omega) st h0 hS hX h3 h4
          obtain ⟨c2, s2, X2, lw2, lp2, p1, p2, p3, p4, p5, p6, p7, p8⟩ := ih (show muK T nN Us1 (e + 2) < mu by omega) g1 g2 (by omega) (lw := min (min (min lw (L0 + 2)) (L0 + 3)) (L0 + 3)) (lp := lp) (by omega) (by omega) (by omega) (by omega) (fun z hz => hZ z (by rw [← g4]; exact hz))
          rw [g4] at p1
          have ek2 : (((e + 2 : Nat) : Int)) - 1 = ((e + 1 : Nat) : Int) := by omega
          rw [ek2] at p8
          exact ⟨c2, s2, X2, lw2, lp2, p1, p2, p3, p4, p5, p6, p7, fun t ht => qct (b0_on (g6 _)) (p8 t ht)⟩
end
end Go.Proofs.YtpjjmdbkgkembaaDoor.T

/- A loop over all plans, from its beginning to its end. -/
open Go.Vm
set_option linter.unusedVariables false
namespace Go.Proofs.YtpjjmdbkgkembaaDoor.T
open Go

/-- the newest block is written whole -/
theorem st_last {ro : List ABlk} {e n : Nat} {vs ws : List AVal} (hn : n = ws.length) (hl : ws.length = vs.length) (ho : ones ws = true) (hp : nonp ws = true) :
    ∃ y : ABlk, y.n = ws.length ∧ (∀ j, j < ws.length → y.c.get j = ws.getD j und) ∧ ∀ (h : Heap) (l p : Nat), stepM ro ⟨h ++ [some (blkOf e vs)], l, p⟩ (.st n (.c (.p (some ⟨false, h.length, 0⟩))) (.c (.agg ws))) = some (und, ⟨h ++ [some y], min l h.length, p⟩) := by
  refine ⟨{ blkOf e vs with c := (blkOf e vs).c.splice 0 ws }, hl.symm, fun j hj => ?_, fun h l p => ?_⟩
  · show ((blkOf e vs).c.splice 0 ws).get j = _
    rw [spliceGet, if_pos (by omega)]; simp
  · have hw := wrH_all (vs := ws) (lget_last h (some (blkOf e vs))) (by show ws.length ≤ vs.length; omega) ho
    have hbq : Nat.beq ws.length ws.length = true := Nat.beq_refl _
    subst hn
    simp only [stepM, stepK, opd, st_st, AVal.cells, hbq, cond_true, hw, St.mm, hp, set_end]
theorem st1_last {ro : List ABlk} {e k : Nat} {vs : List AVal} {v : AVal} (hk : k < vs.length) (hv : v.one = true) (hc : v.cells = [v]) (hp : nonp [v] = true) :
    ∃ y : ABlk, y.n = vs.length ∧ (∀ j, j < vs.length → y.c.get j = (vs.set k v).getD j und) ∧ ∀ (h : Heap) (l p : Nat), stepM ro ⟨h ++ [some (blkOf e vs)], l, p⟩ (.st 1 (.c (.p (some ⟨false, h.length, 0 + k⟩))) (.c v)) = some (und, ⟨h ++ [some y], min l h.length, p⟩) := by
  refine ⟨{ blkOf e vs with c := (blkOf e vs).c.set k v }, rfl, fun j hj => ?_, fun h l p => ?_⟩
  · show ((blkOf e vs).c.set k v).get j = _
    rw [qcn]
    by_cases e : k = j
    · subst e; simp [List.getD, hj]
    · rw [if_neg e, get_blk]
      simp [List.getD, List.getElem?_set_ne e]
  · rw [Nat.zero_add, st_heap (lget_last h (some (blkOf e vs))) hk hv hc hp, set_end]
theorem nonp_map {α : Type} (f : α → AVal) (hf : ∀ a L, nonp (f a :: L) = nonp L) : ∀ l : List α, nonp (l.map f) = true
  | [] => rfl
  | a :: l => by rw [List.map_cons, hf, nonp_map f hf l]
theorem Holds.blk {X : Heap} {b : Nat} {y : ABlk} {vs : List AVal} (h : X[b]? = some (some y)) (hn : y.n = vs.length) (hc : ∀ j, j < vs.length → y.c.get j = vs.getD j und) : Holds X b vs := ⟨y, by rw [qbv]; simp [h], hn, hc⟩

section
variable {ro : List ABlk} {ps : List Nat} {asg body : ACode} {P : Tr → Prop} {Hs H0 : Heap} {T nN B L0 Lb : Nat} {v : AVal} {l : List Sp} {Zok : List Int → Prop} {σ : Type} {S E : σ → Heap → Nat → Prop} {step : σ → List Int → σ × Bool}

theorem plans61 (R : Rnd ro ps asg body P Hs B L0 Lb nN [.i .i64 T, .i .i64 nN, v] Zok S E step) (a : qbm ro Hs v l) (ok : Ok T nN l) (hL : H0.length = L0) (hB : Holds H0 B [.i .i64 T, .i .i64 nN, v]) (kH : Keep Hs H0) {s0 : σ}
    (hS0 : ∀ X : Heap, X.length = L0 + 4 → (∀ i, i < L0 → X[i]? = H0[i]?) → S s0 X (L0 + 1)) (hZ : ∀ z ∈ plansL T nN l, Zok z) :
    ∃ c s' X' lw' lp', runF step s0 (plansL T nN l) = (s', c) ∧ (if c = true then S s' X' lp' else E s' X' lp') ∧ L0 + 4 ≤ X'.length ∧ Lb ≤ lw' ∧ Lb ≤ lp' ∧
      ∀ t, P t → callX F1 ro 61 [.yld L0, .p (some ⟨false, B, 0⟩)] (H0 ++ [some (recR ps asg body t .ready none)]) = finM (L0 + 1) (tupA []) ⟨cond c (on' ps asg body L0 t X') (off' ps asg body L0 t X'), lw', lp'⟩ := by
  obtain ⟨low1, low2, low3⟩ := R.low
  obtain ⟨r1, r2, r3, r4⟩ := ok.r
  have hzl : zu.length = 36 := by rw [allV_zero T, allV_len]
  obtain ⟨y1, y1n, y1c, y1s⟩ := st_last (ro := ro) (e := 84) (n := 36) (vs := zu) (ws := fitV T l l.length) (qde _ _ _).symm (by rw [qde, hzl]) (fitV_ones _ _ _) (nonp_map _ (fun _ _ => rfl) _)
  obtain ⟨y3, y3n, y3c, y3s⟩ := st1_last (ro := ro) (e := 81) (k := 0) (vs := rep [AVal.i .u32 0] nN) (v := .i .u32 1) (by rw [rep_len]; omega) rfl rfl rfl
  rw [rep_len] at y3n y3c
  obtain ⟨X0, hX0⟩ : ∃ X0 : Heap, X0 = H0 ++ [none, some y1, some (qdr 3 (.i .i64 0) nN), some y3] := ⟨_, rfl⟩
  have hX0l : X0.length = L0 + 4 := by rw [hX0]; simp [hL]
  have hX0i : ∀ i, i < L0 → X0[i]? = H0[i]? := fun i hi => by rw [hX0]; exact List.getElem?_append_left (by omega)
  have g1 : X0[L0 + 1]? = some (some y1) := by rw [hX0, List.getElem?_append_right (by omega)]; simp [hL]
  have g2 : X0[L0 + 2]? = some (some (qdr 3 (.i .i64 0) nN)) := by rw [hX0, List.getElem?_append_right (by omega)]; simp [hL]
  have g3 : X0[L0 + 3]? = some (some y3) := by rw [hX0, List.getElem?_append_right (by omega)]; simp [hL]
  have hst : Stk T nN L0 l X0 1 (List.replicate nN 0) ((List.replicate nN 0).set 0 1) := by
    refine ⟨by simp, by simp, by omega, Holds.blk g1 y1n y1c, Holds.blk g2 ?_ ?_, Holds.blk g3 ?_ ?_, fun i hi => ?_, fun i hi => by omega⟩
    · simp [newBlk_n]
    · intro j hj
      simp only [List.length_map, List.length_replicate] at hj
      rw [newBlk_get hj, map_getD (by simpa using hj)]
      simp [List.getD, hj]
    · simp [y3n]
    · intro j hj
      simp only [List.length_map, List.length_set, List.length_replicate] at hj
      rw [y3c j hj, ← u32s_set]
      have : rep [AVal.i .u32 0] nN = u32s (List.replicate nN 0) := by rw [rep_map]; simp [u32s, List.map_const']
      rw [this]
      rfl
    · have : i = 0 := by omega
      subst this
      rw [nset_at (by simp; omega), if_pos rfl]
      have : 2 ^ 1 ≤ 2 ^ T := Nat.pow_le_pow_right (by omega) (by omega)
      omega
  have hrem : remK T nN l (List.replicate nN 0) ((List.replicate nN 0).set 0 1) 1 = plansL T nN l := by
    show (setL T (((List.replicate nN 0).set 0 1).getD 0 0)).flatMap (fun h => ext (stepB T l) T (nN - 1 - 0) ((List.replicate nN (0 : Int)).take 0 ++ [h])) ++ [] = _
    rw [nset_at (by simp; omega), if_pos rfl, setL_one (by omega)]
    simp [plansL]
  obtain ⟨c, s', X', lw', lp', q1, q2, q3, q4, q5, q6, q7, q8⟩ := outer R a ok _ (Nat.lt_succ_self _) hst (hS0 X0 hX0l hX0i) (by omega) (lw := L0 + 1) (by omega) (by omega) (by omega) (by omega) (fun z hz => hZ z (by rw [← hrem]; exact hz))
  rw [hrem] at q1
  refine ⟨c, s', X', lw', lp', q1, q2, q3, q4, q5, fun t ht => g61_ok (qax F1 ro) rfl ?_⟩
  have hloop := q8 t ht
  have hon : on' ps asg body L0 t X0 = H0 ++ [some (recR ps asg body t .ready none)] ++ [some y1] ++ [some (qdr 3 (.i .i64 0) nN)] ++ [some y3] := by
    unfold on'
    rw [hX0, List.set_append_right L0 _ (by omega), hL]
    simp
  rw [hon] at hloop
  generalize hrc : some (recR ps asg body t .ready none) = rc at *
  obtain ⟨h1, hh1⟩ : ∃ h1 : Heap, h1 = H0 ++ [rc] := ⟨_, rfl⟩
  rw [← hh1] at hloop ⊢
  have hl1 : h1.length = L0 + 1 := by rw [hh1]; simp [hL]
  have kh1 : Keep H0 h1 := by rw [hh1]; exact Keep.app _
  have d1 := hB.by kh1
  have a1 := a.by (kH.trans kh1)
  have hz0 : (!decide ((0 : Int) < 0)) = true := rfl
  have e62 := cp0 (dist62 a1 ok)
  have ea := al_ok (ro := ro) (hp := h1) (l := h1.length) (p := h1.length) 84 zu
  have kA : ∀ x, Keep h1 (h1 ++ x) := fun x => Keep.app x
  have es := y1s h1 h1.length h1.length
  rw [Nat.min_self] at es
  have b1 := (d1.ext [some y1]).one (ro := ro) (l := h1.length) (p := h1.length) (k := 1) (by simp)
  have emk := mk_ok (ro := ro) (hp := h1 ++ [some y1]) (l := h1.length) (p := h1.length) (e := 3) (es := 1) (bytes := 8) (v := .i .i64 0) (n := nN) (by omega) (by omega)
  have b2 := ((d1.ext [some y1]).ext [some (qdr 3 (.i .i64 0) nN)]).one (ro := ro) (l := h1.length) (p := h1.length) (k := 1) (by simp)
  have emk2 := mk_ok (ro := ro) (hp := h1 ++ [some y1] ++ [some (qdr 3 (.i .i64 0) nN)]) (l := h1.length) (p := h1.length) (e := 81) (es := 1) (bytes := 4) (v := .i .u32 0) (n := nN) (by omega) (by omega)
  have es3 := y3s (h1 ++ [some y1] ++ [some (qdr 3 (.i .i64 0) nN)]) h1.length h1.length
  simp only [List.getD_cons_zero, List.getD_cons_succ] at b1 b2
  have el2 : (h1 ++ [some y1]).length = L0 + 2 := by simp [hl1]
  have el3 : (h1 ++ [some y1] ++ [some (qdr 3 (.i .i64 0) nN)]).length = L0 + 3 := by simp [hl1]
  rw [el2] at emk
  rw [el3] at emk2 es3
  rw [hl1] at e62 ea es b1 b2 emk emk2 es3
  have hmin : min (L0 + 1) (L0 + 3) = L0 + 1 := by omega
  rw [hmin] at es3
  have hix : evP .e (.ixS 1 (.c (sl3 L0 nN)) (.c (.i .i64 0))) = some (.p (some ⟨false, L0 + 3, 0 + 0⟩)) := ixS_eq (i := 0) (by omega)
  have e61 : ((1 : Nat) : Int) - 1 = 0 := by omega
  rw [e61] at hloop
  have ea' : stepM ro ⟨h1, L0 + 1, L0 + 1⟩ (.al 84 [(AVal.i IntKind.u32 0), (AVal.i IntKind.u32 0), (AVal.i IntKind.u32 0), (AVal.i IntKind.u32 0), (AVal.i IntKind.u32 0), (AVal.i IntKind.u32 0), (AVal.i IntKind.u32 0), (AVal.i IntKind.u32 0), (AVal.i IntKind.u32 0), (AVal.i IntKind.u32 0), (AVal.i IntKind.u32 0), (AVal.i IntKind.u32 0), (AVal.i IntKind.u32 0), (AVal.i IntKind.u32 0), (AVal.i IntKind.u32 0), (AVal.i IntKind.u32 0), (AVal.i IntKind.u32 0), (AVal.i IntKind.u32 0), (AVal.i IntKind.u32 0), (AVal.i IntKind.u32 0), (AVal.i IntKind.u32 0), (AVal.i IntKind.u32 0), (AVal.i IntKind.u32 0), (AVal.i IntKind.u32 0), (AVal.i IntKind.u32 0), (AVal.i IntKind.u32 0), (AVal.i IntKind.u32 0), (AVal.i IntKind.u32 0), (AVal.i IntKind.u32 0), (AVal.i IntKind.u32 0), (AVal.i IntKind.u32 0), (AVal.i IntKind.u32 0), (AVal.i IntKind.u32 0), (AVal.i IntKind.u32 0), (AVal.i IntKind.u32 0), (AVal.i IntKind.u32 0)]) = some (.p (some ⟨false, L0 + 1, 0⟩), ⟨h1 ++ [some (blkOf 84 zu)], L0 + 1, L0 + 1⟩) := by rw [z36]; exact ea
  have es3' : stepM ro ⟨h1 ++ [some y1] ++ [some (qdr 3 (.i .i64 0) nN)] ++ [some (qdr 81 (.i .u32 0) nN)], L0 + 1, L0 + 1⟩ (.st 1 (.c (.p (some ⟨false, L0 + 3, 0 + 0⟩))) (.c (.i .u32 1))) = some (und, ⟨h1 ++ [some y1] ++ [some (qdr 3 (.i .i64 0) nN)] ++ [some y3], L0 + 1, L0 + 1⟩) := es3
  have hloop' : (qbw F1 ro).loop (fun s : Int × Mm => g61_b0 (qbw F1 ro) ro (.yld L0) (.p (some ⟨false, B, 0⟩)) (.p (some ⟨false, L0 + 1, 0⟩)) (sl2 L0 nN) (sl3 L0 nN) s.1 s.2) ((0 : Int), ⟨h1 ++ [some y1] ++ [some (qdr 3 (.i .i64 0) nN)] ++ [some y3], L0 + 1, L0 + 1⟩) = _ := hloop
  unfold g61
  rw [hl1]
  refine (bindO_of (d1.all (ro := ro) (l := L0 + 1) (p := L0 + 1) (n := 3) rfl)).trans ?_
  refine (bindP_of e62).trans ?_
  refine (bindP_of ea').trans ?_
  refine (bindP_of es).trans ?_
  refine (bindO_of (qbu ..)).trans ?_
  refine (bindO_of b1).trans ?_
  refine (asI_i ..).trans ?_
  refine (bindP_of emk).trans ?_
  refine (bindO_of (qbu ..)).trans ?_
  refine (bindO_of b2).trans ?_
  refine (asI_i ..).trans ?_
  refine (bindP_of emk2).trans ?_
  refine (bindO_of hix).trans ?_
  refine (bindP_of es3').trans ?_
  refine (bindO_of hloop').trans ?_
  cases c <;> rfl

/-- where the loop has ended -/
def endH (L0 lp : Nat) (X : Heap) : Heap := (if L0 + 1 ≤ lp then X.take (L0 + 1) else X).set L0 none
theorem rng_plans (R : Rnd ro ps asg body P Hs B L0 Lb nN [.i .i64 T, .i .i64 nN, v] Zok S E step) (a : qbm ro Hs v l) (ok : Ok T nN l) (hL : H0.length = L0) (hB : Holds H0 B [.i .i64 T, .i .i64 nN, v]) (kH : Keep Hs H0) {s0 : σ}
    (hS0 : ∀ X : Heap, X.length = L0 + 4 → (∀ i, i < L0 → X[i]? = H0[i]?) → S s0 X (L0 + 1)) (hZ : ∀ z ∈ plansL T nN l, Zok z) {t0 : Tr} (ht0 : P t0) :
    ∃ c s' X' lw' lp', runF step s0 (plansL T nN l) = (s', c) ∧ (if c = true then S s' X' lp' else E s' X' lp') ∧ L0 + 4 ≤ X'.length ∧ Lb ≤ lw' ∧ Lb ≤ lp' ∧
      ∀ lw lp, rngP (callX F1 ro) P ps asg body (.fn 61 [] [.p (some ⟨false, B, 0⟩)]) ⟨H0, lw, lp⟩ = some (cond c .norm .ret, ⟨endH L0 lp' X', min (min lw lw') L0, min lp lp'⟩) := by
  obtain ⟨c, s', X', lw', lp', q1, q2, q3, q4, q5, q6⟩ := plans61 R a ok hL hB kH hS0 hZ
  refine ⟨c, s', X', lw', lp', q1, q2, q3, q4, q5, fun lw lp => rngP_eq ht0 fun t ht => ?_⟩
  have h61 := q6 t ht
  have hb : (tupA ([] : List AVal)).bel (L0 + 1) = true := rfl
  have hcall : ∃ u, callX F1 ro 61 [.yld L0, .p (some ⟨false, B, 0⟩)] (H0 ++ [some (recR ps asg body t .ready none)]) = some (u, (if L0 + 1 ≤ lp' then X'.take (L0 + 1) else X').set L0 (some (recR ps asg body t (cond c .ready .done) (cond c none (some .ret)))), lw', lp') := by
    refine ⟨tupA [], h61.trans ?_⟩
    have e1 : cond c (on' ps asg body L0 t X') (off' ps asg body L0 t X') = X'.set L0 (some (recR ps asg body t (cond c .ready .done) (cond c none (some .ret)))) := by cases c <;> rfl
    rw [e1]
    simp only [finM, gc, hb, Bool.and_true]
    by_cases h : L0 + 1 ≤ lp'
    · have hb2 : Nat.ble (L0 + 1) lp' = true := by rw [Nat.ble_eq]; exact h
      rw [hb2, if_pos rfl, if_pos h, List.take_set]
    · have hb2 : Nat.ble (L0 + 1) lp' = false := by rw [← Bool.not_eq_true, Nat.ble_eq]; exact h
      rw [hb2, if_neg h]
      rfl
  obtain ⟨u, hcall⟩ := hcall
  have hlen : L0 < (if L0 + 1 ≤ lp' then X'.take (L0 + 1) else X').length := by
    split
    · rw [List.length_take]; omega
    · omega
  unfold endH
  generalize (if L0 + 1 ≤ lp' then X'.take (L0 + 1) else X') = XE at *
  have hget : lget (XE.set L0 (some (recR ps asg body t (cond c .ready .done) (cond c none (some .ret))))) L0 = some (some (recR ps asg body t (cond c .ready .done) (cond c none (some .ret)))) := by
    rw [qbv]; simp [hlen]
  have hrec : recB t ps asg body = recR ps asg body t .ready none := rfl
  have hend : endL (XE.set L0 (some (recR ps asg body t (cond c .ready .done) (cond c none (some .ret))))) L0 = some (cond c none (some .ret), XE.set L0 none) := by
    unfold endL
    rw [hget]
    simp only [recR]
    cases c <;> simp [qcp]
  unfold rngT rngA
  simp only [hL, List.nil_append, List.cons_append, hrec, hcall, hend]
  cases c <;> rfl
end
end Go.Proofs.YtpjjmdbkgkembaaDoor.T

/- Plans: how many plans there are. -/
open Go.Vm
set_option linter.unusedVariables false
namespace Go.Proofs.YtpjjmdbkgkembaaDoor.T
open Go

theorem plans44 {ro : List ABlk} {h : Heap} {t n : Int} {v : AVal} : callX F1 ro 44 [demV t n v] h = some (.fn 61 [] [.p (some ⟨false, h.length, 0⟩)], h ++ [some (blkOf 55 [.i .i64 t, .i .i64 n, v])], h.length, h.length) := by
  refine g44_ok (qax F1 ro) rfl ?_
  unfold g44
  have hb1 : stepM ro ⟨h, h.length, h.length⟩ (.bx 55 3 (.c (demV t n v))) = _ := bx_ok (vs := [.i .i64 t, .i .i64 n, v]) 55 rfl
  rw [hb1]
  simp only [qak, qag]
  have hbel : (tupA [AVal.fn 61 [] [.p (some ⟨false, h.length, 0⟩)]]).bel h.length = false := by
    have : Nat.blt h.length h.length = false := by rw [← Bool.not_eq_true, Nat.blt_eq]; omega
    simp [tupA, AVal.bel, bels, this]
  exact fin_new hbel

section
variable {ro : List ABlk} {ps : List Nat} {asg body : ACode} {L0 : Nat} {t : Tr} {X : Heap}
theorem rec_get (hX : L0 < X.length) (b : ABlk) : lget (X.set L0 (some b)) L0 = some (some b) := by rw [qbv]; simp [hX]
theorem rndB_ok (hX : L0 < X.length) (lw lp : Nat) : rndB L0 ⟨on' ps asg body L0 t X, lw, lp⟩ = some ⟨X.set L0 (some (recR ps asg body t .busy none)), min lw L0, lp⟩ := by
  unfold rndB begL on'
  simp only [rec_get hX, recR]
  simp [qcp]
theorem rndE_ok (hX : L0 < X.length) (L : Nat) (e : AExit) (lw lp : Nat) : rndE L L0 e ⟨X.set L0 (some (recR ps asg body t .busy none)), lw, lp⟩ = some (.b e.on, (if L ≤ lp then X.take L else X).set L0 (some (recR ps asg body t e.after e.pend)), min lw L0, lp) := by
  unfold rndE Go.Vm.setL
  simp only [rec_get hX, recR]
  have hb : (AVal.b e.on).bel L = true := rfl
  simp only [gc, hb, Bool.and_true, qcp, List.set_set]
  by_cases h : L ≤ lp
  · have hb2 : Nat.ble L lp = true := by rw [Nat.ble_eq]; exact h
    rw [hb2, if_pos rfl, if_pos h, List.take_set]
  · have hb2 : Nat.ble L lp = false := by rw [← Bool.not_eq_true, Nat.ble_eq]; exact h
    rw [hb2, if_neg h]
    rfl
end
theorem endH_get {L0 lp : Nat} {X : Heap} {i : Nat} (hi : i < L0) : (endH L0 lp X)[i]? = X[i]? := by
  unfold endH
  rw [List.getElem?_set_ne (by omega)]
  split
  · rw [List.getElem?_take, if_pos (by omega)]
  · rfl
theorem endH_holds {L0 lp : Nat} {X : Heap} {b : Nat} {vs : List AVal} (a : Holds X b vs) (hb : b < L0) : Holds (endH L0 lp X) b vs := a.keep (endH_get hb)
theorem endH_keep {L0 lp : Nat} {X H : Heap} (a : Keep H X) (hl : H.length ≤ L0) : Keep H (endH L0 lp X) := by
  refine ⟨?_, fun i hi => by rw [endH_get (by omega)]; exact a.2 i hi⟩
  unfold endH
  have := a.1
  rw [List.length_set]
  split
  · rw [List.length_take]; omega
  · exact this

theorem one_ld {ro : List ABlk} {X : Heap} {b lw lp : Nat} {v : AVal} (a : Holds X b [v]) : ldM ro ⟨X, lw, lp⟩ true 1 (.p (some ⟨false, b, 0⟩)) = some v := by
  have := a.one (ro := ro) (l := lw) (p := lp) (k := 0) (by simp)
  simpa using this

def plL (t n : Int) (l : List Sp) : List (List Int) := plansL t.toNat n.toNat l
theorem bindP2 {β : Type} {o : Option (AVal × Mm)} {f : Mm → Option (AVal × Mm)} {m : Mm} (h : (bindP o fun _ m1 => bindP (f m1) fun _ m2 => some m2) = some m) (k : Mm → Option β) : (bindP o fun _ m1 => bindP (f m1) fun _ m2 => k m2) = k m := by
  obtain ⟨v1, m1, h1, h2⟩ := qaf h
  obtain ⟨v2, m2, h3, h4⟩ := qaf h2
  cases h4
  rw [h1, qak, h3, qak]

end Go.Proofs.YtpjjmdbkgkembaaDoor.T

/- Plan: the least plan. -/
open Go.Vm
set_option linter.unusedVariables false
namespace Go.Proofs.YtpjjmdbkgkembaaDoor.T
open Go

/-- a slice is written to a cell, whatever the record is -/
theorem Holds.setP {ro : List ABlk} {X : Heap} {b k L0 : Nat} {vs : List AVal} {v : AVal} (a : Holds X b vs) (hk : k < vs.length) (hv : v.one = true) (hc : v.cells = [v]) (hn : nonp [v] = false) (hb : b ≠ L0) :
    ∃ X', (∀ (r : Option ABlk) (l p : Nat), stepM ro ⟨X.set L0 r, l, p⟩ (.st 1 (.c (.p (some ⟨false, b, 0 + k⟩))) (.c v)) = some (und, ⟨X'.set L0 r, min l b, min p b⟩)) ∧ Holds X' b (vs.set k v) ∧ X'.length = X.length ∧ ∀ i, i ≠ b → X'[i]? = X[i]? := by
  obtain ⟨blk, h1, h2, h3⟩ := a
  have hl : ∀ r, lget (X.set L0 r) b = some (some blk) := fun r => by rw [lget_of (List.getElem?_set_ne (Ne.symm hb))]; exact h1
  refine ⟨X.set b (some { blk with c := blk.c.set k v }), fun r l p => ?_, ⟨_, qei h1 _, by simpa using h2, fun j hj => ?_⟩, by simp, fun i hi => List.getElem?_set_ne (Ne.symm hi)⟩
  · rw [Nat.zero_add, st_ptr (hl r) (by omega) hv hc hn, List.set_comm _ _ (Ne.symm hb)]
  · show (blk.c.set k v).get j = _
    rw [qcn]
    simp only [List.length_set] at hj
    by_cases e : k = j
    · subst e; simp [List.getD, hj]
    · rw [if_neg e, h3 j hj]
      simp [List.getD, List.getElem?_set_ne e]

/-- the rounds of Plan -/
def fstStep (s : Option (List Int)) (z : List Int) : Option (List Int) × Bool := (some z, false)
theorem fst_run : ∀ (R : List (List Int)), runF fstStep none R = (R.head?, R.isEmpty)
  | [] => rfl
  | z :: R => by rw [runF_off (s := none) (z := z) rfl]; rfl
def fstS (h : Heap) (L0 : Nat) (dem : List AVal) (s : Option (List Int)) (X : Heap) (lp : Nat) : Prop :=
  s = none ∧ lp = L0 + 1 ∧ Keep h X ∧ Holds X (h.length + 3) dem ∧ Holds X h.length [.nsl] ∧ Holds X (h.length + 1) [.i .i64 0]
def fstE (h : Heap) (L0 nN : Nat) (s : Option (List Int)) (X : Heap) (lp : Nat) : Prop :=
  ∃ z, s = some z ∧ lp ≤ h.length ∧ Keep h X ∧ Holds X h.length [sl2 L0 nN] ∧ Holds X (h.length + 1) [.i .i64 0] ∧ Holds X (L0 + 2) (ints z) ∧ z.length = nN
theorem fstR {ro : List ABlk} {h : Heap} {L0 nN : Nat} {dem : List AVal} {Zok : List Int → Prop} (hL : L0 = h.length + 4) :
    Rnd ro [23] k17a0 k17c0 (g17_P0 (.p (some ⟨false, h.length, 0⟩)) (.p (some ⟨false, h.length + 1, 0⟩))) h (h.length + 3) L0 h.length nN dem Zok (fstS h L0 dem) (fstE h L0 nN) fstStep := by
  refine ⟨⟨by omega, by omega, by omega⟩, fun s X lp hS => ⟨hS.2.2.1, hS.2.2.2.1⟩, fun s X X' lp hS hl hk => ?_, fun s X z lp hS hX hz hzl _ => ?_⟩
  · obtain ⟨h1, h2, h3, h4, h5, h6⟩ := hS
    exact ⟨h1, h2, ⟨by rw [hl]; exact h3.1, fun i hi => by rw [hk i (by omega)]; exact h3.2 i hi⟩, h4.keep (hk _ (by omega)), h5.keep (hk _ (by omega)), h6.keep (hk _ (by omega))⟩
  · obtain ⟨h1, h2, h3, h4, h5, h6⟩ := hS
    obtain ⟨X1, w1, w2, w3, w4⟩ := h5.setP (ro := ro) (L0 := L0) (k := 0) (v := sl2 L0 nN) (by simp) rfl rfl rfl (by omega)
    obtain ⟨X2, y1, -, y2, y3, y4⟩ := (h6.keep (w4 _ (by omega))).setU (ro := ro) (L0 := L0) (k := 0) (v := .i .i64 0) (by simp) rfl rfl rfl (by omega)
    have hlen : X2.length = X.length := by rw [y3, w3]
    refine ⟨X2, min (min (min (min X.length L0) h.length) (h.length + 1)) L0, min X.length h.length, fun t ht => ?_, ?_, by omega, fun i hi1 hi2 => by rw [y4 i (by omega), w4 i (by omega)], by omega, by omega⟩
    · refine g17_r0_ok (qax F1 ro) (rec_get (by omega) _) rfl ht ?_
      unfold g17_r0
      have hB := rndB_ok (ps := [23]) (asg := k17a0) (body := k17c0) (t := t) (X := X) (L0 := L0) (by omega) X.length X.length
      have hE := rndE_ok (ps := [23]) (asg := k17a0) (body := k17c0) (t := t) (X := X2) (L0 := L0) (by omega) X.length .ret (min (min (min X.length L0) h.length) (h.length + 1)) (min X.length h.length)
      simp only [List.length_set]
      unfold on' at hB
      rw [hB]
      have w1' := w1 (some (recR [23] k17a0 k17c0 t .busy none)) (min X.length L0) X.length
      have y1' := y1 (some (recR [23] k17a0 k17c0 t .busy none)) (min (min X.length L0) h.length) (min X.length h.length)
      simp only [Nat.add_zero] at w1' y1'
      rw [qag, w1', qak, y1', qak, hE, if_neg (by omega)]
      rfl
    · refine ⟨z, rfl, by omega, ⟨by rw [hlen]; exact h3.1, fun i hi => by rw [y4 i (by omega), w4 i (by omega)]; exact h3.2 i hi⟩, ?_, ?_, (hz.keep (w4 _ (by omega))).keep (y4 _ (by omega)), hzl⟩
      · have := w2.keep (hp' := X2) (y4 _ (by omega))
        simpa using this
      · simpa using y2

def pnE (t n : Int) (l : List Sp) : Int := if rdE t n l = 0 then if (plL t n l).isEmpty then 10 else 0 else rdE t n l
def pnR (t n : Int) (l : List Sp) : List Int := if rdE t n l = 0 then (plL t n l).headD [] else []
theorem p0_17 (a b : AVal) : ∃ t, g17_P0 a b t := ⟨(Tr.e.set 6 a).set 7 b, trivial, by simp [qcn], by simp [qcn]⟩
/-- two answers are written and read -/
theorem ret2' {ro : List ABlk} {h hp : Heap} (kh : Keep h hp) {a b : Nat} {x y u w : AVal} (ha : Holds hp a [x]) (hb : Holds hp b [y]) (hLa : h.length ≤ a) (hLb : h.length ≤ b) (hab : a ≠ b) (u1 : u.one = true) (u2 : u.cells = [u]) (u3 : nonp [u] = true) (w1 : w.one = true) (w2 : w.cells = [w]) (w3 : nonp [w] = true) :
    ∃ hp', (bindP (stepM ro ⟨hp, h.length, h.length⟩ (.st 1 (.c (.p (some ⟨false, a, 0⟩))) (.c u))) fun _ m1 => bindP (stepM ro m1 (.st 1 (.c (.p (some ⟨false, b, 0⟩))) (.c w))) fun _ m2 => some m2) = some ⟨hp', h.length, h.length⟩ ∧ Keep h hp' ∧ Holds hp' a [u] ∧ Holds hp' b [w] := by
  obtain ⟨h1, s1, s2, s3, s4, s5⟩ := ha.set (ro := ro) (h := h) (k := 0) (v := u) (by simp) u1 u2 u3 hLa kh
  obtain ⟨h2, t1, t2, t3, t4, t5⟩ := (hb.keep (s4 b (Ne.symm hab))).set (ro := ro) (h := h) (k := 0) (v := w) (by simp) w1 w2 w3 hLb s5
  simp only [Nat.zero_mul, Nat.add_zero] at s1 t1
  exact ⟨h2, by rw [s1, qak, t1, qak], t5, by simpa using s2.keep (hp' := h2) (t4 a hab), by simpa using t2⟩

theorem plan17 {ro : List ABlk} {h : Heap} {t n : Int} {v : AVal} {l : List Sp} (a : qbm ro h v l) : ∃ u hp, callX F1 ro 17 [.i .i64 t, .i .i64 n, v] h = some (.tup [u, .i .i64 (pnE t n l)], hp, h.length, h.length) ∧ Keep h hp ∧ IsRow ro hp u (pnR t n l) := by
  have fin : ∀ (e : Int) (hp : Heap), Keep h hp → finM h.length (tupA [.nsl, .i .i64 e]) ⟨hp, h.length, h.length⟩ = some (.tup [.nsl, .i .i64 e], h, h.length, h.length) := fun e hp k => qcm k rfl
  have k2 : Keep h (h ++ [some (blkOf 25 [AVal.nsl])] ++ [some (blkOf 26 [(AVal.i IntKind.i64 0)])]) := (Keep.app _).trans (Keep.app _)
  have d6 := (Holds.new h 25 [AVal.nsl]).ext [some (blkOf 26 [(AVal.i IntKind.i64 0)])]
  have d7 := Holds.new (h ++ [some (blkOf 25 [AVal.nsl])]) 26 [(AVal.i IntKind.i64 0)]
  have e1 : (h ++ [some (blkOf 25 [AVal.nsl])]).length = h.length + 1 := by simp
  have e2 : (h ++ [some (blkOf 25 [AVal.nsl])] ++ [some (blkOf 26 [(AVal.i IntKind.i64 0)])]).length = h.length + 2 := by simp
  rw [e1] at d7
  have al1 := al_ok (ro := ro) (hp := h) (l := h.length) (p := h.length) 25 [AVal.nsl]
  have al2 := al_ok (ro := ro) (hp := h ++ [some (blkOf 25 [AVal.nsl])]) (l := h.length) (p := h.length) 26 [(AVal.i IntKind.i64 0)]
  rw [e1] at al2
  generalize h ++ [some (blkOf 25 [AVal.nsl])] ++ [some (blkOf 26 [(AVal.i IntKind.i64 0)])] = h2 at *
  have a2 := a.by k2
  have hs := qbr (read43 (ro := ro) (t := t) (n := n) a2) (l := h.length) (p := h.length) k2.1 k2.1
  have hal := al_ok (ro := ro) (hp := h2) (l := h.length) (p := h.length) 55 z3
  by_cases he : rdE t n l = 0
  · have ok := rdE_ok.1 he
    obtain ⟨r1, r2, r3, r4⟩ := ok.r
    have hd : demR t n v l = demV t n v := by simp only [demR, he, if_true]
    rw [he, hd] at hs
    obtain ⟨hp1, s1, s2, s3, s4, s5⟩ := (Holds.new h2 55 z3).st (ro := ro) (h := h) (n := 3) (v := demV t n v) (vs' := [.i .i64 t, .i .i64 n, v]) rfl rfl rfl (ones3 a.one) k2.1 (k2.trans (Keep.app _))
    have kA : Keep h2 hp1 := ⟨by rw [s3]; simp, fun i hi => by rw [s4 i (by omega)]; exact List.getElem?_append_left hi⟩
    have hl1 : hp1.length = h.length + 3 := by rw [s3]; simp [e2]
    rw [e2] at hal s1 s2
    have hw8 := s2.all (ro := ro) (l := h.length) (p := h.length) (n := 3) rfl
    have hc44 : callM (callX F1 ro) ⟨hp1, h.length, h.length⟩ 44 [demV t n v] = some (.fn 61 [] [.p (some ⟨false, h.length + 3, 0⟩)], ⟨hp1 ++ [some (blkOf 55 [.i .i64 t, .i .i64 n, v])], h.length, h.length⟩) := by
      rw [callM_eq (m := ⟨hp1, h.length, h.length⟩) plans44, hl1]
      have : min h.length (h.length + 3) = h.length := by omega
      simp only [this]
    have hT : t = ((t.toNat : Nat) : Int) := by omega
    have hN : n = ((n.toNat : Nat) : Int) := by omega
    have okN : Ok (t.toNat : Int) (n.toNat : Int) l := by rw [← hT, ← hN]; exact ok
    have hB := Holds.new hp1 55 [.i .i64 t, .i .i64 n, v]
    rw [hl1] at hB
    have kD : Keep h (hp1 ++ [some (blkOf 55 [.i .i64 t, .i .i64 n, v])]) := s5.trans (Keep.app _)
    have hR := fstR (ro := ro) (h := h) (L0 := h.length + 4) (nN := n.toNat) (dem := [.i .i64 (t.toNat : Int), .i .i64 (n.toNat : Int), v]) (Zok := fun _ => True) rfl
    obtain ⟨t0, ht0⟩ := p0_17 (.p (some ⟨false, h.length, 0⟩)) (.p (some ⟨false, h.length + 1, 0⟩))
    have e6 : Holds (hp1 ++ [some (blkOf 55 [.i .i64 t, .i .i64 n, v])]) h.length [AVal.nsl] := (d6.by kA).ext _
    have e7 : Holds (hp1 ++ [some (blkOf 55 [.i .i64 t, .i .i64 n, v])]) (h.length + 1) [(AVal.i IntKind.i64 0)] := (d7.by kA).ext _
    have hlH : (hp1 ++ [some (blkOf 55 [.i .i64 t, .i .i64 n, v])]).length = h.length + 4 := by simp [hl1]
    obtain ⟨c, s', X', lw', lp', q1, q2, q3, q4, q5, q6⟩ := rng_plans hR a okN hlH (by rw [← hT, ← hN]; exact hB) kD (s0 := none) (fun X hX hXi => ⟨rfl, rfl, ⟨by omega, fun i hi => by rw [hXi i (by omega)]; exact kD.2 i hi⟩, (by rw [← hT, ← hN]; exact hB.keep (hXi _ (by omega))), e6.keep (hXi _ (by omega)), e7.keep (hXi _ (by omega))⟩) (fun _ _ => trivial) ht0
    have hrg := q6 h.length h.length
    have m1 : min (min h.length lw') (h.length + 4) = h.length := by omega
    have m2 : min h.length lp' = h.length := by omega
    rw [m1, m2] at hrg
    rw [fst_run] at q1
    have epl : plansL t.toNat n.toNat l = plL t n l := rfl
    rw [epl] at q1
    simp only [Prod.mk.injEq] at q1
    obtain ⟨q1a, q1b⟩ := q1
    cases c with
    | true =>
      simp only [if_true] at q2
      obtain ⟨g0, g1, g2, g3, g4, g5⟩ := q2
      have kE : Keep h (endH (h.length + 4) lp' X') := endH_keep g2 (by omega)
      have f6 := endH_holds (lp := lp') g4 (show h.length < h.length + 4 by omega)
      have f7 := endH_holds (lp := lp') g5 (show h.length + 1 < h.length + 4 by omega)
      generalize hEH : endH (h.length + 4) lp' X' = hE at *
      have ep : pnE t n l = 10 := by simp only [pnE, he, q1b, if_true]
      have er : pnR t n l = [] := by
        have : plL t n l = [] := by simpa using q1b
        simp [pnR, he, this]
      obtain ⟨hp', z1, z2, z3, z4⟩ := ret2' (ro := ro) kE f6 f7 (u := .nsl) (w := .i .i64 10) (Nat.le_refl _) (by omega) (by omega) rfl rfl rfl rfl rfl rfl
      rw [ep, er]
      refine ⟨.nsl, h, g17_ok (qax F1 ro) rfl ?_, Keep.refl h, .inl ⟨rfl, rfl⟩⟩
      unfold g17
      simp only [qav, al1, al2, qak, hs, ext0, ext1, qag, asI_i, hal, s1, qaq, qcc, beq_self_eq_true, Bool.not_true, cond_false, hw8, hc44, hrg, cond_true, onE]
      rw [bindP2 z1]
      simp only [one_ld z3, one_ld z4, qag]
      exact fin _ _ z2
    | false =>
      simp only [Bool.false_eq_true, if_false] at q2
      obtain ⟨z, g0, g1, g2, g3, g4, g5, g6⟩ := q2
      have hend : endH (h.length + 4) lp' X' = X'.set (h.length + 4) none := by unfold endH; rw [if_neg (by omega)]
      have kE : Keep h (endH (h.length + 4) lp' X') := endH_keep g2 (by omega)
      have f6 := endH_holds (lp := lp') g3 (show h.length < h.length + 4 by omega)
      have f7 := endH_holds (lp := lp') g4 (show h.length + 1 < h.length + 4 by omega)
      have fz : Holds (endH (h.length + 4) lp' X') (h.length + 4 + 2) (ints z) := by rw [hend]; exact g5.put (by omega) none
      generalize hEH : endH (h.length + 4) lp' X' = hE at *
      have hne : (plL t n l).isEmpty = false := by simpa using q1b
      have ep : pnE t n l = 0 := by simp [pnE, he, hne]
      have er : pnR t n l = z := by
        rw [g0] at q1a
        have : (plL t n l).headD [] = z := by
          cases hpl : plL t n l with
          | nil => rw [hpl] at q1a; cases q1a
          | cons x xs => rw [hpl] at q1a; simp at q1a; simp [q1a]
        simp only [pnR, he, if_true, this]
      rw [ep, er]
      refine ⟨sl2 (h.length + 4) n.toNat, hE, g17_ok (qax F1 ro) rfl ?_, kE, holds_row fz rfl g6.symm⟩
      unfold g17
      simp only [qav, al1, al2, qak, hs, ext0, ext1, qag, asI_i, hal, s1, qaq, qcc, beq_self_eq_true, Bool.not_true, cond_false, hw8, hc44, hrg, onE, one_ld f6, one_ld f7]
      have hbel : (tupA [sl2 (h.length + 4) n.toNat, .i .i64 0]).bel h.length = false := by
        have := not_bel (L := h.length) (b := h.length + 4 + 2) (off := 0) (len := n.toNat) (cap := .known n.toNat) (by omega)
        simp only [tupA, AVal.bel, bels] at this ⊢
        rw [this]; rfl
      exact fin_new hbel
  · have hd : demR t n v l = .agg z3 := by simp only [demR, he, if_false]
    have ep : pnE t n l = rdE t n l := by simp only [pnE, he, if_false]
    have er : pnR t n l = [] := by simp only [pnR, he, if_false]
    rw [hd] at hs
    obtain ⟨hp1, s1, s2, s3, s4, s5⟩ := (Holds.new h2 55 z3).st (ro := ro) (h := h) (n := 3) (v := .agg z3) (vs' := z3) rfl rfl rfl rfl k2.1 (k2.trans (Keep.app _))
    have kA : Keep h2 hp1 := ⟨by rw [s3]; simp, fun i hi => by rw [s4 i (by omega)]; exact List.getElem?_append_left hi⟩
    have e : (rdE t n l == 0) = false := by simpa using he
    obtain ⟨hp', z1, z2, z3, z4⟩ := ret2' (ro := ro) s5 (d6.by kA) (d7.by kA) (u := .nsl) (w := .i .i64 (rdE t n l)) (Nat.le_refl _) (by omega) (by omega) rfl rfl rfl rfl rfl rfl
    rw [ep, er]
    refine ⟨.nsl, h, g17_ok (qax F1 ro) rfl ?_, Keep.refl h, .inl ⟨rfl, rfl⟩⟩
    unfold g17
    simp only [qav, al1, al2, qak, hs, ext0, ext1, qag, asI_i, hal, s1, qaq, qcc, e, Bool.not_false, cond_true]
    rw [bindP2 z1]
    simp only [one_ld z3, one_ld z4, qag]
    exact fin _ _ z2
end Go.Proofs.YtpjjmdbkgkembaaDoor.T

/- Forests of spans: what their plans can do. -/
open Go.Vm
set_option linter.unusedVariables false
namespace Go.Proofs.YtpjjmdbkgkembaaDoor.T
open Go

theorem foldl_add (c : Int) : ∀ xs : List Int, xs.foldl (· + ·) c = c + xs.foldl (· + ·) 0
  | [] => by simp
  | x :: xs => by
    simp only [List.foldl_cons]
    rw [foldl_add (c + x) xs, foldl_add (0 + x) xs]
    omega
theorem qdk (s : Sp) (ss : List Sp) : loSum (s :: ss) = s.lo + loSum ss := by
  unfold loSum; rw [List.map_cons, List.foldl_cons, foldl_add]; omega
theorem qdl (s : Sp) (ss : List Sp) : hiSum (s :: ss) = s.hi + hiSum ss := by
  unfold hiSum; rw [List.map_cons, List.foldl_cons, foldl_add]; omega
theorem loSum_app : ∀ (a b : List Sp), loSum (a ++ b) = loSum a + loSum b
  | [], b => by simp [loSum]
  | s :: a, b => by rw [List.cons_append, qdk, qdk, loSum_app a b]; omega
theorem hiSum_app : ∀ (a b : List Sp), hiSum (a ++ b) = hiSum a + hiSum b
  | [], b => by simp [hiSum]
  | s :: a, b => by rw [List.cons_append, qdl, qdl, hiSum_app a b]; omega
/-- what hangs together, behind i spans -/
def gr (l : List Sp) : Nat → Int → Int
  | 0, e => e
  | i + 1, e => if gr l i e = gr l i (l.getD i Sp.z).f then gr l i (l.getD i Sp.z).t else gr l i e
theorem gr_same {l : List Sp} {i : Nat} {a b : Int} (h : gr l i a = gr l i b) : gr l (i + 1) a = gr l (i + 1) b := by
  simp only [gr, h]
theorem gr_up {l : List Sp} {i : Nat} {a b : Int} (h : gr l i a = gr l i b) : ∀ {k : Nat}, i ≤ k → gr l k a = gr l k b := by
  intro k hk
  induction k with
  | zero => obtain rfl : i = 0 := by omega
            exact h
  | succ k ih =>
    rcases Nat.lt_or_ge k i with h1 | h1
    · obtain rfl : i = k + 1 := by omega
      exact h
    · exact gr_same (ih h1)
/-- does a span join two groups? -/
def mg (l : List Sp) (i : Nat) : Prop := gr l i (l.getD i Sp.z).t ≠ gr l i (l.getD i Sp.z).f
theorem gr_joined {l : List Sp} {k i : Nat} (h : k < i) : gr l i (l.getD k Sp.z).f = gr l i (l.getD k Sp.z).t := by
  refine gr_up (i := k + 1) ?_ h
  simp only [gr, if_true]
  split <;> rfl
/-- steps from one event to another -/
inductive Wk (l : List Sp) : Int → Int → List Int → List Sp → Prop
  | nil (a : Int) : Wk l a a [] []
  | cons {x : Int} {s : Sp} {b : Int} {xs : List Int} {ss : List Sp} : stepP l x = some s → Wk l s.t b xs ss → Wk l s.f b (x :: xs) (s :: ss)
theorem Wk.app {l : List Sp} {a b c : Int} {xs ys : List Int} {ss ts : List Sp} (h : Wk l a b xs ss) (k : Wk l b c ys ts) : Wk l a c (xs ++ ys) (ss ++ ts) := by
  induction h with
  | nil a => exact k
  | cons h1 h2 ih => exact .cons h1 (ih k)
theorem Wk.le {t n : Int} {l : List Sp} (ok : Ok t n l) {a b : Int} {xs : List Int} {ss : List Sp} (h : Wk l a b xs ss) : loSum ss ≤ hiSum ss := by
  induction h with
  | nil a => simp [loSum, hiSum]
  | cons h1 h2 ih =>
    have := qec ok h1
    rw [qdk, qdl]; omega
def keepE (s : Sp) (f : Int → Int) : Prop := s.lo ≤ f s.t - f s.f ∧ f s.t - f s.f ≤ s.hi
/-- times for all spans that join, with a way of a given length -/
def Reach (l : List Sp) (i : Nat) (a b : Int) : Prop := ∃ xs ss, Wk l a b xs ss ∧ (a :: ss.map Sp.t).Nodup ∧ (∀ e ∈ a :: ss.map Sp.t, gr l i e = gr l i a) ∧
  ∀ D, loSum ss ≤ D → D ≤ hiSum ss → ∃ f : Int → Int, (∀ k, k < i → mg l k → keepE (l.getD k Sp.z) f) ∧ f b - f a = D
theorem split_two {a b c d D : Int} (h1 : a ≤ b) (h2 : c ≤ d) (h3 : a + c ≤ D) (h4 : D ≤ b + d) : ∃ x y, a ≤ x ∧ x ≤ b ∧ c ≤ y ∧ y ≤ d ∧ x + y = D := by
  by_cases h : D - c ≤ b
  · exact ⟨D - c, c, by omega, h, by omega, h2, by omega⟩
  · exact ⟨b, D - b, h1, by omega, by omega, by omega, by omega⟩
theorem split_three {a b c d e f D : Int} (h1 : a ≤ b) (h2 : c ≤ d) (h5 : e ≤ f) (h3 : a + c + e ≤ D) (h4 : D ≤ b + d + f) : ∃ x y z, a ≤ x ∧ x ≤ b ∧ c ≤ y ∧ y ≤ d ∧ e ≤ z ∧ z ≤ f ∧ x + y + z = D := by
  obtain ⟨x, w, x1, x2, w1, w2, hw⟩ := split_two (a := a) (b := b) (c := c + e) (d := d + f) (D := D) h1 (by omega) (by omega) (by omega)
  obtain ⟨y, z, y1, y2, z1, z2, hz⟩ := split_two h2 h5 w1 w2
  exact ⟨x, y, z, x1, x2, y1, y2, z1, z2, by omega⟩
/-- two choices of times, one for the group of an event, one for all others -/
def glue (l : List Sp) (i : Nat) (r : Int) (f g : Int → Int) (c : Int) : Int → Int := fun e => if gr l i e = gr l i r then f e + c else g e
theorem glue_keep {l : List Sp} {i : Nat} {r : Int} {f g : Int → Int} {c : Int} {k : Nat} (hk : k < i) (h1 : keepE (l.getD k Sp.z) f) (h2 : keepE (l.getD k Sp.z) g) : keepE (l.getD k Sp.z) (glue l i r f g c) := by
  have h := gr_joined (l := l) hk
  unfold keepE glue at *
  rw [h]
  by_cases hc : gr l i (l.getD k Sp.z).t = gr l i r
  · rw [if_pos hc, if_pos hc]; omega
  · rw [if_neg hc, if_neg hc]; exact h2
theorem glue_in {l : List Sp} {i : Nat} {r : Int} {f g : Int → Int} {c e : Int} (h : gr l i e = gr l i r) : glue l i r f g c e = f e + c := if_pos h
theorem glue_out {l : List Sp} {i : Nat} {r : Int} {f g : Int → Int} {c e : Int} (h : gr l i e ≠ gr l i r) : glue l i r f g c e = g e := if_neg h
theorem stepP_pos {l : List Sp} {i : Nat} (hi : i < l.length) : stepP l ((i : Int) + 1) = some (l.getD i Sp.z) := by
  unfold stepP
  rw [if_pos (by omega), show ((i : Int) + 1).toNat - 1 = i by omega]
theorem stepP_neg {l : List Sp} {i : Nat} (hi : i < l.length) : stepP l (-((i : Int) + 1)) = some (l.getD i Sp.z).turn := by
  unfold stepP
  rw [if_neg (by omega), if_pos (by omega), show (- -((i : Int) + 1)).toNat - 1 = i by omega]
theorem reach {t n : Int} {l : List Sp} (ok : Ok t n l) : ∀ i, i ≤ l.length → ∀ a b, gr l i a = gr l i b → Reach l i a b := by
  intro i
  induction i with
  | zero =>
    intro _ a b h
    have h : a = b := h
    subst h
    exact ⟨[], [], .nil a, by simp, fun e he => by simp at he; rw [he], fun D h1 h2 => ⟨fun _ => 0, fun k hk => by omega, by simp [loSum, hiSum] at h1 h2; omega⟩⟩
  | succ i ih =>
    intro hi a b hab
    have hsp := ok.sp i (by omega)
    unfold spOk at hsp
    have ih := ih (by omega)
    have sP := stepP_pos (l := l) (i := i) (by omega)
    have sN := stepP_neg (l := l) (i := i) (by omega)
    by_cases hm : mg l i
    · have hm' : gr l i (l.getD i Sp.z).t ≠ gr l i (l.getD i Sp.z).f := hm
      have hG : ∀ e, gr l (i + 1) e = if gr l i e = gr l i (l.getD i Sp.z).f then gr l i (l.getD i Sp.z).t else gr l i e := fun e => rfl
      generalize hs : l.getD i Sp.z = s at *
      by_cases hsame : gr l i a = gr l i b
      · obtain ⟨xs, ss, w, nd, cl, vals⟩ := ih a b hsame
        refine ⟨xs, ss, w, nd, fun e he => gr_same (cl e he), fun D h1 h2 => ?_⟩
        obtain ⟨f, f1, f2⟩ := vals D h1 h2
        refine ⟨glue l i s.f f f (f s.t - s.lo - f s.f), fun k hk hmk => ?_, ?_⟩
        · rcases Nat.lt_or_ge k i with h3 | h3
          · exact glue_keep h3 (f1 k h3 hmk) (f1 k h3 hmk)
          · obtain rfl : k = i := by omega
            rw [hs]
            unfold keepE
            rw [glue_in rfl, glue_out hm']; omega
        · by_cases hA : gr l i a = gr l i s.f
          · rw [glue_in hA, glue_in (by rw [← hsame]; exact hA)]; omega
          · rw [glue_out hA, glue_out (by rw [← hsame]; exact hA)]; exact f2
      · rw [hG a, hG b] at hab
        by_cases hA : gr l i a = gr l i s.f
        · have hB : gr l i b ≠ gr l i s.f := fun h => hsame (by rw [hA, h])
          rw [if_pos hA, if_neg hB] at hab
          obtain ⟨xs, ss, w, nd, cl, vals⟩ := ih a s.f hA
          obtain ⟨ys, ts, w2, nd2, cl2, vals2⟩ := ih s.t b hab
          have l1 := w.le ok
          have l2 := w2.le ok
          refine ⟨xs ++ ((i : Int) + 1) :: ys, ss ++ s :: ts, w.app (.cons sP w2), ?_, ?_, fun D h1 h2 => ?_⟩
          · rw [List.map_append, List.map_cons, ← List.cons_append, List.nodup_append]
            refine ⟨nd, nd2, fun e he e' he' => ?_⟩
            rintro rfl
            exact hm' (by rw [← cl2 e he', cl e he, hA])
          · intro e he
            rw [List.map_append, List.map_cons, ← List.cons_append, List.mem_append] at he
            rw [hG e, hG a, if_pos hA]
            rcases he with he | he
            · rw [if_pos (by rw [cl e he, hA])]
            · rw [if_neg (by rw [cl2 e he]; exact hm'), cl2 e he]
          · rw [loSum_app, qdk] at h1
            rw [hiSum_app, qdl] at h2
            obtain ⟨x, y, z, x1, x2, y1, y2, z1, z2, hz⟩ := split_three l1 hsp.2.2.2.2.2.2.2.1 l2 (show loSum ss + s.lo + loSum ts ≤ D by omega) (by omega)
            obtain ⟨f, f1, f2⟩ := vals x x1 x2
            obtain ⟨g, g1, g2⟩ := vals2 z z1 z2
            refine ⟨glue l i s.f f g (g s.t - y - f s.f), fun k hk hmk => ?_, ?_⟩
            · rcases Nat.lt_or_ge k i with h3 | h3
              · exact glue_keep h3 (f1 k h3 hmk) (g1 k h3 hmk)
              · obtain rfl : k = i := by omega
                rw [hs]
                unfold keepE
                rw [glue_in rfl, glue_out hm']; omega
            · rw [glue_in hA, glue_out hB]; omega
        · have hB : gr l i b = gr l i s.f := by
            rw [if_neg hA] at hab
            by_cases h : gr l i b = gr l i s.f
            · exact h
            · rw [if_neg h] at hab; exact absurd hab hsame
          rw [if_neg hA, if_pos hB] at hab
          obtain ⟨xs, ss, w, nd, cl, vals⟩ := ih a s.t hab
          obtain ⟨ys, ts, w2, nd2, cl2, vals2⟩ := ih s.f b hB.symm
          have l1 := w.le ok
          have l2 := w2.le ok
          have w3 : Wk l s.t b (-((i : Int) + 1) :: ys) (s.turn :: ts) := Wk.cons (s := s.turn) sN w2
          refine ⟨xs ++ (-((i : Int) + 1)) :: ys, ss ++ s.turn :: ts, w.app w3, ?_, ?_, fun D h1 h2 => ?_⟩
          · rw [List.map_append, List.map_cons, ← List.cons_append, List.nodup_append]
            refine ⟨nd, nd2, fun e he e' he' => ?_⟩
            rintro rfl
            have he2 : gr l i e = gr l i s.f := cl2 e he'
            exact hm' (by rw [← hab, ← cl e he, he2])
          · intro e he
            rw [List.map_append, List.map_cons, ← List.cons_append, List.mem_append] at he
            rw [hG e, hG a, if_neg hA]
            rcases he with he | he
            · rw [if_neg (by rw [cl e he]; exact hA), cl e he]
            · have he2 : gr l i e = gr l i s.f := cl2 e he
              rw [if_pos he2, hab]
          · rw [loSum_app, qdk] at h1
            rw [hiSum_app, qdl] at h2
            simp only [Sp.turn] at h1 h2
            obtain ⟨x, y, z, x1, x2, y1, y2, z1, z2, hz⟩ := split_three (c := -s.hi) (d := -s.lo) l1 (by omega) l2 (show loSum ss + -s.hi + loSum ts ≤ D by omega) (by omega)
            obtain ⟨f, f1, f2⟩ := vals x x1 x2
            obtain ⟨g, g1, g2⟩ := vals2 z z1 z2
            refine ⟨glue l i s.f g f (f s.t + y - g s.f), fun k hk hmk => ?_, ?_⟩
            · rcases Nat.lt_or_ge k i with h3 | h3
              · exact glue_keep h3 (g1 k h3 hmk) (f1 k h3 hmk)
              · obtain rfl : k = i := by omega
                rw [hs]
                unfold keepE
                rw [glue_in rfl, glue_out hm']; omega
            · rw [glue_out hA, glue_in hB]; omega
    · have hm' : gr l i (l.getD i Sp.z).t = gr l i (l.getD i Sp.z).f := Classical.not_not.1 hm
      have hG : ∀ e, gr l (i + 1) e = gr l i e := fun e => by
        simp only [gr]
        by_cases h : gr l i e = gr l i (l.getD i Sp.z).f
        · rw [if_pos h, hm', h]
        · rw [if_neg h]
      rw [hG, hG] at hab
      obtain ⟨xs, ss, w, nd, cl, vals⟩ := ih a b hab
      refine ⟨xs, ss, w, nd, fun e he => by rw [hG, hG]; exact cl e he, fun D h1 h2 => ?_⟩
      obtain ⟨f, f1, f2⟩ := vals D h1 h2
      refine ⟨f, fun k hk hmk => ?_, f2⟩
      rcases Nat.lt_or_ge k i with h3 | h3
      · exact f1 k h3 hmk
      · obtain rfl : k = i := by omega
        exact absurd hmk hm
end Go.Proofs.YtpjjmdbkgkembaaDoor.T

/- Rings and plans: what a ring says, and that the search finds one. -/
open Go.Vm
set_option linter.unusedVariables false
namespace Go.Proofs.YtpjjmdbkgkembaaDoor.T
open Go

theorem refP_iff {t a b : Int} (ht : 1 ≤ t) : refP t a b = true ↔ ∀ q, a ≤ t * q → ¬ t * q ≤ b := by
  unfold refP
  rw [decide_eq_true_eq]
  have h5 := Int.emod_add_mul_ediv b t
  have h1 := Int.emod_nonneg b (show t ≠ 0 by omega)
  constructor
  · intro h q h2 h3
    have : t * q ≤ t * (b / t) := Int.mul_le_mul_of_nonneg_left (by rw [Int.le_ediv_iff_mul_le (by omega), Int.mul_comm]; exact h3) (by omega)
    omega
  · intro h
    have := h (b / t)
    omega
/- steps as a list -/
theorem Wk.len {l : List Sp} {a b : Int} {xs : List Int} {ss : List Sp} (h : Wk l a b xs ss) : ss.length = xs.length := by
  induction h with
  | nil a => rfl
  | cons h1 h2 ih => simp [ih]
theorem Wk.ev {l : List Sp} {a b : Int} {xs : List Int} {ss : List Sp} (h : Wk l a b xs ss) : a :: ss.map Sp.t = ss.map Sp.f ++ [b] := by
  induction h with
  | nil a => rfl
  | cons h1 h2 ih => rw [List.map_cons, List.map_cons, ih]; rfl
theorem Wk.st {l : List Sp} {a b : Int} {xs : List Int} {ss : List Sp} (h : Wk l a b xs ss) : ∀ i, i < xs.length → stepP l (xs.getD i 0) = some (ss.getD i Sp.z) := by
  induction h with
  | nil a => intro i hi; simp at hi
  | cons h1 h2 ih =>
    intro i hi
    cases i with
    | zero => exact h1
    | succ i => simpa using ih i (by simpa using hi)
theorem Wk.head {l : List Sp} {a b : Int} {xs : List Int} {ss : List Sp} (h : Wk l a b xs ss) (hl : 0 < xs.length) : (ss.getD 0 Sp.z).f = a := by
  cases h with
  | nil => simp at hl
  | cons h1 h2 => rfl
theorem Wk.last {l : List Sp} {a b : Int} {xs : List Int} {ss : List Sp} (h : Wk l a b xs ss) (hl : 0 < xs.length) : (ss.getD (xs.length - 1) Sp.z).t = b := by
  induction h with
  | nil => simp at hl
  | cons h1 h2 ih =>
    rename_i x s b xs ss
    by_cases h0 : 0 < xs.length
    · have := ih h0
      have e : (x :: xs).length - 1 = xs.length - 1 + 1 := by simp; omega
      rw [e]
      simpa using this
    · have : xs = [] := List.length_eq_zero_iff.1 (by omega)
      subst this
      have hss : ss = [] := List.length_eq_zero_iff.1 (by simpa using h2.len)
      subst hss
      have := h2.ev
      simpa using this
theorem Wk.nx {l : List Sp} {a b : Int} {xs : List Int} {ss : List Sp} (h : Wk l a b xs ss) : ∀ i, i + 1 < xs.length → (ss.getD i Sp.z).t = (ss.getD (i + 1) Sp.z).f := by
  induction h with
  | nil => intro i hi; simp at hi
  | cons h1 h2 ih =>
    intro i hi
    cases i with
    | zero => 
      have := h2.head (by simpa using hi)
      simpa using this.symm
    | succ i => simpa using ih i (by simpa using hi)
theorem nodup_ends {ss : List Sp} (nd : (ss.map Sp.t).Nodup) : Pre.ends ss.length ss := by
  intro i j hij hj
  rw [List.nodup_iff_pairwise_ne, List.pairwise_iff_getElem] at nd
  have := nd i j (by simp; omega) (by simp; omega) hij
  simpa [List.getD, show i < ss.length by omega, hj] using this
theorem Wk.ring {l : List Sp} {a : Int} {xs : List Int} {ss : List Sp} (h : Wk l a a xs ss) (nd : (ss.map Sp.t).Nodup) (h2 : 2 ≤ xs.length) : RingC l xs ss :=
  ⟨⟨h.len, Nat.le_refl _, h.st, h.nx⟩, by rw [← h.len]; exact nodup_ends nd, h2, by rw [h.last (by omega), h.head (by omega)]⟩
theorem wk_of {l : List Sp} : ∀ (xs : List Int) (ss : List Sp), ss.length = xs.length → (∀ i, i < xs.length → stepP l (xs.getD i 0) = some (ss.getD i Sp.z)) → (∀ i, i + 1 < xs.length → (ss.getD i Sp.z).t = (ss.getD (i + 1) Sp.z).f) → 0 < xs.length → Wk l (ss.getD 0 Sp.z).f (ss.getD (xs.length - 1) Sp.z).t xs ss
  | [], ss, hl, hs, hn, h0 => by simp at h0
  | x :: xs, [], hl, hs, hn, h0 => by simp at hl
  | x :: xs, s :: ss, hl, hs, hn, h0 => by
    have h1 : stepP l x = some s := hs 0 (by simp)
    by_cases hz : 0 < xs.length
    · have ih := wk_of xs ss (by simpa using hl) (fun i hi => by simpa using hs (i + 1) (by simpa using hi)) (fun i hi => by simpa using hn (i + 1) (by simpa using hi)) hz
      have hnx : s.t = (ss.getD 0 Sp.z).f := by simpa using hn 0 (by simpa using hz)
      have e : (x :: xs).length - 1 = xs.length - 1 + 1 := by simp; omega
      rw [e]
      have e2 : ((s :: ss).getD (xs.length - 1 + 1) Sp.z) = ss.getD (xs.length - 1) Sp.z := by simp
      rw [e2]
      rw [← hnx] at ih
      exact .cons h1 ih
    · have hx : xs = [] := List.length_eq_zero_iff.1 (by omega)
      subst hx
      have hss : ss = [] := List.length_eq_zero_iff.1 (by simpa using hl)
      subst hss
      exact .cons h1 (.nil _)
theorem ends_nodup {ss : List Sp} (h : Pre.ends ss.length ss) : (ss.map Sp.t).Nodup := by
  rw [List.nodup_iff_pairwise_ne, List.pairwise_iff_getElem]
  intro i j hi hj hij
  simp only [List.length_map] at hi hj
  have := h i j hij hj
  simpa [List.getD, hi, hj] using this
theorem ring_wk {l : List Sp} {xs : List Int} {ss : List Sp} (rc : RingC l xs ss) : Wk l (ss.getD 0 Sp.z).f (ss.getD 0 Sp.z).f xs ss ∧ (ss.map Sp.t).Nodup := by
  have h := wk_of xs ss rc.pre.len rc.pre.st rc.pre.nx (by have := rc.two; omega)
  rw [rc.cl] at h
  exact ⟨h, ends_nodup (by rw [rc.pre.len]; exact rc.ends)⟩
theorem Wk.split {l : List Sp} : ∀ (xs : List Int) {ys : List Int} {a b : Int} {zs : List Sp}, Wk l a b (xs ++ ys) zs → ∃ c ss ts, zs = ss ++ ts ∧ Wk l a c xs ss ∧ Wk l c b ys ts
  | [], ys, a, b, zs, h => ⟨a, [], zs, rfl, .nil a, h⟩
  | x :: xs, ys, a, b, zs, h => by
    cases h with
    | cons h1 h2 =>
      obtain ⟨c, ss, ts, rfl, h3, h4⟩ := Wk.split xs h2
      exact ⟨c, _ :: ss, ts, rfl, .cons h1 h3, h4⟩
theorem stepP_opp {l : List Sp} {x : Int} {s : Sp} (h : stepP l x = some s) : stepP l (-x) = some s.turn := by
  rcases stepP_cases h with ⟨h1, h2, rfl⟩ | ⟨h1, h2, rfl⟩
  · unfold stepP
    rw [if_neg (by omega), if_pos (by omega), Int.neg_neg]
  · unfold stepP
    rw [if_pos (by omega), turn_turn]
theorem Wk.rev {l : List Sp} {a b : Int} {xs : List Int} {ss : List Sp} (h : Wk l a b xs ss) : Wk l b a (xs.reverse.map fun x => -x) (ss.reverse.map Sp.turn) := by
  induction h with
  | nil a => exact .nil a
  | cons h1 h2 ih =>
    rename_i x s b xs ss
    rw [List.reverse_cons, List.reverse_cons, List.map_append, List.map_append]
    refine ih.app ?_
    have := Wk.cons (stepP_opp h1) (Wk.nil (l := l) s.turn.t)
    exact this
theorem sum_rev : ∀ ss : List Sp, loSum (ss.reverse.map Sp.turn) = -hiSum ss ∧ hiSum (ss.reverse.map Sp.turn) = -loSum ss
  | [] => by simp [loSum, hiSum]
  | s :: ss => by
    obtain ⟨h1, h2⟩ := sum_rev ss
    rw [List.reverse_cons, List.map_append, loSum_app, hiSum_app, h1, h2, qdk, qdl, List.map_cons, List.map_nil, qdk, qdl]
    simp only [loSum, hiSum, Sp.turn, List.map_nil, List.foldl_nil]
    omega
theorem rev_head (xs : List Int) (h : 0 < xs.length) : (xs.reverse.map fun x => -x).getD 0 0 = -(xs.getD (xs.length - 1) 0) := by
  cases hr : xs.reverse with
  | nil =>
    have : xs = [] := by rw [← List.reverse_reverse xs, hr]; rfl
    rw [this] at h; simp at h
  | cons y r =>
    have : xs = r.reverse ++ [y] := by rw [← List.reverse_reverse xs, hr, List.reverse_cons]
    rw [this]
    simp [List.getD]
/-- a ring that refuses, gone along from a span on -/
theorem ring_pos {t n : Int} {l : List Sp} (ok : Ok t n l) {xs : List Int} {ss : List Sp} (rc : RingC l xs ss) (hr : refP t (loSum ss) (hiSum ss) = true) : ∃ ys ts, RingC l ys ts ∧ 0 < ys.getD 0 0 ∧ refP t (loSum ts) (hiSum ts) = true := by
  obtain ⟨r1, r2, r3, r4⟩ := ok.r
  obtain ⟨w, nd⟩ := ring_wk rc
  have two := rc.two
  by_cases hp : ∃ x ∈ xs, 0 < x
  · obtain ⟨x, hx, hx0⟩ := hp
    obtain ⟨us, bs, rfl⟩ := List.append_of_mem hx
    obtain ⟨c, s1, s2, rfl, w1, w2⟩ := w.split us
    have w3 := w2.app w1
    refine ⟨x :: bs ++ us, s2 ++ s1, w3.ring ?_ (by simp at two ⊢; omega), by simpa using hx0, ?_⟩
    · rw [List.map_append] at nd ⊢
      exact (List.perm_append_comm.nodup_iff).1 nd
    · rw [loSum_app, hiSum_app] at hr ⊢
      rw [Int.add_comm (loSum s2), Int.add_comm (hiSum s2)]; exact hr
  · have w3 := w.rev
    obtain ⟨e1, e2⟩ := sum_rev ss
    refine ⟨_, _, w3.ring ?_ (by simpa using two), ?_, ?_⟩
    · have hev := w.ev
      have p1 : ((ss.getD 0 Sp.z).f :: ss.map Sp.t).Perm ((ss.getD 0 Sp.z).f :: ss.map Sp.f) := by
        rw [hev]; exact List.perm_append_comm
      have p2 := (List.perm_cons _).1 p1
      have e : (ss.reverse.map Sp.turn).map Sp.t = (ss.map Sp.f).reverse := by
        rw [List.map_map, ← List.map_reverse]; rfl
      rw [e]
      exact (List.reverse_perm _).nodup_iff.2 (p2.nodup_iff.1 nd)
    · have hl : 0 < xs.length := by omega
      have hlast := rev_head xs hl
      rw [hlast]
      have hst := rc.pre.st (xs.length - 1) (by omega)
      have hne : xs.getD (xs.length - 1) 0 ≠ 0 := fun h => by
        rw [h] at hst
        rcases stepP_cases hst with h | h <;> omega
      have hm : xs.getD (xs.length - 1) 0 ∈ xs := by
        have : xs.getD (xs.length - 1) 0 = xs[xs.length - 1] := by simp [List.getD, show xs.length - 1 < xs.length by omega]
        rw [this]; exact List.getElem_mem _
      have : ¬ 0 < xs.getD (xs.length - 1) 0 := fun h => hp ⟨_, hm, h⟩
      omega
    · rw [e1, e2]
      rw [refP_iff r1] at hr ⊢
      intro q h1 h2
      have := hr (-q)
      rw [Int.mul_neg] at this
      omega
/- the search -/
theorem SF_find {t n : Int} {l : List Sp} (ok : Ok t n l) {xs : List Int} {ss : List Sp} (rc : RingC l xs ss) (h0 : 0 < xs.getD 0 0) (hr : refP t (loSum ss) (hiSum ss) = true) : ∀ k j, j + k = xs.length → (SF t l k (xs.take j) (ss.take j)).isSome = true
  | 0, j, hj => by
    have hl := rc.pre.len
    have e1 : xs.take j = xs := by rw [List.take_of_length_le (by omega)]
    have e2 : ss.take j = ss := by rw [List.take_of_length_le (by omega)]
    rw [e1, e2]
    unfold SF
    have : leafP t ss = true := by
      unfold leafP lastT
      rw [hl, hr, decide_eq_true rc.cl]; rfl
    rw [if_pos this]; rfl
  | k + 1, j, hj => by
    have hl := rc.pre.len
    have ih := SF_find ok rc h0 hr k (j + 1) (by omega)
    have hst := rc.pre.st j (by omega)
    rw [SF_succ, List.findSome?_isSome_iff]
    have hin := stepP_in hst
    refine ⟨xs.getD j 0, ?_, ?_⟩
    · unfold xsL
      rw [List.drop_zero, List.mem_map]
      exact ⟨(xs.getD j 0 + l.length).toNat, List.mem_range.2 (by omega), by omega⟩
    · have htl : (ss.take j).length = j := by simp; omega
      have hget : ∀ q, q < j → (ss.take j).getD q Sp.z = ss.getD q Sp.z := fun q hq => by simp [List.getD, List.getElem?_take, hq]
      have hok : okX l (ss.take j) (xs.getD j 0) = some (ss.getD j Sp.z) := by
        unfold okX
        rw [hst]
        simp only
        by_cases hj0 : j = 0
        · subst hj0
          rw [if_pos (by simp), if_pos h0]
        · have hne : ss.take j ≠ [] := fun h => by rw [h] at htl; simp at htl; omega
          rw [if_neg hne, if_pos]
          refine ⟨?_, ?_⟩
          · unfold lastT
            rw [htl, hget _ (by omega)]
            have := rc.pre.nx (j - 1) (by omega)
            rw [show j - 1 + 1 = j by omega] at this
            exact this.symm
          · rintro ⟨q, hq, he⟩
            rw [htl] at hq
            rw [hget q hq] at he
            exact ring_begs rc q j hq (by omega) he
      rw [trX_yes hok]
      have e1 : xs.take j ++ [xs.getD j 0] = xs.take (j + 1) := by
        rw [List.take_add_one]; simp [List.getD, show j < xs.length by omega]
      rw [e1, ← take_next (by omega)]
      exact ih
theorem ring_n {t n : Int} {l : List Sp} {xs : List Int} {ss : List Sp} (ok : Ok t n l) (rc : RingC l xs ss) : xs.length ≤ n.toNat := by
  obtain ⟨r1, r2, r3, r4⟩ := ok.r
  have hg : ∀ i, i < xs.length → 0 ≤ (ss.getD i Sp.z).t ∧ (ss.getD i Sp.z).t < n := fun i hi => by
    have := qec ok (rc.pre.st i hi)
    omega
  have h := nodup_len (l := (List.range xs.length).map fun i => (ss.getD i Sp.z).t.toNat) (l' := List.range n.toNat) ?_ ?_
  · simpa using h
  · rw [List.nodup_iff_pairwise_ne, List.pairwise_map]
    refine List.Pairwise.imp_of_mem ?_ (List.pairwise_lt_range)
    intro a b ha hb hab hc
    have hb' := List.mem_range.1 hb
    have ha' := List.mem_range.1 ha
    have h1 := hg a ha'
    have h2 := hg b hb'
    exact rc.ends a b hab hb' (by omega)
  · intro a ha
    obtain ⟨i, hi, rfl⟩ := List.mem_map.1 ha
    have := hg i (List.mem_range.1 hi)
    exact List.mem_range.2 (by omega)
theorem RR_find {t : Int} {l : List Sp} {m : Nat} (hs : (SF t l m [] []).isSome = true) : ∀ (j k : Nat), k ≤ m → m < k + j → (RR t l j k).isSome = true
  | 0, k, h1, h2 => by omega
  | j + 1, k, h1, h2 => by
    unfold RR
    cases h : SF t l k [] [] with
    | some z => rfl
    | none =>
      have hne : k ≠ m := fun e => by rw [← e, h] at hs; cases hs
      exact RR_find hs j (k + 1) (by omega) (by omega)
/-- where the search finds none, no ring refuses -/
theorem ringA_none {t n : Int} {l : List Sp} (ok : Ok t n l) (h : ringA t n l = none) (xs : List Int) : ¬ RefC t n l xs := by
  rintro ⟨-, ss, rc, hr⟩
  obtain ⟨ys, ts, rc2, h0, hr2⟩ := ring_pos ok rc hr
  have hf := SF_find ok rc2 h0 hr2 ys.length 0 (by omega)
  have hn := ring_n ok rc2
  have two := rc2.two
  rw [(ringA_yes (rdE_ok.2 ok)).1] at h
  have := RR_find (t := t) (l := l) (m := ys.length) hf (n.toNat + 1 - 2) 2 two (by omega)
  rw [h] at this; cases this
theorem SF_ring {t n : Int} {l : List Sp} (ok : Ok t n l) : ∀ (k : Nat) (now : List Int) (ss : List Sp) (z : List Int), St l now ss → 2 ≤ now.length + k → SF t l k now ss = some z → RefC t n l z
  | 0, now, ss, z, st, h2, h => by
    unfold SF at h
    split at h
    · rename_i hl
      cases h
      unfold leafP at hl
      rw [Bool.and_eq_true, decide_eq_true_eq] at hl
      exact ⟨ok, ss, (st.ring (by omega)).1 hl.1, hl.2⟩
    · cases h
  | k + 1, now, ss, z, st, h2, h => by
    rw [SF_succ] at h
    obtain ⟨x, -, hx⟩ := List.exists_of_findSome?_eq_some h
    cases ho : okX l ss x with
    | none => rw [trX_no ho] at hx; cases hx
    | some s =>
      rw [trX_yes ho] at hx
      exact SF_ring ok k _ _ z (st.snoc ho) (by simp; omega) hx
theorem RR_ring {t n : Int} {l : List Sp} (ok : Ok t n l) : ∀ (j m : Nat) (z : List Int), 2 ≤ m → RR t l j m = some z → RefC t n l z
  | 0, m, z, h2, h => by cases h
  | j + 1, m, z, h2, h => by
    unfold RR at h
    split at h
    · rename_i hs
      cases h
      exact SF_ring ok m [] [] _ (St.nil l) (by simpa using h2) hs
    · exact RR_ring ok j (m + 1) z (by omega) h
theorem ringA_some {t n : Int} {l : List Sp} {z : List Int} (ok : Ok t n l) (h : ringA t n l = some z) : RefC t n l z := by
  rw [(ringA_yes (rdE_ok.2 ok)).1] at h
  exact RR_ring ok _ _ z (Nat.le_refl _) h
theorem ref_noplan {t n : Int} {l : List Sp} {xs : List Int} (h : RefC t n l xs) (z : List Int) : ¬ KeptP t l z := by
  obtain ⟨ok, ss, rc, hr⟩ := h
  intro hk
  rw [ring_keeps ok rc hk] at hr; cases hr
end Go.Proofs.YtpjjmdbkgkembaaDoor.T

/- Spans of which none, or one, can be left out: their plans. -/
open Go.Vm
set_option linter.unusedVariables false
namespace Go.Proofs.YtpjjmdbkgkembaaDoor.T
open Go

theorem hourP_merge {g : List Int} {a b e : Int} (he : e.toNat < g.length) : hourP (mergeL g a b) e = if hourP g e = a then b else hourP g e := by
  unfold hourP mergeL
  simp [List.getD, he]
theorem hourP_own {N : Nat} {e : Int} (h0 : 0 ≤ e) (h1 : e < N) : hourP (qel N) e = e := by
  unfold hourP qel
  have : e.toNat < N := by omega
  simp [List.getD, this]
  omega
theorem grp_is {t : Int} {N : Nat} {l : List Sp} (ok : Ok t N l) : ∀ i, i ≤ l.length → ∀ e : Int, 0 ≤ e → e < N → hourP (grpL l N i) e = gr l i e
  | 0, _, e, h0, h1 => hourP_own h0 h1
  | i + 1, hi, e, h0, h1 => by
    have hs := ok.sp i (by omega)
    unfold spOk at hs
    rw [grpL, hourP_merge (by rw [grpL_len]; omega), grp_is ok i (by omega) e h0 h1, grp_is ok i (by omega) _ (by omega) (by omega), grp_is ok i (by omega) _ (by omega) (by omega)]
    rfl
theorem free_mg {t : Int} {N : Nat} {l : List Sp} (ok : Ok t N l) {i : Nat} (hi : i < l.length) : (qdm l N i = 0 ∧ mg l i) ∨ (qdm l N i = 1 ∧ ¬ mg l i) := by
  have hs := ok.sp i hi
  unfold spOk at hs
  unfold qdm mg
  rw [grp_is ok i (by omega) _ (by omega) (by omega), grp_is ok i (by omega) _ (by omega) (by omega)]
  by_cases h : gr l i (l.getD i Sp.z).t = gr l i (l.getD i Sp.z).f
  · rw [if_pos h]; exact .inr ⟨rfl, fun k => k h⟩
  · rw [if_neg h]; exact .inl ⟨rfl, h⟩
theorem sum_zero {f : Nat → Int} : ∀ {n : Nat}, (∀ i, i < n → f i = 0 ∨ f i = 1) → 0 ≤ sumTo f n ∧ (sumTo f n = 0 → ∀ i, i < n → f i = 0)
  | 0, _ => ⟨by simp [sumTo], fun _ i hi => by omega⟩
  | n + 1, h => by
    obtain ⟨h1, h2⟩ := sum_zero (n := n) fun i hi => h i (by omega)
    have h3 := h n (by omega)
    simp only [sumTo]
    refine ⟨by omega, fun h0 i hi => ?_⟩
    rcases Nat.lt_or_ge i n with h4 | h4
    · exact h2 (by omega) i h4
    · obtain rfl : i = n := by omega
      omega
theorem sum_one' {f : Nat → Int} : ∀ {n : Nat}, (∀ i, i < n → f i = 0 ∨ f i = 1) → sumTo f n = 1 → ∃ j, j < n ∧ f j = 1 ∧ ∀ k, k < n → k ≠ j → f k = 0
  | 0, _, h => by simp [sumTo] at h
  | n + 1, h, hs => by
    have hr := fun i (hi : i < n) => h i (by omega)
    obtain ⟨h1, h2⟩ := sum_zero (n := n) hr
    simp only [sumTo] at hs
    rcases h n (by omega) with h3 | h3
    · obtain ⟨j, j1, j2, j3⟩ := sum_one' hr (by omega)
      refine ⟨j, by omega, j2, fun k hk hne => ?_⟩
      rcases Nat.lt_or_ge k n with h4 | h4
      · exact j3 k h4 hne
      · obtain rfl : k = n := by omega
        exact h3
    · refine ⟨n, by omega, h3, fun k hk hne => h2 (by omega) k (by omega)⟩
/-- times that keep all spans, told by the hour -/
theorem plan_of {t : Int} {N : Nat} {l : List Sp} (ok : Ok t N l) (f : Int → Int) (hf : ∀ k, k < l.length → ∃ d q, (l.getD k Sp.z).lo ≤ d ∧ d ≤ (l.getD k Sp.z).hi ∧ f (l.getD k Sp.z).t - f (l.getD k Sp.z).f = d + t * q) : ∃ z, PlanP t N l z := by
  obtain ⟨r1, r2, r3, r4⟩ := ok.r
  refine ⟨(List.range N).map fun e : Nat => (f (e : Int) - f 0) % t, ⟨by simp, fun i hi => ?_⟩, ?_, fun k hk => ?_⟩
  · have hi' : i < N := by simpa using hi
    have e : ((List.range N).map fun e : Nat => (f (e : Int) - f 0) % t).getD i 0 = (f (i : Int) - f 0) % t := by simp [List.getD, hi']
    rw [e]
    exact ⟨Int.emod_nonneg _ (by omega), Int.emod_lt_of_pos _ (by omega)⟩
  · have : 0 < N := by omega
    simp [List.getD, this]
  · obtain ⟨d, q, h1, h2, h3⟩ := hf k hk
    have hs := ok.sp k hk
    unfold spOk at hs
    generalize l.getD k Sp.z = s at *
    have hh : ∀ e : Int, 0 ≤ e → e < N → hourP ((List.range N).map fun e : Nat => (f (e : Int) - f 0) % t) e = (f e - f 0) % t := fun e h0 h4 => by
      unfold hourP
      have : e.toNat < N := by omega
      have e2 : ((e.toNat : Nat) : Int) = e := by omega
      simp [List.getD, this, e2]
    unfold keeps qef
    rw [hh _ (by omega) (by omega), hh _ (by omega) (by omega)]
    have e1 := Int.emod_add_mul_ediv (f s.t - f 0) t
    have e2 := Int.emod_add_mul_ediv (f s.f - f 0) t
    have : ((f s.t - f 0) % t - (f s.f - f 0) % t - s.lo) % t = d - s.lo := by
      refine emod_uniq r1 (Int.emod_eq_zero_of_dvd ⟨q - (f s.t - f 0) / t + (f s.f - f 0) / t, ?_⟩) (by omega)
      rw [Int.mul_add, Int.mul_sub]
      omega
    rw [this]; omega
theorem mg_keeps {t : Int} {N : Nat} {l : List Sp} (ok : Ok t N l) : ∃ f : Int → Int, ∀ k, k < l.length → mg l k → keepE (l.getD k Sp.z) f := by
  obtain ⟨xs, ss, w, -, -, vals⟩ := reach ok l.length (Nat.le_refl _) 0 0 rfl
  obtain ⟨f, f1, -⟩ := vals (loSum ss) (Int.le_refl _) (w.le ok)
  exact ⟨f, f1⟩
/-- spans none of which can be left out have a plan -/
theorem free_plan {t : Int} {N : Nat} {l : List Sp} (ok : Ok t N l) (h : freeN l N = 0) : ∃ z, PlanP t N l z := by
  have h01 : ∀ i, i < l.length → qdm l N i = 0 ∨ qdm l N i = 1 := fun i hi => by rcases free_mg ok hi with h | h <;> simp [h.1]
  have hz := (sum_zero h01).2 h
  obtain ⟨f, hf⟩ := mg_keeps ok
  refine plan_of ok f fun k hk => ?_
  have hm : mg l k := by
    rcases free_mg ok hk with h | h
    · exact h.2
    · rw [hz k hk] at h; exact absurd h.1 (by omega)
  obtain ⟨h1, h2⟩ := hf k hk hm
  exact ⟨_, 0, h1, h2, by simp⟩
/-- where one span can be left out, and no ring refuses, there is a plan -/
theorem one_plan {t : Int} {N : Nat} {l : List Sp} (ok : Ok t N l) (h : freeN l N = 1) (hno : ∀ xs, ¬ RefC t N l xs) : ∃ z, PlanP t N l z := by
  obtain ⟨r1, r2, r3, r4⟩ := ok.r
  have h01 : ∀ i, i < l.length → qdm l N i = 0 ∨ qdm l N i = 1 := fun i hi => by rcases free_mg ok hi with h | h <;> simp [h.1]
  obtain ⟨j, j1, j2, j3⟩ := sum_one' h01 h
  have hnm : ¬ mg l j := by
    rcases free_mg ok j1 with h | h
    · rw [j2] at h; exact absurd h.1 (by omega)
    · exact h.2
  have hj : gr l j (l.getD j Sp.z).t = gr l j (l.getD j Sp.z).f := Classical.not_not.1 hnm
  have hs := ok.sp j j1
  unfold spOk at hs
  obtain ⟨xs, ss, w, nd, -, vals⟩ := reach ok l.length (Nat.le_refl _) (l.getD j Sp.z).t (l.getD j Sp.z).f (gr_up hj (by omega))
  have sP := stepP_pos j1
  have w2 := Wk.cons sP w
  have hxs : 0 < xs.length := by
    rcases Nat.eq_zero_or_pos xs.length with h0 | h0
    · have hss : ss = [] := List.length_eq_zero_iff.1 (by rw [w.len, h0])
      have := w.ev
      rw [hss] at this
      simp at this
      exact absurd this.symm hs.1
    · exact h0
  have rc := w2.ring (by simpa using nd) (by simp; omega)
  have hnr : ¬ refP t (loSum (l.getD j Sp.z :: ss)) (hiSum (l.getD j Sp.z :: ss)) = true := fun hr => hno _ ⟨ok, _, rc, hr⟩
  rw [refP_iff r1, Classical.not_forall] at hnr
  obtain ⟨q, hq⟩ := hnr
  have hq1 : loSum (l.getD j Sp.z :: ss) ≤ t * q ∧ t * q ≤ hiSum (l.getD j Sp.z :: ss) := by
    by_cases h1 : loSum (l.getD j Sp.z :: ss) ≤ t * q
    · by_cases h2 : t * q ≤ hiSum (l.getD j Sp.z :: ss)
      · exact ⟨h1, h2⟩
      · exact absurd (fun _ => h2) hq
    · exact absurd (fun k => absurd k h1) hq
  rw [qdk, qdl] at hq1
  obtain ⟨x, y, x1, x2, y1, y2, hxy⟩ := split_two hs.2.2.2.2.2.2.2.1 (w.le ok) hq1.1 hq1.2
  obtain ⟨f, f1, f2⟩ := vals y y1 y2
  refine plan_of ok f fun k hk => ?_
  by_cases hkj : k = j
  · subst hkj
    exact ⟨x, -q, x1, x2, by rw [Int.mul_neg]; omega⟩
  · have hm : mg l k := by
      rcases free_mg ok hk with h | h
      · exact h.2
      · rw [j3 k hk hkj] at h; exact absurd h.1 (by omega)
    obtain ⟨h1, h2⟩ := f1 k hk hm
    exact ⟨_, 0, h1, h2, by simp⟩
end Go.Proofs.YtpjjmdbkgkembaaDoor.T

/- If a ring refuses there is no plan; if no span, or one, can be left out. -/
open Go.Vm
set_option linter.unusedVariables false
namespace Go.Proofs.YtpjjmdbkgkembaaDoor.T
open Go

theorem pl_mem {t n : Int} {l : List Sp} {z : List Int} (ok : Ok t n l) : z ∈ plL t n l ↔ PlanP t n l z := by
  obtain ⟨r1, r2, r3, r4⟩ := ok.r
  have ht : ((t.toNat : Nat) : Int) = t := by omega
  have hn : ((n.toNat : Nat) : Int) = n := by omega
  have := mem_plansL (t := t.toNat) (n := n.toNat) (l := l) (z := z) (by rw [ht, hn]; exact ok)
  rw [ht, hn] at this
  exact this
theorem pn_cases {t n : Int} {l : List Sp} (ok : Ok t n l) : (pnE t n l = 0 ∧ ∃ z, PlanP t n l z) ∨ (pnE t n l = 10 ∧ ¬ ∃ z, PlanP t n l z) := by
  unfold pnE
  rw [if_pos (rdE_ok.2 ok)]
  cases hp : plL t n l with
  | nil =>
    refine .inr ⟨rfl, fun ⟨z, hz⟩ => ?_⟩
    have := (pl_mem ok).2 hz
    rw [hp] at this; cases this
  | cons z zs => exact .inl ⟨rfl, z, (pl_mem ok).1 (by rw [hp]; exact List.mem_cons_self)⟩
theorem refC_fits {t n : Int} {l : List Sp} {z : List Int} (h : RefC t n l z) : (∀ x ∈ z, inI64 x) ∧ z.length ≤ 40 := by
  obtain ⟨ok, ss, rc, -⟩ := h
  refine ⟨fun x hx => ?_, by have := ring_six ok rc; omega⟩
  obtain ⟨i, hi, rfl⟩ := List.mem_iff_getElem.1 hx
  have := rc.pre.st i hi
  have e : z.getD i 0 = z[i] := by simp [List.getD, hi]
  rw [e] at this
  have := stepP_in this
  have := ok.len
  constructor <;> omega
theorem law9 {ro : List ABlk} {t n : Int} {v w : AVal} {l : List Sp} {xs : List Int} (a : qbm ro [] v l) (r : IsRow ro [] w xs) (hx : ∀ x ∈ xs, inI64 x) : ∃ h' lw lp, callX F1 ro 9 [.i .i64 t, .i .i64 n, v, w] [] = some (.b true, h', lw, lp) := by
  suffices h : ∃ q, g9 (qbw F1 ro) ro t n v w ⟨[], 0, 0⟩ = some q ∧ q.1 = .b true by
    obtain ⟨⟨u, h', lw, lp⟩, h1, rfl⟩ := h
    exact ⟨h', lw, lp, g9_ok (qax F1 ro) rfl h1⟩
  have hal : ∀ h : Heap, callM (callX F1 ro) ⟨h, 0, 0⟩ 16 [] = some (.b true, ⟨h, 0, 0⟩) := fun h => lawM alive_pure
  have z1 : ((10 : Int) == 0) = false := rfl
  have z2 : ((0 : Int) == 0) = true := rfl
  have z3 : ((10 : Int) == 10) = true := rfl
  have z4 : ((0 : Int) == 10) = false := rfl
  unfold g9
  simp only [qav, lawM (few15 a r), qak, asB_b, qaq]
  by_cases hf : l.length ≤ 40 ∧ xs.length ≤ 40
  · rw [decide_eq_true hf]
    obtain ⟨u, hp1, h17, k1, i1⟩ := plan17 (t := t) (n := n) a
    have a1 := a.by k1
    obtain ⟨b, h30, hb⟩ := refuses30 (t := t) (n := n) a1 (row_by r k1) hx hf.2
    have h36 := free36 (t := t) (n := n) a1
    have h20 := spans20 (t := t) (n := n) a1
    simp only [Bool.not_true, cond_false, lawM h17, qak, ext0, ext1, qag, asI_i, lawM h30, asB_b, lawM h36, qcc]
    by_cases he : rdE t n l = 0
    · have ok := rdE_ok.1 he
      obtain ⟨r1, r2, r3, r4⟩ := ok.r
      have hN : n = ((n.toNat : Nat) : Int) := by omega
      have e1 : frE t n l = freeN l n.toNat := by simp only [frE, he, if_true]
      have hfb := (free_bd l n.toNat l.length).1
      have hneg : decide (frE t n l < 0) = false := decide_eq_false (by rw [e1]; unfold freeN; omega)
      have okN : Ok t (n.toNat : Nat) l := by rw [← hN]; exact ok
      rw [he] at h20
      obtain ⟨y, hp2, h32, k2, i2⟩ := ring32 (t := t) (n := n) a1
      have a2 := a1.by k2
      have q2 := (ringA_yes he).2
      have q1 := (ringA_yes he).1
      rw [← q1] at q2
      simp only [he, z2, Bool.not_true, cond_false, lawM h20, qak, asI_i, qag, hneg, bindO_and, bindO_or, Bool.or_false, qbj, qbt a1]
      rcases pn_cases ok with ⟨e0, hP⟩ | ⟨e0, hP⟩
      · have hbf : b = false := by
          cases hbb : b with
          | false => rfl
          | true =>
            obtain ⟨z, hz⟩ := hP
            exact absurd hz.2.2 (ref_noplan (hb.1 hbb) z)
        have hA : ringA t n l = none := by
          cases h : ringA t n l with
          | none => rfl
          | some z =>
            obtain ⟨y, hy⟩ := hP
            exact absurd hy.2.2 (ref_noplan (ringA_some ok h) y)
        rw [hA] at q2
        have q2 : ringE t n l = 10 := q2
        have h38 := groups38 (t := t) (n := n) a2 ok hN
        simp only [e0, hbf, z2, z4, Bool.not_true, Bool.not_false, Bool.and_false, Bool.false_and, Bool.or_false, cond_false, qag, lawM h32, qak, ext0, ext1, asI_i, q2, z1, z3, cond_true]
        generalize (decide (4 < n) && decide ((10 : Int) < (l.length : Int))) = g
        cases g
        · simp only [cond_false]
          generalize (frE t n l == 1) = g2
          cases g2
          · simp only [Bool.not_false, cond_true, qag, hal, qak, asB_b]
            exact ⟨_, rfl, rfl⟩
          · simp only [Bool.not_true, cond_false, lawM h38, qak, asI_i, qag, Bool.or_true, cond_true, hal, asB_b]
            exact ⟨_, rfl, rfl⟩
        · simp only [cond_true, hal, qak, asB_b]
          exact ⟨_, rfl, rfl⟩
      · have hf0 : (frE t n l == 0) = false := by
          rw [e1]
          simp only [beq_eq_false_iff_ne, ne_eq]
          intro h
          have := free_plan okN h
          rw [← hN] at this
          exact hP this
        simp only [e0, z1, z3, hf0, Bool.not_true, Bool.not_false, Bool.and_false, Bool.true_and, Bool.and_true, Bool.false_and, Bool.or_false, cond_false, qag, lawM h32, qak, ext0, ext1, asI_i]
        generalize (decide (4 < n) && decide ((10 : Int) < (l.length : Int))) = g
        cases g
        · cases h : ringA t n l with
          | some z =>
            rw [h] at q2 i2
            have q2 : ringE t n l = 0 := q2
            have hz := ringA_some ok h
            obtain ⟨f1, f2⟩ := refC_fits hz
            obtain ⟨c, h30', hc⟩ := refuses30 (t := t) (n := n) a2 i2 f1 f2
            have hct : c = true := hc.2 hz
            rw [hct, he] at h30'
            simp only [cond_false, q2, z2, cond_true, lawM h30', qak, ext0, ext1, qag, asB_b, asI_i, hal]
            exact ⟨_, rfl, rfl⟩
          | none =>
            rw [h] at q2
            have q2 : ringE t n l = 10 := q2
            have hbf : b = false := by
              cases hbb : b with
              | false => rfl
              | true => exact absurd (hb.1 hbb) (ringA_none ok h xs)
            have hf1 : (frE t n l == 1) = false := by
              rw [e1]
              simp only [beq_eq_false_iff_ne, ne_eq]
              intro h1
              have := one_plan okN h1 (fun ys => by rw [← hN]; exact ringA_none ok h ys)
              rw [← hN] at this
              exact hP this
            simp only [cond_false, q2, z1, z3, hbf, Bool.not_false, cond_true, hf1, qag, hal, qak, asB_b]
            exact ⟨_, rfl, rfl⟩
        · simp only [cond_true, hal, qak, asB_b]
          exact ⟨_, rfl, rfl⟩
    · have e : (rdE t n l == 0) = false := by simpa using he
      have hbf : b = false := by
        cases hbb : b with
        | false => rfl
        | true => exact absurd (rdE_ok.2 (hb.1 hbb).1) he
      have p1 : pnE t n l = rdE t n l := by unfold pnE; rw [if_neg he]
      have p2 : pnR t n l = [] := by unfold pnR; rw [if_neg he]
      have p3 : frE t n l = 0 := by unfold frE; rw [if_neg he]
      rw [p2] at i1
      have hl := len_row i1
      have w0 : Go.Vm.wr .i64 ((([] : List Int).length : Int) + 0) = 0 := rfl
      simp only [e, Bool.not_false, cond_true, qag, lawM h20, qak, asI_i, p1, p3, hbf, beq_self_eq_true, hl, qay, w0, hal, asB_b]
      exact ⟨_, rfl, rfl⟩
  · rw [decide_eq_false hf]
    simp only [Bool.not_false, cond_true, hal, qak, asB_b]
    exact ⟨_, rfl, rfl⟩
end Go.Proofs.YtpjjmdbkgkembaaDoor.T

/- Contracts of the functions: what each of them answers. -/
import Derived.Test.YtfohppnelbbepaaVmK0
/- At -/
open Go.Vm
set_option linter.unusedVariables false
set_option linter.unusedSectionVars false
namespace Go.Proofs.Ytfohppnelbbepaa.T
open Go
variable [Ovr]
section
variable {ro : List ABlk} {h hp : Heap}
theorem two_res {K : Heap} {i j : Nat} {x y : AVal} (hij : i ≠ j) (hx : Holds K i [x]) (hy : Holds K j [y]) (s : List UInt8) (e : Int) : ∃ K1 K2, (∀ l p, stepM ro ⟨K, l, p⟩ (.st 1 (.c (.p (some ⟨false, i, 0⟩))) (.c (.s s))) = some (und, ⟨K1, min l i, p⟩)) ∧ (∀ l p, stepM ro ⟨K1, l, p⟩ (.st 1 (.c (.p (some ⟨false, j, 0⟩))) (.c (.i .i64 e))) = some (und, ⟨K2, min l j, p⟩)) ∧
    Holds K2 i [.s s] ∧ Holds K2 j [.i .i64 e] ∧ K2.length = K.length ∧ ∀ t, t ≠ i → t ≠ j → K2[t]? = K[t]? := by
  obtain ⟨K1, a1, a2, a3, a4⟩ := hx.set1 (ro := ro) (w := .s s) rfl rfl
  obtain ⟨K2, b1, b2, b3, b4⟩ := (hy.keep (a4 j (Ne.symm hij))).set1 (ro := ro) (w := .i .i64 e) rfl rfl
  refine ⟨K1, K2, fun l p => ?_, fun l p => ?_, a2.keep (b4 i hij), b2, by omega, fun t h1 h2 => by rw [b4 t h2, a4 t h1]⟩
  · have := a1 l p
    rwa [show nonp [AVal.s s] = true from rfl, cond_true] at this
  · have := b1 l p
    rwa [show nonp [AVal.i .i64 e] = true from rfl, cond_true] at this
theorem one_str {K : Heap} {l p : Nat} (b : UInt8) : ∃ K', stepM ro ⟨K, l, p⟩ (.bsl 5 1 [(AVal.i IntKind.u8 0)] 1 [((0, 1), .c (bv b))]) = some (.sl ⟨false, K.length, 0⟩ 1 (.known 1), ⟨K', l, p⟩) ∧ btsM ro ⟨K', l, p⟩ (.sl ⟨false, K.length, 0⟩ 1 (.known 1)) = some (.s [b]) ∧ Keep K K' ∧ K'.length = K.length + 1 := by
  refine ⟨K ++ [some (blkOf 5 [bv b])], ?_, ?_, Keep.app _, by simp⟩
  · simp [stepM, stepK, st_bsl, rep, fillA, opd, AVal.cells, splice, newB, St.mm]
  · have hbq : rdB ro (K ++ [some (blkOf 5 [bv b])]) ⟨false, K.length, 0⟩ = some (blkOf 5 [bv b]) := by simp [rdB, lget_eq]
    have hg : (blkOf 5 [bv b]).c.row 0 1 = [b].map bv := row_row 1 0 _ rfl fun j hj => by rw [Nat.zero_add, get_blk]; rfl
    have hble : Nat.ble (0 + 1) (blkOf 5 [bv b]).n = true := rfl
    simp only [btsM, st_bts, Mm.st, hbq, hble, cond_true, hg, bytesA_ok, Option.map_some]
theorem gc_short {K J : Heap} {v : AVal} {a p : Nat} (h : K.length ≤ p) (hv : v.bel K.length = true) : gc K.length v ⟨.e, J, a, p⟩ = (v, J.take K.length, a, p) := by
  have : (Nat.ble K.length p && v.bel K.length) = true := by rw [hv, Bool.and_true, Nat.ble_eq]; exact h
  simp only [gc, this, if_true]
theorem Holds.cut {J : Heap} {b : Nat} {vs : List AVal} {n : Nat} (a : Holds J b vs) (hb : b < n) : Holds (J.take n) b vs := a.keep (by rw [List.getElem?_take, if_pos hb])
theorem RecAt.cut {J : Heap} {b : Nat} {L : LRec} {s : LoopState} {p : Option AExit} {n : Nat} (a : RecAt J b L s p) (hb : b < n) : RecAt (J.take n) b L s p := a.keep (by rw [List.getElem?_take, if_pos hb])
noncomputable def atV (z : List (List UInt8)) (s : List UInt8) (y x : Int) : List UInt8 × Int := if errY z s y ≠ 0 then ([], errY z s y) else if x < 0 then ([], 4) else if x.toNat < lenS z y.toNat s then ([(grw z y.toNat s).getD x.toNat 0], 0) else ([], 6)
def stepF (_ : List UInt8) (b : UInt8) : List UInt8 × Bool := ([b], false)
theorem feedF : ∀ (l : List UInt8), feed stepF l [] = (l.take 1, l.isEmpty)
  | [] => rfl
  | b :: l => rfl
set_option maxHeartbeats 2000000 in
theorem at24 {v : AVal} {z : List (List UInt8)} {s : List UInt8} {y x : Int} (a : IsS ro h v z) (hf : z.length ≤ 1000000 ∧ (∀ i, i < z.length → (z.getD i []).length ≤ 1000000) ∧ s.length ≤ 1000000) (hx : x ≤ 9223372036854775807) :
    callX F1 ro 24 [v, .s s, .i .i64 y, .i .i64 x] h = some (.tup [.s (atV z s y x).1, .i .i64 (atV z s y x).2], h, h.length, h.length) := by
  obtain ⟨N, hN⟩ : ∃ N, N = h.length := ⟨_, rfl⟩
  have b1 := al_ok (ro := ro) (hp := h) (l := N) (p := N) 9 [AVal.s []]
  obtain ⟨H1, hH1⟩ : ∃ H1, H1 = h ++ [some (blkOf 9 [AVal.s []])] := ⟨_, rfl⟩
  rw [← hH1, ← hN] at b1
  have l1 : H1.length = N + 1 := by rw [hH1, hN]; simp
  have k1 : Keep h H1 := by rw [hH1]; exact Keep.app _
  have o1 : Holds H1 N [.s []] := by rw [hH1, hN]; exact Holds.new _ _ _
  have b2 := al_ok (ro := ro) (hp := H1) (l := N) (p := N) 25 [AVal.i IntKind.i64 0]
  obtain ⟨H2, hH2⟩ : ∃ H2, H2 = H1 ++ [some (blkOf 25 [AVal.i IntKind.i64 0])] := ⟨_, rfl⟩
  rw [← hH2, l1] at b2
  have l2 : H2.length = N + 2 := by rw [hH2]; simp [l1]
  have k2 : Keep H1 H2 := by rw [hH2]; exact Keep.app _
  have kh2 : Keep h H2 := k1.trans k2
  have o1' : Holds H2 N [.s []] := o1.by k2
  have o2' : Holds H2 (N + 1) [.i .i64 0] := by rw [hH2, ← l1]; exact Holds.new _ _ _
  have c47 := cp (l := N) (p := N) (years47 (ro := ro) (h := H2) (y := y) (s := s) (S_by a kh2) hf.1 hf.2.1 hf.2.2) (by omega) (by omega)
  -- the end, when two results are known
  have fin : ∀ (K : Heap) (t : List UInt8) (e : Int), Keep h K → Holds K N [.s t] → Holds K (N + 1) [.i .i64 e] → bindO (ldM ro ⟨K, N, N⟩ true 1 (.p (some ⟨false, N, 0⟩))) (fun vr => bindO (ldM ro ⟨K, N, N⟩ true 1 (.p (some ⟨false, N + 1, 0⟩))) fun vr_1 => finM N (tupA [vr, vr_1]) ⟨K, N, N⟩) = some (.tup [.s t, .i .i64 e], h, N, N) := fun K t e kK y1 y2 => by
    simp only [y1.ld1, y2.ld1, oS, tA2]
    subst hN
    exact fin_keep kK rfl
  have done : ∀ (K : Heap) (u w : AVal) (t : List UInt8) (e : Int), Keep h K → Holds K N [u] → Holds K (N + 1) [w] → bindP (stepM ro ⟨K, N, N⟩ (.st 1 (.c (.p (some ⟨false, N, 0⟩))) (.c (.s t)))) (fun vn m => bindP (stepM ro m (.st 1 (.c (.p (some ⟨false, N + 1, 0⟩))) (.c (.i .i64 e)))) fun vn_1 m_5 => bindO (ldM ro m_5 true 1 (.p (some ⟨false, N, 0⟩))) fun vr => bindO (ldM ro m_5 true 1 (.p (some ⟨false, N + 1, 0⟩))) fun vr_1 => finM N (tupA [vr, vr_1]) m_5) = some (.tup [.s t, .i .i64 e], h, N, N) := fun K u w t e kK y1 y2 => by
    obtain ⟨Ka, Kb, r1, r2, r3, r4, r5, r6⟩ := two_res (ro := ro) (by omega) y1 y2 t e
    have r1' := r1 N N
    have r2' := r2 N N
    rw [Nat.min_self] at r1'
    rw [show min N (N + 1) = N by omega] at r2'
    simp only [r1', r2', pS]
    have := kK.1
    exact fin Kb t e ⟨by omega, fun i hi => by rw [r6 i (by omega) (by omega), kK.2 i hi]⟩ r3 r4
  refine g24_ok (meansX_ok F1 ro) (Ovr.no rfl) ?_
  unfold g24
  simp only [← hN, b1, pS, b2, mC, c47, x0, x1, oS, iS, fB]
  by_cases h0 : errY z s y = 0
  rotate_left
  · have e : atV z s y x = ([], errY z s y) := by unfold atV; rw [if_pos h0]
    simp only [eqI_ne h0, nF, cT, e]
    exact done H2 _ _ [] _ kh2 o1' o2'
  have e0 : eqI (errY z s y) 0 = true := by rw [h0]; rfl
  simp only [e0, nT, cF, if_pos h0]
  rcases Int.lt_or_le x 0 with hx0 | hx0
  · have e : atV z s y x = ([], 4) := by unfold atV; rw [if_neg (fun e => e h0), if_pos hx0]
    simp only [ltT hx0, cT, e]
    exact done H2 _ _ [] _ kh2 o1' o2'
  obtain ⟨hS, k, rfl, hk⟩ := errY_ok h0
  have hz := VOk.of (errS_V hS)
  obtain ⟨hs30, hsh⟩ := errS_ok hS
  obtain ⟨n, rfl⟩ := Int.eq_ofNat_of_zero_le hx0
  have e : atV z s (k : Int) (n : Int) = if n < lenS z k s then ([(grw z k s).getD n 0], 0) else ([], 6) := by unfold atV; rw [if_neg (fun e => e h0), if_neg (by omega), Int.toNat_natCast, Int.toNat_natCast]
  obtain ⟨w, H3, c1, k3, Mx⟩ := lengths48x (ro := ro) (S_by a kh2) hz hk
  have M := Mx H3 fun _ _ _ => rfl
  have lH3 := k3.1
  have c1' := callM_of (a := N) (b := N) c1
  rw [show min N H2.length = N by omega] at c1'
  have ewr : wr .u64 (n : Int) = (n : Int) := wr_u64 (by omega) (by omega)
  obtain ⟨B, hB⟩ : ∃ B, B = H3.length := ⟨_, rfl⟩
  have c59 := from59 (ro := ro) (h := H3) (v := v) (w := w) (s := s) (x := (n : Int)) (cells_S a) (M_cells M).1
  obtain ⟨H4, hH4⟩ : ∃ H4, H4 = H3 ++ [some (blkOf 55 [v]), some (blkOf 61 [.i .u64 (n : Int)]), some (blkOf 9 [.s s]), some (blkOf 58 [w])] := ⟨_, rfl⟩
  rw [← hH4, ← hB] at c59
  have l4 : H4.length = B + 4 := by rw [hH4, hB]; simp
  have k4 : Keep H3 H4 := by rw [hH4]; exact Keep.app _
  have nb : ∀ (j e : Nat) (x : AVal), (∀ blk, blk = blkOf e [x] → H4[B + j]? = some (some blk)) → Holds H4 (B + j) [x] := fun j e x hx => ⟨blkOf e [x], by rw [lget_eq]; exact hx _ rfl, rfl, fun i _ => get_blk e [x] i⟩
  have x0' : Holds H4 (B + 0) [v] := nb 0 55 v fun blk e => by rw [e, hH4, List.getElem?_append_right (by omega), hB]; simp
  have x1' : Holds H4 (B + 1) [.i .u64 (n : Int)] := nb 1 61 _ fun blk e => by rw [e, hH4, List.getElem?_append_right (by omega), show B + 1 - H3.length = 1 by omega]; rfl
  have x2' : Holds H4 (B + 2) [.s s] := nb 2 9 _ fun blk e => by rw [e, hH4, List.getElem?_append_right (by omega), show B + 2 - H3.length = 2 by omega]; rfl
  have x3' : Holds H4 (B + 3) [w] := nb 3 58 _ fun blk e => by rw [e, hH4, List.getElem?_append_right (by omega), show B + 3 - H3.length = 3 by omega]; rfl
  have c59' := callM_of (a := N) (b := N) c59
  rw [show min N B = N by omega] at c59'
  obtain ⟨W, hW⟩ : ∃ W, W = (grw z k s).drop n := ⟨_, rfl⟩
  have one : ∀ t, g24_P0 (.p (some ⟨false, N, 0⟩)) (.p (some ⟨false, N + 1, 0⟩)) t → ∃ K' lw lp, callX F1 ro 90 [.yld (B + 4), .p (some ⟨false, B + 1, 0⟩), .p (some ⟨false, B + 3, 0⟩), .p (some ⟨false, B, 0⟩), .p (some ⟨false, B + 2, 0⟩)] (H4 ++ [some (recB t [33] k24a0 k24c0)]) = some (tupA [], K', lw, lp) ∧ N ≤ lw ∧ N ≤ lp ∧ Keep h K' ∧ Holds K' N [.s (W.take 1)] ∧ Holds K' (N + 1) [.i .i64 0] ∧ (W = [] → RecAt K' (B + 4) ⟨t, [33], k24a0, k24c0⟩ .ready none) ∧ (W ≠ [] → RecAt K' (B + 4) ⟨t, [33], k24a0, k24c0⟩ .done (some .ret)) := fun t ht => by
    obtain ⟨K0, hK0⟩ : ∃ K0, K0 = H4 ++ [some (recB t [33] k24a0 k24c0)] := ⟨_, rfl⟩
    have lK : K0.length = B + 5 := by rw [hK0]; simp [l4]
    have kK : Keep H4 K0 := by rw [hK0]; exact Keep.app _
    have rK : RecAt K0 (B + 4) ⟨t, [33], k24a0, k24c0⟩ .ready none := ⟨recB t [33] k24a0 k24c0, by rw [hK0, ← l4]; exact lget_last _ _, rfl⟩
    obtain ⟨C, hC⟩ : ∃ C : List UInt8 → Heap → Prop, C = fun c K => Holds K N [.s c] ∧ Holds K (N + 1) [.i .i64 0] ∧ (c = [] → RecAt K (B + 4) ⟨t, [33], k24a0, k24c0⟩ .ready none) ∧ (c ≠ [] → RecAt K (B + 4) ⟨t, [33], k24a0, k24c0⟩ .done (some .ret)) := ⟨_, rfl⟩
    obtain ⟨Own, hOwn⟩ : ∃ Own : Nat → Prop, Own = fun i => i = N ∨ i = N + 1 ∨ i = B + 4 := ⟨_, rfl⟩
    have cons : Cons (fun c : List UInt8 => c = []) ro (B + 4) K0.length (K0.length + 3) N N Own C stepF := by
      refine ⟨fun {c K} hc hK hk b => ?_, fun {c K K'} hc hf => ?_⟩
      · subst hk
        rw [hC] at hc
        obtain ⟨g1, g2, g3, -⟩ := hc
        rw [lK] at hK
        obtain ⟨blk, e1, e2⟩ := g3 rfl
        obtain ⟨Ka, q1, q2, q3, q4⟩ := RecAt.begin (⟨blk, e1, e2⟩ : RecAt K (B + 4) ⟨t, [33], k24a0, k24c0⟩ .ready none)
        obtain ⟨Kb, s1, s2, s3, s4⟩ := one_str (ro := ro) (K := Ka) (l := min K.length (B + 4)) (p := K.length) b
        obtain ⟨Kc, Kd, r1, r2, r3, r4, r5, r6⟩ := two_res (ro := ro) (i := N) (j := N + 1) (by omega) ((g1.keep (q4 N (by omega))).by s3) ((g2.keep (q4 (N + 1) (by omega))).by s3) [b] 0
        have rec4 : RecAt Kd (B + 4) ⟨t, [33], k24a0, k24c0⟩ .busy none := (q2.keep (s3.2 _ (by omega))).keep (r6 _ (by omega) (by omega))
        obtain ⟨K5, w1, w2, w3, w4⟩ := rec4.done .ret
        have r1' := r1 (min K.length (B + 4)) K.length
        have r2' := r2 (min (min K.length (B + 4)) N) K.length
        refine ⟨K5.take K.length, min (min (min (min K.length (B + 4)) N) (N + 1)) (B + 4), K.length, g24_r0_ok (meansX_ok F1 ro) e1 e2 ht ?_, by omega, by omega, ?_, by simp; omega, .inl (by simp; omega), fun i hi ho => ?_⟩
        · unfold g24_r0
          simp only [q1, oS, s1, pS, s2, sS, r1', r2', w1, gc_short (Nat.le_refl K.length) (show (AVal.b AExit.ret.on).bel K.length = true from rfl)]
          rfl
        · rw [hC]
          have hne : ¬ (stepF [] b).1 = [] := by simp [stepF]
          exact ⟨(r3.keep (w4 _ (by omega))).cut (by omega), (r4.keep (w4 _ (by omega))).cut (by omega), fun e => absurd e hne, fun _ => w2.cut (by omega)⟩
        · rw [hOwn] at ho
          have h1 : i ≠ N := fun e => ho (.inl e)
          have h2 : i ≠ N + 1 := fun e => ho (.inr (.inl e))
          have h3 : i ≠ B + 4 := fun e => ho (.inr (.inr e))
          rcases Nat.lt_or_ge i K.length with hl | hl
          · rw [List.getElem?_take, if_pos hl, w4 i h3, r6 i h1 h2, s3.2 i (by omega), q4 i h3]
          · rw [List.getElem?_eq_none (by simp; omega), List.getElem?_eq_none (by omega)]
      · rw [hC] at hc ⊢
        obtain ⟨g1, g2, g3, g4⟩ := hc
        exact ⟨g1.keep (hf _ (by omega)), g2.keep (hf _ (by omega)), fun e => (g3 e).keep (hf _ (by omega)), fun e => (g4 e).keep (hf _ (by omega))⟩
    have hC0 : C [] K0 := by
      rw [hC]
      exact ⟨((o1'.by k3).by k4).by kK, ((o2'.by k3).by k4).by kK, fun _ => rK, fun e => absurd rfl e⟩
    have hkk : Keep h K0 := ((kh2.trans k3).trans k4).trans kK
    obtain ⟨K', lw, lp, t1, t2, t3, t4, t5, t6⟩ := from90 (ro := ro) (ok := fun c : List UInt8 => c = []) (place := n) (rbk := B + 4) (pb := B + 1) (lb := B + 3) (rbx := B) (sb := B + 2) (Own := Own) (C := C) (step := stepF) (K0 := K0) (c := []) (L0 := N) (Lc := N) hz hk hsh hf.2.2 (by omega) (fun K hK hf => by
      have e1 : ∀ i, i < B → ¬ Own i → K[i]? = H3[i]? := fun i hi ho => by rw [hf i (by omega) ho, kK.2 i (by omega), k4.2 i (by omega)]
      have kk : Keep h K := ⟨by have := hkk.1; omega, fun i hi => by rw [hf i (by have := hkk.1; omega) (by rw [hOwn]; have := kh2.1; omega), hkk.2 i hi]⟩
      exact ⟨Mx K fun i hi1 hi2 => e1 i (by omega) (by rw [hOwn]; omega), S_by a kk⟩) (x1'.by kK) (x3'.by kK) (x0'.by kK) (x2'.by kK) (by rw [hOwn]; omega) (by rw [hOwn]; omega) (fun i ho => by rw [hOwn] at ho; omega) (by omega) (by omega) (by omega) cons hC0 (fun j hj h2 => by
      rw [feedF] at h2 ⊢
      have : ((grw z k s).drop n).take j = [] := by simpa using h2
      rw [this]; rfl)
    rw [feedF, ← hW, hC] at t4
    obtain ⟨g1, g2, g3, g4⟩ := t4
    refine ⟨K', lw, lp, by rw [← hK0]; exact t1, t2, t3, ⟨by have := hkk.1; omega, fun i hi => ?_⟩, g1, g2, fun e => g3 (by rw [e]; rfl), fun e => g4 fun e2 => e ?_⟩
    · rw [t6 i (by have := hkk.1; omega) (by rw [hOwn]; omega), hkk.2 i hi]
    · cases hw : W with
      | nil => rfl
      | cons b t => rw [hw] at e2; cases e2
  simp only [ltF (show ¬ (n : Int) < 0 by omega), cF, fI', ewr, c1', pS, c59', mC]
  refine rngK_eq (t := (Tr.e.set 8 (.p (some ⟨false, N, 0⟩))).set 9 (.p (some ⟨false, N + 1, 0⟩))) ⟨trivial, by rw [get_set_ne _ _ (by decide)]; simp, by simp⟩ fun t ht => ?_
  obtain ⟨K', lw, lp, t1, t2, t3, t4, g1, g2, g3, g4⟩ := one t ht
  have hex : ∃ p s', RecAt K' (B + 4) ⟨t, [33], k24a0, k24c0⟩ s' p ∧ s' ≠ .busy ∧ ((W = [] ∧ p = none) ∨ (W ≠ [] ∧ p = some .ret)) := by
    by_cases hw : W = []
    · exact ⟨_, _, g3 hw, by decide, .inl ⟨hw, rfl⟩⟩
    · exact ⟨_, _, g4 hw, by decide, .inr ⟨hw, rfl⟩⟩
  obtain ⟨p, s', r1, r2, r3⟩ := hex
  have hlt := r1.lt
  have e2 := r1.ended r2
  obtain ⟨J, hJ⟩ : ∃ J, J = lset none K' (B + 4) := ⟨_, rfl⟩
  have kJ : Keep h J := by rw [hJ, lset_eq]; exact t4.set (by omega) none
  have o1J : Holds J N [.s (W.take 1)] := g1.keep (by rw [hJ, lset_eq]; exact List.getElem?_set_ne (by omega))
  have o2J : Holds J (N + 1) [.i .i64 0] := g2.keep (by rw [hJ, lset_eq]; exact List.getElem?_set_ne (by omega))
  rw [← hJ] at e2
  refine ⟨(p.getD .norm, ⟨J, N, N⟩), ?_, ?_⟩
  · unfold rngT rngA
    simp only [List.nil_append, List.cons_append, l4, t1, e2]
    show some (p.getD AExit.norm, (⟨J, min (min N lw) (B + 4), min N lp⟩ : Mm)) = _
    rw [show min (min N lw) (B + 4) = N by omega, show min N lp = N by omega]
  · have hWl : W.length = lenS z k s - n := by rw [hW, List.length_drop, grw_len]
    rcases r3 with ⟨hw, rfl⟩ | ⟨hw, rfl⟩
    · have hc : ¬ n < lenS z k s := fun e => by rw [hw] at hWl; simp at hWl; omega
      rw [e, if_neg hc]
      exact done J _ _ [] _ kJ o1J o2J
    · have hc : n < lenS z k s := by
        rcases Nat.lt_or_ge n (lenS z k s) with h | h
        · exact h
        · exact absurd (List.length_eq_zero_iff.1 (by omega)) hw
      have e3 : W.take 1 = [(grw z k s).getD n 0] := by
        have hl : n < (grw z k s).length := by rw [grw_len]; exact hc
        have e5 : W = (grw z k s)[n] :: (grw z k s).drop (n + 1) := by rw [hW]; exact List.drop_eq_getElem_cons hl
        rw [e5, List.getD_eq_getElem?_getD, List.getElem?_eq_getElem hl]
        rfl
      rw [e, if_pos hc]
      rw [e3] at o1J
      exact fin J _ _ kJ o1J o2J
end
end Go.Proofs.Ytfohppnelbbepaa.T
/- At of the reference -/
open Go.Vm
set_option linter.unusedVariables false
set_option linter.unusedSectionVars false
namespace Go.Proofs.Ytfohppnelbbepaa.T
open Go
variable [Ovr]
section
variable {ro : List ABlk} {h hp : Heap}
theorem slS_win {s : List UInt8} {m n : Nat} (hm : m ≤ n) (hn : n ≤ s.length) : evP .e (.slStr (.c (.s s)) (some (.c (.i .i64 (m : Int)))) (some (.c (.i .i64 (n : Int))))) = some (.s ((s.take n).drop m)) := by
  have e3 : ((m : Nat) : Int) = Int.ofNat m := rfl
  have e4 : ((n : Nat) : Int) = Int.ofNat n := rfl
  have e5 : Nat.ble n s.length = true := by rw [Nat.ble_eq]; exact hn
  have e6 : Nat.ble m n = true := by rw [Nat.ble_eq]; exact hm
  simp only [evP, ev_slStr, opd, e3, e4, Option.map_some, sbound, e5, e6, cond_true]
end
end Go.Proofs.Ytfohppnelbbepaa.T
/- Law 4 -/
open Go.Vm
set_option linter.unusedVariables false
set_option linter.unusedSectionVars false
namespace Go.Proofs.Ytfohppnelbbepaa.T
open Go
variable [Ovr]
section
variable {ro : List ABlk} {h hp : Heap}
theorem strNe {s t : List UInt8} : evP .e (.sbin BinOp.neq (.c (.s s)) (.c (AVal.s t))) = some (.b (!decide (s = t))) := by
  simp only [evP, ev_sbin, opd, sOp, eqL_dec]
end
end Go.Proofs.Ytfohppnelbbepaa.T
/- Counts of the reference -/
open Go.Vm
set_option linter.unusedVariables false
set_option linter.unusedSectionVars false
namespace Go.Proofs.Ytfohppnelbbepaa.T
open Go
variable [Ovr]
section
variable {ro : List ABlk} {h hp : Heap}
theorem grw_first (z : List (List UInt8)) (y : Nat) : ∀ s, grw z (y + 1) s = grw z y (grw z 1 s)
  | [] => by cases y <;> rfl
  | b :: s => by
    have e : grw z 1 (b :: s) = z.getD (ix b) [] ++ grw z 1 s := rfl
    have e2 : grw z (y + 1) (b :: s) = grw z y (z.getD (ix b) []) ++ grw z (y + 1) s := rfl
    rw [e, grw_app, e2, grw_first z y s]
theorem grw_last (z : List (List UInt8)) : ∀ y s, grw z (y + 1) s = grw z 1 (grw z y s)
  | 0, s => rfl
  | y + 1, s => by rw [grw_first z (y + 1) s, grw_last z y (grw z 1 s), ← grw_first z y s]
end
end Go.Proofs.Ytfohppnelbbepaa.T
/- Buds of the reference, Endless -/
open Go.Vm
set_option linter.unusedVariables false
set_option linter.unusedSectionVars false
namespace Go.Proofs.Ytfohppnelbbepaa.T
open Go
variable [Ovr]
section
variable {ro : List ABlk} {h hp : Heap}
theorem RowG.row {L e : Nat} {v : AVal} {z : List Int} (g : RowG hp L e v (z.map (AVal.i .i64))) : IsRow ro hp v z := by
  rcases g with ⟨rfl, h⟩ | ⟨b, blk, rfl, h2, h3, h4, h5, h6, h7⟩
  · exact .inl ⟨rfl, by simpa using h⟩
  · rw [List.length_map] at h6 h7 ⊢
    refine .inr ⟨_, _, blk, rfl, rdB_heap h4 0, by show 0 + z.length ≤ _; omega, fun j hj => ?_⟩
    rw [Nat.zero_add, h7 j hj]
    simp [List.getD, hj]
def budsL (z : List (List UInt8)) (k : Nat) : List Int := ((List.range k).filter (isBud z)).map Int.ofNat
theorem budsL_succ (z : List (List UInt8)) (k : Nat) : budsL z (k + 1) = budsL z k ++ if isBud z k = true then [(k : Int)] else [] := by
  unfold budsL
  rw [List.range_succ, List.filter_append, List.map_append]
  congr 1
  by_cases h : isBud z k = true
  · simp [h]
  · simp [h]
noncomputable def budV (z : List (List UInt8)) : List Int := if errV z = 0 then budsL z z.length else []
theorem fin_row {K : Heap} {L e : Nat} {w : AVal} {x : List Int} {t : Int} (k : Keep h K) (g : RowG K L e w (x.map (AVal.i .i64))) (hL : h.length ≤ L) : ∃ H, finM h.length (.tup [w, .i .i64 t]) ⟨K, h.length, h.length⟩ = some (.tup [w, .i .i64 t], H, h.length, h.length) ∧ Keep h H ∧ IsRow ro H w x := by
  obtain ⟨H, f1, f2, f3⟩ := fin_any (w := .tup [w, .i .i64 t]) k
  refine ⟨H, f1, f2, ?_⟩
  rcases g with ⟨rfl, e1⟩ | ⟨b, blk, rfl, h2, h3, h4, h5⟩
  · exact .inl ⟨rfl, by simpa using e1⟩
  · have hbel : (AVal.tup [.sl ⟨false, b, 0⟩ (x.map (AVal.i .i64)).length .grow, .i .i64 t]).bel h.length = false := by
      have : Nat.blt b h.length = false := by rw [← Bool.not_eq_true, Nat.blt_eq]; omega
      simp [AVal.bel, bels, this]
    obtain rfl := f3 hbel
    exact RowG.row (L := L) (e := e) (.inr ⟨b, blk, rfl, h2, h3, h4, h5⟩)
set_option maxHeartbeats 1000000 in
theorem endless34 {v : AVal} {z : List (List UInt8)} (a : IsS ro h v z) (hz : z.length ≤ 1000000) (hf : ∀ i, i < z.length → (z.getD i []).length ≤ 1000000) :
    ∃ w H, callX F1 ro 34 [v] h = some (.tup [w, .i .i64 (errV z)], H, h.length, h.length) ∧ Keep h H ∧ IsRow ro H w (budV z) := by
  have c71 := vine71 (ro := ro) (h := h) a hz hf
  by_cases hv : errV z = 0
  rotate_left
  · refine ⟨.nsl, h, g34_ok (meansX_ok F1 ro) (Ovr.no rfl) ?_, Keep.refl _, .inl ⟨rfl, by unfold budV; rw [if_neg hv]⟩⟩
    unfold g34
    simp only [mC, cp0 c71, pS, x0, x1, oS, iS, fB, eqI_ne hv, nF, cT, tA2]
    exact fin_pure rfl
  have vok := VOk.of hv
  have n6 := vok.h6
  obtain ⟨L, hL⟩ : ∃ L, L = h.length := ⟨_, rfl⟩
  have key : ∃ r, loopX (fun q : AVal × Int × Mm => g34_b0 (meansX F1 ro) ro v (z.length : Int) q.1 q.2.1 q.2.2) (.nsl, 0, ⟨h, L, L⟩) = some r ∧ ∃ w J, r = (w, ⟨J, L, L⟩) ∧ Keep h J ∧ RowG J L 3 w ((budsL z z.length).map (AVal.i .i64)) := by
    refine loop_gen z.length (fun i q => ∃ w J, q = (w, (i : Int), ⟨J, L, L⟩) ∧ Keep h J ∧ RowG J L 3 w ((budsL z i).map (AVal.i .i64))) _ ?_ ?_ z.length 0 _ (by omega) ⟨.nsl, h, rfl, Keep.refl _, RowG.nil _ _ _⟩
    · rintro i q hi ⟨w, J, rfl, kJ, g⟩
      have hlJ := kJ.1
      have c72 := cp (l := L) (p := L) (bud72 (ro := ro) (S_by a kJ) vok hi) (by omega) (by omega)
      cases hb : isBud z i with
      | false =>
        rw [hb] at c72
        refine ⟨_, (by simp only [g34_b0, fB, ltT (show (i : Int) < (z.length : Int) by omega), cT, mC, c72, pS, bS, cF, oS, fI', nx (show i ≤ 1000000 by omega)] <;> rfl), w, J, rfl, kJ, ?_⟩
        rw [budsL_succ, if_neg (by rw [hb]; decide), List.append_nil]; exact g
      | true =>
        rw [hb] at c72
        have hbl : (budsL z i).length ≤ i := by
          unfold budsL
          rw [List.length_map]
          have := List.length_filter_le (isBud z) (List.range i)
          rw [List.length_range] at this; exact this
        obtain ⟨K2, K3, l', p', s1, s2, g4, n2, n3, o3, b3, b5, b6⟩ := g.push (ro := ro) (l := L) (p := L) (bytes := 8) (z := AVal.i IntKind.i64 0) (w := .i .i64 (i : Int)) (by omega) (by rw [List.length_map]; omega) (by omega) rfl rfl
        obtain ⟨b31, b32⟩ := b3 L (Nat.le_refl _) (Nat.le_refl _) (Nat.le_refl _)
        have hl' : l' = L ∧ p' = L := by omega
        rw [hl'.1, hl'.2] at s2
        refine ⟨_, (by simp only [g34_b0, fB, ltT (show (i : Int) < (z.length : Int) by omega), cT, mC, c72, pS, bS, s1, s2, oS, fI', nx (show i ≤ 1000000 by omega)] <;> rfl), _, K3, rfl, ⟨by omega, fun t ht => ?_⟩, ?_⟩
        · rw [o3 t (by omega) fun e => by have := (g.holds e).2.1; omega, kJ.2 t ht]
        · rw [budsL_succ, if_pos hb, List.map_append]; exact g4
    · rintro q ⟨w, J, rfl, kJ, g⟩
      exact ⟨_, (by simp only [g34_b0, fB, ltF (Int.lt_irrefl _), cF] <;> rfl), w, J, rfl, kJ, g⟩
  obtain ⟨r, q1, w, J, rfl, kJ, g⟩ := key
  obtain ⟨H, f1, f2, f3⟩ := fin_row (ro := ro) (t := 0) kJ g (by omega)
  refine ⟨w, H, g34_ok (meansX_ok F1 ro) (Ovr.no rfl) ?_, f2, by unfold budV; rw [if_pos hv]; exact f3⟩
  unfold g34
  rw [← hL] at f1 ⊢
  have c71' := cp (l := L) (p := L) c71 (by omega) (by omega)
  simp only [mC, c71', pS, x0, x1, oS, iS, fB, hv, eqI_self, nT, cF, if_true, len_S a, meansX_loop, q1, tA2]
  exact f1
end
end Go.Proofs.Ytfohppnelbbepaa.T
/- Letter -/
open Go.Vm
set_option linter.unusedVariables false
set_option linter.unusedSectionVars false
namespace Go.Proofs.Ytfohppnelbbepaa.T
open Go
variable [Ovr]
section
variable {ro : List ABlk} {h hp : Heap}
noncomputable def letterV (z : List (List UInt8)) (s : List UInt8) (x : Int) : List UInt8 × Int := if errU z s ≠ 0 then ([], errU z s) else if 0 ≤ x ∧ x < 100000 then ([letE z (ix (s.getD 0 0)) x.toNat], 0) else ([], 4)
set_option maxHeartbeats 2000000 in
theorem letter36 {v : AVal} {z : List (List UInt8)} {s : List UInt8} {x : Int} (a : IsS ro h v z) (hf : z.length ≤ 1000000 ∧ (∀ i, i < z.length → (z.getD i []).length ≤ 1000000) ∧ s.length ≤ 1000000) :
    callX F1 ro 36 [v, .s s, .i .i64 x] h = some (.tup [.s (letterV z s x).1, .i .i64 (letterV z s x).2], h, h.length, h.length) := by
  obtain ⟨N, hN⟩ : ∃ N, N = h.length := ⟨_, rfl⟩
  have b0 := box1 (ro := ro) (hp := h) (e := 3) (l := N) (p := N) (w := .i .i64 x) rfl
  obtain ⟨H0, hH0⟩ : ∃ H0, H0 = h ++ [some (blkOf 3 [AVal.i .i64 x])] := ⟨_, rfl⟩
  rw [← hH0, ← hN] at b0
  have l0 : H0.length = N + 1 := by rw [hH0, hN]; simp
  have k0 : Keep h H0 := by rw [hH0]; exact Keep.app _
  have o0 : Holds H0 N [.i .i64 x] := by rw [hH0, hN]; exact Holds.new _ _ _
  have b1 := al_ok (ro := ro) (hp := H0) (l := N) (p := N) 9 [AVal.s []]
  obtain ⟨H1, hH1⟩ : ∃ H1, H1 = H0 ++ [some (blkOf 9 [AVal.s []])] := ⟨_, rfl⟩
  rw [← hH1, l0] at b1
  have l1 : H1.length = N + 2 := by rw [hH1]; simp [l0]
  have k1 : Keep H0 H1 := by rw [hH1]; exact Keep.app _
  have o1 : Holds H1 (N + 1) [.s []] := by rw [hH1, ← l0]; exact Holds.new _ _ _
  have b2 := al_ok (ro := ro) (hp := H1) (l := N) (p := N) 25 [AVal.i IntKind.i64 0]
  obtain ⟨H2, hH2⟩ : ∃ H2, H2 = H1 ++ [some (blkOf 25 [AVal.i IntKind.i64 0])] := ⟨_, rfl⟩
  rw [← hH2, l1] at b2
  have l2 : H2.length = N + 3 := by rw [hH2]; simp [l1]
  have k2 : Keep H1 H2 := by rw [hH2]; exact Keep.app _
  have kh2 : Keep h H2 := (k0.trans k1).trans k2
  have o0' : Holds H2 N [.i .i64 x] := (o0.by k1).by k2
  have o1' : Holds H2 (N + 1) [.s []] := o1.by k2
  have o2' : Holds H2 (N + 2) [.i .i64 0] := by rw [hH2, ← l1]; exact Holds.new _ _ _
  have c74 := cp (l := N) (p := N) (readBud74 (ro := ro) (h := H2) (s := s) (S_by a kh2) hf.1 hf.2.1 hf.2.2) (by omega) (by omega)
  -- the end, when two results are known
  have fin : ∀ (K : Heap) (t : List UInt8) (e : Int), Keep h K → Holds K (N + 1) [.s t] → Holds K (N + 2) [.i .i64 e] → bindO (ldM ro ⟨K, N, N⟩ true 1 (.p (some ⟨false, N + 1, 0⟩))) (fun vr => bindO (ldM ro ⟨K, N, N⟩ true 1 (.p (some ⟨false, N + 2, 0⟩))) fun vr_1 => finM N (tupA [vr, vr_1]) ⟨K, N, N⟩) = some (.tup [.s t, .i .i64 e], h, N, N) := fun K t e kK y1 y2 => by
    simp only [y1.ld1, y2.ld1, oS, tA2]
    subst hN
    exact fin_keep kK rfl
  have done : ∀ (K : Heap) (u w : AVal) (t : List UInt8) (e : Int), Keep h K → Holds K (N + 1) [u] → Holds K (N + 2) [w] → bindP (stepM ro ⟨K, N, N⟩ (.st 1 (.c (.p (some ⟨false, N + 1, 0⟩))) (.c (.s t)))) (fun vn m => bindP (stepM ro m (.st 1 (.c (.p (some ⟨false, N + 2, 0⟩))) (.c (.i .i64 e)))) fun vn_1 m_5 => bindO (ldM ro m_5 true 1 (.p (some ⟨false, N + 1, 0⟩))) fun vr => bindO (ldM ro m_5 true 1 (.p (some ⟨false, N + 2, 0⟩))) fun vr_1 => finM N (tupA [vr, vr_1]) m_5) = some (.tup [.s t, .i .i64 e], h, N, N) := fun K u w t e kK y1 y2 => by
    obtain ⟨Ka, Kb, r1, r2, r3, r4, r5, r6⟩ := two_res (ro := ro) (by omega) y1 y2 t e
    have r1' := r1 N N
    have r2' := r2 N N
    rw [show min N (N + 1) = N by omega] at r1'
    rw [show min N (N + 2) = N by omega] at r2'
    simp only [r1', r2', pS]
    have := kK.1
    exact fin Kb t e ⟨by omega, fun i hi => by rw [r6 i (by omega) (by omega), kK.2 i hi]⟩ r3 r4
  refine g36_ok (meansX_ok F1 ro) (Ovr.no rfl) ?_
  unfold g36
  simp only [← hN, b0, b1, pS, b2, mC, c74, x0, x1, x2, oS, iS, fB]
  by_cases he : errU z s = 0
  rotate_left
  · have e : letterV z s x = ([], errU z s) := by unfold letterV; rw [if_pos he]
    simp only [eqI_ne he, nF, cT, e]
    exact done H2 _ _ [] _ kh2 o1' o2'
  obtain ⟨vok, hs1, hhs, hbud⟩ := errU_ok he
  obtain ⟨b, hb⟩ : ∃ b, b = ix (s.getD 0 0) := ⟨_, rfl⟩
  have hBud : BudOk z b := ⟨vok, by rw [hb]; exact ix_lt (hhs 0 (by omega)), by rw [hb]; exact hbud⟩
  have e : letterV z s x = if 0 ≤ x ∧ x < 100000 then ([letE z b x.toNat], 0) else ([], 4) := by unfold letterV; rw [if_neg (by simp [he]), hb]
  rw [← hb]
  simp only [he, eqI_self, nT, cF, if_true]
  have c75 := endless75 (ro := ro) (h := H2) (v := v) (x := (b : Int)) (cells_S a)
  obtain ⟨H3, hH3⟩ : ∃ H3, H3 = H2 ++ [some (blkOf 55 [v]), some (blkOf 3 [.i .i64 (b : Int)])] := ⟨_, rfl⟩
  rw [← hH3, l2] at c75
  have l3 : H3.length = N + 5 := by rw [hH3]; simp [l2]
  have k3 : Keep H2 H3 := by rw [hH3]; exact Keep.app _
  have nb : ∀ (j e : Nat) (x : AVal), (∀ blk, blk = blkOf e [x] → H3[N + 3 + j]? = some (some blk)) → Holds H3 (N + 3 + j) [x] := fun j e x hx => ⟨blkOf e [x], by rw [lget_eq]; exact hx _ rfl, rfl, fun i _ => get_blk e [x] i⟩
  have x0' : Holds H3 (N + 3 + 0) [v] := nb 0 55 v fun blk e => by rw [e, hH3, List.getElem?_append_right (by omega)]; simp [l2]
  have x1' : Holds H3 (N + 3 + 1) [.i .i64 (b : Int)] := nb 1 3 _ fun blk e => by rw [e, hH3, List.getElem?_append_right (by omega)]; simp [l2]
  have c75' := callM_of (a := N) (b := N) c75
  rw [show min N (N + 3) = N by omega] at c75'
  -- what is known at the end: the letter was met, or not
  have one : ∀ t, g36_P0 (.p (some ⟨false, N, 0⟩)) (.p (some ⟨false, N + 1, 0⟩)) (.p (some ⟨false, N + 2, 0⟩)) t → ∃ K' lw lp p s', callX F1 ro 98 [.yld (N + 5), .p (some ⟨false, N + 3, 0⟩), .p (some ⟨false, N + 3 + 1, 0⟩)] (H3 ++ [some (recB t [26, 27] k36a0 k36c0)]) = some (tupA [], K', lw, lp) ∧ N ≤ lw ∧ N ≤ lp ∧ Keep h K' ∧ RecAt K' (N + 5) ⟨t, [26, 27], k36a0, k36c0⟩ s' p ∧ s' ≠ .busy ∧ Holds K' (N + 2) [.i .i64 0] ∧
      ((p = none ∧ Holds K' (N + 1) [.s []] ∧ ¬ (0 ≤ x ∧ x < 100000)) ∨ (p = some .ret ∧ (0 ≤ x ∧ x < 100000) ∧ Holds K' (N + 1) [.s [letE z b x.toNat]])) := fun t ht => by
    obtain ⟨K0, hK0⟩ : ∃ K0, K0 = H3 ++ [some (recB t [26, 27] k36a0 k36c0)] := ⟨_, rfl⟩
    have lK : K0.length = N + 6 := by rw [hK0]; simp [l3]
    have kK : Keep H3 K0 := by rw [hK0]; exact Keep.app _
    have rK : RecAt K0 (N + 5) ⟨t, [26, 27], k36a0, k36c0⟩ .ready none := ⟨recB t [26, 27] k36a0 k36c0, by rw [hK0, ← l3]; exact lget_last _ _, rfl⟩
    obtain ⟨S, hS⟩ : ∃ S : Nat → Prop, S = fun j => j = N ∨ j = N + 1 ∨ j = N + 2 ∨ j = N + 5 := ⟨_, rfl⟩
    obtain ⟨C, hC⟩ : ∃ C : Nat → (Nat → Prop) → Heap → Prop, C = fun i S' K => S' = S ∧ Holds K N [.i .i64 x] ∧ Holds K (N + 1) [.s []] ∧ Holds K (N + 2) [.i .i64 0] ∧ RecAt K (N + 5) ⟨t, [26, 27], k36a0, k36c0⟩ .ready none ∧ ∀ j : Nat, j < i → (j : Int) ≠ x := ⟨_, rfl⟩
    obtain ⟨D, hD⟩ : ∃ D : (Nat → Prop) → Heap → Prop, D = fun S' K => S' = S ∧ (0 ≤ x ∧ x < 100000) ∧ Holds K N [.i .i64 x] ∧ Holds K (N + 1) [.s [letE z b x.toNat]] ∧ Holds K (N + 2) [.i .i64 0] ∧ RecAt K (N + 5) ⟨t, [26, 27], k36a0, k36c0⟩ .done (some .ret) := ⟨_, rfl⟩
    have sN : S N := by rw [hS]; exact .inl rfl
    have sN1 : S (N + 1) := by rw [hS]; exact .inr (.inl rfl)
    have sN2 : S (N + 2) := by rw [hS]; exact .inr (.inr (.inl rfl))
    have sN5 : S (N + 5) := by rw [hS]; exact .inr (.inr (.inr rfl))
    have cons : ConsE ro (N + 5) N N (letE z b) C D := by
      refine ⟨fun {i S' K} hc hi => ?_, fun {i S' K K'} hc hf => ?_, fun {S' K K'} hc hf => ?_, fun {i S' K} hc j hj => ?_, fun {S' K} hc j hj => ?_⟩
      · rw [hC] at hc
        obtain ⟨rfl, g0, g1, g2, g3, g4⟩ := hc
        have hK := g3.lt
        obtain ⟨blk, e1, e2⟩ := g3
        obtain ⟨Ka, q1, q2, q3, q4⟩ := RecAt.begin (⟨blk, e1, e2⟩ : RecAt K (N + 5) ⟨t, [26, 27], k36a0, k36c0⟩ .ready none)
        have g0a : Holds Ka N [.i .i64 x] := g0.keep (q4 _ (by omega))
        by_cases hix : (i : Int) = x
        · obtain ⟨Kb, s1, s2, s3, s4⟩ := one_str (ro := ro) (K := Ka) (l := min K.length (N + 5)) (p := K.length) (letE z b i)
          obtain ⟨Kc, Kd, r1, r2, r3, r4, r5, r6⟩ := two_res (ro := ro) (i := N + 1) (j := N + 2) (by omega) ((g1.keep (q4 (N + 1) (by omega))).by s3) ((g2.keep (q4 (N + 2) (by omega))).by s3) [letE z b i] 0
          have rec4 : RecAt Kd (N + 5) ⟨t, [26, 27], k36a0, k36c0⟩ .busy none := (q2.keep (s3.2 _ (by omega))).keep (r6 _ (by omega) (by omega))
          obtain ⟨K5, w1, w2, w3, w4⟩ := rec4.done .ret
          have r1' := r1 (min K.length (N + 5)) K.length
          have r2' := r2 (min (min K.length (N + 5)) (N + 1)) K.length
          have exi : x.toNat = i := by omega
          refine ⟨false, K5.take K.length, min (min (min (min K.length (N + 5)) (N + 1)) (N + 2)) (N + 5), K.length, S', g36_r0_ok (meansX_ok F1 ro) e1 e2 ht ?_, by omega, by omega, fun e => (by cases e), fun _ => ?_, by simp; omega, .inr fun j hj => hj, fun j hj hn => ?_, fun j hj => .inl hj⟩
          · unfold g36_r0
            simp only [q1, oS, g0a.ld1, iS, fB, hix, eqI_self, cT, s1, pS, s2, sS, r1', r2', w1, gc_short (Nat.le_refl K.length) (show (AVal.b AExit.ret.on).bel K.length = true from rfl)]
            rfl
          · rw [hD]
            refine ⟨rfl, by omega, ((((g0a.by s3).keep (r6 _ (by omega) (by omega))).keep (w4 _ (by omega))).cut (by omega)), ?_, (r4.keep (w4 _ (by omega))).cut (by omega), w2.cut (by omega)⟩
            rw [exi]
            exact (r3.keep (w4 _ (by omega))).cut (by omega)
          · have h1 : j ≠ N + 1 := fun e => hn (e ▸ sN1)
            have h2 : j ≠ N + 2 := fun e => hn (e ▸ sN2)
            have h3 : j ≠ N + 5 := fun e => hn (e ▸ sN5)
            rw [List.getElem?_take, if_pos hj, w4 j h3, r6 j h1 h2, s3.2 j (by omega), q4 j h3]
        · obtain ⟨K5, w1, w2, w3, w4⟩ := q2.done .norm
          refine ⟨true, K5.take K.length, min (min K.length (N + 5)) (N + 5), K.length, S', g36_r0_ok (meansX_ok F1 ro) e1 e2 ht ?_, by omega, by omega, fun _ => ?_, fun e => (by cases e), by simp; omega, .inr fun j hj => hj, fun j hj hn => ?_, fun j hj => .inl hj⟩
          · unfold g36_r0
            simp only [q1, oS, g0a.ld1, iS, fB, eqI_ne hix, cF, w1, gc_short (Nat.le_refl K.length) (show (AVal.b AExit.norm.on).bel K.length = true from rfl)]
            rfl
          · rw [hC]
            have kk : ∀ j, j ≠ N + 5 → j < K.length → (K5.take K.length)[j]? = K[j]? := fun j h1 h2 => by rw [List.getElem?_take, if_pos h2, w4 j h1, q4 j h1]
            refine ⟨rfl, g0.keep (kk _ (by omega) (by omega)), g1.keep (kk _ (by omega) (by omega)), g2.keep (kk _ (by omega) (by omega)), w2.cut (by omega), fun j hj => ?_⟩
            rcases Nat.lt_or_ge j i with hl | hl
            · exact g4 j hl
            · obtain rfl : j = i := by omega
              exact hix
          · have h3 : j ≠ N + 5 := fun e => hn (e ▸ sN5)
            rw [List.getElem?_take, if_pos hj, w4 j h3, q4 j h3]
      · rw [hC] at hc ⊢
        obtain ⟨rfl, g0, g1, g2, g3, g4⟩ := hc
        exact ⟨rfl, g0.keep (hf _ sN), g1.keep (hf _ sN1), g2.keep (hf _ sN2), g3.keep (hf _ sN5), g4⟩
      · rw [hD] at hc ⊢
        obtain ⟨rfl, gx, g0, g1, g2, g3⟩ := hc
        exact ⟨rfl, gx, g0.keep (hf _ sN), g1.keep (hf _ sN1), g2.keep (hf _ sN2), g3.keep (hf _ sN5)⟩
      · rw [hC] at hc
        obtain ⟨rfl, g0, g1, g2, g3, g4⟩ := hc
        have := g3.lt
        rw [hS] at hj
        omega
      · rw [hD] at hc
        obtain ⟨rfl, gx, g0, g1, g2, g3⟩ := hc
        have := g3.lt
        rw [hS] at hj
        omega
    have hC0 : C 0 S K0 := by
      rw [hC]
      exact ⟨rfl, (o0'.by k3).by kK, (o1'.by k3).by kK, (o2'.by k3).by kK, rK, fun j hj => by omega⟩
    have hkk : Keep h K0 := (kh2.trans k3).trans kK
    obtain ⟨K', lw, lp, S', t1, t2, t3, t4, t5, t6, t7⟩ := endless98 (ro := ro) (z := z) (b := b) (rbk := N + 5) (rx := N + 3) (px := N + 3 + 1) (L0 := N) (Lc := N) (hB := h) (K0 := K0) (S0 := S) hBud a hkk (x0'.by kK) (x1'.by kK) (by rw [hS]; omega) (fun j hj => by rw [hS]; omega) (by omega) (by omega) cons hC0
    have hk' : Keep h K' := ⟨by omega, fun i hi => by rw [t6 i (by omega) (by rw [hS]; omega), hkk.2 i hi]⟩
    rw [← hK0]
    rcases t4 with t4 | t4
    · rw [hC] at t4
      obtain ⟨-, g0, g1, g2, g3, g4⟩ := t4
      refine ⟨K', lw, lp, _, _, t1, t2, t3, hk', g3, by decide, g2, .inl ⟨rfl, g1, fun hx => ?_⟩⟩
      exact g4 x.toNat (by omega) (by omega)
    · rw [hD] at t4
      obtain ⟨-, gx, g0, g1, g2, g3⟩ := t4
      exact ⟨K', lw, lp, _, _, t1, t2, t3, hk', g3, by decide, g2, .inr ⟨rfl, gx, g1⟩⟩
  simp only [c75', pS, mC]
  refine rngK_eq (t := ((Tr.e.set 5 (.p (some ⟨false, N, 0⟩))).set 6 (.p (some ⟨false, N + 1, 0⟩))).set 7 (.p (some ⟨false, N + 2, 0⟩))) ⟨trivial, by rw [get_set_ne _ _ (by decide), get_set_ne _ _ (by decide)]; simp, by rw [get_set_ne _ _ (by decide)]; simp, by simp⟩ fun t ht => ?_
  obtain ⟨K', lw, lp, p, s', t1, t2, t3, t4, r1, r2, g2, r3⟩ := one t ht
  have hlt := r1.lt
  have e2 := r1.ended r2
  obtain ⟨J, hJ⟩ : ∃ J, J = lset none K' (N + 5) := ⟨_, rfl⟩
  have kJ : Keep h J := by rw [hJ, lset_eq]; exact t4.set (by omega) none
  have o2J : Holds J (N + 2) [.i .i64 0] := g2.keep (by rw [hJ, lset_eq]; exact List.getElem?_set_ne (by omega))
  rw [← hJ] at e2
  refine ⟨(p.getD .norm, ⟨J, N, N⟩), ?_, ?_⟩
  · unfold rngT rngA
    simp only [List.nil_append, List.cons_append, l3, t1, e2]
    show some (p.getD AExit.norm, (⟨J, min (min N lw) (N + 5), min N lp⟩ : Mm)) = _
    rw [show min (min N lw) (N + 5) = N by omega, show min N lp = N by omega]
  · rcases r3 with ⟨rfl, g1, hx⟩ | ⟨rfl, hx, g1⟩
    · have o1J : Holds J (N + 1) [.s []] := g1.keep (by rw [hJ, lset_eq]; exact List.getElem?_set_ne (by omega))
      rw [e, if_neg hx]
      exact done J _ _ [] _ kJ o1J o2J
    · have o1J : Holds J (N + 1) [.s [letE z b x.toNat]] := g1.keep (by rw [hJ, lset_eq]; exact List.getElem?_set_ne (by omega))
      rw [e, if_pos hx]
      exact fin J _ _ kJ o1J o2J
end
end Go.Proofs.Ytfohppnelbbepaa.T
/- Letter of the reference, law 7 -/
open Go.Vm
set_option linter.unusedVariables false
set_option linter.unusedSectionVars false
namespace Go.Proofs.Ytfohppnelbbepaa.T
open Go
variable [Ovr]
section
variable {ro : List ABlk} {h hp : Heap}
theorem letE_eq {z : List (List UInt8)} {b i j : Nat} (hb : BudOk z b) (hj : j < (shootE z b i).length) : (shootE z b i).getD j 0 = letE z b j := by
  unfold letE
  rcases Nat.le_total i j with h | h
  · have := (shootE_pre z b hj (j - i)).1
    rw [show i + (j - i) = j by omega] at this
    exact this.symm
  · have hl : j < (shootE z b j).length := by have := (shootE_len hb j).1; omega
    have := (shootE_pre z b hl (i - j)).1
    rw [show j + (i - j) = i by omega] at this
    exact this
end
end Go.Proofs.Ytfohppnelbbepaa.T
/- Parts of the reference -/
open Go.Vm
set_option linter.unusedVariables false
set_option linter.unusedSectionVars false
namespace Go.Proofs.Ytfohppnelbbepaa.T
open Go
variable [Ovr]
section
variable {ro : List ABlk} {h hp : Heap}
theorem Holds.row {K : Heap} {b n : Nat} {c : Cap} {x : List Int} (a : Holds K b (x.map (AVal.i .i64))) (hn : n = x.length) : IsRow ro K (.sl ⟨false, b, 0⟩ n c) x := by
  subst hn
  obtain ⟨blk, h1, h2, h3⟩ := a
  rw [List.length_map] at h2 h3
  refine .inr ⟨_, _, blk, rfl, rdB_heap h1 0, by show 0 + x.length ≤ _; omega, fun j hj => ?_⟩
  rw [Nat.zero_add, h3 j hj]
  simp [List.getD, hj]
def cntOk (z : List (List UInt8)) (y : Nat) (s : List UInt8) (k : Nat) : Prop := ∀ p, p < k → (grw z y s).count (lt p) ≤ 1152921504606846976
noncomputable instance {z : List (List UInt8)} {y : Nat} {s : List UInt8} {k : Nat} : Decidable (cntOk z y s k) := Classical.propDecidable _
end
end Go.Proofs.Ytfohppnelbbepaa.T
/- Parts, law 3 -/
open Go.Vm
set_option linter.unusedVariables false
set_option linter.unusedSectionVars false
namespace Go.Proofs.Ytfohppnelbbepaa.T
open Go
variable [Ovr]
section
variable {ro : List ABlk} {h hp : Heap}
end
end Go.Proofs.Ytfohppnelbbepaa.T
/- sorted of the reference -/
open Go.Vm
set_option linter.unusedVariables false
set_option linter.unusedSectionVars false
namespace Go.Proofs.Ytfohppnelbbepaa.T
open Go
variable [Ovr]
section
variable {ro : List ABlk} {h hp : Heap}
end
end Go.Proofs.Ytfohppnelbbepaa.T
/- Factors of the reference, law 8 -/
open Go.Vm
set_option linter.unusedVariables false
set_option linter.unusedSectionVars false
namespace Go.Proofs.Ytfohppnelbbepaa.T
open Go
variable [Ovr]
section
variable {ro : List ABlk} {h hp : Heap}
theorem letE_isL {z : List (List UInt8)} {b : Nat} (hb : BudOk z b) (i : Nat) : isL z.length (letE z b i) := by
  obtain ⟨h1, -, -, h4⟩ := shootE_len hb i
  exact h4 i (by omega)
def winE (z : List (List UInt8)) (b k n : Nat) : List UInt8 := (List.range n).map fun j => letE z b (k + j)
end
end Go.Proofs.Ytfohppnelbbepaa.T
/- The word of Fibonacci -/
open Go.Vm
set_option linter.unusedVariables false
set_option linter.unusedSectionVars false
namespace Go.Proofs.Ytfohppnelbbepaa.T
open Go
variable [Ovr]
/- the word of Fibonacci -/
theorem winE_take (z : List (List UInt8)) (b k : Nat) {m n : Nat} (h : m ≤ n) : (winE z b k n).take m = winE z b k m := by
  unfold winE
  rw [← List.map_take, List.take_range, Nat.min_eq_left h]
theorem sig_word {z : List (List UInt8)} {b : Nat} (hb : BudOk z b) {j t : Nat} (ht : t < (grw z 1 (wrd z b j)).length) : (grw z 1 (wrd z b j)).getD t 0 = letE z b t := by
  cases j with
  | zero => exact absurd ht (by simp [wrd, grw])
  | succ i =>
    obtain ⟨h1, h2, -, -⟩ := shootE_len hb i
    have e : (shootE z b i).take (i + 1) = wrd z b (i + 1) := by
      refine List.ext_getElem? fun t => ?_
      rcases Nat.lt_or_ge t (i + 1) with h | h
      · have hl : t < (shootE z b i).length := by omega
        have := letE_eq hb hl
        simp [List.getElem?_take, h, wrd, List.getElem?_eq_getElem hl]
        rw [← this]; simp [List.getD, hl]
      · rw [List.getElem?_eq_none (by rw [List.length_take]; omega), List.getElem?_eq_none (by simp [wrd]; omega)]
    rw [e] at h2
    rw [← h2] at ht ⊢
    exact letE_eq hb ht
/- how often each letter lies in the word of Thue and Morse -/
end Go.Proofs.Ytfohppnelbbepaa.T
/- Law 14 -/
open Go.Vm
set_option linter.unusedVariables false
set_option linter.unusedSectionVars false
namespace Go.Proofs.Ytfohppnelbbepaa.T
open Go
variable [Ovr]
section
variable {ro : List ABlk} {h hp : Heap}
end
end Go.Proofs.Ytfohppnelbbepaa.T
/- Law 13 -/
open Go.Vm
set_option linter.unusedVariables false
set_option linter.unusedSectionVars false
namespace Go.Proofs.Ytfohppnelbbepaa.T
open Go
variable [Ovr]
/- what a bud becomes is a beginning of the word -/
theorem sig_wrd {z : List (List UInt8)} {b : Nat} (hb : BudOk z b) (j : Nat) : grw z 1 (wrd z b j) = wrd z b (grw z 1 (wrd z b j)).length := by
  obtain ⟨n, hn⟩ : ∃ n, n = (grw z 1 (wrd z b j)).length := ⟨_, rfl⟩
  rw [← hn]
  refine List.ext_getElem? fun t => ?_
  rcases Nat.lt_or_ge t n with h | h
  · have h' : t < (grw z 1 (wrd z b j)).length := by omega
    have := sig_word hb h'
    rw [List.getD_eq_getElem?_getD, List.getElem?_eq_getElem h', Option.getD_some] at this
    rw [List.getElem?_eq_getElem h', this]
    unfold wrd
    rw [List.getElem?_map, List.getElem?_range h]; rfl
  · rw [List.getElem?_eq_none (by omega), List.getElem?_eq_none (by unfold wrd; rw [List.length_map, List.length_range]; exact h)]
theorem letE_0 {z : List (List UInt8)} {b : Nat} (hb : BudOk z b) : letE z b 0 = lt b := by
  obtain ⟨rest, e, -, -⟩ := hb.is
  show (z.getD b []).getD 0 0 = _
  rw [e]; rfl
theorem grw_wrd {z : List (List UInt8)} {b : Nat} (hb : BudOk z b) : ∀ y, ∃ m, grw z y [lt b] = wrd z b m
  | 0 => ⟨1, by
    show [lt b] = [letE z b 0]
    rw [letE_0 hb]⟩
  | y + 1 => by
    obtain ⟨m, hm⟩ := grw_wrd hb y
    exact ⟨_, by rw [grw_last, hm]; exact sig_wrd hb m⟩
theorem grw_let {z : List (List UInt8)} {b y t : Nat} (hb : BudOk z b) (ht : t < lenS z y [lt b]) : (grw z y [lt b]).getD t 0 = letE z b t := by
  obtain ⟨m, hm⟩ := grw_wrd hb y
  rw [← grw_len, hm] at ht
  have hl : t < m := by simpa [wrd] using ht
  rw [hm]
  simp [wrd, List.getD, hl]
theorem fact_mem {z : List (List UInt8)} {b n : Nat} (hn : n ≤ 10) (w : List UInt8) : w ∈ (winsF (wrd z b 100000) n (100001 - n)).foldl addK [] ↔ ∃ k, k < 100001 - n ∧ w = winE z b k n := by
  obtain ⟨-, h2⟩ := foldK (winsF (wrd z b 100000) n (100001 - n)) [] List.nodup_nil
  rw [h2 w, winsF_mem]
  constructor
  · rintro (h | ⟨k, hk, rfl⟩)
    · cases h
    · exact ⟨k, hk, by rw [wrd_take (by omega), Nat.add_comm n k, wrd_win]; rfl⟩
  · rintro ⟨k, hk, rfl⟩
    exact .inr ⟨k, hk, by rw [wrd_take (by omega), Nat.add_comm n k, wrd_win]; rfl⟩
theorem fact_pos {z : List (List UInt8)} {b n : Nat} (hn : n ≤ 10) : 1 ≤ factN z b n :=
  List.length_pos_of_mem ((fact_mem (z := z) (b := b) hn (winE z b 0 n)).2 ⟨0, by omega, rfl⟩)
theorem fact_next {z : List (List UInt8)} {b n : Nat} (hn : n + 1 ≤ 10) : factN z b n ≤ factN z b (n + 1) + 1 := by
  obtain ⟨h1, -⟩ := foldK (winsF (wrd z b 100000) n (100001 - n)) [] List.nodup_nil
  have := nodup_le (m := winE z b (100000 - n) n :: ((winsF (wrd z b 100000) (n + 1) (100001 - (n + 1))).foldl addK []).map fun u => u.take n) h1 fun w hw => by
    obtain ⟨k, hk, rfl⟩ := (fact_mem (by omega) w).1 hw
    by_cases e : k = 100000 - n
    · subst e; exact List.mem_cons_self
    · refine List.mem_cons_of_mem _ (List.mem_map.2 ⟨winE z b k (n + 1), (fact_mem hn _).2 ⟨k, by omega, rfl⟩, ?_⟩)
      exact winE_take _ _ _ (by omega)
  rw [List.length_cons, List.length_map] at this
  exact this
theorem sig_len (z : List (List UInt8)) (b j : Nat) : (grw z 1 (wrd z b (j + 1))).length = (grw z 1 (wrd z b j)).length + (z.getD (ix (letE z b j)) []).length := by
  rw [wrd_succ, grw_app, List.length_append]
  congr 1
  show (z.getD (ix (letE z b j)) [] ++ []).length = _
  rw [List.append_nil]
theorem sig_le {z : List (List UInt8)} {b : Nat} (hb : BudOk z b) : ∀ j, (grw z 1 (wrd z b j)).length ≤ 8 * j
  | 0 => Nat.le_refl _
  | j + 1 => by
    have := hb.ok.h8 _ (ix_lt (letE_isL hb j))
    have := sig_le hb j
    rw [sig_len]; omega
theorem sig_up {z : List (List UInt8)} {b : Nat} (hb : BudOk z b) (j : Nat) : (grw z 1 (wrd z b j)).length ≤ 8 * j ∧ (grw z 1 (wrd z b (j + 1))).length = (grw z 1 (wrd z b j)).length + (z.getD (ix (letE z b j)) []).length := ⟨sig_le hb j, sig_len z b j⟩
theorem sig_at {z : List (List UInt8)} {b j t : Nat} (hb : BudOk z b) (ht : t < (z.getD (ix (letE z b j)) []).length) : letE z b ((grw z 1 (wrd z b j)).length + t) = (z.getD (ix (letE z b j)) []).getD t 0 := by
  obtain ⟨-, e⟩ := sig_up hb j
  have hl : (grw z 1 (wrd z b j)).length + t < (grw z 1 (wrd z b (j + 1))).length := by omega
  rw [← sig_word hb hl, wrd_succ, grw_app, List.getD_eq_getElem?_getD, List.getElem?_append_right (by omega), show (grw z 1 (wrd z b j)).length + t - (grw z 1 (wrd z b j)).length = t by omega]
  show (z.getD (ix (letE z b j)) [] ++ [])[t]?.getD 0 = _
  rw [List.append_nil, ← List.getD_eq_getElem?_getD]
theorem errU_lt {z : List (List UInt8)} (hv : errV z = 0) {p : Nat} (hp : p < z.length) : errU z [lt p] = if isBud z p = true then 0 else 10 := by
  have h6 := (VOk.of hv).h6
  have e1 : ([lt p] : List UInt8).getD 0 0 = lt p := rfl
  unfold errU
  rw [if_neg (by simp [hv]), if_pos ⟨rfl, has_mem.2 fun c hc => by rw [List.mem_singleton] at hc; rw [hc]; exact isL_lt hp (by omega)⟩, e1, ix_lt' (by omega)]
theorem win_one {s : List UInt8} {t : Nat} (ht : t < s.length) : (s.take (t + 1)).drop t = [s.getD t 0] := by
  have hl : (s.take t).length = t := by rw [List.length_take]; omega
  rw [take_snoc 0 ht]
  have := List.drop_left (l₁ := s.take t) (l₂ := [s.getD t 0])
  rwa [hl] at this
section
variable {ro : List ABlk} {h hp : Heap}
set_option maxHeartbeats 2000000 in
theorem law13 {v : AVal} {z : List (List UInt8)} {y1 y2 y3 y4 : Int} (hA : ∀ h, callX F1 ro 16 [] h = some (.b true, h, h.length, h.length)) (a : IsS ro h v z) (h1 : 0 ≤ y1 ∧ y1 ≤ 255) (h2 : 0 ≤ y2 ∧ y2 ≤ 255) (h3 : 0 ≤ y3 ∧ y3 ≤ 65535) (h4 : 0 ≤ y4 ∧ y4 ≤ 255) :
    callX F1 ro 13 [v, .i .u8 y1, .i .u8 y2, .i .u16 y3, .i .u8 y4] h = some (.b true, h, h.length, h.length) := by
  refine g13_ok (meansX_ok F1 ro) (Ovr.no rfl) ?_
  unfold g13
  simp only [mC, cp0 (few15 (s := []) a), pS, bS, fB]
  by_cases hf : fewB z []
  rotate_left
  · simp only [dF hf, nF, cT, oS, cp0 (hA h), pS, bS, tA]
    exact fin_pure rfl
  have hf' := fewB_len hf
  simp only [dT hf, nT, cF, cp0 (vine46 a hf'.1 hf'.2.1), pS, iS, oS]
  by_cases hv : errV z = 0
  rotate_left
  · simp only [eqI_ne hv, nF, cT, cp0 (hA h), pS, bS, tA]
    exact fin_pure rfl
  have vok := VOk.of hv
  have n6 := vok.h6
  have n1 := vok.h1
  have e0 : eqI (errV z) 0 = true := by rw [hv]; rfl
  obtain ⟨a1, rfl⟩ := Int.eq_ofNat_of_zero_le h1.1
  obtain ⟨yr, rfl⟩ := Int.eq_ofNat_of_zero_le h2.1
  obtain ⟨pl, rfl⟩ := Int.eq_ofNat_of_zero_le h3.1
  obtain ⟨c4, rfl⟩ := Int.eq_ofNat_of_zero_le h4.1
  obtain ⟨p, hp⟩ : ∃ p, p = a1 % z.length := ⟨_, rfl⟩
  have hpl : p < z.length := by rw [hp]; exact Nat.mod_lt _ (by omega)
  have t1 : Int.tmod (a1 : Int) (z.length : Int) = (p : Int) := by rw [hp]; exact (Int.ofNat_tmod _ _).symm
  have w1 : wr .i64 (a1 : Int) = (a1 : Int) := lt64 (by omega)
  have w2 : wr .i64 (97 + (p : Int)) = ((97 + p : Nat) : Int) := by rw [wr_id' (by omega) (by omega)]; omega
  have ltn : (lt p).toNat = 97 + p := by unfold lt; rw [UInt8.toNat_ofNat']; omega
  have w3 : wr .u8 ((97 + p : Nat) : Int) = (((lt p).toNat : Nat) : Int) := by rw [wr_u8 (by omega), ltn]
  have w4 : wr .i64 (pl : Int) = (pl : Int) := lt64 (by omega)
  have w5 : wr .i64 (yr : Int) = (yr : Int) := lt64 (by omega)
  obtain ⟨L, hL⟩ : ∃ L, L = h.length := ⟨_, rfl⟩
  obtain ⟨H1, s1, s2, k1, l1⟩ := one_str (ro := ro) (K := h) (l := L) (p := L) (lt p)
  rw [← hL] at s1 s2
  have a1' := S_by a k1
  have q1 := k1.1
  obtain ⟨w, H2, c34, k2, r34⟩ := endless34 (ro := ro) a1' hf'.1 hf'.2.1
  have q2 := k2.1
  have a2 := S_by a1' k2
  have c34' := cM (l := L) (p := L) c34 (by omega) (by omega)
  have hbv : budV z = budsL z z.length := by unfold budV; rw [if_pos hv]
  rw [hbv] at r34
  rw [hv] at c34'
  have hfl : z.length ≤ 1000000 ∧ (∀ i, i < z.length → (z.getD i []).length ≤ 1000000) ∧ ([lt p] : List UInt8).length ≤ 1000000 := ⟨hf'.1, hf'.2.1, by simp⟩
  have c36 := fun x => cp (l := L) (p := L) (letter36 (ro := ro) (s := [lt p]) (x := x) a2 hfl) (by omega) (by omega)
  have cA := cp (l := L) (p := L) (hA H2) (by omega) (by omega)
  -- is the part in the list?
  have inner : loopX (fun q : Bool × Int => g13_b1 (meansX F1 ro) ro v (yr : Int) (pl : Int) (c4 : Int) (p : Int) [lt p] w 0 ⟨H2, L, L⟩ q.1 q.2) (false, 0) = some (isBud z p) := by
    have hlw := len_row r34
    have key : ∃ r, loopX (fun q : Bool × Int => g13_b1 (meansX F1 ro) ro v (yr : Int) (pl : Int) (c4 : Int) (p : Int) [lt p] w 0 ⟨H2, L, L⟩ q.1 q.2) (false, 0) = some r ∧ (r = true ↔ (p : Int) ∈ (budsL z z.length).take (budsL z z.length).length) := by
      have hbl : (budsL z z.length).length ≤ 1000 := by
        unfold budsL
        rw [List.length_map]
        have := List.length_filter_le (isBud z) (List.range z.length)
        rw [List.length_range] at this; omega
      refine loop_gen (budsL z z.length).length (fun j q => ∃ c, q = (c, (j : Int)) ∧ (c = true ↔ (p : Int) ∈ (budsL z z.length).take j)) _ ?_ ?_ (budsL z z.length).length 0 _ (by omega) ⟨false, rfl, by simp⟩
      · rintro j q hj ⟨c, rfl, hc⟩
        obtain ⟨pp, i1, i2⟩ := at_rowK r34 hj
        have step : g13_b1 (meansX F1 ro) ro v (yr : Int) (pl : Int) (c4 : Int) (p : Int) [lt p] w 0 ⟨H2, L, L⟩ c (j : Int) = some (.inl (c || decide ((budsL z z.length).getD j 0 = (p : Int)), ((j + 1 : Nat) : Int))) := by
          cases c with
          | true => simp only [g13_b1, hlw, oS, iS, fB, ltT (show (j : Int) < ((budsL z z.length).length : Int) by omega), cT, fI', nx (show j ≤ 1000000 by omega), Bool.true_or]
          | false =>
            have e : eqI ((budsL z z.length).getD j 0) (p : Int) = decide ((budsL z z.length).getD j 0 = (p : Int)) := by
              by_cases e : (budsL z z.length).getD j 0 = (p : Int)
              · rw [dT e, e, eqI_self]
              · rw [dF e, eqI_ne e]
            simp only [g13_b1, hlw, oS, iS, fB, ltT (show (j : Int) < ((budsL z z.length).length : Int) by omega), cT, cF, i1, (i2 (Keep.refl H2)).1, e, fI', nx (show j ≤ 1000000 by omega), Bool.false_or]
        refine ⟨_, step, _, rfl, ?_⟩
        rw [Bool.or_eq_true, hc, decide_eq_true_eq, take_snoc 0 hj, List.mem_append, List.mem_singleton]
        constructor
        · rintro (h | h)
          · exact .inl h
          · exact .inr h.symm
        · rintro (h | h)
          · exact .inl h
          · exact .inr h.symm
      · rintro q ⟨c, rfl, hc⟩
        exact ⟨_, (by simp only [g13_b1, hlw, oS, iS, fB, ltF (Int.lt_irrefl _), cF] <;> rfl), hc⟩
    obtain ⟨r, e1, e2⟩ := key
    rw [List.take_length] at e2
    have e3 : (p : Int) ∈ budsL z z.length ↔ isBud z p = true := by
      unfold budsL
      rw [List.mem_map]
      constructor
      · rintro ⟨q, hq, e⟩
        have : q = p := by
          have e' : ((q : Nat) : Int) = (p : Int) := e
          omega
        subst this
        exact (List.mem_filter.1 hq).2
      · intro hb
        exact ⟨p, List.mem_filter.2 ⟨List.mem_range.2 hpl, hb⟩, rfl⟩
    rw [e1]
    congr 1
    cases hb : isBud z p with
    | true => exact e2.2 (e3.2 hb)
    | false =>
      cases r with
      | false => rfl
      | true => have := e3.1 (e2.1 rfl); rw [hb] at this; cases this
  have hU := errU_lt hv hpl
  have ck0 : (!eqI (z.length : Int) (Int.ofNat 0)) = true := by rw [eqI_ne (by have : Int.ofNat 0 = 0 := rfl; omega)]; rfl
  have bvl : AVal.i .u8 (((lt p).toNat : Nat) : Int) = bv (lt p) := rfl
  simp only [e0, nT, cF, fI', w1, len_S a, oS, iS, ck0, ckT, t1, w2, w3, bvl, ← hL, s1, pS, s2, sS, c34', x0, x1, meansX_loop, inner, w4, c36 (pl : Int)]
  by_cases hbud : isBud z p = true
  rotate_left
  · have hbf : isBud z p = false := by cases h : isBud z p; rfl; exact absurd h hbud
    have eL : letterV z [lt p] (pl : Int) = ([], 10) := by unfold letterV; rw [hU, if_neg hbud, if_pos (by decide)]
    have e10 : eqI (10 : Int) 0 = false := rfl
    simp only [eL, hbf, eqI_self, nT, cF, e10, show ((false : Bool) == false) = true from rfl, nF, cT, oS, strEq, decide_true, bS, cA, pS, tA]
    subst hL
    exact fin_keep (k1.trans k2) rfl
  have B : BudOk z p := ⟨vok, hpl, hbud⟩
  have hU0 : errU z [lt p] = 0 := by rw [hU, if_pos hbud]
  have ixp : ix (([lt p] : List UInt8).getD 0 0) = p := ix_lt' (by omega)
  have eL : ∀ t : Nat, t < 100000 → letterV z [lt p] (t : Int) = ([letE z p t], 0) := fun t ht => by
    unfold letterV
    rw [if_neg (by rw [hU0]; decide), if_pos (by omega), ixp, Int.toNat_natCast]
  have hsp : has z.length [lt p] := has_mem.2 fun c hc => by rw [List.mem_singleton] at hc; rw [hc]; exact isL_lt hpl (by omega)
  have hS0 : errS z [lt p] = 0 := by unfold errS; rw [if_neg (by simp [hv]), if_pos ⟨by simp, hsp⟩]
  have hY0 : errY z [lt p] (yr : Int) = 0 := by unfold errY; rw [if_neg (fun e => e hS0), if_pos (by omega)]
  have c24 := cp (l := L) (p := L) (at24 (ro := ro) (s := [lt p]) (y := (yr : Int)) (x := (pl : Int)) a2 hfl (by omega)) (by omega) (by omega)
  have eA : atV z [lt p] (yr : Int) (pl : Int) = if pl < lenS z yr [lt p] then ([letE z p pl], 0) else ([], 6) := by
    unfold atV
    rw [if_neg (fun e => e hY0), if_neg (by omega), Int.toNat_natCast, Int.toNat_natCast]
    by_cases hc : pl < lenS z yr [lt p]
    · rw [if_pos hc, if_pos hc, grw_let B hc]
    · rw [if_neg hc, if_neg hc]
  -- the word becomes itself
  have key : ∃ r, loopX (fun q : Int × Int × Mm => g13_b9 (meansX F1 ro) ro v (c4 : Int) [lt p] q.1 q.2.1 q.2.2) (0, 0, ⟨H2, L, L⟩) = some r ∧ r = .inl ⟨H2, L, L⟩ := by
    refine loop_gen 40 (fun j q => q = ((((grw z 1 (wrd z p j)).length : Nat) : Int), (j : Int), ⟨H2, L, L⟩)) _ ?_ ?_ 40 0 _ (by omega) (by rfl)
    · rintro j q hj rfl
      obtain ⟨u1, u2⟩ := sig_up B j
      have hLj := letE_isL B j
      have hx := ix_lt hLj
      have e2 : ix (letE z p j) ≤ 255 := by unfold ix; have := (letE z p j).toNat_lt; omega
      obtain ⟨pp, i1, i2⟩ := at_S a2 hx
      have h8 := vok.h8 _ hx
      have i00 : evP .e (.ixStr (.c (.s [letE z p j])) (.c (.i .i64 0))) = some (bv (letE z p j)) := ix_str (l := [letE z p j]) (i := 0) (by simp)
      have key2 : ∃ r, loopX (fun q : Int × Int × Mm => g13_b13 (meansX F1 ro) ro v (c4 : Int) [lt p] (j : Int) (z.getD (ix (letE z p j)) []) q.1 q.2.1 q.2.2) ((((grw z 1 (wrd z p j)).length : Nat) : Int), 0, ⟨H2, L, L⟩) = some r ∧ r = .inl ((((grw z 1 (wrd z p (j + 1))).length : Nat) : Int), ⟨H2, L, L⟩) := by
        refine loop_gen (z.getD (ix (letE z p j)) []).length (fun t q => q = ((((grw z 1 (wrd z p j)).length + t : Nat) : Int), (t : Int), ⟨H2, L, L⟩)) _ ?_ ?_ (z.getD (ix (letE z p j)) []).length 0 _ (by omega) rfl
        · rintro t q ht rfl
          have e3 := sig_at B ht
          have w6 : wr .i64 ((((grw z 1 (wrd z p j)).length + t : Nat) : Int) + 1) = (((grw z 1 (wrd z p j)).length + (t + 1) : Nat) : Int) := by rw [wr_id' (by omega) (by omega)]; omega
          have c := c36 (((grw z 1 (wrd z p j)).length + t : Nat) : Int)
          rw [eL _ (by omega), e3] at c
          exact ⟨_, (by simp only [g13_b13, len_str, oS, iS, fB, ltT (show (t : Int) < ((z.getD (ix (letE z p j)) []).length : Int) by omega), cT, mC, c, pS, x0, x1, sS, eqI_self, nT, cF, fI', nx (show t ≤ 1000000 by omega), slS_win (show t ≤ t + 1 by omega) (show t + 1 ≤ (z.getD (ix (letE z p j)) []).length by omega), win_one ht, strNe, decide_true, bS, w6] <;> rfl), rfl⟩
        · rintro q rfl
          exact ⟨_, (by simp only [g13_b13, len_str, oS, iS, fB, ltF (Int.lt_irrefl _), cF] <;> rfl), by rw [u2]⟩
      obtain ⟨r, e4, rfl⟩ := key2
      have c := c36 (j : Int)
      rw [eL j (by omega)] at c
      have e1 : eqI (([letE z p j] : List UInt8).length : Int) 1 = true := rfl
      have g97 : ¬ (((letE z p j).toNat : Nat) : Int) < 97 := by have := hLj.1; omega
      exact ⟨_, (by simp only [g13_b9, fB, ltT (show (j : Int) < 40 by omega), cT, mC, c, pS, x0, x1, oS, sS, iS, eqI_self, nT, cF, len_str, e1, i00, ltF g97, fI', sub97 hLj.1, lt64 (show ix (letE z p j) ≤ 9223372036854775807 by omega), len_S a2, ltT (show ((ix (letE z p j) : Nat) : Int) < (z.length : Int) by omega), i1, (i2 (Keep.refl H2)).1, meansX_loop, e4, nx (show j ≤ 1000000 by omega)] <;> rfl), rfl⟩
    · rintro q rfl
      exact ⟨_, (by simp only [g13_b9, fB, ltF (show ¬ ((40 : Nat) : Int) < 40 by omega), cF] <;> rfl), rfl⟩
  obtain ⟨r, e9, rfl⟩ := key
  obtain ⟨n, hn⟩ : ∃ n, n = c4 % 9 := ⟨_, rfl⟩
  have hn8 : n ≤ 8 := by omega
  have t9 : Int.tmod (c4 : Int) 9 = (n : Int) := by rw [hn]; rfl
  have v1 : wr .i64 (n : Int) = (n : Int) := lt64 (by omega)
  have v2 : wr .i64 (1 + (n : Int)) = ((n + 1 : Nat) : Int) := by rw [wr_id' (by omega) (by omega)]; omega
  have v3 : wr .i64 (((n + 1 : Nat) : Int) + 1) = ((n + 1 + 1 : Nat) : Int) := nx (by omega)
  have eF : ∀ m : Nat, 1 ≤ m → m ≤ 10 → factV z [lt p] (m : Int) = (((factN z p m : Nat) : Int), 0) := fun m g1 g2 => by
    unfold factV
    rw [if_neg (by rw [hU0]; decide), if_neg (by omega), ixp, Int.toNat_natCast]
  have f1 := cp (l := L) (p := L) (factors38 (ro := ro) (s := [lt p]) (x := ((n + 1 : Nat) : Int)) a2 hfl.1 hfl.2.1 hfl.2.2) (by omega) (by omega)
  have f2 := cp (l := L) (p := L) (factors38 (ro := ro) (s := [lt p]) (x := ((n + 1 + 1 : Nat) : Int)) a2 hfl.1 hfl.2.1 hfl.2.2) (by omega) (by omega)
  rw [eF _ (by omega) (by omega)] at f1 f2
  have g1 := fact_pos (z := z) (b := p) (n := n + 1) (by omega)
  have g2 := fact_next (z := z) (b := p) (n := n + 1) (by omega)
  have g3 : factN z p (n + 1) ≤ 1000000 := by
    obtain ⟨h1', h2'⟩ := foldK (winsF (wrd z p 100000) (n + 1) (100001 - (n + 1))) [] List.nodup_nil
    have : ∀ m, (winsF (wrd z p 100000) (n + 1) m).length = m := fun m => by
      induction m with
      | zero => rfl
      | succ m ih => show (winsF _ _ m ++ [_]).length = _; rw [List.length_append, ih]; rfl
    have hh := nodup_le h1' fun x hx => by
      rcases (h2' x).1 hx with h | h
      · cases h
      · exact h
    rw [this] at hh
    show ((winsF _ _ _).foldl addK []).length ≤ _
    omega
  have v4 : wr .i64 (((factN z p (n + 1) : Nat) : Int) - 1) = ((factN z p (n + 1) - 1 : Nat) : Int) := by rw [wr_id' (by omega) (by omega)]; omega
  simp only [eL pl (by omega), hbud, eqI_self, nT, cF, oS, show ((true : Bool) == true) = true from rfl, fI', w5, w4, c24, pS, x0, x1, sS, iS, eA]
  by_cases hc : pl < lenS z yr [lt p]
  · simp only [if_pos hc, eqI_self, cT, strNe, decide_true, nT, bS, oS, cF, e9, t9, v1, v2, f1, pS, x0, x1, iS, v3, f2, v4, ltF (show ¬ ((factN z p (n + 1) : Nat) : Int) < 1 by omega), nF, ltF (show ¬ ((factN z p (n + 1 + 1) : Nat) : Int) < ((factN z p (n + 1) - 1 : Nat) : Int) by omega), cA, tA]
    subst hL
    exact fin_keep (k1.trans k2) rfl
  · have e60 : eqI (6 : Int) 0 = false := rfl
    simp only [if_neg hc, e60, eqI_self, cT, nT, nF, oS, cF, e9, t9, v1, v2, f1, pS, x0, x1, iS, v3, f2, v4, ltF (show ¬ ((factN z p (n + 1) : Nat) : Int) < 1 by omega), ltF (show ¬ ((factN z p (n + 1 + 1) : Nat) : Int) < ((factN z p (n + 1) - 1 : Nat) : Int) by omega), cA, bS, tA]
    subst hL
    exact fin_keep (k1.trans k2) rfl
theorem u8_in {n : Int} (h : (Lit.int .u8 n).wf = true) : 0 ≤ n ∧ n ≤ 255 := by
  simp only [Lit.wf, Bool.and_eq_true, decide_eq_true_eq] at h
  exact h
theorem u16_in {n : Int} (h : (Lit.int .u16 n).wf = true) : 0 ≤ n ∧ n ≤ 65535 := by
  simp only [Lit.wf, Bool.and_eq_true, decide_eq_true_eq] at h
  exact h
end
end Go.Proofs.Ytfohppnelbbepaa.T
/- The bridge, alive known -/
open Go.Vm
set_option linter.unusedVariables false
set_option linter.unusedSectionVars false
namespace Go.Proofs.Ytfohppnelbbepaa.T
open Go Go.RowKit Go.Deep Go.WideShapes Go.ChangeShapes
attribute [local instance] ovA
theorem aliveA {ro : List ABlk} (h : Heap) : callX F1 ro 16 [] h = some (.b true, h, h.length, h.length) := callX_ov rfl
theorem call_ofA {W : World} {ro : List ABlk} {rl : Rl} (hE : (Env.mk Try.prog W.heap.size W ro rl).Ok) {K : Nat} {vs : List AVal} {args : Array Value}
    (hv : LR rl [] vs args) {h' : Heap} {lw lp : Nat} (hc : callX F1 ro K vs [] = some (.b true, h', lw, lp)) : Calls Try.prog K args W fun e W' => e = .returned (.bool true) ∧ Below W.heap.size W W' :=
  call_of hE (alive_known hE (Try.checked.mixed) fok) hv hc
theorem exC {ro : List ABlk} {k : Nat} {l : List AVal} {h : Heap} {n m : Nat} {H : Heap} (e : callX F1 ro k l h = some (.b true, H, n, m)) : ∃ h' lw lp, callX F1 ro k l h = some (.b true, h', lw, lp) := ⟨_, _, _, e⟩
end Go.Proofs.Ytfohppnelbbepaa.T

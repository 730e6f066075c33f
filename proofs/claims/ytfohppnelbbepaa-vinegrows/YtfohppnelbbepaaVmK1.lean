/- Contracts of the functions: what each of them answers. -/
import Derived.Test.YtfohppnelbbepaaVmK0
import Derived.Test.YtfohppnelbbepaaVmAG
/- The endless shoot, letter by letter -/
open Go.Vm
set_option linter.unusedVariables false
set_option linter.unusedSectionVars false
namespace Go.Proofs.Ytfohppnelbbepaa.T
open Go
variable [Ovr]
section
variable {ro : List ABlk} {h hp : Heap}
theorem endless75 {v : AVal} {x : Int} (hv : v.cells = [v]) : callX F1 ro 75 [v, .i .i64 x] h = some (.fn 98 [] [.p (some ⟨false, h.length, 0⟩), .p (some ⟨false, h.length + 1, 0⟩)], h ++ [some (blkOf 55 [v]), some (blkOf 3 [.i .i64 x])], h.length, h.length) := by
  refine g75_ok (meansX_ok F1 ro) (Ovr.no rfl) ?_
  unfold g75
  simp only [box1 hv, pS, box1 (ro := ro) (show (AVal.i .i64 x).cells = [.i .i64 x] from rfl), oS, tA]
  have hb : (AVal.fn 98 [] [.p (some ⟨false, h.length, 0⟩), .p (some ⟨false, (h ++ [some (blkOf 55 [v])]).length, 0⟩)]).bel h.length = false := by
    have : Nat.blt h.length h.length = false := by rw [← Bool.not_eq_true, Nat.blt_eq]; omega
    simp [AVal.bel, bels, this]
  simp only [finM, gc, hb, Bool.and_false]
  simp
theorem stb_ok {l p : Nat} {c : UInt8} {s : List UInt8} : stepM ro ⟨hp, l, p⟩ (.stb 5 (.c (.s (c :: s)))) = some (.sl ⟨false, hp.length, 0⟩ (s.length + 1) .grow, ⟨hp ++ [some (blkOf 5 ((c :: s).map bv))], l, p⟩) ∧ RowG (hp ++ [some (blkOf 5 ((c :: s).map bv))]) hp.length 5 (.sl ⟨false, hp.length, 0⟩ (s.length + 1) .grow) ((c :: s).map bv) := by
  have e : (c :: s).map byteA = (c :: s).map bv := List.map_congr_left fun b _ => byteA_eq b
  refine ⟨by simp only [stepM, stepK, opd, st_stb, e, newB, St.mm], .inr ⟨hp.length, blkOf 5 ((c :: s).map bv), by simp, by simp, Nat.le_refl _, lget_last _ _, rfl, rfl, fun j hj => get_blk 5 _ j⟩⟩
structure ConsE (ro : List ABlk) (rbk L0 Lc : Nat) (w : Nat → UInt8) (C : Nat → (Nat → Prop) → Heap → Prop) (D : (Nat → Prop) → Heap → Prop) : Prop where
  rnd : ∀ {i S K}, C i S K → i < 100000 → ∃ g K' lw lp S', roundX F1 ro rbk [.i .i64 (i : Int), bv (w i)] K = some (.b g, K', lw, lp) ∧ L0 ≤ lw ∧ L0 ≤ lp ∧ (g = true → C (i + 1) S' K') ∧ (g = false → D S' K') ∧ K.length ≤ K'.length ∧ (lp ≤ Lc ∨ ∀ j, S' j → S j) ∧ (∀ j, j < K.length → ¬ S j → K'[j]? = K[j]?) ∧ ∀ j, S' j → S j ∨ K.length ≤ j
  frame : ∀ {i S K K'}, C i S K → (∀ j, S j → K'[j]? = K[j]?) → C i S K'
  frameD : ∀ {S K K'}, D S K → (∀ j, S j → K'[j]? = K[j]?) → D S K'
  own : ∀ {i S K}, C i S K → ∀ j, S j → j < K.length
  ownD : ∀ {S K}, D S K → ∀ j, S j → j < K.length
set_option maxHeartbeats 2000000 in
theorem endless98 {z : List (List UInt8)} {b rbk rx px L0 Lc : Nat} {C : Nat → (Nat → Prop) → Heap → Prop} {D : (Nat → Prop) → Heap → Prop} {hB K0 : Heap} {rv : AVal} {S0 : Nat → Prop} (hb : BudOk z b) (R : IsS ro hB rv z) (kB : Keep hB K0)
    (h1 : Holds K0 rx [rv]) (h2 : Holds K0 px [.i .i64 (b : Int)]) (hx : ¬ S0 rx) (hS : ∀ j, j < hB.length → ¬ S0 j) (hL0 : L0 ≤ K0.length) (hLc : Lc < K0.length) (cons : ConsE ro rbk L0 Lc (letE z b) C D) (hC : C 0 S0 K0) :
    ∃ K' lw lp S', callX F1 ro 98 [.yld rbk, .p (some ⟨false, rx, 0⟩), .p (some ⟨false, px, 0⟩)] K0 = some (tupA [], K', lw, lp) ∧ L0 ≤ lw ∧ L0 ≤ lp ∧ (C 100000 S' K' ∨ D S' K') ∧ K0.length ≤ K'.length ∧ (∀ j, j < K0.length → ¬ S0 j → K'[j]? = K0[j]?) ∧ ∀ j, S' j → S0 j ∨ K0.length ≤ j := by
  obtain ⟨N, hN⟩ : ∃ N, N = K0.length := ⟨_, rfl⟩
  obtain ⟨rest, er, hr, hhr⟩ := hb.is
  have h6 := hb.ok.h6
  have hbl := hb.plt
  obtain ⟨q1, i1, i2⟩ := at_S R hbl
  have st := stb_ok (ro := ro) (hp := K0) (l := N) (p := N) (c := lt b) (s := rest)
  rw [← er] at st
  obtain ⟨s1, s2⟩ := st
  obtain ⟨K1, hK1⟩ : ∃ K1, K1 = K0 ++ [some (blkOf 5 ((z.getD b []).map bv))] := ⟨_, rfl⟩
  rw [← hK1] at s1 s2
  have lK1 : K1.length = N + 1 := by rw [hK1, hN]; simp
  have kK1 : Keep K0 K1 := by rw [hK1]; exact Keep.app _
  obtain ⟨v0, hv0⟩ : ∃ v0, v0 = AVal.sl ⟨false, K0.length, 0⟩ (rest.length + 1) .grow := ⟨_, rfl⟩
  rw [← hv0] at s1 s2
  rw [← hN] at s2
  have rxl : rx < N := by rw [hN]; exact h1.lt
  have own0 : ∀ j, S0 j → j < N := fun j hj => by rw [hN]; exact cons.own hC j hj
  -- the invariant: w is the shoot's list
  obtain ⟨I, hI⟩ : ∃ I : (Nat → Prop) → AVal → List UInt8 → Heap → Nat → Nat → Prop, I = fun S v c J a p => RowG J N 5 v (c.map bv) ∧ (∀ j, rb v = some j → ¬ S j) ∧ L0 ≤ a ∧ L0 ≤ p ∧ N ≤ J.length ∧ (p ≤ Lc ∨ ∀ j, S j → j < N) ∧ (∀ j, j < N → ¬ S0 j → J[j]? = K0[j]?) ∧ ∀ j, S j → S0 j ∨ N ≤ j := ⟨_, rfl⟩
  have kJ : ∀ {S v c J a p}, I S v c J a p → Keep hB J ∧ Holds J rx [rv] := fun {S v c J a p} g => by
    rw [hI] at g
    obtain ⟨-, -, -, -, g5, -, g7, -⟩ := g
    have := kB.1
    exact ⟨⟨by omega, fun i hi => by rw [g7 i (by omega) (hS i hi), kB.2 i hi]⟩, h1.keep (g7 rx rxl hx)⟩
  have key : ∃ r, loopX (fun s : AVal × Int × Mm => g98_b0 (meansX F1 ro) ro (.yld rbk) (.p (some ⟨false, rx, 0⟩)) s.1 s.2.1 s.2.2) (v0, 0, ⟨K1, N, N⟩) = some r ∧ ∃ S v c J a p, I S v c J a p ∧ ((C 100000 S J ∧ r = .inl ⟨J, a, p⟩) ∨ (D S J ∧ r = .inr ⟨J, a, p⟩)) := by
    refine loop_exit 100000 (fun i s => ∃ S v J a p, s = (v, (i : Int), ⟨J, a, p⟩) ∧ C i S J ∧ I S v (shootE z b (i - 1)) J a p) _ ?_ ?_ 100000 0 _ (by omega) ⟨S0, v0, K1, N, N, rfl, cons.frame hC fun j hj => kK1.2 j (by have := own0 j hj; omega), ?_⟩
    · rintro i s hi ⟨S, v, J, a, p, rfl, hCi, hIi⟩
      obtain ⟨kB', hrx⟩ := kJ hIi
      have hlen := shootE_len hb (i - 1)
      have hlen2 := shootE_len hb i
      have hup := shootE_up hb i
      have reg : ∃ v5 J5 a5 p5, 
          cond (ltI 0 (i : Int)) (
            bindO (some (Mm.base ⟨J, a, p⟩)) fun m_3 =>
            bindO (ldA ro (Mm.h ⟨J, a, p⟩) true 1 (.p (some ⟨false, rx, 0⟩))) fun v18 =>
            bindO (evP .e (.ixS 1 (.c v) (.c (.i .i64 (i : Int))))) fun v21 =>
            bindO (ldM ro m_3 true 1 v21) fun v22 =>
            asI .u8 v22 fun x22 =>
            bindP (callM (callX F1 ro) m_3 54 [(.i .u8 x22)]) fun v23 m_4 =>
            asI .i64 v23 fun x23 =>
            chk (!Nat.blt m_4.lw (Mm.h ⟨J, a, p⟩).length) <|
            bindO (evP .e (.ixS 1 (.c v18) (.c (.i .i64 x23)))) fun v24 =>
            bindO (ldM ro m_4 true 1 v24) fun v25 =>
            asS v25 fun s25 =>
            bindP (stepM ro m_4 (.app 5 1 1 [(AVal.i IntKind.u8 0)] (.c v) (.c (.s s25)))) fun v26 m_5 =>
            bindO (some (Mm.join ⟨J, a, p⟩ m_5)) fun m_6 =>
            some (v26, m_6)) (
            some (v, ⟨J, a, p⟩)) = some (v5, ⟨J5, a5, p5⟩) ∧ C i S J5 ∧ I S v5 (shootE z b i) J5 a5 p5 := by
        rcases Nat.eq_zero_or_pos i with rfl | hi0
        · refine ⟨v, J, a, p, by simp only [show ((0 : Nat) : Int) = 0 from rfl, ltF (Int.lt_irrefl 0), cF, oS], hCi, hIi⟩
        · obtain ⟨i', rfl⟩ : ∃ i', i = i' + 1 := ⟨i - 1, by omega⟩
          rw [Nat.add_sub_cancel] at hIi hlen
          obtain ⟨l1, l2, l3, l4⟩ := hlen
          rw [hI] at hIi
          obtain ⟨g1, g2, g3, g4, g5, g6, g7, g8⟩ := hIi
          have hbl' := l4 (i' + 1) l1
          have hxl := ix_lt hbl'
          obtain ⟨p1, u1, u2⟩ := at_R (ro := ro) (g1.isR (enc := bv)) (i := i' + 1) (x := (shootE z b i').getD (i' + 1) 0) (by simp [List.getD, l1])
          obtain ⟨p2, y1, y2⟩ := at_S R hxl
          have e : shootE z b (i' + 1) = shootE z b i' ++ z.getD (ix ((shootE z b i').getD (i' + 1) 0)) [] := rfl
          have ld := (hrx.ld (ro := ro) (k := 0) rfl 0 0).2
          obtain ⟨v', J', l', p', a1, a2, a3, a4, a5, a6, a7, a8⟩ := g1.pushS (ro := ro) (l := J.length) (p := J.length) (t := z.getD (ix ((shootE z b i').getD (i' + 1) 0)) []) g5 (by rw [e, List.length_append] at hup; omega)
          obtain ⟨b1, b2⟩ := a5 N (Nat.le_refl _) g5 g5
          refine ⟨v', J', min a l', min p p', ?_, ?_, ?_⟩
          · have ld' : ldA ro J true 1 (.p (some ⟨false, rx, 0⟩)) = some rv := ld
            simp only [ltT (show (0 : Int) < ((i' + 1 : Nat) : Int) by omega), cT, baseL, oS, ld', u1, (u2 (Keep.refl J)).1, iS, cp0 (part_of (ro := ro) (h := J) hbl'), pS, chkL (Nat.le_refl J.length), ckT, y1, (y2 kB').1, sS, a1]
            rfl
          · refine cons.frame hCi fun j hj => a4 j (cons.own hCi j hj) fun hv => g2 j hv hj
          · rw [hI]
            refine ⟨?_, ?_, by omega, by omega, by omega, ?_, ?_, g8⟩
            · rw [e]; exact a2
            · intro j hj
              rcases a8 with ⟨-, e1, -⟩ | e1
              · rw [e1] at hj; exact g2 j hj
              · rw [e1] at hj
                intro hSj
                have := cons.own hCi j hSj
                have : J.length = j := by simpa using hj
                omega
            · rcases g6 with g | g
              · exact .inl (by omega)
              · exact .inr g
            · intro j hj hnj
              rw [a4 j (by omega) fun hv => by have := (g1.holds hv).2.1; omega, g7 j hj hnj]
      obtain ⟨v5, J5, a5, p5, r1, r2, r3⟩ := reg
      have r1' := r1
      obtain ⟨kB5, -⟩ := kJ r3
      have r3' := r3
      rw [hI] at r3
      obtain ⟨g1, g2, g3, g4, g5, g6, g7, g8⟩ := r3
      obtain ⟨p1, u1, u2⟩ := at_R (ro := ro) (g1.isR (enc := bv)) (i := i) (x := letE z b i) (by
        have : i < (shootE z b i).length := by have := hlen2.1; omega
        simp [letE, List.getD, this])
      obtain ⟨g, K', lw, lp, S', t1, t2, t3, t4, t5, t6, t7, t8, t9⟩ := cons.rnd r2 hi
      have hcy : callyM (callX F1 ro) (roundX F1 ro) ⟨J5, a5, p5⟩ (.yld rbk) [.i .i64 (i : Int), bv (letE z b i)] = some (.b g, ⟨K', min a5 lw, min p5 lp⟩) := by simp only [callyM, t1]
      have inv : I S' v5 (shootE z b i) K' (min a5 lw) (min p5 lp) := by
        rw [hI]
        refine ⟨g1.by fun j hj => t8 j (g1.holds hj).1.lt (g2 j hj), fun j hj hS' => ?_, by omega, by omega, by omega, ?_, fun j hj hnj => ?_, fun j hj => ?_⟩
        · rcases t9 j hS' with h | h
          · exact g2 j hj h
          · have := (g1.holds hj).1.lt; omega
        · rcases t7 with h | h
          · exact .inl (by omega)
          · rcases g6 with g6 | g6
            · exact .inl (by omega)
            · exact .inr fun j hj => g6 j (h j hj)
        · rw [t8 j (by omega) fun hSj => by rcases g8 j hSj with h | h; exact hnj h; omega, g7 j hj hnj]
        · rcases t9 j hj with h | h
          · exact g8 j h
          · exact .inr (by omega)
      have body : g98_b0 (meansX F1 ro) ro (.yld rbk) (.p (some ⟨false, rx, 0⟩)) v (i : Int) ⟨J, a, p⟩ = (if g = true then some (.inl (v5, ((i + 1 : Nat) : Int), ⟨K', min a5 lw, min p5 lp⟩)) else some (.inr (.inr ⟨K', min a5 lw, min p5 lp⟩))) := by
        unfold g98_b0
        simp only [fB, ltT (show (i : Int) < 100000 by omega), cT, mC, mR]
        rw [r1, oS]
        simp only [u1, oS, (u2 (Keep.refl J5)).1, iS, hcy, pS, bS]
        cases g
        · simp only [nF, cT]; rfl
        · simp only [nT, cF, fI', nx (show i ≤ 1000000 by omega)]; rfl
      cases g with
      | true => exact .inl ⟨_, by rw [body, if_pos rfl], S', v5, K', _, _, rfl, t4 rfl, by rw [Nat.add_sub_cancel]; exact inv⟩
      | false => exact .inr ⟨_, by rw [body, if_neg (by decide)], S', v5, _, K', _, _, inv, .inr ⟨t5 rfl, rfl⟩⟩
    · rintro s ⟨S, v, J, a, p, rfl, hCi, hIi⟩
      exact ⟨_, (by simp only [g98_b0, fB, ltF (show ¬ ((100000 : Nat) : Int) < 100000 by omega), cF] <;> rfl), S, v, _, J, a, p, hIi, .inl ⟨hCi, rfl⟩⟩
    · rw [hI]
      refine ⟨s2, fun j hj hSj => ?_, by omega, by omega, by omega, .inr own0, fun j hj _ => kK1.2 j (by omega), fun j hj => .inl hj⟩
      have := own0 j hSj
      rw [hv0] at hj
      have : K0.length = j := by simpa [rb] using hj
      omega
  obtain ⟨r, q1', S, v, c, J, a, p, hIi, hr'⟩ := key
  rw [hI] at hIi
  obtain ⟨g1, g2, g3, g4, g5, g6, g7, g8⟩ := hIi
  have fin : ∃ K2 lw2 lp2, finM K0.length (.tup []) ⟨J, a, p⟩ = some (.tup [], K2, lw2, lp2) ∧ L0 ≤ lw2 ∧ L0 ≤ lp2 ∧ K0.length ≤ K2.length ∧ (∀ j, S j → K2[j]? = J[j]?) ∧ ∀ j, j < N → K2[j]? = J[j]? := by
    unfold finM gc
    by_cases hc : (Nat.ble K0.length p && (AVal.tup []).bel K0.length) = true
    · have hc2 := hc
      simp only [Bool.and_eq_true, Nat.ble_eq] at hc2
      have hSN : ∀ j, S j → j < N := by rcases g6 with h | h; omega; exact h
      have tk : ∀ j, j < N → (J.take K0.length)[j]? = J[j]? := fun j hj => by rw [List.getElem?_take, if_pos (by omega)]
      exact ⟨J.take K0.length, _, _, by simp only [hc, if_true]; rfl, by omega, by omega, by simp; omega, fun j hj => tk j (hSN j hj), tk⟩
    · exact ⟨J, _, _, by simp only [hc]; rfl, by omega, by omega, by omega, fun _ _ => rfl, fun _ _ => rfl⟩
  obtain ⟨K2, lw2, lp2, f1, f2, f3, f4, f5, f6⟩ := fin
  refine ⟨K2, lw2, lp2, S, g98_ok (meansX_ok F1 ro) (Ovr.no rfl) ?_, f2, f3, ?_, f4, fun j hj hnj => by rw [f6 j (by omega), g7 j (by omega) hnj], fun j hj => by rw [← hN]; exact g8 j hj⟩
  · have d1 := h1.ld1 (ro := ro) N N
    have d2 := h2.ld1 (ro := ro) N N
    unfold g98
    rw [← hN] at f1 ⊢
    simp only [d1, d2, oS, iS, i1, (i2 kB).1, sS, s1, pS, meansX_loop, q1', tA0]
    rcases hr' with ⟨-, rfl⟩ | ⟨-, rfl⟩ <;> exact f1
  · rcases hr' with ⟨hh, -⟩ | ⟨hh, -⟩
    · exact .inl (cons.frame hh f5)
    · exact .inr (cons.frameD hh f5)
end
end Go.Proofs.Ytfohppnelbbepaa.T
/- Windows, maps -/
open Go.Vm
set_option linter.unusedVariables false
set_option linter.unusedSectionVars false
namespace Go.Proofs.Ytfohppnelbbepaa.T
open Go
variable [Ovr]
section
variable {ro : List ABlk} {h hp : Heap}
theorem win_row {L l p lo hi : Nat} {u : AVal} {s : List UInt8} (g : RowG hp L 5 u (s.map bv)) (h1 : lo < hi) (h2 : hi ≤ s.length) : ∃ w, evP .e (.slS 1 (.c u) (some (.c (.i .i64 (lo : Int)))) (some (.c (.i .i64 (hi : Int)))) none) = some w ∧ btsM ro ⟨hp, l, p⟩ w = some (.s ((s.take hi).drop lo)) := by
  rcases g with ⟨rfl, e⟩ | ⟨b, blk, rfl, g2, g3, g4, g5, g6, g7⟩
  · have : s = [] := by simpa using e
    subst this; simp at h2; omega
  · rw [List.length_map] at g6 g7 ⊢
    have el : ((lo : Nat) : Int) = Int.ofNat lo := rfl
    have eh : ((hi : Nat) : Int) = Int.ofNat hi := rfl
    have b1 : Nat.ble hi s.length = true := by rw [Nat.ble_eq]; exact h2
    have b2 : Nat.ble lo hi = true := by rw [Nat.ble_eq]; omega
    have hw : ((s.take hi).drop lo).length = hi - lo := by simp; omega
    have e0 : ∀ off, off = lo → blk.c.row off (hi - lo) = ((s.take hi).drop lo).map bv := fun off eo => row_row (hi - lo) off _ (by rw [List.length_map, hw]) fun j hj => by
      rw [eo, g7 (lo + j) (by omega)]
      have hj2 : lo + j < s.length := by omega
      have hj3 : lo + j < hi := by omega
      simp [List.getD, hj2, hj3, List.getElem?_take]
    have bt : ∀ off c, off = lo → btsM ro ⟨hp, l, p⟩ (.sl ⟨false, b, off⟩ (hi - lo) c) = some (.s ((s.take hi).drop lo)) := fun off c eo => by
      have e1 : rdB ro hp ⟨false, b, off⟩ = some blk := rdB_heap g4 off
      have e2 : Nat.ble (off + (hi - lo)) blk.n = true := by rw [Nat.ble_eq]; omega
      simp only [btsM, st_bts, Mm.st, e1, e2, cond_true, e0 off eo, bytesA_ok, Option.map_some]
    cases lo with
    | zero =>
      refine ⟨.sl ⟨false, b, 0⟩ (hi - 0) .grow, ?_, bt 0 _ rfl⟩
      simp only [evP, ev_slS, opd, sl_lh, el, eh, Option.map_some, sbound, capB, b1, b2, cond_true]
      rfl
    | succ lo =>
      have b3 : Nat.blt (lo + 1) s.length = true := by rw [Nat.blt_eq]; omega
      refine ⟨.sl ⟨false, b, 0 + (lo + 1) * 1⟩ (hi - (lo + 1)) .any, ?_, bt _ _ (by omega)⟩
      simp only [evP, ev_slS, opd, sl_lh, el, eh, Option.map_some, sbound, capB, b1, b2, b3, cond_true]
def wrd (z : List (List UInt8)) (b n : Nat) : List UInt8 := (List.range n).map (letE z b)
theorem wrd_succ (z : List (List UInt8)) (b n : Nat) : wrd z b (n + 1) = wrd z b n ++ [letE z b n] := by unfold wrd; rw [List.range_succ, List.map_append]; rfl
def MapAt (K : Heap) (b : Nat) (ks : List (List UInt8)) : Prop := ∃ blk : ABlk, lget K b = some (some blk) ∧ blk.g = some (.mp (ks.map fun k => (k, AVal.b true)))
def addK {α : Type} [DecidableEq α] (ks : List α) (s : α) : List α := if s ∈ ks then ks else ks ++ [s]
theorem eqL_dec (s t : List UInt8) : eqL s t = decide (s = t) := by
  have := strEq (s := s) (t := t)
  simp only [evP, ev_sbin, opd, sOp, Option.some.injEq, AVal.b.injEq] at this
  exact this
theorem mput_add (s : List UInt8) : ∀ ks : List (List UInt8), mput (ks.map fun k => (k, AVal.b true)) s (.b true) = (addK ks s).map fun k => (k, AVal.b true)
  | [] => rfl
  | k :: ks => by
    have ih := mput_add s ks
    show cond (eqL k s) ((k, AVal.b true) :: ks.map _) ((k, AVal.b true) :: mput (ks.map _) s (.b true)) = _
    rw [eqL_dec, ih]
    unfold addK
    by_cases e : k = s
    · subst e
      simp
    · have e' : ¬ s = k := fun h => e h.symm
      by_cases e2 : s ∈ ks
      · simp [e, e2]
      · simp [e, e', e2]
theorem MapAt.up {K : Heap} {b l p : Nat} {ks : List (List UInt8)} {s : List UInt8} (a : MapAt K b ks) : ∃ K', stepM ro ⟨K, l, p⟩ (.mup (.c (.mp b)) (.c (.s s)) (.c (.b true))) = some (und, ⟨K', min l b, p⟩) ∧ MapAt K' b (addK ks s) ∧ K'.length = K.length ∧ ∀ i, i ≠ b → K'[i]? = K[i]? := by
  obtain ⟨blk, g1, g2⟩ := a
  refine ⟨K.set b (some { blk with g := some (.mp ((addK ks s).map fun k => (k, AVal.b true))) }), ?_, ⟨_, lget_set g1 _, rfl⟩, by simp, fun i hi => List.getElem?_set_ne (Ne.symm hi)⟩
  have hsc : (AVal.b true).scalar = true := rfl
  simp only [stepM, stepK, opd, st_mup, g1, g2, hsc, cond_true, mput_add, lset_eq, St.mm]
theorem MapAt.len {K : Heap} {b l p : Nat} {ks : List (List UInt8)} (a : MapAt K b ks) : stepM ro ⟨K, l, p⟩ (.mln (.c (.mp b))) = some (.i .i64 (ks.length : Int), ⟨K, l, p⟩) := by
  obtain ⟨blk, g1, g2⟩ := a
  simp only [stepM, stepK, opd, st_mln, g1, g2, mkI_eq, St.mm, List.length_map]
theorem mkm_ok {K : Heap} {l p : Nat} : ∃ K', stepM ro ⟨K, l, p⟩ .mkm = some (.mp K.length, ⟨K', l, p⟩) ∧ MapAt K' K.length [] ∧ Keep K K' ∧ K'.length = K.length + 1 :=
  ⟨K ++ [some { e := 0, n := 0, c := .e, g := some (.mp []) }], by simp only [stepM, stepK, st_mkm, St.mm], ⟨_, lget_last _ _, rfl⟩, Keep.app _, by simp⟩
def winsF (s : List UInt8) (n : Nat) : Nat → List (List UInt8)
  | 0 => []
  | k + 1 => winsF s n k ++ [(s.take (n + k)).drop k]
def factN (z : List (List UInt8)) (b n : Nat) : Nat := ((winsF (wrd z b 100000) n (100001 - n)).foldl addK []).length
end
end Go.Proofs.Ytfohppnelbbepaa.T
/- Factors -/
open Go.Vm
set_option linter.unusedVariables false
set_option linter.unusedSectionVars false
namespace Go.Proofs.Ytfohppnelbbepaa.T
open Go
variable [Ovr]
noncomputable def factV (z : List (List UInt8)) (s : List UInt8) (x : Int) : Int × Int := if errU z s ≠ 0 then (0, errU z s) else if x < 1 ∨ 10 < x then (0, 2) else ((factN z (ix (s.getD 0 0)) x.toNat : Int), 0)
section
variable {ro : List ABlk} {h hp : Heap}
set_option maxHeartbeats 2000000 in
theorem factors38 {v : AVal} {z : List (List UInt8)} {s : List UInt8} {x : Int} (a : IsS ro h v z) (hz : z.length ≤ 1000000) (hf : ∀ i, i < z.length → (z.getD i []).length ≤ 1000000) (hs : s.length ≤ 1000000) :
    callX F1 ro 38 [v, .s s, .i .i64 x] h = some (.tup [.i .i64 (factV z s x).1, .i .i64 (factV z s x).2], h, h.length, h.length) := by
  refine g38_ok (meansX_ok F1 ro) (Ovr.no rfl) ?_
  unfold g38
  have c74 := readBud74 (ro := ro) (h := h) a hz hf hs
  simp only [mC, cp0 c74, pS, x0, x1, x2, oS, iS, fB]
  by_cases he : errU z s = 0
  rotate_left
  · have e1 : factV z s x = (0, errU z s) := by unfold factV; rw [if_pos he]
    simp only [eqI_ne he, nF, cT, e1, tA2]
    exact fin_pure2 rfl rfl
  obtain ⟨vok, hs1, hhs, hbud⟩ := errU_ok he
  simp only [he, eqI_self, nT, cF, if_true]
  by_cases hx1 : x < 1
  · have e1 : factV z s x = (0, 2) := by unfold factV; rw [if_neg (by simp [he]), if_pos (.inl hx1)]
    simp only [ltT hx1, cT, oS, e1, tA2]
    exact fin_pure2 rfl rfl
  by_cases hx2 : 10 < x
  · have e1 : factV z s x = (0, 2) := by unfold factV; rw [if_neg (by simp [he]), if_pos (.inr hx2)]
    simp only [ltF hx1, cF, ltT hx2, cT, oS, e1, tA2]
    exact fin_pure2 rfl rfl
  obtain ⟨n, rfl⟩ : ∃ n : Nat, x = (n : Int) := ⟨x.toNat, by omega⟩
  obtain ⟨b, hb⟩ : ∃ b, b = ix (s.getD 0 0) := ⟨_, rfl⟩
  have hBud : BudOk z b := ⟨vok, by rw [hb]; exact ix_lt (hhs 0 (by omega)), by rw [hb]; exact hbud⟩
  have e1 : factV z s (n : Int) = ((factN z b n : Int), 0) := by
    unfold factV
    rw [if_neg (by simp [he]), if_neg (by omega), Int.toNat_natCast, hb]
  rw [← hb, e1]
  simp only [ltF hx1, cF, ltF hx2, oS]
  obtain ⟨N, hN⟩ : ∃ N, N = h.length := ⟨_, rfl⟩
  have b1 := al_ok (ro := ro) (hp := h) (l := N) (p := N) 52 [AVal.nsl]
  obtain ⟨H1, hH1⟩ : ∃ H1, H1 = h ++ [some (blkOf 52 [AVal.nsl])] := ⟨_, rfl⟩
  rw [← hH1, ← hN] at b1
  have l1 : H1.length = N + 1 := by rw [hH1, hN]; simp
  have k1 : Keep h H1 := by rw [hH1]; exact Keep.app _
  have o1 : Holds H1 N [.nsl] := by rw [hH1, hN]; exact Holds.new _ _ _
  have c75 := endless75 (ro := ro) (h := H1) (v := v) (x := (b : Int)) (cells_S a)
  obtain ⟨H2, hH2⟩ : ∃ H2, H2 = H1 ++ [some (blkOf 55 [v]), some (blkOf 3 [.i .i64 (b : Int)])] := ⟨_, rfl⟩
  rw [← hH2] at c75
  have l2 : H2.length = N + 3 := by rw [hH2]; simp [l1]
  have k2 : Keep H1 H2 := by rw [hH2]; exact Keep.app _
  have nb : ∀ (j e : Nat) (x : AVal), (∀ blk, blk = blkOf e [x] → H2[N + 1 + j]? = some (some blk)) → Holds H2 (N + 1 + j) [x] := fun j e x hx => ⟨blkOf e [x], by rw [lget_eq]; exact hx _ rfl, rfl, fun i _ => get_blk e [x] i⟩
  have x0' : Holds H2 (N + 1 + 0) [v] := nb 0 55 v fun blk e => by rw [e, hH2, List.getElem?_append_right (by omega)]; simp [l1]
  have x1' : Holds H2 (N + 1 + 1) [.i .i64 (b : Int)] := nb 1 3 _ fun blk e => by rw [e, hH2, List.getElem?_append_right (by omega)]; simp [l1]
  rw [l1] at c75
  have one : ∀ t, g38_P0 (.p (some ⟨false, N, 0⟩)) t → ∃ K' lw lp, callX F1 ro 98 [.yld (N + 3), .p (some ⟨false, N + 1, 0⟩), .p (some ⟨false, N + 1 + 1, 0⟩)] (H2 ++ [some (recB t [35, 36] k38a0 k38c0)]) = some (tupA [], K', lw, lp) ∧ N ≤ lw ∧ N ≤ lp ∧ Keep h K' ∧ RecAt K' (N + 3) ⟨t, [35, 36], k38a0, k38c0⟩ .ready none ∧ ∃ u, Holds K' N [u] ∧ RowG K' (N + 4) 5 u ((wrd z b 100000).map bv) := fun t ht => by
    obtain ⟨K0, hK0⟩ : ∃ K0, K0 = H2 ++ [some (recB t [35, 36] k38a0 k38c0)] := ⟨_, rfl⟩
    have lK : K0.length = N + 4 := by rw [hK0]; simp [l2]
    have kK : Keep H2 K0 := by rw [hK0]; exact Keep.app _
    have rK : RecAt K0 (N + 3) ⟨t, [35, 36], k38a0, k38c0⟩ .ready none := ⟨recB t [35, 36] k38a0 k38c0, by rw [hK0, ← l2]; exact lget_last _ _, rfl⟩
    obtain ⟨C, hC⟩ : ∃ C : Nat → (Nat → Prop) → Heap → Prop, C = fun i S K => N + 4 ≤ K.length ∧ ∃ u, Holds K N [u] ∧ RowG K (N + 4) 5 u ((wrd z b i).map bv) ∧ RecAt K (N + 3) ⟨t, [35, 36], k38a0, k38c0⟩ .ready none ∧ ∀ j, S j ↔ j = N ∨ j = N + 3 ∨ rb u = some j := ⟨_, rfl⟩
    have cons : ConsE ro (N + 3) N N (letE z b) C (fun _ _ => False) := by
      refine ⟨fun {i S K} hc hi => ?_, fun {i S K K'} hc hf => ?_, fun {S K K'} hc _ => hc, fun {i S K} hc j hj => ?_, fun {S K} hc => hc.elim⟩
      · rw [hC] at hc
        obtain ⟨hK, u, g1, g2, g3, g4⟩ := hc
        obtain ⟨blk, e1, e2⟩ := g3
        obtain ⟨Ka, q1, q2, q3, q4⟩ := RecAt.begin (⟨blk, e1, e2⟩ : RecAt K (N + 3) ⟨t, [35, 36], k38a0, k38c0⟩ .ready none)
        have ga : Holds Ka N [u] := g1.keep (q4 _ (by omega))
        have gr : RowG Ka (N + 4) 5 u ((wrd z b i).map bv) := g2.by fun b' hb' => q4 _ (by have := (g2.holds hb').2.1; omega)
        have hwl : (wrd z b i).length = i := by simp [wrd]
        obtain ⟨K2, K3, l', p', s1, s2, g4', n2, n3, o3, b3, b5, b6⟩ := gr.push (ro := ro) (l := min K.length (N + 3)) (p := K.length) (bytes := 1) (z := AVal.i IntKind.u8 0) (w := bv (letE z b i)) (by omega) (by rw [List.length_map]; omega) (by omega) rfl rfl
        have hNu : rb u ≠ some N := fun e => by have := (g2.holds e).2.1; omega
        obtain ⟨K4, t1, t2, t3, t4⟩ := (ga.keep (o3 N (by omega) hNu)).set1 (ro := ro) (w := .sl ⟨false, Ka.length + 1, 0⟩ (((wrd z b i).map bv).length + 1) .grow) rfl rfl
        have t1' := t1 l' p'
        rw [show nonp [AVal.sl ⟨false, Ka.length + 1, 0⟩ (((wrd z b i).map bv).length + 1) .grow] = false from rfl, cond_false] at t1'
        have rec4 : RecAt K4 (N + 3) ⟨t, [35, 36], k38a0, k38c0⟩ .busy none := (q2.keep (o3 _ (by omega) fun e => by have := (g2.holds e).2.1; omega)).keep (t4 _ (by omega))
        obtain ⟨K5, w1, w2, w3, w4⟩ := rec4.done .norm
        have b3' := b3 N (by omega) (by omega) (by omega)
        have hgc : gc K.length (.b AExit.norm.on) ⟨.e, K5, min (min l' N) (N + 3), min p' N⟩ = (.b true, K5, min (min l' N) (N + 3), min p' N) := by
          have : (Nat.ble K.length (min p' N) && (AVal.b AExit.norm.on).bel K.length) = false := by
            rw [Bool.and_eq_false_iff]; left
            rw [← Bool.not_eq_true, Nat.ble_eq]; omega
          simp only [gc, this]
          rfl
        refine ⟨true, K5, min (min l' N) (N + 3), min p' N, fun j => j = N ∨ j = N + 3 ∨ j = Ka.length + 1, g38_r0_ok (meansX_ok F1 ro) e1 e2 ht ?_, by omega, by omega, fun _ => ?_, fun e => (by cases e), by omega, .inl (by omega), fun j hj hn => ?_, fun j hj => ?_⟩
        · unfold g38_r0
          simp only [q1, oS, ga.ld1, s1, pS, s2, t1', w1, hgc]
        · rw [hC]
          refine ⟨by omega, _, t2.keep (w4 _ (by omega)), ?_, w2, fun j => ?_⟩
          · rw [wrd_succ, List.map_append]
            exact g4'.by fun b' hb' => by
              have e5 : Ka.length + 1 = b' := by simpa [rb] using hb'
              rw [w4 _ (by omega), t4 _ (by omega)]
          · simp only [rb, Option.some.injEq]
            constructor
            · rintro (h | h | h)
              · exact .inl h
              · exact .inr (.inl h)
              · exact .inr (.inr h.symm)
            · rintro (h | h | h)
              · exact .inl h
              · exact .inr (.inl h)
              · exact .inr (.inr h.symm)
        · have hn' := fun h => hn ((g4 j).2 h)
          have h1 : j ≠ N := fun e => hn' (.inl e)
          have h2 : j ≠ N + 3 := fun e => hn' (.inr (.inl e))
          have h3 : rb u ≠ some j := fun e => hn' (.inr (.inr e))
          rw [w4 j h2, t4 j h1, o3 j (by omega) h3, q4 j h2]
        · rcases hj with h | h | h
          · exact .inl ((g4 j).2 (.inl h))
          · exact .inl ((g4 j).2 (.inr (.inl h)))
          · exact .inr (by omega)
      · rw [hC] at hc ⊢
        obtain ⟨hK, u, g1, g2, g3, g4⟩ := hc
        have n1 := hf N ((g4 N).2 (.inl rfl))
        have n2 := hf (N + 3) ((g4 _).2 (.inr (.inl rfl)))
        have r3 := g3.keep n2
        have r1 := g1.keep n1
        exact ⟨by have := r3.lt; omega, u, r1, g2.by fun b' hb' => hf _ ((g4 _).2 (.inr (.inr hb'))), r3, g4⟩
      · rw [hC] at hc
        obtain ⟨hK, u, g1, g2, g3, g4⟩ := hc
        rcases (g4 j).1 hj with h | h | h
        · omega
        · omega
        · exact (g2.holds h).1.lt
    have hC0 : C 0 (fun j => j = N ∨ j = N + 3) K0 := by
      rw [hC]
      exact ⟨by omega, .nsl, (o1.by k2).by kK, RowG.nil _ _ _, rK, fun j => by simp [rb]⟩
    obtain ⟨K', lw, lp, S', t1, t2, t3, t4, t5, t6, t7⟩ := endless98 (ro := ro) (z := z) (b := b) (rbk := N + 3) (rx := N + 1) (px := N + 1 + 1) (L0 := N) (Lc := N) (hB := h) (K0 := K0) (S0 := fun j => j = N ∨ j = N + 3) hBud a ((k1.trans k2).trans kK) (x0'.by kK) (x1'.by kK) (by omega) (fun j hj => by omega) (by omega) (by omega) cons hC0
    rcases t4 with t4 | t4
    · rw [hC] at t4
      obtain ⟨hK, u, g1, g2, g3, g4⟩ := t4
      refine ⟨K', lw, lp, by rw [← hK0]; exact t1, t2, t3, ⟨by omega, fun i hi => ?_⟩, g3, u, g1, g2⟩
      rw [t6 i (by omega) (by omega), kK.2 i (by omega), k2.2 i (by omega), k1.2 i hi]
    · exact t4.elim
  have c75' := callM_of (a := N) (b := N) c75
  rw [show min N (N + 1) = N by omega] at c75'
  simp only [← hN, b1, pS, mC, c75']
  refine rngK_eq (t := Tr.e.set 11 (.p (some ⟨false, N, 0⟩))) ⟨trivial, by simp⟩ fun t ht => ?_
  obtain ⟨K', lw, lp, t1, t2, t3, t4, t5, u, g1, g2⟩ := one t ht
  have hN5 : N + 3 < K'.length := t5.lt
  have e2 := t5.ended (by decide)
  have kJ : Keep h (lset none K' (N + 3)) := by rw [lset_eq]; exact t4.set (by omega) none
  obtain ⟨J, hJ⟩ : ∃ J, J = lset none K' (N + 3) := ⟨_, rfl⟩
  have lJ : J.length = K'.length := by rw [hJ, lset_eq]; simp
  have o1' : Holds J N [u] := g1.keep (by rw [hJ, lset_eq]; exact List.getElem?_set_ne (by omega))
  have o2' : RowG J (N + 4) 5 u ((wrd z b 100000).map bv) := g2.by fun b' hb' => by rw [hJ, lset_eq]; exact List.getElem?_set_ne (by have := (g2.holds hb').2.1; omega)
  rw [← hJ] at e2 kJ
  refine ⟨(.norm, ⟨J, N, N⟩), ?_, ?_⟩
  · unfold rngT rngA
    simp only [List.nil_append, List.cons_append, l2, t1, e2]
    show some (AExit.norm, (⟨J, min (min N lw) (N + 3), min N lp⟩ : Mm)) = _
    rw [show min (min N lw) (N + 3) = N by omega, show min N lp = N by omega]
  · simp only [onE]
    obtain ⟨J1, m1, m2, m3, m4⟩ := mkm_ok (ro := ro) (K := J) (l := N) (p := N)
    have hwl : (wrd z b 100000).length = 100000 := by simp [wrd]
    have key : ∃ r, loopX (fun q : Int × Mm => g38_b1 (meansX F1 ro) ro (n : Int) (.p (some ⟨false, N, 0⟩)) (.mp J.length) q.1 q.2) ((n : Int), ⟨J1, N, N⟩) = some r ∧ ∃ K, r = ⟨K, N, N⟩ ∧ MapAt K J.length ((winsF (wrd z b 100000) n (100001 - n)).foldl addK []) ∧ K.length = J1.length ∧ ∀ i, i ≠ J.length → K[i]? = J1[i]? := by
      refine loop_gen (100001 - n) (fun k q => ∃ K, q = (((n + k : Nat) : Int), ⟨K, N, N⟩) ∧ MapAt K J.length ((winsF (wrd z b 100000) n k).foldl addK []) ∧ K.length = J1.length ∧ ∀ i, i ≠ J.length → K[i]? = J1[i]?) _ ?_ ?_ (100001 - n) 0 _ (by omega) ⟨J1, rfl, m2, rfl, fun _ _ => rfl⟩
      · rintro k q hk ⟨K, rfl, f1, f2, f3⟩
        have kN : K[N]? = J[N]? := by rw [f3 N (by omega), m3.2 N (by omega)]
        have oN := o1'.keep kN
        have gK : RowG K (N + 4) 5 u ((wrd z b 100000).map bv) := o2'.by fun b' hb' => by
          have := (o2'.holds hb').1.lt
          rw [f3 b' (by omega), m3.2 b' (by omega)]
        have hln : evP .e (.len false (.c u)) = some (.i .i64 ((100000 : Nat) : Int)) := by
          rcases gK with ⟨-, e⟩ | ⟨b', blk, e, -⟩
          · have := congrArg List.length e; simp [hwl] at this
          · rw [e]
            have := len_sl (q := ⟨false, b', 0⟩) (n := ((wrd z b 100000).map bv).length) (c := .grow)
            rw [List.length_map, hwl] at this
            rw [List.length_map, hwl]; exact this
        obtain ⟨w, w1, w2⟩ := win_row (ro := ro) (l := N) (p := N) gK (lo := k) (hi := n + k) (by omega) (by omega)
        obtain ⟨K', y1, y2, y3, y4⟩ := f1.up (ro := ro) (l := N) (p := N) (s := ((wrd z b 100000).take (n + k)).drop k)
        rw [show min N J.length = N by omega] at y1
        have e3 : wr .i64 (((n + k : Nat) : Int) - (n : Int)) = (k : Int) := by rw [wr_id' (by omega) (by omega)]; omega
        refine ⟨_, (by simp only [g38_b1, oN.ld1, oS, hln, iS, fB, ltF (show ¬ ((100000 : Nat) : Int) < ((n + k : Nat) : Int) by omega), nF, cT, fI', e3, w1, w2, sS, y1, pS, nx (show n + k ≤ 1000000 by omega)] <;> rfl), K', rfl, ?_, by omega, fun i hi => by rw [y4 i hi, f3 i hi]⟩
        show MapAt K' J.length ((winsF (wrd z b 100000) n k ++ [_]).foldl addK [])
        rw [List.foldl_append]
        exact y2
      · rintro q ⟨K, rfl, f1, f2, f3⟩
        have kN : K[N]? = J[N]? := by rw [f3 N (by omega), m3.2 N (by omega)]
        have oN := o1'.keep kN
        have gK : RowG K (N + 4) 5 u ((wrd z b 100000).map bv) := o2'.by fun b' hb' => by
          have := (o2'.holds hb').1.lt
          rw [f3 b' (by omega), m3.2 b' (by omega)]
        have hln : evP .e (.len false (.c u)) = some (.i .i64 ((100000 : Nat) : Int)) := by
          rcases gK with ⟨-, e⟩ | ⟨b', blk, e, -⟩
          · have := congrArg List.length e; simp [hwl] at this
          · rw [e]
            have := len_sl (q := ⟨false, b', 0⟩) (n := ((wrd z b 100000).map bv).length) (c := .grow)
            rw [List.length_map, hwl] at this
            rw [List.length_map, hwl]; exact this
        exact ⟨_, (by simp only [g38_b1, oN.ld1, oS, hln, iS, fB, ltT (show ((100000 : Nat) : Int) < ((n + (100001 - n) : Nat) : Int) by omega), nT, cF] <;> rfl), K, rfl, f1, f2, f3⟩
    obtain ⟨r, q1, K, rfl, f1, f2, f3⟩ := key
    simp only [m1, pS, meansX_loop, q1, oS, f1.len, iS, tA2]
    have kK : Keep h K := ⟨by have := kJ.1; omega, fun i hi => by rw [f3 i (by have := kJ.1; omega), m3.2 i (by have := kJ.1; omega), kJ.2 i hi]⟩
    subst hN
    exact fin_keep kK rfl
end
end Go.Proofs.Ytfohppnelbbepaa.T
/- Thue and Morse -/
open Go.Vm
set_option linter.unusedVariables false
set_option linter.unusedSectionVars false
namespace Go.Proofs.Ytfohppnelbbepaa.T
open Go
variable [Ovr]
/- how many different ones there are -/
section
variable {α : Type} [DecidableEq α]
theorem addK_mem {ks : List α} {s x : α} : x ∈ addK ks s ↔ x ∈ ks ∨ x = s := by
  unfold addK
  split
  · rename_i h
    exact ⟨.inl, fun e => by rcases e with e | e; exact e; rw [e]; exact h⟩
  · simp
theorem addK_nodup {ks : List α} {s : α} (h : ks.Nodup) : (addK ks s).Nodup := by
  unfold addK
  split
  · exact h
  · rename_i hn
    rw [List.nodup_append]
    exact ⟨h, by simp, fun a ha b hb e => by simp only [List.mem_singleton] at hb; rw [e, hb] at ha; exact hn ha⟩
theorem foldK : ∀ (l ks : List α), ks.Nodup → (l.foldl addK ks).Nodup ∧ ∀ x, x ∈ l.foldl addK ks ↔ x ∈ ks ∨ x ∈ l
  | [], ks, h => ⟨h, fun x => by simp⟩
  | s :: l, ks, h => by
    obtain ⟨h1, h2⟩ := foldK l (addK ks s) (addK_nodup h)
    refine ⟨h1, fun x => ?_⟩
    rw [List.foldl_cons, h2 x, addK_mem, List.mem_cons]
    constructor
    · rintro ((h | h) | h)
      · exact .inl h
      · exact .inr (.inl h)
      · exact .inr (.inr h)
    · rintro (h | h | h)
      · exact .inl (.inl h)
      · exact .inl (.inr h)
      · exact .inr h
theorem nodup_le : ∀ {l m : List α}, l.Nodup → (∀ x ∈ l, x ∈ m) → l.length ≤ m.length
  | [], m, _, _ => Nat.zero_le _
  | a :: l, m, h, hs => by
    rw [List.nodup_cons] at h
    have ha := hs a List.mem_cons_self
    have := nodup_le (l := l) (m := m.erase a) h.2 fun x hx => (List.mem_erase_of_ne (fun e => by rw [e] at hx; exact h.1 hx)).2 (hs x (List.mem_cons_of_mem _ hx))
    have e := List.length_erase_of_mem ha
    have : 0 < m.length := List.length_pos_of_mem ha
    simp only [List.length_cons]
    omega
theorem dis_eq {l m : List α} (hm : m.Nodup) (h : ∀ x, x ∈ l ↔ x ∈ m) : (l.foldl addK []).length = m.length := by
  obtain ⟨h1, h2⟩ := foldK l [] List.nodup_nil
  refine Nat.le_antisymm (nodup_le h1 fun x hx => ?_) (nodup_le hm fun x hx => ?_)
  · rcases (h2 x).1 hx with h' | h'
    · cases h'
    · exact (h x).1 h'
  · exact (h2 x).2 (.inr ((h x).2 hx))
end
theorem winsF_mem {s w : List UInt8} {n : Nat} : ∀ {m : Nat}, w ∈ winsF s n m ↔ ∃ k, k < m ∧ w = (s.take (n + k)).drop k
  | 0 => ⟨fun h => (by cases h), fun ⟨k, h, _⟩ => (by omega)⟩
  | m + 1 => by
    show w ∈ winsF s n m ++ [_] ↔ _
    rw [List.mem_append, winsF_mem, List.mem_singleton]
    constructor
    · rintro (⟨k, h1, h2⟩ | h)
      · exact ⟨k, by omega, h2⟩
      · exact ⟨m, by omega, h⟩
    · rintro ⟨k, h1, h2⟩
      by_cases e : k = m
      · subst e; exact .inr h2
      · exact .inl ⟨k, by omega, h2⟩
theorem wrd_take {z : List (List UInt8)} {b n k : Nat} (h : k ≤ n) : (wrd z b n).take k = wrd z b k := by
  unfold wrd
  rw [← List.map_take, List.take_range, Nat.min_eq_left h]
theorem wrd_win (z : List (List UInt8)) (b k : Nat) : ∀ m, (wrd z b (k + m)).drop k = (List.range m).map fun j => letE z b (k + j)
  | 0 => by rw [List.drop_of_length_le (by simp [wrd])]; rfl
  | m + 1 => by
    rw [← Nat.add_assoc, wrd_succ, List.drop_append_of_le_length (by simp [wrd]), wrd_win z b k m, List.range_succ, List.map_append]
    rfl
/- the word of Thue and Morse -/
theorem shootE_pre (z : List (List UInt8)) (b : Nat) {i k : Nat} (hk : k < (shootE z b i).length) : ∀ j, (shootE z b (i + j)).getD k 0 = (shootE z b i).getD k 0 ∧ k < (shootE z b (i + j)).length
  | 0 => ⟨rfl, hk⟩
  | j + 1 => by
    obtain ⟨h1, h2⟩ := shootE_pre z b hk j
    have e : shootE z b (i + j + 1) = shootE z b (i + j) ++ z.getD (ix ((shootE z b (i + j)).getD (i + j + 1) 0)) [] := rfl
    refine ⟨?_, ?_⟩
    · show (shootE z b (i + j + 1)).getD k 0 = _
      rw [← h1, e, List.getD_eq_getElem?_getD, List.getElem?_append_left h2, ← List.getD_eq_getElem?_getD]
    · show k < (shootE z b (i + j + 1)).length
      rw [e, List.length_append]; omega
abbrev zT : List (List UInt8) := [[97, 98], [98, 97]]
theorem zT_two {x : UInt8} (h : x = 97 ∨ x = 98) : ∃ a b : UInt8, zT.getD (ix x) [] = [a, b] ∧ a ≠ b ∧ (a = 97 ∨ a = 98) ∧ (b = 97 ∨ b = 98) := by
  rcases h with rfl | rfl
  · exact ⟨97, 98, rfl, by decide, .inl rfl, .inr rfl⟩
  · exact ⟨98, 97, rfl, by decide, .inr rfl, .inl rfl⟩
theorem zT_len : ∀ i, (shootE zT 0 i).length = 2 * (i + 1) ∧ ∀ x ∈ shootE zT 0 i, x = 97 ∨ x = 98
  | 0 => ⟨rfl, fun x hx => by
    have : x ∈ ([97, 98] : List UInt8) := hx
    simpa using this⟩
  | i + 1 => by
    obtain ⟨h1, h2⟩ := zT_len i
    have e : shootE zT 0 (i + 1) = shootE zT 0 i ++ zT.getD (ix ((shootE zT 0 i).getD (i + 1) 0)) [] := rfl
    have hm : (shootE zT 0 i).getD (i + 1) 0 ∈ shootE zT 0 i := by
      have : i + 1 < (shootE zT 0 i).length := by omega
      rw [List.getD_eq_getElem?_getD, List.getElem?_eq_getElem this]
      exact List.getElem_mem this
    obtain ⟨a, b, e1, -, ha, hb⟩ := zT_two (h2 _ hm)
    rw [e, e1]
    refine ⟨by rw [List.length_append, h1]; simp; omega, fun x hx => ?_⟩
    rcases List.mem_append.1 hx with hx | hx
    · exact h2 x hx
    · simp only [List.mem_cons, List.not_mem_nil, or_false] at hx
      rcases hx with rfl | rfl
      · exact ha
      · exact hb
theorem zT_let (i : Nat) : letE zT 0 i = 97 ∨ letE zT 0 i = 98 := by
  obtain ⟨h1, h2⟩ := zT_len i
  have : i < (shootE zT 0 i).length := by omega
  unfold letE
  rw [List.getD_eq_getElem?_getD, List.getElem?_eq_getElem this]
  exact h2 _ (List.getElem_mem this)
theorem zT_pair : ∀ i, letE zT 0 (2 * i) ≠ letE zT 0 (2 * i + 1)
  | 0 => by decide
  | i + 1 => by
    obtain ⟨h1, h2⟩ := zT_len i
    have e : shootE zT 0 (i + 1) = shootE zT 0 i ++ zT.getD (ix ((shootE zT 0 i).getD (i + 1) 0)) [] := rfl
    have hm : (shootE zT 0 i).getD (i + 1) 0 ∈ shootE zT 0 i := by
      have : i + 1 < (shootE zT 0 i).length := by omega
      rw [List.getD_eq_getElem?_getD, List.getElem?_eq_getElem this]
      exact List.getElem_mem this
    obtain ⟨a, b, e1, hab, -, -⟩ := zT_two (h2 _ hm)
    rw [e1] at e
    have hl := (zT_len (i + 1)).1
    have p1 := (shootE_pre zT 0 (i := i + 1) (k := 2 * (i + 1)) (by omega) (i + 1)).1
    have p2 := (shootE_pre zT 0 (i := i + 1) (k := 2 * (i + 1) + 1) (by omega) (i + 2)).1
    have q1 : letE zT 0 (2 * (i + 1)) = a := by
      unfold letE
      rw [show 2 * (i + 1) = i + 1 + (i + 1) by omega] at p1 ⊢
      rw [p1, e, List.getD_eq_getElem?_getD, List.getElem?_append_right (by omega), h1, show i + 1 + (i + 1) - 2 * (i + 1) = 0 by omega]
      rfl
    have q2 : letE zT 0 (2 * (i + 1) + 1) = b := by
      unfold letE
      rw [show 2 * (i + 1) + 1 = i + 1 + (i + 2) by omega] at p2 ⊢
      rw [p2, e, List.getD_eq_getElem?_getD, List.getElem?_append_right (by omega), h1, show i + 1 + (i + 2) - 2 * (i + 1) = 1 by omega]
      rfl
    rw [q1, q2]; exact hab
def m6 : List (List UInt8) := [[97, 98, 98], [98, 98, 97], [98, 97, 98], [97, 98, 97], [98, 97, 97], [97, 97, 98]]
theorem zT_win {k : Nat} (hk : 3 + k ≤ 100000) : ((wrd zT 0 100000).take (3 + k)).drop k = [letE zT 0 k, letE zT 0 (k + 1), letE zT 0 (k + 2)] := by
  rw [wrd_take hk, Nat.add_comm 3 k, wrd_win]; rfl
theorem factTM : factN zT 0 3 = 6 := by
  have : (6 : Nat) = m6.length := rfl
  unfold factN
  rw [this]
  refine dis_eq (by decide) fun w => ?_
  rw [winsF_mem]
  constructor
  · rintro ⟨k, hk, rfl⟩
    rw [zT_win (by omega)]
    have a0 := zT_let k
    have a1 := zT_let (k + 1)
    have a2 := zT_let (k + 2)
    have hne : letE zT 0 k ≠ letE zT 0 (k + 1) ∨ letE zT 0 (k + 1) ≠ letE zT 0 (k + 2) := by
      rcases Nat.mod_two_eq_zero_or_one k with h | h
      · have := zT_pair (k / 2)
        rw [show 2 * (k / 2) = k by omega] at this
        exact .inl this
      · have := zT_pair ((k + 1) / 2)
        rw [show 2 * ((k + 1) / 2) = k + 1 by omega] at this
        exact .inr this
    generalize letE zT 0 k = x at a0 hne ⊢
    generalize letE zT 0 (k + 1) = y at a1 hne ⊢
    generalize letE zT 0 (k + 2) = w at a2 hne ⊢
    rcases a0 with rfl | rfl <;> rcases a1 with rfl | rfl <;> rcases a2 with rfl | rfl <;> first | decide | (exfalso; rcases hne with h | h <;> exact h rfl)
  · intro hw
    have e : ∀ k, k < 6 → ((wrd zT 0 100000).take (3 + k)).drop k = m6.getD k [] := fun k hk => by
      rw [zT_win (by omega)]
      match k, hk with
      | 0, _ => decide
      | 1, _ => decide
      | 2, _ => decide
      | 3, _ => decide
      | 4, _ => decide
      | 5, _ => decide
    obtain ⟨k, hk, rfl⟩ := List.getElem_of_mem hw
    have hk6 : k < 6 := hk
    exact ⟨k, by omega, by rw [e k hk6]; simp [List.getD, hk]⟩
theorem factV_T : factV zT [97] 3 = (6, 0) := by
  have h0 : errU zT [97] = 0 := by
    have hl : ∀ s : List UInt8, s = [97, 98] ∨ s = [98, 97] ∨ s = [97] → has 2 s := fun s hs => has_mem.2 fun b hb => by
      rcases hs with rfl | rfl | rfl <;> simp only [List.mem_cons, List.not_mem_nil, or_false] at hb
      · rcases hb with rfl | rfl <;> decide
      · rcases hb with rfl | rfl <;> decide
      · subst hb; decide
    have hv : errV zT = 0 := by
      unfold errV
      rw [if_neg (by decide), if_pos]
      intro i hi
      match i, hi with
      | 0, _ => exact ⟨by decide, hl _ (.inl rfl)⟩
      | 1, _ => exact ⟨by decide, hl _ (.inr (.inl rfl))⟩
    unfold errU
    rw [if_neg (by simp [hv]), if_pos ⟨rfl, hl _ (.inr (.inr rfl))⟩, if_pos (by decide)]
  unfold factV
  rw [if_neg (by simp [h0]), if_neg (by decide)]
  have : factN zT (ix (([97] : List UInt8).getD 0 0)) (Int.toNat 3) = 6 := factTM
  rw [this]
  rfl
end Go.Proofs.Ytfohppnelbbepaa.T
/- alive -/
open Go.Vm
set_option linter.unusedVariables false
set_option linter.unusedSectionVars false
namespace Go.Proofs.Ytfohppnelbbepaa.T
open Go
variable [Ovr]
def isStr (v : AVal) (l : List UInt8) : Bool := match v with
  | .s s => eqL s l
  | _ => false
theorem isStr_eq {v : AVal} {l : List UInt8} (h : isStr v l = true) : v = .s l := by
  cases v with
  | s s =>
    have h' : eqL s l = true := h
    rw [eqL_dec] at h'
    simp only [decide_eq_true_eq] at h'
    rw [h']
  | _ => cases h
def knownT : Caller := fun f a h => cond (Nat.beq f 38) (match a with
  | [.sl q n _, .s s, .i .i64 x] => match lget h q.b with
    | some (some blk) => cond (!q.ro && Nat.beq q.off 0 && Nat.beq n 2 && Nat.ble 2 blk.n && isStr (blk.c.get 0) [97, 98] && isStr (blk.c.get 1) [98, 97] && eqL s [97] && eqI x 3) (some (.tup [.i .i64 6, .i .i64 0], h, h.length, h.length)) none
    | _ => none
  | _ => none) none
theorem knownT_le {ro : List ABlk} {f : Nat} {a : List AVal} {h : Heap} {r : AVal × Heap × Nat × Nat} (hr : knownT f a h = some r) : callX F1 ro f a h = some r := by
  unfold knownT at hr
  cases hf : Nat.beq f 38
  · rw [hf] at hr; cases hr
  obtain rfl : f = 38 := Nat.eq_of_beq_eq_true hf
  rw [hf, cond_true] at hr
  split at hr
  rotate_left
  · cases hr
  rename_i q n c s x
  split at hr
  rotate_left
  · cases hr
  rename_i blk hb
  cases hc : (!q.ro && Nat.beq q.off 0 && Nat.beq n 2 && Nat.ble 2 blk.n && isStr (blk.c.get 0) [97, 98] && isStr (blk.c.get 1) [98, 97] && eqL s [97] && eqI x 3)
  · rw [hc] at hr; cases hr
  rw [hc, cond_true] at hr
  cases hr
  simp only [Bool.and_eq_true, Bool.not_eq_true', Nat.ble_eq] at hc
  obtain ⟨⟨⟨⟨⟨⟨⟨c1, c2⟩, c3⟩, c4⟩, c5⟩, c6⟩, c7⟩, c8⟩ := hc
  have d2 := Nat.eq_of_beq_eq_true c2
  have d3 := Nat.eq_of_beq_eq_true c3
  have c5 := isStr_eq c5
  have c6 := isStr_eq c6
  rw [eqL_dec, decide_eq_true_eq] at c7
  rw [eqI_eq, beq_iff_eq] at c8
  subst d3 c7 c8
  obtain ⟨r, b, o⟩ := q
  simp only at c1 d2 hb
  subst c1 d2
  have hS : IsS ro h (.sl ⟨false, b, 0⟩ 2 c) zT := by
    refine .inr ⟨_, _, blk, rfl, rdB_heap hb 0, by show 0 + 2 ≤ _; omega, fun j hj => ?_⟩
    rw [Nat.zero_add]
    match j, hj with
    | 0, _ => exact c5
    | 1, _ => exact c6
  have := factors38 (ro := ro) (h := h) (s := [97]) (x := 3) hS (by decide) (fun i hi => by match i, hi with | 0, _ => decide | 1, _ => decide) (by decide)
  rw [factV_T] at this
  exact this
abbrev FT : Tab := ⟨F, knownT⟩
def okA (o : Option (AVal × Heap × Nat × Nat)) : Bool := match o with
  | some (.b true, _, _, _) => true
  | _ => false
omit [Ovr] in
theorem okA_eq {o : Option (AVal × Heap × Nat × Nat)} (h : okA o = true) : ∃ hp lw lp, o = some (.b true, hp, lw, lp) := by
  unfold okA at h
  split at h
  · exact ⟨_, _, _, rfl⟩
  · cases h
omit [Ovr] in
theorem aliveS : okA (callA FT [] (exec FT [] 200) 16 [] []) = true := by decide +kernel
omit [Ovr] in
theorem aliveT : ∃ hp lw lp, callX FT [] 16 [] [] = some (.b true, hp, lw, lp) := by
  obtain ⟨hp, lw, lp, e⟩ := okA_eq aliveS
  exact ⟨hp, lw, lp, callX_some.2 ⟨200, e⟩⟩
section
variable {E : Env} (hE : E.Ok) (hm : E.P.follows .mixedOrders = true) (hF : FOk E.P F)
include hE hm hF
omit [Ovr] in
theorem knownT_ok : CallOk E knownT := by
  letI : Ovr := ⟨noCall, fun _ => rfl⟩
  exact le_ok (callX_sound hE hm (F := F1) hF noCall_ok) fun f a h r hr => knownT_le hr
omit [Ovr] in
theorem alive_known : CallOk E (known0 16 (.b true)) := by
  obtain ⟨hp, lw, lp, e⟩ := aliveT
  exact known0_ok (callX_sound (E := E.bare) (Env.bare_ok hE) hm (F := FT) hF (knownT_ok (Env.bare_ok hE) hm hF)) e rfl
end
@[reducible] def ovA : Ovr := ⟨known0 16 (.b true), fun {f a h} e => by
  unfold known0
  cases a with
  | nil => simp only [e, cond_false]
  | cons _ _ => rfl⟩
end Go.Proofs.Ytfohppnelbbepaa.T
/- At -/
open Go.Vm
set_option linter.unusedVariables false
set_option linter.unusedSectionVars false
namespace Go.Proofs.Ytfohppnelbbepaa.T
open Go
variable [Ovr]
section
variable {ro : List ABlk} {h hp : Heap}
end
end Go.Proofs.Ytfohppnelbbepaa.T
/- At of the reference -/
open Go.Vm
set_option linter.unusedVariables false
set_option linter.unusedSectionVars false
namespace Go.Proofs.Ytfohppnelbbepaa.T
open Go
variable [Ovr]
section
variable {ro : List ABlk} {h hp : Heap}
end
end Go.Proofs.Ytfohppnelbbepaa.T
/- Law 4 -/
open Go.Vm
set_option linter.unusedVariables false
set_option linter.unusedSectionVars false
namespace Go.Proofs.Ytfohppnelbbepaa.T
open Go
variable [Ovr]
section
variable {ro : List ABlk} {h hp : Heap}
theorem strNe {s t : List UInt8} : evP .e (.sbin BinOp.neq (.c (.s s)) (.c (AVal.s t))) = some (.b (!decide (s = t))) := by
  simp only [evP, ev_sbin, opd, sOp, eqL_dec]
end
end Go.Proofs.Ytfohppnelbbepaa.T
/- Counts of the reference -/
open Go.Vm
set_option linter.unusedVariables false
set_option linter.unusedSectionVars false
namespace Go.Proofs.Ytfohppnelbbepaa.T
open Go
variable [Ovr]
section
variable {ro : List ABlk} {h hp : Heap}
theorem grw_first (z : List (List UInt8)) (y : Nat) : ∀ s, grw z (y + 1) s = grw z y (grw z 1 s)
  | [] => by cases y <;> rfl
  | b :: s => by
    have e : grw z 1 (b :: s) = z.getD (ix b) [] ++ grw z 1 s := rfl
    have e2 : grw z (y + 1) (b :: s) = grw z y (z.getD (ix b) []) ++ grw z (y + 1) s := rfl
    rw [e, grw_app, e2, grw_first z y s]
theorem grw_last (z : List (List UInt8)) : ∀ y s, grw z (y + 1) s = grw z 1 (grw z y s)
  | 0, s => rfl
  | y + 1, s => by rw [grw_first z (y + 1) s, grw_last z y (grw z 1 s), ← grw_first z y s]
theorem grw_has {z : List (List UInt8)} (hz : VOk z) : ∀ {y : Nat} {s : List UInt8}, has z.length s → has z.length (grw z y s)
  | 0, s, h => h
  | y + 1, s, h => by
    rw [has_mem]
    intro c hc
    have hc' : c ∈ s.flatMap fun b => grw z y (z.getD (ix b) []) := hc
    rw [List.mem_flatMap] at hc'
    obtain ⟨b, hb, hcb⟩ := hc'
    exact has_mem.1 (grw_has hz (hz.hh _ (ix_lt (has_mem.1 h b hb)))) c hcb
theorem count_one {n : Nat} (hn : n ≤ 100) {b : UInt8} (hb : isL n b) {q : Nat} (hq : q < n) : (if b == lt q then 1 else 0) = if q = ix b then 1 else 0 := by
  by_cases e : q = ix b
  · subst e
    rw [lt_ix hb hn]; simp
  · rw [if_neg e, if_neg]
    intro e2
    have e3 : b = lt q := by simpa using e2
    rw [e3, ix_lt' (by omega)] at e
    exact e rfl
theorem count_flat {z : List (List UInt8)} {n : Nat} (hn : n ≤ 100) (c : UInt8) : ∀ {w : List UInt8}, has n w → (grw z 1 w).count c = sumT (fun q => w.count (lt q) * (z.getD q []).count c) n
  | [], _ => by
    rw [sumT_congr (g := fun _ => 0) fun t _ => by simp, sumT_zero]; rfl
  | b :: w, h => by
    have hb : isL n b := has_mem.1 h b List.mem_cons_self
    have hw : has n w := has_mem.2 fun x hx => has_mem.1 h x (List.mem_cons_of_mem _ hx)
    have e : grw z 1 (b :: w) = z.getD (ix b) [] ++ grw z 1 w := rfl
    rw [e, List.count_append, count_flat hn c hw]
    have e2 : sumT (fun q => (b :: w).count (lt q) * (z.getD q []).count c) n = sumT (fun q => w.count (lt q) * (z.getD q []).count c + if q = ix b then (z.getD q []).count c else 0) n := by
      refine sumT_congr fun q hq => ?_
      rw [List.count_cons, count_one hn hb hq, Nat.add_mul]
      congr 1
      split <;> simp
    rw [e2, sumT_add, sumT_one (f := fun q => (z.getD q []).count c) (ix_lt hb)]
    omega
def cRow (z : List (List UInt8)) (y : Nat) (s : List UInt8) : List Nat := (List.range z.length).map fun p => sat ((grw z y s).count (lt p))
theorem cRow_get (z : List (List UInt8)) (y : Nat) (s : List UInt8) {p : Nat} (hp : p < z.length) : (cRow z y s)[p]? = some (sat ((grw z y s).count (lt p))) := by simp [cRow, hp]
def rowU (n : Nat) (f : Nat → Nat) : List AVal := (List.range n).map fun p => eU (f p)
theorem rowU_new {H : Heap} {e n : Nat} : Holds (H ++ [some (blkOf e (rep [AVal.i IntKind.u64 0] n))]) H.length (rowU n fun _ => 0) := by
  have h0 := Holds.new H e (rep [AVal.i IntKind.u64 0] n)
  have e : rowU n (fun _ => 0) = List.replicate n (AVal.i IntKind.u64 0) := by
    refine List.ext_getElem? fun i => ?_
    rcases Nat.lt_or_ge i n with hi | hi
    · simp [rowU, hi]
    · rw [List.getElem?_eq_none (by simpa [rowU] using hi), List.getElem?_eq_none (by simpa using hi)]
  rw [e, ← rep_repl]; exact h0
theorem rowU_ld {K : Heap} {b n p : Nat} {f : Nat → Nat} (a : Holds K b (rowU n f)) (hp : p < n) (l q : Nat) : ldM ro ⟨K, l, q⟩ true 1 (.p (some ⟨false, b, 0 + p⟩)) = some (.i .u64 ((f p : Nat) : Int)) :=
  (a.ld (ro := ro) (k := p) (w := eU (f p)) (by simp [rowU, hp]) l q).1
theorem rowU_put {K : Heap} {b n p x : Nat} {f g : Nat → Nat} (a : Holds K b (rowU n f)) (hp : p < n) (hg : ∀ t, t < n → t ≠ p → g t = f t) (hx : g p = x) : ∃ K', (∀ l q, stepM ro ⟨K, l, q⟩ (.st 1 (.c (.p (some ⟨false, b, 0 + p⟩))) (.c (.i .u64 (x : Int)))) = some (und, ⟨K', min l b, q⟩)) ∧ Holds K' b (rowU n g) ∧ K'.length = K.length ∧ ∀ i, i ≠ b → K'[i]? = K[i]? := by
  obtain ⟨K', s1, g1, n1, o1⟩ := a.put (ro := ro) (k := p) (w := eU x) (by simp [rowU, hp]) rfl rfl
  refine ⟨K', fun l q => ?_, ?_, n1, o1⟩
  · have := s1 l q
    rwa [show nonp [eU x] = true from rfl, cond_true] at this
  · unfold rowU at g1
    rw [setF (g := fun t => eU (g t))] at g1
    · exact g1
    · intro t ht hne; simp only [hg t ht hne]
    · intro _; simp only [hx]
theorem count_take {s : List UInt8} {j p : Nat} (hj : j < s.length) {n : Nat} (hn : n ≤ 100) (hb : isL n (s.getD j 0)) (hp : p < n) : (s.take (j + 1)).count (lt p) = (s.take j).count (lt p) + if p = ix (s.getD j 0) then 1 else 0 := by
  rw [take_snoc 0 hj, List.count_append]
  congr 1
  rw [← count_one hn hb hp]
  simp [List.count_cons]
theorem sat_mulC {a b x : Nat} (h : sat a = sat b) : sat (a * x) = sat (b * x) := by
  rcases Nat.eq_zero_or_pos x with rfl | hx
  · rw [Nat.mul_zero, Nat.mul_zero]
  · have h1 : a ≤ a * x := Nat.le_mul_of_pos_right a hx
    have h2 : b ≤ b * x := Nat.le_mul_of_pos_right b hx
    by_cases e : a = b
    · rw [e]
    · unfold sat at *; omega
theorem sat_sum {f g : Nat → Nat} : ∀ {n : Nat}, (∀ t, t < n → sat (f t) = sat (g t)) → sat (sumT f n) = sat (sumT g n)
  | 0, _ => rfl
  | n + 1, h => by
    have h1 := sat_sum (f := f) (g := g) (n := n) fun t ht => h t (by omega)
    have h2 := h n (by omega)
    show sat (sumT f n + f n) = sat (sumT g n + g n)
    rw [← sat_add, h1, h2, sat_add]
set_option maxHeartbeats 2000000 in
theorem counts58 {v : AVal} {z : List (List UInt8)} {s : List UInt8} {y : Nat} (a : IsS ro h v z) (hz : VOk z) (hs : has z.length s) (hsl : s.length ≤ 1000000) (hy : y ≤ 1000) :
    ∃ w H, callX F1 ro 58 [v, .s s, .i .i64 (y : Int)] h = some (w, H, h.length, h.length) ∧ Keep h H ∧ IsR eU ro H w (cRow z y s) := by
  obtain ⟨n, hn⟩ : ∃ n, n = z.length := ⟨_, rfl⟩
  have n1 := hz.h1
  have n6 := hz.h6
  obtain ⟨L, hL⟩ : ∃ L, L = h.length := ⟨_, rfl⟩
  have hm := mk_ok (ro := ro) (hp := h) (e := 60) (es := 1) (bytes := 8) (z := [AVal.i IntKind.u64 0]) (n := n) (l := L) (p := L) (by omega) (by omega)
  obtain ⟨H1, hH1⟩ : ∃ H1, H1 = h ++ [some (blkOf 60 (rep [AVal.i IntKind.u64 0] n))] := ⟨_, rfl⟩
  have hnew : Holds H1 L (rowU n fun _ => 0) := by rw [hH1, hL]; exact rowU_new
  rw [← hH1, ← hL] at hm
  have l1 : H1.length = L + 1 := by rw [hH1, hL]; simp
  have k1 : Keep h H1 := by rw [hH1]; exact Keep.app _
  -- the first year
  have key0 : ∃ r, loopX (fun q : Int × Mm => g58_b0 (meansX F1 ro) ro v s (y : Int) (.sl ⟨false, L, 0⟩ n (.known n)) q.1 q.2) (0, ⟨H1, L, L⟩) = some r ∧ ∃ K, r = ⟨K, L, L⟩ ∧ K.length = H1.length ∧ (∀ t, t ≠ L → K[t]? = H1[t]?) ∧ Holds K L (rowU n fun p => (s.take s.length).count (lt p)) := by
    refine loop_gen s.length (fun j q => ∃ K, q = ((j : Int), ⟨K, L, L⟩) ∧ K.length = H1.length ∧ (∀ t, t ≠ L → K[t]? = H1[t]?) ∧ Holds K L (rowU n fun p => (s.take j).count (lt p))) _ ?_ ?_ s.length 0 _ (by omega) ⟨H1, rfl, rfl, fun _ _ => rfl, by simpa using hnew⟩
    · rintro j q hj ⟨K, rfl, lK, oK, hK⟩
      have hb := hs j hj
      rw [← hn] at hb
      have hx := ix_lt hb
      have e2 : ix (s.getD j 0) ≤ 255 := by unfold ix; have := (s.getD j 0).toNat_lt; omega
      have m1 := rowU_ld (ro := ro) hK hx L L
      have hcl : (s.take j).count (lt (ix (s.getD j 0))) ≤ 1000000 := by
        have := List.count_le_length (a := lt (ix (s.getD j 0))) (l := s.take j)
        rw [List.length_take] at this; omega
      obtain ⟨K', s1, g1, n1', o1⟩ := rowU_put (ro := ro) (g := fun p => (s.take (j + 1)).count (lt p)) (x := (s.take j).count (lt (ix (s.getD j 0))) + 1) hK hx (fun t ht hne => by simp only [count_take hj (by omega : n ≤ 100) hb ht, if_neg hne]; omega) (by simp only [count_take hj (by omega : n ≤ 100) hb hx, if_true])
      have s1' := s1 L L
      rw [Nat.min_self] at s1'
      have e3 : wr .u64 ((((s.take j).count (lt (ix (s.getD j 0))) : Nat) : Int) + 1) = (((s.take j).count (lt (ix (s.getD j 0))) + 1 : Nat) : Int) := by rw [wr_u64 (by omega) (by omega)]; omega
      exact ⟨_, (by simp only [g58_b0, len_str, oS, iS, fB, ltT (show (j : Int) < (s.length : Int) by omega), cT, ix_str hj, fI', sub97 hb.1, lt64 (show ix (s.getD j 0) ≤ 9223372036854775807 by omega), ixS_eq hx, m1, e3, s1', pS, nx (show j ≤ 1000000 by omega)] <;> rfl), K', rfl, by omega, fun t ht => by rw [o1 t ht, oK t ht], g1⟩
    · rintro q ⟨K, rfl, lK, oK, hK⟩
      exact ⟨_, (by simp only [g58_b0, len_str, oS, iS, fB, ltF (Int.lt_irrefl _), cF] <;> rfl), K, rfl, lK, oK, hK⟩
  obtain ⟨r0, q0, K0, rfl, lK0, oK0, hK0⟩ := key0
  have kK0 : Keep h K0 := ⟨by omega, fun i hi => by rw [oK0 i (by omega), k1.2 i hi]⟩
  rw [List.take_length] at hK0
  -- year by year
  have key1 : ∃ r, loopX (fun q : AVal × Int × Mm => g58_b1 (meansX F1 ro) ro v (y : Int) q.1 q.2.1 q.2.2) (.sl ⟨false, L, 0⟩ n (.known n), 0, ⟨K0, L, L⟩) = some r ∧ ∃ b J, r = (.sl ⟨false, b, 0⟩ n (.known n), ⟨J, L, L⟩) ∧ L ≤ b ∧ Keep h J ∧ ∃ f, Holds J b (rowU n f) ∧ ∀ p, p < n → sat (f p) = sat ((grw z y s).count (lt p)) ∧ f p ≤ 9223372036854775808 := by
    refine loop_gen y (fun i q => ∃ b J, q = (.sl ⟨false, b, 0⟩ n (.known n), (i : Int), ⟨J, L, L⟩) ∧ L ≤ b ∧ Keep h J ∧ ∃ f, Holds J b (rowU n f) ∧ ∀ p, p < n → sat (f p) = sat ((grw z i s).count (lt p)) ∧ f p ≤ 9223372036854775808) _ ?_ ?_ y 0 _ (by omega) ⟨L, K0, rfl, Nat.le_refl _, kK0, _, hK0, fun p hp => ⟨rfl, ?_⟩⟩
    rotate_left
    · rintro q ⟨b, J, rfl, hb, kJ, f, hJ, hfp⟩
      exact ⟨_, (by simp only [g58_b1, fB, ltF (Int.lt_irrefl _), cF] <;> rfl), b, J, rfl, hb, kJ, f, hJ, hfp⟩
    · have := List.count_le_length (a := lt p) (l := s); omega
    · rintro i q hi ⟨b, J, rfl, hb, kJ, f, hJ, hfp⟩
      have hJl := kJ.1
      have hbJ := hJ.lt
      have hm2 := mk_ok (ro := ro) (hp := J) (e := 60) (es := 1) (bytes := 8) (z := [AVal.i IntKind.u64 0]) (n := n) (l := L) (p := L) (by omega) (by omega)
      obtain ⟨B, hB⟩ : ∃ B, B = J.length := ⟨_, rfl⟩
      obtain ⟨J1, hJ1⟩ : ∃ J1, J1 = J ++ [some (blkOf 60 (rep [AVal.i IntKind.u64 0] n))] := ⟨_, rfl⟩
      have hnew2 : Holds J1 B (rowU n fun _ => 0) := by rw [hJ1, hB]; exact rowU_new
      rw [← hJ1, ← hB] at hm2
      have lJ1 : J1.length = B + 1 := by rw [hJ1, hB]; simp
      have kJ1 : Keep J J1 := by rw [hJ1]; exact Keep.app _
      have hgh : has n (grw z i s) := by rw [hn]; exact grw_has hz hs
      -- the cells while the part q is under way
      obtain ⟨A, hA⟩ : ∃ A : Nat → Nat → Nat → Nat, A = fun q j p => sumT (fun t => f t * (z.getD t []).count (lt p)) q + f q * ((z.getD q []).take j).count (lt p) := ⟨_, rfl⟩
      have key2 : ∃ r, loopX (fun q : Int × Mm => g58_b2 (meansX F1 ro) ro v (y : Int) (.sl ⟨false, b, 0⟩ n (.known n)) (i : Int) (.sl ⟨false, B, 0⟩ n (.known n)) q.1 q.2) (0, ⟨J1, L, L⟩) = some r ∧ ∃ K, r = ⟨K, L, L⟩ ∧ K.length = J1.length ∧ (∀ t, t ≠ B → K[t]? = J1[t]?) ∧ Holds K B (rowU n fun p => sat (A n 0 p)) := by
        refine loop_gen n (fun q u => ∃ K, u = ((q : Int), ⟨K, L, L⟩) ∧ K.length = J1.length ∧ (∀ t, t ≠ B → K[t]? = J1[t]?) ∧ Holds K B (rowU n fun p => sat (A q 0 p))) _ ?_ ?_ n 0 _ (by omega) ⟨J1, rfl, rfl, fun _ _ => rfl, ?_⟩
        rotate_left
        · rintro u ⟨K, rfl, lK, oK, hK⟩
          have khK : Keep h K := kJ.trans ⟨by omega, fun t ht => by rw [oK t (by omega), kJ1.2 t ht]⟩
          exact ⟨_, (by simp only [g58_b2, len_S (S_by a khK), oS, iS, fB, ← hn, ltF (Int.lt_irrefl _), cF] <;> rfl), K, rfl, lK, oK, hK⟩
        · have : (fun p => sat (A 0 0 p)) = fun _ => 0 := by funext p; simp [hA, sumT, sat]
          rw [this]; exact hnew2
        · rintro q u hq ⟨K, rfl, lK, oK, hK⟩
          have kJK : Keep J K := ⟨by omega, fun t ht => by rw [oK t (by omega), kJ1.2 t ht]⟩
          have khK : Keep h K := kJ.trans kJK
          obtain ⟨t, ht⟩ : ∃ t, t = z.getD q [] := ⟨_, rfl⟩
          have htl : t.length ≤ 8 := by rw [ht]; exact hz.h8 q (by omega)
          have hth : has n t := by rw [ht, hn]; exact hz.hh q (by omega)
          have key3 : ∃ r, loopX (fun u : Int × Mm => g58_b3 (meansX F1 ro) ro v (y : Int) (.sl ⟨false, b, 0⟩ n (.known n)) (i : Int) (.sl ⟨false, B, 0⟩ n (.known n)) (q : Int) u.1 u.2) (0, ⟨K, L, L⟩) = some r ∧ ∃ Q, r = ⟨Q, L, L⟩ ∧ Q.length = J1.length ∧ (∀ t, t ≠ B → Q[t]? = J1[t]?) ∧ Holds Q B (rowU n fun p => sat (A q t.length p)) := by
            refine loop_gen t.length (fun j u => ∃ Q, u = ((j : Int), ⟨Q, L, L⟩) ∧ Q.length = J1.length ∧ (∀ t, t ≠ B → Q[t]? = J1[t]?) ∧ Holds Q B (rowU n fun p => sat (A q j p))) _ ?_ ?_ t.length 0 _ (by omega) ⟨K, rfl, lK, oK, hK⟩
            · rintro j u hj ⟨Q, rfl, lQ, oQ, hQ⟩
              have kQ : Keep J Q := ⟨by omega, fun t ht => by rw [oQ t (by omega), kJ1.2 t ht]⟩
              obtain ⟨p1, i1, i2⟩ := at_S a (show q < z.length by omega)
              rw [← ht] at i2
              have i2' := fun l r => (i2 (hp := Q) (l := l) (q := r) (kJ.trans kQ)).1
              have hbj := hth j hj
              have hx := ix_lt hbj
              have e2 : ix (t.getD j 0) ≤ 255 := by unfold ix; have := (t.getD j 0).toNat_lt; omega
              have m1 := rowU_ld (ro := ro) hQ hx Q.length Q.length
              have m2 := rowU_ld (ro := ro) (hJ.by kQ) hq Q.length Q.length
              have e1 := plus87 (ro := ro) (h := Q) (sat_le (A q j (ix (t.getD j 0)))) (hfp q hq).2
              rw [sat_addL] at e1
              have hAj : ∀ p, p < n → A q (j + 1) p = A q j p + if p = ix (t.getD j 0) then f q else 0 := fun p hp => by
                simp only [hA, ← ht, count_take hj (show n ≤ 100 by omega) hbj hp, Nat.mul_add]
                split <;> omega
              obtain ⟨Q2, s1, g1, n1', o1⟩ := rowU_put (ro := ro) (g := fun p => sat (A q (j + 1) p)) (x := sat (A q j (ix (t.getD j 0)) + f q)) hQ hx (fun p hp hne => by simp only [hAj p hp, if_neg hne, Nat.add_zero]) (by simp only [hAj _ hx, if_true])
              have s1' := s1 Q.length Q.length
              refine ⟨_, (by simp only [g58_b3, i1, oS, i2', sS, len_str, iS, fB, ltT (show (j : Int) < (t.length : Int) by omega), cT, ix_str hj, fI', sub97 hbj.1, lt64 (show ix (t.getD j 0) ≤ 9223372036854775807 by omega), baseL, ixS_eq hx, m1, ixS_eq (show q < n from hq), m2, mC, cp0 e1, pS, s1', joinL (show L ≤ min Q.length B by omega) (show L ≤ Q.length by omega), nx (show j ≤ 1000000 by omega)] <;> rfl), Q2, rfl, by omega, fun r hr => by rw [o1 r hr, oQ r hr], g1⟩
            · rintro u ⟨Q, rfl, lQ, oQ, hQ⟩
              have kQ : Keep J Q := ⟨by omega, fun t ht => by rw [oQ t (by omega), kJ1.2 t ht]⟩
              obtain ⟨p1, i1, i2⟩ := at_S a (show q < z.length by omega)
              rw [← ht] at i2
              have i2' := fun l r => (i2 (hp := Q) (l := l) (q := r) (kJ.trans kQ)).1
              exact ⟨_, (by simp only [g58_b3, i1, oS, i2', sS, len_str, iS, fB, ltF (Int.lt_irrefl _), cF] <;> rfl), Q, rfl, lQ, oQ, hQ⟩
          obtain ⟨r, q3, Q, rfl, lQ, oQ, hQ⟩ := key3
          refine ⟨_, (by simp only [g58_b2, len_S (S_by a khK), oS, iS, fB, ← hn, ltT (show (q : Int) < (n : Int) by omega), cT, meansX_loop, q3, fI', nx (show q ≤ 1000000 by omega)] <;> rfl), Q, rfl, lQ, oQ, ?_⟩
          have : (fun p => sat (A q t.length p)) = fun p => sat (A (q + 1) 0 p) := by
            funext p
            simp only [hA, ← ht, List.take_length, List.take_zero, List.count_nil, Nat.mul_zero, Nat.add_zero]
            rw [ht]; rfl
          rw [this] at hQ
          exact hQ
      obtain ⟨r, q2, K, rfl, lK, oK, hK⟩ := key2
      have kJK : Keep J K := ⟨by omega, fun t ht => by rw [oK t (by omega), kJ1.2 t ht]⟩
      refine ⟨_, (by simp only [g58_b1, fB, ltT (show (i : Int) < (y : Int) by omega), cT, len_S (S_by a kJ), oS, iS, ← hn, hm2, pS, meansX_loop, q2, fI', nx (show i ≤ 1000000 by omega)] <;> rfl), B, K, rfl, by omega, kJ.trans kJK, _, hK, fun p hp => ⟨?_, sat_le _⟩⟩
      have hAn : A n 0 p = sumT (fun t => f t * (z.getD t []).count (lt p)) n := by simp [hA]
      show sat (sat (A n 0 p)) = _
      rw [sat_sat, hAn, grw_last, count_flat (show n ≤ 100 by omega) (lt p) hgh]
      exact sat_sum fun t ht => sat_mulC (hfp t ht).1
  obtain ⟨r1, q1, b, J, rfl, hb, kJ, f, hJ, hfp⟩ := key1
  have hbel : (AVal.sl ⟨false, b, 0⟩ n (.known n)).bel h.length = false := by
    have : Nat.blt b h.length = false := by rw [← Bool.not_eq_true, Nat.blt_eq]; omega
    simp [AVal.bel, this]
  obtain ⟨H, f1, f2, f3⟩ := fin_any (w := .sl ⟨false, b, 0⟩ n (.known n)) kJ
  obtain rfl := f3 hbel
  refine ⟨_, H, g58_ok (meansX_ok F1 ro) (Ovr.no rfl) (?_ : _ = some (AVal.sl ⟨false, b, 0⟩ n (.known n), H, h.length, h.length)), kJ, ?_⟩
  · unfold g58
    rw [← hL] at f1 ⊢
    simp only [len_S a, oS, iS, ← hn, hm, pS, meansX_loop, q0, q1, tA]
    exact f1
  · have e : rowU n f = (cRow z y s).map eU := by
      unfold rowU cRow
      rw [List.map_map, hn]
      refine List.map_congr_left fun p hp => ?_
      have hp' : p < n := by rw [hn]; exact List.mem_range.1 hp
      obtain ⟨g1, g2⟩ := hfp p hp'
      have : sat (f p) = f p := by unfold sat; omega
      show eU (f p) = eU (sat _)
      rw [← g1, this]
    rw [e] at hJ
    have hl : (cRow z y s).length = n := by simp [cRow, hn]
    exact hJ.R _ hl.symm
end
end Go.Proofs.Ytfohppnelbbepaa.T
/- Buds of the reference, Endless -/
open Go.Vm
set_option linter.unusedVariables false
set_option linter.unusedSectionVars false
namespace Go.Proofs.Ytfohppnelbbepaa.T
open Go
variable [Ovr]
section
variable {ro : List ABlk} {h hp : Heap}
theorem RowG.row {L e : Nat} {v : AVal} {z : List Int} (g : RowG hp L e v (z.map (AVal.i .i64))) : IsRow ro hp v z := by
  rcases g with ⟨rfl, h⟩ | ⟨b, blk, rfl, h2, h3, h4, h5, h6, h7⟩
  · exact .inl ⟨rfl, by simpa using h⟩
  · rw [List.length_map] at h6 h7 ⊢
    refine .inr ⟨_, _, blk, rfl, rdB_heap h4 0, by show 0 + z.length ≤ _; omega, fun j hj => ?_⟩
    rw [Nat.zero_add, h7 j hj]
    simp [List.getD, hj]
theorem fin_row {K : Heap} {L e : Nat} {w : AVal} {x : List Int} {t : Int} (k : Keep h K) (g : RowG K L e w (x.map (AVal.i .i64))) (hL : h.length ≤ L) : ∃ H, finM h.length (.tup [w, .i .i64 t]) ⟨K, h.length, h.length⟩ = some (.tup [w, .i .i64 t], H, h.length, h.length) ∧ Keep h H ∧ IsRow ro H w x := by
  obtain ⟨H, f1, f2, f3⟩ := fin_any (w := .tup [w, .i .i64 t]) k
  refine ⟨H, f1, f2, ?_⟩
  rcases g with ⟨rfl, e1⟩ | ⟨b, blk, rfl, h2, h3, h4, h5⟩
  · exact .inl ⟨rfl, by simpa using e1⟩
  · have hbel : (AVal.tup [.sl ⟨false, b, 0⟩ (x.map (AVal.i .i64)).length .grow, .i .i64 t]).bel h.length = false := by
      have : Nat.blt b h.length = false := by rw [← Bool.not_eq_true, Nat.blt_eq]; omega
      simp [AVal.bel, bels, this]
    obtain rfl := f3 hbel
    exact RowG.row (L := L) (e := e) (.inr ⟨b, blk, rfl, h2, h3, h4, h5⟩)
end
end Go.Proofs.Ytfohppnelbbepaa.T
/- Letter -/
open Go.Vm
set_option linter.unusedVariables false
set_option linter.unusedSectionVars false
namespace Go.Proofs.Ytfohppnelbbepaa.T
open Go
variable [Ovr]
section
variable {ro : List ABlk} {h hp : Heap}
end
end Go.Proofs.Ytfohppnelbbepaa.T
/- Letter of the reference, law 7 -/
open Go.Vm
set_option linter.unusedVariables false
set_option linter.unusedSectionVars false
namespace Go.Proofs.Ytfohppnelbbepaa.T
open Go
variable [Ovr]
section
variable {ro : List ABlk} {h hp : Heap}
end
end Go.Proofs.Ytfohppnelbbepaa.T
/- Parts of the reference -/
open Go.Vm
set_option linter.unusedVariables false
set_option linter.unusedSectionVars false
namespace Go.Proofs.Ytfohppnelbbepaa.T
open Go
variable [Ovr]
section
variable {ro : List ABlk} {h hp : Heap}
theorem Holds.row {K : Heap} {b n : Nat} {c : Cap} {x : List Int} (a : Holds K b (x.map (AVal.i .i64))) (hn : n = x.length) : IsRow ro K (.sl ⟨false, b, 0⟩ n c) x := by
  subst hn
  obtain ⟨blk, h1, h2, h3⟩ := a
  rw [List.length_map] at h2 h3
  refine .inr ⟨_, _, blk, rfl, rdB_heap h1 0, by show 0 + x.length ≤ _; omega, fun j hj => ?_⟩
  rw [Nat.zero_add, h3 j hj]
  simp [List.getD, hj]
def cntL (z : List (List UInt8)) (y : Nat) (s : List UInt8) (k : Nat) : List Int := (List.range k).map fun p => (((grw z y s).count (lt p) : Nat) : Int)
theorem cntL_succ (z : List (List UInt8)) (y : Nat) (s : List UInt8) (k : Nat) : cntL z y s (k + 1) = cntL z y s k ++ [(((grw z y s).count (lt k) : Nat) : Int)] := by unfold cntL; rw [List.range_succ, List.map_append]; rfl
def cntOk (z : List (List UInt8)) (y : Nat) (s : List UInt8) (k : Nat) : Prop := ∀ p, p < k → (grw z y s).count (lt p) ≤ 1152921504606846976
noncomputable instance {z : List (List UInt8)} {y : Nat} {s : List UInt8} {k : Nat} : Decidable (cntOk z y s k) := Classical.propDecidable _
noncomputable def partsV (z : List (List UInt8)) (s : List UInt8) (y : Int) : List Int × Int := if errY z s y ≠ 0 then ([], errY z s y) else if cntOk z y.toNat s z.length then (cntL z y.toNat s z.length, 0) else ([], 4)
theorem partsV_len (z : List (List UInt8)) (s : List UInt8) (y : Int) : (partsV z s y).1.length ≤ z.length := by
  unfold partsV
  split
  · exact Nat.zero_le _
  · split
    · simp [cntL]
    · exact Nat.zero_le _
set_option maxHeartbeats 1000000 in
theorem parts22 {v : AVal} {z : List (List UInt8)} {s : List UInt8} {y : Int} (a : IsS ro h v z) (hf : z.length ≤ 1000000 ∧ (∀ i, i < z.length → (z.getD i []).length ≤ 1000000) ∧ s.length ≤ 1000000) :
    ∃ w H, callX F1 ro 22 [v, .s s, .i .i64 y] h = some (.tup [w, .i .i64 (partsV z s y).2], H, h.length, h.length) ∧ Keep h H ∧ IsRow ro H w (partsV z s y).1 := by
  by_cases h0 : errY z s y = 0
  rotate_left
  · have e : partsV z s y = ([], errY z s y) := by unfold partsV; rw [if_pos h0]
    refine ⟨.nsl, h, g22_ok (meansX_ok F1 ro) (Ovr.no rfl) ?_, Keep.refl _, by rw [e]; exact .inl ⟨rfl, rfl⟩⟩
    rw [e]
    unfold g22
    simp only [mC, cp0 (shoot42 (s := s) a hf.1 hf.2.1 hf.2.2), pS, iS, fB]
    by_cases hS : errS z s = 0
    · have eY := shootY (v := v) (y := y) hS
      have e0 : eqI (errS z s) 0 = true := by rw [hS]; rfl
      rcases Int.lt_or_le y 0 with h1 | h1
      · rw [eY, if_neg (by omega)]
        simp only [e0, nT, cF, ltT h1, cT, oS, tA2]
        exact fin_pure rfl
      · rcases Int.lt_or_le 1000 y with h2 | h2
        · rw [eY, if_neg (by omega)]
          simp only [e0, nT, ltF (show ¬ y < 0 by omega), cF, ltT h2, cT, oS, tA2]
          exact fin_pure rfl
        · rw [eY, if_pos ⟨h1, h2⟩] at h0
          exact absurd rfl h0
    · have e2 : errY z s y = errS z s := by unfold errY; rw [if_pos hS]
      rw [e2]
      simp only [eqI_ne hS, nF, cT, tA2]
      exact fin_pure rfl
  obtain ⟨hS, k, rfl, hk⟩ := errY_ok h0
  have hz := VOk.of (errS_V hS)
  have n6 := hz.h6
  obtain ⟨hs30, hsh⟩ := errS_ok hS
  have e0 : eqI (errS z s) 0 = true := by rw [hS]; rfl
  have e : partsV z s (k : Int) = if cntOk z k s z.length then (cntL z k s z.length, 0) else ([], 4) := by unfold partsV; rw [if_neg (fun e => e h0), Int.toNat_natCast]
  obtain ⟨w, H, c1, k1, R⟩ := counts58 (ro := ro) a hz hsh hf.2.2 hk
  obtain ⟨L, hL⟩ : ∃ L, L = h.length := ⟨_, rfl⟩
  have hlH := k1.1
  have hlw := fun (K : Heap) (kK : Keep H K) => len_R (R_by R kK)
  have hcl : (cRow z k s).length = z.length := by simp [cRow]
  rw [hcl] at hlw
  have key : ∃ r, loopX (fun q : AVal × Int × Mm => g22_b1 (meansX F1 ro) ro w q.1 q.2.1 q.2.2) (.nsl, 0, ⟨H, L, L⟩) = some r ∧ ∃ J, Keep h J ∧ ((cntOk z k s z.length ∧ ∃ u, r = .inl (u, ⟨J, L, L⟩) ∧ RowG J H.length 3 u ((cntL z k s z.length).map (AVal.i .i64))) ∨ (¬ cntOk z k s z.length ∧ r = .inr (.nsl, 4, ⟨J, L, L⟩))) := by
    refine loop_exit z.length (fun i q => ∃ u J, q = (u, (i : Int), ⟨J, L, L⟩) ∧ Keep H J ∧ RowG J H.length 3 u ((cntL z k s i).map (AVal.i .i64)) ∧ cntOk z k s i) _ ?_ ?_ z.length 0 _ (by omega) ⟨.nsl, H, rfl, Keep.refl _, RowG.nil _ _ _, fun p hp => by omega⟩
    · rintro i q hi ⟨u, J, rfl, kJ, g, hok⟩
      have hlJ := kJ.1
      obtain ⟨p1, i1, i2⟩ := at_R R (cRow_get z k s hi)
      have hst := sat_lt (n := (grw z k s).count (lt i)) (m := 1152921504606846976) (by omega)
      by_cases hc : 1152921504606846976 < (grw z k s).count (lt i)
      · have := hst.2 hc
        exact .inr ⟨_, (by simp only [g22_b1, hlw J kJ, oS, iS, fB, ltT (show (i : Int) < (z.length : Int) by omega), cT, i1, (i2 kJ).1, eU, ltT (show (1152921504606846976 : Int) < ((sat ((grw z k s).count (lt i)) : Nat) : Int) by omega)] <;> rfl), J, k1.trans kJ, .inr ⟨fun hall => by have := hall i hi; omega, rfl⟩⟩
      · have hs1 : sat ((grw z k s).count (lt i)) = (grw z k s).count (lt i) := by unfold sat; omega
        have hl : (cntL z k s i).length = i := by simp [cntL]
        obtain ⟨K2, K3, l', p', s1, s2, g4, n2, n3, o3, b3, b5, b6⟩ := g.push (ro := ro) (l := L) (p := L) (bytes := 8) (z := AVal.i IntKind.i64 0) (w := .i .i64 (((grw z k s).count (lt i) : Nat) : Int)) (by omega) (by rw [List.length_map]; omega) (by omega) rfl rfl
        obtain ⟨b31, b32⟩ := b3 L (by omega) (Nat.le_refl _) (Nat.le_refl _)
        have hl' : l' = L ∧ p' = L := by omega
        rw [hl'.1, hl'.2] at s2
        refine .inl ⟨_, (by simp only [g22_b1, hlw J kJ, oS, iS, fB, ltT (show (i : Int) < (z.length : Int) by omega), cT, i1, (i2 kJ).1, eU, hs1, ltF (show ¬ (1152921504606846976 : Int) < (((grw z k s).count (lt i) : Nat) : Int) by omega), cF, fI', lt64 (show (grw z k s).count (lt i) ≤ 9223372036854775807 by omega), s1, pS, s2, nx (show i ≤ 1000000 by omega)] <;> rfl), _, K3, rfl, ⟨by omega, fun t ht => ?_⟩, ?_, fun p hp => ?_⟩
        · rw [o3 t (by omega) fun e => by have := (g.holds e).2.1; omega, kJ.2 t ht]
        · rw [cntL_succ, List.map_append]; exact g4
        · rcases Nat.lt_or_ge p i with h1 | h1
          · exact hok p h1
          · obtain rfl : p = i := by omega
            omega
    · rintro q ⟨u, J, rfl, kJ, g, hok⟩
      exact ⟨_, (by simp only [g22_b1, hlw J kJ, oS, iS, fB, ltF (Int.lt_irrefl _), cF] <;> rfl), J, k1.trans kJ, .inl ⟨hok, u, rfl, g⟩⟩
  obtain ⟨r, q1, J, kJ, q2⟩ := key
  have c1' := cM (l := L) (p := L) c1 (by omega) (by omega)
  have c42 := cp (l := L) (p := L) (shoot42 (ro := ro) (h := h) (s := s) a hf.1 hf.2.1 hf.2.2) (by omega) (by omega)
  rcases q2 with ⟨hok, u, rfl, g⟩ | ⟨hok, rfl⟩
  · rw [e, if_pos hok]
    obtain ⟨H', f1, f2, f3⟩ := fin_row (ro := ro) (t := 0) kJ g (by omega)
    refine ⟨u, H', g22_ok (meansX_ok F1 ro) (Ovr.no rfl) ?_, f2, f3⟩
    unfold g22
    rw [← hL] at f1 ⊢
    simp only [mC, c42, pS, iS, fB, e0, nT, cF, ltF (show ¬ (k : Int) < 0 by omega), ltF (show ¬ (1000 : Int) < (k : Int) by omega), oS, c1', meansX_loop, q1, tA2]
    exact f1
  · rw [e, if_neg hok]
    refine ⟨.nsl, h, g22_ok (meansX_ok F1 ro) (Ovr.no rfl) ?_, Keep.refl _, .inl ⟨rfl, rfl⟩⟩
    unfold g22
    rw [← hL]
    simp only [mC, c42, pS, iS, fB, e0, nT, cF, ltF (show ¬ (k : Int) < 0 by omega), ltF (show ¬ (1000 : Int) < (k : Int) by omega), oS, c1', meansX_loop, q1, tA2]
    subst hL
    exact fin_keep kJ rfl
end
end Go.Proofs.Ytfohppnelbbepaa.T
/- Parts, law 3 -/
open Go.Vm
set_option linter.unusedVariables false
set_option linter.unusedSectionVars false
namespace Go.Proofs.Ytfohppnelbbepaa.T
open Go
variable [Ovr]
section
variable {ro : List ABlk} {h hp : Heap}
def col (n : Nat) (f : Nat → Nat) : List (List Nat) := (List.range n).map fun p => [f p]
theorem col_get {n : Nat} (f : Nat → Nat) {p : Nat} (hp : p < n) : (col n f)[p]? = some [f p] := by simp [col, hp]
theorem dot_col {z : List (List UInt8)} {n p : Nat} (hn : n = z.length) (hp : p < n) (f : Nat → Nat) : ∀ k, k ≤ n → dot57 ((mat55 z).getD p []) (col n f) 0 k = sat (sumT (fun t => f t * (z.getD t []).count (lt p)) k)
  | 0, _ => rfl
  | k + 1, hk => by
    have e1 : ((mat55 z).getD p []).getD k 0 = (z.getD k []).count (lt p) := by
      rw [mat55_row z (by omega)]
      simp [List.getD, show k < z.length by omega]
    have e2 : ((col n f).getD k []).getD 0 0 = f k := by rw [List.getD_eq_getElem?_getD (l := col n f), col_get f (by omega)]; rfl
    show sat (dot57 ((mat55 z).getD p []) (col n f) 0 k + sat (((mat55 z).getD p []).getD k 0 * ((col n f).getD k []).getD 0 0)) = _
    rw [dot_col hn hp f k (by omega), e1, e2, sat_add, Nat.mul_comm]
    rfl
theorem prod_col {z : List (List UInt8)} {n : Nat} (hn : n = z.length) (h1 : 1 ≤ n) (f : Nat → Nat) : prod57 (mat55 z) (col n f) = col n fun p => sat (sumT (fun t => f t * (z.getD t []).count (lt p)) n) := by
  have e0 : ((col n f).getD 0 []).length = 1 := by rw [List.getD_eq_getElem?_getD, col_get f (by omega)]; rfl
  have e1 : (col n f).length = n := by simp [col]
  unfold prod57
  rw [e0, e1]
  refine List.ext_getElem? fun p => ?_
  rcases Nat.lt_or_ge p n with hp | hp
  · have hm : (mat55 z)[p]? = some ((mat55 z).getD p []) := by
      have : p < (mat55 z).length := by rw [mat55_len]; omega
      simp [List.getD, this]
    rw [List.getElem?_map, hm, col_get _ hp]
    show some [dot57 ((mat55 z).getD p []) (col n f) 0 n] = _
    rw [dot_col hn hp f n (Nat.le_refl _)]
  · rw [List.getElem?_eq_none (by simp [mat55_len]; omega), List.getElem?_eq_none (by simp [col]; omega)]
set_option maxHeartbeats 2000000 in
theorem parts21 {v : AVal} {z : List (List UInt8)} {s : List UInt8} {y : Int} (a : IsS ro h v z) (hf : z.length ≤ 1000000 ∧ (∀ i, i < z.length → (z.getD i []).length ≤ 1000000) ∧ s.length ≤ 1000000) :
    ∃ w H, callX F1 ro 21 [v, .s s, .i .i64 y] h = some (.tup [w, .i .i64 (partsV z s y).2], H, h.length, h.length) ∧ Keep h H ∧ IsRow ro H w (partsV z s y).1 := by
  have c47 := cp0 (years47 (ro := ro) (h := h) (y := y) (s := s) a hf.1 hf.2.1 hf.2.2)
  by_cases h0 : errY z s y = 0
  rotate_left
  · have e : partsV z s y = ([], errY z s y) := by unfold partsV; rw [if_pos h0]
    refine ⟨.nsl, h, g21_ok (meansX_ok F1 ro) (Ovr.no rfl) ?_, Keep.refl _, by rw [e]; exact .inl ⟨rfl, rfl⟩⟩
    rw [e]
    unfold g21
    simp only [mC, c47, pS, x0, x1, oS, iS, fB, eqI_ne h0, nF, cT, tA2]
    exact fin_pure rfl
  obtain ⟨hS, k, rfl, hk⟩ := errY_ok h0
  have hz := VOk.of (errS_V hS)
  have n6 := hz.h6
  have n1 := hz.h1
  obtain ⟨hs30, hsh⟩ := errS_ok hS
  obtain ⟨n, hn⟩ : ∃ n, n = z.length := ⟨_, rfl⟩
  have e : partsV z s (k : Int) = if cntOk z k s z.length then (cntL z k s z.length, 0) else ([], 4) := by unfold partsV; rw [if_neg (fun e => e h0), Int.toNat_natCast]
  obtain ⟨L, hL⟩ : ∃ L, L = h.length := ⟨_, rfl⟩
  -- the list of rows
  have hm1 := mk_ok (ro := ro) (hp := h) (e := 63) (es := 1) (bytes := 24) (z := [AVal.nsl]) (n := n) (l := L) (p := L) (by omega) (by omega)
  obtain ⟨H1, hH1⟩ : ∃ H1, H1 = h ++ [some (blkOf 63 (rep [AVal.nsl] n))] := ⟨_, rfl⟩
  have o1 : Holds H1 L (rep [AVal.nsl] n) := by rw [hH1, hL]; exact Holds.new _ _ _
  rw [← hH1, ← hL] at hm1
  have l1 : H1.length = L + 1 := by rw [hH1, hL]; simp
  have k1 : Keep h H1 := by rw [hH1]; exact Keep.app _
  obtain ⟨rows, hrows⟩ : ∃ rows : Nat → List AVal, rows = fun i => (List.range n).map fun r => if r < i then AVal.sl ⟨false, L + 1 + r, 0⟩ 1 (.known 1) else .nsl := ⟨_, rfl⟩
  have o1' : Holds H1 L (rows 0) := by
    have : rep [AVal.nsl] n = rows 0 := by
      rw [rep_repl, hrows]
      refine List.ext_getElem? fun i => ?_
      rcases Nat.lt_or_ge i n with hi | hi
      · simp [hi]
      · rw [List.getElem?_eq_none (by simpa using hi), List.getElem?_eq_none (by simpa using hi)]
    rwa [this] at o1
  have key0 : ∃ r, loopX (fun q : Int × Mm => g21_b0 (meansX F1 ro) ro s (k : Int) v (.sl ⟨false, L, 0⟩ n (.known n)) (n : Int) q.1 q.2) (0, ⟨H1, L, L⟩) = some r ∧ ∃ K, r = ⟨K, L, L⟩ ∧ Keep h K ∧ K.length = L + 1 + n ∧ Holds K L (rows n) ∧ ∀ r, r < n → Holds K (L + 1 + r) [eU 0] := by
    refine loop_gen n (fun i q => ∃ K, q = ((i : Int), ⟨K, L, L⟩) ∧ Keep h K ∧ K.length = L + 1 + i ∧ Holds K L (rows i) ∧ ∀ r, r < i → Holds K (L + 1 + r) [eU 0]) _ ?_ ?_ n 0 _ (by omega) ⟨H1, rfl, k1, by omega, o1', fun r hr => by omega⟩
    · rintro i q hi ⟨K, rfl, kK, lK, g1, g2⟩
      have b1 := bsl1 (ro := ro) (hp := K) (e := 61) (l := L) (p := L) (z := AVal.i IntKind.u64 0) (w := .i .u64 0) rfl
      obtain ⟨K1, hK1⟩ : ∃ K1, K1 = K ++ [some (blkOf 61 [AVal.i .u64 0])] := ⟨_, rfl⟩
      rw [← hK1, lK] at b1
      have lK1 : K1.length = L + 1 + i + 1 := by rw [hK1]; simp [lK]
      have kK1 : Keep K K1 := by rw [hK1]; exact Keep.app _
      obtain ⟨K2, s1, f1, f2, f3⟩ := (g1.by kK1).put (ro := ro) (k := i) (w := .sl ⟨false, L + 1 + i, 0⟩ 1 (.known 1)) (by rw [hrows]; simp [hi]) rfl rfl
      have s1' := s1 L L
      rw [show nonp [AVal.sl ⟨false, L + 1 + i, 0⟩ 1 (.known 1)] = false from rfl, cond_false, Nat.min_self] at s1'
      refine ⟨_, (by simp only [g21_b0, fB, ltT (show (i : Int) < (n : Int) by omega), cT, b1, pS, ixS_eq (show i < n from hi), oS, s1', fI', nx (show i ≤ 1000000 by omega)] <;> rfl), K2, rfl, ⟨by have := kK.1; omega, fun t ht => by rw [f3 t (by omega), (kK.trans kK1).2 t ht]⟩, by omega, ?_, fun r hr => ?_⟩
      · have : (rows i).set i (.sl ⟨false, L + 1 + i, 0⟩ 1 (.known 1)) = rows (i + 1) := by
          rw [hrows]
          refine setF (fun t ht hne => ?_) fun _ => ?_
          · by_cases e1 : t < i
            · rw [if_pos e1, if_pos (by omega)]
            · rw [if_neg e1, if_neg (by omega)]
          · rw [if_pos (by omega)]
        rwa [this] at f1
      · by_cases e1 : r = i
        · subst e1
          have : Holds K1 (L + 1 + r) [eU 0] := by rw [hK1, ← lK]; exact Holds.new _ _ _
          exact this.keep (f3 _ (by omega))
        · exact ((g2 r (by omega)).by kK1).keep (f3 _ (by omega))
    · rintro q ⟨K, rfl, kK, lK, g1, g2⟩
      exact ⟨_, (by simp only [g21_b0, fB, ltF (Int.lt_irrefl _), cF] <;> rfl), K, rfl, kK, lK, g1, g2⟩
  obtain ⟨r0, q0, K0, rfl, kK0, lK0, gR, gC⟩ := key0
  -- the shoot's letters
  have rowld : ∀ (K : Heap), Holds K L (rows n) → ∀ r, r < n → ∀ l p, ldM ro ⟨K, l, p⟩ true 1 (.p (some ⟨false, L, 0 + r⟩)) = some (.sl ⟨false, L + 1 + r, 0⟩ 1 (.known 1)) := fun K g r hr l p => (g.ld (ro := ro) (k := r) (by rw [hrows]; simp [hr]) l p).1
  have key1 : ∃ r, loopX (fun q : Int × Mm => g21_b1 (meansX F1 ro) ro s (k : Int) v (.sl ⟨false, L, 0⟩ n (.known n)) (s.length : Int) q.1 q.2) (0, ⟨K0, L, L⟩) = some r ∧ ∃ K, r = ⟨K, L, L⟩ ∧ Keep h K ∧ K.length = L + 1 + n ∧ Holds K L (rows n) ∧ ∀ r, r < n → Holds K (L + 1 + r) [eU ((s.take s.length).count (lt r))] := by
    refine loop_gen s.length (fun j q => ∃ K, q = ((j : Int), ⟨K, L, L⟩) ∧ Keep h K ∧ K.length = L + 1 + n ∧ Holds K L (rows n) ∧ ∀ r, r < n → Holds K (L + 1 + r) [eU ((s.take j).count (lt r))]) _ ?_ ?_ s.length 0 _ (by omega) ⟨K0, rfl, kK0, lK0, gR, by simpa using gC⟩
    · rintro j q hj ⟨K, rfl, kK, lK, g1, g2⟩
      have hb := hsh j hj
      rw [← hn] at hb
      have hx := ix_lt hb
      have hlK := kK.1
      have c54 := cp (l := L) (p := L) (part_of (ro := ro) (h := K) hb) (by omega) (by omega)
      obtain ⟨K', s1, f1, f2, f3⟩ := (g2 _ hx).put (ro := ro) (k := 0) (w := eU ((s.take j).count (lt (ix (s.getD j 0))) + 1)) (by simp) rfl rfl
      have s1' := s1 L L
      rw [show nonp [eU ((s.take j).count (lt (ix (s.getD j 0))) + 1)] = true from rfl, cond_true, show min L (L + 1 + ix (s.getD j 0)) = L by omega] at s1'
      have hcl : (s.take j).count (lt (ix (s.getD j 0))) ≤ 1000000 := by
        have := List.count_le_length (a := lt (ix (s.getD j 0))) (l := s.take j)
        rw [List.length_take] at this; omega
      have e3 : wr .u64 ((((s.take j).count (lt (ix (s.getD j 0))) : Nat) : Int) + 1) = (((s.take j).count (lt (ix (s.getD j 0))) + 1 : Nat) : Int) := by rw [wr_u64 (by omega) (by omega)]; omega
      have ld0 := ((g2 _ hx).ld (ro := ro) (k := 0) rfl L L).1
      have ix00 : evP .e (.ixS 1 (.c (.sl ⟨false, L + 1 + ix (s.getD j 0), 0⟩ 1 (.known 1))) (.c (.i .i64 0))) = some (.p (some ⟨false, L + 1 + ix (s.getD j 0), 0 + 0⟩)) := ixS_eq (i := 0) (by omega)
      have s1'' : stepM ro ⟨K, L, L⟩ (.st 1 (.c (.p (some ⟨false, L + 1 + ix (s.getD j 0), 0 + 0⟩))) (.c (.i .u64 (((s.take j).count (lt (ix (s.getD j 0))) + 1 : Nat) : Int)))) = some (und, ⟨K', L, L⟩) := s1'
      refine ⟨_, (by simp only [g21_b1, fB, ltT (show (j : Int) < (s.length : Int) by omega), cT, ix_str hj, oS, iS, mC, c54, pS, ixS_eq hx, rowld K g1 _ hx, ix00, ld0, eU, fI', e3, s1'', nx (show j ≤ 1000000 by omega)] <;> rfl), K', rfl, ⟨by omega, fun t ht => by rw [f3 t (by omega), kK.2 t ht]⟩, by omega, g1.keep (f3 _ (by omega)), fun r hr => ?_⟩
      by_cases e1 : r = ix (s.getD j 0)
      · subst e1
        rw [count_take hj (show n ≤ 100 by omega) hb hx, if_pos rfl]
        exact f1
      · rw [count_take hj (show n ≤ 100 by omega) hb hr, if_neg e1, Nat.add_zero]
        exact (g2 r hr).keep (f3 _ (by omega))
    · rintro q ⟨K, rfl, kK, lK, g1, g2⟩
      exact ⟨_, (by simp only [g21_b1, fB, ltF (Int.lt_irrefl _), cF] <;> rfl), K, rfl, kK, lK, g1, g2⟩
  obtain ⟨r1, q1, K1, rfl, kK1, lK1, g1, g2⟩ := key1
  rw [List.take_length] at g2
  have C0 : IsM eU ro K1 (.sl ⟨false, L, 0⟩ n (.known n)) (col n fun p => s.count (lt p)) := by
    have hl : (col n fun p => s.count (lt p)).length = n := by simp [col]
    have := rowsM (ro := ro) (enc := eU) (x := col n fun p => s.count (lt p)) (c := .known n) g1 (by rw [hl, hrows]; simp) fun i x hx => by
      have hi : i < n := by have := (List.getElem?_eq_some_iff.1 hx).1; rwa [hl] at this
      rw [col_get _ hi] at hx
      cases hx
      exact ⟨.sl ⟨false, L + 1 + i, 0⟩ 1 (.known 1), by rw [hrows]; simp [hi], Holds.R (c := .known 1) (z := [s.count (lt i)]) (g2 i hi) 1 rfl⟩
    rwa [hl] at this
  obtain ⟨w1, H2, c55, k2, m2⟩ := matrix55 (ro := ro) (S_by a kK1) hz.h1 hz.h6 hz.h8
  have M1 : IsM eU ro H2 w1 (mat55 z) := m2.isM
  have hlK1 := kK1.1
  have c55' := cM (l := L) (p := L) c55 (by omega) (by omega)
  have kh2 : Keep h H2 := kK1.trans k2
  have hlH2 := kh2.1
  -- year by year
  have key2 : ∃ r, loopX (fun q : AVal × Int × Mm => g21_b2 (meansX F1 ro) ro v w1 (k : Int) q.1 q.2.1 q.2.2) (.sl ⟨false, L, 0⟩ n (.known n), 0, ⟨H2, L, L⟩) = some r ∧ ∃ u J f, r = (u, ⟨J, L, L⟩) ∧ Keep H2 J ∧ IsM eU ro J u (col n f) ∧ ∀ p, p < n → sat (f p) = sat ((grw z k s).count (lt p)) ∧ f p ≤ 9223372036854775808 := by
    refine loop_gen k (fun i q => ∃ u J f, q = (u, (i : Int), ⟨J, L, L⟩) ∧ Keep H2 J ∧ IsM eU ro J u (col n f) ∧ ∀ p, p < n → sat (f p) = sat ((grw z i s).count (lt p)) ∧ f p ≤ 9223372036854775808) _ ?_ ?_ k 0 _ (by omega) ⟨_, H2, _, rfl, Keep.refl _, M_by C0 k2, fun p hp => ⟨rfl, ?_⟩⟩
    rotate_left
    · rintro q ⟨u, J, f, rfl, kJ, mJ, hfp⟩
      exact ⟨_, (by simp only [g21_b2, fB, ltF (Int.lt_irrefl _), cF] <;> rfl), u, J, f, rfl, kJ, mJ, hfp⟩
    · have := List.count_le_length (a := lt p) (l := s); omega
    · rintro i q hi ⟨u, J, f, rfl, kJ, mJ, hfp⟩
      have hlJ := kJ.1
      have hcl : (col n f).length = n := by simp [col]
      have hgh : has n (grw z i s) := by rw [hn]; exact grw_has hz hsh
      obtain ⟨u', J', c57, kJ', m'⟩ := prod57_ok (ro := ro) (M_by M1 kJ) mJ (by rw [mat55_len]; omega) (by omega) (by omega) (fun x hx => by rw [hcl, hn]; exact mat55_mem (r := z) hx) (m := 1) (by omega) (fun x hx => by
          obtain ⟨p, -, rfl⟩ := List.mem_map.1 hx
          rfl) (fun x hx => mat55_le hz.h8 hx) (fun x hx => by
          obtain ⟨p, hp, rfl⟩ := List.mem_map.1 hx
          intro y hy
          simp only [List.mem_singleton] at hy
          subst hy
          exact (hfp p (List.mem_range.1 hp)).2)
      rw [prod_col hn (by omega) f] at m'
      have c57' := cM (l := L) (p := L) c57 (by omega) (by omega)
      refine ⟨_, (by simp only [g21_b2, fB, ltT (show (i : Int) < (k : Int) by omega), cT, mC, c57', pS, fI', nx (show i ≤ 1000000 by omega)] <;> rfl), u', J', _, rfl, kJ.trans kJ', m'.isM, fun p hp => ⟨?_, sat_le _⟩⟩
      show sat (sat _) = _
      rw [sat_sat, grw_last, count_flat (show n ≤ 100 by omega) (lt p) hgh]
      exact sat_sum fun t ht => sat_mulC (hfp t ht).1
  obtain ⟨r2, q2, u, J, f, rfl, kJ, mJ, hfp⟩ := key2
  have hfe : ∀ p, p < n → f p = sat ((grw z k s).count (lt p)) := fun p hp => by
    obtain ⟨e1, e2⟩ := hfp p hp
    rw [← e1]; unfold sat; omega
  have hlJ := kJ.1
  have khJ : Keep h J := kh2.trans kJ
  have hcl : (col n f).length = n := by simp [col]
  have hlu := len_M mJ
  rw [hcl] at hlu
  -- the result
  have hm3 := mk_ok (ro := ro) (hp := J) (e := 3) (es := 1) (bytes := 8) (z := [AVal.i IntKind.i64 0]) (n := n) (l := L) (p := L) (by omega) (by omega)
  obtain ⟨B, hB⟩ : ∃ B, B = J.length := ⟨_, rfl⟩
  obtain ⟨J1, hJ1⟩ : ∃ J1, J1 = J ++ [some (blkOf 3 (rep [AVal.i IntKind.i64 0] n))] := ⟨_, rfl⟩
  have o3 : Holds J1 B (rep [AVal.i IntKind.i64 0] n) := by rw [hJ1, hB]; exact Holds.new _ _ _
  rw [← hJ1, ← hB] at hm3
  have lJ1 : J1.length = B + 1 := by rw [hJ1, hB]; simp
  have kJ1 : Keep J J1 := by rw [hJ1]; exact Keep.app _
  obtain ⟨out, hout⟩ : ∃ out : Nat → List AVal, out = fun i => (List.range n).map fun r => AVal.i .i64 (if r < i then (((grw z k s).count (lt r) : Nat) : Int) else 0) := ⟨_, rfl⟩
  have o3' : Holds J1 B (out 0) := by
    have : rep [AVal.i IntKind.i64 0] n = out 0 := by
      rw [rep_repl, hout]
      refine List.ext_getElem? fun i => ?_
      rcases Nat.lt_or_ge i n with hi | hi
      · simp [hi]
      · rw [List.getElem?_eq_none (by simpa using hi), List.getElem?_eq_none (by simpa using hi)]
    rwa [this] at o3
  have key3 : ∃ r, loopX (fun q : Int × Mm => g21_b3 (meansX F1 ro) ro (.sl ⟨false, B, 0⟩ n (.known n)) u (n : Int) q.1 q.2) (0, ⟨J1, L, L⟩) = some r ∧ ∃ K, Keep h K ∧ ((cntOk z k s n ∧ r = .inl ⟨K, L, L⟩ ∧ Holds K B (out n)) ∨ (¬ cntOk z k s n ∧ r = .inr (.nsl, 4, ⟨K, L, L⟩))) := by
    refine loop_exit n (fun i q => ∃ K, q = ((i : Int), ⟨K, L, L⟩) ∧ Keep J K ∧ K.length = B + 1 ∧ Holds K B (out i) ∧ cntOk z k s i) _ ?_ ?_ n 0 _ (by omega) ⟨J1, rfl, kJ1, lJ1, o3', fun p hp => by omega⟩
    · rintro i q hi ⟨K, rfl, kK, lK, g, hok⟩
      obtain ⟨p1, u1, i1, i2, i3⟩ := at_M mJ (col_get f hi)
      obtain ⟨p2, j1, j2⟩ := at_R i2 (i := 0) (x := f i) rfl
      have j1' : evP .e (.ixS 1 (.c u1) (.c (.i .i64 0))) = some p2 := j1
      have hst := sat_lt (n := (grw z k s).count (lt i)) (m := 1152921504606846976) (by omega)
      have hfi := hfe i hi
      by_cases hc : 1152921504606846976 < (grw z k s).count (lt i)
      · have := hst.2 hc
        exact .inr ⟨_, (by simp only [g21_b3, fB, ltT (show (i : Int) < (n : Int) by omega), cT, i1, oS, (i3 kK).1, j1', (j2 kK).1, eU, iS, hfi, ltT (show (1152921504606846976 : Int) < ((sat ((grw z k s).count (lt i)) : Nat) : Int) by omega)] <;> rfl), K, khJ.trans kK, .inr ⟨fun hall => by have := hall i hi; omega, rfl⟩⟩
      · have hs1 : f i = (grw z k s).count (lt i) := by rw [hfi]; unfold sat; omega
        obtain ⟨K', s1, f1, f2, f3⟩ := g.put (ro := ro) (k := i) (w := .i .i64 (((grw z k s).count (lt i) : Nat) : Int)) (by rw [hout]; simp [hi]) rfl rfl
        have s1' := s1 L L
        rw [show nonp [AVal.i .i64 (((grw z k s).count (lt i) : Nat) : Int)] = true from rfl, cond_true, show min L B = L by omega] at s1'
        refine .inl ⟨_, (by simp only [g21_b3, fB, ltT (show (i : Int) < (n : Int) by omega), cT, i1, oS, (i3 kK).1, j1', (j2 kK).1, eU, iS, hs1, ltF (show ¬ (1152921504606846976 : Int) < (((grw z k s).count (lt i) : Nat) : Int) by omega), cF, fI', lt64 (show (grw z k s).count (lt i) ≤ 9223372036854775807 by omega), ixS_eq (show i < n from hi), s1', pS, nx (show i ≤ 1000000 by omega)] <;> rfl), K', rfl, ⟨by omega, fun t ht => by rw [f3 t (by omega), kK.2 t ht]⟩, by omega, ?_, fun p hp => ?_⟩
        · have : (out i).set i (.i .i64 (((grw z k s).count (lt i) : Nat) : Int)) = out (i + 1) := by
            rw [hout]
            refine setF (fun t ht hne => ?_) fun _ => ?_
            · by_cases e1 : t < i
              · rw [if_pos e1, if_pos (by omega)]
              · rw [if_neg e1, if_neg (by omega)]
            · rw [if_pos (by omega)]
          rwa [this] at f1
        · rcases Nat.lt_or_ge p i with h1 | h1
          · exact hok p h1
          · obtain rfl : p = i := by omega
            omega
    · rintro q ⟨K, rfl, kK, lK, g, hok⟩
      exact ⟨_, (by simp only [g21_b3, fB, ltF (Int.lt_irrefl _), cF] <;> rfl), K, khJ.trans kK, .inl ⟨hok, rfl, g⟩⟩
  obtain ⟨r3, q3, K, kK, q4⟩ := key3
  have e0 : eqI (errY z s (k : Int)) 0 = true := by rw [h0]; rfl
  rcases q4 with ⟨hok, rfl, g⟩ | ⟨hok, rfl⟩
  · have eo : out n = (cntL z k s n).map (AVal.i .i64) := by
      rw [hout]
      unfold cntL
      rw [List.map_map]
      refine List.map_congr_left fun p hp => ?_
      rw [if_pos (List.mem_range.1 hp)]
      rfl
    rw [eo] at g
    rw [e, ← hn, if_pos hok]
    obtain ⟨H', f1, f2, f3⟩ := fin_any (w := .tup [.sl ⟨false, B, 0⟩ n (.known n), .i .i64 0]) kK
    have hbel : (AVal.tup [.sl ⟨false, B, 0⟩ n (.known n), .i .i64 0]).bel h.length = false := by
      have : Nat.blt B h.length = false := by rw [← Bool.not_eq_true, Nat.blt_eq]; omega
      simp [AVal.bel, bels, this]
    obtain rfl := f3 hbel
    refine ⟨_, H', g21_ok (meansX_ok F1 ro) (Ovr.no rfl) (?_ : _ = some (AVal.tup [.sl ⟨false, B, 0⟩ n (.known n), .i .i64 0], H', h.length, h.length)), kK, g.row (by simp [cntL])⟩
    unfold g21
    rw [← hL] at c47 f1 ⊢
    simp only [mC, c47, pS, x0, x1, oS, iS, fB, e0, nT, cF, if_pos h0, len_S a, ← hn, hm1, len_sl, meansX_loop, q0, len_str, q1, c55', q2, hm3, hlu, q3, tA2]
    exact f1
  · rw [e, ← hn, if_neg hok]
    refine ⟨.nsl, h, g21_ok (meansX_ok F1 ro) (Ovr.no rfl) ?_, Keep.refl _, .inl ⟨rfl, rfl⟩⟩
    unfold g21
    rw [← hL] at c47 ⊢
    simp only [mC, c47, pS, x0, x1, oS, iS, fB, e0, nT, cF, if_pos h0, len_S a, ← hn, hm1, len_sl, meansX_loop, q0, len_str, q1, c55', q2, hm3, hlu, q3, tA2]
    subst hL
    exact fin_keep kK rfl
theorem law3 {v : AVal} {z : List (List UInt8)} {s : List UInt8} {y : Int} (hA : ∀ h, callX F1 ro 16 [] h = some (.b true, h, h.length, h.length)) (a : IsS ro h v z) :
    callX F1 ro 3 [v, .s s, .i .i64 y] h = some (.b true, h, h.length, h.length) := by
  refine g3_ok (meansX_ok F1 ro) (Ovr.no rfl) ?_
  unfold g3
  simp only [mC, cp0 (few15 (s := s) a), pS, bS, fB]
  by_cases hf : fewB z s
  rotate_left
  · simp only [dF hf, nF, cT, cp0 (hA h), pS, bS, tA]
    exact fin_pure rfl
  have hf' := fewB_len hf
  obtain ⟨w1, H1, c1, k1, r1⟩ := parts21 (ro := ro) (s := s) (y := y) a hf'
  have a1 := S_by a k1
  obtain ⟨w2, H2, c2, k2, r2⟩ := parts22 (ro := ro) (s := s) (y := y) a1 hf'
  have l1 := k1.1
  have l2 := k2.1
  have hbl : (partsV z s y).1.length ≤ 1000000 := by have := partsV_len z s y; have := hf'.1; omega
  have c1' := cM c1 (Nat.le_refl _) (Nat.le_refl _)
  have c2' := cM (l := h.length) (p := h.length) c2 l1 l1
  have c3 := cp (l := h.length) (p := h.length) (same23 (ro := ro) (row_by r1 k2) r2 hbl) (by omega) (by omega)
  have c6 := cp (l := h.length) (p := h.length) (hA H2) (by omega) (by omega)
  simp only [dT hf, nT, cF, cp0 (grow17 (y := y) a hf'), cp0 (grow18 (y := y) a hf'), cp0 (long19 (y := y) a hf'), cp0 (long20 (y := y) a hf'), pS, x0, x1, oS, sS, iS, strNe, decide_true, bS, eqI_self, c1', c2', c3, cT, c6, tA]
  exact fin_keep (k1.trans k2) rfl
end
end Go.Proofs.Ytfohppnelbbepaa.T
/- The bridge, alive known -/
open Go.Vm
set_option linter.unusedVariables false
set_option linter.unusedSectionVars false
namespace Go.Proofs.Ytfohppnelbbepaa.T
open Go Go.RowKit Go.Deep Go.WideShapes Go.ChangeShapes
attribute [local instance] ovA
theorem aliveA {ro : List ABlk} (h : Heap) : callX F1 ro 16 [] h = some (.b true, h, h.length, h.length) := callX_ov rfl
theorem call_ofA {W : World} {ro : List ABlk} {rl : Rl} (hE : (Env.mk Try.prog W.heap.size W ro rl).Ok) {K : Nat} {vs : List AVal} {args : Array Value}
    (hv : LR rl [] vs args) {h' : Heap} {lw lp : Nat} (hc : callX F1 ro K vs [] = some (.b true, h', lw, lp)) : Calls Try.prog K args W fun e W' => e = .returned (.bool true) ∧ Below W.heap.size W W' :=
  call_of hE (alive_known hE (Try.checked.mixed) fok) hv hc
theorem exC {ro : List ABlk} {k : Nat} {l : List AVal} {h : Heap} {n m : Nat} {H : Heap} (e : callX F1 ro k l h = some (.b true, H, n, m)) : ∃ h' lw lp, callX F1 ro k l h = some (.b true, h', lw, lp) := ⟨_, _, _, e⟩
end Go.Proofs.Ytfohppnelbbepaa.T

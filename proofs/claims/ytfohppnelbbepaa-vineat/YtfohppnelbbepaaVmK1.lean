/- Contracts of the functions: what each of them answers. -/
import Derived.Test.YtfohppnelbbepaaVmK0
import Derived.Test.YtfohppnelbbepaaVmAG
/- Factors -/
open Go.Vm
set_option linter.unusedVariables false
set_option linter.unusedSectionVars false
namespace Go.Proofs.Ytfohppnelbbepaa.T
open Go
variable [Ovr]

/-- how many windows, and the error -/
noncomputable def factV (z : List (List UInt8)) (s : List UInt8) (x : Int) : Int × Int := if errU z s ≠ 0 then (0, errU z s) else if x < 1 ∨ 10 < x then (0, 2) else ((factN z (ix (s.getD 0 0)) x.toNat : Int), 0)
section
variable {ro : List ABlk} {h hp : Heap}
set_option maxHeartbeats 2000000 in
theorem factors38 {v : AVal} {z : List (List UInt8)} {s : List UInt8} {x : Int} (a : IsS ro h v z) (hz : z.length ≤ 1000000) (hf : ∀ i, i < z.length → (z.getD i []).length ≤ 1000000) (hs : s.length ≤ 1000000) :
    callX F1 ro 38 [v, .s s, .i .i64 x] h = some (.tup [.i .i64 (factV z s x).1, .i .i64 (factV z s x).2], h, h.length, h.length) := by
  refine g38_ok (meansX_ok F1 ro) (Ovr.no rfl) ?_
  unfold g38
  have c74 := readBud74 (ro := ro) (h := h) a hz hf hs
  simp only [mC, cp0 c74, pS, x0, x1, x2, oS, iS, fB]
  by_cases he : errU z s = 0
  rotate_left
  · have e1 : factV z s x = (0, errU z s) := by unfold factV; rw [if_pos he]
    simp only [eqI_ne he, nF, cT, e1, tA2]
    exact fin_pure2 rfl rfl
  obtain ⟨vok, hs1, hhs, hbud⟩ := errU_ok he
  simp only [he, eqI_self, nT, cF, if_true]
  by_cases hx1 : x < 1
  · have e1 : factV z s x = (0, 2) := by unfold factV; rw [if_neg (by simp [he]), if_pos (.inl hx1)]
    simp only [ltT hx1, cT, oS, e1, tA2]
    exact fin_pure2 rfl rfl
  by_cases hx2 : 10 < x
  · have e1 : factV z s x = (0, 2) := by unfold factV; rw [if_neg (by simp [he]), if_pos (.inr hx2)]
    simp only [ltF hx1, cF, ltT hx2, cT, oS, e1, tA2]
    exact fin_pure2 rfl rfl
  obtain ⟨n, rfl⟩ : ∃ n : Nat, x = (n : Int) := ⟨x.toNat, by omega⟩
  obtain ⟨b, hb⟩ : ∃ b, b = ix (s.getD 0 0) := ⟨_, rfl⟩
  have hBud : BudOk z b := ⟨vok, by rw [hb]; exact ix_lt (hhs 0 (by omega)), by rw [hb]; exact hbud⟩
  have e1 : factV z s (n : Int) = ((factN z b n : Int), 0) := by
    unfold factV
    rw [if_neg (by simp [he]), if_neg (by omega), Int.toNat_natCast, hb]
  rw [← hb, e1]
  simp only [ltF hx1, cF, ltF hx2, oS]
  obtain ⟨N, hN⟩ : ∃ N, N = h.length := ⟨_, rfl⟩
  have b1 := al_ok (ro := ro) (hp := h) (l := N) (p := N) 52 [AVal.nsl]
  obtain ⟨H1, hH1⟩ : ∃ H1, H1 = h ++ [some (blkOf 52 [AVal.nsl])] := ⟨_, rfl⟩
  rw [← hH1, ← hN] at b1
  have l1 : H1.length = N + 1 := by rw [hH1, hN]; simp
  have k1 : Keep h H1 := by rw [hH1]; exact Keep.app _
  have o1 : Holds H1 N [.nsl] := by rw [hH1, hN]; exact Holds.new _ _ _
  have c75 := endless75 (ro := ro) (h := H1) (v := v) (x := (b : Int)) (cells_S a)
  obtain ⟨H2, hH2⟩ : ∃ H2, H2 = H1 ++ [some (blkOf 55 [v]), some (blkOf 3 [.i .i64 (b : Int)])] := ⟨_, rfl⟩
  rw [← hH2] at c75
  have l2 : H2.length = N + 3 := by rw [hH2]; simp [l1]
  have k2 : Keep H1 H2 := by rw [hH2]; exact Keep.app _
  have nb : ∀ (j e : Nat) (x : AVal), (∀ blk, blk = blkOf e [x] → H2[N + 1 + j]? = some (some blk)) → Holds H2 (N + 1 + j) [x] := fun j e x hx => ⟨blkOf e [x], by rw [lget_eq]; exact hx _ rfl, rfl, fun i _ => get_blk e [x] i⟩
  have x0' : Holds H2 (N + 1 + 0) [v] := nb 0 55 v fun blk e => by rw [e, hH2, List.getElem?_append_right (by omega)]; simp [l1]
  have x1' : Holds H2 (N + 1 + 1) [.i .i64 (b : Int)] := nb 1 3 _ fun blk e => by rw [e, hH2, List.getElem?_append_right (by omega)]; simp [l1]
  rw [l1] at c75
  have one : ∀ t, g38_P0 (.p (some ⟨false, N, 0⟩)) t → ∃ K' lw lp, callX F1 ro 98 [.yld (N + 3), .p (some ⟨false, N + 1, 0⟩), .p (some ⟨false, N + 1 + 1, 0⟩)] (H2 ++ [some (recB t [35, 36] k38a0 k38c0)]) = some (tupA [], K', lw, lp) ∧ N ≤ lw ∧ N ≤ lp ∧ Keep h K' ∧ RecAt K' (N + 3) ⟨t, [35, 36], k38a0, k38c0⟩ .ready none ∧ ∃ u, Holds K' N [u] ∧ RowG K' (N + 4) 5 u ((wrd z b 100000).map bv) := fun t ht => by
    obtain ⟨K0, hK0⟩ : ∃ K0, K0 = H2 ++ [some (recB t [35, 36] k38a0 k38c0)] := ⟨_, rfl⟩
    have lK : K0.length = N + 4 := by rw [hK0]; simp [l2]
    have kK : Keep H2 K0 := by rw [hK0]; exact Keep.app _
    have rK : RecAt K0 (N + 3) ⟨t, [35, 36], k38a0, k38c0⟩ .ready none := ⟨recB t [35, 36] k38a0 k38c0, by rw [hK0, ← l2]; exact lget_last _ _, rfl⟩
    obtain ⟨C, hC⟩ : ∃ C : Nat → (Nat → Prop) → Heap → Prop, C = fun i S K => N + 4 ≤ K.length ∧ ∃ u, Holds K N [u] ∧ RowG K (N + 4) 5 u ((wrd z b i).map bv) ∧ RecAt K (N + 3) ⟨t, [35, 36], k38a0, k38c0⟩ .ready none ∧ ∀ j, S j ↔ j = N ∨ j = N + 3 ∨ rb u = some j := ⟨_, rfl⟩
    have cons : ConsE ro (N + 3) N N (letE z b) C (fun _ _ => False) := by
      refine ⟨fun {i S K} hc hi => ?_, fun {i S K K'} hc hf => ?_, fun {S K K'} hc _ => hc, fun {i S K} hc j hj => ?_, fun {S K} hc => hc.elim⟩
      · rw [hC] at hc
        obtain ⟨hK, u, g1, g2, g3, g4⟩ := hc
        obtain ⟨blk, e1, e2⟩ := g3
        obtain ⟨Ka, q1, q2, q3, q4⟩ := RecAt.begin (⟨blk, e1, e2⟩ : RecAt K (N + 3) ⟨t, [35, 36], k38a0, k38c0⟩ .ready none)
        have ga : Holds Ka N [u] := g1.keep (q4 _ (by omega))
        have gr : RowG Ka (N + 4) 5 u ((wrd z b i).map bv) := g2.by fun b' hb' => q4 _ (by have := (g2.holds hb').2.1; omega)
        have hwl : (wrd z b i).length = i := by simp [wrd]
        obtain ⟨K2, K3, l', p', s1, s2, g4', n2, n3, o3, b3, b5, b6⟩ := gr.push (ro := ro) (l := min K.length (N + 3)) (p := K.length) (bytes := 1) (z := AVal.i IntKind.u8 0) (w := bv (letE z b i)) (by omega) (by rw [List.length_map]; omega) (by omega) rfl rfl
        have hNu : rb u ≠ some N := fun e => by have := (g2.holds e).2.1; omega
        obtain ⟨K4, t1, t2, t3, t4⟩ := (ga.keep (o3 N (by omega) hNu)).set1 (ro := ro) (w := .sl ⟨false, Ka.length + 1, 0⟩ (((wrd z b i).map bv).length + 1) .grow) rfl rfl
        have t1' := t1 l' p'
        rw [show nonp [AVal.sl ⟨false, Ka.length + 1, 0⟩ (((wrd z b i).map bv).length + 1) .grow] = false from rfl, cond_false] at t1'
        have rec4 : RecAt K4 (N + 3) ⟨t, [35, 36], k38a0, k38c0⟩ .busy none := (q2.keep (o3 _ (by omega) fun e => by have := (g2.holds e).2.1; omega)).keep (t4 _ (by omega))
        obtain ⟨K5, w1, w2, w3, w4⟩ := rec4.done .norm
        have b3' := b3 N (by omega) (by omega) (by omega)
        have hgc : gc K.length (.b AExit.norm.on) ⟨.e, K5, min (min l' N) (N + 3), min p' N⟩ = (.b true, K5, min (min l' N) (N + 3), min p' N) := by
          have : (Nat.ble K.length (min p' N) && (AVal.b AExit.norm.on).bel K.length) = false := by
            rw [Bool.and_eq_false_iff]; left
            rw [← Bool.not_eq_true, Nat.ble_eq]; omega
          simp only [gc, this]
          rfl
        refine ⟨true, K5, min (min l' N) (N + 3), min p' N, fun j => j = N ∨ j = N + 3 ∨ j = Ka.length + 1, g38_r0_ok (meansX_ok F1 ro) e1 e2 ht ?_, by omega, by omega, fun _ => ?_, fun e => (by cases e), by omega, .inl (by omega), fun j hj hn => ?_, fun j hj => ?_⟩
        · unfold g38_r0
          simp only [q1, oS, ga.ld1, s1, pS, s2, t1', w1, hgc]
        · rw [hC]
          refine ⟨by omega, _, t2.keep (w4 _ (by omega)), ?_, w2, fun j => ?_⟩
          · rw [wrd_succ, List.map_append]
            exact g4'.by fun b' hb' => by
              have e5 : Ka.length + 1 = b' := by simpa [rb] using hb'
              rw [w4 _ (by omega), t4 _ (by omega)]
          · simp only [rb, Option.some.injEq]
            constructor
            · rintro (h | h | h)
              · exact .inl h
              · exact .inr (.inl h)
              · exact .inr (.inr h.symm)
            · rintro (h | h | h)
              · exact .inl h
              · exact .inr (.inl h)
              · exact .inr (.inr h.symm)
        · have hn' := fun h => hn ((g4 j).2 h)
          have h1 : j ≠ N := fun e => hn' (.inl e)
          have h2 : j ≠ N + 3 := fun e => hn' (.inr (.inl e))
          have h3 : rb u ≠ some j := fun e => hn' (.inr (.inr e))
          rw [w4 j h2, t4 j h1, o3 j (by omega) h3, q4 j h2]
        · rcases hj with h | h | h
          · exact .inl ((g4 j).2 (.inl h))
          · exact .inl ((g4 j).2 (.inr (.inl h)))
          · exact .inr (by omega)
      · rw [hC] at hc ⊢
        obtain ⟨hK, u, g1, g2, g3, g4⟩ := hc
        have n1 := hf N ((g4 N).2 (.inl rfl))
        have n2 := hf (N + 3) ((g4 _).2 (.inr (.inl rfl)))
        have r3 := g3.keep n2
        have r1 := g1.keep n1
        exact ⟨by have := r3.lt; omega, u, r1, g2.by fun b' hb' => hf _ ((g4 _).2 (.inr (.inr hb'))), r3, g4⟩
      · rw [hC] at hc
        obtain ⟨hK, u, g1, g2, g3, g4⟩ := hc
        rcases (g4 j).1 hj with h | h | h
        · omega
        · omega
        · exact (g2.holds h).1.lt
    have hC0 : C 0 (fun j => j = N ∨ j = N + 3) K0 := by
      rw [hC]
      exact ⟨by omega, .nsl, (o1.by k2).by kK, RowG.nil _ _ _, rK, fun j => by simp [rb]⟩
    obtain ⟨K', lw, lp, S', t1, t2, t3, t4, t5, t6, t7⟩ := endless98 (ro := ro) (z := z) (b := b) (rbk := N + 3) (rx := N + 1) (px := N + 1 + 1) (L0 := N) (Lc := N) (hB := h) (K0 := K0) (S0 := fun j => j = N ∨ j = N + 3) hBud a ((k1.trans k2).trans kK) (x0'.by kK) (x1'.by kK) (by omega) (fun j hj => by omega) (by omega) (by omega) cons hC0
    rcases t4 with t4 | t4
    · rw [hC] at t4
      obtain ⟨hK, u, g1, g2, g3, g4⟩ := t4
      refine ⟨K', lw, lp, by rw [← hK0]; exact t1, t2, t3, ⟨by omega, fun i hi => ?_⟩, g3, u, g1, g2⟩
      rw [t6 i (by omega) (by omega), kK.2 i (by omega), k2.2 i (by omega), k1.2 i hi]
    · exact t4.elim
  have c75' := callM_of (a := N) (b := N) c75
  rw [show min N (N + 1) = N by omega] at c75'
  simp only [← hN, b1, pS, mC, c75']
  refine rngK_eq (t := Tr.e.set 11 (.p (some ⟨false, N, 0⟩))) ⟨trivial, by simp⟩ fun t ht => ?_
  obtain ⟨K', lw, lp, t1, t2, t3, t4, t5, u, g1, g2⟩ := one t ht
  have hN5 : N + 3 < K'.length := t5.lt
  have e2 := t5.ended (by decide)
  have kJ : Keep h (lset none K' (N + 3)) := by rw [lset_eq]; exact t4.set (by omega) none
  obtain ⟨J, hJ⟩ : ∃ J, J = lset none K' (N + 3) := ⟨_, rfl⟩
  have lJ : J.length = K'.length := by rw [hJ, lset_eq]; simp
  have o1' : Holds J N [u] := g1.keep (by rw [hJ, lset_eq]; exact List.getElem?_set_ne (by omega))
  have o2' : RowG J (N + 4) 5 u ((wrd z b 100000).map bv) := g2.by fun b' hb' => by rw [hJ, lset_eq]; exact List.getElem?_set_ne (by have := (g2.holds hb').2.1; omega)
  rw [← hJ] at e2 kJ
  refine ⟨(.norm, ⟨J, N, N⟩), ?_, ?_⟩
  · unfold rngT rngA
    simp only [List.nil_append, List.cons_append, l2, t1, e2]
    show some (AExit.norm, (⟨J, min (min N lw) (N + 3), min N lp⟩ : Mm)) = _
    rw [show min (min N lw) (N + 3) = N by omega, show min N lp = N by omega]
  · simp only [onE]
    obtain ⟨J1, m1, m2, m3, m4⟩ := mkm_ok (ro := ro) (K := J) (l := N) (p := N)
    have hwl : (wrd z b 100000).length = 100000 := by simp [wrd]
    have key : ∃ r, loopX (fun q : Int × Mm => g38_b1 (meansX F1 ro) ro (n : Int) (.p (some ⟨false, N, 0⟩)) (.mp J.length) q.1 q.2) ((n : Int), ⟨J1, N, N⟩) = some r ∧ ∃ K, r = ⟨K, N, N⟩ ∧ MapAt K J.length ((winsF (wrd z b 100000) n (100001 - n)).foldl addK []) ∧ K.length = J1.length ∧ ∀ i, i ≠ J.length → K[i]? = J1[i]? := by
      refine loop_gen (100001 - n) (fun k q => ∃ K, q = (((n + k : Nat) : Int), ⟨K, N, N⟩) ∧ MapAt K J.length ((winsF (wrd z b 100000) n k).foldl addK []) ∧ K.length = J1.length ∧ ∀ i, i ≠ J.length → K[i]? = J1[i]?) _ ?_ ?_ (100001 - n) 0 _ (by omega) ⟨J1, rfl, m2, rfl, fun _ _ => rfl⟩
      · rintro k q hk ⟨K, rfl, f1, f2, f3⟩
        have kN : K[N]? = J[N]? := by rw [f3 N (by omega), m3.2 N (by omega)]
        have oN := o1'.keep kN
        have gK : RowG K (N + 4) 5 u ((wrd z b 100000).map bv) := o2'.by fun b' hb' => by
          have := (o2'.holds hb').1.lt
          rw [f3 b' (by omega), m3.2 b' (by omega)]
        have hln : evP .e (.len false (.c u)) = some (.i .i64 ((100000 : Nat) : Int)) := by
          rcases gK with ⟨-, e⟩ | ⟨b', blk, e, -⟩
          · have := congrArg List.length e; simp [hwl] at this
          · rw [e]
            have := len_sl (q := ⟨false, b', 0⟩) (n := ((wrd z b 100000).map bv).length) (c := .grow)
            rw [List.length_map, hwl] at this
            rw [List.length_map, hwl]; exact this
        obtain ⟨w, w1, w2⟩ := win_row (ro := ro) (l := N) (p := N) gK (lo := k) (hi := n + k) (by omega) (by omega)
        obtain ⟨K', y1, y2, y3, y4⟩ := f1.up (ro := ro) (l := N) (p := N) (s := ((wrd z b 100000).take (n + k)).drop k)
        rw [show min N J.length = N by omega] at y1
        have e3 : wr .i64 (((n + k : Nat) : Int) - (n : Int)) = (k : Int) := by rw [wr_id' (by omega) (by omega)]; omega
        refine ⟨_, (by simp only [g38_b1, oN.ld1, oS, hln, iS, fB, ltF (show ¬ ((100000 : Nat) : Int) < ((n + k : Nat) : Int) by omega), nF, cT, fI', e3, w1, w2, sS, y1, pS, nx (show n + k ≤ 1000000 by omega)] <;> rfl), K', rfl, ?_, by omega, fun i hi => by rw [y4 i hi, f3 i hi]⟩
        show MapAt K' J.length ((winsF (wrd z b 100000) n k ++ [_]).foldl addK [])
        rw [List.foldl_append]
        exact y2
      · rintro q ⟨K, rfl, f1, f2, f3⟩
        have kN : K[N]? = J[N]? := by rw [f3 N (by omega), m3.2 N (by omega)]
        have oN := o1'.keep kN
        have gK : RowG K (N + 4) 5 u ((wrd z b 100000).map bv) := o2'.by fun b' hb' => by
          have := (o2'.holds hb').1.lt
          rw [f3 b' (by omega), m3.2 b' (by omega)]
        have hln : evP .e (.len false (.c u)) = some (.i .i64 ((100000 : Nat) : Int)) := by
          rcases gK with ⟨-, e⟩ | ⟨b', blk, e, -⟩
          · have := congrArg List.length e; simp [hwl] at this
          · rw [e]
            have := len_sl (q := ⟨false, b', 0⟩) (n := ((wrd z b 100000).map bv).length) (c := .grow)
            rw [List.length_map, hwl] at this
            rw [List.length_map, hwl]; exact this
        exact ⟨_, (by simp only [g38_b1, oN.ld1, oS, hln, iS, fB, ltT (show ((100000 : Nat) : Int) < ((n + (100001 - n) : Nat) : Int) by omega), nT, cF] <;> rfl), K, rfl, f1, f2, f3⟩
    obtain ⟨r, q1, K, rfl, f1, f2, f3⟩ := key
    simp only [m1, pS, meansX_loop, q1, oS, f1.len, iS, tA2]
    have kK : Keep h K := ⟨by have := kJ.1; omega, fun i hi => by rw [f3 i (by have := kJ.1; omega), m3.2 i (by have := kJ.1; omega), kJ.2 i hi]⟩
    subst hN
    exact fin_keep kK rfl
end
end Go.Proofs.Ytfohppnelbbepaa.T

/- Thue and Morse -/
open Go.Vm
set_option linter.unusedVariables false
set_option linter.unusedSectionVars false
namespace Go.Proofs.Ytfohppnelbbepaa.T
open Go
variable [Ovr]

/- how many different ones there are -/
section
variable {α : Type} [DecidableEq α]
theorem addK_mem {ks : List α} {s x : α} : x ∈ addK ks s ↔ x ∈ ks ∨ x = s := by
  unfold addK
  split
  · rename_i h
    exact ⟨.inl, fun e => by rcases e with e | e; exact e; rw [e]; exact h⟩
  · simp
theorem addK_nodup {ks : List α} {s : α} (h : ks.Nodup) : (addK ks s).Nodup := by
  unfold addK
  split
  · exact h
  · rename_i hn
    rw [List.nodup_append]
    exact ⟨h, by simp, fun a ha b hb e => by simp only [List.mem_singleton] at hb; rw [e, hb] at ha; exact hn ha⟩
theorem foldK : ∀ (l ks : List α), ks.Nodup → (l.foldl addK ks).Nodup ∧ ∀ x, x ∈ l.foldl addK ks ↔ x ∈ ks ∨ x ∈ l
  | [], ks, h => ⟨h, fun x => by simp⟩
  | s :: l, ks, h => by
    obtain ⟨h1, h2⟩ := foldK l (addK ks s) (addK_nodup h)
    refine ⟨h1, fun x => ?_⟩
    rw [List.foldl_cons, h2 x, addK_mem, List.mem_cons]
    constructor
    · rintro ((h | h) | h)
      · exact .inl h
      · exact .inr (.inl h)
      · exact .inr (.inr h)
    · rintro (h | h | h)
      · exact .inl (.inl h)
      · exact .inl (.inr h)
      · exact .inr h
theorem nodup_le : ∀ {l m : List α}, l.Nodup → (∀ x ∈ l, x ∈ m) → l.length ≤ m.length
  | [], m, _, _ => Nat.zero_le _
  | a :: l, m, h, hs => by
    rw [List.nodup_cons] at h
    have ha := hs a List.mem_cons_self
    have := nodup_le (l := l) (m := m.erase a) h.2 fun x hx => (List.mem_erase_of_ne (fun e => by rw [e] at hx; exact h.1 hx)).2 (hs x (List.mem_cons_of_mem _ hx))
    have e := List.length_erase_of_mem ha
    have : 0 < m.length := List.length_pos_of_mem ha
    simp only [List.length_cons]
    omega
theorem dis_eq {l m : List α} (hm : m.Nodup) (h : ∀ x, x ∈ l ↔ x ∈ m) : (l.foldl addK []).length = m.length := by
  obtain ⟨h1, h2⟩ := foldK l [] List.nodup_nil
  refine Nat.le_antisymm (nodup_le h1 fun x hx => ?_) (nodup_le hm fun x hx => ?_)
  · rcases (h2 x).1 hx with h' | h'
    · cases h'
    · exact (h x).1 h'
  · exact (h2 x).2 (.inr ((h x).2 hx))
end
theorem winsF_mem {s w : List UInt8} {n : Nat} : ∀ {m : Nat}, w ∈ winsF s n m ↔ ∃ k, k < m ∧ w = (s.take (n + k)).drop k
  | 0 => ⟨fun h => (by cases h), fun ⟨k, h, _⟩ => (by omega)⟩
  | m + 1 => by
    show w ∈ winsF s n m ++ [_] ↔ _
    rw [List.mem_append, winsF_mem, List.mem_singleton]
    constructor
    · rintro (⟨k, h1, h2⟩ | h)
      · exact ⟨k, by omega, h2⟩
      · exact ⟨m, by omega, h⟩
    · rintro ⟨k, h1, h2⟩
      by_cases e : k = m
      · subst e; exact .inr h2
      · exact .inl ⟨k, by omega, h2⟩
theorem wrd_take {z : List (List UInt8)} {b n k : Nat} (h : k ≤ n) : (wrd z b n).take k = wrd z b k := by
  unfold wrd
  rw [← List.map_take, List.take_range, Nat.min_eq_left h]
theorem wrd_win (z : List (List UInt8)) (b k : Nat) : ∀ m, (wrd z b (k + m)).drop k = (List.range m).map fun j => letE z b (k + j)
  | 0 => by rw [List.drop_of_length_le (by simp [wrd])]; rfl
  | m + 1 => by
    rw [← Nat.add_assoc, wrd_succ, List.drop_append_of_le_length (by simp [wrd]), wrd_win z b k m, List.range_succ, List.map_append]
    rfl
/- the word of Thue and Morse -/
theorem shootE_pre (z : List (List UInt8)) (b : Nat) {i k : Nat} (hk : k < (shootE z b i).length) : ∀ j, (shootE z b (i + j)).getD k 0 = (shootE z b i).getD k 0 ∧ k < (shootE z b (i + j)).length
  | 0 => ⟨rfl, hk⟩
  | j + 1 => by
    obtain ⟨h1, h2⟩ := shootE_pre z b hk j
    have e : shootE z b (i + j + 1) = shootE z b (i + j) ++ z.getD (ix ((shootE z b (i + j)).getD (i + j + 1) 0)) [] := rfl
    refine ⟨?_, ?_⟩
    · show (shootE z b (i + j + 1)).getD k 0 = _
      rw [← h1, e, List.getD_eq_getElem?_getD, List.getElem?_append_left h2, ← List.getD_eq_getElem?_getD]
    · show k < (shootE z b (i + j + 1)).length
      rw [e, List.length_append]; omega
abbrev zT : List (List UInt8) := [[97, 98], [98, 97]]
theorem zT_two {x : UInt8} (h : x = 97 ∨ x = 98) : ∃ a b : UInt8, zT.getD (ix x) [] = [a, b] ∧ a ≠ b ∧ (a = 97 ∨ a = 98) ∧ (b = 97 ∨ b = 98) := by
  rcases h with rfl | rfl
  · exact ⟨97, 98, rfl, by decide, .inl rfl, .inr rfl⟩
  · exact ⟨98, 97, rfl, by decide, .inr rfl, .inl rfl⟩
theorem zT_len : ∀ i, (shootE zT 0 i).length = 2 * (i + 1) ∧ ∀ x ∈ shootE zT 0 i, x = 97 ∨ x = 98
  | 0 => ⟨rfl, fun x hx => by
    have : x ∈ ([97, 98] : List UInt8) := hx
    simpa using this⟩
  | i + 1 => by
    obtain ⟨h1, h2⟩ := zT_len i
    have e : shootE zT 0 (i + 1) = shootE zT 0 i ++ zT.getD (ix ((shootE zT 0 i).getD (i + 1) 0)) [] := rfl
    have hm : (shootE zT 0 i).getD (i + 1) 0 ∈ shootE zT 0 i := by
      have : i + 1 < (shootE zT 0 i).length := by omega
      rw [List.getD_eq_getElem?_getD, List.getElem?_eq_getElem this]
      exact List.getElem_mem this
    obtain ⟨a, b, e1, -, ha, hb⟩ := zT_two (h2 _ hm)
    rw [e, e1]
    refine ⟨by rw [List.length_append, h1]; simp; omega, fun x hx => ?_⟩
    rcases List.mem_append.1 hx with hx | hx
    · exact h2 x hx
    · simp only [List.mem_cons, List.not_mem_nil, or_false] at hx
      rcases hx with rfl | rfl
      · exact ha
      · exact hb
theorem zT_let (i : Nat) : letE zT 0 i = 97 ∨ letE zT 0 i = 98 := by
  obtain ⟨h1, h2⟩ := zT_len i
  have : i < (shootE zT 0 i).length := by omega
  unfold letE
  rw [List.getD_eq_getElem?_getD, List.getElem?_eq_getElem this]
  exact h2 _ (List.getElem_mem this)
theorem zT_pair : ∀ i, letE zT 0 (2 * i) ≠ letE zT 0 (2 * i + 1)
  | 0 => by decide
  | i + 1 => by
    obtain ⟨h1, h2⟩ := zT_len i
    have e : shootE zT 0 (i + 1) = shootE zT 0 i ++ zT.getD (ix ((shootE zT 0 i).getD (i + 1) 0)) [] := rfl
    have hm : (shootE zT 0 i).getD (i + 1) 0 ∈ shootE zT 0 i := by
      have : i + 1 < (shootE zT 0 i).length := by omega
      rw [List.getD_eq_getElem?_getD, List.getElem?_eq_getElem this]
      exact List.getElem_mem this
    obtain ⟨a, b, e1, hab, -, -⟩ := zT_two (h2 _ hm)
    rw [e1] at e
    have hl := (zT_len (i + 1)).1
    have p1 := (shootE_pre zT 0 (i := i + 1) (k := 2 * (i + 1)) (by omega) (i + 1)).1
    have p2 := (shootE_pre zT 0 (i := i + 1) (k := 2 * (i + 1) + 1) (by omega) (i + 2)).1
    have q1 : letE zT 0 (2 * (i + 1)) = a := by
      unfold letE
      rw [show 2 * (i + 1) = i + 1 + (i + 1) by omega] at p1 ⊢
      rw [p1, e, List.getD_eq_getElem?_getD, List.getElem?_append_right (by omega), h1, show i + 1 + (i + 1) - 2 * (i + 1) = 0 by omega]
      rfl
    have q2 : letE zT 0 (2 * (i + 1) + 1) = b := by
      unfold letE
      rw [show 2 * (i + 1) + 1 = i + 1 + (i + 2) by omega] at p2 ⊢
      rw [p2, e, List.getD_eq_getElem?_getD, List.getElem?_append_right (by omega), h1, show i + 1 + (i + 2) - 2 * (i + 1) = 1 by omega]
      rfl
    rw [q1, q2]; exact hab
def m6 : List (List UInt8) := [[97, 98, 98], [98, 98, 97], [98, 97, 98], [97, 98, 97], [98, 97, 97], [97, 97, 98]]
theorem zT_win {k : Nat} (hk : 3 + k ≤ 100000) : ((wrd zT 0 100000).take (3 + k)).drop k = [letE zT 0 k, letE zT 0 (k + 1), letE zT 0 (k + 2)] := by
  rw [wrd_take hk, Nat.add_comm 3 k, wrd_win]; rfl
theorem factTM : factN zT 0 3 = 6 := by
  have : (6 : Nat) = m6.length := rfl
  unfold factN
  rw [this]
  refine dis_eq (by decide) fun w => ?_
  rw [winsF_mem]
  constructor
  · rintro ⟨k, hk, rfl⟩
    rw [zT_win (by omega)]
    have a0 := zT_let k
    have a1 := zT_let (k + 1)
    have a2 := zT_let (k + 2)
    have hne : letE zT 0 k ≠ letE zT 0 (k + 1) ∨ letE zT 0 (k + 1) ≠ letE zT 0 (k + 2) := by
      rcases Nat.mod_two_eq_zero_or_one k with h | h
      · have := zT_pair (k / 2)
        rw [show 2 * (k / 2) = k by omega] at this
        exact .inl this
      · have := zT_pair ((k + 1) / 2)
        rw [show 2 * ((k + 1) / 2) = k + 1 by omega] at this
        exact .inr this
    generalize letE zT 0 k = x at a0 hne ⊢
    generalize letE zT 0 (k + 1) = y at a1 hne ⊢
    generalize letE zT 0 (k + 2) = w at a2 hne ⊢
    rcases a0 with rfl | rfl <;> rcases a1 with rfl | rfl <;> rcases a2 with rfl | rfl <;> first | decide | (exfalso; rcases hne with h | h <;> exact h rfl)
  · intro hw
    have e : ∀ k, k < 6 → ((wrd zT 0 100000).take (3 + k)).drop k = m6.getD k [] := fun k hk => by
      rw [zT_win (by omega)]
      match k, hk with
      | 0, _ => decide
      | 1, _ => decide
      | 2, _ => decide
      | 3, _ => decide
      | 4, _ => decide
      | 5, _ => decide
    obtain ⟨k, hk, rfl⟩ := List.getElem_of_mem hw
    have hk6 : k < 6 := hk
    exact ⟨k, by omega, by rw [e k hk6]; simp [List.getD, hk]⟩
theorem factV_T : factV zT [97] 3 = (6, 0) := by
  have h0 : errU zT [97] = 0 := by
    have hl : ∀ s : List UInt8, s = [97, 98] ∨ s = [98, 97] ∨ s = [97] → has 2 s := fun s hs => has_mem.2 fun b hb => by
      rcases hs with rfl | rfl | rfl <;> simp only [List.mem_cons, List.not_mem_nil, or_false] at hb
      · rcases hb with rfl | rfl <;> decide
      · rcases hb with rfl | rfl <;> decide
      · subst hb; decide
    have hv : errV zT = 0 := by
      unfold errV
      rw [if_neg (by decide), if_pos]
      intro i hi
      match i, hi with
      | 0, _ => exact ⟨by decide, hl _ (.inl rfl)⟩
      | 1, _ => exact ⟨by decide, hl _ (.inr (.inl rfl))⟩
    unfold errU
    rw [if_neg (by simp [hv]), if_pos ⟨rfl, hl _ (.inr (.inr rfl))⟩, if_pos (by decide)]
  unfold factV
  rw [if_neg (by simp [h0]), if_neg (by decide)]
  have : factN zT (ix (([97] : List UInt8).getD 0 0)) (Int.toNat 3) = 6 := factTM
  rw [this]
  rfl
end Go.Proofs.Ytfohppnelbbepaa.T

/- alive -/
open Go.Vm
set_option linter.unusedVariables false
set_option linter.unusedSectionVars false
namespace Go.Proofs.Ytfohppnelbbepaa.T
open Go
variable [Ovr]

/-- is that the string? -/
def isStr (v : AVal) (l : List UInt8) : Bool := match v with
  | .s s => eqL s l
  | _ => false
theorem isStr_eq {v : AVal} {l : List UInt8} (h : isStr v l = true) : v = .s l := by
  cases v with
  | s s =>
    have h' : eqL s l = true := h
    rw [eqL_dec] at h'
    simp only [decide_eq_true_eq] at h'
    rw [h']
  | _ => cases h
/-- the windows of length 3 of the word of Thue and Morse, known beforehand -/
def knownT : Caller := fun f a h => cond (Nat.beq f 38) (match a with
  | [.sl q n _, .s s, .i .i64 x] => match lget h q.b with
    | some (some blk) => cond (!q.ro && Nat.beq q.off 0 && Nat.beq n 2 && Nat.ble 2 blk.n && isStr (blk.c.get 0) [97, 98] && isStr (blk.c.get 1) [98, 97] && eqL s [97] && eqI x 3) (some (.tup [.i .i64 6, .i .i64 0], h, h.length, h.length)) none
    | _ => none
  | _ => none) none
theorem knownT_le {ro : List ABlk} {f : Nat} {a : List AVal} {h : Heap} {r : AVal × Heap × Nat × Nat} (hr : knownT f a h = some r) : callX F1 ro f a h = some r := by
  unfold knownT at hr
  cases hf : Nat.beq f 38
  · rw [hf] at hr; cases hr
  obtain rfl : f = 38 := Nat.eq_of_beq_eq_true hf
  rw [hf, cond_true] at hr
  split at hr
  rotate_left
  · cases hr
  rename_i q n c s x
  split at hr
  rotate_left
  · cases hr
  rename_i blk hb
  cases hc : (!q.ro && Nat.beq q.off 0 && Nat.beq n 2 && Nat.ble 2 blk.n && isStr (blk.c.get 0) [97, 98] && isStr (blk.c.get 1) [98, 97] && eqL s [97] && eqI x 3)
  · rw [hc] at hr; cases hr
  rw [hc, cond_true] at hr
  cases hr
  simp only [Bool.and_eq_true, Bool.not_eq_true', Nat.ble_eq] at hc
  obtain ⟨⟨⟨⟨⟨⟨⟨c1, c2⟩, c3⟩, c4⟩, c5⟩, c6⟩, c7⟩, c8⟩ := hc
  have d2 := Nat.eq_of_beq_eq_true c2
  have d3 := Nat.eq_of_beq_eq_true c3
  have c5 := isStr_eq c5
  have c6 := isStr_eq c6
  rw [eqL_dec, decide_eq_true_eq] at c7
  rw [eqI_eq, beq_iff_eq] at c8
  subst d3 c7 c8
  obtain ⟨r, b, o⟩ := q
  simp only at c1 d2 hb
  subst c1 d2
  have hS : IsS ro h (.sl ⟨false, b, 0⟩ 2 c) zT := by
    refine .inr ⟨_, _, blk, rfl, rdB_heap hb 0, by show 0 + 2 ≤ _; omega, fun j hj => ?_⟩
    rw [Nat.zero_add]
    match j, hj with
    | 0, _ => exact c5
    | 1, _ => exact c6
  have := factors38 (ro := ro) (h := h) (s := [97]) (x := 3) hS (by decide) (fun i hi => by match i, hi with | 0, _ => decide | 1, _ => decide) (by decide)
  rw [factV_T] at this
  exact this
abbrev FT : Tab := ⟨F, knownT⟩
def okA (o : Option (AVal × Heap × Nat × Nat)) : Bool := match o with
  | some (.b true, _, _, _) => true
  | _ => false
omit [Ovr] in
theorem okA_eq {o : Option (AVal × Heap × Nat × Nat)} (h : okA o = true) : ∃ hp lw lp, o = some (.b true, hp, lw, lp) := by
  unfold okA at h
  split at h
  · exact ⟨_, _, _, rfl⟩
  · cases h
omit [Ovr] in
theorem aliveS : okA (callA FT [] (exec FT [] 200) 16 [] []) = true := by decide +kernel
omit [Ovr] in
theorem aliveT : ∃ hp lw lp, callX FT [] 16 [] [] = some (.b true, hp, lw, lp) := by
  obtain ⟨hp, lw, lp, e⟩ := okA_eq aliveS
  exact ⟨hp, lw, lp, callX_some.2 ⟨200, e⟩⟩
section
variable {E : Env} (hE : E.Ok) (hm : E.P.follows .mixedOrders = true) (hF : FOk E.P F)
include hE hm hF
omit [Ovr] in
theorem knownT_ok : CallOk E knownT := by
  letI : Ovr := ⟨noCall, fun _ => rfl⟩
  exact le_ok (callX_sound hE hm (F := F1) hF noCall_ok) fun f a h r hr => knownT_le hr
omit [Ovr] in
theorem alive_known : CallOk E (known0 16 (.b true)) := by
  obtain ⟨hp, lw, lp, e⟩ := aliveT
  exact known0_ok (callX_sound (E := E.bare) (Env.bare_ok hE) hm (F := FT) hF (knownT_ok (Env.bare_ok hE) hm hF)) e rfl
end
/-- alive is known -/
@[reducible] def ovA : Ovr := ⟨known0 16 (.b true), fun {f a h} e => by
  unfold known0
  cases a with
  | nil => simp only [e, cond_false]
  | cons _ _ => rfl⟩
end Go.Proofs.Ytfohppnelbbepaa.T

/- At -/
open Go.Vm
set_option linter.unusedVariables false
set_option linter.unusedSectionVars false
namespace Go.Proofs.Ytfohppnelbbepaa.T
open Go
variable [Ovr]

section
variable {ro : List ABlk} {h hp : Heap}
/-- two results that have names -/
theorem two_res {K : Heap} {i j : Nat} {x y : AVal} (hij : i ≠ j) (hx : Holds K i [x]) (hy : Holds K j [y]) (s : List UInt8) (e : Int) : ∃ K1 K2, (∀ l p, stepM ro ⟨K, l, p⟩ (.st 1 (.c (.p (some ⟨false, i, 0⟩))) (.c (.s s))) = some (und, ⟨K1, min l i, p⟩)) ∧ (∀ l p, stepM ro ⟨K1, l, p⟩ (.st 1 (.c (.p (some ⟨false, j, 0⟩))) (.c (.i .i64 e))) = some (und, ⟨K2, min l j, p⟩)) ∧
    Holds K2 i [.s s] ∧ Holds K2 j [.i .i64 e] ∧ K2.length = K.length ∧ ∀ t, t ≠ i → t ≠ j → K2[t]? = K[t]? := by
  obtain ⟨K1, a1, a2, a3, a4⟩ := hx.set1 (ro := ro) (w := .s s) rfl rfl
  obtain ⟨K2, b1, b2, b3, b4⟩ := (hy.keep (a4 j (Ne.symm hij))).set1 (ro := ro) (w := .i .i64 e) rfl rfl
  refine ⟨K1, K2, fun l p => ?_, fun l p => ?_, a2.keep (b4 i hij), b2, by omega, fun t h1 h2 => by rw [b4 t h2, a4 t h1]⟩
  · have := a1 l p
    rwa [show nonp [AVal.s s] = true from rfl, cond_true] at this
  · have := b1 l p
    rwa [show nonp [AVal.i .i64 e] = true from rfl, cond_true] at this
/-- one byte, as a string -/
theorem one_str {K : Heap} {l p : Nat} (b : UInt8) : ∃ K', stepM ro ⟨K, l, p⟩ (.bsl 5 1 [(AVal.i IntKind.u8 0)] 1 [((0, 1), .c (bv b))]) = some (.sl ⟨false, K.length, 0⟩ 1 (.known 1), ⟨K', l, p⟩) ∧ btsM ro ⟨K', l, p⟩ (.sl ⟨false, K.length, 0⟩ 1 (.known 1)) = some (.s [b]) ∧ Keep K K' ∧ K'.length = K.length + 1 := by
  refine ⟨K ++ [some (blkOf 5 [bv b])], ?_, ?_, Keep.app _, by simp⟩
  · simp [stepM, stepK, st_bsl, rep, fillA, opd, AVal.cells, splice, newB, St.mm]
  · have hbq : rdB ro (K ++ [some (blkOf 5 [bv b])]) ⟨false, K.length, 0⟩ = some (blkOf 5 [bv b]) := by simp [rdB, lget_eq]
    have hg : (blkOf 5 [bv b]).c.row 0 1 = [b].map bv := row_row 1 0 _ rfl fun j hj => by rw [Nat.zero_add, get_blk]; rfl
    have hble : Nat.ble (0 + 1) (blkOf 5 [bv b]).n = true := rfl
    simp only [btsM, st_bts, Mm.st, hbq, hble, cond_true, hg, bytesA_ok, Option.map_some]
theorem gc_short {K J : Heap} {v : AVal} {a p : Nat} (h : K.length ≤ p) (hv : v.bel K.length = true) : gc K.length v ⟨.e, J, a, p⟩ = (v, J.take K.length, a, p) := by
  have : (Nat.ble K.length p && v.bel K.length) = true := by rw [hv, Bool.and_true, Nat.ble_eq]; exact h
  simp only [gc, this, if_true]
theorem Holds.cut {J : Heap} {b : Nat} {vs : List AVal} {n : Nat} (a : Holds J b vs) (hb : b < n) : Holds (J.take n) b vs := a.keep (by rw [List.getElem?_take, if_pos hb])
theorem RecAt.cut {J : Heap} {b : Nat} {L : LRec} {s : LoopState} {p : Option AExit} {n : Nat} (a : RecAt J b L s p) (hb : b < n) : RecAt (J.take n) b L s p := a.keep (by rw [List.getElem?_take, if_pos hb])
/-- the letter at a place after some years, and the error -/
noncomputable def atV (z : List (List UInt8)) (s : List UInt8) (y x : Int) : List UInt8 × Int := if errY z s y ≠ 0 then ([], errY z s y) else if x < 0 then ([], 4) else if x.toNat < lenS z y.toNat s then ([(grw z y.toNat s).getD x.toNat 0], 0) else ([], 6)
/-- only the first letter is taken -/
def stepF (_ : List UInt8) (b : UInt8) : List UInt8 × Bool := ([b], false)
theorem feedF : ∀ (l : List UInt8), feed stepF l [] = (l.take 1, l.isEmpty)
  | [] => rfl
  | b :: l => rfl
set_option maxHeartbeats 2000000 in
theorem at24 {v : AVal} {z : List (List UInt8)} {s : List UInt8} {y x : Int} (a : IsS ro h v z) (hf : z.length ≤ 1000000 ∧ (∀ i, i < z.length → (z.getD i []).length ≤ 1000000) ∧ s.length ≤ 1000000) (hx : x ≤ 9223372036854775807) :
    callX F1 ro 24 [v, .s s, .i .i64 y, .i .i64 x] h = some (.tup [.s (atV z s y x).1, .i .i64 (atV z s y x).2], h, h.length, h.length) := by
  obtain ⟨N, hN⟩ : ∃ N, N = h.length := ⟨_, rfl⟩
  have b1 := al_ok (ro := ro) (hp := h) (l := N) (p := N) 9 [AVal.s []]
  obtain ⟨H1, hH1⟩ : ∃ H1, H1 = h ++ [some (blkOf 9 [AVal.s []])] := ⟨_, rfl⟩
  rw [← hH1, ← hN] at b1
  have l1 : H1.length = N + 1 := by rw [hH1, hN]; simp
  have k1 : Keep h H1 := by rw [hH1]; exact Keep.app _
  have o1 : Holds H1 N [.s []] := by rw [hH1, hN]; exact Holds.new _ _ _
  have b2 := al_ok (ro := ro) (hp := H1) (l := N) (p := N) 25 [AVal.i IntKind.i64 0]
  obtain ⟨H2, hH2⟩ : ∃ H2, H2 = H1 ++ [some (blkOf 25 [AVal.i IntKind.i64 0])] := ⟨_, rfl⟩
  rw [← hH2, l1] at b2
  have l2 : H2.length = N + 2 := by rw [hH2]; simp [l1]
  have k2 : Keep H1 H2 := by rw [hH2]; exact Keep.app _
  have kh2 : Keep h H2 := k1.trans k2
  have o1' : Holds H2 N [.s []] := o1.by k2
  have o2' : Holds H2 (N + 1) [.i .i64 0] := by rw [hH2, ← l1]; exact Holds.new _ _ _
  have c47 := cp (l := N) (p := N) (years47 (ro := ro) (h := H2) (y := y) (s := s) (S_by a kh2) hf.1 hf.2.1 hf.2.2) (by omega) (by omega)
  -- the end, when two results are known
  have fin : ∀ (K : Heap) (t : List UInt8) (e : Int), Keep h K → Holds K N [.s t] → Holds K (N + 1) [.i .i64 e] → bindO (ldM ro ⟨K, N, N⟩ true 1 (.p (some ⟨false, N, 0⟩))) (fun vr => bindO (ldM ro ⟨K, N, N⟩ true 1 (.p (some ⟨false, N + 1, 0⟩))) fun vr_1 => finM N (tupA [vr, vr_1]) ⟨K, N, N⟩) = some (.tup [.s t, .i .i64 e], h, N, N) := fun K t e kK y1 y2 => by
    simp only [y1.ld1, y2.ld1, oS, tA2]
    subst hN
    exact fin_keep kK rfl
  have done : ∀ (K : Heap) (u w : AVal) (t : List UInt8) (e : Int), Keep h K → Holds K N [u] → Holds K (N + 1) [w] → bindP (stepM ro ⟨K, N, N⟩ (.st 1 (.c (.p (some ⟨false, N, 0⟩))) (.c (.s t)))) (fun vn m => bindP (stepM ro m (.st 1 (.c (.p (some ⟨false, N + 1, 0⟩))) (.c (.i .i64 e)))) fun vn_1 m_5 => bindO (ldM ro m_5 true 1 (.p (some ⟨false, N, 0⟩))) fun vr => bindO (ldM ro m_5 true 1 (.p (some ⟨false, N + 1, 0⟩))) fun vr_1 => finM N (tupA [vr, vr_1]) m_5) = some (.tup [.s t, .i .i64 e], h, N, N) := fun K u w t e kK y1 y2 => by
    obtain ⟨Ka, Kb, r1, r2, r3, r4, r5, r6⟩ := two_res (ro := ro) (by omega) y1 y2 t e
    have r1' := r1 N N
    have r2' := r2 N N
    rw [Nat.min_self] at r1'
    rw [show min N (N + 1) = N by omega] at r2'
    simp only [r1', r2', pS]
    have := kK.1
    exact fin Kb t e ⟨by omega, fun i hi => by rw [r6 i (by omega) (by omega), kK.2 i hi]⟩ r3 r4
  refine g24_ok (meansX_ok F1 ro) (Ovr.no rfl) ?_
  unfold g24
  simp only [← hN, b1, pS, b2, mC, c47, x0, x1, oS, iS, fB]
  by_cases h0 : errY z s y = 0
  rotate_left
  · have e : atV z s y x = ([], errY z s y) := by unfold atV; rw [if_pos h0]
    simp only [eqI_ne h0, nF, cT, e]
    exact done H2 _ _ [] _ kh2 o1' o2'
  have e0 : eqI (errY z s y) 0 = true := by rw [h0]; rfl
  simp only [e0, nT, cF, if_pos h0]
  rcases Int.lt_or_le x 0 with hx0 | hx0
  · have e : atV z s y x = ([], 4) := by unfold atV; rw [if_neg (fun e => e h0), if_pos hx0]
    simp only [ltT hx0, cT, e]
    exact done H2 _ _ [] _ kh2 o1' o2'
  obtain ⟨hS, k, rfl, hk⟩ := errY_ok h0
  have hz := VOk.of (errS_V hS)
  obtain ⟨hs30, hsh⟩ := errS_ok hS
  obtain ⟨n, rfl⟩ := Int.eq_ofNat_of_zero_le hx0
  have e : atV z s (k : Int) (n : Int) = if n < lenS z k s then ([(grw z k s).getD n 0], 0) else ([], 6) := by unfold atV; rw [if_neg (fun e => e h0), if_neg (by omega), Int.toNat_natCast, Int.toNat_natCast]
  obtain ⟨w, H3, c1, k3, Mx⟩ := lengths48x (ro := ro) (S_by a kh2) hz hk
  have M := Mx H3 fun _ _ _ => rfl
  have lH3 := k3.1
  have c1' := callM_of (a := N) (b := N) c1
  rw [show min N H2.length = N by omega] at c1'
  have ewr : wr .u64 (n : Int) = (n : Int) := wr_u64 (by omega) (by omega)
  obtain ⟨B, hB⟩ : ∃ B, B = H3.length := ⟨_, rfl⟩
  have c59 := from59 (ro := ro) (h := H3) (v := v) (w := w) (s := s) (x := (n : Int)) (cells_S a) (M_cells M).1
  obtain ⟨H4, hH4⟩ : ∃ H4, H4 = H3 ++ [some (blkOf 55 [v]), some (blkOf 61 [.i .u64 (n : Int)]), some (blkOf 9 [.s s]), some (blkOf 58 [w])] := ⟨_, rfl⟩
  rw [← hH4, ← hB] at c59
  have l4 : H4.length = B + 4 := by rw [hH4, hB]; simp
  have k4 : Keep H3 H4 := by rw [hH4]; exact Keep.app _
  have nb : ∀ (j e : Nat) (x : AVal), (∀ blk, blk = blkOf e [x] → H4[B + j]? = some (some blk)) → Holds H4 (B + j) [x] := fun j e x hx => ⟨blkOf e [x], by rw [lget_eq]; exact hx _ rfl, rfl, fun i _ => get_blk e [x] i⟩
  have x0' : Holds H4 (B + 0) [v] := nb 0 55 v fun blk e => by rw [e, hH4, List.getElem?_append_right (by omega), hB]; simp
  have x1' : Holds H4 (B + 1) [.i .u64 (n : Int)] := nb 1 61 _ fun blk e => by rw [e, hH4, List.getElem?_append_right (by omega), show B + 1 - H3.length = 1 by omega]; rfl
  have x2' : Holds H4 (B + 2) [.s s] := nb 2 9 _ fun blk e => by rw [e, hH4, List.getElem?_append_right (by omega), show B + 2 - H3.length = 2 by omega]; rfl
  have x3' : Holds H4 (B + 3) [w] := nb 3 58 _ fun blk e => by rw [e, hH4, List.getElem?_append_right (by omega), show B + 3 - H3.length = 3 by omega]; rfl
  have c59' := callM_of (a := N) (b := N) c59
  rw [show min N B = N by omega] at c59'
  obtain ⟨W, hW⟩ : ∃ W, W = (grw z k s).drop n := ⟨_, rfl⟩
  have one : ∀ t, g24_P0 (.p (some ⟨false, N, 0⟩)) (.p (some ⟨false, N + 1, 0⟩)) t → ∃ K' lw lp, callX F1 ro 90 [.yld (B + 4), .p (some ⟨false, B + 1, 0⟩), .p (some ⟨false, B + 3, 0⟩), .p (some ⟨false, B, 0⟩), .p (some ⟨false, B + 2, 0⟩)] (H4 ++ [some (recB t [33] k24a0 k24c0)]) = some (tupA [], K', lw, lp) ∧ N ≤ lw ∧ N ≤ lp ∧ Keep h K' ∧ Holds K' N [.s (W.take 1)] ∧ Holds K' (N + 1) [.i .i64 0] ∧ (W = [] → RecAt K' (B + 4) ⟨t, [33], k24a0, k24c0⟩ .ready none) ∧ (W ≠ [] → RecAt K' (B + 4) ⟨t, [33], k24a0, k24c0⟩ .done (some .ret)) := fun t ht => by
    obtain ⟨K0, hK0⟩ : ∃ K0, K0 = H4 ++ [some (recB t [33] k24a0 k24c0)] := ⟨_, rfl⟩
    have lK : K0.length = B + 5 := by rw [hK0]; simp [l4]
    have kK : Keep H4 K0 := by rw [hK0]; exact Keep.app _
    have rK : RecAt K0 (B + 4) ⟨t, [33], k24a0, k24c0⟩ .ready none := ⟨recB t [33] k24a0 k24c0, by rw [hK0, ← l4]; exact lget_last _ _, rfl⟩
    obtain ⟨C, hC⟩ : ∃ C : List UInt8 → Heap → Prop, C = fun c K => Holds K N [.s c] ∧ Holds K (N + 1) [.i .i64 0] ∧ (c = [] → RecAt K (B + 4) ⟨t, [33], k24a0, k24c0⟩ .ready none) ∧ (c ≠ [] → RecAt K (B + 4) ⟨t, [33], k24a0, k24c0⟩ .done (some .ret)) := ⟨_, rfl⟩
    obtain ⟨Own, hOwn⟩ : ∃ Own : Nat → Prop, Own = fun i => i = N ∨ i = N + 1 ∨ i = B + 4 := ⟨_, rfl⟩
    have cons : Cons (fun c : List UInt8 => c = []) ro (B + 4) K0.length (K0.length + 3) N N Own C stepF := by
      refine ⟨fun {c K} hc hK hk b => ?_, fun {c K K'} hc hf => ?_⟩
      · subst hk
        rw [hC] at hc
        obtain ⟨g1, g2, g3, -⟩ := hc
        rw [lK] at hK
        obtain ⟨blk, e1, e2⟩ := g3 rfl
        obtain ⟨Ka, q1, q2, q3, q4⟩ := RecAt.begin (⟨blk, e1, e2⟩ : RecAt K (B + 4) ⟨t, [33], k24a0, k24c0⟩ .ready none)
        obtain ⟨Kb, s1, s2, s3, s4⟩ := one_str (ro := ro) (K := Ka) (l := min K.length (B + 4)) (p := K.length) b
        obtain ⟨Kc, Kd, r1, r2, r3, r4, r5, r6⟩ := two_res (ro := ro) (i := N) (j := N + 1) (by omega) ((g1.keep (q4 N (by omega))).by s3) ((g2.keep (q4 (N + 1) (by omega))).by s3) [b] 0
        have rec4 : RecAt Kd (B + 4) ⟨t, [33], k24a0, k24c0⟩ .busy none := (q2.keep (s3.2 _ (by omega))).keep (r6 _ (by omega) (by omega))
        obtain ⟨K5, w1, w2, w3, w4⟩ := rec4.done .ret
        have r1' := r1 (min K.length (B + 4)) K.length
        have r2' := r2 (min (min K.length (B + 4)) N) K.length
        refine ⟨K5.take K.length, min (min (min (min K.length (B + 4)) N) (N + 1)) (B + 4), K.length, g24_r0_ok (meansX_ok F1 ro) e1 e2 ht ?_, by omega, by omega, ?_, by simp; omega, .inl (by simp; omega), fun i hi ho => ?_⟩
        · unfold g24_r0
          simp only [q1, oS, s1, pS, s2, sS, r1', r2', w1, gc_short (Nat.le_refl K.length) (show (AVal.b AExit.ret.on).bel K.length = true from rfl)]
          rfl
        · rw [hC]
          have hne : ¬ (stepF [] b).1 = [] := by simp [stepF]
          exact ⟨(r3.keep (w4 _ (by omega))).cut (by omega), (r4.keep (w4 _ (by omega))).cut (by omega), fun e => absurd e hne, fun _ => w2.cut (by omega)⟩
        · rw [hOwn] at ho
          have h1 : i ≠ N := fun e => ho (.inl e)
          have h2 : i ≠ N + 1 := fun e => ho (.inr (.inl e))
          have h3 : i ≠ B + 4 := fun e => ho (.inr (.inr e))
          rcases Nat.lt_or_ge i K.length with hl | hl
          · rw [List.getElem?_take, if_pos hl, w4 i h3, r6 i h1 h2, s3.2 i (by omega), q4 i h3]
          · rw [List.getElem?_eq_none (by simp; omega), List.getElem?_eq_none (by omega)]
      · rw [hC] at hc ⊢
        obtain ⟨g1, g2, g3, g4⟩ := hc
        exact ⟨g1.keep (hf _ (by omega)), g2.keep (hf _ (by omega)), fun e => (g3 e).keep (hf _ (by omega)), fun e => (g4 e).keep (hf _ (by omega))⟩
    have hC0 : C [] K0 := by
      rw [hC]
      exact ⟨((o1'.by k3).by k4).by kK, ((o2'.by k3).by k4).by kK, fun _ => rK, fun e => absurd rfl e⟩
    have hkk : Keep h K0 := ((kh2.trans k3).trans k4).trans kK
    obtain ⟨K', lw, lp, t1, t2, t3, t4, t5, t6⟩ := from90 (ro := ro) (ok := fun c : List UInt8 => c = []) (place := n) (rbk := B + 4) (pb := B + 1) (lb := B + 3) (rbx := B) (sb := B + 2) (Own := Own) (C := C) (step := stepF) (K0 := K0) (c := []) (L0 := N) (Lc := N) hz hk hsh hf.2.2 (by omega) (fun K hK hf => by
      have e1 : ∀ i, i < B → ¬ Own i → K[i]? = H3[i]? := fun i hi ho => by rw [hf i (by omega) ho, kK.2 i (by omega), k4.2 i (by omega)]
      have kk : Keep h K := ⟨by have := hkk.1; omega, fun i hi => by rw [hf i (by have := hkk.1; omega) (by rw [hOwn]; have := kh2.1; omega), hkk.2 i hi]⟩
      exact ⟨Mx K fun i hi1 hi2 => e1 i (by omega) (by rw [hOwn]; omega), S_by a kk⟩) (x1'.by kK) (x3'.by kK) (x0'.by kK) (x2'.by kK) (by rw [hOwn]; omega) (by rw [hOwn]; omega) (fun i ho => by rw [hOwn] at ho; omega) (by omega) (by omega) (by omega) cons hC0 (fun j hj h2 => by
      rw [feedF] at h2 ⊢
      have : ((grw z k s).drop n).take j = [] := by simpa using h2
      rw [this]; rfl)
    rw [feedF, ← hW, hC] at t4
    obtain ⟨g1, g2, g3, g4⟩ := t4
    refine ⟨K', lw, lp, by rw [← hK0]; exact t1, t2, t3, ⟨by have := hkk.1; omega, fun i hi => ?_⟩, g1, g2, fun e => g3 (by rw [e]; rfl), fun e => g4 fun e2 => e ?_⟩
    · rw [t6 i (by have := hkk.1; omega) (by rw [hOwn]; omega), hkk.2 i hi]
    · cases hw : W with
      | nil => rfl
      | cons b t => rw [hw] at e2; cases e2
  simp only [ltF (show ¬ (n : Int) < 0 by omega), cF, fI', ewr, c1', pS, c59', mC]
  refine rngK_eq (t := (Tr.e.set 8 (.p (some ⟨false, N, 0⟩))).set 9 (.p (some ⟨false, N + 1, 0⟩))) ⟨trivial, by rw [get_set_ne _ _ (by decide)]; simp, by simp⟩ fun t ht => ?_
  obtain ⟨K', lw, lp, t1, t2, t3, t4, g1, g2, g3, g4⟩ := one t ht
  have hex : ∃ p s', RecAt K' (B + 4) ⟨t, [33], k24a0, k24c0⟩ s' p ∧ s' ≠ .busy ∧ ((W = [] ∧ p = none) ∨ (W ≠ [] ∧ p = some .ret)) := by
    by_cases hw : W = []
    · exact ⟨_, _, g3 hw, by decide, .inl ⟨hw, rfl⟩⟩
    · exact ⟨_, _, g4 hw, by decide, .inr ⟨hw, rfl⟩⟩
  obtain ⟨p, s', r1, r2, r3⟩ := hex
  have hlt := r1.lt
  have e2 := r1.ended r2
  obtain ⟨J, hJ⟩ : ∃ J, J = lset none K' (B + 4) := ⟨_, rfl⟩
  have kJ : Keep h J := by rw [hJ, lset_eq]; exact t4.set (by omega) none
  have o1J : Holds J N [.s (W.take 1)] := g1.keep (by rw [hJ, lset_eq]; exact List.getElem?_set_ne (by omega))
  have o2J : Holds J (N + 1) [.i .i64 0] := g2.keep (by rw [hJ, lset_eq]; exact List.getElem?_set_ne (by omega))
  rw [← hJ] at e2
  refine ⟨(p.getD .norm, ⟨J, N, N⟩), ?_, ?_⟩
  · unfold rngT rngA
    simp only [List.nil_append, List.cons_append, l4, t1, e2]
    show some (p.getD AExit.norm, (⟨J, min (min N lw) (B + 4), min N lp⟩ : Mm)) = _
    rw [show min (min N lw) (B + 4) = N by omega, show min N lp = N by omega]
  · have hWl : W.length = lenS z k s - n := by rw [hW, List.length_drop, grw_len]
    rcases r3 with ⟨hw, rfl⟩ | ⟨hw, rfl⟩
    · have hc : ¬ n < lenS z k s := fun e => by rw [hw] at hWl; simp at hWl; omega
      rw [e, if_neg hc]
      exact done J _ _ [] _ kJ o1J o2J
    · have hc : n < lenS z k s := by
        rcases Nat.lt_or_ge n (lenS z k s) with h | h
        · exact h
        · exact absurd (List.length_eq_zero_iff.1 (by omega)) hw
      have e3 : W.take 1 = [(grw z k s).getD n 0] := by
        have hl : n < (grw z k s).length := by rw [grw_len]; exact hc
        have e5 : W = (grw z k s)[n] :: (grw z k s).drop (n + 1) := by rw [hW]; exact List.drop_eq_getElem_cons hl
        rw [e5, List.getD_eq_getElem?_getD, List.getElem?_eq_getElem hl]
        rfl
      rw [e, if_pos hc]
      rw [e3] at o1J
      exact fin J _ _ kJ o1J o2J
end
end Go.Proofs.Ytfohppnelbbepaa.T

/- At of the reference -/
open Go.Vm
set_option linter.unusedVariables false
set_option linter.unusedSectionVars false
namespace Go.Proofs.Ytfohppnelbbepaa.T
open Go
variable [Ovr]

section
variable {ro : List ABlk} {h hp : Heap}
theorem slS_win {s : List UInt8} {m n : Nat} (hm : m ≤ n) (hn : n ≤ s.length) : evP .e (.slStr (.c (.s s)) (some (.c (.i .i64 (m : Int)))) (some (.c (.i .i64 (n : Int))))) = some (.s ((s.take n).drop m)) := by
  have e3 : ((m : Nat) : Int) = Int.ofNat m := rfl
  have e4 : ((n : Nat) : Int) = Int.ofNat n := rfl
  have e5 : Nat.ble n s.length = true := by rw [Nat.ble_eq]; exact hn
  have e6 : Nat.ble m n = true := by rw [Nat.ble_eq]; exact hm
  simp only [evP, ev_slStr, opd, e3, e4, Option.map_some, sbound, e5, e6, cond_true]
theorem grw_at {z : List (List UInt8)} {y j n : Nat} {s : List UInt8} (hj : j < s.length) (h1 : lenS z y (s.take j) ≤ n) (h2 : n < lenS z y (s.take (j + 1))) : (grw z y s).getD n 0 = (grw z y [s.getD j 0]).getD (n - lenS z y (s.take j)) 0 := by
  have e : grw z y s = grw z y (s.take j) ++ (grw z y [s.getD j 0] ++ grw z y (s.drop (j + 1))) := by
    rw [← grw_app, ← grw_app]
    congr 1
    have e1 : s = s.take (j + 1) ++ s.drop (j + 1) := (List.take_append_drop _ _).symm
    rw [take_snoc 0 hj, List.append_assoc] at e1
    exact e1
  have l1 : (grw z y (s.take j)).length = lenS z y (s.take j) := grw_len _ _ _
  have l2 : lenS z y (s.take (j + 1)) = lenS z y (s.take j) + (grw z y [s.getD j 0]).length := by rw [take_snoc 0 hj, lenS_app, grw_len]
  rw [e, List.getD_eq_getElem?_getD, List.getElem?_append_right (by omega), List.getElem?_append_left (by omega), l1, ← List.getD_eq_getElem?_getD]
set_option maxHeartbeats 2000000 in
theorem at25 {v : AVal} {z : List (List UInt8)} {s : List UInt8} {y x : Int} (a : IsS ro h v z) (hf : z.length ≤ 1000000 ∧ (∀ i, i < z.length → (z.getD i []).length ≤ 1000000) ∧ s.length ≤ 1000000) (hx : x ≤ 9223372036854775807) :
    callX F1 ro 25 [v, .s s, .i .i64 y, .i .i64 x] h = some (.tup [.s (atV z s y x).1, .i .i64 (atV z s y x).2], h, h.length, h.length) := by
  refine g25_ok (meansX_ok F1 ro) (Ovr.no rfl) ?_
  unfold g25
  simp only [mC, cp0 (shoot42 (s := s) a hf.1 hf.2.1 hf.2.2), pS, iS, fB]
  by_cases hS : errS z s = 0
  rotate_left
  · have e : errY z s y = errS z s := by unfold errY; rw [if_pos hS]
    have e2 : atV z s y x = ([], errS z s) := by unfold atV; rw [e, if_pos hS]
    rw [e2]
    simp only [eqI_ne hS, nF, cT, tA2]
    exact fin_pure rfl
  have e0 : eqI (errS z s) 0 = true := by rw [hS]; rfl
  have eY := shootY (v := v) (y := y) hS
  simp only [e0, nT, cF]
  rcases Int.lt_or_le y 0 with h1 | h1
  · have e1 : errY z s y = 3 := by rw [eY, if_neg (by omega)]
    have e2 : atV z s y x = ([], 3) := by unfold atV; rw [e1, if_pos (by decide)]
    rw [e2]
    simp only [ltT h1, cT, oS, tA2]
    exact fin_pure rfl
  rcases Int.lt_or_le 1000 y with h2 | h2
  · have e1 : errY z s y = 3 := by rw [eY, if_neg (by omega)]
    have e2 : atV z s y x = ([], 3) := by unfold atV; rw [e1, if_pos (by decide)]
    rw [e2]
    simp only [ltF (show ¬ y < 0 by omega), cF, ltT h2, cT, oS, tA2]
    exact fin_pure rfl
  obtain ⟨k, rfl⟩ := Int.eq_ofNat_of_zero_le h1
  have hk : k ≤ 1000 := by omega
  have hz := VOk.of (errS_V hS)
  obtain ⟨hs30, hsh⟩ := errS_ok hS
  have e1 : errY z s (k : Int) = 0 := by rw [eY, if_pos (by omega)]
  simp only [ltF (show ¬ (k : Int) < 0 by omega), cF, ltF (show ¬ (1000 : Int) < (k : Int) by omega), oS]
  rcases Int.lt_or_le x 0 with hx0 | hx0
  · have e2 : atV z s (k : Int) x = ([], 4) := by unfold atV; rw [e1, if_neg (by decide), if_pos hx0]
    rw [e2]
    simp only [ltT hx0, cT, tA2]
    exact fin_pure rfl
  obtain ⟨n, rfl⟩ := Int.eq_ofNat_of_zero_le hx0
  have e2 : atV z s (k : Int) (n : Int) = if n < lenS z k s then ([(grw z k s).getD n 0], 0) else ([], 6) := by unfold atV; rw [e1, if_neg (by decide), if_neg (by omega), Int.toNat_natCast, Int.toNat_natCast]
  rw [e2]
  obtain ⟨w, H, c1, k1, M⟩ := table51 (ro := ro) a hz hk
  obtain ⟨p1, u1, i1, i2, i3⟩ := at_M M (i := k) (z := rowN z k) (by simp)
  have c52 := long52 (ro := ro) i2 hf.2.2 hsh
  have ewr : wr .u64 (n : Int) = (n : Int) := wr_u64 (by omega) (by omega)
  simp only [ltF (show ¬ (n : Int) < 0 by omega), cF, cM c1 (Nat.le_refl _) (Nat.le_refl _), pS, fI', ewr, i1, oS, (i3 (Keep.refl H)).1, cp c52 k1.1 k1.1, iS]
  have hsl := sat_lt (n := lenS z k s) (m := n) (by omega)
  by_cases hc : n < lenS z k s
  rotate_left
  · have hc' := fun e => hc (hsl.1 e)
    simp only [ltF (show ¬ (n : Int) < ((sat (lenS z k s) : Nat) : Int) from fun e => hc' (by omega)), nF, cT, if_neg hc, tA2]
    exact fin_keep k1 rfl
  have hc' := hsl.2 hc
  simp only [ltT (show (n : Int) < ((sat (lenS z k s) : Nat) : Int) by omega), nT, cF, if_pos hc, meansX_loop]
  obtain ⟨T, hT⟩ : ∃ T, T = (grw z k s).getD n 0 := ⟨_, rfl⟩
  -- one year: the letter in which the place lies
  have inner : ∀ (y : Nat) (s' : List UInt8) (n0 : Nat), y ≤ k → has z.length s' → s'.length ≤ 1000000 → n0 < lenS z y s' → n0 < 9223372036854775808 → ∃ (j n' : Nat), loopX (fun q : Int × Int => g25_b2 (meansX F1 ro) ro v s' w (y : Int) ⟨H, h.length, h.length⟩ q.1 q.2) ((n0 : Int), 0) = some ((n' : Int), (j : Int)) ∧ j < s'.length ∧ lenS z y (s'.take j) + n' = n0 ∧ n' < cnt z y (ix (s'.getD j 0)) := by
    intro y s' n0 hy hs' hsl' hn0 hn63
    obtain ⟨p2, u2, i1', i2', i3'⟩ := at_M M (i := y) (z := rowN z y) (by simp [show y < k + 1 by omega])
    have key : ∃ r, loopX (fun q : Int × Int => g25_b2 (meansX F1 ro) ro v s' w (y : Int) ⟨H, h.length, h.length⟩ q.1 q.2) ((n0 : Int), 0) = some r ∧ ∃ j n' : Nat, r = ((n' : Int), (j : Int)) ∧ j < s'.length ∧ lenS z y (s'.take j) + n' = n0 ∧ n' < cnt z y (ix (s'.getD j 0)) := by
      refine loop_exit s'.length (fun j q => ∃ n' : Nat, q = ((n' : Int), (j : Int)) ∧ lenS z y (s'.take j) + n' = n0) _ ?_ ?_ s'.length 0 _ (by omega) ⟨n0, rfl, by simp [lenS, sumS]⟩
      · rintro j q hj ⟨n', rfl, hn'⟩
        have hb := hs' j hj
        have hxl := ix_lt hb
        obtain ⟨p3, j1, j2⟩ := at_R i2' (rowN_get z y hxl)
        have e3 : ix (s'.getD j 0) ≤ 255 := by unfold ix; have := (s'.getD j 0).toNat_lt; omega
        have hlt := sat_lt (n := cnt z y (ix (s'.getD j 0))) (m := n') (by omega)
        have hnext : lenS z y (s'.take (j + 1)) = lenS z y (s'.take j) + cnt z y (ix (s'.getD j 0)) := by rw [take_snoc 0 hj, lenS_app, lenS_one]
        by_cases hcc : n' < cnt z y (ix (s'.getD j 0))
        · have := hlt.2 hcc
          exact .inr ⟨_, (by simp only [g25_b2, i1', oS, ix_str hj, iS, fI', sub97 hb.1, lt64 (show ix (s'.getD j 0) ≤ 9223372036854775807 by omega), (i3' (Keep.refl H)).1, j1, (j2 (Keep.refl H)).1, eU, fB, ltT (show (n' : Int) < ((sat (cnt z y (ix (s'.getD j 0))) : Nat) : Int) by omega), nT, cF] <;> rfl), j, n', rfl, hj, hn', hcc⟩
        · have hs1 : sat (cnt z y (ix (s'.getD j 0))) = cnt z y (ix (s'.getD j 0)) := by unfold sat; omega
          have e4 : wr .u64 ((n' : Int) - ((cnt z y (ix (s'.getD j 0)) : Nat) : Int)) = ((n' - cnt z y (ix (s'.getD j 0)) : Nat) : Int) := by rw [wr_u64 (by omega) (by omega)]; omega
          exact .inl ⟨_, (by simp only [g25_b2, i1', oS, ix_str hj, iS, fI', sub97 hb.1, lt64 (show ix (s'.getD j 0) ≤ 9223372036854775807 by omega), (i3' (Keep.refl H)).1, j1, (j2 (Keep.refl H)).1, eU, hs1, fB, ltF (show ¬ (n' : Int) < ((cnt z y (ix (s'.getD j 0)) : Nat) : Int) by omega), nF, cT, e4, nx (show j ≤ 1000000 by omega)] <;> rfl), n' - cnt z y (ix (s'.getD j 0)), rfl, by omega⟩
      · rintro q ⟨n', rfl, hn'⟩
        rw [List.take_length] at hn'
        omega
    obtain ⟨r, q1, j, n', rfl, h1, h2, h3⟩ := key
    exact ⟨j, n', q1, h1, h2, h3⟩
  have key : ∃ r, loopX (fun q : List UInt8 × Int × Int => g25_b1 (meansX F1 ro) ro v w ⟨H, h.length, h.length⟩ q.1 q.2.1 q.2.2) (s, (n : Int), (k : Int)) = some r ∧ r = ([T], 0) := by
    refine loop_gen k (fun i q => ∃ (s' : List UInt8) (n' : Nat), q = (s', (n' : Int), ((k - i : Nat) : Int)) ∧ has z.length s' ∧ s'.length ≤ 1000000 ∧ n' < lenS z (k - i) s' ∧ n' < 9223372036854775808 ∧ (grw z (k - i) s').getD n' 0 = T ∧ i ≤ k) _ ?_ ?_ k 0 _ (by omega) ⟨s, n, rfl, hsh, hf.2.2, hc, by omega, hT.symm, by omega⟩
    · rintro i q hi ⟨s', n', rfl, g1, g2, g3, g4, g5, -⟩
      obtain ⟨j, m, q1, q2, q3, q4⟩ := inner (k - i) s' n' (by omega) g1 g2 g3 g4
      have hb := g1 j q2
      have hxl := ix_lt hb
      obtain ⟨p3, j1, j2⟩ := at_S a hxl
      obtain ⟨y', hy'⟩ : ∃ y', k - i = y' + 1 := ⟨k - i - 1, by omega⟩
      have e3 : ix (s'.getD j 0) ≤ 255 := by unfold ix; have := (s'.getD j 0).toNat_lt; omega
      have e5 : wr .i64 (((k - i : Nat) : Int) - 1) = ((k - (i + 1) : Nat) : Int) := by rw [wr_id' (by omega) (by omega)]; omega
      have h8 := hz.h8 _ hxl
      refine ⟨_, (by simp only [g25_b1, meansX_loop, q1, oS, fB, eqI_ne (show ((k - i : Nat) : Int) ≠ 0 by omega), cF, ix_str q2, iS, fI', sub97 hb.1, lt64 (show ix (s'.getD j 0) ≤ 9223372036854775807 by omega), j1, (j2 k1).1, sS, e5] <;> rfl), _, m, rfl, hz.hh _ hxl, by omega, ?_, by omega, ?_, by omega⟩
      · rw [show k - (i + 1) = y' by omega]
        rw [hy'] at q4
        exact q4
      · rw [← g5, grw_at q2 (by omega) (by rw [take_snoc 0 q2, lenS_app, lenS_one]; omega), show n' - lenS z (k - i) (s'.take j) = m by omega, hy', grw_one, show k - (i + 1) = y' by omega]
    · rintro q ⟨s', n', rfl, g1, g2, g3, g4, g5, -⟩
      obtain ⟨j, m, q1, q2, q3, q4⟩ := inner (k - k) s' n' (by omega) g1 g2 g3 g4
      rw [Nat.sub_self] at *
      have hm : m = 0 := by have : cnt z 0 (ix (s'.getD j 0)) = 1 := rfl; omega
      have hT1 : s'.getD j 0 = T := by
        rw [← g5, grw_at q2 (by omega) (by rw [take_snoc 0 q2, lenS_app, lenS_one]; omega), show n' - lenS z 0 (s'.take j) = 0 by omega]
        rfl
      have e4 : (s'.take (j + 1)).drop j = [T] := by
        have hl : (s'.take j).length = j := by rw [List.length_take]; omega
        rw [take_snoc 0 q2, hT1]
        have := List.drop_left (l₁ := s'.take j) (l₂ := [T])
        rwa [hl] at this
      have e00 : eqI ((0 : Nat) : Int) 0 = true := rfl
      refine ⟨_, (by simp only [g25_b1, meansX_loop, q1, oS, fB, e00, cT, fI', nx (show j ≤ 1000000 by omega), slS_win (show j ≤ j + 1 by omega) (show j + 1 ≤ s'.length by omega), sS, e4] <;> rfl), rfl⟩
  obtain ⟨r, q1, rfl⟩ := key
  rw [← hT]
  simp only [q1, oS, tA2]
  exact fin_keep k1 rfl
end
end Go.Proofs.Ytfohppnelbbepaa.T

/- Law 4 -/
open Go.Vm
set_option linter.unusedVariables false
set_option linter.unusedSectionVars false
namespace Go.Proofs.Ytfohppnelbbepaa.T
open Go
variable [Ovr]

section
variable {ro : List ABlk} {h hp : Heap}
theorem law4 {v : AVal} {z : List (List UInt8)} {s : List UInt8} {y x : Int} (hA : ∀ h, callX F1 ro 16 [] h = some (.b true, h, h.length, h.length)) (a : IsS ro h v z) (hx : x ≤ 9223372036854775807) :
    callX F1 ro 4 [v, .s s, .i .i64 y, .i .i64 x] h = some (.b true, h, h.length, h.length) := by
  refine g4_ok (meansX_ok F1 ro) (Ovr.no rfl) ?_
  unfold g4
  simp only [mC, cp0 (few15 (s := s) a), pS, bS, fB]
  by_cases hf : fewB z s
  rotate_left
  · simp only [dF hf, nF, cT, cp0 (hA h), pS, bS, tA]
    exact fin_pure rfl
  have hf' := fewB_len hf
  simp only [dT hf, nT, cF, cp0 (at24 (y := y) a hf' hx), cp0 (at25 (y := y) a hf' hx), pS, x0, x1, oS, sS, iS, strEq, bS, cT, eqI_self, cp0 (hA h), tA, decide_true]
  exact fin_pure rfl
end
end Go.Proofs.Ytfohppnelbbepaa.T

/- The bridge, alive known -/
open Go.Vm
set_option linter.unusedVariables false
set_option linter.unusedSectionVars false
namespace Go.Proofs.Ytfohppnelbbepaa.T
open Go Go.RowKit Go.Deep Go.WideShapes Go.ChangeShapes

attribute [local instance] ovA
theorem aliveA {ro : List ABlk} (h : Heap) : callX F1 ro 16 [] h = some (.b true, h, h.length, h.length) := callX_ov rfl
theorem call_ofA {W : World} {ro : List ABlk} {rl : Rl} (hE : (Env.mk Try.prog W.heap.size W ro rl).Ok) {K : Nat} {vs : List AVal} {args : Array Value}
    (hv : LR rl [] vs args) {h' : Heap} {lw lp : Nat} (hc : callX F1 ro K vs [] = some (.b true, h', lw, lp)) : Calls Try.prog K args W fun e W' => e = .returned (.bool true) ∧ Below W.heap.size W W' :=
  call_of hE (alive_known hE (Try.checked.mixed) fok) hv hc
theorem exC {ro : List ABlk} {k : Nat} {l : List AVal} {h : Heap} {n m : Nat} {H : Heap} (e : callX F1 ro k l h = some (.b true, H, n, m)) : ∃ h' lw lp, callX F1 ro k l h = some (.b true, h', lw, lp) := ⟨_, _, _, e⟩
theorem i64_le {n : Int} (h : (Lit.int .i64 n).wf = true) : n ≤ 9223372036854775807 := by
  simp only [Lit.wf, Bool.and_eq_true, decide_eq_true_eq] at h
  exact h.2
end Go.Proofs.Ytfohppnelbbepaa.T

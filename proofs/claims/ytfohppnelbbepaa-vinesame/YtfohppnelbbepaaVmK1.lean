/- Contracts of the functions: what each of them answers. -/
import Derived.Test.YtfohppnelbbepaaVmK0
import Derived.Test.YtfohppnelbbepaaVmAG
/- Windows, maps -/
open Go.Vm
set_option linter.unusedVariables false
set_option linter.unusedSectionVars false
namespace Go.Proofs.Ytfohppnelbbepaa.T
open Go
variable [Ovr]
section
variable {ro : List ABlk} {h hp : Heap}
theorem win_row {L l p lo hi : Nat} {u : AVal} {s : List UInt8} (g : RowG hp L 5 u (s.map bv)) (h1 : lo < hi) (h2 : hi ≤ s.length) : ∃ w, evP .e (.slS 1 (.c u) (some (.c (.i .i64 (lo : Int)))) (some (.c (.i .i64 (hi : Int)))) none) = some w ∧ btsM ro ⟨hp, l, p⟩ w = some (.s ((s.take hi).drop lo)) := by
  rcases g with ⟨rfl, e⟩ | ⟨b, blk, rfl, g2, g3, g4, g5, g6, g7⟩
  · have : s = [] := by simpa using e
    subst this; simp at h2; omega
  · rw [List.length_map] at g6 g7 ⊢
    have el : ((lo : Nat) : Int) = Int.ofNat lo := rfl
    have eh : ((hi : Nat) : Int) = Int.ofNat hi := rfl
    have b1 : Nat.ble hi s.length = true := by rw [Nat.ble_eq]; exact h2
    have b2 : Nat.ble lo hi = true := by rw [Nat.ble_eq]; omega
    have hw : ((s.take hi).drop lo).length = hi - lo := by simp; omega
    have e0 : ∀ off, off = lo → blk.c.row off (hi - lo) = ((s.take hi).drop lo).map bv := fun off eo => row_row (hi - lo) off _ (by rw [List.length_map, hw]) fun j hj => by
      rw [eo, g7 (lo + j) (by omega)]
      have hj2 : lo + j < s.length := by omega
      have hj3 : lo + j < hi := by omega
      simp [List.getD, hj2, hj3, List.getElem?_take]
    have bt : ∀ off c, off = lo → btsM ro ⟨hp, l, p⟩ (.sl ⟨false, b, off⟩ (hi - lo) c) = some (.s ((s.take hi).drop lo)) := fun off c eo => by
      have e1 : rdB ro hp ⟨false, b, off⟩ = some blk := rdB_heap g4 off
      have e2 : Nat.ble (off + (hi - lo)) blk.n = true := by rw [Nat.ble_eq]; omega
      simp only [btsM, st_bts, Mm.st, e1, e2, cond_true, e0 off eo, bytesA_ok, Option.map_some]
    cases lo with
    | zero =>
      refine ⟨.sl ⟨false, b, 0⟩ (hi - 0) .grow, ?_, bt 0 _ rfl⟩
      simp only [evP, ev_slS, opd, sl_lh, el, eh, Option.map_some, sbound, capB, b1, b2, cond_true]
      rfl
    | succ lo =>
      have b3 : Nat.blt (lo + 1) s.length = true := by rw [Nat.blt_eq]; omega
      refine ⟨.sl ⟨false, b, 0 + (lo + 1) * 1⟩ (hi - (lo + 1)) .any, ?_, bt _ _ (by omega)⟩
      simp only [evP, ev_slS, opd, sl_lh, el, eh, Option.map_some, sbound, capB, b1, b2, b3, cond_true]
def wrd (z : List (List UInt8)) (b n : Nat) : List UInt8 := (List.range n).map (letE z b)
theorem wrd_succ (z : List (List UInt8)) (b n : Nat) : wrd z b (n + 1) = wrd z b n ++ [letE z b n] := by unfold wrd; rw [List.range_succ, List.map_append]; rfl
def MapAt (K : Heap) (b : Nat) (ks : List (List UInt8)) : Prop := ∃ blk : ABlk, lget K b = some (some blk) ∧ blk.g = some (.mp (ks.map fun k => (k, AVal.b true)))
def addK {α : Type} [DecidableEq α] (ks : List α) (s : α) : List α := if s ∈ ks then ks else ks ++ [s]
theorem eqL_dec (s t : List UInt8) : eqL s t = decide (s = t) := by
  have := strEq (s := s) (t := t)
  simp only [evP, ev_sbin, opd, sOp, Option.some.injEq, AVal.b.injEq] at this
  exact this
theorem mput_add (s : List UInt8) : ∀ ks : List (List UInt8), mput (ks.map fun k => (k, AVal.b true)) s (.b true) = (addK ks s).map fun k => (k, AVal.b true)
  | [] => rfl
  | k :: ks => by
    have ih := mput_add s ks
    show cond (eqL k s) ((k, AVal.b true) :: ks.map _) ((k, AVal.b true) :: mput (ks.map _) s (.b true)) = _
    rw [eqL_dec, ih]
    unfold addK
    by_cases e : k = s
    · subst e
      simp
    · have e' : ¬ s = k := fun h => e h.symm
      by_cases e2 : s ∈ ks
      · simp [e, e2]
      · simp [e, e', e2]
theorem MapAt.up {K : Heap} {b l p : Nat} {ks : List (List UInt8)} {s : List UInt8} (a : MapAt K b ks) : ∃ K', stepM ro ⟨K, l, p⟩ (.mup (.c (.mp b)) (.c (.s s)) (.c (.b true))) = some (und, ⟨K', min l b, p⟩) ∧ MapAt K' b (addK ks s) ∧ K'.length = K.length ∧ ∀ i, i ≠ b → K'[i]? = K[i]? := by
  obtain ⟨blk, g1, g2⟩ := a
  refine ⟨K.set b (some { blk with g := some (.mp ((addK ks s).map fun k => (k, AVal.b true))) }), ?_, ⟨_, lget_set g1 _, rfl⟩, by simp, fun i hi => List.getElem?_set_ne (Ne.symm hi)⟩
  have hsc : (AVal.b true).scalar = true := rfl
  simp only [stepM, stepK, opd, st_mup, g1, g2, hsc, cond_true, mput_add, lset_eq, St.mm]
theorem MapAt.len {K : Heap} {b l p : Nat} {ks : List (List UInt8)} (a : MapAt K b ks) : stepM ro ⟨K, l, p⟩ (.mln (.c (.mp b))) = some (.i .i64 (ks.length : Int), ⟨K, l, p⟩) := by
  obtain ⟨blk, g1, g2⟩ := a
  simp only [stepM, stepK, opd, st_mln, g1, g2, mkI_eq, St.mm, List.length_map]
theorem mkm_ok {K : Heap} {l p : Nat} : ∃ K', stepM ro ⟨K, l, p⟩ .mkm = some (.mp K.length, ⟨K', l, p⟩) ∧ MapAt K' K.length [] ∧ Keep K K' ∧ K'.length = K.length + 1 :=
  ⟨K ++ [some { e := 0, n := 0, c := .e, g := some (.mp []) }], by simp only [stepM, stepK, st_mkm, St.mm], ⟨_, lget_last _ _, rfl⟩, Keep.app _, by simp⟩
def winsF (s : List UInt8) (n : Nat) : Nat → List (List UInt8)
  | 0 => []
  | k + 1 => winsF s n k ++ [(s.take (n + k)).drop k]
def factN (z : List (List UInt8)) (b n : Nat) : Nat := ((winsF (wrd z b 100000) n (100001 - n)).foldl addK []).length
end
end Go.Proofs.Ytfohppnelbbepaa.T
/- Factors -/
open Go.Vm
set_option linter.unusedVariables false
set_option linter.unusedSectionVars false
namespace Go.Proofs.Ytfohppnelbbepaa.T
open Go
variable [Ovr]
noncomputable def factV (z : List (List UInt8)) (s : List UInt8) (x : Int) : Int × Int := if errU z s ≠ 0 then (0, errU z s) else if x < 1 ∨ 10 < x then (0, 2) else ((factN z (ix (s.getD 0 0)) x.toNat : Int), 0)
section
variable {ro : List ABlk} {h hp : Heap}
set_option maxHeartbeats 2000000 in
theorem factors38 {v : AVal} {z : List (List UInt8)} {s : List UInt8} {x : Int} (a : IsS ro h v z) (hz : z.length ≤ 1000000) (hf : ∀ i, i < z.length → (z.getD i []).length ≤ 1000000) (hs : s.length ≤ 1000000) :
    callX F1 ro 38 [v, .s s, .i .i64 x] h = some (.tup [.i .i64 (factV z s x).1, .i .i64 (factV z s x).2], h, h.length, h.length) := by
  refine g38_ok (meansX_ok F1 ro) (Ovr.no rfl) ?_
  unfold g38
  have c74 := readBud74 (ro := ro) (h := h) a hz hf hs
  simp only [mC, cp0 c74, pS, x0, x1, x2, oS, iS, fB]
  by_cases he : errU z s = 0
  rotate_left
  · have e1 : factV z s x = (0, errU z s) := by unfold factV; rw [if_pos he]
    simp only [eqI_ne he, nF, cT, e1, tA2]
    exact fin_pure2 rfl rfl
  obtain ⟨vok, hs1, hhs, hbud⟩ := errU_ok he
  simp only [he, eqI_self, nT, cF, if_true]
  by_cases hx1 : x < 1
  · have e1 : factV z s x = (0, 2) := by unfold factV; rw [if_neg (by simp [he]), if_pos (.inl hx1)]
    simp only [ltT hx1, cT, oS, e1, tA2]
    exact fin_pure2 rfl rfl
  by_cases hx2 : 10 < x
  · have e1 : factV z s x = (0, 2) := by unfold factV; rw [if_neg (by simp [he]), if_pos (.inr hx2)]
    simp only [ltF hx1, cF, ltT hx2, cT, oS, e1, tA2]
    exact fin_pure2 rfl rfl
  obtain ⟨n, rfl⟩ : ∃ n : Nat, x = (n : Int) := ⟨x.toNat, by omega⟩
  obtain ⟨b, hb⟩ : ∃ b, b = ix (s.getD 0 0) := ⟨_, rfl⟩
  have hBud : BudOk z b := ⟨vok, by rw [hb]; exact ix_lt (hhs 0 (by omega)), by rw [hb]; exact hbud⟩
  have e1 : factV z s (n : Int) = ((factN z b n : Int), 0) := by
    unfold factV
    rw [if_neg (by simp [he]), if_neg (by omega), Int.toNat_natCast, hb]
  rw [← hb, e1]
  simp only [ltF hx1, cF, ltF hx2, oS]
  obtain ⟨N, hN⟩ : ∃ N, N = h.length := ⟨_, rfl⟩
  have b1 := al_ok (ro := ro) (hp := h) (l := N) (p := N) 52 [AVal.nsl]
  obtain ⟨H1, hH1⟩ : ∃ H1, H1 = h ++ [some (blkOf 52 [AVal.nsl])] := ⟨_, rfl⟩
  rw [← hH1, ← hN] at b1
  have l1 : H1.length = N + 1 := by rw [hH1, hN]; simp
  have k1 : Keep h H1 := by rw [hH1]; exact Keep.app _
  have o1 : Holds H1 N [.nsl] := by rw [hH1, hN]; exact Holds.new _ _ _
  have c75 := endless75 (ro := ro) (h := H1) (v := v) (x := (b : Int)) (cells_S a)
  obtain ⟨H2, hH2⟩ : ∃ H2, H2 = H1 ++ [some (blkOf 55 [v]), some (blkOf 3 [.i .i64 (b : Int)])] := ⟨_, rfl⟩
  rw [← hH2] at c75
  have l2 : H2.length = N + 3 := by rw [hH2]; simp [l1]
  have k2 : Keep H1 H2 := by rw [hH2]; exact Keep.app _
  have nb : ∀ (j e : Nat) (x : AVal), (∀ blk, blk = blkOf e [x] → H2[N + 1 + j]? = some (some blk)) → Holds H2 (N + 1 + j) [x] := fun j e x hx => ⟨blkOf e [x], by rw [lget_eq]; exact hx _ rfl, rfl, fun i _ => get_blk e [x] i⟩
  have x0' : Holds H2 (N + 1 + 0) [v] := nb 0 55 v fun blk e => by rw [e, hH2, List.getElem?_append_right (by omega)]; simp [l1]
  have x1' : Holds H2 (N + 1 + 1) [.i .i64 (b : Int)] := nb 1 3 _ fun blk e => by rw [e, hH2, List.getElem?_append_right (by omega)]; simp [l1]
  rw [l1] at c75
  have one : ∀ t, g38_P0 (.p (some ⟨false, N, 0⟩)) t → ∃ K' lw lp, callX F1 ro 98 [.yld (N + 3), .p (some ⟨false, N + 1, 0⟩), .p (some ⟨false, N + 1 + 1, 0⟩)] (H2 ++ [some (recB t [35, 36] k38a0 k38c0)]) = some (tupA [], K', lw, lp) ∧ N ≤ lw ∧ N ≤ lp ∧ Keep h K' ∧ RecAt K' (N + 3) ⟨t, [35, 36], k38a0, k38c0⟩ .ready none ∧ ∃ u, Holds K' N [u] ∧ RowG K' (N + 4) 5 u ((wrd z b 100000).map bv) := fun t ht => by
    obtain ⟨K0, hK0⟩ : ∃ K0, K0 = H2 ++ [some (recB t [35, 36] k38a0 k38c0)] := ⟨_, rfl⟩
    have lK : K0.length = N + 4 := by rw [hK0]; simp [l2]
    have kK : Keep H2 K0 := by rw [hK0]; exact Keep.app _
    have rK : RecAt K0 (N + 3) ⟨t, [35, 36], k38a0, k38c0⟩ .ready none := ⟨recB t [35, 36] k38a0 k38c0, by rw [hK0, ← l2]; exact lget_last _ _, rfl⟩
    obtain ⟨C, hC⟩ : ∃ C : Nat → (Nat → Prop) → Heap → Prop, C = fun i S K => N + 4 ≤ K.length ∧ ∃ u, Holds K N [u] ∧ RowG K (N + 4) 5 u ((wrd z b i).map bv) ∧ RecAt K (N + 3) ⟨t, [35, 36], k38a0, k38c0⟩ .ready none ∧ ∀ j, S j ↔ j = N ∨ j = N + 3 ∨ rb u = some j := ⟨_, rfl⟩
    have cons : ConsE ro (N + 3) N N (letE z b) C (fun _ _ => False) := by
      refine ⟨fun {i S K} hc hi => ?_, fun {i S K K'} hc hf => ?_, fun {S K K'} hc _ => hc, fun {i S K} hc j hj => ?_, fun {S K} hc => hc.elim⟩
      · rw [hC] at hc
        obtain ⟨hK, u, g1, g2, g3, g4⟩ := hc
        obtain ⟨blk, e1, e2⟩ := g3
        obtain ⟨Ka, q1, q2, q3, q4⟩ := RecAt.begin (⟨blk, e1, e2⟩ : RecAt K (N + 3) ⟨t, [35, 36], k38a0, k38c0⟩ .ready none)
        have ga : Holds Ka N [u] := g1.keep (q4 _ (by omega))
        have gr : RowG Ka (N + 4) 5 u ((wrd z b i).map bv) := g2.by fun b' hb' => q4 _ (by have := (g2.holds hb').2.1; omega)
        have hwl : (wrd z b i).length = i := by simp [wrd]
        obtain ⟨K2, K3, l', p', s1, s2, g4', n2, n3, o3, b3, b5, b6⟩ := gr.push (ro := ro) (l := min K.length (N + 3)) (p := K.length) (bytes := 1) (z := AVal.i IntKind.u8 0) (w := bv (letE z b i)) (by omega) (by rw [List.length_map]; omega) (by omega) rfl rfl
        have hNu : rb u ≠ some N := fun e => by have := (g2.holds e).2.1; omega
        obtain ⟨K4, t1, t2, t3, t4⟩ := (ga.keep (o3 N (by omega) hNu)).set1 (ro := ro) (w := .sl ⟨false, Ka.length + 1, 0⟩ (((wrd z b i).map bv).length + 1) .grow) rfl rfl
        have t1' := t1 l' p'
        rw [show nonp [AVal.sl ⟨false, Ka.length + 1, 0⟩ (((wrd z b i).map bv).length + 1) .grow] = false from rfl, cond_false] at t1'
        have rec4 : RecAt K4 (N + 3) ⟨t, [35, 36], k38a0, k38c0⟩ .busy none := (q2.keep (o3 _ (by omega) fun e => by have := (g2.holds e).2.1; omega)).keep (t4 _ (by omega))
        obtain ⟨K5, w1, w2, w3, w4⟩ := rec4.done .norm
        have b3' := b3 N (by omega) (by omega) (by omega)
        have hgc : gc K.length (.b AExit.norm.on) ⟨.e, K5, min (min l' N) (N + 3), min p' N⟩ = (.b true, K5, min (min l' N) (N + 3), min p' N) := by
          have : (Nat.ble K.length (min p' N) && (AVal.b AExit.norm.on).bel K.length) = false := by
            rw [Bool.and_eq_false_iff]; left
            rw [← Bool.not_eq_true, Nat.ble_eq]; omega
          simp only [gc, this]
          rfl
        refine ⟨true, K5, min (min l' N) (N + 3), min p' N, fun j => j = N ∨ j = N + 3 ∨ j = Ka.length + 1, g38_r0_ok (meansX_ok F1 ro) e1 e2 ht ?_, by omega, by omega, fun _ => ?_, fun e => (by cases e), by omega, .inl (by omega), fun j hj hn => ?_, fun j hj => ?_⟩
        · unfold g38_r0
          simp only [q1, oS, ga.ld1, s1, pS, s2, t1', w1, hgc]
        · rw [hC]
          refine ⟨by omega, _, t2.keep (w4 _ (by omega)), ?_, w2, fun j => ?_⟩
          · rw [wrd_succ, List.map_append]
            exact g4'.by fun b' hb' => by
              have e5 : Ka.length + 1 = b' := by simpa [rb] using hb'
              rw [w4 _ (by omega), t4 _ (by omega)]
          · simp only [rb, Option.some.injEq]
            constructor
            · rintro (h | h | h)
              · exact .inl h
              · exact .inr (.inl h)
              · exact .inr (.inr h.symm)
            · rintro (h | h | h)
              · exact .inl h
              · exact .inr (.inl h)
              · exact .inr (.inr h.symm)
        · have hn' := fun h => hn ((g4 j).2 h)
          have h1 : j ≠ N := fun e => hn' (.inl e)
          have h2 : j ≠ N + 3 := fun e => hn' (.inr (.inl e))
          have h3 : rb u ≠ some j := fun e => hn' (.inr (.inr e))
          rw [w4 j h2, t4 j h1, o3 j (by omega) h3, q4 j h2]
        · rcases hj with h | h | h
          · exact .inl ((g4 j).2 (.inl h))
          · exact .inl ((g4 j).2 (.inr (.inl h)))
          · exact .inr (by omega)
      · rw [hC] at hc ⊢
        obtain ⟨hK, u, g1, g2, g3, g4⟩ := hc
        have n1 := hf N ((g4 N).2 (.inl rfl))
        have n2 := hf (N + 3) ((g4 _).2 (.inr (.inl rfl)))
        have r3 := g3.keep n2
        have r1 := g1.keep n1
        exact ⟨by have := r3.lt; omega, u, r1, g2.by fun b' hb' => hf _ ((g4 _).2 (.inr (.inr hb'))), r3, g4⟩
      · rw [hC] at hc
        obtain ⟨hK, u, g1, g2, g3, g4⟩ := hc
        rcases (g4 j).1 hj with h | h | h
        · omega
        · omega
        · exact (g2.holds h).1.lt
    have hC0 : C 0 (fun j => j = N ∨ j = N + 3) K0 := by
      rw [hC]
      exact ⟨by omega, .nsl, (o1.by k2).by kK, RowG.nil _ _ _, rK, fun j => by simp [rb]⟩
    obtain ⟨K', lw, lp, S', t1, t2, t3, t4, t5, t6, t7⟩ := endless98 (ro := ro) (z := z) (b := b) (rbk := N + 3) (rx := N + 1) (px := N + 1 + 1) (L0 := N) (Lc := N) (hB := h) (K0 := K0) (S0 := fun j => j = N ∨ j = N + 3) hBud a ((k1.trans k2).trans kK) (x0'.by kK) (x1'.by kK) (by omega) (fun j hj => by omega) (by omega) (by omega) cons hC0
    rcases t4 with t4 | t4
    · rw [hC] at t4
      obtain ⟨hK, u, g1, g2, g3, g4⟩ := t4
      refine ⟨K', lw, lp, by rw [← hK0]; exact t1, t2, t3, ⟨by omega, fun i hi => ?_⟩, g3, u, g1, g2⟩
      rw [t6 i (by omega) (by omega), kK.2 i (by omega), k2.2 i (by omega), k1.2 i hi]
    · exact t4.elim
  have c75' := callM_of (a := N) (b := N) c75
  rw [show min N (N + 1) = N by omega] at c75'
  simp only [← hN, b1, pS, mC, c75']
  refine rngK_eq (t := Tr.e.set 11 (.p (some ⟨false, N, 0⟩))) ⟨trivial, by simp⟩ fun t ht => ?_
  obtain ⟨K', lw, lp, t1, t2, t3, t4, t5, u, g1, g2⟩ := one t ht
  have hN5 : N + 3 < K'.length := t5.lt
  have e2 := t5.ended (by decide)
  have kJ : Keep h (lset none K' (N + 3)) := by rw [lset_eq]; exact t4.set (by omega) none
  obtain ⟨J, hJ⟩ : ∃ J, J = lset none K' (N + 3) := ⟨_, rfl⟩
  have lJ : J.length = K'.length := by rw [hJ, lset_eq]; simp
  have o1' : Holds J N [u] := g1.keep (by rw [hJ, lset_eq]; exact List.getElem?_set_ne (by omega))
  have o2' : RowG J (N + 4) 5 u ((wrd z b 100000).map bv) := g2.by fun b' hb' => by rw [hJ, lset_eq]; exact List.getElem?_set_ne (by have := (g2.holds hb').2.1; omega)
  rw [← hJ] at e2 kJ
  refine ⟨(.norm, ⟨J, N, N⟩), ?_, ?_⟩
  · unfold rngT rngA
    simp only [List.nil_append, List.cons_append, l2, t1, e2]
    show some (AExit.norm, (⟨J, min (min N lw) (N + 3), min N lp⟩ : Mm)) = _
    rw [show min (min N lw) (N + 3) = N by omega, show min N lp = N by omega]
  · simp only [onE]
    obtain ⟨J1, m1, m2, m3, m4⟩ := mkm_ok (ro := ro) (K := J) (l := N) (p := N)
    have hwl : (wrd z b 100000).length = 100000 := by simp [wrd]
    have key : ∃ r, loopX (fun q : Int × Mm => g38_b1 (meansX F1 ro) ro (n : Int) (.p (some ⟨false, N, 0⟩)) (.mp J.length) q.1 q.2) ((n : Int), ⟨J1, N, N⟩) = some r ∧ ∃ K, r = ⟨K, N, N⟩ ∧ MapAt K J.length ((winsF (wrd z b 100000) n (100001 - n)).foldl addK []) ∧ K.length = J1.length ∧ ∀ i, i ≠ J.length → K[i]? = J1[i]? := by
      refine loop_gen (100001 - n) (fun k q => ∃ K, q = (((n + k : Nat) : Int), ⟨K, N, N⟩) ∧ MapAt K J.length ((winsF (wrd z b 100000) n k).foldl addK []) ∧ K.length = J1.length ∧ ∀ i, i ≠ J.length → K[i]? = J1[i]?) _ ?_ ?_ (100001 - n) 0 _ (by omega) ⟨J1, rfl, m2, rfl, fun _ _ => rfl⟩
      · rintro k q hk ⟨K, rfl, f1, f2, f3⟩
        have kN : K[N]? = J[N]? := by rw [f3 N (by omega), m3.2 N (by omega)]
        have oN := o1'.keep kN
        have gK : RowG K (N + 4) 5 u ((wrd z b 100000).map bv) := o2'.by fun b' hb' => by
          have := (o2'.holds hb').1.lt
          rw [f3 b' (by omega), m3.2 b' (by omega)]
        have hln : evP .e (.len false (.c u)) = some (.i .i64 ((100000 : Nat) : Int)) := by
          rcases gK with ⟨-, e⟩ | ⟨b', blk, e, -⟩
          · have := congrArg List.length e; simp [hwl] at this
          · rw [e]
            have := len_sl (q := ⟨false, b', 0⟩) (n := ((wrd z b 100000).map bv).length) (c := .grow)
            rw [List.length_map, hwl] at this
            rw [List.length_map, hwl]; exact this
        obtain ⟨w, w1, w2⟩ := win_row (ro := ro) (l := N) (p := N) gK (lo := k) (hi := n + k) (by omega) (by omega)
        obtain ⟨K', y1, y2, y3, y4⟩ := f1.up (ro := ro) (l := N) (p := N) (s := ((wrd z b 100000).take (n + k)).drop k)
        rw [show min N J.length = N by omega] at y1
        have e3 : wr .i64 (((n + k : Nat) : Int) - (n : Int)) = (k : Int) := by rw [wr_id' (by omega) (by omega)]; omega
        refine ⟨_, (by simp only [g38_b1, oN.ld1, oS, hln, iS, fB, ltF (show ¬ ((100000 : Nat) : Int) < ((n + k : Nat) : Int) by omega), nF, cT, fI', e3, w1, w2, sS, y1, pS, nx (show n + k ≤ 1000000 by omega)] <;> rfl), K', rfl, ?_, by omega, fun i hi => by rw [y4 i hi, f3 i hi]⟩
        show MapAt K' J.length ((winsF (wrd z b 100000) n k ++ [_]).foldl addK [])
        rw [List.foldl_append]
        exact y2
      · rintro q ⟨K, rfl, f1, f2, f3⟩
        have kN : K[N]? = J[N]? := by rw [f3 N (by omega), m3.2 N (by omega)]
        have oN := o1'.keep kN
        have gK : RowG K (N + 4) 5 u ((wrd z b 100000).map bv) := o2'.by fun b' hb' => by
          have := (o2'.holds hb').1.lt
          rw [f3 b' (by omega), m3.2 b' (by omega)]
        have hln : evP .e (.len false (.c u)) = some (.i .i64 ((100000 : Nat) : Int)) := by
          rcases gK with ⟨-, e⟩ | ⟨b', blk, e, -⟩
          · have := congrArg List.length e; simp [hwl] at this
          · rw [e]
            have := len_sl (q := ⟨false, b', 0⟩) (n := ((wrd z b 100000).map bv).length) (c := .grow)
            rw [List.length_map, hwl] at this
            rw [List.length_map, hwl]; exact this
        exact ⟨_, (by simp only [g38_b1, oN.ld1, oS, hln, iS, fB, ltT (show ((100000 : Nat) : Int) < ((n + (100001 - n) : Nat) : Int) by omega), nT, cF] <;> rfl), K, rfl, f1, f2, f3⟩
    obtain ⟨r, q1, K, rfl, f1, f2, f3⟩ := key
    simp only [m1, pS, meansX_loop, q1, oS, f1.len, iS, tA2]
    have kK : Keep h K := ⟨by have := kJ.1; omega, fun i hi => by rw [f3 i (by have := kJ.1; omega), m3.2 i (by have := kJ.1; omega), kJ.2 i hi]⟩
    subst hN
    exact fin_keep kK rfl
end
end Go.Proofs.Ytfohppnelbbepaa.T
/- Thue and Morse -/
open Go.Vm
set_option linter.unusedVariables false
set_option linter.unusedSectionVars false
namespace Go.Proofs.Ytfohppnelbbepaa.T
open Go
variable [Ovr]
/- how many different ones there are -/
section
variable {α : Type} [DecidableEq α]
theorem addK_mem {ks : List α} {s x : α} : x ∈ addK ks s ↔ x ∈ ks ∨ x = s := by
  unfold addK
  split
  · rename_i h
    exact ⟨.inl, fun e => by rcases e with e | e; exact e; rw [e]; exact h⟩
  · simp
theorem addK_nodup {ks : List α} {s : α} (h : ks.Nodup) : (addK ks s).Nodup := by
  unfold addK
  split
  · exact h
  · rename_i hn
    rw [List.nodup_append]
    exact ⟨h, by simp, fun a ha b hb e => by simp only [List.mem_singleton] at hb; rw [e, hb] at ha; exact hn ha⟩
theorem foldK : ∀ (l ks : List α), ks.Nodup → (l.foldl addK ks).Nodup ∧ ∀ x, x ∈ l.foldl addK ks ↔ x ∈ ks ∨ x ∈ l
  | [], ks, h => ⟨h, fun x => by simp⟩
  | s :: l, ks, h => by
    obtain ⟨h1, h2⟩ := foldK l (addK ks s) (addK_nodup h)
    refine ⟨h1, fun x => ?_⟩
    rw [List.foldl_cons, h2 x, addK_mem, List.mem_cons]
    constructor
    · rintro ((h | h) | h)
      · exact .inl h
      · exact .inr (.inl h)
      · exact .inr (.inr h)
    · rintro (h | h | h)
      · exact .inl (.inl h)
      · exact .inl (.inr h)
      · exact .inr h
theorem nodup_le : ∀ {l m : List α}, l.Nodup → (∀ x ∈ l, x ∈ m) → l.length ≤ m.length
  | [], m, _, _ => Nat.zero_le _
  | a :: l, m, h, hs => by
    rw [List.nodup_cons] at h
    have ha := hs a List.mem_cons_self
    have := nodup_le (l := l) (m := m.erase a) h.2 fun x hx => (List.mem_erase_of_ne (fun e => by rw [e] at hx; exact h.1 hx)).2 (hs x (List.mem_cons_of_mem _ hx))
    have e := List.length_erase_of_mem ha
    have : 0 < m.length := List.length_pos_of_mem ha
    simp only [List.length_cons]
    omega
theorem dis_eq {l m : List α} (hm : m.Nodup) (h : ∀ x, x ∈ l ↔ x ∈ m) : (l.foldl addK []).length = m.length := by
  obtain ⟨h1, h2⟩ := foldK l [] List.nodup_nil
  refine Nat.le_antisymm (nodup_le h1 fun x hx => ?_) (nodup_le hm fun x hx => ?_)
  · rcases (h2 x).1 hx with h' | h'
    · cases h'
    · exact (h x).1 h'
  · exact (h2 x).2 (.inr ((h x).2 hx))
end
theorem winsF_mem {s w : List UInt8} {n : Nat} : ∀ {m : Nat}, w ∈ winsF s n m ↔ ∃ k, k < m ∧ w = (s.take (n + k)).drop k
  | 0 => ⟨fun h => (by cases h), fun ⟨k, h, _⟩ => (by omega)⟩
  | m + 1 => by
    show w ∈ winsF s n m ++ [_] ↔ _
    rw [List.mem_append, winsF_mem, List.mem_singleton]
    constructor
    · rintro (⟨k, h1, h2⟩ | h)
      · exact ⟨k, by omega, h2⟩
      · exact ⟨m, by omega, h⟩
    · rintro ⟨k, h1, h2⟩
      by_cases e : k = m
      · subst e; exact .inr h2
      · exact .inl ⟨k, by omega, h2⟩
theorem wrd_take {z : List (List UInt8)} {b n k : Nat} (h : k ≤ n) : (wrd z b n).take k = wrd z b k := by
  unfold wrd
  rw [← List.map_take, List.take_range, Nat.min_eq_left h]
theorem wrd_win (z : List (List UInt8)) (b k : Nat) : ∀ m, (wrd z b (k + m)).drop k = (List.range m).map fun j => letE z b (k + j)
  | 0 => by rw [List.drop_of_length_le (by simp [wrd])]; rfl
  | m + 1 => by
    rw [← Nat.add_assoc, wrd_succ, List.drop_append_of_le_length (by simp [wrd]), wrd_win z b k m, List.range_succ, List.map_append]
    rfl
/- the word of Thue and Morse -/
theorem shootE_pre (z : List (List UInt8)) (b : Nat) {i k : Nat} (hk : k < (shootE z b i).length) : ∀ j, (shootE z b (i + j)).getD k 0 = (shootE z b i).getD k 0 ∧ k < (shootE z b (i + j)).length
  | 0 => ⟨rfl, hk⟩
  | j + 1 => by
    obtain ⟨h1, h2⟩ := shootE_pre z b hk j
    have e : shootE z b (i + j + 1) = shootE z b (i + j) ++ z.getD (ix ((shootE z b (i + j)).getD (i + j + 1) 0)) [] := rfl
    refine ⟨?_, ?_⟩
    · show (shootE z b (i + j + 1)).getD k 0 = _
      rw [← h1, e, List.getD_eq_getElem?_getD, List.getElem?_append_left h2, ← List.getD_eq_getElem?_getD]
    · show k < (shootE z b (i + j + 1)).length
      rw [e, List.length_append]; omega
abbrev zT : List (List UInt8) := [[97, 98], [98, 97]]
theorem zT_two {x : UInt8} (h : x = 97 ∨ x = 98) : ∃ a b : UInt8, zT.getD (ix x) [] = [a, b] ∧ a ≠ b ∧ (a = 97 ∨ a = 98) ∧ (b = 97 ∨ b = 98) := by
  rcases h with rfl | rfl
  · exact ⟨97, 98, rfl, by decide, .inl rfl, .inr rfl⟩
  · exact ⟨98, 97, rfl, by decide, .inr rfl, .inl rfl⟩
theorem zT_len : ∀ i, (shootE zT 0 i).length = 2 * (i + 1) ∧ ∀ x ∈ shootE zT 0 i, x = 97 ∨ x = 98
  | 0 => ⟨rfl, fun x hx => by
    have : x ∈ ([97, 98] : List UInt8) := hx
    simpa using this⟩
  | i + 1 => by
    obtain ⟨h1, h2⟩ := zT_len i
    have e : shootE zT 0 (i + 1) = shootE zT 0 i ++ zT.getD (ix ((shootE zT 0 i).getD (i + 1) 0)) [] := rfl
    have hm : (shootE zT 0 i).getD (i + 1) 0 ∈ shootE zT 0 i := by
      have : i + 1 < (shootE zT 0 i).length := by omega
      rw [List.getD_eq_getElem?_getD, List.getElem?_eq_getElem this]
      exact List.getElem_mem this
    obtain ⟨a, b, e1, -, ha, hb⟩ := zT_two (h2 _ hm)
    rw [e, e1]
    refine ⟨by rw [List.length_append, h1]; simp; omega, fun x hx => ?_⟩
    rcases List.mem_append.1 hx with hx | hx
    · exact h2 x hx
    · simp only [List.mem_cons, List.not_mem_nil, or_false] at hx
      rcases hx with rfl | rfl
      · exact ha
      · exact hb
theorem zT_let (i : Nat) : letE zT 0 i = 97 ∨ letE zT 0 i = 98 := by
  obtain ⟨h1, h2⟩ := zT_len i
  have : i < (shootE zT 0 i).length := by omega
  unfold letE
  rw [List.getD_eq_getElem?_getD, List.getElem?_eq_getElem this]
  exact h2 _ (List.getElem_mem this)
theorem zT_pair : ∀ i, letE zT 0 (2 * i) ≠ letE zT 0 (2 * i + 1)
  | 0 => by decide
  | i + 1 => by
    obtain ⟨h1, h2⟩ := zT_len i
    have e : shootE zT 0 (i + 1) = shootE zT 0 i ++ zT.getD (ix ((shootE zT 0 i).getD (i + 1) 0)) [] := rfl
    have hm : (shootE zT 0 i).getD (i + 1) 0 ∈ shootE zT 0 i := by
      have : i + 1 < (shootE zT 0 i).length := by omega
      rw [List.getD_eq_getElem?_getD, List.getElem?_eq_getElem this]
      exact List.getElem_mem this
    obtain ⟨a, b, e1, hab, -, -⟩ := zT_two (h2 _ hm)
    rw [e1] at e
    have hl := (zT_len (i + 1)).1
    have p1 := (shootE_pre zT 0 (i := i + 1) (k := 2 * (i + 1)) (by omega) (i + 1)).1
    have p2 := (shootE_pre zT 0 (i := i + 1) (k := 2 * (i + 1) + 1) (by omega) (i + 2)).1
    have q1 : letE zT 0 (2 * (i + 1)) = a := by
      unfold letE
      rw [show 2 * (i + 1) = i + 1 + (i + 1) by omega] at p1 ⊢
      rw [p1, e, List.getD_eq_getElem?_getD, List.getElem?_append_right (by omega), h1, show i + 1 + (i + 1) - 2 * (i + 1) = 0 by omega]
      rfl
    have q2 : letE zT 0 (2 * (i + 1) + 1) = b := by
      unfold letE
      rw [show 2 * (i + 1) + 1 = i + 1 + (i + 2) by omega] at p2 ⊢
      rw [p2, e, List.getD_eq_getElem?_getD, List.getElem?_append_right (by omega), h1, show i + 1 + (i + 2) - 2 * (i + 1) = 1 by omega]
      rfl
    rw [q1, q2]; exact hab
def m6 : List (List UInt8) := [[97, 98, 98], [98, 98, 97], [98, 97, 98], [97, 98, 97], [98, 97, 97], [97, 97, 98]]
theorem zT_win {k : Nat} (hk : 3 + k ≤ 100000) : ((wrd zT 0 100000).take (3 + k)).drop k = [letE zT 0 k, letE zT 0 (k + 1), letE zT 0 (k + 2)] := by
  rw [wrd_take hk, Nat.add_comm 3 k, wrd_win]; rfl
theorem factTM : factN zT 0 3 = 6 := by
  have : (6 : Nat) = m6.length := rfl
  unfold factN
  rw [this]
  refine dis_eq (by decide) fun w => ?_
  rw [winsF_mem]
  constructor
  · rintro ⟨k, hk, rfl⟩
    rw [zT_win (by omega)]
    have a0 := zT_let k
    have a1 := zT_let (k + 1)
    have a2 := zT_let (k + 2)
    have hne : letE zT 0 k ≠ letE zT 0 (k + 1) ∨ letE zT 0 (k + 1) ≠ letE zT 0 (k + 2) := by
      rcases Nat.mod_two_eq_zero_or_one k with h | h
      · have := zT_pair (k / 2)
        rw [show 2 * (k / 2) = k by omega] at this
        exact .inl this
      · have := zT_pair ((k + 1) / 2)
        rw [show 2 * ((k + 1) / 2) = k + 1 by omega] at this
        exact .inr this
    generalize letE zT 0 k = x at a0 hne ⊢
    generalize letE zT 0 (k + 1) = y at a1 hne ⊢
    generalize letE zT 0 (k + 2) = w at a2 hne ⊢
    rcases a0 with rfl | rfl <;> rcases a1 with rfl | rfl <;> rcases a2 with rfl | rfl <;> first | decide | (exfalso; rcases hne with h | h <;> exact h rfl)
  · intro hw
    have e : ∀ k, k < 6 → ((wrd zT 0 100000).take (3 + k)).drop k = m6.getD k [] := fun k hk => by
      rw [zT_win (by omega)]
      match k, hk with
      | 0, _ => decide
      | 1, _ => decide
      | 2, _ => decide
      | 3, _ => decide
      | 4, _ => decide
      | 5, _ => decide
    obtain ⟨k, hk, rfl⟩ := List.getElem_of_mem hw
    have hk6 : k < 6 := hk
    exact ⟨k, by omega, by rw [e k hk6]; simp [List.getD, hk]⟩
theorem factV_T : factV zT [97] 3 = (6, 0) := by
  have h0 : errU zT [97] = 0 := by
    have hl : ∀ s : List UInt8, s = [97, 98] ∨ s = [98, 97] ∨ s = [97] → has 2 s := fun s hs => has_mem.2 fun b hb => by
      rcases hs with rfl | rfl | rfl <;> simp only [List.mem_cons, List.not_mem_nil, or_false] at hb
      · rcases hb with rfl | rfl <;> decide
      · rcases hb with rfl | rfl <;> decide
      · subst hb; decide
    have hv : errV zT = 0 := by
      unfold errV
      rw [if_neg (by decide), if_pos]
      intro i hi
      match i, hi with
      | 0, _ => exact ⟨by decide, hl _ (.inl rfl)⟩
      | 1, _ => exact ⟨by decide, hl _ (.inr (.inl rfl))⟩
    unfold errU
    rw [if_neg (by simp [hv]), if_pos ⟨rfl, hl _ (.inr (.inr rfl))⟩, if_pos (by decide)]
  unfold factV
  rw [if_neg (by simp [h0]), if_neg (by decide)]
  have : factN zT (ix (([97] : List UInt8).getD 0 0)) (Int.toNat 3) = 6 := factTM
  rw [this]
  rfl
end Go.Proofs.Ytfohppnelbbepaa.T
/- alive -/
open Go.Vm
set_option linter.unusedVariables false
set_option linter.unusedSectionVars false
namespace Go.Proofs.Ytfohppnelbbepaa.T
open Go
variable [Ovr]
def isStr (v : AVal) (l : List UInt8) : Bool := match v with
  | .s s => eqL s l
  | _ => false
theorem isStr_eq {v : AVal} {l : List UInt8} (h : isStr v l = true) : v = .s l := by
  cases v with
  | s s =>
    have h' : eqL s l = true := h
    rw [eqL_dec] at h'
    simp only [decide_eq_true_eq] at h'
    rw [h']
  | _ => cases h
def knownT : Caller := fun f a h => cond (Nat.beq f 38) (match a with
  | [.sl q n _, .s s, .i .i64 x] => match lget h q.b with
    | some (some blk) => cond (!q.ro && Nat.beq q.off 0 && Nat.beq n 2 && Nat.ble 2 blk.n && isStr (blk.c.get 0) [97, 98] && isStr (blk.c.get 1) [98, 97] && eqL s [97] && eqI x 3) (some (.tup [.i .i64 6, .i .i64 0], h, h.length, h.length)) none
    | _ => none
  | _ => none) none
theorem knownT_le {ro : List ABlk} {f : Nat} {a : List AVal} {h : Heap} {r : AVal × Heap × Nat × Nat} (hr : knownT f a h = some r) : callX F1 ro f a h = some r := by
  unfold knownT at hr
  cases hf : Nat.beq f 38
  · rw [hf] at hr; cases hr
  obtain rfl : f = 38 := Nat.eq_of_beq_eq_true hf
  rw [hf, cond_true] at hr
  split at hr
  rotate_left
  · cases hr
  rename_i q n c s x
  split at hr
  rotate_left
  · cases hr
  rename_i blk hb
  cases hc : (!q.ro && Nat.beq q.off 0 && Nat.beq n 2 && Nat.ble 2 blk.n && isStr (blk.c.get 0) [97, 98] && isStr (blk.c.get 1) [98, 97] && eqL s [97] && eqI x 3)
  · rw [hc] at hr; cases hr
  rw [hc, cond_true] at hr
  cases hr
  simp only [Bool.and_eq_true, Bool.not_eq_true', Nat.ble_eq] at hc
  obtain ⟨⟨⟨⟨⟨⟨⟨c1, c2⟩, c3⟩, c4⟩, c5⟩, c6⟩, c7⟩, c8⟩ := hc
  have d2 := Nat.eq_of_beq_eq_true c2
  have d3 := Nat.eq_of_beq_eq_true c3
  have c5 := isStr_eq c5
  have c6 := isStr_eq c6
  rw [eqL_dec, decide_eq_true_eq] at c7
  rw [eqI_eq, beq_iff_eq] at c8
  subst d3 c7 c8
  obtain ⟨r, b, o⟩ := q
  simp only at c1 d2 hb
  subst c1 d2
  have hS : IsS ro h (.sl ⟨false, b, 0⟩ 2 c) zT := by
    refine .inr ⟨_, _, blk, rfl, rdB_heap hb 0, by show 0 + 2 ≤ _; omega, fun j hj => ?_⟩
    rw [Nat.zero_add]
    match j, hj with
    | 0, _ => exact c5
    | 1, _ => exact c6
  have := factors38 (ro := ro) (h := h) (s := [97]) (x := 3) hS (by decide) (fun i hi => by match i, hi with | 0, _ => decide | 1, _ => decide) (by decide)
  rw [factV_T] at this
  exact this
abbrev FT : Tab := ⟨F, knownT⟩
def okA (o : Option (AVal × Heap × Nat × Nat)) : Bool := match o with
  | some (.b true, _, _, _) => true
  | _ => false
omit [Ovr] in
theorem okA_eq {o : Option (AVal × Heap × Nat × Nat)} (h : okA o = true) : ∃ hp lw lp, o = some (.b true, hp, lw, lp) := by
  unfold okA at h
  split at h
  · exact ⟨_, _, _, rfl⟩
  · cases h
omit [Ovr] in
theorem aliveS : okA (callA FT [] (exec FT [] 200) 16 [] []) = true := by decide +kernel
omit [Ovr] in
theorem aliveT : ∃ hp lw lp, callX FT [] 16 [] [] = some (.b true, hp, lw, lp) := by
  obtain ⟨hp, lw, lp, e⟩ := okA_eq aliveS
  exact ⟨hp, lw, lp, callX_some.2 ⟨200, e⟩⟩
section
variable {E : Env} (hE : E.Ok) (hm : E.P.follows .mixedOrders = true) (hF : FOk E.P F)
include hE hm hF
omit [Ovr] in
theorem knownT_ok : CallOk E knownT := by
  letI : Ovr := ⟨noCall, fun _ => rfl⟩
  exact le_ok (callX_sound hE hm (F := F1) hF noCall_ok) fun f a h r hr => knownT_le hr
omit [Ovr] in
theorem alive_known : CallOk E (known0 16 (.b true)) := by
  obtain ⟨hp, lw, lp, e⟩ := aliveT
  exact known0_ok (callX_sound (E := E.bare) (Env.bare_ok hE) hm (F := FT) hF (knownT_ok (Env.bare_ok hE) hm hF)) e rfl
end
@[reducible] def ovA : Ovr := ⟨known0 16 (.b true), fun {f a h} e => by
  unfold known0
  cases a with
  | nil => simp only [e, cond_false]
  | cons _ _ => rfl⟩
end Go.Proofs.Ytfohppnelbbepaa.T
/- At -/
open Go.Vm
set_option linter.unusedVariables false
set_option linter.unusedSectionVars false
namespace Go.Proofs.Ytfohppnelbbepaa.T
open Go
variable [Ovr]
section
variable {ro : List ABlk} {h hp : Heap}
end
end Go.Proofs.Ytfohppnelbbepaa.T
/- At of the reference -/
open Go.Vm
set_option linter.unusedVariables false
set_option linter.unusedSectionVars false
namespace Go.Proofs.Ytfohppnelbbepaa.T
open Go
variable [Ovr]
section
variable {ro : List ABlk} {h hp : Heap}
end
end Go.Proofs.Ytfohppnelbbepaa.T
/- Law 4 -/
open Go.Vm
set_option linter.unusedVariables false
set_option linter.unusedSectionVars false
namespace Go.Proofs.Ytfohppnelbbepaa.T
open Go
variable [Ovr]
section
variable {ro : List ABlk} {h hp : Heap}
theorem strNe {s t : List UInt8} : evP .e (.sbin BinOp.neq (.c (.s s)) (.c (AVal.s t))) = some (.b (!decide (s = t))) := by
  simp only [evP, ev_sbin, opd, sOp, eqL_dec]
end
end Go.Proofs.Ytfohppnelbbepaa.T
/- Counts of the reference -/
open Go.Vm
set_option linter.unusedVariables false
set_option linter.unusedSectionVars false
namespace Go.Proofs.Ytfohppnelbbepaa.T
open Go
variable [Ovr]
section
variable {ro : List ABlk} {h hp : Heap}
end
end Go.Proofs.Ytfohppnelbbepaa.T
/- Buds of the reference, Endless -/
open Go.Vm
set_option linter.unusedVariables false
set_option linter.unusedSectionVars false
namespace Go.Proofs.Ytfohppnelbbepaa.T
open Go
variable [Ovr]
section
variable {ro : List ABlk} {h hp : Heap}
theorem RowG.row {L e : Nat} {v : AVal} {z : List Int} (g : RowG hp L e v (z.map (AVal.i .i64))) : IsRow ro hp v z := by
  rcases g with ⟨rfl, h⟩ | ⟨b, blk, rfl, h2, h3, h4, h5, h6, h7⟩
  · exact .inl ⟨rfl, by simpa using h⟩
  · rw [List.length_map] at h6 h7 ⊢
    refine .inr ⟨_, _, blk, rfl, rdB_heap h4 0, by show 0 + z.length ≤ _; omega, fun j hj => ?_⟩
    rw [Nat.zero_add, h7 j hj]
    simp [List.getD, hj]
end
end Go.Proofs.Ytfohppnelbbepaa.T
/- Letter -/
open Go.Vm
set_option linter.unusedVariables false
set_option linter.unusedSectionVars false
namespace Go.Proofs.Ytfohppnelbbepaa.T
open Go
variable [Ovr]
section
variable {ro : List ABlk} {h hp : Heap}
end
end Go.Proofs.Ytfohppnelbbepaa.T
/- Letter of the reference, law 7 -/
open Go.Vm
set_option linter.unusedVariables false
set_option linter.unusedSectionVars false
namespace Go.Proofs.Ytfohppnelbbepaa.T
open Go
variable [Ovr]
section
variable {ro : List ABlk} {h hp : Heap}
end
end Go.Proofs.Ytfohppnelbbepaa.T
/- Parts of the reference -/
open Go.Vm
set_option linter.unusedVariables false
set_option linter.unusedSectionVars false
namespace Go.Proofs.Ytfohppnelbbepaa.T
open Go
variable [Ovr]
section
variable {ro : List ABlk} {h hp : Heap}
theorem Holds.row {K : Heap} {b n : Nat} {c : Cap} {x : List Int} (a : Holds K b (x.map (AVal.i .i64))) (hn : n = x.length) : IsRow ro K (.sl ⟨false, b, 0⟩ n c) x := by
  subst hn
  obtain ⟨blk, h1, h2, h3⟩ := a
  rw [List.length_map] at h2 h3
  refine .inr ⟨_, _, blk, rfl, rdB_heap h1 0, by show 0 + x.length ≤ _; omega, fun j hj => ?_⟩
  rw [Nat.zero_add, h3 j hj]
  simp [List.getD, hj]
def cntOk (z : List (List UInt8)) (y : Nat) (s : List UInt8) (k : Nat) : Prop := ∀ p, p < k → (grw z y s).count (lt p) ≤ 1152921504606846976
noncomputable instance {z : List (List UInt8)} {y : Nat} {s : List UInt8} {k : Nat} : Decidable (cntOk z y s k) := Classical.propDecidable _
end
end Go.Proofs.Ytfohppnelbbepaa.T
/- Parts, law 3 -/
open Go.Vm
set_option linter.unusedVariables false
set_option linter.unusedSectionVars false
namespace Go.Proofs.Ytfohppnelbbepaa.T
open Go
variable [Ovr]
section
variable {ro : List ABlk} {h hp : Heap}
end
end Go.Proofs.Ytfohppnelbbepaa.T
/- sorted of the reference -/
open Go.Vm
set_option linter.unusedVariables false
set_option linter.unusedSectionVars false
namespace Go.Proofs.Ytfohppnelbbepaa.T
open Go
variable [Ovr]
section
variable {ro : List ABlk} {h hp : Heap}
end
end Go.Proofs.Ytfohppnelbbepaa.T
/- Factors of the reference, law 8 -/
open Go.Vm
set_option linter.unusedVariables false
set_option linter.unusedSectionVars false
namespace Go.Proofs.Ytfohppnelbbepaa.T
open Go
variable [Ovr]
section
variable {ro : List ABlk} {h hp : Heap}
end
end Go.Proofs.Ytfohppnelbbepaa.T
/- The word of Fibonacci -/
open Go.Vm
set_option linter.unusedVariables false
set_option linter.unusedSectionVars false
namespace Go.Proofs.Ytfohppnelbbepaa.T
open Go
variable [Ovr]
/- the word of Fibonacci -/
/- how often each letter lies in the word of Thue and Morse -/
end Go.Proofs.Ytfohppnelbbepaa.T
/- Law 14 -/
open Go.Vm
set_option linter.unusedVariables false
set_option linter.unusedSectionVars false
namespace Go.Proofs.Ytfohppnelbbepaa.T
open Go
variable [Ovr]
section
variable {ro : List ABlk} {h hp : Heap}
end
end Go.Proofs.Ytfohppnelbbepaa.T
/- Law 13 -/
open Go.Vm
set_option linter.unusedVariables false
set_option linter.unusedSectionVars false
namespace Go.Proofs.Ytfohppnelbbepaa.T
open Go
variable [Ovr]
/- what a bud becomes is a beginning of the word -/
section
variable {ro : List ABlk} {h hp : Heap}
end
end Go.Proofs.Ytfohppnelbbepaa.T
/- Law 10 -/
open Go.Vm
set_option linter.unusedVariables false
set_option linter.unusedSectionVars false
namespace Go.Proofs.Ytfohppnelbbepaa.T
open Go
variable [Ovr]
section
variable {ro : List ABlk} {h hp : Heap}
end
end Go.Proofs.Ytfohppnelbbepaa.T
/- Dies, both -/
open Go.Vm
set_option linter.unusedVariables false
set_option linter.unusedSectionVars false
namespace Go.Proofs.Ytfohppnelbbepaa.T
open Go
variable [Ovr]
section
variable {ro : List ABlk} {h hp : Heap}
end
end Go.Proofs.Ytfohppnelbbepaa.T
/- A cell of a new matrix -/
open Go.Vm
set_option linter.unusedVariables false
set_option linter.unusedSectionVars false
namespace Go.Proofs.Ytfohppnelbbepaa.T
open Go
variable [Ovr]
section
variable {ro : List ABlk} {h hp : Heap} {α : Type} {enc : α → AVal}
def setM (x : List (List α)) (r c : Nat) (y : α) : List (List α) := x.set r ((x.getD r []).set c y)
theorem setM_len (x : List (List α)) (r c : Nat) (y : α) : (setM x r c y).length = x.length := by simp [setM]
theorem setM_row {x : List (List α)} {r c : Nat} {y : α} (hr : r < x.length) (t : Nat) : (setM x r c y).getD t [] = if t = r then (x.getD r []).set c y else x.getD t [] := by
  unfold setM
  rw [List.getD_eq_getElem?_getD, List.getElem?_set]
  by_cases e : r = t
  · subst e; simp [hr]
  · rw [if_neg e, if_neg fun e2 => e e2.symm, List.getD_eq_getElem?_getD]
theorem setM_rlen {x : List (List α)} {r c : Nat} {y : α} (hr : r < x.length) (t : Nat) : ((setM x r c y).getD t []).length = (x.getD t []).length := by
  rw [setM_row hr]
  split
  · rename_i e; rw [e, List.length_set]
  · rfl
theorem NewM.put {H : Heap} {L : Nat} {w : AVal} {x : List (List α)} (a : NewM enc H L w x) {r c : Nat} {y0 y : α} (hr : r < x.length) (hc : (x.getD r [])[c]? = some y0) (h1 : (enc y).one = true) (h2 : (enc y).cells = [enc y]) (h3 : nonp [enc y] = true) :
    ∃ q u q2 H', evP .e (.ixS 1 (.c w) (.c (.i .i64 (r : Int)))) = some q ∧ (∀ l p, ldM ro ⟨H, l, p⟩ true 1 q = some u) ∧ evP .e (.ixS 1 (.c u) (.c (.i .i64 (c : Int)))) = some q2 ∧ (∀ l p, ldM ro ⟨H, l, p⟩ true 1 q2 = some (enc y0)) ∧
      (∀ l p, l ≤ L → stepM ro ⟨H, l, p⟩ (.st 1 (.c q2) (.c (enc y))) = some (und, ⟨H', l, p⟩)) ∧ NewM enc H' L w (setM x r c y) ∧ H'.length = H.length ∧ ∀ i, i ≤ L → H'[i]? = H[i]? := by
  obtain ⟨bs, cs, rfl, g1, g2, g3⟩ := a
  obtain ⟨hL, hb⟩ := g2 r hr
  have hcl : c < (x.getD r []).length := (List.getElem?_eq_some_iff.1 hc).1
  obtain ⟨H', s1, f1, f2, f3⟩ := hb.put (ro := ro) (k := c) (w := enc y) (by rw [List.length_map]; exact hcl) h1 h2
  refine ⟨_, _, _, H', ixS_eq hr, fun l p => (g1.ld (ro := ro) (k := r) (w := .sl ⟨false, bs r, 0⟩ (x.getD r []).length (cs r)) (by simp [hr]) l p).1, ixS_eq hcl, fun l p => (hb.ld (ro := ro) (k := c) (by rw [List.getElem?_map, hc]; rfl) l p).1, fun l p hl => ?_, ⟨bs, cs, by rw [setM_len], ?_, fun t ht => ?_, fun t t' ht ht' => ?_⟩, f2, fun i hi => f3 i (by omega)⟩
  · have := s1 l p
    rwa [h3, cond_true, show min l (bs r) = l by omega] at this
  · rw [setM_len]
    have e : ((List.range x.length).map fun t => AVal.sl ⟨false, bs t, 0⟩ ((setM x r c y).getD t []).length (cs t)) = (List.range x.length).map fun t => AVal.sl ⟨false, bs t, 0⟩ (x.getD t []).length (cs t) := List.map_congr_left fun t _ => by rw [setM_rlen hr]
    rw [e]
    exact g1.keep (f3 L (by omega))
  · rw [setM_len] at ht
    obtain ⟨u1, u2⟩ := g2 t ht
    refine ⟨u1, ?_⟩
    rw [setM_row hr]
    by_cases e : t = r
    · subst e
      rw [if_pos rfl, List.map_set]
      exact f1
    · rw [if_neg e]
      exact u2.keep (f3 _ fun e2 => e (g3 t r ht hr e2))
  · rw [setM_len] at ht ht'
    exact g3 t t' ht ht'
end
end Go.Proofs.Ytfohppnelbbepaa.T
/- descent -/
open Go.Vm
set_option linter.unusedVariables false
set_option linter.unusedSectionVars false
namespace Go.Proofs.Ytfohppnelbbepaa.T
open Go
variable [Ovr]
section
variable {ro : List ABlk} {h hp : Heap}
end
end Go.Proofs.Ytfohppnelbbepaa.T
/- doubles -/
open Go.Vm
set_option linter.unusedVariables false
set_option linter.unusedSectionVars false
namespace Go.Proofs.Ytfohppnelbbepaa.T
open Go
variable [Ovr]
section
variable {ro : List ABlk} {h hp : Heap}
end
end Go.Proofs.Ytfohppnelbbepaa.T
/- explodes -/
open Go.Vm
set_option linter.unusedVariables false
set_option linter.unusedSectionVars false
namespace Go.Proofs.Ytfohppnelbbepaa.T
open Go
variable [Ovr]
section
variable {ro : List ABlk} {h hp : Heap}
end
end Go.Proofs.Ytfohppnelbbepaa.T
/- The closure -/
open Go.Vm
set_option linter.unusedVariables false
set_option linter.unusedSectionVars false
namespace Go.Proofs.Ytfohppnelbbepaa.T
open Go
variable [Ovr]
/- what comes of what: the closure -/
end Go.Proofs.Ytfohppnelbbepaa.T
/- circles -/
open Go.Vm
set_option linter.unusedVariables false
set_option linter.unusedSectionVars false
namespace Go.Proofs.Ytfohppnelbbepaa.T
open Go
variable [Ovr]
section
variable {ro : List ABlk}
end
end Go.Proofs.Ytfohppnelbbepaa.T
/- Kind -/
open Go.Vm
set_option linter.unusedVariables false
set_option linter.unusedSectionVars false
namespace Go.Proofs.Ytfohppnelbbepaa.T
open Go
variable [Ovr]
section
variable {ro : List ABlk} {h hp : Heap}
end
end Go.Proofs.Ytfohppnelbbepaa.T
/- circles and doubles of the reference -/
open Go.Vm
set_option linter.unusedVariables false
set_option linter.unusedSectionVars false
namespace Go.Proofs.Ytfohppnelbbepaa.T
open Go
variable [Ovr]
section
variable {ro : List ABlk}
end
end Go.Proofs.Ytfohppnelbbepaa.T
/- Warshall -/
open Go.Vm
set_option linter.unusedVariables false
set_option linter.unusedSectionVars false
namespace Go.Proofs.Ytfohppnelbbepaa.T
open Go
variable [Ovr]
/- Warshall: ways whose places between are below a number -/
end Go.Proofs.Ytfohppnelbbepaa.T
/- Matrices made by append -/
open Go.Vm
set_option linter.unusedVariables false
set_option linter.unusedSectionVars false
namespace Go.Proofs.Ytfohppnelbbepaa.T
open Go
variable [Ovr]
section
variable {ro : List ABlk} {h hp : Heap} {α : Type} {enc : α → AVal}
theorem Holds.wr {b k : Nat} {vs : List AVal} {w : AVal} (a : Holds hp b vs) (hk : k < vs.length) (h1 : w.one = true) (hc : w.cells = [w]) (hn : nonp [w] = true) : ∃ hp', (∀ l p, writesM ro [] [(⟨false, b, 0 + k⟩, AVal.cells w)] ⟨hp, l, p⟩ = some ⟨hp', min l b, p⟩) ∧ Holds hp' b (vs.set k w) ∧ hp'.length = hp.length ∧ ∀ i, i ≠ b → hp'[i]? = hp[i]? := by
  obtain ⟨blk, g1, g2, g3⟩ := a
  refine ⟨hp.set b (some { blk with c := blk.c.set k w }), fun l p => ?_, ⟨_, lget_set g1 _, by simpa using g2, fun j hj => ?_⟩, by simp, fun i hi => List.getElem?_set_ne (Ne.symm hi)⟩
  · have hw := wrH_heap (off := k) g1 (by omega : k < blk.n) h1
    have e : 0 + k = k := by omega
    rw [hc, e]
    simp only [writesM, writes, hw, hn, ckOk, if_true, St.mm]
  · show (blk.c.set k w).get j = _
    rw [get_set]
    simp only [List.length_set] at hj
    by_cases e : k = j
    · subst e; simp [List.getD, hj]
    · rw [if_neg e, g3 j hj]
      simp [List.getD, List.getElem?_set_ne e]
end
end Go.Proofs.Ytfohppnelbbepaa.T
/- reach -/
open Go.Vm
set_option linter.unusedVariables false
set_option linter.unusedSectionVars false
namespace Go.Proofs.Ytfohppnelbbepaa.T
open Go
variable [Ovr]
section
variable {ro : List ABlk} {h hp : Heap}
end
end Go.Proofs.Ytfohppnelbbepaa.T
/- Kind of the reference, law 5 -/
open Go.Vm
set_option linter.unusedVariables false
set_option linter.unusedSectionVars false
namespace Go.Proofs.Ytfohppnelbbepaa.T
open Go
variable [Ovr]
section
variable {ro : List ABlk} {h hp : Heap}
end
end Go.Proofs.Ytfohppnelbbepaa.T

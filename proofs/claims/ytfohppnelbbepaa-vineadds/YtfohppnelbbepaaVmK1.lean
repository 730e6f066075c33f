/- Contracts of the functions: what each of them answers. -/
import Derived.Test.YtfohppnelbbepaaVmK0
import Derived.Test.YtfohppnelbbepaaVmAG
/- alive -/
open Go.Vm
set_option linter.unusedVariables false
set_option linter.unusedSectionVars false
namespace Go.Proofs.Ytfohppnelbbepaa.T
open Go
variable [Ovr]
def isStr (v : AVal) (l : List UInt8) : Bool := match v with
  | .s s => eqL s l
  | _ => false
theorem isStr_eq {v : AVal} {l : List UInt8} (h : isStr v l = true) : v = .s l := by
  cases v with
  | s s =>
    have h' : eqL s l = true := h
    rw [eqL_dec] at h'
    simp only [decide_eq_true_eq] at h'
    rw [h']
  | _ => cases h
def knownT : Caller := fun f a h => cond (Nat.beq f 38) (match a with
  | [.sl q n _, .s s, .i .i64 x] => match lget h q.b with
    | some (some blk) => cond (!q.ro && Nat.beq q.off 0 && Nat.beq n 2 && Nat.ble 2 blk.n && isStr (blk.c.get 0) [97, 98] && isStr (blk.c.get 1) [98, 97] && eqL s [97] && eqI x 3) (some (.tup [.i .i64 6, .i .i64 0], h, h.length, h.length)) none
    | _ => none
  | _ => none) none
theorem knownT_le {ro : List ABlk} {f : Nat} {a : List AVal} {h : Heap} {r : AVal × Heap × Nat × Nat} (hr : knownT f a h = some r) : callX F1 ro f a h = some r := by
  unfold knownT at hr
  cases hf : Nat.beq f 38
  · rw [hf] at hr; cases hr
  obtain rfl : f = 38 := Nat.eq_of_beq_eq_true hf
  rw [hf, cond_true] at hr
  split at hr
  rotate_left
  · cases hr
  rename_i q n c s x
  split at hr
  rotate_left
  · cases hr
  rename_i blk hb
  cases hc : (!q.ro && Nat.beq q.off 0 && Nat.beq n 2 && Nat.ble 2 blk.n && isStr (blk.c.get 0) [97, 98] && isStr (blk.c.get 1) [98, 97] && eqL s [97] && eqI x 3)
  · rw [hc] at hr; cases hr
  rw [hc, cond_true] at hr
  cases hr
  simp only [Bool.and_eq_true, Bool.not_eq_true', Nat.ble_eq] at hc
  obtain ⟨⟨⟨⟨⟨⟨⟨c1, c2⟩, c3⟩, c4⟩, c5⟩, c6⟩, c7⟩, c8⟩ := hc
  have d2 := Nat.eq_of_beq_eq_true c2
  have d3 := Nat.eq_of_beq_eq_true c3
  have c5 := isStr_eq c5
  have c6 := isStr_eq c6
  rw [eqL_dec, decide_eq_true_eq] at c7
  rw [eqI_eq, beq_iff_eq] at c8
  subst d3 c7 c8
  obtain ⟨r, b, o⟩ := q
  simp only at c1 d2 hb
  subst c1 d2
  have hS : IsS ro h (.sl ⟨false, b, 0⟩ 2 c) zT := by
    refine .inr ⟨_, _, blk, rfl, rdB_heap hb 0, by show 0 + 2 ≤ _; omega, fun j hj => ?_⟩
    rw [Nat.zero_add]
    match j, hj with
    | 0, _ => exact c5
    | 1, _ => exact c6
  have := factors38 (ro := ro) (h := h) (s := [97]) (x := 3) hS (by decide) (fun i hi => by match i, hi with | 0, _ => decide | 1, _ => decide) (by decide)
  rw [factV_T] at this
  exact this
abbrev FT : Tab := ⟨F, knownT⟩
def okA (o : Option (AVal × Heap × Nat × Nat)) : Bool := match o with
  | some (.b true, _, _, _) => true
  | _ => false
omit [Ovr] in
theorem okA_eq {o : Option (AVal × Heap × Nat × Nat)} (h : okA o = true) : ∃ hp lw lp, o = some (.b true, hp, lw, lp) := by
  unfold okA at h
  split at h
  · exact ⟨_, _, _, rfl⟩
  · cases h
omit [Ovr] in
theorem aliveS : okA (callA FT [] (exec FT [] 200) 16 [] []) = true := by decide +kernel
omit [Ovr] in
theorem aliveT : ∃ hp lw lp, callX FT [] 16 [] [] = some (.b true, hp, lw, lp) := by
  obtain ⟨hp, lw, lp, e⟩ := okA_eq aliveS
  exact ⟨hp, lw, lp, callX_some.2 ⟨200, e⟩⟩
section
variable {E : Env} (hE : E.Ok) (hm : E.P.follows .mixedOrders = true) (hF : FOk E.P F)
include hE hm hF
omit [Ovr] in
theorem knownT_ok : CallOk E knownT := by
  letI : Ovr := ⟨noCall, fun _ => rfl⟩
  exact le_ok (callX_sound hE hm (F := F1) hF noCall_ok) fun f a h r hr => knownT_le hr
omit [Ovr] in
theorem alive_known : CallOk E (known0 16 (.b true)) := by
  obtain ⟨hp, lw, lp, e⟩ := aliveT
  exact known0_ok (callX_sound (E := E.bare) (Env.bare_ok hE) hm (F := FT) hF (knownT_ok (Env.bare_ok hE) hm hF)) e rfl
end
@[reducible] def ovA : Ovr := ⟨known0 16 (.b true), fun {f a h} e => by
  unfold known0
  cases a with
  | nil => simp only [e, cond_false]
  | cons _ _ => rfl⟩
end Go.Proofs.Ytfohppnelbbepaa.T
/- At -/
open Go.Vm
set_option linter.unusedVariables false
set_option linter.unusedSectionVars false
namespace Go.Proofs.Ytfohppnelbbepaa.T
open Go
variable [Ovr]
section
variable {ro : List ABlk} {h hp : Heap}
theorem two_res {K : Heap} {i j : Nat} {x y : AVal} (hij : i ≠ j) (hx : Holds K i [x]) (hy : Holds K j [y]) (s : List UInt8) (e : Int) : ∃ K1 K2, (∀ l p, stepM ro ⟨K, l, p⟩ (.st 1 (.c (.p (some ⟨false, i, 0⟩))) (.c (.s s))) = some (und, ⟨K1, min l i, p⟩)) ∧ (∀ l p, stepM ro ⟨K1, l, p⟩ (.st 1 (.c (.p (some ⟨false, j, 0⟩))) (.c (.i .i64 e))) = some (und, ⟨K2, min l j, p⟩)) ∧
    Holds K2 i [.s s] ∧ Holds K2 j [.i .i64 e] ∧ K2.length = K.length ∧ ∀ t, t ≠ i → t ≠ j → K2[t]? = K[t]? := by
  obtain ⟨K1, a1, a2, a3, a4⟩ := hx.set1 (ro := ro) (w := .s s) rfl rfl
  obtain ⟨K2, b1, b2, b3, b4⟩ := (hy.keep (a4 j (Ne.symm hij))).set1 (ro := ro) (w := .i .i64 e) rfl rfl
  refine ⟨K1, K2, fun l p => ?_, fun l p => ?_, a2.keep (b4 i hij), b2, by omega, fun t h1 h2 => by rw [b4 t h2, a4 t h1]⟩
  · have := a1 l p
    rwa [show nonp [AVal.s s] = true from rfl, cond_true] at this
  · have := b1 l p
    rwa [show nonp [AVal.i .i64 e] = true from rfl, cond_true] at this
theorem one_str {K : Heap} {l p : Nat} (b : UInt8) : ∃ K', stepM ro ⟨K, l, p⟩ (.bsl 5 1 [(AVal.i IntKind.u8 0)] 1 [((0, 1), .c (bv b))]) = some (.sl ⟨false, K.length, 0⟩ 1 (.known 1), ⟨K', l, p⟩) ∧ btsM ro ⟨K', l, p⟩ (.sl ⟨false, K.length, 0⟩ 1 (.known 1)) = some (.s [b]) ∧ Keep K K' ∧ K'.length = K.length + 1 := by
  refine ⟨K ++ [some (blkOf 5 [bv b])], ?_, ?_, Keep.app _, by simp⟩
  · simp [stepM, stepK, st_bsl, rep, fillA, opd, AVal.cells, splice, newB, St.mm]
  · have hbq : rdB ro (K ++ [some (blkOf 5 [bv b])]) ⟨false, K.length, 0⟩ = some (blkOf 5 [bv b]) := by simp [rdB, lget_eq]
    have hg : (blkOf 5 [bv b]).c.row 0 1 = [b].map bv := row_row 1 0 _ rfl fun j hj => by rw [Nat.zero_add, get_blk]; rfl
    have hble : Nat.ble (0 + 1) (blkOf 5 [bv b]).n = true := rfl
    simp only [btsM, st_bts, Mm.st, hbq, hble, cond_true, hg, bytesA_ok, Option.map_some]
theorem gc_short {K J : Heap} {v : AVal} {a p : Nat} (h : K.length ≤ p) (hv : v.bel K.length = true) : gc K.length v ⟨.e, J, a, p⟩ = (v, J.take K.length, a, p) := by
  have : (Nat.ble K.length p && v.bel K.length) = true := by rw [hv, Bool.and_true, Nat.ble_eq]; exact h
  simp only [gc, this, if_true]
theorem Holds.cut {J : Heap} {b : Nat} {vs : List AVal} {n : Nat} (a : Holds J b vs) (hb : b < n) : Holds (J.take n) b vs := a.keep (by rw [List.getElem?_take, if_pos hb])
theorem RecAt.cut {J : Heap} {b : Nat} {L : LRec} {s : LoopState} {p : Option AExit} {n : Nat} (a : RecAt J b L s p) (hb : b < n) : RecAt (J.take n) b L s p := a.keep (by rw [List.getElem?_take, if_pos hb])
noncomputable def atV (z : List (List UInt8)) (s : List UInt8) (y x : Int) : List UInt8 × Int := if errY z s y ≠ 0 then ([], errY z s y) else if x < 0 then ([], 4) else if x.toNat < lenS z y.toNat s then ([(grw z y.toNat s).getD x.toNat 0], 0) else ([], 6)
def stepF (_ : List UInt8) (b : UInt8) : List UInt8 × Bool := ([b], false)
theorem feedF : ∀ (l : List UInt8), feed stepF l [] = (l.take 1, l.isEmpty)
  | [] => rfl
  | b :: l => rfl
set_option maxHeartbeats 2000000 in
theorem at24 {v : AVal} {z : List (List UInt8)} {s : List UInt8} {y x : Int} (a : IsS ro h v z) (hf : z.length ≤ 1000000 ∧ (∀ i, i < z.length → (z.getD i []).length ≤ 1000000) ∧ s.length ≤ 1000000) (hx : x ≤ 9223372036854775807) :
    callX F1 ro 24 [v, .s s, .i .i64 y, .i .i64 x] h = some (.tup [.s (atV z s y x).1, .i .i64 (atV z s y x).2], h, h.length, h.length) := by
  obtain ⟨N, hN⟩ : ∃ N, N = h.length := ⟨_, rfl⟩
  have b1 := al_ok (ro := ro) (hp := h) (l := N) (p := N) 9 [AVal.s []]
  obtain ⟨H1, hH1⟩ : ∃ H1, H1 = h ++ [some (blkOf 9 [AVal.s []])] := ⟨_, rfl⟩
  rw [← hH1, ← hN] at b1
  have l1 : H1.length = N + 1 := by rw [hH1, hN]; simp
  have k1 : Keep h H1 := by rw [hH1]; exact Keep.app _
  have o1 : Holds H1 N [.s []] := by rw [hH1, hN]; exact Holds.new _ _ _
  have b2 := al_ok (ro := ro) (hp := H1) (l := N) (p := N) 25 [AVal.i IntKind.i64 0]
  obtain ⟨H2, hH2⟩ : ∃ H2, H2 = H1 ++ [some (blkOf 25 [AVal.i IntKind.i64 0])] := ⟨_, rfl⟩
  rw [← hH2, l1] at b2
  have l2 : H2.length = N + 2 := by rw [hH2]; simp [l1]
  have k2 : Keep H1 H2 := by rw [hH2]; exact Keep.app _
  have kh2 : Keep h H2 := k1.trans k2
  have o1' : Holds H2 N [.s []] := o1.by k2
  have o2' : Holds H2 (N + 1) [.i .i64 0] := by rw [hH2, ← l1]; exact Holds.new _ _ _
  have c47 := cp (l := N) (p := N) (years47 (ro := ro) (h := H2) (y := y) (s := s) (S_by a kh2) hf.1 hf.2.1 hf.2.2) (by omega) (by omega)
  -- the end, when two results are known
  have fin : ∀ (K : Heap) (t : List UInt8) (e : Int), Keep h K → Holds K N [.s t] → Holds K (N + 1) [.i .i64 e] → bindO (ldM ro ⟨K, N, N⟩ true 1 (.p (some ⟨false, N, 0⟩))) (fun vr => bindO (ldM ro ⟨K, N, N⟩ true 1 (.p (some ⟨false, N + 1, 0⟩))) fun vr_1 => finM N (tupA [vr, vr_1]) ⟨K, N, N⟩) = some (.tup [.s t, .i .i64 e], h, N, N) := fun K t e kK y1 y2 => by
    simp only [y1.ld1, y2.ld1, oS, tA2]
    subst hN
    exact fin_keep kK rfl
  have done : ∀ (K : Heap) (u w : AVal) (t : List UInt8) (e : Int), Keep h K → Holds K N [u] → Holds K (N + 1) [w] → bindP (stepM ro ⟨K, N, N⟩ (.st 1 (.c (.p (some ⟨false, N, 0⟩))) (.c (.s t)))) (fun vn m => bindP (stepM ro m (.st 1 (.c (.p (some ⟨false, N + 1, 0⟩))) (.c (.i .i64 e)))) fun vn_1 m_5 => bindO (ldM ro m_5 true 1 (.p (some ⟨false, N, 0⟩))) fun vr => bindO (ldM ro m_5 true 1 (.p (some ⟨false, N + 1, 0⟩))) fun vr_1 => finM N (tupA [vr, vr_1]) m_5) = some (.tup [.s t, .i .i64 e], h, N, N) := fun K u w t e kK y1 y2 => by
    obtain ⟨Ka, Kb, r1, r2, r3, r4, r5, r6⟩ := two_res (ro := ro) (by omega) y1 y2 t e
    have r1' := r1 N N
    have r2' := r2 N N
    rw [Nat.min_self] at r1'
    rw [show min N (N + 1) = N by omega] at r2'
    simp only [r1', r2', pS]
    have := kK.1
    exact fin Kb t e ⟨by omega, fun i hi => by rw [r6 i (by omega) (by omega), kK.2 i hi]⟩ r3 r4
  refine g24_ok (meansX_ok F1 ro) (Ovr.no rfl) ?_
  unfold g24
  simp only [← hN, b1, pS, b2, mC, c47, x0, x1, oS, iS, fB]
  by_cases h0 : errY z s y = 0
  rotate_left
  · have e : atV z s y x = ([], errY z s y) := by unfold atV; rw [if_pos h0]
    simp only [eqI_ne h0, nF, cT, e]
    exact done H2 _ _ [] _ kh2 o1' o2'
  have e0 : eqI (errY z s y) 0 = true := by rw [h0]; rfl
  simp only [e0, nT, cF, if_pos h0]
  rcases Int.lt_or_le x 0 with hx0 | hx0
  · have e : atV z s y x = ([], 4) := by unfold atV; rw [if_neg (fun e => e h0), if_pos hx0]
    simp only [ltT hx0, cT, e]
    exact done H2 _ _ [] _ kh2 o1' o2'
  obtain ⟨hS, k, rfl, hk⟩ := errY_ok h0
  have hz := VOk.of (errS_V hS)
  obtain ⟨hs30, hsh⟩ := errS_ok hS
  obtain ⟨n, rfl⟩ := Int.eq_ofNat_of_zero_le hx0
  have e : atV z s (k : Int) (n : Int) = if n < lenS z k s then ([(grw z k s).getD n 0], 0) else ([], 6) := by unfold atV; rw [if_neg (fun e => e h0), if_neg (by omega), Int.toNat_natCast, Int.toNat_natCast]
  obtain ⟨w, H3, c1, k3, Mx⟩ := lengths48x (ro := ro) (S_by a kh2) hz hk
  have M := Mx H3 fun _ _ _ => rfl
  have lH3 := k3.1
  have c1' := callM_of (a := N) (b := N) c1
  rw [show min N H2.length = N by omega] at c1'
  have ewr : wr .u64 (n : Int) = (n : Int) := wr_u64 (by omega) (by omega)
  obtain ⟨B, hB⟩ : ∃ B, B = H3.length := ⟨_, rfl⟩
  have c59 := from59 (ro := ro) (h := H3) (v := v) (w := w) (s := s) (x := (n : Int)) (cells_S a) (M_cells M).1
  obtain ⟨H4, hH4⟩ : ∃ H4, H4 = H3 ++ [some (blkOf 55 [v]), some (blkOf 61 [.i .u64 (n : Int)]), some (blkOf 9 [.s s]), some (blkOf 58 [w])] := ⟨_, rfl⟩
  rw [← hH4, ← hB] at c59
  have l4 : H4.length = B + 4 := by rw [hH4, hB]; simp
  have k4 : Keep H3 H4 := by rw [hH4]; exact Keep.app _
  have nb : ∀ (j e : Nat) (x : AVal), (∀ blk, blk = blkOf e [x] → H4[B + j]? = some (some blk)) → Holds H4 (B + j) [x] := fun j e x hx => ⟨blkOf e [x], by rw [lget_eq]; exact hx _ rfl, rfl, fun i _ => get_blk e [x] i⟩
  have x0' : Holds H4 (B + 0) [v] := nb 0 55 v fun blk e => by rw [e, hH4, List.getElem?_append_right (by omega), hB]; simp
  have x1' : Holds H4 (B + 1) [.i .u64 (n : Int)] := nb 1 61 _ fun blk e => by rw [e, hH4, List.getElem?_append_right (by omega), show B + 1 - H3.length = 1 by omega]; rfl
  have x2' : Holds H4 (B + 2) [.s s] := nb 2 9 _ fun blk e => by rw [e, hH4, List.getElem?_append_right (by omega), show B + 2 - H3.length = 2 by omega]; rfl
  have x3' : Holds H4 (B + 3) [w] := nb 3 58 _ fun blk e => by rw [e, hH4, List.getElem?_append_right (by omega), show B + 3 - H3.length = 3 by omega]; rfl
  have c59' := callM_of (a := N) (b := N) c59
  rw [show min N B = N by omega] at c59'
  obtain ⟨W, hW⟩ : ∃ W, W = (grw z k s).drop n := ⟨_, rfl⟩
  have one : ∀ t, g24_P0 (.p (some ⟨false, N, 0⟩)) (.p (some ⟨false, N + 1, 0⟩)) t → ∃ K' lw lp, callX F1 ro 90 [.yld (B + 4), .p (some ⟨false, B + 1, 0⟩), .p (some ⟨false, B + 3, 0⟩), .p (some ⟨false, B, 0⟩), .p (some ⟨false, B + 2, 0⟩)] (H4 ++ [some (recB t [33] k24a0 k24c0)]) = some (tupA [], K', lw, lp) ∧ N ≤ lw ∧ N ≤ lp ∧ Keep h K' ∧ Holds K' N [.s (W.take 1)] ∧ Holds K' (N + 1) [.i .i64 0] ∧ (W = [] → RecAt K' (B + 4) ⟨t, [33], k24a0, k24c0⟩ .ready none) ∧ (W ≠ [] → RecAt K' (B + 4) ⟨t, [33], k24a0, k24c0⟩ .done (some .ret)) := fun t ht => by
    obtain ⟨K0, hK0⟩ : ∃ K0, K0 = H4 ++ [some (recB t [33] k24a0 k24c0)] := ⟨_, rfl⟩
    have lK : K0.length = B + 5 := by rw [hK0]; simp [l4]
    have kK : Keep H4 K0 := by rw [hK0]; exact Keep.app _
    have rK : RecAt K0 (B + 4) ⟨t, [33], k24a0, k24c0⟩ .ready none := ⟨recB t [33] k24a0 k24c0, by rw [hK0, ← l4]; exact lget_last _ _, rfl⟩
    obtain ⟨C, hC⟩ : ∃ C : List UInt8 → Heap → Prop, C = fun c K => Holds K N [.s c] ∧ Holds K (N + 1) [.i .i64 0] ∧ (c = [] → RecAt K (B + 4) ⟨t, [33], k24a0, k24c0⟩ .ready none) ∧ (c ≠ [] → RecAt K (B + 4) ⟨t, [33], k24a0, k24c0⟩ .done (some .ret)) := ⟨_, rfl⟩
    obtain ⟨Own, hOwn⟩ : ∃ Own : Nat → Prop, Own = fun i => i = N ∨ i = N + 1 ∨ i = B + 4 := ⟨_, rfl⟩
    have cons : Cons (fun c : List UInt8 => c = []) ro (B + 4) K0.length (K0.length + 3) N N Own C stepF := by
      refine ⟨fun {c K} hc hK hk b => ?_, fun {c K K'} hc hf => ?_⟩
      · subst hk
        rw [hC] at hc
        obtain ⟨g1, g2, g3, -⟩ := hc
        rw [lK] at hK
        obtain ⟨blk, e1, e2⟩ := g3 rfl
        obtain ⟨Ka, q1, q2, q3, q4⟩ := RecAt.begin (⟨blk, e1, e2⟩ : RecAt K (B + 4) ⟨t, [33], k24a0, k24c0⟩ .ready none)
        obtain ⟨Kb, s1, s2, s3, s4⟩ := one_str (ro := ro) (K := Ka) (l := min K.length (B + 4)) (p := K.length) b
        obtain ⟨Kc, Kd, r1, r2, r3, r4, r5, r6⟩ := two_res (ro := ro) (i := N) (j := N + 1) (by omega) ((g1.keep (q4 N (by omega))).by s3) ((g2.keep (q4 (N + 1) (by omega))).by s3) [b] 0
        have rec4 : RecAt Kd (B + 4) ⟨t, [33], k24a0, k24c0⟩ .busy none := (q2.keep (s3.2 _ (by omega))).keep (r6 _ (by omega) (by omega))
        obtain ⟨K5, w1, w2, w3, w4⟩ := rec4.done .ret
        have r1' := r1 (min K.length (B + 4)) K.length
        have r2' := r2 (min (min K.length (B + 4)) N) K.length
        refine ⟨K5.take K.length, min (min (min (min K.length (B + 4)) N) (N + 1)) (B + 4), K.length, g24_r0_ok (meansX_ok F1 ro) e1 e2 ht ?_, by omega, by omega, ?_, by simp; omega, .inl (by simp; omega), fun i hi ho => ?_⟩
        · unfold g24_r0
          simp only [q1, oS, s1, pS, s2, sS, r1', r2', w1, gc_short (Nat.le_refl K.length) (show (AVal.b AExit.ret.on).bel K.length = true from rfl)]
          rfl
        · rw [hC]
          have hne : ¬ (stepF [] b).1 = [] := by simp [stepF]
          exact ⟨(r3.keep (w4 _ (by omega))).cut (by omega), (r4.keep (w4 _ (by omega))).cut (by omega), fun e => absurd e hne, fun _ => w2.cut (by omega)⟩
        · rw [hOwn] at ho
          have h1 : i ≠ N := fun e => ho (.inl e)
          have h2 : i ≠ N + 1 := fun e => ho (.inr (.inl e))
          have h3 : i ≠ B + 4 := fun e => ho (.inr (.inr e))
          rcases Nat.lt_or_ge i K.length with hl | hl
          · rw [List.getElem?_take, if_pos hl, w4 i h3, r6 i h1 h2, s3.2 i (by omega), q4 i h3]
          · rw [List.getElem?_eq_none (by simp; omega), List.getElem?_eq_none (by omega)]
      · rw [hC] at hc ⊢
        obtain ⟨g1, g2, g3, g4⟩ := hc
        exact ⟨g1.keep (hf _ (by omega)), g2.keep (hf _ (by omega)), fun e => (g3 e).keep (hf _ (by omega)), fun e => (g4 e).keep (hf _ (by omega))⟩
    have hC0 : C [] K0 := by
      rw [hC]
      exact ⟨((o1'.by k3).by k4).by kK, ((o2'.by k3).by k4).by kK, fun _ => rK, fun e => absurd rfl e⟩
    have hkk : Keep h K0 := ((kh2.trans k3).trans k4).trans kK
    obtain ⟨K', lw, lp, t1, t2, t3, t4, t5, t6⟩ := from90 (ro := ro) (ok := fun c : List UInt8 => c = []) (place := n) (rbk := B + 4) (pb := B + 1) (lb := B + 3) (rbx := B) (sb := B + 2) (Own := Own) (C := C) (step := stepF) (K0 := K0) (c := []) (L0 := N) (Lc := N) hz hk hsh hf.2.2 (by omega) (fun K hK hf => by
      have e1 : ∀ i, i < B → ¬ Own i → K[i]? = H3[i]? := fun i hi ho => by rw [hf i (by omega) ho, kK.2 i (by omega), k4.2 i (by omega)]
      have kk : Keep h K := ⟨by have := hkk.1; omega, fun i hi => by rw [hf i (by have := hkk.1; omega) (by rw [hOwn]; have := kh2.1; omega), hkk.2 i hi]⟩
      exact ⟨Mx K fun i hi1 hi2 => e1 i (by omega) (by rw [hOwn]; omega), S_by a kk⟩) (x1'.by kK) (x3'.by kK) (x0'.by kK) (x2'.by kK) (by rw [hOwn]; omega) (by rw [hOwn]; omega) (fun i ho => by rw [hOwn] at ho; omega) (by omega) (by omega) (by omega) cons hC0 (fun j hj h2 => by
      rw [feedF] at h2 ⊢
      have : ((grw z k s).drop n).take j = [] := by simpa using h2
      rw [this]; rfl)
    rw [feedF, ← hW, hC] at t4
    obtain ⟨g1, g2, g3, g4⟩ := t4
    refine ⟨K', lw, lp, by rw [← hK0]; exact t1, t2, t3, ⟨by have := hkk.1; omega, fun i hi => ?_⟩, g1, g2, fun e => g3 (by rw [e]; rfl), fun e => g4 fun e2 => e ?_⟩
    · rw [t6 i (by have := hkk.1; omega) (by rw [hOwn]; omega), hkk.2 i hi]
    · cases hw : W with
      | nil => rfl
      | cons b t => rw [hw] at e2; cases e2
  simp only [ltF (show ¬ (n : Int) < 0 by omega), cF, fI', ewr, c1', pS, c59', mC]
  refine rngK_eq (t := (Tr.e.set 8 (.p (some ⟨false, N, 0⟩))).set 9 (.p (some ⟨false, N + 1, 0⟩))) ⟨trivial, by rw [get_set_ne _ _ (by decide)]; simp, by simp⟩ fun t ht => ?_
  obtain ⟨K', lw, lp, t1, t2, t3, t4, g1, g2, g3, g4⟩ := one t ht
  have hex : ∃ p s', RecAt K' (B + 4) ⟨t, [33], k24a0, k24c0⟩ s' p ∧ s' ≠ .busy ∧ ((W = [] ∧ p = none) ∨ (W ≠ [] ∧ p = some .ret)) := by
    by_cases hw : W = []
    · exact ⟨_, _, g3 hw, by decide, .inl ⟨hw, rfl⟩⟩
    · exact ⟨_, _, g4 hw, by decide, .inr ⟨hw, rfl⟩⟩
  obtain ⟨p, s', r1, r2, r3⟩ := hex
  have hlt := r1.lt
  have e2 := r1.ended r2
  obtain ⟨J, hJ⟩ : ∃ J, J = lset none K' (B + 4) := ⟨_, rfl⟩
  have kJ : Keep h J := by rw [hJ, lset_eq]; exact t4.set (by omega) none
  have o1J : Holds J N [.s (W.take 1)] := g1.keep (by rw [hJ, lset_eq]; exact List.getElem?_set_ne (by omega))
  have o2J : Holds J (N + 1) [.i .i64 0] := g2.keep (by rw [hJ, lset_eq]; exact List.getElem?_set_ne (by omega))
  rw [← hJ] at e2
  refine ⟨(p.getD .norm, ⟨J, N, N⟩), ?_, ?_⟩
  · unfold rngT rngA
    simp only [List.nil_append, List.cons_append, l4, t1, e2]
    show some (p.getD AExit.norm, (⟨J, min (min N lw) (B + 4), min N lp⟩ : Mm)) = _
    rw [show min (min N lw) (B + 4) = N by omega, show min N lp = N by omega]
  · have hWl : W.length = lenS z k s - n := by rw [hW, List.length_drop, grw_len]
    rcases r3 with ⟨hw, rfl⟩ | ⟨hw, rfl⟩
    · have hc : ¬ n < lenS z k s := fun e => by rw [hw] at hWl; simp at hWl; omega
      rw [e, if_neg hc]
      exact done J _ _ [] _ kJ o1J o2J
    · have hc : n < lenS z k s := by
        rcases Nat.lt_or_ge n (lenS z k s) with h | h
        · exact h
        · exact absurd (List.length_eq_zero_iff.1 (by omega)) hw
      have e3 : W.take 1 = [(grw z k s).getD n 0] := by
        have hl : n < (grw z k s).length := by rw [grw_len]; exact hc
        have e5 : W = (grw z k s)[n] :: (grw z k s).drop (n + 1) := by rw [hW]; exact List.drop_eq_getElem_cons hl
        rw [e5, List.getD_eq_getElem?_getD, List.getElem?_eq_getElem hl]
        rfl
      rw [e, if_pos hc]
      rw [e3] at o1J
      exact fin J _ _ kJ o1J o2J
end
end Go.Proofs.Ytfohppnelbbepaa.T
/- At of the reference -/
open Go.Vm
set_option linter.unusedVariables false
set_option linter.unusedSectionVars false
namespace Go.Proofs.Ytfohppnelbbepaa.T
open Go
variable [Ovr]
section
variable {ro : List ABlk} {h hp : Heap}
theorem slS_win {s : List UInt8} {m n : Nat} (hm : m ≤ n) (hn : n ≤ s.length) : evP .e (.slStr (.c (.s s)) (some (.c (.i .i64 (m : Int)))) (some (.c (.i .i64 (n : Int))))) = some (.s ((s.take n).drop m)) := by
  have e3 : ((m : Nat) : Int) = Int.ofNat m := rfl
  have e4 : ((n : Nat) : Int) = Int.ofNat n := rfl
  have e5 : Nat.ble n s.length = true := by rw [Nat.ble_eq]; exact hn
  have e6 : Nat.ble m n = true := by rw [Nat.ble_eq]; exact hm
  simp only [evP, ev_slStr, opd, e3, e4, Option.map_some, sbound, e5, e6, cond_true]
end
end Go.Proofs.Ytfohppnelbbepaa.T
/- Law 4 -/
open Go.Vm
set_option linter.unusedVariables false
set_option linter.unusedSectionVars false
namespace Go.Proofs.Ytfohppnelbbepaa.T
open Go
variable [Ovr]
section
variable {ro : List ABlk} {h hp : Heap}
theorem strNe {s t : List UInt8} : evP .e (.sbin BinOp.neq (.c (.s s)) (.c (AVal.s t))) = some (.b (!decide (s = t))) := by
  simp only [evP, ev_sbin, opd, sOp, eqL_dec]
end
end Go.Proofs.Ytfohppnelbbepaa.T
/- Counts of the reference -/
open Go.Vm
set_option linter.unusedVariables false
set_option linter.unusedSectionVars false
namespace Go.Proofs.Ytfohppnelbbepaa.T
open Go
variable [Ovr]
section
variable {ro : List ABlk} {h hp : Heap}
theorem grw_first (z : List (List UInt8)) (y : Nat) : ∀ s, grw z (y + 1) s = grw z y (grw z 1 s)
  | [] => by cases y <;> rfl
  | b :: s => by
    have e : grw z 1 (b :: s) = z.getD (ix b) [] ++ grw z 1 s := rfl
    have e2 : grw z (y + 1) (b :: s) = grw z y (z.getD (ix b) []) ++ grw z (y + 1) s := rfl
    rw [e, grw_app, e2, grw_first z y s]
theorem grw_last (z : List (List UInt8)) : ∀ y s, grw z (y + 1) s = grw z 1 (grw z y s)
  | 0, s => rfl
  | y + 1, s => by rw [grw_first z (y + 1) s, grw_last z y (grw z 1 s), ← grw_first z y s]
theorem grw_has {z : List (List UInt8)} (hz : VOk z) : ∀ {y : Nat} {s : List UInt8}, has z.length s → has z.length (grw z y s)
  | 0, s, h => h
  | y + 1, s, h => by
    rw [has_mem]
    intro c hc
    have hc' : c ∈ s.flatMap fun b => grw z y (z.getD (ix b) []) := hc
    rw [List.mem_flatMap] at hc'
    obtain ⟨b, hb, hcb⟩ := hc'
    exact has_mem.1 (grw_has hz (hz.hh _ (ix_lt (has_mem.1 h b hb)))) c hcb
theorem count_one {n : Nat} (hn : n ≤ 100) {b : UInt8} (hb : isL n b) {q : Nat} (hq : q < n) : (if b == lt q then 1 else 0) = if q = ix b then 1 else 0 := by
  by_cases e : q = ix b
  · subst e
    rw [lt_ix hb hn]; simp
  · rw [if_neg e, if_neg]
    intro e2
    have e3 : b = lt q := by simpa using e2
    rw [e3, ix_lt' (by omega)] at e
    exact e rfl
theorem count_flat {z : List (List UInt8)} {n : Nat} (hn : n ≤ 100) (c : UInt8) : ∀ {w : List UInt8}, has n w → (grw z 1 w).count c = sumT (fun q => w.count (lt q) * (z.getD q []).count c) n
  | [], _ => by
    rw [sumT_congr (g := fun _ => 0) fun t _ => by simp, sumT_zero]; rfl
  | b :: w, h => by
    have hb : isL n b := has_mem.1 h b List.mem_cons_self
    have hw : has n w := has_mem.2 fun x hx => has_mem.1 h x (List.mem_cons_of_mem _ hx)
    have e : grw z 1 (b :: w) = z.getD (ix b) [] ++ grw z 1 w := rfl
    rw [e, List.count_append, count_flat hn c hw]
    have e2 : sumT (fun q => (b :: w).count (lt q) * (z.getD q []).count c) n = sumT (fun q => w.count (lt q) * (z.getD q []).count c + if q = ix b then (z.getD q []).count c else 0) n := by
      refine sumT_congr fun q hq => ?_
      rw [List.count_cons, count_one hn hb hq, Nat.add_mul]
      congr 1
      split <;> simp
    rw [e2, sumT_add, sumT_one (f := fun q => (z.getD q []).count c) (ix_lt hb)]
    omega
theorem count_take {s : List UInt8} {j p : Nat} (hj : j < s.length) {n : Nat} (hn : n ≤ 100) (hb : isL n (s.getD j 0)) (hp : p < n) : (s.take (j + 1)).count (lt p) = (s.take j).count (lt p) + if p = ix (s.getD j 0) then 1 else 0 := by
  rw [take_snoc 0 hj, List.count_append]
  congr 1
  rw [← count_one hn hb hp]
  simp [List.count_cons]
theorem sat_mulC {a b x : Nat} (h : sat a = sat b) : sat (a * x) = sat (b * x) := by
  rcases Nat.eq_zero_or_pos x with rfl | hx
  · rw [Nat.mul_zero, Nat.mul_zero]
  · have h1 : a ≤ a * x := Nat.le_mul_of_pos_right a hx
    have h2 : b ≤ b * x := Nat.le_mul_of_pos_right b hx
    by_cases e : a = b
    · rw [e]
    · unfold sat at *; omega
theorem sat_sum {f g : Nat → Nat} : ∀ {n : Nat}, (∀ t, t < n → sat (f t) = sat (g t)) → sat (sumT f n) = sat (sumT g n)
  | 0, _ => rfl
  | n + 1, h => by
    have h1 := sat_sum (f := f) (g := g) (n := n) fun t ht => h t (by omega)
    have h2 := h n (by omega)
    show sat (sumT f n + f n) = sat (sumT g n + g n)
    rw [← sat_add, h1, h2, sat_add]
end
end Go.Proofs.Ytfohppnelbbepaa.T
/- Buds of the reference, Endless -/
open Go.Vm
set_option linter.unusedVariables false
set_option linter.unusedSectionVars false
namespace Go.Proofs.Ytfohppnelbbepaa.T
open Go
variable [Ovr]
section
variable {ro : List ABlk} {h hp : Heap}
theorem RowG.row {L e : Nat} {v : AVal} {z : List Int} (g : RowG hp L e v (z.map (AVal.i .i64))) : IsRow ro hp v z := by
  rcases g with ⟨rfl, h⟩ | ⟨b, blk, rfl, h2, h3, h4, h5, h6, h7⟩
  · exact .inl ⟨rfl, by simpa using h⟩
  · rw [List.length_map] at h6 h7 ⊢
    refine .inr ⟨_, _, blk, rfl, rdB_heap h4 0, by show 0 + z.length ≤ _; omega, fun j hj => ?_⟩
    rw [Nat.zero_add, h7 j hj]
    simp [List.getD, hj]
end
end Go.Proofs.Ytfohppnelbbepaa.T
/- Letter -/
open Go.Vm
set_option linter.unusedVariables false
set_option linter.unusedSectionVars false
namespace Go.Proofs.Ytfohppnelbbepaa.T
open Go
variable [Ovr]
section
variable {ro : List ABlk} {h hp : Heap}
end
end Go.Proofs.Ytfohppnelbbepaa.T
/- Letter of the reference, law 7 -/
open Go.Vm
set_option linter.unusedVariables false
set_option linter.unusedSectionVars false
namespace Go.Proofs.Ytfohppnelbbepaa.T
open Go
variable [Ovr]
section
variable {ro : List ABlk} {h hp : Heap}
end
end Go.Proofs.Ytfohppnelbbepaa.T
/- Parts of the reference -/
open Go.Vm
set_option linter.unusedVariables false
set_option linter.unusedSectionVars false
namespace Go.Proofs.Ytfohppnelbbepaa.T
open Go
variable [Ovr]
section
variable {ro : List ABlk} {h hp : Heap}
theorem Holds.row {K : Heap} {b n : Nat} {c : Cap} {x : List Int} (a : Holds K b (x.map (AVal.i .i64))) (hn : n = x.length) : IsRow ro K (.sl ⟨false, b, 0⟩ n c) x := by
  subst hn
  obtain ⟨blk, h1, h2, h3⟩ := a
  rw [List.length_map] at h2 h3
  refine .inr ⟨_, _, blk, rfl, rdB_heap h1 0, by show 0 + x.length ≤ _; omega, fun j hj => ?_⟩
  rw [Nat.zero_add, h3 j hj]
  simp [List.getD, hj]
def cntL (z : List (List UInt8)) (y : Nat) (s : List UInt8) (k : Nat) : List Int := (List.range k).map fun p => (((grw z y s).count (lt p) : Nat) : Int)
def cntOk (z : List (List UInt8)) (y : Nat) (s : List UInt8) (k : Nat) : Prop := ∀ p, p < k → (grw z y s).count (lt p) ≤ 1152921504606846976
noncomputable instance {z : List (List UInt8)} {y : Nat} {s : List UInt8} {k : Nat} : Decidable (cntOk z y s k) := Classical.propDecidable _
noncomputable def partsV (z : List (List UInt8)) (s : List UInt8) (y : Int) : List Int × Int := if errY z s y ≠ 0 then ([], errY z s y) else if cntOk z y.toNat s z.length then (cntL z y.toNat s z.length, 0) else ([], 4)
end
end Go.Proofs.Ytfohppnelbbepaa.T
/- Parts, law 3 -/
open Go.Vm
set_option linter.unusedVariables false
set_option linter.unusedSectionVars false
namespace Go.Proofs.Ytfohppnelbbepaa.T
open Go
variable [Ovr]
section
variable {ro : List ABlk} {h hp : Heap}
def col (n : Nat) (f : Nat → Nat) : List (List Nat) := (List.range n).map fun p => [f p]
theorem col_get {n : Nat} (f : Nat → Nat) {p : Nat} (hp : p < n) : (col n f)[p]? = some [f p] := by simp [col, hp]
theorem dot_col {z : List (List UInt8)} {n p : Nat} (hn : n = z.length) (hp : p < n) (f : Nat → Nat) : ∀ k, k ≤ n → dot57 ((mat55 z).getD p []) (col n f) 0 k = sat (sumT (fun t => f t * (z.getD t []).count (lt p)) k)
  | 0, _ => rfl
  | k + 1, hk => by
    have e1 : ((mat55 z).getD p []).getD k 0 = (z.getD k []).count (lt p) := by
      rw [mat55_row z (by omega)]
      simp [List.getD, show k < z.length by omega]
    have e2 : ((col n f).getD k []).getD 0 0 = f k := by rw [List.getD_eq_getElem?_getD (l := col n f), col_get f (by omega)]; rfl
    show sat (dot57 ((mat55 z).getD p []) (col n f) 0 k + sat (((mat55 z).getD p []).getD k 0 * ((col n f).getD k []).getD 0 0)) = _
    rw [dot_col hn hp f k (by omega), e1, e2, sat_add, Nat.mul_comm]
    rfl
theorem prod_col {z : List (List UInt8)} {n : Nat} (hn : n = z.length) (h1 : 1 ≤ n) (f : Nat → Nat) : prod57 (mat55 z) (col n f) = col n fun p => sat (sumT (fun t => f t * (z.getD t []).count (lt p)) n) := by
  have e0 : ((col n f).getD 0 []).length = 1 := by rw [List.getD_eq_getElem?_getD, col_get f (by omega)]; rfl
  have e1 : (col n f).length = n := by simp [col]
  unfold prod57
  rw [e0, e1]
  refine List.ext_getElem? fun p => ?_
  rcases Nat.lt_or_ge p n with hp | hp
  · have hm : (mat55 z)[p]? = some ((mat55 z).getD p []) := by
      have : p < (mat55 z).length := by rw [mat55_len]; omega
      simp [List.getD, this]
    rw [List.getElem?_map, hm, col_get _ hp]
    show some [dot57 ((mat55 z).getD p []) (col n f) 0 n] = _
    rw [dot_col hn hp f n (Nat.le_refl _)]
  · rw [List.getElem?_eq_none (by simp [mat55_len]; omega), List.getElem?_eq_none (by simp [col]; omega)]
set_option maxHeartbeats 2000000 in
theorem parts21 {v : AVal} {z : List (List UInt8)} {s : List UInt8} {y : Int} (a : IsS ro h v z) (hf : z.length ≤ 1000000 ∧ (∀ i, i < z.length → (z.getD i []).length ≤ 1000000) ∧ s.length ≤ 1000000) :
    ∃ w H, callX F1 ro 21 [v, .s s, .i .i64 y] h = some (.tup [w, .i .i64 (partsV z s y).2], H, h.length, h.length) ∧ Keep h H ∧ IsRow ro H w (partsV z s y).1 := by
  have c47 := cp0 (years47 (ro := ro) (h := h) (y := y) (s := s) a hf.1 hf.2.1 hf.2.2)
  by_cases h0 : errY z s y = 0
  rotate_left
  · have e : partsV z s y = ([], errY z s y) := by unfold partsV; rw [if_pos h0]
    refine ⟨.nsl, h, g21_ok (meansX_ok F1 ro) (Ovr.no rfl) ?_, Keep.refl _, by rw [e]; exact .inl ⟨rfl, rfl⟩⟩
    rw [e]
    unfold g21
    simp only [mC, c47, pS, x0, x1, oS, iS, fB, eqI_ne h0, nF, cT, tA2]
    exact fin_pure rfl
  obtain ⟨hS, k, rfl, hk⟩ := errY_ok h0
  have hz := VOk.of (errS_V hS)
  have n6 := hz.h6
  have n1 := hz.h1
  obtain ⟨hs30, hsh⟩ := errS_ok hS
  obtain ⟨n, hn⟩ : ∃ n, n = z.length := ⟨_, rfl⟩
  have e : partsV z s (k : Int) = if cntOk z k s z.length then (cntL z k s z.length, 0) else ([], 4) := by unfold partsV; rw [if_neg (fun e => e h0), Int.toNat_natCast]
  obtain ⟨L, hL⟩ : ∃ L, L = h.length := ⟨_, rfl⟩
  -- the list of rows
  have hm1 := mk_ok (ro := ro) (hp := h) (e := 63) (es := 1) (bytes := 24) (z := [AVal.nsl]) (n := n) (l := L) (p := L) (by omega) (by omega)
  obtain ⟨H1, hH1⟩ : ∃ H1, H1 = h ++ [some (blkOf 63 (rep [AVal.nsl] n))] := ⟨_, rfl⟩
  have o1 : Holds H1 L (rep [AVal.nsl] n) := by rw [hH1, hL]; exact Holds.new _ _ _
  rw [← hH1, ← hL] at hm1
  have l1 : H1.length = L + 1 := by rw [hH1, hL]; simp
  have k1 : Keep h H1 := by rw [hH1]; exact Keep.app _
  obtain ⟨rows, hrows⟩ : ∃ rows : Nat → List AVal, rows = fun i => (List.range n).map fun r => if r < i then AVal.sl ⟨false, L + 1 + r, 0⟩ 1 (.known 1) else .nsl := ⟨_, rfl⟩
  have o1' : Holds H1 L (rows 0) := by
    have : rep [AVal.nsl] n = rows 0 := by
      rw [rep_repl, hrows]
      refine List.ext_getElem? fun i => ?_
      rcases Nat.lt_or_ge i n with hi | hi
      · simp [hi]
      · rw [List.getElem?_eq_none (by simpa using hi), List.getElem?_eq_none (by simpa using hi)]
    rwa [this] at o1
  have key0 : ∃ r, loopX (fun q : Int × Mm => g21_b0 (meansX F1 ro) ro s (k : Int) v (.sl ⟨false, L, 0⟩ n (.known n)) (n : Int) q.1 q.2) (0, ⟨H1, L, L⟩) = some r ∧ ∃ K, r = ⟨K, L, L⟩ ∧ Keep h K ∧ K.length = L + 1 + n ∧ Holds K L (rows n) ∧ ∀ r, r < n → Holds K (L + 1 + r) [eU 0] := by
    refine loop_gen n (fun i q => ∃ K, q = ((i : Int), ⟨K, L, L⟩) ∧ Keep h K ∧ K.length = L + 1 + i ∧ Holds K L (rows i) ∧ ∀ r, r < i → Holds K (L + 1 + r) [eU 0]) _ ?_ ?_ n 0 _ (by omega) ⟨H1, rfl, k1, by omega, o1', fun r hr => by omega⟩
    · rintro i q hi ⟨K, rfl, kK, lK, g1, g2⟩
      have b1 := bsl1 (ro := ro) (hp := K) (e := 61) (l := L) (p := L) (z := AVal.i IntKind.u64 0) (w := .i .u64 0) rfl
      obtain ⟨K1, hK1⟩ : ∃ K1, K1 = K ++ [some (blkOf 61 [AVal.i .u64 0])] := ⟨_, rfl⟩
      rw [← hK1, lK] at b1
      have lK1 : K1.length = L + 1 + i + 1 := by rw [hK1]; simp [lK]
      have kK1 : Keep K K1 := by rw [hK1]; exact Keep.app _
      obtain ⟨K2, s1, f1, f2, f3⟩ := (g1.by kK1).put (ro := ro) (k := i) (w := .sl ⟨false, L + 1 + i, 0⟩ 1 (.known 1)) (by rw [hrows]; simp [hi]) rfl rfl
      have s1' := s1 L L
      rw [show nonp [AVal.sl ⟨false, L + 1 + i, 0⟩ 1 (.known 1)] = false from rfl, cond_false, Nat.min_self] at s1'
      refine ⟨_, (by simp only [g21_b0, fB, ltT (show (i : Int) < (n : Int) by omega), cT, b1, pS, ixS_eq (show i < n from hi), oS, s1', fI', nx (show i ≤ 1000000 by omega)] <;> rfl), K2, rfl, ⟨by have := kK.1; omega, fun t ht => by rw [f3 t (by omega), (kK.trans kK1).2 t ht]⟩, by omega, ?_, fun r hr => ?_⟩
      · have : (rows i).set i (.sl ⟨false, L + 1 + i, 0⟩ 1 (.known 1)) = rows (i + 1) := by
          rw [hrows]
          refine setF (fun t ht hne => ?_) fun _ => ?_
          · by_cases e1 : t < i
            · rw [if_pos e1, if_pos (by omega)]
            · rw [if_neg e1, if_neg (by omega)]
          · rw [if_pos (by omega)]
        rwa [this] at f1
      · by_cases e1 : r = i
        · subst e1
          have : Holds K1 (L + 1 + r) [eU 0] := by rw [hK1, ← lK]; exact Holds.new _ _ _
          exact this.keep (f3 _ (by omega))
        · exact ((g2 r (by omega)).by kK1).keep (f3 _ (by omega))
    · rintro q ⟨K, rfl, kK, lK, g1, g2⟩
      exact ⟨_, (by simp only [g21_b0, fB, ltF (Int.lt_irrefl _), cF] <;> rfl), K, rfl, kK, lK, g1, g2⟩
  obtain ⟨r0, q0, K0, rfl, kK0, lK0, gR, gC⟩ := key0
  -- the shoot's letters
  have rowld : ∀ (K : Heap), Holds K L (rows n) → ∀ r, r < n → ∀ l p, ldM ro ⟨K, l, p⟩ true 1 (.p (some ⟨false, L, 0 + r⟩)) = some (.sl ⟨false, L + 1 + r, 0⟩ 1 (.known 1)) := fun K g r hr l p => (g.ld (ro := ro) (k := r) (by rw [hrows]; simp [hr]) l p).1
  have key1 : ∃ r, loopX (fun q : Int × Mm => g21_b1 (meansX F1 ro) ro s (k : Int) v (.sl ⟨false, L, 0⟩ n (.known n)) (s.length : Int) q.1 q.2) (0, ⟨K0, L, L⟩) = some r ∧ ∃ K, r = ⟨K, L, L⟩ ∧ Keep h K ∧ K.length = L + 1 + n ∧ Holds K L (rows n) ∧ ∀ r, r < n → Holds K (L + 1 + r) [eU ((s.take s.length).count (lt r))] := by
    refine loop_gen s.length (fun j q => ∃ K, q = ((j : Int), ⟨K, L, L⟩) ∧ Keep h K ∧ K.length = L + 1 + n ∧ Holds K L (rows n) ∧ ∀ r, r < n → Holds K (L + 1 + r) [eU ((s.take j).count (lt r))]) _ ?_ ?_ s.length 0 _ (by omega) ⟨K0, rfl, kK0, lK0, gR, by simpa using gC⟩
    · rintro j q hj ⟨K, rfl, kK, lK, g1, g2⟩
      have hb := hsh j hj
      rw [← hn] at hb
      have hx := ix_lt hb
      have hlK := kK.1
      have c54 := cp (l := L) (p := L) (part_of (ro := ro) (h := K) hb) (by omega) (by omega)
      obtain ⟨K', s1, f1, f2, f3⟩ := (g2 _ hx).put (ro := ro) (k := 0) (w := eU ((s.take j).count (lt (ix (s.getD j 0))) + 1)) (by simp) rfl rfl
      have s1' := s1 L L
      rw [show nonp [eU ((s.take j).count (lt (ix (s.getD j 0))) + 1)] = true from rfl, cond_true, show min L (L + 1 + ix (s.getD j 0)) = L by omega] at s1'
      have hcl : (s.take j).count (lt (ix (s.getD j 0))) ≤ 1000000 := by
        have := List.count_le_length (a := lt (ix (s.getD j 0))) (l := s.take j)
        rw [List.length_take] at this; omega
      have e3 : wr .u64 ((((s.take j).count (lt (ix (s.getD j 0))) : Nat) : Int) + 1) = (((s.take j).count (lt (ix (s.getD j 0))) + 1 : Nat) : Int) := by rw [wr_u64 (by omega) (by omega)]; omega
      have ld0 := ((g2 _ hx).ld (ro := ro) (k := 0) rfl L L).1
      have ix00 : evP .e (.ixS 1 (.c (.sl ⟨false, L + 1 + ix (s.getD j 0), 0⟩ 1 (.known 1))) (.c (.i .i64 0))) = some (.p (some ⟨false, L + 1 + ix (s.getD j 0), 0 + 0⟩)) := ixS_eq (i := 0) (by omega)
      have s1'' : stepM ro ⟨K, L, L⟩ (.st 1 (.c (.p (some ⟨false, L + 1 + ix (s.getD j 0), 0 + 0⟩))) (.c (.i .u64 (((s.take j).count (lt (ix (s.getD j 0))) + 1 : Nat) : Int)))) = some (und, ⟨K', L, L⟩) := s1'
      refine ⟨_, (by simp only [g21_b1, fB, ltT (show (j : Int) < (s.length : Int) by omega), cT, ix_str hj, oS, iS, mC, c54, pS, ixS_eq hx, rowld K g1 _ hx, ix00, ld0, eU, fI', e3, s1'', nx (show j ≤ 1000000 by omega)] <;> rfl), K', rfl, ⟨by omega, fun t ht => by rw [f3 t (by omega), kK.2 t ht]⟩, by omega, g1.keep (f3 _ (by omega)), fun r hr => ?_⟩
      by_cases e1 : r = ix (s.getD j 0)
      · subst e1
        rw [count_take hj (show n ≤ 100 by omega) hb hx, if_pos rfl]
        exact f1
      · rw [count_take hj (show n ≤ 100 by omega) hb hr, if_neg e1, Nat.add_zero]
        exact (g2 r hr).keep (f3 _ (by omega))
    · rintro q ⟨K, rfl, kK, lK, g1, g2⟩
      exact ⟨_, (by simp only [g21_b1, fB, ltF (Int.lt_irrefl _), cF] <;> rfl), K, rfl, kK, lK, g1, g2⟩
  obtain ⟨r1, q1, K1, rfl, kK1, lK1, g1, g2⟩ := key1
  rw [List.take_length] at g2
  have C0 : IsM eU ro K1 (.sl ⟨false, L, 0⟩ n (.known n)) (col n fun p => s.count (lt p)) := by
    have hl : (col n fun p => s.count (lt p)).length = n := by simp [col]
    have := rowsM (ro := ro) (enc := eU) (x := col n fun p => s.count (lt p)) (c := .known n) g1 (by rw [hl, hrows]; simp) fun i x hx => by
      have hi : i < n := by have := (List.getElem?_eq_some_iff.1 hx).1; rwa [hl] at this
      rw [col_get _ hi] at hx
      cases hx
      exact ⟨.sl ⟨false, L + 1 + i, 0⟩ 1 (.known 1), by rw [hrows]; simp [hi], Holds.R (c := .known 1) (z := [s.count (lt i)]) (g2 i hi) 1 rfl⟩
    rwa [hl] at this
  obtain ⟨w1, H2, c55, k2, m2⟩ := matrix55 (ro := ro) (S_by a kK1) hz.h1 hz.h6 hz.h8
  have M1 : IsM eU ro H2 w1 (mat55 z) := m2.isM
  have hlK1 := kK1.1
  have c55' := cM (l := L) (p := L) c55 (by omega) (by omega)
  have kh2 : Keep h H2 := kK1.trans k2
  have hlH2 := kh2.1
  -- year by year
  have key2 : ∃ r, loopX (fun q : AVal × Int × Mm => g21_b2 (meansX F1 ro) ro v w1 (k : Int) q.1 q.2.1 q.2.2) (.sl ⟨false, L, 0⟩ n (.known n), 0, ⟨H2, L, L⟩) = some r ∧ ∃ u J f, r = (u, ⟨J, L, L⟩) ∧ Keep H2 J ∧ IsM eU ro J u (col n f) ∧ ∀ p, p < n → sat (f p) = sat ((grw z k s).count (lt p)) ∧ f p ≤ 9223372036854775808 := by
    refine loop_gen k (fun i q => ∃ u J f, q = (u, (i : Int), ⟨J, L, L⟩) ∧ Keep H2 J ∧ IsM eU ro J u (col n f) ∧ ∀ p, p < n → sat (f p) = sat ((grw z i s).count (lt p)) ∧ f p ≤ 9223372036854775808) _ ?_ ?_ k 0 _ (by omega) ⟨_, H2, _, rfl, Keep.refl _, M_by C0 k2, fun p hp => ⟨rfl, ?_⟩⟩
    rotate_left
    · rintro q ⟨u, J, f, rfl, kJ, mJ, hfp⟩
      exact ⟨_, (by simp only [g21_b2, fB, ltF (Int.lt_irrefl _), cF] <;> rfl), u, J, f, rfl, kJ, mJ, hfp⟩
    · have := List.count_le_length (a := lt p) (l := s); omega
    · rintro i q hi ⟨u, J, f, rfl, kJ, mJ, hfp⟩
      have hlJ := kJ.1
      have hcl : (col n f).length = n := by simp [col]
      have hgh : has n (grw z i s) := by rw [hn]; exact grw_has hz hsh
      obtain ⟨u', J', c57, kJ', m'⟩ := prod57_ok (ro := ro) (M_by M1 kJ) mJ (by rw [mat55_len]; omega) (by omega) (by omega) (fun x hx => by rw [hcl, hn]; exact mat55_mem (r := z) hx) (m := 1) (by omega) (fun x hx => by
          obtain ⟨p, -, rfl⟩ := List.mem_map.1 hx
          rfl) (fun x hx => mat55_le hz.h8 hx) (fun x hx => by
          obtain ⟨p, hp, rfl⟩ := List.mem_map.1 hx
          intro y hy
          simp only [List.mem_singleton] at hy
          subst hy
          exact (hfp p (List.mem_range.1 hp)).2)
      rw [prod_col hn (by omega) f] at m'
      have c57' := cM (l := L) (p := L) c57 (by omega) (by omega)
      refine ⟨_, (by simp only [g21_b2, fB, ltT (show (i : Int) < (k : Int) by omega), cT, mC, c57', pS, fI', nx (show i ≤ 1000000 by omega)] <;> rfl), u', J', _, rfl, kJ.trans kJ', m'.isM, fun p hp => ⟨?_, sat_le _⟩⟩
      show sat (sat _) = _
      rw [sat_sat, grw_last, count_flat (show n ≤ 100 by omega) (lt p) hgh]
      exact sat_sum fun t ht => sat_mulC (hfp t ht).1
  obtain ⟨r2, q2, u, J, f, rfl, kJ, mJ, hfp⟩ := key2
  have hfe : ∀ p, p < n → f p = sat ((grw z k s).count (lt p)) := fun p hp => by
    obtain ⟨e1, e2⟩ := hfp p hp
    rw [← e1]; unfold sat; omega
  have hlJ := kJ.1
  have khJ : Keep h J := kh2.trans kJ
  have hcl : (col n f).length = n := by simp [col]
  have hlu := len_M mJ
  rw [hcl] at hlu
  -- the result
  have hm3 := mk_ok (ro := ro) (hp := J) (e := 3) (es := 1) (bytes := 8) (z := [AVal.i IntKind.i64 0]) (n := n) (l := L) (p := L) (by omega) (by omega)
  obtain ⟨B, hB⟩ : ∃ B, B = J.length := ⟨_, rfl⟩
  obtain ⟨J1, hJ1⟩ : ∃ J1, J1 = J ++ [some (blkOf 3 (rep [AVal.i IntKind.i64 0] n))] := ⟨_, rfl⟩
  have o3 : Holds J1 B (rep [AVal.i IntKind.i64 0] n) := by rw [hJ1, hB]; exact Holds.new _ _ _
  rw [← hJ1, ← hB] at hm3
  have lJ1 : J1.length = B + 1 := by rw [hJ1, hB]; simp
  have kJ1 : Keep J J1 := by rw [hJ1]; exact Keep.app _
  obtain ⟨out, hout⟩ : ∃ out : Nat → List AVal, out = fun i => (List.range n).map fun r => AVal.i .i64 (if r < i then (((grw z k s).count (lt r) : Nat) : Int) else 0) := ⟨_, rfl⟩
  have o3' : Holds J1 B (out 0) := by
    have : rep [AVal.i IntKind.i64 0] n = out 0 := by
      rw [rep_repl, hout]
      refine List.ext_getElem? fun i => ?_
      rcases Nat.lt_or_ge i n with hi | hi
      · simp [hi]
      · rw [List.getElem?_eq_none (by simpa using hi), List.getElem?_eq_none (by simpa using hi)]
    rwa [this] at o3
  have key3 : ∃ r, loopX (fun q : Int × Mm => g21_b3 (meansX F1 ro) ro (.sl ⟨false, B, 0⟩ n (.known n)) u (n : Int) q.1 q.2) (0, ⟨J1, L, L⟩) = some r ∧ ∃ K, Keep h K ∧ ((cntOk z k s n ∧ r = .inl ⟨K, L, L⟩ ∧ Holds K B (out n)) ∨ (¬ cntOk z k s n ∧ r = .inr (.nsl, 4, ⟨K, L, L⟩))) := by
    refine loop_exit n (fun i q => ∃ K, q = ((i : Int), ⟨K, L, L⟩) ∧ Keep J K ∧ K.length = B + 1 ∧ Holds K B (out i) ∧ cntOk z k s i) _ ?_ ?_ n 0 _ (by omega) ⟨J1, rfl, kJ1, lJ1, o3', fun p hp => by omega⟩
    · rintro i q hi ⟨K, rfl, kK, lK, g, hok⟩
      obtain ⟨p1, u1, i1, i2, i3⟩ := at_M mJ (col_get f hi)
      obtain ⟨p2, j1, j2⟩ := at_R i2 (i := 0) (x := f i) rfl
      have j1' : evP .e (.ixS 1 (.c u1) (.c (.i .i64 0))) = some p2 := j1
      have hst := sat_lt (n := (grw z k s).count (lt i)) (m := 1152921504606846976) (by omega)
      have hfi := hfe i hi
      by_cases hc : 1152921504606846976 < (grw z k s).count (lt i)
      · have := hst.2 hc
        exact .inr ⟨_, (by simp only [g21_b3, fB, ltT (show (i : Int) < (n : Int) by omega), cT, i1, oS, (i3 kK).1, j1', (j2 kK).1, eU, iS, hfi, ltT (show (1152921504606846976 : Int) < ((sat ((grw z k s).count (lt i)) : Nat) : Int) by omega)] <;> rfl), K, khJ.trans kK, .inr ⟨fun hall => by have := hall i hi; omega, rfl⟩⟩
      · have hs1 : f i = (grw z k s).count (lt i) := by rw [hfi]; unfold sat; omega
        obtain ⟨K', s1, f1, f2, f3⟩ := g.put (ro := ro) (k := i) (w := .i .i64 (((grw z k s).count (lt i) : Nat) : Int)) (by rw [hout]; simp [hi]) rfl rfl
        have s1' := s1 L L
        rw [show nonp [AVal.i .i64 (((grw z k s).count (lt i) : Nat) : Int)] = true from rfl, cond_true, show min L B = L by omega] at s1'
        refine .inl ⟨_, (by simp only [g21_b3, fB, ltT (show (i : Int) < (n : Int) by omega), cT, i1, oS, (i3 kK).1, j1', (j2 kK).1, eU, iS, hs1, ltF (show ¬ (1152921504606846976 : Int) < (((grw z k s).count (lt i) : Nat) : Int) by omega), cF, fI', lt64 (show (grw z k s).count (lt i) ≤ 9223372036854775807 by omega), ixS_eq (show i < n from hi), s1', pS, nx (show i ≤ 1000000 by omega)] <;> rfl), K', rfl, ⟨by omega, fun t ht => by rw [f3 t (by omega), kK.2 t ht]⟩, by omega, ?_, fun p hp => ?_⟩
        · have : (out i).set i (.i .i64 (((grw z k s).count (lt i) : Nat) : Int)) = out (i + 1) := by
            rw [hout]
            refine setF (fun t ht hne => ?_) fun _ => ?_
            · by_cases e1 : t < i
              · rw [if_pos e1, if_pos (by omega)]
              · rw [if_neg e1, if_neg (by omega)]
            · rw [if_pos (by omega)]
          rwa [this] at f1
        · rcases Nat.lt_or_ge p i with h1 | h1
          · exact hok p h1
          · obtain rfl : p = i := by omega
            omega
    · rintro q ⟨K, rfl, kK, lK, g, hok⟩
      exact ⟨_, (by simp only [g21_b3, fB, ltF (Int.lt_irrefl _), cF] <;> rfl), K, khJ.trans kK, .inl ⟨hok, rfl, g⟩⟩
  obtain ⟨r3, q3, K, kK, q4⟩ := key3
  have e0 : eqI (errY z s (k : Int)) 0 = true := by rw [h0]; rfl
  rcases q4 with ⟨hok, rfl, g⟩ | ⟨hok, rfl⟩
  · have eo : out n = (cntL z k s n).map (AVal.i .i64) := by
      rw [hout]
      unfold cntL
      rw [List.map_map]
      refine List.map_congr_left fun p hp => ?_
      rw [if_pos (List.mem_range.1 hp)]
      rfl
    rw [eo] at g
    rw [e, ← hn, if_pos hok]
    obtain ⟨H', f1, f2, f3⟩ := fin_any (w := .tup [.sl ⟨false, B, 0⟩ n (.known n), .i .i64 0]) kK
    have hbel : (AVal.tup [.sl ⟨false, B, 0⟩ n (.known n), .i .i64 0]).bel h.length = false := by
      have : Nat.blt B h.length = false := by rw [← Bool.not_eq_true, Nat.blt_eq]; omega
      simp [AVal.bel, bels, this]
    obtain rfl := f3 hbel
    refine ⟨_, H', g21_ok (meansX_ok F1 ro) (Ovr.no rfl) (?_ : _ = some (AVal.tup [.sl ⟨false, B, 0⟩ n (.known n), .i .i64 0], H', h.length, h.length)), kK, g.row (by simp [cntL])⟩
    unfold g21
    rw [← hL] at c47 f1 ⊢
    simp only [mC, c47, pS, x0, x1, oS, iS, fB, e0, nT, cF, if_pos h0, len_S a, ← hn, hm1, len_sl, meansX_loop, q0, len_str, q1, c55', q2, hm3, hlu, q3, tA2]
    exact f1
  · rw [e, ← hn, if_neg hok]
    refine ⟨.nsl, h, g21_ok (meansX_ok F1 ro) (Ovr.no rfl) ?_, Keep.refl _, .inl ⟨rfl, rfl⟩⟩
    unfold g21
    rw [← hL] at c47 ⊢
    simp only [mC, c47, pS, x0, x1, oS, iS, fB, e0, nT, cF, if_pos h0, len_S a, ← hn, hm1, len_sl, meansX_loop, q0, len_str, q1, c55', q2, hm3, hlu, q3, tA2]
    subst hL
    exact fin_keep kK rfl
end
end Go.Proofs.Ytfohppnelbbepaa.T
/- sorted of the reference -/
open Go.Vm
set_option linter.unusedVariables false
set_option linter.unusedSectionVars false
namespace Go.Proofs.Ytfohppnelbbepaa.T
open Go
variable [Ovr]
section
variable {ro : List ABlk} {h hp : Heap}
end
end Go.Proofs.Ytfohppnelbbepaa.T
/- Factors of the reference, law 8 -/
open Go.Vm
set_option linter.unusedVariables false
set_option linter.unusedSectionVars false
namespace Go.Proofs.Ytfohppnelbbepaa.T
open Go
variable [Ovr]
section
variable {ro : List ABlk} {h hp : Heap}
end
end Go.Proofs.Ytfohppnelbbepaa.T
/- The word of Fibonacci -/
open Go.Vm
set_option linter.unusedVariables false
set_option linter.unusedSectionVars false
namespace Go.Proofs.Ytfohppnelbbepaa.T
open Go
variable [Ovr]
/- the word of Fibonacci -/
/- how often each letter lies in the word of Thue and Morse -/
end Go.Proofs.Ytfohppnelbbepaa.T
/- Law 14 -/
open Go.Vm
set_option linter.unusedVariables false
set_option linter.unusedSectionVars false
namespace Go.Proofs.Ytfohppnelbbepaa.T
open Go
variable [Ovr]
section
variable {ro : List ABlk} {h hp : Heap}
end
end Go.Proofs.Ytfohppnelbbepaa.T
/- Law 13 -/
open Go.Vm
set_option linter.unusedVariables false
set_option linter.unusedSectionVars false
namespace Go.Proofs.Ytfohppnelbbepaa.T
open Go
variable [Ovr]
/- what a bud becomes is a beginning of the word -/
theorem win_one {s : List UInt8} {t : Nat} (ht : t < s.length) : (s.take (t + 1)).drop t = [s.getD t 0] := by
  have hl : (s.take t).length = t := by rw [List.length_take]; omega
  rw [take_snoc 0 ht]
  have := List.drop_left (l₁ := s.take t) (l₂ := [s.getD t 0])
  rwa [hl] at this
section
variable {ro : List ABlk} {h hp : Heap}
theorem u8_in {n : Int} (h : (Lit.int .u8 n).wf = true) : 0 ≤ n ∧ n ≤ 255 := by
  simp only [Lit.wf, Bool.and_eq_true, decide_eq_true_eq] at h
  exact h
theorem u16_in {n : Int} (h : (Lit.int .u16 n).wf = true) : 0 ≤ n ∧ n ≤ 65535 := by
  simp only [Lit.wf, Bool.and_eq_true, decide_eq_true_eq] at h
  exact h
end
end Go.Proofs.Ytfohppnelbbepaa.T
/- Law 10 -/
open Go.Vm
set_option linter.unusedVariables false
set_option linter.unusedSectionVars false
namespace Go.Proofs.Ytfohppnelbbepaa.T
open Go
variable [Ovr]
theorem grw_add (z : List (List UInt8)) (j : Nat) : ∀ k s, grw z k (grw z j s) = grw z (j + k) s
  | 0, s => rfl
  | k + 1, s => by
    have e : grw z (j + (k + 1)) s = grw z 1 (grw z (j + k) s) := grw_last z (j + k) s
    rw [e, grw_last, grw_add z j k s]
section
variable {ro : List ABlk} {h hp : Heap}
def rowI (n : Nat) (f : Nat → Nat) : List AVal := (List.range n).map fun p => .i .i64 ((f p : Nat) : Int)
theorem rowI_new {H : Heap} {e n : Nat} : Holds (H ++ [some (blkOf e (rep [AVal.i IntKind.i64 0] n))]) H.length (rowI n fun _ => 0) := by
  have h0 := Holds.new H e (rep [AVal.i IntKind.i64 0] n)
  have e : rowI n (fun _ => 0) = List.replicate n (AVal.i IntKind.i64 0) := by
    refine List.ext_getElem? fun i => ?_
    rcases Nat.lt_or_ge i n with hi | hi
    · simp [rowI, hi]
    · rw [List.getElem?_eq_none (by simpa [rowI] using hi), List.getElem?_eq_none (by simpa using hi)]
  rw [e, ← rep_repl]; exact h0
theorem rowI_put {K : Heap} {b n p x : Nat} {f g : Nat → Nat} (a : Holds K b (rowI n f)) (hp : p < n) (hg : ∀ t, t < n → t ≠ p → g t = f t) (hx : g p = x) : ∃ K', (∀ l q, stepM ro ⟨K, l, q⟩ (.st 1 (.c (.p (some ⟨false, b, 0 + p⟩))) (.c (.i .i64 (x : Int)))) = some (und, ⟨K', min l b, q⟩)) ∧ Holds K' b (rowI n g) ∧ K'.length = K.length ∧ ∀ i, i ≠ b → K'[i]? = K[i]? := by
  obtain ⟨K', s1, g1, n1, o1⟩ := a.put (ro := ro) (k := p) (w := .i .i64 (x : Int)) (by simp [rowI, hp]) rfl rfl
  refine ⟨K', fun l q => ?_, ?_, n1, o1⟩
  · have := s1 l q
    rwa [show nonp [AVal.i .i64 (x : Int)] = true from rfl, cond_true] at this
  · unfold rowI at g1
    rw [setF (g := fun t => .i .i64 ((g t : Nat) : Int))] at g1
    · exact g1
    · intro t ht hne; simp only [hg t ht hne]
    · intro _; simp only [hx]
theorem rowI_ld {K : Heap} {b n p : Nat} {f : Nat → Nat} (a : Holds K b (rowI n f)) (hp : p < n) (l q : Nat) : ldM ro ⟨K, l, q⟩ true 1 (.p (some ⟨false, b, 0 + p⟩)) = some (.i .i64 ((f p : Nat) : Int)) :=
  (a.ld (ro := ro) (k := p) (w := .i .i64 ((f p : Nat) : Int)) (by simp [rowI, hp]) l q).1
theorem growV_ok {z : List (List UInt8)} {s : List UInt8} {k : Nat} (h : (growV z s (k : Int)).2 = 0) : errY z s (k : Int) = 0 ∧ lenS z k s ≤ 100000 ∧ growV z s (k : Int) = (grw z k s, 0) := by
  unfold growV at h ⊢
  by_cases h0 : errY z s (k : Int) = 0
  · rw [if_neg (fun e => e h0), Int.toNat_natCast] at h ⊢
    by_cases hc : 100000 < lenS z k s
    · rw [if_pos hc] at h; cases h
    · rw [if_neg hc]
      exact ⟨h0, by omega, rfl⟩
  · rw [if_pos h0] at h
    exact absurd h h0
theorem growV_of {z : List (List UInt8)} {s : List UInt8} {k : Nat} (h0 : errY z s (k : Int) = 0) (hl : lenS z k s ≤ 100000) : growV z s (k : Int) = (grw z k s, 0) := by
  unfold growV
  rw [if_neg (fun e => e h0), Int.toNat_natCast, if_neg (by omega)]
set_option maxHeartbeats 2000000 in
theorem law10 {v : AVal} {z : List (List UInt8)} {s : List UInt8} {y2 y3 y4 : Int} (hA : ∀ h, callX F1 ro 16 [] h = some (.b true, h, h.length, h.length)) (a : IsS ro h v z) (h2 : 0 ≤ y2 ∧ y2 ≤ 255) (h3 : 0 ≤ y3 ∧ y3 ≤ 255) (h4 : 0 ≤ y4 ∧ y4 ≤ 65535) :
    callX F1 ro 10 [v, .s s, .i .u8 y2, .i .u8 y3, .i .u16 y4] h = some (.b true, h, h.length, h.length) := by
  refine g10_ok (meansX_ok F1 ro) (Ovr.no rfl) ?_
  unfold g10
  simp only [mC, cp0 (few15 (s := s) a), pS, bS, fB]
  by_cases hf : fewB z s
  rotate_left
  · simp only [dF hf, nF, cT, cp0 (hA h), pS, bS, tA]
    exact fin_pure rfl
  have hf' := fewB_len hf
  obtain ⟨c2, rfl⟩ := Int.eq_ofNat_of_zero_le h2.1
  obtain ⟨c3, rfl⟩ := Int.eq_ofNat_of_zero_le h3.1
  obtain ⟨c4, rfl⟩ := Int.eq_ofNat_of_zero_le h4.1
  obtain ⟨j, hj⟩ : ∃ j, j = c2 % 12 := ⟨_, rfl⟩
  obtain ⟨k, hk⟩ : ∃ k, k = c3 % 12 := ⟨_, rfl⟩
  have hj11 : j ≤ 11 := by omega
  have hk11 : k ≤ 11 := by omega
  have t1 : Int.tmod (c2 : Int) 12 = (j : Int) := by rw [hj]; rfl
  have t2 : Int.tmod (c3 : Int) 12 = (k : Int) := by rw [hk]; rfl
  have w1 : wr .i64 (j : Int) = (j : Int) := lt64 (by omega)
  have w2 : wr .i64 (k : Int) = (k : Int) := lt64 (by omega)
  have w3 : wr .i64 ((j : Int) + (k : Int)) = ((j + k : Nat) : Int) := by rw [wr_id' (by omega) (by omega)]; omega
  simp only [dT hf, nT, cF, fI', t1, w1, t2, w2, w3, cp0 (grow17 (y := (j : Int)) a hf'), cp0 (grow17 (y := ((j + k : Nat) : Int)) a hf'), pS, x0, x1, oS, sS, iS]
  by_cases hg1 : (growV z s (j : Int)).2 = 0
  rotate_left
  · simp only [eqI_ne hg1, nF, cT, oS, cp0 (hA h), pS, bS, tA]
    exact fin_pure rfl
  by_cases hg2 : (growV z s ((j + k : Nat) : Int)).2 = 0
  rotate_left
  · have e1 : eqI (growV z s (j : Int)).2 0 = true := by rw [hg1]; rfl
    simp only [e1, nT, cF, eqI_ne hg2, nF, cT, oS, cp0 (hA h), pS, bS, tA]
    exact fin_pure rfl
  obtain ⟨eY1, hl1, eG1⟩ := growV_ok hg1
  obtain ⟨eY2, hl2, eG2⟩ := growV_ok hg2
  obtain ⟨hS, _, _, _⟩ := errY_ok eY1
  have hv := errS_V hS
  have vok := VOk.of hv
  have n6 := vok.h6
  have n1 := vok.h1
  obtain ⟨hs30, hsh⟩ := errS_ok hS
  obtain ⟨S, hSd⟩ : ∃ S, S = grw z (j + k) s := ⟨_, rfl⟩
  have hSl : S.length = lenS z (j + k) s := by rw [hSd, grw_len]
  have hSh : has z.length S := by rw [hSd]; exact grw_has vok hsh
  rw [eG1, eG2, ← hSd]
  simp only [eqI_self, nT, cF, oS, len_str, iS]
  obtain ⟨L, hL⟩ : ∃ L, L = h.length := ⟨_, rfl⟩
  -- the shoot that grows from the shoot
  have reg : cond (!ltI 30 ((grw z j s).length : Int)) (
      bindP (callM (callX F1 ro) ⟨h, h.length, h.length⟩ 17 [v, (.s (grw z j s)), (.i .i64 (k : Int))]) fun v67 m_6 =>
      bindO (evP .e (.ext 0 (.c v67))) fun v68 =>
      asS v68 fun s68 =>
      bindO (evP .e (.ext 1 (.c v67))) fun v69 =>
      asI .i64 v69 fun x69 =>
      bindO (cond (!eqI x69 0) (
        some true) (
        bindO (evP .e (.sbin BinOp.neq (.c (.s s68)) (.c (.s S)))) fun v75 =>
        asB v75 fun c75 =>
        some c75)) fun c76 =>
      cond c76 (
        some (.inr (false, m_6))) (
        some (.inl m_6))) (
      some (.inl ⟨h, h.length, h.length⟩)) = (some (.inl ⟨h, h.length, h.length⟩) : Option (Mm ⊕ (Bool × Mm))) := by
    by_cases hc : 30 < (grw z j s).length
    · simp only [ltT (show (30 : Int) < ((grw z j s).length : Int) by omega), nT, cF]
    · have hgh : has z.length (grw z j s) := grw_has vok hsh
      have eS : errS z (grw z j s) = 0 := by unfold errS; rw [if_neg (by simp [hv]), if_pos ⟨by omega, hgh⟩]
      have eYk : errY z (grw z j s) (k : Int) = 0 := by unfold errY; rw [if_neg (fun e => e eS), if_pos (by omega)]
      have eadd := grw_add z j k s
      have hlk : lenS z k (grw z j s) ≤ 100000 := by rw [← grw_len, eadd, grw_len]; exact hl2
      have c := cp0 (grow17 (ro := ro) (h := h) (s := grw z j s) (y := (k : Int)) a ⟨hf'.1, hf'.2.1, by omega⟩)
      rw [growV_of eYk hlk, eadd, ← hSd] at c
      simp only [ltF (show ¬ (30 : Int) < ((grw z j s).length : Int) by omega), nF, cT, c, pS, x0, x1, oS, sS, iS, eqI_self, nT, cF, strNe, decide_true, bS]
  rw [reg, oS]
  have eLong : longV z s ((j + k : Nat) : Int) = ((S.length : Int), 0) := by
    unfold longV
    rw [if_neg (fun e => e eY2), Int.toNat_natCast, if_neg (by omega), hSl]
  have hcount : ∀ p, S.count (lt p) ≤ 100000 := fun p => by
    have := List.count_le_length (a := lt p) (l := S); omega
  have ePart : partsV z s ((j + k : Nat) : Int) = (cntL z (j + k) s z.length, 0) := by
    unfold partsV
    rw [if_neg (fun e => e eY2), Int.toNat_natCast, if_pos]
    intro p hp
    have := hcount p
    rw [hSd] at this; omega
  obtain ⟨w, H1, c21, k1, r21⟩ := parts21 (ro := ro) (s := s) (y := ((j + k : Nat) : Int)) a hf'
  rw [ePart] at c21 r21
  have q1 := k1.1
  have hcl : (cntL z (j + k) s z.length).length = z.length := by simp [cntL]
  have hlw := len_row r21
  rw [hcl] at hlw
  have c19 := cp0 (long19 (ro := ro) (h := h) (s := s) (y := ((j + k : Nat) : Int)) a hf')
  rw [eLong] at c19
  have c21' := cM c21 (Nat.le_refl _) (Nat.le_refl _)
  rw [← hL] at c21' c19
  obtain ⟨n, hn⟩ : ∃ n, n = z.length := ⟨_, rfl⟩
  have hm := mk_ok (ro := ro) (hp := H1) (e := 3) (es := 1) (bytes := 8) (z := [AVal.i IntKind.i64 0]) (n := n) (l := L) (p := L) (by omega) (by omega)
  obtain ⟨H2, hH2⟩ : ∃ H2, H2 = H1 ++ [some (blkOf 3 (rep [AVal.i IntKind.i64 0] n))] := ⟨_, rfl⟩
  have hnew : Holds H2 H1.length (rowI n fun _ => 0) := by rw [hH2]; exact rowI_new
  rw [← hH2] at hm
  have l2 : H2.length = H1.length + 1 := by rw [hH2]; simp
  have k2 : Keep H1 H2 := by rw [hH2]; exact Keep.app _
  have key : ∃ r, loopX (fun q : Int × Mm => g10_b6 (meansX F1 ro) ro v s (c4 : Int) (j : Int) (k : Int) S w (.sl ⟨false, H1.length, 0⟩ n (.known n)) q.1 q.2) (0, ⟨H2, L, L⟩) = some r ∧ ∃ K, r = .inl ⟨K, L, L⟩ ∧ Keep H1 K ∧ Holds K H1.length (rowI n fun p => (S.take S.length).count (lt p)) := by
    refine loop_gen S.length (fun i q => ∃ K, q = ((i : Int), ⟨K, L, L⟩) ∧ Keep H1 K ∧ Holds K H1.length (rowI n fun p => (S.take i).count (lt p))) _ ?_ ?_ S.length 0 _ (by omega) ⟨H2, rfl, k2, by simpa using hnew⟩
    · rintro i q hi ⟨K, rfl, kK, g⟩
      have hb := hSh i hi
      rw [← hn] at hb
      have hx := ix_lt hb
      have e2 : ix (S.getD i 0) ≤ 255 := by unfold ix; have := (S.getD i 0).toNat_lt; omega
      have m1 := rowI_ld (ro := ro) g hx L L
      have hcc : (S.take i).count (lt (ix (S.getD i 0))) ≤ 100000 := by
        have := List.count_le_length (a := lt (ix (S.getD i 0))) (l := S.take i)
        rw [List.length_take] at this; omega
      obtain ⟨K', s1, g1, n1', o1⟩ := rowI_put (ro := ro) (g := fun p => (S.take (i + 1)).count (lt p)) (x := (S.take i).count (lt (ix (S.getD i 0))) + 1) g hx (fun t ht hne => by simp only [count_take hi (by omega : n ≤ 100) hb ht, if_neg hne]; omega) (by simp only [count_take hi (by omega : n ≤ 100) hb hx, if_true])
      have s1' := s1 L L
      rw [show min L H1.length = L by omega] at s1'
      have khK : Keep h K := k1.trans kK
      exact ⟨_, (by simp only [g10_b6, len_str, oS, iS, fB, ltT (show (i : Int) < (S.length : Int) by omega), cT, ix_str hi, fI', sub97 hb.1, lt64 (show ix (S.getD i 0) ≤ 9223372036854775807 by omega), ltF (show ¬ ((ix (S.getD i 0) : Nat) : Int) < 0 by omega), cF, len_S (S_by a khK), ltT (show ((ix (S.getD i 0) : Nat) : Int) < (z.length : Int) by omega), nT, ixS_eq hx, m1, nx (show (S.take i).count (lt (ix (S.getD i 0))) ≤ 1000000 by omega), s1', pS, nx (show i ≤ 1000000 by omega)] <;> rfl), K', rfl, ⟨by have := kK.1; omega, fun t ht => by rw [o1 t (by omega), kK.2 t ht]⟩, g1⟩
    · rintro q ⟨K, rfl, kK, g⟩
      exact ⟨_, (by simp only [g10_b6, len_str, oS, iS, fB, ltF (Int.lt_irrefl _), cF] <;> rfl), K, rfl, kK, g⟩
  obtain ⟨r, e6, K, rfl, kK, g⟩ := key
  rw [List.take_length] at g
  have khK : Keep h K := k1.trans kK
  have qK := khK.1
  have rK : IsRow ro K (.sl ⟨false, H1.length, 0⟩ n (.known n)) (cntL z (j + k) s z.length) := by
    refine Holds.row (x := cntL z (j + k) s z.length) ?_ (by rw [hcl]; exact hn)
    have : (cntL z (j + k) s z.length).map (AVal.i .i64) = rowI n fun p => S.count (lt p) := by
      unfold cntL rowI
      rw [List.map_map, hn, hSd]; rfl
    rw [this]; exact g
  have c23 := cp (l := L) (p := L) (same23 (ro := ro) rK (row_by r21 kK) (by rw [hcl]; exact hf'.1)) (by omega) (by omega)
  have cA := cp (l := L) (p := L) (hA K) (by omega) (by omega)
  have e0 : eqI (0 : Int) 0 = true := rfl
  simp only [← hL, c19, pS, x0, x1, oS, iS, c21', e0, nT, cF, eqI_self, hlw, len_S a, ← hn, hm, meansX_loop, e6, c23, bS, decide_true]
  by_cases hS0 : S.length = 0
  · have e1 : eqI (S.length : Int) 0 = true := by rw [hS0]; rfl
    simp only [e1, cT, cA, pS, bS, tA]
    subst hL
    exact fin_keep khK rfl
  obtain ⟨m, hmd⟩ : ∃ m, m = c4 % S.length := ⟨_, rfl⟩
  have hml : m < S.length := by rw [hmd]; exact Nat.mod_lt _ (by omega)
  have t3 : Int.tmod (c4 : Int) (S.length : Int) = (m : Int) := by rw [hmd]; exact (Int.ofNat_tmod _ _).symm
  have w4 : wr .i64 (c4 : Int) = (c4 : Int) := lt64 (by omega)
  have ck0 : (!eqI (S.length : Int) (Int.ofNat 0)) = true := by rw [eqI_ne (by have : Int.ofNat 0 = 0 := rfl; omega)]; rfl
  have aK := S_by a khK
  have c24 := cp (l := L) (p := L) (at24 (ro := ro) (s := s) (y := ((j + k : Nat) : Int)) (x := (m : Int)) aK hf' (by omega)) (by omega) (by omega)
  have c24' := cp (l := L) (p := L) (at24 (ro := ro) (s := s) (y := ((j + k : Nat) : Int)) (x := (S.length : Int)) aK hf' (by omega)) (by omega) (by omega)
  have eA1 : atV z s ((j + k : Nat) : Int) (m : Int) = ([S.getD m 0], 0) := by
    unfold atV
    rw [if_neg (fun e => e eY2), if_neg (by omega), Int.toNat_natCast, Int.toNat_natCast, if_pos (by omega), hSd]
  have eA2 : atV z s ((j + k : Nat) : Int) (S.length : Int) = ([], 6) := by
    unfold atV
    rw [if_neg (fun e => e eY2), if_neg (by omega), Int.toNat_natCast, Int.toNat_natCast, if_neg (by omega)]
  rw [eA1] at c24
  rw [eA2] at c24'
  have e6' : eqI (6 : Int) 6 = true := rfl
  simp only [eqI_ne (show (S.length : Int) ≠ 0 by omega), cF, w4, ck0, ckT, t3, c24, c24', pS, x0, x1, oS, sS, iS, e0, cT, nx (show m ≤ 1000000 by omega), slS_win (show m ≤ m + 1 by omega) (show m + 1 ≤ S.length by omega), win_one hml, strEq, decide_true, bS, e6', cA, tA]
  subst hL
  exact fin_keep khK rfl
end
end Go.Proofs.Ytfohppnelbbepaa.T
/- The bridge, alive known -/
open Go.Vm
set_option linter.unusedVariables false
set_option linter.unusedSectionVars false
namespace Go.Proofs.Ytfohppnelbbepaa.T
open Go Go.RowKit Go.Deep Go.WideShapes Go.ChangeShapes
attribute [local instance] ovA
theorem aliveA {ro : List ABlk} (h : Heap) : callX F1 ro 16 [] h = some (.b true, h, h.length, h.length) := callX_ov rfl
theorem call_ofA {W : World} {ro : List ABlk} {rl : Rl} (hE : (Env.mk Try.prog W.heap.size W ro rl).Ok) {K : Nat} {vs : List AVal} {args : Array Value}
    (hv : LR rl [] vs args) {h' : Heap} {lw lp : Nat} (hc : callX F1 ro K vs [] = some (.b true, h', lw, lp)) : Calls Try.prog K args W fun e W' => e = .returned (.bool true) ∧ Below W.heap.size W W' :=
  call_of hE (alive_known hE (Try.checked.mixed) fok) hv hc
theorem exC {ro : List ABlk} {k : Nat} {l : List AVal} {h : Heap} {n m : Nat} {H : Heap} (e : callX F1 ro k l h = some (.b true, H, n, m)) : ∃ h' lw lp, callX F1 ro k l h = some (.b true, h', lw, lp) := ⟨_, _, _, e⟩
end Go.Proofs.Ytfohppnelbbepaa.T

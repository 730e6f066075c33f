/- The visitors; Transversal and Transversals of the program. -/
import Derived.Test.YtllmlonngnhbfaaVmK11
open Go.Vm
set_option linter.unusedVariables false
namespace Go.Proofs.Ytllmlonngnhbfaa.Bed
open Go

theorem not_bel {L b off len : Nat} {cap : Cap} (h : L ≤ b) : (AVal.sl ⟨false, b, off⟩ len cap).bel L = false := by
  simp only [AVal.bel, Bool.false_or]
  cases hh : Nat.blt b L
  · rfl
  · rw [Nat.blt_eq] at hh; omega

theorem st_ptr {ro : List ABlk} {hp : Heap} {b off l p : Nat} {blk : ABlk} (hb : lget hp b = some (some blk)) (ho : off < blk.n) {v : AVal} (hv : v.one = true) (hc : v.cells = [v]) (hn : nonp [v] = false) :
    stepM ro ⟨hp, l, p⟩ (.st 1 (.c (.p (some ⟨false, b, off⟩))) (.c v)) = some (und, ⟨hp.set b (some { blk with c := blk.c.set off v }), min l b, min p b⟩) := by
  simp only [stepM, stepK, opd, st_st, hc, List.length_cons, List.length_nil, Nat.zero_add, wrH_heap hb ho hv, hn, cond_false, St.mm]
  rfl

theorem clone_ok {ro : List ABlk} {h : Heap} {v : AVal} {z : List Int} (hr : IsRow ro h v z) (h0 : z ≠ []) (hz : z.length ≤ 1000) :
    callX F1 ro 74 [v] h = some (.sl ⟨false, h.length + 1, 0⟩ z.length .grow, h ++ [some (blkOf 3 []), some (blkOf 3 (z.map (AVal.i .i64)))], h.length, h.length) := by
  have hl : 0 < z.length := by
    cases z with
    | nil => exact absurd rfl h0
    | cons a l => simp
  rcases hr with ⟨rfl, rfl⟩ | ⟨q, cap, blk, rfl, hb, hn, hc⟩
  · exact absurd rfl h0
  · refine g74_ok (meansX_ok F1 ro) rfl ?_
    unfold g74
    have hr : IsRow ro h (.sl q z.length cap) z := .inr ⟨q, cap, blk, rfl, hb, hn, hc⟩
    have e1 : evP .e (.nilcmp false (.c (.sl q z.length cap))) = some (.b false) := rfl
    have e2 : stepM ro ⟨h, h.length, h.length⟩ (.bsl 3 1 [(AVal.i IntKind.i64 0)] 0 []) = some (.sl ⟨false, h.length, 0⟩ 0 (.known 0), ⟨h ++ [some (blkOf 3 [])], h.length, h.length⟩) := rfl
    have e3 : stepM ro ⟨h ++ [some (blkOf 3 [])], h.length, h.length⟩ (.app 3 1 8 [(AVal.i IntKind.i64 0)] (.c (.sl ⟨false, h.length, 0⟩ 0 (.known 0))) (.c (.sl q z.length cap))) =
        some (.sl ⟨false, h.length + 1, 0⟩ z.length .grow, ⟨h ++ [some (blkOf 3 []), some (blkOf 3 (z.map (AVal.i .i64)))], h.length, h.length⟩) := by
      have h1 : Nat.ble (0 + z.length) 0 = false := by
        cases hh : Nat.ble (0 + z.length) 0
        · rfl
        · rw [Nat.ble_eq] at hh; omega
      have h2 : rdB ro (h ++ [some (blkOf 3 [])]) ⟨false, h.length, 0⟩ = some (blkOf 3 []) := rdB_heap (lget_last _ _) 0
      have h3 : (Nat.ble (0 + 0 * 1) (blkOf 3 []).n && fits (0 + z.length) 8) = true := by
        rw [fits_small (by omega) (by omega)]; rfl
      have hsrc := src_row (hr.ext [some (blkOf 3 [])])
      simp only [stepM, stepK, opd, st_app, hsrc, app_known, h1, cond_false, h2, h3, cond_true, newB, St.mm]
      simp [Tr.row]
    simp only [e1, bindO_some, asB_b, cond_false, e2, bindP_some, e3, tupA]
    simp [finM, gc, not_bel (Nat.le_succ _)]

/-- counting -/
def visCount (ro : List ABlk) (n bv : Nat) : Vis ro n where
  S := Int
  f := 76
  bv := bv
  V := fun s hp => ∃ blk, lget hp bv = some (some blk) ∧ blk.n = 1 ∧ blk.c.get 0 = .i .i64 s
  Q := fun _ => True
  next := fun s _ => wr .i64 (s + 1)
  cont := fun _ _ => true
  keep := fun s hp hp' ⟨blk, h1, h2, h3⟩ _ h => ⟨blk, by rw [h]; exact h1, h2, h3⟩
  visit := fun s hp v z ⟨blk, h1, h2, h3⟩ _ hbv hr hne hz => by
    have hst := st_heap (ro := ro) (l := hp.length) (p := hp.length) h1 (by omega : 0 < blk.n) (v := .i .i64 (wr .i64 (s + 1))) rfl rfl rfl
    refine ⟨hp.set bv (some { blk with c := blk.c.set 0 (.i .i64 (wr .i64 (s + 1))) }), bv, hp.length, g76_ok (meansX_ok F1 ro) rfl ?_, ⟨_, lget_set h1 _, h2, by simp [get_set]⟩, .inl trivial, fun _ => trivial, by simp, fun i hi hne => by rw [List.getElem?_set_ne (fun h => hne h.symm)]⟩
    unfold g76
    simp only [ld_heap (m := ⟨hp, hp.length, hp.length⟩) rfl h1 (by omega : 0 < blk.n), h3, bindO_some, asI_i, forceI_eq, hst, bindP_some, tupA, Nat.min_eq_right (Nat.le_of_lt hbv)]
    have hble : Nat.ble hp.length hp.length = true := by rw [Nat.ble_eq]; exact Nat.le_refl _
    simp [finM, gc, hble, AVal.bel, List.take_of_length_le]

/-- keeping the first one -/
def visLeast (ro : List ABlk) (n bv : Nat) (hn : 0 < n) (hn7 : n ≤ 7) : Vis ro n where
  S := Option (List Nat)
  f := 73
  bv := bv
  V := fun s hp => ∃ blk, lget hp bv = some (some blk) ∧ blk.n = 1 ∧ (match s with
    | none => blk.c.get 0 = .nsl
    | some z => ∃ b, blk.c.get 0 = .sl ⟨false, b, 0⟩ z.length .grow ∧ bv < b ∧ IsRow ro hp (.sl ⟨false, b, 0⟩ z.length .grow) (nts z))
  Q := fun s => s = none
  next := fun _ z => some z
  cont := fun _ _ => false
  keep := fun s hp hp' ⟨blk, h1, h2, h3⟩ hq h => ⟨blk, by rw [h]; exact h1, h2, by subst hq; exact h3⟩
  visit := fun s hp v z ⟨blk, h1, h2, h3⟩ hq hbv hr hne hz => by
    have hzl : (nts z).length = n := by rw [nts_len]; exact hz
    have hcl := clone_ok hr (fun h => by rw [h] at hzl; simp at hzl; omega) (by omega)
    have hcall := callM_eq (call := callX F1 ro) (m := ⟨hp, hp.length, hp.length⟩) hcl
    simp only [Nat.min_self] at hcall
    obtain ⟨hp1, hhp1⟩ : ∃ hp1, hp1 = hp ++ [some (blkOf 3 []), some (blkOf 3 ((nts z).map (AVal.i .i64)))] := ⟨_, rfl⟩
    rw [← hhp1] at hcall
    have hb1 : lget hp1 bv = some (some blk) := by rw [hhp1]; exact lget_ext h1 _
    have hst := st_ptr (ro := ro) (l := hp.length) (p := hp.length) hb1 (by omega : 0 < blk.n) (v := .sl ⟨false, hp.length + 1, 0⟩ (nts z).length .grow) rfl rfl rfl
    refine ⟨hp1.set bv (some { blk with c := blk.c.set 0 (.sl ⟨false, hp.length + 1, 0⟩ (nts z).length .grow) }), bv, bv, g73_ok (meansX_ok F1 ro) rfl ?_, ⟨_, lget_set hb1 _, h2, hp.length + 1, by simp [get_set, nts_len], by omega, ?_⟩, .inr (Nat.le_refl _), (fun h => by cases h), by rw [List.length_set, hhp1, List.length_append]; omega, fun i hi hne => by
      rw [List.getElem?_set_ne (fun h => hne h.symm), hhp1, List.getElem?_append_left hi]⟩
    · unfold g73
      simp only [meansX_call, hcall, bindP_some, hst, tupA, Nat.min_eq_right (Nat.le_of_lt hbv)]
      have hble : Nat.ble hp.length bv = false := by
        cases hh : Nat.ble hp.length bv
        · rfl
        · rw [Nat.ble_eq] at hh; omega
      simp [finM, gc, hble]
    · refine .inr ⟨_, _, blkOf 3 ((nts z).map (AVal.i .i64)), by rw [nts_len], rdB_heap (by
        rw [lget_eq, List.getElem?_set_ne (by omega), hhp1, List.getElem?_append_right (by omega)]
        simp) 0, by simp [blkOf, nts_len], fun j hj => ?_⟩
      rw [get_blk, Nat.zero_add, map_getD hj]

theorem each_ok {ro : List ABlk} {x : List (List Int)} (hf : fullP x) (Vi : Vis ro x.length) {h : Heap} {bg : Nat} (hg : ∃ blk, lget h bg = some (some blk) ∧ blk.n = 113 ∧ GrOf blk.c x) (hbg : bg ≠ Vi.bv) (hbv : Vi.bv < h.length) {s : Vi.S} (hV : Vi.V s h) (hQ : Vi.Q s) :
    ∃ h' lw lp, callX F1 ro 72 [.p (some ⟨false, bg, 0⟩), .fn Vi.f [] [.p (some ⟨false, Vi.bv, 0⟩)]] h = some (.tup [], h', lw, lp) ∧ Vi.V (runV Vi.next Vi.cont s (tl x x.length [])).1 h' ∧ (Vi.Q (runV Vi.next Vi.cont s (tl x x.length [])).1 ∨ lp ≤ Vi.bv) ∧ h.length ≤ h'.length ∧ ∀ i, i < h.length → i ≠ Vi.bv → h'[i]? = h[i]? := by
  have h7 := hf.1.1.2.1
  obtain ⟨gb, hg1, hg2, hg3⟩ := hg
  have hglt := lget_lt hg1
  obtain ⟨L, hL⟩ : ∃ L, L = h.length := ⟨_, rfl⟩
  obtain ⟨vf, hvf⟩ : ∃ vf, vf = AVal.fn Vi.f [] [.p (some ⟨false, Vi.bv, 0⟩)] := ⟨_, rfl⟩
  obtain ⟨B3, hB3⟩ : ∃ B, B = blkOf 55 [.p (some ⟨false, bg, 0⟩)] := ⟨_, rfl⟩
  obtain ⟨B4, hB4⟩ : ∃ B, B = blkOf 88 [vf] := ⟨_, rfl⟩
  obtain ⟨BC, hBC⟩ : ∃ B, B = blkOf 3 (rep [AVal.i .i64 0] x.length) := ⟨_, rfl⟩
  obtain ⟨B5, hB5⟩ : ∃ B : ABlk, B = { blkOf 32 [AVal.nsl] with c := (blkOf 32 [AVal.nsl]).c.set 0 (.sl ⟨false, L + 2, 0⟩ x.length (.known x.length)) } := ⟨_, rfl⟩
  obtain ⟨fv, hfv⟩ : ∃ fv, fv = AVal.fn 92 [] [.p (some ⟨false, L, 0⟩), .p (some ⟨false, L + 1, 0⟩), .p (some ⟨false, L + 3, 0⟩), .p (some ⟨false, L + 4, 0⟩)] := ⟨_, rfl⟩
  obtain ⟨B6, hB6⟩ : ∃ B : ABlk, B = { blkOf 107 [AVal.nfn] with c := (blkOf 107 [AVal.nfn]).c.set 0 fv } := ⟨_, rfl⟩
  have s1 : stepM ro ⟨h, L, L⟩ (.bx 55 1 (.c (.p (some ⟨false, bg, 0⟩)))) = some (.p (some ⟨false, L, 0⟩), ⟨h ++ [some B3], L, L⟩) := by rw [hB3, hL]; rfl
  have s2 : stepM ro ⟨h ++ [some B3], L, L⟩ (.bx 88 1 (.c vf)) = some (.p (some ⟨false, L + 1, 0⟩), ⟨h ++ [some B3] ++ [some B4], L, L⟩) := by
    rw [hB4, hvf]; simp [stepM, stepK, st_bx, opd, AVal.cells, newB, St.mm, hL]
  have l2 : lget (h ++ [some B3] ++ [some B4]) L = some (some B3) := by rw [lget_eq, hL]; simp
  have lg2 : lget (h ++ [some B3] ++ [some B4]) bg = some (some gb) := lget_ext (lget_ext hg1 _) _
  have hrep : ∀ n, (rep [AVal.i .i64 0] n).length = n := fun n => by
    induction n with
    | zero => rfl
    | succ n ih => simp [rep, ih]
  have s3 : stepM ro ⟨h ++ [some B3] ++ [some B4], L, L⟩ (.mk 3 1 8 [(AVal.i IntKind.i64 0)] (.c (.i .i64 x.length)) (.c (.i .i64 x.length))) = some (.sl ⟨false, L + 2, 0⟩ x.length (.known x.length), ⟨h ++ [some B3] ++ [some B4] ++ [some BC], L, L⟩) := by
    have hc : (Nat.ble x.length x.length && Nat.ble x.length 1048576 && Nat.ble (x.length * 8) 281474976710656) = true := by
      simp only [Bool.and_eq_true, Nat.ble_eq]; omega
    have e : ((x.length : Int)) = Int.ofNat x.length := rfl
    rw [e]
    simp only [stepM, stepK, opd, st_mk, hc, cond_true, newB, St.mm]
    simp [hBC, hL]
  have s4 : stepM ro ⟨h ++ [some B3] ++ [some B4] ++ [some BC], L, L⟩ (.al 32 [AVal.nsl]) = some (.p (some ⟨false, L + 3, 0⟩), ⟨h ++ [some B3] ++ [some B4] ++ [some BC] ++ [some (blkOf 32 [AVal.nsl])], L, L⟩) := by
    simp [stepM, stepK, newB, St.mm, hL]
  have len3 : (h ++ [some B3] ++ [some B4] ++ [some BC]).length = L + 3 := by simp [hL]
  have l4 : lget (h ++ [some B3] ++ [some B4] ++ [some BC] ++ [some (blkOf 32 [AVal.nsl])]) (L + 3) = some (some (blkOf 32 [AVal.nsl])) := by
    rw [← len3]; exact lget_last _ _
  have s5 := st_ptr (ro := ro) (l := L) (p := L) l4 (by simp [blkOf] : 0 < (blkOf 32 [AVal.nsl]).n) (v := .sl ⟨false, L + 2, 0⟩ x.length (.known x.length)) rfl rfl rfl
  have hset5 : (h ++ [some B3] ++ [some B4] ++ [some BC] ++ [some (blkOf 32 [AVal.nsl])]).set (L + 3) (some B5) = h ++ [some B3] ++ [some B4] ++ [some BC] ++ [some B5] := by
    rw [← len3]; simp
  rw [← hB5, hset5, Nat.min_eq_left (by omega : L ≤ L + 3)] at s5
  have s6 : stepM ro ⟨h ++ [some B3] ++ [some B4] ++ [some BC] ++ [some B5], L, L⟩ (.al 107 [AVal.nfn]) = some (.p (some ⟨false, L + 4, 0⟩), ⟨h ++ [some B3] ++ [some B4] ++ [some BC] ++ [some B5] ++ [some (blkOf 107 [AVal.nfn])], L, L⟩) := by
    simp [stepM, stepK, newB, St.mm, hL]
  have len4 : (h ++ [some B3] ++ [some B4] ++ [some BC] ++ [some B5]).length = L + 4 := by simp [hL]
  have l6 : lget (h ++ [some B3] ++ [some B4] ++ [some BC] ++ [some B5] ++ [some (blkOf 107 [AVal.nfn])]) (L + 4) = some (some (blkOf 107 [AVal.nfn])) := by
    rw [← len4]; exact lget_last _ _
  have s7 := st_ptr (ro := ro) (l := L) (p := L) l6 (by simp [blkOf] : 0 < (blkOf 107 [AVal.nfn]).n) (v := fv) (by rw [hfv]; rfl) (by rw [hfv]; rfl) (by rw [hfv]; rfl)
  have hset7 : (h ++ [some B3] ++ [some B4] ++ [some BC] ++ [some B5] ++ [some (blkOf 107 [AVal.nfn])]).set (L + 4) (some B6) = h ++ [some B3] ++ [some B4] ++ [some BC] ++ [some B5] ++ [some B6] := by
    rw [← len4]; simp
  rw [← hB6, hset7, Nat.min_eq_left (by omega : L ≤ L + 4)] at s7
  obtain ⟨H, hH⟩ : ∃ H, H = h ++ [some B3] ++ [some B4] ++ [some BC] ++ [some B5] ++ [some B6] := ⟨_, rfl⟩
  rw [← hH] at s7
  have hHl : H.length = L + 5 := by rw [hH]; simp [hL]
  have hHh : ∀ i, i < L → H[i]? = h[i]? := fun i hi => by
    rw [hH]; simp only [List.append_assoc]; rw [List.getElem?_append_left (by omega)]
  have k3 : lget H L = some (some B3) := by rw [lget_eq, hH, hL]; simp
  have k4 : lget H (L + 1) = some (some B4) := by rw [lget_eq, hH, hL]; simp
  have kc : lget H (L + 2) = some (some BC) := by rw [lget_eq, hH, hL]; simp
  have k5 : lget H (L + 3) = some (some B5) := by rw [lget_eq, hH, hL]; simp
  have k6 : lget H (L + 4) = some (some B6) := by rw [lget_eq, hH, hL]; simp
  have kg : lget H bg = some (some gb) := by rw [lget_of (hHh bg (by omega))]; exact hg1
  have hCh : Ch x (.fn Vi.f [] [.p (some ⟨false, Vi.bv, 0⟩)]) bg L (L + 1) (L + 3) (L + 4) (L + 2) H :=
    ⟨⟨gb, kg, hg2, hg3⟩, ⟨B3, k3, by rw [hB3]; rfl, by rw [hB3]; rfl⟩, ⟨B4, k4, by rw [hB4]; rfl, by rw [hB4, ← hvf]; rfl⟩, ⟨B5, k5, by rw [hB5]; rfl, by rw [hB5]; simp [get_set]⟩, ⟨B6, k6, by rw [hB6]; rfl, by rw [hB6]; simp only [get_set_same]; exact hfv⟩⟩
  have hCo : Cols x (L + 2) H [] := ⟨BC, kc, by rw [hBC]; exact hrep _, fun j hj => by simp at hj⟩
  obtain ⟨h1, lw, lp, c1, c2, c3, c4, c5, c6⟩ := choose_ok hf Vi (bg := bg) (b3 := L) (b4 := L + 1) (b5 := L + 3) (b6 := L + 4) (bc := L + 2) (fun i hi => by omega) (by omega) x.length [] H s 0 0 (by simp) hCh hCo
    (Vi.keep _ _ _ hV hQ (lget_of (hHh _ (by omega)))) hQ (by omega) ⟨by omega, fun c => by simp⟩ ⟨by omega, fun q => by simp⟩
  have hcall := callM_eq (call := callX F1 ro) (m := ⟨H, L, L⟩) c1
  have hgc : ∃ h', finM L (.tup []) ⟨h1, min L lw, min L lp⟩ = some (.tup [], h', min L lw, min L lp) ∧ (h' = h1 ∨ (L ≤ lp ∧ h' = h1.take L)) := by
    by_cases hle : L ≤ lp
    · exact ⟨h1.take L, by simp [finM, gc, AVal.bel, bels, Nat.min_eq_left hle], .inr ⟨hle, rfl⟩⟩
    · refine ⟨h1, ?_, .inl rfl⟩
      have : Nat.ble L (min L lp) = false := by
        cases hh : Nat.ble L (min L lp)
        · rfl
        · rw [Nat.ble_eq] at hh; omega
      simp [finM, gc, this]
  obtain ⟨h', f1, f2⟩ := hgc
  have hkeep1 : ∀ i, i < h.length → i ≠ Vi.bv → h1[i]? = h[i]? := fun i hi hne => by
    rw [c5.2 i (by omega) hne (by omega), hHh i (by omega)]
  have hlen1 : h.length ≤ h1.length := by have := c5.1; omega
  refine ⟨h', min L lw, min L lp, g72_ok (meansX_ok F1 ro) rfl ?_, ?_, c3.imp id fun h => by omega, ?_, ?_⟩
  · unfold g72
    rw [← hL, ← hvf]
    have e5 : ldM ro ⟨H, L, L⟩ true 1 (.p (some ⟨false, L + 4, 0⟩)) = some fv := by rw [ld_heap rfl k6 (by rw [hB6]; simp [blkOf]), hB6]; simp [get_set]
    have e2 : ldM ro ⟨h ++ [some B3] ++ [some B4], L, L⟩ true 1 (.p (some ⟨false, L, 0⟩)) = some (.p (some ⟨false, bg, 0⟩)) := by rw [ld_heap rfl l2 (by rw [hB3]; simp [blkOf]), hB3]; rfl
    have e1 : ldM ro ⟨h ++ [some B3] ++ [some B4], L, L⟩ true 1 (.p (some ⟨false, bg, 0 + 0⟩)) = some (.i .i64 x.length) := by
      obtain ⟨met, q1, q2⟩ := hg3
      rw [ld_heap rfl lg2 (by omega), q1.size]
    simp only [s1, bindP_some, s2, e2, bindO_some, p_nilck, p_faddr, e1, asI_i, s3, s4, s5, s6]
    rw [← hfv]
    simp only [s7, bindP_some, e5, bindO_some, meansX_call]
    rw [hfv]
    simp only [callvM, List.nil_append, List.cons_append]
    have hz : ((([] : List Nat).length : Nat) : Int) = 0 := rfl
    have hz2 : ((0 : Nat) : Int) = 0 := rfl
    rw [hz, hz2] at hcall
    rw [hcall]
    simp only [bindP_some, asB_b, tupA]
    exact f1
  · rcases f2 with rfl | ⟨hle, rfl⟩
    · exact c2
    · have hq : Vi.Q (runV Vi.next Vi.cont s (tl x x.length [])).1 := c3.elim id fun h => by omega
      exact Vi.keep _ _ _ c2 hq (lget_take (by omega))
  · rcases f2 with rfl | ⟨hle, rfl⟩
    · exact hlen1
    · simp; omega
  · intro i hi hne
    rcases f2 with rfl | ⟨hle, rfl⟩
    · exact hkeep1 i hi hne
    · rw [List.getElem?_take, if_pos (by omega)]; exact hkeep1 i hi hne
end Go.Proofs.Ytllmlonngnhbfaa.Bed

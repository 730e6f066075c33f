/- BedCyclic: for every input the law returns true, and the arguments read behind the call as they read before. No conditions. -/
import Derived.Test.YtllmlonngnhbfaaVmKM0
open Go.Vm
set_option linter.unusedVariables false
namespace Go.Proofs.Ytllmlonngnhbfaa.Bed
open Go Go.RowKit Go.Deep Go.WideShapes Go.ChangeShapes Go.ChangeAt

theorem cy39 {ro : List ABlk} {y : Heap} {n s : Nat} (h1 : 1 ≤ n) (h7 : n ≤ 7) (hs1 : 1 ≤ s) (hs : s ≤ n) (hg : Nat.gcd n s = 1) :
    ∃ v z, callM (callX F1 ro) ⟨y, 0, 0⟩ 39 [.i .i64 n, .i .i64 s] = some (.tup [v, .i .i64 0], ⟨y ++ z, 0, 0⟩) ∧ ∀ x, IsMat ro (y ++ z ++ x) v (cyc n s) := by
  obtain ⟨v, z, c1, c2⟩ := cyclic_ok (ro := ro) (h := y) h1 h7 hs1 hs (by omega)
  exact ⟨v, z, (callM_eq (call := callX F1 ro) (m := ⟨y, 0, 0⟩) c1).trans (by simp), fun x => c2.ext x⟩
theorem cy39n {ro : List ABlk} {y : Heap} {n s : Nat} (h1 : 1 ≤ n) (h7 : n ≤ 7) (hs1 : 1 ≤ s) (hs : s ≤ n) (hg : Nat.gcd n s ≠ 1) :
    callM (callX F1 ro) ⟨y, 0, 0⟩ 39 [.i .i64 n, .i .i64 s] = some (.tup [.nsl, .i .i64 2], ⟨y, 0, 0⟩) := by
  have hp : 0 < Nat.gcd n s := Nat.gcd_pos_of_pos_left _ (by omega)
  exact callM_pure (call := callX F1 ro) (l := 0) (p := 0) (cyclic_not (ro := ro) (h := y) h1 h7 hs1 hs (by omega)) (Nat.zero_le _) (Nat.zero_le _)
theorem gc50 {ro : List ABlk} {y : Heap} {n s : Nat} (h1 : 1 ≤ n) (h7 : n ≤ 7) (hs : s ≤ 7) : callM (callX F1 ro) ⟨y, 0, 0⟩ 50 [.i .i64 n, .i .i64 s] = some (.i .i64 (Nat.gcd n s : Nat), ⟨y, 0, 0⟩) :=
  callM_pure (call := callX F1 ro) (l := 0) (p := 0) (gcd_ok (ro := ro) (h := y) (by omega) (by omega) (by omega)) (Nat.zero_le _) (Nat.zero_le _)
theorem cy_tail {ro : List ABlk} (y : Heap) {n : Nat} (h1 : 1 ≤ n) (h7 : n ≤ 7) :
    ∃ v y1 y2 w y3 L e, callM (callX F1 ro) ⟨y, 0, 0⟩ 39 [.i .i64 n, .i .i64 1] = some (.tup [v, .i .i64 0], ⟨y1, 0, 0⟩) ∧
      callM (callX F1 ro) ⟨y1, 0, 0⟩ 33 [v] = some (.tup [.i .i64 (L : Nat), .i .i64 0], ⟨y2, 0, 0⟩) ∧
      callM (callX F1 ro) ⟨y2, 0, 0⟩ 31 [v] = some (.tup [w, .i .i64 e], ⟨y3, 0, 0⟩) ∧
      L % n = 0 ∧ (0 < L ↔ n % 2 = 1) ∧ ((e == 0) = decide (n % 2 = 1)) ∧ ∃ l : Nat, evP .e (.len false (.c w)) = some (.i .i64 l) ∧ (((l : Int) == (n : Int)) = decide (n % 2 = 1)) := by
  have hg : Nat.gcd n 1 = 1 := Nat.gcd_one_right n
  obtain ⟨v, z, c1, c2⟩ := cy39 (ro := ro) (y := y) h1 h7 (Nat.le_refl 1) h1 hg
  obtain ⟨hf, -⟩ := full_facts h1 h7 (Nat.le_refl 1) h1 hg
  obtain ⟨f1, f2⟩ := cnt_facts h1 h7
  have c0 := c2 []
  rw [List.append_nil] at c0
  obtain ⟨y2, lw2, lp2, t1⟩ := transversals_ok (ro := ro) c0 hf
  obtain ⟨w, e, y3, lw3, lp3, t2, t3⟩ := transversal_ok (ro := ro) (c2 y2) hf
  refine ⟨v, y ++ z, y ++ z ++ y2, w, y ++ z ++ y2 ++ y3, (trs (cyc n 1)).length, e, c1, (callM_eq (call := callX F1 ro) (m := ⟨y ++ z, 0, 0⟩) t1).trans (by simp), (callM_eq (call := callX F1 ro) (m := ⟨y ++ z ++ y2, 0, 0⟩) t2).trans (by simp), f1, f2, ?_⟩
  cases hd : trs (cyc n 1) with
  | nil =>
    rw [hd] at t3 f2
    have hodd : ¬ (n % 2 = 1) := fun h => by have := f2.2 h; simp at this
    obtain ⟨rfl, rfl⟩ := t3
    refine ⟨by rw [decide_eq_false hodd]; rfl, 0, rfl, by rw [decide_eq_false hodd]; simp; omega⟩
  | cons q l =>
    rw [hd] at t3 f2
    have hodd : n % 2 = 1 := f2.1 (by simp)
    obtain ⟨rfl, t4⟩ := t3
    have hm : q ∈ trs (cyc n 1) := by rw [hd]; simp
    have hq := trs_elem _ _ _ hm
    rw [cyc_len] at hq
    refine ⟨by rw [decide_eq_true hodd]; rfl, n, ?_, by rw [decide_eq_true hodd]; simp⟩
    rw [len_row t4, nts_len, hq]
    simp

theorem bool_eq {a b : Bool} (h : a = b) : (a == b) = true := by subst h; simp
theorem law14 {ro : List ABlk} {a b c : Nat} (ha : a < 256) (hb : b < 256) (hc : c < 256) : ∃ h' lw lp, callX F1 ro 14 [.i .u8 a, .i .u8 b, .i .u8 c] [] = some (.b true, h', lw, lp) := by
  suffices h : ∃ r, g14 (meansX F1 ro) ro a b c ⟨[], 0, 0⟩ = some r ∧ r.1 = .b true by
    obtain ⟨⟨w, h', lw, lp⟩, h1, rfl⟩ := h
    exact ⟨h', lw, lp, g14_ok (meansX_ok F1 ro) rfl h1⟩
  obtain ⟨n, hn⟩ : ∃ n, n = 1 + a % 7 := ⟨_, rfl⟩
  have hn1 : 1 ≤ n := by omega
  have hn7 : n ≤ 7 := by omega
  obtain ⟨s, hs⟩ : ∃ s, s = 1 + b % n := ⟨_, rfl⟩
  obtain ⟨t, ht⟩ : ∃ t, t = 1 + c % n := ⟨_, rfl⟩
  have hsn : s ≤ n := by have : b % n < n := Nat.mod_lt _ (by omega); omega
  have htn : t ≤ n := by have : c % n < n := Nat.mod_lt _ (by omega); omega
  have i1 : Int.tmod (a : Int) 7 = ((a % 7 : Nat) : Int) := rfl
  have i2 : wr .i64 ((a % 7 : Nat) : Int) = ((a % 7 : Nat) : Int) := wr_id' (by omega) (by omega)
  have i3 : wr .i64 (1 + ((a % 7 : Nat) : Int)) = ((n : Nat) : Int) := by rw [wr_id' (by omega) (by omega)]; omega
  have i4 : wr .i64 (b : Int) = (b : Int) := wr_id' (by omega) (by omega)
  have i5 : wr .i64 (c : Int) = (c : Int) := wr_id' (by omega) (by omega)
  have i6 : ((n : Int) == Int.ofNat 0) = false := by simp; omega
  have i7 : wr .i64 (1 + ((b % n : Nat) : Int)) = ((s : Nat) : Int) := by
    have : b % n < n := Nat.mod_lt _ (by omega)
    rw [wr_id' (by omega) (by omega)]; omega
  have i8 : wr .i64 (1 + ((c % n : Nat) : Int)) = ((t : Nat) : Int) := by
    have : c % n < n := Nat.mod_lt _ (by omega)
    rw [wr_id' (by omega) (by omega)]; omega
  have i9 : wr .i64 ((s : Int) - (t : Int)) = (s : Int) - (t : Int) := wr_id' (by omega) (by omega)
  have i10 : wr .i64 ((t : Int) - (s : Int)) = (t : Int) - (s : Int) := wr_id' (by omega) (by omega)
  have i11 : mxV true ((s : Int) - (t : Int)) ((t : Int) - (s : Int)) = (((s - t) + (t - s) : Nat) : Int) := by
    unfold mxV
    rw [if_pos rfl]
    split <;> omega
  have i12 : Int.tmod (n : Int) 2 = ((n % 2 : Nat) : Int) := rfl
  have halive := fun y => callM_pure (call := callX F1 ro) (h := y) (l := 0) (p := 0) alive_pure (Nat.zero_le _) (Nat.zero_le _)
  have h2 : ((2 : Int) == 0) = false := rfl
  have h0 : ((0 : Int) == 0) = true := rfl
  have odd : (((n % 2 : Nat) : Int) == 1) = decide (n % 2 = 1) := by
    by_cases e : n % 2 = 1
    · rw [decide_eq_true e, e]; rfl
    · rw [decide_eq_false e]
      have : n % 2 = 0 := by omega
      rw [this]; rfl
  have one : ∀ x : Nat, (((x : Nat) : Int) == 1) = decide (x = 1) := fun x => by
    by_cases e : x = 1
    · rw [decide_eq_true e, e]; rfl
    · rw [decide_eq_false e]; simp; omega
  have dec : ∀ (p : Bool), (p == p) = true := fun p => by cases p <;> rfl
  by_cases g1 : Nat.gcd n s = 1
  · obtain ⟨v, z, c1, c2⟩ := cy39 (ro := ro) (y := []) hn1 hn7 (by omega) hsn g1
    rw [List.nil_append] at c1 c2
    by_cases g2 : Nat.gcd n t = 1
    · obtain ⟨u, z2, d1, d2⟩ := cy39 (ro := ro) (y := z) hn1 hn7 (by omega) htn g2
      obtain ⟨f1, f2⟩ := full_facts hn1 hn7 (by omega) hsn g1
      obtain ⟨f3, f4⟩ := f2 t (by omega) htn g2
      obtain ⟨f5, -⟩ := full_facts hn1 hn7 (by omega) htn g2
      have d0 := d2 []
      rw [List.append_nil] at d0
      classical
      have hm := callM_pure (call := callX F1 ro) (l := 0) (p := 0) (mates_ok (c2 z2) d0 f1 f5 (by rw [cyc_len, cyc_len])) (Nat.zero_le _) (Nat.zero_le _)
      have k1 := gc50 (ro := ro) (y := z ++ z2) hn1 hn7 (by omega : s ≤ 7)
      have k2 := gc50 (ro := ro) (y := z ++ z2) hn1 hn7 (by omega : t ≤ 7)
      have k3 := gc50 (ro := ro) (y := z ++ z2) hn1 hn7 (by omega : (s - t) + (t - s) ≤ 7)
      obtain ⟨v1, y1, y2, w, y3, L, e, t1, t2, t3, t4, t5, t6, l, t7, t8⟩ := cy_tail (ro := ro) (z ++ z2) hn1 hn7
      have t9 : decide ((0 : Int) < (L : Int)) = decide (n % 2 = 1) := by
        by_cases e : n % 2 = 1
        · rw [decide_eq_true e]; have := t5.2 e; simp; omega
        · rw [decide_eq_false e]; have : ¬ 0 < L := fun h => e (t5.1 h); simp; omega
      have t10 : ((((L % n : Nat)) : Int) == 0) = true := by rw [t4]; rfl
      have hmd : decide (mateP (cyc n s) (cyc n t)) = decide (Nat.gcd n ((s - t) + (t - s)) = 1) := decide_eq_decide.2 f3
      simp only [evP] at t7
      unfold g14
      cases hb : decide (Nat.gcd n ((s - t) + (t - s)) = 1) with
      | false =>
        rw [hb] at hmd
        simp only [forceI_eq, forceB_eq, i1, i2, i3, i4, i5, eqI_eq, i6, Bool.not_false, chk_true, tmod_nat, i7, i8, i9, i10, i11, i12, meansX_call, c1, d1, bindP_some, evP, ev_ext, opd, lget, bindO_some, asI_i, h0, k1, k2, k3, g1, g2, one, decide_true, dec, Bool.not_true, cond_false, cond_true, hm, asB_b, hmd, hb, t1, t2, t3, t6, odd, ltI_eq, t9, t10, t7, t8, halive, tupA]
        exact ⟨_, rfl, rfl⟩
      | true =>
        rw [hb] at hmd
        have hne : n ≠ 2 := f4 (f3.2 (of_decide_eq_true hb))
        have hn2 : ((n : Int) == 2) = false := by simp; omega
        simp only [forceI_eq, forceB_eq, i1, i2, i3, i4, i5, eqI_eq, i6, Bool.not_false, chk_true, tmod_nat, i7, i8, i9, i10, i11, i12, meansX_call, c1, d1, bindP_some, evP, ev_ext, opd, lget, bindO_some, asI_i, h0, k1, k2, k3, g1, g2, one, decide_true, dec, Bool.not_true, cond_false, cond_true, hm, asB_b, hmd, hb, hn2, t1, t2, t3, t6, odd, ltI_eq, t9, t10, t7, t8, halive, tupA]
        exact ⟨_, rfl, rfl⟩
    · have d1 := cy39n (ro := ro) (y := z) hn1 hn7 (by omega) htn g2
      have k1 := gc50 (ro := ro) (y := z) hn1 hn7 (by omega : s ≤ 7)
      have k2 := gc50 (ro := ro) (y := z) hn1 hn7 (by omega : t ≤ 7)
      obtain ⟨v1, y1, y2, w, y3, L, e, t1, t2, t3, t4, t5, t6, l, t7, t8⟩ := cy_tail (ro := ro) z hn1 hn7
      have t9 : decide ((0 : Int) < (L : Int)) = decide (n % 2 = 1) := by
        by_cases e : n % 2 = 1
        · rw [decide_eq_true e]; have := t5.2 e; simp; omega
        · rw [decide_eq_false e]; have : ¬ 0 < L := fun h => e (t5.1 h); simp; omega
      have t10 : ((((L % n : Nat)) : Int) == 0) = true := by rw [t4]; rfl
      simp only [evP] at t7
      unfold g14
      simp only [forceI_eq, forceB_eq, i1, i2, i3, i4, i5, eqI_eq, i6, Bool.not_false, chk_true, tmod_nat, i7, i8, i9, i10, i11, i12, meansX_call, c1, d1, bindP_some, evP, ev_ext, opd, lget, bindO_some, asI_i, h0, h2, k1, k2, g1, g2, one, decide_true, decide_false, dec, Bool.not_true, cond_false, cond_true, asB_b, t1, t2, t3, t6, odd, ltI_eq, t9, t10, t7, t8, halive, tupA]
      exact ⟨_, rfl, rfl⟩
  · have c1 := cy39n (ro := ro) (y := []) hn1 hn7 (by omega) hsn g1
    have fin : ∀ (x : Int) (u : AVal) (z : Heap), callM (callX F1 ro) ⟨[], 0, 0⟩ 39 [.i .i64 n, .i .i64 t] = some (.tup [u, .i .i64 x], ⟨z, 0, 0⟩) → (x == 0) = decide (Nat.gcd n t = 1) → ∃ r, g14 (meansX F1 ro) ro a b c ⟨[], 0, 0⟩ = some r ∧ r.1 = .b true := by
      intro x u z d1 hx
      have k1 := gc50 (ro := ro) (y := z) hn1 hn7 (by omega : s ≤ 7)
      have k2 := gc50 (ro := ro) (y := z) hn1 hn7 (by omega : t ≤ 7)
      obtain ⟨v1, y1, y2, w, y3, L, e, t1, t2, t3, t4, t5, t6, l, t7, t8⟩ := cy_tail (ro := ro) z hn1 hn7
      have t9 : decide ((0 : Int) < (L : Int)) = decide (n % 2 = 1) := by
        by_cases e : n % 2 = 1
        · rw [decide_eq_true e]; have := t5.2 e; simp; omega
        · rw [decide_eq_false e]; have : ¬ 0 < L := fun h => e (t5.1 h); simp; omega
      have t10 : ((((L % n : Nat)) : Int) == 0) = true := by rw [t4]; rfl
      simp only [evP] at t7
      unfold g14
      simp only [forceI_eq, forceB_eq, i1, i2, i3, i4, i5, eqI_eq, i6, Bool.not_false, chk_true, tmod_nat, i7, i8, i9, i10, i11, i12, meansX_call, c1, d1, bindP_some, evP, ev_ext, opd, lget, bindO_some, asI_i, h0, h2, k1, k2, g1, hx, one, decide_true, decide_false, dec, Bool.not_true, cond_false, cond_true, asB_b, t1, t2, t3, t6, odd, ltI_eq, t9, t10, t7, t8, halive, tupA]
      exact ⟨_, rfl, rfl⟩
    by_cases g2 : Nat.gcd n t = 1
    · obtain ⟨u, z2, d1, d2⟩ := cy39 (ro := ro) (y := []) hn1 hn7 (by omega) htn g2
      exact fin 0 u _ d1 (by rw [decide_eq_true g2]; rfl)
    · have d1 := cy39n (ro := ro) (y := []) hn1 hn7 (by omega) htn g2
      exact fin 2 _ _ d1 (by rw [decide_eq_false g2]; rfl)

theorem u8_nat {n : Int} (h : (Lit.int .u8 n).wf = true) : ∃ k : Nat, n = (k : Int) ∧ k < 256 := by
  have := bounds_u8 h
  exact ⟨n.toNat, by omega, by omega⟩
set_option maxRecDepth 100000 in
theorem lifted14 (os : Os) (started : os.Started) (H : Type) (enc : TypeId × Value → H) :
    ReturnsInHanded {} Try.checked os 14 .any (Rows.bedCyclicSpec.pre6 enc Try.prog Try.f14 Rows.bedCyclicRow.domain false) (Rows.bedCyclicSpec.post enc Try.prog Try.f14 false true false false) := by
  refine returnsInHanded_of_change (C := Try.checked) own started (by kernel_rfl) Try.func14
    (ChangeSpec.witness6 (enc := enc) (C := Try.checked) false ⟨#[], #[.int .u8 0, .int .u8 0, .int .u8 0], []⟩ 8 (by kernel_rfl) (by kernel_rfl) (by kernel_rfl) (by kernel_rfl)) ?_
  intro W base args ds gs before hval0 hW hcnd _
  have hval : ∀ (j : Nat) t v, Try.f14.params[j]? = some t → args[j]? = some v → Value.okWide Try.prog W .any base t v := hval0
  have hW' := hW
  obtain ⟨p, q, hA0, hV, rfl, hfz, hnd⟩ := hW
  have hA : DataW.TrodAll enc Try.prog W 0 (fun _ => true) true Try.f14.params.toList args.toList ds p := hA0
  rw [Try.params14] at hA hval
  obtain ⟨v0, vs0, d0, ds0, p0, q0, hargs, rfl, rfl, h0, r0⟩ := trodAll_cons hA
  obtain ⟨v1, vs1, d1, ds1, p1, q1, rfl, rfl, rfl, h1, r1⟩ := trodAll_cons r0
  obtain ⟨v2, vs2, d2, ds2, p2, q2, rfl, rfl, rfl, h2, r2⟩ := trodAll_cons r1
  obtain ⟨rfl, rfl, rfl⟩ := trodAll_nil r2
  obtain rfl : args = #[v0, v1, v2] := by cases args; simp_all
  obtain ⟨rfl, rfl⟩ := trodVars_none hV
  obtain ⟨n0, rfl, rfl, rfl, w0⟩ := open_int Try.underlying5 (hval 0 5 v0 rfl rfl) h0
  obtain ⟨n1, rfl, rfl, rfl, w1⟩ := open_int Try.underlying5 (hval 1 5 v1 rfl rfl) h1
  obtain ⟨n2, rfl, rfl, rfl, w2⟩ := open_int Try.underlying5 (hval 2 5 v2 rfl rfl) h2
  obtain ⟨a, rfl, ha⟩ := u8_nat w0
  obtain ⟨b, rfl, hb⟩ := u8_nat w1
  obtain ⟨c, rfl, hc⟩ := u8_nat w2
  clear hA0 hval0
  have hE : (Env.mk Try.prog W.heap.size W [] []).Ok := env_ok fun i b hb => by simp at hb
  obtain ⟨h', lw, lp, hcall⟩ := law14 (ro := []) ha hb hc
  refine (call_of alive0 hE (vs := [.i .u8 a, .i .u8 b, .i .u8 c]) (args := #[.int .u8 a, .int .u8 b, .int .u8 c]) ⟨rfl, fun i w hw => by
    match i with
    | 0 => simp at hw; subst hw; exact .i _ _
    | 1 => simp at hw; subst hw; exact .i _ _
    | 2 => simp at hw; subst hw; exact .i _ _
    | i + 3 => simp at hw⟩ hcall).mono fun e W' ⟨he, hb⟩ => ?_
  subst he
  exact ⟨_, rfl, ⟨_, _, _, [], [], [], hW', (trodAll_cons_mk (shut_bool Try.underlying4 _) trodAll_mk0), (trodAll_cons_mk (shut_int Try.underlying5 w0) (trodAll_cons_mk (shut_int Try.underlying5 w1) (trodAll_cons_mk (shut_int Try.underlying5 w2) trodAll_mk0))), rfl, hb.frame _, fun h => by cases h⟩⟩

theorem over14 : Rows.bedCyclicRow.holds Try.pinned (OpenSpec.ofChange Rows.bedCyclicSpec) :=
  OpenClaim.holds_of_wide 14 Try.f14 rfl rfl rfl rfl rfl rfl rfl ⟨rfl, rfl, rfl, rfl, rfl⟩ rfl rfl rfl rfl rfl (by kernel_rfl) Try.func14 (by kernel_rfl)
    (of_decide_eq_true (by kernel_rfl)) (by unfold Func.isWrapper; first | (rw [if_pos (by decide +kernel)]; kernel_rfl) | (rw [if_neg (by decide +kernel)]; exact ⟨rfl, rfl⟩))
    (fun os started H enc _ => lifted14 os started H enc)

end Go.Proofs.Ytllmlonngnhbfaa.Bed

namespace Go.Proofs.Ytllmlonngnhbfaa
/-- the statement -/
theorem bedCyclic_holds : Rows.BedCyclicSaid := Bed.over14
end Go.Proofs.Ytllmlonngnhbfaa
#print axioms Go.Proofs.Ytllmlonngnhbfaa.bedCyclic_holds

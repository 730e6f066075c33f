/- WeedWays: for every rule, every string and every size the law returns true, and the arguments read behind the call as they read before. No conditions. -/
import Derived.Test.YtgbkicelkpagpaaVmK0
import Derived.ChangeMaps5
open Go.Vm
set_option linter.unusedVariables false
namespace Go.Proofs.Ytgbkicelkpagpaa.W
open Go Go.RowKit Go.Deep Go.WideShapes Go.ChangeShapes Go.ChangeAt

theorem i64_u8 : ∀ n, n < 256 → wr .i64 (Int.ofNat n) = Int.ofNat n := by decide +kernel
theorem law12 {n y : Nat} (hn : n < 256) (hy : y < 256) (s : List UInt8) : ∃ h' lw lp, callX F1 [] 12 [.i .u8 n, .s s, .i .u8 y] [] = some (.b true, h', lw, lp) := by
  refine ⟨[], 0, 0, g12_ok (meansX_ok F1 []) rfl ?_⟩
  unfold g12
  have d15 : callM (callX F1 []) ⟨[], 0, 0⟩ 15 [] = some (.b true, ⟨[], 0, 0⟩) := callM_pure (call := callX F1 []) (h := []) (l := 0) (p := 0) alive_any (Nat.le_refl _) (Nat.le_refl _)
  simp only [e_len, bindO_some, asI_i, ltI_eq, forceB_eq]
  by_cases h500 : (500 : Int) < (s.length : Int)
  · simp only [decide_eq_true h500, cond_true]
    show (bindP (callM (meansX F1 []).call ⟨[], 0, 0⟩ 15 []) _) = _
    simp only [meansX_call, d15, bindP_some, asB_b, tupA]
    exact fin_pure rfl
  · have cp : ∀ {f : Nat} {a : List AVal} {v : AVal}, callX F1 [] f a [] = some (v, [], 0, 0) → callM (callX F1 []) ⟨[], 0, 0⟩ f a = some (v, ⟨[], 0, 0⟩) := fun e => callM_pure (call := callX F1 []) (h := []) (l := 0) (p := 0) e (Nat.le_refl _) (Nat.le_refl _)
    have c20 := cp (Back_ok (ro := []) (h := []) (n := n) (s := s))
    have c22 := cp (ways_ok (ro := []) (h := []) (n := n) (s := s))
    have ew : wr .i64 (n : Int) = (n : Int) := i64_u8 n hn
    have hnn : ¬ ((n : Int) < 0 ∨ 255 < (n : Int)) := by omega
    -- all rows of a size
    obtain ⟨m, hm⟩ : ∃ m, m = 1 + y % 8 := ⟨_, rfl⟩
    have hm0 : 0 < m := by omega
    have hm9 : m < 9 := by omega
    have em : wr .i64 (1 + wr .i64 (Int.tmod (y : Int) 8)) = (m : Int) := by rw [hm]; exact mod8 y hy
    obtain ⟨e1, e4⟩ := sh1 m hm9
    have e1' : shlV .i64 1 (m : Int) = ((2 ^ m : Nat) : Int) := e1
    have e4' : shlV .i64 4 (m : Int) = ((4 * 2 ^ m : Nat) : Int) := e4
    have hp2 : 2 ^ m ≤ 256 := by
      have : 2 ^ m ≤ 2 ^ 8 := Nat.pow_le_pow_right (by omega) (by omega)
      omega
    obtain ⟨r, k1, rfl⟩ := loop_seq (b := fun z : Int × Int × Int × Mm => g12_b4 (meansX F1 []) [] n m z.1 z.2.1 z.2.2.1 z.2.2.2) (2 ^ m)
      (fun x z => z = (((sumF (fun x => waysV n (plotsL x m)) x : Nat) : Int), ((sumF (fun x => sumR n (plotsL x m) 4) x : Nat) : Int), (x : Int), (⟨[], 0, 0⟩ : Mm)))
      (fun r => r = .inl (((4 * 2 ^ m : Nat) : Int), ((2 ^ m : Nat) : Int), (⟨[], 0, 0⟩ : Mm)))
      (fun x z hx hI => by
        subst hI
        have hlt : decide ((x : Int) < ((2 ^ m : Nat) : Int)) = true := by simp only [decide_eq_true_eq]; omega
        have hask := ask_row hn (s := plotsL x m) (by rw [plotsL_len]; omega) (by rw [plotsL_len]; omega) plots_row
        have hsh : shE n (plotsL x m) = 0 := by rw [shE, if_neg (fun hh => by rw [plotsL_len] at hh; omega), hask]
        have hw : wysV n (plotsL x m) = ((waysV n (plotsL x m) : Nat) : Int) := by rw [wysV, if_pos hsh, Int.toNat_natCast]
        have hg : rgN n (plotsL x m) = ((sumR n (plotsL x m) 4 : Nat) : Int) := by rw [rgN, if_pos hsh, Int.toNat_natCast]
        have c40 := cp (plots_ok (ro := []) (h := []) (x := x) (m := m) (by omega) (by omega))
        have d22 := cp (ways_ok (ro := []) (h := []) (n := n) (s := plotsL x m))
        have d24 := cp (Rings_ok (ro := []) (h := []) (n := n) (s := plotsL x m))
        rw [hw, hsh] at d22
        rw [hg, hsh] at d24
        have s1 := sumF_mono (F := fun x => waysV n (plotsL x m)) (by omega : x + 1 ≤ 2 ^ m)
        have s2 := sumF_mono (F := fun x => sumR n (plotsL x m) 4) (by omega : x + 1 ≤ 2 ^ m)
        rw [all_ways n hm9] at s1
        rw [all_rings n hm9 hm0] at s2
        have s3 : sumF (fun x => waysV n (plotsL x m)) (x + 1) = sumF (fun x => waysV n (plotsL x m)) x + waysV n (plotsL x m) := rfl
        have s4 : sumF (fun x => sumR n (plotsL x m) 4) (x + 1) = sumF (fun x => sumR n (plotsL x m) 4) x + sumR n (plotsL x m) 4 := rfl
        have w1 : wr .i64 (((sumF (fun x => waysV n (plotsL x m)) x : Nat) : Int) + ((waysV n (plotsL x m) : Nat) : Int)) = ((sumF (fun x => waysV n (plotsL x m)) (x + 1) : Nat) : Int) := by rw [wr_id' (by omega) (by omega)]; omega
        have w2 : wr .i64 (((sumF (fun x => sumR n (plotsL x m) 4) x : Nat) : Int) + ((sumR n (plotsL x m) 4 : Nat) : Int)) = ((sumF (fun x => sumR n (plotsL x m) 4) (x + 1) : Nat) : Int) := by rw [wr_id' (by omega) (by omega)]; omega
        have z0 : ((0 : Int) == 0) = true := rfl
        refine ⟨_, ?_, rfl⟩
        simp only [g12_b4, ltI_eq, nneg, chk_true, forceI_eq, e1', hlt, forceB_eq, cond_true, meansX_call, c40, bindP_some, asS_s, d22, e_x0, e_x1, bindO_some, asI_i, d24, eqI_eq, z0, Bool.not_true, cond_false, w1, w2, wr_next (by omega : x ≤ 1000000)])
      (fun z hI => by
        subst hI
        have hlt : decide (((2 ^ m : Nat) : Int) < ((2 ^ m : Nat) : Int)) = false := lt_no
        refine ⟨_, ?_, rfl⟩
        simp only [g12_b4, ltI_eq, nneg, chk_true, forceI_eq, e1', hlt, forceB_eq, cond_false, all_ways n hm9, all_rings n hm9 hm0])
      (2 ^ m) 0 (0, 0, 0, ⟨[], 0, 0⟩) (by omega) rfl
    -- Back and Ways
    have hback : ∀ (hb : bkE n s = 0), rowE s 398 = 0 ∧ canI n (bw s) s.length 0 ≠ 0 := fun hb => by
      unfold bkE at hb
      rw [if_neg hnn] at hb
      by_cases h1 : rowE s 398 = 0
      · refine ⟨h1, fun hz => ?_⟩
        rw [if_pos h1, Int.toNat_natCast, if_pos hz] at hb
        cases hb
      · rw [if_neg h1] at hb
        exact absurd hb h1
    have hways : shE n s = 0 → decide ((0 : Int) < wysV n s) = (bkE n s == 0) := fun h1 => by
      obtain ⟨hask, h50⟩ := shE_zero h1
      have hr : rowE s 398 = 0 := by rw [askE, if_neg hnn, rowE_398 (by omega)] at hask; exact hask
      have hw : wysV n s = ((waysV n s : Nat) : Int) := by rw [wysV, if_pos h1, Int.toNat_natCast]
      have hb : bkE n s = if canI n (bw s) s.length 0 = 0 then 10 else 0 := by rw [bkE, if_neg hnn, if_pos hr, Int.toNat_natCast]
      rw [hw, hb]
      by_cases hz : canI n (bw s) s.length 0 = 0
      · have : ¬ 0 < waysV n s := fun h => (ways_pos.1 h) hz
        rw [if_pos hz, decide_eq_false (by omega)]; rfl
      · have := ways_pos.2 hz
        rw [if_neg hz, decide_eq_true (by omega)]; rfl
    have hgrow : bkE n s = 0 → callM (callX F1 []) ⟨[], 0, 0⟩ 16 [.i .i64 n, .s (bkS n s)] = some (.tup [.s s, .i .i64 0], ⟨[], 0, 0⟩) ∧ (bkS n s).length = s.length + 2 := fun hb => by
      obtain ⟨hr, hz⟩ := hback hb
      have h398 : (s.length : Int) ≤ 398 := by
        unfold rowE at hr
        by_cases e : (398 : Int) < s.length
        · rw [if_pos e] at hr; cases hr
        · omega
      have hask : askE n s 400 = 0 := by rw [askE, if_neg hnn, rowE_398 h398, hr]
      obtain ⟨p1, p2, p3, p4, p5⟩ := okR_of hask
      have hS : bkS n s = backL n (bw s) s.length := by rw [bkS, if_pos hb, Int.toNat_natCast]
      have hE : gwE n (backL n (bw s) s.length) = 0 := by rw [gwE, if_pos (ask_row hn (by rw [backL_len]; omega) (by rw [backL_len]; omega) backL_row), if_neg (by rw [backL_len]; omega)]
      have hG : gwS n (backL n (bw s) s.length) = s := by rw [gwS, if_pos hE, Int.toNat_natCast, back_grow p5 hz]
      have c16 := cp (Grow_ok (ro := []) (h := []) (n := n) (s := backL n (bw s) s.length))
      rw [hE, hG] at c16
      rw [hS]
      exact ⟨c16, backL_len⟩
    have z0 : ((0 : Int) == 0) = true := rfl
    simp only [decide_eq_false h500, cond_false, forceI_eq, ew]
    show (bindP (callM (meansX F1 []).call ⟨[], 0, 0⟩ 20 [(.i .i64 n), (.s s)]) _) = _
    simp only [meansX_call, c20, bindP_some, e_x0, e_x1, bindO_some, asI_i, asS_s, c22, eqI_eq]
    have c49 : (cond (shE n s == 0) (some (!(decide ((0 : Int) < wysV n s) == (bkE n s == 0)))) (some false) : Option Bool) = some false := by
      cases h1 : (shE n s == 0) with
      | false => rfl
      | true =>
        rw [hways (by simpa using h1), cond_true]
        cases (bkE n s == 0) <;> rfl
    simp only [c49, bindO_some, cond_false]
    cases hb : (bkE n s == 0) with
    | false =>
      simp only [cond_false, bindO_some, em, meansX_loop, k1, nneg, chk_true, e4', beq_self_eq_true, cond_true, e1', d15, bindP_some, asB_b, tupA]
      exact fin_pure rfl
    | true =>
      obtain ⟨g1, g2⟩ := hgrow (by simpa using hb)
      have w2 : wr .i64 ((s.length : Int) + 2) = ((s.length + 2 : Nat) : Int) := by rw [wr_id' (by omega) (by omega)]; omega
      simp only [cond_true, g1, bindP_some, e_x0, e_x1, bindO_some, asS_s, asI_i, z0, Bool.not_true, cond_false, e_neq, eqL_self, asB_b, e_len, g2, w2, beq_self_eq_true, em, meansX_loop, k1, nneg, chk_true, e4', e1', d15, tupA]
      exact fin_pure rfl

set_option maxRecDepth 100000 in
theorem lifted12 (os : Os) (started : os.Started) (H : Type) (enc : TypeId × Value → H) :
    ReturnsInHanded {} Try.checked os 12 .any (Rows.weedWaysSpec.pre6 enc Try.prog Try.f12 Rows.weedWaysRow.domain false) (Rows.weedWaysSpec.post enc Try.prog Try.f12 false true false false) := by
  refine returnsInHanded_of_change (C := Try.checked) own started (by kernel_rfl) Try.func12
    (ChangeSpec.witness6 (enc := enc) (C := Try.checked) false ⟨#[], #[.int .u8 0, .string ⟨#[]⟩, .int .u8 0], []⟩ 8 (by kernel_rfl) (by kernel_rfl) (by kernel_rfl) (by kernel_rfl)) ?_
  intro W base args ds gs before hval0 hW hcnd _
  have hval : ∀ (j : Nat) t v, Try.f12.params[j]? = some t → args[j]? = some v → Value.okWide Try.prog W .any base t v := hval0
  have hW' := hW
  obtain ⟨p, q, hA0, hV, rfl, hfz, hnd⟩ := hW
  have hA : DataW.TrodAll enc Try.prog W 0 (fun _ => true) true Try.f12.params.toList args.toList ds p := hA0
  rw [Try.params12] at hA hval
  obtain ⟨v0, vs0, d0, ds0, p0, q0x, hargs, rfl, rfl, h0, r0⟩ := trodAll_cons hA
  obtain ⟨v1, vs1, d1, ds1, p1, q1x, rfl, rfl, rfl, h1, r1⟩ := trodAll_cons r0
  obtain ⟨v2, vs2, d2, ds2, p2, q2x, rfl, rfl, rfl, h2, r2⟩ := trodAll_cons r1
  obtain ⟨rfl, rfl, rfl⟩ := trodAll_nil r2
  obtain rfl : args = #[v0, v1, v2] := by cases args; simp_all
  obtain ⟨rfl, rfl⟩ := trodVars_none hV
  obtain ⟨n0, rfl, rfl, rfl, w0⟩ := open_int Try.underlying5 (hval 0 5 v0 rfl rfl) h0
  obtain ⟨n1, rfl, rfl, rfl, w1⟩ := ChangeMaps.open_string Try.underlying9 (hval 1 9 v1 rfl rfl) h1
  obtain ⟨n2, rfl, rfl, rfl, w2⟩ := open_int Try.underlying5 (hval 2 5 v2 rfl rfl) h2
  obtain ⟨k0, rfl, hk0⟩ := u8_nat w0
  obtain ⟨k2, rfl, hk2⟩ := u8_nat w2
  clear hA0 hval0
  have hE : (Env.mk Try.prog W.heap.size W [] []).Ok := env_ok fun i b hb => by simp at hb
  obtain ⟨h', lw, lp, hcall⟩ := law12 hk0 hk2 n1.data.toList
  refine (call_of alive0 hE (vs := [.i .u8 k0, .s n1.data.toList, .i .u8 k2]) (args := #[.int .u8 k0, .string n1, .int .u8 k2]) ⟨rfl, fun i w hw => by
    match i with
    | 0 => simp at hw; subst hw; exact .i _ _
    | 1 => simp at hw; subst hw; exact .s n1.data.toList
    | 2 => simp at hw; subst hw; exact .i _ _
    | i + 3 => simp at hw⟩ hcall).mono fun e W' ⟨he, hb⟩ => ?_
  subst he
  exact ⟨_, rfl, ⟨_, _, _, [], [], [], hW', (trodAll_cons_mk (shut_bool Try.underlying4 _) trodAll_mk0), (trodAll_cons_mk (shut_int Try.underlying5 w0) (trodAll_cons_mk (ChangeMaps.shut_string Try.underlying9 w1) (trodAll_cons_mk (shut_int Try.underlying5 w2) trodAll_mk0))), rfl, hb.frame _, fun h => by cases h⟩⟩

theorem over12 : Rows.weedWaysRow.holds Try.pinned (OpenSpec.ofChange Rows.weedWaysSpec) :=
  OpenClaim.holds_of_wide 12 Try.f12 rfl rfl rfl rfl rfl rfl rfl ⟨rfl, rfl, rfl, rfl, rfl⟩ rfl rfl rfl rfl rfl (by kernel_rfl) Try.func12 (by kernel_rfl)
    (of_decide_eq_true (by kernel_rfl)) (by unfold Func.isWrapper; first | (rw [if_pos (by decide +kernel)]; kernel_rfl) | (rw [if_neg (by decide +kernel)]; exact ⟨rfl, rfl⟩))
    (fun os started H enc _ => lifted12 os started H enc)

end Go.Proofs.Ytgbkicelkpagpaa.W

namespace Go.Proofs.Ytgbkicelkpagpaa
/-- the statement -/
theorem weedWays_holds : Rows.WeedWaysSaid := W.over12
end Go.Proofs.Ytgbkicelkpagpaa
#print axioms Go.Proofs.Ytgbkicelkpagpaa.weedWays_holds

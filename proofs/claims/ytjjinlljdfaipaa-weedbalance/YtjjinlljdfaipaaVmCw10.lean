/- WeedBalance: for every rule and every string the law returns true, and the arguments read behind the call as they read before. No conditions. -/
import Derived.Test.YtjjinlljdfaipaaVmWp
import Derived.Test.YtjjinlljdfaipaaVmWe
import Derived.ChangeMaps5
open Go.Vm
set_option linter.unusedVariables false
namespace Go.Proofs.Ytjjinlljdfaipaa.W
open Go Go.RowKit Go.Deep Go.WideShapes Go.ChangeShapes Go.ChangeAt

/-- what is known of the calls of the law -/
noncomputable def K10 : Caller := fun f a h =>
  if f = 26 ∨ f = 28 ∨ f = 15 then callX F5 [] f a h else if f = 22 ∨ f = 40 then callX F1 [] f a h else none
noncomputable abbrev F10 : Tab := ⟨F, K10⟩
theorem k5 {f : Nat} {a : List AVal} {h : Heap} {r : AVal × Heap × Nat × Nat} (hf : f = 26 ∨ f = 28 ∨ f = 15) (e : callX F5 [] f a h = some r) : callX F10 [] f a h = some r := callX_ov (by show K10 f a h = _; unfold K10; rw [if_pos hf]; exact e)
theorem k1 {f : Nat} {a : List AVal} {h : Heap} {r : AVal × Heap × Nat × Nat} (hf : f = 22 ∨ f = 40) (e : callX F1 [] f a h = some r) : callX F10 [] f a h = some r := callX_ov (by show K10 f a h = _; unfold K10; rw [if_neg (by omega), if_pos hf]; exact e)
theorem call_of10 (alive : callX ⟨F, noCall⟩ [] 15 [] [] = some (.b true, [], 0, 0)) {W : World} (hE : (Env.mk Try.prog W.heap.size W [] []).Ok) {K : Nat} {vs : List AVal} {args : Array Value}
    (hv : LR [] [] vs args) {h' : Heap} {lw lp : Nat} (hc : callX F10 [] K vs [] = some (.b true, h', lw, lp)) : Calls Try.prog K args W fun e W' => e = .returned (.bool true) ∧ RowKit.Below W.heap.size W W' := by
  have hm : (Env.mk Try.prog W.heap.size W [] []).P.follows .mixedOrders = true := Try.checked.mixed
  have hO : CallOk (Env.mk Try.prog W.heap.size W [] []) (known0 15 (.b true)) := known0_of hE hm fok alive rfl
  have h0 : CallOk (Env.mk Try.prog W.heap.size W [] []) (callX F1 []) := callX_sound hE hm (F := F1) fok hO
  have h1 : CallOk (Env.mk Try.prog W.heap.size W [] []) leafO := le_ok h0 fun _ _ _ _ e => leaf_le e
  have h1' : CallOk (Env.mk Try.prog W.heap.size W [] []) leafB := le_ok h0 fun _ _ _ _ e => leafB_le e
  have hEb := Env.bare_ok hE
  have hOb : CallOk (Env.mk Try.prog W.heap.size W [] []).bare (known0 15 (.b true)) := known0_of hEb hm fok alive rfl
  have h1b : CallOk (Env.mk Try.prog W.heap.size W [] []).bare leafO := le_ok (callX_sound hEb hm (F := F1) fok hOb) fun _ _ _ _ e => leaf_le e
  have h2b : CallOk (Env.mk Try.prog W.heap.size W [] []).bare (callX F2 []) := callX_sound hEb hm (F := F2) fok h1b
  have h3 : CallOk (Env.mk Try.prog W.heap.size W [] []) allO := or_ok (knownS_ok h2b fun f a v e => ruleK_ok e) h1
  have h4 : CallOk (Env.mk Try.prog W.heap.size W [] []) allB := or_ok h3 h1'
  have h5 : CallOk (Env.mk Try.prog W.heap.size W [] []) (callX F5 []) := callX_sound hE hm (F := F5) fok h4
  have h6 : CallOk (Env.mk Try.prog W.heap.size W [] []) K10 := fun f a h v h' lw lp e => by
    unfold K10 at e
    by_cases e1 : f = 26 ∨ f = 28 ∨ f = 15
    · rw [if_pos e1] at e; exact h5 f a h v h' lw lp e
    · rw [if_neg e1] at e
      by_cases e2 : f = 22 ∨ f = 40
      · rw [if_pos e2] at e; exact h0 f a h v h' lw lp e
      · rw [if_neg e2] at e; cases e
  obtain ⟨-, h2⟩ := callX_sound hE hm (F := F10) fok h6 K vs [] _ _ _ _ hc
  refine Calls.mono (h2 [] W args ⟨RowKit.Below.refl _ _, rfl, by simp, fun i b r K hl => by simp [Live] at hl, fun i j b b' r K K' hl => by simp [Live] at hl⟩ hv) fun e w' hq => ?_
  obtain ⟨v', rfl, m', hvr, T⟩ := hq
  exact ⟨by rw [hvr.inv_b], T.hr.below⟩

theorem shl_num : ∀ t, t < 11 → shlV .i64 1 (Int.ofNat t) = Int.ofNat (2 ^ t) := by decide +kernel
theorem i64_num : ∀ n, n < 256 → wr .i64 (Int.ofNat n) = Int.ofNat n := by decide +kernel
theorem plots_askE {u x m : Nat} (hu : u < 256) (hm : 0 < m) (hm2 : m ≤ 10) : askE u (plotsL x m) 400 = 0 := by
  unfold askE
  rw [if_neg (by omega)]
  unfold rowE
  have hl := plotsL_len x m
  rw [hl, if_neg (by omega)]
  have he : (plotsL x m).isEmpty = false := by
    cases h : plotsL x m with
    | nil => rw [h] at hl; simp at hl; omega
    | cons a l => rfl
  rw [he, if_neg (by decide)]
  have hb : badR (plotsL x m) = false := by
    refine List.any_eq_false.2 fun i hi => ?_
    have := plots_row (x := x) (m := m) i (List.mem_range.1 hi)
    unfold bad
    rcases this with e | e <;> rw [e] <;> decide
  rw [hb]; rfl
theorem plots_shE {u x m : Nat} (hu : u < 256) (hm : 0 < m) (hm2 : m ≤ 10) : shE u (plotsL x m) = 0 := by
  unfold shE
  rw [plots_askE hu hm hm2, if_neg (by rw [plotsL_len]; omega)]

theorem law10 {u : Nat} (hu : u < 256) (s : List UInt8) : callX F10 [] 10 [.i .u8 u, .s s] [] = some (.b true, [], 0, 0) := by
  refine g10_ok (meansX_ok F10 []) (by show K10 10 _ _ = none; unfold K10; rw [if_neg (by omega), if_neg (by omega)]) ?_
  unfold g10
  have ew : wr .i64 (u : Int) = (u : Int) := i64_num u hu
  have d28 := callM_pure (call := callX F10 []) (h := []) (l := 0) (p := 0) (k5 (by omega) (onto_ok hu)) (Nat.le_refl _) (Nat.le_refl _)
  have d22 := callM_pure (call := callX F10 []) (h := []) (l := 0) (p := 0) (k1 (by omega) (ways_ok (ro := []) (h := []) (n := u) (s := s))) (Nat.le_refl _) (Nat.le_refl _)
  have d26 := callM_pure (call := callX F10 []) (h := []) (l := 0) (p := 0) (k5 (by omega) (eden_ok hu 20)) (Nat.le_refl _) (Nat.le_refl _)
  have d15 := callM_pure (call := callX F10 []) (h := []) (l := 0) (p := 0) (k5 (by omega) c15) (Nat.le_refl _) (Nat.le_refl _)
  have z0 : ((0 : Int) == 0) = true := rfl
  simp only [forceI_eq, ew]
  show (bindP (callM (meansX F10 []).call ⟨[], 0, 0⟩ 28 [(.i .i64 u)]) _) = _
  simp only [meansX_call, d28, bindP_some, e_x0, e_x1, bindO_some, asB_b, asI_i, d22, eqI_eq, z0, forceB_eq, Bool.not_true, cond_false]
  have hw : (shE u s == 0) = true → (orphT u).isEmpty = true → (wysV u s == 4) = true := fun h1 h2 => by
    have h1' : shE u s = 0 := by simpa using h1
    have hno : ¬ (askE u s 400 = 0 ∧ 50 < s.length) := fun hh => by rw [shE, if_pos hh] at h1'; cases h1'
    have hask : askE u s 400 = 0 := by rw [shE, if_neg hno] at h1'; exact h1'
    obtain ⟨p1, p2, p3, p4, p5⟩ := okR_of hask
    rw [wysV, if_pos h1']
    show (((waysV u s : Nat) : Int) == 4) = true
    rw [onto_ways hu h2 p5]; rfl
  cases ho : (orphT u).isEmpty with
  | true =>
    have tail : ∀ c, c = false → (cond c (finM ([] : Heap).length (tupA [AVal.b false]) ⟨[], 0, 0⟩) (bindP (callM (callX F10 []) ⟨[], 0, 0⟩ 26 [(.i .i64 u), (.i .i64 20)]) fun v39 m_3 =>
      bindO (evP .e (.ext 0 (.c v39))) fun v40 => asS v40 fun s40 => bindO (evP .e (.ext 1 (.c v39))) fun v41 => asI .i64 v41 fun x41 =>
      bindP (callM (callX F10 []) m_3 15 []) fun v52 m_4 => asB v52 fun c52 => finM ([] : Heap).length (tupA [(.b c52)]) m_4)) = some (.b true, [], 0, 0) := fun c hc => by
      subst hc
      simp only [cond_false, d26, bindP_some, e_x0, e_x1, bindO_some, asS_s, asI_i, d15, asB_b, tupA]
      exact fin_pure rfl
    cases h1 : (shE u s == 0) with
    | true =>
      have h4 := hw h1 ho
      simp only [cond_true, bindO_some, h4, Bool.not_true, cond_false, d26, bindP_some, e_x0, e_x1, asS_s, asI_i, d15, asB_b, tupA]
      exact fin_pure rfl
    | false =>
      simp only [cond_false, bindO_some, d26, bindP_some, e_x0, e_x1, asS_s, asI_i, cond_true, d15, asB_b, tupA]
      exact fin_pure rfl
  | false =>
    obtain ⟨m1, m2, m3⟩ := more_ways hu ho
    generalize hlen : (orphT u).length = len at *
    have hpos : 0 < len := by
      rw [← hlen]
      cases h : orphT u with
      | nil => rw [h] at ho; cases ho
      | cons a l => simp
    have hE : edE u 20 = 0 := by
      unfold edE
      rw [if_neg (by omega), if_neg]
      rintro (h | h)
      · rw [ho] at h; cases h
      · omega
    have hS : edS u 20 = orphT u := by
      unfold edS
      rw [if_neg]
      rintro (h | h | h | h)
      · omega
      · omega
      · rw [ho] at h; cases h
      · omega
    have h10 : ¬ ((10 : Int) < (len : Int)) := by omega
    have lp : ∃ o, loopX (fun z => g10_b4 (meansX F10 []) [] u (orphT u) z.1 z.2) (0, ⟨[], 0, 0⟩) = some o ∧ o = .inr (true, ⟨[], 0, 0⟩) := by
      have key := loop_upto (R := Bool × Mm) (b := fun z => g10_b4 (meansX F10 []) [] u (orphT u) z.1 z.2) (2 ^ len)
        (fun i m => m = ⟨[], 0, 0⟩ ∧ ∀ x, x < i → waysV u (plotsL x len) ≤ 4) (fun r => r = (true, ⟨[], 0, 0⟩))
        (fun i m hi hI => by
          obtain ⟨rfl, hx⟩ := hI
          have h2 : 2 ^ len ≤ 2 ^ 10 := Nat.pow_le_pow_right (by omega) m1
          have es : shlV .i64 1 ((len : Nat) : Int) = ((2 ^ len : Nat) : Int) := shl_num len (by omega)
          have hlt : ((i : Int) < ((2 ^ len : Nat) : Int)) := by omega
          have d40 := callM_pure (call := callX F10 []) (h := []) (l := 0) (p := 0) (k1 (by omega) (plots_ok (ro := []) (h := []) (x := i) (m := len) (by omega) m1)) (Nat.le_refl _) (Nat.le_refl _)
          have d22' := callM_pure (call := callX F10 []) (h := []) (l := 0) (p := 0) (k1 (by omega) (ways_ok (ro := []) (h := []) (n := u) (s := plotsL i len))) (Nat.le_refl _) (Nat.le_refl _)
          have hs0 := plots_shE (x := i) hu hpos m1
          have hwy : wysV u (plotsL i len) = ((waysV u (plotsL i len) : Nat) : Int) := by rw [wysV, if_pos hs0]; rfl
          rw [hs0, hwy] at d22'
          by_cases h4 : 4 < waysV u (plotsL i len)
          · have h4' : ((4 : Int) < ((waysV u (plotsL i len) : Nat) : Int)) := by omega
            refine .inr ⟨(true, ⟨[], 0, 0⟩), ?_, rfl⟩
            simp only [g10_b4, e_len, hlen, bindO_some, asI_i, ltI_eq, nneg, chk_true, forceI_eq, es, forceB_eq, decide_eq_true hlt, cond_true, meansX_call, d40, bindP_some, asS_s, d22', e_x0, e_x1, eqI_eq, z0, Bool.not_true, cond_false, decide_eq_true h4', d15, asB_b]
          · have h4' : ¬ ((4 : Int) < ((waysV u (plotsL i len) : Nat) : Int)) := by omega
            refine .inl ⟨⟨[], 0, 0⟩, ?_, rfl, fun x hx' => ?_⟩
            · simp only [g10_b4, e_len, hlen, bindO_some, asI_i, ltI_eq, nneg, chk_true, forceI_eq, es, forceB_eq, decide_eq_true hlt, cond_true, meansX_call, d40, bindP_some, asS_s, d22', e_x0, e_x1, eqI_eq, z0, Bool.not_true, cond_false, decide_eq_false h4', wr_next (by omega : i ≤ 1000000)]
            · by_cases e : x = i
              · rw [e]; omega
              · exact hx x (by omega))
        (fun m hI => by
          obtain ⟨rfl, hx⟩ := hI
          exact absurd (hx _ m2) (by omega))
        (2 ^ len) 0 ⟨[], 0, 0⟩ (by omega) ⟨rfl, fun x hx => by omega⟩
      obtain ⟨o, e1, e2⟩ := key
      rcases e2 with ⟨m', _, rfl, hx⟩ | ⟨r, rfl, rfl⟩
      · exact absurd (hx _ m2) (by omega)
      · exact ⟨_, e1, rfl⟩
    obtain ⟨o, lp1, rfl⟩ := lp
    cases h1 : (shE u s == 0) with
    | true =>
      simp only [cond_true, bindO_some, cond_false, d26, bindP_some, e_x0, e_x1, asS_s, asI_i, hE, hS, z0, Bool.not_true, e_len, hlen, ltI_eq, decide_eq_false h10, meansX_loop, lp1, tupA]
      exact fin_pure rfl
    | false =>
      simp only [cond_false, bindO_some, d26, bindP_some, e_x0, e_x1, asS_s, asI_i, hE, hS, z0, Bool.not_true, e_len, hlen, ltI_eq, decide_eq_false h10, meansX_loop, lp1, tupA]
      exact fin_pure rfl

set_option maxRecDepth 100000 in
theorem lifted10 (os : Os) (started : os.Started) (H : Type) (enc : TypeId × Value → H) :
    ReturnsInHanded {} Try.checked os 10 .any (Rows.weedBalanceSpec.pre6 enc Try.prog Try.f10 Rows.weedBalanceRow.domain false) (Rows.weedBalanceSpec.post enc Try.prog Try.f10 false true false false) := by
  refine returnsInHanded_of_change (C := Try.checked) own started (by kernel_rfl) Try.func10
    (ChangeSpec.witness6 (enc := enc) (C := Try.checked) false ⟨#[], #[.int .u8 0, .string ⟨#[]⟩], []⟩ 8 (by kernel_rfl) (by kernel_rfl) (by kernel_rfl) (by kernel_rfl)) ?_
  intro W base args ds gs before hval0 hW hcnd _
  have hval : ∀ (j : Nat) t v, Try.f10.params[j]? = some t → args[j]? = some v → Value.okWide Try.prog W .any base t v := hval0
  have hW' := hW
  obtain ⟨p, q, hA0, hV, rfl, hfz, hnd⟩ := hW
  have hA : DataW.TrodAll enc Try.prog W 0 (fun _ => true) true Try.f10.params.toList args.toList ds p := hA0
  rw [Try.params10] at hA hval
  obtain ⟨v0, vs0, d0, ds0, p0, q0, hargs, rfl, rfl, h0, r0⟩ := trodAll_cons hA
  obtain ⟨v1, vs1, d1, ds1, p1, q1, rfl, rfl, rfl, h1, r1⟩ := trodAll_cons r0
  obtain ⟨rfl, rfl, rfl⟩ := trodAll_nil r1
  obtain rfl : args = #[v0, v1] := by cases args; simp_all
  obtain ⟨rfl, rfl⟩ := trodVars_none hV
  obtain ⟨n0, rfl, rfl, rfl, w0⟩ := open_int Try.underlying5 (hval 0 5 v0 rfl rfl) h0
  obtain ⟨n1, rfl, rfl, rfl, w1⟩ := ChangeMaps.open_string Try.underlying9 (hval 1 9 v1 rfl rfl) h1
  obtain ⟨k, rfl, hk⟩ := u8_nat w0
  clear hA0 hval0
  have hE : (Env.mk Try.prog W.heap.size W [] []).Ok := env_ok fun i b hb => by simp at hb
  refine (call_of10 alive0 hE (vs := [.i .u8 k, .s n1.data.toList]) (args := #[.int .u8 k, .string n1]) ⟨rfl, fun i w hw => by
    match i with
    | 0 => simp at hw; subst hw; exact .i _ _
    | 1 => simp at hw; subst hw; exact .s n1.data.toList
    | i + 2 => simp at hw⟩ (law10 hk n1.data.toList)).mono fun e W' ⟨he, hb⟩ => ?_
  subst he
  exact ⟨_, rfl, ⟨_, _, _, [], [], [], hW', (trodAll_cons_mk (shut_bool Try.underlying4 _) trodAll_mk0), (trodAll_cons_mk (shut_int Try.underlying5 w0) (trodAll_cons_mk (ChangeMaps.shut_string Try.underlying9 w1) trodAll_mk0)), rfl, hb.frame _, fun h => by cases h⟩⟩

theorem over10 : Rows.weedBalanceRow.holds Try.pinned (OpenSpec.ofChange Rows.weedBalanceSpec) :=
  OpenClaim.holds_of_wide 10 Try.f10 rfl rfl rfl rfl rfl rfl rfl ⟨rfl, rfl, rfl, rfl, rfl⟩ rfl rfl rfl rfl rfl (by kernel_rfl) Try.func10 (by kernel_rfl)
    (of_decide_eq_true (by kernel_rfl)) (by unfold Func.isWrapper; first | (rw [if_pos (by decide +kernel)]; kernel_rfl) | (rw [if_neg (by decide +kernel)]; exact ⟨rfl, rfl⟩))
    (fun os started H enc _ => lifted10 os started H enc)

end Go.Proofs.Ytjjinlljdfaipaa.W

namespace Go.Proofs.Ytjjinlljdfaipaa
/-- the statement -/
theorem weedBalance_holds : Rows.WeedBalanceSaid := W.over10
end Go.Proofs.Ytjjinlljdfaipaa
#print axioms Go.Proofs.Ytjjinlljdfaipaa.weedBalance_holds

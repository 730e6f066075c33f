/- Plain functions, and that the small machine answers as they do. -/
import Derived.Test.YtobmcofkcfifkaaVmP
import Derived.Test.YtobmcofkcfifkaaVmAE
open Go.Vm
set_option linter.unusedVariables false
namespace Go.Proofs.Ytobmcofkcfifkaa.T
open Go
/- dibber/dibberlaw09.SeedSums -/
abbrev g5_J0 (x0 : Int) (m_2 : Mm) (o : Bool) (m1 : Mm) (t1 : Tr) : Prop :=
  match o with
  | c24 => m_2 = m1 ∧ t1.get 24 = (.b c24) ∧ t1.get 0 = (.i .i64 x0)
abbrev g5_J1 (m_4 : Mm) (o : Bool) (m1 : Mm) (t1 : Tr) : Prop :=
  match o with
  | c42 => m_4 = m1 ∧ t1.get 42 = (.b c42)
abbrev g5_J2  (o : Bool × Mm) (m1 : Mm) (t1 : Tr) : Prop :=
  match o with
  | (c45, m_5) => m_5 = m1 ∧ t1.get 45 = (.b c45)
def g5 (M : Means) (ro : List ABlk) (x0 : Int) (m0 : Mm) : Option (AVal × Heap × Nat × Nat) :=
  bindP (callM M.call m0 25 [(.i .i64 x0)]) fun v9 m_1 =>
  bindO (evP .e (.ext 0 (.c v9))) fun v10 =>
  asI .i64 v10 fun x10 =>
  bindO (evP .e (.ext 1 (.c v9))) fun v11 =>
  asI .i64 v11 fun x11 =>
  bindP (callM M.call m_1 26 [(.i .i64 x0)]) fun v14 m_2 =>
  bindO (evP .e (.ext 0 (.c v14))) fun v15 =>
  asI .i64 v15 fun x15 =>
  bindO (evP .e (.ext 1 (.c v14))) fun v16 =>
  asI .i64 v16 fun x16 =>
  forceB (!eqI x10 x15) fun c19 =>
  bindO (cond c19 (
    some true) (
    forceB (!eqI x11 x16) fun c23 =>
    some c23)) fun c24 =>
  cond c24 (
    finM m0.h.length (tupA [(.b false)]) m_2) (
    bindP (callM M.call m_2 27 [(.i .i64 x0)]) fun v27 m_3 =>
    bindO (evP .e (.ext 0 (.c v27))) fun v28 =>
    asI .i64 v28 fun x28 =>
    bindO (evP .e (.ext 1 (.c v27))) fun v29 =>
    asI .i64 v29 fun x29 =>
    bindP (callM M.call m_3 28 [(.i .i64 x0)]) fun v32 m_4 =>
    bindO (evP .e (.ext 0 (.c v32))) fun v33 =>
    asI .i64 v33 fun x33 =>
    bindO (evP .e (.ext 1 (.c v32))) fun v34 =>
    asI .i64 v34 fun x34 =>
    forceB (eqI x28 x33) fun c37 =>
    bindO (cond c37 (
      forceB (eqI x29 x34) fun c41 =>
      some c41) (
      some false)) fun c42 =>
    bindO (cond c42 (
      bindP (callM M.call m_4 18 []) fun v44 m_6 =>
      asB v44 fun c44 =>
      some (c44, m_6)) (
      some (false, m_4))) fun ⟨c45, m_5⟩ =>
    finM m0.h.length (tupA [(.b c45)]) m_5)

theorem g5_ok {ro : List ABlk} {O : Caller} {M : Means} (hM : M.Ok ⟨F, O⟩ ro) {x0 h r} (ho : O 5 [(.i .i64 x0)] h = none) (hr : g5 M ro x0 ⟨h, h.length, h.length⟩ = some r) : callX ⟨F, O⟩ ro 5 [(.i .i64 x0)] h = some r := by
  refine callX_of (F := ⟨F, O⟩) (fn := fn5) (g := g5 M ro x0) ho rfl rfl hr ?_
  clear ho
  clear hr
  intro m0 t0 ht hr
  have g0 : t0.get 0 = (.i .i64 x0) := ht 0
  clear ht
  unfold g5 at hr
  refine w_seq ?_
  refine w_ops ?_
  refine wo_step (v := (.b false)) (s_pure (p_mv rfl)) ?_
  refine wo_nil ?_
  refine nx_norm ?_
  refine w_seq ?_
  refine w_ops ?_
  refine wo_step (v := (.i .i64 x0)) (s_pure (p_mv g0)) ?_
  have hq := bindP_inv hr
  clear hr
  obtain ⟨v9, m_1, e9, hr⟩ := hq
  refine wo_step (v := v9) (s_call (mc rfl mn) (callM_le hM.call e9)) ?_
  refine wo_step (v := v9) (s_pure (p_mv rfl)) ?_
  have hq := bindO_inv hr
  clear hr
  obtain ⟨v10, e10, hr⟩ := hq
  have hq := asI_inv hr
  clear hr
  obtain ⟨x10, rfl, hr⟩ := hq
  refine wo_step (v := (.i .i64 x10)) (s_pure (o_ext rfl e10)) ?_
  have hq := bindO_inv hr
  clear hr
  obtain ⟨v11, e11, hr⟩ := hq
  have hq := asI_inv hr
  clear hr
  obtain ⟨x11, rfl, hr⟩ := hq
  refine wo_step (v := (.i .i64 x11)) (s_pure (o_ext rfl e11)) ?_
  refine wo_step (v := (.i .i64 x10)) (s_pure (p_mv rfl)) ?_
  refine wo_step (v := (.i .i64 x11)) (s_pure (p_mv rfl)) ?_
  refine wo_nil ?_
  refine nx_norm ?_
  refine w_seq ?_
  refine w_ops ?_
  refine wo_step (v := (.i .i64 x0)) (s_pure (p_mv g0)) ?_
  have hq := bindP_inv hr
  clear hr
  obtain ⟨v14, m_2, e14, hr⟩ := hq
  refine wo_step (v := v14) (s_call (mc rfl mn) (callM_le hM.call e14)) ?_
  refine wo_step (v := v14) (s_pure (p_mv rfl)) ?_
  have hq := bindO_inv hr
  clear hr
  obtain ⟨v15, e15, hr⟩ := hq
  have hq := asI_inv hr
  clear hr
  obtain ⟨x15, rfl, hr⟩ := hq
  refine wo_step (v := (.i .i64 x15)) (s_pure (o_ext rfl e15)) ?_
  have hq := bindO_inv hr
  clear hr
  obtain ⟨v16, e16, hr⟩ := hq
  have hq := asI_inv hr
  clear hr
  obtain ⟨x16, rfl, hr⟩ := hq
  refine wo_step (v := (.i .i64 x16)) (s_pure (o_ext rfl e16)) ?_
  refine wo_step (v := (.i .i64 x15)) (s_pure (p_mv rfl)) ?_
  refine wo_step (v := (.i .i64 x16)) (s_pure (p_mv rfl)) ?_
  refine wo_nil ?_
  refine nx_norm ?_
  refine w_seq ?_
  refine w_seq ?_
  refine w_ops ?_
  refine wo_step (v := (.i .i64 x10)) (s_pure (p_mv rfl)) ?_
  refine wo_step (v := (.i .i64 x15)) (s_pure (p_mv rfl)) ?_
  have hq := forceB_inv hr
  clear hr
  obtain ⟨c19, e19, hr⟩ := hq
  refine wo_step (v := (.b c19)) (s_pure (p_bin rfl rfl (b_neq.trans (cb e19)))) ?_
  refine wo_step (v := (.b c19)) (s_pure (p_mv rfl)) ?_
  have hq := bindO_inv hr
  clear hr
  obtain ⟨o, hr, hk⟩ := hq
  refine wo_join 4 (g5_J0 x0 m_2 o) ?_ ?_
  · clear hk
    have hq := cond_inv hr
    clear hr
    rcases hq with ⟨rfl, hr⟩ | ⟨rfl, hr⟩
    · refine wo_skip (v := (.b true)) rfl rfl ?_
      refine wo_skip (v := (.b true)) rfl rfl ?_
      refine wo_skip (v := (.b true)) rfl rfl ?_
      refine wo_step (v := (.b true)) (s_pure (p_pickT rfl rfl)) ?_
      refine wo_nil ?_
      cases hr
      exact ⟨_, _, rfl, rfl, gl rfl, gl g0⟩
    · refine wo_take (v := (.i .i64 x11)) rfl (s_pure (p_mv rfl)) ?_
      refine wo_take (v := (.i .i64 x16)) rfl (s_pure (p_mv rfl)) ?_
      have hq := forceB_inv hr
      clear hr
      obtain ⟨c23, e23, hr⟩ := hq
      refine wo_take (v := (.b c23)) rfl (s_pure (p_bin rfl rfl (b_neq.trans (cb e23)))) ?_
      refine wo_step (v := (.b c23)) (s_pure (p_pickF rfl rfl)) ?_
      refine wo_nil ?_
      cases hr
      exact ⟨_, _, rfl, rfl, gl rfl, gl g0⟩
  · clear hr
    have hr := hk
    clear hk
    obtain ⟨c24, ho⟩ : ∃ z, z = o := ⟨_, rfl⟩
    subst ho
    rintro mm t_1 ⟨rfl, g24, g0⟩
    refine wo_nil ?_
    refine nx_norm ?_
    have hq := cond_inv hr
    clear hr
    rcases hq with ⟨rfl, hr⟩ | ⟨rfl, hr⟩
    · refine w_condT g24 ?_
      refine w_seq ?_
      refine w_ops ?_
      refine wo_step (v := (.b false)) (s_pure (p_mv rfl)) ?_
      refine wo_nil ?_
      refine nx_norm ?_
      refine w_ret ?_
      refine nx_ret ?_
      exact qf ret_ok (rt rfl rn) hr
    · refine w_condF g24 ?_
      refine w_skip ?_
      refine nx_norm ?_
      refine w_seq ?_
      refine w_ops ?_
      refine wo_step (v := (.i .i64 x0)) (s_pure (p_mv g0)) ?_
      have hq := bindP_inv hr
      clear hr
      obtain ⟨v27, m_3, e27, hr⟩ := hq
      refine wo_step (v := v27) (s_call (mc rfl mn) (callM_le hM.call e27)) ?_
      refine wo_step (v := v27) (s_pure (p_mv rfl)) ?_
      have hq := bindO_inv hr
      clear hr
      obtain ⟨v28, e28, hr⟩ := hq
      have hq := asI_inv hr
      clear hr
      obtain ⟨x28, rfl, hr⟩ := hq
      refine wo_step (v := (.i .i64 x28)) (s_pure (o_ext rfl e28)) ?_
      have hq := bindO_inv hr
      clear hr
      obtain ⟨v29, e29, hr⟩ := hq
      have hq := asI_inv hr
      clear hr
      obtain ⟨x29, rfl, hr⟩ := hq
      refine wo_step (v := (.i .i64 x29)) (s_pure (o_ext rfl e29)) ?_
      refine wo_step (v := (.i .i64 x28)) (s_pure (p_mv rfl)) ?_
      refine wo_step (v := (.i .i64 x29)) (s_pure (p_mv rfl)) ?_
      refine wo_nil ?_
      refine nx_norm ?_
      refine w_seq ?_
      refine w_ops ?_
      refine wo_step (v := (.i .i64 x0)) (s_pure (p_mv g0)) ?_
      have hq := bindP_inv hr
      clear hr
      obtain ⟨v32, m_4, e32, hr⟩ := hq
      refine wo_step (v := v32) (s_call (mc rfl mn) (callM_le hM.call e32)) ?_
      refine wo_step (v := v32) (s_pure (p_mv rfl)) ?_
      have hq := bindO_inv hr
      clear hr
      obtain ⟨v33, e33, hr⟩ := hq
      have hq := asI_inv hr
      clear hr
      obtain ⟨x33, rfl, hr⟩ := hq
      refine wo_step (v := (.i .i64 x33)) (s_pure (o_ext rfl e33)) ?_
      have hq := bindO_inv hr
      clear hr
      obtain ⟨v34, e34, hr⟩ := hq
      have hq := asI_inv hr
      clear hr
      obtain ⟨x34, rfl, hr⟩ := hq
      refine wo_step (v := (.i .i64 x34)) (s_pure (o_ext rfl e34)) ?_
      refine wo_step (v := (.i .i64 x33)) (s_pure (p_mv rfl)) ?_
      refine wo_step (v := (.i .i64 x34)) (s_pure (p_mv rfl)) ?_
      refine wo_nil ?_
      refine nx_norm ?_
      refine w_seq ?_
      refine w_ops ?_
      refine wo_step (v := (.i .i64 x28)) (s_pure (p_mv rfl)) ?_
      refine wo_step (v := (.i .i64 x33)) (s_pure (p_mv rfl)) ?_
      have hq := forceB_inv hr
      clear hr
      obtain ⟨c37, e37, hr⟩ := hq
      refine wo_step (v := (.b c37)) (s_pure (p_bin rfl rfl (b_eql.trans (cb e37)))) ?_
      refine wo_step (v := (.b c37)) (s_pure (p_mv rfl)) ?_
      have hq := bindO_inv hr
      clear hr
      obtain ⟨o_1, hr, hk⟩ := hq
      refine wo_join 4 (g5_J1 m_4 o_1) ?_ ?_
      · clear hk
        have hq := cond_inv hr
        clear hr
        rcases hq with ⟨rfl, hr⟩ | ⟨rfl, hr⟩
        · refine wo_take (v := (.i .i64 x29)) rfl (s_pure (p_mv rfl)) ?_
          refine wo_take (v := (.i .i64 x34)) rfl (s_pure (p_mv rfl)) ?_
          have hq := forceB_inv hr
          clear hr
          obtain ⟨c41, e41, hr⟩ := hq
          refine wo_take (v := (.b c41)) rfl (s_pure (p_bin rfl rfl (b_eql.trans (cb e41)))) ?_
          refine wo_step (v := (.b c41)) (s_pure (p_pickT rfl rfl)) ?_
          refine wo_nil ?_
          cases hr
          exact ⟨_, _, rfl, rfl, gl rfl⟩
        · refine wo_skip (v := (.b false)) rfl rfl ?_
          refine wo_skip (v := (.b false)) rfl rfl ?_
          refine wo_skip (v := (.b false)) rfl rfl ?_
          refine wo_step (v := (.b false)) (s_pure (p_pickF rfl rfl)) ?_
          refine wo_nil ?_
          cases hr
          exact ⟨_, _, rfl, rfl, gl rfl⟩
      · clear hr
        have hr := hk
        clear hk
        obtain ⟨c42, ho⟩ : ∃ z, z = o_1 := ⟨_, rfl⟩
        subst ho
        rintro mm_1 t_2 ⟨rfl, g42⟩
        refine wo_step (v := (.b c42)) (s_pure (p_mv g42)) ?_
        have hq := bindO_inv hr
        clear hr
        obtain ⟨o_2, hr, hk⟩ := hq
        refine wo_join 2 (g5_J2  o_2) ?_ ?_
        · clear hk
          have hq := cond_inv hr
          clear hr
          rcases hq with ⟨rfl, hr⟩ | ⟨rfl, hr⟩
          · have hq := bindP_inv hr
            clear hr
            obtain ⟨v44, m_6, e44, hr⟩ := hq
            have hq := asB_inv hr
            clear hr
            obtain ⟨c44, rfl, hr⟩ := hq
            refine wo_take (v := (.b c44)) rfl (s_call mn (callM_le hM.call e44)) ?_
            refine wo_step (v := (.b c44)) (s_pure (p_pickT rfl rfl)) ?_
            refine wo_nil ?_
            cases hr
            exact ⟨_, _, rfl, rfl, gl rfl⟩
          · refine wo_skip (v := (.b false)) rfl rfl ?_
            refine wo_step (v := (.b false)) (s_pure (p_pickF rfl rfl)) ?_
            refine wo_nil ?_
            cases hr
            exact ⟨_, _, rfl, rfl, gl rfl⟩
        · clear hr
          have hr := hk
          clear hk
          obtain ⟨c45, m_5⟩ := o_2
          rintro mm_2 t_3 ⟨rfl, g45⟩
          refine wo_step (v := (.b c45)) (s_pure (p_mv g45)) ?_
          refine wo_nil ?_
          refine nx_norm ?_
          refine w_ret ?_
          exact qf ret_ok (rt rfl rn) hr

/- dibber/seed.Sums -/
abbrev k25a0 : ACode := (.ops [(.mk (some 8) none (.pure (.mv (.t 18))))])
abbrev k25c0 : ACode := (.block 1 (.seq (.ops [(.mk (some 19) none (.pure (.mv (.t 8)))), (.mk (some 20) none (.ld true 1 (.t 6))), (.mk (some 21) none (.pure (.bin .sub (.t 19) (.t 20)))), (.mk (some 9) none (.pure (.mv (.t 21))))]) (.seq (.any [((.mk (some 22) none (.ld true 1 (.t 4))), false), ((.mk (some 23) none (.ld true 1 (.t 5))), false), ((.mk (some 24) none (.pure (.bin .add (.t 22) (.t 23)))), false), ((.mk (some 25) none (.ld true 1 (.t 4))), false), ((.mk (some 26) none (.pure (.mv (.t 9)))), false), ((.mk (some 27) none (.pure (.bin .sub (.t 26) (.c (.i .i64 1))))), false), ((.mk (some 28) none (.pure (.bin .quo (.t 27) (.c (.i .i64 2))))), false), ((.mk (some 29) none (.pure (.bin .mul (.t 25) (.t 28)))), false), ((.mk (some 30) none (.ld true 1 (.t 5))), true), ((.mk (some 31) none (.pure (.mv (.t 9)))), false), ((.mk (some 32) none (.pure (.bin .quo (.t 31) (.c (.i .i64 2))))), false), ((.mk (some 33) none (.pure (.bin .mul (.t 30) (.t 32)))), false), ((.mk (some 34) none (.pure (.bin .add (.t 29) (.t 33)))), false), ((.mk none none (.st 1 (.t 4) (.t 24))), false), ((.mk none none (.st 1 (.t 5) (.t 34))), true)]) (.ops [(.mk (some 35) none (.pure (.mv (.t 8)))), (.mk none none (.st 1 (.t 6) (.t 35)))]))))
abbrev g25_P0 (v4 : AVal) (v5 : AVal) (v6 : AVal) (t1 : Tr) : Prop := True ∧ t1.get 4 = v4 ∧ t1.get 5 = v5 ∧ t1.get 6 = v6
def g25_r0 (M : Means) (ro : List ABlk) (v4 : AVal) (v5 : AVal) (v6 : AVal) (b : Nat) (v17 : AVal) (v18 : AVal) (m0 : Mm) : Option (AVal × Heap × Nat × Nat) :=
  bindO (rndB b m0) fun m_11 =>
  bindO (ldM ro m_11 true 1 v6) fun v20 =>
  asI .i64 v20 fun x20 =>
  asI .i64 v18 fun xq19 =>
  forceI (wr .i64 (xq19 - x20)) fun x21 =>
  bindO (ldA ro m_11.h true 1 v4) fun v22 =>
  asI .i64 v22 fun x22 =>
  bindO (ldA ro m_11.h true 1 v5) fun v23 =>
  asI .i64 v23 fun x23 =>
  forceI (wr .i64 (x22 + x23)) fun x24 =>
  bindO (ldA ro m_11.h true 1 v4) fun v25 =>
  asI .i64 v25 fun x25 =>
  forceI (wr .i64 (x21 - 1)) fun x27 =>
  forceI (wr .i64 (Int.tdiv x27 2)) fun x28 =>
  forceI (wr .i64 (x25 * x28)) fun x29 =>
  asP v5 fun q30 =>
  bindO (ldA ro m_11.h true 1 (.p (some q30))) fun v30 =>
  asI .i64 v30 fun x30 =>
  forceI (wr .i64 (Int.tdiv x21 2)) fun x32 =>
  forceI (wr .i64 (x30 * x32)) fun x33 =>
  forceI (wr .i64 (x29 + x33)) fun x34 =>
  asP v4 fun qs =>
  asP v5 fun qs_1 =>
  bindO (writesM2 ro [((q30, [.b true, .i .i64 1]), (.i .i64 x30))] true [(qs, AVal.cells (.i .i64 x24)), (qs_1, AVal.cells (.i .i64 x34))] ⟨m_11.h, m_11.lw, m_11.lp⟩) fun m_12 =>
  bindP (stepM ro m_12 (.st 1 (.c v6) (.c v18))) fun vn_3 m_13 =>
  rndE m0.h.length b .norm m_13
noncomputable def g25 (M : Means) (ro : List ABlk) (x0 : Int) (m0 : Mm) : Option (AVal × Heap × Nat × Nat) :=
  bindP (stepM ro m0 (.bsl 3 1 [(AVal.i IntKind.i64 0)] 1 [((0, 1), .c (.i .i64 x0))])) fun v11 m_1 =>
  bindP (callM M.call m_1 51 [v11]) fun v12 m_2 =>
  asB v12 fun c12 =>
  forceB (!c12) fun c13 =>
  cond c13 (
    finM m0.h.length (tupA [(.i .i64 0), (.i .i64 4)]) m_2) (
    bindP (stepM ro m_2 (.al 3 [(AVal.i IntKind.i64 0)])) fun v4 m_3 =>
    bindP (stepM ro m_3 (.al 3 [(AVal.i IntKind.i64 0)])) fun v5 m_4 =>
    bindP (stepM ro m_4 (.al 3 [(AVal.i IntKind.i64 0)])) fun v6 m_5 =>
    bindP (stepM ro m_5 (.st 1 (.c v4) (.c (.i .i64 1)))) fun vn m_6 =>
    bindP (stepM ro m_6 (.st 1 (.c v5) (.c (.i .i64 0)))) fun vn_1 m_7 =>
    bindP (stepM ro m_7 (.st 1 (.c v6) (.c (.i .i64 1)))) fun vn_2 m_8 =>
    bindP (callM M.call m_8 60 [(.i .i64 x0)]) fun v15 m_9 =>
    bindP (callM M.call m_9 59 [v15]) fun v16 m_10 =>
    bindO (rngP M.call (g25_P0 v4 v5 v6) [17, 18] k25a0 k25c0 v16 m_10) fun ⟨ex, m_14⟩ => onE ex (
      bindO (ldM ro m_14 true 1 v4) fun v36 =>
      asI .i64 v36 fun x36 =>
      bindO (ldM ro m_14 true 1 v5) fun v37 =>
      asI .i64 v37 fun x37 =>
      forceI (wr .i64 (x36 + x37)) fun x38 =>
      finM m0.h.length (tupA [(.i .i64 x38), (.i .i64 0)]) m_14) (
      none) (fun ix =>
      none))

theorem g25_r0_ok {ro : List ABlk} {O : Caller} {M : Means} (hM : M.Ok ⟨F, O⟩ ro) {v4} {v5} {v6} {v17} {v18} {b h r bk t p} (hb : lget h b = some (some bk)) (hg : bk.g = some (.lp ⟨t, [17, 18], k25a0, k25c0⟩ .ready p)) (hP : g25_P0 v4 v5 v6 t) (hr : g25_r0 M ro v4 v5 v6 b v17 v18 ⟨h, h.length, h.length⟩ = some r) : roundX ⟨F, O⟩ ro b [v17, v18] h = some r := by
  refine roundX_on (F := ⟨F, O⟩) (g := g25_r0 M ro v4 v5 v6 b v17 v18) hb hg rfl hr ?_
  clear hb hg hr
  intro m0 t0 ht hr
  obtain ⟨-, g4, g5, g6⟩ := hP
  have g17 : t0.get 17 = v17 := by rw [ht]; simp [putPs, get_set]
  have g18 : t0.get 18 = v18 := by rw [ht]; simp [putPs, get_set]
  have g4 : t0.get 4 = v4 := by rw [ht]; simp only [putPs, get_set]; simpa using g4
  have g5 : t0.get 5 = v5 := by rw [ht]; simp only [putPs, get_set]; simpa using g5
  have g6 : t0.get 6 = v6 := by rw [ht]; simp only [putPs, get_set]; simpa using g6
  clear ht
  unfold g25_r0 at hr
  show W _ _ k25a0 _ _
  unfold k25a0
  refine w_ops ?_
  refine wo_step (v := v18) (s_pure (p_mv g18)) ?_
  refine wo_nil ?_
  have hq := bindO_inv hr
  clear hr
  obtain ⟨m_11, eb, hr⟩ := hq
  refine qb eb ?_
  unfold k25c0
  refine w_block ?_
  refine w_seq ?_
  refine w_ops ?_
  refine wo_step (v := v18) (s_pure (p_mv rfl)) ?_
  have hq := bindO_inv hr
  clear hr
  obtain ⟨v20, e20, hr⟩ := hq
  have hq := asI_inv hr
  clear hr
  obtain ⟨x20, rfl, hr⟩ := hq
  refine wo_step (v := (.i .i64 x20)) (s_ld g6 e20) ?_
  have hq := asI_inv hr
  clear hr
  obtain ⟨xq19, eq, hr⟩ := hq
  have hq := forceI_inv hr
  clear hr
  obtain ⟨x21, e21, hr⟩ := hq
  refine wo_step (v := (.i .i64 x21)) (s_pure (p_bin (Eq.trans (b := v18) rfl eq) rfl (b_sub.trans (ci e21)))) ?_
  refine wo_step (v := (.i .i64 x21)) (s_pure (p_mv rfl)) ?_
  refine wo_nil ?_
  refine nx_norm ?_
  refine w_seq ?_
  refine w_any ?_
  have hq := bindO_inv hr
  clear hr
  obtain ⟨v22, e22, hr⟩ := hq
  have hq := asI_inv hr
  clear hr
  obtain ⟨x22, rfl, hr⟩ := hq
  refine wa_step (v := (.i .i64 x22)) (a_ld g4 e22) ?_
  have hq := bindO_inv hr
  clear hr
  obtain ⟨v23, e23, hr⟩ := hq
  have hq := asI_inv hr
  clear hr
  obtain ⟨x23, rfl, hr⟩ := hq
  refine wa_step (v := (.i .i64 x23)) (a_ld g5 e23) ?_
  have hq := forceI_inv hr
  clear hr
  obtain ⟨x24, e24, hr⟩ := hq
  refine wa_step (v := (.i .i64 x24)) (a_pure (p_bin rfl rfl (b_add.trans (ci e24)))) ?_
  have hq := bindO_inv hr
  clear hr
  obtain ⟨v25, e25, hr⟩ := hq
  have hq := asI_inv hr
  clear hr
  obtain ⟨x25, rfl, hr⟩ := hq
  refine wa_step (v := (.i .i64 x25)) (a_ld g4 e25) ?_
  refine wa_step (v := (.i .i64 x21)) (a_pure (p_mv rfl)) ?_
  have hq := forceI_inv hr
  clear hr
  obtain ⟨x27, e27, hr⟩ := hq
  refine wa_step (v := (.i .i64 x27)) (a_pure (p_bin rfl rfl (b_sub.trans (ci e27)))) ?_
  have hq := forceI_inv hr
  clear hr
  obtain ⟨x28, e28, hr⟩ := hq
  refine wa_step (v := (.i .i64 x28)) (a_pure (p_bin rfl rfl ((b_quo rfl).trans (ci e28)))) ?_
  have hq := forceI_inv hr
  clear hr
  obtain ⟨x29, e29, hr⟩ := hq
  refine wa_step (v := (.i .i64 x29)) (a_pure (p_bin rfl rfl (b_mul.trans (ci e29)))) ?_
  have hq := asP_inv hr
  clear hr
  obtain ⟨q30, eq30, hr⟩ := hq
  have hq := bindO_inv hr
  clear hr
  obtain ⟨v30, e30, hr⟩ := hq
  have hq := asI_inv hr
  clear hr
  obtain ⟨x30, rfl, hr⟩ := hq
  refine wa_step (v := (.i .i64 x30)) (a_ldF (Eq.trans (b := v5) g5 eq30) e30) ?_
  refine wa_step (v := (.i .i64 x21)) (a_pure (p_mv rfl)) ?_
  have hq := forceI_inv hr
  clear hr
  obtain ⟨x32, e32, hr⟩ := hq
  refine wa_step (v := (.i .i64 x32)) (a_pure (p_bin rfl rfl ((b_quo rfl).trans (ci e32)))) ?_
  have hq := forceI_inv hr
  clear hr
  obtain ⟨x33, e33, hr⟩ := hq
  refine wa_step (v := (.i .i64 x33)) (a_pure (p_bin rfl rfl (b_mul.trans (ci e33)))) ?_
  have hq := forceI_inv hr
  clear hr
  obtain ⟨x34, e34, hr⟩ := hq
  refine wa_step (v := (.i .i64 x34)) (a_pure (p_bin rfl rfl (b_add.trans (ci e34)))) ?_
  have hq := asP_inv hr
  clear hr
  obtain ⟨qs, eqs, hr⟩ := hq
  refine wa_stepN (a_st (Eq.trans (b := v4) g4 eqs) rfl rfl) ?_
  have hq := asP_inv hr
  clear hr
  obtain ⟨qs_1, eqs_1, hr⟩ := hq
  refine wa_stepN (a_st (Eq.trans (b := v5) g5 eqs_1) rfl rfl) ?_
  have hq := bindO_inv hr
  clear hr
  obtain ⟨m_12, ew, hr⟩ := hq
  refine wa_nil ?_
  refine ⟨m_12, wM2_t rfl ew, ?_⟩
  refine nx_norm ?_
  refine w_ops ?_
  refine wo_step (v := v18) (s_pure (p_mv rfl)) ?_
  have hq := bindP_inv hr
  clear hr
  obtain ⟨vn_3, m_13, en_3, hr⟩ := hq
  refine wo_stepN (s_st g6 rfl en_3) ?_
  refine wo_nil ?_
  refine bk_norm ?_
  exact hr

theorem g25_ok {ro : List ABlk} {O : Caller} {M : Means} (hM : M.Ok ⟨F, O⟩ ro) {x0 h r} (ho : O 25 [(.i .i64 x0)] h = none) (hr : g25 M ro x0 ⟨h, h.length, h.length⟩ = some r) : callX ⟨F, O⟩ ro 25 [(.i .i64 x0)] h = some r := by
  refine callX_of (F := ⟨F, O⟩) (fn := fn25) (g := g25 M ro x0) ho rfl rfl hr ?_
  clear ho
  clear hr
  intro m0 t0 ht hr
  have g0 : t0.get 0 = (.i .i64 x0) := ht 0
  clear ht
  unfold g25 at hr
  refine w_seq ?_
  refine w_ops ?_
  refine wo_step (v := (.i .i64 0)) (s_pure (p_mv rfl)) ?_
  refine wo_step (v := (.i .i64 0)) (s_pure (p_mv rfl)) ?_
  refine wo_nil ?_
  refine nx_norm ?_
  refine w_seq ?_
  refine w_seq ?_
  refine w_ops ?_
  refine wo_step (v := (.i .i64 x0)) (s_pure (p_mv g0)) ?_
  have hq := bindP_inv hr
  clear hr
  obtain ⟨v11, m_1, e11, hr⟩ := hq
  refine wo_step (v := v11) (s_bsl (qc rfl qn) e11) ?_
  have hq := bindP_inv hr
  clear hr
  obtain ⟨v12, m_2, e12, hr⟩ := hq
  have hq := asB_inv hr
  clear hr
  obtain ⟨c12, rfl, hr⟩ := hq
  refine wo_step (v := (.b c12)) (s_call (mc rfl mn) (callM_le hM.call e12)) ?_
  have hq := forceB_inv hr
  clear hr
  obtain ⟨c13, e13, hr⟩ := hq
  refine wo_step (v := (.b c13)) (s_pure ((p_not rfl).trans (cb e13))) ?_
  refine wo_nil ?_
  refine nx_norm ?_
  have hq := cond_inv hr
  clear hr
  rcases hq with ⟨rfl, hr⟩ | ⟨rfl, hr⟩
  · refine w_condT rfl ?_
    refine w_seq ?_
    refine w_ops ?_
    refine wo_step (v := (.i .i64 0)) (s_pure (p_mv rfl)) ?_
    refine wo_step (v := (.i .i64 4)) (s_pure (p_mv rfl)) ?_
    refine wo_nil ?_
    refine nx_norm ?_
    refine w_ret ?_
    refine nx_ret ?_
    exact qf ret_ok (rt rfl (rt rfl rn)) hr
  · refine w_condF rfl ?_
    refine w_skip ?_
    refine nx_norm ?_
    refine w_seq ?_
    refine w_ops ?_
    have hq := bindP_inv hr
    clear hr
    obtain ⟨v4, m_3, e4, hr⟩ := hq
    refine wo_step (v := v4) (s_al e4) ?_
    have hq := bindP_inv hr
    clear hr
    obtain ⟨v5, m_4, e5, hr⟩ := hq
    refine wo_step (v := v5) (s_al e5) ?_
    have hq := bindP_inv hr
    clear hr
    obtain ⟨v6, m_5, e6, hr⟩ := hq
    refine wo_step (v := v6) (s_al e6) ?_
    have hq := bindP_inv hr
    clear hr
    obtain ⟨vn, m_6, en, hr⟩ := hq
    refine wo_stepN (s_st rfl rfl en) ?_
    have hq := bindP_inv hr
    clear hr
    obtain ⟨vn_1, m_7, en_1, hr⟩ := hq
    refine wo_stepN (s_st rfl rfl en_1) ?_
    have hq := bindP_inv hr
    clear hr
    obtain ⟨vn_2, m_8, en_2, hr⟩ := hq
    refine wo_stepN (s_st rfl rfl en_2) ?_
    refine wo_nil ?_
    refine nx_norm ?_
    refine w_seq ?_
    refine w_seq ?_
    refine w_ops ?_
    refine wo_step (v := (.i .i64 x0)) (s_pure (p_mv g0)) ?_
    have hq := bindP_inv hr
    clear hr
    obtain ⟨v15, m_9, e15, hr⟩ := hq
    refine wo_step (v := v15) (s_call (mc rfl mn) (callM_le hM.call e15)) ?_
    have hq := bindP_inv hr
    clear hr
    obtain ⟨v16, m_10, e16, hr⟩ := hq
    refine wo_step (v := v16) (s_call (mc rfl mn) (callM_le hM.call e16)) ?_
    refine wo_nil ?_
    refine nx_norm ?_
    refine w_block ?_
    have hq := bindO_inv hr
    clear hr
    obtain ⟨⟨ex, m_14⟩, er, hr⟩ := hq
    refine w_rng hM.call rfl er ⟨trivial, gl rfl, gl rfl, gl rfl⟩ ?_
    have hq := onE_inv hr
    clear hr
    rcases hq with ⟨rfl, hr⟩ | ⟨rfl, hr⟩ | ⟨ix, rfl, hr⟩
    · refine bk_norm ?_
      refine nx_norm ?_
      refine w_seq ?_
      refine w_ops ?_
      have hq := bindO_inv hr
      clear hr
      obtain ⟨v36, e36, hr⟩ := hq
      have hq := asI_inv hr
      clear hr
      obtain ⟨x36, rfl, hr⟩ := hq
      refine wo_step (v := (.i .i64 x36)) (s_ld rfl e36) ?_
      have hq := bindO_inv hr
      clear hr
      obtain ⟨v37, e37, hr⟩ := hq
      have hq := asI_inv hr
      clear hr
      obtain ⟨x37, rfl, hr⟩ := hq
      refine wo_step (v := (.i .i64 x37)) (s_ld rfl e37) ?_
      have hq := forceI_inv hr
      clear hr
      obtain ⟨x38, e38, hr⟩ := hq
      refine wo_step (v := (.i .i64 x38)) (s_pure (p_bin rfl rfl (b_add.trans (ci e38)))) ?_
      refine wo_step (v := (.i .i64 x38)) (s_pure (p_mv rfl)) ?_
      refine wo_step (v := (.i .i64 0)) (s_pure (p_mv rfl)) ?_
      refine wo_nil ?_
      refine nx_norm ?_
      refine w_ret ?_
      exact qf ret_ok (rt rfl (rt rfl rn)) hr
    · cases hr
    · cases hr

/- dibber/dibberref09.Sums -/
abbrev g26_I0  (s : AVal × Int × Mm) (m1 : Mm) (t1 : Tr) : Prop :=
  match s with
  | (v4, x5, m_3) => m_3 = m1 ∧ t1.get 4 = v4 ∧ t1.get 5 = (.i .i64 x5)
abbrev g26_J0  (o : (AVal × Mm)) (e : AExit) (m1 : Mm) (t1 : Tr) : Prop :=
  match o with
  | (y4, mo) => e = (.exit 0) ∧ mo = m1 ∧ t1.get 4 = y4
abbrev g26_I1 (v4 : AVal) (x5 : Int) (x23 : Int) (s : AVal × Int × Mm) (m1 : Mm) (t1 : Tr) : Prop :=
  match s with
  | (v6, x8, m_5) => m_5 = m1 ∧ t1.get 6 = v6 ∧ t1.get 8 = (.i .i64 x8) ∧ t1.get 4 = v4 ∧ t1.get 5 = (.i .i64 x5) ∧ t1.get 7 = (.i .i64 x23)
abbrev g26_J1 (v4 : AVal) (x5 : Int) (x23 : Int) (o : (AVal × Mm)) (e : AExit) (m1 : Mm) (t1 : Tr) : Prop :=
  match o with
  | (y6, mo) => e = (.exit 2) ∧ mo = m1 ∧ t1.get 6 = y6 ∧ t1.get 5 = (.i .i64 x5)
abbrev g26_J2 (v4 : AVal) (x5 : Int) (x23 : Int) (x8 : Int) (o : (AVal × Mm)) (e : AExit) (m1 : Mm) (t1 : Tr) : Prop :=
  match o with
  | (y6, mo) => e = .norm ∧ mo = m1 ∧ t1.get 6 = y6 ∧ t1.get 4 = v4 ∧ t1.get 5 = (.i .i64 x5) ∧ t1.get 7 = (.i .i64 x23) ∧ t1.get 8 = (.i .i64 x8)
abbrev g26_J3 (v4 : AVal) (x5 : Int) (v6_1 : AVal) (x23 : Int) (x8 : Int) (x56 : Int) (m_12 : Mm) (o : Bool) (m1 : Mm) (t1 : Tr) : Prop :=
  match o with
  | c63 => m_12 = m1 ∧ t1.get 63 = (.b c63) ∧ t1.get 4 = v4 ∧ t1.get 5 = (.i .i64 x5) ∧ t1.get 6 = v6_1 ∧ t1.get 7 = (.i .i64 x23) ∧ t1.get 8 = (.i .i64 x8) ∧ t1.get 9 = (.i .i64 x56)
abbrev g26_J4 (v4 : AVal) (x5 : Int) (x23 : Int) (x8 : Int) (o : (AVal × Mm)) (e : AExit) (m1 : Mm) (t1 : Tr) : Prop :=
  match o with
  | (y6, mo) => e = .norm ∧ mo = m1 ∧ t1.get 6 = y6 ∧ t1.get 4 = v4 ∧ t1.get 5 = (.i .i64 x5) ∧ t1.get 7 = (.i .i64 x23) ∧ t1.get 8 = (.i .i64 x8)
def g26_b1 (M : Means) (ro : List ABlk) (v4 : AVal) (x5 : Int) (x23 : Int) (v6 : AVal) (x8 : Int) (m_5 : Mm) : Option ((AVal × Int × Mm) ⊕ ((AVal × Mm))) :=
  bindO (evP .e (.len false (.c v4))) fun v26 =>
  asI .i64 v26 fun x26 =>
  forceB (ltI x8 x26) fun c27 =>
  cond c27 (
    bindO (evP .e (.ixS 2 (.c v4) (.c (.i .i64 x8)))) fun v32 =>
    bindO (evP .e (.faddr 0 (.c v32))) fun v33 =>
    bindO (ldM ro m_5 true 1 v33) fun v34 =>
    asI .i64 v34 fun x34 =>
    forceB (!ltI x23 x34) fun c36 =>
    bindO (α := (AVal × Mm)) (
      cond c36 (
        bindO (some (Mm.base m_5)) fun m_6 =>
        bindO (evP .e (.ixS 2 (.c v4) (.c (.i .i64 x8)))) fun v40 =>
        bindO (evP .e (.faddr 0 (.c v40))) fun v41 =>
        bindO (ldM ro m_6 true 1 v41) fun v42 =>
        asI .i64 v42 fun x42 =>
        bindO (evP .e (.ixS 2 (.c v4) (.c (.i .i64 x8)))) fun v45 =>
        bindO (evP .e (.faddr 1 (.c v45))) fun v46 =>
        bindO (ldM ro m_6 true 1 v46) fun v47 =>
        asI .i64 v47 fun x47 =>
        bindP (callM M.call m_6 61 [v6, (.i .i64 x42), (.i .i64 x47)]) fun v48 m_7 =>
        bindO (some (Mm.join m_5 m_7)) fun m_8 =>
        some (v48, m_8)) (
        some (v6, m_5))) fun ⟨v6_1, m_9⟩ =>
    bindO (some (Mm.base m_9)) fun m_10 =>
    bindO (evP .e (.ixS 2 (.c v4) (.c (.i .i64 x8)))) fun v51 =>
    bindO (evP .e (.faddr 0 (.c v51))) fun v52 =>
    bindO (ldA ro m_9.h true 1 v52) fun v53 =>
    asI .i64 v53 fun x53 =>
    bindP (callM M.call m_10 50 [(.i .i64 x5)]) fun v55 m_11 =>
    asI .i64 v55 fun x55 =>
    chk (!Nat.blt m_11.lw m_9.h.length) <|
    forceI (wr .i64 (x53 - x55)) fun x56 =>
    bindO (some (Mm.join m_9 m_11)) fun m_12 =>
    forceB (!ltI x56 0) fun c58 =>
    bindO (cond c58 (
      forceB (!ltI x23 x56) fun c62 =>
      some c62) (
      some false)) fun c63 =>
    bindO (α := (AVal × Mm)) (
      cond c63 (
        bindO (evP .e (.ixS 2 (.c v4) (.c (.i .i64 x8)))) fun v68 =>
        bindO (evP .e (.faddr 1 (.c v68))) fun v69 =>
        bindO (ldM ro m_12 true 1 v69) fun v70 =>
        asI .i64 v70 fun x70 =>
        bindP (callM M.call m_12 61 [v6_1, (.i .i64 x56), (.i .i64 x70)]) fun v71 m_13 =>
        some (v71, m_13)) (
        some (v6_1, m_12))) fun ⟨v6_2, m_14⟩ =>
    forceI (wr .i64 (x8 + 1)) fun x29 =>
    some (.inl (v6_2, x29, m_14))) (
    some (.inr (v6, m_5)))
def g26_b0 (M : Means) (ro : List ABlk)  (v4 : AVal) (x5 : Int) (m_3 : Mm) : Option ((AVal × Int × Mm) ⊕ ((AVal × Mm))) :=
  forceB (!ltI x5 2) fun c17 =>
  cond c17 (
    forceI (wr .i64 (x5 + 1)) fun x21 =>
    bindP (callM M.call m_3 50 [(.i .i64 x21)]) fun v22 m_4 =>
    asI .i64 v22 fun x22 =>
    forceI (wr .i64 (x22 - 2)) fun x23 =>
    bindO (M.loop (S := AVal × Int × Mm) (R := (AVal × Mm)) (fun s => g26_b1 M ro v4 x5 x23 s.1 s.2.1 s.2.2) (AVal.nsl, 0, m_4)) fun ⟨v6_3, m_15⟩ =>
    forceI (wr .i64 (x5 - 1)) fun x19 =>
    some (.inl (v6_3, x19, m_15))) (
    some (.inr (v4, m_3)))
def g26 (M : Means) (ro : List ABlk) (x0 : Int) (m0 : Mm) : Option (AVal × Heap × Nat × Nat) :=
  bindP (callM M.call m0 53 [(.i .i64 x0)]) fun v11 m_1 =>
  asB v11 fun c11 =>
  forceB (!c11) fun c12 =>
  cond c12 (
    finM m0.h.length (tupA [(.i .i64 0), (.i .i64 4)]) m_1) (
    bindO ((fillA [(AVal.i IntKind.i64 0), (AVal.i IntKind.i64 0)] [((0, 1), (.i .i64 x0)), ((1, 1), (.i .i64 1))]).map AVal.agg) fun v14 =>
    bindP (stepM ro m_1 (.bsl 64 2 [(AVal.i IntKind.i64 0), (AVal.i IntKind.i64 0)] 1 [((0, 2), .c v14)])) fun v15 m_2 =>
    bindO (M.loop (S := AVal × Int × Mm) (R := (AVal × Mm)) (fun s => g26_b0 M ro  s.1 s.2.1 s.2.2) (v15, 89, m_2)) fun ⟨v4_1, m_16⟩ =>
    bindO (evP .e (.len false (.c v4_1))) fun v74 =>
    asI .i64 v74 fun x74 =>
    forceB (eqI x74 0) fun c75 =>
    cond c75 (
      finM m0.h.length (tupA [(.i .i64 0), (.i .i64 0)]) m_16) (
      bindO (evP .e (.ixS 2 (.c v4_1) (.c (.i .i64 0)))) fun v77 =>
      bindO (evP .e (.faddr 1 (.c v77))) fun v78 =>
      bindO (ldM ro m_16 true 1 v78) fun v79 =>
      asI .i64 v79 fun x79 =>
      finM m0.h.length (tupA [(.i .i64 x79), (.i .i64 0)]) m_16))

theorem g26_ok {ro : List ABlk} {O : Caller} {M : Means} (hM : M.Ok ⟨F, O⟩ ro) {x0 h r} (ho : O 26 [(.i .i64 x0)] h = none) (hr : g26 M ro x0 ⟨h, h.length, h.length⟩ = some r) : callX ⟨F, O⟩ ro 26 [(.i .i64 x0)] h = some r := by
  refine callX_of (F := ⟨F, O⟩) (fn := fn26) (g := g26 M ro x0) ho rfl rfl hr ?_
  clear ho
  clear hr
  intro m0 t0 ht hr
  have g0 : t0.get 0 = (.i .i64 x0) := ht 0
  clear ht
  unfold g26 at hr
  refine w_seq ?_
  refine w_ops ?_
  refine wo_step (v := (.i .i64 0)) (s_pure (p_mv rfl)) ?_
  refine wo_step (v := (.i .i64 0)) (s_pure (p_mv rfl)) ?_
  refine wo_nil ?_
  refine nx_norm ?_
  refine w_seq ?_
  refine w_seq ?_
  refine w_ops ?_
  refine wo_step (v := (.i .i64 x0)) (s_pure (p_mv g0)) ?_
  have hq := bindP_inv hr
  clear hr
  obtain ⟨v11, m_1, e11, hr⟩ := hq
  have hq := asB_inv hr
  clear hr
  obtain ⟨c11, rfl, hr⟩ := hq
  refine wo_step (v := (.b c11)) (s_call (mc rfl mn) (callM_le hM.call e11)) ?_
  have hq := forceB_inv hr
  clear hr
  obtain ⟨c12, e12, hr⟩ := hq
  refine wo_step (v := (.b c12)) (s_pure ((p_not rfl).trans (cb e12))) ?_
  refine wo_nil ?_
  refine nx_norm ?_
  have hq := cond_inv hr
  clear hr
  rcases hq with ⟨rfl, hr⟩ | ⟨rfl, hr⟩
  · refine w_condT rfl ?_
    refine w_seq ?_
    refine w_ops ?_
    refine wo_step (v := (.i .i64 0)) (s_pure (p_mv rfl)) ?_
    refine wo_step (v := (.i .i64 4)) (s_pure (p_mv rfl)) ?_
    refine wo_nil ?_
    refine nx_norm ?_
    refine w_ret ?_
    refine nx_ret ?_
    exact qf ret_ok (rt rfl (rt rfl rn)) hr
  · refine w_condF rfl ?_
    refine w_skip ?_
    refine nx_norm ?_
    refine w_seq ?_
    refine w_ops ?_
    refine wo_step (v := (.i .i64 x0)) (s_pure (p_mv g0)) ?_
    have hq := bindO_inv hr
    clear hr
    obtain ⟨v14, e14, hr⟩ := hq
    refine wo_step (v := v14) (s_pure (o_build (qc rfl (qc rfl qn)) e14)) ?_
    have hq := bindP_inv hr
    clear hr
    obtain ⟨v15, m_2, e15, hr⟩ := hq
    refine wo_step (v := v15) (s_bsl (qc rfl qn) e15) ?_
    refine wo_step (v := v15) (s_pure (p_mv rfl)) ?_
    refine wo_nil ?_
    refine nx_norm ?_
    refine w_seq ?_
    refine w_seq ?_
    refine w_ops ?_
    refine wo_step (v := (.i .i64 89)) (s_pure (p_mv rfl)) ?_
    refine wo_nil ?_
    refine nx_norm ?_
    refine w_block ?_
    have hq := bindO_inv hr
    clear hr
    obtain ⟨o_4, hl_1, hr⟩ := hq
    obtain ⟨n_1, hl_1⟩ := hM.loop _ _ _ hl_1
    refine jp_mono (w_loop _ (g26_I0 ) (g26_J0 ) ?_ n_1 _ _ _ _ hl_1 ⟨rfl, gl rfl, gl rfl⟩) ?_
    · clear hr hl_1
      intro s mm_6 t_1 o hi hr
      obtain ⟨v4, x5, m_3⟩ := s
      obtain ⟨rfl, g4, g5⟩ := hi
      unfold g26_b0 at hr
      refine w_seq ?_
      refine w_seq ?_
      refine w_ops ?_
      refine wo_step (v := (.i .i64 x5)) (s_pure (p_mv g5)) ?_
      have hq := forceB_inv hr
      clear hr
      obtain ⟨c17, e17, hr⟩ := hq
      refine wo_step (v := (.b c17)) (s_pure (p_bin rfl rfl (b_geq.trans (cb e17)))) ?_
      refine wo_nil ?_
      refine nx_norm ?_
      have hq := cond_inv hr
      clear hr
      rcases hq with ⟨rfl, hr⟩ | ⟨rfl, hr⟩
      · refine w_condT rfl ?_
        refine w_skip ?_
        refine nx_norm ?_
        refine w_seq ?_
        refine w_block ?_
        refine w_seq ?_
        refine w_ops ?_
        refine wo_step (v := AVal.nsl) (s_pure (p_mv rfl)) ?_
        refine wo_nil ?_
        refine nx_norm ?_
        refine w_seq ?_
        refine w_ops ?_
        refine wo_step (v := (.i .i64 x5)) (s_pure (p_mv g5)) ?_
        have hq := forceI_inv hr
        clear hr
        obtain ⟨x21, e21, hr⟩ := hq
        refine wo_step (v := (.i .i64 x21)) (s_pure (p_bin rfl rfl (b_add.trans (ci e21)))) ?_
        have hq := bindP_inv hr
        clear hr
        obtain ⟨v22, m_4, e22, hr⟩ := hq
        have hq := asI_inv hr
        clear hr
        obtain ⟨x22, rfl, hr⟩ := hq
        refine wo_step (v := (.i .i64 x22)) (s_call (mc rfl mn) (callM_le hM.call e22)) ?_
        have hq := forceI_inv hr
        clear hr
        obtain ⟨x23, e23, hr⟩ := hq
        refine wo_step (v := (.i .i64 x23)) (s_pure (p_bin rfl rfl (b_sub.trans (ci e23)))) ?_
        refine wo_step (v := (.i .i64 x23)) (s_pure (p_mv rfl)) ?_
        refine wo_nil ?_
        refine nx_norm ?_
        refine w_seq ?_
        refine w_seq ?_
        refine w_ops ?_
        refine wo_step (v := (.i .i64 0)) (s_pure (p_mv rfl)) ?_
        refine wo_nil ?_
        refine nx_norm ?_
        refine w_block ?_
        have hq := bindO_inv hr
        clear hr
        obtain ⟨o_3, hl, hr⟩ := hq
        obtain ⟨n, hl⟩ := hM.loop _ _ _ hl
        refine jp_mono (w_loop _ (g26_I1 v4 x5 x23) (g26_J1 v4 x5 x23) ?_ n _ _ _ _ hl ⟨rfl, gl rfl, gl rfl, gl g4, gl g5, gl rfl⟩) ?_
        · clear hr hl
          intro s mm_4 t_2 o hi hr
          obtain ⟨v6, x8, m_5⟩ := s
          obtain ⟨rfl, g6, g8, g4, g5, g7⟩ := hi
          unfold g26_b1 at hr
          refine w_seq ?_
          refine w_seq ?_
          refine w_ops ?_
          refine wo_step (v := (.i .i64 x8)) (s_pure (p_mv g8)) ?_
          refine wo_step (v := v4) (s_pure (p_mv g4)) ?_
          have hq := bindO_inv hr
          clear hr
          obtain ⟨v26, e26, hr⟩ := hq
          have hq := asI_inv hr
          clear hr
          obtain ⟨x26, rfl, hr⟩ := hq
          refine wo_step (v := (.i .i64 x26)) (s_pure (o_len rfl e26)) ?_
          have hq := forceB_inv hr
          clear hr
          obtain ⟨c27, e27, hr⟩ := hq
          refine wo_step (v := (.b c27)) (s_pure (p_bin rfl rfl (b_lss.trans (cb e27)))) ?_
          refine wo_nil ?_
          refine nx_norm ?_
          have hq := cond_inv hr
          clear hr
          rcases hq with ⟨rfl, hr⟩ | ⟨rfl, hr⟩
          · refine w_condT rfl ?_
            refine w_skip ?_
            refine nx_norm ?_
            refine w_seq ?_
            refine w_block ?_
            refine w_seq ?_
            refine w_seq ?_
            refine w_ops ?_
            refine wo_step (v := v4) (s_pure (p_mv g4)) ?_
            refine wo_step (v := (.i .i64 x8)) (s_pure (p_mv g8)) ?_
            have hq := bindO_inv hr
            clear hr
            obtain ⟨v32, e32, hr⟩ := hq
            refine wo_step (v := v32) (s_pure (o_ixS rfl rfl e32)) ?_
            have hq := bindO_inv hr
            clear hr
            obtain ⟨v33, e33, hr⟩ := hq
            refine wo_step (v := v33) (s_pure (o_faddr rfl e33)) ?_
            have hq := bindO_inv hr
            clear hr
            obtain ⟨v34, e34, hr⟩ := hq
            have hq := asI_inv hr
            clear hr
            obtain ⟨x34, rfl, hr⟩ := hq
            refine wo_step (v := (.i .i64 x34)) (s_ld rfl e34) ?_
            refine wo_step (v := (.i .i64 x23)) (s_pure (p_mv g7)) ?_
            have hq := forceB_inv hr
            clear hr
            obtain ⟨c36, e36, hr⟩ := hq
            refine wo_step (v := (.b c36)) (s_pure (p_bin rfl rfl (b_leq.trans (cb e36)))) ?_
            refine wo_nil ?_
            refine nx_norm ?_
            have hq := bindO_inv hr
            clear hr
            obtain ⟨o, hr, hk⟩ := hq
            refine jp_mono (J := g26_J2 v4 x5 x23 x8 o) ?_ ?_
            · clear hk
              have hq := cond_inv hr
              clear hr
              rcases hq with ⟨rfl, hr⟩ | ⟨rfl, hr⟩
              · refine w_condT rfl ?_
                have hq := bindO_inv hr
                clear hr
                obtain ⟨m_6, ef, hr⟩ := hq
                refine w_flt (af := false) rfl ef ?_
                refine wf_step (v := v6) (f_P rfl (s_pure (p_mv g6))) ?_
                refine wf_step (v := v4) (f_P rfl (s_pure (p_mv g4))) ?_
                refine wf_step (v := (.i .i64 x8)) (f_P rfl (s_pure (p_mv g8))) ?_
                have hq := bindO_inv hr
                clear hr
                obtain ⟨v40, e40, hr⟩ := hq
                refine wf_step (v := v40) (f_P rfl (s_pure (o_ixS rfl rfl e40))) ?_
                have hq := bindO_inv hr
                clear hr
                obtain ⟨v41, e41, hr⟩ := hq
                refine wf_step (v := v41) (f_P rfl (s_pure (o_faddr rfl e41))) ?_
                have hq := bindO_inv hr
                clear hr
                obtain ⟨v42, e42, hr⟩ := hq
                have hq := asI_inv hr
                clear hr
                obtain ⟨x42, rfl, hr⟩ := hq
                refine wf_step (v := (.i .i64 x42)) (f_P rfl (s_ld rfl e42)) ?_
                refine wf_step (v := v4) (f_P rfl (s_pure (p_mv g4))) ?_
                refine wf_step (v := (.i .i64 x8)) (f_P rfl (s_pure (p_mv g8))) ?_
                have hq := bindO_inv hr
                clear hr
                obtain ⟨v45, e45, hr⟩ := hq
                refine wf_step (v := v45) (f_P rfl (s_pure (o_ixS rfl rfl e45))) ?_
                have hq := bindO_inv hr
                clear hr
                obtain ⟨v46, e46, hr⟩ := hq
                refine wf_step (v := v46) (f_P rfl (s_pure (o_faddr rfl e46))) ?_
                have hq := bindO_inv hr
                clear hr
                obtain ⟨v47, e47, hr⟩ := hq
                have hq := asI_inv hr
                clear hr
                obtain ⟨x47, rfl, hr⟩ := hq
                refine wf_step (v := (.i .i64 x47)) (f_P rfl (s_ld rfl e47)) ?_
                have hq := bindP_inv hr
                clear hr
                obtain ⟨v48, m_7, e48, hr⟩ := hq
                refine wf_step (v := v48) (f_N (s_call (mc rfl (mc rfl (mc rfl mn))) (callM_le hM.call e48))) ?_
                refine wf_step (v := v48) (f_P rfl (s_pure (p_mv rfl))) ?_
                have hq := bindO_inv hr
                clear hr
                obtain ⟨m_8, ef_1, hr⟩ := hq
                refine wf_end ef_1 ?_
                cases hr
                exact ⟨_, _, rfl, rfl, rfl, gl rfl, gl g4, gl g5, gl g7, gl g8⟩
              · refine w_condF rfl ?_
                refine w_skip ?_
                cases hr
                exact ⟨_, _, rfl, rfl, rfl, gl g6, gl g4, gl g5, gl g7, gl g8⟩
            · clear hr
              have hr := hk
              clear hk
              obtain ⟨v6_1, m_9⟩ := o
              rintro _ mm_2 t_3 ⟨rfl, rfl, g6, g4, g5, g7, g8⟩
              refine nx_norm ?_
              refine w_seq ?_
              have hq := bindO_inv hr
              clear hr
              obtain ⟨m_10, ef_2, hr⟩ := hq
              refine w_flt (af := true) rfl ef_2 ?_
              refine wf_step (v := v4) (f_P rfl (s_pure (p_mv g4))) ?_
              refine wf_step (v := (.i .i64 x8)) (f_P rfl (s_pure (p_mv g8))) ?_
              have hq := bindO_inv hr
              clear hr
              obtain ⟨v51, e51, hr⟩ := hq
              refine wf_step (v := v51) (f_P rfl (s_pure (o_ixS rfl rfl e51))) ?_
              have hq := bindO_inv hr
              clear hr
              obtain ⟨v52, e52, hr⟩ := hq
              refine wf_step (v := v52) (f_P rfl (s_pure (o_faddr rfl e52))) ?_
              have hq := bindO_inv hr
              clear hr
              obtain ⟨v53, e53, hr⟩ := hq
              have hq := asI_inv hr
              clear hr
              obtain ⟨x53, rfl, hr⟩ := hq
              refine wf_step (v := (.i .i64 x53)) (f_ld rfl e53) ?_
              refine wf_step (v := (.i .i64 x5)) (f_P rfl (s_pure (p_mv g5))) ?_
              have hq := bindP_inv hr
              clear hr
              obtain ⟨v55, m_11, e55, hr⟩ := hq
              have hq := asI_inv hr
              clear hr
              obtain ⟨x55, rfl, hr⟩ := hq
              have hq := chk_inv hr
              clear hr
              obtain ⟨hc55, hr⟩ := hq
              refine wf_step (v := (.i .i64 x55)) (f_M hc55 (s_call (mc rfl mn) (callM_le hM.call e55))) ?_
              have hq := forceI_inv hr
              clear hr
              obtain ⟨x56, e56, hr⟩ := hq
              refine wf_step (v := (.i .i64 x56)) (f_P rfl (s_pure (p_bin rfl rfl (b_sub.trans (ci e56))))) ?_
              refine wf_step (v := (.i .i64 x56)) (f_P rfl (s_pure (p_mv rfl))) ?_
              have hq := bindO_inv hr
              clear hr
              obtain ⟨m_12, ef_3, hr⟩ := hq
              refine wf_end ef_3 ?_
              refine nx_norm ?_
              refine w_seq ?_
              refine w_ops ?_
              refine wo_step (v := (.i .i64 x56)) (s_pure (p_mv rfl)) ?_
              have hq := forceB_inv hr
              clear hr
              obtain ⟨c58, e58, hr⟩ := hq
              refine wo_step (v := (.b c58)) (s_pure (p_bin rfl rfl (b_geq.trans (cb e58)))) ?_
              refine wo_step (v := (.b c58)) (s_pure (p_mv rfl)) ?_
              have hq := bindO_inv hr
              clear hr
              obtain ⟨o_1, hr, hk⟩ := hq
              refine wo_join 4 (g26_J3 v4 x5 v6_1 x23 x8 x56 m_12 o_1) ?_ ?_
              · clear hk
                have hq := cond_inv hr
                clear hr
                rcases hq with ⟨rfl, hr⟩ | ⟨rfl, hr⟩
                · refine wo_take (v := (.i .i64 x56)) rfl (s_pure (p_mv rfl)) ?_
                  refine wo_take (v := (.i .i64 x23)) rfl (s_pure (p_mv g7)) ?_
                  have hq := forceB_inv hr
                  clear hr
                  obtain ⟨c62, e62, hr⟩ := hq
                  refine wo_take (v := (.b c62)) rfl (s_pure (p_bin rfl rfl (b_leq.trans (cb e62)))) ?_
                  refine wo_step (v := (.b c62)) (s_pure (p_pickT rfl rfl)) ?_
                  refine wo_nil ?_
                  cases hr
                  exact ⟨_, _, rfl, rfl, gl rfl, gl g4, gl g5, gl g6, gl g7, gl g8, gl rfl⟩
                · refine wo_skip (v := (.b false)) rfl rfl ?_
                  refine wo_skip (v := (.b false)) rfl rfl ?_
                  refine wo_skip (v := (.b false)) rfl rfl ?_
                  refine wo_step (v := (.b false)) (s_pure (p_pickF rfl rfl)) ?_
                  refine wo_nil ?_
                  cases hr
                  exact ⟨_, _, rfl, rfl, gl rfl, gl g4, gl g5, gl g6, gl g7, gl g8, gl rfl⟩
              · clear hr
                have hr := hk
                clear hk
                obtain ⟨c63, ho⟩ : ∃ z, z = o_1 := ⟨_, rfl⟩
                subst ho
                rintro mm t_4 ⟨rfl, g63, g4, g5, g6, g7, g8, g9⟩
                refine wo_nil ?_
                refine nx_norm ?_
                have hq := bindO_inv hr
                clear hr
                obtain ⟨o_2, hr, hk⟩ := hq
                refine jp_mono (J := g26_J4 v4 x5 x23 x8 o_2) ?_ ?_
                · clear hk
                  have hq := cond_inv hr
                  clear hr
                  rcases hq with ⟨rfl, hr⟩ | ⟨rfl, hr⟩
                  · refine w_condT g63 ?_
                    refine w_ops ?_
                    refine wo_step (v := v6_1) (s_pure (p_mv g6)) ?_
                    refine wo_step (v := (.i .i64 x56)) (s_pure (p_mv g9)) ?_
                    refine wo_step (v := v4) (s_pure (p_mv g4)) ?_
                    refine wo_step (v := (.i .i64 x8)) (s_pure (p_mv g8)) ?_
                    have hq := bindO_inv hr
                    clear hr
                    obtain ⟨v68, e68, hr⟩ := hq
                    refine wo_step (v := v68) (s_pure (o_ixS rfl rfl e68)) ?_
                    have hq := bindO_inv hr
                    clear hr
                    obtain ⟨v69, e69, hr⟩ := hq
                    refine wo_step (v := v69) (s_pure (o_faddr rfl e69)) ?_
                    have hq := bindO_inv hr
                    clear hr
                    obtain ⟨v70, e70, hr⟩ := hq
                    have hq := asI_inv hr
                    clear hr
                    obtain ⟨x70, rfl, hr⟩ := hq
                    refine wo_step (v := (.i .i64 x70)) (s_ld rfl e70) ?_
                    have hq := bindP_inv hr
                    clear hr
                    obtain ⟨v71, m_13, e71, hr⟩ := hq
                    refine wo_step (v := v71) (s_call (mc rfl (mc rfl (mc rfl mn))) (callM_le hM.call e71)) ?_
                    refine wo_step (v := v71) (s_pure (p_mv rfl)) ?_
                    refine wo_nil ?_
                    cases hr
                    exact ⟨_, _, rfl, rfl, rfl, gl rfl, gl g4, gl g5, gl g7, gl g8⟩
                  · refine w_condF g63 ?_
                    refine w_skip ?_
                    cases hr
                    exact ⟨_, _, rfl, rfl, rfl, gl g6, gl g4, gl g5, gl g7, gl g8⟩
                · clear hr
                  have hr := hk
                  clear hk
                  obtain ⟨v6_2, m_14⟩ := o_2
                  rintro _ mm_1 t_5 ⟨rfl, rfl, g6, g4, g5, g7, g8⟩
                  refine bk_norm ?_
                  refine nx_norm ?_
                  refine w_ops ?_
                  refine wo_step (v := (.i .i64 x8)) (s_pure (p_mv g8)) ?_
                  have hq := forceI_inv hr
                  clear hr
                  obtain ⟨x29, e29, hr⟩ := hq
                  refine wo_step (v := (.i .i64 x29)) (s_pure (p_bin rfl rfl (b_add.trans (ci e29)))) ?_
                  refine wo_step (v := (.i .i64 x29)) (s_pure (p_mv rfl)) ?_
                  refine wo_nil ?_
                  cases hr
                  exact ⟨_, _, rfl, rfl, rfl, gl g6, gl rfl, gl g4, gl g5, gl g7⟩
          · refine w_condF rfl ?_
            refine w_exit ?_
            refine nx_exit ?_
            cases hr
            exact ⟨_, _, rfl, ne_norm_exit, rfl, rfl, gl g6, gl g5⟩
        · obtain ⟨v6_3, m_15⟩ := o_3
          rintro _ mm_3 t_6 ⟨rfl, rfl, g6, g5⟩
          refine bk_hit ?_
          refine nx_norm ?_
          refine w_ops ?_
          refine wo_step (v := v6_3) (s_pure (p_mv g6)) ?_
          refine wo_step (v := v6_3) (s_pure (p_mv rfl)) ?_
          refine wo_nil ?_
          refine bk_norm ?_
          refine nx_norm ?_
          refine w_ops ?_
          refine wo_step (v := (.i .i64 x5)) (s_pure (p_mv g5)) ?_
          have hq := forceI_inv hr
          clear hr
          obtain ⟨x19, e19, hr⟩ := hq
          refine wo_step (v := (.i .i64 x19)) (s_pure (p_bin rfl rfl (b_sub.trans (ci e19)))) ?_
          refine wo_step (v := (.i .i64 x19)) (s_pure (p_mv rfl)) ?_
          refine wo_nil ?_
          cases hr
          exact ⟨_, _, rfl, rfl, rfl, gl rfl, gl rfl⟩
      · refine w_condF rfl ?_
        refine w_exit ?_
        refine nx_exit ?_
        cases hr
        exact ⟨_, _, rfl, ne_norm_exit, rfl, rfl, gl g4⟩
    · obtain ⟨v4_1, m_16⟩ := o_4
      rintro _ mm_5 t_7 ⟨rfl, rfl, g4⟩
      refine bk_hit ?_
      refine nx_norm ?_
      refine w_seq ?_
      refine w_seq ?_
      refine w_ops ?_
      refine wo_step (v := v4_1) (s_pure (p_mv g4)) ?_
      have hq := bindO_inv hr
      clear hr
      obtain ⟨v74, e74, hr⟩ := hq
      have hq := asI_inv hr
      clear hr
      obtain ⟨x74, rfl, hr⟩ := hq
      refine wo_step (v := (.i .i64 x74)) (s_pure (o_len rfl e74)) ?_
      have hq := forceB_inv hr
      clear hr
      obtain ⟨c75, e75, hr⟩ := hq
      refine wo_step (v := (.b c75)) (s_pure (p_bin rfl rfl (b_eql.trans (cb e75)))) ?_
      refine wo_nil ?_
      refine nx_norm ?_
      have hq := cond_inv hr
      clear hr
      rcases hq with ⟨rfl, hr⟩ | ⟨rfl, hr⟩
      · refine w_condT rfl ?_
        refine w_seq ?_
        refine w_ops ?_
        refine wo_step (v := (.i .i64 0)) (s_pure (p_mv rfl)) ?_
        refine wo_step (v := (.i .i64 0)) (s_pure (p_mv rfl)) ?_
        refine wo_nil ?_
        refine nx_norm ?_
        refine w_ret ?_
        refine nx_ret ?_
        exact qf ret_ok (rt rfl (rt rfl rn)) hr
      · refine w_condF rfl ?_
        refine w_skip ?_
        refine nx_norm ?_
        refine w_seq ?_
        refine w_ops ?_
        refine wo_step (v := v4_1) (s_pure (p_mv g4)) ?_
        have hq := bindO_inv hr
        clear hr
        obtain ⟨v77, e77, hr⟩ := hq
        refine wo_step (v := v77) (s_pure (o_ixS rfl rfl e77)) ?_
        have hq := bindO_inv hr
        clear hr
        obtain ⟨v78, e78, hr⟩ := hq
        refine wo_step (v := v78) (s_pure (o_faddr rfl e78)) ?_
        have hq := bindO_inv hr
        clear hr
        obtain ⟨v79, e79, hr⟩ := hq
        have hq := asI_inv hr
        clear hr
        obtain ⟨x79, rfl, hr⟩ := hq
        refine wo_step (v := (.i .i64 x79)) (s_ld rfl e79) ?_
        refine wo_step (v := (.i .i64 x79)) (s_pure (p_mv rfl)) ?_
        refine wo_step (v := (.i .i64 0)) (s_pure (p_mv rfl)) ?_
        refine wo_nil ?_
        refine nx_norm ?_
        refine w_ret ?_
        exact qf ret_ok (rt rfl (rt rfl rn)) hr

/- dibber/seed.Letter -/

def g27 (M : Means) (ro : List ABlk) (x0 : Int) (m0 : Mm) : Option (AVal × Heap × Nat × Nat) :=
  bindP (stepM ro m0 (.bsl 3 1 [(AVal.i IntKind.i64 0)] 1 [((0, 1), .c (.i .i64 x0))])) fun v5 m_1 =>
  bindP (callM M.call m_1 51 [v5]) fun v6 m_2 =>
  asB v6 fun c6 =>
  forceB (!c6) fun c7 =>
  cond c7 (
    finM m0.h.length (tupA [(.i .i64 0), (.i .i64 4)]) m_2) (
    bindP (callM M.call m_2 52 [(.i .i64 x0)]) fun v9 m_3 =>
    asS v9 fun s9 =>
    bindP (callM M.call m_3 62 [(.s s9), (AVal.s [49])]) fun v10 m_4 =>
    asB v10 fun c10 =>
    cond c10 (
      finM m0.h.length (tupA [(.i .i64 1), (.i .i64 0)]) m_4) (
      finM m0.h.length (tupA [(.i .i64 0), (.i .i64 0)]) m_4))

theorem g27_ok {ro : List ABlk} {O : Caller} {M : Means} (hM : M.Ok ⟨F, O⟩ ro) {x0 h r} (ho : O 27 [(.i .i64 x0)] h = none) (hr : g27 M ro x0 ⟨h, h.length, h.length⟩ = some r) : callX ⟨F, O⟩ ro 27 [(.i .i64 x0)] h = some r := by
  refine callX_of (F := ⟨F, O⟩) (fn := fn27) (g := g27 M ro x0) ho rfl rfl hr ?_
  clear ho
  clear hr
  intro m0 t0 ht hr
  have g0 : t0.get 0 = (.i .i64 x0) := ht 0
  clear ht
  unfold g27 at hr
  refine w_seq ?_
  refine w_ops ?_
  refine wo_step (v := (.i .i64 0)) (s_pure (p_mv rfl)) ?_
  refine wo_step (v := (.i .i64 0)) (s_pure (p_mv rfl)) ?_
  refine wo_nil ?_
  refine nx_norm ?_
  refine w_seq ?_
  refine w_seq ?_
  refine w_ops ?_
  refine wo_step (v := (.i .i64 x0)) (s_pure (p_mv g0)) ?_
  have hq := bindP_inv hr
  clear hr
  obtain ⟨v5, m_1, e5, hr⟩ := hq
  refine wo_step (v := v5) (s_bsl (qc rfl qn) e5) ?_
  have hq := bindP_inv hr
  clear hr
  obtain ⟨v6, m_2, e6, hr⟩ := hq
  have hq := asB_inv hr
  clear hr
  obtain ⟨c6, rfl, hr⟩ := hq
  refine wo_step (v := (.b c6)) (s_call (mc rfl mn) (callM_le hM.call e6)) ?_
  have hq := forceB_inv hr
  clear hr
  obtain ⟨c7, e7, hr⟩ := hq
  refine wo_step (v := (.b c7)) (s_pure ((p_not rfl).trans (cb e7))) ?_
  refine wo_nil ?_
  refine nx_norm ?_
  have hq := cond_inv hr
  clear hr
  rcases hq with ⟨rfl, hr⟩ | ⟨rfl, hr⟩
  · refine w_condT rfl ?_
    refine w_seq ?_
    refine w_ops ?_
    refine wo_step (v := (.i .i64 0)) (s_pure (p_mv rfl)) ?_
    refine wo_step (v := (.i .i64 4)) (s_pure (p_mv rfl)) ?_
    refine wo_nil ?_
    refine nx_norm ?_
    refine w_ret ?_
    refine nx_ret ?_
    exact qf ret_ok (rt rfl (rt rfl rn)) hr
  · refine w_condF rfl ?_
    refine w_skip ?_
    refine nx_norm ?_
    refine w_seq ?_
    refine w_seq ?_
    refine w_ops ?_
    refine wo_step (v := (.i .i64 x0)) (s_pure (p_mv g0)) ?_
    have hq := bindP_inv hr
    clear hr
    obtain ⟨v9, m_3, e9, hr⟩ := hq
    have hq := asS_inv hr
    clear hr
    obtain ⟨s9, rfl, hr⟩ := hq
    refine wo_step (v := (.s s9)) (s_call (mc rfl mn) (callM_le hM.call e9)) ?_
    have hq := bindP_inv hr
    clear hr
    obtain ⟨v10, m_4, e10, hr⟩ := hq
    have hq := asB_inv hr
    clear hr
    obtain ⟨c10, rfl, hr⟩ := hq
    refine wo_step (v := (.b c10)) (s_call (mc rfl (mc rfl mn)) (callM_le hM.call e10)) ?_
    refine wo_nil ?_
    refine nx_norm ?_
    have hq := cond_inv hr
    clear hr
    rcases hq with ⟨rfl, hr⟩ | ⟨rfl, hr⟩
    · refine w_condT rfl ?_
      refine w_seq ?_
      refine w_ops ?_
      refine wo_step (v := (.i .i64 1)) (s_pure (p_mv rfl)) ?_
      refine wo_step (v := (.i .i64 0)) (s_pure (p_mv rfl)) ?_
      refine wo_nil ?_
      refine nx_norm ?_
      refine w_ret ?_
      refine nx_ret ?_
      exact qf ret_ok (rt rfl (rt rfl rn)) hr
    · refine w_condF rfl ?_
      refine w_skip ?_
      refine nx_norm ?_
      refine w_seq ?_
      refine w_ops ?_
      refine wo_step (v := (.i .i64 0)) (s_pure (p_mv rfl)) ?_
      refine wo_step (v := (.i .i64 0)) (s_pure (p_mv rfl)) ?_
      refine wo_nil ?_
      refine nx_norm ?_
      refine w_ret ?_
      exact qf ret_ok (rt rfl (rt rfl rn)) hr

/- dibber/dibberref09.Letter -/

def g28 (M : Means) (ro : List ABlk) (x0 : Int) (m0 : Mm) : Option (AVal × Heap × Nat × Nat) :=
  bindP (callM M.call m0 53 [(.i .i64 x0)]) fun v6 m_1 =>
  asB v6 fun c6 =>
  forceB (!c6) fun c7 =>
  cond c7 (
    finM m0.h.length (tupA [(.i .i64 0), (.i .i64 4)]) m_1) (
    bindP (callM M.call m_1 54 [(.i .i64 x0)]) fun v9 m_2 =>
    asS v9 fun s9 =>
    bindO (evP .e (.len true (.c (.s s9)))) fun v12 =>
    asI .i64 v12 fun x12 =>
    forceI (wr .i64 (x12 - 1)) fun x13 =>
    bindO (evP .e (.ixStr (.c (.s s9)) (.c (.i .i64 x13)))) fun v14 =>
    asI .u8 v14 fun x14 =>
    forceI (wr .u8 (x14 - 48)) fun x15 =>
    forceI (wr .i64 x15) fun x16 =>
    finM m0.h.length (tupA [(.i .i64 x16), (.i .i64 0)]) m_2)

theorem g28_ok {ro : List ABlk} {O : Caller} {M : Means} (hM : M.Ok ⟨F, O⟩ ro) {x0 h r} (ho : O 28 [(.i .i64 x0)] h = none) (hr : g28 M ro x0 ⟨h, h.length, h.length⟩ = some r) : callX ⟨F, O⟩ ro 28 [(.i .i64 x0)] h = some r := by
  refine callX_of (F := ⟨F, O⟩) (fn := fn28) (g := g28 M ro x0) ho rfl rfl hr ?_
  clear ho
  clear hr
  intro m0 t0 ht hr
  have g0 : t0.get 0 = (.i .i64 x0) := ht 0
  clear ht
  unfold g28 at hr
  refine w_seq ?_
  refine w_ops ?_
  refine wo_step (v := (.i .i64 0)) (s_pure (p_mv rfl)) ?_
  refine wo_step (v := (.i .i64 0)) (s_pure (p_mv rfl)) ?_
  refine wo_nil ?_
  refine nx_norm ?_
  refine w_seq ?_
  refine w_seq ?_
  refine w_ops ?_
  refine wo_step (v := (.i .i64 x0)) (s_pure (p_mv g0)) ?_
  have hq := bindP_inv hr
  clear hr
  obtain ⟨v6, m_1, e6, hr⟩ := hq
  have hq := asB_inv hr
  clear hr
  obtain ⟨c6, rfl, hr⟩ := hq
  refine wo_step (v := (.b c6)) (s_call (mc rfl mn) (callM_le hM.call e6)) ?_
  have hq := forceB_inv hr
  clear hr
  obtain ⟨c7, e7, hr⟩ := hq
  refine wo_step (v := (.b c7)) (s_pure ((p_not rfl).trans (cb e7))) ?_
  refine wo_nil ?_
  refine nx_norm ?_
  have hq := cond_inv hr
  clear hr
  rcases hq with ⟨rfl, hr⟩ | ⟨rfl, hr⟩
  · refine w_condT rfl ?_
    refine w_seq ?_
    refine w_ops ?_
    refine wo_step (v := (.i .i64 0)) (s_pure (p_mv rfl)) ?_
    refine wo_step (v := (.i .i64 4)) (s_pure (p_mv rfl)) ?_
    refine wo_nil ?_
    refine nx_norm ?_
    refine w_ret ?_
    refine nx_ret ?_
    exact qf ret_ok (rt rfl (rt rfl rn)) hr
  · refine w_condF rfl ?_
    refine w_skip ?_
    refine nx_norm ?_
    refine w_seq ?_
    refine w_ops ?_
    refine wo_step (v := (.i .i64 x0)) (s_pure (p_mv g0)) ?_
    have hq := bindP_inv hr
    clear hr
    obtain ⟨v9, m_2, e9, hr⟩ := hq
    have hq := asS_inv hr
    clear hr
    obtain ⟨s9, rfl, hr⟩ := hq
    refine wo_step (v := (.s s9)) (s_call (mc rfl mn) (callM_le hM.call e9)) ?_
    refine wo_step (v := (.s s9)) (s_pure (p_mv rfl)) ?_
    refine wo_nil ?_
    refine nx_norm ?_
    refine w_seq ?_
    refine w_ops ?_
    refine wo_step (v := (.s s9)) (s_pure (p_mv rfl)) ?_
    refine wo_step (v := (.s s9)) (s_pure (p_mv rfl)) ?_
    have hq := bindO_inv hr
    clear hr
    obtain ⟨v12, e12, hr⟩ := hq
    have hq := asI_inv hr
    clear hr
    obtain ⟨x12, rfl, hr⟩ := hq
    refine wo_step (v := (.i .i64 x12)) (s_pure (o_len rfl e12)) ?_
    have hq := forceI_inv hr
    clear hr
    obtain ⟨x13, e13, hr⟩ := hq
    refine wo_step (v := (.i .i64 x13)) (s_pure (p_bin rfl rfl (b_sub.trans (ci e13)))) ?_
    have hq := bindO_inv hr
    clear hr
    obtain ⟨v14, e14, hr⟩ := hq
    have hq := asI_inv hr
    clear hr
    obtain ⟨x14, rfl, hr⟩ := hq
    refine wo_step (v := (.i .u8 x14)) (s_pure (o_ixStr rfl rfl e14)) ?_
    have hq := forceI_inv hr
    clear hr
    obtain ⟨x15, e15, hr⟩ := hq
    refine wo_step (v := (.i .u8 x15)) (s_pure (p_bin rfl rfl (b_sub.trans (ci e15)))) ?_
    have hq := forceI_inv hr
    clear hr
    obtain ⟨x16, e16, hr⟩ := hq
    refine wo_step (v := (.i .i64 x16)) (s_pure ((p_conv rfl).trans (ci e16))) ?_
    refine wo_step (v := (.i .i64 x16)) (s_pure (p_mv rfl)) ?_
    refine wo_step (v := (.i .i64 0)) (s_pure (p_mv rfl)) ?_
    refine wo_nil ?_
    refine nx_norm ?_
    refine w_ret ?_
    exact qf ret_ok (rt rfl (rt rfl rn)) hr

/- dibber/dibberref09.Fib -/
abbrev g50_I0 (x0 : Int) (s : Int × Int × Int × Mm) (m1 : Mm) (t1 : Tr) : Prop :=
  match s with
  | (x4, x5, x6, m_2) => m_2 = m1 ∧ t1.get 4 = (.i .i64 x4) ∧ t1.get 5 = (.i .i64 x5) ∧ t1.get 6 = (.i .i64 x6) ∧ t1.get 0 = (.i .i64 x0)
abbrev g50_J0 (x0 : Int) (o : (Int × Mm)) (e : AExit) (m1 : Mm) (t1 : Tr) : Prop :=
  match o with
  | (y4, mo) => e = (.exit 0) ∧ mo = m1 ∧ t1.get 4 = (.i .i64 y4)
def g50_b0 (M : Means) (ro : List ABlk) (x0 : Int) (x4 : Int) (x5 : Int) (x6 : Int) (m_2 : Mm) : Option ((Int × Int × Int × Mm) ⊕ ((Int × Mm))) :=
  forceB (ltI x6 x0) fun c21 =>
  cond c21 (
    bindP (callM M.call m_2 65 [(.i .i64 x4), (.i .i64 x5)]) fun v26 m_3 =>
    asI .i64 v26 fun x26 =>
    forceI (wr .i64 (x6 + 1)) fun x23 =>
    some (.inl (x5, x26, x23, m_3))) (
    some (.inr (x4, m_2)))
def g50 (M : Means) (ro : List ABlk) (x0 : Int) (m0 : Mm) : Option (AVal × Heap × Nat × Nat) :=
  forceB (ltI x0 0) fun c9 =>
  cond c9 (
    forceI (wr .i64 (0 - x0)) fun x11 =>
    bindP (callM M.call m0 50 [(.i .i64 x11)]) fun v12 m_1 =>
    asI .i64 v12 fun x12 =>
    forceI (Int.tmod x0 2) fun x14 =>
    forceB (eqI x14 0) fun c15 =>
    cond c15 (
      forceI (wr .i64 (0 - x12)) fun x17 =>
      finM m0.h.length (tupA [(.i .i64 x17)]) m_1) (
      finM m0.h.length (tupA [(.i .i64 x12)]) m_1)) (
    bindO (M.loop (S := Int × Int × Int × Mm) (R := (Int × Mm)) (fun s => g50_b0 M ro x0 s.1 s.2.1 s.2.2.1 s.2.2.2) (0, 1, 0, m0)) fun ⟨x4_1, m_4⟩ =>
    finM m0.h.length (tupA [(.i .i64 x4_1)]) m_4)

theorem g50_ok {ro : List ABlk} {O : Caller} {M : Means} (hM : M.Ok ⟨F, O⟩ ro) {x0 h r} (ho : O 50 [(.i .i64 x0)] h = none) (hr : g50 M ro x0 ⟨h, h.length, h.length⟩ = some r) : callX ⟨F, O⟩ ro 50 [(.i .i64 x0)] h = some r := by
  refine callX_of (F := ⟨F, O⟩) (fn := fn50) (g := g50 M ro x0) ho rfl rfl hr ?_
  clear ho
  clear hr
  intro m0 t0 ht hr
  have g0 : t0.get 0 = (.i .i64 x0) := ht 0
  clear ht
  unfold g50 at hr
  refine w_seq ?_
  refine w_ops ?_
  refine wo_step (v := (.i .i64 0)) (s_pure (p_mv rfl)) ?_
  refine wo_nil ?_
  refine nx_norm ?_
  refine w_seq ?_
  refine w_seq ?_
  refine w_ops ?_
  refine wo_step (v := (.i .i64 x0)) (s_pure (p_mv g0)) ?_
  have hq := forceB_inv hr
  clear hr
  obtain ⟨c9, e9, hr⟩ := hq
  refine wo_step (v := (.b c9)) (s_pure (p_bin rfl rfl (b_lss.trans (cb e9)))) ?_
  refine wo_nil ?_
  refine nx_norm ?_
  have hq := cond_inv hr
  clear hr
  rcases hq with ⟨rfl, hr⟩ | ⟨rfl, hr⟩
  · refine w_condT rfl ?_
    refine w_seq ?_
    refine w_ops ?_
    refine wo_step (v := (.i .i64 x0)) (s_pure (p_mv g0)) ?_
    have hq := forceI_inv hr
    clear hr
    obtain ⟨x11, e11, hr⟩ := hq
    refine wo_step (v := (.i .i64 x11)) (s_pure ((p_neg rfl).trans (ci e11))) ?_
    have hq := bindP_inv hr
    clear hr
    obtain ⟨v12, m_1, e12, hr⟩ := hq
    have hq := asI_inv hr
    clear hr
    obtain ⟨x12, rfl, hr⟩ := hq
    refine wo_step (v := (.i .i64 x12)) (s_call (mc rfl mn) (callM_le hM.call e12)) ?_
    refine wo_step (v := (.i .i64 x12)) (s_pure (p_mv rfl)) ?_
    refine wo_nil ?_
    refine nx_norm ?_
    refine w_seq ?_
    refine w_seq ?_
    refine w_ops ?_
    refine wo_step (v := (.i .i64 x0)) (s_pure (p_mv g0)) ?_
    have hq := forceI_inv hr
    clear hr
    obtain ⟨x14, e14, hr⟩ := hq
    refine wo_step (v := (.i .i64 x14)) (s_pure (p_bin rfl rfl ((b_rem rfl).trans (ci e14)))) ?_
    have hq := forceB_inv hr
    clear hr
    obtain ⟨c15, e15, hr⟩ := hq
    refine wo_step (v := (.b c15)) (s_pure (p_bin rfl rfl (b_eql.trans (cb e15)))) ?_
    refine wo_nil ?_
    refine nx_norm ?_
    have hq := cond_inv hr
    clear hr
    rcases hq with ⟨rfl, hr⟩ | ⟨rfl, hr⟩
    · refine w_condT rfl ?_
      refine w_seq ?_
      refine w_ops ?_
      refine wo_step (v := (.i .i64 x12)) (s_pure (p_mv rfl)) ?_
      have hq := forceI_inv hr
      clear hr
      obtain ⟨x17, e17, hr⟩ := hq
      refine wo_step (v := (.i .i64 x17)) (s_pure ((p_neg rfl).trans (ci e17))) ?_
      refine wo_step (v := (.i .i64 x17)) (s_pure (p_mv rfl)) ?_
      refine wo_nil ?_
      refine nx_norm ?_
      refine w_ret ?_
      refine nx_ret ?_
      refine nx_ret ?_
      exact qf ret_ok (rt rfl rn) hr
    · refine w_condF rfl ?_
      refine w_skip ?_
      refine nx_norm ?_
      refine w_seq ?_
      refine w_ops ?_
      refine wo_step (v := (.i .i64 x12)) (s_pure (p_mv rfl)) ?_
      refine wo_step (v := (.i .i64 x12)) (s_pure (p_mv rfl)) ?_
      refine wo_nil ?_
      refine nx_norm ?_
      refine w_ret ?_
      refine nx_ret ?_
      exact qf ret_ok (rt rfl rn) hr
  · refine w_condF rfl ?_
    refine w_skip ?_
    refine nx_norm ?_
    refine w_seq ?_
    refine w_ops ?_
    refine wo_step (v := (.i .i64 0)) (s_pure (p_mv rfl)) ?_
    refine wo_step (v := (.i .i64 1)) (s_pure (p_mv rfl)) ?_
    refine wo_nil ?_
    refine nx_norm ?_
    refine w_seq ?_
    refine w_seq ?_
    refine w_ops ?_
    refine wo_step (v := (.i .i64 0)) (s_pure (p_mv rfl)) ?_
    refine wo_nil ?_
    refine nx_norm ?_
    refine w_block ?_
    have hq := bindO_inv hr
    clear hr
    obtain ⟨o, hl, hr⟩ := hq
    obtain ⟨n, hl⟩ := hM.loop _ _ _ hl
    refine jp_mono (w_loop _ (g50_I0 x0) (g50_J0 x0) ?_ n _ _ _ _ hl ⟨rfl, gl rfl, gl rfl, gl rfl, gl g0⟩) ?_
    · clear hr hl
      intro s mm_1 t_1 o hi hr
      obtain ⟨x4, x5, x6, m_2⟩ := s
      obtain ⟨rfl, g4, g5, g6, g0⟩ := hi
      unfold g50_b0 at hr
      refine w_seq ?_
      refine w_seq ?_
      refine w_ops ?_
      refine wo_step (v := (.i .i64 x6)) (s_pure (p_mv g6)) ?_
      refine wo_step (v := (.i .i64 x0)) (s_pure (p_mv g0)) ?_
      have hq := forceB_inv hr
      clear hr
      obtain ⟨c21, e21, hr⟩ := hq
      refine wo_step (v := (.b c21)) (s_pure (p_bin rfl rfl (b_lss.trans (cb e21)))) ?_
      refine wo_nil ?_
      refine nx_norm ?_
      have hq := cond_inv hr
      clear hr
      rcases hq with ⟨rfl, hr⟩ | ⟨rfl, hr⟩
      · refine w_condT rfl ?_
        refine w_skip ?_
        refine nx_norm ?_
        refine w_seq ?_
        refine w_block ?_
        refine w_seq ?_
        refine w_ops ?_
        refine wo_step (v := (.i .i64 x4)) (s_pure (p_mv g4)) ?_
        refine wo_step (v := (.i .i64 x5)) (s_pure (p_mv g5)) ?_
        have hq := bindP_inv hr
        clear hr
        obtain ⟨v26, m_3, e26, hr⟩ := hq
        have hq := asI_inv hr
        clear hr
        obtain ⟨x26, rfl, hr⟩ := hq
        refine wo_step (v := (.i .i64 x26)) (s_call (mc rfl (mc rfl mn)) (callM_le hM.call e26)) ?_
        refine wo_step (v := (.i .i64 x26)) (s_pure (p_mv rfl)) ?_
        refine wo_nil ?_
        refine nx_norm ?_
        refine w_seq ?_
        refine w_ops ?_
        refine wo_step (v := (.i .i64 x5)) (s_pure (p_mv g5)) ?_
        refine wo_step (v := (.i .i64 x5)) (s_pure (p_mv rfl)) ?_
        refine wo_nil ?_
        refine nx_norm ?_
        refine w_ops ?_
        refine wo_step (v := (.i .i64 x26)) (s_pure (p_mv rfl)) ?_
        refine wo_step (v := (.i .i64 x26)) (s_pure (p_mv rfl)) ?_
        refine wo_nil ?_
        refine bk_norm ?_
        refine nx_norm ?_
        refine w_ops ?_
        refine wo_step (v := (.i .i64 x6)) (s_pure (p_mv g6)) ?_
        have hq := forceI_inv hr
        clear hr
        obtain ⟨x23, e23, hr⟩ := hq
        refine wo_step (v := (.i .i64 x23)) (s_pure (p_bin rfl rfl (b_add.trans (ci e23)))) ?_
        refine wo_step (v := (.i .i64 x23)) (s_pure (p_mv rfl)) ?_
        refine wo_nil ?_
        cases hr
        exact ⟨_, _, rfl, rfl, rfl, gl rfl, gl rfl, gl rfl, gl g0⟩
      · refine w_condF rfl ?_
        refine w_exit ?_
        refine nx_exit ?_
        cases hr
        exact ⟨_, _, rfl, ne_norm_exit, rfl, rfl, gl g4⟩
    · obtain ⟨x4_1, m_4⟩ := o
      rintro _ mm t_2 ⟨rfl, rfl, g4⟩
      refine bk_hit ?_
      refine nx_norm ?_
      refine w_seq ?_
      refine w_ops ?_
      refine wo_step (v := (.i .i64 x4_1)) (s_pure (p_mv g4)) ?_
      refine wo_step (v := (.i .i64 x4_1)) (s_pure (p_mv rfl)) ?_
      refine wo_nil ?_
      refine nx_norm ?_
      refine w_ret ?_
      exact qf ret_ok (rt rfl rn) hr

/- dibber/seed.areNumbers -/
abbrev g51_I0 (v0 : AVal) (x6 : Int) (m0 : Mm) (s : Int) (m1 : Mm) (t1 : Tr) : Prop :=
  match s with
  | x7 => m0 = m1 ∧ t1.get 7 = (.i .i64 x7) ∧ t1.get 5 = v0 ∧ t1.get 6 = (.i .i64 x6)
abbrev g51_J0 (v0 : AVal) (x6 : Int) (m0 : Mm) (o : (Unit ⊕ Bool)) (e : AExit) (m1 : Mm) (t1 : Tr) : Prop :=
  match o with
  | (.inl _) => e = (.exit 0) ∧ m0 = m1
  | (.inr y2) => e = .ret ∧ m0 = m1 ∧ t1.get 2 = (.b y2)
abbrev g51_J1 (v0 : AVal) (x6 : Int) (x7 : Int) (m0 : Mm) (o : Bool) (m1 : Mm) (t1 : Tr) : Prop :=
  match o with
  | c16 => m0 = m1 ∧ t1.get 16 = (.b c16) ∧ t1.get 5 = v0 ∧ t1.get 6 = (.i .i64 x6) ∧ t1.get 7 = (.i .i64 x7)
def g51_b0 (M : Means) (ro : List ABlk) (v0 : AVal) (x6 : Int) (m0 : Mm) (x7 : Int) : Option ((Int) ⊕ ((Unit ⊕ Bool))) :=
  forceB (ltI x7 x6) fun c8 =>
  cond c8 (
    bindO (evP .e (.ixS 1 (.c v0) (.c (.i .i64 x7)))) fun v9 =>
    bindO (ldM ro m0 true 1 v9) fun v10 =>
    asI .i64 v10 fun x10 =>
    forceB (ltI x10 0) fun c12 =>
    bindO (cond c12 (
      some true) (
      forceB (ltI 1152921504606846976 x10) fun c15 =>
      some c15)) fun c16 =>
    cond c16 (
      some (.inr (.inr false))) (
      forceI (wr .i64 (x7 + 1)) fun x17 =>
      some (.inl x17))) (
    some (.inr (.inl ())))
def g51 (M : Means) (ro : List ABlk) (v0 : AVal) (m0 : Mm) : Option (AVal × Heap × Nat × Nat) :=
  bindO (evP .e (.len false (.c v0))) fun v6 =>
  asI .i64 v6 fun x6 =>
  bindO (M.loop (S := Int) (R := (Unit ⊕ Bool)) (fun s => g51_b0 M ro v0 x6 m0 s) 0) fun o_1 => match o_1 with
  | (.inl _) =>
    finM m0.h.length (tupA [(.b true)]) m0
  | (.inr c2) =>
    finM m0.h.length (tupA [(.b c2)]) m0

theorem g51_ok {ro : List ABlk} {O : Caller} {M : Means} (hM : M.Ok ⟨F, O⟩ ro) {v0 h r} (ho : O 51 [v0] h = none) (hr : g51 M ro v0 ⟨h, h.length, h.length⟩ = some r) : callX ⟨F, O⟩ ro 51 [v0] h = some r := by
  refine callX_of (F := ⟨F, O⟩) (fn := fn51) (g := g51 M ro v0) ho rfl rfl hr ?_
  clear ho
  clear hr
  intro m0 t0 ht hr
  have g0 : t0.get 0 = v0 := ht 0
  clear ht
  unfold g51 at hr
  refine w_seq ?_
  refine w_ops ?_
  refine wo_step (v := (.b false)) (s_pure (p_mv rfl)) ?_
  refine wo_nil ?_
  refine nx_norm ?_
  refine w_seq ?_
  refine w_seq ?_
  refine w_ops ?_
  refine wo_step (v := v0) (s_pure (p_mv g0)) ?_
  have hq := bindO_inv hr
  clear hr
  obtain ⟨v6, e6, hr⟩ := hq
  have hq := asI_inv hr
  clear hr
  obtain ⟨x6, rfl, hr⟩ := hq
  refine wo_step (v := (.i .i64 x6)) (s_pure (o_len rfl e6)) ?_
  refine wo_step (v := (.i .i64 0)) (s_pure (p_mv rfl)) ?_
  refine wo_nil ?_
  refine nx_norm ?_
  refine w_block ?_
  have hq := bindO_inv hr
  clear hr
  obtain ⟨o_1, hl, hr⟩ := hq
  obtain ⟨n, hl⟩ := hM.loop _ _ _ hl
  refine jp_mono (w_loop _ (g51_I0 v0 x6 m0) (g51_J0 v0 x6 m0) ?_ n _ _ _ _ hl ⟨rfl, gl rfl, gl rfl, gl rfl⟩) ?_
  · clear hr hl
    intro s mm_3 t_1 o hi hr
    obtain ⟨x7, hs⟩ : ∃ z, z = s := ⟨_, rfl⟩
    subst hs
    obtain ⟨rfl, g7, g5, g6⟩ := hi
    unfold g51_b0 at hr
    refine w_seq ?_
    refine w_ops ?_
    have hq := forceB_inv hr
    clear hr
    obtain ⟨c8, e8, hr⟩ := hq
    refine wo_step (v := (.b c8)) (s_pure (p_bin g7 g6 (b_lss.trans (cb e8)))) ?_
    refine wo_nil ?_
    refine nx_norm ?_
    refine w_seq ?_
    have hq := cond_inv hr
    clear hr
    rcases hq with ⟨rfl, hr⟩ | ⟨rfl, hr⟩
    · refine w_condT rfl ?_
      refine w_skip ?_
      refine nx_norm ?_
      refine w_seq ?_
      refine w_block ?_
      refine w_seq ?_
      refine w_ops ?_
      have hq := bindO_inv hr
      clear hr
      obtain ⟨v9, e9, hr⟩ := hq
      refine wo_step (v := v9) (s_pure (o_ixS g5 g7 e9)) ?_
      have hq := bindO_inv hr
      clear hr
      obtain ⟨v10, e10, hr⟩ := hq
      have hq := asI_inv hr
      clear hr
      obtain ⟨x10, rfl, hr⟩ := hq
      refine wo_step (v := (.i .i64 x10)) (s_ld rfl e10) ?_
      refine wo_step (v := (.i .i64 x10)) (s_pure (p_mv rfl)) ?_
      refine wo_nil ?_
      refine nx_norm ?_
      refine w_seq ?_
      refine w_ops ?_
      refine wo_step (v := (.i .i64 x10)) (s_pure (p_mv rfl)) ?_
      have hq := forceB_inv hr
      clear hr
      obtain ⟨c12, e12, hr⟩ := hq
      refine wo_step (v := (.b c12)) (s_pure (p_bin rfl rfl (b_lss.trans (cb e12)))) ?_
      refine wo_step (v := (.b c12)) (s_pure (p_mv rfl)) ?_
      have hq := bindO_inv hr
      clear hr
      obtain ⟨o, hr, hk⟩ := hq
      refine wo_join 3 (g51_J1 v0 x6 x7 m0 o) ?_ ?_
      · clear hk
        have hq := cond_inv hr
        clear hr
        rcases hq with ⟨rfl, hr⟩ | ⟨rfl, hr⟩
        · refine wo_skip (v := (.b true)) rfl rfl ?_
          refine wo_skip (v := (.b true)) rfl rfl ?_
          refine wo_step (v := (.b true)) (s_pure (p_pickT rfl rfl)) ?_
          refine wo_nil ?_
          cases hr
          exact ⟨_, _, rfl, rfl, gl rfl, gl g5, gl g6, gl g7⟩
        · refine wo_take (v := (.i .i64 x10)) rfl (s_pure (p_mv rfl)) ?_
          have hq := forceB_inv hr
          clear hr
          obtain ⟨c15, e15, hr⟩ := hq
          refine wo_take (v := (.b c15)) rfl (s_pure (p_bin rfl rfl (b_gtr.trans (cb e15)))) ?_
          refine wo_step (v := (.b c15)) (s_pure (p_pickF rfl rfl)) ?_
          refine wo_nil ?_
          cases hr
          exact ⟨_, _, rfl, rfl, gl rfl, gl g5, gl g6, gl g7⟩
      · clear hr
        have hr := hk
        clear hk
        obtain ⟨c16, ho⟩ : ∃ z, z = o := ⟨_, rfl⟩
        subst ho
        rintro mm t_2 ⟨rfl, g16, g5, g6, g7⟩
        refine wo_nil ?_
        refine nx_norm ?_
        have hq := cond_inv hr
        clear hr
        rcases hq with ⟨rfl, hr⟩ | ⟨rfl, hr⟩
        · refine w_condT g16 ?_
          refine w_seq ?_
          refine w_ops ?_
          refine wo_step (v := (.b false)) (s_pure (p_mv rfl)) ?_
          refine wo_nil ?_
          refine nx_norm ?_
          refine w_ret ?_
          refine bk_ret ?_
          refine nx_ret ?_
          cases hr
          exact ⟨_, _, rfl, ne_norm_ret, rfl, rfl, gl rfl⟩
        · refine w_condF g16 ?_
          refine w_skip ?_
          refine bk_norm ?_
          refine nx_norm ?_
          refine w_ops ?_
          have hq := forceI_inv hr
          clear hr
          obtain ⟨x17, e17, hr⟩ := hq
          refine wo_step (v := (.i .i64 x17)) (s_pure (p_bin g7 rfl (b_add.trans (ci e17)))) ?_
          refine wo_step (v := (.i .i64 x17)) (s_pure (p_mv rfl)) ?_
          refine wo_nil ?_
          cases hr
          exact ⟨_, _, rfl, rfl, rfl, gl rfl, gl g5, gl g6⟩
    · refine w_condF rfl ?_
      refine w_exit ?_
      refine nx_exit ?_
      cases hr
      exact ⟨_, _, rfl, ne_norm_exit, rfl, rfl⟩
  · rcases o_1 with o_1 | o_1
    · rintro _ mm_1 t_3 ⟨rfl, rfl⟩
      refine bk_hit ?_
      refine nx_norm ?_
      refine w_seq ?_
      refine w_ops ?_
      refine wo_step (v := (.b true)) (s_pure (p_mv rfl)) ?_
      refine wo_nil ?_
      refine nx_norm ?_
      refine w_ret ?_
      exact qf ret_ok (rt rfl rn) hr
    · obtain ⟨c2, ho⟩ : ∃ z, z = o_1 := ⟨_, rfl⟩
      subst ho
      rintro _ mm_2 t_4 ⟨rfl, rfl, g2⟩
      refine bk_ret ?_
      refine nx_ret ?_
      exact qf ret_ok (rt g2 rn) hr

/- dibber/seed.written -/
abbrev g52_I0 (x14 : Int) (v20 : AVal) (v11 : AVal) (x22 : Int) (s : Int × Mm) (m1 : Mm) (t1 : Tr) : Prop :=
  match s with
  | (x23, m_5) => m_5 = m1 ∧ t1.get 23 = (.i .i64 x23) ∧ t1.get 4 = (.i .i64 x14) ∧ t1.get 5 = v20 ∧ t1.get 21 = v11 ∧ t1.get 22 = (.i .i64 x22)
abbrev g52_J0 (x14 : Int) (v20 : AVal) (v11 : AVal) (x22 : Int) (o : Mm) (e : AExit) (m1 : Mm) (t1 : Tr) : Prop :=
  match o with
  | mo => e = (.exit 0) ∧ mo = m1 ∧ t1.get 5 = v20
def g52_b0 (M : Means) (ro : List ABlk) (x14 : Int) (v20 : AVal) (v11 : AVal) (x22 : Int) (x23 : Int) (m_5 : Mm) : Option ((Int × Mm) ⊕ (Mm)) :=
  forceB (ltI x23 x22) fun c24 =>
  cond c24 (
    bindO (evP .e (.ixS 1 (.c v11) (.c (.i .i64 x23)))) fun v25 =>
    bindO (ldM ro m_5 true 1 v25) fun v26 =>
    asI .i64 v26 fun x26 =>
    forceI (wr .i64 (x14 - x26)) fun x30 =>
    bindO (evP .e (.ixS 1 (.c v20) (.c (.i .i64 x30)))) fun v31 =>
    bindP (stepM ro m_5 (.st 1 (.c v31) (.c (.i .u8 49)))) fun vn m_6 =>
    forceI (wr .i64 (x23 + 1)) fun x32 =>
    some (.inl (x32, m_6))) (
    some (.inr m_5))
def g52 (M : Means) (ro : List ABlk) (x0 : Int) (m0 : Mm) : Option (AVal × Heap × Nat × Nat) :=
  forceB (eqI x0 0) fun c9 =>
  cond c9 (
    finM m0.h.length (tupA [(.s [48])]) m0) (
    bindP (callM M.call m0 60 [(.i .i64 x0)]) fun v11 m_1 =>
    bindO (evP .e (.ixS 1 (.c v11) (.c (.i .i64 0)))) fun v13 =>
    bindO (ldM ro m_1 true 1 v13) fun v14 =>
    asI .i64 v14 fun x14 =>
    bindP (stepM ro m_1 (.bsl 5 1 [(AVal.i IntKind.u8 0)] 1 [((0, 1), .c (.i .u8 48))])) fun v15 m_2 =>
    bindP (stepM ro m_2 (.mks (.c v15))) fun v16 m_3 =>
    forceI (wr .i64 (x14 - 2)) fun x18 =>
    forceI (wr .i64 (x18 + 1)) fun x19 =>
    bindP (callM M.call m_3 73 [v16, (.i .i64 x19)]) fun v20 m_4 =>
    bindO (evP .e (.len false (.c v11))) fun v22 =>
    asI .i64 v22 fun x22 =>
    bindO (M.loop (S := Int × Mm) (R := Mm) (fun s => g52_b0 M ro x14 v20 v11 x22 s.1 s.2) (0, m_4)) fun m_7 =>
    bindO (btsM ro m_7 v20) fun v34 =>
    asS v34 fun s34 =>
    finM m0.h.length (tupA [(.s s34)]) m_7)

theorem g52_ok {ro : List ABlk} {O : Caller} {M : Means} (hM : M.Ok ⟨F, O⟩ ro) {x0 h r} (ho : O 52 [(.i .i64 x0)] h = none) (hr : g52 M ro x0 ⟨h, h.length, h.length⟩ = some r) : callX ⟨F, O⟩ ro 52 [(.i .i64 x0)] h = some r := by
  refine callX_of (F := ⟨F, O⟩) (fn := fn52) (g := g52 M ro x0) ho rfl rfl hr ?_
  clear ho
  clear hr
  intro m0 t0 ht hr
  have g0 : t0.get 0 = (.i .i64 x0) := ht 0
  clear ht
  unfold g52 at hr
  refine w_seq ?_
  refine w_ops ?_
  refine wo_step (v := (AVal.s [])) (s_pure (p_mv rfl)) ?_
  refine wo_nil ?_
  refine nx_norm ?_
  refine w_seq ?_
  refine w_seq ?_
  refine w_ops ?_
  refine wo_step (v := (.i .i64 x0)) (s_pure (p_mv g0)) ?_
  have hq := forceB_inv hr
  clear hr
  obtain ⟨c9, e9, hr⟩ := hq
  refine wo_step (v := (.b c9)) (s_pure (p_bin rfl rfl (b_eql.trans (cb e9)))) ?_
  refine wo_nil ?_
  refine nx_norm ?_
  have hq := cond_inv hr
  clear hr
  rcases hq with ⟨rfl, hr⟩ | ⟨rfl, hr⟩
  · refine w_condT rfl ?_
    refine w_seq ?_
    refine w_ops ?_
    refine wo_step (v := (AVal.s [48])) (s_pure (p_mv rfl)) ?_
    refine wo_nil ?_
    refine nx_norm ?_
    refine w_ret ?_
    refine nx_ret ?_
    exact qf ret_ok (rt rfl rn) hr
  · refine w_condF rfl ?_
    refine w_skip ?_
    refine nx_norm ?_
    refine w_seq ?_
    refine w_ops ?_
    refine wo_step (v := (.i .i64 x0)) (s_pure (p_mv g0)) ?_
    have hq := bindP_inv hr
    clear hr
    obtain ⟨v11, m_1, e11, hr⟩ := hq
    refine wo_step (v := v11) (s_call (mc rfl mn) (callM_le hM.call e11)) ?_
    refine wo_step (v := v11) (s_pure (p_mv rfl)) ?_
    refine wo_nil ?_
    refine nx_norm ?_
    refine w_seq ?_
    refine w_ops ?_
    refine wo_step (v := v11) (s_pure (p_mv rfl)) ?_
    have hq := bindO_inv hr
    clear hr
    obtain ⟨v13, e13, hr⟩ := hq
    refine wo_step (v := v13) (s_pure (o_ixS rfl rfl e13)) ?_
    have hq := bindO_inv hr
    clear hr
    obtain ⟨v14, e14, hr⟩ := hq
    have hq := asI_inv hr
    clear hr
    obtain ⟨x14, rfl, hr⟩ := hq
    refine wo_step (v := (.i .i64 x14)) (s_ld rfl e14) ?_
    refine wo_step (v := (.i .i64 x14)) (s_pure (p_mv rfl)) ?_
    refine wo_nil ?_
    refine nx_norm ?_
    refine w_seq ?_
    refine w_ops ?_
    have hq := bindP_inv hr
    clear hr
    obtain ⟨v15, m_2, e15, hr⟩ := hq
    refine wo_step (v := v15) (s_bsl (qc rfl qn) e15) ?_
    have hq := bindP_inv hr
    clear hr
    obtain ⟨v16, m_3, e16, hr⟩ := hq
    refine wo_step (v := v16) (s_mks rfl e16) ?_
    refine wo_step (v := (.i .i64 x14)) (s_pure (p_mv rfl)) ?_
    have hq := forceI_inv hr
    clear hr
    obtain ⟨x18, e18, hr⟩ := hq
    refine wo_step (v := (.i .i64 x18)) (s_pure (p_bin rfl rfl (b_sub.trans (ci e18)))) ?_
    have hq := forceI_inv hr
    clear hr
    obtain ⟨x19, e19, hr⟩ := hq
    refine wo_step (v := (.i .i64 x19)) (s_pure (p_bin rfl rfl (b_add.trans (ci e19)))) ?_
    have hq := bindP_inv hr
    clear hr
    obtain ⟨v20, m_4, e20, hr⟩ := hq
    refine wo_step (v := v20) (s_call (mc rfl (mc rfl mn)) (callM_le hM.call e20)) ?_
    refine wo_step (v := v20) (s_pure (p_mv rfl)) ?_
    refine wo_nil ?_
    refine nx_norm ?_
    refine w_seq ?_
    refine w_seq ?_
    refine w_ops ?_
    refine wo_step (v := v11) (s_pure (p_mv rfl)) ?_
    have hq := bindO_inv hr
    clear hr
    obtain ⟨v22, e22, hr⟩ := hq
    have hq := asI_inv hr
    clear hr
    obtain ⟨x22, rfl, hr⟩ := hq
    refine wo_step (v := (.i .i64 x22)) (s_pure (o_len rfl e22)) ?_
    refine wo_step (v := (.i .i64 0)) (s_pure (p_mv rfl)) ?_
    refine wo_nil ?_
    refine nx_norm ?_
    refine w_block ?_
    have hq := bindO_inv hr
    clear hr
    obtain ⟨o, hl, hr⟩ := hq
    obtain ⟨n, hl⟩ := hM.loop _ _ _ hl
    refine jp_mono (w_loop _ (g52_I0 x14 v20 v11 x22) (g52_J0 x14 v20 v11 x22) ?_ n _ _ _ _ hl ⟨rfl, gl rfl, gl rfl, gl rfl, gl rfl, gl rfl⟩) ?_
    · clear hr hl
      intro s mm_1 t_1 o hi hr
      obtain ⟨x23, m_5⟩ := s
      obtain ⟨rfl, g23, g4, g5, g21, g22⟩ := hi
      unfold g52_b0 at hr
      refine w_seq ?_
      refine w_ops ?_
      have hq := forceB_inv hr
      clear hr
      obtain ⟨c24, e24, hr⟩ := hq
      refine wo_step (v := (.b c24)) (s_pure (p_bin g23 g22 (b_lss.trans (cb e24)))) ?_
      refine wo_nil ?_
      refine nx_norm ?_
      refine w_seq ?_
      have hq := cond_inv hr
      clear hr
      rcases hq with ⟨rfl, hr⟩ | ⟨rfl, hr⟩
      · refine w_condT rfl ?_
        refine w_skip ?_
        refine nx_norm ?_
        refine w_seq ?_
        refine w_block ?_
        refine w_seq ?_
        refine w_ops ?_
        have hq := bindO_inv hr
        clear hr
        obtain ⟨v25, e25, hr⟩ := hq
        refine wo_step (v := v25) (s_pure (o_ixS g21 g23 e25)) ?_
        have hq := bindO_inv hr
        clear hr
        obtain ⟨v26, e26, hr⟩ := hq
        have hq := asI_inv hr
        clear hr
        obtain ⟨x26, rfl, hr⟩ := hq
        refine wo_step (v := (.i .i64 x26)) (s_ld rfl e26) ?_
        refine wo_step (v := (.i .i64 x26)) (s_pure (p_mv rfl)) ?_
        refine wo_nil ?_
        refine nx_norm ?_
        refine w_ops ?_
        refine wo_step (v := v20) (s_pure (p_mv g5)) ?_
        refine wo_step (v := (.i .i64 x14)) (s_pure (p_mv g4)) ?_
        refine wo_step (v := (.i .i64 x26)) (s_pure (p_mv rfl)) ?_
        have hq := forceI_inv hr
        clear hr
        obtain ⟨x30, e30, hr⟩ := hq
        refine wo_step (v := (.i .i64 x30)) (s_pure (p_bin rfl rfl (b_sub.trans (ci e30)))) ?_
        have hq := bindO_inv hr
        clear hr
        obtain ⟨v31, e31, hr⟩ := hq
        refine wo_step (v := v31) (s_pure (o_ixS rfl rfl e31)) ?_
        have hq := bindP_inv hr
        clear hr
        obtain ⟨vn, m_6, en, hr⟩ := hq
        refine wo_stepN (s_st rfl rfl en) ?_
        refine wo_nil ?_
        refine bk_norm ?_
        refine nx_norm ?_
        refine w_ops ?_
        have hq := forceI_inv hr
        clear hr
        obtain ⟨x32, e32, hr⟩ := hq
        refine wo_step (v := (.i .i64 x32)) (s_pure (p_bin g23 rfl (b_add.trans (ci e32)))) ?_
        refine wo_step (v := (.i .i64 x32)) (s_pure (p_mv rfl)) ?_
        refine wo_nil ?_
        cases hr
        exact ⟨_, _, rfl, rfl, rfl, gl rfl, gl g4, gl g5, gl g21, gl g22⟩
      · refine w_condF rfl ?_
        refine w_exit ?_
        refine nx_exit ?_
        cases hr
        exact ⟨_, _, rfl, ne_norm_exit, rfl, rfl, gl g5⟩
    · obtain ⟨m_7, ho⟩ : ∃ z, z = o := ⟨_, rfl⟩
      subst ho
      rintro _ mm t_2 ⟨rfl, rfl, g5⟩
      refine bk_hit ?_
      refine nx_norm ?_
      refine w_seq ?_
      refine w_ops ?_
      refine wo_step (v := v20) (s_pure (p_mv g5)) ?_
      have hq := bindO_inv hr
      clear hr
      obtain ⟨v34, e34, hr⟩ := hq
      have hq := asS_inv hr
      clear hr
      obtain ⟨s34, rfl, hr⟩ := hq
      refine wo_step (v := (.s s34)) (s_bts rfl e34) ?_
      refine wo_step (v := (.s s34)) (s_pure (p_mv rfl)) ?_
      refine wo_nil ?_
      refine nx_norm ?_
      refine w_ret ?_
      exact qf ret_ok (rt rfl rn) hr

/- dibber/dibberref09.InRange -/
abbrev g53_J0 (m0 : Mm) (o : Bool) (m1 : Mm) (t1 : Tr) : Prop :=
  match o with
  | c8 => m0 = m1 ∧ t1.get 8 = (.b c8)
def g53 (M : Means) (ro : List ABlk) (x0 : Int) (m0 : Mm) : Option (AVal × Heap × Nat × Nat) :=
  forceB (!ltI x0 0) fun c4 =>
  bindO (cond c4 (
    forceB (!ltI 1152921504606846976 x0) fun c7 =>
    some c7) (
    some false)) fun c8 =>
  finM m0.h.length (tupA [(.b c8)]) m0

theorem g53_ok {ro : List ABlk} {O : Caller} {M : Means} (hM : M.Ok ⟨F, O⟩ ro) {x0 h r} (ho : O 53 [(.i .i64 x0)] h = none) (hr : g53 M ro x0 ⟨h, h.length, h.length⟩ = some r) : callX ⟨F, O⟩ ro 53 [(.i .i64 x0)] h = some r := by
  refine callX_of (F := ⟨F, O⟩) (fn := fn53) (g := g53 M ro x0) ho rfl rfl hr ?_
  clear ho
  clear hr
  intro m0 t0 ht hr
  have g0 : t0.get 0 = (.i .i64 x0) := ht 0
  clear ht
  unfold g53 at hr
  refine w_seq ?_
  refine w_ops ?_
  refine wo_step (v := (.b false)) (s_pure (p_mv rfl)) ?_
  refine wo_nil ?_
  refine nx_norm ?_
  refine w_seq ?_
  refine w_ops ?_
  refine wo_step (v := (.i .i64 x0)) (s_pure (p_mv g0)) ?_
  have hq := forceB_inv hr
  clear hr
  obtain ⟨c4, e4, hr⟩ := hq
  refine wo_step (v := (.b c4)) (s_pure (p_bin rfl rfl (b_geq.trans (cb e4)))) ?_
  refine wo_step (v := (.b c4)) (s_pure (p_mv rfl)) ?_
  have hq := bindO_inv hr
  clear hr
  obtain ⟨o, hr, hk⟩ := hq
  refine wo_join 3 (g53_J0 m0 o) ?_ ?_
  · clear hk
    have hq := cond_inv hr
    clear hr
    rcases hq with ⟨rfl, hr⟩ | ⟨rfl, hr⟩
    · refine wo_take (v := (.i .i64 x0)) rfl (s_pure (p_mv g0)) ?_
      have hq := forceB_inv hr
      clear hr
      obtain ⟨c7, e7, hr⟩ := hq
      refine wo_take (v := (.b c7)) rfl (s_pure (p_bin rfl rfl (b_leq.trans (cb e7)))) ?_
      refine wo_step (v := (.b c7)) (s_pure (p_pickT rfl rfl)) ?_
      refine wo_nil ?_
      cases hr
      exact ⟨_, _, rfl, rfl, gl rfl⟩
    · refine wo_skip (v := (.b false)) rfl rfl ?_
      refine wo_skip (v := (.b false)) rfl rfl ?_
      refine wo_step (v := (.b false)) (s_pure (p_pickF rfl rfl)) ?_
      refine wo_nil ?_
      cases hr
      exact ⟨_, _, rfl, rfl, gl rfl⟩
  · clear hr
    have hr := hk
    clear hk
    obtain ⟨c8, ho⟩ : ∃ z, z = o := ⟨_, rfl⟩
    subst ho
    rintro mm t_1 ⟨rfl, g8⟩
    refine wo_step (v := (.b c8)) (s_pure (p_mv g8)) ?_
    refine wo_nil ?_
    refine nx_norm ?_
    refine w_ret ?_
    exact qf ret_ok (rt rfl rn) hr

/- dibber/dibberref09.word -/
abbrev g54_I0 (v8 : AVal) (v16 : AVal) (s : Int × Mm) (m1 : Mm) (t1 : Tr) : Prop :=
  match s with
  | (x5, m_3) => m_3 = m1 ∧ t1.get 5 = (.i .i64 x5) ∧ t1.get 3 = v8 ∧ t1.get 4 = v16
abbrev g54_J0 (v8 : AVal) (v16 : AVal) (o : Mm) (e : AExit) (m1 : Mm) (t1 : Tr) : Prop :=
  match o with
  | mo => e = (.exit 0) ∧ mo = m1 ∧ t1.get 3 = v8 ∧ t1.get 4 = v16
def g54_b0 (M : Means) (ro : List ABlk) (v8 : AVal) (v16 : AVal) (x5 : Int) (m_3 : Mm) : Option ((Int × Mm) ⊕ (Mm)) :=
  bindO (evP .e (.len false (.c v16))) fun v19 =>
  asI .i64 v19 fun x19 =>
  forceB (ltI x5 x19) fun c20 =>
  cond c20 (
    bindO (evP .e (.ixS 1 (.c v16) (.c (.i .i64 x5)))) fun v25 =>
    bindP (stepM ro m_3 (.st 1 (.c v25) (.c (.i .u8 48)))) fun vn m_4 =>
    forceI (wr .i64 (x5 + 1)) fun x22 =>
    some (.inl (x22, m_4))) (
    some (.inr m_3))
abbrev g54_I1 (v8 : AVal) (v16 : AVal) (s : Int × Mm) (m1 : Mm) (t1 : Tr) : Prop :=
  match s with
  | (x6, m_6) => m_6 = m1 ∧ t1.get 6 = (.i .i64 x6) ∧ t1.get 3 = v8 ∧ t1.get 4 = v16
abbrev g54_J1 (v8 : AVal) (v16 : AVal) (o : Mm) (e : AExit) (m1 : Mm) (t1 : Tr) : Prop :=
  match o with
  | mo => e = (.exit 2) ∧ mo = m1 ∧ t1.get 4 = v16
def g54_b1 (M : Means) (ro : List ABlk) (v8 : AVal) (v16 : AVal) (x6 : Int) (m_6 : Mm) : Option ((Int × Mm) ⊕ (Mm)) :=
  bindO (evP .e (.len false (.c v8))) fun v28 =>
  asI .i64 v28 fun x28 =>
  forceB (ltI x6 x28) fun c29 =>
  cond c29 (
    bindO (evP .e (.ixS 1 (.c v8) (.c (.i .i64 0)))) fun v34 =>
    bindO (ldA ro m_6.h true 1 v34) fun v35 =>
    asI .i64 v35 fun x35 =>
    bindO (evP .e (.ixS 1 (.c v8) (.c (.i .i64 x6)))) fun v38 =>
    bindO (ldA ro m_6.h true 1 v38) fun v39 =>
    asI .i64 v39 fun x39 =>
    forceI (wr .i64 (x35 - x39)) fun x40 =>
    bindO (evP .e (.ixS 1 (.c v16) (.c (.i .i64 x40)))) fun v41 =>
    asP v41 fun qs =>
    bindO (writesM ro [] [(qs, AVal.cells (.i .u8 49))] ⟨m_6.h, m_6.lw, m_6.lp⟩) fun m_7 =>
    forceI (wr .i64 (x6 + 1)) fun x31 =>
    some (.inl (x31, m_7))) (
    some (.inr m_6))
def g54 (M : Means) (ro : List ABlk) (x0 : Int) (m0 : Mm) : Option (AVal × Heap × Nat × Nat) :=
  bindP (callM M.call m0 64 [(.i .i64 x0)]) fun v8 m_1 =>
  bindO (evP .e (.len false (.c v8))) fun v10 =>
  asI .i64 v10 fun x10 =>
  forceB (eqI x10 0) fun c11 =>
  cond c11 (
    finM m0.h.length (tupA [(.s [48])]) m_1) (
    bindO (evP .e (.ixS 1 (.c v8) (.c (.i .i64 0)))) fun v13 =>
    bindO (ldM ro m_1 true 1 v13) fun v14 =>
    asI .i64 v14 fun x14 =>
    forceI (wr .i64 (x14 - 1)) fun x15 =>
    bindP (stepM ro m_1 (.mk 5 1 1 [(AVal.i IntKind.u8 0)] (.c (.i .i64 x15)) (.c (.i .i64 x15)))) fun v16 m_2 =>
    bindO (M.loop (S := Int × Mm) (R := Mm) (fun s => g54_b0 M ro v8 v16 s.1 s.2) (0, m_2)) fun m_5 =>
    bindO (M.loop (S := Int × Mm) (R := Mm) (fun s => g54_b1 M ro v8 v16 s.1 s.2) (0, m_5)) fun m_8 =>
    bindO (btsM ro m_8 v16) fun v43 =>
    asS v43 fun s43 =>
    finM m0.h.length (tupA [(.s s43)]) m_8)

theorem g54_ok {ro : List ABlk} {O : Caller} {M : Means} (hM : M.Ok ⟨F, O⟩ ro) {x0 h r} (ho : O 54 [(.i .i64 x0)] h = none) (hr : g54 M ro x0 ⟨h, h.length, h.length⟩ = some r) : callX ⟨F, O⟩ ro 54 [(.i .i64 x0)] h = some r := by
  refine callX_of (F := ⟨F, O⟩) (fn := fn54) (g := g54 M ro x0) ho rfl rfl hr ?_
  clear ho
  clear hr
  intro m0 t0 ht hr
  have g0 : t0.get 0 = (.i .i64 x0) := ht 0
  clear ht
  unfold g54 at hr
  refine w_seq ?_
  refine w_ops ?_
  refine wo_step (v := (AVal.s [])) (s_pure (p_mv rfl)) ?_
  refine wo_nil ?_
  refine nx_norm ?_
  refine w_seq ?_
  refine w_ops ?_
  refine wo_step (v := (.i .i64 x0)) (s_pure (p_mv g0)) ?_
  have hq := bindP_inv hr
  clear hr
  obtain ⟨v8, m_1, e8, hr⟩ := hq
  refine wo_step (v := v8) (s_call (mc rfl mn) (callM_le hM.call e8)) ?_
  refine wo_step (v := v8) (s_pure (p_mv rfl)) ?_
  refine wo_nil ?_
  refine nx_norm ?_
  refine w_seq ?_
  refine w_seq ?_
  refine w_ops ?_
  refine wo_step (v := v8) (s_pure (p_mv rfl)) ?_
  have hq := bindO_inv hr
  clear hr
  obtain ⟨v10, e10, hr⟩ := hq
  have hq := asI_inv hr
  clear hr
  obtain ⟨x10, rfl, hr⟩ := hq
  refine wo_step (v := (.i .i64 x10)) (s_pure (o_len rfl e10)) ?_
  have hq := forceB_inv hr
  clear hr
  obtain ⟨c11, e11, hr⟩ := hq
  refine wo_step (v := (.b c11)) (s_pure (p_bin rfl rfl (b_eql.trans (cb e11)))) ?_
  refine wo_nil ?_
  refine nx_norm ?_
  have hq := cond_inv hr
  clear hr
  rcases hq with ⟨rfl, hr⟩ | ⟨rfl, hr⟩
  · refine w_condT rfl ?_
    refine w_seq ?_
    refine w_ops ?_
    refine wo_step (v := (AVal.s [48])) (s_pure (p_mv rfl)) ?_
    refine wo_nil ?_
    refine nx_norm ?_
    refine w_ret ?_
    refine nx_ret ?_
    exact qf ret_ok (rt rfl rn) hr
  · refine w_condF rfl ?_
    refine w_skip ?_
    refine nx_norm ?_
    refine w_seq ?_
    refine w_ops ?_
    refine wo_step (v := v8) (s_pure (p_mv rfl)) ?_
    have hq := bindO_inv hr
    clear hr
    obtain ⟨v13, e13, hr⟩ := hq
    refine wo_step (v := v13) (s_pure (o_ixS rfl rfl e13)) ?_
    have hq := bindO_inv hr
    clear hr
    obtain ⟨v14, e14, hr⟩ := hq
    have hq := asI_inv hr
    clear hr
    obtain ⟨x14, rfl, hr⟩ := hq
    refine wo_step (v := (.i .i64 x14)) (s_ld rfl e14) ?_
    have hq := forceI_inv hr
    clear hr
    obtain ⟨x15, e15, hr⟩ := hq
    refine wo_step (v := (.i .i64 x15)) (s_pure (p_bin rfl rfl (b_sub.trans (ci e15)))) ?_
    have hq := bindP_inv hr
    clear hr
    obtain ⟨v16, m_2, e16, hr⟩ := hq
    refine wo_step (v := v16) (s_mk rfl rfl e16) ?_
    refine wo_step (v := v16) (s_pure (p_mv rfl)) ?_
    refine wo_nil ?_
    refine nx_norm ?_
    refine w_seq ?_
    refine w_seq ?_
    refine w_ops ?_
    refine wo_step (v := (.i .i64 0)) (s_pure (p_mv rfl)) ?_
    refine wo_nil ?_
    refine nx_norm ?_
    refine w_block ?_
    have hq := bindO_inv hr
    clear hr
    obtain ⟨o, hl_1, hr⟩ := hq
    obtain ⟨n_1, hl_1⟩ := hM.loop _ _ _ hl_1
    refine jp_mono (w_loop _ (g54_I0 v8 v16) (g54_J0 v8 v16) ?_ n_1 _ _ _ _ hl_1 ⟨rfl, gl rfl, gl rfl, gl rfl⟩) ?_
    · clear hr hl_1
      intro s mm_3 t_1 o hi hr
      obtain ⟨x5, m_3⟩ := s
      obtain ⟨rfl, g5, g3, g4⟩ := hi
      unfold g54_b0 at hr
      refine w_seq ?_
      refine w_seq ?_
      refine w_ops ?_
      refine wo_step (v := (.i .i64 x5)) (s_pure (p_mv g5)) ?_
      refine wo_step (v := v16) (s_pure (p_mv g4)) ?_
      have hq := bindO_inv hr
      clear hr
      obtain ⟨v19, e19, hr⟩ := hq
      have hq := asI_inv hr
      clear hr
      obtain ⟨x19, rfl, hr⟩ := hq
      refine wo_step (v := (.i .i64 x19)) (s_pure (o_len rfl e19)) ?_
      have hq := forceB_inv hr
      clear hr
      obtain ⟨c20, e20, hr⟩ := hq
      refine wo_step (v := (.b c20)) (s_pure (p_bin rfl rfl (b_lss.trans (cb e20)))) ?_
      refine wo_nil ?_
      refine nx_norm ?_
      have hq := cond_inv hr
      clear hr
      rcases hq with ⟨rfl, hr⟩ | ⟨rfl, hr⟩
      · refine w_condT rfl ?_
        refine w_skip ?_
        refine nx_norm ?_
        refine w_seq ?_
        refine w_block ?_
        refine w_ops ?_
        refine wo_step (v := v16) (s_pure (p_mv g4)) ?_
        refine wo_step (v := (.i .i64 x5)) (s_pure (p_mv g5)) ?_
        have hq := bindO_inv hr
        clear hr
        obtain ⟨v25, e25, hr⟩ := hq
        refine wo_step (v := v25) (s_pure (o_ixS rfl rfl e25)) ?_
        have hq := bindP_inv hr
        clear hr
        obtain ⟨vn, m_4, en, hr⟩ := hq
        refine wo_stepN (s_st rfl rfl en) ?_
        refine wo_nil ?_
        refine bk_norm ?_
        refine nx_norm ?_
        refine w_ops ?_
        refine wo_step (v := (.i .i64 x5)) (s_pure (p_mv g5)) ?_
        have hq := forceI_inv hr
        clear hr
        obtain ⟨x22, e22, hr⟩ := hq
        refine wo_step (v := (.i .i64 x22)) (s_pure (p_bin rfl rfl (b_add.trans (ci e22)))) ?_
        refine wo_step (v := (.i .i64 x22)) (s_pure (p_mv rfl)) ?_
        refine wo_nil ?_
        cases hr
        exact ⟨_, _, rfl, rfl, rfl, gl rfl, gl g3, gl g4⟩
      · refine w_condF rfl ?_
        refine w_exit ?_
        refine nx_exit ?_
        cases hr
        exact ⟨_, _, rfl, ne_norm_exit, rfl, rfl, gl g3, gl g4⟩
    · obtain ⟨m_5, ho⟩ : ∃ z, z = o := ⟨_, rfl⟩
      subst ho
      rintro _ mm_2 t_2 ⟨rfl, rfl, g3, g4⟩
      refine bk_hit ?_
      refine nx_norm ?_
      refine w_seq ?_
      refine w_seq ?_
      refine w_ops ?_
      refine wo_step (v := (.i .i64 0)) (s_pure (p_mv rfl)) ?_
      refine wo_nil ?_
      refine nx_norm ?_
      refine w_block ?_
      have hq := bindO_inv hr
      clear hr
      obtain ⟨o_1, hl, hr⟩ := hq
      obtain ⟨n, hl⟩ := hM.loop _ _ _ hl
      refine jp_mono (w_loop _ (g54_I1 v8 v16) (g54_J1 v8 v16) ?_ n _ _ _ _ hl ⟨rfl, gl rfl, gl g3, gl g4⟩) ?_
      · clear hr hl
        intro s mm_1 t_3 o hi hr
        obtain ⟨x6, m_6⟩ := s
        obtain ⟨rfl, g6, g3, g4⟩ := hi
        unfold g54_b1 at hr
        refine w_seq ?_
        refine w_seq ?_
        refine w_ops ?_
        refine wo_step (v := (.i .i64 x6)) (s_pure (p_mv g6)) ?_
        refine wo_step (v := v8) (s_pure (p_mv g3)) ?_
        have hq := bindO_inv hr
        clear hr
        obtain ⟨v28, e28, hr⟩ := hq
        have hq := asI_inv hr
        clear hr
        obtain ⟨x28, rfl, hr⟩ := hq
        refine wo_step (v := (.i .i64 x28)) (s_pure (o_len rfl e28)) ?_
        have hq := forceB_inv hr
        clear hr
        obtain ⟨c29, e29, hr⟩ := hq
        refine wo_step (v := (.b c29)) (s_pure (p_bin rfl rfl (b_lss.trans (cb e29)))) ?_
        refine wo_nil ?_
        refine nx_norm ?_
        have hq := cond_inv hr
        clear hr
        rcases hq with ⟨rfl, hr⟩ | ⟨rfl, hr⟩
        · refine w_condT rfl ?_
          refine w_skip ?_
          refine nx_norm ?_
          refine w_seq ?_
          refine w_block ?_
          refine w_any ?_
          refine wa_step (v := v16) (a_pure (p_mv g4)) ?_
          refine wa_step (v := v8) (a_pure (p_mv g3)) ?_
          have hq := bindO_inv hr
          clear hr
          obtain ⟨v34, e34, hr⟩ := hq
          refine wa_step (v := v34) (a_pure (o_ixS rfl rfl e34)) ?_
          have hq := bindO_inv hr
          clear hr
          obtain ⟨v35, e35, hr⟩ := hq
          have hq := asI_inv hr
          clear hr
          obtain ⟨x35, rfl, hr⟩ := hq
          refine wa_step (v := (.i .i64 x35)) (a_ld rfl e35) ?_
          refine wa_step (v := v8) (a_pure (p_mv g3)) ?_
          refine wa_step (v := (.i .i64 x6)) (a_pure (p_mv g6)) ?_
          have hq := bindO_inv hr
          clear hr
          obtain ⟨v38, e38, hr⟩ := hq
          refine wa_step (v := v38) (a_pure (o_ixS rfl rfl e38)) ?_
          have hq := bindO_inv hr
          clear hr
          obtain ⟨v39, e39, hr⟩ := hq
          have hq := asI_inv hr
          clear hr
          obtain ⟨x39, rfl, hr⟩ := hq
          refine wa_step (v := (.i .i64 x39)) (a_ld rfl e39) ?_
          have hq := forceI_inv hr
          clear hr
          obtain ⟨x40, e40, hr⟩ := hq
          refine wa_step (v := (.i .i64 x40)) (a_pure (p_bin rfl rfl (b_sub.trans (ci e40)))) ?_
          have hq := bindO_inv hr
          clear hr
          obtain ⟨v41, e41, hr⟩ := hq
          refine wa_step (v := v41) (a_pure (o_ixS rfl rfl e41)) ?_
          have hq := asP_inv hr
          clear hr
          obtain ⟨qs, eqs, hr⟩ := hq
          refine wa_stepN (a_st (Eq.trans (b := v41) rfl eqs) rfl rfl) ?_
          have hq := bindO_inv hr
          clear hr
          obtain ⟨m_7, ew, hr⟩ := hq
          refine wa_nil ?_
          refine ⟨m_7, wM2_nil ew, ?_⟩
          refine bk_norm ?_
          refine nx_norm ?_
          refine w_ops ?_
          refine wo_step (v := (.i .i64 x6)) (s_pure (p_mv g6)) ?_
          have hq := forceI_inv hr
          clear hr
          obtain ⟨x31, e31, hr⟩ := hq
          refine wo_step (v := (.i .i64 x31)) (s_pure (p_bin rfl rfl (b_add.trans (ci e31)))) ?_
          refine wo_step (v := (.i .i64 x31)) (s_pure (p_mv rfl)) ?_
          refine wo_nil ?_
          cases hr
          exact ⟨_, _, rfl, rfl, rfl, gl rfl, gl g3, gl g4⟩
        · refine w_condF rfl ?_
          refine w_exit ?_
          refine nx_exit ?_
          cases hr
          exact ⟨_, _, rfl, ne_norm_exit, rfl, rfl, gl g4⟩
      · obtain ⟨m_8, ho⟩ : ∃ z, z = o_1 := ⟨_, rfl⟩
        subst ho
        rintro _ mm t_4 ⟨rfl, rfl, g4⟩
        refine bk_hit ?_
        refine nx_norm ?_
        refine w_seq ?_
        refine w_ops ?_
        refine wo_step (v := v16) (s_pure (p_mv g4)) ?_
        have hq := bindO_inv hr
        clear hr
        obtain ⟨v43, e43, hr⟩ := hq
        have hq := asS_inv hr
        clear hr
        obtain ⟨s43, rfl, hr⟩ := hq
        refine wo_step (v := (.s s43)) (s_bts rfl e43) ?_
        refine wo_step (v := (.s s43)) (s_pure (p_mv rfl)) ?_
        refine wo_nil ?_
        refine nx_norm ?_
        refine w_ret ?_
        exact qf ret_ok (rt rfl rn) hr

/- slices.Backward[[]int,int] -/

def g59 (M : Means) (ro : List ABlk) (v0 : AVal) (m0 : Mm) : Option (AVal × Heap × Nat × Nat) :=
  bindP (stepM ro m0 (.bx 50 1 (.c v0))) fun v1 m_1 =>
  bindO (some (AVal.fn 75 [] [v1])) fun v3 =>
  finM m0.h.length (tupA [v3]) m_1

theorem g59_ok {ro : List ABlk} {O : Caller} {M : Means} (hM : M.Ok ⟨F, O⟩ ro) {v0 h r} (ho : O 59 [v0] h = none) (hr : g59 M ro v0 ⟨h, h.length, h.length⟩ = some r) : callX ⟨F, O⟩ ro 59 [v0] h = some r := by
  refine callX_of (F := ⟨F, O⟩) (fn := fn59) (g := g59 M ro v0) ho rfl rfl hr ?_
  clear ho
  clear hr
  intro m0 t0 ht hr
  have g0 : t0.get 0 = v0 := ht 0
  clear ht
  unfold g59 at hr
  refine w_seq ?_
  refine w_ops ?_
  have hq := bindP_inv hr
  clear hr
  obtain ⟨v1, m_1, e1, hr⟩ := hq
  refine wo_step (v := v1) (s_bx g0 e1) ?_
  refine wo_step (v := AVal.nfn) (s_pure (p_mv rfl)) ?_
  refine wo_nil ?_
  refine nx_norm ?_
  refine w_seq ?_
  refine w_ops ?_
  have hq := bindO_inv hr
  clear hr
  obtain ⟨v3, e3, hr⟩ := hq
  refine wo_step (v := v3) (s_pure ((o_mkfn mn (mc rfl mn)).trans e3)) ?_
  refine wo_step (v := v3) (s_pure (p_mv rfl)) ?_
  refine wo_nil ?_
  refine nx_norm ?_
  refine w_ret ?_
  exact qf ret_ok (rt rfl rn) hr

/- dibber/seed.parts -/
abbrev g60_I0  (s : Int × AVal × Int × Int × Int × Mm) (m1 : Mm) (t1 : Tr) : Prop :=
  match s with
  | (x0_1, v3, x4, x5, x6, m_3) => m_3 = m1 ∧ t1.get 0 = (.i .i64 x0_1) ∧ t1.get 3 = v3 ∧ t1.get 4 = (.i .i64 x4) ∧ t1.get 5 = (.i .i64 x5) ∧ t1.get 6 = (.i .i64 x6)
abbrev g60_J0  (o : (AVal × Mm)) (e : AExit) (m1 : Mm) (t1 : Tr) : Prop :=
  match o with
  | (y3, mo) => e = (.exit 0) ∧ mo = m1 ∧ t1.get 3 = y3
abbrev g60_J1 (x4 : Int) (x5 : Int) (x6 : Int) (o : (Int × AVal × Mm)) (e : AExit) (m1 : Mm) (t1 : Tr) : Prop :=
  match o with
  | (y0, y3, mo) => e = .norm ∧ mo = m1 ∧ t1.get 0 = (.i .i64 y0) ∧ t1.get 3 = y3 ∧ t1.get 4 = (.i .i64 x4) ∧ t1.get 5 = (.i .i64 x5) ∧ t1.get 6 = (.i .i64 x6)
def g60_b0 (M : Means) (ro : List ABlk)  (x0_1 : Int) (v3 : AVal) (x4 : Int) (x5 : Int) (x6 : Int) (m_3 : Mm) : Option ((Int × AVal × Int × Int × Int × Mm) ⊕ ((AVal × Mm))) :=
  forceB (ltI 0 x0_1) fun c10 =>
  cond c10 (
    forceB (!ltI x0_1 x4) fun c15 =>
    bindO (α := (Int × AVal × Mm)) (
      cond c15 (
        bindP (stepM ro m_3 (.bsl 3 1 [(AVal.i IntKind.i64 0)] 1 [((0, 1), .c (.i .i64 x6))])) fun v18 m_4 =>
        bindP (stepM ro m_4 (.app 3 1 8 [(AVal.i IntKind.i64 0)] (.c v3) (.c v18))) fun v19 m_5 =>
        forceI (wr .i64 (x0_1 - x4)) fun x22 =>
        some (x22, v19, m_5)) (
        some (x0_1, v3, m_3))) fun ⟨x0_2, v3_1, m_6⟩ =>
    forceI (wr .i64 (x4 - x5)) fun x26 =>
    forceI (wr .i64 (x6 - 1)) fun x12 =>
    some (.inl (x0_2, v3_1, x5, x26, x12, m_6))) (
    some (.inr (v3, m_3)))
def g60 (M : Means) (ro : List ABlk) (x0 : Int) (m0 : Mm) : Option (AVal × Heap × Nat × Nat) :=
  bindP (callM M.call m0 71 [(.i .i64 88)]) fun v7 m_1 =>
  asI .i64 v7 fun x7 =>
  bindP (callM M.call m_1 71 [(.i .i64 87)]) fun v8 m_2 =>
  asI .i64 v8 fun x8 =>
  bindO (M.loop (S := Int × AVal × Int × Int × Int × Mm) (R := (AVal × Mm)) (fun s => g60_b0 M ro  s.1 s.2.1 s.2.2.1 s.2.2.2.1 s.2.2.2.2.1 s.2.2.2.2.2) (x0, AVal.nsl, x7, x8, 88, m_2)) fun ⟨v3_2, m_7⟩ =>
  finM m0.h.length (tupA [v3_2]) m_7

theorem g60_ok {ro : List ABlk} {O : Caller} {M : Means} (hM : M.Ok ⟨F, O⟩ ro) {x0 h r} (ho : O 60 [(.i .i64 x0)] h = none) (hr : g60 M ro x0 ⟨h, h.length, h.length⟩ = some r) : callX ⟨F, O⟩ ro 60 [(.i .i64 x0)] h = some r := by
  refine callX_of (F := ⟨F, O⟩) (fn := fn60) (g := g60 M ro x0) ho rfl rfl hr ?_
  clear ho
  clear hr
  intro m0 t0 ht hr
  have g0 : t0.get 0 = (.i .i64 x0) := ht 0
  clear ht
  unfold g60 at hr
  refine w_seq ?_
  refine w_ops ?_
  refine wo_step (v := AVal.nsl) (s_pure (p_mv rfl)) ?_
  refine wo_nil ?_
  refine nx_norm ?_
  refine w_seq ?_
  refine w_ops ?_
  refine wo_step (v := AVal.nsl) (s_pure (p_mv rfl)) ?_
  refine wo_nil ?_
  refine nx_norm ?_
  refine w_seq ?_
  refine w_ops ?_
  have hq := bindP_inv hr
  clear hr
  obtain ⟨v7, m_1, e7, hr⟩ := hq
  have hq := asI_inv hr
  clear hr
  obtain ⟨x7, rfl, hr⟩ := hq
  refine wo_step (v := (.i .i64 x7)) (s_call (mc rfl mn) (callM_le hM.call e7)) ?_
  have hq := bindP_inv hr
  clear hr
  obtain ⟨v8, m_2, e8, hr⟩ := hq
  have hq := asI_inv hr
  clear hr
  obtain ⟨x8, rfl, hr⟩ := hq
  refine wo_step (v := (.i .i64 x8)) (s_call (mc rfl mn) (callM_le hM.call e8)) ?_
  refine wo_step (v := (.i .i64 x7)) (s_pure (p_mv rfl)) ?_
  refine wo_step (v := (.i .i64 x8)) (s_pure (p_mv rfl)) ?_
  refine wo_nil ?_
  refine nx_norm ?_
  refine w_seq ?_
  refine w_seq ?_
  refine w_ops ?_
  refine wo_step (v := (.i .i64 88)) (s_pure (p_mv rfl)) ?_
  refine wo_nil ?_
  refine nx_norm ?_
  refine w_block ?_
  have hq := bindO_inv hr
  clear hr
  obtain ⟨o_1, hl, hr⟩ := hq
  obtain ⟨n, hl⟩ := hM.loop _ _ _ hl
  refine jp_mono (w_loop _ (g60_I0 ) (g60_J0 ) ?_ n _ _ _ _ hl ⟨rfl, gl g0, gl rfl, gl rfl, gl rfl, gl rfl⟩) ?_
  · clear hr hl
    intro s mm_2 t_1 o hi hr
    obtain ⟨x0_1, v3, x4, x5, x6, m_3⟩ := s
    obtain ⟨rfl, g0, g3, g4, g5, g6⟩ := hi
    unfold g60_b0 at hr
    refine w_seq ?_
    refine w_seq ?_
    refine w_ops ?_
    refine wo_step (v := (.i .i64 x0_1)) (s_pure (p_mv g0)) ?_
    have hq := forceB_inv hr
    clear hr
    obtain ⟨c10, e10, hr⟩ := hq
    refine wo_step (v := (.b c10)) (s_pure (p_bin rfl rfl (b_gtr.trans (cb e10)))) ?_
    refine wo_nil ?_
    refine nx_norm ?_
    have hq := cond_inv hr
    clear hr
    rcases hq with ⟨rfl, hr⟩ | ⟨rfl, hr⟩
    · refine w_condT rfl ?_
      refine w_skip ?_
      refine nx_norm ?_
      refine w_seq ?_
      refine w_block ?_
      refine w_seq ?_
      refine w_seq ?_
      refine w_ops ?_
      refine wo_step (v := (.i .i64 x4)) (s_pure (p_mv g4)) ?_
      refine wo_step (v := (.i .i64 x0_1)) (s_pure (p_mv g0)) ?_
      have hq := forceB_inv hr
      clear hr
      obtain ⟨c15, e15, hr⟩ := hq
      refine wo_step (v := (.b c15)) (s_pure (p_bin rfl rfl (b_leq.trans (cb e15)))) ?_
      refine wo_nil ?_
      refine nx_norm ?_
      have hq := bindO_inv hr
      clear hr
      obtain ⟨o, hr, hk⟩ := hq
      refine jp_mono (J := g60_J1 x4 x5 x6 o) ?_ ?_
      · clear hk
        have hq := cond_inv hr
        clear hr
        rcases hq with ⟨rfl, hr⟩ | ⟨rfl, hr⟩
        · refine w_condT rfl ?_
          refine w_seq ?_
          refine w_ops ?_
          refine wo_step (v := v3) (s_pure (p_mv g3)) ?_
          refine wo_step (v := (.i .i64 x6)) (s_pure (p_mv g6)) ?_
          have hq := bindP_inv hr
          clear hr
          obtain ⟨v18, m_4, e18, hr⟩ := hq
          refine wo_step (v := v18) (s_bsl (qc rfl qn) e18) ?_
          have hq := bindP_inv hr
          clear hr
          obtain ⟨v19, m_5, e19, hr⟩ := hq
          refine wo_step (v := v19) (s_app rfl rfl e19) ?_
          refine wo_step (v := v19) (s_pure (p_mv rfl)) ?_
          refine wo_nil ?_
          refine nx_norm ?_
          refine w_ops ?_
          refine wo_step (v := (.i .i64 x0_1)) (s_pure (p_mv g0)) ?_
          refine wo_step (v := (.i .i64 x4)) (s_pure (p_mv g4)) ?_
          have hq := forceI_inv hr
          clear hr
          obtain ⟨x22, e22, hr⟩ := hq
          refine wo_step (v := (.i .i64 x22)) (s_pure (p_bin rfl rfl (b_sub.trans (ci e22)))) ?_
          refine wo_step (v := (.i .i64 x22)) (s_pure (p_mv rfl)) ?_
          refine wo_nil ?_
          cases hr
          exact ⟨_, _, rfl, rfl, rfl, gl rfl, gl rfl, gl g4, gl g5, gl g6⟩
        · refine w_condF rfl ?_
          refine w_skip ?_
          cases hr
          exact ⟨_, _, rfl, rfl, rfl, gl g0, gl g3, gl g4, gl g5, gl g6⟩
      · clear hr
        have hr := hk
        clear hk
        obtain ⟨x0_2, v3_1, m_6⟩ := o
        rintro _ mm t_2 ⟨rfl, rfl, g0, g3, g4, g5, g6⟩
        refine nx_norm ?_
        refine w_ops ?_
        refine wo_step (v := (.i .i64 x5)) (s_pure (p_mv g5)) ?_
        refine wo_step (v := (.i .i64 x4)) (s_pure (p_mv g4)) ?_
        refine wo_step (v := (.i .i64 x5)) (s_pure (p_mv g5)) ?_
        have hq := forceI_inv hr
        clear hr
        obtain ⟨x26, e26, hr⟩ := hq
        refine wo_step (v := (.i .i64 x26)) (s_pure (p_bin rfl rfl (b_sub.trans (ci e26)))) ?_
        refine wo_step (v := (.i .i64 x5)) (s_pure (p_mv rfl)) ?_
        refine wo_step (v := (.i .i64 x26)) (s_pure (p_mv rfl)) ?_
        refine wo_nil ?_
        refine bk_norm ?_
        refine nx_norm ?_
        refine w_ops ?_
        refine wo_step (v := (.i .i64 x6)) (s_pure (p_mv g6)) ?_
        have hq := forceI_inv hr
        clear hr
        obtain ⟨x12, e12, hr⟩ := hq
        refine wo_step (v := (.i .i64 x12)) (s_pure (p_bin rfl rfl (b_sub.trans (ci e12)))) ?_
        refine wo_step (v := (.i .i64 x12)) (s_pure (p_mv rfl)) ?_
        refine wo_nil ?_
        cases hr
        exact ⟨_, _, rfl, rfl, rfl, gl g0, gl g3, gl rfl, gl rfl, gl rfl⟩
    · refine w_condF rfl ?_
      refine w_exit ?_
      refine nx_exit ?_
      cases hr
      exact ⟨_, _, rfl, ne_norm_exit, rfl, rfl, gl g3⟩
  · obtain ⟨v3_2, m_7⟩ := o_1
    rintro _ mm_1 t_3 ⟨rfl, rfl, g3⟩
    refine bk_hit ?_
    refine nx_norm ?_
    refine w_seq ?_
    refine w_ops ?_
    refine wo_step (v := v3_2) (s_pure (p_mv g3)) ?_
    refine wo_step (v := v3_2) (s_pure (p_mv rfl)) ?_
    refine wo_nil ?_
    refine nx_norm ?_
    refine w_ret ?_
    exact qf ret_ok (rt rfl rn) hr

/- dibber/dibberref09.add -/
abbrev g61_I0 (v0 : AVal) (x1 : Int) (x2 : Int) (s : Int × Mm) (m1 : Mm) (t1 : Tr) : Prop :=
  match s with
  | (x7, m_1) => m_1 = m1 ∧ t1.get 7 = (.i .i64 x7) ∧ t1.get 0 = v0 ∧ t1.get 1 = (.i .i64 x1) ∧ t1.get 2 = (.i .i64 x2)
abbrev g61_J0 (v0 : AVal) (x1 : Int) (x2 : Int) (o : (Mm ⊕ (AVal × Mm))) (e : AExit) (m1 : Mm) (t1 : Tr) : Prop :=
  match o with
  | (.inl mo) => e = (.exit 0) ∧ mo = m1 ∧ t1.get 0 = v0 ∧ t1.get 1 = (.i .i64 x1) ∧ t1.get 2 = (.i .i64 x2)
  | (.inr (y6, mo)) => e = .ret ∧ mo = m1 ∧ t1.get 6 = y6
def g61_b0 (M : Means) (ro : List ABlk) (v0 : AVal) (x1 : Int) (x2 : Int) (x7 : Int) (m_1 : Mm) : Option ((Int × Mm) ⊕ ((Mm ⊕ (AVal × Mm)))) :=
  bindO (evP .e (.len false (.c v0))) fun v10 =>
  asI .i64 v10 fun x10 =>
  forceB (ltI x7 x10) fun c11 =>
  cond c11 (
    bindO (evP .e (.ixS 2 (.c v0) (.c (.i .i64 x7)))) fun v16 =>
    bindO (evP .e (.faddr 0 (.c v16))) fun v17 =>
    bindO (ldM ro m_1 true 1 v17) fun v18 =>
    asI .i64 v18 fun x18 =>
    forceB (eqI x18 x1) fun c20 =>
    cond c20 (
      bindO (evP .e (.ixS 2 (.c v0) (.c (.i .i64 x7)))) fun v23 =>
      bindO (evP .e (.faddr 1 (.c v23))) fun v24 =>
      bindO (ldM ro m_1 true 1 v24) fun v25 =>
      asI .i64 v25 fun x25 =>
      forceI (wr .i64 (x25 + x2)) fun x27 =>
      bindO (evP .e (.ixS 2 (.c v0) (.c (.i .i64 x7)))) fun v28 =>
      bindO (evP .e (.faddr 1 (.c v28))) fun v29 =>
      bindP (stepM ro m_1 (.st 1 (.c v29) (.c (.i .i64 x27)))) fun vn m_2 =>
      some (.inr (.inr (v0, m_2)))) (
      forceI (wr .i64 (x7 + 1)) fun x13 =>
      some (.inl (x13, m_1)))) (
    some (.inr (.inl m_1)))
def g61 (M : Means) (ro : List ABlk) (v0 : AVal) (x1 : Int) (x2 : Int) (m0 : Mm) : Option (AVal × Heap × Nat × Nat) :=
  bindO (M.loop (S := Int × Mm) (R := (Mm ⊕ (AVal × Mm))) (fun s => g61_b0 M ro v0 x1 x2 s.1 s.2) (0, m0)) fun o => match o with
  | (.inl m_3) =>
    bindO ((fillA [(AVal.i IntKind.i64 0), (AVal.i IntKind.i64 0)] [((0, 1), (.i .i64 x1)), ((1, 1), (.i .i64 x2))]).map AVal.agg) fun v34 =>
    bindP (stepM ro m_3 (.bsl 64 2 [(AVal.i IntKind.i64 0), (AVal.i IntKind.i64 0)] 1 [((0, 2), .c v34)])) fun v35 m_4 =>
    bindP (stepM ro m_4 (.app 64 2 16 [(AVal.i IntKind.i64 0), (AVal.i IntKind.i64 0)] (.c v0) (.c v35))) fun v36 m_5 =>
    finM m0.h.length (tupA [v36]) m_5
  | (.inr (v6, m_6)) =>
    finM m0.h.length (tupA [v6]) m_6

theorem g61_ok {ro : List ABlk} {O : Caller} {M : Means} (hM : M.Ok ⟨F, O⟩ ro) {v0 x1 x2 h r} (ho : O 61 [v0, (.i .i64 x1), (.i .i64 x2)] h = none) (hr : g61 M ro v0 x1 x2 ⟨h, h.length, h.length⟩ = some r) : callX ⟨F, O⟩ ro 61 [v0, (.i .i64 x1), (.i .i64 x2)] h = some r := by
  refine callX_of (F := ⟨F, O⟩) (fn := fn61) (g := g61 M ro v0 x1 x2) ho rfl rfl hr ?_
  clear ho
  clear hr
  intro m0 t0 ht hr
  have g0 : t0.get 0 = v0 := ht 0
  have g1 : t0.get 1 = (.i .i64 x1) := ht 1
  have g2 : t0.get 2 = (.i .i64 x2) := ht 2
  clear ht
  unfold g61 at hr
  refine w_seq ?_
  refine w_ops ?_
  refine wo_step (v := AVal.nsl) (s_pure (p_mv rfl)) ?_
  refine wo_nil ?_
  refine nx_norm ?_
  refine w_seq ?_
  refine w_seq ?_
  refine w_ops ?_
  refine wo_step (v := (.i .i64 0)) (s_pure (p_mv rfl)) ?_
  refine wo_nil ?_
  refine nx_norm ?_
  refine w_block ?_
  have hq := bindO_inv hr
  clear hr
  obtain ⟨o, hl, hr⟩ := hq
  obtain ⟨n, hl⟩ := hM.loop _ _ _ hl
  refine jp_mono (w_loop _ (g61_I0 v0 x1 x2) (g61_J0 v0 x1 x2) ?_ n _ _ _ _ hl ⟨rfl, gl rfl, gl g0, gl g1, gl g2⟩) ?_
  · clear hr hl
    intro s mm_2 t_1 o hi hr
    obtain ⟨x7, m_1⟩ := s
    obtain ⟨rfl, g7, g0, g1, g2⟩ := hi
    unfold g61_b0 at hr
    refine w_seq ?_
    refine w_seq ?_
    refine w_ops ?_
    refine wo_step (v := (.i .i64 x7)) (s_pure (p_mv g7)) ?_
    refine wo_step (v := v0) (s_pure (p_mv g0)) ?_
    have hq := bindO_inv hr
    clear hr
    obtain ⟨v10, e10, hr⟩ := hq
    have hq := asI_inv hr
    clear hr
    obtain ⟨x10, rfl, hr⟩ := hq
    refine wo_step (v := (.i .i64 x10)) (s_pure (o_len rfl e10)) ?_
    have hq := forceB_inv hr
    clear hr
    obtain ⟨c11, e11, hr⟩ := hq
    refine wo_step (v := (.b c11)) (s_pure (p_bin rfl rfl (b_lss.trans (cb e11)))) ?_
    refine wo_nil ?_
    refine nx_norm ?_
    have hq := cond_inv hr
    clear hr
    rcases hq with ⟨rfl, hr⟩ | ⟨rfl, hr⟩
    · refine w_condT rfl ?_
      refine w_skip ?_
      refine nx_norm ?_
      refine w_seq ?_
      refine w_block ?_
      refine w_seq ?_
      refine w_ops ?_
      refine wo_step (v := v0) (s_pure (p_mv g0)) ?_
      refine wo_step (v := (.i .i64 x7)) (s_pure (p_mv g7)) ?_
      have hq := bindO_inv hr
      clear hr
      obtain ⟨v16, e16, hr⟩ := hq
      refine wo_step (v := v16) (s_pure (o_ixS rfl rfl e16)) ?_
      have hq := bindO_inv hr
      clear hr
      obtain ⟨v17, e17, hr⟩ := hq
      refine wo_step (v := v17) (s_pure (o_faddr rfl e17)) ?_
      have hq := bindO_inv hr
      clear hr
      obtain ⟨v18, e18, hr⟩ := hq
      have hq := asI_inv hr
      clear hr
      obtain ⟨x18, rfl, hr⟩ := hq
      refine wo_step (v := (.i .i64 x18)) (s_ld rfl e18) ?_
      refine wo_step (v := (.i .i64 x1)) (s_pure (p_mv g1)) ?_
      have hq := forceB_inv hr
      clear hr
      obtain ⟨c20, e20, hr⟩ := hq
      refine wo_step (v := (.b c20)) (s_pure (p_bin rfl rfl (b_eql.trans (cb e20)))) ?_
      refine wo_nil ?_
      refine nx_norm ?_
      have hq := cond_inv hr
      clear hr
      rcases hq with ⟨rfl, hr⟩ | ⟨rfl, hr⟩
      · refine w_condT rfl ?_
        refine w_seq ?_
        refine w_ops ?_
        refine wo_step (v := v0) (s_pure (p_mv g0)) ?_
        refine wo_step (v := (.i .i64 x7)) (s_pure (p_mv g7)) ?_
        have hq := bindO_inv hr
        clear hr
        obtain ⟨v23, e23, hr⟩ := hq
        refine wo_step (v := v23) (s_pure (o_ixS rfl rfl e23)) ?_
        have hq := bindO_inv hr
        clear hr
        obtain ⟨v24, e24, hr⟩ := hq
        refine wo_step (v := v24) (s_pure (o_faddr rfl e24)) ?_
        have hq := bindO_inv hr
        clear hr
        obtain ⟨v25, e25, hr⟩ := hq
        have hq := asI_inv hr
        clear hr
        obtain ⟨x25, rfl, hr⟩ := hq
        refine wo_step (v := (.i .i64 x25)) (s_ld rfl e25) ?_
        refine wo_step (v := (.i .i64 x2)) (s_pure (p_mv g2)) ?_
        have hq := forceI_inv hr
        clear hr
        obtain ⟨x27, e27, hr⟩ := hq
        refine wo_step (v := (.i .i64 x27)) (s_pure (p_bin rfl rfl (b_add.trans (ci e27)))) ?_
        have hq := bindO_inv hr
        clear hr
        obtain ⟨v28, e28, hr⟩ := hq
        refine wo_step (v := v28) (s_pure (o_ixS rfl rfl e28)) ?_
        have hq := bindO_inv hr
        clear hr
        obtain ⟨v29, e29, hr⟩ := hq
        refine wo_step (v := v29) (s_pure (o_faddr rfl e29)) ?_
        have hq := bindP_inv hr
        clear hr
        obtain ⟨vn, m_2, en, hr⟩ := hq
        refine wo_stepN (s_st rfl rfl en) ?_
        refine wo_nil ?_
        refine nx_norm ?_
        refine w_seq ?_
        refine w_ops ?_
        refine wo_step (v := v0) (s_pure (p_mv g0)) ?_
        refine wo_step (v := v0) (s_pure (p_mv rfl)) ?_
        refine wo_nil ?_
        refine nx_norm ?_
        refine w_ret ?_
        refine bk_ret ?_
        refine nx_ret ?_
        cases hr
        exact ⟨_, _, rfl, ne_norm_ret, rfl, rfl, gl rfl⟩
      · refine w_condF rfl ?_
        refine w_skip ?_
        refine bk_norm ?_
        refine nx_norm ?_
        refine w_ops ?_
        refine wo_step (v := (.i .i64 x7)) (s_pure (p_mv g7)) ?_
        have hq := forceI_inv hr
        clear hr
        obtain ⟨x13, e13, hr⟩ := hq
        refine wo_step (v := (.i .i64 x13)) (s_pure (p_bin rfl rfl (b_add.trans (ci e13)))) ?_
        refine wo_step (v := (.i .i64 x13)) (s_pure (p_mv rfl)) ?_
        refine wo_nil ?_
        cases hr
        exact ⟨_, _, rfl, rfl, rfl, gl rfl, gl g0, gl g1, gl g2⟩
    · refine w_condF rfl ?_
      refine w_exit ?_
      refine nx_exit ?_
      cases hr
      exact ⟨_, _, rfl, ne_norm_exit, rfl, rfl, gl g0, gl g1, gl g2⟩
  · rcases o with o | o
    · obtain ⟨m_3, ho⟩ : ∃ z, z = o := ⟨_, rfl⟩
      subst ho
      rintro _ mm t_2 ⟨rfl, rfl, g0, g1, g2⟩
      refine bk_hit ?_
      refine nx_norm ?_
      refine w_seq ?_
      refine w_ops ?_
      refine wo_step (v := v0) (s_pure (p_mv g0)) ?_
      refine wo_step (v := (.i .i64 x1)) (s_pure (p_mv g1)) ?_
      refine wo_step (v := (.i .i64 x2)) (s_pure (p_mv g2)) ?_
      have hq := bindO_inv hr
      clear hr
      obtain ⟨v34, e34, hr⟩ := hq
      refine wo_step (v := v34) (s_pure (o_build (qc rfl (qc rfl qn)) e34)) ?_
      have hq := bindP_inv hr
      clear hr
      obtain ⟨v35, m_4, e35, hr⟩ := hq
      refine wo_step (v := v35) (s_bsl (qc rfl qn) e35) ?_
      have hq := bindP_inv hr
      clear hr
      obtain ⟨v36, m_5, e36, hr⟩ := hq
      refine wo_step (v := v36) (s_app rfl rfl e36) ?_
      refine wo_step (v := v36) (s_pure (p_mv rfl)) ?_
      refine wo_nil ?_
      refine nx_norm ?_
      refine w_ret ?_
      exact qf ret_ok (rt rfl rn) hr
    · obtain ⟨v6, m_6⟩ := o
      rintro _ mm_1 t_3 ⟨rfl, rfl, g6⟩
      refine bk_ret ?_
      refine nx_ret ?_
      exact qf ret_ok (rt g6 rn) hr

/- strings.HasSuffix -/

def g62 (M : Means) (ro : List ABlk) (s0 : List UInt8) (s1 : List UInt8) (m0 : Mm) : Option (AVal × Heap × Nat × Nat) :=
  bindP (callM M.call m0 76 [(.s s0), (.s s1)]) fun v7 m_1 =>
  asB v7 fun c7 =>
  finM m0.h.length (tupA [(.b c7)]) m_1

theorem g62_ok {ro : List ABlk} {O : Caller} {M : Means} (hM : M.Ok ⟨F, O⟩ ro) {s0 s1 h r} (ho : O 62 [(.s s0), (.s s1)] h = none) (hr : g62 M ro s0 s1 ⟨h, h.length, h.length⟩ = some r) : callX ⟨F, O⟩ ro 62 [(.s s0), (.s s1)] h = some r := by
  refine callX_of (F := ⟨F, O⟩) (fn := fn62) (g := g62 M ro s0 s1) ho rfl rfl hr ?_
  clear ho
  clear hr
  intro m0 t0 ht hr
  have g0 : t0.get 0 = (.s s0) := ht 0
  have g1 : t0.get 1 = (.s s1) := ht 1
  clear ht
  unfold g62 at hr
  refine w_seq ?_
  refine w_ops ?_
  refine wo_step (v := (.b false)) (s_pure (p_mv rfl)) ?_
  refine wo_nil ?_
  refine nx_norm ?_
  refine w_seq ?_
  refine w_ops ?_
  refine wo_step (v := (.s s0)) (s_pure (p_mv g0)) ?_
  refine wo_step (v := (.s s1)) (s_pure (p_mv g1)) ?_
  have hq := bindP_inv hr
  clear hr
  obtain ⟨v7, m_1, e7, hr⟩ := hq
  have hq := asB_inv hr
  clear hr
  obtain ⟨c7, rfl, hr⟩ := hq
  refine wo_step (v := (.b c7)) (s_call (mc rfl (mc rfl mn)) (callM_le hM.call e7)) ?_
  refine wo_step (v := (.b c7)) (s_pure (p_mv rfl)) ?_
  refine wo_nil ?_
  refine nx_norm ?_
  refine w_ret ?_
  exact qf ret_ok (rt rfl rn) hr

/- dibber/dibberref09.parts -/
abbrev g64_I0  (s : Int × AVal × Int × Mm) (m1 : Mm) (t1 : Tr) : Prop :=
  match s with
  | (x0_1, v3, x4, m_1) => m_1 = m1 ∧ t1.get 0 = (.i .i64 x0_1) ∧ t1.get 3 = v3 ∧ t1.get 4 = (.i .i64 x4)
abbrev g64_J0  (o : (AVal × Mm)) (e : AExit) (m1 : Mm) (t1 : Tr) : Prop :=
  match o with
  | (y3, mo) => e = (.exit 0) ∧ mo = m1 ∧ t1.get 3 = y3
abbrev g64_J1 (x4 : Int) (o : (Int × AVal × Mm)) (e : AExit) (m1 : Mm) (t1 : Tr) : Prop :=
  match o with
  | (y0, y3, mo) => e = .norm ∧ mo = m1 ∧ t1.get 0 = (.i .i64 y0) ∧ t1.get 3 = y3 ∧ t1.get 4 = (.i .i64 x4)
def g64_b0 (M : Means) (ro : List ABlk)  (x0_1 : Int) (v3 : AVal) (x4 : Int) (m_1 : Mm) : Option ((Int × AVal × Int × Mm) ⊕ ((AVal × Mm))) :=
  forceB (!ltI x4 2) fun c6 =>
  cond c6 (
    bindP (callM M.call m_1 50 [(.i .i64 x4)]) fun v10 m_2 =>
    asI .i64 v10 fun x10 =>
    forceB (!ltI x0_1 x10) fun c12 =>
    bindO (α := (Int × AVal × Mm)) (
      cond c12 (
        bindP (callM M.call m_2 50 [(.i .i64 x4)]) fun v15 m_3 =>
        asI .i64 v15 fun x15 =>
        forceI (wr .i64 (x0_1 - x15)) fun x16 =>
        bindP (stepM ro m_3 (.bsl 3 1 [(AVal.i IntKind.i64 0)] 1 [((0, 1), .c (.i .i64 x4))])) fun v19 m_4 =>
        bindP (stepM ro m_4 (.app 3 1 8 [(AVal.i IntKind.i64 0)] (.c v3) (.c v19))) fun v20 m_5 =>
        some (x16, v20, m_5)) (
        some (x0_1, v3, m_2))) fun ⟨x0_2, v3_1, m_6⟩ =>
    forceI (wr .i64 (x4 - 1)) fun x8 =>
    some (.inl (x0_2, v3_1, x8, m_6))) (
    some (.inr (v3, m_1)))
def g64 (M : Means) (ro : List ABlk) (x0 : Int) (m0 : Mm) : Option (AVal × Heap × Nat × Nat) :=
  bindO (M.loop (S := Int × AVal × Int × Mm) (R := (AVal × Mm)) (fun s => g64_b0 M ro  s.1 s.2.1 s.2.2.1 s.2.2.2) (x0, AVal.nsl, 90, m0)) fun ⟨v3_2, m_7⟩ =>
  finM m0.h.length (tupA [v3_2]) m_7

theorem g64_ok {ro : List ABlk} {O : Caller} {M : Means} (hM : M.Ok ⟨F, O⟩ ro) {x0 h r} (ho : O 64 [(.i .i64 x0)] h = none) (hr : g64 M ro x0 ⟨h, h.length, h.length⟩ = some r) : callX ⟨F, O⟩ ro 64 [(.i .i64 x0)] h = some r := by
  refine callX_of (F := ⟨F, O⟩) (fn := fn64) (g := g64 M ro x0) ho rfl rfl hr ?_
  clear ho
  clear hr
  intro m0 t0 ht hr
  have g0 : t0.get 0 = (.i .i64 x0) := ht 0
  clear ht
  unfold g64 at hr
  refine w_seq ?_
  refine w_ops ?_
  refine wo_step (v := AVal.nsl) (s_pure (p_mv rfl)) ?_
  refine wo_nil ?_
  refine nx_norm ?_
  refine w_seq ?_
  refine w_ops ?_
  refine wo_step (v := AVal.nsl) (s_pure (p_mv rfl)) ?_
  refine wo_nil ?_
  refine nx_norm ?_
  refine w_seq ?_
  refine w_seq ?_
  refine w_ops ?_
  refine wo_step (v := (.i .i64 90)) (s_pure (p_mv rfl)) ?_
  refine wo_nil ?_
  refine nx_norm ?_
  refine w_block ?_
  have hq := bindO_inv hr
  clear hr
  obtain ⟨o_1, hl, hr⟩ := hq
  obtain ⟨n, hl⟩ := hM.loop _ _ _ hl
  refine jp_mono (w_loop _ (g64_I0 ) (g64_J0 ) ?_ n _ _ _ _ hl ⟨rfl, gl g0, gl rfl, gl rfl⟩) ?_
  · clear hr hl
    intro s mm_2 t_1 o hi hr
    obtain ⟨x0_1, v3, x4, m_1⟩ := s
    obtain ⟨rfl, g0, g3, g4⟩ := hi
    unfold g64_b0 at hr
    refine w_seq ?_
    refine w_seq ?_
    refine w_ops ?_
    refine wo_step (v := (.i .i64 x4)) (s_pure (p_mv g4)) ?_
    have hq := forceB_inv hr
    clear hr
    obtain ⟨c6, e6, hr⟩ := hq
    refine wo_step (v := (.b c6)) (s_pure (p_bin rfl rfl (b_geq.trans (cb e6)))) ?_
    refine wo_nil ?_
    refine nx_norm ?_
    have hq := cond_inv hr
    clear hr
    rcases hq with ⟨rfl, hr⟩ | ⟨rfl, hr⟩
    · refine w_condT rfl ?_
      refine w_skip ?_
      refine nx_norm ?_
      refine w_seq ?_
      refine w_block ?_
      refine w_seq ?_
      refine w_ops ?_
      refine wo_step (v := (.i .i64 x4)) (s_pure (p_mv g4)) ?_
      have hq := bindP_inv hr
      clear hr
      obtain ⟨v10, m_2, e10, hr⟩ := hq
      have hq := asI_inv hr
      clear hr
      obtain ⟨x10, rfl, hr⟩ := hq
      refine wo_step (v := (.i .i64 x10)) (s_call (mc rfl mn) (callM_le hM.call e10)) ?_
      refine wo_step (v := (.i .i64 x0_1)) (s_pure (p_mv g0)) ?_
      have hq := forceB_inv hr
      clear hr
      obtain ⟨c12, e12, hr⟩ := hq
      refine wo_step (v := (.b c12)) (s_pure (p_bin rfl rfl (b_leq.trans (cb e12)))) ?_
      refine wo_nil ?_
      refine nx_norm ?_
      have hq := bindO_inv hr
      clear hr
      obtain ⟨o, hr, hk⟩ := hq
      refine jp_mono (J := g64_J1 x4 o) ?_ ?_
      · clear hk
        have hq := cond_inv hr
        clear hr
        rcases hq with ⟨rfl, hr⟩ | ⟨rfl, hr⟩
        · refine w_condT rfl ?_
          refine w_seq ?_
          refine w_ops ?_
          refine wo_step (v := (.i .i64 x0_1)) (s_pure (p_mv g0)) ?_
          refine wo_step (v := (.i .i64 x4)) (s_pure (p_mv g4)) ?_
          have hq := bindP_inv hr
          clear hr
          obtain ⟨v15, m_3, e15, hr⟩ := hq
          have hq := asI_inv hr
          clear hr
          obtain ⟨x15, rfl, hr⟩ := hq
          refine wo_step (v := (.i .i64 x15)) (s_call (mc rfl mn) (callM_le hM.call e15)) ?_
          have hq := forceI_inv hr
          clear hr
          obtain ⟨x16, e16, hr⟩ := hq
          refine wo_step (v := (.i .i64 x16)) (s_pure (p_bin rfl rfl (b_sub.trans (ci e16)))) ?_
          refine wo_step (v := (.i .i64 x16)) (s_pure (p_mv rfl)) ?_
          refine wo_nil ?_
          refine nx_norm ?_
          refine w_ops ?_
          refine wo_step (v := v3) (s_pure (p_mv g3)) ?_
          refine wo_step (v := (.i .i64 x4)) (s_pure (p_mv g4)) ?_
          have hq := bindP_inv hr
          clear hr
          obtain ⟨v19, m_4, e19, hr⟩ := hq
          refine wo_step (v := v19) (s_bsl (qc rfl qn) e19) ?_
          have hq := bindP_inv hr
          clear hr
          obtain ⟨v20, m_5, e20, hr⟩ := hq
          refine wo_step (v := v20) (s_app rfl rfl e20) ?_
          refine wo_step (v := v20) (s_pure (p_mv rfl)) ?_
          refine wo_nil ?_
          cases hr
          exact ⟨_, _, rfl, rfl, rfl, gl rfl, gl rfl, gl g4⟩
        · refine w_condF rfl ?_
          refine w_skip ?_
          cases hr
          exact ⟨_, _, rfl, rfl, rfl, gl g0, gl g3, gl g4⟩
      · clear hr
        have hr := hk
        clear hk
        obtain ⟨x0_2, v3_1, m_6⟩ := o
        rintro _ mm t_2 ⟨rfl, rfl, g0, g3, g4⟩
        refine bk_norm ?_
        refine nx_norm ?_
        refine w_ops ?_
        refine wo_step (v := (.i .i64 x4)) (s_pure (p_mv g4)) ?_
        have hq := forceI_inv hr
        clear hr
        obtain ⟨x8, e8, hr⟩ := hq
        refine wo_step (v := (.i .i64 x8)) (s_pure (p_bin rfl rfl (b_sub.trans (ci e8)))) ?_
        refine wo_step (v := (.i .i64 x8)) (s_pure (p_mv rfl)) ?_
        refine wo_nil ?_
        cases hr
        exact ⟨_, _, rfl, rfl, rfl, gl g0, gl g3, gl rfl⟩
    · refine w_condF rfl ?_
      refine w_exit ?_
      refine nx_exit ?_
      cases hr
      exact ⟨_, _, rfl, ne_norm_exit, rfl, rfl, gl g3⟩
  · obtain ⟨v3_2, m_7⟩ := o_1
    rintro _ mm_1 t_3 ⟨rfl, rfl, g3⟩
    refine bk_hit ?_
    refine nx_norm ?_
    refine w_seq ?_
    refine w_ops ?_
    refine wo_step (v := v3_2) (s_pure (p_mv g3)) ?_
    refine wo_step (v := v3_2) (s_pure (p_mv rfl)) ?_
    refine wo_nil ?_
    refine nx_norm ?_
    refine w_ret ?_
    exact qf ret_ok (rt rfl rn) hr

/- dibber/dibberref09.plus -/

def g65 (M : Means) (ro : List ABlk) (x0 : Int) (x1 : Int) (m0 : Mm) : Option (AVal × Heap × Nat × Nat) :=
  forceI (mxV false 2305843009213693952 x0) fun x6 =>
  forceI (mxV false 2305843009213693952 x1) fun x8 =>
  forceI (wr .i64 (x6 + x8)) fun x9 =>
  forceI (mxV false 2305843009213693952 x9) fun x10 =>
  finM m0.h.length (tupA [(.i .i64 x10)]) m0

theorem g65_ok {ro : List ABlk} {O : Caller} {M : Means} (hM : M.Ok ⟨F, O⟩ ro) {x0 x1 h r} (ho : O 65 [(.i .i64 x0), (.i .i64 x1)] h = none) (hr : g65 M ro x0 x1 ⟨h, h.length, h.length⟩ = some r) : callX ⟨F, O⟩ ro 65 [(.i .i64 x0), (.i .i64 x1)] h = some r := by
  refine callX_of (F := ⟨F, O⟩) (fn := fn65) (g := g65 M ro x0 x1) ho rfl rfl hr ?_
  clear ho
  clear hr
  intro m0 t0 ht hr
  have g0 : t0.get 0 = (.i .i64 x0) := ht 0
  have g1 : t0.get 1 = (.i .i64 x1) := ht 1
  clear ht
  unfold g65 at hr
  refine w_seq ?_
  refine w_ops ?_
  refine wo_step (v := (.i .i64 0)) (s_pure (p_mv rfl)) ?_
  refine wo_nil ?_
  refine nx_norm ?_
  refine w_seq ?_
  refine w_ops ?_
  refine wo_step (v := (.i .i64 x0)) (s_pure (p_mv g0)) ?_
  have hq := forceI_inv hr
  clear hr
  obtain ⟨x6, e6, hr⟩ := hq
  refine wo_step (v := (.i .i64 x6)) (s_pure ((p_mx rfl rfl).trans (ci e6))) ?_
  refine wo_step (v := (.i .i64 x1)) (s_pure (p_mv g1)) ?_
  have hq := forceI_inv hr
  clear hr
  obtain ⟨x8, e8, hr⟩ := hq
  refine wo_step (v := (.i .i64 x8)) (s_pure ((p_mx rfl rfl).trans (ci e8))) ?_
  have hq := forceI_inv hr
  clear hr
  obtain ⟨x9, e9, hr⟩ := hq
  refine wo_step (v := (.i .i64 x9)) (s_pure (p_bin rfl rfl (b_add.trans (ci e9)))) ?_
  have hq := forceI_inv hr
  clear hr
  obtain ⟨x10, e10, hr⟩ := hq
  refine wo_step (v := (.i .i64 x10)) (s_pure ((p_mx rfl rfl).trans (ci e10))) ?_
  refine wo_step (v := (.i .i64 x10)) (s_pure (p_mv rfl)) ?_
  refine wo_nil ?_
  refine nx_norm ?_
  refine w_ret ?_
  exact qf ret_ok (rt rfl rn) hr

/- dibber/seed.fibonacci -/
abbrev g71_I0 (x0 : Int) (x6 : Int) (m0 : Mm) (s : Int × Int × Int) (m1 : Mm) (t1 : Tr) : Prop :=
  match s with
  | (x3, x4, x7) => m0 = m1 ∧ t1.get 3 = (.i .i64 x3) ∧ t1.get 4 = (.i .i64 x4) ∧ t1.get 7 = (.i .i64 x7) ∧ t1.get 0 = (.i .i64 x0) ∧ t1.get 6 = (.i .i64 x6)
abbrev g71_J0 (x0 : Int) (x6 : Int) (m0 : Mm) (o : (Int × Int)) (e : AExit) (m1 : Mm) (t1 : Tr) : Prop :=
  match o with
  | (y3, y4) => e = (.exit 0) ∧ m0 = m1 ∧ t1.get 3 = (.i .i64 y3) ∧ t1.get 4 = (.i .i64 y4) ∧ t1.get 0 = (.i .i64 x0)
def g71_b0 (M : Means) (ro : List ABlk) (x0 : Int) (x6 : Int) (m0 : Mm) (x3 : Int) (x4 : Int) (x7 : Int) : Option ((Int × Int × Int) ⊕ ((Int × Int))) :=
  forceB (ltI x7 x6) fun c8 =>
  cond c8 (
    forceI (wr .i64 (x3 + x4)) fun x12 =>
    forceI (mxV false x12 1152921504606846977) fun x13 =>
    forceI (wr .i64 (x7 + 1)) fun x14 =>
    some (.inl (x4, x13, x14))) (
    some (.inr (x3, x4)))
abbrev g71_I1 (x16 : Int) (m0 : Mm) (s : Int × Int × Int) (m1 : Mm) (t1 : Tr) : Prop :=
  match s with
  | (x3_2, x4_2, x17) => m0 = m1 ∧ t1.get 3 = (.i .i64 x3_2) ∧ t1.get 4 = (.i .i64 x4_2) ∧ t1.get 17 = (.i .i64 x17) ∧ t1.get 16 = (.i .i64 x16)
abbrev g71_J1 (x16 : Int) (m0 : Mm) (o : Int) (e : AExit) (m1 : Mm) (t1 : Tr) : Prop :=
  match o with
  | y3 => e = (.exit 2) ∧ m0 = m1 ∧ t1.get 3 = (.i .i64 y3)
def g71_b1 (M : Means) (ro : List ABlk) (x16 : Int) (m0 : Mm) (x3_2 : Int) (x4_2 : Int) (x17 : Int) : Option ((Int × Int × Int) ⊕ (Int)) :=
  forceB (ltI x17 x16) fun c18 =>
  cond c18 (
    forceI (wr .i64 (x4_2 - x3_2)) fun x21 =>
    forceI (wr .i64 (x17 + 1)) fun x23 =>
    some (.inl (x21, x3_2, x23))) (
    some (.inr x3_2))
def g71 (M : Means) (ro : List ABlk) (x0 : Int) (m0 : Mm) : Option (AVal × Heap × Nat × Nat) :=
  forceI (mxV false x0 89) fun x6 =>
  bindO (M.loop (S := Int × Int × Int) (R := (Int × Int)) (fun s => g71_b0 M ro x0 x6 m0 s.1 s.2.1 s.2.2) (0, 1, 0)) fun ⟨x3_1, x4_1⟩ =>
  forceI (wr .i64 (0 - x0)) fun x16 =>
  bindO (M.loop (S := Int × Int × Int) (R := Int) (fun s => g71_b1 M ro x16 m0 s.1 s.2.1 s.2.2) (x3_1, x4_1, 0)) fun x3_3 =>
  finM m0.h.length (tupA [(.i .i64 x3_3)]) m0

theorem g71_ok {ro : List ABlk} {O : Caller} {M : Means} (hM : M.Ok ⟨F, O⟩ ro) {x0 h r} (ho : O 71 [(.i .i64 x0)] h = none) (hr : g71 M ro x0 ⟨h, h.length, h.length⟩ = some r) : callX ⟨F, O⟩ ro 71 [(.i .i64 x0)] h = some r := by
  refine callX_of (F := ⟨F, O⟩) (fn := fn71) (g := g71 M ro x0) ho rfl rfl hr ?_
  clear ho
  clear hr
  intro m0 t0 ht hr
  have g0 : t0.get 0 = (.i .i64 x0) := ht 0
  clear ht
  unfold g71 at hr
  refine w_seq ?_
  refine w_ops ?_
  refine wo_step (v := (.i .i64 0)) (s_pure (p_mv rfl)) ?_
  refine wo_nil ?_
  refine nx_norm ?_
  refine w_seq ?_
  refine w_ops ?_
  refine wo_step (v := (.i .i64 0)) (s_pure (p_mv rfl)) ?_
  refine wo_step (v := (.i .i64 1)) (s_pure (p_mv rfl)) ?_
  refine wo_nil ?_
  refine nx_norm ?_
  refine w_seq ?_
  refine w_seq ?_
  refine w_ops ?_
  refine wo_step (v := (.i .i64 x0)) (s_pure (p_mv g0)) ?_
  have hq := forceI_inv hr
  clear hr
  obtain ⟨x6, e6, hr⟩ := hq
  refine wo_step (v := (.i .i64 x6)) (s_pure ((p_mx rfl rfl).trans (ci e6))) ?_
  refine wo_step (v := (.i .i64 0)) (s_pure (p_mv rfl)) ?_
  refine wo_nil ?_
  refine nx_norm ?_
  refine w_block ?_
  have hq := bindO_inv hr
  clear hr
  obtain ⟨o, hl_1, hr⟩ := hq
  obtain ⟨n_1, hl_1⟩ := hM.loop _ _ _ hl_1
  refine jp_mono (w_loop _ (g71_I0 x0 x6 m0) (g71_J0 x0 x6 m0) ?_ n_1 _ _ _ _ hl_1 ⟨rfl, gl rfl, gl rfl, gl rfl, gl g0, gl rfl⟩) ?_
  · clear hr hl_1
    intro s mm_3 t_1 o hi hr
    obtain ⟨x3, x4, x7⟩ := s
    obtain ⟨rfl, g3, g4, g7, g0, g6⟩ := hi
    unfold g71_b0 at hr
    refine w_seq ?_
    refine w_ops ?_
    have hq := forceB_inv hr
    clear hr
    obtain ⟨c8, e8, hr⟩ := hq
    refine wo_step (v := (.b c8)) (s_pure (p_bin g7 g6 (b_lss.trans (cb e8)))) ?_
    refine wo_nil ?_
    refine nx_norm ?_
    refine w_seq ?_
    have hq := cond_inv hr
    clear hr
    rcases hq with ⟨rfl, hr⟩ | ⟨rfl, hr⟩
    · refine w_condT rfl ?_
      refine w_skip ?_
      refine nx_norm ?_
      refine w_seq ?_
      refine w_block ?_
      refine w_ops ?_
      refine wo_step (v := (.i .i64 x4)) (s_pure (p_mv g4)) ?_
      refine wo_step (v := (.i .i64 x3)) (s_pure (p_mv g3)) ?_
      refine wo_step (v := (.i .i64 x4)) (s_pure (p_mv g4)) ?_
      have hq := forceI_inv hr
      clear hr
      obtain ⟨x12, e12, hr⟩ := hq
      refine wo_step (v := (.i .i64 x12)) (s_pure (p_bin rfl rfl (b_add.trans (ci e12)))) ?_
      have hq := forceI_inv hr
      clear hr
      obtain ⟨x13, e13, hr⟩ := hq
      refine wo_step (v := (.i .i64 x13)) (s_pure ((p_mx rfl rfl).trans (ci e13))) ?_
      refine wo_step (v := (.i .i64 x4)) (s_pure (p_mv rfl)) ?_
      refine wo_step (v := (.i .i64 x13)) (s_pure (p_mv rfl)) ?_
      refine wo_nil ?_
      refine bk_norm ?_
      refine nx_norm ?_
      refine w_ops ?_
      have hq := forceI_inv hr
      clear hr
      obtain ⟨x14, e14, hr⟩ := hq
      refine wo_step (v := (.i .i64 x14)) (s_pure (p_bin g7 rfl (b_add.trans (ci e14)))) ?_
      refine wo_step (v := (.i .i64 x14)) (s_pure (p_mv rfl)) ?_
      refine wo_nil ?_
      cases hr
      exact ⟨_, _, rfl, rfl, rfl, gl rfl, gl rfl, gl rfl, gl g0, gl g6⟩
    · refine w_condF rfl ?_
      refine w_exit ?_
      refine nx_exit ?_
      cases hr
      exact ⟨_, _, rfl, ne_norm_exit, rfl, rfl, gl g3, gl g4, gl g0⟩
  · obtain ⟨x3_1, x4_1⟩ := o
    rintro _ mm_2 t_2 ⟨rfl, rfl, g3, g4, g0⟩
    refine bk_hit ?_
    refine nx_norm ?_
    refine w_seq ?_
    refine w_seq ?_
    refine w_ops ?_
    refine wo_step (v := (.i .i64 x0)) (s_pure (p_mv g0)) ?_
    have hq := forceI_inv hr
    clear hr
    obtain ⟨x16, e16, hr⟩ := hq
    refine wo_step (v := (.i .i64 x16)) (s_pure ((p_neg rfl).trans (ci e16))) ?_
    refine wo_step (v := (.i .i64 0)) (s_pure (p_mv rfl)) ?_
    refine wo_nil ?_
    refine nx_norm ?_
    refine w_block ?_
    have hq := bindO_inv hr
    clear hr
    obtain ⟨o_1, hl, hr⟩ := hq
    obtain ⟨n, hl⟩ := hM.loop _ _ _ hl
    refine jp_mono (w_loop _ (g71_I1 x16 m0) (g71_J1 x16 m0) ?_ n _ _ _ _ hl ⟨rfl, gl g3, gl g4, gl rfl, gl rfl⟩) ?_
    · clear hr hl
      intro s mm_1 t_3 o hi hr
      obtain ⟨x3_2, x4_2, x17⟩ := s
      obtain ⟨rfl, g3, g4, g17, g16⟩ := hi
      unfold g71_b1 at hr
      refine w_seq ?_
      refine w_ops ?_
      have hq := forceB_inv hr
      clear hr
      obtain ⟨c18, e18, hr⟩ := hq
      refine wo_step (v := (.b c18)) (s_pure (p_bin g17 g16 (b_lss.trans (cb e18)))) ?_
      refine wo_nil ?_
      refine nx_norm ?_
      refine w_seq ?_
      have hq := cond_inv hr
      clear hr
      rcases hq with ⟨rfl, hr⟩ | ⟨rfl, hr⟩
      · refine w_condT rfl ?_
        refine w_skip ?_
        refine nx_norm ?_
        refine w_seq ?_
        refine w_block ?_
        refine w_ops ?_
        refine wo_step (v := (.i .i64 x4_2)) (s_pure (p_mv g4)) ?_
        refine wo_step (v := (.i .i64 x3_2)) (s_pure (p_mv g3)) ?_
        have hq := forceI_inv hr
        clear hr
        obtain ⟨x21, e21, hr⟩ := hq
        refine wo_step (v := (.i .i64 x21)) (s_pure (p_bin rfl rfl (b_sub.trans (ci e21)))) ?_
        refine wo_step (v := (.i .i64 x3_2)) (s_pure (p_mv g3)) ?_
        refine wo_step (v := (.i .i64 x21)) (s_pure (p_mv rfl)) ?_
        refine wo_step (v := (.i .i64 x3_2)) (s_pure (p_mv rfl)) ?_
        refine wo_nil ?_
        refine bk_norm ?_
        refine nx_norm ?_
        refine w_ops ?_
        have hq := forceI_inv hr
        clear hr
        obtain ⟨x23, e23, hr⟩ := hq
        refine wo_step (v := (.i .i64 x23)) (s_pure (p_bin g17 rfl (b_add.trans (ci e23)))) ?_
        refine wo_step (v := (.i .i64 x23)) (s_pure (p_mv rfl)) ?_
        refine wo_nil ?_
        cases hr
        exact ⟨_, _, rfl, rfl, rfl, gl rfl, gl rfl, gl rfl, gl g16⟩
      · refine w_condF rfl ?_
        refine w_exit ?_
        refine nx_exit ?_
        cases hr
        exact ⟨_, _, rfl, ne_norm_exit, rfl, rfl, gl g3⟩
    · obtain ⟨x3_3, ho⟩ : ∃ z, z = o_1 := ⟨_, rfl⟩
      subst ho
      rintro _ mm t_4 ⟨rfl, rfl, g3⟩
      refine bk_hit ?_
      refine nx_norm ?_
      refine w_seq ?_
      refine w_ops ?_
      refine wo_step (v := (.i .i64 x3_3)) (s_pure (p_mv g3)) ?_
      refine wo_step (v := (.i .i64 x3_3)) (s_pure (p_mv rfl)) ?_
      refine wo_nil ?_
      refine nx_norm ?_
      refine w_ret ?_
      exact qf ret_ok (rt rfl rn) hr

/- bytes.Repeat -/
abbrev g73_J0 (v0 : AVal) (x26 : Int) (m_2 : Mm) (o : Bool) (m1 : Mm) (t1 : Tr) : Prop :=
  match o with
  | c32 => m_2 = m1 ∧ t1.get 32 = (.b c32) ∧ t1.get 0 = v0 ∧ t1.get 6 = (.i .u64 x26)
abbrev g73_J1 (v0 : AVal) (x35 : Int) (m_2 : Mm) (o : Int) (e : AExit) (m1 : Mm) (t1 : Tr) : Prop :=
  match o with
  | y8 => e = .norm ∧ m_2 = m1 ∧ t1.get 8 = (.i .i64 y8) ∧ t1.get 0 = v0 ∧ t1.get 7 = (.i .i64 x35)
abbrev g73_J2 (v0 : AVal) (x35 : Int) (m_2 : Mm) (o : Int) (e : AExit) (m1 : Mm) (t1 : Tr) : Prop :=
  match o with
  | y8 => e = .norm ∧ m_2 = m1 ∧ t1.get 8 = (.i .i64 y8) ∧ t1.get 0 = v0 ∧ t1.get 7 = (.i .i64 x35)
abbrev g73_I3 (x35 : Int) (x8_1 : Int) (v57 : AVal) (s : Int × Mm) (m1 : Mm) (t1 : Tr) : Prop :=
  match s with
  | (x10, m_6) => m_6 = m1 ∧ t1.get 10 = (.i .i64 x10) ∧ t1.get 7 = (.i .i64 x35) ∧ t1.get 8 = (.i .i64 x8_1) ∧ t1.get 9 = v57
abbrev g73_J3 (x35 : Int) (x8_1 : Int) (v57 : AVal) (o : Mm) (e : AExit) (m1 : Mm) (t1 : Tr) : Prop :=
  match o with
  | mo => e = (.exit 0) ∧ mo = m1 ∧ t1.get 9 = v57
def g73_b3 (M : Means) (ro : List ABlk) (x35 : Int) (x8_1 : Int) (v57 : AVal) (x10 : Int) (m_6 : Mm) : Option ((Int × Mm) ⊕ (Mm)) :=
  forceB (ltI x10 x35) fun c63 =>
  cond c63 (
    forceI (mxV false x10 x8_1) fun x66 =>
    bindO (evP .e (.slS 1 (.c v57) (some (.c (.i .i64 x10))) none none)) fun v70 =>
    bindO (evP .e (.slS 1 (.c v57) none (some (.c (.i .i64 x66))) none)) fun v73 =>
    bindP (stepM ro m_6 (.cpy 1 (.c v70) (.c v73))) fun v74 m_7 =>
    asI .i64 v74 fun x74 =>
    forceI (wr .i64 (x10 + x74)) fun x75 =>
    some (.inl (x75, m_7))) (
    some (.inr m_6))
def g73 (M : Means) (ro : List ABlk) (v0 : AVal) (x1 : Int) (m0 : Mm) : Option (AVal × Heap × Nat × Nat) :=
  forceB (eqI x1 0) fun c13 =>
  cond c13 (
    bindP (stepM ro m0 (.bsl 5 1 [(AVal.i IntKind.u8 0)] 0 [])) fun v14 m_1 =>
    finM m0.h.length (tupA [v14]) m_1) (
    forceB (ltI x1 0) fun c16 =>
    cond c16 (
      none) (
      bindO (evP .e (.len false (.c v0))) fun v20 =>
      asI .i64 v20 fun x20 =>
      forceI (wr .u64 x20) fun x21 =>
      forceI (wr .u64 x1) fun x23 =>
      bindP (callM M.call m0 78 [(.i .u64 x21), (.i .u64 x23)]) fun v24 m_2 =>
      bindO (evP .e (.ext 0 (.c v24))) fun v25 =>
      asI .u64 v25 fun x25 =>
      bindO (evP .e (.ext 1 (.c v24))) fun v26 =>
      asI .u64 v26 fun x26 =>
      forceB (ltI 0 x25) fun c28 =>
      bindO (cond c28 (
        some true) (
        forceB (ltI 9223372036854775807 x26) fun c31 =>
        some c31)) fun c32 =>
      cond c32 (
        none) (
        forceI (wr .i64 x26) fun x35 =>
        bindO (evP .e (.len false (.c v0))) fun v37 =>
        asI .i64 v37 fun x37 =>
        forceB (eqI x37 0) fun c38 =>
        cond c38 (
          bindP (stepM ro m_2 (.bsl 5 1 [(AVal.i IntKind.u8 0)] 0 [])) fun v39 m_3 =>
          finM m0.h.length (tupA [v39]) m_3) (
          forceB (ltI 8192 x35) fun c42 =>
          bindO (α := Int) (
            cond c42 (
              bindO (evP .e (.len false (.c v0))) fun v44 =>
              asI .i64 v44 fun x44 =>
              chk (!eqI x44 (.ofNat 0)) <|
              forceI (wr .i64 (Int.tdiv 8192 x44)) fun x45 =>
              bindO (evP .e (.len false (.c v0))) fun v47 =>
              asI .i64 v47 fun x47 =>
              forceI (wr .i64 (x45 * x47)) fun x48 =>
              forceB (eqI x48 0) fun c50 =>
              bindO (α := Int) (
                cond c50 (
                  bindO (evP .e (.len false (.c v0))) fun v52 =>
                  asI .i64 v52 fun x52 =>
                  some x52) (
                  some x48)) fun x8 =>
              some x8) (
              some x35)) fun x8_1 =>
          bindP (stepM ro m_2 (.mnz 5 (.c (.i .i64 x35)))) fun v54 m_4 =>
          bindO (evP .e (.slS 1 (.c v54) none (some (.c (.i .i64 x35))) (some (.c (.i .i64 x35))))) fun v57 =>
          bindP (stepM ro m_4 (.cpy 1 (.c v57) (.c v0))) fun v60 m_5 =>
          asI .i64 v60 fun x60 =>
          bindO (M.loop (S := Int × Mm) (R := Mm) (fun s => g73_b3 M ro x35 x8_1 v57 s.1 s.2) (x60, m_5)) fun m_8 =>
          finM m0.h.length (tupA [v57]) m_8))))

theorem g73_ok {ro : List ABlk} {O : Caller} {M : Means} (hM : M.Ok ⟨F, O⟩ ro) {v0 x1 h r} (ho : O 73 [v0, (.i .i64 x1)] h = none) (hr : g73 M ro v0 x1 ⟨h, h.length, h.length⟩ = some r) : callX ⟨F, O⟩ ro 73 [v0, (.i .i64 x1)] h = some r := by
  refine callX_of (F := ⟨F, O⟩) (fn := fn73) (g := g73 M ro v0 x1) ho rfl rfl hr ?_
  clear ho
  clear hr
  intro m0 t0 ht hr
  have g0 : t0.get 0 = v0 := ht 0
  have g1 : t0.get 1 = (.i .i64 x1) := ht 1
  clear ht
  unfold g73 at hr
  refine w_seq ?_
  refine w_ops ?_
  refine wo_step (v := AVal.nsl) (s_pure (p_mv rfl)) ?_
  refine wo_nil ?_
  refine nx_norm ?_
  refine w_seq ?_
  refine w_seq ?_
  refine w_ops ?_
  refine wo_step (v := (.i .i64 x1)) (s_pure (p_mv g1)) ?_
  have hq := forceB_inv hr
  clear hr
  obtain ⟨c13, e13, hr⟩ := hq
  refine wo_step (v := (.b c13)) (s_pure (p_bin rfl rfl (b_eql.trans (cb e13)))) ?_
  refine wo_nil ?_
  refine nx_norm ?_
  have hq := cond_inv hr
  clear hr
  rcases hq with ⟨rfl, hr⟩ | ⟨rfl, hr⟩
  · refine w_condT rfl ?_
    refine w_seq ?_
    refine w_ops ?_
    have hq := bindP_inv hr
    clear hr
    obtain ⟨v14, m_1, e14, hr⟩ := hq
    refine wo_step (v := v14) (s_bsl qn e14) ?_
    refine wo_step (v := v14) (s_pure (p_mv rfl)) ?_
    refine wo_nil ?_
    refine nx_norm ?_
    refine w_ret ?_
    refine nx_ret ?_
    exact qf ret_ok (rt rfl rn) hr
  · refine w_condF rfl ?_
    refine w_skip ?_
    refine nx_norm ?_
    refine w_seq ?_
    refine w_seq ?_
    refine w_ops ?_
    refine wo_step (v := (.i .i64 x1)) (s_pure (p_mv g1)) ?_
    have hq := forceB_inv hr
    clear hr
    obtain ⟨c16, e16, hr⟩ := hq
    refine wo_step (v := (.b c16)) (s_pure (p_bin rfl rfl (b_lss.trans (cb e16)))) ?_
    refine wo_nil ?_
    refine nx_norm ?_
    have hq := cond_inv hr
    clear hr
    rcases hq with ⟨rfl, hr⟩ | ⟨rfl, hr⟩
    · refine w_condT rfl ?_
      cases hr
    · refine w_condF rfl ?_
      refine w_skip ?_
      refine nx_norm ?_
      refine w_seq ?_
      refine w_ops ?_
      refine wo_step (v := v0) (s_pure (p_mv g0)) ?_
      have hq := bindO_inv hr
      clear hr
      obtain ⟨v20, e20, hr⟩ := hq
      have hq := asI_inv hr
      clear hr
      obtain ⟨x20, rfl, hr⟩ := hq
      refine wo_step (v := (.i .i64 x20)) (s_pure (o_len rfl e20)) ?_
      have hq := forceI_inv hr
      clear hr
      obtain ⟨x21, e21, hr⟩ := hq
      refine wo_step (v := (.i .u64 x21)) (s_pure ((p_conv rfl).trans (ci e21))) ?_
      refine wo_step (v := (.i .i64 x1)) (s_pure (p_mv g1)) ?_
      have hq := forceI_inv hr
      clear hr
      obtain ⟨x23, e23, hr⟩ := hq
      refine wo_step (v := (.i .u64 x23)) (s_pure ((p_conv rfl).trans (ci e23))) ?_
      have hq := bindP_inv hr
      clear hr
      obtain ⟨v24, m_2, e24, hr⟩ := hq
      refine wo_step (v := v24) (s_call (mc rfl (mc rfl mn)) (callM_le hM.call e24)) ?_
      refine wo_step (v := v24) (s_pure (p_mv rfl)) ?_
      have hq := bindO_inv hr
      clear hr
      obtain ⟨v25, e25, hr⟩ := hq
      have hq := asI_inv hr
      clear hr
      obtain ⟨x25, rfl, hr⟩ := hq
      refine wo_step (v := (.i .u64 x25)) (s_pure (o_ext rfl e25)) ?_
      have hq := bindO_inv hr
      clear hr
      obtain ⟨v26, e26, hr⟩ := hq
      have hq := asI_inv hr
      clear hr
      obtain ⟨x26, rfl, hr⟩ := hq
      refine wo_step (v := (.i .u64 x26)) (s_pure (o_ext rfl e26)) ?_
      refine wo_step (v := (.i .u64 x25)) (s_pure (p_mv rfl)) ?_
      refine wo_step (v := (.i .u64 x26)) (s_pure (p_mv rfl)) ?_
      refine wo_nil ?_
      refine nx_norm ?_
      refine w_seq ?_
      refine w_seq ?_
      refine w_ops ?_
      refine wo_step (v := (.i .u64 x25)) (s_pure (p_mv rfl)) ?_
      have hq := forceB_inv hr
      clear hr
      obtain ⟨c28, e28, hr⟩ := hq
      refine wo_step (v := (.b c28)) (s_pure (p_bin rfl rfl (b_gtr.trans (cb e28)))) ?_
      refine wo_step (v := (.b c28)) (s_pure (p_mv rfl)) ?_
      have hq := bindO_inv hr
      clear hr
      obtain ⟨o, hr, hk⟩ := hq
      refine wo_join 3 (g73_J0 v0 x26 m_2 o) ?_ ?_
      · clear hk
        have hq := cond_inv hr
        clear hr
        rcases hq with ⟨rfl, hr⟩ | ⟨rfl, hr⟩
        · refine wo_skip (v := (.b true)) rfl rfl ?_
          refine wo_skip (v := (.b true)) rfl rfl ?_
          refine wo_step (v := (.b true)) (s_pure (p_pickT rfl rfl)) ?_
          refine wo_nil ?_
          cases hr
          exact ⟨_, _, rfl, rfl, gl rfl, gl g0, gl rfl⟩
        · refine wo_take (v := (.i .u64 x26)) rfl (s_pure (p_mv rfl)) ?_
          have hq := forceB_inv hr
          clear hr
          obtain ⟨c31, e31, hr⟩ := hq
          refine wo_take (v := (.b c31)) rfl (s_pure (p_bin rfl rfl (b_gtr.trans (cb e31)))) ?_
          refine wo_step (v := (.b c31)) (s_pure (p_pickF rfl rfl)) ?_
          refine wo_nil ?_
          cases hr
          exact ⟨_, _, rfl, rfl, gl rfl, gl g0, gl rfl⟩
      · clear hr
        have hr := hk
        clear hk
        obtain ⟨c32, ho⟩ : ∃ z, z = o := ⟨_, rfl⟩
        subst ho
        rintro mm t_1 ⟨rfl, g32, g0, g6⟩
        refine wo_nil ?_
        refine nx_norm ?_
        have hq := cond_inv hr
        clear hr
        rcases hq with ⟨rfl, hr⟩ | ⟨rfl, hr⟩
        · refine w_condT g32 ?_
          cases hr
        · refine w_condF g32 ?_
          refine w_skip ?_
          refine nx_norm ?_
          refine w_seq ?_
          refine w_ops ?_
          refine wo_step (v := (.i .u64 x26)) (s_pure (p_mv g6)) ?_
          have hq := forceI_inv hr
          clear hr
          obtain ⟨x35, e35, hr⟩ := hq
          refine wo_step (v := (.i .i64 x35)) (s_pure ((p_conv rfl).trans (ci e35))) ?_
          refine wo_step (v := (.i .i64 x35)) (s_pure (p_mv rfl)) ?_
          refine wo_nil ?_
          refine nx_norm ?_
          refine w_seq ?_
          refine w_seq ?_
          refine w_ops ?_
          refine wo_step (v := v0) (s_pure (p_mv g0)) ?_
          have hq := bindO_inv hr
          clear hr
          obtain ⟨v37, e37, hr⟩ := hq
          have hq := asI_inv hr
          clear hr
          obtain ⟨x37, rfl, hr⟩ := hq
          refine wo_step (v := (.i .i64 x37)) (s_pure (o_len rfl e37)) ?_
          have hq := forceB_inv hr
          clear hr
          obtain ⟨c38, e38, hr⟩ := hq
          refine wo_step (v := (.b c38)) (s_pure (p_bin rfl rfl (b_eql.trans (cb e38)))) ?_
          refine wo_nil ?_
          refine nx_norm ?_
          have hq := cond_inv hr
          clear hr
          rcases hq with ⟨rfl, hr⟩ | ⟨rfl, hr⟩
          · refine w_condT rfl ?_
            refine w_seq ?_
            refine w_ops ?_
            have hq := bindP_inv hr
            clear hr
            obtain ⟨v39, m_3, e39, hr⟩ := hq
            refine wo_step (v := v39) (s_bsl qn e39) ?_
            refine wo_step (v := v39) (s_pure (p_mv rfl)) ?_
            refine wo_nil ?_
            refine nx_norm ?_
            refine w_ret ?_
            refine nx_ret ?_
            exact qf ret_ok (rt rfl rn) hr
          · refine w_condF rfl ?_
            refine w_skip ?_
            refine nx_norm ?_
            refine w_seq ?_
            refine w_ops ?_
            refine wo_step (v := (.i .i64 x35)) (s_pure (p_mv rfl)) ?_
            refine wo_step (v := (.i .i64 x35)) (s_pure (p_mv rfl)) ?_
            refine wo_nil ?_
            refine nx_norm ?_
            refine w_seq ?_
            refine w_seq ?_
            refine w_ops ?_
            refine wo_step (v := (.i .i64 x35)) (s_pure (p_mv rfl)) ?_
            have hq := forceB_inv hr
            clear hr
            obtain ⟨c42, e42, hr⟩ := hq
            refine wo_step (v := (.b c42)) (s_pure (p_bin rfl rfl (b_gtr.trans (cb e42)))) ?_
            refine wo_nil ?_
            refine nx_norm ?_
            have hq := bindO_inv hr
            clear hr
            obtain ⟨o_1, hr, hk⟩ := hq
            refine jp_mono (J := g73_J1 v0 x35 m_2 o_1) ?_ ?_
            · clear hk
              have hq := cond_inv hr
              clear hr
              rcases hq with ⟨rfl, hr⟩ | ⟨rfl, hr⟩
              · refine w_condT rfl ?_
                refine w_seq ?_
                refine w_ops ?_
                refine wo_step (v := v0) (s_pure (p_mv g0)) ?_
                have hq := bindO_inv hr
                clear hr
                obtain ⟨v44, e44, hr⟩ := hq
                have hq := asI_inv hr
                clear hr
                obtain ⟨x44, rfl, hr⟩ := hq
                refine wo_step (v := (.i .i64 x44)) (s_pure (o_len rfl e44)) ?_
                have hq := chk_inv hr
                clear hr
                obtain ⟨hc45, hr⟩ := hq
                have hq := forceI_inv hr
                clear hr
                obtain ⟨x45, e45, hr⟩ := hq
                refine wo_step (v := (.i .i64 x45)) (s_pure (p_bin rfl rfl ((b_quo hc45).trans (ci e45)))) ?_
                refine wo_step (v := v0) (s_pure (p_mv g0)) ?_
                have hq := bindO_inv hr
                clear hr
                obtain ⟨v47, e47, hr⟩ := hq
                have hq := asI_inv hr
                clear hr
                obtain ⟨x47, rfl, hr⟩ := hq
                refine wo_step (v := (.i .i64 x47)) (s_pure (o_len rfl e47)) ?_
                have hq := forceI_inv hr
                clear hr
                obtain ⟨x48, e48, hr⟩ := hq
                refine wo_step (v := (.i .i64 x48)) (s_pure (p_bin rfl rfl (b_mul.trans (ci e48)))) ?_
                refine wo_step (v := (.i .i64 x48)) (s_pure (p_mv rfl)) ?_
                refine wo_nil ?_
                refine nx_norm ?_
                refine w_seq ?_
                refine w_ops ?_
                refine wo_step (v := (.i .i64 x48)) (s_pure (p_mv rfl)) ?_
                have hq := forceB_inv hr
                clear hr
                obtain ⟨c50, e50, hr⟩ := hq
                refine wo_step (v := (.b c50)) (s_pure (p_bin rfl rfl (b_eql.trans (cb e50)))) ?_
                refine wo_nil ?_
                refine nx_norm ?_
                have hq := bindO_inv hr
                clear hr
                obtain ⟨o_2, hr, hk⟩ := hq
                refine jp_mono (J := g73_J2 v0 x35 m_2 o_2) ?_ ?_
                · clear hk
                  have hq := cond_inv hr
                  clear hr
                  rcases hq with ⟨rfl, hr⟩ | ⟨rfl, hr⟩
                  · refine w_condT rfl ?_
                    refine w_ops ?_
                    refine wo_step (v := v0) (s_pure (p_mv g0)) ?_
                    have hq := bindO_inv hr
                    clear hr
                    obtain ⟨v52, e52, hr⟩ := hq
                    have hq := asI_inv hr
                    clear hr
                    obtain ⟨x52, rfl, hr⟩ := hq
                    refine wo_step (v := (.i .i64 x52)) (s_pure (o_len rfl e52)) ?_
                    refine wo_step (v := (.i .i64 x52)) (s_pure (p_mv rfl)) ?_
                    refine wo_nil ?_
                    cases hr
                    exact ⟨_, _, rfl, rfl, rfl, gl rfl, gl g0, gl rfl⟩
                  · refine w_condF rfl ?_
                    refine w_skip ?_
                    cases hr
                    exact ⟨_, _, rfl, rfl, rfl, gl rfl, gl g0, gl rfl⟩
                · clear hr
                  have hr := hk
                  clear hk
                  obtain ⟨x8, ho⟩ : ∃ z, z = o_2 := ⟨_, rfl⟩
                  subst ho
                  rintro _ mm_1 t_2 ⟨rfl, rfl, g8, g0, g7⟩
                  cases hr
                  exact ⟨_, _, rfl, rfl, rfl, gl g8, gl g0, gl g7⟩
              · refine w_condF rfl ?_
                refine w_skip ?_
                cases hr
                exact ⟨_, _, rfl, rfl, rfl, gl rfl, gl g0, gl rfl⟩
            · clear hr
              have hr := hk
              clear hk
              obtain ⟨x8_1, ho⟩ : ∃ z, z = o_1 := ⟨_, rfl⟩
              subst ho
              rintro _ mm_4 t_3 ⟨rfl, rfl, g8, g0, g7⟩
              refine nx_norm ?_
              refine w_seq ?_
              refine w_ops ?_
              refine wo_step (v := (.i .i64 x35)) (s_pure (p_mv g7)) ?_
              have hq := bindP_inv hr
              clear hr
              obtain ⟨v54, m_4, e54, hr⟩ := hq
              refine wo_step (v := v54) (s_mnz rfl e54) ?_
              refine wo_step (v := (.i .i64 x35)) (s_pure (p_mv g7)) ?_
              refine wo_step (v := (.i .i64 x35)) (s_pure (p_mv g7)) ?_
              have hq := bindO_inv hr
              clear hr
              obtain ⟨v57, e57, hr⟩ := hq
              refine wo_step (v := v57) (s_pure (o_slS rfl on (os rfl) (os rfl) e57)) ?_
              refine wo_step (v := v57) (s_pure (p_mv rfl)) ?_
              refine wo_nil ?_
              refine nx_norm ?_
              refine w_seq ?_
              refine w_ops ?_
              refine wo_step (v := v57) (s_pure (p_mv rfl)) ?_
              refine wo_step (v := v0) (s_pure (p_mv g0)) ?_
              have hq := bindP_inv hr
              clear hr
              obtain ⟨v60, m_5, e60, hr⟩ := hq
              have hq := asI_inv hr
              clear hr
              obtain ⟨x60, rfl, hr⟩ := hq
              refine wo_step (v := (.i .i64 x60)) (s_cpy rfl rfl e60) ?_
              refine wo_step (v := (.i .i64 x60)) (s_pure (p_mv rfl)) ?_
              refine wo_nil ?_
              refine nx_norm ?_
              refine w_seq ?_
              refine w_block ?_
              have hq := bindO_inv hr
              clear hr
              obtain ⟨o_3, hl, hr⟩ := hq
              obtain ⟨n, hl⟩ := hM.loop _ _ _ hl
              refine jp_mono (w_loop _ (g73_I3 x35 x8_1 v57) (g73_J3 x35 x8_1 v57) ?_ n _ _ _ _ hl ⟨rfl, gl rfl, gl g7, gl g8, gl rfl⟩) ?_
              · clear hr hl
                intro s mm_3 t_4 o hi hr
                obtain ⟨x10, m_6⟩ := s
                obtain ⟨rfl, g10, g7, g8, g9⟩ := hi
                unfold g73_b3 at hr
                refine w_seq ?_
                refine w_seq ?_
                refine w_ops ?_
                refine wo_step (v := (.i .i64 x10)) (s_pure (p_mv g10)) ?_
                refine wo_step (v := (.i .i64 x35)) (s_pure (p_mv g7)) ?_
                have hq := forceB_inv hr
                clear hr
                obtain ⟨c63, e63, hr⟩ := hq
                refine wo_step (v := (.b c63)) (s_pure (p_bin rfl rfl (b_lss.trans (cb e63)))) ?_
                refine wo_nil ?_
                refine nx_norm ?_
                have hq := cond_inv hr
                clear hr
                rcases hq with ⟨rfl, hr⟩ | ⟨rfl, hr⟩
                · refine w_condT rfl ?_
                  refine w_skip ?_
                  refine nx_norm ?_
                  refine w_block ?_
                  refine w_seq ?_
                  refine w_ops ?_
                  refine wo_step (v := (.i .i64 x10)) (s_pure (p_mv g10)) ?_
                  refine wo_step (v := (.i .i64 x8_1)) (s_pure (p_mv g8)) ?_
                  have hq := forceI_inv hr
                  clear hr
                  obtain ⟨x66, e66, hr⟩ := hq
                  refine wo_step (v := (.i .i64 x66)) (s_pure ((p_mx rfl rfl).trans (ci e66))) ?_
                  refine wo_step (v := (.i .i64 x66)) (s_pure (p_mv rfl)) ?_
                  refine wo_nil ?_
                  refine nx_norm ?_
                  refine w_ops ?_
                  refine wo_step (v := (.i .i64 x10)) (s_pure (p_mv g10)) ?_
                  refine wo_step (v := v57) (s_pure (p_mv g9)) ?_
                  refine wo_step (v := (.i .i64 x10)) (s_pure (p_mv g10)) ?_
                  have hq := bindO_inv hr
                  clear hr
                  obtain ⟨v70, e70, hr⟩ := hq
                  refine wo_step (v := v70) (s_pure (o_slS rfl (os rfl) on on e70)) ?_
                  refine wo_step (v := v57) (s_pure (p_mv g9)) ?_
                  refine wo_step (v := (.i .i64 x66)) (s_pure (p_mv rfl)) ?_
                  have hq := bindO_inv hr
                  clear hr
                  obtain ⟨v73, e73, hr⟩ := hq
                  refine wo_step (v := v73) (s_pure (o_slS rfl on (os rfl) on e73)) ?_
                  have hq := bindP_inv hr
                  clear hr
                  obtain ⟨v74, m_7, e74, hr⟩ := hq
                  have hq := asI_inv hr
                  clear hr
                  obtain ⟨x74, rfl, hr⟩ := hq
                  refine wo_step (v := (.i .i64 x74)) (s_cpy rfl rfl e74) ?_
                  have hq := forceI_inv hr
                  clear hr
                  obtain ⟨x75, e75, hr⟩ := hq
                  refine wo_step (v := (.i .i64 x75)) (s_pure (p_bin rfl rfl (b_add.trans (ci e75)))) ?_
                  refine wo_step (v := (.i .i64 x75)) (s_pure (p_mv rfl)) ?_
                  refine wo_nil ?_
                  refine bk_norm ?_
                  cases hr
                  exact ⟨_, _, rfl, rfl, rfl, gl rfl, gl g7, gl g8, gl g9⟩
                · refine w_condF rfl ?_
                  refine w_exit ?_
                  refine nx_exit ?_
                  cases hr
                  exact ⟨_, _, rfl, ne_norm_exit, rfl, rfl, gl g9⟩
              · obtain ⟨m_8, ho⟩ : ∃ z, z = o_3 := ⟨_, rfl⟩
                subst ho
                rintro _ mm_2 t_5 ⟨rfl, rfl, g9⟩
                refine bk_hit ?_
                refine nx_norm ?_
                refine w_seq ?_
                refine w_ops ?_
                refine wo_step (v := v57) (s_pure (p_mv g9)) ?_
                refine wo_step (v := v57) (s_pure (p_mv rfl)) ?_
                refine wo_nil ?_
                refine nx_norm ?_
                refine w_ret ?_
                exact qf ret_ok (rt rfl rn) hr

/- slices.Backward[[]int,int]-1 -/
abbrev g75_I0 (v0 : AVal) (v1 : AVal) (s : Int × Mm) (m1 : Mm) (t1 : Tr) : Prop :=
  match s with
  | (x3, m_1) => m_1 = m1 ∧ t1.get 3 = (.i .i64 x3) ∧ t1.get 0 = v0 ∧ t1.get 1 = v1
abbrev g75_J0 (v0 : AVal) (v1 : AVal) (o : (Mm ⊕ Mm)) (e : AExit) (m1 : Mm) (t1 : Tr) : Prop :=
  match o with
  | (.inl mo) => e = (.exit 0) ∧ mo = m1
  | (.inr mo) => e = .ret ∧ mo = m1
def g75_b0 (M : Means) (ro : List ABlk) (v0 : AVal) (v1 : AVal) (x3 : Int) (m_1 : Mm) : Option ((Int × Mm) ⊕ ((Mm ⊕ Mm))) :=
  forceB (!ltI x3 0) fun c8 =>
  cond c8 (
    bindO (ldM ro m_1 true 1 v1) fun v13 =>
    bindO (evP .e (.ixS 1 (.c v13) (.c (.i .i64 x3)))) fun v15 =>
    bindO (ldM ro m_1 true 1 v15) fun v16 =>
    asI .i64 v16 fun x16 =>
    bindP (callyM M.call M.round m_1 v0 [(.i .i64 x3), (.i .i64 x16)]) fun v17 m_2 =>
    asB v17 fun c17 =>
    forceB (!c17) fun c18 =>
    cond c18 (
      some (.inr (.inr m_2))) (
      forceI (wr .i64 (x3 - 1)) fun x10 =>
      some (.inl (x10, m_2)))) (
    some (.inr (.inl m_1)))
def g75 (M : Means) (ro : List ABlk) (v0 : AVal) (v1 : AVal) (m0 : Mm) : Option (AVal × Heap × Nat × Nat) :=
  bindO (ldM ro m0 true 1 v1) fun v4 =>
  bindO (evP .e (.len false (.c v4))) fun v5 =>
  asI .i64 v5 fun x5 =>
  forceI (wr .i64 (x5 - 1)) fun x6 =>
  bindO (M.loop (S := Int × Mm) (R := (Mm ⊕ Mm)) (fun s => g75_b0 M ro v0 v1 s.1 s.2) (x6, m0)) fun o => match o with
  | (.inl m_3) =>
    finM m0.h.length (tupA []) m_3
  | (.inr m_4) =>
    finM m0.h.length (tupA []) m_4

theorem g75_ok {ro : List ABlk} {O : Caller} {M : Means} (hM : M.Ok ⟨F, O⟩ ro) {v0 v1 h r} (ho : O 75 [v0, v1] h = none) (hr : g75 M ro v0 v1 ⟨h, h.length, h.length⟩ = some r) : callX ⟨F, O⟩ ro 75 [v0, v1] h = some r := by
  refine callX_of (F := ⟨F, O⟩) (fn := fn75) (g := g75 M ro v0 v1) ho rfl rfl hr ?_
  clear ho
  clear hr
  intro m0 t0 ht hr
  have g0 : t0.get 0 = v0 := ht 0
  have g1 : t0.get 1 = v1 := ht 1
  clear ht
  unfold g75 at hr
  refine w_seq ?_
  refine w_ops ?_
  have hq := bindO_inv hr
  clear hr
  obtain ⟨v4, e4, hr⟩ := hq
  refine wo_step (v := v4) (s_ld g1 e4) ?_
  have hq := bindO_inv hr
  clear hr
  obtain ⟨v5, e5, hr⟩ := hq
  have hq := asI_inv hr
  clear hr
  obtain ⟨x5, rfl, hr⟩ := hq
  refine wo_step (v := (.i .i64 x5)) (s_pure (o_len rfl e5)) ?_
  have hq := forceI_inv hr
  clear hr
  obtain ⟨x6, e6, hr⟩ := hq
  refine wo_step (v := (.i .i64 x6)) (s_pure (p_bin rfl rfl (b_sub.trans (ci e6)))) ?_
  refine wo_step (v := (.i .i64 x6)) (s_pure (p_mv rfl)) ?_
  refine wo_nil ?_
  refine nx_norm ?_
  refine w_block ?_
  have hq := bindO_inv hr
  clear hr
  obtain ⟨o, hl, hr⟩ := hq
  obtain ⟨n, hl⟩ := hM.loop _ _ _ hl
  refine jp_mono (w_loop _ (g75_I0 v0 v1) (g75_J0 v0 v1) ?_ n _ _ _ _ hl ⟨rfl, gl rfl, gl g0, gl g1⟩) ?_
  · clear hr hl
    intro s mm_2 t_1 o hi hr
    obtain ⟨x3, m_1⟩ := s
    obtain ⟨rfl, g3, g0, g1⟩ := hi
    unfold g75_b0 at hr
    refine w_seq ?_
    refine w_seq ?_
    refine w_ops ?_
    refine wo_step (v := (.i .i64 x3)) (s_pure (p_mv g3)) ?_
    have hq := forceB_inv hr
    clear hr
    obtain ⟨c8, e8, hr⟩ := hq
    refine wo_step (v := (.b c8)) (s_pure (p_bin rfl rfl (b_geq.trans (cb e8)))) ?_
    refine wo_nil ?_
    refine nx_norm ?_
    have hq := cond_inv hr
    clear hr
    rcases hq with ⟨rfl, hr⟩ | ⟨rfl, hr⟩
    · refine w_condT rfl ?_
      refine w_skip ?_
      refine nx_norm ?_
      refine w_seq ?_
      refine w_block ?_
      refine w_seq ?_
      refine w_opsY ?_
      refine wy_step (v := v0) (y_C (s_pure (p_mv g0))) ?_
      refine wy_step (v := (.i .i64 x3)) (y_C (s_pure (p_mv g3))) ?_
      have hq := bindO_inv hr
      clear hr
      obtain ⟨v13, e13, hr⟩ := hq
      refine wy_step (v := v13) (y_C (s_ld g1 e13)) ?_
      refine wy_step (v := (.i .i64 x3)) (y_C (s_pure (p_mv g3))) ?_
      have hq := bindO_inv hr
      clear hr
      obtain ⟨v15, e15, hr⟩ := hq
      refine wy_step (v := v15) (y_C (s_pure (o_ixS rfl rfl e15))) ?_
      have hq := bindO_inv hr
      clear hr
      obtain ⟨v16, e16, hr⟩ := hq
      have hq := asI_inv hr
      clear hr
      obtain ⟨x16, rfl, hr⟩ := hq
      refine wy_step (v := (.i .i64 x16)) (y_C (s_ld rfl e16)) ?_
      have hq := bindP_inv hr
      clear hr
      obtain ⟨v17, m_2, e17, hr⟩ := hq
      have hq := asB_inv hr
      clear hr
      obtain ⟨c17, rfl, hr⟩ := hq
      refine wy_step (v := (.b c17)) (y_callv rfl (mc rfl (mc rfl mn)) (callyM_le hM.call hM.round e17)) ?_
      have hq := forceB_inv hr
      clear hr
      obtain ⟨c18, e18, hr⟩ := hq
      refine wy_step (v := (.b c18)) (y_C (s_pure ((p_not rfl).trans (cb e18)))) ?_
      refine wy_nil ?_
      refine nx_norm ?_
      have hq := cond_inv hr
      clear hr
      rcases hq with ⟨rfl, hr⟩ | ⟨rfl, hr⟩
      · refine w_condT rfl ?_
        refine w_ret ?_
        refine bk_ret ?_
        refine nx_ret ?_
        cases hr
        exact ⟨_, _, rfl, ne_norm_ret, rfl, rfl⟩
      · refine w_condF rfl ?_
        refine w_skip ?_
        refine bk_norm ?_
        refine nx_norm ?_
        refine w_ops ?_
        refine wo_step (v := (.i .i64 x3)) (s_pure (p_mv g3)) ?_
        have hq := forceI_inv hr
        clear hr
        obtain ⟨x10, e10, hr⟩ := hq
        refine wo_step (v := (.i .i64 x10)) (s_pure (p_bin rfl rfl (b_sub.trans (ci e10)))) ?_
        refine wo_step (v := (.i .i64 x10)) (s_pure (p_mv rfl)) ?_
        refine wo_nil ?_
        cases hr
        exact ⟨_, _, rfl, rfl, rfl, gl rfl, gl g0, gl g1⟩
    · refine w_condF rfl ?_
      refine w_exit ?_
      refine nx_exit ?_
      cases hr
      exact ⟨_, _, rfl, ne_norm_exit, rfl, rfl⟩
  · rcases o with o | o
    · obtain ⟨m_3, ho⟩ : ∃ z, z = o := ⟨_, rfl⟩
      subst ho
      rintro _ mm t_2 ⟨rfl, rfl⟩
      refine bk_hit ?_
      exact qf norm_ok rn hr
    · obtain ⟨m_4, ho⟩ : ∃ z, z = o := ⟨_, rfl⟩
      subst ho
      rintro _ mm_1 t_3 ⟨rfl, rfl⟩
      refine bk_ret ?_
      exact qf ret_ok rn hr

/- internal/stringslite.HasSuffix -/
abbrev g76_J0 (m0 : Mm) (o : Bool) (m1 : Mm) (t1 : Tr) : Prop :=
  match o with
  | c20 => m0 = m1 ∧ t1.get 20 = (.b c20)
def g76 (M : Means) (ro : List ABlk) (s0 : List UInt8) (s1 : List UInt8) (m0 : Mm) : Option (AVal × Heap × Nat × Nat) :=
  bindO (evP .e (.len true (.c (.s s0)))) fun v6 =>
  asI .i64 v6 fun x6 =>
  bindO (evP .e (.len true (.c (.s s1)))) fun v8 =>
  asI .i64 v8 fun x8 =>
  forceB (!ltI x6 x8) fun c9 =>
  bindO (cond c9 (
    bindO (evP .e (.len true (.c (.s s0)))) fun v13 =>
    asI .i64 v13 fun x13 =>
    bindO (evP .e (.len true (.c (.s s1)))) fun v15 =>
    asI .i64 v15 fun x15 =>
    forceI (wr .i64 (x13 - x15)) fun x16 =>
    bindO (evP .e (.slStr (.c (.s s0)) (some (.c (.i .i64 x16))) none)) fun v17 =>
    asS v17 fun s17 =>
    bindO (evP .e (.sbin BinOp.eql (.c (.s s17)) (.c (.s s1)))) fun v19 =>
    asB v19 fun c19 =>
    some c19) (
    some false)) fun c20 =>
  finM m0.h.length (tupA [(.b c20)]) m0

theorem g76_ok {ro : List ABlk} {O : Caller} {M : Means} (hM : M.Ok ⟨F, O⟩ ro) {s0 s1 h r} (ho : O 76 [(.s s0), (.s s1)] h = none) (hr : g76 M ro s0 s1 ⟨h, h.length, h.length⟩ = some r) : callX ⟨F, O⟩ ro 76 [(.s s0), (.s s1)] h = some r := by
  refine callX_of (F := ⟨F, O⟩) (fn := fn76) (g := g76 M ro s0 s1) ho rfl rfl hr ?_
  clear ho
  clear hr
  intro m0 t0 ht hr
  have g0 : t0.get 0 = (.s s0) := ht 0
  have g1 : t0.get 1 = (.s s1) := ht 1
  clear ht
  unfold g76 at hr
  refine w_seq ?_
  refine w_ops ?_
  refine wo_step (v := (.b false)) (s_pure (p_mv rfl)) ?_
  refine wo_nil ?_
  refine nx_norm ?_
  refine w_seq ?_
  refine w_ops ?_
  refine wo_step (v := (.s s0)) (s_pure (p_mv g0)) ?_
  have hq := bindO_inv hr
  clear hr
  obtain ⟨v6, e6, hr⟩ := hq
  have hq := asI_inv hr
  clear hr
  obtain ⟨x6, rfl, hr⟩ := hq
  refine wo_step (v := (.i .i64 x6)) (s_pure (o_len rfl e6)) ?_
  refine wo_step (v := (.s s1)) (s_pure (p_mv g1)) ?_
  have hq := bindO_inv hr
  clear hr
  obtain ⟨v8, e8, hr⟩ := hq
  have hq := asI_inv hr
  clear hr
  obtain ⟨x8, rfl, hr⟩ := hq
  refine wo_step (v := (.i .i64 x8)) (s_pure (o_len rfl e8)) ?_
  have hq := forceB_inv hr
  clear hr
  obtain ⟨c9, e9, hr⟩ := hq
  refine wo_step (v := (.b c9)) (s_pure (p_bin rfl rfl (b_geq.trans (cb e9)))) ?_
  refine wo_step (v := (.b c9)) (s_pure (p_mv rfl)) ?_
  have hq := bindO_inv hr
  clear hr
  obtain ⟨o, hr, hk⟩ := hq
  refine wo_join 10 (g76_J0 m0 o) ?_ ?_
  · clear hk
    have hq := cond_inv hr
    clear hr
    rcases hq with ⟨rfl, hr⟩ | ⟨rfl, hr⟩
    · refine wo_take (v := (.s s0)) rfl (s_pure (p_mv g0)) ?_
      refine wo_take (v := (.s s0)) rfl (s_pure (p_mv g0)) ?_
      have hq := bindO_inv hr
      clear hr
      obtain ⟨v13, e13, hr⟩ := hq
      have hq := asI_inv hr
      clear hr
      obtain ⟨x13, rfl, hr⟩ := hq
      refine wo_take (v := (.i .i64 x13)) rfl (s_pure (o_len rfl e13)) ?_
      refine wo_take (v := (.s s1)) rfl (s_pure (p_mv g1)) ?_
      have hq := bindO_inv hr
      clear hr
      obtain ⟨v15, e15, hr⟩ := hq
      have hq := asI_inv hr
      clear hr
      obtain ⟨x15, rfl, hr⟩ := hq
      refine wo_take (v := (.i .i64 x15)) rfl (s_pure (o_len rfl e15)) ?_
      have hq := forceI_inv hr
      clear hr
      obtain ⟨x16, e16, hr⟩ := hq
      refine wo_take (v := (.i .i64 x16)) rfl (s_pure (p_bin rfl rfl (b_sub.trans (ci e16)))) ?_
      have hq := bindO_inv hr
      clear hr
      obtain ⟨v17, e17, hr⟩ := hq
      have hq := asS_inv hr
      clear hr
      obtain ⟨s17, rfl, hr⟩ := hq
      refine wo_take (v := (.s s17)) rfl (s_pure (o_slStr rfl (os rfl) on e17)) ?_
      refine wo_take (v := (.s s1)) rfl (s_pure (p_mv g1)) ?_
      have hq := bindO_inv hr
      clear hr
      obtain ⟨v19, e19, hr⟩ := hq
      have hq := asB_inv hr
      clear hr
      obtain ⟨c19, rfl, hr⟩ := hq
      refine wo_take (v := (.b c19)) rfl (s_pure (o_sbin rfl rfl e19)) ?_
      refine wo_step (v := (.b c19)) (s_pure (p_pickT rfl rfl)) ?_
      refine wo_nil ?_
      cases hr
      exact ⟨_, _, rfl, rfl, gl rfl⟩
    · refine wo_skip (v := (.b false)) rfl rfl ?_
      refine wo_skip (v := (.b false)) rfl rfl ?_
      refine wo_skip (v := (.b false)) rfl rfl ?_
      refine wo_skip (v := (.b false)) rfl rfl ?_
      refine wo_skip (v := (.b false)) rfl rfl ?_
      refine wo_skip (v := (.b false)) rfl rfl ?_
      refine wo_skip (v := (.b false)) rfl rfl ?_
      refine wo_skip (v := (.b false)) rfl rfl ?_
      refine wo_skip (v := (.b false)) rfl rfl ?_
      refine wo_step (v := (.b false)) (s_pure (p_pickF rfl rfl)) ?_
      refine wo_nil ?_
      cases hr
      exact ⟨_, _, rfl, rfl, gl rfl⟩
  · clear hr
    have hr := hk
    clear hk
    obtain ⟨c20, ho⟩ : ∃ z, z = o := ⟨_, rfl⟩
    subst ho
    rintro mm t_1 ⟨rfl, g20⟩
    refine wo_step (v := (.b c20)) (s_pure (p_mv g20)) ?_
    refine wo_nil ?_
    refine nx_norm ?_
    refine w_ret ?_
    exact qf ret_ok (rt rfl rn) hr

/- math/bits.Mul -/

def g78 (M : Means) (ro : List ABlk) (x0 : Int) (x1 : Int) (m0 : Mm) : Option (AVal × Heap × Nat × Nat) :=
  bindP (callM M.call m0 86 [(.i .u64 x0), (.i .u64 x1)]) fun v25 m_1 =>
  bindO (evP .e (.ext 0 (.c v25))) fun v26 =>
  asI .u64 v26 fun x26 =>
  bindO (evP .e (.ext 1 (.c v25))) fun v27 =>
  asI .u64 v27 fun x27 =>
  finM m0.h.length (tupA [(.i .u64 x26), (.i .u64 x27)]) m_1

theorem g78_ok {ro : List ABlk} {O : Caller} {M : Means} (hM : M.Ok ⟨F, O⟩ ro) {x0 x1 h r} (ho : O 78 [(.i .u64 x0), (.i .u64 x1)] h = none) (hr : g78 M ro x0 x1 ⟨h, h.length, h.length⟩ = some r) : callX ⟨F, O⟩ ro 78 [(.i .u64 x0), (.i .u64 x1)] h = some r := by
  refine callX_of (F := ⟨F, O⟩) (fn := fn78) (g := g78 M ro x0 x1) ho rfl rfl hr ?_
  clear ho
  clear hr
  intro m0 t0 ht hr
  have g0 : t0.get 0 = (.i .u64 x0) := ht 0
  have g1 : t0.get 1 = (.i .u64 x1) := ht 1
  clear ht
  unfold g78 at hr
  refine w_seq ?_
  refine w_ops ?_
  refine wo_step (v := (.i .u64 0)) (s_pure (p_mv rfl)) ?_
  refine wo_step (v := (.i .u64 0)) (s_pure (p_mv rfl)) ?_
  refine wo_nil ?_
  refine nx_norm ?_
  refine w_seq ?_
  refine w_condF rfl ?_
  refine w_skip ?_
  refine nx_norm ?_
  refine w_seq ?_
  refine w_ops ?_
  refine wo_step (v := (.i .u64 x0)) (s_pure (p_mv g0)) ?_
  refine wo_step (v := (.i .u64 x1)) (s_pure (p_mv g1)) ?_
  have hq := bindP_inv hr
  clear hr
  obtain ⟨v25, m_1, e25, hr⟩ := hq
  refine wo_step (v := v25) (s_call (mc rfl (mc rfl mn)) (callM_le hM.call e25)) ?_
  refine wo_step (v := v25) (s_pure (p_mv rfl)) ?_
  have hq := bindO_inv hr
  clear hr
  obtain ⟨v26, e26, hr⟩ := hq
  have hq := asI_inv hr
  clear hr
  obtain ⟨x26, rfl, hr⟩ := hq
  refine wo_step (v := (.i .u64 x26)) (s_pure (o_ext rfl e26)) ?_
  have hq := bindO_inv hr
  clear hr
  obtain ⟨v27, e27, hr⟩ := hq
  have hq := asI_inv hr
  clear hr
  obtain ⟨x27, rfl, hr⟩ := hq
  refine wo_step (v := (.i .u64 x27)) (s_pure (o_ext rfl e27)) ?_
  refine wo_step (v := (.i .u64 x26)) (s_pure (p_mv rfl)) ?_
  refine wo_step (v := (.i .u64 x27)) (s_pure (p_mv rfl)) ?_
  refine wo_nil ?_
  refine nx_norm ?_
  refine w_seq ?_
  refine w_ops ?_
  refine wo_step (v := (.i .u64 x26)) (s_pure (p_mv rfl)) ?_
  refine wo_step (v := (.i .u64 x27)) (s_pure (p_mv rfl)) ?_
  refine wo_step (v := (.i .u64 x26)) (s_pure (p_mv rfl)) ?_
  refine wo_step (v := (.i .u64 x27)) (s_pure (p_mv rfl)) ?_
  refine wo_nil ?_
  refine nx_norm ?_
  refine w_ret ?_
  exact qf ret_ok (rt rfl (rt rfl rn)) hr

/- math/bits.Mul64 -/

def g86 (M : Means) (ro : List ABlk) (x0 : Int) (x1 : Int) (m0 : Mm) : Option (AVal × Heap × Nat × Nat) :=
  forceI (bitV .and .u64 x0 4294967295) fun x15 =>
  forceI (shrV .u64 x0 32) fun x17 =>
  forceI (bitV .and .u64 x1 4294967295) fun x19 =>
  forceI (shrV .u64 x1 32) fun x21 =>
  forceI (wr .u64 (x15 * x19)) fun x24 =>
  forceI (wr .u64 (x17 * x19)) fun x27 =>
  forceI (shrV .u64 x24 32) fun x29 =>
  forceI (wr .u64 (x27 + x29)) fun x30 =>
  forceI (bitV .and .u64 x30 4294967295) fun x32 =>
  forceI (shrV .u64 x30 32) fun x34 =>
  forceI (wr .u64 (x15 * x21)) fun x38 =>
  forceI (wr .u64 (x32 + x38)) fun x39 =>
  forceI (wr .u64 (x17 * x21)) fun x42 =>
  forceI (wr .u64 (x42 + x34)) fun x44 =>
  forceI (shrV .u64 x39 32) fun x46 =>
  forceI (wr .u64 (x44 + x46)) fun x47 =>
  forceI (wr .u64 (x0 * x1)) fun x50 =>
  finM m0.h.length (tupA [(.i .u64 x47), (.i .u64 x50)]) m0

theorem g86_ok {ro : List ABlk} {O : Caller} {M : Means} (hM : M.Ok ⟨F, O⟩ ro) {x0 x1 h r} (ho : O 86 [(.i .u64 x0), (.i .u64 x1)] h = none) (hr : g86 M ro x0 x1 ⟨h, h.length, h.length⟩ = some r) : callX ⟨F, O⟩ ro 86 [(.i .u64 x0), (.i .u64 x1)] h = some r := by
  refine callX_of (F := ⟨F, O⟩) (fn := fn86) (g := g86 M ro x0 x1) ho rfl rfl hr ?_
  clear ho
  clear hr
  intro m0 t0 ht hr
  have g0 : t0.get 0 = (.i .u64 x0) := ht 0
  have g1 : t0.get 1 = (.i .u64 x1) := ht 1
  clear ht
  unfold g86 at hr
  refine w_seq ?_
  refine w_ops ?_
  refine wo_step (v := (.i .u64 0)) (s_pure (p_mv rfl)) ?_
  refine wo_step (v := (.i .u64 0)) (s_pure (p_mv rfl)) ?_
  refine wo_nil ?_
  refine nx_norm ?_
  refine w_seq ?_
  refine w_ops ?_
  refine wo_step (v := (.i .u64 x0)) (s_pure (p_mv g0)) ?_
  have hq := forceI_inv hr
  clear hr
  obtain ⟨x15, e15, hr⟩ := hq
  refine wo_step (v := (.i .u64 x15)) (s_pure (p_bin rfl rfl (b_and.trans (ci e15)))) ?_
  refine wo_step (v := (.i .u64 x15)) (s_pure (p_mv rfl)) ?_
  refine wo_nil ?_
  refine nx_norm ?_
  refine w_seq ?_
  refine w_ops ?_
  refine wo_step (v := (.i .u64 x0)) (s_pure (p_mv g0)) ?_
  have hq := forceI_inv hr
  clear hr
  obtain ⟨x17, e17, hr⟩ := hq
  refine wo_step (v := (.i .u64 x17)) (s_pure (p_bin rfl rfl ((b_shr rfl).trans (ci e17)))) ?_
  refine wo_step (v := (.i .u64 x17)) (s_pure (p_mv rfl)) ?_
  refine wo_nil ?_
  refine nx_norm ?_
  refine w_seq ?_
  refine w_ops ?_
  refine wo_step (v := (.i .u64 x1)) (s_pure (p_mv g1)) ?_
  have hq := forceI_inv hr
  clear hr
  obtain ⟨x19, e19, hr⟩ := hq
  refine wo_step (v := (.i .u64 x19)) (s_pure (p_bin rfl rfl (b_and.trans (ci e19)))) ?_
  refine wo_step (v := (.i .u64 x19)) (s_pure (p_mv rfl)) ?_
  refine wo_nil ?_
  refine nx_norm ?_
  refine w_seq ?_
  refine w_ops ?_
  refine wo_step (v := (.i .u64 x1)) (s_pure (p_mv g1)) ?_
  have hq := forceI_inv hr
  clear hr
  obtain ⟨x21, e21, hr⟩ := hq
  refine wo_step (v := (.i .u64 x21)) (s_pure (p_bin rfl rfl ((b_shr rfl).trans (ci e21)))) ?_
  refine wo_step (v := (.i .u64 x21)) (s_pure (p_mv rfl)) ?_
  refine wo_nil ?_
  refine nx_norm ?_
  refine w_seq ?_
  refine w_ops ?_
  refine wo_step (v := (.i .u64 x15)) (s_pure (p_mv rfl)) ?_
  refine wo_step (v := (.i .u64 x19)) (s_pure (p_mv rfl)) ?_
  have hq := forceI_inv hr
  clear hr
  obtain ⟨x24, e24, hr⟩ := hq
  refine wo_step (v := (.i .u64 x24)) (s_pure (p_bin rfl rfl (b_mul.trans (ci e24)))) ?_
  refine wo_step (v := (.i .u64 x24)) (s_pure (p_mv rfl)) ?_
  refine wo_nil ?_
  refine nx_norm ?_
  refine w_seq ?_
  refine w_ops ?_
  refine wo_step (v := (.i .u64 x17)) (s_pure (p_mv rfl)) ?_
  refine wo_step (v := (.i .u64 x19)) (s_pure (p_mv rfl)) ?_
  have hq := forceI_inv hr
  clear hr
  obtain ⟨x27, e27, hr⟩ := hq
  refine wo_step (v := (.i .u64 x27)) (s_pure (p_bin rfl rfl (b_mul.trans (ci e27)))) ?_
  refine wo_step (v := (.i .u64 x24)) (s_pure (p_mv rfl)) ?_
  have hq := forceI_inv hr
  clear hr
  obtain ⟨x29, e29, hr⟩ := hq
  refine wo_step (v := (.i .u64 x29)) (s_pure (p_bin rfl rfl ((b_shr rfl).trans (ci e29)))) ?_
  have hq := forceI_inv hr
  clear hr
  obtain ⟨x30, e30, hr⟩ := hq
  refine wo_step (v := (.i .u64 x30)) (s_pure (p_bin rfl rfl (b_add.trans (ci e30)))) ?_
  refine wo_step (v := (.i .u64 x30)) (s_pure (p_mv rfl)) ?_
  refine wo_nil ?_
  refine nx_norm ?_
  refine w_seq ?_
  refine w_ops ?_
  refine wo_step (v := (.i .u64 x30)) (s_pure (p_mv rfl)) ?_
  have hq := forceI_inv hr
  clear hr
  obtain ⟨x32, e32, hr⟩ := hq
  refine wo_step (v := (.i .u64 x32)) (s_pure (p_bin rfl rfl (b_and.trans (ci e32)))) ?_
  refine wo_step (v := (.i .u64 x32)) (s_pure (p_mv rfl)) ?_
  refine wo_nil ?_
  refine nx_norm ?_
  refine w_seq ?_
  refine w_ops ?_
  refine wo_step (v := (.i .u64 x30)) (s_pure (p_mv rfl)) ?_
  have hq := forceI_inv hr
  clear hr
  obtain ⟨x34, e34, hr⟩ := hq
  refine wo_step (v := (.i .u64 x34)) (s_pure (p_bin rfl rfl ((b_shr rfl).trans (ci e34)))) ?_
  refine wo_step (v := (.i .u64 x34)) (s_pure (p_mv rfl)) ?_
  refine wo_nil ?_
  refine nx_norm ?_
  refine w_seq ?_
  refine w_ops ?_
  refine wo_step (v := (.i .u64 x32)) (s_pure (p_mv rfl)) ?_
  refine wo_step (v := (.i .u64 x15)) (s_pure (p_mv rfl)) ?_
  refine wo_step (v := (.i .u64 x21)) (s_pure (p_mv rfl)) ?_
  have hq := forceI_inv hr
  clear hr
  obtain ⟨x38, e38, hr⟩ := hq
  refine wo_step (v := (.i .u64 x38)) (s_pure (p_bin rfl rfl (b_mul.trans (ci e38)))) ?_
  have hq := forceI_inv hr
  clear hr
  obtain ⟨x39, e39, hr⟩ := hq
  refine wo_step (v := (.i .u64 x39)) (s_pure (p_bin rfl rfl (b_add.trans (ci e39)))) ?_
  refine wo_step (v := (.i .u64 x39)) (s_pure (p_mv rfl)) ?_
  refine wo_nil ?_
  refine nx_norm ?_
  refine w_seq ?_
  refine w_ops ?_
  refine wo_step (v := (.i .u64 x17)) (s_pure (p_mv rfl)) ?_
  refine wo_step (v := (.i .u64 x21)) (s_pure (p_mv rfl)) ?_
  have hq := forceI_inv hr
  clear hr
  obtain ⟨x42, e42, hr⟩ := hq
  refine wo_step (v := (.i .u64 x42)) (s_pure (p_bin rfl rfl (b_mul.trans (ci e42)))) ?_
  refine wo_step (v := (.i .u64 x34)) (s_pure (p_mv rfl)) ?_
  have hq := forceI_inv hr
  clear hr
  obtain ⟨x44, e44, hr⟩ := hq
  refine wo_step (v := (.i .u64 x44)) (s_pure (p_bin rfl rfl (b_add.trans (ci e44)))) ?_
  refine wo_step (v := (.i .u64 x39)) (s_pure (p_mv rfl)) ?_
  have hq := forceI_inv hr
  clear hr
  obtain ⟨x46, e46, hr⟩ := hq
  refine wo_step (v := (.i .u64 x46)) (s_pure (p_bin rfl rfl ((b_shr rfl).trans (ci e46)))) ?_
  have hq := forceI_inv hr
  clear hr
  obtain ⟨x47, e47, hr⟩ := hq
  refine wo_step (v := (.i .u64 x47)) (s_pure (p_bin rfl rfl (b_add.trans (ci e47)))) ?_
  refine wo_step (v := (.i .u64 x47)) (s_pure (p_mv rfl)) ?_
  refine wo_nil ?_
  refine nx_norm ?_
  refine w_seq ?_
  refine w_ops ?_
  refine wo_step (v := (.i .u64 x0)) (s_pure (p_mv g0)) ?_
  refine wo_step (v := (.i .u64 x1)) (s_pure (p_mv g1)) ?_
  have hq := forceI_inv hr
  clear hr
  obtain ⟨x50, e50, hr⟩ := hq
  refine wo_step (v := (.i .u64 x50)) (s_pure (p_bin rfl rfl (b_mul.trans (ci e50)))) ?_
  refine wo_step (v := (.i .u64 x50)) (s_pure (p_mv rfl)) ?_
  refine wo_nil ?_
  refine nx_norm ?_
  refine w_ret ?_
  exact qf ret_ok (rt rfl (rt rfl rn)) hr

end Go.Proofs.Ytobmcofkcfifkaa.T

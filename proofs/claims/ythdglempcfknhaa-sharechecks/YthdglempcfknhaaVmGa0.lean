/- Plain functions, and that the small machine answers as they do. -/
import Derived.Test.YthdglempcfknhaaVmP
import Derived.Test.YthdglempcfknhaaVmAE
open Go.Vm
set_option linter.unusedVariables false
namespace Go.Proofs.Ythdglempcfknhaa.T
open Go
/- dibber/dibberlaw08.ShareChecks -/
abbrev g3_J0 (x0 : Int) (v1 : AVal) (v2 : AVal) (v25 : AVal) (v28 : AVal) (x35 : Int) (x42 : Int) (m_9 : Mm) (o : Bool) (m1 : Mm) (t1 : Tr) : Prop :=
  match o with
  | c50 => m_9 = m1 ∧ t1.get 50 = (.b c50) ∧ t1.get 0 = (.i .i64 x0) ∧ t1.get 1 = v1 ∧ t1.get 2 = v2 ∧ t1.get 7 = v25 ∧ t1.get 8 = v28 ∧ t1.get 11 = (.i .i64 x35) ∧ t1.get 14 = (.i .i64 x42)
abbrev g3_J1 (x0 : Int) (v1 : AVal) (v2 : AVal) (v25 : AVal) (v28 : AVal) (m_9 : Mm) (o : Bool) (m1 : Mm) (t1 : Tr) : Prop :=
  match o with
  | c55 => m_9 = m1 ∧ t1.get 55 = (.b c55) ∧ t1.get 0 = (.i .i64 x0) ∧ t1.get 1 = v1 ∧ t1.get 2 = v2 ∧ t1.get 7 = v25 ∧ t1.get 8 = v28
abbrev g3_J2 (v1 : AVal) (v2 : AVal) (v25 : AVal) (v28 : AVal) (m_12 : Mm) (o : Bool) (m1 : Mm) (t1 : Tr) : Prop :=
  match o with
  | c77 => m_12 = m1 ∧ t1.get 77 = (.b c77) ∧ t1.get 1 = v1 ∧ t1.get 2 = v2 ∧ t1.get 7 = v25 ∧ t1.get 8 = v28
abbrev g3_J3 (v2 : AVal) (v28 : AVal) (o : Bool × Mm) (m1 : Mm) (t1 : Tr) : Prop :=
  match o with
  | (c82, m_13) => m_13 = m1 ∧ t1.get 82 = (.b c82) ∧ t1.get 2 = v2 ∧ t1.get 8 = v28
abbrev g3_J4  (o : Bool × Mm) (m1 : Mm) (t1 : Tr) : Prop :=
  match o with
  | (c87, m_15) => m_15 = m1 ∧ t1.get 87 = (.b c87)
abbrev g3_J5  (o : Bool × Mm) (m1 : Mm) (t1 : Tr) : Prop :=
  match o with
  | (c90, m_17) => m_17 = m1 ∧ t1.get 90 = (.b c90)
def g3 (M : Means) (ro : List ABlk) (x0 : Int) (v1 : AVal) (v2 : AVal) (m0 : Mm) : Option (AVal × Heap × Nat × Nat) :=
  bindP (stepM ro m0 (.bsl 22 1 [AVal.nsl] 2 [((0, 1), .c v1), ((1, 1), .c v2)])) fun v19 m_1 =>
  bindP (callM M.call m_1 14 [v19]) fun v20 m_2 =>
  asB v20 fun c20 =>
  forceB (!c20) fun c21 =>
  cond c21 (
    bindP (callM M.call m_2 15 []) fun v22 m_3 =>
    asB v22 fun c22 =>
    finM m0.h.length (tupA [(.b c22)]) m_3) (
    bindP (stepM ro m_2 (.bsl 3 1 [(AVal.i IntKind.i64 0)] 0 [])) fun v23 m_4 =>
    bindP (stepM ro m_4 (.app 3 1 8 [(AVal.i IntKind.i64 0)] (.c v23) (.c v1))) fun v25 m_5 =>
    bindP (stepM ro m_5 (.bsl 3 1 [(AVal.i IntKind.i64 0)] 0 [])) fun v26 m_6 =>
    bindP (stepM ro m_6 (.app 3 1 8 [(AVal.i IntKind.i64 0)] (.c v26) (.c v2))) fun v28 m_7 =>
    bindP (callM M.call m_7 16 [(.i .i64 x0), v25]) fun v32 m_8 =>
    bindO (evP .e (.ext 0 (.c v32))) fun v33 =>
    asI .i64 v33 fun x33 =>
    bindO (evP .e (.ext 1 (.c v32))) fun v34 =>
    asI .i64 v34 fun x34 =>
    bindO (evP .e (.ext 2 (.c v32))) fun v35 =>
    asI .i64 v35 fun x35 =>
    bindP (callM M.call m_8 17 [(.i .i64 x0), v1]) fun v39 m_9 =>
    bindO (evP .e (.ext 0 (.c v39))) fun v40 =>
    asI .i64 v40 fun x40 =>
    bindO (evP .e (.ext 1 (.c v39))) fun v41 =>
    asI .i64 v41 fun x41 =>
    bindO (evP .e (.ext 2 (.c v39))) fun v42 =>
    asI .i64 v42 fun x42 =>
    forceB (!eqI x33 x40) fun c45 =>
    bindO (cond c45 (
      some true) (
      forceB (!eqI x34 x41) fun c49 =>
      some c49)) fun c50 =>
    bindO (cond c50 (
      some true) (
      forceB (!eqI x35 x42) fun c54 =>
      some c54)) fun c55 =>
    cond c55 (
      finM m0.h.length (tupA [(.b false)]) m_9) (
      bindP (callM M.call m_9 18 [(.i .i64 x0), v25, v28]) fun v60 m_10 =>
      bindO (evP .e (.ext 0 (.c v60))) fun v61 =>
      bindO (evP .e (.ext 1 (.c v60))) fun v62 =>
      asI .i64 v62 fun x62 =>
      bindP (callM M.call m_10 19 [(.i .i64 x0), v1, v2]) fun v67 m_11 =>
      bindO (evP .e (.ext 0 (.c v67))) fun v68 =>
      bindO (evP .e (.ext 1 (.c v67))) fun v69 =>
      asI .i64 v69 fun x69 =>
      bindP (callM M.call m_11 20 [v61, v68]) fun v72 m_12 =>
      asB v72 fun c72 =>
      bindO (cond c72 (
        forceB (eqI x62 x69) fun c76 =>
        some c76) (
        some false)) fun c77 =>
      bindO (cond c77 (
        bindP (callM M.call m_12 20 [v25, v1]) fun v81 m_14 =>
        asB v81 fun c81 =>
        some (c81, m_14)) (
        some (false, m_12))) fun ⟨c82, m_13⟩ =>
      bindO (cond c82 (
        bindP (callM M.call m_13 20 [v28, v2]) fun v86 m_16 =>
        asB v86 fun c86 =>
        some (c86, m_16)) (
        some (false, m_13))) fun ⟨c87, m_15⟩ =>
      bindO (cond c87 (
        bindP (callM M.call m_15 15 []) fun v89 m_18 =>
        asB v89 fun c89 =>
        some (c89, m_18)) (
        some (false, m_15))) fun ⟨c90, m_17⟩ =>
      finM m0.h.length (tupA [(.b c90)]) m_17))

theorem g3_ok {ro : List ABlk} {O : Caller} {M : Means} (hM : M.Ok ⟨F, O⟩ ro) {x0 v1 v2 h r} (ho : O 3 [(.i .i64 x0), v1, v2] h = none) (hr : g3 M ro x0 v1 v2 ⟨h, h.length, h.length⟩ = some r) : callX ⟨F, O⟩ ro 3 [(.i .i64 x0), v1, v2] h = some r := by
  refine callX_of (F := ⟨F, O⟩) (fn := fn3) (g := g3 M ro x0 v1 v2) ho rfl rfl hr ?_
  clear ho
  clear hr
  intro m0 t0 ht hr
  have g0 : t0.get 0 = (.i .i64 x0) := ht 0
  have g1 : t0.get 1 = v1 := ht 1
  have g2 : t0.get 2 = v2 := ht 2
  clear ht
  unfold g3 at hr
  refine w_seq ?_
  refine w_ops ?_
  refine wo_step (v := (.b false)) (s_pure (p_mv rfl)) ?_
  refine wo_nil ?_
  refine nx_norm ?_
  refine w_seq ?_
  refine w_seq ?_
  refine w_ops ?_
  refine wo_step (v := v1) (s_pure (p_mv g1)) ?_
  refine wo_step (v := v2) (s_pure (p_mv g2)) ?_
  have hq := bindP_inv hr
  clear hr
  obtain ⟨v19, m_1, e19, hr⟩ := hq
  refine wo_step (v := v19) (s_bsl (qc rfl (qc rfl qn)) e19) ?_
  have hq := bindP_inv hr
  clear hr
  obtain ⟨v20, m_2, e20, hr⟩ := hq
  have hq := asB_inv hr
  clear hr
  obtain ⟨c20, rfl, hr⟩ := hq
  refine wo_step (v := (.b c20)) (s_call (mc rfl mn) (callM_le hM.call e20)) ?_
  have hq := forceB_inv hr
  clear hr
  obtain ⟨c21, e21, hr⟩ := hq
  refine wo_step (v := (.b c21)) (s_pure ((p_not rfl).trans (cb e21))) ?_
  refine wo_nil ?_
  refine nx_norm ?_
  have hq := cond_inv hr
  clear hr
  rcases hq with ⟨rfl, hr⟩ | ⟨rfl, hr⟩
  · refine w_condT rfl ?_
    refine w_seq ?_
    refine w_ops ?_
    have hq := bindP_inv hr
    clear hr
    obtain ⟨v22, m_3, e22, hr⟩ := hq
    have hq := asB_inv hr
    clear hr
    obtain ⟨c22, rfl, hr⟩ := hq
    refine wo_step (v := (.b c22)) (s_call mn (callM_le hM.call e22)) ?_
    refine wo_step (v := (.b c22)) (s_pure (p_mv rfl)) ?_
    refine wo_nil ?_
    refine nx_norm ?_
    refine w_ret ?_
    refine nx_ret ?_
    exact qf ret_ok (rt rfl rn) hr
  · refine w_condF rfl ?_
    refine w_skip ?_
    refine nx_norm ?_
    refine w_seq ?_
    refine w_ops ?_
    have hq := bindP_inv hr
    clear hr
    obtain ⟨v23, m_4, e23, hr⟩ := hq
    refine wo_step (v := v23) (s_bsl qn e23) ?_
    refine wo_step (v := v1) (s_pure (p_mv g1)) ?_
    have hq := bindP_inv hr
    clear hr
    obtain ⟨v25, m_5, e25, hr⟩ := hq
    refine wo_step (v := v25) (s_app rfl rfl e25) ?_
    have hq := bindP_inv hr
    clear hr
    obtain ⟨v26, m_6, e26, hr⟩ := hq
    refine wo_step (v := v26) (s_bsl qn e26) ?_
    refine wo_step (v := v2) (s_pure (p_mv g2)) ?_
    have hq := bindP_inv hr
    clear hr
    obtain ⟨v28, m_7, e28, hr⟩ := hq
    refine wo_step (v := v28) (s_app rfl rfl e28) ?_
    refine wo_step (v := v25) (s_pure (p_mv rfl)) ?_
    refine wo_step (v := v28) (s_pure (p_mv rfl)) ?_
    refine wo_nil ?_
    refine nx_norm ?_
    refine w_seq ?_
    refine w_ops ?_
    refine wo_step (v := (.i .i64 x0)) (s_pure (p_mv g0)) ?_
    refine wo_step (v := v25) (s_pure (p_mv rfl)) ?_
    have hq := bindP_inv hr
    clear hr
    obtain ⟨v32, m_8, e32, hr⟩ := hq
    refine wo_step (v := v32) (s_call (mc rfl (mc rfl mn)) (callM_le hM.call e32)) ?_
    refine wo_step (v := v32) (s_pure (p_mv rfl)) ?_
    have hq := bindO_inv hr
    clear hr
    obtain ⟨v33, e33, hr⟩ := hq
    have hq := asI_inv hr
    clear hr
    obtain ⟨x33, rfl, hr⟩ := hq
    refine wo_step (v := (.i .i64 x33)) (s_pure (o_ext rfl e33)) ?_
    have hq := bindO_inv hr
    clear hr
    obtain ⟨v34, e34, hr⟩ := hq
    have hq := asI_inv hr
    clear hr
    obtain ⟨x34, rfl, hr⟩ := hq
    refine wo_step (v := (.i .i64 x34)) (s_pure (o_ext rfl e34)) ?_
    have hq := bindO_inv hr
    clear hr
    obtain ⟨v35, e35, hr⟩ := hq
    have hq := asI_inv hr
    clear hr
    obtain ⟨x35, rfl, hr⟩ := hq
    refine wo_step (v := (.i .i64 x35)) (s_pure (o_ext rfl e35)) ?_
    refine wo_step (v := (.i .i64 x33)) (s_pure (p_mv rfl)) ?_
    refine wo_step (v := (.i .i64 x34)) (s_pure (p_mv rfl)) ?_
    refine wo_step (v := (.i .i64 x35)) (s_pure (p_mv rfl)) ?_
    refine wo_nil ?_
    refine nx_norm ?_
    refine w_seq ?_
    refine w_ops ?_
    refine wo_step (v := (.i .i64 x0)) (s_pure (p_mv g0)) ?_
    refine wo_step (v := v1) (s_pure (p_mv g1)) ?_
    have hq := bindP_inv hr
    clear hr
    obtain ⟨v39, m_9, e39, hr⟩ := hq
    refine wo_step (v := v39) (s_call (mc rfl (mc rfl mn)) (callM_le hM.call e39)) ?_
    refine wo_step (v := v39) (s_pure (p_mv rfl)) ?_
    have hq := bindO_inv hr
    clear hr
    obtain ⟨v40, e40, hr⟩ := hq
    have hq := asI_inv hr
    clear hr
    obtain ⟨x40, rfl, hr⟩ := hq
    refine wo_step (v := (.i .i64 x40)) (s_pure (o_ext rfl e40)) ?_
    have hq := bindO_inv hr
    clear hr
    obtain ⟨v41, e41, hr⟩ := hq
    have hq := asI_inv hr
    clear hr
    obtain ⟨x41, rfl, hr⟩ := hq
    refine wo_step (v := (.i .i64 x41)) (s_pure (o_ext rfl e41)) ?_
    have hq := bindO_inv hr
    clear hr
    obtain ⟨v42, e42, hr⟩ := hq
    have hq := asI_inv hr
    clear hr
    obtain ⟨x42, rfl, hr⟩ := hq
    refine wo_step (v := (.i .i64 x42)) (s_pure (o_ext rfl e42)) ?_
    refine wo_step (v := (.i .i64 x40)) (s_pure (p_mv rfl)) ?_
    refine wo_step (v := (.i .i64 x41)) (s_pure (p_mv rfl)) ?_
    refine wo_step (v := (.i .i64 x42)) (s_pure (p_mv rfl)) ?_
    refine wo_nil ?_
    refine nx_norm ?_
    refine w_seq ?_
    refine w_seq ?_
    refine w_ops ?_
    refine wo_step (v := (.i .i64 x33)) (s_pure (p_mv rfl)) ?_
    refine wo_step (v := (.i .i64 x40)) (s_pure (p_mv rfl)) ?_
    have hq := forceB_inv hr
    clear hr
    obtain ⟨c45, e45, hr⟩ := hq
    refine wo_step (v := (.b c45)) (s_pure (p_bin rfl rfl (b_neq.trans (cb e45)))) ?_
    refine wo_step (v := (.b c45)) (s_pure (p_mv rfl)) ?_
    have hq := bindO_inv hr
    clear hr
    obtain ⟨o, hr, hk⟩ := hq
    refine wo_join 4 (g3_J0 x0 v1 v2 v25 v28 x35 x42 m_9 o) ?_ ?_
    · clear hk
      have hq := cond_inv hr
      clear hr
      rcases hq with ⟨rfl, hr⟩ | ⟨rfl, hr⟩
      · refine wo_skip (v := (.b true)) rfl rfl ?_
        refine wo_skip (v := (.b true)) rfl rfl ?_
        refine wo_skip (v := (.b true)) rfl rfl ?_
        refine wo_step (v := (.b true)) (s_pure (p_pickT rfl rfl)) ?_
        refine wo_nil ?_
        cases hr
        exact ⟨_, _, rfl, rfl, gl rfl, gl g0, gl g1, gl g2, gl rfl, gl rfl, gl rfl, gl rfl⟩
      · refine wo_take (v := (.i .i64 x34)) rfl (s_pure (p_mv rfl)) ?_
        refine wo_take (v := (.i .i64 x41)) rfl (s_pure (p_mv rfl)) ?_
        have hq := forceB_inv hr
        clear hr
        obtain ⟨c49, e49, hr⟩ := hq
        refine wo_take (v := (.b c49)) rfl (s_pure (p_bin rfl rfl (b_neq.trans (cb e49)))) ?_
        refine wo_step (v := (.b c49)) (s_pure (p_pickF rfl rfl)) ?_
        refine wo_nil ?_
        cases hr
        exact ⟨_, _, rfl, rfl, gl rfl, gl g0, gl g1, gl g2, gl rfl, gl rfl, gl rfl, gl rfl⟩
    · clear hr
      have hr := hk
      clear hk
      obtain ⟨c50, ho⟩ : ∃ z, z = o := ⟨_, rfl⟩
      subst ho
      rintro mm t_1 ⟨rfl, g50, g0, g1, g2, g7, g8, g11, g14⟩
      refine wo_step (v := (.b c50)) (s_pure (p_mv g50)) ?_
      have hq := bindO_inv hr
      clear hr
      obtain ⟨o_1, hr, hk⟩ := hq
      refine wo_join 4 (g3_J1 x0 v1 v2 v25 v28 m_9 o_1) ?_ ?_
      · clear hk
        have hq := cond_inv hr
        clear hr
        rcases hq with ⟨rfl, hr⟩ | ⟨rfl, hr⟩
        · refine wo_skip (v := (.b true)) rfl rfl ?_
          refine wo_skip (v := (.b true)) rfl rfl ?_
          refine wo_skip (v := (.b true)) rfl rfl ?_
          refine wo_step (v := (.b true)) (s_pure (p_pickT rfl rfl)) ?_
          refine wo_nil ?_
          cases hr
          exact ⟨_, _, rfl, rfl, gl rfl, gl g0, gl g1, gl g2, gl g7, gl g8⟩
        · refine wo_take (v := (.i .i64 x35)) rfl (s_pure (p_mv g11)) ?_
          refine wo_take (v := (.i .i64 x42)) rfl (s_pure (p_mv g14)) ?_
          have hq := forceB_inv hr
          clear hr
          obtain ⟨c54, e54, hr⟩ := hq
          refine wo_take (v := (.b c54)) rfl (s_pure (p_bin rfl rfl (b_neq.trans (cb e54)))) ?_
          refine wo_step (v := (.b c54)) (s_pure (p_pickF rfl rfl)) ?_
          refine wo_nil ?_
          cases hr
          exact ⟨_, _, rfl, rfl, gl rfl, gl g0, gl g1, gl g2, gl g7, gl g8⟩
      · clear hr
        have hr := hk
        clear hk
        obtain ⟨c55, ho⟩ : ∃ z, z = o_1 := ⟨_, rfl⟩
        subst ho
        rintro mm_1 t_2 ⟨rfl, g55, g0, g1, g2, g7, g8⟩
        refine wo_nil ?_
        refine nx_norm ?_
        have hq := cond_inv hr
        clear hr
        rcases hq with ⟨rfl, hr⟩ | ⟨rfl, hr⟩
        · refine w_condT g55 ?_
          refine w_seq ?_
          refine w_ops ?_
          refine wo_step (v := (.b false)) (s_pure (p_mv rfl)) ?_
          refine wo_nil ?_
          refine nx_norm ?_
          refine w_ret ?_
          refine nx_ret ?_
          exact qf ret_ok (rt rfl rn) hr
        · refine w_condF g55 ?_
          refine w_skip ?_
          refine nx_norm ?_
          refine w_seq ?_
          refine w_ops ?_
          refine wo_step (v := (.i .i64 x0)) (s_pure (p_mv g0)) ?_
          refine wo_step (v := v25) (s_pure (p_mv g7)) ?_
          refine wo_step (v := v28) (s_pure (p_mv g8)) ?_
          have hq := bindP_inv hr
          clear hr
          obtain ⟨v60, m_10, e60, hr⟩ := hq
          refine wo_step (v := v60) (s_call (mc rfl (mc rfl (mc rfl mn))) (callM_le hM.call e60)) ?_
          refine wo_step (v := v60) (s_pure (p_mv rfl)) ?_
          have hq := bindO_inv hr
          clear hr
          obtain ⟨v61, e61, hr⟩ := hq
          refine wo_step (v := v61) (s_pure (o_ext rfl e61)) ?_
          have hq := bindO_inv hr
          clear hr
          obtain ⟨v62, e62, hr⟩ := hq
          have hq := asI_inv hr
          clear hr
          obtain ⟨x62, rfl, hr⟩ := hq
          refine wo_step (v := (.i .i64 x62)) (s_pure (o_ext rfl e62)) ?_
          refine wo_step (v := v61) (s_pure (p_mv rfl)) ?_
          refine wo_step (v := (.i .i64 x62)) (s_pure (p_mv rfl)) ?_
          refine wo_nil ?_
          refine nx_norm ?_
          refine w_seq ?_
          refine w_ops ?_
          refine wo_step (v := (.i .i64 x0)) (s_pure (p_mv g0)) ?_
          refine wo_step (v := v1) (s_pure (p_mv g1)) ?_
          refine wo_step (v := v2) (s_pure (p_mv g2)) ?_
          have hq := bindP_inv hr
          clear hr
          obtain ⟨v67, m_11, e67, hr⟩ := hq
          refine wo_step (v := v67) (s_call (mc rfl (mc rfl (mc rfl mn))) (callM_le hM.call e67)) ?_
          refine wo_step (v := v67) (s_pure (p_mv rfl)) ?_
          have hq := bindO_inv hr
          clear hr
          obtain ⟨v68, e68, hr⟩ := hq
          refine wo_step (v := v68) (s_pure (o_ext rfl e68)) ?_
          have hq := bindO_inv hr
          clear hr
          obtain ⟨v69, e69, hr⟩ := hq
          have hq := asI_inv hr
          clear hr
          obtain ⟨x69, rfl, hr⟩ := hq
          refine wo_step (v := (.i .i64 x69)) (s_pure (o_ext rfl e69)) ?_
          refine wo_step (v := v68) (s_pure (p_mv rfl)) ?_
          refine wo_step (v := (.i .i64 x69)) (s_pure (p_mv rfl)) ?_
          refine wo_nil ?_
          refine nx_norm ?_
          refine w_seq ?_
          refine w_ops ?_
          refine wo_step (v := v61) (s_pure (p_mv rfl)) ?_
          refine wo_step (v := v68) (s_pure (p_mv rfl)) ?_
          have hq := bindP_inv hr
          clear hr
          obtain ⟨v72, m_12, e72, hr⟩ := hq
          have hq := asB_inv hr
          clear hr
          obtain ⟨c72, rfl, hr⟩ := hq
          refine wo_step (v := (.b c72)) (s_call (mc rfl (mc rfl mn)) (callM_le hM.call e72)) ?_
          refine wo_step (v := (.b c72)) (s_pure (p_mv rfl)) ?_
          have hq := bindO_inv hr
          clear hr
          obtain ⟨o_2, hr, hk⟩ := hq
          refine wo_join 4 (g3_J2 v1 v2 v25 v28 m_12 o_2) ?_ ?_
          · clear hk
            have hq := cond_inv hr
            clear hr
            rcases hq with ⟨rfl, hr⟩ | ⟨rfl, hr⟩
            · refine wo_take (v := (.i .i64 x62)) rfl (s_pure (p_mv rfl)) ?_
              refine wo_take (v := (.i .i64 x69)) rfl (s_pure (p_mv rfl)) ?_
              have hq := forceB_inv hr
              clear hr
              obtain ⟨c76, e76, hr⟩ := hq
              refine wo_take (v := (.b c76)) rfl (s_pure (p_bin rfl rfl (b_eql.trans (cb e76)))) ?_
              refine wo_step (v := (.b c76)) (s_pure (p_pickT rfl rfl)) ?_
              refine wo_nil ?_
              cases hr
              exact ⟨_, _, rfl, rfl, gl rfl, gl g1, gl g2, gl g7, gl g8⟩
            · refine wo_skip (v := (.b false)) rfl rfl ?_
              refine wo_skip (v := (.b false)) rfl rfl ?_
              refine wo_skip (v := (.b false)) rfl rfl ?_
              refine wo_step (v := (.b false)) (s_pure (p_pickF rfl rfl)) ?_
              refine wo_nil ?_
              cases hr
              exact ⟨_, _, rfl, rfl, gl rfl, gl g1, gl g2, gl g7, gl g8⟩
          · clear hr
            have hr := hk
            clear hk
            obtain ⟨c77, ho⟩ : ∃ z, z = o_2 := ⟨_, rfl⟩
            subst ho
            rintro mm_2 t_3 ⟨rfl, g77, g1, g2, g7, g8⟩
            refine wo_step (v := (.b c77)) (s_pure (p_mv g77)) ?_
            have hq := bindO_inv hr
            clear hr
            obtain ⟨o_3, hr, hk⟩ := hq
            refine wo_join 4 (g3_J3 v2 v28 o_3) ?_ ?_
            · clear hk
              have hq := cond_inv hr
              clear hr
              rcases hq with ⟨rfl, hr⟩ | ⟨rfl, hr⟩
              · refine wo_take (v := v25) rfl (s_pure (p_mv g7)) ?_
                refine wo_take (v := v1) rfl (s_pure (p_mv g1)) ?_
                have hq := bindP_inv hr
                clear hr
                obtain ⟨v81, m_14, e81, hr⟩ := hq
                have hq := asB_inv hr
                clear hr
                obtain ⟨c81, rfl, hr⟩ := hq
                refine wo_take (v := (.b c81)) rfl (s_call (mc rfl (mc rfl mn)) (callM_le hM.call e81)) ?_
                refine wo_step (v := (.b c81)) (s_pure (p_pickT rfl rfl)) ?_
                refine wo_nil ?_
                cases hr
                exact ⟨_, _, rfl, rfl, gl rfl, gl g2, gl g8⟩
              · refine wo_skip (v := (.b false)) rfl rfl ?_
                refine wo_skip (v := (.b false)) rfl rfl ?_
                refine wo_skip (v := (.b false)) rfl rfl ?_
                refine wo_step (v := (.b false)) (s_pure (p_pickF rfl rfl)) ?_
                refine wo_nil ?_
                cases hr
                exact ⟨_, _, rfl, rfl, gl rfl, gl g2, gl g8⟩
            · clear hr
              have hr := hk
              clear hk
              obtain ⟨c82, m_13⟩ := o_3
              rintro mm_3 t_4 ⟨rfl, g82, g2, g8⟩
              refine wo_step (v := (.b c82)) (s_pure (p_mv g82)) ?_
              have hq := bindO_inv hr
              clear hr
              obtain ⟨o_4, hr, hk⟩ := hq
              refine wo_join 4 (g3_J4  o_4) ?_ ?_
              · clear hk
                have hq := cond_inv hr
                clear hr
                rcases hq with ⟨rfl, hr⟩ | ⟨rfl, hr⟩
                · refine wo_take (v := v28) rfl (s_pure (p_mv g8)) ?_
                  refine wo_take (v := v2) rfl (s_pure (p_mv g2)) ?_
                  have hq := bindP_inv hr
                  clear hr
                  obtain ⟨v86, m_16, e86, hr⟩ := hq
                  have hq := asB_inv hr
                  clear hr
                  obtain ⟨c86, rfl, hr⟩ := hq
                  refine wo_take (v := (.b c86)) rfl (s_call (mc rfl (mc rfl mn)) (callM_le hM.call e86)) ?_
                  refine wo_step (v := (.b c86)) (s_pure (p_pickT rfl rfl)) ?_
                  refine wo_nil ?_
                  cases hr
                  exact ⟨_, _, rfl, rfl, gl rfl⟩
                · refine wo_skip (v := (.b false)) rfl rfl ?_
                  refine wo_skip (v := (.b false)) rfl rfl ?_
                  refine wo_skip (v := (.b false)) rfl rfl ?_
                  refine wo_step (v := (.b false)) (s_pure (p_pickF rfl rfl)) ?_
                  refine wo_nil ?_
                  cases hr
                  exact ⟨_, _, rfl, rfl, gl rfl⟩
              · clear hr
                have hr := hk
                clear hk
                obtain ⟨c87, m_15⟩ := o_4
                rintro mm_4 t_5 ⟨rfl, g87⟩
                refine wo_step (v := (.b c87)) (s_pure (p_mv g87)) ?_
                have hq := bindO_inv hr
                clear hr
                obtain ⟨o_5, hr, hk⟩ := hq
                refine wo_join 2 (g3_J5  o_5) ?_ ?_
                · clear hk
                  have hq := cond_inv hr
                  clear hr
                  rcases hq with ⟨rfl, hr⟩ | ⟨rfl, hr⟩
                  · have hq := bindP_inv hr
                    clear hr
                    obtain ⟨v89, m_18, e89, hr⟩ := hq
                    have hq := asB_inv hr
                    clear hr
                    obtain ⟨c89, rfl, hr⟩ := hq
                    refine wo_take (v := (.b c89)) rfl (s_call mn (callM_le hM.call e89)) ?_
                    refine wo_step (v := (.b c89)) (s_pure (p_pickT rfl rfl)) ?_
                    refine wo_nil ?_
                    cases hr
                    exact ⟨_, _, rfl, rfl, gl rfl⟩
                  · refine wo_skip (v := (.b false)) rfl rfl ?_
                    refine wo_step (v := (.b false)) (s_pure (p_pickF rfl rfl)) ?_
                    refine wo_nil ?_
                    cases hr
                    exact ⟨_, _, rfl, rfl, gl rfl⟩
                · clear hr
                  have hr := hk
                  clear hk
                  obtain ⟨c90, m_17⟩ := o_5
                  rintro mm_5 t_6 ⟨rfl, g90⟩
                  refine wo_step (v := (.b c90)) (s_pure (p_mv g90)) ?_
                  refine wo_nil ?_
                  refine nx_norm ?_
                  refine w_ret ?_
                  exact qf ret_ok (rt rfl rn) hr

/- dibber/dibberlaw08.few -/
abbrev g14_I0 (v0 : AVal) (m0 : Mm) (s : Int) (m1 : Mm) (t1 : Tr) : Prop :=
  match s with
  | x3 => m0 = m1 ∧ t1.get 3 = (.i .i64 x3) ∧ t1.get 0 = v0
abbrev g14_J0 (v0 : AVal) (m0 : Mm) (o : (Unit ⊕ Bool)) (e : AExit) (m1 : Mm) (t1 : Tr) : Prop :=
  match o with
  | (.inl _) => e = (.exit 0) ∧ m0 = m1
  | (.inr y2) => e = .ret ∧ m0 = m1 ∧ t1.get 2 = (.b y2)
def g14_b0 (M : Means) (ro : List ABlk) (v0 : AVal) (m0 : Mm) (x3 : Int) : Option ((Int) ⊕ ((Unit ⊕ Bool))) :=
  bindO (evP .e (.len false (.c v0))) fun v6 =>
  asI .i64 v6 fun x6 =>
  forceB (ltI x3 x6) fun c7 =>
  cond c7 (
    bindO (evP .e (.ixS 1 (.c v0) (.c (.i .i64 x3)))) fun v12 =>
    bindO (ldM ro m0 true 1 v12) fun v13 =>
    bindO (evP .e (.len false (.c v13))) fun v14 =>
    asI .i64 v14 fun x14 =>
    forceB (ltI 100 x14) fun c15 =>
    cond c15 (
      some (.inr (.inr false))) (
      forceI (wr .i64 (x3 + 1)) fun x9 =>
      some (.inl x9))) (
    some (.inr (.inl ())))
def g14 (M : Means) (ro : List ABlk) (v0 : AVal) (m0 : Mm) : Option (AVal × Heap × Nat × Nat) :=
  bindO (M.loop (S := Int) (R := (Unit ⊕ Bool)) (fun s => g14_b0 M ro v0 m0 s) 0) fun o => match o with
  | (.inl _) =>
    finM m0.h.length (tupA [(.b true)]) m0
  | (.inr c2) =>
    finM m0.h.length (tupA [(.b c2)]) m0

theorem g14_ok {ro : List ABlk} {O : Caller} {M : Means} (hM : M.Ok ⟨F, O⟩ ro) {v0 h r} (ho : O 14 [v0] h = none) (hr : g14 M ro v0 ⟨h, h.length, h.length⟩ = some r) : callX ⟨F, O⟩ ro 14 [v0] h = some r := by
  refine callX_of (F := ⟨F, O⟩) (fn := fn14) (g := g14 M ro v0) ho rfl rfl hr ?_
  clear ho
  clear hr
  intro m0 t0 ht hr
  have g0 : t0.get 0 = v0 := ht 0
  clear ht
  unfold g14 at hr
  refine w_seq ?_
  refine w_ops ?_
  refine wo_step (v := (.b false)) (s_pure (p_mv rfl)) ?_
  refine wo_nil ?_
  refine nx_norm ?_
  refine w_seq ?_
  refine w_seq ?_
  refine w_ops ?_
  refine wo_step (v := (.i .i64 0)) (s_pure (p_mv rfl)) ?_
  refine wo_nil ?_
  refine nx_norm ?_
  refine w_block ?_
  have hq := bindO_inv hr
  clear hr
  obtain ⟨o, hl, hr⟩ := hq
  obtain ⟨n, hl⟩ := hM.loop _ _ _ hl
  refine jp_mono (w_loop _ (g14_I0 v0 m0) (g14_J0 v0 m0) ?_ n _ _ _ _ hl ⟨rfl, gl rfl, gl g0⟩) ?_
  · clear hr hl
    intro s mm_2 t_1 o hi hr
    obtain ⟨x3, hs⟩ : ∃ z, z = s := ⟨_, rfl⟩
    subst hs
    obtain ⟨rfl, g3, g0⟩ := hi
    unfold g14_b0 at hr
    refine w_seq ?_
    refine w_seq ?_
    refine w_ops ?_
    refine wo_step (v := (.i .i64 x3)) (s_pure (p_mv g3)) ?_
    refine wo_step (v := v0) (s_pure (p_mv g0)) ?_
    have hq := bindO_inv hr
    clear hr
    obtain ⟨v6, e6, hr⟩ := hq
    have hq := asI_inv hr
    clear hr
    obtain ⟨x6, rfl, hr⟩ := hq
    refine wo_step (v := (.i .i64 x6)) (s_pure (o_len rfl e6)) ?_
    have hq := forceB_inv hr
    clear hr
    obtain ⟨c7, e7, hr⟩ := hq
    refine wo_step (v := (.b c7)) (s_pure (p_bin rfl rfl (b_lss.trans (cb e7)))) ?_
    refine wo_nil ?_
    refine nx_norm ?_
    have hq := cond_inv hr
    clear hr
    rcases hq with ⟨rfl, hr⟩ | ⟨rfl, hr⟩
    · refine w_condT rfl ?_
      refine w_skip ?_
      refine nx_norm ?_
      refine w_seq ?_
      refine w_block ?_
      refine w_seq ?_
      refine w_ops ?_
      refine wo_step (v := v0) (s_pure (p_mv g0)) ?_
      refine wo_step (v := (.i .i64 x3)) (s_pure (p_mv g3)) ?_
      have hq := bindO_inv hr
      clear hr
      obtain ⟨v12, e12, hr⟩ := hq
      refine wo_step (v := v12) (s_pure (o_ixS rfl rfl e12)) ?_
      have hq := bindO_inv hr
      clear hr
      obtain ⟨v13, e13, hr⟩ := hq
      refine wo_step (v := v13) (s_ld rfl e13) ?_
      have hq := bindO_inv hr
      clear hr
      obtain ⟨v14, e14, hr⟩ := hq
      have hq := asI_inv hr
      clear hr
      obtain ⟨x14, rfl, hr⟩ := hq
      refine wo_step (v := (.i .i64 x14)) (s_pure (o_len rfl e14)) ?_
      have hq := forceB_inv hr
      clear hr
      obtain ⟨c15, e15, hr⟩ := hq
      refine wo_step (v := (.b c15)) (s_pure (p_bin rfl rfl (b_gtr.trans (cb e15)))) ?_
      refine wo_nil ?_
      refine nx_norm ?_
      have hq := cond_inv hr
      clear hr
      rcases hq with ⟨rfl, hr⟩ | ⟨rfl, hr⟩
      · refine w_condT rfl ?_
        refine w_seq ?_
        refine w_ops ?_
        refine wo_step (v := (.b false)) (s_pure (p_mv rfl)) ?_
        refine wo_nil ?_
        refine nx_norm ?_
        refine w_ret ?_
        refine bk_ret ?_
        refine nx_ret ?_
        cases hr
        exact ⟨_, _, rfl, ne_norm_ret, rfl, rfl, gl rfl⟩
      · refine w_condF rfl ?_
        refine w_skip ?_
        refine bk_norm ?_
        refine nx_norm ?_
        refine w_ops ?_
        refine wo_step (v := (.i .i64 x3)) (s_pure (p_mv g3)) ?_
        have hq := forceI_inv hr
        clear hr
        obtain ⟨x9, e9, hr⟩ := hq
        refine wo_step (v := (.i .i64 x9)) (s_pure (p_bin rfl rfl (b_add.trans (ci e9)))) ?_
        refine wo_step (v := (.i .i64 x9)) (s_pure (p_mv rfl)) ?_
        refine wo_nil ?_
        cases hr
        exact ⟨_, _, rfl, rfl, rfl, gl rfl, gl g0⟩
    · refine w_condF rfl ?_
      refine w_exit ?_
      refine nx_exit ?_
      cases hr
      exact ⟨_, _, rfl, ne_norm_exit, rfl, rfl⟩
  · rcases o with o | o
    · rintro _ mm t_2 ⟨rfl, rfl⟩
      refine bk_hit ?_
      refine nx_norm ?_
      refine w_seq ?_
      refine w_ops ?_
      refine wo_step (v := (.b true)) (s_pure (p_mv rfl)) ?_
      refine wo_nil ?_
      refine nx_norm ?_
      refine w_ret ?_
      exact qf ret_ok (rt rfl rn) hr
    · obtain ⟨c2, ho⟩ : ∃ z, z = o := ⟨_, rfl⟩
      subst ho
      rintro _ mm_1 t_3 ⟨rfl, rfl, g2⟩
      refine bk_ret ?_
      refine nx_ret ?_
      exact qf ret_ok (rt g2 rn) hr

/- dibber/share.Check -/
abbrev g16_I0 (x0 : Int) (v1 : AVal) (v15 : AVal) (x16 : Int) (s : Int × Mm) (m1 : Mm) (t1 : Tr) : Prop :=
  match s with
  | (x17, m_3) => m_3 = m1 ∧ t1.get 17 = (.i .i64 x17) ∧ t1.get 0 = (.i .i64 x0) ∧ t1.get 1 = v1 ∧ t1.get 15 = v15 ∧ t1.get 16 = (.i .i64 x16)
abbrev g16_J0 (x0 : Int) (v1 : AVal) (v15 : AVal) (x16 : Int) (o : (Mm ⊕ (Int × Int × Int × Mm))) (e : AExit) (m1 : Mm) (t1 : Tr) : Prop :=
  match o with
  | (.inl mo) => e = (.exit 0) ∧ mo = m1
  | (.inr (y4, y5, y6, mo)) => e = .ret ∧ mo = m1 ∧ t1.get 4 = (.i .i64 y4) ∧ t1.get 5 = (.i .i64 y5) ∧ t1.get 6 = (.i .i64 y6)
def g16_b0 (M : Means) (ro : List ABlk) (x0 : Int) (v1 : AVal) (v15 : AVal) (x16 : Int) (x17 : Int) (m_3 : Mm) : Option ((Int × Mm) ⊕ ((Mm ⊕ (Int × Int × Int × Mm)))) :=
  forceB (ltI x17 x16) fun c18 =>
  cond c18 (
    bindO (evP .e (.ixS 1 (.c v15) (.c (.i .i64 x17)))) fun v19 =>
    bindO (ldM ro m_3 true 1 v19) fun v20 =>
    asI .i64 v20 fun x20 =>
    bindP (callM M.call m_3 46 [(.i .i64 x20)]) fun v23 m_4 =>
    bindP (callM M.call m_4 47 [v1, (.i .i64 x20)]) fun v26 m_5 =>
    bindP (stepM ro m_5 (.bsl 53 1 [AVal.nfn] 2 [((0, 1), .c v23), ((1, 1), .c v26)])) fun v27 m_6 =>
    bindP (callM M.call m_6 45 [(.i .i64 x0), v27]) fun v28 m_7 =>
    bindO (evP .e (.len false (.c v28))) fun v30 =>
    asI .i64 v30 fun x30 =>
    forceB (ltI 0 x30) fun c31 =>
    cond c31 (
      bindO (evP .e (.ixS 1 (.c v28) (.c (.i .i64 0)))) fun v34 =>
      bindO (ldM ro m_7 true 1 v34) fun v35 =>
      asI .i64 v35 fun x35 =>
      some (.inr (.inr (x20, x35, 0, m_7)))) (
      forceI (wr .i64 (x17 + 1)) fun x36 =>
      some (.inl (x36, m_7)))) (
    some (.inr (.inl m_3)))
def g16 (M : Means) (ro : List ABlk) (x0 : Int) (v1 : AVal) (m0 : Mm) : Option (AVal × Heap × Nat × Nat) :=
  bindP (callM M.call m0 44 [(.i .i64 x0), v1]) fun v12 m_1 =>
  asB v12 fun c12 =>
  forceB (!c12) fun c13 =>
  cond c13 (
    finM m0.h.length (tupA [(.i .i64 0), (.i .i64 0), (.i .i64 2)]) m_1) (
    bindP (callM M.call m_1 45 [(.i .i64 x0), AVal.nsl]) fun v15 m_2 =>
    bindO (evP .e (.len false (.c v15))) fun v16 =>
    asI .i64 v16 fun x16 =>
    bindO (M.loop (S := Int × Mm) (R := (Mm ⊕ (Int × Int × Int × Mm))) (fun s => g16_b0 M ro x0 v1 v15 x16 s.1 s.2) (0, m_2)) fun o => match o with
    | (.inl m_8) =>
      finM m0.h.length (tupA [(.i .i64 0), (.i .i64 0), (.i .i64 10)]) m_8
    | (.inr (x4, x5, x6, m_9)) =>
      finM m0.h.length (tupA [(.i .i64 x4), (.i .i64 x5), (.i .i64 x6)]) m_9)

theorem g16_ok {ro : List ABlk} {O : Caller} {M : Means} (hM : M.Ok ⟨F, O⟩ ro) {x0 v1 h r} (ho : O 16 [(.i .i64 x0), v1] h = none) (hr : g16 M ro x0 v1 ⟨h, h.length, h.length⟩ = some r) : callX ⟨F, O⟩ ro 16 [(.i .i64 x0), v1] h = some r := by
  refine callX_of (F := ⟨F, O⟩) (fn := fn16) (g := g16 M ro x0 v1) ho rfl rfl hr ?_
  clear ho
  clear hr
  intro m0 t0 ht hr
  have g0 : t0.get 0 = (.i .i64 x0) := ht 0
  have g1 : t0.get 1 = v1 := ht 1
  clear ht
  unfold g16 at hr
  refine w_seq ?_
  refine w_ops ?_
  refine wo_step (v := (.i .i64 0)) (s_pure (p_mv rfl)) ?_
  refine wo_step (v := (.i .i64 0)) (s_pure (p_mv rfl)) ?_
  refine wo_step (v := (.i .i64 0)) (s_pure (p_mv rfl)) ?_
  refine wo_nil ?_
  refine nx_norm ?_
  refine w_seq ?_
  refine w_seq ?_
  refine w_ops ?_
  refine wo_step (v := (.i .i64 x0)) (s_pure (p_mv g0)) ?_
  refine wo_step (v := v1) (s_pure (p_mv g1)) ?_
  have hq := bindP_inv hr
  clear hr
  obtain ⟨v12, m_1, e12, hr⟩ := hq
  have hq := asB_inv hr
  clear hr
  obtain ⟨c12, rfl, hr⟩ := hq
  refine wo_step (v := (.b c12)) (s_call (mc rfl (mc rfl mn)) (callM_le hM.call e12)) ?_
  have hq := forceB_inv hr
  clear hr
  obtain ⟨c13, e13, hr⟩ := hq
  refine wo_step (v := (.b c13)) (s_pure ((p_not rfl).trans (cb e13))) ?_
  refine wo_nil ?_
  refine nx_norm ?_
  have hq := cond_inv hr
  clear hr
  rcases hq with ⟨rfl, hr⟩ | ⟨rfl, hr⟩
  · refine w_condT rfl ?_
    refine w_seq ?_
    refine w_ops ?_
    refine wo_step (v := (.i .i64 0)) (s_pure (p_mv rfl)) ?_
    refine wo_step (v := (.i .i64 0)) (s_pure (p_mv rfl)) ?_
    refine wo_step (v := (.i .i64 2)) (s_pure (p_mv rfl)) ?_
    refine wo_nil ?_
    refine nx_norm ?_
    refine w_ret ?_
    refine nx_ret ?_
    exact qf ret_ok (rt rfl (rt rfl (rt rfl rn))) hr
  · refine w_condF rfl ?_
    refine w_skip ?_
    refine nx_norm ?_
    refine w_seq ?_
    refine w_seq ?_
    refine w_ops ?_
    refine wo_step (v := (.i .i64 x0)) (s_pure (p_mv g0)) ?_
    have hq := bindP_inv hr
    clear hr
    obtain ⟨v15, m_2, e15, hr⟩ := hq
    refine wo_step (v := v15) (s_call (mc rfl (mc rfl mn)) (callM_le hM.call e15)) ?_
    have hq := bindO_inv hr
    clear hr
    obtain ⟨v16, e16, hr⟩ := hq
    have hq := asI_inv hr
    clear hr
    obtain ⟨x16, rfl, hr⟩ := hq
    refine wo_step (v := (.i .i64 x16)) (s_pure (o_len rfl e16)) ?_
    refine wo_step (v := (.i .i64 0)) (s_pure (p_mv rfl)) ?_
    refine wo_nil ?_
    refine nx_norm ?_
    refine w_block ?_
    have hq := bindO_inv hr
    clear hr
    obtain ⟨o, hl, hr⟩ := hq
    obtain ⟨n, hl⟩ := hM.loop _ _ _ hl
    refine jp_mono (w_loop _ (g16_I0 x0 v1 v15 x16) (g16_J0 x0 v1 v15 x16) ?_ n _ _ _ _ hl ⟨rfl, gl rfl, gl g0, gl g1, gl rfl, gl rfl⟩) ?_
    · clear hr hl
      intro s mm_2 t_1 o hi hr
      obtain ⟨x17, m_3⟩ := s
      obtain ⟨rfl, g17, g0, g1, g15, g16⟩ := hi
      unfold g16_b0 at hr
      refine w_seq ?_
      refine w_ops ?_
      have hq := forceB_inv hr
      clear hr
      obtain ⟨c18, e18, hr⟩ := hq
      refine wo_step (v := (.b c18)) (s_pure (p_bin g17 g16 (b_lss.trans (cb e18)))) ?_
      refine wo_nil ?_
      refine nx_norm ?_
      refine w_seq ?_
      have hq := cond_inv hr
      clear hr
      rcases hq with ⟨rfl, hr⟩ | ⟨rfl, hr⟩
      · refine w_condT rfl ?_
        refine w_skip ?_
        refine nx_norm ?_
        refine w_seq ?_
        refine w_block ?_
        refine w_seq ?_
        refine w_ops ?_
        have hq := bindO_inv hr
        clear hr
        obtain ⟨v19, e19, hr⟩ := hq
        refine wo_step (v := v19) (s_pure (o_ixS g15 g17 e19)) ?_
        have hq := bindO_inv hr
        clear hr
        obtain ⟨v20, e20, hr⟩ := hq
        have hq := asI_inv hr
        clear hr
        obtain ⟨x20, rfl, hr⟩ := hq
        refine wo_step (v := (.i .i64 x20)) (s_ld rfl e20) ?_
        refine wo_step (v := (.i .i64 x20)) (s_pure (p_mv rfl)) ?_
        refine wo_nil ?_
        refine nx_norm ?_
        refine w_seq ?_
        refine w_ops ?_
        refine wo_step (v := (.i .i64 x0)) (s_pure (p_mv g0)) ?_
        refine wo_step (v := (.i .i64 x20)) (s_pure (p_mv rfl)) ?_
        have hq := bindP_inv hr
        clear hr
        obtain ⟨v23, m_4, e23, hr⟩ := hq
        refine wo_step (v := v23) (s_call (mc rfl mn) (callM_le hM.call e23)) ?_
        refine wo_step (v := v1) (s_pure (p_mv g1)) ?_
        refine wo_step (v := (.i .i64 x20)) (s_pure (p_mv rfl)) ?_
        have hq := bindP_inv hr
        clear hr
        obtain ⟨v26, m_5, e26, hr⟩ := hq
        refine wo_step (v := v26) (s_call (mc rfl (mc rfl mn)) (callM_le hM.call e26)) ?_
        have hq := bindP_inv hr
        clear hr
        obtain ⟨v27, m_6, e27, hr⟩ := hq
        refine wo_step (v := v27) (s_bsl (qc rfl (qc rfl qn)) e27) ?_
        have hq := bindP_inv hr
        clear hr
        obtain ⟨v28, m_7, e28, hr⟩ := hq
        refine wo_step (v := v28) (s_call (mc rfl (mc rfl mn)) (callM_le hM.call e28)) ?_
        refine wo_step (v := v28) (s_pure (p_mv rfl)) ?_
        refine wo_nil ?_
        refine nx_norm ?_
        refine w_seq ?_
        refine w_ops ?_
        refine wo_step (v := v28) (s_pure (p_mv rfl)) ?_
        have hq := bindO_inv hr
        clear hr
        obtain ⟨v30, e30, hr⟩ := hq
        have hq := asI_inv hr
        clear hr
        obtain ⟨x30, rfl, hr⟩ := hq
        refine wo_step (v := (.i .i64 x30)) (s_pure (o_len rfl e30)) ?_
        have hq := forceB_inv hr
        clear hr
        obtain ⟨c31, e31, hr⟩ := hq
        refine wo_step (v := (.b c31)) (s_pure (p_bin rfl rfl (b_gtr.trans (cb e31)))) ?_
        refine wo_nil ?_
        refine nx_norm ?_
        have hq := cond_inv hr
        clear hr
        rcases hq with ⟨rfl, hr⟩ | ⟨rfl, hr⟩
        · refine w_condT rfl ?_
          refine w_seq ?_
          refine w_ops ?_
          refine wo_step (v := (.i .i64 x20)) (s_pure (p_mv rfl)) ?_
          refine wo_step (v := v28) (s_pure (p_mv rfl)) ?_
          have hq := bindO_inv hr
          clear hr
          obtain ⟨v34, e34, hr⟩ := hq
          refine wo_step (v := v34) (s_pure (o_ixS rfl rfl e34)) ?_
          refine wo_step (v := (.i .i64 x20)) (s_pure (p_mv rfl)) ?_
          have hq := bindO_inv hr
          clear hr
          obtain ⟨v35, e35, hr⟩ := hq
          have hq := asI_inv hr
          clear hr
          obtain ⟨x35, rfl, hr⟩ := hq
          refine wo_step (v := (.i .i64 x35)) (s_ld rfl e35) ?_
          refine wo_step (v := (.i .i64 x35)) (s_pure (p_mv rfl)) ?_
          refine wo_step (v := (.i .i64 0)) (s_pure (p_mv rfl)) ?_
          refine wo_nil ?_
          refine nx_norm ?_
          refine w_ret ?_
          refine bk_ret ?_
          refine nx_ret ?_
          cases hr
          exact ⟨_, _, rfl, ne_norm_ret, rfl, rfl, gl rfl, gl rfl, gl rfl⟩
        · refine w_condF rfl ?_
          refine w_skip ?_
          refine bk_norm ?_
          refine nx_norm ?_
          refine w_ops ?_
          have hq := forceI_inv hr
          clear hr
          obtain ⟨x36, e36, hr⟩ := hq
          refine wo_step (v := (.i .i64 x36)) (s_pure (p_bin g17 rfl (b_add.trans (ci e36)))) ?_
          refine wo_step (v := (.i .i64 x36)) (s_pure (p_mv rfl)) ?_
          refine wo_nil ?_
          cases hr
          exact ⟨_, _, rfl, rfl, rfl, gl rfl, gl g0, gl g1, gl g15, gl g16⟩
      · refine w_condF rfl ?_
        refine w_exit ?_
        refine nx_exit ?_
        cases hr
        exact ⟨_, _, rfl, ne_norm_exit, rfl, rfl⟩
    · rcases o with o | o
      · obtain ⟨m_8, ho⟩ : ∃ z, z = o := ⟨_, rfl⟩
        subst ho
        rintro _ mm t_2 ⟨rfl, rfl⟩
        refine bk_hit ?_
        refine nx_norm ?_
        refine w_seq ?_
        refine w_ops ?_
        refine wo_step (v := (.i .i64 0)) (s_pure (p_mv rfl)) ?_
        refine wo_step (v := (.i .i64 0)) (s_pure (p_mv rfl)) ?_
        refine wo_step (v := (.i .i64 10)) (s_pure (p_mv rfl)) ?_
        refine wo_nil ?_
        refine nx_norm ?_
        refine w_ret ?_
        exact qf ret_ok (rt rfl (rt rfl (rt rfl rn))) hr
      · obtain ⟨x4, x5, x6, m_9⟩ := o
        rintro _ mm_1 t_3 ⟨rfl, rfl, g4, g5, g6⟩
        refine bk_ret ?_
        refine nx_ret ?_
        exact qf ret_ok (rt g4 (rt g5 (rt g6 rn))) hr

/- dibber/dibberref08.Check -/

def g17 (M : Means) (ro : List ABlk) (x0 : Int) (v1 : AVal) (m0 : Mm) : Option (AVal × Heap × Nat × Nat) :=
  bindP (callM M.call m0 48 [(.i .i64 x0), v1]) fun v12 m_1 =>
  asB v12 fun c12 =>
  forceB (!c12) fun c13 =>
  cond c13 (
    finM m0.h.length (tupA [(.i .i64 0), (.i .i64 0), (.i .i64 2)]) m_1) (
    bindP (callM M.call m_1 49 [v1]) fun v16 m_2 =>
    bindO (evP .e (.ext 0 (.c v16))) fun v17 =>
    asI .i64 v17 fun x17 =>
    bindO (evP .e (.ext 1 (.c v16))) fun v18 =>
    asI .i64 v18 fun x18 =>
    bindO (evP .e (.ext 2 (.c v16))) fun v19 =>
    asB v19 fun c19 =>
    forceB (!c19) fun c21 =>
    cond c21 (
      finM m0.h.length (tupA [(.i .i64 0), (.i .i64 0), (.i .i64 10)]) m_2) (
      finM m0.h.length (tupA [(.i .i64 x17), (.i .i64 x18), (.i .i64 0)]) m_2))

theorem g17_ok {ro : List ABlk} {O : Caller} {M : Means} (hM : M.Ok ⟨F, O⟩ ro) {x0 v1 h r} (ho : O 17 [(.i .i64 x0), v1] h = none) (hr : g17 M ro x0 v1 ⟨h, h.length, h.length⟩ = some r) : callX ⟨F, O⟩ ro 17 [(.i .i64 x0), v1] h = some r := by
  refine callX_of (F := ⟨F, O⟩) (fn := fn17) (g := g17 M ro x0 v1) ho rfl rfl hr ?_
  clear ho
  clear hr
  intro m0 t0 ht hr
  have g0 : t0.get 0 = (.i .i64 x0) := ht 0
  have g1 : t0.get 1 = v1 := ht 1
  clear ht
  unfold g17 at hr
  refine w_seq ?_
  refine w_ops ?_
  refine wo_step (v := (.i .i64 0)) (s_pure (p_mv rfl)) ?_
  refine wo_step (v := (.i .i64 0)) (s_pure (p_mv rfl)) ?_
  refine wo_step (v := (.i .i64 0)) (s_pure (p_mv rfl)) ?_
  refine wo_nil ?_
  refine nx_norm ?_
  refine w_seq ?_
  refine w_seq ?_
  refine w_ops ?_
  refine wo_step (v := (.i .i64 x0)) (s_pure (p_mv g0)) ?_
  refine wo_step (v := v1) (s_pure (p_mv g1)) ?_
  have hq := bindP_inv hr
  clear hr
  obtain ⟨v12, m_1, e12, hr⟩ := hq
  have hq := asB_inv hr
  clear hr
  obtain ⟨c12, rfl, hr⟩ := hq
  refine wo_step (v := (.b c12)) (s_call (mc rfl (mc rfl mn)) (callM_le hM.call e12)) ?_
  have hq := forceB_inv hr
  clear hr
  obtain ⟨c13, e13, hr⟩ := hq
  refine wo_step (v := (.b c13)) (s_pure ((p_not rfl).trans (cb e13))) ?_
  refine wo_nil ?_
  refine nx_norm ?_
  have hq := cond_inv hr
  clear hr
  rcases hq with ⟨rfl, hr⟩ | ⟨rfl, hr⟩
  · refine w_condT rfl ?_
    refine w_seq ?_
    refine w_ops ?_
    refine wo_step (v := (.i .i64 0)) (s_pure (p_mv rfl)) ?_
    refine wo_step (v := (.i .i64 0)) (s_pure (p_mv rfl)) ?_
    refine wo_step (v := (.i .i64 2)) (s_pure (p_mv rfl)) ?_
    refine wo_nil ?_
    refine nx_norm ?_
    refine w_ret ?_
    refine nx_ret ?_
    exact qf ret_ok (rt rfl (rt rfl (rt rfl rn))) hr
  · refine w_condF rfl ?_
    refine w_skip ?_
    refine nx_norm ?_
    refine w_seq ?_
    refine w_ops ?_
    refine wo_step (v := v1) (s_pure (p_mv g1)) ?_
    have hq := bindP_inv hr
    clear hr
    obtain ⟨v16, m_2, e16, hr⟩ := hq
    refine wo_step (v := v16) (s_call (mc rfl mn) (callM_le hM.call e16)) ?_
    refine wo_step (v := v16) (s_pure (p_mv rfl)) ?_
    have hq := bindO_inv hr
    clear hr
    obtain ⟨v17, e17, hr⟩ := hq
    have hq := asI_inv hr
    clear hr
    obtain ⟨x17, rfl, hr⟩ := hq
    refine wo_step (v := (.i .i64 x17)) (s_pure (o_ext rfl e17)) ?_
    have hq := bindO_inv hr
    clear hr
    obtain ⟨v18, e18, hr⟩ := hq
    have hq := asI_inv hr
    clear hr
    obtain ⟨x18, rfl, hr⟩ := hq
    refine wo_step (v := (.i .i64 x18)) (s_pure (o_ext rfl e18)) ?_
    have hq := bindO_inv hr
    clear hr
    obtain ⟨v19, e19, hr⟩ := hq
    have hq := asB_inv hr
    clear hr
    obtain ⟨c19, rfl, hr⟩ := hq
    refine wo_step (v := (.b c19)) (s_pure (o_ext rfl e19)) ?_
    refine wo_step (v := (.i .i64 x17)) (s_pure (p_mv rfl)) ?_
    refine wo_step (v := (.i .i64 x18)) (s_pure (p_mv rfl)) ?_
    refine wo_step (v := (.b c19)) (s_pure (p_mv rfl)) ?_
    refine wo_nil ?_
    refine nx_norm ?_
    refine w_seq ?_
    refine w_seq ?_
    refine w_ops ?_
    refine wo_step (v := (.b c19)) (s_pure (p_mv rfl)) ?_
    have hq := forceB_inv hr
    clear hr
    obtain ⟨c21, e21, hr⟩ := hq
    refine wo_step (v := (.b c21)) (s_pure ((p_not rfl).trans (cb e21))) ?_
    refine wo_nil ?_
    refine nx_norm ?_
    have hq := cond_inv hr
    clear hr
    rcases hq with ⟨rfl, hr⟩ | ⟨rfl, hr⟩
    · refine w_condT rfl ?_
      refine w_seq ?_
      refine w_ops ?_
      refine wo_step (v := (.i .i64 0)) (s_pure (p_mv rfl)) ?_
      refine wo_step (v := (.i .i64 0)) (s_pure (p_mv rfl)) ?_
      refine wo_step (v := (.i .i64 10)) (s_pure (p_mv rfl)) ?_
      refine wo_nil ?_
      refine nx_norm ?_
      refine w_ret ?_
      refine nx_ret ?_
      exact qf ret_ok (rt rfl (rt rfl (rt rfl rn))) hr
    · refine w_condF rfl ?_
      refine w_skip ?_
      refine nx_norm ?_
      refine w_seq ?_
      refine w_ops ?_
      refine wo_step (v := (.i .i64 x17)) (s_pure (p_mv rfl)) ?_
      refine wo_step (v := (.i .i64 x18)) (s_pure (p_mv rfl)) ?_
      refine wo_step (v := (.i .i64 x17)) (s_pure (p_mv rfl)) ?_
      refine wo_step (v := (.i .i64 x18)) (s_pure (p_mv rfl)) ?_
      refine wo_step (v := (.i .i64 0)) (s_pure (p_mv rfl)) ?_
      refine wo_nil ?_
      refine nx_norm ?_
      refine w_ret ?_
      exact qf ret_ok (rt rfl (rt rfl (rt rfl rn))) hr

/- dibber/share.Sum -/
abbrev g18_J0 (v1 : AVal) (v2 : AVal) (o : Bool × Mm) (m1 : Mm) (t1 : Tr) : Prop :=
  match o with
  | (c19, m_2) => m_2 = m1 ∧ t1.get 19 = (.b c19) ∧ t1.get 1 = v1 ∧ t1.get 2 = v2
abbrev g18_I1 (v1 : AVal) (v2 : AVal) (v22 : AVal) (x24 : Int) (s : Int × Mm) (m1 : Mm) (t1 : Tr) : Prop :=
  match s with
  | (x25, m_5) => m_5 = m1 ∧ t1.get 25 = (.i .i64 x25) ∧ t1.get 1 = v1 ∧ t1.get 2 = v2 ∧ t1.get 8 = v22 ∧ t1.get 24 = (.i .i64 x24)
abbrev g18_J1 (v1 : AVal) (v2 : AVal) (v22 : AVal) (x24 : Int) (o : (Mm ⊕ (AVal × Int × Mm))) (e : AExit) (m1 : Mm) (t1 : Tr) : Prop :=
  match o with
  | (.inl mo) => e = (.exit 0) ∧ mo = m1 ∧ t1.get 8 = v22
  | (.inr (y6, y7, mo)) => e = .ret ∧ mo = m1 ∧ t1.get 6 = y6 ∧ t1.get 7 = (.i .i64 y7)
def g18_b1 (M : Means) (ro : List ABlk) (v1 : AVal) (v2 : AVal) (v22 : AVal) (x24 : Int) (x25 : Int) (m_5 : Mm) : Option ((Int × Mm) ⊕ ((Mm ⊕ (AVal × Int × Mm)))) :=
  forceB (ltI x25 x24) fun c26 =>
  cond c26 (
    bindO (evP .e (.ixS 1 (.c v1) (.c (.i .i64 x25)))) fun v32 =>
    bindO (ldA ro m_5.h true 1 v32) fun v33 =>
    asI .i64 v33 fun x33 =>
    bindO (evP .e (.ixS 1 (.c v2) (.c (.i .i64 x25)))) fun v36 =>
    bindO (ldA ro m_5.h true 1 v36) fun v37 =>
    asI .i64 v37 fun x37 =>
    forceI (wr .i64 (x33 + x37)) fun x38 =>
    bindO (evP .e (.ixS 1 (.c v22) (.c (.i .i64 x25)))) fun v39 =>
    asP v39 fun qs =>
    bindO (writesM ro [] [(qs, AVal.cells (.i .i64 x38))] ⟨m_5.h, m_5.lw, m_5.lp⟩) fun m_6 =>
    bindO (evP .e (.ixS 1 (.c v22) (.c (.i .i64 x25)))) fun v42 =>
    bindO (ldM ro m_6 true 1 v42) fun v43 =>
    asI .i64 v43 fun x43 =>
    bindP (callM M.call m_6 50 [(.i .i64 x43), (.i .i64 1000000)]) fun v44 m_7 =>
    asB v44 fun c44 =>
    forceB (!c44) fun c45 =>
    cond c45 (
      some (.inr (.inr (AVal.nsl, 4, m_7)))) (
      forceI (wr .i64 (x25 + 1)) fun x46 =>
      some (.inl (x46, m_7)))) (
    some (.inr (.inl m_5)))
def g18 (M : Means) (ro : List ABlk) (x0 : Int) (v1 : AVal) (v2 : AVal) (m0 : Mm) : Option (AVal × Heap × Nat × Nat) :=
  bindP (callM M.call m0 44 [(.i .i64 x0), v1]) fun v12 m_1 =>
  asB v12 fun c12 =>
  forceB (!c12) fun c13 =>
  bindO (cond c13 (
    some (true, m_1)) (
    bindP (callM M.call m_1 44 [(.i .i64 x0), v2]) fun v17 m_3 =>
    asB v17 fun c17 =>
    forceB (!c17) fun c18 =>
    some (c18, m_3))) fun ⟨c19, m_2⟩ =>
  cond c19 (
    finM m0.h.length (tupA [AVal.nsl, (.i .i64 2)]) m_2) (
    bindO (evP .e (.len false (.c v1))) fun v21 =>
    asI .i64 v21 fun x21 =>
    bindP (stepM ro m_2 (.mk 3 1 8 [(AVal.i IntKind.i64 0)] (.c (.i .i64 x21)) (.c (.i .i64 x21)))) fun v22 m_4 =>
    bindO (evP .e (.len false (.c v22))) fun v24 =>
    asI .i64 v24 fun x24 =>
    bindO (M.loop (S := Int × Mm) (R := (Mm ⊕ (AVal × Int × Mm))) (fun s => g18_b1 M ro v1 v2 v22 x24 s.1 s.2) (0, m_4)) fun o_1 => match o_1 with
    | (.inl m_8) =>
      finM m0.h.length (tupA [v22, (.i .i64 0)]) m_8
    | (.inr (v6, x7, m_9)) =>
      finM m0.h.length (tupA [v6, (.i .i64 x7)]) m_9)

theorem g18_ok {ro : List ABlk} {O : Caller} {M : Means} (hM : M.Ok ⟨F, O⟩ ro) {x0 v1 v2 h r} (ho : O 18 [(.i .i64 x0), v1, v2] h = none) (hr : g18 M ro x0 v1 v2 ⟨h, h.length, h.length⟩ = some r) : callX ⟨F, O⟩ ro 18 [(.i .i64 x0), v1, v2] h = some r := by
  refine callX_of (F := ⟨F, O⟩) (fn := fn18) (g := g18 M ro x0 v1 v2) ho rfl rfl hr ?_
  clear ho
  clear hr
  intro m0 t0 ht hr
  have g0 : t0.get 0 = (.i .i64 x0) := ht 0
  have g1 : t0.get 1 = v1 := ht 1
  have g2 : t0.get 2 = v2 := ht 2
  clear ht
  unfold g18 at hr
  refine w_seq ?_
  refine w_ops ?_
  refine wo_step (v := AVal.nsl) (s_pure (p_mv rfl)) ?_
  refine wo_step (v := (.i .i64 0)) (s_pure (p_mv rfl)) ?_
  refine wo_nil ?_
  refine nx_norm ?_
  refine w_seq ?_
  refine w_seq ?_
  refine w_ops ?_
  refine wo_step (v := (.i .i64 x0)) (s_pure (p_mv g0)) ?_
  refine wo_step (v := v1) (s_pure (p_mv g1)) ?_
  have hq := bindP_inv hr
  clear hr
  obtain ⟨v12, m_1, e12, hr⟩ := hq
  have hq := asB_inv hr
  clear hr
  obtain ⟨c12, rfl, hr⟩ := hq
  refine wo_step (v := (.b c12)) (s_call (mc rfl (mc rfl mn)) (callM_le hM.call e12)) ?_
  have hq := forceB_inv hr
  clear hr
  obtain ⟨c13, e13, hr⟩ := hq
  refine wo_step (v := (.b c13)) (s_pure ((p_not rfl).trans (cb e13))) ?_
  refine wo_step (v := (.b c13)) (s_pure (p_mv rfl)) ?_
  have hq := bindO_inv hr
  clear hr
  obtain ⟨o, hr, hk⟩ := hq
  refine wo_join 5 (g18_J0 v1 v2 o) ?_ ?_
  · clear hk
    have hq := cond_inv hr
    clear hr
    rcases hq with ⟨rfl, hr⟩ | ⟨rfl, hr⟩
    · refine wo_skip (v := (.b true)) rfl rfl ?_
      refine wo_skip (v := (.b true)) rfl rfl ?_
      refine wo_skip (v := (.b true)) rfl rfl ?_
      refine wo_skip (v := (.b true)) rfl rfl ?_
      refine wo_step (v := (.b true)) (s_pure (p_pickT rfl rfl)) ?_
      refine wo_nil ?_
      cases hr
      exact ⟨_, _, rfl, rfl, gl rfl, gl g1, gl g2⟩
    · refine wo_take (v := (.i .i64 x0)) rfl (s_pure (p_mv g0)) ?_
      refine wo_take (v := v2) rfl (s_pure (p_mv g2)) ?_
      have hq := bindP_inv hr
      clear hr
      obtain ⟨v17, m_3, e17, hr⟩ := hq
      have hq := asB_inv hr
      clear hr
      obtain ⟨c17, rfl, hr⟩ := hq
      refine wo_take (v := (.b c17)) rfl (s_call (mc rfl (mc rfl mn)) (callM_le hM.call e17)) ?_
      have hq := forceB_inv hr
      clear hr
      obtain ⟨c18, e18, hr⟩ := hq
      refine wo_take (v := (.b c18)) rfl (s_pure ((p_not rfl).trans (cb e18))) ?_
      refine wo_step (v := (.b c18)) (s_pure (p_pickF rfl rfl)) ?_
      refine wo_nil ?_
      cases hr
      exact ⟨_, _, rfl, rfl, gl rfl, gl g1, gl g2⟩
  · clear hr
    have hr := hk
    clear hk
    obtain ⟨c19, m_2⟩ := o
    rintro mm t_1 ⟨rfl, g19, g1, g2⟩
    refine wo_nil ?_
    refine nx_norm ?_
    have hq := cond_inv hr
    clear hr
    rcases hq with ⟨rfl, hr⟩ | ⟨rfl, hr⟩
    · refine w_condT g19 ?_
      refine w_seq ?_
      refine w_ops ?_
      refine wo_step (v := AVal.nsl) (s_pure (p_mv rfl)) ?_
      refine wo_step (v := (.i .i64 2)) (s_pure (p_mv rfl)) ?_
      refine wo_nil ?_
      refine nx_norm ?_
      refine w_ret ?_
      refine nx_ret ?_
      exact qf ret_ok (rt rfl (rt rfl rn)) hr
    · refine w_condF g19 ?_
      refine w_skip ?_
      refine nx_norm ?_
      refine w_seq ?_
      refine w_ops ?_
      refine wo_step (v := v1) (s_pure (p_mv g1)) ?_
      have hq := bindO_inv hr
      clear hr
      obtain ⟨v21, e21, hr⟩ := hq
      have hq := asI_inv hr
      clear hr
      obtain ⟨x21, rfl, hr⟩ := hq
      refine wo_step (v := (.i .i64 x21)) (s_pure (o_len rfl e21)) ?_
      have hq := bindP_inv hr
      clear hr
      obtain ⟨v22, m_4, e22, hr⟩ := hq
      refine wo_step (v := v22) (s_mk rfl rfl e22) ?_
      refine wo_step (v := v22) (s_pure (p_mv rfl)) ?_
      refine wo_nil ?_
      refine nx_norm ?_
      refine w_seq ?_
      refine w_seq ?_
      refine w_ops ?_
      refine wo_step (v := v22) (s_pure (p_mv rfl)) ?_
      have hq := bindO_inv hr
      clear hr
      obtain ⟨v24, e24, hr⟩ := hq
      have hq := asI_inv hr
      clear hr
      obtain ⟨x24, rfl, hr⟩ := hq
      refine wo_step (v := (.i .i64 x24)) (s_pure (o_len rfl e24)) ?_
      refine wo_step (v := (.i .i64 0)) (s_pure (p_mv rfl)) ?_
      refine wo_nil ?_
      refine nx_norm ?_
      refine w_block ?_
      have hq := bindO_inv hr
      clear hr
      obtain ⟨o_1, hl, hr⟩ := hq
      obtain ⟨n, hl⟩ := hM.loop _ _ _ hl
      refine jp_mono (w_loop _ (g18_I1 v1 v2 v22 x24) (g18_J1 v1 v2 v22 x24) ?_ n _ _ _ _ hl ⟨rfl, gl rfl, gl g1, gl g2, gl rfl, gl rfl⟩) ?_
      · clear hr hl
        intro s mm_3 t_2 o hi hr
        obtain ⟨x25, m_5⟩ := s
        obtain ⟨rfl, g25, g1, g2, g8, g24⟩ := hi
        unfold g18_b1 at hr
        refine w_seq ?_
        refine w_ops ?_
        have hq := forceB_inv hr
        clear hr
        obtain ⟨c26, e26, hr⟩ := hq
        refine wo_step (v := (.b c26)) (s_pure (p_bin g25 g24 (b_lss.trans (cb e26)))) ?_
        refine wo_nil ?_
        refine nx_norm ?_
        refine w_seq ?_
        have hq := cond_inv hr
        clear hr
        rcases hq with ⟨rfl, hr⟩ | ⟨rfl, hr⟩
        · refine w_condT rfl ?_
          refine w_skip ?_
          refine nx_norm ?_
          refine w_seq ?_
          refine w_block ?_
          refine w_seq ?_
          refine w_ops ?_
          refine wo_step (v := (.i .i64 x25)) (s_pure (p_mv g25)) ?_
          refine wo_step (v := (.i .i64 x25)) (s_pure (p_mv rfl)) ?_
          refine wo_nil ?_
          refine nx_norm ?_
          refine w_seq ?_
          refine w_any ?_
          refine wa_step (v := v22) (a_pure (p_mv g8)) ?_
          refine wa_step (v := (.i .i64 x25)) (a_pure (p_mv rfl)) ?_
          refine wa_step (v := v1) (a_pure (p_mv g1)) ?_
          refine wa_step (v := (.i .i64 x25)) (a_pure (p_mv rfl)) ?_
          have hq := bindO_inv hr
          clear hr
          obtain ⟨v32, e32, hr⟩ := hq
          refine wa_step (v := v32) (a_pure (o_ixS rfl rfl e32)) ?_
          have hq := bindO_inv hr
          clear hr
          obtain ⟨v33, e33, hr⟩ := hq
          have hq := asI_inv hr
          clear hr
          obtain ⟨x33, rfl, hr⟩ := hq
          refine wa_step (v := (.i .i64 x33)) (a_ld rfl e33) ?_
          refine wa_step (v := v2) (a_pure (p_mv g2)) ?_
          refine wa_step (v := (.i .i64 x25)) (a_pure (p_mv rfl)) ?_
          have hq := bindO_inv hr
          clear hr
          obtain ⟨v36, e36, hr⟩ := hq
          refine wa_step (v := v36) (a_pure (o_ixS rfl rfl e36)) ?_
          have hq := bindO_inv hr
          clear hr
          obtain ⟨v37, e37, hr⟩ := hq
          have hq := asI_inv hr
          clear hr
          obtain ⟨x37, rfl, hr⟩ := hq
          refine wa_step (v := (.i .i64 x37)) (a_ld rfl e37) ?_
          have hq := forceI_inv hr
          clear hr
          obtain ⟨x38, e38, hr⟩ := hq
          refine wa_step (v := (.i .i64 x38)) (a_pure (p_bin rfl rfl (b_add.trans (ci e38)))) ?_
          have hq := bindO_inv hr
          clear hr
          obtain ⟨v39, e39, hr⟩ := hq
          refine wa_step (v := v39) (a_pure (o_ixS rfl rfl e39)) ?_
          have hq := asP_inv hr
          clear hr
          obtain ⟨qs, eqs, hr⟩ := hq
          refine wa_stepN (a_st (Eq.trans (b := v39) rfl eqs) rfl rfl) ?_
          have hq := bindO_inv hr
          clear hr
          obtain ⟨m_6, ew, hr⟩ := hq
          refine wa_nil ?_
          refine ⟨m_6, ew, ?_⟩
          refine nx_norm ?_
          refine w_seq ?_
          refine w_ops ?_
          refine wo_step (v := v22) (s_pure (p_mv g8)) ?_
          refine wo_step (v := (.i .i64 x25)) (s_pure (p_mv rfl)) ?_
          have hq := bindO_inv hr
          clear hr
          obtain ⟨v42, e42, hr⟩ := hq
          refine wo_step (v := v42) (s_pure (o_ixS rfl rfl e42)) ?_
          have hq := bindO_inv hr
          clear hr
          obtain ⟨v43, e43, hr⟩ := hq
          have hq := asI_inv hr
          clear hr
          obtain ⟨x43, rfl, hr⟩ := hq
          refine wo_step (v := (.i .i64 x43)) (s_ld rfl e43) ?_
          have hq := bindP_inv hr
          clear hr
          obtain ⟨v44, m_7, e44, hr⟩ := hq
          have hq := asB_inv hr
          clear hr
          obtain ⟨c44, rfl, hr⟩ := hq
          refine wo_step (v := (.b c44)) (s_call (mc rfl (mc rfl mn)) (callM_le hM.call e44)) ?_
          have hq := forceB_inv hr
          clear hr
          obtain ⟨c45, e45, hr⟩ := hq
          refine wo_step (v := (.b c45)) (s_pure ((p_not rfl).trans (cb e45))) ?_
          refine wo_nil ?_
          refine nx_norm ?_
          have hq := cond_inv hr
          clear hr
          rcases hq with ⟨rfl, hr⟩ | ⟨rfl, hr⟩
          · refine w_condT rfl ?_
            refine w_seq ?_
            refine w_ops ?_
            refine wo_step (v := AVal.nsl) (s_pure (p_mv rfl)) ?_
            refine wo_step (v := (.i .i64 4)) (s_pure (p_mv rfl)) ?_
            refine wo_nil ?_
            refine nx_norm ?_
            refine w_ret ?_
            refine bk_ret ?_
            refine nx_ret ?_
            cases hr
            exact ⟨_, _, rfl, ne_norm_ret, rfl, rfl, gl rfl, gl rfl⟩
          · refine w_condF rfl ?_
            refine w_skip ?_
            refine bk_norm ?_
            refine nx_norm ?_
            refine w_ops ?_
            have hq := forceI_inv hr
            clear hr
            obtain ⟨x46, e46, hr⟩ := hq
            refine wo_step (v := (.i .i64 x46)) (s_pure (p_bin g25 rfl (b_add.trans (ci e46)))) ?_
            refine wo_step (v := (.i .i64 x46)) (s_pure (p_mv rfl)) ?_
            refine wo_nil ?_
            cases hr
            exact ⟨_, _, rfl, rfl, rfl, gl rfl, gl g1, gl g2, gl g8, gl g24⟩
        · refine w_condF rfl ?_
          refine w_exit ?_
          refine nx_exit ?_
          cases hr
          exact ⟨_, _, rfl, ne_norm_exit, rfl, rfl, gl g8⟩
      · rcases o_1 with o_1 | o_1
        · obtain ⟨m_8, ho⟩ : ∃ z, z = o_1 := ⟨_, rfl⟩
          subst ho
          rintro _ mm_1 t_3 ⟨rfl, rfl, g8⟩
          refine bk_hit ?_
          refine nx_norm ?_
          refine w_seq ?_
          refine w_ops ?_
          refine wo_step (v := v22) (s_pure (p_mv g8)) ?_
          refine wo_step (v := v22) (s_pure (p_mv rfl)) ?_
          refine wo_step (v := (.i .i64 0)) (s_pure (p_mv rfl)) ?_
          refine wo_nil ?_
          refine nx_norm ?_
          refine w_ret ?_
          exact qf ret_ok (rt rfl (rt rfl rn)) hr
        · obtain ⟨v6, x7, m_9⟩ := o_1
          rintro _ mm_2 t_4 ⟨rfl, rfl, g6, g7⟩
          refine bk_ret ?_
          refine nx_ret ?_
          exact qf ret_ok (rt g6 (rt g7 rn)) hr

/- dibber/dibberref08.Sum -/
abbrev g19_J0 (v1 : AVal) (v2 : AVal) (o : Bool × Mm) (m1 : Mm) (t1 : Tr) : Prop :=
  match o with
  | (c20, m_2) => m_2 = m1 ∧ t1.get 20 = (.b c20) ∧ t1.get 1 = v1 ∧ t1.get 2 = v2
abbrev g19_I1 (v1 : AVal) (v2 : AVal) (s : AVal × Int × Mm) (m1 : Mm) (t1 : Tr) : Prop :=
  match s with
  | (v8, x9, m_4) => m_4 = m1 ∧ t1.get 8 = v8 ∧ t1.get 9 = (.i .i64 x9) ∧ t1.get 1 = v1 ∧ t1.get 2 = v2
abbrev g19_J1 (v1 : AVal) (v2 : AVal) (o : ((AVal × Mm) ⊕ (AVal × Int × Mm))) (e : AExit) (m1 : Mm) (t1 : Tr) : Prop :=
  match o with
  | (.inl (y8, mo)) => e = (.exit 0) ∧ mo = m1 ∧ t1.get 8 = y8
  | (.inr (y6, y7, mo)) => e = .ret ∧ mo = m1 ∧ t1.get 6 = y6 ∧ t1.get 7 = (.i .i64 y7)
abbrev g19_J2 (v1 : AVal) (v2 : AVal) (v8 : AVal) (x9 : Int) (x35 : Int) (m_4 : Mm) (o : Bool) (m1 : Mm) (t1 : Tr) : Prop :=
  match o with
  | c41 => m_4 = m1 ∧ t1.get 41 = (.b c41) ∧ t1.get 1 = v1 ∧ t1.get 2 = v2 ∧ t1.get 8 = v8 ∧ t1.get 9 = (.i .i64 x9) ∧ t1.get 10 = (.i .i64 x35)
def g19_b1 (M : Means) (ro : List ABlk) (v1 : AVal) (v2 : AVal) (v8 : AVal) (x9 : Int) (m_4 : Mm) : Option ((AVal × Int × Mm) ⊕ (((AVal × Mm) ⊕ (AVal × Int × Mm)))) :=
  bindO (evP .e (.len false (.c v1))) fun v23 =>
  asI .i64 v23 fun x23 =>
  forceB (ltI x9 x23) fun c24 =>
  cond c24 (
    bindO (evP .e (.ixS 1 (.c v1) (.c (.i .i64 x9)))) fun v29 =>
    bindO (ldA ro m_4.h true 1 v29) fun v30 =>
    asI .i64 v30 fun x30 =>
    bindO (evP .e (.ixS 1 (.c v2) (.c (.i .i64 x9)))) fun v33 =>
    bindO (ldA ro m_4.h true 1 v33) fun v34 =>
    asI .i64 v34 fun x34 =>
    forceI (wr .i64 (x30 + x34)) fun x35 =>
    forceB (ltI x35 (-1000000)) fun c37 =>
    bindO (cond c37 (
      some true) (
      forceB (ltI 1000000 x35) fun c40 =>
      some c40)) fun c41 =>
    cond c41 (
      some (.inr (.inr (AVal.nsl, 4, m_4)))) (
      bindP (stepM ro m_4 (.bsl 3 1 [(AVal.i IntKind.i64 0)] 1 [((0, 1), .c (.i .i64 x35))])) fun v44 m_5 =>
      bindP (stepM ro m_5 (.app 3 1 8 [(AVal.i IntKind.i64 0)] (.c v8) (.c v44))) fun v45 m_6 =>
      forceI (wr .i64 (x9 + 1)) fun x26 =>
      some (.inl (v45, x26, m_6)))) (
    some (.inr (.inl (v8, m_4))))
def g19 (M : Means) (ro : List ABlk) (x0 : Int) (v1 : AVal) (v2 : AVal) (m0 : Mm) : Option (AVal × Heap × Nat × Nat) :=
  bindP (callM M.call m0 48 [(.i .i64 x0), v1]) fun v13 m_1 =>
  asB v13 fun c13 =>
  forceB (!c13) fun c14 =>
  bindO (cond c14 (
    some (true, m_1)) (
    bindP (callM M.call m_1 48 [(.i .i64 x0), v2]) fun v18 m_3 =>
    asB v18 fun c18 =>
    forceB (!c18) fun c19 =>
    some (c19, m_3))) fun ⟨c20, m_2⟩ =>
  cond c20 (
    finM m0.h.length (tupA [AVal.nsl, (.i .i64 2)]) m_2) (
    bindO (M.loop (S := AVal × Int × Mm) (R := ((AVal × Mm) ⊕ (AVal × Int × Mm))) (fun s => g19_b1 M ro v1 v2 s.1 s.2.1 s.2.2) (AVal.nsl, 0, m_2)) fun o_2 => match o_2 with
    | (.inl (v8_1, m_7)) =>
      finM m0.h.length (tupA [v8_1, (.i .i64 0)]) m_7
    | (.inr (v6, x7, m_8)) =>
      finM m0.h.length (tupA [v6, (.i .i64 x7)]) m_8)

theorem g19_ok {ro : List ABlk} {O : Caller} {M : Means} (hM : M.Ok ⟨F, O⟩ ro) {x0 v1 v2 h r} (ho : O 19 [(.i .i64 x0), v1, v2] h = none) (hr : g19 M ro x0 v1 v2 ⟨h, h.length, h.length⟩ = some r) : callX ⟨F, O⟩ ro 19 [(.i .i64 x0), v1, v2] h = some r := by
  refine callX_of (F := ⟨F, O⟩) (fn := fn19) (g := g19 M ro x0 v1 v2) ho rfl rfl hr ?_
  clear ho
  clear hr
  intro m0 t0 ht hr
  have g0 : t0.get 0 = (.i .i64 x0) := ht 0
  have g1 : t0.get 1 = v1 := ht 1
  have g2 : t0.get 2 = v2 := ht 2
  clear ht
  unfold g19 at hr
  refine w_seq ?_
  refine w_ops ?_
  refine wo_step (v := AVal.nsl) (s_pure (p_mv rfl)) ?_
  refine wo_step (v := (.i .i64 0)) (s_pure (p_mv rfl)) ?_
  refine wo_nil ?_
  refine nx_norm ?_
  refine w_seq ?_
  refine w_seq ?_
  refine w_ops ?_
  refine wo_step (v := (.i .i64 x0)) (s_pure (p_mv g0)) ?_
  refine wo_step (v := v1) (s_pure (p_mv g1)) ?_
  have hq := bindP_inv hr
  clear hr
  obtain ⟨v13, m_1, e13, hr⟩ := hq
  have hq := asB_inv hr
  clear hr
  obtain ⟨c13, rfl, hr⟩ := hq
  refine wo_step (v := (.b c13)) (s_call (mc rfl (mc rfl mn)) (callM_le hM.call e13)) ?_
  have hq := forceB_inv hr
  clear hr
  obtain ⟨c14, e14, hr⟩ := hq
  refine wo_step (v := (.b c14)) (s_pure ((p_not rfl).trans (cb e14))) ?_
  refine wo_step (v := (.b c14)) (s_pure (p_mv rfl)) ?_
  have hq := bindO_inv hr
  clear hr
  obtain ⟨o, hr, hk⟩ := hq
  refine wo_join 5 (g19_J0 v1 v2 o) ?_ ?_
  · clear hk
    have hq := cond_inv hr
    clear hr
    rcases hq with ⟨rfl, hr⟩ | ⟨rfl, hr⟩
    · refine wo_skip (v := (.b true)) rfl rfl ?_
      refine wo_skip (v := (.b true)) rfl rfl ?_
      refine wo_skip (v := (.b true)) rfl rfl ?_
      refine wo_skip (v := (.b true)) rfl rfl ?_
      refine wo_step (v := (.b true)) (s_pure (p_pickT rfl rfl)) ?_
      refine wo_nil ?_
      cases hr
      exact ⟨_, _, rfl, rfl, gl rfl, gl g1, gl g2⟩
    · refine wo_take (v := (.i .i64 x0)) rfl (s_pure (p_mv g0)) ?_
      refine wo_take (v := v2) rfl (s_pure (p_mv g2)) ?_
      have hq := bindP_inv hr
      clear hr
      obtain ⟨v18, m_3, e18, hr⟩ := hq
      have hq := asB_inv hr
      clear hr
      obtain ⟨c18, rfl, hr⟩ := hq
      refine wo_take (v := (.b c18)) rfl (s_call (mc rfl (mc rfl mn)) (callM_le hM.call e18)) ?_
      have hq := forceB_inv hr
      clear hr
      obtain ⟨c19, e19, hr⟩ := hq
      refine wo_take (v := (.b c19)) rfl (s_pure ((p_not rfl).trans (cb e19))) ?_
      refine wo_step (v := (.b c19)) (s_pure (p_pickF rfl rfl)) ?_
      refine wo_nil ?_
      cases hr
      exact ⟨_, _, rfl, rfl, gl rfl, gl g1, gl g2⟩
  · clear hr
    have hr := hk
    clear hk
    obtain ⟨c20, m_2⟩ := o
    rintro mm t_1 ⟨rfl, g20, g1, g2⟩
    refine wo_nil ?_
    refine nx_norm ?_
    have hq := cond_inv hr
    clear hr
    rcases hq with ⟨rfl, hr⟩ | ⟨rfl, hr⟩
    · refine w_condT g20 ?_
      refine w_seq ?_
      refine w_ops ?_
      refine wo_step (v := AVal.nsl) (s_pure (p_mv rfl)) ?_
      refine wo_step (v := (.i .i64 2)) (s_pure (p_mv rfl)) ?_
      refine wo_nil ?_
      refine nx_norm ?_
      refine w_ret ?_
      refine nx_ret ?_
      exact qf ret_ok (rt rfl (rt rfl rn)) hr
    · refine w_condF g20 ?_
      refine w_skip ?_
      refine nx_norm ?_
      refine w_seq ?_
      refine w_ops ?_
      refine wo_step (v := AVal.nsl) (s_pure (p_mv rfl)) ?_
      refine wo_nil ?_
      refine nx_norm ?_
      refine w_seq ?_
      refine w_seq ?_
      refine w_ops ?_
      refine wo_step (v := (.i .i64 0)) (s_pure (p_mv rfl)) ?_
      refine wo_nil ?_
      refine nx_norm ?_
      refine w_block ?_
      have hq := bindO_inv hr
      clear hr
      obtain ⟨o_2, hl, hr⟩ := hq
      obtain ⟨n, hl⟩ := hM.loop _ _ _ hl
      refine jp_mono (w_loop _ (g19_I1 v1 v2) (g19_J1 v1 v2) ?_ n _ _ _ _ hl ⟨rfl, gl rfl, gl rfl, gl g1, gl g2⟩) ?_
      · clear hr hl
        intro s mm_4 t_2 o hi hr
        obtain ⟨v8, x9, m_4⟩ := s
        obtain ⟨rfl, g8, g9, g1, g2⟩ := hi
        unfold g19_b1 at hr
        refine w_seq ?_
        refine w_seq ?_
        refine w_ops ?_
        refine wo_step (v := (.i .i64 x9)) (s_pure (p_mv g9)) ?_
        refine wo_step (v := v1) (s_pure (p_mv g1)) ?_
        have hq := bindO_inv hr
        clear hr
        obtain ⟨v23, e23, hr⟩ := hq
        have hq := asI_inv hr
        clear hr
        obtain ⟨x23, rfl, hr⟩ := hq
        refine wo_step (v := (.i .i64 x23)) (s_pure (o_len rfl e23)) ?_
        have hq := forceB_inv hr
        clear hr
        obtain ⟨c24, e24, hr⟩ := hq
        refine wo_step (v := (.b c24)) (s_pure (p_bin rfl rfl (b_lss.trans (cb e24)))) ?_
        refine wo_nil ?_
        refine nx_norm ?_
        have hq := cond_inv hr
        clear hr
        rcases hq with ⟨rfl, hr⟩ | ⟨rfl, hr⟩
        · refine w_condT rfl ?_
          refine w_skip ?_
          refine nx_norm ?_
          refine w_seq ?_
          refine w_block ?_
          refine w_seq ?_
          refine w_any ?_
          refine wa_step (v := v1) (a_pure (p_mv g1)) ?_
          refine wa_step (v := (.i .i64 x9)) (a_pure (p_mv g9)) ?_
          have hq := bindO_inv hr
          clear hr
          obtain ⟨v29, e29, hr⟩ := hq
          refine wa_step (v := v29) (a_pure (o_ixS rfl rfl e29)) ?_
          have hq := bindO_inv hr
          clear hr
          obtain ⟨v30, e30, hr⟩ := hq
          have hq := asI_inv hr
          clear hr
          obtain ⟨x30, rfl, hr⟩ := hq
          refine wa_step (v := (.i .i64 x30)) (a_ld rfl e30) ?_
          refine wa_step (v := v2) (a_pure (p_mv g2)) ?_
          refine wa_step (v := (.i .i64 x9)) (a_pure (p_mv g9)) ?_
          have hq := bindO_inv hr
          clear hr
          obtain ⟨v33, e33, hr⟩ := hq
          refine wa_step (v := v33) (a_pure (o_ixS rfl rfl e33)) ?_
          have hq := bindO_inv hr
          clear hr
          obtain ⟨v34, e34, hr⟩ := hq
          have hq := asI_inv hr
          clear hr
          obtain ⟨x34, rfl, hr⟩ := hq
          refine wa_step (v := (.i .i64 x34)) (a_ld rfl e34) ?_
          have hq := forceI_inv hr
          clear hr
          obtain ⟨x35, e35, hr⟩ := hq
          refine wa_step (v := (.i .i64 x35)) (a_pure (p_bin rfl rfl (b_add.trans (ci e35)))) ?_
          refine wa_step (v := (.i .i64 x35)) (a_pure (p_mv rfl)) ?_
          refine wa_nil ?_
          refine ⟨m_4, rfl, ?_⟩
          refine nx_norm ?_
          refine w_seq ?_
          refine w_seq ?_
          refine w_ops ?_
          refine wo_step (v := (.i .i64 x35)) (s_pure (p_mv rfl)) ?_
          have hq := forceB_inv hr
          clear hr
          obtain ⟨c37, e37, hr⟩ := hq
          refine wo_step (v := (.b c37)) (s_pure (p_bin rfl rfl (b_lss.trans (cb e37)))) ?_
          refine wo_step (v := (.b c37)) (s_pure (p_mv rfl)) ?_
          have hq := bindO_inv hr
          clear hr
          obtain ⟨o_1, hr, hk⟩ := hq
          refine wo_join 3 (g19_J2 v1 v2 v8 x9 x35 m_4 o_1) ?_ ?_
          · clear hk
            have hq := cond_inv hr
            clear hr
            rcases hq with ⟨rfl, hr⟩ | ⟨rfl, hr⟩
            · refine wo_skip (v := (.b true)) rfl rfl ?_
              refine wo_skip (v := (.b true)) rfl rfl ?_
              refine wo_step (v := (.b true)) (s_pure (p_pickT rfl rfl)) ?_
              refine wo_nil ?_
              cases hr
              exact ⟨_, _, rfl, rfl, gl rfl, gl g1, gl g2, gl g8, gl g9, gl rfl⟩
            · refine wo_take (v := (.i .i64 x35)) rfl (s_pure (p_mv rfl)) ?_
              have hq := forceB_inv hr
              clear hr
              obtain ⟨c40, e40, hr⟩ := hq
              refine wo_take (v := (.b c40)) rfl (s_pure (p_bin rfl rfl (b_gtr.trans (cb e40)))) ?_
              refine wo_step (v := (.b c40)) (s_pure (p_pickF rfl rfl)) ?_
              refine wo_nil ?_
              cases hr
              exact ⟨_, _, rfl, rfl, gl rfl, gl g1, gl g2, gl g8, gl g9, gl rfl⟩
          · clear hr
            have hr := hk
            clear hk
            obtain ⟨c41, ho⟩ : ∃ z, z = o_1 := ⟨_, rfl⟩
            subst ho
            rintro mm_1 t_3 ⟨rfl, g41, g1, g2, g8, g9, g10⟩
            refine wo_nil ?_
            refine nx_norm ?_
            have hq := cond_inv hr
            clear hr
            rcases hq with ⟨rfl, hr⟩ | ⟨rfl, hr⟩
            · refine w_condT g41 ?_
              refine w_seq ?_
              refine w_ops ?_
              refine wo_step (v := AVal.nsl) (s_pure (p_mv rfl)) ?_
              refine wo_step (v := (.i .i64 4)) (s_pure (p_mv rfl)) ?_
              refine wo_nil ?_
              refine nx_norm ?_
              refine w_ret ?_
              refine nx_ret ?_
              refine bk_ret ?_
              refine nx_ret ?_
              cases hr
              exact ⟨_, _, rfl, ne_norm_ret, rfl, rfl, gl rfl, gl rfl⟩
            · refine w_condF g41 ?_
              refine w_skip ?_
              refine nx_norm ?_
              refine w_ops ?_
              refine wo_step (v := v8) (s_pure (p_mv g8)) ?_
              refine wo_step (v := (.i .i64 x35)) (s_pure (p_mv g10)) ?_
              have hq := bindP_inv hr
              clear hr
              obtain ⟨v44, m_5, e44, hr⟩ := hq
              refine wo_step (v := v44) (s_bsl (qc rfl qn) e44) ?_
              have hq := bindP_inv hr
              clear hr
              obtain ⟨v45, m_6, e45, hr⟩ := hq
              refine wo_step (v := v45) (s_app rfl rfl e45) ?_
              refine wo_step (v := v45) (s_pure (p_mv rfl)) ?_
              refine wo_nil ?_
              refine bk_norm ?_
              refine nx_norm ?_
              refine w_ops ?_
              refine wo_step (v := (.i .i64 x9)) (s_pure (p_mv g9)) ?_
              have hq := forceI_inv hr
              clear hr
              obtain ⟨x26, e26, hr⟩ := hq
              refine wo_step (v := (.i .i64 x26)) (s_pure (p_bin rfl rfl (b_add.trans (ci e26)))) ?_
              refine wo_step (v := (.i .i64 x26)) (s_pure (p_mv rfl)) ?_
              refine wo_nil ?_
              cases hr
              exact ⟨_, _, rfl, rfl, rfl, gl rfl, gl rfl, gl g1, gl g2⟩
        · refine w_condF rfl ?_
          refine w_exit ?_
          refine nx_exit ?_
          cases hr
          exact ⟨_, _, rfl, ne_norm_exit, rfl, rfl, gl g8⟩
      · rcases o_2 with o_2 | o_2
        · obtain ⟨v8_1, m_7⟩ := o_2
          rintro _ mm_2 t_4 ⟨rfl, rfl, g8⟩
          refine bk_hit ?_
          refine nx_norm ?_
          refine w_seq ?_
          refine w_ops ?_
          refine wo_step (v := v8_1) (s_pure (p_mv g8)) ?_
          refine wo_step (v := v8_1) (s_pure (p_mv rfl)) ?_
          refine wo_step (v := (.i .i64 0)) (s_pure (p_mv rfl)) ?_
          refine wo_nil ?_
          refine nx_norm ?_
          refine w_ret ?_
          exact qf ret_ok (rt rfl (rt rfl rn)) hr
        · obtain ⟨v6, x7, m_8⟩ := o_2
          rintro _ mm_3 t_5 ⟨rfl, rfl, g6, g7⟩
          refine bk_ret ?_
          refine nx_ret ?_
          exact qf ret_ok (rt g6 (rt g7 rn)) hr

/- dibber/dibberlaw08.same -/
abbrev g20_I0 (v0 : AVal) (v1 : AVal) (m0 : Mm) (s : Int) (m1 : Mm) (t1 : Tr) : Prop :=
  match s with
  | x5 => m0 = m1 ∧ t1.get 5 = (.i .i64 x5) ∧ t1.get 0 = v0 ∧ t1.get 1 = v1
abbrev g20_J0 (v0 : AVal) (v1 : AVal) (m0 : Mm) (o : (Unit ⊕ Bool)) (e : AExit) (m1 : Mm) (t1 : Tr) : Prop :=
  match o with
  | (.inl _) => e = (.exit 0) ∧ m0 = m1
  | (.inr y4) => e = .ret ∧ m0 = m1 ∧ t1.get 4 = (.b y4)
def g20_b0 (M : Means) (ro : List ABlk) (v0 : AVal) (v1 : AVal) (m0 : Mm) (x5 : Int) : Option ((Int) ⊕ ((Unit ⊕ Bool))) :=
  bindO (evP .e (.len false (.c v0))) fun v13 =>
  asI .i64 v13 fun x13 =>
  forceB (ltI x5 x13) fun c14 =>
  cond c14 (
    bindO (evP .e (.ixS 1 (.c v0) (.c (.i .i64 x5)))) fun v19 =>
    bindO (ldA ro m0.h true 1 v19) fun v20 =>
    asI .i64 v20 fun x20 =>
    bindO (evP .e (.ixS 1 (.c v1) (.c (.i .i64 x5)))) fun v23 =>
    bindO (ldA ro m0.h true 1 v23) fun v24 =>
    asI .i64 v24 fun x24 =>
    forceB (!eqI x20 x24) fun c25 =>
    cond c25 (
      some (.inr (.inr false))) (
      forceI (wr .i64 (x5 + 1)) fun x16 =>
      some (.inl x16))) (
    some (.inr (.inl ())))
def g20 (M : Means) (ro : List ABlk) (v0 : AVal) (v1 : AVal) (m0 : Mm) : Option (AVal × Heap × Nat × Nat) :=
  bindO (evP .e (.len false (.c v0))) fun v7 =>
  asI .i64 v7 fun x7 =>
  bindO (evP .e (.len false (.c v1))) fun v9 =>
  asI .i64 v9 fun x9 =>
  forceB (!eqI x7 x9) fun c10 =>
  cond c10 (
    finM m0.h.length (tupA [(.b false)]) m0) (
    bindO (M.loop (S := Int) (R := (Unit ⊕ Bool)) (fun s => g20_b0 M ro v0 v1 m0 s) 0) fun o => match o with
    | (.inl _) =>
      finM m0.h.length (tupA [(.b true)]) m0
    | (.inr c4) =>
      finM m0.h.length (tupA [(.b c4)]) m0)

theorem g20_ok {ro : List ABlk} {O : Caller} {M : Means} (hM : M.Ok ⟨F, O⟩ ro) {v0 v1 h r} (ho : O 20 [v0, v1] h = none) (hr : g20 M ro v0 v1 ⟨h, h.length, h.length⟩ = some r) : callX ⟨F, O⟩ ro 20 [v0, v1] h = some r := by
  refine callX_of (F := ⟨F, O⟩) (fn := fn20) (g := g20 M ro v0 v1) ho rfl rfl hr ?_
  clear ho
  clear hr
  intro m0 t0 ht hr
  have g0 : t0.get 0 = v0 := ht 0
  have g1 : t0.get 1 = v1 := ht 1
  clear ht
  unfold g20 at hr
  refine w_seq ?_
  refine w_ops ?_
  refine wo_step (v := (.b false)) (s_pure (p_mv rfl)) ?_
  refine wo_nil ?_
  refine nx_norm ?_
  refine w_seq ?_
  refine w_seq ?_
  refine w_ops ?_
  refine wo_step (v := v0) (s_pure (p_mv g0)) ?_
  have hq := bindO_inv hr
  clear hr
  obtain ⟨v7, e7, hr⟩ := hq
  have hq := asI_inv hr
  clear hr
  obtain ⟨x7, rfl, hr⟩ := hq
  refine wo_step (v := (.i .i64 x7)) (s_pure (o_len rfl e7)) ?_
  refine wo_step (v := v1) (s_pure (p_mv g1)) ?_
  have hq := bindO_inv hr
  clear hr
  obtain ⟨v9, e9, hr⟩ := hq
  have hq := asI_inv hr
  clear hr
  obtain ⟨x9, rfl, hr⟩ := hq
  refine wo_step (v := (.i .i64 x9)) (s_pure (o_len rfl e9)) ?_
  have hq := forceB_inv hr
  clear hr
  obtain ⟨c10, e10, hr⟩ := hq
  refine wo_step (v := (.b c10)) (s_pure (p_bin rfl rfl (b_neq.trans (cb e10)))) ?_
  refine wo_nil ?_
  refine nx_norm ?_
  have hq := cond_inv hr
  clear hr
  rcases hq with ⟨rfl, hr⟩ | ⟨rfl, hr⟩
  · refine w_condT rfl ?_
    refine w_seq ?_
    refine w_ops ?_
    refine wo_step (v := (.b false)) (s_pure (p_mv rfl)) ?_
    refine wo_nil ?_
    refine nx_norm ?_
    refine w_ret ?_
    refine nx_ret ?_
    exact qf ret_ok (rt rfl rn) hr
  · refine w_condF rfl ?_
    refine w_skip ?_
    refine nx_norm ?_
    refine w_seq ?_
    refine w_seq ?_
    refine w_ops ?_
    refine wo_step (v := (.i .i64 0)) (s_pure (p_mv rfl)) ?_
    refine wo_nil ?_
    refine nx_norm ?_
    refine w_block ?_
    have hq := bindO_inv hr
    clear hr
    obtain ⟨o, hl, hr⟩ := hq
    obtain ⟨n, hl⟩ := hM.loop _ _ _ hl
    refine jp_mono (w_loop _ (g20_I0 v0 v1 m0) (g20_J0 v0 v1 m0) ?_ n _ _ _ _ hl ⟨rfl, gl rfl, gl g0, gl g1⟩) ?_
    · clear hr hl
      intro s mm_2 t_1 o hi hr
      obtain ⟨x5, hs⟩ : ∃ z, z = s := ⟨_, rfl⟩
      subst hs
      obtain ⟨rfl, g5, g0, g1⟩ := hi
      unfold g20_b0 at hr
      refine w_seq ?_
      refine w_seq ?_
      refine w_ops ?_
      refine wo_step (v := (.i .i64 x5)) (s_pure (p_mv g5)) ?_
      refine wo_step (v := v0) (s_pure (p_mv g0)) ?_
      have hq := bindO_inv hr
      clear hr
      obtain ⟨v13, e13, hr⟩ := hq
      have hq := asI_inv hr
      clear hr
      obtain ⟨x13, rfl, hr⟩ := hq
      refine wo_step (v := (.i .i64 x13)) (s_pure (o_len rfl e13)) ?_
      have hq := forceB_inv hr
      clear hr
      obtain ⟨c14, e14, hr⟩ := hq
      refine wo_step (v := (.b c14)) (s_pure (p_bin rfl rfl (b_lss.trans (cb e14)))) ?_
      refine wo_nil ?_
      refine nx_norm ?_
      have hq := cond_inv hr
      clear hr
      rcases hq with ⟨rfl, hr⟩ | ⟨rfl, hr⟩
      · refine w_condT rfl ?_
        refine w_skip ?_
        refine nx_norm ?_
        refine w_seq ?_
        refine w_block ?_
        refine w_seq ?_
        refine w_any ?_
        refine wa_step (v := v0) (a_pure (p_mv g0)) ?_
        refine wa_step (v := (.i .i64 x5)) (a_pure (p_mv g5)) ?_
        have hq := bindO_inv hr
        clear hr
        obtain ⟨v19, e19, hr⟩ := hq
        refine wa_step (v := v19) (a_pure (o_ixS rfl rfl e19)) ?_
        have hq := bindO_inv hr
        clear hr
        obtain ⟨v20, e20, hr⟩ := hq
        have hq := asI_inv hr
        clear hr
        obtain ⟨x20, rfl, hr⟩ := hq
        refine wa_step (v := (.i .i64 x20)) (a_ld rfl e20) ?_
        refine wa_step (v := v1) (a_pure (p_mv g1)) ?_
        refine wa_step (v := (.i .i64 x5)) (a_pure (p_mv g5)) ?_
        have hq := bindO_inv hr
        clear hr
        obtain ⟨v23, e23, hr⟩ := hq
        refine wa_step (v := v23) (a_pure (o_ixS rfl rfl e23)) ?_
        have hq := bindO_inv hr
        clear hr
        obtain ⟨v24, e24, hr⟩ := hq
        have hq := asI_inv hr
        clear hr
        obtain ⟨x24, rfl, hr⟩ := hq
        refine wa_step (v := (.i .i64 x24)) (a_ld rfl e24) ?_
        have hq := forceB_inv hr
        clear hr
        obtain ⟨c25, e25, hr⟩ := hq
        refine wa_step (v := (.b c25)) (a_pure (p_bin rfl rfl (b_neq.trans (cb e25)))) ?_
        refine wa_nil ?_
        refine ⟨m0, rfl, ?_⟩
        refine nx_norm ?_
        have hq := cond_inv hr
        clear hr
        rcases hq with ⟨rfl, hr⟩ | ⟨rfl, hr⟩
        · refine w_condT rfl ?_
          refine w_seq ?_
          refine w_ops ?_
          refine wo_step (v := (.b false)) (s_pure (p_mv rfl)) ?_
          refine wo_nil ?_
          refine nx_norm ?_
          refine w_ret ?_
          refine bk_ret ?_
          refine nx_ret ?_
          cases hr
          exact ⟨_, _, rfl, ne_norm_ret, rfl, rfl, gl rfl⟩
        · refine w_condF rfl ?_
          refine w_skip ?_
          refine bk_norm ?_
          refine nx_norm ?_
          refine w_ops ?_
          refine wo_step (v := (.i .i64 x5)) (s_pure (p_mv g5)) ?_
          have hq := forceI_inv hr
          clear hr
          obtain ⟨x16, e16, hr⟩ := hq
          refine wo_step (v := (.i .i64 x16)) (s_pure (p_bin rfl rfl (b_add.trans (ci e16)))) ?_
          refine wo_step (v := (.i .i64 x16)) (s_pure (p_mv rfl)) ?_
          refine wo_nil ?_
          cases hr
          exact ⟨_, _, rfl, rfl, rfl, gl rfl, gl g0, gl g1⟩
      · refine w_condF rfl ?_
        refine w_exit ?_
        refine nx_exit ?_
        cases hr
        exact ⟨_, _, rfl, ne_norm_exit, rfl, rfl⟩
    · rcases o with o | o
      · rintro _ mm t_2 ⟨rfl, rfl⟩
        refine bk_hit ?_
        refine nx_norm ?_
        refine w_seq ?_
        refine w_ops ?_
        refine wo_step (v := (.b true)) (s_pure (p_mv rfl)) ?_
        refine wo_nil ?_
        refine nx_norm ?_
        refine w_ret ?_
        exact qf ret_ok (rt rfl rn) hr
      · obtain ⟨c4, ho⟩ : ∃ z, z = o := ⟨_, rfl⟩
        subst ho
        rintro _ mm_1 t_3 ⟨rfl, rfl, g4⟩
        refine bk_ret ?_
        refine nx_ret ?_
        exact qf ret_ok (rt g4 rn) hr

/- dibber/share.isCost -/
abbrev g44_J0 (v1 : AVal) (m_1 : Mm) (o : Bool) (m1 : Mm) (t1 : Tr) : Prop :=
  match o with
  | c13 => m_1 = m1 ∧ t1.get 13 = (.b c13) ∧ t1.get 1 = v1
abbrev g44_J1 (v1 : AVal) (m_1 : Mm) (o : Bool) (m1 : Mm) (t1 : Tr) : Prop :=
  match o with
  | c19 => m_1 = m1 ∧ t1.get 19 = (.b c19) ∧ t1.get 1 = v1
abbrev g44_J2  (o : Bool × Mm) (m1 : Mm) (t1 : Tr) : Prop :=
  match o with
  | (c23, m_2) => m_2 = m1 ∧ t1.get 23 = (.b c23)
def g44 (M : Means) (ro : List ABlk) (x0 : Int) (v1 : AVal) (m0 : Mm) : Option (AVal × Heap × Nat × Nat) :=
  bindP (callM M.call m0 84 [(.i .i64 x0)]) fun v6 m_1 =>
  asB v6 fun c6 =>
  bindO (cond c6 (
    bindO (evP .e (.len false (.c v1))) fun v9 =>
    asI .i64 v9 fun x9 =>
    chk (!ltI x0 (.ofNat 0)) <|
    forceI (shlV .i64 1 x0) fun x11 =>
    forceB (eqI x9 x11) fun c12 =>
    some c12) (
    some false)) fun c13 =>
  bindO (cond c13 (
    bindO (evP .e (.ixS 1 (.c v1) (.c (.i .i64 0)))) fun v16 =>
    bindO (ldM ro m_1 true 1 v16) fun v17 =>
    asI .i64 v17 fun x17 =>
    forceB (eqI x17 0) fun c18 =>
    some c18) (
    some false)) fun c19 =>
  bindO (cond c19 (
    bindP (callM M.call m_1 87 [v1, (.i .i64 1000000)]) fun v22 m_3 =>
    asB v22 fun c22 =>
    some (c22, m_3)) (
    some (false, m_1))) fun ⟨c23, m_2⟩ =>
  finM m0.h.length (tupA [(.b c23)]) m_2

theorem g44_ok {ro : List ABlk} {O : Caller} {M : Means} (hM : M.Ok ⟨F, O⟩ ro) {x0 v1 h r} (ho : O 44 [(.i .i64 x0), v1] h = none) (hr : g44 M ro x0 v1 ⟨h, h.length, h.length⟩ = some r) : callX ⟨F, O⟩ ro 44 [(.i .i64 x0), v1] h = some r := by
  refine callX_of (F := ⟨F, O⟩) (fn := fn44) (g := g44 M ro x0 v1) ho rfl rfl hr ?_
  clear ho
  clear hr
  intro m0 t0 ht hr
  have g0 : t0.get 0 = (.i .i64 x0) := ht 0
  have g1 : t0.get 1 = v1 := ht 1
  clear ht
  unfold g44 at hr
  refine w_seq ?_
  refine w_ops ?_
  refine wo_step (v := (.b false)) (s_pure (p_mv rfl)) ?_
  refine wo_nil ?_
  refine nx_norm ?_
  refine w_seq ?_
  refine w_ops ?_
  refine wo_step (v := (.i .i64 x0)) (s_pure (p_mv g0)) ?_
  have hq := bindP_inv hr
  clear hr
  obtain ⟨v6, m_1, e6, hr⟩ := hq
  have hq := asB_inv hr
  clear hr
  obtain ⟨c6, rfl, hr⟩ := hq
  refine wo_step (v := (.b c6)) (s_call (mc rfl mn) (callM_le hM.call e6)) ?_
  refine wo_step (v := (.b c6)) (s_pure (p_mv rfl)) ?_
  have hq := bindO_inv hr
  clear hr
  obtain ⟨o, hr, hk⟩ := hq
  refine wo_join 6 (g44_J0 v1 m_1 o) ?_ ?_
  · clear hk
    have hq := cond_inv hr
    clear hr
    rcases hq with ⟨rfl, hr⟩ | ⟨rfl, hr⟩
    · refine wo_take (v := v1) rfl (s_pure (p_mv g1)) ?_
      have hq := bindO_inv hr
      clear hr
      obtain ⟨v9, e9, hr⟩ := hq
      have hq := asI_inv hr
      clear hr
      obtain ⟨x9, rfl, hr⟩ := hq
      refine wo_take (v := (.i .i64 x9)) rfl (s_pure (o_len rfl e9)) ?_
      refine wo_take (v := (.i .i64 x0)) rfl (s_pure (p_mv g0)) ?_
      have hq := chk_inv hr
      clear hr
      obtain ⟨hc11, hr⟩ := hq
      have hq := forceI_inv hr
      clear hr
      obtain ⟨x11, e11, hr⟩ := hq
      refine wo_take (v := (.i .i64 x11)) rfl (s_pure (p_bin rfl rfl ((b_shl hc11).trans (ci e11)))) ?_
      have hq := forceB_inv hr
      clear hr
      obtain ⟨c12, e12, hr⟩ := hq
      refine wo_take (v := (.b c12)) rfl (s_pure (p_bin rfl rfl (b_eql.trans (cb e12)))) ?_
      refine wo_step (v := (.b c12)) (s_pure (p_pickT rfl rfl)) ?_
      refine wo_nil ?_
      cases hr
      exact ⟨_, _, rfl, rfl, gl rfl, gl g1⟩
    · refine wo_skip (v := (.b false)) rfl rfl ?_
      refine wo_skip (v := (.b false)) rfl rfl ?_
      refine wo_skip (v := (.b false)) rfl rfl ?_
      refine wo_skip (v := (.b false)) rfl rfl ?_
      refine wo_skip (v := (.b false)) rfl rfl ?_
      refine wo_step (v := (.b false)) (s_pure (p_pickF rfl rfl)) ?_
      refine wo_nil ?_
      cases hr
      exact ⟨_, _, rfl, rfl, gl rfl, gl g1⟩
  · clear hr
    have hr := hk
    clear hk
    obtain ⟨c13, ho⟩ : ∃ z, z = o := ⟨_, rfl⟩
    subst ho
    rintro mm t_1 ⟨rfl, g13, g1⟩
    refine wo_step (v := (.b c13)) (s_pure (p_mv g13)) ?_
    have hq := bindO_inv hr
    clear hr
    obtain ⟨o_1, hr, hk⟩ := hq
    refine wo_join 5 (g44_J1 v1 m_1 o_1) ?_ ?_
    · clear hk
      have hq := cond_inv hr
      clear hr
      rcases hq with ⟨rfl, hr⟩ | ⟨rfl, hr⟩
      · refine wo_take (v := v1) rfl (s_pure (p_mv g1)) ?_
        have hq := bindO_inv hr
        clear hr
        obtain ⟨v16, e16, hr⟩ := hq
        refine wo_take (v := v16) rfl (s_pure (o_ixS rfl rfl e16)) ?_
        have hq := bindO_inv hr
        clear hr
        obtain ⟨v17, e17, hr⟩ := hq
        have hq := asI_inv hr
        clear hr
        obtain ⟨x17, rfl, hr⟩ := hq
        refine wo_take (v := (.i .i64 x17)) rfl (s_ld rfl e17) ?_
        have hq := forceB_inv hr
        clear hr
        obtain ⟨c18, e18, hr⟩ := hq
        refine wo_take (v := (.b c18)) rfl (s_pure (p_bin rfl rfl (b_eql.trans (cb e18)))) ?_
        refine wo_step (v := (.b c18)) (s_pure (p_pickT rfl rfl)) ?_
        refine wo_nil ?_
        cases hr
        exact ⟨_, _, rfl, rfl, gl rfl, gl g1⟩
      · refine wo_skip (v := (.b false)) rfl rfl ?_
        refine wo_skip (v := (.b false)) rfl rfl ?_
        refine wo_skip (v := (.b false)) rfl rfl ?_
        refine wo_skip (v := (.b false)) rfl rfl ?_
        refine wo_step (v := (.b false)) (s_pure (p_pickF rfl rfl)) ?_
        refine wo_nil ?_
        cases hr
        exact ⟨_, _, rfl, rfl, gl rfl, gl g1⟩
    · clear hr
      have hr := hk
      clear hk
      obtain ⟨c19, ho⟩ : ∃ z, z = o_1 := ⟨_, rfl⟩
      subst ho
      rintro mm_1 t_2 ⟨rfl, g19, g1⟩
      refine wo_step (v := (.b c19)) (s_pure (p_mv g19)) ?_
      have hq := bindO_inv hr
      clear hr
      obtain ⟨o_2, hr, hk⟩ := hq
      refine wo_join 3 (g44_J2  o_2) ?_ ?_
      · clear hk
        have hq := cond_inv hr
        clear hr
        rcases hq with ⟨rfl, hr⟩ | ⟨rfl, hr⟩
        · refine wo_take (v := v1) rfl (s_pure (p_mv g1)) ?_
          have hq := bindP_inv hr
          clear hr
          obtain ⟨v22, m_3, e22, hr⟩ := hq
          have hq := asB_inv hr
          clear hr
          obtain ⟨c22, rfl, hr⟩ := hq
          refine wo_take (v := (.b c22)) rfl (s_call (mc rfl (mc rfl mn)) (callM_le hM.call e22)) ?_
          refine wo_step (v := (.b c22)) (s_pure (p_pickT rfl rfl)) ?_
          refine wo_nil ?_
          cases hr
          exact ⟨_, _, rfl, rfl, gl rfl⟩
        · refine wo_skip (v := (.b false)) rfl rfl ?_
          refine wo_skip (v := (.b false)) rfl rfl ?_
          refine wo_step (v := (.b false)) (s_pure (p_pickF rfl rfl)) ?_
          refine wo_nil ?_
          cases hr
          exact ⟨_, _, rfl, rfl, gl rfl⟩
      · clear hr
        have hr := hk
        clear hk
        obtain ⟨c23, m_2⟩ := o_2
        rintro mm_2 t_3 ⟨rfl, g23⟩
        refine wo_step (v := (.b c23)) (s_pure (p_mv g23)) ?_
        refine wo_nil ?_
        refine nx_norm ?_
        refine w_ret ?_
        exact qf ret_ok (rt rfl rn) hr

/- dibber/share.groups -/
abbrev g45_I0 (v1 : AVal) (x8 : Int) (s : AVal × Int × Mm) (m1 : Mm) (t1 : Tr) : Prop :=
  match s with
  | (v5, x9, m_1) => m_1 = m1 ∧ t1.get 5 = v5 ∧ t1.get 9 = (.i .i64 x9) ∧ t1.get 1 = v1 ∧ t1.get 8 = (.i .i64 x8)
abbrev g45_J0 (v1 : AVal) (x8 : Int) (o : (AVal × Mm)) (e : AExit) (m1 : Mm) (t1 : Tr) : Prop :=
  match o with
  | (y5, mo) => e = (.exit 0) ∧ mo = m1 ∧ t1.get 5 = y5
abbrev g45_J1 (v1 : AVal) (x8 : Int) (x9 : Int) (o : (AVal × Mm)) (e : AExit) (m1 : Mm) (t1 : Tr) : Prop :=
  match o with
  | (y5, mo) => e = .norm ∧ mo = m1 ∧ t1.get 5 = y5 ∧ t1.get 1 = v1 ∧ t1.get 8 = (.i .i64 x8) ∧ t1.get 9 = (.i .i64 x9)
def g45_b0 (M : Means) (ro : List ABlk) (v1 : AVal) (x8 : Int) (v5 : AVal) (x9 : Int) (m_1 : Mm) : Option ((AVal × Int × Mm) ⊕ ((AVal × Mm))) :=
  forceB (ltI x9 x8) fun c10 =>
  cond c10 (
    bindP (callM M.call m_1 88 [(.i .i64 x9), v1]) fun v14 m_2 =>
    asB v14 fun c14 =>
    bindO (α := (AVal × Mm)) (
      cond c14 (
        bindP (stepM ro m_2 (.bsl 3 1 [(AVal.i IntKind.i64 0)] 1 [((0, 1), .c (.i .i64 x9))])) fun v17 m_3 =>
        bindP (stepM ro m_3 (.app 3 1 8 [(AVal.i IntKind.i64 0)] (.c v5) (.c v17))) fun v18 m_4 =>
        some (v18, m_4)) (
        some (v5, m_2))) fun ⟨v5_1, m_5⟩ =>
    forceI (wr .i64 (x9 + 1)) fun x19 =>
    some (.inl (v5_1, x19, m_5))) (
    some (.inr (v5, m_1)))
def g45 (M : Means) (ro : List ABlk) (x0 : Int) (v1 : AVal) (m0 : Mm) : Option (AVal × Heap × Nat × Nat) :=
  chk (!ltI x0 (.ofNat 0)) <|
  forceI (shlV .i64 1 x0) fun x8 =>
  bindO (M.loop (S := AVal × Int × Mm) (R := (AVal × Mm)) (fun s => g45_b0 M ro v1 x8 s.1 s.2.1 s.2.2) (AVal.nsl, 0, m0)) fun ⟨v5_2, m_6⟩ =>
  finM m0.h.length (tupA [v5_2]) m_6

theorem g45_ok {ro : List ABlk} {O : Caller} {M : Means} (hM : M.Ok ⟨F, O⟩ ro) {x0 v1 h r} (ho : O 45 [(.i .i64 x0), v1] h = none) (hr : g45 M ro x0 v1 ⟨h, h.length, h.length⟩ = some r) : callX ⟨F, O⟩ ro 45 [(.i .i64 x0), v1] h = some r := by
  refine callX_of (F := ⟨F, O⟩) (fn := fn45) (g := g45 M ro x0 v1) ho rfl rfl hr ?_
  clear ho
  clear hr
  intro m0 t0 ht hr
  have g0 : t0.get 0 = (.i .i64 x0) := ht 0
  have g1 : t0.get 1 = v1 := ht 1
  clear ht
  unfold g45 at hr
  refine w_seq ?_
  refine w_ops ?_
  refine wo_step (v := AVal.nsl) (s_pure (p_mv rfl)) ?_
  refine wo_nil ?_
  refine nx_norm ?_
  refine w_seq ?_
  refine w_ops ?_
  refine wo_step (v := AVal.nsl) (s_pure (p_mv rfl)) ?_
  refine wo_nil ?_
  refine nx_norm ?_
  refine w_seq ?_
  refine w_seq ?_
  refine w_ops ?_
  refine wo_step (v := (.i .i64 x0)) (s_pure (p_mv g0)) ?_
  have hq := chk_inv hr
  clear hr
  obtain ⟨hc8, hr⟩ := hq
  have hq := forceI_inv hr
  clear hr
  obtain ⟨x8, e8, hr⟩ := hq
  refine wo_step (v := (.i .i64 x8)) (s_pure (p_bin rfl rfl ((b_shl hc8).trans (ci e8)))) ?_
  refine wo_step (v := (.i .i64 0)) (s_pure (p_mv rfl)) ?_
  refine wo_nil ?_
  refine nx_norm ?_
  refine w_block ?_
  have hq := bindO_inv hr
  clear hr
  obtain ⟨o_1, hl, hr⟩ := hq
  obtain ⟨n, hl⟩ := hM.loop _ _ _ hl
  refine jp_mono (w_loop _ (g45_I0 v1 x8) (g45_J0 v1 x8) ?_ n _ _ _ _ hl ⟨rfl, gl rfl, gl rfl, gl g1, gl rfl⟩) ?_
  · clear hr hl
    intro s mm_2 t_1 o hi hr
    obtain ⟨v5, x9, m_1⟩ := s
    obtain ⟨rfl, g5, g9, g1, g8⟩ := hi
    unfold g45_b0 at hr
    refine w_seq ?_
    refine w_ops ?_
    have hq := forceB_inv hr
    clear hr
    obtain ⟨c10, e10, hr⟩ := hq
    refine wo_step (v := (.b c10)) (s_pure (p_bin g9 g8 (b_lss.trans (cb e10)))) ?_
    refine wo_nil ?_
    refine nx_norm ?_
    refine w_seq ?_
    have hq := cond_inv hr
    clear hr
    rcases hq with ⟨rfl, hr⟩ | ⟨rfl, hr⟩
    · refine w_condT rfl ?_
      refine w_skip ?_
      refine nx_norm ?_
      refine w_seq ?_
      refine w_block ?_
      refine w_seq ?_
      refine w_ops ?_
      refine wo_step (v := (.i .i64 x9)) (s_pure (p_mv g9)) ?_
      refine wo_step (v := (.i .i64 x9)) (s_pure (p_mv rfl)) ?_
      refine wo_nil ?_
      refine nx_norm ?_
      refine w_seq ?_
      refine w_ops ?_
      refine wo_step (v := (.i .i64 x9)) (s_pure (p_mv rfl)) ?_
      refine wo_step (v := v1) (s_pure (p_mv g1)) ?_
      have hq := bindP_inv hr
      clear hr
      obtain ⟨v14, m_2, e14, hr⟩ := hq
      have hq := asB_inv hr
      clear hr
      obtain ⟨c14, rfl, hr⟩ := hq
      refine wo_step (v := (.b c14)) (s_call (mc rfl (mc rfl mn)) (callM_le hM.call e14)) ?_
      refine wo_nil ?_
      refine nx_norm ?_
      have hq := bindO_inv hr
      clear hr
      obtain ⟨o, hr, hk⟩ := hq
      refine jp_mono (J := g45_J1 v1 x8 x9 o) ?_ ?_
      · clear hk
        have hq := cond_inv hr
        clear hr
        rcases hq with ⟨rfl, hr⟩ | ⟨rfl, hr⟩
        · refine w_condT rfl ?_
          refine w_ops ?_
          refine wo_step (v := v5) (s_pure (p_mv g5)) ?_
          refine wo_step (v := (.i .i64 x9)) (s_pure (p_mv rfl)) ?_
          have hq := bindP_inv hr
          clear hr
          obtain ⟨v17, m_3, e17, hr⟩ := hq
          refine wo_step (v := v17) (s_bsl (qc rfl qn) e17) ?_
          have hq := bindP_inv hr
          clear hr
          obtain ⟨v18, m_4, e18, hr⟩ := hq
          refine wo_step (v := v18) (s_app rfl rfl e18) ?_
          refine wo_step (v := v18) (s_pure (p_mv rfl)) ?_
          refine wo_nil ?_
          cases hr
          exact ⟨_, _, rfl, rfl, rfl, gl rfl, gl g1, gl g8, gl g9⟩
        · refine w_condF rfl ?_
          refine w_skip ?_
          cases hr
          exact ⟨_, _, rfl, rfl, rfl, gl g5, gl g1, gl g8, gl g9⟩
      · clear hr
        have hr := hk
        clear hk
        obtain ⟨v5_1, m_5⟩ := o
        rintro _ mm t_2 ⟨rfl, rfl, g5, g1, g8, g9⟩
        refine bk_norm ?_
        refine nx_norm ?_
        refine w_ops ?_
        have hq := forceI_inv hr
        clear hr
        obtain ⟨x19, e19, hr⟩ := hq
        refine wo_step (v := (.i .i64 x19)) (s_pure (p_bin g9 rfl (b_add.trans (ci e19)))) ?_
        refine wo_step (v := (.i .i64 x19)) (s_pure (p_mv rfl)) ?_
        refine wo_nil ?_
        cases hr
        exact ⟨_, _, rfl, rfl, rfl, gl g5, gl rfl, gl g1, gl g8⟩
    · refine w_condF rfl ?_
      refine w_exit ?_
      refine nx_exit ?_
      cases hr
      exact ⟨_, _, rfl, ne_norm_exit, rfl, rfl, gl g5⟩
  · obtain ⟨v5_2, m_6⟩ := o_1
    rintro _ mm_1 t_3 ⟨rfl, rfl, g5⟩
    refine bk_hit ?_
    refine nx_norm ?_
    refine w_seq ?_
    refine w_ops ?_
    refine wo_step (v := v5_2) (s_pure (p_mv g5)) ?_
    refine wo_step (v := v5_2) (s_pure (p_mv rfl)) ?_
    refine wo_nil ?_
    refine nx_norm ?_
    refine w_ret ?_
    exact qf ret_ok (rt rfl rn) hr

/- dibber/share.above -/

def g46 (M : Means) (ro : List ABlk) (x0 : Int) (m0 : Mm) : Option (AVal × Heap × Nat × Nat) :=
  bindP (stepM ro m0 (.bx 3 1 (.c (.i .i64 x0)))) fun v1 m_1 =>
  bindO (some (AVal.fn 89 [] [v1])) fun v3 =>
  finM m0.h.length (tupA [v3]) m_1

theorem g46_ok {ro : List ABlk} {O : Caller} {M : Means} (hM : M.Ok ⟨F, O⟩ ro) {x0 h r} (ho : O 46 [(.i .i64 x0)] h = none) (hr : g46 M ro x0 ⟨h, h.length, h.length⟩ = some r) : callX ⟨F, O⟩ ro 46 [(.i .i64 x0)] h = some r := by
  refine callX_of (F := ⟨F, O⟩) (fn := fn46) (g := g46 M ro x0) ho rfl rfl hr ?_
  clear ho
  clear hr
  intro m0 t0 ht hr
  have g0 : t0.get 0 = (.i .i64 x0) := ht 0
  clear ht
  unfold g46 at hr
  refine w_seq ?_
  refine w_ops ?_
  have hq := bindP_inv hr
  clear hr
  obtain ⟨v1, m_1, e1, hr⟩ := hq
  refine wo_step (v := v1) (s_bx g0 e1) ?_
  refine wo_step (v := AVal.nfn) (s_pure (p_mv rfl)) ?_
  refine wo_nil ?_
  refine nx_norm ?_
  refine w_seq ?_
  refine w_ops ?_
  have hq := bindO_inv hr
  clear hr
  obtain ⟨v3, e3, hr⟩ := hq
  refine wo_step (v := v3) (s_pure ((o_mkfn mn (mc rfl mn)).trans e3)) ?_
  refine wo_step (v := v3) (s_pure (p_mv rfl)) ?_
  refine wo_nil ?_
  refine nx_norm ?_
  refine w_ret ?_
  exact qf ret_ok (rt rfl rn) hr

/- dibber/share.breaks -/

def g47 (M : Means) (ro : List ABlk) (v0 : AVal) (x1 : Int) (m0 : Mm) : Option (AVal × Heap × Nat × Nat) :=
  bindP (stepM ro m0 (.bx 22 1 (.c v0))) fun v2 m_1 =>
  bindP (stepM ro m_1 (.bx 3 1 (.c (.i .i64 x1)))) fun v3 m_2 =>
  bindO (some (AVal.fn 90 [] [v2, v3])) fun v5 =>
  finM m0.h.length (tupA [v5]) m_2

theorem g47_ok {ro : List ABlk} {O : Caller} {M : Means} (hM : M.Ok ⟨F, O⟩ ro) {v0 x1 h r} (ho : O 47 [v0, (.i .i64 x1)] h = none) (hr : g47 M ro v0 x1 ⟨h, h.length, h.length⟩ = some r) : callX ⟨F, O⟩ ro 47 [v0, (.i .i64 x1)] h = some r := by
  refine callX_of (F := ⟨F, O⟩) (fn := fn47) (g := g47 M ro v0 x1) ho rfl rfl hr ?_
  clear ho
  clear hr
  intro m0 t0 ht hr
  have g0 : t0.get 0 = v0 := ht 0
  have g1 : t0.get 1 = (.i .i64 x1) := ht 1
  clear ht
  unfold g47 at hr
  refine w_seq ?_
  refine w_ops ?_
  have hq := bindP_inv hr
  clear hr
  obtain ⟨v2, m_1, e2, hr⟩ := hq
  refine wo_step (v := v2) (s_bx g0 e2) ?_
  have hq := bindP_inv hr
  clear hr
  obtain ⟨v3, m_2, e3, hr⟩ := hq
  refine wo_step (v := v3) (s_bx g1 e3) ?_
  refine wo_step (v := AVal.nfn) (s_pure (p_mv rfl)) ?_
  refine wo_nil ?_
  refine nx_norm ?_
  refine w_seq ?_
  refine w_ops ?_
  have hq := bindO_inv hr
  clear hr
  obtain ⟨v5, e5, hr⟩ := hq
  refine wo_step (v := v5) (s_pure ((o_mkfn mn (mc rfl (mc rfl mn))).trans e5)) ?_
  refine wo_step (v := v5) (s_pure (p_mv rfl)) ?_
  refine wo_nil ?_
  refine nx_norm ?_
  refine w_ret ?_
  exact qf ret_ok (rt rfl rn) hr

/- dibber/dibberref08.Cost -/
abbrev g48_J0 (x0 : Int) (v1 : AVal) (m0 : Mm) (o : Bool) (m1 : Mm) (t1 : Tr) : Prop :=
  match o with
  | c11 => m0 = m1 ∧ t1.get 11 = (.b c11) ∧ t1.get 0 = (.i .i64 x0) ∧ t1.get 1 = v1
abbrev g48_J1 (v1 : AVal) (m0 : Mm) (o : Bool) (m1 : Mm) (t1 : Tr) : Prop :=
  match o with
  | c18 => m0 = m1 ∧ t1.get 18 = (.b c18) ∧ t1.get 1 = v1
abbrev g48_J2 (v1 : AVal) (m0 : Mm) (o : Bool) (m1 : Mm) (t1 : Tr) : Prop :=
  match o with
  | c24 => m0 = m1 ∧ t1.get 24 = (.b c24) ∧ t1.get 1 = v1
abbrev g48_I3 (v1 : AVal) (m0 : Mm) (s : Int) (m1 : Mm) (t1 : Tr) : Prop :=
  match s with
  | x5 => m0 = m1 ∧ t1.get 5 = (.i .i64 x5) ∧ t1.get 1 = v1
abbrev g48_J3 (v1 : AVal) (m0 : Mm) (o : (Unit ⊕ Bool)) (e : AExit) (m1 : Mm) (t1 : Tr) : Prop :=
  match o with
  | (.inl _) => e = (.exit 0) ∧ m0 = m1
  | (.inr y4) => e = .ret ∧ m0 = m1 ∧ t1.get 4 = (.b y4)
abbrev g48_J4 (v1 : AVal) (x5 : Int) (m0 : Mm) (o : Bool) (m1 : Mm) (t1 : Tr) : Prop :=
  match o with
  | c42 => m0 = m1 ∧ t1.get 42 = (.b c42) ∧ t1.get 1 = v1 ∧ t1.get 5 = (.i .i64 x5)
def g48_b3 (M : Means) (ro : List ABlk) (v1 : AVal) (m0 : Mm) (x5 : Int) : Option ((Int) ⊕ ((Unit ⊕ Bool))) :=
  bindO (evP .e (.len false (.c v1))) fun v27 =>
  asI .i64 v27 fun x27 =>
  forceB (ltI x5 x27) fun c28 =>
  cond c28 (
    bindO (evP .e (.ixS 1 (.c v1) (.c (.i .i64 x5)))) fun v33 =>
    bindO (ldM ro m0 true 1 v33) fun v34 =>
    asI .i64 v34 fun x34 =>
    forceB (ltI x34 (-1000000)) fun c35 =>
    bindO (cond c35 (
      some true) (
      bindO (evP .e (.ixS 1 (.c v1) (.c (.i .i64 x5)))) fun v39 =>
      bindO (ldM ro m0 true 1 v39) fun v40 =>
      asI .i64 v40 fun x40 =>
      forceB (ltI 1000000 x40) fun c41 =>
      some c41)) fun c42 =>
    cond c42 (
      some (.inr (.inr false))) (
      forceI (wr .i64 (x5 + 1)) fun x30 =>
      some (.inl x30))) (
    some (.inr (.inl ())))
def g48 (M : Means) (ro : List ABlk) (x0 : Int) (v1 : AVal) (m0 : Mm) : Option (AVal × Heap × Nat × Nat) :=
  forceB (ltI x0 1) fun c7 =>
  bindO (cond c7 (
    some true) (
    forceB (ltI 6 x0) fun c10 =>
    some c10)) fun c11 =>
  bindO (cond c11 (
    some true) (
    bindO (evP .e (.len false (.c v1))) fun v14 =>
    asI .i64 v14 fun x14 =>
    chk (!ltI x0 (.ofNat 0)) <|
    forceI (shlV .i64 1 x0) fun x16 =>
    forceB (!eqI x14 x16) fun c17 =>
    some c17)) fun c18 =>
  bindO (cond c18 (
    some true) (
    bindO (evP .e (.ixS 1 (.c v1) (.c (.i .i64 0)))) fun v21 =>
    bindO (ldM ro m0 true 1 v21) fun v22 =>
    asI .i64 v22 fun x22 =>
    forceB (!eqI x22 0) fun c23 =>
    some c23)) fun c24 =>
  cond c24 (
    finM m0.h.length (tupA [(.b false)]) m0) (
    bindO (M.loop (S := Int) (R := (Unit ⊕ Bool)) (fun s => g48_b3 M ro v1 m0 s) 0) fun o_4 => match o_4 with
    | (.inl _) =>
      finM m0.h.length (tupA [(.b true)]) m0
    | (.inr c4) =>
      finM m0.h.length (tupA [(.b c4)]) m0)

theorem g48_ok {ro : List ABlk} {O : Caller} {M : Means} (hM : M.Ok ⟨F, O⟩ ro) {x0 v1 h r} (ho : O 48 [(.i .i64 x0), v1] h = none) (hr : g48 M ro x0 v1 ⟨h, h.length, h.length⟩ = some r) : callX ⟨F, O⟩ ro 48 [(.i .i64 x0), v1] h = some r := by
  refine callX_of (F := ⟨F, O⟩) (fn := fn48) (g := g48 M ro x0 v1) ho rfl rfl hr ?_
  clear ho
  clear hr
  intro m0 t0 ht hr
  have g0 : t0.get 0 = (.i .i64 x0) := ht 0
  have g1 : t0.get 1 = v1 := ht 1
  clear ht
  unfold g48 at hr
  refine w_seq ?_
  refine w_ops ?_
  refine wo_step (v := (.b false)) (s_pure (p_mv rfl)) ?_
  refine wo_nil ?_
  refine nx_norm ?_
  refine w_seq ?_
  refine w_seq ?_
  refine w_ops ?_
  refine wo_step (v := (.i .i64 x0)) (s_pure (p_mv g0)) ?_
  have hq := forceB_inv hr
  clear hr
  obtain ⟨c7, e7, hr⟩ := hq
  refine wo_step (v := (.b c7)) (s_pure (p_bin rfl rfl (b_lss.trans (cb e7)))) ?_
  refine wo_step (v := (.b c7)) (s_pure (p_mv rfl)) ?_
  have hq := bindO_inv hr
  clear hr
  obtain ⟨o, hr, hk⟩ := hq
  refine wo_join 3 (g48_J0 x0 v1 m0 o) ?_ ?_
  · clear hk
    have hq := cond_inv hr
    clear hr
    rcases hq with ⟨rfl, hr⟩ | ⟨rfl, hr⟩
    · refine wo_skip (v := (.b true)) rfl rfl ?_
      refine wo_skip (v := (.b true)) rfl rfl ?_
      refine wo_step (v := (.b true)) (s_pure (p_pickT rfl rfl)) ?_
      refine wo_nil ?_
      cases hr
      exact ⟨_, _, rfl, rfl, gl rfl, gl g0, gl g1⟩
    · refine wo_take (v := (.i .i64 x0)) rfl (s_pure (p_mv g0)) ?_
      have hq := forceB_inv hr
      clear hr
      obtain ⟨c10, e10, hr⟩ := hq
      refine wo_take (v := (.b c10)) rfl (s_pure (p_bin rfl rfl (b_gtr.trans (cb e10)))) ?_
      refine wo_step (v := (.b c10)) (s_pure (p_pickF rfl rfl)) ?_
      refine wo_nil ?_
      cases hr
      exact ⟨_, _, rfl, rfl, gl rfl, gl g0, gl g1⟩
  · clear hr
    have hr := hk
    clear hk
    obtain ⟨c11, ho⟩ : ∃ z, z = o := ⟨_, rfl⟩
    subst ho
    rintro mm t_1 ⟨rfl, g11, g0, g1⟩
    refine wo_step (v := (.b c11)) (s_pure (p_mv g11)) ?_
    have hq := bindO_inv hr
    clear hr
    obtain ⟨o_1, hr, hk⟩ := hq
    refine wo_join 6 (g48_J1 v1 m0 o_1) ?_ ?_
    · clear hk
      have hq := cond_inv hr
      clear hr
      rcases hq with ⟨rfl, hr⟩ | ⟨rfl, hr⟩
      · refine wo_skip (v := (.b true)) rfl rfl ?_
        refine wo_skip (v := (.b true)) rfl rfl ?_
        refine wo_skip (v := (.b true)) rfl rfl ?_
        refine wo_skip (v := (.b true)) rfl rfl ?_
        refine wo_skip (v := (.b true)) rfl rfl ?_
        refine wo_step (v := (.b true)) (s_pure (p_pickT rfl rfl)) ?_
        refine wo_nil ?_
        cases hr
        exact ⟨_, _, rfl, rfl, gl rfl, gl g1⟩
      · refine wo_take (v := v1) rfl (s_pure (p_mv g1)) ?_
        have hq := bindO_inv hr
        clear hr
        obtain ⟨v14, e14, hr⟩ := hq
        have hq := asI_inv hr
        clear hr
        obtain ⟨x14, rfl, hr⟩ := hq
        refine wo_take (v := (.i .i64 x14)) rfl (s_pure (o_len rfl e14)) ?_
        refine wo_take (v := (.i .i64 x0)) rfl (s_pure (p_mv g0)) ?_
        have hq := chk_inv hr
        clear hr
        obtain ⟨hc16, hr⟩ := hq
        have hq := forceI_inv hr
        clear hr
        obtain ⟨x16, e16, hr⟩ := hq
        refine wo_take (v := (.i .i64 x16)) rfl (s_pure (p_bin rfl rfl ((b_shl hc16).trans (ci e16)))) ?_
        have hq := forceB_inv hr
        clear hr
        obtain ⟨c17, e17, hr⟩ := hq
        refine wo_take (v := (.b c17)) rfl (s_pure (p_bin rfl rfl (b_neq.trans (cb e17)))) ?_
        refine wo_step (v := (.b c17)) (s_pure (p_pickF rfl rfl)) ?_
        refine wo_nil ?_
        cases hr
        exact ⟨_, _, rfl, rfl, gl rfl, gl g1⟩
    · clear hr
      have hr := hk
      clear hk
      obtain ⟨c18, ho⟩ : ∃ z, z = o_1 := ⟨_, rfl⟩
      subst ho
      rintro mm_1 t_2 ⟨rfl, g18, g1⟩
      refine wo_step (v := (.b c18)) (s_pure (p_mv g18)) ?_
      have hq := bindO_inv hr
      clear hr
      obtain ⟨o_2, hr, hk⟩ := hq
      refine wo_join 5 (g48_J2 v1 m0 o_2) ?_ ?_
      · clear hk
        have hq := cond_inv hr
        clear hr
        rcases hq with ⟨rfl, hr⟩ | ⟨rfl, hr⟩
        · refine wo_skip (v := (.b true)) rfl rfl ?_
          refine wo_skip (v := (.b true)) rfl rfl ?_
          refine wo_skip (v := (.b true)) rfl rfl ?_
          refine wo_skip (v := (.b true)) rfl rfl ?_
          refine wo_step (v := (.b true)) (s_pure (p_pickT rfl rfl)) ?_
          refine wo_nil ?_
          cases hr
          exact ⟨_, _, rfl, rfl, gl rfl, gl g1⟩
        · refine wo_take (v := v1) rfl (s_pure (p_mv g1)) ?_
          have hq := bindO_inv hr
          clear hr
          obtain ⟨v21, e21, hr⟩ := hq
          refine wo_take (v := v21) rfl (s_pure (o_ixS rfl rfl e21)) ?_
          have hq := bindO_inv hr
          clear hr
          obtain ⟨v22, e22, hr⟩ := hq
          have hq := asI_inv hr
          clear hr
          obtain ⟨x22, rfl, hr⟩ := hq
          refine wo_take (v := (.i .i64 x22)) rfl (s_ld rfl e22) ?_
          have hq := forceB_inv hr
          clear hr
          obtain ⟨c23, e23, hr⟩ := hq
          refine wo_take (v := (.b c23)) rfl (s_pure (p_bin rfl rfl (b_neq.trans (cb e23)))) ?_
          refine wo_step (v := (.b c23)) (s_pure (p_pickF rfl rfl)) ?_
          refine wo_nil ?_
          cases hr
          exact ⟨_, _, rfl, rfl, gl rfl, gl g1⟩
      · clear hr
        have hr := hk
        clear hk
        obtain ⟨c24, ho⟩ : ∃ z, z = o_2 := ⟨_, rfl⟩
        subst ho
        rintro mm_2 t_3 ⟨rfl, g24, g1⟩
        refine wo_nil ?_
        refine nx_norm ?_
        have hq := cond_inv hr
        clear hr
        rcases hq with ⟨rfl, hr⟩ | ⟨rfl, hr⟩
        · refine w_condT g24 ?_
          refine w_seq ?_
          refine w_ops ?_
          refine wo_step (v := (.b false)) (s_pure (p_mv rfl)) ?_
          refine wo_nil ?_
          refine nx_norm ?_
          refine w_ret ?_
          refine nx_ret ?_
          exact qf ret_ok (rt rfl rn) hr
        · refine w_condF g24 ?_
          refine w_skip ?_
          refine nx_norm ?_
          refine w_seq ?_
          refine w_seq ?_
          refine w_ops ?_
          refine wo_step (v := (.i .i64 0)) (s_pure (p_mv rfl)) ?_
          refine wo_nil ?_
          refine nx_norm ?_
          refine w_block ?_
          have hq := bindO_inv hr
          clear hr
          obtain ⟨o_4, hl, hr⟩ := hq
          obtain ⟨n, hl⟩ := hM.loop _ _ _ hl
          refine jp_mono (w_loop _ (g48_I3 v1 m0) (g48_J3 v1 m0) ?_ n _ _ _ _ hl ⟨rfl, gl rfl, gl g1⟩) ?_
          · clear hr hl
            intro s mm_6 t_4 o hi hr
            obtain ⟨x5, hs⟩ : ∃ z, z = s := ⟨_, rfl⟩
            subst hs
            obtain ⟨rfl, g5, g1⟩ := hi
            unfold g48_b3 at hr
            refine w_seq ?_
            refine w_seq ?_
            refine w_ops ?_
            refine wo_step (v := (.i .i64 x5)) (s_pure (p_mv g5)) ?_
            refine wo_step (v := v1) (s_pure (p_mv g1)) ?_
            have hq := bindO_inv hr
            clear hr
            obtain ⟨v27, e27, hr⟩ := hq
            have hq := asI_inv hr
            clear hr
            obtain ⟨x27, rfl, hr⟩ := hq
            refine wo_step (v := (.i .i64 x27)) (s_pure (o_len rfl e27)) ?_
            have hq := forceB_inv hr
            clear hr
            obtain ⟨c28, e28, hr⟩ := hq
            refine wo_step (v := (.b c28)) (s_pure (p_bin rfl rfl (b_lss.trans (cb e28)))) ?_
            refine wo_nil ?_
            refine nx_norm ?_
            have hq := cond_inv hr
            clear hr
            rcases hq with ⟨rfl, hr⟩ | ⟨rfl, hr⟩
            · refine w_condT rfl ?_
              refine w_skip ?_
              refine nx_norm ?_
              refine w_seq ?_
              refine w_block ?_
              refine w_seq ?_
              refine w_ops ?_
              refine wo_step (v := v1) (s_pure (p_mv g1)) ?_
              refine wo_step (v := (.i .i64 x5)) (s_pure (p_mv g5)) ?_
              have hq := bindO_inv hr
              clear hr
              obtain ⟨v33, e33, hr⟩ := hq
              refine wo_step (v := v33) (s_pure (o_ixS rfl rfl e33)) ?_
              have hq := bindO_inv hr
              clear hr
              obtain ⟨v34, e34, hr⟩ := hq
              have hq := asI_inv hr
              clear hr
              obtain ⟨x34, rfl, hr⟩ := hq
              refine wo_step (v := (.i .i64 x34)) (s_ld rfl e34) ?_
              have hq := forceB_inv hr
              clear hr
              obtain ⟨c35, e35, hr⟩ := hq
              refine wo_step (v := (.b c35)) (s_pure (p_bin rfl rfl (b_lss.trans (cb e35)))) ?_
              refine wo_step (v := (.b c35)) (s_pure (p_mv rfl)) ?_
              have hq := bindO_inv hr
              clear hr
              obtain ⟨o_3, hr, hk⟩ := hq
              refine wo_join 6 (g48_J4 v1 x5 m0 o_3) ?_ ?_
              · clear hk
                have hq := cond_inv hr
                clear hr
                rcases hq with ⟨rfl, hr⟩ | ⟨rfl, hr⟩
                · refine wo_skip (v := (.b true)) rfl rfl ?_
                  refine wo_skip (v := (.b true)) rfl rfl ?_
                  refine wo_skip (v := (.b true)) rfl rfl ?_
                  refine wo_skip (v := (.b true)) rfl rfl ?_
                  refine wo_skip (v := (.b true)) rfl rfl ?_
                  refine wo_step (v := (.b true)) (s_pure (p_pickT rfl rfl)) ?_
                  refine wo_nil ?_
                  cases hr
                  exact ⟨_, _, rfl, rfl, gl rfl, gl g1, gl g5⟩
                · refine wo_take (v := v1) rfl (s_pure (p_mv g1)) ?_
                  refine wo_take (v := (.i .i64 x5)) rfl (s_pure (p_mv g5)) ?_
                  have hq := bindO_inv hr
                  clear hr
                  obtain ⟨v39, e39, hr⟩ := hq
                  refine wo_take (v := v39) rfl (s_pure (o_ixS rfl rfl e39)) ?_
                  have hq := bindO_inv hr
                  clear hr
                  obtain ⟨v40, e40, hr⟩ := hq
                  have hq := asI_inv hr
                  clear hr
                  obtain ⟨x40, rfl, hr⟩ := hq
                  refine wo_take (v := (.i .i64 x40)) rfl (s_ld rfl e40) ?_
                  have hq := forceB_inv hr
                  clear hr
                  obtain ⟨c41, e41, hr⟩ := hq
                  refine wo_take (v := (.b c41)) rfl (s_pure (p_bin rfl rfl (b_gtr.trans (cb e41)))) ?_
                  refine wo_step (v := (.b c41)) (s_pure (p_pickF rfl rfl)) ?_
                  refine wo_nil ?_
                  cases hr
                  exact ⟨_, _, rfl, rfl, gl rfl, gl g1, gl g5⟩
              · clear hr
                have hr := hk
                clear hk
                obtain ⟨c42, ho⟩ : ∃ z, z = o_3 := ⟨_, rfl⟩
                subst ho
                rintro mm_3 t_5 ⟨rfl, g42, g1, g5⟩
                refine wo_nil ?_
                refine nx_norm ?_
                have hq := cond_inv hr
                clear hr
                rcases hq with ⟨rfl, hr⟩ | ⟨rfl, hr⟩
                · refine w_condT g42 ?_
                  refine w_seq ?_
                  refine w_ops ?_
                  refine wo_step (v := (.b false)) (s_pure (p_mv rfl)) ?_
                  refine wo_nil ?_
                  refine nx_norm ?_
                  refine w_ret ?_
                  refine bk_ret ?_
                  refine nx_ret ?_
                  cases hr
                  exact ⟨_, _, rfl, ne_norm_ret, rfl, rfl, gl rfl⟩
                · refine w_condF g42 ?_
                  refine w_skip ?_
                  refine bk_norm ?_
                  refine nx_norm ?_
                  refine w_ops ?_
                  refine wo_step (v := (.i .i64 x5)) (s_pure (p_mv g5)) ?_
                  have hq := forceI_inv hr
                  clear hr
                  obtain ⟨x30, e30, hr⟩ := hq
                  refine wo_step (v := (.i .i64 x30)) (s_pure (p_bin rfl rfl (b_add.trans (ci e30)))) ?_
                  refine wo_step (v := (.i .i64 x30)) (s_pure (p_mv rfl)) ?_
                  refine wo_nil ?_
                  cases hr
                  exact ⟨_, _, rfl, rfl, rfl, gl rfl, gl g1⟩
            · refine w_condF rfl ?_
              refine w_exit ?_
              refine nx_exit ?_
              cases hr
              exact ⟨_, _, rfl, ne_norm_exit, rfl, rfl⟩
          · rcases o_4 with o_4 | o_4
            · rintro _ mm_4 t_6 ⟨rfl, rfl⟩
              refine bk_hit ?_
              refine nx_norm ?_
              refine w_seq ?_
              refine w_ops ?_
              refine wo_step (v := (.b true)) (s_pure (p_mv rfl)) ?_
              refine wo_nil ?_
              refine nx_norm ?_
              refine w_ret ?_
              exact qf ret_ok (rt rfl rn) hr
            · obtain ⟨c4, ho⟩ : ∃ z, z = o_4 := ⟨_, rfl⟩
              subst ho
              rintro _ mm_5 t_7 ⟨rfl, rfl, g4⟩
              refine bk_ret ?_
              refine nx_ret ?_
              exact qf ret_ok (rt g4 rn) hr

/- dibber/dibberref08.broken -/
abbrev g49_I0 (v0 : AVal) (m0 : Mm) (s : Int) (m1 : Mm) (t1 : Tr) : Prop :=
  match s with
  | x5 => m0 = m1 ∧ t1.get 5 = (.i .i64 x5) ∧ t1.get 0 = v0
abbrev g49_J0 (v0 : AVal) (m0 : Mm) (o : (Unit ⊕ (Int × Int × Bool))) (e : AExit) (m1 : Mm) (t1 : Tr) : Prop :=
  match o with
  | (.inl _) => e = (.exit 0) ∧ m0 = m1
  | (.inr (y2, y3, y4)) => e = .ret ∧ m0 = m1 ∧ t1.get 2 = (.i .i64 y2) ∧ t1.get 3 = (.i .i64 y3) ∧ t1.get 4 = (.b y4)
abbrev g49_I1 (v0 : AVal) (x5 : Int) (m0 : Mm) (s : Int) (m1 : Mm) (t1 : Tr) : Prop :=
  match s with
  | x6 => m0 = m1 ∧ t1.get 6 = (.i .i64 x6) ∧ t1.get 0 = v0 ∧ t1.get 5 = (.i .i64 x5)
abbrev g49_J1 (v0 : AVal) (x5 : Int) (m0 : Mm) (o : (Unit ⊕ (Int × Int × Bool))) (e : AExit) (m1 : Mm) (t1 : Tr) : Prop :=
  match o with
  | (.inl _) => e = (.exit 2) ∧ m0 = m1 ∧ t1.get 0 = v0 ∧ t1.get 5 = (.i .i64 x5)
  | (.inr (y2, y3, y4)) => e = .ret ∧ m0 = m1 ∧ t1.get 2 = (.i .i64 y2) ∧ t1.get 3 = (.i .i64 y3) ∧ t1.get 4 = (.b y4)
def g49_b1 (M : Means) (ro : List ABlk) (v0 : AVal) (x5 : Int) (m0 : Mm) (x6 : Int) : Option ((Int) ⊕ ((Unit ⊕ (Int × Int × Bool)))) :=
  bindO (evP .e (.len false (.c v0))) fun v17 =>
  asI .i64 v17 fun x17 =>
  forceB (ltI x6 x17) fun c18 =>
  cond c18 (
    bindO (evP .e (.ixS 1 (.c v0) (.c (.i .i64 x5)))) fun v23 =>
    bindO (ldA ro m0.h true 1 v23) fun v24 =>
    asI .i64 v24 fun x24 =>
    bindO (evP .e (.ixS 1 (.c v0) (.c (.i .i64 x6)))) fun v27 =>
    bindO (ldA ro m0.h true 1 v27) fun v28 =>
    asI .i64 v28 fun x28 =>
    forceI (wr .i64 (x24 + x28)) fun x29 =>
    forceI (bitV .or .i64 x5 x6) fun x33 =>
    bindO (evP .e (.ixS 1 (.c v0) (.c (.i .i64 x33)))) fun v34 =>
    bindO (ldA ro m0.h true 1 v34) fun v35 =>
    asI .i64 v35 fun x35 =>
    forceI (bitV .and .i64 x5 x6) fun x39 =>
    bindO (evP .e (.ixS 1 (.c v0) (.c (.i .i64 x39)))) fun v40 =>
    bindO (ldA ro m0.h true 1 v40) fun v41 =>
    asI .i64 v41 fun x41 =>
    forceI (wr .i64 (x35 + x41)) fun x42 =>
    forceB (ltI x29 x42) fun c43 =>
    cond c43 (
      some (.inr (.inr (x5, x6, true)))) (
      forceI (wr .i64 (x6 + 1)) fun x20 =>
      some (.inl x20))) (
    some (.inr (.inl ())))
def g49_b0 (M : Means) (ro : List ABlk) (v0 : AVal) (m0 : Mm) (x5 : Int) : Option ((Int) ⊕ ((Unit ⊕ (Int × Int × Bool)))) :=
  bindO (evP .e (.len false (.c v0))) fun v9 =>
  asI .i64 v9 fun x9 =>
  forceB (ltI x5 x9) fun c10 =>
  cond c10 (
    forceI (wr .i64 (x5 + 1)) fun x14 =>
    bindO (M.loop (S := Int) (R := (Unit ⊕ (Int × Int × Bool))) (fun s => g49_b1 M ro v0 x5 m0 s) x14) fun o => match o with
    | (.inl _) =>
      forceI (wr .i64 (x5 + 1)) fun x12 =>
      some (.inl x12)
    | (.inr (x2, x3, c4)) =>
      some (.inr (.inr (x2, x3, c4)))) (
    some (.inr (.inl ())))
def g49 (M : Means) (ro : List ABlk) (v0 : AVal) (m0 : Mm) : Option (AVal × Heap × Nat × Nat) :=
  bindO (M.loop (S := Int) (R := (Unit ⊕ (Int × Int × Bool))) (fun s => g49_b0 M ro v0 m0 s) 0) fun o_1 => match o_1 with
  | (.inl _) =>
    finM m0.h.length (tupA [(.i .i64 0), (.i .i64 0), (.b false)]) m0
  | (.inr (x2_1, x3_1, c4_1)) =>
    finM m0.h.length (tupA [(.i .i64 x2_1), (.i .i64 x3_1), (.b c4_1)]) m0

theorem g49_ok {ro : List ABlk} {O : Caller} {M : Means} (hM : M.Ok ⟨F, O⟩ ro) {v0 h r} (ho : O 49 [v0] h = none) (hr : g49 M ro v0 ⟨h, h.length, h.length⟩ = some r) : callX ⟨F, O⟩ ro 49 [v0] h = some r := by
  refine callX_of (F := ⟨F, O⟩) (fn := fn49) (g := g49 M ro v0) ho rfl rfl hr ?_
  clear ho
  clear hr
  intro m0 t0 ht hr
  have g0 : t0.get 0 = v0 := ht 0
  clear ht
  unfold g49 at hr
  refine w_seq ?_
  refine w_ops ?_
  refine wo_step (v := (.i .i64 0)) (s_pure (p_mv rfl)) ?_
  refine wo_step (v := (.i .i64 0)) (s_pure (p_mv rfl)) ?_
  refine wo_step (v := (.b false)) (s_pure (p_mv rfl)) ?_
  refine wo_nil ?_
  refine nx_norm ?_
  refine w_seq ?_
  refine w_seq ?_
  refine w_ops ?_
  refine wo_step (v := (.i .i64 0)) (s_pure (p_mv rfl)) ?_
  refine wo_nil ?_
  refine nx_norm ?_
  refine w_block ?_
  have hq := bindO_inv hr
  clear hr
  obtain ⟨o_1, hl_1, hr⟩ := hq
  obtain ⟨n_1, hl_1⟩ := hM.loop _ _ _ hl_1
  refine jp_mono (w_loop _ (g49_I0 v0 m0) (g49_J0 v0 m0) ?_ n_1 _ _ _ _ hl_1 ⟨rfl, gl rfl, gl g0⟩) ?_
  · clear hr hl_1
    intro s mm_5 t_1 o hi hr
    obtain ⟨x5, hs⟩ : ∃ z, z = s := ⟨_, rfl⟩
    subst hs
    obtain ⟨rfl, g5, g0⟩ := hi
    unfold g49_b0 at hr
    refine w_seq ?_
    refine w_seq ?_
    refine w_ops ?_
    refine wo_step (v := (.i .i64 x5)) (s_pure (p_mv g5)) ?_
    refine wo_step (v := v0) (s_pure (p_mv g0)) ?_
    have hq := bindO_inv hr
    clear hr
    obtain ⟨v9, e9, hr⟩ := hq
    have hq := asI_inv hr
    clear hr
    obtain ⟨x9, rfl, hr⟩ := hq
    refine wo_step (v := (.i .i64 x9)) (s_pure (o_len rfl e9)) ?_
    have hq := forceB_inv hr
    clear hr
    obtain ⟨c10, e10, hr⟩ := hq
    refine wo_step (v := (.b c10)) (s_pure (p_bin rfl rfl (b_lss.trans (cb e10)))) ?_
    refine wo_nil ?_
    refine nx_norm ?_
    have hq := cond_inv hr
    clear hr
    rcases hq with ⟨rfl, hr⟩ | ⟨rfl, hr⟩
    · refine w_condT rfl ?_
      refine w_skip ?_
      refine nx_norm ?_
      refine w_seq ?_
      refine w_block ?_
      refine w_seq ?_
      refine w_ops ?_
      refine wo_step (v := (.i .i64 x5)) (s_pure (p_mv g5)) ?_
      have hq := forceI_inv hr
      clear hr
      obtain ⟨x14, e14, hr⟩ := hq
      refine wo_step (v := (.i .i64 x14)) (s_pure (p_bin rfl rfl (b_add.trans (ci e14)))) ?_
      refine wo_step (v := (.i .i64 x14)) (s_pure (p_mv rfl)) ?_
      refine wo_nil ?_
      refine nx_norm ?_
      refine w_block ?_
      have hq := bindO_inv hr
      clear hr
      obtain ⟨o, hl, hr⟩ := hq
      obtain ⟨n, hl⟩ := hM.loop _ _ _ hl
      refine jp_mono (w_loop _ (g49_I1 v0 x5 m0) (g49_J1 v0 x5 m0) ?_ n _ _ _ _ hl ⟨rfl, gl rfl, gl g0, gl g5⟩) ?_
      · clear hr hl
        intro s mm_2 t_2 o hi hr
        obtain ⟨x6, hs⟩ : ∃ z, z = s := ⟨_, rfl⟩
        subst hs
        obtain ⟨rfl, g6, g0, g5⟩ := hi
        unfold g49_b1 at hr
        refine w_seq ?_
        refine w_seq ?_
        refine w_ops ?_
        refine wo_step (v := (.i .i64 x6)) (s_pure (p_mv g6)) ?_
        refine wo_step (v := v0) (s_pure (p_mv g0)) ?_
        have hq := bindO_inv hr
        clear hr
        obtain ⟨v17, e17, hr⟩ := hq
        have hq := asI_inv hr
        clear hr
        obtain ⟨x17, rfl, hr⟩ := hq
        refine wo_step (v := (.i .i64 x17)) (s_pure (o_len rfl e17)) ?_
        have hq := forceB_inv hr
        clear hr
        obtain ⟨c18, e18, hr⟩ := hq
        refine wo_step (v := (.b c18)) (s_pure (p_bin rfl rfl (b_lss.trans (cb e18)))) ?_
        refine wo_nil ?_
        refine nx_norm ?_
        have hq := cond_inv hr
        clear hr
        rcases hq with ⟨rfl, hr⟩ | ⟨rfl, hr⟩
        · refine w_condT rfl ?_
          refine w_skip ?_
          refine nx_norm ?_
          refine w_seq ?_
          refine w_block ?_
          refine w_seq ?_
          refine w_any ?_
          refine wa_step (v := v0) (a_pure (p_mv g0)) ?_
          refine wa_step (v := (.i .i64 x5)) (a_pure (p_mv g5)) ?_
          have hq := bindO_inv hr
          clear hr
          obtain ⟨v23, e23, hr⟩ := hq
          refine wa_step (v := v23) (a_pure (o_ixS rfl rfl e23)) ?_
          have hq := bindO_inv hr
          clear hr
          obtain ⟨v24, e24, hr⟩ := hq
          have hq := asI_inv hr
          clear hr
          obtain ⟨x24, rfl, hr⟩ := hq
          refine wa_step (v := (.i .i64 x24)) (a_ld rfl e24) ?_
          refine wa_step (v := v0) (a_pure (p_mv g0)) ?_
          refine wa_step (v := (.i .i64 x6)) (a_pure (p_mv g6)) ?_
          have hq := bindO_inv hr
          clear hr
          obtain ⟨v27, e27, hr⟩ := hq
          refine wa_step (v := v27) (a_pure (o_ixS rfl rfl e27)) ?_
          have hq := bindO_inv hr
          clear hr
          obtain ⟨v28, e28, hr⟩ := hq
          have hq := asI_inv hr
          clear hr
          obtain ⟨x28, rfl, hr⟩ := hq
          refine wa_step (v := (.i .i64 x28)) (a_ld rfl e28) ?_
          have hq := forceI_inv hr
          clear hr
          obtain ⟨x29, e29, hr⟩ := hq
          refine wa_step (v := (.i .i64 x29)) (a_pure (p_bin rfl rfl (b_add.trans (ci e29)))) ?_
          refine wa_step (v := v0) (a_pure (p_mv g0)) ?_
          refine wa_step (v := (.i .i64 x5)) (a_pure (p_mv g5)) ?_
          refine wa_step (v := (.i .i64 x6)) (a_pure (p_mv g6)) ?_
          have hq := forceI_inv hr
          clear hr
          obtain ⟨x33, e33, hr⟩ := hq
          refine wa_step (v := (.i .i64 x33)) (a_pure (p_bin rfl rfl (b_or.trans (ci e33)))) ?_
          have hq := bindO_inv hr
          clear hr
          obtain ⟨v34, e34, hr⟩ := hq
          refine wa_step (v := v34) (a_pure (o_ixS rfl rfl e34)) ?_
          have hq := bindO_inv hr
          clear hr
          obtain ⟨v35, e35, hr⟩ := hq
          have hq := asI_inv hr
          clear hr
          obtain ⟨x35, rfl, hr⟩ := hq
          refine wa_step (v := (.i .i64 x35)) (a_ld rfl e35) ?_
          refine wa_step (v := v0) (a_pure (p_mv g0)) ?_
          refine wa_step (v := (.i .i64 x5)) (a_pure (p_mv g5)) ?_
          refine wa_step (v := (.i .i64 x6)) (a_pure (p_mv g6)) ?_
          have hq := forceI_inv hr
          clear hr
          obtain ⟨x39, e39, hr⟩ := hq
          refine wa_step (v := (.i .i64 x39)) (a_pure (p_bin rfl rfl (b_and.trans (ci e39)))) ?_
          have hq := bindO_inv hr
          clear hr
          obtain ⟨v40, e40, hr⟩ := hq
          refine wa_step (v := v40) (a_pure (o_ixS rfl rfl e40)) ?_
          have hq := bindO_inv hr
          clear hr
          obtain ⟨v41, e41, hr⟩ := hq
          have hq := asI_inv hr
          clear hr
          obtain ⟨x41, rfl, hr⟩ := hq
          refine wa_step (v := (.i .i64 x41)) (a_ld rfl e41) ?_
          have hq := forceI_inv hr
          clear hr
          obtain ⟨x42, e42, hr⟩ := hq
          refine wa_step (v := (.i .i64 x42)) (a_pure (p_bin rfl rfl (b_add.trans (ci e42)))) ?_
          have hq := forceB_inv hr
          clear hr
          obtain ⟨c43, e43, hr⟩ := hq
          refine wa_step (v := (.b c43)) (a_pure (p_bin rfl rfl (b_lss.trans (cb e43)))) ?_
          refine wa_nil ?_
          refine ⟨m0, rfl, ?_⟩
          refine nx_norm ?_
          have hq := cond_inv hr
          clear hr
          rcases hq with ⟨rfl, hr⟩ | ⟨rfl, hr⟩
          · refine w_condT rfl ?_
            refine w_seq ?_
            refine w_ops ?_
            refine wo_step (v := (.i .i64 x5)) (s_pure (p_mv g5)) ?_
            refine wo_step (v := (.i .i64 x6)) (s_pure (p_mv g6)) ?_
            refine wo_step (v := (.i .i64 x5)) (s_pure (p_mv rfl)) ?_
            refine wo_step (v := (.i .i64 x6)) (s_pure (p_mv rfl)) ?_
            refine wo_step (v := (.b true)) (s_pure (p_mv rfl)) ?_
            refine wo_nil ?_
            refine nx_norm ?_
            refine w_ret ?_
            refine bk_ret ?_
            refine nx_ret ?_
            cases hr
            exact ⟨_, _, rfl, ne_norm_ret, rfl, rfl, gl rfl, gl rfl, gl rfl⟩
          · refine w_condF rfl ?_
            refine w_skip ?_
            refine bk_norm ?_
            refine nx_norm ?_
            refine w_ops ?_
            refine wo_step (v := (.i .i64 x6)) (s_pure (p_mv g6)) ?_
            have hq := forceI_inv hr
            clear hr
            obtain ⟨x20, e20, hr⟩ := hq
            refine wo_step (v := (.i .i64 x20)) (s_pure (p_bin rfl rfl (b_add.trans (ci e20)))) ?_
            refine wo_step (v := (.i .i64 x20)) (s_pure (p_mv rfl)) ?_
            refine wo_nil ?_
            cases hr
            exact ⟨_, _, rfl, rfl, rfl, gl rfl, gl g0, gl g5⟩
        · refine w_condF rfl ?_
          refine w_exit ?_
          refine nx_exit ?_
          cases hr
          exact ⟨_, _, rfl, ne_norm_exit, rfl, rfl, gl g0, gl g5⟩
      · rcases o with o | o
        · rintro _ mm t_3 ⟨rfl, rfl, g0, g5⟩
          refine bk_hit ?_
          refine bk_norm ?_
          refine nx_norm ?_
          refine w_ops ?_
          refine wo_step (v := (.i .i64 x5)) (s_pure (p_mv g5)) ?_
          have hq := forceI_inv hr
          clear hr
          obtain ⟨x12, e12, hr⟩ := hq
          refine wo_step (v := (.i .i64 x12)) (s_pure (p_bin rfl rfl (b_add.trans (ci e12)))) ?_
          refine wo_step (v := (.i .i64 x12)) (s_pure (p_mv rfl)) ?_
          refine wo_nil ?_
          cases hr
          exact ⟨_, _, rfl, rfl, rfl, gl rfl, gl g0⟩
        · obtain ⟨x2, x3, c4⟩ := o
          rintro _ mm_1 t_4 ⟨rfl, rfl, g2, g3, g4⟩
          refine bk_ret ?_
          refine bk_ret ?_
          refine nx_ret ?_
          cases hr
          exact ⟨_, _, rfl, ne_norm_ret, rfl, rfl, gl g2, gl g3, gl g4⟩
    · refine w_condF rfl ?_
      refine w_exit ?_
      refine nx_exit ?_
      cases hr
      exact ⟨_, _, rfl, ne_norm_exit, rfl, rfl⟩
  · rcases o_1 with o_1 | o_1
    · rintro _ mm_3 t_5 ⟨rfl, rfl⟩
      refine bk_hit ?_
      refine nx_norm ?_
      refine w_seq ?_
      refine w_ops ?_
      refine wo_step (v := (.i .i64 0)) (s_pure (p_mv rfl)) ?_
      refine wo_step (v := (.i .i64 0)) (s_pure (p_mv rfl)) ?_
      refine wo_step (v := (.b false)) (s_pure (p_mv rfl)) ?_
      refine wo_nil ?_
      refine nx_norm ?_
      refine w_ret ?_
      exact qf ret_ok (rt rfl (rt rfl (rt rfl rn))) hr
    · obtain ⟨x2_1, x3_1, c4_1⟩ := o_1
      rintro _ mm_4 t_6 ⟨rfl, rfl, g2, g3, g4⟩
      refine bk_ret ?_
      refine nx_ret ?_
      exact qf ret_ok (rt g2 (rt g3 (rt g4 rn))) hr

/- dibber/share.within -/
abbrev g50_J0 (m0 : Mm) (o : Bool) (m1 : Mm) (t1 : Tr) : Prop :=
  match o with
  | c13 => m0 = m1 ∧ t1.get 13 = (.b c13)
def g50 (M : Means) (ro : List ABlk) (x0 : Int) (x1 : Int) (m0 : Mm) : Option (AVal × Heap × Nat × Nat) :=
  forceI (wr .i64 (0 - x1)) fun x6 =>
  forceB (!ltI x0 x6) fun c8 =>
  bindO (cond c8 (
    forceB (!ltI x1 x0) fun c12 =>
    some c12) (
    some false)) fun c13 =>
  finM m0.h.length (tupA [(.b c13)]) m0

theorem g50_ok {ro : List ABlk} {O : Caller} {M : Means} (hM : M.Ok ⟨F, O⟩ ro) {x0 x1 h r} (ho : O 50 [(.i .i64 x0), (.i .i64 x1)] h = none) (hr : g50 M ro x0 x1 ⟨h, h.length, h.length⟩ = some r) : callX ⟨F, O⟩ ro 50 [(.i .i64 x0), (.i .i64 x1)] h = some r := by
  refine callX_of (F := ⟨F, O⟩) (fn := fn50) (g := g50 M ro x0 x1) ho rfl rfl hr ?_
  clear ho
  clear hr
  intro m0 t0 ht hr
  have g0 : t0.get 0 = (.i .i64 x0) := ht 0
  have g1 : t0.get 1 = (.i .i64 x1) := ht 1
  clear ht
  unfold g50 at hr
  refine w_seq ?_
  refine w_ops ?_
  refine wo_step (v := (.b false)) (s_pure (p_mv rfl)) ?_
  refine wo_nil ?_
  refine nx_norm ?_
  refine w_seq ?_
  refine w_ops ?_
  refine wo_step (v := (.i .i64 x1)) (s_pure (p_mv g1)) ?_
  have hq := forceI_inv hr
  clear hr
  obtain ⟨x6, e6, hr⟩ := hq
  refine wo_step (v := (.i .i64 x6)) (s_pure ((p_neg rfl).trans (ci e6))) ?_
  refine wo_step (v := (.i .i64 x0)) (s_pure (p_mv g0)) ?_
  have hq := forceB_inv hr
  clear hr
  obtain ⟨c8, e8, hr⟩ := hq
  refine wo_step (v := (.b c8)) (s_pure (p_bin rfl rfl (b_leq.trans (cb e8)))) ?_
  refine wo_step (v := (.b c8)) (s_pure (p_mv rfl)) ?_
  have hq := bindO_inv hr
  clear hr
  obtain ⟨o, hr, hk⟩ := hq
  refine wo_join 4 (g50_J0 m0 o) ?_ ?_
  · clear hk
    have hq := cond_inv hr
    clear hr
    rcases hq with ⟨rfl, hr⟩ | ⟨rfl, hr⟩
    · refine wo_take (v := (.i .i64 x0)) rfl (s_pure (p_mv g0)) ?_
      refine wo_take (v := (.i .i64 x1)) rfl (s_pure (p_mv g1)) ?_
      have hq := forceB_inv hr
      clear hr
      obtain ⟨c12, e12, hr⟩ := hq
      refine wo_take (v := (.b c12)) rfl (s_pure (p_bin rfl rfl (b_leq.trans (cb e12)))) ?_
      refine wo_step (v := (.b c12)) (s_pure (p_pickT rfl rfl)) ?_
      refine wo_nil ?_
      cases hr
      exact ⟨_, _, rfl, rfl, gl rfl⟩
    · refine wo_skip (v := (.b false)) rfl rfl ?_
      refine wo_skip (v := (.b false)) rfl rfl ?_
      refine wo_skip (v := (.b false)) rfl rfl ?_
      refine wo_step (v := (.b false)) (s_pure (p_pickF rfl rfl)) ?_
      refine wo_nil ?_
      cases hr
      exact ⟨_, _, rfl, rfl, gl rfl⟩
  · clear hr
    have hr := hk
    clear hk
    obtain ⟨c13, ho⟩ : ∃ z, z = o := ⟨_, rfl⟩
    subst ho
    rintro mm t_1 ⟨rfl, g13⟩
    refine wo_step (v := (.b c13)) (s_pure (p_mv g13)) ?_
    refine wo_nil ?_
    refine nx_norm ?_
    refine w_ret ?_
    exact qf ret_ok (rt rfl rn) hr

/- dibber/share.isCount -/
abbrev g84_J0 (m0 : Mm) (o : Bool) (m1 : Mm) (t1 : Tr) : Prop :=
  match o with
  | c8 => m0 = m1 ∧ t1.get 8 = (.b c8)
def g84 (M : Means) (ro : List ABlk) (x0 : Int) (m0 : Mm) : Option (AVal × Heap × Nat × Nat) :=
  forceB (!ltI x0 1) fun c4 =>
  bindO (cond c4 (
    forceB (!ltI 6 x0) fun c7 =>
    some c7) (
    some false)) fun c8 =>
  finM m0.h.length (tupA [(.b c8)]) m0

theorem g84_ok {ro : List ABlk} {O : Caller} {M : Means} (hM : M.Ok ⟨F, O⟩ ro) {x0 h r} (ho : O 84 [(.i .i64 x0)] h = none) (hr : g84 M ro x0 ⟨h, h.length, h.length⟩ = some r) : callX ⟨F, O⟩ ro 84 [(.i .i64 x0)] h = some r := by
  refine callX_of (F := ⟨F, O⟩) (fn := fn84) (g := g84 M ro x0) ho rfl rfl hr ?_
  clear ho
  clear hr
  intro m0 t0 ht hr
  have g0 : t0.get 0 = (.i .i64 x0) := ht 0
  clear ht
  unfold g84 at hr
  refine w_seq ?_
  refine w_ops ?_
  refine wo_step (v := (.b false)) (s_pure (p_mv rfl)) ?_
  refine wo_nil ?_
  refine nx_norm ?_
  refine w_seq ?_
  refine w_ops ?_
  refine wo_step (v := (.i .i64 x0)) (s_pure (p_mv g0)) ?_
  have hq := forceB_inv hr
  clear hr
  obtain ⟨c4, e4, hr⟩ := hq
  refine wo_step (v := (.b c4)) (s_pure (p_bin rfl rfl (b_leq.trans (cb e4)))) ?_
  refine wo_step (v := (.b c4)) (s_pure (p_mv rfl)) ?_
  have hq := bindO_inv hr
  clear hr
  obtain ⟨o, hr, hk⟩ := hq
  refine wo_join 3 (g84_J0 m0 o) ?_ ?_
  · clear hk
    have hq := cond_inv hr
    clear hr
    rcases hq with ⟨rfl, hr⟩ | ⟨rfl, hr⟩
    · refine wo_take (v := (.i .i64 x0)) rfl (s_pure (p_mv g0)) ?_
      have hq := forceB_inv hr
      clear hr
      obtain ⟨c7, e7, hr⟩ := hq
      refine wo_take (v := (.b c7)) rfl (s_pure (p_bin rfl rfl (b_leq.trans (cb e7)))) ?_
      refine wo_step (v := (.b c7)) (s_pure (p_pickT rfl rfl)) ?_
      refine wo_nil ?_
      cases hr
      exact ⟨_, _, rfl, rfl, gl rfl⟩
    · refine wo_skip (v := (.b false)) rfl rfl ?_
      refine wo_skip (v := (.b false)) rfl rfl ?_
      refine wo_step (v := (.b false)) (s_pure (p_pickF rfl rfl)) ?_
      refine wo_nil ?_
      cases hr
      exact ⟨_, _, rfl, rfl, gl rfl⟩
  · clear hr
    have hr := hk
    clear hk
    obtain ⟨c8, ho⟩ : ∃ z, z = o := ⟨_, rfl⟩
    subst ho
    rintro mm t_1 ⟨rfl, g8⟩
    refine wo_step (v := (.b c8)) (s_pure (p_mv g8)) ?_
    refine wo_nil ?_
    refine nx_norm ?_
    refine w_ret ?_
    exact qf ret_ok (rt rfl rn) hr

/- dibber/share.allWithin -/
abbrev g87_I0 (x1 : Int) (v0 : AVal) (x8 : Int) (s : Int × Mm) (m1 : Mm) (t1 : Tr) : Prop :=
  match s with
  | (x9, m_1) => m_1 = m1 ∧ t1.get 9 = (.i .i64 x9) ∧ t1.get 1 = (.i .i64 x1) ∧ t1.get 7 = v0 ∧ t1.get 8 = (.i .i64 x8)
abbrev g87_J0 (x1 : Int) (v0 : AVal) (x8 : Int) (o : (Mm ⊕ (Bool × Mm))) (e : AExit) (m1 : Mm) (t1 : Tr) : Prop :=
  match o with
  | (.inl mo) => e = (.exit 0) ∧ mo = m1
  | (.inr (y4, mo)) => e = .ret ∧ mo = m1 ∧ t1.get 4 = (.b y4)
def g87_b0 (M : Means) (ro : List ABlk) (x1 : Int) (v0 : AVal) (x8 : Int) (x9 : Int) (m_1 : Mm) : Option ((Int × Mm) ⊕ ((Mm ⊕ (Bool × Mm)))) :=
  forceB (ltI x9 x8) fun c10 =>
  cond c10 (
    bindO (evP .e (.ixS 1 (.c v0) (.c (.i .i64 x9)))) fun v11 =>
    bindO (ldM ro m_1 true 1 v11) fun v12 =>
    asI .i64 v12 fun x12 =>
    bindP (callM M.call m_1 50 [(.i .i64 x12), (.i .i64 x1)]) fun v15 m_2 =>
    asB v15 fun c15 =>
    forceB (!c15) fun c16 =>
    cond c16 (
      some (.inr (.inr (false, m_2)))) (
      forceI (wr .i64 (x9 + 1)) fun x17 =>
      some (.inl (x17, m_2)))) (
    some (.inr (.inl m_1)))
def g87 (M : Means) (ro : List ABlk) (v0 : AVal) (x1 : Int) (m0 : Mm) : Option (AVal × Heap × Nat × Nat) :=
  bindO (evP .e (.len false (.c v0))) fun v8 =>
  asI .i64 v8 fun x8 =>
  bindO (M.loop (S := Int × Mm) (R := (Mm ⊕ (Bool × Mm))) (fun s => g87_b0 M ro x1 v0 x8 s.1 s.2) (0, m0)) fun o => match o with
  | (.inl m_3) =>
    finM m0.h.length (tupA [(.b true)]) m_3
  | (.inr (c4, m_4)) =>
    finM m0.h.length (tupA [(.b c4)]) m_4

theorem g87_ok {ro : List ABlk} {O : Caller} {M : Means} (hM : M.Ok ⟨F, O⟩ ro) {v0 x1 h r} (ho : O 87 [v0, (.i .i64 x1)] h = none) (hr : g87 M ro v0 x1 ⟨h, h.length, h.length⟩ = some r) : callX ⟨F, O⟩ ro 87 [v0, (.i .i64 x1)] h = some r := by
  refine callX_of (F := ⟨F, O⟩) (fn := fn87) (g := g87 M ro v0 x1) ho rfl rfl hr ?_
  clear ho
  clear hr
  intro m0 t0 ht hr
  have g0 : t0.get 0 = v0 := ht 0
  have g1 : t0.get 1 = (.i .i64 x1) := ht 1
  clear ht
  unfold g87 at hr
  refine w_seq ?_
  refine w_ops ?_
  refine wo_step (v := (.b false)) (s_pure (p_mv rfl)) ?_
  refine wo_nil ?_
  refine nx_norm ?_
  refine w_seq ?_
  refine w_seq ?_
  refine w_ops ?_
  refine wo_step (v := v0) (s_pure (p_mv g0)) ?_
  have hq := bindO_inv hr
  clear hr
  obtain ⟨v8, e8, hr⟩ := hq
  have hq := asI_inv hr
  clear hr
  obtain ⟨x8, rfl, hr⟩ := hq
  refine wo_step (v := (.i .i64 x8)) (s_pure (o_len rfl e8)) ?_
  refine wo_step (v := (.i .i64 0)) (s_pure (p_mv rfl)) ?_
  refine wo_nil ?_
  refine nx_norm ?_
  refine w_block ?_
  have hq := bindO_inv hr
  clear hr
  obtain ⟨o, hl, hr⟩ := hq
  obtain ⟨n, hl⟩ := hM.loop _ _ _ hl
  refine jp_mono (w_loop _ (g87_I0 x1 v0 x8) (g87_J0 x1 v0 x8) ?_ n _ _ _ _ hl ⟨rfl, gl rfl, gl g1, gl rfl, gl rfl⟩) ?_
  · clear hr hl
    intro s mm_2 t_1 o hi hr
    obtain ⟨x9, m_1⟩ := s
    obtain ⟨rfl, g9, g1, g7, g8⟩ := hi
    unfold g87_b0 at hr
    refine w_seq ?_
    refine w_ops ?_
    have hq := forceB_inv hr
    clear hr
    obtain ⟨c10, e10, hr⟩ := hq
    refine wo_step (v := (.b c10)) (s_pure (p_bin g9 g8 (b_lss.trans (cb e10)))) ?_
    refine wo_nil ?_
    refine nx_norm ?_
    refine w_seq ?_
    have hq := cond_inv hr
    clear hr
    rcases hq with ⟨rfl, hr⟩ | ⟨rfl, hr⟩
    · refine w_condT rfl ?_
      refine w_skip ?_
      refine nx_norm ?_
      refine w_seq ?_
      refine w_block ?_
      refine w_seq ?_
      refine w_ops ?_
      have hq := bindO_inv hr
      clear hr
      obtain ⟨v11, e11, hr⟩ := hq
      refine wo_step (v := v11) (s_pure (o_ixS g7 g9 e11)) ?_
      have hq := bindO_inv hr
      clear hr
      obtain ⟨v12, e12, hr⟩ := hq
      have hq := asI_inv hr
      clear hr
      obtain ⟨x12, rfl, hr⟩ := hq
      refine wo_step (v := (.i .i64 x12)) (s_ld rfl e12) ?_
      refine wo_step (v := (.i .i64 x12)) (s_pure (p_mv rfl)) ?_
      refine wo_nil ?_
      refine nx_norm ?_
      refine w_seq ?_
      refine w_ops ?_
      refine wo_step (v := (.i .i64 x12)) (s_pure (p_mv rfl)) ?_
      refine wo_step (v := (.i .i64 x1)) (s_pure (p_mv g1)) ?_
      have hq := bindP_inv hr
      clear hr
      obtain ⟨v15, m_2, e15, hr⟩ := hq
      have hq := asB_inv hr
      clear hr
      obtain ⟨c15, rfl, hr⟩ := hq
      refine wo_step (v := (.b c15)) (s_call (mc rfl (mc rfl mn)) (callM_le hM.call e15)) ?_
      have hq := forceB_inv hr
      clear hr
      obtain ⟨c16, e16, hr⟩ := hq
      refine wo_step (v := (.b c16)) (s_pure ((p_not rfl).trans (cb e16))) ?_
      refine wo_nil ?_
      refine nx_norm ?_
      have hq := cond_inv hr
      clear hr
      rcases hq with ⟨rfl, hr⟩ | ⟨rfl, hr⟩
      · refine w_condT rfl ?_
        refine w_seq ?_
        refine w_ops ?_
        refine wo_step (v := (.b false)) (s_pure (p_mv rfl)) ?_
        refine wo_nil ?_
        refine nx_norm ?_
        refine w_ret ?_
        refine bk_ret ?_
        refine nx_ret ?_
        cases hr
        exact ⟨_, _, rfl, ne_norm_ret, rfl, rfl, gl rfl⟩
      · refine w_condF rfl ?_
        refine w_skip ?_
        refine bk_norm ?_
        refine nx_norm ?_
        refine w_ops ?_
        have hq := forceI_inv hr
        clear hr
        obtain ⟨x17, e17, hr⟩ := hq
        refine wo_step (v := (.i .i64 x17)) (s_pure (p_bin g9 rfl (b_add.trans (ci e17)))) ?_
        refine wo_step (v := (.i .i64 x17)) (s_pure (p_mv rfl)) ?_
        refine wo_nil ?_
        cases hr
        exact ⟨_, _, rfl, rfl, rfl, gl rfl, gl g1, gl g7, gl g8⟩
    · refine w_condF rfl ?_
      refine w_exit ?_
      refine nx_exit ?_
      cases hr
      exact ⟨_, _, rfl, ne_norm_exit, rfl, rfl⟩
  · rcases o with o | o
    · obtain ⟨m_3, ho⟩ : ∃ z, z = o := ⟨_, rfl⟩
      subst ho
      rintro _ mm t_2 ⟨rfl, rfl⟩
      refine bk_hit ?_
      refine nx_norm ?_
      refine w_seq ?_
      refine w_ops ?_
      refine wo_step (v := (.b true)) (s_pure (p_mv rfl)) ?_
      refine wo_nil ?_
      refine nx_norm ?_
      refine w_ret ?_
      exact qf ret_ok (rt rfl rn) hr
    · obtain ⟨c4, m_4⟩ := o
      rintro _ mm_1 t_3 ⟨rfl, rfl, g4⟩
      refine bk_ret ?_
      refine nx_ret ?_
      exact qf ret_ok (rt g4 rn) hr

/- dibber/share.passes -/
abbrev g88_I0 (x0 : Int) (v1 : AVal) (x8 : Int) (s : Int × Mm) (m1 : Mm) (t1 : Tr) : Prop :=
  match s with
  | (x9, m_1) => m_1 = m1 ∧ t1.get 9 = (.i .i64 x9) ∧ t1.get 0 = (.i .i64 x0) ∧ t1.get 7 = v1 ∧ t1.get 8 = (.i .i64 x8)
abbrev g88_J0 (x0 : Int) (v1 : AVal) (x8 : Int) (o : (Mm ⊕ (Bool × Mm))) (e : AExit) (m1 : Mm) (t1 : Tr) : Prop :=
  match o with
  | (.inl mo) => e = (.exit 0) ∧ mo = m1
  | (.inr (y4, mo)) => e = .ret ∧ mo = m1 ∧ t1.get 4 = (.b y4)
def g88_b0 (M : Means) (ro : List ABlk) (x0 : Int) (v1 : AVal) (x8 : Int) (x9 : Int) (m_1 : Mm) : Option ((Int × Mm) ⊕ ((Mm ⊕ (Bool × Mm)))) :=
  forceB (ltI x9 x8) fun c10 =>
  cond c10 (
    bindO (evP .e (.ixS 1 (.c v1) (.c (.i .i64 x9)))) fun v11 =>
    bindO (ldM ro m_1 true 1 v11) fun v12 =>
    bindP (callyM M.call M.round m_1 v12 [(.i .i64 x0)]) fun v15 m_2 =>
    asB v15 fun c15 =>
    forceB (!c15) fun c16 =>
    cond c16 (
      some (.inr (.inr (false, m_2)))) (
      forceI (wr .i64 (x9 + 1)) fun x17 =>
      some (.inl (x17, m_2)))) (
    some (.inr (.inl m_1)))
def g88 (M : Means) (ro : List ABlk) (x0 : Int) (v1 : AVal) (m0 : Mm) : Option (AVal × Heap × Nat × Nat) :=
  bindO (evP .e (.len false (.c v1))) fun v8 =>
  asI .i64 v8 fun x8 =>
  bindO (M.loop (S := Int × Mm) (R := (Mm ⊕ (Bool × Mm))) (fun s => g88_b0 M ro x0 v1 x8 s.1 s.2) (0, m0)) fun o => match o with
  | (.inl m_3) =>
    finM m0.h.length (tupA [(.b true)]) m_3
  | (.inr (c4, m_4)) =>
    finM m0.h.length (tupA [(.b c4)]) m_4

theorem g88_ok {ro : List ABlk} {O : Caller} {M : Means} (hM : M.Ok ⟨F, O⟩ ro) {x0 v1 h r} (ho : O 88 [(.i .i64 x0), v1] h = none) (hr : g88 M ro x0 v1 ⟨h, h.length, h.length⟩ = some r) : callX ⟨F, O⟩ ro 88 [(.i .i64 x0), v1] h = some r := by
  refine callX_of (F := ⟨F, O⟩) (fn := fn88) (g := g88 M ro x0 v1) ho rfl rfl hr ?_
  clear ho
  clear hr
  intro m0 t0 ht hr
  have g0 : t0.get 0 = (.i .i64 x0) := ht 0
  have g1 : t0.get 1 = v1 := ht 1
  clear ht
  unfold g88 at hr
  refine w_seq ?_
  refine w_ops ?_
  refine wo_step (v := (.b false)) (s_pure (p_mv rfl)) ?_
  refine wo_nil ?_
  refine nx_norm ?_
  refine w_seq ?_
  refine w_seq ?_
  refine w_ops ?_
  refine wo_step (v := v1) (s_pure (p_mv g1)) ?_
  have hq := bindO_inv hr
  clear hr
  obtain ⟨v8, e8, hr⟩ := hq
  have hq := asI_inv hr
  clear hr
  obtain ⟨x8, rfl, hr⟩ := hq
  refine wo_step (v := (.i .i64 x8)) (s_pure (o_len rfl e8)) ?_
  refine wo_step (v := (.i .i64 0)) (s_pure (p_mv rfl)) ?_
  refine wo_nil ?_
  refine nx_norm ?_
  refine w_block ?_
  have hq := bindO_inv hr
  clear hr
  obtain ⟨o, hl, hr⟩ := hq
  obtain ⟨n, hl⟩ := hM.loop _ _ _ hl
  refine jp_mono (w_loop _ (g88_I0 x0 v1 x8) (g88_J0 x0 v1 x8) ?_ n _ _ _ _ hl ⟨rfl, gl rfl, gl g0, gl rfl, gl rfl⟩) ?_
  · clear hr hl
    intro s mm_2 t_1 o hi hr
    obtain ⟨x9, m_1⟩ := s
    obtain ⟨rfl, g9, g0, g7, g8⟩ := hi
    unfold g88_b0 at hr
    refine w_seq ?_
    refine w_ops ?_
    have hq := forceB_inv hr
    clear hr
    obtain ⟨c10, e10, hr⟩ := hq
    refine wo_step (v := (.b c10)) (s_pure (p_bin g9 g8 (b_lss.trans (cb e10)))) ?_
    refine wo_nil ?_
    refine nx_norm ?_
    refine w_seq ?_
    have hq := cond_inv hr
    clear hr
    rcases hq with ⟨rfl, hr⟩ | ⟨rfl, hr⟩
    · refine w_condT rfl ?_
      refine w_skip ?_
      refine nx_norm ?_
      refine w_seq ?_
      refine w_block ?_
      refine w_seq ?_
      refine w_ops ?_
      have hq := bindO_inv hr
      clear hr
      obtain ⟨v11, e11, hr⟩ := hq
      refine wo_step (v := v11) (s_pure (o_ixS g7 g9 e11)) ?_
      have hq := bindO_inv hr
      clear hr
      obtain ⟨v12, e12, hr⟩ := hq
      refine wo_step (v := v12) (s_ld rfl e12) ?_
      refine wo_step (v := v12) (s_pure (p_mv rfl)) ?_
      refine wo_nil ?_
      refine nx_norm ?_
      refine w_seq ?_
      refine w_opsY ?_
      refine wy_step (v := v12) (y_C (s_pure (p_mv rfl))) ?_
      refine wy_step (v := (.i .i64 x0)) (y_C (s_pure (p_mv g0))) ?_
      have hq := bindP_inv hr
      clear hr
      obtain ⟨v15, m_2, e15, hr⟩ := hq
      have hq := asB_inv hr
      clear hr
      obtain ⟨c15, rfl, hr⟩ := hq
      refine wy_step (v := (.b c15)) (y_callv rfl (mc rfl mn) (callyM_le hM.call hM.round e15)) ?_
      have hq := forceB_inv hr
      clear hr
      obtain ⟨c16, e16, hr⟩ := hq
      refine wy_step (v := (.b c16)) (y_C (s_pure ((p_not rfl).trans (cb e16)))) ?_
      refine wy_nil ?_
      refine nx_norm ?_
      have hq := cond_inv hr
      clear hr
      rcases hq with ⟨rfl, hr⟩ | ⟨rfl, hr⟩
      · refine w_condT rfl ?_
        refine w_seq ?_
        refine w_ops ?_
        refine wo_step (v := (.b false)) (s_pure (p_mv rfl)) ?_
        refine wo_nil ?_
        refine nx_norm ?_
        refine w_ret ?_
        refine bk_ret ?_
        refine nx_ret ?_
        cases hr
        exact ⟨_, _, rfl, ne_norm_ret, rfl, rfl, gl rfl⟩
      · refine w_condF rfl ?_
        refine w_skip ?_
        refine bk_norm ?_
        refine nx_norm ?_
        refine w_ops ?_
        have hq := forceI_inv hr
        clear hr
        obtain ⟨x17, e17, hr⟩ := hq
        refine wo_step (v := (.i .i64 x17)) (s_pure (p_bin g9 rfl (b_add.trans (ci e17)))) ?_
        refine wo_step (v := (.i .i64 x17)) (s_pure (p_mv rfl)) ?_
        refine wo_nil ?_
        cases hr
        exact ⟨_, _, rfl, rfl, rfl, gl rfl, gl g0, gl g7, gl g8⟩
    · refine w_condF rfl ?_
      refine w_exit ?_
      refine nx_exit ?_
      cases hr
      exact ⟨_, _, rfl, ne_norm_exit, rfl, rfl⟩
  · rcases o with o | o
    · obtain ⟨m_3, ho⟩ : ∃ z, z = o := ⟨_, rfl⟩
      subst ho
      rintro _ mm t_2 ⟨rfl, rfl⟩
      refine bk_hit ?_
      refine nx_norm ?_
      refine w_seq ?_
      refine w_ops ?_
      refine wo_step (v := (.b true)) (s_pure (p_mv rfl)) ?_
      refine wo_nil ?_
      refine nx_norm ?_
      refine w_ret ?_
      exact qf ret_ok (rt rfl rn) hr
    · obtain ⟨c4, m_4⟩ := o
      rintro _ mm_1 t_3 ⟨rfl, rfl, g4⟩
      refine bk_ret ?_
      refine nx_ret ?_
      exact qf ret_ok (rt g4 rn) hr

/- dibber/share.above-1 -/

def g89 (M : Means) (ro : List ABlk) (x0 : Int) (v1 : AVal) (m0 : Mm) : Option (AVal × Heap × Nat × Nat) :=
  bindO (ldM ro m0 true 1 v1) fun v5 =>
  asI .i64 v5 fun x5 =>
  forceB (ltI x5 x0) fun c6 =>
  finM m0.h.length (tupA [(.b c6)]) m0

theorem g89_ok {ro : List ABlk} {O : Caller} {M : Means} (hM : M.Ok ⟨F, O⟩ ro) {x0 v1 h r} (ho : O 89 [(.i .i64 x0), v1] h = none) (hr : g89 M ro x0 v1 ⟨h, h.length, h.length⟩ = some r) : callX ⟨F, O⟩ ro 89 [(.i .i64 x0), v1] h = some r := by
  refine callX_of (F := ⟨F, O⟩) (fn := fn89) (g := g89 M ro x0 v1) ho rfl rfl hr ?_
  clear ho
  clear hr
  intro m0 t0 ht hr
  have g0 : t0.get 0 = (.i .i64 x0) := ht 0
  have g1 : t0.get 1 = v1 := ht 1
  clear ht
  unfold g89 at hr
  refine w_seq ?_
  refine w_ops ?_
  refine wo_step (v := (.b false)) (s_pure (p_mv rfl)) ?_
  refine wo_nil ?_
  refine nx_norm ?_
  refine w_seq ?_
  refine w_ops ?_
  refine wo_step (v := (.i .i64 x0)) (s_pure (p_mv g0)) ?_
  have hq := bindO_inv hr
  clear hr
  obtain ⟨v5, e5, hr⟩ := hq
  have hq := asI_inv hr
  clear hr
  obtain ⟨x5, rfl, hr⟩ := hq
  refine wo_step (v := (.i .i64 x5)) (s_ld g1 e5) ?_
  have hq := forceB_inv hr
  clear hr
  obtain ⟨c6, e6, hr⟩ := hq
  refine wo_step (v := (.b c6)) (s_pure (p_bin rfl rfl (b_gtr.trans (cb e6)))) ?_
  refine wo_step (v := (.b c6)) (s_pure (p_mv rfl)) ?_
  refine wo_nil ?_
  refine nx_norm ?_
  refine w_ret ?_
  exact qf ret_ok (rt rfl rn) hr

/- dibber/share.breaks-1 -/

def g90 (M : Means) (ro : List ABlk) (x0 : Int) (v1 : AVal) (v2 : AVal) (m0 : Mm) : Option (AVal × Heap × Nat × Nat) :=
  bindO (ldA ro m0.h true 1 v1) fun v5 =>
  bindO (ldA ro m0.h true 1 v2) fun v6 =>
  asI .i64 v6 fun x6 =>
  bindO (evP .e (.ixS 1 (.c v5) (.c (.i .i64 x6)))) fun v7 =>
  bindO (ldA ro m0.h true 1 v7) fun v8 =>
  asI .i64 v8 fun x8 =>
  bindO (ldA ro m0.h true 1 v1) fun v9 =>
  bindO (evP .e (.ixS 1 (.c v9) (.c (.i .i64 x0)))) fun v11 =>
  bindO (ldA ro m0.h true 1 v11) fun v12 =>
  asI .i64 v12 fun x12 =>
  forceI (wr .i64 (x8 + x12)) fun x13 =>
  bindO (ldA ro m0.h true 1 v1) fun v14 =>
  bindO (ldA ro m0.h true 1 v2) fun v15 =>
  asI .i64 v15 fun x15 =>
  forceI (bitV .or .i64 x15 x0) fun x17 =>
  bindO (evP .e (.ixS 1 (.c v14) (.c (.i .i64 x17)))) fun v18 =>
  bindO (ldA ro m0.h true 1 v18) fun v19 =>
  asI .i64 v19 fun x19 =>
  bindO (ldA ro m0.h true 1 v1) fun v20 =>
  bindO (ldA ro m0.h true 1 v2) fun v21 =>
  asI .i64 v21 fun x21 =>
  forceI (bitV .and .i64 x21 x0) fun x23 =>
  bindO (evP .e (.ixS 1 (.c v20) (.c (.i .i64 x23)))) fun v24 =>
  bindO (ldA ro m0.h true 1 v24) fun v25 =>
  asI .i64 v25 fun x25 =>
  forceI (wr .i64 (x19 + x25)) fun x26 =>
  forceB (ltI x13 x26) fun c27 =>
  finM m0.h.length (tupA [(.b c27)]) m0

theorem g90_ok {ro : List ABlk} {O : Caller} {M : Means} (hM : M.Ok ⟨F, O⟩ ro) {x0 v1 v2 h r} (ho : O 90 [(.i .i64 x0), v1, v2] h = none) (hr : g90 M ro x0 v1 v2 ⟨h, h.length, h.length⟩ = some r) : callX ⟨F, O⟩ ro 90 [(.i .i64 x0), v1, v2] h = some r := by
  refine callX_of (F := ⟨F, O⟩) (fn := fn90) (g := g90 M ro x0 v1 v2) ho rfl rfl hr ?_
  clear ho
  clear hr
  intro m0 t0 ht hr
  have g0 : t0.get 0 = (.i .i64 x0) := ht 0
  have g1 : t0.get 1 = v1 := ht 1
  have g2 : t0.get 2 = v2 := ht 2
  clear ht
  unfold g90 at hr
  refine w_seq ?_
  refine w_ops ?_
  refine wo_step (v := (.b false)) (s_pure (p_mv rfl)) ?_
  refine wo_nil ?_
  refine nx_norm ?_
  refine w_seq ?_
  refine w_any ?_
  have hq := bindO_inv hr
  clear hr
  obtain ⟨v5, e5, hr⟩ := hq
  refine wa_step (v := v5) (a_ld g1 e5) ?_
  have hq := bindO_inv hr
  clear hr
  obtain ⟨v6, e6, hr⟩ := hq
  have hq := asI_inv hr
  clear hr
  obtain ⟨x6, rfl, hr⟩ := hq
  refine wa_step (v := (.i .i64 x6)) (a_ld g2 e6) ?_
  have hq := bindO_inv hr
  clear hr
  obtain ⟨v7, e7, hr⟩ := hq
  refine wa_step (v := v7) (a_pure (o_ixS rfl rfl e7)) ?_
  have hq := bindO_inv hr
  clear hr
  obtain ⟨v8, e8, hr⟩ := hq
  have hq := asI_inv hr
  clear hr
  obtain ⟨x8, rfl, hr⟩ := hq
  refine wa_step (v := (.i .i64 x8)) (a_ld rfl e8) ?_
  have hq := bindO_inv hr
  clear hr
  obtain ⟨v9, e9, hr⟩ := hq
  refine wa_step (v := v9) (a_ld g1 e9) ?_
  refine wa_step (v := (.i .i64 x0)) (a_pure (p_mv g0)) ?_
  have hq := bindO_inv hr
  clear hr
  obtain ⟨v11, e11, hr⟩ := hq
  refine wa_step (v := v11) (a_pure (o_ixS rfl rfl e11)) ?_
  have hq := bindO_inv hr
  clear hr
  obtain ⟨v12, e12, hr⟩ := hq
  have hq := asI_inv hr
  clear hr
  obtain ⟨x12, rfl, hr⟩ := hq
  refine wa_step (v := (.i .i64 x12)) (a_ld rfl e12) ?_
  have hq := forceI_inv hr
  clear hr
  obtain ⟨x13, e13, hr⟩ := hq
  refine wa_step (v := (.i .i64 x13)) (a_pure (p_bin rfl rfl (b_add.trans (ci e13)))) ?_
  have hq := bindO_inv hr
  clear hr
  obtain ⟨v14, e14, hr⟩ := hq
  refine wa_step (v := v14) (a_ld g1 e14) ?_
  have hq := bindO_inv hr
  clear hr
  obtain ⟨v15, e15, hr⟩ := hq
  have hq := asI_inv hr
  clear hr
  obtain ⟨x15, rfl, hr⟩ := hq
  refine wa_step (v := (.i .i64 x15)) (a_ld g2 e15) ?_
  refine wa_step (v := (.i .i64 x0)) (a_pure (p_mv g0)) ?_
  have hq := forceI_inv hr
  clear hr
  obtain ⟨x17, e17, hr⟩ := hq
  refine wa_step (v := (.i .i64 x17)) (a_pure (p_bin rfl rfl (b_or.trans (ci e17)))) ?_
  have hq := bindO_inv hr
  clear hr
  obtain ⟨v18, e18, hr⟩ := hq
  refine wa_step (v := v18) (a_pure (o_ixS rfl rfl e18)) ?_
  have hq := bindO_inv hr
  clear hr
  obtain ⟨v19, e19, hr⟩ := hq
  have hq := asI_inv hr
  clear hr
  obtain ⟨x19, rfl, hr⟩ := hq
  refine wa_step (v := (.i .i64 x19)) (a_ld rfl e19) ?_
  have hq := bindO_inv hr
  clear hr
  obtain ⟨v20, e20, hr⟩ := hq
  refine wa_step (v := v20) (a_ld g1 e20) ?_
  have hq := bindO_inv hr
  clear hr
  obtain ⟨v21, e21, hr⟩ := hq
  have hq := asI_inv hr
  clear hr
  obtain ⟨x21, rfl, hr⟩ := hq
  refine wa_step (v := (.i .i64 x21)) (a_ld g2 e21) ?_
  refine wa_step (v := (.i .i64 x0)) (a_pure (p_mv g0)) ?_
  have hq := forceI_inv hr
  clear hr
  obtain ⟨x23, e23, hr⟩ := hq
  refine wa_step (v := (.i .i64 x23)) (a_pure (p_bin rfl rfl (b_and.trans (ci e23)))) ?_
  have hq := bindO_inv hr
  clear hr
  obtain ⟨v24, e24, hr⟩ := hq
  refine wa_step (v := v24) (a_pure (o_ixS rfl rfl e24)) ?_
  have hq := bindO_inv hr
  clear hr
  obtain ⟨v25, e25, hr⟩ := hq
  have hq := asI_inv hr
  clear hr
  obtain ⟨x25, rfl, hr⟩ := hq
  refine wa_step (v := (.i .i64 x25)) (a_ld rfl e25) ?_
  have hq := forceI_inv hr
  clear hr
  obtain ⟨x26, e26, hr⟩ := hq
  refine wa_step (v := (.i .i64 x26)) (a_pure (p_bin rfl rfl (b_add.trans (ci e26)))) ?_
  have hq := forceB_inv hr
  clear hr
  obtain ⟨c27, e27, hr⟩ := hq
  refine wa_step (v := (.b c27)) (a_pure (p_bin rfl rfl (b_lss.trans (cb e27)))) ?_
  refine wa_step (v := (.b c27)) (a_pure (p_mv rfl)) ?_
  refine wa_nil ?_
  refine ⟨m0, rfl, ?_⟩
  refine nx_norm ?_
  refine w_ret ?_
  exact qf ret_ok (rt rfl rn) hr

end Go.Proofs.Ythdglempcfknhaa.T

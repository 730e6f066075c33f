/- Plain functions, and that the small machine answers as they do. -/
import Derived.Test.YtpjjmdbkgkembaaDoorVmP
import Derived.Test.YtpjjmdbkgkembaaDoorVmAE
open Go.Vm
set_option linter.unusedVariables false
namespace Go.Proofs.YtpjjmdbkgkembaaDoor.T
open Go
/- dibber/dibberlaw04.TurnRings -/
abbrev g6_J0 (x0 : Int) (x1 : Int) (v2 : AVal) (m_1 : Mm) (o : Bool) (m1 : Mm) (t1 : Tr) : Prop :=
  match o with
  | c27 => m_1 = m1 ∧ t1.get 27 = (.b c27) ∧ t1.get 0 = (.i .i64 x0) ∧ t1.get 1 = (.i .i64 x1) ∧ t1.get 2 = v2
abbrev g6_J1 (x0 : Int) (x1 : Int) (v2 : AVal) (m_1 : Mm) (o : Bool) (m1 : Mm) (t1 : Tr) : Prop :=
  match o with
  | c27_1 => m_1 = m1 ∧ t1.get 27 = (.b c27_1) ∧ t1.get 0 = (.i .i64 x0) ∧ t1.get 1 = (.i .i64 x1) ∧ t1.get 2 = v2
abbrev g6_J2 (x0 : Int) (x1 : Int) (v2 : AVal) (m_1 : Mm) (o : Bool) (m1 : Mm) (t1 : Tr) : Prop :=
  match o with
  | c27_2 => m_1 = m1 ∧ t1.get 27 = (.b c27_2) ∧ t1.get 0 = (.i .i64 x0) ∧ t1.get 1 = (.i .i64 x1) ∧ t1.get 2 = v2
abbrev g6_J3 (m_5 : Mm) (o : Bool) (m1 : Mm) (t1 : Tr) : Prop :=
  match o with
  | c50 => m_5 = m1 ∧ t1.get 50 = (.b c50)
abbrev g6_J4  (o : Bool × Mm) (m1 : Mm) (t1 : Tr) : Prop :=
  match o with
  | (c53, m_6) => m_6 = m1 ∧ t1.get 53 = (.b c53)
def g6 (M : Means) (ro : List ABlk) (x0 : Int) (x1 : Int) (v2 : AVal) (m0 : Mm) : Option (AVal × Heap × Nat × Nat) :=
  bindP (callM M.call m0 15 [v2, AVal.nsl, AVal.nsl]) fun v12 m_1 =>
  asB v12 fun c12 =>
  forceB (!c12) fun c13 =>
  bindO (cond c13 (
    some true) (
    forceB (ltI 4 x1) fun c16 =>
    bindO (cond c16 (
      bindO (evP .e (.len false (.c v2))) fun v19 =>
      asI .i64 v19 fun x19 =>
      forceB (ltI 10 x19) fun c20 =>
      bindO (cond c20 (
        bindO (evP .e (.len false (.c v2))) fun v24 =>
        asI .i64 v24 fun x24 =>
        forceB (!ltI 20 x24) fun c25 =>
        some c25) (
        some false)) fun c27_2 =>
      some c27_2) (
      some false)) fun c27_1 =>
    some c27_1)) fun c27 =>
  cond c27 (
    bindP (callM M.call m_1 16 []) fun v28 m_2 =>
    asB v28 fun c28 =>
    finM m0.h.length (tupA [(.b c28)]) m_2) (
    bindP (callM M.call m_1 32 [(.i .i64 x0), (.i .i64 x1), v2]) fun v33 m_3 =>
    bindO (evP .e (.ext 0 (.c v33))) fun v34 =>
    bindO (evP .e (.ext 1 (.c v33))) fun v35 =>
    asI .i64 v35 fun x35 =>
    bindP (callM M.call m_3 33 [(.i .i64 x0), (.i .i64 x1), v2]) fun v40 m_4 =>
    bindO (evP .e (.ext 0 (.c v40))) fun v41 =>
    bindO (evP .e (.ext 1 (.c v40))) fun v42 =>
    asI .i64 v42 fun x42 =>
    bindP (callM M.call m_4 19 [v34, v41]) fun v45 m_5 =>
    asB v45 fun c45 =>
    bindO (cond c45 (
      forceB (eqI x35 x42) fun c49 =>
      some c49) (
      some false)) fun c50 =>
    bindO (cond c50 (
      bindP (callM M.call m_5 16 []) fun v52 m_7 =>
      asB v52 fun c52 =>
      some (c52, m_7)) (
      some (false, m_5))) fun ⟨c53, m_6⟩ =>
    finM m0.h.length (tupA [(.b c53)]) m_6)

theorem g6_ok {ro : List ABlk} {O : Caller} {M : Means} (hM : M.Ok ⟨F, O⟩ ro) {x0 x1 v2 h r} (ho : O 6 [(.i .i64 x0), (.i .i64 x1), v2] h = none) (hr : g6 M ro x0 x1 v2 ⟨h, h.length, h.length⟩ = some r) : callX ⟨F, O⟩ ro 6 [(.i .i64 x0), (.i .i64 x1), v2] h = some r := by
  refine callX_of (F := ⟨F, O⟩) (fn := fn6) (g := g6 M ro x0 x1 v2) ho rfl rfl hr ?_
  clear ho
  clear hr
  intro m0 t0 ht hr
  have g0 : t0.get 0 = (.i .i64 x0) := ht 0
  have g1 : t0.get 1 = (.i .i64 x1) := ht 1
  have g2 : t0.get 2 = v2 := ht 2
  clear ht
  unfold g6 at hr
  refine w_seq ?_
  refine w_ops ?_
  refine wo_step (v := (.b false)) (s_pure (p_mv rfl)) ?_
  refine wo_nil ?_
  refine nx_norm ?_
  refine w_seq ?_
  refine w_seq ?_
  refine w_ops ?_
  refine wo_step (v := v2) (s_pure (p_mv g2)) ?_
  have hq := bindP_inv hr
  clear hr
  obtain ⟨v12, m_1, e12, hr⟩ := hq
  have hq := asB_inv hr
  clear hr
  obtain ⟨c12, rfl, hr⟩ := hq
  refine wo_step (v := (.b c12)) (s_call (mc rfl (mc rfl (mc rfl mn))) (callM_le hM.call e12)) ?_
  have hq := forceB_inv hr
  clear hr
  obtain ⟨c13, e13, hr⟩ := hq
  refine wo_step (v := (.b c13)) (s_pure ((p_not rfl).trans (cb e13))) ?_
  refine wo_step (v := (.b c13)) (s_pure (p_mv rfl)) ?_
  have hq := bindO_inv hr
  clear hr
  obtain ⟨o, hr, hk⟩ := hq
  refine wo_join 13 (g6_J0 x0 x1 v2 m_1 o) ?_ ?_
  · clear hk
    have hq := cond_inv hr
    clear hr
    rcases hq with ⟨rfl, hr⟩ | ⟨rfl, hr⟩
    · refine wo_skip (v := (.b true)) rfl rfl ?_
      refine wo_skip (v := (.b true)) rfl rfl ?_
      refine wo_skip (v := (.b true)) rfl rfl ?_
      refine wo_skip (v := und) rfl rfl ?_
      refine wo_skip (v := und) rfl rfl ?_
      refine wo_skip (v := und) rfl rfl ?_
      refine wo_skip (v := (.b true)) rfl rfl ?_
      refine wo_skip (v := (.b true)) rfl rfl ?_
      refine wo_skip (v := und) rfl rfl ?_
      refine wo_skip (v := und) rfl rfl ?_
      refine wo_skip (v := und) rfl rfl ?_
      refine wo_skip (v := (.b true)) rfl rfl ?_
      refine wo_step (v := (.b true)) (s_pure (p_pickT rfl rfl)) ?_
      refine wo_nil ?_
      cases hr
      exact ⟨_, _, rfl, rfl, gl rfl, gl g0, gl g1, gl g2⟩
    · refine wo_take (v := (.i .i64 x1)) rfl (s_pure (p_mv g1)) ?_
      have hq := forceB_inv hr
      clear hr
      obtain ⟨c16, e16, hr⟩ := hq
      refine wo_take (v := (.b c16)) rfl (s_pure (p_bin rfl rfl (b_gtr.trans (cb e16)))) ?_
      refine wo_take (v := (.b c16)) rfl (s_pure (p_mv rfl)) ?_
      have hq := bindO_inv hr
      clear hr
      obtain ⟨o_1, hr, hk⟩ := hq
      refine wo_join 10 (g6_J1 x0 x1 v2 m_1 o_1) ?_ ?_
      · clear hk
        have hq := cond_inv hr
        clear hr
        rcases hq with ⟨rfl, hr⟩ | ⟨rfl, hr⟩
        · refine wo_take (v := v2) rfl (s_pure (p_mv g2)) ?_
          have hq := bindO_inv hr
          clear hr
          obtain ⟨v19, e19, hr⟩ := hq
          have hq := asI_inv hr
          clear hr
          obtain ⟨x19, rfl, hr⟩ := hq
          refine wo_take (v := (.i .i64 x19)) rfl (s_pure (o_len rfl e19)) ?_
          have hq := forceB_inv hr
          clear hr
          obtain ⟨c20, e20, hr⟩ := hq
          refine wo_take (v := (.b c20)) rfl (s_pure (p_bin rfl rfl (b_gtr.trans (cb e20)))) ?_
          refine wo_take (v := (.b c20)) rfl (s_pure (p_pickT rfl rfl)) ?_
          refine wo_take (v := (.b c20)) rfl (s_pure (p_mv rfl)) ?_
          have hq := bindO_inv hr
          clear hr
          obtain ⟨o_2, hr, hk⟩ := hq
          refine wo_join 5 (g6_J2 x0 x1 v2 m_1 o_2) ?_ ?_
          · clear hk
            have hq := cond_inv hr
            clear hr
            rcases hq with ⟨rfl, hr⟩ | ⟨rfl, hr⟩
            · refine wo_take (v := v2) rfl (s_pure (p_mv g2)) ?_
              have hq := bindO_inv hr
              clear hr
              obtain ⟨v24, e24, hr⟩ := hq
              have hq := asI_inv hr
              clear hr
              obtain ⟨x24, rfl, hr⟩ := hq
              refine wo_take (v := (.i .i64 x24)) rfl (s_pure (o_len rfl e24)) ?_
              have hq := forceB_inv hr
              clear hr
              obtain ⟨c25, e25, hr⟩ := hq
              refine wo_take (v := (.b c25)) rfl (s_pure (p_bin rfl rfl (b_leq.trans (cb e25)))) ?_
              refine wo_take (v := (.b c25)) rfl (s_pure (p_pickT rfl rfl)) ?_
              refine wo_step (v := (.b c25)) (s_pure (p_pickF rfl rfl)) ?_
              refine wo_nil ?_
              cases hr
              exact ⟨_, _, rfl, rfl, gl rfl, gl g0, gl g1, gl g2⟩
            · refine wo_skip (v := (.b false)) rfl rfl ?_
              refine wo_skip (v := (.b false)) rfl rfl ?_
              refine wo_skip (v := (.b false)) rfl rfl ?_
              refine wo_take (v := (.b false)) rfl (s_pure (p_pickF rfl rfl)) ?_
              refine wo_step (v := (.b false)) (s_pure (p_pickF rfl rfl)) ?_
              refine wo_nil ?_
              cases hr
              exact ⟨_, _, rfl, rfl, gl rfl, gl g0, gl g1, gl g2⟩
          · clear hr
            have hr := hk
            clear hk
            obtain ⟨c27_2, ho⟩ : ∃ z, z = o_2 := ⟨_, rfl⟩
            subst ho
            rintro mm t_1 ⟨rfl, g27, g0, g1, g2⟩
            refine wo_nil ?_
            cases hr
            exact ⟨_, _, rfl, rfl, gl g27, gl g0, gl g1, gl g2⟩
        · refine wo_skip (v := (.b false)) rfl rfl ?_
          refine wo_skip (v := (.b false)) rfl rfl ?_
          refine wo_skip (v := (.b false)) rfl rfl ?_
          refine wo_take (v := (.b false)) rfl (s_pure (p_pickF rfl rfl)) ?_
          refine wo_take (v := (.b false)) rfl (s_pure (p_mv rfl)) ?_
          refine wo_skip (v := (.b false)) rfl rfl ?_
          refine wo_skip (v := (.b false)) rfl rfl ?_
          refine wo_skip (v := (.b false)) rfl rfl ?_
          refine wo_take (v := (.b false)) rfl (s_pure (p_pickF rfl rfl)) ?_
          refine wo_step (v := (.b false)) (s_pure (p_pickF rfl rfl)) ?_
          refine wo_nil ?_
          cases hr
          exact ⟨_, _, rfl, rfl, gl rfl, gl g0, gl g1, gl g2⟩
      · clear hr
        have hr := hk
        clear hk
        obtain ⟨c27_1, ho⟩ : ∃ z, z = o_1 := ⟨_, rfl⟩
        subst ho
        rintro mm_1 t_2 ⟨rfl, g27, g0, g1, g2⟩
        refine wo_nil ?_
        cases hr
        exact ⟨_, _, rfl, rfl, gl g27, gl g0, gl g1, gl g2⟩
  · clear hr
    have hr := hk
    clear hk
    obtain ⟨c27, ho⟩ : ∃ z, z = o := ⟨_, rfl⟩
    subst ho
    rintro mm_2 t_3 ⟨rfl, g27, g0, g1, g2⟩
    refine wo_nil ?_
    refine nx_norm ?_
    have hq := cond_inv hr
    clear hr
    rcases hq with ⟨rfl, hr⟩ | ⟨rfl, hr⟩
    · refine w_condT g27 ?_
      refine w_seq ?_
      refine w_ops ?_
      have hq := bindP_inv hr
      clear hr
      obtain ⟨v28, m_2, e28, hr⟩ := hq
      have hq := asB_inv hr
      clear hr
      obtain ⟨c28, rfl, hr⟩ := hq
      refine wo_step (v := (.b c28)) (s_call mn (callM_le hM.call e28)) ?_
      refine wo_step (v := (.b c28)) (s_pure (p_mv rfl)) ?_
      refine wo_nil ?_
      refine nx_norm ?_
      refine w_ret ?_
      refine nx_ret ?_
      exact qf ret_ok (rt rfl rn) hr
    · refine w_condF g27 ?_
      refine w_skip ?_
      refine nx_norm ?_
      refine w_seq ?_
      refine w_ops ?_
      refine wo_step (v := (.i .i64 x0)) (s_pure (p_mv g0)) ?_
      refine wo_step (v := (.i .i64 x1)) (s_pure (p_mv g1)) ?_
      refine wo_step (v := v2) (s_pure (p_mv g2)) ?_
      have hq := bindP_inv hr
      clear hr
      obtain ⟨v33, m_3, e33, hr⟩ := hq
      refine wo_step (v := v33) (s_call (mc rfl (mc rfl (mc rfl mn))) (callM_le hM.call e33)) ?_
      refine wo_step (v := v33) (s_pure (p_mv rfl)) ?_
      have hq := bindO_inv hr
      clear hr
      obtain ⟨v34, e34, hr⟩ := hq
      refine wo_step (v := v34) (s_pure (o_ext rfl e34)) ?_
      have hq := bindO_inv hr
      clear hr
      obtain ⟨v35, e35, hr⟩ := hq
      have hq := asI_inv hr
      clear hr
      obtain ⟨x35, rfl, hr⟩ := hq
      refine wo_step (v := (.i .i64 x35)) (s_pure (o_ext rfl e35)) ?_
      refine wo_step (v := v34) (s_pure (p_mv rfl)) ?_
      refine wo_step (v := (.i .i64 x35)) (s_pure (p_mv rfl)) ?_
      refine wo_nil ?_
      refine nx_norm ?_
      refine w_seq ?_
      refine w_ops ?_
      refine wo_step (v := (.i .i64 x0)) (s_pure (p_mv g0)) ?_
      refine wo_step (v := (.i .i64 x1)) (s_pure (p_mv g1)) ?_
      refine wo_step (v := v2) (s_pure (p_mv g2)) ?_
      have hq := bindP_inv hr
      clear hr
      obtain ⟨v40, m_4, e40, hr⟩ := hq
      refine wo_step (v := v40) (s_call (mc rfl (mc rfl (mc rfl mn))) (callM_le hM.call e40)) ?_
      refine wo_step (v := v40) (s_pure (p_mv rfl)) ?_
      have hq := bindO_inv hr
      clear hr
      obtain ⟨v41, e41, hr⟩ := hq
      refine wo_step (v := v41) (s_pure (o_ext rfl e41)) ?_
      have hq := bindO_inv hr
      clear hr
      obtain ⟨v42, e42, hr⟩ := hq
      have hq := asI_inv hr
      clear hr
      obtain ⟨x42, rfl, hr⟩ := hq
      refine wo_step (v := (.i .i64 x42)) (s_pure (o_ext rfl e42)) ?_
      refine wo_step (v := v41) (s_pure (p_mv rfl)) ?_
      refine wo_step (v := (.i .i64 x42)) (s_pure (p_mv rfl)) ?_
      refine wo_nil ?_
      refine nx_norm ?_
      refine w_seq ?_
      refine w_ops ?_
      refine wo_step (v := v34) (s_pure (p_mv rfl)) ?_
      refine wo_step (v := v41) (s_pure (p_mv rfl)) ?_
      have hq := bindP_inv hr
      clear hr
      obtain ⟨v45, m_5, e45, hr⟩ := hq
      have hq := asB_inv hr
      clear hr
      obtain ⟨c45, rfl, hr⟩ := hq
      refine wo_step (v := (.b c45)) (s_call (mc rfl (mc rfl mn)) (callM_le hM.call e45)) ?_
      refine wo_step (v := (.b c45)) (s_pure (p_mv rfl)) ?_
      have hq := bindO_inv hr
      clear hr
      obtain ⟨o_3, hr, hk⟩ := hq
      refine wo_join 4 (g6_J3 m_5 o_3) ?_ ?_
      · clear hk
        have hq := cond_inv hr
        clear hr
        rcases hq with ⟨rfl, hr⟩ | ⟨rfl, hr⟩
        · refine wo_take (v := (.i .i64 x35)) rfl (s_pure (p_mv rfl)) ?_
          refine wo_take (v := (.i .i64 x42)) rfl (s_pure (p_mv rfl)) ?_
          have hq := forceB_inv hr
          clear hr
          obtain ⟨c49, e49, hr⟩ := hq
          refine wo_take (v := (.b c49)) rfl (s_pure (p_bin rfl rfl (b_eql.trans (cb e49)))) ?_
          refine wo_step (v := (.b c49)) (s_pure (p_pickT rfl rfl)) ?_
          refine wo_nil ?_
          cases hr
          exact ⟨_, _, rfl, rfl, gl rfl⟩
        · refine wo_skip (v := (.b false)) rfl rfl ?_
          refine wo_skip (v := (.b false)) rfl rfl ?_
          refine wo_skip (v := (.b false)) rfl rfl ?_
          refine wo_step (v := (.b false)) (s_pure (p_pickF rfl rfl)) ?_
          refine wo_nil ?_
          cases hr
          exact ⟨_, _, rfl, rfl, gl rfl⟩
      · clear hr
        have hr := hk
        clear hk
        obtain ⟨c50, ho⟩ : ∃ z, z = o_3 := ⟨_, rfl⟩
        subst ho
        rintro mm_3 t_4 ⟨rfl, g50⟩
        refine wo_step (v := (.b c50)) (s_pure (p_mv g50)) ?_
        have hq := bindO_inv hr
        clear hr
        obtain ⟨o_4, hr, hk⟩ := hq
        refine wo_join 2 (g6_J4  o_4) ?_ ?_
        · clear hk
          have hq := cond_inv hr
          clear hr
          rcases hq with ⟨rfl, hr⟩ | ⟨rfl, hr⟩
          · have hq := bindP_inv hr
            clear hr
            obtain ⟨v52, m_7, e52, hr⟩ := hq
            have hq := asB_inv hr
            clear hr
            obtain ⟨c52, rfl, hr⟩ := hq
            refine wo_take (v := (.b c52)) rfl (s_call mn (callM_le hM.call e52)) ?_
            refine wo_step (v := (.b c52)) (s_pure (p_pickT rfl rfl)) ?_
            refine wo_nil ?_
            cases hr
            exact ⟨_, _, rfl, rfl, gl rfl⟩
          · refine wo_skip (v := (.b false)) rfl rfl ?_
            refine wo_step (v := (.b false)) (s_pure (p_pickF rfl rfl)) ?_
            refine wo_nil ?_
            cases hr
            exact ⟨_, _, rfl, rfl, gl rfl⟩
        · clear hr
          have hr := hk
          clear hk
          obtain ⟨c53, m_6⟩ := o_4
          rintro mm_4 t_5 ⟨rfl, g53⟩
          refine wo_step (v := (.b c53)) (s_pure (p_mv g53)) ?_
          refine wo_nil ?_
          refine nx_norm ?_
          refine w_ret ?_
          exact qf ret_ok (rt rfl rn) hr

/- dibber/dibberlaw04.few -/
abbrev g15_J0 (v2 : AVal) (m0 : Mm) (o : Bool) (m1 : Mm) (t1 : Tr) : Prop :=
  match o with
  | c14 => m0 = m1 ∧ t1.get 14 = (.b c14) ∧ t1.get 2 = v2
abbrev g15_J1 (m0 : Mm) (o : Bool) (m1 : Mm) (t1 : Tr) : Prop :=
  match o with
  | c19 => m0 = m1 ∧ t1.get 19 = (.b c19)
def g15 (M : Means) (ro : List ABlk) (v0 : AVal) (v1 : AVal) (v2 : AVal) (m0 : Mm) : Option (AVal × Heap × Nat × Nat) :=
  bindO (evP .e (.len false (.c v0))) fun v8 =>
  asI .i64 v8 fun x8 =>
  forceB (!ltI 40 x8) fun c9 =>
  bindO (cond c9 (
    bindO (evP .e (.len false (.c v1))) fun v12 =>
    asI .i64 v12 fun x12 =>
    forceB (!ltI 40 x12) fun c13 =>
    some c13) (
    some false)) fun c14 =>
  bindO (cond c14 (
    bindO (evP .e (.len false (.c v2))) fun v17 =>
    asI .i64 v17 fun x17 =>
    forceB (!ltI 40 x17) fun c18 =>
    some c18) (
    some false)) fun c19 =>
  finM m0.h.length (tupA [(.b c19)]) m0

theorem g15_ok {ro : List ABlk} {O : Caller} {M : Means} (hM : M.Ok ⟨F, O⟩ ro) {v0 v1 v2 h r} (ho : O 15 [v0, v1, v2] h = none) (hr : g15 M ro v0 v1 v2 ⟨h, h.length, h.length⟩ = some r) : callX ⟨F, O⟩ ro 15 [v0, v1, v2] h = some r := by
  refine callX_of (F := ⟨F, O⟩) (fn := fn15) (g := g15 M ro v0 v1 v2) ho rfl rfl hr ?_
  clear ho
  clear hr
  intro m0 t0 ht hr
  have g0 : t0.get 0 = v0 := ht 0
  have g1 : t0.get 1 = v1 := ht 1
  have g2 : t0.get 2 = v2 := ht 2
  clear ht
  unfold g15 at hr
  refine w_seq ?_
  refine w_ops ?_
  refine wo_step (v := (.b false)) (s_pure (p_mv rfl)) ?_
  refine wo_nil ?_
  refine nx_norm ?_
  refine w_seq ?_
  refine w_ops ?_
  refine wo_step (v := v0) (s_pure (p_mv g0)) ?_
  have hq := bindO_inv hr
  clear hr
  obtain ⟨v8, e8, hr⟩ := hq
  have hq := asI_inv hr
  clear hr
  obtain ⟨x8, rfl, hr⟩ := hq
  refine wo_step (v := (.i .i64 x8)) (s_pure (o_len rfl e8)) ?_
  have hq := forceB_inv hr
  clear hr
  obtain ⟨c9, e9, hr⟩ := hq
  refine wo_step (v := (.b c9)) (s_pure (p_bin rfl rfl (b_leq.trans (cb e9)))) ?_
  refine wo_step (v := (.b c9)) (s_pure (p_mv rfl)) ?_
  have hq := bindO_inv hr
  clear hr
  obtain ⟨o, hr, hk⟩ := hq
  refine wo_join 4 (g15_J0 v2 m0 o) ?_ ?_
  · clear hk
    have hq := cond_inv hr
    clear hr
    rcases hq with ⟨rfl, hr⟩ | ⟨rfl, hr⟩
    · refine wo_take (v := v1) rfl (s_pure (p_mv g1)) ?_
      have hq := bindO_inv hr
      clear hr
      obtain ⟨v12, e12, hr⟩ := hq
      have hq := asI_inv hr
      clear hr
      obtain ⟨x12, rfl, hr⟩ := hq
      refine wo_take (v := (.i .i64 x12)) rfl (s_pure (o_len rfl e12)) ?_
      have hq := forceB_inv hr
      clear hr
      obtain ⟨c13, e13, hr⟩ := hq
      refine wo_take (v := (.b c13)) rfl (s_pure (p_bin rfl rfl (b_leq.trans (cb e13)))) ?_
      refine wo_step (v := (.b c13)) (s_pure (p_pickT rfl rfl)) ?_
      refine wo_nil ?_
      cases hr
      exact ⟨_, _, rfl, rfl, gl rfl, gl g2⟩
    · refine wo_skip (v := (.b false)) rfl rfl ?_
      refine wo_skip (v := (.b false)) rfl rfl ?_
      refine wo_skip (v := (.b false)) rfl rfl ?_
      refine wo_step (v := (.b false)) (s_pure (p_pickF rfl rfl)) ?_
      refine wo_nil ?_
      cases hr
      exact ⟨_, _, rfl, rfl, gl rfl, gl g2⟩
  · clear hr
    have hr := hk
    clear hk
    obtain ⟨c14, ho⟩ : ∃ z, z = o := ⟨_, rfl⟩
    subst ho
    rintro mm t_1 ⟨rfl, g14, g2⟩
    refine wo_step (v := (.b c14)) (s_pure (p_mv g14)) ?_
    have hq := bindO_inv hr
    clear hr
    obtain ⟨o_1, hr, hk⟩ := hq
    refine wo_join 4 (g15_J1 m0 o_1) ?_ ?_
    · clear hk
      have hq := cond_inv hr
      clear hr
      rcases hq with ⟨rfl, hr⟩ | ⟨rfl, hr⟩
      · refine wo_take (v := v2) rfl (s_pure (p_mv g2)) ?_
        have hq := bindO_inv hr
        clear hr
        obtain ⟨v17, e17, hr⟩ := hq
        have hq := asI_inv hr
        clear hr
        obtain ⟨x17, rfl, hr⟩ := hq
        refine wo_take (v := (.i .i64 x17)) rfl (s_pure (o_len rfl e17)) ?_
        have hq := forceB_inv hr
        clear hr
        obtain ⟨c18, e18, hr⟩ := hq
        refine wo_take (v := (.b c18)) rfl (s_pure (p_bin rfl rfl (b_leq.trans (cb e18)))) ?_
        refine wo_step (v := (.b c18)) (s_pure (p_pickT rfl rfl)) ?_
        refine wo_nil ?_
        cases hr
        exact ⟨_, _, rfl, rfl, gl rfl⟩
      · refine wo_skip (v := (.b false)) rfl rfl ?_
        refine wo_skip (v := (.b false)) rfl rfl ?_
        refine wo_skip (v := (.b false)) rfl rfl ?_
        refine wo_step (v := (.b false)) (s_pure (p_pickF rfl rfl)) ?_
        refine wo_nil ?_
        cases hr
        exact ⟨_, _, rfl, rfl, gl rfl⟩
    · clear hr
      have hr := hk
      clear hk
      obtain ⟨c19, ho⟩ : ∃ z, z = o_1 := ⟨_, rfl⟩
      subst ho
      rintro mm_1 t_2 ⟨rfl, g19⟩
      refine wo_step (v := (.b c19)) (s_pure (p_mv g19)) ?_
      refine wo_nil ?_
      refine nx_norm ?_
      refine w_ret ?_
      exact qf ret_ok (rt rfl rn) hr

/- dibber/dibberlaw04.same -/
abbrev g19_I0 (v0 : AVal) (v1 : AVal) (m0 : Mm) (s : Int) (m1 : Mm) (t1 : Tr) : Prop :=
  match s with
  | x5 => m0 = m1 ∧ t1.get 5 = (.i .i64 x5) ∧ t1.get 0 = v0 ∧ t1.get 1 = v1
abbrev g19_J0 (v0 : AVal) (v1 : AVal) (m0 : Mm) (o : (Unit ⊕ Bool)) (e : AExit) (m1 : Mm) (t1 : Tr) : Prop :=
  match o with
  | (.inl _) => e = (.exit 0) ∧ m0 = m1
  | (.inr y4) => e = .ret ∧ m0 = m1 ∧ t1.get 4 = (.b y4)
def g19_b0 (M : Means) (ro : List ABlk) (v0 : AVal) (v1 : AVal) (m0 : Mm) (x5 : Int) : Option ((Int) ⊕ ((Unit ⊕ Bool))) :=
  bindO (evP .e (.len false (.c v0))) fun v13 =>
  asI .i64 v13 fun x13 =>
  forceB (ltI x5 x13) fun c14 =>
  cond c14 (
    bindO (evP .e (.ixS 1 (.c v0) (.c (.i .i64 x5)))) fun v19 =>
    bindO (ldA ro m0.h true 1 v19) fun v20 =>
    asI .i64 v20 fun x20 =>
    bindO (evP .e (.ixS 1 (.c v1) (.c (.i .i64 x5)))) fun v23 =>
    bindO (ldA ro m0.h true 1 v23) fun v24 =>
    asI .i64 v24 fun x24 =>
    forceB (!eqI x20 x24) fun c25 =>
    cond c25 (
      some (.inr (.inr false))) (
      forceI (wr .i64 (x5 + 1)) fun x16 =>
      some (.inl x16))) (
    some (.inr (.inl ())))
def g19 (M : Means) (ro : List ABlk) (v0 : AVal) (v1 : AVal) (m0 : Mm) : Option (AVal × Heap × Nat × Nat) :=
  bindO (evP .e (.len false (.c v0))) fun v7 =>
  asI .i64 v7 fun x7 =>
  bindO (evP .e (.len false (.c v1))) fun v9 =>
  asI .i64 v9 fun x9 =>
  forceB (!eqI x7 x9) fun c10 =>
  cond c10 (
    finM m0.h.length (tupA [(.b false)]) m0) (
    bindO (M.loop (S := Int) (R := (Unit ⊕ Bool)) (fun s => g19_b0 M ro v0 v1 m0 s) 0) fun o => match o with
    | (.inl _) =>
      finM m0.h.length (tupA [(.b true)]) m0
    | (.inr c4) =>
      finM m0.h.length (tupA [(.b c4)]) m0)

theorem g19_ok {ro : List ABlk} {O : Caller} {M : Means} (hM : M.Ok ⟨F, O⟩ ro) {v0 v1 h r} (ho : O 19 [v0, v1] h = none) (hr : g19 M ro v0 v1 ⟨h, h.length, h.length⟩ = some r) : callX ⟨F, O⟩ ro 19 [v0, v1] h = some r := by
  refine callX_of (F := ⟨F, O⟩) (fn := fn19) (g := g19 M ro v0 v1) ho rfl rfl hr ?_
  clear ho
  clear hr
  intro m0 t0 ht hr
  have g0 : t0.get 0 = v0 := ht 0
  have g1 : t0.get 1 = v1 := ht 1
  clear ht
  unfold g19 at hr
  refine w_seq ?_
  refine w_ops ?_
  refine wo_step (v := (.b false)) (s_pure (p_mv rfl)) ?_
  refine wo_nil ?_
  refine nx_norm ?_
  refine w_seq ?_
  refine w_seq ?_
  refine w_ops ?_
  refine wo_step (v := v0) (s_pure (p_mv g0)) ?_
  have hq := bindO_inv hr
  clear hr
  obtain ⟨v7, e7, hr⟩ := hq
  have hq := asI_inv hr
  clear hr
  obtain ⟨x7, rfl, hr⟩ := hq
  refine wo_step (v := (.i .i64 x7)) (s_pure (o_len rfl e7)) ?_
  refine wo_step (v := v1) (s_pure (p_mv g1)) ?_
  have hq := bindO_inv hr
  clear hr
  obtain ⟨v9, e9, hr⟩ := hq
  have hq := asI_inv hr
  clear hr
  obtain ⟨x9, rfl, hr⟩ := hq
  refine wo_step (v := (.i .i64 x9)) (s_pure (o_len rfl e9)) ?_
  have hq := forceB_inv hr
  clear hr
  obtain ⟨c10, e10, hr⟩ := hq
  refine wo_step (v := (.b c10)) (s_pure (p_bin rfl rfl (b_neq.trans (cb e10)))) ?_
  refine wo_nil ?_
  refine nx_norm ?_
  have hq := cond_inv hr
  clear hr
  rcases hq with ⟨rfl, hr⟩ | ⟨rfl, hr⟩
  · refine w_condT rfl ?_
    refine w_seq ?_
    refine w_ops ?_
    refine wo_step (v := (.b false)) (s_pure (p_mv rfl)) ?_
    refine wo_nil ?_
    refine nx_norm ?_
    refine w_ret ?_
    refine nx_ret ?_
    exact qf ret_ok (rt rfl rn) hr
  · refine w_condF rfl ?_
    refine w_skip ?_
    refine nx_norm ?_
    refine w_seq ?_
    refine w_seq ?_
    refine w_ops ?_
    refine wo_step (v := (.i .i64 0)) (s_pure (p_mv rfl)) ?_
    refine wo_nil ?_
    refine nx_norm ?_
    refine w_block ?_
    have hq := bindO_inv hr
    clear hr
    obtain ⟨o, hl, hr⟩ := hq
    obtain ⟨n, hl⟩ := hM.loop _ _ _ hl
    refine jp_mono (w_loop _ (g19_I0 v0 v1 m0) (g19_J0 v0 v1 m0) ?_ n _ _ _ _ hl ⟨rfl, gl rfl, gl g0, gl g1⟩) ?_
    · clear hr hl
      intro s mm_2 t_1 o hi hr
      obtain ⟨x5, hs⟩ : ∃ z, z = s := ⟨_, rfl⟩
      subst hs
      obtain ⟨rfl, g5, g0, g1⟩ := hi
      unfold g19_b0 at hr
      refine w_seq ?_
      refine w_seq ?_
      refine w_ops ?_
      refine wo_step (v := (.i .i64 x5)) (s_pure (p_mv g5)) ?_
      refine wo_step (v := v0) (s_pure (p_mv g0)) ?_
      have hq := bindO_inv hr
      clear hr
      obtain ⟨v13, e13, hr⟩ := hq
      have hq := asI_inv hr
      clear hr
      obtain ⟨x13, rfl, hr⟩ := hq
      refine wo_step (v := (.i .i64 x13)) (s_pure (o_len rfl e13)) ?_
      have hq := forceB_inv hr
      clear hr
      obtain ⟨c14, e14, hr⟩ := hq
      refine wo_step (v := (.b c14)) (s_pure (p_bin rfl rfl (b_lss.trans (cb e14)))) ?_
      refine wo_nil ?_
      refine nx_norm ?_
      have hq := cond_inv hr
      clear hr
      rcases hq with ⟨rfl, hr⟩ | ⟨rfl, hr⟩
      · refine w_condT rfl ?_
        refine w_skip ?_
        refine nx_norm ?_
        refine w_seq ?_
        refine w_block ?_
        refine w_seq ?_
        refine w_any ?_
        refine wa_step (v := v0) (a_pure (p_mv g0)) ?_
        refine wa_step (v := (.i .i64 x5)) (a_pure (p_mv g5)) ?_
        have hq := bindO_inv hr
        clear hr
        obtain ⟨v19, e19, hr⟩ := hq
        refine wa_step (v := v19) (a_pure (o_ixS rfl rfl e19)) ?_
        have hq := bindO_inv hr
        clear hr
        obtain ⟨v20, e20, hr⟩ := hq
        have hq := asI_inv hr
        clear hr
        obtain ⟨x20, rfl, hr⟩ := hq
        refine wa_step (v := (.i .i64 x20)) (a_ld rfl e20) ?_
        refine wa_step (v := v1) (a_pure (p_mv g1)) ?_
        refine wa_step (v := (.i .i64 x5)) (a_pure (p_mv g5)) ?_
        have hq := bindO_inv hr
        clear hr
        obtain ⟨v23, e23, hr⟩ := hq
        refine wa_step (v := v23) (a_pure (o_ixS rfl rfl e23)) ?_
        have hq := bindO_inv hr
        clear hr
        obtain ⟨v24, e24, hr⟩ := hq
        have hq := asI_inv hr
        clear hr
        obtain ⟨x24, rfl, hr⟩ := hq
        refine wa_step (v := (.i .i64 x24)) (a_ld rfl e24) ?_
        have hq := forceB_inv hr
        clear hr
        obtain ⟨c25, e25, hr⟩ := hq
        refine wa_step (v := (.b c25)) (a_pure (p_bin rfl rfl (b_neq.trans (cb e25)))) ?_
        refine wa_nil ?_
        refine ⟨m0, rfl, ?_⟩
        refine nx_norm ?_
        have hq := cond_inv hr
        clear hr
        rcases hq with ⟨rfl, hr⟩ | ⟨rfl, hr⟩
        · refine w_condT rfl ?_
          refine w_seq ?_
          refine w_ops ?_
          refine wo_step (v := (.b false)) (s_pure (p_mv rfl)) ?_
          refine wo_nil ?_
          refine nx_norm ?_
          refine w_ret ?_
          refine bk_ret ?_
          refine nx_ret ?_
          cases hr
          exact ⟨_, _, rfl, ne_norm_ret, rfl, rfl, gl rfl⟩
        · refine w_condF rfl ?_
          refine w_skip ?_
          refine bk_norm ?_
          refine nx_norm ?_
          refine w_ops ?_
          refine wo_step (v := (.i .i64 x5)) (s_pure (p_mv g5)) ?_
          have hq := forceI_inv hr
          clear hr
          obtain ⟨x16, e16, hr⟩ := hq
          refine wo_step (v := (.i .i64 x16)) (s_pure (p_bin rfl rfl (b_add.trans (ci e16)))) ?_
          refine wo_step (v := (.i .i64 x16)) (s_pure (p_mv rfl)) ?_
          refine wo_nil ?_
          cases hr
          exact ⟨_, _, rfl, rfl, rfl, gl rfl, gl g0, gl g1⟩
      · refine w_condF rfl ?_
        refine w_exit ?_
        refine nx_exit ?_
        cases hr
        exact ⟨_, _, rfl, ne_norm_exit, rfl, rfl⟩
    · rcases o with o | o
      · rintro _ mm t_2 ⟨rfl, rfl⟩
        refine bk_hit ?_
        refine nx_norm ?_
        refine w_seq ?_
        refine w_ops ?_
        refine wo_step (v := (.b true)) (s_pure (p_mv rfl)) ?_
        refine wo_nil ?_
        refine nx_norm ?_
        refine w_ret ?_
        exact qf ret_ok (rt rfl rn) hr
      · obtain ⟨c4, ho⟩ : ∃ z, z = o := ⟨_, rfl⟩
        subst ho
        rintro _ mm_1 t_3 ⟨rfl, rfl, g4⟩
        refine bk_ret ?_
        refine nx_ret ?_
        exact qf ret_ok (rt g4 rn) hr

/- dibber/dibberref04.Spans -/
abbrev g20_J0 (x0 : Int) (x1 : Int) (v2 : AVal) (m0 : Mm) (o : Bool) (m1 : Mm) (t1 : Tr) : Prop :=
  match o with
  | c14 => m0 = m1 ∧ t1.get 14 = (.b c14) ∧ t1.get 0 = (.i .i64 x0) ∧ t1.get 1 = (.i .i64 x1) ∧ t1.get 2 = v2
abbrev g20_J1 (x0 : Int) (x1 : Int) (v2 : AVal) (m0 : Mm) (o : Bool) (m1 : Mm) (t1 : Tr) : Prop :=
  match o with
  | c18 => m0 = m1 ∧ t1.get 18 = (.b c18) ∧ t1.get 0 = (.i .i64 x0) ∧ t1.get 1 = (.i .i64 x1) ∧ t1.get 2 = v2
abbrev g20_J2 (x0 : Int) (x1 : Int) (v2 : AVal) (m0 : Mm) (o : Bool) (m1 : Mm) (t1 : Tr) : Prop :=
  match o with
  | c22 => m0 = m1 ∧ t1.get 22 = (.b c22) ∧ t1.get 0 = (.i .i64 x0) ∧ t1.get 1 = (.i .i64 x1) ∧ t1.get 2 = v2
abbrev g20_I3 (x0 : Int) (x1 : Int) (v2 : AVal) (s : Int × Mm) (m1 : Mm) (t1 : Tr) : Prop :=
  match s with
  | (x7, m_1) => m_1 = m1 ∧ t1.get 7 = (.i .i64 x7) ∧ t1.get 0 = (.i .i64 x0) ∧ t1.get 1 = (.i .i64 x1) ∧ t1.get 2 = v2
abbrev g20_J3 (x0 : Int) (x1 : Int) (v2 : AVal) (o : (Mm ⊕ (Int × Mm))) (e : AExit) (m1 : Mm) (t1 : Tr) : Prop :=
  match o with
  | (.inl mo) => e = (.exit 0) ∧ mo = m1
  | (.inr (y6, mo)) => e = .ret ∧ mo = m1 ∧ t1.get 6 = (.i .i64 y6)
abbrev g20_J4 (x0 : Int) (x1 : Int) (v2 : AVal) (x7 : Int) (v8 : AVal) (m_3 : Mm) (o : Bool) (m1 : Mm) (t1 : Tr) : Prop :=
  match o with
  | c44 => m_3 = m1 ∧ t1.get 44 = (.b c44) ∧ t1.get 0 = (.i .i64 x0) ∧ t1.get 1 = (.i .i64 x1) ∧ t1.get 2 = v2 ∧ t1.get 7 = (.i .i64 x7) ∧ t1.get 8 = v8
abbrev g20_J5 (x0 : Int) (x1 : Int) (v2 : AVal) (x7 : Int) (v8 : AVal) (m_3 : Mm) (o : Bool) (m1 : Mm) (t1 : Tr) : Prop :=
  match o with
  | c49 => m_3 = m1 ∧ t1.get 49 = (.b c49) ∧ t1.get 0 = (.i .i64 x0) ∧ t1.get 1 = (.i .i64 x1) ∧ t1.get 2 = v2 ∧ t1.get 7 = (.i .i64 x7) ∧ t1.get 8 = v8
abbrev g20_J6 (x0 : Int) (x1 : Int) (v2 : AVal) (x7 : Int) (v8 : AVal) (m_3 : Mm) (o : Bool) (m1 : Mm) (t1 : Tr) : Prop :=
  match o with
  | c55 => m_3 = m1 ∧ t1.get 55 = (.b c55) ∧ t1.get 0 = (.i .i64 x0) ∧ t1.get 1 = (.i .i64 x1) ∧ t1.get 2 = v2 ∧ t1.get 7 = (.i .i64 x7) ∧ t1.get 8 = v8
abbrev g20_J7 (x0 : Int) (x1 : Int) (v2 : AVal) (x7 : Int) (v8 : AVal) (m_3 : Mm) (o : Bool) (m1 : Mm) (t1 : Tr) : Prop :=
  match o with
  | c62 => m_3 = m1 ∧ t1.get 62 = (.b c62) ∧ t1.get 0 = (.i .i64 x0) ∧ t1.get 1 = (.i .i64 x1) ∧ t1.get 2 = v2 ∧ t1.get 7 = (.i .i64 x7) ∧ t1.get 8 = v8
abbrev g20_J8 (x0 : Int) (x1 : Int) (v2 : AVal) (x7 : Int) (v8 : AVal) (m_3 : Mm) (o : Bool) (m1 : Mm) (t1 : Tr) : Prop :=
  match o with
  | c67 => m_3 = m1 ∧ t1.get 67 = (.b c67) ∧ t1.get 0 = (.i .i64 x0) ∧ t1.get 1 = (.i .i64 x1) ∧ t1.get 2 = v2 ∧ t1.get 7 = (.i .i64 x7) ∧ t1.get 8 = v8
abbrev g20_J9 (x0 : Int) (x1 : Int) (v2 : AVal) (x7 : Int) (v8 : AVal) (m_3 : Mm) (o : Bool) (m1 : Mm) (t1 : Tr) : Prop :=
  match o with
  | c72 => m_3 = m1 ∧ t1.get 72 = (.b c72) ∧ t1.get 0 = (.i .i64 x0) ∧ t1.get 1 = (.i .i64 x1) ∧ t1.get 2 = v2 ∧ t1.get 7 = (.i .i64 x7) ∧ t1.get 8 = v8
abbrev g20_J10 (x0 : Int) (x1 : Int) (v2 : AVal) (x7 : Int) (v8 : AVal) (m_3 : Mm) (o : Bool) (m1 : Mm) (t1 : Tr) : Prop :=
  match o with
  | c79 => m_3 = m1 ∧ t1.get 79 = (.b c79) ∧ t1.get 0 = (.i .i64 x0) ∧ t1.get 1 = (.i .i64 x1) ∧ t1.get 2 = v2 ∧ t1.get 7 = (.i .i64 x7) ∧ t1.get 8 = v8
abbrev g20_J11 (x0 : Int) (x1 : Int) (v2 : AVal) (x7 : Int) (m_3 : Mm) (o : Bool) (m1 : Mm) (t1 : Tr) : Prop :=
  match o with
  | c89 => m_3 = m1 ∧ t1.get 89 = (.b c89) ∧ t1.get 0 = (.i .i64 x0) ∧ t1.get 1 = (.i .i64 x1) ∧ t1.get 2 = v2 ∧ t1.get 7 = (.i .i64 x7)
def g20_b3 (M : Means) (ro : List ABlk) (x0 : Int) (x1 : Int) (v2 : AVal) (x7 : Int) (m_1 : Mm) : Option ((Int × Mm) ⊕ ((Mm ⊕ (Int × Mm)))) :=
  bindO (evP .e (.len false (.c v2))) fun v28 =>
  asI .i64 v28 fun x28 =>
  forceB (ltI x7 x28) fun c29 =>
  cond c29 (
    bindO (evP .e (.ixS 4 (.c v2) (.c (.i .i64 x7)))) fun v34 =>
    bindO (ldM ro m_1 false 4 v34) fun v35 =>
    bindP (stepM ro m_1 (.al 31 [(AVal.i IntKind.i64 0), (AVal.i IntKind.i64 0), (AVal.i IntKind.i64 0), (AVal.i IntKind.i64 0)])) fun v8 m_2 =>
    bindP (stepM ro m_2 (.st 4 (.c v8) (.c v35))) fun vn m_3 =>
    bindO (evP .e (.faddr 0 (.c v8))) fun v36 =>
    bindO (ldM ro m_3 true 1 v36) fun v37 =>
    asI .i64 v37 fun x37 =>
    forceB (ltI x37 0) fun c38 =>
    bindO (cond c38 (
      some true) (
      bindO (evP .e (.faddr 0 (.c v8))) fun v40 =>
      bindO (ldM ro m_3 true 1 v40) fun v41 =>
      asI .i64 v41 fun x41 =>
      forceB (!ltI x41 x1) fun c43 =>
      some c43)) fun c44 =>
    bindO (cond c44 (
      some true) (
      bindO (evP .e (.faddr 1 (.c v8))) fun v46 =>
      bindO (ldM ro m_3 true 1 v46) fun v47 =>
      asI .i64 v47 fun x47 =>
      forceB (ltI x47 0) fun c48 =>
      some c48)) fun c49 =>
    bindO (cond c49 (
      some true) (
      bindO (evP .e (.faddr 1 (.c v8))) fun v51 =>
      bindO (ldM ro m_3 true 1 v51) fun v52 =>
      asI .i64 v52 fun x52 =>
      forceB (!ltI x52 x1) fun c54 =>
      some c54)) fun c55 =>
    bindO (cond c55 (
      some true) (
      bindO (evP .e (.faddr 0 (.c v8))) fun v57 =>
      bindO (ldM ro m_3 true 1 v57) fun v58 =>
      asI .i64 v58 fun x58 =>
      bindO (evP .e (.faddr 1 (.c v8))) fun v59 =>
      bindO (ldM ro m_3 true 1 v59) fun v60 =>
      asI .i64 v60 fun x60 =>
      forceB (eqI x58 x60) fun c61 =>
      some c61)) fun c62 =>
    bindO (cond c62 (
      some true) (
      bindO (evP .e (.faddr 2 (.c v8))) fun v64 =>
      bindO (ldM ro m_3 true 1 v64) fun v65 =>
      asI .i64 v65 fun x65 =>
      forceB (ltI x65 (-600)) fun c66 =>
      some c66)) fun c67 =>
    bindO (cond c67 (
      some true) (
      bindO (evP .e (.faddr 2 (.c v8))) fun v69 =>
      bindO (ldM ro m_3 true 1 v69) fun v70 =>
      asI .i64 v70 fun x70 =>
      forceB (ltI 600 x70) fun c71 =>
      some c71)) fun c72 =>
    bindO (cond c72 (
      some true) (
      bindO (evP .e (.faddr 3 (.c v8))) fun v74 =>
      bindO (ldM ro m_3 true 1 v74) fun v75 =>
      asI .i64 v75 fun x75 =>
      bindO (evP .e (.faddr 2 (.c v8))) fun v76 =>
      bindO (ldM ro m_3 true 1 v76) fun v77 =>
      asI .i64 v77 fun x77 =>
      forceB (ltI x75 x77) fun c78 =>
      some c78)) fun c79 =>
    bindO (cond c79 (
      some true) (
      bindO (evP .e (.faddr 3 (.c v8))) fun v81 =>
      bindO (ldM ro m_3 true 1 v81) fun v82 =>
      asI .i64 v82 fun x82 =>
      bindO (evP .e (.faddr 2 (.c v8))) fun v83 =>
      bindO (ldM ro m_3 true 1 v83) fun v84 =>
      asI .i64 v84 fun x84 =>
      forceI (wr .i64 (x84 + x0)) fun x86 =>
      forceI (wr .i64 (x86 - 1)) fun x87 =>
      forceB (ltI x87 x82) fun c88 =>
      some c88)) fun c89 =>
    cond c89 (
      some (.inr (.inr (2, m_3)))) (
      forceI (wr .i64 (x7 + 1)) fun x31 =>
      some (.inl (x31, m_3)))) (
    some (.inr (.inl m_1)))
def g20 (M : Means) (ro : List ABlk) (x0 : Int) (x1 : Int) (v2 : AVal) (m0 : Mm) : Option (AVal × Heap × Nat × Nat) :=
  forceB (ltI x0 1) fun c10 =>
  bindO (cond c10 (
    some true) (
    forceB (ltI 24 x0) fun c13 =>
    some c13)) fun c14 =>
  bindO (cond c14 (
    some true) (
    forceB (ltI x1 1) fun c17 =>
    some c17)) fun c18 =>
  bindO (cond c18 (
    some true) (
    forceB (ltI 6 x1) fun c21 =>
    some c21)) fun c22 =>
  cond c22 (
    finM m0.h.length (tupA [(.i .i64 2)]) m0) (
    bindO (evP .e (.len false (.c v2))) fun v24 =>
    asI .i64 v24 fun x24 =>
    forceB (ltI 20 x24) fun c25 =>
    cond c25 (
      finM m0.h.length (tupA [(.i .i64 3)]) m0) (
      bindO (M.loop (S := Int × Mm) (R := (Mm ⊕ (Int × Mm))) (fun s => g20_b3 M ro x0 x1 v2 s.1 s.2) (0, m0)) fun o_11 => match o_11 with
      | (.inl m_4) =>
        finM m0.h.length (tupA [(.i .i64 0)]) m_4
      | (.inr (x6, m_5)) =>
        finM m0.h.length (tupA [(.i .i64 x6)]) m_5))

theorem g20_ok {ro : List ABlk} {O : Caller} {M : Means} (hM : M.Ok ⟨F, O⟩ ro) {x0 x1 v2 h r} (ho : O 20 [(.i .i64 x0), (.i .i64 x1), v2] h = none) (hr : g20 M ro x0 x1 v2 ⟨h, h.length, h.length⟩ = some r) : callX ⟨F, O⟩ ro 20 [(.i .i64 x0), (.i .i64 x1), v2] h = some r := by
  refine callX_of (F := ⟨F, O⟩) (fn := fn20) (g := g20 M ro x0 x1 v2) ho rfl rfl hr ?_
  clear ho
  clear hr
  intro m0 t0 ht hr
  have g0 : t0.get 0 = (.i .i64 x0) := ht 0
  have g1 : t0.get 1 = (.i .i64 x1) := ht 1
  have g2 : t0.get 2 = v2 := ht 2
  clear ht
  unfold g20 at hr
  refine w_seq ?_
  refine w_ops ?_
  refine wo_step (v := (.i .i64 0)) (s_pure (p_mv rfl)) ?_
  refine wo_nil ?_
  refine nx_norm ?_
  refine w_seq ?_
  refine w_seq ?_
  refine w_ops ?_
  refine wo_step (v := (.i .i64 x0)) (s_pure (p_mv g0)) ?_
  have hq := forceB_inv hr
  clear hr
  obtain ⟨c10, e10, hr⟩ := hq
  refine wo_step (v := (.b c10)) (s_pure (p_bin rfl rfl (b_lss.trans (cb e10)))) ?_
  refine wo_step (v := (.b c10)) (s_pure (p_mv rfl)) ?_
  have hq := bindO_inv hr
  clear hr
  obtain ⟨o, hr, hk⟩ := hq
  refine wo_join 3 (g20_J0 x0 x1 v2 m0 o) ?_ ?_
  · clear hk
    have hq := cond_inv hr
    clear hr
    rcases hq with ⟨rfl, hr⟩ | ⟨rfl, hr⟩
    · refine wo_skip (v := (.b true)) rfl rfl ?_
      refine wo_skip (v := (.b true)) rfl rfl ?_
      refine wo_step (v := (.b true)) (s_pure (p_pickT rfl rfl)) ?_
      refine wo_nil ?_
      cases hr
      exact ⟨_, _, rfl, rfl, gl rfl, gl g0, gl g1, gl g2⟩
    · refine wo_take (v := (.i .i64 x0)) rfl (s_pure (p_mv g0)) ?_
      have hq := forceB_inv hr
      clear hr
      obtain ⟨c13, e13, hr⟩ := hq
      refine wo_take (v := (.b c13)) rfl (s_pure (p_bin rfl rfl (b_gtr.trans (cb e13)))) ?_
      refine wo_step (v := (.b c13)) (s_pure (p_pickF rfl rfl)) ?_
      refine wo_nil ?_
      cases hr
      exact ⟨_, _, rfl, rfl, gl rfl, gl g0, gl g1, gl g2⟩
  · clear hr
    have hr := hk
    clear hk
    obtain ⟨c14, ho⟩ : ∃ z, z = o := ⟨_, rfl⟩
    subst ho
    rintro mm t_1 ⟨rfl, g14, g0, g1, g2⟩
    refine wo_step (v := (.b c14)) (s_pure (p_mv g14)) ?_
    have hq := bindO_inv hr
    clear hr
    obtain ⟨o_1, hr, hk⟩ := hq
    refine wo_join 3 (g20_J1 x0 x1 v2 m0 o_1) ?_ ?_
    · clear hk
      have hq := cond_inv hr
      clear hr
      rcases hq with ⟨rfl, hr⟩ | ⟨rfl, hr⟩
      · refine wo_skip (v := (.b true)) rfl rfl ?_
        refine wo_skip (v := (.b true)) rfl rfl ?_
        refine wo_step (v := (.b true)) (s_pure (p_pickT rfl rfl)) ?_
        refine wo_nil ?_
        cases hr
        exact ⟨_, _, rfl, rfl, gl rfl, gl g0, gl g1, gl g2⟩
      · refine wo_take (v := (.i .i64 x1)) rfl (s_pure (p_mv g1)) ?_
        have hq := forceB_inv hr
        clear hr
        obtain ⟨c17, e17, hr⟩ := hq
        refine wo_take (v := (.b c17)) rfl (s_pure (p_bin rfl rfl (b_lss.trans (cb e17)))) ?_
        refine wo_step (v := (.b c17)) (s_pure (p_pickF rfl rfl)) ?_
        refine wo_nil ?_
        cases hr
        exact ⟨_, _, rfl, rfl, gl rfl, gl g0, gl g1, gl g2⟩
    · clear hr
      have hr := hk
      clear hk
      obtain ⟨c18, ho⟩ : ∃ z, z = o_1 := ⟨_, rfl⟩
      subst ho
      rintro mm_1 t_2 ⟨rfl, g18, g0, g1, g2⟩
      refine wo_step (v := (.b c18)) (s_pure (p_mv g18)) ?_
      have hq := bindO_inv hr
      clear hr
      obtain ⟨o_2, hr, hk⟩ := hq
      refine wo_join 3 (g20_J2 x0 x1 v2 m0 o_2) ?_ ?_
      · clear hk
        have hq := cond_inv hr
        clear hr
        rcases hq with ⟨rfl, hr⟩ | ⟨rfl, hr⟩
        · refine wo_skip (v := (.b true)) rfl rfl ?_
          refine wo_skip (v := (.b true)) rfl rfl ?_
          refine wo_step (v := (.b true)) (s_pure (p_pickT rfl rfl)) ?_
          refine wo_nil ?_
          cases hr
          exact ⟨_, _, rfl, rfl, gl rfl, gl g0, gl g1, gl g2⟩
        · refine wo_take (v := (.i .i64 x1)) rfl (s_pure (p_mv g1)) ?_
          have hq := forceB_inv hr
          clear hr
          obtain ⟨c21, e21, hr⟩ := hq
          refine wo_take (v := (.b c21)) rfl (s_pure (p_bin rfl rfl (b_gtr.trans (cb e21)))) ?_
          refine wo_step (v := (.b c21)) (s_pure (p_pickF rfl rfl)) ?_
          refine wo_nil ?_
          cases hr
          exact ⟨_, _, rfl, rfl, gl rfl, gl g0, gl g1, gl g2⟩
      · clear hr
        have hr := hk
        clear hk
        obtain ⟨c22, ho⟩ : ∃ z, z = o_2 := ⟨_, rfl⟩
        subst ho
        rintro mm_2 t_3 ⟨rfl, g22, g0, g1, g2⟩
        refine wo_nil ?_
        refine nx_norm ?_
        have hq := cond_inv hr
        clear hr
        rcases hq with ⟨rfl, hr⟩ | ⟨rfl, hr⟩
        · refine w_condT g22 ?_
          refine w_seq ?_
          refine w_ops ?_
          refine wo_step (v := (.i .i64 2)) (s_pure (p_mv rfl)) ?_
          refine wo_nil ?_
          refine nx_norm ?_
          refine w_ret ?_
          refine nx_ret ?_
          exact qf ret_ok (rt rfl rn) hr
        · refine w_condF g22 ?_
          refine w_skip ?_
          refine nx_norm ?_
          refine w_seq ?_
          refine w_seq ?_
          refine w_ops ?_
          refine wo_step (v := v2) (s_pure (p_mv g2)) ?_
          have hq := bindO_inv hr
          clear hr
          obtain ⟨v24, e24, hr⟩ := hq
          have hq := asI_inv hr
          clear hr
          obtain ⟨x24, rfl, hr⟩ := hq
          refine wo_step (v := (.i .i64 x24)) (s_pure (o_len rfl e24)) ?_
          have hq := forceB_inv hr
          clear hr
          obtain ⟨c25, e25, hr⟩ := hq
          refine wo_step (v := (.b c25)) (s_pure (p_bin rfl rfl (b_gtr.trans (cb e25)))) ?_
          refine wo_nil ?_
          refine nx_norm ?_
          have hq := cond_inv hr
          clear hr
          rcases hq with ⟨rfl, hr⟩ | ⟨rfl, hr⟩
          · refine w_condT rfl ?_
            refine w_seq ?_
            refine w_ops ?_
            refine wo_step (v := (.i .i64 3)) (s_pure (p_mv rfl)) ?_
            refine wo_nil ?_
            refine nx_norm ?_
            refine w_ret ?_
            refine nx_ret ?_
            exact qf ret_ok (rt rfl rn) hr
          · refine w_condF rfl ?_
            refine w_skip ?_
            refine nx_norm ?_
            refine w_seq ?_
            refine w_seq ?_
            refine w_ops ?_
            refine wo_step (v := (.i .i64 0)) (s_pure (p_mv rfl)) ?_
            refine wo_nil ?_
            refine nx_norm ?_
            refine w_block ?_
            have hq := bindO_inv hr
            clear hr
            obtain ⟨o_11, hl, hr⟩ := hq
            obtain ⟨n, hl⟩ := hM.loop _ _ _ hl
            refine jp_mono (w_loop _ (g20_I3 x0 x1 v2) (g20_J3 x0 x1 v2) ?_ n _ _ _ _ hl ⟨rfl, gl rfl, gl g0, gl g1, gl g2⟩) ?_
            · clear hr hl
              intro s mm_13 t_4 o hi hr
              obtain ⟨x7, m_1⟩ := s
              obtain ⟨rfl, g7, g0, g1, g2⟩ := hi
              unfold g20_b3 at hr
              refine w_seq ?_
              refine w_seq ?_
              refine w_ops ?_
              refine wo_step (v := (.i .i64 x7)) (s_pure (p_mv g7)) ?_
              refine wo_step (v := v2) (s_pure (p_mv g2)) ?_
              have hq := bindO_inv hr
              clear hr
              obtain ⟨v28, e28, hr⟩ := hq
              have hq := asI_inv hr
              clear hr
              obtain ⟨x28, rfl, hr⟩ := hq
              refine wo_step (v := (.i .i64 x28)) (s_pure (o_len rfl e28)) ?_
              have hq := forceB_inv hr
              clear hr
              obtain ⟨c29, e29, hr⟩ := hq
              refine wo_step (v := (.b c29)) (s_pure (p_bin rfl rfl (b_lss.trans (cb e29)))) ?_
              refine wo_nil ?_
              refine nx_norm ?_
              have hq := cond_inv hr
              clear hr
              rcases hq with ⟨rfl, hr⟩ | ⟨rfl, hr⟩
              · refine w_condT rfl ?_
                refine w_skip ?_
                refine nx_norm ?_
                refine w_seq ?_
                refine w_block ?_
                refine w_seq ?_
                refine w_ops ?_
                refine wo_step (v := v2) (s_pure (p_mv g2)) ?_
                refine wo_step (v := (.i .i64 x7)) (s_pure (p_mv g7)) ?_
                have hq := bindO_inv hr
                clear hr
                obtain ⟨v34, e34, hr⟩ := hq
                refine wo_step (v := v34) (s_pure (o_ixS rfl rfl e34)) ?_
                have hq := bindO_inv hr
                clear hr
                obtain ⟨v35, e35, hr⟩ := hq
                refine wo_step (v := v35) (s_ld rfl e35) ?_
                have hq := bindP_inv hr
                clear hr
                obtain ⟨v8, m_2, e8, hr⟩ := hq
                refine wo_step (v := v8) (s_al e8) ?_
                have hq := bindP_inv hr
                clear hr
                obtain ⟨vn, m_3, en, hr⟩ := hq
                refine wo_stepN (s_st rfl rfl en) ?_
                refine wo_nil ?_
                refine nx_norm ?_
                refine w_seq ?_
                refine w_ops ?_
                have hq := bindO_inv hr
                clear hr
                obtain ⟨v36, e36, hr⟩ := hq
                refine wo_step (v := v36) (s_pure (o_faddr rfl e36)) ?_
                have hq := bindO_inv hr
                clear hr
                obtain ⟨v37, e37, hr⟩ := hq
                have hq := asI_inv hr
                clear hr
                obtain ⟨x37, rfl, hr⟩ := hq
                refine wo_step (v := (.i .i64 x37)) (s_ld rfl e37) ?_
                have hq := forceB_inv hr
                clear hr
                obtain ⟨c38, e38, hr⟩ := hq
                refine wo_step (v := (.b c38)) (s_pure (p_bin rfl rfl (b_lss.trans (cb e38)))) ?_
                refine wo_step (v := (.b c38)) (s_pure (p_mv rfl)) ?_
                have hq := bindO_inv hr
                clear hr
                obtain ⟨o_3, hr, hk⟩ := hq
                refine wo_join 5 (g20_J4 x0 x1 v2 x7 v8 m_3 o_3) ?_ ?_
                · clear hk
                  have hq := cond_inv hr
                  clear hr
                  rcases hq with ⟨rfl, hr⟩ | ⟨rfl, hr⟩
                  · refine wo_skip (v := (.b true)) rfl rfl ?_
                    refine wo_skip (v := (.b true)) rfl rfl ?_
                    refine wo_skip (v := (.b true)) rfl rfl ?_
                    refine wo_skip (v := (.b true)) rfl rfl ?_
                    refine wo_step (v := (.b true)) (s_pure (p_pickT rfl rfl)) ?_
                    refine wo_nil ?_
                    cases hr
                    exact ⟨_, _, rfl, rfl, gl rfl, gl g0, gl g1, gl g2, gl g7, gl rfl⟩
                  · have hq := bindO_inv hr
                    clear hr
                    obtain ⟨v40, e40, hr⟩ := hq
                    refine wo_take (v := v40) rfl (s_pure (o_faddr rfl e40)) ?_
                    have hq := bindO_inv hr
                    clear hr
                    obtain ⟨v41, e41, hr⟩ := hq
                    have hq := asI_inv hr
                    clear hr
                    obtain ⟨x41, rfl, hr⟩ := hq
                    refine wo_take (v := (.i .i64 x41)) rfl (s_ld rfl e41) ?_
                    refine wo_take (v := (.i .i64 x1)) rfl (s_pure (p_mv g1)) ?_
                    have hq := forceB_inv hr
                    clear hr
                    obtain ⟨c43, e43, hr⟩ := hq
                    refine wo_take (v := (.b c43)) rfl (s_pure (p_bin rfl rfl (b_geq.trans (cb e43)))) ?_
                    refine wo_step (v := (.b c43)) (s_pure (p_pickF rfl rfl)) ?_
                    refine wo_nil ?_
                    cases hr
                    exact ⟨_, _, rfl, rfl, gl rfl, gl g0, gl g1, gl g2, gl g7, gl rfl⟩
                · clear hr
                  have hr := hk
                  clear hk
                  obtain ⟨c44, ho⟩ : ∃ z, z = o_3 := ⟨_, rfl⟩
                  subst ho
                  rintro mm_3 t_5 ⟨rfl, g44, g0, g1, g2, g7, g8⟩
                  refine wo_step (v := (.b c44)) (s_pure (p_mv g44)) ?_
                  have hq := bindO_inv hr
                  clear hr
                  obtain ⟨o_4, hr, hk⟩ := hq
                  refine wo_join 4 (g20_J5 x0 x1 v2 x7 v8 m_3 o_4) ?_ ?_
                  · clear hk
                    have hq := cond_inv hr
                    clear hr
                    rcases hq with ⟨rfl, hr⟩ | ⟨rfl, hr⟩
                    · refine wo_skip (v := (.b true)) rfl rfl ?_
                      refine wo_skip (v := (.b true)) rfl rfl ?_
                      refine wo_skip (v := (.b true)) rfl rfl ?_
                      refine wo_step (v := (.b true)) (s_pure (p_pickT rfl rfl)) ?_
                      refine wo_nil ?_
                      cases hr
                      exact ⟨_, _, rfl, rfl, gl rfl, gl g0, gl g1, gl g2, gl g7, gl g8⟩
                    · have hq := bindO_inv hr
                      clear hr
                      obtain ⟨v46, e46, hr⟩ := hq
                      refine wo_take (v := v46) rfl (s_pure (o_faddr g8 e46)) ?_
                      have hq := bindO_inv hr
                      clear hr
                      obtain ⟨v47, e47, hr⟩ := hq
                      have hq := asI_inv hr
                      clear hr
                      obtain ⟨x47, rfl, hr⟩ := hq
                      refine wo_take (v := (.i .i64 x47)) rfl (s_ld rfl e47) ?_
                      have hq := forceB_inv hr
                      clear hr
                      obtain ⟨c48, e48, hr⟩ := hq
                      refine wo_take (v := (.b c48)) rfl (s_pure (p_bin rfl rfl (b_lss.trans (cb e48)))) ?_
                      refine wo_step (v := (.b c48)) (s_pure (p_pickF rfl rfl)) ?_
                      refine wo_nil ?_
                      cases hr
                      exact ⟨_, _, rfl, rfl, gl rfl, gl g0, gl g1, gl g2, gl g7, gl g8⟩
                  · clear hr
                    have hr := hk
                    clear hk
                    obtain ⟨c49, ho⟩ : ∃ z, z = o_4 := ⟨_, rfl⟩
                    subst ho
                    rintro mm_4 t_6 ⟨rfl, g49, g0, g1, g2, g7, g8⟩
                    refine wo_step (v := (.b c49)) (s_pure (p_mv g49)) ?_
                    have hq := bindO_inv hr
                    clear hr
                    obtain ⟨o_5, hr, hk⟩ := hq
                    refine wo_join 5 (g20_J6 x0 x1 v2 x7 v8 m_3 o_5) ?_ ?_
                    · clear hk
                      have hq := cond_inv hr
                      clear hr
                      rcases hq with ⟨rfl, hr⟩ | ⟨rfl, hr⟩
                      · refine wo_skip (v := (.b true)) rfl rfl ?_
                        refine wo_skip (v := (.b true)) rfl rfl ?_
                        refine wo_skip (v := (.b true)) rfl rfl ?_
                        refine wo_skip (v := (.b true)) rfl rfl ?_
                        refine wo_step (v := (.b true)) (s_pure (p_pickT rfl rfl)) ?_
                        refine wo_nil ?_
                        cases hr
                        exact ⟨_, _, rfl, rfl, gl rfl, gl g0, gl g1, gl g2, gl g7, gl g8⟩
                      · have hq := bindO_inv hr
                        clear hr
                        obtain ⟨v51, e51, hr⟩ := hq
                        refine wo_take (v := v51) rfl (s_pure (o_faddr g8 e51)) ?_
                        have hq := bindO_inv hr
                        clear hr
                        obtain ⟨v52, e52, hr⟩ := hq
                        have hq := asI_inv hr
                        clear hr
                        obtain ⟨x52, rfl, hr⟩ := hq
                        refine wo_take (v := (.i .i64 x52)) rfl (s_ld rfl e52) ?_
                        refine wo_take (v := (.i .i64 x1)) rfl (s_pure (p_mv g1)) ?_
                        have hq := forceB_inv hr
                        clear hr
                        obtain ⟨c54, e54, hr⟩ := hq
                        refine wo_take (v := (.b c54)) rfl (s_pure (p_bin rfl rfl (b_geq.trans (cb e54)))) ?_
                        refine wo_step (v := (.b c54)) (s_pure (p_pickF rfl rfl)) ?_
                        refine wo_nil ?_
                        cases hr
                        exact ⟨_, _, rfl, rfl, gl rfl, gl g0, gl g1, gl g2, gl g7, gl g8⟩
                    · clear hr
                      have hr := hk
                      clear hk
                      obtain ⟨c55, ho⟩ : ∃ z, z = o_5 := ⟨_, rfl⟩
                      subst ho
                      rintro mm_5 t_7 ⟨rfl, g55, g0, g1, g2, g7, g8⟩
                      refine wo_step (v := (.b c55)) (s_pure (p_mv g55)) ?_
                      have hq := bindO_inv hr
                      clear hr
                      obtain ⟨o_6, hr, hk⟩ := hq
                      refine wo_join 6 (g20_J7 x0 x1 v2 x7 v8 m_3 o_6) ?_ ?_
                      · clear hk
                        have hq := cond_inv hr
                        clear hr
                        rcases hq with ⟨rfl, hr⟩ | ⟨rfl, hr⟩
                        · refine wo_skip (v := (.b true)) rfl rfl ?_
                          refine wo_skip (v := (.b true)) rfl rfl ?_
                          refine wo_skip (v := (.b true)) rfl rfl ?_
                          refine wo_skip (v := (.b true)) rfl rfl ?_
                          refine wo_skip (v := (.b true)) rfl rfl ?_
                          refine wo_step (v := (.b true)) (s_pure (p_pickT rfl rfl)) ?_
                          refine wo_nil ?_
                          cases hr
                          exact ⟨_, _, rfl, rfl, gl rfl, gl g0, gl g1, gl g2, gl g7, gl g8⟩
                        · have hq := bindO_inv hr
                          clear hr
                          obtain ⟨v57, e57, hr⟩ := hq
                          refine wo_take (v := v57) rfl (s_pure (o_faddr g8 e57)) ?_
                          have hq := bindO_inv hr
                          clear hr
                          obtain ⟨v58, e58, hr⟩ := hq
                          have hq := asI_inv hr
                          clear hr
                          obtain ⟨x58, rfl, hr⟩ := hq
                          refine wo_take (v := (.i .i64 x58)) rfl (s_ld rfl e58) ?_
                          have hq := bindO_inv hr
                          clear hr
                          obtain ⟨v59, e59, hr⟩ := hq
                          refine wo_take (v := v59) rfl (s_pure (o_faddr g8 e59)) ?_
                          have hq := bindO_inv hr
                          clear hr
                          obtain ⟨v60, e60, hr⟩ := hq
                          have hq := asI_inv hr
                          clear hr
                          obtain ⟨x60, rfl, hr⟩ := hq
                          refine wo_take (v := (.i .i64 x60)) rfl (s_ld rfl e60) ?_
                          have hq := forceB_inv hr
                          clear hr
                          obtain ⟨c61, e61, hr⟩ := hq
                          refine wo_take (v := (.b c61)) rfl (s_pure (p_bin rfl rfl (b_eql.trans (cb e61)))) ?_
                          refine wo_step (v := (.b c61)) (s_pure (p_pickF rfl rfl)) ?_
                          refine wo_nil ?_
                          cases hr
                          exact ⟨_, _, rfl, rfl, gl rfl, gl g0, gl g1, gl g2, gl g7, gl g8⟩
                      · clear hr
                        have hr := hk
                        clear hk
                        obtain ⟨c62, ho⟩ : ∃ z, z = o_6 := ⟨_, rfl⟩
                        subst ho
                        rintro mm_6 t_8 ⟨rfl, g62, g0, g1, g2, g7, g8⟩
                        refine wo_step (v := (.b c62)) (s_pure (p_mv g62)) ?_
                        have hq := bindO_inv hr
                        clear hr
                        obtain ⟨o_7, hr, hk⟩ := hq
                        refine wo_join 4 (g20_J8 x0 x1 v2 x7 v8 m_3 o_7) ?_ ?_
                        · clear hk
                          have hq := cond_inv hr
                          clear hr
                          rcases hq with ⟨rfl, hr⟩ | ⟨rfl, hr⟩
                          · refine wo_skip (v := (.b true)) rfl rfl ?_
                            refine wo_skip (v := (.b true)) rfl rfl ?_
                            refine wo_skip (v := (.b true)) rfl rfl ?_
                            refine wo_step (v := (.b true)) (s_pure (p_pickT rfl rfl)) ?_
                            refine wo_nil ?_
                            cases hr
                            exact ⟨_, _, rfl, rfl, gl rfl, gl g0, gl g1, gl g2, gl g7, gl g8⟩
                          · have hq := bindO_inv hr
                            clear hr
                            obtain ⟨v64, e64, hr⟩ := hq
                            refine wo_take (v := v64) rfl (s_pure (o_faddr g8 e64)) ?_
                            have hq := bindO_inv hr
                            clear hr
                            obtain ⟨v65, e65, hr⟩ := hq
                            have hq := asI_inv hr
                            clear hr
                            obtain ⟨x65, rfl, hr⟩ := hq
                            refine wo_take (v := (.i .i64 x65)) rfl (s_ld rfl e65) ?_
                            have hq := forceB_inv hr
                            clear hr
                            obtain ⟨c66, e66, hr⟩ := hq
                            refine wo_take (v := (.b c66)) rfl (s_pure (p_bin rfl rfl (b_lss.trans (cb e66)))) ?_
                            refine wo_step (v := (.b c66)) (s_pure (p_pickF rfl rfl)) ?_
                            refine wo_nil ?_
                            cases hr
                            exact ⟨_, _, rfl, rfl, gl rfl, gl g0, gl g1, gl g2, gl g7, gl g8⟩
                        · clear hr
                          have hr := hk
                          clear hk
                          obtain ⟨c67, ho⟩ : ∃ z, z = o_7 := ⟨_, rfl⟩
                          subst ho
                          rintro mm_7 t_9 ⟨rfl, g67, g0, g1, g2, g7, g8⟩
                          refine wo_step (v := (.b c67)) (s_pure (p_mv g67)) ?_
                          have hq := bindO_inv hr
                          clear hr
                          obtain ⟨o_8, hr, hk⟩ := hq
                          refine wo_join 4 (g20_J9 x0 x1 v2 x7 v8 m_3 o_8) ?_ ?_
                          · clear hk
                            have hq := cond_inv hr
                            clear hr
                            rcases hq with ⟨rfl, hr⟩ | ⟨rfl, hr⟩
                            · refine wo_skip (v := (.b true)) rfl rfl ?_
                              refine wo_skip (v := (.b true)) rfl rfl ?_
                              refine wo_skip (v := (.b true)) rfl rfl ?_
                              refine wo_step (v := (.b true)) (s_pure (p_pickT rfl rfl)) ?_
                              refine wo_nil ?_
                              cases hr
                              exact ⟨_, _, rfl, rfl, gl rfl, gl g0, gl g1, gl g2, gl g7, gl g8⟩
                            · have hq := bindO_inv hr
                              clear hr
                              obtain ⟨v69, e69, hr⟩ := hq
                              refine wo_take (v := v69) rfl (s_pure (o_faddr g8 e69)) ?_
                              have hq := bindO_inv hr
                              clear hr
                              obtain ⟨v70, e70, hr⟩ := hq
                              have hq := asI_inv hr
                              clear hr
                              obtain ⟨x70, rfl, hr⟩ := hq
                              refine wo_take (v := (.i .i64 x70)) rfl (s_ld rfl e70) ?_
                              have hq := forceB_inv hr
                              clear hr
                              obtain ⟨c71, e71, hr⟩ := hq
                              refine wo_take (v := (.b c71)) rfl (s_pure (p_bin rfl rfl (b_gtr.trans (cb e71)))) ?_
                              refine wo_step (v := (.b c71)) (s_pure (p_pickF rfl rfl)) ?_
                              refine wo_nil ?_
                              cases hr
                              exact ⟨_, _, rfl, rfl, gl rfl, gl g0, gl g1, gl g2, gl g7, gl g8⟩
                          · clear hr
                            have hr := hk
                            clear hk
                            obtain ⟨c72, ho⟩ : ∃ z, z = o_8 := ⟨_, rfl⟩
                            subst ho
                            rintro mm_8 t_10 ⟨rfl, g72, g0, g1, g2, g7, g8⟩
                            refine wo_step (v := (.b c72)) (s_pure (p_mv g72)) ?_
                            have hq := bindO_inv hr
                            clear hr
                            obtain ⟨o_9, hr, hk⟩ := hq
                            refine wo_join 6 (g20_J10 x0 x1 v2 x7 v8 m_3 o_9) ?_ ?_
                            · clear hk
                              have hq := cond_inv hr
                              clear hr
                              rcases hq with ⟨rfl, hr⟩ | ⟨rfl, hr⟩
                              · refine wo_skip (v := (.b true)) rfl rfl ?_
                                refine wo_skip (v := (.b true)) rfl rfl ?_
                                refine wo_skip (v := (.b true)) rfl rfl ?_
                                refine wo_skip (v := (.b true)) rfl rfl ?_
                                refine wo_skip (v := (.b true)) rfl rfl ?_
                                refine wo_step (v := (.b true)) (s_pure (p_pickT rfl rfl)) ?_
                                refine wo_nil ?_
                                cases hr
                                exact ⟨_, _, rfl, rfl, gl rfl, gl g0, gl g1, gl g2, gl g7, gl g8⟩
                              · have hq := bindO_inv hr
                                clear hr
                                obtain ⟨v74, e74, hr⟩ := hq
                                refine wo_take (v := v74) rfl (s_pure (o_faddr g8 e74)) ?_
                                have hq := bindO_inv hr
                                clear hr
                                obtain ⟨v75, e75, hr⟩ := hq
                                have hq := asI_inv hr
                                clear hr
                                obtain ⟨x75, rfl, hr⟩ := hq
                                refine wo_take (v := (.i .i64 x75)) rfl (s_ld rfl e75) ?_
                                have hq := bindO_inv hr
                                clear hr
                                obtain ⟨v76, e76, hr⟩ := hq
                                refine wo_take (v := v76) rfl (s_pure (o_faddr g8 e76)) ?_
                                have hq := bindO_inv hr
                                clear hr
                                obtain ⟨v77, e77, hr⟩ := hq
                                have hq := asI_inv hr
                                clear hr
                                obtain ⟨x77, rfl, hr⟩ := hq
                                refine wo_take (v := (.i .i64 x77)) rfl (s_ld rfl e77) ?_
                                have hq := forceB_inv hr
                                clear hr
                                obtain ⟨c78, e78, hr⟩ := hq
                                refine wo_take (v := (.b c78)) rfl (s_pure (p_bin rfl rfl (b_lss.trans (cb e78)))) ?_
                                refine wo_step (v := (.b c78)) (s_pure (p_pickF rfl rfl)) ?_
                                refine wo_nil ?_
                                cases hr
                                exact ⟨_, _, rfl, rfl, gl rfl, gl g0, gl g1, gl g2, gl g7, gl g8⟩
                            · clear hr
                              have hr := hk
                              clear hk
                              obtain ⟨c79, ho⟩ : ∃ z, z = o_9 := ⟨_, rfl⟩
                              subst ho
                              rintro mm_9 t_11 ⟨rfl, g79, g0, g1, g2, g7, g8⟩
                              refine wo_step (v := (.b c79)) (s_pure (p_mv g79)) ?_
                              have hq := bindO_inv hr
                              clear hr
                              obtain ⟨o_10, hr, hk⟩ := hq
                              refine wo_join 9 (g20_J11 x0 x1 v2 x7 m_3 o_10) ?_ ?_
                              · clear hk
                                have hq := cond_inv hr
                                clear hr
                                rcases hq with ⟨rfl, hr⟩ | ⟨rfl, hr⟩
                                · refine wo_skip (v := (.b true)) rfl rfl ?_
                                  refine wo_skip (v := (.b true)) rfl rfl ?_
                                  refine wo_skip (v := (.b true)) rfl rfl ?_
                                  refine wo_skip (v := (.b true)) rfl rfl ?_
                                  refine wo_skip (v := (.b true)) rfl rfl ?_
                                  refine wo_skip (v := (.b true)) rfl rfl ?_
                                  refine wo_skip (v := (.b true)) rfl rfl ?_
                                  refine wo_skip (v := (.b true)) rfl rfl ?_
                                  refine wo_step (v := (.b true)) (s_pure (p_pickT rfl rfl)) ?_
                                  refine wo_nil ?_
                                  cases hr
                                  exact ⟨_, _, rfl, rfl, gl rfl, gl g0, gl g1, gl g2, gl g7⟩
                                · have hq := bindO_inv hr
                                  clear hr
                                  obtain ⟨v81, e81, hr⟩ := hq
                                  refine wo_take (v := v81) rfl (s_pure (o_faddr g8 e81)) ?_
                                  have hq := bindO_inv hr
                                  clear hr
                                  obtain ⟨v82, e82, hr⟩ := hq
                                  have hq := asI_inv hr
                                  clear hr
                                  obtain ⟨x82, rfl, hr⟩ := hq
                                  refine wo_take (v := (.i .i64 x82)) rfl (s_ld rfl e82) ?_
                                  have hq := bindO_inv hr
                                  clear hr
                                  obtain ⟨v83, e83, hr⟩ := hq
                                  refine wo_take (v := v83) rfl (s_pure (o_faddr g8 e83)) ?_
                                  have hq := bindO_inv hr
                                  clear hr
                                  obtain ⟨v84, e84, hr⟩ := hq
                                  have hq := asI_inv hr
                                  clear hr
                                  obtain ⟨x84, rfl, hr⟩ := hq
                                  refine wo_take (v := (.i .i64 x84)) rfl (s_ld rfl e84) ?_
                                  refine wo_take (v := (.i .i64 x0)) rfl (s_pure (p_mv g0)) ?_
                                  have hq := forceI_inv hr
                                  clear hr
                                  obtain ⟨x86, e86, hr⟩ := hq
                                  refine wo_take (v := (.i .i64 x86)) rfl (s_pure (p_bin rfl rfl (b_add.trans (ci e86)))) ?_
                                  have hq := forceI_inv hr
                                  clear hr
                                  obtain ⟨x87, e87, hr⟩ := hq
                                  refine wo_take (v := (.i .i64 x87)) rfl (s_pure (p_bin rfl rfl (b_sub.trans (ci e87)))) ?_
                                  have hq := forceB_inv hr
                                  clear hr
                                  obtain ⟨c88, e88, hr⟩ := hq
                                  refine wo_take (v := (.b c88)) rfl (s_pure (p_bin rfl rfl (b_gtr.trans (cb e88)))) ?_
                                  refine wo_step (v := (.b c88)) (s_pure (p_pickF rfl rfl)) ?_
                                  refine wo_nil ?_
                                  cases hr
                                  exact ⟨_, _, rfl, rfl, gl rfl, gl g0, gl g1, gl g2, gl g7⟩
                              · clear hr
                                have hr := hk
                                clear hk
                                obtain ⟨c89, ho⟩ : ∃ z, z = o_10 := ⟨_, rfl⟩
                                subst ho
                                rintro mm_10 t_12 ⟨rfl, g89, g0, g1, g2, g7⟩
                                refine wo_nil ?_
                                refine nx_norm ?_
                                have hq := cond_inv hr
                                clear hr
                                rcases hq with ⟨rfl, hr⟩ | ⟨rfl, hr⟩
                                · refine w_condT g89 ?_
                                  refine w_seq ?_
                                  refine w_ops ?_
                                  refine wo_step (v := (.i .i64 2)) (s_pure (p_mv rfl)) ?_
                                  refine wo_nil ?_
                                  refine nx_norm ?_
                                  refine w_ret ?_
                                  refine bk_ret ?_
                                  refine nx_ret ?_
                                  cases hr
                                  exact ⟨_, _, rfl, ne_norm_ret, rfl, rfl, gl rfl⟩
                                · refine w_condF g89 ?_
                                  refine w_skip ?_
                                  refine bk_norm ?_
                                  refine nx_norm ?_
                                  refine w_ops ?_
                                  refine wo_step (v := (.i .i64 x7)) (s_pure (p_mv g7)) ?_
                                  have hq := forceI_inv hr
                                  clear hr
                                  obtain ⟨x31, e31, hr⟩ := hq
                                  refine wo_step (v := (.i .i64 x31)) (s_pure (p_bin rfl rfl (b_add.trans (ci e31)))) ?_
                                  refine wo_step (v := (.i .i64 x31)) (s_pure (p_mv rfl)) ?_
                                  refine wo_nil ?_
                                  cases hr
                                  exact ⟨_, _, rfl, rfl, rfl, gl rfl, gl g0, gl g1, gl g2⟩
              · refine w_condF rfl ?_
                refine w_exit ?_
                refine nx_exit ?_
                cases hr
                exact ⟨_, _, rfl, ne_norm_exit, rfl, rfl⟩
            · rcases o_11 with o_11 | o_11
              · obtain ⟨m_4, ho⟩ : ∃ z, z = o_11 := ⟨_, rfl⟩
                subst ho
                rintro _ mm_11 t_13 ⟨rfl, rfl⟩
                refine bk_hit ?_
                refine nx_norm ?_
                refine w_seq ?_
                refine w_ops ?_
                refine wo_step (v := (.i .i64 0)) (s_pure (p_mv rfl)) ?_
                refine wo_nil ?_
                refine nx_norm ?_
                refine w_ret ?_
                exact qf ret_ok (rt rfl rn) hr
              · obtain ⟨x6, m_5⟩ := o_11
                rintro _ mm_12 t_14 ⟨rfl, rfl, g6⟩
                refine bk_ret ?_
                refine nx_ret ?_
                exact qf ret_ok (rt g6 rn) hr

/- dibber/turn.Ring -/
abbrev g32_I0 (x1 : Int) (v8 : AVal) (s : Int × Mm) (m1 : Mm) (t1 : Tr) : Prop :=
  match s with
  | (x10, m_4) => m_4 = m1 ∧ t1.get 10 = (.i .i64 x10) ∧ t1.get 1 = (.i .i64 x1) ∧ t1.get 8 = v8
abbrev g32_J0 (x1 : Int) (v8 : AVal) (o : (Mm ⊕ (AVal × Int × Mm))) (e : AExit) (m1 : Mm) (t1 : Tr) : Prop :=
  match o with
  | (.inl mo) => e = (.exit 0) ∧ mo = m1
  | (.inr (y6, y7, mo)) => e = .ret ∧ mo = m1 ∧ t1.get 6 = y6 ∧ t1.get 7 = (.i .i64 y7)
def g32_b0 (M : Means) (ro : List ABlk) (x1 : Int) (v8 : AVal) (x10 : Int) (m_4 : Mm) : Option ((Int × Mm) ⊕ ((Mm ⊕ (AVal × Int × Mm)))) :=
  forceB (!ltI x1 x10) fun c24 =>
  cond c24 (
    bindO (ldM ro m_4 false 3 v8) fun v27 =>
    bindP (callM M.call m_4 57 [v27, (.i .i64 x10)]) fun v29 m_5 =>
    bindO (evP .e (.nilcmp true (.c v29))) fun v31 =>
    asB v31 fun c31 =>
    cond c31 (
      some (.inr (.inr (v29, 0, m_5)))) (
      forceI (wr .i64 (x10 + 1)) fun x26 =>
      some (.inl (x26, m_5)))) (
    some (.inr (.inl m_4)))
def g32 (M : Means) (ro : List ABlk) (x0 : Int) (x1 : Int) (v2 : AVal) (m0 : Mm) : Option (AVal × Heap × Nat × Nat) :=
  bindP (callM M.call m0 43 [(.i .i64 x0), (.i .i64 x1), v2]) fun v16 m_1 =>
  bindO (evP .e (.ext 0 (.c v16))) fun v17 =>
  bindO (evP .e (.ext 1 (.c v16))) fun v18 =>
  asI .i64 v18 fun x18 =>
  bindP (stepM ro m_1 (.al 55 [(AVal.i IntKind.i64 0), (AVal.i IntKind.i64 0), AVal.nsl])) fun v8 m_2 =>
  bindP (stepM ro m_2 (.st 3 (.c v8) (.c v17))) fun vn m_3 =>
  forceB (!eqI x18 0) fun c20 =>
  cond c20 (
    finM m0.h.length (tupA [AVal.nsl, (.i .i64 x18)]) m_3) (
    bindO (M.loop (S := Int × Mm) (R := (Mm ⊕ (AVal × Int × Mm))) (fun s => g32_b0 M ro x1 v8 s.1 s.2) (2, m_3)) fun o => match o with
    | (.inl m_6) =>
      finM m0.h.length (tupA [AVal.nsl, (.i .i64 10)]) m_6
    | (.inr (v6, x7, m_7)) =>
      finM m0.h.length (tupA [v6, (.i .i64 x7)]) m_7)

theorem g32_ok {ro : List ABlk} {O : Caller} {M : Means} (hM : M.Ok ⟨F, O⟩ ro) {x0 x1 v2 h r} (ho : O 32 [(.i .i64 x0), (.i .i64 x1), v2] h = none) (hr : g32 M ro x0 x1 v2 ⟨h, h.length, h.length⟩ = some r) : callX ⟨F, O⟩ ro 32 [(.i .i64 x0), (.i .i64 x1), v2] h = some r := by
  refine callX_of (F := ⟨F, O⟩) (fn := fn32) (g := g32 M ro x0 x1 v2) ho rfl rfl hr ?_
  clear ho
  clear hr
  intro m0 t0 ht hr
  have g0 : t0.get 0 = (.i .i64 x0) := ht 0
  have g1 : t0.get 1 = (.i .i64 x1) := ht 1
  have g2 : t0.get 2 = v2 := ht 2
  clear ht
  unfold g32 at hr
  refine w_seq ?_
  refine w_ops ?_
  refine wo_step (v := AVal.nsl) (s_pure (p_mv rfl)) ?_
  refine wo_step (v := (.i .i64 0)) (s_pure (p_mv rfl)) ?_
  refine wo_nil ?_
  refine nx_norm ?_
  refine w_seq ?_
  refine w_ops ?_
  refine wo_step (v := (.i .i64 x0)) (s_pure (p_mv g0)) ?_
  refine wo_step (v := (.i .i64 x1)) (s_pure (p_mv g1)) ?_
  refine wo_step (v := v2) (s_pure (p_mv g2)) ?_
  have hq := bindP_inv hr
  clear hr
  obtain ⟨v16, m_1, e16, hr⟩ := hq
  refine wo_step (v := v16) (s_call (mc rfl (mc rfl (mc rfl mn))) (callM_le hM.call e16)) ?_
  refine wo_step (v := v16) (s_pure (p_mv rfl)) ?_
  have hq := bindO_inv hr
  clear hr
  obtain ⟨v17, e17, hr⟩ := hq
  refine wo_step (v := v17) (s_pure (o_ext rfl e17)) ?_
  have hq := bindO_inv hr
  clear hr
  obtain ⟨v18, e18, hr⟩ := hq
  have hq := asI_inv hr
  clear hr
  obtain ⟨x18, rfl, hr⟩ := hq
  refine wo_step (v := (.i .i64 x18)) (s_pure (o_ext rfl e18)) ?_
  have hq := bindP_inv hr
  clear hr
  obtain ⟨v8, m_2, e8, hr⟩ := hq
  refine wo_step (v := v8) (s_al e8) ?_
  have hq := bindP_inv hr
  clear hr
  obtain ⟨vn, m_3, en, hr⟩ := hq
  refine wo_stepN (s_st rfl rfl en) ?_
  refine wo_step (v := (.i .i64 x18)) (s_pure (p_mv rfl)) ?_
  refine wo_nil ?_
  refine nx_norm ?_
  refine w_seq ?_
  refine w_seq ?_
  refine w_ops ?_
  refine wo_step (v := (.i .i64 x18)) (s_pure (p_mv rfl)) ?_
  have hq := forceB_inv hr
  clear hr
  obtain ⟨c20, e20, hr⟩ := hq
  refine wo_step (v := (.b c20)) (s_pure (p_bin rfl rfl (b_neq.trans (cb e20)))) ?_
  refine wo_nil ?_
  refine nx_norm ?_
  have hq := cond_inv hr
  clear hr
  rcases hq with ⟨rfl, hr⟩ | ⟨rfl, hr⟩
  · refine w_condT rfl ?_
    refine w_seq ?_
    refine w_ops ?_
    refine wo_step (v := (.i .i64 x18)) (s_pure (p_mv rfl)) ?_
    refine wo_step (v := AVal.nsl) (s_pure (p_mv rfl)) ?_
    refine wo_step (v := (.i .i64 x18)) (s_pure (p_mv rfl)) ?_
    refine wo_nil ?_
    refine nx_norm ?_
    refine w_ret ?_
    refine nx_ret ?_
    exact qf ret_ok (rt rfl (rt rfl rn)) hr
  · refine w_condF rfl ?_
    refine w_skip ?_
    refine nx_norm ?_
    refine w_seq ?_
    refine w_seq ?_
    refine w_ops ?_
    refine wo_step (v := (.i .i64 2)) (s_pure (p_mv rfl)) ?_
    refine wo_nil ?_
    refine nx_norm ?_
    refine w_block ?_
    have hq := bindO_inv hr
    clear hr
    obtain ⟨o, hl, hr⟩ := hq
    obtain ⟨n, hl⟩ := hM.loop _ _ _ hl
    refine jp_mono (w_loop _ (g32_I0 x1 v8) (g32_J0 x1 v8) ?_ n _ _ _ _ hl ⟨rfl, gl rfl, gl g1, gl rfl⟩) ?_
    · clear hr hl
      intro s mm_2 t_1 o hi hr
      obtain ⟨x10, m_4⟩ := s
      obtain ⟨rfl, g10, g1, g8⟩ := hi
      unfold g32_b0 at hr
      refine w_seq ?_
      refine w_seq ?_
      refine w_ops ?_
      refine wo_step (v := (.i .i64 x10)) (s_pure (p_mv g10)) ?_
      refine wo_step (v := (.i .i64 x1)) (s_pure (p_mv g1)) ?_
      have hq := forceB_inv hr
      clear hr
      obtain ⟨c24, e24, hr⟩ := hq
      refine wo_step (v := (.b c24)) (s_pure (p_bin rfl rfl (b_leq.trans (cb e24)))) ?_
      refine wo_nil ?_
      refine nx_norm ?_
      have hq := cond_inv hr
      clear hr
      rcases hq with ⟨rfl, hr⟩ | ⟨rfl, hr⟩
      · refine w_condT rfl ?_
        refine w_skip ?_
        refine nx_norm ?_
        refine w_seq ?_
        refine w_block ?_
        refine w_seq ?_
        refine w_ops ?_
        have hq := bindO_inv hr
        clear hr
        obtain ⟨v27, e27, hr⟩ := hq
        refine wo_step (v := v27) (s_ld g8 e27) ?_
        refine wo_step (v := (.i .i64 x10)) (s_pure (p_mv g10)) ?_
        have hq := bindP_inv hr
        clear hr
        obtain ⟨v29, m_5, e29, hr⟩ := hq
        refine wo_step (v := v29) (s_call (mc rfl (mc rfl mn)) (callM_le hM.call e29)) ?_
        refine wo_step (v := v29) (s_pure (p_mv rfl)) ?_
        refine wo_nil ?_
        refine nx_norm ?_
        refine w_seq ?_
        refine w_ops ?_
        refine wo_step (v := v29) (s_pure (p_mv rfl)) ?_
        have hq := bindO_inv hr
        clear hr
        obtain ⟨v31, e31, hr⟩ := hq
        have hq := asB_inv hr
        clear hr
        obtain ⟨c31, rfl, hr⟩ := hq
        refine wo_step (v := (.b c31)) (s_pure (o_nilcmp rfl e31)) ?_
        refine wo_nil ?_
        refine nx_norm ?_
        have hq := cond_inv hr
        clear hr
        rcases hq with ⟨rfl, hr⟩ | ⟨rfl, hr⟩
        · refine w_condT rfl ?_
          refine w_seq ?_
          refine w_ops ?_
          refine wo_step (v := v29) (s_pure (p_mv rfl)) ?_
          refine wo_step (v := v29) (s_pure (p_mv rfl)) ?_
          refine wo_step (v := (.i .i64 0)) (s_pure (p_mv rfl)) ?_
          refine wo_nil ?_
          refine nx_norm ?_
          refine w_ret ?_
          refine bk_ret ?_
          refine nx_ret ?_
          cases hr
          exact ⟨_, _, rfl, ne_norm_ret, rfl, rfl, gl rfl, gl rfl⟩
        · refine w_condF rfl ?_
          refine w_skip ?_
          refine bk_norm ?_
          refine nx_norm ?_
          refine w_ops ?_
          refine wo_step (v := (.i .i64 x10)) (s_pure (p_mv g10)) ?_
          have hq := forceI_inv hr
          clear hr
          obtain ⟨x26, e26, hr⟩ := hq
          refine wo_step (v := (.i .i64 x26)) (s_pure (p_bin rfl rfl (b_add.trans (ci e26)))) ?_
          refine wo_step (v := (.i .i64 x26)) (s_pure (p_mv rfl)) ?_
          refine wo_nil ?_
          cases hr
          exact ⟨_, _, rfl, rfl, rfl, gl rfl, gl g1, gl g8⟩
      · refine w_condF rfl ?_
        refine w_exit ?_
        refine nx_exit ?_
        cases hr
        exact ⟨_, _, rfl, ne_norm_exit, rfl, rfl⟩
    · rcases o with o | o
      · obtain ⟨m_6, ho⟩ : ∃ z, z = o := ⟨_, rfl⟩
        subst ho
        rintro _ mm t_2 ⟨rfl, rfl⟩
        refine bk_hit ?_
        refine nx_norm ?_
        refine w_seq ?_
        refine w_ops ?_
        refine wo_step (v := AVal.nsl) (s_pure (p_mv rfl)) ?_
        refine wo_step (v := (.i .i64 10)) (s_pure (p_mv rfl)) ?_
        refine wo_nil ?_
        refine nx_norm ?_
        refine w_ret ?_
        exact qf ret_ok (rt rfl (rt rfl rn)) hr
      · obtain ⟨v6, x7, m_7⟩ := o
        rintro _ mm_1 t_3 ⟨rfl, rfl, g6, g7⟩
        refine bk_ret ?_
        refine nx_ret ?_
        exact qf ret_ok (rt g6 (rt g7 rn)) hr

/- dibber/dibberref04.Ring -/
abbrev g33_I0 (x0 : Int) (x1 : Int) (v2 : AVal) (s : Int × Mm) (m1 : Mm) (t1 : Tr) : Prop :=
  match s with
  | (x9, m_2) => m_2 = m1 ∧ t1.get 9 = (.i .i64 x9) ∧ t1.get 0 = (.i .i64 x0) ∧ t1.get 1 = (.i .i64 x1) ∧ t1.get 2 = v2
abbrev g33_J0 (x0 : Int) (x1 : Int) (v2 : AVal) (o : (Mm ⊕ (AVal × Int × Mm))) (e : AExit) (m1 : Mm) (t1 : Tr) : Prop :=
  match o with
  | (.inl mo) => e = (.exit 0) ∧ mo = m1
  | (.inr (y6, y7, mo)) => e = .ret ∧ mo = m1 ∧ t1.get 6 = y6 ∧ t1.get 7 = (.i .i64 y7)
def g33_b0 (M : Means) (ro : List ABlk) (x0 : Int) (x1 : Int) (v2 : AVal) (x9 : Int) (m_2 : Mm) : Option ((Int × Mm) ⊕ ((Mm ⊕ (AVal × Int × Mm)))) :=
  forceB (!ltI x1 x9) fun c20 =>
  cond c20 (
    bindP (callM M.call m_2 58 [(.i .i64 x0), v2, (.i .i64 x9), AVal.nsl]) fun v26 m_3 =>
    bindO (evP .e (.nilcmp true (.c v26))) fun v28 =>
    asB v28 fun c28 =>
    cond c28 (
      some (.inr (.inr (v26, 0, m_3)))) (
      forceI (wr .i64 (x9 + 1)) fun x22 =>
      some (.inl (x22, m_3)))) (
    some (.inr (.inl m_2)))
def g33 (M : Means) (ro : List ABlk) (x0 : Int) (x1 : Int) (v2 : AVal) (m0 : Mm) : Option (AVal × Heap × Nat × Nat) :=
  bindP (callM M.call m0 20 [(.i .i64 x0), (.i .i64 x1), v2]) fun v14 m_1 =>
  asI .i64 v14 fun x14 =>
  forceB (!eqI x14 0) fun c16 =>
  cond c16 (
    finM m0.h.length (tupA [AVal.nsl, (.i .i64 x14)]) m_1) (
    bindO (M.loop (S := Int × Mm) (R := (Mm ⊕ (AVal × Int × Mm))) (fun s => g33_b0 M ro x0 x1 v2 s.1 s.2) (2, m_1)) fun o => match o with
    | (.inl m_4) =>
      finM m0.h.length (tupA [AVal.nsl, (.i .i64 10)]) m_4
    | (.inr (v6, x7, m_5)) =>
      finM m0.h.length (tupA [v6, (.i .i64 x7)]) m_5)

theorem g33_ok {ro : List ABlk} {O : Caller} {M : Means} (hM : M.Ok ⟨F, O⟩ ro) {x0 x1 v2 h r} (ho : O 33 [(.i .i64 x0), (.i .i64 x1), v2] h = none) (hr : g33 M ro x0 x1 v2 ⟨h, h.length, h.length⟩ = some r) : callX ⟨F, O⟩ ro 33 [(.i .i64 x0), (.i .i64 x1), v2] h = some r := by
  refine callX_of (F := ⟨F, O⟩) (fn := fn33) (g := g33 M ro x0 x1 v2) ho rfl rfl hr ?_
  clear ho
  clear hr
  intro m0 t0 ht hr
  have g0 : t0.get 0 = (.i .i64 x0) := ht 0
  have g1 : t0.get 1 = (.i .i64 x1) := ht 1
  have g2 : t0.get 2 = v2 := ht 2
  clear ht
  unfold g33 at hr
  refine w_seq ?_
  refine w_ops ?_
  refine wo_step (v := AVal.nsl) (s_pure (p_mv rfl)) ?_
  refine wo_step (v := (.i .i64 0)) (s_pure (p_mv rfl)) ?_
  refine wo_nil ?_
  refine nx_norm ?_
  refine w_seq ?_
  refine w_ops ?_
  refine wo_step (v := (.i .i64 x0)) (s_pure (p_mv g0)) ?_
  refine wo_step (v := (.i .i64 x1)) (s_pure (p_mv g1)) ?_
  refine wo_step (v := v2) (s_pure (p_mv g2)) ?_
  have hq := bindP_inv hr
  clear hr
  obtain ⟨v14, m_1, e14, hr⟩ := hq
  have hq := asI_inv hr
  clear hr
  obtain ⟨x14, rfl, hr⟩ := hq
  refine wo_step (v := (.i .i64 x14)) (s_call (mc rfl (mc rfl (mc rfl mn))) (callM_le hM.call e14)) ?_
  refine wo_step (v := (.i .i64 x14)) (s_pure (p_mv rfl)) ?_
  refine wo_nil ?_
  refine nx_norm ?_
  refine w_seq ?_
  refine w_seq ?_
  refine w_ops ?_
  refine wo_step (v := (.i .i64 x14)) (s_pure (p_mv rfl)) ?_
  have hq := forceB_inv hr
  clear hr
  obtain ⟨c16, e16, hr⟩ := hq
  refine wo_step (v := (.b c16)) (s_pure (p_bin rfl rfl (b_neq.trans (cb e16)))) ?_
  refine wo_nil ?_
  refine nx_norm ?_
  have hq := cond_inv hr
  clear hr
  rcases hq with ⟨rfl, hr⟩ | ⟨rfl, hr⟩
  · refine w_condT rfl ?_
    refine w_seq ?_
    refine w_ops ?_
    refine wo_step (v := (.i .i64 x14)) (s_pure (p_mv rfl)) ?_
    refine wo_step (v := AVal.nsl) (s_pure (p_mv rfl)) ?_
    refine wo_step (v := (.i .i64 x14)) (s_pure (p_mv rfl)) ?_
    refine wo_nil ?_
    refine nx_norm ?_
    refine w_ret ?_
    refine nx_ret ?_
    exact qf ret_ok (rt rfl (rt rfl rn)) hr
  · refine w_condF rfl ?_
    refine w_skip ?_
    refine nx_norm ?_
    refine w_seq ?_
    refine w_seq ?_
    refine w_ops ?_
    refine wo_step (v := (.i .i64 2)) (s_pure (p_mv rfl)) ?_
    refine wo_nil ?_
    refine nx_norm ?_
    refine w_block ?_
    have hq := bindO_inv hr
    clear hr
    obtain ⟨o, hl, hr⟩ := hq
    obtain ⟨n, hl⟩ := hM.loop _ _ _ hl
    refine jp_mono (w_loop _ (g33_I0 x0 x1 v2) (g33_J0 x0 x1 v2) ?_ n _ _ _ _ hl ⟨rfl, gl rfl, gl g0, gl g1, gl g2⟩) ?_
    · clear hr hl
      intro s mm_2 t_1 o hi hr
      obtain ⟨x9, m_2⟩ := s
      obtain ⟨rfl, g9, g0, g1, g2⟩ := hi
      unfold g33_b0 at hr
      refine w_seq ?_
      refine w_seq ?_
      refine w_ops ?_
      refine wo_step (v := (.i .i64 x9)) (s_pure (p_mv g9)) ?_
      refine wo_step (v := (.i .i64 x1)) (s_pure (p_mv g1)) ?_
      have hq := forceB_inv hr
      clear hr
      obtain ⟨c20, e20, hr⟩ := hq
      refine wo_step (v := (.b c20)) (s_pure (p_bin rfl rfl (b_leq.trans (cb e20)))) ?_
      refine wo_nil ?_
      refine nx_norm ?_
      have hq := cond_inv hr
      clear hr
      rcases hq with ⟨rfl, hr⟩ | ⟨rfl, hr⟩
      · refine w_condT rfl ?_
        refine w_skip ?_
        refine nx_norm ?_
        refine w_seq ?_
        refine w_block ?_
        refine w_seq ?_
        refine w_ops ?_
        refine wo_step (v := (.i .i64 x0)) (s_pure (p_mv g0)) ?_
        refine wo_step (v := v2) (s_pure (p_mv g2)) ?_
        refine wo_step (v := (.i .i64 x9)) (s_pure (p_mv g9)) ?_
        have hq := bindP_inv hr
        clear hr
        obtain ⟨v26, m_3, e26, hr⟩ := hq
        refine wo_step (v := v26) (s_call (mc rfl (mc rfl (mc rfl (mc rfl mn)))) (callM_le hM.call e26)) ?_
        refine wo_step (v := v26) (s_pure (p_mv rfl)) ?_
        refine wo_nil ?_
        refine nx_norm ?_
        refine w_seq ?_
        refine w_ops ?_
        refine wo_step (v := v26) (s_pure (p_mv rfl)) ?_
        have hq := bindO_inv hr
        clear hr
        obtain ⟨v28, e28, hr⟩ := hq
        have hq := asB_inv hr
        clear hr
        obtain ⟨c28, rfl, hr⟩ := hq
        refine wo_step (v := (.b c28)) (s_pure (o_nilcmp rfl e28)) ?_
        refine wo_nil ?_
        refine nx_norm ?_
        have hq := cond_inv hr
        clear hr
        rcases hq with ⟨rfl, hr⟩ | ⟨rfl, hr⟩
        · refine w_condT rfl ?_
          refine w_seq ?_
          refine w_ops ?_
          refine wo_step (v := v26) (s_pure (p_mv rfl)) ?_
          refine wo_step (v := v26) (s_pure (p_mv rfl)) ?_
          refine wo_step (v := (.i .i64 0)) (s_pure (p_mv rfl)) ?_
          refine wo_nil ?_
          refine nx_norm ?_
          refine w_ret ?_
          refine bk_ret ?_
          refine nx_ret ?_
          cases hr
          exact ⟨_, _, rfl, ne_norm_ret, rfl, rfl, gl rfl, gl rfl⟩
        · refine w_condF rfl ?_
          refine w_skip ?_
          refine bk_norm ?_
          refine nx_norm ?_
          refine w_ops ?_
          refine wo_step (v := (.i .i64 x9)) (s_pure (p_mv g9)) ?_
          have hq := forceI_inv hr
          clear hr
          obtain ⟨x22, e22, hr⟩ := hq
          refine wo_step (v := (.i .i64 x22)) (s_pure (p_bin rfl rfl (b_add.trans (ci e22)))) ?_
          refine wo_step (v := (.i .i64 x22)) (s_pure (p_mv rfl)) ?_
          refine wo_nil ?_
          cases hr
          exact ⟨_, _, rfl, rfl, rfl, gl rfl, gl g0, gl g1, gl g2⟩
      · refine w_condF rfl ?_
        refine w_exit ?_
        refine nx_exit ?_
        cases hr
        exact ⟨_, _, rfl, ne_norm_exit, rfl, rfl⟩
    · rcases o with o | o
      · obtain ⟨m_4, ho⟩ : ∃ z, z = o := ⟨_, rfl⟩
        subst ho
        rintro _ mm t_2 ⟨rfl, rfl⟩
        refine bk_hit ?_
        refine nx_norm ?_
        refine w_seq ?_
        refine w_ops ?_
        refine wo_step (v := AVal.nsl) (s_pure (p_mv rfl)) ?_
        refine wo_step (v := (.i .i64 10)) (s_pure (p_mv rfl)) ?_
        refine wo_nil ?_
        refine nx_norm ?_
        refine w_ret ?_
        exact qf ret_ok (rt rfl (rt rfl rn)) hr
      · obtain ⟨v6, x7, m_5⟩ := o
        rintro _ mm_1 t_3 ⟨rfl, rfl, g6, g7⟩
        refine bk_ret ?_
        refine nx_ret ?_
        exact qf ret_ok (rt g6 (rt g7 rn)) hr

/- dibber/dibberref04.IsRing -/
abbrev g39_J0 (v0 : AVal) (v1 : AVal) (m0 : Mm) (o : Bool) (m1 : Mm) (t1 : Tr) : Prop :=
  match o with
  | c26 => m0 = m1 ∧ t1.get 26 = (.b c26) ∧ t1.get 0 = v0 ∧ t1.get 1 = v1
abbrev g39_I1 (v0 : AVal) (v1 : AVal) (s : Int × Int × AVal × Int × Int × Int × Mm) (m1 : Mm) (t1 : Tr) : Prop :=
  match s with
  | (x7, x8, v9, x10, x11, x12, m_1) => m_1 = m1 ∧ t1.get 7 = (.i .i64 x7) ∧ t1.get 8 = (.i .i64 x8) ∧ t1.get 9 = v9 ∧ t1.get 10 = (.i .i64 x10) ∧ t1.get 11 = (.i .i64 x11) ∧ t1.get 12 = (.i .i64 x12) ∧ t1.get 0 = v0 ∧ t1.get 1 = v1
abbrev g39_J1 (v0 : AVal) (v1 : AVal) (o : ((Int × Int × Int × Int × Mm) ⊕ (Int × Int × Bool × Mm))) (e : AExit) (m1 : Mm) (t1 : Tr) : Prop :=
  match o with
  | (.inl (y7, y8, y10, y11, mo)) => e = (.exit 0) ∧ mo = m1 ∧ t1.get 7 = (.i .i64 y7) ∧ t1.get 8 = (.i .i64 y8) ∧ t1.get 10 = (.i .i64 y10) ∧ t1.get 11 = (.i .i64 y11)
  | (.inr (y4, y5, y6, mo)) => e = .ret ∧ mo = m1 ∧ t1.get 4 = (.i .i64 y4) ∧ t1.get 5 = (.i .i64 y5) ∧ t1.get 6 = (.b y6)
abbrev g39_J2 (v0 : AVal) (v1 : AVal) (x7 : Int) (x8 : Int) (v9 : AVal) (x11 : Int) (x12 : Int) (x40 : Int) (x41 : Int) (x42 : Int) (x43 : Int) (m_2 : Mm) (o : Bool) (m1 : Mm) (t1 : Tr) : Prop :=
  match o with
  | c55 => m_2 = m1 ∧ t1.get 55 = (.b c55) ∧ t1.get 0 = v0 ∧ t1.get 1 = v1 ∧ t1.get 7 = (.i .i64 x7) ∧ t1.get 8 = (.i .i64 x8) ∧ t1.get 9 = v9 ∧ t1.get 11 = (.i .i64 x11) ∧ t1.get 12 = (.i .i64 x12) ∧ t1.get 13 = (.i .i64 x40) ∧ t1.get 14 = (.i .i64 x41) ∧ t1.get 15 = (.i .i64 x42) ∧ t1.get 16 = (.i .i64 x43)
abbrev g39_J3 (v0 : AVal) (v1 : AVal) (x7 : Int) (x8 : Int) (v9 : AVal) (x11 : Int) (x12 : Int) (x40 : Int) (x41 : Int) (x42 : Int) (x43 : Int) (m_2 : Mm) (o : Bool) (m1 : Mm) (t1 : Tr) : Prop :=
  match o with
  | c55_1 => m_2 = m1 ∧ t1.get 55 = (.b c55_1) ∧ t1.get 0 = v0 ∧ t1.get 1 = v1 ∧ t1.get 7 = (.i .i64 x7) ∧ t1.get 8 = (.i .i64 x8) ∧ t1.get 9 = v9 ∧ t1.get 11 = (.i .i64 x11) ∧ t1.get 12 = (.i .i64 x12) ∧ t1.get 13 = (.i .i64 x40) ∧ t1.get 14 = (.i .i64 x41) ∧ t1.get 15 = (.i .i64 x42) ∧ t1.get 16 = (.i .i64 x43)
abbrev g39_I4 (v0 : AVal) (v1 : AVal) (x7 : Int) (x8 : Int) (v9 : AVal) (x11 : Int) (x12 : Int) (x40 : Int) (x41 : Int) (x42 : Int) (x43 : Int) (m_2 : Mm) (s : Int) (m1 : Mm) (t1 : Tr) : Prop :=
  match s with
  | x18 => m_2 = m1 ∧ t1.get 18 = (.i .i64 x18) ∧ t1.get 0 = v0 ∧ t1.get 1 = v1 ∧ t1.get 7 = (.i .i64 x7) ∧ t1.get 8 = (.i .i64 x8) ∧ t1.get 9 = v9 ∧ t1.get 11 = (.i .i64 x11) ∧ t1.get 12 = (.i .i64 x12) ∧ t1.get 13 = (.i .i64 x40) ∧ t1.get 14 = (.i .i64 x41) ∧ t1.get 15 = (.i .i64 x42) ∧ t1.get 16 = (.i .i64 x43)
abbrev g39_J4 (v0 : AVal) (v1 : AVal) (x7 : Int) (x8 : Int) (v9 : AVal) (x11 : Int) (x12 : Int) (x40 : Int) (x41 : Int) (x42 : Int) (x43 : Int) (m_2 : Mm) (o : (Unit ⊕ (Int × Int × Bool))) (e : AExit) (m1 : Mm) (t1 : Tr) : Prop :=
  match o with
  | (.inl _) => e = (.exit 2) ∧ m_2 = m1 ∧ t1.get 0 = v0 ∧ t1.get 1 = v1 ∧ t1.get 7 = (.i .i64 x7) ∧ t1.get 8 = (.i .i64 x8) ∧ t1.get 9 = v9 ∧ t1.get 11 = (.i .i64 x11) ∧ t1.get 12 = (.i .i64 x12) ∧ t1.get 13 = (.i .i64 x40) ∧ t1.get 14 = (.i .i64 x41) ∧ t1.get 15 = (.i .i64 x42) ∧ t1.get 16 = (.i .i64 x43)
  | (.inr (y4, y5, y6)) => e = .ret ∧ m_2 = m1 ∧ t1.get 4 = (.i .i64 y4) ∧ t1.get 5 = (.i .i64 y5) ∧ t1.get 6 = (.b y6)
def g39_b4 (M : Means) (ro : List ABlk) (v0 : AVal) (v1 : AVal) (x7 : Int) (x8 : Int) (v9 : AVal) (x11 : Int) (x12 : Int) (x40 : Int) (x41 : Int) (x42 : Int) (x43 : Int) (m_2 : Mm) (x18 : Int) : Option ((Int) ⊕ ((Unit ⊕ (Int × Int × Bool)))) :=
  bindO (evP .e (.len false (.c v9))) fun v58 =>
  asI .i64 v58 fun x58 =>
  forceB (ltI x18 x58) fun c59 =>
  cond c59 (
    bindO (evP .e (.ixS 1 (.c v9) (.c (.i .i64 x18)))) fun v64 =>
    bindO (ldM ro m_2 true 1 v64) fun v65 =>
    asI .i64 v65 fun x65 =>
    forceB (eqI x65 x40) fun c67 =>
    cond c67 (
      some (.inr (.inr (0, 0, false)))) (
      forceI (wr .i64 (x18 + 1)) fun x61 =>
      some (.inl x61))) (
    some (.inr (.inl ())))
abbrev g39_J5 (v0 : AVal) (v1 : AVal) (x7 : Int) (x8 : Int) (v9 : AVal) (x12 : Int) (x40 : Int) (x41 : Int) (x42 : Int) (x43 : Int) (m_2 : Mm) (o : Int) (e : AExit) (m1 : Mm) (t1 : Tr) : Prop :=
  match o with
  | y11 => e = .norm ∧ m_2 = m1 ∧ t1.get 11 = (.i .i64 y11) ∧ t1.get 0 = v0 ∧ t1.get 1 = v1 ∧ t1.get 7 = (.i .i64 x7) ∧ t1.get 8 = (.i .i64 x8) ∧ t1.get 9 = v9 ∧ t1.get 12 = (.i .i64 x12) ∧ t1.get 13 = (.i .i64 x40) ∧ t1.get 14 = (.i .i64 x41) ∧ t1.get 15 = (.i .i64 x42) ∧ t1.get 16 = (.i .i64 x43)
def g39_b1 (M : Means) (ro : List ABlk) (v0 : AVal) (v1 : AVal) (x7 : Int) (x8 : Int) (v9 : AVal) (x10 : Int) (x11 : Int) (x12 : Int) (m_1 : Mm) : Option ((Int × Int × AVal × Int × Int × Int × Mm) ⊕ (((Int × Int × Int × Int × Mm) ⊕ (Int × Int × Bool × Mm)))) :=
  bindO (evP .e (.len false (.c v1))) fun v29 =>
  asI .i64 v29 fun x29 =>
  forceB (ltI x12 x29) fun c30 =>
  cond c30 (
    bindO (evP .e (.ixS 1 (.c v1) (.c (.i .i64 x12)))) fun v37 =>
    bindO (ldM ro m_1 true 1 v37) fun v38 =>
    asI .i64 v38 fun x38 =>
    bindP (callM M.call m_1 59 [v0, (.i .i64 x38)]) fun v39 m_2 =>
    bindO (evP .e (.ext 0 (.c v39))) fun v40 =>
    asI .i64 v40 fun x40 =>
    bindO (evP .e (.ext 1 (.c v39))) fun v41 =>
    asI .i64 v41 fun x41 =>
    bindO (evP .e (.ext 2 (.c v39))) fun v42 =>
    asI .i64 v42 fun x42 =>
    bindO (evP .e (.ext 3 (.c v39))) fun v43 =>
    asI .i64 v43 fun x43 =>
    bindO (evP .e (.ext 4 (.c v39))) fun v44 =>
    asB v44 fun c44 =>
    forceB (!c44) fun c46 =>
    bindO (cond c46 (
      some true) (
      forceB (ltI 0 x12) fun c49 =>
      bindO (cond c49 (
        forceB (!eqI x40 x10) fun c53 =>
        some c53) (
        some false)) fun c55_1 =>
      some c55_1)) fun c55 =>
    cond c55 (
      some (.inr (.inr (0, 0, false, m_2)))) (
      bindO (M.loop (S := Int) (R := (Unit ⊕ (Int × Int × Bool))) (fun s => g39_b4 M ro v0 v1 x7 x8 v9 x11 x12 x40 x41 x42 x43 m_2 s) 0) fun o_3 => match o_3 with
      | (.inl _) =>
        forceB (eqI x12 0) fun c69 =>
        bindO (α := Int) (
          cond c69 (
            some x40) (
            some x11)) fun x11_1 =>
        bindP (stepM ro m_2 (.bsl 3 1 [(AVal.i IntKind.i64 0)] 1 [((0, 1), .c (.i .i64 x40))])) fun v73 m_3 =>
        bindP (stepM ro m_3 (.app 3 1 8 [(AVal.i IntKind.i64 0)] (.c v9) (.c v73))) fun v74 m_4 =>
        forceI (wr .i64 (x7 + x42)) fun x78 =>
        forceI (wr .i64 (x8 + x43)) fun x81 =>
        forceI (wr .i64 (x12 + 1)) fun x32 =>
        some (.inl (x78, x81, v74, x41, x11_1, x32, m_4))
      | (.inr (x4, x5, c6)) =>
        some (.inr (.inr (x4, x5, c6, m_2))))) (
    some (.inr (.inl (x7, x8, x10, x11, m_1))))
def g39 (M : Means) (ro : List ABlk) (v0 : AVal) (v1 : AVal) (m0 : Mm) : Option (AVal × Heap × Nat × Nat) :=
  bindO (evP .e (.len false (.c v1))) fun v20 =>
  asI .i64 v20 fun x20 =>
  forceB (ltI x20 2) fun c21 =>
  bindO (cond c21 (
    some true) (
    bindO (evP .e (.len false (.c v1))) fun v24 =>
    asI .i64 v24 fun x24 =>
    forceB (ltI 6 x24) fun c25 =>
    some c25)) fun c26 =>
  cond c26 (
    finM m0.h.length (tupA [(.i .i64 0), (.i .i64 0), (.b false)]) m0) (
    bindO (M.loop (S := Int × Int × AVal × Int × Int × Int × Mm) (R := ((Int × Int × Int × Int × Mm) ⊕ (Int × Int × Bool × Mm))) (fun s => g39_b1 M ro v0 v1 s.1 s.2.1 s.2.2.1 s.2.2.2.1 s.2.2.2.2.1 s.2.2.2.2.2.1 s.2.2.2.2.2.2) (0, 0, AVal.nsl, 0, 0, 0, m0)) fun o_5 => match o_5 with
    | (.inl (x7_1, x8_1, x10_1, x11_2, m_5)) =>
      forceB (eqI x10_1 x11_2) fun c86 =>
      finM m0.h.length (tupA [(.i .i64 x7_1), (.i .i64 x8_1), (.b c86)]) m_5
    | (.inr (x4_1, x5_1, c6_1, m_6)) =>
      finM m0.h.length (tupA [(.i .i64 x4_1), (.i .i64 x5_1), (.b c6_1)]) m_6)

theorem g39_ok {ro : List ABlk} {O : Caller} {M : Means} (hM : M.Ok ⟨F, O⟩ ro) {v0 v1 h r} (ho : O 39 [v0, v1] h = none) (hr : g39 M ro v0 v1 ⟨h, h.length, h.length⟩ = some r) : callX ⟨F, O⟩ ro 39 [v0, v1] h = some r := by
  refine callX_of (F := ⟨F, O⟩) (fn := fn39) (g := g39 M ro v0 v1) ho rfl rfl hr ?_
  clear ho
  clear hr
  intro m0 t0 ht hr
  have g0 : t0.get 0 = v0 := ht 0
  have g1 : t0.get 1 = v1 := ht 1
  clear ht
  unfold g39 at hr
  refine w_seq ?_
  refine w_ops ?_
  refine wo_step (v := (.i .i64 0)) (s_pure (p_mv rfl)) ?_
  refine wo_step (v := (.i .i64 0)) (s_pure (p_mv rfl)) ?_
  refine wo_step (v := (.b false)) (s_pure (p_mv rfl)) ?_
  refine wo_nil ?_
  refine nx_norm ?_
  refine w_seq ?_
  refine w_seq ?_
  refine w_ops ?_
  refine wo_step (v := v1) (s_pure (p_mv g1)) ?_
  have hq := bindO_inv hr
  clear hr
  obtain ⟨v20, e20, hr⟩ := hq
  have hq := asI_inv hr
  clear hr
  obtain ⟨x20, rfl, hr⟩ := hq
  refine wo_step (v := (.i .i64 x20)) (s_pure (o_len rfl e20)) ?_
  have hq := forceB_inv hr
  clear hr
  obtain ⟨c21, e21, hr⟩ := hq
  refine wo_step (v := (.b c21)) (s_pure (p_bin rfl rfl (b_lss.trans (cb e21)))) ?_
  refine wo_step (v := (.b c21)) (s_pure (p_mv rfl)) ?_
  have hq := bindO_inv hr
  clear hr
  obtain ⟨o, hr, hk⟩ := hq
  refine wo_join 4 (g39_J0 v0 v1 m0 o) ?_ ?_
  · clear hk
    have hq := cond_inv hr
    clear hr
    rcases hq with ⟨rfl, hr⟩ | ⟨rfl, hr⟩
    · refine wo_skip (v := (.b true)) rfl rfl ?_
      refine wo_skip (v := (.b true)) rfl rfl ?_
      refine wo_skip (v := (.b true)) rfl rfl ?_
      refine wo_step (v := (.b true)) (s_pure (p_pickT rfl rfl)) ?_
      refine wo_nil ?_
      cases hr
      exact ⟨_, _, rfl, rfl, gl rfl, gl g0, gl g1⟩
    · refine wo_take (v := v1) rfl (s_pure (p_mv g1)) ?_
      have hq := bindO_inv hr
      clear hr
      obtain ⟨v24, e24, hr⟩ := hq
      have hq := asI_inv hr
      clear hr
      obtain ⟨x24, rfl, hr⟩ := hq
      refine wo_take (v := (.i .i64 x24)) rfl (s_pure (o_len rfl e24)) ?_
      have hq := forceB_inv hr
      clear hr
      obtain ⟨c25, e25, hr⟩ := hq
      refine wo_take (v := (.b c25)) rfl (s_pure (p_bin rfl rfl (b_gtr.trans (cb e25)))) ?_
      refine wo_step (v := (.b c25)) (s_pure (p_pickF rfl rfl)) ?_
      refine wo_nil ?_
      cases hr
      exact ⟨_, _, rfl, rfl, gl rfl, gl g0, gl g1⟩
  · clear hr
    have hr := hk
    clear hk
    obtain ⟨c26, ho⟩ : ∃ z, z = o := ⟨_, rfl⟩
    subst ho
    rintro mm t_1 ⟨rfl, g26, g0, g1⟩
    refine wo_nil ?_
    refine nx_norm ?_
    have hq := cond_inv hr
    clear hr
    rcases hq with ⟨rfl, hr⟩ | ⟨rfl, hr⟩
    · refine w_condT g26 ?_
      refine w_seq ?_
      refine w_ops ?_
      refine wo_step (v := (.i .i64 0)) (s_pure (p_mv rfl)) ?_
      refine wo_step (v := (.i .i64 0)) (s_pure (p_mv rfl)) ?_
      refine wo_step (v := (.b false)) (s_pure (p_mv rfl)) ?_
      refine wo_nil ?_
      refine nx_norm ?_
      refine w_ret ?_
      refine nx_ret ?_
      exact qf ret_ok (rt rfl (rt rfl (rt rfl rn))) hr
    · refine w_condF g26 ?_
      refine w_skip ?_
      refine nx_norm ?_
      refine w_seq ?_
      refine w_ops ?_
      refine wo_step (v := (.i .i64 0)) (s_pure (p_mv rfl)) ?_
      refine wo_step (v := (.i .i64 0)) (s_pure (p_mv rfl)) ?_
      refine wo_nil ?_
      refine nx_norm ?_
      refine w_seq ?_
      refine w_ops ?_
      refine wo_step (v := AVal.nsl) (s_pure (p_mv rfl)) ?_
      refine wo_nil ?_
      refine nx_norm ?_
      refine w_seq ?_
      refine w_ops ?_
      refine wo_step (v := (.i .i64 0)) (s_pure (p_mv rfl)) ?_
      refine wo_step (v := (.i .i64 0)) (s_pure (p_mv rfl)) ?_
      refine wo_nil ?_
      refine nx_norm ?_
      refine w_seq ?_
      refine w_seq ?_
      refine w_ops ?_
      refine wo_step (v := (.i .i64 0)) (s_pure (p_mv rfl)) ?_
      refine wo_nil ?_
      refine nx_norm ?_
      refine w_block ?_
      have hq := bindO_inv hr
      clear hr
      obtain ⟨o_5, hl_1, hr⟩ := hq
      obtain ⟨n_1, hl_1⟩ := hM.loop _ _ _ hl_1
      refine jp_mono (w_loop _ (g39_I1 v0 v1) (g39_J1 v0 v1) ?_ n_1 _ _ _ _ hl_1 ⟨rfl, gl rfl, gl rfl, gl rfl, gl rfl, gl rfl, gl rfl, gl g0, gl g1⟩) ?_
      · clear hr hl_1
        intro s mm_9 t_2 o hi hr
        obtain ⟨x7, x8, v9, x10, x11, x12, m_1⟩ := s
        obtain ⟨rfl, g7, g8, g9, g10, g11, g12, g0, g1⟩ := hi
        unfold g39_b1 at hr
        refine w_seq ?_
        refine w_seq ?_
        refine w_ops ?_
        refine wo_step (v := (.i .i64 x12)) (s_pure (p_mv g12)) ?_
        refine wo_step (v := v1) (s_pure (p_mv g1)) ?_
        have hq := bindO_inv hr
        clear hr
        obtain ⟨v29, e29, hr⟩ := hq
        have hq := asI_inv hr
        clear hr
        obtain ⟨x29, rfl, hr⟩ := hq
        refine wo_step (v := (.i .i64 x29)) (s_pure (o_len rfl e29)) ?_
        have hq := forceB_inv hr
        clear hr
        obtain ⟨c30, e30, hr⟩ := hq
        refine wo_step (v := (.b c30)) (s_pure (p_bin rfl rfl (b_lss.trans (cb e30)))) ?_
        refine wo_nil ?_
        refine nx_norm ?_
        have hq := cond_inv hr
        clear hr
        rcases hq with ⟨rfl, hr⟩ | ⟨rfl, hr⟩
        · refine w_condT rfl ?_
          refine w_skip ?_
          refine nx_norm ?_
          refine w_seq ?_
          refine w_block ?_
          refine w_seq ?_
          refine w_ops ?_
          refine wo_step (v := v0) (s_pure (p_mv g0)) ?_
          refine wo_step (v := v1) (s_pure (p_mv g1)) ?_
          refine wo_step (v := (.i .i64 x12)) (s_pure (p_mv g12)) ?_
          have hq := bindO_inv hr
          clear hr
          obtain ⟨v37, e37, hr⟩ := hq
          refine wo_step (v := v37) (s_pure (o_ixS rfl rfl e37)) ?_
          have hq := bindO_inv hr
          clear hr
          obtain ⟨v38, e38, hr⟩ := hq
          have hq := asI_inv hr
          clear hr
          obtain ⟨x38, rfl, hr⟩ := hq
          refine wo_step (v := (.i .i64 x38)) (s_ld rfl e38) ?_
          have hq := bindP_inv hr
          clear hr
          obtain ⟨v39, m_2, e39, hr⟩ := hq
          refine wo_step (v := v39) (s_call (mc rfl (mc rfl mn)) (callM_le hM.call e39)) ?_
          refine wo_step (v := v39) (s_pure (p_mv rfl)) ?_
          have hq := bindO_inv hr
          clear hr
          obtain ⟨v40, e40, hr⟩ := hq
          have hq := asI_inv hr
          clear hr
          obtain ⟨x40, rfl, hr⟩ := hq
          refine wo_step (v := (.i .i64 x40)) (s_pure (o_ext rfl e40)) ?_
          have hq := bindO_inv hr
          clear hr
          obtain ⟨v41, e41, hr⟩ := hq
          have hq := asI_inv hr
          clear hr
          obtain ⟨x41, rfl, hr⟩ := hq
          refine wo_step (v := (.i .i64 x41)) (s_pure (o_ext rfl e41)) ?_
          have hq := bindO_inv hr
          clear hr
          obtain ⟨v42, e42, hr⟩ := hq
          have hq := asI_inv hr
          clear hr
          obtain ⟨x42, rfl, hr⟩ := hq
          refine wo_step (v := (.i .i64 x42)) (s_pure (o_ext rfl e42)) ?_
          have hq := bindO_inv hr
          clear hr
          obtain ⟨v43, e43, hr⟩ := hq
          have hq := asI_inv hr
          clear hr
          obtain ⟨x43, rfl, hr⟩ := hq
          refine wo_step (v := (.i .i64 x43)) (s_pure (o_ext rfl e43)) ?_
          have hq := bindO_inv hr
          clear hr
          obtain ⟨v44, e44, hr⟩ := hq
          have hq := asB_inv hr
          clear hr
          obtain ⟨c44, rfl, hr⟩ := hq
          refine wo_step (v := (.b c44)) (s_pure (o_ext rfl e44)) ?_
          refine wo_step (v := (.i .i64 x40)) (s_pure (p_mv rfl)) ?_
          refine wo_step (v := (.i .i64 x41)) (s_pure (p_mv rfl)) ?_
          refine wo_step (v := (.i .i64 x42)) (s_pure (p_mv rfl)) ?_
          refine wo_step (v := (.i .i64 x43)) (s_pure (p_mv rfl)) ?_
          refine wo_step (v := (.b c44)) (s_pure (p_mv rfl)) ?_
          refine wo_nil ?_
          refine nx_norm ?_
          refine w_seq ?_
          refine w_seq ?_
          refine w_ops ?_
          refine wo_step (v := (.b c44)) (s_pure (p_mv rfl)) ?_
          have hq := forceB_inv hr
          clear hr
          obtain ⟨c46, e46, hr⟩ := hq
          refine wo_step (v := (.b c46)) (s_pure ((p_not rfl).trans (cb e46))) ?_
          refine wo_step (v := (.b c46)) (s_pure (p_mv rfl)) ?_
          have hq := bindO_inv hr
          clear hr
          obtain ⟨o_1, hr, hk⟩ := hq
          refine wo_join 8 (g39_J2 v0 v1 x7 x8 v9 x11 x12 x40 x41 x42 x43 m_2 o_1) ?_ ?_
          · clear hk
            have hq := cond_inv hr
            clear hr
            rcases hq with ⟨rfl, hr⟩ | ⟨rfl, hr⟩
            · refine wo_skip (v := (.b true)) rfl rfl ?_
              refine wo_skip (v := (.b true)) rfl rfl ?_
              refine wo_skip (v := (.b true)) rfl rfl ?_
              refine wo_skip (v := und) rfl rfl ?_
              refine wo_skip (v := und) rfl rfl ?_
              refine wo_skip (v := und) rfl rfl ?_
              refine wo_skip (v := (.b true)) rfl rfl ?_
              refine wo_step (v := (.b true)) (s_pure (p_pickT rfl rfl)) ?_
              refine wo_nil ?_
              cases hr
              exact ⟨_, _, rfl, rfl, gl rfl, gl g0, gl g1, gl g7, gl g8, gl g9, gl g11, gl g12, gl rfl, gl rfl, gl rfl, gl rfl⟩
            · refine wo_take (v := (.i .i64 x12)) rfl (s_pure (p_mv g12)) ?_
              have hq := forceB_inv hr
              clear hr
              obtain ⟨c49, e49, hr⟩ := hq
              refine wo_take (v := (.b c49)) rfl (s_pure (p_bin rfl rfl (b_gtr.trans (cb e49)))) ?_
              refine wo_take (v := (.b c49)) rfl (s_pure (p_mv rfl)) ?_
              have hq := bindO_inv hr
              clear hr
              obtain ⟨o_2, hr, hk⟩ := hq
              refine wo_join 5 (g39_J3 v0 v1 x7 x8 v9 x11 x12 x40 x41 x42 x43 m_2 o_2) ?_ ?_
              · clear hk
                have hq := cond_inv hr
                clear hr
                rcases hq with ⟨rfl, hr⟩ | ⟨rfl, hr⟩
                · refine wo_take (v := (.i .i64 x40)) rfl (s_pure (p_mv rfl)) ?_
                  refine wo_take (v := (.i .i64 x10)) rfl (s_pure (p_mv g10)) ?_
                  have hq := forceB_inv hr
                  clear hr
                  obtain ⟨c53, e53, hr⟩ := hq
                  refine wo_take (v := (.b c53)) rfl (s_pure (p_bin rfl rfl (b_neq.trans (cb e53)))) ?_
                  refine wo_take (v := (.b c53)) rfl (s_pure (p_pickT rfl rfl)) ?_
                  refine wo_step (v := (.b c53)) (s_pure (p_pickF rfl rfl)) ?_
                  refine wo_nil ?_
                  cases hr
                  exact ⟨_, _, rfl, rfl, gl rfl, gl g0, gl g1, gl g7, gl g8, gl g9, gl g11, gl g12, gl rfl, gl rfl, gl rfl, gl rfl⟩
                · refine wo_skip (v := (.b false)) rfl rfl ?_
                  refine wo_skip (v := (.b false)) rfl rfl ?_
                  refine wo_skip (v := (.b false)) rfl rfl ?_
                  refine wo_take (v := (.b false)) rfl (s_pure (p_pickF rfl rfl)) ?_
                  refine wo_step (v := (.b false)) (s_pure (p_pickF rfl rfl)) ?_
                  refine wo_nil ?_
                  cases hr
                  exact ⟨_, _, rfl, rfl, gl rfl, gl g0, gl g1, gl g7, gl g8, gl g9, gl g11, gl g12, gl rfl, gl rfl, gl rfl, gl rfl⟩
              · clear hr
                have hr := hk
                clear hk
                obtain ⟨c55_1, ho⟩ : ∃ z, z = o_2 := ⟨_, rfl⟩
                subst ho
                rintro mm_1 t_3 ⟨rfl, g55, g0, g1, g7, g8, g9, g11, g12, g13, g14, g15, g16⟩
                refine wo_nil ?_
                cases hr
                exact ⟨_, _, rfl, rfl, gl g55, gl g0, gl g1, gl g7, gl g8, gl g9, gl g11, gl g12, gl g13, gl g14, gl g15, gl g16⟩
          · clear hr
            have hr := hk
            clear hk
            obtain ⟨c55, ho⟩ : ∃ z, z = o_1 := ⟨_, rfl⟩
            subst ho
            rintro mm_2 t_4 ⟨rfl, g55, g0, g1, g7, g8, g9, g11, g12, g13, g14, g15, g16⟩
            refine wo_nil ?_
            refine nx_norm ?_
            have hq := cond_inv hr
            clear hr
            rcases hq with ⟨rfl, hr⟩ | ⟨rfl, hr⟩
            · refine w_condT g55 ?_
              refine w_seq ?_
              refine w_ops ?_
              refine wo_step (v := (.i .i64 0)) (s_pure (p_mv rfl)) ?_
              refine wo_step (v := (.i .i64 0)) (s_pure (p_mv rfl)) ?_
              refine wo_step (v := (.b false)) (s_pure (p_mv rfl)) ?_
              refine wo_nil ?_
              refine nx_norm ?_
              refine w_ret ?_
              refine nx_ret ?_
              refine bk_ret ?_
              refine nx_ret ?_
              cases hr
              exact ⟨_, _, rfl, ne_norm_ret, rfl, rfl, gl rfl, gl rfl, gl rfl⟩
            · refine w_condF g55 ?_
              refine w_skip ?_
              refine nx_norm ?_
              refine w_seq ?_
              refine w_seq ?_
              refine w_ops ?_
              refine wo_step (v := (.i .i64 0)) (s_pure (p_mv rfl)) ?_
              refine wo_nil ?_
              refine nx_norm ?_
              refine w_block ?_
              have hq := bindO_inv hr
              clear hr
              obtain ⟨o_3, hl, hr⟩ := hq
              obtain ⟨n, hl⟩ := hM.loop _ _ _ hl
              refine jp_mono (w_loop _ (g39_I4 v0 v1 x7 x8 v9 x11 x12 x40 x41 x42 x43 m_2) (g39_J4 v0 v1 x7 x8 v9 x11 x12 x40 x41 x42 x43 m_2) ?_ n _ _ _ _ hl ⟨rfl, gl rfl, gl g0, gl g1, gl g7, gl g8, gl g9, gl g11, gl g12, gl g13, gl g14, gl g15, gl g16⟩) ?_
              · clear hr hl
                intro s mm_6 t_5 o hi hr
                obtain ⟨x18, hs⟩ : ∃ z, z = s := ⟨_, rfl⟩
                subst hs
                obtain ⟨rfl, g18, g0, g1, g7, g8, g9, g11, g12, g13, g14, g15, g16⟩ := hi
                unfold g39_b4 at hr
                refine w_seq ?_
                refine w_seq ?_
                refine w_ops ?_
                refine wo_step (v := (.i .i64 x18)) (s_pure (p_mv g18)) ?_
                refine wo_step (v := v9) (s_pure (p_mv g9)) ?_
                have hq := bindO_inv hr
                clear hr
                obtain ⟨v58, e58, hr⟩ := hq
                have hq := asI_inv hr
                clear hr
                obtain ⟨x58, rfl, hr⟩ := hq
                refine wo_step (v := (.i .i64 x58)) (s_pure (o_len rfl e58)) ?_
                have hq := forceB_inv hr
                clear hr
                obtain ⟨c59, e59, hr⟩ := hq
                refine wo_step (v := (.b c59)) (s_pure (p_bin rfl rfl (b_lss.trans (cb e59)))) ?_
                refine wo_nil ?_
                refine nx_norm ?_
                have hq := cond_inv hr
                clear hr
                rcases hq with ⟨rfl, hr⟩ | ⟨rfl, hr⟩
                · refine w_condT rfl ?_
                  refine w_skip ?_
                  refine nx_norm ?_
                  refine w_seq ?_
                  refine w_block ?_
                  refine w_seq ?_
                  refine w_ops ?_
                  refine wo_step (v := v9) (s_pure (p_mv g9)) ?_
                  refine wo_step (v := (.i .i64 x18)) (s_pure (p_mv g18)) ?_
                  have hq := bindO_inv hr
                  clear hr
                  obtain ⟨v64, e64, hr⟩ := hq
                  refine wo_step (v := v64) (s_pure (o_ixS rfl rfl e64)) ?_
                  have hq := bindO_inv hr
                  clear hr
                  obtain ⟨v65, e65, hr⟩ := hq
                  have hq := asI_inv hr
                  clear hr
                  obtain ⟨x65, rfl, hr⟩ := hq
                  refine wo_step (v := (.i .i64 x65)) (s_ld rfl e65) ?_
                  refine wo_step (v := (.i .i64 x40)) (s_pure (p_mv g13)) ?_
                  have hq := forceB_inv hr
                  clear hr
                  obtain ⟨c67, e67, hr⟩ := hq
                  refine wo_step (v := (.b c67)) (s_pure (p_bin rfl rfl (b_eql.trans (cb e67)))) ?_
                  refine wo_nil ?_
                  refine nx_norm ?_
                  have hq := cond_inv hr
                  clear hr
                  rcases hq with ⟨rfl, hr⟩ | ⟨rfl, hr⟩
                  · refine w_condT rfl ?_
                    refine w_seq ?_
                    refine w_ops ?_
                    refine wo_step (v := (.i .i64 0)) (s_pure (p_mv rfl)) ?_
                    refine wo_step (v := (.i .i64 0)) (s_pure (p_mv rfl)) ?_
                    refine wo_step (v := (.b false)) (s_pure (p_mv rfl)) ?_
                    refine wo_nil ?_
                    refine nx_norm ?_
                    refine w_ret ?_
                    refine bk_ret ?_
                    refine nx_ret ?_
                    cases hr
                    exact ⟨_, _, rfl, ne_norm_ret, rfl, rfl, gl rfl, gl rfl, gl rfl⟩
                  · refine w_condF rfl ?_
                    refine w_skip ?_
                    refine bk_norm ?_
                    refine nx_norm ?_
                    refine w_ops ?_
                    refine wo_step (v := (.i .i64 x18)) (s_pure (p_mv g18)) ?_
                    have hq := forceI_inv hr
                    clear hr
                    obtain ⟨x61, e61, hr⟩ := hq
                    refine wo_step (v := (.i .i64 x61)) (s_pure (p_bin rfl rfl (b_add.trans (ci e61)))) ?_
                    refine wo_step (v := (.i .i64 x61)) (s_pure (p_mv rfl)) ?_
                    refine wo_nil ?_
                    cases hr
                    exact ⟨_, _, rfl, rfl, rfl, gl rfl, gl g0, gl g1, gl g7, gl g8, gl g9, gl g11, gl g12, gl g13, gl g14, gl g15, gl g16⟩
                · refine w_condF rfl ?_
                  refine w_exit ?_
                  refine nx_exit ?_
                  cases hr
                  exact ⟨_, _, rfl, ne_norm_exit, rfl, rfl, gl g0, gl g1, gl g7, gl g8, gl g9, gl g11, gl g12, gl g13, gl g14, gl g15, gl g16⟩
              · rcases o_3 with o_3 | o_3
                · rintro _ mm_4 t_6 ⟨rfl, rfl, g0, g1, g7, g8, g9, g11, g12, g13, g14, g15, g16⟩
                  refine bk_hit ?_
                  refine nx_norm ?_
                  refine w_seq ?_
                  refine w_seq ?_
                  refine w_ops ?_
                  refine wo_step (v := (.i .i64 x12)) (s_pure (p_mv g12)) ?_
                  have hq := forceB_inv hr
                  clear hr
                  obtain ⟨c69, e69, hr⟩ := hq
                  refine wo_step (v := (.b c69)) (s_pure (p_bin rfl rfl (b_eql.trans (cb e69)))) ?_
                  refine wo_nil ?_
                  refine nx_norm ?_
                  have hq := bindO_inv hr
                  clear hr
                  obtain ⟨o_4, hr, hk⟩ := hq
                  refine jp_mono (J := g39_J5 v0 v1 x7 x8 v9 x12 x40 x41 x42 x43 m_2 o_4) ?_ ?_
                  · clear hk
                    have hq := cond_inv hr
                    clear hr
                    rcases hq with ⟨rfl, hr⟩ | ⟨rfl, hr⟩
                    · refine w_condT rfl ?_
                      refine w_ops ?_
                      refine wo_step (v := (.i .i64 x40)) (s_pure (p_mv g13)) ?_
                      refine wo_step (v := (.i .i64 x40)) (s_pure (p_mv rfl)) ?_
                      refine wo_nil ?_
                      cases hr
                      exact ⟨_, _, rfl, rfl, rfl, gl rfl, gl g0, gl g1, gl g7, gl g8, gl g9, gl g12, gl g13, gl g14, gl g15, gl g16⟩
                    · refine w_condF rfl ?_
                      refine w_skip ?_
                      cases hr
                      exact ⟨_, _, rfl, rfl, rfl, gl g11, gl g0, gl g1, gl g7, gl g8, gl g9, gl g12, gl g13, gl g14, gl g15, gl g16⟩
                  · have hr := hk
                    clear hk
                    obtain ⟨x11_1, ho⟩ : ∃ z, z = o_4 := ⟨_, rfl⟩
                    subst ho
                    rintro _ mm_3 t_7 ⟨rfl, rfl, g11, g0, g1, g7, g8, g9, g12, g13, g14, g15, g16⟩
                    refine nx_norm ?_
                    refine w_seq ?_
                    refine w_ops ?_
                    refine wo_step (v := v9) (s_pure (p_mv g9)) ?_
                    refine wo_step (v := (.i .i64 x40)) (s_pure (p_mv g13)) ?_
                    have hq := bindP_inv hr
                    clear hr
                    obtain ⟨v73, m_3, e73, hr⟩ := hq
                    refine wo_step (v := v73) (s_bsl (qc rfl qn) e73) ?_
                    have hq := bindP_inv hr
                    clear hr
                    obtain ⟨v74, m_4, e74, hr⟩ := hq
                    refine wo_step (v := v74) (s_app rfl rfl e74) ?_
                    refine wo_step (v := v74) (s_pure (p_mv rfl)) ?_
                    refine wo_nil ?_
                    refine nx_norm ?_
                    refine w_seq ?_
                    refine w_ops ?_
                    refine wo_step (v := (.i .i64 x41)) (s_pure (p_mv g14)) ?_
                    refine wo_step (v := (.i .i64 x41)) (s_pure (p_mv rfl)) ?_
                    refine wo_nil ?_
                    refine nx_norm ?_
                    refine w_seq ?_
                    refine w_ops ?_
                    refine wo_step (v := (.i .i64 x7)) (s_pure (p_mv g7)) ?_
                    refine wo_step (v := (.i .i64 x42)) (s_pure (p_mv g15)) ?_
                    have hq := forceI_inv hr
                    clear hr
                    obtain ⟨x78, e78, hr⟩ := hq
                    refine wo_step (v := (.i .i64 x78)) (s_pure (p_bin rfl rfl (b_add.trans (ci e78)))) ?_
                    refine wo_step (v := (.i .i64 x78)) (s_pure (p_mv rfl)) ?_
                    refine wo_nil ?_
                    refine nx_norm ?_
                    refine w_ops ?_
                    refine wo_step (v := (.i .i64 x8)) (s_pure (p_mv g8)) ?_
                    refine wo_step (v := (.i .i64 x43)) (s_pure (p_mv g16)) ?_
                    have hq := forceI_inv hr
                    clear hr
                    obtain ⟨x81, e81, hr⟩ := hq
                    refine wo_step (v := (.i .i64 x81)) (s_pure (p_bin rfl rfl (b_add.trans (ci e81)))) ?_
                    refine wo_step (v := (.i .i64 x81)) (s_pure (p_mv rfl)) ?_
                    refine wo_nil ?_
                    refine bk_norm ?_
                    refine nx_norm ?_
                    refine w_ops ?_
                    refine wo_step (v := (.i .i64 x12)) (s_pure (p_mv g12)) ?_
                    have hq := forceI_inv hr
                    clear hr
                    obtain ⟨x32, e32, hr⟩ := hq
                    refine wo_step (v := (.i .i64 x32)) (s_pure (p_bin rfl rfl (b_add.trans (ci e32)))) ?_
                    refine wo_step (v := (.i .i64 x32)) (s_pure (p_mv rfl)) ?_
                    refine wo_nil ?_
                    cases hr
                    exact ⟨_, _, rfl, rfl, rfl, gl rfl, gl rfl, gl rfl, gl rfl, gl g11, gl rfl, gl g0, gl g1⟩
                · obtain ⟨x4, x5, c6⟩ := o_3
                  rintro _ mm_5 t_8 ⟨rfl, rfl, g4, g5, g6⟩
                  refine bk_ret ?_
                  refine nx_ret ?_
                  refine bk_ret ?_
                  refine nx_ret ?_
                  cases hr
                  exact ⟨_, _, rfl, ne_norm_ret, rfl, rfl, gl g4, gl g5, gl g6⟩
        · refine w_condF rfl ?_
          refine w_exit ?_
          refine nx_exit ?_
          cases hr
          exact ⟨_, _, rfl, ne_norm_exit, rfl, rfl, gl g7, gl g8, gl g10, gl g11⟩
      · rcases o_5 with o_5 | o_5
        · obtain ⟨x7_1, x8_1, x10_1, x11_2, m_5⟩ := o_5
          rintro _ mm_7 t_9 ⟨rfl, rfl, g7, g8, g10, g11⟩
          refine bk_hit ?_
          refine nx_norm ?_
          refine w_seq ?_
          refine w_ops ?_
          refine wo_step (v := (.i .i64 x7_1)) (s_pure (p_mv g7)) ?_
          refine wo_step (v := (.i .i64 x8_1)) (s_pure (p_mv g8)) ?_
          refine wo_step (v := (.i .i64 x10_1)) (s_pure (p_mv g10)) ?_
          refine wo_step (v := (.i .i64 x11_2)) (s_pure (p_mv g11)) ?_
          have hq := forceB_inv hr
          clear hr
          obtain ⟨c86, e86, hr⟩ := hq
          refine wo_step (v := (.b c86)) (s_pure (p_bin rfl rfl (b_eql.trans (cb e86)))) ?_
          refine wo_step (v := (.i .i64 x7_1)) (s_pure (p_mv rfl)) ?_
          refine wo_step (v := (.i .i64 x8_1)) (s_pure (p_mv rfl)) ?_
          refine wo_step (v := (.b c86)) (s_pure (p_mv rfl)) ?_
          refine wo_nil ?_
          refine nx_norm ?_
          refine w_ret ?_
          exact qf ret_ok (rt rfl (rt rfl (rt rfl rn))) hr
        · obtain ⟨x4_1, x5_1, c6_1, m_6⟩ := o_5
          rintro _ mm_8 t_10 ⟨rfl, rfl, g4, g5, g6⟩
          refine bk_ret ?_
          refine nx_ret ?_
          exact qf ret_ok (rt g4 (rt g5 (rt g6 rn))) hr

/- dibber/turn.read -/
abbrev g43_J0 (x0 : Int) (x1 : Int) (v2 : AVal) (v6 : AVal) (m_1 : Mm) (o : Bool) (m1 : Mm) (t1 : Tr) : Prop :=
  match o with
  | c16 => m_1 = m1 ∧ t1.get 16 = (.b c16) ∧ t1.get 0 = (.i .i64 x0) ∧ t1.get 1 = (.i .i64 x1) ∧ t1.get 2 = v2 ∧ t1.get 6 = v6
abbrev g43_J1 (x0 : Int) (x1 : Int) (v2 : AVal) (v6 : AVal) (m_1 : Mm) (o : Bool) (m1 : Mm) (t1 : Tr) : Prop :=
  match o with
  | c20 => m_1 = m1 ∧ t1.get 20 = (.b c20) ∧ t1.get 0 = (.i .i64 x0) ∧ t1.get 1 = (.i .i64 x1) ∧ t1.get 2 = v2 ∧ t1.get 6 = v6
abbrev g43_J2 (x0 : Int) (x1 : Int) (v2 : AVal) (v6 : AVal) (m_1 : Mm) (o : Bool) (m1 : Mm) (t1 : Tr) : Prop :=
  match o with
  | c24 => m_1 = m1 ∧ t1.get 24 = (.b c24) ∧ t1.get 0 = (.i .i64 x0) ∧ t1.get 1 = (.i .i64 x1) ∧ t1.get 2 = v2 ∧ t1.get 6 = v6
abbrev g43_I3 (v6 : AVal) (v8 : AVal) (v2 : AVal) (x35 : Int) (s : Int × Mm) (m1 : Mm) (t1 : Tr) : Prop :=
  match s with
  | (x36, m_6) => m_6 = m1 ∧ t1.get 36 = (.i .i64 x36) ∧ t1.get 6 = v6 ∧ t1.get 8 = v8 ∧ t1.get 34 = v2 ∧ t1.get 35 = (.i .i64 x35)
abbrev g43_J3 (v6 : AVal) (v8 : AVal) (v2 : AVal) (x35 : Int) (o : (Mm ⊕ (Int × Mm))) (e : AExit) (m1 : Mm) (t1 : Tr) : Prop :=
  match o with
  | (.inl mo) => e = (.exit 0) ∧ mo = m1 ∧ t1.get 6 = v6 ∧ t1.get 8 = v8
  | (.inr (y7, mo)) => e = .ret ∧ mo = m1 ∧ t1.get 7 = (.i .i64 y7) ∧ t1.get 6 = v6
def g43_b3 (M : Means) (ro : List ABlk) (v6 : AVal) (v8 : AVal) (v2 : AVal) (x35 : Int) (x36 : Int) (m_6 : Mm) : Option ((Int × Mm) ⊕ ((Mm ⊕ (Int × Mm)))) :=
  forceB (ltI x36 x35) fun c37 =>
  cond c37 (
    bindO (evP .e (.ixS 4 (.c v2) (.c (.i .i64 x36)))) fun v38 =>
    bindO (ldM ro m_6 false 4 v38) fun v39 =>
    bindP (stepM ro m_6 (.al 31 [(AVal.i IntKind.i64 0), (AVal.i IntKind.i64 0), (AVal.i IntKind.i64 0), (AVal.i IntKind.i64 0)])) fun v10 m_7 =>
    bindP (stepM ro m_7 (.st 4 (.c v10) (.c v39))) fun vn_3 m_8 =>
    bindO (ldM ro m_8 false 3 v8) fun v40 =>
    bindO (ldM ro m_8 false 4 v10) fun v41 =>
    bindP (callM M.call m_8 60 [v40, v41]) fun v42 m_9 =>
    asB v42 fun c42 =>
    forceB (!c42) fun c43 =>
    cond c43 (
      bindO ((fillA [(AVal.i IntKind.i64 0), (AVal.i IntKind.i64 0), AVal.nsl] []).map AVal.agg) fun v44 =>
      bindP (stepM ro m_9 (.st 3 (.c v6) (.c v44))) fun vn_4 m_10 =>
      some (.inr (.inr (2, m_10)))) (
      forceI (wr .i64 (x36 + 1)) fun x45 =>
      some (.inl (x45, m_9)))) (
    some (.inr (.inl m_6)))
def g43 (M : Means) (ro : List ABlk) (x0 : Int) (x1 : Int) (v2 : AVal) (m0 : Mm) : Option (AVal × Heap × Nat × Nat) :=
  bindP (stepM ro m0 (.al 55 [(AVal.i IntKind.i64 0), (AVal.i IntKind.i64 0), AVal.nsl])) fun v6 m_1 =>
  forceB (ltI x0 1) fun c12 =>
  bindO (cond c12 (
    some true) (
    forceB (ltI 24 x0) fun c15 =>
    some c15)) fun c16 =>
  bindO (cond c16 (
    some true) (
    forceB (ltI x1 1) fun c19 =>
    some c19)) fun c20 =>
  bindO (cond c20 (
    some true) (
    forceB (ltI 6 x1) fun c23 =>
    some c23)) fun c24 =>
  cond c24 (
    bindO ((fillA [(AVal.i IntKind.i64 0), (AVal.i IntKind.i64 0), AVal.nsl] []).map AVal.agg) fun v25 =>
    bindP (stepM ro m_1 (.st 3 (.c v6) (.c v25))) fun vn m_2 =>
    bindO (ldM ro m_2 false 3 v6) fun vr =>
    finM m0.h.length (tupA [vr, (.i .i64 2)]) m_2) (
    bindO (evP .e (.len false (.c v2))) fun v27 =>
    asI .i64 v27 fun x27 =>
    forceB (ltI 20 x27) fun c28 =>
    cond c28 (
      bindO ((fillA [(AVal.i IntKind.i64 0), (AVal.i IntKind.i64 0), AVal.nsl] []).map AVal.agg) fun v29 =>
      bindP (stepM ro m_1 (.st 3 (.c v6) (.c v29))) fun vn_1 m_3 =>
      bindO (ldM ro m_3 false 3 v6) fun vr_1 =>
      finM m0.h.length (tupA [vr_1, (.i .i64 3)]) m_3) (
      bindO ((fillA [(AVal.i IntKind.i64 0), (AVal.i IntKind.i64 0), AVal.nsl] [((0, 1), (.i .i64 x0)), ((1, 1), (.i .i64 x1)), ((2, 1), v2)]).map AVal.agg) fun v33 =>
      bindP (stepM ro m_1 (.al 55 [(AVal.i IntKind.i64 0), (AVal.i IntKind.i64 0), AVal.nsl])) fun v8 m_4 =>
      bindP (stepM ro m_4 (.st 3 (.c v8) (.c v33))) fun vn_2 m_5 =>
      bindO (evP .e (.len false (.c v2))) fun v35 =>
      asI .i64 v35 fun x35 =>
      bindO (M.loop (S := Int × Mm) (R := (Mm ⊕ (Int × Mm))) (fun s => g43_b3 M ro v6 v8 v2 x35 s.1 s.2) (0, m_5)) fun o_3 => match o_3 with
      | (.inl m_11) =>
        bindO (ldM ro m_11 false 3 v8) fun v46 =>
        bindP (stepM ro m_11 (.st 3 (.c v6) (.c v46))) fun vn_5 m_12 =>
        bindO (ldM ro m_12 false 3 v6) fun vr_2 =>
        finM m0.h.length (tupA [vr_2, (.i .i64 0)]) m_12
      | (.inr (x7, m_13)) =>
        bindO (ldM ro m_13 false 3 v6) fun vr_3 =>
        finM m0.h.length (tupA [vr_3, (.i .i64 x7)]) m_13))

theorem g43_ok {ro : List ABlk} {O : Caller} {M : Means} (hM : M.Ok ⟨F, O⟩ ro) {x0 x1 v2 h r} (ho : O 43 [(.i .i64 x0), (.i .i64 x1), v2] h = none) (hr : g43 M ro x0 x1 v2 ⟨h, h.length, h.length⟩ = some r) : callX ⟨F, O⟩ ro 43 [(.i .i64 x0), (.i .i64 x1), v2] h = some r := by
  refine callX_of (F := ⟨F, O⟩) (fn := fn43) (g := g43 M ro x0 x1 v2) ho rfl rfl hr ?_
  clear ho
  clear hr
  intro m0 t0 ht hr
  have g0 : t0.get 0 = (.i .i64 x0) := ht 0
  have g1 : t0.get 1 = (.i .i64 x1) := ht 1
  have g2 : t0.get 2 = v2 := ht 2
  clear ht
  unfold g43 at hr
  refine w_seq ?_
  refine w_ops ?_
  have hq := bindP_inv hr
  clear hr
  obtain ⟨v6, m_1, e6, hr⟩ := hq
  refine wo_step (v := v6) (s_al e6) ?_
  refine wo_step (v := (.i .i64 0)) (s_pure (p_mv rfl)) ?_
  refine wo_nil ?_
  refine nx_norm ?_
  refine w_seq ?_
  refine w_seq ?_
  refine w_ops ?_
  refine wo_step (v := (.i .i64 x0)) (s_pure (p_mv g0)) ?_
  have hq := forceB_inv hr
  clear hr
  obtain ⟨c12, e12, hr⟩ := hq
  refine wo_step (v := (.b c12)) (s_pure (p_bin rfl rfl (b_lss.trans (cb e12)))) ?_
  refine wo_step (v := (.b c12)) (s_pure (p_mv rfl)) ?_
  have hq := bindO_inv hr
  clear hr
  obtain ⟨o, hr, hk⟩ := hq
  refine wo_join 3 (g43_J0 x0 x1 v2 v6 m_1 o) ?_ ?_
  · clear hk
    have hq := cond_inv hr
    clear hr
    rcases hq with ⟨rfl, hr⟩ | ⟨rfl, hr⟩
    · refine wo_skip (v := (.b true)) rfl rfl ?_
      refine wo_skip (v := (.b true)) rfl rfl ?_
      refine wo_step (v := (.b true)) (s_pure (p_pickT rfl rfl)) ?_
      refine wo_nil ?_
      cases hr
      exact ⟨_, _, rfl, rfl, gl rfl, gl g0, gl g1, gl g2, gl rfl⟩
    · refine wo_take (v := (.i .i64 x0)) rfl (s_pure (p_mv g0)) ?_
      have hq := forceB_inv hr
      clear hr
      obtain ⟨c15, e15, hr⟩ := hq
      refine wo_take (v := (.b c15)) rfl (s_pure (p_bin rfl rfl (b_gtr.trans (cb e15)))) ?_
      refine wo_step (v := (.b c15)) (s_pure (p_pickF rfl rfl)) ?_
      refine wo_nil ?_
      cases hr
      exact ⟨_, _, rfl, rfl, gl rfl, gl g0, gl g1, gl g2, gl rfl⟩
  · clear hr
    have hr := hk
    clear hk
    obtain ⟨c16, ho⟩ : ∃ z, z = o := ⟨_, rfl⟩
    subst ho
    rintro mm t_1 ⟨rfl, g16, g0, g1, g2, g6⟩
    refine wo_step (v := (.b c16)) (s_pure (p_mv g16)) ?_
    have hq := bindO_inv hr
    clear hr
    obtain ⟨o_1, hr, hk⟩ := hq
    refine wo_join 3 (g43_J1 x0 x1 v2 v6 m_1 o_1) ?_ ?_
    · clear hk
      have hq := cond_inv hr
      clear hr
      rcases hq with ⟨rfl, hr⟩ | ⟨rfl, hr⟩
      · refine wo_skip (v := (.b true)) rfl rfl ?_
        refine wo_skip (v := (.b true)) rfl rfl ?_
        refine wo_step (v := (.b true)) (s_pure (p_pickT rfl rfl)) ?_
        refine wo_nil ?_
        cases hr
        exact ⟨_, _, rfl, rfl, gl rfl, gl g0, gl g1, gl g2, gl g6⟩
      · refine wo_take (v := (.i .i64 x1)) rfl (s_pure (p_mv g1)) ?_
        have hq := forceB_inv hr
        clear hr
        obtain ⟨c19, e19, hr⟩ := hq
        refine wo_take (v := (.b c19)) rfl (s_pure (p_bin rfl rfl (b_lss.trans (cb e19)))) ?_
        refine wo_step (v := (.b c19)) (s_pure (p_pickF rfl rfl)) ?_
        refine wo_nil ?_
        cases hr
        exact ⟨_, _, rfl, rfl, gl rfl, gl g0, gl g1, gl g2, gl g6⟩
    · clear hr
      have hr := hk
      clear hk
      obtain ⟨c20, ho⟩ : ∃ z, z = o_1 := ⟨_, rfl⟩
      subst ho
      rintro mm_1 t_2 ⟨rfl, g20, g0, g1, g2, g6⟩
      refine wo_step (v := (.b c20)) (s_pure (p_mv g20)) ?_
      have hq := bindO_inv hr
      clear hr
      obtain ⟨o_2, hr, hk⟩ := hq
      refine wo_join 3 (g43_J2 x0 x1 v2 v6 m_1 o_2) ?_ ?_
      · clear hk
        have hq := cond_inv hr
        clear hr
        rcases hq with ⟨rfl, hr⟩ | ⟨rfl, hr⟩
        · refine wo_skip (v := (.b true)) rfl rfl ?_
          refine wo_skip (v := (.b true)) rfl rfl ?_
          refine wo_step (v := (.b true)) (s_pure (p_pickT rfl rfl)) ?_
          refine wo_nil ?_
          cases hr
          exact ⟨_, _, rfl, rfl, gl rfl, gl g0, gl g1, gl g2, gl g6⟩
        · refine wo_take (v := (.i .i64 x1)) rfl (s_pure (p_mv g1)) ?_
          have hq := forceB_inv hr
          clear hr
          obtain ⟨c23, e23, hr⟩ := hq
          refine wo_take (v := (.b c23)) rfl (s_pure (p_bin rfl rfl (b_gtr.trans (cb e23)))) ?_
          refine wo_step (v := (.b c23)) (s_pure (p_pickF rfl rfl)) ?_
          refine wo_nil ?_
          cases hr
          exact ⟨_, _, rfl, rfl, gl rfl, gl g0, gl g1, gl g2, gl g6⟩
      · clear hr
        have hr := hk
        clear hk
        obtain ⟨c24, ho⟩ : ∃ z, z = o_2 := ⟨_, rfl⟩
        subst ho
        rintro mm_2 t_3 ⟨rfl, g24, g0, g1, g2, g6⟩
        refine wo_nil ?_
        refine nx_norm ?_
        have hq := cond_inv hr
        clear hr
        rcases hq with ⟨rfl, hr⟩ | ⟨rfl, hr⟩
        · refine w_condT g24 ?_
          refine w_seq ?_
          refine w_ops ?_
          have hq := bindO_inv hr
          clear hr
          obtain ⟨v25, e25, hr⟩ := hq
          refine wo_step (v := v25) (s_pure (o_build qn e25)) ?_
          have hq := bindP_inv hr
          clear hr
          obtain ⟨vn, m_2, en, hr⟩ := hq
          refine wo_stepN (s_st g6 rfl en) ?_
          refine wo_step (v := (.i .i64 2)) (s_pure (p_mv rfl)) ?_
          refine wo_nil ?_
          refine nx_norm ?_
          refine w_ret ?_
          refine nx_ret ?_
          have hq := bindO_inv hr
          clear hr
          obtain ⟨vr, er, hr⟩ := hq
          exact qf ret_ok (rc g6 er (rt rfl rn)) hr
        · refine w_condF g24 ?_
          refine w_skip ?_
          refine nx_norm ?_
          refine w_seq ?_
          refine w_seq ?_
          refine w_ops ?_
          refine wo_step (v := v2) (s_pure (p_mv g2)) ?_
          have hq := bindO_inv hr
          clear hr
          obtain ⟨v27, e27, hr⟩ := hq
          have hq := asI_inv hr
          clear hr
          obtain ⟨x27, rfl, hr⟩ := hq
          refine wo_step (v := (.i .i64 x27)) (s_pure (o_len rfl e27)) ?_
          have hq := forceB_inv hr
          clear hr
          obtain ⟨c28, e28, hr⟩ := hq
          refine wo_step (v := (.b c28)) (s_pure (p_bin rfl rfl (b_gtr.trans (cb e28)))) ?_
          refine wo_nil ?_
          refine nx_norm ?_
          have hq := cond_inv hr
          clear hr
          rcases hq with ⟨rfl, hr⟩ | ⟨rfl, hr⟩
          · refine w_condT rfl ?_
            refine w_seq ?_
            refine w_ops ?_
            have hq := bindO_inv hr
            clear hr
            obtain ⟨v29, e29, hr⟩ := hq
            refine wo_step (v := v29) (s_pure (o_build qn e29)) ?_
            have hq := bindP_inv hr
            clear hr
            obtain ⟨vn_1, m_3, en_1, hr⟩ := hq
            refine wo_stepN (s_st g6 rfl en_1) ?_
            refine wo_step (v := (.i .i64 3)) (s_pure (p_mv rfl)) ?_
            refine wo_nil ?_
            refine nx_norm ?_
            refine w_ret ?_
            refine nx_ret ?_
            have hq := bindO_inv hr
            clear hr
            obtain ⟨vr_1, er_1, hr⟩ := hq
            exact qf ret_ok (rc g6 er_1 (rt rfl rn)) hr
          · refine w_condF rfl ?_
            refine w_skip ?_
            refine nx_norm ?_
            refine w_seq ?_
            refine w_ops ?_
            refine wo_step (v := (.i .i64 x0)) (s_pure (p_mv g0)) ?_
            refine wo_step (v := (.i .i64 x1)) (s_pure (p_mv g1)) ?_
            refine wo_step (v := v2) (s_pure (p_mv g2)) ?_
            have hq := bindO_inv hr
            clear hr
            obtain ⟨v33, e33, hr⟩ := hq
            refine wo_step (v := v33) (s_pure (o_build (qc rfl (qc rfl (qc rfl qn))) e33)) ?_
            have hq := bindP_inv hr
            clear hr
            obtain ⟨v8, m_4, e8, hr⟩ := hq
            refine wo_step (v := v8) (s_al e8) ?_
            have hq := bindP_inv hr
            clear hr
            obtain ⟨vn_2, m_5, en_2, hr⟩ := hq
            refine wo_stepN (s_st rfl rfl en_2) ?_
            refine wo_nil ?_
            refine nx_norm ?_
            refine w_seq ?_
            refine w_seq ?_
            refine w_ops ?_
            refine wo_step (v := v2) (s_pure (p_mv g2)) ?_
            have hq := bindO_inv hr
            clear hr
            obtain ⟨v35, e35, hr⟩ := hq
            have hq := asI_inv hr
            clear hr
            obtain ⟨x35, rfl, hr⟩ := hq
            refine wo_step (v := (.i .i64 x35)) (s_pure (o_len rfl e35)) ?_
            refine wo_step (v := (.i .i64 0)) (s_pure (p_mv rfl)) ?_
            refine wo_nil ?_
            refine nx_norm ?_
            refine w_block ?_
            have hq := bindO_inv hr
            clear hr
            obtain ⟨o_3, hl, hr⟩ := hq
            obtain ⟨n, hl⟩ := hM.loop _ _ _ hl
            refine jp_mono (w_loop _ (g43_I3 v6 v8 v2 x35) (g43_J3 v6 v8 v2 x35) ?_ n _ _ _ _ hl ⟨rfl, gl rfl, gl g6, gl rfl, gl rfl, gl rfl⟩) ?_
            · clear hr hl
              intro s mm_5 t_4 o hi hr
              obtain ⟨x36, m_6⟩ := s
              obtain ⟨rfl, g36, g6, g8, g34, g35⟩ := hi
              unfold g43_b3 at hr
              refine w_seq ?_
              refine w_ops ?_
              have hq := forceB_inv hr
              clear hr
              obtain ⟨c37, e37, hr⟩ := hq
              refine wo_step (v := (.b c37)) (s_pure (p_bin g36 g35 (b_lss.trans (cb e37)))) ?_
              refine wo_nil ?_
              refine nx_norm ?_
              refine w_seq ?_
              have hq := cond_inv hr
              clear hr
              rcases hq with ⟨rfl, hr⟩ | ⟨rfl, hr⟩
              · refine w_condT rfl ?_
                refine w_skip ?_
                refine nx_norm ?_
                refine w_seq ?_
                refine w_block ?_
                refine w_seq ?_
                refine w_ops ?_
                have hq := bindO_inv hr
                clear hr
                obtain ⟨v38, e38, hr⟩ := hq
                refine wo_step (v := v38) (s_pure (o_ixS g34 g36 e38)) ?_
                have hq := bindO_inv hr
                clear hr
                obtain ⟨v39, e39, hr⟩ := hq
                refine wo_step (v := v39) (s_ld rfl e39) ?_
                have hq := bindP_inv hr
                clear hr
                obtain ⟨v10, m_7, e10, hr⟩ := hq
                refine wo_step (v := v10) (s_al e10) ?_
                have hq := bindP_inv hr
                clear hr
                obtain ⟨vn_3, m_8, en_3, hr⟩ := hq
                refine wo_stepN (s_st rfl rfl en_3) ?_
                refine wo_nil ?_
                refine nx_norm ?_
                refine w_seq ?_
                refine w_ops ?_
                have hq := bindO_inv hr
                clear hr
                obtain ⟨v40, e40, hr⟩ := hq
                refine wo_step (v := v40) (s_ld g8 e40) ?_
                have hq := bindO_inv hr
                clear hr
                obtain ⟨v41, e41, hr⟩ := hq
                refine wo_step (v := v41) (s_ld rfl e41) ?_
                have hq := bindP_inv hr
                clear hr
                obtain ⟨v42, m_9, e42, hr⟩ := hq
                have hq := asB_inv hr
                clear hr
                obtain ⟨c42, rfl, hr⟩ := hq
                refine wo_step (v := (.b c42)) (s_call (mc rfl (mc rfl mn)) (callM_le hM.call e42)) ?_
                have hq := forceB_inv hr
                clear hr
                obtain ⟨c43, e43, hr⟩ := hq
                refine wo_step (v := (.b c43)) (s_pure ((p_not rfl).trans (cb e43))) ?_
                refine wo_nil ?_
                refine nx_norm ?_
                have hq := cond_inv hr
                clear hr
                rcases hq with ⟨rfl, hr⟩ | ⟨rfl, hr⟩
                · refine w_condT rfl ?_
                  refine w_seq ?_
                  refine w_ops ?_
                  have hq := bindO_inv hr
                  clear hr
                  obtain ⟨v44, e44, hr⟩ := hq
                  refine wo_step (v := v44) (s_pure (o_build qn e44)) ?_
                  have hq := bindP_inv hr
                  clear hr
                  obtain ⟨vn_4, m_10, en_4, hr⟩ := hq
                  refine wo_stepN (s_st g6 rfl en_4) ?_
                  refine wo_step (v := (.i .i64 2)) (s_pure (p_mv rfl)) ?_
                  refine wo_nil ?_
                  refine nx_norm ?_
                  refine w_ret ?_
                  refine bk_ret ?_
                  refine nx_ret ?_
                  cases hr
                  exact ⟨_, _, rfl, ne_norm_ret, rfl, rfl, gl rfl, gl g6⟩
                · refine w_condF rfl ?_
                  refine w_skip ?_
                  refine bk_norm ?_
                  refine nx_norm ?_
                  refine w_ops ?_
                  have hq := forceI_inv hr
                  clear hr
                  obtain ⟨x45, e45, hr⟩ := hq
                  refine wo_step (v := (.i .i64 x45)) (s_pure (p_bin g36 rfl (b_add.trans (ci e45)))) ?_
                  refine wo_step (v := (.i .i64 x45)) (s_pure (p_mv rfl)) ?_
                  refine wo_nil ?_
                  cases hr
                  exact ⟨_, _, rfl, rfl, rfl, gl rfl, gl g6, gl g8, gl g34, gl g35⟩
              · refine w_condF rfl ?_
                refine w_exit ?_
                refine nx_exit ?_
                cases hr
                exact ⟨_, _, rfl, ne_norm_exit, rfl, rfl, gl g6, gl g8⟩
            · rcases o_3 with o_3 | o_3
              · obtain ⟨m_11, ho⟩ : ∃ z, z = o_3 := ⟨_, rfl⟩
                subst ho
                rintro _ mm_3 t_5 ⟨rfl, rfl, g6, g8⟩
                refine bk_hit ?_
                refine nx_norm ?_
                refine w_seq ?_
                refine w_ops ?_
                have hq := bindO_inv hr
                clear hr
                obtain ⟨v46, e46, hr⟩ := hq
                refine wo_step (v := v46) (s_ld g8 e46) ?_
                have hq := bindP_inv hr
                clear hr
                obtain ⟨vn_5, m_12, en_5, hr⟩ := hq
                refine wo_stepN (s_st g6 rfl en_5) ?_
                refine wo_step (v := (.i .i64 0)) (s_pure (p_mv rfl)) ?_
                refine wo_nil ?_
                refine nx_norm ?_
                refine w_ret ?_
                have hq := bindO_inv hr
                clear hr
                obtain ⟨vr_2, er_2, hr⟩ := hq
                exact qf ret_ok (rc g6 er_2 (rt rfl rn)) hr
              · obtain ⟨x7, m_13⟩ := o_3
                rintro _ mm_4 t_6 ⟨rfl, rfl, g7, g6⟩
                refine bk_ret ?_
                refine nx_ret ?_
                have hq := bindO_inv hr
                clear hr
                obtain ⟨vr_3, er_3, hr⟩ := hq
                exact qf ret_ok (rc g6 er_3 (rt g7 rn)) hr

/- (dibber/turn.demands).refuse -/

def g55 (M : Means) (ro : List ABlk) (v0 : AVal) (x1 : Int) (x2 : Int) (m0 : Mm) : Option (AVal × Heap × Nat × Nat) :=
  bindP (stepM ro m0 (.bx 55 3 (.c v0))) fun v3 m_1 =>
  bindO (ldM ro m_1 false 3 v3) fun v8 =>
  bindP (callM M.call m_1 70 [v8, (.i .i64 x2)]) fun v10 m_2 =>
  asI .i64 v10 fun x10 =>
  forceI (wr .i64 (x2 - x10)) fun x11 =>
  forceB (ltI x11 x1) fun c13 =>
  finM m0.h.length (tupA [(.b c13)]) m_2

theorem g55_ok {ro : List ABlk} {O : Caller} {M : Means} (hM : M.Ok ⟨F, O⟩ ro) {v0 x1 x2 h r} (ho : O 55 [v0, (.i .i64 x1), (.i .i64 x2)] h = none) (hr : g55 M ro v0 x1 x2 ⟨h, h.length, h.length⟩ = some r) : callX ⟨F, O⟩ ro 55 [v0, (.i .i64 x1), (.i .i64 x2)] h = some r := by
  refine callX_of (F := ⟨F, O⟩) (fn := fn55) (g := g55 M ro v0 x1 x2) ho rfl rfl hr ?_
  clear ho
  clear hr
  intro m0 t0 ht hr
  have g0 : t0.get 0 = v0 := ht 0
  have g1 : t0.get 1 = (.i .i64 x1) := ht 1
  have g2 : t0.get 2 = (.i .i64 x2) := ht 2
  clear ht
  unfold g55 at hr
  refine w_seq ?_
  refine w_ops ?_
  have hq := bindP_inv hr
  clear hr
  obtain ⟨v3, m_1, e3, hr⟩ := hq
  refine wo_step (v := v3) (s_bx g0 e3) ?_
  refine wo_step (v := (.b false)) (s_pure (p_mv rfl)) ?_
  refine wo_nil ?_
  refine nx_norm ?_
  refine w_seq ?_
  refine w_ops ?_
  refine wo_step (v := (.i .i64 x2)) (s_pure (p_mv g2)) ?_
  have hq := bindO_inv hr
  clear hr
  obtain ⟨v8, e8, hr⟩ := hq
  refine wo_step (v := v8) (s_ld rfl e8) ?_
  refine wo_step (v := (.i .i64 x2)) (s_pure (p_mv g2)) ?_
  have hq := bindP_inv hr
  clear hr
  obtain ⟨v10, m_2, e10, hr⟩ := hq
  have hq := asI_inv hr
  clear hr
  obtain ⟨x10, rfl, hr⟩ := hq
  refine wo_step (v := (.i .i64 x10)) (s_call (mc rfl (mc rfl mn)) (callM_le hM.call e10)) ?_
  have hq := forceI_inv hr
  clear hr
  obtain ⟨x11, e11, hr⟩ := hq
  refine wo_step (v := (.i .i64 x11)) (s_pure (p_bin rfl rfl (b_sub.trans (ci e11)))) ?_
  refine wo_step (v := (.i .i64 x1)) (s_pure (p_mv g1)) ?_
  have hq := forceB_inv hr
  clear hr
  obtain ⟨c13, e13, hr⟩ := hq
  refine wo_step (v := (.b c13)) (s_pure (p_bin rfl rfl (b_lss.trans (cb e13)))) ?_
  refine wo_step (v := (.b c13)) (s_pure (p_mv rfl)) ?_
  refine wo_nil ?_
  refine nx_norm ?_
  refine w_ret ?_
  exact qf ret_ok (rt rfl rn) hr

/- dibber/dibberref04.refuses -/

def g56 (M : Means) (ro : List ABlk) (x0 : Int) (x1 : Int) (x2 : Int) (m0 : Mm) : Option (AVal × Heap × Nat × Nat) :=
  forceI (wr .i64 (0 - x1)) fun x8 =>
  bindP (callM M.call m0 67 [(.i .i64 x8), (.i .i64 x0)]) fun v10 m_1 =>
  asI .i64 v10 fun x10 =>
  forceI (wr .i64 (x2 - x1)) fun x13 =>
  forceB (ltI x13 x10) fun c14 =>
  finM m0.h.length (tupA [(.b c14)]) m_1

theorem g56_ok {ro : List ABlk} {O : Caller} {M : Means} (hM : M.Ok ⟨F, O⟩ ro) {x0 x1 x2 h r} (ho : O 56 [(.i .i64 x0), (.i .i64 x1), (.i .i64 x2)] h = none) (hr : g56 M ro x0 x1 x2 ⟨h, h.length, h.length⟩ = some r) : callX ⟨F, O⟩ ro 56 [(.i .i64 x0), (.i .i64 x1), (.i .i64 x2)] h = some r := by
  refine callX_of (F := ⟨F, O⟩) (fn := fn56) (g := g56 M ro x0 x1 x2) ho rfl rfl hr ?_
  clear ho
  clear hr
  intro m0 t0 ht hr
  have g0 : t0.get 0 = (.i .i64 x0) := ht 0
  have g1 : t0.get 1 = (.i .i64 x1) := ht 1
  have g2 : t0.get 2 = (.i .i64 x2) := ht 2
  clear ht
  unfold g56 at hr
  refine w_seq ?_
  refine w_ops ?_
  refine wo_step (v := (.b false)) (s_pure (p_mv rfl)) ?_
  refine wo_nil ?_
  refine nx_norm ?_
  refine w_seq ?_
  refine w_ops ?_
  refine wo_step (v := (.i .i64 x1)) (s_pure (p_mv g1)) ?_
  have hq := forceI_inv hr
  clear hr
  obtain ⟨x8, e8, hr⟩ := hq
  refine wo_step (v := (.i .i64 x8)) (s_pure ((p_neg rfl).trans (ci e8))) ?_
  refine wo_step (v := (.i .i64 x0)) (s_pure (p_mv g0)) ?_
  have hq := bindP_inv hr
  clear hr
  obtain ⟨v10, m_1, e10, hr⟩ := hq
  have hq := asI_inv hr
  clear hr
  obtain ⟨x10, rfl, hr⟩ := hq
  refine wo_step (v := (.i .i64 x10)) (s_call (mc rfl (mc rfl mn)) (callM_le hM.call e10)) ?_
  refine wo_step (v := (.i .i64 x2)) (s_pure (p_mv g2)) ?_
  refine wo_step (v := (.i .i64 x1)) (s_pure (p_mv g1)) ?_
  have hq := forceI_inv hr
  clear hr
  obtain ⟨x13, e13, hr⟩ := hq
  refine wo_step (v := (.i .i64 x13)) (s_pure (p_bin rfl rfl (b_sub.trans (ci e13)))) ?_
  have hq := forceB_inv hr
  clear hr
  obtain ⟨c14, e14, hr⟩ := hq
  refine wo_step (v := (.b c14)) (s_pure (p_bin rfl rfl (b_gtr.trans (cb e14)))) ?_
  refine wo_step (v := (.b c14)) (s_pure (p_mv rfl)) ?_
  refine wo_nil ?_
  refine nx_norm ?_
  refine w_ret ?_
  exact qf ret_ok (rt rfl rn) hr

/- (dibber/turn.demands).refusing -/
abbrev g57_I0 (v5 : AVal) (v6 : AVal) (v7 : AVal) (v8 : AVal) (v13 : AVal) (x14 : Int) (s : Int × Mm) (m1 : Mm) (t1 : Tr) : Prop :=
  match s with
  | (x15, m_9) => m_9 = m1 ∧ t1.get 15 = (.i .i64 x15) ∧ t1.get 5 = v5 ∧ t1.get 6 = v6 ∧ t1.get 7 = v7 ∧ t1.get 8 = v8 ∧ t1.get 13 = v13 ∧ t1.get 14 = (.i .i64 x14)
abbrev g57_J0 (v5 : AVal) (v6 : AVal) (v7 : AVal) (v8 : AVal) (v13 : AVal) (x14 : Int) (o : (Mm ⊕ (AVal × Mm))) (e : AExit) (m1 : Mm) (t1 : Tr) : Prop :=
  match o with
  | (.inl mo) => e = (.exit 0) ∧ mo = m1
  | (.inr (y4, mo)) => e = .ret ∧ mo = m1 ∧ t1.get 4 = y4
def g57_b0 (M : Means) (ro : List ABlk) (v5 : AVal) (v6 : AVal) (v7 : AVal) (v8 : AVal) (v13 : AVal) (x14 : Int) (x15 : Int) (m_9 : Mm) : Option ((Int × Mm) ⊕ ((Mm ⊕ (AVal × Mm)))) :=
  forceB (ltI x15 x14) fun c16 =>
  cond c16 (
    bindO (evP .e (.ixS 4 (.c v13) (.c (.i .i64 x15)))) fun v18 =>
    bindO (ldM ro m_9 false 4 v18) fun v19 =>
    bindP (stepM ro m_9 (.al 31 [(AVal.i IntKind.i64 0), (AVal.i IntKind.i64 0), (AVal.i IntKind.i64 0), (AVal.i IntKind.i64 0)])) fun v10 m_10 =>
    bindP (stepM ro m_10 (.st 4 (.c v10) (.c v19))) fun vn_2 m_11 =>
    bindO (evP .e (.faddr 0 (.c v10))) fun v20 =>
    bindO (ldM ro m_11 true 1 v20) fun v21 =>
    asI .i64 v21 fun x21 =>
    bindP (stepM ro m_11 (.st 1 (.c v7) (.c (.i .i64 x21)))) fun vn_3 m_12 =>
    bindO (ldM ro m_12 true 1 v7) fun v22 =>
    asI .i64 v22 fun x22 =>
    bindO (evP .e (.ixA 6 1 (.c v5) (.c (.i .i64 x22)))) fun v23 =>
    bindP (stepM ro m_12 (.st 1 (.c v23) (.c (.b true)))) fun vn_4 m_13 =>
    bindO (ldM ro m_13 true 1 v6) fun v24 =>
    bindO (evP .e (.slS 1 (.c v24) none (some (.c (.i .i64 0))) none)) fun v25 =>
    forceI (wr .i64 (x15 + 1)) fun x27 =>
    bindP (stepM ro m_13 (.bsl 3 1 [(AVal.i IntKind.i64 0)] 1 [((0, 1), .c (.i .i64 x27))])) fun v28 m_14 =>
    bindP (stepM ro m_14 (.app 3 1 8 [(AVal.i IntKind.i64 0)] (.c v25) (.c v28))) fun v29 m_15 =>
    bindP (stepM ro m_15 (.st 1 (.c v6) (.c v29))) fun vn_5 m_16 =>
    bindO (ldM ro m_16 true 1 v8) fun v30 =>
    bindO (evP .e (.faddr 1 (.c v10))) fun v31 =>
    bindO (ldM ro m_16 true 1 v31) fun v32 =>
    asI .i64 v32 fun x32 =>
    bindO (evP .e (.faddr 2 (.c v10))) fun v33 =>
    bindO (ldM ro m_16 true 1 v33) fun v34 =>
    asI .i64 v34 fun x34 =>
    bindO (evP .e (.faddr 3 (.c v10))) fun v35 =>
    bindO (ldM ro m_16 true 1 v35) fun v36 =>
    asI .i64 v36 fun x36 =>
    bindP (callyM M.call M.round m_16 v30 [(.i .i64 x32), (.i .i64 x34), (.i .i64 x36)]) fun v37 m_17 =>
    asB v37 fun c37 =>
    cond c37 (
      bindO (ldM ro m_17 true 1 v6) fun v38 =>
      some (.inr (.inr (v38, m_17)))) (
      bindO (ldM ro m_17 true 1 v7) fun v39 =>
      asI .i64 v39 fun x39 =>
      bindO (evP .e (.ixA 6 1 (.c v5) (.c (.i .i64 x39)))) fun v40 =>
      bindP (stepM ro m_17 (.st 1 (.c v40) (.c (.b false)))) fun vn_6 m_18 =>
      forceI (wr .i64 (x15 + 1)) fun x41 =>
      some (.inl (x41, m_18)))) (
    some (.inr (.inl m_9)))
def g57 (M : Means) (ro : List ABlk) (v0 : AVal) (x1 : Int) (m0 : Mm) : Option (AVal × Heap × Nat × Nat) :=
  bindP (stepM ro m0 (.bx 55 3 (.c v0))) fun v2 m_1 =>
  bindP (stepM ro m_1 (.bx 3 1 (.c (.i .i64 x1)))) fun v3 m_2 =>
  bindP (stepM ro m_2 (.al 96 [(AVal.b false), (AVal.b false), (AVal.b false), (AVal.b false), (AVal.b false), (AVal.b false)])) fun v5 m_3 =>
  bindP (stepM ro m_3 (.al 25 [AVal.nsl])) fun v6 m_4 =>
  bindP (stepM ro m_4 (.al 3 [(AVal.i IntKind.i64 0)])) fun v7 m_5 =>
  bindP (stepM ro m_5 (.st 1 (.c v7) (.c (.i .i64 0)))) fun vn m_6 =>
  bindP (stepM ro m_6 (.al 74 [AVal.nfn])) fun v8 m_7 =>
  bindO (some (AVal.fn 75 [] [v6, v3, v7, v2, v5, v8])) fun v11 =>
  bindP (stepM ro m_7 (.st 1 (.c v8) (.c v11))) fun vn_1 m_8 =>
  bindO (evP .e (.faddr 2 (.c v2))) fun v12 =>
  bindO (ldM ro m_8 true 1 v12) fun v13 =>
  bindO (evP .e (.len false (.c v13))) fun v14 =>
  asI .i64 v14 fun x14 =>
  bindO (M.loop (S := Int × Mm) (R := (Mm ⊕ (AVal × Mm))) (fun s => g57_b0 M ro v5 v6 v7 v8 v13 x14 s.1 s.2) (0, m_8)) fun o => match o with
  | (.inl m_19) =>
    finM m0.h.length (tupA [AVal.nsl]) m_19
  | (.inr (v4, m_20)) =>
    finM m0.h.length (tupA [v4]) m_20

theorem g57_ok {ro : List ABlk} {O : Caller} {M : Means} (hM : M.Ok ⟨F, O⟩ ro) {v0 x1 h r} (ho : O 57 [v0, (.i .i64 x1)] h = none) (hr : g57 M ro v0 x1 ⟨h, h.length, h.length⟩ = some r) : callX ⟨F, O⟩ ro 57 [v0, (.i .i64 x1)] h = some r := by
  refine callX_of (F := ⟨F, O⟩) (fn := fn57) (g := g57 M ro v0 x1) ho rfl rfl hr ?_
  clear ho
  clear hr
  intro m0 t0 ht hr
  have g0 : t0.get 0 = v0 := ht 0
  have g1 : t0.get 1 = (.i .i64 x1) := ht 1
  clear ht
  unfold g57 at hr
  refine w_seq ?_
  refine w_ops ?_
  have hq := bindP_inv hr
  clear hr
  obtain ⟨v2, m_1, e2, hr⟩ := hq
  refine wo_step (v := v2) (s_bx g0 e2) ?_
  have hq := bindP_inv hr
  clear hr
  obtain ⟨v3, m_2, e3, hr⟩ := hq
  refine wo_step (v := v3) (s_bx g1 e3) ?_
  refine wo_step (v := AVal.nsl) (s_pure (p_mv rfl)) ?_
  refine wo_nil ?_
  refine nx_norm ?_
  refine w_seq ?_
  refine w_ops ?_
  have hq := bindP_inv hr
  clear hr
  obtain ⟨v5, m_3, e5, hr⟩ := hq
  refine wo_step (v := v5) (s_al e5) ?_
  refine wo_nil ?_
  refine nx_norm ?_
  refine w_seq ?_
  refine w_ops ?_
  have hq := bindP_inv hr
  clear hr
  obtain ⟨v6, m_4, e6, hr⟩ := hq
  refine wo_step (v := v6) (s_al e6) ?_
  refine wo_nil ?_
  refine nx_norm ?_
  refine w_seq ?_
  refine w_ops ?_
  have hq := bindP_inv hr
  clear hr
  obtain ⟨v7, m_5, e7, hr⟩ := hq
  refine wo_step (v := v7) (s_al e7) ?_
  have hq := bindP_inv hr
  clear hr
  obtain ⟨vn, m_6, en, hr⟩ := hq
  refine wo_stepN (s_st rfl rfl en) ?_
  refine wo_nil ?_
  refine nx_norm ?_
  refine w_seq ?_
  refine w_ops ?_
  have hq := bindP_inv hr
  clear hr
  obtain ⟨v8, m_7, e8, hr⟩ := hq
  refine wo_step (v := v8) (s_al e8) ?_
  refine wo_nil ?_
  refine nx_norm ?_
  refine w_seq ?_
  refine w_ops ?_
  have hq := bindO_inv hr
  clear hr
  obtain ⟨v11, e11, hr⟩ := hq
  refine wo_step (v := v11) (s_pure ((o_mkfn mn (mc rfl (mc rfl (mc rfl (mc rfl (mc rfl (mc rfl mn))))))).trans e11)) ?_
  have hq := bindP_inv hr
  clear hr
  obtain ⟨vn_1, m_8, en_1, hr⟩ := hq
  refine wo_stepN (s_st rfl rfl en_1) ?_
  refine wo_nil ?_
  refine nx_norm ?_
  refine w_seq ?_
  refine w_seq ?_
  refine w_ops ?_
  have hq := bindO_inv hr
  clear hr
  obtain ⟨v12, e12, hr⟩ := hq
  refine wo_step (v := v12) (s_pure (o_faddr rfl e12)) ?_
  have hq := bindO_inv hr
  clear hr
  obtain ⟨v13, e13, hr⟩ := hq
  refine wo_step (v := v13) (s_ld rfl e13) ?_
  have hq := bindO_inv hr
  clear hr
  obtain ⟨v14, e14, hr⟩ := hq
  have hq := asI_inv hr
  clear hr
  obtain ⟨x14, rfl, hr⟩ := hq
  refine wo_step (v := (.i .i64 x14)) (s_pure (o_len rfl e14)) ?_
  refine wo_step (v := (.i .i64 0)) (s_pure (p_mv rfl)) ?_
  refine wo_nil ?_
  refine nx_norm ?_
  refine w_block ?_
  have hq := bindO_inv hr
  clear hr
  obtain ⟨o, hl, hr⟩ := hq
  obtain ⟨n, hl⟩ := hM.loop _ _ _ hl
  refine jp_mono (w_loop _ (g57_I0 v5 v6 v7 v8 v13 x14) (g57_J0 v5 v6 v7 v8 v13 x14) ?_ n _ _ _ _ hl ⟨rfl, gl rfl, gl rfl, gl rfl, gl rfl, gl rfl, gl rfl, gl rfl⟩) ?_
  · clear hr hl
    intro s mm_2 t_1 o hi hr
    obtain ⟨x15, m_9⟩ := s
    obtain ⟨rfl, g15, g5, g6, g7, g8, g13, g14⟩ := hi
    unfold g57_b0 at hr
    refine w_seq ?_
    refine w_ops ?_
    have hq := forceB_inv hr
    clear hr
    obtain ⟨c16, e16, hr⟩ := hq
    refine wo_step (v := (.b c16)) (s_pure (p_bin g15 g14 (b_lss.trans (cb e16)))) ?_
    refine wo_nil ?_
    refine nx_norm ?_
    refine w_seq ?_
    have hq := cond_inv hr
    clear hr
    rcases hq with ⟨rfl, hr⟩ | ⟨rfl, hr⟩
    · refine w_condT rfl ?_
      refine w_skip ?_
      refine nx_norm ?_
      refine w_seq ?_
      refine w_block ?_
      refine w_seq ?_
      refine w_ops ?_
      refine wo_step (v := (.i .i64 x15)) (s_pure (p_mv g15)) ?_
      have hq := bindO_inv hr
      clear hr
      obtain ⟨v18, e18, hr⟩ := hq
      refine wo_step (v := v18) (s_pure (o_ixS g13 g15 e18)) ?_
      have hq := bindO_inv hr
      clear hr
      obtain ⟨v19, e19, hr⟩ := hq
      refine wo_step (v := v19) (s_ld rfl e19) ?_
      have hq := bindP_inv hr
      clear hr
      obtain ⟨v10, m_10, e10, hr⟩ := hq
      refine wo_step (v := v10) (s_al e10) ?_
      refine wo_step (v := (.i .i64 x15)) (s_pure (p_mv rfl)) ?_
      have hq := bindP_inv hr
      clear hr
      obtain ⟨vn_2, m_11, en_2, hr⟩ := hq
      refine wo_stepN (s_st rfl rfl en_2) ?_
      refine wo_nil ?_
      refine nx_norm ?_
      refine w_seq ?_
      refine w_ops ?_
      have hq := bindO_inv hr
      clear hr
      obtain ⟨v20, e20, hr⟩ := hq
      refine wo_step (v := v20) (s_pure (o_faddr rfl e20)) ?_
      have hq := bindO_inv hr
      clear hr
      obtain ⟨v21, e21, hr⟩ := hq
      have hq := asI_inv hr
      clear hr
      obtain ⟨x21, rfl, hr⟩ := hq
      refine wo_step (v := (.i .i64 x21)) (s_ld rfl e21) ?_
      have hq := bindP_inv hr
      clear hr
      obtain ⟨vn_3, m_12, en_3, hr⟩ := hq
      refine wo_stepN (s_st g7 rfl en_3) ?_
      refine wo_nil ?_
      refine nx_norm ?_
      refine w_seq ?_
      refine w_ops ?_
      have hq := bindO_inv hr
      clear hr
      obtain ⟨v22, e22, hr⟩ := hq
      have hq := asI_inv hr
      clear hr
      obtain ⟨x22, rfl, hr⟩ := hq
      refine wo_step (v := (.i .i64 x22)) (s_ld g7 e22) ?_
      have hq := bindO_inv hr
      clear hr
      obtain ⟨v23, e23, hr⟩ := hq
      refine wo_step (v := v23) (s_pure (o_ixA g5 rfl e23)) ?_
      have hq := bindP_inv hr
      clear hr
      obtain ⟨vn_4, m_13, en_4, hr⟩ := hq
      refine wo_stepN (s_st rfl rfl en_4) ?_
      refine wo_nil ?_
      refine nx_norm ?_
      refine w_seq ?_
      refine w_ops ?_
      have hq := bindO_inv hr
      clear hr
      obtain ⟨v24, e24, hr⟩ := hq
      refine wo_step (v := v24) (s_ld g6 e24) ?_
      have hq := bindO_inv hr
      clear hr
      obtain ⟨v25, e25, hr⟩ := hq
      refine wo_step (v := v25) (s_pure (o_slS rfl on (os rfl) on e25)) ?_
      refine wo_step (v := (.i .i64 x15)) (s_pure (p_mv rfl)) ?_
      have hq := forceI_inv hr
      clear hr
      obtain ⟨x27, e27, hr⟩ := hq
      refine wo_step (v := (.i .i64 x27)) (s_pure (p_bin rfl rfl (b_add.trans (ci e27)))) ?_
      have hq := bindP_inv hr
      clear hr
      obtain ⟨v28, m_14, e28, hr⟩ := hq
      refine wo_step (v := v28) (s_bsl (qc rfl qn) e28) ?_
      have hq := bindP_inv hr
      clear hr
      obtain ⟨v29, m_15, e29, hr⟩ := hq
      refine wo_step (v := v29) (s_app rfl rfl e29) ?_
      have hq := bindP_inv hr
      clear hr
      obtain ⟨vn_5, m_16, en_5, hr⟩ := hq
      refine wo_stepN (s_st g6 rfl en_5) ?_
      refine wo_nil ?_
      refine nx_norm ?_
      refine w_seq ?_
      refine w_seq ?_
      refine w_opsY ?_
      have hq := bindO_inv hr
      clear hr
      obtain ⟨v30, e30, hr⟩ := hq
      refine wy_step (v := v30) (y_C (s_ld g8 e30)) ?_
      have hq := bindO_inv hr
      clear hr
      obtain ⟨v31, e31, hr⟩ := hq
      refine wy_step (v := v31) (y_C (s_pure (o_faddr rfl e31))) ?_
      have hq := bindO_inv hr
      clear hr
      obtain ⟨v32, e32, hr⟩ := hq
      have hq := asI_inv hr
      clear hr
      obtain ⟨x32, rfl, hr⟩ := hq
      refine wy_step (v := (.i .i64 x32)) (y_C (s_ld rfl e32)) ?_
      have hq := bindO_inv hr
      clear hr
      obtain ⟨v33, e33, hr⟩ := hq
      refine wy_step (v := v33) (y_C (s_pure (o_faddr rfl e33))) ?_
      have hq := bindO_inv hr
      clear hr
      obtain ⟨v34, e34, hr⟩ := hq
      have hq := asI_inv hr
      clear hr
      obtain ⟨x34, rfl, hr⟩ := hq
      refine wy_step (v := (.i .i64 x34)) (y_C (s_ld rfl e34)) ?_
      have hq := bindO_inv hr
      clear hr
      obtain ⟨v35, e35, hr⟩ := hq
      refine wy_step (v := v35) (y_C (s_pure (o_faddr rfl e35))) ?_
      have hq := bindO_inv hr
      clear hr
      obtain ⟨v36, e36, hr⟩ := hq
      have hq := asI_inv hr
      clear hr
      obtain ⟨x36, rfl, hr⟩ := hq
      refine wy_step (v := (.i .i64 x36)) (y_C (s_ld rfl e36)) ?_
      have hq := bindP_inv hr
      clear hr
      obtain ⟨v37, m_17, e37, hr⟩ := hq
      have hq := asB_inv hr
      clear hr
      obtain ⟨c37, rfl, hr⟩ := hq
      refine wy_step (v := (.b c37)) (y_callv rfl (mc rfl (mc rfl (mc rfl mn))) (callyM_le hM.call hM.round e37)) ?_
      refine wy_nil ?_
      refine nx_norm ?_
      have hq := cond_inv hr
      clear hr
      rcases hq with ⟨rfl, hr⟩ | ⟨rfl, hr⟩
      · refine w_condT rfl ?_
        refine w_seq ?_
        refine w_ops ?_
        have hq := bindO_inv hr
        clear hr
        obtain ⟨v38, e38, hr⟩ := hq
        refine wo_step (v := v38) (s_ld g6 e38) ?_
        refine wo_step (v := v38) (s_pure (p_mv rfl)) ?_
        refine wo_nil ?_
        refine nx_norm ?_
        refine w_ret ?_
        refine nx_ret ?_
        refine bk_ret ?_
        refine nx_ret ?_
        cases hr
        exact ⟨_, _, rfl, ne_norm_ret, rfl, rfl, gl rfl⟩
      · refine w_condF rfl ?_
        refine w_skip ?_
        refine nx_norm ?_
        refine w_ops ?_
        have hq := bindO_inv hr
        clear hr
        obtain ⟨v39, e39, hr⟩ := hq
        have hq := asI_inv hr
        clear hr
        obtain ⟨x39, rfl, hr⟩ := hq
        refine wo_step (v := (.i .i64 x39)) (s_ld g7 e39) ?_
        have hq := bindO_inv hr
        clear hr
        obtain ⟨v40, e40, hr⟩ := hq
        refine wo_step (v := v40) (s_pure (o_ixA g5 rfl e40)) ?_
        have hq := bindP_inv hr
        clear hr
        obtain ⟨vn_6, m_18, en_6, hr⟩ := hq
        refine wo_stepN (s_st rfl rfl en_6) ?_
        refine wo_nil ?_
        refine bk_norm ?_
        refine nx_norm ?_
        refine w_ops ?_
        have hq := forceI_inv hr
        clear hr
        obtain ⟨x41, e41, hr⟩ := hq
        refine wo_step (v := (.i .i64 x41)) (s_pure (p_bin g15 rfl (b_add.trans (ci e41)))) ?_
        refine wo_step (v := (.i .i64 x41)) (s_pure (p_mv rfl)) ?_
        refine wo_nil ?_
        cases hr
        exact ⟨_, _, rfl, rfl, rfl, gl rfl, gl g5, gl g6, gl g7, gl g8, gl g13, gl g14⟩
    · refine w_condF rfl ?_
      refine w_exit ?_
      refine nx_exit ?_
      cases hr
      exact ⟨_, _, rfl, ne_norm_exit, rfl, rfl⟩
  · rcases o with o | o
    · obtain ⟨m_19, ho⟩ : ∃ z, z = o := ⟨_, rfl⟩
      subst ho
      rintro _ mm t_2 ⟨rfl, rfl⟩
      refine bk_hit ?_
      refine nx_norm ?_
      refine w_seq ?_
      refine w_ops ?_
      refine wo_step (v := AVal.nsl) (s_pure (p_mv rfl)) ?_
      refine wo_nil ?_
      refine nx_norm ?_
      refine w_ret ?_
      exact qf ret_ok (rt rfl rn) hr
    · obtain ⟨v4, m_20⟩ := o
      rintro _ mm_1 t_3 ⟨rfl, rfl, g4⟩
      refine bk_ret ?_
      refine nx_ret ?_
      exact qf ret_ok (rt g4 rn) hr

/- dibber/dibberref04.ring -/
abbrev g58_J0 (v3 : AVal) (o : Bool × Mm) (m1 : Mm) (t1 : Tr) : Prop :=
  match o with
  | (c48, m_2) => m_2 = m1 ∧ t1.get 48 = (.b c48) ∧ t1.get 3 = v3
abbrev g58_I1 (x0 : Int) (v1 : AVal) (x2 : Int) (v3 : AVal) (s : Int × Mm) (m1 : Mm) (t1 : Tr) : Prop :=
  match s with
  | (x12, m_4) => m_4 = m1 ∧ t1.get 12 = (.i .i64 x12) ∧ t1.get 0 = (.i .i64 x0) ∧ t1.get 1 = v1 ∧ t1.get 2 = (.i .i64 x2) ∧ t1.get 3 = v3
abbrev g58_J1 (x0 : Int) (v1 : AVal) (x2 : Int) (v3 : AVal) (o : (Mm ⊕ (AVal × Mm))) (e : AExit) (m1 : Mm) (t1 : Tr) : Prop :=
  match o with
  | (.inl mo) => e = (.exit 0) ∧ mo = m1
  | (.inr (y8, mo)) => e = .ret ∧ mo = m1 ∧ t1.get 8 = y8
abbrev g58_J2 (x0 : Int) (v1 : AVal) (x2 : Int) (v3 : AVal) (x12 : Int) (o : (Mm ⊕ (AVal × Mm))) (e : AExit) (m1 : Mm) (t1 : Tr) : Prop :=
  match o with
  | (.inl mo) => e = .norm ∧ mo = m1 ∧ t1.get 0 = (.i .i64 x0) ∧ t1.get 1 = v1 ∧ t1.get 2 = (.i .i64 x2) ∧ t1.get 3 = v3 ∧ t1.get 12 = (.i .i64 x12)
  | (.inr (y8, mo)) => e = .ret ∧ mo = m1 ∧ t1.get 8 = y8
abbrev g58_J3 (x0 : Int) (v1 : AVal) (x2 : Int) (v3 : AVal) (x12 : Int) (m_4 : Mm) (o : Bool) (m1 : Mm) (t1 : Tr) : Prop :=
  match o with
  | c69 => m_4 = m1 ∧ t1.get 69 = (.b c69) ∧ t1.get 0 = (.i .i64 x0) ∧ t1.get 1 = v1 ∧ t1.get 2 = (.i .i64 x2) ∧ t1.get 3 = v3 ∧ t1.get 12 = (.i .i64 x12)
abbrev g58_J4 (x0 : Int) (v1 : AVal) (x2 : Int) (v3 : AVal) (x12 : Int) (m_4 : Mm) (o : Bool) (m1 : Mm) (t1 : Tr) : Prop :=
  match o with
  | c69_1 => m_4 = m1 ∧ t1.get 69 = (.b c69_1) ∧ t1.get 0 = (.i .i64 x0) ∧ t1.get 1 = v1 ∧ t1.get 2 = (.i .i64 x2) ∧ t1.get 3 = v3 ∧ t1.get 12 = (.i .i64 x12)
abbrev g58_J5 (x0 : Int) (v1 : AVal) (x2 : Int) (v3 : AVal) (x12 : Int) (o : (Mm ⊕ Mm)) (e : AExit) (m1 : Mm) (t1 : Tr) : Prop :=
  match o with
  | (.inl mo) => e = .norm ∧ mo = m1 ∧ t1.get 0 = (.i .i64 x0) ∧ t1.get 1 = v1 ∧ t1.get 2 = (.i .i64 x2) ∧ t1.get 3 = v3 ∧ t1.get 12 = (.i .i64 x12)
  | (.inr mo) => e = (.exit 1) ∧ mo = m1 ∧ t1.get 0 = (.i .i64 x0) ∧ t1.get 1 = v1 ∧ t1.get 2 = (.i .i64 x2) ∧ t1.get 3 = v3 ∧ t1.get 12 = (.i .i64 x12)
abbrev g58_I6 (x0 : Int) (v1 : AVal) (x2 : Int) (v3 : AVal) (x12 : Int) (x91 : Int) (s : Bool × Int × Mm) (m1 : Mm) (t1 : Tr) : Prop :=
  match s with
  | (c23, x24, m_7) => m_7 = m1 ∧ t1.get 23 = (.b c23) ∧ t1.get 24 = (.i .i64 x24) ∧ t1.get 0 = (.i .i64 x0) ∧ t1.get 1 = v1 ∧ t1.get 2 = (.i .i64 x2) ∧ t1.get 3 = v3 ∧ t1.get 12 = (.i .i64 x12) ∧ t1.get 18 = (.i .i64 x91)
abbrev g58_J6 (x0 : Int) (v1 : AVal) (x2 : Int) (v3 : AVal) (x12 : Int) (x91 : Int) (o : (Bool × Mm)) (e : AExit) (m1 : Mm) (t1 : Tr) : Prop :=
  match o with
  | (y23, mo) => e = (.exit 2) ∧ mo = m1 ∧ t1.get 23 = (.b y23) ∧ t1.get 0 = (.i .i64 x0) ∧ t1.get 1 = v1 ∧ t1.get 2 = (.i .i64 x2) ∧ t1.get 3 = v3 ∧ t1.get 12 = (.i .i64 x12)
abbrev g58_J7 (x0 : Int) (v1 : AVal) (x2 : Int) (v3 : AVal) (x12 : Int) (x91 : Int) (x24 : Int) (m_8 : Mm) (o : Bool) (m1 : Mm) (t1 : Tr) : Prop :=
  match o with
  | c122 => m_8 = m1 ∧ t1.get 122 = (.b c122) ∧ t1.get 0 = (.i .i64 x0) ∧ t1.get 1 = v1 ∧ t1.get 2 = (.i .i64 x2) ∧ t1.get 3 = v3 ∧ t1.get 12 = (.i .i64 x12) ∧ t1.get 18 = (.i .i64 x91) ∧ t1.get 24 = (.i .i64 x24)
def g58_b6 (M : Means) (ro : List ABlk) (x0 : Int) (v1 : AVal) (x2 : Int) (v3 : AVal) (x12 : Int) (x91 : Int) (c23 : Bool) (x24 : Int) (m_7 : Mm) : Option ((Bool × Int × Mm) ⊕ ((Bool × Mm))) :=
  bindO (evP .e (.len false (.c v3))) fun v101 =>
  asI .i64 v101 fun x101 =>
  forceB (ltI x24 x101) fun c102 =>
  cond c102 (
    bindO (evP .e (.ixS 1 (.c v3) (.c (.i .i64 x24)))) fun v109 =>
    bindO (ldM ro m_7 true 1 v109) fun v110 =>
    asI .i64 v110 fun x110 =>
    bindP (callM M.call m_7 59 [v1, (.i .i64 x110)]) fun v111 m_8 =>
    bindO (evP .e (.ext 0 (.c v111))) fun v112 =>
    asI .i64 v112 fun x112 =>
    bindO (evP .e (.ext 1 (.c v111))) fun v113 =>
    asI .i64 v113 fun x113 =>
    bindO (evP .e (.ext 2 (.c v111))) fun v114 =>
    asI .i64 v114 fun x114 =>
    bindO (evP .e (.ext 3 (.c v111))) fun v115 =>
    asI .i64 v115 fun x115 =>
    bindO (evP .e (.ext 4 (.c v111))) fun v116 =>
    asB v116 fun c116 =>
    bindO (cond c23 (
      some true) (
      forceB (eqI x112 x91) fun c121 =>
      some c121)) fun c122 =>
    forceI (wr .i64 (x24 + 1)) fun x104 =>
    some (.inl (c122, x104, m_8))) (
    some (.inr (c23, m_7)))
def g58_b1 (M : Means) (ro : List ABlk) (x0 : Int) (v1 : AVal) (x2 : Int) (v3 : AVal) (x12 : Int) (m_4 : Mm) : Option ((Int × Mm) ⊕ ((Mm ⊕ (AVal × Mm)))) :=
  bindO (evP .e (.len false (.c v1))) fun v55 =>
  asI .i64 v55 fun x55 =>
  forceB (!ltI x55 x12) fun c56 =>
  cond c56 (
    bindO (α := (Mm ⊕ (AVal × Mm))) (
      forceB (eqI x12 0) fun c60 =>
      bindO (cond c60 (
        some true) (
        bindO (evP .e (.len false (.c v3))) fun v63 =>
        asI .i64 v63 fun x63 =>
        forceB (eqI x63 0) fun c64 =>
        bindO (cond c64 (
          forceB (ltI x12 0) fun c67 =>
          some c67) (
          some false)) fun c69_1 =>
        some c69_1)) fun c69 =>
      cond c69 (
        some (.inl m_4)) (
        bindO (evP .e (.len false (.c v3))) fun v71 =>
        asI .i64 v71 fun x71 =>
        forceB (ltI 0 x71) fun c72 =>
        bindO (α := (Mm ⊕ Mm)) (
          cond c72 (
            bindO (evP .e (.len false (.c v3))) fun v77 =>
            asI .i64 v77 fun x77 =>
            forceI (wr .i64 (x77 - 1)) fun x78 =>
            bindO (evP .e (.ixS 1 (.c v3) (.c (.i .i64 x78)))) fun v79 =>
            bindO (ldM ro m_4 true 1 v79) fun v80 =>
            asI .i64 v80 fun x80 =>
            bindP (callM M.call m_4 59 [v1, (.i .i64 x80)]) fun v81 m_5 =>
            bindO (evP .e (.ext 0 (.c v81))) fun v82 =>
            asI .i64 v82 fun x82 =>
            bindO (evP .e (.ext 1 (.c v81))) fun v83 =>
            asI .i64 v83 fun x83 =>
            bindO (evP .e (.ext 2 (.c v81))) fun v84 =>
            asI .i64 v84 fun x84 =>
            bindO (evP .e (.ext 3 (.c v81))) fun v85 =>
            asI .i64 v85 fun x85 =>
            bindO (evP .e (.ext 4 (.c v81))) fun v86 =>
            asB v86 fun c86 =>
            bindP (callM M.call m_5 59 [v1, (.i .i64 x12)]) fun v90 m_6 =>
            bindO (evP .e (.ext 0 (.c v90))) fun v91 =>
            asI .i64 v91 fun x91 =>
            bindO (evP .e (.ext 1 (.c v90))) fun v92 =>
            asI .i64 v92 fun x92 =>
            bindO (evP .e (.ext 2 (.c v90))) fun v93 =>
            asI .i64 v93 fun x93 =>
            bindO (evP .e (.ext 3 (.c v90))) fun v94 =>
            asI .i64 v94 fun x94 =>
            bindO (evP .e (.ext 4 (.c v90))) fun v95 =>
            asB v95 fun c95 =>
            forceB (!eqI x91 x83) fun c98 =>
            cond c98 (
              some (.inr m_6)) (
              bindO (M.loop (S := Bool × Int × Mm) (R := (Bool × Mm)) (fun s => g58_b6 M ro x0 v1 x2 v3 x12 x91 s.1 s.2.1 s.2.2) (false, 0, m_6)) fun ⟨c23_1, m_9⟩ =>
              cond c23_1 (
                some (.inr m_9)) (
                some (.inl m_9)))) (
            some (.inl m_4))) fun o_4 => match o_4 with
        | (.inl m_10) =>
          bindO (evP .e (.len false (.c v3))) fun v129 =>
          asI .i64 v129 fun x129 =>
          bindO (evP .e (.len false (.c v3))) fun v131 =>
          asI .i64 v131 fun x131 =>
          bindO (evP .e (.slS 1 (.c v3) none (some (.c (.i .i64 x129))) (some (.c (.i .i64 x131))))) fun v132 =>
          bindP (stepM ro m_10 (.bsl 3 1 [(AVal.i IntKind.i64 0)] 1 [((0, 1), .c (.i .i64 x12))])) fun v134 m_11 =>
          bindP (stepM ro m_11 (.app 3 1 8 [(AVal.i IntKind.i64 0)] (.c v132) (.c v134))) fun v135 m_12 =>
          bindP (callM M.call m_12 58 [(.i .i64 x0), v1, (.i .i64 x2), v135]) fun v136 m_13 =>
          bindO (evP .e (.nilcmp true (.c v136))) fun v138 =>
          asB v138 fun c138 =>
          cond c138 (
            some (.inr (v136, m_13))) (
            some (.inl m_13))
        | (.inr m_14) =>
          some (.inl m_14))) fun o_1 => match o_1 with
    | (.inl m_15) =>
      forceI (wr .i64 (x12 + 1)) fun x58 =>
      some (.inl (x58, m_15))
    | (.inr (v8, m_16)) =>
      some (.inr (.inr (v8, m_16)))) (
    some (.inr (.inl m_4)))
def g58 (M : Means) (ro : List ABlk) (x0 : Int) (v1 : AVal) (x2 : Int) (v3 : AVal) (m0 : Mm) : Option (AVal × Heap × Nat × Nat) :=
  bindO (evP .e (.len false (.c v3))) fun v32 =>
  asI .i64 v32 fun x32 =>
  forceB (eqI x32 x2) fun c34 =>
  cond c34 (
    bindP (callM M.call m0 39 [v1, v3]) fun v38 m_1 =>
    bindO (evP .e (.ext 0 (.c v38))) fun v39 =>
    asI .i64 v39 fun x39 =>
    bindO (evP .e (.ext 1 (.c v38))) fun v40 =>
    asI .i64 v40 fun x40 =>
    bindO (evP .e (.ext 2 (.c v38))) fun v41 =>
    asB v41 fun c41 =>
    bindO (cond c41 (
      bindP (callM M.call m_1 56 [(.i .i64 x0), (.i .i64 x39), (.i .i64 x40)]) fun v47 m_3 =>
      asB v47 fun c47 =>
      some (c47, m_3)) (
      some (false, m_1))) fun ⟨c48, m_2⟩ =>
    cond c48 (
      finM m0.h.length (tupA [v3]) m_2) (
      finM m0.h.length (tupA [AVal.nsl]) m_2)) (
    bindO (evP .e (.len false (.c v1))) fun v51 =>
    asI .i64 v51 fun x51 =>
    forceI (wr .i64 (0 - x51)) fun x52 =>
    bindO (M.loop (S := Int × Mm) (R := (Mm ⊕ (AVal × Mm))) (fun s => g58_b1 M ro x0 v1 x2 v3 s.1 s.2) (x52, m0)) fun o_7 => match o_7 with
    | (.inl m_17) =>
      finM m0.h.length (tupA [AVal.nsl]) m_17
    | (.inr (v8_1, m_18)) =>
      finM m0.h.length (tupA [v8_1]) m_18)

theorem g58_ok {ro : List ABlk} {O : Caller} {M : Means} (hM : M.Ok ⟨F, O⟩ ro) {x0 v1 x2 v3 h r} (ho : O 58 [(.i .i64 x0), v1, (.i .i64 x2), v3] h = none) (hr : g58 M ro x0 v1 x2 v3 ⟨h, h.length, h.length⟩ = some r) : callX ⟨F, O⟩ ro 58 [(.i .i64 x0), v1, (.i .i64 x2), v3] h = some r := by
  refine callX_of (F := ⟨F, O⟩) (fn := fn58) (g := g58 M ro x0 v1 x2 v3) ho rfl rfl hr ?_
  clear ho
  clear hr
  intro m0 t0 ht hr
  have g0 : t0.get 0 = (.i .i64 x0) := ht 0
  have g1 : t0.get 1 = v1 := ht 1
  have g2 : t0.get 2 = (.i .i64 x2) := ht 2
  have g3 : t0.get 3 = v3 := ht 3
  clear ht
  unfold g58 at hr
  refine w_seq ?_
  refine w_ops ?_
  refine wo_step (v := AVal.nsl) (s_pure (p_mv rfl)) ?_
  refine wo_nil ?_
  refine nx_norm ?_
  refine w_seq ?_
  refine w_seq ?_
  refine w_ops ?_
  refine wo_step (v := v3) (s_pure (p_mv g3)) ?_
  have hq := bindO_inv hr
  clear hr
  obtain ⟨v32, e32, hr⟩ := hq
  have hq := asI_inv hr
  clear hr
  obtain ⟨x32, rfl, hr⟩ := hq
  refine wo_step (v := (.i .i64 x32)) (s_pure (o_len rfl e32)) ?_
  refine wo_step (v := (.i .i64 x2)) (s_pure (p_mv g2)) ?_
  have hq := forceB_inv hr
  clear hr
  obtain ⟨c34, e34, hr⟩ := hq
  refine wo_step (v := (.b c34)) (s_pure (p_bin rfl rfl (b_eql.trans (cb e34)))) ?_
  refine wo_nil ?_
  refine nx_norm ?_
  have hq := cond_inv hr
  clear hr
  rcases hq with ⟨rfl, hr⟩ | ⟨rfl, hr⟩
  · refine w_condT rfl ?_
    refine w_seq ?_
    refine w_ops ?_
    refine wo_step (v := v1) (s_pure (p_mv g1)) ?_
    refine wo_step (v := v3) (s_pure (p_mv g3)) ?_
    have hq := bindP_inv hr
    clear hr
    obtain ⟨v38, m_1, e38, hr⟩ := hq
    refine wo_step (v := v38) (s_call (mc rfl (mc rfl mn)) (callM_le hM.call e38)) ?_
    refine wo_step (v := v38) (s_pure (p_mv rfl)) ?_
    have hq := bindO_inv hr
    clear hr
    obtain ⟨v39, e39, hr⟩ := hq
    have hq := asI_inv hr
    clear hr
    obtain ⟨x39, rfl, hr⟩ := hq
    refine wo_step (v := (.i .i64 x39)) (s_pure (o_ext rfl e39)) ?_
    have hq := bindO_inv hr
    clear hr
    obtain ⟨v40, e40, hr⟩ := hq
    have hq := asI_inv hr
    clear hr
    obtain ⟨x40, rfl, hr⟩ := hq
    refine wo_step (v := (.i .i64 x40)) (s_pure (o_ext rfl e40)) ?_
    have hq := bindO_inv hr
    clear hr
    obtain ⟨v41, e41, hr⟩ := hq
    have hq := asB_inv hr
    clear hr
    obtain ⟨c41, rfl, hr⟩ := hq
    refine wo_step (v := (.b c41)) (s_pure (o_ext rfl e41)) ?_
    refine wo_step (v := (.i .i64 x39)) (s_pure (p_mv rfl)) ?_
    refine wo_step (v := (.i .i64 x40)) (s_pure (p_mv rfl)) ?_
    refine wo_step (v := (.b c41)) (s_pure (p_mv rfl)) ?_
    refine wo_nil ?_
    refine nx_norm ?_
    refine w_seq ?_
    refine w_seq ?_
    refine w_ops ?_
    refine wo_step (v := (.b c41)) (s_pure (p_mv rfl)) ?_
    refine wo_step (v := (.b c41)) (s_pure (p_mv rfl)) ?_
    have hq := bindO_inv hr
    clear hr
    obtain ⟨o, hr, hk⟩ := hq
    refine wo_join 5 (g58_J0 v3 o) ?_ ?_
    · clear hk
      have hq := cond_inv hr
      clear hr
      rcases hq with ⟨rfl, hr⟩ | ⟨rfl, hr⟩
      · refine wo_take (v := (.i .i64 x0)) rfl (s_pure (p_mv g0)) ?_
        refine wo_take (v := (.i .i64 x39)) rfl (s_pure (p_mv rfl)) ?_
        refine wo_take (v := (.i .i64 x40)) rfl (s_pure (p_mv rfl)) ?_
        have hq := bindP_inv hr
        clear hr
        obtain ⟨v47, m_3, e47, hr⟩ := hq
        have hq := asB_inv hr
        clear hr
        obtain ⟨c47, rfl, hr⟩ := hq
        refine wo_take (v := (.b c47)) rfl (s_call (mc rfl (mc rfl (mc rfl mn))) (callM_le hM.call e47)) ?_
        refine wo_step (v := (.b c47)) (s_pure (p_pickT rfl rfl)) ?_
        refine wo_nil ?_
        cases hr
        exact ⟨_, _, rfl, rfl, gl rfl, gl g3⟩
      · refine wo_skip (v := (.b false)) rfl rfl ?_
        refine wo_skip (v := (.b false)) rfl rfl ?_
        refine wo_skip (v := (.b false)) rfl rfl ?_
        refine wo_skip (v := (.b false)) rfl rfl ?_
        refine wo_step (v := (.b false)) (s_pure (p_pickF rfl rfl)) ?_
        refine wo_nil ?_
        cases hr
        exact ⟨_, _, rfl, rfl, gl rfl, gl g3⟩
    · clear hr
      have hr := hk
      clear hk
      obtain ⟨c48, m_2⟩ := o
      rintro mm t_1 ⟨rfl, g48, g3⟩
      refine wo_nil ?_
      refine nx_norm ?_
      have hq := cond_inv hr
      clear hr
      rcases hq with ⟨rfl, hr⟩ | ⟨rfl, hr⟩
      · refine w_condT g48 ?_
        refine w_seq ?_
        refine w_ops ?_
        refine wo_step (v := v3) (s_pure (p_mv g3)) ?_
        refine wo_step (v := v3) (s_pure (p_mv rfl)) ?_
        refine wo_nil ?_
        refine nx_norm ?_
        refine w_ret ?_
        refine nx_ret ?_
        refine nx_ret ?_
        exact qf ret_ok (rt rfl rn) hr
      · refine w_condF g48 ?_
        refine w_skip ?_
        refine nx_norm ?_
        refine w_seq ?_
        refine w_ops ?_
        refine wo_step (v := AVal.nsl) (s_pure (p_mv rfl)) ?_
        refine wo_nil ?_
        refine nx_norm ?_
        refine w_ret ?_
        refine nx_ret ?_
        exact qf ret_ok (rt rfl rn) hr
  · refine w_condF rfl ?_
    refine w_skip ?_
    refine nx_norm ?_
    refine w_seq ?_
    refine w_seq ?_
    refine w_ops ?_
    refine wo_step (v := v1) (s_pure (p_mv g1)) ?_
    have hq := bindO_inv hr
    clear hr
    obtain ⟨v51, e51, hr⟩ := hq
    have hq := asI_inv hr
    clear hr
    obtain ⟨x51, rfl, hr⟩ := hq
    refine wo_step (v := (.i .i64 x51)) (s_pure (o_len rfl e51)) ?_
    have hq := forceI_inv hr
    clear hr
    obtain ⟨x52, e52, hr⟩ := hq
    refine wo_step (v := (.i .i64 x52)) (s_pure ((p_neg rfl).trans (ci e52))) ?_
    refine wo_step (v := (.i .i64 x52)) (s_pure (p_mv rfl)) ?_
    refine wo_nil ?_
    refine nx_norm ?_
    refine w_block ?_
    have hq := bindO_inv hr
    clear hr
    obtain ⟨o_7, hl_1, hr⟩ := hq
    obtain ⟨n_1, hl_1⟩ := hM.loop _ _ _ hl_1
    refine jp_mono (w_loop _ (g58_I1 x0 v1 x2 v3) (g58_J1 x0 v1 x2 v3) ?_ n_1 _ _ _ _ hl_1 ⟨rfl, gl rfl, gl g0, gl g1, gl g2, gl g3⟩) ?_
    · clear hr hl_1
      intro s mm_12 t_2 o hi hr
      obtain ⟨x12, m_4⟩ := s
      obtain ⟨rfl, g12, g0, g1, g2, g3⟩ := hi
      unfold g58_b1 at hr
      refine w_seq ?_
      refine w_seq ?_
      refine w_ops ?_
      refine wo_step (v := (.i .i64 x12)) (s_pure (p_mv g12)) ?_
      refine wo_step (v := v1) (s_pure (p_mv g1)) ?_
      have hq := bindO_inv hr
      clear hr
      obtain ⟨v55, e55, hr⟩ := hq
      have hq := asI_inv hr
      clear hr
      obtain ⟨x55, rfl, hr⟩ := hq
      refine wo_step (v := (.i .i64 x55)) (s_pure (o_len rfl e55)) ?_
      have hq := forceB_inv hr
      clear hr
      obtain ⟨c56, e56, hr⟩ := hq
      refine wo_step (v := (.b c56)) (s_pure (p_bin rfl rfl (b_leq.trans (cb e56)))) ?_
      refine wo_nil ?_
      refine nx_norm ?_
      have hq := cond_inv hr
      clear hr
      rcases hq with ⟨rfl, hr⟩ | ⟨rfl, hr⟩
      · refine w_condT rfl ?_
        refine w_skip ?_
        refine nx_norm ?_
        refine w_seq ?_
        have hq := bindO_inv hr
        clear hr
        obtain ⟨o_1, hr, hk⟩ := hq
        refine jp_mono (J := g58_J2 x0 v1 x2 v3 x12 o_1) ?_ ?_
        · clear hk
          refine w_block ?_
          refine w_seq ?_
          refine w_seq ?_
          refine w_ops ?_
          refine wo_step (v := (.i .i64 x12)) (s_pure (p_mv g12)) ?_
          have hq := forceB_inv hr
          clear hr
          obtain ⟨c60, e60, hr⟩ := hq
          refine wo_step (v := (.b c60)) (s_pure (p_bin rfl rfl (b_eql.trans (cb e60)))) ?_
          refine wo_step (v := (.b c60)) (s_pure (p_mv rfl)) ?_
          have hq := bindO_inv hr
          clear hr
          obtain ⟨o_2, hr, hk⟩ := hq
          refine wo_join 8 (g58_J3 x0 v1 x2 v3 x12 m_4 o_2) ?_ ?_
          · clear hk
            have hq := cond_inv hr
            clear hr
            rcases hq with ⟨rfl, hr⟩ | ⟨rfl, hr⟩
            · refine wo_skip (v := (.b true)) rfl rfl ?_
              refine wo_skip (v := (.b true)) rfl rfl ?_
              refine wo_skip (v := (.b true)) rfl rfl ?_
              refine wo_skip (v := (.b true)) rfl rfl ?_
              refine wo_skip (v := und) rfl rfl ?_
              refine wo_skip (v := und) rfl rfl ?_
              refine wo_skip (v := (.b true)) rfl rfl ?_
              refine wo_step (v := (.b true)) (s_pure (p_pickT rfl rfl)) ?_
              refine wo_nil ?_
              cases hr
              exact ⟨_, _, rfl, rfl, gl rfl, gl g0, gl g1, gl g2, gl g3, gl g12⟩
            · refine wo_take (v := v3) rfl (s_pure (p_mv g3)) ?_
              have hq := bindO_inv hr
              clear hr
              obtain ⟨v63, e63, hr⟩ := hq
              have hq := asI_inv hr
              clear hr
              obtain ⟨x63, rfl, hr⟩ := hq
              refine wo_take (v := (.i .i64 x63)) rfl (s_pure (o_len rfl e63)) ?_
              have hq := forceB_inv hr
              clear hr
              obtain ⟨c64, e64, hr⟩ := hq
              refine wo_take (v := (.b c64)) rfl (s_pure (p_bin rfl rfl (b_eql.trans (cb e64)))) ?_
              refine wo_take (v := (.b c64)) rfl (s_pure (p_mv rfl)) ?_
              have hq := bindO_inv hr
              clear hr
              obtain ⟨o_3, hr, hk⟩ := hq
              refine wo_join 4 (g58_J4 x0 v1 x2 v3 x12 m_4 o_3) ?_ ?_
              · clear hk
                have hq := cond_inv hr
                clear hr
                rcases hq with ⟨rfl, hr⟩ | ⟨rfl, hr⟩
                · refine wo_take (v := (.i .i64 x12)) rfl (s_pure (p_mv g12)) ?_
                  have hq := forceB_inv hr
                  clear hr
                  obtain ⟨c67, e67, hr⟩ := hq
                  refine wo_take (v := (.b c67)) rfl (s_pure (p_bin rfl rfl (b_lss.trans (cb e67)))) ?_
                  refine wo_take (v := (.b c67)) rfl (s_pure (p_pickT rfl rfl)) ?_
                  refine wo_step (v := (.b c67)) (s_pure (p_pickF rfl rfl)) ?_
                  refine wo_nil ?_
                  cases hr
                  exact ⟨_, _, rfl, rfl, gl rfl, gl g0, gl g1, gl g2, gl g3, gl g12⟩
                · refine wo_skip (v := (.b false)) rfl rfl ?_
                  refine wo_skip (v := (.b false)) rfl rfl ?_
                  refine wo_take (v := (.b false)) rfl (s_pure (p_pickF rfl rfl)) ?_
                  refine wo_step (v := (.b false)) (s_pure (p_pickF rfl rfl)) ?_
                  refine wo_nil ?_
                  cases hr
                  exact ⟨_, _, rfl, rfl, gl rfl, gl g0, gl g1, gl g2, gl g3, gl g12⟩
              · clear hr
                have hr := hk
                clear hk
                obtain ⟨c69_1, ho⟩ : ∃ z, z = o_3 := ⟨_, rfl⟩
                subst ho
                rintro mm_1 t_3 ⟨rfl, g69, g0, g1, g2, g3, g12⟩
                refine wo_nil ?_
                cases hr
                exact ⟨_, _, rfl, rfl, gl g69, gl g0, gl g1, gl g2, gl g3, gl g12⟩
          · clear hr
            have hr := hk
            clear hk
            obtain ⟨c69, ho⟩ : ∃ z, z = o_2 := ⟨_, rfl⟩
            subst ho
            rintro mm_2 t_4 ⟨rfl, g69, g0, g1, g2, g3, g12⟩
            refine wo_nil ?_
            refine nx_norm ?_
            have hq := cond_inv hr
            clear hr
            rcases hq with ⟨rfl, hr⟩ | ⟨rfl, hr⟩
            · refine w_condT g69 ?_
              refine w_exit ?_
              refine nx_exit ?_
              refine bk_hit ?_
              cases hr
              exact ⟨_, _, rfl, rfl, rfl, gl g0, gl g1, gl g2, gl g3, gl g12⟩
            · refine w_condF g69 ?_
              refine w_skip ?_
              refine nx_norm ?_
              refine w_seq ?_
              refine w_seq ?_
              refine w_ops ?_
              refine wo_step (v := v3) (s_pure (p_mv g3)) ?_
              have hq := bindO_inv hr
              clear hr
              obtain ⟨v71, e71, hr⟩ := hq
              have hq := asI_inv hr
              clear hr
              obtain ⟨x71, rfl, hr⟩ := hq
              refine wo_step (v := (.i .i64 x71)) (s_pure (o_len rfl e71)) ?_
              have hq := forceB_inv hr
              clear hr
              obtain ⟨c72, e72, hr⟩ := hq
              refine wo_step (v := (.b c72)) (s_pure (p_bin rfl rfl (b_gtr.trans (cb e72)))) ?_
              refine wo_nil ?_
              refine nx_norm ?_
              have hq := bindO_inv hr
              clear hr
              obtain ⟨o_4, hr, hk⟩ := hq
              refine jp_mono (J := g58_J5 x0 v1 x2 v3 x12 o_4) ?_ ?_
              · clear hk
                have hq := cond_inv hr
                clear hr
                rcases hq with ⟨rfl, hr⟩ | ⟨rfl, hr⟩
                · refine w_condT rfl ?_
                  refine w_seq ?_
                  refine w_ops ?_
                  refine wo_step (v := v1) (s_pure (p_mv g1)) ?_
                  refine wo_step (v := v3) (s_pure (p_mv g3)) ?_
                  refine wo_step (v := v3) (s_pure (p_mv g3)) ?_
                  have hq := bindO_inv hr
                  clear hr
                  obtain ⟨v77, e77, hr⟩ := hq
                  have hq := asI_inv hr
                  clear hr
                  obtain ⟨x77, rfl, hr⟩ := hq
                  refine wo_step (v := (.i .i64 x77)) (s_pure (o_len rfl e77)) ?_
                  have hq := forceI_inv hr
                  clear hr
                  obtain ⟨x78, e78, hr⟩ := hq
                  refine wo_step (v := (.i .i64 x78)) (s_pure (p_bin rfl rfl (b_sub.trans (ci e78)))) ?_
                  have hq := bindO_inv hr
                  clear hr
                  obtain ⟨v79, e79, hr⟩ := hq
                  refine wo_step (v := v79) (s_pure (o_ixS rfl rfl e79)) ?_
                  have hq := bindO_inv hr
                  clear hr
                  obtain ⟨v80, e80, hr⟩ := hq
                  have hq := asI_inv hr
                  clear hr
                  obtain ⟨x80, rfl, hr⟩ := hq
                  refine wo_step (v := (.i .i64 x80)) (s_ld rfl e80) ?_
                  have hq := bindP_inv hr
                  clear hr
                  obtain ⟨v81, m_5, e81, hr⟩ := hq
                  refine wo_step (v := v81) (s_call (mc rfl (mc rfl mn)) (callM_le hM.call e81)) ?_
                  refine wo_step (v := v81) (s_pure (p_mv rfl)) ?_
                  have hq := bindO_inv hr
                  clear hr
                  obtain ⟨v82, e82, hr⟩ := hq
                  have hq := asI_inv hr
                  clear hr
                  obtain ⟨x82, rfl, hr⟩ := hq
                  refine wo_step (v := (.i .i64 x82)) (s_pure (o_ext rfl e82)) ?_
                  have hq := bindO_inv hr
                  clear hr
                  obtain ⟨v83, e83, hr⟩ := hq
                  have hq := asI_inv hr
                  clear hr
                  obtain ⟨x83, rfl, hr⟩ := hq
                  refine wo_step (v := (.i .i64 x83)) (s_pure (o_ext rfl e83)) ?_
                  have hq := bindO_inv hr
                  clear hr
                  obtain ⟨v84, e84, hr⟩ := hq
                  have hq := asI_inv hr
                  clear hr
                  obtain ⟨x84, rfl, hr⟩ := hq
                  refine wo_step (v := (.i .i64 x84)) (s_pure (o_ext rfl e84)) ?_
                  have hq := bindO_inv hr
                  clear hr
                  obtain ⟨v85, e85, hr⟩ := hq
                  have hq := asI_inv hr
                  clear hr
                  obtain ⟨x85, rfl, hr⟩ := hq
                  refine wo_step (v := (.i .i64 x85)) (s_pure (o_ext rfl e85)) ?_
                  have hq := bindO_inv hr
                  clear hr
                  obtain ⟨v86, e86, hr⟩ := hq
                  have hq := asB_inv hr
                  clear hr
                  obtain ⟨c86, rfl, hr⟩ := hq
                  refine wo_step (v := (.b c86)) (s_pure (o_ext rfl e86)) ?_
                  refine wo_step (v := (.i .i64 x82)) (s_pure (p_mv rfl)) ?_
                  refine wo_step (v := (.i .i64 x83)) (s_pure (p_mv rfl)) ?_
                  refine wo_step (v := (.i .i64 x84)) (s_pure (p_mv rfl)) ?_
                  refine wo_step (v := (.i .i64 x85)) (s_pure (p_mv rfl)) ?_
                  refine wo_step (v := (.b c86)) (s_pure (p_mv rfl)) ?_
                  refine wo_nil ?_
                  refine nx_norm ?_
                  refine w_seq ?_
                  refine w_ops ?_
                  refine wo_step (v := v1) (s_pure (p_mv g1)) ?_
                  refine wo_step (v := (.i .i64 x12)) (s_pure (p_mv g12)) ?_
                  have hq := bindP_inv hr
                  clear hr
                  obtain ⟨v90, m_6, e90, hr⟩ := hq
                  refine wo_step (v := v90) (s_call (mc rfl (mc rfl mn)) (callM_le hM.call e90)) ?_
                  refine wo_step (v := v90) (s_pure (p_mv rfl)) ?_
                  have hq := bindO_inv hr
                  clear hr
                  obtain ⟨v91, e91, hr⟩ := hq
                  have hq := asI_inv hr
                  clear hr
                  obtain ⟨x91, rfl, hr⟩ := hq
                  refine wo_step (v := (.i .i64 x91)) (s_pure (o_ext rfl e91)) ?_
                  have hq := bindO_inv hr
                  clear hr
                  obtain ⟨v92, e92, hr⟩ := hq
                  have hq := asI_inv hr
                  clear hr
                  obtain ⟨x92, rfl, hr⟩ := hq
                  refine wo_step (v := (.i .i64 x92)) (s_pure (o_ext rfl e92)) ?_
                  have hq := bindO_inv hr
                  clear hr
                  obtain ⟨v93, e93, hr⟩ := hq
                  have hq := asI_inv hr
                  clear hr
                  obtain ⟨x93, rfl, hr⟩ := hq
                  refine wo_step (v := (.i .i64 x93)) (s_pure (o_ext rfl e93)) ?_
                  have hq := bindO_inv hr
                  clear hr
                  obtain ⟨v94, e94, hr⟩ := hq
                  have hq := asI_inv hr
                  clear hr
                  obtain ⟨x94, rfl, hr⟩ := hq
                  refine wo_step (v := (.i .i64 x94)) (s_pure (o_ext rfl e94)) ?_
                  have hq := bindO_inv hr
                  clear hr
                  obtain ⟨v95, e95, hr⟩ := hq
                  have hq := asB_inv hr
                  clear hr
                  obtain ⟨c95, rfl, hr⟩ := hq
                  refine wo_step (v := (.b c95)) (s_pure (o_ext rfl e95)) ?_
                  refine wo_step (v := (.i .i64 x91)) (s_pure (p_mv rfl)) ?_
                  refine wo_step (v := (.i .i64 x92)) (s_pure (p_mv rfl)) ?_
                  refine wo_step (v := (.i .i64 x93)) (s_pure (p_mv rfl)) ?_
                  refine wo_step (v := (.i .i64 x94)) (s_pure (p_mv rfl)) ?_
                  refine wo_step (v := (.b c95)) (s_pure (p_mv rfl)) ?_
                  refine wo_nil ?_
                  refine nx_norm ?_
                  refine w_seq ?_
                  refine w_seq ?_
                  refine w_ops ?_
                  refine wo_step (v := (.i .i64 x91)) (s_pure (p_mv rfl)) ?_
                  refine wo_step (v := (.i .i64 x83)) (s_pure (p_mv rfl)) ?_
                  have hq := forceB_inv hr
                  clear hr
                  obtain ⟨c98, e98, hr⟩ := hq
                  refine wo_step (v := (.b c98)) (s_pure (p_bin rfl rfl (b_neq.trans (cb e98)))) ?_
                  refine wo_nil ?_
                  refine nx_norm ?_
                  have hq := cond_inv hr
                  clear hr
                  rcases hq with ⟨rfl, hr⟩ | ⟨rfl, hr⟩
                  · refine w_condT rfl ?_
                    refine w_exit ?_
                    refine nx_exit ?_
                    cases hr
                    exact ⟨_, _, rfl, rfl, rfl, gl g0, gl g1, gl g2, gl g3, gl g12⟩
                  · refine w_condF rfl ?_
                    refine w_skip ?_
                    refine nx_norm ?_
                    refine w_seq ?_
                    refine w_ops ?_
                    refine wo_step (v := (.b false)) (s_pure (p_mv rfl)) ?_
                    refine wo_nil ?_
                    refine nx_norm ?_
                    refine w_seq ?_
                    refine w_seq ?_
                    refine w_ops ?_
                    refine wo_step (v := (.i .i64 0)) (s_pure (p_mv rfl)) ?_
                    refine wo_nil ?_
                    refine nx_norm ?_
                    refine w_block ?_
                    have hq := bindO_inv hr
                    clear hr
                    obtain ⟨o_6, hl, hr⟩ := hq
                    obtain ⟨n, hl⟩ := hM.loop _ _ _ hl
                    refine jp_mono (w_loop _ (g58_I6 x0 v1 x2 v3 x12 x91) (g58_J6 x0 v1 x2 v3 x12 x91) ?_ n _ _ _ _ hl ⟨rfl, gl rfl, gl rfl, gl g0, gl g1, gl g2, gl g3, gl g12, gl rfl⟩) ?_
                    · clear hr hl
                      intro s mm_5 t_5 o hi hr
                      obtain ⟨c23, x24, m_7⟩ := s
                      obtain ⟨rfl, g23, g24, g0, g1, g2, g3, g12, g18⟩ := hi
                      unfold g58_b6 at hr
                      refine w_seq ?_
                      refine w_seq ?_
                      refine w_ops ?_
                      refine wo_step (v := (.i .i64 x24)) (s_pure (p_mv g24)) ?_
                      refine wo_step (v := v3) (s_pure (p_mv g3)) ?_
                      have hq := bindO_inv hr
                      clear hr
                      obtain ⟨v101, e101, hr⟩ := hq
                      have hq := asI_inv hr
                      clear hr
                      obtain ⟨x101, rfl, hr⟩ := hq
                      refine wo_step (v := (.i .i64 x101)) (s_pure (o_len rfl e101)) ?_
                      have hq := forceB_inv hr
                      clear hr
                      obtain ⟨c102, e102, hr⟩ := hq
                      refine wo_step (v := (.b c102)) (s_pure (p_bin rfl rfl (b_lss.trans (cb e102)))) ?_
                      refine wo_nil ?_
                      refine nx_norm ?_
                      have hq := cond_inv hr
                      clear hr
                      rcases hq with ⟨rfl, hr⟩ | ⟨rfl, hr⟩
                      · refine w_condT rfl ?_
                        refine w_skip ?_
                        refine nx_norm ?_
                        refine w_seq ?_
                        refine w_block ?_
                        refine w_seq ?_
                        refine w_ops ?_
                        refine wo_step (v := v1) (s_pure (p_mv g1)) ?_
                        refine wo_step (v := v3) (s_pure (p_mv g3)) ?_
                        refine wo_step (v := (.i .i64 x24)) (s_pure (p_mv g24)) ?_
                        have hq := bindO_inv hr
                        clear hr
                        obtain ⟨v109, e109, hr⟩ := hq
                        refine wo_step (v := v109) (s_pure (o_ixS rfl rfl e109)) ?_
                        have hq := bindO_inv hr
                        clear hr
                        obtain ⟨v110, e110, hr⟩ := hq
                        have hq := asI_inv hr
                        clear hr
                        obtain ⟨x110, rfl, hr⟩ := hq
                        refine wo_step (v := (.i .i64 x110)) (s_ld rfl e110) ?_
                        have hq := bindP_inv hr
                        clear hr
                        obtain ⟨v111, m_8, e111, hr⟩ := hq
                        refine wo_step (v := v111) (s_call (mc rfl (mc rfl mn)) (callM_le hM.call e111)) ?_
                        refine wo_step (v := v111) (s_pure (p_mv rfl)) ?_
                        have hq := bindO_inv hr
                        clear hr
                        obtain ⟨v112, e112, hr⟩ := hq
                        have hq := asI_inv hr
                        clear hr
                        obtain ⟨x112, rfl, hr⟩ := hq
                        refine wo_step (v := (.i .i64 x112)) (s_pure (o_ext rfl e112)) ?_
                        have hq := bindO_inv hr
                        clear hr
                        obtain ⟨v113, e113, hr⟩ := hq
                        have hq := asI_inv hr
                        clear hr
                        obtain ⟨x113, rfl, hr⟩ := hq
                        refine wo_step (v := (.i .i64 x113)) (s_pure (o_ext rfl e113)) ?_
                        have hq := bindO_inv hr
                        clear hr
                        obtain ⟨v114, e114, hr⟩ := hq
                        have hq := asI_inv hr
                        clear hr
                        obtain ⟨x114, rfl, hr⟩ := hq
                        refine wo_step (v := (.i .i64 x114)) (s_pure (o_ext rfl e114)) ?_
                        have hq := bindO_inv hr
                        clear hr
                        obtain ⟨v115, e115, hr⟩ := hq
                        have hq := asI_inv hr
                        clear hr
                        obtain ⟨x115, rfl, hr⟩ := hq
                        refine wo_step (v := (.i .i64 x115)) (s_pure (o_ext rfl e115)) ?_
                        have hq := bindO_inv hr
                        clear hr
                        obtain ⟨v116, e116, hr⟩ := hq
                        have hq := asB_inv hr
                        clear hr
                        obtain ⟨c116, rfl, hr⟩ := hq
                        refine wo_step (v := (.b c116)) (s_pure (o_ext rfl e116)) ?_
                        refine wo_step (v := (.i .i64 x112)) (s_pure (p_mv rfl)) ?_
                        refine wo_step (v := (.i .i64 x113)) (s_pure (p_mv rfl)) ?_
                        refine wo_step (v := (.i .i64 x114)) (s_pure (p_mv rfl)) ?_
                        refine wo_step (v := (.i .i64 x115)) (s_pure (p_mv rfl)) ?_
                        refine wo_step (v := (.b c116)) (s_pure (p_mv rfl)) ?_
                        refine wo_nil ?_
                        refine nx_norm ?_
                        refine w_ops ?_
                        refine wo_step (v := (.b c23)) (s_pure (p_mv g23)) ?_
                        refine wo_step (v := (.b c23)) (s_pure (p_mv rfl)) ?_
                        have hq := bindO_inv hr
                        clear hr
                        obtain ⟨o_5, hr, hk⟩ := hq
                        refine wo_join 4 (g58_J7 x0 v1 x2 v3 x12 x91 x24 m_8 o_5) ?_ ?_
                        · clear hk
                          have hq := cond_inv hr
                          clear hr
                          rcases hq with ⟨rfl, hr⟩ | ⟨rfl, hr⟩
                          · refine wo_skip (v := (.b true)) rfl rfl ?_
                            refine wo_skip (v := (.b true)) rfl rfl ?_
                            refine wo_skip (v := (.b true)) rfl rfl ?_
                            refine wo_step (v := (.b true)) (s_pure (p_pickT rfl rfl)) ?_
                            refine wo_nil ?_
                            cases hr
                            exact ⟨_, _, rfl, rfl, gl rfl, gl g0, gl g1, gl g2, gl g3, gl g12, gl g18, gl g24⟩
                          · refine wo_take (v := (.i .i64 x112)) rfl (s_pure (p_mv rfl)) ?_
                            refine wo_take (v := (.i .i64 x91)) rfl (s_pure (p_mv g18)) ?_
                            have hq := forceB_inv hr
                            clear hr
                            obtain ⟨c121, e121, hr⟩ := hq
                            refine wo_take (v := (.b c121)) rfl (s_pure (p_bin rfl rfl (b_eql.trans (cb e121)))) ?_
                            refine wo_step (v := (.b c121)) (s_pure (p_pickF rfl rfl)) ?_
                            refine wo_nil ?_
                            cases hr
                            exact ⟨_, _, rfl, rfl, gl rfl, gl g0, gl g1, gl g2, gl g3, gl g12, gl g18, gl g24⟩
                        · clear hr
                          have hr := hk
                          clear hk
                          obtain ⟨c122, ho⟩ : ∃ z, z = o_5 := ⟨_, rfl⟩
                          subst ho
                          rintro mm_3 t_6 ⟨rfl, g122, g0, g1, g2, g3, g12, g18, g24⟩
                          refine wo_step (v := (.b c122)) (s_pure (p_mv g122)) ?_
                          refine wo_nil ?_
                          refine bk_norm ?_
                          refine nx_norm ?_
                          refine w_ops ?_
                          refine wo_step (v := (.i .i64 x24)) (s_pure (p_mv g24)) ?_
                          have hq := forceI_inv hr
                          clear hr
                          obtain ⟨x104, e104, hr⟩ := hq
                          refine wo_step (v := (.i .i64 x104)) (s_pure (p_bin rfl rfl (b_add.trans (ci e104)))) ?_
                          refine wo_step (v := (.i .i64 x104)) (s_pure (p_mv rfl)) ?_
                          refine wo_nil ?_
                          cases hr
                          exact ⟨_, _, rfl, rfl, rfl, gl rfl, gl rfl, gl g0, gl g1, gl g2, gl g3, gl g12, gl g18⟩
                      · refine w_condF rfl ?_
                        refine w_exit ?_
                        refine nx_exit ?_
                        cases hr
                        exact ⟨_, _, rfl, ne_norm_exit, rfl, rfl, gl g23, gl g0, gl g1, gl g2, gl g3, gl g12⟩
                    · obtain ⟨c23_1, m_9⟩ := o_6
                      rintro _ mm_4 t_7 ⟨rfl, rfl, g23, g0, g1, g2, g3, g12⟩
                      refine bk_hit ?_
                      refine nx_norm ?_
                      refine w_seq ?_
                      refine w_ops ?_
                      refine wo_step (v := (.b c23_1)) (s_pure (p_mv g23)) ?_
                      refine wo_nil ?_
                      refine nx_norm ?_
                      have hq := cond_inv hr
                      clear hr
                      rcases hq with ⟨rfl, hr⟩ | ⟨rfl, hr⟩
                      · refine w_condT rfl ?_
                        refine w_exit ?_
                        cases hr
                        exact ⟨_, _, rfl, rfl, rfl, gl g0, gl g1, gl g2, gl g3, gl g12⟩
                      · refine w_condF rfl ?_
                        refine w_skip ?_
                        cases hr
                        exact ⟨_, _, rfl, rfl, rfl, gl g0, gl g1, gl g2, gl g3, gl g12⟩
                · refine w_condF rfl ?_
                  refine w_skip ?_
                  cases hr
                  exact ⟨_, _, rfl, rfl, rfl, gl g0, gl g1, gl g2, gl g3, gl g12⟩
              · have hr := hk
                clear hk
                rcases o_4 with o_4 | o_4
                · obtain ⟨m_10, ho⟩ : ∃ z, z = o_4 := ⟨_, rfl⟩
                  subst ho
                  rintro _ mm_6 t_8 ⟨rfl, rfl, g0, g1, g2, g3, g12⟩
                  refine nx_norm ?_
                  refine w_seq ?_
                  refine w_ops ?_
                  refine wo_step (v := (.i .i64 x0)) (s_pure (p_mv g0)) ?_
                  refine wo_step (v := v1) (s_pure (p_mv g1)) ?_
                  refine wo_step (v := (.i .i64 x2)) (s_pure (p_mv g2)) ?_
                  refine wo_step (v := v3) (s_pure (p_mv g3)) ?_
                  refine wo_step (v := v3) (s_pure (p_mv g3)) ?_
                  have hq := bindO_inv hr
                  clear hr
                  obtain ⟨v129, e129, hr⟩ := hq
                  have hq := asI_inv hr
                  clear hr
                  obtain ⟨x129, rfl, hr⟩ := hq
                  refine wo_step (v := (.i .i64 x129)) (s_pure (o_len rfl e129)) ?_
                  refine wo_step (v := v3) (s_pure (p_mv g3)) ?_
                  have hq := bindO_inv hr
                  clear hr
                  obtain ⟨v131, e131, hr⟩ := hq
                  have hq := asI_inv hr
                  clear hr
                  obtain ⟨x131, rfl, hr⟩ := hq
                  refine wo_step (v := (.i .i64 x131)) (s_pure (o_len rfl e131)) ?_
                  have hq := bindO_inv hr
                  clear hr
                  obtain ⟨v132, e132, hr⟩ := hq
                  refine wo_step (v := v132) (s_pure (o_slS rfl on (os rfl) (os rfl) e132)) ?_
                  refine wo_step (v := (.i .i64 x12)) (s_pure (p_mv g12)) ?_
                  have hq := bindP_inv hr
                  clear hr
                  obtain ⟨v134, m_11, e134, hr⟩ := hq
                  refine wo_step (v := v134) (s_bsl (qc rfl qn) e134) ?_
                  have hq := bindP_inv hr
                  clear hr
                  obtain ⟨v135, m_12, e135, hr⟩ := hq
                  refine wo_step (v := v135) (s_app rfl rfl e135) ?_
                  have hq := bindP_inv hr
                  clear hr
                  obtain ⟨v136, m_13, e136, hr⟩ := hq
                  refine wo_step (v := v136) (s_call (mc rfl (mc rfl (mc rfl (mc rfl mn)))) (callM_le hM.call e136)) ?_
                  refine wo_step (v := v136) (s_pure (p_mv rfl)) ?_
                  refine wo_nil ?_
                  refine nx_norm ?_
                  refine w_seq ?_
                  refine w_ops ?_
                  refine wo_step (v := v136) (s_pure (p_mv rfl)) ?_
                  have hq := bindO_inv hr
                  clear hr
                  obtain ⟨v138, e138, hr⟩ := hq
                  have hq := asB_inv hr
                  clear hr
                  obtain ⟨c138, rfl, hr⟩ := hq
                  refine wo_step (v := (.b c138)) (s_pure (o_nilcmp rfl e138)) ?_
                  refine wo_nil ?_
                  refine nx_norm ?_
                  have hq := cond_inv hr
                  clear hr
                  rcases hq with ⟨rfl, hr⟩ | ⟨rfl, hr⟩
                  · refine w_condT rfl ?_
                    refine w_seq ?_
                    refine w_ops ?_
                    refine wo_step (v := v136) (s_pure (p_mv rfl)) ?_
                    refine wo_step (v := v136) (s_pure (p_mv rfl)) ?_
                    refine wo_nil ?_
                    refine nx_norm ?_
                    refine w_ret ?_
                    refine bk_ret ?_
                    cases hr
                    exact ⟨_, _, rfl, rfl, rfl, gl rfl⟩
                  · refine w_condF rfl ?_
                    refine w_skip ?_
                    refine bk_norm ?_
                    cases hr
                    exact ⟨_, _, rfl, rfl, rfl, gl g0, gl g1, gl g2, gl g3, gl g12⟩
                · obtain ⟨m_14, ho⟩ : ∃ z, z = o_4 := ⟨_, rfl⟩
                  subst ho
                  rintro _ mm_7 t_9 ⟨rfl, rfl, g0, g1, g2, g3, g12⟩
                  refine nx_exit ?_
                  refine bk_hit ?_
                  cases hr
                  exact ⟨_, _, rfl, rfl, rfl, gl g0, gl g1, gl g2, gl g3, gl g12⟩
        · have hr := hk
          clear hk
          rcases o_1 with o_1 | o_1
          · obtain ⟨m_15, ho⟩ : ∃ z, z = o_1 := ⟨_, rfl⟩
            subst ho
            rintro _ mm_8 t_10 ⟨rfl, rfl, g0, g1, g2, g3, g12⟩
            refine nx_norm ?_
            refine w_ops ?_
            refine wo_step (v := (.i .i64 x12)) (s_pure (p_mv g12)) ?_
            have hq := forceI_inv hr
            clear hr
            obtain ⟨x58, e58, hr⟩ := hq
            refine wo_step (v := (.i .i64 x58)) (s_pure (p_bin rfl rfl (b_add.trans (ci e58)))) ?_
            refine wo_step (v := (.i .i64 x58)) (s_pure (p_mv rfl)) ?_
            refine wo_nil ?_
            cases hr
            exact ⟨_, _, rfl, rfl, rfl, gl rfl, gl g0, gl g1, gl g2, gl g3⟩
          · obtain ⟨v8, m_16⟩ := o_1
            rintro _ mm_9 t_11 ⟨rfl, rfl, g8⟩
            refine nx_ret ?_
            cases hr
            exact ⟨_, _, rfl, ne_norm_ret, rfl, rfl, gl g8⟩
      · refine w_condF rfl ?_
        refine w_exit ?_
        refine nx_exit ?_
        cases hr
        exact ⟨_, _, rfl, ne_norm_exit, rfl, rfl⟩
    · rcases o_7 with o_7 | o_7
      · obtain ⟨m_17, ho⟩ : ∃ z, z = o_7 := ⟨_, rfl⟩
        subst ho
        rintro _ mm_10 t_12 ⟨rfl, rfl⟩
        refine bk_hit ?_
        refine nx_norm ?_
        refine w_seq ?_
        refine w_ops ?_
        refine wo_step (v := AVal.nsl) (s_pure (p_mv rfl)) ?_
        refine wo_nil ?_
        refine nx_norm ?_
        refine w_ret ?_
        exact qf ret_ok (rt rfl rn) hr
      · obtain ⟨v8_1, m_18⟩ := o_7
        rintro _ mm_11 t_13 ⟨rfl, rfl, g8⟩
        refine bk_ret ?_
        refine nx_ret ?_
        exact qf ret_ok (rt g8 rn) hr

/- dibber/dibberref04.step -/
abbrev g59_J0 (v0 : AVal) (x1 : Int) (m0 : Mm) (o : Int) (e : AExit) (m1 : Mm) (t1 : Tr) : Prop :=
  match o with
  | y9 => e = .norm ∧ m0 = m1 ∧ t1.get 9 = (.i .i64 y9) ∧ t1.get 0 = v0 ∧ t1.get 1 = (.i .i64 x1)
abbrev g59_J1 (v0 : AVal) (x1 : Int) (x9 : Int) (m0 : Mm) (o : Bool) (m1 : Mm) (t1 : Tr) : Prop :=
  match o with
  | c25 => m0 = m1 ∧ t1.get 25 = (.b c25) ∧ t1.get 0 = v0 ∧ t1.get 1 = (.i .i64 x1) ∧ t1.get 9 = (.i .i64 x9)
abbrev g59_J2 (v0 : AVal) (x1 : Int) (x9 : Int) (m0 : Mm) (o : Bool) (m1 : Mm) (t1 : Tr) : Prop :=
  match o with
  | c32 => m0 = m1 ∧ t1.get 32 = (.b c32) ∧ t1.get 0 = v0 ∧ t1.get 1 = (.i .i64 x1) ∧ t1.get 9 = (.i .i64 x9)
def g59 (M : Means) (ro : List ABlk) (v0 : AVal) (x1 : Int) (m0 : Mm) : Option (AVal × Heap × Nat × Nat) :=
  forceI (wr .i64 (x1 - 1)) fun x12 =>
  forceB (ltI x1 0) fun c14 =>
  bindO (α := Int) (
    cond c14 (
      forceI (wr .i64 (0 - x1)) fun x16 =>
      forceI (wr .i64 (x16 - 1)) fun x17 =>
      some x17) (
      some x12)) fun x9 =>
  forceB (eqI x1 0) fun c19 =>
  bindO (cond c19 (
    some true) (
    bindO (evP .e (.len false (.c v0))) fun v23 =>
    asI .i64 v23 fun x23 =>
    forceB (ltI x23 x1) fun c24 =>
    some c24)) fun c25 =>
  bindO (cond c25 (
    some true) (
    bindO (evP .e (.len false (.c v0))) fun v29 =>
    asI .i64 v29 fun x29 =>
    forceI (wr .i64 (0 - x29)) fun x30 =>
    forceB (ltI x1 x30) fun c31 =>
    some c31)) fun c32 =>
  cond c32 (
    finM m0.h.length (tupA [(.i .i64 0), (.i .i64 0), (.i .i64 0), (.i .i64 0), (.b false)]) m0) (
    bindO (evP .e (.ixS 4 (.c v0) (.c (.i .i64 x9)))) fun v35 =>
    bindO (ldM ro m0 false 4 v35) fun v36 =>
    bindP (stepM ro m0 (.al 31 [(AVal.i IntKind.i64 0), (AVal.i IntKind.i64 0), (AVal.i IntKind.i64 0), (AVal.i IntKind.i64 0)])) fun v10 m_1 =>
    bindP (stepM ro m_1 (.st 4 (.c v10) (.c v36))) fun vn m_2 =>
    forceB (ltI x1 0) fun c38 =>
    cond c38 (
      bindO (evP .e (.faddr 1 (.c v10))) fun v39 =>
      bindO (ldA ro m_2.h true 1 v39) fun v40 =>
      asI .i64 v40 fun x40 =>
      bindO (evP .e (.faddr 0 (.c v10))) fun v41 =>
      bindO (ldA ro m_2.h true 1 v41) fun v42 =>
      asI .i64 v42 fun x42 =>
      bindO (evP .e (.faddr 3 (.c v10))) fun v43 =>
      bindO (ldA ro m_2.h true 1 v43) fun v44 =>
      asI .i64 v44 fun x44 =>
      forceI (wr .i64 (0 - x44)) fun x45 =>
      bindO (evP .e (.faddr 2 (.c v10))) fun v46 =>
      bindO (ldA ro m_2.h true 1 v46) fun v47 =>
      asI .i64 v47 fun x47 =>
      forceI (wr .i64 (0 - x47)) fun x48 =>
      finM m0.h.length (tupA [(.i .i64 x40), (.i .i64 x42), (.i .i64 x45), (.i .i64 x48), (.b true)]) m_2) (
      bindO (evP .e (.faddr 0 (.c v10))) fun v49 =>
      bindO (ldA ro m_2.h true 1 v49) fun v50 =>
      asI .i64 v50 fun x50 =>
      bindO (evP .e (.faddr 1 (.c v10))) fun v51 =>
      bindO (ldA ro m_2.h true 1 v51) fun v52 =>
      asI .i64 v52 fun x52 =>
      bindO (evP .e (.faddr 2 (.c v10))) fun v53 =>
      bindO (ldA ro m_2.h true 1 v53) fun v54 =>
      asI .i64 v54 fun x54 =>
      bindO (evP .e (.faddr 3 (.c v10))) fun v55 =>
      bindO (ldA ro m_2.h true 1 v55) fun v56 =>
      asI .i64 v56 fun x56 =>
      finM m0.h.length (tupA [(.i .i64 x50), (.i .i64 x52), (.i .i64 x54), (.i .i64 x56), (.b true)]) m_2))

theorem g59_ok {ro : List ABlk} {O : Caller} {M : Means} (hM : M.Ok ⟨F, O⟩ ro) {v0 x1 h r} (ho : O 59 [v0, (.i .i64 x1)] h = none) (hr : g59 M ro v0 x1 ⟨h, h.length, h.length⟩ = some r) : callX ⟨F, O⟩ ro 59 [v0, (.i .i64 x1)] h = some r := by
  refine callX_of (F := ⟨F, O⟩) (fn := fn59) (g := g59 M ro v0 x1) ho rfl rfl hr ?_
  clear ho
  clear hr
  intro m0 t0 ht hr
  have g0 : t0.get 0 = v0 := ht 0
  have g1 : t0.get 1 = (.i .i64 x1) := ht 1
  clear ht
  unfold g59 at hr
  refine w_seq ?_
  refine w_ops ?_
  refine wo_step (v := (.i .i64 0)) (s_pure (p_mv rfl)) ?_
  refine wo_step (v := (.i .i64 0)) (s_pure (p_mv rfl)) ?_
  refine wo_step (v := (.i .i64 0)) (s_pure (p_mv rfl)) ?_
  refine wo_step (v := (.i .i64 0)) (s_pure (p_mv rfl)) ?_
  refine wo_step (v := (.b false)) (s_pure (p_mv rfl)) ?_
  refine wo_nil ?_
  refine nx_norm ?_
  refine w_seq ?_
  refine w_ops ?_
  refine wo_step (v := (.i .i64 x1)) (s_pure (p_mv g1)) ?_
  have hq := forceI_inv hr
  clear hr
  obtain ⟨x12, e12, hr⟩ := hq
  refine wo_step (v := (.i .i64 x12)) (s_pure (p_bin rfl rfl (b_sub.trans (ci e12)))) ?_
  refine wo_step (v := (.i .i64 x12)) (s_pure (p_mv rfl)) ?_
  refine wo_nil ?_
  refine nx_norm ?_
  refine w_seq ?_
  refine w_seq ?_
  refine w_ops ?_
  refine wo_step (v := (.i .i64 x1)) (s_pure (p_mv g1)) ?_
  have hq := forceB_inv hr
  clear hr
  obtain ⟨c14, e14, hr⟩ := hq
  refine wo_step (v := (.b c14)) (s_pure (p_bin rfl rfl (b_lss.trans (cb e14)))) ?_
  refine wo_nil ?_
  refine nx_norm ?_
  have hq := bindO_inv hr
  clear hr
  obtain ⟨o, hr, hk⟩ := hq
  refine jp_mono (J := g59_J0 v0 x1 m0 o) ?_ ?_
  · clear hk
    have hq := cond_inv hr
    clear hr
    rcases hq with ⟨rfl, hr⟩ | ⟨rfl, hr⟩
    · refine w_condT rfl ?_
      refine w_ops ?_
      refine wo_step (v := (.i .i64 x1)) (s_pure (p_mv g1)) ?_
      have hq := forceI_inv hr
      clear hr
      obtain ⟨x16, e16, hr⟩ := hq
      refine wo_step (v := (.i .i64 x16)) (s_pure ((p_neg rfl).trans (ci e16))) ?_
      have hq := forceI_inv hr
      clear hr
      obtain ⟨x17, e17, hr⟩ := hq
      refine wo_step (v := (.i .i64 x17)) (s_pure (p_bin rfl rfl (b_sub.trans (ci e17)))) ?_
      refine wo_step (v := (.i .i64 x17)) (s_pure (p_mv rfl)) ?_
      refine wo_nil ?_
      cases hr
      exact ⟨_, _, rfl, rfl, rfl, gl rfl, gl g0, gl g1⟩
    · refine w_condF rfl ?_
      refine w_skip ?_
      cases hr
      exact ⟨_, _, rfl, rfl, rfl, gl rfl, gl g0, gl g1⟩
  · have hr := hk
    clear hk
    obtain ⟨x9, ho⟩ : ∃ z, z = o := ⟨_, rfl⟩
    subst ho
    rintro _ mm_2 t_1 ⟨rfl, rfl, g9, g0, g1⟩
    refine nx_norm ?_
    refine w_seq ?_
    refine w_seq ?_
    refine w_ops ?_
    refine wo_step (v := (.i .i64 x1)) (s_pure (p_mv g1)) ?_
    have hq := forceB_inv hr
    clear hr
    obtain ⟨c19, e19, hr⟩ := hq
    refine wo_step (v := (.b c19)) (s_pure (p_bin rfl rfl (b_eql.trans (cb e19)))) ?_
    refine wo_step (v := (.b c19)) (s_pure (p_mv rfl)) ?_
    have hq := bindO_inv hr
    clear hr
    obtain ⟨o_1, hr, hk⟩ := hq
    refine wo_join 5 (g59_J1 v0 x1 x9 m0 o_1) ?_ ?_
    · clear hk
      have hq := cond_inv hr
      clear hr
      rcases hq with ⟨rfl, hr⟩ | ⟨rfl, hr⟩
      · refine wo_skip (v := (.b true)) rfl rfl ?_
        refine wo_skip (v := (.b true)) rfl rfl ?_
        refine wo_skip (v := (.b true)) rfl rfl ?_
        refine wo_skip (v := (.b true)) rfl rfl ?_
        refine wo_step (v := (.b true)) (s_pure (p_pickT rfl rfl)) ?_
        refine wo_nil ?_
        cases hr
        exact ⟨_, _, rfl, rfl, gl rfl, gl g0, gl g1, gl g9⟩
      · refine wo_take (v := (.i .i64 x1)) rfl (s_pure (p_mv g1)) ?_
        refine wo_take (v := v0) rfl (s_pure (p_mv g0)) ?_
        have hq := bindO_inv hr
        clear hr
        obtain ⟨v23, e23, hr⟩ := hq
        have hq := asI_inv hr
        clear hr
        obtain ⟨x23, rfl, hr⟩ := hq
        refine wo_take (v := (.i .i64 x23)) rfl (s_pure (o_len rfl e23)) ?_
        have hq := forceB_inv hr
        clear hr
        obtain ⟨c24, e24, hr⟩ := hq
        refine wo_take (v := (.b c24)) rfl (s_pure (p_bin rfl rfl (b_gtr.trans (cb e24)))) ?_
        refine wo_step (v := (.b c24)) (s_pure (p_pickF rfl rfl)) ?_
        refine wo_nil ?_
        cases hr
        exact ⟨_, _, rfl, rfl, gl rfl, gl g0, gl g1, gl g9⟩
    · clear hr
      have hr := hk
      clear hk
      obtain ⟨c25, ho⟩ : ∃ z, z = o_1 := ⟨_, rfl⟩
      subst ho
      rintro mm t_2 ⟨rfl, g25, g0, g1, g9⟩
      refine wo_step (v := (.b c25)) (s_pure (p_mv g25)) ?_
      have hq := bindO_inv hr
      clear hr
      obtain ⟨o_2, hr, hk⟩ := hq
      refine wo_join 6 (g59_J2 v0 x1 x9 m0 o_2) ?_ ?_
      · clear hk
        have hq := cond_inv hr
        clear hr
        rcases hq with ⟨rfl, hr⟩ | ⟨rfl, hr⟩
        · refine wo_skip (v := (.b true)) rfl rfl ?_
          refine wo_skip (v := (.b true)) rfl rfl ?_
          refine wo_skip (v := (.b true)) rfl rfl ?_
          refine wo_skip (v := (.b true)) rfl rfl ?_
          refine wo_skip (v := (.b true)) rfl rfl ?_
          refine wo_step (v := (.b true)) (s_pure (p_pickT rfl rfl)) ?_
          refine wo_nil ?_
          cases hr
          exact ⟨_, _, rfl, rfl, gl rfl, gl g0, gl g1, gl g9⟩
        · refine wo_take (v := (.i .i64 x1)) rfl (s_pure (p_mv g1)) ?_
          refine wo_take (v := v0) rfl (s_pure (p_mv g0)) ?_
          have hq := bindO_inv hr
          clear hr
          obtain ⟨v29, e29, hr⟩ := hq
          have hq := asI_inv hr
          clear hr
          obtain ⟨x29, rfl, hr⟩ := hq
          refine wo_take (v := (.i .i64 x29)) rfl (s_pure (o_len rfl e29)) ?_
          have hq := forceI_inv hr
          clear hr
          obtain ⟨x30, e30, hr⟩ := hq
          refine wo_take (v := (.i .i64 x30)) rfl (s_pure ((p_neg rfl).trans (ci e30))) ?_
          have hq := forceB_inv hr
          clear hr
          obtain ⟨c31, e31, hr⟩ := hq
          refine wo_take (v := (.b c31)) rfl (s_pure (p_bin rfl rfl (b_lss.trans (cb e31)))) ?_
          refine wo_step (v := (.b c31)) (s_pure (p_pickF rfl rfl)) ?_
          refine wo_nil ?_
          cases hr
          exact ⟨_, _, rfl, rfl, gl rfl, gl g0, gl g1, gl g9⟩
      · clear hr
        have hr := hk
        clear hk
        obtain ⟨c32, ho⟩ : ∃ z, z = o_2 := ⟨_, rfl⟩
        subst ho
        rintro mm_1 t_3 ⟨rfl, g32, g0, g1, g9⟩
        refine wo_nil ?_
        refine nx_norm ?_
        have hq := cond_inv hr
        clear hr
        rcases hq with ⟨rfl, hr⟩ | ⟨rfl, hr⟩
        · refine w_condT g32 ?_
          refine w_seq ?_
          refine w_ops ?_
          refine wo_step (v := (.i .i64 0)) (s_pure (p_mv rfl)) ?_
          refine wo_step (v := (.i .i64 0)) (s_pure (p_mv rfl)) ?_
          refine wo_step (v := (.i .i64 0)) (s_pure (p_mv rfl)) ?_
          refine wo_step (v := (.i .i64 0)) (s_pure (p_mv rfl)) ?_
          refine wo_step (v := (.b false)) (s_pure (p_mv rfl)) ?_
          refine wo_nil ?_
          refine nx_norm ?_
          refine w_ret ?_
          refine nx_ret ?_
          exact qf ret_ok (rt rfl (rt rfl (rt rfl (rt rfl (rt rfl rn))))) hr
        · refine w_condF g32 ?_
          refine w_skip ?_
          refine nx_norm ?_
          refine w_seq ?_
          refine w_ops ?_
          refine wo_step (v := v0) (s_pure (p_mv g0)) ?_
          refine wo_step (v := (.i .i64 x9)) (s_pure (p_mv g9)) ?_
          have hq := bindO_inv hr
          clear hr
          obtain ⟨v35, e35, hr⟩ := hq
          refine wo_step (v := v35) (s_pure (o_ixS rfl rfl e35)) ?_
          have hq := bindO_inv hr
          clear hr
          obtain ⟨v36, e36, hr⟩ := hq
          refine wo_step (v := v36) (s_ld rfl e36) ?_
          have hq := bindP_inv hr
          clear hr
          obtain ⟨v10, m_1, e10, hr⟩ := hq
          refine wo_step (v := v10) (s_al e10) ?_
          have hq := bindP_inv hr
          clear hr
          obtain ⟨vn, m_2, en, hr⟩ := hq
          refine wo_stepN (s_st rfl rfl en) ?_
          refine wo_nil ?_
          refine nx_norm ?_
          refine w_seq ?_
          refine w_seq ?_
          refine w_ops ?_
          refine wo_step (v := (.i .i64 x1)) (s_pure (p_mv g1)) ?_
          have hq := forceB_inv hr
          clear hr
          obtain ⟨c38, e38, hr⟩ := hq
          refine wo_step (v := (.b c38)) (s_pure (p_bin rfl rfl (b_lss.trans (cb e38)))) ?_
          refine wo_nil ?_
          refine nx_norm ?_
          have hq := cond_inv hr
          clear hr
          rcases hq with ⟨rfl, hr⟩ | ⟨rfl, hr⟩
          · refine w_condT rfl ?_
            refine w_seq ?_
            refine w_any ?_
            have hq := bindO_inv hr
            clear hr
            obtain ⟨v39, e39, hr⟩ := hq
            refine wa_step (v := v39) (a_pure (o_faddr rfl e39)) ?_
            have hq := bindO_inv hr
            clear hr
            obtain ⟨v40, e40, hr⟩ := hq
            have hq := asI_inv hr
            clear hr
            obtain ⟨x40, rfl, hr⟩ := hq
            refine wa_step (v := (.i .i64 x40)) (a_ld rfl e40) ?_
            have hq := bindO_inv hr
            clear hr
            obtain ⟨v41, e41, hr⟩ := hq
            refine wa_step (v := v41) (a_pure (o_faddr rfl e41)) ?_
            have hq := bindO_inv hr
            clear hr
            obtain ⟨v42, e42, hr⟩ := hq
            have hq := asI_inv hr
            clear hr
            obtain ⟨x42, rfl, hr⟩ := hq
            refine wa_step (v := (.i .i64 x42)) (a_ld rfl e42) ?_
            have hq := bindO_inv hr
            clear hr
            obtain ⟨v43, e43, hr⟩ := hq
            refine wa_step (v := v43) (a_pure (o_faddr rfl e43)) ?_
            have hq := bindO_inv hr
            clear hr
            obtain ⟨v44, e44, hr⟩ := hq
            have hq := asI_inv hr
            clear hr
            obtain ⟨x44, rfl, hr⟩ := hq
            refine wa_step (v := (.i .i64 x44)) (a_ld rfl e44) ?_
            have hq := forceI_inv hr
            clear hr
            obtain ⟨x45, e45, hr⟩ := hq
            refine wa_step (v := (.i .i64 x45)) (a_pure ((p_neg rfl).trans (ci e45))) ?_
            have hq := bindO_inv hr
            clear hr
            obtain ⟨v46, e46, hr⟩ := hq
            refine wa_step (v := v46) (a_pure (o_faddr rfl e46)) ?_
            have hq := bindO_inv hr
            clear hr
            obtain ⟨v47, e47, hr⟩ := hq
            have hq := asI_inv hr
            clear hr
            obtain ⟨x47, rfl, hr⟩ := hq
            refine wa_step (v := (.i .i64 x47)) (a_ld rfl e47) ?_
            have hq := forceI_inv hr
            clear hr
            obtain ⟨x48, e48, hr⟩ := hq
            refine wa_step (v := (.i .i64 x48)) (a_pure ((p_neg rfl).trans (ci e48))) ?_
            refine wa_step (v := (.i .i64 x40)) (a_pure (p_mv rfl)) ?_
            refine wa_step (v := (.i .i64 x42)) (a_pure (p_mv rfl)) ?_
            refine wa_step (v := (.i .i64 x45)) (a_pure (p_mv rfl)) ?_
            refine wa_step (v := (.i .i64 x48)) (a_pure (p_mv rfl)) ?_
            refine wa_step (v := (.b true)) (a_pure (p_mv rfl)) ?_
            refine wa_nil ?_
            refine ⟨m_2, rfl, ?_⟩
            refine nx_norm ?_
            refine w_ret ?_
            refine nx_ret ?_
            exact qf ret_ok (rt rfl (rt rfl (rt rfl (rt rfl (rt rfl rn))))) hr
          · refine w_condF rfl ?_
            refine w_skip ?_
            refine nx_norm ?_
            refine w_seq ?_
            refine w_any ?_
            have hq := bindO_inv hr
            clear hr
            obtain ⟨v49, e49, hr⟩ := hq
            refine wa_step (v := v49) (a_pure (o_faddr rfl e49)) ?_
            have hq := bindO_inv hr
            clear hr
            obtain ⟨v50, e50, hr⟩ := hq
            have hq := asI_inv hr
            clear hr
            obtain ⟨x50, rfl, hr⟩ := hq
            refine wa_step (v := (.i .i64 x50)) (a_ld rfl e50) ?_
            have hq := bindO_inv hr
            clear hr
            obtain ⟨v51, e51, hr⟩ := hq
            refine wa_step (v := v51) (a_pure (o_faddr rfl e51)) ?_
            have hq := bindO_inv hr
            clear hr
            obtain ⟨v52, e52, hr⟩ := hq
            have hq := asI_inv hr
            clear hr
            obtain ⟨x52, rfl, hr⟩ := hq
            refine wa_step (v := (.i .i64 x52)) (a_ld rfl e52) ?_
            have hq := bindO_inv hr
            clear hr
            obtain ⟨v53, e53, hr⟩ := hq
            refine wa_step (v := v53) (a_pure (o_faddr rfl e53)) ?_
            have hq := bindO_inv hr
            clear hr
            obtain ⟨v54, e54, hr⟩ := hq
            have hq := asI_inv hr
            clear hr
            obtain ⟨x54, rfl, hr⟩ := hq
            refine wa_step (v := (.i .i64 x54)) (a_ld rfl e54) ?_
            have hq := bindO_inv hr
            clear hr
            obtain ⟨v55, e55, hr⟩ := hq
            refine wa_step (v := v55) (a_pure (o_faddr rfl e55)) ?_
            have hq := bindO_inv hr
            clear hr
            obtain ⟨v56, e56, hr⟩ := hq
            have hq := asI_inv hr
            clear hr
            obtain ⟨x56, rfl, hr⟩ := hq
            refine wa_step (v := (.i .i64 x56)) (a_ld rfl e56) ?_
            refine wa_step (v := (.i .i64 x50)) (a_pure (p_mv rfl)) ?_
            refine wa_step (v := (.i .i64 x52)) (a_pure (p_mv rfl)) ?_
            refine wa_step (v := (.i .i64 x54)) (a_pure (p_mv rfl)) ?_
            refine wa_step (v := (.i .i64 x56)) (a_pure (p_mv rfl)) ?_
            refine wa_step (v := (.b true)) (a_pure (p_mv rfl)) ?_
            refine wa_nil ?_
            refine ⟨m_2, rfl, ?_⟩
            refine nx_norm ?_
            refine w_ret ?_
            exact qf ret_ok (rt rfl (rt rfl (rt rfl (rt rfl (rt rfl rn))))) hr

/- (dibber/turn.demands).allows -/
abbrev g60_J0 (v2 : AVal) (v3 : AVal) (m_2 : Mm) (o : Bool) (m1 : Mm) (t1 : Tr) : Prop :=
  match o with
  | c17 => m_2 = m1 ∧ t1.get 17 = (.b c17) ∧ t1.get 2 = v2 ∧ t1.get 3 = v3
abbrev g60_J1 (v2 : AVal) (v3 : AVal) (m_2 : Mm) (o : Bool) (m1 : Mm) (t1 : Tr) : Prop :=
  match o with
  | c27 => m_2 = m1 ∧ t1.get 27 = (.b c27) ∧ t1.get 2 = v2 ∧ t1.get 3 = v3
abbrev g60_J2 (v2 : AVal) (v3 : AVal) (m_2 : Mm) (o : Bool) (m1 : Mm) (t1 : Tr) : Prop :=
  match o with
  | c35 => m_2 = m1 ∧ t1.get 35 = (.b c35) ∧ t1.get 2 = v2 ∧ t1.get 3 = v3
abbrev g60_J3 (m_2 : Mm) (o : Bool) (m1 : Mm) (t1 : Tr) : Prop :=
  match o with
  | c51 => m_2 = m1 ∧ t1.get 51 = (.b c51)
def g60 (M : Means) (ro : List ABlk) (v0 : AVal) (v1 : AVal) (m0 : Mm) : Option (AVal × Heap × Nat × Nat) :=
  bindP (stepM ro m0 (.bx 55 3 (.c v0))) fun v2 m_1 =>
  bindP (stepM ro m_1 (.bx 31 4 (.c v1))) fun v3 m_2 =>
  bindO (evP .e (.faddr 0 (.c v3))) fun v5 =>
  bindO (ldM ro m_2 true 1 v5) fun v6 =>
  asI .i64 v6 fun x6 =>
  bindO (evP .e (.faddr 1 (.c v3))) fun v7 =>
  bindO (ldM ro m_2 true 1 v7) fun v8 =>
  asI .i64 v8 fun x8 =>
  forceB (eqI x6 x8) fun c9 =>
  bindO (cond c9 (
    some true) (
    bindO (evP .e (.faddr 0 (.c v3))) fun v11 =>
    bindO (ldM ro m_2 true 1 v11) fun v12 =>
    asI .i64 v12 fun x12 =>
    bindO (evP .e (.faddr 1 (.c v3))) fun v13 =>
    bindO (ldM ro m_2 true 1 v13) fun v14 =>
    asI .i64 v14 fun x14 =>
    forceI (mxV false x12 x14) fun x15 =>
    forceB (ltI x15 0) fun c16 =>
    some c16)) fun c17 =>
  bindO (cond c17 (
    some true) (
    bindO (evP .e (.faddr 0 (.c v3))) fun v19 =>
    bindO (ldM ro m_2 true 1 v19) fun v20 =>
    asI .i64 v20 fun x20 =>
    bindO (evP .e (.faddr 1 (.c v3))) fun v21 =>
    bindO (ldM ro m_2 true 1 v21) fun v22 =>
    asI .i64 v22 fun x22 =>
    forceI (mxV true x20 x22) fun x23 =>
    bindO (evP .e (.faddr 1 (.c v2))) fun v24 =>
    bindO (ldM ro m_2 true 1 v24) fun v25 =>
    asI .i64 v25 fun x25 =>
    forceB (!ltI x23 x25) fun c26 =>
    some c26)) fun c27 =>
  cond c27 (
    finM m0.h.length (tupA [(.b false)]) m_2) (
    bindO (evP .e (.faddr 2 (.c v3))) fun v28 =>
    bindO (ldM ro m_2 true 1 v28) fun v29 =>
    asI .i64 v29 fun x29 =>
    forceB (ltI x29 (-600)) fun c30 =>
    bindO (cond c30 (
      some true) (
      bindO (evP .e (.faddr 2 (.c v3))) fun v32 =>
      bindO (ldM ro m_2 true 1 v32) fun v33 =>
      asI .i64 v33 fun x33 =>
      forceB (ltI 600 x33) fun c34 =>
      some c34)) fun c35 =>
    cond c35 (
      finM m0.h.length (tupA [(.b false)]) m_2) (
      bindO (evP .e (.faddr 3 (.c v3))) fun v36 =>
      bindO (ldM ro m_2 true 1 v36) fun v37 =>
      asI .i64 v37 fun x37 =>
      bindO (evP .e (.faddr 2 (.c v3))) fun v38 =>
      bindO (ldM ro m_2 true 1 v38) fun v39 =>
      asI .i64 v39 fun x39 =>
      forceB (!ltI x37 x39) fun c40 =>
      bindO (cond c40 (
        bindO (evP .e (.faddr 3 (.c v3))) fun v42 =>
        bindO (ldM ro m_2 true 1 v42) fun v43 =>
        asI .i64 v43 fun x43 =>
        bindO (evP .e (.faddr 2 (.c v3))) fun v44 =>
        bindO (ldM ro m_2 true 1 v44) fun v45 =>
        asI .i64 v45 fun x45 =>
        bindO (evP .e (.faddr 0 (.c v2))) fun v46 =>
        bindO (ldM ro m_2 true 1 v46) fun v47 =>
        asI .i64 v47 fun x47 =>
        forceI (wr .i64 (x45 + x47)) fun x48 =>
        forceI (wr .i64 (x48 - 1)) fun x49 =>
        forceB (!ltI x49 x43) fun c50 =>
        some c50) (
        some false)) fun c51 =>
      finM m0.h.length (tupA [(.b c51)]) m_2))

theorem g60_ok {ro : List ABlk} {O : Caller} {M : Means} (hM : M.Ok ⟨F, O⟩ ro) {v0 v1 h r} (ho : O 60 [v0, v1] h = none) (hr : g60 M ro v0 v1 ⟨h, h.length, h.length⟩ = some r) : callX ⟨F, O⟩ ro 60 [v0, v1] h = some r := by
  refine callX_of (F := ⟨F, O⟩) (fn := fn60) (g := g60 M ro v0 v1) ho rfl rfl hr ?_
  clear ho
  clear hr
  intro m0 t0 ht hr
  have g0 : t0.get 0 = v0 := ht 0
  have g1 : t0.get 1 = v1 := ht 1
  clear ht
  unfold g60 at hr
  refine w_seq ?_
  refine w_ops ?_
  have hq := bindP_inv hr
  clear hr
  obtain ⟨v2, m_1, e2, hr⟩ := hq
  refine wo_step (v := v2) (s_bx g0 e2) ?_
  have hq := bindP_inv hr
  clear hr
  obtain ⟨v3, m_2, e3, hr⟩ := hq
  refine wo_step (v := v3) (s_bx g1 e3) ?_
  refine wo_step (v := (.b false)) (s_pure (p_mv rfl)) ?_
  refine wo_nil ?_
  refine nx_norm ?_
  refine w_seq ?_
  refine w_seq ?_
  refine w_ops ?_
  have hq := bindO_inv hr
  clear hr
  obtain ⟨v5, e5, hr⟩ := hq
  refine wo_step (v := v5) (s_pure (o_faddr rfl e5)) ?_
  have hq := bindO_inv hr
  clear hr
  obtain ⟨v6, e6, hr⟩ := hq
  have hq := asI_inv hr
  clear hr
  obtain ⟨x6, rfl, hr⟩ := hq
  refine wo_step (v := (.i .i64 x6)) (s_ld rfl e6) ?_
  have hq := bindO_inv hr
  clear hr
  obtain ⟨v7, e7, hr⟩ := hq
  refine wo_step (v := v7) (s_pure (o_faddr rfl e7)) ?_
  have hq := bindO_inv hr
  clear hr
  obtain ⟨v8, e8, hr⟩ := hq
  have hq := asI_inv hr
  clear hr
  obtain ⟨x8, rfl, hr⟩ := hq
  refine wo_step (v := (.i .i64 x8)) (s_ld rfl e8) ?_
  have hq := forceB_inv hr
  clear hr
  obtain ⟨c9, e9, hr⟩ := hq
  refine wo_step (v := (.b c9)) (s_pure (p_bin rfl rfl (b_eql.trans (cb e9)))) ?_
  refine wo_step (v := (.b c9)) (s_pure (p_mv rfl)) ?_
  have hq := bindO_inv hr
  clear hr
  obtain ⟨o, hr, hk⟩ := hq
  refine wo_join 7 (g60_J0 v2 v3 m_2 o) ?_ ?_
  · clear hk
    have hq := cond_inv hr
    clear hr
    rcases hq with ⟨rfl, hr⟩ | ⟨rfl, hr⟩
    · refine wo_skip (v := (.b true)) rfl rfl ?_
      refine wo_skip (v := (.b true)) rfl rfl ?_
      refine wo_skip (v := (.b true)) rfl rfl ?_
      refine wo_skip (v := (.b true)) rfl rfl ?_
      refine wo_skip (v := (.b true)) rfl rfl ?_
      refine wo_skip (v := (.b true)) rfl rfl ?_
      refine wo_step (v := (.b true)) (s_pure (p_pickT rfl rfl)) ?_
      refine wo_nil ?_
      cases hr
      exact ⟨_, _, rfl, rfl, gl rfl, gl rfl, gl rfl⟩
    · have hq := bindO_inv hr
      clear hr
      obtain ⟨v11, e11, hr⟩ := hq
      refine wo_take (v := v11) rfl (s_pure (o_faddr rfl e11)) ?_
      have hq := bindO_inv hr
      clear hr
      obtain ⟨v12, e12, hr⟩ := hq
      have hq := asI_inv hr
      clear hr
      obtain ⟨x12, rfl, hr⟩ := hq
      refine wo_take (v := (.i .i64 x12)) rfl (s_ld rfl e12) ?_
      have hq := bindO_inv hr
      clear hr
      obtain ⟨v13, e13, hr⟩ := hq
      refine wo_take (v := v13) rfl (s_pure (o_faddr rfl e13)) ?_
      have hq := bindO_inv hr
      clear hr
      obtain ⟨v14, e14, hr⟩ := hq
      have hq := asI_inv hr
      clear hr
      obtain ⟨x14, rfl, hr⟩ := hq
      refine wo_take (v := (.i .i64 x14)) rfl (s_ld rfl e14) ?_
      have hq := forceI_inv hr
      clear hr
      obtain ⟨x15, e15, hr⟩ := hq
      refine wo_take (v := (.i .i64 x15)) rfl (s_pure ((p_mx rfl rfl).trans (ci e15))) ?_
      have hq := forceB_inv hr
      clear hr
      obtain ⟨c16, e16, hr⟩ := hq
      refine wo_take (v := (.b c16)) rfl (s_pure (p_bin rfl rfl (b_lss.trans (cb e16)))) ?_
      refine wo_step (v := (.b c16)) (s_pure (p_pickF rfl rfl)) ?_
      refine wo_nil ?_
      cases hr
      exact ⟨_, _, rfl, rfl, gl rfl, gl rfl, gl rfl⟩
  · clear hr
    have hr := hk
    clear hk
    obtain ⟨c17, ho⟩ : ∃ z, z = o := ⟨_, rfl⟩
    subst ho
    rintro mm t_1 ⟨rfl, g17, g2, g3⟩
    refine wo_step (v := (.b c17)) (s_pure (p_mv g17)) ?_
    have hq := bindO_inv hr
    clear hr
    obtain ⟨o_1, hr, hk⟩ := hq
    refine wo_join 9 (g60_J1 v2 v3 m_2 o_1) ?_ ?_
    · clear hk
      have hq := cond_inv hr
      clear hr
      rcases hq with ⟨rfl, hr⟩ | ⟨rfl, hr⟩
      · refine wo_skip (v := (.b true)) rfl rfl ?_
        refine wo_skip (v := (.b true)) rfl rfl ?_
        refine wo_skip (v := (.b true)) rfl rfl ?_
        refine wo_skip (v := (.b true)) rfl rfl ?_
        refine wo_skip (v := (.b true)) rfl rfl ?_
        refine wo_skip (v := (.b true)) rfl rfl ?_
        refine wo_skip (v := (.b true)) rfl rfl ?_
        refine wo_skip (v := (.b true)) rfl rfl ?_
        refine wo_step (v := (.b true)) (s_pure (p_pickT rfl rfl)) ?_
        refine wo_nil ?_
        cases hr
        exact ⟨_, _, rfl, rfl, gl rfl, gl g2, gl g3⟩
      · have hq := bindO_inv hr
        clear hr
        obtain ⟨v19, e19, hr⟩ := hq
        refine wo_take (v := v19) rfl (s_pure (o_faddr g3 e19)) ?_
        have hq := bindO_inv hr
        clear hr
        obtain ⟨v20, e20, hr⟩ := hq
        have hq := asI_inv hr
        clear hr
        obtain ⟨x20, rfl, hr⟩ := hq
        refine wo_take (v := (.i .i64 x20)) rfl (s_ld rfl e20) ?_
        have hq := bindO_inv hr
        clear hr
        obtain ⟨v21, e21, hr⟩ := hq
        refine wo_take (v := v21) rfl (s_pure (o_faddr g3 e21)) ?_
        have hq := bindO_inv hr
        clear hr
        obtain ⟨v22, e22, hr⟩ := hq
        have hq := asI_inv hr
        clear hr
        obtain ⟨x22, rfl, hr⟩ := hq
        refine wo_take (v := (.i .i64 x22)) rfl (s_ld rfl e22) ?_
        have hq := forceI_inv hr
        clear hr
        obtain ⟨x23, e23, hr⟩ := hq
        refine wo_take (v := (.i .i64 x23)) rfl (s_pure ((p_mx rfl rfl).trans (ci e23))) ?_
        have hq := bindO_inv hr
        clear hr
        obtain ⟨v24, e24, hr⟩ := hq
        refine wo_take (v := v24) rfl (s_pure (o_faddr g2 e24)) ?_
        have hq := bindO_inv hr
        clear hr
        obtain ⟨v25, e25, hr⟩ := hq
        have hq := asI_inv hr
        clear hr
        obtain ⟨x25, rfl, hr⟩ := hq
        refine wo_take (v := (.i .i64 x25)) rfl (s_ld rfl e25) ?_
        have hq := forceB_inv hr
        clear hr
        obtain ⟨c26, e26, hr⟩ := hq
        refine wo_take (v := (.b c26)) rfl (s_pure (p_bin rfl rfl (b_geq.trans (cb e26)))) ?_
        refine wo_step (v := (.b c26)) (s_pure (p_pickF rfl rfl)) ?_
        refine wo_nil ?_
        cases hr
        exact ⟨_, _, rfl, rfl, gl rfl, gl g2, gl g3⟩
    · clear hr
      have hr := hk
      clear hk
      obtain ⟨c27, ho⟩ : ∃ z, z = o_1 := ⟨_, rfl⟩
      subst ho
      rintro mm_1 t_2 ⟨rfl, g27, g2, g3⟩
      refine wo_nil ?_
      refine nx_norm ?_
      have hq := cond_inv hr
      clear hr
      rcases hq with ⟨rfl, hr⟩ | ⟨rfl, hr⟩
      · refine w_condT g27 ?_
        refine w_seq ?_
        refine w_ops ?_
        refine wo_step (v := (.b false)) (s_pure (p_mv rfl)) ?_
        refine wo_nil ?_
        refine nx_norm ?_
        refine w_ret ?_
        refine nx_ret ?_
        exact qf ret_ok (rt rfl rn) hr
      · refine w_condF g27 ?_
        refine w_skip ?_
        refine nx_norm ?_
        refine w_seq ?_
        refine w_seq ?_
        refine w_ops ?_
        have hq := bindO_inv hr
        clear hr
        obtain ⟨v28, e28, hr⟩ := hq
        refine wo_step (v := v28) (s_pure (o_faddr g3 e28)) ?_
        have hq := bindO_inv hr
        clear hr
        obtain ⟨v29, e29, hr⟩ := hq
        have hq := asI_inv hr
        clear hr
        obtain ⟨x29, rfl, hr⟩ := hq
        refine wo_step (v := (.i .i64 x29)) (s_ld rfl e29) ?_
        have hq := forceB_inv hr
        clear hr
        obtain ⟨c30, e30, hr⟩ := hq
        refine wo_step (v := (.b c30)) (s_pure (p_bin rfl rfl (b_lss.trans (cb e30)))) ?_
        refine wo_step (v := (.b c30)) (s_pure (p_mv rfl)) ?_
        have hq := bindO_inv hr
        clear hr
        obtain ⟨o_2, hr, hk⟩ := hq
        refine wo_join 4 (g60_J2 v2 v3 m_2 o_2) ?_ ?_
        · clear hk
          have hq := cond_inv hr
          clear hr
          rcases hq with ⟨rfl, hr⟩ | ⟨rfl, hr⟩
          · refine wo_skip (v := (.b true)) rfl rfl ?_
            refine wo_skip (v := (.b true)) rfl rfl ?_
            refine wo_skip (v := (.b true)) rfl rfl ?_
            refine wo_step (v := (.b true)) (s_pure (p_pickT rfl rfl)) ?_
            refine wo_nil ?_
            cases hr
            exact ⟨_, _, rfl, rfl, gl rfl, gl g2, gl g3⟩
          · have hq := bindO_inv hr
            clear hr
            obtain ⟨v32, e32, hr⟩ := hq
            refine wo_take (v := v32) rfl (s_pure (o_faddr g3 e32)) ?_
            have hq := bindO_inv hr
            clear hr
            obtain ⟨v33, e33, hr⟩ := hq
            have hq := asI_inv hr
            clear hr
            obtain ⟨x33, rfl, hr⟩ := hq
            refine wo_take (v := (.i .i64 x33)) rfl (s_ld rfl e33) ?_
            have hq := forceB_inv hr
            clear hr
            obtain ⟨c34, e34, hr⟩ := hq
            refine wo_take (v := (.b c34)) rfl (s_pure (p_bin rfl rfl (b_gtr.trans (cb e34)))) ?_
            refine wo_step (v := (.b c34)) (s_pure (p_pickF rfl rfl)) ?_
            refine wo_nil ?_
            cases hr
            exact ⟨_, _, rfl, rfl, gl rfl, gl g2, gl g3⟩
        · clear hr
          have hr := hk
          clear hk
          obtain ⟨c35, ho⟩ : ∃ z, z = o_2 := ⟨_, rfl⟩
          subst ho
          rintro mm_2 t_3 ⟨rfl, g35, g2, g3⟩
          refine wo_nil ?_
          refine nx_norm ?_
          have hq := cond_inv hr
          clear hr
          rcases hq with ⟨rfl, hr⟩ | ⟨rfl, hr⟩
          · refine w_condT g35 ?_
            refine w_seq ?_
            refine w_ops ?_
            refine wo_step (v := (.b false)) (s_pure (p_mv rfl)) ?_
            refine wo_nil ?_
            refine nx_norm ?_
            refine w_ret ?_
            refine nx_ret ?_
            exact qf ret_ok (rt rfl rn) hr
          · refine w_condF g35 ?_
            refine w_skip ?_
            refine nx_norm ?_
            refine w_seq ?_
            refine w_ops ?_
            have hq := bindO_inv hr
            clear hr
            obtain ⟨v36, e36, hr⟩ := hq
            refine wo_step (v := v36) (s_pure (o_faddr g3 e36)) ?_
            have hq := bindO_inv hr
            clear hr
            obtain ⟨v37, e37, hr⟩ := hq
            have hq := asI_inv hr
            clear hr
            obtain ⟨x37, rfl, hr⟩ := hq
            refine wo_step (v := (.i .i64 x37)) (s_ld rfl e37) ?_
            have hq := bindO_inv hr
            clear hr
            obtain ⟨v38, e38, hr⟩ := hq
            refine wo_step (v := v38) (s_pure (o_faddr g3 e38)) ?_
            have hq := bindO_inv hr
            clear hr
            obtain ⟨v39, e39, hr⟩ := hq
            have hq := asI_inv hr
            clear hr
            obtain ⟨x39, rfl, hr⟩ := hq
            refine wo_step (v := (.i .i64 x39)) (s_ld rfl e39) ?_
            have hq := forceB_inv hr
            clear hr
            obtain ⟨c40, e40, hr⟩ := hq
            refine wo_step (v := (.b c40)) (s_pure (p_bin rfl rfl (b_geq.trans (cb e40)))) ?_
            refine wo_step (v := (.b c40)) (s_pure (p_mv rfl)) ?_
            have hq := bindO_inv hr
            clear hr
            obtain ⟨o_3, hr, hk⟩ := hq
            refine wo_join 10 (g60_J3 m_2 o_3) ?_ ?_
            · clear hk
              have hq := cond_inv hr
              clear hr
              rcases hq with ⟨rfl, hr⟩ | ⟨rfl, hr⟩
              · have hq := bindO_inv hr
                clear hr
                obtain ⟨v42, e42, hr⟩ := hq
                refine wo_take (v := v42) rfl (s_pure (o_faddr g3 e42)) ?_
                have hq := bindO_inv hr
                clear hr
                obtain ⟨v43, e43, hr⟩ := hq
                have hq := asI_inv hr
                clear hr
                obtain ⟨x43, rfl, hr⟩ := hq
                refine wo_take (v := (.i .i64 x43)) rfl (s_ld rfl e43) ?_
                have hq := bindO_inv hr
                clear hr
                obtain ⟨v44, e44, hr⟩ := hq
                refine wo_take (v := v44) rfl (s_pure (o_faddr g3 e44)) ?_
                have hq := bindO_inv hr
                clear hr
                obtain ⟨v45, e45, hr⟩ := hq
                have hq := asI_inv hr
                clear hr
                obtain ⟨x45, rfl, hr⟩ := hq
                refine wo_take (v := (.i .i64 x45)) rfl (s_ld rfl e45) ?_
                have hq := bindO_inv hr
                clear hr
                obtain ⟨v46, e46, hr⟩ := hq
                refine wo_take (v := v46) rfl (s_pure (o_faddr g2 e46)) ?_
                have hq := bindO_inv hr
                clear hr
                obtain ⟨v47, e47, hr⟩ := hq
                have hq := asI_inv hr
                clear hr
                obtain ⟨x47, rfl, hr⟩ := hq
                refine wo_take (v := (.i .i64 x47)) rfl (s_ld rfl e47) ?_
                have hq := forceI_inv hr
                clear hr
                obtain ⟨x48, e48, hr⟩ := hq
                refine wo_take (v := (.i .i64 x48)) rfl (s_pure (p_bin rfl rfl (b_add.trans (ci e48)))) ?_
                have hq := forceI_inv hr
                clear hr
                obtain ⟨x49, e49, hr⟩ := hq
                refine wo_take (v := (.i .i64 x49)) rfl (s_pure (p_bin rfl rfl (b_sub.trans (ci e49)))) ?_
                have hq := forceB_inv hr
                clear hr
                obtain ⟨c50, e50, hr⟩ := hq
                refine wo_take (v := (.b c50)) rfl (s_pure (p_bin rfl rfl (b_leq.trans (cb e50)))) ?_
                refine wo_step (v := (.b c50)) (s_pure (p_pickT rfl rfl)) ?_
                refine wo_nil ?_
                cases hr
                exact ⟨_, _, rfl, rfl, gl rfl⟩
              · refine wo_skip (v := (.b false)) rfl rfl ?_
                refine wo_skip (v := (.b false)) rfl rfl ?_
                refine wo_skip (v := (.b false)) rfl rfl ?_
                refine wo_skip (v := (.b false)) rfl rfl ?_
                refine wo_skip (v := (.b false)) rfl rfl ?_
                refine wo_skip (v := (.b false)) rfl rfl ?_
                refine wo_skip (v := (.b false)) rfl rfl ?_
                refine wo_skip (v := (.b false)) rfl rfl ?_
                refine wo_skip (v := (.b false)) rfl rfl ?_
                refine wo_step (v := (.b false)) (s_pure (p_pickF rfl rfl)) ?_
                refine wo_nil ?_
                cases hr
                exact ⟨_, _, rfl, rfl, gl rfl⟩
            · clear hr
              have hr := hk
              clear hk
              obtain ⟨c51, ho⟩ : ∃ z, z = o_3 := ⟨_, rfl⟩
              subst ho
              rintro mm_3 t_4 ⟨rfl, g51⟩
              refine wo_step (v := (.b c51)) (s_pure (p_mv g51)) ?_
              refine wo_nil ?_
              refine nx_norm ?_
              refine w_ret ?_
              exact qf ret_ok (rt rfl rn) hr

/- dibber/dibberref04.mod -/

def g67 (M : Means) (ro : List ABlk) (x0 : Int) (x1 : Int) (m0 : Mm) : Option (AVal × Heap × Nat × Nat) :=
  chk (!eqI x1 (.ofNat 0)) <|
  forceI (Int.tmod x0 x1) fun x7 =>
  forceI (wr .i64 (x7 + x1)) fun x9 =>
  chk (!eqI x1 (.ofNat 0)) <|
  forceI (Int.tmod x9 x1) fun x11 =>
  finM m0.h.length (tupA [(.i .i64 x11)]) m0

theorem g67_ok {ro : List ABlk} {O : Caller} {M : Means} (hM : M.Ok ⟨F, O⟩ ro) {x0 x1 h r} (ho : O 67 [(.i .i64 x0), (.i .i64 x1)] h = none) (hr : g67 M ro x0 x1 ⟨h, h.length, h.length⟩ = some r) : callX ⟨F, O⟩ ro 67 [(.i .i64 x0), (.i .i64 x1)] h = some r := by
  refine callX_of (F := ⟨F, O⟩) (fn := fn67) (g := g67 M ro x0 x1) ho rfl rfl hr ?_
  clear ho
  clear hr
  intro m0 t0 ht hr
  have g0 : t0.get 0 = (.i .i64 x0) := ht 0
  have g1 : t0.get 1 = (.i .i64 x1) := ht 1
  clear ht
  unfold g67 at hr
  refine w_seq ?_
  refine w_ops ?_
  refine wo_step (v := (.i .i64 0)) (s_pure (p_mv rfl)) ?_
  refine wo_nil ?_
  refine nx_norm ?_
  refine w_seq ?_
  refine w_ops ?_
  refine wo_step (v := (.i .i64 x0)) (s_pure (p_mv g0)) ?_
  refine wo_step (v := (.i .i64 x1)) (s_pure (p_mv g1)) ?_
  have hq := chk_inv hr
  clear hr
  obtain ⟨hc7, hr⟩ := hq
  have hq := forceI_inv hr
  clear hr
  obtain ⟨x7, e7, hr⟩ := hq
  refine wo_step (v := (.i .i64 x7)) (s_pure (p_bin rfl rfl ((b_rem hc7).trans (ci e7)))) ?_
  refine wo_step (v := (.i .i64 x1)) (s_pure (p_mv g1)) ?_
  have hq := forceI_inv hr
  clear hr
  obtain ⟨x9, e9, hr⟩ := hq
  refine wo_step (v := (.i .i64 x9)) (s_pure (p_bin rfl rfl (b_add.trans (ci e9)))) ?_
  refine wo_step (v := (.i .i64 x1)) (s_pure (p_mv g1)) ?_
  have hq := chk_inv hr
  clear hr
  obtain ⟨hc11, hr⟩ := hq
  have hq := forceI_inv hr
  clear hr
  obtain ⟨x11, e11, hr⟩ := hq
  refine wo_step (v := (.i .i64 x11)) (s_pure (p_bin rfl rfl ((b_rem hc11).trans (ci e11)))) ?_
  refine wo_step (v := (.i .i64 x11)) (s_pure (p_mv rfl)) ?_
  refine wo_nil ?_
  refine nx_norm ?_
  refine w_ret ?_
  exact qf ret_ok (rt rfl rn) hr

/- (dibber/turn.demands).modulo -/

def g70 (M : Means) (ro : List ABlk) (v0 : AVal) (x1 : Int) (m0 : Mm) : Option (AVal × Heap × Nat × Nat) :=
  bindP (stepM ro m0 (.bx 55 3 (.c v0))) fun v2 m_1 =>
  bindO (evP .e (.faddr 0 (.c v2))) fun v6 =>
  bindO (ldA ro m_1.h true 1 v6) fun v7 =>
  asI .i64 v7 fun x7 =>
  chk (!eqI x7 (.ofNat 0)) <|
  forceI (Int.tmod x1 x7) fun x8 =>
  bindO (evP .e (.faddr 0 (.c v2))) fun v9 =>
  bindO (ldA ro m_1.h true 1 v9) fun v10 =>
  asI .i64 v10 fun x10 =>
  forceI (wr .i64 (x8 + x10)) fun x11 =>
  bindO (evP .e (.faddr 0 (.c v2))) fun v12 =>
  bindO (ldA ro m_1.h true 1 v12) fun v13 =>
  asI .i64 v13 fun x13 =>
  chk (!eqI x13 (.ofNat 0)) <|
  forceI (Int.tmod x11 x13) fun x14 =>
  finM m0.h.length (tupA [(.i .i64 x14)]) m_1

theorem g70_ok {ro : List ABlk} {O : Caller} {M : Means} (hM : M.Ok ⟨F, O⟩ ro) {v0 x1 h r} (ho : O 70 [v0, (.i .i64 x1)] h = none) (hr : g70 M ro v0 x1 ⟨h, h.length, h.length⟩ = some r) : callX ⟨F, O⟩ ro 70 [v0, (.i .i64 x1)] h = some r := by
  refine callX_of (F := ⟨F, O⟩) (fn := fn70) (g := g70 M ro v0 x1) ho rfl rfl hr ?_
  clear ho
  clear hr
  intro m0 t0 ht hr
  have g0 : t0.get 0 = v0 := ht 0
  have g1 : t0.get 1 = (.i .i64 x1) := ht 1
  clear ht
  unfold g70 at hr
  refine w_seq ?_
  refine w_ops ?_
  have hq := bindP_inv hr
  clear hr
  obtain ⟨v2, m_1, e2, hr⟩ := hq
  refine wo_step (v := v2) (s_bx g0 e2) ?_
  refine wo_step (v := (.i .i64 0)) (s_pure (p_mv rfl)) ?_
  refine wo_nil ?_
  refine nx_norm ?_
  refine w_seq ?_
  refine w_any ?_
  refine wa_step (v := (.i .i64 x1)) (a_pure (p_mv g1)) ?_
  have hq := bindO_inv hr
  clear hr
  obtain ⟨v6, e6, hr⟩ := hq
  refine wa_step (v := v6) (a_pure (o_faddr rfl e6)) ?_
  have hq := bindO_inv hr
  clear hr
  obtain ⟨v7, e7, hr⟩ := hq
  have hq := asI_inv hr
  clear hr
  obtain ⟨x7, rfl, hr⟩ := hq
  refine wa_step (v := (.i .i64 x7)) (a_ld rfl e7) ?_
  have hq := chk_inv hr
  clear hr
  obtain ⟨hc8, hr⟩ := hq
  have hq := forceI_inv hr
  clear hr
  obtain ⟨x8, e8, hr⟩ := hq
  refine wa_step (v := (.i .i64 x8)) (a_pure (p_bin rfl rfl ((b_rem hc8).trans (ci e8)))) ?_
  have hq := bindO_inv hr
  clear hr
  obtain ⟨v9, e9, hr⟩ := hq
  refine wa_step (v := v9) (a_pure (o_faddr rfl e9)) ?_
  have hq := bindO_inv hr
  clear hr
  obtain ⟨v10, e10, hr⟩ := hq
  have hq := asI_inv hr
  clear hr
  obtain ⟨x10, rfl, hr⟩ := hq
  refine wa_step (v := (.i .i64 x10)) (a_ld rfl e10) ?_
  have hq := forceI_inv hr
  clear hr
  obtain ⟨x11, e11, hr⟩ := hq
  refine wa_step (v := (.i .i64 x11)) (a_pure (p_bin rfl rfl (b_add.trans (ci e11)))) ?_
  have hq := bindO_inv hr
  clear hr
  obtain ⟨v12, e12, hr⟩ := hq
  refine wa_step (v := v12) (a_pure (o_faddr rfl e12)) ?_
  have hq := bindO_inv hr
  clear hr
  obtain ⟨v13, e13, hr⟩ := hq
  have hq := asI_inv hr
  clear hr
  obtain ⟨x13, rfl, hr⟩ := hq
  refine wa_step (v := (.i .i64 x13)) (a_ld rfl e13) ?_
  have hq := chk_inv hr
  clear hr
  obtain ⟨hc14, hr⟩ := hq
  have hq := forceI_inv hr
  clear hr
  obtain ⟨x14, e14, hr⟩ := hq
  refine wa_step (v := (.i .i64 x14)) (a_pure (p_bin rfl rfl ((b_rem hc14).trans (ci e14)))) ?_
  refine wa_step (v := (.i .i64 x14)) (a_pure (p_mv rfl)) ?_
  refine wa_nil ?_
  refine ⟨m_1, rfl, ?_⟩
  refine nx_norm ?_
  refine w_ret ?_
  exact qf ret_ok (rt rfl rn) hr

/- (dibber/turn.demands).step -/
abbrev g74_J0 (x1 : Int) (v2 : AVal) (v4 : AVal) (x9 : Int) (m_2 : Mm) (o : Bool) (m1 : Mm) (t1 : Tr) : Prop :=
  match o with
  | c17 => m_2 = m1 ∧ t1.get 17 = (.b c17) ∧ t1.get 1 = (.i .i64 x1) ∧ t1.get 2 = v2 ∧ t1.get 4 = v4 ∧ t1.get 6 = (.i .i64 x9)
abbrev g74_J1 (x1 : Int) (v2 : AVal) (v4 : AVal) (m_2 : Mm) (o : Bool) (m1 : Mm) (t1 : Tr) : Prop :=
  match o with
  | c32 => m_2 = m1 ∧ t1.get 32 = (.b c32) ∧ t1.get 1 = (.i .i64 x1) ∧ t1.get 2 = v2 ∧ t1.get 4 = v4
def g74 (M : Means) (ro : List ABlk) (v0 : AVal) (x1 : Int) (m0 : Mm) : Option (AVal × Heap × Nat × Nat) :=
  bindP (stepM ro m0 (.bx 55 3 (.c v0))) fun v2 m_1 =>
  bindP (stepM ro m_1 (.al 31 [(AVal.i IntKind.i64 0), (AVal.i IntKind.i64 0), (AVal.i IntKind.i64 0), (AVal.i IntKind.i64 0)])) fun v4 m_2 =>
  bindO (evP .e (.faddr 2 (.c v2))) fun v7 =>
  bindO (ldM ro m_2 true 1 v7) fun v8 =>
  bindO (evP .e (.len false (.c v8))) fun v9 =>
  asI .i64 v9 fun x9 =>
  forceB (!ltI x1 1) fun c12 =>
  bindO (cond c12 (
    forceB (!ltI x9 x1) fun c16 =>
    some c16) (
    some false)) fun c17 =>
  cond c17 (
    bindO (evP .e (.faddr 2 (.c v2))) fun v18 =>
    bindO (ldM ro m_2 true 1 v18) fun v19 =>
    forceI (wr .i64 (x1 - 1)) fun x21 =>
    bindO (evP .e (.ixS 4 (.c v19) (.c (.i .i64 x21)))) fun v22 =>
    bindO (ldM ro m_2 false 4 v22) fun v23 =>
    bindP (stepM ro m_2 (.st 4 (.c v4) (.c v23))) fun vn m_3 =>
    bindO (ldM ro m_3 false 4 v4) fun vr =>
    finM m0.h.length (tupA [vr, (.b true)]) m_3) (
    forceB (!ltI (-1) x1) fun c26 =>
    bindO (cond c26 (
      forceI (wr .i64 (0 - x9)) fun x30 =>
      forceB (!ltI x1 x30) fun c31 =>
      some c31) (
      some false)) fun c32 =>
    cond c32 (
      bindO (evP .e (.faddr 2 (.c v2))) fun v33 =>
      bindO (ldM ro m_2 true 1 v33) fun v34 =>
      forceI (wr .i64 (0 - x1)) fun x36 =>
      forceI (wr .i64 (x36 - 1)) fun x37 =>
      bindO (evP .e (.ixS 4 (.c v34) (.c (.i .i64 x37)))) fun v38 =>
      bindO (ldM ro m_2 false 4 v38) fun v39 =>
      bindP (callM M.call m_2 77 [v39]) fun v40 m_4 =>
      bindP (stepM ro m_4 (.st 4 (.c v4) (.c v40))) fun vn_1 m_5 =>
      bindO (ldM ro m_5 false 4 v4) fun vr_1 =>
      finM m0.h.length (tupA [vr_1, (.b true)]) m_5) (
      bindO ((fillA [(AVal.i IntKind.i64 0), (AVal.i IntKind.i64 0), (AVal.i IntKind.i64 0), (AVal.i IntKind.i64 0)] []).map AVal.agg) fun v41 =>
      bindP (stepM ro m_2 (.st 4 (.c v4) (.c v41))) fun vn_2 m_6 =>
      bindO (ldM ro m_6 false 4 v4) fun vr_2 =>
      finM m0.h.length (tupA [vr_2, (.b false)]) m_6))

theorem g74_ok {ro : List ABlk} {O : Caller} {M : Means} (hM : M.Ok ⟨F, O⟩ ro) {v0 x1 h r} (ho : O 74 [v0, (.i .i64 x1)] h = none) (hr : g74 M ro v0 x1 ⟨h, h.length, h.length⟩ = some r) : callX ⟨F, O⟩ ro 74 [v0, (.i .i64 x1)] h = some r := by
  refine callX_of (F := ⟨F, O⟩) (fn := fn74) (g := g74 M ro v0 x1) ho rfl rfl hr ?_
  clear ho
  clear hr
  intro m0 t0 ht hr
  have g0 : t0.get 0 = v0 := ht 0
  have g1 : t0.get 1 = (.i .i64 x1) := ht 1
  clear ht
  unfold g74 at hr
  refine w_seq ?_
  refine w_ops ?_
  have hq := bindP_inv hr
  clear hr
  obtain ⟨v2, m_1, e2, hr⟩ := hq
  refine wo_step (v := v2) (s_bx g0 e2) ?_
  have hq := bindP_inv hr
  clear hr
  obtain ⟨v4, m_2, e4, hr⟩ := hq
  refine wo_step (v := v4) (s_al e4) ?_
  refine wo_step (v := (.b false)) (s_pure (p_mv rfl)) ?_
  refine wo_nil ?_
  refine nx_norm ?_
  refine w_seq ?_
  refine w_ops ?_
  have hq := bindO_inv hr
  clear hr
  obtain ⟨v7, e7, hr⟩ := hq
  refine wo_step (v := v7) (s_pure (o_faddr rfl e7)) ?_
  have hq := bindO_inv hr
  clear hr
  obtain ⟨v8, e8, hr⟩ := hq
  refine wo_step (v := v8) (s_ld rfl e8) ?_
  have hq := bindO_inv hr
  clear hr
  obtain ⟨v9, e9, hr⟩ := hq
  have hq := asI_inv hr
  clear hr
  obtain ⟨x9, rfl, hr⟩ := hq
  refine wo_step (v := (.i .i64 x9)) (s_pure (o_len rfl e9)) ?_
  refine wo_step (v := (.i .i64 x9)) (s_pure (p_mv rfl)) ?_
  refine wo_nil ?_
  refine nx_norm ?_
  refine w_seq ?_
  refine w_block ?_
  refine w_seq ?_
  refine w_ops ?_
  refine wo_step (v := (.i .i64 x1)) (s_pure (p_mv g1)) ?_
  have hq := forceB_inv hr
  clear hr
  obtain ⟨c12, e12, hr⟩ := hq
  refine wo_step (v := (.b c12)) (s_pure (p_bin rfl rfl (b_geq.trans (cb e12)))) ?_
  refine wo_step (v := (.b c12)) (s_pure (p_mv rfl)) ?_
  have hq := bindO_inv hr
  clear hr
  obtain ⟨o, hr, hk⟩ := hq
  refine wo_join 4 (g74_J0 x1 v2 v4 x9 m_2 o) ?_ ?_
  · clear hk
    have hq := cond_inv hr
    clear hr
    rcases hq with ⟨rfl, hr⟩ | ⟨rfl, hr⟩
    · refine wo_take (v := (.i .i64 x1)) rfl (s_pure (p_mv g1)) ?_
      refine wo_take (v := (.i .i64 x9)) rfl (s_pure (p_mv rfl)) ?_
      have hq := forceB_inv hr
      clear hr
      obtain ⟨c16, e16, hr⟩ := hq
      refine wo_take (v := (.b c16)) rfl (s_pure (p_bin rfl rfl (b_leq.trans (cb e16)))) ?_
      refine wo_step (v := (.b c16)) (s_pure (p_pickT rfl rfl)) ?_
      refine wo_nil ?_
      cases hr
      exact ⟨_, _, rfl, rfl, gl rfl, gl g1, gl rfl, gl rfl, gl rfl⟩
    · refine wo_skip (v := (.b false)) rfl rfl ?_
      refine wo_skip (v := (.b false)) rfl rfl ?_
      refine wo_skip (v := (.b false)) rfl rfl ?_
      refine wo_step (v := (.b false)) (s_pure (p_pickF rfl rfl)) ?_
      refine wo_nil ?_
      cases hr
      exact ⟨_, _, rfl, rfl, gl rfl, gl g1, gl rfl, gl rfl, gl rfl⟩
  · clear hr
    have hr := hk
    clear hk
    obtain ⟨c17, ho⟩ : ∃ z, z = o := ⟨_, rfl⟩
    subst ho
    rintro mm t_1 ⟨rfl, g17, g1, g2, g4, g6⟩
    refine wo_step (v := (.b c17)) (s_pure (p_mv g17)) ?_
    refine wo_nil ?_
    refine nx_norm ?_
    have hq := cond_inv hr
    clear hr
    rcases hq with ⟨rfl, hr⟩ | ⟨rfl, hr⟩
    · refine w_condT rfl ?_
      refine w_seq ?_
      refine w_ops ?_
      have hq := bindO_inv hr
      clear hr
      obtain ⟨v18, e18, hr⟩ := hq
      refine wo_step (v := v18) (s_pure (o_faddr g2 e18)) ?_
      have hq := bindO_inv hr
      clear hr
      obtain ⟨v19, e19, hr⟩ := hq
      refine wo_step (v := v19) (s_ld rfl e19) ?_
      refine wo_step (v := (.i .i64 x1)) (s_pure (p_mv g1)) ?_
      have hq := forceI_inv hr
      clear hr
      obtain ⟨x21, e21, hr⟩ := hq
      refine wo_step (v := (.i .i64 x21)) (s_pure (p_bin rfl rfl (b_sub.trans (ci e21)))) ?_
      have hq := bindO_inv hr
      clear hr
      obtain ⟨v22, e22, hr⟩ := hq
      refine wo_step (v := v22) (s_pure (o_ixS rfl rfl e22)) ?_
      have hq := bindO_inv hr
      clear hr
      obtain ⟨v23, e23, hr⟩ := hq
      refine wo_step (v := v23) (s_ld rfl e23) ?_
      have hq := bindP_inv hr
      clear hr
      obtain ⟨vn, m_3, en, hr⟩ := hq
      refine wo_stepN (s_st g4 rfl en) ?_
      refine wo_step (v := (.b true)) (s_pure (p_mv rfl)) ?_
      refine wo_nil ?_
      refine nx_norm ?_
      refine w_ret ?_
      refine bk_ret ?_
      refine nx_ret ?_
      have hq := bindO_inv hr
      clear hr
      obtain ⟨vr, er, hr⟩ := hq
      exact qf ret_ok (rc g4 er (rt rfl rn)) hr
    · refine w_condF rfl ?_
      refine w_seq ?_
      refine w_ops ?_
      refine wo_step (v := (.i .i64 x1)) (s_pure (p_mv g1)) ?_
      have hq := forceB_inv hr
      clear hr
      obtain ⟨c26, e26, hr⟩ := hq
      refine wo_step (v := (.b c26)) (s_pure (p_bin rfl rfl (b_leq.trans (cb e26)))) ?_
      refine wo_step (v := (.b c26)) (s_pure (p_mv rfl)) ?_
      have hq := bindO_inv hr
      clear hr
      obtain ⟨o_1, hr, hk⟩ := hq
      refine wo_join 5 (g74_J1 x1 v2 v4 m_2 o_1) ?_ ?_
      · clear hk
        have hq := cond_inv hr
        clear hr
        rcases hq with ⟨rfl, hr⟩ | ⟨rfl, hr⟩
        · refine wo_take (v := (.i .i64 x1)) rfl (s_pure (p_mv g1)) ?_
          refine wo_take (v := (.i .i64 x9)) rfl (s_pure (p_mv g6)) ?_
          have hq := forceI_inv hr
          clear hr
          obtain ⟨x30, e30, hr⟩ := hq
          refine wo_take (v := (.i .i64 x30)) rfl (s_pure ((p_neg rfl).trans (ci e30))) ?_
          have hq := forceB_inv hr
          clear hr
          obtain ⟨c31, e31, hr⟩ := hq
          refine wo_take (v := (.b c31)) rfl (s_pure (p_bin rfl rfl (b_geq.trans (cb e31)))) ?_
          refine wo_step (v := (.b c31)) (s_pure (p_pickT rfl rfl)) ?_
          refine wo_nil ?_
          cases hr
          exact ⟨_, _, rfl, rfl, gl rfl, gl g1, gl g2, gl g4⟩
        · refine wo_skip (v := (.b false)) rfl rfl ?_
          refine wo_skip (v := (.b false)) rfl rfl ?_
          refine wo_skip (v := (.b false)) rfl rfl ?_
          refine wo_skip (v := (.b false)) rfl rfl ?_
          refine wo_step (v := (.b false)) (s_pure (p_pickF rfl rfl)) ?_
          refine wo_nil ?_
          cases hr
          exact ⟨_, _, rfl, rfl, gl rfl, gl g1, gl g2, gl g4⟩
      · clear hr
        have hr := hk
        clear hk
        obtain ⟨c32, ho⟩ : ∃ z, z = o_1 := ⟨_, rfl⟩
        subst ho
        rintro mm_1 t_2 ⟨rfl, g32, g1, g2, g4⟩
        refine wo_step (v := (.b c32)) (s_pure (p_mv g32)) ?_
        refine wo_nil ?_
        refine nx_norm ?_
        have hq := cond_inv hr
        clear hr
        rcases hq with ⟨rfl, hr⟩ | ⟨rfl, hr⟩
        · refine w_condT rfl ?_
          refine w_seq ?_
          refine w_ops ?_
          have hq := bindO_inv hr
          clear hr
          obtain ⟨v33, e33, hr⟩ := hq
          refine wo_step (v := v33) (s_pure (o_faddr g2 e33)) ?_
          have hq := bindO_inv hr
          clear hr
          obtain ⟨v34, e34, hr⟩ := hq
          refine wo_step (v := v34) (s_ld rfl e34) ?_
          refine wo_step (v := (.i .i64 x1)) (s_pure (p_mv g1)) ?_
          have hq := forceI_inv hr
          clear hr
          obtain ⟨x36, e36, hr⟩ := hq
          refine wo_step (v := (.i .i64 x36)) (s_pure ((p_neg rfl).trans (ci e36))) ?_
          have hq := forceI_inv hr
          clear hr
          obtain ⟨x37, e37, hr⟩ := hq
          refine wo_step (v := (.i .i64 x37)) (s_pure (p_bin rfl rfl (b_sub.trans (ci e37)))) ?_
          have hq := bindO_inv hr
          clear hr
          obtain ⟨v38, e38, hr⟩ := hq
          refine wo_step (v := v38) (s_pure (o_ixS rfl rfl e38)) ?_
          have hq := bindO_inv hr
          clear hr
          obtain ⟨v39, e39, hr⟩ := hq
          refine wo_step (v := v39) (s_ld rfl e39) ?_
          have hq := bindP_inv hr
          clear hr
          obtain ⟨v40, m_4, e40, hr⟩ := hq
          refine wo_step (v := v40) (s_call (mc rfl mn) (callM_le hM.call e40)) ?_
          have hq := bindP_inv hr
          clear hr
          obtain ⟨vn_1, m_5, en_1, hr⟩ := hq
          refine wo_stepN (s_st g4 rfl en_1) ?_
          refine wo_step (v := (.b true)) (s_pure (p_mv rfl)) ?_
          refine wo_nil ?_
          refine nx_norm ?_
          refine w_ret ?_
          refine bk_ret ?_
          refine nx_ret ?_
          have hq := bindO_inv hr
          clear hr
          obtain ⟨vr_1, er_1, hr⟩ := hq
          exact qf ret_ok (rc g4 er_1 (rt rfl rn)) hr
        · refine w_condF rfl ?_
          refine w_skip ?_
          refine bk_norm ?_
          refine nx_norm ?_
          refine w_seq ?_
          refine w_ops ?_
          have hq := bindO_inv hr
          clear hr
          obtain ⟨v41, e41, hr⟩ := hq
          refine wo_step (v := v41) (s_pure (o_build qn e41)) ?_
          have hq := bindP_inv hr
          clear hr
          obtain ⟨vn_2, m_6, en_2, hr⟩ := hq
          refine wo_stepN (s_st g4 rfl en_2) ?_
          refine wo_step (v := (.b false)) (s_pure (p_mv rfl)) ?_
          refine wo_nil ?_
          refine nx_norm ?_
          refine w_ret ?_
          have hq := bindO_inv hr
          clear hr
          obtain ⟨vr_2, er_2, hr⟩ := hq
          exact qf ret_ok (rc g4 er_2 (rt rfl rn)) hr

end Go.Proofs.YtpjjmdbkgkembaaDoor.T

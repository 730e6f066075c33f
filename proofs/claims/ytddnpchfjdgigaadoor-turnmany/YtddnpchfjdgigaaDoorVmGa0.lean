/- Plain functions, and that the small machine answers as they do. -/
import Derived.Test.YtddnpchfjdgigaaDoorVmP
import Derived.Test.YtddnpchfjdgigaaDoorVmAE
open Go.Vm
set_option linter.unusedVariables false
namespace Go.Proofs.YtddnpchfjdgigaaDoor.T
open Go
/- dibber/dibberlaw04.TurnMany -/
abbrev g8_J0 (x14 : Int) (v18 : AVal) (o : Bool × Mm) (m1 : Mm) (t1 : Tr) : Prop :=
  match o with
  | (c27, m_2) => m_2 = m1 ∧ t1.get 27 = (.b c27) ∧ t1.get 3 = (.i .i64 x14) ∧ t1.get 4 = v18
abbrev g8_J1 (v36 : AVal) (x37 : Int) (x38 : Int) (m_6 : Mm) (o : Bool) (m1 : Mm) (t1 : Tr) : Prop :=
  match o with
  | c46 => m_6 = m1 ∧ t1.get 46 = (.b c46) ∧ t1.get 8 = v36 ∧ t1.get 9 = (.i .i64 x37) ∧ t1.get 10 = (.i .i64 x38)
abbrev g8_J2 (v36 : AVal) (x37 : Int) (m_6 : Mm) (o : Bool) (m1 : Mm) (t1 : Tr) : Prop :=
  match o with
  | c50 => m_6 = m1 ∧ t1.get 50 = (.b c50) ∧ t1.get 8 = v36 ∧ t1.get 9 = (.i .i64 x37)
abbrev g8_J3 (x37 : Int) (m_6 : Mm) (o : Bool) (m1 : Mm) (t1 : Tr) : Prop :=
  match o with
  | c55 => m_6 = m1 ∧ t1.get 55 = (.b c55) ∧ t1.get 9 = (.i .i64 x37)
abbrev g8_J4 (m_6 : Mm) (o : Bool) (m1 : Mm) (t1 : Tr) : Prop :=
  match o with
  | c59 => m_6 = m1 ∧ t1.get 59 = (.b c59)
abbrev g8_J5  (o : Bool × Mm) (m1 : Mm) (t1 : Tr) : Prop :=
  match o with
  | (c62, m_7) => m_7 = m1 ∧ t1.get 62 = (.b c62)
abbrev g8_J6 (v18 : AVal) (v36 : AVal) (x37 : Int) (x38 : Int) (m_6 : Mm) (o : Bool) (m1 : Mm) (t1 : Tr) : Prop :=
  match o with
  | c77 => m_6 = m1 ∧ t1.get 77 = (.b c77) ∧ t1.get 4 = v18 ∧ t1.get 8 = v36 ∧ t1.get 9 = (.i .i64 x37) ∧ t1.get 10 = (.i .i64 x38)
abbrev g8_J7 (v18 : AVal) (v36 : AVal) (x37 : Int) (m_6 : Mm) (o : Bool) (m1 : Mm) (t1 : Tr) : Prop :=
  match o with
  | c81 => m_6 = m1 ∧ t1.get 81 = (.b c81) ∧ t1.get 4 = v18 ∧ t1.get 8 = v36 ∧ t1.get 9 = (.i .i64 x37)
abbrev g8_J8 (x37 : Int) (o : Bool × Mm) (m1 : Mm) (t1 : Tr) : Prop :=
  match o with
  | (c86, m_9) => m_9 = m1 ∧ t1.get 86 = (.b c86) ∧ t1.get 9 = (.i .i64 x37)
abbrev g8_J9 (m_9 : Mm) (o : Bool) (m1 : Mm) (t1 : Tr) : Prop :=
  match o with
  | c90 => m_9 = m1 ∧ t1.get 90 = (.b c90)
abbrev g8_J10  (o : Bool × Mm) (m1 : Mm) (t1 : Tr) : Prop :=
  match o with
  | (c93, m_11) => m_11 = m1 ∧ t1.get 93 = (.b c93)
def g8 (M : Means) (ro : List ABlk) (x0 : Int) (m0 : Mm) : Option (AVal × Heap × Nat × Nat) :=
  forceI (Int.tmod x0 11) fun x12 =>
  forceI (wr .i64 x12) fun x13 =>
  forceI (wr .i64 (14 + x13)) fun x14 =>
  bindP (callM M.call m0 17 [(.i .i64 x14), (.i .i64 6), AVal.nsl]) fun v17 m_1 =>
  bindO (evP .e (.ext 0 (.c v17))) fun v18 =>
  bindO (evP .e (.ext 1 (.c v17))) fun v19 =>
  asI .i64 v19 fun x19 =>
  forceB (!eqI x19 0) fun c21 =>
  bindO (cond c21 (
    some (true, m_1)) (
    bindP (stepM ro m_1 (.bsl 3 1 [(AVal.i IntKind.i64 0)] 6 [((0, 1), .c (.i .i64 0)), ((1, 1), .c (.i .i64 0)), ((2, 1), .c (.i .i64 0)), ((3, 1), .c (.i .i64 0)), ((4, 1), .c (.i .i64 0)), ((5, 1), .c (.i .i64 0))])) fun v24 m_3 =>
    bindP (callM M.call m_3 19 [v18, v24]) fun v25 m_4 =>
    asB v25 fun c25 =>
    forceB (!c25) fun c26 =>
    some (c26, m_4))) fun ⟨c27, m_2⟩ =>
  cond c27 (
    finM m0.h.length (tupA [(.b false)]) m_2) (
    bindP (callM M.call m_2 22 [(.i .i64 x14), (.i .i64 6), AVal.nsl]) fun v30 m_5 =>
    bindO (evP .e (.ext 0 (.c v30))) fun v31 =>
    asI .i64 v31 fun x31 =>
    bindO (evP .e (.ext 1 (.c v30))) fun v32 =>
    asI .i64 v32 fun x32 =>
    bindP (callM M.call m_5 24 [(.i .i64 x14), (.i .i64 6), AVal.nsl]) fun v35 m_6 =>
    bindO (evP .e (.ext 0 (.c v35))) fun v36 =>
    bindO (evP .e (.ext 1 (.c v35))) fun v37 =>
    asI .i64 v37 fun x37 =>
    bindO (evP .e (.ext 2 (.c v35))) fun v38 =>
    asI .i64 v38 fun x38 =>
    forceB (ltI 15 x14) fun c40 =>
    cond c40 (
      forceB (eqI x32 8) fun c42 =>
      bindO (cond c42 (
        forceB (eqI x31 0) fun c45 =>
        some c45) (
        some false)) fun c46 =>
      bindO (cond c46 (
        forceB (eqI x38 8) fun c49 =>
        some c49) (
        some false)) fun c50 =>
      bindO (cond c50 (
        bindO (evP .e (.len false (.c v36))) fun v53 =>
        asI .i64 v53 fun x53 =>
        forceB (eqI x53 0) fun c54 =>
        some c54) (
        some false)) fun c55 =>
      bindO (cond c55 (
        forceB (eqI x37 0) fun c58 =>
        some c58) (
        some false)) fun c59 =>
      bindO (cond c59 (
        bindP (callM M.call m_6 16 []) fun v61 m_8 =>
        asB v61 fun c61 =>
        some (c61, m_8)) (
        some (false, m_6))) fun ⟨c62, m_7⟩ =>
      finM m0.h.length (tupA [(.b c62)]) m_7) (
      forceB (eqI x32 0) fun c64 =>
      bindO (cond c64 (
        forceI (wr .i64 (x14 * x14)) fun x69 =>
        forceI (wr .i64 (x69 * x14)) fun x71 =>
        forceI (wr .i64 (x71 * x14)) fun x73 =>
        forceI (wr .i64 (x73 * x14)) fun x75 =>
        forceB (eqI x31 x75) fun c76 =>
        some c76) (
        some false)) fun c77 =>
      bindO (cond c77 (
        forceB (eqI x38 0) fun c80 =>
        some c80) (
        some false)) fun c81 =>
      bindO (cond c81 (
        bindP (callM M.call m_6 19 [v36, v18]) fun v85 m_10 =>
        asB v85 fun c85 =>
        some (c85, m_10)) (
        some (false, m_6))) fun ⟨c86, m_9⟩ =>
      bindO (cond c86 (
        forceB (eqI x37 0) fun c89 =>
        some c89) (
        some false)) fun c90 =>
      bindO (cond c90 (
        bindP (callM M.call m_9 16 []) fun v92 m_12 =>
        asB v92 fun c92 =>
        some (c92, m_12)) (
        some (false, m_9))) fun ⟨c93, m_11⟩ =>
      finM m0.h.length (tupA [(.b c93)]) m_11))

theorem g8_ok {ro : List ABlk} {O : Caller} {M : Means} (hM : M.Ok ⟨F, O⟩ ro) {x0 h r} (ho : O 8 [(.i .u8 x0)] h = none) (hr : g8 M ro x0 ⟨h, h.length, h.length⟩ = some r) : callX ⟨F, O⟩ ro 8 [(.i .u8 x0)] h = some r := by
  refine callX_of (F := ⟨F, O⟩) (fn := fn8) (g := g8 M ro x0) ho rfl rfl hr ?_
  clear ho
  clear hr
  intro m0 t0 ht hr
  have g0 : t0.get 0 = (.i .u8 x0) := ht 0
  clear ht
  unfold g8 at hr
  refine w_seq ?_
  refine w_ops ?_
  refine wo_step (v := (.b false)) (s_pure (p_mv rfl)) ?_
  refine wo_nil ?_
  refine nx_norm ?_
  refine w_seq ?_
  refine w_ops ?_
  refine wo_step (v := (.i .u8 x0)) (s_pure (p_mv g0)) ?_
  have hq := forceI_inv hr
  clear hr
  obtain ⟨x12, e12, hr⟩ := hq
  refine wo_step (v := (.i .u8 x12)) (s_pure (p_bin rfl rfl ((b_rem rfl).trans (ci e12)))) ?_
  have hq := forceI_inv hr
  clear hr
  obtain ⟨x13, e13, hr⟩ := hq
  refine wo_step (v := (.i .i64 x13)) (s_pure ((p_conv rfl).trans (ci e13))) ?_
  have hq := forceI_inv hr
  clear hr
  obtain ⟨x14, e14, hr⟩ := hq
  refine wo_step (v := (.i .i64 x14)) (s_pure (p_bin rfl rfl (b_add.trans (ci e14)))) ?_
  refine wo_step (v := (.i .i64 x14)) (s_pure (p_mv rfl)) ?_
  refine wo_nil ?_
  refine nx_norm ?_
  refine w_seq ?_
  refine w_ops ?_
  refine wo_step (v := (.i .i64 x14)) (s_pure (p_mv rfl)) ?_
  have hq := bindP_inv hr
  clear hr
  obtain ⟨v17, m_1, e17, hr⟩ := hq
  refine wo_step (v := v17) (s_call (mc rfl (mc rfl (mc rfl mn))) (callM_le hM.call e17)) ?_
  refine wo_step (v := v17) (s_pure (p_mv rfl)) ?_
  have hq := bindO_inv hr
  clear hr
  obtain ⟨v18, e18, hr⟩ := hq
  refine wo_step (v := v18) (s_pure (o_ext rfl e18)) ?_
  have hq := bindO_inv hr
  clear hr
  obtain ⟨v19, e19, hr⟩ := hq
  have hq := asI_inv hr
  clear hr
  obtain ⟨x19, rfl, hr⟩ := hq
  refine wo_step (v := (.i .i64 x19)) (s_pure (o_ext rfl e19)) ?_
  refine wo_step (v := v18) (s_pure (p_mv rfl)) ?_
  refine wo_step (v := (.i .i64 x19)) (s_pure (p_mv rfl)) ?_
  refine wo_nil ?_
  refine nx_norm ?_
  refine w_seq ?_
  refine w_seq ?_
  refine w_ops ?_
  refine wo_step (v := (.i .i64 x19)) (s_pure (p_mv rfl)) ?_
  have hq := forceB_inv hr
  clear hr
  obtain ⟨c21, e21, hr⟩ := hq
  refine wo_step (v := (.b c21)) (s_pure (p_bin rfl rfl (b_neq.trans (cb e21)))) ?_
  refine wo_step (v := (.b c21)) (s_pure (p_mv rfl)) ?_
  have hq := bindO_inv hr
  clear hr
  obtain ⟨o, hr, hk⟩ := hq
  refine wo_join 5 (g8_J0 x14 v18 o) ?_ ?_
  · clear hk
    have hq := cond_inv hr
    clear hr
    rcases hq with ⟨rfl, hr⟩ | ⟨rfl, hr⟩
    · refine wo_skip (v := (.b true)) rfl rfl ?_
      refine wo_skip (v := (.b true)) rfl rfl ?_
      refine wo_skip (v := (.b true)) rfl rfl ?_
      refine wo_skip (v := (.b true)) rfl rfl ?_
      refine wo_step (v := (.b true)) (s_pure (p_pickT rfl rfl)) ?_
      refine wo_nil ?_
      cases hr
      exact ⟨_, _, rfl, rfl, gl rfl, gl rfl, gl rfl⟩
    · refine wo_take (v := v18) rfl (s_pure (p_mv rfl)) ?_
      have hq := bindP_inv hr
      clear hr
      obtain ⟨v24, m_3, e24, hr⟩ := hq
      refine wo_take (v := v24) rfl (s_bsl (qc rfl (qc rfl (qc rfl (qc rfl (qc rfl (qc rfl qn)))))) e24) ?_
      have hq := bindP_inv hr
      clear hr
      obtain ⟨v25, m_4, e25, hr⟩ := hq
      have hq := asB_inv hr
      clear hr
      obtain ⟨c25, rfl, hr⟩ := hq
      refine wo_take (v := (.b c25)) rfl (s_call (mc rfl (mc rfl mn)) (callM_le hM.call e25)) ?_
      have hq := forceB_inv hr
      clear hr
      obtain ⟨c26, e26, hr⟩ := hq
      refine wo_take (v := (.b c26)) rfl (s_pure ((p_not rfl).trans (cb e26))) ?_
      refine wo_step (v := (.b c26)) (s_pure (p_pickF rfl rfl)) ?_
      refine wo_nil ?_
      cases hr
      exact ⟨_, _, rfl, rfl, gl rfl, gl rfl, gl rfl⟩
  · clear hr
    have hr := hk
    clear hk
    obtain ⟨c27, m_2⟩ := o
    rintro mm t_1 ⟨rfl, g27, g3, g4⟩
    refine wo_nil ?_
    refine nx_norm ?_
    have hq := cond_inv hr
    clear hr
    rcases hq with ⟨rfl, hr⟩ | ⟨rfl, hr⟩
    · refine w_condT g27 ?_
      refine w_seq ?_
      refine w_ops ?_
      refine wo_step (v := (.b false)) (s_pure (p_mv rfl)) ?_
      refine wo_nil ?_
      refine nx_norm ?_
      refine w_ret ?_
      refine nx_ret ?_
      exact qf ret_ok (rt rfl rn) hr
    · refine w_condF g27 ?_
      refine w_skip ?_
      refine nx_norm ?_
      refine w_seq ?_
      refine w_ops ?_
      refine wo_step (v := (.i .i64 x14)) (s_pure (p_mv g3)) ?_
      have hq := bindP_inv hr
      clear hr
      obtain ⟨v30, m_5, e30, hr⟩ := hq
      refine wo_step (v := v30) (s_call (mc rfl (mc rfl (mc rfl mn))) (callM_le hM.call e30)) ?_
      refine wo_step (v := v30) (s_pure (p_mv rfl)) ?_
      have hq := bindO_inv hr
      clear hr
      obtain ⟨v31, e31, hr⟩ := hq
      have hq := asI_inv hr
      clear hr
      obtain ⟨x31, rfl, hr⟩ := hq
      refine wo_step (v := (.i .i64 x31)) (s_pure (o_ext rfl e31)) ?_
      have hq := bindO_inv hr
      clear hr
      obtain ⟨v32, e32, hr⟩ := hq
      have hq := asI_inv hr
      clear hr
      obtain ⟨x32, rfl, hr⟩ := hq
      refine wo_step (v := (.i .i64 x32)) (s_pure (o_ext rfl e32)) ?_
      refine wo_step (v := (.i .i64 x31)) (s_pure (p_mv rfl)) ?_
      refine wo_step (v := (.i .i64 x32)) (s_pure (p_mv rfl)) ?_
      refine wo_nil ?_
      refine nx_norm ?_
      refine w_seq ?_
      refine w_ops ?_
      refine wo_step (v := (.i .i64 x14)) (s_pure (p_mv g3)) ?_
      have hq := bindP_inv hr
      clear hr
      obtain ⟨v35, m_6, e35, hr⟩ := hq
      refine wo_step (v := v35) (s_call (mc rfl (mc rfl (mc rfl mn))) (callM_le hM.call e35)) ?_
      refine wo_step (v := v35) (s_pure (p_mv rfl)) ?_
      have hq := bindO_inv hr
      clear hr
      obtain ⟨v36, e36, hr⟩ := hq
      refine wo_step (v := v36) (s_pure (o_ext rfl e36)) ?_
      have hq := bindO_inv hr
      clear hr
      obtain ⟨v37, e37, hr⟩ := hq
      have hq := asI_inv hr
      clear hr
      obtain ⟨x37, rfl, hr⟩ := hq
      refine wo_step (v := (.i .i64 x37)) (s_pure (o_ext rfl e37)) ?_
      have hq := bindO_inv hr
      clear hr
      obtain ⟨v38, e38, hr⟩ := hq
      have hq := asI_inv hr
      clear hr
      obtain ⟨x38, rfl, hr⟩ := hq
      refine wo_step (v := (.i .i64 x38)) (s_pure (o_ext rfl e38)) ?_
      refine wo_step (v := v36) (s_pure (p_mv rfl)) ?_
      refine wo_step (v := (.i .i64 x37)) (s_pure (p_mv rfl)) ?_
      refine wo_step (v := (.i .i64 x38)) (s_pure (p_mv rfl)) ?_
      refine wo_nil ?_
      refine nx_norm ?_
      refine w_seq ?_
      refine w_seq ?_
      refine w_ops ?_
      refine wo_step (v := (.i .i64 x14)) (s_pure (p_mv g3)) ?_
      have hq := forceB_inv hr
      clear hr
      obtain ⟨c40, e40, hr⟩ := hq
      refine wo_step (v := (.b c40)) (s_pure (p_bin rfl rfl (b_gtr.trans (cb e40)))) ?_
      refine wo_nil ?_
      refine nx_norm ?_
      have hq := cond_inv hr
      clear hr
      rcases hq with ⟨rfl, hr⟩ | ⟨rfl, hr⟩
      · refine w_condT rfl ?_
        refine w_seq ?_
        refine w_ops ?_
        refine wo_step (v := (.i .i64 x32)) (s_pure (p_mv rfl)) ?_
        have hq := forceB_inv hr
        clear hr
        obtain ⟨c42, e42, hr⟩ := hq
        refine wo_step (v := (.b c42)) (s_pure (p_bin rfl rfl (b_eql.trans (cb e42)))) ?_
        refine wo_step (v := (.b c42)) (s_pure (p_mv rfl)) ?_
        have hq := bindO_inv hr
        clear hr
        obtain ⟨o_1, hr, hk⟩ := hq
        refine wo_join 3 (g8_J1 v36 x37 x38 m_6 o_1) ?_ ?_
        · clear hk
          have hq := cond_inv hr
          clear hr
          rcases hq with ⟨rfl, hr⟩ | ⟨rfl, hr⟩
          · refine wo_take (v := (.i .i64 x31)) rfl (s_pure (p_mv rfl)) ?_
            have hq := forceB_inv hr
            clear hr
            obtain ⟨c45, e45, hr⟩ := hq
            refine wo_take (v := (.b c45)) rfl (s_pure (p_bin rfl rfl (b_eql.trans (cb e45)))) ?_
            refine wo_step (v := (.b c45)) (s_pure (p_pickT rfl rfl)) ?_
            refine wo_nil ?_
            cases hr
            exact ⟨_, _, rfl, rfl, gl rfl, gl rfl, gl rfl, gl rfl⟩
          · refine wo_skip (v := (.b false)) rfl rfl ?_
            refine wo_skip (v := (.b false)) rfl rfl ?_
            refine wo_step (v := (.b false)) (s_pure (p_pickF rfl rfl)) ?_
            refine wo_nil ?_
            cases hr
            exact ⟨_, _, rfl, rfl, gl rfl, gl rfl, gl rfl, gl rfl⟩
        · clear hr
          have hr := hk
          clear hk
          obtain ⟨c46, ho⟩ : ∃ z, z = o_1 := ⟨_, rfl⟩
          subst ho
          rintro mm_1 t_2 ⟨rfl, g46, g8, g9, g10⟩
          refine wo_step (v := (.b c46)) (s_pure (p_mv g46)) ?_
          have hq := bindO_inv hr
          clear hr
          obtain ⟨o_2, hr, hk⟩ := hq
          refine wo_join 3 (g8_J2 v36 x37 m_6 o_2) ?_ ?_
          · clear hk
            have hq := cond_inv hr
            clear hr
            rcases hq with ⟨rfl, hr⟩ | ⟨rfl, hr⟩
            · refine wo_take (v := (.i .i64 x38)) rfl (s_pure (p_mv g10)) ?_
              have hq := forceB_inv hr
              clear hr
              obtain ⟨c49, e49, hr⟩ := hq
              refine wo_take (v := (.b c49)) rfl (s_pure (p_bin rfl rfl (b_eql.trans (cb e49)))) ?_
              refine wo_step (v := (.b c49)) (s_pure (p_pickT rfl rfl)) ?_
              refine wo_nil ?_
              cases hr
              exact ⟨_, _, rfl, rfl, gl rfl, gl g8, gl g9⟩
            · refine wo_skip (v := (.b false)) rfl rfl ?_
              refine wo_skip (v := (.b false)) rfl rfl ?_
              refine wo_step (v := (.b false)) (s_pure (p_pickF rfl rfl)) ?_
              refine wo_nil ?_
              cases hr
              exact ⟨_, _, rfl, rfl, gl rfl, gl g8, gl g9⟩
          · clear hr
            have hr := hk
            clear hk
            obtain ⟨c50, ho⟩ : ∃ z, z = o_2 := ⟨_, rfl⟩
            subst ho
            rintro mm_2 t_3 ⟨rfl, g50, g8, g9⟩
            refine wo_step (v := (.b c50)) (s_pure (p_mv g50)) ?_
            have hq := bindO_inv hr
            clear hr
            obtain ⟨o_3, hr, hk⟩ := hq
            refine wo_join 4 (g8_J3 x37 m_6 o_3) ?_ ?_
            · clear hk
              have hq := cond_inv hr
              clear hr
              rcases hq with ⟨rfl, hr⟩ | ⟨rfl, hr⟩
              · refine wo_take (v := v36) rfl (s_pure (p_mv g8)) ?_
                have hq := bindO_inv hr
                clear hr
                obtain ⟨v53, e53, hr⟩ := hq
                have hq := asI_inv hr
                clear hr
                obtain ⟨x53, rfl, hr⟩ := hq
                refine wo_take (v := (.i .i64 x53)) rfl (s_pure (o_len rfl e53)) ?_
                have hq := forceB_inv hr
                clear hr
                obtain ⟨c54, e54, hr⟩ := hq
                refine wo_take (v := (.b c54)) rfl (s_pure (p_bin rfl rfl (b_eql.trans (cb e54)))) ?_
                refine wo_step (v := (.b c54)) (s_pure (p_pickT rfl rfl)) ?_
                refine wo_nil ?_
                cases hr
                exact ⟨_, _, rfl, rfl, gl rfl, gl g9⟩
              · refine wo_skip (v := (.b false)) rfl rfl ?_
                refine wo_skip (v := (.b false)) rfl rfl ?_
                refine wo_skip (v := (.b false)) rfl rfl ?_
                refine wo_step (v := (.b false)) (s_pure (p_pickF rfl rfl)) ?_
                refine wo_nil ?_
                cases hr
                exact ⟨_, _, rfl, rfl, gl rfl, gl g9⟩
            · clear hr
              have hr := hk
              clear hk
              obtain ⟨c55, ho⟩ : ∃ z, z = o_3 := ⟨_, rfl⟩
              subst ho
              rintro mm_3 t_4 ⟨rfl, g55, g9⟩
              refine wo_step (v := (.b c55)) (s_pure (p_mv g55)) ?_
              have hq := bindO_inv hr
              clear hr
              obtain ⟨o_4, hr, hk⟩ := hq
              refine wo_join 3 (g8_J4 m_6 o_4) ?_ ?_
              · clear hk
                have hq := cond_inv hr
                clear hr
                rcases hq with ⟨rfl, hr⟩ | ⟨rfl, hr⟩
                · refine wo_take (v := (.i .i64 x37)) rfl (s_pure (p_mv g9)) ?_
                  have hq := forceB_inv hr
                  clear hr
                  obtain ⟨c58, e58, hr⟩ := hq
                  refine wo_take (v := (.b c58)) rfl (s_pure (p_bin rfl rfl (b_eql.trans (cb e58)))) ?_
                  refine wo_step (v := (.b c58)) (s_pure (p_pickT rfl rfl)) ?_
                  refine wo_nil ?_
                  cases hr
                  exact ⟨_, _, rfl, rfl, gl rfl⟩
                · refine wo_skip (v := (.b false)) rfl rfl ?_
                  refine wo_skip (v := (.b false)) rfl rfl ?_
                  refine wo_step (v := (.b false)) (s_pure (p_pickF rfl rfl)) ?_
                  refine wo_nil ?_
                  cases hr
                  exact ⟨_, _, rfl, rfl, gl rfl⟩
              · clear hr
                have hr := hk
                clear hk
                obtain ⟨c59, ho⟩ : ∃ z, z = o_4 := ⟨_, rfl⟩
                subst ho
                rintro mm_4 t_5 ⟨rfl, g59⟩
                refine wo_step (v := (.b c59)) (s_pure (p_mv g59)) ?_
                have hq := bindO_inv hr
                clear hr
                obtain ⟨o_5, hr, hk⟩ := hq
                refine wo_join 2 (g8_J5  o_5) ?_ ?_
                · clear hk
                  have hq := cond_inv hr
                  clear hr
                  rcases hq with ⟨rfl, hr⟩ | ⟨rfl, hr⟩
                  · have hq := bindP_inv hr
                    clear hr
                    obtain ⟨v61, m_8, e61, hr⟩ := hq
                    have hq := asB_inv hr
                    clear hr
                    obtain ⟨c61, rfl, hr⟩ := hq
                    refine wo_take (v := (.b c61)) rfl (s_call mn (callM_le hM.call e61)) ?_
                    refine wo_step (v := (.b c61)) (s_pure (p_pickT rfl rfl)) ?_
                    refine wo_nil ?_
                    cases hr
                    exact ⟨_, _, rfl, rfl, gl rfl⟩
                  · refine wo_skip (v := (.b false)) rfl rfl ?_
                    refine wo_step (v := (.b false)) (s_pure (p_pickF rfl rfl)) ?_
                    refine wo_nil ?_
                    cases hr
                    exact ⟨_, _, rfl, rfl, gl rfl⟩
                · clear hr
                  have hr := hk
                  clear hk
                  obtain ⟨c62, m_7⟩ := o_5
                  rintro mm_5 t_6 ⟨rfl, g62⟩
                  refine wo_step (v := (.b c62)) (s_pure (p_mv g62)) ?_
                  refine wo_nil ?_
                  refine nx_norm ?_
                  refine w_ret ?_
                  refine nx_ret ?_
                  exact qf ret_ok (rt rfl rn) hr
      · refine w_condF rfl ?_
        refine w_skip ?_
        refine nx_norm ?_
        refine w_seq ?_
        refine w_ops ?_
        refine wo_step (v := (.i .i64 x32)) (s_pure (p_mv rfl)) ?_
        have hq := forceB_inv hr
        clear hr
        obtain ⟨c64, e64, hr⟩ := hq
        refine wo_step (v := (.b c64)) (s_pure (p_bin rfl rfl (b_eql.trans (cb e64)))) ?_
        refine wo_step (v := (.b c64)) (s_pure (p_mv rfl)) ?_
        have hq := bindO_inv hr
        clear hr
        obtain ⟨o_6, hr, hk⟩ := hq
        refine wo_join 12 (g8_J6 v18 v36 x37 x38 m_6 o_6) ?_ ?_
        · clear hk
          have hq := cond_inv hr
          clear hr
          rcases hq with ⟨rfl, hr⟩ | ⟨rfl, hr⟩
          · refine wo_take (v := (.i .i64 x31)) rfl (s_pure (p_mv rfl)) ?_
            refine wo_take (v := (.i .i64 x14)) rfl (s_pure (p_mv g3)) ?_
            refine wo_take (v := (.i .i64 x14)) rfl (s_pure (p_mv g3)) ?_
            have hq := forceI_inv hr
            clear hr
            obtain ⟨x69, e69, hr⟩ := hq
            refine wo_take (v := (.i .i64 x69)) rfl (s_pure (p_bin rfl rfl (b_mul.trans (ci e69)))) ?_
            refine wo_take (v := (.i .i64 x14)) rfl (s_pure (p_mv g3)) ?_
            have hq := forceI_inv hr
            clear hr
            obtain ⟨x71, e71, hr⟩ := hq
            refine wo_take (v := (.i .i64 x71)) rfl (s_pure (p_bin rfl rfl (b_mul.trans (ci e71)))) ?_
            refine wo_take (v := (.i .i64 x14)) rfl (s_pure (p_mv g3)) ?_
            have hq := forceI_inv hr
            clear hr
            obtain ⟨x73, e73, hr⟩ := hq
            refine wo_take (v := (.i .i64 x73)) rfl (s_pure (p_bin rfl rfl (b_mul.trans (ci e73)))) ?_
            refine wo_take (v := (.i .i64 x14)) rfl (s_pure (p_mv g3)) ?_
            have hq := forceI_inv hr
            clear hr
            obtain ⟨x75, e75, hr⟩ := hq
            refine wo_take (v := (.i .i64 x75)) rfl (s_pure (p_bin rfl rfl (b_mul.trans (ci e75)))) ?_
            have hq := forceB_inv hr
            clear hr
            obtain ⟨c76, e76, hr⟩ := hq
            refine wo_take (v := (.b c76)) rfl (s_pure (p_bin rfl rfl (b_eql.trans (cb e76)))) ?_
            refine wo_step (v := (.b c76)) (s_pure (p_pickT rfl rfl)) ?_
            refine wo_nil ?_
            cases hr
            exact ⟨_, _, rfl, rfl, gl rfl, gl g4, gl rfl, gl rfl, gl rfl⟩
          · refine wo_skip (v := (.b false)) rfl rfl ?_
            refine wo_skip (v := (.b false)) rfl rfl ?_
            refine wo_skip (v := (.b false)) rfl rfl ?_
            refine wo_skip (v := (.b false)) rfl rfl ?_
            refine wo_skip (v := (.b false)) rfl rfl ?_
            refine wo_skip (v := (.b false)) rfl rfl ?_
            refine wo_skip (v := (.b false)) rfl rfl ?_
            refine wo_skip (v := (.b false)) rfl rfl ?_
            refine wo_skip (v := (.b false)) rfl rfl ?_
            refine wo_skip (v := (.b false)) rfl rfl ?_
            refine wo_skip (v := (.b false)) rfl rfl ?_
            refine wo_step (v := (.b false)) (s_pure (p_pickF rfl rfl)) ?_
            refine wo_nil ?_
            cases hr
            exact ⟨_, _, rfl, rfl, gl rfl, gl g4, gl rfl, gl rfl, gl rfl⟩
        · clear hr
          have hr := hk
          clear hk
          obtain ⟨c77, ho⟩ : ∃ z, z = o_6 := ⟨_, rfl⟩
          subst ho
          rintro mm_6 t_7 ⟨rfl, g77, g4, g8, g9, g10⟩
          refine wo_step (v := (.b c77)) (s_pure (p_mv g77)) ?_
          have hq := bindO_inv hr
          clear hr
          obtain ⟨o_7, hr, hk⟩ := hq
          refine wo_join 3 (g8_J7 v18 v36 x37 m_6 o_7) ?_ ?_
          · clear hk
            have hq := cond_inv hr
            clear hr
            rcases hq with ⟨rfl, hr⟩ | ⟨rfl, hr⟩
            · refine wo_take (v := (.i .i64 x38)) rfl (s_pure (p_mv g10)) ?_
              have hq := forceB_inv hr
              clear hr
              obtain ⟨c80, e80, hr⟩ := hq
              refine wo_take (v := (.b c80)) rfl (s_pure (p_bin rfl rfl (b_eql.trans (cb e80)))) ?_
              refine wo_step (v := (.b c80)) (s_pure (p_pickT rfl rfl)) ?_
              refine wo_nil ?_
              cases hr
              exact ⟨_, _, rfl, rfl, gl rfl, gl g4, gl g8, gl g9⟩
            · refine wo_skip (v := (.b false)) rfl rfl ?_
              refine wo_skip (v := (.b false)) rfl rfl ?_
              refine wo_step (v := (.b false)) (s_pure (p_pickF rfl rfl)) ?_
              refine wo_nil ?_
              cases hr
              exact ⟨_, _, rfl, rfl, gl rfl, gl g4, gl g8, gl g9⟩
          · clear hr
            have hr := hk
            clear hk
            obtain ⟨c81, ho⟩ : ∃ z, z = o_7 := ⟨_, rfl⟩
            subst ho
            rintro mm_7 t_8 ⟨rfl, g81, g4, g8, g9⟩
            refine wo_step (v := (.b c81)) (s_pure (p_mv g81)) ?_
            have hq := bindO_inv hr
            clear hr
            obtain ⟨o_8, hr, hk⟩ := hq
            refine wo_join 4 (g8_J8 x37 o_8) ?_ ?_
            · clear hk
              have hq := cond_inv hr
              clear hr
              rcases hq with ⟨rfl, hr⟩ | ⟨rfl, hr⟩
              · refine wo_take (v := v36) rfl (s_pure (p_mv g8)) ?_
                refine wo_take (v := v18) rfl (s_pure (p_mv g4)) ?_
                have hq := bindP_inv hr
                clear hr
                obtain ⟨v85, m_10, e85, hr⟩ := hq
                have hq := asB_inv hr
                clear hr
                obtain ⟨c85, rfl, hr⟩ := hq
                refine wo_take (v := (.b c85)) rfl (s_call (mc rfl (mc rfl mn)) (callM_le hM.call e85)) ?_
                refine wo_step (v := (.b c85)) (s_pure (p_pickT rfl rfl)) ?_
                refine wo_nil ?_
                cases hr
                exact ⟨_, _, rfl, rfl, gl rfl, gl g9⟩
              · refine wo_skip (v := (.b false)) rfl rfl ?_
                refine wo_skip (v := (.b false)) rfl rfl ?_
                refine wo_skip (v := (.b false)) rfl rfl ?_
                refine wo_step (v := (.b false)) (s_pure (p_pickF rfl rfl)) ?_
                refine wo_nil ?_
                cases hr
                exact ⟨_, _, rfl, rfl, gl rfl, gl g9⟩
            · clear hr
              have hr := hk
              clear hk
              obtain ⟨c86, m_9⟩ := o_8
              rintro mm_8 t_9 ⟨rfl, g86, g9⟩
              refine wo_step (v := (.b c86)) (s_pure (p_mv g86)) ?_
              have hq := bindO_inv hr
              clear hr
              obtain ⟨o_9, hr, hk⟩ := hq
              refine wo_join 3 (g8_J9 m_9 o_9) ?_ ?_
              · clear hk
                have hq := cond_inv hr
                clear hr
                rcases hq with ⟨rfl, hr⟩ | ⟨rfl, hr⟩
                · refine wo_take (v := (.i .i64 x37)) rfl (s_pure (p_mv g9)) ?_
                  have hq := forceB_inv hr
                  clear hr
                  obtain ⟨c89, e89, hr⟩ := hq
                  refine wo_take (v := (.b c89)) rfl (s_pure (p_bin rfl rfl (b_eql.trans (cb e89)))) ?_
                  refine wo_step (v := (.b c89)) (s_pure (p_pickT rfl rfl)) ?_
                  refine wo_nil ?_
                  cases hr
                  exact ⟨_, _, rfl, rfl, gl rfl⟩
                · refine wo_skip (v := (.b false)) rfl rfl ?_
                  refine wo_skip (v := (.b false)) rfl rfl ?_
                  refine wo_step (v := (.b false)) (s_pure (p_pickF rfl rfl)) ?_
                  refine wo_nil ?_
                  cases hr
                  exact ⟨_, _, rfl, rfl, gl rfl⟩
              · clear hr
                have hr := hk
                clear hk
                obtain ⟨c90, ho⟩ : ∃ z, z = o_9 := ⟨_, rfl⟩
                subst ho
                rintro mm_9 t_10 ⟨rfl, g90⟩
                refine wo_step (v := (.b c90)) (s_pure (p_mv g90)) ?_
                have hq := bindO_inv hr
                clear hr
                obtain ⟨o_10, hr, hk⟩ := hq
                refine wo_join 2 (g8_J10  o_10) ?_ ?_
                · clear hk
                  have hq := cond_inv hr
                  clear hr
                  rcases hq with ⟨rfl, hr⟩ | ⟨rfl, hr⟩
                  · have hq := bindP_inv hr
                    clear hr
                    obtain ⟨v92, m_12, e92, hr⟩ := hq
                    have hq := asB_inv hr
                    clear hr
                    obtain ⟨c92, rfl, hr⟩ := hq
                    refine wo_take (v := (.b c92)) rfl (s_call mn (callM_le hM.call e92)) ?_
                    refine wo_step (v := (.b c92)) (s_pure (p_pickT rfl rfl)) ?_
                    refine wo_nil ?_
                    cases hr
                    exact ⟨_, _, rfl, rfl, gl rfl⟩
                  · refine wo_skip (v := (.b false)) rfl rfl ?_
                    refine wo_step (v := (.b false)) (s_pure (p_pickF rfl rfl)) ?_
                    refine wo_nil ?_
                    cases hr
                    exact ⟨_, _, rfl, rfl, gl rfl⟩
                · clear hr
                  have hr := hk
                  clear hk
                  obtain ⟨c93, m_11⟩ := o_10
                  rintro mm_10 t_11 ⟨rfl, g93⟩
                  refine wo_step (v := (.b c93)) (s_pure (p_mv g93)) ?_
                  refine wo_nil ?_
                  refine nx_norm ?_
                  refine w_ret ?_
                  exact qf ret_ok (rt rfl rn) hr

/- dibber/turn.Plan -/
abbrev k17a0 : ACode := (.ops [(.mk (some 10) none (.pure (.mv (.t 23))))])
abbrev k17c0 : ACode := (.block 1 (.seq (.ops [(.mk (some 24) none (.pure (.mv (.t 10)))), (.mk none none (.st 1 (.t 6) (.t 24))), (.mk none none (.st 1 (.t 7) (.c (.i .i64 0))))]) .ret))
abbrev g17_P0 (v6 : AVal) (v7 : AVal) (t1 : Tr) : Prop := True ∧ t1.get 6 = v6 ∧ t1.get 7 = v7
def g17_r0 (M : Means) (ro : List ABlk) (v6 : AVal) (v7 : AVal) (b : Nat) (v23 : AVal) (m0 : Mm) : Option (AVal × Heap × Nat × Nat) :=
  bindO (rndB b m0) fun m_9 =>
  bindP (stepM ro m_9 (.st 1 (.c v6) (.c v23))) fun vn_3 m_10 =>
  bindP (stepM ro m_10 (.st 1 (.c v7) (.c (.i .i64 0)))) fun vn_4 m_11 =>
  rndE m0.h.length b .ret m_11
noncomputable def g17 (M : Means) (ro : List ABlk) (x0 : Int) (x1 : Int) (v2 : AVal) (m0 : Mm) : Option (AVal × Heap × Nat × Nat) :=
  bindP (stepM ro m0 (.al 25 [AVal.nsl])) fun v6 m_1 =>
  bindP (stepM ro m_1 (.al 26 [(AVal.i IntKind.i64 0)])) fun v7 m_2 =>
  bindP (callM M.call m_2 43 [(.i .i64 x0), (.i .i64 x1), v2]) fun v15 m_3 =>
  bindO (evP .e (.ext 0 (.c v15))) fun v16 =>
  bindO (evP .e (.ext 1 (.c v15))) fun v17 =>
  asI .i64 v17 fun x17 =>
  bindP (stepM ro m_3 (.al 55 [(AVal.i IntKind.i64 0), (AVal.i IntKind.i64 0), AVal.nsl])) fun v8 m_4 =>
  bindP (stepM ro m_4 (.st 3 (.c v8) (.c v16))) fun vn m_5 =>
  forceB (!eqI x17 0) fun c19 =>
  cond c19 (
    bindP (stepM ro m_5 (.st 1 (.c v6) (.c AVal.nsl))) fun vn_1 m_6 =>
    bindP (stepM ro m_6 (.st 1 (.c v7) (.c (.i .i64 x17)))) fun vn_2 m_7 =>
    bindO (ldM ro m_7 true 1 v6) fun vr =>
    bindO (ldM ro m_7 true 1 v7) fun vr_1 =>
    finM m0.h.length (tupA [vr, vr_1]) m_7) (
    bindO (ldM ro m_5 false 3 v8) fun v21 =>
    bindP (callM M.call m_5 44 [v21]) fun v22 m_8 =>
    bindO (rngP M.call (g17_P0 v6 v7) [23] k17a0 k17c0 v22 m_8) fun ⟨ex, m_12⟩ => onE ex (
      bindP (stepM ro m_12 (.st 1 (.c v6) (.c AVal.nsl))) fun vn_5 m_13 =>
      bindP (stepM ro m_13 (.st 1 (.c v7) (.c (.i .i64 10)))) fun vn_6 m_14 =>
      bindO (ldM ro m_14 true 1 v6) fun vr_2 =>
      bindO (ldM ro m_14 true 1 v7) fun vr_3 =>
      finM m0.h.length (tupA [vr_2, vr_3]) m_14) (
      bindO (ldM ro m_12 true 1 v6) fun vr_4 =>
      bindO (ldM ro m_12 true 1 v7) fun vr_5 =>
      finM m0.h.length (tupA [vr_4, vr_5]) m_12) (fun ix =>
      none))

theorem g17_r0_ok {ro : List ABlk} {O : Caller} {M : Means} (hM : M.Ok ⟨F, O⟩ ro) {v6} {v7} {v23} {b h r bk t p} (hb : lget h b = some (some bk)) (hg : bk.g = some (.lp ⟨t, [23], k17a0, k17c0⟩ .ready p)) (hP : g17_P0 v6 v7 t) (hr : g17_r0 M ro v6 v7 b v23 ⟨h, h.length, h.length⟩ = some r) : roundX ⟨F, O⟩ ro b [v23] h = some r := by
  refine roundX_on (F := ⟨F, O⟩) (g := g17_r0 M ro v6 v7 b v23) hb hg rfl hr ?_
  clear hb hg hr
  intro m0 t0 ht hr
  obtain ⟨-, g6, g7⟩ := hP
  have g23 : t0.get 23 = v23 := by rw [ht]; simp [putPs, get_set]
  have g6 : t0.get 6 = v6 := by rw [ht]; simp only [putPs, get_set]; simpa using g6
  have g7 : t0.get 7 = v7 := by rw [ht]; simp only [putPs, get_set]; simpa using g7
  clear ht
  unfold g17_r0 at hr
  show W _ _ k17a0 _ _
  unfold k17a0
  refine w_ops ?_
  refine wo_step (v := v23) (s_pure (p_mv g23)) ?_
  refine wo_nil ?_
  have hq := bindO_inv hr
  clear hr
  obtain ⟨m_9, eb, hr⟩ := hq
  refine qb eb ?_
  unfold k17c0
  refine w_block ?_
  refine w_seq ?_
  refine w_ops ?_
  refine wo_step (v := v23) (s_pure (p_mv rfl)) ?_
  have hq := bindP_inv hr
  clear hr
  obtain ⟨vn_3, m_10, en_3, hr⟩ := hq
  refine wo_stepN (s_st g6 rfl en_3) ?_
  have hq := bindP_inv hr
  clear hr
  obtain ⟨vn_4, m_11, en_4, hr⟩ := hq
  refine wo_stepN (s_st g7 rfl en_4) ?_
  refine wo_nil ?_
  refine nx_norm ?_
  refine w_ret ?_
  refine bk_ret ?_
  exact hr

theorem g17_ok {ro : List ABlk} {O : Caller} {M : Means} (hM : M.Ok ⟨F, O⟩ ro) {x0 x1 v2 h r} (ho : O 17 [(.i .i64 x0), (.i .i64 x1), v2] h = none) (hr : g17 M ro x0 x1 v2 ⟨h, h.length, h.length⟩ = some r) : callX ⟨F, O⟩ ro 17 [(.i .i64 x0), (.i .i64 x1), v2] h = some r := by
  refine callX_of (F := ⟨F, O⟩) (fn := fn17) (g := g17 M ro x0 x1 v2) ho rfl rfl hr ?_
  clear ho
  clear hr
  intro m0 t0 ht hr
  have g0 : t0.get 0 = (.i .i64 x0) := ht 0
  have g1 : t0.get 1 = (.i .i64 x1) := ht 1
  have g2 : t0.get 2 = v2 := ht 2
  clear ht
  unfold g17 at hr
  refine w_seq ?_
  refine w_ops ?_
  have hq := bindP_inv hr
  clear hr
  obtain ⟨v6, m_1, e6, hr⟩ := hq
  refine wo_step (v := v6) (s_al e6) ?_
  have hq := bindP_inv hr
  clear hr
  obtain ⟨v7, m_2, e7, hr⟩ := hq
  refine wo_step (v := v7) (s_al e7) ?_
  refine wo_nil ?_
  refine nx_norm ?_
  refine w_seq ?_
  refine w_ops ?_
  refine wo_step (v := (.i .i64 x0)) (s_pure (p_mv g0)) ?_
  refine wo_step (v := (.i .i64 x1)) (s_pure (p_mv g1)) ?_
  refine wo_step (v := v2) (s_pure (p_mv g2)) ?_
  have hq := bindP_inv hr
  clear hr
  obtain ⟨v15, m_3, e15, hr⟩ := hq
  refine wo_step (v := v15) (s_call (mc rfl (mc rfl (mc rfl mn))) (callM_le hM.call e15)) ?_
  refine wo_step (v := v15) (s_pure (p_mv rfl)) ?_
  have hq := bindO_inv hr
  clear hr
  obtain ⟨v16, e16, hr⟩ := hq
  refine wo_step (v := v16) (s_pure (o_ext rfl e16)) ?_
  have hq := bindO_inv hr
  clear hr
  obtain ⟨v17, e17, hr⟩ := hq
  have hq := asI_inv hr
  clear hr
  obtain ⟨x17, rfl, hr⟩ := hq
  refine wo_step (v := (.i .i64 x17)) (s_pure (o_ext rfl e17)) ?_
  have hq := bindP_inv hr
  clear hr
  obtain ⟨v8, m_4, e8, hr⟩ := hq
  refine wo_step (v := v8) (s_al e8) ?_
  have hq := bindP_inv hr
  clear hr
  obtain ⟨vn, m_5, en, hr⟩ := hq
  refine wo_stepN (s_st rfl rfl en) ?_
  refine wo_step (v := (.i .i64 x17)) (s_pure (p_mv rfl)) ?_
  refine wo_nil ?_
  refine nx_norm ?_
  refine w_seq ?_
  refine w_seq ?_
  refine w_ops ?_
  refine wo_step (v := (.i .i64 x17)) (s_pure (p_mv rfl)) ?_
  have hq := forceB_inv hr
  clear hr
  obtain ⟨c19, e19, hr⟩ := hq
  refine wo_step (v := (.b c19)) (s_pure (p_bin rfl rfl (b_neq.trans (cb e19)))) ?_
  refine wo_nil ?_
  refine nx_norm ?_
  have hq := cond_inv hr
  clear hr
  rcases hq with ⟨rfl, hr⟩ | ⟨rfl, hr⟩
  · refine w_condT rfl ?_
    refine w_seq ?_
    refine w_ops ?_
    refine wo_step (v := (.i .i64 x17)) (s_pure (p_mv rfl)) ?_
    have hq := bindP_inv hr
    clear hr
    obtain ⟨vn_1, m_6, en_1, hr⟩ := hq
    refine wo_stepN (s_st rfl rfl en_1) ?_
    have hq := bindP_inv hr
    clear hr
    obtain ⟨vn_2, m_7, en_2, hr⟩ := hq
    refine wo_stepN (s_st rfl rfl en_2) ?_
    refine wo_nil ?_
    refine nx_norm ?_
    refine w_ret ?_
    refine nx_ret ?_
    have hq := bindO_inv hr
    clear hr
    obtain ⟨vr, er, hr⟩ := hq
    have hq := bindO_inv hr
    clear hr
    obtain ⟨vr_1, er_1, hr⟩ := hq
    exact qf ret_ok (rc rfl er (rc rfl er_1 rn)) hr
  · refine w_condF rfl ?_
    refine w_skip ?_
    refine nx_norm ?_
    refine w_seq ?_
    refine w_seq ?_
    refine w_ops ?_
    have hq := bindO_inv hr
    clear hr
    obtain ⟨v21, e21, hr⟩ := hq
    refine wo_step (v := v21) (s_ld rfl e21) ?_
    have hq := bindP_inv hr
    clear hr
    obtain ⟨v22, m_8, e22, hr⟩ := hq
    refine wo_step (v := v22) (s_call (mc rfl mn) (callM_le hM.call e22)) ?_
    refine wo_nil ?_
    refine nx_norm ?_
    refine w_block ?_
    have hq := bindO_inv hr
    clear hr
    obtain ⟨⟨ex, m_12⟩, er_2, hr⟩ := hq
    refine w_rng hM.call rfl er_2 ⟨trivial, gl rfl, gl rfl⟩ ?_
    have hq := onE_inv hr
    clear hr
    rcases hq with ⟨rfl, hr⟩ | ⟨rfl, hr⟩ | ⟨ix, rfl, hr⟩
    · refine bk_norm ?_
      refine nx_norm ?_
      refine w_seq ?_
      refine w_ops ?_
      have hq := bindP_inv hr
      clear hr
      obtain ⟨vn_5, m_13, en_5, hr⟩ := hq
      refine wo_stepN (s_st rfl rfl en_5) ?_
      have hq := bindP_inv hr
      clear hr
      obtain ⟨vn_6, m_14, en_6, hr⟩ := hq
      refine wo_stepN (s_st rfl rfl en_6) ?_
      refine wo_nil ?_
      refine nx_norm ?_
      refine w_ret ?_
      have hq := bindO_inv hr
      clear hr
      obtain ⟨vr_2, er_3, hr⟩ := hq
      have hq := bindO_inv hr
      clear hr
      obtain ⟨vr_3, er_4, hr⟩ := hq
      exact qf ret_ok (rc rfl er_3 (rc rfl er_4 rn)) hr
    · refine bk_ret ?_
      refine nx_ret ?_
      have hq := bindO_inv hr
      clear hr
      obtain ⟨vr_4, er_5, hr⟩ := hq
      have hq := bindO_inv hr
      clear hr
      obtain ⟨vr_5, er_6, hr⟩ := hq
      exact qf ret_ok (rc rfl er_5 (rc rfl er_6 rn)) hr
    · cases hr

/- dibber/dibberlaw04.same -/
abbrev g19_I0 (v0 : AVal) (v1 : AVal) (m0 : Mm) (s : Int) (m1 : Mm) (t1 : Tr) : Prop :=
  match s with
  | x5 => m0 = m1 ∧ t1.get 5 = (.i .i64 x5) ∧ t1.get 0 = v0 ∧ t1.get 1 = v1
abbrev g19_J0 (v0 : AVal) (v1 : AVal) (m0 : Mm) (o : (Unit ⊕ Bool)) (e : AExit) (m1 : Mm) (t1 : Tr) : Prop :=
  match o with
  | (.inl _) => e = (.exit 0) ∧ m0 = m1
  | (.inr y4) => e = .ret ∧ m0 = m1 ∧ t1.get 4 = (.b y4)
def g19_b0 (M : Means) (ro : List ABlk) (v0 : AVal) (v1 : AVal) (m0 : Mm) (x5 : Int) : Option ((Int) ⊕ ((Unit ⊕ Bool))) :=
  bindO (evP .e (.len false (.c v0))) fun v13 =>
  asI .i64 v13 fun x13 =>
  forceB (ltI x5 x13) fun c14 =>
  cond c14 (
    bindO (evP .e (.ixS 1 (.c v0) (.c (.i .i64 x5)))) fun v19 =>
    bindO (ldA ro m0.h true 1 v19) fun v20 =>
    asI .i64 v20 fun x20 =>
    bindO (evP .e (.ixS 1 (.c v1) (.c (.i .i64 x5)))) fun v23 =>
    bindO (ldA ro m0.h true 1 v23) fun v24 =>
    asI .i64 v24 fun x24 =>
    forceB (!eqI x20 x24) fun c25 =>
    cond c25 (
      some (.inr (.inr false))) (
      forceI (wr .i64 (x5 + 1)) fun x16 =>
      some (.inl x16))) (
    some (.inr (.inl ())))
def g19 (M : Means) (ro : List ABlk) (v0 : AVal) (v1 : AVal) (m0 : Mm) : Option (AVal × Heap × Nat × Nat) :=
  bindO (evP .e (.len false (.c v0))) fun v7 =>
  asI .i64 v7 fun x7 =>
  bindO (evP .e (.len false (.c v1))) fun v9 =>
  asI .i64 v9 fun x9 =>
  forceB (!eqI x7 x9) fun c10 =>
  cond c10 (
    finM m0.h.length (tupA [(.b false)]) m0) (
    bindO (M.loop (S := Int) (R := (Unit ⊕ Bool)) (fun s => g19_b0 M ro v0 v1 m0 s) 0) fun o => match o with
    | (.inl _) =>
      finM m0.h.length (tupA [(.b true)]) m0
    | (.inr c4) =>
      finM m0.h.length (tupA [(.b c4)]) m0)

theorem g19_ok {ro : List ABlk} {O : Caller} {M : Means} (hM : M.Ok ⟨F, O⟩ ro) {v0 v1 h r} (ho : O 19 [v0, v1] h = none) (hr : g19 M ro v0 v1 ⟨h, h.length, h.length⟩ = some r) : callX ⟨F, O⟩ ro 19 [v0, v1] h = some r := by
  refine callX_of (F := ⟨F, O⟩) (fn := fn19) (g := g19 M ro v0 v1) ho rfl rfl hr ?_
  clear ho
  clear hr
  intro m0 t0 ht hr
  have g0 : t0.get 0 = v0 := ht 0
  have g1 : t0.get 1 = v1 := ht 1
  clear ht
  unfold g19 at hr
  refine w_seq ?_
  refine w_ops ?_
  refine wo_step (v := (.b false)) (s_pure (p_mv rfl)) ?_
  refine wo_nil ?_
  refine nx_norm ?_
  refine w_seq ?_
  refine w_seq ?_
  refine w_ops ?_
  refine wo_step (v := v0) (s_pure (p_mv g0)) ?_
  have hq := bindO_inv hr
  clear hr
  obtain ⟨v7, e7, hr⟩ := hq
  have hq := asI_inv hr
  clear hr
  obtain ⟨x7, rfl, hr⟩ := hq
  refine wo_step (v := (.i .i64 x7)) (s_pure (o_len rfl e7)) ?_
  refine wo_step (v := v1) (s_pure (p_mv g1)) ?_
  have hq := bindO_inv hr
  clear hr
  obtain ⟨v9, e9, hr⟩ := hq
  have hq := asI_inv hr
  clear hr
  obtain ⟨x9, rfl, hr⟩ := hq
  refine wo_step (v := (.i .i64 x9)) (s_pure (o_len rfl e9)) ?_
  have hq := forceB_inv hr
  clear hr
  obtain ⟨c10, e10, hr⟩ := hq
  refine wo_step (v := (.b c10)) (s_pure (p_bin rfl rfl (b_neq.trans (cb e10)))) ?_
  refine wo_nil ?_
  refine nx_norm ?_
  have hq := cond_inv hr
  clear hr
  rcases hq with ⟨rfl, hr⟩ | ⟨rfl, hr⟩
  · refine w_condT rfl ?_
    refine w_seq ?_
    refine w_ops ?_
    refine wo_step (v := (.b false)) (s_pure (p_mv rfl)) ?_
    refine wo_nil ?_
    refine nx_norm ?_
    refine w_ret ?_
    refine nx_ret ?_
    exact qf ret_ok (rt rfl rn) hr
  · refine w_condF rfl ?_
    refine w_skip ?_
    refine nx_norm ?_
    refine w_seq ?_
    refine w_seq ?_
    refine w_ops ?_
    refine wo_step (v := (.i .i64 0)) (s_pure (p_mv rfl)) ?_
    refine wo_nil ?_
    refine nx_norm ?_
    refine w_block ?_
    have hq := bindO_inv hr
    clear hr
    obtain ⟨o, hl, hr⟩ := hq
    obtain ⟨n, hl⟩ := hM.loop _ _ _ hl
    refine jp_mono (w_loop _ (g19_I0 v0 v1 m0) (g19_J0 v0 v1 m0) ?_ n _ _ _ _ hl ⟨rfl, gl rfl, gl g0, gl g1⟩) ?_
    · clear hr hl
      intro s mm_2 t_1 o hi hr
      obtain ⟨x5, hs⟩ : ∃ z, z = s := ⟨_, rfl⟩
      subst hs
      obtain ⟨rfl, g5, g0, g1⟩ := hi
      unfold g19_b0 at hr
      refine w_seq ?_
      refine w_seq ?_
      refine w_ops ?_
      refine wo_step (v := (.i .i64 x5)) (s_pure (p_mv g5)) ?_
      refine wo_step (v := v0) (s_pure (p_mv g0)) ?_
      have hq := bindO_inv hr
      clear hr
      obtain ⟨v13, e13, hr⟩ := hq
      have hq := asI_inv hr
      clear hr
      obtain ⟨x13, rfl, hr⟩ := hq
      refine wo_step (v := (.i .i64 x13)) (s_pure (o_len rfl e13)) ?_
      have hq := forceB_inv hr
      clear hr
      obtain ⟨c14, e14, hr⟩ := hq
      refine wo_step (v := (.b c14)) (s_pure (p_bin rfl rfl (b_lss.trans (cb e14)))) ?_
      refine wo_nil ?_
      refine nx_norm ?_
      have hq := cond_inv hr
      clear hr
      rcases hq with ⟨rfl, hr⟩ | ⟨rfl, hr⟩
      · refine w_condT rfl ?_
        refine w_skip ?_
        refine nx_norm ?_
        refine w_seq ?_
        refine w_block ?_
        refine w_seq ?_
        refine w_any ?_
        refine wa_step (v := v0) (a_pure (p_mv g0)) ?_
        refine wa_step (v := (.i .i64 x5)) (a_pure (p_mv g5)) ?_
        have hq := bindO_inv hr
        clear hr
        obtain ⟨v19, e19, hr⟩ := hq
        refine wa_step (v := v19) (a_pure (o_ixS rfl rfl e19)) ?_
        have hq := bindO_inv hr
        clear hr
        obtain ⟨v20, e20, hr⟩ := hq
        have hq := asI_inv hr
        clear hr
        obtain ⟨x20, rfl, hr⟩ := hq
        refine wa_step (v := (.i .i64 x20)) (a_ld rfl e20) ?_
        refine wa_step (v := v1) (a_pure (p_mv g1)) ?_
        refine wa_step (v := (.i .i64 x5)) (a_pure (p_mv g5)) ?_
        have hq := bindO_inv hr
        clear hr
        obtain ⟨v23, e23, hr⟩ := hq
        refine wa_step (v := v23) (a_pure (o_ixS rfl rfl e23)) ?_
        have hq := bindO_inv hr
        clear hr
        obtain ⟨v24, e24, hr⟩ := hq
        have hq := asI_inv hr
        clear hr
        obtain ⟨x24, rfl, hr⟩ := hq
        refine wa_step (v := (.i .i64 x24)) (a_ld rfl e24) ?_
        have hq := forceB_inv hr
        clear hr
        obtain ⟨c25, e25, hr⟩ := hq
        refine wa_step (v := (.b c25)) (a_pure (p_bin rfl rfl (b_neq.trans (cb e25)))) ?_
        refine wa_nil ?_
        refine ⟨m0, rfl, ?_⟩
        refine nx_norm ?_
        have hq := cond_inv hr
        clear hr
        rcases hq with ⟨rfl, hr⟩ | ⟨rfl, hr⟩
        · refine w_condT rfl ?_
          refine w_seq ?_
          refine w_ops ?_
          refine wo_step (v := (.b false)) (s_pure (p_mv rfl)) ?_
          refine wo_nil ?_
          refine nx_norm ?_
          refine w_ret ?_
          refine bk_ret ?_
          refine nx_ret ?_
          cases hr
          exact ⟨_, _, rfl, ne_norm_ret, rfl, rfl, gl rfl⟩
        · refine w_condF rfl ?_
          refine w_skip ?_
          refine bk_norm ?_
          refine nx_norm ?_
          refine w_ops ?_
          refine wo_step (v := (.i .i64 x5)) (s_pure (p_mv g5)) ?_
          have hq := forceI_inv hr
          clear hr
          obtain ⟨x16, e16, hr⟩ := hq
          refine wo_step (v := (.i .i64 x16)) (s_pure (p_bin rfl rfl (b_add.trans (ci e16)))) ?_
          refine wo_step (v := (.i .i64 x16)) (s_pure (p_mv rfl)) ?_
          refine wo_nil ?_
          cases hr
          exact ⟨_, _, rfl, rfl, rfl, gl rfl, gl g0, gl g1⟩
      · refine w_condF rfl ?_
        refine w_exit ?_
        refine nx_exit ?_
        cases hr
        exact ⟨_, _, rfl, ne_norm_exit, rfl, rfl⟩
    · rcases o with o | o
      · rintro _ mm t_2 ⟨rfl, rfl⟩
        refine bk_hit ?_
        refine nx_norm ?_
        refine w_seq ?_
        refine w_ops ?_
        refine wo_step (v := (.b true)) (s_pure (p_mv rfl)) ?_
        refine wo_nil ?_
        refine nx_norm ?_
        refine w_ret ?_
        exact qf ret_ok (rt rfl rn) hr
      · obtain ⟨c4, ho⟩ : ∃ z, z = o := ⟨_, rfl⟩
        subst ho
        rintro _ mm_1 t_3 ⟨rfl, rfl, g4⟩
        refine bk_ret ?_
        refine nx_ret ?_
        exact qf ret_ok (rt g4 rn) hr

/- dibber/turn.Plans -/
abbrev k22a0 : ACode := .skip
abbrev k22c0 : ACode := (.block 1 (.seq (.seq (.ops [(.mk (some 24) none (.ld true 1 (.t 10))), (.mk (some 25) none (.pure (.bin .eql (.t 24) (.c (.i .i64 1000000)))))]) (.cond (.t 25) (.seq (.ops [(.mk none none (.st 1 (.t 6) (.c (.i .i64 0)))), (.mk none none (.st 1 (.t 7) (.c (.i .i64 8))))]) .ret) .skip)) (.ops [(.mk (some 26) none (.ld true 1 (.t 10))), (.mk (some 27) none (.pure (.bin .add (.t 26) (.c (.i .i64 1))))), (.mk none none (.st 1 (.t 10) (.t 27)))])))
abbrev g22_P0 (v6 : AVal) (v7 : AVal) (v10 : AVal) (t1 : Tr) : Prop := True ∧ t1.get 6 = v6 ∧ t1.get 7 = v7 ∧ t1.get 10 = v10
def g22_r0 (M : Means) (ro : List ABlk) (v6 : AVal) (v7 : AVal) (v10 : AVal) (b : Nat) (v23 : AVal) (m0 : Mm) : Option (AVal × Heap × Nat × Nat) :=
  bindO (rndB b m0) fun m_11 =>
  bindO (ldM ro m_11 true 1 v10) fun v24 =>
  asI .i64 v24 fun x24 =>
  forceB (eqI x24 1000000) fun c25 =>
  cond c25 (
    bindP (stepM ro m_11 (.st 1 (.c v6) (.c (.i .i64 0)))) fun vn_4 m_12 =>
    bindP (stepM ro m_12 (.st 1 (.c v7) (.c (.i .i64 8)))) fun vn_5 m_13 =>
    rndE m0.h.length b .ret m_13) (
    bindO (ldM ro m_11 true 1 v10) fun v26 =>
    asI .i64 v26 fun x26 =>
    forceI (wr .i64 (x26 + 1)) fun x27 =>
    bindP (stepM ro m_11 (.st 1 (.c v10) (.c (.i .i64 x27)))) fun vn_6 m_14 =>
    rndE m0.h.length b .norm m_14)
noncomputable def g22 (M : Means) (ro : List ABlk) (x0 : Int) (x1 : Int) (v2 : AVal) (m0 : Mm) : Option (AVal × Heap × Nat × Nat) :=
  bindP (stepM ro m0 (.al 3 [(AVal.i IntKind.i64 0)])) fun v6 m_1 =>
  bindP (stepM ro m_1 (.al 26 [(AVal.i IntKind.i64 0)])) fun v7 m_2 =>
  bindP (callM M.call m_2 43 [(.i .i64 x0), (.i .i64 x1), v2]) fun v15 m_3 =>
  bindO (evP .e (.ext 0 (.c v15))) fun v16 =>
  bindO (evP .e (.ext 1 (.c v15))) fun v17 =>
  asI .i64 v17 fun x17 =>
  bindP (stepM ro m_3 (.al 55 [(AVal.i IntKind.i64 0), (AVal.i IntKind.i64 0), AVal.nsl])) fun v8 m_4 =>
  bindP (stepM ro m_4 (.st 3 (.c v8) (.c v16))) fun vn m_5 =>
  forceB (!eqI x17 0) fun c19 =>
  cond c19 (
    bindP (stepM ro m_5 (.st 1 (.c v6) (.c (.i .i64 0)))) fun vn_1 m_6 =>
    bindP (stepM ro m_6 (.st 1 (.c v7) (.c (.i .i64 x17)))) fun vn_2 m_7 =>
    bindO (ldM ro m_7 true 1 v6) fun vr =>
    bindO (ldM ro m_7 true 1 v7) fun vr_1 =>
    finM m0.h.length (tupA [vr, vr_1]) m_7) (
    bindP (stepM ro m_5 (.al 3 [(AVal.i IntKind.i64 0)])) fun v10 m_8 =>
    bindP (stepM ro m_8 (.st 1 (.c v10) (.c (.i .i64 0)))) fun vn_3 m_9 =>
    bindO (ldM ro m_9 false 3 v8) fun v21 =>
    bindP (callM M.call m_9 44 [v21]) fun v22 m_10 =>
    bindO (rngP M.call (g22_P0 v6 v7 v10) [23] k22a0 k22c0 v22 m_10) fun ⟨ex, m_15⟩ => onE ex (
      bindO (ldM ro m_15 true 1 v10) fun v28 =>
      asI .i64 v28 fun x28 =>
      bindP (stepM ro m_15 (.st 1 (.c v6) (.c (.i .i64 x28)))) fun vn_7 m_16 =>
      bindP (stepM ro m_16 (.st 1 (.c v7) (.c (.i .i64 0)))) fun vn_8 m_17 =>
      bindO (ldM ro m_17 true 1 v6) fun vr_2 =>
      bindO (ldM ro m_17 true 1 v7) fun vr_3 =>
      finM m0.h.length (tupA [vr_2, vr_3]) m_17) (
      bindO (ldM ro m_15 true 1 v6) fun vr_4 =>
      bindO (ldM ro m_15 true 1 v7) fun vr_5 =>
      finM m0.h.length (tupA [vr_4, vr_5]) m_15) (fun ix =>
      none))

theorem g22_r0_ok {ro : List ABlk} {O : Caller} {M : Means} (hM : M.Ok ⟨F, O⟩ ro) {v6} {v7} {v10} {v23} {b h r bk t p} (hb : lget h b = some (some bk)) (hg : bk.g = some (.lp ⟨t, [23], k22a0, k22c0⟩ .ready p)) (hP : g22_P0 v6 v7 v10 t) (hr : g22_r0 M ro v6 v7 v10 b v23 ⟨h, h.length, h.length⟩ = some r) : roundX ⟨F, O⟩ ro b [v23] h = some r := by
  refine roundX_on (F := ⟨F, O⟩) (g := g22_r0 M ro v6 v7 v10 b v23) hb hg rfl hr ?_
  clear hb hg hr
  intro m0 t0 ht hr
  obtain ⟨-, g6, g7, g10⟩ := hP
  have g23 : t0.get 23 = v23 := by rw [ht]; simp [putPs, get_set]
  have g6 : t0.get 6 = v6 := by rw [ht]; simp only [putPs, get_set]; simpa using g6
  have g7 : t0.get 7 = v7 := by rw [ht]; simp only [putPs, get_set]; simpa using g7
  have g10 : t0.get 10 = v10 := by rw [ht]; simp only [putPs, get_set]; simpa using g10
  clear ht
  unfold g22_r0 at hr
  show W _ _ k22a0 _ _
  unfold k22a0
  refine w_skip ?_
  have hq := bindO_inv hr
  clear hr
  obtain ⟨m_11, eb, hr⟩ := hq
  refine qb eb ?_
  unfold k22c0
  refine w_block ?_
  refine w_seq ?_
  refine w_seq ?_
  refine w_ops ?_
  have hq := bindO_inv hr
  clear hr
  obtain ⟨v24, e24, hr⟩ := hq
  have hq := asI_inv hr
  clear hr
  obtain ⟨x24, rfl, hr⟩ := hq
  refine wo_step (v := (.i .i64 x24)) (s_ld g10 e24) ?_
  have hq := forceB_inv hr
  clear hr
  obtain ⟨c25, e25, hr⟩ := hq
  refine wo_step (v := (.b c25)) (s_pure (p_bin rfl rfl (b_eql.trans (cb e25)))) ?_
  refine wo_nil ?_
  refine nx_norm ?_
  have hq := cond_inv hr
  clear hr
  rcases hq with ⟨rfl, hr⟩ | ⟨rfl, hr⟩
  · refine w_condT rfl ?_
    refine w_seq ?_
    refine w_ops ?_
    have hq := bindP_inv hr
    clear hr
    obtain ⟨vn_4, m_12, en_4, hr⟩ := hq
    refine wo_stepN (s_st g6 rfl en_4) ?_
    have hq := bindP_inv hr
    clear hr
    obtain ⟨vn_5, m_13, en_5, hr⟩ := hq
    refine wo_stepN (s_st g7 rfl en_5) ?_
    refine wo_nil ?_
    refine nx_norm ?_
    refine w_ret ?_
    refine nx_ret ?_
    refine bk_ret ?_
    exact hr
  · refine w_condF rfl ?_
    refine w_skip ?_
    refine nx_norm ?_
    refine w_ops ?_
    have hq := bindO_inv hr
    clear hr
    obtain ⟨v26, e26, hr⟩ := hq
    have hq := asI_inv hr
    clear hr
    obtain ⟨x26, rfl, hr⟩ := hq
    refine wo_step (v := (.i .i64 x26)) (s_ld g10 e26) ?_
    have hq := forceI_inv hr
    clear hr
    obtain ⟨x27, e27, hr⟩ := hq
    refine wo_step (v := (.i .i64 x27)) (s_pure (p_bin rfl rfl (b_add.trans (ci e27)))) ?_
    have hq := bindP_inv hr
    clear hr
    obtain ⟨vn_6, m_14, en_6, hr⟩ := hq
    refine wo_stepN (s_st g10 rfl en_6) ?_
    refine wo_nil ?_
    refine bk_norm ?_
    exact hr

theorem g22_ok {ro : List ABlk} {O : Caller} {M : Means} (hM : M.Ok ⟨F, O⟩ ro) {x0 x1 v2 h r} (ho : O 22 [(.i .i64 x0), (.i .i64 x1), v2] h = none) (hr : g22 M ro x0 x1 v2 ⟨h, h.length, h.length⟩ = some r) : callX ⟨F, O⟩ ro 22 [(.i .i64 x0), (.i .i64 x1), v2] h = some r := by
  refine callX_of (F := ⟨F, O⟩) (fn := fn22) (g := g22 M ro x0 x1 v2) ho rfl rfl hr ?_
  clear ho
  clear hr
  intro m0 t0 ht hr
  have g0 : t0.get 0 = (.i .i64 x0) := ht 0
  have g1 : t0.get 1 = (.i .i64 x1) := ht 1
  have g2 : t0.get 2 = v2 := ht 2
  clear ht
  unfold g22 at hr
  refine w_seq ?_
  refine w_ops ?_
  have hq := bindP_inv hr
  clear hr
  obtain ⟨v6, m_1, e6, hr⟩ := hq
  refine wo_step (v := v6) (s_al e6) ?_
  have hq := bindP_inv hr
  clear hr
  obtain ⟨v7, m_2, e7, hr⟩ := hq
  refine wo_step (v := v7) (s_al e7) ?_
  refine wo_nil ?_
  refine nx_norm ?_
  refine w_seq ?_
  refine w_ops ?_
  refine wo_step (v := (.i .i64 x0)) (s_pure (p_mv g0)) ?_
  refine wo_step (v := (.i .i64 x1)) (s_pure (p_mv g1)) ?_
  refine wo_step (v := v2) (s_pure (p_mv g2)) ?_
  have hq := bindP_inv hr
  clear hr
  obtain ⟨v15, m_3, e15, hr⟩ := hq
  refine wo_step (v := v15) (s_call (mc rfl (mc rfl (mc rfl mn))) (callM_le hM.call e15)) ?_
  refine wo_step (v := v15) (s_pure (p_mv rfl)) ?_
  have hq := bindO_inv hr
  clear hr
  obtain ⟨v16, e16, hr⟩ := hq
  refine wo_step (v := v16) (s_pure (o_ext rfl e16)) ?_
  have hq := bindO_inv hr
  clear hr
  obtain ⟨v17, e17, hr⟩ := hq
  have hq := asI_inv hr
  clear hr
  obtain ⟨x17, rfl, hr⟩ := hq
  refine wo_step (v := (.i .i64 x17)) (s_pure (o_ext rfl e17)) ?_
  have hq := bindP_inv hr
  clear hr
  obtain ⟨v8, m_4, e8, hr⟩ := hq
  refine wo_step (v := v8) (s_al e8) ?_
  have hq := bindP_inv hr
  clear hr
  obtain ⟨vn, m_5, en, hr⟩ := hq
  refine wo_stepN (s_st rfl rfl en) ?_
  refine wo_step (v := (.i .i64 x17)) (s_pure (p_mv rfl)) ?_
  refine wo_nil ?_
  refine nx_norm ?_
  refine w_seq ?_
  refine w_seq ?_
  refine w_ops ?_
  refine wo_step (v := (.i .i64 x17)) (s_pure (p_mv rfl)) ?_
  have hq := forceB_inv hr
  clear hr
  obtain ⟨c19, e19, hr⟩ := hq
  refine wo_step (v := (.b c19)) (s_pure (p_bin rfl rfl (b_neq.trans (cb e19)))) ?_
  refine wo_nil ?_
  refine nx_norm ?_
  have hq := cond_inv hr
  clear hr
  rcases hq with ⟨rfl, hr⟩ | ⟨rfl, hr⟩
  · refine w_condT rfl ?_
    refine w_seq ?_
    refine w_ops ?_
    refine wo_step (v := (.i .i64 x17)) (s_pure (p_mv rfl)) ?_
    have hq := bindP_inv hr
    clear hr
    obtain ⟨vn_1, m_6, en_1, hr⟩ := hq
    refine wo_stepN (s_st rfl rfl en_1) ?_
    have hq := bindP_inv hr
    clear hr
    obtain ⟨vn_2, m_7, en_2, hr⟩ := hq
    refine wo_stepN (s_st rfl rfl en_2) ?_
    refine wo_nil ?_
    refine nx_norm ?_
    refine w_ret ?_
    refine nx_ret ?_
    have hq := bindO_inv hr
    clear hr
    obtain ⟨vr, er, hr⟩ := hq
    have hq := bindO_inv hr
    clear hr
    obtain ⟨vr_1, er_1, hr⟩ := hq
    exact qf ret_ok (rc rfl er (rc rfl er_1 rn)) hr
  · refine w_condF rfl ?_
    refine w_skip ?_
    refine nx_norm ?_
    refine w_seq ?_
    refine w_ops ?_
    have hq := bindP_inv hr
    clear hr
    obtain ⟨v10, m_8, e10, hr⟩ := hq
    refine wo_step (v := v10) (s_al e10) ?_
    have hq := bindP_inv hr
    clear hr
    obtain ⟨vn_3, m_9, en_3, hr⟩ := hq
    refine wo_stepN (s_st rfl rfl en_3) ?_
    refine wo_nil ?_
    refine nx_norm ?_
    refine w_seq ?_
    refine w_seq ?_
    refine w_ops ?_
    have hq := bindO_inv hr
    clear hr
    obtain ⟨v21, e21, hr⟩ := hq
    refine wo_step (v := v21) (s_ld rfl e21) ?_
    have hq := bindP_inv hr
    clear hr
    obtain ⟨v22, m_10, e22, hr⟩ := hq
    refine wo_step (v := v22) (s_call (mc rfl mn) (callM_le hM.call e22)) ?_
    refine wo_nil ?_
    refine nx_norm ?_
    refine w_block ?_
    have hq := bindO_inv hr
    clear hr
    obtain ⟨⟨ex, m_15⟩, er_2, hr⟩ := hq
    refine w_rng hM.call rfl er_2 ⟨trivial, gl rfl, gl rfl, gl rfl⟩ ?_
    have hq := onE_inv hr
    clear hr
    rcases hq with ⟨rfl, hr⟩ | ⟨rfl, hr⟩ | ⟨ix, rfl, hr⟩
    · refine bk_norm ?_
      refine nx_norm ?_
      refine w_seq ?_
      refine w_ops ?_
      have hq := bindO_inv hr
      clear hr
      obtain ⟨v28, e28, hr⟩ := hq
      have hq := asI_inv hr
      clear hr
      obtain ⟨x28, rfl, hr⟩ := hq
      refine wo_step (v := (.i .i64 x28)) (s_ld rfl e28) ?_
      have hq := bindP_inv hr
      clear hr
      obtain ⟨vn_7, m_16, en_7, hr⟩ := hq
      refine wo_stepN (s_st rfl rfl en_7) ?_
      have hq := bindP_inv hr
      clear hr
      obtain ⟨vn_8, m_17, en_8, hr⟩ := hq
      refine wo_stepN (s_st rfl rfl en_8) ?_
      refine wo_nil ?_
      refine nx_norm ?_
      refine w_ret ?_
      have hq := bindO_inv hr
      clear hr
      obtain ⟨vr_2, er_3, hr⟩ := hq
      have hq := bindO_inv hr
      clear hr
      obtain ⟨vr_3, er_4, hr⟩ := hq
      exact qf ret_ok (rc rfl er_3 (rc rfl er_4 rn)) hr
    · refine bk_ret ?_
      refine nx_ret ?_
      have hq := bindO_inv hr
      clear hr
      obtain ⟨vr_4, er_5, hr⟩ := hq
      have hq := bindO_inv hr
      clear hr
      obtain ⟨vr_5, er_6, hr⟩ := hq
      exact qf ret_ok (rc rfl er_5 (rc rfl er_6 rn)) hr
    · cases hr

/- dibber/turn.Shortest -/
abbrev k24a0 : ACode := (.ops [(.mk (some 14) none (.pure (.mv (.t 30))))])
abbrev k24c0 : ACode := (.block 1 (.seq (.seq (.ops [(.mk (some 31) none (.ld true 1 (.t 13))), (.mk (some 32) none (.pure (.bin .eql (.t 31) (.c (.i .i64 1000000)))))]) (.cond (.t 32) (.seq (.ops [(.mk none none (.st 1 (.t 6) (.c .nsl))), (.mk none none (.st 1 (.t 7) (.c (.i .i64 0)))), (.mk none none (.st 1 (.t 8) (.c (.i .i64 8))))]) .ret) .skip)) (.seq (.ops [(.mk (some 33) none (.ld true 1 (.t 13))), (.mk (some 34) none (.pure (.bin .add (.t 33) (.c (.i .i64 1))))), (.mk none none (.st 1 (.t 13) (.t 34)))]) (.seq (.ops [(.mk (some 15) none (.pure (.mv (.c (.i .i64 0)))))]) (.seq (.seq (.ops [(.mk (some 35) none (.ld true 1 (.t 5))), (.mk (some 36) none (.pure (.len false (.t 35)))), (.mk (some 37) none (.pure (.mv (.c (.i .i64 0)))))]) (.block 2 (.loop (.seq (.ops [(.mk (some 38) none (.pure (.bin .lss (.t 37) (.t 36))))]) (.seq (.cond (.t 38) .skip (.exit 2)) (.seq (.block 3 (.seq (.ops [(.mk (some 39) none (.pure (.ixS 4 (.t 35) (.t 37)))), (.mk (some 40) none (.ld false 4 (.t 39))), (.mk (some 17) none (.al 31 [(.i .i64 0), (.i .i64 0), (.i .i64 0), (.i .i64 0)])), (.mk none none (.st 4 (.t 17) (.t 40)))]) (.ops [(.mk (some 41) none (.pure (.mv (.t 15)))), (.mk (some 42) none (.ld false 3 (.t 9))), (.mk (some 43) none (.ld false 4 (.t 17))), (.mk (some 44) none (.pure (.mv (.t 14)))), (.mk (some 45) none (.call 48 [(.t 42), (.t 43), (.t 44)])), (.mk (some 46) none (.pure (.bin .add (.t 41) (.t 45)))), (.mk (some 15) none (.pure (.mv (.t 46))))]))) (.ops [(.mk (some 47) none (.pure (.bin .add (.t 37) (.c (.i .i64 1))))), (.mk (some 37) none (.pure (.mv (.t 47))))]))))))) (.seq (.ops [(.mk (some 48) none (.ld true 1 (.t 11))), (.mk (some 49) none (.pure (.nilcmp false (.t 48)))), (.mk (some 50) none (.pure (.mv (.t 49)))), (.mk (some 51) (some (50, false)) (.pure (.mv (.t 15)))), (.mk (some 52) (some (50, false)) (.ld true 1 (.t 12))), (.mk (some 53) (some (50, false)) (.pure (.bin .lss (.t 51) (.t 52)))), (.mk (some 54) none (.pure (.pick (.t 50) (.c (.b true)) (.t 53))))]) (.cond (.t 54) (.ops [(.mk (some 55) none (.pure (.mv (.t 14)))), (.mk (some 56) none (.call 49 [(.t 55)])), (.mk (some 57) none (.pure (.mv (.t 15)))), (.mk none none (.st 1 (.t 11) (.t 56))), (.mk none none (.st 1 (.t 12) (.t 57)))]) .skip)))))))
abbrev g24_P0 (v5 : AVal) (v6 : AVal) (v7 : AVal) (v8 : AVal) (v9 : AVal) (v11 : AVal) (v12 : AVal) (v13 : AVal) (t1 : Tr) : Prop := True ∧ t1.get 5 = v5 ∧ t1.get 6 = v6 ∧ t1.get 7 = v7 ∧ t1.get 8 = v8 ∧ t1.get 9 = v9 ∧ t1.get 11 = v11 ∧ t1.get 12 = v12 ∧ t1.get 13 = v13
abbrev g24_I0 (v9 : AVal) (v11 : AVal) (v12 : AVal) (v30 : AVal) (v35 : AVal) (x36 : Int) (s : Int × Int × Mm) (m1 : Mm) (t1 : Tr) : Prop :=
  match s with
  | (x15, x37, m_22) => m_22 = m1 ∧ t1.get 15 = (.i .i64 x15) ∧ t1.get 37 = (.i .i64 x37) ∧ t1.get 9 = v9 ∧ t1.get 11 = v11 ∧ t1.get 12 = v12 ∧ t1.get 14 = v30 ∧ t1.get 35 = v35 ∧ t1.get 36 = (.i .i64 x36)
abbrev g24_J0 (v9 : AVal) (v11 : AVal) (v12 : AVal) (v30 : AVal) (v35 : AVal) (x36 : Int) (o : (Int × Mm)) (e : AExit) (m1 : Mm) (t1 : Tr) : Prop :=
  match o with
  | (y15, mo) => e = (.exit 2) ∧ mo = m1 ∧ t1.get 15 = (.i .i64 y15) ∧ t1.get 11 = v11 ∧ t1.get 12 = v12 ∧ t1.get 14 = v30
def g24_b0 (M : Means) (ro : List ABlk) (v9 : AVal) (v11 : AVal) (v12 : AVal) (v30 : AVal) (v35 : AVal) (x36 : Int) (x15 : Int) (x37 : Int) (m_22 : Mm) : Option ((Int × Int × Mm) ⊕ ((Int × Mm))) :=
  forceB (ltI x37 x36) fun c38 =>
  cond c38 (
    bindO (evP .e (.ixS 4 (.c v35) (.c (.i .i64 x37)))) fun v39 =>
    bindO (ldM ro m_22 false 4 v39) fun v40 =>
    bindP (stepM ro m_22 (.al 31 [(AVal.i IntKind.i64 0), (AVal.i IntKind.i64 0), (AVal.i IntKind.i64 0), (AVal.i IntKind.i64 0)])) fun v17 m_23 =>
    bindP (stepM ro m_23 (.st 4 (.c v17) (.c v40))) fun vn_10 m_24 =>
    bindO (ldM ro m_24 false 3 v9) fun v42 =>
    bindO (ldM ro m_24 false 4 v17) fun v43 =>
    bindP (callM M.call m_24 48 [v42, v43, v30]) fun v45 m_25 =>
    asI .i64 v45 fun x45 =>
    forceI (wr .i64 (x15 + x45)) fun x46 =>
    forceI (wr .i64 (x37 + 1)) fun x47 =>
    some (.inl (x46, x47, m_25))) (
    some (.inr (x15, m_22)))
abbrev g24_J1 (v11 : AVal) (v12 : AVal) (v30 : AVal) (x15_1 : Int) (m_26 : Mm) (o : Bool) (m1 : Mm) (t1 : Tr) : Prop :=
  match o with
  | c54 => m_26 = m1 ∧ t1.get 54 = (.b c54) ∧ t1.get 11 = v11 ∧ t1.get 12 = v12 ∧ t1.get 14 = v30 ∧ t1.get 15 = (.i .i64 x15_1)
abbrev g24_J2  (o : Mm) (e : AExit) (m1 : Mm) (t1 : Tr) : Prop :=
  match o with
  | mo => e = .norm ∧ mo = m1
def g24_r0 (M : Means) (ro : List ABlk) (v5 : AVal) (v6 : AVal) (v7 : AVal) (v8 : AVal) (v9 : AVal) (v11 : AVal) (v12 : AVal) (v13 : AVal) (b : Nat) (v30 : AVal) (m0 : Mm) : Option (AVal × Heap × Nat × Nat) :=
  bindO (rndB b m0) fun m_17 =>
  bindO (ldM ro m_17 true 1 v13) fun v31 =>
  asI .i64 v31 fun x31 =>
  forceB (eqI x31 1000000) fun c32 =>
  cond c32 (
    bindP (stepM ro m_17 (.st 1 (.c v6) (.c AVal.nsl))) fun vn_6 m_18 =>
    bindP (stepM ro m_18 (.st 1 (.c v7) (.c (.i .i64 0)))) fun vn_7 m_19 =>
    bindP (stepM ro m_19 (.st 1 (.c v8) (.c (.i .i64 8)))) fun vn_8 m_20 =>
    rndE m0.h.length b .ret m_20) (
    bindO (ldM ro m_17 true 1 v13) fun v33 =>
    asI .i64 v33 fun x33 =>
    forceI (wr .i64 (x33 + 1)) fun x34 =>
    bindP (stepM ro m_17 (.st 1 (.c v13) (.c (.i .i64 x34)))) fun vn_9 m_21 =>
    bindO (ldM ro m_21 true 1 v5) fun v35 =>
    bindO (evP .e (.len false (.c v35))) fun v36 =>
    asI .i64 v36 fun x36 =>
    bindO (M.loop (S := Int × Int × Mm) (R := (Int × Mm)) (fun s => g24_b0 M ro v9 v11 v12 v30 v35 x36 s.1 s.2.1 s.2.2) (0, 0, m_21)) fun ⟨x15_1, m_26⟩ =>
    bindO (ldM ro m_26 true 1 v11) fun v48 =>
    bindO (evP .e (.nilcmp false (.c v48))) fun v49 =>
    asB v49 fun c49 =>
    bindO (cond c49 (
      some true) (
      bindO (ldM ro m_26 true 1 v12) fun v52 =>
      asI .i64 v52 fun x52 =>
      forceB (ltI x15_1 x52) fun c53 =>
      some c53)) fun c54 =>
    bindO (α := Mm) (
      cond c54 (
        bindP (callM M.call m_26 49 [v30]) fun v56 m_27 =>
        bindP (stepM ro m_27 (.st 1 (.c v11) (.c v56))) fun vn_11 m_28 =>
        bindP (stepM ro m_28 (.st 1 (.c v12) (.c (.i .i64 x15_1)))) fun vn_12 m_29 =>
        some m_29) (
        some m_26)) fun m_30 =>
    rndE m0.h.length b .norm m_30)
noncomputable def g24 (M : Means) (ro : List ABlk) (x0 : Int) (x1 : Int) (v2 : AVal) (m0 : Mm) : Option (AVal × Heap × Nat × Nat) :=
  bindP (stepM ro m0 (.bx 22 1 (.c v2))) fun v5 m_1 =>
  bindP (stepM ro m_1 (.al 25 [AVal.nsl])) fun v6 m_2 =>
  bindP (stepM ro m_2 (.al 3 [(AVal.i IntKind.i64 0)])) fun v7 m_3 =>
  bindP (stepM ro m_3 (.al 26 [(AVal.i IntKind.i64 0)])) fun v8 m_4 =>
  bindO (ldM ro m_4 true 1 v5) fun v21 =>
  bindP (callM M.call m_4 43 [(.i .i64 x0), (.i .i64 x1), v21]) fun v22 m_5 =>
  bindO (evP .e (.ext 0 (.c v22))) fun v23 =>
  bindO (evP .e (.ext 1 (.c v22))) fun v24 =>
  asI .i64 v24 fun x24 =>
  bindP (stepM ro m_5 (.al 55 [(AVal.i IntKind.i64 0), (AVal.i IntKind.i64 0), AVal.nsl])) fun v9 m_6 =>
  bindP (stepM ro m_6 (.st 3 (.c v9) (.c v23))) fun vn m_7 =>
  forceB (!eqI x24 0) fun c26 =>
  cond c26 (
    bindP (stepM ro m_7 (.st 1 (.c v6) (.c AVal.nsl))) fun vn_1 m_8 =>
    bindP (stepM ro m_8 (.st 1 (.c v7) (.c (.i .i64 0)))) fun vn_2 m_9 =>
    bindP (stepM ro m_9 (.st 1 (.c v8) (.c (.i .i64 x24)))) fun vn_3 m_10 =>
    bindO (ldM ro m_10 true 1 v6) fun vr =>
    bindO (ldM ro m_10 true 1 v7) fun vr_1 =>
    bindO (ldM ro m_10 true 1 v8) fun vr_2 =>
    finM m0.h.length (tupA [vr, vr_1, vr_2]) m_10) (
    bindP (stepM ro m_7 (.al 25 [AVal.nsl])) fun v11 m_11 =>
    bindP (stepM ro m_11 (.al 3 [(AVal.i IntKind.i64 0)])) fun v12 m_12 =>
    bindP (stepM ro m_12 (.al 3 [(AVal.i IntKind.i64 0)])) fun v13 m_13 =>
    bindP (stepM ro m_13 (.st 1 (.c v12) (.c (.i .i64 0)))) fun vn_4 m_14 =>
    bindP (stepM ro m_14 (.st 1 (.c v13) (.c (.i .i64 0)))) fun vn_5 m_15 =>
    bindO (ldM ro m_15 false 3 v9) fun v28 =>
    bindP (callM M.call m_15 44 [v28]) fun v29 m_16 =>
    bindO (rngP M.call (g24_P0 v5 v6 v7 v8 v9 v11 v12 v13) [30] k24a0 k24c0 v29 m_16) fun ⟨ex, m_31⟩ => onE ex (
      bindO (ldM ro m_31 true 1 v11) fun v58 =>
      bindO (evP .e (.nilcmp false (.c v58))) fun v59 =>
      asB v59 fun c59 =>
      cond c59 (
        bindP (stepM ro m_31 (.st 1 (.c v6) (.c AVal.nsl))) fun vn_13 m_32 =>
        bindP (stepM ro m_32 (.st 1 (.c v7) (.c (.i .i64 0)))) fun vn_14 m_33 =>
        bindP (stepM ro m_33 (.st 1 (.c v8) (.c (.i .i64 10)))) fun vn_15 m_34 =>
        bindO (ldM ro m_34 true 1 v6) fun vr_3 =>
        bindO (ldM ro m_34 true 1 v7) fun vr_4 =>
        bindO (ldM ro m_34 true 1 v8) fun vr_5 =>
        finM m0.h.length (tupA [vr_3, vr_4, vr_5]) m_34) (
        bindO (ldA ro m_31.h true 1 v11) fun v60 =>
        asP v12 fun q61 =>
        bindO (ldA ro m_31.h true 1 (.p (some q61))) fun v61 =>
        asI .i64 v61 fun x61 =>
        asP v6 fun qs =>
        chk (Nat.beq (AVal.cells v60).length 1) <|
        asP v7 fun qs_1 =>
        asP v8 fun qs_2 =>
        bindO (writesM ro [((q61, [.b true, .i .i64 1]), (.i .i64 x61))] [(qs, AVal.cells v60), (qs_1, AVal.cells (.i .i64 x61)), (qs_2, AVal.cells (.i .i64 0))] ⟨m_31.h, m_31.lw, m_31.lp⟩) fun m_35 =>
        bindO (ldM ro m_35 true 1 v6) fun vr_6 =>
        bindO (ldM ro m_35 true 1 v7) fun vr_7 =>
        bindO (ldM ro m_35 true 1 v8) fun vr_8 =>
        finM m0.h.length (tupA [vr_6, vr_7, vr_8]) m_35)) (
      bindO (ldM ro m_31 true 1 v6) fun vr_9 =>
      bindO (ldM ro m_31 true 1 v7) fun vr_10 =>
      bindO (ldM ro m_31 true 1 v8) fun vr_11 =>
      finM m0.h.length (tupA [vr_9, vr_10, vr_11]) m_31) (fun ix =>
      none))

theorem g24_r0_ok {ro : List ABlk} {O : Caller} {M : Means} (hM : M.Ok ⟨F, O⟩ ro) {v5} {v6} {v7} {v8} {v9} {v11} {v12} {v13} {v30} {b h r bk t p} (hb : lget h b = some (some bk)) (hg : bk.g = some (.lp ⟨t, [30], k24a0, k24c0⟩ .ready p)) (hP : g24_P0 v5 v6 v7 v8 v9 v11 v12 v13 t) (hr : g24_r0 M ro v5 v6 v7 v8 v9 v11 v12 v13 b v30 ⟨h, h.length, h.length⟩ = some r) : roundX ⟨F, O⟩ ro b [v30] h = some r := by
  refine roundX_on (F := ⟨F, O⟩) (g := g24_r0 M ro v5 v6 v7 v8 v9 v11 v12 v13 b v30) hb hg rfl hr ?_
  clear hb hg hr
  intro m0 t0 ht hr
  obtain ⟨-, g5, g6, g7, g8, g9, g11, g12, g13⟩ := hP
  have g30 : t0.get 30 = v30 := by rw [ht]; simp [putPs, get_set]
  have g5 : t0.get 5 = v5 := by rw [ht]; simp only [putPs, get_set]; simpa using g5
  have g6 : t0.get 6 = v6 := by rw [ht]; simp only [putPs, get_set]; simpa using g6
  have g7 : t0.get 7 = v7 := by rw [ht]; simp only [putPs, get_set]; simpa using g7
  have g8 : t0.get 8 = v8 := by rw [ht]; simp only [putPs, get_set]; simpa using g8
  have g9 : t0.get 9 = v9 := by rw [ht]; simp only [putPs, get_set]; simpa using g9
  have g11 : t0.get 11 = v11 := by rw [ht]; simp only [putPs, get_set]; simpa using g11
  have g12 : t0.get 12 = v12 := by rw [ht]; simp only [putPs, get_set]; simpa using g12
  have g13 : t0.get 13 = v13 := by rw [ht]; simp only [putPs, get_set]; simpa using g13
  clear ht
  unfold g24_r0 at hr
  show W _ _ k24a0 _ _
  unfold k24a0
  refine w_ops ?_
  refine wo_step (v := v30) (s_pure (p_mv g30)) ?_
  refine wo_nil ?_
  have hq := bindO_inv hr
  clear hr
  obtain ⟨m_17, eb, hr⟩ := hq
  refine qb eb ?_
  unfold k24c0
  refine w_block ?_
  refine w_seq ?_
  refine w_seq ?_
  refine w_ops ?_
  have hq := bindO_inv hr
  clear hr
  obtain ⟨v31, e31, hr⟩ := hq
  have hq := asI_inv hr
  clear hr
  obtain ⟨x31, rfl, hr⟩ := hq
  refine wo_step (v := (.i .i64 x31)) (s_ld g13 e31) ?_
  have hq := forceB_inv hr
  clear hr
  obtain ⟨c32, e32, hr⟩ := hq
  refine wo_step (v := (.b c32)) (s_pure (p_bin rfl rfl (b_eql.trans (cb e32)))) ?_
  refine wo_nil ?_
  refine nx_norm ?_
  have hq := cond_inv hr
  clear hr
  rcases hq with ⟨rfl, hr⟩ | ⟨rfl, hr⟩
  · refine w_condT rfl ?_
    refine w_seq ?_
    refine w_ops ?_
    have hq := bindP_inv hr
    clear hr
    obtain ⟨vn_6, m_18, en_6, hr⟩ := hq
    refine wo_stepN (s_st g6 rfl en_6) ?_
    have hq := bindP_inv hr
    clear hr
    obtain ⟨vn_7, m_19, en_7, hr⟩ := hq
    refine wo_stepN (s_st g7 rfl en_7) ?_
    have hq := bindP_inv hr
    clear hr
    obtain ⟨vn_8, m_20, en_8, hr⟩ := hq
    refine wo_stepN (s_st g8 rfl en_8) ?_
    refine wo_nil ?_
    refine nx_norm ?_
    refine w_ret ?_
    refine nx_ret ?_
    refine bk_ret ?_
    exact hr
  · refine w_condF rfl ?_
    refine w_skip ?_
    refine nx_norm ?_
    refine w_seq ?_
    refine w_ops ?_
    have hq := bindO_inv hr
    clear hr
    obtain ⟨v33, e33, hr⟩ := hq
    have hq := asI_inv hr
    clear hr
    obtain ⟨x33, rfl, hr⟩ := hq
    refine wo_step (v := (.i .i64 x33)) (s_ld g13 e33) ?_
    have hq := forceI_inv hr
    clear hr
    obtain ⟨x34, e34, hr⟩ := hq
    refine wo_step (v := (.i .i64 x34)) (s_pure (p_bin rfl rfl (b_add.trans (ci e34)))) ?_
    have hq := bindP_inv hr
    clear hr
    obtain ⟨vn_9, m_21, en_9, hr⟩ := hq
    refine wo_stepN (s_st g13 rfl en_9) ?_
    refine wo_nil ?_
    refine nx_norm ?_
    refine w_seq ?_
    refine w_ops ?_
    refine wo_step (v := (.i .i64 0)) (s_pure (p_mv rfl)) ?_
    refine wo_nil ?_
    refine nx_norm ?_
    refine w_seq ?_
    refine w_seq ?_
    refine w_ops ?_
    have hq := bindO_inv hr
    clear hr
    obtain ⟨v35, e35, hr⟩ := hq
    refine wo_step (v := v35) (s_ld g5 e35) ?_
    have hq := bindO_inv hr
    clear hr
    obtain ⟨v36, e36, hr⟩ := hq
    have hq := asI_inv hr
    clear hr
    obtain ⟨x36, rfl, hr⟩ := hq
    refine wo_step (v := (.i .i64 x36)) (s_pure (o_len rfl e36)) ?_
    refine wo_step (v := (.i .i64 0)) (s_pure (p_mv rfl)) ?_
    refine wo_nil ?_
    refine nx_norm ?_
    refine w_block ?_
    have hq := bindO_inv hr
    clear hr
    obtain ⟨o, hl, hr⟩ := hq
    obtain ⟨n, hl⟩ := hM.loop _ _ _ hl
    refine jp_mono (w_loop _ (g24_I0 v9 v11 v12 v30 v35 x36) (g24_J0 v9 v11 v12 v30 v35 x36) ?_ n _ _ _ _ hl ⟨rfl, gl rfl, gl rfl, gl g9, gl g11, gl g12, gl rfl, gl rfl, gl rfl⟩) ?_
    · clear hr hl
      intro s mm_3 t_1 o hi hr
      obtain ⟨x15, x37, m_22⟩ := s
      obtain ⟨rfl, g15, g37, g9, g11, g12, g14, g35, g36⟩ := hi
      unfold g24_b0 at hr
      refine w_seq ?_
      refine w_ops ?_
      have hq := forceB_inv hr
      clear hr
      obtain ⟨c38, e38, hr⟩ := hq
      refine wo_step (v := (.b c38)) (s_pure (p_bin g37 g36 (b_lss.trans (cb e38)))) ?_
      refine wo_nil ?_
      refine nx_norm ?_
      refine w_seq ?_
      have hq := cond_inv hr
      clear hr
      rcases hq with ⟨rfl, hr⟩ | ⟨rfl, hr⟩
      · refine w_condT rfl ?_
        refine w_skip ?_
        refine nx_norm ?_
        refine w_seq ?_
        refine w_block ?_
        refine w_seq ?_
        refine w_ops ?_
        have hq := bindO_inv hr
        clear hr
        obtain ⟨v39, e39, hr⟩ := hq
        refine wo_step (v := v39) (s_pure (o_ixS g35 g37 e39)) ?_
        have hq := bindO_inv hr
        clear hr
        obtain ⟨v40, e40, hr⟩ := hq
        refine wo_step (v := v40) (s_ld rfl e40) ?_
        have hq := bindP_inv hr
        clear hr
        obtain ⟨v17, m_23, e17, hr⟩ := hq
        refine wo_step (v := v17) (s_al e17) ?_
        have hq := bindP_inv hr
        clear hr
        obtain ⟨vn_10, m_24, en_10, hr⟩ := hq
        refine wo_stepN (s_st rfl rfl en_10) ?_
        refine wo_nil ?_
        refine nx_norm ?_
        refine w_ops ?_
        refine wo_step (v := (.i .i64 x15)) (s_pure (p_mv g15)) ?_
        have hq := bindO_inv hr
        clear hr
        obtain ⟨v42, e42, hr⟩ := hq
        refine wo_step (v := v42) (s_ld g9 e42) ?_
        have hq := bindO_inv hr
        clear hr
        obtain ⟨v43, e43, hr⟩ := hq
        refine wo_step (v := v43) (s_ld rfl e43) ?_
        refine wo_step (v := v30) (s_pure (p_mv g14)) ?_
        have hq := bindP_inv hr
        clear hr
        obtain ⟨v45, m_25, e45, hr⟩ := hq
        have hq := asI_inv hr
        clear hr
        obtain ⟨x45, rfl, hr⟩ := hq
        refine wo_step (v := (.i .i64 x45)) (s_call (mc rfl (mc rfl (mc rfl mn))) (callM_le hM.call e45)) ?_
        have hq := forceI_inv hr
        clear hr
        obtain ⟨x46, e46, hr⟩ := hq
        refine wo_step (v := (.i .i64 x46)) (s_pure (p_bin rfl rfl (b_add.trans (ci e46)))) ?_
        refine wo_step (v := (.i .i64 x46)) (s_pure (p_mv rfl)) ?_
        refine wo_nil ?_
        refine bk_norm ?_
        refine nx_norm ?_
        refine w_ops ?_
        have hq := forceI_inv hr
        clear hr
        obtain ⟨x47, e47, hr⟩ := hq
        refine wo_step (v := (.i .i64 x47)) (s_pure (p_bin g37 rfl (b_add.trans (ci e47)))) ?_
        refine wo_step (v := (.i .i64 x47)) (s_pure (p_mv rfl)) ?_
        refine wo_nil ?_
        cases hr
        exact ⟨_, _, rfl, rfl, rfl, gl rfl, gl rfl, gl g9, gl g11, gl g12, gl g14, gl g35, gl g36⟩
      · refine w_condF rfl ?_
        refine w_exit ?_
        refine nx_exit ?_
        cases hr
        exact ⟨_, _, rfl, ne_norm_exit, rfl, rfl, gl g15, gl g11, gl g12, gl g14⟩
    · obtain ⟨x15_1, m_26⟩ := o
      rintro _ mm_2 t_2 ⟨rfl, rfl, g15, g11, g12, g14⟩
      refine bk_hit ?_
      refine nx_norm ?_
      refine w_seq ?_
      refine w_ops ?_
      have hq := bindO_inv hr
      clear hr
      obtain ⟨v48, e48, hr⟩ := hq
      refine wo_step (v := v48) (s_ld g11 e48) ?_
      have hq := bindO_inv hr
      clear hr
      obtain ⟨v49, e49, hr⟩ := hq
      have hq := asB_inv hr
      clear hr
      obtain ⟨c49, rfl, hr⟩ := hq
      refine wo_step (v := (.b c49)) (s_pure (o_nilcmp rfl e49)) ?_
      refine wo_step (v := (.b c49)) (s_pure (p_mv rfl)) ?_
      have hq := bindO_inv hr
      clear hr
      obtain ⟨o_1, hr, hk⟩ := hq
      refine wo_join 4 (g24_J1 v11 v12 v30 x15_1 m_26 o_1) ?_ ?_
      · clear hk
        have hq := cond_inv hr
        clear hr
        rcases hq with ⟨rfl, hr⟩ | ⟨rfl, hr⟩
        · refine wo_skip (v := (.b true)) rfl rfl ?_
          refine wo_skip (v := (.b true)) rfl rfl ?_
          refine wo_skip (v := (.b true)) rfl rfl ?_
          refine wo_step (v := (.b true)) (s_pure (p_pickT rfl rfl)) ?_
          refine wo_nil ?_
          cases hr
          exact ⟨_, _, rfl, rfl, gl rfl, gl g11, gl g12, gl g14, gl g15⟩
        · refine wo_take (v := (.i .i64 x15_1)) rfl (s_pure (p_mv g15)) ?_
          have hq := bindO_inv hr
          clear hr
          obtain ⟨v52, e52, hr⟩ := hq
          have hq := asI_inv hr
          clear hr
          obtain ⟨x52, rfl, hr⟩ := hq
          refine wo_take (v := (.i .i64 x52)) rfl (s_ld g12 e52) ?_
          have hq := forceB_inv hr
          clear hr
          obtain ⟨c53, e53, hr⟩ := hq
          refine wo_take (v := (.b c53)) rfl (s_pure (p_bin rfl rfl (b_lss.trans (cb e53)))) ?_
          refine wo_step (v := (.b c53)) (s_pure (p_pickF rfl rfl)) ?_
          refine wo_nil ?_
          cases hr
          exact ⟨_, _, rfl, rfl, gl rfl, gl g11, gl g12, gl g14, gl g15⟩
      · clear hr
        have hr := hk
        clear hk
        obtain ⟨c54, ho⟩ : ∃ z, z = o_1 := ⟨_, rfl⟩
        subst ho
        rintro mm t_3 ⟨rfl, g54, g11, g12, g14, g15⟩
        refine wo_nil ?_
        refine nx_norm ?_
        have hq := bindO_inv hr
        clear hr
        obtain ⟨o_2, hr, hk⟩ := hq
        refine jp_mono (J := g24_J2  o_2) ?_ ?_
        · clear hk
          have hq := cond_inv hr
          clear hr
          rcases hq with ⟨rfl, hr⟩ | ⟨rfl, hr⟩
          · refine w_condT g54 ?_
            refine w_ops ?_
            refine wo_step (v := v30) (s_pure (p_mv g14)) ?_
            have hq := bindP_inv hr
            clear hr
            obtain ⟨v56, m_27, e56, hr⟩ := hq
            refine wo_step (v := v56) (s_call (mc rfl mn) (callM_le hM.call e56)) ?_
            refine wo_step (v := (.i .i64 x15_1)) (s_pure (p_mv g15)) ?_
            have hq := bindP_inv hr
            clear hr
            obtain ⟨vn_11, m_28, en_11, hr⟩ := hq
            refine wo_stepN (s_st g11 rfl en_11) ?_
            have hq := bindP_inv hr
            clear hr
            obtain ⟨vn_12, m_29, en_12, hr⟩ := hq
            refine wo_stepN (s_st g12 rfl en_12) ?_
            refine wo_nil ?_
            cases hr
            exact ⟨_, _, rfl, rfl, rfl⟩
          · refine w_condF g54 ?_
            refine w_skip ?_
            cases hr
            exact ⟨_, _, rfl, rfl, rfl⟩
        · have hr := hk
          clear hk
          obtain ⟨m_30, ho⟩ : ∃ z, z = o_2 := ⟨_, rfl⟩
          subst ho
          rintro _ mm_1 t_4 ⟨rfl, rfl⟩
          refine bk_norm ?_
          exact hr

theorem g24_ok {ro : List ABlk} {O : Caller} {M : Means} (hM : M.Ok ⟨F, O⟩ ro) {x0 x1 v2 h r} (ho : O 24 [(.i .i64 x0), (.i .i64 x1), v2] h = none) (hr : g24 M ro x0 x1 v2 ⟨h, h.length, h.length⟩ = some r) : callX ⟨F, O⟩ ro 24 [(.i .i64 x0), (.i .i64 x1), v2] h = some r := by
  refine callX_of (F := ⟨F, O⟩) (fn := fn24) (g := g24 M ro x0 x1 v2) ho rfl rfl hr ?_
  clear ho
  clear hr
  intro m0 t0 ht hr
  have g0 : t0.get 0 = (.i .i64 x0) := ht 0
  have g1 : t0.get 1 = (.i .i64 x1) := ht 1
  have g2 : t0.get 2 = v2 := ht 2
  clear ht
  unfold g24 at hr
  refine w_seq ?_
  refine w_ops ?_
  have hq := bindP_inv hr
  clear hr
  obtain ⟨v5, m_1, e5, hr⟩ := hq
  refine wo_step (v := v5) (s_bx g2 e5) ?_
  have hq := bindP_inv hr
  clear hr
  obtain ⟨v6, m_2, e6, hr⟩ := hq
  refine wo_step (v := v6) (s_al e6) ?_
  have hq := bindP_inv hr
  clear hr
  obtain ⟨v7, m_3, e7, hr⟩ := hq
  refine wo_step (v := v7) (s_al e7) ?_
  have hq := bindP_inv hr
  clear hr
  obtain ⟨v8, m_4, e8, hr⟩ := hq
  refine wo_step (v := v8) (s_al e8) ?_
  refine wo_nil ?_
  refine nx_norm ?_
  refine w_seq ?_
  refine w_ops ?_
  refine wo_step (v := (.i .i64 x0)) (s_pure (p_mv g0)) ?_
  refine wo_step (v := (.i .i64 x1)) (s_pure (p_mv g1)) ?_
  have hq := bindO_inv hr
  clear hr
  obtain ⟨v21, e21, hr⟩ := hq
  refine wo_step (v := v21) (s_ld rfl e21) ?_
  have hq := bindP_inv hr
  clear hr
  obtain ⟨v22, m_5, e22, hr⟩ := hq
  refine wo_step (v := v22) (s_call (mc rfl (mc rfl (mc rfl mn))) (callM_le hM.call e22)) ?_
  refine wo_step (v := v22) (s_pure (p_mv rfl)) ?_
  have hq := bindO_inv hr
  clear hr
  obtain ⟨v23, e23, hr⟩ := hq
  refine wo_step (v := v23) (s_pure (o_ext rfl e23)) ?_
  have hq := bindO_inv hr
  clear hr
  obtain ⟨v24, e24, hr⟩ := hq
  have hq := asI_inv hr
  clear hr
  obtain ⟨x24, rfl, hr⟩ := hq
  refine wo_step (v := (.i .i64 x24)) (s_pure (o_ext rfl e24)) ?_
  have hq := bindP_inv hr
  clear hr
  obtain ⟨v9, m_6, e9, hr⟩ := hq
  refine wo_step (v := v9) (s_al e9) ?_
  have hq := bindP_inv hr
  clear hr
  obtain ⟨vn, m_7, en, hr⟩ := hq
  refine wo_stepN (s_st rfl rfl en) ?_
  refine wo_step (v := (.i .i64 x24)) (s_pure (p_mv rfl)) ?_
  refine wo_nil ?_
  refine nx_norm ?_
  refine w_seq ?_
  refine w_seq ?_
  refine w_ops ?_
  refine wo_step (v := (.i .i64 x24)) (s_pure (p_mv rfl)) ?_
  have hq := forceB_inv hr
  clear hr
  obtain ⟨c26, e26, hr⟩ := hq
  refine wo_step (v := (.b c26)) (s_pure (p_bin rfl rfl (b_neq.trans (cb e26)))) ?_
  refine wo_nil ?_
  refine nx_norm ?_
  have hq := cond_inv hr
  clear hr
  rcases hq with ⟨rfl, hr⟩ | ⟨rfl, hr⟩
  · refine w_condT rfl ?_
    refine w_seq ?_
    refine w_ops ?_
    refine wo_step (v := (.i .i64 x24)) (s_pure (p_mv rfl)) ?_
    have hq := bindP_inv hr
    clear hr
    obtain ⟨vn_1, m_8, en_1, hr⟩ := hq
    refine wo_stepN (s_st rfl rfl en_1) ?_
    have hq := bindP_inv hr
    clear hr
    obtain ⟨vn_2, m_9, en_2, hr⟩ := hq
    refine wo_stepN (s_st rfl rfl en_2) ?_
    have hq := bindP_inv hr
    clear hr
    obtain ⟨vn_3, m_10, en_3, hr⟩ := hq
    refine wo_stepN (s_st rfl rfl en_3) ?_
    refine wo_nil ?_
    refine nx_norm ?_
    refine w_ret ?_
    refine nx_ret ?_
    have hq := bindO_inv hr
    clear hr
    obtain ⟨vr, er, hr⟩ := hq
    have hq := bindO_inv hr
    clear hr
    obtain ⟨vr_1, er_1, hr⟩ := hq
    have hq := bindO_inv hr
    clear hr
    obtain ⟨vr_2, er_2, hr⟩ := hq
    exact qf ret_ok (rc rfl er (rc rfl er_1 (rc rfl er_2 rn))) hr
  · refine w_condF rfl ?_
    refine w_skip ?_
    refine nx_norm ?_
    refine w_seq ?_
    refine w_ops ?_
    have hq := bindP_inv hr
    clear hr
    obtain ⟨v11, m_11, e11, hr⟩ := hq
    refine wo_step (v := v11) (s_al e11) ?_
    refine wo_nil ?_
    refine nx_norm ?_
    refine w_seq ?_
    refine w_ops ?_
    have hq := bindP_inv hr
    clear hr
    obtain ⟨v12, m_12, e12, hr⟩ := hq
    refine wo_step (v := v12) (s_al e12) ?_
    have hq := bindP_inv hr
    clear hr
    obtain ⟨v13, m_13, e13, hr⟩ := hq
    refine wo_step (v := v13) (s_al e13) ?_
    have hq := bindP_inv hr
    clear hr
    obtain ⟨vn_4, m_14, en_4, hr⟩ := hq
    refine wo_stepN (s_st rfl rfl en_4) ?_
    have hq := bindP_inv hr
    clear hr
    obtain ⟨vn_5, m_15, en_5, hr⟩ := hq
    refine wo_stepN (s_st rfl rfl en_5) ?_
    refine wo_nil ?_
    refine nx_norm ?_
    refine w_seq ?_
    refine w_seq ?_
    refine w_ops ?_
    have hq := bindO_inv hr
    clear hr
    obtain ⟨v28, e28, hr⟩ := hq
    refine wo_step (v := v28) (s_ld rfl e28) ?_
    have hq := bindP_inv hr
    clear hr
    obtain ⟨v29, m_16, e29, hr⟩ := hq
    refine wo_step (v := v29) (s_call (mc rfl mn) (callM_le hM.call e29)) ?_
    refine wo_nil ?_
    refine nx_norm ?_
    refine w_block ?_
    have hq := bindO_inv hr
    clear hr
    obtain ⟨⟨ex, m_31⟩, er_3, hr⟩ := hq
    refine w_rng hM.call rfl er_3 ⟨trivial, gl rfl, gl rfl, gl rfl, gl rfl, gl rfl, gl rfl, gl rfl, gl rfl⟩ ?_
    have hq := onE_inv hr
    clear hr
    rcases hq with ⟨rfl, hr⟩ | ⟨rfl, hr⟩ | ⟨ix, rfl, hr⟩
    · refine bk_norm ?_
      refine nx_norm ?_
      refine w_seq ?_
      refine w_seq ?_
      refine w_ops ?_
      have hq := bindO_inv hr
      clear hr
      obtain ⟨v58, e58, hr⟩ := hq
      refine wo_step (v := v58) (s_ld rfl e58) ?_
      have hq := bindO_inv hr
      clear hr
      obtain ⟨v59, e59, hr⟩ := hq
      have hq := asB_inv hr
      clear hr
      obtain ⟨c59, rfl, hr⟩ := hq
      refine wo_step (v := (.b c59)) (s_pure (o_nilcmp rfl e59)) ?_
      refine wo_nil ?_
      refine nx_norm ?_
      have hq := cond_inv hr
      clear hr
      rcases hq with ⟨rfl, hr⟩ | ⟨rfl, hr⟩
      · refine w_condT rfl ?_
        refine w_seq ?_
        refine w_ops ?_
        have hq := bindP_inv hr
        clear hr
        obtain ⟨vn_13, m_32, en_13, hr⟩ := hq
        refine wo_stepN (s_st rfl rfl en_13) ?_
        have hq := bindP_inv hr
        clear hr
        obtain ⟨vn_14, m_33, en_14, hr⟩ := hq
        refine wo_stepN (s_st rfl rfl en_14) ?_
        have hq := bindP_inv hr
        clear hr
        obtain ⟨vn_15, m_34, en_15, hr⟩ := hq
        refine wo_stepN (s_st rfl rfl en_15) ?_
        refine wo_nil ?_
        refine nx_norm ?_
        refine w_ret ?_
        refine nx_ret ?_
        have hq := bindO_inv hr
        clear hr
        obtain ⟨vr_3, er_4, hr⟩ := hq
        have hq := bindO_inv hr
        clear hr
        obtain ⟨vr_4, er_5, hr⟩ := hq
        have hq := bindO_inv hr
        clear hr
        obtain ⟨vr_5, er_6, hr⟩ := hq
        exact qf ret_ok (rc rfl er_4 (rc rfl er_5 (rc rfl er_6 rn))) hr
      · refine w_condF rfl ?_
        refine w_skip ?_
        refine nx_norm ?_
        refine w_seq ?_
        refine w_any ?_
        have hq := bindO_inv hr
        clear hr
        obtain ⟨v60, e60, hr⟩ := hq
        refine wa_step (v := v60) (a_ld rfl e60) ?_
        have hq := asP_inv hr
        clear hr
        obtain ⟨q61, eq61, hr⟩ := hq
        have hq := bindO_inv hr
        clear hr
        obtain ⟨v61, e61, hr⟩ := hq
        have hq := asI_inv hr
        clear hr
        obtain ⟨x61, rfl, hr⟩ := hq
        refine wa_step (v := (.i .i64 x61)) (a_ldF (Eq.trans (b := v12) rfl eq61) e61) ?_
        have hq := asP_inv hr
        clear hr
        obtain ⟨qs, eqs, hr⟩ := hq
        have hq := chk_inv hr
        clear hr
        obtain ⟨hcs, hr⟩ := hq
        refine wa_stepN (a_st (Eq.trans (b := v6) rfl eqs) rfl hcs) ?_
        have hq := asP_inv hr
        clear hr
        obtain ⟨qs_1, eqs_1, hr⟩ := hq
        refine wa_stepN (a_st (Eq.trans (b := v7) rfl eqs_1) rfl rfl) ?_
        have hq := asP_inv hr
        clear hr
        obtain ⟨qs_2, eqs_2, hr⟩ := hq
        refine wa_stepN (a_st (Eq.trans (b := v8) rfl eqs_2) rfl rfl) ?_
        have hq := bindO_inv hr
        clear hr
        obtain ⟨m_35, ew, hr⟩ := hq
        refine wa_nil ?_
        refine ⟨m_35, ew, ?_⟩
        refine nx_norm ?_
        refine w_ret ?_
        have hq := bindO_inv hr
        clear hr
        obtain ⟨vr_6, er_7, hr⟩ := hq
        have hq := bindO_inv hr
        clear hr
        obtain ⟨vr_7, er_8, hr⟩ := hq
        have hq := bindO_inv hr
        clear hr
        obtain ⟨vr_8, er_9, hr⟩ := hq
        exact qf ret_ok (rc rfl er_7 (rc rfl er_8 (rc rfl er_9 rn))) hr
    · refine bk_ret ?_
      refine nx_ret ?_
      have hq := bindO_inv hr
      clear hr
      obtain ⟨vr_9, er_10, hr⟩ := hq
      have hq := bindO_inv hr
      clear hr
      obtain ⟨vr_10, er_11, hr⟩ := hq
      have hq := bindO_inv hr
      clear hr
      obtain ⟨vr_11, er_12, hr⟩ := hq
      exact qf ret_ok (rc rfl er_10 (rc rfl er_11 (rc rfl er_12 rn))) hr
    · cases hr

/- dibber/turn.read -/
abbrev g43_J0 (x0 : Int) (x1 : Int) (v2 : AVal) (v6 : AVal) (m_1 : Mm) (o : Bool) (m1 : Mm) (t1 : Tr) : Prop :=
  match o with
  | c16 => m_1 = m1 ∧ t1.get 16 = (.b c16) ∧ t1.get 0 = (.i .i64 x0) ∧ t1.get 1 = (.i .i64 x1) ∧ t1.get 2 = v2 ∧ t1.get 6 = v6
abbrev g43_J1 (x0 : Int) (x1 : Int) (v2 : AVal) (v6 : AVal) (m_1 : Mm) (o : Bool) (m1 : Mm) (t1 : Tr) : Prop :=
  match o with
  | c20 => m_1 = m1 ∧ t1.get 20 = (.b c20) ∧ t1.get 0 = (.i .i64 x0) ∧ t1.get 1 = (.i .i64 x1) ∧ t1.get 2 = v2 ∧ t1.get 6 = v6
abbrev g43_J2 (x0 : Int) (x1 : Int) (v2 : AVal) (v6 : AVal) (m_1 : Mm) (o : Bool) (m1 : Mm) (t1 : Tr) : Prop :=
  match o with
  | c24 => m_1 = m1 ∧ t1.get 24 = (.b c24) ∧ t1.get 0 = (.i .i64 x0) ∧ t1.get 1 = (.i .i64 x1) ∧ t1.get 2 = v2 ∧ t1.get 6 = v6
abbrev g43_I3 (v6 : AVal) (v8 : AVal) (v2 : AVal) (x35 : Int) (s : Int × Mm) (m1 : Mm) (t1 : Tr) : Prop :=
  match s with
  | (x36, m_6) => m_6 = m1 ∧ t1.get 36 = (.i .i64 x36) ∧ t1.get 6 = v6 ∧ t1.get 8 = v8 ∧ t1.get 34 = v2 ∧ t1.get 35 = (.i .i64 x35)
abbrev g43_J3 (v6 : AVal) (v8 : AVal) (v2 : AVal) (x35 : Int) (o : (Mm ⊕ (Int × Mm))) (e : AExit) (m1 : Mm) (t1 : Tr) : Prop :=
  match o with
  | (.inl mo) => e = (.exit 0) ∧ mo = m1 ∧ t1.get 6 = v6 ∧ t1.get 8 = v8
  | (.inr (y7, mo)) => e = .ret ∧ mo = m1 ∧ t1.get 7 = (.i .i64 y7) ∧ t1.get 6 = v6
def g43_b3 (M : Means) (ro : List ABlk) (v6 : AVal) (v8 : AVal) (v2 : AVal) (x35 : Int) (x36 : Int) (m_6 : Mm) : Option ((Int × Mm) ⊕ ((Mm ⊕ (Int × Mm)))) :=
  forceB (ltI x36 x35) fun c37 =>
  cond c37 (
    bindO (evP .e (.ixS 4 (.c v2) (.c (.i .i64 x36)))) fun v38 =>
    bindO (ldM ro m_6 false 4 v38) fun v39 =>
    bindP (stepM ro m_6 (.al 31 [(AVal.i IntKind.i64 0), (AVal.i IntKind.i64 0), (AVal.i IntKind.i64 0), (AVal.i IntKind.i64 0)])) fun v10 m_7 =>
    bindP (stepM ro m_7 (.st 4 (.c v10) (.c v39))) fun vn_3 m_8 =>
    bindO (ldM ro m_8 false 3 v8) fun v40 =>
    bindO (ldM ro m_8 false 4 v10) fun v41 =>
    bindP (callM M.call m_8 60 [v40, v41]) fun v42 m_9 =>
    asB v42 fun c42 =>
    forceB (!c42) fun c43 =>
    cond c43 (
      bindO ((fillA [(AVal.i IntKind.i64 0), (AVal.i IntKind.i64 0), AVal.nsl] []).map AVal.agg) fun v44 =>
      bindP (stepM ro m_9 (.st 3 (.c v6) (.c v44))) fun vn_4 m_10 =>
      some (.inr (.inr (2, m_10)))) (
      forceI (wr .i64 (x36 + 1)) fun x45 =>
      some (.inl (x45, m_9)))) (
    some (.inr (.inl m_6)))
def g43 (M : Means) (ro : List ABlk) (x0 : Int) (x1 : Int) (v2 : AVal) (m0 : Mm) : Option (AVal × Heap × Nat × Nat) :=
  bindP (stepM ro m0 (.al 55 [(AVal.i IntKind.i64 0), (AVal.i IntKind.i64 0), AVal.nsl])) fun v6 m_1 =>
  forceB (ltI x0 1) fun c12 =>
  bindO (cond c12 (
    some true) (
    forceB (ltI 24 x0) fun c15 =>
    some c15)) fun c16 =>
  bindO (cond c16 (
    some true) (
    forceB (ltI x1 1) fun c19 =>
    some c19)) fun c20 =>
  bindO (cond c20 (
    some true) (
    forceB (ltI 6 x1) fun c23 =>
    some c23)) fun c24 =>
  cond c24 (
    bindO ((fillA [(AVal.i IntKind.i64 0), (AVal.i IntKind.i64 0), AVal.nsl] []).map AVal.agg) fun v25 =>
    bindP (stepM ro m_1 (.st 3 (.c v6) (.c v25))) fun vn m_2 =>
    bindO (ldM ro m_2 false 3 v6) fun vr =>
    finM m0.h.length (tupA [vr, (.i .i64 2)]) m_2) (
    bindO (evP .e (.len false (.c v2))) fun v27 =>
    asI .i64 v27 fun x27 =>
    forceB (ltI 20 x27) fun c28 =>
    cond c28 (
      bindO ((fillA [(AVal.i IntKind.i64 0), (AVal.i IntKind.i64 0), AVal.nsl] []).map AVal.agg) fun v29 =>
      bindP (stepM ro m_1 (.st 3 (.c v6) (.c v29))) fun vn_1 m_3 =>
      bindO (ldM ro m_3 false 3 v6) fun vr_1 =>
      finM m0.h.length (tupA [vr_1, (.i .i64 3)]) m_3) (
      bindO ((fillA [(AVal.i IntKind.i64 0), (AVal.i IntKind.i64 0), AVal.nsl] [((0, 1), (.i .i64 x0)), ((1, 1), (.i .i64 x1)), ((2, 1), v2)]).map AVal.agg) fun v33 =>
      bindP (stepM ro m_1 (.al 55 [(AVal.i IntKind.i64 0), (AVal.i IntKind.i64 0), AVal.nsl])) fun v8 m_4 =>
      bindP (stepM ro m_4 (.st 3 (.c v8) (.c v33))) fun vn_2 m_5 =>
      bindO (evP .e (.len false (.c v2))) fun v35 =>
      asI .i64 v35 fun x35 =>
      bindO (M.loop (S := Int × Mm) (R := (Mm ⊕ (Int × Mm))) (fun s => g43_b3 M ro v6 v8 v2 x35 s.1 s.2) (0, m_5)) fun o_3 => match o_3 with
      | (.inl m_11) =>
        bindO (ldM ro m_11 false 3 v8) fun v46 =>
        bindP (stepM ro m_11 (.st 3 (.c v6) (.c v46))) fun vn_5 m_12 =>
        bindO (ldM ro m_12 false 3 v6) fun vr_2 =>
        finM m0.h.length (tupA [vr_2, (.i .i64 0)]) m_12
      | (.inr (x7, m_13)) =>
        bindO (ldM ro m_13 false 3 v6) fun vr_3 =>
        finM m0.h.length (tupA [vr_3, (.i .i64 x7)]) m_13))

theorem g43_ok {ro : List ABlk} {O : Caller} {M : Means} (hM : M.Ok ⟨F, O⟩ ro) {x0 x1 v2 h r} (ho : O 43 [(.i .i64 x0), (.i .i64 x1), v2] h = none) (hr : g43 M ro x0 x1 v2 ⟨h, h.length, h.length⟩ = some r) : callX ⟨F, O⟩ ro 43 [(.i .i64 x0), (.i .i64 x1), v2] h = some r := by
  refine callX_of (F := ⟨F, O⟩) (fn := fn43) (g := g43 M ro x0 x1 v2) ho rfl rfl hr ?_
  clear ho
  clear hr
  intro m0 t0 ht hr
  have g0 : t0.get 0 = (.i .i64 x0) := ht 0
  have g1 : t0.get 1 = (.i .i64 x1) := ht 1
  have g2 : t0.get 2 = v2 := ht 2
  clear ht
  unfold g43 at hr
  refine w_seq ?_
  refine w_ops ?_
  have hq := bindP_inv hr
  clear hr
  obtain ⟨v6, m_1, e6, hr⟩ := hq
  refine wo_step (v := v6) (s_al e6) ?_
  refine wo_step (v := (.i .i64 0)) (s_pure (p_mv rfl)) ?_
  refine wo_nil ?_
  refine nx_norm ?_
  refine w_seq ?_
  refine w_seq ?_
  refine w_ops ?_
  refine wo_step (v := (.i .i64 x0)) (s_pure (p_mv g0)) ?_
  have hq := forceB_inv hr
  clear hr
  obtain ⟨c12, e12, hr⟩ := hq
  refine wo_step (v := (.b c12)) (s_pure (p_bin rfl rfl (b_lss.trans (cb e12)))) ?_
  refine wo_step (v := (.b c12)) (s_pure (p_mv rfl)) ?_
  have hq := bindO_inv hr
  clear hr
  obtain ⟨o, hr, hk⟩ := hq
  refine wo_join 3 (g43_J0 x0 x1 v2 v6 m_1 o) ?_ ?_
  · clear hk
    have hq := cond_inv hr
    clear hr
    rcases hq with ⟨rfl, hr⟩ | ⟨rfl, hr⟩
    · refine wo_skip (v := (.b true)) rfl rfl ?_
      refine wo_skip (v := (.b true)) rfl rfl ?_
      refine wo_step (v := (.b true)) (s_pure (p_pickT rfl rfl)) ?_
      refine wo_nil ?_
      cases hr
      exact ⟨_, _, rfl, rfl, gl rfl, gl g0, gl g1, gl g2, gl rfl⟩
    · refine wo_take (v := (.i .i64 x0)) rfl (s_pure (p_mv g0)) ?_
      have hq := forceB_inv hr
      clear hr
      obtain ⟨c15, e15, hr⟩ := hq
      refine wo_take (v := (.b c15)) rfl (s_pure (p_bin rfl rfl (b_gtr.trans (cb e15)))) ?_
      refine wo_step (v := (.b c15)) (s_pure (p_pickF rfl rfl)) ?_
      refine wo_nil ?_
      cases hr
      exact ⟨_, _, rfl, rfl, gl rfl, gl g0, gl g1, gl g2, gl rfl⟩
  · clear hr
    have hr := hk
    clear hk
    obtain ⟨c16, ho⟩ : ∃ z, z = o := ⟨_, rfl⟩
    subst ho
    rintro mm t_1 ⟨rfl, g16, g0, g1, g2, g6⟩
    refine wo_step (v := (.b c16)) (s_pure (p_mv g16)) ?_
    have hq := bindO_inv hr
    clear hr
    obtain ⟨o_1, hr, hk⟩ := hq
    refine wo_join 3 (g43_J1 x0 x1 v2 v6 m_1 o_1) ?_ ?_
    · clear hk
      have hq := cond_inv hr
      clear hr
      rcases hq with ⟨rfl, hr⟩ | ⟨rfl, hr⟩
      · refine wo_skip (v := (.b true)) rfl rfl ?_
        refine wo_skip (v := (.b true)) rfl rfl ?_
        refine wo_step (v := (.b true)) (s_pure (p_pickT rfl rfl)) ?_
        refine wo_nil ?_
        cases hr
        exact ⟨_, _, rfl, rfl, gl rfl, gl g0, gl g1, gl g2, gl g6⟩
      · refine wo_take (v := (.i .i64 x1)) rfl (s_pure (p_mv g1)) ?_
        have hq := forceB_inv hr
        clear hr
        obtain ⟨c19, e19, hr⟩ := hq
        refine wo_take (v := (.b c19)) rfl (s_pure (p_bin rfl rfl (b_lss.trans (cb e19)))) ?_
        refine wo_step (v := (.b c19)) (s_pure (p_pickF rfl rfl)) ?_
        refine wo_nil ?_
        cases hr
        exact ⟨_, _, rfl, rfl, gl rfl, gl g0, gl g1, gl g2, gl g6⟩
    · clear hr
      have hr := hk
      clear hk
      obtain ⟨c20, ho⟩ : ∃ z, z = o_1 := ⟨_, rfl⟩
      subst ho
      rintro mm_1 t_2 ⟨rfl, g20, g0, g1, g2, g6⟩
      refine wo_step (v := (.b c20)) (s_pure (p_mv g20)) ?_
      have hq := bindO_inv hr
      clear hr
      obtain ⟨o_2, hr, hk⟩ := hq
      refine wo_join 3 (g43_J2 x0 x1 v2 v6 m_1 o_2) ?_ ?_
      · clear hk
        have hq := cond_inv hr
        clear hr
        rcases hq with ⟨rfl, hr⟩ | ⟨rfl, hr⟩
        · refine wo_skip (v := (.b true)) rfl rfl ?_
          refine wo_skip (v := (.b true)) rfl rfl ?_
          refine wo_step (v := (.b true)) (s_pure (p_pickT rfl rfl)) ?_
          refine wo_nil ?_
          cases hr
          exact ⟨_, _, rfl, rfl, gl rfl, gl g0, gl g1, gl g2, gl g6⟩
        · refine wo_take (v := (.i .i64 x1)) rfl (s_pure (p_mv g1)) ?_
          have hq := forceB_inv hr
          clear hr
          obtain ⟨c23, e23, hr⟩ := hq
          refine wo_take (v := (.b c23)) rfl (s_pure (p_bin rfl rfl (b_gtr.trans (cb e23)))) ?_
          refine wo_step (v := (.b c23)) (s_pure (p_pickF rfl rfl)) ?_
          refine wo_nil ?_
          cases hr
          exact ⟨_, _, rfl, rfl, gl rfl, gl g0, gl g1, gl g2, gl g6⟩
      · clear hr
        have hr := hk
        clear hk
        obtain ⟨c24, ho⟩ : ∃ z, z = o_2 := ⟨_, rfl⟩
        subst ho
        rintro mm_2 t_3 ⟨rfl, g24, g0, g1, g2, g6⟩
        refine wo_nil ?_
        refine nx_norm ?_
        have hq := cond_inv hr
        clear hr
        rcases hq with ⟨rfl, hr⟩ | ⟨rfl, hr⟩
        · refine w_condT g24 ?_
          refine w_seq ?_
          refine w_ops ?_
          have hq := bindO_inv hr
          clear hr
          obtain ⟨v25, e25, hr⟩ := hq
          refine wo_step (v := v25) (s_pure (o_build qn e25)) ?_
          have hq := bindP_inv hr
          clear hr
          obtain ⟨vn, m_2, en, hr⟩ := hq
          refine wo_stepN (s_st g6 rfl en) ?_
          refine wo_step (v := (.i .i64 2)) (s_pure (p_mv rfl)) ?_
          refine wo_nil ?_
          refine nx_norm ?_
          refine w_ret ?_
          refine nx_ret ?_
          have hq := bindO_inv hr
          clear hr
          obtain ⟨vr, er, hr⟩ := hq
          exact qf ret_ok (rc g6 er (rt rfl rn)) hr
        · refine w_condF g24 ?_
          refine w_skip ?_
          refine nx_norm ?_
          refine w_seq ?_
          refine w_seq ?_
          refine w_ops ?_
          refine wo_step (v := v2) (s_pure (p_mv g2)) ?_
          have hq := bindO_inv hr
          clear hr
          obtain ⟨v27, e27, hr⟩ := hq
          have hq := asI_inv hr
          clear hr
          obtain ⟨x27, rfl, hr⟩ := hq
          refine wo_step (v := (.i .i64 x27)) (s_pure (o_len rfl e27)) ?_
          have hq := forceB_inv hr
          clear hr
          obtain ⟨c28, e28, hr⟩ := hq
          refine wo_step (v := (.b c28)) (s_pure (p_bin rfl rfl (b_gtr.trans (cb e28)))) ?_
          refine wo_nil ?_
          refine nx_norm ?_
          have hq := cond_inv hr
          clear hr
          rcases hq with ⟨rfl, hr⟩ | ⟨rfl, hr⟩
          · refine w_condT rfl ?_
            refine w_seq ?_
            refine w_ops ?_
            have hq := bindO_inv hr
            clear hr
            obtain ⟨v29, e29, hr⟩ := hq
            refine wo_step (v := v29) (s_pure (o_build qn e29)) ?_
            have hq := bindP_inv hr
            clear hr
            obtain ⟨vn_1, m_3, en_1, hr⟩ := hq
            refine wo_stepN (s_st g6 rfl en_1) ?_
            refine wo_step (v := (.i .i64 3)) (s_pure (p_mv rfl)) ?_
            refine wo_nil ?_
            refine nx_norm ?_
            refine w_ret ?_
            refine nx_ret ?_
            have hq := bindO_inv hr
            clear hr
            obtain ⟨vr_1, er_1, hr⟩ := hq
            exact qf ret_ok (rc g6 er_1 (rt rfl rn)) hr
          · refine w_condF rfl ?_
            refine w_skip ?_
            refine nx_norm ?_
            refine w_seq ?_
            refine w_ops ?_
            refine wo_step (v := (.i .i64 x0)) (s_pure (p_mv g0)) ?_
            refine wo_step (v := (.i .i64 x1)) (s_pure (p_mv g1)) ?_
            refine wo_step (v := v2) (s_pure (p_mv g2)) ?_
            have hq := bindO_inv hr
            clear hr
            obtain ⟨v33, e33, hr⟩ := hq
            refine wo_step (v := v33) (s_pure (o_build (qc rfl (qc rfl (qc rfl qn))) e33)) ?_
            have hq := bindP_inv hr
            clear hr
            obtain ⟨v8, m_4, e8, hr⟩ := hq
            refine wo_step (v := v8) (s_al e8) ?_
            have hq := bindP_inv hr
            clear hr
            obtain ⟨vn_2, m_5, en_2, hr⟩ := hq
            refine wo_stepN (s_st rfl rfl en_2) ?_
            refine wo_nil ?_
            refine nx_norm ?_
            refine w_seq ?_
            refine w_seq ?_
            refine w_ops ?_
            refine wo_step (v := v2) (s_pure (p_mv g2)) ?_
            have hq := bindO_inv hr
            clear hr
            obtain ⟨v35, e35, hr⟩ := hq
            have hq := asI_inv hr
            clear hr
            obtain ⟨x35, rfl, hr⟩ := hq
            refine wo_step (v := (.i .i64 x35)) (s_pure (o_len rfl e35)) ?_
            refine wo_step (v := (.i .i64 0)) (s_pure (p_mv rfl)) ?_
            refine wo_nil ?_
            refine nx_norm ?_
            refine w_block ?_
            have hq := bindO_inv hr
            clear hr
            obtain ⟨o_3, hl, hr⟩ := hq
            obtain ⟨n, hl⟩ := hM.loop _ _ _ hl
            refine jp_mono (w_loop _ (g43_I3 v6 v8 v2 x35) (g43_J3 v6 v8 v2 x35) ?_ n _ _ _ _ hl ⟨rfl, gl rfl, gl g6, gl rfl, gl rfl, gl rfl⟩) ?_
            · clear hr hl
              intro s mm_5 t_4 o hi hr
              obtain ⟨x36, m_6⟩ := s
              obtain ⟨rfl, g36, g6, g8, g34, g35⟩ := hi
              unfold g43_b3 at hr
              refine w_seq ?_
              refine w_ops ?_
              have hq := forceB_inv hr
              clear hr
              obtain ⟨c37, e37, hr⟩ := hq
              refine wo_step (v := (.b c37)) (s_pure (p_bin g36 g35 (b_lss.trans (cb e37)))) ?_
              refine wo_nil ?_
              refine nx_norm ?_
              refine w_seq ?_
              have hq := cond_inv hr
              clear hr
              rcases hq with ⟨rfl, hr⟩ | ⟨rfl, hr⟩
              · refine w_condT rfl ?_
                refine w_skip ?_
                refine nx_norm ?_
                refine w_seq ?_
                refine w_block ?_
                refine w_seq ?_
                refine w_ops ?_
                have hq := bindO_inv hr
                clear hr
                obtain ⟨v38, e38, hr⟩ := hq
                refine wo_step (v := v38) (s_pure (o_ixS g34 g36 e38)) ?_
                have hq := bindO_inv hr
                clear hr
                obtain ⟨v39, e39, hr⟩ := hq
                refine wo_step (v := v39) (s_ld rfl e39) ?_
                have hq := bindP_inv hr
                clear hr
                obtain ⟨v10, m_7, e10, hr⟩ := hq
                refine wo_step (v := v10) (s_al e10) ?_
                have hq := bindP_inv hr
                clear hr
                obtain ⟨vn_3, m_8, en_3, hr⟩ := hq
                refine wo_stepN (s_st rfl rfl en_3) ?_
                refine wo_nil ?_
                refine nx_norm ?_
                refine w_seq ?_
                refine w_ops ?_
                have hq := bindO_inv hr
                clear hr
                obtain ⟨v40, e40, hr⟩ := hq
                refine wo_step (v := v40) (s_ld g8 e40) ?_
                have hq := bindO_inv hr
                clear hr
                obtain ⟨v41, e41, hr⟩ := hq
                refine wo_step (v := v41) (s_ld rfl e41) ?_
                have hq := bindP_inv hr
                clear hr
                obtain ⟨v42, m_9, e42, hr⟩ := hq
                have hq := asB_inv hr
                clear hr
                obtain ⟨c42, rfl, hr⟩ := hq
                refine wo_step (v := (.b c42)) (s_call (mc rfl (mc rfl mn)) (callM_le hM.call e42)) ?_
                have hq := forceB_inv hr
                clear hr
                obtain ⟨c43, e43, hr⟩ := hq
                refine wo_step (v := (.b c43)) (s_pure ((p_not rfl).trans (cb e43))) ?_
                refine wo_nil ?_
                refine nx_norm ?_
                have hq := cond_inv hr
                clear hr
                rcases hq with ⟨rfl, hr⟩ | ⟨rfl, hr⟩
                · refine w_condT rfl ?_
                  refine w_seq ?_
                  refine w_ops ?_
                  have hq := bindO_inv hr
                  clear hr
                  obtain ⟨v44, e44, hr⟩ := hq
                  refine wo_step (v := v44) (s_pure (o_build qn e44)) ?_
                  have hq := bindP_inv hr
                  clear hr
                  obtain ⟨vn_4, m_10, en_4, hr⟩ := hq
                  refine wo_stepN (s_st g6 rfl en_4) ?_
                  refine wo_step (v := (.i .i64 2)) (s_pure (p_mv rfl)) ?_
                  refine wo_nil ?_
                  refine nx_norm ?_
                  refine w_ret ?_
                  refine bk_ret ?_
                  refine nx_ret ?_
                  cases hr
                  exact ⟨_, _, rfl, ne_norm_ret, rfl, rfl, gl rfl, gl g6⟩
                · refine w_condF rfl ?_
                  refine w_skip ?_
                  refine bk_norm ?_
                  refine nx_norm ?_
                  refine w_ops ?_
                  have hq := forceI_inv hr
                  clear hr
                  obtain ⟨x45, e45, hr⟩ := hq
                  refine wo_step (v := (.i .i64 x45)) (s_pure (p_bin g36 rfl (b_add.trans (ci e45)))) ?_
                  refine wo_step (v := (.i .i64 x45)) (s_pure (p_mv rfl)) ?_
                  refine wo_nil ?_
                  cases hr
                  exact ⟨_, _, rfl, rfl, rfl, gl rfl, gl g6, gl g8, gl g34, gl g35⟩
              · refine w_condF rfl ?_
                refine w_exit ?_
                refine nx_exit ?_
                cases hr
                exact ⟨_, _, rfl, ne_norm_exit, rfl, rfl, gl g6, gl g8⟩
            · rcases o_3 with o_3 | o_3
              · obtain ⟨m_11, ho⟩ : ∃ z, z = o_3 := ⟨_, rfl⟩
                subst ho
                rintro _ mm_3 t_5 ⟨rfl, rfl, g6, g8⟩
                refine bk_hit ?_
                refine nx_norm ?_
                refine w_seq ?_
                refine w_ops ?_
                have hq := bindO_inv hr
                clear hr
                obtain ⟨v46, e46, hr⟩ := hq
                refine wo_step (v := v46) (s_ld g8 e46) ?_
                have hq := bindP_inv hr
                clear hr
                obtain ⟨vn_5, m_12, en_5, hr⟩ := hq
                refine wo_stepN (s_st g6 rfl en_5) ?_
                refine wo_step (v := (.i .i64 0)) (s_pure (p_mv rfl)) ?_
                refine wo_nil ?_
                refine nx_norm ?_
                refine w_ret ?_
                have hq := bindO_inv hr
                clear hr
                obtain ⟨vr_2, er_2, hr⟩ := hq
                exact qf ret_ok (rc g6 er_2 (rt rfl rn)) hr
              · obtain ⟨x7, m_13⟩ := o_3
                rintro _ mm_4 t_6 ⟨rfl, rfl, g7, g6⟩
                refine bk_ret ?_
                refine nx_ret ?_
                have hq := bindO_inv hr
                clear hr
                obtain ⟨vr_3, er_3, hr⟩ := hq
                exact qf ret_ok (rc g6 er_3 (rt g7 rn)) hr

/- (dibber/turn.demands).plans -/

def g44 (M : Means) (ro : List ABlk) (v0 : AVal) (m0 : Mm) : Option (AVal × Heap × Nat × Nat) :=
  bindP (stepM ro m0 (.bx 55 3 (.c v0))) fun v1 m_1 =>
  bindO (some (AVal.fn 61 [] [v1])) fun v3 =>
  finM m0.h.length (tupA [v3]) m_1

theorem g44_ok {ro : List ABlk} {O : Caller} {M : Means} (hM : M.Ok ⟨F, O⟩ ro) {v0 h r} (ho : O 44 [v0] h = none) (hr : g44 M ro v0 ⟨h, h.length, h.length⟩ = some r) : callX ⟨F, O⟩ ro 44 [v0] h = some r := by
  refine callX_of (F := ⟨F, O⟩) (fn := fn44) (g := g44 M ro v0) ho rfl rfl hr ?_
  clear ho
  clear hr
  intro m0 t0 ht hr
  have g0 : t0.get 0 = v0 := ht 0
  clear ht
  unfold g44 at hr
  refine w_seq ?_
  refine w_ops ?_
  have hq := bindP_inv hr
  clear hr
  obtain ⟨v1, m_1, e1, hr⟩ := hq
  refine wo_step (v := v1) (s_bx g0 e1) ?_
  refine wo_step (v := AVal.nfn) (s_pure (p_mv rfl)) ?_
  refine wo_nil ?_
  refine nx_norm ?_
  refine w_seq ?_
  refine w_ops ?_
  have hq := bindO_inv hr
  clear hr
  obtain ⟨v3, e3, hr⟩ := hq
  refine wo_step (v := v3) (s_pure ((o_mkfn mn (mc rfl mn)).trans e3)) ?_
  refine wo_step (v := v3) (s_pure (p_mv rfl)) ?_
  refine wo_nil ?_
  refine nx_norm ?_
  refine w_ret ?_
  exact qf ret_ok (rt rfl rn) hr

/- (dibber/turn.demands).slack -/

def g48 (M : Means) (ro : List ABlk) (v0 : AVal) (v1 : AVal) (v2 : AVal) (m0 : Mm) : Option (AVal × Heap × Nat × Nat) :=
  bindP (stepM ro m0 (.bx 55 3 (.c v0))) fun v3 m_1 =>
  bindP (stepM ro m_1 (.bx 31 4 (.c v1))) fun v4 m_2 =>
  bindO (ldA ro m_2.h false 3 v3) fun v7 =>
  bindO (evP .e (.faddr 1 (.c v4))) fun v9 =>
  bindO (ldA ro m_2.h true 1 v9) fun v10 =>
  asI .i64 v10 fun x10 =>
  bindO (evP .e (.ixS 1 (.c v2) (.c (.i .i64 x10)))) fun v11 =>
  bindO (ldA ro m_2.h true 1 v11) fun v12 =>
  asI .i64 v12 fun x12 =>
  bindO (evP .e (.faddr 0 (.c v4))) fun v14 =>
  bindO (ldA ro m_2.h true 1 v14) fun v15 =>
  asI .i64 v15 fun x15 =>
  bindO (evP .e (.ixS 1 (.c v2) (.c (.i .i64 x15)))) fun v16 =>
  bindO (ldA ro m_2.h true 1 v16) fun v17 =>
  asI .i64 v17 fun x17 =>
  forceI (wr .i64 (x12 - x17)) fun x18 =>
  bindO (evP .e (.faddr 2 (.c v4))) fun v19 =>
  bindO (ldA ro m_2.h true 1 v19) fun v20 =>
  asI .i64 v20 fun x20 =>
  forceI (wr .i64 (x18 - x20)) fun x21 =>
  bindO (callN M.call m_2.h 70 [v7, (.i .i64 x21)]) fun v22 =>
  asI .i64 v22 fun x22 =>
  finM m0.h.length (tupA [(.i .i64 x22)]) m_2

theorem g48_ok {ro : List ABlk} {O : Caller} {M : Means} (hM : M.Ok ⟨F, O⟩ ro) {v0 v1 v2 h r} (ho : O 48 [v0, v1, v2] h = none) (hr : g48 M ro v0 v1 v2 ⟨h, h.length, h.length⟩ = some r) : callX ⟨F, O⟩ ro 48 [v0, v1, v2] h = some r := by
  refine callX_of (F := ⟨F, O⟩) (fn := fn48) (g := g48 M ro v0 v1 v2) ho rfl rfl hr ?_
  clear ho
  clear hr
  intro m0 t0 ht hr
  have g0 : t0.get 0 = v0 := ht 0
  have g1 : t0.get 1 = v1 := ht 1
  have g2 : t0.get 2 = v2 := ht 2
  clear ht
  unfold g48 at hr
  refine w_seq ?_
  refine w_ops ?_
  have hq := bindP_inv hr
  clear hr
  obtain ⟨v3, m_1, e3, hr⟩ := hq
  refine wo_step (v := v3) (s_bx g0 e3) ?_
  have hq := bindP_inv hr
  clear hr
  obtain ⟨v4, m_2, e4, hr⟩ := hq
  refine wo_step (v := v4) (s_bx g1 e4) ?_
  refine wo_step (v := (.i .i64 0)) (s_pure (p_mv rfl)) ?_
  refine wo_nil ?_
  refine nx_norm ?_
  refine w_seq ?_
  refine w_any ?_
  have hq := bindO_inv hr
  clear hr
  obtain ⟨v7, e7, hr⟩ := hq
  refine wa_step (v := v7) (a_ld rfl e7) ?_
  refine wa_step (v := v2) (a_pure (p_mv g2)) ?_
  have hq := bindO_inv hr
  clear hr
  obtain ⟨v9, e9, hr⟩ := hq
  refine wa_step (v := v9) (a_pure (o_faddr rfl e9)) ?_
  have hq := bindO_inv hr
  clear hr
  obtain ⟨v10, e10, hr⟩ := hq
  have hq := asI_inv hr
  clear hr
  obtain ⟨x10, rfl, hr⟩ := hq
  refine wa_step (v := (.i .i64 x10)) (a_ld rfl e10) ?_
  have hq := bindO_inv hr
  clear hr
  obtain ⟨v11, e11, hr⟩ := hq
  refine wa_step (v := v11) (a_pure (o_ixS rfl rfl e11)) ?_
  have hq := bindO_inv hr
  clear hr
  obtain ⟨v12, e12, hr⟩ := hq
  have hq := asI_inv hr
  clear hr
  obtain ⟨x12, rfl, hr⟩ := hq
  refine wa_step (v := (.i .i64 x12)) (a_ld rfl e12) ?_
  refine wa_step (v := v2) (a_pure (p_mv g2)) ?_
  have hq := bindO_inv hr
  clear hr
  obtain ⟨v14, e14, hr⟩ := hq
  refine wa_step (v := v14) (a_pure (o_faddr rfl e14)) ?_
  have hq := bindO_inv hr
  clear hr
  obtain ⟨v15, e15, hr⟩ := hq
  have hq := asI_inv hr
  clear hr
  obtain ⟨x15, rfl, hr⟩ := hq
  refine wa_step (v := (.i .i64 x15)) (a_ld rfl e15) ?_
  have hq := bindO_inv hr
  clear hr
  obtain ⟨v16, e16, hr⟩ := hq
  refine wa_step (v := v16) (a_pure (o_ixS rfl rfl e16)) ?_
  have hq := bindO_inv hr
  clear hr
  obtain ⟨v17, e17, hr⟩ := hq
  have hq := asI_inv hr
  clear hr
  obtain ⟨x17, rfl, hr⟩ := hq
  refine wa_step (v := (.i .i64 x17)) (a_ld rfl e17) ?_
  have hq := forceI_inv hr
  clear hr
  obtain ⟨x18, e18, hr⟩ := hq
  refine wa_step (v := (.i .i64 x18)) (a_pure (p_bin rfl rfl (b_sub.trans (ci e18)))) ?_
  have hq := bindO_inv hr
  clear hr
  obtain ⟨v19, e19, hr⟩ := hq
  refine wa_step (v := v19) (a_pure (o_faddr rfl e19)) ?_
  have hq := bindO_inv hr
  clear hr
  obtain ⟨v20, e20, hr⟩ := hq
  have hq := asI_inv hr
  clear hr
  obtain ⟨x20, rfl, hr⟩ := hq
  refine wa_step (v := (.i .i64 x20)) (a_ld rfl e20) ?_
  have hq := forceI_inv hr
  clear hr
  obtain ⟨x21, e21, hr⟩ := hq
  refine wa_step (v := (.i .i64 x21)) (a_pure (p_bin rfl rfl (b_sub.trans (ci e21)))) ?_
  have hq := bindO_inv hr
  clear hr
  obtain ⟨v22, e22, hr⟩ := hq
  have hq := asI_inv hr
  clear hr
  obtain ⟨x22, rfl, hr⟩ := hq
  refine wa_step (v := (.i .i64 x22)) (a_call (mc rfl (mc rfl mn)) (callN_le hM.call e22)) ?_
  refine wa_step (v := (.i .i64 x22)) (a_pure (p_mv rfl)) ?_
  refine wa_nil ?_
  refine ⟨m_2, rfl, ?_⟩
  refine nx_norm ?_
  refine w_ret ?_
  exact qf ret_ok (rt rfl rn) hr

/- slices.Clone[[]int,int] -/

def g49 (M : Means) (ro : List ABlk) (v0 : AVal) (m0 : Mm) : Option (AVal × Heap × Nat × Nat) :=
  bindO (evP .e (.nilcmp false (.c v0))) fun v4 =>
  asB v4 fun c4 =>
  cond c4 (
    finM m0.h.length (tupA [AVal.nsl]) m0) (
    bindP (stepM ro m0 (.bsl 3 1 [(AVal.i IntKind.i64 0)] 0 [])) fun v5 m_1 =>
    bindP (stepM ro m_1 (.app 3 1 8 [(AVal.i IntKind.i64 0)] (.c v5) (.c v0))) fun v7 m_2 =>
    finM m0.h.length (tupA [v7]) m_2)

theorem g49_ok {ro : List ABlk} {O : Caller} {M : Means} (hM : M.Ok ⟨F, O⟩ ro) {v0 h r} (ho : O 49 [v0] h = none) (hr : g49 M ro v0 ⟨h, h.length, h.length⟩ = some r) : callX ⟨F, O⟩ ro 49 [v0] h = some r := by
  refine callX_of (F := ⟨F, O⟩) (fn := fn49) (g := g49 M ro v0) ho rfl rfl hr ?_
  clear ho
  clear hr
  intro m0 t0 ht hr
  have g0 : t0.get 0 = v0 := ht 0
  clear ht
  unfold g49 at hr
  refine w_seq ?_
  refine w_ops ?_
  refine wo_step (v := AVal.nsl) (s_pure (p_mv rfl)) ?_
  refine wo_nil ?_
  refine nx_norm ?_
  refine w_seq ?_
  refine w_seq ?_
  refine w_ops ?_
  refine wo_step (v := v0) (s_pure (p_mv g0)) ?_
  have hq := bindO_inv hr
  clear hr
  obtain ⟨v4, e4, hr⟩ := hq
  have hq := asB_inv hr
  clear hr
  obtain ⟨c4, rfl, hr⟩ := hq
  refine wo_step (v := (.b c4)) (s_pure (o_nilcmp rfl e4)) ?_
  refine wo_nil ?_
  refine nx_norm ?_
  have hq := cond_inv hr
  clear hr
  rcases hq with ⟨rfl, hr⟩ | ⟨rfl, hr⟩
  · refine w_condT rfl ?_
    refine w_seq ?_
    refine w_ops ?_
    refine wo_step (v := AVal.nsl) (s_pure (p_mv rfl)) ?_
    refine wo_nil ?_
    refine nx_norm ?_
    refine w_ret ?_
    refine nx_ret ?_
    exact qf ret_ok (rt rfl rn) hr
  · refine w_condF rfl ?_
    refine w_skip ?_
    refine nx_norm ?_
    refine w_seq ?_
    refine w_ops ?_
    have hq := bindP_inv hr
    clear hr
    obtain ⟨v5, m_1, e5, hr⟩ := hq
    refine wo_step (v := v5) (s_bsl qn e5) ?_
    refine wo_step (v := v0) (s_pure (p_mv g0)) ?_
    have hq := bindP_inv hr
    clear hr
    obtain ⟨v7, m_2, e7, hr⟩ := hq
    refine wo_step (v := v7) (s_app rfl rfl e7) ?_
    refine wo_step (v := v7) (s_pure (p_mv rfl)) ?_
    refine wo_nil ?_
    refine nx_norm ?_
    refine w_ret ?_
    exact qf ret_ok (rt rfl rn) hr

/- (dibber/turn.demands).allows -/
abbrev g60_J0 (v2 : AVal) (v3 : AVal) (m_2 : Mm) (o : Bool) (m1 : Mm) (t1 : Tr) : Prop :=
  match o with
  | c17 => m_2 = m1 ∧ t1.get 17 = (.b c17) ∧ t1.get 2 = v2 ∧ t1.get 3 = v3
abbrev g60_J1 (v2 : AVal) (v3 : AVal) (m_2 : Mm) (o : Bool) (m1 : Mm) (t1 : Tr) : Prop :=
  match o with
  | c27 => m_2 = m1 ∧ t1.get 27 = (.b c27) ∧ t1.get 2 = v2 ∧ t1.get 3 = v3
abbrev g60_J2 (v2 : AVal) (v3 : AVal) (m_2 : Mm) (o : Bool) (m1 : Mm) (t1 : Tr) : Prop :=
  match o with
  | c35 => m_2 = m1 ∧ t1.get 35 = (.b c35) ∧ t1.get 2 = v2 ∧ t1.get 3 = v3
abbrev g60_J3 (m_2 : Mm) (o : Bool) (m1 : Mm) (t1 : Tr) : Prop :=
  match o with
  | c51 => m_2 = m1 ∧ t1.get 51 = (.b c51)
def g60 (M : Means) (ro : List ABlk) (v0 : AVal) (v1 : AVal) (m0 : Mm) : Option (AVal × Heap × Nat × Nat) :=
  bindP (stepM ro m0 (.bx 55 3 (.c v0))) fun v2 m_1 =>
  bindP (stepM ro m_1 (.bx 31 4 (.c v1))) fun v3 m_2 =>
  bindO (evP .e (.faddr 0 (.c v3))) fun v5 =>
  bindO (ldM ro m_2 true 1 v5) fun v6 =>
  asI .i64 v6 fun x6 =>
  bindO (evP .e (.faddr 1 (.c v3))) fun v7 =>
  bindO (ldM ro m_2 true 1 v7) fun v8 =>
  asI .i64 v8 fun x8 =>
  forceB (eqI x6 x8) fun c9 =>
  bindO (cond c9 (
    some true) (
    bindO (evP .e (.faddr 0 (.c v3))) fun v11 =>
    bindO (ldM ro m_2 true 1 v11) fun v12 =>
    asI .i64 v12 fun x12 =>
    bindO (evP .e (.faddr 1 (.c v3))) fun v13 =>
    bindO (ldM ro m_2 true 1 v13) fun v14 =>
    asI .i64 v14 fun x14 =>
    forceI (mxV false x12 x14) fun x15 =>
    forceB (ltI x15 0) fun c16 =>
    some c16)) fun c17 =>
  bindO (cond c17 (
    some true) (
    bindO (evP .e (.faddr 0 (.c v3))) fun v19 =>
    bindO (ldM ro m_2 true 1 v19) fun v20 =>
    asI .i64 v20 fun x20 =>
    bindO (evP .e (.faddr 1 (.c v3))) fun v21 =>
    bindO (ldM ro m_2 true 1 v21) fun v22 =>
    asI .i64 v22 fun x22 =>
    forceI (mxV true x20 x22) fun x23 =>
    bindO (evP .e (.faddr 1 (.c v2))) fun v24 =>
    bindO (ldM ro m_2 true 1 v24) fun v25 =>
    asI .i64 v25 fun x25 =>
    forceB (!ltI x23 x25) fun c26 =>
    some c26)) fun c27 =>
  cond c27 (
    finM m0.h.length (tupA [(.b false)]) m_2) (
    bindO (evP .e (.faddr 2 (.c v3))) fun v28 =>
    bindO (ldM ro m_2 true 1 v28) fun v29 =>
    asI .i64 v29 fun x29 =>
    forceB (ltI x29 (-600)) fun c30 =>
    bindO (cond c30 (
      some true) (
      bindO (evP .e (.faddr 2 (.c v3))) fun v32 =>
      bindO (ldM ro m_2 true 1 v32) fun v33 =>
      asI .i64 v33 fun x33 =>
      forceB (ltI 600 x33) fun c34 =>
      some c34)) fun c35 =>
    cond c35 (
      finM m0.h.length (tupA [(.b false)]) m_2) (
      bindO (evP .e (.faddr 3 (.c v3))) fun v36 =>
      bindO (ldM ro m_2 true 1 v36) fun v37 =>
      asI .i64 v37 fun x37 =>
      bindO (evP .e (.faddr 2 (.c v3))) fun v38 =>
      bindO (ldM ro m_2 true 1 v38) fun v39 =>
      asI .i64 v39 fun x39 =>
      forceB (!ltI x37 x39) fun c40 =>
      bindO (cond c40 (
        bindO (evP .e (.faddr 3 (.c v3))) fun v42 =>
        bindO (ldM ro m_2 true 1 v42) fun v43 =>
        asI .i64 v43 fun x43 =>
        bindO (evP .e (.faddr 2 (.c v3))) fun v44 =>
        bindO (ldM ro m_2 true 1 v44) fun v45 =>
        asI .i64 v45 fun x45 =>
        bindO (evP .e (.faddr 0 (.c v2))) fun v46 =>
        bindO (ldM ro m_2 true 1 v46) fun v47 =>
        asI .i64 v47 fun x47 =>
        forceI (wr .i64 (x45 + x47)) fun x48 =>
        forceI (wr .i64 (x48 - 1)) fun x49 =>
        forceB (!ltI x49 x43) fun c50 =>
        some c50) (
        some false)) fun c51 =>
      finM m0.h.length (tupA [(.b c51)]) m_2))

theorem g60_ok {ro : List ABlk} {O : Caller} {M : Means} (hM : M.Ok ⟨F, O⟩ ro) {v0 v1 h r} (ho : O 60 [v0, v1] h = none) (hr : g60 M ro v0 v1 ⟨h, h.length, h.length⟩ = some r) : callX ⟨F, O⟩ ro 60 [v0, v1] h = some r := by
  refine callX_of (F := ⟨F, O⟩) (fn := fn60) (g := g60 M ro v0 v1) ho rfl rfl hr ?_
  clear ho
  clear hr
  intro m0 t0 ht hr
  have g0 : t0.get 0 = v0 := ht 0
  have g1 : t0.get 1 = v1 := ht 1
  clear ht
  unfold g60 at hr
  refine w_seq ?_
  refine w_ops ?_
  have hq := bindP_inv hr
  clear hr
  obtain ⟨v2, m_1, e2, hr⟩ := hq
  refine wo_step (v := v2) (s_bx g0 e2) ?_
  have hq := bindP_inv hr
  clear hr
  obtain ⟨v3, m_2, e3, hr⟩ := hq
  refine wo_step (v := v3) (s_bx g1 e3) ?_
  refine wo_step (v := (.b false)) (s_pure (p_mv rfl)) ?_
  refine wo_nil ?_
  refine nx_norm ?_
  refine w_seq ?_
  refine w_seq ?_
  refine w_ops ?_
  have hq := bindO_inv hr
  clear hr
  obtain ⟨v5, e5, hr⟩ := hq
  refine wo_step (v := v5) (s_pure (o_faddr rfl e5)) ?_
  have hq := bindO_inv hr
  clear hr
  obtain ⟨v6, e6, hr⟩ := hq
  have hq := asI_inv hr
  clear hr
  obtain ⟨x6, rfl, hr⟩ := hq
  refine wo_step (v := (.i .i64 x6)) (s_ld rfl e6) ?_
  have hq := bindO_inv hr
  clear hr
  obtain ⟨v7, e7, hr⟩ := hq
  refine wo_step (v := v7) (s_pure (o_faddr rfl e7)) ?_
  have hq := bindO_inv hr
  clear hr
  obtain ⟨v8, e8, hr⟩ := hq
  have hq := asI_inv hr
  clear hr
  obtain ⟨x8, rfl, hr⟩ := hq
  refine wo_step (v := (.i .i64 x8)) (s_ld rfl e8) ?_
  have hq := forceB_inv hr
  clear hr
  obtain ⟨c9, e9, hr⟩ := hq
  refine wo_step (v := (.b c9)) (s_pure (p_bin rfl rfl (b_eql.trans (cb e9)))) ?_
  refine wo_step (v := (.b c9)) (s_pure (p_mv rfl)) ?_
  have hq := bindO_inv hr
  clear hr
  obtain ⟨o, hr, hk⟩ := hq
  refine wo_join 7 (g60_J0 v2 v3 m_2 o) ?_ ?_
  · clear hk
    have hq := cond_inv hr
    clear hr
    rcases hq with ⟨rfl, hr⟩ | ⟨rfl, hr⟩
    · refine wo_skip (v := (.b true)) rfl rfl ?_
      refine wo_skip (v := (.b true)) rfl rfl ?_
      refine wo_skip (v := (.b true)) rfl rfl ?_
      refine wo_skip (v := (.b true)) rfl rfl ?_
      refine wo_skip (v := (.b true)) rfl rfl ?_
      refine wo_skip (v := (.b true)) rfl rfl ?_
      refine wo_step (v := (.b true)) (s_pure (p_pickT rfl rfl)) ?_
      refine wo_nil ?_
      cases hr
      exact ⟨_, _, rfl, rfl, gl rfl, gl rfl, gl rfl⟩
    · have hq := bindO_inv hr
      clear hr
      obtain ⟨v11, e11, hr⟩ := hq
      refine wo_take (v := v11) rfl (s_pure (o_faddr rfl e11)) ?_
      have hq := bindO_inv hr
      clear hr
      obtain ⟨v12, e12, hr⟩ := hq
      have hq := asI_inv hr
      clear hr
      obtain ⟨x12, rfl, hr⟩ := hq
      refine wo_take (v := (.i .i64 x12)) rfl (s_ld rfl e12) ?_
      have hq := bindO_inv hr
      clear hr
      obtain ⟨v13, e13, hr⟩ := hq
      refine wo_take (v := v13) rfl (s_pure (o_faddr rfl e13)) ?_
      have hq := bindO_inv hr
      clear hr
      obtain ⟨v14, e14, hr⟩ := hq
      have hq := asI_inv hr
      clear hr
      obtain ⟨x14, rfl, hr⟩ := hq
      refine wo_take (v := (.i .i64 x14)) rfl (s_ld rfl e14) ?_
      have hq := forceI_inv hr
      clear hr
      obtain ⟨x15, e15, hr⟩ := hq
      refine wo_take (v := (.i .i64 x15)) rfl (s_pure ((p_mx rfl rfl).trans (ci e15))) ?_
      have hq := forceB_inv hr
      clear hr
      obtain ⟨c16, e16, hr⟩ := hq
      refine wo_take (v := (.b c16)) rfl (s_pure (p_bin rfl rfl (b_lss.trans (cb e16)))) ?_
      refine wo_step (v := (.b c16)) (s_pure (p_pickF rfl rfl)) ?_
      refine wo_nil ?_
      cases hr
      exact ⟨_, _, rfl, rfl, gl rfl, gl rfl, gl rfl⟩
  · clear hr
    have hr := hk
    clear hk
    obtain ⟨c17, ho⟩ : ∃ z, z = o := ⟨_, rfl⟩
    subst ho
    rintro mm t_1 ⟨rfl, g17, g2, g3⟩
    refine wo_step (v := (.b c17)) (s_pure (p_mv g17)) ?_
    have hq := bindO_inv hr
    clear hr
    obtain ⟨o_1, hr, hk⟩ := hq
    refine wo_join 9 (g60_J1 v2 v3 m_2 o_1) ?_ ?_
    · clear hk
      have hq := cond_inv hr
      clear hr
      rcases hq with ⟨rfl, hr⟩ | ⟨rfl, hr⟩
      · refine wo_skip (v := (.b true)) rfl rfl ?_
        refine wo_skip (v := (.b true)) rfl rfl ?_
        refine wo_skip (v := (.b true)) rfl rfl ?_
        refine wo_skip (v := (.b true)) rfl rfl ?_
        refine wo_skip (v := (.b true)) rfl rfl ?_
        refine wo_skip (v := (.b true)) rfl rfl ?_
        refine wo_skip (v := (.b true)) rfl rfl ?_
        refine wo_skip (v := (.b true)) rfl rfl ?_
        refine wo_step (v := (.b true)) (s_pure (p_pickT rfl rfl)) ?_
        refine wo_nil ?_
        cases hr
        exact ⟨_, _, rfl, rfl, gl rfl, gl g2, gl g3⟩
      · have hq := bindO_inv hr
        clear hr
        obtain ⟨v19, e19, hr⟩ := hq
        refine wo_take (v := v19) rfl (s_pure (o_faddr g3 e19)) ?_
        have hq := bindO_inv hr
        clear hr
        obtain ⟨v20, e20, hr⟩ := hq
        have hq := asI_inv hr
        clear hr
        obtain ⟨x20, rfl, hr⟩ := hq
        refine wo_take (v := (.i .i64 x20)) rfl (s_ld rfl e20) ?_
        have hq := bindO_inv hr
        clear hr
        obtain ⟨v21, e21, hr⟩ := hq
        refine wo_take (v := v21) rfl (s_pure (o_faddr g3 e21)) ?_
        have hq := bindO_inv hr
        clear hr
        obtain ⟨v22, e22, hr⟩ := hq
        have hq := asI_inv hr
        clear hr
        obtain ⟨x22, rfl, hr⟩ := hq
        refine wo_take (v := (.i .i64 x22)) rfl (s_ld rfl e22) ?_
        have hq := forceI_inv hr
        clear hr
        obtain ⟨x23, e23, hr⟩ := hq
        refine wo_take (v := (.i .i64 x23)) rfl (s_pure ((p_mx rfl rfl).trans (ci e23))) ?_
        have hq := bindO_inv hr
        clear hr
        obtain ⟨v24, e24, hr⟩ := hq
        refine wo_take (v := v24) rfl (s_pure (o_faddr g2 e24)) ?_
        have hq := bindO_inv hr
        clear hr
        obtain ⟨v25, e25, hr⟩ := hq
        have hq := asI_inv hr
        clear hr
        obtain ⟨x25, rfl, hr⟩ := hq
        refine wo_take (v := (.i .i64 x25)) rfl (s_ld rfl e25) ?_
        have hq := forceB_inv hr
        clear hr
        obtain ⟨c26, e26, hr⟩ := hq
        refine wo_take (v := (.b c26)) rfl (s_pure (p_bin rfl rfl (b_geq.trans (cb e26)))) ?_
        refine wo_step (v := (.b c26)) (s_pure (p_pickF rfl rfl)) ?_
        refine wo_nil ?_
        cases hr
        exact ⟨_, _, rfl, rfl, gl rfl, gl g2, gl g3⟩
    · clear hr
      have hr := hk
      clear hk
      obtain ⟨c27, ho⟩ : ∃ z, z = o_1 := ⟨_, rfl⟩
      subst ho
      rintro mm_1 t_2 ⟨rfl, g27, g2, g3⟩
      refine wo_nil ?_
      refine nx_norm ?_
      have hq := cond_inv hr
      clear hr
      rcases hq with ⟨rfl, hr⟩ | ⟨rfl, hr⟩
      · refine w_condT g27 ?_
        refine w_seq ?_
        refine w_ops ?_
        refine wo_step (v := (.b false)) (s_pure (p_mv rfl)) ?_
        refine wo_nil ?_
        refine nx_norm ?_
        refine w_ret ?_
        refine nx_ret ?_
        exact qf ret_ok (rt rfl rn) hr
      · refine w_condF g27 ?_
        refine w_skip ?_
        refine nx_norm ?_
        refine w_seq ?_
        refine w_seq ?_
        refine w_ops ?_
        have hq := bindO_inv hr
        clear hr
        obtain ⟨v28, e28, hr⟩ := hq
        refine wo_step (v := v28) (s_pure (o_faddr g3 e28)) ?_
        have hq := bindO_inv hr
        clear hr
        obtain ⟨v29, e29, hr⟩ := hq
        have hq := asI_inv hr
        clear hr
        obtain ⟨x29, rfl, hr⟩ := hq
        refine wo_step (v := (.i .i64 x29)) (s_ld rfl e29) ?_
        have hq := forceB_inv hr
        clear hr
        obtain ⟨c30, e30, hr⟩ := hq
        refine wo_step (v := (.b c30)) (s_pure (p_bin rfl rfl (b_lss.trans (cb e30)))) ?_
        refine wo_step (v := (.b c30)) (s_pure (p_mv rfl)) ?_
        have hq := bindO_inv hr
        clear hr
        obtain ⟨o_2, hr, hk⟩ := hq
        refine wo_join 4 (g60_J2 v2 v3 m_2 o_2) ?_ ?_
        · clear hk
          have hq := cond_inv hr
          clear hr
          rcases hq with ⟨rfl, hr⟩ | ⟨rfl, hr⟩
          · refine wo_skip (v := (.b true)) rfl rfl ?_
            refine wo_skip (v := (.b true)) rfl rfl ?_
            refine wo_skip (v := (.b true)) rfl rfl ?_
            refine wo_step (v := (.b true)) (s_pure (p_pickT rfl rfl)) ?_
            refine wo_nil ?_
            cases hr
            exact ⟨_, _, rfl, rfl, gl rfl, gl g2, gl g3⟩
          · have hq := bindO_inv hr
            clear hr
            obtain ⟨v32, e32, hr⟩ := hq
            refine wo_take (v := v32) rfl (s_pure (o_faddr g3 e32)) ?_
            have hq := bindO_inv hr
            clear hr
            obtain ⟨v33, e33, hr⟩ := hq
            have hq := asI_inv hr
            clear hr
            obtain ⟨x33, rfl, hr⟩ := hq
            refine wo_take (v := (.i .i64 x33)) rfl (s_ld rfl e33) ?_
            have hq := forceB_inv hr
            clear hr
            obtain ⟨c34, e34, hr⟩ := hq
            refine wo_take (v := (.b c34)) rfl (s_pure (p_bin rfl rfl (b_gtr.trans (cb e34)))) ?_
            refine wo_step (v := (.b c34)) (s_pure (p_pickF rfl rfl)) ?_
            refine wo_nil ?_
            cases hr
            exact ⟨_, _, rfl, rfl, gl rfl, gl g2, gl g3⟩
        · clear hr
          have hr := hk
          clear hk
          obtain ⟨c35, ho⟩ : ∃ z, z = o_2 := ⟨_, rfl⟩
          subst ho
          rintro mm_2 t_3 ⟨rfl, g35, g2, g3⟩
          refine wo_nil ?_
          refine nx_norm ?_
          have hq := cond_inv hr
          clear hr
          rcases hq with ⟨rfl, hr⟩ | ⟨rfl, hr⟩
          · refine w_condT g35 ?_
            refine w_seq ?_
            refine w_ops ?_
            refine wo_step (v := (.b false)) (s_pure (p_mv rfl)) ?_
            refine wo_nil ?_
            refine nx_norm ?_
            refine w_ret ?_
            refine nx_ret ?_
            exact qf ret_ok (rt rfl rn) hr
          · refine w_condF g35 ?_
            refine w_skip ?_
            refine nx_norm ?_
            refine w_seq ?_
            refine w_ops ?_
            have hq := bindO_inv hr
            clear hr
            obtain ⟨v36, e36, hr⟩ := hq
            refine wo_step (v := v36) (s_pure (o_faddr g3 e36)) ?_
            have hq := bindO_inv hr
            clear hr
            obtain ⟨v37, e37, hr⟩ := hq
            have hq := asI_inv hr
            clear hr
            obtain ⟨x37, rfl, hr⟩ := hq
            refine wo_step (v := (.i .i64 x37)) (s_ld rfl e37) ?_
            have hq := bindO_inv hr
            clear hr
            obtain ⟨v38, e38, hr⟩ := hq
            refine wo_step (v := v38) (s_pure (o_faddr g3 e38)) ?_
            have hq := bindO_inv hr
            clear hr
            obtain ⟨v39, e39, hr⟩ := hq
            have hq := asI_inv hr
            clear hr
            obtain ⟨x39, rfl, hr⟩ := hq
            refine wo_step (v := (.i .i64 x39)) (s_ld rfl e39) ?_
            have hq := forceB_inv hr
            clear hr
            obtain ⟨c40, e40, hr⟩ := hq
            refine wo_step (v := (.b c40)) (s_pure (p_bin rfl rfl (b_geq.trans (cb e40)))) ?_
            refine wo_step (v := (.b c40)) (s_pure (p_mv rfl)) ?_
            have hq := bindO_inv hr
            clear hr
            obtain ⟨o_3, hr, hk⟩ := hq
            refine wo_join 10 (g60_J3 m_2 o_3) ?_ ?_
            · clear hk
              have hq := cond_inv hr
              clear hr
              rcases hq with ⟨rfl, hr⟩ | ⟨rfl, hr⟩
              · have hq := bindO_inv hr
                clear hr
                obtain ⟨v42, e42, hr⟩ := hq
                refine wo_take (v := v42) rfl (s_pure (o_faddr g3 e42)) ?_
                have hq := bindO_inv hr
                clear hr
                obtain ⟨v43, e43, hr⟩ := hq
                have hq := asI_inv hr
                clear hr
                obtain ⟨x43, rfl, hr⟩ := hq
                refine wo_take (v := (.i .i64 x43)) rfl (s_ld rfl e43) ?_
                have hq := bindO_inv hr
                clear hr
                obtain ⟨v44, e44, hr⟩ := hq
                refine wo_take (v := v44) rfl (s_pure (o_faddr g3 e44)) ?_
                have hq := bindO_inv hr
                clear hr
                obtain ⟨v45, e45, hr⟩ := hq
                have hq := asI_inv hr
                clear hr
                obtain ⟨x45, rfl, hr⟩ := hq
                refine wo_take (v := (.i .i64 x45)) rfl (s_ld rfl e45) ?_
                have hq := bindO_inv hr
                clear hr
                obtain ⟨v46, e46, hr⟩ := hq
                refine wo_take (v := v46) rfl (s_pure (o_faddr g2 e46)) ?_
                have hq := bindO_inv hr
                clear hr
                obtain ⟨v47, e47, hr⟩ := hq
                have hq := asI_inv hr
                clear hr
                obtain ⟨x47, rfl, hr⟩ := hq
                refine wo_take (v := (.i .i64 x47)) rfl (s_ld rfl e47) ?_
                have hq := forceI_inv hr
                clear hr
                obtain ⟨x48, e48, hr⟩ := hq
                refine wo_take (v := (.i .i64 x48)) rfl (s_pure (p_bin rfl rfl (b_add.trans (ci e48)))) ?_
                have hq := forceI_inv hr
                clear hr
                obtain ⟨x49, e49, hr⟩ := hq
                refine wo_take (v := (.i .i64 x49)) rfl (s_pure (p_bin rfl rfl (b_sub.trans (ci e49)))) ?_
                have hq := forceB_inv hr
                clear hr
                obtain ⟨c50, e50, hr⟩ := hq
                refine wo_take (v := (.b c50)) rfl (s_pure (p_bin rfl rfl (b_leq.trans (cb e50)))) ?_
                refine wo_step (v := (.b c50)) (s_pure (p_pickT rfl rfl)) ?_
                refine wo_nil ?_
                cases hr
                exact ⟨_, _, rfl, rfl, gl rfl⟩
              · refine wo_skip (v := (.b false)) rfl rfl ?_
                refine wo_skip (v := (.b false)) rfl rfl ?_
                refine wo_skip (v := (.b false)) rfl rfl ?_
                refine wo_skip (v := (.b false)) rfl rfl ?_
                refine wo_skip (v := (.b false)) rfl rfl ?_
                refine wo_skip (v := (.b false)) rfl rfl ?_
                refine wo_skip (v := (.b false)) rfl rfl ?_
                refine wo_skip (v := (.b false)) rfl rfl ?_
                refine wo_skip (v := (.b false)) rfl rfl ?_
                refine wo_step (v := (.b false)) (s_pure (p_pickF rfl rfl)) ?_
                refine wo_nil ?_
                cases hr
                exact ⟨_, _, rfl, rfl, gl rfl⟩
            · clear hr
              have hr := hk
              clear hk
              obtain ⟨c51, ho⟩ : ∃ z, z = o_3 := ⟨_, rfl⟩
              subst ho
              rintro mm_3 t_4 ⟨rfl, g51⟩
              refine wo_step (v := (.b c51)) (s_pure (p_mv g51)) ?_
              refine wo_nil ?_
              refine nx_norm ?_
              refine w_ret ?_
              exact qf ret_ok (rt rfl rn) hr

/- (dibber/turn.demands).plans-1 -/
abbrev g61_I0 (v0 : AVal) (v1 : AVal) (v3 : AVal) (v11 : AVal) (v14 : AVal) (s : Int × Mm) (m1 : Mm) (t1 : Tr) : Prop :=
  match s with
  | (x6, m_7) => m_7 = m1 ∧ t1.get 6 = (.i .i64 x6) ∧ t1.get 0 = v0 ∧ t1.get 1 = v1 ∧ t1.get 3 = v3 ∧ t1.get 4 = v11 ∧ t1.get 5 = v14
abbrev g61_J0 (v0 : AVal) (v1 : AVal) (v3 : AVal) (v11 : AVal) (v14 : AVal) (o : (Mm ⊕ Mm)) (e : AExit) (m1 : Mm) (t1 : Tr) : Prop :=
  match o with
  | (.inl mo) => e = (.exit 0) ∧ mo = m1
  | (.inr mo) => e = .ret ∧ mo = m1
abbrev g61_J1 (v0 : AVal) (v1 : AVal) (v3 : AVal) (v11 : AVal) (v14 : AVal) (o : ((Int × Mm) ⊕ Mm)) (e : AExit) (m1 : Mm) (t1 : Tr) : Prop :=
  match o with
  | (.inl (y6, mo)) => e = .norm ∧ mo = m1 ∧ t1.get 6 = (.i .i64 y6) ∧ t1.get 0 = v0 ∧ t1.get 1 = v1 ∧ t1.get 3 = v3 ∧ t1.get 4 = v11 ∧ t1.get 5 = v14
  | (.inr mo) => e = .ret ∧ mo = m1
abbrev g61_I2 (v0 : AVal) (v1 : AVal) (v3 : AVal) (v11 : AVal) (v14 : AVal) (s : Int × Mm) (m1 : Mm) (t1 : Tr) : Prop :=
  match s with
  | (x6_1, m_8) => m_8 = m1 ∧ t1.get 6 = (.i .i64 x6_1) ∧ t1.get 0 = v0 ∧ t1.get 1 = v1 ∧ t1.get 3 = v3 ∧ t1.get 4 = v11 ∧ t1.get 5 = v14
abbrev g61_J2 (v0 : AVal) (v1 : AVal) (v3 : AVal) (v11 : AVal) (v14 : AVal) (o : ((Int × Mm) ⊕ ((Int × Mm) ⊕ Mm))) (e : AExit) (m1 : Mm) (t1 : Tr) : Prop :=
  match o with
  | (.inl (y6, mo)) => e = (.exit 1) ∧ mo = m1 ∧ t1.get 6 = (.i .i64 y6) ∧ t1.get 0 = v0 ∧ t1.get 1 = v1 ∧ t1.get 3 = v3 ∧ t1.get 4 = v11 ∧ t1.get 5 = v14
  | (.inr (.inl (y6, mo))) => e = (.exit 2) ∧ mo = m1 ∧ t1.get 6 = (.i .i64 y6) ∧ t1.get 0 = v0 ∧ t1.get 1 = v1 ∧ t1.get 3 = v3 ∧ t1.get 4 = v11 ∧ t1.get 5 = v14
  | (.inr (.inr mo)) => e = .ret ∧ mo = m1
def g61_b2 (M : Means) (ro : List ABlk) (v0 : AVal) (v1 : AVal) (v3 : AVal) (v11 : AVal) (v14 : AVal) (x6_1 : Int) (m_8 : Mm) : Option ((Int × Mm) ⊕ (((Int × Mm) ⊕ ((Int × Mm) ⊕ Mm)))) :=
  bindO (evP .e (.ixS 1 (.c v14) (.c (.i .i64 x6_1)))) fun v21 =>
  bindO (ldM ro m_8 true 1 v21) fun v22 =>
  asI .u32 v22 fun x22 =>
  forceB (!eqI x22 0) fun c23 =>
  cond c23 (
    bindO (evP .e (.ixS 1 (.c v14) (.c (.i .i64 x6_1)))) fun v28 =>
    bindO (ldM ro m_8 true 1 v28) fun v29 =>
    asI .u32 v29 fun x29 =>
    bindP (callM M.call m_8 63 [(.i .u32 x29)]) fun v30 m_9 =>
    asI .i64 v30 fun x30 =>
    bindO (evP .e (.ixS 1 (.c v11) (.c (.i .i64 x6_1)))) fun v31 =>
    bindP (stepM ro m_9 (.st 1 (.c v31) (.c (.i .i64 x30)))) fun vn_2 m_10 =>
    bindO (evP .e (.ixS 1 (.c v14) (.c (.i .i64 x6_1)))) fun v36 =>
    bindO (ldM ro m_10 true 1 v36) fun v37 =>
    asI .u32 v37 fun x37 =>
    bindP (callM M.call m_10 64 [(.i .u32 x37)]) fun v38 m_11 =>
    asI .u32 v38 fun x38 =>
    bindO (evP .e (.ixS 1 (.c v14) (.c (.i .i64 x6_1)))) fun v39 =>
    bindP (stepM ro m_11 (.st 1 (.c v39) (.c (.i .u32 x38)))) fun vn_3 m_12 =>
    forceI (wr .i64 (x6_1 + 1)) fun x41 =>
    bindO (evP .e (.faddr 1 (.c v1))) fun v42 =>
    bindO (ldM ro m_12 true 1 v42) fun v43 =>
    asI .i64 v43 fun x43 =>
    forceB (ltI x41 x43) fun c44 =>
    cond c44 (
      forceI (wr .i64 (x6_1 + 1)) fun x46 =>
      bindO (ldA ro m_12.h false 3 v1) fun v49 =>
      bindO (ldA ro m_12.h false 36 v3) fun v50 =>
      bindO (evP .e (.slS 1 (.c v11) none (some (.c (.i .i64 x46))) none)) fun v53 =>
      bindO (callN M.call m_12.h 65 [v49, v50, v53]) fun v54 =>
      asI .u32 v54 fun x54 =>
      bindO (evP .e (.ixS 1 (.c v14) (.c (.i .i64 x46)))) fun v55 =>
      asP v55 fun qs =>
      bindO (writesM ro [] [(qs, AVal.cells (.i .u32 x54))] ⟨m_12.h, m_12.lw, m_12.lp⟩) fun m_13 =>
      some (.inr (.inl (x46, m_13)))) (
      bindP (callyM M.call M.round m_12 v0 [v11]) fun v58 m_14 =>
      asB v58 fun c58 =>
      forceB (!c58) fun c59 =>
      cond c59 (
        some (.inr (.inr (.inr m_14)))) (
        some (.inl (x6_1, m_14))))) (
    some (.inr (.inr (.inl (x6_1, m_8)))))
def g61_b0 (M : Means) (ro : List ABlk) (v0 : AVal) (v1 : AVal) (v3 : AVal) (v11 : AVal) (v14 : AVal) (x6 : Int) (m_7 : Mm) : Option ((Int × Mm) ⊕ ((Mm ⊕ Mm))) :=
  forceB (!ltI x6 0) fun c18 =>
  cond c18 (
    bindO (α := ((Int × Mm) ⊕ Mm)) (
      bindO (M.loop (S := Int × Mm) (R := ((Int × Mm) ⊕ ((Int × Mm) ⊕ Mm))) (fun s => g61_b2 M ro v0 v1 v3 v11 v14 s.1 s.2) (x6, m_7)) fun o_1 => match o_1 with
      | (.inl (x6_2, m_15)) =>
        some (.inl (x6_2, m_15))
      | (.inr (.inl (x6_3, m_16))) =>
        forceI (wr .i64 (x6_3 - 1)) fun x61 =>
        some (.inl (x61, m_16))
      | (.inr (.inr m_17)) =>
        some (.inr m_17)) fun o => match o with
    | (.inl (x6_4, m_18)) =>
      some (.inl (x6_4, m_18))
    | (.inr m_19) =>
      some (.inr (.inr m_19))) (
    some (.inr (.inl m_7)))
def g61 (M : Means) (ro : List ABlk) (v0 : AVal) (v1 : AVal) (m0 : Mm) : Option (AVal × Heap × Nat × Nat) :=
  bindO (ldM ro m0 false 3 v1) fun v7 =>
  bindP (callM M.call m0 62 [v7]) fun v8 m_1 =>
  bindP (stepM ro m_1 (.al 84 [(AVal.i IntKind.u32 0), (AVal.i IntKind.u32 0), (AVal.i IntKind.u32 0), (AVal.i IntKind.u32 0), (AVal.i IntKind.u32 0), (AVal.i IntKind.u32 0), (AVal.i IntKind.u32 0), (AVal.i IntKind.u32 0), (AVal.i IntKind.u32 0), (AVal.i IntKind.u32 0), (AVal.i IntKind.u32 0), (AVal.i IntKind.u32 0), (AVal.i IntKind.u32 0), (AVal.i IntKind.u32 0), (AVal.i IntKind.u32 0), (AVal.i IntKind.u32 0), (AVal.i IntKind.u32 0), (AVal.i IntKind.u32 0), (AVal.i IntKind.u32 0), (AVal.i IntKind.u32 0), (AVal.i IntKind.u32 0), (AVal.i IntKind.u32 0), (AVal.i IntKind.u32 0), (AVal.i IntKind.u32 0), (AVal.i IntKind.u32 0), (AVal.i IntKind.u32 0), (AVal.i IntKind.u32 0), (AVal.i IntKind.u32 0), (AVal.i IntKind.u32 0), (AVal.i IntKind.u32 0), (AVal.i IntKind.u32 0), (AVal.i IntKind.u32 0), (AVal.i IntKind.u32 0), (AVal.i IntKind.u32 0), (AVal.i IntKind.u32 0), (AVal.i IntKind.u32 0)])) fun v3 m_2 =>
  bindP (stepM ro m_2 (.st 36 (.c v3) (.c v8))) fun vn m_3 =>
  bindO (evP .e (.faddr 1 (.c v1))) fun v9 =>
  bindO (ldM ro m_3 true 1 v9) fun v10 =>
  asI .i64 v10 fun x10 =>
  bindP (stepM ro m_3 (.mk 3 1 8 [(AVal.i IntKind.i64 0)] (.c (.i .i64 x10)) (.c (.i .i64 x10)))) fun v11 m_4 =>
  bindO (evP .e (.faddr 1 (.c v1))) fun v12 =>
  bindO (ldM ro m_4 true 1 v12) fun v13 =>
  asI .i64 v13 fun x13 =>
  bindP (stepM ro m_4 (.mk 81 1 4 [(AVal.i IntKind.u32 0)] (.c (.i .i64 x13)) (.c (.i .i64 x13)))) fun v14 m_5 =>
  bindO (evP .e (.ixS 1 (.c v14) (.c (.i .i64 0)))) fun v16 =>
  bindP (stepM ro m_5 (.st 1 (.c v16) (.c (.i .u32 1)))) fun vn_1 m_6 =>
  bindO (M.loop (S := Int × Mm) (R := (Mm ⊕ Mm)) (fun s => g61_b0 M ro v0 v1 v3 v11 v14 s.1 s.2) (0, m_6)) fun o_2 => match o_2 with
  | (.inl m_20) =>
    finM m0.h.length (tupA []) m_20
  | (.inr m_21) =>
    finM m0.h.length (tupA []) m_21

theorem g61_ok {ro : List ABlk} {O : Caller} {M : Means} (hM : M.Ok ⟨F, O⟩ ro) {v0 v1 h r} (ho : O 61 [v0, v1] h = none) (hr : g61 M ro v0 v1 ⟨h, h.length, h.length⟩ = some r) : callX ⟨F, O⟩ ro 61 [v0, v1] h = some r := by
  refine callX_of (F := ⟨F, O⟩) (fn := fn61) (g := g61 M ro v0 v1) ho rfl rfl hr ?_
  clear ho
  clear hr
  intro m0 t0 ht hr
  have g0 : t0.get 0 = v0 := ht 0
  have g1 : t0.get 1 = v1 := ht 1
  clear ht
  unfold g61 at hr
  refine w_seq ?_
  refine w_ops ?_
  have hq := bindO_inv hr
  clear hr
  obtain ⟨v7, e7, hr⟩ := hq
  refine wo_step (v := v7) (s_ld g1 e7) ?_
  have hq := bindP_inv hr
  clear hr
  obtain ⟨v8, m_1, e8, hr⟩ := hq
  refine wo_step (v := v8) (s_call (mc rfl mn) (callM_le hM.call e8)) ?_
  have hq := bindP_inv hr
  clear hr
  obtain ⟨v3, m_2, e3, hr⟩ := hq
  refine wo_step (v := v3) (s_al e3) ?_
  have hq := bindP_inv hr
  clear hr
  obtain ⟨vn, m_3, en, hr⟩ := hq
  refine wo_stepN (s_st rfl rfl en) ?_
  refine wo_nil ?_
  refine nx_norm ?_
  refine w_seq ?_
  refine w_ops ?_
  have hq := bindO_inv hr
  clear hr
  obtain ⟨v9, e9, hr⟩ := hq
  refine wo_step (v := v9) (s_pure (o_faddr g1 e9)) ?_
  have hq := bindO_inv hr
  clear hr
  obtain ⟨v10, e10, hr⟩ := hq
  have hq := asI_inv hr
  clear hr
  obtain ⟨x10, rfl, hr⟩ := hq
  refine wo_step (v := (.i .i64 x10)) (s_ld rfl e10) ?_
  have hq := bindP_inv hr
  clear hr
  obtain ⟨v11, m_4, e11, hr⟩ := hq
  refine wo_step (v := v11) (s_mk rfl rfl e11) ?_
  refine wo_step (v := v11) (s_pure (p_mv rfl)) ?_
  refine wo_nil ?_
  refine nx_norm ?_
  refine w_seq ?_
  refine w_ops ?_
  have hq := bindO_inv hr
  clear hr
  obtain ⟨v12, e12, hr⟩ := hq
  refine wo_step (v := v12) (s_pure (o_faddr g1 e12)) ?_
  have hq := bindO_inv hr
  clear hr
  obtain ⟨v13, e13, hr⟩ := hq
  have hq := asI_inv hr
  clear hr
  obtain ⟨x13, rfl, hr⟩ := hq
  refine wo_step (v := (.i .i64 x13)) (s_ld rfl e13) ?_
  have hq := bindP_inv hr
  clear hr
  obtain ⟨v14, m_5, e14, hr⟩ := hq
  refine wo_step (v := v14) (s_mk rfl rfl e14) ?_
  refine wo_step (v := v14) (s_pure (p_mv rfl)) ?_
  refine wo_nil ?_
  refine nx_norm ?_
  refine w_seq ?_
  refine w_ops ?_
  refine wo_step (v := v14) (s_pure (p_mv rfl)) ?_
  have hq := bindO_inv hr
  clear hr
  obtain ⟨v16, e16, hr⟩ := hq
  refine wo_step (v := v16) (s_pure (o_ixS rfl rfl e16)) ?_
  have hq := bindP_inv hr
  clear hr
  obtain ⟨vn_1, m_6, en_1, hr⟩ := hq
  refine wo_stepN (s_st rfl rfl en_1) ?_
  refine wo_nil ?_
  refine nx_norm ?_
  refine w_seq ?_
  refine w_ops ?_
  refine wo_step (v := (.i .i64 0)) (s_pure (p_mv rfl)) ?_
  refine wo_nil ?_
  refine nx_norm ?_
  refine w_seq ?_
  refine w_skip ?_
  refine nx_norm ?_
  refine w_block ?_
  have hq := bindO_inv hr
  clear hr
  obtain ⟨o_2, hl_1, hr⟩ := hq
  obtain ⟨n_1, hl_1⟩ := hM.loop _ _ _ hl_1
  refine jp_mono (w_loop _ (g61_I0 v0 v1 v3 v11 v14) (g61_J0 v0 v1 v3 v11 v14) ?_ n_1 _ _ _ _ hl_1 ⟨rfl, gl rfl, gl g0, gl g1, gl rfl, gl rfl, gl rfl⟩) ?_
  · clear hr hl_1
    intro s mm_8 t_1 o hi hr
    obtain ⟨x6, m_7⟩ := s
    obtain ⟨rfl, g6, g0, g1, g3, g4, g5⟩ := hi
    unfold g61_b0 at hr
    refine w_seq ?_
    refine w_seq ?_
    refine w_ops ?_
    refine wo_step (v := (.i .i64 x6)) (s_pure (p_mv g6)) ?_
    have hq := forceB_inv hr
    clear hr
    obtain ⟨c18, e18, hr⟩ := hq
    refine wo_step (v := (.b c18)) (s_pure (p_bin rfl rfl (b_geq.trans (cb e18)))) ?_
    refine wo_nil ?_
    refine nx_norm ?_
    have hq := cond_inv hr
    clear hr
    rcases hq with ⟨rfl, hr⟩ | ⟨rfl, hr⟩
    · refine w_condT rfl ?_
      refine w_skip ?_
      refine nx_norm ?_
      have hq := bindO_inv hr
      clear hr
      obtain ⟨o, hr, hk⟩ := hq
      refine jp_mono (J := g61_J1 v0 v1 v3 v11 v14 o) ?_ ?_
      · clear hk
        refine w_block ?_
        refine w_seq ?_
        refine w_block ?_
        have hq := bindO_inv hr
        clear hr
        obtain ⟨o_1, hl, hr⟩ := hq
        obtain ⟨n, hl⟩ := hM.loop _ _ _ hl
        refine jp_mono (w_loop _ (g61_I2 v0 v1 v3 v11 v14) (g61_J2 v0 v1 v3 v11 v14) ?_ n _ _ _ _ hl ⟨rfl, gl g6, gl g0, gl g1, gl g3, gl g4, gl g5⟩) ?_
        · clear hr hl
          intro s mm_3 t_2 o hi hr
          obtain ⟨x6_1, m_8⟩ := s
          obtain ⟨rfl, g6, g0, g1, g3, g4, g5⟩ := hi
          unfold g61_b2 at hr
          refine w_seq ?_
          refine w_seq ?_
          refine w_ops ?_
          refine wo_step (v := v14) (s_pure (p_mv g5)) ?_
          refine wo_step (v := (.i .i64 x6_1)) (s_pure (p_mv g6)) ?_
          have hq := bindO_inv hr
          clear hr
          obtain ⟨v21, e21, hr⟩ := hq
          refine wo_step (v := v21) (s_pure (o_ixS rfl rfl e21)) ?_
          have hq := bindO_inv hr
          clear hr
          obtain ⟨v22, e22, hr⟩ := hq
          have hq := asI_inv hr
          clear hr
          obtain ⟨x22, rfl, hr⟩ := hq
          refine wo_step (v := (.i .u32 x22)) (s_ld rfl e22) ?_
          have hq := forceB_inv hr
          clear hr
          obtain ⟨c23, e23, hr⟩ := hq
          refine wo_step (v := (.b c23)) (s_pure (p_bin rfl rfl (b_neq.trans (cb e23)))) ?_
          refine wo_nil ?_
          refine nx_norm ?_
          have hq := cond_inv hr
          clear hr
          rcases hq with ⟨rfl, hr⟩ | ⟨rfl, hr⟩
          · refine w_condT rfl ?_
            refine w_skip ?_
            refine nx_norm ?_
            refine w_block ?_
            refine w_seq ?_
            refine w_ops ?_
            refine wo_step (v := v11) (s_pure (p_mv g4)) ?_
            refine wo_step (v := (.i .i64 x6_1)) (s_pure (p_mv g6)) ?_
            refine wo_step (v := v14) (s_pure (p_mv g5)) ?_
            refine wo_step (v := (.i .i64 x6_1)) (s_pure (p_mv g6)) ?_
            have hq := bindO_inv hr
            clear hr
            obtain ⟨v28, e28, hr⟩ := hq
            refine wo_step (v := v28) (s_pure (o_ixS rfl rfl e28)) ?_
            have hq := bindO_inv hr
            clear hr
            obtain ⟨v29, e29, hr⟩ := hq
            have hq := asI_inv hr
            clear hr
            obtain ⟨x29, rfl, hr⟩ := hq
            refine wo_step (v := (.i .u32 x29)) (s_ld rfl e29) ?_
            have hq := bindP_inv hr
            clear hr
            obtain ⟨v30, m_9, e30, hr⟩ := hq
            have hq := asI_inv hr
            clear hr
            obtain ⟨x30, rfl, hr⟩ := hq
            refine wo_step (v := (.i .i64 x30)) (s_call (mc rfl mn) (callM_le hM.call e30)) ?_
            have hq := bindO_inv hr
            clear hr
            obtain ⟨v31, e31, hr⟩ := hq
            refine wo_step (v := v31) (s_pure (o_ixS rfl rfl e31)) ?_
            have hq := bindP_inv hr
            clear hr
            obtain ⟨vn_2, m_10, en_2, hr⟩ := hq
            refine wo_stepN (s_st rfl rfl en_2) ?_
            refine wo_nil ?_
            refine nx_norm ?_
            refine w_seq ?_
            refine w_ops ?_
            refine wo_step (v := v14) (s_pure (p_mv g5)) ?_
            refine wo_step (v := (.i .i64 x6_1)) (s_pure (p_mv g6)) ?_
            refine wo_step (v := v14) (s_pure (p_mv g5)) ?_
            refine wo_step (v := (.i .i64 x6_1)) (s_pure (p_mv g6)) ?_
            have hq := bindO_inv hr
            clear hr
            obtain ⟨v36, e36, hr⟩ := hq
            refine wo_step (v := v36) (s_pure (o_ixS rfl rfl e36)) ?_
            have hq := bindO_inv hr
            clear hr
            obtain ⟨v37, e37, hr⟩ := hq
            have hq := asI_inv hr
            clear hr
            obtain ⟨x37, rfl, hr⟩ := hq
            refine wo_step (v := (.i .u32 x37)) (s_ld rfl e37) ?_
            have hq := bindP_inv hr
            clear hr
            obtain ⟨v38, m_11, e38, hr⟩ := hq
            have hq := asI_inv hr
            clear hr
            obtain ⟨x38, rfl, hr⟩ := hq
            refine wo_step (v := (.i .u32 x38)) (s_call (mc rfl mn) (callM_le hM.call e38)) ?_
            have hq := bindO_inv hr
            clear hr
            obtain ⟨v39, e39, hr⟩ := hq
            refine wo_step (v := v39) (s_pure (o_ixS rfl rfl e39)) ?_
            have hq := bindP_inv hr
            clear hr
            obtain ⟨vn_3, m_12, en_3, hr⟩ := hq
            refine wo_stepN (s_st rfl rfl en_3) ?_
            refine wo_nil ?_
            refine nx_norm ?_
            refine w_seq ?_
            refine w_seq ?_
            refine w_ops ?_
            refine wo_step (v := (.i .i64 x6_1)) (s_pure (p_mv g6)) ?_
            have hq := forceI_inv hr
            clear hr
            obtain ⟨x41, e41, hr⟩ := hq
            refine wo_step (v := (.i .i64 x41)) (s_pure (p_bin rfl rfl (b_add.trans (ci e41)))) ?_
            have hq := bindO_inv hr
            clear hr
            obtain ⟨v42, e42, hr⟩ := hq
            refine wo_step (v := v42) (s_pure (o_faddr g1 e42)) ?_
            have hq := bindO_inv hr
            clear hr
            obtain ⟨v43, e43, hr⟩ := hq
            have hq := asI_inv hr
            clear hr
            obtain ⟨x43, rfl, hr⟩ := hq
            refine wo_step (v := (.i .i64 x43)) (s_ld rfl e43) ?_
            have hq := forceB_inv hr
            clear hr
            obtain ⟨c44, e44, hr⟩ := hq
            refine wo_step (v := (.b c44)) (s_pure (p_bin rfl rfl (b_lss.trans (cb e44)))) ?_
            refine wo_nil ?_
            refine nx_norm ?_
            have hq := cond_inv hr
            clear hr
            rcases hq with ⟨rfl, hr⟩ | ⟨rfl, hr⟩
            · refine w_condT rfl ?_
              refine w_seq ?_
              refine w_ops ?_
              refine wo_step (v := (.i .i64 x6_1)) (s_pure (p_mv g6)) ?_
              have hq := forceI_inv hr
              clear hr
              obtain ⟨x46, e46, hr⟩ := hq
              refine wo_step (v := (.i .i64 x46)) (s_pure (p_bin rfl rfl (b_add.trans (ci e46)))) ?_
              refine wo_step (v := (.i .i64 x46)) (s_pure (p_mv rfl)) ?_
              refine wo_nil ?_
              refine nx_norm ?_
              refine w_seq ?_
              refine w_any ?_
              refine wa_step (v := v14) (a_pure (p_mv g5)) ?_
              refine wa_step (v := (.i .i64 x46)) (a_pure (p_mv rfl)) ?_
              have hq := bindO_inv hr
              clear hr
              obtain ⟨v49, e49, hr⟩ := hq
              refine wa_step (v := v49) (a_ld g1 e49) ?_
              have hq := bindO_inv hr
              clear hr
              obtain ⟨v50, e50, hr⟩ := hq
              refine wa_step (v := v50) (a_ld g3 e50) ?_
              refine wa_step (v := v11) (a_pure (p_mv g4)) ?_
              refine wa_step (v := (.i .i64 x46)) (a_pure (p_mv rfl)) ?_
              have hq := bindO_inv hr
              clear hr
              obtain ⟨v53, e53, hr⟩ := hq
              refine wa_step (v := v53) (a_pure (o_slS rfl on (os rfl) on e53)) ?_
              have hq := bindO_inv hr
              clear hr
              obtain ⟨v54, e54, hr⟩ := hq
              have hq := asI_inv hr
              clear hr
              obtain ⟨x54, rfl, hr⟩ := hq
              refine wa_step (v := (.i .u32 x54)) (a_call (mc rfl (mc rfl (mc rfl mn))) (callN_le hM.call e54)) ?_
              have hq := bindO_inv hr
              clear hr
              obtain ⟨v55, e55, hr⟩ := hq
              refine wa_step (v := v55) (a_pure (o_ixS rfl rfl e55)) ?_
              have hq := asP_inv hr
              clear hr
              obtain ⟨qs, eqs, hr⟩ := hq
              refine wa_stepN (a_st (Eq.trans (b := v55) rfl eqs) rfl rfl) ?_
              have hq := bindO_inv hr
              clear hr
              obtain ⟨m_13, ew, hr⟩ := hq
              refine wa_nil ?_
              refine ⟨m_13, ew, ?_⟩
              refine nx_norm ?_
              refine w_exit ?_
              refine nx_exit ?_
              refine bk_miss (by decide) ?_
              cases hr
              exact ⟨_, _, rfl, ne_norm_exit, rfl, rfl, gl rfl, gl g0, gl g1, gl g3, gl g4, gl g5⟩
            · refine w_condF rfl ?_
              refine w_skip ?_
              refine nx_norm ?_
              refine w_seq ?_
              refine w_opsY ?_
              refine wy_step (v := v0) (y_C (s_pure (p_mv g0))) ?_
              refine wy_step (v := v11) (y_C (s_pure (p_mv g4))) ?_
              have hq := bindP_inv hr
              clear hr
              obtain ⟨v58, m_14, e58, hr⟩ := hq
              have hq := asB_inv hr
              clear hr
              obtain ⟨c58, rfl, hr⟩ := hq
              refine wy_step (v := (.b c58)) (y_callv rfl (mc rfl mn) (callyM_le hM.call hM.round e58)) ?_
              have hq := forceB_inv hr
              clear hr
              obtain ⟨c59, e59, hr⟩ := hq
              refine wy_step (v := (.b c59)) (y_C (s_pure ((p_not rfl).trans (cb e59)))) ?_
              refine wy_nil ?_
              refine nx_norm ?_
              have hq := cond_inv hr
              clear hr
              rcases hq with ⟨rfl, hr⟩ | ⟨rfl, hr⟩
              · refine w_condT rfl ?_
                refine w_ret ?_
                refine bk_ret ?_
                cases hr
                exact ⟨_, _, rfl, ne_norm_ret, rfl, rfl⟩
              · refine w_condF rfl ?_
                refine w_skip ?_
                refine bk_norm ?_
                cases hr
                exact ⟨_, _, rfl, rfl, rfl, gl g6, gl g0, gl g1, gl g3, gl g4, gl g5⟩
          · refine w_condF rfl ?_
            refine w_exit ?_
            refine nx_exit ?_
            cases hr
            exact ⟨_, _, rfl, ne_norm_exit, rfl, rfl, gl g6, gl g0, gl g1, gl g3, gl g4, gl g5⟩
        · rcases o_1 with o_1 | o_1 | o_1
          · obtain ⟨x6_2, m_15⟩ := o_1
            rintro _ mm t_3 ⟨rfl, rfl, g6, g0, g1, g3, g4, g5⟩
            refine bk_miss (by decide) ?_
            refine nx_exit ?_
            refine bk_hit ?_
            cases hr
            exact ⟨_, _, rfl, rfl, rfl, gl g6, gl g0, gl g1, gl g3, gl g4, gl g5⟩
          · obtain ⟨x6_3, m_16⟩ := o_1
            rintro _ mm_1 t_4 ⟨rfl, rfl, g6, g0, g1, g3, g4, g5⟩
            refine bk_hit ?_
            refine nx_norm ?_
            refine w_ops ?_
            refine wo_step (v := (.i .i64 x6_3)) (s_pure (p_mv g6)) ?_
            have hq := forceI_inv hr
            clear hr
            obtain ⟨x61, e61, hr⟩ := hq
            refine wo_step (v := (.i .i64 x61)) (s_pure (p_bin rfl rfl (b_sub.trans (ci e61)))) ?_
            refine wo_step (v := (.i .i64 x61)) (s_pure (p_mv rfl)) ?_
            refine wo_nil ?_
            refine bk_norm ?_
            cases hr
            exact ⟨_, _, rfl, rfl, rfl, gl rfl, gl g0, gl g1, gl g3, gl g4, gl g5⟩
          · obtain ⟨m_17, ho⟩ : ∃ z, z = o_1 := ⟨_, rfl⟩
            subst ho
            rintro _ mm_2 t_5 ⟨rfl, rfl⟩
            refine bk_ret ?_
            refine nx_ret ?_
            refine bk_ret ?_
            cases hr
            exact ⟨_, _, rfl, rfl, rfl⟩
      · have hr := hk
        clear hk
        rcases o with o | o
        · obtain ⟨x6_4, m_18⟩ := o
          rintro _ mm_4 t_6 ⟨rfl, rfl, g6, g0, g1, g3, g4, g5⟩
          cases hr
          exact ⟨_, _, rfl, rfl, rfl, gl g6, gl g0, gl g1, gl g3, gl g4, gl g5⟩
        · obtain ⟨m_19, ho⟩ : ∃ z, z = o := ⟨_, rfl⟩
          subst ho
          rintro _ mm_5 t_7 ⟨rfl, rfl⟩
          cases hr
          exact ⟨_, _, rfl, ne_norm_ret, rfl, rfl⟩
    · refine w_condF rfl ?_
      refine w_exit ?_
      refine nx_exit ?_
      cases hr
      exact ⟨_, _, rfl, ne_norm_exit, rfl, rfl⟩
  · rcases o_2 with o_2 | o_2
    · obtain ⟨m_20, ho⟩ : ∃ z, z = o_2 := ⟨_, rfl⟩
      subst ho
      rintro _ mm_6 t_8 ⟨rfl, rfl⟩
      refine bk_hit ?_
      exact qf norm_ok rn hr
    · obtain ⟨m_21, ho⟩ : ∃ z, z = o_2 := ⟨_, rfl⟩
      subst ho
      rintro _ mm_7 t_9 ⟨rfl, rfl⟩
      refine bk_ret ?_
      exact qf ret_ok rn hr

/- (dibber/turn.demands).distances -/
abbrev g62_I0 (v1 : AVal) (v2 : AVal) (v3 : AVal) (s : Int × Mm) (m1 : Mm) (t1 : Tr) : Prop :=
  match s with
  | (x9, m_4) => m_4 = m1 ∧ t1.get 9 = (.i .i64 x9) ∧ t1.get 1 = v1 ∧ t1.get 2 = v2 ∧ t1.get 3 = v3
abbrev g62_J0 (v1 : AVal) (v2 : AVal) (v3 : AVal) (o : Mm) (e : AExit) (m1 : Mm) (t1 : Tr) : Prop :=
  match o with
  | mo => e = (.exit 0) ∧ mo = m1 ∧ t1.get 1 = v1 ∧ t1.get 2 = v2 ∧ t1.get 3 = v3
abbrev g62_I1 (v1 : AVal) (v2 : AVal) (v3 : AVal) (x9 : Int) (s : Int × Mm) (m1 : Mm) (t1 : Tr) : Prop :=
  match s with
  | (x12, m_5) => m_5 = m1 ∧ t1.get 12 = (.i .i64 x12) ∧ t1.get 1 = v1 ∧ t1.get 2 = v2 ∧ t1.get 3 = v3 ∧ t1.get 4 = (.i .i64 x9) ∧ t1.get 9 = (.i .i64 x9)
abbrev g62_J1 (v1 : AVal) (v2 : AVal) (v3 : AVal) (x9 : Int) (o : Mm) (e : AExit) (m1 : Mm) (t1 : Tr) : Prop :=
  match o with
  | mo => e = (.exit 2) ∧ mo = m1 ∧ t1.get 1 = v1 ∧ t1.get 2 = v2 ∧ t1.get 3 = v3 ∧ t1.get 9 = (.i .i64 x9)
def g62_b1 (M : Means) (ro : List ABlk) (v1 : AVal) (v2 : AVal) (v3 : AVal) (x9 : Int) (x12 : Int) (m_5 : Mm) : Option ((Int × Mm) ⊕ (Mm)) :=
  forceB (ltI x12 6) fun c13 =>
  cond c13 (
    bindO (evP .e (.ixA 6 6 (.c v3) (.c (.i .i64 x9)))) fun v19 =>
    bindO (ldM ro m_5 false 3 v1) fun v17 =>
    bindP (callM M.call m_5 76 [v17]) fun v18 m_6 =>
    asI .u32 v18 fun x18 =>
    bindO (evP .e (.ixA 6 1 (.c v19) (.c (.i .i64 x12)))) fun v20 =>
    bindP (stepM ro m_6 (.st 1 (.c v20) (.c (.i .u32 x18)))) fun vn m_7 =>
    forceI (wr .i64 (x12 + 1)) fun x21 =>
    some (.inl (x21, m_7))) (
    some (.inr m_5))
def g62_b0 (M : Means) (ro : List ABlk) (v1 : AVal) (v2 : AVal) (v3 : AVal) (x9 : Int) (m_4 : Mm) : Option ((Int × Mm) ⊕ (Mm)) :=
  forceB (ltI x9 6) fun c10 =>
  cond c10 (
    bindO (M.loop (S := Int × Mm) (R := Mm) (fun s => g62_b1 M ro v1 v2 v3 x9 s.1 s.2) (0, m_4)) fun m_8 =>
    forceI (wr .i64 (x9 + 1)) fun x22 =>
    some (.inl (x22, m_8))) (
    some (.inr m_4))
abbrev g62_I2 (v1 : AVal) (v2 : AVal) (v3 : AVal) (v24 : AVal) (x25 : Int) (s : Int × Mm) (m1 : Mm) (t1 : Tr) : Prop :=
  match s with
  | (x26, m_10) => m_10 = m1 ∧ t1.get 26 = (.i .i64 x26) ∧ t1.get 1 = v1 ∧ t1.get 2 = v2 ∧ t1.get 3 = v3 ∧ t1.get 24 = v24 ∧ t1.get 25 = (.i .i64 x25)
abbrev g62_J2 (v1 : AVal) (v2 : AVal) (v3 : AVal) (v24 : AVal) (x25 : Int) (o : Mm) (e : AExit) (m1 : Mm) (t1 : Tr) : Prop :=
  match o with
  | mo => e = (.exit 4) ∧ mo = m1 ∧ t1.get 2 = v2 ∧ t1.get 3 = v3
abbrev g62_J3 (v1 : AVal) (v2 : AVal) (v3 : AVal) (v7 : AVal) (v24 : AVal) (x25 : Int) (x26 : Int) (o : Mm) (e : AExit) (m1 : Mm) (t1 : Tr) : Prop :=
  match o with
  | mo => e = .norm ∧ mo = m1 ∧ t1.get 1 = v1 ∧ t1.get 2 = v2 ∧ t1.get 3 = v3 ∧ t1.get 7 = v7 ∧ t1.get 24 = v24 ∧ t1.get 25 = (.i .i64 x25) ∧ t1.get 26 = (.i .i64 x26)
def g62_b2 (M : Means) (ro : List ABlk) (v1 : AVal) (v2 : AVal) (v3 : AVal) (v24 : AVal) (x25 : Int) (x26 : Int) (m_10 : Mm) : Option ((Int × Mm) ⊕ (Mm)) :=
  forceB (ltI x26 x25) fun c27 =>
  cond c27 (
    bindO (evP .e (.ixS 4 (.c v24) (.c (.i .i64 x26)))) fun v28 =>
    bindO (ldM ro m_10 false 4 v28) fun v29 =>
    bindP (stepM ro m_10 (.al 31 [(AVal.i IntKind.i64 0), (AVal.i IntKind.i64 0), (AVal.i IntKind.i64 0), (AVal.i IntKind.i64 0)])) fun v7 m_11 =>
    bindP (stepM ro m_11 (.st 4 (.c v7) (.c v29))) fun vn_1 m_12 =>
    bindO (evP .e (.faddr 0 (.c v7))) fun v30 =>
    bindO (ldM ro m_12 true 1 v30) fun v31 =>
    asI .i64 v31 fun x31 =>
    bindO (evP .e (.faddr 1 (.c v7))) fun v32 =>
    bindO (ldM ro m_12 true 1 v32) fun v33 =>
    asI .i64 v33 fun x33 =>
    forceB (ltI x33 x31) fun c34 =>
    bindO (α := Mm) (
      cond c34 (
        bindO (ldM ro m_12 false 4 v7) fun v35 =>
        bindP (callM M.call m_12 77 [v35]) fun v36 m_13 =>
        bindP (stepM ro m_13 (.st 4 (.c v7) (.c v36))) fun vn_2 m_14 =>
        some m_14) (
        some m_12)) fun m_15 =>
    bindO (evP .e (.faddr 3 (.c v7))) fun v37 =>
    bindO (ldM ro m_15 true 1 v37) fun v38 =>
    asI .i64 v38 fun x38 =>
    bindO (evP .e (.faddr 2 (.c v7))) fun v39 =>
    bindO (ldM ro m_15 true 1 v39) fun v40 =>
    asI .i64 v40 fun x40 =>
    forceI (wr .i64 (x38 - x40)) fun x41 =>
    forceI (wr .i64 (x41 + 1)) fun x42 =>
    chk (!ltI x42 (.ofNat 0)) <|
    forceI (shlV .u32 1 x42) fun x43 =>
    forceI (wr .u32 (x43 - 1)) fun x44 =>
    bindO (evP .e (.faddr 0 (.c v7))) fun v45 =>
    bindO (ldA ro m_15.h true 1 v45) fun v46 =>
    asI .i64 v46 fun x46 =>
    bindO (evP .e (.faddr 1 (.c v7))) fun v47 =>
    bindO (ldA ro m_15.h true 1 v47) fun v48 =>
    asI .i64 v48 fun x48 =>
    bindO (evP .e (.ixA 6 6 (.c v3) (.c (.i .i64 x46)))) fun v49 =>
    bindO (evP .e (.ixA 6 1 (.c v49) (.c (.i .i64 x48)))) fun v50 =>
    bindO (ldA ro m_15.h true 1 v50) fun v51 =>
    asI .u32 v51 fun x51 =>
    bindO (ldA ro m_15.h false 3 v1) fun v52 =>
    bindO (ldA ro m_15.h false 3 v1) fun v54 =>
    bindO (evP .e (.faddr 2 (.c v7))) fun v55 =>
    bindO (ldA ro m_15.h true 1 v55) fun v56 =>
    asI .i64 v56 fun x56 =>
    bindO (callN M.call m_15.h 70 [v54, (.i .i64 x56)]) fun v57 =>
    asI .i64 v57 fun x57 =>
    bindO (callN M.call m_15.h 78 [v52, (.i .u32 x44), (.i .i64 x57)]) fun v58 =>
    asI .u32 v58 fun x58 =>
    forceI (bitV .and .u32 x51 x58) fun x59 =>
    bindO (evP .e (.ixA 6 6 (.c v3) (.c (.i .i64 x46)))) fun v60 =>
    bindO (evP .e (.ixA 6 1 (.c v60) (.c (.i .i64 x48)))) fun v61 =>
    asP v61 fun qs =>
    bindO (writesM ro [] [(qs, AVal.cells (.i .u32 x59))] ⟨m_15.h, m_15.lw, m_15.lp⟩) fun m_16 =>
    forceI (wr .i64 (x26 + 1)) fun x62 =>
    some (.inl (x62, m_16))) (
    some (.inr m_10))
def g62 (M : Means) (ro : List ABlk) (v0 : AVal) (m0 : Mm) : Option (AVal × Heap × Nat × Nat) :=
  bindP (stepM ro m0 (.bx 55 3 (.c v0))) fun v1 m_1 =>
  bindP (stepM ro m_1 (.al 84 [(AVal.i IntKind.u32 0), (AVal.i IntKind.u32 0), (AVal.i IntKind.u32 0), (AVal.i IntKind.u32 0), (AVal.i IntKind.u32 0), (AVal.i IntKind.u32 0), (AVal.i IntKind.u32 0), (AVal.i IntKind.u32 0), (AVal.i IntKind.u32 0), (AVal.i IntKind.u32 0), (AVal.i IntKind.u32 0), (AVal.i IntKind.u32 0), (AVal.i IntKind.u32 0), (AVal.i IntKind.u32 0), (AVal.i IntKind.u32 0), (AVal.i IntKind.u32 0), (AVal.i IntKind.u32 0), (AVal.i IntKind.u32 0), (AVal.i IntKind.u32 0), (AVal.i IntKind.u32 0), (AVal.i IntKind.u32 0), (AVal.i IntKind.u32 0), (AVal.i IntKind.u32 0), (AVal.i IntKind.u32 0), (AVal.i IntKind.u32 0), (AVal.i IntKind.u32 0), (AVal.i IntKind.u32 0), (AVal.i IntKind.u32 0), (AVal.i IntKind.u32 0), (AVal.i IntKind.u32 0), (AVal.i IntKind.u32 0), (AVal.i IntKind.u32 0), (AVal.i IntKind.u32 0), (AVal.i IntKind.u32 0), (AVal.i IntKind.u32 0), (AVal.i IntKind.u32 0)])) fun v2 m_2 =>
  bindP (stepM ro m_2 (.al 84 [(AVal.i IntKind.u32 0), (AVal.i IntKind.u32 0), (AVal.i IntKind.u32 0), (AVal.i IntKind.u32 0), (AVal.i IntKind.u32 0), (AVal.i IntKind.u32 0), (AVal.i IntKind.u32 0), (AVal.i IntKind.u32 0), (AVal.i IntKind.u32 0), (AVal.i IntKind.u32 0), (AVal.i IntKind.u32 0), (AVal.i IntKind.u32 0), (AVal.i IntKind.u32 0), (AVal.i IntKind.u32 0), (AVal.i IntKind.u32 0), (AVal.i IntKind.u32 0), (AVal.i IntKind.u32 0), (AVal.i IntKind.u32 0), (AVal.i IntKind.u32 0), (AVal.i IntKind.u32 0), (AVal.i IntKind.u32 0), (AVal.i IntKind.u32 0), (AVal.i IntKind.u32 0), (AVal.i IntKind.u32 0), (AVal.i IntKind.u32 0), (AVal.i IntKind.u32 0), (AVal.i IntKind.u32 0), (AVal.i IntKind.u32 0), (AVal.i IntKind.u32 0), (AVal.i IntKind.u32 0), (AVal.i IntKind.u32 0), (AVal.i IntKind.u32 0), (AVal.i IntKind.u32 0), (AVal.i IntKind.u32 0), (AVal.i IntKind.u32 0), (AVal.i IntKind.u32 0)])) fun v3 m_3 =>
  bindO (M.loop (S := Int × Mm) (R := Mm) (fun s => g62_b0 M ro v1 v2 v3 s.1 s.2) (0, m_3)) fun m_9 =>
  bindO (evP .e (.faddr 2 (.c v1))) fun v23 =>
  bindO (ldM ro m_9 true 1 v23) fun v24 =>
  bindO (evP .e (.len false (.c v24))) fun v25 =>
  asI .i64 v25 fun x25 =>
  bindO (M.loop (S := Int × Mm) (R := Mm) (fun s => g62_b2 M ro v1 v2 v3 v24 x25 s.1 s.2) (0, m_9)) fun m_17 =>
  bindO (ldM ro m_17 false 36 v3) fun v63 =>
  bindP (stepM ro m_17 (.st 36 (.c v2) (.c v63))) fun vn_3 m_18 =>
  bindO (ldM ro m_18 false 36 v2) fun vr =>
  finM m0.h.length (tupA [vr]) m_18

theorem g62_ok {ro : List ABlk} {O : Caller} {M : Means} (hM : M.Ok ⟨F, O⟩ ro) {v0 h r} (ho : O 62 [v0] h = none) (hr : g62 M ro v0 ⟨h, h.length, h.length⟩ = some r) : callX ⟨F, O⟩ ro 62 [v0] h = some r := by
  refine callX_of (F := ⟨F, O⟩) (fn := fn62) (g := g62 M ro v0) ho rfl rfl hr ?_
  clear ho
  clear hr
  intro m0 t0 ht hr
  have g0 : t0.get 0 = v0 := ht 0
  clear ht
  unfold g62 at hr
  refine w_seq ?_
  refine w_ops ?_
  have hq := bindP_inv hr
  clear hr
  obtain ⟨v1, m_1, e1, hr⟩ := hq
  refine wo_step (v := v1) (s_bx g0 e1) ?_
  have hq := bindP_inv hr
  clear hr
  obtain ⟨v2, m_2, e2, hr⟩ := hq
  refine wo_step (v := v2) (s_al e2) ?_
  refine wo_nil ?_
  refine nx_norm ?_
  refine w_seq ?_
  refine w_ops ?_
  have hq := bindP_inv hr
  clear hr
  obtain ⟨v3, m_3, e3, hr⟩ := hq
  refine wo_step (v := v3) (s_al e3) ?_
  refine wo_nil ?_
  refine nx_norm ?_
  refine w_seq ?_
  refine w_seq ?_
  refine w_ops ?_
  refine wo_step (v := (.i .i64 0)) (s_pure (p_mv rfl)) ?_
  refine wo_nil ?_
  refine nx_norm ?_
  refine w_block ?_
  have hq := bindO_inv hr
  clear hr
  obtain ⟨o_1, hl_2, hr⟩ := hq
  obtain ⟨n_2, hl_2⟩ := hM.loop _ _ _ hl_2
  refine jp_mono (w_loop _ (g62_I0 v1 v2 v3) (g62_J0 v1 v2 v3) ?_ n_2 _ _ _ _ hl_2 ⟨rfl, gl rfl, gl rfl, gl rfl, gl rfl⟩) ?_
  · clear hr hl_2
    intro s mm_6 t_1 o hi hr
    obtain ⟨x9, m_4⟩ := s
    obtain ⟨rfl, g9, g1, g2, g3⟩ := hi
    unfold g62_b0 at hr
    refine w_seq ?_
    refine w_ops ?_
    have hq := forceB_inv hr
    clear hr
    obtain ⟨c10, e10, hr⟩ := hq
    refine wo_step (v := (.b c10)) (s_pure (p_bin g9 rfl (b_lss.trans (cb e10)))) ?_
    refine wo_nil ?_
    refine nx_norm ?_
    refine w_seq ?_
    have hq := cond_inv hr
    clear hr
    rcases hq with ⟨rfl, hr⟩ | ⟨rfl, hr⟩
    · refine w_condT rfl ?_
      refine w_skip ?_
      refine nx_norm ?_
      refine w_seq ?_
      refine w_block ?_
      refine w_seq ?_
      refine w_ops ?_
      refine wo_step (v := (.i .i64 x9)) (s_pure (p_mv g9)) ?_
      refine wo_step (v := (.i .i64 x9)) (s_pure (p_mv rfl)) ?_
      refine wo_nil ?_
      refine nx_norm ?_
      refine w_seq ?_
      refine w_ops ?_
      refine wo_step (v := (.i .i64 0)) (s_pure (p_mv rfl)) ?_
      refine wo_nil ?_
      refine nx_norm ?_
      refine w_block ?_
      have hq := bindO_inv hr
      clear hr
      obtain ⟨o, hl, hr⟩ := hq
      obtain ⟨n, hl⟩ := hM.loop _ _ _ hl
      refine jp_mono (w_loop _ (g62_I1 v1 v2 v3 x9) (g62_J1 v1 v2 v3 x9) ?_ n _ _ _ _ hl ⟨rfl, gl rfl, gl g1, gl g2, gl g3, gl rfl, gl g9⟩) ?_
      · clear hr hl
        intro s mm_1 t_2 o hi hr
        obtain ⟨x12, m_5⟩ := s
        obtain ⟨rfl, g12, g1, g2, g3, g4, g9⟩ := hi
        unfold g62_b1 at hr
        refine w_seq ?_
        refine w_ops ?_
        have hq := forceB_inv hr
        clear hr
        obtain ⟨c13, e13, hr⟩ := hq
        refine wo_step (v := (.b c13)) (s_pure (p_bin g12 rfl (b_lss.trans (cb e13)))) ?_
        refine wo_nil ?_
        refine nx_norm ?_
        refine w_seq ?_
        have hq := cond_inv hr
        clear hr
        rcases hq with ⟨rfl, hr⟩ | ⟨rfl, hr⟩
        · refine w_condT rfl ?_
          refine w_skip ?_
          refine nx_norm ?_
          refine w_seq ?_
          refine w_block ?_
          refine w_seq ?_
          refine w_ops ?_
          refine wo_step (v := (.i .i64 x12)) (s_pure (p_mv g12)) ?_
          refine wo_step (v := (.i .i64 x12)) (s_pure (p_mv rfl)) ?_
          refine wo_nil ?_
          refine nx_norm ?_
          refine w_ops ?_
          refine wo_step (v := (.i .i64 x9)) (s_pure (p_mv g4)) ?_
          refine wo_step (v := (.i .i64 x12)) (s_pure (p_mv rfl)) ?_
          have hq := bindO_inv hr
          clear hr
          obtain ⟨v19, e19, hr⟩ := hq
          refine wo_step (v := v19) (s_pure (o_ixA g3 rfl e19)) ?_
          have hq := bindO_inv hr
          clear hr
          obtain ⟨v17, e17, hr⟩ := hq
          refine wo_step (v := v17) (s_ld g1 e17) ?_
          have hq := bindP_inv hr
          clear hr
          obtain ⟨v18, m_6, e18, hr⟩ := hq
          have hq := asI_inv hr
          clear hr
          obtain ⟨x18, rfl, hr⟩ := hq
          refine wo_step (v := (.i .u32 x18)) (s_call (mc rfl mn) (callM_le hM.call e18)) ?_
          have hq := bindO_inv hr
          clear hr
          obtain ⟨v20, e20, hr⟩ := hq
          refine wo_step (v := v20) (s_pure (o_ixA rfl rfl e20)) ?_
          have hq := bindP_inv hr
          clear hr
          obtain ⟨vn, m_7, en, hr⟩ := hq
          refine wo_stepN (s_st rfl rfl en) ?_
          refine wo_nil ?_
          refine bk_norm ?_
          refine nx_norm ?_
          refine w_ops ?_
          have hq := forceI_inv hr
          clear hr
          obtain ⟨x21, e21, hr⟩ := hq
          refine wo_step (v := (.i .i64 x21)) (s_pure (p_bin g12 rfl (b_add.trans (ci e21)))) ?_
          refine wo_step (v := (.i .i64 x21)) (s_pure (p_mv rfl)) ?_
          refine wo_nil ?_
          cases hr
          exact ⟨_, _, rfl, rfl, rfl, gl rfl, gl g1, gl g2, gl g3, gl g4, gl g9⟩
        · refine w_condF rfl ?_
          refine w_exit ?_
          refine nx_exit ?_
          cases hr
          exact ⟨_, _, rfl, ne_norm_exit, rfl, rfl, gl g1, gl g2, gl g3, gl g9⟩
      · obtain ⟨m_8, ho⟩ : ∃ z, z = o := ⟨_, rfl⟩
        subst ho
        rintro _ mm t_3 ⟨rfl, rfl, g1, g2, g3, g9⟩
        refine bk_hit ?_
        refine bk_norm ?_
        refine nx_norm ?_
        refine w_ops ?_
        have hq := forceI_inv hr
        clear hr
        obtain ⟨x22, e22, hr⟩ := hq
        refine wo_step (v := (.i .i64 x22)) (s_pure (p_bin g9 rfl (b_add.trans (ci e22)))) ?_
        refine wo_step (v := (.i .i64 x22)) (s_pure (p_mv rfl)) ?_
        refine wo_nil ?_
        cases hr
        exact ⟨_, _, rfl, rfl, rfl, gl rfl, gl g1, gl g2, gl g3⟩
    · refine w_condF rfl ?_
      refine w_exit ?_
      refine nx_exit ?_
      cases hr
      exact ⟨_, _, rfl, ne_norm_exit, rfl, rfl, gl g1, gl g2, gl g3⟩
  · obtain ⟨m_9, ho⟩ : ∃ z, z = o_1 := ⟨_, rfl⟩
    subst ho
    rintro _ mm_5 t_4 ⟨rfl, rfl, g1, g2, g3⟩
    refine bk_hit ?_
    refine nx_norm ?_
    refine w_seq ?_
    refine w_seq ?_
    refine w_ops ?_
    have hq := bindO_inv hr
    clear hr
    obtain ⟨v23, e23, hr⟩ := hq
    refine wo_step (v := v23) (s_pure (o_faddr g1 e23)) ?_
    have hq := bindO_inv hr
    clear hr
    obtain ⟨v24, e24, hr⟩ := hq
    refine wo_step (v := v24) (s_ld rfl e24) ?_
    have hq := bindO_inv hr
    clear hr
    obtain ⟨v25, e25, hr⟩ := hq
    have hq := asI_inv hr
    clear hr
    obtain ⟨x25, rfl, hr⟩ := hq
    refine wo_step (v := (.i .i64 x25)) (s_pure (o_len rfl e25)) ?_
    refine wo_step (v := (.i .i64 0)) (s_pure (p_mv rfl)) ?_
    refine wo_nil ?_
    refine nx_norm ?_
    refine w_block ?_
    have hq := bindO_inv hr
    clear hr
    obtain ⟨o_3, hl_1, hr⟩ := hq
    obtain ⟨n_1, hl_1⟩ := hM.loop _ _ _ hl_1
    refine jp_mono (w_loop _ (g62_I2 v1 v2 v3 v24 x25) (g62_J2 v1 v2 v3 v24 x25) ?_ n_1 _ _ _ _ hl_1 ⟨rfl, gl rfl, gl g1, gl g2, gl g3, gl rfl, gl rfl⟩) ?_
    · clear hr hl_1
      intro s mm_4 t_5 o hi hr
      obtain ⟨x26, m_10⟩ := s
      obtain ⟨rfl, g26, g1, g2, g3, g24, g25⟩ := hi
      unfold g62_b2 at hr
      refine w_seq ?_
      refine w_ops ?_
      have hq := forceB_inv hr
      clear hr
      obtain ⟨c27, e27, hr⟩ := hq
      refine wo_step (v := (.b c27)) (s_pure (p_bin g26 g25 (b_lss.trans (cb e27)))) ?_
      refine wo_nil ?_
      refine nx_norm ?_
      refine w_seq ?_
      have hq := cond_inv hr
      clear hr
      rcases hq with ⟨rfl, hr⟩ | ⟨rfl, hr⟩
      · refine w_condT rfl ?_
        refine w_skip ?_
        refine nx_norm ?_
        refine w_seq ?_
        refine w_block ?_
        refine w_seq ?_
        refine w_ops ?_
        have hq := bindO_inv hr
        clear hr
        obtain ⟨v28, e28, hr⟩ := hq
        refine wo_step (v := v28) (s_pure (o_ixS g24 g26 e28)) ?_
        have hq := bindO_inv hr
        clear hr
        obtain ⟨v29, e29, hr⟩ := hq
        refine wo_step (v := v29) (s_ld rfl e29) ?_
        have hq := bindP_inv hr
        clear hr
        obtain ⟨v7, m_11, e7, hr⟩ := hq
        refine wo_step (v := v7) (s_al e7) ?_
        have hq := bindP_inv hr
        clear hr
        obtain ⟨vn_1, m_12, en_1, hr⟩ := hq
        refine wo_stepN (s_st rfl rfl en_1) ?_
        refine wo_nil ?_
        refine nx_norm ?_
        refine w_seq ?_
        refine w_seq ?_
        refine w_ops ?_
        have hq := bindO_inv hr
        clear hr
        obtain ⟨v30, e30, hr⟩ := hq
        refine wo_step (v := v30) (s_pure (o_faddr rfl e30)) ?_
        have hq := bindO_inv hr
        clear hr
        obtain ⟨v31, e31, hr⟩ := hq
        have hq := asI_inv hr
        clear hr
        obtain ⟨x31, rfl, hr⟩ := hq
        refine wo_step (v := (.i .i64 x31)) (s_ld rfl e31) ?_
        have hq := bindO_inv hr
        clear hr
        obtain ⟨v32, e32, hr⟩ := hq
        refine wo_step (v := v32) (s_pure (o_faddr rfl e32)) ?_
        have hq := bindO_inv hr
        clear hr
        obtain ⟨v33, e33, hr⟩ := hq
        have hq := asI_inv hr
        clear hr
        obtain ⟨x33, rfl, hr⟩ := hq
        refine wo_step (v := (.i .i64 x33)) (s_ld rfl e33) ?_
        have hq := forceB_inv hr
        clear hr
        obtain ⟨c34, e34, hr⟩ := hq
        refine wo_step (v := (.b c34)) (s_pure (p_bin rfl rfl (b_gtr.trans (cb e34)))) ?_
        refine wo_nil ?_
        refine nx_norm ?_
        have hq := bindO_inv hr
        clear hr
        obtain ⟨o_2, hr, hk⟩ := hq
        refine jp_mono (J := g62_J3 v1 v2 v3 v7 v24 x25 x26 o_2) ?_ ?_
        · clear hk
          have hq := cond_inv hr
          clear hr
          rcases hq with ⟨rfl, hr⟩ | ⟨rfl, hr⟩
          · refine w_condT rfl ?_
            refine w_ops ?_
            have hq := bindO_inv hr
            clear hr
            obtain ⟨v35, e35, hr⟩ := hq
            refine wo_step (v := v35) (s_ld rfl e35) ?_
            have hq := bindP_inv hr
            clear hr
            obtain ⟨v36, m_13, e36, hr⟩ := hq
            refine wo_step (v := v36) (s_call (mc rfl mn) (callM_le hM.call e36)) ?_
            have hq := bindP_inv hr
            clear hr
            obtain ⟨vn_2, m_14, en_2, hr⟩ := hq
            refine wo_stepN (s_st rfl rfl en_2) ?_
            refine wo_nil ?_
            cases hr
            exact ⟨_, _, rfl, rfl, rfl, gl g1, gl g2, gl g3, gl rfl, gl g24, gl g25, gl g26⟩
          · refine w_condF rfl ?_
            refine w_skip ?_
            cases hr
            exact ⟨_, _, rfl, rfl, rfl, gl g1, gl g2, gl g3, gl rfl, gl g24, gl g25, gl g26⟩
        · have hr := hk
          clear hk
          obtain ⟨m_15, ho⟩ : ∃ z, z = o_2 := ⟨_, rfl⟩
          subst ho
          rintro _ mm_2 t_6 ⟨rfl, rfl, g1, g2, g3, g7, g24, g25, g26⟩
          refine nx_norm ?_
          refine w_seq ?_
          refine w_ops ?_
          have hq := bindO_inv hr
          clear hr
          obtain ⟨v37, e37, hr⟩ := hq
          refine wo_step (v := v37) (s_pure (o_faddr g7 e37)) ?_
          have hq := bindO_inv hr
          clear hr
          obtain ⟨v38, e38, hr⟩ := hq
          have hq := asI_inv hr
          clear hr
          obtain ⟨x38, rfl, hr⟩ := hq
          refine wo_step (v := (.i .i64 x38)) (s_ld rfl e38) ?_
          have hq := bindO_inv hr
          clear hr
          obtain ⟨v39, e39, hr⟩ := hq
          refine wo_step (v := v39) (s_pure (o_faddr g7 e39)) ?_
          have hq := bindO_inv hr
          clear hr
          obtain ⟨v40, e40, hr⟩ := hq
          have hq := asI_inv hr
          clear hr
          obtain ⟨x40, rfl, hr⟩ := hq
          refine wo_step (v := (.i .i64 x40)) (s_ld rfl e40) ?_
          have hq := forceI_inv hr
          clear hr
          obtain ⟨x41, e41, hr⟩ := hq
          refine wo_step (v := (.i .i64 x41)) (s_pure (p_bin rfl rfl (b_sub.trans (ci e41)))) ?_
          have hq := forceI_inv hr
          clear hr
          obtain ⟨x42, e42, hr⟩ := hq
          refine wo_step (v := (.i .i64 x42)) (s_pure (p_bin rfl rfl (b_add.trans (ci e42)))) ?_
          have hq := chk_inv hr
          clear hr
          obtain ⟨hc43, hr⟩ := hq
          have hq := forceI_inv hr
          clear hr
          obtain ⟨x43, e43, hr⟩ := hq
          refine wo_step (v := (.i .u32 x43)) (s_pure (p_bin rfl rfl ((b_shl hc43).trans (ci e43)))) ?_
          have hq := forceI_inv hr
          clear hr
          obtain ⟨x44, e44, hr⟩ := hq
          refine wo_step (v := (.i .u32 x44)) (s_pure (p_bin rfl rfl (b_sub.trans (ci e44)))) ?_
          refine wo_step (v := (.i .u32 x44)) (s_pure (p_mv rfl)) ?_
          refine wo_nil ?_
          refine nx_norm ?_
          refine w_any ?_
          have hq := bindO_inv hr
          clear hr
          obtain ⟨v45, e45, hr⟩ := hq
          refine wa_step (v := v45) (a_pure (o_faddr g7 e45)) ?_
          have hq := bindO_inv hr
          clear hr
          obtain ⟨v46, e46, hr⟩ := hq
          have hq := asI_inv hr
          clear hr
          obtain ⟨x46, rfl, hr⟩ := hq
          refine wa_step (v := (.i .i64 x46)) (a_ld rfl e46) ?_
          have hq := bindO_inv hr
          clear hr
          obtain ⟨v47, e47, hr⟩ := hq
          refine wa_step (v := v47) (a_pure (o_faddr g7 e47)) ?_
          have hq := bindO_inv hr
          clear hr
          obtain ⟨v48, e48, hr⟩ := hq
          have hq := asI_inv hr
          clear hr
          obtain ⟨x48, rfl, hr⟩ := hq
          refine wa_step (v := (.i .i64 x48)) (a_ld rfl e48) ?_
          have hq := bindO_inv hr
          clear hr
          obtain ⟨v49, e49, hr⟩ := hq
          refine wa_step (v := v49) (a_pure (o_ixA g3 rfl e49)) ?_
          have hq := bindO_inv hr
          clear hr
          obtain ⟨v50, e50, hr⟩ := hq
          refine wa_step (v := v50) (a_pure (o_ixA rfl rfl e50)) ?_
          have hq := bindO_inv hr
          clear hr
          obtain ⟨v51, e51, hr⟩ := hq
          have hq := asI_inv hr
          clear hr
          obtain ⟨x51, rfl, hr⟩ := hq
          refine wa_step (v := (.i .u32 x51)) (a_ld rfl e51) ?_
          have hq := bindO_inv hr
          clear hr
          obtain ⟨v52, e52, hr⟩ := hq
          refine wa_step (v := v52) (a_ld g1 e52) ?_
          refine wa_step (v := (.i .u32 x44)) (a_pure (p_mv rfl)) ?_
          have hq := bindO_inv hr
          clear hr
          obtain ⟨v54, e54, hr⟩ := hq
          refine wa_step (v := v54) (a_ld g1 e54) ?_
          have hq := bindO_inv hr
          clear hr
          obtain ⟨v55, e55, hr⟩ := hq
          refine wa_step (v := v55) (a_pure (o_faddr g7 e55)) ?_
          have hq := bindO_inv hr
          clear hr
          obtain ⟨v56, e56, hr⟩ := hq
          have hq := asI_inv hr
          clear hr
          obtain ⟨x56, rfl, hr⟩ := hq
          refine wa_step (v := (.i .i64 x56)) (a_ld rfl e56) ?_
          have hq := bindO_inv hr
          clear hr
          obtain ⟨v57, e57, hr⟩ := hq
          have hq := asI_inv hr
          clear hr
          obtain ⟨x57, rfl, hr⟩ := hq
          refine wa_step (v := (.i .i64 x57)) (a_call (mc rfl (mc rfl mn)) (callN_le hM.call e57)) ?_
          have hq := bindO_inv hr
          clear hr
          obtain ⟨v58, e58, hr⟩ := hq
          have hq := asI_inv hr
          clear hr
          obtain ⟨x58, rfl, hr⟩ := hq
          refine wa_step (v := (.i .u32 x58)) (a_call (mc rfl (mc rfl (mc rfl mn))) (callN_le hM.call e58)) ?_
          have hq := forceI_inv hr
          clear hr
          obtain ⟨x59, e59, hr⟩ := hq
          refine wa_step (v := (.i .u32 x59)) (a_pure (p_bin rfl rfl (b_and.trans (ci e59)))) ?_
          have hq := bindO_inv hr
          clear hr
          obtain ⟨v60, e60, hr⟩ := hq
          refine wa_step (v := v60) (a_pure (o_ixA g3 rfl e60)) ?_
          have hq := bindO_inv hr
          clear hr
          obtain ⟨v61, e61, hr⟩ := hq
          refine wa_step (v := v61) (a_pure (o_ixA rfl rfl e61)) ?_
          have hq := asP_inv hr
          clear hr
          obtain ⟨qs, eqs, hr⟩ := hq
          refine wa_stepN (a_st (Eq.trans (b := v61) rfl eqs) rfl rfl) ?_
          have hq := bindO_inv hr
          clear hr
          obtain ⟨m_16, ew, hr⟩ := hq
          refine wa_nil ?_
          refine ⟨m_16, ew, ?_⟩
          refine bk_norm ?_
          refine nx_norm ?_
          refine w_ops ?_
          have hq := forceI_inv hr
          clear hr
          obtain ⟨x62, e62, hr⟩ := hq
          refine wo_step (v := (.i .i64 x62)) (s_pure (p_bin g26 rfl (b_add.trans (ci e62)))) ?_
          refine wo_step (v := (.i .i64 x62)) (s_pure (p_mv rfl)) ?_
          refine wo_nil ?_
          cases hr
          exact ⟨_, _, rfl, rfl, rfl, gl rfl, gl g1, gl g2, gl g3, gl g24, gl g25⟩
      · refine w_condF rfl ?_
        refine w_exit ?_
        refine nx_exit ?_
        cases hr
        exact ⟨_, _, rfl, ne_norm_exit, rfl, rfl, gl g2, gl g3⟩
    · obtain ⟨m_17, ho⟩ : ∃ z, z = o_3 := ⟨_, rfl⟩
      subst ho
      rintro _ mm_3 t_7 ⟨rfl, rfl, g2, g3⟩
      refine bk_hit ?_
      refine nx_norm ?_
      refine w_seq ?_
      refine w_ops ?_
      have hq := bindO_inv hr
      clear hr
      obtain ⟨v63, e63, hr⟩ := hq
      refine wo_step (v := v63) (s_ld g3 e63) ?_
      have hq := bindP_inv hr
      clear hr
      obtain ⟨vn_3, m_18, en_3, hr⟩ := hq
      refine wo_stepN (s_st g2 rfl en_3) ?_
      refine wo_nil ?_
      refine nx_norm ?_
      refine w_ret ?_
      have hq := bindO_inv hr
      clear hr
      obtain ⟨vr, er, hr⟩ := hq
      exact qf ret_ok (rc g2 er rn) hr

/- (dibber/turn.hours).least -/

def g63 (M : Means) (ro : List ABlk) (x0 : Int) (m0 : Mm) : Option (AVal × Heap × Nat × Nat) :=
  bindP (callM M.call m0 79 [(.i .u32 x0)]) fun v4 m_1 =>
  asI .i64 v4 fun x4 =>
  finM m0.h.length (tupA [(.i .i64 x4)]) m_1

theorem g63_ok {ro : List ABlk} {O : Caller} {M : Means} (hM : M.Ok ⟨F, O⟩ ro) {x0 h r} (ho : O 63 [(.i .u32 x0)] h = none) (hr : g63 M ro x0 ⟨h, h.length, h.length⟩ = some r) : callX ⟨F, O⟩ ro 63 [(.i .u32 x0)] h = some r := by
  refine callX_of (F := ⟨F, O⟩) (fn := fn63) (g := g63 M ro x0) ho rfl rfl hr ?_
  clear ho
  clear hr
  intro m0 t0 ht hr
  have g0 : t0.get 0 = (.i .u32 x0) := ht 0
  clear ht
  unfold g63 at hr
  refine w_seq ?_
  refine w_ops ?_
  refine wo_step (v := (.i .i64 0)) (s_pure (p_mv rfl)) ?_
  refine wo_nil ?_
  refine nx_norm ?_
  refine w_seq ?_
  refine w_ops ?_
  refine wo_step (v := (.i .u32 x0)) (s_pure (p_mv g0)) ?_
  have hq := bindP_inv hr
  clear hr
  obtain ⟨v4, m_1, e4, hr⟩ := hq
  have hq := asI_inv hr
  clear hr
  obtain ⟨x4, rfl, hr⟩ := hq
  refine wo_step (v := (.i .i64 x4)) (s_call (mc rfl mn) (callM_le hM.call e4)) ?_
  refine wo_step (v := (.i .i64 x4)) (s_pure (p_mv rfl)) ?_
  refine wo_nil ?_
  refine nx_norm ?_
  refine w_ret ?_
  exact qf ret_ok (rt rfl rn) hr

/- (dibber/turn.hours).withoutLeast -/

def g64 (M : Means) (ro : List ABlk) (x0 : Int) (m0 : Mm) : Option (AVal × Heap × Nat × Nat) :=
  forceI (wr .u32 (x0 - 1)) fun x5 =>
  forceI (bitV .and .u32 x0 x5) fun x6 =>
  finM m0.h.length (tupA [(.i .u32 x6)]) m0

theorem g64_ok {ro : List ABlk} {O : Caller} {M : Means} (hM : M.Ok ⟨F, O⟩ ro) {x0 h r} (ho : O 64 [(.i .u32 x0)] h = none) (hr : g64 M ro x0 ⟨h, h.length, h.length⟩ = some r) : callX ⟨F, O⟩ ro 64 [(.i .u32 x0)] h = some r := by
  refine callX_of (F := ⟨F, O⟩) (fn := fn64) (g := g64 M ro x0) ho rfl rfl hr ?_
  clear ho
  clear hr
  intro m0 t0 ht hr
  have g0 : t0.get 0 = (.i .u32 x0) := ht 0
  clear ht
  unfold g64 at hr
  refine w_seq ?_
  refine w_ops ?_
  refine wo_step (v := (.i .u32 0)) (s_pure (p_mv rfl)) ?_
  refine wo_nil ?_
  refine nx_norm ?_
  refine w_seq ?_
  refine w_ops ?_
  refine wo_step (v := (.i .u32 x0)) (s_pure (p_mv g0)) ?_
  refine wo_step (v := (.i .u32 x0)) (s_pure (p_mv g0)) ?_
  have hq := forceI_inv hr
  clear hr
  obtain ⟨x5, e5, hr⟩ := hq
  refine wo_step (v := (.i .u32 x5)) (s_pure (p_bin rfl rfl (b_sub.trans (ci e5)))) ?_
  have hq := forceI_inv hr
  clear hr
  obtain ⟨x6, e6, hr⟩ := hq
  refine wo_step (v := (.i .u32 x6)) (s_pure (p_bin rfl rfl (b_and.trans (ci e6)))) ?_
  refine wo_step (v := (.i .u32 x6)) (s_pure (p_mv rfl)) ?_
  refine wo_nil ?_
  refine nx_norm ?_
  refine w_ret ?_
  exact qf ret_ok (rt rfl rn) hr

/- (dibber/turn.demands).open -/
abbrev g65_I0 (v2 : AVal) (v3 : AVal) (v4 : AVal) (x13 : Int) (m_3 : Mm) (s : Int × Int) (m1 : Mm) (t1 : Tr) : Prop :=
  match s with
  | (x7, x14) => m_3 = m1 ∧ t1.get 7 = (.i .u32 x7) ∧ t1.get 14 = (.i .i64 x14) ∧ t1.get 2 = v2 ∧ t1.get 3 = v3 ∧ t1.get 4 = v4 ∧ t1.get 12 = v2 ∧ t1.get 13 = (.i .i64 x13)
abbrev g65_J0 (v2 : AVal) (v3 : AVal) (v4 : AVal) (x13 : Int) (m_3 : Mm) (o : Int) (e : AExit) (m1 : Mm) (t1 : Tr) : Prop :=
  match o with
  | y7 => e = (.exit 0) ∧ m_3 = m1 ∧ t1.get 7 = (.i .u32 y7)
def g65_b0 (M : Means) (ro : List ABlk) (v2 : AVal) (v3 : AVal) (v4 : AVal) (x13 : Int) (m_3 : Mm) (x7 : Int) (x14 : Int) : Option ((Int × Int) ⊕ (Int)) :=
  forceB (ltI x14 x13) fun c15 =>
  cond c15 (
    bindO (evP .e (.ixS 1 (.c v2) (.c (.i .i64 x14)))) fun v17 =>
    bindO (ldM ro m_3 true 1 v17) fun v18 =>
    asI .i64 v18 fun x18 =>
    bindO (ldA ro m_3.h false 3 v3) fun v20 =>
    bindO (evP .e (.len false (.c v2))) fun v23 =>
    asI .i64 v23 fun x23 =>
    bindO (evP .e (.ixA 6 6 (.c v4) (.c (.i .i64 x14)))) fun v24 =>
    bindO (evP .e (.ixA 6 1 (.c v24) (.c (.i .i64 x23)))) fun v25 =>
    bindO (ldA ro m_3.h true 1 v25) fun v26 =>
    asI .u32 v26 fun x26 =>
    bindO (callN M.call m_3.h 78 [v20, (.i .u32 x26), (.i .i64 x18)]) fun v28 =>
    asI .u32 v28 fun x28 =>
    forceI (bitV .and .u32 x7 x28) fun x29 =>
    forceI (wr .i64 (x14 + 1)) fun x30 =>
    some (.inl (x29, x30))) (
    some (.inr x7))
def g65 (M : Means) (ro : List ABlk) (v0 : AVal) (v1 : AVal) (v2 : AVal) (m0 : Mm) : Option (AVal × Heap × Nat × Nat) :=
  bindP (stepM ro m0 (.bx 55 3 (.c v0))) fun v3 m_1 =>
  bindP (stepM ro m_1 (.bx 84 36 (.c v1))) fun v4 m_2 =>
  bindO (ldM ro m_2 false 3 v3) fun v10 =>
  bindP (callM M.call m_2 76 [v10]) fun v11 m_3 =>
  asI .u32 v11 fun x11 =>
  bindO (evP .e (.len false (.c v2))) fun v13 =>
  asI .i64 v13 fun x13 =>
  bindO (M.loop (S := Int × Int) (R := Int) (fun s => g65_b0 M ro v2 v3 v4 x13 m_3 s.1 s.2) (x11, 0)) fun x7_1 =>
  finM m0.h.length (tupA [(.i .u32 x7_1)]) m_3

theorem g65_ok {ro : List ABlk} {O : Caller} {M : Means} (hM : M.Ok ⟨F, O⟩ ro) {v0 v1 v2 h r} (ho : O 65 [v0, v1, v2] h = none) (hr : g65 M ro v0 v1 v2 ⟨h, h.length, h.length⟩ = some r) : callX ⟨F, O⟩ ro 65 [v0, v1, v2] h = some r := by
  refine callX_of (F := ⟨F, O⟩) (fn := fn65) (g := g65 M ro v0 v1 v2) ho rfl rfl hr ?_
  clear ho
  clear hr
  intro m0 t0 ht hr
  have g0 : t0.get 0 = v0 := ht 0
  have g1 : t0.get 1 = v1 := ht 1
  have g2 : t0.get 2 = v2 := ht 2
  clear ht
  unfold g65 at hr
  refine w_seq ?_
  refine w_ops ?_
  have hq := bindP_inv hr
  clear hr
  obtain ⟨v3, m_1, e3, hr⟩ := hq
  refine wo_step (v := v3) (s_bx g0 e3) ?_
  have hq := bindP_inv hr
  clear hr
  obtain ⟨v4, m_2, e4, hr⟩ := hq
  refine wo_step (v := v4) (s_bx g1 e4) ?_
  refine wo_step (v := (.i .u32 0)) (s_pure (p_mv rfl)) ?_
  refine wo_nil ?_
  refine nx_norm ?_
  refine w_seq ?_
  refine w_ops ?_
  have hq := bindO_inv hr
  clear hr
  obtain ⟨v10, e10, hr⟩ := hq
  refine wo_step (v := v10) (s_ld rfl e10) ?_
  have hq := bindP_inv hr
  clear hr
  obtain ⟨v11, m_3, e11, hr⟩ := hq
  have hq := asI_inv hr
  clear hr
  obtain ⟨x11, rfl, hr⟩ := hq
  refine wo_step (v := (.i .u32 x11)) (s_call (mc rfl mn) (callM_le hM.call e11)) ?_
  refine wo_step (v := (.i .u32 x11)) (s_pure (p_mv rfl)) ?_
  refine wo_nil ?_
  refine nx_norm ?_
  refine w_seq ?_
  refine w_seq ?_
  refine w_ops ?_
  refine wo_step (v := v2) (s_pure (p_mv g2)) ?_
  have hq := bindO_inv hr
  clear hr
  obtain ⟨v13, e13, hr⟩ := hq
  have hq := asI_inv hr
  clear hr
  obtain ⟨x13, rfl, hr⟩ := hq
  refine wo_step (v := (.i .i64 x13)) (s_pure (o_len rfl e13)) ?_
  refine wo_step (v := (.i .i64 0)) (s_pure (p_mv rfl)) ?_
  refine wo_nil ?_
  refine nx_norm ?_
  refine w_block ?_
  have hq := bindO_inv hr
  clear hr
  obtain ⟨o, hl, hr⟩ := hq
  obtain ⟨n, hl⟩ := hM.loop _ _ _ hl
  refine jp_mono (w_loop _ (g65_I0 v2 v3 v4 x13 m_3) (g65_J0 v2 v3 v4 x13 m_3) ?_ n _ _ _ _ hl ⟨rfl, gl rfl, gl rfl, gl g2, gl rfl, gl rfl, gl rfl, gl rfl⟩) ?_
  · clear hr hl
    intro s mm_1 t_1 o hi hr
    obtain ⟨x7, x14⟩ := s
    obtain ⟨rfl, g7, g14, g2, g3, g4, g12, g13⟩ := hi
    unfold g65_b0 at hr
    refine w_seq ?_
    refine w_ops ?_
    have hq := forceB_inv hr
    clear hr
    obtain ⟨c15, e15, hr⟩ := hq
    refine wo_step (v := (.b c15)) (s_pure (p_bin g14 g13 (b_lss.trans (cb e15)))) ?_
    refine wo_nil ?_
    refine nx_norm ?_
    refine w_seq ?_
    have hq := cond_inv hr
    clear hr
    rcases hq with ⟨rfl, hr⟩ | ⟨rfl, hr⟩
    · refine w_condT rfl ?_
      refine w_skip ?_
      refine nx_norm ?_
      refine w_seq ?_
      refine w_block ?_
      refine w_seq ?_
      refine w_ops ?_
      refine wo_step (v := (.i .i64 x14)) (s_pure (p_mv g14)) ?_
      have hq := bindO_inv hr
      clear hr
      obtain ⟨v17, e17, hr⟩ := hq
      refine wo_step (v := v17) (s_pure (o_ixS g12 g14 e17)) ?_
      have hq := bindO_inv hr
      clear hr
      obtain ⟨v18, e18, hr⟩ := hq
      have hq := asI_inv hr
      clear hr
      obtain ⟨x18, rfl, hr⟩ := hq
      refine wo_step (v := (.i .i64 x18)) (s_ld rfl e18) ?_
      refine wo_step (v := (.i .i64 x14)) (s_pure (p_mv rfl)) ?_
      refine wo_step (v := (.i .i64 x18)) (s_pure (p_mv rfl)) ?_
      refine wo_nil ?_
      refine nx_norm ?_
      refine w_any ?_
      refine wa_step (v := (.i .u32 x7)) (a_pure (p_mv g7)) ?_
      have hq := bindO_inv hr
      clear hr
      obtain ⟨v20, e20, hr⟩ := hq
      refine wa_step (v := v20) (a_ld g3 e20) ?_
      refine wa_step (v := (.i .i64 x14)) (a_pure (p_mv rfl)) ?_
      refine wa_step (v := v2) (a_pure (p_mv g2)) ?_
      have hq := bindO_inv hr
      clear hr
      obtain ⟨v23, e23, hr⟩ := hq
      have hq := asI_inv hr
      clear hr
      obtain ⟨x23, rfl, hr⟩ := hq
      refine wa_step (v := (.i .i64 x23)) (a_pure (o_len rfl e23)) ?_
      have hq := bindO_inv hr
      clear hr
      obtain ⟨v24, e24, hr⟩ := hq
      refine wa_step (v := v24) (a_pure (o_ixA g4 rfl e24)) ?_
      have hq := bindO_inv hr
      clear hr
      obtain ⟨v25, e25, hr⟩ := hq
      refine wa_step (v := v25) (a_pure (o_ixA rfl rfl e25)) ?_
      have hq := bindO_inv hr
      clear hr
      obtain ⟨v26, e26, hr⟩ := hq
      have hq := asI_inv hr
      clear hr
      obtain ⟨x26, rfl, hr⟩ := hq
      refine wa_step (v := (.i .u32 x26)) (a_ld rfl e26) ?_
      refine wa_step (v := (.i .i64 x18)) (a_pure (p_mv rfl)) ?_
      have hq := bindO_inv hr
      clear hr
      obtain ⟨v28, e28, hr⟩ := hq
      have hq := asI_inv hr
      clear hr
      obtain ⟨x28, rfl, hr⟩ := hq
      refine wa_step (v := (.i .u32 x28)) (a_call (mc rfl (mc rfl (mc rfl mn))) (callN_le hM.call e28)) ?_
      have hq := forceI_inv hr
      clear hr
      obtain ⟨x29, e29, hr⟩ := hq
      refine wa_step (v := (.i .u32 x29)) (a_pure (p_bin rfl rfl (b_and.trans (ci e29)))) ?_
      refine wa_step (v := (.i .u32 x29)) (a_pure (p_mv rfl)) ?_
      refine wa_nil ?_
      refine ⟨m_3, rfl, ?_⟩
      refine bk_norm ?_
      refine nx_norm ?_
      refine w_ops ?_
      have hq := forceI_inv hr
      clear hr
      obtain ⟨x30, e30, hr⟩ := hq
      refine wo_step (v := (.i .i64 x30)) (s_pure (p_bin g14 rfl (b_add.trans (ci e30)))) ?_
      refine wo_step (v := (.i .i64 x30)) (s_pure (p_mv rfl)) ?_
      refine wo_nil ?_
      cases hr
      exact ⟨_, _, rfl, rfl, rfl, gl rfl, gl rfl, gl g2, gl g3, gl g4, gl g12, gl g13⟩
    · refine w_condF rfl ?_
      refine w_exit ?_
      refine nx_exit ?_
      cases hr
      exact ⟨_, _, rfl, ne_norm_exit, rfl, rfl, gl g7⟩
  · obtain ⟨x7_1, ho⟩ : ∃ z, z = o := ⟨_, rfl⟩
    subst ho
    rintro _ mm t_2 ⟨rfl, rfl, g7⟩
    refine bk_hit ?_
    refine nx_norm ?_
    refine w_seq ?_
    refine w_ops ?_
    refine wo_step (v := (.i .u32 x7_1)) (s_pure (p_mv g7)) ?_
    refine wo_step (v := (.i .u32 x7_1)) (s_pure (p_mv rfl)) ?_
    refine wo_nil ?_
    refine nx_norm ?_
    refine w_ret ?_
    exact qf ret_ok (rt rfl rn) hr

/- (dibber/turn.demands).modulo -/

def g70 (M : Means) (ro : List ABlk) (v0 : AVal) (x1 : Int) (m0 : Mm) : Option (AVal × Heap × Nat × Nat) :=
  bindP (stepM ro m0 (.bx 55 3 (.c v0))) fun v2 m_1 =>
  bindO (evP .e (.faddr 0 (.c v2))) fun v6 =>
  bindO (ldA ro m_1.h true 1 v6) fun v7 =>
  asI .i64 v7 fun x7 =>
  chk (!eqI x7 (.ofNat 0)) <|
  forceI (Int.tmod x1 x7) fun x8 =>
  bindO (evP .e (.faddr 0 (.c v2))) fun v9 =>
  bindO (ldA ro m_1.h true 1 v9) fun v10 =>
  asI .i64 v10 fun x10 =>
  forceI (wr .i64 (x8 + x10)) fun x11 =>
  bindO (evP .e (.faddr 0 (.c v2))) fun v12 =>
  bindO (ldA ro m_1.h true 1 v12) fun v13 =>
  asI .i64 v13 fun x13 =>
  chk (!eqI x13 (.ofNat 0)) <|
  forceI (Int.tmod x11 x13) fun x14 =>
  finM m0.h.length (tupA [(.i .i64 x14)]) m_1

theorem g70_ok {ro : List ABlk} {O : Caller} {M : Means} (hM : M.Ok ⟨F, O⟩ ro) {v0 x1 h r} (ho : O 70 [v0, (.i .i64 x1)] h = none) (hr : g70 M ro v0 x1 ⟨h, h.length, h.length⟩ = some r) : callX ⟨F, O⟩ ro 70 [v0, (.i .i64 x1)] h = some r := by
  refine callX_of (F := ⟨F, O⟩) (fn := fn70) (g := g70 M ro v0 x1) ho rfl rfl hr ?_
  clear ho
  clear hr
  intro m0 t0 ht hr
  have g0 : t0.get 0 = v0 := ht 0
  have g1 : t0.get 1 = (.i .i64 x1) := ht 1
  clear ht
  unfold g70 at hr
  refine w_seq ?_
  refine w_ops ?_
  have hq := bindP_inv hr
  clear hr
  obtain ⟨v2, m_1, e2, hr⟩ := hq
  refine wo_step (v := v2) (s_bx g0 e2) ?_
  refine wo_step (v := (.i .i64 0)) (s_pure (p_mv rfl)) ?_
  refine wo_nil ?_
  refine nx_norm ?_
  refine w_seq ?_
  refine w_any ?_
  refine wa_step (v := (.i .i64 x1)) (a_pure (p_mv g1)) ?_
  have hq := bindO_inv hr
  clear hr
  obtain ⟨v6, e6, hr⟩ := hq
  refine wa_step (v := v6) (a_pure (o_faddr rfl e6)) ?_
  have hq := bindO_inv hr
  clear hr
  obtain ⟨v7, e7, hr⟩ := hq
  have hq := asI_inv hr
  clear hr
  obtain ⟨x7, rfl, hr⟩ := hq
  refine wa_step (v := (.i .i64 x7)) (a_ld rfl e7) ?_
  have hq := chk_inv hr
  clear hr
  obtain ⟨hc8, hr⟩ := hq
  have hq := forceI_inv hr
  clear hr
  obtain ⟨x8, e8, hr⟩ := hq
  refine wa_step (v := (.i .i64 x8)) (a_pure (p_bin rfl rfl ((b_rem hc8).trans (ci e8)))) ?_
  have hq := bindO_inv hr
  clear hr
  obtain ⟨v9, e9, hr⟩ := hq
  refine wa_step (v := v9) (a_pure (o_faddr rfl e9)) ?_
  have hq := bindO_inv hr
  clear hr
  obtain ⟨v10, e10, hr⟩ := hq
  have hq := asI_inv hr
  clear hr
  obtain ⟨x10, rfl, hr⟩ := hq
  refine wa_step (v := (.i .i64 x10)) (a_ld rfl e10) ?_
  have hq := forceI_inv hr
  clear hr
  obtain ⟨x11, e11, hr⟩ := hq
  refine wa_step (v := (.i .i64 x11)) (a_pure (p_bin rfl rfl (b_add.trans (ci e11)))) ?_
  have hq := bindO_inv hr
  clear hr
  obtain ⟨v12, e12, hr⟩ := hq
  refine wa_step (v := v12) (a_pure (o_faddr rfl e12)) ?_
  have hq := bindO_inv hr
  clear hr
  obtain ⟨v13, e13, hr⟩ := hq
  have hq := asI_inv hr
  clear hr
  obtain ⟨x13, rfl, hr⟩ := hq
  refine wa_step (v := (.i .i64 x13)) (a_ld rfl e13) ?_
  have hq := chk_inv hr
  clear hr
  obtain ⟨hc14, hr⟩ := hq
  have hq := forceI_inv hr
  clear hr
  obtain ⟨x14, e14, hr⟩ := hq
  refine wa_step (v := (.i .i64 x14)) (a_pure (p_bin rfl rfl ((b_rem hc14).trans (ci e14)))) ?_
  refine wa_step (v := (.i .i64 x14)) (a_pure (p_mv rfl)) ?_
  refine wa_nil ?_
  refine ⟨m_1, rfl, ?_⟩
  refine nx_norm ?_
  refine w_ret ?_
  exact qf ret_ok (rt rfl rn) hr

/- (dibber/turn.demands).all -/

def g76 (M : Means) (ro : List ABlk) (v0 : AVal) (m0 : Mm) : Option (AVal × Heap × Nat × Nat) :=
  bindP (stepM ro m0 (.bx 55 3 (.c v0))) fun v1 m_1 =>
  bindO (evP .e (.faddr 0 (.c v1))) fun v3 =>
  bindO (ldM ro m_1 true 1 v3) fun v4 =>
  asI .i64 v4 fun x4 =>
  chk (!ltI x4 (.ofNat 0)) <|
  forceI (shlV .u32 1 x4) fun x5 =>
  forceI (wr .u32 (x5 - 1)) fun x6 =>
  finM m0.h.length (tupA [(.i .u32 x6)]) m_1

theorem g76_ok {ro : List ABlk} {O : Caller} {M : Means} (hM : M.Ok ⟨F, O⟩ ro) {v0 h r} (ho : O 76 [v0] h = none) (hr : g76 M ro v0 ⟨h, h.length, h.length⟩ = some r) : callX ⟨F, O⟩ ro 76 [v0] h = some r := by
  refine callX_of (F := ⟨F, O⟩) (fn := fn76) (g := g76 M ro v0) ho rfl rfl hr ?_
  clear ho
  clear hr
  intro m0 t0 ht hr
  have g0 : t0.get 0 = v0 := ht 0
  clear ht
  unfold g76 at hr
  refine w_seq ?_
  refine w_ops ?_
  have hq := bindP_inv hr
  clear hr
  obtain ⟨v1, m_1, e1, hr⟩ := hq
  refine wo_step (v := v1) (s_bx g0 e1) ?_
  refine wo_step (v := (.i .u32 0)) (s_pure (p_mv rfl)) ?_
  refine wo_nil ?_
  refine nx_norm ?_
  refine w_seq ?_
  refine w_ops ?_
  have hq := bindO_inv hr
  clear hr
  obtain ⟨v3, e3, hr⟩ := hq
  refine wo_step (v := v3) (s_pure (o_faddr rfl e3)) ?_
  have hq := bindO_inv hr
  clear hr
  obtain ⟨v4, e4, hr⟩ := hq
  have hq := asI_inv hr
  clear hr
  obtain ⟨x4, rfl, hr⟩ := hq
  refine wo_step (v := (.i .i64 x4)) (s_ld rfl e4) ?_
  have hq := chk_inv hr
  clear hr
  obtain ⟨hc5, hr⟩ := hq
  have hq := forceI_inv hr
  clear hr
  obtain ⟨x5, e5, hr⟩ := hq
  refine wo_step (v := (.i .u32 x5)) (s_pure (p_bin rfl rfl ((b_shl hc5).trans (ci e5)))) ?_
  have hq := forceI_inv hr
  clear hr
  obtain ⟨x6, e6, hr⟩ := hq
  refine wo_step (v := (.i .u32 x6)) (s_pure (p_bin rfl rfl (b_sub.trans (ci e6)))) ?_
  refine wo_step (v := (.i .u32 x6)) (s_pure (p_mv rfl)) ?_
  refine wo_nil ?_
  refine nx_norm ?_
  refine w_ret ?_
  exact qf ret_ok (rt rfl rn) hr

/- dibber/turn.turned -/

def g77 (M : Means) (ro : List ABlk) (v0 : AVal) (m0 : Mm) : Option (AVal × Heap × Nat × Nat) :=
  bindP (stepM ro m0 (.bx 31 4 (.c v0))) fun v1 m_1 =>
  bindP (stepM ro m_1 (.al 31 [(AVal.i IntKind.i64 0), (AVal.i IntKind.i64 0), (AVal.i IntKind.i64 0), (AVal.i IntKind.i64 0)])) fun v2 m_2 =>
  bindO (evP .e (.faddr 1 (.c v1))) fun v3 =>
  bindO (ldM ro m_2 true 1 v3) fun v4 =>
  asI .i64 v4 fun x4 =>
  bindO (evP .e (.faddr 0 (.c v1))) fun v5 =>
  bindO (ldM ro m_2 true 1 v5) fun v6 =>
  asI .i64 v6 fun x6 =>
  bindO (evP .e (.faddr 3 (.c v1))) fun v7 =>
  bindO (ldM ro m_2 true 1 v7) fun v8 =>
  asI .i64 v8 fun x8 =>
  forceI (wr .i64 (0 - x8)) fun x9 =>
  bindO (evP .e (.faddr 2 (.c v1))) fun v10 =>
  bindO (ldM ro m_2 true 1 v10) fun v11 =>
  asI .i64 v11 fun x11 =>
  forceI (wr .i64 (0 - x11)) fun x12 =>
  bindO ((fillA [(AVal.i IntKind.i64 0), (AVal.i IntKind.i64 0), (AVal.i IntKind.i64 0), (AVal.i IntKind.i64 0)] [((0, 1), (.i .i64 x4)), ((1, 1), (.i .i64 x6)), ((2, 1), (.i .i64 x9)), ((3, 1), (.i .i64 x12))]).map AVal.agg) fun v13 =>
  bindP (stepM ro m_2 (.st 4 (.c v2) (.c v13))) fun vn m_3 =>
  bindO (ldM ro m_3 false 4 v2) fun vr =>
  finM m0.h.length (tupA [vr]) m_3

theorem g77_ok {ro : List ABlk} {O : Caller} {M : Means} (hM : M.Ok ⟨F, O⟩ ro) {v0 h r} (ho : O 77 [v0] h = none) (hr : g77 M ro v0 ⟨h, h.length, h.length⟩ = some r) : callX ⟨F, O⟩ ro 77 [v0] h = some r := by
  refine callX_of (F := ⟨F, O⟩) (fn := fn77) (g := g77 M ro v0) ho rfl rfl hr ?_
  clear ho
  clear hr
  intro m0 t0 ht hr
  have g0 : t0.get 0 = v0 := ht 0
  clear ht
  unfold g77 at hr
  refine w_seq ?_
  refine w_ops ?_
  have hq := bindP_inv hr
  clear hr
  obtain ⟨v1, m_1, e1, hr⟩ := hq
  refine wo_step (v := v1) (s_bx g0 e1) ?_
  have hq := bindP_inv hr
  clear hr
  obtain ⟨v2, m_2, e2, hr⟩ := hq
  refine wo_step (v := v2) (s_al e2) ?_
  refine wo_nil ?_
  refine nx_norm ?_
  refine w_seq ?_
  refine w_ops ?_
  have hq := bindO_inv hr
  clear hr
  obtain ⟨v3, e3, hr⟩ := hq
  refine wo_step (v := v3) (s_pure (o_faddr rfl e3)) ?_
  have hq := bindO_inv hr
  clear hr
  obtain ⟨v4, e4, hr⟩ := hq
  have hq := asI_inv hr
  clear hr
  obtain ⟨x4, rfl, hr⟩ := hq
  refine wo_step (v := (.i .i64 x4)) (s_ld rfl e4) ?_
  have hq := bindO_inv hr
  clear hr
  obtain ⟨v5, e5, hr⟩ := hq
  refine wo_step (v := v5) (s_pure (o_faddr rfl e5)) ?_
  have hq := bindO_inv hr
  clear hr
  obtain ⟨v6, e6, hr⟩ := hq
  have hq := asI_inv hr
  clear hr
  obtain ⟨x6, rfl, hr⟩ := hq
  refine wo_step (v := (.i .i64 x6)) (s_ld rfl e6) ?_
  have hq := bindO_inv hr
  clear hr
  obtain ⟨v7, e7, hr⟩ := hq
  refine wo_step (v := v7) (s_pure (o_faddr rfl e7)) ?_
  have hq := bindO_inv hr
  clear hr
  obtain ⟨v8, e8, hr⟩ := hq
  have hq := asI_inv hr
  clear hr
  obtain ⟨x8, rfl, hr⟩ := hq
  refine wo_step (v := (.i .i64 x8)) (s_ld rfl e8) ?_
  have hq := forceI_inv hr
  clear hr
  obtain ⟨x9, e9, hr⟩ := hq
  refine wo_step (v := (.i .i64 x9)) (s_pure ((p_neg rfl).trans (ci e9))) ?_
  have hq := bindO_inv hr
  clear hr
  obtain ⟨v10, e10, hr⟩ := hq
  refine wo_step (v := v10) (s_pure (o_faddr rfl e10)) ?_
  have hq := bindO_inv hr
  clear hr
  obtain ⟨v11, e11, hr⟩ := hq
  have hq := asI_inv hr
  clear hr
  obtain ⟨x11, rfl, hr⟩ := hq
  refine wo_step (v := (.i .i64 x11)) (s_ld rfl e11) ?_
  have hq := forceI_inv hr
  clear hr
  obtain ⟨x12, e12, hr⟩ := hq
  refine wo_step (v := (.i .i64 x12)) (s_pure ((p_neg rfl).trans (ci e12))) ?_
  have hq := bindO_inv hr
  clear hr
  obtain ⟨v13, e13, hr⟩ := hq
  refine wo_step (v := v13) (s_pure (o_build (qc rfl (qc rfl (qc rfl (qc rfl qn)))) e13)) ?_
  have hq := bindP_inv hr
  clear hr
  obtain ⟨vn, m_3, en, hr⟩ := hq
  refine wo_stepN (s_st rfl rfl en) ?_
  refine wo_nil ?_
  refine nx_norm ?_
  refine w_ret ?_
  have hq := bindO_inv hr
  clear hr
  obtain ⟨vr, er, hr⟩ := hq
  exact qf ret_ok (rc rfl er rn) hr

/- (dibber/turn.demands).later -/

def g78 (M : Means) (ro : List ABlk) (v0 : AVal) (x1 : Int) (x2 : Int) (m0 : Mm) : Option (AVal × Heap × Nat × Nat) :=
  bindP (stepM ro m0 (.bx 55 3 (.c v0))) fun v3 m_1 =>
  chk (!ltI x2 (.ofNat 0)) <|
  forceI (shlV .u32 x1 x2) fun x9 =>
  bindO (evP .e (.faddr 0 (.c v3))) fun v11 =>
  bindO (ldA ro m_1.h true 1 v11) fun v12 =>
  asI .i64 v12 fun x12 =>
  forceI (wr .i64 (x12 - x2)) fun x14 =>
  chk (!ltI x14 (.ofNat 0)) <|
  forceI (shrV .u32 x1 x14) fun x15 =>
  forceI (bitV .or .u32 x9 x15) fun x16 =>
  bindO (ldA ro m_1.h false 3 v3) fun v17 =>
  bindO (callN M.call m_1.h 76 [v17]) fun v18 =>
  asI .u32 v18 fun x18 =>
  forceI (bitV .and .u32 x16 x18) fun x19 =>
  finM m0.h.length (tupA [(.i .u32 x19)]) m_1

theorem g78_ok {ro : List ABlk} {O : Caller} {M : Means} (hM : M.Ok ⟨F, O⟩ ro) {v0 x1 x2 h r} (ho : O 78 [v0, (.i .u32 x1), (.i .i64 x2)] h = none) (hr : g78 M ro v0 x1 x2 ⟨h, h.length, h.length⟩ = some r) : callX ⟨F, O⟩ ro 78 [v0, (.i .u32 x1), (.i .i64 x2)] h = some r := by
  refine callX_of (F := ⟨F, O⟩) (fn := fn78) (g := g78 M ro v0 x1 x2) ho rfl rfl hr ?_
  clear ho
  clear hr
  intro m0 t0 ht hr
  have g0 : t0.get 0 = v0 := ht 0
  have g1 : t0.get 1 = (.i .u32 x1) := ht 1
  have g2 : t0.get 2 = (.i .i64 x2) := ht 2
  clear ht
  unfold g78 at hr
  refine w_seq ?_
  refine w_ops ?_
  have hq := bindP_inv hr
  clear hr
  obtain ⟨v3, m_1, e3, hr⟩ := hq
  refine wo_step (v := v3) (s_bx g0 e3) ?_
  refine wo_step (v := (.i .u32 0)) (s_pure (p_mv rfl)) ?_
  refine wo_nil ?_
  refine nx_norm ?_
  refine w_seq ?_
  refine w_any ?_
  refine wa_step (v := (.i .u32 x1)) (a_pure (p_mv g1)) ?_
  refine wa_step (v := (.i .i64 x2)) (a_pure (p_mv g2)) ?_
  have hq := chk_inv hr
  clear hr
  obtain ⟨hc9, hr⟩ := hq
  have hq := forceI_inv hr
  clear hr
  obtain ⟨x9, e9, hr⟩ := hq
  refine wa_step (v := (.i .u32 x9)) (a_pure (p_bin rfl rfl ((b_shl hc9).trans (ci e9)))) ?_
  refine wa_step (v := (.i .u32 x1)) (a_pure (p_mv g1)) ?_
  have hq := bindO_inv hr
  clear hr
  obtain ⟨v11, e11, hr⟩ := hq
  refine wa_step (v := v11) (a_pure (o_faddr rfl e11)) ?_
  have hq := bindO_inv hr
  clear hr
  obtain ⟨v12, e12, hr⟩ := hq
  have hq := asI_inv hr
  clear hr
  obtain ⟨x12, rfl, hr⟩ := hq
  refine wa_step (v := (.i .i64 x12)) (a_ld rfl e12) ?_
  refine wa_step (v := (.i .i64 x2)) (a_pure (p_mv g2)) ?_
  have hq := forceI_inv hr
  clear hr
  obtain ⟨x14, e14, hr⟩ := hq
  refine wa_step (v := (.i .i64 x14)) (a_pure (p_bin rfl rfl (b_sub.trans (ci e14)))) ?_
  have hq := chk_inv hr
  clear hr
  obtain ⟨hc15, hr⟩ := hq
  have hq := forceI_inv hr
  clear hr
  obtain ⟨x15, e15, hr⟩ := hq
  refine wa_step (v := (.i .u32 x15)) (a_pure (p_bin rfl rfl ((b_shr hc15).trans (ci e15)))) ?_
  have hq := forceI_inv hr
  clear hr
  obtain ⟨x16, e16, hr⟩ := hq
  refine wa_step (v := (.i .u32 x16)) (a_pure (p_bin rfl rfl (b_or.trans (ci e16)))) ?_
  have hq := bindO_inv hr
  clear hr
  obtain ⟨v17, e17, hr⟩ := hq
  refine wa_step (v := v17) (a_ld rfl e17) ?_
  have hq := bindO_inv hr
  clear hr
  obtain ⟨v18, e18, hr⟩ := hq
  have hq := asI_inv hr
  clear hr
  obtain ⟨x18, rfl, hr⟩ := hq
  refine wa_step (v := (.i .u32 x18)) (a_call (mc rfl mn) (callN_le hM.call e18)) ?_
  have hq := forceI_inv hr
  clear hr
  obtain ⟨x19, e19, hr⟩ := hq
  refine wa_step (v := (.i .u32 x19)) (a_pure (p_bin rfl rfl (b_and.trans (ci e19)))) ?_
  refine wa_step (v := (.i .u32 x19)) (a_pure (p_mv rfl)) ?_
  refine wa_nil ?_
  refine ⟨m_1, rfl, ?_⟩
  refine nx_norm ?_
  refine w_ret ?_
  exact qf ret_ok (rt rfl rn) hr

end Go.Proofs.YtddnpchfjdgigaaDoor.T

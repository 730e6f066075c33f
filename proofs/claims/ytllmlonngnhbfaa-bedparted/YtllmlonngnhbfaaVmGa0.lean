/- Plain functions, and that the small machine answers as they do. -/
import Derived.Test.YtllmlonngnhbfaaVmP
import Derived.Test.YtllmlonngnhbfaaVmAE
open Go.Vm
set_option linter.unusedVariables false
namespace Go.Proofs.Ytllmlonngnhbfaa.Bed
open Go
/- dibber/dibberlaw01.BedParted -/
abbrev g13_J0 (v0 : AVal) (o : Bool × Mm) (m1 : Mm) (t1 : Tr) : Prop :=
  match o with
  | (c14, m_2) => m_2 = m1 ∧ t1.get 14 = (.b c14) ∧ t1.get 0 = v0
abbrev g13_J1 (v0 : AVal) (m_2 : Mm) (o : Bool) (m1 : Mm) (t1 : Tr) : Prop :=
  match o with
  | c19 => m_2 = m1 ∧ t1.get 19 = (.b c19) ∧ t1.get 0 = v0
abbrev g13_I2 (v0 : AVal) (s : AVal × Int × Mm) (m1 : Mm) (t1 : Tr) : Prop :=
  match s with
  | (v3, x4, m_5) => m_5 = m1 ∧ t1.get 3 = v3 ∧ t1.get 4 = (.i .i64 x4) ∧ t1.get 0 = v0
abbrev g13_J2 (v0 : AVal) (o : (AVal × Mm)) (e : AExit) (m1 : Mm) (t1 : Tr) : Prop :=
  match o with
  | (y3, mo) => e = (.exit 0) ∧ mo = m1 ∧ t1.get 3 = y3 ∧ t1.get 0 = v0
def g13_b2 (M : Means) (ro : List ABlk) (v0 : AVal) (v3 : AVal) (x4 : Int) (m_5 : Mm) : Option ((AVal × Int × Mm) ⊕ ((AVal × Mm))) :=
  bindO (evP .e (.len false (.c v0))) fun v23 =>
  asI .i64 v23 fun x23 =>
  forceB (ltI x4 x23) fun c24 =>
  cond c24 (
    bindO (evP .e (.len false (.c v0))) fun v29 =>
    asI .i64 v29 fun x29 =>
    bindP (stepM ro m_5 (.mk 4 1 1 [(AVal.b false)] (.c (.i .i64 x29)) (.c (.i .i64 x29)))) fun v30 m_6 =>
    bindP (stepM ro m_6 (.bsl 48 1 [AVal.nsl] 1 [((0, 1), .c v30)])) fun v31 m_7 =>
    bindP (stepM ro m_7 (.app 48 1 24 [AVal.nsl] (.c v3) (.c v31))) fun v32 m_8 =>
    forceI (wr .i64 (x4 + 1)) fun x26 =>
    some (.inl (v32, x26, m_8))) (
    some (.inr (v3, m_5)))
abbrev g13_J3 (m_11 : Mm) (o : Bool) (m1 : Mm) (t1 : Tr) : Prop :=
  match o with
  | c51 => m_11 = m1 ∧ t1.get 51 = (.b c51)
abbrev g13_J4 (m_11 : Mm) (o : Bool) (m1 : Mm) (t1 : Tr) : Prop :=
  match o with
  | c51_1 => m_11 = m1 ∧ t1.get 51 = (.b c51_1)
abbrev g13_J5  (o : Bool × Mm) (m1 : Mm) (t1 : Tr) : Prop :=
  match o with
  | (c54, m_12) => m_12 = m1 ∧ t1.get 54 = (.b c54)
def g13 (M : Means) (ro : List ABlk) (v0 : AVal) (m0 : Mm) : Option (AVal × Heap × Nat × Nat) :=
  bindP (callM M.call m0 16 [v0]) fun v8 m_1 =>
  asB v8 fun c8 =>
  forceB (!c8) fun c9 =>
  bindO (cond c9 (
    some (true, m_1)) (
    bindP (callM M.call m_1 48 [v0]) fun v12 m_3 =>
    asB v12 fun c12 =>
    forceB (!c12) fun c13 =>
    some (c13, m_3))) fun ⟨c14, m_2⟩ =>
  bindO (cond c14 (
    some true) (
    bindO (evP .e (.len false (.c v0))) fun v17 =>
    asI .i64 v17 fun x17 =>
    forceB (ltI 5 x17) fun c18 =>
    some c18)) fun c19 =>
  cond c19 (
    bindP (callM M.call m_2 17 []) fun v20 m_4 =>
    asB v20 fun c20 =>
    finM m0.h.length (tupA [(.b c20)]) m_4) (
    bindO (M.loop (S := AVal × Int × Mm) (R := (AVal × Mm)) (fun s => g13_b2 M ro v0 s.1 s.2.1 s.2.2) (AVal.nsl, 0, m_2)) fun ⟨v3_1, m_9⟩ =>
    bindP (callM M.call m_9 37 [v0]) fun v35 m_10 =>
    bindO (evP .e (.ext 0 (.c v35))) fun v36 =>
    bindO (evP .e (.ext 1 (.c v35))) fun v37 =>
    asI .i64 v37 fun x37 =>
    forceB (eqI x37 0) fun c39 =>
    bindP (callM M.call m_10 49 [v0, v3_1, (.i .i64 0)]) fun v42 m_11 =>
    asB v42 fun c42 =>
    forceB (c39 == c42) fun c43 =>
    bindO (cond c43 (
      forceB (eqI x37 0) fun c46 =>
      bindO (cond c46 (
        some true) (
        forceB (eqI x37 10) fun c49 =>
        some c49)) fun c51_1 =>
      some c51_1) (
      some false)) fun c51 =>
    bindO (cond c51 (
      bindP (callM M.call m_11 17 []) fun v53 m_13 =>
      asB v53 fun c53 =>
      some (c53, m_13)) (
      some (false, m_11))) fun ⟨c54, m_12⟩ =>
    finM m0.h.length (tupA [(.b c54)]) m_12)

theorem g13_ok {ro : List ABlk} {O : Caller} {M : Means} (hM : M.Ok ⟨F, O⟩ ro) {v0 h r} (ho : O 13 [v0] h = none) (hr : g13 M ro v0 ⟨h, h.length, h.length⟩ = some r) : callX ⟨F, O⟩ ro 13 [v0] h = some r := by
  refine callX_of (F := ⟨F, O⟩) (fn := fn13) (g := g13 M ro v0) ho rfl rfl hr ?_
  clear ho
  clear hr
  intro m0 t0 ht hr
  have g0 : t0.get 0 = v0 := ht 0
  clear ht
  unfold g13 at hr
  refine w_seq ?_
  refine w_ops ?_
  refine wo_step (v := (.b false)) (s_pure (p_mv rfl)) ?_
  refine wo_nil ?_
  refine nx_norm ?_
  refine w_seq ?_
  refine w_seq ?_
  refine w_ops ?_
  refine wo_step (v := v0) (s_pure (p_mv g0)) ?_
  have hq := bindP_inv hr
  clear hr
  obtain ⟨v8, m_1, e8, hr⟩ := hq
  have hq := asB_inv hr
  clear hr
  obtain ⟨c8, rfl, hr⟩ := hq
  refine wo_step (v := (.b c8)) (s_call (mc rfl mn) (callM_le hM.call e8)) ?_
  have hq := forceB_inv hr
  clear hr
  obtain ⟨c9, e9, hr⟩ := hq
  refine wo_step (v := (.b c9)) (s_pure ((p_not rfl).trans (cb e9))) ?_
  refine wo_step (v := (.b c9)) (s_pure (p_mv rfl)) ?_
  have hq := bindO_inv hr
  clear hr
  obtain ⟨o, hr, hk⟩ := hq
  refine wo_join 4 (g13_J0 v0 o) ?_ ?_
  · clear hk
    have hq := cond_inv hr
    clear hr
    rcases hq with ⟨rfl, hr⟩ | ⟨rfl, hr⟩
    · refine wo_skip (v := (.b true)) rfl rfl ?_
      refine wo_skip (v := (.b true)) rfl rfl ?_
      refine wo_skip (v := (.b true)) rfl rfl ?_
      refine wo_step (v := (.b true)) (s_pure (p_pickT rfl rfl)) ?_
      refine wo_nil ?_
      cases hr
      exact ⟨_, _, rfl, rfl, gl rfl, gl g0⟩
    · refine wo_take (v := v0) rfl (s_pure (p_mv g0)) ?_
      have hq := bindP_inv hr
      clear hr
      obtain ⟨v12, m_3, e12, hr⟩ := hq
      have hq := asB_inv hr
      clear hr
      obtain ⟨c12, rfl, hr⟩ := hq
      refine wo_take (v := (.b c12)) rfl (s_call (mc rfl mn) (callM_le hM.call e12)) ?_
      have hq := forceB_inv hr
      clear hr
      obtain ⟨c13, e13, hr⟩ := hq
      refine wo_take (v := (.b c13)) rfl (s_pure ((p_not rfl).trans (cb e13))) ?_
      refine wo_step (v := (.b c13)) (s_pure (p_pickF rfl rfl)) ?_
      refine wo_nil ?_
      cases hr
      exact ⟨_, _, rfl, rfl, gl rfl, gl g0⟩
  · clear hr
    have hr := hk
    clear hk
    obtain ⟨c14, m_2⟩ := o
    rintro mm t_1 ⟨rfl, g14, g0⟩
    refine wo_step (v := (.b c14)) (s_pure (p_mv g14)) ?_
    have hq := bindO_inv hr
    clear hr
    obtain ⟨o_1, hr, hk⟩ := hq
    refine wo_join 4 (g13_J1 v0 m_2 o_1) ?_ ?_
    · clear hk
      have hq := cond_inv hr
      clear hr
      rcases hq with ⟨rfl, hr⟩ | ⟨rfl, hr⟩
      · refine wo_skip (v := (.b true)) rfl rfl ?_
        refine wo_skip (v := (.b true)) rfl rfl ?_
        refine wo_skip (v := (.b true)) rfl rfl ?_
        refine wo_step (v := (.b true)) (s_pure (p_pickT rfl rfl)) ?_
        refine wo_nil ?_
        cases hr
        exact ⟨_, _, rfl, rfl, gl rfl, gl g0⟩
      · refine wo_take (v := v0) rfl (s_pure (p_mv g0)) ?_
        have hq := bindO_inv hr
        clear hr
        obtain ⟨v17, e17, hr⟩ := hq
        have hq := asI_inv hr
        clear hr
        obtain ⟨x17, rfl, hr⟩ := hq
        refine wo_take (v := (.i .i64 x17)) rfl (s_pure (o_len rfl e17)) ?_
        have hq := forceB_inv hr
        clear hr
        obtain ⟨c18, e18, hr⟩ := hq
        refine wo_take (v := (.b c18)) rfl (s_pure (p_bin rfl rfl (b_gtr.trans (cb e18)))) ?_
        refine wo_step (v := (.b c18)) (s_pure (p_pickF rfl rfl)) ?_
        refine wo_nil ?_
        cases hr
        exact ⟨_, _, rfl, rfl, gl rfl, gl g0⟩
    · clear hr
      have hr := hk
      clear hk
      obtain ⟨c19, ho⟩ : ∃ z, z = o_1 := ⟨_, rfl⟩
      subst ho
      rintro mm_1 t_2 ⟨rfl, g19, g0⟩
      refine wo_nil ?_
      refine nx_norm ?_
      have hq := cond_inv hr
      clear hr
      rcases hq with ⟨rfl, hr⟩ | ⟨rfl, hr⟩
      · refine w_condT g19 ?_
        refine w_seq ?_
        refine w_ops ?_
        have hq := bindP_inv hr
        clear hr
        obtain ⟨v20, m_4, e20, hr⟩ := hq
        have hq := asB_inv hr
        clear hr
        obtain ⟨c20, rfl, hr⟩ := hq
        refine wo_step (v := (.b c20)) (s_call mn (callM_le hM.call e20)) ?_
        refine wo_step (v := (.b c20)) (s_pure (p_mv rfl)) ?_
        refine wo_nil ?_
        refine nx_norm ?_
        refine w_ret ?_
        refine nx_ret ?_
        exact qf ret_ok (rt rfl rn) hr
      · refine w_condF g19 ?_
        refine w_skip ?_
        refine nx_norm ?_
        refine w_seq ?_
        refine w_ops ?_
        refine wo_step (v := AVal.nsl) (s_pure (p_mv rfl)) ?_
        refine wo_nil ?_
        refine nx_norm ?_
        refine w_seq ?_
        refine w_seq ?_
        refine w_ops ?_
        refine wo_step (v := (.i .i64 0)) (s_pure (p_mv rfl)) ?_
        refine wo_nil ?_
        refine nx_norm ?_
        refine w_block ?_
        have hq := bindO_inv hr
        clear hr
        obtain ⟨o_2, hl, hr⟩ := hq
        obtain ⟨n, hl⟩ := hM.loop _ _ _ hl
        refine jp_mono (w_loop _ (g13_I2 v0) (g13_J2 v0) ?_ n _ _ _ _ hl ⟨rfl, gl rfl, gl rfl, gl g0⟩) ?_
        · clear hr hl
          intro s mm_6 t_3 o hi hr
          obtain ⟨v3, x4, m_5⟩ := s
          obtain ⟨rfl, g3, g4, g0⟩ := hi
          unfold g13_b2 at hr
          refine w_seq ?_
          refine w_seq ?_
          refine w_ops ?_
          refine wo_step (v := (.i .i64 x4)) (s_pure (p_mv g4)) ?_
          refine wo_step (v := v0) (s_pure (p_mv g0)) ?_
          have hq := bindO_inv hr
          clear hr
          obtain ⟨v23, e23, hr⟩ := hq
          have hq := asI_inv hr
          clear hr
          obtain ⟨x23, rfl, hr⟩ := hq
          refine wo_step (v := (.i .i64 x23)) (s_pure (o_len rfl e23)) ?_
          have hq := forceB_inv hr
          clear hr
          obtain ⟨c24, e24, hr⟩ := hq
          refine wo_step (v := (.b c24)) (s_pure (p_bin rfl rfl (b_lss.trans (cb e24)))) ?_
          refine wo_nil ?_
          refine nx_norm ?_
          have hq := cond_inv hr
          clear hr
          rcases hq with ⟨rfl, hr⟩ | ⟨rfl, hr⟩
          · refine w_condT rfl ?_
            refine w_skip ?_
            refine nx_norm ?_
            refine w_seq ?_
            refine w_block ?_
            refine w_ops ?_
            refine wo_step (v := v3) (s_pure (p_mv g3)) ?_
            refine wo_step (v := v0) (s_pure (p_mv g0)) ?_
            have hq := bindO_inv hr
            clear hr
            obtain ⟨v29, e29, hr⟩ := hq
            have hq := asI_inv hr
            clear hr
            obtain ⟨x29, rfl, hr⟩ := hq
            refine wo_step (v := (.i .i64 x29)) (s_pure (o_len rfl e29)) ?_
            have hq := bindP_inv hr
            clear hr
            obtain ⟨v30, m_6, e30, hr⟩ := hq
            refine wo_step (v := v30) (s_mk rfl rfl e30) ?_
            have hq := bindP_inv hr
            clear hr
            obtain ⟨v31, m_7, e31, hr⟩ := hq
            refine wo_step (v := v31) (s_bsl (qc rfl qn) e31) ?_
            have hq := bindP_inv hr
            clear hr
            obtain ⟨v32, m_8, e32, hr⟩ := hq
            refine wo_step (v := v32) (s_app rfl rfl e32) ?_
            refine wo_step (v := v32) (s_pure (p_mv rfl)) ?_
            refine wo_nil ?_
            refine bk_norm ?_
            refine nx_norm ?_
            refine w_ops ?_
            refine wo_step (v := (.i .i64 x4)) (s_pure (p_mv g4)) ?_
            have hq := forceI_inv hr
            clear hr
            obtain ⟨x26, e26, hr⟩ := hq
            refine wo_step (v := (.i .i64 x26)) (s_pure (p_bin rfl rfl (b_add.trans (ci e26)))) ?_
            refine wo_step (v := (.i .i64 x26)) (s_pure (p_mv rfl)) ?_
            refine wo_nil ?_
            cases hr
            exact ⟨_, _, rfl, rfl, rfl, gl rfl, gl rfl, gl g0⟩
          · refine w_condF rfl ?_
            refine w_exit ?_
            refine nx_exit ?_
            cases hr
            exact ⟨_, _, rfl, ne_norm_exit, rfl, rfl, gl g3, gl g0⟩
        · obtain ⟨v3_1, m_9⟩ := o_2
          rintro _ mm_5 t_4 ⟨rfl, rfl, g3, g0⟩
          refine bk_hit ?_
          refine nx_norm ?_
          refine w_seq ?_
          refine w_ops ?_
          refine wo_step (v := v0) (s_pure (p_mv g0)) ?_
          have hq := bindP_inv hr
          clear hr
          obtain ⟨v35, m_10, e35, hr⟩ := hq
          refine wo_step (v := v35) (s_call (mc rfl mn) (callM_le hM.call e35)) ?_
          refine wo_step (v := v35) (s_pure (p_mv rfl)) ?_
          have hq := bindO_inv hr
          clear hr
          obtain ⟨v36, e36, hr⟩ := hq
          refine wo_step (v := v36) (s_pure (o_ext rfl e36)) ?_
          have hq := bindO_inv hr
          clear hr
          obtain ⟨v37, e37, hr⟩ := hq
          have hq := asI_inv hr
          clear hr
          obtain ⟨x37, rfl, hr⟩ := hq
          refine wo_step (v := (.i .i64 x37)) (s_pure (o_ext rfl e37)) ?_
          refine wo_step (v := v36) (s_pure (p_mv rfl)) ?_
          refine wo_step (v := (.i .i64 x37)) (s_pure (p_mv rfl)) ?_
          refine wo_nil ?_
          refine nx_norm ?_
          refine w_seq ?_
          refine w_ops ?_
          refine wo_step (v := (.i .i64 x37)) (s_pure (p_mv rfl)) ?_
          have hq := forceB_inv hr
          clear hr
          obtain ⟨c39, e39, hr⟩ := hq
          refine wo_step (v := (.b c39)) (s_pure (p_bin rfl rfl (b_eql.trans (cb e39)))) ?_
          refine wo_step (v := v0) (s_pure (p_mv g0)) ?_
          refine wo_step (v := v3_1) (s_pure (p_mv g3)) ?_
          have hq := bindP_inv hr
          clear hr
          obtain ⟨v42, m_11, e42, hr⟩ := hq
          have hq := asB_inv hr
          clear hr
          obtain ⟨c42, rfl, hr⟩ := hq
          refine wo_step (v := (.b c42)) (s_call (mc rfl (mc rfl (mc rfl mn))) (callM_le hM.call e42)) ?_
          have hq := forceB_inv hr
          clear hr
          obtain ⟨c43, e43, hr⟩ := hq
          refine wo_step (v := (.b c43)) (s_pure ((p_beq rfl rfl).trans (cb e43))) ?_
          refine wo_step (v := (.b c43)) (s_pure (p_mv rfl)) ?_
          have hq := bindO_inv hr
          clear hr
          obtain ⟨o_3, hr, hk⟩ := hq
          refine wo_join 7 (g13_J3 m_11 o_3) ?_ ?_
          · clear hk
            have hq := cond_inv hr
            clear hr
            rcases hq with ⟨rfl, hr⟩ | ⟨rfl, hr⟩
            · refine wo_take (v := (.i .i64 x37)) rfl (s_pure (p_mv rfl)) ?_
              have hq := forceB_inv hr
              clear hr
              obtain ⟨c46, e46, hr⟩ := hq
              refine wo_take (v := (.b c46)) rfl (s_pure (p_bin rfl rfl (b_eql.trans (cb e46)))) ?_
              refine wo_take (v := (.b c46)) rfl (s_pure (p_mv rfl)) ?_
              have hq := bindO_inv hr
              clear hr
              obtain ⟨o_4, hr, hk⟩ := hq
              refine wo_join 4 (g13_J4 m_11 o_4) ?_ ?_
              · clear hk
                have hq := cond_inv hr
                clear hr
                rcases hq with ⟨rfl, hr⟩ | ⟨rfl, hr⟩
                · refine wo_skip (v := (.b true)) rfl rfl ?_
                  refine wo_skip (v := (.b true)) rfl rfl ?_
                  refine wo_take (v := (.b true)) rfl (s_pure (p_pickT rfl rfl)) ?_
                  refine wo_step (v := (.b true)) (s_pure (p_pickT rfl rfl)) ?_
                  refine wo_nil ?_
                  cases hr
                  exact ⟨_, _, rfl, rfl, gl rfl⟩
                · refine wo_take (v := (.i .i64 x37)) rfl (s_pure (p_mv rfl)) ?_
                  have hq := forceB_inv hr
                  clear hr
                  obtain ⟨c49, e49, hr⟩ := hq
                  refine wo_take (v := (.b c49)) rfl (s_pure (p_bin rfl rfl (b_eql.trans (cb e49)))) ?_
                  refine wo_take (v := (.b c49)) rfl (s_pure (p_pickF rfl rfl)) ?_
                  refine wo_step (v := (.b c49)) (s_pure (p_pickT rfl rfl)) ?_
                  refine wo_nil ?_
                  cases hr
                  exact ⟨_, _, rfl, rfl, gl rfl⟩
              · clear hr
                have hr := hk
                clear hk
                obtain ⟨c51_1, ho⟩ : ∃ z, z = o_4 := ⟨_, rfl⟩
                subst ho
                rintro mm_2 t_5 ⟨rfl, g51⟩
                refine wo_nil ?_
                cases hr
                exact ⟨_, _, rfl, rfl, gl g51⟩
            · refine wo_skip (v := (.b false)) rfl rfl ?_
              refine wo_skip (v := (.b false)) rfl rfl ?_
              refine wo_skip (v := (.b false)) rfl rfl ?_
              refine wo_skip (v := und) rfl rfl ?_
              refine wo_skip (v := und) rfl rfl ?_
              refine wo_skip (v := (.b false)) rfl rfl ?_
              refine wo_step (v := (.b false)) (s_pure (p_pickF rfl rfl)) ?_
              refine wo_nil ?_
              cases hr
              exact ⟨_, _, rfl, rfl, gl rfl⟩
          · clear hr
            have hr := hk
            clear hk
            obtain ⟨c51, ho⟩ : ∃ z, z = o_3 := ⟨_, rfl⟩
            subst ho
            rintro mm_3 t_6 ⟨rfl, g51⟩
            refine wo_step (v := (.b c51)) (s_pure (p_mv g51)) ?_
            have hq := bindO_inv hr
            clear hr
            obtain ⟨o_5, hr, hk⟩ := hq
            refine wo_join 2 (g13_J5  o_5) ?_ ?_
            · clear hk
              have hq := cond_inv hr
              clear hr
              rcases hq with ⟨rfl, hr⟩ | ⟨rfl, hr⟩
              · have hq := bindP_inv hr
                clear hr
                obtain ⟨v53, m_13, e53, hr⟩ := hq
                have hq := asB_inv hr
                clear hr
                obtain ⟨c53, rfl, hr⟩ := hq
                refine wo_take (v := (.b c53)) rfl (s_call mn (callM_le hM.call e53)) ?_
                refine wo_step (v := (.b c53)) (s_pure (p_pickT rfl rfl)) ?_
                refine wo_nil ?_
                cases hr
                exact ⟨_, _, rfl, rfl, gl rfl⟩
              · refine wo_skip (v := (.b false)) rfl rfl ?_
                refine wo_step (v := (.b false)) (s_pure (p_pickF rfl rfl)) ?_
                refine wo_nil ?_
                cases hr
                exact ⟨_, _, rfl, rfl, gl rfl⟩
            · clear hr
              have hr := hk
              clear hk
              obtain ⟨c54, m_12⟩ := o_5
              rintro mm_4 t_7 ⟨rfl, g54⟩
              refine wo_step (v := (.b c54)) (s_pure (p_mv g54)) ?_
              refine wo_nil ?_
              refine nx_norm ?_
              refine w_ret ?_
              exact qf ret_ok (rt rfl rn) hr

/- dibber/dibberlaw01.few -/
abbrev g16_I0 (v0 : AVal) (m0 : Mm) (s : Int) (m1 : Mm) (t1 : Tr) : Prop :=
  match s with
  | x3 => m0 = m1 ∧ t1.get 3 = (.i .i64 x3) ∧ t1.get 0 = v0
abbrev g16_J0 (v0 : AVal) (m0 : Mm) (o : (Unit ⊕ Bool)) (e : AExit) (m1 : Mm) (t1 : Tr) : Prop :=
  match o with
  | (.inl _) => e = (.exit 0) ∧ m0 = m1
  | (.inr y2) => e = .ret ∧ m0 = m1 ∧ t1.get 2 = (.b y2)
abbrev g16_J1 (v0 : AVal) (x3 : Int) (m0 : Mm) (o : Bool) (m1 : Mm) (t1 : Tr) : Prop :=
  match o with
  | c19 => m0 = m1 ∧ t1.get 19 = (.b c19) ∧ t1.get 0 = v0 ∧ t1.get 3 = (.i .i64 x3)
def g16_b0 (M : Means) (ro : List ABlk) (v0 : AVal) (m0 : Mm) (x3 : Int) : Option ((Int) ⊕ ((Unit ⊕ Bool))) :=
  bindO (evP .e (.len false (.c v0))) fun v6 =>
  asI .i64 v6 fun x6 =>
  forceB (ltI x3 x6) fun c7 =>
  cond c7 (
    forceB (!ltI x3 20) fun c11 =>
    bindO (cond c11 (
      some true) (
      bindO (evP .e (.ixS 1 (.c v0) (.c (.i .i64 x3)))) fun v15 =>
      bindO (ldM ro m0 true 1 v15) fun v16 =>
      bindO (evP .e (.len false (.c v16))) fun v17 =>
      asI .i64 v17 fun x17 =>
      forceB (ltI 20 x17) fun c18 =>
      some c18)) fun c19 =>
    cond c19 (
      some (.inr (.inr false))) (
      forceI (wr .i64 (x3 + 1)) fun x9 =>
      some (.inl x9))) (
    some (.inr (.inl ())))
def g16 (M : Means) (ro : List ABlk) (v0 : AVal) (m0 : Mm) : Option (AVal × Heap × Nat × Nat) :=
  bindO (M.loop (S := Int) (R := (Unit ⊕ Bool)) (fun s => g16_b0 M ro v0 m0 s) 0) fun o_1 => match o_1 with
  | (.inl _) =>
    finM m0.h.length (tupA [(.b true)]) m0
  | (.inr c2) =>
    finM m0.h.length (tupA [(.b c2)]) m0

theorem g16_ok {ro : List ABlk} {O : Caller} {M : Means} (hM : M.Ok ⟨F, O⟩ ro) {v0 h r} (ho : O 16 [v0] h = none) (hr : g16 M ro v0 ⟨h, h.length, h.length⟩ = some r) : callX ⟨F, O⟩ ro 16 [v0] h = some r := by
  refine callX_of (F := ⟨F, O⟩) (fn := fn16) (g := g16 M ro v0) ho rfl rfl hr ?_
  clear ho
  clear hr
  intro m0 t0 ht hr
  have g0 : t0.get 0 = v0 := ht 0
  clear ht
  unfold g16 at hr
  refine w_seq ?_
  refine w_ops ?_
  refine wo_step (v := (.b false)) (s_pure (p_mv rfl)) ?_
  refine wo_nil ?_
  refine nx_norm ?_
  refine w_seq ?_
  refine w_seq ?_
  refine w_ops ?_
  refine wo_step (v := (.i .i64 0)) (s_pure (p_mv rfl)) ?_
  refine wo_nil ?_
  refine nx_norm ?_
  refine w_block ?_
  have hq := bindO_inv hr
  clear hr
  obtain ⟨o_1, hl, hr⟩ := hq
  obtain ⟨n, hl⟩ := hM.loop _ _ _ hl
  refine jp_mono (w_loop _ (g16_I0 v0 m0) (g16_J0 v0 m0) ?_ n _ _ _ _ hl ⟨rfl, gl rfl, gl g0⟩) ?_
  · clear hr hl
    intro s mm_3 t_1 o hi hr
    obtain ⟨x3, hs⟩ : ∃ z, z = s := ⟨_, rfl⟩
    subst hs
    obtain ⟨rfl, g3, g0⟩ := hi
    unfold g16_b0 at hr
    refine w_seq ?_
    refine w_seq ?_
    refine w_ops ?_
    refine wo_step (v := (.i .i64 x3)) (s_pure (p_mv g3)) ?_
    refine wo_step (v := v0) (s_pure (p_mv g0)) ?_
    have hq := bindO_inv hr
    clear hr
    obtain ⟨v6, e6, hr⟩ := hq
    have hq := asI_inv hr
    clear hr
    obtain ⟨x6, rfl, hr⟩ := hq
    refine wo_step (v := (.i .i64 x6)) (s_pure (o_len rfl e6)) ?_
    have hq := forceB_inv hr
    clear hr
    obtain ⟨c7, e7, hr⟩ := hq
    refine wo_step (v := (.b c7)) (s_pure (p_bin rfl rfl (b_lss.trans (cb e7)))) ?_
    refine wo_nil ?_
    refine nx_norm ?_
    have hq := cond_inv hr
    clear hr
    rcases hq with ⟨rfl, hr⟩ | ⟨rfl, hr⟩
    · refine w_condT rfl ?_
      refine w_skip ?_
      refine nx_norm ?_
      refine w_seq ?_
      refine w_block ?_
      refine w_seq ?_
      refine w_ops ?_
      refine wo_step (v := (.i .i64 x3)) (s_pure (p_mv g3)) ?_
      have hq := forceB_inv hr
      clear hr
      obtain ⟨c11, e11, hr⟩ := hq
      refine wo_step (v := (.b c11)) (s_pure (p_bin rfl rfl (b_geq.trans (cb e11)))) ?_
      refine wo_step (v := (.b c11)) (s_pure (p_mv rfl)) ?_
      have hq := bindO_inv hr
      clear hr
      obtain ⟨o, hr, hk⟩ := hq
      refine wo_join 7 (g16_J1 v0 x3 m0 o) ?_ ?_
      · clear hk
        have hq := cond_inv hr
        clear hr
        rcases hq with ⟨rfl, hr⟩ | ⟨rfl, hr⟩
        · refine wo_skip (v := (.b true)) rfl rfl ?_
          refine wo_skip (v := (.b true)) rfl rfl ?_
          refine wo_skip (v := (.b true)) rfl rfl ?_
          refine wo_skip (v := (.b true)) rfl rfl ?_
          refine wo_skip (v := (.b true)) rfl rfl ?_
          refine wo_skip (v := (.b true)) rfl rfl ?_
          refine wo_step (v := (.b true)) (s_pure (p_pickT rfl rfl)) ?_
          refine wo_nil ?_
          cases hr
          exact ⟨_, _, rfl, rfl, gl rfl, gl g0, gl g3⟩
        · refine wo_take (v := v0) rfl (s_pure (p_mv g0)) ?_
          refine wo_take (v := (.i .i64 x3)) rfl (s_pure (p_mv g3)) ?_
          have hq := bindO_inv hr
          clear hr
          obtain ⟨v15, e15, hr⟩ := hq
          refine wo_take (v := v15) rfl (s_pure (o_ixS rfl rfl e15)) ?_
          have hq := bindO_inv hr
          clear hr
          obtain ⟨v16, e16, hr⟩ := hq
          refine wo_take (v := v16) rfl (s_ld rfl e16) ?_
          have hq := bindO_inv hr
          clear hr
          obtain ⟨v17, e17, hr⟩ := hq
          have hq := asI_inv hr
          clear hr
          obtain ⟨x17, rfl, hr⟩ := hq
          refine wo_take (v := (.i .i64 x17)) rfl (s_pure (o_len rfl e17)) ?_
          have hq := forceB_inv hr
          clear hr
          obtain ⟨c18, e18, hr⟩ := hq
          refine wo_take (v := (.b c18)) rfl (s_pure (p_bin rfl rfl (b_gtr.trans (cb e18)))) ?_
          refine wo_step (v := (.b c18)) (s_pure (p_pickF rfl rfl)) ?_
          refine wo_nil ?_
          cases hr
          exact ⟨_, _, rfl, rfl, gl rfl, gl g0, gl g3⟩
      · clear hr
        have hr := hk
        clear hk
        obtain ⟨c19, ho⟩ : ∃ z, z = o := ⟨_, rfl⟩
        subst ho
        rintro mm t_2 ⟨rfl, g19, g0, g3⟩
        refine wo_nil ?_
        refine nx_norm ?_
        have hq := cond_inv hr
        clear hr
        rcases hq with ⟨rfl, hr⟩ | ⟨rfl, hr⟩
        · refine w_condT g19 ?_
          refine w_seq ?_
          refine w_ops ?_
          refine wo_step (v := (.b false)) (s_pure (p_mv rfl)) ?_
          refine wo_nil ?_
          refine nx_norm ?_
          refine w_ret ?_
          refine bk_ret ?_
          refine nx_ret ?_
          cases hr
          exact ⟨_, _, rfl, ne_norm_ret, rfl, rfl, gl rfl⟩
        · refine w_condF g19 ?_
          refine w_skip ?_
          refine bk_norm ?_
          refine nx_norm ?_
          refine w_ops ?_
          refine wo_step (v := (.i .i64 x3)) (s_pure (p_mv g3)) ?_
          have hq := forceI_inv hr
          clear hr
          obtain ⟨x9, e9, hr⟩ := hq
          refine wo_step (v := (.i .i64 x9)) (s_pure (p_bin rfl rfl (b_add.trans (ci e9)))) ?_
          refine wo_step (v := (.i .i64 x9)) (s_pure (p_mv rfl)) ?_
          refine wo_nil ?_
          cases hr
          exact ⟨_, _, rfl, rfl, rfl, gl rfl, gl g0⟩
    · refine w_condF rfl ?_
      refine w_exit ?_
      refine nx_exit ?_
      cases hr
      exact ⟨_, _, rfl, ne_norm_exit, rfl, rfl⟩
  · rcases o_1 with o_1 | o_1
    · rintro _ mm_1 t_3 ⟨rfl, rfl⟩
      refine bk_hit ?_
      refine nx_norm ?_
      refine w_seq ?_
      refine w_ops ?_
      refine wo_step (v := (.b true)) (s_pure (p_mv rfl)) ?_
      refine wo_nil ?_
      refine nx_norm ?_
      refine w_ret ?_
      exact qf ret_ok (rt rfl rn) hr
    · obtain ⟨c2, ho⟩ : ∃ z, z = o_1 := ⟨_, rfl⟩
      subst ho
      rintro _ mm_2 t_4 ⟨rfl, rfl, g2⟩
      refine bk_ret ?_
      refine nx_ret ?_
      exact qf ret_ok (rt g2 rn) hr

/- dibber/dibberlaw01.alive -/
abbrev g17_J0 (v16 : AVal) (x21 : Int) (x22 : Int) (v29 : AVal) (x30 : Int) (m_8 : Mm) (o : Bool) (m1 : Mm) (t1 : Tr) : Prop :=
  match o with
  | c36 => m_8 = m1 ∧ t1.get 36 = (.b c36) ∧ t1.get 3 = v16 ∧ t1.get 5 = (.i .i64 x21) ∧ t1.get 6 = (.i .i64 x22) ∧ t1.get 7 = v29 ∧ t1.get 8 = (.i .i64 x30)
abbrev g17_J1 (x21 : Int) (x22 : Int) (v29 : AVal) (x30 : Int) (o : Bool × Mm) (m1 : Mm) (t1 : Tr) : Prop :=
  match o with
  | (c44, m_9) => m_9 = m1 ∧ t1.get 44 = (.b c44) ∧ t1.get 5 = (.i .i64 x21) ∧ t1.get 6 = (.i .i64 x22) ∧ t1.get 7 = v29 ∧ t1.get 8 = (.i .i64 x30)
abbrev g17_J2 (x21 : Int) (v29 : AVal) (x30 : Int) (m_9 : Mm) (o : Bool) (m1 : Mm) (t1 : Tr) : Prop :=
  match o with
  | c48 => m_9 = m1 ∧ t1.get 48 = (.b c48) ∧ t1.get 5 = (.i .i64 x21) ∧ t1.get 7 = v29 ∧ t1.get 8 = (.i .i64 x30)
abbrev g17_J3 (v29 : AVal) (x30 : Int) (m_9 : Mm) (o : Bool) (m1 : Mm) (t1 : Tr) : Prop :=
  match o with
  | c52 => m_9 = m1 ∧ t1.get 52 = (.b c52) ∧ t1.get 7 = v29 ∧ t1.get 8 = (.i .i64 x30)
abbrev g17_J4 (v29 : AVal) (m_9 : Mm) (o : Bool) (m1 : Mm) (t1 : Tr) : Prop :=
  match o with
  | c56 => m_9 = m1 ∧ t1.get 56 = (.b c56) ∧ t1.get 7 = v29
abbrev g17_J5  (o : Bool × Mm) (m1 : Mm) (t1 : Tr) : Prop :=
  match o with
  | (c64, m_15) => m_15 = m1 ∧ t1.get 64 = (.b c64)
def g17 (M : Means) (ro : List ABlk)  (m0 : Mm) : Option (AVal × Heap × Nat × Nat) :=
  bindP (callM M.call m0 39 [(.i .i64 3), (.i .i64 1)]) fun v10 m_1 =>
  bindO (evP .e (.ext 0 (.c v10))) fun v11 =>
  bindO (evP .e (.ext 1 (.c v10))) fun v12 =>
  asI .i64 v12 fun x12 =>
  bindP (callM M.call m_1 37 [v11]) fun v15 m_2 =>
  bindO (evP .e (.ext 0 (.c v15))) fun v16 =>
  bindO (evP .e (.ext 1 (.c v15))) fun v17 =>
  asI .i64 v17 fun x17 =>
  bindP (callM M.call m_2 33 [v11]) fun v20 m_3 =>
  bindO (evP .e (.ext 0 (.c v20))) fun v21 =>
  asI .i64 v21 fun x21 =>
  bindO (evP .e (.ext 1 (.c v20))) fun v22 =>
  asI .i64 v22 fun x22 =>
  bindP (stepM ro m_3 (.bsl 3 1 [(AVal.i IntKind.i64 0)] 3 [((0, 1), .c (.i .i64 0)), ((1, 1), .c (.i .i64 (-1))), ((2, 1), .c (.i .i64 (-1)))])) fun v24 m_4 =>
  bindP (stepM ro m_4 (.bsl 3 1 [(AVal.i IntKind.i64 0)] 3 [((0, 1), .c (.i .i64 (-1))), ((1, 1), .c (.i .i64 (-1))), ((2, 1), .c (.i .i64 0))])) fun v25 m_5 =>
  bindP (stepM ro m_5 (.bsl 3 1 [(AVal.i IntKind.i64 0)] 3 [((0, 1), .c (.i .i64 (-1))), ((1, 1), .c (.i .i64 (-1))), ((2, 1), .c (.i .i64 (-1)))])) fun v26 m_6 =>
  bindP (stepM ro m_6 (.bsl 32 1 [AVal.nsl] 3 [((0, 1), .c v24), ((1, 1), .c v25), ((2, 1), .c v26)])) fun v27 m_7 =>
  bindP (callM M.call m_7 23 [v27]) fun v28 m_8 =>
  bindO (evP .e (.ext 0 (.c v28))) fun v29 =>
  bindO (evP .e (.ext 1 (.c v28))) fun v30 =>
  asI .i64 v30 fun x30 =>
  forceB (eqI x12 0) fun c32 =>
  bindO (cond c32 (
    forceB (eqI x17 0) fun c35 =>
    some c35) (
    some false)) fun c36 =>
  bindO (cond c36 (
    bindP (stepM ro m_8 (.bsl 3 1 [(AVal.i IntKind.i64 0)] 3 [((0, 1), .c (.i .i64 0)), ((1, 1), .c (.i .i64 1)), ((2, 1), .c (.i .i64 2))])) fun v39 m_10 =>
    bindP (stepM ro m_10 (.bsl 3 1 [(AVal.i IntKind.i64 0)] 3 [((0, 1), .c (.i .i64 2)), ((1, 1), .c (.i .i64 0)), ((2, 1), .c (.i .i64 1))])) fun v40 m_11 =>
    bindP (stepM ro m_11 (.bsl 3 1 [(AVal.i IntKind.i64 0)] 3 [((0, 1), .c (.i .i64 1)), ((1, 1), .c (.i .i64 2)), ((2, 1), .c (.i .i64 0))])) fun v41 m_12 =>
    bindP (stepM ro m_12 (.bsl 32 1 [AVal.nsl] 3 [((0, 1), .c v39), ((1, 1), .c v40), ((2, 1), .c v41)])) fun v42 m_13 =>
    bindP (callM M.call m_13 21 [v16, v42]) fun v43 m_14 =>
    asB v43 fun c43 =>
    some (c43, m_14)) (
    some (false, m_8))) fun ⟨c44, m_9⟩ =>
  bindO (cond c44 (
    forceB (eqI x22 0) fun c47 =>
    some c47) (
    some false)) fun c48 =>
  bindO (cond c48 (
    forceB (eqI x21 3) fun c51 =>
    some c51) (
    some false)) fun c52 =>
  bindO (cond c52 (
    forceB (eqI x30 0) fun c55 =>
    some c55) (
    some false)) fun c56 =>
  bindO (cond c56 (
    bindP (stepM ro m_9 (.bsl 3 1 [(AVal.i IntKind.i64 0)] 3 [((0, 1), .c (.i .i64 0)), ((1, 1), .c (.i .i64 1)), ((2, 1), .c (.i .i64 2))])) fun v59 m_16 =>
    bindP (stepM ro m_16 (.bsl 3 1 [(AVal.i IntKind.i64 0)] 3 [((0, 1), .c (.i .i64 1)), ((1, 1), .c (.i .i64 2)), ((2, 1), .c (.i .i64 0))])) fun v60 m_17 =>
    bindP (stepM ro m_17 (.bsl 3 1 [(AVal.i IntKind.i64 0)] 3 [((0, 1), .c (.i .i64 2)), ((1, 1), .c (.i .i64 0)), ((2, 1), .c (.i .i64 1))])) fun v61 m_18 =>
    bindP (stepM ro m_18 (.bsl 32 1 [AVal.nsl] 3 [((0, 1), .c v59), ((1, 1), .c v60), ((2, 1), .c v61)])) fun v62 m_19 =>
    bindP (callM M.call m_19 21 [v29, v62]) fun v63 m_20 =>
    asB v63 fun c63 =>
    some (c63, m_20)) (
    some (false, m_9))) fun ⟨c64, m_15⟩ =>
  finM m0.h.length (tupA [(.b c64)]) m_15

theorem g17_ok {ro : List ABlk} {O : Caller} {M : Means} (hM : M.Ok ⟨F, O⟩ ro) {h r} (ho : O 17 [] h = none) (hr : g17 M ro  ⟨h, h.length, h.length⟩ = some r) : callX ⟨F, O⟩ ro 17 [] h = some r := by
  refine callX_of (F := ⟨F, O⟩) (fn := fn17) (g := g17 M ro ) ho rfl rfl hr ?_
  clear ho
  clear hr
  intro m0 t0 ht hr

  clear ht
  unfold g17 at hr
  refine w_seq ?_
  refine w_ops ?_
  refine wo_step (v := (.b false)) (s_pure (p_mv rfl)) ?_
  refine wo_nil ?_
  refine nx_norm ?_
  refine w_seq ?_
  refine w_ops ?_
  have hq := bindP_inv hr
  clear hr
  obtain ⟨v10, m_1, e10, hr⟩ := hq
  refine wo_step (v := v10) (s_call (mc rfl (mc rfl mn)) (callM_le hM.call e10)) ?_
  refine wo_step (v := v10) (s_pure (p_mv rfl)) ?_
  have hq := bindO_inv hr
  clear hr
  obtain ⟨v11, e11, hr⟩ := hq
  refine wo_step (v := v11) (s_pure (o_ext rfl e11)) ?_
  have hq := bindO_inv hr
  clear hr
  obtain ⟨v12, e12, hr⟩ := hq
  have hq := asI_inv hr
  clear hr
  obtain ⟨x12, rfl, hr⟩ := hq
  refine wo_step (v := (.i .i64 x12)) (s_pure (o_ext rfl e12)) ?_
  refine wo_step (v := v11) (s_pure (p_mv rfl)) ?_
  refine wo_step (v := (.i .i64 x12)) (s_pure (p_mv rfl)) ?_
  refine wo_nil ?_
  refine nx_norm ?_
  refine w_seq ?_
  refine w_ops ?_
  refine wo_step (v := v11) (s_pure (p_mv rfl)) ?_
  have hq := bindP_inv hr
  clear hr
  obtain ⟨v15, m_2, e15, hr⟩ := hq
  refine wo_step (v := v15) (s_call (mc rfl mn) (callM_le hM.call e15)) ?_
  refine wo_step (v := v15) (s_pure (p_mv rfl)) ?_
  have hq := bindO_inv hr
  clear hr
  obtain ⟨v16, e16, hr⟩ := hq
  refine wo_step (v := v16) (s_pure (o_ext rfl e16)) ?_
  have hq := bindO_inv hr
  clear hr
  obtain ⟨v17, e17, hr⟩ := hq
  have hq := asI_inv hr
  clear hr
  obtain ⟨x17, rfl, hr⟩ := hq
  refine wo_step (v := (.i .i64 x17)) (s_pure (o_ext rfl e17)) ?_
  refine wo_step (v := v16) (s_pure (p_mv rfl)) ?_
  refine wo_step (v := (.i .i64 x17)) (s_pure (p_mv rfl)) ?_
  refine wo_nil ?_
  refine nx_norm ?_
  refine w_seq ?_
  refine w_ops ?_
  refine wo_step (v := v11) (s_pure (p_mv rfl)) ?_
  have hq := bindP_inv hr
  clear hr
  obtain ⟨v20, m_3, e20, hr⟩ := hq
  refine wo_step (v := v20) (s_call (mc rfl mn) (callM_le hM.call e20)) ?_
  refine wo_step (v := v20) (s_pure (p_mv rfl)) ?_
  have hq := bindO_inv hr
  clear hr
  obtain ⟨v21, e21, hr⟩ := hq
  have hq := asI_inv hr
  clear hr
  obtain ⟨x21, rfl, hr⟩ := hq
  refine wo_step (v := (.i .i64 x21)) (s_pure (o_ext rfl e21)) ?_
  have hq := bindO_inv hr
  clear hr
  obtain ⟨v22, e22, hr⟩ := hq
  have hq := asI_inv hr
  clear hr
  obtain ⟨x22, rfl, hr⟩ := hq
  refine wo_step (v := (.i .i64 x22)) (s_pure (o_ext rfl e22)) ?_
  refine wo_step (v := (.i .i64 x21)) (s_pure (p_mv rfl)) ?_
  refine wo_step (v := (.i .i64 x22)) (s_pure (p_mv rfl)) ?_
  refine wo_nil ?_
  refine nx_norm ?_
  refine w_seq ?_
  refine w_ops ?_
  have hq := bindP_inv hr
  clear hr
  obtain ⟨v24, m_4, e24, hr⟩ := hq
  refine wo_step (v := v24) (s_bsl (qc rfl (qc rfl (qc rfl qn))) e24) ?_
  have hq := bindP_inv hr
  clear hr
  obtain ⟨v25, m_5, e25, hr⟩ := hq
  refine wo_step (v := v25) (s_bsl (qc rfl (qc rfl (qc rfl qn))) e25) ?_
  have hq := bindP_inv hr
  clear hr
  obtain ⟨v26, m_6, e26, hr⟩ := hq
  refine wo_step (v := v26) (s_bsl (qc rfl (qc rfl (qc rfl qn))) e26) ?_
  have hq := bindP_inv hr
  clear hr
  obtain ⟨v27, m_7, e27, hr⟩ := hq
  refine wo_step (v := v27) (s_bsl (qc rfl (qc rfl (qc rfl qn))) e27) ?_
  have hq := bindP_inv hr
  clear hr
  obtain ⟨v28, m_8, e28, hr⟩ := hq
  refine wo_step (v := v28) (s_call (mc rfl mn) (callM_le hM.call e28)) ?_
  refine wo_step (v := v28) (s_pure (p_mv rfl)) ?_
  have hq := bindO_inv hr
  clear hr
  obtain ⟨v29, e29, hr⟩ := hq
  refine wo_step (v := v29) (s_pure (o_ext rfl e29)) ?_
  have hq := bindO_inv hr
  clear hr
  obtain ⟨v30, e30, hr⟩ := hq
  have hq := asI_inv hr
  clear hr
  obtain ⟨x30, rfl, hr⟩ := hq
  refine wo_step (v := (.i .i64 x30)) (s_pure (o_ext rfl e30)) ?_
  refine wo_step (v := v29) (s_pure (p_mv rfl)) ?_
  refine wo_step (v := (.i .i64 x30)) (s_pure (p_mv rfl)) ?_
  refine wo_nil ?_
  refine nx_norm ?_
  refine w_seq ?_
  refine w_ops ?_
  refine wo_step (v := (.i .i64 x12)) (s_pure (p_mv rfl)) ?_
  have hq := forceB_inv hr
  clear hr
  obtain ⟨c32, e32, hr⟩ := hq
  refine wo_step (v := (.b c32)) (s_pure (p_bin rfl rfl (b_eql.trans (cb e32)))) ?_
  refine wo_step (v := (.b c32)) (s_pure (p_mv rfl)) ?_
  have hq := bindO_inv hr
  clear hr
  obtain ⟨o, hr, hk⟩ := hq
  refine wo_join 3 (g17_J0 v16 x21 x22 v29 x30 m_8 o) ?_ ?_
  · clear hk
    have hq := cond_inv hr
    clear hr
    rcases hq with ⟨rfl, hr⟩ | ⟨rfl, hr⟩
    · refine wo_take (v := (.i .i64 x17)) rfl (s_pure (p_mv rfl)) ?_
      have hq := forceB_inv hr
      clear hr
      obtain ⟨c35, e35, hr⟩ := hq
      refine wo_take (v := (.b c35)) rfl (s_pure (p_bin rfl rfl (b_eql.trans (cb e35)))) ?_
      refine wo_step (v := (.b c35)) (s_pure (p_pickT rfl rfl)) ?_
      refine wo_nil ?_
      cases hr
      exact ⟨_, _, rfl, rfl, gl rfl, gl rfl, gl rfl, gl rfl, gl rfl, gl rfl⟩
    · refine wo_skip (v := (.b false)) rfl rfl ?_
      refine wo_skip (v := (.b false)) rfl rfl ?_
      refine wo_step (v := (.b false)) (s_pure (p_pickF rfl rfl)) ?_
      refine wo_nil ?_
      cases hr
      exact ⟨_, _, rfl, rfl, gl rfl, gl rfl, gl rfl, gl rfl, gl rfl, gl rfl⟩
  · clear hr
    have hr := hk
    clear hk
    obtain ⟨c36, ho⟩ : ∃ z, z = o := ⟨_, rfl⟩
    subst ho
    rintro mm t_1 ⟨rfl, g36, g3, g5, g6, g7, g8⟩
    refine wo_step (v := (.b c36)) (s_pure (p_mv g36)) ?_
    have hq := bindO_inv hr
    clear hr
    obtain ⟨o_1, hr, hk⟩ := hq
    refine wo_join 7 (g17_J1 x21 x22 v29 x30 o_1) ?_ ?_
    · clear hk
      have hq := cond_inv hr
      clear hr
      rcases hq with ⟨rfl, hr⟩ | ⟨rfl, hr⟩
      · refine wo_take (v := v16) rfl (s_pure (p_mv g3)) ?_
        have hq := bindP_inv hr
        clear hr
        obtain ⟨v39, m_10, e39, hr⟩ := hq
        refine wo_take (v := v39) rfl (s_bsl (qc rfl (qc rfl (qc rfl qn))) e39) ?_
        have hq := bindP_inv hr
        clear hr
        obtain ⟨v40, m_11, e40, hr⟩ := hq
        refine wo_take (v := v40) rfl (s_bsl (qc rfl (qc rfl (qc rfl qn))) e40) ?_
        have hq := bindP_inv hr
        clear hr
        obtain ⟨v41, m_12, e41, hr⟩ := hq
        refine wo_take (v := v41) rfl (s_bsl (qc rfl (qc rfl (qc rfl qn))) e41) ?_
        have hq := bindP_inv hr
        clear hr
        obtain ⟨v42, m_13, e42, hr⟩ := hq
        refine wo_take (v := v42) rfl (s_bsl (qc rfl (qc rfl (qc rfl qn))) e42) ?_
        have hq := bindP_inv hr
        clear hr
        obtain ⟨v43, m_14, e43, hr⟩ := hq
        have hq := asB_inv hr
        clear hr
        obtain ⟨c43, rfl, hr⟩ := hq
        refine wo_take (v := (.b c43)) rfl (s_call (mc rfl (mc rfl mn)) (callM_le hM.call e43)) ?_
        refine wo_step (v := (.b c43)) (s_pure (p_pickT rfl rfl)) ?_
        refine wo_nil ?_
        cases hr
        exact ⟨_, _, rfl, rfl, gl rfl, gl g5, gl g6, gl g7, gl g8⟩
      · refine wo_skip (v := (.b false)) rfl rfl ?_
        refine wo_skip (v := (.b false)) rfl rfl ?_
        refine wo_skip (v := (.b false)) rfl rfl ?_
        refine wo_skip (v := (.b false)) rfl rfl ?_
        refine wo_skip (v := (.b false)) rfl rfl ?_
        refine wo_skip (v := (.b false)) rfl rfl ?_
        refine wo_step (v := (.b false)) (s_pure (p_pickF rfl rfl)) ?_
        refine wo_nil ?_
        cases hr
        exact ⟨_, _, rfl, rfl, gl rfl, gl g5, gl g6, gl g7, gl g8⟩
    · clear hr
      have hr := hk
      clear hk
      obtain ⟨c44, m_9⟩ := o_1
      rintro mm_1 t_2 ⟨rfl, g44, g5, g6, g7, g8⟩
      refine wo_step (v := (.b c44)) (s_pure (p_mv g44)) ?_
      have hq := bindO_inv hr
      clear hr
      obtain ⟨o_2, hr, hk⟩ := hq
      refine wo_join 3 (g17_J2 x21 v29 x30 m_9 o_2) ?_ ?_
      · clear hk
        have hq := cond_inv hr
        clear hr
        rcases hq with ⟨rfl, hr⟩ | ⟨rfl, hr⟩
        · refine wo_take (v := (.i .i64 x22)) rfl (s_pure (p_mv g6)) ?_
          have hq := forceB_inv hr
          clear hr
          obtain ⟨c47, e47, hr⟩ := hq
          refine wo_take (v := (.b c47)) rfl (s_pure (p_bin rfl rfl (b_eql.trans (cb e47)))) ?_
          refine wo_step (v := (.b c47)) (s_pure (p_pickT rfl rfl)) ?_
          refine wo_nil ?_
          cases hr
          exact ⟨_, _, rfl, rfl, gl rfl, gl g5, gl g7, gl g8⟩
        · refine wo_skip (v := (.b false)) rfl rfl ?_
          refine wo_skip (v := (.b false)) rfl rfl ?_
          refine wo_step (v := (.b false)) (s_pure (p_pickF rfl rfl)) ?_
          refine wo_nil ?_
          cases hr
          exact ⟨_, _, rfl, rfl, gl rfl, gl g5, gl g7, gl g8⟩
      · clear hr
        have hr := hk
        clear hk
        obtain ⟨c48, ho⟩ : ∃ z, z = o_2 := ⟨_, rfl⟩
        subst ho
        rintro mm_2 t_3 ⟨rfl, g48, g5, g7, g8⟩
        refine wo_step (v := (.b c48)) (s_pure (p_mv g48)) ?_
        have hq := bindO_inv hr
        clear hr
        obtain ⟨o_3, hr, hk⟩ := hq
        refine wo_join 3 (g17_J3 v29 x30 m_9 o_3) ?_ ?_
        · clear hk
          have hq := cond_inv hr
          clear hr
          rcases hq with ⟨rfl, hr⟩ | ⟨rfl, hr⟩
          · refine wo_take (v := (.i .i64 x21)) rfl (s_pure (p_mv g5)) ?_
            have hq := forceB_inv hr
            clear hr
            obtain ⟨c51, e51, hr⟩ := hq
            refine wo_take (v := (.b c51)) rfl (s_pure (p_bin rfl rfl (b_eql.trans (cb e51)))) ?_
            refine wo_step (v := (.b c51)) (s_pure (p_pickT rfl rfl)) ?_
            refine wo_nil ?_
            cases hr
            exact ⟨_, _, rfl, rfl, gl rfl, gl g7, gl g8⟩
          · refine wo_skip (v := (.b false)) rfl rfl ?_
            refine wo_skip (v := (.b false)) rfl rfl ?_
            refine wo_step (v := (.b false)) (s_pure (p_pickF rfl rfl)) ?_
            refine wo_nil ?_
            cases hr
            exact ⟨_, _, rfl, rfl, gl rfl, gl g7, gl g8⟩
        · clear hr
          have hr := hk
          clear hk
          obtain ⟨c52, ho⟩ : ∃ z, z = o_3 := ⟨_, rfl⟩
          subst ho
          rintro mm_3 t_4 ⟨rfl, g52, g7, g8⟩
          refine wo_step (v := (.b c52)) (s_pure (p_mv g52)) ?_
          have hq := bindO_inv hr
          clear hr
          obtain ⟨o_4, hr, hk⟩ := hq
          refine wo_join 3 (g17_J4 v29 m_9 o_4) ?_ ?_
          · clear hk
            have hq := cond_inv hr
            clear hr
            rcases hq with ⟨rfl, hr⟩ | ⟨rfl, hr⟩
            · refine wo_take (v := (.i .i64 x30)) rfl (s_pure (p_mv g8)) ?_
              have hq := forceB_inv hr
              clear hr
              obtain ⟨c55, e55, hr⟩ := hq
              refine wo_take (v := (.b c55)) rfl (s_pure (p_bin rfl rfl (b_eql.trans (cb e55)))) ?_
              refine wo_step (v := (.b c55)) (s_pure (p_pickT rfl rfl)) ?_
              refine wo_nil ?_
              cases hr
              exact ⟨_, _, rfl, rfl, gl rfl, gl g7⟩
            · refine wo_skip (v := (.b false)) rfl rfl ?_
              refine wo_skip (v := (.b false)) rfl rfl ?_
              refine wo_step (v := (.b false)) (s_pure (p_pickF rfl rfl)) ?_
              refine wo_nil ?_
              cases hr
              exact ⟨_, _, rfl, rfl, gl rfl, gl g7⟩
          · clear hr
            have hr := hk
            clear hk
            obtain ⟨c56, ho⟩ : ∃ z, z = o_4 := ⟨_, rfl⟩
            subst ho
            rintro mm_4 t_5 ⟨rfl, g56, g7⟩
            refine wo_step (v := (.b c56)) (s_pure (p_mv g56)) ?_
            have hq := bindO_inv hr
            clear hr
            obtain ⟨o_5, hr, hk⟩ := hq
            refine wo_join 7 (g17_J5  o_5) ?_ ?_
            · clear hk
              have hq := cond_inv hr
              clear hr
              rcases hq with ⟨rfl, hr⟩ | ⟨rfl, hr⟩
              · refine wo_take (v := v29) rfl (s_pure (p_mv g7)) ?_
                have hq := bindP_inv hr
                clear hr
                obtain ⟨v59, m_16, e59, hr⟩ := hq
                refine wo_take (v := v59) rfl (s_bsl (qc rfl (qc rfl (qc rfl qn))) e59) ?_
                have hq := bindP_inv hr
                clear hr
                obtain ⟨v60, m_17, e60, hr⟩ := hq
                refine wo_take (v := v60) rfl (s_bsl (qc rfl (qc rfl (qc rfl qn))) e60) ?_
                have hq := bindP_inv hr
                clear hr
                obtain ⟨v61, m_18, e61, hr⟩ := hq
                refine wo_take (v := v61) rfl (s_bsl (qc rfl (qc rfl (qc rfl qn))) e61) ?_
                have hq := bindP_inv hr
                clear hr
                obtain ⟨v62, m_19, e62, hr⟩ := hq
                refine wo_take (v := v62) rfl (s_bsl (qc rfl (qc rfl (qc rfl qn))) e62) ?_
                have hq := bindP_inv hr
                clear hr
                obtain ⟨v63, m_20, e63, hr⟩ := hq
                have hq := asB_inv hr
                clear hr
                obtain ⟨c63, rfl, hr⟩ := hq
                refine wo_take (v := (.b c63)) rfl (s_call (mc rfl (mc rfl mn)) (callM_le hM.call e63)) ?_
                refine wo_step (v := (.b c63)) (s_pure (p_pickT rfl rfl)) ?_
                refine wo_nil ?_
                cases hr
                exact ⟨_, _, rfl, rfl, gl rfl⟩
              · refine wo_skip (v := (.b false)) rfl rfl ?_
                refine wo_skip (v := (.b false)) rfl rfl ?_
                refine wo_skip (v := (.b false)) rfl rfl ?_
                refine wo_skip (v := (.b false)) rfl rfl ?_
                refine wo_skip (v := (.b false)) rfl rfl ?_
                refine wo_skip (v := (.b false)) rfl rfl ?_
                refine wo_step (v := (.b false)) (s_pure (p_pickF rfl rfl)) ?_
                refine wo_nil ?_
                cases hr
                exact ⟨_, _, rfl, rfl, gl rfl⟩
            · clear hr
              have hr := hk
              clear hk
              obtain ⟨c64, m_15⟩ := o_5
              rintro mm_5 t_6 ⟨rfl, g64⟩
              refine wo_step (v := (.b c64)) (s_pure (p_mv g64)) ?_
              refine wo_nil ?_
              refine nx_norm ?_
              refine w_ret ?_
              exact qf ret_ok (rt rfl rn) hr

/- dibber/bed.Check -/
abbrev g19_I0 (v15 : AVal) (v0 : AVal) (x17 : Int) (s : Int × Mm) (m1 : Mm) (t1 : Tr) : Prop :=
  match s with
  | (x18, m_3) => m_3 = m1 ∧ t1.get 18 = (.i .i64 x18) ∧ t1.get 5 = v15 ∧ t1.get 16 = v0 ∧ t1.get 17 = (.i .i64 x17)
abbrev g19_J0 (v15 : AVal) (v0 : AVal) (x17 : Int) (o : (Mm ⊕ (Int × Int × Int × Mm))) (e : AExit) (m1 : Mm) (t1 : Tr) : Prop :=
  match o with
  | (.inl mo) => e = (.exit 0) ∧ mo = m1
  | (.inr (y2, y3, y4, mo)) => e = .ret ∧ mo = m1 ∧ t1.get 2 = (.i .i64 y2) ∧ t1.get 3 = (.i .i64 y3) ∧ t1.get 4 = (.i .i64 y4)
abbrev g19_I1 (v15 : AVal) (x18 : Int) (v0 : AVal) (x17 : Int) (v22 : AVal) (x24 : Int) (s : Int × Mm) (m1 : Mm) (t1 : Tr) : Prop :=
  match s with
  | (x25, m_4) => m_4 = m1 ∧ t1.get 25 = (.i .i64 x25) ∧ t1.get 5 = v15 ∧ t1.get 6 = (.i .i64 x18) ∧ t1.get 16 = v0 ∧ t1.get 17 = (.i .i64 x17) ∧ t1.get 18 = (.i .i64 x18) ∧ t1.get 23 = v22 ∧ t1.get 24 = (.i .i64 x24)
abbrev g19_J1 (v15 : AVal) (x18 : Int) (v0 : AVal) (x17 : Int) (v22 : AVal) (x24 : Int) (o : (Mm ⊕ (Int × Int × Int × Mm))) (e : AExit) (m1 : Mm) (t1 : Tr) : Prop :=
  match o with
  | (.inl mo) => e = (.exit 2) ∧ mo = m1 ∧ t1.get 5 = v15 ∧ t1.get 16 = v0 ∧ t1.get 17 = (.i .i64 x17) ∧ t1.get 18 = (.i .i64 x18)
  | (.inr (y2, y3, y4, mo)) => e = .ret ∧ mo = m1 ∧ t1.get 2 = (.i .i64 y2) ∧ t1.get 3 = (.i .i64 y3) ∧ t1.get 4 = (.i .i64 y4)
abbrev g19_J2 (v15 : AVal) (x18 : Int) (v0 : AVal) (x17 : Int) (v22 : AVal) (x24 : Int) (x25 : Int) (o : (Mm ⊕ (Int × Int × Int × Mm))) (e : AExit) (m1 : Mm) (t1 : Tr) : Prop :=
  match o with
  | (.inl mo) => e = .norm ∧ mo = m1 ∧ t1.get 5 = v15 ∧ t1.get 6 = (.i .i64 x18) ∧ t1.get 16 = v0 ∧ t1.get 17 = (.i .i64 x17) ∧ t1.get 18 = (.i .i64 x18) ∧ t1.get 23 = v22 ∧ t1.get 24 = (.i .i64 x24) ∧ t1.get 25 = (.i .i64 x25)
  | (.inr (y2, y3, y4, mo)) => e = .ret ∧ mo = m1 ∧ t1.get 2 = (.i .i64 y2) ∧ t1.get 3 = (.i .i64 y3) ∧ t1.get 4 = (.i .i64 y4)
def g19_b1 (M : Means) (ro : List ABlk) (v15 : AVal) (x18 : Int) (v0 : AVal) (x17 : Int) (v22 : AVal) (x24 : Int) (x25 : Int) (m_4 : Mm) : Option ((Int × Mm) ⊕ ((Mm ⊕ (Int × Int × Int × Mm)))) :=
  forceB (ltI x25 x24) fun c26 =>
  cond c26 (
    bindO (α := (Mm ⊕ (Int × Int × Int × Mm))) (
      bindO (evP .e (.ixS 1 (.c v22) (.c (.i .i64 x25)))) fun v28 =>
      bindO (ldM ro m_4 true 1 v28) fun v29 =>
      asI .i64 v29 fun x29 =>
      forceB (eqI x29 (-1)) fun c31 =>
      cond c31 (
        some (.inl m_4)) (
        bindO ((fillA [(AVal.i IntKind.i64 0), (AVal.i IntKind.i64 0), (AVal.i IntKind.i64 0), (AVal.i IntKind.i64 0)] [((0, 1), (.i .i64 0)), ((1, 1), (.i .i64 x18)), ((2, 1), (.i .i64 1)), ((3, 1), (.i .i64 x25))]).map AVal.agg) fun v35 =>
        bindP (callM M.call m_4 53 [v15, v35]) fun v36 m_5 =>
        asI .u8 v36 fun x36 =>
        chk (!ltI x29 (.ofNat 0)) <|
        forceI (shrV .u8 x36 x29) fun x38 =>
        forceI (bitV .and .u8 x38 1) fun x39 =>
        forceB (eqI x39 0) fun c40 =>
        cond c40 (
          some (.inr (x18, x25, 0, m_5))) (
          bindO ((fillA [(AVal.i IntKind.i64 0), (AVal.i IntKind.i64 0), (AVal.i IntKind.i64 0)] [((0, 1), (.i .i64 x18)), ((1, 1), (.i .i64 x25)), ((2, 1), (.i .i64 x29))]).map AVal.agg) fun v47 =>
          bindP (callM M.call m_5 54 [v15, v47]) fun v48 m_6 =>
          some (.inl m_6)))) fun o => match o with
    | (.inl m_7) =>
      forceI (wr .i64 (x25 + 1)) fun x49 =>
      some (.inl (x49, m_7))
    | (.inr (x2, x3, x4, m_8)) =>
      some (.inr (.inr (x2, x3, x4, m_8)))) (
    some (.inr (.inl m_4)))
def g19_b0 (M : Means) (ro : List ABlk) (v15 : AVal) (v0 : AVal) (x17 : Int) (x18 : Int) (m_3 : Mm) : Option ((Int × Mm) ⊕ ((Mm ⊕ (Int × Int × Int × Mm)))) :=
  forceB (ltI x18 x17) fun c19 =>
  cond c19 (
    bindO (evP .e (.ixS 1 (.c v0) (.c (.i .i64 x18)))) fun v21 =>
    bindO (ldM ro m_3 true 1 v21) fun v22 =>
    bindO (evP .e (.len false (.c v22))) fun v24 =>
    asI .i64 v24 fun x24 =>
    bindO (M.loop (S := Int × Mm) (R := (Mm ⊕ (Int × Int × Int × Mm))) (fun s => g19_b1 M ro v15 x18 v0 x17 v22 x24 s.1 s.2) (0, m_3)) fun o_1 => match o_1 with
    | (.inl m_9) =>
      forceI (wr .i64 (x18 + 1)) fun x50 =>
      some (.inl (x50, m_9))
    | (.inr (x2_1, x3_1, x4_1, m_10)) =>
      some (.inr (.inr (x2_1, x3_1, x4_1, m_10)))) (
    some (.inr (.inl m_3)))
def g19 (M : Means) (ro : List ABlk) (v0 : AVal) (m0 : Mm) : Option (AVal × Heap × Nat × Nat) :=
  bindP (callM M.call m0 51 [v0]) fun v11 m_1 =>
  asB v11 fun c11 =>
  forceB (!c11) fun c12 =>
  cond c12 (
    finM m0.h.length (tupA [(.i .i64 0), (.i .i64 0), (.i .i64 2)]) m_1) (
    bindO (evP .e (.len false (.c v0))) fun v14 =>
    asI .i64 v14 fun x14 =>
    bindP (callM M.call m_1 52 [(.i .i64 x14)]) fun v15 m_2 =>
    bindO (evP .e (.len false (.c v0))) fun v17 =>
    asI .i64 v17 fun x17 =>
    bindO (M.loop (S := Int × Mm) (R := (Mm ⊕ (Int × Int × Int × Mm))) (fun s => g19_b0 M ro v15 v0 x17 s.1 s.2) (0, m_2)) fun o_2 => match o_2 with
    | (.inl m_11) =>
      finM m0.h.length (tupA [(.i .i64 0), (.i .i64 0), (.i .i64 10)]) m_11
    | (.inr (x2_2, x3_2, x4_2, m_12)) =>
      finM m0.h.length (tupA [(.i .i64 x2_2), (.i .i64 x3_2), (.i .i64 x4_2)]) m_12)

theorem g19_ok {ro : List ABlk} {O : Caller} {M : Means} (hM : M.Ok ⟨F, O⟩ ro) {v0 h r} (ho : O 19 [v0] h = none) (hr : g19 M ro v0 ⟨h, h.length, h.length⟩ = some r) : callX ⟨F, O⟩ ro 19 [v0] h = some r := by
  refine callX_of (F := ⟨F, O⟩) (fn := fn19) (g := g19 M ro v0) ho rfl rfl hr ?_
  clear ho
  clear hr
  intro m0 t0 ht hr
  have g0 : t0.get 0 = v0 := ht 0
  clear ht
  unfold g19 at hr
  refine w_seq ?_
  refine w_ops ?_
  refine wo_step (v := (.i .i64 0)) (s_pure (p_mv rfl)) ?_
  refine wo_step (v := (.i .i64 0)) (s_pure (p_mv rfl)) ?_
  refine wo_step (v := (.i .i64 0)) (s_pure (p_mv rfl)) ?_
  refine wo_nil ?_
  refine nx_norm ?_
  refine w_seq ?_
  refine w_seq ?_
  refine w_ops ?_
  refine wo_step (v := v0) (s_pure (p_mv g0)) ?_
  have hq := bindP_inv hr
  clear hr
  obtain ⟨v11, m_1, e11, hr⟩ := hq
  have hq := asB_inv hr
  clear hr
  obtain ⟨c11, rfl, hr⟩ := hq
  refine wo_step (v := (.b c11)) (s_call (mc rfl mn) (callM_le hM.call e11)) ?_
  have hq := forceB_inv hr
  clear hr
  obtain ⟨c12, e12, hr⟩ := hq
  refine wo_step (v := (.b c12)) (s_pure ((p_not rfl).trans (cb e12))) ?_
  refine wo_nil ?_
  refine nx_norm ?_
  have hq := cond_inv hr
  clear hr
  rcases hq with ⟨rfl, hr⟩ | ⟨rfl, hr⟩
  · refine w_condT rfl ?_
    refine w_seq ?_
    refine w_ops ?_
    refine wo_step (v := (.i .i64 0)) (s_pure (p_mv rfl)) ?_
    refine wo_step (v := (.i .i64 0)) (s_pure (p_mv rfl)) ?_
    refine wo_step (v := (.i .i64 2)) (s_pure (p_mv rfl)) ?_
    refine wo_nil ?_
    refine nx_norm ?_
    refine w_ret ?_
    refine nx_ret ?_
    exact qf ret_ok (rt rfl (rt rfl (rt rfl rn))) hr
  · refine w_condF rfl ?_
    refine w_skip ?_
    refine nx_norm ?_
    refine w_seq ?_
    refine w_ops ?_
    refine wo_step (v := v0) (s_pure (p_mv g0)) ?_
    have hq := bindO_inv hr
    clear hr
    obtain ⟨v14, e14, hr⟩ := hq
    have hq := asI_inv hr
    clear hr
    obtain ⟨x14, rfl, hr⟩ := hq
    refine wo_step (v := (.i .i64 x14)) (s_pure (o_len rfl e14)) ?_
    have hq := bindP_inv hr
    clear hr
    obtain ⟨v15, m_2, e15, hr⟩ := hq
    refine wo_step (v := v15) (s_call (mc rfl mn) (callM_le hM.call e15)) ?_
    refine wo_step (v := v15) (s_pure (p_mv rfl)) ?_
    refine wo_nil ?_
    refine nx_norm ?_
    refine w_seq ?_
    refine w_seq ?_
    refine w_ops ?_
    refine wo_step (v := v0) (s_pure (p_mv g0)) ?_
    have hq := bindO_inv hr
    clear hr
    obtain ⟨v17, e17, hr⟩ := hq
    have hq := asI_inv hr
    clear hr
    obtain ⟨x17, rfl, hr⟩ := hq
    refine wo_step (v := (.i .i64 x17)) (s_pure (o_len rfl e17)) ?_
    refine wo_step (v := (.i .i64 0)) (s_pure (p_mv rfl)) ?_
    refine wo_nil ?_
    refine nx_norm ?_
    refine w_block ?_
    have hq := bindO_inv hr
    clear hr
    obtain ⟨o_2, hl_1, hr⟩ := hq
    obtain ⟨n_1, hl_1⟩ := hM.loop _ _ _ hl_1
    refine jp_mono (w_loop _ (g19_I0 v15 v0 x17) (g19_J0 v15 v0 x17) ?_ n_1 _ _ _ _ hl_1 ⟨rfl, gl rfl, gl rfl, gl rfl, gl rfl⟩) ?_
    · clear hr hl_1
      intro s mm_7 t_1 o hi hr
      obtain ⟨x18, m_3⟩ := s
      obtain ⟨rfl, g18, g5, g16, g17⟩ := hi
      unfold g19_b0 at hr
      refine w_seq ?_
      refine w_ops ?_
      have hq := forceB_inv hr
      clear hr
      obtain ⟨c19, e19, hr⟩ := hq
      refine wo_step (v := (.b c19)) (s_pure (p_bin g18 g17 (b_lss.trans (cb e19)))) ?_
      refine wo_nil ?_
      refine nx_norm ?_
      refine w_seq ?_
      have hq := cond_inv hr
      clear hr
      rcases hq with ⟨rfl, hr⟩ | ⟨rfl, hr⟩
      · refine w_condT rfl ?_
        refine w_skip ?_
        refine nx_norm ?_
        refine w_seq ?_
        refine w_block ?_
        refine w_seq ?_
        refine w_ops ?_
        refine wo_step (v := (.i .i64 x18)) (s_pure (p_mv g18)) ?_
        have hq := bindO_inv hr
        clear hr
        obtain ⟨v21, e21, hr⟩ := hq
        refine wo_step (v := v21) (s_pure (o_ixS g16 g18 e21)) ?_
        have hq := bindO_inv hr
        clear hr
        obtain ⟨v22, e22, hr⟩ := hq
        refine wo_step (v := v22) (s_ld rfl e22) ?_
        refine wo_step (v := (.i .i64 x18)) (s_pure (p_mv rfl)) ?_
        refine wo_step (v := v22) (s_pure (p_mv rfl)) ?_
        refine wo_nil ?_
        refine nx_norm ?_
        refine w_seq ?_
        refine w_ops ?_
        refine wo_step (v := v22) (s_pure (p_mv rfl)) ?_
        have hq := bindO_inv hr
        clear hr
        obtain ⟨v24, e24, hr⟩ := hq
        have hq := asI_inv hr
        clear hr
        obtain ⟨x24, rfl, hr⟩ := hq
        refine wo_step (v := (.i .i64 x24)) (s_pure (o_len rfl e24)) ?_
        refine wo_step (v := (.i .i64 0)) (s_pure (p_mv rfl)) ?_
        refine wo_nil ?_
        refine nx_norm ?_
        refine w_block ?_
        have hq := bindO_inv hr
        clear hr
        obtain ⟨o_1, hl, hr⟩ := hq
        obtain ⟨n, hl⟩ := hM.loop _ _ _ hl
        refine jp_mono (w_loop _ (g19_I1 v15 x18 v0 x17 v22 x24) (g19_J1 v15 x18 v0 x17 v22 x24) ?_ n _ _ _ _ hl ⟨rfl, gl rfl, gl g5, gl rfl, gl g16, gl g17, gl g18, gl rfl, gl rfl⟩) ?_
        · clear hr hl
          intro s mm_4 t_2 o hi hr
          obtain ⟨x25, m_4⟩ := s
          obtain ⟨rfl, g25, g5, g6, g16, g17, g18, g23, g24⟩ := hi
          unfold g19_b1 at hr
          refine w_seq ?_
          refine w_ops ?_
          have hq := forceB_inv hr
          clear hr
          obtain ⟨c26, e26, hr⟩ := hq
          refine wo_step (v := (.b c26)) (s_pure (p_bin g25 g24 (b_lss.trans (cb e26)))) ?_
          refine wo_nil ?_
          refine nx_norm ?_
          refine w_seq ?_
          have hq := cond_inv hr
          clear hr
          rcases hq with ⟨rfl, hr⟩ | ⟨rfl, hr⟩
          · refine w_condT rfl ?_
            refine w_skip ?_
            refine nx_norm ?_
            refine w_seq ?_
            have hq := bindO_inv hr
            clear hr
            obtain ⟨o, hr, hk⟩ := hq
            refine jp_mono (J := g19_J2 v15 x18 v0 x17 v22 x24 x25 o) ?_ ?_
            · clear hk
              refine w_block ?_
              refine w_seq ?_
              refine w_ops ?_
              refine wo_step (v := (.i .i64 x25)) (s_pure (p_mv g25)) ?_
              have hq := bindO_inv hr
              clear hr
              obtain ⟨v28, e28, hr⟩ := hq
              refine wo_step (v := v28) (s_pure (o_ixS g23 g25 e28)) ?_
              have hq := bindO_inv hr
              clear hr
              obtain ⟨v29, e29, hr⟩ := hq
              have hq := asI_inv hr
              clear hr
              obtain ⟨x29, rfl, hr⟩ := hq
              refine wo_step (v := (.i .i64 x29)) (s_ld rfl e29) ?_
              refine wo_step (v := (.i .i64 x25)) (s_pure (p_mv rfl)) ?_
              refine wo_step (v := (.i .i64 x29)) (s_pure (p_mv rfl)) ?_
              refine wo_nil ?_
              refine nx_norm ?_
              refine w_seq ?_
              refine w_seq ?_
              refine w_ops ?_
              refine wo_step (v := (.i .i64 x29)) (s_pure (p_mv rfl)) ?_
              have hq := forceB_inv hr
              clear hr
              obtain ⟨c31, e31, hr⟩ := hq
              refine wo_step (v := (.b c31)) (s_pure (p_bin rfl rfl (b_eql.trans (cb e31)))) ?_
              refine wo_nil ?_
              refine nx_norm ?_
              have hq := cond_inv hr
              clear hr
              rcases hq with ⟨rfl, hr⟩ | ⟨rfl, hr⟩
              · refine w_condT rfl ?_
                refine w_exit ?_
                refine nx_exit ?_
                refine bk_hit ?_
                cases hr
                exact ⟨_, _, rfl, rfl, rfl, gl g5, gl g6, gl g16, gl g17, gl g18, gl g23, gl g24, gl g25⟩
              · refine w_condF rfl ?_
                refine w_skip ?_
                refine nx_norm ?_
                refine w_seq ?_
                refine w_seq ?_
                refine w_ops ?_
                refine wo_step (v := v15) (s_pure (p_mv g5)) ?_
                refine wo_step (v := (.i .i64 x18)) (s_pure (p_mv g6)) ?_
                refine wo_step (v := (.i .i64 x25)) (s_pure (p_mv rfl)) ?_
                have hq := bindO_inv hr
                clear hr
                obtain ⟨v35, e35, hr⟩ := hq
                refine wo_step (v := v35) (s_pure (o_build (qc rfl (qc rfl (qc rfl (qc rfl qn)))) e35)) ?_
                have hq := bindP_inv hr
                clear hr
                obtain ⟨v36, m_5, e36, hr⟩ := hq
                have hq := asI_inv hr
                clear hr
                obtain ⟨x36, rfl, hr⟩ := hq
                refine wo_step (v := (.i .u8 x36)) (s_call (mc rfl (mc rfl mn)) (callM_le hM.call e36)) ?_
                refine wo_step (v := (.i .i64 x29)) (s_pure (p_mv rfl)) ?_
                have hq := chk_inv hr
                clear hr
                obtain ⟨hc38, hr⟩ := hq
                have hq := forceI_inv hr
                clear hr
                obtain ⟨x38, e38, hr⟩ := hq
                refine wo_step (v := (.i .u8 x38)) (s_pure (p_bin rfl rfl ((b_shr hc38).trans (ci e38)))) ?_
                have hq := forceI_inv hr
                clear hr
                obtain ⟨x39, e39, hr⟩ := hq
                refine wo_step (v := (.i .u8 x39)) (s_pure (p_bin rfl rfl (b_and.trans (ci e39)))) ?_
                have hq := forceB_inv hr
                clear hr
                obtain ⟨c40, e40, hr⟩ := hq
                refine wo_step (v := (.b c40)) (s_pure (p_bin rfl rfl (b_eql.trans (cb e40)))) ?_
                refine wo_nil ?_
                refine nx_norm ?_
                have hq := cond_inv hr
                clear hr
                rcases hq with ⟨rfl, hr⟩ | ⟨rfl, hr⟩
                · refine w_condT rfl ?_
                  refine w_seq ?_
                  refine w_ops ?_
                  refine wo_step (v := (.i .i64 x18)) (s_pure (p_mv g6)) ?_
                  refine wo_step (v := (.i .i64 x25)) (s_pure (p_mv rfl)) ?_
                  refine wo_step (v := (.i .i64 x18)) (s_pure (p_mv rfl)) ?_
                  refine wo_step (v := (.i .i64 x25)) (s_pure (p_mv rfl)) ?_
                  refine wo_step (v := (.i .i64 0)) (s_pure (p_mv rfl)) ?_
                  refine wo_nil ?_
                  refine nx_norm ?_
                  refine w_ret ?_
                  refine nx_ret ?_
                  refine bk_ret ?_
                  cases hr
                  exact ⟨_, _, rfl, rfl, rfl, gl rfl, gl rfl, gl rfl⟩
                · refine w_condF rfl ?_
                  refine w_skip ?_
                  refine nx_norm ?_
                  refine w_ops ?_
                  refine wo_step (v := v15) (s_pure (p_mv g5)) ?_
                  refine wo_step (v := (.i .i64 x18)) (s_pure (p_mv g6)) ?_
                  refine wo_step (v := (.i .i64 x25)) (s_pure (p_mv rfl)) ?_
                  refine wo_step (v := (.i .i64 x29)) (s_pure (p_mv rfl)) ?_
                  have hq := bindO_inv hr
                  clear hr
                  obtain ⟨v47, e47, hr⟩ := hq
                  refine wo_step (v := v47) (s_pure (o_build (qc rfl (qc rfl (qc rfl qn))) e47)) ?_
                  have hq := bindP_inv hr
                  clear hr
                  obtain ⟨v48, m_6, e48, hr⟩ := hq
                  refine wo_step (v := v48) (s_call (mc rfl (mc rfl mn)) (callM_le hM.call e48)) ?_
                  refine wo_nil ?_
                  refine bk_norm ?_
                  cases hr
                  exact ⟨_, _, rfl, rfl, rfl, gl g5, gl g6, gl g16, gl g17, gl g18, gl g23, gl g24, gl g25⟩
            · have hr := hk
              clear hk
              rcases o with o | o
              · obtain ⟨m_7, ho⟩ : ∃ z, z = o := ⟨_, rfl⟩
                subst ho
                rintro _ mm t_3 ⟨rfl, rfl, g5, g6, g16, g17, g18, g23, g24, g25⟩
                refine nx_norm ?_
                refine w_ops ?_
                have hq := forceI_inv hr
                clear hr
                obtain ⟨x49, e49, hr⟩ := hq
                refine wo_step (v := (.i .i64 x49)) (s_pure (p_bin g25 rfl (b_add.trans (ci e49)))) ?_
                refine wo_step (v := (.i .i64 x49)) (s_pure (p_mv rfl)) ?_
                refine wo_nil ?_
                cases hr
                exact ⟨_, _, rfl, rfl, rfl, gl rfl, gl g5, gl g6, gl g16, gl g17, gl g18, gl g23, gl g24⟩
              · obtain ⟨x2, x3, x4, m_8⟩ := o
                rintro _ mm_1 t_4 ⟨rfl, rfl, g2, g3, g4⟩
                refine nx_ret ?_
                cases hr
                exact ⟨_, _, rfl, ne_norm_ret, rfl, rfl, gl g2, gl g3, gl g4⟩
          · refine w_condF rfl ?_
            refine w_exit ?_
            refine nx_exit ?_
            cases hr
            exact ⟨_, _, rfl, ne_norm_exit, rfl, rfl, gl g5, gl g16, gl g17, gl g18⟩
        · rcases o_1 with o_1 | o_1
          · obtain ⟨m_9, ho⟩ : ∃ z, z = o_1 := ⟨_, rfl⟩
            subst ho
            rintro _ mm_2 t_5 ⟨rfl, rfl, g5, g16, g17, g18⟩
            refine bk_hit ?_
            refine bk_norm ?_
            refine nx_norm ?_
            refine w_ops ?_
            have hq := forceI_inv hr
            clear hr
            obtain ⟨x50, e50, hr⟩ := hq
            refine wo_step (v := (.i .i64 x50)) (s_pure (p_bin g18 rfl (b_add.trans (ci e50)))) ?_
            refine wo_step (v := (.i .i64 x50)) (s_pure (p_mv rfl)) ?_
            refine wo_nil ?_
            cases hr
            exact ⟨_, _, rfl, rfl, rfl, gl rfl, gl g5, gl g16, gl g17⟩
          · obtain ⟨x2_1, x3_1, x4_1, m_10⟩ := o_1
            rintro _ mm_3 t_6 ⟨rfl, rfl, g2, g3, g4⟩
            refine bk_ret ?_
            refine bk_ret ?_
            refine nx_ret ?_
            cases hr
            exact ⟨_, _, rfl, ne_norm_ret, rfl, rfl, gl g2, gl g3, gl g4⟩
      · refine w_condF rfl ?_
        refine w_exit ?_
        refine nx_exit ?_
        cases hr
        exact ⟨_, _, rfl, ne_norm_exit, rfl, rfl⟩
    · rcases o_2 with o_2 | o_2
      · obtain ⟨m_11, ho⟩ : ∃ z, z = o_2 := ⟨_, rfl⟩
        subst ho
        rintro _ mm_5 t_7 ⟨rfl, rfl⟩
        refine bk_hit ?_
        refine nx_norm ?_
        refine w_seq ?_
        refine w_ops ?_
        refine wo_step (v := (.i .i64 0)) (s_pure (p_mv rfl)) ?_
        refine wo_step (v := (.i .i64 0)) (s_pure (p_mv rfl)) ?_
        refine wo_step (v := (.i .i64 10)) (s_pure (p_mv rfl)) ?_
        refine wo_nil ?_
        refine nx_norm ?_
        refine w_ret ?_
        exact qf ret_ok (rt rfl (rt rfl (rt rfl rn))) hr
      · obtain ⟨x2_2, x3_2, x4_2, m_12⟩ := o_2
        rintro _ mm_6 t_8 ⟨rfl, rfl, g2, g3, g4⟩
        refine bk_ret ?_
        refine nx_ret ?_
        exact qf ret_ok (rt g2 (rt g3 (rt g4 rn))) hr

/- dibber/dibberlaw01.beds -/
abbrev g21_I0 (v0 : AVal) (v1 : AVal) (m0 : Mm) (s : Int) (m1 : Mm) (t1 : Tr) : Prop :=
  match s with
  | x5 => m0 = m1 ∧ t1.get 5 = (.i .i64 x5) ∧ t1.get 0 = v0 ∧ t1.get 1 = v1
abbrev g21_J0 (v0 : AVal) (v1 : AVal) (m0 : Mm) (o : (Unit ⊕ Bool)) (e : AExit) (m1 : Mm) (t1 : Tr) : Prop :=
  match o with
  | (.inl _) => e = (.exit 0) ∧ m0 = m1
  | (.inr y4) => e = .ret ∧ m0 = m1 ∧ t1.get 4 = (.b y4)
def g21_b0 (M : Means) (ro : List ABlk) (v0 : AVal) (v1 : AVal) (m0 : Mm) (x5 : Int) : Option ((Int) ⊕ ((Unit ⊕ Bool))) :=
  bindO (evP .e (.len false (.c v0))) fun v13 =>
  asI .i64 v13 fun x13 =>
  forceB (ltI x5 x13) fun c14 =>
  cond c14 (
    bindO (evP .e (.ixS 1 (.c v0) (.c (.i .i64 x5)))) fun v19 =>
    bindO (ldA ro m0.h true 1 v19) fun v20 =>
    bindO (evP .e (.ixS 1 (.c v1) (.c (.i .i64 x5)))) fun v23 =>
    bindO (ldA ro m0.h true 1 v23) fun v24 =>
    bindO (callN M.call m0.h 28 [v20, v24]) fun v25 =>
    asB v25 fun c25 =>
    forceB (!c25) fun c26 =>
    cond c26 (
      some (.inr (.inr false))) (
      forceI (wr .i64 (x5 + 1)) fun x16 =>
      some (.inl x16))) (
    some (.inr (.inl ())))
def g21 (M : Means) (ro : List ABlk) (v0 : AVal) (v1 : AVal) (m0 : Mm) : Option (AVal × Heap × Nat × Nat) :=
  bindO (evP .e (.len false (.c v0))) fun v7 =>
  asI .i64 v7 fun x7 =>
  bindO (evP .e (.len false (.c v1))) fun v9 =>
  asI .i64 v9 fun x9 =>
  forceB (!eqI x7 x9) fun c10 =>
  cond c10 (
    finM m0.h.length (tupA [(.b false)]) m0) (
    bindO (M.loop (S := Int) (R := (Unit ⊕ Bool)) (fun s => g21_b0 M ro v0 v1 m0 s) 0) fun o => match o with
    | (.inl _) =>
      finM m0.h.length (tupA [(.b true)]) m0
    | (.inr c4) =>
      finM m0.h.length (tupA [(.b c4)]) m0)

theorem g21_ok {ro : List ABlk} {O : Caller} {M : Means} (hM : M.Ok ⟨F, O⟩ ro) {v0 v1 h r} (ho : O 21 [v0, v1] h = none) (hr : g21 M ro v0 v1 ⟨h, h.length, h.length⟩ = some r) : callX ⟨F, O⟩ ro 21 [v0, v1] h = some r := by
  refine callX_of (F := ⟨F, O⟩) (fn := fn21) (g := g21 M ro v0 v1) ho rfl rfl hr ?_
  clear ho
  clear hr
  intro m0 t0 ht hr
  have g0 : t0.get 0 = v0 := ht 0
  have g1 : t0.get 1 = v1 := ht 1
  clear ht
  unfold g21 at hr
  refine w_seq ?_
  refine w_ops ?_
  refine wo_step (v := (.b false)) (s_pure (p_mv rfl)) ?_
  refine wo_nil ?_
  refine nx_norm ?_
  refine w_seq ?_
  refine w_seq ?_
  refine w_ops ?_
  refine wo_step (v := v0) (s_pure (p_mv g0)) ?_
  have hq := bindO_inv hr
  clear hr
  obtain ⟨v7, e7, hr⟩ := hq
  have hq := asI_inv hr
  clear hr
  obtain ⟨x7, rfl, hr⟩ := hq
  refine wo_step (v := (.i .i64 x7)) (s_pure (o_len rfl e7)) ?_
  refine wo_step (v := v1) (s_pure (p_mv g1)) ?_
  have hq := bindO_inv hr
  clear hr
  obtain ⟨v9, e9, hr⟩ := hq
  have hq := asI_inv hr
  clear hr
  obtain ⟨x9, rfl, hr⟩ := hq
  refine wo_step (v := (.i .i64 x9)) (s_pure (o_len rfl e9)) ?_
  have hq := forceB_inv hr
  clear hr
  obtain ⟨c10, e10, hr⟩ := hq
  refine wo_step (v := (.b c10)) (s_pure (p_bin rfl rfl (b_neq.trans (cb e10)))) ?_
  refine wo_nil ?_
  refine nx_norm ?_
  have hq := cond_inv hr
  clear hr
  rcases hq with ⟨rfl, hr⟩ | ⟨rfl, hr⟩
  · refine w_condT rfl ?_
    refine w_seq ?_
    refine w_ops ?_
    refine wo_step (v := (.b false)) (s_pure (p_mv rfl)) ?_
    refine wo_nil ?_
    refine nx_norm ?_
    refine w_ret ?_
    refine nx_ret ?_
    exact qf ret_ok (rt rfl rn) hr
  · refine w_condF rfl ?_
    refine w_skip ?_
    refine nx_norm ?_
    refine w_seq ?_
    refine w_seq ?_
    refine w_ops ?_
    refine wo_step (v := (.i .i64 0)) (s_pure (p_mv rfl)) ?_
    refine wo_nil ?_
    refine nx_norm ?_
    refine w_block ?_
    have hq := bindO_inv hr
    clear hr
    obtain ⟨o, hl, hr⟩ := hq
    obtain ⟨n, hl⟩ := hM.loop _ _ _ hl
    refine jp_mono (w_loop _ (g21_I0 v0 v1 m0) (g21_J0 v0 v1 m0) ?_ n _ _ _ _ hl ⟨rfl, gl rfl, gl g0, gl g1⟩) ?_
    · clear hr hl
      intro s mm_2 t_1 o hi hr
      obtain ⟨x5, hs⟩ : ∃ z, z = s := ⟨_, rfl⟩
      subst hs
      obtain ⟨rfl, g5, g0, g1⟩ := hi
      unfold g21_b0 at hr
      refine w_seq ?_
      refine w_seq ?_
      refine w_ops ?_
      refine wo_step (v := (.i .i64 x5)) (s_pure (p_mv g5)) ?_
      refine wo_step (v := v0) (s_pure (p_mv g0)) ?_
      have hq := bindO_inv hr
      clear hr
      obtain ⟨v13, e13, hr⟩ := hq
      have hq := asI_inv hr
      clear hr
      obtain ⟨x13, rfl, hr⟩ := hq
      refine wo_step (v := (.i .i64 x13)) (s_pure (o_len rfl e13)) ?_
      have hq := forceB_inv hr
      clear hr
      obtain ⟨c14, e14, hr⟩ := hq
      refine wo_step (v := (.b c14)) (s_pure (p_bin rfl rfl (b_lss.trans (cb e14)))) ?_
      refine wo_nil ?_
      refine nx_norm ?_
      have hq := cond_inv hr
      clear hr
      rcases hq with ⟨rfl, hr⟩ | ⟨rfl, hr⟩
      · refine w_condT rfl ?_
        refine w_skip ?_
        refine nx_norm ?_
        refine w_seq ?_
        refine w_block ?_
        refine w_seq ?_
        refine w_any ?_
        refine wa_step (v := v0) (a_pure (p_mv g0)) ?_
        refine wa_step (v := (.i .i64 x5)) (a_pure (p_mv g5)) ?_
        have hq := bindO_inv hr
        clear hr
        obtain ⟨v19, e19, hr⟩ := hq
        refine wa_step (v := v19) (a_pure (o_ixS rfl rfl e19)) ?_
        have hq := bindO_inv hr
        clear hr
        obtain ⟨v20, e20, hr⟩ := hq
        refine wa_step (v := v20) (a_ld rfl e20) ?_
        refine wa_step (v := v1) (a_pure (p_mv g1)) ?_
        refine wa_step (v := (.i .i64 x5)) (a_pure (p_mv g5)) ?_
        have hq := bindO_inv hr
        clear hr
        obtain ⟨v23, e23, hr⟩ := hq
        refine wa_step (v := v23) (a_pure (o_ixS rfl rfl e23)) ?_
        have hq := bindO_inv hr
        clear hr
        obtain ⟨v24, e24, hr⟩ := hq
        refine wa_step (v := v24) (a_ld rfl e24) ?_
        have hq := bindO_inv hr
        clear hr
        obtain ⟨v25, e25, hr⟩ := hq
        have hq := asB_inv hr
        clear hr
        obtain ⟨c25, rfl, hr⟩ := hq
        refine wa_step (v := (.b c25)) (a_call (mc rfl (mc rfl mn)) (callN_le hM.call e25)) ?_
        have hq := forceB_inv hr
        clear hr
        obtain ⟨c26, e26, hr⟩ := hq
        refine wa_step (v := (.b c26)) (a_pure ((p_not rfl).trans (cb e26))) ?_
        refine wa_nil ?_
        refine ⟨m0, rfl, ?_⟩
        refine nx_norm ?_
        have hq := cond_inv hr
        clear hr
        rcases hq with ⟨rfl, hr⟩ | ⟨rfl, hr⟩
        · refine w_condT rfl ?_
          refine w_seq ?_
          refine w_ops ?_
          refine wo_step (v := (.b false)) (s_pure (p_mv rfl)) ?_
          refine wo_nil ?_
          refine nx_norm ?_
          refine w_ret ?_
          refine bk_ret ?_
          refine nx_ret ?_
          cases hr
          exact ⟨_, _, rfl, ne_norm_ret, rfl, rfl, gl rfl⟩
        · refine w_condF rfl ?_
          refine w_skip ?_
          refine bk_norm ?_
          refine nx_norm ?_
          refine w_ops ?_
          refine wo_step (v := (.i .i64 x5)) (s_pure (p_mv g5)) ?_
          have hq := forceI_inv hr
          clear hr
          obtain ⟨x16, e16, hr⟩ := hq
          refine wo_step (v := (.i .i64 x16)) (s_pure (p_bin rfl rfl (b_add.trans (ci e16)))) ?_
          refine wo_step (v := (.i .i64 x16)) (s_pure (p_mv rfl)) ?_
          refine wo_nil ?_
          cases hr
          exact ⟨_, _, rfl, rfl, rfl, gl rfl, gl g0, gl g1⟩
      · refine w_condF rfl ?_
        refine w_exit ?_
        refine nx_exit ?_
        cases hr
        exact ⟨_, _, rfl, ne_norm_exit, rfl, rfl⟩
    · rcases o with o | o
      · rintro _ mm t_2 ⟨rfl, rfl⟩
        refine bk_hit ?_
        refine nx_norm ?_
        refine w_seq ?_
        refine w_ops ?_
        refine wo_step (v := (.b true)) (s_pure (p_mv rfl)) ?_
        refine wo_nil ?_
        refine nx_norm ?_
        refine w_ret ?_
        exact qf ret_ok (rt rfl rn) hr
      · obtain ⟨c4, ho⟩ : ∃ z, z = o := ⟨_, rfl⟩
        subst ho
        rintro _ mm_1 t_3 ⟨rfl, rfl, g4⟩
        refine bk_ret ?_
        refine nx_ret ?_
        exact qf ret_ok (rt g4 rn) hr

/- dibber/bed.Fill -/
abbrev g23_I0 (v12 : AVal) (v6 : AVal) (x25 : Int) (s : Int × Mm) (m1 : Mm) (t1 : Tr) : Prop :=
  match s with
  | (x26, m_5) => m_5 = m1 ∧ t1.get 26 = (.i .i64 x26) ∧ t1.get 4 = v12 ∧ t1.get 6 = v6 ∧ t1.get 25 = (.i .i64 x25)
abbrev g23_J0 (v12 : AVal) (v6 : AVal) (x25 : Int) (o : Mm) (e : AExit) (m1 : Mm) (t1 : Tr) : Prop :=
  match o with
  | mo => e = (.exit 0) ∧ mo = m1 ∧ t1.get 4 = v12
abbrev g23_I1 (v12 : AVal) (v6 : AVal) (x26 : Int) (x25 : Int) (x32 : Int) (s : Int × Mm) (m1 : Mm) (t1 : Tr) : Prop :=
  match s with
  | (x33, m_6) => m_6 = m1 ∧ t1.get 33 = (.i .i64 x33) ∧ t1.get 4 = v12 ∧ t1.get 6 = v6 ∧ t1.get 7 = (.i .i64 x26) ∧ t1.get 25 = (.i .i64 x25) ∧ t1.get 26 = (.i .i64 x26) ∧ t1.get 32 = (.i .i64 x32)
abbrev g23_J1 (v12 : AVal) (v6 : AVal) (x26 : Int) (x25 : Int) (x32 : Int) (o : Mm) (e : AExit) (m1 : Mm) (t1 : Tr) : Prop :=
  match o with
  | mo => e = (.exit 2) ∧ mo = m1 ∧ t1.get 4 = v12 ∧ t1.get 6 = v6 ∧ t1.get 25 = (.i .i64 x25) ∧ t1.get 26 = (.i .i64 x26)
abbrev g23_J2 (v12 : AVal) (v6 : AVal) (x26 : Int) (x25 : Int) (x32 : Int) (x33 : Int) (o : Mm) (e : AExit) (m1 : Mm) (t1 : Tr) : Prop :=
  match o with
  | mo => e = .norm ∧ mo = m1 ∧ t1.get 4 = v12 ∧ t1.get 6 = v6 ∧ t1.get 7 = (.i .i64 x26) ∧ t1.get 25 = (.i .i64 x25) ∧ t1.get 26 = (.i .i64 x26) ∧ t1.get 32 = (.i .i64 x32) ∧ t1.get 33 = (.i .i64 x33)
def g23_b1 (M : Means) (ro : List ABlk) (v12 : AVal) (v6 : AVal) (x26 : Int) (x25 : Int) (x32 : Int) (x33 : Int) (m_6 : Mm) : Option ((Int × Mm) ⊕ (Mm)) :=
  forceB (ltI x33 x32) fun c34 =>
  cond c34 (
    bindO (evP .e (.nilck (.c v12))) fun v39 =>
    bindO (evP .e (.faddr 1 (.c v39))) fun v40 =>
    bindO (evP .e (.ixA 7 7 (.c v40) (.c (.i .i64 x26)))) fun v41 =>
    bindO (evP .e (.ixA 7 1 (.c v41) (.c (.i .i64 x33)))) fun v42 =>
    bindO (ldM ro m_6 true 1 v42) fun v43 =>
    asI .i64 v43 fun x43 =>
    forceB (eqI x43 (-1)) fun c44 =>
    bindO (α := Mm) (
      cond c44 (
        bindP (callM M.call m_6 61 [v12, (.i .i64 x26), (.i .i64 x33), v6]) fun v48 m_7 =>
        some m_7) (
        some m_6)) fun m_8 =>
    forceI (wr .i64 (x33 + 1)) fun x49 =>
    some (.inl (x49, m_8))) (
    some (.inr m_6))
def g23_b0 (M : Means) (ro : List ABlk) (v12 : AVal) (v6 : AVal) (x25 : Int) (x26 : Int) (m_5 : Mm) : Option ((Int × Mm) ⊕ (Mm)) :=
  forceB (ltI x26 x25) fun c27 =>
  cond c27 (
    bindO (evP .e (.nilck (.c v12))) fun v30 =>
    bindO (evP .e (.faddr 0 (.c v30))) fun v31 =>
    bindO (ldM ro m_5 true 1 v31) fun v32 =>
    asI .i64 v32 fun x32 =>
    bindO (M.loop (S := Int × Mm) (R := Mm) (fun s => g23_b1 M ro v12 v6 x26 x25 x32 s.1 s.2) (0, m_5)) fun m_9 =>
    forceI (wr .i64 (x26 + 1)) fun x50 =>
    some (.inl (x50, m_9))) (
    some (.inr m_5))
def g23 (M : Means) (ro : List ABlk) (v0 : AVal) (m0 : Mm) : Option (AVal × Heap × Nat × Nat) :=
  bindP (callM M.call m0 59 [v0]) fun v11 m_1 =>
  bindO (evP .e (.ext 0 (.c v11))) fun v12 =>
  bindO (evP .e (.ext 1 (.c v11))) fun v13 =>
  asI .i64 v13 fun x13 =>
  forceB (!eqI x13 0) fun c15 =>
  cond c15 (
    finM m0.h.length (tupA [AVal.nsl, (.i .i64 x13)]) m_1) (
    bindO (evP .e (.nilck (.c v12))) fun v18 =>
    bindO (ldM ro m_1 false 113 v18) fun v19 =>
    bindP (stepM ro m_1 (.al 75 [(AVal.i IntKind.i64 0), (AVal.i IntKind.i64 0), (AVal.i IntKind.i64 0), (AVal.i IntKind.i64 0), (AVal.i IntKind.i64 0), (AVal.i IntKind.i64 0), (AVal.i IntKind.i64 0), (AVal.i IntKind.i64 0), (AVal.i IntKind.i64 0), (AVal.i IntKind.i64 0), (AVal.i IntKind.i64 0), (AVal.i IntKind.i64 0), (AVal.i IntKind.i64 0), (AVal.i IntKind.i64 0), (AVal.i IntKind.i64 0), (AVal.i IntKind.i64 0), (AVal.i IntKind.i64 0), (AVal.i IntKind.i64 0), (AVal.i IntKind.i64 0), (AVal.i IntKind.i64 0), (AVal.i IntKind.i64 0), (AVal.i IntKind.i64 0), (AVal.i IntKind.i64 0), (AVal.i IntKind.i64 0), (AVal.i IntKind.i64 0), (AVal.i IntKind.i64 0), (AVal.i IntKind.i64 0), (AVal.i IntKind.i64 0), (AVal.i IntKind.i64 0), (AVal.i IntKind.i64 0), (AVal.i IntKind.i64 0), (AVal.i IntKind.i64 0), (AVal.i IntKind.i64 0), (AVal.i IntKind.i64 0), (AVal.i IntKind.i64 0), (AVal.i IntKind.i64 0), (AVal.i IntKind.i64 0), (AVal.i IntKind.i64 0), (AVal.i IntKind.i64 0), (AVal.i IntKind.i64 0), (AVal.i IntKind.i64 0), (AVal.i IntKind.i64 0), (AVal.i IntKind.i64 0), (AVal.i IntKind.i64 0), (AVal.i IntKind.i64 0), (AVal.i IntKind.i64 0), (AVal.i IntKind.i64 0), (AVal.i IntKind.i64 0), (AVal.i IntKind.i64 0), (AVal.i IntKind.i64 0), (AVal.i IntKind.u8 0), (AVal.i IntKind.u8 0), (AVal.i IntKind.u8 0), (AVal.i IntKind.u8 0), (AVal.i IntKind.u8 0), (AVal.i IntKind.u8 0), (AVal.i IntKind.u8 0), (AVal.i IntKind.u8 0), (AVal.i IntKind.u8 0), (AVal.i IntKind.u8 0), (AVal.i IntKind.u8 0), (AVal.i IntKind.u8 0), (AVal.i IntKind.u8 0), (AVal.i IntKind.u8 0), (AVal.i IntKind.u8 0), (AVal.i IntKind.u8 0), (AVal.i IntKind.u8 0), (AVal.i IntKind.u8 0), (AVal.i IntKind.u8 0), (AVal.i IntKind.u8 0), (AVal.i IntKind.u8 0), (AVal.i IntKind.u8 0), (AVal.i IntKind.u8 0), (AVal.i IntKind.u8 0), (AVal.i IntKind.u8 0), (AVal.i IntKind.u8 0), (AVal.i IntKind.u8 0), (AVal.i IntKind.u8 0), (AVal.i IntKind.u8 0), (AVal.i IntKind.u8 0), (AVal.i IntKind.u8 0), (AVal.i IntKind.u8 0), (AVal.i IntKind.u8 0), (AVal.i IntKind.u8 0), (AVal.i IntKind.u8 0), (AVal.i IntKind.u8 0), (AVal.i IntKind.u8 0), (AVal.i IntKind.u8 0), (AVal.i IntKind.u8 0), (AVal.i IntKind.u8 0), (AVal.i IntKind.u8 0), (AVal.i IntKind.u8 0), (AVal.i IntKind.u8 0), (AVal.i IntKind.u8 0), (AVal.i IntKind.u8 0), (AVal.i IntKind.u8 0), (AVal.i IntKind.u8 0), (AVal.i IntKind.u8 0), (AVal.i IntKind.u8 0), (AVal.i IntKind.u8 0), (AVal.i IntKind.u8 0), (AVal.i IntKind.u8 0), (AVal.i IntKind.u8 0), (AVal.i IntKind.u8 0), (AVal.i IntKind.u8 0), (AVal.i IntKind.u8 0), (AVal.i IntKind.u8 0), (AVal.i IntKind.u8 0), (AVal.i IntKind.u8 0), (AVal.i IntKind.u8 0), (AVal.i IntKind.u8 0), (AVal.i IntKind.u8 0), (AVal.i IntKind.u8 0)])) fun v6 m_2 =>
    bindP (stepM ro m_2 (.st 113 (.c v6) (.c v19))) fun vn m_3 =>
    bindP (callM M.call m_3 60 [v6]) fun v20 m_4 =>
    asB v20 fun c20 =>
    forceB (!c20) fun c21 =>
    cond c21 (
      finM m0.h.length (tupA [AVal.nsl, (.i .i64 10)]) m_4) (
      bindO (evP .e (.nilck (.c v12))) fun v23 =>
      bindO (evP .e (.faddr 0 (.c v23))) fun v24 =>
      bindO (ldM ro m_4 true 1 v24) fun v25 =>
      asI .i64 v25 fun x25 =>
      bindO (M.loop (S := Int × Mm) (R := Mm) (fun s => g23_b0 M ro v12 v6 x25 s.1 s.2) (0, m_4)) fun m_10 =>
      bindP (callM M.call m_10 62 [v12]) fun v52 m_11 =>
      finM m0.h.length (tupA [v52, (.i .i64 0)]) m_11))

theorem g23_ok {ro : List ABlk} {O : Caller} {M : Means} (hM : M.Ok ⟨F, O⟩ ro) {v0 h r} (ho : O 23 [v0] h = none) (hr : g23 M ro v0 ⟨h, h.length, h.length⟩ = some r) : callX ⟨F, O⟩ ro 23 [v0] h = some r := by
  refine callX_of (F := ⟨F, O⟩) (fn := fn23) (g := g23 M ro v0) ho rfl rfl hr ?_
  clear ho
  clear hr
  intro m0 t0 ht hr
  have g0 : t0.get 0 = v0 := ht 0
  clear ht
  unfold g23 at hr
  refine w_seq ?_
  refine w_ops ?_
  refine wo_step (v := AVal.nsl) (s_pure (p_mv rfl)) ?_
  refine wo_step (v := (.i .i64 0)) (s_pure (p_mv rfl)) ?_
  refine wo_nil ?_
  refine nx_norm ?_
  refine w_seq ?_
  refine w_ops ?_
  refine wo_step (v := v0) (s_pure (p_mv g0)) ?_
  have hq := bindP_inv hr
  clear hr
  obtain ⟨v11, m_1, e11, hr⟩ := hq
  refine wo_step (v := v11) (s_call (mc rfl mn) (callM_le hM.call e11)) ?_
  refine wo_step (v := v11) (s_pure (p_mv rfl)) ?_
  have hq := bindO_inv hr
  clear hr
  obtain ⟨v12, e12, hr⟩ := hq
  refine wo_step (v := v12) (s_pure (o_ext rfl e12)) ?_
  have hq := bindO_inv hr
  clear hr
  obtain ⟨v13, e13, hr⟩ := hq
  have hq := asI_inv hr
  clear hr
  obtain ⟨x13, rfl, hr⟩ := hq
  refine wo_step (v := (.i .i64 x13)) (s_pure (o_ext rfl e13)) ?_
  refine wo_step (v := v12) (s_pure (p_mv rfl)) ?_
  refine wo_step (v := (.i .i64 x13)) (s_pure (p_mv rfl)) ?_
  refine wo_nil ?_
  refine nx_norm ?_
  refine w_seq ?_
  refine w_seq ?_
  refine w_ops ?_
  refine wo_step (v := (.i .i64 x13)) (s_pure (p_mv rfl)) ?_
  have hq := forceB_inv hr
  clear hr
  obtain ⟨c15, e15, hr⟩ := hq
  refine wo_step (v := (.b c15)) (s_pure (p_bin rfl rfl (b_neq.trans (cb e15)))) ?_
  refine wo_nil ?_
  refine nx_norm ?_
  have hq := cond_inv hr
  clear hr
  rcases hq with ⟨rfl, hr⟩ | ⟨rfl, hr⟩
  · refine w_condT rfl ?_
    refine w_seq ?_
    refine w_ops ?_
    refine wo_step (v := (.i .i64 x13)) (s_pure (p_mv rfl)) ?_
    refine wo_step (v := AVal.nsl) (s_pure (p_mv rfl)) ?_
    refine wo_step (v := (.i .i64 x13)) (s_pure (p_mv rfl)) ?_
    refine wo_nil ?_
    refine nx_norm ?_
    refine w_ret ?_
    refine nx_ret ?_
    exact qf ret_ok (rt rfl (rt rfl rn)) hr
  · refine w_condF rfl ?_
    refine w_skip ?_
    refine nx_norm ?_
    refine w_seq ?_
    refine w_ops ?_
    refine wo_step (v := v12) (s_pure (p_mv rfl)) ?_
    have hq := bindO_inv hr
    clear hr
    obtain ⟨v18, e18, hr⟩ := hq
    refine wo_step (v := v18) (s_pure (o_nilck rfl e18)) ?_
    have hq := bindO_inv hr
    clear hr
    obtain ⟨v19, e19, hr⟩ := hq
    refine wo_step (v := v19) (s_ld rfl e19) ?_
    have hq := bindP_inv hr
    clear hr
    obtain ⟨v6, m_2, e6, hr⟩ := hq
    refine wo_step (v := v6) (s_al e6) ?_
    have hq := bindP_inv hr
    clear hr
    obtain ⟨vn, m_3, en, hr⟩ := hq
    refine wo_stepN (s_st rfl rfl en) ?_
    refine wo_nil ?_
    refine nx_norm ?_
    refine w_seq ?_
    refine w_seq ?_
    refine w_ops ?_
    have hq := bindP_inv hr
    clear hr
    obtain ⟨v20, m_4, e20, hr⟩ := hq
    have hq := asB_inv hr
    clear hr
    obtain ⟨c20, rfl, hr⟩ := hq
    refine wo_step (v := (.b c20)) (s_call (mc rfl mn) (callM_le hM.call e20)) ?_
    have hq := forceB_inv hr
    clear hr
    obtain ⟨c21, e21, hr⟩ := hq
    refine wo_step (v := (.b c21)) (s_pure ((p_not rfl).trans (cb e21))) ?_
    refine wo_nil ?_
    refine nx_norm ?_
    have hq := cond_inv hr
    clear hr
    rcases hq with ⟨rfl, hr⟩ | ⟨rfl, hr⟩
    · refine w_condT rfl ?_
      refine w_seq ?_
      refine w_ops ?_
      refine wo_step (v := AVal.nsl) (s_pure (p_mv rfl)) ?_
      refine wo_step (v := (.i .i64 10)) (s_pure (p_mv rfl)) ?_
      refine wo_nil ?_
      refine nx_norm ?_
      refine w_ret ?_
      refine nx_ret ?_
      exact qf ret_ok (rt rfl (rt rfl rn)) hr
    · refine w_condF rfl ?_
      refine w_skip ?_
      refine nx_norm ?_
      refine w_seq ?_
      refine w_seq ?_
      refine w_ops ?_
      refine wo_step (v := v12) (s_pure (p_mv rfl)) ?_
      have hq := bindO_inv hr
      clear hr
      obtain ⟨v23, e23, hr⟩ := hq
      refine wo_step (v := v23) (s_pure (o_nilck rfl e23)) ?_
      have hq := bindO_inv hr
      clear hr
      obtain ⟨v24, e24, hr⟩ := hq
      refine wo_step (v := v24) (s_pure (o_faddr rfl e24)) ?_
      have hq := bindO_inv hr
      clear hr
      obtain ⟨v25, e25, hr⟩ := hq
      have hq := asI_inv hr
      clear hr
      obtain ⟨x25, rfl, hr⟩ := hq
      refine wo_step (v := (.i .i64 x25)) (s_ld rfl e25) ?_
      refine wo_step (v := (.i .i64 0)) (s_pure (p_mv rfl)) ?_
      refine wo_nil ?_
      refine nx_norm ?_
      refine w_block ?_
      have hq := bindO_inv hr
      clear hr
      obtain ⟨o_2, hl_1, hr⟩ := hq
      obtain ⟨n_1, hl_1⟩ := hM.loop _ _ _ hl_1
      refine jp_mono (w_loop _ (g23_I0 v12 v6 x25) (g23_J0 v12 v6 x25) ?_ n_1 _ _ _ _ hl_1 ⟨rfl, gl rfl, gl rfl, gl rfl, gl rfl⟩) ?_
      · clear hr hl_1
        intro s mm_4 t_1 o hi hr
        obtain ⟨x26, m_5⟩ := s
        obtain ⟨rfl, g26, g4, g6, g25⟩ := hi
        unfold g23_b0 at hr
        refine w_seq ?_
        refine w_ops ?_
        have hq := forceB_inv hr
        clear hr
        obtain ⟨c27, e27, hr⟩ := hq
        refine wo_step (v := (.b c27)) (s_pure (p_bin g26 g25 (b_lss.trans (cb e27)))) ?_
        refine wo_nil ?_
        refine nx_norm ?_
        refine w_seq ?_
        have hq := cond_inv hr
        clear hr
        rcases hq with ⟨rfl, hr⟩ | ⟨rfl, hr⟩
        · refine w_condT rfl ?_
          refine w_skip ?_
          refine nx_norm ?_
          refine w_seq ?_
          refine w_block ?_
          refine w_seq ?_
          refine w_ops ?_
          refine wo_step (v := (.i .i64 x26)) (s_pure (p_mv g26)) ?_
          refine wo_step (v := (.i .i64 x26)) (s_pure (p_mv rfl)) ?_
          refine wo_nil ?_
          refine nx_norm ?_
          refine w_seq ?_
          refine w_ops ?_
          refine wo_step (v := v12) (s_pure (p_mv g4)) ?_
          have hq := bindO_inv hr
          clear hr
          obtain ⟨v30, e30, hr⟩ := hq
          refine wo_step (v := v30) (s_pure (o_nilck rfl e30)) ?_
          have hq := bindO_inv hr
          clear hr
          obtain ⟨v31, e31, hr⟩ := hq
          refine wo_step (v := v31) (s_pure (o_faddr rfl e31)) ?_
          have hq := bindO_inv hr
          clear hr
          obtain ⟨v32, e32, hr⟩ := hq
          have hq := asI_inv hr
          clear hr
          obtain ⟨x32, rfl, hr⟩ := hq
          refine wo_step (v := (.i .i64 x32)) (s_ld rfl e32) ?_
          refine wo_step (v := (.i .i64 0)) (s_pure (p_mv rfl)) ?_
          refine wo_nil ?_
          refine nx_norm ?_
          refine w_block ?_
          have hq := bindO_inv hr
          clear hr
          obtain ⟨o_1, hl, hr⟩ := hq
          obtain ⟨n, hl⟩ := hM.loop _ _ _ hl
          refine jp_mono (w_loop _ (g23_I1 v12 v6 x26 x25 x32) (g23_J1 v12 v6 x26 x25 x32) ?_ n _ _ _ _ hl ⟨rfl, gl rfl, gl g4, gl g6, gl rfl, gl g25, gl g26, gl rfl⟩) ?_
          · clear hr hl
            intro s mm_2 t_2 o hi hr
            obtain ⟨x33, m_6⟩ := s
            obtain ⟨rfl, g33, g4, g6, g7, g25, g26, g32⟩ := hi
            unfold g23_b1 at hr
            refine w_seq ?_
            refine w_ops ?_
            have hq := forceB_inv hr
            clear hr
            obtain ⟨c34, e34, hr⟩ := hq
            refine wo_step (v := (.b c34)) (s_pure (p_bin g33 g32 (b_lss.trans (cb e34)))) ?_
            refine wo_nil ?_
            refine nx_norm ?_
            refine w_seq ?_
            have hq := cond_inv hr
            clear hr
            rcases hq with ⟨rfl, hr⟩ | ⟨rfl, hr⟩
            · refine w_condT rfl ?_
              refine w_skip ?_
              refine nx_norm ?_
              refine w_seq ?_
              refine w_block ?_
              refine w_seq ?_
              refine w_ops ?_
              refine wo_step (v := (.i .i64 x33)) (s_pure (p_mv g33)) ?_
              refine wo_step (v := (.i .i64 x33)) (s_pure (p_mv rfl)) ?_
              refine wo_nil ?_
              refine nx_norm ?_
              refine w_seq ?_
              refine w_ops ?_
              refine wo_step (v := v12) (s_pure (p_mv g4)) ?_
              refine wo_step (v := (.i .i64 x26)) (s_pure (p_mv g7)) ?_
              refine wo_step (v := (.i .i64 x33)) (s_pure (p_mv rfl)) ?_
              have hq := bindO_inv hr
              clear hr
              obtain ⟨v39, e39, hr⟩ := hq
              refine wo_step (v := v39) (s_pure (o_nilck rfl e39)) ?_
              have hq := bindO_inv hr
              clear hr
              obtain ⟨v40, e40, hr⟩ := hq
              refine wo_step (v := v40) (s_pure (o_faddr rfl e40)) ?_
              have hq := bindO_inv hr
              clear hr
              obtain ⟨v41, e41, hr⟩ := hq
              refine wo_step (v := v41) (s_pure (o_ixA rfl rfl e41)) ?_
              have hq := bindO_inv hr
              clear hr
              obtain ⟨v42, e42, hr⟩ := hq
              refine wo_step (v := v42) (s_pure (o_ixA rfl rfl e42)) ?_
              have hq := bindO_inv hr
              clear hr
              obtain ⟨v43, e43, hr⟩ := hq
              have hq := asI_inv hr
              clear hr
              obtain ⟨x43, rfl, hr⟩ := hq
              refine wo_step (v := (.i .i64 x43)) (s_ld rfl e43) ?_
              have hq := forceB_inv hr
              clear hr
              obtain ⟨c44, e44, hr⟩ := hq
              refine wo_step (v := (.b c44)) (s_pure (p_bin rfl rfl (b_eql.trans (cb e44)))) ?_
              refine wo_nil ?_
              refine nx_norm ?_
              have hq := bindO_inv hr
              clear hr
              obtain ⟨o, hr, hk⟩ := hq
              refine jp_mono (J := g23_J2 v12 v6 x26 x25 x32 x33 o) ?_ ?_
              · clear hk
                have hq := cond_inv hr
                clear hr
                rcases hq with ⟨rfl, hr⟩ | ⟨rfl, hr⟩
                · refine w_condT rfl ?_
                  refine w_ops ?_
                  refine wo_step (v := v12) (s_pure (p_mv g4)) ?_
                  refine wo_step (v := (.i .i64 x26)) (s_pure (p_mv g7)) ?_
                  refine wo_step (v := (.i .i64 x33)) (s_pure (p_mv rfl)) ?_
                  have hq := bindP_inv hr
                  clear hr
                  obtain ⟨v48, m_7, e48, hr⟩ := hq
                  refine wo_step (v := v48) (s_call (mc rfl (mc rfl (mc rfl (mc g6 mn)))) (callM_le hM.call e48)) ?_
                  refine wo_nil ?_
                  cases hr
                  exact ⟨_, _, rfl, rfl, rfl, gl g4, gl g6, gl g7, gl g25, gl g26, gl g32, gl g33⟩
                · refine w_condF rfl ?_
                  refine w_skip ?_
                  cases hr
                  exact ⟨_, _, rfl, rfl, rfl, gl g4, gl g6, gl g7, gl g25, gl g26, gl g32, gl g33⟩
              · have hr := hk
                clear hk
                obtain ⟨m_8, ho⟩ : ∃ z, z = o := ⟨_, rfl⟩
                subst ho
                rintro _ mm t_3 ⟨rfl, rfl, g4, g6, g7, g25, g26, g32, g33⟩
                refine bk_norm ?_
                refine nx_norm ?_
                refine w_ops ?_
                have hq := forceI_inv hr
                clear hr
                obtain ⟨x49, e49, hr⟩ := hq
                refine wo_step (v := (.i .i64 x49)) (s_pure (p_bin g33 rfl (b_add.trans (ci e49)))) ?_
                refine wo_step (v := (.i .i64 x49)) (s_pure (p_mv rfl)) ?_
                refine wo_nil ?_
                cases hr
                exact ⟨_, _, rfl, rfl, rfl, gl rfl, gl g4, gl g6, gl g7, gl g25, gl g26, gl g32⟩
            · refine w_condF rfl ?_
              refine w_exit ?_
              refine nx_exit ?_
              cases hr
              exact ⟨_, _, rfl, ne_norm_exit, rfl, rfl, gl g4, gl g6, gl g25, gl g26⟩
          · obtain ⟨m_9, ho⟩ : ∃ z, z = o_1 := ⟨_, rfl⟩
            subst ho
            rintro _ mm_1 t_4 ⟨rfl, rfl, g4, g6, g25, g26⟩
            refine bk_hit ?_
            refine bk_norm ?_
            refine nx_norm ?_
            refine w_ops ?_
            have hq := forceI_inv hr
            clear hr
            obtain ⟨x50, e50, hr⟩ := hq
            refine wo_step (v := (.i .i64 x50)) (s_pure (p_bin g26 rfl (b_add.trans (ci e50)))) ?_
            refine wo_step (v := (.i .i64 x50)) (s_pure (p_mv rfl)) ?_
            refine wo_nil ?_
            cases hr
            exact ⟨_, _, rfl, rfl, rfl, gl rfl, gl g4, gl g6, gl g25⟩
        · refine w_condF rfl ?_
          refine w_exit ?_
          refine nx_exit ?_
          cases hr
          exact ⟨_, _, rfl, ne_norm_exit, rfl, rfl, gl g4⟩
      · obtain ⟨m_10, ho⟩ : ∃ z, z = o_2 := ⟨_, rfl⟩
        subst ho
        rintro _ mm_3 t_5 ⟨rfl, rfl, g4⟩
        refine bk_hit ?_
        refine nx_norm ?_
        refine w_seq ?_
        refine w_ops ?_
        refine wo_step (v := v12) (s_pure (p_mv g4)) ?_
        have hq := bindP_inv hr
        clear hr
        obtain ⟨v52, m_11, e52, hr⟩ := hq
        refine wo_step (v := v52) (s_call (mc rfl mn) (callM_le hM.call e52)) ?_
        refine wo_step (v := v52) (s_pure (p_mv rfl)) ?_
        refine wo_step (v := (.i .i64 0)) (s_pure (p_mv rfl)) ?_
        refine wo_nil ?_
        refine nx_norm ?_
        refine w_ret ?_
        exact qf ret_ok (rt rfl (rt rfl rn)) hr

/- dibber/dibberlaw01.same -/
abbrev g28_I0 (v0 : AVal) (v1 : AVal) (m0 : Mm) (s : Int) (m1 : Mm) (t1 : Tr) : Prop :=
  match s with
  | x5 => m0 = m1 ∧ t1.get 5 = (.i .i64 x5) ∧ t1.get 0 = v0 ∧ t1.get 1 = v1
abbrev g28_J0 (v0 : AVal) (v1 : AVal) (m0 : Mm) (o : (Unit ⊕ Bool)) (e : AExit) (m1 : Mm) (t1 : Tr) : Prop :=
  match o with
  | (.inl _) => e = (.exit 0) ∧ m0 = m1
  | (.inr y4) => e = .ret ∧ m0 = m1 ∧ t1.get 4 = (.b y4)
def g28_b0 (M : Means) (ro : List ABlk) (v0 : AVal) (v1 : AVal) (m0 : Mm) (x5 : Int) : Option ((Int) ⊕ ((Unit ⊕ Bool))) :=
  bindO (evP .e (.len false (.c v0))) fun v13 =>
  asI .i64 v13 fun x13 =>
  forceB (ltI x5 x13) fun c14 =>
  cond c14 (
    bindO (evP .e (.ixS 1 (.c v0) (.c (.i .i64 x5)))) fun v19 =>
    bindO (ldA ro m0.h true 1 v19) fun v20 =>
    asI .i64 v20 fun x20 =>
    bindO (evP .e (.ixS 1 (.c v1) (.c (.i .i64 x5)))) fun v23 =>
    bindO (ldA ro m0.h true 1 v23) fun v24 =>
    asI .i64 v24 fun x24 =>
    forceB (!eqI x20 x24) fun c25 =>
    cond c25 (
      some (.inr (.inr false))) (
      forceI (wr .i64 (x5 + 1)) fun x16 =>
      some (.inl x16))) (
    some (.inr (.inl ())))
def g28 (M : Means) (ro : List ABlk) (v0 : AVal) (v1 : AVal) (m0 : Mm) : Option (AVal × Heap × Nat × Nat) :=
  bindO (evP .e (.len false (.c v0))) fun v7 =>
  asI .i64 v7 fun x7 =>
  bindO (evP .e (.len false (.c v1))) fun v9 =>
  asI .i64 v9 fun x9 =>
  forceB (!eqI x7 x9) fun c10 =>
  cond c10 (
    finM m0.h.length (tupA [(.b false)]) m0) (
    bindO (M.loop (S := Int) (R := (Unit ⊕ Bool)) (fun s => g28_b0 M ro v0 v1 m0 s) 0) fun o => match o with
    | (.inl _) =>
      finM m0.h.length (tupA [(.b true)]) m0
    | (.inr c4) =>
      finM m0.h.length (tupA [(.b c4)]) m0)

theorem g28_ok {ro : List ABlk} {O : Caller} {M : Means} (hM : M.Ok ⟨F, O⟩ ro) {v0 v1 h r} (ho : O 28 [v0, v1] h = none) (hr : g28 M ro v0 v1 ⟨h, h.length, h.length⟩ = some r) : callX ⟨F, O⟩ ro 28 [v0, v1] h = some r := by
  refine callX_of (F := ⟨F, O⟩) (fn := fn28) (g := g28 M ro v0 v1) ho rfl rfl hr ?_
  clear ho
  clear hr
  intro m0 t0 ht hr
  have g0 : t0.get 0 = v0 := ht 0
  have g1 : t0.get 1 = v1 := ht 1
  clear ht
  unfold g28 at hr
  refine w_seq ?_
  refine w_ops ?_
  refine wo_step (v := (.b false)) (s_pure (p_mv rfl)) ?_
  refine wo_nil ?_
  refine nx_norm ?_
  refine w_seq ?_
  refine w_seq ?_
  refine w_ops ?_
  refine wo_step (v := v0) (s_pure (p_mv g0)) ?_
  have hq := bindO_inv hr
  clear hr
  obtain ⟨v7, e7, hr⟩ := hq
  have hq := asI_inv hr
  clear hr
  obtain ⟨x7, rfl, hr⟩ := hq
  refine wo_step (v := (.i .i64 x7)) (s_pure (o_len rfl e7)) ?_
  refine wo_step (v := v1) (s_pure (p_mv g1)) ?_
  have hq := bindO_inv hr
  clear hr
  obtain ⟨v9, e9, hr⟩ := hq
  have hq := asI_inv hr
  clear hr
  obtain ⟨x9, rfl, hr⟩ := hq
  refine wo_step (v := (.i .i64 x9)) (s_pure (o_len rfl e9)) ?_
  have hq := forceB_inv hr
  clear hr
  obtain ⟨c10, e10, hr⟩ := hq
  refine wo_step (v := (.b c10)) (s_pure (p_bin rfl rfl (b_neq.trans (cb e10)))) ?_
  refine wo_nil ?_
  refine nx_norm ?_
  have hq := cond_inv hr
  clear hr
  rcases hq with ⟨rfl, hr⟩ | ⟨rfl, hr⟩
  · refine w_condT rfl ?_
    refine w_seq ?_
    refine w_ops ?_
    refine wo_step (v := (.b false)) (s_pure (p_mv rfl)) ?_
    refine wo_nil ?_
    refine nx_norm ?_
    refine w_ret ?_
    refine nx_ret ?_
    exact qf ret_ok (rt rfl rn) hr
  · refine w_condF rfl ?_
    refine w_skip ?_
    refine nx_norm ?_
    refine w_seq ?_
    refine w_seq ?_
    refine w_ops ?_
    refine wo_step (v := (.i .i64 0)) (s_pure (p_mv rfl)) ?_
    refine wo_nil ?_
    refine nx_norm ?_
    refine w_block ?_
    have hq := bindO_inv hr
    clear hr
    obtain ⟨o, hl, hr⟩ := hq
    obtain ⟨n, hl⟩ := hM.loop _ _ _ hl
    refine jp_mono (w_loop _ (g28_I0 v0 v1 m0) (g28_J0 v0 v1 m0) ?_ n _ _ _ _ hl ⟨rfl, gl rfl, gl g0, gl g1⟩) ?_
    · clear hr hl
      intro s mm_2 t_1 o hi hr
      obtain ⟨x5, hs⟩ : ∃ z, z = s := ⟨_, rfl⟩
      subst hs
      obtain ⟨rfl, g5, g0, g1⟩ := hi
      unfold g28_b0 at hr
      refine w_seq ?_
      refine w_seq ?_
      refine w_ops ?_
      refine wo_step (v := (.i .i64 x5)) (s_pure (p_mv g5)) ?_
      refine wo_step (v := v0) (s_pure (p_mv g0)) ?_
      have hq := bindO_inv hr
      clear hr
      obtain ⟨v13, e13, hr⟩ := hq
      have hq := asI_inv hr
      clear hr
      obtain ⟨x13, rfl, hr⟩ := hq
      refine wo_step (v := (.i .i64 x13)) (s_pure (o_len rfl e13)) ?_
      have hq := forceB_inv hr
      clear hr
      obtain ⟨c14, e14, hr⟩ := hq
      refine wo_step (v := (.b c14)) (s_pure (p_bin rfl rfl (b_lss.trans (cb e14)))) ?_
      refine wo_nil ?_
      refine nx_norm ?_
      have hq := cond_inv hr
      clear hr
      rcases hq with ⟨rfl, hr⟩ | ⟨rfl, hr⟩
      · refine w_condT rfl ?_
        refine w_skip ?_
        refine nx_norm ?_
        refine w_seq ?_
        refine w_block ?_
        refine w_seq ?_
        refine w_any ?_
        refine wa_step (v := v0) (a_pure (p_mv g0)) ?_
        refine wa_step (v := (.i .i64 x5)) (a_pure (p_mv g5)) ?_
        have hq := bindO_inv hr
        clear hr
        obtain ⟨v19, e19, hr⟩ := hq
        refine wa_step (v := v19) (a_pure (o_ixS rfl rfl e19)) ?_
        have hq := bindO_inv hr
        clear hr
        obtain ⟨v20, e20, hr⟩ := hq
        have hq := asI_inv hr
        clear hr
        obtain ⟨x20, rfl, hr⟩ := hq
        refine wa_step (v := (.i .i64 x20)) (a_ld rfl e20) ?_
        refine wa_step (v := v1) (a_pure (p_mv g1)) ?_
        refine wa_step (v := (.i .i64 x5)) (a_pure (p_mv g5)) ?_
        have hq := bindO_inv hr
        clear hr
        obtain ⟨v23, e23, hr⟩ := hq
        refine wa_step (v := v23) (a_pure (o_ixS rfl rfl e23)) ?_
        have hq := bindO_inv hr
        clear hr
        obtain ⟨v24, e24, hr⟩ := hq
        have hq := asI_inv hr
        clear hr
        obtain ⟨x24, rfl, hr⟩ := hq
        refine wa_step (v := (.i .i64 x24)) (a_ld rfl e24) ?_
        have hq := forceB_inv hr
        clear hr
        obtain ⟨c25, e25, hr⟩ := hq
        refine wa_step (v := (.b c25)) (a_pure (p_bin rfl rfl (b_neq.trans (cb e25)))) ?_
        refine wa_nil ?_
        refine ⟨m0, rfl, ?_⟩
        refine nx_norm ?_
        have hq := cond_inv hr
        clear hr
        rcases hq with ⟨rfl, hr⟩ | ⟨rfl, hr⟩
        · refine w_condT rfl ?_
          refine w_seq ?_
          refine w_ops ?_
          refine wo_step (v := (.b false)) (s_pure (p_mv rfl)) ?_
          refine wo_nil ?_
          refine nx_norm ?_
          refine w_ret ?_
          refine bk_ret ?_
          refine nx_ret ?_
          cases hr
          exact ⟨_, _, rfl, ne_norm_ret, rfl, rfl, gl rfl⟩
        · refine w_condF rfl ?_
          refine w_skip ?_
          refine bk_norm ?_
          refine nx_norm ?_
          refine w_ops ?_
          refine wo_step (v := (.i .i64 x5)) (s_pure (p_mv g5)) ?_
          have hq := forceI_inv hr
          clear hr
          obtain ⟨x16, e16, hr⟩ := hq
          refine wo_step (v := (.i .i64 x16)) (s_pure (p_bin rfl rfl (b_add.trans (ci e16)))) ?_
          refine wo_step (v := (.i .i64 x16)) (s_pure (p_mv rfl)) ?_
          refine wo_nil ?_
          cases hr
          exact ⟨_, _, rfl, rfl, rfl, gl rfl, gl g0, gl g1⟩
      · refine w_condF rfl ?_
        refine w_exit ?_
        refine nx_exit ?_
        cases hr
        exact ⟨_, _, rfl, ne_norm_exit, rfl, rfl⟩
    · rcases o with o | o
      · rintro _ mm t_2 ⟨rfl, rfl⟩
        refine bk_hit ?_
        refine nx_norm ?_
        refine w_seq ?_
        refine w_ops ?_
        refine wo_step (v := (.b true)) (s_pure (p_mv rfl)) ?_
        refine wo_nil ?_
        refine nx_norm ?_
        refine w_ret ?_
        exact qf ret_ok (rt rfl rn) hr
      · obtain ⟨c4, ho⟩ : ∃ z, z = o := ⟨_, rfl⟩
        subst ho
        rintro _ mm_1 t_3 ⟨rfl, rfl, g4⟩
        refine bk_ret ?_
        refine nx_ret ?_
        exact qf ret_ok (rt g4 rn) hr

/- dibber/bed.Transversals -/

def g33 (M : Means) (ro : List ABlk) (v0 : AVal) (m0 : Mm) : Option (AVal × Heap × Nat × Nat) :=
  bindP (callM M.call m0 71 [v0]) fun v9 m_1 =>
  bindO (evP .e (.ext 0 (.c v9))) fun v10 =>
  bindO (evP .e (.ext 1 (.c v9))) fun v11 =>
  asI .i64 v11 fun x11 =>
  forceB (!eqI x11 0) fun c13 =>
  cond c13 (
    finM m0.h.length (tupA [(.i .i64 0), (.i .i64 x11)]) m_1) (
    bindP (stepM ro m_1 (.al 3 [(AVal.i IntKind.i64 0)])) fun v6 m_2 =>
    bindP (stepM ro m_2 (.st 1 (.c v6) (.c (.i .i64 0)))) fun vn m_3 =>
    bindO (some (AVal.fn 76 [] [v6])) fun v16 =>
    bindP (callM M.call m_3 72 [v10, v16]) fun v17 m_4 =>
    bindO (ldM ro m_4 true 1 v6) fun v18 =>
    asI .i64 v18 fun x18 =>
    finM m0.h.length (tupA [(.i .i64 x18), (.i .i64 0)]) m_4)

theorem g33_ok {ro : List ABlk} {O : Caller} {M : Means} (hM : M.Ok ⟨F, O⟩ ro) {v0 h r} (ho : O 33 [v0] h = none) (hr : g33 M ro v0 ⟨h, h.length, h.length⟩ = some r) : callX ⟨F, O⟩ ro 33 [v0] h = some r := by
  refine callX_of (F := ⟨F, O⟩) (fn := fn33) (g := g33 M ro v0) ho rfl rfl hr ?_
  clear ho
  clear hr
  intro m0 t0 ht hr
  have g0 : t0.get 0 = v0 := ht 0
  clear ht
  unfold g33 at hr
  refine w_seq ?_
  refine w_ops ?_
  refine wo_step (v := (.i .i64 0)) (s_pure (p_mv rfl)) ?_
  refine wo_step (v := (.i .i64 0)) (s_pure (p_mv rfl)) ?_
  refine wo_nil ?_
  refine nx_norm ?_
  refine w_seq ?_
  refine w_ops ?_
  refine wo_step (v := v0) (s_pure (p_mv g0)) ?_
  have hq := bindP_inv hr
  clear hr
  obtain ⟨v9, m_1, e9, hr⟩ := hq
  refine wo_step (v := v9) (s_call (mc rfl mn) (callM_le hM.call e9)) ?_
  refine wo_step (v := v9) (s_pure (p_mv rfl)) ?_
  have hq := bindO_inv hr
  clear hr
  obtain ⟨v10, e10, hr⟩ := hq
  refine wo_step (v := v10) (s_pure (o_ext rfl e10)) ?_
  have hq := bindO_inv hr
  clear hr
  obtain ⟨v11, e11, hr⟩ := hq
  have hq := asI_inv hr
  clear hr
  obtain ⟨x11, rfl, hr⟩ := hq
  refine wo_step (v := (.i .i64 x11)) (s_pure (o_ext rfl e11)) ?_
  refine wo_step (v := v10) (s_pure (p_mv rfl)) ?_
  refine wo_step (v := (.i .i64 x11)) (s_pure (p_mv rfl)) ?_
  refine wo_nil ?_
  refine nx_norm ?_
  refine w_seq ?_
  refine w_seq ?_
  refine w_ops ?_
  refine wo_step (v := (.i .i64 x11)) (s_pure (p_mv rfl)) ?_
  have hq := forceB_inv hr
  clear hr
  obtain ⟨c13, e13, hr⟩ := hq
  refine wo_step (v := (.b c13)) (s_pure (p_bin rfl rfl (b_neq.trans (cb e13)))) ?_
  refine wo_nil ?_
  refine nx_norm ?_
  have hq := cond_inv hr
  clear hr
  rcases hq with ⟨rfl, hr⟩ | ⟨rfl, hr⟩
  · refine w_condT rfl ?_
    refine w_seq ?_
    refine w_ops ?_
    refine wo_step (v := (.i .i64 x11)) (s_pure (p_mv rfl)) ?_
    refine wo_step (v := (.i .i64 0)) (s_pure (p_mv rfl)) ?_
    refine wo_step (v := (.i .i64 x11)) (s_pure (p_mv rfl)) ?_
    refine wo_nil ?_
    refine nx_norm ?_
    refine w_ret ?_
    refine nx_ret ?_
    exact qf ret_ok (rt rfl (rt rfl rn)) hr
  · refine w_condF rfl ?_
    refine w_skip ?_
    refine nx_norm ?_
    refine w_seq ?_
    refine w_ops ?_
    have hq := bindP_inv hr
    clear hr
    obtain ⟨v6, m_2, e6, hr⟩ := hq
    refine wo_step (v := v6) (s_al e6) ?_
    have hq := bindP_inv hr
    clear hr
    obtain ⟨vn, m_3, en, hr⟩ := hq
    refine wo_stepN (s_st rfl rfl en) ?_
    refine wo_nil ?_
    refine nx_norm ?_
    refine w_seq ?_
    refine w_ops ?_
    refine wo_step (v := v10) (s_pure (p_mv rfl)) ?_
    have hq := bindO_inv hr
    clear hr
    obtain ⟨v16, e16, hr⟩ := hq
    refine wo_step (v := v16) (s_pure ((o_mkfn mn (mc rfl mn)).trans e16)) ?_
    have hq := bindP_inv hr
    clear hr
    obtain ⟨v17, m_4, e17, hr⟩ := hq
    refine wo_step (v := v17) (s_call (mc rfl (mc rfl mn)) (callM_le hM.call e17)) ?_
    refine wo_nil ?_
    refine nx_norm ?_
    refine w_seq ?_
    refine w_ops ?_
    have hq := bindO_inv hr
    clear hr
    obtain ⟨v18, e18, hr⟩ := hq
    have hq := asI_inv hr
    clear hr
    obtain ⟨x18, rfl, hr⟩ := hq
    refine wo_step (v := (.i .i64 x18)) (s_ld rfl e18) ?_
    refine wo_step (v := (.i .i64 x18)) (s_pure (p_mv rfl)) ?_
    refine wo_step (v := (.i .i64 0)) (s_pure (p_mv rfl)) ?_
    refine wo_nil ?_
    refine nx_norm ?_
    refine w_ret ?_
    exact qf ret_ok (rt rfl (rt rfl rn)) hr

/- dibber/bed.Mate -/

def g37 (M : Means) (ro : List ABlk) (v0 : AVal) (m0 : Mm) : Option (AVal × Heap × Nat × Nat) :=
  bindP (callM M.call m0 71 [v0]) fun v10 m_1 =>
  bindO (evP .e (.ext 0 (.c v10))) fun v11 =>
  bindO (evP .e (.ext 1 (.c v10))) fun v12 =>
  asI .i64 v12 fun x12 =>
  forceB (!eqI x12 0) fun c14 =>
  cond c14 (
    finM m0.h.length (tupA [AVal.nsl, (.i .i64 x12)]) m_1) (
    bindO (evP .e (.nilck (.c v11))) fun v17 =>
    bindO (evP .e (.faddr 0 (.c v17))) fun v18 =>
    bindO (ldM ro m_1 true 1 v18) fun v19 =>
    asI .i64 v19 fun x19 =>
    forceB (ltI 5 x19) fun c20 =>
    cond c20 (
      finM m0.h.length (tupA [AVal.nsl, (.i .i64 2)]) m_1) (
      bindO (evP .e (.nilck (.c v11))) fun v22 =>
      bindO (evP .e (.faddr 0 (.c v22))) fun v23 =>
      bindO (ldM ro m_1 true 1 v23) fun v24 =>
      asI .i64 v24 fun x24 =>
      bindP (callM M.call m_1 52 [(.i .i64 x24)]) fun v25 m_2 =>
      bindP (stepM ro m_2 (.al 71 [(AVal.i IntKind.u8 0), (AVal.i IntKind.u8 0), (AVal.i IntKind.u8 0), (AVal.i IntKind.u8 0), (AVal.i IntKind.u8 0), (AVal.i IntKind.u8 0), (AVal.i IntKind.u8 0)])) fun v7 m_3 =>
      bindP (callM M.call m_3 78 [v25, v11, (.i .i64 0), v7]) fun v28 m_4 =>
      asB v28 fun c28 =>
      forceB (!c28) fun c29 =>
      cond c29 (
        finM m0.h.length (tupA [AVal.nsl, (.i .i64 10)]) m_4) (
        bindP (callM M.call m_4 62 [v25]) fun v31 m_5 =>
        finM m0.h.length (tupA [v31, (.i .i64 0)]) m_5)))

theorem g37_ok {ro : List ABlk} {O : Caller} {M : Means} (hM : M.Ok ⟨F, O⟩ ro) {v0 h r} (ho : O 37 [v0] h = none) (hr : g37 M ro v0 ⟨h, h.length, h.length⟩ = some r) : callX ⟨F, O⟩ ro 37 [v0] h = some r := by
  refine callX_of (F := ⟨F, O⟩) (fn := fn37) (g := g37 M ro v0) ho rfl rfl hr ?_
  clear ho
  clear hr
  intro m0 t0 ht hr
  have g0 : t0.get 0 = v0 := ht 0
  clear ht
  unfold g37 at hr
  refine w_seq ?_
  refine w_ops ?_
  refine wo_step (v := AVal.nsl) (s_pure (p_mv rfl)) ?_
  refine wo_step (v := (.i .i64 0)) (s_pure (p_mv rfl)) ?_
  refine wo_nil ?_
  refine nx_norm ?_
  refine w_seq ?_
  refine w_ops ?_
  refine wo_step (v := v0) (s_pure (p_mv g0)) ?_
  have hq := bindP_inv hr
  clear hr
  obtain ⟨v10, m_1, e10, hr⟩ := hq
  refine wo_step (v := v10) (s_call (mc rfl mn) (callM_le hM.call e10)) ?_
  refine wo_step (v := v10) (s_pure (p_mv rfl)) ?_
  have hq := bindO_inv hr
  clear hr
  obtain ⟨v11, e11, hr⟩ := hq
  refine wo_step (v := v11) (s_pure (o_ext rfl e11)) ?_
  have hq := bindO_inv hr
  clear hr
  obtain ⟨v12, e12, hr⟩ := hq
  have hq := asI_inv hr
  clear hr
  obtain ⟨x12, rfl, hr⟩ := hq
  refine wo_step (v := (.i .i64 x12)) (s_pure (o_ext rfl e12)) ?_
  refine wo_step (v := v11) (s_pure (p_mv rfl)) ?_
  refine wo_step (v := (.i .i64 x12)) (s_pure (p_mv rfl)) ?_
  refine wo_nil ?_
  refine nx_norm ?_
  refine w_seq ?_
  refine w_seq ?_
  refine w_ops ?_
  refine wo_step (v := (.i .i64 x12)) (s_pure (p_mv rfl)) ?_
  have hq := forceB_inv hr
  clear hr
  obtain ⟨c14, e14, hr⟩ := hq
  refine wo_step (v := (.b c14)) (s_pure (p_bin rfl rfl (b_neq.trans (cb e14)))) ?_
  refine wo_nil ?_
  refine nx_norm ?_
  have hq := cond_inv hr
  clear hr
  rcases hq with ⟨rfl, hr⟩ | ⟨rfl, hr⟩
  · refine w_condT rfl ?_
    refine w_seq ?_
    refine w_ops ?_
    refine wo_step (v := (.i .i64 x12)) (s_pure (p_mv rfl)) ?_
    refine wo_step (v := AVal.nsl) (s_pure (p_mv rfl)) ?_
    refine wo_step (v := (.i .i64 x12)) (s_pure (p_mv rfl)) ?_
    refine wo_nil ?_
    refine nx_norm ?_
    refine w_ret ?_
    refine nx_ret ?_
    exact qf ret_ok (rt rfl (rt rfl rn)) hr
  · refine w_condF rfl ?_
    refine w_skip ?_
    refine nx_norm ?_
    refine w_seq ?_
    refine w_seq ?_
    refine w_ops ?_
    refine wo_step (v := v11) (s_pure (p_mv rfl)) ?_
    have hq := bindO_inv hr
    clear hr
    obtain ⟨v17, e17, hr⟩ := hq
    refine wo_step (v := v17) (s_pure (o_nilck rfl e17)) ?_
    have hq := bindO_inv hr
    clear hr
    obtain ⟨v18, e18, hr⟩ := hq
    refine wo_step (v := v18) (s_pure (o_faddr rfl e18)) ?_
    have hq := bindO_inv hr
    clear hr
    obtain ⟨v19, e19, hr⟩ := hq
    have hq := asI_inv hr
    clear hr
    obtain ⟨x19, rfl, hr⟩ := hq
    refine wo_step (v := (.i .i64 x19)) (s_ld rfl e19) ?_
    have hq := forceB_inv hr
    clear hr
    obtain ⟨c20, e20, hr⟩ := hq
    refine wo_step (v := (.b c20)) (s_pure (p_bin rfl rfl (b_gtr.trans (cb e20)))) ?_
    refine wo_nil ?_
    refine nx_norm ?_
    have hq := cond_inv hr
    clear hr
    rcases hq with ⟨rfl, hr⟩ | ⟨rfl, hr⟩
    · refine w_condT rfl ?_
      refine w_seq ?_
      refine w_ops ?_
      refine wo_step (v := AVal.nsl) (s_pure (p_mv rfl)) ?_
      refine wo_step (v := (.i .i64 2)) (s_pure (p_mv rfl)) ?_
      refine wo_nil ?_
      refine nx_norm ?_
      refine w_ret ?_
      refine nx_ret ?_
      exact qf ret_ok (rt rfl (rt rfl rn)) hr
    · refine w_condF rfl ?_
      refine w_skip ?_
      refine nx_norm ?_
      refine w_seq ?_
      refine w_ops ?_
      refine wo_step (v := v11) (s_pure (p_mv rfl)) ?_
      have hq := bindO_inv hr
      clear hr
      obtain ⟨v22, e22, hr⟩ := hq
      refine wo_step (v := v22) (s_pure (o_nilck rfl e22)) ?_
      have hq := bindO_inv hr
      clear hr
      obtain ⟨v23, e23, hr⟩ := hq
      refine wo_step (v := v23) (s_pure (o_faddr rfl e23)) ?_
      have hq := bindO_inv hr
      clear hr
      obtain ⟨v24, e24, hr⟩ := hq
      have hq := asI_inv hr
      clear hr
      obtain ⟨x24, rfl, hr⟩ := hq
      refine wo_step (v := (.i .i64 x24)) (s_ld rfl e24) ?_
      have hq := bindP_inv hr
      clear hr
      obtain ⟨v25, m_2, e25, hr⟩ := hq
      refine wo_step (v := v25) (s_call (mc rfl mn) (callM_le hM.call e25)) ?_
      refine wo_step (v := v25) (s_pure (p_mv rfl)) ?_
      refine wo_nil ?_
      refine nx_norm ?_
      refine w_seq ?_
      refine w_ops ?_
      have hq := bindP_inv hr
      clear hr
      obtain ⟨v7, m_3, e7, hr⟩ := hq
      refine wo_step (v := v7) (s_al e7) ?_
      refine wo_nil ?_
      refine nx_norm ?_
      refine w_seq ?_
      refine w_seq ?_
      refine w_ops ?_
      refine wo_step (v := v25) (s_pure (p_mv rfl)) ?_
      refine wo_step (v := v11) (s_pure (p_mv rfl)) ?_
      have hq := bindP_inv hr
      clear hr
      obtain ⟨v28, m_4, e28, hr⟩ := hq
      have hq := asB_inv hr
      clear hr
      obtain ⟨c28, rfl, hr⟩ := hq
      refine wo_step (v := (.b c28)) (s_call (mc rfl (mc rfl (mc rfl (mc rfl mn)))) (callM_le hM.call e28)) ?_
      have hq := forceB_inv hr
      clear hr
      obtain ⟨c29, e29, hr⟩ := hq
      refine wo_step (v := (.b c29)) (s_pure ((p_not rfl).trans (cb e29))) ?_
      refine wo_nil ?_
      refine nx_norm ?_
      have hq := cond_inv hr
      clear hr
      rcases hq with ⟨rfl, hr⟩ | ⟨rfl, hr⟩
      · refine w_condT rfl ?_
        refine w_seq ?_
        refine w_ops ?_
        refine wo_step (v := AVal.nsl) (s_pure (p_mv rfl)) ?_
        refine wo_step (v := (.i .i64 10)) (s_pure (p_mv rfl)) ?_
        refine wo_nil ?_
        refine nx_norm ?_
        refine w_ret ?_
        refine nx_ret ?_
        exact qf ret_ok (rt rfl (rt rfl rn)) hr
      · refine w_condF rfl ?_
        refine w_skip ?_
        refine nx_norm ?_
        refine w_seq ?_
        refine w_ops ?_
        refine wo_step (v := v25) (s_pure (p_mv rfl)) ?_
        have hq := bindP_inv hr
        clear hr
        obtain ⟨v31, m_5, e31, hr⟩ := hq
        refine wo_step (v := v31) (s_call (mc rfl mn) (callM_le hM.call e31)) ?_
        refine wo_step (v := v31) (s_pure (p_mv rfl)) ?_
        refine wo_step (v := (.i .i64 0)) (s_pure (p_mv rfl)) ?_
        refine wo_nil ?_
        refine nx_norm ?_
        refine w_ret ?_
        exact qf ret_ok (rt rfl (rt rfl rn)) hr

/- dibber/bed.Cyclic -/
abbrev g39_J0 (x0 : Int) (x1 : Int) (m0 : Mm) (o : Bool) (m1 : Mm) (t1 : Tr) : Prop :=
  match o with
  | c14 => m0 = m1 ∧ t1.get 14 = (.b c14) ∧ t1.get 0 = (.i .i64 x0) ∧ t1.get 1 = (.i .i64 x1)
abbrev g39_J1 (x0 : Int) (x1 : Int) (m0 : Mm) (o : Bool) (m1 : Mm) (t1 : Tr) : Prop :=
  match o with
  | c18 => m0 = m1 ∧ t1.get 18 = (.b c18) ∧ t1.get 0 = (.i .i64 x0) ∧ t1.get 1 = (.i .i64 x1)
abbrev g39_J2 (x0 : Int) (x1 : Int) (m0 : Mm) (o : Bool) (m1 : Mm) (t1 : Tr) : Prop :=
  match o with
  | c23 => m0 = m1 ∧ t1.get 23 = (.b c23) ∧ t1.get 0 = (.i .i64 x0) ∧ t1.get 1 = (.i .i64 x1)
abbrev g39_J3 (x0 : Int) (x1 : Int) (o : Bool × Mm) (m1 : Mm) (t1 : Tr) : Prop :=
  match o with
  | (c29, m_1) => m_1 = m1 ∧ t1.get 29 = (.b c29) ∧ t1.get 0 = (.i .i64 x0) ∧ t1.get 1 = (.i .i64 x1)
abbrev g39_I4 (x0 : Int) (x1 : Int) (v31 : AVal) (x33 : Int) (s : Int × Mm) (m1 : Mm) (t1 : Tr) : Prop :=
  match s with
  | (x34, m_4) => m_4 = m1 ∧ t1.get 34 = (.i .i64 x34) ∧ t1.get 0 = (.i .i64 x0) ∧ t1.get 1 = (.i .i64 x1) ∧ t1.get 6 = v31 ∧ t1.get 33 = (.i .i64 x33)
abbrev g39_J4 (x0 : Int) (x1 : Int) (v31 : AVal) (x33 : Int) (o : Mm) (e : AExit) (m1 : Mm) (t1 : Tr) : Prop :=
  match o with
  | mo => e = (.exit 0) ∧ mo = m1 ∧ t1.get 6 = v31
abbrev g39_I5 (x0 : Int) (x1 : Int) (v31 : AVal) (x34 : Int) (x33 : Int) (x46 : Int) (s : Int × Mm) (m1 : Mm) (t1 : Tr) : Prop :=
  match s with
  | (x47, m_7) => m_7 = m1 ∧ t1.get 47 = (.i .i64 x47) ∧ t1.get 0 = (.i .i64 x0) ∧ t1.get 1 = (.i .i64 x1) ∧ t1.get 6 = v31 ∧ t1.get 7 = (.i .i64 x34) ∧ t1.get 33 = (.i .i64 x33) ∧ t1.get 34 = (.i .i64 x34) ∧ t1.get 46 = (.i .i64 x46)
abbrev g39_J5 (x0 : Int) (x1 : Int) (v31 : AVal) (x34 : Int) (x33 : Int) (x46 : Int) (o : Mm) (e : AExit) (m1 : Mm) (t1 : Tr) : Prop :=
  match o with
  | mo => e = (.exit 2) ∧ mo = m1 ∧ t1.get 0 = (.i .i64 x0) ∧ t1.get 1 = (.i .i64 x1) ∧ t1.get 6 = v31 ∧ t1.get 33 = (.i .i64 x33) ∧ t1.get 34 = (.i .i64 x34)
def g39_b5 (M : Means) (ro : List ABlk) (x0 : Int) (x1 : Int) (v31 : AVal) (x34 : Int) (x33 : Int) (x46 : Int) (x47 : Int) (m_7 : Mm) : Option ((Int × Mm) ⊕ (Mm)) :=
  forceB (ltI x47 x46) fun c48 =>
  cond c48 (
    bindO (evP .e (.ixS 1 (.c v31) (.c (.i .i64 x34)))) fun v52 =>
    forceI (wr .i64 (x34 * x1)) fun x57 =>
    forceI (wr .i64 (x57 + x47)) fun x59 =>
    chk (!eqI x0 (.ofNat 0)) <|
    forceI (Int.tmod x59 x0) fun x61 =>
    bindO (ldM ro m_7 true 1 v52) fun v53 =>
    bindO (evP .e (.ixS 1 (.c v53) (.c (.i .i64 x47)))) fun v62 =>
    bindP (stepM ro m_7 (.st 1 (.c v62) (.c (.i .i64 x61)))) fun vn_1 m_8 =>
    forceI (wr .i64 (x47 + 1)) fun x63 =>
    some (.inl (x63, m_8))) (
    some (.inr m_7))
def g39_b4 (M : Means) (ro : List ABlk) (x0 : Int) (x1 : Int) (v31 : AVal) (x33 : Int) (x34 : Int) (m_4 : Mm) : Option ((Int × Mm) ⊕ (Mm)) :=
  forceB (ltI x34 x33) fun c35 =>
  cond c35 (
    bindP (stepM ro m_4 (.mk 3 1 8 [(AVal.i IntKind.i64 0)] (.c (.i .i64 x0)) (.c (.i .i64 x0)))) fun v40 m_5 =>
    bindO (evP .e (.ixS 1 (.c v31) (.c (.i .i64 x34)))) fun v41 =>
    bindP (stepM ro m_5 (.st 1 (.c v41) (.c v40))) fun vn m_6 =>
    bindO (evP .e (.ixS 1 (.c v31) (.c (.i .i64 x34)))) fun v44 =>
    bindO (ldM ro m_6 true 1 v44) fun v45 =>
    bindO (evP .e (.len false (.c v45))) fun v46 =>
    asI .i64 v46 fun x46 =>
    bindO (M.loop (S := Int × Mm) (R := Mm) (fun s => g39_b5 M ro x0 x1 v31 x34 x33 x46 s.1 s.2) (0, m_6)) fun m_9 =>
    forceI (wr .i64 (x34 + 1)) fun x64 =>
    some (.inl (x64, m_9))) (
    some (.inr m_4))
def g39 (M : Means) (ro : List ABlk) (x0 : Int) (x1 : Int) (m0 : Mm) : Option (AVal × Heap × Nat × Nat) :=
  forceB (ltI x0 1) fun c10 =>
  bindO (cond c10 (
    some true) (
    forceB (ltI 7 x0) fun c13 =>
    some c13)) fun c14 =>
  bindO (cond c14 (
    some true) (
    forceB (ltI x1 1) fun c17 =>
    some c17)) fun c18 =>
  bindO (cond c18 (
    some true) (
    forceB (ltI x0 x1) fun c22 =>
    some c22)) fun c23 =>
  bindO (cond c23 (
    some (true, m0)) (
    bindP (callM M.call m0 80 [(.i .i64 x0), (.i .i64 x1)]) fun v27 m_2 =>
    asI .i64 v27 fun x27 =>
    forceB (ltI 1 x27) fun c28 =>
    some (c28, m_2))) fun ⟨c29, m_1⟩ =>
  cond c29 (
    finM m0.h.length (tupA [AVal.nsl, (.i .i64 2)]) m_1) (
    bindP (stepM ro m_1 (.mk 32 1 24 [AVal.nsl] (.c (.i .i64 x0)) (.c (.i .i64 x0)))) fun v31 m_3 =>
    bindO (evP .e (.len false (.c v31))) fun v33 =>
    asI .i64 v33 fun x33 =>
    bindO (M.loop (S := Int × Mm) (R := Mm) (fun s => g39_b4 M ro x0 x1 v31 x33 s.1 s.2) (0, m_3)) fun m_10 =>
    finM m0.h.length (tupA [v31, (.i .i64 0)]) m_10)

theorem g39_ok {ro : List ABlk} {O : Caller} {M : Means} (hM : M.Ok ⟨F, O⟩ ro) {x0 x1 h r} (ho : O 39 [(.i .i64 x0), (.i .i64 x1)] h = none) (hr : g39 M ro x0 x1 ⟨h, h.length, h.length⟩ = some r) : callX ⟨F, O⟩ ro 39 [(.i .i64 x0), (.i .i64 x1)] h = some r := by
  refine callX_of (F := ⟨F, O⟩) (fn := fn39) (g := g39 M ro x0 x1) ho rfl rfl hr ?_
  clear ho
  clear hr
  intro m0 t0 ht hr
  have g0 : t0.get 0 = (.i .i64 x0) := ht 0
  have g1 : t0.get 1 = (.i .i64 x1) := ht 1
  clear ht
  unfold g39 at hr
  refine w_seq ?_
  refine w_ops ?_
  refine wo_step (v := AVal.nsl) (s_pure (p_mv rfl)) ?_
  refine wo_step (v := (.i .i64 0)) (s_pure (p_mv rfl)) ?_
  refine wo_nil ?_
  refine nx_norm ?_
  refine w_seq ?_
  refine w_seq ?_
  refine w_ops ?_
  refine wo_step (v := (.i .i64 x0)) (s_pure (p_mv g0)) ?_
  have hq := forceB_inv hr
  clear hr
  obtain ⟨c10, e10, hr⟩ := hq
  refine wo_step (v := (.b c10)) (s_pure (p_bin rfl rfl (b_lss.trans (cb e10)))) ?_
  refine wo_step (v := (.b c10)) (s_pure (p_mv rfl)) ?_
  have hq := bindO_inv hr
  clear hr
  obtain ⟨o, hr, hk⟩ := hq
  refine wo_join 3 (g39_J0 x0 x1 m0 o) ?_ ?_
  · clear hk
    have hq := cond_inv hr
    clear hr
    rcases hq with ⟨rfl, hr⟩ | ⟨rfl, hr⟩
    · refine wo_skip (v := (.b true)) rfl rfl ?_
      refine wo_skip (v := (.b true)) rfl rfl ?_
      refine wo_step (v := (.b true)) (s_pure (p_pickT rfl rfl)) ?_
      refine wo_nil ?_
      cases hr
      exact ⟨_, _, rfl, rfl, gl rfl, gl g0, gl g1⟩
    · refine wo_take (v := (.i .i64 x0)) rfl (s_pure (p_mv g0)) ?_
      have hq := forceB_inv hr
      clear hr
      obtain ⟨c13, e13, hr⟩ := hq
      refine wo_take (v := (.b c13)) rfl (s_pure (p_bin rfl rfl (b_gtr.trans (cb e13)))) ?_
      refine wo_step (v := (.b c13)) (s_pure (p_pickF rfl rfl)) ?_
      refine wo_nil ?_
      cases hr
      exact ⟨_, _, rfl, rfl, gl rfl, gl g0, gl g1⟩
  · clear hr
    have hr := hk
    clear hk
    obtain ⟨c14, ho⟩ : ∃ z, z = o := ⟨_, rfl⟩
    subst ho
    rintro mm t_1 ⟨rfl, g14, g0, g1⟩
    refine wo_step (v := (.b c14)) (s_pure (p_mv g14)) ?_
    have hq := bindO_inv hr
    clear hr
    obtain ⟨o_1, hr, hk⟩ := hq
    refine wo_join 3 (g39_J1 x0 x1 m0 o_1) ?_ ?_
    · clear hk
      have hq := cond_inv hr
      clear hr
      rcases hq with ⟨rfl, hr⟩ | ⟨rfl, hr⟩
      · refine wo_skip (v := (.b true)) rfl rfl ?_
        refine wo_skip (v := (.b true)) rfl rfl ?_
        refine wo_step (v := (.b true)) (s_pure (p_pickT rfl rfl)) ?_
        refine wo_nil ?_
        cases hr
        exact ⟨_, _, rfl, rfl, gl rfl, gl g0, gl g1⟩
      · refine wo_take (v := (.i .i64 x1)) rfl (s_pure (p_mv g1)) ?_
        have hq := forceB_inv hr
        clear hr
        obtain ⟨c17, e17, hr⟩ := hq
        refine wo_take (v := (.b c17)) rfl (s_pure (p_bin rfl rfl (b_lss.trans (cb e17)))) ?_
        refine wo_step (v := (.b c17)) (s_pure (p_pickF rfl rfl)) ?_
        refine wo_nil ?_
        cases hr
        exact ⟨_, _, rfl, rfl, gl rfl, gl g0, gl g1⟩
    · clear hr
      have hr := hk
      clear hk
      obtain ⟨c18, ho⟩ : ∃ z, z = o_1 := ⟨_, rfl⟩
      subst ho
      rintro mm_1 t_2 ⟨rfl, g18, g0, g1⟩
      refine wo_step (v := (.b c18)) (s_pure (p_mv g18)) ?_
      have hq := bindO_inv hr
      clear hr
      obtain ⟨o_2, hr, hk⟩ := hq
      refine wo_join 4 (g39_J2 x0 x1 m0 o_2) ?_ ?_
      · clear hk
        have hq := cond_inv hr
        clear hr
        rcases hq with ⟨rfl, hr⟩ | ⟨rfl, hr⟩
        · refine wo_skip (v := (.b true)) rfl rfl ?_
          refine wo_skip (v := (.b true)) rfl rfl ?_
          refine wo_skip (v := (.b true)) rfl rfl ?_
          refine wo_step (v := (.b true)) (s_pure (p_pickT rfl rfl)) ?_
          refine wo_nil ?_
          cases hr
          exact ⟨_, _, rfl, rfl, gl rfl, gl g0, gl g1⟩
        · refine wo_take (v := (.i .i64 x1)) rfl (s_pure (p_mv g1)) ?_
          refine wo_take (v := (.i .i64 x0)) rfl (s_pure (p_mv g0)) ?_
          have hq := forceB_inv hr
          clear hr
          obtain ⟨c22, e22, hr⟩ := hq
          refine wo_take (v := (.b c22)) rfl (s_pure (p_bin rfl rfl (b_gtr.trans (cb e22)))) ?_
          refine wo_step (v := (.b c22)) (s_pure (p_pickF rfl rfl)) ?_
          refine wo_nil ?_
          cases hr
          exact ⟨_, _, rfl, rfl, gl rfl, gl g0, gl g1⟩
      · clear hr
        have hr := hk
        clear hk
        obtain ⟨c23, ho⟩ : ∃ z, z = o_2 := ⟨_, rfl⟩
        subst ho
        rintro mm_2 t_3 ⟨rfl, g23, g0, g1⟩
        refine wo_step (v := (.b c23)) (s_pure (p_mv g23)) ?_
        have hq := bindO_inv hr
        clear hr
        obtain ⟨o_3, hr, hk⟩ := hq
        refine wo_join 5 (g39_J3 x0 x1 o_3) ?_ ?_
        · clear hk
          have hq := cond_inv hr
          clear hr
          rcases hq with ⟨rfl, hr⟩ | ⟨rfl, hr⟩
          · refine wo_skip (v := (.b true)) rfl rfl ?_
            refine wo_skip (v := (.b true)) rfl rfl ?_
            refine wo_skip (v := (.b true)) rfl rfl ?_
            refine wo_skip (v := (.b true)) rfl rfl ?_
            refine wo_step (v := (.b true)) (s_pure (p_pickT rfl rfl)) ?_
            refine wo_nil ?_
            cases hr
            exact ⟨_, _, rfl, rfl, gl rfl, gl g0, gl g1⟩
          · refine wo_take (v := (.i .i64 x0)) rfl (s_pure (p_mv g0)) ?_
            refine wo_take (v := (.i .i64 x1)) rfl (s_pure (p_mv g1)) ?_
            have hq := bindP_inv hr
            clear hr
            obtain ⟨v27, m_2, e27, hr⟩ := hq
            have hq := asI_inv hr
            clear hr
            obtain ⟨x27, rfl, hr⟩ := hq
            refine wo_take (v := (.i .i64 x27)) rfl (s_call (mc rfl (mc rfl mn)) (callM_le hM.call e27)) ?_
            have hq := forceB_inv hr
            clear hr
            obtain ⟨c28, e28, hr⟩ := hq
            refine wo_take (v := (.b c28)) rfl (s_pure (p_bin rfl rfl (b_gtr.trans (cb e28)))) ?_
            refine wo_step (v := (.b c28)) (s_pure (p_pickF rfl rfl)) ?_
            refine wo_nil ?_
            cases hr
            exact ⟨_, _, rfl, rfl, gl rfl, gl g0, gl g1⟩
        · clear hr
          have hr := hk
          clear hk
          obtain ⟨c29, m_1⟩ := o_3
          rintro mm_3 t_4 ⟨rfl, g29, g0, g1⟩
          refine wo_nil ?_
          refine nx_norm ?_
          have hq := cond_inv hr
          clear hr
          rcases hq with ⟨rfl, hr⟩ | ⟨rfl, hr⟩
          · refine w_condT g29 ?_
            refine w_seq ?_
            refine w_ops ?_
            refine wo_step (v := AVal.nsl) (s_pure (p_mv rfl)) ?_
            refine wo_step (v := (.i .i64 2)) (s_pure (p_mv rfl)) ?_
            refine wo_nil ?_
            refine nx_norm ?_
            refine w_ret ?_
            refine nx_ret ?_
            exact qf ret_ok (rt rfl (rt rfl rn)) hr
          · refine w_condF g29 ?_
            refine w_skip ?_
            refine nx_norm ?_
            refine w_seq ?_
            refine w_ops ?_
            refine wo_step (v := (.i .i64 x0)) (s_pure (p_mv g0)) ?_
            have hq := bindP_inv hr
            clear hr
            obtain ⟨v31, m_3, e31, hr⟩ := hq
            refine wo_step (v := v31) (s_mk rfl rfl e31) ?_
            refine wo_step (v := v31) (s_pure (p_mv rfl)) ?_
            refine wo_nil ?_
            refine nx_norm ?_
            refine w_seq ?_
            refine w_seq ?_
            refine w_ops ?_
            refine wo_step (v := v31) (s_pure (p_mv rfl)) ?_
            have hq := bindO_inv hr
            clear hr
            obtain ⟨v33, e33, hr⟩ := hq
            have hq := asI_inv hr
            clear hr
            obtain ⟨x33, rfl, hr⟩ := hq
            refine wo_step (v := (.i .i64 x33)) (s_pure (o_len rfl e33)) ?_
            refine wo_step (v := (.i .i64 0)) (s_pure (p_mv rfl)) ?_
            refine wo_nil ?_
            refine nx_norm ?_
            refine w_block ?_
            have hq := bindO_inv hr
            clear hr
            obtain ⟨o_5, hl_1, hr⟩ := hq
            obtain ⟨n_1, hl_1⟩ := hM.loop _ _ _ hl_1
            refine jp_mono (w_loop _ (g39_I4 x0 x1 v31 x33) (g39_J4 x0 x1 v31 x33) ?_ n_1 _ _ _ _ hl_1 ⟨rfl, gl rfl, gl g0, gl g1, gl rfl, gl rfl⟩) ?_
            · clear hr hl_1
              intro s mm_7 t_5 o hi hr
              obtain ⟨x34, m_4⟩ := s
              obtain ⟨rfl, g34, g0, g1, g6, g33⟩ := hi
              unfold g39_b4 at hr
              refine w_seq ?_
              refine w_ops ?_
              have hq := forceB_inv hr
              clear hr
              obtain ⟨c35, e35, hr⟩ := hq
              refine wo_step (v := (.b c35)) (s_pure (p_bin g34 g33 (b_lss.trans (cb e35)))) ?_
              refine wo_nil ?_
              refine nx_norm ?_
              refine w_seq ?_
              have hq := cond_inv hr
              clear hr
              rcases hq with ⟨rfl, hr⟩ | ⟨rfl, hr⟩
              · refine w_condT rfl ?_
                refine w_skip ?_
                refine nx_norm ?_
                refine w_seq ?_
                refine w_block ?_
                refine w_seq ?_
                refine w_ops ?_
                refine wo_step (v := (.i .i64 x34)) (s_pure (p_mv g34)) ?_
                refine wo_step (v := (.i .i64 x34)) (s_pure (p_mv rfl)) ?_
                refine wo_nil ?_
                refine nx_norm ?_
                refine w_seq ?_
                refine w_ops ?_
                refine wo_step (v := v31) (s_pure (p_mv g6)) ?_
                refine wo_step (v := (.i .i64 x34)) (s_pure (p_mv rfl)) ?_
                refine wo_step (v := (.i .i64 x0)) (s_pure (p_mv g0)) ?_
                have hq := bindP_inv hr
                clear hr
                obtain ⟨v40, m_5, e40, hr⟩ := hq
                refine wo_step (v := v40) (s_mk rfl rfl e40) ?_
                have hq := bindO_inv hr
                clear hr
                obtain ⟨v41, e41, hr⟩ := hq
                refine wo_step (v := v41) (s_pure (o_ixS rfl rfl e41)) ?_
                have hq := bindP_inv hr
                clear hr
                obtain ⟨vn, m_6, en, hr⟩ := hq
                refine wo_stepN (s_st rfl rfl en) ?_
                refine wo_nil ?_
                refine nx_norm ?_
                refine w_seq ?_
                refine w_ops ?_
                refine wo_step (v := v31) (s_pure (p_mv g6)) ?_
                refine wo_step (v := (.i .i64 x34)) (s_pure (p_mv rfl)) ?_
                have hq := bindO_inv hr
                clear hr
                obtain ⟨v44, e44, hr⟩ := hq
                refine wo_step (v := v44) (s_pure (o_ixS rfl rfl e44)) ?_
                have hq := bindO_inv hr
                clear hr
                obtain ⟨v45, e45, hr⟩ := hq
                refine wo_step (v := v45) (s_ld rfl e45) ?_
                have hq := bindO_inv hr
                clear hr
                obtain ⟨v46, e46, hr⟩ := hq
                have hq := asI_inv hr
                clear hr
                obtain ⟨x46, rfl, hr⟩ := hq
                refine wo_step (v := (.i .i64 x46)) (s_pure (o_len rfl e46)) ?_
                refine wo_step (v := (.i .i64 0)) (s_pure (p_mv rfl)) ?_
                refine wo_nil ?_
                refine nx_norm ?_
                refine w_block ?_
                have hq := bindO_inv hr
                clear hr
                obtain ⟨o_4, hl, hr⟩ := hq
                obtain ⟨n, hl⟩ := hM.loop _ _ _ hl
                refine jp_mono (w_loop _ (g39_I5 x0 x1 v31 x34 x33 x46) (g39_J5 x0 x1 v31 x34 x33 x46) ?_ n _ _ _ _ hl ⟨rfl, gl rfl, gl g0, gl g1, gl g6, gl rfl, gl g33, gl g34, gl rfl⟩) ?_
                · clear hr hl
                  intro s mm_5 t_6 o hi hr
                  obtain ⟨x47, m_7⟩ := s
                  obtain ⟨rfl, g47, g0, g1, g6, g7, g33, g34, g46⟩ := hi
                  unfold g39_b5 at hr
                  refine w_seq ?_
                  refine w_ops ?_
                  have hq := forceB_inv hr
                  clear hr
                  obtain ⟨c48, e48, hr⟩ := hq
                  refine wo_step (v := (.b c48)) (s_pure (p_bin g47 g46 (b_lss.trans (cb e48)))) ?_
                  refine wo_nil ?_
                  refine nx_norm ?_
                  refine w_seq ?_
                  have hq := cond_inv hr
                  clear hr
                  rcases hq with ⟨rfl, hr⟩ | ⟨rfl, hr⟩
                  · refine w_condT rfl ?_
                    refine w_skip ?_
                    refine nx_norm ?_
                    refine w_seq ?_
                    refine w_block ?_
                    refine w_seq ?_
                    refine w_ops ?_
                    refine wo_step (v := (.i .i64 x47)) (s_pure (p_mv g47)) ?_
                    refine wo_step (v := (.i .i64 x47)) (s_pure (p_mv rfl)) ?_
                    refine wo_nil ?_
                    refine nx_norm ?_
                    refine w_ops ?_
                    refine wo_step (v := v31) (s_pure (p_mv g6)) ?_
                    refine wo_step (v := (.i .i64 x34)) (s_pure (p_mv g7)) ?_
                    have hq := bindO_inv hr
                    clear hr
                    obtain ⟨v52, e52, hr⟩ := hq
                    refine wo_step (v := v52) (s_pure (o_ixS rfl rfl e52)) ?_
                    refine wo_step (v := (.i .i64 x47)) (s_pure (p_mv rfl)) ?_
                    refine wo_step (v := (.i .i64 x34)) (s_pure (p_mv g7)) ?_
                    refine wo_step (v := (.i .i64 x1)) (s_pure (p_mv g1)) ?_
                    have hq := forceI_inv hr
                    clear hr
                    obtain ⟨x57, e57, hr⟩ := hq
                    refine wo_step (v := (.i .i64 x57)) (s_pure (p_bin rfl rfl (b_mul.trans (ci e57)))) ?_
                    refine wo_step (v := (.i .i64 x47)) (s_pure (p_mv rfl)) ?_
                    have hq := forceI_inv hr
                    clear hr
                    obtain ⟨x59, e59, hr⟩ := hq
                    refine wo_step (v := (.i .i64 x59)) (s_pure (p_bin rfl rfl (b_add.trans (ci e59)))) ?_
                    refine wo_step (v := (.i .i64 x0)) (s_pure (p_mv g0)) ?_
                    have hq := chk_inv hr
                    clear hr
                    obtain ⟨hc61, hr⟩ := hq
                    have hq := forceI_inv hr
                    clear hr
                    obtain ⟨x61, e61, hr⟩ := hq
                    refine wo_step (v := (.i .i64 x61)) (s_pure (p_bin rfl rfl ((b_rem hc61).trans (ci e61)))) ?_
                    have hq := bindO_inv hr
                    clear hr
                    obtain ⟨v53, e53, hr⟩ := hq
                    refine wo_step (v := v53) (s_ld rfl e53) ?_
                    have hq := bindO_inv hr
                    clear hr
                    obtain ⟨v62, e62, hr⟩ := hq
                    refine wo_step (v := v62) (s_pure (o_ixS rfl rfl e62)) ?_
                    have hq := bindP_inv hr
                    clear hr
                    obtain ⟨vn_1, m_8, en_1, hr⟩ := hq
                    refine wo_stepN (s_st rfl rfl en_1) ?_
                    refine wo_nil ?_
                    refine bk_norm ?_
                    refine nx_norm ?_
                    refine w_ops ?_
                    have hq := forceI_inv hr
                    clear hr
                    obtain ⟨x63, e63, hr⟩ := hq
                    refine wo_step (v := (.i .i64 x63)) (s_pure (p_bin g47 rfl (b_add.trans (ci e63)))) ?_
                    refine wo_step (v := (.i .i64 x63)) (s_pure (p_mv rfl)) ?_
                    refine wo_nil ?_
                    cases hr
                    exact ⟨_, _, rfl, rfl, rfl, gl rfl, gl g0, gl g1, gl g6, gl g7, gl g33, gl g34, gl g46⟩
                  · refine w_condF rfl ?_
                    refine w_exit ?_
                    refine nx_exit ?_
                    cases hr
                    exact ⟨_, _, rfl, ne_norm_exit, rfl, rfl, gl g0, gl g1, gl g6, gl g33, gl g34⟩
                · obtain ⟨m_9, ho⟩ : ∃ z, z = o_4 := ⟨_, rfl⟩
                  subst ho
                  rintro _ mm_4 t_7 ⟨rfl, rfl, g0, g1, g6, g33, g34⟩
                  refine bk_hit ?_
                  refine bk_norm ?_
                  refine nx_norm ?_
                  refine w_ops ?_
                  have hq := forceI_inv hr
                  clear hr
                  obtain ⟨x64, e64, hr⟩ := hq
                  refine wo_step (v := (.i .i64 x64)) (s_pure (p_bin g34 rfl (b_add.trans (ci e64)))) ?_
                  refine wo_step (v := (.i .i64 x64)) (s_pure (p_mv rfl)) ?_
                  refine wo_nil ?_
                  cases hr
                  exact ⟨_, _, rfl, rfl, rfl, gl rfl, gl g0, gl g1, gl g6, gl g33⟩
              · refine w_condF rfl ?_
                refine w_exit ?_
                refine nx_exit ?_
                cases hr
                exact ⟨_, _, rfl, ne_norm_exit, rfl, rfl, gl g6⟩
            · obtain ⟨m_10, ho⟩ : ∃ z, z = o_5 := ⟨_, rfl⟩
              subst ho
              rintro _ mm_6 t_8 ⟨rfl, rfl, g6⟩
              refine bk_hit ?_
              refine nx_norm ?_
              refine w_seq ?_
              refine w_ops ?_
              refine wo_step (v := v31) (s_pure (p_mv g6)) ?_
              refine wo_step (v := v31) (s_pure (p_mv rfl)) ?_
              refine wo_step (v := (.i .i64 0)) (s_pure (p_mv rfl)) ?_
              refine wo_nil ?_
              refine nx_norm ?_
              refine w_ret ?_
              exact qf ret_ok (rt rfl (rt rfl rn)) hr

/- dibber/dibberref01.Bed -/

def g47 (M : Means) (ro : List ABlk) (v0 : AVal) (m0 : Mm) : Option (AVal × Heap × Nat × Nat) :=
  bindP (callM M.call m0 55 [v0]) fun v7 m_1 =>
  asB v7 fun c7 =>
  forceB (!c7) fun c8 =>
  cond c8 (
    finM m0.h.length (tupA [(.b false)]) m_1) (
    bindP (callM M.call m_1 56 [v0]) fun v11 m_2 =>
    bindO (evP .e (.ext 0 (.c v11))) fun v12 =>
    asI .i64 v12 fun x12 =>
    bindO (evP .e (.ext 1 (.c v11))) fun v13 =>
    asI .i64 v13 fun x13 =>
    bindO (evP .e (.ext 2 (.c v11))) fun v14 =>
    asB v14 fun c14 =>
    forceB (!c14) fun c16 =>
    finM m0.h.length (tupA [(.b c16)]) m_2)

theorem g47_ok {ro : List ABlk} {O : Caller} {M : Means} (hM : M.Ok ⟨F, O⟩ ro) {v0 h r} (ho : O 47 [v0] h = none) (hr : g47 M ro v0 ⟨h, h.length, h.length⟩ = some r) : callX ⟨F, O⟩ ro 47 [v0] h = some r := by
  refine callX_of (F := ⟨F, O⟩) (fn := fn47) (g := g47 M ro v0) ho rfl rfl hr ?_
  clear ho
  clear hr
  intro m0 t0 ht hr
  have g0 : t0.get 0 = v0 := ht 0
  clear ht
  unfold g47 at hr
  refine w_seq ?_
  refine w_ops ?_
  refine wo_step (v := (.b false)) (s_pure (p_mv rfl)) ?_
  refine wo_nil ?_
  refine nx_norm ?_
  refine w_seq ?_
  refine w_seq ?_
  refine w_ops ?_
  refine wo_step (v := v0) (s_pure (p_mv g0)) ?_
  have hq := bindP_inv hr
  clear hr
  obtain ⟨v7, m_1, e7, hr⟩ := hq
  have hq := asB_inv hr
  clear hr
  obtain ⟨c7, rfl, hr⟩ := hq
  refine wo_step (v := (.b c7)) (s_call (mc rfl mn) (callM_le hM.call e7)) ?_
  have hq := forceB_inv hr
  clear hr
  obtain ⟨c8, e8, hr⟩ := hq
  refine wo_step (v := (.b c8)) (s_pure ((p_not rfl).trans (cb e8))) ?_
  refine wo_nil ?_
  refine nx_norm ?_
  have hq := cond_inv hr
  clear hr
  rcases hq with ⟨rfl, hr⟩ | ⟨rfl, hr⟩
  · refine w_condT rfl ?_
    refine w_seq ?_
    refine w_ops ?_
    refine wo_step (v := (.b false)) (s_pure (p_mv rfl)) ?_
    refine wo_nil ?_
    refine nx_norm ?_
    refine w_ret ?_
    refine nx_ret ?_
    exact qf ret_ok (rt rfl rn) hr
  · refine w_condF rfl ?_
    refine w_skip ?_
    refine nx_norm ?_
    refine w_seq ?_
    refine w_ops ?_
    refine wo_step (v := v0) (s_pure (p_mv g0)) ?_
    have hq := bindP_inv hr
    clear hr
    obtain ⟨v11, m_2, e11, hr⟩ := hq
    refine wo_step (v := v11) (s_call (mc rfl mn) (callM_le hM.call e11)) ?_
    refine wo_step (v := v11) (s_pure (p_mv rfl)) ?_
    have hq := bindO_inv hr
    clear hr
    obtain ⟨v12, e12, hr⟩ := hq
    have hq := asI_inv hr
    clear hr
    obtain ⟨x12, rfl, hr⟩ := hq
    refine wo_step (v := (.i .i64 x12)) (s_pure (o_ext rfl e12)) ?_
    have hq := bindO_inv hr
    clear hr
    obtain ⟨v13, e13, hr⟩ := hq
    have hq := asI_inv hr
    clear hr
    obtain ⟨x13, rfl, hr⟩ := hq
    refine wo_step (v := (.i .i64 x13)) (s_pure (o_ext rfl e13)) ?_
    have hq := bindO_inv hr
    clear hr
    obtain ⟨v14, e14, hr⟩ := hq
    have hq := asB_inv hr
    clear hr
    obtain ⟨c14, rfl, hr⟩ := hq
    refine wo_step (v := (.b c14)) (s_pure (o_ext rfl e14)) ?_
    refine wo_step (v := (.i .i64 x12)) (s_pure (p_mv rfl)) ?_
    refine wo_step (v := (.i .i64 x13)) (s_pure (p_mv rfl)) ?_
    refine wo_step (v := (.b c14)) (s_pure (p_mv rfl)) ?_
    refine wo_nil ?_
    refine nx_norm ?_
    refine w_seq ?_
    refine w_ops ?_
    refine wo_step (v := (.b c14)) (s_pure (p_mv rfl)) ?_
    have hq := forceB_inv hr
    clear hr
    obtain ⟨c16, e16, hr⟩ := hq
    refine wo_step (v := (.b c16)) (s_pure ((p_not rfl).trans (cb e16))) ?_
    refine wo_step (v := (.b c16)) (s_pure (p_mv rfl)) ?_
    refine wo_nil ?_
    refine nx_norm ?_
    refine w_ret ?_
    exact qf ret_ok (rt rfl rn) hr

/- dibber/dibberref01.Full -/
abbrev g48_I0 (v0 : AVal) (m_1 : Mm) (s : Int) (m1 : Mm) (t1 : Tr) : Prop :=
  match s with
  | x3 => m_1 = m1 ∧ t1.get 3 = (.i .i64 x3) ∧ t1.get 0 = v0
abbrev g48_J0 (v0 : AVal) (m_1 : Mm) (o : (Unit ⊕ Bool)) (e : AExit) (m1 : Mm) (t1 : Tr) : Prop :=
  match o with
  | (.inl _) => e = (.exit 0) ∧ m_1 = m1
  | (.inr y2) => e = .ret ∧ m_1 = m1 ∧ t1.get 2 = (.b y2)
abbrev g48_I1 (v0 : AVal) (x3 : Int) (m_1 : Mm) (s : Int) (m1 : Mm) (t1 : Tr) : Prop :=
  match s with
  | x4 => m_1 = m1 ∧ t1.get 4 = (.i .i64 x4) ∧ t1.get 0 = v0 ∧ t1.get 3 = (.i .i64 x3)
abbrev g48_J1 (v0 : AVal) (x3 : Int) (m_1 : Mm) (o : (Unit ⊕ Bool)) (e : AExit) (m1 : Mm) (t1 : Tr) : Prop :=
  match o with
  | (.inl _) => e = (.exit 2) ∧ m_1 = m1 ∧ t1.get 0 = v0 ∧ t1.get 3 = (.i .i64 x3)
  | (.inr y2) => e = .ret ∧ m_1 = m1 ∧ t1.get 2 = (.b y2)
def g48_b1 (M : Means) (ro : List ABlk) (v0 : AVal) (x3 : Int) (m_1 : Mm) (x4 : Int) : Option ((Int) ⊕ ((Unit ⊕ Bool))) :=
  bindO (evP .e (.len false (.c v0))) fun v16 =>
  asI .i64 v16 fun x16 =>
  forceB (ltI x4 x16) fun c17 =>
  cond c17 (
    bindO (evP .e (.ixS 1 (.c v0) (.c (.i .i64 x3)))) fun v22 =>
    bindO (ldM ro m_1 true 1 v22) fun v23 =>
    bindO (evP .e (.ixS 1 (.c v23) (.c (.i .i64 x4)))) fun v25 =>
    bindO (ldM ro m_1 true 1 v25) fun v26 =>
    asI .i64 v26 fun x26 =>
    forceB (ltI x26 0) fun c27 =>
    cond c27 (
      some (.inr (.inr false))) (
      forceI (wr .i64 (x4 + 1)) fun x19 =>
      some (.inl x19))) (
    some (.inr (.inl ())))
def g48_b0 (M : Means) (ro : List ABlk) (v0 : AVal) (m_1 : Mm) (x3 : Int) : Option ((Int) ⊕ ((Unit ⊕ Bool))) :=
  bindO (evP .e (.len false (.c v0))) fun v10 =>
  asI .i64 v10 fun x10 =>
  forceB (ltI x3 x10) fun c11 =>
  cond c11 (
    bindO (M.loop (S := Int) (R := (Unit ⊕ Bool)) (fun s => g48_b1 M ro v0 x3 m_1 s) 0) fun o => match o with
    | (.inl _) =>
      forceI (wr .i64 (x3 + 1)) fun x13 =>
      some (.inl x13)
    | (.inr c2) =>
      some (.inr (.inr c2))) (
    some (.inr (.inl ())))
def g48 (M : Means) (ro : List ABlk) (v0 : AVal) (m0 : Mm) : Option (AVal × Heap × Nat × Nat) :=
  bindP (callM M.call m0 47 [v0]) fun v6 m_1 =>
  asB v6 fun c6 =>
  forceB (!c6) fun c7 =>
  cond c7 (
    finM m0.h.length (tupA [(.b false)]) m_1) (
    bindO (M.loop (S := Int) (R := (Unit ⊕ Bool)) (fun s => g48_b0 M ro v0 m_1 s) 0) fun o_1 => match o_1 with
    | (.inl _) =>
      finM m0.h.length (tupA [(.b true)]) m_1
    | (.inr c2_1) =>
      finM m0.h.length (tupA [(.b c2_1)]) m_1)

theorem g48_ok {ro : List ABlk} {O : Caller} {M : Means} (hM : M.Ok ⟨F, O⟩ ro) {v0 h r} (ho : O 48 [v0] h = none) (hr : g48 M ro v0 ⟨h, h.length, h.length⟩ = some r) : callX ⟨F, O⟩ ro 48 [v0] h = some r := by
  refine callX_of (F := ⟨F, O⟩) (fn := fn48) (g := g48 M ro v0) ho rfl rfl hr ?_
  clear ho
  clear hr
  intro m0 t0 ht hr
  have g0 : t0.get 0 = v0 := ht 0
  clear ht
  unfold g48 at hr
  refine w_seq ?_
  refine w_ops ?_
  refine wo_step (v := (.b false)) (s_pure (p_mv rfl)) ?_
  refine wo_nil ?_
  refine nx_norm ?_
  refine w_seq ?_
  refine w_seq ?_
  refine w_ops ?_
  refine wo_step (v := v0) (s_pure (p_mv g0)) ?_
  have hq := bindP_inv hr
  clear hr
  obtain ⟨v6, m_1, e6, hr⟩ := hq
  have hq := asB_inv hr
  clear hr
  obtain ⟨c6, rfl, hr⟩ := hq
  refine wo_step (v := (.b c6)) (s_call (mc rfl mn) (callM_le hM.call e6)) ?_
  have hq := forceB_inv hr
  clear hr
  obtain ⟨c7, e7, hr⟩ := hq
  refine wo_step (v := (.b c7)) (s_pure ((p_not rfl).trans (cb e7))) ?_
  refine wo_nil ?_
  refine nx_norm ?_
  have hq := cond_inv hr
  clear hr
  rcases hq with ⟨rfl, hr⟩ | ⟨rfl, hr⟩
  · refine w_condT rfl ?_
    refine w_seq ?_
    refine w_ops ?_
    refine wo_step (v := (.b false)) (s_pure (p_mv rfl)) ?_
    refine wo_nil ?_
    refine nx_norm ?_
    refine w_ret ?_
    refine nx_ret ?_
    exact qf ret_ok (rt rfl rn) hr
  · refine w_condF rfl ?_
    refine w_skip ?_
    refine nx_norm ?_
    refine w_seq ?_
    refine w_seq ?_
    refine w_ops ?_
    refine wo_step (v := (.i .i64 0)) (s_pure (p_mv rfl)) ?_
    refine wo_nil ?_
    refine nx_norm ?_
    refine w_block ?_
    have hq := bindO_inv hr
    clear hr
    obtain ⟨o_1, hl_1, hr⟩ := hq
    obtain ⟨n_1, hl_1⟩ := hM.loop _ _ _ hl_1
    refine jp_mono (w_loop _ (g48_I0 v0 m_1) (g48_J0 v0 m_1) ?_ n_1 _ _ _ _ hl_1 ⟨rfl, gl rfl, gl g0⟩) ?_
    · clear hr hl_1
      intro s mm_5 t_1 o hi hr
      obtain ⟨x3, hs⟩ : ∃ z, z = s := ⟨_, rfl⟩
      subst hs
      obtain ⟨rfl, g3, g0⟩ := hi
      unfold g48_b0 at hr
      refine w_seq ?_
      refine w_seq ?_
      refine w_ops ?_
      refine wo_step (v := (.i .i64 x3)) (s_pure (p_mv g3)) ?_
      refine wo_step (v := v0) (s_pure (p_mv g0)) ?_
      have hq := bindO_inv hr
      clear hr
      obtain ⟨v10, e10, hr⟩ := hq
      have hq := asI_inv hr
      clear hr
      obtain ⟨x10, rfl, hr⟩ := hq
      refine wo_step (v := (.i .i64 x10)) (s_pure (o_len rfl e10)) ?_
      have hq := forceB_inv hr
      clear hr
      obtain ⟨c11, e11, hr⟩ := hq
      refine wo_step (v := (.b c11)) (s_pure (p_bin rfl rfl (b_lss.trans (cb e11)))) ?_
      refine wo_nil ?_
      refine nx_norm ?_
      have hq := cond_inv hr
      clear hr
      rcases hq with ⟨rfl, hr⟩ | ⟨rfl, hr⟩
      · refine w_condT rfl ?_
        refine w_skip ?_
        refine nx_norm ?_
        refine w_seq ?_
        refine w_block ?_
        refine w_seq ?_
        refine w_ops ?_
        refine wo_step (v := (.i .i64 0)) (s_pure (p_mv rfl)) ?_
        refine wo_nil ?_
        refine nx_norm ?_
        refine w_block ?_
        have hq := bindO_inv hr
        clear hr
        obtain ⟨o, hl, hr⟩ := hq
        obtain ⟨n, hl⟩ := hM.loop _ _ _ hl
        refine jp_mono (w_loop _ (g48_I1 v0 x3 m_1) (g48_J1 v0 x3 m_1) ?_ n _ _ _ _ hl ⟨rfl, gl rfl, gl g0, gl g3⟩) ?_
        · clear hr hl
          intro s mm_2 t_2 o hi hr
          obtain ⟨x4, hs⟩ : ∃ z, z = s := ⟨_, rfl⟩
          subst hs
          obtain ⟨rfl, g4, g0, g3⟩ := hi
          unfold g48_b1 at hr
          refine w_seq ?_
          refine w_seq ?_
          refine w_ops ?_
          refine wo_step (v := (.i .i64 x4)) (s_pure (p_mv g4)) ?_
          refine wo_step (v := v0) (s_pure (p_mv g0)) ?_
          have hq := bindO_inv hr
          clear hr
          obtain ⟨v16, e16, hr⟩ := hq
          have hq := asI_inv hr
          clear hr
          obtain ⟨x16, rfl, hr⟩ := hq
          refine wo_step (v := (.i .i64 x16)) (s_pure (o_len rfl e16)) ?_
          have hq := forceB_inv hr
          clear hr
          obtain ⟨c17, e17, hr⟩ := hq
          refine wo_step (v := (.b c17)) (s_pure (p_bin rfl rfl (b_lss.trans (cb e17)))) ?_
          refine wo_nil ?_
          refine nx_norm ?_
          have hq := cond_inv hr
          clear hr
          rcases hq with ⟨rfl, hr⟩ | ⟨rfl, hr⟩
          · refine w_condT rfl ?_
            refine w_skip ?_
            refine nx_norm ?_
            refine w_seq ?_
            refine w_block ?_
            refine w_seq ?_
            refine w_ops ?_
            refine wo_step (v := v0) (s_pure (p_mv g0)) ?_
            refine wo_step (v := (.i .i64 x3)) (s_pure (p_mv g3)) ?_
            have hq := bindO_inv hr
            clear hr
            obtain ⟨v22, e22, hr⟩ := hq
            refine wo_step (v := v22) (s_pure (o_ixS rfl rfl e22)) ?_
            have hq := bindO_inv hr
            clear hr
            obtain ⟨v23, e23, hr⟩ := hq
            refine wo_step (v := v23) (s_ld rfl e23) ?_
            refine wo_step (v := (.i .i64 x4)) (s_pure (p_mv g4)) ?_
            have hq := bindO_inv hr
            clear hr
            obtain ⟨v25, e25, hr⟩ := hq
            refine wo_step (v := v25) (s_pure (o_ixS rfl rfl e25)) ?_
            have hq := bindO_inv hr
            clear hr
            obtain ⟨v26, e26, hr⟩ := hq
            have hq := asI_inv hr
            clear hr
            obtain ⟨x26, rfl, hr⟩ := hq
            refine wo_step (v := (.i .i64 x26)) (s_ld rfl e26) ?_
            have hq := forceB_inv hr
            clear hr
            obtain ⟨c27, e27, hr⟩ := hq
            refine wo_step (v := (.b c27)) (s_pure (p_bin rfl rfl (b_lss.trans (cb e27)))) ?_
            refine wo_nil ?_
            refine nx_norm ?_
            have hq := cond_inv hr
            clear hr
            rcases hq with ⟨rfl, hr⟩ | ⟨rfl, hr⟩
            · refine w_condT rfl ?_
              refine w_seq ?_
              refine w_ops ?_
              refine wo_step (v := (.b false)) (s_pure (p_mv rfl)) ?_
              refine wo_nil ?_
              refine nx_norm ?_
              refine w_ret ?_
              refine bk_ret ?_
              refine nx_ret ?_
              cases hr
              exact ⟨_, _, rfl, ne_norm_ret, rfl, rfl, gl rfl⟩
            · refine w_condF rfl ?_
              refine w_skip ?_
              refine bk_norm ?_
              refine nx_norm ?_
              refine w_ops ?_
              refine wo_step (v := (.i .i64 x4)) (s_pure (p_mv g4)) ?_
              have hq := forceI_inv hr
              clear hr
              obtain ⟨x19, e19, hr⟩ := hq
              refine wo_step (v := (.i .i64 x19)) (s_pure (p_bin rfl rfl (b_add.trans (ci e19)))) ?_
              refine wo_step (v := (.i .i64 x19)) (s_pure (p_mv rfl)) ?_
              refine wo_nil ?_
              cases hr
              exact ⟨_, _, rfl, rfl, rfl, gl rfl, gl g0, gl g3⟩
          · refine w_condF rfl ?_
            refine w_exit ?_
            refine nx_exit ?_
            cases hr
            exact ⟨_, _, rfl, ne_norm_exit, rfl, rfl, gl g0, gl g3⟩
        · rcases o with o | o
          · rintro _ mm t_3 ⟨rfl, rfl, g0, g3⟩
            refine bk_hit ?_
            refine bk_norm ?_
            refine nx_norm ?_
            refine w_ops ?_
            refine wo_step (v := (.i .i64 x3)) (s_pure (p_mv g3)) ?_
            have hq := forceI_inv hr
            clear hr
            obtain ⟨x13, e13, hr⟩ := hq
            refine wo_step (v := (.i .i64 x13)) (s_pure (p_bin rfl rfl (b_add.trans (ci e13)))) ?_
            refine wo_step (v := (.i .i64 x13)) (s_pure (p_mv rfl)) ?_
            refine wo_nil ?_
            cases hr
            exact ⟨_, _, rfl, rfl, rfl, gl rfl, gl g0⟩
          · obtain ⟨c2, ho⟩ : ∃ z, z = o := ⟨_, rfl⟩
            subst ho
            rintro _ mm_1 t_4 ⟨rfl, rfl, g2⟩
            refine bk_ret ?_
            refine bk_ret ?_
            refine nx_ret ?_
            cases hr
            exact ⟨_, _, rfl, ne_norm_ret, rfl, rfl, gl g2⟩
      · refine w_condF rfl ?_
        refine w_exit ?_
        refine nx_exit ?_
        cases hr
        exact ⟨_, _, rfl, ne_norm_exit, rfl, rfl⟩
    · rcases o_1 with o_1 | o_1
      · rintro _ mm_3 t_5 ⟨rfl, rfl⟩
        refine bk_hit ?_
        refine nx_norm ?_
        refine w_seq ?_
        refine w_ops ?_
        refine wo_step (v := (.b true)) (s_pure (p_mv rfl)) ?_
        refine wo_nil ?_
        refine nx_norm ?_
        refine w_ret ?_
        exact qf ret_ok (rt rfl rn) hr
      · obtain ⟨c2_1, ho⟩ : ∃ z, z = o_1 := ⟨_, rfl⟩
        subst ho
        rintro _ mm_4 t_6 ⟨rfl, rfl, g2⟩
        refine bk_ret ?_
        refine nx_ret ?_
        exact qf ret_ok (rt g2 rn) hr

/- dibber/dibberlaw01.parts -/

def g49 (M : Means) (ro : List ABlk) (v0 : AVal) (v1 : AVal) (x2 : Int) (m0 : Mm) : Option (AVal × Heap × Nat × Nat) :=
  bindO (evP .e (.len false (.c v0))) fun v9 =>
  asI .i64 v9 fun x9 =>
  forceB (eqI x2 x9) fun c12 =>
  cond c12 (
    finM m0.h.length (tupA [(.b true)]) m0) (
    bindP (stepM ro m0 (.bsl 3 1 [(AVal.i IntKind.i64 0)] 1 [((0, 1), .c (.i .i64 x2))])) fun v17 m_1 =>
    bindP (callM M.call m_1 82 [v0, v1, (.i .i64 x2), v17]) fun v18 m_2 =>
    asB v18 fun c18 =>
    finM m0.h.length (tupA [(.b c18)]) m_2)

theorem g49_ok {ro : List ABlk} {O : Caller} {M : Means} (hM : M.Ok ⟨F, O⟩ ro) {v0 v1 x2 h r} (ho : O 49 [v0, v1, (.i .i64 x2)] h = none) (hr : g49 M ro v0 v1 x2 ⟨h, h.length, h.length⟩ = some r) : callX ⟨F, O⟩ ro 49 [v0, v1, (.i .i64 x2)] h = some r := by
  refine callX_of (F := ⟨F, O⟩) (fn := fn49) (g := g49 M ro v0 v1 x2) ho rfl rfl hr ?_
  clear ho
  clear hr
  intro m0 t0 ht hr
  have g0 : t0.get 0 = v0 := ht 0
  have g1 : t0.get 1 = v1 := ht 1
  have g2 : t0.get 2 = (.i .i64 x2) := ht 2
  clear ht
  unfold g49 at hr
  refine w_seq ?_
  refine w_ops ?_
  refine wo_step (v := (.b false)) (s_pure (p_mv rfl)) ?_
  refine wo_nil ?_
  refine nx_norm ?_
  refine w_seq ?_
  refine w_ops ?_
  refine wo_step (v := v0) (s_pure (p_mv g0)) ?_
  have hq := bindO_inv hr
  clear hr
  obtain ⟨v9, e9, hr⟩ := hq
  have hq := asI_inv hr
  clear hr
  obtain ⟨x9, rfl, hr⟩ := hq
  refine wo_step (v := (.i .i64 x9)) (s_pure (o_len rfl e9)) ?_
  refine wo_step (v := (.i .i64 x9)) (s_pure (p_mv rfl)) ?_
  refine wo_nil ?_
  refine nx_norm ?_
  refine w_seq ?_
  refine w_seq ?_
  refine w_ops ?_
  refine wo_step (v := (.i .i64 x2)) (s_pure (p_mv g2)) ?_
  refine wo_step (v := (.i .i64 x9)) (s_pure (p_mv rfl)) ?_
  have hq := forceB_inv hr
  clear hr
  obtain ⟨c12, e12, hr⟩ := hq
  refine wo_step (v := (.b c12)) (s_pure (p_bin rfl rfl (b_eql.trans (cb e12)))) ?_
  refine wo_nil ?_
  refine nx_norm ?_
  have hq := cond_inv hr
  clear hr
  rcases hq with ⟨rfl, hr⟩ | ⟨rfl, hr⟩
  · refine w_condT rfl ?_
    refine w_seq ?_
    refine w_ops ?_
    refine wo_step (v := (.b true)) (s_pure (p_mv rfl)) ?_
    refine wo_nil ?_
    refine nx_norm ?_
    refine w_ret ?_
    refine nx_ret ?_
    exact qf ret_ok (rt rfl rn) hr
  · refine w_condF rfl ?_
    refine w_skip ?_
    refine nx_norm ?_
    refine w_seq ?_
    refine w_ops ?_
    refine wo_step (v := v0) (s_pure (p_mv g0)) ?_
    refine wo_step (v := v1) (s_pure (p_mv g1)) ?_
    refine wo_step (v := (.i .i64 x2)) (s_pure (p_mv g2)) ?_
    refine wo_step (v := (.i .i64 x2)) (s_pure (p_mv g2)) ?_
    have hq := bindP_inv hr
    clear hr
    obtain ⟨v17, m_1, e17, hr⟩ := hq
    refine wo_step (v := v17) (s_bsl (qc rfl qn) e17) ?_
    have hq := bindP_inv hr
    clear hr
    obtain ⟨v18, m_2, e18, hr⟩ := hq
    have hq := asB_inv hr
    clear hr
    obtain ⟨c18, rfl, hr⟩ := hq
    refine wo_step (v := (.b c18)) (s_call (mc rfl (mc rfl (mc rfl (mc rfl mn)))) (callM_le hM.call e18)) ?_
    refine wo_step (v := (.b c18)) (s_pure (p_mv rfl)) ?_
    refine wo_nil ?_
    refine nx_norm ?_
    refine w_ret ?_
    exact qf ret_ok (rt rfl rn) hr

/- dibber/bed.shaped -/
abbrev g51_J0 (v0 : AVal) (x9 : Int) (m0 : Mm) (o : Bool) (m1 : Mm) (t1 : Tr) : Prop :=
  match o with
  | c15 => m0 = m1 ∧ t1.get 15 = (.b c15) ∧ t1.get 0 = v0 ∧ t1.get 3 = (.i .i64 x9)
abbrev g51_I1 (x9 : Int) (v0 : AVal) (x17 : Int) (m0 : Mm) (s : Int) (m1 : Mm) (t1 : Tr) : Prop :=
  match s with
  | x18 => m0 = m1 ∧ t1.get 18 = (.i .i64 x18) ∧ t1.get 3 = (.i .i64 x9) ∧ t1.get 16 = v0 ∧ t1.get 17 = (.i .i64 x17)
abbrev g51_J1 (x9 : Int) (v0 : AVal) (x17 : Int) (m0 : Mm) (o : (Unit ⊕ Bool)) (e : AExit) (m1 : Mm) (t1 : Tr) : Prop :=
  match o with
  | (.inl _) => e = (.exit 0) ∧ m0 = m1
  | (.inr y2) => e = .ret ∧ m0 = m1 ∧ t1.get 2 = (.b y2)
abbrev g51_I2 (x9 : Int) (v0 : AVal) (x17 : Int) (x18 : Int) (v21 : AVal) (x27 : Int) (m0 : Mm) (s : Int) (m1 : Mm) (t1 : Tr) : Prop :=
  match s with
  | x28 => m0 = m1 ∧ t1.get 28 = (.i .i64 x28) ∧ t1.get 3 = (.i .i64 x9) ∧ t1.get 16 = v0 ∧ t1.get 17 = (.i .i64 x17) ∧ t1.get 18 = (.i .i64 x18) ∧ t1.get 26 = v21 ∧ t1.get 27 = (.i .i64 x27)
abbrev g51_J2 (x9 : Int) (v0 : AVal) (x17 : Int) (x18 : Int) (v21 : AVal) (x27 : Int) (m0 : Mm) (o : (Unit ⊕ Bool)) (e : AExit) (m1 : Mm) (t1 : Tr) : Prop :=
  match o with
  | (.inl _) => e = (.exit 2) ∧ m0 = m1 ∧ t1.get 3 = (.i .i64 x9) ∧ t1.get 16 = v0 ∧ t1.get 17 = (.i .i64 x17) ∧ t1.get 18 = (.i .i64 x18)
  | (.inr y2) => e = .ret ∧ m0 = m1 ∧ t1.get 2 = (.b y2)
abbrev g51_J3 (x9 : Int) (v0 : AVal) (x17 : Int) (x18 : Int) (v21 : AVal) (x27 : Int) (x28 : Int) (m0 : Mm) (o : Bool) (m1 : Mm) (t1 : Tr) : Prop :=
  match o with
  | c38 => m0 = m1 ∧ t1.get 38 = (.b c38) ∧ t1.get 3 = (.i .i64 x9) ∧ t1.get 16 = v0 ∧ t1.get 17 = (.i .i64 x17) ∧ t1.get 18 = (.i .i64 x18) ∧ t1.get 26 = v21 ∧ t1.get 27 = (.i .i64 x27) ∧ t1.get 28 = (.i .i64 x28)
def g51_b2 (M : Means) (ro : List ABlk) (x9 : Int) (v0 : AVal) (x17 : Int) (x18 : Int) (v21 : AVal) (x27 : Int) (m0 : Mm) (x28 : Int) : Option ((Int) ⊕ ((Unit ⊕ Bool))) :=
  forceB (ltI x28 x27) fun c29 =>
  cond c29 (
    bindO (evP .e (.ixS 1 (.c v21) (.c (.i .i64 x28)))) fun v30 =>
    bindO (ldM ro m0 true 1 v30) fun v31 =>
    asI .i64 v31 fun x31 =>
    forceB (ltI x31 (-1)) fun c33 =>
    bindO (cond c33 (
      some true) (
      forceB (!ltI x31 x9) fun c37 =>
      some c37)) fun c38 =>
    cond c38 (
      some (.inr (.inr false))) (
      forceI (wr .i64 (x28 + 1)) fun x39 =>
      some (.inl x39))) (
    some (.inr (.inl ())))
def g51_b1 (M : Means) (ro : List ABlk) (x9 : Int) (v0 : AVal) (x17 : Int) (m0 : Mm) (x18 : Int) : Option ((Int) ⊕ ((Unit ⊕ Bool))) :=
  forceB (ltI x18 x17) fun c19 =>
  cond c19 (
    bindO (evP .e (.ixS 1 (.c v0) (.c (.i .i64 x18)))) fun v20 =>
    bindO (ldM ro m0 true 1 v20) fun v21 =>
    bindO (evP .e (.len false (.c v21))) fun v23 =>
    asI .i64 v23 fun x23 =>
    forceB (!eqI x23 x9) fun c25 =>
    cond c25 (
      some (.inr (.inr false))) (
      bindO (evP .e (.len false (.c v21))) fun v27 =>
      asI .i64 v27 fun x27 =>
      bindO (M.loop (S := Int) (R := (Unit ⊕ Bool)) (fun s => g51_b2 M ro x9 v0 x17 x18 v21 x27 m0 s) 0) fun o_2 => match o_2 with
      | (.inl _) =>
        forceI (wr .i64 (x18 + 1)) fun x40 =>
        some (.inl x40)
      | (.inr c2) =>
        some (.inr (.inr c2)))) (
    some (.inr (.inl ())))
def g51 (M : Means) (ro : List ABlk) (v0 : AVal) (m0 : Mm) : Option (AVal × Heap × Nat × Nat) :=
  bindO (evP .e (.len false (.c v0))) fun v9 =>
  asI .i64 v9 fun x9 =>
  forceB (ltI x9 1) fun c11 =>
  bindO (cond c11 (
    some true) (
    forceB (ltI 7 x9) fun c14 =>
    some c14)) fun c15 =>
  cond c15 (
    finM m0.h.length (tupA [(.b false)]) m0) (
    bindO (evP .e (.len false (.c v0))) fun v17 =>
    asI .i64 v17 fun x17 =>
    bindO (M.loop (S := Int) (R := (Unit ⊕ Bool)) (fun s => g51_b1 M ro x9 v0 x17 m0 s) 0) fun o_3 => match o_3 with
    | (.inl _) =>
      finM m0.h.length (tupA [(.b true)]) m0
    | (.inr c2_1) =>
      finM m0.h.length (tupA [(.b c2_1)]) m0)

theorem g51_ok {ro : List ABlk} {O : Caller} {M : Means} (hM : M.Ok ⟨F, O⟩ ro) {v0 h r} (ho : O 51 [v0] h = none) (hr : g51 M ro v0 ⟨h, h.length, h.length⟩ = some r) : callX ⟨F, O⟩ ro 51 [v0] h = some r := by
  refine callX_of (F := ⟨F, O⟩) (fn := fn51) (g := g51 M ro v0) ho rfl rfl hr ?_
  clear ho
  clear hr
  intro m0 t0 ht hr
  have g0 : t0.get 0 = v0 := ht 0
  clear ht
  unfold g51 at hr
  refine w_seq ?_
  refine w_ops ?_
  refine wo_step (v := (.b false)) (s_pure (p_mv rfl)) ?_
  refine wo_nil ?_
  refine nx_norm ?_
  refine w_seq ?_
  refine w_ops ?_
  refine wo_step (v := v0) (s_pure (p_mv g0)) ?_
  have hq := bindO_inv hr
  clear hr
  obtain ⟨v9, e9, hr⟩ := hq
  have hq := asI_inv hr
  clear hr
  obtain ⟨x9, rfl, hr⟩ := hq
  refine wo_step (v := (.i .i64 x9)) (s_pure (o_len rfl e9)) ?_
  refine wo_step (v := (.i .i64 x9)) (s_pure (p_mv rfl)) ?_
  refine wo_nil ?_
  refine nx_norm ?_
  refine w_seq ?_
  refine w_seq ?_
  refine w_ops ?_
  refine wo_step (v := (.i .i64 x9)) (s_pure (p_mv rfl)) ?_
  have hq := forceB_inv hr
  clear hr
  obtain ⟨c11, e11, hr⟩ := hq
  refine wo_step (v := (.b c11)) (s_pure (p_bin rfl rfl (b_lss.trans (cb e11)))) ?_
  refine wo_step (v := (.b c11)) (s_pure (p_mv rfl)) ?_
  have hq := bindO_inv hr
  clear hr
  obtain ⟨o, hr, hk⟩ := hq
  refine wo_join 3 (g51_J0 v0 x9 m0 o) ?_ ?_
  · clear hk
    have hq := cond_inv hr
    clear hr
    rcases hq with ⟨rfl, hr⟩ | ⟨rfl, hr⟩
    · refine wo_skip (v := (.b true)) rfl rfl ?_
      refine wo_skip (v := (.b true)) rfl rfl ?_
      refine wo_step (v := (.b true)) (s_pure (p_pickT rfl rfl)) ?_
      refine wo_nil ?_
      cases hr
      exact ⟨_, _, rfl, rfl, gl rfl, gl g0, gl rfl⟩
    · refine wo_take (v := (.i .i64 x9)) rfl (s_pure (p_mv rfl)) ?_
      have hq := forceB_inv hr
      clear hr
      obtain ⟨c14, e14, hr⟩ := hq
      refine wo_take (v := (.b c14)) rfl (s_pure (p_bin rfl rfl (b_gtr.trans (cb e14)))) ?_
      refine wo_step (v := (.b c14)) (s_pure (p_pickF rfl rfl)) ?_
      refine wo_nil ?_
      cases hr
      exact ⟨_, _, rfl, rfl, gl rfl, gl g0, gl rfl⟩
  · clear hr
    have hr := hk
    clear hk
    obtain ⟨c15, ho⟩ : ∃ z, z = o := ⟨_, rfl⟩
    subst ho
    rintro mm t_1 ⟨rfl, g15, g0, g3⟩
    refine wo_nil ?_
    refine nx_norm ?_
    have hq := cond_inv hr
    clear hr
    rcases hq with ⟨rfl, hr⟩ | ⟨rfl, hr⟩
    · refine w_condT g15 ?_
      refine w_seq ?_
      refine w_ops ?_
      refine wo_step (v := (.b false)) (s_pure (p_mv rfl)) ?_
      refine wo_nil ?_
      refine nx_norm ?_
      refine w_ret ?_
      refine nx_ret ?_
      exact qf ret_ok (rt rfl rn) hr
    · refine w_condF g15 ?_
      refine w_skip ?_
      refine nx_norm ?_
      refine w_seq ?_
      refine w_seq ?_
      refine w_ops ?_
      refine wo_step (v := v0) (s_pure (p_mv g0)) ?_
      have hq := bindO_inv hr
      clear hr
      obtain ⟨v17, e17, hr⟩ := hq
      have hq := asI_inv hr
      clear hr
      obtain ⟨x17, rfl, hr⟩ := hq
      refine wo_step (v := (.i .i64 x17)) (s_pure (o_len rfl e17)) ?_
      refine wo_step (v := (.i .i64 0)) (s_pure (p_mv rfl)) ?_
      refine wo_nil ?_
      refine nx_norm ?_
      refine w_block ?_
      have hq := bindO_inv hr
      clear hr
      obtain ⟨o_3, hl_1, hr⟩ := hq
      obtain ⟨n_1, hl_1⟩ := hM.loop _ _ _ hl_1
      refine jp_mono (w_loop _ (g51_I1 x9 v0 x17 m0) (g51_J1 x9 v0 x17 m0) ?_ n_1 _ _ _ _ hl_1 ⟨rfl, gl rfl, gl g3, gl rfl, gl rfl⟩) ?_
      · clear hr hl_1
        intro s mm_7 t_2 o hi hr
        obtain ⟨x18, hs⟩ : ∃ z, z = s := ⟨_, rfl⟩
        subst hs
        obtain ⟨rfl, g18, g3, g16, g17⟩ := hi
        unfold g51_b1 at hr
        refine w_seq ?_
        refine w_ops ?_
        have hq := forceB_inv hr
        clear hr
        obtain ⟨c19, e19, hr⟩ := hq
        refine wo_step (v := (.b c19)) (s_pure (p_bin g18 g17 (b_lss.trans (cb e19)))) ?_
        refine wo_nil ?_
        refine nx_norm ?_
        refine w_seq ?_
        have hq := cond_inv hr
        clear hr
        rcases hq with ⟨rfl, hr⟩ | ⟨rfl, hr⟩
        · refine w_condT rfl ?_
          refine w_skip ?_
          refine nx_norm ?_
          refine w_seq ?_
          refine w_block ?_
          refine w_seq ?_
          refine w_ops ?_
          have hq := bindO_inv hr
          clear hr
          obtain ⟨v20, e20, hr⟩ := hq
          refine wo_step (v := v20) (s_pure (o_ixS g16 g18 e20)) ?_
          have hq := bindO_inv hr
          clear hr
          obtain ⟨v21, e21, hr⟩ := hq
          refine wo_step (v := v21) (s_ld rfl e21) ?_
          refine wo_step (v := v21) (s_pure (p_mv rfl)) ?_
          refine wo_nil ?_
          refine nx_norm ?_
          refine w_seq ?_
          refine w_seq ?_
          refine w_ops ?_
          refine wo_step (v := v21) (s_pure (p_mv rfl)) ?_
          have hq := bindO_inv hr
          clear hr
          obtain ⟨v23, e23, hr⟩ := hq
          have hq := asI_inv hr
          clear hr
          obtain ⟨x23, rfl, hr⟩ := hq
          refine wo_step (v := (.i .i64 x23)) (s_pure (o_len rfl e23)) ?_
          refine wo_step (v := (.i .i64 x9)) (s_pure (p_mv g3)) ?_
          have hq := forceB_inv hr
          clear hr
          obtain ⟨c25, e25, hr⟩ := hq
          refine wo_step (v := (.b c25)) (s_pure (p_bin rfl rfl (b_neq.trans (cb e25)))) ?_
          refine wo_nil ?_
          refine nx_norm ?_
          have hq := cond_inv hr
          clear hr
          rcases hq with ⟨rfl, hr⟩ | ⟨rfl, hr⟩
          · refine w_condT rfl ?_
            refine w_seq ?_
            refine w_ops ?_
            refine wo_step (v := (.b false)) (s_pure (p_mv rfl)) ?_
            refine wo_nil ?_
            refine nx_norm ?_
            refine w_ret ?_
            refine nx_ret ?_
            refine bk_ret ?_
            refine nx_ret ?_
            cases hr
            exact ⟨_, _, rfl, ne_norm_ret, rfl, rfl, gl rfl⟩
          · refine w_condF rfl ?_
            refine w_skip ?_
            refine nx_norm ?_
            refine w_seq ?_
            refine w_ops ?_
            refine wo_step (v := v21) (s_pure (p_mv rfl)) ?_
            have hq := bindO_inv hr
            clear hr
            obtain ⟨v27, e27, hr⟩ := hq
            have hq := asI_inv hr
            clear hr
            obtain ⟨x27, rfl, hr⟩ := hq
            refine wo_step (v := (.i .i64 x27)) (s_pure (o_len rfl e27)) ?_
            refine wo_step (v := (.i .i64 0)) (s_pure (p_mv rfl)) ?_
            refine wo_nil ?_
            refine nx_norm ?_
            refine w_block ?_
            have hq := bindO_inv hr
            clear hr
            obtain ⟨o_2, hl, hr⟩ := hq
            obtain ⟨n, hl⟩ := hM.loop _ _ _ hl
            refine jp_mono (w_loop _ (g51_I2 x9 v0 x17 x18 v21 x27 m0) (g51_J2 x9 v0 x17 x18 v21 x27 m0) ?_ n _ _ _ _ hl ⟨rfl, gl rfl, gl g3, gl g16, gl g17, gl g18, gl rfl, gl rfl⟩) ?_
            · clear hr hl
              intro s mm_4 t_3 o hi hr
              obtain ⟨x28, hs⟩ : ∃ z, z = s := ⟨_, rfl⟩
              subst hs
              obtain ⟨rfl, g28, g3, g16, g17, g18, g26, g27⟩ := hi
              unfold g51_b2 at hr
              refine w_seq ?_
              refine w_ops ?_
              have hq := forceB_inv hr
              clear hr
              obtain ⟨c29, e29, hr⟩ := hq
              refine wo_step (v := (.b c29)) (s_pure (p_bin g28 g27 (b_lss.trans (cb e29)))) ?_
              refine wo_nil ?_
              refine nx_norm ?_
              refine w_seq ?_
              have hq := cond_inv hr
              clear hr
              rcases hq with ⟨rfl, hr⟩ | ⟨rfl, hr⟩
              · refine w_condT rfl ?_
                refine w_skip ?_
                refine nx_norm ?_
                refine w_seq ?_
                refine w_block ?_
                refine w_seq ?_
                refine w_ops ?_
                have hq := bindO_inv hr
                clear hr
                obtain ⟨v30, e30, hr⟩ := hq
                refine wo_step (v := v30) (s_pure (o_ixS g26 g28 e30)) ?_
                have hq := bindO_inv hr
                clear hr
                obtain ⟨v31, e31, hr⟩ := hq
                have hq := asI_inv hr
                clear hr
                obtain ⟨x31, rfl, hr⟩ := hq
                refine wo_step (v := (.i .i64 x31)) (s_ld rfl e31) ?_
                refine wo_step (v := (.i .i64 x31)) (s_pure (p_mv rfl)) ?_
                refine wo_nil ?_
                refine nx_norm ?_
                refine w_seq ?_
                refine w_ops ?_
                refine wo_step (v := (.i .i64 x31)) (s_pure (p_mv rfl)) ?_
                have hq := forceB_inv hr
                clear hr
                obtain ⟨c33, e33, hr⟩ := hq
                refine wo_step (v := (.b c33)) (s_pure (p_bin rfl rfl (b_lss.trans (cb e33)))) ?_
                refine wo_step (v := (.b c33)) (s_pure (p_mv rfl)) ?_
                have hq := bindO_inv hr
                clear hr
                obtain ⟨o_1, hr, hk⟩ := hq
                refine wo_join 4 (g51_J3 x9 v0 x17 x18 v21 x27 x28 m0 o_1) ?_ ?_
                · clear hk
                  have hq := cond_inv hr
                  clear hr
                  rcases hq with ⟨rfl, hr⟩ | ⟨rfl, hr⟩
                  · refine wo_skip (v := (.b true)) rfl rfl ?_
                    refine wo_skip (v := (.b true)) rfl rfl ?_
                    refine wo_skip (v := (.b true)) rfl rfl ?_
                    refine wo_step (v := (.b true)) (s_pure (p_pickT rfl rfl)) ?_
                    refine wo_nil ?_
                    cases hr
                    exact ⟨_, _, rfl, rfl, gl rfl, gl g3, gl g16, gl g17, gl g18, gl g26, gl g27, gl g28⟩
                  · refine wo_take (v := (.i .i64 x31)) rfl (s_pure (p_mv rfl)) ?_
                    refine wo_take (v := (.i .i64 x9)) rfl (s_pure (p_mv g3)) ?_
                    have hq := forceB_inv hr
                    clear hr
                    obtain ⟨c37, e37, hr⟩ := hq
                    refine wo_take (v := (.b c37)) rfl (s_pure (p_bin rfl rfl (b_geq.trans (cb e37)))) ?_
                    refine wo_step (v := (.b c37)) (s_pure (p_pickF rfl rfl)) ?_
                    refine wo_nil ?_
                    cases hr
                    exact ⟨_, _, rfl, rfl, gl rfl, gl g3, gl g16, gl g17, gl g18, gl g26, gl g27, gl g28⟩
                · clear hr
                  have hr := hk
                  clear hk
                  obtain ⟨c38, ho⟩ : ∃ z, z = o_1 := ⟨_, rfl⟩
                  subst ho
                  rintro mm_1 t_4 ⟨rfl, g38, g3, g16, g17, g18, g26, g27, g28⟩
                  refine wo_nil ?_
                  refine nx_norm ?_
                  have hq := cond_inv hr
                  clear hr
                  rcases hq with ⟨rfl, hr⟩ | ⟨rfl, hr⟩
                  · refine w_condT g38 ?_
                    refine w_seq ?_
                    refine w_ops ?_
                    refine wo_step (v := (.b false)) (s_pure (p_mv rfl)) ?_
                    refine wo_nil ?_
                    refine nx_norm ?_
                    refine w_ret ?_
                    refine bk_ret ?_
                    refine nx_ret ?_
                    cases hr
                    exact ⟨_, _, rfl, ne_norm_ret, rfl, rfl, gl rfl⟩
                  · refine w_condF g38 ?_
                    refine w_skip ?_
                    refine bk_norm ?_
                    refine nx_norm ?_
                    refine w_ops ?_
                    have hq := forceI_inv hr
                    clear hr
                    obtain ⟨x39, e39, hr⟩ := hq
                    refine wo_step (v := (.i .i64 x39)) (s_pure (p_bin g28 rfl (b_add.trans (ci e39)))) ?_
                    refine wo_step (v := (.i .i64 x39)) (s_pure (p_mv rfl)) ?_
                    refine wo_nil ?_
                    cases hr
                    exact ⟨_, _, rfl, rfl, rfl, gl rfl, gl g3, gl g16, gl g17, gl g18, gl g26, gl g27⟩
              · refine w_condF rfl ?_
                refine w_exit ?_
                refine nx_exit ?_
                cases hr
                exact ⟨_, _, rfl, ne_norm_exit, rfl, rfl, gl g3, gl g16, gl g17, gl g18⟩
            · rcases o_2 with o_2 | o_2
              · rintro _ mm_2 t_5 ⟨rfl, rfl, g3, g16, g17, g18⟩
                refine bk_hit ?_
                refine bk_norm ?_
                refine nx_norm ?_
                refine w_ops ?_
                have hq := forceI_inv hr
                clear hr
                obtain ⟨x40, e40, hr⟩ := hq
                refine wo_step (v := (.i .i64 x40)) (s_pure (p_bin g18 rfl (b_add.trans (ci e40)))) ?_
                refine wo_step (v := (.i .i64 x40)) (s_pure (p_mv rfl)) ?_
                refine wo_nil ?_
                cases hr
                exact ⟨_, _, rfl, rfl, rfl, gl rfl, gl g3, gl g16, gl g17⟩
              · obtain ⟨c2, ho⟩ : ∃ z, z = o_2 := ⟨_, rfl⟩
                subst ho
                rintro _ mm_3 t_6 ⟨rfl, rfl, g2⟩
                refine bk_ret ?_
                refine bk_ret ?_
                refine nx_ret ?_
                cases hr
                exact ⟨_, _, rfl, ne_norm_ret, rfl, rfl, gl g2⟩
        · refine w_condF rfl ?_
          refine w_exit ?_
          refine nx_exit ?_
          cases hr
          exact ⟨_, _, rfl, ne_norm_exit, rfl, rfl⟩
      · rcases o_3 with o_3 | o_3
        · rintro _ mm_5 t_7 ⟨rfl, rfl⟩
          refine bk_hit ?_
          refine nx_norm ?_
          refine w_seq ?_
          refine w_ops ?_
          refine wo_step (v := (.b true)) (s_pure (p_mv rfl)) ?_
          refine wo_nil ?_
          refine nx_norm ?_
          refine w_ret ?_
          exact qf ret_ok (rt rfl rn) hr
        · obtain ⟨c2_1, ho⟩ : ∃ z, z = o_3 := ⟨_, rfl⟩
          subst ho
          rintro _ mm_6 t_8 ⟨rfl, rfl, g2⟩
          refine bk_ret ?_
          refine nx_ret ?_
          exact qf ret_ok (rt g2 rn) hr

/- dibber/bed.newGround -/
abbrev g52_I0 (x0 : Int) (v8 : AVal) (s : Int × Mm) (m1 : Mm) (t1 : Tr) : Prop :=
  match s with
  | (x10, m_2) => m_2 = m1 ∧ t1.get 10 = (.i .i64 x10) ∧ t1.get 0 = (.i .i64 x0) ∧ t1.get 3 = v8 ∧ t1.get 9 = (.i .i64 x0)
abbrev g52_J0 (x0 : Int) (v8 : AVal) (o : Mm) (e : AExit) (m1 : Mm) (t1 : Tr) : Prop :=
  match o with
  | mo => e = (.exit 0) ∧ mo = m1 ∧ t1.get 3 = v8
abbrev g52_I1 (x0 : Int) (v8 : AVal) (x10 : Int) (s : Int × Mm) (m1 : Mm) (t1 : Tr) : Prop :=
  match s with
  | (x14, m_3) => m_3 = m1 ∧ t1.get 14 = (.i .i64 x14) ∧ t1.get 0 = (.i .i64 x0) ∧ t1.get 3 = v8 ∧ t1.get 4 = (.i .i64 x10) ∧ t1.get 9 = (.i .i64 x0) ∧ t1.get 10 = (.i .i64 x10) ∧ t1.get 13 = (.i .i64 x0)
abbrev g52_J1 (x0 : Int) (v8 : AVal) (x10 : Int) (o : Mm) (e : AExit) (m1 : Mm) (t1 : Tr) : Prop :=
  match o with
  | mo => e = (.exit 2) ∧ mo = m1 ∧ t1.get 0 = (.i .i64 x0) ∧ t1.get 3 = v8 ∧ t1.get 9 = (.i .i64 x0) ∧ t1.get 10 = (.i .i64 x10)
def g52_b1 (M : Means) (ro : List ABlk) (x0 : Int) (v8 : AVal) (x10 : Int) (x14 : Int) (m_3 : Mm) : Option ((Int × Mm) ⊕ (Mm)) :=
  forceB (ltI x14 x0) fun c15 =>
  cond c15 (
    bindO (evP .e (.nilck (.c v8))) fun v20 =>
    bindO (evP .e (.faddr 1 (.c v20))) fun v21 =>
    bindO (evP .e (.ixA 7 7 (.c v21) (.c (.i .i64 x10)))) fun v22 =>
    bindO (evP .e (.ixA 7 1 (.c v22) (.c (.i .i64 x14)))) fun v23 =>
    bindP (stepM ro m_3 (.st 1 (.c v23) (.c (.i .i64 (-1))))) fun vn m_4 =>
    forceI (wr .i64 (x14 + 1)) fun x24 =>
    some (.inl (x24, m_4))) (
    some (.inr m_3))
def g52_b0 (M : Means) (ro : List ABlk) (x0 : Int) (v8 : AVal) (x10 : Int) (m_2 : Mm) : Option ((Int × Mm) ⊕ (Mm)) :=
  forceB (ltI x10 x0) fun c11 =>
  cond c11 (
    bindO (M.loop (S := Int × Mm) (R := Mm) (fun s => g52_b1 M ro x0 v8 x10 s.1 s.2) (0, m_2)) fun m_5 =>
    forceI (wr .i64 (x10 + 1)) fun x25 =>
    some (.inl (x25, m_5))) (
    some (.inr m_2))
def g52 (M : Means) (ro : List ABlk) (x0 : Int) (m0 : Mm) : Option (AVal × Heap × Nat × Nat) :=
  bindO ((fillA [(AVal.i IntKind.i64 0), (AVal.i IntKind.i64 0), (AVal.i IntKind.i64 0), (AVal.i IntKind.i64 0), (AVal.i IntKind.i64 0), (AVal.i IntKind.i64 0), (AVal.i IntKind.i64 0), (AVal.i IntKind.i64 0), (AVal.i IntKind.i64 0), (AVal.i IntKind.i64 0), (AVal.i IntKind.i64 0), (AVal.i IntKind.i64 0), (AVal.i IntKind.i64 0), (AVal.i IntKind.i64 0), (AVal.i IntKind.i64 0), (AVal.i IntKind.i64 0), (AVal.i IntKind.i64 0), (AVal.i IntKind.i64 0), (AVal.i IntKind.i64 0), (AVal.i IntKind.i64 0), (AVal.i IntKind.i64 0), (AVal.i IntKind.i64 0), (AVal.i IntKind.i64 0), (AVal.i IntKind.i64 0), (AVal.i IntKind.i64 0), (AVal.i IntKind.i64 0), (AVal.i IntKind.i64 0), (AVal.i IntKind.i64 0), (AVal.i IntKind.i64 0), (AVal.i IntKind.i64 0), (AVal.i IntKind.i64 0), (AVal.i IntKind.i64 0), (AVal.i IntKind.i64 0), (AVal.i IntKind.i64 0), (AVal.i IntKind.i64 0), (AVal.i IntKind.i64 0), (AVal.i IntKind.i64 0), (AVal.i IntKind.i64 0), (AVal.i IntKind.i64 0), (AVal.i IntKind.i64 0), (AVal.i IntKind.i64 0), (AVal.i IntKind.i64 0), (AVal.i IntKind.i64 0), (AVal.i IntKind.i64 0), (AVal.i IntKind.i64 0), (AVal.i IntKind.i64 0), (AVal.i IntKind.i64 0), (AVal.i IntKind.i64 0), (AVal.i IntKind.i64 0), (AVal.i IntKind.i64 0), (AVal.i IntKind.u8 0), (AVal.i IntKind.u8 0), (AVal.i IntKind.u8 0), (AVal.i IntKind.u8 0), (AVal.i IntKind.u8 0), (AVal.i IntKind.u8 0), (AVal.i IntKind.u8 0), (AVal.i IntKind.u8 0), (AVal.i IntKind.u8 0), (AVal.i IntKind.u8 0), (AVal.i IntKind.u8 0), (AVal.i IntKind.u8 0), (AVal.i IntKind.u8 0), (AVal.i IntKind.u8 0), (AVal.i IntKind.u8 0), (AVal.i IntKind.u8 0), (AVal.i IntKind.u8 0), (AVal.i IntKind.u8 0), (AVal.i IntKind.u8 0), (AVal.i IntKind.u8 0), (AVal.i IntKind.u8 0), (AVal.i IntKind.u8 0), (AVal.i IntKind.u8 0), (AVal.i IntKind.u8 0), (AVal.i IntKind.u8 0), (AVal.i IntKind.u8 0), (AVal.i IntKind.u8 0), (AVal.i IntKind.u8 0), (AVal.i IntKind.u8 0), (AVal.i IntKind.u8 0), (AVal.i IntKind.u8 0), (AVal.i IntKind.u8 0), (AVal.i IntKind.u8 0), (AVal.i IntKind.u8 0), (AVal.i IntKind.u8 0), (AVal.i IntKind.u8 0), (AVal.i IntKind.u8 0), (AVal.i IntKind.u8 0), (AVal.i IntKind.u8 0), (AVal.i IntKind.u8 0), (AVal.i IntKind.u8 0), (AVal.i IntKind.u8 0), (AVal.i IntKind.u8 0), (AVal.i IntKind.u8 0), (AVal.i IntKind.u8 0), (AVal.i IntKind.u8 0), (AVal.i IntKind.u8 0), (AVal.i IntKind.u8 0), (AVal.i IntKind.u8 0), (AVal.i IntKind.u8 0), (AVal.i IntKind.u8 0), (AVal.i IntKind.u8 0), (AVal.i IntKind.u8 0), (AVal.i IntKind.u8 0), (AVal.i IntKind.u8 0), (AVal.i IntKind.u8 0), (AVal.i IntKind.u8 0), (AVal.i IntKind.u8 0), (AVal.i IntKind.u8 0), (AVal.i IntKind.u8 0), (AVal.i IntKind.u8 0), (AVal.i IntKind.u8 0), (AVal.i IntKind.u8 0)] [((0, 1), (.i .i64 x0))]).map AVal.agg) fun v7 =>
  bindP (stepM ro m0 (.bx 75 113 (.c v7))) fun v8 m_1 =>
  bindO (M.loop (S := Int × Mm) (R := Mm) (fun s => g52_b0 M ro x0 v8 s.1 s.2) (0, m_1)) fun m_6 =>
  finM m0.h.length (tupA [v8]) m_6

theorem g52_ok {ro : List ABlk} {O : Caller} {M : Means} (hM : M.Ok ⟨F, O⟩ ro) {x0 h r} (ho : O 52 [(.i .i64 x0)] h = none) (hr : g52 M ro x0 ⟨h, h.length, h.length⟩ = some r) : callX ⟨F, O⟩ ro 52 [(.i .i64 x0)] h = some r := by
  refine callX_of (F := ⟨F, O⟩) (fn := fn52) (g := g52 M ro x0) ho rfl rfl hr ?_
  clear ho
  clear hr
  intro m0 t0 ht hr
  have g0 : t0.get 0 = (.i .i64 x0) := ht 0
  clear ht
  unfold g52 at hr
  refine w_seq ?_
  refine w_ops ?_
  refine wo_step (v := (AVal.p none)) (s_pure (p_mv rfl)) ?_
  refine wo_nil ?_
  refine nx_norm ?_
  refine w_seq ?_
  refine w_ops ?_
  refine wo_step (v := (.i .i64 x0)) (s_pure (p_mv g0)) ?_
  have hq := bindO_inv hr
  clear hr
  obtain ⟨v7, e7, hr⟩ := hq
  refine wo_step (v := v7) (s_pure (o_build (qc rfl qn) e7)) ?_
  have hq := bindP_inv hr
  clear hr
  obtain ⟨v8, m_1, e8, hr⟩ := hq
  refine wo_step (v := v8) (s_bx rfl e8) ?_
  refine wo_step (v := v8) (s_pure (p_mv rfl)) ?_
  refine wo_nil ?_
  refine nx_norm ?_
  refine w_seq ?_
  refine w_seq ?_
  refine w_ops ?_
  refine wo_step (v := (.i .i64 x0)) (s_pure (p_mv g0)) ?_
  refine wo_step (v := (.i .i64 0)) (s_pure (p_mv rfl)) ?_
  refine wo_nil ?_
  refine nx_norm ?_
  refine w_block ?_
  have hq := bindO_inv hr
  clear hr
  obtain ⟨o_1, hl_1, hr⟩ := hq
  obtain ⟨n_1, hl_1⟩ := hM.loop _ _ _ hl_1
  refine jp_mono (w_loop _ (g52_I0 x0 v8) (g52_J0 x0 v8) ?_ n_1 _ _ _ _ hl_1 ⟨rfl, gl rfl, gl g0, gl rfl, gl rfl⟩) ?_
  · clear hr hl_1
    intro s mm_3 t_1 o hi hr
    obtain ⟨x10, m_2⟩ := s
    obtain ⟨rfl, g10, g0, g3, g9⟩ := hi
    unfold g52_b0 at hr
    refine w_seq ?_
    refine w_ops ?_
    have hq := forceB_inv hr
    clear hr
    obtain ⟨c11, e11, hr⟩ := hq
    refine wo_step (v := (.b c11)) (s_pure (p_bin g10 g9 (b_lss.trans (cb e11)))) ?_
    refine wo_nil ?_
    refine nx_norm ?_
    refine w_seq ?_
    have hq := cond_inv hr
    clear hr
    rcases hq with ⟨rfl, hr⟩ | ⟨rfl, hr⟩
    · refine w_condT rfl ?_
      refine w_skip ?_
      refine nx_norm ?_
      refine w_seq ?_
      refine w_block ?_
      refine w_seq ?_
      refine w_ops ?_
      refine wo_step (v := (.i .i64 x10)) (s_pure (p_mv g10)) ?_
      refine wo_step (v := (.i .i64 x10)) (s_pure (p_mv rfl)) ?_
      refine wo_nil ?_
      refine nx_norm ?_
      refine w_seq ?_
      refine w_ops ?_
      refine wo_step (v := (.i .i64 x0)) (s_pure (p_mv g0)) ?_
      refine wo_step (v := (.i .i64 0)) (s_pure (p_mv rfl)) ?_
      refine wo_nil ?_
      refine nx_norm ?_
      refine w_block ?_
      have hq := bindO_inv hr
      clear hr
      obtain ⟨o, hl, hr⟩ := hq
      obtain ⟨n, hl⟩ := hM.loop _ _ _ hl
      refine jp_mono (w_loop _ (g52_I1 x0 v8 x10) (g52_J1 x0 v8 x10) ?_ n _ _ _ _ hl ⟨rfl, gl rfl, gl g0, gl g3, gl rfl, gl g9, gl g10, gl rfl⟩) ?_
      · clear hr hl
        intro s mm_1 t_2 o hi hr
        obtain ⟨x14, m_3⟩ := s
        obtain ⟨rfl, g14, g0, g3, g4, g9, g10, g13⟩ := hi
        unfold g52_b1 at hr
        refine w_seq ?_
        refine w_ops ?_
        have hq := forceB_inv hr
        clear hr
        obtain ⟨c15, e15, hr⟩ := hq
        refine wo_step (v := (.b c15)) (s_pure (p_bin g14 g13 (b_lss.trans (cb e15)))) ?_
        refine wo_nil ?_
        refine nx_norm ?_
        refine w_seq ?_
        have hq := cond_inv hr
        clear hr
        rcases hq with ⟨rfl, hr⟩ | ⟨rfl, hr⟩
        · refine w_condT rfl ?_
          refine w_skip ?_
          refine nx_norm ?_
          refine w_seq ?_
          refine w_block ?_
          refine w_seq ?_
          refine w_ops ?_
          refine wo_step (v := (.i .i64 x14)) (s_pure (p_mv g14)) ?_
          refine wo_step (v := (.i .i64 x14)) (s_pure (p_mv rfl)) ?_
          refine wo_nil ?_
          refine nx_norm ?_
          refine w_ops ?_
          refine wo_step (v := v8) (s_pure (p_mv g3)) ?_
          refine wo_step (v := (.i .i64 x10)) (s_pure (p_mv g4)) ?_
          refine wo_step (v := (.i .i64 x14)) (s_pure (p_mv rfl)) ?_
          have hq := bindO_inv hr
          clear hr
          obtain ⟨v20, e20, hr⟩ := hq
          refine wo_step (v := v20) (s_pure (o_nilck rfl e20)) ?_
          have hq := bindO_inv hr
          clear hr
          obtain ⟨v21, e21, hr⟩ := hq
          refine wo_step (v := v21) (s_pure (o_faddr rfl e21)) ?_
          have hq := bindO_inv hr
          clear hr
          obtain ⟨v22, e22, hr⟩ := hq
          refine wo_step (v := v22) (s_pure (o_ixA rfl rfl e22)) ?_
          have hq := bindO_inv hr
          clear hr
          obtain ⟨v23, e23, hr⟩ := hq
          refine wo_step (v := v23) (s_pure (o_ixA rfl rfl e23)) ?_
          have hq := bindP_inv hr
          clear hr
          obtain ⟨vn, m_4, en, hr⟩ := hq
          refine wo_stepN (s_st rfl rfl en) ?_
          refine wo_nil ?_
          refine bk_norm ?_
          refine nx_norm ?_
          refine w_ops ?_
          have hq := forceI_inv hr
          clear hr
          obtain ⟨x24, e24, hr⟩ := hq
          refine wo_step (v := (.i .i64 x24)) (s_pure (p_bin g14 rfl (b_add.trans (ci e24)))) ?_
          refine wo_step (v := (.i .i64 x24)) (s_pure (p_mv rfl)) ?_
          refine wo_nil ?_
          cases hr
          exact ⟨_, _, rfl, rfl, rfl, gl rfl, gl g0, gl g3, gl g4, gl g9, gl g10, gl g13⟩
        · refine w_condF rfl ?_
          refine w_exit ?_
          refine nx_exit ?_
          cases hr
          exact ⟨_, _, rfl, ne_norm_exit, rfl, rfl, gl g0, gl g3, gl g9, gl g10⟩
      · obtain ⟨m_5, ho⟩ : ∃ z, z = o := ⟨_, rfl⟩
        subst ho
        rintro _ mm t_3 ⟨rfl, rfl, g0, g3, g9, g10⟩
        refine bk_hit ?_
        refine bk_norm ?_
        refine nx_norm ?_
        refine w_ops ?_
        have hq := forceI_inv hr
        clear hr
        obtain ⟨x25, e25, hr⟩ := hq
        refine wo_step (v := (.i .i64 x25)) (s_pure (p_bin g10 rfl (b_add.trans (ci e25)))) ?_
        refine wo_step (v := (.i .i64 x25)) (s_pure (p_mv rfl)) ?_
        refine wo_nil ?_
        cases hr
        exact ⟨_, _, rfl, rfl, rfl, gl rfl, gl g0, gl g3, gl g9⟩
    · refine w_condF rfl ?_
      refine w_exit ?_
      refine nx_exit ?_
      cases hr
      exact ⟨_, _, rfl, ne_norm_exit, rfl, rfl, gl g3⟩
  · obtain ⟨m_6, ho⟩ : ∃ z, z = o_1 := ⟨_, rfl⟩
    subst ho
    rintro _ mm_2 t_4 ⟨rfl, rfl, g3⟩
    refine bk_hit ?_
    refine nx_norm ?_
    refine w_seq ?_
    refine w_ops ?_
    refine wo_step (v := v8) (s_pure (p_mv g3)) ?_
    refine wo_step (v := v8) (s_pure (p_mv rfl)) ?_
    refine wo_nil ?_
    refine nx_norm ?_
    refine w_ret ?_
    exact qf ret_ok (rt rfl rn) hr

/- (dibber/bed.ground).options -/

def g53 (M : Means) (ro : List ABlk) (v0 : AVal) (v1 : AVal) (m0 : Mm) : Option (AVal × Heap × Nat × Nat) :=
  bindP (stepM ro m0 (.bx 59 4 (.c v1))) fun v3 m_1 =>
  bindO (evP .e (.faddr 0 (.c v3))) fun v7 =>
  bindO (ldM ro m_1 true 1 v7) fun v8 =>
  asI .i64 v8 fun x8 =>
  forceI (wr .i64 (3 - x8)) fun x9 =>
  bindO (evP .e (.faddr 2 (.c v3))) fun v10 =>
  bindO (ldM ro m_1 true 1 v10) fun v11 =>
  asI .i64 v11 fun x11 =>
  forceI (wr .i64 (x9 - x11)) fun x12 =>
  bindO (evP .e (.nilck (.c v0))) fun v14 =>
  bindO (evP .e (.faddr 0 (.c v14))) fun v15 =>
  bindO (ldM ro m_1 true 1 v15) fun v16 =>
  asI .i64 v16 fun x16 =>
  chk (!ltI x16 (.ofNat 0)) <|
  forceI (shlV .u8 1 x16) fun x17 =>
  forceI (wr .u8 (x17 - 1)) fun x18 =>
  bindO (evP .e (.faddr 0 (.c v3))) fun v21 =>
  bindO (ldA ro m_1.h true 1 v21) fun v22 =>
  asI .i64 v22 fun x22 =>
  bindO (evP .e (.faddr 1 (.c v3))) fun v24 =>
  bindO (ldA ro m_1.h true 1 v24) fun v25 =>
  asI .i64 v25 fun x25 =>
  bindO (evP .e (.nilck (.c v0))) fun v26 =>
  bindO (evP .e (.faddr 50 (.c v26))) fun v27 =>
  bindO (evP .e (.ixA 3 21 (.c v27) (.c (.i .i64 x22)))) fun v28 =>
  bindO (evP .e (.ixA 3 7 (.c v28) (.c (.i .i64 x12)))) fun v29 =>
  bindO (evP .e (.ixA 7 1 (.c v29) (.c (.i .i64 x25)))) fun v30 =>
  bindO (ldA ro m_1.h true 1 v30) fun v31 =>
  asI .u8 v31 fun x31 =>
  bindO (evP .e (.faddr 2 (.c v3))) fun v33 =>
  bindO (ldA ro m_1.h true 1 v33) fun v34 =>
  asI .i64 v34 fun x34 =>
  bindO (evP .e (.faddr 3 (.c v3))) fun v36 =>
  bindO (ldA ro m_1.h true 1 v36) fun v37 =>
  asI .i64 v37 fun x37 =>
  bindO (evP .e (.nilck (.c v0))) fun v38 =>
  bindO (evP .e (.faddr 50 (.c v38))) fun v39 =>
  bindO (evP .e (.ixA 3 21 (.c v39) (.c (.i .i64 x34)))) fun v40 =>
  bindO (evP .e (.ixA 3 7 (.c v40) (.c (.i .i64 x12)))) fun v41 =>
  bindO (evP .e (.ixA 7 1 (.c v41) (.c (.i .i64 x37)))) fun v42 =>
  bindO (ldA ro m_1.h true 1 v42) fun v43 =>
  asI .u8 v43 fun x43 =>
  forceI (bitV .or .u8 x31 x43) fun x44 =>
  forceI (bitV .andNot .u8 x18 x44) fun x45 =>
  finM m0.h.length (tupA [(.i .u8 x45)]) m_1

theorem g53_ok {ro : List ABlk} {O : Caller} {M : Means} (hM : M.Ok ⟨F, O⟩ ro) {v0 v1 h r} (ho : O 53 [v0, v1] h = none) (hr : g53 M ro v0 v1 ⟨h, h.length, h.length⟩ = some r) : callX ⟨F, O⟩ ro 53 [v0, v1] h = some r := by
  refine callX_of (F := ⟨F, O⟩) (fn := fn53) (g := g53 M ro v0 v1) ho rfl rfl hr ?_
  clear ho
  clear hr
  intro m0 t0 ht hr
  have g0 : t0.get 0 = v0 := ht 0
  have g1 : t0.get 1 = v1 := ht 1
  clear ht
  unfold g53 at hr
  refine w_seq ?_
  refine w_ops ?_
  have hq := bindP_inv hr
  clear hr
  obtain ⟨v3, m_1, e3, hr⟩ := hq
  refine wo_step (v := v3) (s_bx g1 e3) ?_
  refine wo_step (v := (.i .u8 0)) (s_pure (p_mv rfl)) ?_
  refine wo_nil ?_
  refine nx_norm ?_
  refine w_seq ?_
  refine w_ops ?_
  have hq := bindO_inv hr
  clear hr
  obtain ⟨v7, e7, hr⟩ := hq
  refine wo_step (v := v7) (s_pure (o_faddr rfl e7)) ?_
  have hq := bindO_inv hr
  clear hr
  obtain ⟨v8, e8, hr⟩ := hq
  have hq := asI_inv hr
  clear hr
  obtain ⟨x8, rfl, hr⟩ := hq
  refine wo_step (v := (.i .i64 x8)) (s_ld rfl e8) ?_
  have hq := forceI_inv hr
  clear hr
  obtain ⟨x9, e9, hr⟩ := hq
  refine wo_step (v := (.i .i64 x9)) (s_pure (p_bin rfl rfl (b_sub.trans (ci e9)))) ?_
  have hq := bindO_inv hr
  clear hr
  obtain ⟨v10, e10, hr⟩ := hq
  refine wo_step (v := v10) (s_pure (o_faddr rfl e10)) ?_
  have hq := bindO_inv hr
  clear hr
  obtain ⟨v11, e11, hr⟩ := hq
  have hq := asI_inv hr
  clear hr
  obtain ⟨x11, rfl, hr⟩ := hq
  refine wo_step (v := (.i .i64 x11)) (s_ld rfl e11) ?_
  have hq := forceI_inv hr
  clear hr
  obtain ⟨x12, e12, hr⟩ := hq
  refine wo_step (v := (.i .i64 x12)) (s_pure (p_bin rfl rfl (b_sub.trans (ci e12)))) ?_
  refine wo_step (v := (.i .i64 x12)) (s_pure (p_mv rfl)) ?_
  refine wo_nil ?_
  refine nx_norm ?_
  refine w_seq ?_
  refine w_ops ?_
  refine wo_step (v := v0) (s_pure (p_mv g0)) ?_
  have hq := bindO_inv hr
  clear hr
  obtain ⟨v14, e14, hr⟩ := hq
  refine wo_step (v := v14) (s_pure (o_nilck rfl e14)) ?_
  have hq := bindO_inv hr
  clear hr
  obtain ⟨v15, e15, hr⟩ := hq
  refine wo_step (v := v15) (s_pure (o_faddr rfl e15)) ?_
  have hq := bindO_inv hr
  clear hr
  obtain ⟨v16, e16, hr⟩ := hq
  have hq := asI_inv hr
  clear hr
  obtain ⟨x16, rfl, hr⟩ := hq
  refine wo_step (v := (.i .i64 x16)) (s_ld rfl e16) ?_
  have hq := chk_inv hr
  clear hr
  obtain ⟨hc17, hr⟩ := hq
  have hq := forceI_inv hr
  clear hr
  obtain ⟨x17, e17, hr⟩ := hq
  refine wo_step (v := (.i .u8 x17)) (s_pure (p_bin rfl rfl ((b_shl hc17).trans (ci e17)))) ?_
  have hq := forceI_inv hr
  clear hr
  obtain ⟨x18, e18, hr⟩ := hq
  refine wo_step (v := (.i .u8 x18)) (s_pure (p_bin rfl rfl (b_sub.trans (ci e18)))) ?_
  refine wo_step (v := (.i .u8 x18)) (s_pure (p_mv rfl)) ?_
  refine wo_nil ?_
  refine nx_norm ?_
  refine w_seq ?_
  refine w_any ?_
  refine wa_step (v := (.i .u8 x18)) (a_pure (p_mv rfl)) ?_
  refine wa_step (v := v0) (a_pure (p_mv g0)) ?_
  have hq := bindO_inv hr
  clear hr
  obtain ⟨v21, e21, hr⟩ := hq
  refine wa_step (v := v21) (a_pure (o_faddr rfl e21)) ?_
  have hq := bindO_inv hr
  clear hr
  obtain ⟨v22, e22, hr⟩ := hq
  have hq := asI_inv hr
  clear hr
  obtain ⟨x22, rfl, hr⟩ := hq
  refine wa_step (v := (.i .i64 x22)) (a_ld rfl e22) ?_
  refine wa_step (v := (.i .i64 x12)) (a_pure (p_mv rfl)) ?_
  have hq := bindO_inv hr
  clear hr
  obtain ⟨v24, e24, hr⟩ := hq
  refine wa_step (v := v24) (a_pure (o_faddr rfl e24)) ?_
  have hq := bindO_inv hr
  clear hr
  obtain ⟨v25, e25, hr⟩ := hq
  have hq := asI_inv hr
  clear hr
  obtain ⟨x25, rfl, hr⟩ := hq
  refine wa_step (v := (.i .i64 x25)) (a_ld rfl e25) ?_
  have hq := bindO_inv hr
  clear hr
  obtain ⟨v26, e26, hr⟩ := hq
  refine wa_step (v := v26) (a_pure (o_nilck rfl e26)) ?_
  have hq := bindO_inv hr
  clear hr
  obtain ⟨v27, e27, hr⟩ := hq
  refine wa_step (v := v27) (a_pure (o_faddr rfl e27)) ?_
  have hq := bindO_inv hr
  clear hr
  obtain ⟨v28, e28, hr⟩ := hq
  refine wa_step (v := v28) (a_pure (o_ixA rfl rfl e28)) ?_
  have hq := bindO_inv hr
  clear hr
  obtain ⟨v29, e29, hr⟩ := hq
  refine wa_step (v := v29) (a_pure (o_ixA rfl rfl e29)) ?_
  have hq := bindO_inv hr
  clear hr
  obtain ⟨v30, e30, hr⟩ := hq
  refine wa_step (v := v30) (a_pure (o_ixA rfl rfl e30)) ?_
  have hq := bindO_inv hr
  clear hr
  obtain ⟨v31, e31, hr⟩ := hq
  have hq := asI_inv hr
  clear hr
  obtain ⟨x31, rfl, hr⟩ := hq
  refine wa_step (v := (.i .u8 x31)) (a_ld rfl e31) ?_
  refine wa_step (v := v0) (a_pure (p_mv g0)) ?_
  have hq := bindO_inv hr
  clear hr
  obtain ⟨v33, e33, hr⟩ := hq
  refine wa_step (v := v33) (a_pure (o_faddr rfl e33)) ?_
  have hq := bindO_inv hr
  clear hr
  obtain ⟨v34, e34, hr⟩ := hq
  have hq := asI_inv hr
  clear hr
  obtain ⟨x34, rfl, hr⟩ := hq
  refine wa_step (v := (.i .i64 x34)) (a_ld rfl e34) ?_
  refine wa_step (v := (.i .i64 x12)) (a_pure (p_mv rfl)) ?_
  have hq := bindO_inv hr
  clear hr
  obtain ⟨v36, e36, hr⟩ := hq
  refine wa_step (v := v36) (a_pure (o_faddr rfl e36)) ?_
  have hq := bindO_inv hr
  clear hr
  obtain ⟨v37, e37, hr⟩ := hq
  have hq := asI_inv hr
  clear hr
  obtain ⟨x37, rfl, hr⟩ := hq
  refine wa_step (v := (.i .i64 x37)) (a_ld rfl e37) ?_
  have hq := bindO_inv hr
  clear hr
  obtain ⟨v38, e38, hr⟩ := hq
  refine wa_step (v := v38) (a_pure (o_nilck rfl e38)) ?_
  have hq := bindO_inv hr
  clear hr
  obtain ⟨v39, e39, hr⟩ := hq
  refine wa_step (v := v39) (a_pure (o_faddr rfl e39)) ?_
  have hq := bindO_inv hr
  clear hr
  obtain ⟨v40, e40, hr⟩ := hq
  refine wa_step (v := v40) (a_pure (o_ixA rfl rfl e40)) ?_
  have hq := bindO_inv hr
  clear hr
  obtain ⟨v41, e41, hr⟩ := hq
  refine wa_step (v := v41) (a_pure (o_ixA rfl rfl e41)) ?_
  have hq := bindO_inv hr
  clear hr
  obtain ⟨v42, e42, hr⟩ := hq
  refine wa_step (v := v42) (a_pure (o_ixA rfl rfl e42)) ?_
  have hq := bindO_inv hr
  clear hr
  obtain ⟨v43, e43, hr⟩ := hq
  have hq := asI_inv hr
  clear hr
  obtain ⟨x43, rfl, hr⟩ := hq
  refine wa_step (v := (.i .u8 x43)) (a_ld rfl e43) ?_
  have hq := forceI_inv hr
  clear hr
  obtain ⟨x44, e44, hr⟩ := hq
  refine wa_step (v := (.i .u8 x44)) (a_pure (p_bin rfl rfl (b_or.trans (ci e44)))) ?_
  have hq := forceI_inv hr
  clear hr
  obtain ⟨x45, e45, hr⟩ := hq
  refine wa_step (v := (.i .u8 x45)) (a_pure (p_bin rfl rfl (b_andNot.trans (ci e45)))) ?_
  refine wa_step (v := (.i .u8 x45)) (a_pure (p_mv rfl)) ?_
  refine wa_nil ?_
  refine ⟨m_1, rfl, ?_⟩
  refine nx_norm ?_
  refine w_ret ?_
  exact qf ret_ok (rt rfl rn) hr

/- (dibber/bed.ground).sow -/
abbrev g54_I0 (v0 : AVal) (v3 : AVal) (s : Int × Mm) (m1 : Mm) (t1 : Tr) : Prop :=
  match s with
  | (x17, m_3) => m_3 = m1 ∧ t1.get 17 = (.i .i64 x17) ∧ t1.get 0 = v0 ∧ t1.get 3 = v3
abbrev g54_J0 (v0 : AVal) (v3 : AVal) (o : Mm) (e : AExit) (m1 : Mm) (t1 : Tr) : Prop :=
  match o with
  | mo => e = (.exit 0) ∧ mo = m1
abbrev g54_I1 (v0 : AVal) (v3 : AVal) (x17 : Int) (s : Int × Mm) (m1 : Mm) (t1 : Tr) : Prop :=
  match s with
  | (x20, m_4) => m_4 = m1 ∧ t1.get 20 = (.i .i64 x20) ∧ t1.get 0 = v0 ∧ t1.get 3 = v3 ∧ t1.get 4 = (.i .i64 x17) ∧ t1.get 17 = (.i .i64 x17)
abbrev g54_J1 (v0 : AVal) (v3 : AVal) (x17 : Int) (o : Mm) (e : AExit) (m1 : Mm) (t1 : Tr) : Prop :=
  match o with
  | mo => e = (.exit 2) ∧ mo = m1 ∧ t1.get 0 = v0 ∧ t1.get 3 = v3 ∧ t1.get 17 = (.i .i64 x17)
def g54_b1 (M : Means) (ro : List ABlk) (v0 : AVal) (v3 : AVal) (x17 : Int) (x20 : Int) (m_4 : Mm) : Option ((Int × Mm) ⊕ (Mm)) :=
  forceB (ltI x20 3) fun c21 =>
  cond c21 (
    bindO (evP .e (.ixA 3 1 (.c v3) (.c (.i .i64 x17)))) fun v27 =>
    bindO (ldA ro m_4.h true 1 v27) fun v28 =>
    asI .i64 v28 fun x28 =>
    bindO (evP .e (.nilck (.c v0))) fun v29 =>
    bindO (evP .e (.faddr 50 (.c v29))) fun v30 =>
    bindO (evP .e (.ixA 3 21 (.c v30) (.c (.i .i64 x17)))) fun v31 =>
    bindO (evP .e (.ixA 3 7 (.c v31) (.c (.i .i64 x20)))) fun v32 =>
    bindO (evP .e (.ixA 7 1 (.c v32) (.c (.i .i64 x28)))) fun v33 =>
    bindO (ldA ro m_4.h true 1 v33) fun v34 =>
    asI .u8 v34 fun x34 =>
    bindO (evP .e (.ixA 3 1 (.c v3) (.c (.i .i64 x20)))) fun v36 =>
    bindO (ldA ro m_4.h true 1 v36) fun v37 =>
    asI .i64 v37 fun x37 =>
    chk (!ltI x37 (.ofNat 0)) <|
    forceI (shlV .u8 1 x37) fun x38 =>
    forceI (bitV .or .u8 x34 x38) fun x39 =>
    bindO (evP .e (.nilck (.c v0))) fun v40 =>
    bindO (evP .e (.faddr 50 (.c v40))) fun v41 =>
    bindO (evP .e (.ixA 3 21 (.c v41) (.c (.i .i64 x17)))) fun v42 =>
    bindO (evP .e (.ixA 3 7 (.c v42) (.c (.i .i64 x20)))) fun v43 =>
    bindO (evP .e (.ixA 7 1 (.c v43) (.c (.i .i64 x28)))) fun v44 =>
    asP v44 fun qs_1 =>
    bindO (writesM ro [] [(qs_1, AVal.cells (.i .u8 x39))] ⟨m_4.h, m_4.lw, m_4.lp⟩) fun m_5 =>
    forceI (wr .i64 (x20 + 1)) fun x45 =>
    some (.inl (x45, m_5))) (
    some (.inr m_4))
def g54_b0 (M : Means) (ro : List ABlk) (v0 : AVal) (v3 : AVal) (x17 : Int) (m_3 : Mm) : Option ((Int × Mm) ⊕ (Mm)) :=
  forceB (ltI x17 3) fun c18 =>
  cond c18 (
    bindO (M.loop (S := Int × Mm) (R := Mm) (fun s => g54_b1 M ro v0 v3 x17 s.1 s.2) (0, m_3)) fun m_6 =>
    forceI (wr .i64 (x17 + 1)) fun x46 =>
    some (.inl (x46, m_6))) (
    some (.inr m_3))
def g54 (M : Means) (ro : List ABlk) (v0 : AVal) (v1 : AVal) (m0 : Mm) : Option (AVal × Heap × Nat × Nat) :=
  bindP (stepM ro m0 (.bx 62 3 (.c v1))) fun v3 m_1 =>
  bindO (evP .e (.ixA 3 1 (.c v3) (.c (.i .i64 0)))) fun v7 =>
  bindO (ldA ro m_1.h true 1 v7) fun v8 =>
  asI .i64 v8 fun x8 =>
  bindO (evP .e (.ixA 3 1 (.c v3) (.c (.i .i64 1)))) fun v9 =>
  bindO (ldA ro m_1.h true 1 v9) fun v10 =>
  asI .i64 v10 fun x10 =>
  bindO (evP .e (.ixA 3 1 (.c v3) (.c (.i .i64 2)))) fun v11 =>
  bindO (ldA ro m_1.h true 1 v11) fun v12 =>
  asI .i64 v12 fun x12 =>
  bindO (evP .e (.nilck (.c v0))) fun v13 =>
  bindO (evP .e (.faddr 1 (.c v13))) fun v14 =>
  bindO (evP .e (.ixA 7 7 (.c v14) (.c (.i .i64 x8)))) fun v15 =>
  bindO (evP .e (.ixA 7 1 (.c v15) (.c (.i .i64 x10)))) fun v16 =>
  asP v16 fun qs =>
  bindO (writesM ro [] [(qs, AVal.cells (.i .i64 x12))] ⟨m_1.h, m_1.lw, m_1.lp⟩) fun m_2 =>
  bindO (M.loop (S := Int × Mm) (R := Mm) (fun s => g54_b0 M ro v0 v3 s.1 s.2) (0, m_2)) fun m_7 =>
  finM m0.h.length (tupA []) m_7

theorem g54_ok {ro : List ABlk} {O : Caller} {M : Means} (hM : M.Ok ⟨F, O⟩ ro) {v0 v1 h r} (ho : O 54 [v0, v1] h = none) (hr : g54 M ro v0 v1 ⟨h, h.length, h.length⟩ = some r) : callX ⟨F, O⟩ ro 54 [v0, v1] h = some r := by
  refine callX_of (F := ⟨F, O⟩) (fn := fn54) (g := g54 M ro v0 v1) ho rfl rfl hr ?_
  clear ho
  clear hr
  intro m0 t0 ht hr
  have g0 : t0.get 0 = v0 := ht 0
  have g1 : t0.get 1 = v1 := ht 1
  clear ht
  unfold g54 at hr
  refine w_seq ?_
  refine w_ops ?_
  have hq := bindP_inv hr
  clear hr
  obtain ⟨v3, m_1, e3, hr⟩ := hq
  refine wo_step (v := v3) (s_bx g1 e3) ?_
  refine wo_nil ?_
  refine nx_norm ?_
  refine w_seq ?_
  refine w_any ?_
  refine wa_step (v := v0) (a_pure (p_mv g0)) ?_
  have hq := bindO_inv hr
  clear hr
  obtain ⟨v7, e7, hr⟩ := hq
  refine wa_step (v := v7) (a_pure (o_ixA rfl rfl e7)) ?_
  have hq := bindO_inv hr
  clear hr
  obtain ⟨v8, e8, hr⟩ := hq
  have hq := asI_inv hr
  clear hr
  obtain ⟨x8, rfl, hr⟩ := hq
  refine wa_step (v := (.i .i64 x8)) (a_ld rfl e8) ?_
  have hq := bindO_inv hr
  clear hr
  obtain ⟨v9, e9, hr⟩ := hq
  refine wa_step (v := v9) (a_pure (o_ixA rfl rfl e9)) ?_
  have hq := bindO_inv hr
  clear hr
  obtain ⟨v10, e10, hr⟩ := hq
  have hq := asI_inv hr
  clear hr
  obtain ⟨x10, rfl, hr⟩ := hq
  refine wa_step (v := (.i .i64 x10)) (a_ld rfl e10) ?_
  have hq := bindO_inv hr
  clear hr
  obtain ⟨v11, e11, hr⟩ := hq
  refine wa_step (v := v11) (a_pure (o_ixA rfl rfl e11)) ?_
  have hq := bindO_inv hr
  clear hr
  obtain ⟨v12, e12, hr⟩ := hq
  have hq := asI_inv hr
  clear hr
  obtain ⟨x12, rfl, hr⟩ := hq
  refine wa_step (v := (.i .i64 x12)) (a_ld rfl e12) ?_
  have hq := bindO_inv hr
  clear hr
  obtain ⟨v13, e13, hr⟩ := hq
  refine wa_step (v := v13) (a_pure (o_nilck rfl e13)) ?_
  have hq := bindO_inv hr
  clear hr
  obtain ⟨v14, e14, hr⟩ := hq
  refine wa_step (v := v14) (a_pure (o_faddr rfl e14)) ?_
  have hq := bindO_inv hr
  clear hr
  obtain ⟨v15, e15, hr⟩ := hq
  refine wa_step (v := v15) (a_pure (o_ixA rfl rfl e15)) ?_
  have hq := bindO_inv hr
  clear hr
  obtain ⟨v16, e16, hr⟩ := hq
  refine wa_step (v := v16) (a_pure (o_ixA rfl rfl e16)) ?_
  have hq := asP_inv hr
  clear hr
  obtain ⟨qs, eqs, hr⟩ := hq
  refine wa_stepN (a_st (Eq.trans (b := v16) rfl eqs) rfl rfl) ?_
  have hq := bindO_inv hr
  clear hr
  obtain ⟨m_2, ew, hr⟩ := hq
  refine wa_nil ?_
  refine ⟨m_2, ew, ?_⟩
  refine nx_norm ?_
  refine w_seq ?_
  refine w_ops ?_
  refine wo_step (v := (.i .i64 0)) (s_pure (p_mv rfl)) ?_
  refine wo_nil ?_
  refine nx_norm ?_
  refine w_block ?_
  have hq := bindO_inv hr
  clear hr
  obtain ⟨o_1, hl_1, hr⟩ := hq
  obtain ⟨n_1, hl_1⟩ := hM.loop _ _ _ hl_1
  refine jp_mono (w_loop _ (g54_I0 v0 v3) (g54_J0 v0 v3) ?_ n_1 _ _ _ _ hl_1 ⟨rfl, gl rfl, gl g0, gl rfl⟩) ?_
  · clear hr hl_1
    intro s mm_3 t_1 o hi hr
    obtain ⟨x17, m_3⟩ := s
    obtain ⟨rfl, g17, g0, g3⟩ := hi
    unfold g54_b0 at hr
    refine w_seq ?_
    refine w_ops ?_
    have hq := forceB_inv hr
    clear hr
    obtain ⟨c18, e18, hr⟩ := hq
    refine wo_step (v := (.b c18)) (s_pure (p_bin g17 rfl (b_lss.trans (cb e18)))) ?_
    refine wo_nil ?_
    refine nx_norm ?_
    refine w_seq ?_
    have hq := cond_inv hr
    clear hr
    rcases hq with ⟨rfl, hr⟩ | ⟨rfl, hr⟩
    · refine w_condT rfl ?_
      refine w_skip ?_
      refine nx_norm ?_
      refine w_seq ?_
      refine w_block ?_
      refine w_seq ?_
      refine w_ops ?_
      refine wo_step (v := (.i .i64 x17)) (s_pure (p_mv g17)) ?_
      refine wo_step (v := (.i .i64 x17)) (s_pure (p_mv rfl)) ?_
      refine wo_nil ?_
      refine nx_norm ?_
      refine w_seq ?_
      refine w_ops ?_
      refine wo_step (v := (.i .i64 0)) (s_pure (p_mv rfl)) ?_
      refine wo_nil ?_
      refine nx_norm ?_
      refine w_block ?_
      have hq := bindO_inv hr
      clear hr
      obtain ⟨o, hl, hr⟩ := hq
      obtain ⟨n, hl⟩ := hM.loop _ _ _ hl
      refine jp_mono (w_loop _ (g54_I1 v0 v3 x17) (g54_J1 v0 v3 x17) ?_ n _ _ _ _ hl ⟨rfl, gl rfl, gl g0, gl g3, gl rfl, gl g17⟩) ?_
      · clear hr hl
        intro s mm_1 t_2 o hi hr
        obtain ⟨x20, m_4⟩ := s
        obtain ⟨rfl, g20, g0, g3, g4, g17⟩ := hi
        unfold g54_b1 at hr
        refine w_seq ?_
        refine w_ops ?_
        have hq := forceB_inv hr
        clear hr
        obtain ⟨c21, e21, hr⟩ := hq
        refine wo_step (v := (.b c21)) (s_pure (p_bin g20 rfl (b_lss.trans (cb e21)))) ?_
        refine wo_nil ?_
        refine nx_norm ?_
        refine w_seq ?_
        have hq := cond_inv hr
        clear hr
        rcases hq with ⟨rfl, hr⟩ | ⟨rfl, hr⟩
        · refine w_condT rfl ?_
          refine w_skip ?_
          refine nx_norm ?_
          refine w_seq ?_
          refine w_block ?_
          refine w_seq ?_
          refine w_ops ?_
          refine wo_step (v := (.i .i64 x20)) (s_pure (p_mv g20)) ?_
          refine wo_step (v := (.i .i64 x20)) (s_pure (p_mv rfl)) ?_
          refine wo_nil ?_
          refine nx_norm ?_
          refine w_any ?_
          refine wa_step (v := v0) (a_pure (p_mv g0)) ?_
          refine wa_step (v := (.i .i64 x17)) (a_pure (p_mv g4)) ?_
          refine wa_step (v := (.i .i64 x20)) (a_pure (p_mv rfl)) ?_
          refine wa_step (v := (.i .i64 x17)) (a_pure (p_mv g4)) ?_
          have hq := bindO_inv hr
          clear hr
          obtain ⟨v27, e27, hr⟩ := hq
          refine wa_step (v := v27) (a_pure (o_ixA g3 rfl e27)) ?_
          have hq := bindO_inv hr
          clear hr
          obtain ⟨v28, e28, hr⟩ := hq
          have hq := asI_inv hr
          clear hr
          obtain ⟨x28, rfl, hr⟩ := hq
          refine wa_step (v := (.i .i64 x28)) (a_ld rfl e28) ?_
          have hq := bindO_inv hr
          clear hr
          obtain ⟨v29, e29, hr⟩ := hq
          refine wa_step (v := v29) (a_pure (o_nilck rfl e29)) ?_
          have hq := bindO_inv hr
          clear hr
          obtain ⟨v30, e30, hr⟩ := hq
          refine wa_step (v := v30) (a_pure (o_faddr rfl e30)) ?_
          have hq := bindO_inv hr
          clear hr
          obtain ⟨v31, e31, hr⟩ := hq
          refine wa_step (v := v31) (a_pure (o_ixA rfl rfl e31)) ?_
          have hq := bindO_inv hr
          clear hr
          obtain ⟨v32, e32, hr⟩ := hq
          refine wa_step (v := v32) (a_pure (o_ixA rfl rfl e32)) ?_
          have hq := bindO_inv hr
          clear hr
          obtain ⟨v33, e33, hr⟩ := hq
          refine wa_step (v := v33) (a_pure (o_ixA rfl rfl e33)) ?_
          have hq := bindO_inv hr
          clear hr
          obtain ⟨v34, e34, hr⟩ := hq
          have hq := asI_inv hr
          clear hr
          obtain ⟨x34, rfl, hr⟩ := hq
          refine wa_step (v := (.i .u8 x34)) (a_ld rfl e34) ?_
          refine wa_step (v := (.i .i64 x20)) (a_pure (p_mv rfl)) ?_
          have hq := bindO_inv hr
          clear hr
          obtain ⟨v36, e36, hr⟩ := hq
          refine wa_step (v := v36) (a_pure (o_ixA g3 rfl e36)) ?_
          have hq := bindO_inv hr
          clear hr
          obtain ⟨v37, e37, hr⟩ := hq
          have hq := asI_inv hr
          clear hr
          obtain ⟨x37, rfl, hr⟩ := hq
          refine wa_step (v := (.i .i64 x37)) (a_ld rfl e37) ?_
          have hq := chk_inv hr
          clear hr
          obtain ⟨hc38, hr⟩ := hq
          have hq := forceI_inv hr
          clear hr
          obtain ⟨x38, e38, hr⟩ := hq
          refine wa_step (v := (.i .u8 x38)) (a_pure (p_bin rfl rfl ((b_shl hc38).trans (ci e38)))) ?_
          have hq := forceI_inv hr
          clear hr
          obtain ⟨x39, e39, hr⟩ := hq
          refine wa_step (v := (.i .u8 x39)) (a_pure (p_bin rfl rfl (b_or.trans (ci e39)))) ?_
          have hq := bindO_inv hr
          clear hr
          obtain ⟨v40, e40, hr⟩ := hq
          refine wa_step (v := v40) (a_pure (o_nilck rfl e40)) ?_
          have hq := bindO_inv hr
          clear hr
          obtain ⟨v41, e41, hr⟩ := hq
          refine wa_step (v := v41) (a_pure (o_faddr rfl e41)) ?_
          have hq := bindO_inv hr
          clear hr
          obtain ⟨v42, e42, hr⟩ := hq
          refine wa_step (v := v42) (a_pure (o_ixA rfl rfl e42)) ?_
          have hq := bindO_inv hr
          clear hr
          obtain ⟨v43, e43, hr⟩ := hq
          refine wa_step (v := v43) (a_pure (o_ixA rfl rfl e43)) ?_
          have hq := bindO_inv hr
          clear hr
          obtain ⟨v44, e44, hr⟩ := hq
          refine wa_step (v := v44) (a_pure (o_ixA rfl rfl e44)) ?_
          have hq := asP_inv hr
          clear hr
          obtain ⟨qs_1, eqs_1, hr⟩ := hq
          refine wa_stepN (a_st (Eq.trans (b := v44) rfl eqs_1) rfl rfl) ?_
          have hq := bindO_inv hr
          clear hr
          obtain ⟨m_5, ew_1, hr⟩ := hq
          refine wa_nil ?_
          refine ⟨m_5, ew_1, ?_⟩
          refine bk_norm ?_
          refine nx_norm ?_
          refine w_ops ?_
          have hq := forceI_inv hr
          clear hr
          obtain ⟨x45, e45, hr⟩ := hq
          refine wo_step (v := (.i .i64 x45)) (s_pure (p_bin g20 rfl (b_add.trans (ci e45)))) ?_
          refine wo_step (v := (.i .i64 x45)) (s_pure (p_mv rfl)) ?_
          refine wo_nil ?_
          cases hr
          exact ⟨_, _, rfl, rfl, rfl, gl rfl, gl g0, gl g3, gl g4, gl g17⟩
        · refine w_condF rfl ?_
          refine w_exit ?_
          refine nx_exit ?_
          cases hr
          exact ⟨_, _, rfl, ne_norm_exit, rfl, rfl, gl g0, gl g3, gl g17⟩
      · obtain ⟨m_6, ho⟩ : ∃ z, z = o := ⟨_, rfl⟩
        subst ho
        rintro _ mm t_3 ⟨rfl, rfl, g0, g3, g17⟩
        refine bk_hit ?_
        refine bk_norm ?_
        refine nx_norm ?_
        refine w_ops ?_
        have hq := forceI_inv hr
        clear hr
        obtain ⟨x46, e46, hr⟩ := hq
        refine wo_step (v := (.i .i64 x46)) (s_pure (p_bin g17 rfl (b_add.trans (ci e46)))) ?_
        refine wo_step (v := (.i .i64 x46)) (s_pure (p_mv rfl)) ?_
        refine wo_nil ?_
        cases hr
        exact ⟨_, _, rfl, rfl, rfl, gl rfl, gl g0, gl g3⟩
    · refine w_condF rfl ?_
      refine w_exit ?_
      refine nx_exit ?_
      cases hr
      exact ⟨_, _, rfl, ne_norm_exit, rfl, rfl⟩
  · obtain ⟨m_7, ho⟩ : ∃ z, z = o_1 := ⟨_, rfl⟩
    subst ho
    rintro _ mm_2 t_4 ⟨rfl, rfl⟩
    refine bk_hit ?_
    exact qf norm_ok rn hr

/- dibber/dibberref01.Shaped -/
abbrev g55_J0 (v0 : AVal) (x7 : Int) (m0 : Mm) (o : Bool) (m1 : Mm) (t1 : Tr) : Prop :=
  match o with
  | c13 => m0 = m1 ∧ t1.get 13 = (.b c13) ∧ t1.get 0 = v0 ∧ t1.get 3 = (.i .i64 x7)
abbrev g55_I1 (v0 : AVal) (x7 : Int) (m0 : Mm) (s : Int) (m1 : Mm) (t1 : Tr) : Prop :=
  match s with
  | x4 => m0 = m1 ∧ t1.get 4 = (.i .i64 x4) ∧ t1.get 0 = v0 ∧ t1.get 3 = (.i .i64 x7)
abbrev g55_J1 (v0 : AVal) (x7 : Int) (m0 : Mm) (o : (Unit ⊕ Bool)) (e : AExit) (m1 : Mm) (t1 : Tr) : Prop :=
  match o with
  | (.inl _) => e = (.exit 0) ∧ m0 = m1
  | (.inr y2) => e = .ret ∧ m0 = m1 ∧ t1.get 2 = (.b y2)
abbrev g55_I2 (v0 : AVal) (x7 : Int) (x4 : Int) (m0 : Mm) (s : Int) (m1 : Mm) (t1 : Tr) : Prop :=
  match s with
  | x5 => m0 = m1 ∧ t1.get 5 = (.i .i64 x5) ∧ t1.get 0 = v0 ∧ t1.get 3 = (.i .i64 x7) ∧ t1.get 4 = (.i .i64 x4)
abbrev g55_J2 (v0 : AVal) (x7 : Int) (x4 : Int) (m0 : Mm) (o : (Unit ⊕ Bool)) (e : AExit) (m1 : Mm) (t1 : Tr) : Prop :=
  match o with
  | (.inl _) => e = (.exit 2) ∧ m0 = m1 ∧ t1.get 0 = v0 ∧ t1.get 3 = (.i .i64 x7) ∧ t1.get 4 = (.i .i64 x4)
  | (.inr y2) => e = .ret ∧ m0 = m1 ∧ t1.get 2 = (.b y2)
abbrev g55_J3 (v0 : AVal) (x7 : Int) (x4 : Int) (x5 : Int) (m0 : Mm) (o : Bool) (m1 : Mm) (t1 : Tr) : Prop :=
  match o with
  | c49 => m0 = m1 ∧ t1.get 49 = (.b c49) ∧ t1.get 0 = v0 ∧ t1.get 3 = (.i .i64 x7) ∧ t1.get 4 = (.i .i64 x4) ∧ t1.get 5 = (.i .i64 x5)
def g55_b2 (M : Means) (ro : List ABlk) (v0 : AVal) (x7 : Int) (x4 : Int) (m0 : Mm) (x5 : Int) : Option ((Int) ⊕ ((Unit ⊕ Bool))) :=
  forceB (ltI x5 x7) fun c28 =>
  cond c28 (
    bindO (evP .e (.ixS 1 (.c v0) (.c (.i .i64 x4)))) fun v33 =>
    bindO (ldM ro m0 true 1 v33) fun v34 =>
    bindO (evP .e (.ixS 1 (.c v34) (.c (.i .i64 x5)))) fun v36 =>
    bindO (ldM ro m0 true 1 v36) fun v37 =>
    asI .i64 v37 fun x37 =>
    forceB (ltI x37 (-1)) fun c38 =>
    bindO (cond c38 (
      some true) (
      bindO (evP .e (.ixS 1 (.c v0) (.c (.i .i64 x4)))) fun v42 =>
      bindO (ldM ro m0 true 1 v42) fun v43 =>
      bindO (evP .e (.ixS 1 (.c v43) (.c (.i .i64 x5)))) fun v45 =>
      bindO (ldM ro m0 true 1 v45) fun v46 =>
      asI .i64 v46 fun x46 =>
      forceB (!ltI x46 x7) fun c48 =>
      some c48)) fun c49 =>
    cond c49 (
      some (.inr (.inr false))) (
      forceI (wr .i64 (x5 + 1)) fun x30 =>
      some (.inl x30))) (
    some (.inr (.inl ())))
def g55_b1 (M : Means) (ro : List ABlk) (v0 : AVal) (x7 : Int) (m0 : Mm) (x4 : Int) : Option ((Int) ⊕ ((Unit ⊕ Bool))) :=
  forceB (ltI x4 x7) fun c16 =>
  cond c16 (
    bindO (evP .e (.ixS 1 (.c v0) (.c (.i .i64 x4)))) fun v21 =>
    bindO (ldM ro m0 true 1 v21) fun v22 =>
    bindO (evP .e (.len false (.c v22))) fun v23 =>
    asI .i64 v23 fun x23 =>
    forceB (!eqI x23 x7) fun c25 =>
    cond c25 (
      some (.inr (.inr false))) (
      bindO (M.loop (S := Int) (R := (Unit ⊕ Bool)) (fun s => g55_b2 M ro v0 x7 x4 m0 s) 0) fun o_2 => match o_2 with
      | (.inl _) =>
        forceI (wr .i64 (x4 + 1)) fun x18 =>
        some (.inl x18)
      | (.inr c2) =>
        some (.inr (.inr c2)))) (
    some (.inr (.inl ())))
def g55 (M : Means) (ro : List ABlk) (v0 : AVal) (m0 : Mm) : Option (AVal × Heap × Nat × Nat) :=
  bindO (evP .e (.len false (.c v0))) fun v7 =>
  asI .i64 v7 fun x7 =>
  forceB (ltI x7 1) fun c9 =>
  bindO (cond c9 (
    some true) (
    forceB (ltI 7 x7) fun c12 =>
    some c12)) fun c13 =>
  cond c13 (
    finM m0.h.length (tupA [(.b false)]) m0) (
    bindO (M.loop (S := Int) (R := (Unit ⊕ Bool)) (fun s => g55_b1 M ro v0 x7 m0 s) 0) fun o_3 => match o_3 with
    | (.inl _) =>
      finM m0.h.length (tupA [(.b true)]) m0
    | (.inr c2_1) =>
      finM m0.h.length (tupA [(.b c2_1)]) m0)

theorem g55_ok {ro : List ABlk} {O : Caller} {M : Means} (hM : M.Ok ⟨F, O⟩ ro) {v0 h r} (ho : O 55 [v0] h = none) (hr : g55 M ro v0 ⟨h, h.length, h.length⟩ = some r) : callX ⟨F, O⟩ ro 55 [v0] h = some r := by
  refine callX_of (F := ⟨F, O⟩) (fn := fn55) (g := g55 M ro v0) ho rfl rfl hr ?_
  clear ho
  clear hr
  intro m0 t0 ht hr
  have g0 : t0.get 0 = v0 := ht 0
  clear ht
  unfold g55 at hr
  refine w_seq ?_
  refine w_ops ?_
  refine wo_step (v := (.b false)) (s_pure (p_mv rfl)) ?_
  refine wo_nil ?_
  refine nx_norm ?_
  refine w_seq ?_
  refine w_ops ?_
  refine wo_step (v := v0) (s_pure (p_mv g0)) ?_
  have hq := bindO_inv hr
  clear hr
  obtain ⟨v7, e7, hr⟩ := hq
  have hq := asI_inv hr
  clear hr
  obtain ⟨x7, rfl, hr⟩ := hq
  refine wo_step (v := (.i .i64 x7)) (s_pure (o_len rfl e7)) ?_
  refine wo_step (v := (.i .i64 x7)) (s_pure (p_mv rfl)) ?_
  refine wo_nil ?_
  refine nx_norm ?_
  refine w_seq ?_
  refine w_seq ?_
  refine w_ops ?_
  refine wo_step (v := (.i .i64 x7)) (s_pure (p_mv rfl)) ?_
  have hq := forceB_inv hr
  clear hr
  obtain ⟨c9, e9, hr⟩ := hq
  refine wo_step (v := (.b c9)) (s_pure (p_bin rfl rfl (b_lss.trans (cb e9)))) ?_
  refine wo_step (v := (.b c9)) (s_pure (p_mv rfl)) ?_
  have hq := bindO_inv hr
  clear hr
  obtain ⟨o, hr, hk⟩ := hq
  refine wo_join 3 (g55_J0 v0 x7 m0 o) ?_ ?_
  · clear hk
    have hq := cond_inv hr
    clear hr
    rcases hq with ⟨rfl, hr⟩ | ⟨rfl, hr⟩
    · refine wo_skip (v := (.b true)) rfl rfl ?_
      refine wo_skip (v := (.b true)) rfl rfl ?_
      refine wo_step (v := (.b true)) (s_pure (p_pickT rfl rfl)) ?_
      refine wo_nil ?_
      cases hr
      exact ⟨_, _, rfl, rfl, gl rfl, gl g0, gl rfl⟩
    · refine wo_take (v := (.i .i64 x7)) rfl (s_pure (p_mv rfl)) ?_
      have hq := forceB_inv hr
      clear hr
      obtain ⟨c12, e12, hr⟩ := hq
      refine wo_take (v := (.b c12)) rfl (s_pure (p_bin rfl rfl (b_gtr.trans (cb e12)))) ?_
      refine wo_step (v := (.b c12)) (s_pure (p_pickF rfl rfl)) ?_
      refine wo_nil ?_
      cases hr
      exact ⟨_, _, rfl, rfl, gl rfl, gl g0, gl rfl⟩
  · clear hr
    have hr := hk
    clear hk
    obtain ⟨c13, ho⟩ : ∃ z, z = o := ⟨_, rfl⟩
    subst ho
    rintro mm t_1 ⟨rfl, g13, g0, g3⟩
    refine wo_nil ?_
    refine nx_norm ?_
    have hq := cond_inv hr
    clear hr
    rcases hq with ⟨rfl, hr⟩ | ⟨rfl, hr⟩
    · refine w_condT g13 ?_
      refine w_seq ?_
      refine w_ops ?_
      refine wo_step (v := (.b false)) (s_pure (p_mv rfl)) ?_
      refine wo_nil ?_
      refine nx_norm ?_
      refine w_ret ?_
      refine nx_ret ?_
      exact qf ret_ok (rt rfl rn) hr
    · refine w_condF g13 ?_
      refine w_skip ?_
      refine nx_norm ?_
      refine w_seq ?_
      refine w_seq ?_
      refine w_ops ?_
      refine wo_step (v := (.i .i64 0)) (s_pure (p_mv rfl)) ?_
      refine wo_nil ?_
      refine nx_norm ?_
      refine w_block ?_
      have hq := bindO_inv hr
      clear hr
      obtain ⟨o_3, hl_1, hr⟩ := hq
      obtain ⟨n_1, hl_1⟩ := hM.loop _ _ _ hl_1
      refine jp_mono (w_loop _ (g55_I1 v0 x7 m0) (g55_J1 v0 x7 m0) ?_ n_1 _ _ _ _ hl_1 ⟨rfl, gl rfl, gl g0, gl g3⟩) ?_
      · clear hr hl_1
        intro s mm_7 t_2 o hi hr
        obtain ⟨x4, hs⟩ : ∃ z, z = s := ⟨_, rfl⟩
        subst hs
        obtain ⟨rfl, g4, g0, g3⟩ := hi
        unfold g55_b1 at hr
        refine w_seq ?_
        refine w_seq ?_
        refine w_ops ?_
        refine wo_step (v := (.i .i64 x4)) (s_pure (p_mv g4)) ?_
        refine wo_step (v := (.i .i64 x7)) (s_pure (p_mv g3)) ?_
        have hq := forceB_inv hr
        clear hr
        obtain ⟨c16, e16, hr⟩ := hq
        refine wo_step (v := (.b c16)) (s_pure (p_bin rfl rfl (b_lss.trans (cb e16)))) ?_
        refine wo_nil ?_
        refine nx_norm ?_
        have hq := cond_inv hr
        clear hr
        rcases hq with ⟨rfl, hr⟩ | ⟨rfl, hr⟩
        · refine w_condT rfl ?_
          refine w_skip ?_
          refine nx_norm ?_
          refine w_seq ?_
          refine w_block ?_
          refine w_seq ?_
          refine w_seq ?_
          refine w_ops ?_
          refine wo_step (v := v0) (s_pure (p_mv g0)) ?_
          refine wo_step (v := (.i .i64 x4)) (s_pure (p_mv g4)) ?_
          have hq := bindO_inv hr
          clear hr
          obtain ⟨v21, e21, hr⟩ := hq
          refine wo_step (v := v21) (s_pure (o_ixS rfl rfl e21)) ?_
          have hq := bindO_inv hr
          clear hr
          obtain ⟨v22, e22, hr⟩ := hq
          refine wo_step (v := v22) (s_ld rfl e22) ?_
          have hq := bindO_inv hr
          clear hr
          obtain ⟨v23, e23, hr⟩ := hq
          have hq := asI_inv hr
          clear hr
          obtain ⟨x23, rfl, hr⟩ := hq
          refine wo_step (v := (.i .i64 x23)) (s_pure (o_len rfl e23)) ?_
          refine wo_step (v := (.i .i64 x7)) (s_pure (p_mv g3)) ?_
          have hq := forceB_inv hr
          clear hr
          obtain ⟨c25, e25, hr⟩ := hq
          refine wo_step (v := (.b c25)) (s_pure (p_bin rfl rfl (b_neq.trans (cb e25)))) ?_
          refine wo_nil ?_
          refine nx_norm ?_
          have hq := cond_inv hr
          clear hr
          rcases hq with ⟨rfl, hr⟩ | ⟨rfl, hr⟩
          · refine w_condT rfl ?_
            refine w_seq ?_
            refine w_ops ?_
            refine wo_step (v := (.b false)) (s_pure (p_mv rfl)) ?_
            refine wo_nil ?_
            refine nx_norm ?_
            refine w_ret ?_
            refine nx_ret ?_
            refine bk_ret ?_
            refine nx_ret ?_
            cases hr
            exact ⟨_, _, rfl, ne_norm_ret, rfl, rfl, gl rfl⟩
          · refine w_condF rfl ?_
            refine w_skip ?_
            refine nx_norm ?_
            refine w_seq ?_
            refine w_ops ?_
            refine wo_step (v := (.i .i64 0)) (s_pure (p_mv rfl)) ?_
            refine wo_nil ?_
            refine nx_norm ?_
            refine w_block ?_
            have hq := bindO_inv hr
            clear hr
            obtain ⟨o_2, hl, hr⟩ := hq
            obtain ⟨n, hl⟩ := hM.loop _ _ _ hl
            refine jp_mono (w_loop _ (g55_I2 v0 x7 x4 m0) (g55_J2 v0 x7 x4 m0) ?_ n _ _ _ _ hl ⟨rfl, gl rfl, gl g0, gl g3, gl g4⟩) ?_
            · clear hr hl
              intro s mm_4 t_3 o hi hr
              obtain ⟨x5, hs⟩ : ∃ z, z = s := ⟨_, rfl⟩
              subst hs
              obtain ⟨rfl, g5, g0, g3, g4⟩ := hi
              unfold g55_b2 at hr
              refine w_seq ?_
              refine w_seq ?_
              refine w_ops ?_
              refine wo_step (v := (.i .i64 x5)) (s_pure (p_mv g5)) ?_
              refine wo_step (v := (.i .i64 x7)) (s_pure (p_mv g3)) ?_
              have hq := forceB_inv hr
              clear hr
              obtain ⟨c28, e28, hr⟩ := hq
              refine wo_step (v := (.b c28)) (s_pure (p_bin rfl rfl (b_lss.trans (cb e28)))) ?_
              refine wo_nil ?_
              refine nx_norm ?_
              have hq := cond_inv hr
              clear hr
              rcases hq with ⟨rfl, hr⟩ | ⟨rfl, hr⟩
              · refine w_condT rfl ?_
                refine w_skip ?_
                refine nx_norm ?_
                refine w_seq ?_
                refine w_block ?_
                refine w_seq ?_
                refine w_ops ?_
                refine wo_step (v := v0) (s_pure (p_mv g0)) ?_
                refine wo_step (v := (.i .i64 x4)) (s_pure (p_mv g4)) ?_
                have hq := bindO_inv hr
                clear hr
                obtain ⟨v33, e33, hr⟩ := hq
                refine wo_step (v := v33) (s_pure (o_ixS rfl rfl e33)) ?_
                have hq := bindO_inv hr
                clear hr
                obtain ⟨v34, e34, hr⟩ := hq
                refine wo_step (v := v34) (s_ld rfl e34) ?_
                refine wo_step (v := (.i .i64 x5)) (s_pure (p_mv g5)) ?_
                have hq := bindO_inv hr
                clear hr
                obtain ⟨v36, e36, hr⟩ := hq
                refine wo_step (v := v36) (s_pure (o_ixS rfl rfl e36)) ?_
                have hq := bindO_inv hr
                clear hr
                obtain ⟨v37, e37, hr⟩ := hq
                have hq := asI_inv hr
                clear hr
                obtain ⟨x37, rfl, hr⟩ := hq
                refine wo_step (v := (.i .i64 x37)) (s_ld rfl e37) ?_
                have hq := forceB_inv hr
                clear hr
                obtain ⟨c38, e38, hr⟩ := hq
                refine wo_step (v := (.b c38)) (s_pure (p_bin rfl rfl (b_lss.trans (cb e38)))) ?_
                refine wo_step (v := (.b c38)) (s_pure (p_mv rfl)) ?_
                have hq := bindO_inv hr
                clear hr
                obtain ⟨o_1, hr, hk⟩ := hq
                refine wo_join 10 (g55_J3 v0 x7 x4 x5 m0 o_1) ?_ ?_
                · clear hk
                  have hq := cond_inv hr
                  clear hr
                  rcases hq with ⟨rfl, hr⟩ | ⟨rfl, hr⟩
                  · refine wo_skip (v := (.b true)) rfl rfl ?_
                    refine wo_skip (v := (.b true)) rfl rfl ?_
                    refine wo_skip (v := (.b true)) rfl rfl ?_
                    refine wo_skip (v := (.b true)) rfl rfl ?_
                    refine wo_skip (v := (.b true)) rfl rfl ?_
                    refine wo_skip (v := (.b true)) rfl rfl ?_
                    refine wo_skip (v := (.b true)) rfl rfl ?_
                    refine wo_skip (v := (.b true)) rfl rfl ?_
                    refine wo_skip (v := (.b true)) rfl rfl ?_
                    refine wo_step (v := (.b true)) (s_pure (p_pickT rfl rfl)) ?_
                    refine wo_nil ?_
                    cases hr
                    exact ⟨_, _, rfl, rfl, gl rfl, gl g0, gl g3, gl g4, gl g5⟩
                  · refine wo_take (v := v0) rfl (s_pure (p_mv g0)) ?_
                    refine wo_take (v := (.i .i64 x4)) rfl (s_pure (p_mv g4)) ?_
                    have hq := bindO_inv hr
                    clear hr
                    obtain ⟨v42, e42, hr⟩ := hq
                    refine wo_take (v := v42) rfl (s_pure (o_ixS rfl rfl e42)) ?_
                    have hq := bindO_inv hr
                    clear hr
                    obtain ⟨v43, e43, hr⟩ := hq
                    refine wo_take (v := v43) rfl (s_ld rfl e43) ?_
                    refine wo_take (v := (.i .i64 x5)) rfl (s_pure (p_mv g5)) ?_
                    have hq := bindO_inv hr
                    clear hr
                    obtain ⟨v45, e45, hr⟩ := hq
                    refine wo_take (v := v45) rfl (s_pure (o_ixS rfl rfl e45)) ?_
                    have hq := bindO_inv hr
                    clear hr
                    obtain ⟨v46, e46, hr⟩ := hq
                    have hq := asI_inv hr
                    clear hr
                    obtain ⟨x46, rfl, hr⟩ := hq
                    refine wo_take (v := (.i .i64 x46)) rfl (s_ld rfl e46) ?_
                    refine wo_take (v := (.i .i64 x7)) rfl (s_pure (p_mv g3)) ?_
                    have hq := forceB_inv hr
                    clear hr
                    obtain ⟨c48, e48, hr⟩ := hq
                    refine wo_take (v := (.b c48)) rfl (s_pure (p_bin rfl rfl (b_geq.trans (cb e48)))) ?_
                    refine wo_step (v := (.b c48)) (s_pure (p_pickF rfl rfl)) ?_
                    refine wo_nil ?_
                    cases hr
                    exact ⟨_, _, rfl, rfl, gl rfl, gl g0, gl g3, gl g4, gl g5⟩
                · clear hr
                  have hr := hk
                  clear hk
                  obtain ⟨c49, ho⟩ : ∃ z, z = o_1 := ⟨_, rfl⟩
                  subst ho
                  rintro mm_1 t_4 ⟨rfl, g49, g0, g3, g4, g5⟩
                  refine wo_nil ?_
                  refine nx_norm ?_
                  have hq := cond_inv hr
                  clear hr
                  rcases hq with ⟨rfl, hr⟩ | ⟨rfl, hr⟩
                  · refine w_condT g49 ?_
                    refine w_seq ?_
                    refine w_ops ?_
                    refine wo_step (v := (.b false)) (s_pure (p_mv rfl)) ?_
                    refine wo_nil ?_
                    refine nx_norm ?_
                    refine w_ret ?_
                    refine bk_ret ?_
                    refine nx_ret ?_
                    cases hr
                    exact ⟨_, _, rfl, ne_norm_ret, rfl, rfl, gl rfl⟩
                  · refine w_condF g49 ?_
                    refine w_skip ?_
                    refine bk_norm ?_
                    refine nx_norm ?_
                    refine w_ops ?_
                    refine wo_step (v := (.i .i64 x5)) (s_pure (p_mv g5)) ?_
                    have hq := forceI_inv hr
                    clear hr
                    obtain ⟨x30, e30, hr⟩ := hq
                    refine wo_step (v := (.i .i64 x30)) (s_pure (p_bin rfl rfl (b_add.trans (ci e30)))) ?_
                    refine wo_step (v := (.i .i64 x30)) (s_pure (p_mv rfl)) ?_
                    refine wo_nil ?_
                    cases hr
                    exact ⟨_, _, rfl, rfl, rfl, gl rfl, gl g0, gl g3, gl g4⟩
              · refine w_condF rfl ?_
                refine w_exit ?_
                refine nx_exit ?_
                cases hr
                exact ⟨_, _, rfl, ne_norm_exit, rfl, rfl, gl g0, gl g3, gl g4⟩
            · rcases o_2 with o_2 | o_2
              · rintro _ mm_2 t_5 ⟨rfl, rfl, g0, g3, g4⟩
                refine bk_hit ?_
                refine bk_norm ?_
                refine nx_norm ?_
                refine w_ops ?_
                refine wo_step (v := (.i .i64 x4)) (s_pure (p_mv g4)) ?_
                have hq := forceI_inv hr
                clear hr
                obtain ⟨x18, e18, hr⟩ := hq
                refine wo_step (v := (.i .i64 x18)) (s_pure (p_bin rfl rfl (b_add.trans (ci e18)))) ?_
                refine wo_step (v := (.i .i64 x18)) (s_pure (p_mv rfl)) ?_
                refine wo_nil ?_
                cases hr
                exact ⟨_, _, rfl, rfl, rfl, gl rfl, gl g0, gl g3⟩
              · obtain ⟨c2, ho⟩ : ∃ z, z = o_2 := ⟨_, rfl⟩
                subst ho
                rintro _ mm_3 t_6 ⟨rfl, rfl, g2⟩
                refine bk_ret ?_
                refine bk_ret ?_
                refine nx_ret ?_
                cases hr
                exact ⟨_, _, rfl, ne_norm_ret, rfl, rfl, gl g2⟩
        · refine w_condF rfl ?_
          refine w_exit ?_
          refine nx_exit ?_
          cases hr
          exact ⟨_, _, rfl, ne_norm_exit, rfl, rfl⟩
      · rcases o_3 with o_3 | o_3
        · rintro _ mm_5 t_7 ⟨rfl, rfl⟩
          refine bk_hit ?_
          refine nx_norm ?_
          refine w_seq ?_
          refine w_ops ?_
          refine wo_step (v := (.b true)) (s_pure (p_mv rfl)) ?_
          refine wo_nil ?_
          refine nx_norm ?_
          refine w_ret ?_
          exact qf ret_ok (rt rfl rn) hr
        · obtain ⟨c2_1, ho⟩ : ∃ z, z = o_3 := ⟨_, rfl⟩
          subst ho
          rintro _ mm_6 t_8 ⟨rfl, rfl, g2⟩
          refine bk_ret ?_
          refine nx_ret ?_
          exact qf ret_ok (rt g2 rn) hr

/- dibber/dibberref01.again -/
abbrev g56_I0 (v0 : AVal) (m0 : Mm) (s : Int) (m1 : Mm) (t1 : Tr) : Prop :=
  match s with
  | x5 => m0 = m1 ∧ t1.get 5 = (.i .i64 x5) ∧ t1.get 0 = v0
abbrev g56_J0 (v0 : AVal) (m0 : Mm) (o : (Unit ⊕ (Int × Int × Bool))) (e : AExit) (m1 : Mm) (t1 : Tr) : Prop :=
  match o with
  | (.inl _) => e = (.exit 0) ∧ m0 = m1
  | (.inr (y2, y3, y4)) => e = .ret ∧ m0 = m1 ∧ t1.get 2 = (.i .i64 y2) ∧ t1.get 3 = (.i .i64 y3) ∧ t1.get 4 = (.b y4)
abbrev g56_I1 (v0 : AVal) (x5 : Int) (m0 : Mm) (s : Int) (m1 : Mm) (t1 : Tr) : Prop :=
  match s with
  | x6 => m0 = m1 ∧ t1.get 6 = (.i .i64 x6) ∧ t1.get 0 = v0 ∧ t1.get 5 = (.i .i64 x5)
abbrev g56_J1 (v0 : AVal) (x5 : Int) (m0 : Mm) (o : (Unit ⊕ (Int × Int × Bool))) (e : AExit) (m1 : Mm) (t1 : Tr) : Prop :=
  match o with
  | (.inl _) => e = (.exit 2) ∧ m0 = m1 ∧ t1.get 0 = v0 ∧ t1.get 5 = (.i .i64 x5)
  | (.inr (y2, y3, y4)) => e = .ret ∧ m0 = m1 ∧ t1.get 2 = (.i .i64 y2) ∧ t1.get 3 = (.i .i64 y3) ∧ t1.get 4 = (.b y4)
abbrev g56_I2 (v0 : AVal) (x5 : Int) (x6 : Int) (x31 : Int) (m0 : Mm) (s : Int) (m1 : Mm) (t1 : Tr) : Prop :=
  match s with
  | x8 => m0 = m1 ∧ t1.get 8 = (.i .i64 x8) ∧ t1.get 0 = v0 ∧ t1.get 5 = (.i .i64 x5) ∧ t1.get 6 = (.i .i64 x6) ∧ t1.get 7 = (.i .i64 x31)
abbrev g56_J2 (v0 : AVal) (x5 : Int) (x6 : Int) (x31 : Int) (m0 : Mm) (o : (Unit ⊕ (Int × Int × Bool))) (e : AExit) (m1 : Mm) (t1 : Tr) : Prop :=
  match o with
  | (.inl _) => e = (.exit 4) ∧ m0 = m1 ∧ t1.get 0 = v0 ∧ t1.get 5 = (.i .i64 x5) ∧ t1.get 6 = (.i .i64 x6) ∧ t1.get 7 = (.i .i64 x31)
  | (.inr (y2, y3, y4)) => e = .ret ∧ m0 = m1 ∧ t1.get 2 = (.i .i64 y2) ∧ t1.get 3 = (.i .i64 y3) ∧ t1.get 4 = (.b y4)
abbrev g56_J3 (v0 : AVal) (x5 : Int) (x6 : Int) (x31 : Int) (x8 : Int) (m0 : Mm) (o : Bool) (m1 : Mm) (t1 : Tr) : Prop :=
  match o with
  | c38 => m0 = m1 ∧ t1.get 38 = (.b c38) ∧ t1.get 0 = v0 ∧ t1.get 5 = (.i .i64 x5) ∧ t1.get 6 = (.i .i64 x6) ∧ t1.get 7 = (.i .i64 x31) ∧ t1.get 8 = (.i .i64 x8)
def g56_b2 (M : Means) (ro : List ABlk) (v0 : AVal) (x5 : Int) (x6 : Int) (x31 : Int) (m0 : Mm) (x8 : Int) : Option ((Int) ⊕ ((Unit ⊕ (Int × Int × Bool)))) :=
  forceB (ltI x8 x6) fun c34 =>
  bindO (cond c34 (
    forceB (!ltI x31 0) fun c37 =>
    some c37) (
    some false)) fun c38 =>
  cond c38 (
    bindO (evP .e (.ixS 1 (.c v0) (.c (.i .i64 x5)))) fun v43 =>
    bindO (ldM ro m0 true 1 v43) fun v44 =>
    bindO (evP .e (.ixS 1 (.c v44) (.c (.i .i64 x8)))) fun v46 =>
    bindO (ldM ro m0 true 1 v46) fun v47 =>
    asI .i64 v47 fun x47 =>
    forceB (eqI x47 x31) fun c49 =>
    cond c49 (
      some (.inr (.inr (x5, x6, true)))) (
      forceI (wr .i64 (x8 + 1)) fun x40 =>
      some (.inl x40))) (
    some (.inr (.inl ())))
abbrev g56_I4 (v0 : AVal) (x5 : Int) (x6 : Int) (x31 : Int) (m0 : Mm) (s : Int) (m1 : Mm) (t1 : Tr) : Prop :=
  match s with
  | x9 => m0 = m1 ∧ t1.get 9 = (.i .i64 x9) ∧ t1.get 0 = v0 ∧ t1.get 5 = (.i .i64 x5) ∧ t1.get 6 = (.i .i64 x6) ∧ t1.get 7 = (.i .i64 x31)
abbrev g56_J4 (v0 : AVal) (x5 : Int) (x6 : Int) (x31 : Int) (m0 : Mm) (o : (Unit ⊕ (Int × Int × Bool))) (e : AExit) (m1 : Mm) (t1 : Tr) : Prop :=
  match o with
  | (.inl _) => e = (.exit 6) ∧ m0 = m1 ∧ t1.get 0 = v0 ∧ t1.get 5 = (.i .i64 x5) ∧ t1.get 6 = (.i .i64 x6)
  | (.inr (y2, y3, y4)) => e = .ret ∧ m0 = m1 ∧ t1.get 2 = (.i .i64 y2) ∧ t1.get 3 = (.i .i64 y3) ∧ t1.get 4 = (.b y4)
abbrev g56_J5 (v0 : AVal) (x5 : Int) (x6 : Int) (x31 : Int) (x9 : Int) (m0 : Mm) (o : Bool) (m1 : Mm) (t1 : Tr) : Prop :=
  match o with
  | c58 => m0 = m1 ∧ t1.get 58 = (.b c58) ∧ t1.get 0 = v0 ∧ t1.get 5 = (.i .i64 x5) ∧ t1.get 6 = (.i .i64 x6) ∧ t1.get 7 = (.i .i64 x31) ∧ t1.get 9 = (.i .i64 x9)
def g56_b4 (M : Means) (ro : List ABlk) (v0 : AVal) (x5 : Int) (x6 : Int) (x31 : Int) (m0 : Mm) (x9 : Int) : Option ((Int) ⊕ ((Unit ⊕ (Int × Int × Bool)))) :=
  forceB (ltI x9 x5) fun c54 =>
  bindO (cond c54 (
    forceB (!ltI x31 0) fun c57 =>
    some c57) (
    some false)) fun c58 =>
  cond c58 (
    bindO (evP .e (.ixS 1 (.c v0) (.c (.i .i64 x9)))) fun v63 =>
    bindO (ldM ro m0 true 1 v63) fun v64 =>
    bindO (evP .e (.ixS 1 (.c v64) (.c (.i .i64 x6)))) fun v66 =>
    bindO (ldM ro m0 true 1 v66) fun v67 =>
    asI .i64 v67 fun x67 =>
    forceB (eqI x67 x31) fun c69 =>
    cond c69 (
      some (.inr (.inr (x5, x6, true)))) (
      forceI (wr .i64 (x9 + 1)) fun x60 =>
      some (.inl x60))) (
    some (.inr (.inl ())))
def g56_b1 (M : Means) (ro : List ABlk) (v0 : AVal) (x5 : Int) (m0 : Mm) (x6 : Int) : Option ((Int) ⊕ ((Unit ⊕ (Int × Int × Bool)))) :=
  bindO (evP .e (.ixS 1 (.c v0) (.c (.i .i64 x5)))) fun v19 =>
  bindO (ldM ro m0 true 1 v19) fun v20 =>
  bindO (evP .e (.len false (.c v20))) fun v21 =>
  asI .i64 v21 fun x21 =>
  forceB (ltI x6 x21) fun c22 =>
  cond c22 (
    bindO (evP .e (.ixS 1 (.c v0) (.c (.i .i64 x5)))) fun v27 =>
    bindO (ldM ro m0 true 1 v27) fun v28 =>
    bindO (evP .e (.ixS 1 (.c v28) (.c (.i .i64 x6)))) fun v30 =>
    bindO (ldM ro m0 true 1 v30) fun v31 =>
    asI .i64 v31 fun x31 =>
    bindO (M.loop (S := Int) (R := (Unit ⊕ (Int × Int × Bool))) (fun s => g56_b2 M ro v0 x5 x6 x31 m0 s) 0) fun o_1 => match o_1 with
    | (.inl _) =>
      bindO (M.loop (S := Int) (R := (Unit ⊕ (Int × Int × Bool))) (fun s => g56_b4 M ro v0 x5 x6 x31 m0 s) 0) fun o_3 => match o_3 with
      | (.inl _) =>
        forceI (wr .i64 (x6 + 1)) fun x24 =>
        some (.inl x24)
      | (.inr (x2, x3, c4)) =>
        some (.inr (.inr (x2, x3, c4)))
    | (.inr (x2_1, x3_1, c4_1)) =>
      some (.inr (.inr (x2_1, x3_1, c4_1)))) (
    some (.inr (.inl ())))
def g56_b0 (M : Means) (ro : List ABlk) (v0 : AVal) (m0 : Mm) (x5 : Int) : Option ((Int) ⊕ ((Unit ⊕ (Int × Int × Bool)))) :=
  bindO (evP .e (.len false (.c v0))) fun v12 =>
  asI .i64 v12 fun x12 =>
  forceB (ltI x5 x12) fun c13 =>
  cond c13 (
    bindO (M.loop (S := Int) (R := (Unit ⊕ (Int × Int × Bool))) (fun s => g56_b1 M ro v0 x5 m0 s) 0) fun o_4 => match o_4 with
    | (.inl _) =>
      forceI (wr .i64 (x5 + 1)) fun x15 =>
      some (.inl x15)
    | (.inr (x2_2, x3_2, c4_2)) =>
      some (.inr (.inr (x2_2, x3_2, c4_2)))) (
    some (.inr (.inl ())))
def g56 (M : Means) (ro : List ABlk) (v0 : AVal) (m0 : Mm) : Option (AVal × Heap × Nat × Nat) :=
  bindO (M.loop (S := Int) (R := (Unit ⊕ (Int × Int × Bool))) (fun s => g56_b0 M ro v0 m0 s) 0) fun o_5 => match o_5 with
  | (.inl _) =>
    finM m0.h.length (tupA [(.i .i64 0), (.i .i64 0), (.b false)]) m0
  | (.inr (x2_3, x3_3, c4_3)) =>
    finM m0.h.length (tupA [(.i .i64 x2_3), (.i .i64 x3_3), (.b c4_3)]) m0

theorem g56_ok {ro : List ABlk} {O : Caller} {M : Means} (hM : M.Ok ⟨F, O⟩ ro) {v0 h r} (ho : O 56 [v0] h = none) (hr : g56 M ro v0 ⟨h, h.length, h.length⟩ = some r) : callX ⟨F, O⟩ ro 56 [v0] h = some r := by
  refine callX_of (F := ⟨F, O⟩) (fn := fn56) (g := g56 M ro v0) ho rfl rfl hr ?_
  clear ho
  clear hr
  intro m0 t0 ht hr
  have g0 : t0.get 0 = v0 := ht 0
  clear ht
  unfold g56 at hr
  refine w_seq ?_
  refine w_ops ?_
  refine wo_step (v := (.i .i64 0)) (s_pure (p_mv rfl)) ?_
  refine wo_step (v := (.i .i64 0)) (s_pure (p_mv rfl)) ?_
  refine wo_step (v := (.b false)) (s_pure (p_mv rfl)) ?_
  refine wo_nil ?_
  refine nx_norm ?_
  refine w_seq ?_
  refine w_seq ?_
  refine w_ops ?_
  refine wo_step (v := (.i .i64 0)) (s_pure (p_mv rfl)) ?_
  refine wo_nil ?_
  refine nx_norm ?_
  refine w_block ?_
  have hq := bindO_inv hr
  clear hr
  obtain ⟨o_5, hl_3, hr⟩ := hq
  obtain ⟨n_3, hl_3⟩ := hM.loop _ _ _ hl_3
  refine jp_mono (w_loop _ (g56_I0 v0 m0) (g56_J0 v0 m0) ?_ n_3 _ _ _ _ hl_3 ⟨rfl, gl rfl, gl g0⟩) ?_
  · clear hr hl_3
    intro s mm_13 t_1 o hi hr
    obtain ⟨x5, hs⟩ : ∃ z, z = s := ⟨_, rfl⟩
    subst hs
    obtain ⟨rfl, g5, g0⟩ := hi
    unfold g56_b0 at hr
    refine w_seq ?_
    refine w_seq ?_
    refine w_ops ?_
    refine wo_step (v := (.i .i64 x5)) (s_pure (p_mv g5)) ?_
    refine wo_step (v := v0) (s_pure (p_mv g0)) ?_
    have hq := bindO_inv hr
    clear hr
    obtain ⟨v12, e12, hr⟩ := hq
    have hq := asI_inv hr
    clear hr
    obtain ⟨x12, rfl, hr⟩ := hq
    refine wo_step (v := (.i .i64 x12)) (s_pure (o_len rfl e12)) ?_
    have hq := forceB_inv hr
    clear hr
    obtain ⟨c13, e13, hr⟩ := hq
    refine wo_step (v := (.b c13)) (s_pure (p_bin rfl rfl (b_lss.trans (cb e13)))) ?_
    refine wo_nil ?_
    refine nx_norm ?_
    have hq := cond_inv hr
    clear hr
    rcases hq with ⟨rfl, hr⟩ | ⟨rfl, hr⟩
    · refine w_condT rfl ?_
      refine w_skip ?_
      refine nx_norm ?_
      refine w_seq ?_
      refine w_block ?_
      refine w_seq ?_
      refine w_ops ?_
      refine wo_step (v := (.i .i64 0)) (s_pure (p_mv rfl)) ?_
      refine wo_nil ?_
      refine nx_norm ?_
      refine w_block ?_
      have hq := bindO_inv hr
      clear hr
      obtain ⟨o_4, hl_2, hr⟩ := hq
      obtain ⟨n_2, hl_2⟩ := hM.loop _ _ _ hl_2
      refine jp_mono (w_loop _ (g56_I1 v0 x5 m0) (g56_J1 v0 x5 m0) ?_ n_2 _ _ _ _ hl_2 ⟨rfl, gl rfl, gl g0, gl g5⟩) ?_
      · clear hr hl_2
        intro s mm_10 t_2 o hi hr
        obtain ⟨x6, hs⟩ : ∃ z, z = s := ⟨_, rfl⟩
        subst hs
        obtain ⟨rfl, g6, g0, g5⟩ := hi
        unfold g56_b1 at hr
        refine w_seq ?_
        refine w_seq ?_
        refine w_ops ?_
        refine wo_step (v := (.i .i64 x6)) (s_pure (p_mv g6)) ?_
        refine wo_step (v := v0) (s_pure (p_mv g0)) ?_
        refine wo_step (v := (.i .i64 x5)) (s_pure (p_mv g5)) ?_
        have hq := bindO_inv hr
        clear hr
        obtain ⟨v19, e19, hr⟩ := hq
        refine wo_step (v := v19) (s_pure (o_ixS rfl rfl e19)) ?_
        have hq := bindO_inv hr
        clear hr
        obtain ⟨v20, e20, hr⟩ := hq
        refine wo_step (v := v20) (s_ld rfl e20) ?_
        have hq := bindO_inv hr
        clear hr
        obtain ⟨v21, e21, hr⟩ := hq
        have hq := asI_inv hr
        clear hr
        obtain ⟨x21, rfl, hr⟩ := hq
        refine wo_step (v := (.i .i64 x21)) (s_pure (o_len rfl e21)) ?_
        have hq := forceB_inv hr
        clear hr
        obtain ⟨c22, e22, hr⟩ := hq
        refine wo_step (v := (.b c22)) (s_pure (p_bin rfl rfl (b_lss.trans (cb e22)))) ?_
        refine wo_nil ?_
        refine nx_norm ?_
        have hq := cond_inv hr
        clear hr
        rcases hq with ⟨rfl, hr⟩ | ⟨rfl, hr⟩
        · refine w_condT rfl ?_
          refine w_skip ?_
          refine nx_norm ?_
          refine w_seq ?_
          refine w_block ?_
          refine w_seq ?_
          refine w_ops ?_
          refine wo_step (v := v0) (s_pure (p_mv g0)) ?_
          refine wo_step (v := (.i .i64 x5)) (s_pure (p_mv g5)) ?_
          have hq := bindO_inv hr
          clear hr
          obtain ⟨v27, e27, hr⟩ := hq
          refine wo_step (v := v27) (s_pure (o_ixS rfl rfl e27)) ?_
          have hq := bindO_inv hr
          clear hr
          obtain ⟨v28, e28, hr⟩ := hq
          refine wo_step (v := v28) (s_ld rfl e28) ?_
          refine wo_step (v := (.i .i64 x6)) (s_pure (p_mv g6)) ?_
          have hq := bindO_inv hr
          clear hr
          obtain ⟨v30, e30, hr⟩ := hq
          refine wo_step (v := v30) (s_pure (o_ixS rfl rfl e30)) ?_
          have hq := bindO_inv hr
          clear hr
          obtain ⟨v31, e31, hr⟩ := hq
          have hq := asI_inv hr
          clear hr
          obtain ⟨x31, rfl, hr⟩ := hq
          refine wo_step (v := (.i .i64 x31)) (s_ld rfl e31) ?_
          refine wo_step (v := (.i .i64 x31)) (s_pure (p_mv rfl)) ?_
          refine wo_nil ?_
          refine nx_norm ?_
          refine w_seq ?_
          refine w_seq ?_
          refine w_ops ?_
          refine wo_step (v := (.i .i64 0)) (s_pure (p_mv rfl)) ?_
          refine wo_nil ?_
          refine nx_norm ?_
          refine w_block ?_
          have hq := bindO_inv hr
          clear hr
          obtain ⟨o_1, hl_1, hr⟩ := hq
          obtain ⟨n_1, hl_1⟩ := hM.loop _ _ _ hl_1
          refine jp_mono (w_loop _ (g56_I2 v0 x5 x6 x31 m0) (g56_J2 v0 x5 x6 x31 m0) ?_ n_1 _ _ _ _ hl_1 ⟨rfl, gl rfl, gl g0, gl g5, gl g6, gl rfl⟩) ?_
          · clear hr hl_1
            intro s mm_7 t_3 o hi hr
            obtain ⟨x8, hs⟩ : ∃ z, z = s := ⟨_, rfl⟩
            subst hs
            obtain ⟨rfl, g8, g0, g5, g6, g7⟩ := hi
            unfold g56_b2 at hr
            refine w_seq ?_
            refine w_seq ?_
            refine w_ops ?_
            refine wo_step (v := (.i .i64 x8)) (s_pure (p_mv g8)) ?_
            refine wo_step (v := (.i .i64 x6)) (s_pure (p_mv g6)) ?_
            have hq := forceB_inv hr
            clear hr
            obtain ⟨c34, e34, hr⟩ := hq
            refine wo_step (v := (.b c34)) (s_pure (p_bin rfl rfl (b_lss.trans (cb e34)))) ?_
            refine wo_step (v := (.b c34)) (s_pure (p_mv rfl)) ?_
            have hq := bindO_inv hr
            clear hr
            obtain ⟨o, hr, hk⟩ := hq
            refine wo_join 3 (g56_J3 v0 x5 x6 x31 x8 m0 o) ?_ ?_
            · clear hk
              have hq := cond_inv hr
              clear hr
              rcases hq with ⟨rfl, hr⟩ | ⟨rfl, hr⟩
              · refine wo_take (v := (.i .i64 x31)) rfl (s_pure (p_mv g7)) ?_
                have hq := forceB_inv hr
                clear hr
                obtain ⟨c37, e37, hr⟩ := hq
                refine wo_take (v := (.b c37)) rfl (s_pure (p_bin rfl rfl (b_geq.trans (cb e37)))) ?_
                refine wo_step (v := (.b c37)) (s_pure (p_pickT rfl rfl)) ?_
                refine wo_nil ?_
                cases hr
                exact ⟨_, _, rfl, rfl, gl rfl, gl g0, gl g5, gl g6, gl g7, gl g8⟩
              · refine wo_skip (v := (.b false)) rfl rfl ?_
                refine wo_skip (v := (.b false)) rfl rfl ?_
                refine wo_step (v := (.b false)) (s_pure (p_pickF rfl rfl)) ?_
                refine wo_nil ?_
                cases hr
                exact ⟨_, _, rfl, rfl, gl rfl, gl g0, gl g5, gl g6, gl g7, gl g8⟩
            · clear hr
              have hr := hk
              clear hk
              obtain ⟨c38, ho⟩ : ∃ z, z = o := ⟨_, rfl⟩
              subst ho
              rintro mm t_4 ⟨rfl, g38, g0, g5, g6, g7, g8⟩
              refine wo_nil ?_
              refine nx_norm ?_
              have hq := cond_inv hr
              clear hr
              rcases hq with ⟨rfl, hr⟩ | ⟨rfl, hr⟩
              · refine w_condT g38 ?_
                refine w_skip ?_
                refine nx_norm ?_
                refine w_seq ?_
                refine w_block ?_
                refine w_seq ?_
                refine w_ops ?_
                refine wo_step (v := v0) (s_pure (p_mv g0)) ?_
                refine wo_step (v := (.i .i64 x5)) (s_pure (p_mv g5)) ?_
                have hq := bindO_inv hr
                clear hr
                obtain ⟨v43, e43, hr⟩ := hq
                refine wo_step (v := v43) (s_pure (o_ixS rfl rfl e43)) ?_
                have hq := bindO_inv hr
                clear hr
                obtain ⟨v44, e44, hr⟩ := hq
                refine wo_step (v := v44) (s_ld rfl e44) ?_
                refine wo_step (v := (.i .i64 x8)) (s_pure (p_mv g8)) ?_
                have hq := bindO_inv hr
                clear hr
                obtain ⟨v46, e46, hr⟩ := hq
                refine wo_step (v := v46) (s_pure (o_ixS rfl rfl e46)) ?_
                have hq := bindO_inv hr
                clear hr
                obtain ⟨v47, e47, hr⟩ := hq
                have hq := asI_inv hr
                clear hr
                obtain ⟨x47, rfl, hr⟩ := hq
                refine wo_step (v := (.i .i64 x47)) (s_ld rfl e47) ?_
                refine wo_step (v := (.i .i64 x31)) (s_pure (p_mv g7)) ?_
                have hq := forceB_inv hr
                clear hr
                obtain ⟨c49, e49, hr⟩ := hq
                refine wo_step (v := (.b c49)) (s_pure (p_bin rfl rfl (b_eql.trans (cb e49)))) ?_
                refine wo_nil ?_
                refine nx_norm ?_
                have hq := cond_inv hr
                clear hr
                rcases hq with ⟨rfl, hr⟩ | ⟨rfl, hr⟩
                · refine w_condT rfl ?_
                  refine w_seq ?_
                  refine w_ops ?_
                  refine wo_step (v := (.i .i64 x5)) (s_pure (p_mv g5)) ?_
                  refine wo_step (v := (.i .i64 x6)) (s_pure (p_mv g6)) ?_
                  refine wo_step (v := (.i .i64 x5)) (s_pure (p_mv rfl)) ?_
                  refine wo_step (v := (.i .i64 x6)) (s_pure (p_mv rfl)) ?_
                  refine wo_step (v := (.b true)) (s_pure (p_mv rfl)) ?_
                  refine wo_nil ?_
                  refine nx_norm ?_
                  refine w_ret ?_
                  refine bk_ret ?_
                  refine nx_ret ?_
                  cases hr
                  exact ⟨_, _, rfl, ne_norm_ret, rfl, rfl, gl rfl, gl rfl, gl rfl⟩
                · refine w_condF rfl ?_
                  refine w_skip ?_
                  refine bk_norm ?_
                  refine nx_norm ?_
                  refine w_ops ?_
                  refine wo_step (v := (.i .i64 x8)) (s_pure (p_mv g8)) ?_
                  have hq := forceI_inv hr
                  clear hr
                  obtain ⟨x40, e40, hr⟩ := hq
                  refine wo_step (v := (.i .i64 x40)) (s_pure (p_bin rfl rfl (b_add.trans (ci e40)))) ?_
                  refine wo_step (v := (.i .i64 x40)) (s_pure (p_mv rfl)) ?_
                  refine wo_nil ?_
                  cases hr
                  exact ⟨_, _, rfl, rfl, rfl, gl rfl, gl g0, gl g5, gl g6, gl g7⟩
              · refine w_condF g38 ?_
                refine w_exit ?_
                refine nx_exit ?_
                cases hr
                exact ⟨_, _, rfl, ne_norm_exit, rfl, rfl, gl g0, gl g5, gl g6, gl g7⟩
          · rcases o_1 with o_1 | o_1
            · rintro _ mm_5 t_5 ⟨rfl, rfl, g0, g5, g6, g7⟩
              refine bk_hit ?_
              refine nx_norm ?_
              refine w_seq ?_
              refine w_ops ?_
              refine wo_step (v := (.i .i64 0)) (s_pure (p_mv rfl)) ?_
              refine wo_nil ?_
              refine nx_norm ?_
              refine w_block ?_
              have hq := bindO_inv hr
              clear hr
              obtain ⟨o_3, hl, hr⟩ := hq
              obtain ⟨n, hl⟩ := hM.loop _ _ _ hl
              refine jp_mono (w_loop _ (g56_I4 v0 x5 x6 x31 m0) (g56_J4 v0 x5 x6 x31 m0) ?_ n _ _ _ _ hl ⟨rfl, gl rfl, gl g0, gl g5, gl g6, gl g7⟩) ?_
              · clear hr hl
                intro s mm_4 t_6 o hi hr
                obtain ⟨x9, hs⟩ : ∃ z, z = s := ⟨_, rfl⟩
                subst hs
                obtain ⟨rfl, g9, g0, g5, g6, g7⟩ := hi
                unfold g56_b4 at hr
                refine w_seq ?_
                refine w_seq ?_
                refine w_ops ?_
                refine wo_step (v := (.i .i64 x9)) (s_pure (p_mv g9)) ?_
                refine wo_step (v := (.i .i64 x5)) (s_pure (p_mv g5)) ?_
                have hq := forceB_inv hr
                clear hr
                obtain ⟨c54, e54, hr⟩ := hq
                refine wo_step (v := (.b c54)) (s_pure (p_bin rfl rfl (b_lss.trans (cb e54)))) ?_
                refine wo_step (v := (.b c54)) (s_pure (p_mv rfl)) ?_
                have hq := bindO_inv hr
                clear hr
                obtain ⟨o_2, hr, hk⟩ := hq
                refine wo_join 3 (g56_J5 v0 x5 x6 x31 x9 m0 o_2) ?_ ?_
                · clear hk
                  have hq := cond_inv hr
                  clear hr
                  rcases hq with ⟨rfl, hr⟩ | ⟨rfl, hr⟩
                  · refine wo_take (v := (.i .i64 x31)) rfl (s_pure (p_mv g7)) ?_
                    have hq := forceB_inv hr
                    clear hr
                    obtain ⟨c57, e57, hr⟩ := hq
                    refine wo_take (v := (.b c57)) rfl (s_pure (p_bin rfl rfl (b_geq.trans (cb e57)))) ?_
                    refine wo_step (v := (.b c57)) (s_pure (p_pickT rfl rfl)) ?_
                    refine wo_nil ?_
                    cases hr
                    exact ⟨_, _, rfl, rfl, gl rfl, gl g0, gl g5, gl g6, gl g7, gl g9⟩
                  · refine wo_skip (v := (.b false)) rfl rfl ?_
                    refine wo_skip (v := (.b false)) rfl rfl ?_
                    refine wo_step (v := (.b false)) (s_pure (p_pickF rfl rfl)) ?_
                    refine wo_nil ?_
                    cases hr
                    exact ⟨_, _, rfl, rfl, gl rfl, gl g0, gl g5, gl g6, gl g7, gl g9⟩
                · clear hr
                  have hr := hk
                  clear hk
                  obtain ⟨c58, ho⟩ : ∃ z, z = o_2 := ⟨_, rfl⟩
                  subst ho
                  rintro mm_1 t_7 ⟨rfl, g58, g0, g5, g6, g7, g9⟩
                  refine wo_nil ?_
                  refine nx_norm ?_
                  have hq := cond_inv hr
                  clear hr
                  rcases hq with ⟨rfl, hr⟩ | ⟨rfl, hr⟩
                  · refine w_condT g58 ?_
                    refine w_skip ?_
                    refine nx_norm ?_
                    refine w_seq ?_
                    refine w_block ?_
                    refine w_seq ?_
                    refine w_ops ?_
                    refine wo_step (v := v0) (s_pure (p_mv g0)) ?_
                    refine wo_step (v := (.i .i64 x9)) (s_pure (p_mv g9)) ?_
                    have hq := bindO_inv hr
                    clear hr
                    obtain ⟨v63, e63, hr⟩ := hq
                    refine wo_step (v := v63) (s_pure (o_ixS rfl rfl e63)) ?_
                    have hq := bindO_inv hr
                    clear hr
                    obtain ⟨v64, e64, hr⟩ := hq
                    refine wo_step (v := v64) (s_ld rfl e64) ?_
                    refine wo_step (v := (.i .i64 x6)) (s_pure (p_mv g6)) ?_
                    have hq := bindO_inv hr
                    clear hr
                    obtain ⟨v66, e66, hr⟩ := hq
                    refine wo_step (v := v66) (s_pure (o_ixS rfl rfl e66)) ?_
                    have hq := bindO_inv hr
                    clear hr
                    obtain ⟨v67, e67, hr⟩ := hq
                    have hq := asI_inv hr
                    clear hr
                    obtain ⟨x67, rfl, hr⟩ := hq
                    refine wo_step (v := (.i .i64 x67)) (s_ld rfl e67) ?_
                    refine wo_step (v := (.i .i64 x31)) (s_pure (p_mv g7)) ?_
                    have hq := forceB_inv hr
                    clear hr
                    obtain ⟨c69, e69, hr⟩ := hq
                    refine wo_step (v := (.b c69)) (s_pure (p_bin rfl rfl (b_eql.trans (cb e69)))) ?_
                    refine wo_nil ?_
                    refine nx_norm ?_
                    have hq := cond_inv hr
                    clear hr
                    rcases hq with ⟨rfl, hr⟩ | ⟨rfl, hr⟩
                    · refine w_condT rfl ?_
                      refine w_seq ?_
                      refine w_ops ?_
                      refine wo_step (v := (.i .i64 x5)) (s_pure (p_mv g5)) ?_
                      refine wo_step (v := (.i .i64 x6)) (s_pure (p_mv g6)) ?_
                      refine wo_step (v := (.i .i64 x5)) (s_pure (p_mv rfl)) ?_
                      refine wo_step (v := (.i .i64 x6)) (s_pure (p_mv rfl)) ?_
                      refine wo_step (v := (.b true)) (s_pure (p_mv rfl)) ?_
                      refine wo_nil ?_
                      refine nx_norm ?_
                      refine w_ret ?_
                      refine bk_ret ?_
                      refine nx_ret ?_
                      cases hr
                      exact ⟨_, _, rfl, ne_norm_ret, rfl, rfl, gl rfl, gl rfl, gl rfl⟩
                    · refine w_condF rfl ?_
                      refine w_skip ?_
                      refine bk_norm ?_
                      refine nx_norm ?_
                      refine w_ops ?_
                      refine wo_step (v := (.i .i64 x9)) (s_pure (p_mv g9)) ?_
                      have hq := forceI_inv hr
                      clear hr
                      obtain ⟨x60, e60, hr⟩ := hq
                      refine wo_step (v := (.i .i64 x60)) (s_pure (p_bin rfl rfl (b_add.trans (ci e60)))) ?_
                      refine wo_step (v := (.i .i64 x60)) (s_pure (p_mv rfl)) ?_
                      refine wo_nil ?_
                      cases hr
                      exact ⟨_, _, rfl, rfl, rfl, gl rfl, gl g0, gl g5, gl g6, gl g7⟩
                  · refine w_condF g58 ?_
                    refine w_exit ?_
                    refine nx_exit ?_
                    cases hr
                    exact ⟨_, _, rfl, ne_norm_exit, rfl, rfl, gl g0, gl g5, gl g6⟩
              · rcases o_3 with o_3 | o_3
                · rintro _ mm_2 t_8 ⟨rfl, rfl, g0, g5, g6⟩
                  refine bk_hit ?_
                  refine bk_norm ?_
                  refine nx_norm ?_
                  refine w_ops ?_
                  refine wo_step (v := (.i .i64 x6)) (s_pure (p_mv g6)) ?_
                  have hq := forceI_inv hr
                  clear hr
                  obtain ⟨x24, e24, hr⟩ := hq
                  refine wo_step (v := (.i .i64 x24)) (s_pure (p_bin rfl rfl (b_add.trans (ci e24)))) ?_
                  refine wo_step (v := (.i .i64 x24)) (s_pure (p_mv rfl)) ?_
                  refine wo_nil ?_
                  cases hr
                  exact ⟨_, _, rfl, rfl, rfl, gl rfl, gl g0, gl g5⟩
                · obtain ⟨x2, x3, c4⟩ := o_3
                  rintro _ mm_3 t_9 ⟨rfl, rfl, g2, g3, g4⟩
                  refine bk_ret ?_
                  refine bk_ret ?_
                  refine nx_ret ?_
                  cases hr
                  exact ⟨_, _, rfl, ne_norm_ret, rfl, rfl, gl g2, gl g3, gl g4⟩
            · obtain ⟨x2_1, x3_1, c4_1⟩ := o_1
              rintro _ mm_6 t_10 ⟨rfl, rfl, g2, g3, g4⟩
              refine bk_ret ?_
              refine nx_ret ?_
              refine bk_ret ?_
              refine nx_ret ?_
              cases hr
              exact ⟨_, _, rfl, ne_norm_ret, rfl, rfl, gl g2, gl g3, gl g4⟩
        · refine w_condF rfl ?_
          refine w_exit ?_
          refine nx_exit ?_
          cases hr
          exact ⟨_, _, rfl, ne_norm_exit, rfl, rfl, gl g0, gl g5⟩
      · rcases o_4 with o_4 | o_4
        · rintro _ mm_8 t_11 ⟨rfl, rfl, g0, g5⟩
          refine bk_hit ?_
          refine bk_norm ?_
          refine nx_norm ?_
          refine w_ops ?_
          refine wo_step (v := (.i .i64 x5)) (s_pure (p_mv g5)) ?_
          have hq := forceI_inv hr
          clear hr
          obtain ⟨x15, e15, hr⟩ := hq
          refine wo_step (v := (.i .i64 x15)) (s_pure (p_bin rfl rfl (b_add.trans (ci e15)))) ?_
          refine wo_step (v := (.i .i64 x15)) (s_pure (p_mv rfl)) ?_
          refine wo_nil ?_
          cases hr
          exact ⟨_, _, rfl, rfl, rfl, gl rfl, gl g0⟩
        · obtain ⟨x2_2, x3_2, c4_2⟩ := o_4
          rintro _ mm_9 t_12 ⟨rfl, rfl, g2, g3, g4⟩
          refine bk_ret ?_
          refine bk_ret ?_
          refine nx_ret ?_
          cases hr
          exact ⟨_, _, rfl, ne_norm_ret, rfl, rfl, gl g2, gl g3, gl g4⟩
    · refine w_condF rfl ?_
      refine w_exit ?_
      refine nx_exit ?_
      cases hr
      exact ⟨_, _, rfl, ne_norm_exit, rfl, rfl⟩
  · rcases o_5 with o_5 | o_5
    · rintro _ mm_11 t_13 ⟨rfl, rfl⟩
      refine bk_hit ?_
      refine nx_norm ?_
      refine w_seq ?_
      refine w_ops ?_
      refine wo_step (v := (.i .i64 0)) (s_pure (p_mv rfl)) ?_
      refine wo_step (v := (.i .i64 0)) (s_pure (p_mv rfl)) ?_
      refine wo_step (v := (.b false)) (s_pure (p_mv rfl)) ?_
      refine wo_nil ?_
      refine nx_norm ?_
      refine w_ret ?_
      exact qf ret_ok (rt rfl (rt rfl (rt rfl rn))) hr
    · obtain ⟨x2_3, x3_3, c4_3⟩ := o_5
      rintro _ mm_12 t_14 ⟨rfl, rfl, g2, g3, g4⟩
      refine bk_ret ?_
      refine nx_ret ?_
      exact qf ret_ok (rt g2 (rt g3 (rt g4 rn))) hr

/- dibber/bed.readBed -/
abbrev g59_I0 (v22 : AVal) (v0 : AVal) (x24 : Int) (s : Int × Mm) (m1 : Mm) (t1 : Tr) : Prop :=
  match s with
  | (x25, m_3) => m_3 = m1 ∧ t1.get 25 = (.i .i64 x25) ∧ t1.get 7 = v22 ∧ t1.get 23 = v0 ∧ t1.get 24 = (.i .i64 x24)
abbrev g59_J0 (v22 : AVal) (v0 : AVal) (x24 : Int) (o : Mm) (e : AExit) (m1 : Mm) (t1 : Tr) : Prop :=
  match o with
  | mo => e = (.exit 0) ∧ mo = m1 ∧ t1.get 7 = v22
abbrev g59_I1 (v22 : AVal) (x25 : Int) (v0 : AVal) (x24 : Int) (v29 : AVal) (x31 : Int) (s : Int × Mm) (m1 : Mm) (t1 : Tr) : Prop :=
  match s with
  | (x32, m_4) => m_4 = m1 ∧ t1.get 32 = (.i .i64 x32) ∧ t1.get 7 = v22 ∧ t1.get 8 = (.i .i64 x25) ∧ t1.get 23 = v0 ∧ t1.get 24 = (.i .i64 x24) ∧ t1.get 25 = (.i .i64 x25) ∧ t1.get 30 = v29 ∧ t1.get 31 = (.i .i64 x31)
abbrev g59_J1 (v22 : AVal) (x25 : Int) (v0 : AVal) (x24 : Int) (v29 : AVal) (x31 : Int) (o : Mm) (e : AExit) (m1 : Mm) (t1 : Tr) : Prop :=
  match o with
  | mo => e = (.exit 2) ∧ mo = m1 ∧ t1.get 7 = v22 ∧ t1.get 23 = v0 ∧ t1.get 24 = (.i .i64 x24) ∧ t1.get 25 = (.i .i64 x25)
abbrev g59_J2 (v22 : AVal) (x25 : Int) (v0 : AVal) (x24 : Int) (v29 : AVal) (x31 : Int) (x32 : Int) (o : Mm) (e : AExit) (m1 : Mm) (t1 : Tr) : Prop :=
  match o with
  | mo => e = .norm ∧ mo = m1 ∧ t1.get 7 = v22 ∧ t1.get 8 = (.i .i64 x25) ∧ t1.get 23 = v0 ∧ t1.get 24 = (.i .i64 x24) ∧ t1.get 25 = (.i .i64 x25) ∧ t1.get 30 = v29 ∧ t1.get 31 = (.i .i64 x31) ∧ t1.get 32 = (.i .i64 x32)
def g59_b1 (M : Means) (ro : List ABlk) (v22 : AVal) (x25 : Int) (v0 : AVal) (x24 : Int) (v29 : AVal) (x31 : Int) (x32 : Int) (m_4 : Mm) : Option ((Int × Mm) ⊕ (Mm)) :=
  forceB (ltI x32 x31) fun c33 =>
  cond c33 (
    bindO (evP .e (.ixS 1 (.c v29) (.c (.i .i64 x32)))) fun v35 =>
    bindO (ldM ro m_4 true 1 v35) fun v36 =>
    asI .i64 v36 fun x36 =>
    forceB (!eqI x36 (-1)) fun c38 =>
    bindO (α := Mm) (
      cond c38 (
        bindO ((fillA [(AVal.i IntKind.i64 0), (AVal.i IntKind.i64 0), (AVal.i IntKind.i64 0)] [((0, 1), (.i .i64 x25)), ((1, 1), (.i .i64 x32)), ((2, 1), (.i .i64 x36))]).map AVal.agg) fun v43 =>
        bindP (callM M.call m_4 54 [v22, v43]) fun v44 m_5 =>
        some m_5) (
        some m_4)) fun m_6 =>
    forceI (wr .i64 (x32 + 1)) fun x45 =>
    some (.inl (x45, m_6))) (
    some (.inr m_4))
def g59_b0 (M : Means) (ro : List ABlk) (v22 : AVal) (v0 : AVal) (x24 : Int) (x25 : Int) (m_3 : Mm) : Option ((Int × Mm) ⊕ (Mm)) :=
  forceB (ltI x25 x24) fun c26 =>
  cond c26 (
    bindO (evP .e (.ixS 1 (.c v0) (.c (.i .i64 x25)))) fun v28 =>
    bindO (ldM ro m_3 true 1 v28) fun v29 =>
    bindO (evP .e (.len false (.c v29))) fun v31 =>
    asI .i64 v31 fun x31 =>
    bindO (M.loop (S := Int × Mm) (R := Mm) (fun s => g59_b1 M ro v22 x25 v0 x24 v29 x31 s.1 s.2) (0, m_3)) fun m_7 =>
    forceI (wr .i64 (x25 + 1)) fun x46 =>
    some (.inl (x46, m_7))) (
    some (.inr m_3))
def g59 (M : Means) (ro : List ABlk) (v0 : AVal) (m0 : Mm) : Option (AVal × Heap × Nat × Nat) :=
  bindP (callM M.call m0 19 [v0]) fun v14 m_1 =>
  bindO (evP .e (.ext 0 (.c v14))) fun v15 =>
  asI .i64 v15 fun x15 =>
  bindO (evP .e (.ext 1 (.c v14))) fun v16 =>
  asI .i64 v16 fun x16 =>
  bindO (evP .e (.ext 2 (.c v14))) fun v17 =>
  asI .i64 v17 fun x17 =>
  forceB (!eqI x17 10) fun c19 =>
  cond c19 (
    finM m0.h.length (tupA [(AVal.p none), (.i .i64 2)]) m_1) (
    bindO (evP .e (.len false (.c v0))) fun v21 =>
    asI .i64 v21 fun x21 =>
    bindP (callM M.call m_1 52 [(.i .i64 x21)]) fun v22 m_2 =>
    bindO (evP .e (.len false (.c v0))) fun v24 =>
    asI .i64 v24 fun x24 =>
    bindO (M.loop (S := Int × Mm) (R := Mm) (fun s => g59_b0 M ro v22 v0 x24 s.1 s.2) (0, m_2)) fun m_8 =>
    finM m0.h.length (tupA [v22, (.i .i64 0)]) m_8)

theorem g59_ok {ro : List ABlk} {O : Caller} {M : Means} (hM : M.Ok ⟨F, O⟩ ro) {v0 h r} (ho : O 59 [v0] h = none) (hr : g59 M ro v0 ⟨h, h.length, h.length⟩ = some r) : callX ⟨F, O⟩ ro 59 [v0] h = some r := by
  refine callX_of (F := ⟨F, O⟩) (fn := fn59) (g := g59 M ro v0) ho rfl rfl hr ?_
  clear ho
  clear hr
  intro m0 t0 ht hr
  have g0 : t0.get 0 = v0 := ht 0
  clear ht
  unfold g59 at hr
  refine w_seq ?_
  refine w_ops ?_
  refine wo_step (v := (AVal.p none)) (s_pure (p_mv rfl)) ?_
  refine wo_step (v := (.i .i64 0)) (s_pure (p_mv rfl)) ?_
  refine wo_nil ?_
  refine nx_norm ?_
  refine w_seq ?_
  refine w_seq ?_
  refine w_ops ?_
  refine wo_step (v := v0) (s_pure (p_mv g0)) ?_
  have hq := bindP_inv hr
  clear hr
  obtain ⟨v14, m_1, e14, hr⟩ := hq
  refine wo_step (v := v14) (s_call (mc rfl mn) (callM_le hM.call e14)) ?_
  refine wo_step (v := v14) (s_pure (p_mv rfl)) ?_
  have hq := bindO_inv hr
  clear hr
  obtain ⟨v15, e15, hr⟩ := hq
  have hq := asI_inv hr
  clear hr
  obtain ⟨x15, rfl, hr⟩ := hq
  refine wo_step (v := (.i .i64 x15)) (s_pure (o_ext rfl e15)) ?_
  have hq := bindO_inv hr
  clear hr
  obtain ⟨v16, e16, hr⟩ := hq
  have hq := asI_inv hr
  clear hr
  obtain ⟨x16, rfl, hr⟩ := hq
  refine wo_step (v := (.i .i64 x16)) (s_pure (o_ext rfl e16)) ?_
  have hq := bindO_inv hr
  clear hr
  obtain ⟨v17, e17, hr⟩ := hq
  have hq := asI_inv hr
  clear hr
  obtain ⟨x17, rfl, hr⟩ := hq
  refine wo_step (v := (.i .i64 x17)) (s_pure (o_ext rfl e17)) ?_
  refine wo_step (v := (.i .i64 x15)) (s_pure (p_mv rfl)) ?_
  refine wo_step (v := (.i .i64 x16)) (s_pure (p_mv rfl)) ?_
  refine wo_step (v := (.i .i64 x17)) (s_pure (p_mv rfl)) ?_
  refine wo_nil ?_
  refine nx_norm ?_
  refine w_seq ?_
  refine w_ops ?_
  refine wo_step (v := (.i .i64 x17)) (s_pure (p_mv rfl)) ?_
  have hq := forceB_inv hr
  clear hr
  obtain ⟨c19, e19, hr⟩ := hq
  refine wo_step (v := (.b c19)) (s_pure (p_bin rfl rfl (b_neq.trans (cb e19)))) ?_
  refine wo_nil ?_
  refine nx_norm ?_
  have hq := cond_inv hr
  clear hr
  rcases hq with ⟨rfl, hr⟩ | ⟨rfl, hr⟩
  · refine w_condT rfl ?_
    refine w_seq ?_
    refine w_ops ?_
    refine wo_step (v := (AVal.p none)) (s_pure (p_mv rfl)) ?_
    refine wo_step (v := (.i .i64 2)) (s_pure (p_mv rfl)) ?_
    refine wo_nil ?_
    refine nx_norm ?_
    refine w_ret ?_
    refine nx_ret ?_
    exact qf ret_ok (rt rfl (rt rfl rn)) hr
  · refine w_condF rfl ?_
    refine w_skip ?_
    refine nx_norm ?_
    refine w_seq ?_
    refine w_ops ?_
    refine wo_step (v := v0) (s_pure (p_mv g0)) ?_
    have hq := bindO_inv hr
    clear hr
    obtain ⟨v21, e21, hr⟩ := hq
    have hq := asI_inv hr
    clear hr
    obtain ⟨x21, rfl, hr⟩ := hq
    refine wo_step (v := (.i .i64 x21)) (s_pure (o_len rfl e21)) ?_
    have hq := bindP_inv hr
    clear hr
    obtain ⟨v22, m_2, e22, hr⟩ := hq
    refine wo_step (v := v22) (s_call (mc rfl mn) (callM_le hM.call e22)) ?_
    refine wo_step (v := v22) (s_pure (p_mv rfl)) ?_
    refine wo_nil ?_
    refine nx_norm ?_
    refine w_seq ?_
    refine w_seq ?_
    refine w_ops ?_
    refine wo_step (v := v0) (s_pure (p_mv g0)) ?_
    have hq := bindO_inv hr
    clear hr
    obtain ⟨v24, e24, hr⟩ := hq
    have hq := asI_inv hr
    clear hr
    obtain ⟨x24, rfl, hr⟩ := hq
    refine wo_step (v := (.i .i64 x24)) (s_pure (o_len rfl e24)) ?_
    refine wo_step (v := (.i .i64 0)) (s_pure (p_mv rfl)) ?_
    refine wo_nil ?_
    refine nx_norm ?_
    refine w_block ?_
    have hq := bindO_inv hr
    clear hr
    obtain ⟨o_2, hl_1, hr⟩ := hq
    obtain ⟨n_1, hl_1⟩ := hM.loop _ _ _ hl_1
    refine jp_mono (w_loop _ (g59_I0 v22 v0 x24) (g59_J0 v22 v0 x24) ?_ n_1 _ _ _ _ hl_1 ⟨rfl, gl rfl, gl rfl, gl rfl, gl rfl⟩) ?_
    · clear hr hl_1
      intro s mm_4 t_1 o hi hr
      obtain ⟨x25, m_3⟩ := s
      obtain ⟨rfl, g25, g7, g23, g24⟩ := hi
      unfold g59_b0 at hr
      refine w_seq ?_
      refine w_ops ?_
      have hq := forceB_inv hr
      clear hr
      obtain ⟨c26, e26, hr⟩ := hq
      refine wo_step (v := (.b c26)) (s_pure (p_bin g25 g24 (b_lss.trans (cb e26)))) ?_
      refine wo_nil ?_
      refine nx_norm ?_
      refine w_seq ?_
      have hq := cond_inv hr
      clear hr
      rcases hq with ⟨rfl, hr⟩ | ⟨rfl, hr⟩
      · refine w_condT rfl ?_
        refine w_skip ?_
        refine nx_norm ?_
        refine w_seq ?_
        refine w_block ?_
        refine w_seq ?_
        refine w_ops ?_
        refine wo_step (v := (.i .i64 x25)) (s_pure (p_mv g25)) ?_
        have hq := bindO_inv hr
        clear hr
        obtain ⟨v28, e28, hr⟩ := hq
        refine wo_step (v := v28) (s_pure (o_ixS g23 g25 e28)) ?_
        have hq := bindO_inv hr
        clear hr
        obtain ⟨v29, e29, hr⟩ := hq
        refine wo_step (v := v29) (s_ld rfl e29) ?_
        refine wo_step (v := (.i .i64 x25)) (s_pure (p_mv rfl)) ?_
        refine wo_step (v := v29) (s_pure (p_mv rfl)) ?_
        refine wo_nil ?_
        refine nx_norm ?_
        refine w_seq ?_
        refine w_ops ?_
        refine wo_step (v := v29) (s_pure (p_mv rfl)) ?_
        have hq := bindO_inv hr
        clear hr
        obtain ⟨v31, e31, hr⟩ := hq
        have hq := asI_inv hr
        clear hr
        obtain ⟨x31, rfl, hr⟩ := hq
        refine wo_step (v := (.i .i64 x31)) (s_pure (o_len rfl e31)) ?_
        refine wo_step (v := (.i .i64 0)) (s_pure (p_mv rfl)) ?_
        refine wo_nil ?_
        refine nx_norm ?_
        refine w_block ?_
        have hq := bindO_inv hr
        clear hr
        obtain ⟨o_1, hl, hr⟩ := hq
        obtain ⟨n, hl⟩ := hM.loop _ _ _ hl
        refine jp_mono (w_loop _ (g59_I1 v22 x25 v0 x24 v29 x31) (g59_J1 v22 x25 v0 x24 v29 x31) ?_ n _ _ _ _ hl ⟨rfl, gl rfl, gl g7, gl rfl, gl g23, gl g24, gl g25, gl rfl, gl rfl⟩) ?_
        · clear hr hl
          intro s mm_2 t_2 o hi hr
          obtain ⟨x32, m_4⟩ := s
          obtain ⟨rfl, g32, g7, g8, g23, g24, g25, g30, g31⟩ := hi
          unfold g59_b1 at hr
          refine w_seq ?_
          refine w_ops ?_
          have hq := forceB_inv hr
          clear hr
          obtain ⟨c33, e33, hr⟩ := hq
          refine wo_step (v := (.b c33)) (s_pure (p_bin g32 g31 (b_lss.trans (cb e33)))) ?_
          refine wo_nil ?_
          refine nx_norm ?_
          refine w_seq ?_
          have hq := cond_inv hr
          clear hr
          rcases hq with ⟨rfl, hr⟩ | ⟨rfl, hr⟩
          · refine w_condT rfl ?_
            refine w_skip ?_
            refine nx_norm ?_
            refine w_seq ?_
            refine w_block ?_
            refine w_seq ?_
            refine w_ops ?_
            refine wo_step (v := (.i .i64 x32)) (s_pure (p_mv g32)) ?_
            have hq := bindO_inv hr
            clear hr
            obtain ⟨v35, e35, hr⟩ := hq
            refine wo_step (v := v35) (s_pure (o_ixS g30 g32 e35)) ?_
            have hq := bindO_inv hr
            clear hr
            obtain ⟨v36, e36, hr⟩ := hq
            have hq := asI_inv hr
            clear hr
            obtain ⟨x36, rfl, hr⟩ := hq
            refine wo_step (v := (.i .i64 x36)) (s_ld rfl e36) ?_
            refine wo_step (v := (.i .i64 x32)) (s_pure (p_mv rfl)) ?_
            refine wo_step (v := (.i .i64 x36)) (s_pure (p_mv rfl)) ?_
            refine wo_nil ?_
            refine nx_norm ?_
            refine w_seq ?_
            refine w_ops ?_
            refine wo_step (v := (.i .i64 x36)) (s_pure (p_mv rfl)) ?_
            have hq := forceB_inv hr
            clear hr
            obtain ⟨c38, e38, hr⟩ := hq
            refine wo_step (v := (.b c38)) (s_pure (p_bin rfl rfl (b_neq.trans (cb e38)))) ?_
            refine wo_nil ?_
            refine nx_norm ?_
            have hq := bindO_inv hr
            clear hr
            obtain ⟨o, hr, hk⟩ := hq
            refine jp_mono (J := g59_J2 v22 x25 v0 x24 v29 x31 x32 o) ?_ ?_
            · clear hk
              have hq := cond_inv hr
              clear hr
              rcases hq with ⟨rfl, hr⟩ | ⟨rfl, hr⟩
              · refine w_condT rfl ?_
                refine w_ops ?_
                refine wo_step (v := v22) (s_pure (p_mv g7)) ?_
                refine wo_step (v := (.i .i64 x25)) (s_pure (p_mv g8)) ?_
                refine wo_step (v := (.i .i64 x32)) (s_pure (p_mv rfl)) ?_
                refine wo_step (v := (.i .i64 x36)) (s_pure (p_mv rfl)) ?_
                have hq := bindO_inv hr
                clear hr
                obtain ⟨v43, e43, hr⟩ := hq
                refine wo_step (v := v43) (s_pure (o_build (qc rfl (qc rfl (qc rfl qn))) e43)) ?_
                have hq := bindP_inv hr
                clear hr
                obtain ⟨v44, m_5, e44, hr⟩ := hq
                refine wo_step (v := v44) (s_call (mc rfl (mc rfl mn)) (callM_le hM.call e44)) ?_
                refine wo_nil ?_
                cases hr
                exact ⟨_, _, rfl, rfl, rfl, gl g7, gl g8, gl g23, gl g24, gl g25, gl g30, gl g31, gl g32⟩
              · refine w_condF rfl ?_
                refine w_skip ?_
                cases hr
                exact ⟨_, _, rfl, rfl, rfl, gl g7, gl g8, gl g23, gl g24, gl g25, gl g30, gl g31, gl g32⟩
            · have hr := hk
              clear hk
              obtain ⟨m_6, ho⟩ : ∃ z, z = o := ⟨_, rfl⟩
              subst ho
              rintro _ mm t_3 ⟨rfl, rfl, g7, g8, g23, g24, g25, g30, g31, g32⟩
              refine bk_norm ?_
              refine nx_norm ?_
              refine w_ops ?_
              have hq := forceI_inv hr
              clear hr
              obtain ⟨x45, e45, hr⟩ := hq
              refine wo_step (v := (.i .i64 x45)) (s_pure (p_bin g32 rfl (b_add.trans (ci e45)))) ?_
              refine wo_step (v := (.i .i64 x45)) (s_pure (p_mv rfl)) ?_
              refine wo_nil ?_
              cases hr
              exact ⟨_, _, rfl, rfl, rfl, gl rfl, gl g7, gl g8, gl g23, gl g24, gl g25, gl g30, gl g31⟩
          · refine w_condF rfl ?_
            refine w_exit ?_
            refine nx_exit ?_
            cases hr
            exact ⟨_, _, rfl, ne_norm_exit, rfl, rfl, gl g7, gl g23, gl g24, gl g25⟩
        · obtain ⟨m_7, ho⟩ : ∃ z, z = o_1 := ⟨_, rfl⟩
          subst ho
          rintro _ mm_1 t_4 ⟨rfl, rfl, g7, g23, g24, g25⟩
          refine bk_hit ?_
          refine bk_norm ?_
          refine nx_norm ?_
          refine w_ops ?_
          have hq := forceI_inv hr
          clear hr
          obtain ⟨x46, e46, hr⟩ := hq
          refine wo_step (v := (.i .i64 x46)) (s_pure (p_bin g25 rfl (b_add.trans (ci e46)))) ?_
          refine wo_step (v := (.i .i64 x46)) (s_pure (p_mv rfl)) ?_
          refine wo_nil ?_
          cases hr
          exact ⟨_, _, rfl, rfl, rfl, gl rfl, gl g7, gl g23, gl g24⟩
      · refine w_condF rfl ?_
        refine w_exit ?_
        refine nx_exit ?_
        cases hr
        exact ⟨_, _, rfl, ne_norm_exit, rfl, rfl, gl g7⟩
    · obtain ⟨m_8, ho⟩ : ∃ z, z = o_2 := ⟨_, rfl⟩
      subst ho
      rintro _ mm_3 t_5 ⟨rfl, rfl, g7⟩
      refine bk_hit ?_
      refine nx_norm ?_
      refine w_seq ?_
      refine w_ops ?_
      refine wo_step (v := v22) (s_pure (p_mv g7)) ?_
      refine wo_step (v := v22) (s_pure (p_mv rfl)) ?_
      refine wo_step (v := (.i .i64 0)) (s_pure (p_mv rfl)) ?_
      refine wo_nil ?_
      refine nx_norm ?_
      refine w_ret ?_
      exact qf ret_ok (rt rfl (rt rfl rn)) hr

end Go.Proofs.Ytllmlonngnhbfaa.Bed

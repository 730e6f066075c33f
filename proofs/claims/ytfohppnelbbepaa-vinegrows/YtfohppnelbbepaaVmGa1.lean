/- Plain functions, and that the small machine answers as they do. -/
import Derived.Test.YtfohppnelbbepaaVmP
import Derived.Test.YtfohppnelbbepaaVmAE
open Go.Vm
set_option linter.unusedVariables false
namespace Go.Proofs.Ytfohppnelbbepaa.T
open Go
/- (dibber/vine.rules).from-1-1 -/
abbrev g91_I0 (s0 : List UInt8) (x1 : Int) (v2 : AVal) (v3 : AVal) (v4 : AVal) (v5 : AVal) (v6 : AVal) (x14 : Int) (s : Int × Mm) (m1 : Mm) (t1 : Tr) : Prop :=
  match s with
  | (x15, m_1) => m_1 = m1 ∧ t1.get 15 = (.i .i64 x15) ∧ t1.get 0 = (.s s0) ∧ t1.get 1 = (.i .i64 x1) ∧ t1.get 2 = v2 ∧ t1.get 3 = v3 ∧ t1.get 4 = v4 ∧ t1.get 5 = v5 ∧ t1.get 6 = v6 ∧ t1.get 14 = (.i .i64 x14)
abbrev g91_J0 (s0 : List UInt8) (x1 : Int) (v2 : AVal) (v3 : AVal) (v4 : AVal) (v5 : AVal) (v6 : AVal) (x14 : Int) (o : (Mm ⊕ (Bool × Mm))) (e : AExit) (m1 : Mm) (t1 : Tr) : Prop :=
  match o with
  | (.inl mo) => e = (.exit 0) ∧ mo = m1
  | (.inr (y9, mo)) => e = .ret ∧ mo = m1 ∧ t1.get 9 = (.b y9)
abbrev g91_J1 (s0 : List UInt8) (x1 : Int) (v2 : AVal) (v3 : AVal) (v4 : AVal) (v5 : AVal) (v6 : AVal) (x14 : Int) (x15 : Int) (o : (Mm ⊕ (Bool × Mm))) (e : AExit) (m1 : Mm) (t1 : Tr) : Prop :=
  match o with
  | (.inl mo) => e = .norm ∧ mo = m1 ∧ t1.get 0 = (.s s0) ∧ t1.get 1 = (.i .i64 x1) ∧ t1.get 2 = v2 ∧ t1.get 3 = v3 ∧ t1.get 4 = v4 ∧ t1.get 5 = v5 ∧ t1.get 6 = v6 ∧ t1.get 14 = (.i .i64 x14) ∧ t1.get 15 = (.i .i64 x15)
  | (.inr (y9, mo)) => e = .ret ∧ mo = m1 ∧ t1.get 9 = (.b y9)
abbrev g91_J2 (s0 : List UInt8) (x1 : Int) (v2 : AVal) (v3 : AVal) (v4 : AVal) (v5 : AVal) (v6 : AVal) (x14 : Int) (x15 : Int) (o : (Mm ⊕ (Bool × Mm))) (e : AExit) (m1 : Mm) (t1 : Tr) : Prop :=
  match o with
  | (.inl mo) => e = .norm ∧ mo = m1 ∧ t1.get 0 = (.s s0) ∧ t1.get 1 = (.i .i64 x1) ∧ t1.get 2 = v2 ∧ t1.get 3 = v3 ∧ t1.get 4 = v4 ∧ t1.get 5 = v5 ∧ t1.get 6 = v6 ∧ t1.get 14 = (.i .i64 x14) ∧ t1.get 15 = (.i .i64 x15)
  | (.inr (y9, mo)) => e = .ret ∧ mo = m1 ∧ t1.get 9 = (.b y9)
def g91_b0 (M : Means) (ro : List ABlk) (s0 : List UInt8) (x1 : Int) (v2 : AVal) (v3 : AVal) (v4 : AVal) (v5 : AVal) (v6 : AVal) (x14 : Int) (x15 : Int) (m_1 : Mm) : Option ((Int × Mm) ⊕ ((Mm ⊕ (Bool × Mm)))) :=
  forceB (ltI x15 x14) fun c16 =>
  cond c16 (
    bindO (evP .e (.ixStr (.c (.s s0)) (.c (.i .i64 x15)))) fun v20 =>
    asI .u8 v20 fun x20 =>
    bindP (callM M.call m_1 54 [(.i .u8 x20)]) fun v21 m_2 =>
    asI .i64 v21 fun x21 =>
    bindO (ldM ro m_2 true 1 v2) fun v22 =>
    bindO (evP .e (.ixS 1 (.c v22) (.c (.i .i64 x1)))) fun v24 =>
    bindO (ldM ro m_2 true 1 v24) fun v25 =>
    bindO (evP .e (.ixS 1 (.c v25) (.c (.i .i64 x21)))) fun v27 =>
    bindO (ldM ro m_2 true 1 v27) fun v28 =>
    asI .u64 v28 fun x28 =>
    bindO (ldM ro m_2 true 1 v3) fun v30 =>
    asI .u64 v30 fun x30 =>
    forceB (!ltI x30 x28) fun c31 =>
    bindO (α := (Mm ⊕ (Bool × Mm))) (
      cond c31 (
        bindO (ldM ro m_2 true 1 v3) fun v32 =>
        asI .u64 v32 fun x32 =>
        forceI (wr .u64 (x32 - x28)) fun x34 =>
        bindP (stepM ro m_2 (.st 1 (.c v3) (.c (.i .u64 x34)))) fun vn m_3 =>
        some (.inl m_3)) (
        forceB (eqI x1 0) fun c36 =>
        bindO (α := (Mm ⊕ (Bool × Mm))) (
          cond c36 (
            bindO (evP .e (.ixStr (.c (.s s0)) (.c (.i .i64 x15)))) fun v40 =>
            asI .u8 v40 fun x40 =>
            bindO (ldM ro m_2 true 1 v4) fun v37 =>
            bindP (callyM M.call M.round m_2 v37 [(.i .u8 x40)]) fun v41 m_4 =>
            asB v41 fun c41 =>
            forceB (!c41) fun c42 =>
            cond c42 (
              some (.inr (false, m_4))) (
              some (.inl m_4))) (
            bindO (some (Mm.base m_2)) fun m_5 =>
            bindO (ldM ro m_5 true 1 v5) fun v43 =>
            bindO (ldM ro m_5 true 1 v6) fun v44 =>
            bindO (evP .e (.ixS 1 (.c v44) (.c (.i .i64 x21)))) fun v46 =>
            bindO (ldM ro m_5 true 1 v46) fun v47 =>
            asS v47 fun s47 =>
            forceI (wr .i64 (x1 - 1)) fun x49 =>
            bindP (callvM M.call m_5 v43 [(.s s47), (.i .i64 x49)]) fun v50 m_6 =>
            asB v50 fun c50 =>
            forceB (!c50) fun c51 =>
            bindO (some (Mm.join m_2 m_6)) fun m_7 =>
            cond c51 (
              some (.inr (false, m_7))) (
              some (.inl m_7)))) fun o_1 => match o_1 with
        | (.inl m_8) =>
          some (.inl m_8)
        | (.inr (c9, m_9)) =>
          some (.inr (c9, m_9)))) fun o => match o with
    | (.inl m_10) =>
      forceI (wr .i64 (x15 + 1)) fun x52 =>
      some (.inl (x52, m_10))
    | (.inr (c9_1, m_11)) =>
      some (.inr (.inr (c9_1, m_11)))) (
    some (.inr (.inl m_1)))
def g91 (M : Means) (ro : List ABlk) (s0 : List UInt8) (x1 : Int) (v2 : AVal) (v3 : AVal) (v4 : AVal) (v5 : AVal) (v6 : AVal) (m0 : Mm) : Option (AVal × Heap × Nat × Nat) :=
  bindO (evP .e (.len true (.c (.s s0)))) fun v14 =>
  asI .i64 v14 fun x14 =>
  bindO (M.loop (S := Int × Mm) (R := (Mm ⊕ (Bool × Mm))) (fun s => g91_b0 M ro s0 x1 v2 v3 v4 v5 v6 x14 s.1 s.2) (0, m0)) fun o_2 => match o_2 with
  | (.inl m_12) =>
    finM m0.h.length (tupA [(.b true)]) m_12
  | (.inr (c9_2, m_13)) =>
    finM m0.h.length (tupA [(.b c9_2)]) m_13
theorem g91_ok {ro : List ABlk} {O : Caller} {M : Means} (hM : M.Ok ⟨F, O⟩ ro) {s0 x1 v2 v3 v4 v5 v6 h r} (ho : O 91 [(.s s0), (.i .i64 x1), v2, v3, v4, v5, v6] h = none) (hr : g91 M ro s0 x1 v2 v3 v4 v5 v6 ⟨h, h.length, h.length⟩ = some r) : callX ⟨F, O⟩ ro 91 [(.s s0), (.i .i64 x1), v2, v3, v4, v5, v6] h = some r := by
  refine callX_of (F := ⟨F, O⟩) (fn := fn91) (g := g91 M ro s0 x1 v2 v3 v4 v5 v6) ho rfl rfl hr ?_
  clear ho
  clear hr
  intro m0 t0 ht hr
  have g0 : t0.get 0 = (.s s0) := ht 0
  have g1 : t0.get 1 = (.i .i64 x1) := ht 1
  have g2 : t0.get 2 = v2 := ht 2
  have g3 : t0.get 3 = v3 := ht 3
  have g4 : t0.get 4 = v4 := ht 4
  have g5 : t0.get 5 = v5 := ht 5
  have g6 : t0.get 6 = v6 := ht 6
  clear ht
  unfold g91 at hr
  refine w_seq (w_ops (wo_step (v := (.b false)) (s_pure (p_mv rfl)) (wo_nil (nx_norm (w_seq (w_seq (w_ops (wo_step (s_pure (p_mv g0)) ?_))))))))
  obtain ⟨v14, e14, z1⟩ := bindO_inv hr
  obtain ⟨x14, rfl, z2⟩ := asI_inv z1
  refine wo_step (s_pure (o_len rfl e14)) (wo_step (v := (.i .i64 0)) (s_pure (p_mv rfl)) (wo_nil (nx_norm ?_)))
  refine w_block ?_
  obtain ⟨o_2, hl, z3⟩ := bindO_inv z2
  obtain ⟨n, hl⟩ := hM.loop _ _ _ hl
  refine jp_mono (w_loop _ (g91_I0 s0 x1 v2 v3 v4 v5 v6 x14) (g91_J0 s0 x1 v2 v3 v4 v5 v6 x14) ?_ n _ _ _ _ hl ⟨rfl, gl rfl, gl g0, gl g1, gl g2, gl g3, gl g4, gl g5, gl g6, gl rfl⟩) ?_
  · clear z3 hl
    intro s mm_6 t_1 o hi hr
    obtain ⟨x15, m_1⟩ := s
    obtain ⟨rfl, g15, g0, g1, g2, g3, g4, g5, g6, g14⟩ := hi
    unfold g91_b0 at hr
    refine w_seq (w_ops ?_)
    obtain ⟨c16, e16, z4⟩ := forceB_inv hr
    refine wo_step (s_pure (p_bin g15 g14 (b_lss.trans (cb e16)))) (wo_nil (nx_norm (w_seq ?_)))
    rcases cond_inv z4 with ⟨rfl, z5⟩ | ⟨rfl, z5⟩
    · refine w_condT rfl ?_
      refine w_skip (nx_norm (w_seq ?_))
      refine w_block ?_
      refine w_seq (w_ops (wo_step (s_pure (p_mv g15)) (wo_step (v := (.i .i64 x15)) (s_pure (p_mv rfl)) (wo_nil (nx_norm (w_seq (w_ops (wo_step (s_pure (p_mv g0)) (wo_step (v := (.i .i64 x15)) (s_pure (p_mv rfl)) ?_)))))))))
      obtain ⟨v20, e20, z6⟩ := bindO_inv z5
      obtain ⟨x20, rfl, z7⟩ := asI_inv z6
      refine wo_step (s_pure (o_ixStr rfl rfl e20)) ?_
      obtain ⟨v21, m_2, e21, z8⟩ := bindP_inv z7
      obtain ⟨x21, rfl, z9⟩ := asI_inv z8
      refine wo_step (s_call (mc rfl mn) (callM_le hM.call e21)) (wo_step (v := (.i .i64 x21)) (s_pure (p_mv rfl)) (wo_nil (nx_norm (w_seq (w_ops ?_)))))
      obtain ⟨v22, e22, z10⟩ := bindO_inv z9
      refine wo_step (s_ld g2 e22) (wo_step (s_pure (p_mv g1)) ?_)
      obtain ⟨v24, e24, z11⟩ := bindO_inv z10
      refine wo_step (s_pure (o_ixS rfl rfl e24)) ?_
      obtain ⟨v25, e25, z12⟩ := bindO_inv z11
      refine wo_step (s_ld rfl e25) (wo_step (v := (.i .i64 x21)) (s_pure (p_mv rfl)) ?_)
      obtain ⟨v27, e27, z13⟩ := bindO_inv z12
      refine wo_step (s_pure (o_ixS rfl rfl e27)) ?_
      obtain ⟨v28, e28, z14⟩ := bindO_inv z13
      obtain ⟨x28, rfl, z15⟩ := asI_inv z14
      refine wo_step (s_ld rfl e28) (wo_step (v := (.i .u64 x28)) (s_pure (p_mv rfl)) (wo_nil (nx_norm (w_seq (w_ops (wo_step (v := (.i .u64 x28)) (s_pure (p_mv rfl)) ?_))))))
      obtain ⟨v30, e30, z16⟩ := bindO_inv z15
      obtain ⟨x30, rfl, z17⟩ := asI_inv z16
      refine wo_step (s_ld g3 e30) ?_
      obtain ⟨c31, e31, z18⟩ := forceB_inv z17
      refine wo_step (s_pure (p_bin rfl rfl (b_leq.trans (cb e31)))) (wo_nil (nx_norm ?_))
      obtain ⟨o, z19, hk⟩ := bindO_inv z18
      refine jp_mono (J := g91_J1 s0 x1 v2 v3 v4 v5 v6 x14 x15 o) ?_ ?_
      · clear hk
        rcases cond_inv z19 with ⟨rfl, z20⟩ | ⟨rfl, z20⟩
        · refine w_condT rfl ?_
          refine w_ops ?_
          obtain ⟨v32, e32, z21⟩ := bindO_inv z20
          obtain ⟨x32, rfl, z22⟩ := asI_inv z21
          refine wo_step (s_ld g3 e32) (wo_step (v := (.i .u64 x28)) (s_pure (p_mv rfl)) ?_)
          obtain ⟨x34, e34, z23⟩ := forceI_inv z22
          refine wo_step (s_pure (p_bin rfl rfl (b_sub.trans (ci e34)))) ?_
          obtain ⟨vn, m_3, en, z24⟩ := bindP_inv z23
          refine wo_stepN (s_st g3 rfl en) ?_
          refine wo_nil ?_
          cases z24
          exact ⟨_, _, rfl, rfl, rfl, gl g0, gl g1, gl g2, gl g3, gl g4, gl g5, gl g6, gl g14, gl g15⟩
        · refine w_condF rfl ?_
          refine w_seq (w_ops (wo_step (s_pure (p_mv g1)) ?_))
          obtain ⟨c36, e36, z25⟩ := forceB_inv z20
          refine wo_step (s_pure (p_bin rfl rfl (b_eql.trans (cb e36)))) (wo_nil (nx_norm ?_))
          obtain ⟨o_1, z26, hk⟩ := bindO_inv z25
          refine jp_mono (J := g91_J2 s0 x1 v2 v3 v4 v5 v6 x14 x15 o_1) ?_ ?_
          · clear hk
            rcases cond_inv z26 with ⟨rfl, z27⟩ | ⟨rfl, z27⟩
            · refine w_condT rfl ?_
              refine w_seq ?_
              refine w_opsY ?_
              refine wy_step (v := (.s s0)) (y_C (s_pure (p_mv g0))) ?_
              refine wy_step (v := (.i .i64 x15)) (y_C (s_pure (p_mv rfl))) ?_
              obtain ⟨v40, e40, z28⟩ := bindO_inv z27
              obtain ⟨x40, rfl, z29⟩ := asI_inv z28
              refine wy_step (v := (.i .u8 x40)) (y_C (s_pure (o_ixStr rfl rfl e40))) ?_
              obtain ⟨v37, e37, z30⟩ := bindO_inv z29
              refine wy_step (v := v37) (y_C (s_ld g4 e37)) ?_
              obtain ⟨v41, m_4, e41, z31⟩ := bindP_inv z30
              obtain ⟨c41, rfl, z32⟩ := asB_inv z31
              refine wy_step (v := (.b c41)) (y_callv rfl (mc rfl mn) (callyM_le hM.call hM.round e41)) ?_
              obtain ⟨c42, e42, z33⟩ := forceB_inv z32
              refine wy_step (v := (.b c42)) (y_C (s_pure ((p_not rfl).trans (cb e42)))) ?_
              refine wy_nil ?_
              refine nx_norm ?_
              rcases cond_inv z33 with ⟨rfl, z34⟩ | ⟨rfl, z34⟩
              · refine w_condT rfl ?_
                refine w_seq (w_ops (wo_step (v := (.b false)) (s_pure (p_mv rfl)) (wo_nil (nx_norm ?_))))
                refine w_ret ?_
                cases z34
                exact ⟨_, _, rfl, rfl, rfl, gl rfl⟩
              · refine w_condF rfl ?_
                refine w_skip ?_
                cases z34
                exact ⟨_, _, rfl, rfl, rfl, gl g0, gl g1, gl g2, gl g3, gl g4, gl g5, gl g6, gl g14, gl g15⟩
            · refine w_condF rfl ?_
              refine w_seq ?_
              obtain ⟨m_5, ef, z35⟩ := bindO_inv z27
              refine w_flt (af := false) rfl ef ?_
              obtain ⟨v43, e43, z36⟩ := bindO_inv z35
              refine wf_step (v := v43) (f_P rfl (s_ld g5 e43)) ?_
              obtain ⟨v44, e44, z37⟩ := bindO_inv z36
              refine wf_step (v := v44) (f_P rfl (s_ld g6 e44)) ?_
              refine wf_step (v := (.i .i64 x21)) (f_P rfl (s_pure (p_mv rfl))) ?_
              obtain ⟨v46, e46, z38⟩ := bindO_inv z37
              refine wf_step (v := v46) (f_P rfl (s_pure (o_ixS rfl rfl e46))) ?_
              obtain ⟨v47, e47, z39⟩ := bindO_inv z38
              obtain ⟨s47, rfl, z40⟩ := asS_inv z39
              refine wf_step (v := (.s s47)) (f_P rfl (s_ld rfl e47)) ?_
              refine wf_step (v := (.i .i64 x1)) (f_P rfl (s_pure (p_mv g1))) ?_
              obtain ⟨x49, e49, z41⟩ := forceI_inv z40
              refine wf_step (v := (.i .i64 x49)) (f_P rfl (s_pure (p_bin rfl rfl (b_sub.trans (ci e49))))) ?_
              obtain ⟨v50, m_6, e50, z42⟩ := bindP_inv z41
              obtain ⟨c50, rfl, z43⟩ := asB_inv z42
              refine wf_step (v := (.b c50)) (f_N (s_callv rfl (mc rfl (mc rfl mn)) (callvM_le hM.call e50))) ?_
              obtain ⟨c51, e51, z44⟩ := forceB_inv z43
              refine wf_step (v := (.b c51)) (f_P rfl (s_pure ((p_not rfl).trans (cb e51)))) ?_
              obtain ⟨m_7, ef_1, z45⟩ := bindO_inv z44
              refine wf_end ef_1 ?_
              refine nx_norm ?_
              rcases cond_inv z45 with ⟨rfl, z46⟩ | ⟨rfl, z46⟩
              · refine w_condT rfl ?_
                refine w_seq (w_ops (wo_step (v := (.b false)) (s_pure (p_mv rfl)) (wo_nil (nx_norm ?_))))
                refine w_ret ?_
                cases z46
                exact ⟨_, _, rfl, rfl, rfl, gl rfl⟩
              · refine w_condF rfl ?_
                refine w_skip ?_
                cases z46
                exact ⟨_, _, rfl, rfl, rfl, gl g0, gl g1, gl g2, gl g3, gl g4, gl g5, gl g6, gl g14, gl g15⟩
          · clear z26
            have hr := hk
            clear hk
            rcases o_1 with o_1 | o_1
            · obtain ⟨m_8, ho⟩ : ∃ z, z = o_1 := ⟨_, rfl⟩
              subst ho
              rintro _ mm t_2 ⟨rfl, rfl, g0, g1, g2, g3, g4, g5, g6, g14, g15⟩
              cases hr
              exact ⟨_, _, rfl, rfl, rfl, gl g0, gl g1, gl g2, gl g3, gl g4, gl g5, gl g6, gl g14, gl g15⟩
            · obtain ⟨c9, m_9⟩ := o_1
              rintro _ mm_1 t_3 ⟨rfl, rfl, g9⟩
              cases hr
              exact ⟨_, _, rfl, rfl, rfl, gl g9⟩
      · clear z19
        have hr := hk
        clear hk
        rcases o with o | o
        · obtain ⟨m_10, ho⟩ : ∃ z, z = o := ⟨_, rfl⟩
          subst ho
          rintro _ mm_2 t_4 ⟨rfl, rfl, g0, g1, g2, g3, g4, g5, g6, g14, g15⟩
          refine bk_norm ?_
          refine nx_norm (w_ops ?_)
          obtain ⟨x52, e52, z47⟩ := forceI_inv hr
          refine wo_step (s_pure (p_bin g15 rfl (b_add.trans (ci e52)))) (wo_step (v := (.i .i64 x52)) (s_pure (p_mv rfl)) (wo_nil ?_))
          cases z47
          exact ⟨_, _, rfl, rfl, rfl, gl rfl, gl g0, gl g1, gl g2, gl g3, gl g4, gl g5, gl g6, gl g14⟩
        · obtain ⟨c9_1, m_11⟩ := o
          rintro _ mm_3 t_5 ⟨rfl, rfl, g9⟩
          refine bk_ret ?_
          refine nx_ret ?_
          cases hr
          exact ⟨_, _, rfl, ne_norm_ret, rfl, rfl, gl g9⟩
    · refine w_condF rfl ?_
      refine w_exit ?_
      refine nx_exit ?_
      cases z5
      exact ⟨_, _, rfl, ne_norm_exit, rfl, rfl⟩
  · rcases o_2 with o_2 | o_2
    · obtain ⟨m_12, ho⟩ : ∃ z, z = o_2 := ⟨_, rfl⟩
      subst ho
      rintro _ mm_4 t_6 ⟨rfl, rfl⟩
      refine bk_hit ?_
      refine nx_norm (w_seq (w_ops (wo_step (v := (.b true)) (s_pure (p_mv rfl)) (wo_nil (nx_norm ?_)))))
      refine w_ret ?_
      exact qf ret_ok (rt rfl rn) z3
    · obtain ⟨c9_2, m_13⟩ := o_2
      rintro _ mm_5 t_7 ⟨rfl, rfl, g9⟩
      refine bk_ret ?_
      refine nx_ret ?_
      exact qf ret_ok (rt g9 rn) z3
/- (dibber/vine.rules).has -/
abbrev g92_I0 (v0 : AVal) (s1 : List UInt8) (x8 : Int) (s : Int × Mm) (m1 : Mm) (t1 : Tr) : Prop :=
  match s with
  | (x9, m_1) => m_1 = m1 ∧ t1.get 9 = (.i .i64 x9) ∧ t1.get 0 = v0 ∧ t1.get 1 = (.s s1) ∧ t1.get 8 = (.i .i64 x8)
abbrev g92_J0 (v0 : AVal) (s1 : List UInt8) (x8 : Int) (o : (Mm ⊕ (Bool × Mm))) (e : AExit) (m1 : Mm) (t1 : Tr) : Prop :=
  match o with
  | (.inl mo) => e = (.exit 0) ∧ mo = m1
  | (.inr (y4, mo)) => e = .ret ∧ mo = m1 ∧ t1.get 4 = (.b y4)
abbrev g92_J1 (v0 : AVal) (s1 : List UInt8) (x8 : Int) (x9 : Int) (m_2 : Mm) (o : Bool) (m1 : Mm) (t1 : Tr) : Prop :=
  match o with
  | c23 => m_2 = m1 ∧ t1.get 23 = (.b c23) ∧ t1.get 0 = v0 ∧ t1.get 1 = (.s s1) ∧ t1.get 8 = (.i .i64 x8) ∧ t1.get 9 = (.i .i64 x9)
def g92_b0 (M : Means) (ro : List ABlk) (v0 : AVal) (s1 : List UInt8) (x8 : Int) (x9 : Int) (m_1 : Mm) : Option ((Int × Mm) ⊕ ((Mm ⊕ (Bool × Mm)))) :=
  forceB (ltI x9 x8) fun c10 =>
  cond c10 (
    bindO (evP .e (.ixStr (.c (.s s1)) (.c (.i .i64 x9)))) fun v14 =>
    asI .u8 v14 fun x14 =>
    bindP (callM M.call m_1 54 [(.i .u8 x14)]) fun v15 m_2 =>
    asI .i64 v15 fun x15 =>
    forceB (ltI x15 0) fun c17 =>
    bindO (cond c17 (
      some true) (
      bindO (evP .e (.len false (.c v0))) fun v21 =>
      asI .i64 v21 fun x21 =>
      forceB (!ltI x15 x21) fun c22 =>
      some c22)) fun c23 =>
    cond c23 (
      some (.inr (.inr (false, m_2)))) (
      forceI (wr .i64 (x9 + 1)) fun x24 =>
      some (.inl (x24, m_2)))) (
    some (.inr (.inl m_1)))
def g92 (M : Means) (ro : List ABlk) (v0 : AVal) (s1 : List UInt8) (m0 : Mm) : Option (AVal × Heap × Nat × Nat) :=
  bindO (evP .e (.len true (.c (.s s1)))) fun v8 =>
  asI .i64 v8 fun x8 =>
  bindO (M.loop (S := Int × Mm) (R := (Mm ⊕ (Bool × Mm))) (fun s => g92_b0 M ro v0 s1 x8 s.1 s.2) (0, m0)) fun o_1 => match o_1 with
  | (.inl m_3) =>
    finM m0.h.length (tupA [(.b true)]) m_3
  | (.inr (c4, m_4)) =>
    finM m0.h.length (tupA [(.b c4)]) m_4
theorem g92_ok {ro : List ABlk} {O : Caller} {M : Means} (hM : M.Ok ⟨F, O⟩ ro) {v0 s1 h r} (ho : O 92 [v0, (.s s1)] h = none) (hr : g92 M ro v0 s1 ⟨h, h.length, h.length⟩ = some r) : callX ⟨F, O⟩ ro 92 [v0, (.s s1)] h = some r := by
  refine callX_of (F := ⟨F, O⟩) (fn := fn92) (g := g92 M ro v0 s1) ho rfl rfl hr ?_
  clear ho
  clear hr
  intro m0 t0 ht hr
  have g0 : t0.get 0 = v0 := ht 0
  have g1 : t0.get 1 = (.s s1) := ht 1
  clear ht
  unfold g92 at hr
  refine w_seq (w_ops (wo_step (v := (.b false)) (s_pure (p_mv rfl)) (wo_nil (nx_norm (w_seq (w_seq (w_ops (wo_step (s_pure (p_mv g1)) ?_))))))))
  obtain ⟨v8, e8, z1⟩ := bindO_inv hr
  obtain ⟨x8, rfl, z2⟩ := asI_inv z1
  refine wo_step (s_pure (o_len rfl e8)) (wo_step (v := (.i .i64 0)) (s_pure (p_mv rfl)) (wo_nil (nx_norm ?_)))
  refine w_block ?_
  obtain ⟨o_1, hl, z3⟩ := bindO_inv z2
  obtain ⟨n, hl⟩ := hM.loop _ _ _ hl
  refine jp_mono (w_loop _ (g92_I0 v0 s1 x8) (g92_J0 v0 s1 x8) ?_ n _ _ _ _ hl ⟨rfl, gl rfl, gl g0, gl g1, gl rfl⟩) ?_
  · clear z3 hl
    intro s mm_3 t_1 o hi hr
    obtain ⟨x9, m_1⟩ := s
    obtain ⟨rfl, g9, g0, g1, g8⟩ := hi
    unfold g92_b0 at hr
    refine w_seq (w_ops ?_)
    obtain ⟨c10, e10, z4⟩ := forceB_inv hr
    refine wo_step (s_pure (p_bin g9 g8 (b_lss.trans (cb e10)))) (wo_nil (nx_norm (w_seq ?_)))
    rcases cond_inv z4 with ⟨rfl, z5⟩ | ⟨rfl, z5⟩
    · refine w_condT rfl ?_
      refine w_skip (nx_norm (w_seq ?_))
      refine w_block ?_
      refine w_seq (w_ops (wo_step (s_pure (p_mv g9)) (wo_step (v := (.i .i64 x9)) (s_pure (p_mv rfl)) (wo_nil (nx_norm (w_seq (w_ops (wo_step (s_pure (p_mv g1)) (wo_step (v := (.i .i64 x9)) (s_pure (p_mv rfl)) ?_)))))))))
      obtain ⟨v14, e14, z6⟩ := bindO_inv z5
      obtain ⟨x14, rfl, z7⟩ := asI_inv z6
      refine wo_step (s_pure (o_ixStr rfl rfl e14)) ?_
      obtain ⟨v15, m_2, e15, z8⟩ := bindP_inv z7
      obtain ⟨x15, rfl, z9⟩ := asI_inv z8
      refine wo_step (s_call (mc rfl mn) (callM_le hM.call e15)) (wo_step (v := (.i .i64 x15)) (s_pure (p_mv rfl)) (wo_nil (nx_norm (w_seq (w_ops (wo_step (v := (.i .i64 x15)) (s_pure (p_mv rfl)) ?_))))))
      obtain ⟨c17, e17, z10⟩ := forceB_inv z9
      refine wo_step (s_pure (p_bin rfl rfl (b_lss.trans (cb e17)))) (wo_step (v := (.b c17)) (s_pure (p_mv rfl)) ?_)
      obtain ⟨o, z11, hk⟩ := bindO_inv z10
      refine wo_join 5 (g92_J1 v0 s1 x8 x9 m_2 o) ?_ ?_
      · clear hk
        rcases cond_inv z11 with ⟨rfl, z12⟩ | ⟨rfl, z12⟩
        · refine wo_skip (v := (.b true)) rfl rfl (wo_skip (v := (.b true)) rfl rfl (wo_skip (v := (.b true)) rfl rfl (wo_skip (v := (.b true)) rfl rfl (wo_step (v := (.b true)) (s_pure (p_pickT rfl rfl)) (wo_nil ?_)))))
          cases z12
          exact ⟨_, _, rfl, rfl, gl rfl, gl g0, gl g1, gl g8, gl g9⟩
        · refine wo_take (v := (.i .i64 x15)) rfl (s_pure (p_mv rfl)) (wo_take (v := v0) rfl (s_pure (p_mv g0)) ?_)
          obtain ⟨v21, e21, z13⟩ := bindO_inv z12
          obtain ⟨x21, rfl, z14⟩ := asI_inv z13
          refine wo_take (v := (.i .i64 x21)) rfl (s_pure (o_len rfl e21)) ?_
          obtain ⟨c22, e22, z15⟩ := forceB_inv z14
          refine wo_take (v := (.b c22)) rfl (s_pure (p_bin rfl rfl (b_geq.trans (cb e22)))) (wo_step (v := (.b c22)) (s_pure (p_pickF rfl rfl)) (wo_nil ?_))
          cases z15
          exact ⟨_, _, rfl, rfl, gl rfl, gl g0, gl g1, gl g8, gl g9⟩
      · clear z11
        have hr := hk
        clear hk
        obtain ⟨c23, ho⟩ : ∃ z, z = o := ⟨_, rfl⟩
        subst ho
        rintro mm t_2 ⟨rfl, g23, g0, g1, g8, g9⟩
        refine wo_nil (nx_norm ?_)
        rcases cond_inv hr with ⟨rfl, z16⟩ | ⟨rfl, z16⟩
        · refine w_condT g23 ?_
          refine w_seq (w_ops (wo_step (v := (.b false)) (s_pure (p_mv rfl)) (wo_nil (nx_norm ?_))))
          refine w_ret ?_
          refine bk_ret ?_
          refine nx_ret ?_
          cases z16
          exact ⟨_, _, rfl, ne_norm_ret, rfl, rfl, gl rfl⟩
        · refine w_condF g23 ?_
          refine w_skip ?_
          refine bk_norm ?_
          refine nx_norm (w_ops ?_)
          obtain ⟨x24, e24, z17⟩ := forceI_inv z16
          refine wo_step (s_pure (p_bin g9 rfl (b_add.trans (ci e24)))) (wo_step (v := (.i .i64 x24)) (s_pure (p_mv rfl)) (wo_nil ?_))
          cases z17
          exact ⟨_, _, rfl, rfl, rfl, gl rfl, gl g0, gl g1, gl g8⟩
    · refine w_condF rfl ?_
      refine w_exit ?_
      refine nx_exit ?_
      cases z5
      exact ⟨_, _, rfl, ne_norm_exit, rfl, rfl⟩
  · rcases o_1 with o_1 | o_1
    · obtain ⟨m_3, ho⟩ : ∃ z, z = o_1 := ⟨_, rfl⟩
      subst ho
      rintro _ mm_1 t_3 ⟨rfl, rfl⟩
      refine bk_hit ?_
      refine nx_norm (w_seq (w_ops (wo_step (v := (.b true)) (s_pure (p_mv rfl)) (wo_nil (nx_norm ?_)))))
      refine w_ret ?_
      exact qf ret_ok (rt rfl rn) z3
    · obtain ⟨c4, m_4⟩ := o_1
      rintro _ mm_2 t_4 ⟨rfl, rfl, g4⟩
      refine bk_ret ?_
      refine nx_ret ?_
      exact qf ret_ok (rt g4 rn) z3
/- strings.CutPrefix -/

def g97 (M : Means) (ro : List ABlk) (s0 : List UInt8) (s1 : List UInt8) (m0 : Mm) : Option (AVal × Heap × Nat × Nat) :=
  bindP (callM M.call m0 102 [(.s s0), (.s s1)]) fun v8 m_1 =>
  bindO (evP .e (.ext 0 (.c v8))) fun v9 =>
  asS v9 fun s9 =>
  bindO (evP .e (.ext 1 (.c v8))) fun v10 =>
  asB v10 fun c10 =>
  finM m0.h.length (tupA [(.s s9), (.b c10)]) m_1
theorem g97_ok {ro : List ABlk} {O : Caller} {M : Means} (hM : M.Ok ⟨F, O⟩ ro) {s0 s1 h r} (ho : O 97 [(.s s0), (.s s1)] h = none) (hr : g97 M ro s0 s1 ⟨h, h.length, h.length⟩ = some r) : callX ⟨F, O⟩ ro 97 [(.s s0), (.s s1)] h = some r := by
  refine callX_of (F := ⟨F, O⟩) (fn := fn97) (g := g97 M ro s0 s1) ho rfl rfl hr ?_
  clear ho
  clear hr
  intro m0 t0 ht hr
  have g0 : t0.get 0 = (.s s0) := ht 0
  have g1 : t0.get 1 = (.s s1) := ht 1
  clear ht
  unfold g97 at hr
  refine w_seq (w_ops (wo_step (v := (AVal.s [])) (s_pure (p_mv rfl)) (wo_step (v := (.b false)) (s_pure (p_mv rfl)) (wo_nil (nx_norm (w_seq (w_ops (wo_step (s_pure (p_mv g0)) (wo_step (s_pure (p_mv g1)) ?_)))))))))
  obtain ⟨v8, m_1, e8, z1⟩ := bindP_inv hr
  refine wo_step (s_call (mc rfl (mc rfl mn)) (callM_le hM.call e8)) ?_
  obtain ⟨v9, e9, z2⟩ := bindO_inv z1
  obtain ⟨s9, rfl, z3⟩ := asS_inv z2
  refine wo_step (s_pure (o_ext rfl e9)) ?_
  obtain ⟨v10, e10, z4⟩ := bindO_inv z3
  obtain ⟨c10, rfl, z5⟩ := asB_inv z4
  refine wo_step (s_pure (o_ext rfl e10)) (wo_step (v := (.s s9)) (s_pure (p_mv rfl)) (wo_step (v := (.b c10)) (s_pure (p_mv rfl)) (wo_nil (nx_norm ?_))))
  refine w_ret ?_
  exact qf ret_ok (rt rfl (rt rfl rn)) z5
/- (dibber/vine.rules).endless-1 -/
abbrev g98_I0 (v0 : AVal) (v1 : AVal) (s : AVal × Int × Mm) (m1 : Mm) (t1 : Tr) : Prop :=
  match s with
  | (v4, x5, m_2) => m_2 = m1 ∧ t1.get 4 = v4 ∧ t1.get 5 = (.i .i64 x5) ∧ t1.get 0 = v0 ∧ t1.get 1 = v1
abbrev g98_J0 (v0 : AVal) (v1 : AVal) (o : (Mm ⊕ Mm)) (e : AExit) (m1 : Mm) (t1 : Tr) : Prop :=
  match o with
  | (.inl mo) => e = (.exit 0) ∧ mo = m1
  | (.inr mo) => e = .ret ∧ mo = m1
abbrev g98_J1 (v0 : AVal) (v1 : AVal) (x5 : Int) (o : (AVal × Mm)) (e : AExit) (m1 : Mm) (t1 : Tr) : Prop :=
  match o with
  | (y4, mo) => e = .norm ∧ mo = m1 ∧ t1.get 4 = y4 ∧ t1.get 0 = v0 ∧ t1.get 1 = v1 ∧ t1.get 5 = (.i .i64 x5)
def g98_b0 (M : Means) (ro : List ABlk) (v0 : AVal) (v1 : AVal) (v4 : AVal) (x5 : Int) (m_2 : Mm) : Option ((AVal × Int × Mm) ⊕ ((Mm ⊕ Mm))) :=
  forceB (ltI x5 100000) fun c12 =>
  cond c12 (
    forceB (ltI 0 x5) fun c16 =>
    bindO (α := (AVal × Mm)) (
      cond c16 (
        bindO (some (Mm.base m_2)) fun m_3 =>
        bindO (ldA ro m_2.h true 1 v1) fun v18 =>
        bindO (evP .e (.ixS 1 (.c v4) (.c (.i .i64 x5)))) fun v21 =>
        bindO (ldM ro m_3 true 1 v21) fun v22 =>
        asI .u8 v22 fun x22 =>
        bindP (callM M.call m_3 54 [(.i .u8 x22)]) fun v23 m_4 =>
        asI .i64 v23 fun x23 =>
        chk (!Nat.blt m_4.lw m_2.h.length) <|
        bindO (evP .e (.ixS 1 (.c v18) (.c (.i .i64 x23)))) fun v24 =>
        bindO (ldM ro m_4 true 1 v24) fun v25 =>
        asS v25 fun s25 =>
        bindP (stepM ro m_4 (.app 5 1 1 [(AVal.i IntKind.u8 0)] (.c v4) (.c (.s s25)))) fun v26 m_5 =>
        bindO (some (Mm.join m_2 m_5)) fun m_6 =>
        some (v26, m_6)) (
        some (v4, m_2))) fun ⟨v4_1, m_7⟩ =>
    bindO (evP .e (.ixS 1 (.c v4_1) (.c (.i .i64 x5)))) fun v31 =>
    bindO (ldM ro m_7 true 1 v31) fun v32 =>
    asI .u8 v32 fun x32 =>
    bindP (callyM M.call M.round m_7 v0 [(.i .i64 x5), (.i .u8 x32)]) fun v33 m_8 =>
    asB v33 fun c33 =>
    forceB (!c33) fun c34 =>
    cond c34 (
      some (.inr (.inr m_8))) (
      forceI (wr .i64 (x5 + 1)) fun x14 =>
      some (.inl (v4_1, x14, m_8)))) (
    some (.inr (.inl m_2)))
def g98 (M : Means) (ro : List ABlk) (v0 : AVal) (v1 : AVal) (v2 : AVal) (m0 : Mm) : Option (AVal × Heap × Nat × Nat) :=
  bindO (ldM ro m0 true 1 v1) fun v6 =>
  bindO (ldM ro m0 true 1 v2) fun v7 =>
  asI .i64 v7 fun x7 =>
  bindO (evP .e (.ixS 1 (.c v6) (.c (.i .i64 x7)))) fun v8 =>
  bindO (ldM ro m0 true 1 v8) fun v9 =>
  asS v9 fun s9 =>
  bindP (stepM ro m0 (.stb 5 (.c (.s s9)))) fun v10 m_1 =>
  bindO (M.loop (S := AVal × Int × Mm) (R := (Mm ⊕ Mm)) (fun s => g98_b0 M ro v0 v1 s.1 s.2.1 s.2.2) (v10, 0, m_1)) fun o_1 => match o_1 with
  | (.inl m_9) =>
    finM m0.h.length (tupA []) m_9
  | (.inr m_10) =>
    finM m0.h.length (tupA []) m_10
theorem g98_ok {ro : List ABlk} {O : Caller} {M : Means} (hM : M.Ok ⟨F, O⟩ ro) {v0 v1 v2 h r} (ho : O 98 [v0, v1, v2] h = none) (hr : g98 M ro v0 v1 v2 ⟨h, h.length, h.length⟩ = some r) : callX ⟨F, O⟩ ro 98 [v0, v1, v2] h = some r := by
  refine callX_of (F := ⟨F, O⟩) (fn := fn98) (g := g98 M ro v0 v1 v2) ho rfl rfl hr ?_
  clear ho
  clear hr
  intro m0 t0 ht hr
  have g0 : t0.get 0 = v0 := ht 0
  have g1 : t0.get 1 = v1 := ht 1
  have g2 : t0.get 2 = v2 := ht 2
  clear ht
  unfold g98 at hr
  refine w_seq (w_ops ?_)
  obtain ⟨v6, e6, z1⟩ := bindO_inv hr
  refine wo_step (s_ld g1 e6) ?_
  obtain ⟨v7, e7, z2⟩ := bindO_inv z1
  obtain ⟨x7, rfl, z3⟩ := asI_inv z2
  refine wo_step (s_ld g2 e7) ?_
  obtain ⟨v8, e8, z4⟩ := bindO_inv z3
  refine wo_step (s_pure (o_ixS rfl rfl e8)) ?_
  obtain ⟨v9, e9, z5⟩ := bindO_inv z4
  obtain ⟨s9, rfl, z6⟩ := asS_inv z5
  refine wo_step (s_ld rfl e9) ?_
  obtain ⟨v10, m_1, e10, z7⟩ := bindP_inv z6
  refine wo_step (s_stb rfl e10) (wo_step (v := v10) (s_pure (p_mv rfl)) (wo_nil (nx_norm (w_seq (w_ops (wo_step (v := (.i .i64 0)) (s_pure (p_mv rfl)) (wo_nil (nx_norm ?_))))))))
  refine w_block ?_
  obtain ⟨o_1, hl, z8⟩ := bindO_inv z7
  obtain ⟨n, hl⟩ := hM.loop _ _ _ hl
  refine jp_mono (w_loop _ (g98_I0 v0 v1) (g98_J0 v0 v1) ?_ n _ _ _ _ hl ⟨rfl, gl rfl, gl rfl, gl g0, gl g1⟩) ?_
  · clear z8 hl
    intro s mm_3 t_1 o hi hr
    obtain ⟨v4, x5, m_2⟩ := s
    obtain ⟨rfl, g4, g5, g0, g1⟩ := hi
    unfold g98_b0 at hr
    refine w_seq (w_seq (w_ops (wo_step (s_pure (p_mv g5)) ?_)))
    obtain ⟨c12, e12, z9⟩ := forceB_inv hr
    refine wo_step (s_pure (p_bin rfl rfl (b_lss.trans (cb e12)))) (wo_nil (nx_norm ?_))
    rcases cond_inv z9 with ⟨rfl, z10⟩ | ⟨rfl, z10⟩
    · refine w_condT rfl ?_
      refine w_skip (nx_norm (w_seq ?_))
      refine w_block ?_
      refine w_seq (w_seq (w_ops (wo_step (s_pure (p_mv g5)) ?_)))
      obtain ⟨c16, e16, z11⟩ := forceB_inv z10
      refine wo_step (s_pure (p_bin rfl rfl (b_gtr.trans (cb e16)))) (wo_nil (nx_norm ?_))
      obtain ⟨o, z12, hk⟩ := bindO_inv z11
      refine jp_mono (J := g98_J1 v0 v1 x5 o) ?_ ?_
      · clear hk
        rcases cond_inv z12 with ⟨rfl, z13⟩ | ⟨rfl, z13⟩
        · refine w_condT rfl ?_
          obtain ⟨m_3, ef, z14⟩ := bindO_inv z13
          refine w_flt (af := true) rfl ef ?_
          refine wf_step (v := v4) (f_P rfl (s_pure (p_mv g4))) ?_
          obtain ⟨v18, e18, z15⟩ := bindO_inv z14
          refine wf_step (v := v18) (f_ld g1 e18) ?_
          refine wf_step (v := v4) (f_P rfl (s_pure (p_mv g4))) ?_
          refine wf_step (v := (.i .i64 x5)) (f_P rfl (s_pure (p_mv g5))) ?_
          obtain ⟨v21, e21, z16⟩ := bindO_inv z15
          refine wf_step (v := v21) (f_P rfl (s_pure (o_ixS rfl rfl e21))) ?_
          obtain ⟨v22, e22, z17⟩ := bindO_inv z16
          obtain ⟨x22, rfl, z18⟩ := asI_inv z17
          refine wf_step (v := (.i .u8 x22)) (f_P rfl (s_ld rfl e22)) ?_
          obtain ⟨v23, m_4, e23, z19⟩ := bindP_inv z18
          obtain ⟨x23, rfl, z20⟩ := asI_inv z19
          obtain ⟨hc23, z21⟩ := chk_inv z20
          refine wf_step (v := (.i .i64 x23)) (f_M hc23 (s_call (mc rfl mn) (callM_le hM.call e23))) ?_
          obtain ⟨v24, e24, z22⟩ := bindO_inv z21
          refine wf_step (v := v24) (f_P rfl (s_pure (o_ixS rfl rfl e24))) ?_
          obtain ⟨v25, e25, z23⟩ := bindO_inv z22
          obtain ⟨s25, rfl, z24⟩ := asS_inv z23
          refine wf_step (v := (.s s25)) (f_P rfl (s_ld rfl e25)) ?_
          obtain ⟨v26, m_5, e26, z25⟩ := bindP_inv z24
          refine wf_step (v := v26) (f_F rfl (s_app rfl rfl e26)) ?_
          refine wf_step (v := v26) (f_P rfl (s_pure (p_mv rfl))) ?_
          obtain ⟨m_6, ef_1, z26⟩ := bindO_inv z25
          refine wf_end ef_1 ?_
          cases z26
          exact ⟨_, _, rfl, rfl, rfl, gl rfl, gl g0, gl g1, gl g5⟩
        · refine w_condF rfl ?_
          refine w_skip ?_
          cases z13
          exact ⟨_, _, rfl, rfl, rfl, gl g4, gl g0, gl g1, gl g5⟩
      · clear z12
        have hr := hk
        clear hk
        obtain ⟨v4_1, m_7⟩ := o
        rintro _ mm t_2 ⟨rfl, rfl, g4, g0, g1, g5⟩
        refine nx_norm (w_seq ?_)
        refine w_opsY ?_
        refine wy_step (v := v0) (y_C (s_pure (p_mv g0))) ?_
        refine wy_step (v := (.i .i64 x5)) (y_C (s_pure (p_mv g5))) ?_
        refine wy_step (v := v4_1) (y_C (s_pure (p_mv g4))) ?_
        refine wy_step (v := (.i .i64 x5)) (y_C (s_pure (p_mv g5))) ?_
        obtain ⟨v31, e31, z27⟩ := bindO_inv hr
        refine wy_step (v := v31) (y_C (s_pure (o_ixS rfl rfl e31))) ?_
        obtain ⟨v32, e32, z28⟩ := bindO_inv z27
        obtain ⟨x32, rfl, z29⟩ := asI_inv z28
        refine wy_step (v := (.i .u8 x32)) (y_C (s_ld rfl e32)) ?_
        obtain ⟨v33, m_8, e33, z30⟩ := bindP_inv z29
        obtain ⟨c33, rfl, z31⟩ := asB_inv z30
        refine wy_step (v := (.b c33)) (y_callv rfl (mc rfl (mc rfl mn)) (callyM_le hM.call hM.round e33)) ?_
        obtain ⟨c34, e34, z32⟩ := forceB_inv z31
        refine wy_step (v := (.b c34)) (y_C (s_pure ((p_not rfl).trans (cb e34)))) ?_
        refine wy_nil ?_
        refine nx_norm ?_
        rcases cond_inv z32 with ⟨rfl, z33⟩ | ⟨rfl, z33⟩
        · refine w_condT rfl ?_
          refine w_ret ?_
          refine bk_ret ?_
          refine nx_ret ?_
          cases z33
          exact ⟨_, _, rfl, ne_norm_ret, rfl, rfl⟩
        · refine w_condF rfl ?_
          refine w_skip ?_
          refine bk_norm ?_
          refine nx_norm (w_ops (wo_step (s_pure (p_mv g5)) ?_))
          obtain ⟨x14, e14, z34⟩ := forceI_inv z33
          refine wo_step (s_pure (p_bin rfl rfl (b_add.trans (ci e14)))) (wo_step (v := (.i .i64 x14)) (s_pure (p_mv rfl)) (wo_nil ?_))
          cases z34
          exact ⟨_, _, rfl, rfl, rfl, gl g4, gl rfl, gl g0, gl g1⟩
    · refine w_condF rfl ?_
      refine w_exit ?_
      refine nx_exit ?_
      cases z10
      exact ⟨_, _, rfl, ne_norm_exit, rfl, rfl⟩
  · rcases o_1 with o_1 | o_1
    · obtain ⟨m_9, ho⟩ : ∃ z, z = o_1 := ⟨_, rfl⟩
      subst ho
      rintro _ mm_1 t_3 ⟨rfl, rfl⟩
      refine bk_hit ?_
      exact qf norm_ok rn z8
    · obtain ⟨m_10, ho⟩ : ∃ z, z = o_1 := ⟨_, rfl⟩
      subst ho
      rintro _ mm_2 t_4 ⟨rfl, rfl⟩
      refine bk_ret ?_
      exact qf ret_ok rn z8
/- internal/stringslite.CutPrefix -/

def g102 (M : Means) (ro : List ABlk) (s0 : List UInt8) (s1 : List UInt8) (m0 : Mm) : Option (AVal × Heap × Nat × Nat) :=
  bindP (callM M.call m0 104 [(.s s0), (.s s1)]) fun v8 m_1 =>
  asB v8 fun c8 =>
  forceB (!c8) fun c9 =>
  cond c9 (
    finM m0.h.length (tupA [(.s s0), (.b false)]) m_1) (
    bindO (evP .e (.len true (.c (.s s1)))) fun v13 =>
    asI .i64 v13 fun x13 =>
    bindO (evP .e (.slStr (.c (.s s0)) (some (.c (.i .i64 x13))) none)) fun v14 =>
    asS v14 fun s14 =>
    finM m0.h.length (tupA [(.s s14), (.b true)]) m_1)
theorem g102_ok {ro : List ABlk} {O : Caller} {M : Means} (hM : M.Ok ⟨F, O⟩ ro) {s0 s1 h r} (ho : O 102 [(.s s0), (.s s1)] h = none) (hr : g102 M ro s0 s1 ⟨h, h.length, h.length⟩ = some r) : callX ⟨F, O⟩ ro 102 [(.s s0), (.s s1)] h = some r := by
  refine callX_of (F := ⟨F, O⟩) (fn := fn102) (g := g102 M ro s0 s1) ho rfl rfl hr ?_
  clear ho
  clear hr
  intro m0 t0 ht hr
  have g0 : t0.get 0 = (.s s0) := ht 0
  have g1 : t0.get 1 = (.s s1) := ht 1
  clear ht
  unfold g102 at hr
  refine w_seq (w_ops (wo_step (v := (AVal.s [])) (s_pure (p_mv rfl)) (wo_step (v := (.b false)) (s_pure (p_mv rfl)) (wo_nil (nx_norm (w_seq (w_seq (w_ops (wo_step (s_pure (p_mv g0)) (wo_step (s_pure (p_mv g1)) ?_))))))))))
  obtain ⟨v8, m_1, e8, z1⟩ := bindP_inv hr
  obtain ⟨c8, rfl, z2⟩ := asB_inv z1
  refine wo_step (s_call (mc rfl (mc rfl mn)) (callM_le hM.call e8)) ?_
  obtain ⟨c9, e9, z3⟩ := forceB_inv z2
  refine wo_step (s_pure ((p_not rfl).trans (cb e9))) (wo_nil (nx_norm ?_))
  rcases cond_inv z3 with ⟨rfl, z4⟩ | ⟨rfl, z4⟩
  · refine w_condT rfl ?_
    refine w_seq (w_ops (wo_step (s_pure (p_mv g0)) (wo_step (v := (.s s0)) (s_pure (p_mv rfl)) (wo_step (v := (.b false)) (s_pure (p_mv rfl)) (wo_nil (nx_norm ?_))))))
    refine w_ret ?_
    refine nx_ret ?_
    exact qf ret_ok (rt rfl (rt rfl rn)) z4
  · refine w_condF rfl ?_
    refine w_skip (nx_norm (w_seq (w_ops (wo_step (s_pure (p_mv g0)) (wo_step (s_pure (p_mv g1)) ?_)))))
    obtain ⟨v13, e13, z5⟩ := bindO_inv z4
    obtain ⟨x13, rfl, z6⟩ := asI_inv z5
    refine wo_step (s_pure (o_len rfl e13)) ?_
    obtain ⟨v14, e14, z7⟩ := bindO_inv z6
    obtain ⟨s14, rfl, z8⟩ := asS_inv z7
    refine wo_step (s_pure (o_slStr rfl (os rfl) on e14)) (wo_step (v := (.s s14)) (s_pure (p_mv rfl)) (wo_step (v := (.b true)) (s_pure (p_mv rfl)) (wo_nil (nx_norm ?_))))
    refine w_ret ?_
    exact qf ret_ok (rt rfl (rt rfl rn)) z8
/- internal/stringslite.HasPrefix -/
abbrev g104_J0 (m0 : Mm) (o : Bool) (m1 : Mm) (t1 : Tr) : Prop :=
  match o with
  | c17 => m0 = m1 ∧ t1.get 17 = (.b c17)
def g104 (M : Means) (ro : List ABlk) (s0 : List UInt8) (s1 : List UInt8) (m0 : Mm) : Option (AVal × Heap × Nat × Nat) :=
  bindO (evP .e (.len true (.c (.s s0)))) fun v6 =>
  asI .i64 v6 fun x6 =>
  bindO (evP .e (.len true (.c (.s s1)))) fun v8 =>
  asI .i64 v8 fun x8 =>
  forceB (!ltI x6 x8) fun c9 =>
  bindO (cond c9 (
    bindO (evP .e (.len true (.c (.s s1)))) fun v13 =>
    asI .i64 v13 fun x13 =>
    bindO (evP .e (.slStr (.c (.s s0)) none (some (.c (.i .i64 x13))))) fun v14 =>
    asS v14 fun s14 =>
    bindO (evP .e (.sbin BinOp.eql (.c (.s s14)) (.c (.s s1)))) fun v16 =>
    asB v16 fun c16 =>
    some c16) (
    some false)) fun c17 =>
  finM m0.h.length (tupA [(.b c17)]) m0
theorem g104_ok {ro : List ABlk} {O : Caller} {M : Means} (hM : M.Ok ⟨F, O⟩ ro) {s0 s1 h r} (ho : O 104 [(.s s0), (.s s1)] h = none) (hr : g104 M ro s0 s1 ⟨h, h.length, h.length⟩ = some r) : callX ⟨F, O⟩ ro 104 [(.s s0), (.s s1)] h = some r := by
  refine callX_of (F := ⟨F, O⟩) (fn := fn104) (g := g104 M ro s0 s1) ho rfl rfl hr ?_
  clear ho
  clear hr
  intro m0 t0 ht hr
  have g0 : t0.get 0 = (.s s0) := ht 0
  have g1 : t0.get 1 = (.s s1) := ht 1
  clear ht
  unfold g104 at hr
  refine w_seq (w_ops (wo_step (v := (.b false)) (s_pure (p_mv rfl)) (wo_nil (nx_norm (w_seq (w_ops (wo_step (s_pure (p_mv g0)) ?_)))))))
  obtain ⟨v6, e6, z1⟩ := bindO_inv hr
  obtain ⟨x6, rfl, z2⟩ := asI_inv z1
  refine wo_step (s_pure (o_len rfl e6)) (wo_step (s_pure (p_mv g1)) ?_)
  obtain ⟨v8, e8, z3⟩ := bindO_inv z2
  obtain ⟨x8, rfl, z4⟩ := asI_inv z3
  refine wo_step (s_pure (o_len rfl e8)) ?_
  obtain ⟨c9, e9, z5⟩ := forceB_inv z4
  refine wo_step (s_pure (p_bin rfl rfl (b_geq.trans (cb e9)))) (wo_step (v := (.b c9)) (s_pure (p_mv rfl)) ?_)
  obtain ⟨o, z6, hk⟩ := bindO_inv z5
  refine wo_join 7 (g104_J0 m0 o) ?_ ?_
  · clear hk
    rcases cond_inv z6 with ⟨rfl, z7⟩ | ⟨rfl, z7⟩
    · refine wo_take (v := (.s s0)) rfl (s_pure (p_mv g0)) (wo_take (v := (.s s1)) rfl (s_pure (p_mv g1)) ?_)
      obtain ⟨v13, e13, z8⟩ := bindO_inv z7
      obtain ⟨x13, rfl, z9⟩ := asI_inv z8
      refine wo_take (v := (.i .i64 x13)) rfl (s_pure (o_len rfl e13)) ?_
      obtain ⟨v14, e14, z10⟩ := bindO_inv z9
      obtain ⟨s14, rfl, z11⟩ := asS_inv z10
      refine wo_take (v := (.s s14)) rfl (s_pure (o_slStr rfl on (os rfl) e14)) (wo_take (v := (.s s1)) rfl (s_pure (p_mv g1)) ?_)
      obtain ⟨v16, e16, z12⟩ := bindO_inv z11
      obtain ⟨c16, rfl, z13⟩ := asB_inv z12
      refine wo_take (v := (.b c16)) rfl (s_pure (o_sbin rfl rfl e16)) (wo_step (v := (.b c16)) (s_pure (p_pickT rfl rfl)) (wo_nil ?_))
      cases z13
      exact ⟨_, _, rfl, rfl, gl rfl⟩
    · refine wo_skip (v := (.b false)) rfl rfl (wo_skip (v := (.b false)) rfl rfl (wo_skip (v := (.b false)) rfl rfl (wo_skip (v := (.b false)) rfl rfl (wo_skip (v := (.b false)) rfl rfl (wo_skip (v := (.b false)) rfl rfl (wo_step (v := (.b false)) (s_pure (p_pickF rfl rfl)) (wo_nil ?_)))))))
      cases z7
      exact ⟨_, _, rfl, rfl, gl rfl⟩
  · clear z6
    have hr := hk
    clear hk
    obtain ⟨c17, ho⟩ : ∃ z, z = o := ⟨_, rfl⟩
    subst ho
    rintro mm t_1 ⟨rfl, g17⟩
    refine wo_step (s_pure (p_mv g17)) (wo_nil (nx_norm ?_))
    refine w_ret ?_
    exact qf ret_ok (rt rfl rn) hr
/- (dibber/vine.many).times -/

def g126 (M : Means) (ro : List ABlk) (x0 : Int) (x1 : Int) (m0 : Mm) : Option (AVal × Heap × Nat × Nat) :=
  bindP (callM M.call m0 127 [(.i .u64 x0), (.i .u64 x1)]) fun v10 m_1 =>
  bindO (evP .e (.ext 0 (.c v10))) fun v11 =>
  asI .u64 v11 fun x11 =>
  bindO (evP .e (.ext 1 (.c v10))) fun v12 =>
  asI .u64 v12 fun x12 =>
  forceB (ltI 0 x11) fun c14 =>
  cond c14 (
    finM m0.h.length (tupA [(.i .u64 9223372036854775808)]) m_1) (
    forceI (mxV false x12 9223372036854775808) fun x16 =>
    finM m0.h.length (tupA [(.i .u64 x16)]) m_1)
theorem g126_ok {ro : List ABlk} {O : Caller} {M : Means} (hM : M.Ok ⟨F, O⟩ ro) {x0 x1 h r} (ho : O 126 [(.i .u64 x0), (.i .u64 x1)] h = none) (hr : g126 M ro x0 x1 ⟨h, h.length, h.length⟩ = some r) : callX ⟨F, O⟩ ro 126 [(.i .u64 x0), (.i .u64 x1)] h = some r := by
  refine callX_of (F := ⟨F, O⟩) (fn := fn126) (g := g126 M ro x0 x1) ho rfl rfl hr ?_
  clear ho
  clear hr
  intro m0 t0 ht hr
  have g0 : t0.get 0 = (.i .u64 x0) := ht 0
  have g1 : t0.get 1 = (.i .u64 x1) := ht 1
  clear ht
  unfold g126 at hr
  refine w_seq (w_ops (wo_step (v := (.i .u64 0)) (s_pure (p_mv rfl)) (wo_nil (nx_norm (w_seq (w_ops (wo_step (s_pure (p_mv g0)) (wo_step (s_pure (p_mv g1)) ?_))))))))
  obtain ⟨v10, m_1, e10, z1⟩ := bindP_inv hr
  refine wo_step (s_call (mc rfl (mc rfl mn)) (callM_le hM.call e10)) (wo_step (v := v10) (s_pure (p_mv rfl)) ?_)
  obtain ⟨v11, e11, z2⟩ := bindO_inv z1
  obtain ⟨x11, rfl, z3⟩ := asI_inv z2
  refine wo_step (s_pure (o_ext rfl e11)) ?_
  obtain ⟨v12, e12, z4⟩ := bindO_inv z3
  obtain ⟨x12, rfl, z5⟩ := asI_inv z4
  refine wo_step (s_pure (o_ext rfl e12)) (wo_step (v := (.i .u64 x11)) (s_pure (p_mv rfl)) (wo_step (v := (.i .u64 x12)) (s_pure (p_mv rfl)) (wo_nil (nx_norm (w_seq (w_seq (w_ops (wo_step (v := (.i .u64 x11)) (s_pure (p_mv rfl)) ?_))))))))
  obtain ⟨c14, e14, z6⟩ := forceB_inv z5
  refine wo_step (s_pure (p_bin rfl rfl (b_gtr.trans (cb e14)))) (wo_nil (nx_norm ?_))
  rcases cond_inv z6 with ⟨rfl, z7⟩ | ⟨rfl, z7⟩
  · refine w_condT rfl ?_
    refine w_seq (w_ops (wo_step (v := (.i .u64 9223372036854775808)) (s_pure (p_mv rfl)) (wo_nil (nx_norm ?_))))
    refine w_ret ?_
    refine nx_ret ?_
    exact qf ret_ok (rt rfl rn) z7
  · refine w_condF rfl ?_
    refine w_skip (nx_norm (w_seq (w_ops (wo_step (v := (.i .u64 x12)) (s_pure (p_mv rfl)) ?_))))
    obtain ⟨x16, e16, z8⟩ := forceI_inv z7
    refine wo_step (s_pure ((p_mx rfl rfl).trans (ci e16))) (wo_step (v := (.i .u64 x16)) (s_pure (p_mv rfl)) (wo_nil (nx_norm ?_)))
    refine w_ret ?_
    exact qf ret_ok (rt rfl rn) z8
/- math/bits.Mul64 -/

def g127 (M : Means) (ro : List ABlk) (x0 : Int) (x1 : Int) (m0 : Mm) : Option (AVal × Heap × Nat × Nat) :=
  forceI (bitV .and .u64 x0 4294967295) fun x15 =>
  forceI (shrV .u64 x0 32) fun x17 =>
  forceI (bitV .and .u64 x1 4294967295) fun x19 =>
  forceI (shrV .u64 x1 32) fun x21 =>
  forceI (wr .u64 (x15 * x19)) fun x24 =>
  forceI (wr .u64 (x17 * x19)) fun x27 =>
  forceI (shrV .u64 x24 32) fun x29 =>
  forceI (wr .u64 (x27 + x29)) fun x30 =>
  forceI (bitV .and .u64 x30 4294967295) fun x32 =>
  forceI (shrV .u64 x30 32) fun x34 =>
  forceI (wr .u64 (x15 * x21)) fun x38 =>
  forceI (wr .u64 (x32 + x38)) fun x39 =>
  forceI (wr .u64 (x17 * x21)) fun x42 =>
  forceI (wr .u64 (x42 + x34)) fun x44 =>
  forceI (shrV .u64 x39 32) fun x46 =>
  forceI (wr .u64 (x44 + x46)) fun x47 =>
  forceI (wr .u64 (x0 * x1)) fun x50 =>
  finM m0.h.length (tupA [(.i .u64 x47), (.i .u64 x50)]) m0
theorem g127_ok {ro : List ABlk} {O : Caller} {M : Means} (hM : M.Ok ⟨F, O⟩ ro) {x0 x1 h r} (ho : O 127 [(.i .u64 x0), (.i .u64 x1)] h = none) (hr : g127 M ro x0 x1 ⟨h, h.length, h.length⟩ = some r) : callX ⟨F, O⟩ ro 127 [(.i .u64 x0), (.i .u64 x1)] h = some r := by
  refine callX_of (F := ⟨F, O⟩) (fn := fn127) (g := g127 M ro x0 x1) ho rfl rfl hr ?_
  clear ho
  clear hr
  intro m0 t0 ht hr
  have g0 : t0.get 0 = (.i .u64 x0) := ht 0
  have g1 : t0.get 1 = (.i .u64 x1) := ht 1
  clear ht
  unfold g127 at hr
  refine w_seq (w_ops (wo_step (v := (.i .u64 0)) (s_pure (p_mv rfl)) (wo_step (v := (.i .u64 0)) (s_pure (p_mv rfl)) (wo_nil (nx_norm (w_seq (w_ops (wo_step (s_pure (p_mv g0)) ?_))))))))
  obtain ⟨x15, e15, z1⟩ := forceI_inv hr
  refine wo_step (s_pure (p_bin rfl rfl (b_and.trans (ci e15)))) (wo_step (v := (.i .u64 x15)) (s_pure (p_mv rfl)) (wo_nil (nx_norm (w_seq (w_ops (wo_step (s_pure (p_mv g0)) ?_))))))
  obtain ⟨x17, e17, z2⟩ := forceI_inv z1
  refine wo_step (s_pure (p_bin rfl rfl ((b_shr rfl).trans (ci e17)))) (wo_step (v := (.i .u64 x17)) (s_pure (p_mv rfl)) (wo_nil (nx_norm (w_seq (w_ops (wo_step (s_pure (p_mv g1)) ?_))))))
  obtain ⟨x19, e19, z3⟩ := forceI_inv z2
  refine wo_step (s_pure (p_bin rfl rfl (b_and.trans (ci e19)))) (wo_step (v := (.i .u64 x19)) (s_pure (p_mv rfl)) (wo_nil (nx_norm (w_seq (w_ops (wo_step (s_pure (p_mv g1)) ?_))))))
  obtain ⟨x21, e21, z4⟩ := forceI_inv z3
  refine wo_step (s_pure (p_bin rfl rfl ((b_shr rfl).trans (ci e21)))) (wo_step (v := (.i .u64 x21)) (s_pure (p_mv rfl)) (wo_nil (nx_norm (w_seq (w_ops (wo_step (v := (.i .u64 x15)) (s_pure (p_mv rfl)) (wo_step (v := (.i .u64 x19)) (s_pure (p_mv rfl)) ?_)))))))
  obtain ⟨x24, e24, z5⟩ := forceI_inv z4
  refine wo_step (s_pure (p_bin rfl rfl (b_mul.trans (ci e24)))) (wo_step (v := (.i .u64 x24)) (s_pure (p_mv rfl)) (wo_nil (nx_norm (w_seq (w_ops (wo_step (v := (.i .u64 x17)) (s_pure (p_mv rfl)) (wo_step (v := (.i .u64 x19)) (s_pure (p_mv rfl)) ?_)))))))
  obtain ⟨x27, e27, z6⟩ := forceI_inv z5
  refine wo_step (s_pure (p_bin rfl rfl (b_mul.trans (ci e27)))) (wo_step (v := (.i .u64 x24)) (s_pure (p_mv rfl)) ?_)
  obtain ⟨x29, e29, z7⟩ := forceI_inv z6
  refine wo_step (s_pure (p_bin rfl rfl ((b_shr rfl).trans (ci e29)))) ?_
  obtain ⟨x30, e30, z8⟩ := forceI_inv z7
  refine wo_step (s_pure (p_bin rfl rfl (b_add.trans (ci e30)))) (wo_step (v := (.i .u64 x30)) (s_pure (p_mv rfl)) (wo_nil (nx_norm (w_seq (w_ops (wo_step (v := (.i .u64 x30)) (s_pure (p_mv rfl)) ?_))))))
  obtain ⟨x32, e32, z9⟩ := forceI_inv z8
  refine wo_step (s_pure (p_bin rfl rfl (b_and.trans (ci e32)))) (wo_step (v := (.i .u64 x32)) (s_pure (p_mv rfl)) (wo_nil (nx_norm (w_seq (w_ops (wo_step (v := (.i .u64 x30)) (s_pure (p_mv rfl)) ?_))))))
  obtain ⟨x34, e34, z10⟩ := forceI_inv z9
  refine wo_step (s_pure (p_bin rfl rfl ((b_shr rfl).trans (ci e34)))) (wo_step (v := (.i .u64 x34)) (s_pure (p_mv rfl)) (wo_nil (nx_norm (w_seq (w_ops (wo_step (v := (.i .u64 x32)) (s_pure (p_mv rfl)) (wo_step (v := (.i .u64 x15)) (s_pure (p_mv rfl)) (wo_step (v := (.i .u64 x21)) (s_pure (p_mv rfl)) ?_))))))))
  obtain ⟨x38, e38, z11⟩ := forceI_inv z10
  refine wo_step (s_pure (p_bin rfl rfl (b_mul.trans (ci e38)))) ?_
  obtain ⟨x39, e39, z12⟩ := forceI_inv z11
  refine wo_step (s_pure (p_bin rfl rfl (b_add.trans (ci e39)))) (wo_step (v := (.i .u64 x39)) (s_pure (p_mv rfl)) (wo_nil (nx_norm (w_seq (w_ops (wo_step (v := (.i .u64 x17)) (s_pure (p_mv rfl)) (wo_step (v := (.i .u64 x21)) (s_pure (p_mv rfl)) ?_)))))))
  obtain ⟨x42, e42, z13⟩ := forceI_inv z12
  refine wo_step (s_pure (p_bin rfl rfl (b_mul.trans (ci e42)))) (wo_step (v := (.i .u64 x34)) (s_pure (p_mv rfl)) ?_)
  obtain ⟨x44, e44, z14⟩ := forceI_inv z13
  refine wo_step (s_pure (p_bin rfl rfl (b_add.trans (ci e44)))) (wo_step (v := (.i .u64 x39)) (s_pure (p_mv rfl)) ?_)
  obtain ⟨x46, e46, z15⟩ := forceI_inv z14
  refine wo_step (s_pure (p_bin rfl rfl ((b_shr rfl).trans (ci e46)))) ?_
  obtain ⟨x47, e47, z16⟩ := forceI_inv z15
  refine wo_step (s_pure (p_bin rfl rfl (b_add.trans (ci e47)))) (wo_step (v := (.i .u64 x47)) (s_pure (p_mv rfl)) (wo_nil (nx_norm (w_seq (w_ops (wo_step (s_pure (p_mv g0)) (wo_step (s_pure (p_mv g1)) ?_)))))))
  obtain ⟨x50, e50, z17⟩ := forceI_inv z16
  refine wo_step (s_pure (p_bin rfl rfl (b_mul.trans (ci e50)))) (wo_step (v := (.i .u64 x50)) (s_pure (p_mv rfl)) (wo_nil (nx_norm ?_)))
  refine w_ret ?_
  exact qf ret_ok (rt rfl (rt rfl rn)) z17
end Go.Proofs.Ytfohppnelbbepaa.T

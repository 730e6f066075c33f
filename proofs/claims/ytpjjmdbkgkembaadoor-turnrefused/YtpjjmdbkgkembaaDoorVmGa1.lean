/- Plain functions, and that the small machine answers as they do. -/
import Derived.Test.YtpjjmdbkgkembaaDoorVmP
import Derived.Test.YtpjjmdbkgkembaaDoorVmAE
open Go.Vm
set_option linter.unusedVariables false
namespace Go.Proofs.YtpjjmdbkgkembaaDoor.T
open Go
/- (dibber/turn.demands).plans-1 -/
abbrev g61_I0 (v0 : AVal) (v1 : AVal) (v3 : AVal) (v11 : AVal) (v14 : AVal) (s : Int × Mm) (m1 : Mm) (t1 : Tr) : Prop :=
  match s with
  | (x6, m_7) => m_7 = m1 ∧ t1.get 6 = (.i .i64 x6) ∧ t1.get 0 = v0 ∧ t1.get 1 = v1 ∧ t1.get 3 = v3 ∧ t1.get 4 = v11 ∧ t1.get 5 = v14
abbrev g61_J0 (v0 : AVal) (v1 : AVal) (v3 : AVal) (v11 : AVal) (v14 : AVal) (o : (Mm ⊕ Mm)) (e : AExit) (m1 : Mm) (t1 : Tr) : Prop :=
  match o with
  | (.inl mo) => e = (.exit 0) ∧ mo = m1
  | (.inr mo) => e = .ret ∧ mo = m1
abbrev g61_J1 (v0 : AVal) (v1 : AVal) (v3 : AVal) (v11 : AVal) (v14 : AVal) (o : ((Int × Mm) ⊕ Mm)) (e : AExit) (m1 : Mm) (t1 : Tr) : Prop :=
  match o with
  | (.inl (y6, mo)) => e = .norm ∧ mo = m1 ∧ t1.get 6 = (.i .i64 y6) ∧ t1.get 0 = v0 ∧ t1.get 1 = v1 ∧ t1.get 3 = v3 ∧ t1.get 4 = v11 ∧ t1.get 5 = v14
  | (.inr mo) => e = .ret ∧ mo = m1
abbrev g61_I2 (v0 : AVal) (v1 : AVal) (v3 : AVal) (v11 : AVal) (v14 : AVal) (s : Int × Mm) (m1 : Mm) (t1 : Tr) : Prop :=
  match s with
  | (x6_1, m_8) => m_8 = m1 ∧ t1.get 6 = (.i .i64 x6_1) ∧ t1.get 0 = v0 ∧ t1.get 1 = v1 ∧ t1.get 3 = v3 ∧ t1.get 4 = v11 ∧ t1.get 5 = v14
abbrev g61_J2 (v0 : AVal) (v1 : AVal) (v3 : AVal) (v11 : AVal) (v14 : AVal) (o : ((Int × Mm) ⊕ ((Int × Mm) ⊕ Mm))) (e : AExit) (m1 : Mm) (t1 : Tr) : Prop :=
  match o with
  | (.inl (y6, mo)) => e = (.exit 1) ∧ mo = m1 ∧ t1.get 6 = (.i .i64 y6) ∧ t1.get 0 = v0 ∧ t1.get 1 = v1 ∧ t1.get 3 = v3 ∧ t1.get 4 = v11 ∧ t1.get 5 = v14
  | (.inr (.inl (y6, mo))) => e = (.exit 2) ∧ mo = m1 ∧ t1.get 6 = (.i .i64 y6) ∧ t1.get 0 = v0 ∧ t1.get 1 = v1 ∧ t1.get 3 = v3 ∧ t1.get 4 = v11 ∧ t1.get 5 = v14
  | (.inr (.inr mo)) => e = .ret ∧ mo = m1
def g61_b2 (M : Means) (ro : List ABlk) (v0 : AVal) (v1 : AVal) (v3 : AVal) (v11 : AVal) (v14 : AVal) (x6_1 : Int) (m_8 : Mm) : Option ((Int × Mm) ⊕ (((Int × Mm) ⊕ ((Int × Mm) ⊕ Mm)))) :=
  bindO (evP .e (.ixS 1 (.c v14) (.c (.i .i64 x6_1)))) fun v21 =>
  bindO (ldM ro m_8 true 1 v21) fun v22 =>
  asI .u32 v22 fun x22 =>
  forceB (!eqI x22 0) fun c23 =>
  cond c23 (
    bindO (evP .e (.ixS 1 (.c v14) (.c (.i .i64 x6_1)))) fun v28 =>
    bindO (ldM ro m_8 true 1 v28) fun v29 =>
    asI .u32 v29 fun x29 =>
    bindP (callM M.call m_8 63 [(.i .u32 x29)]) fun v30 m_9 =>
    asI .i64 v30 fun x30 =>
    bindO (evP .e (.ixS 1 (.c v11) (.c (.i .i64 x6_1)))) fun v31 =>
    bindP (stepM ro m_9 (.st 1 (.c v31) (.c (.i .i64 x30)))) fun vn_2 m_10 =>
    bindO (evP .e (.ixS 1 (.c v14) (.c (.i .i64 x6_1)))) fun v36 =>
    bindO (ldM ro m_10 true 1 v36) fun v37 =>
    asI .u32 v37 fun x37 =>
    bindP (callM M.call m_10 64 [(.i .u32 x37)]) fun v38 m_11 =>
    asI .u32 v38 fun x38 =>
    bindO (evP .e (.ixS 1 (.c v14) (.c (.i .i64 x6_1)))) fun v39 =>
    bindP (stepM ro m_11 (.st 1 (.c v39) (.c (.i .u32 x38)))) fun vn_3 m_12 =>
    forceI (wr .i64 (x6_1 + 1)) fun x41 =>
    bindO (evP .e (.faddr 1 (.c v1))) fun v42 =>
    bindO (ldM ro m_12 true 1 v42) fun v43 =>
    asI .i64 v43 fun x43 =>
    forceB (ltI x41 x43) fun c44 =>
    cond c44 (
      forceI (wr .i64 (x6_1 + 1)) fun x46 =>
      bindO (ldA ro m_12.h false 3 v1) fun v49 =>
      bindO (ldA ro m_12.h false 36 v3) fun v50 =>
      bindO (evP .e (.slS 1 (.c v11) none (some (.c (.i .i64 x46))) none)) fun v53 =>
      bindO (callN M.call m_12.h 65 [v49, v50, v53]) fun v54 =>
      asI .u32 v54 fun x54 =>
      bindO (evP .e (.ixS 1 (.c v14) (.c (.i .i64 x46)))) fun v55 =>
      asP v55 fun qs =>
      bindO (writesM ro [] [(qs, AVal.cells (.i .u32 x54))] ⟨m_12.h, m_12.lw, m_12.lp⟩) fun m_13 =>
      some (.inr (.inl (x46, m_13)))) (
      bindP (callyM M.call M.round m_12 v0 [v11]) fun v58 m_14 =>
      asB v58 fun c58 =>
      forceB (!c58) fun c59 =>
      cond c59 (
        some (.inr (.inr (.inr m_14)))) (
        some (.inl (x6_1, m_14))))) (
    some (.inr (.inr (.inl (x6_1, m_8)))))
def g61_b0 (M : Means) (ro : List ABlk) (v0 : AVal) (v1 : AVal) (v3 : AVal) (v11 : AVal) (v14 : AVal) (x6 : Int) (m_7 : Mm) : Option ((Int × Mm) ⊕ ((Mm ⊕ Mm))) :=
  forceB (!ltI x6 0) fun c18 =>
  cond c18 (
    bindO (α := ((Int × Mm) ⊕ Mm)) (
      bindO (M.loop (S := Int × Mm) (R := ((Int × Mm) ⊕ ((Int × Mm) ⊕ Mm))) (fun s => g61_b2 M ro v0 v1 v3 v11 v14 s.1 s.2) (x6, m_7)) fun o_1 => match o_1 with
      | (.inl (x6_2, m_15)) =>
        some (.inl (x6_2, m_15))
      | (.inr (.inl (x6_3, m_16))) =>
        forceI (wr .i64 (x6_3 - 1)) fun x61 =>
        some (.inl (x61, m_16))
      | (.inr (.inr m_17)) =>
        some (.inr m_17)) fun o => match o with
    | (.inl (x6_4, m_18)) =>
      some (.inl (x6_4, m_18))
    | (.inr m_19) =>
      some (.inr (.inr m_19))) (
    some (.inr (.inl m_7)))
def g61 (M : Means) (ro : List ABlk) (v0 : AVal) (v1 : AVal) (m0 : Mm) : Option (AVal × Heap × Nat × Nat) :=
  bindO (ldM ro m0 false 3 v1) fun v7 =>
  bindP (callM M.call m0 62 [v7]) fun v8 m_1 =>
  bindP (stepM ro m_1 (.al 84 [(AVal.i IntKind.u32 0), (AVal.i IntKind.u32 0), (AVal.i IntKind.u32 0), (AVal.i IntKind.u32 0), (AVal.i IntKind.u32 0), (AVal.i IntKind.u32 0), (AVal.i IntKind.u32 0), (AVal.i IntKind.u32 0), (AVal.i IntKind.u32 0), (AVal.i IntKind.u32 0), (AVal.i IntKind.u32 0), (AVal.i IntKind.u32 0), (AVal.i IntKind.u32 0), (AVal.i IntKind.u32 0), (AVal.i IntKind.u32 0), (AVal.i IntKind.u32 0), (AVal.i IntKind.u32 0), (AVal.i IntKind.u32 0), (AVal.i IntKind.u32 0), (AVal.i IntKind.u32 0), (AVal.i IntKind.u32 0), (AVal.i IntKind.u32 0), (AVal.i IntKind.u32 0), (AVal.i IntKind.u32 0), (AVal.i IntKind.u32 0), (AVal.i IntKind.u32 0), (AVal.i IntKind.u32 0), (AVal.i IntKind.u32 0), (AVal.i IntKind.u32 0), (AVal.i IntKind.u32 0), (AVal.i IntKind.u32 0), (AVal.i IntKind.u32 0), (AVal.i IntKind.u32 0), (AVal.i IntKind.u32 0), (AVal.i IntKind.u32 0), (AVal.i IntKind.u32 0)])) fun v3 m_2 =>
  bindP (stepM ro m_2 (.st 36 (.c v3) (.c v8))) fun vn m_3 =>
  bindO (evP .e (.faddr 1 (.c v1))) fun v9 =>
  bindO (ldM ro m_3 true 1 v9) fun v10 =>
  asI .i64 v10 fun x10 =>
  bindP (stepM ro m_3 (.mk 3 1 8 [(AVal.i IntKind.i64 0)] (.c (.i .i64 x10)) (.c (.i .i64 x10)))) fun v11 m_4 =>
  bindO (evP .e (.faddr 1 (.c v1))) fun v12 =>
  bindO (ldM ro m_4 true 1 v12) fun v13 =>
  asI .i64 v13 fun x13 =>
  bindP (stepM ro m_4 (.mk 81 1 4 [(AVal.i IntKind.u32 0)] (.c (.i .i64 x13)) (.c (.i .i64 x13)))) fun v14 m_5 =>
  bindO (evP .e (.ixS 1 (.c v14) (.c (.i .i64 0)))) fun v16 =>
  bindP (stepM ro m_5 (.st 1 (.c v16) (.c (.i .u32 1)))) fun vn_1 m_6 =>
  bindO (M.loop (S := Int × Mm) (R := (Mm ⊕ Mm)) (fun s => g61_b0 M ro v0 v1 v3 v11 v14 s.1 s.2) (0, m_6)) fun o_2 => match o_2 with
  | (.inl m_20) =>
    finM m0.h.length (tupA []) m_20
  | (.inr m_21) =>
    finM m0.h.length (tupA []) m_21

theorem g61_ok {ro : List ABlk} {O : Caller} {M : Means} (hM : M.Ok ⟨F, O⟩ ro) {v0 v1 h r} (ho : O 61 [v0, v1] h = none) (hr : g61 M ro v0 v1 ⟨h, h.length, h.length⟩ = some r) : callX ⟨F, O⟩ ro 61 [v0, v1] h = some r := by
  refine callX_of (F := ⟨F, O⟩) (fn := fn61) (g := g61 M ro v0 v1) ho rfl rfl hr ?_
  clear ho
  clear hr
  intro m0 t0 ht hr
  have g0 : t0.get 0 = v0 := ht 0
  have g1 : t0.get 1 = v1 := ht 1
  clear ht
  unfold g61 at hr
  refine w_seq ?_
  refine w_ops ?_
  have hq := bindO_inv hr
  clear hr
  obtain ⟨v7, e7, hr⟩ := hq
  refine wo_step (v := v7) (s_ld g1 e7) ?_
  have hq := bindP_inv hr
  clear hr
  obtain ⟨v8, m_1, e8, hr⟩ := hq
  refine wo_step (v := v8) (s_call (mc rfl mn) (callM_le hM.call e8)) ?_
  have hq := bindP_inv hr
  clear hr
  obtain ⟨v3, m_2, e3, hr⟩ := hq
  refine wo_step (v := v3) (s_al e3) ?_
  have hq := bindP_inv hr
  clear hr
  obtain ⟨vn, m_3, en, hr⟩ := hq
  refine wo_stepN (s_st rfl rfl en) ?_
  refine wo_nil ?_
  refine nx_norm ?_
  refine w_seq ?_
  refine w_ops ?_
  have hq := bindO_inv hr
  clear hr
  obtain ⟨v9, e9, hr⟩ := hq
  refine wo_step (v := v9) (s_pure (o_faddr g1 e9)) ?_
  have hq := bindO_inv hr
  clear hr
  obtain ⟨v10, e10, hr⟩ := hq
  have hq := asI_inv hr
  clear hr
  obtain ⟨x10, rfl, hr⟩ := hq
  refine wo_step (v := (.i .i64 x10)) (s_ld rfl e10) ?_
  have hq := bindP_inv hr
  clear hr
  obtain ⟨v11, m_4, e11, hr⟩ := hq
  refine wo_step (v := v11) (s_mk rfl rfl e11) ?_
  refine wo_step (v := v11) (s_pure (p_mv rfl)) ?_
  refine wo_nil ?_
  refine nx_norm ?_
  refine w_seq ?_
  refine w_ops ?_
  have hq := bindO_inv hr
  clear hr
  obtain ⟨v12, e12, hr⟩ := hq
  refine wo_step (v := v12) (s_pure (o_faddr g1 e12)) ?_
  have hq := bindO_inv hr
  clear hr
  obtain ⟨v13, e13, hr⟩ := hq
  have hq := asI_inv hr
  clear hr
  obtain ⟨x13, rfl, hr⟩ := hq
  refine wo_step (v := (.i .i64 x13)) (s_ld rfl e13) ?_
  have hq := bindP_inv hr
  clear hr
  obtain ⟨v14, m_5, e14, hr⟩ := hq
  refine wo_step (v := v14) (s_mk rfl rfl e14) ?_
  refine wo_step (v := v14) (s_pure (p_mv rfl)) ?_
  refine wo_nil ?_
  refine nx_norm ?_
  refine w_seq ?_
  refine w_ops ?_
  refine wo_step (v := v14) (s_pure (p_mv rfl)) ?_
  have hq := bindO_inv hr
  clear hr
  obtain ⟨v16, e16, hr⟩ := hq
  refine wo_step (v := v16) (s_pure (o_ixS rfl rfl e16)) ?_
  have hq := bindP_inv hr
  clear hr
  obtain ⟨vn_1, m_6, en_1, hr⟩ := hq
  refine wo_stepN (s_st rfl rfl en_1) ?_
  refine wo_nil ?_
  refine nx_norm ?_
  refine w_seq ?_
  refine w_ops ?_
  refine wo_step (v := (.i .i64 0)) (s_pure (p_mv rfl)) ?_
  refine wo_nil ?_
  refine nx_norm ?_
  refine w_seq ?_
  refine w_skip ?_
  refine nx_norm ?_
  refine w_block ?_
  have hq := bindO_inv hr
  clear hr
  obtain ⟨o_2, hl_1, hr⟩ := hq
  obtain ⟨n_1, hl_1⟩ := hM.loop _ _ _ hl_1
  refine jp_mono (w_loop _ (g61_I0 v0 v1 v3 v11 v14) (g61_J0 v0 v1 v3 v11 v14) ?_ n_1 _ _ _ _ hl_1 ⟨rfl, gl rfl, gl g0, gl g1, gl rfl, gl rfl, gl rfl⟩) ?_
  · clear hr hl_1
    intro s mm_8 t_1 o hi hr
    obtain ⟨x6, m_7⟩ := s
    obtain ⟨rfl, g6, g0, g1, g3, g4, g5⟩ := hi
    unfold g61_b0 at hr
    refine w_seq ?_
    refine w_seq ?_
    refine w_ops ?_
    refine wo_step (v := (.i .i64 x6)) (s_pure (p_mv g6)) ?_
    have hq := forceB_inv hr
    clear hr
    obtain ⟨c18, e18, hr⟩ := hq
    refine wo_step (v := (.b c18)) (s_pure (p_bin rfl rfl (b_geq.trans (cb e18)))) ?_
    refine wo_nil ?_
    refine nx_norm ?_
    have hq := cond_inv hr
    clear hr
    rcases hq with ⟨rfl, hr⟩ | ⟨rfl, hr⟩
    · refine w_condT rfl ?_
      refine w_skip ?_
      refine nx_norm ?_
      have hq := bindO_inv hr
      clear hr
      obtain ⟨o, hr, hk⟩ := hq
      refine jp_mono (J := g61_J1 v0 v1 v3 v11 v14 o) ?_ ?_
      · clear hk
        refine w_block ?_
        refine w_seq ?_
        refine w_block ?_
        have hq := bindO_inv hr
        clear hr
        obtain ⟨o_1, hl, hr⟩ := hq
        obtain ⟨n, hl⟩ := hM.loop _ _ _ hl
        refine jp_mono (w_loop _ (g61_I2 v0 v1 v3 v11 v14) (g61_J2 v0 v1 v3 v11 v14) ?_ n _ _ _ _ hl ⟨rfl, gl g6, gl g0, gl g1, gl g3, gl g4, gl g5⟩) ?_
        · clear hr hl
          intro s mm_3 t_2 o hi hr
          obtain ⟨x6_1, m_8⟩ := s
          obtain ⟨rfl, g6, g0, g1, g3, g4, g5⟩ := hi
          unfold g61_b2 at hr
          refine w_seq ?_
          refine w_seq ?_
          refine w_ops ?_
          refine wo_step (v := v14) (s_pure (p_mv g5)) ?_
          refine wo_step (v := (.i .i64 x6_1)) (s_pure (p_mv g6)) ?_
          have hq := bindO_inv hr
          clear hr
          obtain ⟨v21, e21, hr⟩ := hq
          refine wo_step (v := v21) (s_pure (o_ixS rfl rfl e21)) ?_
          have hq := bindO_inv hr
          clear hr
          obtain ⟨v22, e22, hr⟩ := hq
          have hq := asI_inv hr
          clear hr
          obtain ⟨x22, rfl, hr⟩ := hq
          refine wo_step (v := (.i .u32 x22)) (s_ld rfl e22) ?_
          have hq := forceB_inv hr
          clear hr
          obtain ⟨c23, e23, hr⟩ := hq
          refine wo_step (v := (.b c23)) (s_pure (p_bin rfl rfl (b_neq.trans (cb e23)))) ?_
          refine wo_nil ?_
          refine nx_norm ?_
          have hq := cond_inv hr
          clear hr
          rcases hq with ⟨rfl, hr⟩ | ⟨rfl, hr⟩
          · refine w_condT rfl ?_
            refine w_skip ?_
            refine nx_norm ?_
            refine w_block ?_
            refine w_seq ?_
            refine w_ops ?_
            refine wo_step (v := v11) (s_pure (p_mv g4)) ?_
            refine wo_step (v := (.i .i64 x6_1)) (s_pure (p_mv g6)) ?_
            refine wo_step (v := v14) (s_pure (p_mv g5)) ?_
            refine wo_step (v := (.i .i64 x6_1)) (s_pure (p_mv g6)) ?_
            have hq := bindO_inv hr
            clear hr
            obtain ⟨v28, e28, hr⟩ := hq
            refine wo_step (v := v28) (s_pure (o_ixS rfl rfl e28)) ?_
            have hq := bindO_inv hr
            clear hr
            obtain ⟨v29, e29, hr⟩ := hq
            have hq := asI_inv hr
            clear hr
            obtain ⟨x29, rfl, hr⟩ := hq
            refine wo_step (v := (.i .u32 x29)) (s_ld rfl e29) ?_
            have hq := bindP_inv hr
            clear hr
            obtain ⟨v30, m_9, e30, hr⟩ := hq
            have hq := asI_inv hr
            clear hr
            obtain ⟨x30, rfl, hr⟩ := hq
            refine wo_step (v := (.i .i64 x30)) (s_call (mc rfl mn) (callM_le hM.call e30)) ?_
            have hq := bindO_inv hr
            clear hr
            obtain ⟨v31, e31, hr⟩ := hq
            refine wo_step (v := v31) (s_pure (o_ixS rfl rfl e31)) ?_
            have hq := bindP_inv hr
            clear hr
            obtain ⟨vn_2, m_10, en_2, hr⟩ := hq
            refine wo_stepN (s_st rfl rfl en_2) ?_
            refine wo_nil ?_
            refine nx_norm ?_
            refine w_seq ?_
            refine w_ops ?_
            refine wo_step (v := v14) (s_pure (p_mv g5)) ?_
            refine wo_step (v := (.i .i64 x6_1)) (s_pure (p_mv g6)) ?_
            refine wo_step (v := v14) (s_pure (p_mv g5)) ?_
            refine wo_step (v := (.i .i64 x6_1)) (s_pure (p_mv g6)) ?_
            have hq := bindO_inv hr
            clear hr
            obtain ⟨v36, e36, hr⟩ := hq
            refine wo_step (v := v36) (s_pure (o_ixS rfl rfl e36)) ?_
            have hq := bindO_inv hr
            clear hr
            obtain ⟨v37, e37, hr⟩ := hq
            have hq := asI_inv hr
            clear hr
            obtain ⟨x37, rfl, hr⟩ := hq
            refine wo_step (v := (.i .u32 x37)) (s_ld rfl e37) ?_
            have hq := bindP_inv hr
            clear hr
            obtain ⟨v38, m_11, e38, hr⟩ := hq
            have hq := asI_inv hr
            clear hr
            obtain ⟨x38, rfl, hr⟩ := hq
            refine wo_step (v := (.i .u32 x38)) (s_call (mc rfl mn) (callM_le hM.call e38)) ?_
            have hq := bindO_inv hr
            clear hr
            obtain ⟨v39, e39, hr⟩ := hq
            refine wo_step (v := v39) (s_pure (o_ixS rfl rfl e39)) ?_
            have hq := bindP_inv hr
            clear hr
            obtain ⟨vn_3, m_12, en_3, hr⟩ := hq
            refine wo_stepN (s_st rfl rfl en_3) ?_
            refine wo_nil ?_
            refine nx_norm ?_
            refine w_seq ?_
            refine w_seq ?_
            refine w_ops ?_
            refine wo_step (v := (.i .i64 x6_1)) (s_pure (p_mv g6)) ?_
            have hq := forceI_inv hr
            clear hr
            obtain ⟨x41, e41, hr⟩ := hq
            refine wo_step (v := (.i .i64 x41)) (s_pure (p_bin rfl rfl (b_add.trans (ci e41)))) ?_
            have hq := bindO_inv hr
            clear hr
            obtain ⟨v42, e42, hr⟩ := hq
            refine wo_step (v := v42) (s_pure (o_faddr g1 e42)) ?_
            have hq := bindO_inv hr
            clear hr
            obtain ⟨v43, e43, hr⟩ := hq
            have hq := asI_inv hr
            clear hr
            obtain ⟨x43, rfl, hr⟩ := hq
            refine wo_step (v := (.i .i64 x43)) (s_ld rfl e43) ?_
            have hq := forceB_inv hr
            clear hr
            obtain ⟨c44, e44, hr⟩ := hq
            refine wo_step (v := (.b c44)) (s_pure (p_bin rfl rfl (b_lss.trans (cb e44)))) ?_
            refine wo_nil ?_
            refine nx_norm ?_
            have hq := cond_inv hr
            clear hr
            rcases hq with ⟨rfl, hr⟩ | ⟨rfl, hr⟩
            · refine w_condT rfl ?_
              refine w_seq ?_
              refine w_ops ?_
              refine wo_step (v := (.i .i64 x6_1)) (s_pure (p_mv g6)) ?_
              have hq := forceI_inv hr
              clear hr
              obtain ⟨x46, e46, hr⟩ := hq
              refine wo_step (v := (.i .i64 x46)) (s_pure (p_bin rfl rfl (b_add.trans (ci e46)))) ?_
              refine wo_step (v := (.i .i64 x46)) (s_pure (p_mv rfl)) ?_
              refine wo_nil ?_
              refine nx_norm ?_
              refine w_seq ?_
              refine w_any ?_
              refine wa_step (v := v14) (a_pure (p_mv g5)) ?_
              refine wa_step (v := (.i .i64 x46)) (a_pure (p_mv rfl)) ?_
              have hq := bindO_inv hr
              clear hr
              obtain ⟨v49, e49, hr⟩ := hq
              refine wa_step (v := v49) (a_ld g1 e49) ?_
              have hq := bindO_inv hr
              clear hr
              obtain ⟨v50, e50, hr⟩ := hq
              refine wa_step (v := v50) (a_ld g3 e50) ?_
              refine wa_step (v := v11) (a_pure (p_mv g4)) ?_
              refine wa_step (v := (.i .i64 x46)) (a_pure (p_mv rfl)) ?_
              have hq := bindO_inv hr
              clear hr
              obtain ⟨v53, e53, hr⟩ := hq
              refine wa_step (v := v53) (a_pure (o_slS rfl on (os rfl) on e53)) ?_
              have hq := bindO_inv hr
              clear hr
              obtain ⟨v54, e54, hr⟩ := hq
              have hq := asI_inv hr
              clear hr
              obtain ⟨x54, rfl, hr⟩ := hq
              refine wa_step (v := (.i .u32 x54)) (a_call (mc rfl (mc rfl (mc rfl mn))) (callN_le hM.call e54)) ?_
              have hq := bindO_inv hr
              clear hr
              obtain ⟨v55, e55, hr⟩ := hq
              refine wa_step (v := v55) (a_pure (o_ixS rfl rfl e55)) ?_
              have hq := asP_inv hr
              clear hr
              obtain ⟨qs, eqs, hr⟩ := hq
              refine wa_stepN (a_st (Eq.trans (b := v55) rfl eqs) rfl rfl) ?_
              have hq := bindO_inv hr
              clear hr
              obtain ⟨m_13, ew, hr⟩ := hq
              refine wa_nil ?_
              refine ⟨m_13, ew, ?_⟩
              refine nx_norm ?_
              refine w_exit ?_
              refine nx_exit ?_
              refine bk_miss (by decide) ?_
              cases hr
              exact ⟨_, _, rfl, ne_norm_exit, rfl, rfl, gl rfl, gl g0, gl g1, gl g3, gl g4, gl g5⟩
            · refine w_condF rfl ?_
              refine w_skip ?_
              refine nx_norm ?_
              refine w_seq ?_
              refine w_opsY ?_
              refine wy_step (v := v0) (y_C (s_pure (p_mv g0))) ?_
              refine wy_step (v := v11) (y_C (s_pure (p_mv g4))) ?_
              have hq := bindP_inv hr
              clear hr
              obtain ⟨v58, m_14, e58, hr⟩ := hq
              have hq := asB_inv hr
              clear hr
              obtain ⟨c58, rfl, hr⟩ := hq
              refine wy_step (v := (.b c58)) (y_callv rfl (mc rfl mn) (callyM_le hM.call hM.round e58)) ?_
              have hq := forceB_inv hr
              clear hr
              obtain ⟨c59, e59, hr⟩ := hq
              refine wy_step (v := (.b c59)) (y_C (s_pure ((p_not rfl).trans (cb e59)))) ?_
              refine wy_nil ?_
              refine nx_norm ?_
              have hq := cond_inv hr
              clear hr
              rcases hq with ⟨rfl, hr⟩ | ⟨rfl, hr⟩
              · refine w_condT rfl ?_
                refine w_ret ?_
                refine bk_ret ?_
                cases hr
                exact ⟨_, _, rfl, ne_norm_ret, rfl, rfl⟩
              · refine w_condF rfl ?_
                refine w_skip ?_
                refine bk_norm ?_
                cases hr
                exact ⟨_, _, rfl, rfl, rfl, gl g6, gl g0, gl g1, gl g3, gl g4, gl g5⟩
          · refine w_condF rfl ?_
            refine w_exit ?_
            refine nx_exit ?_
            cases hr
            exact ⟨_, _, rfl, ne_norm_exit, rfl, rfl, gl g6, gl g0, gl g1, gl g3, gl g4, gl g5⟩
        · rcases o_1 with o_1 | o_1 | o_1
          · obtain ⟨x6_2, m_15⟩ := o_1
            rintro _ mm t_3 ⟨rfl, rfl, g6, g0, g1, g3, g4, g5⟩
            refine bk_miss (by decide) ?_
            refine nx_exit ?_
            refine bk_hit ?_
            cases hr
            exact ⟨_, _, rfl, rfl, rfl, gl g6, gl g0, gl g1, gl g3, gl g4, gl g5⟩
          · obtain ⟨x6_3, m_16⟩ := o_1
            rintro _ mm_1 t_4 ⟨rfl, rfl, g6, g0, g1, g3, g4, g5⟩
            refine bk_hit ?_
            refine nx_norm ?_
            refine w_ops ?_
            refine wo_step (v := (.i .i64 x6_3)) (s_pure (p_mv g6)) ?_
            have hq := forceI_inv hr
            clear hr
            obtain ⟨x61, e61, hr⟩ := hq
            refine wo_step (v := (.i .i64 x61)) (s_pure (p_bin rfl rfl (b_sub.trans (ci e61)))) ?_
            refine wo_step (v := (.i .i64 x61)) (s_pure (p_mv rfl)) ?_
            refine wo_nil ?_
            refine bk_norm ?_
            cases hr
            exact ⟨_, _, rfl, rfl, rfl, gl rfl, gl g0, gl g1, gl g3, gl g4, gl g5⟩
          · obtain ⟨m_17, ho⟩ : ∃ z, z = o_1 := ⟨_, rfl⟩
            subst ho
            rintro _ mm_2 t_5 ⟨rfl, rfl⟩
            refine bk_ret ?_
            refine nx_ret ?_
            refine bk_ret ?_
            cases hr
            exact ⟨_, _, rfl, rfl, rfl⟩
      · have hr := hk
        clear hk
        rcases o with o | o
        · obtain ⟨x6_4, m_18⟩ := o
          rintro _ mm_4 t_6 ⟨rfl, rfl, g6, g0, g1, g3, g4, g5⟩
          cases hr
          exact ⟨_, _, rfl, rfl, rfl, gl g6, gl g0, gl g1, gl g3, gl g4, gl g5⟩
        · obtain ⟨m_19, ho⟩ : ∃ z, z = o := ⟨_, rfl⟩
          subst ho
          rintro _ mm_5 t_7 ⟨rfl, rfl⟩
          cases hr
          exact ⟨_, _, rfl, ne_norm_ret, rfl, rfl⟩
    · refine w_condF rfl ?_
      refine w_exit ?_
      refine nx_exit ?_
      cases hr
      exact ⟨_, _, rfl, ne_norm_exit, rfl, rfl⟩
  · rcases o_2 with o_2 | o_2
    · obtain ⟨m_20, ho⟩ : ∃ z, z = o_2 := ⟨_, rfl⟩
      subst ho
      rintro _ mm_6 t_8 ⟨rfl, rfl⟩
      refine bk_hit ?_
      exact qf norm_ok rn hr
    · obtain ⟨m_21, ho⟩ : ∃ z, z = o_2 := ⟨_, rfl⟩
      subst ho
      rintro _ mm_7 t_9 ⟨rfl, rfl⟩
      refine bk_ret ?_
      exact qf ret_ok rn hr

/- (dibber/turn.demands).distances -/
abbrev g62_I0 (v1 : AVal) (v2 : AVal) (v3 : AVal) (s : Int × Mm) (m1 : Mm) (t1 : Tr) : Prop :=
  match s with
  | (x9, m_4) => m_4 = m1 ∧ t1.get 9 = (.i .i64 x9) ∧ t1.get 1 = v1 ∧ t1.get 2 = v2 ∧ t1.get 3 = v3
abbrev g62_J0 (v1 : AVal) (v2 : AVal) (v3 : AVal) (o : Mm) (e : AExit) (m1 : Mm) (t1 : Tr) : Prop :=
  match o with
  | mo => e = (.exit 0) ∧ mo = m1 ∧ t1.get 1 = v1 ∧ t1.get 2 = v2 ∧ t1.get 3 = v3
abbrev g62_I1 (v1 : AVal) (v2 : AVal) (v3 : AVal) (x9 : Int) (s : Int × Mm) (m1 : Mm) (t1 : Tr) : Prop :=
  match s with
  | (x12, m_5) => m_5 = m1 ∧ t1.get 12 = (.i .i64 x12) ∧ t1.get 1 = v1 ∧ t1.get 2 = v2 ∧ t1.get 3 = v3 ∧ t1.get 4 = (.i .i64 x9) ∧ t1.get 9 = (.i .i64 x9)
abbrev g62_J1 (v1 : AVal) (v2 : AVal) (v3 : AVal) (x9 : Int) (o : Mm) (e : AExit) (m1 : Mm) (t1 : Tr) : Prop :=
  match o with
  | mo => e = (.exit 2) ∧ mo = m1 ∧ t1.get 1 = v1 ∧ t1.get 2 = v2 ∧ t1.get 3 = v3 ∧ t1.get 9 = (.i .i64 x9)
def g62_b1 (M : Means) (ro : List ABlk) (v1 : AVal) (v2 : AVal) (v3 : AVal) (x9 : Int) (x12 : Int) (m_5 : Mm) : Option ((Int × Mm) ⊕ (Mm)) :=
  forceB (ltI x12 6) fun c13 =>
  cond c13 (
    bindO (evP .e (.ixA 6 6 (.c v3) (.c (.i .i64 x9)))) fun v19 =>
    bindO (ldM ro m_5 false 3 v1) fun v17 =>
    bindP (callM M.call m_5 76 [v17]) fun v18 m_6 =>
    asI .u32 v18 fun x18 =>
    bindO (evP .e (.ixA 6 1 (.c v19) (.c (.i .i64 x12)))) fun v20 =>
    bindP (stepM ro m_6 (.st 1 (.c v20) (.c (.i .u32 x18)))) fun vn m_7 =>
    forceI (wr .i64 (x12 + 1)) fun x21 =>
    some (.inl (x21, m_7))) (
    some (.inr m_5))
def g62_b0 (M : Means) (ro : List ABlk) (v1 : AVal) (v2 : AVal) (v3 : AVal) (x9 : Int) (m_4 : Mm) : Option ((Int × Mm) ⊕ (Mm)) :=
  forceB (ltI x9 6) fun c10 =>
  cond c10 (
    bindO (M.loop (S := Int × Mm) (R := Mm) (fun s => g62_b1 M ro v1 v2 v3 x9 s.1 s.2) (0, m_4)) fun m_8 =>
    forceI (wr .i64 (x9 + 1)) fun x22 =>
    some (.inl (x22, m_8))) (
    some (.inr m_4))
abbrev g62_I2 (v1 : AVal) (v2 : AVal) (v3 : AVal) (v24 : AVal) (x25 : Int) (s : Int × Mm) (m1 : Mm) (t1 : Tr) : Prop :=
  match s with
  | (x26, m_10) => m_10 = m1 ∧ t1.get 26 = (.i .i64 x26) ∧ t1.get 1 = v1 ∧ t1.get 2 = v2 ∧ t1.get 3 = v3 ∧ t1.get 24 = v24 ∧ t1.get 25 = (.i .i64 x25)
abbrev g62_J2 (v1 : AVal) (v2 : AVal) (v3 : AVal) (v24 : AVal) (x25 : Int) (o : Mm) (e : AExit) (m1 : Mm) (t1 : Tr) : Prop :=
  match o with
  | mo => e = (.exit 4) ∧ mo = m1 ∧ t1.get 2 = v2 ∧ t1.get 3 = v3
abbrev g62_J3 (v1 : AVal) (v2 : AVal) (v3 : AVal) (v7 : AVal) (v24 : AVal) (x25 : Int) (x26 : Int) (o : Mm) (e : AExit) (m1 : Mm) (t1 : Tr) : Prop :=
  match o with
  | mo => e = .norm ∧ mo = m1 ∧ t1.get 1 = v1 ∧ t1.get 2 = v2 ∧ t1.get 3 = v3 ∧ t1.get 7 = v7 ∧ t1.get 24 = v24 ∧ t1.get 25 = (.i .i64 x25) ∧ t1.get 26 = (.i .i64 x26)
def g62_b2 (M : Means) (ro : List ABlk) (v1 : AVal) (v2 : AVal) (v3 : AVal) (v24 : AVal) (x25 : Int) (x26 : Int) (m_10 : Mm) : Option ((Int × Mm) ⊕ (Mm)) :=
  forceB (ltI x26 x25) fun c27 =>
  cond c27 (
    bindO (evP .e (.ixS 4 (.c v24) (.c (.i .i64 x26)))) fun v28 =>
    bindO (ldM ro m_10 false 4 v28) fun v29 =>
    bindP (stepM ro m_10 (.al 31 [(AVal.i IntKind.i64 0), (AVal.i IntKind.i64 0), (AVal.i IntKind.i64 0), (AVal.i IntKind.i64 0)])) fun v7 m_11 =>
    bindP (stepM ro m_11 (.st 4 (.c v7) (.c v29))) fun vn_1 m_12 =>
    bindO (evP .e (.faddr 0 (.c v7))) fun v30 =>
    bindO (ldM ro m_12 true 1 v30) fun v31 =>
    asI .i64 v31 fun x31 =>
    bindO (evP .e (.faddr 1 (.c v7))) fun v32 =>
    bindO (ldM ro m_12 true 1 v32) fun v33 =>
    asI .i64 v33 fun x33 =>
    forceB (ltI x33 x31) fun c34 =>
    bindO (α := Mm) (
      cond c34 (
        bindO (ldM ro m_12 false 4 v7) fun v35 =>
        bindP (callM M.call m_12 77 [v35]) fun v36 m_13 =>
        bindP (stepM ro m_13 (.st 4 (.c v7) (.c v36))) fun vn_2 m_14 =>
        some m_14) (
        some m_12)) fun m_15 =>
    bindO (evP .e (.faddr 3 (.c v7))) fun v37 =>
    bindO (ldM ro m_15 true 1 v37) fun v38 =>
    asI .i64 v38 fun x38 =>
    bindO (evP .e (.faddr 2 (.c v7))) fun v39 =>
    bindO (ldM ro m_15 true 1 v39) fun v40 =>
    asI .i64 v40 fun x40 =>
    forceI (wr .i64 (x38 - x40)) fun x41 =>
    forceI (wr .i64 (x41 + 1)) fun x42 =>
    chk (!ltI x42 (.ofNat 0)) <|
    forceI (shlV .u32 1 x42) fun x43 =>
    forceI (wr .u32 (x43 - 1)) fun x44 =>
    bindO (evP .e (.faddr 0 (.c v7))) fun v45 =>
    bindO (ldA ro m_15.h true 1 v45) fun v46 =>
    asI .i64 v46 fun x46 =>
    bindO (evP .e (.faddr 1 (.c v7))) fun v47 =>
    bindO (ldA ro m_15.h true 1 v47) fun v48 =>
    asI .i64 v48 fun x48 =>
    bindO (evP .e (.ixA 6 6 (.c v3) (.c (.i .i64 x46)))) fun v49 =>
    bindO (evP .e (.ixA 6 1 (.c v49) (.c (.i .i64 x48)))) fun v50 =>
    bindO (ldA ro m_15.h true 1 v50) fun v51 =>
    asI .u32 v51 fun x51 =>
    bindO (ldA ro m_15.h false 3 v1) fun v52 =>
    bindO (ldA ro m_15.h false 3 v1) fun v54 =>
    bindO (evP .e (.faddr 2 (.c v7))) fun v55 =>
    bindO (ldA ro m_15.h true 1 v55) fun v56 =>
    asI .i64 v56 fun x56 =>
    bindO (callN M.call m_15.h 70 [v54, (.i .i64 x56)]) fun v57 =>
    asI .i64 v57 fun x57 =>
    bindO (callN M.call m_15.h 78 [v52, (.i .u32 x44), (.i .i64 x57)]) fun v58 =>
    asI .u32 v58 fun x58 =>
    forceI (bitV .and .u32 x51 x58) fun x59 =>
    bindO (evP .e (.ixA 6 6 (.c v3) (.c (.i .i64 x46)))) fun v60 =>
    bindO (evP .e (.ixA 6 1 (.c v60) (.c (.i .i64 x48)))) fun v61 =>
    asP v61 fun qs =>
    bindO (writesM ro [] [(qs, AVal.cells (.i .u32 x59))] ⟨m_15.h, m_15.lw, m_15.lp⟩) fun m_16 =>
    forceI (wr .i64 (x26 + 1)) fun x62 =>
    some (.inl (x62, m_16))) (
    some (.inr m_10))
def g62 (M : Means) (ro : List ABlk) (v0 : AVal) (m0 : Mm) : Option (AVal × Heap × Nat × Nat) :=
  bindP (stepM ro m0 (.bx 55 3 (.c v0))) fun v1 m_1 =>
  bindP (stepM ro m_1 (.al 84 [(AVal.i IntKind.u32 0), (AVal.i IntKind.u32 0), (AVal.i IntKind.u32 0), (AVal.i IntKind.u32 0), (AVal.i IntKind.u32 0), (AVal.i IntKind.u32 0), (AVal.i IntKind.u32 0), (AVal.i IntKind.u32 0), (AVal.i IntKind.u32 0), (AVal.i IntKind.u32 0), (AVal.i IntKind.u32 0), (AVal.i IntKind.u32 0), (AVal.i IntKind.u32 0), (AVal.i IntKind.u32 0), (AVal.i IntKind.u32 0), (AVal.i IntKind.u32 0), (AVal.i IntKind.u32 0), (AVal.i IntKind.u32 0), (AVal.i IntKind.u32 0), (AVal.i IntKind.u32 0), (AVal.i IntKind.u32 0), (AVal.i IntKind.u32 0), (AVal.i IntKind.u32 0), (AVal.i IntKind.u32 0), (AVal.i IntKind.u32 0), (AVal.i IntKind.u32 0), (AVal.i IntKind.u32 0), (AVal.i IntKind.u32 0), (AVal.i IntKind.u32 0), (AVal.i IntKind.u32 0), (AVal.i IntKind.u32 0), (AVal.i IntKind.u32 0), (AVal.i IntKind.u32 0), (AVal.i IntKind.u32 0), (AVal.i IntKind.u32 0), (AVal.i IntKind.u32 0)])) fun v2 m_2 =>
  bindP (stepM ro m_2 (.al 84 [(AVal.i IntKind.u32 0), (AVal.i IntKind.u32 0), (AVal.i IntKind.u32 0), (AVal.i IntKind.u32 0), (AVal.i IntKind.u32 0), (AVal.i IntKind.u32 0), (AVal.i IntKind.u32 0), (AVal.i IntKind.u32 0), (AVal.i IntKind.u32 0), (AVal.i IntKind.u32 0), (AVal.i IntKind.u32 0), (AVal.i IntKind.u32 0), (AVal.i IntKind.u32 0), (AVal.i IntKind.u32 0), (AVal.i IntKind.u32 0), (AVal.i IntKind.u32 0), (AVal.i IntKind.u32 0), (AVal.i IntKind.u32 0), (AVal.i IntKind.u32 0), (AVal.i IntKind.u32 0), (AVal.i IntKind.u32 0), (AVal.i IntKind.u32 0), (AVal.i IntKind.u32 0), (AVal.i IntKind.u32 0), (AVal.i IntKind.u32 0), (AVal.i IntKind.u32 0), (AVal.i IntKind.u32 0), (AVal.i IntKind.u32 0), (AVal.i IntKind.u32 0), (AVal.i IntKind.u32 0), (AVal.i IntKind.u32 0), (AVal.i IntKind.u32 0), (AVal.i IntKind.u32 0), (AVal.i IntKind.u32 0), (AVal.i IntKind.u32 0), (AVal.i IntKind.u32 0)])) fun v3 m_3 =>
  bindO (M.loop (S := Int × Mm) (R := Mm) (fun s => g62_b0 M ro v1 v2 v3 s.1 s.2) (0, m_3)) fun m_9 =>
  bindO (evP .e (.faddr 2 (.c v1))) fun v23 =>
  bindO (ldM ro m_9 true 1 v23) fun v24 =>
  bindO (evP .e (.len false (.c v24))) fun v25 =>
  asI .i64 v25 fun x25 =>
  bindO (M.loop (S := Int × Mm) (R := Mm) (fun s => g62_b2 M ro v1 v2 v3 v24 x25 s.1 s.2) (0, m_9)) fun m_17 =>
  bindO (ldM ro m_17 false 36 v3) fun v63 =>
  bindP (stepM ro m_17 (.st 36 (.c v2) (.c v63))) fun vn_3 m_18 =>
  bindO (ldM ro m_18 false 36 v2) fun vr =>
  finM m0.h.length (tupA [vr]) m_18

theorem g62_ok {ro : List ABlk} {O : Caller} {M : Means} (hM : M.Ok ⟨F, O⟩ ro) {v0 h r} (ho : O 62 [v0] h = none) (hr : g62 M ro v0 ⟨h, h.length, h.length⟩ = some r) : callX ⟨F, O⟩ ro 62 [v0] h = some r := by
  refine callX_of (F := ⟨F, O⟩) (fn := fn62) (g := g62 M ro v0) ho rfl rfl hr ?_
  clear ho
  clear hr
  intro m0 t0 ht hr
  have g0 : t0.get 0 = v0 := ht 0
  clear ht
  unfold g62 at hr
  refine w_seq ?_
  refine w_ops ?_
  have hq := bindP_inv hr
  clear hr
  obtain ⟨v1, m_1, e1, hr⟩ := hq
  refine wo_step (v := v1) (s_bx g0 e1) ?_
  have hq := bindP_inv hr
  clear hr
  obtain ⟨v2, m_2, e2, hr⟩ := hq
  refine wo_step (v := v2) (s_al e2) ?_
  refine wo_nil ?_
  refine nx_norm ?_
  refine w_seq ?_
  refine w_ops ?_
  have hq := bindP_inv hr
  clear hr
  obtain ⟨v3, m_3, e3, hr⟩ := hq
  refine wo_step (v := v3) (s_al e3) ?_
  refine wo_nil ?_
  refine nx_norm ?_
  refine w_seq ?_
  refine w_seq ?_
  refine w_ops ?_
  refine wo_step (v := (.i .i64 0)) (s_pure (p_mv rfl)) ?_
  refine wo_nil ?_
  refine nx_norm ?_
  refine w_block ?_
  have hq := bindO_inv hr
  clear hr
  obtain ⟨o_1, hl_2, hr⟩ := hq
  obtain ⟨n_2, hl_2⟩ := hM.loop _ _ _ hl_2
  refine jp_mono (w_loop _ (g62_I0 v1 v2 v3) (g62_J0 v1 v2 v3) ?_ n_2 _ _ _ _ hl_2 ⟨rfl, gl rfl, gl rfl, gl rfl, gl rfl⟩) ?_
  · clear hr hl_2
    intro s mm_6 t_1 o hi hr
    obtain ⟨x9, m_4⟩ := s
    obtain ⟨rfl, g9, g1, g2, g3⟩ := hi
    unfold g62_b0 at hr
    refine w_seq ?_
    refine w_ops ?_
    have hq := forceB_inv hr
    clear hr
    obtain ⟨c10, e10, hr⟩ := hq
    refine wo_step (v := (.b c10)) (s_pure (p_bin g9 rfl (b_lss.trans (cb e10)))) ?_
    refine wo_nil ?_
    refine nx_norm ?_
    refine w_seq ?_
    have hq := cond_inv hr
    clear hr
    rcases hq with ⟨rfl, hr⟩ | ⟨rfl, hr⟩
    · refine w_condT rfl ?_
      refine w_skip ?_
      refine nx_norm ?_
      refine w_seq ?_
      refine w_block ?_
      refine w_seq ?_
      refine w_ops ?_
      refine wo_step (v := (.i .i64 x9)) (s_pure (p_mv g9)) ?_
      refine wo_step (v := (.i .i64 x9)) (s_pure (p_mv rfl)) ?_
      refine wo_nil ?_
      refine nx_norm ?_
      refine w_seq ?_
      refine w_ops ?_
      refine wo_step (v := (.i .i64 0)) (s_pure (p_mv rfl)) ?_
      refine wo_nil ?_
      refine nx_norm ?_
      refine w_block ?_
      have hq := bindO_inv hr
      clear hr
      obtain ⟨o, hl, hr⟩ := hq
      obtain ⟨n, hl⟩ := hM.loop _ _ _ hl
      refine jp_mono (w_loop _ (g62_I1 v1 v2 v3 x9) (g62_J1 v1 v2 v3 x9) ?_ n _ _ _ _ hl ⟨rfl, gl rfl, gl g1, gl g2, gl g3, gl rfl, gl g9⟩) ?_
      · clear hr hl
        intro s mm_1 t_2 o hi hr
        obtain ⟨x12, m_5⟩ := s
        obtain ⟨rfl, g12, g1, g2, g3, g4, g9⟩ := hi
        unfold g62_b1 at hr
        refine w_seq ?_
        refine w_ops ?_
        have hq := forceB_inv hr
        clear hr
        obtain ⟨c13, e13, hr⟩ := hq
        refine wo_step (v := (.b c13)) (s_pure (p_bin g12 rfl (b_lss.trans (cb e13)))) ?_
        refine wo_nil ?_
        refine nx_norm ?_
        refine w_seq ?_
        have hq := cond_inv hr
        clear hr
        rcases hq with ⟨rfl, hr⟩ | ⟨rfl, hr⟩
        · refine w_condT rfl ?_
          refine w_skip ?_
          refine nx_norm ?_
          refine w_seq ?_
          refine w_block ?_
          refine w_seq ?_
          refine w_ops ?_
          refine wo_step (v := (.i .i64 x12)) (s_pure (p_mv g12)) ?_
          refine wo_step (v := (.i .i64 x12)) (s_pure (p_mv rfl)) ?_
          refine wo_nil ?_
          refine nx_norm ?_
          refine w_ops ?_
          refine wo_step (v := (.i .i64 x9)) (s_pure (p_mv g4)) ?_
          refine wo_step (v := (.i .i64 x12)) (s_pure (p_mv rfl)) ?_
          have hq := bindO_inv hr
          clear hr
          obtain ⟨v19, e19, hr⟩ := hq
          refine wo_step (v := v19) (s_pure (o_ixA g3 rfl e19)) ?_
          have hq := bindO_inv hr
          clear hr
          obtain ⟨v17, e17, hr⟩ := hq
          refine wo_step (v := v17) (s_ld g1 e17) ?_
          have hq := bindP_inv hr
          clear hr
          obtain ⟨v18, m_6, e18, hr⟩ := hq
          have hq := asI_inv hr
          clear hr
          obtain ⟨x18, rfl, hr⟩ := hq
          refine wo_step (v := (.i .u32 x18)) (s_call (mc rfl mn) (callM_le hM.call e18)) ?_
          have hq := bindO_inv hr
          clear hr
          obtain ⟨v20, e20, hr⟩ := hq
          refine wo_step (v := v20) (s_pure (o_ixA rfl rfl e20)) ?_
          have hq := bindP_inv hr
          clear hr
          obtain ⟨vn, m_7, en, hr⟩ := hq
          refine wo_stepN (s_st rfl rfl en) ?_
          refine wo_nil ?_
          refine bk_norm ?_
          refine nx_norm ?_
          refine w_ops ?_
          have hq := forceI_inv hr
          clear hr
          obtain ⟨x21, e21, hr⟩ := hq
          refine wo_step (v := (.i .i64 x21)) (s_pure (p_bin g12 rfl (b_add.trans (ci e21)))) ?_
          refine wo_step (v := (.i .i64 x21)) (s_pure (p_mv rfl)) ?_
          refine wo_nil ?_
          cases hr
          exact ⟨_, _, rfl, rfl, rfl, gl rfl, gl g1, gl g2, gl g3, gl g4, gl g9⟩
        · refine w_condF rfl ?_
          refine w_exit ?_
          refine nx_exit ?_
          cases hr
          exact ⟨_, _, rfl, ne_norm_exit, rfl, rfl, gl g1, gl g2, gl g3, gl g9⟩
      · obtain ⟨m_8, ho⟩ : ∃ z, z = o := ⟨_, rfl⟩
        subst ho
        rintro _ mm t_3 ⟨rfl, rfl, g1, g2, g3, g9⟩
        refine bk_hit ?_
        refine bk_norm ?_
        refine nx_norm ?_
        refine w_ops ?_
        have hq := forceI_inv hr
        clear hr
        obtain ⟨x22, e22, hr⟩ := hq
        refine wo_step (v := (.i .i64 x22)) (s_pure (p_bin g9 rfl (b_add.trans (ci e22)))) ?_
        refine wo_step (v := (.i .i64 x22)) (s_pure (p_mv rfl)) ?_
        refine wo_nil ?_
        cases hr
        exact ⟨_, _, rfl, rfl, rfl, gl rfl, gl g1, gl g2, gl g3⟩
    · refine w_condF rfl ?_
      refine w_exit ?_
      refine nx_exit ?_
      cases hr
      exact ⟨_, _, rfl, ne_norm_exit, rfl, rfl, gl g1, gl g2, gl g3⟩
  · obtain ⟨m_9, ho⟩ : ∃ z, z = o_1 := ⟨_, rfl⟩
    subst ho
    rintro _ mm_5 t_4 ⟨rfl, rfl, g1, g2, g3⟩
    refine bk_hit ?_
    refine nx_norm ?_
    refine w_seq ?_
    refine w_seq ?_
    refine w_ops ?_
    have hq := bindO_inv hr
    clear hr
    obtain ⟨v23, e23, hr⟩ := hq
    refine wo_step (v := v23) (s_pure (o_faddr g1 e23)) ?_
    have hq := bindO_inv hr
    clear hr
    obtain ⟨v24, e24, hr⟩ := hq
    refine wo_step (v := v24) (s_ld rfl e24) ?_
    have hq := bindO_inv hr
    clear hr
    obtain ⟨v25, e25, hr⟩ := hq
    have hq := asI_inv hr
    clear hr
    obtain ⟨x25, rfl, hr⟩ := hq
    refine wo_step (v := (.i .i64 x25)) (s_pure (o_len rfl e25)) ?_
    refine wo_step (v := (.i .i64 0)) (s_pure (p_mv rfl)) ?_
    refine wo_nil ?_
    refine nx_norm ?_
    refine w_block ?_
    have hq := bindO_inv hr
    clear hr
    obtain ⟨o_3, hl_1, hr⟩ := hq
    obtain ⟨n_1, hl_1⟩ := hM.loop _ _ _ hl_1
    refine jp_mono (w_loop _ (g62_I2 v1 v2 v3 v24 x25) (g62_J2 v1 v2 v3 v24 x25) ?_ n_1 _ _ _ _ hl_1 ⟨rfl, gl rfl, gl g1, gl g2, gl g3, gl rfl, gl rfl⟩) ?_
    · clear hr hl_1
      intro s mm_4 t_5 o hi hr
      obtain ⟨x26, m_10⟩ := s
      obtain ⟨rfl, g26, g1, g2, g3, g24, g25⟩ := hi
      unfold g62_b2 at hr
      refine w_seq ?_
      refine w_ops ?_
      have hq := forceB_inv hr
      clear hr
      obtain ⟨c27, e27, hr⟩ := hq
      refine wo_step (v := (.b c27)) (s_pure (p_bin g26 g25 (b_lss.trans (cb e27)))) ?_
      refine wo_nil ?_
      refine nx_norm ?_
      refine w_seq ?_
      have hq := cond_inv hr
      clear hr
      rcases hq with ⟨rfl, hr⟩ | ⟨rfl, hr⟩
      · refine w_condT rfl ?_
        refine w_skip ?_
        refine nx_norm ?_
        refine w_seq ?_
        refine w_block ?_
        refine w_seq ?_
        refine w_ops ?_
        have hq := bindO_inv hr
        clear hr
        obtain ⟨v28, e28, hr⟩ := hq
        refine wo_step (v := v28) (s_pure (o_ixS g24 g26 e28)) ?_
        have hq := bindO_inv hr
        clear hr
        obtain ⟨v29, e29, hr⟩ := hq
        refine wo_step (v := v29) (s_ld rfl e29) ?_
        have hq := bindP_inv hr
        clear hr
        obtain ⟨v7, m_11, e7, hr⟩ := hq
        refine wo_step (v := v7) (s_al e7) ?_
        have hq := bindP_inv hr
        clear hr
        obtain ⟨vn_1, m_12, en_1, hr⟩ := hq
        refine wo_stepN (s_st rfl rfl en_1) ?_
        refine wo_nil ?_
        refine nx_norm ?_
        refine w_seq ?_
        refine w_seq ?_
        refine w_ops ?_
        have hq := bindO_inv hr
        clear hr
        obtain ⟨v30, e30, hr⟩ := hq
        refine wo_step (v := v30) (s_pure (o_faddr rfl e30)) ?_
        have hq := bindO_inv hr
        clear hr
        obtain ⟨v31, e31, hr⟩ := hq
        have hq := asI_inv hr
        clear hr
        obtain ⟨x31, rfl, hr⟩ := hq
        refine wo_step (v := (.i .i64 x31)) (s_ld rfl e31) ?_
        have hq := bindO_inv hr
        clear hr
        obtain ⟨v32, e32, hr⟩ := hq
        refine wo_step (v := v32) (s_pure (o_faddr rfl e32)) ?_
        have hq := bindO_inv hr
        clear hr
        obtain ⟨v33, e33, hr⟩ := hq
        have hq := asI_inv hr
        clear hr
        obtain ⟨x33, rfl, hr⟩ := hq
        refine wo_step (v := (.i .i64 x33)) (s_ld rfl e33) ?_
        have hq := forceB_inv hr
        clear hr
        obtain ⟨c34, e34, hr⟩ := hq
        refine wo_step (v := (.b c34)) (s_pure (p_bin rfl rfl (b_gtr.trans (cb e34)))) ?_
        refine wo_nil ?_
        refine nx_norm ?_
        have hq := bindO_inv hr
        clear hr
        obtain ⟨o_2, hr, hk⟩ := hq
        refine jp_mono (J := g62_J3 v1 v2 v3 v7 v24 x25 x26 o_2) ?_ ?_
        · clear hk
          have hq := cond_inv hr
          clear hr
          rcases hq with ⟨rfl, hr⟩ | ⟨rfl, hr⟩
          · refine w_condT rfl ?_
            refine w_ops ?_
            have hq := bindO_inv hr
            clear hr
            obtain ⟨v35, e35, hr⟩ := hq
            refine wo_step (v := v35) (s_ld rfl e35) ?_
            have hq := bindP_inv hr
            clear hr
            obtain ⟨v36, m_13, e36, hr⟩ := hq
            refine wo_step (v := v36) (s_call (mc rfl mn) (callM_le hM.call e36)) ?_
            have hq := bindP_inv hr
            clear hr
            obtain ⟨vn_2, m_14, en_2, hr⟩ := hq
            refine wo_stepN (s_st rfl rfl en_2) ?_
            refine wo_nil ?_
            cases hr
            exact ⟨_, _, rfl, rfl, rfl, gl g1, gl g2, gl g3, gl rfl, gl g24, gl g25, gl g26⟩
          · refine w_condF rfl ?_
            refine w_skip ?_
            cases hr
            exact ⟨_, _, rfl, rfl, rfl, gl g1, gl g2, gl g3, gl rfl, gl g24, gl g25, gl g26⟩
        · have hr := hk
          clear hk
          obtain ⟨m_15, ho⟩ : ∃ z, z = o_2 := ⟨_, rfl⟩
          subst ho
          rintro _ mm_2 t_6 ⟨rfl, rfl, g1, g2, g3, g7, g24, g25, g26⟩
          refine nx_norm ?_
          refine w_seq ?_
          refine w_ops ?_
          have hq := bindO_inv hr
          clear hr
          obtain ⟨v37, e37, hr⟩ := hq
          refine wo_step (v := v37) (s_pure (o_faddr g7 e37)) ?_
          have hq := bindO_inv hr
          clear hr
          obtain ⟨v38, e38, hr⟩ := hq
          have hq := asI_inv hr
          clear hr
          obtain ⟨x38, rfl, hr⟩ := hq
          refine wo_step (v := (.i .i64 x38)) (s_ld rfl e38) ?_
          have hq := bindO_inv hr
          clear hr
          obtain ⟨v39, e39, hr⟩ := hq
          refine wo_step (v := v39) (s_pure (o_faddr g7 e39)) ?_
          have hq := bindO_inv hr
          clear hr
          obtain ⟨v40, e40, hr⟩ := hq
          have hq := asI_inv hr
          clear hr
          obtain ⟨x40, rfl, hr⟩ := hq
          refine wo_step (v := (.i .i64 x40)) (s_ld rfl e40) ?_
          have hq := forceI_inv hr
          clear hr
          obtain ⟨x41, e41, hr⟩ := hq
          refine wo_step (v := (.i .i64 x41)) (s_pure (p_bin rfl rfl (b_sub.trans (ci e41)))) ?_
          have hq := forceI_inv hr
          clear hr
          obtain ⟨x42, e42, hr⟩ := hq
          refine wo_step (v := (.i .i64 x42)) (s_pure (p_bin rfl rfl (b_add.trans (ci e42)))) ?_
          have hq := chk_inv hr
          clear hr
          obtain ⟨hc43, hr⟩ := hq
          have hq := forceI_inv hr
          clear hr
          obtain ⟨x43, e43, hr⟩ := hq
          refine wo_step (v := (.i .u32 x43)) (s_pure (p_bin rfl rfl ((b_shl hc43).trans (ci e43)))) ?_
          have hq := forceI_inv hr
          clear hr
          obtain ⟨x44, e44, hr⟩ := hq
          refine wo_step (v := (.i .u32 x44)) (s_pure (p_bin rfl rfl (b_sub.trans (ci e44)))) ?_
          refine wo_step (v := (.i .u32 x44)) (s_pure (p_mv rfl)) ?_
          refine wo_nil ?_
          refine nx_norm ?_
          refine w_any ?_
          have hq := bindO_inv hr
          clear hr
          obtain ⟨v45, e45, hr⟩ := hq
          refine wa_step (v := v45) (a_pure (o_faddr g7 e45)) ?_
          have hq := bindO_inv hr
          clear hr
          obtain ⟨v46, e46, hr⟩ := hq
          have hq := asI_inv hr
          clear hr
          obtain ⟨x46, rfl, hr⟩ := hq
          refine wa_step (v := (.i .i64 x46)) (a_ld rfl e46) ?_
          have hq := bindO_inv hr
          clear hr
          obtain ⟨v47, e47, hr⟩ := hq
          refine wa_step (v := v47) (a_pure (o_faddr g7 e47)) ?_
          have hq := bindO_inv hr
          clear hr
          obtain ⟨v48, e48, hr⟩ := hq
          have hq := asI_inv hr
          clear hr
          obtain ⟨x48, rfl, hr⟩ := hq
          refine wa_step (v := (.i .i64 x48)) (a_ld rfl e48) ?_
          have hq := bindO_inv hr
          clear hr
          obtain ⟨v49, e49, hr⟩ := hq
          refine wa_step (v := v49) (a_pure (o_ixA g3 rfl e49)) ?_
          have hq := bindO_inv hr
          clear hr
          obtain ⟨v50, e50, hr⟩ := hq
          refine wa_step (v := v50) (a_pure (o_ixA rfl rfl e50)) ?_
          have hq := bindO_inv hr
          clear hr
          obtain ⟨v51, e51, hr⟩ := hq
          have hq := asI_inv hr
          clear hr
          obtain ⟨x51, rfl, hr⟩ := hq
          refine wa_step (v := (.i .u32 x51)) (a_ld rfl e51) ?_
          have hq := bindO_inv hr
          clear hr
          obtain ⟨v52, e52, hr⟩ := hq
          refine wa_step (v := v52) (a_ld g1 e52) ?_
          refine wa_step (v := (.i .u32 x44)) (a_pure (p_mv rfl)) ?_
          have hq := bindO_inv hr
          clear hr
          obtain ⟨v54, e54, hr⟩ := hq
          refine wa_step (v := v54) (a_ld g1 e54) ?_
          have hq := bindO_inv hr
          clear hr
          obtain ⟨v55, e55, hr⟩ := hq
          refine wa_step (v := v55) (a_pure (o_faddr g7 e55)) ?_
          have hq := bindO_inv hr
          clear hr
          obtain ⟨v56, e56, hr⟩ := hq
          have hq := asI_inv hr
          clear hr
          obtain ⟨x56, rfl, hr⟩ := hq
          refine wa_step (v := (.i .i64 x56)) (a_ld rfl e56) ?_
          have hq := bindO_inv hr
          clear hr
          obtain ⟨v57, e57, hr⟩ := hq
          have hq := asI_inv hr
          clear hr
          obtain ⟨x57, rfl, hr⟩ := hq
          refine wa_step (v := (.i .i64 x57)) (a_call (mc rfl (mc rfl mn)) (callN_le hM.call e57)) ?_
          have hq := bindO_inv hr
          clear hr
          obtain ⟨v58, e58, hr⟩ := hq
          have hq := asI_inv hr
          clear hr
          obtain ⟨x58, rfl, hr⟩ := hq
          refine wa_step (v := (.i .u32 x58)) (a_call (mc rfl (mc rfl (mc rfl mn))) (callN_le hM.call e58)) ?_
          have hq := forceI_inv hr
          clear hr
          obtain ⟨x59, e59, hr⟩ := hq
          refine wa_step (v := (.i .u32 x59)) (a_pure (p_bin rfl rfl (b_and.trans (ci e59)))) ?_
          have hq := bindO_inv hr
          clear hr
          obtain ⟨v60, e60, hr⟩ := hq
          refine wa_step (v := v60) (a_pure (o_ixA g3 rfl e60)) ?_
          have hq := bindO_inv hr
          clear hr
          obtain ⟨v61, e61, hr⟩ := hq
          refine wa_step (v := v61) (a_pure (o_ixA rfl rfl e61)) ?_
          have hq := asP_inv hr
          clear hr
          obtain ⟨qs, eqs, hr⟩ := hq
          refine wa_stepN (a_st (Eq.trans (b := v61) rfl eqs) rfl rfl) ?_
          have hq := bindO_inv hr
          clear hr
          obtain ⟨m_16, ew, hr⟩ := hq
          refine wa_nil ?_
          refine ⟨m_16, ew, ?_⟩
          refine bk_norm ?_
          refine nx_norm ?_
          refine w_ops ?_
          have hq := forceI_inv hr
          clear hr
          obtain ⟨x62, e62, hr⟩ := hq
          refine wo_step (v := (.i .i64 x62)) (s_pure (p_bin g26 rfl (b_add.trans (ci e62)))) ?_
          refine wo_step (v := (.i .i64 x62)) (s_pure (p_mv rfl)) ?_
          refine wo_nil ?_
          cases hr
          exact ⟨_, _, rfl, rfl, rfl, gl rfl, gl g1, gl g2, gl g3, gl g24, gl g25⟩
      · refine w_condF rfl ?_
        refine w_exit ?_
        refine nx_exit ?_
        cases hr
        exact ⟨_, _, rfl, ne_norm_exit, rfl, rfl, gl g2, gl g3⟩
    · obtain ⟨m_17, ho⟩ : ∃ z, z = o_3 := ⟨_, rfl⟩
      subst ho
      rintro _ mm_3 t_7 ⟨rfl, rfl, g2, g3⟩
      refine bk_hit ?_
      refine nx_norm ?_
      refine w_seq ?_
      refine w_ops ?_
      have hq := bindO_inv hr
      clear hr
      obtain ⟨v63, e63, hr⟩ := hq
      refine wo_step (v := v63) (s_ld g3 e63) ?_
      have hq := bindP_inv hr
      clear hr
      obtain ⟨vn_3, m_18, en_3, hr⟩ := hq
      refine wo_stepN (s_st g2 rfl en_3) ?_
      refine wo_nil ?_
      refine nx_norm ?_
      refine w_ret ?_
      have hq := bindO_inv hr
      clear hr
      obtain ⟨vr, er, hr⟩ := hq
      exact qf ret_ok (rc g2 er rn) hr

/- (dibber/turn.hours).least -/

def g63 (M : Means) (ro : List ABlk) (x0 : Int) (m0 : Mm) : Option (AVal × Heap × Nat × Nat) :=
  bindP (callM M.call m0 79 [(.i .u32 x0)]) fun v4 m_1 =>
  asI .i64 v4 fun x4 =>
  finM m0.h.length (tupA [(.i .i64 x4)]) m_1

theorem g63_ok {ro : List ABlk} {O : Caller} {M : Means} (hM : M.Ok ⟨F, O⟩ ro) {x0 h r} (ho : O 63 [(.i .u32 x0)] h = none) (hr : g63 M ro x0 ⟨h, h.length, h.length⟩ = some r) : callX ⟨F, O⟩ ro 63 [(.i .u32 x0)] h = some r := by
  refine callX_of (F := ⟨F, O⟩) (fn := fn63) (g := g63 M ro x0) ho rfl rfl hr ?_
  clear ho
  clear hr
  intro m0 t0 ht hr
  have g0 : t0.get 0 = (.i .u32 x0) := ht 0
  clear ht
  unfold g63 at hr
  refine w_seq ?_
  refine w_ops ?_
  refine wo_step (v := (.i .i64 0)) (s_pure (p_mv rfl)) ?_
  refine wo_nil ?_
  refine nx_norm ?_
  refine w_seq ?_
  refine w_ops ?_
  refine wo_step (v := (.i .u32 x0)) (s_pure (p_mv g0)) ?_
  have hq := bindP_inv hr
  clear hr
  obtain ⟨v4, m_1, e4, hr⟩ := hq
  have hq := asI_inv hr
  clear hr
  obtain ⟨x4, rfl, hr⟩ := hq
  refine wo_step (v := (.i .i64 x4)) (s_call (mc rfl mn) (callM_le hM.call e4)) ?_
  refine wo_step (v := (.i .i64 x4)) (s_pure (p_mv rfl)) ?_
  refine wo_nil ?_
  refine nx_norm ?_
  refine w_ret ?_
  exact qf ret_ok (rt rfl rn) hr

/- (dibber/turn.hours).withoutLeast -/

def g64 (M : Means) (ro : List ABlk) (x0 : Int) (m0 : Mm) : Option (AVal × Heap × Nat × Nat) :=
  forceI (wr .u32 (x0 - 1)) fun x5 =>
  forceI (bitV .and .u32 x0 x5) fun x6 =>
  finM m0.h.length (tupA [(.i .u32 x6)]) m0

theorem g64_ok {ro : List ABlk} {O : Caller} {M : Means} (hM : M.Ok ⟨F, O⟩ ro) {x0 h r} (ho : O 64 [(.i .u32 x0)] h = none) (hr : g64 M ro x0 ⟨h, h.length, h.length⟩ = some r) : callX ⟨F, O⟩ ro 64 [(.i .u32 x0)] h = some r := by
  refine callX_of (F := ⟨F, O⟩) (fn := fn64) (g := g64 M ro x0) ho rfl rfl hr ?_
  clear ho
  clear hr
  intro m0 t0 ht hr
  have g0 : t0.get 0 = (.i .u32 x0) := ht 0
  clear ht
  unfold g64 at hr
  refine w_seq ?_
  refine w_ops ?_
  refine wo_step (v := (.i .u32 0)) (s_pure (p_mv rfl)) ?_
  refine wo_nil ?_
  refine nx_norm ?_
  refine w_seq ?_
  refine w_ops ?_
  refine wo_step (v := (.i .u32 x0)) (s_pure (p_mv g0)) ?_
  refine wo_step (v := (.i .u32 x0)) (s_pure (p_mv g0)) ?_
  have hq := forceI_inv hr
  clear hr
  obtain ⟨x5, e5, hr⟩ := hq
  refine wo_step (v := (.i .u32 x5)) (s_pure (p_bin rfl rfl (b_sub.trans (ci e5)))) ?_
  have hq := forceI_inv hr
  clear hr
  obtain ⟨x6, e6, hr⟩ := hq
  refine wo_step (v := (.i .u32 x6)) (s_pure (p_bin rfl rfl (b_and.trans (ci e6)))) ?_
  refine wo_step (v := (.i .u32 x6)) (s_pure (p_mv rfl)) ?_
  refine wo_nil ?_
  refine nx_norm ?_
  refine w_ret ?_
  exact qf ret_ok (rt rfl rn) hr

/- (dibber/turn.demands).open -/
abbrev g65_I0 (v2 : AVal) (v3 : AVal) (v4 : AVal) (x13 : Int) (m_3 : Mm) (s : Int × Int) (m1 : Mm) (t1 : Tr) : Prop :=
  match s with
  | (x7, x14) => m_3 = m1 ∧ t1.get 7 = (.i .u32 x7) ∧ t1.get 14 = (.i .i64 x14) ∧ t1.get 2 = v2 ∧ t1.get 3 = v3 ∧ t1.get 4 = v4 ∧ t1.get 12 = v2 ∧ t1.get 13 = (.i .i64 x13)
abbrev g65_J0 (v2 : AVal) (v3 : AVal) (v4 : AVal) (x13 : Int) (m_3 : Mm) (o : Int) (e : AExit) (m1 : Mm) (t1 : Tr) : Prop :=
  match o with
  | y7 => e = (.exit 0) ∧ m_3 = m1 ∧ t1.get 7 = (.i .u32 y7)
def g65_b0 (M : Means) (ro : List ABlk) (v2 : AVal) (v3 : AVal) (v4 : AVal) (x13 : Int) (m_3 : Mm) (x7 : Int) (x14 : Int) : Option ((Int × Int) ⊕ (Int)) :=
  forceB (ltI x14 x13) fun c15 =>
  cond c15 (
    bindO (evP .e (.ixS 1 (.c v2) (.c (.i .i64 x14)))) fun v17 =>
    bindO (ldM ro m_3 true 1 v17) fun v18 =>
    asI .i64 v18 fun x18 =>
    bindO (ldA ro m_3.h false 3 v3) fun v20 =>
    bindO (evP .e (.len false (.c v2))) fun v23 =>
    asI .i64 v23 fun x23 =>
    bindO (evP .e (.ixA 6 6 (.c v4) (.c (.i .i64 x14)))) fun v24 =>
    bindO (evP .e (.ixA 6 1 (.c v24) (.c (.i .i64 x23)))) fun v25 =>
    bindO (ldA ro m_3.h true 1 v25) fun v26 =>
    asI .u32 v26 fun x26 =>
    bindO (callN M.call m_3.h 78 [v20, (.i .u32 x26), (.i .i64 x18)]) fun v28 =>
    asI .u32 v28 fun x28 =>
    forceI (bitV .and .u32 x7 x28) fun x29 =>
    forceI (wr .i64 (x14 + 1)) fun x30 =>
    some (.inl (x29, x30))) (
    some (.inr x7))
def g65 (M : Means) (ro : List ABlk) (v0 : AVal) (v1 : AVal) (v2 : AVal) (m0 : Mm) : Option (AVal × Heap × Nat × Nat) :=
  bindP (stepM ro m0 (.bx 55 3 (.c v0))) fun v3 m_1 =>
  bindP (stepM ro m_1 (.bx 84 36 (.c v1))) fun v4 m_2 =>
  bindO (ldM ro m_2 false 3 v3) fun v10 =>
  bindP (callM M.call m_2 76 [v10]) fun v11 m_3 =>
  asI .u32 v11 fun x11 =>
  bindO (evP .e (.len false (.c v2))) fun v13 =>
  asI .i64 v13 fun x13 =>
  bindO (M.loop (S := Int × Int) (R := Int) (fun s => g65_b0 M ro v2 v3 v4 x13 m_3 s.1 s.2) (x11, 0)) fun x7_1 =>
  finM m0.h.length (tupA [(.i .u32 x7_1)]) m_3

theorem g65_ok {ro : List ABlk} {O : Caller} {M : Means} (hM : M.Ok ⟨F, O⟩ ro) {v0 v1 v2 h r} (ho : O 65 [v0, v1, v2] h = none) (hr : g65 M ro v0 v1 v2 ⟨h, h.length, h.length⟩ = some r) : callX ⟨F, O⟩ ro 65 [v0, v1, v2] h = some r := by
  refine callX_of (F := ⟨F, O⟩) (fn := fn65) (g := g65 M ro v0 v1 v2) ho rfl rfl hr ?_
  clear ho
  clear hr
  intro m0 t0 ht hr
  have g0 : t0.get 0 = v0 := ht 0
  have g1 : t0.get 1 = v1 := ht 1
  have g2 : t0.get 2 = v2 := ht 2
  clear ht
  unfold g65 at hr
  refine w_seq ?_
  refine w_ops ?_
  have hq := bindP_inv hr
  clear hr
  obtain ⟨v3, m_1, e3, hr⟩ := hq
  refine wo_step (v := v3) (s_bx g0 e3) ?_
  have hq := bindP_inv hr
  clear hr
  obtain ⟨v4, m_2, e4, hr⟩ := hq
  refine wo_step (v := v4) (s_bx g1 e4) ?_
  refine wo_step (v := (.i .u32 0)) (s_pure (p_mv rfl)) ?_
  refine wo_nil ?_
  refine nx_norm ?_
  refine w_seq ?_
  refine w_ops ?_
  have hq := bindO_inv hr
  clear hr
  obtain ⟨v10, e10, hr⟩ := hq
  refine wo_step (v := v10) (s_ld rfl e10) ?_
  have hq := bindP_inv hr
  clear hr
  obtain ⟨v11, m_3, e11, hr⟩ := hq
  have hq := asI_inv hr
  clear hr
  obtain ⟨x11, rfl, hr⟩ := hq
  refine wo_step (v := (.i .u32 x11)) (s_call (mc rfl mn) (callM_le hM.call e11)) ?_
  refine wo_step (v := (.i .u32 x11)) (s_pure (p_mv rfl)) ?_
  refine wo_nil ?_
  refine nx_norm ?_
  refine w_seq ?_
  refine w_seq ?_
  refine w_ops ?_
  refine wo_step (v := v2) (s_pure (p_mv g2)) ?_
  have hq := bindO_inv hr
  clear hr
  obtain ⟨v13, e13, hr⟩ := hq
  have hq := asI_inv hr
  clear hr
  obtain ⟨x13, rfl, hr⟩ := hq
  refine wo_step (v := (.i .i64 x13)) (s_pure (o_len rfl e13)) ?_
  refine wo_step (v := (.i .i64 0)) (s_pure (p_mv rfl)) ?_
  refine wo_nil ?_
  refine nx_norm ?_
  refine w_block ?_
  have hq := bindO_inv hr
  clear hr
  obtain ⟨o, hl, hr⟩ := hq
  obtain ⟨n, hl⟩ := hM.loop _ _ _ hl
  refine jp_mono (w_loop _ (g65_I0 v2 v3 v4 x13 m_3) (g65_J0 v2 v3 v4 x13 m_3) ?_ n _ _ _ _ hl ⟨rfl, gl rfl, gl rfl, gl g2, gl rfl, gl rfl, gl rfl, gl rfl⟩) ?_
  · clear hr hl
    intro s mm_1 t_1 o hi hr
    obtain ⟨x7, x14⟩ := s
    obtain ⟨rfl, g7, g14, g2, g3, g4, g12, g13⟩ := hi
    unfold g65_b0 at hr
    refine w_seq ?_
    refine w_ops ?_
    have hq := forceB_inv hr
    clear hr
    obtain ⟨c15, e15, hr⟩ := hq
    refine wo_step (v := (.b c15)) (s_pure (p_bin g14 g13 (b_lss.trans (cb e15)))) ?_
    refine wo_nil ?_
    refine nx_norm ?_
    refine w_seq ?_
    have hq := cond_inv hr
    clear hr
    rcases hq with ⟨rfl, hr⟩ | ⟨rfl, hr⟩
    · refine w_condT rfl ?_
      refine w_skip ?_
      refine nx_norm ?_
      refine w_seq ?_
      refine w_block ?_
      refine w_seq ?_
      refine w_ops ?_
      refine wo_step (v := (.i .i64 x14)) (s_pure (p_mv g14)) ?_
      have hq := bindO_inv hr
      clear hr
      obtain ⟨v17, e17, hr⟩ := hq
      refine wo_step (v := v17) (s_pure (o_ixS g12 g14 e17)) ?_
      have hq := bindO_inv hr
      clear hr
      obtain ⟨v18, e18, hr⟩ := hq
      have hq := asI_inv hr
      clear hr
      obtain ⟨x18, rfl, hr⟩ := hq
      refine wo_step (v := (.i .i64 x18)) (s_ld rfl e18) ?_
      refine wo_step (v := (.i .i64 x14)) (s_pure (p_mv rfl)) ?_
      refine wo_step (v := (.i .i64 x18)) (s_pure (p_mv rfl)) ?_
      refine wo_nil ?_
      refine nx_norm ?_
      refine w_any ?_
      refine wa_step (v := (.i .u32 x7)) (a_pure (p_mv g7)) ?_
      have hq := bindO_inv hr
      clear hr
      obtain ⟨v20, e20, hr⟩ := hq
      refine wa_step (v := v20) (a_ld g3 e20) ?_
      refine wa_step (v := (.i .i64 x14)) (a_pure (p_mv rfl)) ?_
      refine wa_step (v := v2) (a_pure (p_mv g2)) ?_
      have hq := bindO_inv hr
      clear hr
      obtain ⟨v23, e23, hr⟩ := hq
      have hq := asI_inv hr
      clear hr
      obtain ⟨x23, rfl, hr⟩ := hq
      refine wa_step (v := (.i .i64 x23)) (a_pure (o_len rfl e23)) ?_
      have hq := bindO_inv hr
      clear hr
      obtain ⟨v24, e24, hr⟩ := hq
      refine wa_step (v := v24) (a_pure (o_ixA g4 rfl e24)) ?_
      have hq := bindO_inv hr
      clear hr
      obtain ⟨v25, e25, hr⟩ := hq
      refine wa_step (v := v25) (a_pure (o_ixA rfl rfl e25)) ?_
      have hq := bindO_inv hr
      clear hr
      obtain ⟨v26, e26, hr⟩ := hq
      have hq := asI_inv hr
      clear hr
      obtain ⟨x26, rfl, hr⟩ := hq
      refine wa_step (v := (.i .u32 x26)) (a_ld rfl e26) ?_
      refine wa_step (v := (.i .i64 x18)) (a_pure (p_mv rfl)) ?_
      have hq := bindO_inv hr
      clear hr
      obtain ⟨v28, e28, hr⟩ := hq
      have hq := asI_inv hr
      clear hr
      obtain ⟨x28, rfl, hr⟩ := hq
      refine wa_step (v := (.i .u32 x28)) (a_call (mc rfl (mc rfl (mc rfl mn))) (callN_le hM.call e28)) ?_
      have hq := forceI_inv hr
      clear hr
      obtain ⟨x29, e29, hr⟩ := hq
      refine wa_step (v := (.i .u32 x29)) (a_pure (p_bin rfl rfl (b_and.trans (ci e29)))) ?_
      refine wa_step (v := (.i .u32 x29)) (a_pure (p_mv rfl)) ?_
      refine wa_nil ?_
      refine ⟨m_3, rfl, ?_⟩
      refine bk_norm ?_
      refine nx_norm ?_
      refine w_ops ?_
      have hq := forceI_inv hr
      clear hr
      obtain ⟨x30, e30, hr⟩ := hq
      refine wo_step (v := (.i .i64 x30)) (s_pure (p_bin g14 rfl (b_add.trans (ci e30)))) ?_
      refine wo_step (v := (.i .i64 x30)) (s_pure (p_mv rfl)) ?_
      refine wo_nil ?_
      cases hr
      exact ⟨_, _, rfl, rfl, rfl, gl rfl, gl rfl, gl g2, gl g3, gl g4, gl g12, gl g13⟩
    · refine w_condF rfl ?_
      refine w_exit ?_
      refine nx_exit ?_
      cases hr
      exact ⟨_, _, rfl, ne_norm_exit, rfl, rfl, gl g7⟩
  · obtain ⟨x7_1, ho⟩ : ∃ z, z = o := ⟨_, rfl⟩
    subst ho
    rintro _ mm t_2 ⟨rfl, rfl, g7⟩
    refine bk_hit ?_
    refine nx_norm ?_
    refine w_seq ?_
    refine w_ops ?_
    refine wo_step (v := (.i .u32 x7_1)) (s_pure (p_mv g7)) ?_
    refine wo_step (v := (.i .u32 x7_1)) (s_pure (p_mv rfl)) ?_
    refine wo_nil ?_
    refine nx_norm ?_
    refine w_ret ?_
    exact qf ret_ok (rt rfl rn) hr

/- (dibber/turn.demands).modulo -/

def g70 (M : Means) (ro : List ABlk) (v0 : AVal) (x1 : Int) (m0 : Mm) : Option (AVal × Heap × Nat × Nat) :=
  bindP (stepM ro m0 (.bx 55 3 (.c v0))) fun v2 m_1 =>
  bindO (evP .e (.faddr 0 (.c v2))) fun v6 =>
  bindO (ldA ro m_1.h true 1 v6) fun v7 =>
  asI .i64 v7 fun x7 =>
  chk (!eqI x7 (.ofNat 0)) <|
  forceI (Int.tmod x1 x7) fun x8 =>
  bindO (evP .e (.faddr 0 (.c v2))) fun v9 =>
  bindO (ldA ro m_1.h true 1 v9) fun v10 =>
  asI .i64 v10 fun x10 =>
  forceI (wr .i64 (x8 + x10)) fun x11 =>
  bindO (evP .e (.faddr 0 (.c v2))) fun v12 =>
  bindO (ldA ro m_1.h true 1 v12) fun v13 =>
  asI .i64 v13 fun x13 =>
  chk (!eqI x13 (.ofNat 0)) <|
  forceI (Int.tmod x11 x13) fun x14 =>
  finM m0.h.length (tupA [(.i .i64 x14)]) m_1

theorem g70_ok {ro : List ABlk} {O : Caller} {M : Means} (hM : M.Ok ⟨F, O⟩ ro) {v0 x1 h r} (ho : O 70 [v0, (.i .i64 x1)] h = none) (hr : g70 M ro v0 x1 ⟨h, h.length, h.length⟩ = some r) : callX ⟨F, O⟩ ro 70 [v0, (.i .i64 x1)] h = some r := by
  refine callX_of (F := ⟨F, O⟩) (fn := fn70) (g := g70 M ro v0 x1) ho rfl rfl hr ?_
  clear ho
  clear hr
  intro m0 t0 ht hr
  have g0 : t0.get 0 = v0 := ht 0
  have g1 : t0.get 1 = (.i .i64 x1) := ht 1
  clear ht
  unfold g70 at hr
  refine w_seq ?_
  refine w_ops ?_
  have hq := bindP_inv hr
  clear hr
  obtain ⟨v2, m_1, e2, hr⟩ := hq
  refine wo_step (v := v2) (s_bx g0 e2) ?_
  refine wo_step (v := (.i .i64 0)) (s_pure (p_mv rfl)) ?_
  refine wo_nil ?_
  refine nx_norm ?_
  refine w_seq ?_
  refine w_any ?_
  refine wa_step (v := (.i .i64 x1)) (a_pure (p_mv g1)) ?_
  have hq := bindO_inv hr
  clear hr
  obtain ⟨v6, e6, hr⟩ := hq
  refine wa_step (v := v6) (a_pure (o_faddr rfl e6)) ?_
  have hq := bindO_inv hr
  clear hr
  obtain ⟨v7, e7, hr⟩ := hq
  have hq := asI_inv hr
  clear hr
  obtain ⟨x7, rfl, hr⟩ := hq
  refine wa_step (v := (.i .i64 x7)) (a_ld rfl e7) ?_
  have hq := chk_inv hr
  clear hr
  obtain ⟨hc8, hr⟩ := hq
  have hq := forceI_inv hr
  clear hr
  obtain ⟨x8, e8, hr⟩ := hq
  refine wa_step (v := (.i .i64 x8)) (a_pure (p_bin rfl rfl ((b_rem hc8).trans (ci e8)))) ?_
  have hq := bindO_inv hr
  clear hr
  obtain ⟨v9, e9, hr⟩ := hq
  refine wa_step (v := v9) (a_pure (o_faddr rfl e9)) ?_
  have hq := bindO_inv hr
  clear hr
  obtain ⟨v10, e10, hr⟩ := hq
  have hq := asI_inv hr
  clear hr
  obtain ⟨x10, rfl, hr⟩ := hq
  refine wa_step (v := (.i .i64 x10)) (a_ld rfl e10) ?_
  have hq := forceI_inv hr
  clear hr
  obtain ⟨x11, e11, hr⟩ := hq
  refine wa_step (v := (.i .i64 x11)) (a_pure (p_bin rfl rfl (b_add.trans (ci e11)))) ?_
  have hq := bindO_inv hr
  clear hr
  obtain ⟨v12, e12, hr⟩ := hq
  refine wa_step (v := v12) (a_pure (o_faddr rfl e12)) ?_
  have hq := bindO_inv hr
  clear hr
  obtain ⟨v13, e13, hr⟩ := hq
  have hq := asI_inv hr
  clear hr
  obtain ⟨x13, rfl, hr⟩ := hq
  refine wa_step (v := (.i .i64 x13)) (a_ld rfl e13) ?_
  have hq := chk_inv hr
  clear hr
  obtain ⟨hc14, hr⟩ := hq
  have hq := forceI_inv hr
  clear hr
  obtain ⟨x14, e14, hr⟩ := hq
  refine wa_step (v := (.i .i64 x14)) (a_pure (p_bin rfl rfl ((b_rem hc14).trans (ci e14)))) ?_
  refine wa_step (v := (.i .i64 x14)) (a_pure (p_mv rfl)) ?_
  refine wa_nil ?_
  refine ⟨m_1, rfl, ?_⟩
  refine nx_norm ?_
  refine w_ret ?_
  exact qf ret_ok (rt rfl rn) hr

/- (dibber/turn.demands).step -/
abbrev g74_J0 (x1 : Int) (v2 : AVal) (v4 : AVal) (x9 : Int) (m_2 : Mm) (o : Bool) (m1 : Mm) (t1 : Tr) : Prop :=
  match o with
  | c17 => m_2 = m1 ∧ t1.get 17 = (.b c17) ∧ t1.get 1 = (.i .i64 x1) ∧ t1.get 2 = v2 ∧ t1.get 4 = v4 ∧ t1.get 6 = (.i .i64 x9)
abbrev g74_J1 (x1 : Int) (v2 : AVal) (v4 : AVal) (m_2 : Mm) (o : Bool) (m1 : Mm) (t1 : Tr) : Prop :=
  match o with
  | c32 => m_2 = m1 ∧ t1.get 32 = (.b c32) ∧ t1.get 1 = (.i .i64 x1) ∧ t1.get 2 = v2 ∧ t1.get 4 = v4
def g74 (M : Means) (ro : List ABlk) (v0 : AVal) (x1 : Int) (m0 : Mm) : Option (AVal × Heap × Nat × Nat) :=
  bindP (stepM ro m0 (.bx 55 3 (.c v0))) fun v2 m_1 =>
  bindP (stepM ro m_1 (.al 31 [(AVal.i IntKind.i64 0), (AVal.i IntKind.i64 0), (AVal.i IntKind.i64 0), (AVal.i IntKind.i64 0)])) fun v4 m_2 =>
  bindO (evP .e (.faddr 2 (.c v2))) fun v7 =>
  bindO (ldM ro m_2 true 1 v7) fun v8 =>
  bindO (evP .e (.len false (.c v8))) fun v9 =>
  asI .i64 v9 fun x9 =>
  forceB (!ltI x1 1) fun c12 =>
  bindO (cond c12 (
    forceB (!ltI x9 x1) fun c16 =>
    some c16) (
    some false)) fun c17 =>
  cond c17 (
    bindO (evP .e (.faddr 2 (.c v2))) fun v18 =>
    bindO (ldM ro m_2 true 1 v18) fun v19 =>
    forceI (wr .i64 (x1 - 1)) fun x21 =>
    bindO (evP .e (.ixS 4 (.c v19) (.c (.i .i64 x21)))) fun v22 =>
    bindO (ldM ro m_2 false 4 v22) fun v23 =>
    bindP (stepM ro m_2 (.st 4 (.c v4) (.c v23))) fun vn m_3 =>
    bindO (ldM ro m_3 false 4 v4) fun vr =>
    finM m0.h.length (tupA [vr, (.b true)]) m_3) (
    forceB (!ltI (-1) x1) fun c26 =>
    bindO (cond c26 (
      forceI (wr .i64 (0 - x9)) fun x30 =>
      forceB (!ltI x1 x30) fun c31 =>
      some c31) (
      some false)) fun c32 =>
    cond c32 (
      bindO (evP .e (.faddr 2 (.c v2))) fun v33 =>
      bindO (ldM ro m_2 true 1 v33) fun v34 =>
      forceI (wr .i64 (0 - x1)) fun x36 =>
      forceI (wr .i64 (x36 - 1)) fun x37 =>
      bindO (evP .e (.ixS 4 (.c v34) (.c (.i .i64 x37)))) fun v38 =>
      bindO (ldM ro m_2 false 4 v38) fun v39 =>
      bindP (callM M.call m_2 77 [v39]) fun v40 m_4 =>
      bindP (stepM ro m_4 (.st 4 (.c v4) (.c v40))) fun vn_1 m_5 =>
      bindO (ldM ro m_5 false 4 v4) fun vr_1 =>
      finM m0.h.length (tupA [vr_1, (.b true)]) m_5) (
      bindO ((fillA [(AVal.i IntKind.i64 0), (AVal.i IntKind.i64 0), (AVal.i IntKind.i64 0), (AVal.i IntKind.i64 0)] []).map AVal.agg) fun v41 =>
      bindP (stepM ro m_2 (.st 4 (.c v4) (.c v41))) fun vn_2 m_6 =>
      bindO (ldM ro m_6 false 4 v4) fun vr_2 =>
      finM m0.h.length (tupA [vr_2, (.b false)]) m_6))

theorem g74_ok {ro : List ABlk} {O : Caller} {M : Means} (hM : M.Ok ⟨F, O⟩ ro) {v0 x1 h r} (ho : O 74 [v0, (.i .i64 x1)] h = none) (hr : g74 M ro v0 x1 ⟨h, h.length, h.length⟩ = some r) : callX ⟨F, O⟩ ro 74 [v0, (.i .i64 x1)] h = some r := by
  refine callX_of (F := ⟨F, O⟩) (fn := fn74) (g := g74 M ro v0 x1) ho rfl rfl hr ?_
  clear ho
  clear hr
  intro m0 t0 ht hr
  have g0 : t0.get 0 = v0 := ht 0
  have g1 : t0.get 1 = (.i .i64 x1) := ht 1
  clear ht
  unfold g74 at hr
  refine w_seq ?_
  refine w_ops ?_
  have hq := bindP_inv hr
  clear hr
  obtain ⟨v2, m_1, e2, hr⟩ := hq
  refine wo_step (v := v2) (s_bx g0 e2) ?_
  have hq := bindP_inv hr
  clear hr
  obtain ⟨v4, m_2, e4, hr⟩ := hq
  refine wo_step (v := v4) (s_al e4) ?_
  refine wo_step (v := (.b false)) (s_pure (p_mv rfl)) ?_
  refine wo_nil ?_
  refine nx_norm ?_
  refine w_seq ?_
  refine w_ops ?_
  have hq := bindO_inv hr
  clear hr
  obtain ⟨v7, e7, hr⟩ := hq
  refine wo_step (v := v7) (s_pure (o_faddr rfl e7)) ?_
  have hq := bindO_inv hr
  clear hr
  obtain ⟨v8, e8, hr⟩ := hq
  refine wo_step (v := v8) (s_ld rfl e8) ?_
  have hq := bindO_inv hr
  clear hr
  obtain ⟨v9, e9, hr⟩ := hq
  have hq := asI_inv hr
  clear hr
  obtain ⟨x9, rfl, hr⟩ := hq
  refine wo_step (v := (.i .i64 x9)) (s_pure (o_len rfl e9)) ?_
  refine wo_step (v := (.i .i64 x9)) (s_pure (p_mv rfl)) ?_
  refine wo_nil ?_
  refine nx_norm ?_
  refine w_seq ?_
  refine w_block ?_
  refine w_seq ?_
  refine w_ops ?_
  refine wo_step (v := (.i .i64 x1)) (s_pure (p_mv g1)) ?_
  have hq := forceB_inv hr
  clear hr
  obtain ⟨c12, e12, hr⟩ := hq
  refine wo_step (v := (.b c12)) (s_pure (p_bin rfl rfl (b_geq.trans (cb e12)))) ?_
  refine wo_step (v := (.b c12)) (s_pure (p_mv rfl)) ?_
  have hq := bindO_inv hr
  clear hr
  obtain ⟨o, hr, hk⟩ := hq
  refine wo_join 4 (g74_J0 x1 v2 v4 x9 m_2 o) ?_ ?_
  · clear hk
    have hq := cond_inv hr
    clear hr
    rcases hq with ⟨rfl, hr⟩ | ⟨rfl, hr⟩
    · refine wo_take (v := (.i .i64 x1)) rfl (s_pure (p_mv g1)) ?_
      refine wo_take (v := (.i .i64 x9)) rfl (s_pure (p_mv rfl)) ?_
      have hq := forceB_inv hr
      clear hr
      obtain ⟨c16, e16, hr⟩ := hq
      refine wo_take (v := (.b c16)) rfl (s_pure (p_bin rfl rfl (b_leq.trans (cb e16)))) ?_
      refine wo_step (v := (.b c16)) (s_pure (p_pickT rfl rfl)) ?_
      refine wo_nil ?_
      cases hr
      exact ⟨_, _, rfl, rfl, gl rfl, gl g1, gl rfl, gl rfl, gl rfl⟩
    · refine wo_skip (v := (.b false)) rfl rfl ?_
      refine wo_skip (v := (.b false)) rfl rfl ?_
      refine wo_skip (v := (.b false)) rfl rfl ?_
      refine wo_step (v := (.b false)) (s_pure (p_pickF rfl rfl)) ?_
      refine wo_nil ?_
      cases hr
      exact ⟨_, _, rfl, rfl, gl rfl, gl g1, gl rfl, gl rfl, gl rfl⟩
  · clear hr
    have hr := hk
    clear hk
    obtain ⟨c17, ho⟩ : ∃ z, z = o := ⟨_, rfl⟩
    subst ho
    rintro mm t_1 ⟨rfl, g17, g1, g2, g4, g6⟩
    refine wo_step (v := (.b c17)) (s_pure (p_mv g17)) ?_
    refine wo_nil ?_
    refine nx_norm ?_
    have hq := cond_inv hr
    clear hr
    rcases hq with ⟨rfl, hr⟩ | ⟨rfl, hr⟩
    · refine w_condT rfl ?_
      refine w_seq ?_
      refine w_ops ?_
      have hq := bindO_inv hr
      clear hr
      obtain ⟨v18, e18, hr⟩ := hq
      refine wo_step (v := v18) (s_pure (o_faddr g2 e18)) ?_
      have hq := bindO_inv hr
      clear hr
      obtain ⟨v19, e19, hr⟩ := hq
      refine wo_step (v := v19) (s_ld rfl e19) ?_
      refine wo_step (v := (.i .i64 x1)) (s_pure (p_mv g1)) ?_
      have hq := forceI_inv hr
      clear hr
      obtain ⟨x21, e21, hr⟩ := hq
      refine wo_step (v := (.i .i64 x21)) (s_pure (p_bin rfl rfl (b_sub.trans (ci e21)))) ?_
      have hq := bindO_inv hr
      clear hr
      obtain ⟨v22, e22, hr⟩ := hq
      refine wo_step (v := v22) (s_pure (o_ixS rfl rfl e22)) ?_
      have hq := bindO_inv hr
      clear hr
      obtain ⟨v23, e23, hr⟩ := hq
      refine wo_step (v := v23) (s_ld rfl e23) ?_
      have hq := bindP_inv hr
      clear hr
      obtain ⟨vn, m_3, en, hr⟩ := hq
      refine wo_stepN (s_st g4 rfl en) ?_
      refine wo_step (v := (.b true)) (s_pure (p_mv rfl)) ?_
      refine wo_nil ?_
      refine nx_norm ?_
      refine w_ret ?_
      refine bk_ret ?_
      refine nx_ret ?_
      have hq := bindO_inv hr
      clear hr
      obtain ⟨vr, er, hr⟩ := hq
      exact qf ret_ok (rc g4 er (rt rfl rn)) hr
    · refine w_condF rfl ?_
      refine w_seq ?_
      refine w_ops ?_
      refine wo_step (v := (.i .i64 x1)) (s_pure (p_mv g1)) ?_
      have hq := forceB_inv hr
      clear hr
      obtain ⟨c26, e26, hr⟩ := hq
      refine wo_step (v := (.b c26)) (s_pure (p_bin rfl rfl (b_leq.trans (cb e26)))) ?_
      refine wo_step (v := (.b c26)) (s_pure (p_mv rfl)) ?_
      have hq := bindO_inv hr
      clear hr
      obtain ⟨o_1, hr, hk⟩ := hq
      refine wo_join 5 (g74_J1 x1 v2 v4 m_2 o_1) ?_ ?_
      · clear hk
        have hq := cond_inv hr
        clear hr
        rcases hq with ⟨rfl, hr⟩ | ⟨rfl, hr⟩
        · refine wo_take (v := (.i .i64 x1)) rfl (s_pure (p_mv g1)) ?_
          refine wo_take (v := (.i .i64 x9)) rfl (s_pure (p_mv g6)) ?_
          have hq := forceI_inv hr
          clear hr
          obtain ⟨x30, e30, hr⟩ := hq
          refine wo_take (v := (.i .i64 x30)) rfl (s_pure ((p_neg rfl).trans (ci e30))) ?_
          have hq := forceB_inv hr
          clear hr
          obtain ⟨c31, e31, hr⟩ := hq
          refine wo_take (v := (.b c31)) rfl (s_pure (p_bin rfl rfl (b_geq.trans (cb e31)))) ?_
          refine wo_step (v := (.b c31)) (s_pure (p_pickT rfl rfl)) ?_
          refine wo_nil ?_
          cases hr
          exact ⟨_, _, rfl, rfl, gl rfl, gl g1, gl g2, gl g4⟩
        · refine wo_skip (v := (.b false)) rfl rfl ?_
          refine wo_skip (v := (.b false)) rfl rfl ?_
          refine wo_skip (v := (.b false)) rfl rfl ?_
          refine wo_skip (v := (.b false)) rfl rfl ?_
          refine wo_step (v := (.b false)) (s_pure (p_pickF rfl rfl)) ?_
          refine wo_nil ?_
          cases hr
          exact ⟨_, _, rfl, rfl, gl rfl, gl g1, gl g2, gl g4⟩
      · clear hr
        have hr := hk
        clear hk
        obtain ⟨c32, ho⟩ : ∃ z, z = o_1 := ⟨_, rfl⟩
        subst ho
        rintro mm_1 t_2 ⟨rfl, g32, g1, g2, g4⟩
        refine wo_step (v := (.b c32)) (s_pure (p_mv g32)) ?_
        refine wo_nil ?_
        refine nx_norm ?_
        have hq := cond_inv hr
        clear hr
        rcases hq with ⟨rfl, hr⟩ | ⟨rfl, hr⟩
        · refine w_condT rfl ?_
          refine w_seq ?_
          refine w_ops ?_
          have hq := bindO_inv hr
          clear hr
          obtain ⟨v33, e33, hr⟩ := hq
          refine wo_step (v := v33) (s_pure (o_faddr g2 e33)) ?_
          have hq := bindO_inv hr
          clear hr
          obtain ⟨v34, e34, hr⟩ := hq
          refine wo_step (v := v34) (s_ld rfl e34) ?_
          refine wo_step (v := (.i .i64 x1)) (s_pure (p_mv g1)) ?_
          have hq := forceI_inv hr
          clear hr
          obtain ⟨x36, e36, hr⟩ := hq
          refine wo_step (v := (.i .i64 x36)) (s_pure ((p_neg rfl).trans (ci e36))) ?_
          have hq := forceI_inv hr
          clear hr
          obtain ⟨x37, e37, hr⟩ := hq
          refine wo_step (v := (.i .i64 x37)) (s_pure (p_bin rfl rfl (b_sub.trans (ci e37)))) ?_
          have hq := bindO_inv hr
          clear hr
          obtain ⟨v38, e38, hr⟩ := hq
          refine wo_step (v := v38) (s_pure (o_ixS rfl rfl e38)) ?_
          have hq := bindO_inv hr
          clear hr
          obtain ⟨v39, e39, hr⟩ := hq
          refine wo_step (v := v39) (s_ld rfl e39) ?_
          have hq := bindP_inv hr
          clear hr
          obtain ⟨v40, m_4, e40, hr⟩ := hq
          refine wo_step (v := v40) (s_call (mc rfl mn) (callM_le hM.call e40)) ?_
          have hq := bindP_inv hr
          clear hr
          obtain ⟨vn_1, m_5, en_1, hr⟩ := hq
          refine wo_stepN (s_st g4 rfl en_1) ?_
          refine wo_step (v := (.b true)) (s_pure (p_mv rfl)) ?_
          refine wo_nil ?_
          refine nx_norm ?_
          refine w_ret ?_
          refine bk_ret ?_
          refine nx_ret ?_
          have hq := bindO_inv hr
          clear hr
          obtain ⟨vr_1, er_1, hr⟩ := hq
          exact qf ret_ok (rc g4 er_1 (rt rfl rn)) hr
        · refine w_condF rfl ?_
          refine w_skip ?_
          refine bk_norm ?_
          refine nx_norm ?_
          refine w_seq ?_
          refine w_ops ?_
          have hq := bindO_inv hr
          clear hr
          obtain ⟨v41, e41, hr⟩ := hq
          refine wo_step (v := v41) (s_pure (o_build qn e41)) ?_
          have hq := bindP_inv hr
          clear hr
          obtain ⟨vn_2, m_6, en_2, hr⟩ := hq
          refine wo_stepN (s_st g4 rfl en_2) ?_
          refine wo_step (v := (.b false)) (s_pure (p_mv rfl)) ?_
          refine wo_nil ?_
          refine nx_norm ?_
          refine w_ret ?_
          have hq := bindO_inv hr
          clear hr
          obtain ⟨vr_2, er_2, hr⟩ := hq
          exact qf ret_ok (rc g4 er_2 (rt rfl rn)) hr

/- (dibber/turn.demands).refusing-1 -/
abbrev g75_J0  (o : Bool × Mm) (m1 : Mm) (t1 : Tr) : Prop :=
  match o with
  | (c28, m_1) => m_1 = m1 ∧ t1.get 28 = (.b c28)
abbrev g75_I1 (x0 : Int) (x1 : Int) (x2 : Int) (v3 : AVal) (v6 : AVal) (v7 : AVal) (v8 : AVal) (s : Int × Mm) (m1 : Mm) (t1 : Tr) : Prop :=
  match s with
  | (x13, m_4) => m_4 = m1 ∧ t1.get 13 = (.i .i64 x13) ∧ t1.get 0 = (.i .i64 x0) ∧ t1.get 1 = (.i .i64 x1) ∧ t1.get 2 = (.i .i64 x2) ∧ t1.get 3 = v3 ∧ t1.get 6 = v6 ∧ t1.get 7 = v7 ∧ t1.get 8 = v8
abbrev g75_J1 (x0 : Int) (x1 : Int) (x2 : Int) (v3 : AVal) (v6 : AVal) (v7 : AVal) (v8 : AVal) (o : (Mm ⊕ (Bool × Mm))) (e : AExit) (m1 : Mm) (t1 : Tr) : Prop :=
  match o with
  | (.inl mo) => e = (.exit 0) ∧ mo = m1 ∧ t1.get 0 = (.i .i64 x0) ∧ t1.get 7 = v7
  | (.inr (y12, mo)) => e = .ret ∧ mo = m1 ∧ t1.get 12 = (.b y12)
abbrev g75_J2 (x0 : Int) (x1 : Int) (x2 : Int) (v3 : AVal) (v6 : AVal) (v7 : AVal) (v8 : AVal) (x13 : Int) (o : (Mm ⊕ (Bool × Mm))) (e : AExit) (m1 : Mm) (t1 : Tr) : Prop :=
  match o with
  | (.inl mo) => e = .norm ∧ mo = m1 ∧ t1.get 0 = (.i .i64 x0) ∧ t1.get 1 = (.i .i64 x1) ∧ t1.get 2 = (.i .i64 x2) ∧ t1.get 3 = v3 ∧ t1.get 6 = v6 ∧ t1.get 7 = v7 ∧ t1.get 8 = v8 ∧ t1.get 13 = (.i .i64 x13)
  | (.inr (y12, mo)) => e = .ret ∧ mo = m1 ∧ t1.get 12 = (.b y12)
abbrev g75_J3 (x0 : Int) (x1 : Int) (x2 : Int) (v3 : AVal) (v6 : AVal) (v7 : AVal) (v8 : AVal) (x13 : Int) (v14 : AVal) (m_7 : Mm) (o : Bool) (m1 : Mm) (t1 : Tr) : Prop :=
  match o with
  | c58 => m_7 = m1 ∧ t1.get 58 = (.b c58) ∧ t1.get 0 = (.i .i64 x0) ∧ t1.get 1 = (.i .i64 x1) ∧ t1.get 2 = (.i .i64 x2) ∧ t1.get 3 = v3 ∧ t1.get 6 = v6 ∧ t1.get 7 = v7 ∧ t1.get 8 = v8 ∧ t1.get 13 = (.i .i64 x13) ∧ t1.get 14 = v14
def g75_b1 (M : Means) (ro : List ABlk) (x0 : Int) (x1 : Int) (x2 : Int) (v3 : AVal) (v6 : AVal) (v7 : AVal) (v8 : AVal) (x13 : Int) (m_4 : Mm) : Option ((Int × Mm) ⊕ ((Mm ⊕ (Bool × Mm)))) :=
  bindO (evP .e (.faddr 2 (.c v6))) fun v39 =>
  bindO (ldM ro m_4 true 1 v39) fun v40 =>
  bindO (evP .e (.len false (.c v40))) fun v41 =>
  asI .i64 v41 fun x41 =>
  forceB (!ltI x41 x13) fun c42 =>
  cond c42 (
    bindO (α := (Mm ⊕ (Bool × Mm))) (
      bindO (ldM ro m_4 false 3 v6) fun v46 =>
      bindP (callM M.call m_4 74 [v46, (.i .i64 x13)]) fun v48 m_5 =>
      bindO (evP .e (.ext 0 (.c v48))) fun v49 =>
      bindO (evP .e (.ext 1 (.c v48))) fun v50 =>
      asB v50 fun c50 =>
      bindP (stepM ro m_5 (.al 31 [(AVal.i IntKind.i64 0), (AVal.i IntKind.i64 0), (AVal.i IntKind.i64 0), (AVal.i IntKind.i64 0)])) fun v14 m_6 =>
      bindP (stepM ro m_6 (.st 4 (.c v14) (.c v49))) fun vn_1 m_7 =>
      forceB (!c50) fun c52 =>
      bindO (cond c52 (
        some true) (
        bindO (evP .e (.faddr 0 (.c v14))) fun v54 =>
        bindO (ldM ro m_7 true 1 v54) fun v55 =>
        asI .i64 v55 fun x55 =>
        forceB (!eqI x55 x0) fun c57 =>
        some c57)) fun c58 =>
      cond c58 (
        some (.inl m_7)) (
        bindO (ldM ro m_7 true 1 v3) fun v59 =>
        bindP (stepM ro m_7 (.bsl 3 1 [(AVal.i IntKind.i64 0)] 1 [((0, 1), .c (.i .i64 x13))])) fun v61 m_8 =>
        bindP (stepM ro m_8 (.app 3 1 8 [(AVal.i IntKind.i64 0)] (.c v59) (.c v61))) fun v62 m_9 =>
        bindP (stepM ro m_9 (.st 1 (.c v3) (.c v62))) fun vn_2 m_10 =>
        bindO (ldM ro m_10 true 1 v8) fun v63 =>
        bindO (evP .e (.faddr 1 (.c v14))) fun v64 =>
        bindO (ldM ro m_10 true 1 v64) fun v65 =>
        asI .i64 v65 fun x65 =>
        bindO (evP .e (.faddr 2 (.c v14))) fun v67 =>
        bindO (ldM ro m_10 true 1 v67) fun v68 =>
        asI .i64 v68 fun x68 =>
        forceI (wr .i64 (x1 + x68)) fun x69 =>
        bindO (evP .e (.faddr 3 (.c v14))) fun v71 =>
        bindO (ldM ro m_10 true 1 v71) fun v72 =>
        asI .i64 v72 fun x72 =>
        forceI (wr .i64 (x2 + x72)) fun x73 =>
        bindP (callyM M.call M.round m_10 v63 [(.i .i64 x65), (.i .i64 x69), (.i .i64 x73)]) fun v74 m_11 =>
        asB v74 fun c74 =>
        cond c74 (
          some (.inr (true, m_11))) (
          bindO (ldM ro m_11 true 1 v3) fun v75 =>
          bindO (ldM ro m_11 true 1 v3) fun v76 =>
          bindO (evP .e (.len false (.c v76))) fun v77 =>
          asI .i64 v77 fun x77 =>
          forceI (wr .i64 (x77 - 1)) fun x78 =>
          bindO (evP .e (.slS 1 (.c v75) none (some (.c (.i .i64 x78))) none)) fun v79 =>
          bindP (stepM ro m_11 (.st 1 (.c v3) (.c v79))) fun vn_3 m_12 =>
          some (.inl m_12)))) fun o_1 => match o_1 with
    | (.inl m_13) =>
      forceI (wr .i64 (x13 + 1)) fun x44 =>
      some (.inl (x44, m_13))
    | (.inr (c12, m_14)) =>
      some (.inr (.inr (c12, m_14)))) (
    some (.inr (.inl m_4)))
def g75 (M : Means) (ro : List ABlk) (x0 : Int) (x1 : Int) (x2 : Int) (v3 : AVal) (v4 : AVal) (v5 : AVal) (v6 : AVal) (v7 : AVal) (v8 : AVal) (m0 : Mm) : Option (AVal × Heap × Nat × Nat) :=
  bindO (ldM ro m0 true 1 v3) fun v16 =>
  bindO (evP .e (.len false (.c v16))) fun v17 =>
  asI .i64 v17 fun x17 =>
  bindO (ldM ro m0 true 1 v4) fun v18 =>
  asI .i64 v18 fun x18 =>
  forceB (eqI x17 x18) fun c19 =>
  cond c19 (
    bindO (ldM ro m0 true 1 v5) fun v21 =>
    asI .i64 v21 fun x21 =>
    forceB (eqI x0 x21) fun c22 =>
    bindO (cond c22 (
      bindO (ldM ro m0 false 3 v6) fun v24 =>
      bindP (callM M.call m0 55 [v24, (.i .i64 x1), (.i .i64 x2)]) fun v27 m_2 =>
      asB v27 fun c27 =>
      some (c27, m_2)) (
      some (false, m0))) fun ⟨c28, m_1⟩ =>
    finM m0.h.length (tupA [(.b c28)]) m_1) (
    bindO (evP .e (.ixA 6 1 (.c v7) (.c (.i .i64 x0)))) fun v30 =>
    bindO (ldM ro m0 true 1 v30) fun v31 =>
    asB v31 fun c31 =>
    cond c31 (
      finM m0.h.length (tupA [(.b false)]) m0) (
      bindO (evP .e (.ixA 6 1 (.c v7) (.c (.i .i64 x0)))) fun v33 =>
      bindP (stepM ro m0 (.st 1 (.c v33) (.c (.b true)))) fun vn m_3 =>
      bindO (evP .e (.faddr 2 (.c v6))) fun v34 =>
      bindO (ldM ro m_3 true 1 v34) fun v35 =>
      bindO (evP .e (.len false (.c v35))) fun v36 =>
      asI .i64 v36 fun x36 =>
      forceI (wr .i64 (0 - x36)) fun x37 =>
      bindO (M.loop (S := Int × Mm) (R := (Mm ⊕ (Bool × Mm))) (fun s => g75_b1 M ro x0 x1 x2 v3 v6 v7 v8 s.1 s.2) (x37, m_3)) fun o_3 => match o_3 with
      | (.inl m_15) =>
        bindO (evP .e (.ixA 6 1 (.c v7) (.c (.i .i64 x0)))) fun v81 =>
        bindP (stepM ro m_15 (.st 1 (.c v81) (.c (.b false)))) fun vn_4 m_16 =>
        finM m0.h.length (tupA [(.b false)]) m_16
      | (.inr (c12_1, m_17)) =>
        finM m0.h.length (tupA [(.b c12_1)]) m_17))

theorem g75_ok {ro : List ABlk} {O : Caller} {M : Means} (hM : M.Ok ⟨F, O⟩ ro) {x0 x1 x2 v3 v4 v5 v6 v7 v8 h r} (ho : O 75 [(.i .i64 x0), (.i .i64 x1), (.i .i64 x2), v3, v4, v5, v6, v7, v8] h = none) (hr : g75 M ro x0 x1 x2 v3 v4 v5 v6 v7 v8 ⟨h, h.length, h.length⟩ = some r) : callX ⟨F, O⟩ ro 75 [(.i .i64 x0), (.i .i64 x1), (.i .i64 x2), v3, v4, v5, v6, v7, v8] h = some r := by
  refine callX_of (F := ⟨F, O⟩) (fn := fn75) (g := g75 M ro x0 x1 x2 v3 v4 v5 v6 v7 v8) ho rfl rfl hr ?_
  clear ho
  clear hr
  intro m0 t0 ht hr
  have g0 : t0.get 0 = (.i .i64 x0) := ht 0
  have g1 : t0.get 1 = (.i .i64 x1) := ht 1
  have g2 : t0.get 2 = (.i .i64 x2) := ht 2
  have g3 : t0.get 3 = v3 := ht 3
  have g4 : t0.get 4 = v4 := ht 4
  have g5 : t0.get 5 = v5 := ht 5
  have g6 : t0.get 6 = v6 := ht 6
  have g7 : t0.get 7 = v7 := ht 7
  have g8 : t0.get 8 = v8 := ht 8
  clear ht
  unfold g75 at hr
  refine w_seq ?_
  refine w_ops ?_
  refine wo_step (v := (.b false)) (s_pure (p_mv rfl)) ?_
  refine wo_nil ?_
  refine nx_norm ?_
  refine w_seq ?_
  refine w_seq ?_
  refine w_ops ?_
  have hq := bindO_inv hr
  clear hr
  obtain ⟨v16, e16, hr⟩ := hq
  refine wo_step (v := v16) (s_ld g3 e16) ?_
  have hq := bindO_inv hr
  clear hr
  obtain ⟨v17, e17, hr⟩ := hq
  have hq := asI_inv hr
  clear hr
  obtain ⟨x17, rfl, hr⟩ := hq
  refine wo_step (v := (.i .i64 x17)) (s_pure (o_len rfl e17)) ?_
  have hq := bindO_inv hr
  clear hr
  obtain ⟨v18, e18, hr⟩ := hq
  have hq := asI_inv hr
  clear hr
  obtain ⟨x18, rfl, hr⟩ := hq
  refine wo_step (v := (.i .i64 x18)) (s_ld g4 e18) ?_
  have hq := forceB_inv hr
  clear hr
  obtain ⟨c19, e19, hr⟩ := hq
  refine wo_step (v := (.b c19)) (s_pure (p_bin rfl rfl (b_eql.trans (cb e19)))) ?_
  refine wo_nil ?_
  refine nx_norm ?_
  have hq := cond_inv hr
  clear hr
  rcases hq with ⟨rfl, hr⟩ | ⟨rfl, hr⟩
  · refine w_condT rfl ?_
    refine w_seq ?_
    refine w_ops ?_
    refine wo_step (v := (.i .i64 x0)) (s_pure (p_mv g0)) ?_
    have hq := bindO_inv hr
    clear hr
    obtain ⟨v21, e21, hr⟩ := hq
    have hq := asI_inv hr
    clear hr
    obtain ⟨x21, rfl, hr⟩ := hq
    refine wo_step (v := (.i .i64 x21)) (s_ld g5 e21) ?_
    have hq := forceB_inv hr
    clear hr
    obtain ⟨c22, e22, hr⟩ := hq
    refine wo_step (v := (.b c22)) (s_pure (p_bin rfl rfl (b_eql.trans (cb e22)))) ?_
    refine wo_step (v := (.b c22)) (s_pure (p_mv rfl)) ?_
    have hq := bindO_inv hr
    clear hr
    obtain ⟨o, hr, hk⟩ := hq
    refine wo_join 5 (g75_J0  o) ?_ ?_
    · clear hk
      have hq := cond_inv hr
      clear hr
      rcases hq with ⟨rfl, hr⟩ | ⟨rfl, hr⟩
      · have hq := bindO_inv hr
        clear hr
        obtain ⟨v24, e24, hr⟩ := hq
        refine wo_take (v := v24) rfl (s_ld g6 e24) ?_
        refine wo_take (v := (.i .i64 x1)) rfl (s_pure (p_mv g1)) ?_
        refine wo_take (v := (.i .i64 x2)) rfl (s_pure (p_mv g2)) ?_
        have hq := bindP_inv hr
        clear hr
        obtain ⟨v27, m_2, e27, hr⟩ := hq
        have hq := asB_inv hr
        clear hr
        obtain ⟨c27, rfl, hr⟩ := hq
        refine wo_take (v := (.b c27)) rfl (s_call (mc rfl (mc rfl (mc rfl mn))) (callM_le hM.call e27)) ?_
        refine wo_step (v := (.b c27)) (s_pure (p_pickT rfl rfl)) ?_
        refine wo_nil ?_
        cases hr
        exact ⟨_, _, rfl, rfl, gl rfl⟩
      · refine wo_skip (v := (.b false)) rfl rfl ?_
        refine wo_skip (v := (.b false)) rfl rfl ?_
        refine wo_skip (v := (.b false)) rfl rfl ?_
        refine wo_skip (v := (.b false)) rfl rfl ?_
        refine wo_step (v := (.b false)) (s_pure (p_pickF rfl rfl)) ?_
        refine wo_nil ?_
        cases hr
        exact ⟨_, _, rfl, rfl, gl rfl⟩
    · clear hr
      have hr := hk
      clear hk
      obtain ⟨c28, m_1⟩ := o
      rintro mm t_1 ⟨rfl, g28⟩
      refine wo_step (v := (.b c28)) (s_pure (p_mv g28)) ?_
      refine wo_nil ?_
      refine nx_norm ?_
      refine w_ret ?_
      refine nx_ret ?_
      exact qf ret_ok (rt rfl rn) hr
  · refine w_condF rfl ?_
    refine w_skip ?_
    refine nx_norm ?_
    refine w_seq ?_
    refine w_seq ?_
    refine w_ops ?_
    refine wo_step (v := (.i .i64 x0)) (s_pure (p_mv g0)) ?_
    have hq := bindO_inv hr
    clear hr
    obtain ⟨v30, e30, hr⟩ := hq
    refine wo_step (v := v30) (s_pure (o_ixA g7 rfl e30)) ?_
    have hq := bindO_inv hr
    clear hr
    obtain ⟨v31, e31, hr⟩ := hq
    have hq := asB_inv hr
    clear hr
    obtain ⟨c31, rfl, hr⟩ := hq
    refine wo_step (v := (.b c31)) (s_ld rfl e31) ?_
    refine wo_nil ?_
    refine nx_norm ?_
    have hq := cond_inv hr
    clear hr
    rcases hq with ⟨rfl, hr⟩ | ⟨rfl, hr⟩
    · refine w_condT rfl ?_
      refine w_seq ?_
      refine w_ops ?_
      refine wo_step (v := (.b false)) (s_pure (p_mv rfl)) ?_
      refine wo_nil ?_
      refine nx_norm ?_
      refine w_ret ?_
      refine nx_ret ?_
      exact qf ret_ok (rt rfl rn) hr
    · refine w_condF rfl ?_
      refine w_skip ?_
      refine nx_norm ?_
      refine w_seq ?_
      refine w_ops ?_
      refine wo_step (v := (.i .i64 x0)) (s_pure (p_mv g0)) ?_
      have hq := bindO_inv hr
      clear hr
      obtain ⟨v33, e33, hr⟩ := hq
      refine wo_step (v := v33) (s_pure (o_ixA g7 rfl e33)) ?_
      have hq := bindP_inv hr
      clear hr
      obtain ⟨vn, m_3, en, hr⟩ := hq
      refine wo_stepN (s_st rfl rfl en) ?_
      refine wo_nil ?_
      refine nx_norm ?_
      refine w_seq ?_
      refine w_seq ?_
      refine w_ops ?_
      have hq := bindO_inv hr
      clear hr
      obtain ⟨v34, e34, hr⟩ := hq
      refine wo_step (v := v34) (s_pure (o_faddr g6 e34)) ?_
      have hq := bindO_inv hr
      clear hr
      obtain ⟨v35, e35, hr⟩ := hq
      refine wo_step (v := v35) (s_ld rfl e35) ?_
      have hq := bindO_inv hr
      clear hr
      obtain ⟨v36, e36, hr⟩ := hq
      have hq := asI_inv hr
      clear hr
      obtain ⟨x36, rfl, hr⟩ := hq
      refine wo_step (v := (.i .i64 x36)) (s_pure (o_len rfl e36)) ?_
      have hq := forceI_inv hr
      clear hr
      obtain ⟨x37, e37, hr⟩ := hq
      refine wo_step (v := (.i .i64 x37)) (s_pure ((p_neg rfl).trans (ci e37))) ?_
      refine wo_step (v := (.i .i64 x37)) (s_pure (p_mv rfl)) ?_
      refine wo_nil ?_
      refine nx_norm ?_
      refine w_block ?_
      have hq := bindO_inv hr
      clear hr
      obtain ⟨o_3, hl, hr⟩ := hq
      obtain ⟨n, hl⟩ := hM.loop _ _ _ hl
      refine jp_mono (w_loop _ (g75_I1 x0 x1 x2 v3 v6 v7 v8) (g75_J1 x0 x1 x2 v3 v6 v7 v8) ?_ n _ _ _ _ hl ⟨rfl, gl rfl, gl g0, gl g1, gl g2, gl g3, gl g6, gl g7, gl g8⟩) ?_
      · clear hr hl
        intro s mm_6 t_2 o hi hr
        obtain ⟨x13, m_4⟩ := s
        obtain ⟨rfl, g13, g0, g1, g2, g3, g6, g7, g8⟩ := hi
        unfold g75_b1 at hr
        refine w_seq ?_
        refine w_seq ?_
        refine w_ops ?_
        refine wo_step (v := (.i .i64 x13)) (s_pure (p_mv g13)) ?_
        have hq := bindO_inv hr
        clear hr
        obtain ⟨v39, e39, hr⟩ := hq
        refine wo_step (v := v39) (s_pure (o_faddr g6 e39)) ?_
        have hq := bindO_inv hr
        clear hr
        obtain ⟨v40, e40, hr⟩ := hq
        refine wo_step (v := v40) (s_ld rfl e40) ?_
        have hq := bindO_inv hr
        clear hr
        obtain ⟨v41, e41, hr⟩ := hq
        have hq := asI_inv hr
        clear hr
        obtain ⟨x41, rfl, hr⟩ := hq
        refine wo_step (v := (.i .i64 x41)) (s_pure (o_len rfl e41)) ?_
        have hq := forceB_inv hr
        clear hr
        obtain ⟨c42, e42, hr⟩ := hq
        refine wo_step (v := (.b c42)) (s_pure (p_bin rfl rfl (b_leq.trans (cb e42)))) ?_
        refine wo_nil ?_
        refine nx_norm ?_
        have hq := cond_inv hr
        clear hr
        rcases hq with ⟨rfl, hr⟩ | ⟨rfl, hr⟩
        · refine w_condT rfl ?_
          refine w_skip ?_
          refine nx_norm ?_
          refine w_seq ?_
          have hq := bindO_inv hr
          clear hr
          obtain ⟨o_1, hr, hk⟩ := hq
          refine jp_mono (J := g75_J2 x0 x1 x2 v3 v6 v7 v8 x13 o_1) ?_ ?_
          · clear hk
            refine w_block ?_
            refine w_seq ?_
            refine w_ops ?_
            have hq := bindO_inv hr
            clear hr
            obtain ⟨v46, e46, hr⟩ := hq
            refine wo_step (v := v46) (s_ld g6 e46) ?_
            refine wo_step (v := (.i .i64 x13)) (s_pure (p_mv g13)) ?_
            have hq := bindP_inv hr
            clear hr
            obtain ⟨v48, m_5, e48, hr⟩ := hq
            refine wo_step (v := v48) (s_call (mc rfl (mc rfl mn)) (callM_le hM.call e48)) ?_
            refine wo_step (v := v48) (s_pure (p_mv rfl)) ?_
            have hq := bindO_inv hr
            clear hr
            obtain ⟨v49, e49, hr⟩ := hq
            refine wo_step (v := v49) (s_pure (o_ext rfl e49)) ?_
            have hq := bindO_inv hr
            clear hr
            obtain ⟨v50, e50, hr⟩ := hq
            have hq := asB_inv hr
            clear hr
            obtain ⟨c50, rfl, hr⟩ := hq
            refine wo_step (v := (.b c50)) (s_pure (o_ext rfl e50)) ?_
            have hq := bindP_inv hr
            clear hr
            obtain ⟨v14, m_6, e14, hr⟩ := hq
            refine wo_step (v := v14) (s_al e14) ?_
            have hq := bindP_inv hr
            clear hr
            obtain ⟨vn_1, m_7, en_1, hr⟩ := hq
            refine wo_stepN (s_st rfl rfl en_1) ?_
            refine wo_step (v := (.b c50)) (s_pure (p_mv rfl)) ?_
            refine wo_nil ?_
            refine nx_norm ?_
            refine w_seq ?_
            refine w_seq ?_
            refine w_ops ?_
            refine wo_step (v := (.b c50)) (s_pure (p_mv rfl)) ?_
            have hq := forceB_inv hr
            clear hr
            obtain ⟨c52, e52, hr⟩ := hq
            refine wo_step (v := (.b c52)) (s_pure ((p_not rfl).trans (cb e52))) ?_
            refine wo_step (v := (.b c52)) (s_pure (p_mv rfl)) ?_
            have hq := bindO_inv hr
            clear hr
            obtain ⟨o_2, hr, hk⟩ := hq
            refine wo_join 5 (g75_J3 x0 x1 x2 v3 v6 v7 v8 x13 v14 m_7 o_2) ?_ ?_
            · clear hk
              have hq := cond_inv hr
              clear hr
              rcases hq with ⟨rfl, hr⟩ | ⟨rfl, hr⟩
              · refine wo_skip (v := (.b true)) rfl rfl ?_
                refine wo_skip (v := (.b true)) rfl rfl ?_
                refine wo_skip (v := (.b true)) rfl rfl ?_
                refine wo_skip (v := (.b true)) rfl rfl ?_
                refine wo_step (v := (.b true)) (s_pure (p_pickT rfl rfl)) ?_
                refine wo_nil ?_
                cases hr
                exact ⟨_, _, rfl, rfl, gl rfl, gl g0, gl g1, gl g2, gl g3, gl g6, gl g7, gl g8, gl g13, gl rfl⟩
              · have hq := bindO_inv hr
                clear hr
                obtain ⟨v54, e54, hr⟩ := hq
                refine wo_take (v := v54) rfl (s_pure (o_faddr rfl e54)) ?_
                have hq := bindO_inv hr
                clear hr
                obtain ⟨v55, e55, hr⟩ := hq
                have hq := asI_inv hr
                clear hr
                obtain ⟨x55, rfl, hr⟩ := hq
                refine wo_take (v := (.i .i64 x55)) rfl (s_ld rfl e55) ?_
                refine wo_take (v := (.i .i64 x0)) rfl (s_pure (p_mv g0)) ?_
                have hq := forceB_inv hr
                clear hr
                obtain ⟨c57, e57, hr⟩ := hq
                refine wo_take (v := (.b c57)) rfl (s_pure (p_bin rfl rfl (b_neq.trans (cb e57)))) ?_
                refine wo_step (v := (.b c57)) (s_pure (p_pickF rfl rfl)) ?_
                refine wo_nil ?_
                cases hr
                exact ⟨_, _, rfl, rfl, gl rfl, gl g0, gl g1, gl g2, gl g3, gl g6, gl g7, gl g8, gl g13, gl rfl⟩
            · clear hr
              have hr := hk
              clear hk
              obtain ⟨c58, ho⟩ : ∃ z, z = o_2 := ⟨_, rfl⟩
              subst ho
              rintro mm_1 t_3 ⟨rfl, g58, g0, g1, g2, g3, g6, g7, g8, g13, g14⟩
              refine wo_nil ?_
              refine nx_norm ?_
              have hq := cond_inv hr
              clear hr
              rcases hq with ⟨rfl, hr⟩ | ⟨rfl, hr⟩
              · refine w_condT g58 ?_
                refine w_exit ?_
                refine nx_exit ?_
                refine bk_hit ?_
                cases hr
                exact ⟨_, _, rfl, rfl, rfl, gl g0, gl g1, gl g2, gl g3, gl g6, gl g7, gl g8, gl g13⟩
              · refine w_condF g58 ?_
                refine w_skip ?_
                refine nx_norm ?_
                refine w_seq ?_
                refine w_ops ?_
                have hq := bindO_inv hr
                clear hr
                obtain ⟨v59, e59, hr⟩ := hq
                refine wo_step (v := v59) (s_ld g3 e59) ?_
                refine wo_step (v := (.i .i64 x13)) (s_pure (p_mv g13)) ?_
                have hq := bindP_inv hr
                clear hr
                obtain ⟨v61, m_8, e61, hr⟩ := hq
                refine wo_step (v := v61) (s_bsl (qc rfl qn) e61) ?_
                have hq := bindP_inv hr
                clear hr
                obtain ⟨v62, m_9, e62, hr⟩ := hq
                refine wo_step (v := v62) (s_app rfl rfl e62) ?_
                have hq := bindP_inv hr
                clear hr
                obtain ⟨vn_2, m_10, en_2, hr⟩ := hq
                refine wo_stepN (s_st g3 rfl en_2) ?_
                refine wo_nil ?_
                refine nx_norm ?_
                refine w_seq ?_
                refine w_seq ?_
                refine w_opsY ?_
                have hq := bindO_inv hr
                clear hr
                obtain ⟨v63, e63, hr⟩ := hq
                refine wy_step (v := v63) (y_C (s_ld g8 e63)) ?_
                have hq := bindO_inv hr
                clear hr
                obtain ⟨v64, e64, hr⟩ := hq
                refine wy_step (v := v64) (y_C (s_pure (o_faddr g14 e64))) ?_
                have hq := bindO_inv hr
                clear hr
                obtain ⟨v65, e65, hr⟩ := hq
                have hq := asI_inv hr
                clear hr
                obtain ⟨x65, rfl, hr⟩ := hq
                refine wy_step (v := (.i .i64 x65)) (y_C (s_ld rfl e65)) ?_
                refine wy_step (v := (.i .i64 x1)) (y_C (s_pure (p_mv g1))) ?_
                have hq := bindO_inv hr
                clear hr
                obtain ⟨v67, e67, hr⟩ := hq
                refine wy_step (v := v67) (y_C (s_pure (o_faddr g14 e67))) ?_
                have hq := bindO_inv hr
                clear hr
                obtain ⟨v68, e68, hr⟩ := hq
                have hq := asI_inv hr
                clear hr
                obtain ⟨x68, rfl, hr⟩ := hq
                refine wy_step (v := (.i .i64 x68)) (y_C (s_ld rfl e68)) ?_
                have hq := forceI_inv hr
                clear hr
                obtain ⟨x69, e69, hr⟩ := hq
                refine wy_step (v := (.i .i64 x69)) (y_C (s_pure (p_bin rfl rfl (b_add.trans (ci e69))))) ?_
                refine wy_step (v := (.i .i64 x2)) (y_C (s_pure (p_mv g2))) ?_
                have hq := bindO_inv hr
                clear hr
                obtain ⟨v71, e71, hr⟩ := hq
                refine wy_step (v := v71) (y_C (s_pure (o_faddr g14 e71))) ?_
                have hq := bindO_inv hr
                clear hr
                obtain ⟨v72, e72, hr⟩ := hq
                have hq := asI_inv hr
                clear hr
                obtain ⟨x72, rfl, hr⟩ := hq
                refine wy_step (v := (.i .i64 x72)) (y_C (s_ld rfl e72)) ?_
                have hq := forceI_inv hr
                clear hr
                obtain ⟨x73, e73, hr⟩ := hq
                refine wy_step (v := (.i .i64 x73)) (y_C (s_pure (p_bin rfl rfl (b_add.trans (ci e73))))) ?_
                have hq := bindP_inv hr
                clear hr
                obtain ⟨v74, m_11, e74, hr⟩ := hq
                have hq := asB_inv hr
                clear hr
                obtain ⟨c74, rfl, hr⟩ := hq
                refine wy_step (v := (.b c74)) (y_callv rfl (mc rfl (mc rfl (mc rfl mn))) (callyM_le hM.call hM.round e74)) ?_
                refine wy_nil ?_
                refine nx_norm ?_
                have hq := cond_inv hr
                clear hr
                rcases hq with ⟨rfl, hr⟩ | ⟨rfl, hr⟩
                · refine w_condT rfl ?_
                  refine w_seq ?_
                  refine w_ops ?_
                  refine wo_step (v := (.b true)) (s_pure (p_mv rfl)) ?_
                  refine wo_nil ?_
                  refine nx_norm ?_
                  refine w_ret ?_
                  refine nx_ret ?_
                  refine bk_ret ?_
                  cases hr
                  exact ⟨_, _, rfl, rfl, rfl, gl rfl⟩
                · refine w_condF rfl ?_
                  refine w_skip ?_
                  refine nx_norm ?_
                  refine w_ops ?_
                  have hq := bindO_inv hr
                  clear hr
                  obtain ⟨v75, e75, hr⟩ := hq
                  refine wo_step (v := v75) (s_ld g3 e75) ?_
                  have hq := bindO_inv hr
                  clear hr
                  obtain ⟨v76, e76, hr⟩ := hq
                  refine wo_step (v := v76) (s_ld g3 e76) ?_
                  have hq := bindO_inv hr
                  clear hr
                  obtain ⟨v77, e77, hr⟩ := hq
                  have hq := asI_inv hr
                  clear hr
                  obtain ⟨x77, rfl, hr⟩ := hq
                  refine wo_step (v := (.i .i64 x77)) (s_pure (o_len rfl e77)) ?_
                  have hq := forceI_inv hr
                  clear hr
                  obtain ⟨x78, e78, hr⟩ := hq
                  refine wo_step (v := (.i .i64 x78)) (s_pure (p_bin rfl rfl (b_sub.trans (ci e78)))) ?_
                  have hq := bindO_inv hr
                  clear hr
                  obtain ⟨v79, e79, hr⟩ := hq
                  refine wo_step (v := v79) (s_pure (o_slS rfl on (os rfl) on e79)) ?_
                  have hq := bindP_inv hr
                  clear hr
                  obtain ⟨vn_3, m_12, en_3, hr⟩ := hq
                  refine wo_stepN (s_st g3 rfl en_3) ?_
                  refine wo_nil ?_
                  refine bk_norm ?_
                  cases hr
                  exact ⟨_, _, rfl, rfl, rfl, gl g0, gl g1, gl g2, gl g3, gl g6, gl g7, gl g8, gl g13⟩
          · have hr := hk
            clear hk
            rcases o_1 with o_1 | o_1
            · obtain ⟨m_13, ho⟩ : ∃ z, z = o_1 := ⟨_, rfl⟩
              subst ho
              rintro _ mm_2 t_4 ⟨rfl, rfl, g0, g1, g2, g3, g6, g7, g8, g13⟩
              refine nx_norm ?_
              refine w_ops ?_
              refine wo_step (v := (.i .i64 x13)) (s_pure (p_mv g13)) ?_
              have hq := forceI_inv hr
              clear hr
              obtain ⟨x44, e44, hr⟩ := hq
              refine wo_step (v := (.i .i64 x44)) (s_pure (p_bin rfl rfl (b_add.trans (ci e44)))) ?_
              refine wo_step (v := (.i .i64 x44)) (s_pure (p_mv rfl)) ?_
              refine wo_nil ?_
              cases hr
              exact ⟨_, _, rfl, rfl, rfl, gl rfl, gl g0, gl g1, gl g2, gl g3, gl g6, gl g7, gl g8⟩
            · obtain ⟨c12, m_14⟩ := o_1
              rintro _ mm_3 t_5 ⟨rfl, rfl, g12⟩
              refine nx_ret ?_
              cases hr
              exact ⟨_, _, rfl, ne_norm_ret, rfl, rfl, gl g12⟩
        · refine w_condF rfl ?_
          refine w_exit ?_
          refine nx_exit ?_
          cases hr
          exact ⟨_, _, rfl, ne_norm_exit, rfl, rfl, gl g0, gl g7⟩
      · rcases o_3 with o_3 | o_3
        · obtain ⟨m_15, ho⟩ : ∃ z, z = o_3 := ⟨_, rfl⟩
          subst ho
          rintro _ mm_4 t_6 ⟨rfl, rfl, g0, g7⟩
          refine bk_hit ?_
          refine nx_norm ?_
          refine w_seq ?_
          refine w_ops ?_
          refine wo_step (v := (.i .i64 x0)) (s_pure (p_mv g0)) ?_
          have hq := bindO_inv hr
          clear hr
          obtain ⟨v81, e81, hr⟩ := hq
          refine wo_step (v := v81) (s_pure (o_ixA g7 rfl e81)) ?_
          have hq := bindP_inv hr
          clear hr
          obtain ⟨vn_4, m_16, en_4, hr⟩ := hq
          refine wo_stepN (s_st rfl rfl en_4) ?_
          refine wo_nil ?_
          refine nx_norm ?_
          refine w_seq ?_
          refine w_ops ?_
          refine wo_step (v := (.b false)) (s_pure (p_mv rfl)) ?_
          refine wo_nil ?_
          refine nx_norm ?_
          refine w_ret ?_
          exact qf ret_ok (rt rfl rn) hr
        · obtain ⟨c12_1, m_17⟩ := o_3
          rintro _ mm_5 t_7 ⟨rfl, rfl, g12⟩
          refine bk_ret ?_
          refine nx_ret ?_
          exact qf ret_ok (rt g12 rn) hr

/- (dibber/turn.demands).all -/

def g76 (M : Means) (ro : List ABlk) (v0 : AVal) (m0 : Mm) : Option (AVal × Heap × Nat × Nat) :=
  bindP (stepM ro m0 (.bx 55 3 (.c v0))) fun v1 m_1 =>
  bindO (evP .e (.faddr 0 (.c v1))) fun v3 =>
  bindO (ldM ro m_1 true 1 v3) fun v4 =>
  asI .i64 v4 fun x4 =>
  chk (!ltI x4 (.ofNat 0)) <|
  forceI (shlV .u32 1 x4) fun x5 =>
  forceI (wr .u32 (x5 - 1)) fun x6 =>
  finM m0.h.length (tupA [(.i .u32 x6)]) m_1

theorem g76_ok {ro : List ABlk} {O : Caller} {M : Means} (hM : M.Ok ⟨F, O⟩ ro) {v0 h r} (ho : O 76 [v0] h = none) (hr : g76 M ro v0 ⟨h, h.length, h.length⟩ = some r) : callX ⟨F, O⟩ ro 76 [v0] h = some r := by
  refine callX_of (F := ⟨F, O⟩) (fn := fn76) (g := g76 M ro v0) ho rfl rfl hr ?_
  clear ho
  clear hr
  intro m0 t0 ht hr
  have g0 : t0.get 0 = v0 := ht 0
  clear ht
  unfold g76 at hr
  refine w_seq ?_
  refine w_ops ?_
  have hq := bindP_inv hr
  clear hr
  obtain ⟨v1, m_1, e1, hr⟩ := hq
  refine wo_step (v := v1) (s_bx g0 e1) ?_
  refine wo_step (v := (.i .u32 0)) (s_pure (p_mv rfl)) ?_
  refine wo_nil ?_
  refine nx_norm ?_
  refine w_seq ?_
  refine w_ops ?_
  have hq := bindO_inv hr
  clear hr
  obtain ⟨v3, e3, hr⟩ := hq
  refine wo_step (v := v3) (s_pure (o_faddr rfl e3)) ?_
  have hq := bindO_inv hr
  clear hr
  obtain ⟨v4, e4, hr⟩ := hq
  have hq := asI_inv hr
  clear hr
  obtain ⟨x4, rfl, hr⟩ := hq
  refine wo_step (v := (.i .i64 x4)) (s_ld rfl e4) ?_
  have hq := chk_inv hr
  clear hr
  obtain ⟨hc5, hr⟩ := hq
  have hq := forceI_inv hr
  clear hr
  obtain ⟨x5, e5, hr⟩ := hq
  refine wo_step (v := (.i .u32 x5)) (s_pure (p_bin rfl rfl ((b_shl hc5).trans (ci e5)))) ?_
  have hq := forceI_inv hr
  clear hr
  obtain ⟨x6, e6, hr⟩ := hq
  refine wo_step (v := (.i .u32 x6)) (s_pure (p_bin rfl rfl (b_sub.trans (ci e6)))) ?_
  refine wo_step (v := (.i .u32 x6)) (s_pure (p_mv rfl)) ?_
  refine wo_nil ?_
  refine nx_norm ?_
  refine w_ret ?_
  exact qf ret_ok (rt rfl rn) hr

/- dibber/turn.turned -/

def g77 (M : Means) (ro : List ABlk) (v0 : AVal) (m0 : Mm) : Option (AVal × Heap × Nat × Nat) :=
  bindP (stepM ro m0 (.bx 31 4 (.c v0))) fun v1 m_1 =>
  bindP (stepM ro m_1 (.al 31 [(AVal.i IntKind.i64 0), (AVal.i IntKind.i64 0), (AVal.i IntKind.i64 0), (AVal.i IntKind.i64 0)])) fun v2 m_2 =>
  bindO (evP .e (.faddr 1 (.c v1))) fun v3 =>
  bindO (ldM ro m_2 true 1 v3) fun v4 =>
  asI .i64 v4 fun x4 =>
  bindO (evP .e (.faddr 0 (.c v1))) fun v5 =>
  bindO (ldM ro m_2 true 1 v5) fun v6 =>
  asI .i64 v6 fun x6 =>
  bindO (evP .e (.faddr 3 (.c v1))) fun v7 =>
  bindO (ldM ro m_2 true 1 v7) fun v8 =>
  asI .i64 v8 fun x8 =>
  forceI (wr .i64 (0 - x8)) fun x9 =>
  bindO (evP .e (.faddr 2 (.c v1))) fun v10 =>
  bindO (ldM ro m_2 true 1 v10) fun v11 =>
  asI .i64 v11 fun x11 =>
  forceI (wr .i64 (0 - x11)) fun x12 =>
  bindO ((fillA [(AVal.i IntKind.i64 0), (AVal.i IntKind.i64 0), (AVal.i IntKind.i64 0), (AVal.i IntKind.i64 0)] [((0, 1), (.i .i64 x4)), ((1, 1), (.i .i64 x6)), ((2, 1), (.i .i64 x9)), ((3, 1), (.i .i64 x12))]).map AVal.agg) fun v13 =>
  bindP (stepM ro m_2 (.st 4 (.c v2) (.c v13))) fun vn m_3 =>
  bindO (ldM ro m_3 false 4 v2) fun vr =>
  finM m0.h.length (tupA [vr]) m_3

theorem g77_ok {ro : List ABlk} {O : Caller} {M : Means} (hM : M.Ok ⟨F, O⟩ ro) {v0 h r} (ho : O 77 [v0] h = none) (hr : g77 M ro v0 ⟨h, h.length, h.length⟩ = some r) : callX ⟨F, O⟩ ro 77 [v0] h = some r := by
  refine callX_of (F := ⟨F, O⟩) (fn := fn77) (g := g77 M ro v0) ho rfl rfl hr ?_
  clear ho
  clear hr
  intro m0 t0 ht hr
  have g0 : t0.get 0 = v0 := ht 0
  clear ht
  unfold g77 at hr
  refine w_seq ?_
  refine w_ops ?_
  have hq := bindP_inv hr
  clear hr
  obtain ⟨v1, m_1, e1, hr⟩ := hq
  refine wo_step (v := v1) (s_bx g0 e1) ?_
  have hq := bindP_inv hr
  clear hr
  obtain ⟨v2, m_2, e2, hr⟩ := hq
  refine wo_step (v := v2) (s_al e2) ?_
  refine wo_nil ?_
  refine nx_norm ?_
  refine w_seq ?_
  refine w_ops ?_
  have hq := bindO_inv hr
  clear hr
  obtain ⟨v3, e3, hr⟩ := hq
  refine wo_step (v := v3) (s_pure (o_faddr rfl e3)) ?_
  have hq := bindO_inv hr
  clear hr
  obtain ⟨v4, e4, hr⟩ := hq
  have hq := asI_inv hr
  clear hr
  obtain ⟨x4, rfl, hr⟩ := hq
  refine wo_step (v := (.i .i64 x4)) (s_ld rfl e4) ?_
  have hq := bindO_inv hr
  clear hr
  obtain ⟨v5, e5, hr⟩ := hq
  refine wo_step (v := v5) (s_pure (o_faddr rfl e5)) ?_
  have hq := bindO_inv hr
  clear hr
  obtain ⟨v6, e6, hr⟩ := hq
  have hq := asI_inv hr
  clear hr
  obtain ⟨x6, rfl, hr⟩ := hq
  refine wo_step (v := (.i .i64 x6)) (s_ld rfl e6) ?_
  have hq := bindO_inv hr
  clear hr
  obtain ⟨v7, e7, hr⟩ := hq
  refine wo_step (v := v7) (s_pure (o_faddr rfl e7)) ?_
  have hq := bindO_inv hr
  clear hr
  obtain ⟨v8, e8, hr⟩ := hq
  have hq := asI_inv hr
  clear hr
  obtain ⟨x8, rfl, hr⟩ := hq
  refine wo_step (v := (.i .i64 x8)) (s_ld rfl e8) ?_
  have hq := forceI_inv hr
  clear hr
  obtain ⟨x9, e9, hr⟩ := hq
  refine wo_step (v := (.i .i64 x9)) (s_pure ((p_neg rfl).trans (ci e9))) ?_
  have hq := bindO_inv hr
  clear hr
  obtain ⟨v10, e10, hr⟩ := hq
  refine wo_step (v := v10) (s_pure (o_faddr rfl e10)) ?_
  have hq := bindO_inv hr
  clear hr
  obtain ⟨v11, e11, hr⟩ := hq
  have hq := asI_inv hr
  clear hr
  obtain ⟨x11, rfl, hr⟩ := hq
  refine wo_step (v := (.i .i64 x11)) (s_ld rfl e11) ?_
  have hq := forceI_inv hr
  clear hr
  obtain ⟨x12, e12, hr⟩ := hq
  refine wo_step (v := (.i .i64 x12)) (s_pure ((p_neg rfl).trans (ci e12))) ?_
  have hq := bindO_inv hr
  clear hr
  obtain ⟨v13, e13, hr⟩ := hq
  refine wo_step (v := v13) (s_pure (o_build (qc rfl (qc rfl (qc rfl (qc rfl qn)))) e13)) ?_
  have hq := bindP_inv hr
  clear hr
  obtain ⟨vn, m_3, en, hr⟩ := hq
  refine wo_stepN (s_st rfl rfl en) ?_
  refine wo_nil ?_
  refine nx_norm ?_
  refine w_ret ?_
  have hq := bindO_inv hr
  clear hr
  obtain ⟨vr, er, hr⟩ := hq
  exact qf ret_ok (rc rfl er rn) hr

/- (dibber/turn.demands).later -/

def g78 (M : Means) (ro : List ABlk) (v0 : AVal) (x1 : Int) (x2 : Int) (m0 : Mm) : Option (AVal × Heap × Nat × Nat) :=
  bindP (stepM ro m0 (.bx 55 3 (.c v0))) fun v3 m_1 =>
  chk (!ltI x2 (.ofNat 0)) <|
  forceI (shlV .u32 x1 x2) fun x9 =>
  bindO (evP .e (.faddr 0 (.c v3))) fun v11 =>
  bindO (ldA ro m_1.h true 1 v11) fun v12 =>
  asI .i64 v12 fun x12 =>
  forceI (wr .i64 (x12 - x2)) fun x14 =>
  chk (!ltI x14 (.ofNat 0)) <|
  forceI (shrV .u32 x1 x14) fun x15 =>
  forceI (bitV .or .u32 x9 x15) fun x16 =>
  bindO (ldA ro m_1.h false 3 v3) fun v17 =>
  bindO (callN M.call m_1.h 76 [v17]) fun v18 =>
  asI .u32 v18 fun x18 =>
  forceI (bitV .and .u32 x16 x18) fun x19 =>
  finM m0.h.length (tupA [(.i .u32 x19)]) m_1

theorem g78_ok {ro : List ABlk} {O : Caller} {M : Means} (hM : M.Ok ⟨F, O⟩ ro) {v0 x1 x2 h r} (ho : O 78 [v0, (.i .u32 x1), (.i .i64 x2)] h = none) (hr : g78 M ro v0 x1 x2 ⟨h, h.length, h.length⟩ = some r) : callX ⟨F, O⟩ ro 78 [v0, (.i .u32 x1), (.i .i64 x2)] h = some r := by
  refine callX_of (F := ⟨F, O⟩) (fn := fn78) (g := g78 M ro v0 x1 x2) ho rfl rfl hr ?_
  clear ho
  clear hr
  intro m0 t0 ht hr
  have g0 : t0.get 0 = v0 := ht 0
  have g1 : t0.get 1 = (.i .u32 x1) := ht 1
  have g2 : t0.get 2 = (.i .i64 x2) := ht 2
  clear ht
  unfold g78 at hr
  refine w_seq ?_
  refine w_ops ?_
  have hq := bindP_inv hr
  clear hr
  obtain ⟨v3, m_1, e3, hr⟩ := hq
  refine wo_step (v := v3) (s_bx g0 e3) ?_
  refine wo_step (v := (.i .u32 0)) (s_pure (p_mv rfl)) ?_
  refine wo_nil ?_
  refine nx_norm ?_
  refine w_seq ?_
  refine w_any ?_
  refine wa_step (v := (.i .u32 x1)) (a_pure (p_mv g1)) ?_
  refine wa_step (v := (.i .i64 x2)) (a_pure (p_mv g2)) ?_
  have hq := chk_inv hr
  clear hr
  obtain ⟨hc9, hr⟩ := hq
  have hq := forceI_inv hr
  clear hr
  obtain ⟨x9, e9, hr⟩ := hq
  refine wa_step (v := (.i .u32 x9)) (a_pure (p_bin rfl rfl ((b_shl hc9).trans (ci e9)))) ?_
  refine wa_step (v := (.i .u32 x1)) (a_pure (p_mv g1)) ?_
  have hq := bindO_inv hr
  clear hr
  obtain ⟨v11, e11, hr⟩ := hq
  refine wa_step (v := v11) (a_pure (o_faddr rfl e11)) ?_
  have hq := bindO_inv hr
  clear hr
  obtain ⟨v12, e12, hr⟩ := hq
  have hq := asI_inv hr
  clear hr
  obtain ⟨x12, rfl, hr⟩ := hq
  refine wa_step (v := (.i .i64 x12)) (a_ld rfl e12) ?_
  refine wa_step (v := (.i .i64 x2)) (a_pure (p_mv g2)) ?_
  have hq := forceI_inv hr
  clear hr
  obtain ⟨x14, e14, hr⟩ := hq
  refine wa_step (v := (.i .i64 x14)) (a_pure (p_bin rfl rfl (b_sub.trans (ci e14)))) ?_
  have hq := chk_inv hr
  clear hr
  obtain ⟨hc15, hr⟩ := hq
  have hq := forceI_inv hr
  clear hr
  obtain ⟨x15, e15, hr⟩ := hq
  refine wa_step (v := (.i .u32 x15)) (a_pure (p_bin rfl rfl ((b_shr hc15).trans (ci e15)))) ?_
  have hq := forceI_inv hr
  clear hr
  obtain ⟨x16, e16, hr⟩ := hq
  refine wa_step (v := (.i .u32 x16)) (a_pure (p_bin rfl rfl (b_or.trans (ci e16)))) ?_
  have hq := bindO_inv hr
  clear hr
  obtain ⟨v17, e17, hr⟩ := hq
  refine wa_step (v := v17) (a_ld rfl e17) ?_
  have hq := bindO_inv hr
  clear hr
  obtain ⟨v18, e18, hr⟩ := hq
  have hq := asI_inv hr
  clear hr
  obtain ⟨x18, rfl, hr⟩ := hq
  refine wa_step (v := (.i .u32 x18)) (a_call (mc rfl mn) (callN_le hM.call e18)) ?_
  have hq := forceI_inv hr
  clear hr
  obtain ⟨x19, e19, hr⟩ := hq
  refine wa_step (v := (.i .u32 x19)) (a_pure (p_bin rfl rfl (b_and.trans (ci e19)))) ?_
  refine wa_step (v := (.i .u32 x19)) (a_pure (p_mv rfl)) ?_
  refine wa_nil ?_
  refine ⟨m_1, rfl, ?_⟩
  refine nx_norm ?_
  refine w_ret ?_
  exact qf ret_ok (rt rfl rn) hr

end Go.Proofs.YtpjjmdbkgkembaaDoor.T

/- Plain functions, and that the small machine answers as they do. -/
import Derived.Test.YtgbkicelkpagpaaVmP
import Derived.Test.YtgbkicelkpagpaaVmAE
open Go.Vm
set_option linter.unusedVariables false
namespace Go.Proofs.Ytgbkicelkpagpaa.W
open Go
/- (dibber/weed.rule).orphan -/
abbrev g62_I0 (x0 : Int) (v3 : AVal) (s : AVal × Int × Mm) (m1 : Mm) (t1 : Tr) : Prop :=
  match s with
  | (v4, x5, m_4) => m_4 = m1 ∧ t1.get 4 = v4 ∧ t1.get 5 = (.i .i64 x5) ∧ t1.get 0 = (.i .u8 x0) ∧ t1.get 3 = v3
abbrev g62_J0 (x0 : Int) (v3 : AVal) (o : (Mm ⊕ (List UInt8 × Mm))) (e : AExit) (m1 : Mm) (t1 : Tr) : Prop :=
  match o with
  | (.inl mo) => e = (.exit 0) ∧ mo = m1
  | (.inr (y2, mo)) => e = .ret ∧ mo = m1 ∧ t1.get 2 = (.s y2)
abbrev g62_I1 (x0 : Int) (v3 : AVal) (x5 : Int) (s : AVal × Int × Mm) (m1 : Mm) (t1 : Tr) : Prop :=
  match s with
  | (v4_1, x17, m_5) => m_5 = m1 ∧ t1.get 4 = v4_1 ∧ t1.get 17 = (.i .i64 x17) ∧ t1.get 0 = (.i .u8 x0) ∧ t1.get 3 = v3 ∧ t1.get 5 = (.i .i64 x5)
abbrev g62_J1 (x0 : Int) (v3 : AVal) (x5 : Int) (o : ((AVal × Mm) ⊕ (List UInt8 × Mm))) (e : AExit) (m1 : Mm) (t1 : Tr) : Prop :=
  match o with
  | (.inl (y4, mo)) => e = (.exit 2) ∧ mo = m1 ∧ t1.get 4 = y4 ∧ t1.get 0 = (.i .u8 x0) ∧ t1.get 3 = v3 ∧ t1.get 5 = (.i .i64 x5)
  | (.inr (y2, mo)) => e = .ret ∧ mo = m1 ∧ t1.get 2 = (.s y2)
abbrev g62_J2 (x0 : Int) (v3 : AVal) (x5 : Int) (x17 : Int) (o : (AVal × Mm)) (e : AExit) (m1 : Mm) (t1 : Tr) : Prop :=
  match o with
  | (y4, mo) => e = .norm ∧ mo = m1 ∧ t1.get 4 = y4 ∧ t1.get 0 = (.i .u8 x0) ∧ t1.get 3 = v3 ∧ t1.get 5 = (.i .i64 x5) ∧ t1.get 17 = (.i .i64 x17)
def g62_b1 (M : Means) (ro : List ABlk) (x0 : Int) (v3 : AVal) (x5 : Int) (v4_1 : AVal) (x17 : Int) (m_5 : Mm) : Option ((AVal × Int × Mm) ⊕ (((AVal × Mm) ⊕ (List UInt8 × Mm)))) :=
  forceB (ltI x17 2) fun c18 =>
  cond c18 (
    bindO (evP .e (.ixS 2 (.c v4_1) (.c (.i .i64 x5)))) fun v23 =>
    bindO (evP .e (.faddr 0 (.c v23))) fun v24 =>
    bindO (ldA ro m_5.h true 1 v24) fun v25 =>
    asI .u8 v25 fun x25 =>
    bindO (callN M.call m_5.h 78 [(.i .u8 x0), (.i .u8 x25), (.i .i64 x17)]) fun v27 =>
    asI .u8 v27 fun x27 =>
    bindO (evP .e (.ixS 2 (.c v4_1) (.c (.i .i64 x5)))) fun v30 =>
    bindO (evP .e (.faddr 1 (.c v30))) fun v31 =>
    bindO (ldA ro m_5.h true 1 v31) fun v32 =>
    asS v32 fun s32 =>
    bindO (callN M.call m_5.h 71 [(.i .i64 x17)]) fun v34 =>
    asI .u8 v34 fun x34 =>
    bindO (evP .e (.chr (.c (.i .u8 x34)))) fun v35 =>
    asS v35 fun s35 =>
    bindO (evP .e (.sbin BinOp.add (.c (.s s32)) (.c (.s s35)))) fun v36 =>
    asS v36 fun s36 =>
    bindO ((fillA [(AVal.i IntKind.u8 0), (AVal.s [])] [((0, 1), (.i .u8 x27)), ((1, 1), (.s s36))]).map AVal.agg) fun v37 =>
    bindO (some (AVal.p (some ⟨false, List.length m_5.h, 0⟩))) fun v7 =>
    asP v7 fun qs =>
    chk (Nat.beq (AVal.cells v37).length 2) <|
    bindO (writesM ro [] [(qs, AVal.cells v37)] ⟨(m_5.h ++ [some (blkOf 88 [(AVal.i IntKind.u8 0), (AVal.s [])])]), m_5.lw, m_5.lp⟩) fun m_6 =>
    bindO (evP .e (.faddr 0 (.c v7))) fun v38 =>
    bindO (ldM ro m_6 true 1 v38) fun v39 =>
    asI .u8 v39 fun x39 =>
    forceB (eqI x39 0) fun c40 =>
    cond c40 (
      bindO (evP .e (.faddr 1 (.c v7))) fun v41 =>
      bindO (ldM ro m_6 true 1 v41) fun v42 =>
      asS v42 fun s42 =>
      some (.inr (.inr (s42, m_6)))) (
      bindO (evP .e (.faddr 0 (.c v7))) fun v43 =>
      bindO (ldM ro m_6 true 1 v43) fun v44 =>
      asI .u8 v44 fun x44 =>
      bindO (evP .e (.ixA 16 1 (.c v3) (.c (.i .u8 x44)))) fun v45 =>
      bindO (ldM ro m_6 true 1 v45) fun v46 =>
      asB v46 fun c46 =>
      forceB (!c46) fun c47 =>
      bindO (α := (AVal × Mm)) (
        cond c47 (
          bindO (evP .e (.faddr 0 (.c v7))) fun v48 =>
          bindO (ldM ro m_6 true 1 v48) fun v49 =>
          asI .u8 v49 fun x49 =>
          bindO (evP .e (.ixA 16 1 (.c v3) (.c (.i .u8 x49)))) fun v50 =>
          bindP (stepM ro m_6 (.st 1 (.c v50) (.c (.b true)))) fun vn_1 m_7 =>
          bindO (ldM ro m_7 false 2 v7) fun v52 =>
          bindP (stepM ro m_7 (.bsl 88 2 [(AVal.i IntKind.u8 0), (AVal.s [])] 1 [((0, 2), .c v52)])) fun v53 m_8 =>
          bindP (stepM ro m_8 (.app 88 2 24 [(AVal.i IntKind.u8 0), (AVal.s [])] (.c v4_1) (.c v53))) fun v54 m_9 =>
          some (v54, m_9)) (
          some (v4_1, m_6))) fun ⟨v4_2, m_10⟩ =>
      forceI (wr .i64 (x17 + 1)) fun x55 =>
      some (.inl (v4_2, x55, m_10)))) (
    some (.inr (.inl (v4_1, m_5))))
def g62_b0 (M : Means) (ro : List ABlk) (x0 : Int) (v3 : AVal) (v4 : AVal) (x5 : Int) (m_4 : Mm) : Option ((AVal × Int × Mm) ⊕ ((Mm ⊕ (List UInt8 × Mm)))) :=
  bindO (evP .e (.len false (.c v4))) fun v13 =>
  asI .i64 v13 fun x13 =>
  forceB (ltI x5 x13) fun c14 =>
  cond c14 (
    bindO (M.loop (S := AVal × Int × Mm) (R := ((AVal × Mm) ⊕ (List UInt8 × Mm))) (fun s => g62_b1 M ro x0 v3 x5 s.1 s.2.1 s.2.2) (v4, 0, m_4)) fun o_1 => match o_1 with
    | (.inl (v4_3, m_11)) =>
      forceI (wr .i64 (x5 + 1)) fun x16 =>
      some (.inl (v4_3, x16, m_11))
    | (.inr (s2, m_12)) =>
      some (.inr (.inr (s2, m_12)))) (
    some (.inr (.inl m_4)))
def g62 (M : Means) (ro : List ABlk) (x0 : Int) (m0 : Mm) : Option (AVal × Heap × Nat × Nat) :=
  bindO ((fillA [(AVal.b false), (AVal.b false), (AVal.b false), (AVal.b false), (AVal.b false), (AVal.b false), (AVal.b false), (AVal.b false), (AVal.b false), (AVal.b false), (AVal.b false), (AVal.b false), (AVal.b false), (AVal.b false), (AVal.b false), (AVal.b false)] [((15, 1), (.b true))]).map AVal.agg) fun v8 =>
  bindP (stepM ro m0 (.al 86 [(AVal.b false), (AVal.b false), (AVal.b false), (AVal.b false), (AVal.b false), (AVal.b false), (AVal.b false), (AVal.b false), (AVal.b false), (AVal.b false), (AVal.b false), (AVal.b false), (AVal.b false), (AVal.b false), (AVal.b false), (AVal.b false)])) fun v3 m_1 =>
  bindP (stepM ro m_1 (.st 16 (.c v3) (.c v8))) fun vn m_2 =>
  bindO ((fillA [(AVal.i IntKind.u8 0), (AVal.s [])] [((0, 1), (.i .u8 15)), ((1, 1), (AVal.s []))]).map AVal.agg) fun v9 =>
  bindP (stepM ro m_2 (.bsl 88 2 [(AVal.i IntKind.u8 0), (AVal.s [])] 1 [((0, 2), .c v9)])) fun v10 m_3 =>
  bindO (M.loop (S := AVal × Int × Mm) (R := (Mm ⊕ (List UInt8 × Mm))) (fun s => g62_b0 M ro x0 v3 s.1 s.2.1 s.2.2) (v10, 0, m_3)) fun o_2 => match o_2 with
  | (.inl m_13) =>
    finM m0.h.length (tupA [(AVal.s [])]) m_13
  | (.inr (s2_1, m_14)) =>
    finM m0.h.length (tupA [(.s s2_1)]) m_14

theorem g62_ok {ro : List ABlk} {O : Caller} {M : Means} (hM : M.Ok ⟨F, O⟩ ro) {x0 h r} (ho : O 62 [(.i .u8 x0)] h = none) (hr : g62 M ro x0 ⟨h, h.length, h.length⟩ = some r) : callX ⟨F, O⟩ ro 62 [(.i .u8 x0)] h = some r := by
  refine callX_of (F := ⟨F, O⟩) (fn := fn62) (g := g62 M ro x0) ho rfl rfl hr ?_
  clear ho
  clear hr
  intro m0 t0 ht hr
  have g0 : t0.get 0 = (.i .u8 x0) := ht 0
  clear ht
  unfold g62 at hr
  refine w_seq ?_
  refine w_ops ?_
  refine wo_step (v := (AVal.s [])) (s_pure (p_mv rfl)) ?_
  refine wo_nil ?_
  refine nx_norm ?_
  refine w_seq ?_
  refine w_ops ?_
  have hq := bindO_inv hr
  clear hr
  obtain ⟨v8, e8, hr⟩ := hq
  refine wo_step (v := v8) (s_pure (o_build (qc rfl qn) e8)) ?_
  have hq := bindP_inv hr
  clear hr
  obtain ⟨v3, m_1, e3, hr⟩ := hq
  refine wo_step (v := v3) (s_al e3) ?_
  have hq := bindP_inv hr
  clear hr
  obtain ⟨vn, m_2, en, hr⟩ := hq
  refine wo_stepN (s_st rfl rfl en) ?_
  refine wo_nil ?_
  refine nx_norm ?_
  refine w_seq ?_
  refine w_ops ?_
  have hq := bindO_inv hr
  clear hr
  obtain ⟨v9, e9, hr⟩ := hq
  refine wo_step (v := v9) (s_pure (o_build (qc rfl (qc rfl qn)) e9)) ?_
  have hq := bindP_inv hr
  clear hr
  obtain ⟨v10, m_3, e10, hr⟩ := hq
  refine wo_step (v := v10) (s_bsl (qc rfl qn) e10) ?_
  refine wo_step (v := v10) (s_pure (p_mv rfl)) ?_
  refine wo_nil ?_
  refine nx_norm ?_
  refine w_seq ?_
  refine w_seq ?_
  refine w_ops ?_
  refine wo_step (v := (.i .i64 0)) (s_pure (p_mv rfl)) ?_
  refine wo_nil ?_
  refine nx_norm ?_
  refine w_block ?_
  have hq := bindO_inv hr
  clear hr
  obtain ⟨o_2, hl_1, hr⟩ := hq
  obtain ⟨n_1, hl_1⟩ := hM.loop _ _ _ hl_1
  refine jp_mono (w_loop _ (g62_I0 x0 v3) (g62_J0 x0 v3) ?_ n_1 _ _ _ _ hl_1 ⟨rfl, gl rfl, gl rfl, gl g0, gl rfl⟩) ?_
  · clear hr hl_1
    intro s mm_6 t_1 o hi hr
    obtain ⟨v4, x5, m_4⟩ := s
    obtain ⟨rfl, g4, g5, g0, g3⟩ := hi
    unfold g62_b0 at hr
    refine w_seq ?_
    refine w_seq ?_
    refine w_ops ?_
    refine wo_step (v := (.i .i64 x5)) (s_pure (p_mv g5)) ?_
    refine wo_step (v := v4) (s_pure (p_mv g4)) ?_
    have hq := bindO_inv hr
    clear hr
    obtain ⟨v13, e13, hr⟩ := hq
    have hq := asI_inv hr
    clear hr
    obtain ⟨x13, rfl, hr⟩ := hq
    refine wo_step (v := (.i .i64 x13)) (s_pure (o_len rfl e13)) ?_
    have hq := forceB_inv hr
    clear hr
    obtain ⟨c14, e14, hr⟩ := hq
    refine wo_step (v := (.b c14)) (s_pure (p_bin rfl rfl (b_lss.trans (cb e14)))) ?_
    refine wo_nil ?_
    refine nx_norm ?_
    have hq := cond_inv hr
    clear hr
    rcases hq with ⟨rfl, hr⟩ | ⟨rfl, hr⟩
    · refine w_condT rfl ?_
      refine w_skip ?_
      refine nx_norm ?_
      refine w_seq ?_
      refine w_block ?_
      refine w_seq ?_
      refine w_ops ?_
      refine wo_step (v := (.i .i64 0)) (s_pure (p_mv rfl)) ?_
      refine wo_nil ?_
      refine nx_norm ?_
      refine w_block ?_
      have hq := bindO_inv hr
      clear hr
      obtain ⟨o_1, hl, hr⟩ := hq
      obtain ⟨n, hl⟩ := hM.loop _ _ _ hl
      refine jp_mono (w_loop _ (g62_I1 x0 v3 x5) (g62_J1 x0 v3 x5) ?_ n _ _ _ _ hl ⟨rfl, gl g4, gl rfl, gl g0, gl g3, gl g5⟩) ?_
      · clear hr hl
        intro s mm_3 t_2 o hi hr
        obtain ⟨v4_1, x17, m_5⟩ := s
        obtain ⟨rfl, g4, g17, g0, g3, g5⟩ := hi
        unfold g62_b1 at hr
        refine w_seq ?_
        refine w_ops ?_
        have hq := forceB_inv hr
        clear hr
        obtain ⟨c18, e18, hr⟩ := hq
        refine wo_step (v := (.b c18)) (s_pure (p_bin g17 rfl (b_lss.trans (cb e18)))) ?_
        refine wo_nil ?_
        refine nx_norm ?_
        refine w_seq ?_
        have hq := cond_inv hr
        clear hr
        rcases hq with ⟨rfl, hr⟩ | ⟨rfl, hr⟩
        · refine w_condT rfl ?_
          refine w_skip ?_
          refine nx_norm ?_
          refine w_seq ?_
          refine w_block ?_
          refine w_seq ?_
          refine w_ops ?_
          refine wo_step (v := (.i .i64 x17)) (s_pure (p_mv g17)) ?_
          refine wo_step (v := (.i .i64 x17)) (s_pure (p_mv rfl)) ?_
          refine wo_nil ?_
          refine nx_norm ?_
          refine w_seq ?_
          refine w_any ?_
          refine wa_step (v := (.i .u8 x0)) (a_pure (p_mv g0)) ?_
          refine wa_step (v := v4_1) (a_pure (p_mv g4)) ?_
          refine wa_step (v := (.i .i64 x5)) (a_pure (p_mv g5)) ?_
          have hq := bindO_inv hr
          clear hr
          obtain ⟨v23, e23, hr⟩ := hq
          refine wa_step (v := v23) (a_pure (o_ixS rfl rfl e23)) ?_
          have hq := bindO_inv hr
          clear hr
          obtain ⟨v24, e24, hr⟩ := hq
          refine wa_step (v := v24) (a_pure (o_faddr rfl e24)) ?_
          have hq := bindO_inv hr
          clear hr
          obtain ⟨v25, e25, hr⟩ := hq
          have hq := asI_inv hr
          clear hr
          obtain ⟨x25, rfl, hr⟩ := hq
          refine wa_step (v := (.i .u8 x25)) (a_ld rfl e25) ?_
          refine wa_step (v := (.i .i64 x17)) (a_pure (p_mv rfl)) ?_
          have hq := bindO_inv hr
          clear hr
          obtain ⟨v27, e27, hr⟩ := hq
          have hq := asI_inv hr
          clear hr
          obtain ⟨x27, rfl, hr⟩ := hq
          refine wa_step (v := (.i .u8 x27)) (a_call (mc rfl (mc rfl (mc rfl mn))) (callN_le hM.call e27)) ?_
          refine wa_step (v := v4_1) (a_pure (p_mv g4)) ?_
          refine wa_step (v := (.i .i64 x5)) (a_pure (p_mv g5)) ?_
          have hq := bindO_inv hr
          clear hr
          obtain ⟨v30, e30, hr⟩ := hq
          refine wa_step (v := v30) (a_pure (o_ixS rfl rfl e30)) ?_
          have hq := bindO_inv hr
          clear hr
          obtain ⟨v31, e31, hr⟩ := hq
          refine wa_step (v := v31) (a_pure (o_faddr rfl e31)) ?_
          have hq := bindO_inv hr
          clear hr
          obtain ⟨v32, e32, hr⟩ := hq
          have hq := asS_inv hr
          clear hr
          obtain ⟨s32, rfl, hr⟩ := hq
          refine wa_step (v := (.s s32)) (a_ld rfl e32) ?_
          refine wa_step (v := (.i .i64 x17)) (a_pure (p_mv rfl)) ?_
          have hq := bindO_inv hr
          clear hr
          obtain ⟨v34, e34, hr⟩ := hq
          have hq := asI_inv hr
          clear hr
          obtain ⟨x34, rfl, hr⟩ := hq
          refine wa_step (v := (.i .u8 x34)) (a_call (mc rfl mn) (callN_le hM.call e34)) ?_
          have hq := bindO_inv hr
          clear hr
          obtain ⟨v35, e35, hr⟩ := hq
          have hq := asS_inv hr
          clear hr
          obtain ⟨s35, rfl, hr⟩ := hq
          refine wa_step (v := (.s s35)) (a_pure (o_chr rfl e35)) ?_
          have hq := bindO_inv hr
          clear hr
          obtain ⟨v36, e36, hr⟩ := hq
          have hq := asS_inv hr
          clear hr
          obtain ⟨s36, rfl, hr⟩ := hq
          refine wa_step (v := (.s s36)) (a_pure (o_sbin rfl rfl e36)) ?_
          have hq := bindO_inv hr
          clear hr
          obtain ⟨v37, e37, hr⟩ := hq
          refine wa_step (v := v37) (a_pure (o_build (qc rfl (qc rfl qn)) e37)) ?_
          have hq := bindO_inv hr
          clear hr
          obtain ⟨v7, e7, hr⟩ := hq
          refine wa_step (v := v7) (a_al' e7) ?_
          have hq := asP_inv hr
          clear hr
          obtain ⟨qs, eqs, hr⟩ := hq
          have hq := chk_inv hr
          clear hr
          obtain ⟨hcs, hr⟩ := hq
          refine wa_stepN (a_st (Eq.trans (b := v7) rfl eqs) rfl hcs) ?_
          have hq := bindO_inv hr
          clear hr
          obtain ⟨m_6, ew, hr⟩ := hq
          refine wa_nil ?_
          refine ⟨m_6, ew, ?_⟩
          refine nx_norm ?_
          refine w_seq ?_
          refine w_seq ?_
          refine w_ops ?_
          have hq := bindO_inv hr
          clear hr
          obtain ⟨v38, e38, hr⟩ := hq
          refine wo_step (v := v38) (s_pure (o_faddr rfl e38)) ?_
          have hq := bindO_inv hr
          clear hr
          obtain ⟨v39, e39, hr⟩ := hq
          have hq := asI_inv hr
          clear hr
          obtain ⟨x39, rfl, hr⟩ := hq
          refine wo_step (v := (.i .u8 x39)) (s_ld rfl e39) ?_
          have hq := forceB_inv hr
          clear hr
          obtain ⟨c40, e40, hr⟩ := hq
          refine wo_step (v := (.b c40)) (s_pure (p_bin rfl rfl (b_eql.trans (cb e40)))) ?_
          refine wo_nil ?_
          refine nx_norm ?_
          have hq := cond_inv hr
          clear hr
          rcases hq with ⟨rfl, hr⟩ | ⟨rfl, hr⟩
          · refine w_condT rfl ?_
            refine w_seq ?_
            refine w_ops ?_
            have hq := bindO_inv hr
            clear hr
            obtain ⟨v41, e41, hr⟩ := hq
            refine wo_step (v := v41) (s_pure (o_faddr rfl e41)) ?_
            have hq := bindO_inv hr
            clear hr
            obtain ⟨v42, e42, hr⟩ := hq
            have hq := asS_inv hr
            clear hr
            obtain ⟨s42, rfl, hr⟩ := hq
            refine wo_step (v := (.s s42)) (s_ld rfl e42) ?_
            refine wo_step (v := (.s s42)) (s_pure (p_mv rfl)) ?_
            refine wo_nil ?_
            refine nx_norm ?_
            refine w_ret ?_
            refine nx_ret ?_
            refine bk_ret ?_
            refine nx_ret ?_
            cases hr
            exact ⟨_, _, rfl, ne_norm_ret, rfl, rfl, gl rfl⟩
          · refine w_condF rfl ?_
            refine w_skip ?_
            refine nx_norm ?_
            refine w_seq ?_
            refine w_ops ?_
            have hq := bindO_inv hr
            clear hr
            obtain ⟨v43, e43, hr⟩ := hq
            refine wo_step (v := v43) (s_pure (o_faddr rfl e43)) ?_
            have hq := bindO_inv hr
            clear hr
            obtain ⟨v44, e44, hr⟩ := hq
            have hq := asI_inv hr
            clear hr
            obtain ⟨x44, rfl, hr⟩ := hq
            refine wo_step (v := (.i .u8 x44)) (s_ld rfl e44) ?_
            have hq := bindO_inv hr
            clear hr
            obtain ⟨v45, e45, hr⟩ := hq
            refine wo_step (v := v45) (s_pure (o_ixA g3 rfl e45)) ?_
            have hq := bindO_inv hr
            clear hr
            obtain ⟨v46, e46, hr⟩ := hq
            have hq := asB_inv hr
            clear hr
            obtain ⟨c46, rfl, hr⟩ := hq
            refine wo_step (v := (.b c46)) (s_ld rfl e46) ?_
            have hq := forceB_inv hr
            clear hr
            obtain ⟨c47, e47, hr⟩ := hq
            refine wo_step (v := (.b c47)) (s_pure ((p_not rfl).trans (cb e47))) ?_
            refine wo_nil ?_
            refine nx_norm ?_
            have hq := bindO_inv hr
            clear hr
            obtain ⟨o, hr, hk⟩ := hq
            refine jp_mono (J := g62_J2 x0 v3 x5 x17 o) ?_ ?_
            · clear hk
              have hq := cond_inv hr
              clear hr
              rcases hq with ⟨rfl, hr⟩ | ⟨rfl, hr⟩
              · refine w_condT rfl ?_
                refine w_seq ?_
                refine w_ops ?_
                have hq := bindO_inv hr
                clear hr
                obtain ⟨v48, e48, hr⟩ := hq
                refine wo_step (v := v48) (s_pure (o_faddr rfl e48)) ?_
                have hq := bindO_inv hr
                clear hr
                obtain ⟨v49, e49, hr⟩ := hq
                have hq := asI_inv hr
                clear hr
                obtain ⟨x49, rfl, hr⟩ := hq
                refine wo_step (v := (.i .u8 x49)) (s_ld rfl e49) ?_
                have hq := bindO_inv hr
                clear hr
                obtain ⟨v50, e50, hr⟩ := hq
                refine wo_step (v := v50) (s_pure (o_ixA g3 rfl e50)) ?_
                have hq := bindP_inv hr
                clear hr
                obtain ⟨vn_1, m_7, en_1, hr⟩ := hq
                refine wo_stepN (s_st rfl rfl en_1) ?_
                refine wo_nil ?_
                refine nx_norm ?_
                refine w_ops ?_
                refine wo_step (v := v4_1) (s_pure (p_mv g4)) ?_
                have hq := bindO_inv hr
                clear hr
                obtain ⟨v52, e52, hr⟩ := hq
                refine wo_step (v := v52) (s_ld rfl e52) ?_
                have hq := bindP_inv hr
                clear hr
                obtain ⟨v53, m_8, e53, hr⟩ := hq
                refine wo_step (v := v53) (s_bsl (qc rfl qn) e53) ?_
                have hq := bindP_inv hr
                clear hr
                obtain ⟨v54, m_9, e54, hr⟩ := hq
                refine wo_step (v := v54) (s_app rfl rfl e54) ?_
                refine wo_step (v := v54) (s_pure (p_mv rfl)) ?_
                refine wo_nil ?_
                cases hr
                exact ⟨_, _, rfl, rfl, rfl, gl rfl, gl g0, gl g3, gl g5, gl g17⟩
              · refine w_condF rfl ?_
                refine w_skip ?_
                cases hr
                exact ⟨_, _, rfl, rfl, rfl, gl g4, gl g0, gl g3, gl g5, gl g17⟩
            · have hr := hk
              clear hk
              obtain ⟨v4_2, m_10⟩ := o
              rintro _ mm t_3 ⟨rfl, rfl, g4, g0, g3, g5, g17⟩
              refine bk_norm ?_
              refine nx_norm ?_
              refine w_ops ?_
              have hq := forceI_inv hr
              clear hr
              obtain ⟨x55, e55, hr⟩ := hq
              refine wo_step (v := (.i .i64 x55)) (s_pure (p_bin g17 rfl (b_add.trans (ci e55)))) ?_
              refine wo_step (v := (.i .i64 x55)) (s_pure (p_mv rfl)) ?_
              refine wo_nil ?_
              cases hr
              exact ⟨_, _, rfl, rfl, rfl, gl g4, gl rfl, gl g0, gl g3, gl g5⟩
        · refine w_condF rfl ?_
          refine w_exit ?_
          refine nx_exit ?_
          cases hr
          exact ⟨_, _, rfl, ne_norm_exit, rfl, rfl, gl g4, gl g0, gl g3, gl g5⟩
      · rcases o_1 with o_1 | o_1
        · obtain ⟨v4_3, m_11⟩ := o_1
          rintro _ mm_1 t_4 ⟨rfl, rfl, g4, g0, g3, g5⟩
          refine bk_hit ?_
          refine bk_norm ?_
          refine nx_norm ?_
          refine w_ops ?_
          refine wo_step (v := (.i .i64 x5)) (s_pure (p_mv g5)) ?_
          have hq := forceI_inv hr
          clear hr
          obtain ⟨x16, e16, hr⟩ := hq
          refine wo_step (v := (.i .i64 x16)) (s_pure (p_bin rfl rfl (b_add.trans (ci e16)))) ?_
          refine wo_step (v := (.i .i64 x16)) (s_pure (p_mv rfl)) ?_
          refine wo_nil ?_
          cases hr
          exact ⟨_, _, rfl, rfl, rfl, gl g4, gl rfl, gl g0, gl g3⟩
        · obtain ⟨s2, m_12⟩ := o_1
          rintro _ mm_2 t_5 ⟨rfl, rfl, g2⟩
          refine bk_ret ?_
          refine bk_ret ?_
          refine nx_ret ?_
          cases hr
          exact ⟨_, _, rfl, ne_norm_ret, rfl, rfl, gl g2⟩
    · refine w_condF rfl ?_
      refine w_exit ?_
      refine nx_exit ?_
      cases hr
      exact ⟨_, _, rfl, ne_norm_exit, rfl, rfl⟩
  · rcases o_2 with o_2 | o_2
    · obtain ⟨m_13, ho⟩ : ∃ z, z = o_2 := ⟨_, rfl⟩
      subst ho
      rintro _ mm_4 t_6 ⟨rfl, rfl⟩
      refine bk_hit ?_
      refine nx_norm ?_
      refine w_seq ?_
      refine w_ops ?_
      refine wo_step (v := (AVal.s [])) (s_pure (p_mv rfl)) ?_
      refine wo_nil ?_
      refine nx_norm ?_
      refine w_ret ?_
      exact qf ret_ok (rt rfl rn) hr
    · obtain ⟨s2_1, m_14⟩ := o_2
      rintro _ mm_5 t_7 ⟨rfl, rfl, g2⟩
      refine bk_ret ?_
      refine nx_ret ?_
      exact qf ret_ok (rt g2 rn) hr

/- dibber/weed.mirrors -/

def g69 (M : Means) (ro : List ABlk) (x0 : Int) (m0 : Mm) : Option (AVal × Heap × Nat × Nat) :=
  bindP (callM M.call m0 82 [(.i .u8 x0), (AVal.fn 83 [] [])]) fun v5 m_1 =>
  asI .u8 v5 fun x5 =>
  bindP (callM M.call m_1 82 [(.i .u8 x0), (AVal.fn 84 [] [])]) fun v7 m_2 =>
  asI .u8 v7 fun x7 =>
  finM m0.h.length (tupA [(.i .u8 x5), (.i .u8 x7)]) m_2

theorem g69_ok {ro : List ABlk} {O : Caller} {M : Means} (hM : M.Ok ⟨F, O⟩ ro) {x0 h r} (ho : O 69 [(.i .u8 x0)] h = none) (hr : g69 M ro x0 ⟨h, h.length, h.length⟩ = some r) : callX ⟨F, O⟩ ro 69 [(.i .u8 x0)] h = some r := by
  refine callX_of (F := ⟨F, O⟩) (fn := fn69) (g := g69 M ro x0) ho rfl rfl hr ?_
  clear ho
  clear hr
  intro m0 t0 ht hr
  have g0 : t0.get 0 = (.i .u8 x0) := ht 0
  clear ht
  unfold g69 at hr
  refine w_seq ?_
  refine w_ops ?_
  refine wo_step (v := (.i .u8 0)) (s_pure (p_mv rfl)) ?_
  refine wo_step (v := (.i .u8 0)) (s_pure (p_mv rfl)) ?_
  refine wo_nil ?_
  refine nx_norm ?_
  refine w_seq ?_
  refine w_ops ?_
  refine wo_step (v := (.i .u8 x0)) (s_pure (p_mv g0)) ?_
  have hq := bindP_inv hr
  clear hr
  obtain ⟨v5, m_1, e5, hr⟩ := hq
  have hq := asI_inv hr
  clear hr
  obtain ⟨x5, rfl, hr⟩ := hq
  refine wo_step (v := (.i .u8 x5)) (s_call (mc rfl (mc rfl mn)) (callM_le hM.call e5)) ?_
  refine wo_step (v := (.i .u8 x0)) (s_pure (p_mv g0)) ?_
  have hq := bindP_inv hr
  clear hr
  obtain ⟨v7, m_2, e7, hr⟩ := hq
  have hq := asI_inv hr
  clear hr
  obtain ⟨x7, rfl, hr⟩ := hq
  refine wo_step (v := (.i .u8 x7)) (s_call (mc rfl (mc rfl mn)) (callM_le hM.call e7)) ?_
  refine wo_step (v := (.i .u8 x5)) (s_pure (p_mv rfl)) ?_
  refine wo_step (v := (.i .u8 x7)) (s_pure (p_mv rfl)) ?_
  refine wo_nil ?_
  refine nx_norm ?_
  refine w_ret ?_
  exact qf ret_ok (rt rfl (rt rfl rn)) hr

/- dibber/weed.plot -/

def g71 (M : Means) (ro : List ABlk) (x0 : Int) (m0 : Mm) : Option (AVal × Heap × Nat × Nat) :=
  forceI (wr .u8 x0) fun x4 =>
  forceI (wr .u8 (48 + x4)) fun x5 =>
  finM m0.h.length (tupA [(.i .u8 x5)]) m0

theorem g71_ok {ro : List ABlk} {O : Caller} {M : Means} (hM : M.Ok ⟨F, O⟩ ro) {x0 h r} (ho : O 71 [(.i .i64 x0)] h = none) (hr : g71 M ro x0 ⟨h, h.length, h.length⟩ = some r) : callX ⟨F, O⟩ ro 71 [(.i .i64 x0)] h = some r := by
  refine callX_of (F := ⟨F, O⟩) (fn := fn71) (g := g71 M ro x0) ho rfl rfl hr ?_
  clear ho
  clear hr
  intro m0 t0 ht hr
  have g0 : t0.get 0 = (.i .i64 x0) := ht 0
  clear ht
  unfold g71 at hr
  refine w_seq ?_
  refine w_ops ?_
  refine wo_step (v := (.i .u8 0)) (s_pure (p_mv rfl)) ?_
  refine wo_nil ?_
  refine nx_norm ?_
  refine w_seq ?_
  refine w_ops ?_
  refine wo_step (v := (.i .i64 x0)) (s_pure (p_mv g0)) ?_
  have hq := forceI_inv hr
  clear hr
  obtain ⟨x4, e4, hr⟩ := hq
  refine wo_step (v := (.i .u8 x4)) (s_pure ((p_conv rfl).trans (ci e4))) ?_
  have hq := forceI_inv hr
  clear hr
  obtain ⟨x5, e5, hr⟩ := hq
  refine wo_step (v := (.i .u8 x5)) (s_pure (p_bin rfl rfl (b_add.trans (ci e5)))) ?_
  refine wo_step (v := (.i .u8 x5)) (s_pure (p_mv rfl)) ?_
  refine wo_nil ?_
  refine nx_norm ?_
  refine w_ret ?_
  exact qf ret_ok (rt rfl rn) hr

/- (dibber/weed.rule).next -/

def g72 (M : Means) (ro : List ABlk) (x0 : Int) (x1 : Int) (m0 : Mm) : Option (AVal × Heap × Nat × Nat) :=
  chk (!ltI x1 (.ofNat 0)) <|
  forceI (shrV .u8 x0 x1) fun x7 =>
  forceI (wr .i64 x7) fun x8 =>
  forceI (bitV .and .i64 x8 1) fun x9 =>
  finM m0.h.length (tupA [(.i .i64 x9)]) m0

theorem g72_ok {ro : List ABlk} {O : Caller} {M : Means} (hM : M.Ok ⟨F, O⟩ ro) {x0 x1 h r} (ho : O 72 [(.i .u8 x0), (.i .i64 x1)] h = none) (hr : g72 M ro x0 x1 ⟨h, h.length, h.length⟩ = some r) : callX ⟨F, O⟩ ro 72 [(.i .u8 x0), (.i .i64 x1)] h = some r := by
  refine callX_of (F := ⟨F, O⟩) (fn := fn72) (g := g72 M ro x0 x1) ho rfl rfl hr ?_
  clear ho
  clear hr
  intro m0 t0 ht hr
  have g0 : t0.get 0 = (.i .u8 x0) := ht 0
  have g1 : t0.get 1 = (.i .i64 x1) := ht 1
  clear ht
  unfold g72 at hr
  refine w_seq ?_
  refine w_ops ?_
  refine wo_step (v := (.i .i64 0)) (s_pure (p_mv rfl)) ?_
  refine wo_nil ?_
  refine nx_norm ?_
  refine w_seq ?_
  refine w_ops ?_
  refine wo_step (v := (.i .u8 x0)) (s_pure (p_mv g0)) ?_
  refine wo_step (v := (.i .i64 x1)) (s_pure (p_mv g1)) ?_
  have hq := chk_inv hr
  clear hr
  obtain ⟨hc7, hr⟩ := hq
  have hq := forceI_inv hr
  clear hr
  obtain ⟨x7, e7, hr⟩ := hq
  refine wo_step (v := (.i .u8 x7)) (s_pure (p_bin rfl rfl ((b_shr hc7).trans (ci e7)))) ?_
  have hq := forceI_inv hr
  clear hr
  obtain ⟨x8, e8, hr⟩ := hq
  refine wo_step (v := (.i .i64 x8)) (s_pure ((p_conv rfl).trans (ci e8))) ?_
  have hq := forceI_inv hr
  clear hr
  obtain ⟨x9, e9, hr⟩ := hq
  refine wo_step (v := (.i .i64 x9)) (s_pure (p_bin rfl rfl (b_and.trans (ci e9)))) ?_
  refine wo_step (v := (.i .i64 x9)) (s_pure (p_mv rfl)) ?_
  refine wo_nil ?_
  refine nx_norm ?_
  refine w_ret ?_
  exact qf ret_ok (rt rfl rn) hr

/- dibber/weed.bit -/

def g73 (M : Means) (ro : List ABlk) (x0 : Int) (m0 : Mm) : Option (AVal × Heap × Nat × Nat) :=
  forceI (wr .u8 (x0 - 48)) fun x4 =>
  forceI (wr .i64 x4) fun x5 =>
  finM m0.h.length (tupA [(.i .i64 x5)]) m0

theorem g73_ok {ro : List ABlk} {O : Caller} {M : Means} (hM : M.Ok ⟨F, O⟩ ro) {x0 h r} (ho : O 73 [(.i .u8 x0)] h = none) (hr : g73 M ro x0 ⟨h, h.length, h.length⟩ = some r) : callX ⟨F, O⟩ ro 73 [(.i .u8 x0)] h = some r := by
  refine callX_of (F := ⟨F, O⟩) (fn := fn73) (g := g73 M ro x0) ho rfl rfl hr ?_
  clear ho
  clear hr
  intro m0 t0 ht hr
  have g0 : t0.get 0 = (.i .u8 x0) := ht 0
  clear ht
  unfold g73 at hr
  refine w_seq ?_
  refine w_ops ?_
  refine wo_step (v := (.i .i64 0)) (s_pure (p_mv rfl)) ?_
  refine wo_nil ?_
  refine nx_norm ?_
  refine w_seq ?_
  refine w_ops ?_
  refine wo_step (v := (.i .u8 x0)) (s_pure (p_mv g0)) ?_
  have hq := forceI_inv hr
  clear hr
  obtain ⟨x4, e4, hr⟩ := hq
  refine wo_step (v := (.i .u8 x4)) (s_pure (p_bin rfl rfl (b_sub.trans (ci e4)))) ?_
  have hq := forceI_inv hr
  clear hr
  obtain ⟨x5, e5, hr⟩ := hq
  refine wo_step (v := (.i .i64 x5)) (s_pure ((p_conv rfl).trans (ci e5))) ?_
  refine wo_step (v := (.i .i64 x5)) (s_pure (p_mv rfl)) ?_
  refine wo_nil ?_
  refine nx_norm ?_
  refine w_ret ?_
  exact qf ret_ok (rt rfl rn) hr

/- (dibber/weed.rule).behind -/
abbrev g74_I0 (x0 : Int) (x1 : Int) (x2 : Int) (s : Int × Int × Mm) (m1 : Mm) (t1 : Tr) : Prop :=
  match s with
  | (x7, x9, m_1) => m_1 = m1 ∧ t1.get 7 = (.i .u8 x7) ∧ t1.get 9 = (.i .i64 x9) ∧ t1.get 0 = (.i .u8 x0) ∧ t1.get 1 = (.i .u8 x1) ∧ t1.get 2 = (.i .i64 x2)
abbrev g74_J0 (x0 : Int) (x1 : Int) (x2 : Int) (o : (Int × Mm)) (e : AExit) (m1 : Mm) (t1 : Tr) : Prop :=
  match o with
  | (y7, mo) => e = (.exit 0) ∧ mo = m1 ∧ t1.get 7 = (.i .u8 y7)
abbrev g74_J1 (x0 : Int) (x1 : Int) (x2 : Int) (x7 : Int) (x9 : Int) (o : Bool × Mm) (m1 : Mm) (t1 : Tr) : Prop :=
  match o with
  | (c22, m_3) => m_3 = m1 ∧ t1.get 22 = (.b c22) ∧ t1.get 0 = (.i .u8 x0) ∧ t1.get 1 = (.i .u8 x1) ∧ t1.get 2 = (.i .i64 x2) ∧ t1.get 7 = (.i .u8 x7) ∧ t1.get 8 = (.i .i64 x9) ∧ t1.get 9 = (.i .i64 x9)
abbrev g74_J2 (x0 : Int) (x1 : Int) (x2 : Int) (x9 : Int) (m_3 : Mm) (o : Int) (e : AExit) (m1 : Mm) (t1 : Tr) : Prop :=
  match o with
  | y7 => e = .norm ∧ m_3 = m1 ∧ t1.get 7 = (.i .u8 y7) ∧ t1.get 0 = (.i .u8 x0) ∧ t1.get 1 = (.i .u8 x1) ∧ t1.get 2 = (.i .i64 x2) ∧ t1.get 9 = (.i .i64 x9)
def g74_b0 (M : Means) (ro : List ABlk) (x0 : Int) (x1 : Int) (x2 : Int) (x7 : Int) (x9 : Int) (m_1 : Mm) : Option ((Int × Int × Mm) ⊕ ((Int × Mm))) :=
  forceB (ltI x9 8) fun c10 =>
  cond c10 (
    forceI (bitV .and .i64 x9 3) fun x14 =>
    bindP (callM M.call m_1 76 [(.i .u8 x1), (.i .i64 x14)]) fun v15 m_2 =>
    asB v15 fun c15 =>
    bindO (cond c15 (
      bindP (callM M.call m_2 72 [(.i .u8 x0), (.i .i64 x9)]) fun v19 m_4 =>
      asI .i64 v19 fun x19 =>
      forceB (eqI x19 x2) fun c21 =>
      some (c21, m_4)) (
      some (false, m_2))) fun ⟨c22, m_3⟩ =>
    bindO (α := Int) (
      cond c22 (
        forceI (shrV .i64 x9 1) fun x25 =>
        chk (!ltI x25 (.ofNat 0)) <|
        forceI (shlV .u8 1 x25) fun x26 =>
        forceI (bitV .or .u8 x7 x26) fun x27 =>
        some x27) (
        some x7)) fun x7_1 =>
    forceI (wr .i64 (x9 + 1)) fun x28 =>
    some (.inl (x7_1, x28, m_3))) (
    some (.inr (x7, m_1)))
def g74 (M : Means) (ro : List ABlk) (x0 : Int) (x1 : Int) (x2 : Int) (m0 : Mm) : Option (AVal × Heap × Nat × Nat) :=
  bindO (M.loop (S := Int × Int × Mm) (R := (Int × Mm)) (fun s => g74_b0 M ro x0 x1 x2 s.1 s.2.1 s.2.2) (0, 0, m0)) fun ⟨x7_2, m_5⟩ =>
  finM m0.h.length (tupA [(.i .u8 x7_2)]) m_5

theorem g74_ok {ro : List ABlk} {O : Caller} {M : Means} (hM : M.Ok ⟨F, O⟩ ro) {x0 x1 x2 h r} (ho : O 74 [(.i .u8 x0), (.i .u8 x1), (.i .i64 x2)] h = none) (hr : g74 M ro x0 x1 x2 ⟨h, h.length, h.length⟩ = some r) : callX ⟨F, O⟩ ro 74 [(.i .u8 x0), (.i .u8 x1), (.i .i64 x2)] h = some r := by
  refine callX_of (F := ⟨F, O⟩) (fn := fn74) (g := g74 M ro x0 x1 x2) ho rfl rfl hr ?_
  clear ho
  clear hr
  intro m0 t0 ht hr
  have g0 : t0.get 0 = (.i .u8 x0) := ht 0
  have g1 : t0.get 1 = (.i .u8 x1) := ht 1
  have g2 : t0.get 2 = (.i .i64 x2) := ht 2
  clear ht
  unfold g74 at hr
  refine w_seq ?_
  refine w_ops ?_
  refine wo_step (v := (.i .u8 0)) (s_pure (p_mv rfl)) ?_
  refine wo_nil ?_
  refine nx_norm ?_
  refine w_seq ?_
  refine w_ops ?_
  refine wo_step (v := (.i .u8 0)) (s_pure (p_mv rfl)) ?_
  refine wo_nil ?_
  refine nx_norm ?_
  refine w_seq ?_
  refine w_seq ?_
  refine w_ops ?_
  refine wo_step (v := (.i .i64 0)) (s_pure (p_mv rfl)) ?_
  refine wo_nil ?_
  refine nx_norm ?_
  refine w_block ?_
  have hq := bindO_inv hr
  clear hr
  obtain ⟨o_2, hl, hr⟩ := hq
  obtain ⟨n, hl⟩ := hM.loop _ _ _ hl
  refine jp_mono (w_loop _ (g74_I0 x0 x1 x2) (g74_J0 x0 x1 x2) ?_ n _ _ _ _ hl ⟨rfl, gl rfl, gl rfl, gl g0, gl g1, gl g2⟩) ?_
  · clear hr hl
    intro s mm_3 t_1 o hi hr
    obtain ⟨x7, x9, m_1⟩ := s
    obtain ⟨rfl, g7, g9, g0, g1, g2⟩ := hi
    unfold g74_b0 at hr
    refine w_seq ?_
    refine w_ops ?_
    have hq := forceB_inv hr
    clear hr
    obtain ⟨c10, e10, hr⟩ := hq
    refine wo_step (v := (.b c10)) (s_pure (p_bin g9 rfl (b_lss.trans (cb e10)))) ?_
    refine wo_nil ?_
    refine nx_norm ?_
    refine w_seq ?_
    have hq := cond_inv hr
    clear hr
    rcases hq with ⟨rfl, hr⟩ | ⟨rfl, hr⟩
    · refine w_condT rfl ?_
      refine w_skip ?_
      refine nx_norm ?_
      refine w_seq ?_
      refine w_block ?_
      refine w_seq ?_
      refine w_ops ?_
      refine wo_step (v := (.i .i64 x9)) (s_pure (p_mv g9)) ?_
      refine wo_step (v := (.i .i64 x9)) (s_pure (p_mv rfl)) ?_
      refine wo_nil ?_
      refine nx_norm ?_
      refine w_seq ?_
      refine w_ops ?_
      refine wo_step (v := (.i .u8 x1)) (s_pure (p_mv g1)) ?_
      refine wo_step (v := (.i .i64 x9)) (s_pure (p_mv rfl)) ?_
      have hq := forceI_inv hr
      clear hr
      obtain ⟨x14, e14, hr⟩ := hq
      refine wo_step (v := (.i .i64 x14)) (s_pure (p_bin rfl rfl (b_and.trans (ci e14)))) ?_
      have hq := bindP_inv hr
      clear hr
      obtain ⟨v15, m_2, e15, hr⟩ := hq
      have hq := asB_inv hr
      clear hr
      obtain ⟨c15, rfl, hr⟩ := hq
      refine wo_step (v := (.b c15)) (s_call (mc rfl (mc rfl mn)) (callM_le hM.call e15)) ?_
      refine wo_step (v := (.b c15)) (s_pure (p_mv rfl)) ?_
      have hq := bindO_inv hr
      clear hr
      obtain ⟨o, hr, hk⟩ := hq
      refine wo_join 6 (g74_J1 x0 x1 x2 x7 x9 o) ?_ ?_
      · clear hk
        have hq := cond_inv hr
        clear hr
        rcases hq with ⟨rfl, hr⟩ | ⟨rfl, hr⟩
        · refine wo_take (v := (.i .u8 x0)) rfl (s_pure (p_mv g0)) ?_
          refine wo_take (v := (.i .i64 x9)) rfl (s_pure (p_mv rfl)) ?_
          have hq := bindP_inv hr
          clear hr
          obtain ⟨v19, m_4, e19, hr⟩ := hq
          have hq := asI_inv hr
          clear hr
          obtain ⟨x19, rfl, hr⟩ := hq
          refine wo_take (v := (.i .i64 x19)) rfl (s_call (mc rfl (mc rfl mn)) (callM_le hM.call e19)) ?_
          refine wo_take (v := (.i .i64 x2)) rfl (s_pure (p_mv g2)) ?_
          have hq := forceB_inv hr
          clear hr
          obtain ⟨c21, e21, hr⟩ := hq
          refine wo_take (v := (.b c21)) rfl (s_pure (p_bin rfl rfl (b_eql.trans (cb e21)))) ?_
          refine wo_step (v := (.b c21)) (s_pure (p_pickT rfl rfl)) ?_
          refine wo_nil ?_
          cases hr
          exact ⟨_, _, rfl, rfl, gl rfl, gl g0, gl g1, gl g2, gl g7, gl rfl, gl g9⟩
        · refine wo_skip (v := (.b false)) rfl rfl ?_
          refine wo_skip (v := (.b false)) rfl rfl ?_
          refine wo_skip (v := (.b false)) rfl rfl ?_
          refine wo_skip (v := (.b false)) rfl rfl ?_
          refine wo_skip (v := (.b false)) rfl rfl ?_
          refine wo_step (v := (.b false)) (s_pure (p_pickF rfl rfl)) ?_
          refine wo_nil ?_
          cases hr
          exact ⟨_, _, rfl, rfl, gl rfl, gl g0, gl g1, gl g2, gl g7, gl rfl, gl g9⟩
      · clear hr
        have hr := hk
        clear hk
        obtain ⟨c22, m_3⟩ := o
        rintro mm t_2 ⟨rfl, g22, g0, g1, g2, g7, g8, g9⟩
        refine wo_nil ?_
        refine nx_norm ?_
        have hq := bindO_inv hr
        clear hr
        obtain ⟨o_1, hr, hk⟩ := hq
        refine jp_mono (J := g74_J2 x0 x1 x2 x9 m_3 o_1) ?_ ?_
        · clear hk
          have hq := cond_inv hr
          clear hr
          rcases hq with ⟨rfl, hr⟩ | ⟨rfl, hr⟩
          · refine w_condT g22 ?_
            refine w_ops ?_
            refine wo_step (v := (.i .u8 x7)) (s_pure (p_mv g7)) ?_
            refine wo_step (v := (.i .i64 x9)) (s_pure (p_mv g8)) ?_
            have hq := forceI_inv hr
            clear hr
            obtain ⟨x25, e25, hr⟩ := hq
            refine wo_step (v := (.i .i64 x25)) (s_pure (p_bin rfl rfl ((b_shr rfl).trans (ci e25)))) ?_
            have hq := chk_inv hr
            clear hr
            obtain ⟨hc26, hr⟩ := hq
            have hq := forceI_inv hr
            clear hr
            obtain ⟨x26, e26, hr⟩ := hq
            refine wo_step (v := (.i .u8 x26)) (s_pure (p_bin rfl rfl ((b_shl hc26).trans (ci e26)))) ?_
            have hq := forceI_inv hr
            clear hr
            obtain ⟨x27, e27, hr⟩ := hq
            refine wo_step (v := (.i .u8 x27)) (s_pure (p_bin rfl rfl (b_or.trans (ci e27)))) ?_
            refine wo_step (v := (.i .u8 x27)) (s_pure (p_mv rfl)) ?_
            refine wo_nil ?_
            cases hr
            exact ⟨_, _, rfl, rfl, rfl, gl rfl, gl g0, gl g1, gl g2, gl g9⟩
          · refine w_condF g22 ?_
            refine w_skip ?_
            cases hr
            exact ⟨_, _, rfl, rfl, rfl, gl g7, gl g0, gl g1, gl g2, gl g9⟩
        · have hr := hk
          clear hk
          obtain ⟨x7_1, ho⟩ : ∃ z, z = o_1 := ⟨_, rfl⟩
          subst ho
          rintro _ mm_1 t_3 ⟨rfl, rfl, g7, g0, g1, g2, g9⟩
          refine bk_norm ?_
          refine nx_norm ?_
          refine w_ops ?_
          have hq := forceI_inv hr
          clear hr
          obtain ⟨x28, e28, hr⟩ := hq
          refine wo_step (v := (.i .i64 x28)) (s_pure (p_bin g9 rfl (b_add.trans (ci e28)))) ?_
          refine wo_step (v := (.i .i64 x28)) (s_pure (p_mv rfl)) ?_
          refine wo_nil ?_
          cases hr
          exact ⟨_, _, rfl, rfl, rfl, gl g7, gl rfl, gl g0, gl g1, gl g2⟩
    · refine w_condF rfl ?_
      refine w_exit ?_
      refine nx_exit ?_
      cases hr
      exact ⟨_, _, rfl, ne_norm_exit, rfl, rfl, gl g7⟩
  · obtain ⟨x7_2, m_5⟩ := o_2
    rintro _ mm_2 t_4 ⟨rfl, rfl, g7⟩
    refine bk_hit ?_
    refine nx_norm ?_
    refine w_seq ?_
    refine w_ops ?_
    refine wo_step (v := (.i .u8 x7_2)) (s_pure (p_mv g7)) ?_
    refine wo_step (v := (.i .u8 x7_2)) (s_pure (p_mv rfl)) ?_
    refine wo_nil ?_
    refine nx_norm ?_
    refine w_ret ?_
    exact qf ret_ok (rt rfl rn) hr

/- math/bits.TrailingZeros8 -/

def g75 (M : Means) (ro : List ABlk) (x0 : Int) (m0 : Mm) : Option (AVal × Heap × Nat × Nat) :=
  bindO (evP .e (.ixStr (.c (AVal.s [8, 0, 1, 0, 2, 0, 1, 0, 3, 0, 1, 0, 2, 0, 1, 0, 4, 0, 1, 0, 2, 0, 1, 0, 3, 0, 1, 0, 2, 0, 1, 0, 5, 0, 1, 0, 2, 0, 1, 0, 3, 0, 1, 0, 2, 0, 1, 0, 4, 0, 1, 0, 2, 0, 1, 0, 3, 0, 1, 0, 2, 0, 1, 0, 6, 0, 1, 0, 2, 0, 1, 0, 3, 0, 1, 0, 2, 0, 1, 0, 4, 0, 1, 0, 2, 0, 1, 0, 3, 0, 1, 0, 2, 0, 1, 0, 5, 0, 1, 0, 2, 0, 1, 0, 3, 0, 1, 0, 2, 0, 1, 0, 4, 0, 1, 0, 2, 0, 1, 0, 3, 0, 1, 0, 2, 0, 1, 0, 7, 0, 1, 0, 2, 0, 1, 0, 3, 0, 1, 0, 2, 0, 1, 0, 4, 0, 1, 0, 2, 0, 1, 0, 3, 0, 1, 0, 2, 0, 1, 0, 5, 0, 1, 0, 2, 0, 1, 0, 3, 0, 1, 0, 2, 0, 1, 0, 4, 0, 1, 0, 2, 0, 1, 0, 3, 0, 1, 0, 2, 0, 1, 0, 6, 0, 1, 0, 2, 0, 1, 0, 3, 0, 1, 0, 2, 0, 1, 0, 4, 0, 1, 0, 2, 0, 1, 0, 3, 0, 1, 0, 2, 0, 1, 0, 5, 0, 1, 0, 2, 0, 1, 0, 3, 0, 1, 0, 2, 0, 1, 0, 4, 0, 1, 0, 2, 0, 1, 0, 3, 0, 1, 0, 2, 0, 1, 0])) (.c (.i .u8 x0)))) fun v4 =>
  asI .u8 v4 fun x4 =>
  forceI (wr .i64 x4) fun x5 =>
  finM m0.h.length (tupA [(.i .i64 x5)]) m0

theorem g75_ok {ro : List ABlk} {O : Caller} {M : Means} (hM : M.Ok ⟨F, O⟩ ro) {x0 h r} (ho : O 75 [(.i .u8 x0)] h = none) (hr : g75 M ro x0 ⟨h, h.length, h.length⟩ = some r) : callX ⟨F, O⟩ ro 75 [(.i .u8 x0)] h = some r := by
  refine callX_of (F := ⟨F, O⟩) (fn := fn75) (g := g75 M ro x0) ho rfl rfl hr ?_
  clear ho
  clear hr
  intro m0 t0 ht hr
  have g0 : t0.get 0 = (.i .u8 x0) := ht 0
  clear ht
  unfold g75 at hr
  refine w_seq ?_
  refine w_ops ?_
  refine wo_step (v := (.i .i64 0)) (s_pure (p_mv rfl)) ?_
  refine wo_nil ?_
  refine nx_norm ?_
  refine w_seq ?_
  refine w_ops ?_
  refine wo_step (v := (.i .u8 x0)) (s_pure (p_mv g0)) ?_
  have hq := bindO_inv hr
  clear hr
  obtain ⟨v4, e4, hr⟩ := hq
  have hq := asI_inv hr
  clear hr
  obtain ⟨x4, rfl, hr⟩ := hq
  refine wo_step (v := (.i .u8 x4)) (s_pure (o_ixStr rfl rfl e4)) ?_
  have hq := forceI_inv hr
  clear hr
  obtain ⟨x5, e5, hr⟩ := hq
  refine wo_step (v := (.i .i64 x5)) (s_pure ((p_conv rfl).trans (ci e5))) ?_
  refine wo_step (v := (.i .i64 x5)) (s_pure (p_mv rfl)) ?_
  refine wo_nil ?_
  refine nx_norm ?_
  refine w_ret ?_
  exact qf ret_ok (rt rfl rn) hr

/- (dibber/weed.pairs).has -/

def g76 (M : Means) (ro : List ABlk) (x0 : Int) (x1 : Int) (m0 : Mm) : Option (AVal × Heap × Nat × Nat) :=
  chk (!ltI x1 (.ofNat 0)) <|
  forceI (shrV .u8 x0 x1) fun x7 =>
  forceI (bitV .and .u8 x7 1) fun x8 =>
  forceB (eqI x8 1) fun c9 =>
  finM m0.h.length (tupA [(.b c9)]) m0

theorem g76_ok {ro : List ABlk} {O : Caller} {M : Means} (hM : M.Ok ⟨F, O⟩ ro) {x0 x1 h r} (ho : O 76 [(.i .u8 x0), (.i .i64 x1)] h = none) (hr : g76 M ro x0 x1 ⟨h, h.length, h.length⟩ = some r) : callX ⟨F, O⟩ ro 76 [(.i .u8 x0), (.i .i64 x1)] h = some r := by
  refine callX_of (F := ⟨F, O⟩) (fn := fn76) (g := g76 M ro x0 x1) ho rfl rfl hr ?_
  clear ho
  clear hr
  intro m0 t0 ht hr
  have g0 : t0.get 0 = (.i .u8 x0) := ht 0
  have g1 : t0.get 1 = (.i .i64 x1) := ht 1
  clear ht
  unfold g76 at hr
  refine w_seq ?_
  refine w_ops ?_
  refine wo_step (v := (.b false)) (s_pure (p_mv rfl)) ?_
  refine wo_nil ?_
  refine nx_norm ?_
  refine w_seq ?_
  refine w_ops ?_
  refine wo_step (v := (.i .u8 x0)) (s_pure (p_mv g0)) ?_
  refine wo_step (v := (.i .i64 x1)) (s_pure (p_mv g1)) ?_
  have hq := chk_inv hr
  clear hr
  obtain ⟨hc7, hr⟩ := hq
  have hq := forceI_inv hr
  clear hr
  obtain ⟨x7, e7, hr⟩ := hq
  refine wo_step (v := (.i .u8 x7)) (s_pure (p_bin rfl rfl ((b_shr hc7).trans (ci e7)))) ?_
  have hq := forceI_inv hr
  clear hr
  obtain ⟨x8, e8, hr⟩ := hq
  refine wo_step (v := (.i .u8 x8)) (s_pure (p_bin rfl rfl (b_and.trans (ci e8)))) ?_
  have hq := forceB_inv hr
  clear hr
  obtain ⟨c9, e9, hr⟩ := hq
  refine wo_step (v := (.b c9)) (s_pure (p_bin rfl rfl (b_eql.trans (cb e9)))) ?_
  refine wo_step (v := (.b c9)) (s_pure (p_mv rfl)) ?_
  refine wo_nil ?_
  refine nx_norm ?_
  refine w_ret ?_
  exact qf ret_ok (rt rfl rn) hr

/- dibber/dibberref02.small -/
abbrev g77_I0 (v0 : AVal) (s : AVal × Int × Mm) (m1 : Mm) (t1 : Tr) : Prop :=
  match s with
  | (v3, x4, m_1) => m_1 = m1 ∧ t1.get 3 = v3 ∧ t1.get 4 = (.i .i64 x4) ∧ t1.get 0 = v0
abbrev g77_J0 (v0 : AVal) (o : (AVal × Mm)) (e : AExit) (m1 : Mm) (t1 : Tr) : Prop :=
  match o with
  | (y3, mo) => e = (.exit 0) ∧ mo = m1 ∧ t1.get 3 = y3
def g77_b0 (M : Means) (ro : List ABlk) (v0 : AVal) (v3 : AVal) (x4 : Int) (m_1 : Mm) : Option ((AVal × Int × Mm) ⊕ ((AVal × Mm))) :=
  bindO (evP .e (.len false (.c v0))) fun v7 =>
  asI .i64 v7 fun x7 =>
  forceB (ltI x4 x7) fun c8 =>
  cond c8 (
    bindO (evP .e (.ixS 1 (.c v0) (.c (.i .i64 x4)))) fun v14 =>
    bindO (ldM ro m_1 true 1 v14) fun v15 =>
    asI .i64 v15 fun x15 =>
    forceI (mxV false x15 1) fun x16 =>
    bindP (stepM ro m_1 (.bsl 3 1 [(AVal.i IntKind.i64 0)] 1 [((0, 1), .c (.i .i64 x16))])) fun v17 m_2 =>
    bindP (stepM ro m_2 (.app 3 1 8 [(AVal.i IntKind.i64 0)] (.c v3) (.c v17))) fun v18 m_3 =>
    forceI (wr .i64 (x4 + 1)) fun x10 =>
    some (.inl (v18, x10, m_3))) (
    some (.inr (v3, m_1)))
def g77 (M : Means) (ro : List ABlk) (v0 : AVal) (m0 : Mm) : Option (AVal × Heap × Nat × Nat) :=
  bindO (M.loop (S := AVal × Int × Mm) (R := (AVal × Mm)) (fun s => g77_b0 M ro v0 s.1 s.2.1 s.2.2) (AVal.nsl, 0, m0)) fun ⟨v3_1, m_4⟩ =>
  finM m0.h.length (tupA [v3_1]) m_4

theorem g77_ok {ro : List ABlk} {O : Caller} {M : Means} (hM : M.Ok ⟨F, O⟩ ro) {v0 h r} (ho : O 77 [v0] h = none) (hr : g77 M ro v0 ⟨h, h.length, h.length⟩ = some r) : callX ⟨F, O⟩ ro 77 [v0] h = some r := by
  refine callX_of (F := ⟨F, O⟩) (fn := fn77) (g := g77 M ro v0) ho rfl rfl hr ?_
  clear ho
  clear hr
  intro m0 t0 ht hr
  have g0 : t0.get 0 = v0 := ht 0
  clear ht
  unfold g77 at hr
  refine w_seq ?_
  refine w_ops ?_
  refine wo_step (v := AVal.nsl) (s_pure (p_mv rfl)) ?_
  refine wo_nil ?_
  refine nx_norm ?_
  refine w_seq ?_
  refine w_ops ?_
  refine wo_step (v := AVal.nsl) (s_pure (p_mv rfl)) ?_
  refine wo_nil ?_
  refine nx_norm ?_
  refine w_seq ?_
  refine w_seq ?_
  refine w_ops ?_
  refine wo_step (v := (.i .i64 0)) (s_pure (p_mv rfl)) ?_
  refine wo_nil ?_
  refine nx_norm ?_
  refine w_block ?_
  have hq := bindO_inv hr
  clear hr
  obtain ⟨o, hl, hr⟩ := hq
  obtain ⟨n, hl⟩ := hM.loop _ _ _ hl
  refine jp_mono (w_loop _ (g77_I0 v0) (g77_J0 v0) ?_ n _ _ _ _ hl ⟨rfl, gl rfl, gl rfl, gl g0⟩) ?_
  · clear hr hl
    intro s mm_1 t_1 o hi hr
    obtain ⟨v3, x4, m_1⟩ := s
    obtain ⟨rfl, g3, g4, g0⟩ := hi
    unfold g77_b0 at hr
    refine w_seq ?_
    refine w_seq ?_
    refine w_ops ?_
    refine wo_step (v := (.i .i64 x4)) (s_pure (p_mv g4)) ?_
    refine wo_step (v := v0) (s_pure (p_mv g0)) ?_
    have hq := bindO_inv hr
    clear hr
    obtain ⟨v7, e7, hr⟩ := hq
    have hq := asI_inv hr
    clear hr
    obtain ⟨x7, rfl, hr⟩ := hq
    refine wo_step (v := (.i .i64 x7)) (s_pure (o_len rfl e7)) ?_
    have hq := forceB_inv hr
    clear hr
    obtain ⟨c8, e8, hr⟩ := hq
    refine wo_step (v := (.b c8)) (s_pure (p_bin rfl rfl (b_lss.trans (cb e8)))) ?_
    refine wo_nil ?_
    refine nx_norm ?_
    have hq := cond_inv hr
    clear hr
    rcases hq with ⟨rfl, hr⟩ | ⟨rfl, hr⟩
    · refine w_condT rfl ?_
      refine w_skip ?_
      refine nx_norm ?_
      refine w_seq ?_
      refine w_block ?_
      refine w_ops ?_
      refine wo_step (v := v3) (s_pure (p_mv g3)) ?_
      refine wo_step (v := v0) (s_pure (p_mv g0)) ?_
      refine wo_step (v := (.i .i64 x4)) (s_pure (p_mv g4)) ?_
      have hq := bindO_inv hr
      clear hr
      obtain ⟨v14, e14, hr⟩ := hq
      refine wo_step (v := v14) (s_pure (o_ixS rfl rfl e14)) ?_
      have hq := bindO_inv hr
      clear hr
      obtain ⟨v15, e15, hr⟩ := hq
      have hq := asI_inv hr
      clear hr
      obtain ⟨x15, rfl, hr⟩ := hq
      refine wo_step (v := (.i .i64 x15)) (s_ld rfl e15) ?_
      have hq := forceI_inv hr
      clear hr
      obtain ⟨x16, e16, hr⟩ := hq
      refine wo_step (v := (.i .i64 x16)) (s_pure ((p_mx rfl rfl).trans (ci e16))) ?_
      have hq := bindP_inv hr
      clear hr
      obtain ⟨v17, m_2, e17, hr⟩ := hq
      refine wo_step (v := v17) (s_bsl (qc rfl qn) e17) ?_
      have hq := bindP_inv hr
      clear hr
      obtain ⟨v18, m_3, e18, hr⟩ := hq
      refine wo_step (v := v18) (s_app rfl rfl e18) ?_
      refine wo_step (v := v18) (s_pure (p_mv rfl)) ?_
      refine wo_nil ?_
      refine bk_norm ?_
      refine nx_norm ?_
      refine w_ops ?_
      refine wo_step (v := (.i .i64 x4)) (s_pure (p_mv g4)) ?_
      have hq := forceI_inv hr
      clear hr
      obtain ⟨x10, e10, hr⟩ := hq
      refine wo_step (v := (.i .i64 x10)) (s_pure (p_bin rfl rfl (b_add.trans (ci e10)))) ?_
      refine wo_step (v := (.i .i64 x10)) (s_pure (p_mv rfl)) ?_
      refine wo_nil ?_
      cases hr
      exact ⟨_, _, rfl, rfl, rfl, gl rfl, gl rfl, gl g0⟩
    · refine w_condF rfl ?_
      refine w_exit ?_
      refine nx_exit ?_
      cases hr
      exact ⟨_, _, rfl, ne_norm_exit, rfl, rfl, gl g3⟩
  · obtain ⟨v3_1, m_4⟩ := o
    rintro _ mm t_2 ⟨rfl, rfl, g3⟩
    refine bk_hit ?_
    refine nx_norm ?_
    refine w_seq ?_
    refine w_ops ?_
    refine wo_step (v := v3_1) (s_pure (p_mv g3)) ?_
    refine wo_step (v := v3_1) (s_pure (p_mv rfl)) ?_
    refine wo_nil ?_
    refine nx_norm ?_
    refine w_ret ?_
    exact qf ret_ok (rt rfl rn) hr

/- (dibber/weed.rule).ahead -/
abbrev g78_I0 (x0 : Int) (x1 : Int) (x2 : Int) (s : Int × Int × Mm) (m1 : Mm) (t1 : Tr) : Prop :=
  match s with
  | (x7, x9, m_1) => m_1 = m1 ∧ t1.get 7 = (.i .u8 x7) ∧ t1.get 9 = (.i .i64 x9) ∧ t1.get 0 = (.i .u8 x0) ∧ t1.get 1 = (.i .u8 x1) ∧ t1.get 2 = (.i .i64 x2)
abbrev g78_J0 (x0 : Int) (x1 : Int) (x2 : Int) (o : (Int × Mm)) (e : AExit) (m1 : Mm) (t1 : Tr) : Prop :=
  match o with
  | (y7, mo) => e = (.exit 0) ∧ mo = m1 ∧ t1.get 7 = (.i .u8 y7)
abbrev g78_J1 (x0 : Int) (x1 : Int) (x2 : Int) (x7 : Int) (x9 : Int) (o : Bool × Mm) (m1 : Mm) (t1 : Tr) : Prop :=
  match o with
  | (c22, m_3) => m_3 = m1 ∧ t1.get 22 = (.b c22) ∧ t1.get 0 = (.i .u8 x0) ∧ t1.get 1 = (.i .u8 x1) ∧ t1.get 2 = (.i .i64 x2) ∧ t1.get 7 = (.i .u8 x7) ∧ t1.get 8 = (.i .i64 x9) ∧ t1.get 9 = (.i .i64 x9)
abbrev g78_J2 (x0 : Int) (x1 : Int) (x2 : Int) (x9 : Int) (m_3 : Mm) (o : Int) (e : AExit) (m1 : Mm) (t1 : Tr) : Prop :=
  match o with
  | y7 => e = .norm ∧ m_3 = m1 ∧ t1.get 7 = (.i .u8 y7) ∧ t1.get 0 = (.i .u8 x0) ∧ t1.get 1 = (.i .u8 x1) ∧ t1.get 2 = (.i .i64 x2) ∧ t1.get 9 = (.i .i64 x9)
def g78_b0 (M : Means) (ro : List ABlk) (x0 : Int) (x1 : Int) (x2 : Int) (x7 : Int) (x9 : Int) (m_1 : Mm) : Option ((Int × Int × Mm) ⊕ ((Int × Mm))) :=
  forceB (ltI x9 8) fun c10 =>
  cond c10 (
    forceI (shrV .i64 x9 1) fun x14 =>
    bindP (callM M.call m_1 76 [(.i .u8 x1), (.i .i64 x14)]) fun v15 m_2 =>
    asB v15 fun c15 =>
    bindO (cond c15 (
      bindP (callM M.call m_2 72 [(.i .u8 x0), (.i .i64 x9)]) fun v19 m_4 =>
      asI .i64 v19 fun x19 =>
      forceB (eqI x19 x2) fun c21 =>
      some (c21, m_4)) (
      some (false, m_2))) fun ⟨c22, m_3⟩ =>
    bindO (α := Int) (
      cond c22 (
        forceI (bitV .and .i64 x9 3) fun x25 =>
        chk (!ltI x25 (.ofNat 0)) <|
        forceI (shlV .u8 1 x25) fun x26 =>
        forceI (bitV .or .u8 x7 x26) fun x27 =>
        some x27) (
        some x7)) fun x7_1 =>
    forceI (wr .i64 (x9 + 1)) fun x28 =>
    some (.inl (x7_1, x28, m_3))) (
    some (.inr (x7, m_1)))
def g78 (M : Means) (ro : List ABlk) (x0 : Int) (x1 : Int) (x2 : Int) (m0 : Mm) : Option (AVal × Heap × Nat × Nat) :=
  bindO (M.loop (S := Int × Int × Mm) (R := (Int × Mm)) (fun s => g78_b0 M ro x0 x1 x2 s.1 s.2.1 s.2.2) (0, 0, m0)) fun ⟨x7_2, m_5⟩ =>
  finM m0.h.length (tupA [(.i .u8 x7_2)]) m_5

theorem g78_ok {ro : List ABlk} {O : Caller} {M : Means} (hM : M.Ok ⟨F, O⟩ ro) {x0 x1 x2 h r} (ho : O 78 [(.i .u8 x0), (.i .u8 x1), (.i .i64 x2)] h = none) (hr : g78 M ro x0 x1 x2 ⟨h, h.length, h.length⟩ = some r) : callX ⟨F, O⟩ ro 78 [(.i .u8 x0), (.i .u8 x1), (.i .i64 x2)] h = some r := by
  refine callX_of (F := ⟨F, O⟩) (fn := fn78) (g := g78 M ro x0 x1 x2) ho rfl rfl hr ?_
  clear ho
  clear hr
  intro m0 t0 ht hr
  have g0 : t0.get 0 = (.i .u8 x0) := ht 0
  have g1 : t0.get 1 = (.i .u8 x1) := ht 1
  have g2 : t0.get 2 = (.i .i64 x2) := ht 2
  clear ht
  unfold g78 at hr
  refine w_seq ?_
  refine w_ops ?_
  refine wo_step (v := (.i .u8 0)) (s_pure (p_mv rfl)) ?_
  refine wo_nil ?_
  refine nx_norm ?_
  refine w_seq ?_
  refine w_ops ?_
  refine wo_step (v := (.i .u8 0)) (s_pure (p_mv rfl)) ?_
  refine wo_nil ?_
  refine nx_norm ?_
  refine w_seq ?_
  refine w_seq ?_
  refine w_ops ?_
  refine wo_step (v := (.i .i64 0)) (s_pure (p_mv rfl)) ?_
  refine wo_nil ?_
  refine nx_norm ?_
  refine w_block ?_
  have hq := bindO_inv hr
  clear hr
  obtain ⟨o_2, hl, hr⟩ := hq
  obtain ⟨n, hl⟩ := hM.loop _ _ _ hl
  refine jp_mono (w_loop _ (g78_I0 x0 x1 x2) (g78_J0 x0 x1 x2) ?_ n _ _ _ _ hl ⟨rfl, gl rfl, gl rfl, gl g0, gl g1, gl g2⟩) ?_
  · clear hr hl
    intro s mm_3 t_1 o hi hr
    obtain ⟨x7, x9, m_1⟩ := s
    obtain ⟨rfl, g7, g9, g0, g1, g2⟩ := hi
    unfold g78_b0 at hr
    refine w_seq ?_
    refine w_ops ?_
    have hq := forceB_inv hr
    clear hr
    obtain ⟨c10, e10, hr⟩ := hq
    refine wo_step (v := (.b c10)) (s_pure (p_bin g9 rfl (b_lss.trans (cb e10)))) ?_
    refine wo_nil ?_
    refine nx_norm ?_
    refine w_seq ?_
    have hq := cond_inv hr
    clear hr
    rcases hq with ⟨rfl, hr⟩ | ⟨rfl, hr⟩
    · refine w_condT rfl ?_
      refine w_skip ?_
      refine nx_norm ?_
      refine w_seq ?_
      refine w_block ?_
      refine w_seq ?_
      refine w_ops ?_
      refine wo_step (v := (.i .i64 x9)) (s_pure (p_mv g9)) ?_
      refine wo_step (v := (.i .i64 x9)) (s_pure (p_mv rfl)) ?_
      refine wo_nil ?_
      refine nx_norm ?_
      refine w_seq ?_
      refine w_ops ?_
      refine wo_step (v := (.i .u8 x1)) (s_pure (p_mv g1)) ?_
      refine wo_step (v := (.i .i64 x9)) (s_pure (p_mv rfl)) ?_
      have hq := forceI_inv hr
      clear hr
      obtain ⟨x14, e14, hr⟩ := hq
      refine wo_step (v := (.i .i64 x14)) (s_pure (p_bin rfl rfl ((b_shr rfl).trans (ci e14)))) ?_
      have hq := bindP_inv hr
      clear hr
      obtain ⟨v15, m_2, e15, hr⟩ := hq
      have hq := asB_inv hr
      clear hr
      obtain ⟨c15, rfl, hr⟩ := hq
      refine wo_step (v := (.b c15)) (s_call (mc rfl (mc rfl mn)) (callM_le hM.call e15)) ?_
      refine wo_step (v := (.b c15)) (s_pure (p_mv rfl)) ?_
      have hq := bindO_inv hr
      clear hr
      obtain ⟨o, hr, hk⟩ := hq
      refine wo_join 6 (g78_J1 x0 x1 x2 x7 x9 o) ?_ ?_
      · clear hk
        have hq := cond_inv hr
        clear hr
        rcases hq with ⟨rfl, hr⟩ | ⟨rfl, hr⟩
        · refine wo_take (v := (.i .u8 x0)) rfl (s_pure (p_mv g0)) ?_
          refine wo_take (v := (.i .i64 x9)) rfl (s_pure (p_mv rfl)) ?_
          have hq := bindP_inv hr
          clear hr
          obtain ⟨v19, m_4, e19, hr⟩ := hq
          have hq := asI_inv hr
          clear hr
          obtain ⟨x19, rfl, hr⟩ := hq
          refine wo_take (v := (.i .i64 x19)) rfl (s_call (mc rfl (mc rfl mn)) (callM_le hM.call e19)) ?_
          refine wo_take (v := (.i .i64 x2)) rfl (s_pure (p_mv g2)) ?_
          have hq := forceB_inv hr
          clear hr
          obtain ⟨c21, e21, hr⟩ := hq
          refine wo_take (v := (.b c21)) rfl (s_pure (p_bin rfl rfl (b_eql.trans (cb e21)))) ?_
          refine wo_step (v := (.b c21)) (s_pure (p_pickT rfl rfl)) ?_
          refine wo_nil ?_
          cases hr
          exact ⟨_, _, rfl, rfl, gl rfl, gl g0, gl g1, gl g2, gl g7, gl rfl, gl g9⟩
        · refine wo_skip (v := (.b false)) rfl rfl ?_
          refine wo_skip (v := (.b false)) rfl rfl ?_
          refine wo_skip (v := (.b false)) rfl rfl ?_
          refine wo_skip (v := (.b false)) rfl rfl ?_
          refine wo_skip (v := (.b false)) rfl rfl ?_
          refine wo_step (v := (.b false)) (s_pure (p_pickF rfl rfl)) ?_
          refine wo_nil ?_
          cases hr
          exact ⟨_, _, rfl, rfl, gl rfl, gl g0, gl g1, gl g2, gl g7, gl rfl, gl g9⟩
      · clear hr
        have hr := hk
        clear hk
        obtain ⟨c22, m_3⟩ := o
        rintro mm t_2 ⟨rfl, g22, g0, g1, g2, g7, g8, g9⟩
        refine wo_nil ?_
        refine nx_norm ?_
        have hq := bindO_inv hr
        clear hr
        obtain ⟨o_1, hr, hk⟩ := hq
        refine jp_mono (J := g78_J2 x0 x1 x2 x9 m_3 o_1) ?_ ?_
        · clear hk
          have hq := cond_inv hr
          clear hr
          rcases hq with ⟨rfl, hr⟩ | ⟨rfl, hr⟩
          · refine w_condT g22 ?_
            refine w_ops ?_
            refine wo_step (v := (.i .u8 x7)) (s_pure (p_mv g7)) ?_
            refine wo_step (v := (.i .i64 x9)) (s_pure (p_mv g8)) ?_
            have hq := forceI_inv hr
            clear hr
            obtain ⟨x25, e25, hr⟩ := hq
            refine wo_step (v := (.i .i64 x25)) (s_pure (p_bin rfl rfl (b_and.trans (ci e25)))) ?_
            have hq := chk_inv hr
            clear hr
            obtain ⟨hc26, hr⟩ := hq
            have hq := forceI_inv hr
            clear hr
            obtain ⟨x26, e26, hr⟩ := hq
            refine wo_step (v := (.i .u8 x26)) (s_pure (p_bin rfl rfl ((b_shl hc26).trans (ci e26)))) ?_
            have hq := forceI_inv hr
            clear hr
            obtain ⟨x27, e27, hr⟩ := hq
            refine wo_step (v := (.i .u8 x27)) (s_pure (p_bin rfl rfl (b_or.trans (ci e27)))) ?_
            refine wo_step (v := (.i .u8 x27)) (s_pure (p_mv rfl)) ?_
            refine wo_nil ?_
            cases hr
            exact ⟨_, _, rfl, rfl, rfl, gl rfl, gl g0, gl g1, gl g2, gl g9⟩
          · refine w_condF g22 ?_
            refine w_skip ?_
            cases hr
            exact ⟨_, _, rfl, rfl, rfl, gl g7, gl g0, gl g1, gl g2, gl g9⟩
        · have hr := hk
          clear hk
          obtain ⟨x7_1, ho⟩ : ∃ z, z = o_1 := ⟨_, rfl⟩
          subst ho
          rintro _ mm_1 t_3 ⟨rfl, rfl, g7, g0, g1, g2, g9⟩
          refine bk_norm ?_
          refine nx_norm ?_
          refine w_ops ?_
          have hq := forceI_inv hr
          clear hr
          obtain ⟨x28, e28, hr⟩ := hq
          refine wo_step (v := (.i .i64 x28)) (s_pure (p_bin g9 rfl (b_add.trans (ci e28)))) ?_
          refine wo_step (v := (.i .i64 x28)) (s_pure (p_mv rfl)) ?_
          refine wo_nil ?_
          cases hr
          exact ⟨_, _, rfl, rfl, rfl, gl g7, gl rfl, gl g0, gl g1, gl g2⟩
    · refine w_condF rfl ?_
      refine w_exit ?_
      refine nx_exit ?_
      cases hr
      exact ⟨_, _, rfl, ne_norm_exit, rfl, rfl, gl g7⟩
  · obtain ⟨x7_2, m_5⟩ := o_2
    rintro _ mm_2 t_4 ⟨rfl, rfl, g7⟩
    refine bk_hit ?_
    refine nx_norm ?_
    refine w_seq ?_
    refine w_ops ?_
    refine wo_step (v := (.i .u8 x7_2)) (s_pure (p_mv g7)) ?_
    refine wo_step (v := (.i .u8 x7_2)) (s_pure (p_mv rfl)) ?_
    refine wo_nil ?_
    refine nx_norm ?_
    refine w_ret ?_
    exact qf ret_ok (rt rfl rn) hr

/- (dibber/weed.rule).as -/
abbrev g82_I0 (x0 : Int) (v1 : AVal) (s : Int × Int × Mm) (m1 : Mm) (t1 : Tr) : Prop :=
  match s with
  | (x5, x7, m_1) => m_1 = m1 ∧ t1.get 5 = (.i .u8 x5) ∧ t1.get 7 = (.i .i64 x7) ∧ t1.get 0 = (.i .u8 x0) ∧ t1.get 1 = v1
abbrev g82_J0 (x0 : Int) (v1 : AVal) (o : (Int × Mm)) (e : AExit) (m1 : Mm) (t1 : Tr) : Prop :=
  match o with
  | (y5, mo) => e = (.exit 0) ∧ mo = m1 ∧ t1.get 5 = (.i .u8 y5)
def g82_b0 (M : Means) (ro : List ABlk) (x0 : Int) (v1 : AVal) (x5 : Int) (x7 : Int) (m_1 : Mm) : Option ((Int × Int × Mm) ⊕ ((Int × Mm))) :=
  forceB (ltI x7 8) fun c8 =>
  cond c8 (
    bindP (callvM M.call m_1 v1 [(.i .u8 x0), (.i .i64 x7)]) fun v14 m_2 =>
    asI .i64 v14 fun x14 =>
    forceI (wr .u8 x14) fun x15 =>
    chk (!ltI x7 (.ofNat 0)) <|
    forceI (shlV .u8 x15 x7) fun x17 =>
    forceI (bitV .or .u8 x5 x17) fun x18 =>
    forceI (wr .i64 (x7 + 1)) fun x19 =>
    some (.inl (x18, x19, m_2))) (
    some (.inr (x5, m_1)))
def g82 (M : Means) (ro : List ABlk) (x0 : Int) (v1 : AVal) (m0 : Mm) : Option (AVal × Heap × Nat × Nat) :=
  bindO (M.loop (S := Int × Int × Mm) (R := (Int × Mm)) (fun s => g82_b0 M ro x0 v1 s.1 s.2.1 s.2.2) (0, 0, m0)) fun ⟨x5_1, m_3⟩ =>
  finM m0.h.length (tupA [(.i .u8 x5_1)]) m_3

theorem g82_ok {ro : List ABlk} {O : Caller} {M : Means} (hM : M.Ok ⟨F, O⟩ ro) {x0 v1 h r} (ho : O 82 [(.i .u8 x0), v1] h = none) (hr : g82 M ro x0 v1 ⟨h, h.length, h.length⟩ = some r) : callX ⟨F, O⟩ ro 82 [(.i .u8 x0), v1] h = some r := by
  refine callX_of (F := ⟨F, O⟩) (fn := fn82) (g := g82 M ro x0 v1) ho rfl rfl hr ?_
  clear ho
  clear hr
  intro m0 t0 ht hr
  have g0 : t0.get 0 = (.i .u8 x0) := ht 0
  have g1 : t0.get 1 = v1 := ht 1
  clear ht
  unfold g82 at hr
  refine w_seq ?_
  refine w_ops ?_
  refine wo_step (v := (.i .u8 0)) (s_pure (p_mv rfl)) ?_
  refine wo_nil ?_
  refine nx_norm ?_
  refine w_seq ?_
  refine w_ops ?_
  refine wo_step (v := (.i .u8 0)) (s_pure (p_mv rfl)) ?_
  refine wo_nil ?_
  refine nx_norm ?_
  refine w_seq ?_
  refine w_seq ?_
  refine w_ops ?_
  refine wo_step (v := (.i .i64 0)) (s_pure (p_mv rfl)) ?_
  refine wo_nil ?_
  refine nx_norm ?_
  refine w_block ?_
  have hq := bindO_inv hr
  clear hr
  obtain ⟨o, hl, hr⟩ := hq
  obtain ⟨n, hl⟩ := hM.loop _ _ _ hl
  refine jp_mono (w_loop _ (g82_I0 x0 v1) (g82_J0 x0 v1) ?_ n _ _ _ _ hl ⟨rfl, gl rfl, gl rfl, gl g0, gl g1⟩) ?_
  · clear hr hl
    intro s mm_1 t_1 o hi hr
    obtain ⟨x5, x7, m_1⟩ := s
    obtain ⟨rfl, g5, g7, g0, g1⟩ := hi
    unfold g82_b0 at hr
    refine w_seq ?_
    refine w_ops ?_
    have hq := forceB_inv hr
    clear hr
    obtain ⟨c8, e8, hr⟩ := hq
    refine wo_step (v := (.b c8)) (s_pure (p_bin g7 rfl (b_lss.trans (cb e8)))) ?_
    refine wo_nil ?_
    refine nx_norm ?_
    refine w_seq ?_
    have hq := cond_inv hr
    clear hr
    rcases hq with ⟨rfl, hr⟩ | ⟨rfl, hr⟩
    · refine w_condT rfl ?_
      refine w_skip ?_
      refine nx_norm ?_
      refine w_seq ?_
      refine w_block ?_
      refine w_seq ?_
      refine w_ops ?_
      refine wo_step (v := (.i .i64 x7)) (s_pure (p_mv g7)) ?_
      refine wo_step (v := (.i .i64 x7)) (s_pure (p_mv rfl)) ?_
      refine wo_nil ?_
      refine nx_norm ?_
      refine w_ops ?_
      refine wo_step (v := (.i .u8 x5)) (s_pure (p_mv g5)) ?_
      refine wo_step (v := v1) (s_pure (p_mv g1)) ?_
      refine wo_step (v := (.i .u8 x0)) (s_pure (p_mv g0)) ?_
      refine wo_step (v := (.i .i64 x7)) (s_pure (p_mv rfl)) ?_
      have hq := bindP_inv hr
      clear hr
      obtain ⟨v14, m_2, e14, hr⟩ := hq
      have hq := asI_inv hr
      clear hr
      obtain ⟨x14, rfl, hr⟩ := hq
      refine wo_step (v := (.i .i64 x14)) (s_callv rfl (mc rfl (mc rfl mn)) (callvM_le hM.call e14)) ?_
      have hq := forceI_inv hr
      clear hr
      obtain ⟨x15, e15, hr⟩ := hq
      refine wo_step (v := (.i .u8 x15)) (s_pure ((p_conv rfl).trans (ci e15))) ?_
      refine wo_step (v := (.i .i64 x7)) (s_pure (p_mv rfl)) ?_
      have hq := chk_inv hr
      clear hr
      obtain ⟨hc17, hr⟩ := hq
      have hq := forceI_inv hr
      clear hr
      obtain ⟨x17, e17, hr⟩ := hq
      refine wo_step (v := (.i .u8 x17)) (s_pure (p_bin rfl rfl ((b_shl hc17).trans (ci e17)))) ?_
      have hq := forceI_inv hr
      clear hr
      obtain ⟨x18, e18, hr⟩ := hq
      refine wo_step (v := (.i .u8 x18)) (s_pure (p_bin rfl rfl (b_or.trans (ci e18)))) ?_
      refine wo_step (v := (.i .u8 x18)) (s_pure (p_mv rfl)) ?_
      refine wo_nil ?_
      refine bk_norm ?_
      refine nx_norm ?_
      refine w_ops ?_
      have hq := forceI_inv hr
      clear hr
      obtain ⟨x19, e19, hr⟩ := hq
      refine wo_step (v := (.i .i64 x19)) (s_pure (p_bin g7 rfl (b_add.trans (ci e19)))) ?_
      refine wo_step (v := (.i .i64 x19)) (s_pure (p_mv rfl)) ?_
      refine wo_nil ?_
      cases hr
      exact ⟨_, _, rfl, rfl, rfl, gl rfl, gl rfl, gl g0, gl g1⟩
    · refine w_condF rfl ?_
      refine w_exit ?_
      refine nx_exit ?_
      cases hr
      exact ⟨_, _, rfl, ne_norm_exit, rfl, rfl, gl g5⟩
  · obtain ⟨x5_1, m_3⟩ := o
    rintro _ mm t_2 ⟨rfl, rfl, g5⟩
    refine bk_hit ?_
    refine nx_norm ?_
    refine w_seq ?_
    refine w_ops ?_
    refine wo_step (v := (.i .u8 x5_1)) (s_pure (p_mv g5)) ?_
    refine wo_step (v := (.i .u8 x5_1)) (s_pure (p_mv rfl)) ?_
    refine wo_nil ?_
    refine nx_norm ?_
    refine w_ret ?_
    exact qf ret_ok (rt rfl rn) hr

/- (dibber/weed.rule).nextMirrored -/

def g83 (M : Means) (ro : List ABlk) (x0 : Int) (x1 : Int) (m0 : Mm) : Option (AVal × Heap × Nat × Nat) :=
  forceI (bitV .and .i64 x1 1) fun x7 =>
  forceI (shlV .i64 x7 2) fun x8 =>
  forceI (bitV .and .i64 x1 2) fun x10 =>
  forceI (bitV .or .i64 x8 x10) fun x11 =>
  forceI (shrV .i64 x1 2) fun x13 =>
  forceI (bitV .or .i64 x11 x13) fun x14 =>
  bindP (callM M.call m0 72 [(.i .u8 x0), (.i .i64 x14)]) fun v15 m_1 =>
  asI .i64 v15 fun x15 =>
  finM m0.h.length (tupA [(.i .i64 x15)]) m_1

theorem g83_ok {ro : List ABlk} {O : Caller} {M : Means} (hM : M.Ok ⟨F, O⟩ ro) {x0 x1 h r} (ho : O 83 [(.i .u8 x0), (.i .i64 x1)] h = none) (hr : g83 M ro x0 x1 ⟨h, h.length, h.length⟩ = some r) : callX ⟨F, O⟩ ro 83 [(.i .u8 x0), (.i .i64 x1)] h = some r := by
  refine callX_of (F := ⟨F, O⟩) (fn := fn83) (g := g83 M ro x0 x1) ho rfl rfl hr ?_
  clear ho
  clear hr
  intro m0 t0 ht hr
  have g0 : t0.get 0 = (.i .u8 x0) := ht 0
  have g1 : t0.get 1 = (.i .i64 x1) := ht 1
  clear ht
  unfold g83 at hr
  refine w_seq ?_
  refine w_ops ?_
  refine wo_step (v := (.i .i64 0)) (s_pure (p_mv rfl)) ?_
  refine wo_nil ?_
  refine nx_norm ?_
  refine w_seq ?_
  refine w_ops ?_
  refine wo_step (v := (.i .u8 x0)) (s_pure (p_mv g0)) ?_
  refine wo_step (v := (.i .i64 x1)) (s_pure (p_mv g1)) ?_
  have hq := forceI_inv hr
  clear hr
  obtain ⟨x7, e7, hr⟩ := hq
  refine wo_step (v := (.i .i64 x7)) (s_pure (p_bin rfl rfl (b_and.trans (ci e7)))) ?_
  have hq := forceI_inv hr
  clear hr
  obtain ⟨x8, e8, hr⟩ := hq
  refine wo_step (v := (.i .i64 x8)) (s_pure (p_bin rfl rfl ((b_shl rfl).trans (ci e8)))) ?_
  refine wo_step (v := (.i .i64 x1)) (s_pure (p_mv g1)) ?_
  have hq := forceI_inv hr
  clear hr
  obtain ⟨x10, e10, hr⟩ := hq
  refine wo_step (v := (.i .i64 x10)) (s_pure (p_bin rfl rfl (b_and.trans (ci e10)))) ?_
  have hq := forceI_inv hr
  clear hr
  obtain ⟨x11, e11, hr⟩ := hq
  refine wo_step (v := (.i .i64 x11)) (s_pure (p_bin rfl rfl (b_or.trans (ci e11)))) ?_
  refine wo_step (v := (.i .i64 x1)) (s_pure (p_mv g1)) ?_
  have hq := forceI_inv hr
  clear hr
  obtain ⟨x13, e13, hr⟩ := hq
  refine wo_step (v := (.i .i64 x13)) (s_pure (p_bin rfl rfl ((b_shr rfl).trans (ci e13)))) ?_
  have hq := forceI_inv hr
  clear hr
  obtain ⟨x14, e14, hr⟩ := hq
  refine wo_step (v := (.i .i64 x14)) (s_pure (p_bin rfl rfl (b_or.trans (ci e14)))) ?_
  have hq := bindP_inv hr
  clear hr
  obtain ⟨v15, m_1, e15, hr⟩ := hq
  have hq := asI_inv hr
  clear hr
  obtain ⟨x15, rfl, hr⟩ := hq
  refine wo_step (v := (.i .i64 x15)) (s_call (mc rfl (mc rfl mn)) (callM_le hM.call e15)) ?_
  refine wo_step (v := (.i .i64 x15)) (s_pure (p_mv rfl)) ?_
  refine wo_nil ?_
  refine nx_norm ?_
  refine w_ret ?_
  exact qf ret_ok (rt rfl rn) hr

/- (dibber/weed.rule).nextExchanged -/

def g84 (M : Means) (ro : List ABlk) (x0 : Int) (x1 : Int) (m0 : Mm) : Option (AVal × Heap × Nat × Nat) :=
  forceI (wr .i64 (7 - x1)) fun x7 =>
  bindP (callM M.call m0 72 [(.i .u8 x0), (.i .i64 x7)]) fun v8 m_1 =>
  asI .i64 v8 fun x8 =>
  forceI (wr .i64 (1 - x8)) fun x9 =>
  finM m0.h.length (tupA [(.i .i64 x9)]) m_1

theorem g84_ok {ro : List ABlk} {O : Caller} {M : Means} (hM : M.Ok ⟨F, O⟩ ro) {x0 x1 h r} (ho : O 84 [(.i .u8 x0), (.i .i64 x1)] h = none) (hr : g84 M ro x0 x1 ⟨h, h.length, h.length⟩ = some r) : callX ⟨F, O⟩ ro 84 [(.i .u8 x0), (.i .i64 x1)] h = some r := by
  refine callX_of (F := ⟨F, O⟩) (fn := fn84) (g := g84 M ro x0 x1) ho rfl rfl hr ?_
  clear ho
  clear hr
  intro m0 t0 ht hr
  have g0 : t0.get 0 = (.i .u8 x0) := ht 0
  have g1 : t0.get 1 = (.i .i64 x1) := ht 1
  clear ht
  unfold g84 at hr
  refine w_seq ?_
  refine w_ops ?_
  refine wo_step (v := (.i .i64 0)) (s_pure (p_mv rfl)) ?_
  refine wo_nil ?_
  refine nx_norm ?_
  refine w_seq ?_
  refine w_ops ?_
  refine wo_step (v := (.i .u8 x0)) (s_pure (p_mv g0)) ?_
  refine wo_step (v := (.i .i64 x1)) (s_pure (p_mv g1)) ?_
  have hq := forceI_inv hr
  clear hr
  obtain ⟨x7, e7, hr⟩ := hq
  refine wo_step (v := (.i .i64 x7)) (s_pure (p_bin rfl rfl (b_sub.trans (ci e7)))) ?_
  have hq := bindP_inv hr
  clear hr
  obtain ⟨v8, m_1, e8, hr⟩ := hq
  have hq := asI_inv hr
  clear hr
  obtain ⟨x8, rfl, hr⟩ := hq
  refine wo_step (v := (.i .i64 x8)) (s_call (mc rfl (mc rfl mn)) (callM_le hM.call e8)) ?_
  have hq := forceI_inv hr
  clear hr
  obtain ⟨x9, e9, hr⟩ := hq
  refine wo_step (v := (.i .i64 x9)) (s_pure (p_bin rfl rfl (b_sub.trans (ci e9)))) ?_
  refine wo_step (v := (.i .i64 x9)) (s_pure (p_mv rfl)) ?_
  refine wo_nil ?_
  refine nx_norm ?_
  refine w_ret ?_
  exact qf ret_ok (rt rfl rn) hr

end Go.Proofs.Ytgbkicelkpagpaa.W

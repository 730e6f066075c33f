/- Plain functions, and that the small machine answers as they do. -/
import Derived.Test.YtllmlonngnhbfaaVmP
import Derived.Test.YtllmlonngnhbfaaVmAE
open Go.Vm
set_option linter.unusedVariables false
namespace Go.Proofs.Ytllmlonngnhbfaa.Bed
open Go
/- (dibber/bed.ground).finish -/
abbrev g60_I0 (v0 : AVal) (v3 : AVal) (s : Int × Mm) (m1 : Mm) (t1 : Tr) : Prop :=
  match s with
  | (x5, m_5) => m_5 = m1 ∧ t1.get 5 = (.i .u8 x5) ∧ t1.get 0 = v0 ∧ t1.get 3 = v3
abbrev g60_J0 (v0 : AVal) (v3 : AVal) (o : (Mm ⊕ (Bool × Mm))) (e : AExit) (m1 : Mm) (t1 : Tr) : Prop :=
  match o with
  | (.inl mo) => e = (.exit 0) ∧ mo = m1
  | (.inr (y2, mo)) => e = .ret ∧ mo = m1 ∧ t1.get 2 = (.b y2)
def g60_b0 (M : Means) (ro : List ABlk) (v0 : AVal) (v3 : AVal) (x5 : Int) (m_5 : Mm) : Option ((Int × Mm) ⊕ ((Mm ⊕ (Bool × Mm)))) :=
  forceB (!eqI x5 0) fun c18 =>
  cond c18 (
    bindO (ldA ro m_5.h false 4 v3) fun v23 =>
    bindO (callN M.call m_5.h 85 [(.i .u8 x5)]) fun v25 =>
    asI .i64 v25 fun x25 =>
    bindO (callN M.call m_5.h 84 [v23, (.i .i64 x25)]) fun v26 =>
    bindO (some (AVal.p (some ⟨false, List.length m_5.h, 0⟩))) fun v6 =>
    asP v6 fun qs =>
    chk (Nat.beq (AVal.cells v26).length 3) <|
    bindO (writesM ro [] [(qs, AVal.cells v26)] ⟨(m_5.h ++ [some (blkOf 62 [(AVal.i IntKind.i64 0), (AVal.i IntKind.i64 0), (AVal.i IntKind.i64 0)])]), m_5.lw, m_5.lp⟩) fun m_6 =>
    bindO (ldM ro m_6 false 3 v6) fun v28 =>
    bindP (callM M.call m_6 54 [v0, v28]) fun v29 m_7 =>
    bindP (callM M.call m_7 60 [v0]) fun v31 m_8 =>
    asB v31 fun c31 =>
    cond c31 (
      some (.inr (.inr (true, m_8)))) (
      bindO (ldM ro m_8 false 3 v6) fun v33 =>
      bindP (callM M.call m_8 86 [v0, v33]) fun v34 m_9 =>
      forceI (wr .u8 (x5 - 1)) fun x21 =>
      forceI (bitV .and .u8 x5 x21) fun x22 =>
      some (.inl (x22, m_9)))) (
    some (.inr (.inl m_5)))
def g60 (M : Means) (ro : List ABlk) (v0 : AVal) (m0 : Mm) : Option (AVal × Heap × Nat × Nat) :=
  bindP (callM M.call m0 83 [v0]) fun v9 m_1 =>
  bindO (evP .e (.ext 0 (.c v9))) fun v10 =>
  bindO (evP .e (.ext 1 (.c v9))) fun v11 =>
  asB v11 fun c11 =>
  bindP (stepM ro m_1 (.al 59 [(AVal.i IntKind.i64 0), (AVal.i IntKind.i64 0), (AVal.i IntKind.i64 0), (AVal.i IntKind.i64 0)])) fun v3 m_2 =>
  bindP (stepM ro m_2 (.st 4 (.c v3) (.c v10))) fun vn m_3 =>
  forceB (!c11) fun c13 =>
  cond c13 (
    finM m0.h.length (tupA [(.b true)]) m_3) (
    bindO (ldM ro m_3 false 4 v3) fun v15 =>
    bindP (callM M.call m_3 53 [v0, v15]) fun v16 m_4 =>
    asI .u8 v16 fun x16 =>
    bindO (M.loop (S := Int × Mm) (R := (Mm ⊕ (Bool × Mm))) (fun s => g60_b0 M ro v0 v3 s.1 s.2) (x16, m_4)) fun o => match o with
    | (.inl m_10) =>
      finM m0.h.length (tupA [(.b false)]) m_10
    | (.inr (c2, m_11)) =>
      finM m0.h.length (tupA [(.b c2)]) m_11)

theorem g60_ok {ro : List ABlk} {O : Caller} {M : Means} (hM : M.Ok ⟨F, O⟩ ro) {v0 h r} (ho : O 60 [v0] h = none) (hr : g60 M ro v0 ⟨h, h.length, h.length⟩ = some r) : callX ⟨F, O⟩ ro 60 [v0] h = some r := by
  refine callX_of (F := ⟨F, O⟩) (fn := fn60) (g := g60 M ro v0) ho rfl rfl hr ?_
  clear ho
  clear hr
  intro m0 t0 ht hr
  have g0 : t0.get 0 = v0 := ht 0
  clear ht
  unfold g60 at hr
  refine w_seq ?_
  refine w_ops ?_
  refine wo_step (v := (.b false)) (s_pure (p_mv rfl)) ?_
  refine wo_nil ?_
  refine nx_norm ?_
  refine w_seq ?_
  refine w_ops ?_
  refine wo_step (v := v0) (s_pure (p_mv g0)) ?_
  have hq := bindP_inv hr
  clear hr
  obtain ⟨v9, m_1, e9, hr⟩ := hq
  refine wo_step (v := v9) (s_call (mc rfl mn) (callM_le hM.call e9)) ?_
  refine wo_step (v := v9) (s_pure (p_mv rfl)) ?_
  have hq := bindO_inv hr
  clear hr
  obtain ⟨v10, e10, hr⟩ := hq
  refine wo_step (v := v10) (s_pure (o_ext rfl e10)) ?_
  have hq := bindO_inv hr
  clear hr
  obtain ⟨v11, e11, hr⟩ := hq
  have hq := asB_inv hr
  clear hr
  obtain ⟨c11, rfl, hr⟩ := hq
  refine wo_step (v := (.b c11)) (s_pure (o_ext rfl e11)) ?_
  have hq := bindP_inv hr
  clear hr
  obtain ⟨v3, m_2, e3, hr⟩ := hq
  refine wo_step (v := v3) (s_al e3) ?_
  have hq := bindP_inv hr
  clear hr
  obtain ⟨vn, m_3, en, hr⟩ := hq
  refine wo_stepN (s_st rfl rfl en) ?_
  refine wo_step (v := (.b c11)) (s_pure (p_mv rfl)) ?_
  refine wo_nil ?_
  refine nx_norm ?_
  refine w_seq ?_
  refine w_seq ?_
  refine w_ops ?_
  refine wo_step (v := (.b c11)) (s_pure (p_mv rfl)) ?_
  have hq := forceB_inv hr
  clear hr
  obtain ⟨c13, e13, hr⟩ := hq
  refine wo_step (v := (.b c13)) (s_pure ((p_not rfl).trans (cb e13))) ?_
  refine wo_nil ?_
  refine nx_norm ?_
  have hq := cond_inv hr
  clear hr
  rcases hq with ⟨rfl, hr⟩ | ⟨rfl, hr⟩
  · refine w_condT rfl ?_
    refine w_seq ?_
    refine w_ops ?_
    refine wo_step (v := (.b true)) (s_pure (p_mv rfl)) ?_
    refine wo_nil ?_
    refine nx_norm ?_
    refine w_ret ?_
    refine nx_ret ?_
    exact qf ret_ok (rt rfl rn) hr
  · refine w_condF rfl ?_
    refine w_skip ?_
    refine nx_norm ?_
    refine w_seq ?_
    refine w_seq ?_
    refine w_ops ?_
    refine wo_step (v := v0) (s_pure (p_mv g0)) ?_
    have hq := bindO_inv hr
    clear hr
    obtain ⟨v15, e15, hr⟩ := hq
    refine wo_step (v := v15) (s_ld rfl e15) ?_
    have hq := bindP_inv hr
    clear hr
    obtain ⟨v16, m_4, e16, hr⟩ := hq
    have hq := asI_inv hr
    clear hr
    obtain ⟨x16, rfl, hr⟩ := hq
    refine wo_step (v := (.i .u8 x16)) (s_call (mc rfl (mc rfl mn)) (callM_le hM.call e16)) ?_
    refine wo_step (v := (.i .u8 x16)) (s_pure (p_mv rfl)) ?_
    refine wo_nil ?_
    refine nx_norm ?_
    refine w_block ?_
    have hq := bindO_inv hr
    clear hr
    obtain ⟨o, hl, hr⟩ := hq
    obtain ⟨n, hl⟩ := hM.loop _ _ _ hl
    refine jp_mono (w_loop _ (g60_I0 v0 v3) (g60_J0 v0 v3) ?_ n _ _ _ _ hl ⟨rfl, gl rfl, gl g0, gl rfl⟩) ?_
    · clear hr hl
      intro s mm_2 t_1 o hi hr
      obtain ⟨x5, m_5⟩ := s
      obtain ⟨rfl, g5, g0, g3⟩ := hi
      unfold g60_b0 at hr
      refine w_seq ?_
      refine w_seq ?_
      refine w_ops ?_
      refine wo_step (v := (.i .u8 x5)) (s_pure (p_mv g5)) ?_
      have hq := forceB_inv hr
      clear hr
      obtain ⟨c18, e18, hr⟩ := hq
      refine wo_step (v := (.b c18)) (s_pure (p_bin rfl rfl (b_neq.trans (cb e18)))) ?_
      refine wo_nil ?_
      refine nx_norm ?_
      have hq := cond_inv hr
      clear hr
      rcases hq with ⟨rfl, hr⟩ | ⟨rfl, hr⟩
      · refine w_condT rfl ?_
        refine w_skip ?_
        refine nx_norm ?_
        refine w_seq ?_
        refine w_block ?_
        refine w_seq ?_
        refine w_any ?_
        have hq := bindO_inv hr
        clear hr
        obtain ⟨v23, e23, hr⟩ := hq
        refine wa_step (v := v23) (a_ld g3 e23) ?_
        refine wa_step (v := (.i .u8 x5)) (a_pure (p_mv g5)) ?_
        have hq := bindO_inv hr
        clear hr
        obtain ⟨v25, e25, hr⟩ := hq
        have hq := asI_inv hr
        clear hr
        obtain ⟨x25, rfl, hr⟩ := hq
        refine wa_step (v := (.i .i64 x25)) (a_call (mc rfl mn) (callN_le hM.call e25)) ?_
        have hq := bindO_inv hr
        clear hr
        obtain ⟨v26, e26, hr⟩ := hq
        refine wa_step (v := v26) (a_call (mc rfl (mc rfl mn)) (callN_le hM.call e26)) ?_
        have hq := bindO_inv hr
        clear hr
        obtain ⟨v6, e6, hr⟩ := hq
        refine wa_step (v := v6) (a_al' e6) ?_
        have hq := asP_inv hr
        clear hr
        obtain ⟨qs, eqs, hr⟩ := hq
        have hq := chk_inv hr
        clear hr
        obtain ⟨hcs, hr⟩ := hq
        refine wa_stepN (a_st (Eq.trans (b := v6) rfl eqs) rfl hcs) ?_
        have hq := bindO_inv hr
        clear hr
        obtain ⟨m_6, ew, hr⟩ := hq
        refine wa_nil ?_
        refine ⟨m_6, ew, ?_⟩
        refine nx_norm ?_
        refine w_seq ?_
        refine w_ops ?_
        refine wo_step (v := v0) (s_pure (p_mv g0)) ?_
        have hq := bindO_inv hr
        clear hr
        obtain ⟨v28, e28, hr⟩ := hq
        refine wo_step (v := v28) (s_ld rfl e28) ?_
        have hq := bindP_inv hr
        clear hr
        obtain ⟨v29, m_7, e29, hr⟩ := hq
        refine wo_step (v := v29) (s_call (mc rfl (mc rfl mn)) (callM_le hM.call e29)) ?_
        refine wo_nil ?_
        refine nx_norm ?_
        refine w_seq ?_
        refine w_seq ?_
        refine w_ops ?_
        refine wo_step (v := v0) (s_pure (p_mv g0)) ?_
        have hq := bindP_inv hr
        clear hr
        obtain ⟨v31, m_8, e31, hr⟩ := hq
        have hq := asB_inv hr
        clear hr
        obtain ⟨c31, rfl, hr⟩ := hq
        refine wo_step (v := (.b c31)) (s_call (mc rfl mn) (callM_le hM.call e31)) ?_
        refine wo_nil ?_
        refine nx_norm ?_
        have hq := cond_inv hr
        clear hr
        rcases hq with ⟨rfl, hr⟩ | ⟨rfl, hr⟩
        · refine w_condT rfl ?_
          refine w_seq ?_
          refine w_ops ?_
          refine wo_step (v := (.b true)) (s_pure (p_mv rfl)) ?_
          refine wo_nil ?_
          refine nx_norm ?_
          refine w_ret ?_
          refine nx_ret ?_
          refine bk_ret ?_
          refine nx_ret ?_
          cases hr
          exact ⟨_, _, rfl, ne_norm_ret, rfl, rfl, gl rfl⟩
        · refine w_condF rfl ?_
          refine w_skip ?_
          refine nx_norm ?_
          refine w_ops ?_
          refine wo_step (v := v0) (s_pure (p_mv g0)) ?_
          have hq := bindO_inv hr
          clear hr
          obtain ⟨v33, e33, hr⟩ := hq
          refine wo_step (v := v33) (s_ld rfl e33) ?_
          have hq := bindP_inv hr
          clear hr
          obtain ⟨v34, m_9, e34, hr⟩ := hq
          refine wo_step (v := v34) (s_call (mc rfl (mc rfl mn)) (callM_le hM.call e34)) ?_
          refine wo_nil ?_
          refine bk_norm ?_
          refine nx_norm ?_
          refine w_ops ?_
          refine wo_step (v := (.i .u8 x5)) (s_pure (p_mv g5)) ?_
          refine wo_step (v := (.i .u8 x5)) (s_pure (p_mv g5)) ?_
          have hq := forceI_inv hr
          clear hr
          obtain ⟨x21, e21, hr⟩ := hq
          refine wo_step (v := (.i .u8 x21)) (s_pure (p_bin rfl rfl (b_sub.trans (ci e21)))) ?_
          have hq := forceI_inv hr
          clear hr
          obtain ⟨x22, e22, hr⟩ := hq
          refine wo_step (v := (.i .u8 x22)) (s_pure (p_bin rfl rfl (b_and.trans (ci e22)))) ?_
          refine wo_step (v := (.i .u8 x22)) (s_pure (p_mv rfl)) ?_
          refine wo_nil ?_
          cases hr
          exact ⟨_, _, rfl, rfl, rfl, gl rfl, gl g0, gl g3⟩
      · refine w_condF rfl ?_
        refine w_exit ?_
        refine nx_exit ?_
        cases hr
        exact ⟨_, _, rfl, ne_norm_exit, rfl, rfl⟩
    · rcases o with o | o
      · obtain ⟨m_10, ho⟩ : ∃ z, z = o := ⟨_, rfl⟩
        subst ho
        rintro _ mm t_2 ⟨rfl, rfl⟩
        refine bk_hit ?_
        refine nx_norm ?_
        refine w_seq ?_
        refine w_ops ?_
        refine wo_step (v := (.b false)) (s_pure (p_mv rfl)) ?_
        refine wo_nil ?_
        refine nx_norm ?_
        refine w_ret ?_
        exact qf ret_ok (rt rfl rn) hr
      · obtain ⟨c2, m_11⟩ := o
        rintro _ mm_1 t_3 ⟨rfl, rfl, g2⟩
        refine bk_ret ?_
        refine nx_ret ?_
        exact qf ret_ok (rt g2 rn) hr

/- (dibber/bed.ground).sowLeast -/
abbrev g61_I0 (v0 : AVal) (x1 : Int) (x2 : Int) (v3 : AVal) (x19 : Int) (s : Int × Mm) (m1 : Mm) (t1 : Tr) : Prop :=
  match s with
  | (x9, m_2) => m_2 = m1 ∧ t1.get 9 = (.i .u8 x9) ∧ t1.get 0 = v0 ∧ t1.get 1 = (.i .i64 x1) ∧ t1.get 2 = (.i .i64 x2) ∧ t1.get 3 = v3 ∧ t1.get 8 = (.i .i64 x19)
abbrev g61_J0 (v0 : AVal) (x1 : Int) (x2 : Int) (v3 : AVal) (x19 : Int) (o : (Mm ⊕ Mm)) (e : AExit) (m1 : Mm) (t1 : Tr) : Prop :=
  match o with
  | (.inl mo) => e = (.exit 0) ∧ mo = m1
  | (.inr mo) => e = .ret ∧ mo = m1
def g61_b0 (M : Means) (ro : List ABlk) (v0 : AVal) (x1 : Int) (x2 : Int) (v3 : AVal) (x19 : Int) (x9 : Int) (m_2 : Mm) : Option ((Int × Mm) ⊕ ((Mm ⊕ Mm))) :=
  forceB (!eqI x9 0) fun c26 =>
  cond c26 (
    bindP (callM M.call m_2 85 [(.i .u8 x9)]) fun v34 m_3 =>
    asI .i64 v34 fun x34 =>
    bindO ((fillA [(AVal.i IntKind.i64 0), (AVal.i IntKind.i64 0), (AVal.i IntKind.i64 0)] [((0, 1), (.i .i64 x1)), ((1, 1), (.i .i64 x2)), ((2, 1), (.i .i64 x34))]).map AVal.agg) fun v35 =>
    bindP (stepM ro m_3 (.al 62 [(AVal.i IntKind.i64 0), (AVal.i IntKind.i64 0), (AVal.i IntKind.i64 0)])) fun v10 m_4 =>
    bindP (stepM ro m_4 (.st 3 (.c v10) (.c v35))) fun vn m_5 =>
    bindO (ldM ro m_5 false 3 v10) fun v37 =>
    bindP (callM M.call m_5 54 [v0, v37]) fun v38 m_6 =>
    bindO (evP .e (.ixA 3 1 (.c v10) (.c (.i .i64 2)))) fun v39 =>
    bindO (ldM ro m_6 true 1 v39) fun v40 =>
    asI .i64 v40 fun x40 =>
    forceB (eqI x40 x19) fun c42 =>
    cond c42 (
      some (.inr (.inr m_6))) (
      bindO (evP .e (.nilck (.c v0))) fun v44 =>
      bindO (ldM ro m_6 false 113 v44) fun v45 =>
      bindP (stepM ro m_6 (.al 75 [(AVal.i IntKind.i64 0), (AVal.i IntKind.i64 0), (AVal.i IntKind.i64 0), (AVal.i IntKind.i64 0), (AVal.i IntKind.i64 0), (AVal.i IntKind.i64 0), (AVal.i IntKind.i64 0), (AVal.i IntKind.i64 0), (AVal.i IntKind.i64 0), (AVal.i IntKind.i64 0), (AVal.i IntKind.i64 0), (AVal.i IntKind.i64 0), (AVal.i IntKind.i64 0), (AVal.i IntKind.i64 0), (AVal.i IntKind.i64 0), (AVal.i IntKind.i64 0), (AVal.i IntKind.i64 0), (AVal.i IntKind.i64 0), (AVal.i IntKind.i64 0), (AVal.i IntKind.i64 0), (AVal.i IntKind.i64 0), (AVal.i IntKind.i64 0), (AVal.i IntKind.i64 0), (AVal.i IntKind.i64 0), (AVal.i IntKind.i64 0), (AVal.i IntKind.i64 0), (AVal.i IntKind.i64 0), (AVal.i IntKind.i64 0), (AVal.i IntKind.i64 0), (AVal.i IntKind.i64 0), (AVal.i IntKind.i64 0), (AVal.i IntKind.i64 0), (AVal.i IntKind.i64 0), (AVal.i IntKind.i64 0), (AVal.i IntKind.i64 0), (AVal.i IntKind.i64 0), (AVal.i IntKind.i64 0), (AVal.i IntKind.i64 0), (AVal.i IntKind.i64 0), (AVal.i IntKind.i64 0), (AVal.i IntKind.i64 0), (AVal.i IntKind.i64 0), (AVal.i IntKind.i64 0), (AVal.i IntKind.i64 0), (AVal.i IntKind.i64 0), (AVal.i IntKind.i64 0), (AVal.i IntKind.i64 0), (AVal.i IntKind.i64 0), (AVal.i IntKind.i64 0), (AVal.i IntKind.i64 0), (AVal.i IntKind.u8 0), (AVal.i IntKind.u8 0), (AVal.i IntKind.u8 0), (AVal.i IntKind.u8 0), (AVal.i IntKind.u8 0), (AVal.i IntKind.u8 0), (AVal.i IntKind.u8 0), (AVal.i IntKind.u8 0), (AVal.i IntKind.u8 0), (AVal.i IntKind.u8 0), (AVal.i IntKind.u8 0), (AVal.i IntKind.u8 0), (AVal.i IntKind.u8 0), (AVal.i IntKind.u8 0), (AVal.i IntKind.u8 0), (AVal.i IntKind.u8 0), (AVal.i IntKind.u8 0), (AVal.i IntKind.u8 0), (AVal.i IntKind.u8 0), (AVal.i IntKind.u8 0), (AVal.i IntKind.u8 0), (AVal.i IntKind.u8 0), (AVal.i IntKind.u8 0), (AVal.i IntKind.u8 0), (AVal.i IntKind.u8 0), (AVal.i IntKind.u8 0), (AVal.i IntKind.u8 0), (AVal.i IntKind.u8 0), (AVal.i IntKind.u8 0), (AVal.i IntKind.u8 0), (AVal.i IntKind.u8 0), (AVal.i IntKind.u8 0), (AVal.i IntKind.u8 0), (AVal.i IntKind.u8 0), (AVal.i IntKind.u8 0), (AVal.i IntKind.u8 0), (AVal.i IntKind.u8 0), (AVal.i IntKind.u8 0), (AVal.i IntKind.u8 0), (AVal.i IntKind.u8 0), (AVal.i IntKind.u8 0), (AVal.i IntKind.u8 0), (AVal.i IntKind.u8 0), (AVal.i IntKind.u8 0), (AVal.i IntKind.u8 0), (AVal.i IntKind.u8 0), (AVal.i IntKind.u8 0), (AVal.i IntKind.u8 0), (AVal.i IntKind.u8 0), (AVal.i IntKind.u8 0), (AVal.i IntKind.u8 0), (AVal.i IntKind.u8 0), (AVal.i IntKind.u8 0), (AVal.i IntKind.u8 0), (AVal.i IntKind.u8 0), (AVal.i IntKind.u8 0), (AVal.i IntKind.u8 0), (AVal.i IntKind.u8 0), (AVal.i IntKind.u8 0), (AVal.i IntKind.u8 0), (AVal.i IntKind.u8 0), (AVal.i IntKind.u8 0), (AVal.i IntKind.u8 0)])) fun v11 m_7 =>
      bindP (stepM ro m_7 (.st 113 (.c v11) (.c v45))) fun vn_1 m_8 =>
      bindP (callM M.call m_8 60 [v11]) fun v46 m_9 =>
      asB v46 fun c46 =>
      cond c46 (
        bindO (ldM ro m_9 false 113 v11) fun v48 =>
        bindO (evP .e (.nilck (.c v3))) fun v49 =>
        bindP (stepM ro m_9 (.st 113 (.c v49) (.c v48))) fun vn_2 m_10 =>
        some (.inr (.inr m_10))) (
        bindO (ldM ro m_9 false 3 v10) fun v51 =>
        bindP (callM M.call m_9 86 [v0, v51]) fun v52 m_11 =>
        forceI (wr .u8 (x9 - 1)) fun x29 =>
        forceI (bitV .and .u8 x9 x29) fun x30 =>
        some (.inl (x30, m_11))))) (
    some (.inr (.inl m_2)))
def g61 (M : Means) (ro : List ABlk) (v0 : AVal) (x1 : Int) (x2 : Int) (v3 : AVal) (m0 : Mm) : Option (AVal × Heap × Nat × Nat) :=
  bindO (evP .e (.nilck (.c v3))) fun v15 =>
  bindO (evP .e (.faddr 1 (.c v15))) fun v16 =>
  bindO (evP .e (.ixA 7 7 (.c v16) (.c (.i .i64 x1)))) fun v17 =>
  bindO (evP .e (.ixA 7 1 (.c v17) (.c (.i .i64 x2)))) fun v18 =>
  bindO (ldM ro m0 true 1 v18) fun v19 =>
  asI .i64 v19 fun x19 =>
  bindO ((fillA [(AVal.i IntKind.i64 0), (AVal.i IntKind.i64 0), (AVal.i IntKind.i64 0), (AVal.i IntKind.i64 0)] [((0, 1), (.i .i64 0)), ((1, 1), (.i .i64 x1)), ((2, 1), (.i .i64 1)), ((3, 1), (.i .i64 x2))]).map AVal.agg) fun v23 =>
  bindP (callM M.call m0 53 [v0, v23]) fun v24 m_1 =>
  asI .u8 v24 fun x24 =>
  bindO (M.loop (S := Int × Mm) (R := (Mm ⊕ Mm)) (fun s => g61_b0 M ro v0 x1 x2 v3 x19 s.1 s.2) (x24, m_1)) fun o => match o with
  | (.inl m_12) =>
    finM m0.h.length (tupA []) m_12
  | (.inr m_13) =>
    finM m0.h.length (tupA []) m_13

theorem g61_ok {ro : List ABlk} {O : Caller} {M : Means} (hM : M.Ok ⟨F, O⟩ ro) {v0 x1 x2 v3 h r} (ho : O 61 [v0, (.i .i64 x1), (.i .i64 x2), v3] h = none) (hr : g61 M ro v0 x1 x2 v3 ⟨h, h.length, h.length⟩ = some r) : callX ⟨F, O⟩ ro 61 [v0, (.i .i64 x1), (.i .i64 x2), v3] h = some r := by
  refine callX_of (F := ⟨F, O⟩) (fn := fn61) (g := g61 M ro v0 x1 x2 v3) ho rfl rfl hr ?_
  clear ho
  clear hr
  intro m0 t0 ht hr
  have g0 : t0.get 0 = v0 := ht 0
  have g1 : t0.get 1 = (.i .i64 x1) := ht 1
  have g2 : t0.get 2 = (.i .i64 x2) := ht 2
  have g3 : t0.get 3 = v3 := ht 3
  clear ht
  unfold g61 at hr
  refine w_seq ?_
  refine w_ops ?_
  refine wo_step (v := v3) (s_pure (p_mv g3)) ?_
  refine wo_step (v := (.i .i64 x1)) (s_pure (p_mv g1)) ?_
  refine wo_step (v := (.i .i64 x2)) (s_pure (p_mv g2)) ?_
  have hq := bindO_inv hr
  clear hr
  obtain ⟨v15, e15, hr⟩ := hq
  refine wo_step (v := v15) (s_pure (o_nilck rfl e15)) ?_
  have hq := bindO_inv hr
  clear hr
  obtain ⟨v16, e16, hr⟩ := hq
  refine wo_step (v := v16) (s_pure (o_faddr rfl e16)) ?_
  have hq := bindO_inv hr
  clear hr
  obtain ⟨v17, e17, hr⟩ := hq
  refine wo_step (v := v17) (s_pure (o_ixA rfl rfl e17)) ?_
  have hq := bindO_inv hr
  clear hr
  obtain ⟨v18, e18, hr⟩ := hq
  refine wo_step (v := v18) (s_pure (o_ixA rfl rfl e18)) ?_
  have hq := bindO_inv hr
  clear hr
  obtain ⟨v19, e19, hr⟩ := hq
  have hq := asI_inv hr
  clear hr
  obtain ⟨x19, rfl, hr⟩ := hq
  refine wo_step (v := (.i .i64 x19)) (s_ld rfl e19) ?_
  refine wo_step (v := (.i .i64 x19)) (s_pure (p_mv rfl)) ?_
  refine wo_nil ?_
  refine nx_norm ?_
  refine w_seq ?_
  refine w_ops ?_
  refine wo_step (v := v0) (s_pure (p_mv g0)) ?_
  refine wo_step (v := (.i .i64 x1)) (s_pure (p_mv g1)) ?_
  refine wo_step (v := (.i .i64 x2)) (s_pure (p_mv g2)) ?_
  have hq := bindO_inv hr
  clear hr
  obtain ⟨v23, e23, hr⟩ := hq
  refine wo_step (v := v23) (s_pure (o_build (qc rfl (qc rfl (qc rfl (qc rfl qn)))) e23)) ?_
  have hq := bindP_inv hr
  clear hr
  obtain ⟨v24, m_1, e24, hr⟩ := hq
  have hq := asI_inv hr
  clear hr
  obtain ⟨x24, rfl, hr⟩ := hq
  refine wo_step (v := (.i .u8 x24)) (s_call (mc rfl (mc rfl mn)) (callM_le hM.call e24)) ?_
  refine wo_step (v := (.i .u8 x24)) (s_pure (p_mv rfl)) ?_
  refine wo_nil ?_
  refine nx_norm ?_
  refine w_block ?_
  have hq := bindO_inv hr
  clear hr
  obtain ⟨o, hl, hr⟩ := hq
  obtain ⟨n, hl⟩ := hM.loop _ _ _ hl
  refine jp_mono (w_loop _ (g61_I0 v0 x1 x2 v3 x19) (g61_J0 v0 x1 x2 v3 x19) ?_ n _ _ _ _ hl ⟨rfl, gl rfl, gl g0, gl g1, gl g2, gl g3, gl rfl⟩) ?_
  · clear hr hl
    intro s mm_2 t_1 o hi hr
    obtain ⟨x9, m_2⟩ := s
    obtain ⟨rfl, g9, g0, g1, g2, g3, g8⟩ := hi
    unfold g61_b0 at hr
    refine w_seq ?_
    refine w_seq ?_
    refine w_ops ?_
    refine wo_step (v := (.i .u8 x9)) (s_pure (p_mv g9)) ?_
    have hq := forceB_inv hr
    clear hr
    obtain ⟨c26, e26, hr⟩ := hq
    refine wo_step (v := (.b c26)) (s_pure (p_bin rfl rfl (b_neq.trans (cb e26)))) ?_
    refine wo_nil ?_
    refine nx_norm ?_
    have hq := cond_inv hr
    clear hr
    rcases hq with ⟨rfl, hr⟩ | ⟨rfl, hr⟩
    · refine w_condT rfl ?_
      refine w_skip ?_
      refine nx_norm ?_
      refine w_seq ?_
      refine w_block ?_
      refine w_seq ?_
      refine w_ops ?_
      refine wo_step (v := (.i .i64 x1)) (s_pure (p_mv g1)) ?_
      refine wo_step (v := (.i .i64 x2)) (s_pure (p_mv g2)) ?_
      refine wo_step (v := (.i .u8 x9)) (s_pure (p_mv g9)) ?_
      have hq := bindP_inv hr
      clear hr
      obtain ⟨v34, m_3, e34, hr⟩ := hq
      have hq := asI_inv hr
      clear hr
      obtain ⟨x34, rfl, hr⟩ := hq
      refine wo_step (v := (.i .i64 x34)) (s_call (mc rfl mn) (callM_le hM.call e34)) ?_
      have hq := bindO_inv hr
      clear hr
      obtain ⟨v35, e35, hr⟩ := hq
      refine wo_step (v := v35) (s_pure (o_build (qc rfl (qc rfl (qc rfl qn))) e35)) ?_
      have hq := bindP_inv hr
      clear hr
      obtain ⟨v10, m_4, e10, hr⟩ := hq
      refine wo_step (v := v10) (s_al e10) ?_
      have hq := bindP_inv hr
      clear hr
      obtain ⟨vn, m_5, en, hr⟩ := hq
      refine wo_stepN (s_st rfl rfl en) ?_
      refine wo_nil ?_
      refine nx_norm ?_
      refine w_seq ?_
      refine w_ops ?_
      refine wo_step (v := v0) (s_pure (p_mv g0)) ?_
      have hq := bindO_inv hr
      clear hr
      obtain ⟨v37, e37, hr⟩ := hq
      refine wo_step (v := v37) (s_ld rfl e37) ?_
      have hq := bindP_inv hr
      clear hr
      obtain ⟨v38, m_6, e38, hr⟩ := hq
      refine wo_step (v := v38) (s_call (mc rfl (mc rfl mn)) (callM_le hM.call e38)) ?_
      refine wo_nil ?_
      refine nx_norm ?_
      refine w_seq ?_
      refine w_seq ?_
      refine w_ops ?_
      have hq := bindO_inv hr
      clear hr
      obtain ⟨v39, e39, hr⟩ := hq
      refine wo_step (v := v39) (s_pure (o_ixA rfl rfl e39)) ?_
      have hq := bindO_inv hr
      clear hr
      obtain ⟨v40, e40, hr⟩ := hq
      have hq := asI_inv hr
      clear hr
      obtain ⟨x40, rfl, hr⟩ := hq
      refine wo_step (v := (.i .i64 x40)) (s_ld rfl e40) ?_
      refine wo_step (v := (.i .i64 x19)) (s_pure (p_mv g8)) ?_
      have hq := forceB_inv hr
      clear hr
      obtain ⟨c42, e42, hr⟩ := hq
      refine wo_step (v := (.b c42)) (s_pure (p_bin rfl rfl (b_eql.trans (cb e42)))) ?_
      refine wo_nil ?_
      refine nx_norm ?_
      have hq := cond_inv hr
      clear hr
      rcases hq with ⟨rfl, hr⟩ | ⟨rfl, hr⟩
      · refine w_condT rfl ?_
        refine w_ret ?_
        refine nx_ret ?_
        refine bk_ret ?_
        refine nx_ret ?_
        cases hr
        exact ⟨_, _, rfl, ne_norm_ret, rfl, rfl⟩
      · refine w_condF rfl ?_
        refine w_skip ?_
        refine nx_norm ?_
        refine w_seq ?_
        refine w_ops ?_
        refine wo_step (v := v0) (s_pure (p_mv g0)) ?_
        have hq := bindO_inv hr
        clear hr
        obtain ⟨v44, e44, hr⟩ := hq
        refine wo_step (v := v44) (s_pure (o_nilck rfl e44)) ?_
        have hq := bindO_inv hr
        clear hr
        obtain ⟨v45, e45, hr⟩ := hq
        refine wo_step (v := v45) (s_ld rfl e45) ?_
        have hq := bindP_inv hr
        clear hr
        obtain ⟨v11, m_7, e11, hr⟩ := hq
        refine wo_step (v := v11) (s_al e11) ?_
        have hq := bindP_inv hr
        clear hr
        obtain ⟨vn_1, m_8, en_1, hr⟩ := hq
        refine wo_stepN (s_st rfl rfl en_1) ?_
        refine wo_nil ?_
        refine nx_norm ?_
        refine w_seq ?_
        refine w_seq ?_
        refine w_ops ?_
        have hq := bindP_inv hr
        clear hr
        obtain ⟨v46, m_9, e46, hr⟩ := hq
        have hq := asB_inv hr
        clear hr
        obtain ⟨c46, rfl, hr⟩ := hq
        refine wo_step (v := (.b c46)) (s_call (mc rfl mn) (callM_le hM.call e46)) ?_
        refine wo_nil ?_
        refine nx_norm ?_
        have hq := cond_inv hr
        clear hr
        rcases hq with ⟨rfl, hr⟩ | ⟨rfl, hr⟩
        · refine w_condT rfl ?_
          refine w_seq ?_
          refine w_ops ?_
          refine wo_step (v := v3) (s_pure (p_mv g3)) ?_
          have hq := bindO_inv hr
          clear hr
          obtain ⟨v48, e48, hr⟩ := hq
          refine wo_step (v := v48) (s_ld rfl e48) ?_
          have hq := bindO_inv hr
          clear hr
          obtain ⟨v49, e49, hr⟩ := hq
          refine wo_step (v := v49) (s_pure (o_nilck rfl e49)) ?_
          have hq := bindP_inv hr
          clear hr
          obtain ⟨vn_2, m_10, en_2, hr⟩ := hq
          refine wo_stepN (s_st rfl rfl en_2) ?_
          refine wo_nil ?_
          refine nx_norm ?_
          refine w_ret ?_
          refine nx_ret ?_
          refine bk_ret ?_
          refine nx_ret ?_
          cases hr
          exact ⟨_, _, rfl, ne_norm_ret, rfl, rfl⟩
        · refine w_condF rfl ?_
          refine w_skip ?_
          refine nx_norm ?_
          refine w_ops ?_
          refine wo_step (v := v0) (s_pure (p_mv g0)) ?_
          have hq := bindO_inv hr
          clear hr
          obtain ⟨v51, e51, hr⟩ := hq
          refine wo_step (v := v51) (s_ld rfl e51) ?_
          have hq := bindP_inv hr
          clear hr
          obtain ⟨v52, m_11, e52, hr⟩ := hq
          refine wo_step (v := v52) (s_call (mc rfl (mc rfl mn)) (callM_le hM.call e52)) ?_
          refine wo_nil ?_
          refine bk_norm ?_
          refine nx_norm ?_
          refine w_ops ?_
          refine wo_step (v := (.i .u8 x9)) (s_pure (p_mv g9)) ?_
          refine wo_step (v := (.i .u8 x9)) (s_pure (p_mv g9)) ?_
          have hq := forceI_inv hr
          clear hr
          obtain ⟨x29, e29, hr⟩ := hq
          refine wo_step (v := (.i .u8 x29)) (s_pure (p_bin rfl rfl (b_sub.trans (ci e29)))) ?_
          have hq := forceI_inv hr
          clear hr
          obtain ⟨x30, e30, hr⟩ := hq
          refine wo_step (v := (.i .u8 x30)) (s_pure (p_bin rfl rfl (b_and.trans (ci e30)))) ?_
          refine wo_step (v := (.i .u8 x30)) (s_pure (p_mv rfl)) ?_
          refine wo_nil ?_
          cases hr
          exact ⟨_, _, rfl, rfl, rfl, gl rfl, gl g0, gl g1, gl g2, gl g3, gl g8⟩
    · refine w_condF rfl ?_
      refine w_exit ?_
      refine nx_exit ?_
      cases hr
      exact ⟨_, _, rfl, ne_norm_exit, rfl, rfl⟩
  · rcases o with o | o
    · obtain ⟨m_12, ho⟩ : ∃ z, z = o := ⟨_, rfl⟩
      subst ho
      rintro _ mm t_2 ⟨rfl, rfl⟩
      refine bk_hit ?_
      exact qf norm_ok rn hr
    · obtain ⟨m_13, ho⟩ : ∃ z, z = o := ⟨_, rfl⟩
      subst ho
      rintro _ mm_1 t_3 ⟨rfl, rfl⟩
      refine bk_ret ?_
      exact qf ret_ok rn hr

/- (dibber/bed.ground).bed -/
abbrev g62_I0 (v0 : AVal) (v9 : AVal) (x11 : Int) (s : Int × Mm) (m1 : Mm) (t1 : Tr) : Prop :=
  match s with
  | (x12, m_2) => m_2 = m1 ∧ t1.get 12 = (.i .i64 x12) ∧ t1.get 0 = v0 ∧ t1.get 3 = v9 ∧ t1.get 11 = (.i .i64 x11)
abbrev g62_J0 (v0 : AVal) (v9 : AVal) (x11 : Int) (o : Mm) (e : AExit) (m1 : Mm) (t1 : Tr) : Prop :=
  match o with
  | mo => e = (.exit 0) ∧ mo = m1 ∧ t1.get 3 = v9
def g62_b0 (M : Means) (ro : List ABlk) (v0 : AVal) (v9 : AVal) (x11 : Int) (x12 : Int) (m_2 : Mm) : Option ((Int × Mm) ⊕ (Mm)) :=
  forceB (ltI x12 x11) fun c13 =>
  cond c13 (
    bindP (callM M.call m_2 68 [v0, (.i .i64 x12)]) fun v19 m_3 =>
    bindO (evP .e (.ixS 1 (.c v9) (.c (.i .i64 x12)))) fun v20 =>
    bindP (stepM ro m_3 (.st 1 (.c v20) (.c v19))) fun vn m_4 =>
    forceI (wr .i64 (x12 + 1)) fun x21 =>
    some (.inl (x21, m_4))) (
    some (.inr m_2))
def g62 (M : Means) (ro : List ABlk) (v0 : AVal) (m0 : Mm) : Option (AVal × Heap × Nat × Nat) :=
  bindO (evP .e (.nilck (.c v0))) fun v6 =>
  bindO (evP .e (.faddr 0 (.c v6))) fun v7 =>
  bindO (ldM ro m0 true 1 v7) fun v8 =>
  asI .i64 v8 fun x8 =>
  bindP (stepM ro m0 (.mk 32 1 24 [AVal.nsl] (.c (.i .i64 x8)) (.c (.i .i64 x8)))) fun v9 m_1 =>
  bindO (evP .e (.len false (.c v9))) fun v11 =>
  asI .i64 v11 fun x11 =>
  bindO (M.loop (S := Int × Mm) (R := Mm) (fun s => g62_b0 M ro v0 v9 x11 s.1 s.2) (0, m_1)) fun m_5 =>
  finM m0.h.length (tupA [v9]) m_5

theorem g62_ok {ro : List ABlk} {O : Caller} {M : Means} (hM : M.Ok ⟨F, O⟩ ro) {v0 h r} (ho : O 62 [v0] h = none) (hr : g62 M ro v0 ⟨h, h.length, h.length⟩ = some r) : callX ⟨F, O⟩ ro 62 [v0] h = some r := by
  refine callX_of (F := ⟨F, O⟩) (fn := fn62) (g := g62 M ro v0) ho rfl rfl hr ?_
  clear ho
  clear hr
  intro m0 t0 ht hr
  have g0 : t0.get 0 = v0 := ht 0
  clear ht
  unfold g62 at hr
  refine w_seq ?_
  refine w_ops ?_
  refine wo_step (v := AVal.nsl) (s_pure (p_mv rfl)) ?_
  refine wo_nil ?_
  refine nx_norm ?_
  refine w_seq ?_
  refine w_ops ?_
  refine wo_step (v := v0) (s_pure (p_mv g0)) ?_
  have hq := bindO_inv hr
  clear hr
  obtain ⟨v6, e6, hr⟩ := hq
  refine wo_step (v := v6) (s_pure (o_nilck rfl e6)) ?_
  have hq := bindO_inv hr
  clear hr
  obtain ⟨v7, e7, hr⟩ := hq
  refine wo_step (v := v7) (s_pure (o_faddr rfl e7)) ?_
  have hq := bindO_inv hr
  clear hr
  obtain ⟨v8, e8, hr⟩ := hq
  have hq := asI_inv hr
  clear hr
  obtain ⟨x8, rfl, hr⟩ := hq
  refine wo_step (v := (.i .i64 x8)) (s_ld rfl e8) ?_
  have hq := bindP_inv hr
  clear hr
  obtain ⟨v9, m_1, e9, hr⟩ := hq
  refine wo_step (v := v9) (s_mk rfl rfl e9) ?_
  refine wo_step (v := v9) (s_pure (p_mv rfl)) ?_
  refine wo_nil ?_
  refine nx_norm ?_
  refine w_seq ?_
  refine w_seq ?_
  refine w_ops ?_
  refine wo_step (v := v9) (s_pure (p_mv rfl)) ?_
  have hq := bindO_inv hr
  clear hr
  obtain ⟨v11, e11, hr⟩ := hq
  have hq := asI_inv hr
  clear hr
  obtain ⟨x11, rfl, hr⟩ := hq
  refine wo_step (v := (.i .i64 x11)) (s_pure (o_len rfl e11)) ?_
  refine wo_step (v := (.i .i64 0)) (s_pure (p_mv rfl)) ?_
  refine wo_nil ?_
  refine nx_norm ?_
  refine w_block ?_
  have hq := bindO_inv hr
  clear hr
  obtain ⟨o, hl, hr⟩ := hq
  obtain ⟨n, hl⟩ := hM.loop _ _ _ hl
  refine jp_mono (w_loop _ (g62_I0 v0 v9 x11) (g62_J0 v0 v9 x11) ?_ n _ _ _ _ hl ⟨rfl, gl rfl, gl g0, gl rfl, gl rfl⟩) ?_
  · clear hr hl
    intro s mm_1 t_1 o hi hr
    obtain ⟨x12, m_2⟩ := s
    obtain ⟨rfl, g12, g0, g3, g11⟩ := hi
    unfold g62_b0 at hr
    refine w_seq ?_
    refine w_ops ?_
    have hq := forceB_inv hr
    clear hr
    obtain ⟨c13, e13, hr⟩ := hq
    refine wo_step (v := (.b c13)) (s_pure (p_bin g12 g11 (b_lss.trans (cb e13)))) ?_
    refine wo_nil ?_
    refine nx_norm ?_
    refine w_seq ?_
    have hq := cond_inv hr
    clear hr
    rcases hq with ⟨rfl, hr⟩ | ⟨rfl, hr⟩
    · refine w_condT rfl ?_
      refine w_skip ?_
      refine nx_norm ?_
      refine w_seq ?_
      refine w_block ?_
      refine w_seq ?_
      refine w_ops ?_
      refine wo_step (v := (.i .i64 x12)) (s_pure (p_mv g12)) ?_
      refine wo_step (v := (.i .i64 x12)) (s_pure (p_mv rfl)) ?_
      refine wo_nil ?_
      refine nx_norm ?_
      refine w_ops ?_
      refine wo_step (v := v9) (s_pure (p_mv g3)) ?_
      refine wo_step (v := (.i .i64 x12)) (s_pure (p_mv rfl)) ?_
      refine wo_step (v := v0) (s_pure (p_mv g0)) ?_
      refine wo_step (v := (.i .i64 x12)) (s_pure (p_mv rfl)) ?_
      have hq := bindP_inv hr
      clear hr
      obtain ⟨v19, m_3, e19, hr⟩ := hq
      refine wo_step (v := v19) (s_call (mc rfl (mc rfl mn)) (callM_le hM.call e19)) ?_
      have hq := bindO_inv hr
      clear hr
      obtain ⟨v20, e20, hr⟩ := hq
      refine wo_step (v := v20) (s_pure (o_ixS rfl rfl e20)) ?_
      have hq := bindP_inv hr
      clear hr
      obtain ⟨vn, m_4, en, hr⟩ := hq
      refine wo_stepN (s_st rfl rfl en) ?_
      refine wo_nil ?_
      refine bk_norm ?_
      refine nx_norm ?_
      refine w_ops ?_
      have hq := forceI_inv hr
      clear hr
      obtain ⟨x21, e21, hr⟩ := hq
      refine wo_step (v := (.i .i64 x21)) (s_pure (p_bin g12 rfl (b_add.trans (ci e21)))) ?_
      refine wo_step (v := (.i .i64 x21)) (s_pure (p_mv rfl)) ?_
      refine wo_nil ?_
      cases hr
      exact ⟨_, _, rfl, rfl, rfl, gl rfl, gl g0, gl g3, gl g11⟩
    · refine w_condF rfl ?_
      refine w_exit ?_
      refine nx_exit ?_
      cases hr
      exact ⟨_, _, rfl, ne_norm_exit, rfl, rfl, gl g3⟩
  · obtain ⟨m_5, ho⟩ : ∃ z, z = o := ⟨_, rfl⟩
    subst ho
    rintro _ mm t_2 ⟨rfl, rfl, g3⟩
    refine bk_hit ?_
    refine nx_norm ?_
    refine w_seq ?_
    refine w_ops ?_
    refine wo_step (v := v9) (s_pure (p_mv g3)) ?_
    refine wo_step (v := v9) (s_pure (p_mv rfl)) ?_
    refine wo_nil ?_
    refine nx_norm ?_
    refine w_ret ?_
    exact qf ret_ok (rt rfl rn) hr

/- (dibber/bed.ground).row -/

def g68 (M : Means) (ro : List ABlk) (v0 : AVal) (x1 : Int) (m0 : Mm) : Option (AVal × Heap × Nat × Nat) :=
  bindO (evP .e (.nilck (.c v0))) fun v7 =>
  bindO (evP .e (.faddr 1 (.c v7))) fun v8 =>
  bindO (evP .e (.ixA 7 7 (.c v8) (.c (.i .i64 x1)))) fun v9 =>
  bindO (evP .e (.nilck (.c v0))) fun v11 =>
  bindO (evP .e (.faddr 0 (.c v11))) fun v12 =>
  bindO (ldM ro m0 true 1 v12) fun v13 =>
  asI .i64 v13 fun x13 =>
  bindO (evP .e (.slA 7 1 (.c v9) none (some (.c (.i .i64 x13))))) fun v14 =>
  bindP (callM M.call m0 74 [v14]) fun v15 m_1 =>
  finM m0.h.length (tupA [v15]) m_1

theorem g68_ok {ro : List ABlk} {O : Caller} {M : Means} (hM : M.Ok ⟨F, O⟩ ro) {v0 x1 h r} (ho : O 68 [v0, (.i .i64 x1)] h = none) (hr : g68 M ro v0 x1 ⟨h, h.length, h.length⟩ = some r) : callX ⟨F, O⟩ ro 68 [v0, (.i .i64 x1)] h = some r := by
  refine callX_of (F := ⟨F, O⟩) (fn := fn68) (g := g68 M ro v0 x1) ho rfl rfl hr ?_
  clear ho
  clear hr
  intro m0 t0 ht hr
  have g0 : t0.get 0 = v0 := ht 0
  have g1 : t0.get 1 = (.i .i64 x1) := ht 1
  clear ht
  unfold g68 at hr
  refine w_seq ?_
  refine w_ops ?_
  refine wo_step (v := AVal.nsl) (s_pure (p_mv rfl)) ?_
  refine wo_nil ?_
  refine nx_norm ?_
  refine w_seq ?_
  refine w_ops ?_
  refine wo_step (v := v0) (s_pure (p_mv g0)) ?_
  refine wo_step (v := (.i .i64 x1)) (s_pure (p_mv g1)) ?_
  have hq := bindO_inv hr
  clear hr
  obtain ⟨v7, e7, hr⟩ := hq
  refine wo_step (v := v7) (s_pure (o_nilck rfl e7)) ?_
  have hq := bindO_inv hr
  clear hr
  obtain ⟨v8, e8, hr⟩ := hq
  refine wo_step (v := v8) (s_pure (o_faddr rfl e8)) ?_
  have hq := bindO_inv hr
  clear hr
  obtain ⟨v9, e9, hr⟩ := hq
  refine wo_step (v := v9) (s_pure (o_ixA rfl rfl e9)) ?_
  refine wo_step (v := v0) (s_pure (p_mv g0)) ?_
  have hq := bindO_inv hr
  clear hr
  obtain ⟨v11, e11, hr⟩ := hq
  refine wo_step (v := v11) (s_pure (o_nilck rfl e11)) ?_
  have hq := bindO_inv hr
  clear hr
  obtain ⟨v12, e12, hr⟩ := hq
  refine wo_step (v := v12) (s_pure (o_faddr rfl e12)) ?_
  have hq := bindO_inv hr
  clear hr
  obtain ⟨v13, e13, hr⟩ := hq
  have hq := asI_inv hr
  clear hr
  obtain ⟨x13, rfl, hr⟩ := hq
  refine wo_step (v := (.i .i64 x13)) (s_ld rfl e13) ?_
  have hq := bindO_inv hr
  clear hr
  obtain ⟨v14, e14, hr⟩ := hq
  refine wo_step (v := v14) (s_pure (o_slA rfl on (os rfl) e14)) ?_
  have hq := bindP_inv hr
  clear hr
  obtain ⟨v15, m_1, e15, hr⟩ := hq
  refine wo_step (v := v15) (s_call (mc rfl mn) (callM_le hM.call e15)) ?_
  refine wo_step (v := v15) (s_pure (p_mv rfl)) ?_
  refine wo_nil ?_
  refine nx_norm ?_
  refine w_ret ?_
  exact qf ret_ok (rt rfl rn) hr

/- dibber/bed.readFull -/
abbrev g71_I0 (v11 : AVal) (v0 : AVal) (x17 : Int) (s : Int × Mm) (m1 : Mm) (t1 : Tr) : Prop :=
  match s with
  | (x18, m_2) => m_2 = m1 ∧ t1.get 18 = (.i .i64 x18) ∧ t1.get 4 = v11 ∧ t1.get 16 = v0 ∧ t1.get 17 = (.i .i64 x17)
abbrev g71_J0 (v11 : AVal) (v0 : AVal) (x17 : Int) (o : (Mm ⊕ (AVal × Int × Mm))) (e : AExit) (m1 : Mm) (t1 : Tr) : Prop :=
  match o with
  | (.inl mo) => e = (.exit 0) ∧ mo = m1 ∧ t1.get 4 = v11
  | (.inr (y2, y3, mo)) => e = .ret ∧ mo = m1 ∧ t1.get 2 = y2 ∧ t1.get 3 = (.i .i64 y3)
def g71_b0 (M : Means) (ro : List ABlk) (v11 : AVal) (v0 : AVal) (x17 : Int) (x18 : Int) (m_2 : Mm) : Option ((Int × Mm) ⊕ ((Mm ⊕ (AVal × Int × Mm)))) :=
  forceB (ltI x18 x17) fun c19 =>
  cond c19 (
    bindO (evP .e (.ixS 1 (.c v0) (.c (.i .i64 x18)))) fun v20 =>
    bindO (ldM ro m_2 true 1 v20) fun v21 =>
    bindP (callM M.call m_2 90 [v21, (.i .i64 (-1))]) fun v23 m_3 =>
    asB v23 fun c23 =>
    cond c23 (
      some (.inr (.inr ((AVal.p none), 2, m_3)))) (
      forceI (wr .i64 (x18 + 1)) fun x24 =>
      some (.inl (x24, m_3)))) (
    some (.inr (.inl m_2)))
def g71 (M : Means) (ro : List ABlk) (v0 : AVal) (m0 : Mm) : Option (AVal × Heap × Nat × Nat) :=
  bindP (callM M.call m0 59 [v0]) fun v10 m_1 =>
  bindO (evP .e (.ext 0 (.c v10))) fun v11 =>
  bindO (evP .e (.ext 1 (.c v10))) fun v12 =>
  asI .i64 v12 fun x12 =>
  forceB (!eqI x12 0) fun c14 =>
  cond c14 (
    finM m0.h.length (tupA [(AVal.p none), (.i .i64 x12)]) m_1) (
    bindO (evP .e (.len false (.c v0))) fun v17 =>
    asI .i64 v17 fun x17 =>
    bindO (M.loop (S := Int × Mm) (R := (Mm ⊕ (AVal × Int × Mm))) (fun s => g71_b0 M ro v11 v0 x17 s.1 s.2) (0, m_1)) fun o => match o with
    | (.inl m_4) =>
      finM m0.h.length (tupA [v11, (.i .i64 0)]) m_4
    | (.inr (v2, x3, m_5)) =>
      finM m0.h.length (tupA [v2, (.i .i64 x3)]) m_5)

theorem g71_ok {ro : List ABlk} {O : Caller} {M : Means} (hM : M.Ok ⟨F, O⟩ ro) {v0 h r} (ho : O 71 [v0] h = none) (hr : g71 M ro v0 ⟨h, h.length, h.length⟩ = some r) : callX ⟨F, O⟩ ro 71 [v0] h = some r := by
  refine callX_of (F := ⟨F, O⟩) (fn := fn71) (g := g71 M ro v0) ho rfl rfl hr ?_
  clear ho
  clear hr
  intro m0 t0 ht hr
  have g0 : t0.get 0 = v0 := ht 0
  clear ht
  unfold g71 at hr
  refine w_seq ?_
  refine w_ops ?_
  refine wo_step (v := (AVal.p none)) (s_pure (p_mv rfl)) ?_
  refine wo_step (v := (.i .i64 0)) (s_pure (p_mv rfl)) ?_
  refine wo_nil ?_
  refine nx_norm ?_
  refine w_seq ?_
  refine w_ops ?_
  refine wo_step (v := v0) (s_pure (p_mv g0)) ?_
  have hq := bindP_inv hr
  clear hr
  obtain ⟨v10, m_1, e10, hr⟩ := hq
  refine wo_step (v := v10) (s_call (mc rfl mn) (callM_le hM.call e10)) ?_
  refine wo_step (v := v10) (s_pure (p_mv rfl)) ?_
  have hq := bindO_inv hr
  clear hr
  obtain ⟨v11, e11, hr⟩ := hq
  refine wo_step (v := v11) (s_pure (o_ext rfl e11)) ?_
  have hq := bindO_inv hr
  clear hr
  obtain ⟨v12, e12, hr⟩ := hq
  have hq := asI_inv hr
  clear hr
  obtain ⟨x12, rfl, hr⟩ := hq
  refine wo_step (v := (.i .i64 x12)) (s_pure (o_ext rfl e12)) ?_
  refine wo_step (v := v11) (s_pure (p_mv rfl)) ?_
  refine wo_step (v := (.i .i64 x12)) (s_pure (p_mv rfl)) ?_
  refine wo_nil ?_
  refine nx_norm ?_
  refine w_seq ?_
  refine w_seq ?_
  refine w_ops ?_
  refine wo_step (v := (.i .i64 x12)) (s_pure (p_mv rfl)) ?_
  have hq := forceB_inv hr
  clear hr
  obtain ⟨c14, e14, hr⟩ := hq
  refine wo_step (v := (.b c14)) (s_pure (p_bin rfl rfl (b_neq.trans (cb e14)))) ?_
  refine wo_nil ?_
  refine nx_norm ?_
  have hq := cond_inv hr
  clear hr
  rcases hq with ⟨rfl, hr⟩ | ⟨rfl, hr⟩
  · refine w_condT rfl ?_
    refine w_seq ?_
    refine w_ops ?_
    refine wo_step (v := (.i .i64 x12)) (s_pure (p_mv rfl)) ?_
    refine wo_step (v := (AVal.p none)) (s_pure (p_mv rfl)) ?_
    refine wo_step (v := (.i .i64 x12)) (s_pure (p_mv rfl)) ?_
    refine wo_nil ?_
    refine nx_norm ?_
    refine w_ret ?_
    refine nx_ret ?_
    exact qf ret_ok (rt rfl (rt rfl rn)) hr
  · refine w_condF rfl ?_
    refine w_skip ?_
    refine nx_norm ?_
    refine w_seq ?_
    refine w_seq ?_
    refine w_ops ?_
    refine wo_step (v := v0) (s_pure (p_mv g0)) ?_
    have hq := bindO_inv hr
    clear hr
    obtain ⟨v17, e17, hr⟩ := hq
    have hq := asI_inv hr
    clear hr
    obtain ⟨x17, rfl, hr⟩ := hq
    refine wo_step (v := (.i .i64 x17)) (s_pure (o_len rfl e17)) ?_
    refine wo_step (v := (.i .i64 0)) (s_pure (p_mv rfl)) ?_
    refine wo_nil ?_
    refine nx_norm ?_
    refine w_block ?_
    have hq := bindO_inv hr
    clear hr
    obtain ⟨o, hl, hr⟩ := hq
    obtain ⟨n, hl⟩ := hM.loop _ _ _ hl
    refine jp_mono (w_loop _ (g71_I0 v11 v0 x17) (g71_J0 v11 v0 x17) ?_ n _ _ _ _ hl ⟨rfl, gl rfl, gl rfl, gl rfl, gl rfl⟩) ?_
    · clear hr hl
      intro s mm_2 t_1 o hi hr
      obtain ⟨x18, m_2⟩ := s
      obtain ⟨rfl, g18, g4, g16, g17⟩ := hi
      unfold g71_b0 at hr
      refine w_seq ?_
      refine w_ops ?_
      have hq := forceB_inv hr
      clear hr
      obtain ⟨c19, e19, hr⟩ := hq
      refine wo_step (v := (.b c19)) (s_pure (p_bin g18 g17 (b_lss.trans (cb e19)))) ?_
      refine wo_nil ?_
      refine nx_norm ?_
      refine w_seq ?_
      have hq := cond_inv hr
      clear hr
      rcases hq with ⟨rfl, hr⟩ | ⟨rfl, hr⟩
      · refine w_condT rfl ?_
        refine w_skip ?_
        refine nx_norm ?_
        refine w_seq ?_
        refine w_block ?_
        refine w_seq ?_
        refine w_ops ?_
        have hq := bindO_inv hr
        clear hr
        obtain ⟨v20, e20, hr⟩ := hq
        refine wo_step (v := v20) (s_pure (o_ixS g16 g18 e20)) ?_
        have hq := bindO_inv hr
        clear hr
        obtain ⟨v21, e21, hr⟩ := hq
        refine wo_step (v := v21) (s_ld rfl e21) ?_
        refine wo_step (v := v21) (s_pure (p_mv rfl)) ?_
        refine wo_nil ?_
        refine nx_norm ?_
        refine w_seq ?_
        refine w_ops ?_
        refine wo_step (v := v21) (s_pure (p_mv rfl)) ?_
        have hq := bindP_inv hr
        clear hr
        obtain ⟨v23, m_3, e23, hr⟩ := hq
        have hq := asB_inv hr
        clear hr
        obtain ⟨c23, rfl, hr⟩ := hq
        refine wo_step (v := (.b c23)) (s_call (mc rfl (mc rfl mn)) (callM_le hM.call e23)) ?_
        refine wo_nil ?_
        refine nx_norm ?_
        have hq := cond_inv hr
        clear hr
        rcases hq with ⟨rfl, hr⟩ | ⟨rfl, hr⟩
        · refine w_condT rfl ?_
          refine w_seq ?_
          refine w_ops ?_
          refine wo_step (v := (AVal.p none)) (s_pure (p_mv rfl)) ?_
          refine wo_step (v := (.i .i64 2)) (s_pure (p_mv rfl)) ?_
          refine wo_nil ?_
          refine nx_norm ?_
          refine w_ret ?_
          refine bk_ret ?_
          refine nx_ret ?_
          cases hr
          exact ⟨_, _, rfl, ne_norm_ret, rfl, rfl, gl rfl, gl rfl⟩
        · refine w_condF rfl ?_
          refine w_skip ?_
          refine bk_norm ?_
          refine nx_norm ?_
          refine w_ops ?_
          have hq := forceI_inv hr
          clear hr
          obtain ⟨x24, e24, hr⟩ := hq
          refine wo_step (v := (.i .i64 x24)) (s_pure (p_bin g18 rfl (b_add.trans (ci e24)))) ?_
          refine wo_step (v := (.i .i64 x24)) (s_pure (p_mv rfl)) ?_
          refine wo_nil ?_
          cases hr
          exact ⟨_, _, rfl, rfl, rfl, gl rfl, gl g4, gl g16, gl g17⟩
      · refine w_condF rfl ?_
        refine w_exit ?_
        refine nx_exit ?_
        cases hr
        exact ⟨_, _, rfl, ne_norm_exit, rfl, rfl, gl g4⟩
    · rcases o with o | o
      · obtain ⟨m_4, ho⟩ : ∃ z, z = o := ⟨_, rfl⟩
        subst ho
        rintro _ mm t_2 ⟨rfl, rfl, g4⟩
        refine bk_hit ?_
        refine nx_norm ?_
        refine w_seq ?_
        refine w_ops ?_
        refine wo_step (v := v11) (s_pure (p_mv g4)) ?_
        refine wo_step (v := v11) (s_pure (p_mv rfl)) ?_
        refine wo_step (v := (.i .i64 0)) (s_pure (p_mv rfl)) ?_
        refine wo_nil ?_
        refine nx_norm ?_
        refine w_ret ?_
        exact qf ret_ok (rt rfl (rt rfl rn)) hr
      · obtain ⟨v2, x3, m_5⟩ := o
        rintro _ mm_1 t_3 ⟨rfl, rfl, g2, g3⟩
        refine bk_ret ?_
        refine nx_ret ?_
        exact qf ret_ok (rt g2 (rt g3 rn)) hr

/- (dibber/bed.ground).eachTransversal -/

def g72 (M : Means) (ro : List ABlk) (v0 : AVal) (v1 : AVal) (m0 : Mm) : Option (AVal × Heap × Nat × Nat) :=
  bindP (stepM ro m0 (.bx 55 1 (.c v0))) fun v2 m_1 =>
  bindP (stepM ro m_1 (.bx 88 1 (.c v1))) fun v3 m_2 =>
  bindO (ldM ro m_2 true 1 v2) fun v6 =>
  bindO (evP .e (.nilck (.c v6))) fun v7 =>
  bindO (evP .e (.faddr 0 (.c v7))) fun v8 =>
  bindO (ldM ro m_2 true 1 v8) fun v9 =>
  asI .i64 v9 fun x9 =>
  bindP (stepM ro m_2 (.mk 3 1 8 [(AVal.i IntKind.i64 0)] (.c (.i .i64 x9)) (.c (.i .i64 x9)))) fun v10 m_3 =>
  bindP (stepM ro m_3 (.al 32 [AVal.nsl])) fun v4 m_4 =>
  bindP (stepM ro m_4 (.st 1 (.c v4) (.c v10))) fun vn m_5 =>
  bindP (stepM ro m_5 (.al 107 [AVal.nfn])) fun v5 m_6 =>
  bindO (some (AVal.fn 92 [] [v2, v3, v4, v5])) fun v11 =>
  bindP (stepM ro m_6 (.st 1 (.c v5) (.c v11))) fun vn_1 m_7 =>
  bindO (ldM ro m_7 true 1 v5) fun v12 =>
  bindP (callvM M.call m_7 v12 [(.i .i64 0), (.i .u8 0), (.i .u8 0)]) fun v13 m_8 =>
  asB v13 fun c13 =>
  finM m0.h.length (tupA []) m_8

theorem g72_ok {ro : List ABlk} {O : Caller} {M : Means} (hM : M.Ok ⟨F, O⟩ ro) {v0 v1 h r} (ho : O 72 [v0, v1] h = none) (hr : g72 M ro v0 v1 ⟨h, h.length, h.length⟩ = some r) : callX ⟨F, O⟩ ro 72 [v0, v1] h = some r := by
  refine callX_of (F := ⟨F, O⟩) (fn := fn72) (g := g72 M ro v0 v1) ho rfl rfl hr ?_
  clear ho
  clear hr
  intro m0 t0 ht hr
  have g0 : t0.get 0 = v0 := ht 0
  have g1 : t0.get 1 = v1 := ht 1
  clear ht
  unfold g72 at hr
  refine w_seq ?_
  refine w_ops ?_
  have hq := bindP_inv hr
  clear hr
  obtain ⟨v2, m_1, e2, hr⟩ := hq
  refine wo_step (v := v2) (s_bx g0 e2) ?_
  have hq := bindP_inv hr
  clear hr
  obtain ⟨v3, m_2, e3, hr⟩ := hq
  refine wo_step (v := v3) (s_bx g1 e3) ?_
  refine wo_nil ?_
  refine nx_norm ?_
  refine w_seq ?_
  refine w_ops ?_
  have hq := bindO_inv hr
  clear hr
  obtain ⟨v6, e6, hr⟩ := hq
  refine wo_step (v := v6) (s_ld rfl e6) ?_
  have hq := bindO_inv hr
  clear hr
  obtain ⟨v7, e7, hr⟩ := hq
  refine wo_step (v := v7) (s_pure (o_nilck rfl e7)) ?_
  have hq := bindO_inv hr
  clear hr
  obtain ⟨v8, e8, hr⟩ := hq
  refine wo_step (v := v8) (s_pure (o_faddr rfl e8)) ?_
  have hq := bindO_inv hr
  clear hr
  obtain ⟨v9, e9, hr⟩ := hq
  have hq := asI_inv hr
  clear hr
  obtain ⟨x9, rfl, hr⟩ := hq
  refine wo_step (v := (.i .i64 x9)) (s_ld rfl e9) ?_
  have hq := bindP_inv hr
  clear hr
  obtain ⟨v10, m_3, e10, hr⟩ := hq
  refine wo_step (v := v10) (s_mk rfl rfl e10) ?_
  have hq := bindP_inv hr
  clear hr
  obtain ⟨v4, m_4, e4, hr⟩ := hq
  refine wo_step (v := v4) (s_al e4) ?_
  have hq := bindP_inv hr
  clear hr
  obtain ⟨vn, m_5, en, hr⟩ := hq
  refine wo_stepN (s_st rfl rfl en) ?_
  refine wo_nil ?_
  refine nx_norm ?_
  refine w_seq ?_
  refine w_ops ?_
  have hq := bindP_inv hr
  clear hr
  obtain ⟨v5, m_6, e5, hr⟩ := hq
  refine wo_step (v := v5) (s_al e5) ?_
  refine wo_nil ?_
  refine nx_norm ?_
  refine w_seq ?_
  refine w_ops ?_
  have hq := bindO_inv hr
  clear hr
  obtain ⟨v11, e11, hr⟩ := hq
  refine wo_step (v := v11) (s_pure ((o_mkfn mn (mc rfl (mc rfl (mc rfl (mc rfl mn))))).trans e11)) ?_
  have hq := bindP_inv hr
  clear hr
  obtain ⟨vn_1, m_7, en_1, hr⟩ := hq
  refine wo_stepN (s_st rfl rfl en_1) ?_
  refine wo_nil ?_
  refine nx_norm ?_
  refine w_ops ?_
  have hq := bindO_inv hr
  clear hr
  obtain ⟨v12, e12, hr⟩ := hq
  refine wo_step (v := v12) (s_ld rfl e12) ?_
  have hq := bindP_inv hr
  clear hr
  obtain ⟨v13, m_8, e13, hr⟩ := hq
  have hq := asB_inv hr
  clear hr
  obtain ⟨c13, rfl, hr⟩ := hq
  refine wo_step (v := (.b c13)) (s_callv rfl (mc rfl (mc rfl (mc rfl mn))) (callvM_le hM.call e13)) ?_
  refine wo_nil ?_
  exact qf norm_ok rn hr

/- slices.Clone[[]int,int] -/

def g74 (M : Means) (ro : List ABlk) (v0 : AVal) (m0 : Mm) : Option (AVal × Heap × Nat × Nat) :=
  bindO (evP .e (.nilcmp false (.c v0))) fun v4 =>
  asB v4 fun c4 =>
  cond c4 (
    finM m0.h.length (tupA [AVal.nsl]) m0) (
    bindP (stepM ro m0 (.bsl 3 1 [(AVal.i IntKind.i64 0)] 0 [])) fun v5 m_1 =>
    bindP (stepM ro m_1 (.app 3 1 8 [(AVal.i IntKind.i64 0)] (.c v5) (.c v0))) fun v7 m_2 =>
    finM m0.h.length (tupA [v7]) m_2)

theorem g74_ok {ro : List ABlk} {O : Caller} {M : Means} (hM : M.Ok ⟨F, O⟩ ro) {v0 h r} (ho : O 74 [v0] h = none) (hr : g74 M ro v0 ⟨h, h.length, h.length⟩ = some r) : callX ⟨F, O⟩ ro 74 [v0] h = some r := by
  refine callX_of (F := ⟨F, O⟩) (fn := fn74) (g := g74 M ro v0) ho rfl rfl hr ?_
  clear ho
  clear hr
  intro m0 t0 ht hr
  have g0 : t0.get 0 = v0 := ht 0
  clear ht
  unfold g74 at hr
  refine w_seq ?_
  refine w_ops ?_
  refine wo_step (v := AVal.nsl) (s_pure (p_mv rfl)) ?_
  refine wo_nil ?_
  refine nx_norm ?_
  refine w_seq ?_
  refine w_seq ?_
  refine w_ops ?_
  refine wo_step (v := v0) (s_pure (p_mv g0)) ?_
  have hq := bindO_inv hr
  clear hr
  obtain ⟨v4, e4, hr⟩ := hq
  have hq := asB_inv hr
  clear hr
  obtain ⟨c4, rfl, hr⟩ := hq
  refine wo_step (v := (.b c4)) (s_pure (o_nilcmp rfl e4)) ?_
  refine wo_nil ?_
  refine nx_norm ?_
  have hq := cond_inv hr
  clear hr
  rcases hq with ⟨rfl, hr⟩ | ⟨rfl, hr⟩
  · refine w_condT rfl ?_
    refine w_seq ?_
    refine w_ops ?_
    refine wo_step (v := AVal.nsl) (s_pure (p_mv rfl)) ?_
    refine wo_nil ?_
    refine nx_norm ?_
    refine w_ret ?_
    refine nx_ret ?_
    exact qf ret_ok (rt rfl rn) hr
  · refine w_condF rfl ?_
    refine w_skip ?_
    refine nx_norm ?_
    refine w_seq ?_
    refine w_ops ?_
    have hq := bindP_inv hr
    clear hr
    obtain ⟨v5, m_1, e5, hr⟩ := hq
    refine wo_step (v := v5) (s_bsl qn e5) ?_
    refine wo_step (v := v0) (s_pure (p_mv g0)) ?_
    have hq := bindP_inv hr
    clear hr
    obtain ⟨v7, m_2, e7, hr⟩ := hq
    refine wo_step (v := v7) (s_app rfl rfl e7) ?_
    refine wo_step (v := v7) (s_pure (p_mv rfl)) ?_
    refine wo_nil ?_
    refine nx_norm ?_
    refine w_ret ?_
    exact qf ret_ok (rt rfl rn) hr

/- dibber/bed.Transversals-1 -/

def g76 (M : Means) (ro : List ABlk) (v0 : AVal) (v1 : AVal) (m0 : Mm) : Option (AVal × Heap × Nat × Nat) :=
  bindO (ldM ro m0 true 1 v1) fun v4 =>
  asI .i64 v4 fun x4 =>
  forceI (wr .i64 (x4 + 1)) fun x5 =>
  bindP (stepM ro m0 (.st 1 (.c v1) (.c (.i .i64 x5)))) fun vn m_1 =>
  finM m0.h.length (tupA [(.b true)]) m_1

theorem g76_ok {ro : List ABlk} {O : Caller} {M : Means} (hM : M.Ok ⟨F, O⟩ ro) {v0 v1 h r} (ho : O 76 [v0, v1] h = none) (hr : g76 M ro v0 v1 ⟨h, h.length, h.length⟩ = some r) : callX ⟨F, O⟩ ro 76 [v0, v1] h = some r := by
  refine callX_of (F := ⟨F, O⟩) (fn := fn76) (g := g76 M ro v0 v1) ho rfl rfl hr ?_
  clear ho
  clear hr
  intro m0 t0 ht hr
  have g0 : t0.get 0 = v0 := ht 0
  have g1 : t0.get 1 = v1 := ht 1
  clear ht
  unfold g76 at hr
  refine w_seq ?_
  refine w_ops ?_
  refine wo_step (v := (.b false)) (s_pure (p_mv rfl)) ?_
  refine wo_nil ?_
  refine nx_norm ?_
  refine w_seq ?_
  refine w_ops ?_
  have hq := bindO_inv hr
  clear hr
  obtain ⟨v4, e4, hr⟩ := hq
  have hq := asI_inv hr
  clear hr
  obtain ⟨x4, rfl, hr⟩ := hq
  refine wo_step (v := (.i .i64 x4)) (s_ld g1 e4) ?_
  have hq := forceI_inv hr
  clear hr
  obtain ⟨x5, e5, hr⟩ := hq
  refine wo_step (v := (.i .i64 x5)) (s_pure (p_bin rfl rfl (b_add.trans (ci e5)))) ?_
  have hq := bindP_inv hr
  clear hr
  obtain ⟨vn, m_1, en, hr⟩ := hq
  refine wo_stepN (s_st g1 rfl en) ?_
  refine wo_nil ?_
  refine nx_norm ?_
  refine w_seq ?_
  refine w_ops ?_
  refine wo_step (v := (.b true)) (s_pure (p_mv rfl)) ?_
  refine wo_nil ?_
  refine nx_norm ?_
  refine w_ret ?_
  exact qf ret_ok (rt rfl rn) hr

/- (dibber/bed.ground).sowMate -/
abbrev g78_J0 (v0 : AVal) (v1 : AVal) (x2 : Int) (v3 : AVal) (x30 : Int) (x36 : Int) (v47 : AVal) (m0 : Mm) (o : Int) (e : AExit) (m1 : Mm) (t1 : Tr) : Prop :=
  match o with
  | y12 => e = .norm ∧ m0 = m1 ∧ t1.get 12 = (.i .u8 y12) ∧ t1.get 0 = v0 ∧ t1.get 1 = v1 ∧ t1.get 2 = (.i .i64 x2) ∧ t1.get 3 = v3 ∧ t1.get 9 = (.i .i64 x30) ∧ t1.get 10 = (.i .i64 x36) ∧ t1.get 11 = v47
abbrev g78_I1 (v0 : AVal) (v1 : AVal) (x2 : Int) (v3 : AVal) (x30 : Int) (x36 : Int) (v47 : AVal) (s : Int × Mm) (m1 : Mm) (t1 : Tr) : Prop :=
  match s with
  | (x12_1, m_1) => m_1 = m1 ∧ t1.get 12 = (.i .u8 x12_1) ∧ t1.get 0 = v0 ∧ t1.get 1 = v1 ∧ t1.get 2 = (.i .i64 x2) ∧ t1.get 3 = v3 ∧ t1.get 9 = (.i .i64 x30) ∧ t1.get 10 = (.i .i64 x36) ∧ t1.get 11 = v47
abbrev g78_J1 (v0 : AVal) (v1 : AVal) (x2 : Int) (v3 : AVal) (x30 : Int) (x36 : Int) (v47 : AVal) (o : (Mm ⊕ (Bool × Mm))) (e : AExit) (m1 : Mm) (t1 : Tr) : Prop :=
  match o with
  | (.inl mo) => e = (.exit 0) ∧ mo = m1
  | (.inr (y8, mo)) => e = .ret ∧ mo = m1 ∧ t1.get 8 = (.b y8)
def g78_b1 (M : Means) (ro : List ABlk) (v0 : AVal) (v1 : AVal) (x2 : Int) (v3 : AVal) (x30 : Int) (x36 : Int) (v47 : AVal) (x12_1 : Int) (m_1 : Mm) : Option ((Int × Mm) ⊕ ((Mm ⊕ (Bool × Mm)))) :=
  forceB (!eqI x12_1 0) fun c64 =>
  cond c64 (
    bindP (callM M.call m_1 85 [(.i .u8 x12_1)]) fun v72 m_2 =>
    asI .i64 v72 fun x72 =>
    bindO ((fillA [(AVal.i IntKind.i64 0), (AVal.i IntKind.i64 0), (AVal.i IntKind.i64 0)] [((0, 1), (.i .i64 x30)), ((1, 1), (.i .i64 x36)), ((2, 1), (.i .i64 x72))]).map AVal.agg) fun v73 =>
    bindP (stepM ro m_2 (.al 62 [(AVal.i IntKind.i64 0), (AVal.i IntKind.i64 0), (AVal.i IntKind.i64 0)])) fun v13 m_3 =>
    bindP (stepM ro m_3 (.st 3 (.c v13) (.c v73))) fun vn m_4 =>
    bindO (ldM ro m_4 false 3 v13) fun v75 =>
    bindP (callM M.call m_4 54 [v0, v75]) fun v76 m_5 =>
    bindO (evP .e (.nilck (.c v47))) fun v78 =>
    bindO (ldA ro m_5.h true 1 v78) fun v79 =>
    asI .u8 v79 fun x79 =>
    bindO (evP .e (.ixA 3 1 (.c v13) (.c (.i .i64 2)))) fun v80 =>
    bindO (ldA ro m_5.h true 1 v80) fun v81 =>
    asI .i64 v81 fun x81 =>
    chk (!ltI x81 (.ofNat 0)) <|
    forceI (shlV .u8 1 x81) fun x82 =>
    forceI (bitV .or .u8 x79 x82) fun x83 =>
    bindO (evP .e (.nilck (.c v47))) fun v84 =>
    asP v84 fun qs =>
    bindO (writesM ro [] [(qs, AVal.cells (.i .u8 x83))] ⟨m_5.h, m_5.lw, m_5.lp⟩) fun m_6 =>
    forceI (wr .i64 (x2 + 1)) fun x88 =>
    bindP (callM M.call m_6 78 [v0, v1, (.i .i64 x88), v3]) fun v90 m_7 =>
    asB v90 fun c90 =>
    cond c90 (
      some (.inr (.inr (true, m_7)))) (
      bindO (evP .e (.nilck (.c v47))) fun v92 =>
      bindO (ldA ro m_7.h true 1 v92) fun v93 =>
      asI .u8 v93 fun x93 =>
      bindO (evP .e (.ixA 3 1 (.c v13) (.c (.i .i64 2)))) fun v94 =>
      bindO (ldA ro m_7.h true 1 v94) fun v95 =>
      asI .i64 v95 fun x95 =>
      chk (!ltI x95 (.ofNat 0)) <|
      forceI (shlV .u8 1 x95) fun x96 =>
      forceI (bitV .andNot .u8 x93 x96) fun x97 =>
      bindO (evP .e (.nilck (.c v47))) fun v98 =>
      asP v98 fun qs_1 =>
      bindO (writesM ro [] [(qs_1, AVal.cells (.i .u8 x97))] ⟨m_7.h, m_7.lw, m_7.lp⟩) fun m_8 =>
      bindO (ldM ro m_8 false 3 v13) fun v100 =>
      bindP (callM M.call m_8 86 [v0, v100]) fun v101 m_9 =>
      forceI (wr .u8 (x12_1 - 1)) fun x67 =>
      forceI (bitV .and .u8 x12_1 x67) fun x68 =>
      some (.inl (x68, m_9)))) (
    some (.inr (.inl m_1)))
def g78 (M : Means) (ro : List ABlk) (v0 : AVal) (v1 : AVal) (x2 : Int) (v3 : AVal) (m0 : Mm) : Option (AVal × Heap × Nat × Nat) :=
  bindO (evP .e (.nilck (.c v0))) fun v16 =>
  bindO (evP .e (.faddr 0 (.c v16))) fun v17 =>
  bindO (ldA ro m0.h true 1 v17) fun v18 =>
  asI .i64 v18 fun x18 =>
  bindO (evP .e (.nilck (.c v0))) fun v20 =>
  bindO (evP .e (.faddr 0 (.c v20))) fun v21 =>
  bindO (ldA ro m0.h true 1 v21) fun v22 =>
  asI .i64 v22 fun x22 =>
  forceI (wr .i64 (x18 * x22)) fun x23 =>
  forceB (eqI x2 x23) fun c24 =>
  cond c24 (
    finM m0.h.length (tupA [(.b true)]) m0) (
    bindO (evP .e (.nilck (.c v0))) fun v27 =>
    bindO (evP .e (.faddr 0 (.c v27))) fun v28 =>
    bindO (ldA ro m0.h true 1 v28) fun v29 =>
    asI .i64 v29 fun x29 =>
    chk (!eqI x29 (.ofNat 0)) <|
    forceI (wr .i64 (Int.tdiv x2 x29)) fun x30 =>
    bindO (evP .e (.nilck (.c v0))) fun v33 =>
    bindO (evP .e (.faddr 0 (.c v33))) fun v34 =>
    bindO (ldA ro m0.h true 1 v34) fun v35 =>
    asI .i64 v35 fun x35 =>
    chk (!eqI x35 (.ofNat 0)) <|
    forceI (Int.tmod x2 x35) fun x36 =>
    bindO (evP .e (.nilck (.c v1))) fun v41 =>
    bindO (evP .e (.faddr 1 (.c v41))) fun v42 =>
    bindO (evP .e (.ixA 7 7 (.c v42) (.c (.i .i64 x30)))) fun v43 =>
    bindO (evP .e (.ixA 7 1 (.c v43) (.c (.i .i64 x36)))) fun v44 =>
    bindO (evP .e (.nilck (.c v3))) fun v46 =>
    bindO (ldM ro m0 true 1 v44) fun v45 =>
    asI .i64 v45 fun x45 =>
    bindO (evP .e (.ixA 7 1 (.c v46) (.c (.i .i64 x45)))) fun v47 =>
    bindO ((fillA [(AVal.i IntKind.i64 0), (AVal.i IntKind.i64 0), (AVal.i IntKind.i64 0), (AVal.i IntKind.i64 0)] [((0, 1), (.i .i64 0)), ((1, 1), (.i .i64 x30)), ((2, 1), (.i .i64 1)), ((3, 1), (.i .i64 x36))]).map AVal.agg) fun v51 =>
    bindO (callN M.call m0.h 53 [v0, v51]) fun v52 =>
    asI .u8 v52 fun x52 =>
    bindO (evP .e (.nilck (.c v47))) fun v54 =>
    bindO (ldA ro m0.h true 1 v54) fun v55 =>
    asI .u8 v55 fun x55 =>
    forceI (bitV .andNot .u8 x52 x55) fun x56 =>
    forceB (eqI x30 0) fun c58 =>
    bindO (α := Int) (
      cond c58 (
        chk (!ltI x36 (.ofNat 0)) <|
        forceI (shlV .u8 1 x36) fun x61 =>
        forceI (bitV .and .u8 x56 x61) fun x62 =>
        some x62) (
        some x56)) fun x12 =>
    bindO (M.loop (S := Int × Mm) (R := (Mm ⊕ (Bool × Mm))) (fun s => g78_b1 M ro v0 v1 x2 v3 x30 x36 v47 s.1 s.2) (x12, m0)) fun o_1 => match o_1 with
    | (.inl m_10) =>
      finM m0.h.length (tupA [(.b false)]) m_10
    | (.inr (c8, m_11)) =>
      finM m0.h.length (tupA [(.b c8)]) m_11)

theorem g78_ok {ro : List ABlk} {O : Caller} {M : Means} (hM : M.Ok ⟨F, O⟩ ro) {v0 v1 x2 v3 h r} (ho : O 78 [v0, v1, (.i .i64 x2), v3] h = none) (hr : g78 M ro v0 v1 x2 v3 ⟨h, h.length, h.length⟩ = some r) : callX ⟨F, O⟩ ro 78 [v0, v1, (.i .i64 x2), v3] h = some r := by
  refine callX_of (F := ⟨F, O⟩) (fn := fn78) (g := g78 M ro v0 v1 x2 v3) ho rfl rfl hr ?_
  clear ho
  clear hr
  intro m0 t0 ht hr
  have g0 : t0.get 0 = v0 := ht 0
  have g1 : t0.get 1 = v1 := ht 1
  have g2 : t0.get 2 = (.i .i64 x2) := ht 2
  have g3 : t0.get 3 = v3 := ht 3
  clear ht
  unfold g78 at hr
  refine w_seq ?_
  refine w_ops ?_
  refine wo_step (v := (.b false)) (s_pure (p_mv rfl)) ?_
  refine wo_nil ?_
  refine nx_norm ?_
  refine w_seq ?_
  refine w_seq ?_
  refine w_any ?_
  refine wa_step (v := (.i .i64 x2)) (a_pure (p_mv g2)) ?_
  refine wa_step (v := v0) (a_pure (p_mv g0)) ?_
  have hq := bindO_inv hr
  clear hr
  obtain ⟨v16, e16, hr⟩ := hq
  refine wa_step (v := v16) (a_pure (o_nilck rfl e16)) ?_
  have hq := bindO_inv hr
  clear hr
  obtain ⟨v17, e17, hr⟩ := hq
  refine wa_step (v := v17) (a_pure (o_faddr rfl e17)) ?_
  have hq := bindO_inv hr
  clear hr
  obtain ⟨v18, e18, hr⟩ := hq
  have hq := asI_inv hr
  clear hr
  obtain ⟨x18, rfl, hr⟩ := hq
  refine wa_step (v := (.i .i64 x18)) (a_ld rfl e18) ?_
  refine wa_step (v := v0) (a_pure (p_mv g0)) ?_
  have hq := bindO_inv hr
  clear hr
  obtain ⟨v20, e20, hr⟩ := hq
  refine wa_step (v := v20) (a_pure (o_nilck rfl e20)) ?_
  have hq := bindO_inv hr
  clear hr
  obtain ⟨v21, e21, hr⟩ := hq
  refine wa_step (v := v21) (a_pure (o_faddr rfl e21)) ?_
  have hq := bindO_inv hr
  clear hr
  obtain ⟨v22, e22, hr⟩ := hq
  have hq := asI_inv hr
  clear hr
  obtain ⟨x22, rfl, hr⟩ := hq
  refine wa_step (v := (.i .i64 x22)) (a_ld rfl e22) ?_
  have hq := forceI_inv hr
  clear hr
  obtain ⟨x23, e23, hr⟩ := hq
  refine wa_step (v := (.i .i64 x23)) (a_pure (p_bin rfl rfl (b_mul.trans (ci e23)))) ?_
  have hq := forceB_inv hr
  clear hr
  obtain ⟨c24, e24, hr⟩ := hq
  refine wa_step (v := (.b c24)) (a_pure (p_bin rfl rfl (b_eql.trans (cb e24)))) ?_
  refine wa_nil ?_
  refine ⟨m0, rfl, ?_⟩
  refine nx_norm ?_
  have hq := cond_inv hr
  clear hr
  rcases hq with ⟨rfl, hr⟩ | ⟨rfl, hr⟩
  · refine w_condT rfl ?_
    refine w_seq ?_
    refine w_ops ?_
    refine wo_step (v := (.b true)) (s_pure (p_mv rfl)) ?_
    refine wo_nil ?_
    refine nx_norm ?_
    refine w_ret ?_
    refine nx_ret ?_
    exact qf ret_ok (rt rfl rn) hr
  · refine w_condF rfl ?_
    refine w_skip ?_
    refine nx_norm ?_
    refine w_seq ?_
    refine w_any ?_
    refine wa_step (v := (.i .i64 x2)) (a_pure (p_mv g2)) ?_
    refine wa_step (v := v0) (a_pure (p_mv g0)) ?_
    have hq := bindO_inv hr
    clear hr
    obtain ⟨v27, e27, hr⟩ := hq
    refine wa_step (v := v27) (a_pure (o_nilck rfl e27)) ?_
    have hq := bindO_inv hr
    clear hr
    obtain ⟨v28, e28, hr⟩ := hq
    refine wa_step (v := v28) (a_pure (o_faddr rfl e28)) ?_
    have hq := bindO_inv hr
    clear hr
    obtain ⟨v29, e29, hr⟩ := hq
    have hq := asI_inv hr
    clear hr
    obtain ⟨x29, rfl, hr⟩ := hq
    refine wa_step (v := (.i .i64 x29)) (a_ld rfl e29) ?_
    have hq := chk_inv hr
    clear hr
    obtain ⟨hc30, hr⟩ := hq
    have hq := forceI_inv hr
    clear hr
    obtain ⟨x30, e30, hr⟩ := hq
    refine wa_step (v := (.i .i64 x30)) (a_pure (p_bin rfl rfl ((b_quo hc30).trans (ci e30)))) ?_
    refine wa_step (v := (.i .i64 x2)) (a_pure (p_mv g2)) ?_
    refine wa_step (v := v0) (a_pure (p_mv g0)) ?_
    have hq := bindO_inv hr
    clear hr
    obtain ⟨v33, e33, hr⟩ := hq
    refine wa_step (v := v33) (a_pure (o_nilck rfl e33)) ?_
    have hq := bindO_inv hr
    clear hr
    obtain ⟨v34, e34, hr⟩ := hq
    refine wa_step (v := v34) (a_pure (o_faddr rfl e34)) ?_
    have hq := bindO_inv hr
    clear hr
    obtain ⟨v35, e35, hr⟩ := hq
    have hq := asI_inv hr
    clear hr
    obtain ⟨x35, rfl, hr⟩ := hq
    refine wa_step (v := (.i .i64 x35)) (a_ld rfl e35) ?_
    have hq := chk_inv hr
    clear hr
    obtain ⟨hc36, hr⟩ := hq
    have hq := forceI_inv hr
    clear hr
    obtain ⟨x36, e36, hr⟩ := hq
    refine wa_step (v := (.i .i64 x36)) (a_pure (p_bin rfl rfl ((b_rem hc36).trans (ci e36)))) ?_
    refine wa_step (v := (.i .i64 x30)) (a_pure (p_mv rfl)) ?_
    refine wa_step (v := (.i .i64 x36)) (a_pure (p_mv rfl)) ?_
    refine wa_nil ?_
    refine ⟨m0, rfl, ?_⟩
    refine nx_norm ?_
    refine w_seq ?_
    refine w_ops ?_
    refine wo_step (v := v3) (s_pure (p_mv g3)) ?_
    refine wo_step (v := v1) (s_pure (p_mv g1)) ?_
    refine wo_step (v := (.i .i64 x30)) (s_pure (p_mv rfl)) ?_
    refine wo_step (v := (.i .i64 x36)) (s_pure (p_mv rfl)) ?_
    have hq := bindO_inv hr
    clear hr
    obtain ⟨v41, e41, hr⟩ := hq
    refine wo_step (v := v41) (s_pure (o_nilck rfl e41)) ?_
    have hq := bindO_inv hr
    clear hr
    obtain ⟨v42, e42, hr⟩ := hq
    refine wo_step (v := v42) (s_pure (o_faddr rfl e42)) ?_
    have hq := bindO_inv hr
    clear hr
    obtain ⟨v43, e43, hr⟩ := hq
    refine wo_step (v := v43) (s_pure (o_ixA rfl rfl e43)) ?_
    have hq := bindO_inv hr
    clear hr
    obtain ⟨v44, e44, hr⟩ := hq
    refine wo_step (v := v44) (s_pure (o_ixA rfl rfl e44)) ?_
    have hq := bindO_inv hr
    clear hr
    obtain ⟨v46, e46, hr⟩ := hq
    refine wo_step (v := v46) (s_pure (o_nilck rfl e46)) ?_
    have hq := bindO_inv hr
    clear hr
    obtain ⟨v45, e45, hr⟩ := hq
    have hq := asI_inv hr
    clear hr
    obtain ⟨x45, rfl, hr⟩ := hq
    refine wo_step (v := (.i .i64 x45)) (s_ld rfl e45) ?_
    have hq := bindO_inv hr
    clear hr
    obtain ⟨v47, e47, hr⟩ := hq
    refine wo_step (v := v47) (s_pure (o_ixA rfl rfl e47)) ?_
    refine wo_step (v := v47) (s_pure (p_mv rfl)) ?_
    refine wo_nil ?_
    refine nx_norm ?_
    refine w_seq ?_
    refine w_any ?_
    refine wa_step (v := v0) (a_pure (p_mv g0)) ?_
    refine wa_step (v := (.i .i64 x30)) (a_pure (p_mv rfl)) ?_
    refine wa_step (v := (.i .i64 x36)) (a_pure (p_mv rfl)) ?_
    have hq := bindO_inv hr
    clear hr
    obtain ⟨v51, e51, hr⟩ := hq
    refine wa_step (v := v51) (a_pure (o_build (qc rfl (qc rfl (qc rfl (qc rfl qn)))) e51)) ?_
    have hq := bindO_inv hr
    clear hr
    obtain ⟨v52, e52, hr⟩ := hq
    have hq := asI_inv hr
    clear hr
    obtain ⟨x52, rfl, hr⟩ := hq
    refine wa_step (v := (.i .u8 x52)) (a_call (mc rfl (mc rfl mn)) (callN_le hM.call e52)) ?_
    refine wa_step (v := v47) (a_pure (p_mv rfl)) ?_
    have hq := bindO_inv hr
    clear hr
    obtain ⟨v54, e54, hr⟩ := hq
    refine wa_step (v := v54) (a_pure (o_nilck rfl e54)) ?_
    have hq := bindO_inv hr
    clear hr
    obtain ⟨v55, e55, hr⟩ := hq
    have hq := asI_inv hr
    clear hr
    obtain ⟨x55, rfl, hr⟩ := hq
    refine wa_step (v := (.i .u8 x55)) (a_ld rfl e55) ?_
    have hq := forceI_inv hr
    clear hr
    obtain ⟨x56, e56, hr⟩ := hq
    refine wa_step (v := (.i .u8 x56)) (a_pure (p_bin rfl rfl (b_andNot.trans (ci e56)))) ?_
    refine wa_step (v := (.i .u8 x56)) (a_pure (p_mv rfl)) ?_
    refine wa_nil ?_
    refine ⟨m0, rfl, ?_⟩
    refine nx_norm ?_
    refine w_seq ?_
    refine w_seq ?_
    refine w_ops ?_
    refine wo_step (v := (.i .i64 x30)) (s_pure (p_mv rfl)) ?_
    have hq := forceB_inv hr
    clear hr
    obtain ⟨c58, e58, hr⟩ := hq
    refine wo_step (v := (.b c58)) (s_pure (p_bin rfl rfl (b_eql.trans (cb e58)))) ?_
    refine wo_nil ?_
    refine nx_norm ?_
    have hq := bindO_inv hr
    clear hr
    obtain ⟨o, hr, hk⟩ := hq
    refine jp_mono (J := g78_J0 v0 v1 x2 v3 x30 x36 v47 m0 o) ?_ ?_
    · clear hk
      have hq := cond_inv hr
      clear hr
      rcases hq with ⟨rfl, hr⟩ | ⟨rfl, hr⟩
      · refine w_condT rfl ?_
        refine w_ops ?_
        refine wo_step (v := (.i .u8 x56)) (s_pure (p_mv rfl)) ?_
        refine wo_step (v := (.i .i64 x36)) (s_pure (p_mv rfl)) ?_
        have hq := chk_inv hr
        clear hr
        obtain ⟨hc61, hr⟩ := hq
        have hq := forceI_inv hr
        clear hr
        obtain ⟨x61, e61, hr⟩ := hq
        refine wo_step (v := (.i .u8 x61)) (s_pure (p_bin rfl rfl ((b_shl hc61).trans (ci e61)))) ?_
        have hq := forceI_inv hr
        clear hr
        obtain ⟨x62, e62, hr⟩ := hq
        refine wo_step (v := (.i .u8 x62)) (s_pure (p_bin rfl rfl (b_and.trans (ci e62)))) ?_
        refine wo_step (v := (.i .u8 x62)) (s_pure (p_mv rfl)) ?_
        refine wo_nil ?_
        cases hr
        exact ⟨_, _, rfl, rfl, rfl, gl rfl, gl g0, gl g1, gl g2, gl g3, gl rfl, gl rfl, gl rfl⟩
      · refine w_condF rfl ?_
        refine w_skip ?_
        cases hr
        exact ⟨_, _, rfl, rfl, rfl, gl rfl, gl g0, gl g1, gl g2, gl g3, gl rfl, gl rfl, gl rfl⟩
    · have hr := hk
      clear hk
      obtain ⟨x12, ho⟩ : ∃ z, z = o := ⟨_, rfl⟩
      subst ho
      rintro _ mm_3 t_1 ⟨rfl, rfl, g12, g0, g1, g2, g3, g9, g10, g11⟩
      refine nx_norm ?_
      refine w_seq ?_
      refine w_block ?_
      have hq := bindO_inv hr
      clear hr
      obtain ⟨o_1, hl, hr⟩ := hq
      obtain ⟨n, hl⟩ := hM.loop _ _ _ hl
      refine jp_mono (w_loop _ (g78_I1 v0 v1 x2 v3 x30 x36 v47) (g78_J1 v0 v1 x2 v3 x30 x36 v47) ?_ n _ _ _ _ hl ⟨rfl, gl g12, gl g0, gl g1, gl g2, gl g3, gl g9, gl g10, gl g11⟩) ?_
      · clear hr hl
        intro s mm_2 t_2 o hi hr
        obtain ⟨x12_1, m_1⟩ := s
        obtain ⟨rfl, g12, g0, g1, g2, g3, g9, g10, g11⟩ := hi
        unfold g78_b1 at hr
        refine w_seq ?_
        refine w_seq ?_
        refine w_ops ?_
        refine wo_step (v := (.i .u8 x12_1)) (s_pure (p_mv g12)) ?_
        have hq := forceB_inv hr
        clear hr
        obtain ⟨c64, e64, hr⟩ := hq
        refine wo_step (v := (.b c64)) (s_pure (p_bin rfl rfl (b_neq.trans (cb e64)))) ?_
        refine wo_nil ?_
        refine nx_norm ?_
        have hq := cond_inv hr
        clear hr
        rcases hq with ⟨rfl, hr⟩ | ⟨rfl, hr⟩
        · refine w_condT rfl ?_
          refine w_skip ?_
          refine nx_norm ?_
          refine w_seq ?_
          refine w_block ?_
          refine w_seq ?_
          refine w_ops ?_
          refine wo_step (v := (.i .i64 x30)) (s_pure (p_mv g9)) ?_
          refine wo_step (v := (.i .i64 x36)) (s_pure (p_mv g10)) ?_
          refine wo_step (v := (.i .u8 x12_1)) (s_pure (p_mv g12)) ?_
          have hq := bindP_inv hr
          clear hr
          obtain ⟨v72, m_2, e72, hr⟩ := hq
          have hq := asI_inv hr
          clear hr
          obtain ⟨x72, rfl, hr⟩ := hq
          refine wo_step (v := (.i .i64 x72)) (s_call (mc rfl mn) (callM_le hM.call e72)) ?_
          have hq := bindO_inv hr
          clear hr
          obtain ⟨v73, e73, hr⟩ := hq
          refine wo_step (v := v73) (s_pure (o_build (qc rfl (qc rfl (qc rfl qn))) e73)) ?_
          have hq := bindP_inv hr
          clear hr
          obtain ⟨v13, m_3, e13, hr⟩ := hq
          refine wo_step (v := v13) (s_al e13) ?_
          have hq := bindP_inv hr
          clear hr
          obtain ⟨vn, m_4, en, hr⟩ := hq
          refine wo_stepN (s_st rfl rfl en) ?_
          refine wo_nil ?_
          refine nx_norm ?_
          refine w_seq ?_
          refine w_ops ?_
          refine wo_step (v := v0) (s_pure (p_mv g0)) ?_
          have hq := bindO_inv hr
          clear hr
          obtain ⟨v75, e75, hr⟩ := hq
          refine wo_step (v := v75) (s_ld rfl e75) ?_
          have hq := bindP_inv hr
          clear hr
          obtain ⟨v76, m_5, e76, hr⟩ := hq
          refine wo_step (v := v76) (s_call (mc rfl (mc rfl mn)) (callM_le hM.call e76)) ?_
          refine wo_nil ?_
          refine nx_norm ?_
          refine w_seq ?_
          refine w_any ?_
          refine wa_step (v := v47) (a_pure (p_mv g11)) ?_
          have hq := bindO_inv hr
          clear hr
          obtain ⟨v78, e78, hr⟩ := hq
          refine wa_step (v := v78) (a_pure (o_nilck rfl e78)) ?_
          have hq := bindO_inv hr
          clear hr
          obtain ⟨v79, e79, hr⟩ := hq
          have hq := asI_inv hr
          clear hr
          obtain ⟨x79, rfl, hr⟩ := hq
          refine wa_step (v := (.i .u8 x79)) (a_ld rfl e79) ?_
          have hq := bindO_inv hr
          clear hr
          obtain ⟨v80, e80, hr⟩ := hq
          refine wa_step (v := v80) (a_pure (o_ixA rfl rfl e80)) ?_
          have hq := bindO_inv hr
          clear hr
          obtain ⟨v81, e81, hr⟩ := hq
          have hq := asI_inv hr
          clear hr
          obtain ⟨x81, rfl, hr⟩ := hq
          refine wa_step (v := (.i .i64 x81)) (a_ld rfl e81) ?_
          have hq := chk_inv hr
          clear hr
          obtain ⟨hc82, hr⟩ := hq
          have hq := forceI_inv hr
          clear hr
          obtain ⟨x82, e82, hr⟩ := hq
          refine wa_step (v := (.i .u8 x82)) (a_pure (p_bin rfl rfl ((b_shl hc82).trans (ci e82)))) ?_
          have hq := forceI_inv hr
          clear hr
          obtain ⟨x83, e83, hr⟩ := hq
          refine wa_step (v := (.i .u8 x83)) (a_pure (p_bin rfl rfl (b_or.trans (ci e83)))) ?_
          have hq := bindO_inv hr
          clear hr
          obtain ⟨v84, e84, hr⟩ := hq
          refine wa_step (v := v84) (a_pure (o_nilck rfl e84)) ?_
          have hq := asP_inv hr
          clear hr
          obtain ⟨qs, eqs, hr⟩ := hq
          refine wa_stepN (a_st (Eq.trans (b := v84) rfl eqs) rfl rfl) ?_
          have hq := bindO_inv hr
          clear hr
          obtain ⟨m_6, ew, hr⟩ := hq
          refine wa_nil ?_
          refine ⟨m_6, ew, ?_⟩
          refine nx_norm ?_
          refine w_seq ?_
          refine w_seq ?_
          refine w_ops ?_
          refine wo_step (v := v0) (s_pure (p_mv g0)) ?_
          refine wo_step (v := v1) (s_pure (p_mv g1)) ?_
          refine wo_step (v := (.i .i64 x2)) (s_pure (p_mv g2)) ?_
          have hq := forceI_inv hr
          clear hr
          obtain ⟨x88, e88, hr⟩ := hq
          refine wo_step (v := (.i .i64 x88)) (s_pure (p_bin rfl rfl (b_add.trans (ci e88)))) ?_
          refine wo_step (v := v3) (s_pure (p_mv g3)) ?_
          have hq := bindP_inv hr
          clear hr
          obtain ⟨v90, m_7, e90, hr⟩ := hq
          have hq := asB_inv hr
          clear hr
          obtain ⟨c90, rfl, hr⟩ := hq
          refine wo_step (v := (.b c90)) (s_call (mc rfl (mc rfl (mc rfl (mc rfl mn)))) (callM_le hM.call e90)) ?_
          refine wo_nil ?_
          refine nx_norm ?_
          have hq := cond_inv hr
          clear hr
          rcases hq with ⟨rfl, hr⟩ | ⟨rfl, hr⟩
          · refine w_condT rfl ?_
            refine w_seq ?_
            refine w_ops ?_
            refine wo_step (v := (.b true)) (s_pure (p_mv rfl)) ?_
            refine wo_nil ?_
            refine nx_norm ?_
            refine w_ret ?_
            refine nx_ret ?_
            refine bk_ret ?_
            refine nx_ret ?_
            cases hr
            exact ⟨_, _, rfl, ne_norm_ret, rfl, rfl, gl rfl⟩
          · refine w_condF rfl ?_
            refine w_skip ?_
            refine nx_norm ?_
            refine w_seq ?_
            refine w_any ?_
            refine wa_step (v := v47) (a_pure (p_mv g11)) ?_
            have hq := bindO_inv hr
            clear hr
            obtain ⟨v92, e92, hr⟩ := hq
            refine wa_step (v := v92) (a_pure (o_nilck rfl e92)) ?_
            have hq := bindO_inv hr
            clear hr
            obtain ⟨v93, e93, hr⟩ := hq
            have hq := asI_inv hr
            clear hr
            obtain ⟨x93, rfl, hr⟩ := hq
            refine wa_step (v := (.i .u8 x93)) (a_ld rfl e93) ?_
            have hq := bindO_inv hr
            clear hr
            obtain ⟨v94, e94, hr⟩ := hq
            refine wa_step (v := v94) (a_pure (o_ixA rfl rfl e94)) ?_
            have hq := bindO_inv hr
            clear hr
            obtain ⟨v95, e95, hr⟩ := hq
            have hq := asI_inv hr
            clear hr
            obtain ⟨x95, rfl, hr⟩ := hq
            refine wa_step (v := (.i .i64 x95)) (a_ld rfl e95) ?_
            have hq := chk_inv hr
            clear hr
            obtain ⟨hc96, hr⟩ := hq
            have hq := forceI_inv hr
            clear hr
            obtain ⟨x96, e96, hr⟩ := hq
            refine wa_step (v := (.i .u8 x96)) (a_pure (p_bin rfl rfl ((b_shl hc96).trans (ci e96)))) ?_
            have hq := forceI_inv hr
            clear hr
            obtain ⟨x97, e97, hr⟩ := hq
            refine wa_step (v := (.i .u8 x97)) (a_pure (p_bin rfl rfl (b_andNot.trans (ci e97)))) ?_
            have hq := bindO_inv hr
            clear hr
            obtain ⟨v98, e98, hr⟩ := hq
            refine wa_step (v := v98) (a_pure (o_nilck rfl e98)) ?_
            have hq := asP_inv hr
            clear hr
            obtain ⟨qs_1, eqs_1, hr⟩ := hq
            refine wa_stepN (a_st (Eq.trans (b := v98) rfl eqs_1) rfl rfl) ?_
            have hq := bindO_inv hr
            clear hr
            obtain ⟨m_8, ew_1, hr⟩ := hq
            refine wa_nil ?_
            refine ⟨m_8, ew_1, ?_⟩
            refine nx_norm ?_
            refine w_ops ?_
            refine wo_step (v := v0) (s_pure (p_mv g0)) ?_
            have hq := bindO_inv hr
            clear hr
            obtain ⟨v100, e100, hr⟩ := hq
            refine wo_step (v := v100) (s_ld rfl e100) ?_
            have hq := bindP_inv hr
            clear hr
            obtain ⟨v101, m_9, e101, hr⟩ := hq
            refine wo_step (v := v101) (s_call (mc rfl (mc rfl mn)) (callM_le hM.call e101)) ?_
            refine wo_nil ?_
            refine bk_norm ?_
            refine nx_norm ?_
            refine w_ops ?_
            refine wo_step (v := (.i .u8 x12_1)) (s_pure (p_mv g12)) ?_
            refine wo_step (v := (.i .u8 x12_1)) (s_pure (p_mv g12)) ?_
            have hq := forceI_inv hr
            clear hr
            obtain ⟨x67, e67, hr⟩ := hq
            refine wo_step (v := (.i .u8 x67)) (s_pure (p_bin rfl rfl (b_sub.trans (ci e67)))) ?_
            have hq := forceI_inv hr
            clear hr
            obtain ⟨x68, e68, hr⟩ := hq
            refine wo_step (v := (.i .u8 x68)) (s_pure (p_bin rfl rfl (b_and.trans (ci e68)))) ?_
            refine wo_step (v := (.i .u8 x68)) (s_pure (p_mv rfl)) ?_
            refine wo_nil ?_
            cases hr
            exact ⟨_, _, rfl, rfl, rfl, gl rfl, gl g0, gl g1, gl g2, gl g3, gl g9, gl g10, gl g11⟩
        · refine w_condF rfl ?_
          refine w_exit ?_
          refine nx_exit ?_
          cases hr
          exact ⟨_, _, rfl, ne_norm_exit, rfl, rfl⟩
      · rcases o_1 with o_1 | o_1
        · obtain ⟨m_10, ho⟩ : ∃ z, z = o_1 := ⟨_, rfl⟩
          subst ho
          rintro _ mm t_3 ⟨rfl, rfl⟩
          refine bk_hit ?_
          refine nx_norm ?_
          refine w_seq ?_
          refine w_ops ?_
          refine wo_step (v := (.b false)) (s_pure (p_mv rfl)) ?_
          refine wo_nil ?_
          refine nx_norm ?_
          refine w_ret ?_
          exact qf ret_ok (rt rfl rn) hr
        · obtain ⟨c8, m_11⟩ := o_1
          rintro _ mm_1 t_4 ⟨rfl, rfl, g8⟩
          refine bk_ret ?_
          refine nx_ret ?_
          exact qf ret_ok (rt g8 rn) hr

/- dibber/bed.divisor -/
abbrev g80_I0 (m0 : Mm) (s : Int × Int) (m1 : Mm) (t1 : Tr) : Prop :=
  match s with
  | (x0_1, x1_1) => m0 = m1 ∧ t1.get 0 = (.i .i64 x0_1) ∧ t1.get 1 = (.i .i64 x1_1)
abbrev g80_J0 (m0 : Mm) (o : Int) (e : AExit) (m1 : Mm) (t1 : Tr) : Prop :=
  match o with
  | y0 => e = (.exit 0) ∧ m0 = m1 ∧ t1.get 0 = (.i .i64 y0)
def g80_b0 (M : Means) (ro : List ABlk) (m0 : Mm) (x0_1 : Int) (x1_1 : Int) : Option ((Int × Int) ⊕ (Int)) :=
  forceB (!eqI x1_1 0) fun c6 =>
  cond c6 (
    chk (!eqI x1_1 (.ofNat 0)) <|
    forceI (Int.tmod x0_1 x1_1) fun x10 =>
    some (.inl (x1_1, x10))) (
    some (.inr x0_1))
def g80 (M : Means) (ro : List ABlk) (x0 : Int) (x1 : Int) (m0 : Mm) : Option (AVal × Heap × Nat × Nat) :=
  bindO (M.loop (S := Int × Int) (R := Int) (fun s => g80_b0 M ro m0 s.1 s.2) (x0, x1)) fun x0_2 =>
  finM m0.h.length (tupA [(.i .i64 x0_2)]) m0

theorem g80_ok {ro : List ABlk} {O : Caller} {M : Means} (hM : M.Ok ⟨F, O⟩ ro) {x0 x1 h r} (ho : O 80 [(.i .i64 x0), (.i .i64 x1)] h = none) (hr : g80 M ro x0 x1 ⟨h, h.length, h.length⟩ = some r) : callX ⟨F, O⟩ ro 80 [(.i .i64 x0), (.i .i64 x1)] h = some r := by
  refine callX_of (F := ⟨F, O⟩) (fn := fn80) (g := g80 M ro x0 x1) ho rfl rfl hr ?_
  clear ho
  clear hr
  intro m0 t0 ht hr
  have g0 : t0.get 0 = (.i .i64 x0) := ht 0
  have g1 : t0.get 1 = (.i .i64 x1) := ht 1
  clear ht
  unfold g80 at hr
  refine w_seq ?_
  refine w_ops ?_
  refine wo_step (v := (.i .i64 0)) (s_pure (p_mv rfl)) ?_
  refine wo_nil ?_
  refine nx_norm ?_
  refine w_seq ?_
  refine w_block ?_
  have hq := bindO_inv hr
  clear hr
  obtain ⟨o, hl, hr⟩ := hq
  obtain ⟨n, hl⟩ := hM.loop _ _ _ hl
  refine jp_mono (w_loop _ (g80_I0 m0) (g80_J0 m0) ?_ n _ _ _ _ hl ⟨rfl, gl g0, gl g1⟩) ?_
  · clear hr hl
    intro s mm_1 t_1 o hi hr
    obtain ⟨x0_1, x1_1⟩ := s
    obtain ⟨rfl, g0, g1⟩ := hi
    unfold g80_b0 at hr
    refine w_seq ?_
    refine w_seq ?_
    refine w_ops ?_
    refine wo_step (v := (.i .i64 x1_1)) (s_pure (p_mv g1)) ?_
    have hq := forceB_inv hr
    clear hr
    obtain ⟨c6, e6, hr⟩ := hq
    refine wo_step (v := (.b c6)) (s_pure (p_bin rfl rfl (b_neq.trans (cb e6)))) ?_
    refine wo_nil ?_
    refine nx_norm ?_
    have hq := cond_inv hr
    clear hr
    rcases hq with ⟨rfl, hr⟩ | ⟨rfl, hr⟩
    · refine w_condT rfl ?_
      refine w_skip ?_
      refine nx_norm ?_
      refine w_block ?_
      refine w_ops ?_
      refine wo_step (v := (.i .i64 x1_1)) (s_pure (p_mv g1)) ?_
      refine wo_step (v := (.i .i64 x0_1)) (s_pure (p_mv g0)) ?_
      refine wo_step (v := (.i .i64 x1_1)) (s_pure (p_mv g1)) ?_
      have hq := chk_inv hr
      clear hr
      obtain ⟨hc10, hr⟩ := hq
      have hq := forceI_inv hr
      clear hr
      obtain ⟨x10, e10, hr⟩ := hq
      refine wo_step (v := (.i .i64 x10)) (s_pure (p_bin rfl rfl ((b_rem hc10).trans (ci e10)))) ?_
      refine wo_step (v := (.i .i64 x1_1)) (s_pure (p_mv rfl)) ?_
      refine wo_step (v := (.i .i64 x10)) (s_pure (p_mv rfl)) ?_
      refine wo_nil ?_
      refine bk_norm ?_
      cases hr
      exact ⟨_, _, rfl, rfl, rfl, gl rfl, gl rfl⟩
    · refine w_condF rfl ?_
      refine w_exit ?_
      refine nx_exit ?_
      cases hr
      exact ⟨_, _, rfl, ne_norm_exit, rfl, rfl, gl g0⟩
  · obtain ⟨x0_2, ho⟩ : ∃ z, z = o := ⟨_, rfl⟩
    subst ho
    rintro _ mm t_2 ⟨rfl, rfl, g0⟩
    refine bk_hit ?_
    refine nx_norm ?_
    refine w_seq ?_
    refine w_ops ?_
    refine wo_step (v := (.i .i64 x0_2)) (s_pure (p_mv g0)) ?_
    refine wo_step (v := (.i .i64 x0_2)) (s_pure (p_mv rfl)) ?_
    refine wo_nil ?_
    refine nx_norm ?_
    refine w_ret ?_
    exact qf ret_ok (rt rfl rn) hr

/- dibber/dibberlaw01.part -/
abbrev g82_I0 (v0 : AVal) (v1 : AVal) (x2 : Int) (v3 : AVal) (x18 : Int) (s : Int × Mm) (m1 : Mm) (t1 : Tr) : Prop :=
  match s with
  | (x11, m_1) => m_1 = m1 ∧ t1.get 11 = (.i .i64 x11) ∧ t1.get 0 = v0 ∧ t1.get 1 = v1 ∧ t1.get 2 = (.i .i64 x2) ∧ t1.get 3 = v3 ∧ t1.get 9 = (.i .i64 x18)
abbrev g82_J0 (v0 : AVal) (v1 : AVal) (x2 : Int) (v3 : AVal) (x18 : Int) (o : Mm) (e : AExit) (m1 : Mm) (t1 : Tr) : Prop :=
  match o with
  | mo => e = (.exit 0) ∧ mo = m1 ∧ t1.get 0 = v0 ∧ t1.get 1 = v1 ∧ t1.get 2 = (.i .i64 x2) ∧ t1.get 3 = v3 ∧ t1.get 9 = (.i .i64 x18)
def g82_b0 (M : Means) (ro : List ABlk) (v0 : AVal) (v1 : AVal) (x2 : Int) (v3 : AVal) (x18 : Int) (x11 : Int) (m_1 : Mm) : Option ((Int × Mm) ⊕ (Mm)) :=
  forceB (ltI x11 x18) fun c26 =>
  cond c26 (
    bindO (evP .e (.ixS 1 (.c v1) (.c (.i .i64 x11)))) fun v31 =>
    bindO (ldA ro m_1.h true 1 v31) fun v32 =>
    bindO (evP .e (.ixS 1 (.c v3) (.c (.i .i64 x11)))) fun v35 =>
    bindO (ldA ro m_1.h true 1 v35) fun v36 =>
    asI .i64 v36 fun x36 =>
    bindO (evP .e (.ixS 1 (.c v32) (.c (.i .i64 x36)))) fun v37 =>
    asP v37 fun qs =>
    bindO (writesM ro [] [(qs, AVal.cells (.b true))] ⟨m_1.h, m_1.lw, m_1.lp⟩) fun m_2 =>
    forceI (wr .i64 (x11 + 1)) fun x28 =>
    some (.inl (x28, m_2))) (
    some (.inr m_1))
abbrev g82_I1 (v1 : AVal) (v3 : AVal) (x18 : Int) (c42 : Bool) (s : Int × Mm) (m1 : Mm) (t1 : Tr) : Prop :=
  match s with
  | (x13, m_5) => m_5 = m1 ∧ t1.get 13 = (.i .i64 x13) ∧ t1.get 1 = v1 ∧ t1.get 3 = v3 ∧ t1.get 9 = (.i .i64 x18) ∧ t1.get 12 = (.b c42)
abbrev g82_J1 (v1 : AVal) (v3 : AVal) (x18 : Int) (c42 : Bool) (o : Mm) (e : AExit) (m1 : Mm) (t1 : Tr) : Prop :=
  match o with
  | mo => e = (.exit 2) ∧ mo = m1 ∧ t1.get 12 = (.b c42)
def g82_b1 (M : Means) (ro : List ABlk) (v1 : AVal) (v3 : AVal) (x18 : Int) (c42 : Bool) (x13 : Int) (m_5 : Mm) : Option ((Int × Mm) ⊕ (Mm)) :=
  forceB (ltI x13 x18) fun c45 =>
  cond c45 (
    bindO (evP .e (.ixS 1 (.c v1) (.c (.i .i64 x13)))) fun v50 =>
    bindO (ldA ro m_5.h true 1 v50) fun v51 =>
    bindO (evP .e (.ixS 1 (.c v3) (.c (.i .i64 x13)))) fun v54 =>
    bindO (ldA ro m_5.h true 1 v54) fun v55 =>
    asI .i64 v55 fun x55 =>
    bindO (evP .e (.ixS 1 (.c v51) (.c (.i .i64 x55)))) fun v56 =>
    asP v56 fun qs_1 =>
    bindO (writesM ro [] [(qs_1, AVal.cells (.b false))] ⟨m_5.h, m_5.lw, m_5.lp⟩) fun m_6 =>
    forceI (wr .i64 (x13 + 1)) fun x47 =>
    some (.inl (x47, m_6))) (
    some (.inr m_5))
abbrev g82_I2 (v0 : AVal) (v1 : AVal) (x2 : Int) (v3 : AVal) (x18 : Int) (x20 : Int) (s : Int × Mm) (m1 : Mm) (t1 : Tr) : Prop :=
  match s with
  | (x14, m_8) => m_8 = m1 ∧ t1.get 14 = (.i .i64 x14) ∧ t1.get 0 = v0 ∧ t1.get 1 = v1 ∧ t1.get 2 = (.i .i64 x2) ∧ t1.get 3 = v3 ∧ t1.get 9 = (.i .i64 x18) ∧ t1.get 10 = (.i .i64 x20)
abbrev g82_J2 (v0 : AVal) (v1 : AVal) (x2 : Int) (v3 : AVal) (x18 : Int) (x20 : Int) (o : (Mm ⊕ (Bool × Mm))) (e : AExit) (m1 : Mm) (t1 : Tr) : Prop :=
  match o with
  | (.inl mo) => e = (.exit 4) ∧ mo = m1
  | (.inr (y8, mo)) => e = .ret ∧ mo = m1 ∧ t1.get 8 = (.b y8)
abbrev g82_I3 (v0 : AVal) (v1 : AVal) (x2 : Int) (v3 : AVal) (x18 : Int) (x20 : Int) (x14 : Int) (m_8 : Mm) (s : Bool × Int) (m1 : Mm) (t1 : Tr) : Prop :=
  match s with
  | (c15, x16) => m_8 = m1 ∧ t1.get 15 = (.b c15) ∧ t1.get 16 = (.i .i64 x16) ∧ t1.get 0 = v0 ∧ t1.get 1 = v1 ∧ t1.get 2 = (.i .i64 x2) ∧ t1.get 3 = v3 ∧ t1.get 9 = (.i .i64 x18) ∧ t1.get 10 = (.i .i64 x20) ∧ t1.get 14 = (.i .i64 x14)
abbrev g82_J3 (v0 : AVal) (v1 : AVal) (x2 : Int) (v3 : AVal) (x18 : Int) (x20 : Int) (x14 : Int) (m_8 : Mm) (o : Bool) (e : AExit) (m1 : Mm) (t1 : Tr) : Prop :=
  match o with
  | y15 => e = (.exit 6) ∧ m_8 = m1 ∧ t1.get 15 = (.b y15) ∧ t1.get 0 = v0 ∧ t1.get 1 = v1 ∧ t1.get 2 = (.i .i64 x2) ∧ t1.get 3 = v3 ∧ t1.get 9 = (.i .i64 x18) ∧ t1.get 10 = (.i .i64 x20) ∧ t1.get 14 = (.i .i64 x14)
abbrev g82_J4 (v0 : AVal) (v1 : AVal) (x2 : Int) (v3 : AVal) (x18 : Int) (x20 : Int) (x14 : Int) (x16 : Int) (m_8 : Mm) (o : Bool) (m1 : Mm) (t1 : Tr) : Prop :=
  match o with
  | c84 => m_8 = m1 ∧ t1.get 84 = (.b c84) ∧ t1.get 0 = v0 ∧ t1.get 1 = v1 ∧ t1.get 2 = (.i .i64 x2) ∧ t1.get 3 = v3 ∧ t1.get 9 = (.i .i64 x18) ∧ t1.get 10 = (.i .i64 x20) ∧ t1.get 14 = (.i .i64 x14) ∧ t1.get 16 = (.i .i64 x16)
abbrev g82_J5 (v0 : AVal) (v1 : AVal) (x2 : Int) (v3 : AVal) (x18 : Int) (x20 : Int) (x14 : Int) (x16 : Int) (m_8 : Mm) (o : Bool) (m1 : Mm) (t1 : Tr) : Prop :=
  match o with
  | c104 => m_8 = m1 ∧ t1.get 104 = (.b c104) ∧ t1.get 0 = v0 ∧ t1.get 1 = v1 ∧ t1.get 2 = (.i .i64 x2) ∧ t1.get 3 = v3 ∧ t1.get 9 = (.i .i64 x18) ∧ t1.get 10 = (.i .i64 x20) ∧ t1.get 14 = (.i .i64 x14) ∧ t1.get 16 = (.i .i64 x16)
def g82_b3 (M : Means) (ro : List ABlk) (v0 : AVal) (v1 : AVal) (x2 : Int) (v3 : AVal) (x18 : Int) (x20 : Int) (x14 : Int) (m_8 : Mm) (c15 : Bool) (x16 : Int) : Option ((Bool × Int) ⊕ (Bool)) :=
  forceB (ltI x16 x20) fun c73 =>
  cond c73 (
    bindO (cond c15 (
      bindO (evP .e (.ixS 1 (.c v3) (.c (.i .i64 x16)))) fun v80 =>
      bindO (ldA ro m_8.h true 1 v80) fun v81 =>
      asI .i64 v81 fun x81 =>
      forceB (!eqI x81 x14) fun c83 =>
      some c83) (
      some false)) fun c84 =>
    bindO (cond c84 (
      bindO (evP .e (.ixS 1 (.c v0) (.c (.i .i64 x16)))) fun v88 =>
      bindO (ldA ro m_8.h true 1 v88) fun v89 =>
      bindO (evP .e (.ixS 1 (.c v3) (.c (.i .i64 x16)))) fun v92 =>
      bindO (ldA ro m_8.h true 1 v92) fun v93 =>
      asI .i64 v93 fun x93 =>
      bindO (evP .e (.ixS 1 (.c v89) (.c (.i .i64 x93)))) fun v94 =>
      bindO (ldA ro m_8.h true 1 v94) fun v95 =>
      asI .i64 v95 fun x95 =>
      bindO (evP .e (.ixS 1 (.c v0) (.c (.i .i64 x20)))) fun v98 =>
      bindO (ldA ro m_8.h true 1 v98) fun v99 =>
      bindO (evP .e (.ixS 1 (.c v99) (.c (.i .i64 x14)))) fun v101 =>
      bindO (ldA ro m_8.h true 1 v101) fun v102 =>
      asI .i64 v102 fun x102 =>
      forceB (!eqI x95 x102) fun c103 =>
      some c103) (
      some false)) fun c104 =>
    forceI (wr .i64 (x16 + 1)) fun x75 =>
    some (.inl (c104, x75))) (
    some (.inr c15))
abbrev g82_J6 (v0 : AVal) (v1 : AVal) (x2 : Int) (v3 : AVal) (x18 : Int) (x20 : Int) (x14 : Int) (o : Bool × Mm) (m1 : Mm) (t1 : Tr) : Prop :=
  match o with
  | (c118, m_9) => m_9 = m1 ∧ t1.get 118 = (.b c118) ∧ t1.get 0 = v0 ∧ t1.get 1 = v1 ∧ t1.get 2 = (.i .i64 x2) ∧ t1.get 3 = v3 ∧ t1.get 9 = (.i .i64 x18) ∧ t1.get 10 = (.i .i64 x20) ∧ t1.get 14 = (.i .i64 x14)
def g82_b2 (M : Means) (ro : List ABlk) (v0 : AVal) (v1 : AVal) (x2 : Int) (v3 : AVal) (x18 : Int) (x20 : Int) (x14 : Int) (m_8 : Mm) : Option ((Int × Mm) ⊕ ((Mm ⊕ (Bool × Mm)))) :=
  forceB (ltI x14 x18) fun c60 =>
  cond c60 (
    bindO (evP .e (.ixS 1 (.c v1) (.c (.i .i64 x20)))) fun v65 =>
    bindO (ldM ro m_8 true 1 v65) fun v66 =>
    bindO (evP .e (.ixS 1 (.c v66) (.c (.i .i64 x14)))) fun v68 =>
    bindO (ldM ro m_8 true 1 v68) fun v69 =>
    asB v69 fun c69 =>
    forceB (!c69) fun c70 =>
    bindO (M.loop (S := Bool × Int) (R := Bool) (fun s => g82_b3 M ro v0 v1 x2 v3 x18 x20 x14 m_8 s.1 s.2) (c70, 0)) fun c15_1 =>
    bindO (cond c15_1 (
      bindO (evP .e (.slS 1 (.c v3) none (some (.c (.i .i64 x20))) (some (.c (.i .i64 x20))))) fun v113 =>
      bindP (stepM ro m_8 (.bsl 3 1 [(AVal.i IntKind.i64 0)] 1 [((0, 1), .c (.i .i64 x14))])) fun v115 m_10 =>
      bindP (stepM ro m_10 (.app 3 1 8 [(AVal.i IntKind.i64 0)] (.c v113) (.c v115))) fun v116 m_11 =>
      bindP (callM M.call m_11 82 [v0, v1, (.i .i64 x2), v116]) fun v117 m_12 =>
      asB v117 fun c117 =>
      some (c117, m_12)) (
      some (false, m_8))) fun ⟨c118, m_9⟩ =>
    cond c118 (
      some (.inr (.inr (true, m_9)))) (
      forceI (wr .i64 (x14 + 1)) fun x62 =>
      some (.inl (x62, m_9)))) (
    some (.inr (.inl m_8)))
def g82 (M : Means) (ro : List ABlk) (v0 : AVal) (v1 : AVal) (x2 : Int) (v3 : AVal) (m0 : Mm) : Option (AVal × Heap × Nat × Nat) :=
  bindO (evP .e (.len false (.c v0))) fun v18 =>
  asI .i64 v18 fun x18 =>
  bindO (evP .e (.len false (.c v3))) fun v20 =>
  asI .i64 v20 fun x20 =>
  forceB (eqI x20 x18) fun c23 =>
  cond c23 (
    bindO (M.loop (S := Int × Mm) (R := Mm) (fun s => g82_b0 M ro v0 v1 x2 v3 x18 s.1 s.2) (0, m0)) fun m_3 =>
    forceI (wr .i64 (x2 + 1)) fun x41 =>
    bindP (callM M.call m_3 49 [v0, v1, (.i .i64 x41)]) fun v42 m_4 =>
    asB v42 fun c42 =>
    bindO (M.loop (S := Int × Mm) (R := Mm) (fun s => g82_b1 M ro v1 v3 x18 c42 s.1 s.2) (0, m_4)) fun m_7 =>
    finM m0.h.length (tupA [(.b c42)]) m_7) (
    bindO (M.loop (S := Int × Mm) (R := (Mm ⊕ (Bool × Mm))) (fun s => g82_b2 M ro v0 v1 x2 v3 x18 x20 s.1 s.2) (0, m0)) fun o_6 => match o_6 with
    | (.inl m_13) =>
      finM m0.h.length (tupA [(.b false)]) m_13
    | (.inr (c8, m_14)) =>
      finM m0.h.length (tupA [(.b c8)]) m_14)

theorem g82_ok {ro : List ABlk} {O : Caller} {M : Means} (hM : M.Ok ⟨F, O⟩ ro) {v0 v1 x2 v3 h r} (ho : O 82 [v0, v1, (.i .i64 x2), v3] h = none) (hr : g82 M ro v0 v1 x2 v3 ⟨h, h.length, h.length⟩ = some r) : callX ⟨F, O⟩ ro 82 [v0, v1, (.i .i64 x2), v3] h = some r := by
  refine callX_of (F := ⟨F, O⟩) (fn := fn82) (g := g82 M ro v0 v1 x2 v3) ho rfl rfl hr ?_
  clear ho
  clear hr
  intro m0 t0 ht hr
  have g0 : t0.get 0 = v0 := ht 0
  have g1 : t0.get 1 = v1 := ht 1
  have g2 : t0.get 2 = (.i .i64 x2) := ht 2
  have g3 : t0.get 3 = v3 := ht 3
  clear ht
  unfold g82 at hr
  refine w_seq ?_
  refine w_ops ?_
  refine wo_step (v := (.b false)) (s_pure (p_mv rfl)) ?_
  refine wo_nil ?_
  refine nx_norm ?_
  refine w_seq ?_
  refine w_ops ?_
  refine wo_step (v := v0) (s_pure (p_mv g0)) ?_
  have hq := bindO_inv hr
  clear hr
  obtain ⟨v18, e18, hr⟩ := hq
  have hq := asI_inv hr
  clear hr
  obtain ⟨x18, rfl, hr⟩ := hq
  refine wo_step (v := (.i .i64 x18)) (s_pure (o_len rfl e18)) ?_
  refine wo_step (v := (.i .i64 x18)) (s_pure (p_mv rfl)) ?_
  refine wo_nil ?_
  refine nx_norm ?_
  refine w_seq ?_
  refine w_ops ?_
  refine wo_step (v := v3) (s_pure (p_mv g3)) ?_
  have hq := bindO_inv hr
  clear hr
  obtain ⟨v20, e20, hr⟩ := hq
  have hq := asI_inv hr
  clear hr
  obtain ⟨x20, rfl, hr⟩ := hq
  refine wo_step (v := (.i .i64 x20)) (s_pure (o_len rfl e20)) ?_
  refine wo_step (v := (.i .i64 x20)) (s_pure (p_mv rfl)) ?_
  refine wo_nil ?_
  refine nx_norm ?_
  refine w_seq ?_
  refine w_seq ?_
  refine w_ops ?_
  refine wo_step (v := (.i .i64 x20)) (s_pure (p_mv rfl)) ?_
  refine wo_step (v := (.i .i64 x18)) (s_pure (p_mv rfl)) ?_
  have hq := forceB_inv hr
  clear hr
  obtain ⟨c23, e23, hr⟩ := hq
  refine wo_step (v := (.b c23)) (s_pure (p_bin rfl rfl (b_eql.trans (cb e23)))) ?_
  refine wo_nil ?_
  refine nx_norm ?_
  have hq := cond_inv hr
  clear hr
  rcases hq with ⟨rfl, hr⟩ | ⟨rfl, hr⟩
  · refine w_condT rfl ?_
    refine w_seq ?_
    refine w_seq ?_
    refine w_ops ?_
    refine wo_step (v := (.i .i64 0)) (s_pure (p_mv rfl)) ?_
    refine wo_nil ?_
    refine nx_norm ?_
    refine w_block ?_
    have hq := bindO_inv hr
    clear hr
    obtain ⟨o, hl_1, hr⟩ := hq
    obtain ⟨n_1, hl_1⟩ := hM.loop _ _ _ hl_1
    refine jp_mono (w_loop _ (g82_I0 v0 v1 x2 v3 x18) (g82_J0 v0 v1 x2 v3 x18) ?_ n_1 _ _ _ _ hl_1 ⟨rfl, gl rfl, gl g0, gl g1, gl g2, gl g3, gl rfl⟩) ?_
    · clear hr hl_1
      intro s mm_3 t_1 o hi hr
      obtain ⟨x11, m_1⟩ := s
      obtain ⟨rfl, g11, g0, g1, g2, g3, g9⟩ := hi
      unfold g82_b0 at hr
      refine w_seq ?_
      refine w_seq ?_
      refine w_ops ?_
      refine wo_step (v := (.i .i64 x11)) (s_pure (p_mv g11)) ?_
      refine wo_step (v := (.i .i64 x18)) (s_pure (p_mv g9)) ?_
      have hq := forceB_inv hr
      clear hr
      obtain ⟨c26, e26, hr⟩ := hq
      refine wo_step (v := (.b c26)) (s_pure (p_bin rfl rfl (b_lss.trans (cb e26)))) ?_
      refine wo_nil ?_
      refine nx_norm ?_
      have hq := cond_inv hr
      clear hr
      rcases hq with ⟨rfl, hr⟩ | ⟨rfl, hr⟩
      · refine w_condT rfl ?_
        refine w_skip ?_
        refine nx_norm ?_
        refine w_seq ?_
        refine w_block ?_
        refine w_any ?_
        refine wa_step (v := v1) (a_pure (p_mv g1)) ?_
        refine wa_step (v := (.i .i64 x11)) (a_pure (p_mv g11)) ?_
        have hq := bindO_inv hr
        clear hr
        obtain ⟨v31, e31, hr⟩ := hq
        refine wa_step (v := v31) (a_pure (o_ixS rfl rfl e31)) ?_
        have hq := bindO_inv hr
        clear hr
        obtain ⟨v32, e32, hr⟩ := hq
        refine wa_step (v := v32) (a_ld rfl e32) ?_
        refine wa_step (v := v3) (a_pure (p_mv g3)) ?_
        refine wa_step (v := (.i .i64 x11)) (a_pure (p_mv g11)) ?_
        have hq := bindO_inv hr
        clear hr
        obtain ⟨v35, e35, hr⟩ := hq
        refine wa_step (v := v35) (a_pure (o_ixS rfl rfl e35)) ?_
        have hq := bindO_inv hr
        clear hr
        obtain ⟨v36, e36, hr⟩ := hq
        have hq := asI_inv hr
        clear hr
        obtain ⟨x36, rfl, hr⟩ := hq
        refine wa_step (v := (.i .i64 x36)) (a_ld rfl e36) ?_
        have hq := bindO_inv hr
        clear hr
        obtain ⟨v37, e37, hr⟩ := hq
        refine wa_step (v := v37) (a_pure (o_ixS rfl rfl e37)) ?_
        have hq := asP_inv hr
        clear hr
        obtain ⟨qs, eqs, hr⟩ := hq
        refine wa_stepN (a_st (Eq.trans (b := v37) rfl eqs) rfl rfl) ?_
        have hq := bindO_inv hr
        clear hr
        obtain ⟨m_2, ew, hr⟩ := hq
        refine wa_nil ?_
        refine ⟨m_2, ew, ?_⟩
        refine bk_norm ?_
        refine nx_norm ?_
        refine w_ops ?_
        refine wo_step (v := (.i .i64 x11)) (s_pure (p_mv g11)) ?_
        have hq := forceI_inv hr
        clear hr
        obtain ⟨x28, e28, hr⟩ := hq
        refine wo_step (v := (.i .i64 x28)) (s_pure (p_bin rfl rfl (b_add.trans (ci e28)))) ?_
        refine wo_step (v := (.i .i64 x28)) (s_pure (p_mv rfl)) ?_
        refine wo_nil ?_
        cases hr
        exact ⟨_, _, rfl, rfl, rfl, gl rfl, gl g0, gl g1, gl g2, gl g3, gl g9⟩
      · refine w_condF rfl ?_
        refine w_exit ?_
        refine nx_exit ?_
        cases hr
        exact ⟨_, _, rfl, ne_norm_exit, rfl, rfl, gl g0, gl g1, gl g2, gl g3, gl g9⟩
    · obtain ⟨m_3, ho⟩ : ∃ z, z = o := ⟨_, rfl⟩
      subst ho
      rintro _ mm_2 t_2 ⟨rfl, rfl, g0, g1, g2, g3, g9⟩
      refine bk_hit ?_
      refine nx_norm ?_
      refine w_seq ?_
      refine w_ops ?_
      refine wo_step (v := v0) (s_pure (p_mv g0)) ?_
      refine wo_step (v := v1) (s_pure (p_mv g1)) ?_
      refine wo_step (v := (.i .i64 x2)) (s_pure (p_mv g2)) ?_
      have hq := forceI_inv hr
      clear hr
      obtain ⟨x41, e41, hr⟩ := hq
      refine wo_step (v := (.i .i64 x41)) (s_pure (p_bin rfl rfl (b_add.trans (ci e41)))) ?_
      have hq := bindP_inv hr
      clear hr
      obtain ⟨v42, m_4, e42, hr⟩ := hq
      have hq := asB_inv hr
      clear hr
      obtain ⟨c42, rfl, hr⟩ := hq
      refine wo_step (v := (.b c42)) (s_call (mc rfl (mc rfl (mc rfl mn))) (callM_le hM.call e42)) ?_
      refine wo_step (v := (.b c42)) (s_pure (p_mv rfl)) ?_
      refine wo_nil ?_
      refine nx_norm ?_
      refine w_seq ?_
      refine w_seq ?_
      refine w_ops ?_
      refine wo_step (v := (.i .i64 0)) (s_pure (p_mv rfl)) ?_
      refine wo_nil ?_
      refine nx_norm ?_
      refine w_block ?_
      have hq := bindO_inv hr
      clear hr
      obtain ⟨o_1, hl, hr⟩ := hq
      obtain ⟨n, hl⟩ := hM.loop _ _ _ hl
      refine jp_mono (w_loop _ (g82_I1 v1 v3 x18 c42) (g82_J1 v1 v3 x18 c42) ?_ n _ _ _ _ hl ⟨rfl, gl rfl, gl g1, gl g3, gl g9, gl rfl⟩) ?_
      · clear hr hl
        intro s mm_1 t_3 o hi hr
        obtain ⟨x13, m_5⟩ := s
        obtain ⟨rfl, g13, g1, g3, g9, g12⟩ := hi
        unfold g82_b1 at hr
        refine w_seq ?_
        refine w_seq ?_
        refine w_ops ?_
        refine wo_step (v := (.i .i64 x13)) (s_pure (p_mv g13)) ?_
        refine wo_step (v := (.i .i64 x18)) (s_pure (p_mv g9)) ?_
        have hq := forceB_inv hr
        clear hr
        obtain ⟨c45, e45, hr⟩ := hq
        refine wo_step (v := (.b c45)) (s_pure (p_bin rfl rfl (b_lss.trans (cb e45)))) ?_
        refine wo_nil ?_
        refine nx_norm ?_
        have hq := cond_inv hr
        clear hr
        rcases hq with ⟨rfl, hr⟩ | ⟨rfl, hr⟩
        · refine w_condT rfl ?_
          refine w_skip ?_
          refine nx_norm ?_
          refine w_seq ?_
          refine w_block ?_
          refine w_any ?_
          refine wa_step (v := v1) (a_pure (p_mv g1)) ?_
          refine wa_step (v := (.i .i64 x13)) (a_pure (p_mv g13)) ?_
          have hq := bindO_inv hr
          clear hr
          obtain ⟨v50, e50, hr⟩ := hq
          refine wa_step (v := v50) (a_pure (o_ixS rfl rfl e50)) ?_
          have hq := bindO_inv hr
          clear hr
          obtain ⟨v51, e51, hr⟩ := hq
          refine wa_step (v := v51) (a_ld rfl e51) ?_
          refine wa_step (v := v3) (a_pure (p_mv g3)) ?_
          refine wa_step (v := (.i .i64 x13)) (a_pure (p_mv g13)) ?_
          have hq := bindO_inv hr
          clear hr
          obtain ⟨v54, e54, hr⟩ := hq
          refine wa_step (v := v54) (a_pure (o_ixS rfl rfl e54)) ?_
          have hq := bindO_inv hr
          clear hr
          obtain ⟨v55, e55, hr⟩ := hq
          have hq := asI_inv hr
          clear hr
          obtain ⟨x55, rfl, hr⟩ := hq
          refine wa_step (v := (.i .i64 x55)) (a_ld rfl e55) ?_
          have hq := bindO_inv hr
          clear hr
          obtain ⟨v56, e56, hr⟩ := hq
          refine wa_step (v := v56) (a_pure (o_ixS rfl rfl e56)) ?_
          have hq := asP_inv hr
          clear hr
          obtain ⟨qs_1, eqs_1, hr⟩ := hq
          refine wa_stepN (a_st (Eq.trans (b := v56) rfl eqs_1) rfl rfl) ?_
          have hq := bindO_inv hr
          clear hr
          obtain ⟨m_6, ew_1, hr⟩ := hq
          refine wa_nil ?_
          refine ⟨m_6, ew_1, ?_⟩
          refine bk_norm ?_
          refine nx_norm ?_
          refine w_ops ?_
          refine wo_step (v := (.i .i64 x13)) (s_pure (p_mv g13)) ?_
          have hq := forceI_inv hr
          clear hr
          obtain ⟨x47, e47, hr⟩ := hq
          refine wo_step (v := (.i .i64 x47)) (s_pure (p_bin rfl rfl (b_add.trans (ci e47)))) ?_
          refine wo_step (v := (.i .i64 x47)) (s_pure (p_mv rfl)) ?_
          refine wo_nil ?_
          cases hr
          exact ⟨_, _, rfl, rfl, rfl, gl rfl, gl g1, gl g3, gl g9, gl g12⟩
        · refine w_condF rfl ?_
          refine w_exit ?_
          refine nx_exit ?_
          cases hr
          exact ⟨_, _, rfl, ne_norm_exit, rfl, rfl, gl g12⟩
      · obtain ⟨m_7, ho⟩ : ∃ z, z = o_1 := ⟨_, rfl⟩
        subst ho
        rintro _ mm t_4 ⟨rfl, rfl, g12⟩
        refine bk_hit ?_
        refine nx_norm ?_
        refine w_seq ?_
        refine w_ops ?_
        refine wo_step (v := (.b c42)) (s_pure (p_mv g12)) ?_
        refine wo_step (v := (.b c42)) (s_pure (p_mv rfl)) ?_
        refine wo_nil ?_
        refine nx_norm ?_
        refine w_ret ?_
        refine nx_ret ?_
        exact qf ret_ok (rt rfl rn) hr
  · refine w_condF rfl ?_
    refine w_skip ?_
    refine nx_norm ?_
    refine w_seq ?_
    refine w_seq ?_
    refine w_ops ?_
    refine wo_step (v := (.i .i64 0)) (s_pure (p_mv rfl)) ?_
    refine wo_nil ?_
    refine nx_norm ?_
    refine w_block ?_
    have hq := bindO_inv hr
    clear hr
    obtain ⟨o_6, hl_3, hr⟩ := hq
    obtain ⟨n_3, hl_3⟩ := hM.loop _ _ _ hl_3
    refine jp_mono (w_loop _ (g82_I2 v0 v1 x2 v3 x18 x20) (g82_J2 v0 v1 x2 v3 x18 x20) ?_ n_3 _ _ _ _ hl_3 ⟨rfl, gl rfl, gl g0, gl g1, gl g2, gl g3, gl rfl, gl rfl⟩) ?_
    · clear hr hl_3
      intro s mm_9 t_5 o hi hr
      obtain ⟨x14, m_8⟩ := s
      obtain ⟨rfl, g14, g0, g1, g2, g3, g9, g10⟩ := hi
      unfold g82_b2 at hr
      refine w_seq ?_
      refine w_seq ?_
      refine w_ops ?_
      refine wo_step (v := (.i .i64 x14)) (s_pure (p_mv g14)) ?_
      refine wo_step (v := (.i .i64 x18)) (s_pure (p_mv g9)) ?_
      have hq := forceB_inv hr
      clear hr
      obtain ⟨c60, e60, hr⟩ := hq
      refine wo_step (v := (.b c60)) (s_pure (p_bin rfl rfl (b_lss.trans (cb e60)))) ?_
      refine wo_nil ?_
      refine nx_norm ?_
      have hq := cond_inv hr
      clear hr
      rcases hq with ⟨rfl, hr⟩ | ⟨rfl, hr⟩
      · refine w_condT rfl ?_
        refine w_skip ?_
        refine nx_norm ?_
        refine w_seq ?_
        refine w_block ?_
        refine w_seq ?_
        refine w_ops ?_
        refine wo_step (v := v1) (s_pure (p_mv g1)) ?_
        refine wo_step (v := (.i .i64 x20)) (s_pure (p_mv g10)) ?_
        have hq := bindO_inv hr
        clear hr
        obtain ⟨v65, e65, hr⟩ := hq
        refine wo_step (v := v65) (s_pure (o_ixS rfl rfl e65)) ?_
        have hq := bindO_inv hr
        clear hr
        obtain ⟨v66, e66, hr⟩ := hq
        refine wo_step (v := v66) (s_ld rfl e66) ?_
        refine wo_step (v := (.i .i64 x14)) (s_pure (p_mv g14)) ?_
        have hq := bindO_inv hr
        clear hr
        obtain ⟨v68, e68, hr⟩ := hq
        refine wo_step (v := v68) (s_pure (o_ixS rfl rfl e68)) ?_
        have hq := bindO_inv hr
        clear hr
        obtain ⟨v69, e69, hr⟩ := hq
        have hq := asB_inv hr
        clear hr
        obtain ⟨c69, rfl, hr⟩ := hq
        refine wo_step (v := (.b c69)) (s_ld rfl e69) ?_
        have hq := forceB_inv hr
        clear hr
        obtain ⟨c70, e70, hr⟩ := hq
        refine wo_step (v := (.b c70)) (s_pure ((p_not rfl).trans (cb e70))) ?_
        refine wo_step (v := (.b c70)) (s_pure (p_mv rfl)) ?_
        refine wo_nil ?_
        refine nx_norm ?_
        refine w_seq ?_
        refine w_seq ?_
        refine w_ops ?_
        refine wo_step (v := (.i .i64 0)) (s_pure (p_mv rfl)) ?_
        refine wo_nil ?_
        refine nx_norm ?_
        refine w_block ?_
        have hq := bindO_inv hr
        clear hr
        obtain ⟨o_4, hl_2, hr⟩ := hq
        obtain ⟨n_2, hl_2⟩ := hM.loop _ _ _ hl_2
        refine jp_mono (w_loop _ (g82_I3 v0 v1 x2 v3 x18 x20 x14 m_8) (g82_J3 v0 v1 x2 v3 x18 x20 x14 m_8) ?_ n_2 _ _ _ _ hl_2 ⟨rfl, gl rfl, gl rfl, gl g0, gl g1, gl g2, gl g3, gl g9, gl g10, gl g14⟩) ?_
        · clear hr hl_2
          intro s mm_6 t_6 o hi hr
          obtain ⟨c15, x16⟩ := s
          obtain ⟨rfl, g15, g16, g0, g1, g2, g3, g9, g10, g14⟩ := hi
          unfold g82_b3 at hr
          refine w_seq ?_
          refine w_seq ?_
          refine w_ops ?_
          refine wo_step (v := (.i .i64 x16)) (s_pure (p_mv g16)) ?_
          refine wo_step (v := (.i .i64 x20)) (s_pure (p_mv g10)) ?_
          have hq := forceB_inv hr
          clear hr
          obtain ⟨c73, e73, hr⟩ := hq
          refine wo_step (v := (.b c73)) (s_pure (p_bin rfl rfl (b_lss.trans (cb e73)))) ?_
          refine wo_nil ?_
          refine nx_norm ?_
          have hq := cond_inv hr
          clear hr
          rcases hq with ⟨rfl, hr⟩ | ⟨rfl, hr⟩
          · refine w_condT rfl ?_
            refine w_skip ?_
            refine nx_norm ?_
            refine w_seq ?_
            refine w_block ?_
            refine w_any ?_
            refine wa_step (v := (.b c15)) (a_pure (p_mv g15)) ?_
            refine wa_step (v := (.b c15)) (a_pure (p_mv rfl)) ?_
            have hq := bindO_inv hr
            clear hr
            obtain ⟨o_2, hr, hk⟩ := hq
            refine wa_join 7 (JA (g82_J4 v0 v1 x2 v3 x18 x20 x14 x16 m_8 o_2) m_8 (m_8.h) [] []) ?_ ?_
            · clear hk
              have hq := cond_inv hr
              clear hr
              rcases hq with ⟨rfl, hr⟩ | ⟨rfl, hr⟩
              · refine wa_take (v := v3) rfl (a_pure (p_mv g3)) ?_
                refine wa_take (v := (.i .i64 x16)) rfl (a_pure (p_mv g16)) ?_
                have hq := bindO_inv hr
                clear hr
                obtain ⟨v80, e80, hr⟩ := hq
                refine wa_take (v := v80) rfl (a_pure (o_ixS rfl rfl e80)) ?_
                have hq := bindO_inv hr
                clear hr
                obtain ⟨v81, e81, hr⟩ := hq
                have hq := asI_inv hr
                clear hr
                obtain ⟨x81, rfl, hr⟩ := hq
                refine wa_take (v := (.i .i64 x81)) rfl (a_ld rfl e81) ?_
                refine wa_take (v := (.i .i64 x14)) rfl (a_pure (p_mv g14)) ?_
                have hq := forceB_inv hr
                clear hr
                obtain ⟨c83, e83, hr⟩ := hq
                refine wa_take (v := (.b c83)) rfl (a_pure (p_bin rfl rfl (b_neq.trans (cb e83)))) ?_
                refine wa_step (v := (.b c83)) (a_pure (p_pickT rfl rfl)) ?_
                refine wa_nil ?_
                cases hr
                exact ja_in ⟨rfl, gl rfl, gl g0, gl g1, gl g2, gl g3, gl g9, gl g10, gl g14, gl g16⟩
              · refine wa_skip (v := (.b false)) rfl rfl ?_
                refine wa_skip (v := (.b false)) rfl rfl ?_
                refine wa_skip (v := (.b false)) rfl rfl ?_
                refine wa_skip (v := (.b false)) rfl rfl ?_
                refine wa_skip (v := (.b false)) rfl rfl ?_
                refine wa_skip (v := (.b false)) rfl rfl ?_
                refine wa_step (v := (.b false)) (a_pure (p_pickF rfl rfl)) ?_
                refine wa_nil ?_
                cases hr
                exact ja_in ⟨rfl, gl rfl, gl g0, gl g1, gl g2, gl g3, gl g9, gl g10, gl g14, gl g16⟩
            · clear hr
              have hr := hk
              clear hk
              obtain ⟨c84, ho⟩ : ∃ z, z = o_2 := ⟨_, rfl⟩
              subst ho
              refine ja_out ?_
              rintro t_7 ⟨-, g84, g0, g1, g2, g3, g9, g10, g14, g16⟩
              refine wa_step (v := (.b c84)) (a_pure (p_mv g84)) ?_
              have hq := bindO_inv hr
              clear hr
              obtain ⟨o_3, hr, hk⟩ := hq
              refine wa_join 19 (JA (g82_J5 v0 v1 x2 v3 x18 x20 x14 x16 m_8 o_3) m_8 (m_8.h) [] []) ?_ ?_
              · clear hk
                have hq := cond_inv hr
                clear hr
                rcases hq with ⟨rfl, hr⟩ | ⟨rfl, hr⟩
                · refine wa_take (v := v0) rfl (a_pure (p_mv g0)) ?_
                  refine wa_take (v := (.i .i64 x16)) rfl (a_pure (p_mv g16)) ?_
                  have hq := bindO_inv hr
                  clear hr
                  obtain ⟨v88, e88, hr⟩ := hq
                  refine wa_take (v := v88) rfl (a_pure (o_ixS rfl rfl e88)) ?_
                  have hq := bindO_inv hr
                  clear hr
                  obtain ⟨v89, e89, hr⟩ := hq
                  refine wa_take (v := v89) rfl (a_ld rfl e89) ?_
                  refine wa_take (v := v3) rfl (a_pure (p_mv g3)) ?_
                  refine wa_take (v := (.i .i64 x16)) rfl (a_pure (p_mv g16)) ?_
                  have hq := bindO_inv hr
                  clear hr
                  obtain ⟨v92, e92, hr⟩ := hq
                  refine wa_take (v := v92) rfl (a_pure (o_ixS rfl rfl e92)) ?_
                  have hq := bindO_inv hr
                  clear hr
                  obtain ⟨v93, e93, hr⟩ := hq
                  have hq := asI_inv hr
                  clear hr
                  obtain ⟨x93, rfl, hr⟩ := hq
                  refine wa_take (v := (.i .i64 x93)) rfl (a_ld rfl e93) ?_
                  have hq := bindO_inv hr
                  clear hr
                  obtain ⟨v94, e94, hr⟩ := hq
                  refine wa_take (v := v94) rfl (a_pure (o_ixS rfl rfl e94)) ?_
                  have hq := bindO_inv hr
                  clear hr
                  obtain ⟨v95, e95, hr⟩ := hq
                  have hq := asI_inv hr
                  clear hr
                  obtain ⟨x95, rfl, hr⟩ := hq
                  refine wa_take (v := (.i .i64 x95)) rfl (a_ld rfl e95) ?_
                  refine wa_take (v := v0) rfl (a_pure (p_mv g0)) ?_
                  refine wa_take (v := (.i .i64 x20)) rfl (a_pure (p_mv g10)) ?_
                  have hq := bindO_inv hr
                  clear hr
                  obtain ⟨v98, e98, hr⟩ := hq
                  refine wa_take (v := v98) rfl (a_pure (o_ixS rfl rfl e98)) ?_
                  have hq := bindO_inv hr
                  clear hr
                  obtain ⟨v99, e99, hr⟩ := hq
                  refine wa_take (v := v99) rfl (a_ld rfl e99) ?_
                  refine wa_take (v := (.i .i64 x14)) rfl (a_pure (p_mv g14)) ?_
                  have hq := bindO_inv hr
                  clear hr
                  obtain ⟨v101, e101, hr⟩ := hq
                  refine wa_take (v := v101) rfl (a_pure (o_ixS rfl rfl e101)) ?_
                  have hq := bindO_inv hr
                  clear hr
                  obtain ⟨v102, e102, hr⟩ := hq
                  have hq := asI_inv hr
                  clear hr
                  obtain ⟨x102, rfl, hr⟩ := hq
                  refine wa_take (v := (.i .i64 x102)) rfl (a_ld rfl e102) ?_
                  have hq := forceB_inv hr
                  clear hr
                  obtain ⟨c103, e103, hr⟩ := hq
                  refine wa_take (v := (.b c103)) rfl (a_pure (p_bin rfl rfl (b_neq.trans (cb e103)))) ?_
                  refine wa_step (v := (.b c103)) (a_pure (p_pickT rfl rfl)) ?_
                  refine wa_nil ?_
                  cases hr
                  exact ja_in ⟨rfl, gl rfl, gl g0, gl g1, gl g2, gl g3, gl g9, gl g10, gl g14, gl g16⟩
                · refine wa_skip (v := (.b false)) rfl rfl ?_
                  refine wa_skip (v := (.b false)) rfl rfl ?_
                  refine wa_skip (v := (.b false)) rfl rfl ?_
                  refine wa_skip (v := (.b false)) rfl rfl ?_
                  refine wa_skip (v := (.b false)) rfl rfl ?_
                  refine wa_skip (v := (.b false)) rfl rfl ?_
                  refine wa_skip (v := (.b false)) rfl rfl ?_
                  refine wa_skip (v := (.b false)) rfl rfl ?_
                  refine wa_skip (v := (.b false)) rfl rfl ?_
                  refine wa_skip (v := (.b false)) rfl rfl ?_
                  refine wa_skip (v := (.b false)) rfl rfl ?_
                  refine wa_skip (v := (.b false)) rfl rfl ?_
                  refine wa_skip (v := (.b false)) rfl rfl ?_
                  refine wa_skip (v := (.b false)) rfl rfl ?_
                  refine wa_skip (v := (.b false)) rfl rfl ?_
                  refine wa_skip (v := (.b false)) rfl rfl ?_
                  refine wa_skip (v := (.b false)) rfl rfl ?_
                  refine wa_skip (v := (.b false)) rfl rfl ?_
                  refine wa_step (v := (.b false)) (a_pure (p_pickF rfl rfl)) ?_
                  refine wa_nil ?_
                  cases hr
                  exact ja_in ⟨rfl, gl rfl, gl g0, gl g1, gl g2, gl g3, gl g9, gl g10, gl g14, gl g16⟩
              · clear hr
                have hr := hk
                clear hk
                obtain ⟨c104, ho⟩ : ∃ z, z = o_3 := ⟨_, rfl⟩
                subst ho
                refine ja_out ?_
                rintro t_8 ⟨-, g104, g0, g1, g2, g3, g9, g10, g14, g16⟩
                refine wa_step (v := (.b c104)) (a_pure (p_mv g104)) ?_
                refine wa_nil ?_
                refine ⟨m_8, rfl, ?_⟩
                refine bk_norm ?_
                refine nx_norm ?_
                refine w_ops ?_
                refine wo_step (v := (.i .i64 x16)) (s_pure (p_mv g16)) ?_
                have hq := forceI_inv hr
                clear hr
                obtain ⟨x75, e75, hr⟩ := hq
                refine wo_step (v := (.i .i64 x75)) (s_pure (p_bin rfl rfl (b_add.trans (ci e75)))) ?_
                refine wo_step (v := (.i .i64 x75)) (s_pure (p_mv rfl)) ?_
                refine wo_nil ?_
                cases hr
                exact ⟨_, _, rfl, rfl, rfl, gl rfl, gl rfl, gl g0, gl g1, gl g2, gl g3, gl g9, gl g10, gl g14⟩
          · refine w_condF rfl ?_
            refine w_exit ?_
            refine nx_exit ?_
            cases hr
            exact ⟨_, _, rfl, ne_norm_exit, rfl, rfl, gl g15, gl g0, gl g1, gl g2, gl g3, gl g9, gl g10, gl g14⟩
        · obtain ⟨c15_1, ho⟩ : ∃ z, z = o_4 := ⟨_, rfl⟩
          subst ho
          rintro _ mm_5 t_9 ⟨rfl, rfl, g15, g0, g1, g2, g3, g9, g10, g14⟩
          refine bk_hit ?_
          refine nx_norm ?_
          refine w_seq ?_
          refine w_ops ?_
          refine wo_step (v := (.b c15_1)) (s_pure (p_mv g15)) ?_
          refine wo_step (v := (.b c15_1)) (s_pure (p_mv rfl)) ?_
          have hq := bindO_inv hr
          clear hr
          obtain ⟨o_5, hr, hk⟩ := hq
          refine wo_join 12 (g82_J6 v0 v1 x2 v3 x18 x20 x14 o_5) ?_ ?_
          · clear hk
            have hq := cond_inv hr
            clear hr
            rcases hq with ⟨rfl, hr⟩ | ⟨rfl, hr⟩
            · refine wo_take (v := v0) rfl (s_pure (p_mv g0)) ?_
              refine wo_take (v := v1) rfl (s_pure (p_mv g1)) ?_
              refine wo_take (v := (.i .i64 x2)) rfl (s_pure (p_mv g2)) ?_
              refine wo_take (v := v3) rfl (s_pure (p_mv g3)) ?_
              refine wo_take (v := (.i .i64 x20)) rfl (s_pure (p_mv g10)) ?_
              refine wo_take (v := (.i .i64 x20)) rfl (s_pure (p_mv g10)) ?_
              have hq := bindO_inv hr
              clear hr
              obtain ⟨v113, e113, hr⟩ := hq
              refine wo_take (v := v113) rfl (s_pure (o_slS rfl on (os rfl) (os rfl) e113)) ?_
              refine wo_take (v := (.i .i64 x14)) rfl (s_pure (p_mv g14)) ?_
              have hq := bindP_inv hr
              clear hr
              obtain ⟨v115, m_10, e115, hr⟩ := hq
              refine wo_take (v := v115) rfl (s_bsl (qc rfl qn) e115) ?_
              have hq := bindP_inv hr
              clear hr
              obtain ⟨v116, m_11, e116, hr⟩ := hq
              refine wo_take (v := v116) rfl (s_app rfl rfl e116) ?_
              have hq := bindP_inv hr
              clear hr
              obtain ⟨v117, m_12, e117, hr⟩ := hq
              have hq := asB_inv hr
              clear hr
              obtain ⟨c117, rfl, hr⟩ := hq
              refine wo_take (v := (.b c117)) rfl (s_call (mc rfl (mc rfl (mc rfl (mc rfl mn)))) (callM_le hM.call e117)) ?_
              refine wo_step (v := (.b c117)) (s_pure (p_pickT rfl rfl)) ?_
              refine wo_nil ?_
              cases hr
              exact ⟨_, _, rfl, rfl, gl rfl, gl g0, gl g1, gl g2, gl g3, gl g9, gl g10, gl g14⟩
            · refine wo_skip (v := (.b false)) rfl rfl ?_
              refine wo_skip (v := (.b false)) rfl rfl ?_
              refine wo_skip (v := (.b false)) rfl rfl ?_
              refine wo_skip (v := (.b false)) rfl rfl ?_
              refine wo_skip (v := (.b false)) rfl rfl ?_
              refine wo_skip (v := (.b false)) rfl rfl ?_
              refine wo_skip (v := (.b false)) rfl rfl ?_
              refine wo_skip (v := (.b false)) rfl rfl ?_
              refine wo_skip (v := (.b false)) rfl rfl ?_
              refine wo_skip (v := (.b false)) rfl rfl ?_
              refine wo_skip (v := (.b false)) rfl rfl ?_
              refine wo_step (v := (.b false)) (s_pure (p_pickF rfl rfl)) ?_
              refine wo_nil ?_
              cases hr
              exact ⟨_, _, rfl, rfl, gl rfl, gl g0, gl g1, gl g2, gl g3, gl g9, gl g10, gl g14⟩
          · clear hr
            have hr := hk
            clear hk
            obtain ⟨c118, m_9⟩ := o_5
            rintro mm_4 t_10 ⟨rfl, g118, g0, g1, g2, g3, g9, g10, g14⟩
            refine wo_nil ?_
            refine nx_norm ?_
            have hq := cond_inv hr
            clear hr
            rcases hq with ⟨rfl, hr⟩ | ⟨rfl, hr⟩
            · refine w_condT g118 ?_
              refine w_seq ?_
              refine w_ops ?_
              refine wo_step (v := (.b true)) (s_pure (p_mv rfl)) ?_
              refine wo_nil ?_
              refine nx_norm ?_
              refine w_ret ?_
              refine bk_ret ?_
              refine nx_ret ?_
              cases hr
              exact ⟨_, _, rfl, ne_norm_ret, rfl, rfl, gl rfl⟩
            · refine w_condF g118 ?_
              refine w_skip ?_
              refine bk_norm ?_
              refine nx_norm ?_
              refine w_ops ?_
              refine wo_step (v := (.i .i64 x14)) (s_pure (p_mv g14)) ?_
              have hq := forceI_inv hr
              clear hr
              obtain ⟨x62, e62, hr⟩ := hq
              refine wo_step (v := (.i .i64 x62)) (s_pure (p_bin rfl rfl (b_add.trans (ci e62)))) ?_
              refine wo_step (v := (.i .i64 x62)) (s_pure (p_mv rfl)) ?_
              refine wo_nil ?_
              cases hr
              exact ⟨_, _, rfl, rfl, rfl, gl rfl, gl g0, gl g1, gl g2, gl g3, gl g9, gl g10⟩
      · refine w_condF rfl ?_
        refine w_exit ?_
        refine nx_exit ?_
        cases hr
        exact ⟨_, _, rfl, ne_norm_exit, rfl, rfl⟩
    · rcases o_6 with o_6 | o_6
      · obtain ⟨m_13, ho⟩ : ∃ z, z = o_6 := ⟨_, rfl⟩
        subst ho
        rintro _ mm_7 t_11 ⟨rfl, rfl⟩
        refine bk_hit ?_
        refine nx_norm ?_
        refine w_seq ?_
        refine w_ops ?_
        refine wo_step (v := (.b false)) (s_pure (p_mv rfl)) ?_
        refine wo_nil ?_
        refine nx_norm ?_
        refine w_ret ?_
        exact qf ret_ok (rt rfl rn) hr
      · obtain ⟨c8, m_14⟩ := o_6
        rintro _ mm_8 t_12 ⟨rfl, rfl, g8⟩
        refine bk_ret ?_
        refine nx_ret ?_
        exact qf ret_ok (rt g8 rn) hr

/- (dibber/bed.ground).tightest -/
abbrev g83_I0 (v0 : AVal) (v2 : AVal) (v4 : AVal) (v20 : AVal) (s : Int × Int × Mm) (m1 : Mm) (t1 : Tr) : Prop :=
  match s with
  | (x5, x21, m_3) => m_3 = m1 ∧ t1.get 5 = (.i .i64 x5) ∧ t1.get 21 = (.i .i64 x21) ∧ t1.get 0 = v0 ∧ t1.get 2 = v2 ∧ t1.get 4 = v4 ∧ t1.get 20 = v20
abbrev g83_J0 (v0 : AVal) (v2 : AVal) (v4 : AVal) (v20 : AVal) (o : (Int × Mm)) (e : AExit) (m1 : Mm) (t1 : Tr) : Prop :=
  match o with
  | (y5, mo) => e = (.exit 0) ∧ mo = m1 ∧ t1.get 5 = (.i .i64 y5) ∧ t1.get 0 = v0 ∧ t1.get 2 = v2 ∧ t1.get 4 = v4
abbrev g83_I1 (v0 : AVal) (v2 : AVal) (v4 : AVal) (v7 : AVal) (v20 : AVal) (x21 : Int) (x27 : Int) (s : Int × Int × Mm) (m1 : Mm) (t1 : Tr) : Prop :=
  match s with
  | (x5_1, x28, m_6) => m_6 = m1 ∧ t1.get 5 = (.i .i64 x5_1) ∧ t1.get 28 = (.i .i64 x28) ∧ t1.get 0 = v0 ∧ t1.get 2 = v2 ∧ t1.get 4 = v4 ∧ t1.get 7 = v7 ∧ t1.get 20 = v20 ∧ t1.get 21 = (.i .i64 x21) ∧ t1.get 27 = (.i .i64 x27)
abbrev g83_J1 (v0 : AVal) (v2 : AVal) (v4 : AVal) (v7 : AVal) (v20 : AVal) (x21 : Int) (x27 : Int) (o : (Int × Mm)) (e : AExit) (m1 : Mm) (t1 : Tr) : Prop :=
  match o with
  | (y5, mo) => e = (.exit 2) ∧ mo = m1 ∧ t1.get 5 = (.i .i64 y5) ∧ t1.get 0 = v0 ∧ t1.get 2 = v2 ∧ t1.get 4 = v4 ∧ t1.get 20 = v20 ∧ t1.get 21 = (.i .i64 x21)
abbrev g83_I2 (v0 : AVal) (v2 : AVal) (v4 : AVal) (v7 : AVal) (x28 : Int) (v20 : AVal) (x21 : Int) (x27 : Int) (x34 : Int) (s : Int × Int × Mm) (m1 : Mm) (t1 : Tr) : Prop :=
  match s with
  | (x5_2, x35, m_7) => m_7 = m1 ∧ t1.get 5 = (.i .i64 x5_2) ∧ t1.get 35 = (.i .i64 x35) ∧ t1.get 0 = v0 ∧ t1.get 2 = v2 ∧ t1.get 4 = v4 ∧ t1.get 7 = v7 ∧ t1.get 8 = (.i .i64 x28) ∧ t1.get 20 = v20 ∧ t1.get 21 = (.i .i64 x21) ∧ t1.get 27 = (.i .i64 x27) ∧ t1.get 28 = (.i .i64 x28) ∧ t1.get 34 = (.i .i64 x34)
abbrev g83_J2 (v0 : AVal) (v2 : AVal) (v4 : AVal) (v7 : AVal) (x28 : Int) (v20 : AVal) (x21 : Int) (x27 : Int) (x34 : Int) (o : (Int × Mm)) (e : AExit) (m1 : Mm) (t1 : Tr) : Prop :=
  match o with
  | (y5, mo) => e = (.exit 4) ∧ mo = m1 ∧ t1.get 5 = (.i .i64 y5) ∧ t1.get 0 = v0 ∧ t1.get 2 = v2 ∧ t1.get 4 = v4 ∧ t1.get 7 = v7 ∧ t1.get 20 = v20 ∧ t1.get 21 = (.i .i64 x21) ∧ t1.get 27 = (.i .i64 x27) ∧ t1.get 28 = (.i .i64 x28)
abbrev g83_J3 (v0 : AVal) (v2 : AVal) (v4 : AVal) (v7 : AVal) (x28 : Int) (v20 : AVal) (x21 : Int) (x27 : Int) (x34 : Int) (x35 : Int) (o : (Int × Mm)) (e : AExit) (m1 : Mm) (t1 : Tr) : Prop :=
  match o with
  | (y5, mo) => e = .norm ∧ mo = m1 ∧ t1.get 5 = (.i .i64 y5) ∧ t1.get 0 = v0 ∧ t1.get 2 = v2 ∧ t1.get 4 = v4 ∧ t1.get 7 = v7 ∧ t1.get 8 = (.i .i64 x28) ∧ t1.get 20 = v20 ∧ t1.get 21 = (.i .i64 x21) ∧ t1.get 27 = (.i .i64 x27) ∧ t1.get 28 = (.i .i64 x28) ∧ t1.get 34 = (.i .i64 x34) ∧ t1.get 35 = (.i .i64 x35)
abbrev g83_J4 (v0 : AVal) (v2 : AVal) (v4 : AVal) (v7 : AVal) (x28 : Int) (v20 : AVal) (x21 : Int) (x27 : Int) (x34 : Int) (x35 : Int) (o : (Int × Mm)) (e : AExit) (m1 : Mm) (t1 : Tr) : Prop :=
  match o with
  | (y5, mo) => e = .norm ∧ mo = m1 ∧ t1.get 5 = (.i .i64 y5) ∧ t1.get 0 = v0 ∧ t1.get 2 = v2 ∧ t1.get 4 = v4 ∧ t1.get 7 = v7 ∧ t1.get 8 = (.i .i64 x28) ∧ t1.get 20 = v20 ∧ t1.get 21 = (.i .i64 x21) ∧ t1.get 27 = (.i .i64 x27) ∧ t1.get 28 = (.i .i64 x28) ∧ t1.get 34 = (.i .i64 x34) ∧ t1.get 35 = (.i .i64 x35)
def g83_b2 (M : Means) (ro : List ABlk) (v0 : AVal) (v2 : AVal) (v4 : AVal) (v7 : AVal) (x28 : Int) (v20 : AVal) (x21 : Int) (x27 : Int) (x34 : Int) (x5_2 : Int) (x35 : Int) (m_7 : Mm) : Option ((Int × Int × Mm) ⊕ ((Int × Mm))) :=
  forceB (ltI x35 x34) fun c36 =>
  cond c36 (
    bindO (α := (Int × Mm)) (
      bindO (evP .e (.ixA 2 1 (.c v7) (.c (.i .i64 0)))) fun v38 =>
      bindO (ldM ro m_7 true 1 v38) fun v39 =>
      asI .i64 v39 fun x39 =>
      bindO (evP .e (.ixA 2 1 (.c v7) (.c (.i .i64 1)))) fun v41 =>
      bindO (ldM ro m_7 true 1 v41) fun v42 =>
      asI .i64 v42 fun x42 =>
      bindO ((fillA [(AVal.i IntKind.i64 0), (AVal.i IntKind.i64 0), (AVal.i IntKind.i64 0), (AVal.i IntKind.i64 0)] [((0, 1), (.i .i64 x39)), ((1, 1), (.i .i64 x28)), ((2, 1), (.i .i64 x42)), ((3, 1), (.i .i64 x35))]).map AVal.agg) fun v44 =>
      bindP (stepM ro m_7 (.al 59 [(AVal.i IntKind.i64 0), (AVal.i IntKind.i64 0), (AVal.i IntKind.i64 0), (AVal.i IntKind.i64 0)])) fun v10 m_8 =>
      bindP (stepM ro m_8 (.st 4 (.c v10) (.c v44))) fun vn_1 m_9 =>
      bindO (ldM ro m_9 false 4 v10) fun v46 =>
      bindP (callM M.call m_9 93 [v0, v46]) fun v47 m_10 =>
      asB v47 fun c47 =>
      cond c47 (
        some (x5_2, m_10)) (
        bindO (ldM ro m_10 false 4 v10) fun v49 =>
        bindP (callM M.call m_10 53 [v0, v49]) fun v50 m_11 =>
        asI .u8 v50 fun x50 =>
        bindP (callM M.call m_11 94 [(.i .u8 x50)]) fun v51 m_12 =>
        asI .i64 v51 fun x51 =>
        forceB (ltI x51 x5_2) fun c54 =>
        bindO (α := (Int × Mm)) (
          cond c54 (
            bindO (ldM ro m_12 false 4 v10) fun v55 =>
            bindP (stepM ro m_12 (.st 4 (.c v4) (.c v55))) fun vn_2 m_13 =>
            some (x51, m_13)) (
            some (x5_2, m_12))) fun ⟨x5_3, m_14⟩ =>
        some (x5_3, m_14))) fun ⟨x5_4, m_15⟩ =>
    forceI (wr .i64 (x35 + 1)) fun x57 =>
    some (.inl (x5_4, x57, m_15))) (
    some (.inr (x5_2, m_7)))
def g83_b1 (M : Means) (ro : List ABlk) (v0 : AVal) (v2 : AVal) (v4 : AVal) (v7 : AVal) (v20 : AVal) (x21 : Int) (x27 : Int) (x5_1 : Int) (x28 : Int) (m_6 : Mm) : Option ((Int × Int × Mm) ⊕ ((Int × Mm))) :=
  forceB (ltI x28 x27) fun c29 =>
  cond c29 (
    bindO (evP .e (.nilck (.c v0))) fun v32 =>
    bindO (evP .e (.faddr 0 (.c v32))) fun v33 =>
    bindO (ldM ro m_6 true 1 v33) fun v34 =>
    asI .i64 v34 fun x34 =>
    bindO (M.loop (S := Int × Int × Mm) (R := (Int × Mm)) (fun s => g83_b2 M ro v0 v2 v4 v7 x28 v20 x21 x27 x34 s.1 s.2.1 s.2.2) (x5_1, 0, m_6)) fun ⟨x5_5, m_16⟩ =>
    forceI (wr .i64 (x28 + 1)) fun x58 =>
    some (.inl (x5_5, x58, m_16))) (
    some (.inr (x5_1, m_6)))
def g83_b0 (M : Means) (ro : List ABlk) (v0 : AVal) (v2 : AVal) (v4 : AVal) (v20 : AVal) (x5 : Int) (x21 : Int) (m_3 : Mm) : Option ((Int × Int × Mm) ⊕ ((Int × Mm))) :=
  forceB (ltI x21 3) fun c22 =>
  cond c22 (
    bindO (evP .e (.ixV 3 2 false (.c v20) (.c (.i .i64 x21)))) fun v23 =>
    bindP (stepM ro m_3 (.al 109 [(AVal.i IntKind.i64 0), (AVal.i IntKind.i64 0)])) fun v7 m_4 =>
    bindP (stepM ro m_4 (.st 2 (.c v7) (.c v23))) fun vn m_5 =>
    bindO (evP .e (.nilck (.c v0))) fun v25 =>
    bindO (evP .e (.faddr 0 (.c v25))) fun v26 =>
    bindO (ldM ro m_5 true 1 v26) fun v27 =>
    asI .i64 v27 fun x27 =>
    bindO (M.loop (S := Int × Int × Mm) (R := (Int × Mm)) (fun s => g83_b1 M ro v0 v2 v4 v7 v20 x21 x27 s.1 s.2.1 s.2.2) (x5, 0, m_5)) fun ⟨x5_6, m_17⟩ =>
    forceI (wr .i64 (x21 + 1)) fun x59 =>
    some (.inl (x5_6, x59, m_17))) (
    some (.inr (x5, m_3)))
def g83 (M : Means) (ro : List ABlk) (v0 : AVal) (m0 : Mm) : Option (AVal × Heap × Nat × Nat) :=
  bindP (stepM ro m0 (.al 59 [(AVal.i IntKind.i64 0), (AVal.i IntKind.i64 0), (AVal.i IntKind.i64 0), (AVal.i IntKind.i64 0)])) fun v2 m_1 =>
  bindP (stepM ro m_1 (.al 59 [(AVal.i IntKind.i64 0), (AVal.i IntKind.i64 0), (AVal.i IntKind.i64 0), (AVal.i IntKind.i64 0)])) fun v4 m_2 =>
  bindO (evP .e (.nilck (.c v0))) fun v13 =>
  bindO (evP .e (.faddr 0 (.c v13))) fun v14 =>
  bindO (ldM ro m_2 true 1 v14) fun v15 =>
  asI .i64 v15 fun x15 =>
  forceI (wr .i64 (x15 + 1)) fun x16 =>
  bindO ((fillA [(AVal.i IntKind.i64 0), (AVal.i IntKind.i64 0)] [((0, 1), (.i .i64 0)), ((1, 1), (.i .i64 1))]).map AVal.agg) fun v17 =>
  bindO ((fillA [(AVal.i IntKind.i64 0), (AVal.i IntKind.i64 0)] [((0, 1), (.i .i64 0)), ((1, 1), (.i .i64 2))]).map AVal.agg) fun v18 =>
  bindO ((fillA [(AVal.i IntKind.i64 0), (AVal.i IntKind.i64 0)] [((0, 1), (.i .i64 1)), ((1, 1), (.i .i64 2))]).map AVal.agg) fun v19 =>
  bindO ((fillA [(AVal.i IntKind.i64 0), (AVal.i IntKind.i64 0), (AVal.i IntKind.i64 0), (AVal.i IntKind.i64 0), (AVal.i IntKind.i64 0), (AVal.i IntKind.i64 0)] [((0, 2), v17), ((2, 2), v18), ((4, 2), v19)]).map AVal.agg) fun v20 =>
  bindO (M.loop (S := Int × Int × Mm) (R := (Int × Mm)) (fun s => g83_b0 M ro v0 v2 v4 v20 s.1 s.2.1 s.2.2) (x16, 0, m_2)) fun ⟨x5_7, m_18⟩ =>
  bindO (ldA ro m_18.h false 4 v4) fun v60 =>
  bindO (evP .e (.nilck (.c v0))) fun v63 =>
  bindO (evP .e (.faddr 0 (.c v63))) fun v64 =>
  asP v64 fun q65 =>
  bindO (ldA ro m_18.h true 1 (.p (some q65))) fun v65 =>
  asI .i64 v65 fun x65 =>
  forceB (!ltI x65 x5_7) fun c66 =>
  asP v2 fun qs =>
  chk (Nat.beq (AVal.cells v60).length 4) <|
  bindO (writesM ro [((q65, [.b true, .i .i64 1]), (.i .i64 x65))] [(qs, AVal.cells v60)] ⟨m_18.h, m_18.lw, m_18.lp⟩) fun m_19 =>
  bindO (ldM ro m_19 false 4 v2) fun vr =>
  finM m0.h.length (tupA [vr, (.b c66)]) m_19

theorem g83_ok {ro : List ABlk} {O : Caller} {M : Means} (hM : M.Ok ⟨F, O⟩ ro) {v0 h r} (ho : O 83 [v0] h = none) (hr : g83 M ro v0 ⟨h, h.length, h.length⟩ = some r) : callX ⟨F, O⟩ ro 83 [v0] h = some r := by
  refine callX_of (F := ⟨F, O⟩) (fn := fn83) (g := g83 M ro v0) ho rfl rfl hr ?_
  clear ho
  clear hr
  intro m0 t0 ht hr
  have g0 : t0.get 0 = v0 := ht 0
  clear ht
  unfold g83 at hr
  refine w_seq ?_
  refine w_ops ?_
  have hq := bindP_inv hr
  clear hr
  obtain ⟨v2, m_1, e2, hr⟩ := hq
  refine wo_step (v := v2) (s_al e2) ?_
  refine wo_step (v := (.b false)) (s_pure (p_mv rfl)) ?_
  refine wo_nil ?_
  refine nx_norm ?_
  refine w_seq ?_
  refine w_ops ?_
  have hq := bindP_inv hr
  clear hr
  obtain ⟨v4, m_2, e4, hr⟩ := hq
  refine wo_step (v := v4) (s_al e4) ?_
  refine wo_nil ?_
  refine nx_norm ?_
  refine w_seq ?_
  refine w_ops ?_
  refine wo_step (v := v0) (s_pure (p_mv g0)) ?_
  have hq := bindO_inv hr
  clear hr
  obtain ⟨v13, e13, hr⟩ := hq
  refine wo_step (v := v13) (s_pure (o_nilck rfl e13)) ?_
  have hq := bindO_inv hr
  clear hr
  obtain ⟨v14, e14, hr⟩ := hq
  refine wo_step (v := v14) (s_pure (o_faddr rfl e14)) ?_
  have hq := bindO_inv hr
  clear hr
  obtain ⟨v15, e15, hr⟩ := hq
  have hq := asI_inv hr
  clear hr
  obtain ⟨x15, rfl, hr⟩ := hq
  refine wo_step (v := (.i .i64 x15)) (s_ld rfl e15) ?_
  have hq := forceI_inv hr
  clear hr
  obtain ⟨x16, e16, hr⟩ := hq
  refine wo_step (v := (.i .i64 x16)) (s_pure (p_bin rfl rfl (b_add.trans (ci e16)))) ?_
  refine wo_step (v := (.i .i64 x16)) (s_pure (p_mv rfl)) ?_
  refine wo_nil ?_
  refine nx_norm ?_
  refine w_seq ?_
  refine w_seq ?_
  refine w_ops ?_
  have hq := bindO_inv hr
  clear hr
  obtain ⟨v17, e17, hr⟩ := hq
  refine wo_step (v := v17) (s_pure (o_build (qc rfl (qc rfl qn)) e17)) ?_
  have hq := bindO_inv hr
  clear hr
  obtain ⟨v18, e18, hr⟩ := hq
  refine wo_step (v := v18) (s_pure (o_build (qc rfl (qc rfl qn)) e18)) ?_
  have hq := bindO_inv hr
  clear hr
  obtain ⟨v19, e19, hr⟩ := hq
  refine wo_step (v := v19) (s_pure (o_build (qc rfl (qc rfl qn)) e19)) ?_
  have hq := bindO_inv hr
  clear hr
  obtain ⟨v20, e20, hr⟩ := hq
  refine wo_step (v := v20) (s_pure (o_build (qc rfl (qc rfl (qc rfl qn))) e20)) ?_
  refine wo_step (v := (.i .i64 0)) (s_pure (p_mv rfl)) ?_
  refine wo_nil ?_
  refine nx_norm ?_
  refine w_block ?_
  have hq := bindO_inv hr
  clear hr
  obtain ⟨o_4, hl_2, hr⟩ := hq
  obtain ⟨n_2, hl_2⟩ := hM.loop _ _ _ hl_2
  refine jp_mono (w_loop _ (g83_I0 v0 v2 v4 v20) (g83_J0 v0 v2 v4 v20) ?_ n_2 _ _ _ _ hl_2 ⟨rfl, gl rfl, gl rfl, gl g0, gl rfl, gl rfl, gl rfl⟩) ?_
  · clear hr hl_2
    intro s mm_7 t_1 o hi hr
    obtain ⟨x5, x21, m_3⟩ := s
    obtain ⟨rfl, g5, g21, g0, g2, g4, g20⟩ := hi
    unfold g83_b0 at hr
    refine w_seq ?_
    refine w_ops ?_
    have hq := forceB_inv hr
    clear hr
    obtain ⟨c22, e22, hr⟩ := hq
    refine wo_step (v := (.b c22)) (s_pure (p_bin g21 rfl (b_lss.trans (cb e22)))) ?_
    refine wo_nil ?_
    refine nx_norm ?_
    refine w_seq ?_
    have hq := cond_inv hr
    clear hr
    rcases hq with ⟨rfl, hr⟩ | ⟨rfl, hr⟩
    · refine w_condT rfl ?_
      refine w_skip ?_
      refine nx_norm ?_
      refine w_seq ?_
      refine w_block ?_
      refine w_seq ?_
      refine w_ops ?_
      have hq := bindO_inv hr
      clear hr
      obtain ⟨v23, e23, hr⟩ := hq
      refine wo_step (v := v23) (s_pure (o_ixV g20 g21 e23)) ?_
      have hq := bindP_inv hr
      clear hr
      obtain ⟨v7, m_4, e7, hr⟩ := hq
      refine wo_step (v := v7) (s_al e7) ?_
      have hq := bindP_inv hr
      clear hr
      obtain ⟨vn, m_5, en, hr⟩ := hq
      refine wo_stepN (s_st rfl rfl en) ?_
      refine wo_nil ?_
      refine nx_norm ?_
      refine w_seq ?_
      refine w_ops ?_
      refine wo_step (v := v0) (s_pure (p_mv g0)) ?_
      have hq := bindO_inv hr
      clear hr
      obtain ⟨v25, e25, hr⟩ := hq
      refine wo_step (v := v25) (s_pure (o_nilck rfl e25)) ?_
      have hq := bindO_inv hr
      clear hr
      obtain ⟨v26, e26, hr⟩ := hq
      refine wo_step (v := v26) (s_pure (o_faddr rfl e26)) ?_
      have hq := bindO_inv hr
      clear hr
      obtain ⟨v27, e27, hr⟩ := hq
      have hq := asI_inv hr
      clear hr
      obtain ⟨x27, rfl, hr⟩ := hq
      refine wo_step (v := (.i .i64 x27)) (s_ld rfl e27) ?_
      refine wo_step (v := (.i .i64 0)) (s_pure (p_mv rfl)) ?_
      refine wo_nil ?_
      refine nx_norm ?_
      refine w_block ?_
      have hq := bindO_inv hr
      clear hr
      obtain ⟨o_3, hl_1, hr⟩ := hq
      obtain ⟨n_1, hl_1⟩ := hM.loop _ _ _ hl_1
      refine jp_mono (w_loop _ (g83_I1 v0 v2 v4 v7 v20 x21 x27) (g83_J1 v0 v2 v4 v7 v20 x21 x27) ?_ n_1 _ _ _ _ hl_1 ⟨rfl, gl g5, gl rfl, gl g0, gl g2, gl g4, gl rfl, gl g20, gl g21, gl rfl⟩) ?_
      · clear hr hl_1
        intro s mm_5 t_2 o hi hr
        obtain ⟨x5_1, x28, m_6⟩ := s
        obtain ⟨rfl, g5, g28, g0, g2, g4, g7, g20, g21, g27⟩ := hi
        unfold g83_b1 at hr
        refine w_seq ?_
        refine w_ops ?_
        have hq := forceB_inv hr
        clear hr
        obtain ⟨c29, e29, hr⟩ := hq
        refine wo_step (v := (.b c29)) (s_pure (p_bin g28 g27 (b_lss.trans (cb e29)))) ?_
        refine wo_nil ?_
        refine nx_norm ?_
        refine w_seq ?_
        have hq := cond_inv hr
        clear hr
        rcases hq with ⟨rfl, hr⟩ | ⟨rfl, hr⟩
        · refine w_condT rfl ?_
          refine w_skip ?_
          refine nx_norm ?_
          refine w_seq ?_
          refine w_block ?_
          refine w_seq ?_
          refine w_ops ?_
          refine wo_step (v := (.i .i64 x28)) (s_pure (p_mv g28)) ?_
          refine wo_step (v := (.i .i64 x28)) (s_pure (p_mv rfl)) ?_
          refine wo_nil ?_
          refine nx_norm ?_
          refine w_seq ?_
          refine w_ops ?_
          refine wo_step (v := v0) (s_pure (p_mv g0)) ?_
          have hq := bindO_inv hr
          clear hr
          obtain ⟨v32, e32, hr⟩ := hq
          refine wo_step (v := v32) (s_pure (o_nilck rfl e32)) ?_
          have hq := bindO_inv hr
          clear hr
          obtain ⟨v33, e33, hr⟩ := hq
          refine wo_step (v := v33) (s_pure (o_faddr rfl e33)) ?_
          have hq := bindO_inv hr
          clear hr
          obtain ⟨v34, e34, hr⟩ := hq
          have hq := asI_inv hr
          clear hr
          obtain ⟨x34, rfl, hr⟩ := hq
          refine wo_step (v := (.i .i64 x34)) (s_ld rfl e34) ?_
          refine wo_step (v := (.i .i64 0)) (s_pure (p_mv rfl)) ?_
          refine wo_nil ?_
          refine nx_norm ?_
          refine w_block ?_
          have hq := bindO_inv hr
          clear hr
          obtain ⟨o_2, hl, hr⟩ := hq
          obtain ⟨n, hl⟩ := hM.loop _ _ _ hl
          refine jp_mono (w_loop _ (g83_I2 v0 v2 v4 v7 x28 v20 x21 x27 x34) (g83_J2 v0 v2 v4 v7 x28 v20 x21 x27 x34) ?_ n _ _ _ _ hl ⟨rfl, gl g5, gl rfl, gl g0, gl g2, gl g4, gl g7, gl rfl, gl g20, gl g21, gl g27, gl g28, gl rfl⟩) ?_
          · clear hr hl
            intro s mm_3 t_3 o hi hr
            obtain ⟨x5_2, x35, m_7⟩ := s
            obtain ⟨rfl, g5, g35, g0, g2, g4, g7, g8, g20, g21, g27, g28, g34⟩ := hi
            unfold g83_b2 at hr
            refine w_seq ?_
            refine w_ops ?_
            have hq := forceB_inv hr
            clear hr
            obtain ⟨c36, e36, hr⟩ := hq
            refine wo_step (v := (.b c36)) (s_pure (p_bin g35 g34 (b_lss.trans (cb e36)))) ?_
            refine wo_nil ?_
            refine nx_norm ?_
            refine w_seq ?_
            have hq := cond_inv hr
            clear hr
            rcases hq with ⟨rfl, hr⟩ | ⟨rfl, hr⟩
            · refine w_condT rfl ?_
              refine w_skip ?_
              refine nx_norm ?_
              refine w_seq ?_
              have hq := bindO_inv hr
              clear hr
              obtain ⟨o, hr, hk⟩ := hq
              refine jp_mono (J := g83_J3 v0 v2 v4 v7 x28 v20 x21 x27 x34 x35 o) ?_ ?_
              · clear hk
                refine w_block ?_
                refine w_seq ?_
                refine w_ops ?_
                refine wo_step (v := (.i .i64 x35)) (s_pure (p_mv g35)) ?_
                refine wo_step (v := (.i .i64 x35)) (s_pure (p_mv rfl)) ?_
                refine wo_nil ?_
                refine nx_norm ?_
                refine w_seq ?_
                refine w_ops ?_
                have hq := bindO_inv hr
                clear hr
                obtain ⟨v38, e38, hr⟩ := hq
                refine wo_step (v := v38) (s_pure (o_ixA g7 rfl e38)) ?_
                have hq := bindO_inv hr
                clear hr
                obtain ⟨v39, e39, hr⟩ := hq
                have hq := asI_inv hr
                clear hr
                obtain ⟨x39, rfl, hr⟩ := hq
                refine wo_step (v := (.i .i64 x39)) (s_ld rfl e39) ?_
                refine wo_step (v := (.i .i64 x28)) (s_pure (p_mv g8)) ?_
                have hq := bindO_inv hr
                clear hr
                obtain ⟨v41, e41, hr⟩ := hq
                refine wo_step (v := v41) (s_pure (o_ixA g7 rfl e41)) ?_
                have hq := bindO_inv hr
                clear hr
                obtain ⟨v42, e42, hr⟩ := hq
                have hq := asI_inv hr
                clear hr
                obtain ⟨x42, rfl, hr⟩ := hq
                refine wo_step (v := (.i .i64 x42)) (s_ld rfl e42) ?_
                refine wo_step (v := (.i .i64 x35)) (s_pure (p_mv rfl)) ?_
                have hq := bindO_inv hr
                clear hr
                obtain ⟨v44, e44, hr⟩ := hq
                refine wo_step (v := v44) (s_pure (o_build (qc rfl (qc rfl (qc rfl (qc rfl qn)))) e44)) ?_
                have hq := bindP_inv hr
                clear hr
                obtain ⟨v10, m_8, e10, hr⟩ := hq
                refine wo_step (v := v10) (s_al e10) ?_
                have hq := bindP_inv hr
                clear hr
                obtain ⟨vn_1, m_9, en_1, hr⟩ := hq
                refine wo_stepN (s_st rfl rfl en_1) ?_
                refine wo_nil ?_
                refine nx_norm ?_
                refine w_seq ?_
                refine w_seq ?_
                refine w_ops ?_
                refine wo_step (v := v0) (s_pure (p_mv g0)) ?_
                have hq := bindO_inv hr
                clear hr
                obtain ⟨v46, e46, hr⟩ := hq
                refine wo_step (v := v46) (s_ld rfl e46) ?_
                have hq := bindP_inv hr
                clear hr
                obtain ⟨v47, m_10, e47, hr⟩ := hq
                have hq := asB_inv hr
                clear hr
                obtain ⟨c47, rfl, hr⟩ := hq
                refine wo_step (v := (.b c47)) (s_call (mc rfl (mc rfl mn)) (callM_le hM.call e47)) ?_
                refine wo_nil ?_
                refine nx_norm ?_
                have hq := cond_inv hr
                clear hr
                rcases hq with ⟨rfl, hr⟩ | ⟨rfl, hr⟩
                · refine w_condT rfl ?_
                  refine w_exit ?_
                  refine nx_exit ?_
                  refine bk_hit ?_
                  cases hr
                  exact ⟨_, _, rfl, rfl, rfl, gl g5, gl g0, gl g2, gl g4, gl g7, gl g8, gl g20, gl g21, gl g27, gl g28, gl g34, gl g35⟩
                · refine w_condF rfl ?_
                  refine w_skip ?_
                  refine nx_norm ?_
                  refine w_seq ?_
                  refine w_ops ?_
                  refine wo_step (v := v0) (s_pure (p_mv g0)) ?_
                  have hq := bindO_inv hr
                  clear hr
                  obtain ⟨v49, e49, hr⟩ := hq
                  refine wo_step (v := v49) (s_ld rfl e49) ?_
                  have hq := bindP_inv hr
                  clear hr
                  obtain ⟨v50, m_11, e50, hr⟩ := hq
                  have hq := asI_inv hr
                  clear hr
                  obtain ⟨x50, rfl, hr⟩ := hq
                  refine wo_step (v := (.i .u8 x50)) (s_call (mc rfl (mc rfl mn)) (callM_le hM.call e50)) ?_
                  have hq := bindP_inv hr
                  clear hr
                  obtain ⟨v51, m_12, e51, hr⟩ := hq
                  have hq := asI_inv hr
                  clear hr
                  obtain ⟨x51, rfl, hr⟩ := hq
                  refine wo_step (v := (.i .i64 x51)) (s_call (mc rfl mn) (callM_le hM.call e51)) ?_
                  refine wo_step (v := (.i .i64 x51)) (s_pure (p_mv rfl)) ?_
                  refine wo_nil ?_
                  refine nx_norm ?_
                  refine w_seq ?_
                  refine w_ops ?_
                  refine wo_step (v := (.i .i64 x51)) (s_pure (p_mv rfl)) ?_
                  refine wo_step (v := (.i .i64 x5_2)) (s_pure (p_mv g5)) ?_
                  have hq := forceB_inv hr
                  clear hr
                  obtain ⟨c54, e54, hr⟩ := hq
                  refine wo_step (v := (.b c54)) (s_pure (p_bin rfl rfl (b_lss.trans (cb e54)))) ?_
                  refine wo_nil ?_
                  refine nx_norm ?_
                  have hq := bindO_inv hr
                  clear hr
                  obtain ⟨o_1, hr, hk⟩ := hq
                  refine jp_mono (J := g83_J4 v0 v2 v4 v7 x28 v20 x21 x27 x34 x35 o_1) ?_ ?_
                  · clear hk
                    have hq := cond_inv hr
                    clear hr
                    rcases hq with ⟨rfl, hr⟩ | ⟨rfl, hr⟩
                    · refine w_condT rfl ?_
                      refine w_ops ?_
                      have hq := bindO_inv hr
                      clear hr
                      obtain ⟨v55, e55, hr⟩ := hq
                      refine wo_step (v := v55) (s_ld rfl e55) ?_
                      refine wo_step (v := (.i .i64 x51)) (s_pure (p_mv rfl)) ?_
                      have hq := bindP_inv hr
                      clear hr
                      obtain ⟨vn_2, m_13, en_2, hr⟩ := hq
                      refine wo_stepN (s_st g4 rfl en_2) ?_
                      refine wo_step (v := (.i .i64 x51)) (s_pure (p_mv rfl)) ?_
                      refine wo_nil ?_
                      cases hr
                      exact ⟨_, _, rfl, rfl, rfl, gl rfl, gl g0, gl g2, gl g4, gl g7, gl g8, gl g20, gl g21, gl g27, gl g28, gl g34, gl g35⟩
                    · refine w_condF rfl ?_
                      refine w_skip ?_
                      cases hr
                      exact ⟨_, _, rfl, rfl, rfl, gl g5, gl g0, gl g2, gl g4, gl g7, gl g8, gl g20, gl g21, gl g27, gl g28, gl g34, gl g35⟩
                  · have hr := hk
                    clear hk
                    obtain ⟨x5_3, m_14⟩ := o_1
                    rintro _ mm t_4 ⟨rfl, rfl, g5, g0, g2, g4, g7, g8, g20, g21, g27, g28, g34, g35⟩
                    refine bk_norm ?_
                    cases hr
                    exact ⟨_, _, rfl, rfl, rfl, gl g5, gl g0, gl g2, gl g4, gl g7, gl g8, gl g20, gl g21, gl g27, gl g28, gl g34, gl g35⟩
              · have hr := hk
                clear hk
                obtain ⟨x5_4, m_15⟩ := o
                rintro _ mm_1 t_5 ⟨rfl, rfl, g5, g0, g2, g4, g7, g8, g20, g21, g27, g28, g34, g35⟩
                refine nx_norm ?_
                refine w_ops ?_
                have hq := forceI_inv hr
                clear hr
                obtain ⟨x57, e57, hr⟩ := hq
                refine wo_step (v := (.i .i64 x57)) (s_pure (p_bin g35 rfl (b_add.trans (ci e57)))) ?_
                refine wo_step (v := (.i .i64 x57)) (s_pure (p_mv rfl)) ?_
                refine wo_nil ?_
                cases hr
                exact ⟨_, _, rfl, rfl, rfl, gl g5, gl rfl, gl g0, gl g2, gl g4, gl g7, gl g8, gl g20, gl g21, gl g27, gl g28, gl g34⟩
            · refine w_condF rfl ?_
              refine w_exit ?_
              refine nx_exit ?_
              cases hr
              exact ⟨_, _, rfl, ne_norm_exit, rfl, rfl, gl g5, gl g0, gl g2, gl g4, gl g7, gl g20, gl g21, gl g27, gl g28⟩
          · obtain ⟨x5_5, m_16⟩ := o_2
            rintro _ mm_2 t_6 ⟨rfl, rfl, g5, g0, g2, g4, g7, g20, g21, g27, g28⟩
            refine bk_hit ?_
            refine bk_norm ?_
            refine nx_norm ?_
            refine w_ops ?_
            have hq := forceI_inv hr
            clear hr
            obtain ⟨x58, e58, hr⟩ := hq
            refine wo_step (v := (.i .i64 x58)) (s_pure (p_bin g28 rfl (b_add.trans (ci e58)))) ?_
            refine wo_step (v := (.i .i64 x58)) (s_pure (p_mv rfl)) ?_
            refine wo_nil ?_
            cases hr
            exact ⟨_, _, rfl, rfl, rfl, gl g5, gl rfl, gl g0, gl g2, gl g4, gl g7, gl g20, gl g21, gl g27⟩
        · refine w_condF rfl ?_
          refine w_exit ?_
          refine nx_exit ?_
          cases hr
          exact ⟨_, _, rfl, ne_norm_exit, rfl, rfl, gl g5, gl g0, gl g2, gl g4, gl g20, gl g21⟩
      · obtain ⟨x5_6, m_17⟩ := o_3
        rintro _ mm_4 t_7 ⟨rfl, rfl, g5, g0, g2, g4, g20, g21⟩
        refine bk_hit ?_
        refine bk_norm ?_
        refine nx_norm ?_
        refine w_ops ?_
        have hq := forceI_inv hr
        clear hr
        obtain ⟨x59, e59, hr⟩ := hq
        refine wo_step (v := (.i .i64 x59)) (s_pure (p_bin g21 rfl (b_add.trans (ci e59)))) ?_
        refine wo_step (v := (.i .i64 x59)) (s_pure (p_mv rfl)) ?_
        refine wo_nil ?_
        cases hr
        exact ⟨_, _, rfl, rfl, rfl, gl g5, gl rfl, gl g0, gl g2, gl g4, gl g20⟩
    · refine w_condF rfl ?_
      refine w_exit ?_
      refine nx_exit ?_
      cases hr
      exact ⟨_, _, rfl, ne_norm_exit, rfl, rfl, gl g5, gl g0, gl g2, gl g4⟩
  · obtain ⟨x5_7, m_18⟩ := o_4
    rintro _ mm_6 t_8 ⟨rfl, rfl, g5, g0, g2, g4⟩
    refine bk_hit ?_
    refine nx_norm ?_
    refine w_seq ?_
    refine w_any ?_
    have hq := bindO_inv hr
    clear hr
    obtain ⟨v60, e60, hr⟩ := hq
    refine wa_step (v := v60) (a_ld g4 e60) ?_
    refine wa_step (v := (.i .i64 x5_7)) (a_pure (p_mv g5)) ?_
    refine wa_step (v := v0) (a_pure (p_mv g0)) ?_
    have hq := bindO_inv hr
    clear hr
    obtain ⟨v63, e63, hr⟩ := hq
    refine wa_step (v := v63) (a_pure (o_nilck rfl e63)) ?_
    have hq := bindO_inv hr
    clear hr
    obtain ⟨v64, e64, hr⟩ := hq
    refine wa_step (v := v64) (a_pure (o_faddr rfl e64)) ?_
    have hq := asP_inv hr
    clear hr
    obtain ⟨q65, eq65, hr⟩ := hq
    have hq := bindO_inv hr
    clear hr
    obtain ⟨v65, e65, hr⟩ := hq
    have hq := asI_inv hr
    clear hr
    obtain ⟨x65, rfl, hr⟩ := hq
    refine wa_step (v := (.i .i64 x65)) (a_ldF (Eq.trans (b := v64) rfl eq65) e65) ?_
    have hq := forceB_inv hr
    clear hr
    obtain ⟨c66, e66, hr⟩ := hq
    refine wa_step (v := (.b c66)) (a_pure (p_bin rfl rfl (b_leq.trans (cb e66)))) ?_
    have hq := asP_inv hr
    clear hr
    obtain ⟨qs, eqs, hr⟩ := hq
    have hq := chk_inv hr
    clear hr
    obtain ⟨hcs, hr⟩ := hq
    refine wa_stepN (a_st (Eq.trans (b := v2) g2 eqs) rfl hcs) ?_
    refine wa_step (v := (.b c66)) (a_pure (p_mv rfl)) ?_
    have hq := bindO_inv hr
    clear hr
    obtain ⟨m_19, ew, hr⟩ := hq
    refine wa_nil ?_
    refine ⟨m_19, ew, ?_⟩
    refine nx_norm ?_
    refine w_ret ?_
    have hq := bindO_inv hr
    clear hr
    obtain ⟨vr, er, hr⟩ := hq
    exact qf ret_ok (rc g2 er (rt rfl rn)) hr

/- (dibber/bed.need).with -/

def g84 (M : Means) (ro : List ABlk) (v0 : AVal) (x1 : Int) (m0 : Mm) : Option (AVal × Heap × Nat × Nat) :=
  bindP (stepM ro m0 (.bx 59 4 (.c v0))) fun v2 m_1 =>
  bindP (stepM ro m_1 (.al 62 [(AVal.i IntKind.i64 0), (AVal.i IntKind.i64 0), (AVal.i IntKind.i64 0)])) fun v4 m_2 =>
  bindP (stepM ro m_2 (.al 62 [(AVal.i IntKind.i64 0), (AVal.i IntKind.i64 0), (AVal.i IntKind.i64 0)])) fun v5 m_3 =>
  bindO (evP .e (.faddr 0 (.c v2))) fun v6 =>
  bindO (ldA ro m_3.h true 1 v6) fun v7 =>
  asI .i64 v7 fun x7 =>
  bindO (evP .e (.faddr 2 (.c v2))) fun v8 =>
  asP v8 fun q9 =>
  bindO (ldA ro m_3.h true 1 (.p (some q9))) fun v9 =>
  asI .i64 v9 fun x9 =>
  bindO (evP .e (.faddr 0 (.c v2))) fun v10 =>
  asP v10 fun q11 =>
  bindO (ldA ro m_3.h true 1 (.p (some q11))) fun v11 =>
  asI .i64 v11 fun x11 =>
  forceI (wr .i64 (3 - x11)) fun x12 =>
  bindO (evP .e (.faddr 2 (.c v2))) fun v13 =>
  asP v13 fun q14 =>
  bindO (ldA ro m_3.h true 1 (.p (some q14))) fun v14 =>
  asI .i64 v14 fun x14 =>
  forceI (wr .i64 (x12 - x14)) fun x15 =>
  bindO (evP .e (.faddr 1 (.c v2))) fun v16 =>
  bindO (ldA ro m_3.h true 1 v16) fun v17 =>
  asI .i64 v17 fun x17 =>
  bindO (evP .e (.faddr 3 (.c v2))) fun v18 =>
  asP v18 fun q19 =>
  bindO (ldA ro m_3.h true 1 (.p (some q19))) fun v19 =>
  asI .i64 v19 fun x19 =>
  bindO (evP .e (.ixA 3 1 (.c v5) (.c (.i .i64 x7)))) fun v21 =>
  asP v21 fun qs =>
  bindO (evP .e (.ixA 3 1 (.c v5) (.c (.i .i64 x9)))) fun v22 =>
  asP v22 fun qs_1 =>
  bindO (evP .e (.ixA 3 1 (.c v5) (.c (.i .i64 x15)))) fun v23 =>
  asP v23 fun qs_2 =>
  bindO (writesM ro [((q19, [.b true, .i .i64 1]), (.i .i64 x19)), ((q14, [.b true, .i .i64 1]), (.i .i64 x14)), ((q11, [.b true, .i .i64 1]), (.i .i64 x11)), ((q9, [.b true, .i .i64 1]), (.i .i64 x9))] [(qs, AVal.cells (.i .i64 x17)), (qs_1, AVal.cells (.i .i64 x19)), (qs_2, AVal.cells (.i .i64 x1))] ⟨m_3.h, m_3.lw, m_3.lp⟩) fun m_4 =>
  bindO (ldM ro m_4 false 3 v5) fun v24 =>
  bindP (stepM ro m_4 (.st 3 (.c v4) (.c v24))) fun vn m_5 =>
  bindO (ldM ro m_5 false 3 v4) fun vr =>
  finM m0.h.length (tupA [vr]) m_5

theorem g84_ok {ro : List ABlk} {O : Caller} {M : Means} (hM : M.Ok ⟨F, O⟩ ro) {v0 x1 h r} (ho : O 84 [v0, (.i .i64 x1)] h = none) (hr : g84 M ro v0 x1 ⟨h, h.length, h.length⟩ = some r) : callX ⟨F, O⟩ ro 84 [v0, (.i .i64 x1)] h = some r := by
  refine callX_of (F := ⟨F, O⟩) (fn := fn84) (g := g84 M ro v0 x1) ho rfl rfl hr ?_
  clear ho
  clear hr
  intro m0 t0 ht hr
  have g0 : t0.get 0 = v0 := ht 0
  have g1 : t0.get 1 = (.i .i64 x1) := ht 1
  clear ht
  unfold g84 at hr
  refine w_seq ?_
  refine w_ops ?_
  have hq := bindP_inv hr
  clear hr
  obtain ⟨v2, m_1, e2, hr⟩ := hq
  refine wo_step (v := v2) (s_bx g0 e2) ?_
  have hq := bindP_inv hr
  clear hr
  obtain ⟨v4, m_2, e4, hr⟩ := hq
  refine wo_step (v := v4) (s_al e4) ?_
  refine wo_nil ?_
  refine nx_norm ?_
  refine w_seq ?_
  refine w_ops ?_
  have hq := bindP_inv hr
  clear hr
  obtain ⟨v5, m_3, e5, hr⟩ := hq
  refine wo_step (v := v5) (s_al e5) ?_
  refine wo_nil ?_
  refine nx_norm ?_
  refine w_seq ?_
  refine w_any ?_
  have hq := bindO_inv hr
  clear hr
  obtain ⟨v6, e6, hr⟩ := hq
  refine wa_step (v := v6) (a_pure (o_faddr rfl e6)) ?_
  have hq := bindO_inv hr
  clear hr
  obtain ⟨v7, e7, hr⟩ := hq
  have hq := asI_inv hr
  clear hr
  obtain ⟨x7, rfl, hr⟩ := hq
  refine wa_step (v := (.i .i64 x7)) (a_ld rfl e7) ?_
  have hq := bindO_inv hr
  clear hr
  obtain ⟨v8, e8, hr⟩ := hq
  refine wa_step (v := v8) (a_pure (o_faddr rfl e8)) ?_
  have hq := asP_inv hr
  clear hr
  obtain ⟨q9, eq9, hr⟩ := hq
  have hq := bindO_inv hr
  clear hr
  obtain ⟨v9, e9, hr⟩ := hq
  have hq := asI_inv hr
  clear hr
  obtain ⟨x9, rfl, hr⟩ := hq
  refine wa_step (v := (.i .i64 x9)) (a_ldF (Eq.trans (b := v8) rfl eq9) e9) ?_
  have hq := bindO_inv hr
  clear hr
  obtain ⟨v10, e10, hr⟩ := hq
  refine wa_step (v := v10) (a_pure (o_faddr rfl e10)) ?_
  have hq := asP_inv hr
  clear hr
  obtain ⟨q11, eq11, hr⟩ := hq
  have hq := bindO_inv hr
  clear hr
  obtain ⟨v11, e11, hr⟩ := hq
  have hq := asI_inv hr
  clear hr
  obtain ⟨x11, rfl, hr⟩ := hq
  refine wa_step (v := (.i .i64 x11)) (a_ldF (Eq.trans (b := v10) rfl eq11) e11) ?_
  have hq := forceI_inv hr
  clear hr
  obtain ⟨x12, e12, hr⟩ := hq
  refine wa_step (v := (.i .i64 x12)) (a_pure (p_bin rfl rfl (b_sub.trans (ci e12)))) ?_
  have hq := bindO_inv hr
  clear hr
  obtain ⟨v13, e13, hr⟩ := hq
  refine wa_step (v := v13) (a_pure (o_faddr rfl e13)) ?_
  have hq := asP_inv hr
  clear hr
  obtain ⟨q14, eq14, hr⟩ := hq
  have hq := bindO_inv hr
  clear hr
  obtain ⟨v14, e14, hr⟩ := hq
  have hq := asI_inv hr
  clear hr
  obtain ⟨x14, rfl, hr⟩ := hq
  refine wa_step (v := (.i .i64 x14)) (a_ldF (Eq.trans (b := v13) rfl eq14) e14) ?_
  have hq := forceI_inv hr
  clear hr
  obtain ⟨x15, e15, hr⟩ := hq
  refine wa_step (v := (.i .i64 x15)) (a_pure (p_bin rfl rfl (b_sub.trans (ci e15)))) ?_
  have hq := bindO_inv hr
  clear hr
  obtain ⟨v16, e16, hr⟩ := hq
  refine wa_step (v := v16) (a_pure (o_faddr rfl e16)) ?_
  have hq := bindO_inv hr
  clear hr
  obtain ⟨v17, e17, hr⟩ := hq
  have hq := asI_inv hr
  clear hr
  obtain ⟨x17, rfl, hr⟩ := hq
  refine wa_step (v := (.i .i64 x17)) (a_ld rfl e17) ?_
  have hq := bindO_inv hr
  clear hr
  obtain ⟨v18, e18, hr⟩ := hq
  refine wa_step (v := v18) (a_pure (o_faddr rfl e18)) ?_
  have hq := asP_inv hr
  clear hr
  obtain ⟨q19, eq19, hr⟩ := hq
  have hq := bindO_inv hr
  clear hr
  obtain ⟨v19, e19, hr⟩ := hq
  have hq := asI_inv hr
  clear hr
  obtain ⟨x19, rfl, hr⟩ := hq
  refine wa_step (v := (.i .i64 x19)) (a_ldF (Eq.trans (b := v18) rfl eq19) e19) ?_
  refine wa_step (v := (.i .i64 x1)) (a_pure (p_mv g1)) ?_
  have hq := bindO_inv hr
  clear hr
  obtain ⟨v21, e21, hr⟩ := hq
  refine wa_step (v := v21) (a_pure (o_ixA rfl rfl e21)) ?_
  have hq := asP_inv hr
  clear hr
  obtain ⟨qs, eqs, hr⟩ := hq
  refine wa_stepN (a_st (Eq.trans (b := v21) rfl eqs) rfl rfl) ?_
  have hq := bindO_inv hr
  clear hr
  obtain ⟨v22, e22, hr⟩ := hq
  refine wa_step (v := v22) (a_pure (o_ixA rfl rfl e22)) ?_
  have hq := asP_inv hr
  clear hr
  obtain ⟨qs_1, eqs_1, hr⟩ := hq
  refine wa_stepN (a_st (Eq.trans (b := v22) rfl eqs_1) rfl rfl) ?_
  have hq := bindO_inv hr
  clear hr
  obtain ⟨v23, e23, hr⟩ := hq
  refine wa_step (v := v23) (a_pure (o_ixA rfl rfl e23)) ?_
  have hq := asP_inv hr
  clear hr
  obtain ⟨qs_2, eqs_2, hr⟩ := hq
  refine wa_stepN (a_st (Eq.trans (b := v23) rfl eqs_2) rfl rfl) ?_
  have hq := bindO_inv hr
  clear hr
  obtain ⟨m_4, ew, hr⟩ := hq
  refine wa_nil ?_
  refine ⟨m_4, ew, ?_⟩
  refine nx_norm ?_
  refine w_seq ?_
  refine w_ops ?_
  have hq := bindO_inv hr
  clear hr
  obtain ⟨v24, e24, hr⟩ := hq
  refine wo_step (v := v24) (s_ld rfl e24) ?_
  have hq := bindP_inv hr
  clear hr
  obtain ⟨vn, m_5, en, hr⟩ := hq
  refine wo_stepN (s_st rfl rfl en) ?_
  refine wo_nil ?_
  refine nx_norm ?_
  refine w_ret ?_
  have hq := bindO_inv hr
  clear hr
  obtain ⟨vr, er, hr⟩ := hq
  exact qf ret_ok (rc rfl er rn) hr

/- math/bits.TrailingZeros8 -/

def g85 (M : Means) (ro : List ABlk) (x0 : Int) (m0 : Mm) : Option (AVal × Heap × Nat × Nat) :=
  bindO (evP .e (.ixStr (.c (AVal.s [8, 0, 1, 0, 2, 0, 1, 0, 3, 0, 1, 0, 2, 0, 1, 0, 4, 0, 1, 0, 2, 0, 1, 0, 3, 0, 1, 0, 2, 0, 1, 0, 5, 0, 1, 0, 2, 0, 1, 0, 3, 0, 1, 0, 2, 0, 1, 0, 4, 0, 1, 0, 2, 0, 1, 0, 3, 0, 1, 0, 2, 0, 1, 0, 6, 0, 1, 0, 2, 0, 1, 0, 3, 0, 1, 0, 2, 0, 1, 0, 4, 0, 1, 0, 2, 0, 1, 0, 3, 0, 1, 0, 2, 0, 1, 0, 5, 0, 1, 0, 2, 0, 1, 0, 3, 0, 1, 0, 2, 0, 1, 0, 4, 0, 1, 0, 2, 0, 1, 0, 3, 0, 1, 0, 2, 0, 1, 0, 7, 0, 1, 0, 2, 0, 1, 0, 3, 0, 1, 0, 2, 0, 1, 0, 4, 0, 1, 0, 2, 0, 1, 0, 3, 0, 1, 0, 2, 0, 1, 0, 5, 0, 1, 0, 2, 0, 1, 0, 3, 0, 1, 0, 2, 0, 1, 0, 4, 0, 1, 0, 2, 0, 1, 0, 3, 0, 1, 0, 2, 0, 1, 0, 6, 0, 1, 0, 2, 0, 1, 0, 3, 0, 1, 0, 2, 0, 1, 0, 4, 0, 1, 0, 2, 0, 1, 0, 3, 0, 1, 0, 2, 0, 1, 0, 5, 0, 1, 0, 2, 0, 1, 0, 3, 0, 1, 0, 2, 0, 1, 0, 4, 0, 1, 0, 2, 0, 1, 0, 3, 0, 1, 0, 2, 0, 1, 0])) (.c (.i .u8 x0)))) fun v4 =>
  asI .u8 v4 fun x4 =>
  forceI (wr .i64 x4) fun x5 =>
  finM m0.h.length (tupA [(.i .i64 x5)]) m0

theorem g85_ok {ro : List ABlk} {O : Caller} {M : Means} (hM : M.Ok ⟨F, O⟩ ro) {x0 h r} (ho : O 85 [(.i .u8 x0)] h = none) (hr : g85 M ro x0 ⟨h, h.length, h.length⟩ = some r) : callX ⟨F, O⟩ ro 85 [(.i .u8 x0)] h = some r := by
  refine callX_of (F := ⟨F, O⟩) (fn := fn85) (g := g85 M ro x0) ho rfl rfl hr ?_
  clear ho
  clear hr
  intro m0 t0 ht hr
  have g0 : t0.get 0 = (.i .u8 x0) := ht 0
  clear ht
  unfold g85 at hr
  refine w_seq ?_
  refine w_ops ?_
  refine wo_step (v := (.i .i64 0)) (s_pure (p_mv rfl)) ?_
  refine wo_nil ?_
  refine nx_norm ?_
  refine w_seq ?_
  refine w_ops ?_
  refine wo_step (v := (.i .u8 x0)) (s_pure (p_mv g0)) ?_
  have hq := bindO_inv hr
  clear hr
  obtain ⟨v4, e4, hr⟩ := hq
  have hq := asI_inv hr
  clear hr
  obtain ⟨x4, rfl, hr⟩ := hq
  refine wo_step (v := (.i .u8 x4)) (s_pure (o_ixStr rfl rfl e4)) ?_
  have hq := forceI_inv hr
  clear hr
  obtain ⟨x5, e5, hr⟩ := hq
  refine wo_step (v := (.i .i64 x5)) (s_pure ((p_conv rfl).trans (ci e5))) ?_
  refine wo_step (v := (.i .i64 x5)) (s_pure (p_mv rfl)) ?_
  refine wo_nil ?_
  refine nx_norm ?_
  refine w_ret ?_
  exact qf ret_ok (rt rfl rn) hr

/- (dibber/bed.ground).clear -/
abbrev g86_I0 (v0 : AVal) (v3 : AVal) (s : Int × Mm) (m1 : Mm) (t1 : Tr) : Prop :=
  match s with
  | (x15, m_3) => m_3 = m1 ∧ t1.get 15 = (.i .i64 x15) ∧ t1.get 0 = v0 ∧ t1.get 3 = v3
abbrev g86_J0 (v0 : AVal) (v3 : AVal) (o : Mm) (e : AExit) (m1 : Mm) (t1 : Tr) : Prop :=
  match o with
  | mo => e = (.exit 0) ∧ mo = m1
abbrev g86_I1 (v0 : AVal) (v3 : AVal) (x15 : Int) (s : Int × Mm) (m1 : Mm) (t1 : Tr) : Prop :=
  match s with
  | (x18, m_4) => m_4 = m1 ∧ t1.get 18 = (.i .i64 x18) ∧ t1.get 0 = v0 ∧ t1.get 3 = v3 ∧ t1.get 4 = (.i .i64 x15) ∧ t1.get 15 = (.i .i64 x15)
abbrev g86_J1 (v0 : AVal) (v3 : AVal) (x15 : Int) (o : Mm) (e : AExit) (m1 : Mm) (t1 : Tr) : Prop :=
  match o with
  | mo => e = (.exit 2) ∧ mo = m1 ∧ t1.get 0 = v0 ∧ t1.get 3 = v3 ∧ t1.get 15 = (.i .i64 x15)
def g86_b1 (M : Means) (ro : List ABlk) (v0 : AVal) (v3 : AVal) (x15 : Int) (x18 : Int) (m_4 : Mm) : Option ((Int × Mm) ⊕ (Mm)) :=
  forceB (ltI x18 3) fun c19 =>
  cond c19 (
    bindO (evP .e (.ixA 3 1 (.c v3) (.c (.i .i64 x15)))) fun v25 =>
    bindO (ldA ro m_4.h true 1 v25) fun v26 =>
    asI .i64 v26 fun x26 =>
    bindO (evP .e (.nilck (.c v0))) fun v27 =>
    bindO (evP .e (.faddr 50 (.c v27))) fun v28 =>
    bindO (evP .e (.ixA 3 21 (.c v28) (.c (.i .i64 x15)))) fun v29 =>
    bindO (evP .e (.ixA 3 7 (.c v29) (.c (.i .i64 x18)))) fun v30 =>
    bindO (evP .e (.ixA 7 1 (.c v30) (.c (.i .i64 x26)))) fun v31 =>
    bindO (ldA ro m_4.h true 1 v31) fun v32 =>
    asI .u8 v32 fun x32 =>
    bindO (evP .e (.ixA 3 1 (.c v3) (.c (.i .i64 x18)))) fun v34 =>
    bindO (ldA ro m_4.h true 1 v34) fun v35 =>
    asI .i64 v35 fun x35 =>
    chk (!ltI x35 (.ofNat 0)) <|
    forceI (shlV .u8 1 x35) fun x36 =>
    forceI (bitV .andNot .u8 x32 x36) fun x37 =>
    bindO (evP .e (.nilck (.c v0))) fun v38 =>
    bindO (evP .e (.faddr 50 (.c v38))) fun v39 =>
    bindO (evP .e (.ixA 3 21 (.c v39) (.c (.i .i64 x15)))) fun v40 =>
    bindO (evP .e (.ixA 3 7 (.c v40) (.c (.i .i64 x18)))) fun v41 =>
    bindO (evP .e (.ixA 7 1 (.c v41) (.c (.i .i64 x26)))) fun v42 =>
    asP v42 fun qs_1 =>
    bindO (writesM ro [] [(qs_1, AVal.cells (.i .u8 x37))] ⟨m_4.h, m_4.lw, m_4.lp⟩) fun m_5 =>
    forceI (wr .i64 (x18 + 1)) fun x43 =>
    some (.inl (x43, m_5))) (
    some (.inr m_4))
def g86_b0 (M : Means) (ro : List ABlk) (v0 : AVal) (v3 : AVal) (x15 : Int) (m_3 : Mm) : Option ((Int × Mm) ⊕ (Mm)) :=
  forceB (ltI x15 3) fun c16 =>
  cond c16 (
    bindO (M.loop (S := Int × Mm) (R := Mm) (fun s => g86_b1 M ro v0 v3 x15 s.1 s.2) (0, m_3)) fun m_6 =>
    forceI (wr .i64 (x15 + 1)) fun x44 =>
    some (.inl (x44, m_6))) (
    some (.inr m_3))
def g86 (M : Means) (ro : List ABlk) (v0 : AVal) (v1 : AVal) (m0 : Mm) : Option (AVal × Heap × Nat × Nat) :=
  bindP (stepM ro m0 (.bx 62 3 (.c v1))) fun v3 m_1 =>
  bindO (evP .e (.ixA 3 1 (.c v3) (.c (.i .i64 0)))) fun v7 =>
  bindO (ldA ro m_1.h true 1 v7) fun v8 =>
  asI .i64 v8 fun x8 =>
  bindO (evP .e (.ixA 3 1 (.c v3) (.c (.i .i64 1)))) fun v9 =>
  bindO (ldA ro m_1.h true 1 v9) fun v10 =>
  asI .i64 v10 fun x10 =>
  bindO (evP .e (.nilck (.c v0))) fun v11 =>
  bindO (evP .e (.faddr 1 (.c v11))) fun v12 =>
  bindO (evP .e (.ixA 7 7 (.c v12) (.c (.i .i64 x8)))) fun v13 =>
  bindO (evP .e (.ixA 7 1 (.c v13) (.c (.i .i64 x10)))) fun v14 =>
  asP v14 fun qs =>
  bindO (writesM ro [] [(qs, AVal.cells (.i .i64 (-1)))] ⟨m_1.h, m_1.lw, m_1.lp⟩) fun m_2 =>
  bindO (M.loop (S := Int × Mm) (R := Mm) (fun s => g86_b0 M ro v0 v3 s.1 s.2) (0, m_2)) fun m_7 =>
  finM m0.h.length (tupA []) m_7

theorem g86_ok {ro : List ABlk} {O : Caller} {M : Means} (hM : M.Ok ⟨F, O⟩ ro) {v0 v1 h r} (ho : O 86 [v0, v1] h = none) (hr : g86 M ro v0 v1 ⟨h, h.length, h.length⟩ = some r) : callX ⟨F, O⟩ ro 86 [v0, v1] h = some r := by
  refine callX_of (F := ⟨F, O⟩) (fn := fn86) (g := g86 M ro v0 v1) ho rfl rfl hr ?_
  clear ho
  clear hr
  intro m0 t0 ht hr
  have g0 : t0.get 0 = v0 := ht 0
  have g1 : t0.get 1 = v1 := ht 1
  clear ht
  unfold g86 at hr
  refine w_seq ?_
  refine w_ops ?_
  have hq := bindP_inv hr
  clear hr
  obtain ⟨v3, m_1, e3, hr⟩ := hq
  refine wo_step (v := v3) (s_bx g1 e3) ?_
  refine wo_nil ?_
  refine nx_norm ?_
  refine w_seq ?_
  refine w_any ?_
  refine wa_step (v := v0) (a_pure (p_mv g0)) ?_
  have hq := bindO_inv hr
  clear hr
  obtain ⟨v7, e7, hr⟩ := hq
  refine wa_step (v := v7) (a_pure (o_ixA rfl rfl e7)) ?_
  have hq := bindO_inv hr
  clear hr
  obtain ⟨v8, e8, hr⟩ := hq
  have hq := asI_inv hr
  clear hr
  obtain ⟨x8, rfl, hr⟩ := hq
  refine wa_step (v := (.i .i64 x8)) (a_ld rfl e8) ?_
  have hq := bindO_inv hr
  clear hr
  obtain ⟨v9, e9, hr⟩ := hq
  refine wa_step (v := v9) (a_pure (o_ixA rfl rfl e9)) ?_
  have hq := bindO_inv hr
  clear hr
  obtain ⟨v10, e10, hr⟩ := hq
  have hq := asI_inv hr
  clear hr
  obtain ⟨x10, rfl, hr⟩ := hq
  refine wa_step (v := (.i .i64 x10)) (a_ld rfl e10) ?_
  have hq := bindO_inv hr
  clear hr
  obtain ⟨v11, e11, hr⟩ := hq
  refine wa_step (v := v11) (a_pure (o_nilck rfl e11)) ?_
  have hq := bindO_inv hr
  clear hr
  obtain ⟨v12, e12, hr⟩ := hq
  refine wa_step (v := v12) (a_pure (o_faddr rfl e12)) ?_
  have hq := bindO_inv hr
  clear hr
  obtain ⟨v13, e13, hr⟩ := hq
  refine wa_step (v := v13) (a_pure (o_ixA rfl rfl e13)) ?_
  have hq := bindO_inv hr
  clear hr
  obtain ⟨v14, e14, hr⟩ := hq
  refine wa_step (v := v14) (a_pure (o_ixA rfl rfl e14)) ?_
  have hq := asP_inv hr
  clear hr
  obtain ⟨qs, eqs, hr⟩ := hq
  refine wa_stepN (a_st (Eq.trans (b := v14) rfl eqs) rfl rfl) ?_
  have hq := bindO_inv hr
  clear hr
  obtain ⟨m_2, ew, hr⟩ := hq
  refine wa_nil ?_
  refine ⟨m_2, ew, ?_⟩
  refine nx_norm ?_
  refine w_seq ?_
  refine w_ops ?_
  refine wo_step (v := (.i .i64 0)) (s_pure (p_mv rfl)) ?_
  refine wo_nil ?_
  refine nx_norm ?_
  refine w_block ?_
  have hq := bindO_inv hr
  clear hr
  obtain ⟨o_1, hl_1, hr⟩ := hq
  obtain ⟨n_1, hl_1⟩ := hM.loop _ _ _ hl_1
  refine jp_mono (w_loop _ (g86_I0 v0 v3) (g86_J0 v0 v3) ?_ n_1 _ _ _ _ hl_1 ⟨rfl, gl rfl, gl g0, gl rfl⟩) ?_
  · clear hr hl_1
    intro s mm_3 t_1 o hi hr
    obtain ⟨x15, m_3⟩ := s
    obtain ⟨rfl, g15, g0, g3⟩ := hi
    unfold g86_b0 at hr
    refine w_seq ?_
    refine w_ops ?_
    have hq := forceB_inv hr
    clear hr
    obtain ⟨c16, e16, hr⟩ := hq
    refine wo_step (v := (.b c16)) (s_pure (p_bin g15 rfl (b_lss.trans (cb e16)))) ?_
    refine wo_nil ?_
    refine nx_norm ?_
    refine w_seq ?_
    have hq := cond_inv hr
    clear hr
    rcases hq with ⟨rfl, hr⟩ | ⟨rfl, hr⟩
    · refine w_condT rfl ?_
      refine w_skip ?_
      refine nx_norm ?_
      refine w_seq ?_
      refine w_block ?_
      refine w_seq ?_
      refine w_ops ?_
      refine wo_step (v := (.i .i64 x15)) (s_pure (p_mv g15)) ?_
      refine wo_step (v := (.i .i64 x15)) (s_pure (p_mv rfl)) ?_
      refine wo_nil ?_
      refine nx_norm ?_
      refine w_seq ?_
      refine w_ops ?_
      refine wo_step (v := (.i .i64 0)) (s_pure (p_mv rfl)) ?_
      refine wo_nil ?_
      refine nx_norm ?_
      refine w_block ?_
      have hq := bindO_inv hr
      clear hr
      obtain ⟨o, hl, hr⟩ := hq
      obtain ⟨n, hl⟩ := hM.loop _ _ _ hl
      refine jp_mono (w_loop _ (g86_I1 v0 v3 x15) (g86_J1 v0 v3 x15) ?_ n _ _ _ _ hl ⟨rfl, gl rfl, gl g0, gl g3, gl rfl, gl g15⟩) ?_
      · clear hr hl
        intro s mm_1 t_2 o hi hr
        obtain ⟨x18, m_4⟩ := s
        obtain ⟨rfl, g18, g0, g3, g4, g15⟩ := hi
        unfold g86_b1 at hr
        refine w_seq ?_
        refine w_ops ?_
        have hq := forceB_inv hr
        clear hr
        obtain ⟨c19, e19, hr⟩ := hq
        refine wo_step (v := (.b c19)) (s_pure (p_bin g18 rfl (b_lss.trans (cb e19)))) ?_
        refine wo_nil ?_
        refine nx_norm ?_
        refine w_seq ?_
        have hq := cond_inv hr
        clear hr
        rcases hq with ⟨rfl, hr⟩ | ⟨rfl, hr⟩
        · refine w_condT rfl ?_
          refine w_skip ?_
          refine nx_norm ?_
          refine w_seq ?_
          refine w_block ?_
          refine w_seq ?_
          refine w_ops ?_
          refine wo_step (v := (.i .i64 x18)) (s_pure (p_mv g18)) ?_
          refine wo_step (v := (.i .i64 x18)) (s_pure (p_mv rfl)) ?_
          refine wo_nil ?_
          refine nx_norm ?_
          refine w_any ?_
          refine wa_step (v := v0) (a_pure (p_mv g0)) ?_
          refine wa_step (v := (.i .i64 x15)) (a_pure (p_mv g4)) ?_
          refine wa_step (v := (.i .i64 x18)) (a_pure (p_mv rfl)) ?_
          refine wa_step (v := (.i .i64 x15)) (a_pure (p_mv g4)) ?_
          have hq := bindO_inv hr
          clear hr
          obtain ⟨v25, e25, hr⟩ := hq
          refine wa_step (v := v25) (a_pure (o_ixA g3 rfl e25)) ?_
          have hq := bindO_inv hr
          clear hr
          obtain ⟨v26, e26, hr⟩ := hq
          have hq := asI_inv hr
          clear hr
          obtain ⟨x26, rfl, hr⟩ := hq
          refine wa_step (v := (.i .i64 x26)) (a_ld rfl e26) ?_
          have hq := bindO_inv hr
          clear hr
          obtain ⟨v27, e27, hr⟩ := hq
          refine wa_step (v := v27) (a_pure (o_nilck rfl e27)) ?_
          have hq := bindO_inv hr
          clear hr
          obtain ⟨v28, e28, hr⟩ := hq
          refine wa_step (v := v28) (a_pure (o_faddr rfl e28)) ?_
          have hq := bindO_inv hr
          clear hr
          obtain ⟨v29, e29, hr⟩ := hq
          refine wa_step (v := v29) (a_pure (o_ixA rfl rfl e29)) ?_
          have hq := bindO_inv hr
          clear hr
          obtain ⟨v30, e30, hr⟩ := hq
          refine wa_step (v := v30) (a_pure (o_ixA rfl rfl e30)) ?_
          have hq := bindO_inv hr
          clear hr
          obtain ⟨v31, e31, hr⟩ := hq
          refine wa_step (v := v31) (a_pure (o_ixA rfl rfl e31)) ?_
          have hq := bindO_inv hr
          clear hr
          obtain ⟨v32, e32, hr⟩ := hq
          have hq := asI_inv hr
          clear hr
          obtain ⟨x32, rfl, hr⟩ := hq
          refine wa_step (v := (.i .u8 x32)) (a_ld rfl e32) ?_
          refine wa_step (v := (.i .i64 x18)) (a_pure (p_mv rfl)) ?_
          have hq := bindO_inv hr
          clear hr
          obtain ⟨v34, e34, hr⟩ := hq
          refine wa_step (v := v34) (a_pure (o_ixA g3 rfl e34)) ?_
          have hq := bindO_inv hr
          clear hr
          obtain ⟨v35, e35, hr⟩ := hq
          have hq := asI_inv hr
          clear hr
          obtain ⟨x35, rfl, hr⟩ := hq
          refine wa_step (v := (.i .i64 x35)) (a_ld rfl e35) ?_
          have hq := chk_inv hr
          clear hr
          obtain ⟨hc36, hr⟩ := hq
          have hq := forceI_inv hr
          clear hr
          obtain ⟨x36, e36, hr⟩ := hq
          refine wa_step (v := (.i .u8 x36)) (a_pure (p_bin rfl rfl ((b_shl hc36).trans (ci e36)))) ?_
          have hq := forceI_inv hr
          clear hr
          obtain ⟨x37, e37, hr⟩ := hq
          refine wa_step (v := (.i .u8 x37)) (a_pure (p_bin rfl rfl (b_andNot.trans (ci e37)))) ?_
          have hq := bindO_inv hr
          clear hr
          obtain ⟨v38, e38, hr⟩ := hq
          refine wa_step (v := v38) (a_pure (o_nilck rfl e38)) ?_
          have hq := bindO_inv hr
          clear hr
          obtain ⟨v39, e39, hr⟩ := hq
          refine wa_step (v := v39) (a_pure (o_faddr rfl e39)) ?_
          have hq := bindO_inv hr
          clear hr
          obtain ⟨v40, e40, hr⟩ := hq
          refine wa_step (v := v40) (a_pure (o_ixA rfl rfl e40)) ?_
          have hq := bindO_inv hr
          clear hr
          obtain ⟨v41, e41, hr⟩ := hq
          refine wa_step (v := v41) (a_pure (o_ixA rfl rfl e41)) ?_
          have hq := bindO_inv hr
          clear hr
          obtain ⟨v42, e42, hr⟩ := hq
          refine wa_step (v := v42) (a_pure (o_ixA rfl rfl e42)) ?_
          have hq := asP_inv hr
          clear hr
          obtain ⟨qs_1, eqs_1, hr⟩ := hq
          refine wa_stepN (a_st (Eq.trans (b := v42) rfl eqs_1) rfl rfl) ?_
          have hq := bindO_inv hr
          clear hr
          obtain ⟨m_5, ew_1, hr⟩ := hq
          refine wa_nil ?_
          refine ⟨m_5, ew_1, ?_⟩
          refine bk_norm ?_
          refine nx_norm ?_
          refine w_ops ?_
          have hq := forceI_inv hr
          clear hr
          obtain ⟨x43, e43, hr⟩ := hq
          refine wo_step (v := (.i .i64 x43)) (s_pure (p_bin g18 rfl (b_add.trans (ci e43)))) ?_
          refine wo_step (v := (.i .i64 x43)) (s_pure (p_mv rfl)) ?_
          refine wo_nil ?_
          cases hr
          exact ⟨_, _, rfl, rfl, rfl, gl rfl, gl g0, gl g3, gl g4, gl g15⟩
        · refine w_condF rfl ?_
          refine w_exit ?_
          refine nx_exit ?_
          cases hr
          exact ⟨_, _, rfl, ne_norm_exit, rfl, rfl, gl g0, gl g3, gl g15⟩
      · obtain ⟨m_6, ho⟩ : ∃ z, z = o := ⟨_, rfl⟩
        subst ho
        rintro _ mm t_3 ⟨rfl, rfl, g0, g3, g15⟩
        refine bk_hit ?_
        refine bk_norm ?_
        refine nx_norm ?_
        refine w_ops ?_
        have hq := forceI_inv hr
        clear hr
        obtain ⟨x44, e44, hr⟩ := hq
        refine wo_step (v := (.i .i64 x44)) (s_pure (p_bin g15 rfl (b_add.trans (ci e44)))) ?_
        refine wo_step (v := (.i .i64 x44)) (s_pure (p_mv rfl)) ?_
        refine wo_nil ?_
        cases hr
        exact ⟨_, _, rfl, rfl, rfl, gl rfl, gl g0, gl g3⟩
    · refine w_condF rfl ?_
      refine w_exit ?_
      refine nx_exit ?_
      cases hr
      exact ⟨_, _, rfl, ne_norm_exit, rfl, rfl⟩
  · obtain ⟨m_7, ho⟩ : ∃ z, z = o_1 := ⟨_, rfl⟩
    subst ho
    rintro _ mm_2 t_4 ⟨rfl, rfl⟩
    refine bk_hit ?_
    exact qf norm_ok rn hr

/- slices.Contains[[]int,int] -/

def g90 (M : Means) (ro : List ABlk) (v0 : AVal) (x1 : Int) (m0 : Mm) : Option (AVal × Heap × Nat × Nat) :=
  bindP (callM M.call m0 97 [v0, (.i .i64 x1)]) fun v7 m_1 =>
  asI .i64 v7 fun x7 =>
  forceB (!ltI x7 0) fun c8 =>
  finM m0.h.length (tupA [(.b c8)]) m_1

theorem g90_ok {ro : List ABlk} {O : Caller} {M : Means} (hM : M.Ok ⟨F, O⟩ ro) {v0 x1 h r} (ho : O 90 [v0, (.i .i64 x1)] h = none) (hr : g90 M ro v0 x1 ⟨h, h.length, h.length⟩ = some r) : callX ⟨F, O⟩ ro 90 [v0, (.i .i64 x1)] h = some r := by
  refine callX_of (F := ⟨F, O⟩) (fn := fn90) (g := g90 M ro v0 x1) ho rfl rfl hr ?_
  clear ho
  clear hr
  intro m0 t0 ht hr
  have g0 : t0.get 0 = v0 := ht 0
  have g1 : t0.get 1 = (.i .i64 x1) := ht 1
  clear ht
  unfold g90 at hr
  refine w_seq ?_
  refine w_ops ?_
  refine wo_step (v := (.b false)) (s_pure (p_mv rfl)) ?_
  refine wo_nil ?_
  refine nx_norm ?_
  refine w_seq ?_
  refine w_ops ?_
  refine wo_step (v := v0) (s_pure (p_mv g0)) ?_
  refine wo_step (v := (.i .i64 x1)) (s_pure (p_mv g1)) ?_
  have hq := bindP_inv hr
  clear hr
  obtain ⟨v7, m_1, e7, hr⟩ := hq
  have hq := asI_inv hr
  clear hr
  obtain ⟨x7, rfl, hr⟩ := hq
  refine wo_step (v := (.i .i64 x7)) (s_call (mc rfl (mc rfl mn)) (callM_le hM.call e7)) ?_
  have hq := forceB_inv hr
  clear hr
  obtain ⟨c8, e8, hr⟩ := hq
  refine wo_step (v := (.b c8)) (s_pure (p_bin rfl rfl (b_geq.trans (cb e8)))) ?_
  refine wo_step (v := (.b c8)) (s_pure (p_mv rfl)) ?_
  refine wo_nil ?_
  refine nx_norm ?_
  refine w_ret ?_
  exact qf ret_ok (rt rfl rn) hr

/- (dibber/bed.ground).eachTransversal-1 -/
abbrev g92_I0 (x0 : Int) (x1 : Int) (x2 : Int) (v3 : AVal) (v5 : AVal) (v6 : AVal) (x26 : Int) (s : Int × Mm) (m1 : Mm) (t1 : Tr) : Prop :=
  match s with
  | (x27, m_2) => m_2 = m1 ∧ t1.get 27 = (.i .i64 x27) ∧ t1.get 0 = (.i .i64 x0) ∧ t1.get 1 = (.i .u8 x1) ∧ t1.get 2 = (.i .u8 x2) ∧ t1.get 3 = v3 ∧ t1.get 5 = v5 ∧ t1.get 6 = v6 ∧ t1.get 26 = (.i .i64 x26)
abbrev g92_J0 (x0 : Int) (x1 : Int) (x2 : Int) (v3 : AVal) (v5 : AVal) (v6 : AVal) (x26 : Int) (o : (Mm ⊕ (Bool × Mm))) (e : AExit) (m1 : Mm) (t1 : Tr) : Prop :=
  match o with
  | (.inl mo) => e = (.exit 0) ∧ mo = m1
  | (.inr (y10, mo)) => e = .ret ∧ mo = m1 ∧ t1.get 10 = (.b y10)
abbrev g92_J1 (x0 : Int) (x1 : Int) (x2 : Int) (v3 : AVal) (v5 : AVal) (v6 : AVal) (x26 : Int) (x27 : Int) (o : (Mm ⊕ (Bool × Mm))) (e : AExit) (m1 : Mm) (t1 : Tr) : Prop :=
  match o with
  | (.inl mo) => e = .norm ∧ mo = m1 ∧ t1.get 0 = (.i .i64 x0) ∧ t1.get 1 = (.i .u8 x1) ∧ t1.get 2 = (.i .u8 x2) ∧ t1.get 3 = v3 ∧ t1.get 5 = v5 ∧ t1.get 6 = v6 ∧ t1.get 26 = (.i .i64 x26) ∧ t1.get 27 = (.i .i64 x27)
  | (.inr (y10, mo)) => e = .ret ∧ mo = m1 ∧ t1.get 10 = (.b y10)
abbrev g92_J2 (x0 : Int) (x1 : Int) (x2 : Int) (v3 : AVal) (v5 : AVal) (v6 : AVal) (x27 : Int) (x31 : Int) (x40 : Int) (x26 : Int) (m_2 : Mm) (o : Bool) (m1 : Mm) (t1 : Tr) : Prop :=
  match o with
  | c50 => m_2 = m1 ∧ t1.get 50 = (.b c50) ∧ t1.get 0 = (.i .i64 x0) ∧ t1.get 1 = (.i .u8 x1) ∧ t1.get 2 = (.i .u8 x2) ∧ t1.get 3 = v3 ∧ t1.get 5 = v5 ∧ t1.get 6 = v6 ∧ t1.get 11 = (.i .i64 x27) ∧ t1.get 12 = (.i .u8 x31) ∧ t1.get 13 = (.i .u8 x40) ∧ t1.get 26 = (.i .i64 x26) ∧ t1.get 27 = (.i .i64 x27)
def g92_b0 (M : Means) (ro : List ABlk) (x0 : Int) (x1 : Int) (x2 : Int) (v3 : AVal) (v5 : AVal) (v6 : AVal) (x26 : Int) (x27 : Int) (m_2 : Mm) : Option ((Int × Mm) ⊕ ((Mm ⊕ (Bool × Mm)))) :=
  forceB (ltI x27 x26) fun c28 =>
  cond c28 (
    bindO (α := (Mm ⊕ (Bool × Mm))) (
      chk (!ltI x27 (.ofNat 0)) <|
      forceI (shlV .u8 1 x27) fun x31 =>
      bindO (ldM ro m_2 true 1 v3) fun v32 =>
      bindO (evP .e (.nilck (.c v32))) fun v35 =>
      bindO (evP .e (.faddr 1 (.c v35))) fun v36 =>
      bindO (evP .e (.ixA 7 7 (.c v36) (.c (.i .i64 x0)))) fun v37 =>
      bindO (evP .e (.ixA 7 1 (.c v37) (.c (.i .i64 x27)))) fun v38 =>
      bindO (ldM ro m_2 true 1 v38) fun v39 =>
      asI .i64 v39 fun x39 =>
      chk (!ltI x39 (.ofNat 0)) <|
      forceI (shlV .u8 1 x39) fun x40 =>
      forceI (bitV .and .u8 x1 x31) fun x43 =>
      forceB (!eqI x43 0) fun c44 =>
      bindO (cond c44 (
        some true) (
        forceI (bitV .and .u8 x2 x40) fun x48 =>
        forceB (!eqI x48 0) fun c49 =>
        some c49)) fun c50 =>
      cond c50 (
        some (.inl m_2)) (
        bindO (ldM ro m_2 true 1 v5) fun v51 =>
        bindO (evP .e (.ixS 1 (.c v51) (.c (.i .i64 x0)))) fun v54 =>
        bindP (stepM ro m_2 (.st 1 (.c v54) (.c (.i .i64 x27)))) fun vn m_3 =>
        bindO (ldM ro m_3 true 1 v6) fun v55 =>
        forceI (wr .i64 (x0 + 1)) fun x57 =>
        forceI (bitV .or .u8 x1 x31) fun x60 =>
        forceI (bitV .or .u8 x2 x40) fun x63 =>
        bindP (callvM M.call m_3 v55 [(.i .i64 x57), (.i .u8 x60), (.i .u8 x63)]) fun v64 m_4 =>
        asB v64 fun c64 =>
        forceB (!c64) fun c65 =>
        cond c65 (
          some (.inr (false, m_4))) (
          some (.inl m_4)))) fun o => match o with
    | (.inl m_5) =>
      forceI (wr .i64 (x27 + 1)) fun x66 =>
      some (.inl (x66, m_5))
    | (.inr (c10, m_6)) =>
      some (.inr (.inr (c10, m_6)))) (
    some (.inr (.inl m_2)))
def g92 (M : Means) (ro : List ABlk) (x0 : Int) (x1 : Int) (x2 : Int) (v3 : AVal) (v4 : AVal) (v5 : AVal) (v6 : AVal) (m0 : Mm) : Option (AVal × Heap × Nat × Nat) :=
  bindO (ldM ro m0 true 1 v3) fun v15 =>
  bindO (evP .e (.nilck (.c v15))) fun v16 =>
  bindO (evP .e (.faddr 0 (.c v16))) fun v17 =>
  bindO (ldM ro m0 true 1 v17) fun v18 =>
  asI .i64 v18 fun x18 =>
  forceB (eqI x0 x18) fun c19 =>
  cond c19 (
    bindO (ldM ro m0 true 1 v4) fun v20 =>
    bindO (ldM ro m0 true 1 v5) fun v21 =>
    bindP (callvM M.call m0 v20 [v21]) fun v22 m_1 =>
    asB v22 fun c22 =>
    finM m0.h.length (tupA [(.b c22)]) m_1) (
    bindO (ldM ro m0 true 1 v3) fun v23 =>
    bindO (evP .e (.nilck (.c v23))) fun v24 =>
    bindO (evP .e (.faddr 0 (.c v24))) fun v25 =>
    bindO (ldM ro m0 true 1 v25) fun v26 =>
    asI .i64 v26 fun x26 =>
    bindO (M.loop (S := Int × Mm) (R := (Mm ⊕ (Bool × Mm))) (fun s => g92_b0 M ro x0 x1 x2 v3 v5 v6 x26 s.1 s.2) (0, m0)) fun o_2 => match o_2 with
    | (.inl m_7) =>
      finM m0.h.length (tupA [(.b true)]) m_7
    | (.inr (c10_1, m_8)) =>
      finM m0.h.length (tupA [(.b c10_1)]) m_8)

theorem g92_ok {ro : List ABlk} {O : Caller} {M : Means} (hM : M.Ok ⟨F, O⟩ ro) {x0 x1 x2 v3 v4 v5 v6 h r} (ho : O 92 [(.i .i64 x0), (.i .u8 x1), (.i .u8 x2), v3, v4, v5, v6] h = none) (hr : g92 M ro x0 x1 x2 v3 v4 v5 v6 ⟨h, h.length, h.length⟩ = some r) : callX ⟨F, O⟩ ro 92 [(.i .i64 x0), (.i .u8 x1), (.i .u8 x2), v3, v4, v5, v6] h = some r := by
  refine callX_of (F := ⟨F, O⟩) (fn := fn92) (g := g92 M ro x0 x1 x2 v3 v4 v5 v6) ho rfl rfl hr ?_
  clear ho
  clear hr
  intro m0 t0 ht hr
  have g0 : t0.get 0 = (.i .i64 x0) := ht 0
  have g1 : t0.get 1 = (.i .u8 x1) := ht 1
  have g2 : t0.get 2 = (.i .u8 x2) := ht 2
  have g3 : t0.get 3 = v3 := ht 3
  have g4 : t0.get 4 = v4 := ht 4
  have g5 : t0.get 5 = v5 := ht 5
  have g6 : t0.get 6 = v6 := ht 6
  clear ht
  unfold g92 at hr
  refine w_seq ?_
  refine w_ops ?_
  refine wo_step (v := (.b false)) (s_pure (p_mv rfl)) ?_
  refine wo_nil ?_
  refine nx_norm ?_
  refine w_seq ?_
  refine w_seq ?_
  refine w_ops ?_
  refine wo_step (v := (.i .i64 x0)) (s_pure (p_mv g0)) ?_
  have hq := bindO_inv hr
  clear hr
  obtain ⟨v15, e15, hr⟩ := hq
  refine wo_step (v := v15) (s_ld g3 e15) ?_
  have hq := bindO_inv hr
  clear hr
  obtain ⟨v16, e16, hr⟩ := hq
  refine wo_step (v := v16) (s_pure (o_nilck rfl e16)) ?_
  have hq := bindO_inv hr
  clear hr
  obtain ⟨v17, e17, hr⟩ := hq
  refine wo_step (v := v17) (s_pure (o_faddr rfl e17)) ?_
  have hq := bindO_inv hr
  clear hr
  obtain ⟨v18, e18, hr⟩ := hq
  have hq := asI_inv hr
  clear hr
  obtain ⟨x18, rfl, hr⟩ := hq
  refine wo_step (v := (.i .i64 x18)) (s_ld rfl e18) ?_
  have hq := forceB_inv hr
  clear hr
  obtain ⟨c19, e19, hr⟩ := hq
  refine wo_step (v := (.b c19)) (s_pure (p_bin rfl rfl (b_eql.trans (cb e19)))) ?_
  refine wo_nil ?_
  refine nx_norm ?_
  have hq := cond_inv hr
  clear hr
  rcases hq with ⟨rfl, hr⟩ | ⟨rfl, hr⟩
  · refine w_condT rfl ?_
    refine w_seq ?_
    refine w_ops ?_
    have hq := bindO_inv hr
    clear hr
    obtain ⟨v20, e20, hr⟩ := hq
    refine wo_step (v := v20) (s_ld g4 e20) ?_
    have hq := bindO_inv hr
    clear hr
    obtain ⟨v21, e21, hr⟩ := hq
    refine wo_step (v := v21) (s_ld g5 e21) ?_
    have hq := bindP_inv hr
    clear hr
    obtain ⟨v22, m_1, e22, hr⟩ := hq
    have hq := asB_inv hr
    clear hr
    obtain ⟨c22, rfl, hr⟩ := hq
    refine wo_step (v := (.b c22)) (s_callv rfl (mc rfl mn) (callvM_le hM.call e22)) ?_
    refine wo_step (v := (.b c22)) (s_pure (p_mv rfl)) ?_
    refine wo_nil ?_
    refine nx_norm ?_
    refine w_ret ?_
    refine nx_ret ?_
    exact qf ret_ok (rt rfl rn) hr
  · refine w_condF rfl ?_
    refine w_skip ?_
    refine nx_norm ?_
    refine w_seq ?_
    refine w_seq ?_
    refine w_ops ?_
    have hq := bindO_inv hr
    clear hr
    obtain ⟨v23, e23, hr⟩ := hq
    refine wo_step (v := v23) (s_ld g3 e23) ?_
    have hq := bindO_inv hr
    clear hr
    obtain ⟨v24, e24, hr⟩ := hq
    refine wo_step (v := v24) (s_pure (o_nilck rfl e24)) ?_
    have hq := bindO_inv hr
    clear hr
    obtain ⟨v25, e25, hr⟩ := hq
    refine wo_step (v := v25) (s_pure (o_faddr rfl e25)) ?_
    have hq := bindO_inv hr
    clear hr
    obtain ⟨v26, e26, hr⟩ := hq
    have hq := asI_inv hr
    clear hr
    obtain ⟨x26, rfl, hr⟩ := hq
    refine wo_step (v := (.i .i64 x26)) (s_ld rfl e26) ?_
    refine wo_step (v := (.i .i64 0)) (s_pure (p_mv rfl)) ?_
    refine wo_nil ?_
    refine nx_norm ?_
    refine w_block ?_
    have hq := bindO_inv hr
    clear hr
    obtain ⟨o_2, hl, hr⟩ := hq
    obtain ⟨n, hl⟩ := hM.loop _ _ _ hl
    refine jp_mono (w_loop _ (g92_I0 x0 x1 x2 v3 v5 v6 x26) (g92_J0 x0 x1 x2 v3 v5 v6 x26) ?_ n _ _ _ _ hl ⟨rfl, gl rfl, gl g0, gl g1, gl g2, gl g3, gl g5, gl g6, gl rfl⟩) ?_
    · clear hr hl
      intro s mm_5 t_1 o hi hr
      obtain ⟨x27, m_2⟩ := s
      obtain ⟨rfl, g27, g0, g1, g2, g3, g5, g6, g26⟩ := hi
      unfold g92_b0 at hr
      refine w_seq ?_
      refine w_ops ?_
      have hq := forceB_inv hr
      clear hr
      obtain ⟨c28, e28, hr⟩ := hq
      refine wo_step (v := (.b c28)) (s_pure (p_bin g27 g26 (b_lss.trans (cb e28)))) ?_
      refine wo_nil ?_
      refine nx_norm ?_
      refine w_seq ?_
      have hq := cond_inv hr
      clear hr
      rcases hq with ⟨rfl, hr⟩ | ⟨rfl, hr⟩
      · refine w_condT rfl ?_
        refine w_skip ?_
        refine nx_norm ?_
        refine w_seq ?_
        have hq := bindO_inv hr
        clear hr
        obtain ⟨o, hr, hk⟩ := hq
        refine jp_mono (J := g92_J1 x0 x1 x2 v3 v5 v6 x26 x27 o) ?_ ?_
        · clear hk
          refine w_block ?_
          refine w_seq ?_
          refine w_ops ?_
          refine wo_step (v := (.i .i64 x27)) (s_pure (p_mv g27)) ?_
          refine wo_step (v := (.i .i64 x27)) (s_pure (p_mv rfl)) ?_
          refine wo_nil ?_
          refine nx_norm ?_
          refine w_seq ?_
          refine w_ops ?_
          refine wo_step (v := (.i .i64 x27)) (s_pure (p_mv rfl)) ?_
          have hq := chk_inv hr
          clear hr
          obtain ⟨hc31, hr⟩ := hq
          have hq := forceI_inv hr
          clear hr
          obtain ⟨x31, e31, hr⟩ := hq
          refine wo_step (v := (.i .u8 x31)) (s_pure (p_bin rfl rfl ((b_shl hc31).trans (ci e31)))) ?_
          refine wo_step (v := (.i .i64 x0)) (s_pure (p_mv g0)) ?_
          refine wo_step (v := (.i .i64 x27)) (s_pure (p_mv rfl)) ?_
          refine wo_step (v := (.i .u8 x31)) (s_pure (p_mv rfl)) ?_
          have hq := bindO_inv hr
          clear hr
          obtain ⟨v32, e32, hr⟩ := hq
          refine wo_step (v := v32) (s_ld g3 e32) ?_
          have hq := bindO_inv hr
          clear hr
          obtain ⟨v35, e35, hr⟩ := hq
          refine wo_step (v := v35) (s_pure (o_nilck rfl e35)) ?_
          have hq := bindO_inv hr
          clear hr
          obtain ⟨v36, e36, hr⟩ := hq
          refine wo_step (v := v36) (s_pure (o_faddr rfl e36)) ?_
          have hq := bindO_inv hr
          clear hr
          obtain ⟨v37, e37, hr⟩ := hq
          refine wo_step (v := v37) (s_pure (o_ixA rfl rfl e37)) ?_
          have hq := bindO_inv hr
          clear hr
          obtain ⟨v38, e38, hr⟩ := hq
          refine wo_step (v := v38) (s_pure (o_ixA rfl rfl e38)) ?_
          have hq := bindO_inv hr
          clear hr
          obtain ⟨v39, e39, hr⟩ := hq
          have hq := asI_inv hr
          clear hr
          obtain ⟨x39, rfl, hr⟩ := hq
          refine wo_step (v := (.i .i64 x39)) (s_ld rfl e39) ?_
          have hq := chk_inv hr
          clear hr
          obtain ⟨hc40, hr⟩ := hq
          have hq := forceI_inv hr
          clear hr
          obtain ⟨x40, e40, hr⟩ := hq
          refine wo_step (v := (.i .u8 x40)) (s_pure (p_bin rfl rfl ((b_shl hc40).trans (ci e40)))) ?_
          refine wo_step (v := (.i .u8 x40)) (s_pure (p_mv rfl)) ?_
          refine wo_nil ?_
          refine nx_norm ?_
          refine w_seq ?_
          refine w_seq ?_
          refine w_ops ?_
          refine wo_step (v := (.i .u8 x1)) (s_pure (p_mv g1)) ?_
          refine wo_step (v := (.i .u8 x31)) (s_pure (p_mv rfl)) ?_
          have hq := forceI_inv hr
          clear hr
          obtain ⟨x43, e43, hr⟩ := hq
          refine wo_step (v := (.i .u8 x43)) (s_pure (p_bin rfl rfl (b_and.trans (ci e43)))) ?_
          have hq := forceB_inv hr
          clear hr
          obtain ⟨c44, e44, hr⟩ := hq
          refine wo_step (v := (.b c44)) (s_pure (p_bin rfl rfl (b_neq.trans (cb e44)))) ?_
          refine wo_step (v := (.b c44)) (s_pure (p_mv rfl)) ?_
          have hq := bindO_inv hr
          clear hr
          obtain ⟨o_1, hr, hk⟩ := hq
          refine wo_join 5 (g92_J2 x0 x1 x2 v3 v5 v6 x27 x31 x40 x26 m_2 o_1) ?_ ?_
          · clear hk
            have hq := cond_inv hr
            clear hr
            rcases hq with ⟨rfl, hr⟩ | ⟨rfl, hr⟩
            · refine wo_skip (v := (.b true)) rfl rfl ?_
              refine wo_skip (v := (.b true)) rfl rfl ?_
              refine wo_skip (v := (.b true)) rfl rfl ?_
              refine wo_skip (v := (.b true)) rfl rfl ?_
              refine wo_step (v := (.b true)) (s_pure (p_pickT rfl rfl)) ?_
              refine wo_nil ?_
              cases hr
              exact ⟨_, _, rfl, rfl, gl rfl, gl g0, gl g1, gl g2, gl g3, gl g5, gl g6, gl rfl, gl rfl, gl rfl, gl g26, gl g27⟩
            · refine wo_take (v := (.i .u8 x2)) rfl (s_pure (p_mv g2)) ?_
              refine wo_take (v := (.i .u8 x40)) rfl (s_pure (p_mv rfl)) ?_
              have hq := forceI_inv hr
              clear hr
              obtain ⟨x48, e48, hr⟩ := hq
              refine wo_take (v := (.i .u8 x48)) rfl (s_pure (p_bin rfl rfl (b_and.trans (ci e48)))) ?_
              have hq := forceB_inv hr
              clear hr
              obtain ⟨c49, e49, hr⟩ := hq
              refine wo_take (v := (.b c49)) rfl (s_pure (p_bin rfl rfl (b_neq.trans (cb e49)))) ?_
              refine wo_step (v := (.b c49)) (s_pure (p_pickF rfl rfl)) ?_
              refine wo_nil ?_
              cases hr
              exact ⟨_, _, rfl, rfl, gl rfl, gl g0, gl g1, gl g2, gl g3, gl g5, gl g6, gl rfl, gl rfl, gl rfl, gl g26, gl g27⟩
          · clear hr
            have hr := hk
            clear hk
            obtain ⟨c50, ho⟩ : ∃ z, z = o_1 := ⟨_, rfl⟩
            subst ho
            rintro mm t_2 ⟨rfl, g50, g0, g1, g2, g3, g5, g6, g11, g12, g13, g26, g27⟩
            refine wo_nil ?_
            refine nx_norm ?_
            have hq := cond_inv hr
            clear hr
            rcases hq with ⟨rfl, hr⟩ | ⟨rfl, hr⟩
            · refine w_condT g50 ?_
              refine w_exit ?_
              refine nx_exit ?_
              refine bk_hit ?_
              cases hr
              exact ⟨_, _, rfl, rfl, rfl, gl g0, gl g1, gl g2, gl g3, gl g5, gl g6, gl g26, gl g27⟩
            · refine w_condF g50 ?_
              refine w_skip ?_
              refine nx_norm ?_
              refine w_seq ?_
              refine w_ops ?_
              have hq := bindO_inv hr
              clear hr
              obtain ⟨v51, e51, hr⟩ := hq
              refine wo_step (v := v51) (s_ld g5 e51) ?_
              refine wo_step (v := (.i .i64 x0)) (s_pure (p_mv g0)) ?_
              refine wo_step (v := (.i .i64 x27)) (s_pure (p_mv g11)) ?_
              have hq := bindO_inv hr
              clear hr
              obtain ⟨v54, e54, hr⟩ := hq
              refine wo_step (v := v54) (s_pure (o_ixS rfl rfl e54)) ?_
              have hq := bindP_inv hr
              clear hr
              obtain ⟨vn, m_3, en, hr⟩ := hq
              refine wo_stepN (s_st rfl rfl en) ?_
              refine wo_nil ?_
              refine nx_norm ?_
              refine w_seq ?_
              refine w_ops ?_
              have hq := bindO_inv hr
              clear hr
              obtain ⟨v55, e55, hr⟩ := hq
              refine wo_step (v := v55) (s_ld g6 e55) ?_
              refine wo_step (v := (.i .i64 x0)) (s_pure (p_mv g0)) ?_
              have hq := forceI_inv hr
              clear hr
              obtain ⟨x57, e57, hr⟩ := hq
              refine wo_step (v := (.i .i64 x57)) (s_pure (p_bin rfl rfl (b_add.trans (ci e57)))) ?_
              refine wo_step (v := (.i .u8 x1)) (s_pure (p_mv g1)) ?_
              refine wo_step (v := (.i .u8 x31)) (s_pure (p_mv g12)) ?_
              have hq := forceI_inv hr
              clear hr
              obtain ⟨x60, e60, hr⟩ := hq
              refine wo_step (v := (.i .u8 x60)) (s_pure (p_bin rfl rfl (b_or.trans (ci e60)))) ?_
              refine wo_step (v := (.i .u8 x2)) (s_pure (p_mv g2)) ?_
              refine wo_step (v := (.i .u8 x40)) (s_pure (p_mv g13)) ?_
              have hq := forceI_inv hr
              clear hr
              obtain ⟨x63, e63, hr⟩ := hq
              refine wo_step (v := (.i .u8 x63)) (s_pure (p_bin rfl rfl (b_or.trans (ci e63)))) ?_
              have hq := bindP_inv hr
              clear hr
              obtain ⟨v64, m_4, e64, hr⟩ := hq
              have hq := asB_inv hr
              clear hr
              obtain ⟨c64, rfl, hr⟩ := hq
              refine wo_step (v := (.b c64)) (s_callv rfl (mc rfl (mc rfl (mc rfl mn))) (callvM_le hM.call e64)) ?_
              have hq := forceB_inv hr
              clear hr
              obtain ⟨c65, e65, hr⟩ := hq
              refine wo_step (v := (.b c65)) (s_pure ((p_not rfl).trans (cb e65))) ?_
              refine wo_nil ?_
              refine nx_norm ?_
              have hq := cond_inv hr
              clear hr
              rcases hq with ⟨rfl, hr⟩ | ⟨rfl, hr⟩
              · refine w_condT rfl ?_
                refine w_seq ?_
                refine w_ops ?_
                refine wo_step (v := (.b false)) (s_pure (p_mv rfl)) ?_
                refine wo_nil ?_
                refine nx_norm ?_
                refine w_ret ?_
                refine bk_ret ?_
                cases hr
                exact ⟨_, _, rfl, rfl, rfl, gl rfl⟩
              · refine w_condF rfl ?_
                refine w_skip ?_
                refine bk_norm ?_
                cases hr
                exact ⟨_, _, rfl, rfl, rfl, gl g0, gl g1, gl g2, gl g3, gl g5, gl g6, gl g26, gl g27⟩
        · have hr := hk
          clear hk
          rcases o with o | o
          · obtain ⟨m_5, ho⟩ : ∃ z, z = o := ⟨_, rfl⟩
            subst ho
            rintro _ mm_1 t_3 ⟨rfl, rfl, g0, g1, g2, g3, g5, g6, g26, g27⟩
            refine nx_norm ?_
            refine w_ops ?_
            have hq := forceI_inv hr
            clear hr
            obtain ⟨x66, e66, hr⟩ := hq
            refine wo_step (v := (.i .i64 x66)) (s_pure (p_bin g27 rfl (b_add.trans (ci e66)))) ?_
            refine wo_step (v := (.i .i64 x66)) (s_pure (p_mv rfl)) ?_
            refine wo_nil ?_
            cases hr
            exact ⟨_, _, rfl, rfl, rfl, gl rfl, gl g0, gl g1, gl g2, gl g3, gl g5, gl g6, gl g26⟩
          · obtain ⟨c10, m_6⟩ := o
            rintro _ mm_2 t_4 ⟨rfl, rfl, g10⟩
            refine nx_ret ?_
            cases hr
            exact ⟨_, _, rfl, ne_norm_ret, rfl, rfl, gl g10⟩
      · refine w_condF rfl ?_
        refine w_exit ?_
        refine nx_exit ?_
        cases hr
        exact ⟨_, _, rfl, ne_norm_exit, rfl, rfl⟩
    · rcases o_2 with o_2 | o_2
      · obtain ⟨m_7, ho⟩ : ∃ z, z = o_2 := ⟨_, rfl⟩
        subst ho
        rintro _ mm_3 t_5 ⟨rfl, rfl⟩
        refine bk_hit ?_
        refine nx_norm ?_
        refine w_seq ?_
        refine w_ops ?_
        refine wo_step (v := (.b true)) (s_pure (p_mv rfl)) ?_
        refine wo_nil ?_
        refine nx_norm ?_
        refine w_ret ?_
        exact qf ret_ok (rt rfl rn) hr
      · obtain ⟨c10_1, m_8⟩ := o_2
        rintro _ mm_4 t_6 ⟨rfl, rfl, g10⟩
        refine bk_ret ?_
        refine nx_ret ?_
        exact qf ret_ok (rt g10 rn) hr

/- (dibber/bed.ground).isMet -/

def g93 (M : Means) (ro : List ABlk) (v0 : AVal) (v1 : AVal) (m0 : Mm) : Option (AVal × Heap × Nat × Nat) :=
  bindP (stepM ro m0 (.bx 59 4 (.c v1))) fun v3 m_1 =>
  bindO (evP .e (.faddr 0 (.c v3))) fun v6 =>
  bindO (ldA ro m_1.h true 1 v6) fun v7 =>
  asI .i64 v7 fun x7 =>
  bindO (evP .e (.faddr 2 (.c v3))) fun v8 =>
  bindO (ldA ro m_1.h true 1 v8) fun v9 =>
  asI .i64 v9 fun x9 =>
  bindO (evP .e (.faddr 1 (.c v3))) fun v10 =>
  bindO (ldA ro m_1.h true 1 v10) fun v11 =>
  asI .i64 v11 fun x11 =>
  bindO (evP .e (.nilck (.c v0))) fun v12 =>
  bindO (evP .e (.faddr 50 (.c v12))) fun v13 =>
  bindO (evP .e (.ixA 3 21 (.c v13) (.c (.i .i64 x7)))) fun v14 =>
  bindO (evP .e (.ixA 3 7 (.c v14) (.c (.i .i64 x9)))) fun v15 =>
  bindO (evP .e (.ixA 7 1 (.c v15) (.c (.i .i64 x11)))) fun v16 =>
  bindO (ldA ro m_1.h true 1 v16) fun v17 =>
  asI .u8 v17 fun x17 =>
  bindO (evP .e (.faddr 3 (.c v3))) fun v18 =>
  bindO (ldA ro m_1.h true 1 v18) fun v19 =>
  asI .i64 v19 fun x19 =>
  chk (!ltI x19 (.ofNat 0)) <|
  forceI (shrV .u8 x17 x19) fun x20 =>
  forceI (bitV .and .u8 x20 1) fun x21 =>
  forceB (eqI x21 1) fun c22 =>
  finM m0.h.length (tupA [(.b c22)]) m_1

theorem g93_ok {ro : List ABlk} {O : Caller} {M : Means} (hM : M.Ok ⟨F, O⟩ ro) {v0 v1 h r} (ho : O 93 [v0, v1] h = none) (hr : g93 M ro v0 v1 ⟨h, h.length, h.length⟩ = some r) : callX ⟨F, O⟩ ro 93 [v0, v1] h = some r := by
  refine callX_of (F := ⟨F, O⟩) (fn := fn93) (g := g93 M ro v0 v1) ho rfl rfl hr ?_
  clear ho
  clear hr
  intro m0 t0 ht hr
  have g0 : t0.get 0 = v0 := ht 0
  have g1 : t0.get 1 = v1 := ht 1
  clear ht
  unfold g93 at hr
  refine w_seq ?_
  refine w_ops ?_
  have hq := bindP_inv hr
  clear hr
  obtain ⟨v3, m_1, e3, hr⟩ := hq
  refine wo_step (v := v3) (s_bx g1 e3) ?_
  refine wo_step (v := (.b false)) (s_pure (p_mv rfl)) ?_
  refine wo_nil ?_
  refine nx_norm ?_
  refine w_seq ?_
  refine w_any ?_
  refine wa_step (v := v0) (a_pure (p_mv g0)) ?_
  have hq := bindO_inv hr
  clear hr
  obtain ⟨v6, e6, hr⟩ := hq
  refine wa_step (v := v6) (a_pure (o_faddr rfl e6)) ?_
  have hq := bindO_inv hr
  clear hr
  obtain ⟨v7, e7, hr⟩ := hq
  have hq := asI_inv hr
  clear hr
  obtain ⟨x7, rfl, hr⟩ := hq
  refine wa_step (v := (.i .i64 x7)) (a_ld rfl e7) ?_
  have hq := bindO_inv hr
  clear hr
  obtain ⟨v8, e8, hr⟩ := hq
  refine wa_step (v := v8) (a_pure (o_faddr rfl e8)) ?_
  have hq := bindO_inv hr
  clear hr
  obtain ⟨v9, e9, hr⟩ := hq
  have hq := asI_inv hr
  clear hr
  obtain ⟨x9, rfl, hr⟩ := hq
  refine wa_step (v := (.i .i64 x9)) (a_ld rfl e9) ?_
  have hq := bindO_inv hr
  clear hr
  obtain ⟨v10, e10, hr⟩ := hq
  refine wa_step (v := v10) (a_pure (o_faddr rfl e10)) ?_
  have hq := bindO_inv hr
  clear hr
  obtain ⟨v11, e11, hr⟩ := hq
  have hq := asI_inv hr
  clear hr
  obtain ⟨x11, rfl, hr⟩ := hq
  refine wa_step (v := (.i .i64 x11)) (a_ld rfl e11) ?_
  have hq := bindO_inv hr
  clear hr
  obtain ⟨v12, e12, hr⟩ := hq
  refine wa_step (v := v12) (a_pure (o_nilck rfl e12)) ?_
  have hq := bindO_inv hr
  clear hr
  obtain ⟨v13, e13, hr⟩ := hq
  refine wa_step (v := v13) (a_pure (o_faddr rfl e13)) ?_
  have hq := bindO_inv hr
  clear hr
  obtain ⟨v14, e14, hr⟩ := hq
  refine wa_step (v := v14) (a_pure (o_ixA rfl rfl e14)) ?_
  have hq := bindO_inv hr
  clear hr
  obtain ⟨v15, e15, hr⟩ := hq
  refine wa_step (v := v15) (a_pure (o_ixA rfl rfl e15)) ?_
  have hq := bindO_inv hr
  clear hr
  obtain ⟨v16, e16, hr⟩ := hq
  refine wa_step (v := v16) (a_pure (o_ixA rfl rfl e16)) ?_
  have hq := bindO_inv hr
  clear hr
  obtain ⟨v17, e17, hr⟩ := hq
  have hq := asI_inv hr
  clear hr
  obtain ⟨x17, rfl, hr⟩ := hq
  refine wa_step (v := (.i .u8 x17)) (a_ld rfl e17) ?_
  have hq := bindO_inv hr
  clear hr
  obtain ⟨v18, e18, hr⟩ := hq
  refine wa_step (v := v18) (a_pure (o_faddr rfl e18)) ?_
  have hq := bindO_inv hr
  clear hr
  obtain ⟨v19, e19, hr⟩ := hq
  have hq := asI_inv hr
  clear hr
  obtain ⟨x19, rfl, hr⟩ := hq
  refine wa_step (v := (.i .i64 x19)) (a_ld rfl e19) ?_
  have hq := chk_inv hr
  clear hr
  obtain ⟨hc20, hr⟩ := hq
  have hq := forceI_inv hr
  clear hr
  obtain ⟨x20, e20, hr⟩ := hq
  refine wa_step (v := (.i .u8 x20)) (a_pure (p_bin rfl rfl ((b_shr hc20).trans (ci e20)))) ?_
  have hq := forceI_inv hr
  clear hr
  obtain ⟨x21, e21, hr⟩ := hq
  refine wa_step (v := (.i .u8 x21)) (a_pure (p_bin rfl rfl (b_and.trans (ci e21)))) ?_
  have hq := forceB_inv hr
  clear hr
  obtain ⟨c22, e22, hr⟩ := hq
  refine wa_step (v := (.b c22)) (a_pure (p_bin rfl rfl (b_eql.trans (cb e22)))) ?_
  refine wa_step (v := (.b c22)) (a_pure (p_mv rfl)) ?_
  refine wa_nil ?_
  refine ⟨m_1, rfl, ?_⟩
  refine nx_norm ?_
  refine w_ret ?_
  exact qf ret_ok (rt rfl rn) hr

/- math/bits.OnesCount8 -/

def g94 (M : Means) (ro : List ABlk) (x0 : Int) (m0 : Mm) : Option (AVal × Heap × Nat × Nat) :=
  bindO (evP .e (.ixStr (.c (AVal.s [0, 1, 1, 2, 1, 2, 2, 3, 1, 2, 2, 3, 2, 3, 3, 4, 1, 2, 2, 3, 2, 3, 3, 4, 2, 3, 3, 4, 3, 4, 4, 5, 1, 2, 2, 3, 2, 3, 3, 4, 2, 3, 3, 4, 3, 4, 4, 5, 2, 3, 3, 4, 3, 4, 4, 5, 3, 4, 4, 5, 4, 5, 5, 6, 1, 2, 2, 3, 2, 3, 3, 4, 2, 3, 3, 4, 3, 4, 4, 5, 2, 3, 3, 4, 3, 4, 4, 5, 3, 4, 4, 5, 4, 5, 5, 6, 2, 3, 3, 4, 3, 4, 4, 5, 3, 4, 4, 5, 4, 5, 5, 6, 3, 4, 4, 5, 4, 5, 5, 6, 4, 5, 5, 6, 5, 6, 6, 7, 1, 2, 2, 3, 2, 3, 3, 4, 2, 3, 3, 4, 3, 4, 4, 5, 2, 3, 3, 4, 3, 4, 4, 5, 3, 4, 4, 5, 4, 5, 5, 6, 2, 3, 3, 4, 3, 4, 4, 5, 3, 4, 4, 5, 4, 5, 5, 6, 3, 4, 4, 5, 4, 5, 5, 6, 4, 5, 5, 6, 5, 6, 6, 7, 2, 3, 3, 4, 3, 4, 4, 5, 3, 4, 4, 5, 4, 5, 5, 6, 3, 4, 4, 5, 4, 5, 5, 6, 4, 5, 5, 6, 5, 6, 6, 7, 3, 4, 4, 5, 4, 5, 5, 6, 4, 5, 5, 6, 5, 6, 6, 7, 4, 5, 5, 6, 5, 6, 6, 7, 5, 6, 6, 7, 6, 7, 7, 8])) (.c (.i .u8 x0)))) fun v4 =>
  asI .u8 v4 fun x4 =>
  forceI (wr .i64 x4) fun x5 =>
  finM m0.h.length (tupA [(.i .i64 x5)]) m0

theorem g94_ok {ro : List ABlk} {O : Caller} {M : Means} (hM : M.Ok ⟨F, O⟩ ro) {x0 h r} (ho : O 94 [(.i .u8 x0)] h = none) (hr : g94 M ro x0 ⟨h, h.length, h.length⟩ = some r) : callX ⟨F, O⟩ ro 94 [(.i .u8 x0)] h = some r := by
  refine callX_of (F := ⟨F, O⟩) (fn := fn94) (g := g94 M ro x0) ho rfl rfl hr ?_
  clear ho
  clear hr
  intro m0 t0 ht hr
  have g0 : t0.get 0 = (.i .u8 x0) := ht 0
  clear ht
  unfold g94 at hr
  refine w_seq ?_
  refine w_ops ?_
  refine wo_step (v := (.i .i64 0)) (s_pure (p_mv rfl)) ?_
  refine wo_nil ?_
  refine nx_norm ?_
  refine w_seq ?_
  refine w_ops ?_
  refine wo_step (v := (.i .u8 x0)) (s_pure (p_mv g0)) ?_
  have hq := bindO_inv hr
  clear hr
  obtain ⟨v4, e4, hr⟩ := hq
  have hq := asI_inv hr
  clear hr
  obtain ⟨x4, rfl, hr⟩ := hq
  refine wo_step (v := (.i .u8 x4)) (s_pure (o_ixStr rfl rfl e4)) ?_
  have hq := forceI_inv hr
  clear hr
  obtain ⟨x5, e5, hr⟩ := hq
  refine wo_step (v := (.i .i64 x5)) (s_pure ((p_conv rfl).trans (ci e5))) ?_
  refine wo_step (v := (.i .i64 x5)) (s_pure (p_mv rfl)) ?_
  refine wo_nil ?_
  refine nx_norm ?_
  refine w_ret ?_
  exact qf ret_ok (rt rfl rn) hr

/- slices.Index[[]int,int] -/
abbrev g97_I0 (v0 : AVal) (x1 : Int) (x7 : Int) (m0 : Mm) (s : Int) (m1 : Mm) (t1 : Tr) : Prop :=
  match s with
  | x8 => m0 = m1 ∧ t1.get 8 = (.i .i64 x8) ∧ t1.get 0 = v0 ∧ t1.get 1 = (.i .i64 x1) ∧ t1.get 7 = (.i .i64 x7)
abbrev g97_J0 (v0 : AVal) (x1 : Int) (x7 : Int) (m0 : Mm) (o : (Unit ⊕ Int)) (e : AExit) (m1 : Mm) (t1 : Tr) : Prop :=
  match o with
  | (.inl _) => e = (.exit 0) ∧ m0 = m1
  | (.inr y4) => e = .ret ∧ m0 = m1 ∧ t1.get 4 = (.i .i64 y4)
def g97_b0 (M : Means) (ro : List ABlk) (v0 : AVal) (x1 : Int) (x7 : Int) (m0 : Mm) (x8 : Int) : Option ((Int) ⊕ ((Unit ⊕ Int))) :=
  forceB (ltI x8 x7) fun c9 =>
  cond c9 (
    bindO (evP .e (.ixS 1 (.c v0) (.c (.i .i64 x8)))) fun v14 =>
    bindO (ldM ro m0 true 1 v14) fun v15 =>
    asI .i64 v15 fun x15 =>
    forceB (eqI x1 x15) fun c16 =>
    cond c16 (
      some (.inr (.inr x8))) (
      forceI (wr .i64 (x8 + 1)) fun x18 =>
      some (.inl x18))) (
    some (.inr (.inl ())))
def g97 (M : Means) (ro : List ABlk) (v0 : AVal) (x1 : Int) (m0 : Mm) : Option (AVal × Heap × Nat × Nat) :=
  bindO (evP .e (.len false (.c v0))) fun v7 =>
  asI .i64 v7 fun x7 =>
  bindO (M.loop (S := Int) (R := (Unit ⊕ Int)) (fun s => g97_b0 M ro v0 x1 x7 m0 s) 0) fun o => match o with
  | (.inl _) =>
    finM m0.h.length (tupA [(.i .i64 (-1))]) m0
  | (.inr x4) =>
    finM m0.h.length (tupA [(.i .i64 x4)]) m0

theorem g97_ok {ro : List ABlk} {O : Caller} {M : Means} (hM : M.Ok ⟨F, O⟩ ro) {v0 x1 h r} (ho : O 97 [v0, (.i .i64 x1)] h = none) (hr : g97 M ro v0 x1 ⟨h, h.length, h.length⟩ = some r) : callX ⟨F, O⟩ ro 97 [v0, (.i .i64 x1)] h = some r := by
  refine callX_of (F := ⟨F, O⟩) (fn := fn97) (g := g97 M ro v0 x1) ho rfl rfl hr ?_
  clear ho
  clear hr
  intro m0 t0 ht hr
  have g0 : t0.get 0 = v0 := ht 0
  have g1 : t0.get 1 = (.i .i64 x1) := ht 1
  clear ht
  unfold g97 at hr
  refine w_seq ?_
  refine w_ops ?_
  refine wo_step (v := (.i .i64 0)) (s_pure (p_mv rfl)) ?_
  refine wo_nil ?_
  refine nx_norm ?_
  refine w_seq ?_
  refine w_seq ?_
  refine w_ops ?_
  refine wo_step (v := v0) (s_pure (p_mv g0)) ?_
  have hq := bindO_inv hr
  clear hr
  obtain ⟨v7, e7, hr⟩ := hq
  have hq := asI_inv hr
  clear hr
  obtain ⟨x7, rfl, hr⟩ := hq
  refine wo_step (v := (.i .i64 x7)) (s_pure (o_len rfl e7)) ?_
  refine wo_step (v := (.i .i64 0)) (s_pure (p_mv rfl)) ?_
  refine wo_nil ?_
  refine nx_norm ?_
  refine w_block ?_
  have hq := bindO_inv hr
  clear hr
  obtain ⟨o, hl, hr⟩ := hq
  obtain ⟨n, hl⟩ := hM.loop _ _ _ hl
  refine jp_mono (w_loop _ (g97_I0 v0 x1 x7 m0) (g97_J0 v0 x1 x7 m0) ?_ n _ _ _ _ hl ⟨rfl, gl rfl, gl g0, gl g1, gl rfl⟩) ?_
  · clear hr hl
    intro s mm_2 t_1 o hi hr
    obtain ⟨x8, hs⟩ : ∃ z, z = s := ⟨_, rfl⟩
    subst hs
    obtain ⟨rfl, g8, g0, g1, g7⟩ := hi
    unfold g97_b0 at hr
    refine w_seq ?_
    refine w_ops ?_
    have hq := forceB_inv hr
    clear hr
    obtain ⟨c9, e9, hr⟩ := hq
    refine wo_step (v := (.b c9)) (s_pure (p_bin g8 g7 (b_lss.trans (cb e9)))) ?_
    refine wo_nil ?_
    refine nx_norm ?_
    refine w_seq ?_
    have hq := cond_inv hr
    clear hr
    rcases hq with ⟨rfl, hr⟩ | ⟨rfl, hr⟩
    · refine w_condT rfl ?_
      refine w_skip ?_
      refine nx_norm ?_
      refine w_seq ?_
      refine w_block ?_
      refine w_seq ?_
      refine w_ops ?_
      refine wo_step (v := (.i .i64 x8)) (s_pure (p_mv g8)) ?_
      refine wo_step (v := (.i .i64 x8)) (s_pure (p_mv rfl)) ?_
      refine wo_nil ?_
      refine nx_norm ?_
      refine w_seq ?_
      refine w_ops ?_
      refine wo_step (v := (.i .i64 x1)) (s_pure (p_mv g1)) ?_
      refine wo_step (v := v0) (s_pure (p_mv g0)) ?_
      refine wo_step (v := (.i .i64 x8)) (s_pure (p_mv rfl)) ?_
      have hq := bindO_inv hr
      clear hr
      obtain ⟨v14, e14, hr⟩ := hq
      refine wo_step (v := v14) (s_pure (o_ixS rfl rfl e14)) ?_
      have hq := bindO_inv hr
      clear hr
      obtain ⟨v15, e15, hr⟩ := hq
      have hq := asI_inv hr
      clear hr
      obtain ⟨x15, rfl, hr⟩ := hq
      refine wo_step (v := (.i .i64 x15)) (s_ld rfl e15) ?_
      have hq := forceB_inv hr
      clear hr
      obtain ⟨c16, e16, hr⟩ := hq
      refine wo_step (v := (.b c16)) (s_pure (p_bin rfl rfl (b_eql.trans (cb e16)))) ?_
      refine wo_nil ?_
      refine nx_norm ?_
      have hq := cond_inv hr
      clear hr
      rcases hq with ⟨rfl, hr⟩ | ⟨rfl, hr⟩
      · refine w_condT rfl ?_
        refine w_seq ?_
        refine w_ops ?_
        refine wo_step (v := (.i .i64 x8)) (s_pure (p_mv rfl)) ?_
        refine wo_step (v := (.i .i64 x8)) (s_pure (p_mv rfl)) ?_
        refine wo_nil ?_
        refine nx_norm ?_
        refine w_ret ?_
        refine bk_ret ?_
        refine nx_ret ?_
        cases hr
        exact ⟨_, _, rfl, ne_norm_ret, rfl, rfl, gl rfl⟩
      · refine w_condF rfl ?_
        refine w_skip ?_
        refine bk_norm ?_
        refine nx_norm ?_
        refine w_ops ?_
        have hq := forceI_inv hr
        clear hr
        obtain ⟨x18, e18, hr⟩ := hq
        refine wo_step (v := (.i .i64 x18)) (s_pure (p_bin g8 rfl (b_add.trans (ci e18)))) ?_
        refine wo_step (v := (.i .i64 x18)) (s_pure (p_mv rfl)) ?_
        refine wo_nil ?_
        cases hr
        exact ⟨_, _, rfl, rfl, rfl, gl rfl, gl g0, gl g1, gl g7⟩
    · refine w_condF rfl ?_
      refine w_exit ?_
      refine nx_exit ?_
      cases hr
      exact ⟨_, _, rfl, ne_norm_exit, rfl, rfl⟩
  · rcases o with o | o
    · rintro _ mm t_2 ⟨rfl, rfl⟩
      refine bk_hit ?_
      refine nx_norm ?_
      refine w_seq ?_
      refine w_ops ?_
      refine wo_step (v := (.i .i64 (-1))) (s_pure (p_mv rfl)) ?_
      refine wo_nil ?_
      refine nx_norm ?_
      refine w_ret ?_
      exact qf ret_ok (rt rfl rn) hr
    · obtain ⟨x4, ho⟩ : ∃ z, z = o := ⟨_, rfl⟩
      subst ho
      rintro _ mm_1 t_3 ⟨rfl, rfl, g4⟩
      refine bk_ret ?_
      refine nx_ret ?_
      exact qf ret_ok (rt g4 rn) hr

end Go.Proofs.Ytllmlonngnhbfaa.Bed

/- Plain functions, and that the small machine answers as they do. -/
import Derived.Test.YtnalgdobglfndaaVmP
import Derived.Test.YtnalgdobglfndaaVmAE
open Go.Vm
set_option linter.unusedVariables false
namespace Go.Proofs.Ytnalgdobglfndaa.T
open Go
/- (dibber/luck.weigher).foretell -/
abbrev g105_I0 (v1 : AVal) (v2 : AVal) (v5 : AVal) (x12 : Int) (s : Int × Mm) (m1 : Mm) (t1 : Tr) : Prop :=
  match s with
  | (x13, m_3) => m_3 = m1 ∧ t1.get 13 = (.i .i64 x13) ∧ t1.get 1 = v1 ∧ t1.get 2 = v2 ∧ t1.get 5 = v5 ∧ t1.get 11 = v1 ∧ t1.get 12 = (.i .i64 x12)
abbrev g105_J0 (v1 : AVal) (v2 : AVal) (v5 : AVal) (x12 : Int) (o : Mm) (e : AExit) (m1 : Mm) (t1 : Tr) : Prop :=
  match o with
  | mo => e = (.exit 0) ∧ mo = m1 ∧ t1.get 1 = v1 ∧ t1.get 5 = v5
def g105_b0 (M : Means) (ro : List ABlk) (v1 : AVal) (v2 : AVal) (v5 : AVal) (x12 : Int) (x13 : Int) (m_3 : Mm) : Option ((Int × Mm) ⊕ (Mm)) :=
  forceB (ltI x13 x12) fun c14 =>
  cond c14 (
    bindO (evP .e (.ixS 1 (.c v1) (.c (.i .i64 x13)))) fun v16 =>
    bindO (ldM ro m_3 true 1 v16) fun v17 =>
    asI .i64 v17 fun x17 =>
    bindO (evP .e (.faddr 0 (.c v2))) fun v18 =>
    bindO (evP .e (.faddr 0 (.c v18))) fun v19 =>
    bindO (ldA ro m_3.h true 1 v19) fun v20 =>
    bindO (evP .e (.ixS 1 (.c v20) (.c (.i .i64 x13)))) fun v22 =>
    bindO (ldA ro m_3.h true 1 v22) fun v23 =>
    asI .i64 v23 fun x23 =>
    bindO (evP .e (.ixA 200 1 (.c v5) (.c (.i .i64 x23)))) fun v24 =>
    bindO (ldA ro m_3.h true 1 v24) fun v25 =>
    asI .i64 v25 fun x25 =>
    bindO (callN M.call m_3.h 101 [(.i .i64 x17)]) fun v27 =>
    asI .i64 v27 fun x27 =>
    forceI (wr .i64 (x25 + x27)) fun x28 =>
    bindO (evP .e (.ixA 200 1 (.c v5) (.c (.i .i64 x23)))) fun v29 =>
    asP v29 fun qs =>
    bindO (writesM ro [] [(qs, AVal.cells (.i .i64 x28))] ⟨m_3.h, m_3.lw, m_3.lp⟩) fun m_4 =>
    forceI (wr .i64 (x13 + 1)) fun x30 =>
    some (.inl (x30, m_4))) (
    some (.inr m_3))
abbrev g105_I1 (v1 : AVal) (v31 : AVal) (m_5 : Mm) (s : Int × Int) (m1 : Mm) (t1 : Tr) : Prop :=
  match s with
  | (x8, x32) => m_5 = m1 ∧ t1.get 8 = (.i .i64 x8) ∧ t1.get 32 = (.i .i64 x32) ∧ t1.get 1 = v1 ∧ t1.get 31 = v31
abbrev g105_J1 (v1 : AVal) (v31 : AVal) (m_5 : Mm) (o : Int) (e : AExit) (m1 : Mm) (t1 : Tr) : Prop :=
  match o with
  | y8 => e = (.exit 2) ∧ m_5 = m1 ∧ t1.get 8 = (.i .i64 y8)
def g105_b1 (M : Means) (ro : List ABlk) (v1 : AVal) (v31 : AVal) (m_5 : Mm) (x8 : Int) (x32 : Int) : Option ((Int × Int) ⊕ (Int)) :=
  forceB (ltI x32 200) fun c33 =>
  cond c33 (
    bindO (evP .e (.ixV 200 1 true (.c v31) (.c (.i .i64 x32)))) fun v34 =>
    asI .i64 v34 fun x34 =>
    forceI (wr .i64 (2 * x8)) fun x36 =>
    forceI (wr .i64 (x36 + x34)) fun x38 =>
    forceI (wr .i64 (0 - x38)) fun x41 =>
    forceI (mxV true x38 x41) fun x42 =>
    bindO (evP .e (.len false (.c v1))) fun v44 =>
    asI .i64 v44 fun x44 =>
    forceB (ltI x44 x42) fun c45 =>
    cond c45 (
      some (.inr x38)) (
      forceI (wr .i64 (x32 + 1)) fun x46 =>
      some (.inl (x38, x46)))) (
    some (.inr x8))
def g105 (M : Means) (ro : List ABlk) (v0 : AVal) (v1 : AVal) (m0 : Mm) : Option (AVal × Heap × Nat × Nat) :=
  bindP (stepM ro m0 (.bx 76 1 (.c v0))) fun v2 m_1 =>
  bindP (stepM ro m_1 (.al 124 [(AVal.i IntKind.i64 0), (AVal.i IntKind.i64 0), (AVal.i IntKind.i64 0), (AVal.i IntKind.i64 0), (AVal.i IntKind.i64 0), (AVal.i IntKind.i64 0), (AVal.i IntKind.i64 0), (AVal.i IntKind.i64 0), (AVal.i IntKind.i64 0), (AVal.i IntKind.i64 0), (AVal.i IntKind.i64 0), (AVal.i IntKind.i64 0), (AVal.i IntKind.i64 0), (AVal.i IntKind.i64 0), (AVal.i IntKind.i64 0), (AVal.i IntKind.i64 0), (AVal.i IntKind.i64 0), (AVal.i IntKind.i64 0), (AVal.i IntKind.i64 0), (AVal.i IntKind.i64 0), (AVal.i IntKind.i64 0), (AVal.i IntKind.i64 0), (AVal.i IntKind.i64 0), (AVal.i IntKind.i64 0), (AVal.i IntKind.i64 0), (AVal.i IntKind.i64 0), (AVal.i IntKind.i64 0), (AVal.i IntKind.i64 0), (AVal.i IntKind.i64 0), (AVal.i IntKind.i64 0), (AVal.i IntKind.i64 0), (AVal.i IntKind.i64 0), (AVal.i IntKind.i64 0), (AVal.i IntKind.i64 0), (AVal.i IntKind.i64 0), (AVal.i IntKind.i64 0), (AVal.i IntKind.i64 0), (AVal.i IntKind.i64 0), (AVal.i IntKind.i64 0), (AVal.i IntKind.i64 0), (AVal.i IntKind.i64 0), (AVal.i IntKind.i64 0), (AVal.i IntKind.i64 0), (AVal.i IntKind.i64 0), (AVal.i IntKind.i64 0), (AVal.i IntKind.i64 0), (AVal.i IntKind.i64 0), (AVal.i IntKind.i64 0), (AVal.i IntKind.i64 0), (AVal.i IntKind.i64 0), (AVal.i IntKind.i64 0), (AVal.i IntKind.i64 0), (AVal.i IntKind.i64 0), (AVal.i IntKind.i64 0), (AVal.i IntKind.i64 0), (AVal.i IntKind.i64 0), (AVal.i IntKind.i64 0), (AVal.i IntKind.i64 0), (AVal.i IntKind.i64 0), (AVal.i IntKind.i64 0), (AVal.i IntKind.i64 0), (AVal.i IntKind.i64 0), (AVal.i IntKind.i64 0), (AVal.i IntKind.i64 0), (AVal.i IntKind.i64 0), (AVal.i IntKind.i64 0), (AVal.i IntKind.i64 0), (AVal.i IntKind.i64 0), (AVal.i IntKind.i64 0), (AVal.i IntKind.i64 0), (AVal.i IntKind.i64 0), (AVal.i IntKind.i64 0), (AVal.i IntKind.i64 0), (AVal.i IntKind.i64 0), (AVal.i IntKind.i64 0), (AVal.i IntKind.i64 0), (AVal.i IntKind.i64 0), (AVal.i IntKind.i64 0), (AVal.i IntKind.i64 0), (AVal.i IntKind.i64 0), (AVal.i IntKind.i64 0), (AVal.i IntKind.i64 0), (AVal.i IntKind.i64 0), (AVal.i IntKind.i64 0), (AVal.i IntKind.i64 0), (AVal.i IntKind.i64 0), (AVal.i IntKind.i64 0), (AVal.i IntKind.i64 0), (AVal.i IntKind.i64 0), (AVal.i IntKind.i64 0), (AVal.i IntKind.i64 0), (AVal.i IntKind.i64 0), (AVal.i IntKind.i64 0), (AVal.i IntKind.i64 0), (AVal.i IntKind.i64 0), (AVal.i IntKind.i64 0), (AVal.i IntKind.i64 0), (AVal.i IntKind.i64 0), (AVal.i IntKind.i64 0), (AVal.i IntKind.i64 0), (AVal.i IntKind.i64 0), (AVal.i IntKind.i64 0), (AVal.i IntKind.i64 0), (AVal.i IntKind.i64 0), (AVal.i IntKind.i64 0), (AVal.i IntKind.i64 0), (AVal.i IntKind.i64 0), (AVal.i IntKind.i64 0), (AVal.i IntKind.i64 0), (AVal.i IntKind.i64 0), (AVal.i IntKind.i64 0), (AVal.i IntKind.i64 0), (AVal.i IntKind.i64 0), (AVal.i IntKind.i64 0), (AVal.i IntKind.i64 0), (AVal.i IntKind.i64 0), (AVal.i IntKind.i64 0), (AVal.i IntKind.i64 0), (AVal.i IntKind.i64 0), (AVal.i IntKind.i64 0), (AVal.i IntKind.i64 0), (AVal.i IntKind.i64 0), (AVal.i IntKind.i64 0), (AVal.i IntKind.i64 0), (AVal.i IntKind.i64 0), (AVal.i IntKind.i64 0), (AVal.i IntKind.i64 0), (AVal.i IntKind.i64 0), (AVal.i IntKind.i64 0), (AVal.i IntKind.i64 0), (AVal.i IntKind.i64 0), (AVal.i IntKind.i64 0), (AVal.i IntKind.i64 0), (AVal.i IntKind.i64 0), (AVal.i IntKind.i64 0), (AVal.i IntKind.i64 0), (AVal.i IntKind.i64 0), (AVal.i IntKind.i64 0), (AVal.i IntKind.i64 0), (AVal.i IntKind.i64 0), (AVal.i IntKind.i64 0), (AVal.i IntKind.i64 0), (AVal.i IntKind.i64 0), (AVal.i IntKind.i64 0), (AVal.i IntKind.i64 0), (AVal.i IntKind.i64 0), (AVal.i IntKind.i64 0), (AVal.i IntKind.i64 0), (AVal.i IntKind.i64 0), (AVal.i IntKind.i64 0), (AVal.i IntKind.i64 0), (AVal.i IntKind.i64 0), (AVal.i IntKind.i64 0), (AVal.i IntKind.i64 0), (AVal.i IntKind.i64 0), (AVal.i IntKind.i64 0), (AVal.i IntKind.i64 0), (AVal.i IntKind.i64 0), (AVal.i IntKind.i64 0), (AVal.i IntKind.i64 0), (AVal.i IntKind.i64 0), (AVal.i IntKind.i64 0), (AVal.i IntKind.i64 0), (AVal.i IntKind.i64 0), (AVal.i IntKind.i64 0), (AVal.i IntKind.i64 0), (AVal.i IntKind.i64 0), (AVal.i IntKind.i64 0), (AVal.i IntKind.i64 0), (AVal.i IntKind.i64 0), (AVal.i IntKind.i64 0), (AVal.i IntKind.i64 0), (AVal.i IntKind.i64 0), (AVal.i IntKind.i64 0), (AVal.i IntKind.i64 0), (AVal.i IntKind.i64 0), (AVal.i IntKind.i64 0), (AVal.i IntKind.i64 0), (AVal.i IntKind.i64 0), (AVal.i IntKind.i64 0), (AVal.i IntKind.i64 0), (AVal.i IntKind.i64 0), (AVal.i IntKind.i64 0), (AVal.i IntKind.i64 0), (AVal.i IntKind.i64 0), (AVal.i IntKind.i64 0), (AVal.i IntKind.i64 0), (AVal.i IntKind.i64 0), (AVal.i IntKind.i64 0), (AVal.i IntKind.i64 0), (AVal.i IntKind.i64 0), (AVal.i IntKind.i64 0), (AVal.i IntKind.i64 0), (AVal.i IntKind.i64 0), (AVal.i IntKind.i64 0), (AVal.i IntKind.i64 0), (AVal.i IntKind.i64 0), (AVal.i IntKind.i64 0), (AVal.i IntKind.i64 0), (AVal.i IntKind.i64 0)])) fun v5 m_2 =>
  bindO (evP .e (.len false (.c v1))) fun v12 =>
  asI .i64 v12 fun x12 =>
  bindO (M.loop (S := Int × Mm) (R := Mm) (fun s => g105_b0 M ro v1 v2 v5 x12 s.1 s.2) (0, m_2)) fun m_5 =>
  bindO (ldM ro m_5 false 200 v5) fun v31 =>
  bindO (M.loop (S := Int × Int) (R := Int) (fun s => g105_b1 M ro v1 v31 m_5 s.1 s.2) (0, 0)) fun x8_1 =>
  bindP (callM M.call m_5 102 [(.i .i64 x8_1)]) fun v48 m_6 =>
  asI .i64 v48 fun x48 =>
  finM m0.h.length (tupA [(.i .i64 x48)]) m_6

theorem g105_ok {ro : List ABlk} {O : Caller} {M : Means} (hM : M.Ok ⟨F, O⟩ ro) {v0 v1 h r} (ho : O 105 [v0, v1] h = none) (hr : g105 M ro v0 v1 ⟨h, h.length, h.length⟩ = some r) : callX ⟨F, O⟩ ro 105 [v0, v1] h = some r := by
  refine callX_of (F := ⟨F, O⟩) (fn := fn105) (g := g105 M ro v0 v1) ho rfl rfl hr ?_
  clear ho
  clear hr
  intro m0 t0 ht hr
  have g0 : t0.get 0 = v0 := ht 0
  have g1 : t0.get 1 = v1 := ht 1
  clear ht
  unfold g105 at hr
  refine w_seq ?_
  refine w_ops ?_
  have hq := bindP_inv hr
  clear hr
  obtain ⟨v2, m_1, e2, hr⟩ := hq
  refine wo_step (v := v2) (s_bx g0 e2) ?_
  refine wo_step (v := (.i .i64 0)) (s_pure (p_mv rfl)) ?_
  refine wo_nil ?_
  refine nx_norm ?_
  refine w_seq ?_
  refine w_ops ?_
  have hq := bindP_inv hr
  clear hr
  obtain ⟨v5, m_2, e5, hr⟩ := hq
  refine wo_step (v := v5) (s_al e5) ?_
  refine wo_nil ?_
  refine nx_norm ?_
  refine w_seq ?_
  refine w_seq ?_
  refine w_ops ?_
  refine wo_step (v := v1) (s_pure (p_mv g1)) ?_
  have hq := bindO_inv hr
  clear hr
  obtain ⟨v12, e12, hr⟩ := hq
  have hq := asI_inv hr
  clear hr
  obtain ⟨x12, rfl, hr⟩ := hq
  refine wo_step (v := (.i .i64 x12)) (s_pure (o_len rfl e12)) ?_
  refine wo_step (v := (.i .i64 0)) (s_pure (p_mv rfl)) ?_
  refine wo_nil ?_
  refine nx_norm ?_
  refine w_block ?_
  have hq := bindO_inv hr
  clear hr
  obtain ⟨o, hl_1, hr⟩ := hq
  obtain ⟨n_1, hl_1⟩ := hM.loop _ _ _ hl_1
  refine jp_mono (w_loop _ (g105_I0 v1 v2 v5 x12) (g105_J0 v1 v2 v5 x12) ?_ n_1 _ _ _ _ hl_1 ⟨rfl, gl rfl, gl g1, gl rfl, gl rfl, gl rfl, gl rfl⟩) ?_
  · clear hr hl_1
    intro s mm_3 t_1 o hi hr
    obtain ⟨x13, m_3⟩ := s
    obtain ⟨rfl, g13, g1, g2, g5, g11, g12⟩ := hi
    unfold g105_b0 at hr
    refine w_seq ?_
    refine w_ops ?_
    have hq := forceB_inv hr
    clear hr
    obtain ⟨c14, e14, hr⟩ := hq
    refine wo_step (v := (.b c14)) (s_pure (p_bin g13 g12 (b_lss.trans (cb e14)))) ?_
    refine wo_nil ?_
    refine nx_norm ?_
    refine w_seq ?_
    have hq := cond_inv hr
    clear hr
    rcases hq with ⟨rfl, hr⟩ | ⟨rfl, hr⟩
    · refine w_condT rfl ?_
      refine w_skip ?_
      refine nx_norm ?_
      refine w_seq ?_
      refine w_block ?_
      refine w_seq ?_
      refine w_ops ?_
      refine wo_step (v := (.i .i64 x13)) (s_pure (p_mv g13)) ?_
      have hq := bindO_inv hr
      clear hr
      obtain ⟨v16, e16, hr⟩ := hq
      refine wo_step (v := v16) (s_pure (o_ixS g11 g13 e16)) ?_
      have hq := bindO_inv hr
      clear hr
      obtain ⟨v17, e17, hr⟩ := hq
      have hq := asI_inv hr
      clear hr
      obtain ⟨x17, rfl, hr⟩ := hq
      refine wo_step (v := (.i .i64 x17)) (s_ld rfl e17) ?_
      refine wo_step (v := (.i .i64 x13)) (s_pure (p_mv rfl)) ?_
      refine wo_step (v := (.i .i64 x17)) (s_pure (p_mv rfl)) ?_
      refine wo_nil ?_
      refine nx_norm ?_
      refine w_any ?_
      have hq := bindO_inv hr
      clear hr
      obtain ⟨v18, e18, hr⟩ := hq
      refine wa_step (v := v18) (a_pure (o_faddr g2 e18)) ?_
      have hq := bindO_inv hr
      clear hr
      obtain ⟨v19, e19, hr⟩ := hq
      refine wa_step (v := v19) (a_pure (o_faddr rfl e19)) ?_
      have hq := bindO_inv hr
      clear hr
      obtain ⟨v20, e20, hr⟩ := hq
      refine wa_step (v := v20) (a_ld rfl e20) ?_
      refine wa_step (v := (.i .i64 x13)) (a_pure (p_mv rfl)) ?_
      have hq := bindO_inv hr
      clear hr
      obtain ⟨v22, e22, hr⟩ := hq
      refine wa_step (v := v22) (a_pure (o_ixS rfl rfl e22)) ?_
      have hq := bindO_inv hr
      clear hr
      obtain ⟨v23, e23, hr⟩ := hq
      have hq := asI_inv hr
      clear hr
      obtain ⟨x23, rfl, hr⟩ := hq
      refine wa_step (v := (.i .i64 x23)) (a_ld rfl e23) ?_
      have hq := bindO_inv hr
      clear hr
      obtain ⟨v24, e24, hr⟩ := hq
      refine wa_step (v := v24) (a_pure (o_ixA g5 rfl e24)) ?_
      have hq := bindO_inv hr
      clear hr
      obtain ⟨v25, e25, hr⟩ := hq
      have hq := asI_inv hr
      clear hr
      obtain ⟨x25, rfl, hr⟩ := hq
      refine wa_step (v := (.i .i64 x25)) (a_ld rfl e25) ?_
      refine wa_step (v := (.i .i64 x17)) (a_pure (p_mv rfl)) ?_
      have hq := bindO_inv hr
      clear hr
      obtain ⟨v27, e27, hr⟩ := hq
      have hq := asI_inv hr
      clear hr
      obtain ⟨x27, rfl, hr⟩ := hq
      refine wa_step (v := (.i .i64 x27)) (a_call (mc rfl mn) (callN_le hM.call e27)) ?_
      have hq := forceI_inv hr
      clear hr
      obtain ⟨x28, e28, hr⟩ := hq
      refine wa_step (v := (.i .i64 x28)) (a_pure (p_bin rfl rfl (b_add.trans (ci e28)))) ?_
      have hq := bindO_inv hr
      clear hr
      obtain ⟨v29, e29, hr⟩ := hq
      refine wa_step (v := v29) (a_pure (o_ixA g5 rfl e29)) ?_
      have hq := asP_inv hr
      clear hr
      obtain ⟨qs, eqs, hr⟩ := hq
      refine wa_stepN (a_st (Eq.trans (b := v29) rfl eqs) rfl rfl) ?_
      have hq := bindO_inv hr
      clear hr
      obtain ⟨m_4, ew, hr⟩ := hq
      refine wa_nil ?_
      refine ⟨m_4, ew, ?_⟩
      refine bk_norm ?_
      refine nx_norm ?_
      refine w_ops ?_
      have hq := forceI_inv hr
      clear hr
      obtain ⟨x30, e30, hr⟩ := hq
      refine wo_step (v := (.i .i64 x30)) (s_pure (p_bin g13 rfl (b_add.trans (ci e30)))) ?_
      refine wo_step (v := (.i .i64 x30)) (s_pure (p_mv rfl)) ?_
      refine wo_nil ?_
      cases hr
      exact ⟨_, _, rfl, rfl, rfl, gl rfl, gl g1, gl g2, gl g5, gl g11, gl g12⟩
    · refine w_condF rfl ?_
      refine w_exit ?_
      refine nx_exit ?_
      cases hr
      exact ⟨_, _, rfl, ne_norm_exit, rfl, rfl, gl g1, gl g5⟩
  · obtain ⟨m_5, ho⟩ : ∃ z, z = o := ⟨_, rfl⟩
    subst ho
    rintro _ mm_2 t_2 ⟨rfl, rfl, g1, g5⟩
    refine bk_hit ?_
    refine nx_norm ?_
    refine w_seq ?_
    refine w_ops ?_
    refine wo_step (v := (.i .i64 0)) (s_pure (p_mv rfl)) ?_
    refine wo_nil ?_
    refine nx_norm ?_
    refine w_seq ?_
    refine w_seq ?_
    refine w_ops ?_
    have hq := bindO_inv hr
    clear hr
    obtain ⟨v31, e31, hr⟩ := hq
    refine wo_step (v := v31) (s_ld g5 e31) ?_
    refine wo_step (v := (.i .i64 0)) (s_pure (p_mv rfl)) ?_
    refine wo_nil ?_
    refine nx_norm ?_
    refine w_block ?_
    have hq := bindO_inv hr
    clear hr
    obtain ⟨o_1, hl, hr⟩ := hq
    obtain ⟨n, hl⟩ := hM.loop _ _ _ hl
    refine jp_mono (w_loop _ (g105_I1 v1 v31 m_5) (g105_J1 v1 v31 m_5) ?_ n _ _ _ _ hl ⟨rfl, gl rfl, gl rfl, gl g1, gl rfl⟩) ?_
    · clear hr hl
      intro s mm_1 t_3 o hi hr
      obtain ⟨x8, x32⟩ := s
      obtain ⟨rfl, g8, g32, g1, g31⟩ := hi
      unfold g105_b1 at hr
      refine w_seq ?_
      refine w_ops ?_
      have hq := forceB_inv hr
      clear hr
      obtain ⟨c33, e33, hr⟩ := hq
      refine wo_step (v := (.b c33)) (s_pure (p_bin g32 rfl (b_lss.trans (cb e33)))) ?_
      refine wo_nil ?_
      refine nx_norm ?_
      refine w_seq ?_
      have hq := cond_inv hr
      clear hr
      rcases hq with ⟨rfl, hr⟩ | ⟨rfl, hr⟩
      · refine w_condT rfl ?_
        refine w_skip ?_
        refine nx_norm ?_
        refine w_seq ?_
        refine w_block ?_
        refine w_seq ?_
        refine w_ops ?_
        have hq := bindO_inv hr
        clear hr
        obtain ⟨v34, e34, hr⟩ := hq
        have hq := asI_inv hr
        clear hr
        obtain ⟨x34, rfl, hr⟩ := hq
        refine wo_step (v := (.i .i64 x34)) (s_pure (o_ixV g31 g32 e34)) ?_
        refine wo_step (v := (.i .i64 x34)) (s_pure (p_mv rfl)) ?_
        refine wo_nil ?_
        refine nx_norm ?_
        refine w_seq ?_
        refine w_ops ?_
        refine wo_step (v := (.i .i64 x8)) (s_pure (p_mv g8)) ?_
        have hq := forceI_inv hr
        clear hr
        obtain ⟨x36, e36, hr⟩ := hq
        refine wo_step (v := (.i .i64 x36)) (s_pure (p_bin rfl rfl (b_mul.trans (ci e36)))) ?_
        refine wo_step (v := (.i .i64 x34)) (s_pure (p_mv rfl)) ?_
        have hq := forceI_inv hr
        clear hr
        obtain ⟨x38, e38, hr⟩ := hq
        refine wo_step (v := (.i .i64 x38)) (s_pure (p_bin rfl rfl (b_add.trans (ci e38)))) ?_
        refine wo_step (v := (.i .i64 x38)) (s_pure (p_mv rfl)) ?_
        refine wo_nil ?_
        refine nx_norm ?_
        refine w_seq ?_
        refine w_ops ?_
        refine wo_step (v := (.i .i64 x38)) (s_pure (p_mv rfl)) ?_
        refine wo_step (v := (.i .i64 x38)) (s_pure (p_mv rfl)) ?_
        have hq := forceI_inv hr
        clear hr
        obtain ⟨x41, e41, hr⟩ := hq
        refine wo_step (v := (.i .i64 x41)) (s_pure ((p_neg rfl).trans (ci e41))) ?_
        have hq := forceI_inv hr
        clear hr
        obtain ⟨x42, e42, hr⟩ := hq
        refine wo_step (v := (.i .i64 x42)) (s_pure ((p_mx rfl rfl).trans (ci e42))) ?_
        refine wo_step (v := v1) (s_pure (p_mv g1)) ?_
        have hq := bindO_inv hr
        clear hr
        obtain ⟨v44, e44, hr⟩ := hq
        have hq := asI_inv hr
        clear hr
        obtain ⟨x44, rfl, hr⟩ := hq
        refine wo_step (v := (.i .i64 x44)) (s_pure (o_len rfl e44)) ?_
        have hq := forceB_inv hr
        clear hr
        obtain ⟨c45, e45, hr⟩ := hq
        refine wo_step (v := (.b c45)) (s_pure (p_bin rfl rfl (b_gtr.trans (cb e45)))) ?_
        refine wo_nil ?_
        refine nx_norm ?_
        have hq := cond_inv hr
        clear hr
        rcases hq with ⟨rfl, hr⟩ | ⟨rfl, hr⟩
        · refine w_condT rfl ?_
          refine w_exit ?_
          refine bk_miss (by decide) ?_
          refine nx_exit ?_
          cases hr
          exact ⟨_, _, rfl, ne_norm_exit, rfl, rfl, gl rfl⟩
        · refine w_condF rfl ?_
          refine w_skip ?_
          refine bk_norm ?_
          refine nx_norm ?_
          refine w_ops ?_
          have hq := forceI_inv hr
          clear hr
          obtain ⟨x46, e46, hr⟩ := hq
          refine wo_step (v := (.i .i64 x46)) (s_pure (p_bin g32 rfl (b_add.trans (ci e46)))) ?_
          refine wo_step (v := (.i .i64 x46)) (s_pure (p_mv rfl)) ?_
          refine wo_nil ?_
          cases hr
          exact ⟨_, _, rfl, rfl, rfl, gl rfl, gl rfl, gl g1, gl g31⟩
      · refine w_condF rfl ?_
        refine w_exit ?_
        refine nx_exit ?_
        cases hr
        exact ⟨_, _, rfl, ne_norm_exit, rfl, rfl, gl g8⟩
    · obtain ⟨x8_1, ho⟩ : ∃ z, z = o_1 := ⟨_, rfl⟩
      subst ho
      rintro _ mm t_4 ⟨rfl, rfl, g8⟩
      refine bk_hit ?_
      refine nx_norm ?_
      refine w_seq ?_
      refine w_ops ?_
      refine wo_step (v := (.i .i64 x8_1)) (s_pure (p_mv g8)) ?_
      have hq := bindP_inv hr
      clear hr
      obtain ⟨v48, m_6, e48, hr⟩ := hq
      have hq := asI_inv hr
      clear hr
      obtain ⟨x48, rfl, hr⟩ := hq
      refine wo_step (v := (.i .i64 x48)) (s_call (mc rfl mn) (callM_le hM.call e48)) ?_
      refine wo_step (v := (.i .i64 x48)) (s_pure (p_mv rfl)) ?_
      refine wo_nil ?_
      refine nx_norm ?_
      refine w_ret ?_
      exact qf ret_ok (rt rfl rn) hr

end Go.Proofs.Ytnalgdobglfndaa.T

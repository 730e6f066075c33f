/- Plain functions, and that the small machine answers as they do. -/
import Derived.Test.YtgbkicelkpagpaaVmP
import Derived.Test.YtgbkicelkpagpaaVmAE
open Go.Vm
set_option linter.unusedVariables false
namespace Go.Proofs.Ytgbkicelkpagpaa.W
open Go
/- (dibber/weed.rule).grow -/
abbrev g46_I0 (x0 : Int) (s1 : List UInt8) (v10 : AVal) (x12 : Int) (s : Int × Mm) (m1 : Mm) (t1 : Tr) : Prop :=
  match s with
  | (x13, m_2) => m_2 = m1 ∧ t1.get 13 = (.i .i64 x13) ∧ t1.get 0 = (.i .u8 x0) ∧ t1.get 1 = (.s s1) ∧ t1.get 5 = v10 ∧ t1.get 12 = (.i .i64 x12)
abbrev g46_J0 (x0 : Int) (s1 : List UInt8) (v10 : AVal) (x12 : Int) (o : Mm) (e : AExit) (m1 : Mm) (t1 : Tr) : Prop :=
  match o with
  | mo => e = (.exit 0) ∧ mo = m1 ∧ t1.get 5 = v10
def g46_b0 (M : Means) (ro : List ABlk) (x0 : Int) (s1 : List UInt8) (v10 : AVal) (x12 : Int) (x13 : Int) (m_2 : Mm) : Option ((Int × Mm) ⊕ (Mm)) :=
  forceB (ltI x13 x12) fun c14 =>
  cond c14 (
    bindO (evP .e (.ixStr (.c (.s s1)) (.c (.i .i64 x13)))) fun v21 =>
    asI .u8 v21 fun x21 =>
    forceI (wr .i64 (x13 + 1)) fun x26 =>
    bindO (evP .e (.ixStr (.c (.s s1)) (.c (.i .i64 x26)))) fun v27 =>
    asI .u8 v27 fun x27 =>
    forceI (wr .i64 (x13 + 2)) fun x33 =>
    bindO (evP .e (.ixStr (.c (.s s1)) (.c (.i .i64 x33)))) fun v34 =>
    asI .u8 v34 fun x34 =>
    bindP (callM M.call m_2 73 [(.i .u8 x21)]) fun v22 m_3 =>
    asI .i64 v22 fun x22 =>
    forceI (wr .i64 (4 * x22)) fun x23 =>
    bindP (callM M.call m_3 73 [(.i .u8 x27)]) fun v28 m_4 =>
    asI .i64 v28 fun x28 =>
    forceI (wr .i64 (2 * x28)) fun x29 =>
    forceI (wr .i64 (x23 + x29)) fun x30 =>
    bindP (callM M.call m_4 73 [(.i .u8 x34)]) fun v35 m_5 =>
    asI .i64 v35 fun x35 =>
    forceI (wr .i64 (x30 + x35)) fun x36 =>
    bindP (callM M.call m_5 72 [(.i .u8 x0), (.i .i64 x36)]) fun v37 m_6 =>
    asI .i64 v37 fun x37 =>
    bindP (callM M.call m_6 71 [(.i .i64 x37)]) fun v38 m_7 =>
    asI .u8 v38 fun x38 =>
    bindO (evP .e (.ixS 1 (.c v10) (.c (.i .i64 x13)))) fun v39 =>
    bindP (stepM ro m_7 (.st 1 (.c v39) (.c (.i .u8 x38)))) fun vn m_8 =>
    forceI (wr .i64 (x13 + 1)) fun x40 =>
    some (.inl (x40, m_8))) (
    some (.inr m_2))
def g46 (M : Means) (ro : List ABlk) (x0 : Int) (s1 : List UInt8) (m0 : Mm) : Option (AVal × Heap × Nat × Nat) :=
  bindO (evP .e (.len true (.c (.s s1)))) fun v8 =>
  asI .i64 v8 fun x8 =>
  forceI (wr .i64 (x8 - 2)) fun x9 =>
  bindP (stepM ro m0 (.mk 5 1 1 [(AVal.i IntKind.u8 0)] (.c (.i .i64 x9)) (.c (.i .i64 x9)))) fun v10 m_1 =>
  bindO (evP .e (.len false (.c v10))) fun v12 =>
  asI .i64 v12 fun x12 =>
  bindO (M.loop (S := Int × Mm) (R := Mm) (fun s => g46_b0 M ro x0 s1 v10 x12 s.1 s.2) (0, m_1)) fun m_9 =>
  bindO (btsM ro m_9 v10) fun v42 =>
  asS v42 fun s42 =>
  finM m0.h.length (tupA [(.s s42)]) m_9

theorem g46_ok {ro : List ABlk} {O : Caller} {M : Means} (hM : M.Ok ⟨F, O⟩ ro) {x0 s1 h r} (ho : O 46 [(.i .u8 x0), (.s s1)] h = none) (hr : g46 M ro x0 s1 ⟨h, h.length, h.length⟩ = some r) : callX ⟨F, O⟩ ro 46 [(.i .u8 x0), (.s s1)] h = some r := by
  refine callX_of (F := ⟨F, O⟩) (fn := fn46) (g := g46 M ro x0 s1) ho rfl rfl hr ?_
  clear ho
  clear hr
  intro m0 t0 ht hr
  have g0 : t0.get 0 = (.i .u8 x0) := ht 0
  have g1 : t0.get 1 = (.s s1) := ht 1
  clear ht
  unfold g46 at hr
  refine w_seq ?_
  refine w_ops ?_
  refine wo_step (v := (AVal.s [])) (s_pure (p_mv rfl)) ?_
  refine wo_nil ?_
  refine nx_norm ?_
  refine w_seq ?_
  refine w_ops ?_
  refine wo_step (v := (.s s1)) (s_pure (p_mv g1)) ?_
  have hq := bindO_inv hr
  clear hr
  obtain ⟨v8, e8, hr⟩ := hq
  have hq := asI_inv hr
  clear hr
  obtain ⟨x8, rfl, hr⟩ := hq
  refine wo_step (v := (.i .i64 x8)) (s_pure (o_len rfl e8)) ?_
  have hq := forceI_inv hr
  clear hr
  obtain ⟨x9, e9, hr⟩ := hq
  refine wo_step (v := (.i .i64 x9)) (s_pure (p_bin rfl rfl (b_sub.trans (ci e9)))) ?_
  have hq := bindP_inv hr
  clear hr
  obtain ⟨v10, m_1, e10, hr⟩ := hq
  refine wo_step (v := v10) (s_mk rfl rfl e10) ?_
  refine wo_step (v := v10) (s_pure (p_mv rfl)) ?_
  refine wo_nil ?_
  refine nx_norm ?_
  refine w_seq ?_
  refine w_seq ?_
  refine w_ops ?_
  refine wo_step (v := v10) (s_pure (p_mv rfl)) ?_
  have hq := bindO_inv hr
  clear hr
  obtain ⟨v12, e12, hr⟩ := hq
  have hq := asI_inv hr
  clear hr
  obtain ⟨x12, rfl, hr⟩ := hq
  refine wo_step (v := (.i .i64 x12)) (s_pure (o_len rfl e12)) ?_
  refine wo_step (v := (.i .i64 0)) (s_pure (p_mv rfl)) ?_
  refine wo_nil ?_
  refine nx_norm ?_
  refine w_block ?_
  have hq := bindO_inv hr
  clear hr
  obtain ⟨o, hl, hr⟩ := hq
  obtain ⟨n, hl⟩ := hM.loop _ _ _ hl
  refine jp_mono (w_loop _ (g46_I0 x0 s1 v10 x12) (g46_J0 x0 s1 v10 x12) ?_ n _ _ _ _ hl ⟨rfl, gl rfl, gl g0, gl g1, gl rfl, gl rfl⟩) ?_
  · clear hr hl
    intro s mm_1 t_1 o hi hr
    obtain ⟨x13, m_2⟩ := s
    obtain ⟨rfl, g13, g0, g1, g5, g12⟩ := hi
    unfold g46_b0 at hr
    refine w_seq ?_
    refine w_ops ?_
    have hq := forceB_inv hr
    clear hr
    obtain ⟨c14, e14, hr⟩ := hq
    refine wo_step (v := (.b c14)) (s_pure (p_bin g13 g12 (b_lss.trans (cb e14)))) ?_
    refine wo_nil ?_
    refine nx_norm ?_
    refine w_seq ?_
    have hq := cond_inv hr
    clear hr
    rcases hq with ⟨rfl, hr⟩ | ⟨rfl, hr⟩
    · refine w_condT rfl ?_
      refine w_skip ?_
      refine nx_norm ?_
      refine w_seq ?_
      refine w_block ?_
      refine w_seq ?_
      refine w_ops ?_
      refine wo_step (v := (.i .i64 x13)) (s_pure (p_mv g13)) ?_
      refine wo_step (v := (.i .i64 x13)) (s_pure (p_mv rfl)) ?_
      refine wo_nil ?_
      refine nx_norm ?_
      refine w_ops ?_
      refine wo_step (v := v10) (s_pure (p_mv g5)) ?_
      refine wo_step (v := (.i .i64 x13)) (s_pure (p_mv rfl)) ?_
      refine wo_step (v := (.i .u8 x0)) (s_pure (p_mv g0)) ?_
      refine wo_step (v := (.s s1)) (s_pure (p_mv g1)) ?_
      refine wo_step (v := (.i .i64 x13)) (s_pure (p_mv rfl)) ?_
      have hq := bindO_inv hr
      clear hr
      obtain ⟨v21, e21, hr⟩ := hq
      have hq := asI_inv hr
      clear hr
      obtain ⟨x21, rfl, hr⟩ := hq
      refine wo_step (v := (.i .u8 x21)) (s_pure (o_ixStr rfl rfl e21)) ?_
      refine wo_step (v := (.s s1)) (s_pure (p_mv g1)) ?_
      refine wo_step (v := (.i .i64 x13)) (s_pure (p_mv rfl)) ?_
      have hq := forceI_inv hr
      clear hr
      obtain ⟨x26, e26, hr⟩ := hq
      refine wo_step (v := (.i .i64 x26)) (s_pure (p_bin rfl rfl (b_add.trans (ci e26)))) ?_
      have hq := bindO_inv hr
      clear hr
      obtain ⟨v27, e27, hr⟩ := hq
      have hq := asI_inv hr
      clear hr
      obtain ⟨x27, rfl, hr⟩ := hq
      refine wo_step (v := (.i .u8 x27)) (s_pure (o_ixStr rfl rfl e27)) ?_
      refine wo_step (v := (.s s1)) (s_pure (p_mv g1)) ?_
      refine wo_step (v := (.i .i64 x13)) (s_pure (p_mv rfl)) ?_
      have hq := forceI_inv hr
      clear hr
      obtain ⟨x33, e33, hr⟩ := hq
      refine wo_step (v := (.i .i64 x33)) (s_pure (p_bin rfl rfl (b_add.trans (ci e33)))) ?_
      have hq := bindO_inv hr
      clear hr
      obtain ⟨v34, e34, hr⟩ := hq
      have hq := asI_inv hr
      clear hr
      obtain ⟨x34, rfl, hr⟩ := hq
      refine wo_step (v := (.i .u8 x34)) (s_pure (o_ixStr rfl rfl e34)) ?_
      have hq := bindP_inv hr
      clear hr
      obtain ⟨v22, m_3, e22, hr⟩ := hq
      have hq := asI_inv hr
      clear hr
      obtain ⟨x22, rfl, hr⟩ := hq
      refine wo_step (v := (.i .i64 x22)) (s_call (mc rfl mn) (callM_le hM.call e22)) ?_
      have hq := forceI_inv hr
      clear hr
      obtain ⟨x23, e23, hr⟩ := hq
      refine wo_step (v := (.i .i64 x23)) (s_pure (p_bin rfl rfl (b_mul.trans (ci e23)))) ?_
      have hq := bindP_inv hr
      clear hr
      obtain ⟨v28, m_4, e28, hr⟩ := hq
      have hq := asI_inv hr
      clear hr
      obtain ⟨x28, rfl, hr⟩ := hq
      refine wo_step (v := (.i .i64 x28)) (s_call (mc rfl mn) (callM_le hM.call e28)) ?_
      have hq := forceI_inv hr
      clear hr
      obtain ⟨x29, e29, hr⟩ := hq
      refine wo_step (v := (.i .i64 x29)) (s_pure (p_bin rfl rfl (b_mul.trans (ci e29)))) ?_
      have hq := forceI_inv hr
      clear hr
      obtain ⟨x30, e30, hr⟩ := hq
      refine wo_step (v := (.i .i64 x30)) (s_pure (p_bin rfl rfl (b_add.trans (ci e30)))) ?_
      have hq := bindP_inv hr
      clear hr
      obtain ⟨v35, m_5, e35, hr⟩ := hq
      have hq := asI_inv hr
      clear hr
      obtain ⟨x35, rfl, hr⟩ := hq
      refine wo_step (v := (.i .i64 x35)) (s_call (mc rfl mn) (callM_le hM.call e35)) ?_
      have hq := forceI_inv hr
      clear hr
      obtain ⟨x36, e36, hr⟩ := hq
      refine wo_step (v := (.i .i64 x36)) (s_pure (p_bin rfl rfl (b_add.trans (ci e36)))) ?_
      have hq := bindP_inv hr
      clear hr
      obtain ⟨v37, m_6, e37, hr⟩ := hq
      have hq := asI_inv hr
      clear hr
      obtain ⟨x37, rfl, hr⟩ := hq
      refine wo_step (v := (.i .i64 x37)) (s_call (mc rfl (mc rfl mn)) (callM_le hM.call e37)) ?_
      have hq := bindP_inv hr
      clear hr
      obtain ⟨v38, m_7, e38, hr⟩ := hq
      have hq := asI_inv hr
      clear hr
      obtain ⟨x38, rfl, hr⟩ := hq
      refine wo_step (v := (.i .u8 x38)) (s_call (mc rfl mn) (callM_le hM.call e38)) ?_
      have hq := bindO_inv hr
      clear hr
      obtain ⟨v39, e39, hr⟩ := hq
      refine wo_step (v := v39) (s_pure (o_ixS rfl rfl e39)) ?_
      have hq := bindP_inv hr
      clear hr
      obtain ⟨vn, m_8, en, hr⟩ := hq
      refine wo_stepN (s_st rfl rfl en) ?_
      refine wo_nil ?_
      refine bk_norm ?_
      refine nx_norm ?_
      refine w_ops ?_
      have hq := forceI_inv hr
      clear hr
      obtain ⟨x40, e40, hr⟩ := hq
      refine wo_step (v := (.i .i64 x40)) (s_pure (p_bin g13 rfl (b_add.trans (ci e40)))) ?_
      refine wo_step (v := (.i .i64 x40)) (s_pure (p_mv rfl)) ?_
      refine wo_nil ?_
      cases hr
      exact ⟨_, _, rfl, rfl, rfl, gl rfl, gl g0, gl g1, gl g5, gl g12⟩
    · refine w_condF rfl ?_
      refine w_exit ?_
      refine nx_exit ?_
      cases hr
      exact ⟨_, _, rfl, ne_norm_exit, rfl, rfl, gl g5⟩
  · obtain ⟨m_9, ho⟩ : ∃ z, z = o := ⟨_, rfl⟩
    subst ho
    rintro _ mm t_2 ⟨rfl, rfl, g5⟩
    refine bk_hit ?_
    refine nx_norm ?_
    refine w_seq ?_
    refine w_ops ?_
    refine wo_step (v := v10) (s_pure (p_mv g5)) ?_
    have hq := bindO_inv hr
    clear hr
    obtain ⟨v42, e42, hr⟩ := hq
    have hq := asS_inv hr
    clear hr
    obtain ⟨s42, rfl, hr⟩ := hq
    refine wo_step (v := (.s s42)) (s_bts rfl e42) ?_
    refine wo_step (v := (.s s42)) (s_pure (p_mv rfl)) ?_
    refine wo_nil ?_
    refine nx_norm ?_
    refine w_ret ?_
    exact qf ret_ok (rt rfl rn) hr

/- dibber/dibberref02.becomes -/

def g49 (M : Means) (ro : List ABlk) (x0 : Int) (x1 : Int) (x2 : Int) (x3 : Int) (m0 : Mm) : Option (AVal × Heap × Nat × Nat) :=
  forceI (wr .i64 (4 * x1)) fun x11 =>
  forceI (wr .i64 (2 * x2)) fun x13 =>
  forceI (wr .i64 (x11 + x13)) fun x14 =>
  forceI (wr .i64 (x14 + x3)) fun x16 =>
  chk (!ltI x16 (.ofNat 0)) <|
  forceI (shrV .i64 x0 x16) fun x17 =>
  forceI (Int.tmod x17 2) fun x18 =>
  finM m0.h.length (tupA [(.i .i64 x18)]) m0

theorem g49_ok {ro : List ABlk} {O : Caller} {M : Means} (hM : M.Ok ⟨F, O⟩ ro) {x0 x1 x2 x3 h r} (ho : O 49 [(.i .i64 x0), (.i .i64 x1), (.i .i64 x2), (.i .i64 x3)] h = none) (hr : g49 M ro x0 x1 x2 x3 ⟨h, h.length, h.length⟩ = some r) : callX ⟨F, O⟩ ro 49 [(.i .i64 x0), (.i .i64 x1), (.i .i64 x2), (.i .i64 x3)] h = some r := by
  refine callX_of (F := ⟨F, O⟩) (fn := fn49) (g := g49 M ro x0 x1 x2 x3) ho rfl rfl hr ?_
  clear ho
  clear hr
  intro m0 t0 ht hr
  have g0 : t0.get 0 = (.i .i64 x0) := ht 0
  have g1 : t0.get 1 = (.i .i64 x1) := ht 1
  have g2 : t0.get 2 = (.i .i64 x2) := ht 2
  have g3 : t0.get 3 = (.i .i64 x3) := ht 3
  clear ht
  unfold g49 at hr
  refine w_seq ?_
  refine w_ops ?_
  refine wo_step (v := (.i .i64 0)) (s_pure (p_mv rfl)) ?_
  refine wo_nil ?_
  refine nx_norm ?_
  refine w_seq ?_
  refine w_ops ?_
  refine wo_step (v := (.i .i64 x0)) (s_pure (p_mv g0)) ?_
  refine wo_step (v := (.i .i64 x1)) (s_pure (p_mv g1)) ?_
  have hq := forceI_inv hr
  clear hr
  obtain ⟨x11, e11, hr⟩ := hq
  refine wo_step (v := (.i .i64 x11)) (s_pure (p_bin rfl rfl (b_mul.trans (ci e11)))) ?_
  refine wo_step (v := (.i .i64 x2)) (s_pure (p_mv g2)) ?_
  have hq := forceI_inv hr
  clear hr
  obtain ⟨x13, e13, hr⟩ := hq
  refine wo_step (v := (.i .i64 x13)) (s_pure (p_bin rfl rfl (b_mul.trans (ci e13)))) ?_
  have hq := forceI_inv hr
  clear hr
  obtain ⟨x14, e14, hr⟩ := hq
  refine wo_step (v := (.i .i64 x14)) (s_pure (p_bin rfl rfl (b_add.trans (ci e14)))) ?_
  refine wo_step (v := (.i .i64 x3)) (s_pure (p_mv g3)) ?_
  have hq := forceI_inv hr
  clear hr
  obtain ⟨x16, e16, hr⟩ := hq
  refine wo_step (v := (.i .i64 x16)) (s_pure (p_bin rfl rfl (b_add.trans (ci e16)))) ?_
  have hq := chk_inv hr
  clear hr
  obtain ⟨hc17, hr⟩ := hq
  have hq := forceI_inv hr
  clear hr
  obtain ⟨x17, e17, hr⟩ := hq
  refine wo_step (v := (.i .i64 x17)) (s_pure (p_bin rfl rfl ((b_shr hc17).trans (ci e17)))) ?_
  have hq := forceI_inv hr
  clear hr
  obtain ⟨x18, e18, hr⟩ := hq
  refine wo_step (v := (.i .i64 x18)) (s_pure (p_bin rfl rfl ((b_rem rfl).trans (ci e18)))) ?_
  refine wo_step (v := (.i .i64 x18)) (s_pure (p_mv rfl)) ?_
  refine wo_nil ?_
  refine nx_norm ?_
  refine w_ret ?_
  exact qf ret_ok (rt rfl rn) hr

/- dibber/dibberref02.row -/
abbrev g50_I0 (v0 : AVal) (v7 : AVal) (s : Int × Mm) (m1 : Mm) (t1 : Tr) : Prop :=
  match s with
  | (x4, m_2) => m_2 = m1 ∧ t1.get 4 = (.i .i64 x4) ∧ t1.get 0 = v0 ∧ t1.get 3 = v7
abbrev g50_J0 (v0 : AVal) (v7 : AVal) (o : Mm) (e : AExit) (m1 : Mm) (t1 : Tr) : Prop :=
  match o with
  | mo => e = (.exit 0) ∧ mo = m1 ∧ t1.get 3 = v7
abbrev g50_J1 (v0 : AVal) (v7 : AVal) (x4 : Int) (o : Mm) (e : AExit) (m1 : Mm) (t1 : Tr) : Prop :=
  match o with
  | mo => e = .norm ∧ mo = m1 ∧ t1.get 0 = v0 ∧ t1.get 3 = v7 ∧ t1.get 4 = (.i .i64 x4)
def g50_b0 (M : Means) (ro : List ABlk) (v0 : AVal) (v7 : AVal) (x4 : Int) (m_2 : Mm) : Option ((Int × Mm) ⊕ (Mm)) :=
  bindO (evP .e (.len false (.c v0))) fun v10 =>
  asI .i64 v10 fun x10 =>
  forceB (ltI x4 x10) fun c11 =>
  cond c11 (
    bindO (evP .e (.ixS 1 (.c v7) (.c (.i .i64 x4)))) fun v16 =>
    bindP (stepM ro m_2 (.st 1 (.c v16) (.c (.i .u8 48)))) fun vn m_3 =>
    bindO (evP .e (.ixS 1 (.c v0) (.c (.i .i64 x4)))) fun v19 =>
    bindO (ldM ro m_3 true 1 v19) fun v20 =>
    asI .i64 v20 fun x20 =>
    forceB (eqI x20 1) fun c21 =>
    bindO (α := Mm) (
      cond c21 (
        bindO (evP .e (.ixS 1 (.c v7) (.c (.i .i64 x4)))) fun v24 =>
        bindP (stepM ro m_3 (.st 1 (.c v24) (.c (.i .u8 49)))) fun vn_1 m_4 =>
        some m_4) (
        some m_3)) fun m_5 =>
    forceI (wr .i64 (x4 + 1)) fun x13 =>
    some (.inl (x13, m_5))) (
    some (.inr m_2))
def g50 (M : Means) (ro : List ABlk) (v0 : AVal) (m0 : Mm) : Option (AVal × Heap × Nat × Nat) :=
  bindO (evP .e (.len false (.c v0))) fun v6 =>
  asI .i64 v6 fun x6 =>
  bindP (stepM ro m0 (.mk 5 1 1 [(AVal.i IntKind.u8 0)] (.c (.i .i64 x6)) (.c (.i .i64 x6)))) fun v7 m_1 =>
  bindO (M.loop (S := Int × Mm) (R := Mm) (fun s => g50_b0 M ro v0 v7 s.1 s.2) (0, m_1)) fun m_6 =>
  bindO (btsM ro m_6 v7) fun v26 =>
  asS v26 fun s26 =>
  finM m0.h.length (tupA [(.s s26)]) m_6

theorem g50_ok {ro : List ABlk} {O : Caller} {M : Means} (hM : M.Ok ⟨F, O⟩ ro) {v0 h r} (ho : O 50 [v0] h = none) (hr : g50 M ro v0 ⟨h, h.length, h.length⟩ = some r) : callX ⟨F, O⟩ ro 50 [v0] h = some r := by
  refine callX_of (F := ⟨F, O⟩) (fn := fn50) (g := g50 M ro v0) ho rfl rfl hr ?_
  clear ho
  clear hr
  intro m0 t0 ht hr
  have g0 : t0.get 0 = v0 := ht 0
  clear ht
  unfold g50 at hr
  refine w_seq ?_
  refine w_ops ?_
  refine wo_step (v := (AVal.s [])) (s_pure (p_mv rfl)) ?_
  refine wo_nil ?_
  refine nx_norm ?_
  refine w_seq ?_
  refine w_ops ?_
  refine wo_step (v := v0) (s_pure (p_mv g0)) ?_
  have hq := bindO_inv hr
  clear hr
  obtain ⟨v6, e6, hr⟩ := hq
  have hq := asI_inv hr
  clear hr
  obtain ⟨x6, rfl, hr⟩ := hq
  refine wo_step (v := (.i .i64 x6)) (s_pure (o_len rfl e6)) ?_
  have hq := bindP_inv hr
  clear hr
  obtain ⟨v7, m_1, e7, hr⟩ := hq
  refine wo_step (v := v7) (s_mk rfl rfl e7) ?_
  refine wo_step (v := v7) (s_pure (p_mv rfl)) ?_
  refine wo_nil ?_
  refine nx_norm ?_
  refine w_seq ?_
  refine w_seq ?_
  refine w_ops ?_
  refine wo_step (v := (.i .i64 0)) (s_pure (p_mv rfl)) ?_
  refine wo_nil ?_
  refine nx_norm ?_
  refine w_block ?_
  have hq := bindO_inv hr
  clear hr
  obtain ⟨o_1, hl, hr⟩ := hq
  obtain ⟨n, hl⟩ := hM.loop _ _ _ hl
  refine jp_mono (w_loop _ (g50_I0 v0 v7) (g50_J0 v0 v7) ?_ n _ _ _ _ hl ⟨rfl, gl rfl, gl g0, gl rfl⟩) ?_
  · clear hr hl
    intro s mm_2 t_1 o hi hr
    obtain ⟨x4, m_2⟩ := s
    obtain ⟨rfl, g4, g0, g3⟩ := hi
    unfold g50_b0 at hr
    refine w_seq ?_
    refine w_seq ?_
    refine w_ops ?_
    refine wo_step (v := (.i .i64 x4)) (s_pure (p_mv g4)) ?_
    refine wo_step (v := v0) (s_pure (p_mv g0)) ?_
    have hq := bindO_inv hr
    clear hr
    obtain ⟨v10, e10, hr⟩ := hq
    have hq := asI_inv hr
    clear hr
    obtain ⟨x10, rfl, hr⟩ := hq
    refine wo_step (v := (.i .i64 x10)) (s_pure (o_len rfl e10)) ?_
    have hq := forceB_inv hr
    clear hr
    obtain ⟨c11, e11, hr⟩ := hq
    refine wo_step (v := (.b c11)) (s_pure (p_bin rfl rfl (b_lss.trans (cb e11)))) ?_
    refine wo_nil ?_
    refine nx_norm ?_
    have hq := cond_inv hr
    clear hr
    rcases hq with ⟨rfl, hr⟩ | ⟨rfl, hr⟩
    · refine w_condT rfl ?_
      refine w_skip ?_
      refine nx_norm ?_
      refine w_seq ?_
      refine w_block ?_
      refine w_seq ?_
      refine w_ops ?_
      refine wo_step (v := v7) (s_pure (p_mv g3)) ?_
      refine wo_step (v := (.i .i64 x4)) (s_pure (p_mv g4)) ?_
      have hq := bindO_inv hr
      clear hr
      obtain ⟨v16, e16, hr⟩ := hq
      refine wo_step (v := v16) (s_pure (o_ixS rfl rfl e16)) ?_
      have hq := bindP_inv hr
      clear hr
      obtain ⟨vn, m_3, en, hr⟩ := hq
      refine wo_stepN (s_st rfl rfl en) ?_
      refine wo_nil ?_
      refine nx_norm ?_
      refine w_seq ?_
      refine w_ops ?_
      refine wo_step (v := v0) (s_pure (p_mv g0)) ?_
      refine wo_step (v := (.i .i64 x4)) (s_pure (p_mv g4)) ?_
      have hq := bindO_inv hr
      clear hr
      obtain ⟨v19, e19, hr⟩ := hq
      refine wo_step (v := v19) (s_pure (o_ixS rfl rfl e19)) ?_
      have hq := bindO_inv hr
      clear hr
      obtain ⟨v20, e20, hr⟩ := hq
      have hq := asI_inv hr
      clear hr
      obtain ⟨x20, rfl, hr⟩ := hq
      refine wo_step (v := (.i .i64 x20)) (s_ld rfl e20) ?_
      have hq := forceB_inv hr
      clear hr
      obtain ⟨c21, e21, hr⟩ := hq
      refine wo_step (v := (.b c21)) (s_pure (p_bin rfl rfl (b_eql.trans (cb e21)))) ?_
      refine wo_nil ?_
      refine nx_norm ?_
      have hq := bindO_inv hr
      clear hr
      obtain ⟨o, hr, hk⟩ := hq
      refine jp_mono (J := g50_J1 v0 v7 x4 o) ?_ ?_
      · clear hk
        have hq := cond_inv hr
        clear hr
        rcases hq with ⟨rfl, hr⟩ | ⟨rfl, hr⟩
        · refine w_condT rfl ?_
          refine w_ops ?_
          refine wo_step (v := v7) (s_pure (p_mv g3)) ?_
          refine wo_step (v := (.i .i64 x4)) (s_pure (p_mv g4)) ?_
          have hq := bindO_inv hr
          clear hr
          obtain ⟨v24, e24, hr⟩ := hq
          refine wo_step (v := v24) (s_pure (o_ixS rfl rfl e24)) ?_
          have hq := bindP_inv hr
          clear hr
          obtain ⟨vn_1, m_4, en_1, hr⟩ := hq
          refine wo_stepN (s_st rfl rfl en_1) ?_
          refine wo_nil ?_
          cases hr
          exact ⟨_, _, rfl, rfl, rfl, gl g0, gl g3, gl g4⟩
        · refine w_condF rfl ?_
          refine w_skip ?_
          cases hr
          exact ⟨_, _, rfl, rfl, rfl, gl g0, gl g3, gl g4⟩
      · have hr := hk
        clear hk
        obtain ⟨m_5, ho⟩ : ∃ z, z = o := ⟨_, rfl⟩
        subst ho
        rintro _ mm t_2 ⟨rfl, rfl, g0, g3, g4⟩
        refine bk_norm ?_
        refine nx_norm ?_
        refine w_ops ?_
        refine wo_step (v := (.i .i64 x4)) (s_pure (p_mv g4)) ?_
        have hq := forceI_inv hr
        clear hr
        obtain ⟨x13, e13, hr⟩ := hq
        refine wo_step (v := (.i .i64 x13)) (s_pure (p_bin rfl rfl (b_add.trans (ci e13)))) ?_
        refine wo_step (v := (.i .i64 x13)) (s_pure (p_mv rfl)) ?_
        refine wo_nil ?_
        cases hr
        exact ⟨_, _, rfl, rfl, rfl, gl rfl, gl g0, gl g3⟩
    · refine w_condF rfl ?_
      refine w_exit ?_
      refine nx_exit ?_
      cases hr
      exact ⟨_, _, rfl, ne_norm_exit, rfl, rfl, gl g3⟩
  · obtain ⟨m_6, ho⟩ : ∃ z, z = o_1 := ⟨_, rfl⟩
    subst ho
    rintro _ mm_1 t_3 ⟨rfl, rfl, g3⟩
    refine bk_hit ?_
    refine nx_norm ?_
    refine w_seq ?_
    refine w_ops ?_
    refine wo_step (v := v7) (s_pure (p_mv g3)) ?_
    have hq := bindO_inv hr
    clear hr
    obtain ⟨v26, e26, hr⟩ := hq
    have hq := asS_inv hr
    clear hr
    obtain ⟨s26, rfl, hr⟩ := hq
    refine wo_step (v := (.s s26)) (s_bts rfl e26) ?_
    refine wo_step (v := (.s s26)) (s_pure (p_mv rfl)) ?_
    refine wo_nil ?_
    refine nx_norm ?_
    refine w_ret ?_
    exact qf ret_ok (rt rfl rn) hr

/- (dibber/weed.rule).ring -/

def g51 (M : Means) (ro : List ABlk) (x0 : Int) (s1 : List UInt8) (m0 : Mm) : Option (AVal × Heap × Nat × Nat) :=
  bindO (evP .e (.len true (.c (.s s1)))) fun v8 =>
  asI .i64 v8 fun x8 =>
  forceI (wr .i64 (x8 - 1)) fun x9 =>
  bindO (evP .e (.slStr (.c (.s s1)) (some (.c (.i .i64 x9))) none)) fun v10 =>
  asS v10 fun s10 =>
  bindO (evP .e (.sbin BinOp.add (.c (.s s10)) (.c (.s s1)))) fun v12 =>
  asS v12 fun s12 =>
  bindO (evP .e (.slStr (.c (.s s1)) none (some (.c (.i .i64 1))))) fun v14 =>
  asS v14 fun s14 =>
  bindO (evP .e (.sbin BinOp.add (.c (.s s12)) (.c (.s s14)))) fun v15 =>
  asS v15 fun s15 =>
  bindP (callM M.call m0 46 [(.i .u8 x0), (.s s15)]) fun v16 m_1 =>
  asS v16 fun s16 =>
  finM m0.h.length (tupA [(.s s16)]) m_1

theorem g51_ok {ro : List ABlk} {O : Caller} {M : Means} (hM : M.Ok ⟨F, O⟩ ro) {x0 s1 h r} (ho : O 51 [(.i .u8 x0), (.s s1)] h = none) (hr : g51 M ro x0 s1 ⟨h, h.length, h.length⟩ = some r) : callX ⟨F, O⟩ ro 51 [(.i .u8 x0), (.s s1)] h = some r := by
  refine callX_of (F := ⟨F, O⟩) (fn := fn51) (g := g51 M ro x0 s1) ho rfl rfl hr ?_
  clear ho
  clear hr
  intro m0 t0 ht hr
  have g0 : t0.get 0 = (.i .u8 x0) := ht 0
  have g1 : t0.get 1 = (.s s1) := ht 1
  clear ht
  unfold g51 at hr
  refine w_seq ?_
  refine w_ops ?_
  refine wo_step (v := (AVal.s [])) (s_pure (p_mv rfl)) ?_
  refine wo_nil ?_
  refine nx_norm ?_
  refine w_seq ?_
  refine w_ops ?_
  refine wo_step (v := (.i .u8 x0)) (s_pure (p_mv g0)) ?_
  refine wo_step (v := (.s s1)) (s_pure (p_mv g1)) ?_
  refine wo_step (v := (.s s1)) (s_pure (p_mv g1)) ?_
  have hq := bindO_inv hr
  clear hr
  obtain ⟨v8, e8, hr⟩ := hq
  have hq := asI_inv hr
  clear hr
  obtain ⟨x8, rfl, hr⟩ := hq
  refine wo_step (v := (.i .i64 x8)) (s_pure (o_len rfl e8)) ?_
  have hq := forceI_inv hr
  clear hr
  obtain ⟨x9, e9, hr⟩ := hq
  refine wo_step (v := (.i .i64 x9)) (s_pure (p_bin rfl rfl (b_sub.trans (ci e9)))) ?_
  have hq := bindO_inv hr
  clear hr
  obtain ⟨v10, e10, hr⟩ := hq
  have hq := asS_inv hr
  clear hr
  obtain ⟨s10, rfl, hr⟩ := hq
  refine wo_step (v := (.s s10)) (s_pure (o_slStr rfl (os rfl) on e10)) ?_
  refine wo_step (v := (.s s1)) (s_pure (p_mv g1)) ?_
  have hq := bindO_inv hr
  clear hr
  obtain ⟨v12, e12, hr⟩ := hq
  have hq := asS_inv hr
  clear hr
  obtain ⟨s12, rfl, hr⟩ := hq
  refine wo_step (v := (.s s12)) (s_pure (o_sbin rfl rfl e12)) ?_
  refine wo_step (v := (.s s1)) (s_pure (p_mv g1)) ?_
  have hq := bindO_inv hr
  clear hr
  obtain ⟨v14, e14, hr⟩ := hq
  have hq := asS_inv hr
  clear hr
  obtain ⟨s14, rfl, hr⟩ := hq
  refine wo_step (v := (.s s14)) (s_pure (o_slStr rfl on (os rfl) e14)) ?_
  have hq := bindO_inv hr
  clear hr
  obtain ⟨v15, e15, hr⟩ := hq
  have hq := asS_inv hr
  clear hr
  obtain ⟨s15, rfl, hr⟩ := hq
  refine wo_step (v := (.s s15)) (s_pure (o_sbin rfl rfl e15)) ?_
  have hq := bindP_inv hr
  clear hr
  obtain ⟨v16, m_1, e16, hr⟩ := hq
  have hq := asS_inv hr
  clear hr
  obtain ⟨s16, rfl, hr⟩ := hq
  refine wo_step (v := (.s s16)) (s_call (mc rfl (mc rfl mn)) (callM_le hM.call e16)) ?_
  refine wo_step (v := (.s s16)) (s_pure (p_mv rfl)) ?_
  refine wo_nil ?_
  refine nx_norm ?_
  refine w_ret ?_
  exact qf ret_ok (rt rfl rn) hr

/- dibber/dibberref02.ring -/
abbrev g52_I0 (x0 : Int) (v1 : AVal) (x9 : Int) (s : AVal × Int × Mm) (m1 : Mm) (t1 : Tr) : Prop :=
  match s with
  | (v6, x7, m_1) => m_1 = m1 ∧ t1.get 6 = v6 ∧ t1.get 7 = (.i .i64 x7) ∧ t1.get 0 = (.i .i64 x0) ∧ t1.get 1 = v1 ∧ t1.get 5 = (.i .i64 x9)
abbrev g52_J0 (x0 : Int) (v1 : AVal) (x9 : Int) (o : (AVal × Mm)) (e : AExit) (m1 : Mm) (t1 : Tr) : Prop :=
  match o with
  | (y6, mo) => e = (.exit 0) ∧ mo = m1 ∧ t1.get 6 = y6
def g52_b0 (M : Means) (ro : List ABlk) (x0 : Int) (v1 : AVal) (x9 : Int) (v6 : AVal) (x7 : Int) (m_1 : Mm) : Option ((AVal × Int × Mm) ⊕ ((AVal × Mm))) :=
  forceB (ltI x7 x9) fun c12 =>
  cond c12 (
    forceI (wr .i64 (x7 + x9)) fun x20 =>
    forceI (wr .i64 (x20 - 1)) fun x21 =>
    chk (!eqI x9 (.ofNat 0)) <|
    forceI (Int.tmod x21 x9) fun x23 =>
    bindO (evP .e (.ixS 1 (.c v1) (.c (.i .i64 x23)))) fun v24 =>
    bindO (evP .e (.ixS 1 (.c v1) (.c (.i .i64 x7)))) fun v28 =>
    forceI (wr .i64 (x7 + 1)) fun x32 =>
    chk (!eqI x9 (.ofNat 0)) <|
    forceI (Int.tmod x32 x9) fun x34 =>
    bindO (evP .e (.ixS 1 (.c v1) (.c (.i .i64 x34)))) fun v35 =>
    bindO (ldA ro m_1.h true 1 v24) fun v25 =>
    asI .i64 v25 fun x25 =>
    bindO (ldA ro m_1.h true 1 v28) fun v29 =>
    asI .i64 v29 fun x29 =>
    bindO (ldA ro m_1.h true 1 v35) fun v36 =>
    asI .i64 v36 fun x36 =>
    bindP (callM M.call m_1 49 [(.i .i64 x0), (.i .i64 x25), (.i .i64 x29), (.i .i64 x36)]) fun v37 m_2 =>
    asI .i64 v37 fun x37 =>
    bindP (stepM ro m_2 (.bsl 3 1 [(AVal.i IntKind.i64 0)] 1 [((0, 1), .c (.i .i64 x37))])) fun v38 m_3 =>
    bindP (stepM ro m_3 (.app 3 1 8 [(AVal.i IntKind.i64 0)] (.c v6) (.c v38))) fun v39 m_4 =>
    forceI (wr .i64 (x7 + 1)) fun x14 =>
    some (.inl (v39, x14, m_4))) (
    some (.inr (v6, m_1)))
def g52 (M : Means) (ro : List ABlk) (x0 : Int) (v1 : AVal) (m0 : Mm) : Option (AVal × Heap × Nat × Nat) :=
  bindO (evP .e (.len false (.c v1))) fun v9 =>
  asI .i64 v9 fun x9 =>
  bindO (M.loop (S := AVal × Int × Mm) (R := (AVal × Mm)) (fun s => g52_b0 M ro x0 v1 x9 s.1 s.2.1 s.2.2) (AVal.nsl, 0, m0)) fun ⟨v6_1, m_5⟩ =>
  finM m0.h.length (tupA [v6_1]) m_5

theorem g52_ok {ro : List ABlk} {O : Caller} {M : Means} (hM : M.Ok ⟨F, O⟩ ro) {x0 v1 h r} (ho : O 52 [(.i .i64 x0), v1] h = none) (hr : g52 M ro x0 v1 ⟨h, h.length, h.length⟩ = some r) : callX ⟨F, O⟩ ro 52 [(.i .i64 x0), v1] h = some r := by
  refine callX_of (F := ⟨F, O⟩) (fn := fn52) (g := g52 M ro x0 v1) ho rfl rfl hr ?_
  clear ho
  clear hr
  intro m0 t0 ht hr
  have g0 : t0.get 0 = (.i .i64 x0) := ht 0
  have g1 : t0.get 1 = v1 := ht 1
  clear ht
  unfold g52 at hr
  refine w_seq ?_
  refine w_ops ?_
  refine wo_step (v := AVal.nsl) (s_pure (p_mv rfl)) ?_
  refine wo_nil ?_
  refine nx_norm ?_
  refine w_seq ?_
  refine w_ops ?_
  refine wo_step (v := v1) (s_pure (p_mv g1)) ?_
  have hq := bindO_inv hr
  clear hr
  obtain ⟨v9, e9, hr⟩ := hq
  have hq := asI_inv hr
  clear hr
  obtain ⟨x9, rfl, hr⟩ := hq
  refine wo_step (v := (.i .i64 x9)) (s_pure (o_len rfl e9)) ?_
  refine wo_step (v := (.i .i64 x9)) (s_pure (p_mv rfl)) ?_
  refine wo_nil ?_
  refine nx_norm ?_
  refine w_seq ?_
  refine w_ops ?_
  refine wo_step (v := AVal.nsl) (s_pure (p_mv rfl)) ?_
  refine wo_nil ?_
  refine nx_norm ?_
  refine w_seq ?_
  refine w_seq ?_
  refine w_ops ?_
  refine wo_step (v := (.i .i64 0)) (s_pure (p_mv rfl)) ?_
  refine wo_nil ?_
  refine nx_norm ?_
  refine w_block ?_
  have hq := bindO_inv hr
  clear hr
  obtain ⟨o, hl, hr⟩ := hq
  obtain ⟨n, hl⟩ := hM.loop _ _ _ hl
  refine jp_mono (w_loop _ (g52_I0 x0 v1 x9) (g52_J0 x0 v1 x9) ?_ n _ _ _ _ hl ⟨rfl, gl rfl, gl rfl, gl g0, gl g1, gl rfl⟩) ?_
  · clear hr hl
    intro s mm_1 t_1 o hi hr
    obtain ⟨v6, x7, m_1⟩ := s
    obtain ⟨rfl, g6, g7, g0, g1, g5⟩ := hi
    unfold g52_b0 at hr
    refine w_seq ?_
    refine w_seq ?_
    refine w_ops ?_
    refine wo_step (v := (.i .i64 x7)) (s_pure (p_mv g7)) ?_
    refine wo_step (v := (.i .i64 x9)) (s_pure (p_mv g5)) ?_
    have hq := forceB_inv hr
    clear hr
    obtain ⟨c12, e12, hr⟩ := hq
    refine wo_step (v := (.b c12)) (s_pure (p_bin rfl rfl (b_lss.trans (cb e12)))) ?_
    refine wo_nil ?_
    refine nx_norm ?_
    have hq := cond_inv hr
    clear hr
    rcases hq with ⟨rfl, hr⟩ | ⟨rfl, hr⟩
    · refine w_condT rfl ?_
      refine w_skip ?_
      refine nx_norm ?_
      refine w_seq ?_
      refine w_block ?_
      refine w_seq ?_
      refine w_ops ?_
      refine wo_step (v := v6) (s_pure (p_mv g6)) ?_
      refine wo_step (v := (.i .i64 x0)) (s_pure (p_mv g0)) ?_
      refine wo_step (v := v1) (s_pure (p_mv g1)) ?_
      refine wo_step (v := (.i .i64 x7)) (s_pure (p_mv g7)) ?_
      refine wo_step (v := (.i .i64 x9)) (s_pure (p_mv g5)) ?_
      have hq := forceI_inv hr
      clear hr
      obtain ⟨x20, e20, hr⟩ := hq
      refine wo_step (v := (.i .i64 x20)) (s_pure (p_bin rfl rfl (b_add.trans (ci e20)))) ?_
      have hq := forceI_inv hr
      clear hr
      obtain ⟨x21, e21, hr⟩ := hq
      refine wo_step (v := (.i .i64 x21)) (s_pure (p_bin rfl rfl (b_sub.trans (ci e21)))) ?_
      refine wo_step (v := (.i .i64 x9)) (s_pure (p_mv g5)) ?_
      have hq := chk_inv hr
      clear hr
      obtain ⟨hc23, hr⟩ := hq
      have hq := forceI_inv hr
      clear hr
      obtain ⟨x23, e23, hr⟩ := hq
      refine wo_step (v := (.i .i64 x23)) (s_pure (p_bin rfl rfl ((b_rem hc23).trans (ci e23)))) ?_
      have hq := bindO_inv hr
      clear hr
      obtain ⟨v24, e24, hr⟩ := hq
      refine wo_step (v := v24) (s_pure (o_ixS rfl rfl e24)) ?_
      refine wo_step (v := v1) (s_pure (p_mv g1)) ?_
      refine wo_step (v := (.i .i64 x7)) (s_pure (p_mv g7)) ?_
      have hq := bindO_inv hr
      clear hr
      obtain ⟨v28, e28, hr⟩ := hq
      refine wo_step (v := v28) (s_pure (o_ixS rfl rfl e28)) ?_
      refine wo_step (v := v1) (s_pure (p_mv g1)) ?_
      refine wo_step (v := (.i .i64 x7)) (s_pure (p_mv g7)) ?_
      have hq := forceI_inv hr
      clear hr
      obtain ⟨x32, e32, hr⟩ := hq
      refine wo_step (v := (.i .i64 x32)) (s_pure (p_bin rfl rfl (b_add.trans (ci e32)))) ?_
      refine wo_step (v := (.i .i64 x9)) (s_pure (p_mv g5)) ?_
      have hq := chk_inv hr
      clear hr
      obtain ⟨hc34, hr⟩ := hq
      have hq := forceI_inv hr
      clear hr
      obtain ⟨x34, e34, hr⟩ := hq
      refine wo_step (v := (.i .i64 x34)) (s_pure (p_bin rfl rfl ((b_rem hc34).trans (ci e34)))) ?_
      have hq := bindO_inv hr
      clear hr
      obtain ⟨v35, e35, hr⟩ := hq
      refine wo_step (v := v35) (s_pure (o_ixS rfl rfl e35)) ?_
      refine wo_nil ?_
      refine nx_norm ?_
      refine w_seq ?_
      refine w_any ?_
      have hq := bindO_inv hr
      clear hr
      obtain ⟨v25, e25, hr⟩ := hq
      have hq := asI_inv hr
      clear hr
      obtain ⟨x25, rfl, hr⟩ := hq
      refine wa_step (v := (.i .i64 x25)) (a_ld rfl e25) ?_
      have hq := bindO_inv hr
      clear hr
      obtain ⟨v29, e29, hr⟩ := hq
      have hq := asI_inv hr
      clear hr
      obtain ⟨x29, rfl, hr⟩ := hq
      refine wa_step (v := (.i .i64 x29)) (a_ld rfl e29) ?_
      have hq := bindO_inv hr
      clear hr
      obtain ⟨v36, e36, hr⟩ := hq
      have hq := asI_inv hr
      clear hr
      obtain ⟨x36, rfl, hr⟩ := hq
      refine wa_step (v := (.i .i64 x36)) (a_ld rfl e36) ?_
      refine wa_nil ?_
      refine ⟨m_1, rfl, ?_⟩
      refine nx_norm ?_
      refine w_ops ?_
      have hq := bindP_inv hr
      clear hr
      obtain ⟨v37, m_2, e37, hr⟩ := hq
      have hq := asI_inv hr
      clear hr
      obtain ⟨x37, rfl, hr⟩ := hq
      refine wo_step (v := (.i .i64 x37)) (s_call (mc rfl (mc rfl (mc rfl (mc rfl mn)))) (callM_le hM.call e37)) ?_
      have hq := bindP_inv hr
      clear hr
      obtain ⟨v38, m_3, e38, hr⟩ := hq
      refine wo_step (v := v38) (s_bsl (qc rfl qn) e38) ?_
      have hq := bindP_inv hr
      clear hr
      obtain ⟨v39, m_4, e39, hr⟩ := hq
      refine wo_step (v := v39) (s_app rfl rfl e39) ?_
      refine wo_step (v := v39) (s_pure (p_mv rfl)) ?_
      refine wo_nil ?_
      refine bk_norm ?_
      refine nx_norm ?_
      refine w_ops ?_
      refine wo_step (v := (.i .i64 x7)) (s_pure (p_mv g7)) ?_
      have hq := forceI_inv hr
      clear hr
      obtain ⟨x14, e14, hr⟩ := hq
      refine wo_step (v := (.i .i64 x14)) (s_pure (p_bin rfl rfl (b_add.trans (ci e14)))) ?_
      refine wo_step (v := (.i .i64 x14)) (s_pure (p_mv rfl)) ?_
      refine wo_nil ?_
      cases hr
      exact ⟨_, _, rfl, rfl, rfl, gl rfl, gl rfl, gl g0, gl g1, gl g5⟩
    · refine w_condF rfl ?_
      refine w_exit ?_
      refine nx_exit ?_
      cases hr
      exact ⟨_, _, rfl, ne_norm_exit, rfl, rfl, gl g6⟩
  · obtain ⟨v6_1, m_5⟩ := o
    rintro _ mm t_2 ⟨rfl, rfl, g6⟩
    refine bk_hit ?_
    refine nx_norm ?_
    refine w_seq ?_
    refine w_ops ?_
    refine wo_step (v := v6_1) (s_pure (p_mv g6)) ?_
    refine wo_step (v := v6_1) (s_pure (p_mv rfl)) ?_
    refine wo_nil ?_
    refine nx_norm ?_
    refine w_ret ?_
    exact qf ret_ok (rt rfl rn) hr

/- (dibber/weed.rule).back -/
abbrev g53_I0 (x0 : Int) (s1 : List UInt8) (v15 : AVal) (s : Int × Mm) (m1 : Mm) (t1 : Tr) : Prop :=
  match s with
  | (x7, m_3) => m_3 = m1 ∧ t1.get 7 = (.i .i64 x7) ∧ t1.get 0 = (.i .u8 x0) ∧ t1.get 1 = (.s s1) ∧ t1.get 6 = v15
abbrev g53_J0 (x0 : Int) (s1 : List UInt8) (v15 : AVal) (o : Mm) (e : AExit) (m1 : Mm) (t1 : Tr) : Prop :=
  match o with
  | mo => e = (.exit 0) ∧ mo = m1 ∧ t1.get 0 = (.i .u8 x0) ∧ t1.get 1 = (.s s1) ∧ t1.get 6 = v15
def g53_b0 (M : Means) (ro : List ABlk) (x0 : Int) (s1 : List UInt8) (v15 : AVal) (x7 : Int) (m_3 : Mm) : Option ((Int × Mm) ⊕ (Mm)) :=
  forceB (!ltI x7 0) fun c24 =>
  cond c24 (
    forceI (wr .i64 (x7 + 1)) fun x32 =>
    bindO (evP .e (.ixS 1 (.c v15) (.c (.i .i64 x32)))) fun v33 =>
    bindO (ldA ro m_3.h true 1 v33) fun v34 =>
    asI .u8 v34 fun x34 =>
    bindO (evP .e (.ixStr (.c (.s s1)) (.c (.i .i64 x7)))) fun v37 =>
    asI .u8 v37 fun x37 =>
    bindO (callN M.call m_3.h 73 [(.i .u8 x37)]) fun v38 =>
    asI .i64 v38 fun x38 =>
    bindO (callN M.call m_3.h 74 [(.i .u8 x0), (.i .u8 x34), (.i .i64 x38)]) fun v39 =>
    asI .u8 v39 fun x39 =>
    bindO (evP .e (.ixS 1 (.c v15) (.c (.i .i64 x7)))) fun v40 =>
    asP v40 fun qs =>
    bindO (writesM ro [] [(qs, AVal.cells (.i .u8 x39))] ⟨m_3.h, m_3.lw, m_3.lp⟩) fun m_4 =>
    forceI (wr .i64 (x7 - 1)) fun x26 =>
    some (.inl (x26, m_4))) (
    some (.inr m_3))
abbrev g53_I1 (x0 : Int) (s1 : List UInt8) (v15 : AVal) (x57 : Int) (s : Int × AVal × Int × Mm) (m1 : Mm) (t1 : Tr) : Prop :=
  match s with
  | (x8, v9, x58, m_10) => m_10 = m1 ∧ t1.get 8 = (.i .i64 x8) ∧ t1.get 9 = v9 ∧ t1.get 58 = (.i .i64 x58) ∧ t1.get 0 = (.i .u8 x0) ∧ t1.get 1 = (.s s1) ∧ t1.get 6 = v15 ∧ t1.get 57 = (.i .i64 x57)
abbrev g53_J1 (x0 : Int) (s1 : List UInt8) (v15 : AVal) (x57 : Int) (o : (AVal × Mm)) (e : AExit) (m1 : Mm) (t1 : Tr) : Prop :=
  match o with
  | (y9, mo) => e = (.exit 2) ∧ mo = m1 ∧ t1.get 9 = y9
abbrev g53_J2 (x0 : Int) (s1 : List UInt8) (v15 : AVal) (v9 : AVal) (x62 : Int) (x57 : Int) (x58 : Int) (o : Bool × Mm) (m1 : Mm) (t1 : Tr) : Prop :=
  match o with
  | (c81, m_13) => m_13 = m1 ∧ t1.get 81 = (.b c81) ∧ t1.get 0 = (.i .u8 x0) ∧ t1.get 1 = (.s s1) ∧ t1.get 6 = v15 ∧ t1.get 9 = v9 ∧ t1.get 11 = (.i .i64 x62) ∧ t1.get 57 = (.i .i64 x57) ∧ t1.get 58 = (.i .i64 x58)
abbrev g53_J3 (x0 : Int) (s1 : List UInt8) (v15 : AVal) (v9 : AVal) (x57 : Int) (x58 : Int) (m_13 : Mm) (o : Int) (e : AExit) (m1 : Mm) (t1 : Tr) : Prop :=
  match o with
  | y11 => e = .norm ∧ m_13 = m1 ∧ t1.get 11 = (.i .i64 y11) ∧ t1.get 0 = (.i .u8 x0) ∧ t1.get 1 = (.s s1) ∧ t1.get 6 = v15 ∧ t1.get 9 = v9 ∧ t1.get 57 = (.i .i64 x57) ∧ t1.get 58 = (.i .i64 x58)
def g53_b1 (M : Means) (ro : List ABlk) (x0 : Int) (s1 : List UInt8) (v15 : AVal) (x57 : Int) (x8 : Int) (v9 : AVal) (x58 : Int) (m_10 : Mm) : Option ((Int × AVal × Int × Mm) ⊕ ((AVal × Mm))) :=
  forceB (ltI x58 x57) fun c59 =>
  cond c59 (
    forceI (wr .i64 (2 * x8)) fun x62 =>
    bindO (evP .e (.ixStr (.c (.s s1)) (.c (.i .i64 x58)))) fun v68 =>
    asI .u8 v68 fun x68 =>
    bindP (callM M.call m_10 72 [(.i .u8 x0), (.i .i64 x62)]) fun v65 m_11 =>
    asI .i64 v65 fun x65 =>
    bindP (callM M.call m_11 73 [(.i .u8 x68)]) fun v69 m_12 =>
    asI .i64 v69 fun x69 =>
    forceB (!eqI x65 x69) fun c70 =>
    bindO (cond c70 (
      some (true, m_12)) (
      forceI (wr .i64 (x58 + 1)) fun x74 =>
      bindO (evP .e (.ixS 1 (.c v15) (.c (.i .i64 x74)))) fun v75 =>
      forceI (bitV .and .i64 x62 3) fun x78 =>
      bindO (ldM ro m_12 true 1 v75) fun v76 =>
      asI .u8 v76 fun x76 =>
      bindP (callM M.call m_12 76 [(.i .u8 x76), (.i .i64 x78)]) fun v79 m_14 =>
      asB v79 fun c79 =>
      forceB (!c79) fun c80 =>
      some (c80, m_14))) fun ⟨c81, m_13⟩ =>
    bindO (α := Int) (
      cond c81 (
        forceI (wr .i64 (x62 + 1)) fun x83 =>
        some x83) (
        some x62)) fun x11 =>
    forceI (bitV .and .i64 x11 3) fun x85 =>
    forceI (bitV .and .i64 x11 1) fun x88 =>
    bindP (callM M.call m_13 71 [(.i .i64 x88)]) fun v89 m_15 =>
    asI .u8 v89 fun x89 =>
    bindP (stepM ro m_15 (.bsl 5 1 [(AVal.i IntKind.u8 0)] 1 [((0, 1), .c (.i .u8 x89))])) fun v90 m_16 =>
    bindP (stepM ro m_16 (.app 5 1 1 [(AVal.i IntKind.u8 0)] (.c v9) (.c v90))) fun v91 m_17 =>
    forceI (wr .i64 (x58 + 1)) fun x92 =>
    some (.inl (x85, v91, x92, m_17))) (
    some (.inr (v9, m_10)))
def g53 (M : Means) (ro : List ABlk) (x0 : Int) (s1 : List UInt8) (m0 : Mm) : Option (AVal × Heap × Nat × Nat) :=
  bindO (evP .e (.len true (.c (.s s1)))) fun v13 =>
  asI .i64 v13 fun x13 =>
  forceI (wr .i64 (x13 + 1)) fun x14 =>
  bindP (stepM ro m0 (.mk 82 1 1 [(AVal.i IntKind.u8 0)] (.c (.i .i64 x14)) (.c (.i .i64 x14)))) fun v15 m_1 =>
  bindO (evP .e (.len true (.c (.s s1)))) fun v18 =>
  asI .i64 v18 fun x18 =>
  bindO (evP .e (.ixS 1 (.c v15) (.c (.i .i64 x18)))) fun v19 =>
  bindP (stepM ro m_1 (.st 1 (.c v19) (.c (.i .u8 15)))) fun vn m_2 =>
  bindO (evP .e (.len true (.c (.s s1)))) fun v21 =>
  asI .i64 v21 fun x21 =>
  forceI (wr .i64 (x21 - 1)) fun x22 =>
  bindO (M.loop (S := Int × Mm) (R := Mm) (fun s => g53_b0 M ro x0 s1 v15 s.1 s.2) (x22, m_2)) fun m_5 =>
  bindO (evP .e (.ixS 1 (.c v15) (.c (.i .i64 0)))) fun v42 =>
  bindO (ldM ro m_5 true 1 v42) fun v43 =>
  asI .u8 v43 fun x43 =>
  forceB (eqI x43 0) fun c44 =>
  cond c44 (
    finM m0.h.length (tupA [(AVal.s []), (.b false)]) m_5) (
    bindO (evP .e (.ixS 1 (.c v15) (.c (.i .i64 0)))) fun v46 =>
    bindO (ldM ro m_5 true 1 v46) fun v47 =>
    asI .u8 v47 fun x47 =>
    bindP (callM M.call m_5 75 [(.i .u8 x47)]) fun v48 m_6 =>
    asI .i64 v48 fun x48 =>
    forceI (shrV .i64 x48 1) fun x50 =>
    bindP (callM M.call m_6 71 [(.i .i64 x50)]) fun v51 m_7 =>
    asI .u8 v51 fun x51 =>
    forceI (bitV .and .i64 x48 1) fun x53 =>
    bindP (callM M.call m_7 71 [(.i .i64 x53)]) fun v54 m_8 =>
    asI .u8 v54 fun x54 =>
    bindP (stepM ro m_8 (.bsl 5 1 [(AVal.i IntKind.u8 0)] 2 [((0, 1), .c (.i .u8 x51)), ((1, 1), .c (.i .u8 x54))])) fun v55 m_9 =>
    bindO (evP .e (.len true (.c (.s s1)))) fun v57 =>
    asI .i64 v57 fun x57 =>
    bindO (M.loop (S := Int × AVal × Int × Mm) (R := (AVal × Mm)) (fun s => g53_b1 M ro x0 s1 v15 x57 s.1 s.2.1 s.2.2.1 s.2.2.2) (x48, v55, 0, m_9)) fun ⟨v9_1, m_18⟩ =>
    bindO (btsM ro m_18 v9_1) fun v94 =>
    asS v94 fun s94 =>
    finM m0.h.length (tupA [(.s s94), (.b true)]) m_18)

theorem g53_ok {ro : List ABlk} {O : Caller} {M : Means} (hM : M.Ok ⟨F, O⟩ ro) {x0 s1 h r} (ho : O 53 [(.i .u8 x0), (.s s1)] h = none) (hr : g53 M ro x0 s1 ⟨h, h.length, h.length⟩ = some r) : callX ⟨F, O⟩ ro 53 [(.i .u8 x0), (.s s1)] h = some r := by
  refine callX_of (F := ⟨F, O⟩) (fn := fn53) (g := g53 M ro x0 s1) ho rfl rfl hr ?_
  clear ho
  clear hr
  intro m0 t0 ht hr
  have g0 : t0.get 0 = (.i .u8 x0) := ht 0
  have g1 : t0.get 1 = (.s s1) := ht 1
  clear ht
  unfold g53 at hr
  refine w_seq ?_
  refine w_ops ?_
  refine wo_step (v := (AVal.s [])) (s_pure (p_mv rfl)) ?_
  refine wo_step (v := (.b false)) (s_pure (p_mv rfl)) ?_
  refine wo_nil ?_
  refine nx_norm ?_
  refine w_seq ?_
  refine w_ops ?_
  refine wo_step (v := (.s s1)) (s_pure (p_mv g1)) ?_
  have hq := bindO_inv hr
  clear hr
  obtain ⟨v13, e13, hr⟩ := hq
  have hq := asI_inv hr
  clear hr
  obtain ⟨x13, rfl, hr⟩ := hq
  refine wo_step (v := (.i .i64 x13)) (s_pure (o_len rfl e13)) ?_
  have hq := forceI_inv hr
  clear hr
  obtain ⟨x14, e14, hr⟩ := hq
  refine wo_step (v := (.i .i64 x14)) (s_pure (p_bin rfl rfl (b_add.trans (ci e14)))) ?_
  have hq := bindP_inv hr
  clear hr
  obtain ⟨v15, m_1, e15, hr⟩ := hq
  refine wo_step (v := v15) (s_mk rfl rfl e15) ?_
  refine wo_step (v := v15) (s_pure (p_mv rfl)) ?_
  refine wo_nil ?_
  refine nx_norm ?_
  refine w_seq ?_
  refine w_ops ?_
  refine wo_step (v := v15) (s_pure (p_mv rfl)) ?_
  refine wo_step (v := (.s s1)) (s_pure (p_mv g1)) ?_
  have hq := bindO_inv hr
  clear hr
  obtain ⟨v18, e18, hr⟩ := hq
  have hq := asI_inv hr
  clear hr
  obtain ⟨x18, rfl, hr⟩ := hq
  refine wo_step (v := (.i .i64 x18)) (s_pure (o_len rfl e18)) ?_
  have hq := bindO_inv hr
  clear hr
  obtain ⟨v19, e19, hr⟩ := hq
  refine wo_step (v := v19) (s_pure (o_ixS rfl rfl e19)) ?_
  have hq := bindP_inv hr
  clear hr
  obtain ⟨vn, m_2, en, hr⟩ := hq
  refine wo_stepN (s_st rfl rfl en) ?_
  refine wo_nil ?_
  refine nx_norm ?_
  refine w_seq ?_
  refine w_seq ?_
  refine w_ops ?_
  refine wo_step (v := (.s s1)) (s_pure (p_mv g1)) ?_
  have hq := bindO_inv hr
  clear hr
  obtain ⟨v21, e21, hr⟩ := hq
  have hq := asI_inv hr
  clear hr
  obtain ⟨x21, rfl, hr⟩ := hq
  refine wo_step (v := (.i .i64 x21)) (s_pure (o_len rfl e21)) ?_
  have hq := forceI_inv hr
  clear hr
  obtain ⟨x22, e22, hr⟩ := hq
  refine wo_step (v := (.i .i64 x22)) (s_pure (p_bin rfl rfl (b_sub.trans (ci e22)))) ?_
  refine wo_step (v := (.i .i64 x22)) (s_pure (p_mv rfl)) ?_
  refine wo_nil ?_
  refine nx_norm ?_
  refine w_block ?_
  have hq := bindO_inv hr
  clear hr
  obtain ⟨o, hl_1, hr⟩ := hq
  obtain ⟨n_1, hl_1⟩ := hM.loop _ _ _ hl_1
  refine jp_mono (w_loop _ (g53_I0 x0 s1 v15) (g53_J0 x0 s1 v15) ?_ n_1 _ _ _ _ hl_1 ⟨rfl, gl rfl, gl g0, gl g1, gl rfl⟩) ?_
  · clear hr hl_1
    intro s mm_5 t_1 o hi hr
    obtain ⟨x7, m_3⟩ := s
    obtain ⟨rfl, g7, g0, g1, g6⟩ := hi
    unfold g53_b0 at hr
    refine w_seq ?_
    refine w_seq ?_
    refine w_ops ?_
    refine wo_step (v := (.i .i64 x7)) (s_pure (p_mv g7)) ?_
    have hq := forceB_inv hr
    clear hr
    obtain ⟨c24, e24, hr⟩ := hq
    refine wo_step (v := (.b c24)) (s_pure (p_bin rfl rfl (b_geq.trans (cb e24)))) ?_
    refine wo_nil ?_
    refine nx_norm ?_
    have hq := cond_inv hr
    clear hr
    rcases hq with ⟨rfl, hr⟩ | ⟨rfl, hr⟩
    · refine w_condT rfl ?_
      refine w_skip ?_
      refine nx_norm ?_
      refine w_seq ?_
      refine w_block ?_
      refine w_any ?_
      refine wa_step (v := v15) (a_pure (p_mv g6)) ?_
      refine wa_step (v := (.i .i64 x7)) (a_pure (p_mv g7)) ?_
      refine wa_step (v := (.i .u8 x0)) (a_pure (p_mv g0)) ?_
      refine wa_step (v := v15) (a_pure (p_mv g6)) ?_
      refine wa_step (v := (.i .i64 x7)) (a_pure (p_mv g7)) ?_
      have hq := forceI_inv hr
      clear hr
      obtain ⟨x32, e32, hr⟩ := hq
      refine wa_step (v := (.i .i64 x32)) (a_pure (p_bin rfl rfl (b_add.trans (ci e32)))) ?_
      have hq := bindO_inv hr
      clear hr
      obtain ⟨v33, e33, hr⟩ := hq
      refine wa_step (v := v33) (a_pure (o_ixS rfl rfl e33)) ?_
      have hq := bindO_inv hr
      clear hr
      obtain ⟨v34, e34, hr⟩ := hq
      have hq := asI_inv hr
      clear hr
      obtain ⟨x34, rfl, hr⟩ := hq
      refine wa_step (v := (.i .u8 x34)) (a_ld rfl e34) ?_
      refine wa_step (v := (.s s1)) (a_pure (p_mv g1)) ?_
      refine wa_step (v := (.i .i64 x7)) (a_pure (p_mv g7)) ?_
      have hq := bindO_inv hr
      clear hr
      obtain ⟨v37, e37, hr⟩ := hq
      have hq := asI_inv hr
      clear hr
      obtain ⟨x37, rfl, hr⟩ := hq
      refine wa_step (v := (.i .u8 x37)) (a_pure (o_ixStr rfl rfl e37)) ?_
      have hq := bindO_inv hr
      clear hr
      obtain ⟨v38, e38, hr⟩ := hq
      have hq := asI_inv hr
      clear hr
      obtain ⟨x38, rfl, hr⟩ := hq
      refine wa_step (v := (.i .i64 x38)) (a_call (mc rfl mn) (callN_le hM.call e38)) ?_
      have hq := bindO_inv hr
      clear hr
      obtain ⟨v39, e39, hr⟩ := hq
      have hq := asI_inv hr
      clear hr
      obtain ⟨x39, rfl, hr⟩ := hq
      refine wa_step (v := (.i .u8 x39)) (a_call (mc rfl (mc rfl (mc rfl mn))) (callN_le hM.call e39)) ?_
      have hq := bindO_inv hr
      clear hr
      obtain ⟨v40, e40, hr⟩ := hq
      refine wa_step (v := v40) (a_pure (o_ixS rfl rfl e40)) ?_
      have hq := asP_inv hr
      clear hr
      obtain ⟨qs, eqs, hr⟩ := hq
      refine wa_stepN (a_st (Eq.trans (b := v40) rfl eqs) rfl rfl) ?_
      have hq := bindO_inv hr
      clear hr
      obtain ⟨m_4, ew, hr⟩ := hq
      refine wa_nil ?_
      refine ⟨m_4, ew, ?_⟩
      refine bk_norm ?_
      refine nx_norm ?_
      refine w_ops ?_
      refine wo_step (v := (.i .i64 x7)) (s_pure (p_mv g7)) ?_
      have hq := forceI_inv hr
      clear hr
      obtain ⟨x26, e26, hr⟩ := hq
      refine wo_step (v := (.i .i64 x26)) (s_pure (p_bin rfl rfl (b_sub.trans (ci e26)))) ?_
      refine wo_step (v := (.i .i64 x26)) (s_pure (p_mv rfl)) ?_
      refine wo_nil ?_
      cases hr
      exact ⟨_, _, rfl, rfl, rfl, gl rfl, gl g0, gl g1, gl g6⟩
    · refine w_condF rfl ?_
      refine w_exit ?_
      refine nx_exit ?_
      cases hr
      exact ⟨_, _, rfl, ne_norm_exit, rfl, rfl, gl g0, gl g1, gl g6⟩
  · obtain ⟨m_5, ho⟩ : ∃ z, z = o := ⟨_, rfl⟩
    subst ho
    rintro _ mm_4 t_2 ⟨rfl, rfl, g0, g1, g6⟩
    refine bk_hit ?_
    refine nx_norm ?_
    refine w_seq ?_
    refine w_seq ?_
    refine w_ops ?_
    refine wo_step (v := v15) (s_pure (p_mv g6)) ?_
    have hq := bindO_inv hr
    clear hr
    obtain ⟨v42, e42, hr⟩ := hq
    refine wo_step (v := v42) (s_pure (o_ixS rfl rfl e42)) ?_
    have hq := bindO_inv hr
    clear hr
    obtain ⟨v43, e43, hr⟩ := hq
    have hq := asI_inv hr
    clear hr
    obtain ⟨x43, rfl, hr⟩ := hq
    refine wo_step (v := (.i .u8 x43)) (s_ld rfl e43) ?_
    have hq := forceB_inv hr
    clear hr
    obtain ⟨c44, e44, hr⟩ := hq
    refine wo_step (v := (.b c44)) (s_pure (p_bin rfl rfl (b_eql.trans (cb e44)))) ?_
    refine wo_nil ?_
    refine nx_norm ?_
    have hq := cond_inv hr
    clear hr
    rcases hq with ⟨rfl, hr⟩ | ⟨rfl, hr⟩
    · refine w_condT rfl ?_
      refine w_seq ?_
      refine w_ops ?_
      refine wo_step (v := (AVal.s [])) (s_pure (p_mv rfl)) ?_
      refine wo_step (v := (.b false)) (s_pure (p_mv rfl)) ?_
      refine wo_nil ?_
      refine nx_norm ?_
      refine w_ret ?_
      refine nx_ret ?_
      exact qf ret_ok (rt rfl (rt rfl rn)) hr
    · refine w_condF rfl ?_
      refine w_skip ?_
      refine nx_norm ?_
      refine w_seq ?_
      refine w_ops ?_
      refine wo_step (v := v15) (s_pure (p_mv g6)) ?_
      have hq := bindO_inv hr
      clear hr
      obtain ⟨v46, e46, hr⟩ := hq
      refine wo_step (v := v46) (s_pure (o_ixS rfl rfl e46)) ?_
      have hq := bindO_inv hr
      clear hr
      obtain ⟨v47, e47, hr⟩ := hq
      have hq := asI_inv hr
      clear hr
      obtain ⟨x47, rfl, hr⟩ := hq
      refine wo_step (v := (.i .u8 x47)) (s_ld rfl e47) ?_
      have hq := bindP_inv hr
      clear hr
      obtain ⟨v48, m_6, e48, hr⟩ := hq
      have hq := asI_inv hr
      clear hr
      obtain ⟨x48, rfl, hr⟩ := hq
      refine wo_step (v := (.i .i64 x48)) (s_call (mc rfl mn) (callM_le hM.call e48)) ?_
      refine wo_step (v := (.i .i64 x48)) (s_pure (p_mv rfl)) ?_
      refine wo_nil ?_
      refine nx_norm ?_
      refine w_seq ?_
      refine w_ops ?_
      refine wo_step (v := (.i .i64 x48)) (s_pure (p_mv rfl)) ?_
      have hq := forceI_inv hr
      clear hr
      obtain ⟨x50, e50, hr⟩ := hq
      refine wo_step (v := (.i .i64 x50)) (s_pure (p_bin rfl rfl ((b_shr rfl).trans (ci e50)))) ?_
      have hq := bindP_inv hr
      clear hr
      obtain ⟨v51, m_7, e51, hr⟩ := hq
      have hq := asI_inv hr
      clear hr
      obtain ⟨x51, rfl, hr⟩ := hq
      refine wo_step (v := (.i .u8 x51)) (s_call (mc rfl mn) (callM_le hM.call e51)) ?_
      refine wo_step (v := (.i .i64 x48)) (s_pure (p_mv rfl)) ?_
      have hq := forceI_inv hr
      clear hr
      obtain ⟨x53, e53, hr⟩ := hq
      refine wo_step (v := (.i .i64 x53)) (s_pure (p_bin rfl rfl (b_and.trans (ci e53)))) ?_
      have hq := bindP_inv hr
      clear hr
      obtain ⟨v54, m_8, e54, hr⟩ := hq
      have hq := asI_inv hr
      clear hr
      obtain ⟨x54, rfl, hr⟩ := hq
      refine wo_step (v := (.i .u8 x54)) (s_call (mc rfl mn) (callM_le hM.call e54)) ?_
      have hq := bindP_inv hr
      clear hr
      obtain ⟨v55, m_9, e55, hr⟩ := hq
      refine wo_step (v := v55) (s_bsl (qc rfl (qc rfl qn)) e55) ?_
      refine wo_step (v := v55) (s_pure (p_mv rfl)) ?_
      refine wo_nil ?_
      refine nx_norm ?_
      refine w_seq ?_
      refine w_seq ?_
      refine w_ops ?_
      refine wo_step (v := (.s s1)) (s_pure (p_mv g1)) ?_
      have hq := bindO_inv hr
      clear hr
      obtain ⟨v57, e57, hr⟩ := hq
      have hq := asI_inv hr
      clear hr
      obtain ⟨x57, rfl, hr⟩ := hq
      refine wo_step (v := (.i .i64 x57)) (s_pure (o_len rfl e57)) ?_
      refine wo_step (v := (.i .i64 0)) (s_pure (p_mv rfl)) ?_
      refine wo_nil ?_
      refine nx_norm ?_
      refine w_block ?_
      have hq := bindO_inv hr
      clear hr
      obtain ⟨o_3, hl, hr⟩ := hq
      obtain ⟨n, hl⟩ := hM.loop _ _ _ hl
      refine jp_mono (w_loop _ (g53_I1 x0 s1 v15 x57) (g53_J1 x0 s1 v15 x57) ?_ n _ _ _ _ hl ⟨rfl, gl rfl, gl rfl, gl rfl, gl g0, gl g1, gl g6, gl rfl⟩) ?_
      · clear hr hl
        intro s mm_3 t_3 o hi hr
        obtain ⟨x8, v9, x58, m_10⟩ := s
        obtain ⟨rfl, g8, g9, g58, g0, g1, g6, g57⟩ := hi
        unfold g53_b1 at hr
        refine w_seq ?_
        refine w_ops ?_
        have hq := forceB_inv hr
        clear hr
        obtain ⟨c59, e59, hr⟩ := hq
        refine wo_step (v := (.b c59)) (s_pure (p_bin g58 g57 (b_lss.trans (cb e59)))) ?_
        refine wo_nil ?_
        refine nx_norm ?_
        refine w_seq ?_
        have hq := cond_inv hr
        clear hr
        rcases hq with ⟨rfl, hr⟩ | ⟨rfl, hr⟩
        · refine w_condT rfl ?_
          refine w_skip ?_
          refine nx_norm ?_
          refine w_seq ?_
          refine w_block ?_
          refine w_seq ?_
          refine w_ops ?_
          refine wo_step (v := (.i .i64 x58)) (s_pure (p_mv g58)) ?_
          refine wo_step (v := (.i .i64 x58)) (s_pure (p_mv rfl)) ?_
          refine wo_nil ?_
          refine nx_norm ?_
          refine w_seq ?_
          refine w_ops ?_
          refine wo_step (v := (.i .i64 x8)) (s_pure (p_mv g8)) ?_
          have hq := forceI_inv hr
          clear hr
          obtain ⟨x62, e62, hr⟩ := hq
          refine wo_step (v := (.i .i64 x62)) (s_pure (p_bin rfl rfl (b_mul.trans (ci e62)))) ?_
          refine wo_step (v := (.i .i64 x62)) (s_pure (p_mv rfl)) ?_
          refine wo_nil ?_
          refine nx_norm ?_
          refine w_seq ?_
          refine w_seq ?_
          refine w_ops ?_
          refine wo_step (v := (.i .u8 x0)) (s_pure (p_mv g0)) ?_
          refine wo_step (v := (.i .i64 x62)) (s_pure (p_mv rfl)) ?_
          refine wo_step (v := (.s s1)) (s_pure (p_mv g1)) ?_
          refine wo_step (v := (.i .i64 x58)) (s_pure (p_mv rfl)) ?_
          have hq := bindO_inv hr
          clear hr
          obtain ⟨v68, e68, hr⟩ := hq
          have hq := asI_inv hr
          clear hr
          obtain ⟨x68, rfl, hr⟩ := hq
          refine wo_step (v := (.i .u8 x68)) (s_pure (o_ixStr rfl rfl e68)) ?_
          have hq := bindP_inv hr
          clear hr
          obtain ⟨v65, m_11, e65, hr⟩ := hq
          have hq := asI_inv hr
          clear hr
          obtain ⟨x65, rfl, hr⟩ := hq
          refine wo_step (v := (.i .i64 x65)) (s_call (mc rfl (mc rfl mn)) (callM_le hM.call e65)) ?_
          have hq := bindP_inv hr
          clear hr
          obtain ⟨v69, m_12, e69, hr⟩ := hq
          have hq := asI_inv hr
          clear hr
          obtain ⟨x69, rfl, hr⟩ := hq
          refine wo_step (v := (.i .i64 x69)) (s_call (mc rfl mn) (callM_le hM.call e69)) ?_
          have hq := forceB_inv hr
          clear hr
          obtain ⟨c70, e70, hr⟩ := hq
          refine wo_step (v := (.b c70)) (s_pure (p_bin rfl rfl (b_neq.trans (cb e70)))) ?_
          refine wo_step (v := (.b c70)) (s_pure (p_mv rfl)) ?_
          have hq := bindO_inv hr
          clear hr
          obtain ⟨o_1, hr, hk⟩ := hq
          refine wo_join 10 (g53_J2 x0 s1 v15 v9 x62 x57 x58 o_1) ?_ ?_
          · clear hk
            have hq := cond_inv hr
            clear hr
            rcases hq with ⟨rfl, hr⟩ | ⟨rfl, hr⟩
            · refine wo_skip (v := (.b true)) rfl rfl ?_
              refine wo_skip (v := (.b true)) rfl rfl ?_
              refine wo_skip (v := (.b true)) rfl rfl ?_
              refine wo_skip (v := (.b true)) rfl rfl ?_
              refine wo_skip (v := (.b true)) rfl rfl ?_
              refine wo_skip (v := (.b true)) rfl rfl ?_
              refine wo_skip (v := (.b true)) rfl rfl ?_
              refine wo_skip (v := (.b true)) rfl rfl ?_
              refine wo_skip (v := (.b true)) rfl rfl ?_
              refine wo_step (v := (.b true)) (s_pure (p_pickT rfl rfl)) ?_
              refine wo_nil ?_
              cases hr
              exact ⟨_, _, rfl, rfl, gl rfl, gl g0, gl g1, gl g6, gl g9, gl rfl, gl g57, gl g58⟩
            · refine wo_take (v := v15) rfl (s_pure (p_mv g6)) ?_
              refine wo_take (v := (.i .i64 x58)) rfl (s_pure (p_mv rfl)) ?_
              have hq := forceI_inv hr
              clear hr
              obtain ⟨x74, e74, hr⟩ := hq
              refine wo_take (v := (.i .i64 x74)) rfl (s_pure (p_bin rfl rfl (b_add.trans (ci e74)))) ?_
              have hq := bindO_inv hr
              clear hr
              obtain ⟨v75, e75, hr⟩ := hq
              refine wo_take (v := v75) rfl (s_pure (o_ixS rfl rfl e75)) ?_
              refine wo_take (v := (.i .i64 x62)) rfl (s_pure (p_mv rfl)) ?_
              have hq := forceI_inv hr
              clear hr
              obtain ⟨x78, e78, hr⟩ := hq
              refine wo_take (v := (.i .i64 x78)) rfl (s_pure (p_bin rfl rfl (b_and.trans (ci e78)))) ?_
              have hq := bindO_inv hr
              clear hr
              obtain ⟨v76, e76, hr⟩ := hq
              have hq := asI_inv hr
              clear hr
              obtain ⟨x76, rfl, hr⟩ := hq
              refine wo_take (v := (.i .u8 x76)) rfl (s_ld rfl e76) ?_
              have hq := bindP_inv hr
              clear hr
              obtain ⟨v79, m_14, e79, hr⟩ := hq
              have hq := asB_inv hr
              clear hr
              obtain ⟨c79, rfl, hr⟩ := hq
              refine wo_take (v := (.b c79)) rfl (s_call (mc rfl (mc rfl mn)) (callM_le hM.call e79)) ?_
              have hq := forceB_inv hr
              clear hr
              obtain ⟨c80, e80, hr⟩ := hq
              refine wo_take (v := (.b c80)) rfl (s_pure ((p_not rfl).trans (cb e80))) ?_
              refine wo_step (v := (.b c80)) (s_pure (p_pickF rfl rfl)) ?_
              refine wo_nil ?_
              cases hr
              exact ⟨_, _, rfl, rfl, gl rfl, gl g0, gl g1, gl g6, gl g9, gl rfl, gl g57, gl g58⟩
          · clear hr
            have hr := hk
            clear hk
            obtain ⟨c81, m_13⟩ := o_1
            rintro mm t_4 ⟨rfl, g81, g0, g1, g6, g9, g11, g57, g58⟩
            refine wo_nil ?_
            refine nx_norm ?_
            have hq := bindO_inv hr
            clear hr
            obtain ⟨o_2, hr, hk⟩ := hq
            refine jp_mono (J := g53_J3 x0 s1 v15 v9 x57 x58 m_13 o_2) ?_ ?_
            · clear hk
              have hq := cond_inv hr
              clear hr
              rcases hq with ⟨rfl, hr⟩ | ⟨rfl, hr⟩
              · refine w_condT g81 ?_
                refine w_ops ?_
                refine wo_step (v := (.i .i64 x62)) (s_pure (p_mv g11)) ?_
                have hq := forceI_inv hr
                clear hr
                obtain ⟨x83, e83, hr⟩ := hq
                refine wo_step (v := (.i .i64 x83)) (s_pure (p_bin rfl rfl (b_add.trans (ci e83)))) ?_
                refine wo_step (v := (.i .i64 x83)) (s_pure (p_mv rfl)) ?_
                refine wo_nil ?_
                cases hr
                exact ⟨_, _, rfl, rfl, rfl, gl rfl, gl g0, gl g1, gl g6, gl g9, gl g57, gl g58⟩
              · refine w_condF g81 ?_
                refine w_skip ?_
                cases hr
                exact ⟨_, _, rfl, rfl, rfl, gl g11, gl g0, gl g1, gl g6, gl g9, gl g57, gl g58⟩
            · have hr := hk
              clear hk
              obtain ⟨x11, ho⟩ : ∃ z, z = o_2 := ⟨_, rfl⟩
              subst ho
              rintro _ mm_1 t_5 ⟨rfl, rfl, g11, g0, g1, g6, g9, g57, g58⟩
              refine nx_norm ?_
              refine w_seq ?_
              refine w_ops ?_
              refine wo_step (v := (.i .i64 x11)) (s_pure (p_mv g11)) ?_
              have hq := forceI_inv hr
              clear hr
              obtain ⟨x85, e85, hr⟩ := hq
              refine wo_step (v := (.i .i64 x85)) (s_pure (p_bin rfl rfl (b_and.trans (ci e85)))) ?_
              refine wo_step (v := (.i .i64 x85)) (s_pure (p_mv rfl)) ?_
              refine wo_nil ?_
              refine nx_norm ?_
              refine w_ops ?_
              refine wo_step (v := v9) (s_pure (p_mv g9)) ?_
              refine wo_step (v := (.i .i64 x11)) (s_pure (p_mv g11)) ?_
              have hq := forceI_inv hr
              clear hr
              obtain ⟨x88, e88, hr⟩ := hq
              refine wo_step (v := (.i .i64 x88)) (s_pure (p_bin rfl rfl (b_and.trans (ci e88)))) ?_
              have hq := bindP_inv hr
              clear hr
              obtain ⟨v89, m_15, e89, hr⟩ := hq
              have hq := asI_inv hr
              clear hr
              obtain ⟨x89, rfl, hr⟩ := hq
              refine wo_step (v := (.i .u8 x89)) (s_call (mc rfl mn) (callM_le hM.call e89)) ?_
              have hq := bindP_inv hr
              clear hr
              obtain ⟨v90, m_16, e90, hr⟩ := hq
              refine wo_step (v := v90) (s_bsl (qc rfl qn) e90) ?_
              have hq := bindP_inv hr
              clear hr
              obtain ⟨v91, m_17, e91, hr⟩ := hq
              refine wo_step (v := v91) (s_app rfl rfl e91) ?_
              refine wo_step (v := v91) (s_pure (p_mv rfl)) ?_
              refine wo_nil ?_
              refine bk_norm ?_
              refine nx_norm ?_
              refine w_ops ?_
              have hq := forceI_inv hr
              clear hr
              obtain ⟨x92, e92, hr⟩ := hq
              refine wo_step (v := (.i .i64 x92)) (s_pure (p_bin g58 rfl (b_add.trans (ci e92)))) ?_
              refine wo_step (v := (.i .i64 x92)) (s_pure (p_mv rfl)) ?_
              refine wo_nil ?_
              cases hr
              exact ⟨_, _, rfl, rfl, rfl, gl rfl, gl rfl, gl rfl, gl g0, gl g1, gl g6, gl g57⟩
        · refine w_condF rfl ?_
          refine w_exit ?_
          refine nx_exit ?_
          cases hr
          exact ⟨_, _, rfl, ne_norm_exit, rfl, rfl, gl g9⟩
      · obtain ⟨v9_1, m_18⟩ := o_3
        rintro _ mm_2 t_6 ⟨rfl, rfl, g9⟩
        refine bk_hit ?_
        refine nx_norm ?_
        refine w_seq ?_
        refine w_ops ?_
        refine wo_step (v := v9_1) (s_pure (p_mv g9)) ?_
        have hq := bindO_inv hr
        clear hr
        obtain ⟨v94, e94, hr⟩ := hq
        have hq := asS_inv hr
        clear hr
        obtain ⟨s94, rfl, hr⟩ := hq
        refine wo_step (v := (.s s94)) (s_bts rfl e94) ?_
        refine wo_step (v := (.s s94)) (s_pure (p_mv rfl)) ?_
        refine wo_step (v := (.b true)) (s_pure (p_mv rfl)) ?_
        refine wo_nil ?_
        refine nx_norm ?_
        refine w_ret ?_
        exact qf ret_ok (rt rfl (rt rfl rn)) hr

/- dibber/dibberref02.Rule -/
abbrev g54_J0 (m0 : Mm) (o : Bool) (m1 : Mm) (t1 : Tr) : Prop :=
  match o with
  | c8 => m0 = m1 ∧ t1.get 8 = (.b c8)
def g54 (M : Means) (ro : List ABlk) (x0 : Int) (m0 : Mm) : Option (AVal × Heap × Nat × Nat) :=
  forceB (!ltI x0 0) fun c4 =>
  bindO (cond c4 (
    forceB (!ltI 255 x0) fun c7 =>
    some c7) (
    some false)) fun c8 =>
  finM m0.h.length (tupA [(.b c8)]) m0

theorem g54_ok {ro : List ABlk} {O : Caller} {M : Means} (hM : M.Ok ⟨F, O⟩ ro) {x0 h r} (ho : O 54 [(.i .i64 x0)] h = none) (hr : g54 M ro x0 ⟨h, h.length, h.length⟩ = some r) : callX ⟨F, O⟩ ro 54 [(.i .i64 x0)] h = some r := by
  refine callX_of (F := ⟨F, O⟩) (fn := fn54) (g := g54 M ro x0) ho rfl rfl hr ?_
  clear ho
  clear hr
  intro m0 t0 ht hr
  have g0 : t0.get 0 = (.i .i64 x0) := ht 0
  clear ht
  unfold g54 at hr
  refine w_seq ?_
  refine w_ops ?_
  refine wo_step (v := (.b false)) (s_pure (p_mv rfl)) ?_
  refine wo_nil ?_
  refine nx_norm ?_
  refine w_seq ?_
  refine w_ops ?_
  refine wo_step (v := (.i .i64 x0)) (s_pure (p_mv g0)) ?_
  have hq := forceB_inv hr
  clear hr
  obtain ⟨c4, e4, hr⟩ := hq
  refine wo_step (v := (.b c4)) (s_pure (p_bin rfl rfl (b_geq.trans (cb e4)))) ?_
  refine wo_step (v := (.b c4)) (s_pure (p_mv rfl)) ?_
  have hq := bindO_inv hr
  clear hr
  obtain ⟨o, hr, hk⟩ := hq
  refine wo_join 3 (g54_J0 m0 o) ?_ ?_
  · clear hk
    have hq := cond_inv hr
    clear hr
    rcases hq with ⟨rfl, hr⟩ | ⟨rfl, hr⟩
    · refine wo_take (v := (.i .i64 x0)) rfl (s_pure (p_mv g0)) ?_
      have hq := forceB_inv hr
      clear hr
      obtain ⟨c7, e7, hr⟩ := hq
      refine wo_take (v := (.b c7)) rfl (s_pure (p_bin rfl rfl (b_leq.trans (cb e7)))) ?_
      refine wo_step (v := (.b c7)) (s_pure (p_pickT rfl rfl)) ?_
      refine wo_nil ?_
      cases hr
      exact ⟨_, _, rfl, rfl, gl rfl⟩
    · refine wo_skip (v := (.b false)) rfl rfl ?_
      refine wo_skip (v := (.b false)) rfl rfl ?_
      refine wo_step (v := (.b false)) (s_pure (p_pickF rfl rfl)) ?_
      refine wo_nil ?_
      cases hr
      exact ⟨_, _, rfl, rfl, gl rfl⟩
  · clear hr
    have hr := hk
    clear hk
    obtain ⟨c8, ho⟩ : ∃ z, z = o := ⟨_, rfl⟩
    subst ho
    rintro mm t_1 ⟨rfl, g8⟩
    refine wo_step (v := (.b c8)) (s_pure (p_mv g8)) ?_
    refine wo_nil ?_
    refine nx_norm ?_
    refine w_ret ?_
    exact qf ret_ok (rt rfl rn) hr

/- dibber/weed.readRule -/
abbrev g61_J0 (x0 : Int) (m0 : Mm) (o : Bool) (m1 : Mm) (t1 : Tr) : Prop :=
  match o with
  | c9 => m0 = m1 ∧ t1.get 9 = (.b c9) ∧ t1.get 0 = (.i .i64 x0)
def g61 (M : Means) (ro : List ABlk) (x0 : Int) (m0 : Mm) : Option (AVal × Heap × Nat × Nat) :=
  forceB (ltI x0 0) fun c5 =>
  bindO (cond c5 (
    some true) (
    forceB (ltI 255 x0) fun c8 =>
    some c8)) fun c9 =>
  cond c9 (
    finM m0.h.length (tupA [(.i .u8 0), (.i .i64 2)]) m0) (
    forceI (wr .u8 x0) fun x11 =>
    finM m0.h.length (tupA [(.i .u8 x11), (.i .i64 0)]) m0)

theorem g61_ok {ro : List ABlk} {O : Caller} {M : Means} (hM : M.Ok ⟨F, O⟩ ro) {x0 h r} (ho : O 61 [(.i .i64 x0)] h = none) (hr : g61 M ro x0 ⟨h, h.length, h.length⟩ = some r) : callX ⟨F, O⟩ ro 61 [(.i .i64 x0)] h = some r := by
  refine callX_of (F := ⟨F, O⟩) (fn := fn61) (g := g61 M ro x0) ho rfl rfl hr ?_
  clear ho
  clear hr
  intro m0 t0 ht hr
  have g0 : t0.get 0 = (.i .i64 x0) := ht 0
  clear ht
  unfold g61 at hr
  refine w_seq ?_
  refine w_ops ?_
  refine wo_step (v := (.i .u8 0)) (s_pure (p_mv rfl)) ?_
  refine wo_step (v := (.i .i64 0)) (s_pure (p_mv rfl)) ?_
  refine wo_nil ?_
  refine nx_norm ?_
  refine w_seq ?_
  refine w_seq ?_
  refine w_ops ?_
  refine wo_step (v := (.i .i64 x0)) (s_pure (p_mv g0)) ?_
  have hq := forceB_inv hr
  clear hr
  obtain ⟨c5, e5, hr⟩ := hq
  refine wo_step (v := (.b c5)) (s_pure (p_bin rfl rfl (b_lss.trans (cb e5)))) ?_
  refine wo_step (v := (.b c5)) (s_pure (p_mv rfl)) ?_
  have hq := bindO_inv hr
  clear hr
  obtain ⟨o, hr, hk⟩ := hq
  refine wo_join 3 (g61_J0 x0 m0 o) ?_ ?_
  · clear hk
    have hq := cond_inv hr
    clear hr
    rcases hq with ⟨rfl, hr⟩ | ⟨rfl, hr⟩
    · refine wo_skip (v := (.b true)) rfl rfl ?_
      refine wo_skip (v := (.b true)) rfl rfl ?_
      refine wo_step (v := (.b true)) (s_pure (p_pickT rfl rfl)) ?_
      refine wo_nil ?_
      cases hr
      exact ⟨_, _, rfl, rfl, gl rfl, gl g0⟩
    · refine wo_take (v := (.i .i64 x0)) rfl (s_pure (p_mv g0)) ?_
      have hq := forceB_inv hr
      clear hr
      obtain ⟨c8, e8, hr⟩ := hq
      refine wo_take (v := (.b c8)) rfl (s_pure (p_bin rfl rfl (b_gtr.trans (cb e8)))) ?_
      refine wo_step (v := (.b c8)) (s_pure (p_pickF rfl rfl)) ?_
      refine wo_nil ?_
      cases hr
      exact ⟨_, _, rfl, rfl, gl rfl, gl g0⟩
  · clear hr
    have hr := hk
    clear hk
    obtain ⟨c9, ho⟩ : ∃ z, z = o := ⟨_, rfl⟩
    subst ho
    rintro mm t_1 ⟨rfl, g9, g0⟩
    refine wo_nil ?_
    refine nx_norm ?_
    have hq := cond_inv hr
    clear hr
    rcases hq with ⟨rfl, hr⟩ | ⟨rfl, hr⟩
    · refine w_condT g9 ?_
      refine w_seq ?_
      refine w_ops ?_
      refine wo_step (v := (.i .u8 0)) (s_pure (p_mv rfl)) ?_
      refine wo_step (v := (.i .i64 2)) (s_pure (p_mv rfl)) ?_
      refine wo_nil ?_
      refine nx_norm ?_
      refine w_ret ?_
      refine nx_ret ?_
      exact qf ret_ok (rt rfl (rt rfl rn)) hr
    · refine w_condF g9 ?_
      refine w_skip ?_
      refine nx_norm ?_
      refine w_seq ?_
      refine w_ops ?_
      refine wo_step (v := (.i .i64 x0)) (s_pure (p_mv g0)) ?_
      have hq := forceI_inv hr
      clear hr
      obtain ⟨x11, e11, hr⟩ := hq
      refine wo_step (v := (.i .u8 x11)) (s_pure ((p_conv rfl).trans (ci e11))) ?_
      refine wo_step (v := (.i .u8 x11)) (s_pure (p_mv rfl)) ?_
      refine wo_step (v := (.i .i64 0)) (s_pure (p_mv rfl)) ?_
      refine wo_nil ?_
      refine nx_norm ?_
      refine w_ret ?_
      exact qf ret_ok (rt rfl (rt rfl rn)) hr

/- (dibber/weed.rule).orphan -/
abbrev g62_I0 (x0 : Int) (v3 : AVal) (s : AVal × Int × Mm) (m1 : Mm) (t1 : Tr) : Prop :=
  match s with
  | (v4, x5, m_4) => m_4 = m1 ∧ t1.get 4 = v4 ∧ t1.get 5 = (.i .i64 x5) ∧ t1.get 0 = (.i .u8 x0) ∧ t1.get 3 = v3
abbrev g62_J0 (x0 : Int) (v3 : AVal) (o : (Mm ⊕ (List UInt8 × Mm))) (e : AExit) (m1 : Mm) (t1 : Tr) : Prop :=
  match o with
  | (.inl mo) => e = (.exit 0) ∧ mo = m1
  | (.inr (y2, mo)) => e = .ret ∧ mo = m1 ∧ t1.get 2 = (.s y2)
abbrev g62_I1 (x0 : Int) (v3 : AVal) (x5 : Int) (s : AVal × Int × Mm) (m1 : Mm) (t1 : Tr) : Prop :=
  match s with
  | (v4_1, x17, m_5) => m_5 = m1 ∧ t1.get 4 = v4_1 ∧ t1.get 17 = (.i .i64 x17) ∧ t1.get 0 = (.i .u8 x0) ∧ t1.get 3 = v3 ∧ t1.get 5 = (.i .i64 x5)
abbrev g62_J1 (x0 : Int) (v3 : AVal) (x5 : Int) (o : ((AVal × Mm) ⊕ (List UInt8 × Mm))) (e : AExit) (m1 : Mm) (t1 : Tr) : Prop :=
  match o with
  | (.inl (y4, mo)) => e = (.exit 2) ∧ mo = m1 ∧ t1.get 4 = y4 ∧ t1.get 0 = (.i .u8 x0) ∧ t1.get 3 = v3 ∧ t1.get 5 = (.i .i64 x5)
  | (.inr (y2, mo)) => e = .ret ∧ mo = m1 ∧ t1.get 2 = (.s y2)
abbrev g62_J2 (x0 : Int) (v3 : AVal) (x5 : Int) (x17 : Int) (o : (AVal × Mm)) (e : AExit) (m1 : Mm) (t1 : Tr) : Prop :=
  match o with
  | (y4, mo) => e = .norm ∧ mo = m1 ∧ t1.get 4 = y4 ∧ t1.get 0 = (.i .u8 x0) ∧ t1.get 3 = v3 ∧ t1.get 5 = (.i .i64 x5) ∧ t1.get 17 = (.i .i64 x17)
def g62_b1 (M : Means) (ro : List ABlk) (x0 : Int) (v3 : AVal) (x5 : Int) (v4_1 : AVal) (x17 : Int) (m_5 : Mm) : Option ((AVal × Int × Mm) ⊕ (((AVal × Mm) ⊕ (List UInt8 × Mm)))) :=
  forceB (ltI x17 2) fun c18 =>
  cond c18 (
    bindO (evP .e (.ixS 2 (.c v4_1) (.c (.i .i64 x5)))) fun v23 =>
    bindO (evP .e (.faddr 0 (.c v23))) fun v24 =>
    bindO (ldA ro m_5.h true 1 v24) fun v25 =>
    asI .u8 v25 fun x25 =>
    bindO (callN M.call m_5.h 78 [(.i .u8 x0), (.i .u8 x25), (.i .i64 x17)]) fun v27 =>
    asI .u8 v27 fun x27 =>
    bindO (evP .e (.ixS 2 (.c v4_1) (.c (.i .i64 x5)))) fun v30 =>
    bindO (evP .e (.faddr 1 (.c v30))) fun v31 =>
    bindO (ldA ro m_5.h true 1 v31) fun v32 =>
    asS v32 fun s32 =>
    bindO (callN M.call m_5.h 71 [(.i .i64 x17)]) fun v34 =>
    asI .u8 v34 fun x34 =>
    bindO (evP .e (.chr (.c (.i .u8 x34)))) fun v35 =>
    asS v35 fun s35 =>
    bindO (evP .e (.sbin BinOp.add (.c (.s s32)) (.c (.s s35)))) fun v36 =>
    asS v36 fun s36 =>
    bindO ((fillA [(AVal.i IntKind.u8 0), (AVal.s [])] [((0, 1), (.i .u8 x27)), ((1, 1), (.s s36))]).map AVal.agg) fun v37 =>
    bindO (some (AVal.p (some ⟨false, List.length m_5.h, 0⟩))) fun v7 =>
    asP v7 fun qs =>
    chk (Nat.beq (AVal.cells v37).length 2) <|
    bindO (writesM ro [] [(qs, AVal.cells v37)] ⟨(m_5.h ++ [some (blkOf 88 [(AVal.i IntKind.u8 0), (AVal.s [])])]), m_5.lw, m_5.lp⟩) fun m_6 =>
    bindO (evP .e (.faddr 0 (.c v7))) fun v38 =>
    bindO (ldM ro m_6 true 1 v38) fun v39 =>
    asI .u8 v39 fun x39 =>
    forceB (eqI x39 0) fun c40 =>
    cond c40 (
      bindO (evP .e (.faddr 1 (.c v7))) fun v41 =>
      bindO (ldM ro m_6 true 1 v41) fun v42 =>
      asS v42 fun s42 =>
      some (.inr (.inr (s42, m_6)))) (
      bindO (evP .e (.faddr 0 (.c v7))) fun v43 =>
      bindO (ldM ro m_6 true 1 v43) fun v44 =>
      asI .u8 v44 fun x44 =>
      bindO (evP .e (.ixA 16 1 (.c v3) (.c (.i .u8 x44)))) fun v45 =>
      bindO (ldM ro m_6 true 1 v45) fun v46 =>
      asB v46 fun c46 =>
      forceB (!c46) fun c47 =>
      bindO (α := (AVal × Mm)) (
        cond c47 (
          bindO (evP .e (.faddr 0 (.c v7))) fun v48 =>
          bindO (ldM ro m_6 true 1 v48) fun v49 =>
          asI .u8 v49 fun x49 =>
          bindO (evP .e (.ixA 16 1 (.c v3) (.c (.i .u8 x49)))) fun v50 =>
          bindP (stepM ro m_6 (.st 1 (.c v50) (.c (.b true)))) fun vn_1 m_7 =>
          bindO (ldM ro m_7 false 2 v7) fun v52 =>
          bindP (stepM ro m_7 (.bsl 88 2 [(AVal.i IntKind.u8 0), (AVal.s [])] 1 [((0, 2), .c v52)])) fun v53 m_8 =>
          bindP (stepM ro m_8 (.app 88 2 24 [(AVal.i IntKind.u8 0), (AVal.s [])] (.c v4_1) (.c v53))) fun v54 m_9 =>
          some (v54, m_9)) (
          some (v4_1, m_6))) fun ⟨v4_2, m_10⟩ =>
      forceI (wr .i64 (x17 + 1)) fun x55 =>
      some (.inl (v4_2, x55, m_10)))) (
    some (.inr (.inl (v4_1, m_5))))
def g62_b0 (M : Means) (ro : List ABlk) (x0 : Int) (v3 : AVal) (v4 : AVal) (x5 : Int) (m_4 : Mm) : Option ((AVal × Int × Mm) ⊕ ((Mm ⊕ (List UInt8 × Mm)))) :=
  bindO (evP .e (.len false (.c v4))) fun v13 =>
  asI .i64 v13 fun x13 =>
  forceB (ltI x5 x13) fun c14 =>
  cond c14 (
    bindO (M.loop (S := AVal × Int × Mm) (R := ((AVal × Mm) ⊕ (List UInt8 × Mm))) (fun s => g62_b1 M ro x0 v3 x5 s.1 s.2.1 s.2.2) (v4, 0, m_4)) fun o_1 => match o_1 with
    | (.inl (v4_3, m_11)) =>
      forceI (wr .i64 (x5 + 1)) fun x16 =>
      some (.inl (v4_3, x16, m_11))
    | (.inr (s2, m_12)) =>
      some (.inr (.inr (s2, m_12)))) (
    some (.inr (.inl m_4)))
def g62 (M : Means) (ro : List ABlk) (x0 : Int) (m0 : Mm) : Option (AVal × Heap × Nat × Nat) :=
  bindO ((fillA [(AVal.b false), (AVal.b false), (AVal.b false), (AVal.b false), (AVal.b false), (AVal.b false), (AVal.b false), (AVal.b false), (AVal.b false), (AVal.b false), (AVal.b false), (AVal.b false), (AVal.b false), (AVal.b false), (AVal.b false), (AVal.b false)] [((15, 1), (.b true))]).map AVal.agg) fun v8 =>
  bindP (stepM ro m0 (.al 86 [(AVal.b false), (AVal.b false), (AVal.b false), (AVal.b false), (AVal.b false), (AVal.b false), (AVal.b false), (AVal.b false), (AVal.b false), (AVal.b false), (AVal.b false), (AVal.b false), (AVal.b false), (AVal.b false), (AVal.b false), (AVal.b false)])) fun v3 m_1 =>
  bindP (stepM ro m_1 (.st 16 (.c v3) (.c v8))) fun vn m_2 =>
  bindO ((fillA [(AVal.i IntKind.u8 0), (AVal.s [])] [((0, 1), (.i .u8 15)), ((1, 1), (AVal.s []))]).map AVal.agg) fun v9 =>
  bindP (stepM ro m_2 (.bsl 88 2 [(AVal.i IntKind.u8 0), (AVal.s [])] 1 [((0, 2), .c v9)])) fun v10 m_3 =>
  bindO (M.loop (S := AVal × Int × Mm) (R := (Mm ⊕ (List UInt8 × Mm))) (fun s => g62_b0 M ro x0 v3 s.1 s.2.1 s.2.2) (v10, 0, m_3)) fun o_2 => match o_2 with
  | (.inl m_13) =>
    finM m0.h.length (tupA [(AVal.s [])]) m_13
  | (.inr (s2_1, m_14)) =>
    finM m0.h.length (tupA [(.s s2_1)]) m_14

theorem g62_ok {ro : List ABlk} {O : Caller} {M : Means} (hM : M.Ok ⟨F, O⟩ ro) {x0 h r} (ho : O 62 [(.i .u8 x0)] h = none) (hr : g62 M ro x0 ⟨h, h.length, h.length⟩ = some r) : callX ⟨F, O⟩ ro 62 [(.i .u8 x0)] h = some r := by
  refine callX_of (F := ⟨F, O⟩) (fn := fn62) (g := g62 M ro x0) ho rfl rfl hr ?_
  clear ho
  clear hr
  intro m0 t0 ht hr
  have g0 : t0.get 0 = (.i .u8 x0) := ht 0
  clear ht
  unfold g62 at hr
  refine w_seq ?_
  refine w_ops ?_
  refine wo_step (v := (AVal.s [])) (s_pure (p_mv rfl)) ?_
  refine wo_nil ?_
  refine nx_norm ?_
  refine w_seq ?_
  refine w_ops ?_
  have hq := bindO_inv hr
  clear hr
  obtain ⟨v8, e8, hr⟩ := hq
  refine wo_step (v := v8) (s_pure (o_build (qc rfl qn) e8)) ?_
  have hq := bindP_inv hr
  clear hr
  obtain ⟨v3, m_1, e3, hr⟩ := hq
  refine wo_step (v := v3) (s_al e3) ?_
  have hq := bindP_inv hr
  clear hr
  obtain ⟨vn, m_2, en, hr⟩ := hq
  refine wo_stepN (s_st rfl rfl en) ?_
  refine wo_nil ?_
  refine nx_norm ?_
  refine w_seq ?_
  refine w_ops ?_
  have hq := bindO_inv hr
  clear hr
  obtain ⟨v9, e9, hr⟩ := hq
  refine wo_step (v := v9) (s_pure (o_build (qc rfl (qc rfl qn)) e9)) ?_
  have hq := bindP_inv hr
  clear hr
  obtain ⟨v10, m_3, e10, hr⟩ := hq
  refine wo_step (v := v10) (s_bsl (qc rfl qn) e10) ?_
  refine wo_step (v := v10) (s_pure (p_mv rfl)) ?_
  refine wo_nil ?_
  refine nx_norm ?_
  refine w_seq ?_
  refine w_seq ?_
  refine w_ops ?_
  refine wo_step (v := (.i .i64 0)) (s_pure (p_mv rfl)) ?_
  refine wo_nil ?_
  refine nx_norm ?_
  refine w_block ?_
  have hq := bindO_inv hr
  clear hr
  obtain ⟨o_2, hl_1, hr⟩ := hq
  obtain ⟨n_1, hl_1⟩ := hM.loop _ _ _ hl_1
  refine jp_mono (w_loop _ (g62_I0 x0 v3) (g62_J0 x0 v3) ?_ n_1 _ _ _ _ hl_1 ⟨rfl, gl rfl, gl rfl, gl g0, gl rfl⟩) ?_
  · clear hr hl_1
    intro s mm_6 t_1 o hi hr
    obtain ⟨v4, x5, m_4⟩ := s
    obtain ⟨rfl, g4, g5, g0, g3⟩ := hi
    unfold g62_b0 at hr
    refine w_seq ?_
    refine w_seq ?_
    refine w_ops ?_
    refine wo_step (v := (.i .i64 x5)) (s_pure (p_mv g5)) ?_
    refine wo_step (v := v4) (s_pure (p_mv g4)) ?_
    have hq := bindO_inv hr
    clear hr
    obtain ⟨v13, e13, hr⟩ := hq
    have hq := asI_inv hr
    clear hr
    obtain ⟨x13, rfl, hr⟩ := hq
    refine wo_step (v := (.i .i64 x13)) (s_pure (o_len rfl e13)) ?_
    have hq := forceB_inv hr
    clear hr
    obtain ⟨c14, e14, hr⟩ := hq
    refine wo_step (v := (.b c14)) (s_pure (p_bin rfl rfl (b_lss.trans (cb e14)))) ?_
    refine wo_nil ?_
    refine nx_norm ?_
    have hq := cond_inv hr
    clear hr
    rcases hq with ⟨rfl, hr⟩ | ⟨rfl, hr⟩
    · refine w_condT rfl ?_
      refine w_skip ?_
      refine nx_norm ?_
      refine w_seq ?_
      refine w_block ?_
      refine w_seq ?_
      refine w_ops ?_
      refine wo_step (v := (.i .i64 0)) (s_pure (p_mv rfl)) ?_
      refine wo_nil ?_
      refine nx_norm ?_
      refine w_block ?_
      have hq := bindO_inv hr
      clear hr
      obtain ⟨o_1, hl, hr⟩ := hq
      obtain ⟨n, hl⟩ := hM.loop _ _ _ hl
      refine jp_mono (w_loop _ (g62_I1 x0 v3 x5) (g62_J1 x0 v3 x5) ?_ n _ _ _ _ hl ⟨rfl, gl g4, gl rfl, gl g0, gl g3, gl g5⟩) ?_
      · clear hr hl
        intro s mm_3 t_2 o hi hr
        obtain ⟨v4_1, x17, m_5⟩ := s
        obtain ⟨rfl, g4, g17, g0, g3, g5⟩ := hi
        unfold g62_b1 at hr
        refine w_seq ?_
        refine w_ops ?_
        have hq := forceB_inv hr
        clear hr
        obtain ⟨c18, e18, hr⟩ := hq
        refine wo_step (v := (.b c18)) (s_pure (p_bin g17 rfl (b_lss.trans (cb e18)))) ?_
        refine wo_nil ?_
        refine nx_norm ?_
        refine w_seq ?_
        have hq := cond_inv hr
        clear hr
        rcases hq with ⟨rfl, hr⟩ | ⟨rfl, hr⟩
        · refine w_condT rfl ?_
          refine w_skip ?_
          refine nx_norm ?_
          refine w_seq ?_
          refine w_block ?_
          refine w_seq ?_
          refine w_ops ?_
          refine wo_step (v := (.i .i64 x17)) (s_pure (p_mv g17)) ?_
          refine wo_step (v := (.i .i64 x17)) (s_pure (p_mv rfl)) ?_
          refine wo_nil ?_
          refine nx_norm ?_
          refine w_seq ?_
          refine w_any ?_
          refine wa_step (v := (.i .u8 x0)) (a_pure (p_mv g0)) ?_
          refine wa_step (v := v4_1) (a_pure (p_mv g4)) ?_
          refine wa_step (v := (.i .i64 x5)) (a_pure (p_mv g5)) ?_
          have hq := bindO_inv hr
          clear hr
          obtain ⟨v23, e23, hr⟩ := hq
          refine wa_step (v := v23) (a_pure (o_ixS rfl rfl e23)) ?_
          have hq := bindO_inv hr
          clear hr
          obtain ⟨v24, e24, hr⟩ := hq
          refine wa_step (v := v24) (a_pure (o_faddr rfl e24)) ?_
          have hq := bindO_inv hr
          clear hr
          obtain ⟨v25, e25, hr⟩ := hq
          have hq := asI_inv hr
          clear hr
          obtain ⟨x25, rfl, hr⟩ := hq
          refine wa_step (v := (.i .u8 x25)) (a_ld rfl e25) ?_
          refine wa_step (v := (.i .i64 x17)) (a_pure (p_mv rfl)) ?_
          have hq := bindO_inv hr
          clear hr
          obtain ⟨v27, e27, hr⟩ := hq
          have hq := asI_inv hr
          clear hr
          obtain ⟨x27, rfl, hr⟩ := hq
          refine wa_step (v := (.i .u8 x27)) (a_call (mc rfl (mc rfl (mc rfl mn))) (callN_le hM.call e27)) ?_
          refine wa_step (v := v4_1) (a_pure (p_mv g4)) ?_
          refine wa_step (v := (.i .i64 x5)) (a_pure (p_mv g5)) ?_
          have hq := bindO_inv hr
          clear hr
          obtain ⟨v30, e30, hr⟩ := hq
          refine wa_step (v := v30) (a_pure (o_ixS rfl rfl e30)) ?_
          have hq := bindO_inv hr
          clear hr
          obtain ⟨v31, e31, hr⟩ := hq
          refine wa_step (v := v31) (a_pure (o_faddr rfl e31)) ?_
          have hq := bindO_inv hr
          clear hr
          obtain ⟨v32, e32, hr⟩ := hq
          have hq := asS_inv hr
          clear hr
          obtain ⟨s32, rfl, hr⟩ := hq
          refine wa_step (v := (.s s32)) (a_ld rfl e32) ?_
          refine wa_step (v := (.i .i64 x17)) (a_pure (p_mv rfl)) ?_
          have hq := bindO_inv hr
          clear hr
          obtain ⟨v34, e34, hr⟩ := hq
          have hq := asI_inv hr
          clear hr
          obtain ⟨x34, rfl, hr⟩ := hq
          refine wa_step (v := (.i .u8 x34)) (a_call (mc rfl mn) (callN_le hM.call e34)) ?_
          have hq := bindO_inv hr
          clear hr
          obtain ⟨v35, e35, hr⟩ := hq
          have hq := asS_inv hr
          clear hr
          obtain ⟨s35, rfl, hr⟩ := hq
          refine wa_step (v := (.s s35)) (a_pure (o_chr rfl e35)) ?_
          have hq := bindO_inv hr
          clear hr
          obtain ⟨v36, e36, hr⟩ := hq
          have hq := asS_inv hr
          clear hr
          obtain ⟨s36, rfl, hr⟩ := hq
          refine wa_step (v := (.s s36)) (a_pure (o_sbin rfl rfl e36)) ?_
          have hq := bindO_inv hr
          clear hr
          obtain ⟨v37, e37, hr⟩ := hq
          refine wa_step (v := v37) (a_pure (o_build (qc rfl (qc rfl qn)) e37)) ?_
          have hq := bindO_inv hr
          clear hr
          obtain ⟨v7, e7, hr⟩ := hq
          refine wa_step (v := v7) (a_al' e7) ?_
          have hq := asP_inv hr
          clear hr
          obtain ⟨qs, eqs, hr⟩ := hq
          have hq := chk_inv hr
          clear hr
          obtain ⟨hcs, hr⟩ := hq
          refine wa_stepN (a_st (Eq.trans (b := v7) rfl eqs) rfl hcs) ?_
          have hq := bindO_inv hr
          clear hr
          obtain ⟨m_6, ew, hr⟩ := hq
          refine wa_nil ?_
          refine ⟨m_6, ew, ?_⟩
          refine nx_norm ?_
          refine w_seq ?_
          refine w_seq ?_
          refine w_ops ?_
          have hq := bindO_inv hr
          clear hr
          obtain ⟨v38, e38, hr⟩ := hq
          refine wo_step (v := v38) (s_pure (o_faddr rfl e38)) ?_
          have hq := bindO_inv hr
          clear hr
          obtain ⟨v39, e39, hr⟩ := hq
          have hq := asI_inv hr
          clear hr
          obtain ⟨x39, rfl, hr⟩ := hq
          refine wo_step (v := (.i .u8 x39)) (s_ld rfl e39) ?_
          have hq := forceB_inv hr
          clear hr
          obtain ⟨c40, e40, hr⟩ := hq
          refine wo_step (v := (.b c40)) (s_pure (p_bin rfl rfl (b_eql.trans (cb e40)))) ?_
          refine wo_nil ?_
          refine nx_norm ?_
          have hq := cond_inv hr
          clear hr
          rcases hq with ⟨rfl, hr⟩ | ⟨rfl, hr⟩
          · refine w_condT rfl ?_
            refine w_seq ?_
            refine w_ops ?_
            have hq := bindO_inv hr
            clear hr
            obtain ⟨v41, e41, hr⟩ := hq
            refine wo_step (v := v41) (s_pure (o_faddr rfl e41)) ?_
            have hq := bindO_inv hr
            clear hr
            obtain ⟨v42, e42, hr⟩ := hq
            have hq := asS_inv hr
            clear hr
            obtain ⟨s42, rfl, hr⟩ := hq
            refine wo_step (v := (.s s42)) (s_ld rfl e42) ?_
            refine wo_step (v := (.s s42)) (s_pure (p_mv rfl)) ?_
            refine wo_nil ?_
            refine nx_norm ?_
            refine w_ret ?_
            refine nx_ret ?_
            refine bk_ret ?_
            refine nx_ret ?_
            cases hr
            exact ⟨_, _, rfl, ne_norm_ret, rfl, rfl, gl rfl⟩
          · refine w_condF rfl ?_
            refine w_skip ?_
            refine nx_norm ?_
            refine w_seq ?_
            refine w_ops ?_
            have hq := bindO_inv hr
            clear hr
            obtain ⟨v43, e43, hr⟩ := hq
            refine wo_step (v := v43) (s_pure (o_faddr rfl e43)) ?_
            have hq := bindO_inv hr
            clear hr
            obtain ⟨v44, e44, hr⟩ := hq
            have hq := asI_inv hr
            clear hr
            obtain ⟨x44, rfl, hr⟩ := hq
            refine wo_step (v := (.i .u8 x44)) (s_ld rfl e44) ?_
            have hq := bindO_inv hr
            clear hr
            obtain ⟨v45, e45, hr⟩ := hq
            refine wo_step (v := v45) (s_pure (o_ixA g3 rfl e45)) ?_
            have hq := bindO_inv hr
            clear hr
            obtain ⟨v46, e46, hr⟩ := hq
            have hq := asB_inv hr
            clear hr
            obtain ⟨c46, rfl, hr⟩ := hq
            refine wo_step (v := (.b c46)) (s_ld rfl e46) ?_
            have hq := forceB_inv hr
            clear hr
            obtain ⟨c47, e47, hr⟩ := hq
            refine wo_step (v := (.b c47)) (s_pure ((p_not rfl).trans (cb e47))) ?_
            refine wo_nil ?_
            refine nx_norm ?_
            have hq := bindO_inv hr
            clear hr
            obtain ⟨o, hr, hk⟩ := hq
            refine jp_mono (J := g62_J2 x0 v3 x5 x17 o) ?_ ?_
            · clear hk
              have hq := cond_inv hr
              clear hr
              rcases hq with ⟨rfl, hr⟩ | ⟨rfl, hr⟩
              · refine w_condT rfl ?_
                refine w_seq ?_
                refine w_ops ?_
                have hq := bindO_inv hr
                clear hr
                obtain ⟨v48, e48, hr⟩ := hq
                refine wo_step (v := v48) (s_pure (o_faddr rfl e48)) ?_
                have hq := bindO_inv hr
                clear hr
                obtain ⟨v49, e49, hr⟩ := hq
                have hq := asI_inv hr
                clear hr
                obtain ⟨x49, rfl, hr⟩ := hq
                refine wo_step (v := (.i .u8 x49)) (s_ld rfl e49) ?_
                have hq := bindO_inv hr
                clear hr
                obtain ⟨v50, e50, hr⟩ := hq
                refine wo_step (v := v50) (s_pure (o_ixA g3 rfl e50)) ?_
                have hq := bindP_inv hr
                clear hr
                obtain ⟨vn_1, m_7, en_1, hr⟩ := hq
                refine wo_stepN (s_st rfl rfl en_1) ?_
                refine wo_nil ?_
                refine nx_norm ?_
                refine w_ops ?_
                refine wo_step (v := v4_1) (s_pure (p_mv g4)) ?_
                have hq := bindO_inv hr
                clear hr
                obtain ⟨v52, e52, hr⟩ := hq
                refine wo_step (v := v52) (s_ld rfl e52) ?_
                have hq := bindP_inv hr
                clear hr
                obtain ⟨v53, m_8, e53, hr⟩ := hq
                refine wo_step (v := v53) (s_bsl (qc rfl qn) e53) ?_
                have hq := bindP_inv hr
                clear hr
                obtain ⟨v54, m_9, e54, hr⟩ := hq
                refine wo_step (v := v54) (s_app rfl rfl e54) ?_
                refine wo_step (v := v54) (s_pure (p_mv rfl)) ?_
                refine wo_nil ?_
                cases hr
                exact ⟨_, _, rfl, rfl, rfl, gl rfl, gl g0, gl g3, gl g5, gl g17⟩
              · refine w_condF rfl ?_
                refine w_skip ?_
                cases hr
                exact ⟨_, _, rfl, rfl, rfl, gl g4, gl g0, gl g3, gl g5, gl g17⟩
            · have hr := hk
              clear hk
              obtain ⟨v4_2, m_10⟩ := o
              rintro _ mm t_3 ⟨rfl, rfl, g4, g0, g3, g5, g17⟩
              refine bk_norm ?_
              refine nx_norm ?_
              refine w_ops ?_
              have hq := forceI_inv hr
              clear hr
              obtain ⟨x55, e55, hr⟩ := hq
              refine wo_step (v := (.i .i64 x55)) (s_pure (p_bin g17 rfl (b_add.trans (ci e55)))) ?_
              refine wo_step (v := (.i .i64 x55)) (s_pure (p_mv rfl)) ?_
              refine wo_nil ?_
              cases hr
              exact ⟨_, _, rfl, rfl, rfl, gl g4, gl rfl, gl g0, gl g3, gl g5⟩
        · refine w_condF rfl ?_
          refine w_exit ?_
          refine nx_exit ?_
          cases hr
          exact ⟨_, _, rfl, ne_norm_exit, rfl, rfl, gl g4, gl g0, gl g3, gl g5⟩
      · rcases o_1 with o_1 | o_1
        · obtain ⟨v4_3, m_11⟩ := o_1
          rintro _ mm_1 t_4 ⟨rfl, rfl, g4, g0, g3, g5⟩
          refine bk_hit ?_
          refine bk_norm ?_
          refine nx_norm ?_
          refine w_ops ?_
          refine wo_step (v := (.i .i64 x5)) (s_pure (p_mv g5)) ?_
          have hq := forceI_inv hr
          clear hr
          obtain ⟨x16, e16, hr⟩ := hq
          refine wo_step (v := (.i .i64 x16)) (s_pure (p_bin rfl rfl (b_add.trans (ci e16)))) ?_
          refine wo_step (v := (.i .i64 x16)) (s_pure (p_mv rfl)) ?_
          refine wo_nil ?_
          cases hr
          exact ⟨_, _, rfl, rfl, rfl, gl g4, gl rfl, gl g0, gl g3⟩
        · obtain ⟨s2, m_12⟩ := o_1
          rintro _ mm_2 t_5 ⟨rfl, rfl, g2⟩
          refine bk_ret ?_
          refine bk_ret ?_
          refine nx_ret ?_
          cases hr
          exact ⟨_, _, rfl, ne_norm_ret, rfl, rfl, gl g2⟩
    · refine w_condF rfl ?_
      refine w_exit ?_
      refine nx_exit ?_
      cases hr
      exact ⟨_, _, rfl, ne_norm_exit, rfl, rfl⟩
  · rcases o_2 with o_2 | o_2
    · obtain ⟨m_13, ho⟩ : ∃ z, z = o_2 := ⟨_, rfl⟩
      subst ho
      rintro _ mm_4 t_6 ⟨rfl, rfl⟩
      refine bk_hit ?_
      refine nx_norm ?_
      refine w_seq ?_
      refine w_ops ?_
      refine wo_step (v := (AVal.s [])) (s_pure (p_mv rfl)) ?_
      refine wo_nil ?_
      refine nx_norm ?_
      refine w_ret ?_
      exact qf ret_ok (rt rfl rn) hr
    · obtain ⟨s2_1, m_14⟩ := o_2
      rintro _ mm_5 t_7 ⟨rfl, rfl, g2⟩
      refine bk_ret ?_
      refine nx_ret ?_
      exact qf ret_ok (rt g2 rn) hr

/- (dibber/weed.rule).oneToOne -/
abbrev g64_I0 (x0 : Int) (s : Int × Int × Mm) (m1 : Mm) (t1 : Tr) : Prop :=
  match s with
  | (x3, x4, m_2) => m_2 = m1 ∧ t1.get 3 = (.i .u16 x3) ∧ t1.get 4 = (.i .u16 x4) ∧ t1.get 0 = (.i .u8 x0)
abbrev g64_J0 (x0 : Int) (o : (Int × Mm)) (e : AExit) (m1 : Mm) (t1 : Tr) : Prop :=
  match o with
  | (y3, mo) => e = (.exit 0) ∧ mo = m1 ∧ t1.get 3 = (.i .u16 y3)
def g64_b0 (M : Means) (ro : List ABlk) (x0 : Int) (x3 : Int) (x4 : Int) (m_2 : Mm) : Option ((Int × Int × Mm) ⊕ ((Int × Mm))) :=
  forceB (!eqI x4 x3) fun c10 =>
  cond c10 (
    bindP (callM M.call m_2 79 [(.i .u8 x0), (.i .u16 x4)]) fun v13 m_3 =>
    asI .u16 v13 fun x13 =>
    some (.inl (x4, x13, m_3))) (
    some (.inr (x3, m_2)))
def g64 (M : Means) (ro : List ABlk) (x0 : Int) (m0 : Mm) : Option (AVal × Heap × Nat × Nat) :=
  bindP (callM M.call m0 79 [(.i .u8 x0), (.i .u16 65535)]) fun v7 m_1 =>
  asI .u16 v7 fun x7 =>
  bindO (M.loop (S := Int × Int × Mm) (R := (Int × Mm)) (fun s => g64_b0 M ro x0 s.1 s.2.1 s.2.2) (65535, x7, m_1)) fun ⟨x3_1, m_4⟩ =>
  forceB (eqI x3_1 33825) fun c16 =>
  finM m0.h.length (tupA [(.b c16)]) m_4

theorem g64_ok {ro : List ABlk} {O : Caller} {M : Means} (hM : M.Ok ⟨F, O⟩ ro) {x0 h r} (ho : O 64 [(.i .u8 x0)] h = none) (hr : g64 M ro x0 ⟨h, h.length, h.length⟩ = some r) : callX ⟨F, O⟩ ro 64 [(.i .u8 x0)] h = some r := by
  refine callX_of (F := ⟨F, O⟩) (fn := fn64) (g := g64 M ro x0) ho rfl rfl hr ?_
  clear ho
  clear hr
  intro m0 t0 ht hr
  have g0 : t0.get 0 = (.i .u8 x0) := ht 0
  clear ht
  unfold g64 at hr
  refine w_seq ?_
  refine w_ops ?_
  refine wo_step (v := (.b false)) (s_pure (p_mv rfl)) ?_
  refine wo_nil ?_
  refine nx_norm ?_
  refine w_seq ?_
  refine w_ops ?_
  refine wo_step (v := (.i .u16 65535)) (s_pure (p_mv rfl)) ?_
  refine wo_nil ?_
  refine nx_norm ?_
  refine w_seq ?_
  refine w_seq ?_
  refine w_ops ?_
  refine wo_step (v := (.i .u8 x0)) (s_pure (p_mv g0)) ?_
  refine wo_step (v := (.i .u16 65535)) (s_pure (p_mv rfl)) ?_
  have hq := bindP_inv hr
  clear hr
  obtain ⟨v7, m_1, e7, hr⟩ := hq
  have hq := asI_inv hr
  clear hr
  obtain ⟨x7, rfl, hr⟩ := hq
  refine wo_step (v := (.i .u16 x7)) (s_call (mc rfl (mc rfl mn)) (callM_le hM.call e7)) ?_
  refine wo_step (v := (.i .u16 x7)) (s_pure (p_mv rfl)) ?_
  refine wo_nil ?_
  refine nx_norm ?_
  refine w_block ?_
  have hq := bindO_inv hr
  clear hr
  obtain ⟨o, hl, hr⟩ := hq
  obtain ⟨n, hl⟩ := hM.loop _ _ _ hl
  refine jp_mono (w_loop _ (g64_I0 x0) (g64_J0 x0) ?_ n _ _ _ _ hl ⟨rfl, gl rfl, gl rfl, gl g0⟩) ?_
  · clear hr hl
    intro s mm_1 t_1 o hi hr
    obtain ⟨x3, x4, m_2⟩ := s
    obtain ⟨rfl, g3, g4, g0⟩ := hi
    unfold g64_b0 at hr
    refine w_seq ?_
    refine w_seq ?_
    refine w_ops ?_
    refine wo_step (v := (.i .u16 x4)) (s_pure (p_mv g4)) ?_
    refine wo_step (v := (.i .u16 x3)) (s_pure (p_mv g3)) ?_
    have hq := forceB_inv hr
    clear hr
    obtain ⟨c10, e10, hr⟩ := hq
    refine wo_step (v := (.b c10)) (s_pure (p_bin rfl rfl (b_neq.trans (cb e10)))) ?_
    refine wo_nil ?_
    refine nx_norm ?_
    have hq := cond_inv hr
    clear hr
    rcases hq with ⟨rfl, hr⟩ | ⟨rfl, hr⟩
    · refine w_condT rfl ?_
      refine w_skip ?_
      refine nx_norm ?_
      refine w_seq ?_
      refine w_block ?_
      refine w_ops ?_
      refine wo_step (v := (.i .u16 x4)) (s_pure (p_mv g4)) ?_
      refine wo_step (v := (.i .u16 x4)) (s_pure (p_mv rfl)) ?_
      refine wo_nil ?_
      refine bk_norm ?_
      refine nx_norm ?_
      refine w_ops ?_
      refine wo_step (v := (.i .u8 x0)) (s_pure (p_mv g0)) ?_
      refine wo_step (v := (.i .u16 x4)) (s_pure (p_mv rfl)) ?_
      have hq := bindP_inv hr
      clear hr
      obtain ⟨v13, m_3, e13, hr⟩ := hq
      have hq := asI_inv hr
      clear hr
      obtain ⟨x13, rfl, hr⟩ := hq
      refine wo_step (v := (.i .u16 x13)) (s_call (mc rfl (mc rfl mn)) (callM_le hM.call e13)) ?_
      refine wo_step (v := (.i .u16 x13)) (s_pure (p_mv rfl)) ?_
      refine wo_nil ?_
      cases hr
      exact ⟨_, _, rfl, rfl, rfl, gl rfl, gl rfl, gl g0⟩
    · refine w_condF rfl ?_
      refine w_exit ?_
      refine nx_exit ?_
      cases hr
      exact ⟨_, _, rfl, ne_norm_exit, rfl, rfl, gl g3⟩
  · obtain ⟨x3_1, m_4⟩ := o
    rintro _ mm t_2 ⟨rfl, rfl, g3⟩
    refine bk_hit ?_
    refine nx_norm ?_
    refine w_seq ?_
    refine w_ops ?_
    refine wo_step (v := (.i .u16 x3_1)) (s_pure (p_mv g3)) ?_
    have hq := forceB_inv hr
    clear hr
    obtain ⟨c16, e16, hr⟩ := hq
    refine wo_step (v := (.b c16)) (s_pure (p_bin rfl rfl (b_eql.trans (cb e16)))) ?_
    refine wo_step (v := (.b c16)) (s_pure (p_mv rfl)) ?_
    refine wo_nil ?_
    refine nx_norm ?_
    refine w_ret ?_
    exact qf ret_ok (rt rfl rn) hr

/- dibber/dibberref02.single -/
abbrev g65_I0 (x0 : Int) (v11 : AVal) (s : Int × Mm) (m1 : Mm) (t1 : Tr) : Prop :=
  match s with
  | (x4, m_2) => m_2 = m1 ∧ t1.get 4 = (.i .i64 x4) ∧ t1.get 0 = (.i .i64 x0) ∧ t1.get 3 = v11
abbrev g65_J0 (x0 : Int) (v11 : AVal) (o : Mm) (e : AExit) (m1 : Mm) (t1 : Tr) : Prop :=
  match o with
  | mo => e = (.exit 0) ∧ mo = m1 ∧ t1.get 0 = (.i .i64 x0) ∧ t1.get 3 = v11
def g65_b0 (M : Means) (ro : List ABlk) (x0 : Int) (v11 : AVal) (x4 : Int) (m_2 : Mm) : Option ((Int × Mm) ⊕ (Mm)) :=
  forceB (ltI x4 16) fun c13 =>
  cond c13 (
    bindO (evP .e (.ixS 1 (.c v11) (.c (.i .i64 x4)))) fun v18 =>
    bindP (stepM ro m_2 (.st 1 (.c v18) (.c (.b true)))) fun vn m_3 =>
    forceI (wr .i64 (x4 + 1)) fun x15 =>
    some (.inl (x15, m_3))) (
    some (.inr m_2))
abbrev g65_I1 (x0 : Int) (v11 : AVal) (s : Bool × Mm) (m1 : Mm) (t1 : Tr) : Prop :=
  match s with
  | (c5, m_5) => m_5 = m1 ∧ t1.get 5 = (.b c5) ∧ t1.get 0 = (.i .i64 x0) ∧ t1.get 3 = v11
abbrev g65_J1 (x0 : Int) (v11 : AVal) (o : Mm) (e : AExit) (m1 : Mm) (t1 : Tr) : Prop :=
  match o with
  | mo => e = (.exit 2) ∧ mo = m1 ∧ t1.get 3 = v11
abbrev g65_I2 (x0 : Int) (v11 : AVal) (s : Bool × Int × Mm) (m1 : Mm) (t1 : Tr) : Prop :=
  match s with
  | (c5_1, x6, m_6) => m_6 = m1 ∧ t1.get 5 = (.b c5_1) ∧ t1.get 6 = (.i .i64 x6) ∧ t1.get 0 = (.i .i64 x0) ∧ t1.get 3 = v11
abbrev g65_J2 (x0 : Int) (v11 : AVal) (o : (Bool × Mm)) (e : AExit) (m1 : Mm) (t1 : Tr) : Prop :=
  match o with
  | (y5, mo) => e = (.exit 4) ∧ mo = m1 ∧ t1.get 5 = (.b y5) ∧ t1.get 0 = (.i .i64 x0) ∧ t1.get 3 = v11
abbrev g65_I3 (x0 : Int) (v11 : AVal) (c5_1 : Bool) (x6 : Int) (s : Bool × Bool × Int × Mm) (m1 : Mm) (t1 : Tr) : Prop :=
  match s with
  | (c7, c8, x9, m_7) => m_7 = m1 ∧ t1.get 7 = (.b c7) ∧ t1.get 8 = (.b c8) ∧ t1.get 9 = (.i .i64 x9) ∧ t1.get 0 = (.i .i64 x0) ∧ t1.get 3 = v11 ∧ t1.get 5 = (.b c5_1) ∧ t1.get 6 = (.i .i64 x6)
abbrev g65_J3 (x0 : Int) (v11 : AVal) (c5_1 : Bool) (x6 : Int) (o : (Bool × Bool × Mm)) (e : AExit) (m1 : Mm) (t1 : Tr) : Prop :=
  match o with
  | (y7, y8, mo) => e = (.exit 6) ∧ mo = m1 ∧ t1.get 7 = (.b y7) ∧ t1.get 8 = (.b y8) ∧ t1.get 0 = (.i .i64 x0) ∧ t1.get 3 = v11 ∧ t1.get 5 = (.b c5_1) ∧ t1.get 6 = (.i .i64 x6)
abbrev g65_J4 (x0 : Int) (v11 : AVal) (c5_1 : Bool) (x6 : Int) (c8 : Bool) (x9 : Int) (o : Bool × Mm) (m1 : Mm) (t1 : Tr) : Prop :=
  match o with
  | (c46, m_8) => m_8 = m1 ∧ t1.get 46 = (.b c46) ∧ t1.get 0 = (.i .i64 x0) ∧ t1.get 3 = v11 ∧ t1.get 5 = (.b c5_1) ∧ t1.get 6 = (.i .i64 x6) ∧ t1.get 8 = (.b c8) ∧ t1.get 9 = (.i .i64 x9)
abbrev g65_J5 (x0 : Int) (v11 : AVal) (c5_1 : Bool) (x6 : Int) (c8 : Bool) (x9 : Int) (o : Bool × Mm) (m1 : Mm) (t1 : Tr) : Prop :=
  match o with
  | (c46_1, m_9) => m_9 = m1 ∧ t1.get 46 = (.b c46_1) ∧ t1.get 0 = (.i .i64 x0) ∧ t1.get 3 = v11 ∧ t1.get 5 = (.b c5_1) ∧ t1.get 6 = (.i .i64 x6) ∧ t1.get 8 = (.b c8) ∧ t1.get 9 = (.i .i64 x9)
abbrev g65_J6 (x0 : Int) (v11 : AVal) (c5_1 : Bool) (x6 : Int) (c46 : Bool) (x9 : Int) (o : Bool × Mm) (m1 : Mm) (t1 : Tr) : Prop :=
  match o with
  | (c65, m_11) => m_11 = m1 ∧ t1.get 65 = (.b c65) ∧ t1.get 0 = (.i .i64 x0) ∧ t1.get 3 = v11 ∧ t1.get 5 = (.b c5_1) ∧ t1.get 6 = (.i .i64 x6) ∧ t1.get 7 = (.b c46) ∧ t1.get 9 = (.i .i64 x9)
abbrev g65_J7 (x0 : Int) (v11 : AVal) (c5_1 : Bool) (x6 : Int) (c46 : Bool) (x9 : Int) (o : Bool × Mm) (m1 : Mm) (t1 : Tr) : Prop :=
  match o with
  | (c65_1, m_12) => m_12 = m1 ∧ t1.get 65 = (.b c65_1) ∧ t1.get 0 = (.i .i64 x0) ∧ t1.get 3 = v11 ∧ t1.get 5 = (.b c5_1) ∧ t1.get 6 = (.i .i64 x6) ∧ t1.get 7 = (.b c46) ∧ t1.get 9 = (.i .i64 x9)
def g65_b3 (M : Means) (ro : List ABlk) (x0 : Int) (v11 : AVal) (c5_1 : Bool) (x6 : Int) (c7 : Bool) (c8 : Bool) (x9 : Int) (m_7 : Mm) : Option ((Bool × Bool × Int × Mm) ⊕ ((Bool × Bool × Mm))) :=
  forceB (ltI x9 16) fun c25 =>
  cond c25 (
    bindO (cond c7 (
      some (true, m_7)) (
      bindO (evP .e (.ixS 1 (.c v11) (.c (.i .i64 x9)))) fun v32 =>
      bindO (ldM ro m_7 true 1 v32) fun v33 =>
      asB v33 fun c33 =>
      bindO (cond c33 (
        forceI (wr .i64 (Int.tdiv x6 4)) fun x37 =>
        forceI (Int.tmod x6 4) fun x39 =>
        forceI (wr .i64 (Int.tdiv x9 4)) fun x41 =>
        forceI (Int.tmod x9 4) fun x43 =>
        bindP (callM M.call m_7 80 [(.i .i64 x0), (.i .i64 x37), (.i .i64 x39), (.i .i64 x41), (.i .i64 x43)]) fun v44 m_10 =>
        asB v44 fun c44 =>
        some (c44, m_10)) (
        some (false, m_7))) fun ⟨c46_1, m_9⟩ =>
      some (c46_1, m_9))) fun ⟨c46, m_8⟩ =>
    bindO (cond c8 (
      some (true, m_8)) (
      bindO (evP .e (.ixS 1 (.c v11) (.c (.i .i64 x9)))) fun v51 =>
      bindO (ldM ro m_8 true 1 v51) fun v52 =>
      asB v52 fun c52 =>
      bindO (cond c52 (
        forceI (wr .i64 (Int.tdiv x9 4)) fun x56 =>
        forceI (Int.tmod x9 4) fun x58 =>
        forceI (wr .i64 (Int.tdiv x6 4)) fun x60 =>
        forceI (Int.tmod x6 4) fun x62 =>
        bindP (callM M.call m_8 80 [(.i .i64 x0), (.i .i64 x56), (.i .i64 x58), (.i .i64 x60), (.i .i64 x62)]) fun v63 m_13 =>
        asB v63 fun c63 =>
        some (c63, m_13)) (
        some (false, m_8))) fun ⟨c65_1, m_12⟩ =>
      some (c65_1, m_12))) fun ⟨c65, m_11⟩ =>
    forceI (wr .i64 (x9 + 1)) fun x27 =>
    some (.inl (c46, c65, x27, m_11))) (
    some (.inr (c7, c8, m_7)))
abbrev g65_J8 (x0 : Int) (v11 : AVal) (c5_1 : Bool) (x6 : Int) (m_14 : Mm) (o : Bool) (m1 : Mm) (t1 : Tr) : Prop :=
  match o with
  | c76 => m_14 = m1 ∧ t1.get 76 = (.b c76) ∧ t1.get 0 = (.i .i64 x0) ∧ t1.get 3 = v11 ∧ t1.get 5 = (.b c5_1) ∧ t1.get 6 = (.i .i64 x6)
abbrev g65_J9 (x0 : Int) (v11 : AVal) (c5_1 : Bool) (x6 : Int) (m_14 : Mm) (o : Bool) (m1 : Mm) (t1 : Tr) : Prop :=
  match o with
  | c76_1 => m_14 = m1 ∧ t1.get 76 = (.b c76_1) ∧ t1.get 0 = (.i .i64 x0) ∧ t1.get 3 = v11 ∧ t1.get 5 = (.b c5_1) ∧ t1.get 6 = (.i .i64 x6)
abbrev g65_J10 (x0 : Int) (v11 : AVal) (x6 : Int) (o : (Bool × Mm)) (e : AExit) (m1 : Mm) (t1 : Tr) : Prop :=
  match o with
  | (y5, mo) => e = .norm ∧ mo = m1 ∧ t1.get 5 = (.b y5) ∧ t1.get 0 = (.i .i64 x0) ∧ t1.get 3 = v11 ∧ t1.get 6 = (.i .i64 x6)
def g65_b2 (M : Means) (ro : List ABlk) (x0 : Int) (v11 : AVal) (c5_1 : Bool) (x6 : Int) (m_6 : Mm) : Option ((Bool × Int × Mm) ⊕ ((Bool × Mm))) :=
  forceB (ltI x6 16) fun c21 =>
  cond c21 (
    bindO (M.loop (S := Bool × Bool × Int × Mm) (R := (Bool × Bool × Mm)) (fun s => g65_b3 M ro x0 v11 c5_1 x6 s.1 s.2.1 s.2.2.1 s.2.2.2) (false, false, 0, m_6)) fun ⟨c7_1, c8_1, m_14⟩ =>
    bindO (evP .e (.ixS 1 (.c v11) (.c (.i .i64 x6)))) fun v68 =>
    bindO (ldM ro m_14 true 1 v68) fun v69 =>
    asB v69 fun c69 =>
    bindO (cond c69 (
      bindO (cond c7_1 (
        forceB (!c8_1) fun c75 =>
        some c75) (
        forceB (!false) fun c75_1 =>
        some c75_1)) fun c76_1 =>
      some c76_1) (
      some false)) fun c76 =>
    bindO (α := (Bool × Mm)) (
      cond c76 (
        bindO (evP .e (.ixS 1 (.c v11) (.c (.i .i64 x6)))) fun v79 =>
        bindP (stepM ro m_14 (.st 1 (.c v79) (.c (.b false)))) fun vn_1 m_15 =>
        some (true, m_15)) (
        some (c5_1, m_14))) fun ⟨c5_2, m_16⟩ =>
    forceI (wr .i64 (x6 + 1)) fun x23 =>
    some (.inl (c5_2, x23, m_16))) (
    some (.inr (c5_1, m_6)))
def g65_b1 (M : Means) (ro : List ABlk) (x0 : Int) (v11 : AVal) (c5 : Bool) (m_5 : Mm) : Option ((Bool × Mm) ⊕ (Mm)) :=
  cond c5 (
    bindO (M.loop (S := Bool × Int × Mm) (R := (Bool × Mm)) (fun s => g65_b2 M ro x0 v11 s.1 s.2.1 s.2.2) (false, 0, m_5)) fun ⟨c5_3, m_17⟩ =>
    some (.inl (c5_3, m_17))) (
    some (.inr m_5))
abbrev g65_I11 (v11 : AVal) (m_18 : Mm) (s : Int) (m1 : Mm) (t1 : Tr) : Prop :=
  match s with
  | x10 => m_18 = m1 ∧ t1.get 10 = (.i .i64 x10) ∧ t1.get 3 = v11
abbrev g65_J11 (v11 : AVal) (m_18 : Mm) (o : (Unit ⊕ Bool)) (e : AExit) (m1 : Mm) (t1 : Tr) : Prop :=
  match o with
  | (.inl _) => e = (.exit 8) ∧ m_18 = m1
  | (.inr y2) => e = .ret ∧ m_18 = m1 ∧ t1.get 2 = (.b y2)
abbrev g65_J12 (v11 : AVal) (x10 : Int) (m_18 : Mm) (o : Bool) (m1 : Mm) (t1 : Tr) : Prop :=
  match o with
  | c94 => m_18 = m1 ∧ t1.get 94 = (.b c94) ∧ t1.get 3 = v11 ∧ t1.get 10 = (.i .i64 x10)
def g65_b11 (M : Means) (ro : List ABlk) (v11 : AVal) (m_18 : Mm) (x10 : Int) : Option ((Int) ⊕ ((Unit ⊕ Bool))) :=
  forceB (ltI x10 16) fun c81 =>
  cond c81 (
    bindO (evP .e (.ixS 1 (.c v11) (.c (.i .i64 x10)))) fun v86 =>
    bindO (ldM ro m_18 true 1 v86) fun v87 =>
    asB v87 fun c87 =>
    bindO (cond c87 (
      forceI (wr .i64 (Int.tdiv x10 4)) fun x90 =>
      forceI (Int.tmod x10 4) fun x92 =>
      forceB (!eqI x90 x92) fun c93 =>
      some c93) (
      some false)) fun c94 =>
    cond c94 (
      some (.inr (.inr false))) (
      forceI (wr .i64 (x10 + 1)) fun x83 =>
      some (.inl x83))) (
    some (.inr (.inl ())))
def g65 (M : Means) (ro : List ABlk) (x0 : Int) (m0 : Mm) : Option (AVal × Heap × Nat × Nat) :=
  bindP (stepM ro m0 (.mk 4 1 1 [(AVal.b false)] (.c (.i .i64 16)) (.c (.i .i64 16)))) fun v11 m_1 =>
  bindO (M.loop (S := Int × Mm) (R := Mm) (fun s => g65_b0 M ro x0 v11 s.1 s.2) (0, m_1)) fun m_4 =>
  bindO (M.loop (S := Bool × Mm) (R := Mm) (fun s => g65_b1 M ro x0 v11 s.1 s.2) (true, m_4)) fun m_18 =>
  bindO (M.loop (S := Int) (R := (Unit ⊕ Bool)) (fun s => g65_b11 M ro v11 m_18 s) 0) fun o_12 => match o_12 with
  | (.inl _) =>
    finM m0.h.length (tupA [(.b true)]) m_18
  | (.inr c2) =>
    finM m0.h.length (tupA [(.b c2)]) m_18

theorem g65_ok {ro : List ABlk} {O : Caller} {M : Means} (hM : M.Ok ⟨F, O⟩ ro) {x0 h r} (ho : O 65 [(.i .i64 x0)] h = none) (hr : g65 M ro x0 ⟨h, h.length, h.length⟩ = some r) : callX ⟨F, O⟩ ro 65 [(.i .i64 x0)] h = some r := by
  refine callX_of (F := ⟨F, O⟩) (fn := fn65) (g := g65 M ro x0) ho rfl rfl hr ?_
  clear ho
  clear hr
  intro m0 t0 ht hr
  have g0 : t0.get 0 = (.i .i64 x0) := ht 0
  clear ht
  unfold g65 at hr
  refine w_seq ?_
  refine w_ops ?_
  refine wo_step (v := (.b false)) (s_pure (p_mv rfl)) ?_
  refine wo_nil ?_
  refine nx_norm ?_
  refine w_seq ?_
  refine w_ops ?_
  have hq := bindP_inv hr
  clear hr
  obtain ⟨v11, m_1, e11, hr⟩ := hq
  refine wo_step (v := v11) (s_mk rfl rfl e11) ?_
  refine wo_step (v := v11) (s_pure (p_mv rfl)) ?_
  refine wo_nil ?_
  refine nx_norm ?_
  refine w_seq ?_
  refine w_seq ?_
  refine w_ops ?_
  refine wo_step (v := (.i .i64 0)) (s_pure (p_mv rfl)) ?_
  refine wo_nil ?_
  refine nx_norm ?_
  refine w_block ?_
  have hq := bindO_inv hr
  clear hr
  obtain ⟨o, hl_4, hr⟩ := hq
  obtain ⟨n_4, hl_4⟩ := hM.loop _ _ _ hl_4
  refine jp_mono (w_loop _ (g65_I0 x0 v11) (g65_J0 x0 v11) ?_ n_4 _ _ _ _ hl_4 ⟨rfl, gl rfl, gl g0, gl rfl⟩) ?_
  · clear hr hl_4
    intro s mm_18 t_1 o hi hr
    obtain ⟨x4, m_2⟩ := s
    obtain ⟨rfl, g4, g0, g3⟩ := hi
    unfold g65_b0 at hr
    refine w_seq ?_
    refine w_seq ?_
    refine w_ops ?_
    refine wo_step (v := (.i .i64 x4)) (s_pure (p_mv g4)) ?_
    have hq := forceB_inv hr
    clear hr
    obtain ⟨c13, e13, hr⟩ := hq
    refine wo_step (v := (.b c13)) (s_pure (p_bin rfl rfl (b_lss.trans (cb e13)))) ?_
    refine wo_nil ?_
    refine nx_norm ?_
    have hq := cond_inv hr
    clear hr
    rcases hq with ⟨rfl, hr⟩ | ⟨rfl, hr⟩
    · refine w_condT rfl ?_
      refine w_skip ?_
      refine nx_norm ?_
      refine w_seq ?_
      refine w_block ?_
      refine w_ops ?_
      refine wo_step (v := v11) (s_pure (p_mv g3)) ?_
      refine wo_step (v := (.i .i64 x4)) (s_pure (p_mv g4)) ?_
      have hq := bindO_inv hr
      clear hr
      obtain ⟨v18, e18, hr⟩ := hq
      refine wo_step (v := v18) (s_pure (o_ixS rfl rfl e18)) ?_
      have hq := bindP_inv hr
      clear hr
      obtain ⟨vn, m_3, en, hr⟩ := hq
      refine wo_stepN (s_st rfl rfl en) ?_
      refine wo_nil ?_
      refine bk_norm ?_
      refine nx_norm ?_
      refine w_ops ?_
      refine wo_step (v := (.i .i64 x4)) (s_pure (p_mv g4)) ?_
      have hq := forceI_inv hr
      clear hr
      obtain ⟨x15, e15, hr⟩ := hq
      refine wo_step (v := (.i .i64 x15)) (s_pure (p_bin rfl rfl (b_add.trans (ci e15)))) ?_
      refine wo_step (v := (.i .i64 x15)) (s_pure (p_mv rfl)) ?_
      refine wo_nil ?_
      cases hr
      exact ⟨_, _, rfl, rfl, rfl, gl rfl, gl g0, gl g3⟩
    · refine w_condF rfl ?_
      refine w_exit ?_
      refine nx_exit ?_
      cases hr
      exact ⟨_, _, rfl, ne_norm_exit, rfl, rfl, gl g0, gl g3⟩
  · obtain ⟨m_4, ho⟩ : ∃ z, z = o := ⟨_, rfl⟩
    subst ho
    rintro _ mm_17 t_2 ⟨rfl, rfl, g0, g3⟩
    refine bk_hit ?_
    refine nx_norm ?_
    refine w_seq ?_
    refine w_seq ?_
    refine w_ops ?_
    refine wo_step (v := (.b true)) (s_pure (p_mv rfl)) ?_
    refine wo_nil ?_
    refine nx_norm ?_
    refine w_block ?_
    have hq := bindO_inv hr
    clear hr
    obtain ⟨o_10, hl_3, hr⟩ := hq
    obtain ⟨n_3, hl_3⟩ := hM.loop _ _ _ hl_3
    refine jp_mono (w_loop _ (g65_I1 x0 v11) (g65_J1 x0 v11) ?_ n_3 _ _ _ _ hl_3 ⟨rfl, gl rfl, gl g0, gl g3⟩) ?_
    · clear hr hl_3
      intro s mm_16 t_3 o hi hr
      obtain ⟨c5, m_5⟩ := s
      obtain ⟨rfl, g5, g0, g3⟩ := hi
      unfold g65_b1 at hr
      refine w_seq ?_
      refine w_seq ?_
      refine w_ops ?_
      refine wo_step (v := (.b c5)) (s_pure (p_mv g5)) ?_
      refine wo_nil ?_
      refine nx_norm ?_
      have hq := cond_inv hr
      clear hr
      rcases hq with ⟨rfl, hr⟩ | ⟨rfl, hr⟩
      · refine w_condT rfl ?_
        refine w_skip ?_
        refine nx_norm ?_
        refine w_block ?_
        refine w_seq ?_
        refine w_ops ?_
        refine wo_step (v := (.b false)) (s_pure (p_mv rfl)) ?_
        refine wo_nil ?_
        refine nx_norm ?_
        refine w_seq ?_
        refine w_ops ?_
        refine wo_step (v := (.i .i64 0)) (s_pure (p_mv rfl)) ?_
        refine wo_nil ?_
        refine nx_norm ?_
        refine w_block ?_
        have hq := bindO_inv hr
        clear hr
        obtain ⟨o_9, hl_1, hr⟩ := hq
        obtain ⟨n_1, hl_1⟩ := hM.loop _ _ _ hl_1
        refine jp_mono (w_loop _ (g65_I2 x0 v11) (g65_J2 x0 v11) ?_ n_1 _ _ _ _ hl_1 ⟨rfl, gl rfl, gl rfl, gl g0, gl g3⟩) ?_
        · clear hr hl_1
          intro s mm_10 t_4 o hi hr
          obtain ⟨c5_1, x6, m_6⟩ := s
          obtain ⟨rfl, g5, g6, g0, g3⟩ := hi
          unfold g65_b2 at hr
          refine w_seq ?_
          refine w_seq ?_
          refine w_ops ?_
          refine wo_step (v := (.i .i64 x6)) (s_pure (p_mv g6)) ?_
          have hq := forceB_inv hr
          clear hr
          obtain ⟨c21, e21, hr⟩ := hq
          refine wo_step (v := (.b c21)) (s_pure (p_bin rfl rfl (b_lss.trans (cb e21)))) ?_
          refine wo_nil ?_
          refine nx_norm ?_
          have hq := cond_inv hr
          clear hr
          rcases hq with ⟨rfl, hr⟩ | ⟨rfl, hr⟩
          · refine w_condT rfl ?_
            refine w_skip ?_
            refine nx_norm ?_
            refine w_seq ?_
            refine w_block ?_
            refine w_seq ?_
            refine w_ops ?_
            refine wo_step (v := (.b false)) (s_pure (p_mv rfl)) ?_
            refine wo_step (v := (.b false)) (s_pure (p_mv rfl)) ?_
            refine wo_nil ?_
            refine nx_norm ?_
            refine w_seq ?_
            refine w_seq ?_
            refine w_ops ?_
            refine wo_step (v := (.i .i64 0)) (s_pure (p_mv rfl)) ?_
            refine wo_nil ?_
            refine nx_norm ?_
            refine w_block ?_
            have hq := bindO_inv hr
            clear hr
            obtain ⟨o_5, hl, hr⟩ := hq
            obtain ⟨n, hl⟩ := hM.loop _ _ _ hl
            refine jp_mono (w_loop _ (g65_I3 x0 v11 c5_1 x6) (g65_J3 x0 v11 c5_1 x6) ?_ n _ _ _ _ hl ⟨rfl, gl rfl, gl rfl, gl rfl, gl g0, gl g3, gl g5, gl g6⟩) ?_
            · clear hr hl
              intro s mm_8 t_5 o hi hr
              obtain ⟨c7, c8, x9, m_7⟩ := s
              obtain ⟨rfl, g7, g8, g9, g0, g3, g5, g6⟩ := hi
              unfold g65_b3 at hr
              refine w_seq ?_
              refine w_seq ?_
              refine w_ops ?_
              refine wo_step (v := (.i .i64 x9)) (s_pure (p_mv g9)) ?_
              have hq := forceB_inv hr
              clear hr
              obtain ⟨c25, e25, hr⟩ := hq
              refine wo_step (v := (.b c25)) (s_pure (p_bin rfl rfl (b_lss.trans (cb e25)))) ?_
              refine wo_nil ?_
              refine nx_norm ?_
              have hq := cond_inv hr
              clear hr
              rcases hq with ⟨rfl, hr⟩ | ⟨rfl, hr⟩
              · refine w_condT rfl ?_
                refine w_skip ?_
                refine nx_norm ?_
                refine w_seq ?_
                refine w_block ?_
                refine w_seq ?_
                refine w_ops ?_
                refine wo_step (v := (.b c7)) (s_pure (p_mv g7)) ?_
                refine wo_step (v := (.b c7)) (s_pure (p_mv rfl)) ?_
                have hq := bindO_inv hr
                clear hr
                obtain ⟨o_1, hr, hk⟩ := hq
                refine wo_join 17 (g65_J4 x0 v11 c5_1 x6 c8 x9 o_1) ?_ ?_
                · clear hk
                  have hq := cond_inv hr
                  clear hr
                  rcases hq with ⟨rfl, hr⟩ | ⟨rfl, hr⟩
                  · refine wo_skip (v := (.b true)) rfl rfl ?_
                    refine wo_skip (v := (.b true)) rfl rfl ?_
                    refine wo_skip (v := (.b true)) rfl rfl ?_
                    refine wo_skip (v := (.b true)) rfl rfl ?_
                    refine wo_skip (v := (.b true)) rfl rfl ?_
                    refine wo_skip (v := und) rfl rfl ?_
                    refine wo_skip (v := und) rfl rfl ?_
                    refine wo_skip (v := und) rfl rfl ?_
                    refine wo_skip (v := und) rfl rfl ?_
                    refine wo_skip (v := und) rfl rfl ?_
                    refine wo_skip (v := und) rfl rfl ?_
                    refine wo_skip (v := und) rfl rfl ?_
                    refine wo_skip (v := und) rfl rfl ?_
                    refine wo_skip (v := und) rfl rfl ?_
                    refine wo_skip (v := und) rfl rfl ?_
                    refine wo_skip (v := (.b true)) rfl rfl ?_
                    refine wo_step (v := (.b true)) (s_pure (p_pickT rfl rfl)) ?_
                    refine wo_nil ?_
                    cases hr
                    exact ⟨_, _, rfl, rfl, gl rfl, gl g0, gl g3, gl g5, gl g6, gl g8, gl g9⟩
                  · refine wo_take (v := v11) rfl (s_pure (p_mv g3)) ?_
                    refine wo_take (v := (.i .i64 x9)) rfl (s_pure (p_mv g9)) ?_
                    have hq := bindO_inv hr
                    clear hr
                    obtain ⟨v32, e32, hr⟩ := hq
                    refine wo_take (v := v32) rfl (s_pure (o_ixS rfl rfl e32)) ?_
                    have hq := bindO_inv hr
                    clear hr
                    obtain ⟨v33, e33, hr⟩ := hq
                    have hq := asB_inv hr
                    clear hr
                    obtain ⟨c33, rfl, hr⟩ := hq
                    refine wo_take (v := (.b c33)) rfl (s_ld rfl e33) ?_
                    refine wo_take (v := (.b c33)) rfl (s_pure (p_mv rfl)) ?_
                    have hq := bindO_inv hr
                    clear hr
                    obtain ⟨o_2, hr, hk⟩ := hq
                    refine wo_join 12 (g65_J5 x0 v11 c5_1 x6 c8 x9 o_2) ?_ ?_
                    · clear hk
                      have hq := cond_inv hr
                      clear hr
                      rcases hq with ⟨rfl, hr⟩ | ⟨rfl, hr⟩
                      · refine wo_take (v := (.i .i64 x0)) rfl (s_pure (p_mv g0)) ?_
                        refine wo_take (v := (.i .i64 x6)) rfl (s_pure (p_mv g6)) ?_
                        have hq := forceI_inv hr
                        clear hr
                        obtain ⟨x37, e37, hr⟩ := hq
                        refine wo_take (v := (.i .i64 x37)) rfl (s_pure (p_bin rfl rfl ((b_quo rfl).trans (ci e37)))) ?_
                        refine wo_take (v := (.i .i64 x6)) rfl (s_pure (p_mv g6)) ?_
                        have hq := forceI_inv hr
                        clear hr
                        obtain ⟨x39, e39, hr⟩ := hq
                        refine wo_take (v := (.i .i64 x39)) rfl (s_pure (p_bin rfl rfl ((b_rem rfl).trans (ci e39)))) ?_
                        refine wo_take (v := (.i .i64 x9)) rfl (s_pure (p_mv g9)) ?_
                        have hq := forceI_inv hr
                        clear hr
                        obtain ⟨x41, e41, hr⟩ := hq
                        refine wo_take (v := (.i .i64 x41)) rfl (s_pure (p_bin rfl rfl ((b_quo rfl).trans (ci e41)))) ?_
                        refine wo_take (v := (.i .i64 x9)) rfl (s_pure (p_mv g9)) ?_
                        have hq := forceI_inv hr
                        clear hr
                        obtain ⟨x43, e43, hr⟩ := hq
                        refine wo_take (v := (.i .i64 x43)) rfl (s_pure (p_bin rfl rfl ((b_rem rfl).trans (ci e43)))) ?_
                        have hq := bindP_inv hr
                        clear hr
                        obtain ⟨v44, m_10, e44, hr⟩ := hq
                        have hq := asB_inv hr
                        clear hr
                        obtain ⟨c44, rfl, hr⟩ := hq
                        refine wo_take (v := (.b c44)) rfl (s_call (mc rfl (mc rfl (mc rfl (mc rfl (mc rfl mn))))) (callM_le hM.call e44)) ?_
                        refine wo_take (v := (.b c44)) rfl (s_pure (p_pickT rfl rfl)) ?_
                        refine wo_step (v := (.b c44)) (s_pure (p_pickF rfl rfl)) ?_
                        refine wo_nil ?_
                        cases hr
                        exact ⟨_, _, rfl, rfl, gl rfl, gl g0, gl g3, gl g5, gl g6, gl g8, gl g9⟩
                      · refine wo_skip (v := (.b false)) rfl rfl ?_
                        refine wo_skip (v := (.b false)) rfl rfl ?_
                        refine wo_skip (v := (.b false)) rfl rfl ?_
                        refine wo_skip (v := (.b false)) rfl rfl ?_
                        refine wo_skip (v := (.b false)) rfl rfl ?_
                        refine wo_skip (v := (.b false)) rfl rfl ?_
                        refine wo_skip (v := (.b false)) rfl rfl ?_
                        refine wo_skip (v := (.b false)) rfl rfl ?_
                        refine wo_skip (v := (.b false)) rfl rfl ?_
                        refine wo_skip (v := (.b false)) rfl rfl ?_
                        refine wo_take (v := (.b false)) rfl (s_pure (p_pickF rfl rfl)) ?_
                        refine wo_step (v := (.b false)) (s_pure (p_pickF rfl rfl)) ?_
                        refine wo_nil ?_
                        cases hr
                        exact ⟨_, _, rfl, rfl, gl rfl, gl g0, gl g3, gl g5, gl g6, gl g8, gl g9⟩
                    · clear hr
                      have hr := hk
                      clear hk
                      obtain ⟨c46_1, m_9⟩ := o_2
                      rintro mm t_6 ⟨rfl, g46, g0, g3, g5, g6, g8, g9⟩
                      refine wo_nil ?_
                      cases hr
                      exact ⟨_, _, rfl, rfl, gl g46, gl g0, gl g3, gl g5, gl g6, gl g8, gl g9⟩
                · clear hr
                  have hr := hk
                  clear hk
                  obtain ⟨c46, m_8⟩ := o_1
                  rintro mm_1 t_7 ⟨rfl, g46, g0, g3, g5, g6, g8, g9⟩
                  refine wo_step (v := (.b c46)) (s_pure (p_mv g46)) ?_
                  refine wo_nil ?_
                  refine nx_norm ?_
                  refine w_ops ?_
                  refine wo_step (v := (.b c8)) (s_pure (p_mv g8)) ?_
                  refine wo_step (v := (.b c8)) (s_pure (p_mv rfl)) ?_
                  have hq := bindO_inv hr
                  clear hr
                  obtain ⟨o_3, hr, hk⟩ := hq
                  refine wo_join 17 (g65_J6 x0 v11 c5_1 x6 c46 x9 o_3) ?_ ?_
                  · clear hk
                    have hq := cond_inv hr
                    clear hr
                    rcases hq with ⟨rfl, hr⟩ | ⟨rfl, hr⟩
                    · refine wo_skip (v := (.b true)) rfl rfl ?_
                      refine wo_skip (v := (.b true)) rfl rfl ?_
                      refine wo_skip (v := (.b true)) rfl rfl ?_
                      refine wo_skip (v := (.b true)) rfl rfl ?_
                      refine wo_skip (v := (.b true)) rfl rfl ?_
                      refine wo_skip (v := und) rfl rfl ?_
                      refine wo_skip (v := und) rfl rfl ?_
                      refine wo_skip (v := und) rfl rfl ?_
                      refine wo_skip (v := und) rfl rfl ?_
                      refine wo_skip (v := und) rfl rfl ?_
                      refine wo_skip (v := und) rfl rfl ?_
                      refine wo_skip (v := und) rfl rfl ?_
                      refine wo_skip (v := und) rfl rfl ?_
                      refine wo_skip (v := und) rfl rfl ?_
                      refine wo_skip (v := und) rfl rfl ?_
                      refine wo_skip (v := (.b true)) rfl rfl ?_
                      refine wo_step (v := (.b true)) (s_pure (p_pickT rfl rfl)) ?_
                      refine wo_nil ?_
                      cases hr
                      exact ⟨_, _, rfl, rfl, gl rfl, gl g0, gl g3, gl g5, gl g6, gl rfl, gl g9⟩
                    · refine wo_take (v := v11) rfl (s_pure (p_mv g3)) ?_
                      refine wo_take (v := (.i .i64 x9)) rfl (s_pure (p_mv g9)) ?_
                      have hq := bindO_inv hr
                      clear hr
                      obtain ⟨v51, e51, hr⟩ := hq
                      refine wo_take (v := v51) rfl (s_pure (o_ixS rfl rfl e51)) ?_
                      have hq := bindO_inv hr
                      clear hr
                      obtain ⟨v52, e52, hr⟩ := hq
                      have hq := asB_inv hr
                      clear hr
                      obtain ⟨c52, rfl, hr⟩ := hq
                      refine wo_take (v := (.b c52)) rfl (s_ld rfl e52) ?_
                      refine wo_take (v := (.b c52)) rfl (s_pure (p_mv rfl)) ?_
                      have hq := bindO_inv hr
                      clear hr
                      obtain ⟨o_4, hr, hk⟩ := hq
                      refine wo_join 12 (g65_J7 x0 v11 c5_1 x6 c46 x9 o_4) ?_ ?_
                      · clear hk
                        have hq := cond_inv hr
                        clear hr
                        rcases hq with ⟨rfl, hr⟩ | ⟨rfl, hr⟩
                        · refine wo_take (v := (.i .i64 x0)) rfl (s_pure (p_mv g0)) ?_
                          refine wo_take (v := (.i .i64 x9)) rfl (s_pure (p_mv g9)) ?_
                          have hq := forceI_inv hr
                          clear hr
                          obtain ⟨x56, e56, hr⟩ := hq
                          refine wo_take (v := (.i .i64 x56)) rfl (s_pure (p_bin rfl rfl ((b_quo rfl).trans (ci e56)))) ?_
                          refine wo_take (v := (.i .i64 x9)) rfl (s_pure (p_mv g9)) ?_
                          have hq := forceI_inv hr
                          clear hr
                          obtain ⟨x58, e58, hr⟩ := hq
                          refine wo_take (v := (.i .i64 x58)) rfl (s_pure (p_bin rfl rfl ((b_rem rfl).trans (ci e58)))) ?_
                          refine wo_take (v := (.i .i64 x6)) rfl (s_pure (p_mv g6)) ?_
                          have hq := forceI_inv hr
                          clear hr
                          obtain ⟨x60, e60, hr⟩ := hq
                          refine wo_take (v := (.i .i64 x60)) rfl (s_pure (p_bin rfl rfl ((b_quo rfl).trans (ci e60)))) ?_
                          refine wo_take (v := (.i .i64 x6)) rfl (s_pure (p_mv g6)) ?_
                          have hq := forceI_inv hr
                          clear hr
                          obtain ⟨x62, e62, hr⟩ := hq
                          refine wo_take (v := (.i .i64 x62)) rfl (s_pure (p_bin rfl rfl ((b_rem rfl).trans (ci e62)))) ?_
                          have hq := bindP_inv hr
                          clear hr
                          obtain ⟨v63, m_13, e63, hr⟩ := hq
                          have hq := asB_inv hr
                          clear hr
                          obtain ⟨c63, rfl, hr⟩ := hq
                          refine wo_take (v := (.b c63)) rfl (s_call (mc rfl (mc rfl (mc rfl (mc rfl (mc rfl mn))))) (callM_le hM.call e63)) ?_
                          refine wo_take (v := (.b c63)) rfl (s_pure (p_pickT rfl rfl)) ?_
                          refine wo_step (v := (.b c63)) (s_pure (p_pickF rfl rfl)) ?_
                          refine wo_nil ?_
                          cases hr
                          exact ⟨_, _, rfl, rfl, gl rfl, gl g0, gl g3, gl g5, gl g6, gl rfl, gl g9⟩
                        · refine wo_skip (v := (.b false)) rfl rfl ?_
                          refine wo_skip (v := (.b false)) rfl rfl ?_
                          refine wo_skip (v := (.b false)) rfl rfl ?_
                          refine wo_skip (v := (.b false)) rfl rfl ?_
                          refine wo_skip (v := (.b false)) rfl rfl ?_
                          refine wo_skip (v := (.b false)) rfl rfl ?_
                          refine wo_skip (v := (.b false)) rfl rfl ?_
                          refine wo_skip (v := (.b false)) rfl rfl ?_
                          refine wo_skip (v := (.b false)) rfl rfl ?_
                          refine wo_skip (v := (.b false)) rfl rfl ?_
                          refine wo_take (v := (.b false)) rfl (s_pure (p_pickF rfl rfl)) ?_
                          refine wo_step (v := (.b false)) (s_pure (p_pickF rfl rfl)) ?_
                          refine wo_nil ?_
                          cases hr
                          exact ⟨_, _, rfl, rfl, gl rfl, gl g0, gl g3, gl g5, gl g6, gl rfl, gl g9⟩
                      · clear hr
                        have hr := hk
                        clear hk
                        obtain ⟨c65_1, m_12⟩ := o_4
                        rintro mm_2 t_8 ⟨rfl, g65, g0, g3, g5, g6, g7, g9⟩
                        refine wo_nil ?_
                        cases hr
                        exact ⟨_, _, rfl, rfl, gl g65, gl g0, gl g3, gl g5, gl g6, gl g7, gl g9⟩
                  · clear hr
                    have hr := hk
                    clear hk
                    obtain ⟨c65, m_11⟩ := o_3
                    rintro mm_3 t_9 ⟨rfl, g65, g0, g3, g5, g6, g7, g9⟩
                    refine wo_step (v := (.b c65)) (s_pure (p_mv g65)) ?_
                    refine wo_nil ?_
                    refine bk_norm ?_
                    refine nx_norm ?_
                    refine w_ops ?_
                    refine wo_step (v := (.i .i64 x9)) (s_pure (p_mv g9)) ?_
                    have hq := forceI_inv hr
                    clear hr
                    obtain ⟨x27, e27, hr⟩ := hq
                    refine wo_step (v := (.i .i64 x27)) (s_pure (p_bin rfl rfl (b_add.trans (ci e27)))) ?_
                    refine wo_step (v := (.i .i64 x27)) (s_pure (p_mv rfl)) ?_
                    refine wo_nil ?_
                    cases hr
                    exact ⟨_, _, rfl, rfl, rfl, gl g7, gl rfl, gl rfl, gl g0, gl g3, gl g5, gl g6⟩
              · refine w_condF rfl ?_
                refine w_exit ?_
                refine nx_exit ?_
                cases hr
                exact ⟨_, _, rfl, ne_norm_exit, rfl, rfl, gl g7, gl g8, gl g0, gl g3, gl g5, gl g6⟩
            · obtain ⟨c7_1, c8_1, m_14⟩ := o_5
              rintro _ mm_7 t_10 ⟨rfl, rfl, g7, g8, g0, g3, g5, g6⟩
              refine bk_hit ?_
              refine nx_norm ?_
              refine w_seq ?_
              refine w_ops ?_
              refine wo_step (v := v11) (s_pure (p_mv g3)) ?_
              refine wo_step (v := (.i .i64 x6)) (s_pure (p_mv g6)) ?_
              have hq := bindO_inv hr
              clear hr
              obtain ⟨v68, e68, hr⟩ := hq
              refine wo_step (v := v68) (s_pure (o_ixS rfl rfl e68)) ?_
              have hq := bindO_inv hr
              clear hr
              obtain ⟨v69, e69, hr⟩ := hq
              have hq := asB_inv hr
              clear hr
              obtain ⟨c69, rfl, hr⟩ := hq
              refine wo_step (v := (.b c69)) (s_ld rfl e69) ?_
              refine wo_step (v := (.b c69)) (s_pure (p_mv rfl)) ?_
              have hq := bindO_inv hr
              clear hr
              obtain ⟨o_6, hr, hk⟩ := hq
              refine wo_join 6 (g65_J8 x0 v11 c5_1 x6 m_14 o_6) ?_ ?_
              · clear hk
                have hq := cond_inv hr
                clear hr
                rcases hq with ⟨rfl, hr⟩ | ⟨rfl, hr⟩
                · refine wo_take (v := (.b c7_1)) rfl (s_pure (p_mv g7)) ?_
                  refine wo_take (v := (.b c7_1)) rfl (s_pure (p_mv rfl)) ?_
                  have hq := bindO_inv hr
                  clear hr
                  obtain ⟨o_7, hr, hk⟩ := hq
                  refine wo_join 4 (g65_J9 x0 v11 c5_1 x6 m_14 o_7) ?_ ?_
                  · clear hk
                    have hq := cond_inv hr
                    clear hr
                    rcases hq with ⟨rfl, hr⟩ | ⟨rfl, hr⟩
                    · refine wo_take (v := (.b c8_1)) rfl (s_pure (p_mv g8)) ?_
                      refine wo_take (v := (.b c8_1)) rfl (s_pure (p_pickT rfl rfl)) ?_
                      have hq := forceB_inv hr
                      clear hr
                      obtain ⟨c75, e75, hr⟩ := hq
                      refine wo_take (v := (.b c75)) rfl (s_pure ((p_not rfl).trans (cb e75))) ?_
                      refine wo_step (v := (.b c75)) (s_pure (p_pickT rfl rfl)) ?_
                      refine wo_nil ?_
                      cases hr
                      exact ⟨_, _, rfl, rfl, gl rfl, gl g0, gl g3, gl g5, gl g6⟩
                    · refine wo_skip (v := (.b false)) rfl rfl ?_
                      refine wo_take (v := (.b false)) rfl (s_pure (p_pickF rfl rfl)) ?_
                      have hq := forceB_inv hr
                      clear hr
                      obtain ⟨c75_1, e75_1, hr⟩ := hq
                      refine wo_take (v := (.b c75_1)) rfl (s_pure ((p_not rfl).trans (cb e75_1))) ?_
                      refine wo_step (v := (.b c75_1)) (s_pure (p_pickT rfl rfl)) ?_
                      refine wo_nil ?_
                      cases hr
                      exact ⟨_, _, rfl, rfl, gl rfl, gl g0, gl g3, gl g5, gl g6⟩
                  · clear hr
                    have hr := hk
                    clear hk
                    obtain ⟨c76_1, ho⟩ : ∃ z, z = o_7 := ⟨_, rfl⟩
                    subst ho
                    rintro mm_4 t_11 ⟨rfl, g76, g0, g3, g5, g6⟩
                    refine wo_nil ?_
                    cases hr
                    exact ⟨_, _, rfl, rfl, gl g76, gl g0, gl g3, gl g5, gl g6⟩
                · refine wo_skip (v := (.b false)) rfl rfl ?_
                  refine wo_skip (v := (.b false)) rfl rfl ?_
                  refine wo_skip (v := und) rfl rfl ?_
                  refine wo_skip (v := (.b false)) rfl rfl ?_
                  refine wo_skip (v := (.b false)) rfl rfl ?_
                  refine wo_step (v := (.b false)) (s_pure (p_pickF rfl rfl)) ?_
                  refine wo_nil ?_
                  cases hr
                  exact ⟨_, _, rfl, rfl, gl rfl, gl g0, gl g3, gl g5, gl g6⟩
              · clear hr
                have hr := hk
                clear hk
                obtain ⟨c76, ho⟩ : ∃ z, z = o_6 := ⟨_, rfl⟩
                subst ho
                rintro mm_5 t_12 ⟨rfl, g76, g0, g3, g5, g6⟩
                refine wo_nil ?_
                refine nx_norm ?_
                have hq := bindO_inv hr
                clear hr
                obtain ⟨o_8, hr, hk⟩ := hq
                refine jp_mono (J := g65_J10 x0 v11 x6 o_8) ?_ ?_
                · clear hk
                  have hq := cond_inv hr
                  clear hr
                  rcases hq with ⟨rfl, hr⟩ | ⟨rfl, hr⟩
                  · refine w_condT g76 ?_
                    refine w_seq ?_
                    refine w_ops ?_
                    refine wo_step (v := v11) (s_pure (p_mv g3)) ?_
                    refine wo_step (v := (.i .i64 x6)) (s_pure (p_mv g6)) ?_
                    have hq := bindO_inv hr
                    clear hr
                    obtain ⟨v79, e79, hr⟩ := hq
                    refine wo_step (v := v79) (s_pure (o_ixS rfl rfl e79)) ?_
                    have hq := bindP_inv hr
                    clear hr
                    obtain ⟨vn_1, m_15, en_1, hr⟩ := hq
                    refine wo_stepN (s_st rfl rfl en_1) ?_
                    refine wo_nil ?_
                    refine nx_norm ?_
                    refine w_ops ?_
                    refine wo_step (v := (.b true)) (s_pure (p_mv rfl)) ?_
                    refine wo_nil ?_
                    cases hr
                    exact ⟨_, _, rfl, rfl, rfl, gl rfl, gl g0, gl g3, gl g6⟩
                  · refine w_condF g76 ?_
                    refine w_skip ?_
                    cases hr
                    exact ⟨_, _, rfl, rfl, rfl, gl g5, gl g0, gl g3, gl g6⟩
                · have hr := hk
                  clear hk
                  obtain ⟨c5_2, m_16⟩ := o_8
                  rintro _ mm_6 t_13 ⟨rfl, rfl, g5, g0, g3, g6⟩
                  refine bk_norm ?_
                  refine nx_norm ?_
                  refine w_ops ?_
                  refine wo_step (v := (.i .i64 x6)) (s_pure (p_mv g6)) ?_
                  have hq := forceI_inv hr
                  clear hr
                  obtain ⟨x23, e23, hr⟩ := hq
                  refine wo_step (v := (.i .i64 x23)) (s_pure (p_bin rfl rfl (b_add.trans (ci e23)))) ?_
                  refine wo_step (v := (.i .i64 x23)) (s_pure (p_mv rfl)) ?_
                  refine wo_nil ?_
                  cases hr
                  exact ⟨_, _, rfl, rfl, rfl, gl g5, gl rfl, gl g0, gl g3⟩
          · refine w_condF rfl ?_
            refine w_exit ?_
            refine nx_exit ?_
            cases hr
            exact ⟨_, _, rfl, ne_norm_exit, rfl, rfl, gl g5, gl g0, gl g3⟩
        · obtain ⟨c5_3, m_17⟩ := o_9
          rintro _ mm_9 t_14 ⟨rfl, rfl, g5, g0, g3⟩
          refine bk_hit ?_
          refine bk_norm ?_
          cases hr
          exact ⟨_, _, rfl, rfl, rfl, gl g5, gl g0, gl g3⟩
      · refine w_condF rfl ?_
        refine w_exit ?_
        refine nx_exit ?_
        cases hr
        exact ⟨_, _, rfl, ne_norm_exit, rfl, rfl, gl g3⟩
    · obtain ⟨m_18, ho⟩ : ∃ z, z = o_10 := ⟨_, rfl⟩
      subst ho
      rintro _ mm_15 t_15 ⟨rfl, rfl, g3⟩
      refine bk_hit ?_
      refine nx_norm ?_
      refine w_seq ?_
      refine w_seq ?_
      refine w_ops ?_
      refine wo_step (v := (.i .i64 0)) (s_pure (p_mv rfl)) ?_
      refine wo_nil ?_
      refine nx_norm ?_
      refine w_block ?_
      have hq := bindO_inv hr
      clear hr
      obtain ⟨o_12, hl_2, hr⟩ := hq
      obtain ⟨n_2, hl_2⟩ := hM.loop _ _ _ hl_2
      refine jp_mono (w_loop _ (g65_I11 v11 m_18) (g65_J11 v11 m_18) ?_ n_2 _ _ _ _ hl_2 ⟨rfl, gl rfl, gl g3⟩) ?_
      · clear hr hl_2
        intro s mm_14 t_16 o hi hr
        obtain ⟨x10, hs⟩ : ∃ z, z = s := ⟨_, rfl⟩
        subst hs
        obtain ⟨rfl, g10, g3⟩ := hi
        unfold g65_b11 at hr
        refine w_seq ?_
        refine w_seq ?_
        refine w_ops ?_
        refine wo_step (v := (.i .i64 x10)) (s_pure (p_mv g10)) ?_
        have hq := forceB_inv hr
        clear hr
        obtain ⟨c81, e81, hr⟩ := hq
        refine wo_step (v := (.b c81)) (s_pure (p_bin rfl rfl (b_lss.trans (cb e81)))) ?_
        refine wo_nil ?_
        refine nx_norm ?_
        have hq := cond_inv hr
        clear hr
        rcases hq with ⟨rfl, hr⟩ | ⟨rfl, hr⟩
        · refine w_condT rfl ?_
          refine w_skip ?_
          refine nx_norm ?_
          refine w_seq ?_
          refine w_block ?_
          refine w_seq ?_
          refine w_ops ?_
          refine wo_step (v := v11) (s_pure (p_mv g3)) ?_
          refine wo_step (v := (.i .i64 x10)) (s_pure (p_mv g10)) ?_
          have hq := bindO_inv hr
          clear hr
          obtain ⟨v86, e86, hr⟩ := hq
          refine wo_step (v := v86) (s_pure (o_ixS rfl rfl e86)) ?_
          have hq := bindO_inv hr
          clear hr
          obtain ⟨v87, e87, hr⟩ := hq
          have hq := asB_inv hr
          clear hr
          obtain ⟨c87, rfl, hr⟩ := hq
          refine wo_step (v := (.b c87)) (s_ld rfl e87) ?_
          refine wo_step (v := (.b c87)) (s_pure (p_mv rfl)) ?_
          have hq := bindO_inv hr
          clear hr
          obtain ⟨o_11, hr, hk⟩ := hq
          refine wo_join 6 (g65_J12 v11 x10 m_18 o_11) ?_ ?_
          · clear hk
            have hq := cond_inv hr
            clear hr
            rcases hq with ⟨rfl, hr⟩ | ⟨rfl, hr⟩
            · refine wo_take (v := (.i .i64 x10)) rfl (s_pure (p_mv g10)) ?_
              have hq := forceI_inv hr
              clear hr
              obtain ⟨x90, e90, hr⟩ := hq
              refine wo_take (v := (.i .i64 x90)) rfl (s_pure (p_bin rfl rfl ((b_quo rfl).trans (ci e90)))) ?_
              refine wo_take (v := (.i .i64 x10)) rfl (s_pure (p_mv g10)) ?_
              have hq := forceI_inv hr
              clear hr
              obtain ⟨x92, e92, hr⟩ := hq
              refine wo_take (v := (.i .i64 x92)) rfl (s_pure (p_bin rfl rfl ((b_rem rfl).trans (ci e92)))) ?_
              have hq := forceB_inv hr
              clear hr
              obtain ⟨c93, e93, hr⟩ := hq
              refine wo_take (v := (.b c93)) rfl (s_pure (p_bin rfl rfl (b_neq.trans (cb e93)))) ?_
              refine wo_step (v := (.b c93)) (s_pure (p_pickT rfl rfl)) ?_
              refine wo_nil ?_
              cases hr
              exact ⟨_, _, rfl, rfl, gl rfl, gl g3, gl g10⟩
            · refine wo_skip (v := (.b false)) rfl rfl ?_
              refine wo_skip (v := (.b false)) rfl rfl ?_
              refine wo_skip (v := (.b false)) rfl rfl ?_
              refine wo_skip (v := (.b false)) rfl rfl ?_
              refine wo_skip (v := (.b false)) rfl rfl ?_
              refine wo_step (v := (.b false)) (s_pure (p_pickF rfl rfl)) ?_
              refine wo_nil ?_
              cases hr
              exact ⟨_, _, rfl, rfl, gl rfl, gl g3, gl g10⟩
          · clear hr
            have hr := hk
            clear hk
            obtain ⟨c94, ho⟩ : ∃ z, z = o_11 := ⟨_, rfl⟩
            subst ho
            rintro mm_11 t_17 ⟨rfl, g94, g3, g10⟩
            refine wo_nil ?_
            refine nx_norm ?_
            have hq := cond_inv hr
            clear hr
            rcases hq with ⟨rfl, hr⟩ | ⟨rfl, hr⟩
            · refine w_condT g94 ?_
              refine w_seq ?_
              refine w_ops ?_
              refine wo_step (v := (.b false)) (s_pure (p_mv rfl)) ?_
              refine wo_nil ?_
              refine nx_norm ?_
              refine w_ret ?_
              refine bk_ret ?_
              refine nx_ret ?_
              cases hr
              exact ⟨_, _, rfl, ne_norm_ret, rfl, rfl, gl rfl⟩
            · refine w_condF g94 ?_
              refine w_skip ?_
              refine bk_norm ?_
              refine nx_norm ?_
              refine w_ops ?_
              refine wo_step (v := (.i .i64 x10)) (s_pure (p_mv g10)) ?_
              have hq := forceI_inv hr
              clear hr
              obtain ⟨x83, e83, hr⟩ := hq
              refine wo_step (v := (.i .i64 x83)) (s_pure (p_bin rfl rfl (b_add.trans (ci e83)))) ?_
              refine wo_step (v := (.i .i64 x83)) (s_pure (p_mv rfl)) ?_
              refine wo_nil ?_
              cases hr
              exact ⟨_, _, rfl, rfl, rfl, gl rfl, gl g3⟩
        · refine w_condF rfl ?_
          refine w_exit ?_
          refine nx_exit ?_
          cases hr
          exact ⟨_, _, rfl, ne_norm_exit, rfl, rfl⟩
      · rcases o_12 with o_12 | o_12
        · rintro _ mm_12 t_18 ⟨rfl, rfl⟩
          refine bk_hit ?_
          refine nx_norm ?_
          refine w_seq ?_
          refine w_ops ?_
          refine wo_step (v := (.b true)) (s_pure (p_mv rfl)) ?_
          refine wo_nil ?_
          refine nx_norm ?_
          refine w_ret ?_
          exact qf ret_ok (rt rfl rn) hr
        · obtain ⟨c2, ho⟩ : ∃ z, z = o_12 := ⟨_, rfl⟩
          subst ho
          rintro _ mm_13 t_19 ⟨rfl, rfl, g2⟩
          refine bk_ret ?_
          refine nx_ret ?_
          exact qf ret_ok (rt g2 rn) hr

/- (dibber/weed.rule).twins -/
abbrev g66_I0 (x0 : Int) (x1 : Int) (v20 : AVal) (v21 : AVal) (x23 : Int) (s : Int × Mm) (m1 : Mm) (t1 : Tr) : Prop :=
  match s with
  | (x24, m_3) => m_3 = m1 ∧ t1.get 24 = (.i .i64 x24) ∧ t1.get 0 = (.i .u8 x0) ∧ t1.get 1 = (.i .i64 x1) ∧ t1.get 7 = v20 ∧ t1.get 8 = v21 ∧ t1.get 23 = (.i .i64 x23)
abbrev g66_J0 (x0 : Int) (x1 : Int) (v20 : AVal) (v21 : AVal) (x23 : Int) (o : Mm) (e : AExit) (m1 : Mm) (t1 : Tr) : Prop :=
  match o with
  | mo => e = (.exit 0) ∧ mo = m1 ∧ t1.get 1 = (.i .i64 x1) ∧ t1.get 8 = v21
abbrev g66_J1 (x0 : Int) (x1 : Int) (v20 : AVal) (v21 : AVal) (x23 : Int) (x24 : Int) (o : Mm) (e : AExit) (m1 : Mm) (t1 : Tr) : Prop :=
  match o with
  | mo => e = .norm ∧ mo = m1 ∧ t1.get 0 = (.i .u8 x0) ∧ t1.get 1 = (.i .i64 x1) ∧ t1.get 7 = v20 ∧ t1.get 8 = v21 ∧ t1.get 23 = (.i .i64 x23) ∧ t1.get 24 = (.i .i64 x24)
abbrev g66_J2 (x0 : Int) (x1 : Int) (v20 : AVal) (v21 : AVal) (x23 : Int) (x24 : Int) (o : Mm) (e : AExit) (m1 : Mm) (t1 : Tr) : Prop :=
  match o with
  | mo => e = .norm ∧ mo = m1 ∧ t1.get 0 = (.i .u8 x0) ∧ t1.get 1 = (.i .i64 x1) ∧ t1.get 7 = v20 ∧ t1.get 8 = v21 ∧ t1.get 23 = (.i .i64 x23) ∧ t1.get 24 = (.i .i64 x24)
def g66_b0 (M : Means) (ro : List ABlk) (x0 : Int) (x1 : Int) (v20 : AVal) (v21 : AVal) (x23 : Int) (x24 : Int) (m_3 : Mm) : Option ((Int × Mm) ⊕ (Mm)) :=
  forceB (ltI x24 x23) fun c25 =>
  cond c25 (
    bindP (callM M.call m_3 81 [(.i .i64 x24), (.i .i64 x1)]) fun v29 m_4 =>
    asS v29 fun s29 =>
    bindP (callM M.call m_4 51 [(.i .u8 x0), (.s s29)]) fun v32 m_5 =>
    asS v32 fun s32 =>
    bindP (stepM ro m_5 (.mlk true (AVal.s []) (.c v20) (.c (.s s32)))) fun v36 m_6 =>
    bindO (evP .e (.ext 0 (.c v36))) fun v37 =>
    asS v37 fun s37 =>
    bindO (evP .e (.ext 1 (.c v36))) fun v38 =>
    asB v38 fun c38 =>
    forceB (!c38) fun c40 =>
    bindO (α := Mm) (
      cond c40 (
        bindP (stepM ro m_6 (.mup (.c v20) (.c (.s s32)) (.c (.s s29)))) fun vn m_7 =>
        some m_7) (
        bindP (stepM ro m_6 (.mlk false (AVal.s []) (.c v20) (.c (.s s32)))) fun v48 m_8 =>
        asS v48 fun s48 =>
        bindP (stepM ro m_8 (.mlk true (AVal.s []) (.c v21) (.c (.s s48)))) fun v49 m_9 =>
        bindO (evP .e (.ext 0 (.c v49))) fun v50 =>
        asS v50 fun s50 =>
        bindO (evP .e (.ext 1 (.c v49))) fun v51 =>
        asB v51 fun c51 =>
        forceB (!c51) fun c53 =>
        bindO (α := Mm) (
          cond c53 (
            bindP (stepM ro m_9 (.mlk false (AVal.s []) (.c v20) (.c (.s s32)))) fun v57 m_10 =>
            asS v57 fun s57 =>
            bindP (stepM ro m_10 (.mup (.c v21) (.c (.s s57)) (.c (.s s29)))) fun vn_1 m_11 =>
            some m_11) (
            some m_9)) fun m_12 =>
        some m_12)) fun m_13 =>
    forceI (wr .i64 (x24 + 1)) fun x59 =>
    some (.inl (x59, m_13))) (
    some (.inr m_3))
abbrev g66_I3 (x1 : Int) (v21 : AVal) (x61 : Int) (s : Int × Mm) (m1 : Mm) (t1 : Tr) : Prop :=
  match s with
  | (x62, m_15) => m_15 = m1 ∧ t1.get 62 = (.i .i64 x62) ∧ t1.get 1 = (.i .i64 x1) ∧ t1.get 8 = v21 ∧ t1.get 61 = (.i .i64 x61)
abbrev g66_J3 (x1 : Int) (v21 : AVal) (x61 : Int) (o : (Mm ⊕ (List UInt8 × List UInt8 × Bool × Mm))) (e : AExit) (m1 : Mm) (t1 : Tr) : Prop :=
  match o with
  | (.inl mo) => e = (.exit 2) ∧ mo = m1
  | (.inr (y4, y5, y6, mo)) => e = .ret ∧ mo = m1 ∧ t1.get 4 = (.s y4) ∧ t1.get 5 = (.s y5) ∧ t1.get 6 = (.b y6)
def g66_b3 (M : Means) (ro : List ABlk) (x1 : Int) (v21 : AVal) (x61 : Int) (x62 : Int) (m_15 : Mm) : Option ((Int × Mm) ⊕ ((Mm ⊕ (List UInt8 × List UInt8 × Bool × Mm)))) :=
  forceB (ltI x62 x61) fun c63 =>
  cond c63 (
    bindP (callM M.call m_15 81 [(.i .i64 x62), (.i .i64 x1)]) fun v67 m_16 =>
    asS v67 fun s67 =>
    bindP (stepM ro m_16 (.mlk true (AVal.s []) (.c v21) (.c (.s s67)))) fun v71 m_17 =>
    bindO (evP .e (.ext 0 (.c v71))) fun v72 =>
    asS v72 fun s72 =>
    bindO (evP .e (.ext 1 (.c v71))) fun v73 =>
    asB v73 fun c73 =>
    cond c73 (
      some (.inr (.inr (s67, s72, true, m_17)))) (
      forceI (wr .i64 (x62 + 1)) fun x77 =>
      some (.inl (x77, m_17)))) (
    some (.inr (.inl m_15)))
def g66 (M : Means) (ro : List ABlk) (x0 : Int) (x1 : Int) (m0 : Mm) : Option (AVal × Heap × Nat × Nat) :=
  bindP (stepM ro m0 .mkm) fun v20 m_1 =>
  bindP (stepM ro m_1 .mkm) fun v21 m_2 =>
  chk (!ltI x1 (.ofNat 0)) <|
  forceI (shlV .i64 1 x1) fun x23 =>
  bindO (M.loop (S := Int × Mm) (R := Mm) (fun s => g66_b0 M ro x0 x1 v20 v21 x23 s.1 s.2) (0, m_2)) fun m_14 =>
  chk (!ltI x1 (.ofNat 0)) <|
  forceI (shlV .i64 1 x1) fun x61 =>
  bindO (M.loop (S := Int × Mm) (R := (Mm ⊕ (List UInt8 × List UInt8 × Bool × Mm))) (fun s => g66_b3 M ro x1 v21 x61 s.1 s.2) (0, m_14)) fun o_3 => match o_3 with
  | (.inl m_18) =>
    finM m0.h.length (tupA [(AVal.s []), (AVal.s []), (.b false)]) m_18
  | (.inr (s4, s5, c6, m_19)) =>
    finM m0.h.length (tupA [(.s s4), (.s s5), (.b c6)]) m_19

theorem g66_ok {ro : List ABlk} {O : Caller} {M : Means} (hM : M.Ok ⟨F, O⟩ ro) {x0 x1 h r} (ho : O 66 [(.i .u8 x0), (.i .i64 x1)] h = none) (hr : g66 M ro x0 x1 ⟨h, h.length, h.length⟩ = some r) : callX ⟨F, O⟩ ro 66 [(.i .u8 x0), (.i .i64 x1)] h = some r := by
  refine callX_of (F := ⟨F, O⟩) (fn := fn66) (g := g66 M ro x0 x1) ho rfl rfl hr ?_
  clear ho
  clear hr
  intro m0 t0 ht hr
  have g0 : t0.get 0 = (.i .u8 x0) := ht 0
  have g1 : t0.get 1 = (.i .i64 x1) := ht 1
  clear ht
  unfold g66 at hr
  refine w_seq ?_
  refine w_ops ?_
  refine wo_step (v := (AVal.s [])) (s_pure (p_mv rfl)) ?_
  refine wo_step (v := (AVal.s [])) (s_pure (p_mv rfl)) ?_
  refine wo_step (v := (.b false)) (s_pure (p_mv rfl)) ?_
  refine wo_nil ?_
  refine nx_norm ?_
  refine w_seq ?_
  refine w_ops ?_
  have hq := bindP_inv hr
  clear hr
  obtain ⟨v20, m_1, e20, hr⟩ := hq
  refine wo_step (v := v20) (s_mkm e20) ?_
  refine wo_step (v := v20) (s_pure (p_mv rfl)) ?_
  refine wo_nil ?_
  refine nx_norm ?_
  refine w_seq ?_
  refine w_ops ?_
  have hq := bindP_inv hr
  clear hr
  obtain ⟨v21, m_2, e21, hr⟩ := hq
  refine wo_step (v := v21) (s_mkm e21) ?_
  refine wo_step (v := v21) (s_pure (p_mv rfl)) ?_
  refine wo_nil ?_
  refine nx_norm ?_
  refine w_seq ?_
  refine w_seq ?_
  refine w_ops ?_
  refine wo_step (v := (.i .i64 x1)) (s_pure (p_mv g1)) ?_
  have hq := chk_inv hr
  clear hr
  obtain ⟨hc23, hr⟩ := hq
  have hq := forceI_inv hr
  clear hr
  obtain ⟨x23, e23, hr⟩ := hq
  refine wo_step (v := (.i .i64 x23)) (s_pure (p_bin rfl rfl ((b_shl hc23).trans (ci e23)))) ?_
  refine wo_step (v := (.i .i64 0)) (s_pure (p_mv rfl)) ?_
  refine wo_nil ?_
  refine nx_norm ?_
  refine w_block ?_
  have hq := bindO_inv hr
  clear hr
  obtain ⟨o_2, hl_1, hr⟩ := hq
  obtain ⟨n_1, hl_1⟩ := hM.loop _ _ _ hl_1
  refine jp_mono (w_loop _ (g66_I0 x0 x1 v20 v21 x23) (g66_J0 x0 x1 v20 v21 x23) ?_ n_1 _ _ _ _ hl_1 ⟨rfl, gl rfl, gl g0, gl g1, gl rfl, gl rfl, gl rfl⟩) ?_
  · clear hr hl_1
    intro s mm_6 t_1 o hi hr
    obtain ⟨x24, m_3⟩ := s
    obtain ⟨rfl, g24, g0, g1, g7, g8, g23⟩ := hi
    unfold g66_b0 at hr
    refine w_seq ?_
    refine w_ops ?_
    have hq := forceB_inv hr
    clear hr
    obtain ⟨c25, e25, hr⟩ := hq
    refine wo_step (v := (.b c25)) (s_pure (p_bin g24 g23 (b_lss.trans (cb e25)))) ?_
    refine wo_nil ?_
    refine nx_norm ?_
    refine w_seq ?_
    have hq := cond_inv hr
    clear hr
    rcases hq with ⟨rfl, hr⟩ | ⟨rfl, hr⟩
    · refine w_condT rfl ?_
      refine w_skip ?_
      refine nx_norm ?_
      refine w_seq ?_
      refine w_block ?_
      refine w_seq ?_
      refine w_ops ?_
      refine wo_step (v := (.i .i64 x24)) (s_pure (p_mv g24)) ?_
      refine wo_step (v := (.i .i64 x24)) (s_pure (p_mv rfl)) ?_
      refine wo_nil ?_
      refine nx_norm ?_
      refine w_seq ?_
      refine w_ops ?_
      refine wo_step (v := (.i .i64 x24)) (s_pure (p_mv rfl)) ?_
      refine wo_step (v := (.i .i64 x1)) (s_pure (p_mv g1)) ?_
      have hq := bindP_inv hr
      clear hr
      obtain ⟨v29, m_4, e29, hr⟩ := hq
      have hq := asS_inv hr
      clear hr
      obtain ⟨s29, rfl, hr⟩ := hq
      refine wo_step (v := (.s s29)) (s_call (mc rfl (mc rfl mn)) (callM_le hM.call e29)) ?_
      refine wo_step (v := (.s s29)) (s_pure (p_mv rfl)) ?_
      refine wo_nil ?_
      refine nx_norm ?_
      refine w_seq ?_
      refine w_ops ?_
      refine wo_step (v := (.i .u8 x0)) (s_pure (p_mv g0)) ?_
      refine wo_step (v := (.s s29)) (s_pure (p_mv rfl)) ?_
      have hq := bindP_inv hr
      clear hr
      obtain ⟨v32, m_5, e32, hr⟩ := hq
      have hq := asS_inv hr
      clear hr
      obtain ⟨s32, rfl, hr⟩ := hq
      refine wo_step (v := (.s s32)) (s_call (mc rfl (mc rfl mn)) (callM_le hM.call e32)) ?_
      refine wo_step (v := (.s s32)) (s_pure (p_mv rfl)) ?_
      refine wo_nil ?_
      refine nx_norm ?_
      refine w_seq ?_
      refine w_ops ?_
      refine wo_step (v := v20) (s_pure (p_mv g7)) ?_
      refine wo_step (v := (.s s32)) (s_pure (p_mv rfl)) ?_
      have hq := bindP_inv hr
      clear hr
      obtain ⟨v36, m_6, e36, hr⟩ := hq
      refine wo_step (v := v36) (s_mlk rfl rfl e36) ?_
      refine wo_step (v := v36) (s_pure (p_mv rfl)) ?_
      have hq := bindO_inv hr
      clear hr
      obtain ⟨v37, e37, hr⟩ := hq
      have hq := asS_inv hr
      clear hr
      obtain ⟨s37, rfl, hr⟩ := hq
      refine wo_step (v := (.s s37)) (s_pure (o_ext rfl e37)) ?_
      have hq := bindO_inv hr
      clear hr
      obtain ⟨v38, e38, hr⟩ := hq
      have hq := asB_inv hr
      clear hr
      obtain ⟨c38, rfl, hr⟩ := hq
      refine wo_step (v := (.b c38)) (s_pure (o_ext rfl e38)) ?_
      refine wo_step (v := (.s s37)) (s_pure (p_mv rfl)) ?_
      refine wo_step (v := (.b c38)) (s_pure (p_mv rfl)) ?_
      refine wo_nil ?_
      refine nx_norm ?_
      refine w_seq ?_
      refine w_ops ?_
      refine wo_step (v := (.b c38)) (s_pure (p_mv rfl)) ?_
      have hq := forceB_inv hr
      clear hr
      obtain ⟨c40, e40, hr⟩ := hq
      refine wo_step (v := (.b c40)) (s_pure ((p_not rfl).trans (cb e40))) ?_
      refine wo_nil ?_
      refine nx_norm ?_
      have hq := bindO_inv hr
      clear hr
      obtain ⟨o, hr, hk⟩ := hq
      refine jp_mono (J := g66_J1 x0 x1 v20 v21 x23 x24 o) ?_ ?_
      · clear hk
        have hq := cond_inv hr
        clear hr
        rcases hq with ⟨rfl, hr⟩ | ⟨rfl, hr⟩
        · refine w_condT rfl ?_
          refine w_ops ?_
          refine wo_step (v := v20) (s_pure (p_mv g7)) ?_
          refine wo_step (v := (.s s32)) (s_pure (p_mv rfl)) ?_
          refine wo_step (v := (.s s29)) (s_pure (p_mv rfl)) ?_
          have hq := bindP_inv hr
          clear hr
          obtain ⟨vn, m_7, en, hr⟩ := hq
          refine wo_stepN (s_mup rfl rfl rfl en) ?_
          refine wo_nil ?_
          cases hr
          exact ⟨_, _, rfl, rfl, rfl, gl g0, gl g1, gl g7, gl g8, gl g23, gl g24⟩
        · refine w_condF rfl ?_
          refine w_seq ?_
          refine w_ops ?_
          refine wo_step (v := v21) (s_pure (p_mv g8)) ?_
          refine wo_step (v := v20) (s_pure (p_mv g7)) ?_
          refine wo_step (v := (.s s32)) (s_pure (p_mv rfl)) ?_
          have hq := bindP_inv hr
          clear hr
          obtain ⟨v48, m_8, e48, hr⟩ := hq
          have hq := asS_inv hr
          clear hr
          obtain ⟨s48, rfl, hr⟩ := hq
          refine wo_step (v := (.s s48)) (s_mlk rfl rfl e48) ?_
          have hq := bindP_inv hr
          clear hr
          obtain ⟨v49, m_9, e49, hr⟩ := hq
          refine wo_step (v := v49) (s_mlk rfl rfl e49) ?_
          refine wo_step (v := v49) (s_pure (p_mv rfl)) ?_
          have hq := bindO_inv hr
          clear hr
          obtain ⟨v50, e50, hr⟩ := hq
          have hq := asS_inv hr
          clear hr
          obtain ⟨s50, rfl, hr⟩ := hq
          refine wo_step (v := (.s s50)) (s_pure (o_ext rfl e50)) ?_
          have hq := bindO_inv hr
          clear hr
          obtain ⟨v51, e51, hr⟩ := hq
          have hq := asB_inv hr
          clear hr
          obtain ⟨c51, rfl, hr⟩ := hq
          refine wo_step (v := (.b c51)) (s_pure (o_ext rfl e51)) ?_
          refine wo_step (v := (.s s50)) (s_pure (p_mv rfl)) ?_
          refine wo_step (v := (.b c51)) (s_pure (p_mv rfl)) ?_
          refine wo_nil ?_
          refine nx_norm ?_
          refine w_seq ?_
          refine w_ops ?_
          refine wo_step (v := (.b c51)) (s_pure (p_mv rfl)) ?_
          have hq := forceB_inv hr
          clear hr
          obtain ⟨c53, e53, hr⟩ := hq
          refine wo_step (v := (.b c53)) (s_pure ((p_not rfl).trans (cb e53))) ?_
          refine wo_nil ?_
          refine nx_norm ?_
          have hq := bindO_inv hr
          clear hr
          obtain ⟨o_1, hr, hk⟩ := hq
          refine jp_mono (J := g66_J2 x0 x1 v20 v21 x23 x24 o_1) ?_ ?_
          · clear hk
            have hq := cond_inv hr
            clear hr
            rcases hq with ⟨rfl, hr⟩ | ⟨rfl, hr⟩
            · refine w_condT rfl ?_
              refine w_ops ?_
              refine wo_step (v := v21) (s_pure (p_mv g8)) ?_
              refine wo_step (v := v20) (s_pure (p_mv g7)) ?_
              refine wo_step (v := (.s s32)) (s_pure (p_mv rfl)) ?_
              have hq := bindP_inv hr
              clear hr
              obtain ⟨v57, m_10, e57, hr⟩ := hq
              have hq := asS_inv hr
              clear hr
              obtain ⟨s57, rfl, hr⟩ := hq
              refine wo_step (v := (.s s57)) (s_mlk rfl rfl e57) ?_
              refine wo_step (v := (.s s29)) (s_pure (p_mv rfl)) ?_
              have hq := bindP_inv hr
              clear hr
              obtain ⟨vn_1, m_11, en_1, hr⟩ := hq
              refine wo_stepN (s_mup rfl rfl rfl en_1) ?_
              refine wo_nil ?_
              cases hr
              exact ⟨_, _, rfl, rfl, rfl, gl g0, gl g1, gl g7, gl g8, gl g23, gl g24⟩
            · refine w_condF rfl ?_
              refine w_skip ?_
              cases hr
              exact ⟨_, _, rfl, rfl, rfl, gl g0, gl g1, gl g7, gl g8, gl g23, gl g24⟩
          · have hr := hk
            clear hk
            obtain ⟨m_12, ho⟩ : ∃ z, z = o_1 := ⟨_, rfl⟩
            subst ho
            rintro _ mm t_2 ⟨rfl, rfl, g0, g1, g7, g8, g23, g24⟩
            cases hr
            exact ⟨_, _, rfl, rfl, rfl, gl g0, gl g1, gl g7, gl g8, gl g23, gl g24⟩
      · have hr := hk
        clear hk
        obtain ⟨m_13, ho⟩ : ∃ z, z = o := ⟨_, rfl⟩
        subst ho
        rintro _ mm_1 t_3 ⟨rfl, rfl, g0, g1, g7, g8, g23, g24⟩
        refine bk_norm ?_
        refine nx_norm ?_
        refine w_ops ?_
        have hq := forceI_inv hr
        clear hr
        obtain ⟨x59, e59, hr⟩ := hq
        refine wo_step (v := (.i .i64 x59)) (s_pure (p_bin g24 rfl (b_add.trans (ci e59)))) ?_
        refine wo_step (v := (.i .i64 x59)) (s_pure (p_mv rfl)) ?_
        refine wo_nil ?_
        cases hr
        exact ⟨_, _, rfl, rfl, rfl, gl rfl, gl g0, gl g1, gl g7, gl g8, gl g23⟩
    · refine w_condF rfl ?_
      refine w_exit ?_
      refine nx_exit ?_
      cases hr
      exact ⟨_, _, rfl, ne_norm_exit, rfl, rfl, gl g1, gl g8⟩
  · obtain ⟨m_14, ho⟩ : ∃ z, z = o_2 := ⟨_, rfl⟩
    subst ho
    rintro _ mm_5 t_4 ⟨rfl, rfl, g1, g8⟩
    refine bk_hit ?_
    refine nx_norm ?_
    refine w_seq ?_
    refine w_seq ?_
    refine w_ops ?_
    refine wo_step (v := (.i .i64 x1)) (s_pure (p_mv g1)) ?_
    have hq := chk_inv hr
    clear hr
    obtain ⟨hc61, hr⟩ := hq
    have hq := forceI_inv hr
    clear hr
    obtain ⟨x61, e61, hr⟩ := hq
    refine wo_step (v := (.i .i64 x61)) (s_pure (p_bin rfl rfl ((b_shl hc61).trans (ci e61)))) ?_
    refine wo_step (v := (.i .i64 0)) (s_pure (p_mv rfl)) ?_
    refine wo_nil ?_
    refine nx_norm ?_
    refine w_block ?_
    have hq := bindO_inv hr
    clear hr
    obtain ⟨o_3, hl, hr⟩ := hq
    obtain ⟨n, hl⟩ := hM.loop _ _ _ hl
    refine jp_mono (w_loop _ (g66_I3 x1 v21 x61) (g66_J3 x1 v21 x61) ?_ n _ _ _ _ hl ⟨rfl, gl rfl, gl g1, gl g8, gl rfl⟩) ?_
    · clear hr hl
      intro s mm_4 t_5 o hi hr
      obtain ⟨x62, m_15⟩ := s
      obtain ⟨rfl, g62, g1, g8, g61⟩ := hi
      unfold g66_b3 at hr
      refine w_seq ?_
      refine w_ops ?_
      have hq := forceB_inv hr
      clear hr
      obtain ⟨c63, e63, hr⟩ := hq
      refine wo_step (v := (.b c63)) (s_pure (p_bin g62 g61 (b_lss.trans (cb e63)))) ?_
      refine wo_nil ?_
      refine nx_norm ?_
      refine w_seq ?_
      have hq := cond_inv hr
      clear hr
      rcases hq with ⟨rfl, hr⟩ | ⟨rfl, hr⟩
      · refine w_condT rfl ?_
        refine w_skip ?_
        refine nx_norm ?_
        refine w_seq ?_
        refine w_block ?_
        refine w_seq ?_
        refine w_ops ?_
        refine wo_step (v := (.i .i64 x62)) (s_pure (p_mv g62)) ?_
        refine wo_step (v := (.i .i64 x62)) (s_pure (p_mv rfl)) ?_
        refine wo_nil ?_
        refine nx_norm ?_
        refine w_seq ?_
        refine w_ops ?_
        refine wo_step (v := (.i .i64 x62)) (s_pure (p_mv rfl)) ?_
        refine wo_step (v := (.i .i64 x1)) (s_pure (p_mv g1)) ?_
        have hq := bindP_inv hr
        clear hr
        obtain ⟨v67, m_16, e67, hr⟩ := hq
        have hq := asS_inv hr
        clear hr
        obtain ⟨s67, rfl, hr⟩ := hq
        refine wo_step (v := (.s s67)) (s_call (mc rfl (mc rfl mn)) (callM_le hM.call e67)) ?_
        refine wo_step (v := (.s s67)) (s_pure (p_mv rfl)) ?_
        refine wo_nil ?_
        refine nx_norm ?_
        refine w_seq ?_
        refine w_ops ?_
        refine wo_step (v := v21) (s_pure (p_mv g8)) ?_
        refine wo_step (v := (.s s67)) (s_pure (p_mv rfl)) ?_
        have hq := bindP_inv hr
        clear hr
        obtain ⟨v71, m_17, e71, hr⟩ := hq
        refine wo_step (v := v71) (s_mlk rfl rfl e71) ?_
        refine wo_step (v := v71) (s_pure (p_mv rfl)) ?_
        have hq := bindO_inv hr
        clear hr
        obtain ⟨v72, e72, hr⟩ := hq
        have hq := asS_inv hr
        clear hr
        obtain ⟨s72, rfl, hr⟩ := hq
        refine wo_step (v := (.s s72)) (s_pure (o_ext rfl e72)) ?_
        have hq := bindO_inv hr
        clear hr
        obtain ⟨v73, e73, hr⟩ := hq
        have hq := asB_inv hr
        clear hr
        obtain ⟨c73, rfl, hr⟩ := hq
        refine wo_step (v := (.b c73)) (s_pure (o_ext rfl e73)) ?_
        refine wo_step (v := (.s s72)) (s_pure (p_mv rfl)) ?_
        refine wo_step (v := (.b c73)) (s_pure (p_mv rfl)) ?_
        refine wo_nil ?_
        refine nx_norm ?_
        refine w_seq ?_
        refine w_ops ?_
        refine wo_step (v := (.b c73)) (s_pure (p_mv rfl)) ?_
        refine wo_nil ?_
        refine nx_norm ?_
        have hq := cond_inv hr
        clear hr
        rcases hq with ⟨rfl, hr⟩ | ⟨rfl, hr⟩
        · refine w_condT rfl ?_
          refine w_seq ?_
          refine w_ops ?_
          refine wo_step (v := (.s s67)) (s_pure (p_mv rfl)) ?_
          refine wo_step (v := (.s s72)) (s_pure (p_mv rfl)) ?_
          refine wo_step (v := (.s s67)) (s_pure (p_mv rfl)) ?_
          refine wo_step (v := (.s s72)) (s_pure (p_mv rfl)) ?_
          refine wo_step (v := (.b true)) (s_pure (p_mv rfl)) ?_
          refine wo_nil ?_
          refine nx_norm ?_
          refine w_ret ?_
          refine bk_ret ?_
          refine nx_ret ?_
          cases hr
          exact ⟨_, _, rfl, ne_norm_ret, rfl, rfl, gl rfl, gl rfl, gl rfl⟩
        · refine w_condF rfl ?_
          refine w_skip ?_
          refine bk_norm ?_
          refine nx_norm ?_
          refine w_ops ?_
          have hq := forceI_inv hr
          clear hr
          obtain ⟨x77, e77, hr⟩ := hq
          refine wo_step (v := (.i .i64 x77)) (s_pure (p_bin g62 rfl (b_add.trans (ci e77)))) ?_
          refine wo_step (v := (.i .i64 x77)) (s_pure (p_mv rfl)) ?_
          refine wo_nil ?_
          cases hr
          exact ⟨_, _, rfl, rfl, rfl, gl rfl, gl g1, gl g8, gl g61⟩
      · refine w_condF rfl ?_
        refine w_exit ?_
        refine nx_exit ?_
        cases hr
        exact ⟨_, _, rfl, ne_norm_exit, rfl, rfl⟩
    · rcases o_3 with o_3 | o_3
      · obtain ⟨m_18, ho⟩ : ∃ z, z = o_3 := ⟨_, rfl⟩
        subst ho
        rintro _ mm_2 t_6 ⟨rfl, rfl⟩
        refine bk_hit ?_
        refine nx_norm ?_
        refine w_seq ?_
        refine w_ops ?_
        refine wo_step (v := (AVal.s [])) (s_pure (p_mv rfl)) ?_
        refine wo_step (v := (AVal.s [])) (s_pure (p_mv rfl)) ?_
        refine wo_step (v := (.b false)) (s_pure (p_mv rfl)) ?_
        refine wo_nil ?_
        refine nx_norm ?_
        refine w_ret ?_
        exact qf ret_ok (rt rfl (rt rfl (rt rfl rn))) hr
      · obtain ⟨s4, s5, c6, m_19⟩ := o_3
        rintro _ mm_3 t_7 ⟨rfl, rfl, g4, g5, g6⟩
        refine bk_ret ?_
        refine nx_ret ?_
        exact qf ret_ok (rt g4 (rt g5 (rt g6 rn))) hr

/- dibber/dibberref02.number -/
abbrev g67_I0 (v0 : AVal) (m0 : Mm) (s : Int × Int) (m1 : Mm) (t1 : Tr) : Prop :=
  match s with
  | (x3, x4) => m0 = m1 ∧ t1.get 3 = (.i .i64 x3) ∧ t1.get 4 = (.i .i64 x4) ∧ t1.get 0 = v0
abbrev g67_J0 (v0 : AVal) (m0 : Mm) (o : Int) (e : AExit) (m1 : Mm) (t1 : Tr) : Prop :=
  match o with
  | y3 => e = (.exit 0) ∧ m0 = m1 ∧ t1.get 3 = (.i .i64 y3)
def g67_b0 (M : Means) (ro : List ABlk) (v0 : AVal) (m0 : Mm) (x3 : Int) (x4 : Int) : Option ((Int × Int) ⊕ (Int)) :=
  bindO (evP .e (.len false (.c v0))) fun v7 =>
  asI .i64 v7 fun x7 =>
  forceB (ltI x4 x7) fun c8 =>
  cond c8 (
    forceI (wr .i64 (2 * x3)) fun x12 =>
    bindO (evP .e (.ixS 1 (.c v0) (.c (.i .i64 x4)))) fun v15 =>
    bindO (ldM ro m0 true 1 v15) fun v16 =>
    asI .i64 v16 fun x16 =>
    forceI (wr .i64 (x12 + x16)) fun x17 =>
    forceI (wr .i64 (x4 + 1)) fun x10 =>
    some (.inl (x17, x10))) (
    some (.inr x3))
def g67 (M : Means) (ro : List ABlk) (v0 : AVal) (m0 : Mm) : Option (AVal × Heap × Nat × Nat) :=
  bindO (M.loop (S := Int × Int) (R := Int) (fun s => g67_b0 M ro v0 m0 s.1 s.2) (0, 0)) fun x3_1 =>
  finM m0.h.length (tupA [(.i .i64 x3_1)]) m0

theorem g67_ok {ro : List ABlk} {O : Caller} {M : Means} (hM : M.Ok ⟨F, O⟩ ro) {v0 h r} (ho : O 67 [v0] h = none) (hr : g67 M ro v0 ⟨h, h.length, h.length⟩ = some r) : callX ⟨F, O⟩ ro 67 [v0] h = some r := by
  refine callX_of (F := ⟨F, O⟩) (fn := fn67) (g := g67 M ro v0) ho rfl rfl hr ?_
  clear ho
  clear hr
  intro m0 t0 ht hr
  have g0 : t0.get 0 = v0 := ht 0
  clear ht
  unfold g67 at hr
  refine w_seq ?_
  refine w_ops ?_
  refine wo_step (v := (.i .i64 0)) (s_pure (p_mv rfl)) ?_
  refine wo_nil ?_
  refine nx_norm ?_
  refine w_seq ?_
  refine w_ops ?_
  refine wo_step (v := (.i .i64 0)) (s_pure (p_mv rfl)) ?_
  refine wo_nil ?_
  refine nx_norm ?_
  refine w_seq ?_
  refine w_seq ?_
  refine w_ops ?_
  refine wo_step (v := (.i .i64 0)) (s_pure (p_mv rfl)) ?_
  refine wo_nil ?_
  refine nx_norm ?_
  refine w_block ?_
  have hq := bindO_inv hr
  clear hr
  obtain ⟨o, hl, hr⟩ := hq
  obtain ⟨n, hl⟩ := hM.loop _ _ _ hl
  refine jp_mono (w_loop _ (g67_I0 v0 m0) (g67_J0 v0 m0) ?_ n _ _ _ _ hl ⟨rfl, gl rfl, gl rfl, gl g0⟩) ?_
  · clear hr hl
    intro s mm_1 t_1 o hi hr
    obtain ⟨x3, x4⟩ := s
    obtain ⟨rfl, g3, g4, g0⟩ := hi
    unfold g67_b0 at hr
    refine w_seq ?_
    refine w_seq ?_
    refine w_ops ?_
    refine wo_step (v := (.i .i64 x4)) (s_pure (p_mv g4)) ?_
    refine wo_step (v := v0) (s_pure (p_mv g0)) ?_
    have hq := bindO_inv hr
    clear hr
    obtain ⟨v7, e7, hr⟩ := hq
    have hq := asI_inv hr
    clear hr
    obtain ⟨x7, rfl, hr⟩ := hq
    refine wo_step (v := (.i .i64 x7)) (s_pure (o_len rfl e7)) ?_
    have hq := forceB_inv hr
    clear hr
    obtain ⟨c8, e8, hr⟩ := hq
    refine wo_step (v := (.b c8)) (s_pure (p_bin rfl rfl (b_lss.trans (cb e8)))) ?_
    refine wo_nil ?_
    refine nx_norm ?_
    have hq := cond_inv hr
    clear hr
    rcases hq with ⟨rfl, hr⟩ | ⟨rfl, hr⟩
    · refine w_condT rfl ?_
      refine w_skip ?_
      refine nx_norm ?_
      refine w_seq ?_
      refine w_block ?_
      refine w_ops ?_
      refine wo_step (v := (.i .i64 x3)) (s_pure (p_mv g3)) ?_
      have hq := forceI_inv hr
      clear hr
      obtain ⟨x12, e12, hr⟩ := hq
      refine wo_step (v := (.i .i64 x12)) (s_pure (p_bin rfl rfl (b_mul.trans (ci e12)))) ?_
      refine wo_step (v := v0) (s_pure (p_mv g0)) ?_
      refine wo_step (v := (.i .i64 x4)) (s_pure (p_mv g4)) ?_
      have hq := bindO_inv hr
      clear hr
      obtain ⟨v15, e15, hr⟩ := hq
      refine wo_step (v := v15) (s_pure (o_ixS rfl rfl e15)) ?_
      have hq := bindO_inv hr
      clear hr
      obtain ⟨v16, e16, hr⟩ := hq
      have hq := asI_inv hr
      clear hr
      obtain ⟨x16, rfl, hr⟩ := hq
      refine wo_step (v := (.i .i64 x16)) (s_ld rfl e16) ?_
      have hq := forceI_inv hr
      clear hr
      obtain ⟨x17, e17, hr⟩ := hq
      refine wo_step (v := (.i .i64 x17)) (s_pure (p_bin rfl rfl (b_add.trans (ci e17)))) ?_
      refine wo_step (v := (.i .i64 x17)) (s_pure (p_mv rfl)) ?_
      refine wo_nil ?_
      refine bk_norm ?_
      refine nx_norm ?_
      refine w_ops ?_
      refine wo_step (v := (.i .i64 x4)) (s_pure (p_mv g4)) ?_
      have hq := forceI_inv hr
      clear hr
      obtain ⟨x10, e10, hr⟩ := hq
      refine wo_step (v := (.i .i64 x10)) (s_pure (p_bin rfl rfl (b_add.trans (ci e10)))) ?_
      refine wo_step (v := (.i .i64 x10)) (s_pure (p_mv rfl)) ?_
      refine wo_nil ?_
      cases hr
      exact ⟨_, _, rfl, rfl, rfl, gl rfl, gl rfl, gl g0⟩
    · refine w_condF rfl ?_
      refine w_exit ?_
      refine nx_exit ?_
      cases hr
      exact ⟨_, _, rfl, ne_norm_exit, rfl, rfl, gl g3⟩
  · obtain ⟨x3_1, ho⟩ : ∃ z, z = o := ⟨_, rfl⟩
    subst ho
    rintro _ mm t_2 ⟨rfl, rfl, g3⟩
    refine bk_hit ?_
    refine nx_norm ?_
    refine w_seq ?_
    refine w_ops ?_
    refine wo_step (v := (.i .i64 x3_1)) (s_pure (p_mv g3)) ?_
    refine wo_step (v := (.i .i64 x3_1)) (s_pure (p_mv rfl)) ?_
    refine wo_nil ?_
    refine nx_norm ?_
    refine w_ret ?_
    exact qf ret_ok (rt rfl rn) hr

/- dibber/dibberref02.numbered -/
abbrev g68_I0 (x0 : Int) (s : AVal × Int × Mm) (m1 : Mm) (t1 : Tr) : Prop :=
  match s with
  | (v5, x6, m_1) => m_1 = m1 ∧ t1.get 5 = v5 ∧ t1.get 6 = (.i .i64 x6) ∧ t1.get 0 = (.i .i64 x0)
abbrev g68_J0 (x0 : Int) (o : (AVal × Mm)) (e : AExit) (m1 : Mm) (t1 : Tr) : Prop :=
  match o with
  | (y5, mo) => e = (.exit 0) ∧ mo = m1 ∧ t1.get 5 = y5
def g68_b0 (M : Means) (ro : List ABlk) (x0 : Int) (v5 : AVal) (x6 : Int) (m_1 : Mm) : Option ((AVal × Int × Mm) ⊕ ((AVal × Mm))) :=
  forceB (!ltI x6 0) fun c10 =>
  cond c10 (
    chk (!ltI x6 (.ofNat 0)) <|
    forceI (shrV .i64 x0 x6) fun x16 =>
    forceI (Int.tmod x16 2) fun x17 =>
    bindP (stepM ro m_1 (.bsl 3 1 [(AVal.i IntKind.i64 0)] 1 [((0, 1), .c (.i .i64 x17))])) fun v18 m_2 =>
    bindP (stepM ro m_2 (.app 3 1 8 [(AVal.i IntKind.i64 0)] (.c v5) (.c v18))) fun v19 m_3 =>
    forceI (wr .i64 (x6 - 1)) fun x12 =>
    some (.inl (v19, x12, m_3))) (
    some (.inr (v5, m_1)))
def g68 (M : Means) (ro : List ABlk) (x0 : Int) (x1 : Int) (m0 : Mm) : Option (AVal × Heap × Nat × Nat) :=
  forceI (wr .i64 (x1 - 1)) fun x8 =>
  bindO (M.loop (S := AVal × Int × Mm) (R := (AVal × Mm)) (fun s => g68_b0 M ro x0 s.1 s.2.1 s.2.2) (AVal.nsl, x8, m0)) fun ⟨v5_1, m_4⟩ =>
  finM m0.h.length (tupA [v5_1]) m_4

theorem g68_ok {ro : List ABlk} {O : Caller} {M : Means} (hM : M.Ok ⟨F, O⟩ ro) {x0 x1 h r} (ho : O 68 [(.i .i64 x0), (.i .i64 x1)] h = none) (hr : g68 M ro x0 x1 ⟨h, h.length, h.length⟩ = some r) : callX ⟨F, O⟩ ro 68 [(.i .i64 x0), (.i .i64 x1)] h = some r := by
  refine callX_of (F := ⟨F, O⟩) (fn := fn68) (g := g68 M ro x0 x1) ho rfl rfl hr ?_
  clear ho
  clear hr
  intro m0 t0 ht hr
  have g0 : t0.get 0 = (.i .i64 x0) := ht 0
  have g1 : t0.get 1 = (.i .i64 x1) := ht 1
  clear ht
  unfold g68 at hr
  refine w_seq ?_
  refine w_ops ?_
  refine wo_step (v := AVal.nsl) (s_pure (p_mv rfl)) ?_
  refine wo_nil ?_
  refine nx_norm ?_
  refine w_seq ?_
  refine w_ops ?_
  refine wo_step (v := AVal.nsl) (s_pure (p_mv rfl)) ?_
  refine wo_nil ?_
  refine nx_norm ?_
  refine w_seq ?_
  refine w_seq ?_
  refine w_ops ?_
  refine wo_step (v := (.i .i64 x1)) (s_pure (p_mv g1)) ?_
  have hq := forceI_inv hr
  clear hr
  obtain ⟨x8, e8, hr⟩ := hq
  refine wo_step (v := (.i .i64 x8)) (s_pure (p_bin rfl rfl (b_sub.trans (ci e8)))) ?_
  refine wo_step (v := (.i .i64 x8)) (s_pure (p_mv rfl)) ?_
  refine wo_nil ?_
  refine nx_norm ?_
  refine w_block ?_
  have hq := bindO_inv hr
  clear hr
  obtain ⟨o, hl, hr⟩ := hq
  obtain ⟨n, hl⟩ := hM.loop _ _ _ hl
  refine jp_mono (w_loop _ (g68_I0 x0) (g68_J0 x0) ?_ n _ _ _ _ hl ⟨rfl, gl rfl, gl rfl, gl g0⟩) ?_
  · clear hr hl
    intro s mm_1 t_1 o hi hr
    obtain ⟨v5, x6, m_1⟩ := s
    obtain ⟨rfl, g5, g6, g0⟩ := hi
    unfold g68_b0 at hr
    refine w_seq ?_
    refine w_seq ?_
    refine w_ops ?_
    refine wo_step (v := (.i .i64 x6)) (s_pure (p_mv g6)) ?_
    have hq := forceB_inv hr
    clear hr
    obtain ⟨c10, e10, hr⟩ := hq
    refine wo_step (v := (.b c10)) (s_pure (p_bin rfl rfl (b_geq.trans (cb e10)))) ?_
    refine wo_nil ?_
    refine nx_norm ?_
    have hq := cond_inv hr
    clear hr
    rcases hq with ⟨rfl, hr⟩ | ⟨rfl, hr⟩
    · refine w_condT rfl ?_
      refine w_skip ?_
      refine nx_norm ?_
      refine w_seq ?_
      refine w_block ?_
      refine w_ops ?_
      refine wo_step (v := v5) (s_pure (p_mv g5)) ?_
      refine wo_step (v := (.i .i64 x0)) (s_pure (p_mv g0)) ?_
      refine wo_step (v := (.i .i64 x6)) (s_pure (p_mv g6)) ?_
      have hq := chk_inv hr
      clear hr
      obtain ⟨hc16, hr⟩ := hq
      have hq := forceI_inv hr
      clear hr
      obtain ⟨x16, e16, hr⟩ := hq
      refine wo_step (v := (.i .i64 x16)) (s_pure (p_bin rfl rfl ((b_shr hc16).trans (ci e16)))) ?_
      have hq := forceI_inv hr
      clear hr
      obtain ⟨x17, e17, hr⟩ := hq
      refine wo_step (v := (.i .i64 x17)) (s_pure (p_bin rfl rfl ((b_rem rfl).trans (ci e17)))) ?_
      have hq := bindP_inv hr
      clear hr
      obtain ⟨v18, m_2, e18, hr⟩ := hq
      refine wo_step (v := v18) (s_bsl (qc rfl qn) e18) ?_
      have hq := bindP_inv hr
      clear hr
      obtain ⟨v19, m_3, e19, hr⟩ := hq
      refine wo_step (v := v19) (s_app rfl rfl e19) ?_
      refine wo_step (v := v19) (s_pure (p_mv rfl)) ?_
      refine wo_nil ?_
      refine bk_norm ?_
      refine nx_norm ?_
      refine w_ops ?_
      refine wo_step (v := (.i .i64 x6)) (s_pure (p_mv g6)) ?_
      have hq := forceI_inv hr
      clear hr
      obtain ⟨x12, e12, hr⟩ := hq
      refine wo_step (v := (.i .i64 x12)) (s_pure (p_bin rfl rfl (b_sub.trans (ci e12)))) ?_
      refine wo_step (v := (.i .i64 x12)) (s_pure (p_mv rfl)) ?_
      refine wo_nil ?_
      cases hr
      exact ⟨_, _, rfl, rfl, rfl, gl rfl, gl rfl, gl g0⟩
    · refine w_condF rfl ?_
      refine w_exit ?_
      refine nx_exit ?_
      cases hr
      exact ⟨_, _, rfl, ne_norm_exit, rfl, rfl, gl g5⟩
  · obtain ⟨v5_1, m_4⟩ := o
    rintro _ mm t_2 ⟨rfl, rfl, g5⟩
    refine bk_hit ?_
    refine nx_norm ?_
    refine w_seq ?_
    refine w_ops ?_
    refine wo_step (v := v5_1) (s_pure (p_mv g5)) ?_
    refine wo_step (v := v5_1) (s_pure (p_mv rfl)) ?_
    refine wo_nil ?_
    refine nx_norm ?_
    refine w_ret ?_
    exact qf ret_ok (rt rfl rn) hr

/- dibber/weed.mirrors -/

def g69 (M : Means) (ro : List ABlk) (x0 : Int) (m0 : Mm) : Option (AVal × Heap × Nat × Nat) :=
  bindP (callM M.call m0 82 [(.i .u8 x0), (AVal.fn 83 [] [])]) fun v5 m_1 =>
  asI .u8 v5 fun x5 =>
  bindP (callM M.call m_1 82 [(.i .u8 x0), (AVal.fn 84 [] [])]) fun v7 m_2 =>
  asI .u8 v7 fun x7 =>
  finM m0.h.length (tupA [(.i .u8 x5), (.i .u8 x7)]) m_2

theorem g69_ok {ro : List ABlk} {O : Caller} {M : Means} (hM : M.Ok ⟨F, O⟩ ro) {x0 h r} (ho : O 69 [(.i .u8 x0)] h = none) (hr : g69 M ro x0 ⟨h, h.length, h.length⟩ = some r) : callX ⟨F, O⟩ ro 69 [(.i .u8 x0)] h = some r := by
  refine callX_of (F := ⟨F, O⟩) (fn := fn69) (g := g69 M ro x0) ho rfl rfl hr ?_
  clear ho
  clear hr
  intro m0 t0 ht hr
  have g0 : t0.get 0 = (.i .u8 x0) := ht 0
  clear ht
  unfold g69 at hr
  refine w_seq ?_
  refine w_ops ?_
  refine wo_step (v := (.i .u8 0)) (s_pure (p_mv rfl)) ?_
  refine wo_step (v := (.i .u8 0)) (s_pure (p_mv rfl)) ?_
  refine wo_nil ?_
  refine nx_norm ?_
  refine w_seq ?_
  refine w_ops ?_
  refine wo_step (v := (.i .u8 x0)) (s_pure (p_mv g0)) ?_
  have hq := bindP_inv hr
  clear hr
  obtain ⟨v5, m_1, e5, hr⟩ := hq
  have hq := asI_inv hr
  clear hr
  obtain ⟨x5, rfl, hr⟩ := hq
  refine wo_step (v := (.i .u8 x5)) (s_call (mc rfl (mc rfl mn)) (callM_le hM.call e5)) ?_
  refine wo_step (v := (.i .u8 x0)) (s_pure (p_mv g0)) ?_
  have hq := bindP_inv hr
  clear hr
  obtain ⟨v7, m_2, e7, hr⟩ := hq
  have hq := asI_inv hr
  clear hr
  obtain ⟨x7, rfl, hr⟩ := hq
  refine wo_step (v := (.i .u8 x7)) (s_call (mc rfl (mc rfl mn)) (callM_le hM.call e7)) ?_
  refine wo_step (v := (.i .u8 x5)) (s_pure (p_mv rfl)) ?_
  refine wo_step (v := (.i .u8 x7)) (s_pure (p_mv rfl)) ?_
  refine wo_nil ?_
  refine nx_norm ?_
  refine w_ret ?_
  exact qf ret_ok (rt rfl (rt rfl rn)) hr

/- (dibber/weed.rule).additive -/
abbrev g70_I0 (x0 : Int) (s : Int × Mm) (m1 : Mm) (t1 : Tr) : Prop :=
  match s with
  | (x5, m_1) => m_1 = m1 ∧ t1.get 5 = (.i .i64 x5) ∧ t1.get 0 = (.i .u8 x0)
abbrev g70_J0 (x0 : Int) (o : (Mm ⊕ (Bool × Mm))) (e : AExit) (m1 : Mm) (t1 : Tr) : Prop :=
  match o with
  | (.inl mo) => e = (.exit 0) ∧ mo = m1
  | (.inr (y2, mo)) => e = .ret ∧ mo = m1 ∧ t1.get 2 = (.b y2)
abbrev g70_I1 (x0 : Int) (x5 : Int) (s : Int × Mm) (m1 : Mm) (t1 : Tr) : Prop :=
  match s with
  | (x8, m_2) => m_2 = m1 ∧ t1.get 8 = (.i .i64 x8) ∧ t1.get 0 = (.i .u8 x0) ∧ t1.get 3 = (.i .i64 x5) ∧ t1.get 5 = (.i .i64 x5)
abbrev g70_J1 (x0 : Int) (x5 : Int) (o : (Mm ⊕ (Bool × Mm))) (e : AExit) (m1 : Mm) (t1 : Tr) : Prop :=
  match o with
  | (.inl mo) => e = (.exit 2) ∧ mo = m1 ∧ t1.get 0 = (.i .u8 x0) ∧ t1.get 5 = (.i .i64 x5)
  | (.inr (y2, mo)) => e = .ret ∧ mo = m1 ∧ t1.get 2 = (.b y2)
def g70_b1 (M : Means) (ro : List ABlk) (x0 : Int) (x5 : Int) (x8 : Int) (m_2 : Mm) : Option ((Int × Mm) ⊕ ((Mm ⊕ (Bool × Mm)))) :=
  forceB (ltI x8 8) fun c9 =>
  cond c9 (
    forceI (bitV .xor .i64 x5 x8) fun x14 =>
    bindP (callM M.call m_2 72 [(.i .u8 x0), (.i .i64 x14)]) fun v15 m_3 =>
    asI .i64 v15 fun x15 =>
    bindP (callM M.call m_3 72 [(.i .u8 x0), (.i .i64 x5)]) fun v18 m_4 =>
    asI .i64 v18 fun x18 =>
    bindP (callM M.call m_4 72 [(.i .u8 x0), (.i .i64 x8)]) fun v21 m_5 =>
    asI .i64 v21 fun x21 =>
    forceI (bitV .xor .i64 x18 x21) fun x22 =>
    forceB (!eqI x15 x22) fun c23 =>
    cond c23 (
      some (.inr (.inr (false, m_5)))) (
      forceI (wr .i64 (x8 + 1)) fun x24 =>
      some (.inl (x24, m_5)))) (
    some (.inr (.inl m_2)))
def g70_b0 (M : Means) (ro : List ABlk) (x0 : Int) (x5 : Int) (m_1 : Mm) : Option ((Int × Mm) ⊕ ((Mm ⊕ (Bool × Mm)))) :=
  forceB (ltI x5 8) fun c6 =>
  cond c6 (
    bindO (M.loop (S := Int × Mm) (R := (Mm ⊕ (Bool × Mm))) (fun s => g70_b1 M ro x0 x5 s.1 s.2) (0, m_1)) fun o => match o with
    | (.inl m_6) =>
      forceI (wr .i64 (x5 + 1)) fun x25 =>
      some (.inl (x25, m_6))
    | (.inr (c2, m_7)) =>
      some (.inr (.inr (c2, m_7)))) (
    some (.inr (.inl m_1)))
def g70 (M : Means) (ro : List ABlk) (x0 : Int) (m0 : Mm) : Option (AVal × Heap × Nat × Nat) :=
  bindO (M.loop (S := Int × Mm) (R := (Mm ⊕ (Bool × Mm))) (fun s => g70_b0 M ro x0 s.1 s.2) (0, m0)) fun o_1 => match o_1 with
  | (.inl m_8) =>
    finM m0.h.length (tupA [(.b true)]) m_8
  | (.inr (c2_1, m_9)) =>
    finM m0.h.length (tupA [(.b c2_1)]) m_9

theorem g70_ok {ro : List ABlk} {O : Caller} {M : Means} (hM : M.Ok ⟨F, O⟩ ro) {x0 h r} (ho : O 70 [(.i .u8 x0)] h = none) (hr : g70 M ro x0 ⟨h, h.length, h.length⟩ = some r) : callX ⟨F, O⟩ ro 70 [(.i .u8 x0)] h = some r := by
  refine callX_of (F := ⟨F, O⟩) (fn := fn70) (g := g70 M ro x0) ho rfl rfl hr ?_
  clear ho
  clear hr
  intro m0 t0 ht hr
  have g0 : t0.get 0 = (.i .u8 x0) := ht 0
  clear ht
  unfold g70 at hr
  refine w_seq ?_
  refine w_ops ?_
  refine wo_step (v := (.b false)) (s_pure (p_mv rfl)) ?_
  refine wo_nil ?_
  refine nx_norm ?_
  refine w_seq ?_
  refine w_seq ?_
  refine w_ops ?_
  refine wo_step (v := (.i .i64 0)) (s_pure (p_mv rfl)) ?_
  refine wo_nil ?_
  refine nx_norm ?_
  refine w_block ?_
  have hq := bindO_inv hr
  clear hr
  obtain ⟨o_1, hl_1, hr⟩ := hq
  obtain ⟨n_1, hl_1⟩ := hM.loop _ _ _ hl_1
  refine jp_mono (w_loop _ (g70_I0 x0) (g70_J0 x0) ?_ n_1 _ _ _ _ hl_1 ⟨rfl, gl rfl, gl g0⟩) ?_
  · clear hr hl_1
    intro s mm_5 t_1 o hi hr
    obtain ⟨x5, m_1⟩ := s
    obtain ⟨rfl, g5, g0⟩ := hi
    unfold g70_b0 at hr
    refine w_seq ?_
    refine w_ops ?_
    have hq := forceB_inv hr
    clear hr
    obtain ⟨c6, e6, hr⟩ := hq
    refine wo_step (v := (.b c6)) (s_pure (p_bin g5 rfl (b_lss.trans (cb e6)))) ?_
    refine wo_nil ?_
    refine nx_norm ?_
    refine w_seq ?_
    have hq := cond_inv hr
    clear hr
    rcases hq with ⟨rfl, hr⟩ | ⟨rfl, hr⟩
    · refine w_condT rfl ?_
      refine w_skip ?_
      refine nx_norm ?_
      refine w_seq ?_
      refine w_block ?_
      refine w_seq ?_
      refine w_ops ?_
      refine wo_step (v := (.i .i64 x5)) (s_pure (p_mv g5)) ?_
      refine wo_step (v := (.i .i64 x5)) (s_pure (p_mv rfl)) ?_
      refine wo_nil ?_
      refine nx_norm ?_
      refine w_seq ?_
      refine w_ops ?_
      refine wo_step (v := (.i .i64 0)) (s_pure (p_mv rfl)) ?_
      refine wo_nil ?_
      refine nx_norm ?_
      refine w_block ?_
      have hq := bindO_inv hr
      clear hr
      obtain ⟨o, hl, hr⟩ := hq
      obtain ⟨n, hl⟩ := hM.loop _ _ _ hl
      refine jp_mono (w_loop _ (g70_I1 x0 x5) (g70_J1 x0 x5) ?_ n _ _ _ _ hl ⟨rfl, gl rfl, gl g0, gl rfl, gl g5⟩) ?_
      · clear hr hl
        intro s mm_2 t_2 o hi hr
        obtain ⟨x8, m_2⟩ := s
        obtain ⟨rfl, g8, g0, g3, g5⟩ := hi
        unfold g70_b1 at hr
        refine w_seq ?_
        refine w_ops ?_
        have hq := forceB_inv hr
        clear hr
        obtain ⟨c9, e9, hr⟩ := hq
        refine wo_step (v := (.b c9)) (s_pure (p_bin g8 rfl (b_lss.trans (cb e9)))) ?_
        refine wo_nil ?_
        refine nx_norm ?_
        refine w_seq ?_
        have hq := cond_inv hr
        clear hr
        rcases hq with ⟨rfl, hr⟩ | ⟨rfl, hr⟩
        · refine w_condT rfl ?_
          refine w_skip ?_
          refine nx_norm ?_
          refine w_seq ?_
          refine w_block ?_
          refine w_seq ?_
          refine w_ops ?_
          refine wo_step (v := (.i .i64 x8)) (s_pure (p_mv g8)) ?_
          refine wo_step (v := (.i .i64 x8)) (s_pure (p_mv rfl)) ?_
          refine wo_nil ?_
          refine nx_norm ?_
          refine w_seq ?_
          refine w_ops ?_
          refine wo_step (v := (.i .u8 x0)) (s_pure (p_mv g0)) ?_
          refine wo_step (v := (.i .i64 x5)) (s_pure (p_mv g3)) ?_
          refine wo_step (v := (.i .i64 x8)) (s_pure (p_mv rfl)) ?_
          have hq := forceI_inv hr
          clear hr
          obtain ⟨x14, e14, hr⟩ := hq
          refine wo_step (v := (.i .i64 x14)) (s_pure (p_bin rfl rfl (b_xor.trans (ci e14)))) ?_
          have hq := bindP_inv hr
          clear hr
          obtain ⟨v15, m_3, e15, hr⟩ := hq
          have hq := asI_inv hr
          clear hr
          obtain ⟨x15, rfl, hr⟩ := hq
          refine wo_step (v := (.i .i64 x15)) (s_call (mc rfl (mc rfl mn)) (callM_le hM.call e15)) ?_
          refine wo_step (v := (.i .u8 x0)) (s_pure (p_mv g0)) ?_
          refine wo_step (v := (.i .i64 x5)) (s_pure (p_mv g3)) ?_
          have hq := bindP_inv hr
          clear hr
          obtain ⟨v18, m_4, e18, hr⟩ := hq
          have hq := asI_inv hr
          clear hr
          obtain ⟨x18, rfl, hr⟩ := hq
          refine wo_step (v := (.i .i64 x18)) (s_call (mc rfl (mc rfl mn)) (callM_le hM.call e18)) ?_
          refine wo_step (v := (.i .u8 x0)) (s_pure (p_mv g0)) ?_
          refine wo_step (v := (.i .i64 x8)) (s_pure (p_mv rfl)) ?_
          have hq := bindP_inv hr
          clear hr
          obtain ⟨v21, m_5, e21, hr⟩ := hq
          have hq := asI_inv hr
          clear hr
          obtain ⟨x21, rfl, hr⟩ := hq
          refine wo_step (v := (.i .i64 x21)) (s_call (mc rfl (mc rfl mn)) (callM_le hM.call e21)) ?_
          have hq := forceI_inv hr
          clear hr
          obtain ⟨x22, e22, hr⟩ := hq
          refine wo_step (v := (.i .i64 x22)) (s_pure (p_bin rfl rfl (b_xor.trans (ci e22)))) ?_
          have hq := forceB_inv hr
          clear hr
          obtain ⟨c23, e23, hr⟩ := hq
          refine wo_step (v := (.b c23)) (s_pure (p_bin rfl rfl (b_neq.trans (cb e23)))) ?_
          refine wo_nil ?_
          refine nx_norm ?_
          have hq := cond_inv hr
          clear hr
          rcases hq with ⟨rfl, hr⟩ | ⟨rfl, hr⟩
          · refine w_condT rfl ?_
            refine w_seq ?_
            refine w_ops ?_
            refine wo_step (v := (.b false)) (s_pure (p_mv rfl)) ?_
            refine wo_nil ?_
            refine nx_norm ?_
            refine w_ret ?_
            refine bk_ret ?_
            refine nx_ret ?_
            cases hr
            exact ⟨_, _, rfl, ne_norm_ret, rfl, rfl, gl rfl⟩
          · refine w_condF rfl ?_
            refine w_skip ?_
            refine bk_norm ?_
            refine nx_norm ?_
            refine w_ops ?_
            have hq := forceI_inv hr
            clear hr
            obtain ⟨x24, e24, hr⟩ := hq
            refine wo_step (v := (.i .i64 x24)) (s_pure (p_bin g8 rfl (b_add.trans (ci e24)))) ?_
            refine wo_step (v := (.i .i64 x24)) (s_pure (p_mv rfl)) ?_
            refine wo_nil ?_
            cases hr
            exact ⟨_, _, rfl, rfl, rfl, gl rfl, gl g0, gl g3, gl g5⟩
        · refine w_condF rfl ?_
          refine w_exit ?_
          refine nx_exit ?_
          cases hr
          exact ⟨_, _, rfl, ne_norm_exit, rfl, rfl, gl g0, gl g5⟩
      · rcases o with o | o
        · obtain ⟨m_6, ho⟩ : ∃ z, z = o := ⟨_, rfl⟩
          subst ho
          rintro _ mm t_3 ⟨rfl, rfl, g0, g5⟩
          refine bk_hit ?_
          refine bk_norm ?_
          refine nx_norm ?_
          refine w_ops ?_
          have hq := forceI_inv hr
          clear hr
          obtain ⟨x25, e25, hr⟩ := hq
          refine wo_step (v := (.i .i64 x25)) (s_pure (p_bin g5 rfl (b_add.trans (ci e25)))) ?_
          refine wo_step (v := (.i .i64 x25)) (s_pure (p_mv rfl)) ?_
          refine wo_nil ?_
          cases hr
          exact ⟨_, _, rfl, rfl, rfl, gl rfl, gl g0⟩
        · obtain ⟨c2, m_7⟩ := o
          rintro _ mm_1 t_4 ⟨rfl, rfl, g2⟩
          refine bk_ret ?_
          refine bk_ret ?_
          refine nx_ret ?_
          cases hr
          exact ⟨_, _, rfl, ne_norm_ret, rfl, rfl, gl g2⟩
    · refine w_condF rfl ?_
      refine w_exit ?_
      refine nx_exit ?_
      cases hr
      exact ⟨_, _, rfl, ne_norm_exit, rfl, rfl⟩
  · rcases o_1 with o_1 | o_1
    · obtain ⟨m_8, ho⟩ : ∃ z, z = o_1 := ⟨_, rfl⟩
      subst ho
      rintro _ mm_3 t_5 ⟨rfl, rfl⟩
      refine bk_hit ?_
      refine nx_norm ?_
      refine w_seq ?_
      refine w_ops ?_
      refine wo_step (v := (.b true)) (s_pure (p_mv rfl)) ?_
      refine wo_nil ?_
      refine nx_norm ?_
      refine w_ret ?_
      exact qf ret_ok (rt rfl rn) hr
    · obtain ⟨c2_1, m_9⟩ := o_1
      rintro _ mm_4 t_6 ⟨rfl, rfl, g2⟩
      refine bk_ret ?_
      refine nx_ret ?_
      exact qf ret_ok (rt g2 rn) hr

/- dibber/weed.plot -/

def g71 (M : Means) (ro : List ABlk) (x0 : Int) (m0 : Mm) : Option (AVal × Heap × Nat × Nat) :=
  forceI (wr .u8 x0) fun x4 =>
  forceI (wr .u8 (48 + x4)) fun x5 =>
  finM m0.h.length (tupA [(.i .u8 x5)]) m0

theorem g71_ok {ro : List ABlk} {O : Caller} {M : Means} (hM : M.Ok ⟨F, O⟩ ro) {x0 h r} (ho : O 71 [(.i .i64 x0)] h = none) (hr : g71 M ro x0 ⟨h, h.length, h.length⟩ = some r) : callX ⟨F, O⟩ ro 71 [(.i .i64 x0)] h = some r := by
  refine callX_of (F := ⟨F, O⟩) (fn := fn71) (g := g71 M ro x0) ho rfl rfl hr ?_
  clear ho
  clear hr
  intro m0 t0 ht hr
  have g0 : t0.get 0 = (.i .i64 x0) := ht 0
  clear ht
  unfold g71 at hr
  refine w_seq ?_
  refine w_ops ?_
  refine wo_step (v := (.i .u8 0)) (s_pure (p_mv rfl)) ?_
  refine wo_nil ?_
  refine nx_norm ?_
  refine w_seq ?_
  refine w_ops ?_
  refine wo_step (v := (.i .i64 x0)) (s_pure (p_mv g0)) ?_
  have hq := forceI_inv hr
  clear hr
  obtain ⟨x4, e4, hr⟩ := hq
  refine wo_step (v := (.i .u8 x4)) (s_pure ((p_conv rfl).trans (ci e4))) ?_
  have hq := forceI_inv hr
  clear hr
  obtain ⟨x5, e5, hr⟩ := hq
  refine wo_step (v := (.i .u8 x5)) (s_pure (p_bin rfl rfl (b_add.trans (ci e5)))) ?_
  refine wo_step (v := (.i .u8 x5)) (s_pure (p_mv rfl)) ?_
  refine wo_nil ?_
  refine nx_norm ?_
  refine w_ret ?_
  exact qf ret_ok (rt rfl rn) hr

/- (dibber/weed.rule).next -/

def g72 (M : Means) (ro : List ABlk) (x0 : Int) (x1 : Int) (m0 : Mm) : Option (AVal × Heap × Nat × Nat) :=
  chk (!ltI x1 (.ofNat 0)) <|
  forceI (shrV .u8 x0 x1) fun x7 =>
  forceI (wr .i64 x7) fun x8 =>
  forceI (bitV .and .i64 x8 1) fun x9 =>
  finM m0.h.length (tupA [(.i .i64 x9)]) m0

theorem g72_ok {ro : List ABlk} {O : Caller} {M : Means} (hM : M.Ok ⟨F, O⟩ ro) {x0 x1 h r} (ho : O 72 [(.i .u8 x0), (.i .i64 x1)] h = none) (hr : g72 M ro x0 x1 ⟨h, h.length, h.length⟩ = some r) : callX ⟨F, O⟩ ro 72 [(.i .u8 x0), (.i .i64 x1)] h = some r := by
  refine callX_of (F := ⟨F, O⟩) (fn := fn72) (g := g72 M ro x0 x1) ho rfl rfl hr ?_
  clear ho
  clear hr
  intro m0 t0 ht hr
  have g0 : t0.get 0 = (.i .u8 x0) := ht 0
  have g1 : t0.get 1 = (.i .i64 x1) := ht 1
  clear ht
  unfold g72 at hr
  refine w_seq ?_
  refine w_ops ?_
  refine wo_step (v := (.i .i64 0)) (s_pure (p_mv rfl)) ?_
  refine wo_nil ?_
  refine nx_norm ?_
  refine w_seq ?_
  refine w_ops ?_
  refine wo_step (v := (.i .u8 x0)) (s_pure (p_mv g0)) ?_
  refine wo_step (v := (.i .i64 x1)) (s_pure (p_mv g1)) ?_
  have hq := chk_inv hr
  clear hr
  obtain ⟨hc7, hr⟩ := hq
  have hq := forceI_inv hr
  clear hr
  obtain ⟨x7, e7, hr⟩ := hq
  refine wo_step (v := (.i .u8 x7)) (s_pure (p_bin rfl rfl ((b_shr hc7).trans (ci e7)))) ?_
  have hq := forceI_inv hr
  clear hr
  obtain ⟨x8, e8, hr⟩ := hq
  refine wo_step (v := (.i .i64 x8)) (s_pure ((p_conv rfl).trans (ci e8))) ?_
  have hq := forceI_inv hr
  clear hr
  obtain ⟨x9, e9, hr⟩ := hq
  refine wo_step (v := (.i .i64 x9)) (s_pure (p_bin rfl rfl (b_and.trans (ci e9)))) ?_
  refine wo_step (v := (.i .i64 x9)) (s_pure (p_mv rfl)) ?_
  refine wo_nil ?_
  refine nx_norm ?_
  refine w_ret ?_
  exact qf ret_ok (rt rfl rn) hr

/- dibber/weed.bit -/

def g73 (M : Means) (ro : List ABlk) (x0 : Int) (m0 : Mm) : Option (AVal × Heap × Nat × Nat) :=
  forceI (wr .u8 (x0 - 48)) fun x4 =>
  forceI (wr .i64 x4) fun x5 =>
  finM m0.h.length (tupA [(.i .i64 x5)]) m0

theorem g73_ok {ro : List ABlk} {O : Caller} {M : Means} (hM : M.Ok ⟨F, O⟩ ro) {x0 h r} (ho : O 73 [(.i .u8 x0)] h = none) (hr : g73 M ro x0 ⟨h, h.length, h.length⟩ = some r) : callX ⟨F, O⟩ ro 73 [(.i .u8 x0)] h = some r := by
  refine callX_of (F := ⟨F, O⟩) (fn := fn73) (g := g73 M ro x0) ho rfl rfl hr ?_
  clear ho
  clear hr
  intro m0 t0 ht hr
  have g0 : t0.get 0 = (.i .u8 x0) := ht 0
  clear ht
  unfold g73 at hr
  refine w_seq ?_
  refine w_ops ?_
  refine wo_step (v := (.i .i64 0)) (s_pure (p_mv rfl)) ?_
  refine wo_nil ?_
  refine nx_norm ?_
  refine w_seq ?_
  refine w_ops ?_
  refine wo_step (v := (.i .u8 x0)) (s_pure (p_mv g0)) ?_
  have hq := forceI_inv hr
  clear hr
  obtain ⟨x4, e4, hr⟩ := hq
  refine wo_step (v := (.i .u8 x4)) (s_pure (p_bin rfl rfl (b_sub.trans (ci e4)))) ?_
  have hq := forceI_inv hr
  clear hr
  obtain ⟨x5, e5, hr⟩ := hq
  refine wo_step (v := (.i .i64 x5)) (s_pure ((p_conv rfl).trans (ci e5))) ?_
  refine wo_step (v := (.i .i64 x5)) (s_pure (p_mv rfl)) ?_
  refine wo_nil ?_
  refine nx_norm ?_
  refine w_ret ?_
  exact qf ret_ok (rt rfl rn) hr

/- (dibber/weed.rule).behind -/
abbrev g74_I0 (x0 : Int) (x1 : Int) (x2 : Int) (s : Int × Int × Mm) (m1 : Mm) (t1 : Tr) : Prop :=
  match s with
  | (x7, x9, m_1) => m_1 = m1 ∧ t1.get 7 = (.i .u8 x7) ∧ t1.get 9 = (.i .i64 x9) ∧ t1.get 0 = (.i .u8 x0) ∧ t1.get 1 = (.i .u8 x1) ∧ t1.get 2 = (.i .i64 x2)
abbrev g74_J0 (x0 : Int) (x1 : Int) (x2 : Int) (o : (Int × Mm)) (e : AExit) (m1 : Mm) (t1 : Tr) : Prop :=
  match o with
  | (y7, mo) => e = (.exit 0) ∧ mo = m1 ∧ t1.get 7 = (.i .u8 y7)
abbrev g74_J1 (x0 : Int) (x1 : Int) (x2 : Int) (x7 : Int) (x9 : Int) (o : Bool × Mm) (m1 : Mm) (t1 : Tr) : Prop :=
  match o with
  | (c22, m_3) => m_3 = m1 ∧ t1.get 22 = (.b c22) ∧ t1.get 0 = (.i .u8 x0) ∧ t1.get 1 = (.i .u8 x1) ∧ t1.get 2 = (.i .i64 x2) ∧ t1.get 7 = (.i .u8 x7) ∧ t1.get 8 = (.i .i64 x9) ∧ t1.get 9 = (.i .i64 x9)
abbrev g74_J2 (x0 : Int) (x1 : Int) (x2 : Int) (x9 : Int) (m_3 : Mm) (o : Int) (e : AExit) (m1 : Mm) (t1 : Tr) : Prop :=
  match o with
  | y7 => e = .norm ∧ m_3 = m1 ∧ t1.get 7 = (.i .u8 y7) ∧ t1.get 0 = (.i .u8 x0) ∧ t1.get 1 = (.i .u8 x1) ∧ t1.get 2 = (.i .i64 x2) ∧ t1.get 9 = (.i .i64 x9)
def g74_b0 (M : Means) (ro : List ABlk) (x0 : Int) (x1 : Int) (x2 : Int) (x7 : Int) (x9 : Int) (m_1 : Mm) : Option ((Int × Int × Mm) ⊕ ((Int × Mm))) :=
  forceB (ltI x9 8) fun c10 =>
  cond c10 (
    forceI (bitV .and .i64 x9 3) fun x14 =>
    bindP (callM M.call m_1 76 [(.i .u8 x1), (.i .i64 x14)]) fun v15 m_2 =>
    asB v15 fun c15 =>
    bindO (cond c15 (
      bindP (callM M.call m_2 72 [(.i .u8 x0), (.i .i64 x9)]) fun v19 m_4 =>
      asI .i64 v19 fun x19 =>
      forceB (eqI x19 x2) fun c21 =>
      some (c21, m_4)) (
      some (false, m_2))) fun ⟨c22, m_3⟩ =>
    bindO (α := Int) (
      cond c22 (
        forceI (shrV .i64 x9 1) fun x25 =>
        chk (!ltI x25 (.ofNat 0)) <|
        forceI (shlV .u8 1 x25) fun x26 =>
        forceI (bitV .or .u8 x7 x26) fun x27 =>
        some x27) (
        some x7)) fun x7_1 =>
    forceI (wr .i64 (x9 + 1)) fun x28 =>
    some (.inl (x7_1, x28, m_3))) (
    some (.inr (x7, m_1)))
def g74 (M : Means) (ro : List ABlk) (x0 : Int) (x1 : Int) (x2 : Int) (m0 : Mm) : Option (AVal × Heap × Nat × Nat) :=
  bindO (M.loop (S := Int × Int × Mm) (R := (Int × Mm)) (fun s => g74_b0 M ro x0 x1 x2 s.1 s.2.1 s.2.2) (0, 0, m0)) fun ⟨x7_2, m_5⟩ =>
  finM m0.h.length (tupA [(.i .u8 x7_2)]) m_5

theorem g74_ok {ro : List ABlk} {O : Caller} {M : Means} (hM : M.Ok ⟨F, O⟩ ro) {x0 x1 x2 h r} (ho : O 74 [(.i .u8 x0), (.i .u8 x1), (.i .i64 x2)] h = none) (hr : g74 M ro x0 x1 x2 ⟨h, h.length, h.length⟩ = some r) : callX ⟨F, O⟩ ro 74 [(.i .u8 x0), (.i .u8 x1), (.i .i64 x2)] h = some r := by
  refine callX_of (F := ⟨F, O⟩) (fn := fn74) (g := g74 M ro x0 x1 x2) ho rfl rfl hr ?_
  clear ho
  clear hr
  intro m0 t0 ht hr
  have g0 : t0.get 0 = (.i .u8 x0) := ht 0
  have g1 : t0.get 1 = (.i .u8 x1) := ht 1
  have g2 : t0.get 2 = (.i .i64 x2) := ht 2
  clear ht
  unfold g74 at hr
  refine w_seq ?_
  refine w_ops ?_
  refine wo_step (v := (.i .u8 0)) (s_pure (p_mv rfl)) ?_
  refine wo_nil ?_
  refine nx_norm ?_
  refine w_seq ?_
  refine w_ops ?_
  refine wo_step (v := (.i .u8 0)) (s_pure (p_mv rfl)) ?_
  refine wo_nil ?_
  refine nx_norm ?_
  refine w_seq ?_
  refine w_seq ?_
  refine w_ops ?_
  refine wo_step (v := (.i .i64 0)) (s_pure (p_mv rfl)) ?_
  refine wo_nil ?_
  refine nx_norm ?_
  refine w_block ?_
  have hq := bindO_inv hr
  clear hr
  obtain ⟨o_2, hl, hr⟩ := hq
  obtain ⟨n, hl⟩ := hM.loop _ _ _ hl
  refine jp_mono (w_loop _ (g74_I0 x0 x1 x2) (g74_J0 x0 x1 x2) ?_ n _ _ _ _ hl ⟨rfl, gl rfl, gl rfl, gl g0, gl g1, gl g2⟩) ?_
  · clear hr hl
    intro s mm_3 t_1 o hi hr
    obtain ⟨x7, x9, m_1⟩ := s
    obtain ⟨rfl, g7, g9, g0, g1, g2⟩ := hi
    unfold g74_b0 at hr
    refine w_seq ?_
    refine w_ops ?_
    have hq := forceB_inv hr
    clear hr
    obtain ⟨c10, e10, hr⟩ := hq
    refine wo_step (v := (.b c10)) (s_pure (p_bin g9 rfl (b_lss.trans (cb e10)))) ?_
    refine wo_nil ?_
    refine nx_norm ?_
    refine w_seq ?_
    have hq := cond_inv hr
    clear hr
    rcases hq with ⟨rfl, hr⟩ | ⟨rfl, hr⟩
    · refine w_condT rfl ?_
      refine w_skip ?_
      refine nx_norm ?_
      refine w_seq ?_
      refine w_block ?_
      refine w_seq ?_
      refine w_ops ?_
      refine wo_step (v := (.i .i64 x9)) (s_pure (p_mv g9)) ?_
      refine wo_step (v := (.i .i64 x9)) (s_pure (p_mv rfl)) ?_
      refine wo_nil ?_
      refine nx_norm ?_
      refine w_seq ?_
      refine w_ops ?_
      refine wo_step (v := (.i .u8 x1)) (s_pure (p_mv g1)) ?_
      refine wo_step (v := (.i .i64 x9)) (s_pure (p_mv rfl)) ?_
      have hq := forceI_inv hr
      clear hr
      obtain ⟨x14, e14, hr⟩ := hq
      refine wo_step (v := (.i .i64 x14)) (s_pure (p_bin rfl rfl (b_and.trans (ci e14)))) ?_
      have hq := bindP_inv hr
      clear hr
      obtain ⟨v15, m_2, e15, hr⟩ := hq
      have hq := asB_inv hr
      clear hr
      obtain ⟨c15, rfl, hr⟩ := hq
      refine wo_step (v := (.b c15)) (s_call (mc rfl (mc rfl mn)) (callM_le hM.call e15)) ?_
      refine wo_step (v := (.b c15)) (s_pure (p_mv rfl)) ?_
      have hq := bindO_inv hr
      clear hr
      obtain ⟨o, hr, hk⟩ := hq
      refine wo_join 6 (g74_J1 x0 x1 x2 x7 x9 o) ?_ ?_
      · clear hk
        have hq := cond_inv hr
        clear hr
        rcases hq with ⟨rfl, hr⟩ | ⟨rfl, hr⟩
        · refine wo_take (v := (.i .u8 x0)) rfl (s_pure (p_mv g0)) ?_
          refine wo_take (v := (.i .i64 x9)) rfl (s_pure (p_mv rfl)) ?_
          have hq := bindP_inv hr
          clear hr
          obtain ⟨v19, m_4, e19, hr⟩ := hq
          have hq := asI_inv hr
          clear hr
          obtain ⟨x19, rfl, hr⟩ := hq
          refine wo_take (v := (.i .i64 x19)) rfl (s_call (mc rfl (mc rfl mn)) (callM_le hM.call e19)) ?_
          refine wo_take (v := (.i .i64 x2)) rfl (s_pure (p_mv g2)) ?_
          have hq := forceB_inv hr
          clear hr
          obtain ⟨c21, e21, hr⟩ := hq
          refine wo_take (v := (.b c21)) rfl (s_pure (p_bin rfl rfl (b_eql.trans (cb e21)))) ?_
          refine wo_step (v := (.b c21)) (s_pure (p_pickT rfl rfl)) ?_
          refine wo_nil ?_
          cases hr
          exact ⟨_, _, rfl, rfl, gl rfl, gl g0, gl g1, gl g2, gl g7, gl rfl, gl g9⟩
        · refine wo_skip (v := (.b false)) rfl rfl ?_
          refine wo_skip (v := (.b false)) rfl rfl ?_
          refine wo_skip (v := (.b false)) rfl rfl ?_
          refine wo_skip (v := (.b false)) rfl rfl ?_
          refine wo_skip (v := (.b false)) rfl rfl ?_
          refine wo_step (v := (.b false)) (s_pure (p_pickF rfl rfl)) ?_
          refine wo_nil ?_
          cases hr
          exact ⟨_, _, rfl, rfl, gl rfl, gl g0, gl g1, gl g2, gl g7, gl rfl, gl g9⟩
      · clear hr
        have hr := hk
        clear hk
        obtain ⟨c22, m_3⟩ := o
        rintro mm t_2 ⟨rfl, g22, g0, g1, g2, g7, g8, g9⟩
        refine wo_nil ?_
        refine nx_norm ?_
        have hq := bindO_inv hr
        clear hr
        obtain ⟨o_1, hr, hk⟩ := hq
        refine jp_mono (J := g74_J2 x0 x1 x2 x9 m_3 o_1) ?_ ?_
        · clear hk
          have hq := cond_inv hr
          clear hr
          rcases hq with ⟨rfl, hr⟩ | ⟨rfl, hr⟩
          · refine w_condT g22 ?_
            refine w_ops ?_
            refine wo_step (v := (.i .u8 x7)) (s_pure (p_mv g7)) ?_
            refine wo_step (v := (.i .i64 x9)) (s_pure (p_mv g8)) ?_
            have hq := forceI_inv hr
            clear hr
            obtain ⟨x25, e25, hr⟩ := hq
            refine wo_step (v := (.i .i64 x25)) (s_pure (p_bin rfl rfl ((b_shr rfl).trans (ci e25)))) ?_
            have hq := chk_inv hr
            clear hr
            obtain ⟨hc26, hr⟩ := hq
            have hq := forceI_inv hr
            clear hr
            obtain ⟨x26, e26, hr⟩ := hq
            refine wo_step (v := (.i .u8 x26)) (s_pure (p_bin rfl rfl ((b_shl hc26).trans (ci e26)))) ?_
            have hq := forceI_inv hr
            clear hr
            obtain ⟨x27, e27, hr⟩ := hq
            refine wo_step (v := (.i .u8 x27)) (s_pure (p_bin rfl rfl (b_or.trans (ci e27)))) ?_
            refine wo_step (v := (.i .u8 x27)) (s_pure (p_mv rfl)) ?_
            refine wo_nil ?_
            cases hr
            exact ⟨_, _, rfl, rfl, rfl, gl rfl, gl g0, gl g1, gl g2, gl g9⟩
          · refine w_condF g22 ?_
            refine w_skip ?_
            cases hr
            exact ⟨_, _, rfl, rfl, rfl, gl g7, gl g0, gl g1, gl g2, gl g9⟩
        · have hr := hk
          clear hk
          obtain ⟨x7_1, ho⟩ : ∃ z, z = o_1 := ⟨_, rfl⟩
          subst ho
          rintro _ mm_1 t_3 ⟨rfl, rfl, g7, g0, g1, g2, g9⟩
          refine bk_norm ?_
          refine nx_norm ?_
          refine w_ops ?_
          have hq := forceI_inv hr
          clear hr
          obtain ⟨x28, e28, hr⟩ := hq
          refine wo_step (v := (.i .i64 x28)) (s_pure (p_bin g9 rfl (b_add.trans (ci e28)))) ?_
          refine wo_step (v := (.i .i64 x28)) (s_pure (p_mv rfl)) ?_
          refine wo_nil ?_
          cases hr
          exact ⟨_, _, rfl, rfl, rfl, gl g7, gl rfl, gl g0, gl g1, gl g2⟩
    · refine w_condF rfl ?_
      refine w_exit ?_
      refine nx_exit ?_
      cases hr
      exact ⟨_, _, rfl, ne_norm_exit, rfl, rfl, gl g7⟩
  · obtain ⟨x7_2, m_5⟩ := o_2
    rintro _ mm_2 t_4 ⟨rfl, rfl, g7⟩
    refine bk_hit ?_
    refine nx_norm ?_
    refine w_seq ?_
    refine w_ops ?_
    refine wo_step (v := (.i .u8 x7_2)) (s_pure (p_mv g7)) ?_
    refine wo_step (v := (.i .u8 x7_2)) (s_pure (p_mv rfl)) ?_
    refine wo_nil ?_
    refine nx_norm ?_
    refine w_ret ?_
    exact qf ret_ok (rt rfl rn) hr

/- math/bits.TrailingZeros8 -/

def g75 (M : Means) (ro : List ABlk) (x0 : Int) (m0 : Mm) : Option (AVal × Heap × Nat × Nat) :=
  bindO (evP .e (.ixStr (.c (AVal.s [8, 0, 1, 0, 2, 0, 1, 0, 3, 0, 1, 0, 2, 0, 1, 0, 4, 0, 1, 0, 2, 0, 1, 0, 3, 0, 1, 0, 2, 0, 1, 0, 5, 0, 1, 0, 2, 0, 1, 0, 3, 0, 1, 0, 2, 0, 1, 0, 4, 0, 1, 0, 2, 0, 1, 0, 3, 0, 1, 0, 2, 0, 1, 0, 6, 0, 1, 0, 2, 0, 1, 0, 3, 0, 1, 0, 2, 0, 1, 0, 4, 0, 1, 0, 2, 0, 1, 0, 3, 0, 1, 0, 2, 0, 1, 0, 5, 0, 1, 0, 2, 0, 1, 0, 3, 0, 1, 0, 2, 0, 1, 0, 4, 0, 1, 0, 2, 0, 1, 0, 3, 0, 1, 0, 2, 0, 1, 0, 7, 0, 1, 0, 2, 0, 1, 0, 3, 0, 1, 0, 2, 0, 1, 0, 4, 0, 1, 0, 2, 0, 1, 0, 3, 0, 1, 0, 2, 0, 1, 0, 5, 0, 1, 0, 2, 0, 1, 0, 3, 0, 1, 0, 2, 0, 1, 0, 4, 0, 1, 0, 2, 0, 1, 0, 3, 0, 1, 0, 2, 0, 1, 0, 6, 0, 1, 0, 2, 0, 1, 0, 3, 0, 1, 0, 2, 0, 1, 0, 4, 0, 1, 0, 2, 0, 1, 0, 3, 0, 1, 0, 2, 0, 1, 0, 5, 0, 1, 0, 2, 0, 1, 0, 3, 0, 1, 0, 2, 0, 1, 0, 4, 0, 1, 0, 2, 0, 1, 0, 3, 0, 1, 0, 2, 0, 1, 0])) (.c (.i .u8 x0)))) fun v4 =>
  asI .u8 v4 fun x4 =>
  forceI (wr .i64 x4) fun x5 =>
  finM m0.h.length (tupA [(.i .i64 x5)]) m0

theorem g75_ok {ro : List ABlk} {O : Caller} {M : Means} (hM : M.Ok ⟨F, O⟩ ro) {x0 h r} (ho : O 75 [(.i .u8 x0)] h = none) (hr : g75 M ro x0 ⟨h, h.length, h.length⟩ = some r) : callX ⟨F, O⟩ ro 75 [(.i .u8 x0)] h = some r := by
  refine callX_of (F := ⟨F, O⟩) (fn := fn75) (g := g75 M ro x0) ho rfl rfl hr ?_
  clear ho
  clear hr
  intro m0 t0 ht hr
  have g0 : t0.get 0 = (.i .u8 x0) := ht 0
  clear ht
  unfold g75 at hr
  refine w_seq ?_
  refine w_ops ?_
  refine wo_step (v := (.i .i64 0)) (s_pure (p_mv rfl)) ?_
  refine wo_nil ?_
  refine nx_norm ?_
  refine w_seq ?_
  refine w_ops ?_
  refine wo_step (v := (.i .u8 x0)) (s_pure (p_mv g0)) ?_
  have hq := bindO_inv hr
  clear hr
  obtain ⟨v4, e4, hr⟩ := hq
  have hq := asI_inv hr
  clear hr
  obtain ⟨x4, rfl, hr⟩ := hq
  refine wo_step (v := (.i .u8 x4)) (s_pure (o_ixStr rfl rfl e4)) ?_
  have hq := forceI_inv hr
  clear hr
  obtain ⟨x5, e5, hr⟩ := hq
  refine wo_step (v := (.i .i64 x5)) (s_pure ((p_conv rfl).trans (ci e5))) ?_
  refine wo_step (v := (.i .i64 x5)) (s_pure (p_mv rfl)) ?_
  refine wo_nil ?_
  refine nx_norm ?_
  refine w_ret ?_
  exact qf ret_ok (rt rfl rn) hr

/- (dibber/weed.pairs).has -/

def g76 (M : Means) (ro : List ABlk) (x0 : Int) (x1 : Int) (m0 : Mm) : Option (AVal × Heap × Nat × Nat) :=
  chk (!ltI x1 (.ofNat 0)) <|
  forceI (shrV .u8 x0 x1) fun x7 =>
  forceI (bitV .and .u8 x7 1) fun x8 =>
  forceB (eqI x8 1) fun c9 =>
  finM m0.h.length (tupA [(.b c9)]) m0

theorem g76_ok {ro : List ABlk} {O : Caller} {M : Means} (hM : M.Ok ⟨F, O⟩ ro) {x0 x1 h r} (ho : O 76 [(.i .u8 x0), (.i .i64 x1)] h = none) (hr : g76 M ro x0 x1 ⟨h, h.length, h.length⟩ = some r) : callX ⟨F, O⟩ ro 76 [(.i .u8 x0), (.i .i64 x1)] h = some r := by
  refine callX_of (F := ⟨F, O⟩) (fn := fn76) (g := g76 M ro x0 x1) ho rfl rfl hr ?_
  clear ho
  clear hr
  intro m0 t0 ht hr
  have g0 : t0.get 0 = (.i .u8 x0) := ht 0
  have g1 : t0.get 1 = (.i .i64 x1) := ht 1
  clear ht
  unfold g76 at hr
  refine w_seq ?_
  refine w_ops ?_
  refine wo_step (v := (.b false)) (s_pure (p_mv rfl)) ?_
  refine wo_nil ?_
  refine nx_norm ?_
  refine w_seq ?_
  refine w_ops ?_
  refine wo_step (v := (.i .u8 x0)) (s_pure (p_mv g0)) ?_
  refine wo_step (v := (.i .i64 x1)) (s_pure (p_mv g1)) ?_
  have hq := chk_inv hr
  clear hr
  obtain ⟨hc7, hr⟩ := hq
  have hq := forceI_inv hr
  clear hr
  obtain ⟨x7, e7, hr⟩ := hq
  refine wo_step (v := (.i .u8 x7)) (s_pure (p_bin rfl rfl ((b_shr hc7).trans (ci e7)))) ?_
  have hq := forceI_inv hr
  clear hr
  obtain ⟨x8, e8, hr⟩ := hq
  refine wo_step (v := (.i .u8 x8)) (s_pure (p_bin rfl rfl (b_and.trans (ci e8)))) ?_
  have hq := forceB_inv hr
  clear hr
  obtain ⟨c9, e9, hr⟩ := hq
  refine wo_step (v := (.b c9)) (s_pure (p_bin rfl rfl (b_eql.trans (cb e9)))) ?_
  refine wo_step (v := (.b c9)) (s_pure (p_mv rfl)) ?_
  refine wo_nil ?_
  refine nx_norm ?_
  refine w_ret ?_
  exact qf ret_ok (rt rfl rn) hr

/- (dibber/weed.rule).ahead -/
abbrev g78_I0 (x0 : Int) (x1 : Int) (x2 : Int) (s : Int × Int × Mm) (m1 : Mm) (t1 : Tr) : Prop :=
  match s with
  | (x7, x9, m_1) => m_1 = m1 ∧ t1.get 7 = (.i .u8 x7) ∧ t1.get 9 = (.i .i64 x9) ∧ t1.get 0 = (.i .u8 x0) ∧ t1.get 1 = (.i .u8 x1) ∧ t1.get 2 = (.i .i64 x2)
abbrev g78_J0 (x0 : Int) (x1 : Int) (x2 : Int) (o : (Int × Mm)) (e : AExit) (m1 : Mm) (t1 : Tr) : Prop :=
  match o with
  | (y7, mo) => e = (.exit 0) ∧ mo = m1 ∧ t1.get 7 = (.i .u8 y7)
abbrev g78_J1 (x0 : Int) (x1 : Int) (x2 : Int) (x7 : Int) (x9 : Int) (o : Bool × Mm) (m1 : Mm) (t1 : Tr) : Prop :=
  match o with
  | (c22, m_3) => m_3 = m1 ∧ t1.get 22 = (.b c22) ∧ t1.get 0 = (.i .u8 x0) ∧ t1.get 1 = (.i .u8 x1) ∧ t1.get 2 = (.i .i64 x2) ∧ t1.get 7 = (.i .u8 x7) ∧ t1.get 8 = (.i .i64 x9) ∧ t1.get 9 = (.i .i64 x9)
abbrev g78_J2 (x0 : Int) (x1 : Int) (x2 : Int) (x9 : Int) (m_3 : Mm) (o : Int) (e : AExit) (m1 : Mm) (t1 : Tr) : Prop :=
  match o with
  | y7 => e = .norm ∧ m_3 = m1 ∧ t1.get 7 = (.i .u8 y7) ∧ t1.get 0 = (.i .u8 x0) ∧ t1.get 1 = (.i .u8 x1) ∧ t1.get 2 = (.i .i64 x2) ∧ t1.get 9 = (.i .i64 x9)
def g78_b0 (M : Means) (ro : List ABlk) (x0 : Int) (x1 : Int) (x2 : Int) (x7 : Int) (x9 : Int) (m_1 : Mm) : Option ((Int × Int × Mm) ⊕ ((Int × Mm))) :=
  forceB (ltI x9 8) fun c10 =>
  cond c10 (
    forceI (shrV .i64 x9 1) fun x14 =>
    bindP (callM M.call m_1 76 [(.i .u8 x1), (.i .i64 x14)]) fun v15 m_2 =>
    asB v15 fun c15 =>
    bindO (cond c15 (
      bindP (callM M.call m_2 72 [(.i .u8 x0), (.i .i64 x9)]) fun v19 m_4 =>
      asI .i64 v19 fun x19 =>
      forceB (eqI x19 x2) fun c21 =>
      some (c21, m_4)) (
      some (false, m_2))) fun ⟨c22, m_3⟩ =>
    bindO (α := Int) (
      cond c22 (
        forceI (bitV .and .i64 x9 3) fun x25 =>
        chk (!ltI x25 (.ofNat 0)) <|
        forceI (shlV .u8 1 x25) fun x26 =>
        forceI (bitV .or .u8 x7 x26) fun x27 =>
        some x27) (
        some x7)) fun x7_1 =>
    forceI (wr .i64 (x9 + 1)) fun x28 =>
    some (.inl (x7_1, x28, m_3))) (
    some (.inr (x7, m_1)))
def g78 (M : Means) (ro : List ABlk) (x0 : Int) (x1 : Int) (x2 : Int) (m0 : Mm) : Option (AVal × Heap × Nat × Nat) :=
  bindO (M.loop (S := Int × Int × Mm) (R := (Int × Mm)) (fun s => g78_b0 M ro x0 x1 x2 s.1 s.2.1 s.2.2) (0, 0, m0)) fun ⟨x7_2, m_5⟩ =>
  finM m0.h.length (tupA [(.i .u8 x7_2)]) m_5

theorem g78_ok {ro : List ABlk} {O : Caller} {M : Means} (hM : M.Ok ⟨F, O⟩ ro) {x0 x1 x2 h r} (ho : O 78 [(.i .u8 x0), (.i .u8 x1), (.i .i64 x2)] h = none) (hr : g78 M ro x0 x1 x2 ⟨h, h.length, h.length⟩ = some r) : callX ⟨F, O⟩ ro 78 [(.i .u8 x0), (.i .u8 x1), (.i .i64 x2)] h = some r := by
  refine callX_of (F := ⟨F, O⟩) (fn := fn78) (g := g78 M ro x0 x1 x2) ho rfl rfl hr ?_
  clear ho
  clear hr
  intro m0 t0 ht hr
  have g0 : t0.get 0 = (.i .u8 x0) := ht 0
  have g1 : t0.get 1 = (.i .u8 x1) := ht 1
  have g2 : t0.get 2 = (.i .i64 x2) := ht 2
  clear ht
  unfold g78 at hr
  refine w_seq ?_
  refine w_ops ?_
  refine wo_step (v := (.i .u8 0)) (s_pure (p_mv rfl)) ?_
  refine wo_nil ?_
  refine nx_norm ?_
  refine w_seq ?_
  refine w_ops ?_
  refine wo_step (v := (.i .u8 0)) (s_pure (p_mv rfl)) ?_
  refine wo_nil ?_
  refine nx_norm ?_
  refine w_seq ?_
  refine w_seq ?_
  refine w_ops ?_
  refine wo_step (v := (.i .i64 0)) (s_pure (p_mv rfl)) ?_
  refine wo_nil ?_
  refine nx_norm ?_
  refine w_block ?_
  have hq := bindO_inv hr
  clear hr
  obtain ⟨o_2, hl, hr⟩ := hq
  obtain ⟨n, hl⟩ := hM.loop _ _ _ hl
  refine jp_mono (w_loop _ (g78_I0 x0 x1 x2) (g78_J0 x0 x1 x2) ?_ n _ _ _ _ hl ⟨rfl, gl rfl, gl rfl, gl g0, gl g1, gl g2⟩) ?_
  · clear hr hl
    intro s mm_3 t_1 o hi hr
    obtain ⟨x7, x9, m_1⟩ := s
    obtain ⟨rfl, g7, g9, g0, g1, g2⟩ := hi
    unfold g78_b0 at hr
    refine w_seq ?_
    refine w_ops ?_
    have hq := forceB_inv hr
    clear hr
    obtain ⟨c10, e10, hr⟩ := hq
    refine wo_step (v := (.b c10)) (s_pure (p_bin g9 rfl (b_lss.trans (cb e10)))) ?_
    refine wo_nil ?_
    refine nx_norm ?_
    refine w_seq ?_
    have hq := cond_inv hr
    clear hr
    rcases hq with ⟨rfl, hr⟩ | ⟨rfl, hr⟩
    · refine w_condT rfl ?_
      refine w_skip ?_
      refine nx_norm ?_
      refine w_seq ?_
      refine w_block ?_
      refine w_seq ?_
      refine w_ops ?_
      refine wo_step (v := (.i .i64 x9)) (s_pure (p_mv g9)) ?_
      refine wo_step (v := (.i .i64 x9)) (s_pure (p_mv rfl)) ?_
      refine wo_nil ?_
      refine nx_norm ?_
      refine w_seq ?_
      refine w_ops ?_
      refine wo_step (v := (.i .u8 x1)) (s_pure (p_mv g1)) ?_
      refine wo_step (v := (.i .i64 x9)) (s_pure (p_mv rfl)) ?_
      have hq := forceI_inv hr
      clear hr
      obtain ⟨x14, e14, hr⟩ := hq
      refine wo_step (v := (.i .i64 x14)) (s_pure (p_bin rfl rfl ((b_shr rfl).trans (ci e14)))) ?_
      have hq := bindP_inv hr
      clear hr
      obtain ⟨v15, m_2, e15, hr⟩ := hq
      have hq := asB_inv hr
      clear hr
      obtain ⟨c15, rfl, hr⟩ := hq
      refine wo_step (v := (.b c15)) (s_call (mc rfl (mc rfl mn)) (callM_le hM.call e15)) ?_
      refine wo_step (v := (.b c15)) (s_pure (p_mv rfl)) ?_
      have hq := bindO_inv hr
      clear hr
      obtain ⟨o, hr, hk⟩ := hq
      refine wo_join 6 (g78_J1 x0 x1 x2 x7 x9 o) ?_ ?_
      · clear hk
        have hq := cond_inv hr
        clear hr
        rcases hq with ⟨rfl, hr⟩ | ⟨rfl, hr⟩
        · refine wo_take (v := (.i .u8 x0)) rfl (s_pure (p_mv g0)) ?_
          refine wo_take (v := (.i .i64 x9)) rfl (s_pure (p_mv rfl)) ?_
          have hq := bindP_inv hr
          clear hr
          obtain ⟨v19, m_4, e19, hr⟩ := hq
          have hq := asI_inv hr
          clear hr
          obtain ⟨x19, rfl, hr⟩ := hq
          refine wo_take (v := (.i .i64 x19)) rfl (s_call (mc rfl (mc rfl mn)) (callM_le hM.call e19)) ?_
          refine wo_take (v := (.i .i64 x2)) rfl (s_pure (p_mv g2)) ?_
          have hq := forceB_inv hr
          clear hr
          obtain ⟨c21, e21, hr⟩ := hq
          refine wo_take (v := (.b c21)) rfl (s_pure (p_bin rfl rfl (b_eql.trans (cb e21)))) ?_
          refine wo_step (v := (.b c21)) (s_pure (p_pickT rfl rfl)) ?_
          refine wo_nil ?_
          cases hr
          exact ⟨_, _, rfl, rfl, gl rfl, gl g0, gl g1, gl g2, gl g7, gl rfl, gl g9⟩
        · refine wo_skip (v := (.b false)) rfl rfl ?_
          refine wo_skip (v := (.b false)) rfl rfl ?_
          refine wo_skip (v := (.b false)) rfl rfl ?_
          refine wo_skip (v := (.b false)) rfl rfl ?_
          refine wo_skip (v := (.b false)) rfl rfl ?_
          refine wo_step (v := (.b false)) (s_pure (p_pickF rfl rfl)) ?_
          refine wo_nil ?_
          cases hr
          exact ⟨_, _, rfl, rfl, gl rfl, gl g0, gl g1, gl g2, gl g7, gl rfl, gl g9⟩
      · clear hr
        have hr := hk
        clear hk
        obtain ⟨c22, m_3⟩ := o
        rintro mm t_2 ⟨rfl, g22, g0, g1, g2, g7, g8, g9⟩
        refine wo_nil ?_
        refine nx_norm ?_
        have hq := bindO_inv hr
        clear hr
        obtain ⟨o_1, hr, hk⟩ := hq
        refine jp_mono (J := g78_J2 x0 x1 x2 x9 m_3 o_1) ?_ ?_
        · clear hk
          have hq := cond_inv hr
          clear hr
          rcases hq with ⟨rfl, hr⟩ | ⟨rfl, hr⟩
          · refine w_condT g22 ?_
            refine w_ops ?_
            refine wo_step (v := (.i .u8 x7)) (s_pure (p_mv g7)) ?_
            refine wo_step (v := (.i .i64 x9)) (s_pure (p_mv g8)) ?_
            have hq := forceI_inv hr
            clear hr
            obtain ⟨x25, e25, hr⟩ := hq
            refine wo_step (v := (.i .i64 x25)) (s_pure (p_bin rfl rfl (b_and.trans (ci e25)))) ?_
            have hq := chk_inv hr
            clear hr
            obtain ⟨hc26, hr⟩ := hq
            have hq := forceI_inv hr
            clear hr
            obtain ⟨x26, e26, hr⟩ := hq
            refine wo_step (v := (.i .u8 x26)) (s_pure (p_bin rfl rfl ((b_shl hc26).trans (ci e26)))) ?_
            have hq := forceI_inv hr
            clear hr
            obtain ⟨x27, e27, hr⟩ := hq
            refine wo_step (v := (.i .u8 x27)) (s_pure (p_bin rfl rfl (b_or.trans (ci e27)))) ?_
            refine wo_step (v := (.i .u8 x27)) (s_pure (p_mv rfl)) ?_
            refine wo_nil ?_
            cases hr
            exact ⟨_, _, rfl, rfl, rfl, gl rfl, gl g0, gl g1, gl g2, gl g9⟩
          · refine w_condF g22 ?_
            refine w_skip ?_
            cases hr
            exact ⟨_, _, rfl, rfl, rfl, gl g7, gl g0, gl g1, gl g2, gl g9⟩
        · have hr := hk
          clear hk
          obtain ⟨x7_1, ho⟩ : ∃ z, z = o_1 := ⟨_, rfl⟩
          subst ho
          rintro _ mm_1 t_3 ⟨rfl, rfl, g7, g0, g1, g2, g9⟩
          refine bk_norm ?_
          refine nx_norm ?_
          refine w_ops ?_
          have hq := forceI_inv hr
          clear hr
          obtain ⟨x28, e28, hr⟩ := hq
          refine wo_step (v := (.i .i64 x28)) (s_pure (p_bin g9 rfl (b_add.trans (ci e28)))) ?_
          refine wo_step (v := (.i .i64 x28)) (s_pure (p_mv rfl)) ?_
          refine wo_nil ?_
          cases hr
          exact ⟨_, _, rfl, rfl, rfl, gl g7, gl rfl, gl g0, gl g1, gl g2⟩
    · refine w_condF rfl ?_
      refine w_exit ?_
      refine nx_exit ?_
      cases hr
      exact ⟨_, _, rfl, ne_norm_exit, rfl, rfl, gl g7⟩
  · obtain ⟨x7_2, m_5⟩ := o_2
    rintro _ mm_2 t_4 ⟨rfl, rfl, g7⟩
    refine bk_hit ?_
    refine nx_norm ?_
    refine w_seq ?_
    refine w_ops ?_
    refine wo_step (v := (.i .u8 x7_2)) (s_pure (p_mv g7)) ?_
    refine wo_step (v := (.i .u8 x7_2)) (s_pure (p_mv rfl)) ?_
    refine wo_nil ?_
    refine nx_norm ?_
    refine w_ret ?_
    exact qf ret_ok (rt rfl rn) hr

/- (dibber/weed.rule).lasting -/
abbrev g79_I0 (x0 : Int) (x1 : Int) (s : Int × Int × Int × Mm) (m1 : Mm) (t1 : Tr) : Prop :=
  match s with
  | (x5, x6, x11, m_1) => m_1 = m1 ∧ t1.get 5 = (.i .u16 x5) ∧ t1.get 6 = (.i .u16 x6) ∧ t1.get 11 = (.i .i64 x11) ∧ t1.get 0 = (.i .u8 x0) ∧ t1.get 1 = (.i .u16 x1)
abbrev g79_J0 (x0 : Int) (x1 : Int) (o : (Int × Int × Mm)) (e : AExit) (m1 : Mm) (t1 : Tr) : Prop :=
  match o with
  | (y5, y6, mo) => e = (.exit 0) ∧ mo = m1 ∧ t1.get 5 = (.i .u16 y5) ∧ t1.get 6 = (.i .u16 y6) ∧ t1.get 1 = (.i .u16 x1)
abbrev g79_I1 (x0 : Int) (x1 : Int) (x11 : Int) (s : Int × Int × Int × Mm) (m1 : Mm) (t1 : Tr) : Prop :=
  match s with
  | (x5_1, x6_1, x14, m_2) => m_2 = m1 ∧ t1.get 5 = (.i .u16 x5_1) ∧ t1.get 6 = (.i .u16 x6_1) ∧ t1.get 14 = (.i .i64 x14) ∧ t1.get 0 = (.i .u8 x0) ∧ t1.get 1 = (.i .u16 x1) ∧ t1.get 7 = (.i .i64 x11) ∧ t1.get 11 = (.i .i64 x11)
abbrev g79_J1 (x0 : Int) (x1 : Int) (x11 : Int) (o : (Int × Int × Mm)) (e : AExit) (m1 : Mm) (t1 : Tr) : Prop :=
  match o with
  | (y5, y6, mo) => e = (.exit 2) ∧ mo = m1 ∧ t1.get 5 = (.i .u16 y5) ∧ t1.get 6 = (.i .u16 y6) ∧ t1.get 0 = (.i .u8 x0) ∧ t1.get 1 = (.i .u16 x1) ∧ t1.get 11 = (.i .i64 x11)
abbrev g79_J2 (x0 : Int) (x1 : Int) (x5_1 : Int) (x6_1 : Int) (x11 : Int) (x23 : Int) (x30 : Int) (x14 : Int) (m_4 : Mm) (o : Bool) (m1 : Mm) (t1 : Tr) : Prop :=
  match o with
  | c43 => m_4 = m1 ∧ t1.get 43 = (.b c43) ∧ t1.get 0 = (.i .u8 x0) ∧ t1.get 1 = (.i .u16 x1) ∧ t1.get 5 = (.i .u16 x5_1) ∧ t1.get 6 = (.i .u16 x6_1) ∧ t1.get 7 = (.i .i64 x11) ∧ t1.get 9 = (.i .u16 x23) ∧ t1.get 10 = (.i .u16 x30) ∧ t1.get 11 = (.i .i64 x11) ∧ t1.get 14 = (.i .i64 x14)
abbrev g79_J3 (x0 : Int) (x1 : Int) (x5_1 : Int) (x6_1 : Int) (x11 : Int) (x23 : Int) (x30 : Int) (x14 : Int) (m_4 : Mm) (o : Bool) (m1 : Mm) (t1 : Tr) : Prop :=
  match o with
  | c49 => m_4 = m1 ∧ t1.get 49 = (.b c49) ∧ t1.get 0 = (.i .u8 x0) ∧ t1.get 1 = (.i .u16 x1) ∧ t1.get 5 = (.i .u16 x5_1) ∧ t1.get 6 = (.i .u16 x6_1) ∧ t1.get 7 = (.i .i64 x11) ∧ t1.get 9 = (.i .u16 x23) ∧ t1.get 10 = (.i .u16 x30) ∧ t1.get 11 = (.i .i64 x11) ∧ t1.get 14 = (.i .i64 x14)
abbrev g79_J4 (x0 : Int) (x1 : Int) (x11 : Int) (x14 : Int) (m_4 : Mm) (o : (Int × Int)) (e : AExit) (m1 : Mm) (t1 : Tr) : Prop :=
  match o with
  | (y5, y6) => e = .norm ∧ m_4 = m1 ∧ t1.get 5 = (.i .u16 y5) ∧ t1.get 6 = (.i .u16 y6) ∧ t1.get 0 = (.i .u8 x0) ∧ t1.get 1 = (.i .u16 x1) ∧ t1.get 7 = (.i .i64 x11) ∧ t1.get 11 = (.i .i64 x11) ∧ t1.get 14 = (.i .i64 x14)
def g79_b1 (M : Means) (ro : List ABlk) (x0 : Int) (x1 : Int) (x11 : Int) (x5_1 : Int) (x6_1 : Int) (x14 : Int) (m_2 : Mm) : Option ((Int × Int × Int × Mm) ⊕ ((Int × Int × Mm))) :=
  forceB (ltI x14 8) fun c15 =>
  cond c15 (
    forceI (shrV .i64 x11 1) fun x18 =>
    forceI (shlV .i64 x18 2) fun x19 =>
    forceI (shrV .i64 x14 1) fun x21 =>
    forceI (bitV .or .i64 x19 x21) fun x22 =>
    chk (!ltI x22 (.ofNat 0)) <|
    forceI (shlV .u16 1 x22) fun x23 =>
    forceI (bitV .and .i64 x11 3) fun x25 =>
    forceI (shlV .i64 x25 2) fun x26 =>
    forceI (bitV .and .i64 x14 3) fun x28 =>
    forceI (bitV .or .i64 x26 x28) fun x29 =>
    chk (!ltI x29 (.ofNat 0)) <|
    forceI (shlV .u16 1 x29) fun x30 =>
    bindP (callM M.call m_2 72 [(.i .u8 x0), (.i .i64 x11)]) fun v33 m_3 =>
    asI .i64 v33 fun x33 =>
    bindP (callM M.call m_3 72 [(.i .u8 x0), (.i .i64 x14)]) fun v36 m_4 =>
    asI .i64 v36 fun x36 =>
    forceB (eqI x33 x36) fun c37 =>
    bindO (cond c37 (
      forceI (bitV .and .u16 x1 x23) fun x41 =>
      forceB (!eqI x41 0) fun c42 =>
      some c42) (
      some false)) fun c43 =>
    bindO (cond c43 (
      forceI (bitV .and .u16 x1 x30) fun x47 =>
      forceB (!eqI x47 0) fun c48 =>
      some c48) (
      some false)) fun c49 =>
    bindO (α := (Int × Int)) (
      cond c49 (
        forceI (bitV .or .u16 x5_1 x23) fun x52 =>
        forceI (bitV .or .u16 x6_1 x30) fun x55 =>
        some (x52, x55)) (
        some (x5_1, x6_1))) fun ⟨x5_2, x6_2⟩ =>
    forceI (wr .i64 (x14 + 1)) fun x56 =>
    some (.inl (x5_2, x6_2, x56, m_4))) (
    some (.inr (x5_1, x6_1, m_2)))
def g79_b0 (M : Means) (ro : List ABlk) (x0 : Int) (x1 : Int) (x5 : Int) (x6 : Int) (x11 : Int) (m_1 : Mm) : Option ((Int × Int × Int × Mm) ⊕ ((Int × Int × Mm))) :=
  forceB (ltI x11 8) fun c12 =>
  cond c12 (
    bindO (M.loop (S := Int × Int × Int × Mm) (R := (Int × Int × Mm)) (fun s => g79_b1 M ro x0 x1 x11 s.1 s.2.1 s.2.2.1 s.2.2.2) (x5, x6, 0, m_1)) fun ⟨x5_3, x6_3, m_5⟩ =>
    forceI (wr .i64 (x11 + 1)) fun x57 =>
    some (.inl (x5_3, x6_3, x57, m_5))) (
    some (.inr (x5, x6, m_1)))
def g79 (M : Means) (ro : List ABlk) (x0 : Int) (x1 : Int) (m0 : Mm) : Option (AVal × Heap × Nat × Nat) :=
  bindO (M.loop (S := Int × Int × Int × Mm) (R := (Int × Int × Mm)) (fun s => g79_b0 M ro x0 x1 s.1 s.2.1 s.2.2.1 s.2.2.2) (0, 0, 0, m0)) fun ⟨x5_4, x6_4, m_6⟩ =>
  forceI (bitV .and .u16 x1 x5_4) fun x60 =>
  forceI (bitV .and .u16 x60 x6_4) fun x62 =>
  finM m0.h.length (tupA [(.i .u16 x62)]) m_6

theorem g79_ok {ro : List ABlk} {O : Caller} {M : Means} (hM : M.Ok ⟨F, O⟩ ro) {x0 x1 h r} (ho : O 79 [(.i .u8 x0), (.i .u16 x1)] h = none) (hr : g79 M ro x0 x1 ⟨h, h.length, h.length⟩ = some r) : callX ⟨F, O⟩ ro 79 [(.i .u8 x0), (.i .u16 x1)] h = some r := by
  refine callX_of (F := ⟨F, O⟩) (fn := fn79) (g := g79 M ro x0 x1) ho rfl rfl hr ?_
  clear ho
  clear hr
  intro m0 t0 ht hr
  have g0 : t0.get 0 = (.i .u8 x0) := ht 0
  have g1 : t0.get 1 = (.i .u16 x1) := ht 1
  clear ht
  unfold g79 at hr
  refine w_seq ?_
  refine w_ops ?_
  refine wo_step (v := (.i .u16 0)) (s_pure (p_mv rfl)) ?_
  refine wo_nil ?_
  refine nx_norm ?_
  refine w_seq ?_
  refine w_ops ?_
  refine wo_step (v := (.i .u16 0)) (s_pure (p_mv rfl)) ?_
  refine wo_step (v := (.i .u16 0)) (s_pure (p_mv rfl)) ?_
  refine wo_nil ?_
  refine nx_norm ?_
  refine w_seq ?_
  refine w_seq ?_
  refine w_ops ?_
  refine wo_step (v := (.i .i64 0)) (s_pure (p_mv rfl)) ?_
  refine wo_nil ?_
  refine nx_norm ?_
  refine w_block ?_
  have hq := bindO_inv hr
  clear hr
  obtain ⟨o_4, hl_1, hr⟩ := hq
  obtain ⟨n_1, hl_1⟩ := hM.loop _ _ _ hl_1
  refine jp_mono (w_loop _ (g79_I0 x0 x1) (g79_J0 x0 x1) ?_ n_1 _ _ _ _ hl_1 ⟨rfl, gl rfl, gl rfl, gl rfl, gl g0, gl g1⟩) ?_
  · clear hr hl_1
    intro s mm_6 t_1 o hi hr
    obtain ⟨x5, x6, x11, m_1⟩ := s
    obtain ⟨rfl, g5, g6, g11, g0, g1⟩ := hi
    unfold g79_b0 at hr
    refine w_seq ?_
    refine w_ops ?_
    have hq := forceB_inv hr
    clear hr
    obtain ⟨c12, e12, hr⟩ := hq
    refine wo_step (v := (.b c12)) (s_pure (p_bin g11 rfl (b_lss.trans (cb e12)))) ?_
    refine wo_nil ?_
    refine nx_norm ?_
    refine w_seq ?_
    have hq := cond_inv hr
    clear hr
    rcases hq with ⟨rfl, hr⟩ | ⟨rfl, hr⟩
    · refine w_condT rfl ?_
      refine w_skip ?_
      refine nx_norm ?_
      refine w_seq ?_
      refine w_block ?_
      refine w_seq ?_
      refine w_ops ?_
      refine wo_step (v := (.i .i64 x11)) (s_pure (p_mv g11)) ?_
      refine wo_step (v := (.i .i64 x11)) (s_pure (p_mv rfl)) ?_
      refine wo_nil ?_
      refine nx_norm ?_
      refine w_seq ?_
      refine w_ops ?_
      refine wo_step (v := (.i .i64 0)) (s_pure (p_mv rfl)) ?_
      refine wo_nil ?_
      refine nx_norm ?_
      refine w_block ?_
      have hq := bindO_inv hr
      clear hr
      obtain ⟨o_3, hl, hr⟩ := hq
      obtain ⟨n, hl⟩ := hM.loop _ _ _ hl
      refine jp_mono (w_loop _ (g79_I1 x0 x1 x11) (g79_J1 x0 x1 x11) ?_ n _ _ _ _ hl ⟨rfl, gl g5, gl g6, gl rfl, gl g0, gl g1, gl rfl, gl g11⟩) ?_
      · clear hr hl
        intro s mm_4 t_2 o hi hr
        obtain ⟨x5_1, x6_1, x14, m_2⟩ := s
        obtain ⟨rfl, g5, g6, g14, g0, g1, g7, g11⟩ := hi
        unfold g79_b1 at hr
        refine w_seq ?_
        refine w_ops ?_
        have hq := forceB_inv hr
        clear hr
        obtain ⟨c15, e15, hr⟩ := hq
        refine wo_step (v := (.b c15)) (s_pure (p_bin g14 rfl (b_lss.trans (cb e15)))) ?_
        refine wo_nil ?_
        refine nx_norm ?_
        refine w_seq ?_
        have hq := cond_inv hr
        clear hr
        rcases hq with ⟨rfl, hr⟩ | ⟨rfl, hr⟩
        · refine w_condT rfl ?_
          refine w_skip ?_
          refine nx_norm ?_
          refine w_seq ?_
          refine w_block ?_
          refine w_seq ?_
          refine w_ops ?_
          refine wo_step (v := (.i .i64 x14)) (s_pure (p_mv g14)) ?_
          refine wo_step (v := (.i .i64 x14)) (s_pure (p_mv rfl)) ?_
          refine wo_nil ?_
          refine nx_norm ?_
          refine w_seq ?_
          refine w_ops ?_
          refine wo_step (v := (.i .i64 x11)) (s_pure (p_mv g7)) ?_
          have hq := forceI_inv hr
          clear hr
          obtain ⟨x18, e18, hr⟩ := hq
          refine wo_step (v := (.i .i64 x18)) (s_pure (p_bin rfl rfl ((b_shr rfl).trans (ci e18)))) ?_
          have hq := forceI_inv hr
          clear hr
          obtain ⟨x19, e19, hr⟩ := hq
          refine wo_step (v := (.i .i64 x19)) (s_pure (p_bin rfl rfl ((b_shl rfl).trans (ci e19)))) ?_
          refine wo_step (v := (.i .i64 x14)) (s_pure (p_mv rfl)) ?_
          have hq := forceI_inv hr
          clear hr
          obtain ⟨x21, e21, hr⟩ := hq
          refine wo_step (v := (.i .i64 x21)) (s_pure (p_bin rfl rfl ((b_shr rfl).trans (ci e21)))) ?_
          have hq := forceI_inv hr
          clear hr
          obtain ⟨x22, e22, hr⟩ := hq
          refine wo_step (v := (.i .i64 x22)) (s_pure (p_bin rfl rfl (b_or.trans (ci e22)))) ?_
          have hq := chk_inv hr
          clear hr
          obtain ⟨hc23, hr⟩ := hq
          have hq := forceI_inv hr
          clear hr
          obtain ⟨x23, e23, hr⟩ := hq
          refine wo_step (v := (.i .u16 x23)) (s_pure (p_bin rfl rfl ((b_shl hc23).trans (ci e23)))) ?_
          refine wo_step (v := (.i .i64 x11)) (s_pure (p_mv g7)) ?_
          have hq := forceI_inv hr
          clear hr
          obtain ⟨x25, e25, hr⟩ := hq
          refine wo_step (v := (.i .i64 x25)) (s_pure (p_bin rfl rfl (b_and.trans (ci e25)))) ?_
          have hq := forceI_inv hr
          clear hr
          obtain ⟨x26, e26, hr⟩ := hq
          refine wo_step (v := (.i .i64 x26)) (s_pure (p_bin rfl rfl ((b_shl rfl).trans (ci e26)))) ?_
          refine wo_step (v := (.i .i64 x14)) (s_pure (p_mv rfl)) ?_
          have hq := forceI_inv hr
          clear hr
          obtain ⟨x28, e28, hr⟩ := hq
          refine wo_step (v := (.i .i64 x28)) (s_pure (p_bin rfl rfl (b_and.trans (ci e28)))) ?_
          have hq := forceI_inv hr
          clear hr
          obtain ⟨x29, e29, hr⟩ := hq
          refine wo_step (v := (.i .i64 x29)) (s_pure (p_bin rfl rfl (b_or.trans (ci e29)))) ?_
          have hq := chk_inv hr
          clear hr
          obtain ⟨hc30, hr⟩ := hq
          have hq := forceI_inv hr
          clear hr
          obtain ⟨x30, e30, hr⟩ := hq
          refine wo_step (v := (.i .u16 x30)) (s_pure (p_bin rfl rfl ((b_shl hc30).trans (ci e30)))) ?_
          refine wo_step (v := (.i .u16 x23)) (s_pure (p_mv rfl)) ?_
          refine wo_step (v := (.i .u16 x30)) (s_pure (p_mv rfl)) ?_
          refine wo_nil ?_
          refine nx_norm ?_
          refine w_seq ?_
          refine w_ops ?_
          refine wo_step (v := (.i .u8 x0)) (s_pure (p_mv g0)) ?_
          refine wo_step (v := (.i .i64 x11)) (s_pure (p_mv g7)) ?_
          have hq := bindP_inv hr
          clear hr
          obtain ⟨v33, m_3, e33, hr⟩ := hq
          have hq := asI_inv hr
          clear hr
          obtain ⟨x33, rfl, hr⟩ := hq
          refine wo_step (v := (.i .i64 x33)) (s_call (mc rfl (mc rfl mn)) (callM_le hM.call e33)) ?_
          refine wo_step (v := (.i .u8 x0)) (s_pure (p_mv g0)) ?_
          refine wo_step (v := (.i .i64 x14)) (s_pure (p_mv rfl)) ?_
          have hq := bindP_inv hr
          clear hr
          obtain ⟨v36, m_4, e36, hr⟩ := hq
          have hq := asI_inv hr
          clear hr
          obtain ⟨x36, rfl, hr⟩ := hq
          refine wo_step (v := (.i .i64 x36)) (s_call (mc rfl (mc rfl mn)) (callM_le hM.call e36)) ?_
          have hq := forceB_inv hr
          clear hr
          obtain ⟨c37, e37, hr⟩ := hq
          refine wo_step (v := (.b c37)) (s_pure (p_bin rfl rfl (b_eql.trans (cb e37)))) ?_
          refine wo_step (v := (.b c37)) (s_pure (p_mv rfl)) ?_
          have hq := bindO_inv hr
          clear hr
          obtain ⟨o, hr, hk⟩ := hq
          refine wo_join 5 (g79_J2 x0 x1 x5_1 x6_1 x11 x23 x30 x14 m_4 o) ?_ ?_
          · clear hk
            have hq := cond_inv hr
            clear hr
            rcases hq with ⟨rfl, hr⟩ | ⟨rfl, hr⟩
            · refine wo_take (v := (.i .u16 x1)) rfl (s_pure (p_mv g1)) ?_
              refine wo_take (v := (.i .u16 x23)) rfl (s_pure (p_mv rfl)) ?_
              have hq := forceI_inv hr
              clear hr
              obtain ⟨x41, e41, hr⟩ := hq
              refine wo_take (v := (.i .u16 x41)) rfl (s_pure (p_bin rfl rfl (b_and.trans (ci e41)))) ?_
              have hq := forceB_inv hr
              clear hr
              obtain ⟨c42, e42, hr⟩ := hq
              refine wo_take (v := (.b c42)) rfl (s_pure (p_bin rfl rfl (b_neq.trans (cb e42)))) ?_
              refine wo_step (v := (.b c42)) (s_pure (p_pickT rfl rfl)) ?_
              refine wo_nil ?_
              cases hr
              exact ⟨_, _, rfl, rfl, gl rfl, gl g0, gl g1, gl g5, gl g6, gl g7, gl rfl, gl rfl, gl g11, gl g14⟩
            · refine wo_skip (v := (.b false)) rfl rfl ?_
              refine wo_skip (v := (.b false)) rfl rfl ?_
              refine wo_skip (v := (.b false)) rfl rfl ?_
              refine wo_skip (v := (.b false)) rfl rfl ?_
              refine wo_step (v := (.b false)) (s_pure (p_pickF rfl rfl)) ?_
              refine wo_nil ?_
              cases hr
              exact ⟨_, _, rfl, rfl, gl rfl, gl g0, gl g1, gl g5, gl g6, gl g7, gl rfl, gl rfl, gl g11, gl g14⟩
          · clear hr
            have hr := hk
            clear hk
            obtain ⟨c43, ho⟩ : ∃ z, z = o := ⟨_, rfl⟩
            subst ho
            rintro mm t_3 ⟨rfl, g43, g0, g1, g5, g6, g7, g9, g10, g11, g14⟩
            refine wo_step (v := (.b c43)) (s_pure (p_mv g43)) ?_
            have hq := bindO_inv hr
            clear hr
            obtain ⟨o_1, hr, hk⟩ := hq
            refine wo_join 5 (g79_J3 x0 x1 x5_1 x6_1 x11 x23 x30 x14 m_4 o_1) ?_ ?_
            · clear hk
              have hq := cond_inv hr
              clear hr
              rcases hq with ⟨rfl, hr⟩ | ⟨rfl, hr⟩
              · refine wo_take (v := (.i .u16 x1)) rfl (s_pure (p_mv g1)) ?_
                refine wo_take (v := (.i .u16 x30)) rfl (s_pure (p_mv g10)) ?_
                have hq := forceI_inv hr
                clear hr
                obtain ⟨x47, e47, hr⟩ := hq
                refine wo_take (v := (.i .u16 x47)) rfl (s_pure (p_bin rfl rfl (b_and.trans (ci e47)))) ?_
                have hq := forceB_inv hr
                clear hr
                obtain ⟨c48, e48, hr⟩ := hq
                refine wo_take (v := (.b c48)) rfl (s_pure (p_bin rfl rfl (b_neq.trans (cb e48)))) ?_
                refine wo_step (v := (.b c48)) (s_pure (p_pickT rfl rfl)) ?_
                refine wo_nil ?_
                cases hr
                exact ⟨_, _, rfl, rfl, gl rfl, gl g0, gl g1, gl g5, gl g6, gl g7, gl g9, gl g10, gl g11, gl g14⟩
              · refine wo_skip (v := (.b false)) rfl rfl ?_
                refine wo_skip (v := (.b false)) rfl rfl ?_
                refine wo_skip (v := (.b false)) rfl rfl ?_
                refine wo_skip (v := (.b false)) rfl rfl ?_
                refine wo_step (v := (.b false)) (s_pure (p_pickF rfl rfl)) ?_
                refine wo_nil ?_
                cases hr
                exact ⟨_, _, rfl, rfl, gl rfl, gl g0, gl g1, gl g5, gl g6, gl g7, gl g9, gl g10, gl g11, gl g14⟩
            · clear hr
              have hr := hk
              clear hk
              obtain ⟨c49, ho⟩ : ∃ z, z = o_1 := ⟨_, rfl⟩
              subst ho
              rintro mm_1 t_4 ⟨rfl, g49, g0, g1, g5, g6, g7, g9, g10, g11, g14⟩
              refine wo_nil ?_
              refine nx_norm ?_
              have hq := bindO_inv hr
              clear hr
              obtain ⟨o_2, hr, hk⟩ := hq
              refine jp_mono (J := g79_J4 x0 x1 x11 x14 m_4 o_2) ?_ ?_
              · clear hk
                have hq := cond_inv hr
                clear hr
                rcases hq with ⟨rfl, hr⟩ | ⟨rfl, hr⟩
                · refine w_condT g49 ?_
                  refine w_seq ?_
                  refine w_ops ?_
                  refine wo_step (v := (.i .u16 x5_1)) (s_pure (p_mv g5)) ?_
                  refine wo_step (v := (.i .u16 x23)) (s_pure (p_mv g9)) ?_
                  have hq := forceI_inv hr
                  clear hr
                  obtain ⟨x52, e52, hr⟩ := hq
                  refine wo_step (v := (.i .u16 x52)) (s_pure (p_bin rfl rfl (b_or.trans (ci e52)))) ?_
                  refine wo_step (v := (.i .u16 x52)) (s_pure (p_mv rfl)) ?_
                  refine wo_nil ?_
                  refine nx_norm ?_
                  refine w_ops ?_
                  refine wo_step (v := (.i .u16 x6_1)) (s_pure (p_mv g6)) ?_
                  refine wo_step (v := (.i .u16 x30)) (s_pure (p_mv g10)) ?_
                  have hq := forceI_inv hr
                  clear hr
                  obtain ⟨x55, e55, hr⟩ := hq
                  refine wo_step (v := (.i .u16 x55)) (s_pure (p_bin rfl rfl (b_or.trans (ci e55)))) ?_
                  refine wo_step (v := (.i .u16 x55)) (s_pure (p_mv rfl)) ?_
                  refine wo_nil ?_
                  cases hr
                  exact ⟨_, _, rfl, rfl, rfl, gl rfl, gl rfl, gl g0, gl g1, gl g7, gl g11, gl g14⟩
                · refine w_condF g49 ?_
                  refine w_skip ?_
                  cases hr
                  exact ⟨_, _, rfl, rfl, rfl, gl g5, gl g6, gl g0, gl g1, gl g7, gl g11, gl g14⟩
              · have hr := hk
                clear hk
                obtain ⟨x5_2, x6_2⟩ := o_2
                rintro _ mm_2 t_5 ⟨rfl, rfl, g5, g6, g0, g1, g7, g11, g14⟩
                refine bk_norm ?_
                refine nx_norm ?_
                refine w_ops ?_
                have hq := forceI_inv hr
                clear hr
                obtain ⟨x56, e56, hr⟩ := hq
                refine wo_step (v := (.i .i64 x56)) (s_pure (p_bin g14 rfl (b_add.trans (ci e56)))) ?_
                refine wo_step (v := (.i .i64 x56)) (s_pure (p_mv rfl)) ?_
                refine wo_nil ?_
                cases hr
                exact ⟨_, _, rfl, rfl, rfl, gl g5, gl g6, gl rfl, gl g0, gl g1, gl g7, gl g11⟩
        · refine w_condF rfl ?_
          refine w_exit ?_
          refine nx_exit ?_
          cases hr
          exact ⟨_, _, rfl, ne_norm_exit, rfl, rfl, gl g5, gl g6, gl g0, gl g1, gl g11⟩
      · obtain ⟨x5_3, x6_3, m_5⟩ := o_3
        rintro _ mm_3 t_6 ⟨rfl, rfl, g5, g6, g0, g1, g11⟩
        refine bk_hit ?_
        refine bk_norm ?_
        refine nx_norm ?_
        refine w_ops ?_
        have hq := forceI_inv hr
        clear hr
        obtain ⟨x57, e57, hr⟩ := hq
        refine wo_step (v := (.i .i64 x57)) (s_pure (p_bin g11 rfl (b_add.trans (ci e57)))) ?_
        refine wo_step (v := (.i .i64 x57)) (s_pure (p_mv rfl)) ?_
        refine wo_nil ?_
        cases hr
        exact ⟨_, _, rfl, rfl, rfl, gl g5, gl g6, gl rfl, gl g0, gl g1⟩
    · refine w_condF rfl ?_
      refine w_exit ?_
      refine nx_exit ?_
      cases hr
      exact ⟨_, _, rfl, ne_norm_exit, rfl, rfl, gl g5, gl g6, gl g1⟩
  · obtain ⟨x5_4, x6_4, m_6⟩ := o_4
    rintro _ mm_5 t_7 ⟨rfl, rfl, g5, g6, g1⟩
    refine bk_hit ?_
    refine nx_norm ?_
    refine w_seq ?_
    refine w_ops ?_
    refine wo_step (v := (.i .u16 x1)) (s_pure (p_mv g1)) ?_
    refine wo_step (v := (.i .u16 x5_4)) (s_pure (p_mv g5)) ?_
    have hq := forceI_inv hr
    clear hr
    obtain ⟨x60, e60, hr⟩ := hq
    refine wo_step (v := (.i .u16 x60)) (s_pure (p_bin rfl rfl (b_and.trans (ci e60)))) ?_
    refine wo_step (v := (.i .u16 x6_4)) (s_pure (p_mv g6)) ?_
    have hq := forceI_inv hr
    clear hr
    obtain ⟨x62, e62, hr⟩ := hq
    refine wo_step (v := (.i .u16 x62)) (s_pure (p_bin rfl rfl (b_and.trans (ci e62)))) ?_
    refine wo_step (v := (.i .u16 x62)) (s_pure (p_mv rfl)) ?_
    refine wo_nil ?_
    refine nx_norm ?_
    refine w_ret ?_
    exact qf ret_ok (rt rfl rn) hr

/- dibber/dibberref02.goes -/
abbrev g80_J0 (x0 : Int) (x1 : Int) (x2 : Int) (x3 : Int) (x4 : Int) (m0 : Mm) (o : Bool) (m1 : Mm) (t1 : Tr) : Prop :=
  match o with
  | c22 => m0 = m1 ∧ t1.get 22 = (.b c22) ∧ t1.get 0 = (.i .i64 x0) ∧ t1.get 1 = (.i .i64 x1) ∧ t1.get 2 = (.i .i64 x2) ∧ t1.get 3 = (.i .i64 x3) ∧ t1.get 4 = (.i .i64 x4)
abbrev g80_J1  (o : Bool × Mm) (m1 : Mm) (t1 : Tr) : Prop :=
  match o with
  | (c41, m_1) => m_1 = m1 ∧ t1.get 41 = (.b c41)
def g80 (M : Means) (ro : List ABlk) (x0 : Int) (x1 : Int) (x2 : Int) (x3 : Int) (x4 : Int) (m0 : Mm) : Option (AVal × Heap × Nat × Nat) :=
  forceI (wr .i64 (Int.tdiv x3 2)) fun x12 =>
  forceI (Int.tmod x1 2) fun x14 =>
  forceB (eqI x12 x14) fun c15 =>
  bindO (cond c15 (
    forceI (wr .i64 (Int.tdiv x4 2)) fun x18 =>
    forceI (Int.tmod x2 2) fun x20 =>
    forceB (eqI x18 x20) fun c21 =>
    some c21) (
    some false)) fun c22 =>
  bindO (cond c22 (
    forceI (wr .i64 (Int.tdiv x1 2)) fun x26 =>
    forceI (Int.tmod x1 2) fun x28 =>
    forceI (Int.tmod x3 2) fun x30 =>
    bindP (callM M.call m0 49 [(.i .i64 x0), (.i .i64 x26), (.i .i64 x28), (.i .i64 x30)]) fun v31 m_2 =>
    asI .i64 v31 fun x31 =>
    forceI (wr .i64 (Int.tdiv x2 2)) fun x34 =>
    forceI (Int.tmod x2 2) fun x36 =>
    forceI (Int.tmod x4 2) fun x38 =>
    bindP (callM M.call m_2 49 [(.i .i64 x0), (.i .i64 x34), (.i .i64 x36), (.i .i64 x38)]) fun v39 m_3 =>
    asI .i64 v39 fun x39 =>
    forceB (eqI x31 x39) fun c40 =>
    some (c40, m_3)) (
    some (false, m0))) fun ⟨c41, m_1⟩ =>
  finM m0.h.length (tupA [(.b c41)]) m_1

theorem g80_ok {ro : List ABlk} {O : Caller} {M : Means} (hM : M.Ok ⟨F, O⟩ ro) {x0 x1 x2 x3 x4 h r} (ho : O 80 [(.i .i64 x0), (.i .i64 x1), (.i .i64 x2), (.i .i64 x3), (.i .i64 x4)] h = none) (hr : g80 M ro x0 x1 x2 x3 x4 ⟨h, h.length, h.length⟩ = some r) : callX ⟨F, O⟩ ro 80 [(.i .i64 x0), (.i .i64 x1), (.i .i64 x2), (.i .i64 x3), (.i .i64 x4)] h = some r := by
  refine callX_of (F := ⟨F, O⟩) (fn := fn80) (g := g80 M ro x0 x1 x2 x3 x4) ho rfl rfl hr ?_
  clear ho
  clear hr
  intro m0 t0 ht hr
  have g0 : t0.get 0 = (.i .i64 x0) := ht 0
  have g1 : t0.get 1 = (.i .i64 x1) := ht 1
  have g2 : t0.get 2 = (.i .i64 x2) := ht 2
  have g3 : t0.get 3 = (.i .i64 x3) := ht 3
  have g4 : t0.get 4 = (.i .i64 x4) := ht 4
  clear ht
  unfold g80 at hr
  refine w_seq ?_
  refine w_ops ?_
  refine wo_step (v := (.b false)) (s_pure (p_mv rfl)) ?_
  refine wo_nil ?_
  refine nx_norm ?_
  refine w_seq ?_
  refine w_ops ?_
  refine wo_step (v := (.i .i64 x3)) (s_pure (p_mv g3)) ?_
  have hq := forceI_inv hr
  clear hr
  obtain ⟨x12, e12, hr⟩ := hq
  refine wo_step (v := (.i .i64 x12)) (s_pure (p_bin rfl rfl ((b_quo rfl).trans (ci e12)))) ?_
  refine wo_step (v := (.i .i64 x1)) (s_pure (p_mv g1)) ?_
  have hq := forceI_inv hr
  clear hr
  obtain ⟨x14, e14, hr⟩ := hq
  refine wo_step (v := (.i .i64 x14)) (s_pure (p_bin rfl rfl ((b_rem rfl).trans (ci e14)))) ?_
  have hq := forceB_inv hr
  clear hr
  obtain ⟨c15, e15, hr⟩ := hq
  refine wo_step (v := (.b c15)) (s_pure (p_bin rfl rfl (b_eql.trans (cb e15)))) ?_
  refine wo_step (v := (.b c15)) (s_pure (p_mv rfl)) ?_
  have hq := bindO_inv hr
  clear hr
  obtain ⟨o, hr, hk⟩ := hq
  refine wo_join 6 (g80_J0 x0 x1 x2 x3 x4 m0 o) ?_ ?_
  · clear hk
    have hq := cond_inv hr
    clear hr
    rcases hq with ⟨rfl, hr⟩ | ⟨rfl, hr⟩
    · refine wo_take (v := (.i .i64 x4)) rfl (s_pure (p_mv g4)) ?_
      have hq := forceI_inv hr
      clear hr
      obtain ⟨x18, e18, hr⟩ := hq
      refine wo_take (v := (.i .i64 x18)) rfl (s_pure (p_bin rfl rfl ((b_quo rfl).trans (ci e18)))) ?_
      refine wo_take (v := (.i .i64 x2)) rfl (s_pure (p_mv g2)) ?_
      have hq := forceI_inv hr
      clear hr
      obtain ⟨x20, e20, hr⟩ := hq
      refine wo_take (v := (.i .i64 x20)) rfl (s_pure (p_bin rfl rfl ((b_rem rfl).trans (ci e20)))) ?_
      have hq := forceB_inv hr
      clear hr
      obtain ⟨c21, e21, hr⟩ := hq
      refine wo_take (v := (.b c21)) rfl (s_pure (p_bin rfl rfl (b_eql.trans (cb e21)))) ?_
      refine wo_step (v := (.b c21)) (s_pure (p_pickT rfl rfl)) ?_
      refine wo_nil ?_
      cases hr
      exact ⟨_, _, rfl, rfl, gl rfl, gl g0, gl g1, gl g2, gl g3, gl g4⟩
    · refine wo_skip (v := (.b false)) rfl rfl ?_
      refine wo_skip (v := (.b false)) rfl rfl ?_
      refine wo_skip (v := (.b false)) rfl rfl ?_
      refine wo_skip (v := (.b false)) rfl rfl ?_
      refine wo_skip (v := (.b false)) rfl rfl ?_
      refine wo_step (v := (.b false)) (s_pure (p_pickF rfl rfl)) ?_
      refine wo_nil ?_
      cases hr
      exact ⟨_, _, rfl, rfl, gl rfl, gl g0, gl g1, gl g2, gl g3, gl g4⟩
  · clear hr
    have hr := hk
    clear hk
    obtain ⟨c22, ho⟩ : ∃ z, z = o := ⟨_, rfl⟩
    subst ho
    rintro mm t_1 ⟨rfl, g22, g0, g1, g2, g3, g4⟩
    refine wo_step (v := (.b c22)) (s_pure (p_mv g22)) ?_
    have hq := bindO_inv hr
    clear hr
    obtain ⟨o_1, hr, hk⟩ := hq
    refine wo_join 18 (g80_J1  o_1) ?_ ?_
    · clear hk
      have hq := cond_inv hr
      clear hr
      rcases hq with ⟨rfl, hr⟩ | ⟨rfl, hr⟩
      · refine wo_take (v := (.i .i64 x0)) rfl (s_pure (p_mv g0)) ?_
        refine wo_take (v := (.i .i64 x1)) rfl (s_pure (p_mv g1)) ?_
        have hq := forceI_inv hr
        clear hr
        obtain ⟨x26, e26, hr⟩ := hq
        refine wo_take (v := (.i .i64 x26)) rfl (s_pure (p_bin rfl rfl ((b_quo rfl).trans (ci e26)))) ?_
        refine wo_take (v := (.i .i64 x1)) rfl (s_pure (p_mv g1)) ?_
        have hq := forceI_inv hr
        clear hr
        obtain ⟨x28, e28, hr⟩ := hq
        refine wo_take (v := (.i .i64 x28)) rfl (s_pure (p_bin rfl rfl ((b_rem rfl).trans (ci e28)))) ?_
        refine wo_take (v := (.i .i64 x3)) rfl (s_pure (p_mv g3)) ?_
        have hq := forceI_inv hr
        clear hr
        obtain ⟨x30, e30, hr⟩ := hq
        refine wo_take (v := (.i .i64 x30)) rfl (s_pure (p_bin rfl rfl ((b_rem rfl).trans (ci e30)))) ?_
        have hq := bindP_inv hr
        clear hr
        obtain ⟨v31, m_2, e31, hr⟩ := hq
        have hq := asI_inv hr
        clear hr
        obtain ⟨x31, rfl, hr⟩ := hq
        refine wo_take (v := (.i .i64 x31)) rfl (s_call (mc rfl (mc rfl (mc rfl (mc rfl mn)))) (callM_le hM.call e31)) ?_
        refine wo_take (v := (.i .i64 x0)) rfl (s_pure (p_mv g0)) ?_
        refine wo_take (v := (.i .i64 x2)) rfl (s_pure (p_mv g2)) ?_
        have hq := forceI_inv hr
        clear hr
        obtain ⟨x34, e34, hr⟩ := hq
        refine wo_take (v := (.i .i64 x34)) rfl (s_pure (p_bin rfl rfl ((b_quo rfl).trans (ci e34)))) ?_
        refine wo_take (v := (.i .i64 x2)) rfl (s_pure (p_mv g2)) ?_
        have hq := forceI_inv hr
        clear hr
        obtain ⟨x36, e36, hr⟩ := hq
        refine wo_take (v := (.i .i64 x36)) rfl (s_pure (p_bin rfl rfl ((b_rem rfl).trans (ci e36)))) ?_
        refine wo_take (v := (.i .i64 x4)) rfl (s_pure (p_mv g4)) ?_
        have hq := forceI_inv hr
        clear hr
        obtain ⟨x38, e38, hr⟩ := hq
        refine wo_take (v := (.i .i64 x38)) rfl (s_pure (p_bin rfl rfl ((b_rem rfl).trans (ci e38)))) ?_
        have hq := bindP_inv hr
        clear hr
        obtain ⟨v39, m_3, e39, hr⟩ := hq
        have hq := asI_inv hr
        clear hr
        obtain ⟨x39, rfl, hr⟩ := hq
        refine wo_take (v := (.i .i64 x39)) rfl (s_call (mc rfl (mc rfl (mc rfl (mc rfl mn)))) (callM_le hM.call e39)) ?_
        have hq := forceB_inv hr
        clear hr
        obtain ⟨c40, e40, hr⟩ := hq
        refine wo_take (v := (.b c40)) rfl (s_pure (p_bin rfl rfl (b_eql.trans (cb e40)))) ?_
        refine wo_step (v := (.b c40)) (s_pure (p_pickT rfl rfl)) ?_
        refine wo_nil ?_
        cases hr
        exact ⟨_, _, rfl, rfl, gl rfl⟩
      · refine wo_skip (v := (.b false)) rfl rfl ?_
        refine wo_skip (v := (.b false)) rfl rfl ?_
        refine wo_skip (v := (.b false)) rfl rfl ?_
        refine wo_skip (v := (.b false)) rfl rfl ?_
        refine wo_skip (v := (.b false)) rfl rfl ?_
        refine wo_skip (v := (.b false)) rfl rfl ?_
        refine wo_skip (v := (.b false)) rfl rfl ?_
        refine wo_skip (v := (.b false)) rfl rfl ?_
        refine wo_skip (v := (.b false)) rfl rfl ?_
        refine wo_skip (v := (.b false)) rfl rfl ?_
        refine wo_skip (v := (.b false)) rfl rfl ?_
        refine wo_skip (v := (.b false)) rfl rfl ?_
        refine wo_skip (v := (.b false)) rfl rfl ?_
        refine wo_skip (v := (.b false)) rfl rfl ?_
        refine wo_skip (v := (.b false)) rfl rfl ?_
        refine wo_skip (v := (.b false)) rfl rfl ?_
        refine wo_skip (v := (.b false)) rfl rfl ?_
        refine wo_step (v := (.b false)) (s_pure (p_pickF rfl rfl)) ?_
        refine wo_nil ?_
        cases hr
        exact ⟨_, _, rfl, rfl, gl rfl⟩
    · clear hr
      have hr := hk
      clear hk
      obtain ⟨c41, m_1⟩ := o_1
      rintro mm_1 t_2 ⟨rfl, g41⟩
      refine wo_step (v := (.b c41)) (s_pure (p_mv g41)) ?_
      refine wo_nil ?_
      refine nx_norm ?_
      refine w_ret ?_
      exact qf ret_ok (rt rfl rn) hr

/- dibber/weed.ringOf -/
abbrev g81_I0 (x0 : Int) (x1 : Int) (v8 : AVal) (x10 : Int) (s : Int × Mm) (m1 : Mm) (t1 : Tr) : Prop :=
  match s with
  | (x11, m_2) => m_2 = m1 ∧ t1.get 11 = (.i .i64 x11) ∧ t1.get 0 = (.i .i64 x0) ∧ t1.get 1 = (.i .i64 x1) ∧ t1.get 5 = v8 ∧ t1.get 10 = (.i .i64 x10)
abbrev g81_J0 (x0 : Int) (x1 : Int) (v8 : AVal) (x10 : Int) (o : Mm) (e : AExit) (m1 : Mm) (t1 : Tr) : Prop :=
  match o with
  | mo => e = (.exit 0) ∧ mo = m1 ∧ t1.get 5 = v8
def g81_b0 (M : Means) (ro : List ABlk) (x0 : Int) (x1 : Int) (v8 : AVal) (x10 : Int) (x11 : Int) (m_2 : Mm) : Option ((Int × Mm) ⊕ (Mm)) :=
  forceB (ltI x11 x10) fun c12 =>
  cond c12 (
    forceI (wr .i64 (x1 - 1)) fun x18 =>
    forceI (wr .i64 (x18 - x11)) fun x20 =>
    chk (!ltI x20 (.ofNat 0)) <|
    forceI (shrV .i64 x0 x20) fun x21 =>
    forceI (bitV .and .i64 x21 1) fun x22 =>
    bindP (callM M.call m_2 71 [(.i .i64 x22)]) fun v23 m_3 =>
    asI .u8 v23 fun x23 =>
    bindO (evP .e (.ixS 1 (.c v8) (.c (.i .i64 x11)))) fun v24 =>
    bindP (stepM ro m_3 (.st 1 (.c v24) (.c (.i .u8 x23)))) fun vn m_4 =>
    forceI (wr .i64 (x11 + 1)) fun x25 =>
    some (.inl (x25, m_4))) (
    some (.inr m_2))
def g81 (M : Means) (ro : List ABlk) (x0 : Int) (x1 : Int) (m0 : Mm) : Option (AVal × Heap × Nat × Nat) :=
  bindP (stepM ro m0 (.mk 5 1 1 [(AVal.i IntKind.u8 0)] (.c (.i .i64 x1)) (.c (.i .i64 x1)))) fun v8 m_1 =>
  bindO (evP .e (.len false (.c v8))) fun v10 =>
  asI .i64 v10 fun x10 =>
  bindO (M.loop (S := Int × Mm) (R := Mm) (fun s => g81_b0 M ro x0 x1 v8 x10 s.1 s.2) (0, m_1)) fun m_5 =>
  bindO (btsM ro m_5 v8) fun v27 =>
  asS v27 fun s27 =>
  finM m0.h.length (tupA [(.s s27)]) m_5

theorem g81_ok {ro : List ABlk} {O : Caller} {M : Means} (hM : M.Ok ⟨F, O⟩ ro) {x0 x1 h r} (ho : O 81 [(.i .i64 x0), (.i .i64 x1)] h = none) (hr : g81 M ro x0 x1 ⟨h, h.length, h.length⟩ = some r) : callX ⟨F, O⟩ ro 81 [(.i .i64 x0), (.i .i64 x1)] h = some r := by
  refine callX_of (F := ⟨F, O⟩) (fn := fn81) (g := g81 M ro x0 x1) ho rfl rfl hr ?_
  clear ho
  clear hr
  intro m0 t0 ht hr
  have g0 : t0.get 0 = (.i .i64 x0) := ht 0
  have g1 : t0.get 1 = (.i .i64 x1) := ht 1
  clear ht
  unfold g81 at hr
  refine w_seq ?_
  refine w_ops ?_
  refine wo_step (v := (AVal.s [])) (s_pure (p_mv rfl)) ?_
  refine wo_nil ?_
  refine nx_norm ?_
  refine w_seq ?_
  refine w_ops ?_
  refine wo_step (v := (.i .i64 x1)) (s_pure (p_mv g1)) ?_
  have hq := bindP_inv hr
  clear hr
  obtain ⟨v8, m_1, e8, hr⟩ := hq
  refine wo_step (v := v8) (s_mk rfl rfl e8) ?_
  refine wo_step (v := v8) (s_pure (p_mv rfl)) ?_
  refine wo_nil ?_
  refine nx_norm ?_
  refine w_seq ?_
  refine w_seq ?_
  refine w_ops ?_
  refine wo_step (v := v8) (s_pure (p_mv rfl)) ?_
  have hq := bindO_inv hr
  clear hr
  obtain ⟨v10, e10, hr⟩ := hq
  have hq := asI_inv hr
  clear hr
  obtain ⟨x10, rfl, hr⟩ := hq
  refine wo_step (v := (.i .i64 x10)) (s_pure (o_len rfl e10)) ?_
  refine wo_step (v := (.i .i64 0)) (s_pure (p_mv rfl)) ?_
  refine wo_nil ?_
  refine nx_norm ?_
  refine w_block ?_
  have hq := bindO_inv hr
  clear hr
  obtain ⟨o, hl, hr⟩ := hq
  obtain ⟨n, hl⟩ := hM.loop _ _ _ hl
  refine jp_mono (w_loop _ (g81_I0 x0 x1 v8 x10) (g81_J0 x0 x1 v8 x10) ?_ n _ _ _ _ hl ⟨rfl, gl rfl, gl g0, gl g1, gl rfl, gl rfl⟩) ?_
  · clear hr hl
    intro s mm_1 t_1 o hi hr
    obtain ⟨x11, m_2⟩ := s
    obtain ⟨rfl, g11, g0, g1, g5, g10⟩ := hi
    unfold g81_b0 at hr
    refine w_seq ?_
    refine w_ops ?_
    have hq := forceB_inv hr
    clear hr
    obtain ⟨c12, e12, hr⟩ := hq
    refine wo_step (v := (.b c12)) (s_pure (p_bin g11 g10 (b_lss.trans (cb e12)))) ?_
    refine wo_nil ?_
    refine nx_norm ?_
    refine w_seq ?_
    have hq := cond_inv hr
    clear hr
    rcases hq with ⟨rfl, hr⟩ | ⟨rfl, hr⟩
    · refine w_condT rfl ?_
      refine w_skip ?_
      refine nx_norm ?_
      refine w_seq ?_
      refine w_block ?_
      refine w_seq ?_
      refine w_ops ?_
      refine wo_step (v := (.i .i64 x11)) (s_pure (p_mv g11)) ?_
      refine wo_step (v := (.i .i64 x11)) (s_pure (p_mv rfl)) ?_
      refine wo_nil ?_
      refine nx_norm ?_
      refine w_ops ?_
      refine wo_step (v := v8) (s_pure (p_mv g5)) ?_
      refine wo_step (v := (.i .i64 x11)) (s_pure (p_mv rfl)) ?_
      refine wo_step (v := (.i .i64 x0)) (s_pure (p_mv g0)) ?_
      refine wo_step (v := (.i .i64 x1)) (s_pure (p_mv g1)) ?_
      have hq := forceI_inv hr
      clear hr
      obtain ⟨x18, e18, hr⟩ := hq
      refine wo_step (v := (.i .i64 x18)) (s_pure (p_bin rfl rfl (b_sub.trans (ci e18)))) ?_
      refine wo_step (v := (.i .i64 x11)) (s_pure (p_mv rfl)) ?_
      have hq := forceI_inv hr
      clear hr
      obtain ⟨x20, e20, hr⟩ := hq
      refine wo_step (v := (.i .i64 x20)) (s_pure (p_bin rfl rfl (b_sub.trans (ci e20)))) ?_
      have hq := chk_inv hr
      clear hr
      obtain ⟨hc21, hr⟩ := hq
      have hq := forceI_inv hr
      clear hr
      obtain ⟨x21, e21, hr⟩ := hq
      refine wo_step (v := (.i .i64 x21)) (s_pure (p_bin rfl rfl ((b_shr hc21).trans (ci e21)))) ?_
      have hq := forceI_inv hr
      clear hr
      obtain ⟨x22, e22, hr⟩ := hq
      refine wo_step (v := (.i .i64 x22)) (s_pure (p_bin rfl rfl (b_and.trans (ci e22)))) ?_
      have hq := bindP_inv hr
      clear hr
      obtain ⟨v23, m_3, e23, hr⟩ := hq
      have hq := asI_inv hr
      clear hr
      obtain ⟨x23, rfl, hr⟩ := hq
      refine wo_step (v := (.i .u8 x23)) (s_call (mc rfl mn) (callM_le hM.call e23)) ?_
      have hq := bindO_inv hr
      clear hr
      obtain ⟨v24, e24, hr⟩ := hq
      refine wo_step (v := v24) (s_pure (o_ixS rfl rfl e24)) ?_
      have hq := bindP_inv hr
      clear hr
      obtain ⟨vn, m_4, en, hr⟩ := hq
      refine wo_stepN (s_st rfl rfl en) ?_
      refine wo_nil ?_
      refine bk_norm ?_
      refine nx_norm ?_
      refine w_ops ?_
      have hq := forceI_inv hr
      clear hr
      obtain ⟨x25, e25, hr⟩ := hq
      refine wo_step (v := (.i .i64 x25)) (s_pure (p_bin g11 rfl (b_add.trans (ci e25)))) ?_
      refine wo_step (v := (.i .i64 x25)) (s_pure (p_mv rfl)) ?_
      refine wo_nil ?_
      cases hr
      exact ⟨_, _, rfl, rfl, rfl, gl rfl, gl g0, gl g1, gl g5, gl g10⟩
    · refine w_condF rfl ?_
      refine w_exit ?_
      refine nx_exit ?_
      cases hr
      exact ⟨_, _, rfl, ne_norm_exit, rfl, rfl, gl g5⟩
  · obtain ⟨m_5, ho⟩ : ∃ z, z = o := ⟨_, rfl⟩
    subst ho
    rintro _ mm t_2 ⟨rfl, rfl, g5⟩
    refine bk_hit ?_
    refine nx_norm ?_
    refine w_seq ?_
    refine w_ops ?_
    refine wo_step (v := v8) (s_pure (p_mv g5)) ?_
    have hq := bindO_inv hr
    clear hr
    obtain ⟨v27, e27, hr⟩ := hq
    have hq := asS_inv hr
    clear hr
    obtain ⟨s27, rfl, hr⟩ := hq
    refine wo_step (v := (.s s27)) (s_bts rfl e27) ?_
    refine wo_step (v := (.s s27)) (s_pure (p_mv rfl)) ?_
    refine wo_nil ?_
    refine nx_norm ?_
    refine w_ret ?_
    exact qf ret_ok (rt rfl rn) hr

/- (dibber/weed.rule).as -/
abbrev g82_I0 (x0 : Int) (v1 : AVal) (s : Int × Int × Mm) (m1 : Mm) (t1 : Tr) : Prop :=
  match s with
  | (x5, x7, m_1) => m_1 = m1 ∧ t1.get 5 = (.i .u8 x5) ∧ t1.get 7 = (.i .i64 x7) ∧ t1.get 0 = (.i .u8 x0) ∧ t1.get 1 = v1
abbrev g82_J0 (x0 : Int) (v1 : AVal) (o : (Int × Mm)) (e : AExit) (m1 : Mm) (t1 : Tr) : Prop :=
  match o with
  | (y5, mo) => e = (.exit 0) ∧ mo = m1 ∧ t1.get 5 = (.i .u8 y5)
def g82_b0 (M : Means) (ro : List ABlk) (x0 : Int) (v1 : AVal) (x5 : Int) (x7 : Int) (m_1 : Mm) : Option ((Int × Int × Mm) ⊕ ((Int × Mm))) :=
  forceB (ltI x7 8) fun c8 =>
  cond c8 (
    bindP (callvM M.call m_1 v1 [(.i .u8 x0), (.i .i64 x7)]) fun v14 m_2 =>
    asI .i64 v14 fun x14 =>
    forceI (wr .u8 x14) fun x15 =>
    chk (!ltI x7 (.ofNat 0)) <|
    forceI (shlV .u8 x15 x7) fun x17 =>
    forceI (bitV .or .u8 x5 x17) fun x18 =>
    forceI (wr .i64 (x7 + 1)) fun x19 =>
    some (.inl (x18, x19, m_2))) (
    some (.inr (x5, m_1)))
def g82 (M : Means) (ro : List ABlk) (x0 : Int) (v1 : AVal) (m0 : Mm) : Option (AVal × Heap × Nat × Nat) :=
  bindO (M.loop (S := Int × Int × Mm) (R := (Int × Mm)) (fun s => g82_b0 M ro x0 v1 s.1 s.2.1 s.2.2) (0, 0, m0)) fun ⟨x5_1, m_3⟩ =>
  finM m0.h.length (tupA [(.i .u8 x5_1)]) m_3

theorem g82_ok {ro : List ABlk} {O : Caller} {M : Means} (hM : M.Ok ⟨F, O⟩ ro) {x0 v1 h r} (ho : O 82 [(.i .u8 x0), v1] h = none) (hr : g82 M ro x0 v1 ⟨h, h.length, h.length⟩ = some r) : callX ⟨F, O⟩ ro 82 [(.i .u8 x0), v1] h = some r := by
  refine callX_of (F := ⟨F, O⟩) (fn := fn82) (g := g82 M ro x0 v1) ho rfl rfl hr ?_
  clear ho
  clear hr
  intro m0 t0 ht hr
  have g0 : t0.get 0 = (.i .u8 x0) := ht 0
  have g1 : t0.get 1 = v1 := ht 1
  clear ht
  unfold g82 at hr
  refine w_seq ?_
  refine w_ops ?_
  refine wo_step (v := (.i .u8 0)) (s_pure (p_mv rfl)) ?_
  refine wo_nil ?_
  refine nx_norm ?_
  refine w_seq ?_
  refine w_ops ?_
  refine wo_step (v := (.i .u8 0)) (s_pure (p_mv rfl)) ?_
  refine wo_nil ?_
  refine nx_norm ?_
  refine w_seq ?_
  refine w_seq ?_
  refine w_ops ?_
  refine wo_step (v := (.i .i64 0)) (s_pure (p_mv rfl)) ?_
  refine wo_nil ?_
  refine nx_norm ?_
  refine w_block ?_
  have hq := bindO_inv hr
  clear hr
  obtain ⟨o, hl, hr⟩ := hq
  obtain ⟨n, hl⟩ := hM.loop _ _ _ hl
  refine jp_mono (w_loop _ (g82_I0 x0 v1) (g82_J0 x0 v1) ?_ n _ _ _ _ hl ⟨rfl, gl rfl, gl rfl, gl g0, gl g1⟩) ?_
  · clear hr hl
    intro s mm_1 t_1 o hi hr
    obtain ⟨x5, x7, m_1⟩ := s
    obtain ⟨rfl, g5, g7, g0, g1⟩ := hi
    unfold g82_b0 at hr
    refine w_seq ?_
    refine w_ops ?_
    have hq := forceB_inv hr
    clear hr
    obtain ⟨c8, e8, hr⟩ := hq
    refine wo_step (v := (.b c8)) (s_pure (p_bin g7 rfl (b_lss.trans (cb e8)))) ?_
    refine wo_nil ?_
    refine nx_norm ?_
    refine w_seq ?_
    have hq := cond_inv hr
    clear hr
    rcases hq with ⟨rfl, hr⟩ | ⟨rfl, hr⟩
    · refine w_condT rfl ?_
      refine w_skip ?_
      refine nx_norm ?_
      refine w_seq ?_
      refine w_block ?_
      refine w_seq ?_
      refine w_ops ?_
      refine wo_step (v := (.i .i64 x7)) (s_pure (p_mv g7)) ?_
      refine wo_step (v := (.i .i64 x7)) (s_pure (p_mv rfl)) ?_
      refine wo_nil ?_
      refine nx_norm ?_
      refine w_ops ?_
      refine wo_step (v := (.i .u8 x5)) (s_pure (p_mv g5)) ?_
      refine wo_step (v := v1) (s_pure (p_mv g1)) ?_
      refine wo_step (v := (.i .u8 x0)) (s_pure (p_mv g0)) ?_
      refine wo_step (v := (.i .i64 x7)) (s_pure (p_mv rfl)) ?_
      have hq := bindP_inv hr
      clear hr
      obtain ⟨v14, m_2, e14, hr⟩ := hq
      have hq := asI_inv hr
      clear hr
      obtain ⟨x14, rfl, hr⟩ := hq
      refine wo_step (v := (.i .i64 x14)) (s_callv rfl (mc rfl (mc rfl mn)) (callvM_le hM.call e14)) ?_
      have hq := forceI_inv hr
      clear hr
      obtain ⟨x15, e15, hr⟩ := hq
      refine wo_step (v := (.i .u8 x15)) (s_pure ((p_conv rfl).trans (ci e15))) ?_
      refine wo_step (v := (.i .i64 x7)) (s_pure (p_mv rfl)) ?_
      have hq := chk_inv hr
      clear hr
      obtain ⟨hc17, hr⟩ := hq
      have hq := forceI_inv hr
      clear hr
      obtain ⟨x17, e17, hr⟩ := hq
      refine wo_step (v := (.i .u8 x17)) (s_pure (p_bin rfl rfl ((b_shl hc17).trans (ci e17)))) ?_
      have hq := forceI_inv hr
      clear hr
      obtain ⟨x18, e18, hr⟩ := hq
      refine wo_step (v := (.i .u8 x18)) (s_pure (p_bin rfl rfl (b_or.trans (ci e18)))) ?_
      refine wo_step (v := (.i .u8 x18)) (s_pure (p_mv rfl)) ?_
      refine wo_nil ?_
      refine bk_norm ?_
      refine nx_norm ?_
      refine w_ops ?_
      have hq := forceI_inv hr
      clear hr
      obtain ⟨x19, e19, hr⟩ := hq
      refine wo_step (v := (.i .i64 x19)) (s_pure (p_bin g7 rfl (b_add.trans (ci e19)))) ?_
      refine wo_step (v := (.i .i64 x19)) (s_pure (p_mv rfl)) ?_
      refine wo_nil ?_
      cases hr
      exact ⟨_, _, rfl, rfl, rfl, gl rfl, gl rfl, gl g0, gl g1⟩
    · refine w_condF rfl ?_
      refine w_exit ?_
      refine nx_exit ?_
      cases hr
      exact ⟨_, _, rfl, ne_norm_exit, rfl, rfl, gl g5⟩
  · obtain ⟨x5_1, m_3⟩ := o
    rintro _ mm t_2 ⟨rfl, rfl, g5⟩
    refine bk_hit ?_
    refine nx_norm ?_
    refine w_seq ?_
    refine w_ops ?_
    refine wo_step (v := (.i .u8 x5_1)) (s_pure (p_mv g5)) ?_
    refine wo_step (v := (.i .u8 x5_1)) (s_pure (p_mv rfl)) ?_
    refine wo_nil ?_
    refine nx_norm ?_
    refine w_ret ?_
    exact qf ret_ok (rt rfl rn) hr

/- (dibber/weed.rule).nextMirrored -/

def g83 (M : Means) (ro : List ABlk) (x0 : Int) (x1 : Int) (m0 : Mm) : Option (AVal × Heap × Nat × Nat) :=
  forceI (bitV .and .i64 x1 1) fun x7 =>
  forceI (shlV .i64 x7 2) fun x8 =>
  forceI (bitV .and .i64 x1 2) fun x10 =>
  forceI (bitV .or .i64 x8 x10) fun x11 =>
  forceI (shrV .i64 x1 2) fun x13 =>
  forceI (bitV .or .i64 x11 x13) fun x14 =>
  bindP (callM M.call m0 72 [(.i .u8 x0), (.i .i64 x14)]) fun v15 m_1 =>
  asI .i64 v15 fun x15 =>
  finM m0.h.length (tupA [(.i .i64 x15)]) m_1

theorem g83_ok {ro : List ABlk} {O : Caller} {M : Means} (hM : M.Ok ⟨F, O⟩ ro) {x0 x1 h r} (ho : O 83 [(.i .u8 x0), (.i .i64 x1)] h = none) (hr : g83 M ro x0 x1 ⟨h, h.length, h.length⟩ = some r) : callX ⟨F, O⟩ ro 83 [(.i .u8 x0), (.i .i64 x1)] h = some r := by
  refine callX_of (F := ⟨F, O⟩) (fn := fn83) (g := g83 M ro x0 x1) ho rfl rfl hr ?_
  clear ho
  clear hr
  intro m0 t0 ht hr
  have g0 : t0.get 0 = (.i .u8 x0) := ht 0
  have g1 : t0.get 1 = (.i .i64 x1) := ht 1
  clear ht
  unfold g83 at hr
  refine w_seq ?_
  refine w_ops ?_
  refine wo_step (v := (.i .i64 0)) (s_pure (p_mv rfl)) ?_
  refine wo_nil ?_
  refine nx_norm ?_
  refine w_seq ?_
  refine w_ops ?_
  refine wo_step (v := (.i .u8 x0)) (s_pure (p_mv g0)) ?_
  refine wo_step (v := (.i .i64 x1)) (s_pure (p_mv g1)) ?_
  have hq := forceI_inv hr
  clear hr
  obtain ⟨x7, e7, hr⟩ := hq
  refine wo_step (v := (.i .i64 x7)) (s_pure (p_bin rfl rfl (b_and.trans (ci e7)))) ?_
  have hq := forceI_inv hr
  clear hr
  obtain ⟨x8, e8, hr⟩ := hq
  refine wo_step (v := (.i .i64 x8)) (s_pure (p_bin rfl rfl ((b_shl rfl).trans (ci e8)))) ?_
  refine wo_step (v := (.i .i64 x1)) (s_pure (p_mv g1)) ?_
  have hq := forceI_inv hr
  clear hr
  obtain ⟨x10, e10, hr⟩ := hq
  refine wo_step (v := (.i .i64 x10)) (s_pure (p_bin rfl rfl (b_and.trans (ci e10)))) ?_
  have hq := forceI_inv hr
  clear hr
  obtain ⟨x11, e11, hr⟩ := hq
  refine wo_step (v := (.i .i64 x11)) (s_pure (p_bin rfl rfl (b_or.trans (ci e11)))) ?_
  refine wo_step (v := (.i .i64 x1)) (s_pure (p_mv g1)) ?_
  have hq := forceI_inv hr
  clear hr
  obtain ⟨x13, e13, hr⟩ := hq
  refine wo_step (v := (.i .i64 x13)) (s_pure (p_bin rfl rfl ((b_shr rfl).trans (ci e13)))) ?_
  have hq := forceI_inv hr
  clear hr
  obtain ⟨x14, e14, hr⟩ := hq
  refine wo_step (v := (.i .i64 x14)) (s_pure (p_bin rfl rfl (b_or.trans (ci e14)))) ?_
  have hq := bindP_inv hr
  clear hr
  obtain ⟨v15, m_1, e15, hr⟩ := hq
  have hq := asI_inv hr
  clear hr
  obtain ⟨x15, rfl, hr⟩ := hq
  refine wo_step (v := (.i .i64 x15)) (s_call (mc rfl (mc rfl mn)) (callM_le hM.call e15)) ?_
  refine wo_step (v := (.i .i64 x15)) (s_pure (p_mv rfl)) ?_
  refine wo_nil ?_
  refine nx_norm ?_
  refine w_ret ?_
  exact qf ret_ok (rt rfl rn) hr

/- (dibber/weed.rule).nextExchanged -/

def g84 (M : Means) (ro : List ABlk) (x0 : Int) (x1 : Int) (m0 : Mm) : Option (AVal × Heap × Nat × Nat) :=
  forceI (wr .i64 (7 - x1)) fun x7 =>
  bindP (callM M.call m0 72 [(.i .u8 x0), (.i .i64 x7)]) fun v8 m_1 =>
  asI .i64 v8 fun x8 =>
  forceI (wr .i64 (1 - x8)) fun x9 =>
  finM m0.h.length (tupA [(.i .i64 x9)]) m_1

theorem g84_ok {ro : List ABlk} {O : Caller} {M : Means} (hM : M.Ok ⟨F, O⟩ ro) {x0 x1 h r} (ho : O 84 [(.i .u8 x0), (.i .i64 x1)] h = none) (hr : g84 M ro x0 x1 ⟨h, h.length, h.length⟩ = some r) : callX ⟨F, O⟩ ro 84 [(.i .u8 x0), (.i .i64 x1)] h = some r := by
  refine callX_of (F := ⟨F, O⟩) (fn := fn84) (g := g84 M ro x0 x1) ho rfl rfl hr ?_
  clear ho
  clear hr
  intro m0 t0 ht hr
  have g0 : t0.get 0 = (.i .u8 x0) := ht 0
  have g1 : t0.get 1 = (.i .i64 x1) := ht 1
  clear ht
  unfold g84 at hr
  refine w_seq ?_
  refine w_ops ?_
  refine wo_step (v := (.i .i64 0)) (s_pure (p_mv rfl)) ?_
  refine wo_nil ?_
  refine nx_norm ?_
  refine w_seq ?_
  refine w_ops ?_
  refine wo_step (v := (.i .u8 x0)) (s_pure (p_mv g0)) ?_
  refine wo_step (v := (.i .i64 x1)) (s_pure (p_mv g1)) ?_
  have hq := forceI_inv hr
  clear hr
  obtain ⟨x7, e7, hr⟩ := hq
  refine wo_step (v := (.i .i64 x7)) (s_pure (p_bin rfl rfl (b_sub.trans (ci e7)))) ?_
  have hq := bindP_inv hr
  clear hr
  obtain ⟨v8, m_1, e8, hr⟩ := hq
  have hq := asI_inv hr
  clear hr
  obtain ⟨x8, rfl, hr⟩ := hq
  refine wo_step (v := (.i .i64 x8)) (s_call (mc rfl (mc rfl mn)) (callM_le hM.call e8)) ?_
  have hq := forceI_inv hr
  clear hr
  obtain ⟨x9, e9, hr⟩ := hq
  refine wo_step (v := (.i .i64 x9)) (s_pure (p_bin rfl rfl (b_sub.trans (ci e9)))) ?_
  refine wo_step (v := (.i .i64 x9)) (s_pure (p_mv rfl)) ?_
  refine wo_nil ?_
  refine nx_norm ?_
  refine w_ret ?_
  exact qf ret_ok (rt rfl rn) hr

end Go.Proofs.Ytgbkicelkpagpaa.W

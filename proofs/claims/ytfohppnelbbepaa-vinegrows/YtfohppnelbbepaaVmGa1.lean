/- Plain functions, and that the small machine answers as they do. -/
import Derived.Test.YtfohppnelbbepaaVmP
import Derived.Test.YtfohppnelbbepaaVmAE
open Go.Vm
set_option linter.unusedVariables false
namespace Go.Proofs.Ytfohppnelbbepaa.T
open Go
/- dibber/vine.read -/
abbrev g60_J0 (v11 : AVal) (o : Bool × Mm) (m1 : Mm) (t1 : Tr) : Prop :=
  match o with
  | (c24, m_2) => m_2 = m1 ∧ t1.get 24 = (.b c24) ∧ t1.get 6 = v11
def g60 (M : Means) (ro : List ABlk) (v0 : AVal) (s1 : List UInt8) (m0 : Mm) : Option (AVal × Heap × Nat × Nat) :=
  bindP (callM M.call m0 71 [v0]) fun v10 m_1 =>
  bindO (evP .e (.ext 0 (.c v10))) fun v11 =>
  bindO (evP .e (.ext 1 (.c v10))) fun v12 =>
  asI .i64 v12 fun x12 =>
  forceB (!eqI x12 0) fun c14 =>
  cond c14 (
    finM m0.h.length (tupA [AVal.nsl, (.i .i64 x12)]) m_1) (
    bindO (evP .e (.len true (.c (.s s1)))) fun v17 =>
    asI .i64 v17 fun x17 =>
    forceB (ltI 30 x17) fun c18 =>
    bindO (cond c18 (
      some (true, m_1)) (
      bindP (callM M.call m_1 92 [v11, (.s s1)]) fun v22 m_3 =>
      asB v22 fun c22 =>
      forceB (!c22) fun c23 =>
      some (c23, m_3))) fun ⟨c24, m_2⟩ =>
    cond c24 (
      finM m0.h.length (tupA [AVal.nsl, (.i .i64 5)]) m_2) (
      finM m0.h.length (tupA [v11, (.i .i64 0)]) m_2))

theorem g60_ok {ro : List ABlk} {O : Caller} {M : Means} (hM : M.Ok ⟨F, O⟩ ro) {v0 s1 h r} (ho : O 60 [v0, (.s s1)] h = none) (hr : g60 M ro v0 s1 ⟨h, h.length, h.length⟩ = some r) : callX ⟨F, O⟩ ro 60 [v0, (.s s1)] h = some r := by
  refine callX_of (F := ⟨F, O⟩) (fn := fn60) (g := g60 M ro v0 s1) ho rfl rfl hr ?_
  clear ho
  clear hr
  intro m0 t0 ht hr
  have g0 : t0.get 0 = v0 := ht 0
  have g1 : t0.get 1 = (.s s1) := ht 1
  clear ht
  unfold g60 at hr
  refine w_seq ?_
  refine w_ops ?_
  refine wo_step (v := AVal.nsl) (s_pure (p_mv rfl)) ?_
  refine wo_step (v := (.i .i64 0)) (s_pure (p_mv rfl)) ?_
  refine wo_nil ?_
  refine nx_norm ?_
  refine w_seq ?_
  refine w_ops ?_
  refine wo_step (v := v0) (s_pure (p_mv g0)) ?_
  have hq := bindP_inv hr
  clear hr
  obtain ⟨v10, m_1, e10, hr⟩ := hq
  refine wo_step (v := v10) (s_call (mc rfl mn) (callM_le hM.call e10)) ?_
  refine wo_step (v := v10) (s_pure (p_mv rfl)) ?_
  have hq := bindO_inv hr
  clear hr
  obtain ⟨v11, e11, hr⟩ := hq
  refine wo_step (v := v11) (s_pure (o_ext rfl e11)) ?_
  have hq := bindO_inv hr
  clear hr
  obtain ⟨v12, e12, hr⟩ := hq
  have hq := asI_inv hr
  clear hr
  obtain ⟨x12, rfl, hr⟩ := hq
  refine wo_step (v := (.i .i64 x12)) (s_pure (o_ext rfl e12)) ?_
  refine wo_step (v := v11) (s_pure (p_mv rfl)) ?_
  refine wo_step (v := (.i .i64 x12)) (s_pure (p_mv rfl)) ?_
  refine wo_nil ?_
  refine nx_norm ?_
  refine w_seq ?_
  refine w_seq ?_
  refine w_ops ?_
  refine wo_step (v := (.i .i64 x12)) (s_pure (p_mv rfl)) ?_
  have hq := forceB_inv hr
  clear hr
  obtain ⟨c14, e14, hr⟩ := hq
  refine wo_step (v := (.b c14)) (s_pure (p_bin rfl rfl (b_neq.trans (cb e14)))) ?_
  refine wo_nil ?_
  refine nx_norm ?_
  have hq := cond_inv hr
  clear hr
  rcases hq with ⟨rfl, hr⟩ | ⟨rfl, hr⟩
  · refine w_condT rfl ?_
    refine w_seq ?_
    refine w_ops ?_
    refine wo_step (v := (.i .i64 x12)) (s_pure (p_mv rfl)) ?_
    refine wo_step (v := AVal.nsl) (s_pure (p_mv rfl)) ?_
    refine wo_step (v := (.i .i64 x12)) (s_pure (p_mv rfl)) ?_
    refine wo_nil ?_
    refine nx_norm ?_
    refine w_ret ?_
    refine nx_ret ?_
    exact qf ret_ok (rt rfl (rt rfl rn)) hr
  · refine w_condF rfl ?_
    refine w_skip ?_
    refine nx_norm ?_
    refine w_seq ?_
    refine w_seq ?_
    refine w_ops ?_
    refine wo_step (v := (.s s1)) (s_pure (p_mv g1)) ?_
    have hq := bindO_inv hr
    clear hr
    obtain ⟨v17, e17, hr⟩ := hq
    have hq := asI_inv hr
    clear hr
    obtain ⟨x17, rfl, hr⟩ := hq
    refine wo_step (v := (.i .i64 x17)) (s_pure (o_len rfl e17)) ?_
    have hq := forceB_inv hr
    clear hr
    obtain ⟨c18, e18, hr⟩ := hq
    refine wo_step (v := (.b c18)) (s_pure (p_bin rfl rfl (b_gtr.trans (cb e18)))) ?_
    refine wo_step (v := (.b c18)) (s_pure (p_mv rfl)) ?_
    have hq := bindO_inv hr
    clear hr
    obtain ⟨o, hr, hk⟩ := hq
    refine wo_join 5 (g60_J0 v11 o) ?_ ?_
    · clear hk
      have hq := cond_inv hr
      clear hr
      rcases hq with ⟨rfl, hr⟩ | ⟨rfl, hr⟩
      · refine wo_skip (v := (.b true)) rfl rfl ?_
        refine wo_skip (v := (.b true)) rfl rfl ?_
        refine wo_skip (v := (.b true)) rfl rfl ?_
        refine wo_skip (v := (.b true)) rfl rfl ?_
        refine wo_step (v := (.b true)) (s_pure (p_pickT rfl rfl)) ?_
        refine wo_nil ?_
        cases hr
        exact ⟨_, _, rfl, rfl, gl rfl, gl rfl⟩
      · refine wo_take (v := v11) rfl (s_pure (p_mv rfl)) ?_
        refine wo_take (v := (.s s1)) rfl (s_pure (p_mv g1)) ?_
        have hq := bindP_inv hr
        clear hr
        obtain ⟨v22, m_3, e22, hr⟩ := hq
        have hq := asB_inv hr
        clear hr
        obtain ⟨c22, rfl, hr⟩ := hq
        refine wo_take (v := (.b c22)) rfl (s_call (mc rfl (mc rfl mn)) (callM_le hM.call e22)) ?_
        have hq := forceB_inv hr
        clear hr
        obtain ⟨c23, e23, hr⟩ := hq
        refine wo_take (v := (.b c23)) rfl (s_pure ((p_not rfl).trans (cb e23))) ?_
        refine wo_step (v := (.b c23)) (s_pure (p_pickF rfl rfl)) ?_
        refine wo_nil ?_
        cases hr
        exact ⟨_, _, rfl, rfl, gl rfl, gl rfl⟩
    · clear hr
      have hr := hk
      clear hk
      obtain ⟨c24, m_2⟩ := o
      rintro mm t_1 ⟨rfl, g24, g6⟩
      refine wo_nil ?_
      refine nx_norm ?_
      have hq := cond_inv hr
      clear hr
      rcases hq with ⟨rfl, hr⟩ | ⟨rfl, hr⟩
      · refine w_condT g24 ?_
        refine w_seq ?_
        refine w_ops ?_
        refine wo_step (v := AVal.nsl) (s_pure (p_mv rfl)) ?_
        refine wo_step (v := (.i .i64 5)) (s_pure (p_mv rfl)) ?_
        refine wo_nil ?_
        refine nx_norm ?_
        refine w_ret ?_
        refine nx_ret ?_
        exact qf ret_ok (rt rfl (rt rfl rn)) hr
      · refine w_condF g24 ?_
        refine w_skip ?_
        refine nx_norm ?_
        refine w_seq ?_
        refine w_ops ?_
        refine wo_step (v := v11) (s_pure (p_mv g6)) ?_
        refine wo_step (v := v11) (s_pure (p_mv rfl)) ?_
        refine wo_step (v := (.i .i64 0)) (s_pure (p_mv rfl)) ?_
        refine wo_nil ?_
        refine nx_norm ?_
        refine w_ret ?_
        exact qf ret_ok (rt rfl (rt rfl rn)) hr

/- (dibber/vine.rules).dies -/
abbrev g61_I0 (s1 : List UInt8) (v11 : AVal) (x12 : Int) (s : Int × Mm) (m1 : Mm) (t1 : Tr) : Prop :=
  match s with
  | (x13, m_2) => m_2 = m1 ∧ t1.get 13 = (.i .i64 x13) ∧ t1.get 1 = (.s s1) ∧ t1.get 11 = v11 ∧ t1.get 12 = (.i .i64 x12)
abbrev g61_J0 (s1 : List UInt8) (v11 : AVal) (x12 : Int) (o : (Mm ⊕ (Int × Bool × Mm))) (e : AExit) (m1 : Mm) (t1 : Tr) : Prop :=
  match o with
  | (.inl mo) => e = (.exit 0) ∧ mo = m1
  | (.inr (y4, y5, mo)) => e = .ret ∧ mo = m1 ∧ t1.get 4 = (.i .i64 y4) ∧ t1.get 5 = (.b y5)
def g61_b0 (M : Means) (ro : List ABlk) (s1 : List UInt8) (v11 : AVal) (x12 : Int) (x13 : Int) (m_2 : Mm) : Option ((Int × Mm) ⊕ ((Mm ⊕ (Int × Bool × Mm)))) :=
  forceB (ltI x13 x12) fun c14 =>
  cond c14 (
    bindO (evP .e (.ixS 1 (.c v11) (.c (.i .i64 x13)))) fun v16 =>
    bindO (ldM ro m_2 true 1 v16) fun v17 =>
    bindP (callM M.call m_2 49 [v17, (.s s1)]) fun v20 m_3 =>
    asI .u64 v20 fun x20 =>
    forceB (eqI x20 0) fun c21 =>
    cond c21 (
      some (.inr (.inr (x13, true, m_3)))) (
      forceI (wr .i64 (x13 + 1)) fun x23 =>
      some (.inl (x23, m_3)))) (
    some (.inr (.inl m_2)))
def g61 (M : Means) (ro : List ABlk) (v0 : AVal) (s1 : List UInt8) (m0 : Mm) : Option (AVal × Heap × Nat × Nat) :=
  bindO (evP .e (.len false (.c v0))) fun v10 =>
  asI .i64 v10 fun x10 =>
  bindP (callM M.call m0 48 [v0, (.i .i64 x10)]) fun v11 m_1 =>
  bindO (evP .e (.len false (.c v11))) fun v12 =>
  asI .i64 v12 fun x12 =>
  bindO (M.loop (S := Int × Mm) (R := (Mm ⊕ (Int × Bool × Mm))) (fun s => g61_b0 M ro s1 v11 x12 s.1 s.2) (0, m_1)) fun o => match o with
  | (.inl m_4) =>
    finM m0.h.length (tupA [(.i .i64 0), (.b false)]) m_4
  | (.inr (x4, c5, m_5)) =>
    finM m0.h.length (tupA [(.i .i64 x4), (.b c5)]) m_5

theorem g61_ok {ro : List ABlk} {O : Caller} {M : Means} (hM : M.Ok ⟨F, O⟩ ro) {v0 s1 h r} (ho : O 61 [v0, (.s s1)] h = none) (hr : g61 M ro v0 s1 ⟨h, h.length, h.length⟩ = some r) : callX ⟨F, O⟩ ro 61 [v0, (.s s1)] h = some r := by
  refine callX_of (F := ⟨F, O⟩) (fn := fn61) (g := g61 M ro v0 s1) ho rfl rfl hr ?_
  clear ho
  clear hr
  intro m0 t0 ht hr
  have g0 : t0.get 0 = v0 := ht 0
  have g1 : t0.get 1 = (.s s1) := ht 1
  clear ht
  unfold g61 at hr
  refine w_seq ?_
  refine w_ops ?_
  refine wo_step (v := (.i .i64 0)) (s_pure (p_mv rfl)) ?_
  refine wo_step (v := (.b false)) (s_pure (p_mv rfl)) ?_
  refine wo_nil ?_
  refine nx_norm ?_
  refine w_seq ?_
  refine w_seq ?_
  refine w_ops ?_
  refine wo_step (v := v0) (s_pure (p_mv g0)) ?_
  refine wo_step (v := v0) (s_pure (p_mv g0)) ?_
  have hq := bindO_inv hr
  clear hr
  obtain ⟨v10, e10, hr⟩ := hq
  have hq := asI_inv hr
  clear hr
  obtain ⟨x10, rfl, hr⟩ := hq
  refine wo_step (v := (.i .i64 x10)) (s_pure (o_len rfl e10)) ?_
  have hq := bindP_inv hr
  clear hr
  obtain ⟨v11, m_1, e11, hr⟩ := hq
  refine wo_step (v := v11) (s_call (mc rfl (mc rfl mn)) (callM_le hM.call e11)) ?_
  have hq := bindO_inv hr
  clear hr
  obtain ⟨v12, e12, hr⟩ := hq
  have hq := asI_inv hr
  clear hr
  obtain ⟨x12, rfl, hr⟩ := hq
  refine wo_step (v := (.i .i64 x12)) (s_pure (o_len rfl e12)) ?_
  refine wo_step (v := (.i .i64 0)) (s_pure (p_mv rfl)) ?_
  refine wo_nil ?_
  refine nx_norm ?_
  refine w_block ?_
  have hq := bindO_inv hr
  clear hr
  obtain ⟨o, hl, hr⟩ := hq
  obtain ⟨n, hl⟩ := hM.loop _ _ _ hl
  refine jp_mono (w_loop _ (g61_I0 s1 v11 x12) (g61_J0 s1 v11 x12) ?_ n _ _ _ _ hl ⟨rfl, gl rfl, gl g1, gl rfl, gl rfl⟩) ?_
  · clear hr hl
    intro s mm_2 t_1 o hi hr
    obtain ⟨x13, m_2⟩ := s
    obtain ⟨rfl, g13, g1, g11, g12⟩ := hi
    unfold g61_b0 at hr
    refine w_seq ?_
    refine w_ops ?_
    have hq := forceB_inv hr
    clear hr
    obtain ⟨c14, e14, hr⟩ := hq
    refine wo_step (v := (.b c14)) (s_pure (p_bin g13 g12 (b_lss.trans (cb e14)))) ?_
    refine wo_nil ?_
    refine nx_norm ?_
    refine w_seq ?_
    have hq := cond_inv hr
    clear hr
    rcases hq with ⟨rfl, hr⟩ | ⟨rfl, hr⟩
    · refine w_condT rfl ?_
      refine w_skip ?_
      refine nx_norm ?_
      refine w_seq ?_
      refine w_block ?_
      refine w_seq ?_
      refine w_ops ?_
      refine wo_step (v := (.i .i64 x13)) (s_pure (p_mv g13)) ?_
      have hq := bindO_inv hr
      clear hr
      obtain ⟨v16, e16, hr⟩ := hq
      refine wo_step (v := v16) (s_pure (o_ixS g11 g13 e16)) ?_
      have hq := bindO_inv hr
      clear hr
      obtain ⟨v17, e17, hr⟩ := hq
      refine wo_step (v := v17) (s_ld rfl e17) ?_
      refine wo_step (v := (.i .i64 x13)) (s_pure (p_mv rfl)) ?_
      refine wo_step (v := v17) (s_pure (p_mv rfl)) ?_
      refine wo_nil ?_
      refine nx_norm ?_
      refine w_seq ?_
      refine w_ops ?_
      refine wo_step (v := v17) (s_pure (p_mv rfl)) ?_
      refine wo_step (v := (.s s1)) (s_pure (p_mv g1)) ?_
      have hq := bindP_inv hr
      clear hr
      obtain ⟨v20, m_3, e20, hr⟩ := hq
      have hq := asI_inv hr
      clear hr
      obtain ⟨x20, rfl, hr⟩ := hq
      refine wo_step (v := (.i .u64 x20)) (s_call (mc rfl (mc rfl mn)) (callM_le hM.call e20)) ?_
      have hq := forceB_inv hr
      clear hr
      obtain ⟨c21, e21, hr⟩ := hq
      refine wo_step (v := (.b c21)) (s_pure (p_bin rfl rfl (b_eql.trans (cb e21)))) ?_
      refine wo_nil ?_
      refine nx_norm ?_
      have hq := cond_inv hr
      clear hr
      rcases hq with ⟨rfl, hr⟩ | ⟨rfl, hr⟩
      · refine w_condT rfl ?_
        refine w_seq ?_
        refine w_ops ?_
        refine wo_step (v := (.i .i64 x13)) (s_pure (p_mv rfl)) ?_
        refine wo_step (v := (.i .i64 x13)) (s_pure (p_mv rfl)) ?_
        refine wo_step (v := (.b true)) (s_pure (p_mv rfl)) ?_
        refine wo_nil ?_
        refine nx_norm ?_
        refine w_ret ?_
        refine bk_ret ?_
        refine nx_ret ?_
        cases hr
        exact ⟨_, _, rfl, ne_norm_ret, rfl, rfl, gl rfl, gl rfl⟩
      · refine w_condF rfl ?_
        refine w_skip ?_
        refine bk_norm ?_
        refine nx_norm ?_
        refine w_ops ?_
        have hq := forceI_inv hr
        clear hr
        obtain ⟨x23, e23, hr⟩ := hq
        refine wo_step (v := (.i .i64 x23)) (s_pure (p_bin g13 rfl (b_add.trans (ci e23)))) ?_
        refine wo_step (v := (.i .i64 x23)) (s_pure (p_mv rfl)) ?_
        refine wo_nil ?_
        cases hr
        exact ⟨_, _, rfl, rfl, rfl, gl rfl, gl g1, gl g11, gl g12⟩
    · refine w_condF rfl ?_
      refine w_exit ?_
      refine nx_exit ?_
      cases hr
      exact ⟨_, _, rfl, ne_norm_exit, rfl, rfl⟩
  · rcases o with o | o
    · obtain ⟨m_4, ho⟩ : ∃ z, z = o := ⟨_, rfl⟩
      subst ho
      rintro _ mm t_2 ⟨rfl, rfl⟩
      refine bk_hit ?_
      refine nx_norm ?_
      refine w_seq ?_
      refine w_ops ?_
      refine wo_step (v := (.i .i64 0)) (s_pure (p_mv rfl)) ?_
      refine wo_step (v := (.b false)) (s_pure (p_mv rfl)) ?_
      refine wo_nil ?_
      refine nx_norm ?_
      refine w_ret ?_
      exact qf ret_ok (rt rfl (rt rfl rn)) hr
    · obtain ⟨x4, c5, m_5⟩ := o
      rintro _ mm_1 t_3 ⟨rfl, rfl, g4, g5⟩
      refine bk_ret ?_
      refine nx_ret ?_
      exact qf ret_ok (rt g4 (rt g5 rn)) hr

/- dibber/vine.readVine -/
abbrev g71_J0 (v0 : AVal) (m0 : Mm) (o : Bool) (m1 : Mm) (t1 : Tr) : Prop :=
  match o with
  | c14 => m0 = m1 ∧ t1.get 14 = (.b c14) ∧ t1.get 0 = v0
abbrev g71_I1 (v0 : AVal) (x17 : Int) (s : Int × Mm) (m1 : Mm) (t1 : Tr) : Prop :=
  match s with
  | (x18, m_1) => m_1 = m1 ∧ t1.get 18 = (.i .i64 x18) ∧ t1.get 4 = v0 ∧ t1.get 16 = v0 ∧ t1.get 17 = (.i .i64 x17)
abbrev g71_J1 (v0 : AVal) (x17 : Int) (o : (Mm ⊕ (AVal × Int × Mm))) (e : AExit) (m1 : Mm) (t1 : Tr) : Prop :=
  match o with
  | (.inl mo) => e = (.exit 0) ∧ mo = m1 ∧ t1.get 4 = v0
  | (.inr (y2, y3, mo)) => e = .ret ∧ mo = m1 ∧ t1.get 2 = y2 ∧ t1.get 3 = (.i .i64 y3)
abbrev g71_J2 (v0 : AVal) (x17 : Int) (x18 : Int) (o : Bool × Mm) (m1 : Mm) (t1 : Tr) : Prop :=
  match o with
  | (c30, m_2) => m_2 = m1 ∧ t1.get 30 = (.b c30) ∧ t1.get 4 = v0 ∧ t1.get 16 = v0 ∧ t1.get 17 = (.i .i64 x17) ∧ t1.get 18 = (.i .i64 x18)
def g71_b1 (M : Means) (ro : List ABlk) (v0 : AVal) (x17 : Int) (x18 : Int) (m_1 : Mm) : Option ((Int × Mm) ⊕ ((Mm ⊕ (AVal × Int × Mm)))) :=
  forceB (ltI x18 x17) fun c19 =>
  cond c19 (
    bindO (evP .e (.ixS 1 (.c v0) (.c (.i .i64 x18)))) fun v20 =>
    bindO (ldM ro m_1 true 1 v20) fun v21 =>
    asS v21 fun s21 =>
    bindO (evP .e (.len true (.c (.s s21)))) fun v23 =>
    asI .i64 v23 fun x23 =>
    forceB (ltI 8 x23) fun c24 =>
    bindO (cond c24 (
      some (true, m_1)) (
      bindP (callM M.call m_1 92 [v0, (.s s21)]) fun v28 m_3 =>
      asB v28 fun c28 =>
      forceB (!c28) fun c29 =>
      some (c29, m_3))) fun ⟨c30, m_2⟩ =>
    cond c30 (
      some (.inr (.inr (AVal.nsl, 5, m_2)))) (
      forceI (wr .i64 (x18 + 1)) fun x31 =>
      some (.inl (x31, m_2)))) (
    some (.inr (.inl m_1)))
def g71 (M : Means) (ro : List ABlk) (v0 : AVal) (m0 : Mm) : Option (AVal × Heap × Nat × Nat) :=
  bindO (evP .e (.len false (.c v0))) fun v8 =>
  asI .i64 v8 fun x8 =>
  forceB (ltI x8 1) fun c9 =>
  bindO (cond c9 (
    some true) (
    bindO (evP .e (.len false (.c v0))) fun v12 =>
    asI .i64 v12 fun x12 =>
    forceB (ltI 6 x12) fun c13 =>
    some c13)) fun c14 =>
  cond c14 (
    finM m0.h.length (tupA [AVal.nsl, (.i .i64 2)]) m0) (
    bindO (evP .e (.len false (.c v0))) fun v17 =>
    asI .i64 v17 fun x17 =>
    bindO (M.loop (S := Int × Mm) (R := (Mm ⊕ (AVal × Int × Mm))) (fun s => g71_b1 M ro v0 x17 s.1 s.2) (0, m0)) fun o_2 => match o_2 with
    | (.inl m_4) =>
      finM m0.h.length (tupA [v0, (.i .i64 0)]) m_4
    | (.inr (v2, x3, m_5)) =>
      finM m0.h.length (tupA [v2, (.i .i64 x3)]) m_5)

theorem g71_ok {ro : List ABlk} {O : Caller} {M : Means} (hM : M.Ok ⟨F, O⟩ ro) {v0 h r} (ho : O 71 [v0] h = none) (hr : g71 M ro v0 ⟨h, h.length, h.length⟩ = some r) : callX ⟨F, O⟩ ro 71 [v0] h = some r := by
  refine callX_of (F := ⟨F, O⟩) (fn := fn71) (g := g71 M ro v0) ho rfl rfl hr ?_
  clear ho
  clear hr
  intro m0 t0 ht hr
  have g0 : t0.get 0 = v0 := ht 0
  clear ht
  unfold g71 at hr
  refine w_seq ?_
  refine w_ops ?_
  refine wo_step (v := AVal.nsl) (s_pure (p_mv rfl)) ?_
  refine wo_step (v := (.i .i64 0)) (s_pure (p_mv rfl)) ?_
  refine wo_nil ?_
  refine nx_norm ?_
  refine w_seq ?_
  refine w_seq ?_
  refine w_ops ?_
  refine wo_step (v := v0) (s_pure (p_mv g0)) ?_
  have hq := bindO_inv hr
  clear hr
  obtain ⟨v8, e8, hr⟩ := hq
  have hq := asI_inv hr
  clear hr
  obtain ⟨x8, rfl, hr⟩ := hq
  refine wo_step (v := (.i .i64 x8)) (s_pure (o_len rfl e8)) ?_
  have hq := forceB_inv hr
  clear hr
  obtain ⟨c9, e9, hr⟩ := hq
  refine wo_step (v := (.b c9)) (s_pure (p_bin rfl rfl (b_lss.trans (cb e9)))) ?_
  refine wo_step (v := (.b c9)) (s_pure (p_mv rfl)) ?_
  have hq := bindO_inv hr
  clear hr
  obtain ⟨o, hr, hk⟩ := hq
  refine wo_join 4 (g71_J0 v0 m0 o) ?_ ?_
  · clear hk
    have hq := cond_inv hr
    clear hr
    rcases hq with ⟨rfl, hr⟩ | ⟨rfl, hr⟩
    · refine wo_skip (v := (.b true)) rfl rfl ?_
      refine wo_skip (v := (.b true)) rfl rfl ?_
      refine wo_skip (v := (.b true)) rfl rfl ?_
      refine wo_step (v := (.b true)) (s_pure (p_pickT rfl rfl)) ?_
      refine wo_nil ?_
      cases hr
      exact ⟨_, _, rfl, rfl, gl rfl, gl g0⟩
    · refine wo_take (v := v0) rfl (s_pure (p_mv g0)) ?_
      have hq := bindO_inv hr
      clear hr
      obtain ⟨v12, e12, hr⟩ := hq
      have hq := asI_inv hr
      clear hr
      obtain ⟨x12, rfl, hr⟩ := hq
      refine wo_take (v := (.i .i64 x12)) rfl (s_pure (o_len rfl e12)) ?_
      have hq := forceB_inv hr
      clear hr
      obtain ⟨c13, e13, hr⟩ := hq
      refine wo_take (v := (.b c13)) rfl (s_pure (p_bin rfl rfl (b_gtr.trans (cb e13)))) ?_
      refine wo_step (v := (.b c13)) (s_pure (p_pickF rfl rfl)) ?_
      refine wo_nil ?_
      cases hr
      exact ⟨_, _, rfl, rfl, gl rfl, gl g0⟩
  · clear hr
    have hr := hk
    clear hk
    obtain ⟨c14, ho⟩ : ∃ z, z = o := ⟨_, rfl⟩
    subst ho
    rintro mm t_1 ⟨rfl, g14, g0⟩
    refine wo_nil ?_
    refine nx_norm ?_
    have hq := cond_inv hr
    clear hr
    rcases hq with ⟨rfl, hr⟩ | ⟨rfl, hr⟩
    · refine w_condT g14 ?_
      refine w_seq ?_
      refine w_ops ?_
      refine wo_step (v := AVal.nsl) (s_pure (p_mv rfl)) ?_
      refine wo_step (v := (.i .i64 2)) (s_pure (p_mv rfl)) ?_
      refine wo_nil ?_
      refine nx_norm ?_
      refine w_ret ?_
      refine nx_ret ?_
      exact qf ret_ok (rt rfl (rt rfl rn)) hr
    · refine w_condF g14 ?_
      refine w_skip ?_
      refine nx_norm ?_
      refine w_seq ?_
      refine w_ops ?_
      refine wo_step (v := v0) (s_pure (p_mv g0)) ?_
      refine wo_step (v := v0) (s_pure (p_mv rfl)) ?_
      refine wo_nil ?_
      refine nx_norm ?_
      refine w_seq ?_
      refine w_seq ?_
      refine w_ops ?_
      refine wo_step (v := v0) (s_pure (p_mv rfl)) ?_
      have hq := bindO_inv hr
      clear hr
      obtain ⟨v17, e17, hr⟩ := hq
      have hq := asI_inv hr
      clear hr
      obtain ⟨x17, rfl, hr⟩ := hq
      refine wo_step (v := (.i .i64 x17)) (s_pure (o_len rfl e17)) ?_
      refine wo_step (v := (.i .i64 0)) (s_pure (p_mv rfl)) ?_
      refine wo_nil ?_
      refine nx_norm ?_
      refine w_block ?_
      have hq := bindO_inv hr
      clear hr
      obtain ⟨o_2, hl, hr⟩ := hq
      obtain ⟨n, hl⟩ := hM.loop _ _ _ hl
      refine jp_mono (w_loop _ (g71_I1 v0 x17) (g71_J1 v0 x17) ?_ n _ _ _ _ hl ⟨rfl, gl rfl, gl rfl, gl rfl, gl rfl⟩) ?_
      · clear hr hl
        intro s mm_4 t_2 o hi hr
        obtain ⟨x18, m_1⟩ := s
        obtain ⟨rfl, g18, g4, g16, g17⟩ := hi
        unfold g71_b1 at hr
        refine w_seq ?_
        refine w_ops ?_
        have hq := forceB_inv hr
        clear hr
        obtain ⟨c19, e19, hr⟩ := hq
        refine wo_step (v := (.b c19)) (s_pure (p_bin g18 g17 (b_lss.trans (cb e19)))) ?_
        refine wo_nil ?_
        refine nx_norm ?_
        refine w_seq ?_
        have hq := cond_inv hr
        clear hr
        rcases hq with ⟨rfl, hr⟩ | ⟨rfl, hr⟩
        · refine w_condT rfl ?_
          refine w_skip ?_
          refine nx_norm ?_
          refine w_seq ?_
          refine w_block ?_
          refine w_seq ?_
          refine w_ops ?_
          have hq := bindO_inv hr
          clear hr
          obtain ⟨v20, e20, hr⟩ := hq
          refine wo_step (v := v20) (s_pure (o_ixS g16 g18 e20)) ?_
          have hq := bindO_inv hr
          clear hr
          obtain ⟨v21, e21, hr⟩ := hq
          have hq := asS_inv hr
          clear hr
          obtain ⟨s21, rfl, hr⟩ := hq
          refine wo_step (v := (.s s21)) (s_ld rfl e21) ?_
          refine wo_step (v := (.s s21)) (s_pure (p_mv rfl)) ?_
          refine wo_nil ?_
          refine nx_norm ?_
          refine w_seq ?_
          refine w_ops ?_
          refine wo_step (v := (.s s21)) (s_pure (p_mv rfl)) ?_
          have hq := bindO_inv hr
          clear hr
          obtain ⟨v23, e23, hr⟩ := hq
          have hq := asI_inv hr
          clear hr
          obtain ⟨x23, rfl, hr⟩ := hq
          refine wo_step (v := (.i .i64 x23)) (s_pure (o_len rfl e23)) ?_
          have hq := forceB_inv hr
          clear hr
          obtain ⟨c24, e24, hr⟩ := hq
          refine wo_step (v := (.b c24)) (s_pure (p_bin rfl rfl (b_gtr.trans (cb e24)))) ?_
          refine wo_step (v := (.b c24)) (s_pure (p_mv rfl)) ?_
          have hq := bindO_inv hr
          clear hr
          obtain ⟨o_1, hr, hk⟩ := hq
          refine wo_join 5 (g71_J2 v0 x17 x18 o_1) ?_ ?_
          · clear hk
            have hq := cond_inv hr
            clear hr
            rcases hq with ⟨rfl, hr⟩ | ⟨rfl, hr⟩
            · refine wo_skip (v := (.b true)) rfl rfl ?_
              refine wo_skip (v := (.b true)) rfl rfl ?_
              refine wo_skip (v := (.b true)) rfl rfl ?_
              refine wo_skip (v := (.b true)) rfl rfl ?_
              refine wo_step (v := (.b true)) (s_pure (p_pickT rfl rfl)) ?_
              refine wo_nil ?_
              cases hr
              exact ⟨_, _, rfl, rfl, gl rfl, gl g4, gl g16, gl g17, gl g18⟩
            · refine wo_take (v := v0) rfl (s_pure (p_mv g4)) ?_
              refine wo_take (v := (.s s21)) rfl (s_pure (p_mv rfl)) ?_
              have hq := bindP_inv hr
              clear hr
              obtain ⟨v28, m_3, e28, hr⟩ := hq
              have hq := asB_inv hr
              clear hr
              obtain ⟨c28, rfl, hr⟩ := hq
              refine wo_take (v := (.b c28)) rfl (s_call (mc rfl (mc rfl mn)) (callM_le hM.call e28)) ?_
              have hq := forceB_inv hr
              clear hr
              obtain ⟨c29, e29, hr⟩ := hq
              refine wo_take (v := (.b c29)) rfl (s_pure ((p_not rfl).trans (cb e29))) ?_
              refine wo_step (v := (.b c29)) (s_pure (p_pickF rfl rfl)) ?_
              refine wo_nil ?_
              cases hr
              exact ⟨_, _, rfl, rfl, gl rfl, gl g4, gl g16, gl g17, gl g18⟩
          · clear hr
            have hr := hk
            clear hk
            obtain ⟨c30, m_2⟩ := o_1
            rintro mm_1 t_3 ⟨rfl, g30, g4, g16, g17, g18⟩
            refine wo_nil ?_
            refine nx_norm ?_
            have hq := cond_inv hr
            clear hr
            rcases hq with ⟨rfl, hr⟩ | ⟨rfl, hr⟩
            · refine w_condT g30 ?_
              refine w_seq ?_
              refine w_ops ?_
              refine wo_step (v := AVal.nsl) (s_pure (p_mv rfl)) ?_
              refine wo_step (v := (.i .i64 5)) (s_pure (p_mv rfl)) ?_
              refine wo_nil ?_
              refine nx_norm ?_
              refine w_ret ?_
              refine bk_ret ?_
              refine nx_ret ?_
              cases hr
              exact ⟨_, _, rfl, ne_norm_ret, rfl, rfl, gl rfl, gl rfl⟩
            · refine w_condF g30 ?_
              refine w_skip ?_
              refine bk_norm ?_
              refine nx_norm ?_
              refine w_ops ?_
              have hq := forceI_inv hr
              clear hr
              obtain ⟨x31, e31, hr⟩ := hq
              refine wo_step (v := (.i .i64 x31)) (s_pure (p_bin g18 rfl (b_add.trans (ci e31)))) ?_
              refine wo_step (v := (.i .i64 x31)) (s_pure (p_mv rfl)) ?_
              refine wo_nil ?_
              cases hr
              exact ⟨_, _, rfl, rfl, rfl, gl rfl, gl g4, gl g16, gl g17⟩
        · refine w_condF rfl ?_
          refine w_exit ?_
          refine nx_exit ?_
          cases hr
          exact ⟨_, _, rfl, ne_norm_exit, rfl, rfl, gl g4⟩
      · rcases o_2 with o_2 | o_2
        · obtain ⟨m_4, ho⟩ : ∃ z, z = o_2 := ⟨_, rfl⟩
          subst ho
          rintro _ mm_2 t_4 ⟨rfl, rfl, g4⟩
          refine bk_hit ?_
          refine nx_norm ?_
          refine w_seq ?_
          refine w_ops ?_
          refine wo_step (v := v0) (s_pure (p_mv g4)) ?_
          refine wo_step (v := v0) (s_pure (p_mv rfl)) ?_
          refine wo_step (v := (.i .i64 0)) (s_pure (p_mv rfl)) ?_
          refine wo_nil ?_
          refine nx_norm ?_
          refine w_ret ?_
          exact qf ret_ok (rt rfl (rt rfl rn)) hr
        · obtain ⟨v2, x3, m_5⟩ := o_2
          rintro _ mm_3 t_5 ⟨rfl, rfl, g2, g3⟩
          refine bk_ret ?_
          refine nx_ret ?_
          exact qf ret_ok (rt g2 (rt g3 rn)) hr

/- (dibber/vine.rules).bud -/

def g72 (M : Means) (ro : List ABlk) (v0 : AVal) (x1 : Int) (m0 : Mm) : Option (AVal × Heap × Nat × Nat) :=
  bindO (some (Mm.base m0)) fun m_1 =>
  bindO (evP .e (.ixS 1 (.c v0) (.c (.i .i64 x1)))) fun v12 =>
  bindO (ldA ro m0.h true 1 v12) fun v13 =>
  asS v13 fun s13 =>
  bindP (callM M.call m_1 89 [(.i .i64 x1)]) fun v15 m_2 =>
  asS v15 fun s15 =>
  chk (!Nat.blt m_2.lw m0.h.length) <|
  bindP (callM M.call m_2 97 [(.s s13), (.s s15)]) fun v16 m_3 =>
  bindO (evP .e (.ext 0 (.c v16))) fun v17 =>
  asS v17 fun s17 =>
  bindO (evP .e (.ext 1 (.c v16))) fun v18 =>
  asB v18 fun c18 =>
  bindO (some (Mm.join m0 m_3)) fun m_4 =>
  forceB (!c18) fun c20 =>
  cond c20 (
    finM m0.h.length (tupA [(.b false)]) m_4) (
    bindP (callM M.call m_4 61 [v0, (.s s17)]) fun v24 m_5 =>
    bindO (evP .e (.ext 0 (.c v24))) fun v25 =>
    asI .i64 v25 fun x25 =>
    bindO (evP .e (.ext 1 (.c v24))) fun v26 =>
    asB v26 fun c26 =>
    forceB (!c26) fun c28 =>
    finM m0.h.length (tupA [(.b c28)]) m_5)

theorem g72_ok {ro : List ABlk} {O : Caller} {M : Means} (hM : M.Ok ⟨F, O⟩ ro) {v0 x1 h r} (ho : O 72 [v0, (.i .i64 x1)] h = none) (hr : g72 M ro v0 x1 ⟨h, h.length, h.length⟩ = some r) : callX ⟨F, O⟩ ro 72 [v0, (.i .i64 x1)] h = some r := by
  refine callX_of (F := ⟨F, O⟩) (fn := fn72) (g := g72 M ro v0 x1) ho rfl rfl hr ?_
  clear ho
  clear hr
  intro m0 t0 ht hr
  have g0 : t0.get 0 = v0 := ht 0
  have g1 : t0.get 1 = (.i .i64 x1) := ht 1
  clear ht
  unfold g72 at hr
  refine w_seq ?_
  refine w_ops ?_
  refine wo_step (v := (.b false)) (s_pure (p_mv rfl)) ?_
  refine wo_nil ?_
  refine nx_norm ?_
  refine w_seq ?_
  have hq := bindO_inv hr
  clear hr
  obtain ⟨m_1, ef, hr⟩ := hq
  refine w_flt (af := true) rfl ef ?_
  refine wf_step (v := v0) (f_P rfl (s_pure (p_mv g0))) ?_
  refine wf_step (v := (.i .i64 x1)) (f_P rfl (s_pure (p_mv g1))) ?_
  have hq := bindO_inv hr
  clear hr
  obtain ⟨v12, e12, hr⟩ := hq
  refine wf_step (v := v12) (f_P rfl (s_pure (o_ixS rfl rfl e12))) ?_
  have hq := bindO_inv hr
  clear hr
  obtain ⟨v13, e13, hr⟩ := hq
  have hq := asS_inv hr
  clear hr
  obtain ⟨s13, rfl, hr⟩ := hq
  refine wf_step (v := (.s s13)) (f_ld rfl e13) ?_
  refine wf_step (v := (.i .i64 x1)) (f_P rfl (s_pure (p_mv g1))) ?_
  have hq := bindP_inv hr
  clear hr
  obtain ⟨v15, m_2, e15, hr⟩ := hq
  have hq := asS_inv hr
  clear hr
  obtain ⟨s15, rfl, hr⟩ := hq
  have hq := chk_inv hr
  clear hr
  obtain ⟨hc15, hr⟩ := hq
  refine wf_step (v := (.s s15)) (f_M hc15 (s_call (mc rfl mn) (callM_le hM.call e15))) ?_
  have hq := bindP_inv hr
  clear hr
  obtain ⟨v16, m_3, e16, hr⟩ := hq
  refine wf_step (v := v16) (f_F rfl (s_call (mc rfl (mc rfl mn)) (callM_le hM.call e16))) ?_
  refine wf_step (v := v16) (f_P rfl (s_pure (p_mv rfl))) ?_
  have hq := bindO_inv hr
  clear hr
  obtain ⟨v17, e17, hr⟩ := hq
  have hq := asS_inv hr
  clear hr
  obtain ⟨s17, rfl, hr⟩ := hq
  refine wf_step (v := (.s s17)) (f_P rfl (s_pure (o_ext rfl e17))) ?_
  have hq := bindO_inv hr
  clear hr
  obtain ⟨v18, e18, hr⟩ := hq
  have hq := asB_inv hr
  clear hr
  obtain ⟨c18, rfl, hr⟩ := hq
  refine wf_step (v := (.b c18)) (f_P rfl (s_pure (o_ext rfl e18))) ?_
  refine wf_step (v := (.s s17)) (f_P rfl (s_pure (p_mv rfl))) ?_
  refine wf_step (v := (.b c18)) (f_P rfl (s_pure (p_mv rfl))) ?_
  have hq := bindO_inv hr
  clear hr
  obtain ⟨m_4, ef_1, hr⟩ := hq
  refine wf_end ef_1 ?_
  refine nx_norm ?_
  refine w_seq ?_
  refine w_seq ?_
  refine w_ops ?_
  refine wo_step (v := (.b c18)) (s_pure (p_mv rfl)) ?_
  have hq := forceB_inv hr
  clear hr
  obtain ⟨c20, e20, hr⟩ := hq
  refine wo_step (v := (.b c20)) (s_pure ((p_not rfl).trans (cb e20))) ?_
  refine wo_nil ?_
  refine nx_norm ?_
  have hq := cond_inv hr
  clear hr
  rcases hq with ⟨rfl, hr⟩ | ⟨rfl, hr⟩
  · refine w_condT rfl ?_
    refine w_seq ?_
    refine w_ops ?_
    refine wo_step (v := (.b false)) (s_pure (p_mv rfl)) ?_
    refine wo_nil ?_
    refine nx_norm ?_
    refine w_ret ?_
    refine nx_ret ?_
    exact qf ret_ok (rt rfl rn) hr
  · refine w_condF rfl ?_
    refine w_skip ?_
    refine nx_norm ?_
    refine w_seq ?_
    refine w_ops ?_
    refine wo_step (v := v0) (s_pure (p_mv g0)) ?_
    refine wo_step (v := (.s s17)) (s_pure (p_mv rfl)) ?_
    have hq := bindP_inv hr
    clear hr
    obtain ⟨v24, m_5, e24, hr⟩ := hq
    refine wo_step (v := v24) (s_call (mc rfl (mc rfl mn)) (callM_le hM.call e24)) ?_
    refine wo_step (v := v24) (s_pure (p_mv rfl)) ?_
    have hq := bindO_inv hr
    clear hr
    obtain ⟨v25, e25, hr⟩ := hq
    have hq := asI_inv hr
    clear hr
    obtain ⟨x25, rfl, hr⟩ := hq
    refine wo_step (v := (.i .i64 x25)) (s_pure (o_ext rfl e25)) ?_
    have hq := bindO_inv hr
    clear hr
    obtain ⟨v26, e26, hr⟩ := hq
    have hq := asB_inv hr
    clear hr
    obtain ⟨c26, rfl, hr⟩ := hq
    refine wo_step (v := (.b c26)) (s_pure (o_ext rfl e26)) ?_
    refine wo_step (v := (.i .i64 x25)) (s_pure (p_mv rfl)) ?_
    refine wo_step (v := (.b c26)) (s_pure (p_mv rfl)) ?_
    refine wo_nil ?_
    refine nx_norm ?_
    refine w_seq ?_
    refine w_ops ?_
    refine wo_step (v := (.b c26)) (s_pure (p_mv rfl)) ?_
    have hq := forceB_inv hr
    clear hr
    obtain ⟨c28, e28, hr⟩ := hq
    refine wo_step (v := (.b c28)) (s_pure ((p_not rfl).trans (cb e28))) ?_
    refine wo_step (v := (.b c28)) (s_pure (p_mv rfl)) ?_
    refine wo_nil ?_
    refine nx_norm ?_
    refine w_ret ?_
    exact qf ret_ok (rt rfl rn) hr

/- dibber/vine.readBud -/
abbrev g74_J0 (s1 : List UInt8) (v13 : AVal) (o : Bool × Mm) (m1 : Mm) (t1 : Tr) : Prop :=
  match o with
  | (c26, m_2) => m_2 = m1 ∧ t1.get 26 = (.b c26) ∧ t1.get 1 = (.s s1) ∧ t1.get 7 = v13
def g74 (M : Means) (ro : List ABlk) (v0 : AVal) (s1 : List UInt8) (m0 : Mm) : Option (AVal × Heap × Nat × Nat) :=
  bindP (callM M.call m0 71 [v0]) fun v12 m_1 =>
  bindO (evP .e (.ext 0 (.c v12))) fun v13 =>
  bindO (evP .e (.ext 1 (.c v12))) fun v14 =>
  asI .i64 v14 fun x14 =>
  forceB (!eqI x14 0) fun c16 =>
  cond c16 (
    finM m0.h.length (tupA [AVal.nsl, (.i .i64 0), (.i .i64 x14)]) m_1) (
    bindO (evP .e (.len true (.c (.s s1)))) fun v19 =>
    asI .i64 v19 fun x19 =>
    forceB (!eqI x19 1) fun c20 =>
    bindO (cond c20 (
      some (true, m_1)) (
      bindP (callM M.call m_1 92 [v13, (.s s1)]) fun v24 m_3 =>
      asB v24 fun c24 =>
      forceB (!c24) fun c25 =>
      some (c25, m_3))) fun ⟨c26, m_2⟩ =>
    cond c26 (
      finM m0.h.length (tupA [AVal.nsl, (.i .i64 0), (.i .i64 5)]) m_2) (
      bindO (evP .e (.ixStr (.c (.s s1)) (.c (.i .i64 0)))) fun v28 =>
      asI .u8 v28 fun x28 =>
      bindP (callM M.call m_2 54 [(.i .u8 x28)]) fun v29 m_4 =>
      asI .i64 v29 fun x29 =>
      bindP (callM M.call m_4 72 [v13, (.i .i64 x29)]) fun v32 m_5 =>
      asB v32 fun c32 =>
      forceB (!c32) fun c33 =>
      cond c33 (
        finM m0.h.length (tupA [AVal.nsl, (.i .i64 0), (.i .i64 10)]) m_5) (
        finM m0.h.length (tupA [v13, (.i .i64 x29), (.i .i64 0)]) m_5)))

theorem g74_ok {ro : List ABlk} {O : Caller} {M : Means} (hM : M.Ok ⟨F, O⟩ ro) {v0 s1 h r} (ho : O 74 [v0, (.s s1)] h = none) (hr : g74 M ro v0 s1 ⟨h, h.length, h.length⟩ = some r) : callX ⟨F, O⟩ ro 74 [v0, (.s s1)] h = some r := by
  refine callX_of (F := ⟨F, O⟩) (fn := fn74) (g := g74 M ro v0 s1) ho rfl rfl hr ?_
  clear ho
  clear hr
  intro m0 t0 ht hr
  have g0 : t0.get 0 = v0 := ht 0
  have g1 : t0.get 1 = (.s s1) := ht 1
  clear ht
  unfold g74 at hr
  refine w_seq ?_
  refine w_ops ?_
  refine wo_step (v := AVal.nsl) (s_pure (p_mv rfl)) ?_
  refine wo_step (v := (.i .i64 0)) (s_pure (p_mv rfl)) ?_
  refine wo_step (v := (.i .i64 0)) (s_pure (p_mv rfl)) ?_
  refine wo_nil ?_
  refine nx_norm ?_
  refine w_seq ?_
  refine w_ops ?_
  refine wo_step (v := v0) (s_pure (p_mv g0)) ?_
  have hq := bindP_inv hr
  clear hr
  obtain ⟨v12, m_1, e12, hr⟩ := hq
  refine wo_step (v := v12) (s_call (mc rfl mn) (callM_le hM.call e12)) ?_
  refine wo_step (v := v12) (s_pure (p_mv rfl)) ?_
  have hq := bindO_inv hr
  clear hr
  obtain ⟨v13, e13, hr⟩ := hq
  refine wo_step (v := v13) (s_pure (o_ext rfl e13)) ?_
  have hq := bindO_inv hr
  clear hr
  obtain ⟨v14, e14, hr⟩ := hq
  have hq := asI_inv hr
  clear hr
  obtain ⟨x14, rfl, hr⟩ := hq
  refine wo_step (v := (.i .i64 x14)) (s_pure (o_ext rfl e14)) ?_
  refine wo_step (v := v13) (s_pure (p_mv rfl)) ?_
  refine wo_step (v := (.i .i64 x14)) (s_pure (p_mv rfl)) ?_
  refine wo_nil ?_
  refine nx_norm ?_
  refine w_seq ?_
  refine w_seq ?_
  refine w_ops ?_
  refine wo_step (v := (.i .i64 x14)) (s_pure (p_mv rfl)) ?_
  have hq := forceB_inv hr
  clear hr
  obtain ⟨c16, e16, hr⟩ := hq
  refine wo_step (v := (.b c16)) (s_pure (p_bin rfl rfl (b_neq.trans (cb e16)))) ?_
  refine wo_nil ?_
  refine nx_norm ?_
  have hq := cond_inv hr
  clear hr
  rcases hq with ⟨rfl, hr⟩ | ⟨rfl, hr⟩
  · refine w_condT rfl ?_
    refine w_seq ?_
    refine w_ops ?_
    refine wo_step (v := (.i .i64 x14)) (s_pure (p_mv rfl)) ?_
    refine wo_step (v := AVal.nsl) (s_pure (p_mv rfl)) ?_
    refine wo_step (v := (.i .i64 0)) (s_pure (p_mv rfl)) ?_
    refine wo_step (v := (.i .i64 x14)) (s_pure (p_mv rfl)) ?_
    refine wo_nil ?_
    refine nx_norm ?_
    refine w_ret ?_
    refine nx_ret ?_
    exact qf ret_ok (rt rfl (rt rfl (rt rfl rn))) hr
  · refine w_condF rfl ?_
    refine w_skip ?_
    refine nx_norm ?_
    refine w_seq ?_
    refine w_seq ?_
    refine w_ops ?_
    refine wo_step (v := (.s s1)) (s_pure (p_mv g1)) ?_
    have hq := bindO_inv hr
    clear hr
    obtain ⟨v19, e19, hr⟩ := hq
    have hq := asI_inv hr
    clear hr
    obtain ⟨x19, rfl, hr⟩ := hq
    refine wo_step (v := (.i .i64 x19)) (s_pure (o_len rfl e19)) ?_
    have hq := forceB_inv hr
    clear hr
    obtain ⟨c20, e20, hr⟩ := hq
    refine wo_step (v := (.b c20)) (s_pure (p_bin rfl rfl (b_neq.trans (cb e20)))) ?_
    refine wo_step (v := (.b c20)) (s_pure (p_mv rfl)) ?_
    have hq := bindO_inv hr
    clear hr
    obtain ⟨o, hr, hk⟩ := hq
    refine wo_join 5 (g74_J0 s1 v13 o) ?_ ?_
    · clear hk
      have hq := cond_inv hr
      clear hr
      rcases hq with ⟨rfl, hr⟩ | ⟨rfl, hr⟩
      · refine wo_skip (v := (.b true)) rfl rfl ?_
        refine wo_skip (v := (.b true)) rfl rfl ?_
        refine wo_skip (v := (.b true)) rfl rfl ?_
        refine wo_skip (v := (.b true)) rfl rfl ?_
        refine wo_step (v := (.b true)) (s_pure (p_pickT rfl rfl)) ?_
        refine wo_nil ?_
        cases hr
        exact ⟨_, _, rfl, rfl, gl rfl, gl g1, gl rfl⟩
      · refine wo_take (v := v13) rfl (s_pure (p_mv rfl)) ?_
        refine wo_take (v := (.s s1)) rfl (s_pure (p_mv g1)) ?_
        have hq := bindP_inv hr
        clear hr
        obtain ⟨v24, m_3, e24, hr⟩ := hq
        have hq := asB_inv hr
        clear hr
        obtain ⟨c24, rfl, hr⟩ := hq
        refine wo_take (v := (.b c24)) rfl (s_call (mc rfl (mc rfl mn)) (callM_le hM.call e24)) ?_
        have hq := forceB_inv hr
        clear hr
        obtain ⟨c25, e25, hr⟩ := hq
        refine wo_take (v := (.b c25)) rfl (s_pure ((p_not rfl).trans (cb e25))) ?_
        refine wo_step (v := (.b c25)) (s_pure (p_pickF rfl rfl)) ?_
        refine wo_nil ?_
        cases hr
        exact ⟨_, _, rfl, rfl, gl rfl, gl g1, gl rfl⟩
    · clear hr
      have hr := hk
      clear hk
      obtain ⟨c26, m_2⟩ := o
      rintro mm t_1 ⟨rfl, g26, g1, g7⟩
      refine wo_nil ?_
      refine nx_norm ?_
      have hq := cond_inv hr
      clear hr
      rcases hq with ⟨rfl, hr⟩ | ⟨rfl, hr⟩
      · refine w_condT g26 ?_
        refine w_seq ?_
        refine w_ops ?_
        refine wo_step (v := AVal.nsl) (s_pure (p_mv rfl)) ?_
        refine wo_step (v := (.i .i64 0)) (s_pure (p_mv rfl)) ?_
        refine wo_step (v := (.i .i64 5)) (s_pure (p_mv rfl)) ?_
        refine wo_nil ?_
        refine nx_norm ?_
        refine w_ret ?_
        refine nx_ret ?_
        exact qf ret_ok (rt rfl (rt rfl (rt rfl rn))) hr
      · refine w_condF g26 ?_
        refine w_skip ?_
        refine nx_norm ?_
        refine w_seq ?_
        refine w_ops ?_
        refine wo_step (v := (.s s1)) (s_pure (p_mv g1)) ?_
        have hq := bindO_inv hr
        clear hr
        obtain ⟨v28, e28, hr⟩ := hq
        have hq := asI_inv hr
        clear hr
        obtain ⟨x28, rfl, hr⟩ := hq
        refine wo_step (v := (.i .u8 x28)) (s_pure (o_ixStr rfl rfl e28)) ?_
        have hq := bindP_inv hr
        clear hr
        obtain ⟨v29, m_4, e29, hr⟩ := hq
        have hq := asI_inv hr
        clear hr
        obtain ⟨x29, rfl, hr⟩ := hq
        refine wo_step (v := (.i .i64 x29)) (s_call (mc rfl mn) (callM_le hM.call e29)) ?_
        refine wo_step (v := (.i .i64 x29)) (s_pure (p_mv rfl)) ?_
        refine wo_nil ?_
        refine nx_norm ?_
        refine w_seq ?_
        refine w_seq ?_
        refine w_ops ?_
        refine wo_step (v := v13) (s_pure (p_mv g7)) ?_
        refine wo_step (v := (.i .i64 x29)) (s_pure (p_mv rfl)) ?_
        have hq := bindP_inv hr
        clear hr
        obtain ⟨v32, m_5, e32, hr⟩ := hq
        have hq := asB_inv hr
        clear hr
        obtain ⟨c32, rfl, hr⟩ := hq
        refine wo_step (v := (.b c32)) (s_call (mc rfl (mc rfl mn)) (callM_le hM.call e32)) ?_
        have hq := forceB_inv hr
        clear hr
        obtain ⟨c33, e33, hr⟩ := hq
        refine wo_step (v := (.b c33)) (s_pure ((p_not rfl).trans (cb e33))) ?_
        refine wo_nil ?_
        refine nx_norm ?_
        have hq := cond_inv hr
        clear hr
        rcases hq with ⟨rfl, hr⟩ | ⟨rfl, hr⟩
        · refine w_condT rfl ?_
          refine w_seq ?_
          refine w_ops ?_
          refine wo_step (v := AVal.nsl) (s_pure (p_mv rfl)) ?_
          refine wo_step (v := (.i .i64 0)) (s_pure (p_mv rfl)) ?_
          refine wo_step (v := (.i .i64 10)) (s_pure (p_mv rfl)) ?_
          refine wo_nil ?_
          refine nx_norm ?_
          refine w_ret ?_
          refine nx_ret ?_
          exact qf ret_ok (rt rfl (rt rfl (rt rfl rn))) hr
        · refine w_condF rfl ?_
          refine w_skip ?_
          refine nx_norm ?_
          refine w_seq ?_
          refine w_ops ?_
          refine wo_step (v := v13) (s_pure (p_mv g7)) ?_
          refine wo_step (v := (.i .i64 x29)) (s_pure (p_mv rfl)) ?_
          refine wo_step (v := v13) (s_pure (p_mv rfl)) ?_
          refine wo_step (v := (.i .i64 x29)) (s_pure (p_mv rfl)) ?_
          refine wo_step (v := (.i .i64 0)) (s_pure (p_mv rfl)) ?_
          refine wo_nil ?_
          refine nx_norm ?_
          refine w_ret ?_
          exact qf ret_ok (rt rfl (rt rfl (rt rfl rn))) hr

/- (dibber/vine.rules).endless -/

def g75 (M : Means) (ro : List ABlk) (v0 : AVal) (x1 : Int) (m0 : Mm) : Option (AVal × Heap × Nat × Nat) :=
  bindP (stepM ro m0 (.bx 55 1 (.c v0))) fun v2 m_1 =>
  bindP (stepM ro m_1 (.bx 3 1 (.c (.i .i64 x1)))) fun v3 m_2 =>
  bindO (some (AVal.fn 98 [] [v2, v3])) fun v5 =>
  finM m0.h.length (tupA [v5]) m_2

theorem g75_ok {ro : List ABlk} {O : Caller} {M : Means} (hM : M.Ok ⟨F, O⟩ ro) {v0 x1 h r} (ho : O 75 [v0, (.i .i64 x1)] h = none) (hr : g75 M ro v0 x1 ⟨h, h.length, h.length⟩ = some r) : callX ⟨F, O⟩ ro 75 [v0, (.i .i64 x1)] h = some r := by
  refine callX_of (F := ⟨F, O⟩) (fn := fn75) (g := g75 M ro v0 x1) ho rfl rfl hr ?_
  clear ho
  clear hr
  intro m0 t0 ht hr
  have g0 : t0.get 0 = v0 := ht 0
  have g1 : t0.get 1 = (.i .i64 x1) := ht 1
  clear ht
  unfold g75 at hr
  refine w_seq ?_
  refine w_ops ?_
  have hq := bindP_inv hr
  clear hr
  obtain ⟨v2, m_1, e2, hr⟩ := hq
  refine wo_step (v := v2) (s_bx g0 e2) ?_
  have hq := bindP_inv hr
  clear hr
  obtain ⟨v3, m_2, e3, hr⟩ := hq
  refine wo_step (v := v3) (s_bx g1 e3) ?_
  refine wo_step (v := AVal.nfn) (s_pure (p_mv rfl)) ?_
  refine wo_nil ?_
  refine nx_norm ?_
  refine w_seq ?_
  refine w_ops ?_
  have hq := bindO_inv hr
  clear hr
  obtain ⟨v5, e5, hr⟩ := hq
  refine wo_step (v := v5) (s_pure (Eq.trans (o_mkfn mn (mc rfl (mc rfl mn))) e5)) ?_
  refine wo_step (v := v5) (s_pure (p_mv rfl)) ?_
  refine wo_nil ?_
  refine nx_norm ?_
  refine w_ret ?_
  exact qf ret_ok (rt rfl rn) hr

/- dibber/dibberref03.Letters -/
abbrev g85_I0 (v0 : AVal) (s1 : List UInt8) (m0 : Mm) (s : Int) (m1 : Mm) (t1 : Tr) : Prop :=
  match s with
  | x5 => m0 = m1 ∧ t1.get 5 = (.i .i64 x5) ∧ t1.get 0 = v0 ∧ t1.get 1 = (.s s1)
abbrev g85_J0 (v0 : AVal) (s1 : List UInt8) (m0 : Mm) (o : (Unit ⊕ Bool)) (e : AExit) (m1 : Mm) (t1 : Tr) : Prop :=
  match o with
  | (.inl _) => e = (.exit 0) ∧ m0 = m1
  | (.inr y4) => e = .ret ∧ m0 = m1 ∧ t1.get 4 = (.b y4)
abbrev g85_J1 (v0 : AVal) (s1 : List UInt8) (x5 : Int) (m0 : Mm) (o : Bool) (m1 : Mm) (t1 : Tr) : Prop :=
  match o with
  | c25 => m0 = m1 ∧ t1.get 25 = (.b c25) ∧ t1.get 0 = v0 ∧ t1.get 1 = (.s s1) ∧ t1.get 5 = (.i .i64 x5)
def g85_b0 (M : Means) (ro : List ABlk) (v0 : AVal) (s1 : List UInt8) (m0 : Mm) (x5 : Int) : Option ((Int) ⊕ ((Unit ⊕ Bool))) :=
  bindO (evP .e (.len true (.c (.s s1)))) fun v8 =>
  asI .i64 v8 fun x8 =>
  forceB (ltI x5 x8) fun c9 =>
  cond c9 (
    bindO (evP .e (.ixStr (.c (.s s1)) (.c (.i .i64 x5)))) fun v14 =>
    asI .u8 v14 fun x14 =>
    forceB (ltI x14 97) fun c15 =>
    bindO (cond c15 (
      some true) (
      bindO (evP .e (.ixStr (.c (.s s1)) (.c (.i .i64 x5)))) fun v19 =>
      asI .u8 v19 fun x19 =>
      forceI (wr .u8 (x19 - 97)) fun x20 =>
      forceI (wr .i64 x20) fun x21 =>
      bindO (evP .e (.len false (.c v0))) fun v23 =>
      asI .i64 v23 fun x23 =>
      forceB (!ltI x21 x23) fun c24 =>
      some c24)) fun c25 =>
    cond c25 (
      some (.inr (.inr false))) (
      forceI (wr .i64 (x5 + 1)) fun x11 =>
      some (.inl x11))) (
    some (.inr (.inl ())))
def g85 (M : Means) (ro : List ABlk) (v0 : AVal) (s1 : List UInt8) (m0 : Mm) : Option (AVal × Heap × Nat × Nat) :=
  bindO (M.loop (S := Int) (R := (Unit ⊕ Bool)) (fun s => g85_b0 M ro v0 s1 m0 s) 0) fun o_1 => match o_1 with
  | (.inl _) =>
    finM m0.h.length (tupA [(.b true)]) m0
  | (.inr c4) =>
    finM m0.h.length (tupA [(.b c4)]) m0

theorem g85_ok {ro : List ABlk} {O : Caller} {M : Means} (hM : M.Ok ⟨F, O⟩ ro) {v0 s1 h r} (ho : O 85 [v0, (.s s1)] h = none) (hr : g85 M ro v0 s1 ⟨h, h.length, h.length⟩ = some r) : callX ⟨F, O⟩ ro 85 [v0, (.s s1)] h = some r := by
  refine callX_of (F := ⟨F, O⟩) (fn := fn85) (g := g85 M ro v0 s1) ho rfl rfl hr ?_
  clear ho
  clear hr
  intro m0 t0 ht hr
  have g0 : t0.get 0 = v0 := ht 0
  have g1 : t0.get 1 = (.s s1) := ht 1
  clear ht
  unfold g85 at hr
  refine w_seq ?_
  refine w_ops ?_
  refine wo_step (v := (.b false)) (s_pure (p_mv rfl)) ?_
  refine wo_nil ?_
  refine nx_norm ?_
  refine w_seq ?_
  refine w_seq ?_
  refine w_ops ?_
  refine wo_step (v := (.i .i64 0)) (s_pure (p_mv rfl)) ?_
  refine wo_nil ?_
  refine nx_norm ?_
  refine w_block ?_
  have hq := bindO_inv hr
  clear hr
  obtain ⟨o_1, hl, hr⟩ := hq
  obtain ⟨n, hl⟩ := hM.loop _ _ _ hl
  refine jp_mono (w_loop _ (g85_I0 v0 s1 m0) (g85_J0 v0 s1 m0) ?_ n _ _ _ _ hl ⟨rfl, gl rfl, gl g0, gl g1⟩) ?_
  · clear hr hl
    intro s mm_3 t_1 o hi hr
    obtain ⟨x5, hs⟩ : ∃ z, z = s := ⟨_, rfl⟩
    subst hs
    obtain ⟨rfl, g5, g0, g1⟩ := hi
    unfold g85_b0 at hr
    refine w_seq ?_
    refine w_seq ?_
    refine w_ops ?_
    refine wo_step (v := (.i .i64 x5)) (s_pure (p_mv g5)) ?_
    refine wo_step (v := (.s s1)) (s_pure (p_mv g1)) ?_
    have hq := bindO_inv hr
    clear hr
    obtain ⟨v8, e8, hr⟩ := hq
    have hq := asI_inv hr
    clear hr
    obtain ⟨x8, rfl, hr⟩ := hq
    refine wo_step (v := (.i .i64 x8)) (s_pure (o_len rfl e8)) ?_
    have hq := forceB_inv hr
    clear hr
    obtain ⟨c9, e9, hr⟩ := hq
    refine wo_step (v := (.b c9)) (s_pure (p_bin rfl rfl (b_lss.trans (cb e9)))) ?_
    refine wo_nil ?_
    refine nx_norm ?_
    have hq := cond_inv hr
    clear hr
    rcases hq with ⟨rfl, hr⟩ | ⟨rfl, hr⟩
    · refine w_condT rfl ?_
      refine w_skip ?_
      refine nx_norm ?_
      refine w_seq ?_
      refine w_block ?_
      refine w_seq ?_
      refine w_ops ?_
      refine wo_step (v := (.s s1)) (s_pure (p_mv g1)) ?_
      refine wo_step (v := (.i .i64 x5)) (s_pure (p_mv g5)) ?_
      have hq := bindO_inv hr
      clear hr
      obtain ⟨v14, e14, hr⟩ := hq
      have hq := asI_inv hr
      clear hr
      obtain ⟨x14, rfl, hr⟩ := hq
      refine wo_step (v := (.i .u8 x14)) (s_pure (o_ixStr rfl rfl e14)) ?_
      have hq := forceB_inv hr
      clear hr
      obtain ⟨c15, e15, hr⟩ := hq
      refine wo_step (v := (.b c15)) (s_pure (p_bin rfl rfl (b_lss.trans (cb e15)))) ?_
      refine wo_step (v := (.b c15)) (s_pure (p_mv rfl)) ?_
      have hq := bindO_inv hr
      clear hr
      obtain ⟨o, hr, hk⟩ := hq
      refine wo_join 9 (g85_J1 v0 s1 x5 m0 o) ?_ ?_
      · clear hk
        have hq := cond_inv hr
        clear hr
        rcases hq with ⟨rfl, hr⟩ | ⟨rfl, hr⟩
        · refine wo_skip (v := (.b true)) rfl rfl ?_
          refine wo_skip (v := (.b true)) rfl rfl ?_
          refine wo_skip (v := (.b true)) rfl rfl ?_
          refine wo_skip (v := (.b true)) rfl rfl ?_
          refine wo_skip (v := (.b true)) rfl rfl ?_
          refine wo_skip (v := (.b true)) rfl rfl ?_
          refine wo_skip (v := (.b true)) rfl rfl ?_
          refine wo_skip (v := (.b true)) rfl rfl ?_
          refine wo_step (v := (.b true)) (s_pure (p_pickT rfl rfl)) ?_
          refine wo_nil ?_
          cases hr
          exact ⟨_, _, rfl, rfl, gl rfl, gl g0, gl g1, gl g5⟩
        · refine wo_take (v := (.s s1)) rfl (s_pure (p_mv g1)) ?_
          refine wo_take (v := (.i .i64 x5)) rfl (s_pure (p_mv g5)) ?_
          have hq := bindO_inv hr
          clear hr
          obtain ⟨v19, e19, hr⟩ := hq
          have hq := asI_inv hr
          clear hr
          obtain ⟨x19, rfl, hr⟩ := hq
          refine wo_take (v := (.i .u8 x19)) rfl (s_pure (o_ixStr rfl rfl e19)) ?_
          have hq := forceI_inv hr
          clear hr
          obtain ⟨x20, e20, hr⟩ := hq
          refine wo_take (v := (.i .u8 x20)) rfl (s_pure (p_bin rfl rfl (b_sub.trans (ci e20)))) ?_
          have hq := forceI_inv hr
          clear hr
          obtain ⟨x21, e21, hr⟩ := hq
          refine wo_take (v := (.i .i64 x21)) rfl (s_pure ((p_conv rfl).trans (ci e21))) ?_
          refine wo_take (v := v0) rfl (s_pure (p_mv g0)) ?_
          have hq := bindO_inv hr
          clear hr
          obtain ⟨v23, e23, hr⟩ := hq
          have hq := asI_inv hr
          clear hr
          obtain ⟨x23, rfl, hr⟩ := hq
          refine wo_take (v := (.i .i64 x23)) rfl (s_pure (o_len rfl e23)) ?_
          have hq := forceB_inv hr
          clear hr
          obtain ⟨c24, e24, hr⟩ := hq
          refine wo_take (v := (.b c24)) rfl (s_pure (p_bin rfl rfl (b_geq.trans (cb e24)))) ?_
          refine wo_step (v := (.b c24)) (s_pure (p_pickF rfl rfl)) ?_
          refine wo_nil ?_
          cases hr
          exact ⟨_, _, rfl, rfl, gl rfl, gl g0, gl g1, gl g5⟩
      · clear hr
        have hr := hk
        clear hk
        obtain ⟨c25, ho⟩ : ∃ z, z = o := ⟨_, rfl⟩
        subst ho
        rintro mm t_2 ⟨rfl, g25, g0, g1, g5⟩
        refine wo_nil ?_
        refine nx_norm ?_
        have hq := cond_inv hr
        clear hr
        rcases hq with ⟨rfl, hr⟩ | ⟨rfl, hr⟩
        · refine w_condT g25 ?_
          refine w_seq ?_
          refine w_ops ?_
          refine wo_step (v := (.b false)) (s_pure (p_mv rfl)) ?_
          refine wo_nil ?_
          refine nx_norm ?_
          refine w_ret ?_
          refine bk_ret ?_
          refine nx_ret ?_
          cases hr
          exact ⟨_, _, rfl, ne_norm_ret, rfl, rfl, gl rfl⟩
        · refine w_condF g25 ?_
          refine w_skip ?_
          refine bk_norm ?_
          refine nx_norm ?_
          refine w_ops ?_
          refine wo_step (v := (.i .i64 x5)) (s_pure (p_mv g5)) ?_
          have hq := forceI_inv hr
          clear hr
          obtain ⟨x11, e11, hr⟩ := hq
          refine wo_step (v := (.i .i64 x11)) (s_pure (p_bin rfl rfl (b_add.trans (ci e11)))) ?_
          refine wo_step (v := (.i .i64 x11)) (s_pure (p_mv rfl)) ?_
          refine wo_nil ?_
          cases hr
          exact ⟨_, _, rfl, rfl, rfl, gl rfl, gl g0, gl g1⟩
    · refine w_condF rfl ?_
      refine w_exit ?_
      refine nx_exit ?_
      cases hr
      exact ⟨_, _, rfl, ne_norm_exit, rfl, rfl⟩
  · rcases o_1 with o_1 | o_1
    · rintro _ mm_1 t_3 ⟨rfl, rfl⟩
      refine bk_hit ?_
      refine nx_norm ?_
      refine w_seq ?_
      refine w_ops ?_
      refine wo_step (v := (.b true)) (s_pure (p_mv rfl)) ?_
      refine wo_nil ?_
      refine nx_norm ?_
      refine w_ret ?_
      exact qf ret_ok (rt rfl rn) hr
    · obtain ⟨c4, ho⟩ : ∃ z, z = o_1 := ⟨_, rfl⟩
      subst ho
      rintro _ mm_2 t_4 ⟨rfl, rfl, g4⟩
      refine bk_ret ?_
      refine nx_ret ?_
      exact qf ret_ok (rt g4 rn) hr

/- (dibber/vine.many).plus -/

def g86 (M : Means) (ro : List ABlk) (x0 : Int) (x1 : Int) (m0 : Mm) : Option (AVal × Heap × Nat × Nat) :=
  forceI (wr .u64 (9223372036854775808 - x1)) fun x7 =>
  forceB (ltI x7 x0) fun c8 =>
  cond c8 (
    finM m0.h.length (tupA [(.i .u64 9223372036854775808)]) m0) (
    forceI (wr .u64 (x0 + x1)) fun x11 =>
    finM m0.h.length (tupA [(.i .u64 x11)]) m0)

theorem g86_ok {ro : List ABlk} {O : Caller} {M : Means} (hM : M.Ok ⟨F, O⟩ ro) {x0 x1 h r} (ho : O 86 [(.i .u64 x0), (.i .u64 x1)] h = none) (hr : g86 M ro x0 x1 ⟨h, h.length, h.length⟩ = some r) : callX ⟨F, O⟩ ro 86 [(.i .u64 x0), (.i .u64 x1)] h = some r := by
  refine callX_of (F := ⟨F, O⟩) (fn := fn86) (g := g86 M ro x0 x1) ho rfl rfl hr ?_
  clear ho
  clear hr
  intro m0 t0 ht hr
  have g0 : t0.get 0 = (.i .u64 x0) := ht 0
  have g1 : t0.get 1 = (.i .u64 x1) := ht 1
  clear ht
  unfold g86 at hr
  refine w_seq ?_
  refine w_ops ?_
  refine wo_step (v := (.i .u64 0)) (s_pure (p_mv rfl)) ?_
  refine wo_nil ?_
  refine nx_norm ?_
  refine w_seq ?_
  refine w_seq ?_
  refine w_ops ?_
  refine wo_step (v := (.i .u64 x0)) (s_pure (p_mv g0)) ?_
  refine wo_step (v := (.i .u64 x1)) (s_pure (p_mv g1)) ?_
  have hq := forceI_inv hr
  clear hr
  obtain ⟨x7, e7, hr⟩ := hq
  refine wo_step (v := (.i .u64 x7)) (s_pure (p_bin rfl rfl (b_sub.trans (ci e7)))) ?_
  have hq := forceB_inv hr
  clear hr
  obtain ⟨c8, e8, hr⟩ := hq
  refine wo_step (v := (.b c8)) (s_pure (p_bin rfl rfl (b_gtr.trans (cb e8)))) ?_
  refine wo_nil ?_
  refine nx_norm ?_
  have hq := cond_inv hr
  clear hr
  rcases hq with ⟨rfl, hr⟩ | ⟨rfl, hr⟩
  · refine w_condT rfl ?_
    refine w_seq ?_
    refine w_ops ?_
    refine wo_step (v := (.i .u64 9223372036854775808)) (s_pure (p_mv rfl)) ?_
    refine wo_nil ?_
    refine nx_norm ?_
    refine w_ret ?_
    refine nx_ret ?_
    exact qf ret_ok (rt rfl rn) hr
  · refine w_condF rfl ?_
    refine w_skip ?_
    refine nx_norm ?_
    refine w_seq ?_
    refine w_ops ?_
    refine wo_step (v := (.i .u64 x0)) (s_pure (p_mv g0)) ?_
    refine wo_step (v := (.i .u64 x1)) (s_pure (p_mv g1)) ?_
    have hq := forceI_inv hr
    clear hr
    obtain ⟨x11, e11, hr⟩ := hq
    refine wo_step (v := (.i .u64 x11)) (s_pure (p_bin rfl rfl (b_add.trans (ci e11)))) ?_
    refine wo_step (v := (.i .u64 x11)) (s_pure (p_mv rfl)) ?_
    refine wo_nil ?_
    refine nx_norm ?_
    refine w_ret ?_
    exact qf ret_ok (rt rfl rn) hr

/- dibber/dibberref03.plus -/

def g87 (M : Means) (ro : List ABlk) (x0 : Int) (x1 : Int) (m0 : Mm) : Option (AVal × Heap × Nat × Nat) :=
  forceI (wr .u64 (9223372036854775808 - x1)) fun x7 =>
  forceB (!ltI x0 x7) fun c8 =>
  cond c8 (
    finM m0.h.length (tupA [(.i .u64 9223372036854775808)]) m0) (
    forceI (wr .u64 (x0 + x1)) fun x11 =>
    finM m0.h.length (tupA [(.i .u64 x11)]) m0)

theorem g87_ok {ro : List ABlk} {O : Caller} {M : Means} (hM : M.Ok ⟨F, O⟩ ro) {x0 x1 h r} (ho : O 87 [(.i .u64 x0), (.i .u64 x1)] h = none) (hr : g87 M ro x0 x1 ⟨h, h.length, h.length⟩ = some r) : callX ⟨F, O⟩ ro 87 [(.i .u64 x0), (.i .u64 x1)] h = some r := by
  refine callX_of (F := ⟨F, O⟩) (fn := fn87) (g := g87 M ro x0 x1) ho rfl rfl hr ?_
  clear ho
  clear hr
  intro m0 t0 ht hr
  have g0 : t0.get 0 = (.i .u64 x0) := ht 0
  have g1 : t0.get 1 = (.i .u64 x1) := ht 1
  clear ht
  unfold g87 at hr
  refine w_seq ?_
  refine w_ops ?_
  refine wo_step (v := (.i .u64 0)) (s_pure (p_mv rfl)) ?_
  refine wo_nil ?_
  refine nx_norm ?_
  refine w_seq ?_
  refine w_seq ?_
  refine w_ops ?_
  refine wo_step (v := (.i .u64 x0)) (s_pure (p_mv g0)) ?_
  refine wo_step (v := (.i .u64 x1)) (s_pure (p_mv g1)) ?_
  have hq := forceI_inv hr
  clear hr
  obtain ⟨x7, e7, hr⟩ := hq
  refine wo_step (v := (.i .u64 x7)) (s_pure (p_bin rfl rfl (b_sub.trans (ci e7)))) ?_
  have hq := forceB_inv hr
  clear hr
  obtain ⟨c8, e8, hr⟩ := hq
  refine wo_step (v := (.b c8)) (s_pure (p_bin rfl rfl (b_geq.trans (cb e8)))) ?_
  refine wo_nil ?_
  refine nx_norm ?_
  have hq := cond_inv hr
  clear hr
  rcases hq with ⟨rfl, hr⟩ | ⟨rfl, hr⟩
  · refine w_condT rfl ?_
    refine w_seq ?_
    refine w_ops ?_
    refine wo_step (v := (.i .u64 9223372036854775808)) (s_pure (p_mv rfl)) ?_
    refine wo_nil ?_
    refine nx_norm ?_
    refine w_ret ?_
    refine nx_ret ?_
    exact qf ret_ok (rt rfl rn) hr
  · refine w_condF rfl ?_
    refine w_skip ?_
    refine nx_norm ?_
    refine w_seq ?_
    refine w_ops ?_
    refine wo_step (v := (.i .u64 x0)) (s_pure (p_mv g0)) ?_
    refine wo_step (v := (.i .u64 x1)) (s_pure (p_mv g1)) ?_
    have hq := forceI_inv hr
    clear hr
    obtain ⟨x11, e11, hr⟩ := hq
    refine wo_step (v := (.i .u64 x11)) (s_pure (p_bin rfl rfl (b_add.trans (ci e11)))) ?_
    refine wo_step (v := (.i .u64 x11)) (s_pure (p_mv rfl)) ?_
    refine wo_nil ?_
    refine nx_norm ?_
    refine w_ret ?_
    exact qf ret_ok (rt rfl rn) hr

/- strings.Count -/
abbrev g88_I0 (s1 : List UInt8) (s : List UInt8 × Int × Mm) (m1 : Mm) (t1 : Tr) : Prop :=
  match s with
  | (s0_1, x5, m_3) => m_3 = m1 ∧ t1.get 0 = (.s s0_1) ∧ t1.get 5 = (.i .i64 x5) ∧ t1.get 1 = (.s s1)
abbrev g88_J0 (s1 : List UInt8) (o : (Int × Mm)) (e : AExit) (m1 : Mm) (t1 : Tr) : Prop :=
  match o with
  | (y4, mo) => e = .ret ∧ mo = m1 ∧ t1.get 4 = (.i .i64 y4)
def g88_b0 (M : Means) (ro : List ABlk) (s1 : List UInt8) (s0_1 : List UInt8) (x5 : Int) (m_3 : Mm) : Option ((List UInt8 × Int × Mm) ⊕ ((Int × Mm))) :=
  bindP (callM M.call m_3 101 [(.s s0_1), (.s s1)]) fun v22 m_4 =>
  asI .i64 v22 fun x22 =>
  forceB (eqI x22 (-1)) fun c24 =>
  cond c24 (
    some (.inr (x5, m_4))) (
    forceI (wr .i64 (x5 + 1)) fun x27 =>
    bindO (evP .e (.len true (.c (.s s1)))) fun v31 =>
    asI .i64 v31 fun x31 =>
    forceI (wr .i64 (x22 + x31)) fun x32 =>
    bindO (evP .e (.slStr (.c (.s s0_1)) (some (.c (.i .i64 x32))) none)) fun v33 =>
    asS v33 fun s33 =>
    some (.inl (s33, x27, m_4)))
def g88 (M : Means) (ro : List ABlk) (s0 : List UInt8) (s1 : List UInt8) (m0 : Mm) : Option (AVal × Heap × Nat × Nat) :=
  bindO (evP .e (.len true (.c (.s s1)))) fun v8 =>
  asI .i64 v8 fun x8 =>
  forceB (eqI x8 0) fun c9 =>
  cond c9 (
    bindP (callM M.call m0 99 [(.s s0)]) fun v11 m_1 =>
    asI .i64 v11 fun x11 =>
    forceI (wr .i64 (x11 + 1)) fun x12 =>
    finM m0.h.length (tupA [(.i .i64 x12)]) m_1) (
    bindO (evP .e (.len true (.c (.s s1)))) fun v14 =>
    asI .i64 v14 fun x14 =>
    forceB (eqI x14 1) fun c15 =>
    cond c15 (
      bindO (evP .e (.ixStr (.c (.s s1)) (.c (.i .i64 0)))) fun v18 =>
      asI .u8 v18 fun x18 =>
      bindP (stepM ro m0 (.cnt (.c (.s s0)) (.c (.i .u8 x18)))) fun v19 m_2 =>
      asI .i64 v19 fun x19 =>
      finM m0.h.length (tupA [(.i .i64 x19)]) m_2) (
      bindO (M.loop (S := List UInt8 × Int × Mm) (R := (Int × Mm)) (fun s => g88_b0 M ro s1 s.1 s.2.1 s.2.2) (s0, 0, m0)) fun ⟨x4, m_5⟩ =>
      finM m0.h.length (tupA [(.i .i64 x4)]) m_5))

theorem g88_ok {ro : List ABlk} {O : Caller} {M : Means} (hM : M.Ok ⟨F, O⟩ ro) {s0 s1 h r} (ho : O 88 [(.s s0), (.s s1)] h = none) (hr : g88 M ro s0 s1 ⟨h, h.length, h.length⟩ = some r) : callX ⟨F, O⟩ ro 88 [(.s s0), (.s s1)] h = some r := by
  refine callX_of (F := ⟨F, O⟩) (fn := fn88) (g := g88 M ro s0 s1) ho rfl rfl hr ?_
  clear ho
  clear hr
  intro m0 t0 ht hr
  have g0 : t0.get 0 = (.s s0) := ht 0
  have g1 : t0.get 1 = (.s s1) := ht 1
  clear ht
  unfold g88 at hr
  refine w_seq ?_
  refine w_ops ?_
  refine wo_step (v := (.i .i64 0)) (s_pure (p_mv rfl)) ?_
  refine wo_nil ?_
  refine nx_norm ?_
  refine w_seq ?_
  refine w_seq ?_
  refine w_ops ?_
  refine wo_step (v := (.s s1)) (s_pure (p_mv g1)) ?_
  have hq := bindO_inv hr
  clear hr
  obtain ⟨v8, e8, hr⟩ := hq
  have hq := asI_inv hr
  clear hr
  obtain ⟨x8, rfl, hr⟩ := hq
  refine wo_step (v := (.i .i64 x8)) (s_pure (o_len rfl e8)) ?_
  have hq := forceB_inv hr
  clear hr
  obtain ⟨c9, e9, hr⟩ := hq
  refine wo_step (v := (.b c9)) (s_pure (p_bin rfl rfl (b_eql.trans (cb e9)))) ?_
  refine wo_nil ?_
  refine nx_norm ?_
  have hq := cond_inv hr
  clear hr
  rcases hq with ⟨rfl, hr⟩ | ⟨rfl, hr⟩
  · refine w_condT rfl ?_
    refine w_seq ?_
    refine w_ops ?_
    refine wo_step (v := (.s s0)) (s_pure (p_mv g0)) ?_
    have hq := bindP_inv hr
    clear hr
    obtain ⟨v11, m_1, e11, hr⟩ := hq
    have hq := asI_inv hr
    clear hr
    obtain ⟨x11, rfl, hr⟩ := hq
    refine wo_step (v := (.i .i64 x11)) (s_call (mc rfl mn) (callM_le hM.call e11)) ?_
    have hq := forceI_inv hr
    clear hr
    obtain ⟨x12, e12, hr⟩ := hq
    refine wo_step (v := (.i .i64 x12)) (s_pure (p_bin rfl rfl (b_add.trans (ci e12)))) ?_
    refine wo_step (v := (.i .i64 x12)) (s_pure (p_mv rfl)) ?_
    refine wo_nil ?_
    refine nx_norm ?_
    refine w_ret ?_
    refine nx_ret ?_
    exact qf ret_ok (rt rfl rn) hr
  · refine w_condF rfl ?_
    refine w_skip ?_
    refine nx_norm ?_
    refine w_seq ?_
    refine w_seq ?_
    refine w_ops ?_
    refine wo_step (v := (.s s1)) (s_pure (p_mv g1)) ?_
    have hq := bindO_inv hr
    clear hr
    obtain ⟨v14, e14, hr⟩ := hq
    have hq := asI_inv hr
    clear hr
    obtain ⟨x14, rfl, hr⟩ := hq
    refine wo_step (v := (.i .i64 x14)) (s_pure (o_len rfl e14)) ?_
    have hq := forceB_inv hr
    clear hr
    obtain ⟨c15, e15, hr⟩ := hq
    refine wo_step (v := (.b c15)) (s_pure (p_bin rfl rfl (b_eql.trans (cb e15)))) ?_
    refine wo_nil ?_
    refine nx_norm ?_
    have hq := cond_inv hr
    clear hr
    rcases hq with ⟨rfl, hr⟩ | ⟨rfl, hr⟩
    · refine w_condT rfl ?_
      refine w_seq ?_
      refine w_ops ?_
      refine wo_step (v := (.s s0)) (s_pure (p_mv g0)) ?_
      refine wo_step (v := (.s s1)) (s_pure (p_mv g1)) ?_
      have hq := bindO_inv hr
      clear hr
      obtain ⟨v18, e18, hr⟩ := hq
      have hq := asI_inv hr
      clear hr
      obtain ⟨x18, rfl, hr⟩ := hq
      refine wo_step (v := (.i .u8 x18)) (s_pure (o_ixStr rfl rfl e18)) ?_
      have hq := bindP_inv hr
      clear hr
      obtain ⟨v19, m_2, e19, hr⟩ := hq
      have hq := asI_inv hr
      clear hr
      obtain ⟨x19, rfl, hr⟩ := hq
      refine wo_step (v := (.i .i64 x19)) (s_cnt rfl rfl e19) ?_
      refine wo_step (v := (.i .i64 x19)) (s_pure (p_mv rfl)) ?_
      refine wo_nil ?_
      refine nx_norm ?_
      refine w_ret ?_
      refine nx_ret ?_
      exact qf ret_ok (rt rfl rn) hr
    · refine w_condF rfl ?_
      refine w_skip ?_
      refine nx_norm ?_
      refine w_seq ?_
      refine w_ops ?_
      refine wo_step (v := (.i .i64 0)) (s_pure (p_mv rfl)) ?_
      refine wo_nil ?_
      refine nx_norm ?_
      refine w_block ?_
      have hq := bindO_inv hr
      clear hr
      obtain ⟨o, hl, hr⟩ := hq
      obtain ⟨n, hl⟩ := hM.loop _ _ _ hl
      refine jp_mono (w_loop _ (g88_I0 s1) (g88_J0 s1) ?_ n _ _ _ _ hl ⟨rfl, gl g0, gl rfl, gl g1⟩) ?_
      · clear hr hl
        intro s mm_1 t_1 o hi hr
        obtain ⟨s0_1, x5, m_3⟩ := s
        obtain ⟨rfl, g0, g5, g1⟩ := hi
        unfold g88_b0 at hr
        refine w_block ?_
        refine w_seq ?_
        refine w_ops ?_
        refine wo_step (v := (.s s0_1)) (s_pure (p_mv g0)) ?_
        refine wo_step (v := (.s s1)) (s_pure (p_mv g1)) ?_
        have hq := bindP_inv hr
        clear hr
        obtain ⟨v22, m_4, e22, hr⟩ := hq
        have hq := asI_inv hr
        clear hr
        obtain ⟨x22, rfl, hr⟩ := hq
        refine wo_step (v := (.i .i64 x22)) (s_call (mc rfl (mc rfl mn)) (callM_le hM.call e22)) ?_
        refine wo_step (v := (.i .i64 x22)) (s_pure (p_mv rfl)) ?_
        refine wo_nil ?_
        refine nx_norm ?_
        refine w_seq ?_
        refine w_seq ?_
        refine w_ops ?_
        refine wo_step (v := (.i .i64 x22)) (s_pure (p_mv rfl)) ?_
        have hq := forceB_inv hr
        clear hr
        obtain ⟨c24, e24, hr⟩ := hq
        refine wo_step (v := (.b c24)) (s_pure (p_bin rfl rfl (b_eql.trans (cb e24)))) ?_
        refine wo_nil ?_
        refine nx_norm ?_
        have hq := cond_inv hr
        clear hr
        rcases hq with ⟨rfl, hr⟩ | ⟨rfl, hr⟩
        · refine w_condT rfl ?_
          refine w_seq ?_
          refine w_ops ?_
          refine wo_step (v := (.i .i64 x5)) (s_pure (p_mv g5)) ?_
          refine wo_step (v := (.i .i64 x5)) (s_pure (p_mv rfl)) ?_
          refine wo_nil ?_
          refine nx_norm ?_
          refine w_ret ?_
          refine nx_ret ?_
          refine bk_ret ?_
          cases hr
          exact ⟨_, _, rfl, ne_norm_ret, rfl, rfl, gl rfl⟩
        · refine w_condF rfl ?_
          refine w_skip ?_
          refine nx_norm ?_
          refine w_seq ?_
          refine w_ops ?_
          refine wo_step (v := (.i .i64 x5)) (s_pure (p_mv g5)) ?_
          have hq := forceI_inv hr
          clear hr
          obtain ⟨x27, e27, hr⟩ := hq
          refine wo_step (v := (.i .i64 x27)) (s_pure (p_bin rfl rfl (b_add.trans (ci e27)))) ?_
          refine wo_step (v := (.i .i64 x27)) (s_pure (p_mv rfl)) ?_
          refine wo_nil ?_
          refine nx_norm ?_
          refine w_ops ?_
          refine wo_step (v := (.s s0_1)) (s_pure (p_mv g0)) ?_
          refine wo_step (v := (.i .i64 x22)) (s_pure (p_mv rfl)) ?_
          refine wo_step (v := (.s s1)) (s_pure (p_mv g1)) ?_
          have hq := bindO_inv hr
          clear hr
          obtain ⟨v31, e31, hr⟩ := hq
          have hq := asI_inv hr
          clear hr
          obtain ⟨x31, rfl, hr⟩ := hq
          refine wo_step (v := (.i .i64 x31)) (s_pure (o_len rfl e31)) ?_
          have hq := forceI_inv hr
          clear hr
          obtain ⟨x32, e32, hr⟩ := hq
          refine wo_step (v := (.i .i64 x32)) (s_pure (p_bin rfl rfl (b_add.trans (ci e32)))) ?_
          have hq := bindO_inv hr
          clear hr
          obtain ⟨v33, e33, hr⟩ := hq
          have hq := asS_inv hr
          clear hr
          obtain ⟨s33, rfl, hr⟩ := hq
          refine wo_step (v := (.s s33)) (s_pure (o_slStr rfl (os rfl) on e33)) ?_
          refine wo_step (v := (.s s33)) (s_pure (p_mv rfl)) ?_
          refine wo_nil ?_
          refine bk_norm ?_
          cases hr
          exact ⟨_, _, rfl, rfl, rfl, gl rfl, gl rfl, gl g1⟩
      · obtain ⟨x4, m_5⟩ := o
        rintro _ mm t_2 ⟨rfl, rfl, g4⟩
        refine bk_ret ?_
        exact qf ret_ok (rt g4 rn) hr

/- dibber/vine.letter -/

def g89 (M : Means) (ro : List ABlk) (x0 : Int) (m0 : Mm) : Option (AVal × Heap × Nat × Nat) :=
  forceI (wr .u8 x0) fun x4 =>
  forceI (wr .u8 (97 + x4)) fun x5 =>
  bindP (stepM ro m0 (.bsl 5 1 [(AVal.i IntKind.u8 0)] 1 [((0, 1), .c (.i .u8 x5))])) fun v6 m_1 =>
  bindO (btsM ro m_1 v6) fun v7 =>
  asS v7 fun s7 =>
  finM m0.h.length (tupA [(.s s7)]) m_1

theorem g89_ok {ro : List ABlk} {O : Caller} {M : Means} (hM : M.Ok ⟨F, O⟩ ro) {x0 h r} (ho : O 89 [(.i .i64 x0)] h = none) (hr : g89 M ro x0 ⟨h, h.length, h.length⟩ = some r) : callX ⟨F, O⟩ ro 89 [(.i .i64 x0)] h = some r := by
  refine callX_of (F := ⟨F, O⟩) (fn := fn89) (g := g89 M ro x0) ho rfl rfl hr ?_
  clear ho
  clear hr
  intro m0 t0 ht hr
  have g0 : t0.get 0 = (.i .i64 x0) := ht 0
  clear ht
  unfold g89 at hr
  refine w_seq ?_
  refine w_ops ?_
  refine wo_step (v := (AVal.s [])) (s_pure (p_mv rfl)) ?_
  refine wo_nil ?_
  refine nx_norm ?_
  refine w_seq ?_
  refine w_ops ?_
  refine wo_step (v := (.i .i64 x0)) (s_pure (p_mv g0)) ?_
  have hq := forceI_inv hr
  clear hr
  obtain ⟨x4, e4, hr⟩ := hq
  refine wo_step (v := (.i .u8 x4)) (s_pure ((p_conv rfl).trans (ci e4))) ?_
  have hq := forceI_inv hr
  clear hr
  obtain ⟨x5, e5, hr⟩ := hq
  refine wo_step (v := (.i .u8 x5)) (s_pure (p_bin rfl rfl (b_add.trans (ci e5)))) ?_
  have hq := bindP_inv hr
  clear hr
  obtain ⟨v6, m_1, e6, hr⟩ := hq
  refine wo_step (v := v6) (s_bsl (qc rfl qn) e6) ?_
  have hq := bindO_inv hr
  clear hr
  obtain ⟨v7, e7, hr⟩ := hq
  have hq := asS_inv hr
  clear hr
  obtain ⟨s7, rfl, hr⟩ := hq
  refine wo_step (v := (.s s7)) (s_bts rfl e7) ?_
  refine wo_step (v := (.s s7)) (s_pure (p_mv rfl)) ?_
  refine wo_nil ?_
  refine nx_norm ?_
  refine w_ret ?_
  exact qf ret_ok (rt rfl rn) hr

/- (dibber/vine.rules).from-1 -/

def g90 (M : Means) (ro : List ABlk) (v0 : AVal) (v1 : AVal) (v2 : AVal) (v3 : AVal) (v4 : AVal) (m0 : Mm) : Option (AVal × Heap × Nat × Nat) :=
  bindP (stepM ro m0 (.bx 118 1 (.c v0))) fun v5 m_1 =>
  bindO (ldM ro m_1 true 1 v1) fun v8 =>
  asI .u64 v8 fun x8 =>
  bindP (stepM ro m_1 (.al 61 [(AVal.i IntKind.u64 0)])) fun v6 m_2 =>
  bindP (stepM ro m_2 (.st 1 (.c v6) (.c (.i .u64 x8)))) fun vn m_3 =>
  bindP (stepM ro m_3 (.al 119 [AVal.nfn])) fun v7 m_4 =>
  bindO (some (AVal.fn 91 [] [v2, v6, v5, v7, v3])) fun v9 =>
  bindP (stepM ro m_4 (.st 1 (.c v7) (.c v9))) fun vn_1 m_5 =>
  bindO (ldM ro m_5 true 1 v7) fun v10 =>
  bindO (ldM ro m_5 true 1 v4) fun v11 =>
  asS v11 fun s11 =>
  bindO (ldM ro m_5 true 1 v2) fun v12 =>
  bindO (evP .e (.len false (.c v12))) fun v13 =>
  asI .i64 v13 fun x13 =>
  forceI (wr .i64 (x13 - 1)) fun x14 =>
  bindP (callyM M.call M.round m_5 v10 [(.s s11), (.i .i64 x14)]) fun v15 m_6 =>
  asB v15 fun c15 =>
  finM m0.h.length (tupA []) m_6

theorem g90_ok {ro : List ABlk} {O : Caller} {M : Means} (hM : M.Ok ⟨F, O⟩ ro) {v0 v1 v2 v3 v4 h r} (ho : O 90 [v0, v1, v2, v3, v4] h = none) (hr : g90 M ro v0 v1 v2 v3 v4 ⟨h, h.length, h.length⟩ = some r) : callX ⟨F, O⟩ ro 90 [v0, v1, v2, v3, v4] h = some r := by
  refine callX_of (F := ⟨F, O⟩) (fn := fn90) (g := g90 M ro v0 v1 v2 v3 v4) ho rfl rfl hr ?_
  clear ho
  clear hr
  intro m0 t0 ht hr
  have g0 : t0.get 0 = v0 := ht 0
  have g1 : t0.get 1 = v1 := ht 1
  have g2 : t0.get 2 = v2 := ht 2
  have g3 : t0.get 3 = v3 := ht 3
  have g4 : t0.get 4 = v4 := ht 4
  clear ht
  unfold g90 at hr
  refine w_seq ?_
  refine w_ops ?_
  have hq := bindP_inv hr
  clear hr
  obtain ⟨v5, m_1, e5, hr⟩ := hq
  refine wo_step (v := v5) (s_bx g0 e5) ?_
  refine wo_nil ?_
  refine nx_norm ?_
  refine w_seq ?_
  refine w_ops ?_
  have hq := bindO_inv hr
  clear hr
  obtain ⟨v8, e8, hr⟩ := hq
  have hq := asI_inv hr
  clear hr
  obtain ⟨x8, rfl, hr⟩ := hq
  refine wo_step (v := (.i .u64 x8)) (s_ld g1 e8) ?_
  have hq := bindP_inv hr
  clear hr
  obtain ⟨v6, m_2, e6, hr⟩ := hq
  refine wo_step (v := v6) (s_al e6) ?_
  have hq := bindP_inv hr
  clear hr
  obtain ⟨vn, m_3, en, hr⟩ := hq
  refine wo_stepN (s_st rfl rfl en) ?_
  refine wo_nil ?_
  refine nx_norm ?_
  refine w_seq ?_
  refine w_ops ?_
  have hq := bindP_inv hr
  clear hr
  obtain ⟨v7, m_4, e7, hr⟩ := hq
  refine wo_step (v := v7) (s_al e7) ?_
  refine wo_nil ?_
  refine nx_norm ?_
  refine w_seq ?_
  refine w_ops ?_
  have hq := bindO_inv hr
  clear hr
  obtain ⟨v9, e9, hr⟩ := hq
  refine wo_step (v := v9) (s_pure (Eq.trans (o_mkfn mn (mc g2 (mc rfl (mc rfl (mc rfl (mc g3 mn)))))) e9)) ?_
  have hq := bindP_inv hr
  clear hr
  obtain ⟨vn_1, m_5, en_1, hr⟩ := hq
  refine wo_stepN (s_st rfl rfl en_1) ?_
  refine wo_nil ?_
  refine nx_norm ?_
  refine w_opsY ?_
  have hq := bindO_inv hr
  clear hr
  obtain ⟨v10, e10, hr⟩ := hq
  refine wy_step (v := v10) (y_C (s_ld rfl e10)) ?_
  have hq := bindO_inv hr
  clear hr
  obtain ⟨v11, e11, hr⟩ := hq
  have hq := asS_inv hr
  clear hr
  obtain ⟨s11, rfl, hr⟩ := hq
  refine wy_step (v := (.s s11)) (y_C (s_ld g4 e11)) ?_
  have hq := bindO_inv hr
  clear hr
  obtain ⟨v12, e12, hr⟩ := hq
  refine wy_step (v := v12) (y_C (s_ld g2 e12)) ?_
  have hq := bindO_inv hr
  clear hr
  obtain ⟨v13, e13, hr⟩ := hq
  have hq := asI_inv hr
  clear hr
  obtain ⟨x13, rfl, hr⟩ := hq
  refine wy_step (v := (.i .i64 x13)) (y_C (s_pure (o_len rfl e13))) ?_
  have hq := forceI_inv hr
  clear hr
  obtain ⟨x14, e14, hr⟩ := hq
  refine wy_step (v := (.i .i64 x14)) (y_C (s_pure (p_bin rfl rfl (b_sub.trans (ci e14))))) ?_
  have hq := bindP_inv hr
  clear hr
  obtain ⟨v15, m_6, e15, hr⟩ := hq
  have hq := asB_inv hr
  clear hr
  obtain ⟨c15, rfl, hr⟩ := hq
  refine wy_step (v := (.b c15)) (y_callv rfl (mc rfl (mc rfl mn)) (callyM_le hM.call hM.round e15)) ?_
  refine wy_nil ?_
  exact qf norm_ok rn hr

/- (dibber/vine.rules).from-1-1 -/
abbrev g91_I0 (s0 : List UInt8) (x1 : Int) (v2 : AVal) (v3 : AVal) (v4 : AVal) (v5 : AVal) (v6 : AVal) (x14 : Int) (s : Int × Mm) (m1 : Mm) (t1 : Tr) : Prop :=
  match s with
  | (x15, m_1) => m_1 = m1 ∧ t1.get 15 = (.i .i64 x15) ∧ t1.get 0 = (.s s0) ∧ t1.get 1 = (.i .i64 x1) ∧ t1.get 2 = v2 ∧ t1.get 3 = v3 ∧ t1.get 4 = v4 ∧ t1.get 5 = v5 ∧ t1.get 6 = v6 ∧ t1.get 14 = (.i .i64 x14)
abbrev g91_J0 (s0 : List UInt8) (x1 : Int) (v2 : AVal) (v3 : AVal) (v4 : AVal) (v5 : AVal) (v6 : AVal) (x14 : Int) (o : (Mm ⊕ (Bool × Mm))) (e : AExit) (m1 : Mm) (t1 : Tr) : Prop :=
  match o with
  | (.inl mo) => e = (.exit 0) ∧ mo = m1
  | (.inr (y9, mo)) => e = .ret ∧ mo = m1 ∧ t1.get 9 = (.b y9)
abbrev g91_J1 (s0 : List UInt8) (x1 : Int) (v2 : AVal) (v3 : AVal) (v4 : AVal) (v5 : AVal) (v6 : AVal) (x14 : Int) (x15 : Int) (o : (Mm ⊕ (Bool × Mm))) (e : AExit) (m1 : Mm) (t1 : Tr) : Prop :=
  match o with
  | (.inl mo) => e = .norm ∧ mo = m1 ∧ t1.get 0 = (.s s0) ∧ t1.get 1 = (.i .i64 x1) ∧ t1.get 2 = v2 ∧ t1.get 3 = v3 ∧ t1.get 4 = v4 ∧ t1.get 5 = v5 ∧ t1.get 6 = v6 ∧ t1.get 14 = (.i .i64 x14) ∧ t1.get 15 = (.i .i64 x15)
  | (.inr (y9, mo)) => e = .ret ∧ mo = m1 ∧ t1.get 9 = (.b y9)
abbrev g91_J2 (s0 : List UInt8) (x1 : Int) (v2 : AVal) (v3 : AVal) (v4 : AVal) (v5 : AVal) (v6 : AVal) (x14 : Int) (x15 : Int) (o : (Mm ⊕ (Bool × Mm))) (e : AExit) (m1 : Mm) (t1 : Tr) : Prop :=
  match o with
  | (.inl mo) => e = .norm ∧ mo = m1 ∧ t1.get 0 = (.s s0) ∧ t1.get 1 = (.i .i64 x1) ∧ t1.get 2 = v2 ∧ t1.get 3 = v3 ∧ t1.get 4 = v4 ∧ t1.get 5 = v5 ∧ t1.get 6 = v6 ∧ t1.get 14 = (.i .i64 x14) ∧ t1.get 15 = (.i .i64 x15)
  | (.inr (y9, mo)) => e = .ret ∧ mo = m1 ∧ t1.get 9 = (.b y9)
def g91_b0 (M : Means) (ro : List ABlk) (s0 : List UInt8) (x1 : Int) (v2 : AVal) (v3 : AVal) (v4 : AVal) (v5 : AVal) (v6 : AVal) (x14 : Int) (x15 : Int) (m_1 : Mm) : Option ((Int × Mm) ⊕ ((Mm ⊕ (Bool × Mm)))) :=
  forceB (ltI x15 x14) fun c16 =>
  cond c16 (
    bindO (evP .e (.ixStr (.c (.s s0)) (.c (.i .i64 x15)))) fun v20 =>
    asI .u8 v20 fun x20 =>
    bindP (callM M.call m_1 54 [(.i .u8 x20)]) fun v21 m_2 =>
    asI .i64 v21 fun x21 =>
    bindO (ldM ro m_2 true 1 v2) fun v22 =>
    bindO (evP .e (.ixS 1 (.c v22) (.c (.i .i64 x1)))) fun v24 =>
    bindO (ldM ro m_2 true 1 v24) fun v25 =>
    bindO (evP .e (.ixS 1 (.c v25) (.c (.i .i64 x21)))) fun v27 =>
    bindO (ldM ro m_2 true 1 v27) fun v28 =>
    asI .u64 v28 fun x28 =>
    bindO (ldM ro m_2 true 1 v3) fun v30 =>
    asI .u64 v30 fun x30 =>
    forceB (!ltI x30 x28) fun c31 =>
    bindO (α := (Mm ⊕ (Bool × Mm))) (
      cond c31 (
        bindO (ldM ro m_2 true 1 v3) fun v32 =>
        asI .u64 v32 fun x32 =>
        forceI (wr .u64 (x32 - x28)) fun x34 =>
        bindP (stepM ro m_2 (.st 1 (.c v3) (.c (.i .u64 x34)))) fun vn m_3 =>
        some (.inl m_3)) (
        forceB (eqI x1 0) fun c36 =>
        bindO (α := (Mm ⊕ (Bool × Mm))) (
          cond c36 (
            bindO (evP .e (.ixStr (.c (.s s0)) (.c (.i .i64 x15)))) fun v40 =>
            asI .u8 v40 fun x40 =>
            bindO (ldM ro m_2 true 1 v4) fun v37 =>
            bindP (callyM M.call M.round m_2 v37 [(.i .u8 x40)]) fun v41 m_4 =>
            asB v41 fun c41 =>
            forceB (!c41) fun c42 =>
            cond c42 (
              some (.inr (false, m_4))) (
              some (.inl m_4))) (
            bindO (some (Mm.base m_2)) fun m_5 =>
            bindO (ldM ro m_5 true 1 v5) fun v43 =>
            bindO (ldM ro m_5 true 1 v6) fun v44 =>
            bindO (evP .e (.ixS 1 (.c v44) (.c (.i .i64 x21)))) fun v46 =>
            bindO (ldM ro m_5 true 1 v46) fun v47 =>
            asS v47 fun s47 =>
            forceI (wr .i64 (x1 - 1)) fun x49 =>
            bindP (callvM M.call m_5 v43 [(.s s47), (.i .i64 x49)]) fun v50 m_6 =>
            asB v50 fun c50 =>
            forceB (!c50) fun c51 =>
            bindO (some (Mm.join m_2 m_6)) fun m_7 =>
            cond c51 (
              some (.inr (false, m_7))) (
              some (.inl m_7)))) fun o_1 => match o_1 with
        | (.inl m_8) =>
          some (.inl m_8)
        | (.inr (c9, m_9)) =>
          some (.inr (c9, m_9)))) fun o => match o with
    | (.inl m_10) =>
      forceI (wr .i64 (x15 + 1)) fun x52 =>
      some (.inl (x52, m_10))
    | (.inr (c9_1, m_11)) =>
      some (.inr (.inr (c9_1, m_11)))) (
    some (.inr (.inl m_1)))
def g91 (M : Means) (ro : List ABlk) (s0 : List UInt8) (x1 : Int) (v2 : AVal) (v3 : AVal) (v4 : AVal) (v5 : AVal) (v6 : AVal) (m0 : Mm) : Option (AVal × Heap × Nat × Nat) :=
  bindO (evP .e (.len true (.c (.s s0)))) fun v14 =>
  asI .i64 v14 fun x14 =>
  bindO (M.loop (S := Int × Mm) (R := (Mm ⊕ (Bool × Mm))) (fun s => g91_b0 M ro s0 x1 v2 v3 v4 v5 v6 x14 s.1 s.2) (0, m0)) fun o_2 => match o_2 with
  | (.inl m_12) =>
    finM m0.h.length (tupA [(.b true)]) m_12
  | (.inr (c9_2, m_13)) =>
    finM m0.h.length (tupA [(.b c9_2)]) m_13

theorem g91_ok {ro : List ABlk} {O : Caller} {M : Means} (hM : M.Ok ⟨F, O⟩ ro) {s0 x1 v2 v3 v4 v5 v6 h r} (ho : O 91 [(.s s0), (.i .i64 x1), v2, v3, v4, v5, v6] h = none) (hr : g91 M ro s0 x1 v2 v3 v4 v5 v6 ⟨h, h.length, h.length⟩ = some r) : callX ⟨F, O⟩ ro 91 [(.s s0), (.i .i64 x1), v2, v3, v4, v5, v6] h = some r := by
  refine callX_of (F := ⟨F, O⟩) (fn := fn91) (g := g91 M ro s0 x1 v2 v3 v4 v5 v6) ho rfl rfl hr ?_
  clear ho
  clear hr
  intro m0 t0 ht hr
  have g0 : t0.get 0 = (.s s0) := ht 0
  have g1 : t0.get 1 = (.i .i64 x1) := ht 1
  have g2 : t0.get 2 = v2 := ht 2
  have g3 : t0.get 3 = v3 := ht 3
  have g4 : t0.get 4 = v4 := ht 4
  have g5 : t0.get 5 = v5 := ht 5
  have g6 : t0.get 6 = v6 := ht 6
  clear ht
  unfold g91 at hr
  refine w_seq ?_
  refine w_ops ?_
  refine wo_step (v := (.b false)) (s_pure (p_mv rfl)) ?_
  refine wo_nil ?_
  refine nx_norm ?_
  refine w_seq ?_
  refine w_seq ?_
  refine w_ops ?_
  refine wo_step (v := (.s s0)) (s_pure (p_mv g0)) ?_
  have hq := bindO_inv hr
  clear hr
  obtain ⟨v14, e14, hr⟩ := hq
  have hq := asI_inv hr
  clear hr
  obtain ⟨x14, rfl, hr⟩ := hq
  refine wo_step (v := (.i .i64 x14)) (s_pure (o_len rfl e14)) ?_
  refine wo_step (v := (.i .i64 0)) (s_pure (p_mv rfl)) ?_
  refine wo_nil ?_
  refine nx_norm ?_
  refine w_block ?_
  have hq := bindO_inv hr
  clear hr
  obtain ⟨o_2, hl, hr⟩ := hq
  obtain ⟨n, hl⟩ := hM.loop _ _ _ hl
  refine jp_mono (w_loop _ (g91_I0 s0 x1 v2 v3 v4 v5 v6 x14) (g91_J0 s0 x1 v2 v3 v4 v5 v6 x14) ?_ n _ _ _ _ hl ⟨rfl, gl rfl, gl g0, gl g1, gl g2, gl g3, gl g4, gl g5, gl g6, gl rfl⟩) ?_
  · clear hr hl
    intro s mm_6 t_1 o hi hr
    obtain ⟨x15, m_1⟩ := s
    obtain ⟨rfl, g15, g0, g1, g2, g3, g4, g5, g6, g14⟩ := hi
    unfold g91_b0 at hr
    refine w_seq ?_
    refine w_ops ?_
    have hq := forceB_inv hr
    clear hr
    obtain ⟨c16, e16, hr⟩ := hq
    refine wo_step (v := (.b c16)) (s_pure (p_bin g15 g14 (b_lss.trans (cb e16)))) ?_
    refine wo_nil ?_
    refine nx_norm ?_
    refine w_seq ?_
    have hq := cond_inv hr
    clear hr
    rcases hq with ⟨rfl, hr⟩ | ⟨rfl, hr⟩
    · refine w_condT rfl ?_
      refine w_skip ?_
      refine nx_norm ?_
      refine w_seq ?_
      refine w_block ?_
      refine w_seq ?_
      refine w_ops ?_
      refine wo_step (v := (.i .i64 x15)) (s_pure (p_mv g15)) ?_
      refine wo_step (v := (.i .i64 x15)) (s_pure (p_mv rfl)) ?_
      refine wo_nil ?_
      refine nx_norm ?_
      refine w_seq ?_
      refine w_ops ?_
      refine wo_step (v := (.s s0)) (s_pure (p_mv g0)) ?_
      refine wo_step (v := (.i .i64 x15)) (s_pure (p_mv rfl)) ?_
      have hq := bindO_inv hr
      clear hr
      obtain ⟨v20, e20, hr⟩ := hq
      have hq := asI_inv hr
      clear hr
      obtain ⟨x20, rfl, hr⟩ := hq
      refine wo_step (v := (.i .u8 x20)) (s_pure (o_ixStr rfl rfl e20)) ?_
      have hq := bindP_inv hr
      clear hr
      obtain ⟨v21, m_2, e21, hr⟩ := hq
      have hq := asI_inv hr
      clear hr
      obtain ⟨x21, rfl, hr⟩ := hq
      refine wo_step (v := (.i .i64 x21)) (s_call (mc rfl mn) (callM_le hM.call e21)) ?_
      refine wo_step (v := (.i .i64 x21)) (s_pure (p_mv rfl)) ?_
      refine wo_nil ?_
      refine nx_norm ?_
      refine w_seq ?_
      refine w_ops ?_
      have hq := bindO_inv hr
      clear hr
      obtain ⟨v22, e22, hr⟩ := hq
      refine wo_step (v := v22) (s_ld g2 e22) ?_
      refine wo_step (v := (.i .i64 x1)) (s_pure (p_mv g1)) ?_
      have hq := bindO_inv hr
      clear hr
      obtain ⟨v24, e24, hr⟩ := hq
      refine wo_step (v := v24) (s_pure (o_ixS rfl rfl e24)) ?_
      have hq := bindO_inv hr
      clear hr
      obtain ⟨v25, e25, hr⟩ := hq
      refine wo_step (v := v25) (s_ld rfl e25) ?_
      refine wo_step (v := (.i .i64 x21)) (s_pure (p_mv rfl)) ?_
      have hq := bindO_inv hr
      clear hr
      obtain ⟨v27, e27, hr⟩ := hq
      refine wo_step (v := v27) (s_pure (o_ixS rfl rfl e27)) ?_
      have hq := bindO_inv hr
      clear hr
      obtain ⟨v28, e28, hr⟩ := hq
      have hq := asI_inv hr
      clear hr
      obtain ⟨x28, rfl, hr⟩ := hq
      refine wo_step (v := (.i .u64 x28)) (s_ld rfl e28) ?_
      refine wo_step (v := (.i .u64 x28)) (s_pure (p_mv rfl)) ?_
      refine wo_nil ?_
      refine nx_norm ?_
      refine w_seq ?_
      refine w_ops ?_
      refine wo_step (v := (.i .u64 x28)) (s_pure (p_mv rfl)) ?_
      have hq := bindO_inv hr
      clear hr
      obtain ⟨v30, e30, hr⟩ := hq
      have hq := asI_inv hr
      clear hr
      obtain ⟨x30, rfl, hr⟩ := hq
      refine wo_step (v := (.i .u64 x30)) (s_ld g3 e30) ?_
      have hq := forceB_inv hr
      clear hr
      obtain ⟨c31, e31, hr⟩ := hq
      refine wo_step (v := (.b c31)) (s_pure (p_bin rfl rfl (b_leq.trans (cb e31)))) ?_
      refine wo_nil ?_
      refine nx_norm ?_
      have hq := bindO_inv hr
      clear hr
      obtain ⟨o, hr, hk⟩ := hq
      refine jp_mono (J := g91_J1 s0 x1 v2 v3 v4 v5 v6 x14 x15 o) ?_ ?_
      · clear hk
        have hq := cond_inv hr
        clear hr
        rcases hq with ⟨rfl, hr⟩ | ⟨rfl, hr⟩
        · refine w_condT rfl ?_
          refine w_ops ?_
          have hq := bindO_inv hr
          clear hr
          obtain ⟨v32, e32, hr⟩ := hq
          have hq := asI_inv hr
          clear hr
          obtain ⟨x32, rfl, hr⟩ := hq
          refine wo_step (v := (.i .u64 x32)) (s_ld g3 e32) ?_
          refine wo_step (v := (.i .u64 x28)) (s_pure (p_mv rfl)) ?_
          have hq := forceI_inv hr
          clear hr
          obtain ⟨x34, e34, hr⟩ := hq
          refine wo_step (v := (.i .u64 x34)) (s_pure (p_bin rfl rfl (b_sub.trans (ci e34)))) ?_
          have hq := bindP_inv hr
          clear hr
          obtain ⟨vn, m_3, en, hr⟩ := hq
          refine wo_stepN (s_st g3 rfl en) ?_
          refine wo_nil ?_
          cases hr
          exact ⟨_, _, rfl, rfl, rfl, gl g0, gl g1, gl g2, gl g3, gl g4, gl g5, gl g6, gl g14, gl g15⟩
        · refine w_condF rfl ?_
          refine w_seq ?_
          refine w_ops ?_
          refine wo_step (v := (.i .i64 x1)) (s_pure (p_mv g1)) ?_
          have hq := forceB_inv hr
          clear hr
          obtain ⟨c36, e36, hr⟩ := hq
          refine wo_step (v := (.b c36)) (s_pure (p_bin rfl rfl (b_eql.trans (cb e36)))) ?_
          refine wo_nil ?_
          refine nx_norm ?_
          have hq := bindO_inv hr
          clear hr
          obtain ⟨o_1, hr, hk⟩ := hq
          refine jp_mono (J := g91_J2 s0 x1 v2 v3 v4 v5 v6 x14 x15 o_1) ?_ ?_
          · clear hk
            have hq := cond_inv hr
            clear hr
            rcases hq with ⟨rfl, hr⟩ | ⟨rfl, hr⟩
            · refine w_condT rfl ?_
              refine w_seq ?_
              refine w_opsY ?_
              refine wy_step (v := (.s s0)) (y_C (s_pure (p_mv g0))) ?_
              refine wy_step (v := (.i .i64 x15)) (y_C (s_pure (p_mv rfl))) ?_
              have hq := bindO_inv hr
              clear hr
              obtain ⟨v40, e40, hr⟩ := hq
              have hq := asI_inv hr
              clear hr
              obtain ⟨x40, rfl, hr⟩ := hq
              refine wy_step (v := (.i .u8 x40)) (y_C (s_pure (o_ixStr rfl rfl e40))) ?_
              have hq := bindO_inv hr
              clear hr
              obtain ⟨v37, e37, hr⟩ := hq
              refine wy_step (v := v37) (y_C (s_ld g4 e37)) ?_
              have hq := bindP_inv hr
              clear hr
              obtain ⟨v41, m_4, e41, hr⟩ := hq
              have hq := asB_inv hr
              clear hr
              obtain ⟨c41, rfl, hr⟩ := hq
              refine wy_step (v := (.b c41)) (y_callv rfl (mc rfl mn) (callyM_le hM.call hM.round e41)) ?_
              have hq := forceB_inv hr
              clear hr
              obtain ⟨c42, e42, hr⟩ := hq
              refine wy_step (v := (.b c42)) (y_C (s_pure ((p_not rfl).trans (cb e42)))) ?_
              refine wy_nil ?_
              refine nx_norm ?_
              have hq := cond_inv hr
              clear hr
              rcases hq with ⟨rfl, hr⟩ | ⟨rfl, hr⟩
              · refine w_condT rfl ?_
                refine w_seq ?_
                refine w_ops ?_
                refine wo_step (v := (.b false)) (s_pure (p_mv rfl)) ?_
                refine wo_nil ?_
                refine nx_norm ?_
                refine w_ret ?_
                cases hr
                exact ⟨_, _, rfl, rfl, rfl, gl rfl⟩
              · refine w_condF rfl ?_
                refine w_skip ?_
                cases hr
                exact ⟨_, _, rfl, rfl, rfl, gl g0, gl g1, gl g2, gl g3, gl g4, gl g5, gl g6, gl g14, gl g15⟩
            · refine w_condF rfl ?_
              refine w_seq ?_
              have hq := bindO_inv hr
              clear hr
              obtain ⟨m_5, ef, hr⟩ := hq
              refine w_flt (af := false) rfl ef ?_
              have hq := bindO_inv hr
              clear hr
              obtain ⟨v43, e43, hr⟩ := hq
              refine wf_step (v := v43) (f_P rfl (s_ld g5 e43)) ?_
              have hq := bindO_inv hr
              clear hr
              obtain ⟨v44, e44, hr⟩ := hq
              refine wf_step (v := v44) (f_P rfl (s_ld g6 e44)) ?_
              refine wf_step (v := (.i .i64 x21)) (f_P rfl (s_pure (p_mv rfl))) ?_
              have hq := bindO_inv hr
              clear hr
              obtain ⟨v46, e46, hr⟩ := hq
              refine wf_step (v := v46) (f_P rfl (s_pure (o_ixS rfl rfl e46))) ?_
              have hq := bindO_inv hr
              clear hr
              obtain ⟨v47, e47, hr⟩ := hq
              have hq := asS_inv hr
              clear hr
              obtain ⟨s47, rfl, hr⟩ := hq
              refine wf_step (v := (.s s47)) (f_P rfl (s_ld rfl e47)) ?_
              refine wf_step (v := (.i .i64 x1)) (f_P rfl (s_pure (p_mv g1))) ?_
              have hq := forceI_inv hr
              clear hr
              obtain ⟨x49, e49, hr⟩ := hq
              refine wf_step (v := (.i .i64 x49)) (f_P rfl (s_pure (p_bin rfl rfl (b_sub.trans (ci e49))))) ?_
              have hq := bindP_inv hr
              clear hr
              obtain ⟨v50, m_6, e50, hr⟩ := hq
              have hq := asB_inv hr
              clear hr
              obtain ⟨c50, rfl, hr⟩ := hq
              refine wf_step (v := (.b c50)) (f_N (s_callv rfl (mc rfl (mc rfl mn)) (callvM_le hM.call e50))) ?_
              have hq := forceB_inv hr
              clear hr
              obtain ⟨c51, e51, hr⟩ := hq
              refine wf_step (v := (.b c51)) (f_P rfl (s_pure ((p_not rfl).trans (cb e51)))) ?_
              have hq := bindO_inv hr
              clear hr
              obtain ⟨m_7, ef_1, hr⟩ := hq
              refine wf_end ef_1 ?_
              refine nx_norm ?_
              have hq := cond_inv hr
              clear hr
              rcases hq with ⟨rfl, hr⟩ | ⟨rfl, hr⟩
              · refine w_condT rfl ?_
                refine w_seq ?_
                refine w_ops ?_
                refine wo_step (v := (.b false)) (s_pure (p_mv rfl)) ?_
                refine wo_nil ?_
                refine nx_norm ?_
                refine w_ret ?_
                cases hr
                exact ⟨_, _, rfl, rfl, rfl, gl rfl⟩
              · refine w_condF rfl ?_
                refine w_skip ?_
                cases hr
                exact ⟨_, _, rfl, rfl, rfl, gl g0, gl g1, gl g2, gl g3, gl g4, gl g5, gl g6, gl g14, gl g15⟩
          · clear hr
            have hr := hk
            clear hk
            rcases o_1 with o_1 | o_1
            · obtain ⟨m_8, ho⟩ : ∃ z, z = o_1 := ⟨_, rfl⟩
              subst ho
              rintro _ mm t_2 ⟨rfl, rfl, g0, g1, g2, g3, g4, g5, g6, g14, g15⟩
              cases hr
              exact ⟨_, _, rfl, rfl, rfl, gl g0, gl g1, gl g2, gl g3, gl g4, gl g5, gl g6, gl g14, gl g15⟩
            · obtain ⟨c9, m_9⟩ := o_1
              rintro _ mm_1 t_3 ⟨rfl, rfl, g9⟩
              cases hr
              exact ⟨_, _, rfl, rfl, rfl, gl g9⟩
      · clear hr
        have hr := hk
        clear hk
        rcases o with o | o
        · obtain ⟨m_10, ho⟩ : ∃ z, z = o := ⟨_, rfl⟩
          subst ho
          rintro _ mm_2 t_4 ⟨rfl, rfl, g0, g1, g2, g3, g4, g5, g6, g14, g15⟩
          refine bk_norm ?_
          refine nx_norm ?_
          refine w_ops ?_
          have hq := forceI_inv hr
          clear hr
          obtain ⟨x52, e52, hr⟩ := hq
          refine wo_step (v := (.i .i64 x52)) (s_pure (p_bin g15 rfl (b_add.trans (ci e52)))) ?_
          refine wo_step (v := (.i .i64 x52)) (s_pure (p_mv rfl)) ?_
          refine wo_nil ?_
          cases hr
          exact ⟨_, _, rfl, rfl, rfl, gl rfl, gl g0, gl g1, gl g2, gl g3, gl g4, gl g5, gl g6, gl g14⟩
        · obtain ⟨c9_1, m_11⟩ := o
          rintro _ mm_3 t_5 ⟨rfl, rfl, g9⟩
          refine bk_ret ?_
          refine nx_ret ?_
          cases hr
          exact ⟨_, _, rfl, ne_norm_ret, rfl, rfl, gl g9⟩
    · refine w_condF rfl ?_
      refine w_exit ?_
      refine nx_exit ?_
      cases hr
      exact ⟨_, _, rfl, ne_norm_exit, rfl, rfl⟩
  · rcases o_2 with o_2 | o_2
    · obtain ⟨m_12, ho⟩ : ∃ z, z = o_2 := ⟨_, rfl⟩
      subst ho
      rintro _ mm_4 t_6 ⟨rfl, rfl⟩
      refine bk_hit ?_
      refine nx_norm ?_
      refine w_seq ?_
      refine w_ops ?_
      refine wo_step (v := (.b true)) (s_pure (p_mv rfl)) ?_
      refine wo_nil ?_
      refine nx_norm ?_
      refine w_ret ?_
      exact qf ret_ok (rt rfl rn) hr
    · obtain ⟨c9_2, m_13⟩ := o_2
      rintro _ mm_5 t_7 ⟨rfl, rfl, g9⟩
      refine bk_ret ?_
      refine nx_ret ?_
      exact qf ret_ok (rt g9 rn) hr

/- (dibber/vine.rules).has -/
abbrev g92_I0 (v0 : AVal) (s1 : List UInt8) (x8 : Int) (s : Int × Mm) (m1 : Mm) (t1 : Tr) : Prop :=
  match s with
  | (x9, m_1) => m_1 = m1 ∧ t1.get 9 = (.i .i64 x9) ∧ t1.get 0 = v0 ∧ t1.get 1 = (.s s1) ∧ t1.get 8 = (.i .i64 x8)
abbrev g92_J0 (v0 : AVal) (s1 : List UInt8) (x8 : Int) (o : (Mm ⊕ (Bool × Mm))) (e : AExit) (m1 : Mm) (t1 : Tr) : Prop :=
  match o with
  | (.inl mo) => e = (.exit 0) ∧ mo = m1
  | (.inr (y4, mo)) => e = .ret ∧ mo = m1 ∧ t1.get 4 = (.b y4)
abbrev g92_J1 (v0 : AVal) (s1 : List UInt8) (x8 : Int) (x9 : Int) (m_2 : Mm) (o : Bool) (m1 : Mm) (t1 : Tr) : Prop :=
  match o with
  | c23 => m_2 = m1 ∧ t1.get 23 = (.b c23) ∧ t1.get 0 = v0 ∧ t1.get 1 = (.s s1) ∧ t1.get 8 = (.i .i64 x8) ∧ t1.get 9 = (.i .i64 x9)
def g92_b0 (M : Means) (ro : List ABlk) (v0 : AVal) (s1 : List UInt8) (x8 : Int) (x9 : Int) (m_1 : Mm) : Option ((Int × Mm) ⊕ ((Mm ⊕ (Bool × Mm)))) :=
  forceB (ltI x9 x8) fun c10 =>
  cond c10 (
    bindO (evP .e (.ixStr (.c (.s s1)) (.c (.i .i64 x9)))) fun v14 =>
    asI .u8 v14 fun x14 =>
    bindP (callM M.call m_1 54 [(.i .u8 x14)]) fun v15 m_2 =>
    asI .i64 v15 fun x15 =>
    forceB (ltI x15 0) fun c17 =>
    bindO (cond c17 (
      some true) (
      bindO (evP .e (.len false (.c v0))) fun v21 =>
      asI .i64 v21 fun x21 =>
      forceB (!ltI x15 x21) fun c22 =>
      some c22)) fun c23 =>
    cond c23 (
      some (.inr (.inr (false, m_2)))) (
      forceI (wr .i64 (x9 + 1)) fun x24 =>
      some (.inl (x24, m_2)))) (
    some (.inr (.inl m_1)))
def g92 (M : Means) (ro : List ABlk) (v0 : AVal) (s1 : List UInt8) (m0 : Mm) : Option (AVal × Heap × Nat × Nat) :=
  bindO (evP .e (.len true (.c (.s s1)))) fun v8 =>
  asI .i64 v8 fun x8 =>
  bindO (M.loop (S := Int × Mm) (R := (Mm ⊕ (Bool × Mm))) (fun s => g92_b0 M ro v0 s1 x8 s.1 s.2) (0, m0)) fun o_1 => match o_1 with
  | (.inl m_3) =>
    finM m0.h.length (tupA [(.b true)]) m_3
  | (.inr (c4, m_4)) =>
    finM m0.h.length (tupA [(.b c4)]) m_4

theorem g92_ok {ro : List ABlk} {O : Caller} {M : Means} (hM : M.Ok ⟨F, O⟩ ro) {v0 s1 h r} (ho : O 92 [v0, (.s s1)] h = none) (hr : g92 M ro v0 s1 ⟨h, h.length, h.length⟩ = some r) : callX ⟨F, O⟩ ro 92 [v0, (.s s1)] h = some r := by
  refine callX_of (F := ⟨F, O⟩) (fn := fn92) (g := g92 M ro v0 s1) ho rfl rfl hr ?_
  clear ho
  clear hr
  intro m0 t0 ht hr
  have g0 : t0.get 0 = v0 := ht 0
  have g1 : t0.get 1 = (.s s1) := ht 1
  clear ht
  unfold g92 at hr
  refine w_seq ?_
  refine w_ops ?_
  refine wo_step (v := (.b false)) (s_pure (p_mv rfl)) ?_
  refine wo_nil ?_
  refine nx_norm ?_
  refine w_seq ?_
  refine w_seq ?_
  refine w_ops ?_
  refine wo_step (v := (.s s1)) (s_pure (p_mv g1)) ?_
  have hq := bindO_inv hr
  clear hr
  obtain ⟨v8, e8, hr⟩ := hq
  have hq := asI_inv hr
  clear hr
  obtain ⟨x8, rfl, hr⟩ := hq
  refine wo_step (v := (.i .i64 x8)) (s_pure (o_len rfl e8)) ?_
  refine wo_step (v := (.i .i64 0)) (s_pure (p_mv rfl)) ?_
  refine wo_nil ?_
  refine nx_norm ?_
  refine w_block ?_
  have hq := bindO_inv hr
  clear hr
  obtain ⟨o_1, hl, hr⟩ := hq
  obtain ⟨n, hl⟩ := hM.loop _ _ _ hl
  refine jp_mono (w_loop _ (g92_I0 v0 s1 x8) (g92_J0 v0 s1 x8) ?_ n _ _ _ _ hl ⟨rfl, gl rfl, gl g0, gl g1, gl rfl⟩) ?_
  · clear hr hl
    intro s mm_3 t_1 o hi hr
    obtain ⟨x9, m_1⟩ := s
    obtain ⟨rfl, g9, g0, g1, g8⟩ := hi
    unfold g92_b0 at hr
    refine w_seq ?_
    refine w_ops ?_
    have hq := forceB_inv hr
    clear hr
    obtain ⟨c10, e10, hr⟩ := hq
    refine wo_step (v := (.b c10)) (s_pure (p_bin g9 g8 (b_lss.trans (cb e10)))) ?_
    refine wo_nil ?_
    refine nx_norm ?_
    refine w_seq ?_
    have hq := cond_inv hr
    clear hr
    rcases hq with ⟨rfl, hr⟩ | ⟨rfl, hr⟩
    · refine w_condT rfl ?_
      refine w_skip ?_
      refine nx_norm ?_
      refine w_seq ?_
      refine w_block ?_
      refine w_seq ?_
      refine w_ops ?_
      refine wo_step (v := (.i .i64 x9)) (s_pure (p_mv g9)) ?_
      refine wo_step (v := (.i .i64 x9)) (s_pure (p_mv rfl)) ?_
      refine wo_nil ?_
      refine nx_norm ?_
      refine w_seq ?_
      refine w_ops ?_
      refine wo_step (v := (.s s1)) (s_pure (p_mv g1)) ?_
      refine wo_step (v := (.i .i64 x9)) (s_pure (p_mv rfl)) ?_
      have hq := bindO_inv hr
      clear hr
      obtain ⟨v14, e14, hr⟩ := hq
      have hq := asI_inv hr
      clear hr
      obtain ⟨x14, rfl, hr⟩ := hq
      refine wo_step (v := (.i .u8 x14)) (s_pure (o_ixStr rfl rfl e14)) ?_
      have hq := bindP_inv hr
      clear hr
      obtain ⟨v15, m_2, e15, hr⟩ := hq
      have hq := asI_inv hr
      clear hr
      obtain ⟨x15, rfl, hr⟩ := hq
      refine wo_step (v := (.i .i64 x15)) (s_call (mc rfl mn) (callM_le hM.call e15)) ?_
      refine wo_step (v := (.i .i64 x15)) (s_pure (p_mv rfl)) ?_
      refine wo_nil ?_
      refine nx_norm ?_
      refine w_seq ?_
      refine w_ops ?_
      refine wo_step (v := (.i .i64 x15)) (s_pure (p_mv rfl)) ?_
      have hq := forceB_inv hr
      clear hr
      obtain ⟨c17, e17, hr⟩ := hq
      refine wo_step (v := (.b c17)) (s_pure (p_bin rfl rfl (b_lss.trans (cb e17)))) ?_
      refine wo_step (v := (.b c17)) (s_pure (p_mv rfl)) ?_
      have hq := bindO_inv hr
      clear hr
      obtain ⟨o, hr, hk⟩ := hq
      refine wo_join 5 (g92_J1 v0 s1 x8 x9 m_2 o) ?_ ?_
      · clear hk
        have hq := cond_inv hr
        clear hr
        rcases hq with ⟨rfl, hr⟩ | ⟨rfl, hr⟩
        · refine wo_skip (v := (.b true)) rfl rfl ?_
          refine wo_skip (v := (.b true)) rfl rfl ?_
          refine wo_skip (v := (.b true)) rfl rfl ?_
          refine wo_skip (v := (.b true)) rfl rfl ?_
          refine wo_step (v := (.b true)) (s_pure (p_pickT rfl rfl)) ?_
          refine wo_nil ?_
          cases hr
          exact ⟨_, _, rfl, rfl, gl rfl, gl g0, gl g1, gl g8, gl g9⟩
        · refine wo_take (v := (.i .i64 x15)) rfl (s_pure (p_mv rfl)) ?_
          refine wo_take (v := v0) rfl (s_pure (p_mv g0)) ?_
          have hq := bindO_inv hr
          clear hr
          obtain ⟨v21, e21, hr⟩ := hq
          have hq := asI_inv hr
          clear hr
          obtain ⟨x21, rfl, hr⟩ := hq
          refine wo_take (v := (.i .i64 x21)) rfl (s_pure (o_len rfl e21)) ?_
          have hq := forceB_inv hr
          clear hr
          obtain ⟨c22, e22, hr⟩ := hq
          refine wo_take (v := (.b c22)) rfl (s_pure (p_bin rfl rfl (b_geq.trans (cb e22)))) ?_
          refine wo_step (v := (.b c22)) (s_pure (p_pickF rfl rfl)) ?_
          refine wo_nil ?_
          cases hr
          exact ⟨_, _, rfl, rfl, gl rfl, gl g0, gl g1, gl g8, gl g9⟩
      · clear hr
        have hr := hk
        clear hk
        obtain ⟨c23, ho⟩ : ∃ z, z = o := ⟨_, rfl⟩
        subst ho
        rintro mm t_2 ⟨rfl, g23, g0, g1, g8, g9⟩
        refine wo_nil ?_
        refine nx_norm ?_
        have hq := cond_inv hr
        clear hr
        rcases hq with ⟨rfl, hr⟩ | ⟨rfl, hr⟩
        · refine w_condT g23 ?_
          refine w_seq ?_
          refine w_ops ?_
          refine wo_step (v := (.b false)) (s_pure (p_mv rfl)) ?_
          refine wo_nil ?_
          refine nx_norm ?_
          refine w_ret ?_
          refine bk_ret ?_
          refine nx_ret ?_
          cases hr
          exact ⟨_, _, rfl, ne_norm_ret, rfl, rfl, gl rfl⟩
        · refine w_condF g23 ?_
          refine w_skip ?_
          refine bk_norm ?_
          refine nx_norm ?_
          refine w_ops ?_
          have hq := forceI_inv hr
          clear hr
          obtain ⟨x24, e24, hr⟩ := hq
          refine wo_step (v := (.i .i64 x24)) (s_pure (p_bin g9 rfl (b_add.trans (ci e24)))) ?_
          refine wo_step (v := (.i .i64 x24)) (s_pure (p_mv rfl)) ?_
          refine wo_nil ?_
          cases hr
          exact ⟨_, _, rfl, rfl, rfl, gl rfl, gl g0, gl g1, gl g8⟩
    · refine w_condF rfl ?_
      refine w_exit ?_
      refine nx_exit ?_
      cases hr
      exact ⟨_, _, rfl, ne_norm_exit, rfl, rfl⟩
  · rcases o_1 with o_1 | o_1
    · obtain ⟨m_3, ho⟩ : ∃ z, z = o_1 := ⟨_, rfl⟩
      subst ho
      rintro _ mm_1 t_3 ⟨rfl, rfl⟩
      refine bk_hit ?_
      refine nx_norm ?_
      refine w_seq ?_
      refine w_ops ?_
      refine wo_step (v := (.b true)) (s_pure (p_mv rfl)) ?_
      refine wo_nil ?_
      refine nx_norm ?_
      refine w_ret ?_
      exact qf ret_ok (rt rfl rn) hr
    · obtain ⟨c4, m_4⟩ := o_1
      rintro _ mm_2 t_4 ⟨rfl, rfl, g4⟩
      refine bk_ret ?_
      refine nx_ret ?_
      exact qf ret_ok (rt g4 rn) hr

/- strings.CutPrefix -/

def g97 (M : Means) (ro : List ABlk) (s0 : List UInt8) (s1 : List UInt8) (m0 : Mm) : Option (AVal × Heap × Nat × Nat) :=
  bindP (callM M.call m0 102 [(.s s0), (.s s1)]) fun v8 m_1 =>
  bindO (evP .e (.ext 0 (.c v8))) fun v9 =>
  asS v9 fun s9 =>
  bindO (evP .e (.ext 1 (.c v8))) fun v10 =>
  asB v10 fun c10 =>
  finM m0.h.length (tupA [(.s s9), (.b c10)]) m_1

theorem g97_ok {ro : List ABlk} {O : Caller} {M : Means} (hM : M.Ok ⟨F, O⟩ ro) {s0 s1 h r} (ho : O 97 [(.s s0), (.s s1)] h = none) (hr : g97 M ro s0 s1 ⟨h, h.length, h.length⟩ = some r) : callX ⟨F, O⟩ ro 97 [(.s s0), (.s s1)] h = some r := by
  refine callX_of (F := ⟨F, O⟩) (fn := fn97) (g := g97 M ro s0 s1) ho rfl rfl hr ?_
  clear ho
  clear hr
  intro m0 t0 ht hr
  have g0 : t0.get 0 = (.s s0) := ht 0
  have g1 : t0.get 1 = (.s s1) := ht 1
  clear ht
  unfold g97 at hr
  refine w_seq ?_
  refine w_ops ?_
  refine wo_step (v := (AVal.s [])) (s_pure (p_mv rfl)) ?_
  refine wo_step (v := (.b false)) (s_pure (p_mv rfl)) ?_
  refine wo_nil ?_
  refine nx_norm ?_
  refine w_seq ?_
  refine w_ops ?_
  refine wo_step (v := (.s s0)) (s_pure (p_mv g0)) ?_
  refine wo_step (v := (.s s1)) (s_pure (p_mv g1)) ?_
  have hq := bindP_inv hr
  clear hr
  obtain ⟨v8, m_1, e8, hr⟩ := hq
  refine wo_step (v := v8) (s_call (mc rfl (mc rfl mn)) (callM_le hM.call e8)) ?_
  have hq := bindO_inv hr
  clear hr
  obtain ⟨v9, e9, hr⟩ := hq
  have hq := asS_inv hr
  clear hr
  obtain ⟨s9, rfl, hr⟩ := hq
  refine wo_step (v := (.s s9)) (s_pure (o_ext rfl e9)) ?_
  have hq := bindO_inv hr
  clear hr
  obtain ⟨v10, e10, hr⟩ := hq
  have hq := asB_inv hr
  clear hr
  obtain ⟨c10, rfl, hr⟩ := hq
  refine wo_step (v := (.b c10)) (s_pure (o_ext rfl e10)) ?_
  refine wo_step (v := (.s s9)) (s_pure (p_mv rfl)) ?_
  refine wo_step (v := (.b c10)) (s_pure (p_mv rfl)) ?_
  refine wo_nil ?_
  refine nx_norm ?_
  refine w_ret ?_
  exact qf ret_ok (rt rfl (rt rfl rn)) hr

/- (dibber/vine.rules).endless-1 -/
abbrev g98_I0 (v0 : AVal) (v1 : AVal) (s : AVal × Int × Mm) (m1 : Mm) (t1 : Tr) : Prop :=
  match s with
  | (v4, x5, m_2) => m_2 = m1 ∧ t1.get 4 = v4 ∧ t1.get 5 = (.i .i64 x5) ∧ t1.get 0 = v0 ∧ t1.get 1 = v1
abbrev g98_J0 (v0 : AVal) (v1 : AVal) (o : (Mm ⊕ Mm)) (e : AExit) (m1 : Mm) (t1 : Tr) : Prop :=
  match o with
  | (.inl mo) => e = (.exit 0) ∧ mo = m1
  | (.inr mo) => e = .ret ∧ mo = m1
abbrev g98_J1 (v0 : AVal) (v1 : AVal) (x5 : Int) (o : (AVal × Mm)) (e : AExit) (m1 : Mm) (t1 : Tr) : Prop :=
  match o with
  | (y4, mo) => e = .norm ∧ mo = m1 ∧ t1.get 4 = y4 ∧ t1.get 0 = v0 ∧ t1.get 1 = v1 ∧ t1.get 5 = (.i .i64 x5)
def g98_b0 (M : Means) (ro : List ABlk) (v0 : AVal) (v1 : AVal) (v4 : AVal) (x5 : Int) (m_2 : Mm) : Option ((AVal × Int × Mm) ⊕ ((Mm ⊕ Mm))) :=
  forceB (ltI x5 100000) fun c12 =>
  cond c12 (
    forceB (ltI 0 x5) fun c16 =>
    bindO (α := (AVal × Mm)) (
      cond c16 (
        bindO (some (Mm.base m_2)) fun m_3 =>
        bindO (ldA ro m_2.h true 1 v1) fun v18 =>
        bindO (evP .e (.ixS 1 (.c v4) (.c (.i .i64 x5)))) fun v21 =>
        bindO (ldM ro m_3 true 1 v21) fun v22 =>
        asI .u8 v22 fun x22 =>
        bindP (callM M.call m_3 54 [(.i .u8 x22)]) fun v23 m_4 =>
        asI .i64 v23 fun x23 =>
        chk (!Nat.blt m_4.lw m_2.h.length) <|
        bindO (evP .e (.ixS 1 (.c v18) (.c (.i .i64 x23)))) fun v24 =>
        bindO (ldM ro m_4 true 1 v24) fun v25 =>
        asS v25 fun s25 =>
        bindP (stepM ro m_4 (.app 5 1 1 [(AVal.i IntKind.u8 0)] (.c v4) (.c (.s s25)))) fun v26 m_5 =>
        bindO (some (Mm.join m_2 m_5)) fun m_6 =>
        some (v26, m_6)) (
        some (v4, m_2))) fun ⟨v4_1, m_7⟩ =>
    bindO (evP .e (.ixS 1 (.c v4_1) (.c (.i .i64 x5)))) fun v31 =>
    bindO (ldM ro m_7 true 1 v31) fun v32 =>
    asI .u8 v32 fun x32 =>
    bindP (callyM M.call M.round m_7 v0 [(.i .i64 x5), (.i .u8 x32)]) fun v33 m_8 =>
    asB v33 fun c33 =>
    forceB (!c33) fun c34 =>
    cond c34 (
      some (.inr (.inr m_8))) (
      forceI (wr .i64 (x5 + 1)) fun x14 =>
      some (.inl (v4_1, x14, m_8)))) (
    some (.inr (.inl m_2)))
def g98 (M : Means) (ro : List ABlk) (v0 : AVal) (v1 : AVal) (v2 : AVal) (m0 : Mm) : Option (AVal × Heap × Nat × Nat) :=
  bindO (ldM ro m0 true 1 v1) fun v6 =>
  bindO (ldM ro m0 true 1 v2) fun v7 =>
  asI .i64 v7 fun x7 =>
  bindO (evP .e (.ixS 1 (.c v6) (.c (.i .i64 x7)))) fun v8 =>
  bindO (ldM ro m0 true 1 v8) fun v9 =>
  asS v9 fun s9 =>
  bindP (stepM ro m0 (.stb 5 (.c (.s s9)))) fun v10 m_1 =>
  bindO (M.loop (S := AVal × Int × Mm) (R := (Mm ⊕ Mm)) (fun s => g98_b0 M ro v0 v1 s.1 s.2.1 s.2.2) (v10, 0, m_1)) fun o_1 => match o_1 with
  | (.inl m_9) =>
    finM m0.h.length (tupA []) m_9
  | (.inr m_10) =>
    finM m0.h.length (tupA []) m_10

theorem g98_ok {ro : List ABlk} {O : Caller} {M : Means} (hM : M.Ok ⟨F, O⟩ ro) {v0 v1 v2 h r} (ho : O 98 [v0, v1, v2] h = none) (hr : g98 M ro v0 v1 v2 ⟨h, h.length, h.length⟩ = some r) : callX ⟨F, O⟩ ro 98 [v0, v1, v2] h = some r := by
  refine callX_of (F := ⟨F, O⟩) (fn := fn98) (g := g98 M ro v0 v1 v2) ho rfl rfl hr ?_
  clear ho
  clear hr
  intro m0 t0 ht hr
  have g0 : t0.get 0 = v0 := ht 0
  have g1 : t0.get 1 = v1 := ht 1
  have g2 : t0.get 2 = v2 := ht 2
  clear ht
  unfold g98 at hr
  refine w_seq ?_
  refine w_ops ?_
  have hq := bindO_inv hr
  clear hr
  obtain ⟨v6, e6, hr⟩ := hq
  refine wo_step (v := v6) (s_ld g1 e6) ?_
  have hq := bindO_inv hr
  clear hr
  obtain ⟨v7, e7, hr⟩ := hq
  have hq := asI_inv hr
  clear hr
  obtain ⟨x7, rfl, hr⟩ := hq
  refine wo_step (v := (.i .i64 x7)) (s_ld g2 e7) ?_
  have hq := bindO_inv hr
  clear hr
  obtain ⟨v8, e8, hr⟩ := hq
  refine wo_step (v := v8) (s_pure (o_ixS rfl rfl e8)) ?_
  have hq := bindO_inv hr
  clear hr
  obtain ⟨v9, e9, hr⟩ := hq
  have hq := asS_inv hr
  clear hr
  obtain ⟨s9, rfl, hr⟩ := hq
  refine wo_step (v := (.s s9)) (s_ld rfl e9) ?_
  have hq := bindP_inv hr
  clear hr
  obtain ⟨v10, m_1, e10, hr⟩ := hq
  refine wo_step (v := v10) (s_stb rfl e10) ?_
  refine wo_step (v := v10) (s_pure (p_mv rfl)) ?_
  refine wo_nil ?_
  refine nx_norm ?_
  refine w_seq ?_
  refine w_ops ?_
  refine wo_step (v := (.i .i64 0)) (s_pure (p_mv rfl)) ?_
  refine wo_nil ?_
  refine nx_norm ?_
  refine w_block ?_
  have hq := bindO_inv hr
  clear hr
  obtain ⟨o_1, hl, hr⟩ := hq
  obtain ⟨n, hl⟩ := hM.loop _ _ _ hl
  refine jp_mono (w_loop _ (g98_I0 v0 v1) (g98_J0 v0 v1) ?_ n _ _ _ _ hl ⟨rfl, gl rfl, gl rfl, gl g0, gl g1⟩) ?_
  · clear hr hl
    intro s mm_3 t_1 o hi hr
    obtain ⟨v4, x5, m_2⟩ := s
    obtain ⟨rfl, g4, g5, g0, g1⟩ := hi
    unfold g98_b0 at hr
    refine w_seq ?_
    refine w_seq ?_
    refine w_ops ?_
    refine wo_step (v := (.i .i64 x5)) (s_pure (p_mv g5)) ?_
    have hq := forceB_inv hr
    clear hr
    obtain ⟨c12, e12, hr⟩ := hq
    refine wo_step (v := (.b c12)) (s_pure (p_bin rfl rfl (b_lss.trans (cb e12)))) ?_
    refine wo_nil ?_
    refine nx_norm ?_
    have hq := cond_inv hr
    clear hr
    rcases hq with ⟨rfl, hr⟩ | ⟨rfl, hr⟩
    · refine w_condT rfl ?_
      refine w_skip ?_
      refine nx_norm ?_
      refine w_seq ?_
      refine w_block ?_
      refine w_seq ?_
      refine w_seq ?_
      refine w_ops ?_
      refine wo_step (v := (.i .i64 x5)) (s_pure (p_mv g5)) ?_
      have hq := forceB_inv hr
      clear hr
      obtain ⟨c16, e16, hr⟩ := hq
      refine wo_step (v := (.b c16)) (s_pure (p_bin rfl rfl (b_gtr.trans (cb e16)))) ?_
      refine wo_nil ?_
      refine nx_norm ?_
      have hq := bindO_inv hr
      clear hr
      obtain ⟨o, hr, hk⟩ := hq
      refine jp_mono (J := g98_J1 v0 v1 x5 o) ?_ ?_
      · clear hk
        have hq := cond_inv hr
        clear hr
        rcases hq with ⟨rfl, hr⟩ | ⟨rfl, hr⟩
        · refine w_condT rfl ?_
          have hq := bindO_inv hr
          clear hr
          obtain ⟨m_3, ef, hr⟩ := hq
          refine w_flt (af := true) rfl ef ?_
          refine wf_step (v := v4) (f_P rfl (s_pure (p_mv g4))) ?_
          have hq := bindO_inv hr
          clear hr
          obtain ⟨v18, e18, hr⟩ := hq
          refine wf_step (v := v18) (f_ld g1 e18) ?_
          refine wf_step (v := v4) (f_P rfl (s_pure (p_mv g4))) ?_
          refine wf_step (v := (.i .i64 x5)) (f_P rfl (s_pure (p_mv g5))) ?_
          have hq := bindO_inv hr
          clear hr
          obtain ⟨v21, e21, hr⟩ := hq
          refine wf_step (v := v21) (f_P rfl (s_pure (o_ixS rfl rfl e21))) ?_
          have hq := bindO_inv hr
          clear hr
          obtain ⟨v22, e22, hr⟩ := hq
          have hq := asI_inv hr
          clear hr
          obtain ⟨x22, rfl, hr⟩ := hq
          refine wf_step (v := (.i .u8 x22)) (f_P rfl (s_ld rfl e22)) ?_
          have hq := bindP_inv hr
          clear hr
          obtain ⟨v23, m_4, e23, hr⟩ := hq
          have hq := asI_inv hr
          clear hr
          obtain ⟨x23, rfl, hr⟩ := hq
          have hq := chk_inv hr
          clear hr
          obtain ⟨hc23, hr⟩ := hq
          refine wf_step (v := (.i .i64 x23)) (f_M hc23 (s_call (mc rfl mn) (callM_le hM.call e23))) ?_
          have hq := bindO_inv hr
          clear hr
          obtain ⟨v24, e24, hr⟩ := hq
          refine wf_step (v := v24) (f_P rfl (s_pure (o_ixS rfl rfl e24))) ?_
          have hq := bindO_inv hr
          clear hr
          obtain ⟨v25, e25, hr⟩ := hq
          have hq := asS_inv hr
          clear hr
          obtain ⟨s25, rfl, hr⟩ := hq
          refine wf_step (v := (.s s25)) (f_P rfl (s_ld rfl e25)) ?_
          have hq := bindP_inv hr
          clear hr
          obtain ⟨v26, m_5, e26, hr⟩ := hq
          refine wf_step (v := v26) (f_F rfl (s_app rfl rfl e26)) ?_
          refine wf_step (v := v26) (f_P rfl (s_pure (p_mv rfl))) ?_
          have hq := bindO_inv hr
          clear hr
          obtain ⟨m_6, ef_1, hr⟩ := hq
          refine wf_end ef_1 ?_
          cases hr
          exact ⟨_, _, rfl, rfl, rfl, gl rfl, gl g0, gl g1, gl g5⟩
        · refine w_condF rfl ?_
          refine w_skip ?_
          cases hr
          exact ⟨_, _, rfl, rfl, rfl, gl g4, gl g0, gl g1, gl g5⟩
      · clear hr
        have hr := hk
        clear hk
        obtain ⟨v4_1, m_7⟩ := o
        rintro _ mm t_2 ⟨rfl, rfl, g4, g0, g1, g5⟩
        refine nx_norm ?_
        refine w_seq ?_
        refine w_opsY ?_
        refine wy_step (v := v0) (y_C (s_pure (p_mv g0))) ?_
        refine wy_step (v := (.i .i64 x5)) (y_C (s_pure (p_mv g5))) ?_
        refine wy_step (v := v4_1) (y_C (s_pure (p_mv g4))) ?_
        refine wy_step (v := (.i .i64 x5)) (y_C (s_pure (p_mv g5))) ?_
        have hq := bindO_inv hr
        clear hr
        obtain ⟨v31, e31, hr⟩ := hq
        refine wy_step (v := v31) (y_C (s_pure (o_ixS rfl rfl e31))) ?_
        have hq := bindO_inv hr
        clear hr
        obtain ⟨v32, e32, hr⟩ := hq
        have hq := asI_inv hr
        clear hr
        obtain ⟨x32, rfl, hr⟩ := hq
        refine wy_step (v := (.i .u8 x32)) (y_C (s_ld rfl e32)) ?_
        have hq := bindP_inv hr
        clear hr
        obtain ⟨v33, m_8, e33, hr⟩ := hq
        have hq := asB_inv hr
        clear hr
        obtain ⟨c33, rfl, hr⟩ := hq
        refine wy_step (v := (.b c33)) (y_callv rfl (mc rfl (mc rfl mn)) (callyM_le hM.call hM.round e33)) ?_
        have hq := forceB_inv hr
        clear hr
        obtain ⟨c34, e34, hr⟩ := hq
        refine wy_step (v := (.b c34)) (y_C (s_pure ((p_not rfl).trans (cb e34)))) ?_
        refine wy_nil ?_
        refine nx_norm ?_
        have hq := cond_inv hr
        clear hr
        rcases hq with ⟨rfl, hr⟩ | ⟨rfl, hr⟩
        · refine w_condT rfl ?_
          refine w_ret ?_
          refine bk_ret ?_
          refine nx_ret ?_
          cases hr
          exact ⟨_, _, rfl, ne_norm_ret, rfl, rfl⟩
        · refine w_condF rfl ?_
          refine w_skip ?_
          refine bk_norm ?_
          refine nx_norm ?_
          refine w_ops ?_
          refine wo_step (v := (.i .i64 x5)) (s_pure (p_mv g5)) ?_
          have hq := forceI_inv hr
          clear hr
          obtain ⟨x14, e14, hr⟩ := hq
          refine wo_step (v := (.i .i64 x14)) (s_pure (p_bin rfl rfl (b_add.trans (ci e14)))) ?_
          refine wo_step (v := (.i .i64 x14)) (s_pure (p_mv rfl)) ?_
          refine wo_nil ?_
          cases hr
          exact ⟨_, _, rfl, rfl, rfl, gl g4, gl rfl, gl g0, gl g1⟩
    · refine w_condF rfl ?_
      refine w_exit ?_
      refine nx_exit ?_
      cases hr
      exact ⟨_, _, rfl, ne_norm_exit, rfl, rfl⟩
  · rcases o_1 with o_1 | o_1
    · obtain ⟨m_9, ho⟩ : ∃ z, z = o_1 := ⟨_, rfl⟩
      subst ho
      rintro _ mm_1 t_3 ⟨rfl, rfl⟩
      refine bk_hit ?_
      exact qf norm_ok rn hr
    · obtain ⟨m_10, ho⟩ : ∃ z, z = o_1 := ⟨_, rfl⟩
      subst ho
      rintro _ mm_2 t_4 ⟨rfl, rfl⟩
      refine bk_ret ?_
      exact qf ret_ok rn hr

/- internal/stringslite.CutPrefix -/

def g102 (M : Means) (ro : List ABlk) (s0 : List UInt8) (s1 : List UInt8) (m0 : Mm) : Option (AVal × Heap × Nat × Nat) :=
  bindP (callM M.call m0 104 [(.s s0), (.s s1)]) fun v8 m_1 =>
  asB v8 fun c8 =>
  forceB (!c8) fun c9 =>
  cond c9 (
    finM m0.h.length (tupA [(.s s0), (.b false)]) m_1) (
    bindO (evP .e (.len true (.c (.s s1)))) fun v13 =>
    asI .i64 v13 fun x13 =>
    bindO (evP .e (.slStr (.c (.s s0)) (some (.c (.i .i64 x13))) none)) fun v14 =>
    asS v14 fun s14 =>
    finM m0.h.length (tupA [(.s s14), (.b true)]) m_1)

theorem g102_ok {ro : List ABlk} {O : Caller} {M : Means} (hM : M.Ok ⟨F, O⟩ ro) {s0 s1 h r} (ho : O 102 [(.s s0), (.s s1)] h = none) (hr : g102 M ro s0 s1 ⟨h, h.length, h.length⟩ = some r) : callX ⟨F, O⟩ ro 102 [(.s s0), (.s s1)] h = some r := by
  refine callX_of (F := ⟨F, O⟩) (fn := fn102) (g := g102 M ro s0 s1) ho rfl rfl hr ?_
  clear ho
  clear hr
  intro m0 t0 ht hr
  have g0 : t0.get 0 = (.s s0) := ht 0
  have g1 : t0.get 1 = (.s s1) := ht 1
  clear ht
  unfold g102 at hr
  refine w_seq ?_
  refine w_ops ?_
  refine wo_step (v := (AVal.s [])) (s_pure (p_mv rfl)) ?_
  refine wo_step (v := (.b false)) (s_pure (p_mv rfl)) ?_
  refine wo_nil ?_
  refine nx_norm ?_
  refine w_seq ?_
  refine w_seq ?_
  refine w_ops ?_
  refine wo_step (v := (.s s0)) (s_pure (p_mv g0)) ?_
  refine wo_step (v := (.s s1)) (s_pure (p_mv g1)) ?_
  have hq := bindP_inv hr
  clear hr
  obtain ⟨v8, m_1, e8, hr⟩ := hq
  have hq := asB_inv hr
  clear hr
  obtain ⟨c8, rfl, hr⟩ := hq
  refine wo_step (v := (.b c8)) (s_call (mc rfl (mc rfl mn)) (callM_le hM.call e8)) ?_
  have hq := forceB_inv hr
  clear hr
  obtain ⟨c9, e9, hr⟩ := hq
  refine wo_step (v := (.b c9)) (s_pure ((p_not rfl).trans (cb e9))) ?_
  refine wo_nil ?_
  refine nx_norm ?_
  have hq := cond_inv hr
  clear hr
  rcases hq with ⟨rfl, hr⟩ | ⟨rfl, hr⟩
  · refine w_condT rfl ?_
    refine w_seq ?_
    refine w_ops ?_
    refine wo_step (v := (.s s0)) (s_pure (p_mv g0)) ?_
    refine wo_step (v := (.s s0)) (s_pure (p_mv rfl)) ?_
    refine wo_step (v := (.b false)) (s_pure (p_mv rfl)) ?_
    refine wo_nil ?_
    refine nx_norm ?_
    refine w_ret ?_
    refine nx_ret ?_
    exact qf ret_ok (rt rfl (rt rfl rn)) hr
  · refine w_condF rfl ?_
    refine w_skip ?_
    refine nx_norm ?_
    refine w_seq ?_
    refine w_ops ?_
    refine wo_step (v := (.s s0)) (s_pure (p_mv g0)) ?_
    refine wo_step (v := (.s s1)) (s_pure (p_mv g1)) ?_
    have hq := bindO_inv hr
    clear hr
    obtain ⟨v13, e13, hr⟩ := hq
    have hq := asI_inv hr
    clear hr
    obtain ⟨x13, rfl, hr⟩ := hq
    refine wo_step (v := (.i .i64 x13)) (s_pure (o_len rfl e13)) ?_
    have hq := bindO_inv hr
    clear hr
    obtain ⟨v14, e14, hr⟩ := hq
    have hq := asS_inv hr
    clear hr
    obtain ⟨s14, rfl, hr⟩ := hq
    refine wo_step (v := (.s s14)) (s_pure (o_slStr rfl (os rfl) on e14)) ?_
    refine wo_step (v := (.s s14)) (s_pure (p_mv rfl)) ?_
    refine wo_step (v := (.b true)) (s_pure (p_mv rfl)) ?_
    refine wo_nil ?_
    refine nx_norm ?_
    refine w_ret ?_
    exact qf ret_ok (rt rfl (rt rfl rn)) hr

/- internal/stringslite.HasPrefix -/
abbrev g104_J0 (m0 : Mm) (o : Bool) (m1 : Mm) (t1 : Tr) : Prop :=
  match o with
  | c17 => m0 = m1 ∧ t1.get 17 = (.b c17)
def g104 (M : Means) (ro : List ABlk) (s0 : List UInt8) (s1 : List UInt8) (m0 : Mm) : Option (AVal × Heap × Nat × Nat) :=
  bindO (evP .e (.len true (.c (.s s0)))) fun v6 =>
  asI .i64 v6 fun x6 =>
  bindO (evP .e (.len true (.c (.s s1)))) fun v8 =>
  asI .i64 v8 fun x8 =>
  forceB (!ltI x6 x8) fun c9 =>
  bindO (cond c9 (
    bindO (evP .e (.len true (.c (.s s1)))) fun v13 =>
    asI .i64 v13 fun x13 =>
    bindO (evP .e (.slStr (.c (.s s0)) none (some (.c (.i .i64 x13))))) fun v14 =>
    asS v14 fun s14 =>
    bindO (evP .e (.sbin BinOp.eql (.c (.s s14)) (.c (.s s1)))) fun v16 =>
    asB v16 fun c16 =>
    some c16) (
    some false)) fun c17 =>
  finM m0.h.length (tupA [(.b c17)]) m0

theorem g104_ok {ro : List ABlk} {O : Caller} {M : Means} (hM : M.Ok ⟨F, O⟩ ro) {s0 s1 h r} (ho : O 104 [(.s s0), (.s s1)] h = none) (hr : g104 M ro s0 s1 ⟨h, h.length, h.length⟩ = some r) : callX ⟨F, O⟩ ro 104 [(.s s0), (.s s1)] h = some r := by
  refine callX_of (F := ⟨F, O⟩) (fn := fn104) (g := g104 M ro s0 s1) ho rfl rfl hr ?_
  clear ho
  clear hr
  intro m0 t0 ht hr
  have g0 : t0.get 0 = (.s s0) := ht 0
  have g1 : t0.get 1 = (.s s1) := ht 1
  clear ht
  unfold g104 at hr
  refine w_seq ?_
  refine w_ops ?_
  refine wo_step (v := (.b false)) (s_pure (p_mv rfl)) ?_
  refine wo_nil ?_
  refine nx_norm ?_
  refine w_seq ?_
  refine w_ops ?_
  refine wo_step (v := (.s s0)) (s_pure (p_mv g0)) ?_
  have hq := bindO_inv hr
  clear hr
  obtain ⟨v6, e6, hr⟩ := hq
  have hq := asI_inv hr
  clear hr
  obtain ⟨x6, rfl, hr⟩ := hq
  refine wo_step (v := (.i .i64 x6)) (s_pure (o_len rfl e6)) ?_
  refine wo_step (v := (.s s1)) (s_pure (p_mv g1)) ?_
  have hq := bindO_inv hr
  clear hr
  obtain ⟨v8, e8, hr⟩ := hq
  have hq := asI_inv hr
  clear hr
  obtain ⟨x8, rfl, hr⟩ := hq
  refine wo_step (v := (.i .i64 x8)) (s_pure (o_len rfl e8)) ?_
  have hq := forceB_inv hr
  clear hr
  obtain ⟨c9, e9, hr⟩ := hq
  refine wo_step (v := (.b c9)) (s_pure (p_bin rfl rfl (b_geq.trans (cb e9)))) ?_
  refine wo_step (v := (.b c9)) (s_pure (p_mv rfl)) ?_
  have hq := bindO_inv hr
  clear hr
  obtain ⟨o, hr, hk⟩ := hq
  refine wo_join 7 (g104_J0 m0 o) ?_ ?_
  · clear hk
    have hq := cond_inv hr
    clear hr
    rcases hq with ⟨rfl, hr⟩ | ⟨rfl, hr⟩
    · refine wo_take (v := (.s s0)) rfl (s_pure (p_mv g0)) ?_
      refine wo_take (v := (.s s1)) rfl (s_pure (p_mv g1)) ?_
      have hq := bindO_inv hr
      clear hr
      obtain ⟨v13, e13, hr⟩ := hq
      have hq := asI_inv hr
      clear hr
      obtain ⟨x13, rfl, hr⟩ := hq
      refine wo_take (v := (.i .i64 x13)) rfl (s_pure (o_len rfl e13)) ?_
      have hq := bindO_inv hr
      clear hr
      obtain ⟨v14, e14, hr⟩ := hq
      have hq := asS_inv hr
      clear hr
      obtain ⟨s14, rfl, hr⟩ := hq
      refine wo_take (v := (.s s14)) rfl (s_pure (o_slStr rfl on (os rfl) e14)) ?_
      refine wo_take (v := (.s s1)) rfl (s_pure (p_mv g1)) ?_
      have hq := bindO_inv hr
      clear hr
      obtain ⟨v16, e16, hr⟩ := hq
      have hq := asB_inv hr
      clear hr
      obtain ⟨c16, rfl, hr⟩ := hq
      refine wo_take (v := (.b c16)) rfl (s_pure (o_sbin rfl rfl e16)) ?_
      refine wo_step (v := (.b c16)) (s_pure (p_pickT rfl rfl)) ?_
      refine wo_nil ?_
      cases hr
      exact ⟨_, _, rfl, rfl, gl rfl⟩
    · refine wo_skip (v := (.b false)) rfl rfl ?_
      refine wo_skip (v := (.b false)) rfl rfl ?_
      refine wo_skip (v := (.b false)) rfl rfl ?_
      refine wo_skip (v := (.b false)) rfl rfl ?_
      refine wo_skip (v := (.b false)) rfl rfl ?_
      refine wo_skip (v := (.b false)) rfl rfl ?_
      refine wo_step (v := (.b false)) (s_pure (p_pickF rfl rfl)) ?_
      refine wo_nil ?_
      cases hr
      exact ⟨_, _, rfl, rfl, gl rfl⟩
  · clear hr
    have hr := hk
    clear hk
    obtain ⟨c17, ho⟩ : ∃ z, z = o := ⟨_, rfl⟩
    subst ho
    rintro mm t_1 ⟨rfl, g17⟩
    refine wo_step (v := (.b c17)) (s_pure (p_mv g17)) ?_
    refine wo_nil ?_
    refine nx_norm ?_
    refine w_ret ?_
    exact qf ret_ok (rt rfl rn) hr

/- (dibber/vine.many).times -/

def g126 (M : Means) (ro : List ABlk) (x0 : Int) (x1 : Int) (m0 : Mm) : Option (AVal × Heap × Nat × Nat) :=
  bindP (callM M.call m0 127 [(.i .u64 x0), (.i .u64 x1)]) fun v10 m_1 =>
  bindO (evP .e (.ext 0 (.c v10))) fun v11 =>
  asI .u64 v11 fun x11 =>
  bindO (evP .e (.ext 1 (.c v10))) fun v12 =>
  asI .u64 v12 fun x12 =>
  forceB (ltI 0 x11) fun c14 =>
  cond c14 (
    finM m0.h.length (tupA [(.i .u64 9223372036854775808)]) m_1) (
    forceI (mxV false x12 9223372036854775808) fun x16 =>
    finM m0.h.length (tupA [(.i .u64 x16)]) m_1)

theorem g126_ok {ro : List ABlk} {O : Caller} {M : Means} (hM : M.Ok ⟨F, O⟩ ro) {x0 x1 h r} (ho : O 126 [(.i .u64 x0), (.i .u64 x1)] h = none) (hr : g126 M ro x0 x1 ⟨h, h.length, h.length⟩ = some r) : callX ⟨F, O⟩ ro 126 [(.i .u64 x0), (.i .u64 x1)] h = some r := by
  refine callX_of (F := ⟨F, O⟩) (fn := fn126) (g := g126 M ro x0 x1) ho rfl rfl hr ?_
  clear ho
  clear hr
  intro m0 t0 ht hr
  have g0 : t0.get 0 = (.i .u64 x0) := ht 0
  have g1 : t0.get 1 = (.i .u64 x1) := ht 1
  clear ht
  unfold g126 at hr
  refine w_seq ?_
  refine w_ops ?_
  refine wo_step (v := (.i .u64 0)) (s_pure (p_mv rfl)) ?_
  refine wo_nil ?_
  refine nx_norm ?_
  refine w_seq ?_
  refine w_ops ?_
  refine wo_step (v := (.i .u64 x0)) (s_pure (p_mv g0)) ?_
  refine wo_step (v := (.i .u64 x1)) (s_pure (p_mv g1)) ?_
  have hq := bindP_inv hr
  clear hr
  obtain ⟨v10, m_1, e10, hr⟩ := hq
  refine wo_step (v := v10) (s_call (mc rfl (mc rfl mn)) (callM_le hM.call e10)) ?_
  refine wo_step (v := v10) (s_pure (p_mv rfl)) ?_
  have hq := bindO_inv hr
  clear hr
  obtain ⟨v11, e11, hr⟩ := hq
  have hq := asI_inv hr
  clear hr
  obtain ⟨x11, rfl, hr⟩ := hq
  refine wo_step (v := (.i .u64 x11)) (s_pure (o_ext rfl e11)) ?_
  have hq := bindO_inv hr
  clear hr
  obtain ⟨v12, e12, hr⟩ := hq
  have hq := asI_inv hr
  clear hr
  obtain ⟨x12, rfl, hr⟩ := hq
  refine wo_step (v := (.i .u64 x12)) (s_pure (o_ext rfl e12)) ?_
  refine wo_step (v := (.i .u64 x11)) (s_pure (p_mv rfl)) ?_
  refine wo_step (v := (.i .u64 x12)) (s_pure (p_mv rfl)) ?_
  refine wo_nil ?_
  refine nx_norm ?_
  refine w_seq ?_
  refine w_seq ?_
  refine w_ops ?_
  refine wo_step (v := (.i .u64 x11)) (s_pure (p_mv rfl)) ?_
  have hq := forceB_inv hr
  clear hr
  obtain ⟨c14, e14, hr⟩ := hq
  refine wo_step (v := (.b c14)) (s_pure (p_bin rfl rfl (b_gtr.trans (cb e14)))) ?_
  refine wo_nil ?_
  refine nx_norm ?_
  have hq := cond_inv hr
  clear hr
  rcases hq with ⟨rfl, hr⟩ | ⟨rfl, hr⟩
  · refine w_condT rfl ?_
    refine w_seq ?_
    refine w_ops ?_
    refine wo_step (v := (.i .u64 9223372036854775808)) (s_pure (p_mv rfl)) ?_
    refine wo_nil ?_
    refine nx_norm ?_
    refine w_ret ?_
    refine nx_ret ?_
    exact qf ret_ok (rt rfl rn) hr
  · refine w_condF rfl ?_
    refine w_skip ?_
    refine nx_norm ?_
    refine w_seq ?_
    refine w_ops ?_
    refine wo_step (v := (.i .u64 x12)) (s_pure (p_mv rfl)) ?_
    have hq := forceI_inv hr
    clear hr
    obtain ⟨x16, e16, hr⟩ := hq
    refine wo_step (v := (.i .u64 x16)) (s_pure ((p_mx rfl rfl).trans (ci e16))) ?_
    refine wo_step (v := (.i .u64 x16)) (s_pure (p_mv rfl)) ?_
    refine wo_nil ?_
    refine nx_norm ?_
    refine w_ret ?_
    exact qf ret_ok (rt rfl rn) hr

/- math/bits.Mul64 -/

def g127 (M : Means) (ro : List ABlk) (x0 : Int) (x1 : Int) (m0 : Mm) : Option (AVal × Heap × Nat × Nat) :=
  forceI (bitV .and .u64 x0 4294967295) fun x15 =>
  forceI (shrV .u64 x0 32) fun x17 =>
  forceI (bitV .and .u64 x1 4294967295) fun x19 =>
  forceI (shrV .u64 x1 32) fun x21 =>
  forceI (wr .u64 (x15 * x19)) fun x24 =>
  forceI (wr .u64 (x17 * x19)) fun x27 =>
  forceI (shrV .u64 x24 32) fun x29 =>
  forceI (wr .u64 (x27 + x29)) fun x30 =>
  forceI (bitV .and .u64 x30 4294967295) fun x32 =>
  forceI (shrV .u64 x30 32) fun x34 =>
  forceI (wr .u64 (x15 * x21)) fun x38 =>
  forceI (wr .u64 (x32 + x38)) fun x39 =>
  forceI (wr .u64 (x17 * x21)) fun x42 =>
  forceI (wr .u64 (x42 + x34)) fun x44 =>
  forceI (shrV .u64 x39 32) fun x46 =>
  forceI (wr .u64 (x44 + x46)) fun x47 =>
  forceI (wr .u64 (x0 * x1)) fun x50 =>
  finM m0.h.length (tupA [(.i .u64 x47), (.i .u64 x50)]) m0

theorem g127_ok {ro : List ABlk} {O : Caller} {M : Means} (hM : M.Ok ⟨F, O⟩ ro) {x0 x1 h r} (ho : O 127 [(.i .u64 x0), (.i .u64 x1)] h = none) (hr : g127 M ro x0 x1 ⟨h, h.length, h.length⟩ = some r) : callX ⟨F, O⟩ ro 127 [(.i .u64 x0), (.i .u64 x1)] h = some r := by
  refine callX_of (F := ⟨F, O⟩) (fn := fn127) (g := g127 M ro x0 x1) ho rfl rfl hr ?_
  clear ho
  clear hr
  intro m0 t0 ht hr
  have g0 : t0.get 0 = (.i .u64 x0) := ht 0
  have g1 : t0.get 1 = (.i .u64 x1) := ht 1
  clear ht
  unfold g127 at hr
  refine w_seq ?_
  refine w_ops ?_
  refine wo_step (v := (.i .u64 0)) (s_pure (p_mv rfl)) ?_
  refine wo_step (v := (.i .u64 0)) (s_pure (p_mv rfl)) ?_
  refine wo_nil ?_
  refine nx_norm ?_
  refine w_seq ?_
  refine w_ops ?_
  refine wo_step (v := (.i .u64 x0)) (s_pure (p_mv g0)) ?_
  have hq := forceI_inv hr
  clear hr
  obtain ⟨x15, e15, hr⟩ := hq
  refine wo_step (v := (.i .u64 x15)) (s_pure (p_bin rfl rfl (b_and.trans (ci e15)))) ?_
  refine wo_step (v := (.i .u64 x15)) (s_pure (p_mv rfl)) ?_
  refine wo_nil ?_
  refine nx_norm ?_
  refine w_seq ?_
  refine w_ops ?_
  refine wo_step (v := (.i .u64 x0)) (s_pure (p_mv g0)) ?_
  have hq := forceI_inv hr
  clear hr
  obtain ⟨x17, e17, hr⟩ := hq
  refine wo_step (v := (.i .u64 x17)) (s_pure (p_bin rfl rfl ((b_shr rfl).trans (ci e17)))) ?_
  refine wo_step (v := (.i .u64 x17)) (s_pure (p_mv rfl)) ?_
  refine wo_nil ?_
  refine nx_norm ?_
  refine w_seq ?_
  refine w_ops ?_
  refine wo_step (v := (.i .u64 x1)) (s_pure (p_mv g1)) ?_
  have hq := forceI_inv hr
  clear hr
  obtain ⟨x19, e19, hr⟩ := hq
  refine wo_step (v := (.i .u64 x19)) (s_pure (p_bin rfl rfl (b_and.trans (ci e19)))) ?_
  refine wo_step (v := (.i .u64 x19)) (s_pure (p_mv rfl)) ?_
  refine wo_nil ?_
  refine nx_norm ?_
  refine w_seq ?_
  refine w_ops ?_
  refine wo_step (v := (.i .u64 x1)) (s_pure (p_mv g1)) ?_
  have hq := forceI_inv hr
  clear hr
  obtain ⟨x21, e21, hr⟩ := hq
  refine wo_step (v := (.i .u64 x21)) (s_pure (p_bin rfl rfl ((b_shr rfl).trans (ci e21)))) ?_
  refine wo_step (v := (.i .u64 x21)) (s_pure (p_mv rfl)) ?_
  refine wo_nil ?_
  refine nx_norm ?_
  refine w_seq ?_
  refine w_ops ?_
  refine wo_step (v := (.i .u64 x15)) (s_pure (p_mv rfl)) ?_
  refine wo_step (v := (.i .u64 x19)) (s_pure (p_mv rfl)) ?_
  have hq := forceI_inv hr
  clear hr
  obtain ⟨x24, e24, hr⟩ := hq
  refine wo_step (v := (.i .u64 x24)) (s_pure (p_bin rfl rfl (b_mul.trans (ci e24)))) ?_
  refine wo_step (v := (.i .u64 x24)) (s_pure (p_mv rfl)) ?_
  refine wo_nil ?_
  refine nx_norm ?_
  refine w_seq ?_
  refine w_ops ?_
  refine wo_step (v := (.i .u64 x17)) (s_pure (p_mv rfl)) ?_
  refine wo_step (v := (.i .u64 x19)) (s_pure (p_mv rfl)) ?_
  have hq := forceI_inv hr
  clear hr
  obtain ⟨x27, e27, hr⟩ := hq
  refine wo_step (v := (.i .u64 x27)) (s_pure (p_bin rfl rfl (b_mul.trans (ci e27)))) ?_
  refine wo_step (v := (.i .u64 x24)) (s_pure (p_mv rfl)) ?_
  have hq := forceI_inv hr
  clear hr
  obtain ⟨x29, e29, hr⟩ := hq
  refine wo_step (v := (.i .u64 x29)) (s_pure (p_bin rfl rfl ((b_shr rfl).trans (ci e29)))) ?_
  have hq := forceI_inv hr
  clear hr
  obtain ⟨x30, e30, hr⟩ := hq
  refine wo_step (v := (.i .u64 x30)) (s_pure (p_bin rfl rfl (b_add.trans (ci e30)))) ?_
  refine wo_step (v := (.i .u64 x30)) (s_pure (p_mv rfl)) ?_
  refine wo_nil ?_
  refine nx_norm ?_
  refine w_seq ?_
  refine w_ops ?_
  refine wo_step (v := (.i .u64 x30)) (s_pure (p_mv rfl)) ?_
  have hq := forceI_inv hr
  clear hr
  obtain ⟨x32, e32, hr⟩ := hq
  refine wo_step (v := (.i .u64 x32)) (s_pure (p_bin rfl rfl (b_and.trans (ci e32)))) ?_
  refine wo_step (v := (.i .u64 x32)) (s_pure (p_mv rfl)) ?_
  refine wo_nil ?_
  refine nx_norm ?_
  refine w_seq ?_
  refine w_ops ?_
  refine wo_step (v := (.i .u64 x30)) (s_pure (p_mv rfl)) ?_
  have hq := forceI_inv hr
  clear hr
  obtain ⟨x34, e34, hr⟩ := hq
  refine wo_step (v := (.i .u64 x34)) (s_pure (p_bin rfl rfl ((b_shr rfl).trans (ci e34)))) ?_
  refine wo_step (v := (.i .u64 x34)) (s_pure (p_mv rfl)) ?_
  refine wo_nil ?_
  refine nx_norm ?_
  refine w_seq ?_
  refine w_ops ?_
  refine wo_step (v := (.i .u64 x32)) (s_pure (p_mv rfl)) ?_
  refine wo_step (v := (.i .u64 x15)) (s_pure (p_mv rfl)) ?_
  refine wo_step (v := (.i .u64 x21)) (s_pure (p_mv rfl)) ?_
  have hq := forceI_inv hr
  clear hr
  obtain ⟨x38, e38, hr⟩ := hq
  refine wo_step (v := (.i .u64 x38)) (s_pure (p_bin rfl rfl (b_mul.trans (ci e38)))) ?_
  have hq := forceI_inv hr
  clear hr
  obtain ⟨x39, e39, hr⟩ := hq
  refine wo_step (v := (.i .u64 x39)) (s_pure (p_bin rfl rfl (b_add.trans (ci e39)))) ?_
  refine wo_step (v := (.i .u64 x39)) (s_pure (p_mv rfl)) ?_
  refine wo_nil ?_
  refine nx_norm ?_
  refine w_seq ?_
  refine w_ops ?_
  refine wo_step (v := (.i .u64 x17)) (s_pure (p_mv rfl)) ?_
  refine wo_step (v := (.i .u64 x21)) (s_pure (p_mv rfl)) ?_
  have hq := forceI_inv hr
  clear hr
  obtain ⟨x42, e42, hr⟩ := hq
  refine wo_step (v := (.i .u64 x42)) (s_pure (p_bin rfl rfl (b_mul.trans (ci e42)))) ?_
  refine wo_step (v := (.i .u64 x34)) (s_pure (p_mv rfl)) ?_
  have hq := forceI_inv hr
  clear hr
  obtain ⟨x44, e44, hr⟩ := hq
  refine wo_step (v := (.i .u64 x44)) (s_pure (p_bin rfl rfl (b_add.trans (ci e44)))) ?_
  refine wo_step (v := (.i .u64 x39)) (s_pure (p_mv rfl)) ?_
  have hq := forceI_inv hr
  clear hr
  obtain ⟨x46, e46, hr⟩ := hq
  refine wo_step (v := (.i .u64 x46)) (s_pure (p_bin rfl rfl ((b_shr rfl).trans (ci e46)))) ?_
  have hq := forceI_inv hr
  clear hr
  obtain ⟨x47, e47, hr⟩ := hq
  refine wo_step (v := (.i .u64 x47)) (s_pure (p_bin rfl rfl (b_add.trans (ci e47)))) ?_
  refine wo_step (v := (.i .u64 x47)) (s_pure (p_mv rfl)) ?_
  refine wo_nil ?_
  refine nx_norm ?_
  refine w_seq ?_
  refine w_ops ?_
  refine wo_step (v := (.i .u64 x0)) (s_pure (p_mv g0)) ?_
  refine wo_step (v := (.i .u64 x1)) (s_pure (p_mv g1)) ?_
  have hq := forceI_inv hr
  clear hr
  obtain ⟨x50, e50, hr⟩ := hq
  refine wo_step (v := (.i .u64 x50)) (s_pure (p_bin rfl rfl (b_mul.trans (ci e50)))) ?_
  refine wo_step (v := (.i .u64 x50)) (s_pure (p_mv rfl)) ?_
  refine wo_nil ?_
  refine nx_norm ?_
  refine w_ret ?_
  exact qf ret_ok (rt rfl (rt rfl rn)) hr

end Go.Proofs.Ytfohppnelbbepaa.T

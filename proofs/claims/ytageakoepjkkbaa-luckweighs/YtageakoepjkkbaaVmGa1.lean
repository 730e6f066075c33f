/- Plain functions, and that the small machine answers as they do. -/
import Derived.Test.YtageakoepjkkbaaVmP
import Derived.Test.YtageakoepjkkbaaVmAE
open Go.Vm
set_option linter.unusedVariables false
namespace Go.Proofs.Ytageakoepjkkbaa.T
open Go
/- dibber/luck.areSaid -/
abbrev g68_I0 (v0 : AVal) (x1 : Int) (x2 : Int) (x10 : Int) (s : Int × Mm) (m1 : Mm) (t1 : Tr) : Prop :=
  match s with
  | (x11, m_1) => m_1 = m1 ∧ t1.get 11 = (.i .i64 x11) ∧ t1.get 0 = v0 ∧ t1.get 1 = (.i .i64 x1) ∧ t1.get 2 = (.i .i64 x2) ∧ t1.get 9 = v0 ∧ t1.get 10 = (.i .i64 x10)
abbrev g68_J0 (v0 : AVal) (x1 : Int) (x2 : Int) (x10 : Int) (o : (Mm ⊕ (Bool × Mm))) (e : AExit) (m1 : Mm) (t1 : Tr) : Prop :=
  match o with
  | (.inl mo) => e = (.exit 0) ∧ mo = m1 ∧ t1.get 0 = v0 ∧ t1.get 1 = (.i .i64 x1)
  | (.inr (y6, mo)) => e = .ret ∧ mo = m1 ∧ t1.get 6 = (.b y6)
def g68_b0 (M : Means) (ro : List ABlk) (v0 : AVal) (x1 : Int) (x2 : Int) (x10 : Int) (x11 : Int) (m_1 : Mm) : Option ((Int × Mm) ⊕ ((Mm ⊕ (Bool × Mm)))) :=
  forceB (ltI x11 x10) fun c12 =>
  cond c12 (
    bindO (evP .e (.ixS 1 (.c v0) (.c (.i .i64 x11)))) fun v13 =>
    bindO (ldM ro m_1 true 1 v13) fun v14 =>
    bindP (callM M.call m_1 61 [v14, (.i .i64 x2)]) fun v17 m_2 =>
    asB v17 fun c17 =>
    forceB (!c17) fun c18 =>
    cond c18 (
      some (.inr (.inr (false, m_2)))) (
      forceI (wr .i64 (x11 + 1)) fun x19 =>
      some (.inl (x19, m_2)))) (
    some (.inr (.inl m_1)))
def g68 (M : Means) (ro : List ABlk) (v0 : AVal) (x1 : Int) (x2 : Int) (m0 : Mm) : Option (AVal × Heap × Nat × Nat) :=
  bindO (evP .e (.len false (.c v0))) fun v10 =>
  asI .i64 v10 fun x10 =>
  bindO (M.loop (S := Int × Mm) (R := (Mm ⊕ (Bool × Mm))) (fun s => g68_b0 M ro v0 x1 x2 x10 s.1 s.2) (0, m0)) fun o => match o with
  | (.inl m_3) =>
    bindO (evP .e (.len false (.c v0))) fun v21 =>
    asI .i64 v21 fun x21 =>
    forceB (eqI x21 x1) fun c23 =>
    finM m0.h.length (tupA [(.b c23)]) m_3
  | (.inr (c6, m_4)) =>
    finM m0.h.length (tupA [(.b c6)]) m_4

theorem g68_ok {ro : List ABlk} {O : Caller} {M : Means} (hM : M.Ok ⟨F, O⟩ ro) {v0 x1 x2 h r} (ho : O 68 [v0, (.i .i64 x1), (.i .i64 x2)] h = none) (hr : g68 M ro v0 x1 x2 ⟨h, h.length, h.length⟩ = some r) : callX ⟨F, O⟩ ro 68 [v0, (.i .i64 x1), (.i .i64 x2)] h = some r := by
  refine callX_of (F := ⟨F, O⟩) (fn := fn68) (g := g68 M ro v0 x1 x2) ho rfl rfl hr ?_
  clear ho
  clear hr
  intro m0 t0 ht hr
  have g0 : t0.get 0 = v0 := ht 0
  have g1 : t0.get 1 = (.i .i64 x1) := ht 1
  have g2 : t0.get 2 = (.i .i64 x2) := ht 2
  clear ht
  unfold g68 at hr
  refine w_seq ?_
  refine w_ops ?_
  refine wo_step (v := (.b false)) (s_pure (p_mv rfl)) ?_
  refine wo_nil ?_
  refine nx_norm ?_
  refine w_seq ?_
  refine w_seq ?_
  refine w_ops ?_
  refine wo_step (v := v0) (s_pure (p_mv g0)) ?_
  have hq := bindO_inv hr
  clear hr
  obtain ⟨v10, e10, hr⟩ := hq
  have hq := asI_inv hr
  clear hr
  obtain ⟨x10, rfl, hr⟩ := hq
  refine wo_step (v := (.i .i64 x10)) (s_pure (o_len rfl e10)) ?_
  refine wo_step (v := (.i .i64 0)) (s_pure (p_mv rfl)) ?_
  refine wo_nil ?_
  refine nx_norm ?_
  refine w_block ?_
  have hq := bindO_inv hr
  clear hr
  obtain ⟨o, hl, hr⟩ := hq
  obtain ⟨n, hl⟩ := hM.loop _ _ _ hl
  refine jp_mono (w_loop _ (g68_I0 v0 x1 x2 x10) (g68_J0 v0 x1 x2 x10) ?_ n _ _ _ _ hl ⟨rfl, gl rfl, gl g0, gl g1, gl g2, gl rfl, gl rfl⟩) ?_
  · clear hr hl
    intro s mm_2 t_1 o hi hr
    obtain ⟨x11, m_1⟩ := s
    obtain ⟨rfl, g11, g0, g1, g2, g9, g10⟩ := hi
    unfold g68_b0 at hr
    refine w_seq ?_
    refine w_ops ?_
    have hq := forceB_inv hr
    clear hr
    obtain ⟨c12, e12, hr⟩ := hq
    refine wo_step (v := (.b c12)) (s_pure (p_bin g11 g10 (b_lss.trans (cb e12)))) ?_
    refine wo_nil ?_
    refine nx_norm ?_
    refine w_seq ?_
    have hq := cond_inv hr
    clear hr
    rcases hq with ⟨rfl, hr⟩ | ⟨rfl, hr⟩
    · refine w_condT rfl ?_
      refine w_skip ?_
      refine nx_norm ?_
      refine w_seq ?_
      refine w_block ?_
      refine w_seq ?_
      refine w_ops ?_
      have hq := bindO_inv hr
      clear hr
      obtain ⟨v13, e13, hr⟩ := hq
      refine wo_step (v := v13) (s_pure (o_ixS g9 g11 e13)) ?_
      have hq := bindO_inv hr
      clear hr
      obtain ⟨v14, e14, hr⟩ := hq
      refine wo_step (v := v14) (s_ld rfl e14) ?_
      refine wo_step (v := v14) (s_pure (p_mv rfl)) ?_
      refine wo_nil ?_
      refine nx_norm ?_
      refine w_seq ?_
      refine w_ops ?_
      refine wo_step (v := v14) (s_pure (p_mv rfl)) ?_
      refine wo_step (v := (.i .i64 x2)) (s_pure (p_mv g2)) ?_
      have hq := bindP_inv hr
      clear hr
      obtain ⟨v17, m_2, e17, hr⟩ := hq
      have hq := asB_inv hr
      clear hr
      obtain ⟨c17, rfl, hr⟩ := hq
      refine wo_step (v := (.b c17)) (s_call (mc rfl (mc rfl mn)) (callM_le hM.call e17)) ?_
      have hq := forceB_inv hr
      clear hr
      obtain ⟨c18, e18, hr⟩ := hq
      refine wo_step (v := (.b c18)) (s_pure ((p_not rfl).trans (cb e18))) ?_
      refine wo_nil ?_
      refine nx_norm ?_
      have hq := cond_inv hr
      clear hr
      rcases hq with ⟨rfl, hr⟩ | ⟨rfl, hr⟩
      · refine w_condT rfl ?_
        refine w_seq ?_
        refine w_ops ?_
        refine wo_step (v := (.b false)) (s_pure (p_mv rfl)) ?_
        refine wo_nil ?_
        refine nx_norm ?_
        refine w_ret ?_
        refine bk_ret ?_
        refine nx_ret ?_
        cases hr
        exact ⟨_, _, rfl, ne_norm_ret, rfl, rfl, gl rfl⟩
      · refine w_condF rfl ?_
        refine w_skip ?_
        refine bk_norm ?_
        refine nx_norm ?_
        refine w_ops ?_
        have hq := forceI_inv hr
        clear hr
        obtain ⟨x19, e19, hr⟩ := hq
        refine wo_step (v := (.i .i64 x19)) (s_pure (p_bin g11 rfl (b_add.trans (ci e19)))) ?_
        refine wo_step (v := (.i .i64 x19)) (s_pure (p_mv rfl)) ?_
        refine wo_nil ?_
        cases hr
        exact ⟨_, _, rfl, rfl, rfl, gl rfl, gl g0, gl g1, gl g2, gl g9, gl g10⟩
    · refine w_condF rfl ?_
      refine w_exit ?_
      refine nx_exit ?_
      cases hr
      exact ⟨_, _, rfl, ne_norm_exit, rfl, rfl, gl g0, gl g1⟩
  · rcases o with o | o
    · obtain ⟨m_3, ho⟩ : ∃ z, z = o := ⟨_, rfl⟩
      subst ho
      rintro _ mm t_2 ⟨rfl, rfl, g0, g1⟩
      refine bk_hit ?_
      refine nx_norm ?_
      refine w_seq ?_
      refine w_ops ?_
      refine wo_step (v := v0) (s_pure (p_mv g0)) ?_
      have hq := bindO_inv hr
      clear hr
      obtain ⟨v21, e21, hr⟩ := hq
      have hq := asI_inv hr
      clear hr
      obtain ⟨x21, rfl, hr⟩ := hq
      refine wo_step (v := (.i .i64 x21)) (s_pure (o_len rfl e21)) ?_
      refine wo_step (v := (.i .i64 x1)) (s_pure (p_mv g1)) ?_
      have hq := forceB_inv hr
      clear hr
      obtain ⟨c23, e23, hr⟩ := hq
      refine wo_step (v := (.b c23)) (s_pure (p_bin rfl rfl (b_eql.trans (cb e23)))) ?_
      refine wo_step (v := (.b c23)) (s_pure (p_mv rfl)) ?_
      refine wo_nil ?_
      refine nx_norm ?_
      refine w_ret ?_
      exact qf ret_ok (rt rfl rn) hr
    · obtain ⟨c6, m_4⟩ := o
      rintro _ mm_1 t_3 ⟨rfl, rfl, g6⟩
      refine bk_ret ?_
      refine nx_ret ?_
      exact qf ret_ok (rt g6 rn) hr

/- dibber/luck.fewest -/
abbrev g69_I0 (x1 : Int) (v0 : AVal) (x9 : Int) (s : Int × Int × Mm) (m1 : Mm) (t1 : Tr) : Prop :=
  match s with
  | (x5, x10, m_1) => m_1 = m1 ∧ t1.get 5 = (.i .i64 x5) ∧ t1.get 10 = (.i .i64 x10) ∧ t1.get 1 = (.i .i64 x1) ∧ t1.get 8 = v0 ∧ t1.get 9 = (.i .i64 x9)
abbrev g69_J0 (x1 : Int) (v0 : AVal) (x9 : Int) (o : (Int × Mm)) (e : AExit) (m1 : Mm) (t1 : Tr) : Prop :=
  match o with
  | (y5, mo) => e = (.exit 0) ∧ mo = m1 ∧ t1.get 5 = (.i .i64 y5)
def g69_b0 (M : Means) (ro : List ABlk) (x1 : Int) (v0 : AVal) (x9 : Int) (x5 : Int) (x10 : Int) (m_1 : Mm) : Option ((Int × Int × Mm) ⊕ ((Int × Mm))) :=
  forceB (ltI x10 x9) fun c11 =>
  cond c11 (
    bindO (evP .e (.ixS 1 (.c v0) (.c (.i .i64 x10)))) fun v12 =>
    bindO (ldM ro m_1 true 1 v12) fun v13 =>
    asI .i64 v13 fun x13 =>
    forceI (bitV .xor .i64 x13 x1) fun x17 =>
    forceI (wr .u64 x17) fun x18 =>
    bindP (callM M.call m_1 78 [(.i .u64 x18)]) fun v19 m_2 =>
    asI .i64 v19 fun x19 =>
    forceI (mxV false x5 x19) fun x20 =>
    forceI (wr .i64 (x10 + 1)) fun x21 =>
    some (.inl (x20, x21, m_2))) (
    some (.inr (x5, m_1)))
def g69 (M : Means) (ro : List ABlk) (v0 : AVal) (x1 : Int) (m0 : Mm) : Option (AVal × Heap × Nat × Nat) :=
  bindO (evP .e (.len false (.c v0))) fun v9 =>
  asI .i64 v9 fun x9 =>
  bindO (M.loop (S := Int × Int × Mm) (R := (Int × Mm)) (fun s => g69_b0 M ro x1 v0 x9 s.1 s.2.1 s.2.2) (10, 0, m0)) fun ⟨x5_1, m_3⟩ =>
  finM m0.h.length (tupA [(.i .i64 x5_1)]) m_3

theorem g69_ok {ro : List ABlk} {O : Caller} {M : Means} (hM : M.Ok ⟨F, O⟩ ro) {v0 x1 h r} (ho : O 69 [v0, (.i .i64 x1)] h = none) (hr : g69 M ro v0 x1 ⟨h, h.length, h.length⟩ = some r) : callX ⟨F, O⟩ ro 69 [v0, (.i .i64 x1)] h = some r := by
  refine callX_of (F := ⟨F, O⟩) (fn := fn69) (g := g69 M ro v0 x1) ho rfl rfl hr ?_
  clear ho
  clear hr
  intro m0 t0 ht hr
  have g0 : t0.get 0 = v0 := ht 0
  have g1 : t0.get 1 = (.i .i64 x1) := ht 1
  clear ht
  unfold g69 at hr
  refine w_seq ?_
  refine w_ops ?_
  refine wo_step (v := (.i .i64 0)) (s_pure (p_mv rfl)) ?_
  refine wo_nil ?_
  refine nx_norm ?_
  refine w_seq ?_
  refine w_ops ?_
  refine wo_step (v := (.i .i64 10)) (s_pure (p_mv rfl)) ?_
  refine wo_nil ?_
  refine nx_norm ?_
  refine w_seq ?_
  refine w_seq ?_
  refine w_ops ?_
  refine wo_step (v := v0) (s_pure (p_mv g0)) ?_
  have hq := bindO_inv hr
  clear hr
  obtain ⟨v9, e9, hr⟩ := hq
  have hq := asI_inv hr
  clear hr
  obtain ⟨x9, rfl, hr⟩ := hq
  refine wo_step (v := (.i .i64 x9)) (s_pure (o_len rfl e9)) ?_
  refine wo_step (v := (.i .i64 0)) (s_pure (p_mv rfl)) ?_
  refine wo_nil ?_
  refine nx_norm ?_
  refine w_block ?_
  have hq := bindO_inv hr
  clear hr
  obtain ⟨o, hl, hr⟩ := hq
  obtain ⟨n, hl⟩ := hM.loop _ _ _ hl
  refine jp_mono (w_loop _ (g69_I0 x1 v0 x9) (g69_J0 x1 v0 x9) ?_ n _ _ _ _ hl ⟨rfl, gl rfl, gl rfl, gl g1, gl rfl, gl rfl⟩) ?_
  · clear hr hl
    intro s mm_1 t_1 o hi hr
    obtain ⟨x5, x10, m_1⟩ := s
    obtain ⟨rfl, g5, g10, g1, g8, g9⟩ := hi
    unfold g69_b0 at hr
    refine w_seq ?_
    refine w_ops ?_
    have hq := forceB_inv hr
    clear hr
    obtain ⟨c11, e11, hr⟩ := hq
    refine wo_step (v := (.b c11)) (s_pure (p_bin g10 g9 (b_lss.trans (cb e11)))) ?_
    refine wo_nil ?_
    refine nx_norm ?_
    refine w_seq ?_
    have hq := cond_inv hr
    clear hr
    rcases hq with ⟨rfl, hr⟩ | ⟨rfl, hr⟩
    · refine w_condT rfl ?_
      refine w_skip ?_
      refine nx_norm ?_
      refine w_seq ?_
      refine w_block ?_
      refine w_seq ?_
      refine w_ops ?_
      have hq := bindO_inv hr
      clear hr
      obtain ⟨v12, e12, hr⟩ := hq
      refine wo_step (v := v12) (s_pure (o_ixS g8 g10 e12)) ?_
      have hq := bindO_inv hr
      clear hr
      obtain ⟨v13, e13, hr⟩ := hq
      have hq := asI_inv hr
      clear hr
      obtain ⟨x13, rfl, hr⟩ := hq
      refine wo_step (v := (.i .i64 x13)) (s_ld rfl e13) ?_
      refine wo_step (v := (.i .i64 x13)) (s_pure (p_mv rfl)) ?_
      refine wo_nil ?_
      refine nx_norm ?_
      refine w_ops ?_
      refine wo_step (v := (.i .i64 x5)) (s_pure (p_mv g5)) ?_
      refine wo_step (v := (.i .i64 x13)) (s_pure (p_mv rfl)) ?_
      refine wo_step (v := (.i .i64 x1)) (s_pure (p_mv g1)) ?_
      have hq := forceI_inv hr
      clear hr
      obtain ⟨x17, e17, hr⟩ := hq
      refine wo_step (v := (.i .i64 x17)) (s_pure (p_bin rfl rfl (b_xor.trans (ci e17)))) ?_
      have hq := forceI_inv hr
      clear hr
      obtain ⟨x18, e18, hr⟩ := hq
      refine wo_step (v := (.i .u64 x18)) (s_pure ((p_conv rfl).trans (ci e18))) ?_
      have hq := bindP_inv hr
      clear hr
      obtain ⟨v19, m_2, e19, hr⟩ := hq
      have hq := asI_inv hr
      clear hr
      obtain ⟨x19, rfl, hr⟩ := hq
      refine wo_step (v := (.i .i64 x19)) (s_call (mc rfl mn) (callM_le hM.call e19)) ?_
      have hq := forceI_inv hr
      clear hr
      obtain ⟨x20, e20, hr⟩ := hq
      refine wo_step (v := (.i .i64 x20)) (s_pure ((p_mx rfl rfl).trans (ci e20))) ?_
      refine wo_step (v := (.i .i64 x20)) (s_pure (p_mv rfl)) ?_
      refine wo_nil ?_
      refine bk_norm ?_
      refine nx_norm ?_
      refine w_ops ?_
      have hq := forceI_inv hr
      clear hr
      obtain ⟨x21, e21, hr⟩ := hq
      refine wo_step (v := (.i .i64 x21)) (s_pure (p_bin g10 rfl (b_add.trans (ci e21)))) ?_
      refine wo_step (v := (.i .i64 x21)) (s_pure (p_mv rfl)) ?_
      refine wo_nil ?_
      cases hr
      exact ⟨_, _, rfl, rfl, rfl, gl rfl, gl rfl, gl g1, gl g8, gl g9⟩
    · refine w_condF rfl ?_
      refine w_exit ?_
      refine nx_exit ?_
      cases hr
      exact ⟨_, _, rfl, ne_norm_exit, rfl, rfl, gl g5⟩
  · obtain ⟨x5_1, m_3⟩ := o
    rintro _ mm t_2 ⟨rfl, rfl, g5⟩
    refine bk_hit ?_
    refine nx_norm ?_
    refine w_seq ?_
    refine w_ops ?_
    refine wo_step (v := (.i .i64 x5_1)) (s_pure (p_mv g5)) ?_
    refine wo_step (v := (.i .i64 x5_1)) (s_pure (p_mv rfl)) ?_
    refine wo_nil ?_
    refine nx_norm ?_
    refine w_ret ?_
    exact qf ret_ok (rt rfl rn) hr

/- dibber/luck.sum -/
abbrev g76_I0 (v0 : AVal) (x7 : Int) (m0 : Mm) (s : Int × Int) (m1 : Mm) (t1 : Tr) : Prop :=
  match s with
  | (x3, x8) => m0 = m1 ∧ t1.get 3 = (.i .i64 x3) ∧ t1.get 8 = (.i .i64 x8) ∧ t1.get 6 = v0 ∧ t1.get 7 = (.i .i64 x7)
abbrev g76_J0 (v0 : AVal) (x7 : Int) (m0 : Mm) (o : Int) (e : AExit) (m1 : Mm) (t1 : Tr) : Prop :=
  match o with
  | y3 => e = (.exit 0) ∧ m0 = m1 ∧ t1.get 3 = (.i .i64 y3)
def g76_b0 (M : Means) (ro : List ABlk) (v0 : AVal) (x7 : Int) (m0 : Mm) (x3 : Int) (x8 : Int) : Option ((Int × Int) ⊕ (Int)) :=
  forceB (ltI x8 x7) fun c9 =>
  cond c9 (
    bindO (evP .e (.ixS 1 (.c v0) (.c (.i .i64 x8)))) fun v10 =>
    bindO (ldM ro m0 true 1 v10) fun v11 =>
    asI .i64 v11 fun x11 =>
    forceI (wr .i64 (x3 + x11)) fun x14 =>
    forceI (wr .i64 (x8 + 1)) fun x15 =>
    some (.inl (x14, x15))) (
    some (.inr x3))
def g76 (M : Means) (ro : List ABlk) (v0 : AVal) (m0 : Mm) : Option (AVal × Heap × Nat × Nat) :=
  bindO (evP .e (.len false (.c v0))) fun v7 =>
  asI .i64 v7 fun x7 =>
  bindO (M.loop (S := Int × Int) (R := Int) (fun s => g76_b0 M ro v0 x7 m0 s.1 s.2) (0, 0)) fun x3_1 =>
  finM m0.h.length (tupA [(.i .i64 x3_1)]) m0

theorem g76_ok {ro : List ABlk} {O : Caller} {M : Means} (hM : M.Ok ⟨F, O⟩ ro) {v0 h r} (ho : O 76 [v0] h = none) (hr : g76 M ro v0 ⟨h, h.length, h.length⟩ = some r) : callX ⟨F, O⟩ ro 76 [v0] h = some r := by
  refine callX_of (F := ⟨F, O⟩) (fn := fn76) (g := g76 M ro v0) ho rfl rfl hr ?_
  clear ho
  clear hr
  intro m0 t0 ht hr
  have g0 : t0.get 0 = v0 := ht 0
  clear ht
  unfold g76 at hr
  refine w_seq ?_
  refine w_ops ?_
  refine wo_step (v := (.i .i64 0)) (s_pure (p_mv rfl)) ?_
  refine wo_nil ?_
  refine nx_norm ?_
  refine w_seq ?_
  refine w_ops ?_
  refine wo_step (v := (.i .i64 0)) (s_pure (p_mv rfl)) ?_
  refine wo_nil ?_
  refine nx_norm ?_
  refine w_seq ?_
  refine w_seq ?_
  refine w_ops ?_
  refine wo_step (v := v0) (s_pure (p_mv g0)) ?_
  have hq := bindO_inv hr
  clear hr
  obtain ⟨v7, e7, hr⟩ := hq
  have hq := asI_inv hr
  clear hr
  obtain ⟨x7, rfl, hr⟩ := hq
  refine wo_step (v := (.i .i64 x7)) (s_pure (o_len rfl e7)) ?_
  refine wo_step (v := (.i .i64 0)) (s_pure (p_mv rfl)) ?_
  refine wo_nil ?_
  refine nx_norm ?_
  refine w_block ?_
  have hq := bindO_inv hr
  clear hr
  obtain ⟨o, hl, hr⟩ := hq
  obtain ⟨n, hl⟩ := hM.loop _ _ _ hl
  refine jp_mono (w_loop _ (g76_I0 v0 x7 m0) (g76_J0 v0 x7 m0) ?_ n _ _ _ _ hl ⟨rfl, gl rfl, gl rfl, gl rfl, gl rfl⟩) ?_
  · clear hr hl
    intro s mm_1 t_1 o hi hr
    obtain ⟨x3, x8⟩ := s
    obtain ⟨rfl, g3, g8, g6, g7⟩ := hi
    unfold g76_b0 at hr
    refine w_seq ?_
    refine w_ops ?_
    have hq := forceB_inv hr
    clear hr
    obtain ⟨c9, e9, hr⟩ := hq
    refine wo_step (v := (.b c9)) (s_pure (p_bin g8 g7 (b_lss.trans (cb e9)))) ?_
    refine wo_nil ?_
    refine nx_norm ?_
    refine w_seq ?_
    have hq := cond_inv hr
    clear hr
    rcases hq with ⟨rfl, hr⟩ | ⟨rfl, hr⟩
    · refine w_condT rfl ?_
      refine w_skip ?_
      refine nx_norm ?_
      refine w_seq ?_
      refine w_block ?_
      refine w_seq ?_
      refine w_ops ?_
      have hq := bindO_inv hr
      clear hr
      obtain ⟨v10, e10, hr⟩ := hq
      refine wo_step (v := v10) (s_pure (o_ixS g6 g8 e10)) ?_
      have hq := bindO_inv hr
      clear hr
      obtain ⟨v11, e11, hr⟩ := hq
      have hq := asI_inv hr
      clear hr
      obtain ⟨x11, rfl, hr⟩ := hq
      refine wo_step (v := (.i .i64 x11)) (s_ld rfl e11) ?_
      refine wo_step (v := (.i .i64 x11)) (s_pure (p_mv rfl)) ?_
      refine wo_nil ?_
      refine nx_norm ?_
      refine w_ops ?_
      refine wo_step (v := (.i .i64 x3)) (s_pure (p_mv g3)) ?_
      refine wo_step (v := (.i .i64 x11)) (s_pure (p_mv rfl)) ?_
      have hq := forceI_inv hr
      clear hr
      obtain ⟨x14, e14, hr⟩ := hq
      refine wo_step (v := (.i .i64 x14)) (s_pure (p_bin rfl rfl (b_add.trans (ci e14)))) ?_
      refine wo_step (v := (.i .i64 x14)) (s_pure (p_mv rfl)) ?_
      refine wo_nil ?_
      refine bk_norm ?_
      refine nx_norm ?_
      refine w_ops ?_
      have hq := forceI_inv hr
      clear hr
      obtain ⟨x15, e15, hr⟩ := hq
      refine wo_step (v := (.i .i64 x15)) (s_pure (p_bin g8 rfl (b_add.trans (ci e15)))) ?_
      refine wo_step (v := (.i .i64 x15)) (s_pure (p_mv rfl)) ?_
      refine wo_nil ?_
      cases hr
      exact ⟨_, _, rfl, rfl, rfl, gl rfl, gl rfl, gl g6, gl g7⟩
    · refine w_condF rfl ?_
      refine w_exit ?_
      refine nx_exit ?_
      cases hr
      exact ⟨_, _, rfl, ne_norm_exit, rfl, rfl, gl g3⟩
  · obtain ⟨x3_1, ho⟩ : ∃ z, z = o := ⟨_, rfl⟩
    subst ho
    rintro _ mm t_2 ⟨rfl, rfl, g3⟩
    refine bk_hit ?_
    refine nx_norm ?_
    refine w_seq ?_
    refine w_ops ?_
    refine wo_step (v := (.i .i64 x3_1)) (s_pure (p_mv g3)) ?_
    refine wo_step (v := (.i .i64 x3_1)) (s_pure (p_mv rfl)) ?_
    refine wo_nil ?_
    refine nx_norm ?_
    refine w_ret ?_
    exact qf ret_ok (rt rfl rn) hr

/- math/bits.OnesCount -/

def g78 (M : Means) (ro : List ABlk) (x0 : Int) (m0 : Mm) : Option (AVal × Heap × Nat × Nat) :=
  bindP (callM M.call m0 83 [(.i .u64 x0)]) fun v7 m_1 =>
  asI .i64 v7 fun x7 =>
  finM m0.h.length (tupA [(.i .i64 x7)]) m_1

theorem g78_ok {ro : List ABlk} {O : Caller} {M : Means} (hM : M.Ok ⟨F, O⟩ ro) {x0 h r} (ho : O 78 [(.i .u64 x0)] h = none) (hr : g78 M ro x0 ⟨h, h.length, h.length⟩ = some r) : callX ⟨F, O⟩ ro 78 [(.i .u64 x0)] h = some r := by
  refine callX_of (F := ⟨F, O⟩) (fn := fn78) (g := g78 M ro x0) ho rfl rfl hr ?_
  clear ho
  clear hr
  intro m0 t0 ht hr
  have g0 : t0.get 0 = (.i .u64 x0) := ht 0
  clear ht
  unfold g78 at hr
  refine w_seq ?_
  refine w_ops ?_
  refine wo_step (v := (.i .i64 0)) (s_pure (p_mv rfl)) ?_
  refine wo_nil ?_
  refine nx_norm ?_
  refine w_seq ?_
  refine w_condF rfl ?_
  refine w_skip ?_
  refine nx_norm ?_
  refine w_seq ?_
  refine w_ops ?_
  refine wo_step (v := (.i .u64 x0)) (s_pure (p_mv g0)) ?_
  have hq := bindP_inv hr
  clear hr
  obtain ⟨v7, m_1, e7, hr⟩ := hq
  have hq := asI_inv hr
  clear hr
  obtain ⟨x7, rfl, hr⟩ := hq
  refine wo_step (v := (.i .i64 x7)) (s_call (mc rfl mn) (callM_le hM.call e7)) ?_
  refine wo_step (v := (.i .i64 x7)) (s_pure (p_mv rfl)) ?_
  refine wo_nil ?_
  refine nx_norm ?_
  refine w_ret ?_
  exact qf ret_ok (rt rfl rn) hr

/- math/bits.OnesCount32 -/

def g82 (M : Means) (ro : List ABlk) (x0 : Int) (m0 : Mm) : Option (AVal × Heap × Nat × Nat) :=
  forceI (shrV .u32 x0 24) fun x4 =>
  bindO (evP .e (.ixStr (.c (AVal.s [0, 1, 1, 2, 1, 2, 2, 3, 1, 2, 2, 3, 2, 3, 3, 4, 1, 2, 2, 3, 2, 3, 3, 4, 2, 3, 3, 4, 3, 4, 4, 5, 1, 2, 2, 3, 2, 3, 3, 4, 2, 3, 3, 4, 3, 4, 4, 5, 2, 3, 3, 4, 3, 4, 4, 5, 3, 4, 4, 5, 4, 5, 5, 6, 1, 2, 2, 3, 2, 3, 3, 4, 2, 3, 3, 4, 3, 4, 4, 5, 2, 3, 3, 4, 3, 4, 4, 5, 3, 4, 4, 5, 4, 5, 5, 6, 2, 3, 3, 4, 3, 4, 4, 5, 3, 4, 4, 5, 4, 5, 5, 6, 3, 4, 4, 5, 4, 5, 5, 6, 4, 5, 5, 6, 5, 6, 6, 7, 1, 2, 2, 3, 2, 3, 3, 4, 2, 3, 3, 4, 3, 4, 4, 5, 2, 3, 3, 4, 3, 4, 4, 5, 3, 4, 4, 5, 4, 5, 5, 6, 2, 3, 3, 4, 3, 4, 4, 5, 3, 4, 4, 5, 4, 5, 5, 6, 3, 4, 4, 5, 4, 5, 5, 6, 4, 5, 5, 6, 5, 6, 6, 7, 2, 3, 3, 4, 3, 4, 4, 5, 3, 4, 4, 5, 4, 5, 5, 6, 3, 4, 4, 5, 4, 5, 5, 6, 4, 5, 5, 6, 5, 6, 6, 7, 3, 4, 4, 5, 4, 5, 5, 6, 4, 5, 5, 6, 5, 6, 6, 7, 4, 5, 5, 6, 5, 6, 6, 7, 5, 6, 6, 7, 6, 7, 7, 8])) (.c (.i .u32 x4)))) fun v5 =>
  asI .u8 v5 fun x5 =>
  forceI (shrV .u32 x0 16) fun x7 =>
  forceI (bitV .and .u32 x7 255) fun x8 =>
  bindO (evP .e (.ixStr (.c (AVal.s [0, 1, 1, 2, 1, 2, 2, 3, 1, 2, 2, 3, 2, 3, 3, 4, 1, 2, 2, 3, 2, 3, 3, 4, 2, 3, 3, 4, 3, 4, 4, 5, 1, 2, 2, 3, 2, 3, 3, 4, 2, 3, 3, 4, 3, 4, 4, 5, 2, 3, 3, 4, 3, 4, 4, 5, 3, 4, 4, 5, 4, 5, 5, 6, 1, 2, 2, 3, 2, 3, 3, 4, 2, 3, 3, 4, 3, 4, 4, 5, 2, 3, 3, 4, 3, 4, 4, 5, 3, 4, 4, 5, 4, 5, 5, 6, 2, 3, 3, 4, 3, 4, 4, 5, 3, 4, 4, 5, 4, 5, 5, 6, 3, 4, 4, 5, 4, 5, 5, 6, 4, 5, 5, 6, 5, 6, 6, 7, 1, 2, 2, 3, 2, 3, 3, 4, 2, 3, 3, 4, 3, 4, 4, 5, 2, 3, 3, 4, 3, 4, 4, 5, 3, 4, 4, 5, 4, 5, 5, 6, 2, 3, 3, 4, 3, 4, 4, 5, 3, 4, 4, 5, 4, 5, 5, 6, 3, 4, 4, 5, 4, 5, 5, 6, 4, 5, 5, 6, 5, 6, 6, 7, 2, 3, 3, 4, 3, 4, 4, 5, 3, 4, 4, 5, 4, 5, 5, 6, 3, 4, 4, 5, 4, 5, 5, 6, 4, 5, 5, 6, 5, 6, 6, 7, 3, 4, 4, 5, 4, 5, 5, 6, 4, 5, 5, 6, 5, 6, 6, 7, 4, 5, 5, 6, 5, 6, 6, 7, 5, 6, 6, 7, 6, 7, 7, 8])) (.c (.i .u32 x8)))) fun v9 =>
  asI .u8 v9 fun x9 =>
  forceI (wr .u8 (x5 + x9)) fun x10 =>
  forceI (shrV .u32 x0 8) fun x12 =>
  forceI (bitV .and .u32 x12 255) fun x13 =>
  bindO (evP .e (.ixStr (.c (AVal.s [0, 1, 1, 2, 1, 2, 2, 3, 1, 2, 2, 3, 2, 3, 3, 4, 1, 2, 2, 3, 2, 3, 3, 4, 2, 3, 3, 4, 3, 4, 4, 5, 1, 2, 2, 3, 2, 3, 3, 4, 2, 3, 3, 4, 3, 4, 4, 5, 2, 3, 3, 4, 3, 4, 4, 5, 3, 4, 4, 5, 4, 5, 5, 6, 1, 2, 2, 3, 2, 3, 3, 4, 2, 3, 3, 4, 3, 4, 4, 5, 2, 3, 3, 4, 3, 4, 4, 5, 3, 4, 4, 5, 4, 5, 5, 6, 2, 3, 3, 4, 3, 4, 4, 5, 3, 4, 4, 5, 4, 5, 5, 6, 3, 4, 4, 5, 4, 5, 5, 6, 4, 5, 5, 6, 5, 6, 6, 7, 1, 2, 2, 3, 2, 3, 3, 4, 2, 3, 3, 4, 3, 4, 4, 5, 2, 3, 3, 4, 3, 4, 4, 5, 3, 4, 4, 5, 4, 5, 5, 6, 2, 3, 3, 4, 3, 4, 4, 5, 3, 4, 4, 5, 4, 5, 5, 6, 3, 4, 4, 5, 4, 5, 5, 6, 4, 5, 5, 6, 5, 6, 6, 7, 2, 3, 3, 4, 3, 4, 4, 5, 3, 4, 4, 5, 4, 5, 5, 6, 3, 4, 4, 5, 4, 5, 5, 6, 4, 5, 5, 6, 5, 6, 6, 7, 3, 4, 4, 5, 4, 5, 5, 6, 4, 5, 5, 6, 5, 6, 6, 7, 4, 5, 5, 6, 5, 6, 6, 7, 5, 6, 6, 7, 6, 7, 7, 8])) (.c (.i .u32 x13)))) fun v14 =>
  asI .u8 v14 fun x14 =>
  forceI (wr .u8 (x10 + x14)) fun x15 =>
  forceI (bitV .and .u32 x0 255) fun x17 =>
  bindO (evP .e (.ixStr (.c (AVal.s [0, 1, 1, 2, 1, 2, 2, 3, 1, 2, 2, 3, 2, 3, 3, 4, 1, 2, 2, 3, 2, 3, 3, 4, 2, 3, 3, 4, 3, 4, 4, 5, 1, 2, 2, 3, 2, 3, 3, 4, 2, 3, 3, 4, 3, 4, 4, 5, 2, 3, 3, 4, 3, 4, 4, 5, 3, 4, 4, 5, 4, 5, 5, 6, 1, 2, 2, 3, 2, 3, 3, 4, 2, 3, 3, 4, 3, 4, 4, 5, 2, 3, 3, 4, 3, 4, 4, 5, 3, 4, 4, 5, 4, 5, 5, 6, 2, 3, 3, 4, 3, 4, 4, 5, 3, 4, 4, 5, 4, 5, 5, 6, 3, 4, 4, 5, 4, 5, 5, 6, 4, 5, 5, 6, 5, 6, 6, 7, 1, 2, 2, 3, 2, 3, 3, 4, 2, 3, 3, 4, 3, 4, 4, 5, 2, 3, 3, 4, 3, 4, 4, 5, 3, 4, 4, 5, 4, 5, 5, 6, 2, 3, 3, 4, 3, 4, 4, 5, 3, 4, 4, 5, 4, 5, 5, 6, 3, 4, 4, 5, 4, 5, 5, 6, 4, 5, 5, 6, 5, 6, 6, 7, 2, 3, 3, 4, 3, 4, 4, 5, 3, 4, 4, 5, 4, 5, 5, 6, 3, 4, 4, 5, 4, 5, 5, 6, 4, 5, 5, 6, 5, 6, 6, 7, 3, 4, 4, 5, 4, 5, 5, 6, 4, 5, 5, 6, 5, 6, 6, 7, 4, 5, 5, 6, 5, 6, 6, 7, 5, 6, 6, 7, 6, 7, 7, 8])) (.c (.i .u32 x17)))) fun v18 =>
  asI .u8 v18 fun x18 =>
  forceI (wr .u8 (x15 + x18)) fun x19 =>
  forceI (wr .i64 x19) fun x20 =>
  finM m0.h.length (tupA [(.i .i64 x20)]) m0

theorem g82_ok {ro : List ABlk} {O : Caller} {M : Means} (hM : M.Ok ⟨F, O⟩ ro) {x0 h r} (ho : O 82 [(.i .u32 x0)] h = none) (hr : g82 M ro x0 ⟨h, h.length, h.length⟩ = some r) : callX ⟨F, O⟩ ro 82 [(.i .u32 x0)] h = some r := by
  refine callX_of (F := ⟨F, O⟩) (fn := fn82) (g := g82 M ro x0) ho rfl rfl hr ?_
  clear ho
  clear hr
  intro m0 t0 ht hr
  have g0 : t0.get 0 = (.i .u32 x0) := ht 0
  clear ht
  unfold g82 at hr
  refine w_seq ?_
  refine w_ops ?_
  refine wo_step (v := (.i .i64 0)) (s_pure (p_mv rfl)) ?_
  refine wo_nil ?_
  refine nx_norm ?_
  refine w_seq ?_
  refine w_ops ?_
  refine wo_step (v := (.i .u32 x0)) (s_pure (p_mv g0)) ?_
  have hq := forceI_inv hr
  clear hr
  obtain ⟨x4, e4, hr⟩ := hq
  refine wo_step (v := (.i .u32 x4)) (s_pure (p_bin rfl rfl ((b_shr rfl).trans (ci e4)))) ?_
  have hq := bindO_inv hr
  clear hr
  obtain ⟨v5, e5, hr⟩ := hq
  have hq := asI_inv hr
  clear hr
  obtain ⟨x5, rfl, hr⟩ := hq
  refine wo_step (v := (.i .u8 x5)) (s_pure (o_ixStr rfl rfl e5)) ?_
  refine wo_step (v := (.i .u32 x0)) (s_pure (p_mv g0)) ?_
  have hq := forceI_inv hr
  clear hr
  obtain ⟨x7, e7, hr⟩ := hq
  refine wo_step (v := (.i .u32 x7)) (s_pure (p_bin rfl rfl ((b_shr rfl).trans (ci e7)))) ?_
  have hq := forceI_inv hr
  clear hr
  obtain ⟨x8, e8, hr⟩ := hq
  refine wo_step (v := (.i .u32 x8)) (s_pure (p_bin rfl rfl (b_and.trans (ci e8)))) ?_
  have hq := bindO_inv hr
  clear hr
  obtain ⟨v9, e9, hr⟩ := hq
  have hq := asI_inv hr
  clear hr
  obtain ⟨x9, rfl, hr⟩ := hq
  refine wo_step (v := (.i .u8 x9)) (s_pure (o_ixStr rfl rfl e9)) ?_
  have hq := forceI_inv hr
  clear hr
  obtain ⟨x10, e10, hr⟩ := hq
  refine wo_step (v := (.i .u8 x10)) (s_pure (p_bin rfl rfl (b_add.trans (ci e10)))) ?_
  refine wo_step (v := (.i .u32 x0)) (s_pure (p_mv g0)) ?_
  have hq := forceI_inv hr
  clear hr
  obtain ⟨x12, e12, hr⟩ := hq
  refine wo_step (v := (.i .u32 x12)) (s_pure (p_bin rfl rfl ((b_shr rfl).trans (ci e12)))) ?_
  have hq := forceI_inv hr
  clear hr
  obtain ⟨x13, e13, hr⟩ := hq
  refine wo_step (v := (.i .u32 x13)) (s_pure (p_bin rfl rfl (b_and.trans (ci e13)))) ?_
  have hq := bindO_inv hr
  clear hr
  obtain ⟨v14, e14, hr⟩ := hq
  have hq := asI_inv hr
  clear hr
  obtain ⟨x14, rfl, hr⟩ := hq
  refine wo_step (v := (.i .u8 x14)) (s_pure (o_ixStr rfl rfl e14)) ?_
  have hq := forceI_inv hr
  clear hr
  obtain ⟨x15, e15, hr⟩ := hq
  refine wo_step (v := (.i .u8 x15)) (s_pure (p_bin rfl rfl (b_add.trans (ci e15)))) ?_
  refine wo_step (v := (.i .u32 x0)) (s_pure (p_mv g0)) ?_
  have hq := forceI_inv hr
  clear hr
  obtain ⟨x17, e17, hr⟩ := hq
  refine wo_step (v := (.i .u32 x17)) (s_pure (p_bin rfl rfl (b_and.trans (ci e17)))) ?_
  have hq := bindO_inv hr
  clear hr
  obtain ⟨v18, e18, hr⟩ := hq
  have hq := asI_inv hr
  clear hr
  obtain ⟨x18, rfl, hr⟩ := hq
  refine wo_step (v := (.i .u8 x18)) (s_pure (o_ixStr rfl rfl e18)) ?_
  have hq := forceI_inv hr
  clear hr
  obtain ⟨x19, e19, hr⟩ := hq
  refine wo_step (v := (.i .u8 x19)) (s_pure (p_bin rfl rfl (b_add.trans (ci e19)))) ?_
  have hq := forceI_inv hr
  clear hr
  obtain ⟨x20, e20, hr⟩ := hq
  refine wo_step (v := (.i .i64 x20)) (s_pure ((p_conv rfl).trans (ci e20))) ?_
  refine wo_step (v := (.i .i64 x20)) (s_pure (p_mv rfl)) ?_
  refine wo_nil ?_
  refine nx_norm ?_
  refine w_ret ?_
  exact qf ret_ok (rt rfl rn) hr

/- math/bits.OnesCount64 -/

def g83 (M : Means) (ro : List ABlk) (x0 : Int) (m0 : Mm) : Option (AVal × Heap × Nat × Nat) :=
  forceI (shrV .u64 x0 1) fun x4 =>
  forceI (bitV .and .u64 x4 6148914691236517205) fun x5 =>
  forceI (bitV .and .u64 x0 6148914691236517205) fun x7 =>
  forceI (wr .u64 (x5 + x7)) fun x8 =>
  forceI (shrV .u64 x8 2) fun x10 =>
  forceI (bitV .and .u64 x10 3689348814741910323) fun x11 =>
  forceI (bitV .and .u64 x8 3689348814741910323) fun x13 =>
  forceI (wr .u64 (x11 + x13)) fun x14 =>
  forceI (shrV .u64 x14 4) fun x16 =>
  forceI (wr .u64 (x16 + x14)) fun x18 =>
  forceI (bitV .and .u64 x18 1085102592571150095) fun x19 =>
  forceI (shrV .u64 x19 8) fun x22 =>
  forceI (wr .u64 (x19 + x22)) fun x23 =>
  forceI (shrV .u64 x23 16) fun x26 =>
  forceI (wr .u64 (x23 + x26)) fun x27 =>
  forceI (shrV .u64 x27 32) fun x30 =>
  forceI (wr .u64 (x27 + x30)) fun x31 =>
  forceI (wr .i64 x31) fun x33 =>
  forceI (bitV .and .i64 x33 127) fun x34 =>
  finM m0.h.length (tupA [(.i .i64 x34)]) m0

theorem g83_ok {ro : List ABlk} {O : Caller} {M : Means} (hM : M.Ok ⟨F, O⟩ ro) {x0 h r} (ho : O 83 [(.i .u64 x0)] h = none) (hr : g83 M ro x0 ⟨h, h.length, h.length⟩ = some r) : callX ⟨F, O⟩ ro 83 [(.i .u64 x0)] h = some r := by
  refine callX_of (F := ⟨F, O⟩) (fn := fn83) (g := g83 M ro x0) ho rfl rfl hr ?_
  clear ho
  clear hr
  intro m0 t0 ht hr
  have g0 : t0.get 0 = (.i .u64 x0) := ht 0
  clear ht
  unfold g83 at hr
  refine w_seq ?_
  refine w_ops ?_
  refine wo_step (v := (.i .i64 0)) (s_pure (p_mv rfl)) ?_
  refine wo_nil ?_
  refine nx_norm ?_
  refine w_seq ?_
  refine w_ops ?_
  refine wo_step (v := (.i .u64 x0)) (s_pure (p_mv g0)) ?_
  have hq := forceI_inv hr
  clear hr
  obtain ⟨x4, e4, hr⟩ := hq
  refine wo_step (v := (.i .u64 x4)) (s_pure (p_bin rfl rfl ((b_shr rfl).trans (ci e4)))) ?_
  have hq := forceI_inv hr
  clear hr
  obtain ⟨x5, e5, hr⟩ := hq
  refine wo_step (v := (.i .u64 x5)) (s_pure (p_bin rfl rfl (b_and.trans (ci e5)))) ?_
  refine wo_step (v := (.i .u64 x0)) (s_pure (p_mv g0)) ?_
  have hq := forceI_inv hr
  clear hr
  obtain ⟨x7, e7, hr⟩ := hq
  refine wo_step (v := (.i .u64 x7)) (s_pure (p_bin rfl rfl (b_and.trans (ci e7)))) ?_
  have hq := forceI_inv hr
  clear hr
  obtain ⟨x8, e8, hr⟩ := hq
  refine wo_step (v := (.i .u64 x8)) (s_pure (p_bin rfl rfl (b_add.trans (ci e8)))) ?_
  refine wo_step (v := (.i .u64 x8)) (s_pure (p_mv rfl)) ?_
  refine wo_nil ?_
  refine nx_norm ?_
  refine w_seq ?_
  refine w_ops ?_
  refine wo_step (v := (.i .u64 x8)) (s_pure (p_mv rfl)) ?_
  have hq := forceI_inv hr
  clear hr
  obtain ⟨x10, e10, hr⟩ := hq
  refine wo_step (v := (.i .u64 x10)) (s_pure (p_bin rfl rfl ((b_shr rfl).trans (ci e10)))) ?_
  have hq := forceI_inv hr
  clear hr
  obtain ⟨x11, e11, hr⟩ := hq
  refine wo_step (v := (.i .u64 x11)) (s_pure (p_bin rfl rfl (b_and.trans (ci e11)))) ?_
  refine wo_step (v := (.i .u64 x8)) (s_pure (p_mv rfl)) ?_
  have hq := forceI_inv hr
  clear hr
  obtain ⟨x13, e13, hr⟩ := hq
  refine wo_step (v := (.i .u64 x13)) (s_pure (p_bin rfl rfl (b_and.trans (ci e13)))) ?_
  have hq := forceI_inv hr
  clear hr
  obtain ⟨x14, e14, hr⟩ := hq
  refine wo_step (v := (.i .u64 x14)) (s_pure (p_bin rfl rfl (b_add.trans (ci e14)))) ?_
  refine wo_step (v := (.i .u64 x14)) (s_pure (p_mv rfl)) ?_
  refine wo_nil ?_
  refine nx_norm ?_
  refine w_seq ?_
  refine w_ops ?_
  refine wo_step (v := (.i .u64 x14)) (s_pure (p_mv rfl)) ?_
  have hq := forceI_inv hr
  clear hr
  obtain ⟨x16, e16, hr⟩ := hq
  refine wo_step (v := (.i .u64 x16)) (s_pure (p_bin rfl rfl ((b_shr rfl).trans (ci e16)))) ?_
  refine wo_step (v := (.i .u64 x14)) (s_pure (p_mv rfl)) ?_
  have hq := forceI_inv hr
  clear hr
  obtain ⟨x18, e18, hr⟩ := hq
  refine wo_step (v := (.i .u64 x18)) (s_pure (p_bin rfl rfl (b_add.trans (ci e18)))) ?_
  have hq := forceI_inv hr
  clear hr
  obtain ⟨x19, e19, hr⟩ := hq
  refine wo_step (v := (.i .u64 x19)) (s_pure (p_bin rfl rfl (b_and.trans (ci e19)))) ?_
  refine wo_step (v := (.i .u64 x19)) (s_pure (p_mv rfl)) ?_
  refine wo_nil ?_
  refine nx_norm ?_
  refine w_seq ?_
  refine w_ops ?_
  refine wo_step (v := (.i .u64 x19)) (s_pure (p_mv rfl)) ?_
  refine wo_step (v := (.i .u64 x19)) (s_pure (p_mv rfl)) ?_
  have hq := forceI_inv hr
  clear hr
  obtain ⟨x22, e22, hr⟩ := hq
  refine wo_step (v := (.i .u64 x22)) (s_pure (p_bin rfl rfl ((b_shr rfl).trans (ci e22)))) ?_
  have hq := forceI_inv hr
  clear hr
  obtain ⟨x23, e23, hr⟩ := hq
  refine wo_step (v := (.i .u64 x23)) (s_pure (p_bin rfl rfl (b_add.trans (ci e23)))) ?_
  refine wo_step (v := (.i .u64 x23)) (s_pure (p_mv rfl)) ?_
  refine wo_nil ?_
  refine nx_norm ?_
  refine w_seq ?_
  refine w_ops ?_
  refine wo_step (v := (.i .u64 x23)) (s_pure (p_mv rfl)) ?_
  refine wo_step (v := (.i .u64 x23)) (s_pure (p_mv rfl)) ?_
  have hq := forceI_inv hr
  clear hr
  obtain ⟨x26, e26, hr⟩ := hq
  refine wo_step (v := (.i .u64 x26)) (s_pure (p_bin rfl rfl ((b_shr rfl).trans (ci e26)))) ?_
  have hq := forceI_inv hr
  clear hr
  obtain ⟨x27, e27, hr⟩ := hq
  refine wo_step (v := (.i .u64 x27)) (s_pure (p_bin rfl rfl (b_add.trans (ci e27)))) ?_
  refine wo_step (v := (.i .u64 x27)) (s_pure (p_mv rfl)) ?_
  refine wo_nil ?_
  refine nx_norm ?_
  refine w_seq ?_
  refine w_ops ?_
  refine wo_step (v := (.i .u64 x27)) (s_pure (p_mv rfl)) ?_
  refine wo_step (v := (.i .u64 x27)) (s_pure (p_mv rfl)) ?_
  have hq := forceI_inv hr
  clear hr
  obtain ⟨x30, e30, hr⟩ := hq
  refine wo_step (v := (.i .u64 x30)) (s_pure (p_bin rfl rfl ((b_shr rfl).trans (ci e30)))) ?_
  have hq := forceI_inv hr
  clear hr
  obtain ⟨x31, e31, hr⟩ := hq
  refine wo_step (v := (.i .u64 x31)) (s_pure (p_bin rfl rfl (b_add.trans (ci e31)))) ?_
  refine wo_step (v := (.i .u64 x31)) (s_pure (p_mv rfl)) ?_
  refine wo_nil ?_
  refine nx_norm ?_
  refine w_seq ?_
  refine w_ops ?_
  refine wo_step (v := (.i .u64 x31)) (s_pure (p_mv rfl)) ?_
  have hq := forceI_inv hr
  clear hr
  obtain ⟨x33, e33, hr⟩ := hq
  refine wo_step (v := (.i .i64 x33)) (s_pure ((p_conv rfl).trans (ci e33))) ?_
  have hq := forceI_inv hr
  clear hr
  obtain ⟨x34, e34, hr⟩ := hq
  refine wo_step (v := (.i .i64 x34)) (s_pure (p_bin rfl rfl (b_and.trans (ci e34)))) ?_
  refine wo_step (v := (.i .i64 x34)) (s_pure (p_mv rfl)) ?_
  refine wo_nil ?_
  refine nx_norm ?_
  refine w_ret ?_
  exact qf ret_ok (rt rfl rn) hr

/- (dibber/luck.halver).foretell -/
abbrev g99_I0 (v2 : AVal) (v1 : AVal) (x9 : Int) (s : Int × Int × Mm) (m1 : Mm) (t1 : Tr) : Prop :=
  match s with
  | (x5, x10, m_2) => m_2 = m1 ∧ t1.get 5 = (.i .i64 x5) ∧ t1.get 10 = (.i .i64 x10) ∧ t1.get 2 = v2 ∧ t1.get 8 = v1 ∧ t1.get 9 = (.i .i64 x9)
abbrev g99_J0 (v2 : AVal) (v1 : AVal) (x9 : Int) (o : (Int × Mm)) (e : AExit) (m1 : Mm) (t1 : Tr) : Prop :=
  match o with
  | (y5, mo) => e = (.exit 0) ∧ mo = m1 ∧ t1.get 5 = (.i .i64 y5)
abbrev g99_J1 (v2 : AVal) (v1 : AVal) (x9 : Int) (x10 : Int) (o : (Int × Mm)) (e : AExit) (m1 : Mm) (t1 : Tr) : Prop :=
  match o with
  | (y5, mo) => e = .norm ∧ mo = m1 ∧ t1.get 5 = (.i .i64 y5) ∧ t1.get 2 = v2 ∧ t1.get 8 = v1 ∧ t1.get 9 = (.i .i64 x9) ∧ t1.get 10 = (.i .i64 x10)
def g99_b0 (M : Means) (ro : List ABlk) (v2 : AVal) (v1 : AVal) (x9 : Int) (x5 : Int) (x10 : Int) (m_2 : Mm) : Option ((Int × Int × Mm) ⊕ ((Int × Mm))) :=
  forceB (ltI x10 x9) fun c11 =>
  cond c11 (
    bindO (evP .e (.ixS 1 (.c v1) (.c (.i .i64 x10)))) fun v13 =>
    bindO (ldM ro m_2 true 1 v13) fun v14 =>
    asI .i64 v14 fun x14 =>
    bindO (evP .e (.faddr 0 (.c v2))) fun v15 =>
    bindO (ldM ro m_2 true 1 v15) fun v16 =>
    bindO (evP .e (.ixS 1 (.c v16) (.c (.i .i64 x10)))) fun v18 =>
    bindO (ldM ro m_2 true 1 v18) fun v19 =>
    asI .i64 v19 fun x19 =>
    forceB (eqI x19 0) fun c20 =>
    bindO (α := (Int × Mm)) (
      cond c20 (
        bindP (callM M.call m_2 101 [(.i .i64 x14)]) fun v23 m_3 =>
        asI .i64 v23 fun x23 =>
        forceI (wr .i64 (x5 + x23)) fun x24 =>
        some (x24, m_3)) (
        some (x5, m_2))) fun ⟨x5_1, m_4⟩ =>
    forceI (wr .i64 (x10 + 1)) fun x25 =>
    some (.inl (x5_1, x25, m_4))) (
    some (.inr (x5, m_2)))
def g99 (M : Means) (ro : List ABlk) (v0 : AVal) (v1 : AVal) (m0 : Mm) : Option (AVal × Heap × Nat × Nat) :=
  bindP (stepM ro m0 (.bx 71 1 (.c v0))) fun v2 m_1 =>
  bindO (evP .e (.len false (.c v1))) fun v9 =>
  asI .i64 v9 fun x9 =>
  bindO (M.loop (S := Int × Int × Mm) (R := (Int × Mm)) (fun s => g99_b0 M ro v2 v1 x9 s.1 s.2.1 s.2.2) (0, 0, m_1)) fun ⟨x5_2, m_5⟩ =>
  bindP (callM M.call m_5 102 [(.i .i64 x5_2)]) fun v27 m_6 =>
  asI .i64 v27 fun x27 =>
  finM m0.h.length (tupA [(.i .i64 x27)]) m_6

theorem g99_ok {ro : List ABlk} {O : Caller} {M : Means} (hM : M.Ok ⟨F, O⟩ ro) {v0 v1 h r} (ho : O 99 [v0, v1] h = none) (hr : g99 M ro v0 v1 ⟨h, h.length, h.length⟩ = some r) : callX ⟨F, O⟩ ro 99 [v0, v1] h = some r := by
  refine callX_of (F := ⟨F, O⟩) (fn := fn99) (g := g99 M ro v0 v1) ho rfl rfl hr ?_
  clear ho
  clear hr
  intro m0 t0 ht hr
  have g0 : t0.get 0 = v0 := ht 0
  have g1 : t0.get 1 = v1 := ht 1
  clear ht
  unfold g99 at hr
  refine w_seq ?_
  refine w_ops ?_
  have hq := bindP_inv hr
  clear hr
  obtain ⟨v2, m_1, e2, hr⟩ := hq
  refine wo_step (v := v2) (s_bx g0 e2) ?_
  refine wo_step (v := (.i .i64 0)) (s_pure (p_mv rfl)) ?_
  refine wo_nil ?_
  refine nx_norm ?_
  refine w_seq ?_
  refine w_ops ?_
  refine wo_step (v := (.i .i64 0)) (s_pure (p_mv rfl)) ?_
  refine wo_nil ?_
  refine nx_norm ?_
  refine w_seq ?_
  refine w_seq ?_
  refine w_ops ?_
  refine wo_step (v := v1) (s_pure (p_mv g1)) ?_
  have hq := bindO_inv hr
  clear hr
  obtain ⟨v9, e9, hr⟩ := hq
  have hq := asI_inv hr
  clear hr
  obtain ⟨x9, rfl, hr⟩ := hq
  refine wo_step (v := (.i .i64 x9)) (s_pure (o_len rfl e9)) ?_
  refine wo_step (v := (.i .i64 0)) (s_pure (p_mv rfl)) ?_
  refine wo_nil ?_
  refine nx_norm ?_
  refine w_block ?_
  have hq := bindO_inv hr
  clear hr
  obtain ⟨o_1, hl, hr⟩ := hq
  obtain ⟨n, hl⟩ := hM.loop _ _ _ hl
  refine jp_mono (w_loop _ (g99_I0 v2 v1 x9) (g99_J0 v2 v1 x9) ?_ n _ _ _ _ hl ⟨rfl, gl rfl, gl rfl, gl rfl, gl rfl, gl rfl⟩) ?_
  · clear hr hl
    intro s mm_2 t_1 o hi hr
    obtain ⟨x5, x10, m_2⟩ := s
    obtain ⟨rfl, g5, g10, g2, g8, g9⟩ := hi
    unfold g99_b0 at hr
    refine w_seq ?_
    refine w_ops ?_
    have hq := forceB_inv hr
    clear hr
    obtain ⟨c11, e11, hr⟩ := hq
    refine wo_step (v := (.b c11)) (s_pure (p_bin g10 g9 (b_lss.trans (cb e11)))) ?_
    refine wo_nil ?_
    refine nx_norm ?_
    refine w_seq ?_
    have hq := cond_inv hr
    clear hr
    rcases hq with ⟨rfl, hr⟩ | ⟨rfl, hr⟩
    · refine w_condT rfl ?_
      refine w_skip ?_
      refine nx_norm ?_
      refine w_seq ?_
      refine w_block ?_
      refine w_seq ?_
      refine w_ops ?_
      refine wo_step (v := (.i .i64 x10)) (s_pure (p_mv g10)) ?_
      have hq := bindO_inv hr
      clear hr
      obtain ⟨v13, e13, hr⟩ := hq
      refine wo_step (v := v13) (s_pure (o_ixS g8 g10 e13)) ?_
      have hq := bindO_inv hr
      clear hr
      obtain ⟨v14, e14, hr⟩ := hq
      have hq := asI_inv hr
      clear hr
      obtain ⟨x14, rfl, hr⟩ := hq
      refine wo_step (v := (.i .i64 x14)) (s_ld rfl e14) ?_
      refine wo_step (v := (.i .i64 x10)) (s_pure (p_mv rfl)) ?_
      refine wo_step (v := (.i .i64 x14)) (s_pure (p_mv rfl)) ?_
      refine wo_nil ?_
      refine nx_norm ?_
      refine w_seq ?_
      refine w_ops ?_
      have hq := bindO_inv hr
      clear hr
      obtain ⟨v15, e15, hr⟩ := hq
      refine wo_step (v := v15) (s_pure (o_faddr g2 e15)) ?_
      have hq := bindO_inv hr
      clear hr
      obtain ⟨v16, e16, hr⟩ := hq
      refine wo_step (v := v16) (s_ld rfl e16) ?_
      refine wo_step (v := (.i .i64 x10)) (s_pure (p_mv rfl)) ?_
      have hq := bindO_inv hr
      clear hr
      obtain ⟨v18, e18, hr⟩ := hq
      refine wo_step (v := v18) (s_pure (o_ixS rfl rfl e18)) ?_
      have hq := bindO_inv hr
      clear hr
      obtain ⟨v19, e19, hr⟩ := hq
      have hq := asI_inv hr
      clear hr
      obtain ⟨x19, rfl, hr⟩ := hq
      refine wo_step (v := (.i .i64 x19)) (s_ld rfl e19) ?_
      have hq := forceB_inv hr
      clear hr
      obtain ⟨c20, e20, hr⟩ := hq
      refine wo_step (v := (.b c20)) (s_pure (p_bin rfl rfl (b_eql.trans (cb e20)))) ?_
      refine wo_nil ?_
      refine nx_norm ?_
      have hq := bindO_inv hr
      clear hr
      obtain ⟨o, hr, hk⟩ := hq
      refine jp_mono (J := g99_J1 v2 v1 x9 x10 o) ?_ ?_
      · clear hk
        have hq := cond_inv hr
        clear hr
        rcases hq with ⟨rfl, hr⟩ | ⟨rfl, hr⟩
        · refine w_condT rfl ?_
          refine w_ops ?_
          refine wo_step (v := (.i .i64 x5)) (s_pure (p_mv g5)) ?_
          refine wo_step (v := (.i .i64 x14)) (s_pure (p_mv rfl)) ?_
          have hq := bindP_inv hr
          clear hr
          obtain ⟨v23, m_3, e23, hr⟩ := hq
          have hq := asI_inv hr
          clear hr
          obtain ⟨x23, rfl, hr⟩ := hq
          refine wo_step (v := (.i .i64 x23)) (s_call (mc rfl mn) (callM_le hM.call e23)) ?_
          have hq := forceI_inv hr
          clear hr
          obtain ⟨x24, e24, hr⟩ := hq
          refine wo_step (v := (.i .i64 x24)) (s_pure (p_bin rfl rfl (b_add.trans (ci e24)))) ?_
          refine wo_step (v := (.i .i64 x24)) (s_pure (p_mv rfl)) ?_
          refine wo_nil ?_
          cases hr
          exact ⟨_, _, rfl, rfl, rfl, gl rfl, gl g2, gl g8, gl g9, gl g10⟩
        · refine w_condF rfl ?_
          refine w_skip ?_
          cases hr
          exact ⟨_, _, rfl, rfl, rfl, gl g5, gl g2, gl g8, gl g9, gl g10⟩
      · have hr := hk
        clear hk
        obtain ⟨x5_1, m_4⟩ := o
        rintro _ mm t_2 ⟨rfl, rfl, g5, g2, g8, g9, g10⟩
        refine bk_norm ?_
        refine nx_norm ?_
        refine w_ops ?_
        have hq := forceI_inv hr
        clear hr
        obtain ⟨x25, e25, hr⟩ := hq
        refine wo_step (v := (.i .i64 x25)) (s_pure (p_bin g10 rfl (b_add.trans (ci e25)))) ?_
        refine wo_step (v := (.i .i64 x25)) (s_pure (p_mv rfl)) ?_
        refine wo_nil ?_
        cases hr
        exact ⟨_, _, rfl, rfl, rfl, gl g5, gl rfl, gl g2, gl g8, gl g9⟩
    · refine w_condF rfl ?_
      refine w_exit ?_
      refine nx_exit ?_
      cases hr
      exact ⟨_, _, rfl, ne_norm_exit, rfl, rfl, gl g5⟩
  · obtain ⟨x5_2, m_5⟩ := o_1
    rintro _ mm_1 t_3 ⟨rfl, rfl, g5⟩
    refine bk_hit ?_
    refine nx_norm ?_
    refine w_seq ?_
    refine w_ops ?_
    refine wo_step (v := (.i .i64 x5_2)) (s_pure (p_mv g5)) ?_
    have hq := bindP_inv hr
    clear hr
    obtain ⟨v27, m_6, e27, hr⟩ := hq
    have hq := asI_inv hr
    clear hr
    obtain ⟨x27, rfl, hr⟩ := hq
    refine wo_step (v := (.i .i64 x27)) (s_call (mc rfl mn) (callM_le hM.call e27)) ?_
    refine wo_step (v := (.i .i64 x27)) (s_pure (p_mv rfl)) ?_
    refine wo_nil ?_
    refine nx_norm ?_
    refine w_ret ?_
    exact qf ret_ok (rt rfl rn) hr

/- (dibber/luck.halver).learn -/
abbrev g100_I0 (x3 : Int) (v4 : AVal) (v1 : AVal) (x11 : Int) (s : Int × Mm) (m1 : Mm) (t1 : Tr) : Prop :=
  match s with
  | (x12, m_2) => m_2 = m1 ∧ t1.get 12 = (.i .i64 x12) ∧ t1.get 3 = (.i .i64 x3) ∧ t1.get 4 = v4 ∧ t1.get 10 = v1 ∧ t1.get 11 = (.i .i64 x11)
abbrev g100_J0 (x3 : Int) (v4 : AVal) (v1 : AVal) (x11 : Int) (o : Mm) (e : AExit) (m1 : Mm) (t1 : Tr) : Prop :=
  match o with
  | mo => e = (.exit 0) ∧ mo = m1
abbrev g100_J1 (x3 : Int) (v4 : AVal) (v1 : AVal) (x11 : Int) (x12 : Int) (o : Mm) (e : AExit) (m1 : Mm) (t1 : Tr) : Prop :=
  match o with
  | mo => e = .norm ∧ mo = m1 ∧ t1.get 3 = (.i .i64 x3) ∧ t1.get 4 = v4 ∧ t1.get 10 = v1 ∧ t1.get 11 = (.i .i64 x11) ∧ t1.get 12 = (.i .i64 x12)
def g100_b0 (M : Means) (ro : List ABlk) (x3 : Int) (v4 : AVal) (v1 : AVal) (x11 : Int) (x12 : Int) (m_2 : Mm) : Option ((Int × Mm) ⊕ (Mm)) :=
  forceB (ltI x12 x11) fun c13 =>
  cond c13 (
    bindO (evP .e (.ixS 1 (.c v1) (.c (.i .i64 x12)))) fun v15 =>
    bindO (ldM ro m_2 true 1 v15) fun v16 =>
    asI .i64 v16 fun x16 =>
    forceB (!eqI x16 x3) fun c19 =>
    bindO (α := Mm) (
      cond c19 (
        bindO (evP .e (.faddr 0 (.c v4))) fun v20 =>
        bindO (ldM ro m_2 true 1 v20) fun v21 =>
        bindO (evP .e (.ixS 1 (.c v21) (.c (.i .i64 x12)))) fun v23 =>
        bindO (ldM ro m_2 true 1 v23) fun v24 =>
        asI .i64 v24 fun x24 =>
        forceI (wr .i64 (x24 + 1)) fun x25 =>
        bindO (evP .e (.ixS 1 (.c v21) (.c (.i .i64 x12)))) fun v26 =>
        bindP (stepM ro m_2 (.st 1 (.c v26) (.c (.i .i64 x25)))) fun vn m_3 =>
        some m_3) (
        some m_2)) fun m_4 =>
    forceI (wr .i64 (x12 + 1)) fun x27 =>
    some (.inl (x27, m_4))) (
    some (.inr m_2))
def g100 (M : Means) (ro : List ABlk) (v0 : AVal) (v1 : AVal) (x2 : Int) (x3 : Int) (m0 : Mm) : Option (AVal × Heap × Nat × Nat) :=
  bindP (stepM ro m0 (.bx 71 1 (.c v0))) fun v4 m_1 =>
  bindO (evP .e (.len false (.c v1))) fun v11 =>
  asI .i64 v11 fun x11 =>
  bindO (M.loop (S := Int × Mm) (R := Mm) (fun s => g100_b0 M ro x3 v4 v1 x11 s.1 s.2) (0, m_1)) fun m_5 =>
  finM m0.h.length (tupA []) m_5

theorem g100_ok {ro : List ABlk} {O : Caller} {M : Means} (hM : M.Ok ⟨F, O⟩ ro) {v0 v1 x2 x3 h r} (ho : O 100 [v0, v1, (.i .i64 x2), (.i .i64 x3)] h = none) (hr : g100 M ro v0 v1 x2 x3 ⟨h, h.length, h.length⟩ = some r) : callX ⟨F, O⟩ ro 100 [v0, v1, (.i .i64 x2), (.i .i64 x3)] h = some r := by
  refine callX_of (F := ⟨F, O⟩) (fn := fn100) (g := g100 M ro v0 v1 x2 x3) ho rfl rfl hr ?_
  clear ho
  clear hr
  intro m0 t0 ht hr
  have g0 : t0.get 0 = v0 := ht 0
  have g1 : t0.get 1 = v1 := ht 1
  have g2 : t0.get 2 = (.i .i64 x2) := ht 2
  have g3 : t0.get 3 = (.i .i64 x3) := ht 3
  clear ht
  unfold g100 at hr
  refine w_seq ?_
  refine w_ops ?_
  have hq := bindP_inv hr
  clear hr
  obtain ⟨v4, m_1, e4, hr⟩ := hq
  refine wo_step (v := v4) (s_bx g0 e4) ?_
  refine wo_nil ?_
  refine nx_norm ?_
  refine w_seq ?_
  refine w_ops ?_
  refine wo_step (v := v1) (s_pure (p_mv g1)) ?_
  have hq := bindO_inv hr
  clear hr
  obtain ⟨v11, e11, hr⟩ := hq
  have hq := asI_inv hr
  clear hr
  obtain ⟨x11, rfl, hr⟩ := hq
  refine wo_step (v := (.i .i64 x11)) (s_pure (o_len rfl e11)) ?_
  refine wo_step (v := (.i .i64 0)) (s_pure (p_mv rfl)) ?_
  refine wo_nil ?_
  refine nx_norm ?_
  refine w_block ?_
  have hq := bindO_inv hr
  clear hr
  obtain ⟨o_1, hl, hr⟩ := hq
  obtain ⟨n, hl⟩ := hM.loop _ _ _ hl
  refine jp_mono (w_loop _ (g100_I0 x3 v4 v1 x11) (g100_J0 x3 v4 v1 x11) ?_ n _ _ _ _ hl ⟨rfl, gl rfl, gl g3, gl rfl, gl rfl, gl rfl⟩) ?_
  · clear hr hl
    intro s mm_2 t_1 o hi hr
    obtain ⟨x12, m_2⟩ := s
    obtain ⟨rfl, g12, g3, g4, g10, g11⟩ := hi
    unfold g100_b0 at hr
    refine w_seq ?_
    refine w_ops ?_
    have hq := forceB_inv hr
    clear hr
    obtain ⟨c13, e13, hr⟩ := hq
    refine wo_step (v := (.b c13)) (s_pure (p_bin g12 g11 (b_lss.trans (cb e13)))) ?_
    refine wo_nil ?_
    refine nx_norm ?_
    refine w_seq ?_
    have hq := cond_inv hr
    clear hr
    rcases hq with ⟨rfl, hr⟩ | ⟨rfl, hr⟩
    · refine w_condT rfl ?_
      refine w_skip ?_
      refine nx_norm ?_
      refine w_seq ?_
      refine w_block ?_
      refine w_seq ?_
      refine w_ops ?_
      refine wo_step (v := (.i .i64 x12)) (s_pure (p_mv g12)) ?_
      have hq := bindO_inv hr
      clear hr
      obtain ⟨v15, e15, hr⟩ := hq
      refine wo_step (v := v15) (s_pure (o_ixS g10 g12 e15)) ?_
      have hq := bindO_inv hr
      clear hr
      obtain ⟨v16, e16, hr⟩ := hq
      have hq := asI_inv hr
      clear hr
      obtain ⟨x16, rfl, hr⟩ := hq
      refine wo_step (v := (.i .i64 x16)) (s_ld rfl e16) ?_
      refine wo_step (v := (.i .i64 x12)) (s_pure (p_mv rfl)) ?_
      refine wo_step (v := (.i .i64 x16)) (s_pure (p_mv rfl)) ?_
      refine wo_nil ?_
      refine nx_norm ?_
      refine w_seq ?_
      refine w_ops ?_
      refine wo_step (v := (.i .i64 x16)) (s_pure (p_mv rfl)) ?_
      refine wo_step (v := (.i .i64 x3)) (s_pure (p_mv g3)) ?_
      have hq := forceB_inv hr
      clear hr
      obtain ⟨c19, e19, hr⟩ := hq
      refine wo_step (v := (.b c19)) (s_pure (p_bin rfl rfl (b_neq.trans (cb e19)))) ?_
      refine wo_nil ?_
      refine nx_norm ?_
      have hq := bindO_inv hr
      clear hr
      obtain ⟨o, hr, hk⟩ := hq
      refine jp_mono (J := g100_J1 x3 v4 v1 x11 x12 o) ?_ ?_
      · clear hk
        have hq := cond_inv hr
        clear hr
        rcases hq with ⟨rfl, hr⟩ | ⟨rfl, hr⟩
        · refine w_condT rfl ?_
          refine w_ops ?_
          have hq := bindO_inv hr
          clear hr
          obtain ⟨v20, e20, hr⟩ := hq
          refine wo_step (v := v20) (s_pure (o_faddr g4 e20)) ?_
          have hq := bindO_inv hr
          clear hr
          obtain ⟨v21, e21, hr⟩ := hq
          refine wo_step (v := v21) (s_ld rfl e21) ?_
          refine wo_step (v := (.i .i64 x12)) (s_pure (p_mv rfl)) ?_
          have hq := bindO_inv hr
          clear hr
          obtain ⟨v23, e23, hr⟩ := hq
          refine wo_step (v := v23) (s_pure (o_ixS rfl rfl e23)) ?_
          have hq := bindO_inv hr
          clear hr
          obtain ⟨v24, e24, hr⟩ := hq
          have hq := asI_inv hr
          clear hr
          obtain ⟨x24, rfl, hr⟩ := hq
          refine wo_step (v := (.i .i64 x24)) (s_ld rfl e24) ?_
          have hq := forceI_inv hr
          clear hr
          obtain ⟨x25, e25, hr⟩ := hq
          refine wo_step (v := (.i .i64 x25)) (s_pure (p_bin rfl rfl (b_add.trans (ci e25)))) ?_
          have hq := bindO_inv hr
          clear hr
          obtain ⟨v26, e26, hr⟩ := hq
          refine wo_step (v := v26) (s_pure (o_ixS rfl rfl e26)) ?_
          have hq := bindP_inv hr
          clear hr
          obtain ⟨vn, m_3, en, hr⟩ := hq
          refine wo_stepN (s_st rfl rfl en) ?_
          refine wo_nil ?_
          cases hr
          exact ⟨_, _, rfl, rfl, rfl, gl g3, gl g4, gl g10, gl g11, gl g12⟩
        · refine w_condF rfl ?_
          refine w_skip ?_
          cases hr
          exact ⟨_, _, rfl, rfl, rfl, gl g3, gl g4, gl g10, gl g11, gl g12⟩
      · have hr := hk
        clear hk
        obtain ⟨m_4, ho⟩ : ∃ z, z = o := ⟨_, rfl⟩
        subst ho
        rintro _ mm t_2 ⟨rfl, rfl, g3, g4, g10, g11, g12⟩
        refine bk_norm ?_
        refine nx_norm ?_
        refine w_ops ?_
        have hq := forceI_inv hr
        clear hr
        obtain ⟨x27, e27, hr⟩ := hq
        refine wo_step (v := (.i .i64 x27)) (s_pure (p_bin g12 rfl (b_add.trans (ci e27)))) ?_
        refine wo_step (v := (.i .i64 x27)) (s_pure (p_mv rfl)) ?_
        refine wo_nil ?_
        cases hr
        exact ⟨_, _, rfl, rfl, rfl, gl rfl, gl g3, gl g4, gl g10, gl g11⟩
    · refine w_condF rfl ?_
      refine w_exit ?_
      refine nx_exit ?_
      cases hr
      exact ⟨_, _, rfl, ne_norm_exit, rfl, rfl⟩
  · obtain ⟨m_5, ho⟩ : ∃ z, z = o_1 := ⟨_, rfl⟩
    subst ho
    rintro _ mm_1 t_3 ⟨rfl, rfl⟩
    refine bk_hit ?_
    exact qf norm_ok rn hr

/- dibber/luck.vote -/

def g101 (M : Means) (ro : List ABlk) (x0 : Int) (m0 : Mm) : Option (AVal × Heap × Nat × Nat) :=
  forceI (wr .i64 (2 * x0)) fun x4 =>
  forceI (wr .i64 (x4 - 1)) fun x5 =>
  finM m0.h.length (tupA [(.i .i64 x5)]) m0

theorem g101_ok {ro : List ABlk} {O : Caller} {M : Means} (hM : M.Ok ⟨F, O⟩ ro) {x0 h r} (ho : O 101 [(.i .i64 x0)] h = none) (hr : g101 M ro x0 ⟨h, h.length, h.length⟩ = some r) : callX ⟨F, O⟩ ro 101 [(.i .i64 x0)] h = some r := by
  refine callX_of (F := ⟨F, O⟩) (fn := fn101) (g := g101 M ro x0) ho rfl rfl hr ?_
  clear ho
  clear hr
  intro m0 t0 ht hr
  have g0 : t0.get 0 = (.i .i64 x0) := ht 0
  clear ht
  unfold g101 at hr
  refine w_seq ?_
  refine w_ops ?_
  refine wo_step (v := (.i .i64 0)) (s_pure (p_mv rfl)) ?_
  refine wo_nil ?_
  refine nx_norm ?_
  refine w_seq ?_
  refine w_ops ?_
  refine wo_step (v := (.i .i64 x0)) (s_pure (p_mv g0)) ?_
  have hq := forceI_inv hr
  clear hr
  obtain ⟨x4, e4, hr⟩ := hq
  refine wo_step (v := (.i .i64 x4)) (s_pure (p_bin rfl rfl (b_mul.trans (ci e4)))) ?_
  have hq := forceI_inv hr
  clear hr
  obtain ⟨x5, e5, hr⟩ := hq
  refine wo_step (v := (.i .i64 x5)) (s_pure (p_bin rfl rfl (b_sub.trans (ci e5)))) ?_
  refine wo_step (v := (.i .i64 x5)) (s_pure (p_mv rfl)) ?_
  refine wo_nil ?_
  refine nx_norm ?_
  refine w_ret ?_
  exact qf ret_ok (rt rfl rn) hr

/- dibber/luck.side -/

def g102 (M : Means) (ro : List ABlk) (x0 : Int) (m0 : Mm) : Option (AVal × Heap × Nat × Nat) :=
  forceB (ltI 0 x0) fun c4 =>
  cond c4 (
    finM m0.h.length (tupA [(.i .i64 1)]) m0) (
    finM m0.h.length (tupA [(.i .i64 0)]) m0)

theorem g102_ok {ro : List ABlk} {O : Caller} {M : Means} (hM : M.Ok ⟨F, O⟩ ro) {x0 h r} (ho : O 102 [(.i .i64 x0)] h = none) (hr : g102 M ro x0 ⟨h, h.length, h.length⟩ = some r) : callX ⟨F, O⟩ ro 102 [(.i .i64 x0)] h = some r := by
  refine callX_of (F := ⟨F, O⟩) (fn := fn102) (g := g102 M ro x0) ho rfl rfl hr ?_
  clear ho
  clear hr
  intro m0 t0 ht hr
  have g0 : t0.get 0 = (.i .i64 x0) := ht 0
  clear ht
  unfold g102 at hr
  refine w_seq ?_
  refine w_ops ?_
  refine wo_step (v := (.i .i64 0)) (s_pure (p_mv rfl)) ?_
  refine wo_nil ?_
  refine nx_norm ?_
  refine w_seq ?_
  refine w_seq ?_
  refine w_ops ?_
  refine wo_step (v := (.i .i64 x0)) (s_pure (p_mv g0)) ?_
  have hq := forceB_inv hr
  clear hr
  obtain ⟨c4, e4, hr⟩ := hq
  refine wo_step (v := (.b c4)) (s_pure (p_bin rfl rfl (b_gtr.trans (cb e4)))) ?_
  refine wo_nil ?_
  refine nx_norm ?_
  have hq := cond_inv hr
  clear hr
  rcases hq with ⟨rfl, hr⟩ | ⟨rfl, hr⟩
  · refine w_condT rfl ?_
    refine w_seq ?_
    refine w_ops ?_
    refine wo_step (v := (.i .i64 1)) (s_pure (p_mv rfl)) ?_
    refine wo_nil ?_
    refine nx_norm ?_
    refine w_ret ?_
    refine nx_ret ?_
    exact qf ret_ok (rt rfl rn) hr
  · refine w_condF rfl ?_
    refine w_skip ?_
    refine nx_norm ?_
    refine w_seq ?_
    refine w_ops ?_
    refine wo_step (v := (.i .i64 0)) (s_pure (p_mv rfl)) ?_
    refine wo_nil ?_
    refine nx_norm ?_
    refine w_ret ?_
    exact qf ret_ok (rt rfl rn) hr

/- (dibber/luck.winnower).foretell -/
abbrev g103_I0 (v1 : AVal) (v2 : AVal) (x9 : Int) (m_1 : Mm) (s : Int × Int) (m1 : Mm) (t1 : Tr) : Prop :=
  match s with
  | (x5, x10) => m_1 = m1 ∧ t1.get 5 = (.i .i64 x5) ∧ t1.get 10 = (.i .i64 x10) ∧ t1.get 1 = v1 ∧ t1.get 2 = v2 ∧ t1.get 8 = v1 ∧ t1.get 9 = (.i .i64 x9)
abbrev g103_J0 (v1 : AVal) (v2 : AVal) (x9 : Int) (m_1 : Mm) (o : Int) (e : AExit) (m1 : Mm) (t1 : Tr) : Prop :=
  match o with
  | y5 => e = (.exit 0) ∧ m_1 = m1 ∧ t1.get 5 = (.i .i64 y5) ∧ t1.get 1 = v1
def g103_b0 (M : Means) (ro : List ABlk) (v1 : AVal) (v2 : AVal) (x9 : Int) (m_1 : Mm) (x5 : Int) (x10 : Int) : Option ((Int × Int) ⊕ (Int)) :=
  forceB (ltI x10 x9) fun c11 =>
  cond c11 (
    bindO (evP .e (.ixS 1 (.c v1) (.c (.i .i64 x10)))) fun v13 =>
    bindO (ldM ro m_1 true 1 v13) fun v14 =>
    asI .i64 v14 fun x14 =>
    bindO (evP .e (.faddr 0 (.c v2))) fun v17 =>
    bindO (ldM ro m_1 true 1 v17) fun v18 =>
    bindO (evP .e (.ixS 1 (.c v18) (.c (.i .i64 x10)))) fun v20 =>
    bindO (ldM ro m_1 true 1 v20) fun v21 =>
    asI .i64 v21 fun x21 =>
    forceI (wr .i64 (x14 * x21)) fun x22 =>
    forceI (wr .i64 (x5 + x22)) fun x23 =>
    forceI (wr .i64 (x10 + 1)) fun x24 =>
    some (.inl (x23, x24))) (
    some (.inr x5))
def g103 (M : Means) (ro : List ABlk) (v0 : AVal) (v1 : AVal) (m0 : Mm) : Option (AVal × Heap × Nat × Nat) :=
  bindP (stepM ro m0 (.bx 74 1 (.c v0))) fun v2 m_1 =>
  bindO (evP .e (.len false (.c v1))) fun v9 =>
  asI .i64 v9 fun x9 =>
  bindO (M.loop (S := Int × Int) (R := Int) (fun s => g103_b0 M ro v1 v2 x9 m_1 s.1 s.2) (0, 0)) fun x5_1 =>
  bindO (evP .e (.len false (.c v1))) fun v27 =>
  asI .i64 v27 fun x27 =>
  forceB (!ltI x5_1 x27) fun c28 =>
  cond c28 (
    finM m0.h.length (tupA [(.i .i64 1)]) m_1) (
    finM m0.h.length (tupA [(.i .i64 0)]) m_1)

theorem g103_ok {ro : List ABlk} {O : Caller} {M : Means} (hM : M.Ok ⟨F, O⟩ ro) {v0 v1 h r} (ho : O 103 [v0, v1] h = none) (hr : g103 M ro v0 v1 ⟨h, h.length, h.length⟩ = some r) : callX ⟨F, O⟩ ro 103 [v0, v1] h = some r := by
  refine callX_of (F := ⟨F, O⟩) (fn := fn103) (g := g103 M ro v0 v1) ho rfl rfl hr ?_
  clear ho
  clear hr
  intro m0 t0 ht hr
  have g0 : t0.get 0 = v0 := ht 0
  have g1 : t0.get 1 = v1 := ht 1
  clear ht
  unfold g103 at hr
  refine w_seq ?_
  refine w_ops ?_
  have hq := bindP_inv hr
  clear hr
  obtain ⟨v2, m_1, e2, hr⟩ := hq
  refine wo_step (v := v2) (s_bx g0 e2) ?_
  refine wo_step (v := (.i .i64 0)) (s_pure (p_mv rfl)) ?_
  refine wo_nil ?_
  refine nx_norm ?_
  refine w_seq ?_
  refine w_ops ?_
  refine wo_step (v := (.i .i64 0)) (s_pure (p_mv rfl)) ?_
  refine wo_nil ?_
  refine nx_norm ?_
  refine w_seq ?_
  refine w_seq ?_
  refine w_ops ?_
  refine wo_step (v := v1) (s_pure (p_mv g1)) ?_
  have hq := bindO_inv hr
  clear hr
  obtain ⟨v9, e9, hr⟩ := hq
  have hq := asI_inv hr
  clear hr
  obtain ⟨x9, rfl, hr⟩ := hq
  refine wo_step (v := (.i .i64 x9)) (s_pure (o_len rfl e9)) ?_
  refine wo_step (v := (.i .i64 0)) (s_pure (p_mv rfl)) ?_
  refine wo_nil ?_
  refine nx_norm ?_
  refine w_block ?_
  have hq := bindO_inv hr
  clear hr
  obtain ⟨o, hl, hr⟩ := hq
  obtain ⟨n, hl⟩ := hM.loop _ _ _ hl
  refine jp_mono (w_loop _ (g103_I0 v1 v2 x9 m_1) (g103_J0 v1 v2 x9 m_1) ?_ n _ _ _ _ hl ⟨rfl, gl rfl, gl rfl, gl g1, gl rfl, gl rfl, gl rfl⟩) ?_
  · clear hr hl
    intro s mm_1 t_1 o hi hr
    obtain ⟨x5, x10⟩ := s
    obtain ⟨rfl, g5, g10, g1, g2, g8, g9⟩ := hi
    unfold g103_b0 at hr
    refine w_seq ?_
    refine w_ops ?_
    have hq := forceB_inv hr
    clear hr
    obtain ⟨c11, e11, hr⟩ := hq
    refine wo_step (v := (.b c11)) (s_pure (p_bin g10 g9 (b_lss.trans (cb e11)))) ?_
    refine wo_nil ?_
    refine nx_norm ?_
    refine w_seq ?_
    have hq := cond_inv hr
    clear hr
    rcases hq with ⟨rfl, hr⟩ | ⟨rfl, hr⟩
    · refine w_condT rfl ?_
      refine w_skip ?_
      refine nx_norm ?_
      refine w_seq ?_
      refine w_block ?_
      refine w_seq ?_
      refine w_ops ?_
      refine wo_step (v := (.i .i64 x10)) (s_pure (p_mv g10)) ?_
      have hq := bindO_inv hr
      clear hr
      obtain ⟨v13, e13, hr⟩ := hq
      refine wo_step (v := v13) (s_pure (o_ixS g8 g10 e13)) ?_
      have hq := bindO_inv hr
      clear hr
      obtain ⟨v14, e14, hr⟩ := hq
      have hq := asI_inv hr
      clear hr
      obtain ⟨x14, rfl, hr⟩ := hq
      refine wo_step (v := (.i .i64 x14)) (s_ld rfl e14) ?_
      refine wo_step (v := (.i .i64 x10)) (s_pure (p_mv rfl)) ?_
      refine wo_step (v := (.i .i64 x14)) (s_pure (p_mv rfl)) ?_
      refine wo_nil ?_
      refine nx_norm ?_
      refine w_ops ?_
      refine wo_step (v := (.i .i64 x5)) (s_pure (p_mv g5)) ?_
      refine wo_step (v := (.i .i64 x14)) (s_pure (p_mv rfl)) ?_
      have hq := bindO_inv hr
      clear hr
      obtain ⟨v17, e17, hr⟩ := hq
      refine wo_step (v := v17) (s_pure (o_faddr g2 e17)) ?_
      have hq := bindO_inv hr
      clear hr
      obtain ⟨v18, e18, hr⟩ := hq
      refine wo_step (v := v18) (s_ld rfl e18) ?_
      refine wo_step (v := (.i .i64 x10)) (s_pure (p_mv rfl)) ?_
      have hq := bindO_inv hr
      clear hr
      obtain ⟨v20, e20, hr⟩ := hq
      refine wo_step (v := v20) (s_pure (o_ixS rfl rfl e20)) ?_
      have hq := bindO_inv hr
      clear hr
      obtain ⟨v21, e21, hr⟩ := hq
      have hq := asI_inv hr
      clear hr
      obtain ⟨x21, rfl, hr⟩ := hq
      refine wo_step (v := (.i .i64 x21)) (s_ld rfl e21) ?_
      have hq := forceI_inv hr
      clear hr
      obtain ⟨x22, e22, hr⟩ := hq
      refine wo_step (v := (.i .i64 x22)) (s_pure (p_bin rfl rfl (b_mul.trans (ci e22)))) ?_
      have hq := forceI_inv hr
      clear hr
      obtain ⟨x23, e23, hr⟩ := hq
      refine wo_step (v := (.i .i64 x23)) (s_pure (p_bin rfl rfl (b_add.trans (ci e23)))) ?_
      refine wo_step (v := (.i .i64 x23)) (s_pure (p_mv rfl)) ?_
      refine wo_nil ?_
      refine bk_norm ?_
      refine nx_norm ?_
      refine w_ops ?_
      have hq := forceI_inv hr
      clear hr
      obtain ⟨x24, e24, hr⟩ := hq
      refine wo_step (v := (.i .i64 x24)) (s_pure (p_bin g10 rfl (b_add.trans (ci e24)))) ?_
      refine wo_step (v := (.i .i64 x24)) (s_pure (p_mv rfl)) ?_
      refine wo_nil ?_
      cases hr
      exact ⟨_, _, rfl, rfl, rfl, gl rfl, gl rfl, gl g1, gl g2, gl g8, gl g9⟩
    · refine w_condF rfl ?_
      refine w_exit ?_
      refine nx_exit ?_
      cases hr
      exact ⟨_, _, rfl, ne_norm_exit, rfl, rfl, gl g5, gl g1⟩
  · obtain ⟨x5_1, ho⟩ : ∃ z, z = o := ⟨_, rfl⟩
    subst ho
    rintro _ mm t_2 ⟨rfl, rfl, g5, g1⟩
    refine bk_hit ?_
    refine nx_norm ?_
    refine w_seq ?_
    refine w_seq ?_
    refine w_ops ?_
    refine wo_step (v := (.i .i64 x5_1)) (s_pure (p_mv g5)) ?_
    refine wo_step (v := v1) (s_pure (p_mv g1)) ?_
    have hq := bindO_inv hr
    clear hr
    obtain ⟨v27, e27, hr⟩ := hq
    have hq := asI_inv hr
    clear hr
    obtain ⟨x27, rfl, hr⟩ := hq
    refine wo_step (v := (.i .i64 x27)) (s_pure (o_len rfl e27)) ?_
    have hq := forceB_inv hr
    clear hr
    obtain ⟨c28, e28, hr⟩ := hq
    refine wo_step (v := (.b c28)) (s_pure (p_bin rfl rfl (b_geq.trans (cb e28)))) ?_
    refine wo_nil ?_
    refine nx_norm ?_
    have hq := cond_inv hr
    clear hr
    rcases hq with ⟨rfl, hr⟩ | ⟨rfl, hr⟩
    · refine w_condT rfl ?_
      refine w_seq ?_
      refine w_ops ?_
      refine wo_step (v := (.i .i64 1)) (s_pure (p_mv rfl)) ?_
      refine wo_nil ?_
      refine nx_norm ?_
      refine w_ret ?_
      refine nx_ret ?_
      exact qf ret_ok (rt rfl rn) hr
    · refine w_condF rfl ?_
      refine w_skip ?_
      refine nx_norm ?_
      refine w_seq ?_
      refine w_ops ?_
      refine wo_step (v := (.i .i64 0)) (s_pure (p_mv rfl)) ?_
      refine wo_nil ?_
      refine nx_norm ?_
      refine w_ret ?_
      exact qf ret_ok (rt rfl rn) hr

/- (dibber/luck.winnower).learn -/
abbrev g104_I0 (x3 : Int) (v4 : AVal) (v1 : AVal) (x14 : Int) (s : Int × Mm) (m1 : Mm) (t1 : Tr) : Prop :=
  match s with
  | (x15, m_2) => m_2 = m1 ∧ t1.get 15 = (.i .i64 x15) ∧ t1.get 3 = (.i .i64 x3) ∧ t1.get 4 = v4 ∧ t1.get 13 = v1 ∧ t1.get 14 = (.i .i64 x14)
abbrev g104_J0 (x3 : Int) (v4 : AVal) (v1 : AVal) (x14 : Int) (o : Mm) (e : AExit) (m1 : Mm) (t1 : Tr) : Prop :=
  match o with
  | mo => e = (.exit 0) ∧ mo = m1
abbrev g104_J1 (x3 : Int) (v4 : AVal) (v1 : AVal) (x14 : Int) (x15 : Int) (o : Mm) (e : AExit) (m1 : Mm) (t1 : Tr) : Prop :=
  match o with
  | mo => e = .norm ∧ mo = m1 ∧ t1.get 3 = (.i .i64 x3) ∧ t1.get 4 = v4 ∧ t1.get 13 = v1 ∧ t1.get 14 = (.i .i64 x14) ∧ t1.get 15 = (.i .i64 x15)
def g104_b0 (M : Means) (ro : List ABlk) (x3 : Int) (v4 : AVal) (v1 : AVal) (x14 : Int) (x15 : Int) (m_2 : Mm) : Option ((Int × Mm) ⊕ (Mm)) :=
  forceB (ltI x15 x14) fun c16 =>
  cond c16 (
    bindO (evP .e (.ixS 1 (.c v1) (.c (.i .i64 x15)))) fun v18 =>
    bindO (ldM ro m_2 true 1 v18) fun v19 =>
    asI .i64 v19 fun x19 =>
    forceB (eqI x19 1) fun c21 =>
    bindO (α := Mm) (
      cond c21 (
        bindO (evP .e (.faddr 0 (.c v4))) fun v22 =>
        bindO (ldM ro m_2 true 1 v22) fun v23 =>
        bindO (evP .e (.ixS 1 (.c v23) (.c (.i .i64 x15)))) fun v25 =>
        bindO (ldM ro m_2 true 1 v25) fun v26 =>
        asI .i64 v26 fun x26 =>
        forceI (wr .i64 (2 * x3)) fun x28 =>
        forceI (wr .i64 (x26 * x28)) fun x29 =>
        bindO (evP .e (.ixS 1 (.c v23) (.c (.i .i64 x15)))) fun v30 =>
        bindP (stepM ro m_2 (.st 1 (.c v30) (.c (.i .i64 x29)))) fun vn m_3 =>
        some m_3) (
        some m_2)) fun m_4 =>
    forceI (wr .i64 (x15 + 1)) fun x31 =>
    some (.inl (x31, m_4))) (
    some (.inr m_2))
def g104 (M : Means) (ro : List ABlk) (v0 : AVal) (v1 : AVal) (x2 : Int) (x3 : Int) (m0 : Mm) : Option (AVal × Heap × Nat × Nat) :=
  bindP (stepM ro m0 (.bx 74 1 (.c v0))) fun v4 m_1 =>
  forceB (eqI x2 x3) fun c12 =>
  cond c12 (
    finM m0.h.length (tupA []) m_1) (
    bindO (evP .e (.len false (.c v1))) fun v14 =>
    asI .i64 v14 fun x14 =>
    bindO (M.loop (S := Int × Mm) (R := Mm) (fun s => g104_b0 M ro x3 v4 v1 x14 s.1 s.2) (0, m_1)) fun m_5 =>
    finM m0.h.length (tupA []) m_5)

theorem g104_ok {ro : List ABlk} {O : Caller} {M : Means} (hM : M.Ok ⟨F, O⟩ ro) {v0 v1 x2 x3 h r} (ho : O 104 [v0, v1, (.i .i64 x2), (.i .i64 x3)] h = none) (hr : g104 M ro v0 v1 x2 x3 ⟨h, h.length, h.length⟩ = some r) : callX ⟨F, O⟩ ro 104 [v0, v1, (.i .i64 x2), (.i .i64 x3)] h = some r := by
  refine callX_of (F := ⟨F, O⟩) (fn := fn104) (g := g104 M ro v0 v1 x2 x3) ho rfl rfl hr ?_
  clear ho
  clear hr
  intro m0 t0 ht hr
  have g0 : t0.get 0 = v0 := ht 0
  have g1 : t0.get 1 = v1 := ht 1
  have g2 : t0.get 2 = (.i .i64 x2) := ht 2
  have g3 : t0.get 3 = (.i .i64 x3) := ht 3
  clear ht
  unfold g104 at hr
  refine w_seq ?_
  refine w_ops ?_
  have hq := bindP_inv hr
  clear hr
  obtain ⟨v4, m_1, e4, hr⟩ := hq
  refine wo_step (v := v4) (s_bx g0 e4) ?_
  refine wo_nil ?_
  refine nx_norm ?_
  refine w_seq ?_
  refine w_seq ?_
  refine w_ops ?_
  refine wo_step (v := (.i .i64 x2)) (s_pure (p_mv g2)) ?_
  refine wo_step (v := (.i .i64 x3)) (s_pure (p_mv g3)) ?_
  have hq := forceB_inv hr
  clear hr
  obtain ⟨c12, e12, hr⟩ := hq
  refine wo_step (v := (.b c12)) (s_pure (p_bin rfl rfl (b_eql.trans (cb e12)))) ?_
  refine wo_nil ?_
  refine nx_norm ?_
  have hq := cond_inv hr
  clear hr
  rcases hq with ⟨rfl, hr⟩ | ⟨rfl, hr⟩
  · refine w_condT rfl ?_
    refine w_ret ?_
    refine nx_ret ?_
    exact qf ret_ok rn hr
  · refine w_condF rfl ?_
    refine w_skip ?_
    refine nx_norm ?_
    refine w_seq ?_
    refine w_ops ?_
    refine wo_step (v := v1) (s_pure (p_mv g1)) ?_
    have hq := bindO_inv hr
    clear hr
    obtain ⟨v14, e14, hr⟩ := hq
    have hq := asI_inv hr
    clear hr
    obtain ⟨x14, rfl, hr⟩ := hq
    refine wo_step (v := (.i .i64 x14)) (s_pure (o_len rfl e14)) ?_
    refine wo_step (v := (.i .i64 0)) (s_pure (p_mv rfl)) ?_
    refine wo_nil ?_
    refine nx_norm ?_
    refine w_block ?_
    have hq := bindO_inv hr
    clear hr
    obtain ⟨o_1, hl, hr⟩ := hq
    obtain ⟨n, hl⟩ := hM.loop _ _ _ hl
    refine jp_mono (w_loop _ (g104_I0 x3 v4 v1 x14) (g104_J0 x3 v4 v1 x14) ?_ n _ _ _ _ hl ⟨rfl, gl rfl, gl g3, gl rfl, gl rfl, gl rfl⟩) ?_
    · clear hr hl
      intro s mm_2 t_1 o hi hr
      obtain ⟨x15, m_2⟩ := s
      obtain ⟨rfl, g15, g3, g4, g13, g14⟩ := hi
      unfold g104_b0 at hr
      refine w_seq ?_
      refine w_ops ?_
      have hq := forceB_inv hr
      clear hr
      obtain ⟨c16, e16, hr⟩ := hq
      refine wo_step (v := (.b c16)) (s_pure (p_bin g15 g14 (b_lss.trans (cb e16)))) ?_
      refine wo_nil ?_
      refine nx_norm ?_
      refine w_seq ?_
      have hq := cond_inv hr
      clear hr
      rcases hq with ⟨rfl, hr⟩ | ⟨rfl, hr⟩
      · refine w_condT rfl ?_
        refine w_skip ?_
        refine nx_norm ?_
        refine w_seq ?_
        refine w_block ?_
        refine w_seq ?_
        refine w_ops ?_
        refine wo_step (v := (.i .i64 x15)) (s_pure (p_mv g15)) ?_
        have hq := bindO_inv hr
        clear hr
        obtain ⟨v18, e18, hr⟩ := hq
        refine wo_step (v := v18) (s_pure (o_ixS g13 g15 e18)) ?_
        have hq := bindO_inv hr
        clear hr
        obtain ⟨v19, e19, hr⟩ := hq
        have hq := asI_inv hr
        clear hr
        obtain ⟨x19, rfl, hr⟩ := hq
        refine wo_step (v := (.i .i64 x19)) (s_ld rfl e19) ?_
        refine wo_step (v := (.i .i64 x15)) (s_pure (p_mv rfl)) ?_
        refine wo_step (v := (.i .i64 x19)) (s_pure (p_mv rfl)) ?_
        refine wo_nil ?_
        refine nx_norm ?_
        refine w_seq ?_
        refine w_ops ?_
        refine wo_step (v := (.i .i64 x19)) (s_pure (p_mv rfl)) ?_
        have hq := forceB_inv hr
        clear hr
        obtain ⟨c21, e21, hr⟩ := hq
        refine wo_step (v := (.b c21)) (s_pure (p_bin rfl rfl (b_eql.trans (cb e21)))) ?_
        refine wo_nil ?_
        refine nx_norm ?_
        have hq := bindO_inv hr
        clear hr
        obtain ⟨o, hr, hk⟩ := hq
        refine jp_mono (J := g104_J1 x3 v4 v1 x14 x15 o) ?_ ?_
        · clear hk
          have hq := cond_inv hr
          clear hr
          rcases hq with ⟨rfl, hr⟩ | ⟨rfl, hr⟩
          · refine w_condT rfl ?_
            refine w_ops ?_
            have hq := bindO_inv hr
            clear hr
            obtain ⟨v22, e22, hr⟩ := hq
            refine wo_step (v := v22) (s_pure (o_faddr g4 e22)) ?_
            have hq := bindO_inv hr
            clear hr
            obtain ⟨v23, e23, hr⟩ := hq
            refine wo_step (v := v23) (s_ld rfl e23) ?_
            refine wo_step (v := (.i .i64 x15)) (s_pure (p_mv rfl)) ?_
            have hq := bindO_inv hr
            clear hr
            obtain ⟨v25, e25, hr⟩ := hq
            refine wo_step (v := v25) (s_pure (o_ixS rfl rfl e25)) ?_
            have hq := bindO_inv hr
            clear hr
            obtain ⟨v26, e26, hr⟩ := hq
            have hq := asI_inv hr
            clear hr
            obtain ⟨x26, rfl, hr⟩ := hq
            refine wo_step (v := (.i .i64 x26)) (s_ld rfl e26) ?_
            refine wo_step (v := (.i .i64 x3)) (s_pure (p_mv g3)) ?_
            have hq := forceI_inv hr
            clear hr
            obtain ⟨x28, e28, hr⟩ := hq
            refine wo_step (v := (.i .i64 x28)) (s_pure (p_bin rfl rfl (b_mul.trans (ci e28)))) ?_
            have hq := forceI_inv hr
            clear hr
            obtain ⟨x29, e29, hr⟩ := hq
            refine wo_step (v := (.i .i64 x29)) (s_pure (p_bin rfl rfl (b_mul.trans (ci e29)))) ?_
            have hq := bindO_inv hr
            clear hr
            obtain ⟨v30, e30, hr⟩ := hq
            refine wo_step (v := v30) (s_pure (o_ixS rfl rfl e30)) ?_
            have hq := bindP_inv hr
            clear hr
            obtain ⟨vn, m_3, en, hr⟩ := hq
            refine wo_stepN (s_st rfl rfl en) ?_
            refine wo_nil ?_
            cases hr
            exact ⟨_, _, rfl, rfl, rfl, gl g3, gl g4, gl g13, gl g14, gl g15⟩
          · refine w_condF rfl ?_
            refine w_skip ?_
            cases hr
            exact ⟨_, _, rfl, rfl, rfl, gl g3, gl g4, gl g13, gl g14, gl g15⟩
        · have hr := hk
          clear hk
          obtain ⟨m_4, ho⟩ : ∃ z, z = o := ⟨_, rfl⟩
          subst ho
          rintro _ mm t_2 ⟨rfl, rfl, g3, g4, g13, g14, g15⟩
          refine bk_norm ?_
          refine nx_norm ?_
          refine w_ops ?_
          have hq := forceI_inv hr
          clear hr
          obtain ⟨x31, e31, hr⟩ := hq
          refine wo_step (v := (.i .i64 x31)) (s_pure (p_bin g15 rfl (b_add.trans (ci e31)))) ?_
          refine wo_step (v := (.i .i64 x31)) (s_pure (p_mv rfl)) ?_
          refine wo_nil ?_
          cases hr
          exact ⟨_, _, rfl, rfl, rfl, gl rfl, gl g3, gl g4, gl g13, gl g14⟩
      · refine w_condF rfl ?_
        refine w_exit ?_
        refine nx_exit ?_
        cases hr
        exact ⟨_, _, rfl, ne_norm_exit, rfl, rfl⟩
    · obtain ⟨m_5, ho⟩ : ∃ z, z = o_1 := ⟨_, rfl⟩
      subst ho
      rintro _ mm_1 t_3 ⟨rfl, rfl⟩
      refine bk_hit ?_
      exact qf norm_ok rn hr

/- (dibber/luck.weigher).foretell -/
abbrev g105_I0 (v1 : AVal) (v2 : AVal) (v5 : AVal) (x12 : Int) (s : Int × Mm) (m1 : Mm) (t1 : Tr) : Prop :=
  match s with
  | (x13, m_3) => m_3 = m1 ∧ t1.get 13 = (.i .i64 x13) ∧ t1.get 1 = v1 ∧ t1.get 2 = v2 ∧ t1.get 5 = v5 ∧ t1.get 11 = v1 ∧ t1.get 12 = (.i .i64 x12)
abbrev g105_J0 (v1 : AVal) (v2 : AVal) (v5 : AVal) (x12 : Int) (o : Mm) (e : AExit) (m1 : Mm) (t1 : Tr) : Prop :=
  match o with
  | mo => e = (.exit 0) ∧ mo = m1 ∧ t1.get 1 = v1 ∧ t1.get 5 = v5
def g105_b0 (M : Means) (ro : List ABlk) (v1 : AVal) (v2 : AVal) (v5 : AVal) (x12 : Int) (x13 : Int) (m_3 : Mm) : Option ((Int × Mm) ⊕ (Mm)) :=
  forceB (ltI x13 x12) fun c14 =>
  cond c14 (
    bindO (evP .e (.ixS 1 (.c v1) (.c (.i .i64 x13)))) fun v16 =>
    bindO (ldM ro m_3 true 1 v16) fun v17 =>
    asI .i64 v17 fun x17 =>
    bindO (evP .e (.faddr 0 (.c v2))) fun v18 =>
    bindO (evP .e (.faddr 0 (.c v18))) fun v19 =>
    bindO (ldA ro m_3.h true 1 v19) fun v20 =>
    bindO (evP .e (.ixS 1 (.c v20) (.c (.i .i64 x13)))) fun v22 =>
    bindO (ldA ro m_3.h true 1 v22) fun v23 =>
    asI .i64 v23 fun x23 =>
    bindO (evP .e (.ixA 200 1 (.c v5) (.c (.i .i64 x23)))) fun v24 =>
    bindO (ldA ro m_3.h true 1 v24) fun v25 =>
    asI .i64 v25 fun x25 =>
    bindO (callN M.call m_3.h 101 [(.i .i64 x17)]) fun v27 =>
    asI .i64 v27 fun x27 =>
    forceI (wr .i64 (x25 + x27)) fun x28 =>
    bindO (evP .e (.ixA 200 1 (.c v5) (.c (.i .i64 x23)))) fun v29 =>
    asP v29 fun qs =>
    bindO (writesM ro [] [(qs, AVal.cells (.i .i64 x28))] ⟨m_3.h, m_3.lw, m_3.lp⟩) fun m_4 =>
    forceI (wr .i64 (x13 + 1)) fun x30 =>
    some (.inl (x30, m_4))) (
    some (.inr m_3))
abbrev g105_I1 (v1 : AVal) (v31 : AVal) (m_5 : Mm) (s : Int × Int) (m1 : Mm) (t1 : Tr) : Prop :=
  match s with
  | (x8, x32) => m_5 = m1 ∧ t1.get 8 = (.i .i64 x8) ∧ t1.get 32 = (.i .i64 x32) ∧ t1.get 1 = v1 ∧ t1.get 31 = v31
abbrev g105_J1 (v1 : AVal) (v31 : AVal) (m_5 : Mm) (o : Int) (e : AExit) (m1 : Mm) (t1 : Tr) : Prop :=
  match o with
  | y8 => e = (.exit 2) ∧ m_5 = m1 ∧ t1.get 8 = (.i .i64 y8)
def g105_b1 (M : Means) (ro : List ABlk) (v1 : AVal) (v31 : AVal) (m_5 : Mm) (x8 : Int) (x32 : Int) : Option ((Int × Int) ⊕ (Int)) :=
  forceB (ltI x32 200) fun c33 =>
  cond c33 (
    bindO (evP .e (.ixV 200 1 true (.c v31) (.c (.i .i64 x32)))) fun v34 =>
    asI .i64 v34 fun x34 =>
    forceI (wr .i64 (2 * x8)) fun x36 =>
    forceI (wr .i64 (x36 + x34)) fun x38 =>
    forceI (wr .i64 (0 - x38)) fun x41 =>
    forceI (mxV true x38 x41) fun x42 =>
    bindO (evP .e (.len false (.c v1))) fun v44 =>
    asI .i64 v44 fun x44 =>
    forceB (ltI x44 x42) fun c45 =>
    cond c45 (
      some (.inr x38)) (
      forceI (wr .i64 (x32 + 1)) fun x46 =>
      some (.inl (x38, x46)))) (
    some (.inr x8))
def g105 (M : Means) (ro : List ABlk) (v0 : AVal) (v1 : AVal) (m0 : Mm) : Option (AVal × Heap × Nat × Nat) :=
  bindP (stepM ro m0 (.bx 76 1 (.c v0))) fun v2 m_1 =>
  bindP (stepM ro m_1 (.al 124 [(AVal.i IntKind.i64 0), (AVal.i IntKind.i64 0), (AVal.i IntKind.i64 0), (AVal.i IntKind.i64 0), (AVal.i IntKind.i64 0), (AVal.i IntKind.i64 0), (AVal.i IntKind.i64 0), (AVal.i IntKind.i64 0), (AVal.i IntKind.i64 0), (AVal.i IntKind.i64 0), (AVal.i IntKind.i64 0), (AVal.i IntKind.i64 0), (AVal.i IntKind.i64 0), (AVal.i IntKind.i64 0), (AVal.i IntKind.i64 0), (AVal.i IntKind.i64 0), (AVal.i IntKind.i64 0), (AVal.i IntKind.i64 0), (AVal.i IntKind.i64 0), (AVal.i IntKind.i64 0), (AVal.i IntKind.i64 0), (AVal.i IntKind.i64 0), (AVal.i IntKind.i64 0), (AVal.i IntKind.i64 0), (AVal.i IntKind.i64 0), (AVal.i IntKind.i64 0), (AVal.i IntKind.i64 0), (AVal.i IntKind.i64 0), (AVal.i IntKind.i64 0), (AVal.i IntKind.i64 0), (AVal.i IntKind.i64 0), (AVal.i IntKind.i64 0), (AVal.i IntKind.i64 0), (AVal.i IntKind.i64 0), (AVal.i IntKind.i64 0), (AVal.i IntKind.i64 0), (AVal.i IntKind.i64 0), (AVal.i IntKind.i64 0), (AVal.i IntKind.i64 0), (AVal.i IntKind.i64 0), (AVal.i IntKind.i64 0), (AVal.i IntKind.i64 0), (AVal.i IntKind.i64 0), (AVal.i IntKind.i64 0), (AVal.i IntKind.i64 0), (AVal.i IntKind.i64 0), (AVal.i IntKind.i64 0), (AVal.i IntKind.i64 0), (AVal.i IntKind.i64 0), (AVal.i IntKind.i64 0), (AVal.i IntKind.i64 0), (AVal.i IntKind.i64 0), (AVal.i IntKind.i64 0), (AVal.i IntKind.i64 0), (AVal.i IntKind.i64 0), (AVal.i IntKind.i64 0), (AVal.i IntKind.i64 0), (AVal.i IntKind.i64 0), (AVal.i IntKind.i64 0), (AVal.i IntKind.i64 0), (AVal.i IntKind.i64 0), (AVal.i IntKind.i64 0), (AVal.i IntKind.i64 0), (AVal.i IntKind.i64 0), (AVal.i IntKind.i64 0), (AVal.i IntKind.i64 0), (AVal.i IntKind.i64 0), (AVal.i IntKind.i64 0), (AVal.i IntKind.i64 0), (AVal.i IntKind.i64 0), (AVal.i IntKind.i64 0), (AVal.i IntKind.i64 0), (AVal.i IntKind.i64 0), (AVal.i IntKind.i64 0), (AVal.i IntKind.i64 0), (AVal.i IntKind.i64 0), (AVal.i IntKind.i64 0), (AVal.i IntKind.i64 0), (AVal.i IntKind.i64 0), (AVal.i IntKind.i64 0), (AVal.i IntKind.i64 0), (AVal.i IntKind.i64 0), (AVal.i IntKind.i64 0), (AVal.i IntKind.i64 0), (AVal.i IntKind.i64 0), (AVal.i IntKind.i64 0), (AVal.i IntKind.i64 0), (AVal.i IntKind.i64 0), (AVal.i IntKind.i64 0), (AVal.i IntKind.i64 0), (AVal.i IntKind.i64 0), (AVal.i IntKind.i64 0), (AVal.i IntKind.i64 0), (AVal.i IntKind.i64 0), (AVal.i IntKind.i64 0), (AVal.i IntKind.i64 0), (AVal.i IntKind.i64 0), (AVal.i IntKind.i64 0), (AVal.i IntKind.i64 0), (AVal.i IntKind.i64 0), (AVal.i IntKind.i64 0), (AVal.i IntKind.i64 0), (AVal.i IntKind.i64 0), (AVal.i IntKind.i64 0), (AVal.i IntKind.i64 0), (AVal.i IntKind.i64 0), (AVal.i IntKind.i64 0), (AVal.i IntKind.i64 0), (AVal.i IntKind.i64 0), (AVal.i IntKind.i64 0), (AVal.i IntKind.i64 0), (AVal.i IntKind.i64 0), (AVal.i IntKind.i64 0), (AVal.i IntKind.i64 0), (AVal.i IntKind.i64 0), (AVal.i IntKind.i64 0), (AVal.i IntKind.i64 0), (AVal.i IntKind.i64 0), (AVal.i IntKind.i64 0), (AVal.i IntKind.i64 0), (AVal.i IntKind.i64 0), (AVal.i IntKind.i64 0), (AVal.i IntKind.i64 0), (AVal.i IntKind.i64 0), (AVal.i IntKind.i64 0), (AVal.i IntKind.i64 0), (AVal.i IntKind.i64 0), (AVal.i IntKind.i64 0), (AVal.i IntKind.i64 0), (AVal.i IntKind.i64 0), (AVal.i IntKind.i64 0), (AVal.i IntKind.i64 0), (AVal.i IntKind.i64 0), (AVal.i IntKind.i64 0), (AVal.i IntKind.i64 0), (AVal.i IntKind.i64 0), (AVal.i IntKind.i64 0), (AVal.i IntKind.i64 0), (AVal.i IntKind.i64 0), (AVal.i IntKind.i64 0), (AVal.i IntKind.i64 0), (AVal.i IntKind.i64 0), (AVal.i IntKind.i64 0), (AVal.i IntKind.i64 0), (AVal.i IntKind.i64 0), (AVal.i IntKind.i64 0), (AVal.i IntKind.i64 0), (AVal.i IntKind.i64 0), (AVal.i IntKind.i64 0), (AVal.i IntKind.i64 0), (AVal.i IntKind.i64 0), (AVal.i IntKind.i64 0), (AVal.i IntKind.i64 0), (AVal.i IntKind.i64 0), (AVal.i IntKind.i64 0), (AVal.i IntKind.i64 0), (AVal.i IntKind.i64 0), (AVal.i IntKind.i64 0), (AVal.i IntKind.i64 0), (AVal.i IntKind.i64 0), (AVal.i IntKind.i64 0), (AVal.i IntKind.i64 0), (AVal.i IntKind.i64 0), (AVal.i IntKind.i64 0), (AVal.i IntKind.i64 0), (AVal.i IntKind.i64 0), (AVal.i IntKind.i64 0), (AVal.i IntKind.i64 0), (AVal.i IntKind.i64 0), (AVal.i IntKind.i64 0), (AVal.i IntKind.i64 0), (AVal.i IntKind.i64 0), (AVal.i IntKind.i64 0), (AVal.i IntKind.i64 0), (AVal.i IntKind.i64 0), (AVal.i IntKind.i64 0), (AVal.i IntKind.i64 0), (AVal.i IntKind.i64 0), (AVal.i IntKind.i64 0), (AVal.i IntKind.i64 0), (AVal.i IntKind.i64 0), (AVal.i IntKind.i64 0), (AVal.i IntKind.i64 0), (AVal.i IntKind.i64 0), (AVal.i IntKind.i64 0), (AVal.i IntKind.i64 0), (AVal.i IntKind.i64 0), (AVal.i IntKind.i64 0), (AVal.i IntKind.i64 0), (AVal.i IntKind.i64 0), (AVal.i IntKind.i64 0), (AVal.i IntKind.i64 0), (AVal.i IntKind.i64 0), (AVal.i IntKind.i64 0), (AVal.i IntKind.i64 0), (AVal.i IntKind.i64 0), (AVal.i IntKind.i64 0), (AVal.i IntKind.i64 0), (AVal.i IntKind.i64 0), (AVal.i IntKind.i64 0)])) fun v5 m_2 =>
  bindO (evP .e (.len false (.c v1))) fun v12 =>
  asI .i64 v12 fun x12 =>
  bindO (M.loop (S := Int × Mm) (R := Mm) (fun s => g105_b0 M ro v1 v2 v5 x12 s.1 s.2) (0, m_2)) fun m_5 =>
  bindO (ldM ro m_5 false 200 v5) fun v31 =>
  bindO (M.loop (S := Int × Int) (R := Int) (fun s => g105_b1 M ro v1 v31 m_5 s.1 s.2) (0, 0)) fun x8_1 =>
  bindP (callM M.call m_5 102 [(.i .i64 x8_1)]) fun v48 m_6 =>
  asI .i64 v48 fun x48 =>
  finM m0.h.length (tupA [(.i .i64 x48)]) m_6

theorem g105_ok {ro : List ABlk} {O : Caller} {M : Means} (hM : M.Ok ⟨F, O⟩ ro) {v0 v1 h r} (ho : O 105 [v0, v1] h = none) (hr : g105 M ro v0 v1 ⟨h, h.length, h.length⟩ = some r) : callX ⟨F, O⟩ ro 105 [v0, v1] h = some r := by
  refine callX_of (F := ⟨F, O⟩) (fn := fn105) (g := g105 M ro v0 v1) ho rfl rfl hr ?_
  clear ho
  clear hr
  intro m0 t0 ht hr
  have g0 : t0.get 0 = v0 := ht 0
  have g1 : t0.get 1 = v1 := ht 1
  clear ht
  unfold g105 at hr
  refine w_seq ?_
  refine w_ops ?_
  have hq := bindP_inv hr
  clear hr
  obtain ⟨v2, m_1, e2, hr⟩ := hq
  refine wo_step (v := v2) (s_bx g0 e2) ?_
  refine wo_step (v := (.i .i64 0)) (s_pure (p_mv rfl)) ?_
  refine wo_nil ?_
  refine nx_norm ?_
  refine w_seq ?_
  refine w_ops ?_
  have hq := bindP_inv hr
  clear hr
  obtain ⟨v5, m_2, e5, hr⟩ := hq
  refine wo_step (v := v5) (s_al e5) ?_
  refine wo_nil ?_
  refine nx_norm ?_
  refine w_seq ?_
  refine w_seq ?_
  refine w_ops ?_
  refine wo_step (v := v1) (s_pure (p_mv g1)) ?_
  have hq := bindO_inv hr
  clear hr
  obtain ⟨v12, e12, hr⟩ := hq
  have hq := asI_inv hr
  clear hr
  obtain ⟨x12, rfl, hr⟩ := hq
  refine wo_step (v := (.i .i64 x12)) (s_pure (o_len rfl e12)) ?_
  refine wo_step (v := (.i .i64 0)) (s_pure (p_mv rfl)) ?_
  refine wo_nil ?_
  refine nx_norm ?_
  refine w_block ?_
  have hq := bindO_inv hr
  clear hr
  obtain ⟨o, hl_1, hr⟩ := hq
  obtain ⟨n_1, hl_1⟩ := hM.loop _ _ _ hl_1
  refine jp_mono (w_loop _ (g105_I0 v1 v2 v5 x12) (g105_J0 v1 v2 v5 x12) ?_ n_1 _ _ _ _ hl_1 ⟨rfl, gl rfl, gl g1, gl rfl, gl rfl, gl rfl, gl rfl⟩) ?_
  · clear hr hl_1
    intro s mm_3 t_1 o hi hr
    obtain ⟨x13, m_3⟩ := s
    obtain ⟨rfl, g13, g1, g2, g5, g11, g12⟩ := hi
    unfold g105_b0 at hr
    refine w_seq ?_
    refine w_ops ?_
    have hq := forceB_inv hr
    clear hr
    obtain ⟨c14, e14, hr⟩ := hq
    refine wo_step (v := (.b c14)) (s_pure (p_bin g13 g12 (b_lss.trans (cb e14)))) ?_
    refine wo_nil ?_
    refine nx_norm ?_
    refine w_seq ?_
    have hq := cond_inv hr
    clear hr
    rcases hq with ⟨rfl, hr⟩ | ⟨rfl, hr⟩
    · refine w_condT rfl ?_
      refine w_skip ?_
      refine nx_norm ?_
      refine w_seq ?_
      refine w_block ?_
      refine w_seq ?_
      refine w_ops ?_
      refine wo_step (v := (.i .i64 x13)) (s_pure (p_mv g13)) ?_
      have hq := bindO_inv hr
      clear hr
      obtain ⟨v16, e16, hr⟩ := hq
      refine wo_step (v := v16) (s_pure (o_ixS g11 g13 e16)) ?_
      have hq := bindO_inv hr
      clear hr
      obtain ⟨v17, e17, hr⟩ := hq
      have hq := asI_inv hr
      clear hr
      obtain ⟨x17, rfl, hr⟩ := hq
      refine wo_step (v := (.i .i64 x17)) (s_ld rfl e17) ?_
      refine wo_step (v := (.i .i64 x13)) (s_pure (p_mv rfl)) ?_
      refine wo_step (v := (.i .i64 x17)) (s_pure (p_mv rfl)) ?_
      refine wo_nil ?_
      refine nx_norm ?_
      refine w_any ?_
      have hq := bindO_inv hr
      clear hr
      obtain ⟨v18, e18, hr⟩ := hq
      refine wa_step (v := v18) (a_pure (o_faddr g2 e18)) ?_
      have hq := bindO_inv hr
      clear hr
      obtain ⟨v19, e19, hr⟩ := hq
      refine wa_step (v := v19) (a_pure (o_faddr rfl e19)) ?_
      have hq := bindO_inv hr
      clear hr
      obtain ⟨v20, e20, hr⟩ := hq
      refine wa_step (v := v20) (a_ld rfl e20) ?_
      refine wa_step (v := (.i .i64 x13)) (a_pure (p_mv rfl)) ?_
      have hq := bindO_inv hr
      clear hr
      obtain ⟨v22, e22, hr⟩ := hq
      refine wa_step (v := v22) (a_pure (o_ixS rfl rfl e22)) ?_
      have hq := bindO_inv hr
      clear hr
      obtain ⟨v23, e23, hr⟩ := hq
      have hq := asI_inv hr
      clear hr
      obtain ⟨x23, rfl, hr⟩ := hq
      refine wa_step (v := (.i .i64 x23)) (a_ld rfl e23) ?_
      have hq := bindO_inv hr
      clear hr
      obtain ⟨v24, e24, hr⟩ := hq
      refine wa_step (v := v24) (a_pure (o_ixA g5 rfl e24)) ?_
      have hq := bindO_inv hr
      clear hr
      obtain ⟨v25, e25, hr⟩ := hq
      have hq := asI_inv hr
      clear hr
      obtain ⟨x25, rfl, hr⟩ := hq
      refine wa_step (v := (.i .i64 x25)) (a_ld rfl e25) ?_
      refine wa_step (v := (.i .i64 x17)) (a_pure (p_mv rfl)) ?_
      have hq := bindO_inv hr
      clear hr
      obtain ⟨v27, e27, hr⟩ := hq
      have hq := asI_inv hr
      clear hr
      obtain ⟨x27, rfl, hr⟩ := hq
      refine wa_step (v := (.i .i64 x27)) (a_call (mc rfl mn) (callN_le hM.call e27)) ?_
      have hq := forceI_inv hr
      clear hr
      obtain ⟨x28, e28, hr⟩ := hq
      refine wa_step (v := (.i .i64 x28)) (a_pure (p_bin rfl rfl (b_add.trans (ci e28)))) ?_
      have hq := bindO_inv hr
      clear hr
      obtain ⟨v29, e29, hr⟩ := hq
      refine wa_step (v := v29) (a_pure (o_ixA g5 rfl e29)) ?_
      have hq := asP_inv hr
      clear hr
      obtain ⟨qs, eqs, hr⟩ := hq
      refine wa_stepN (a_st (Eq.trans (b := v29) rfl eqs) rfl rfl) ?_
      have hq := bindO_inv hr
      clear hr
      obtain ⟨m_4, ew, hr⟩ := hq
      refine wa_nil ?_
      refine ⟨m_4, ew, ?_⟩
      refine bk_norm ?_
      refine nx_norm ?_
      refine w_ops ?_
      have hq := forceI_inv hr
      clear hr
      obtain ⟨x30, e30, hr⟩ := hq
      refine wo_step (v := (.i .i64 x30)) (s_pure (p_bin g13 rfl (b_add.trans (ci e30)))) ?_
      refine wo_step (v := (.i .i64 x30)) (s_pure (p_mv rfl)) ?_
      refine wo_nil ?_
      cases hr
      exact ⟨_, _, rfl, rfl, rfl, gl rfl, gl g1, gl g2, gl g5, gl g11, gl g12⟩
    · refine w_condF rfl ?_
      refine w_exit ?_
      refine nx_exit ?_
      cases hr
      exact ⟨_, _, rfl, ne_norm_exit, rfl, rfl, gl g1, gl g5⟩
  · obtain ⟨m_5, ho⟩ : ∃ z, z = o := ⟨_, rfl⟩
    subst ho
    rintro _ mm_2 t_2 ⟨rfl, rfl, g1, g5⟩
    refine bk_hit ?_
    refine nx_norm ?_
    refine w_seq ?_
    refine w_ops ?_
    refine wo_step (v := (.i .i64 0)) (s_pure (p_mv rfl)) ?_
    refine wo_nil ?_
    refine nx_norm ?_
    refine w_seq ?_
    refine w_seq ?_
    refine w_ops ?_
    have hq := bindO_inv hr
    clear hr
    obtain ⟨v31, e31, hr⟩ := hq
    refine wo_step (v := v31) (s_ld g5 e31) ?_
    refine wo_step (v := (.i .i64 0)) (s_pure (p_mv rfl)) ?_
    refine wo_nil ?_
    refine nx_norm ?_
    refine w_block ?_
    have hq := bindO_inv hr
    clear hr
    obtain ⟨o_1, hl, hr⟩ := hq
    obtain ⟨n, hl⟩ := hM.loop _ _ _ hl
    refine jp_mono (w_loop _ (g105_I1 v1 v31 m_5) (g105_J1 v1 v31 m_5) ?_ n _ _ _ _ hl ⟨rfl, gl rfl, gl rfl, gl g1, gl rfl⟩) ?_
    · clear hr hl
      intro s mm_1 t_3 o hi hr
      obtain ⟨x8, x32⟩ := s
      obtain ⟨rfl, g8, g32, g1, g31⟩ := hi
      unfold g105_b1 at hr
      refine w_seq ?_
      refine w_ops ?_
      have hq := forceB_inv hr
      clear hr
      obtain ⟨c33, e33, hr⟩ := hq
      refine wo_step (v := (.b c33)) (s_pure (p_bin g32 rfl (b_lss.trans (cb e33)))) ?_
      refine wo_nil ?_
      refine nx_norm ?_
      refine w_seq ?_
      have hq := cond_inv hr
      clear hr
      rcases hq with ⟨rfl, hr⟩ | ⟨rfl, hr⟩
      · refine w_condT rfl ?_
        refine w_skip ?_
        refine nx_norm ?_
        refine w_seq ?_
        refine w_block ?_
        refine w_seq ?_
        refine w_ops ?_
        have hq := bindO_inv hr
        clear hr
        obtain ⟨v34, e34, hr⟩ := hq
        have hq := asI_inv hr
        clear hr
        obtain ⟨x34, rfl, hr⟩ := hq
        refine wo_step (v := (.i .i64 x34)) (s_pure (o_ixV g31 g32 e34)) ?_
        refine wo_step (v := (.i .i64 x34)) (s_pure (p_mv rfl)) ?_
        refine wo_nil ?_
        refine nx_norm ?_
        refine w_seq ?_
        refine w_ops ?_
        refine wo_step (v := (.i .i64 x8)) (s_pure (p_mv g8)) ?_
        have hq := forceI_inv hr
        clear hr
        obtain ⟨x36, e36, hr⟩ := hq
        refine wo_step (v := (.i .i64 x36)) (s_pure (p_bin rfl rfl (b_mul.trans (ci e36)))) ?_
        refine wo_step (v := (.i .i64 x34)) (s_pure (p_mv rfl)) ?_
        have hq := forceI_inv hr
        clear hr
        obtain ⟨x38, e38, hr⟩ := hq
        refine wo_step (v := (.i .i64 x38)) (s_pure (p_bin rfl rfl (b_add.trans (ci e38)))) ?_
        refine wo_step (v := (.i .i64 x38)) (s_pure (p_mv rfl)) ?_
        refine wo_nil ?_
        refine nx_norm ?_
        refine w_seq ?_
        refine w_ops ?_
        refine wo_step (v := (.i .i64 x38)) (s_pure (p_mv rfl)) ?_
        refine wo_step (v := (.i .i64 x38)) (s_pure (p_mv rfl)) ?_
        have hq := forceI_inv hr
        clear hr
        obtain ⟨x41, e41, hr⟩ := hq
        refine wo_step (v := (.i .i64 x41)) (s_pure ((p_neg rfl).trans (ci e41))) ?_
        have hq := forceI_inv hr
        clear hr
        obtain ⟨x42, e42, hr⟩ := hq
        refine wo_step (v := (.i .i64 x42)) (s_pure ((p_mx rfl rfl).trans (ci e42))) ?_
        refine wo_step (v := v1) (s_pure (p_mv g1)) ?_
        have hq := bindO_inv hr
        clear hr
        obtain ⟨v44, e44, hr⟩ := hq
        have hq := asI_inv hr
        clear hr
        obtain ⟨x44, rfl, hr⟩ := hq
        refine wo_step (v := (.i .i64 x44)) (s_pure (o_len rfl e44)) ?_
        have hq := forceB_inv hr
        clear hr
        obtain ⟨c45, e45, hr⟩ := hq
        refine wo_step (v := (.b c45)) (s_pure (p_bin rfl rfl (b_gtr.trans (cb e45)))) ?_
        refine wo_nil ?_
        refine nx_norm ?_
        have hq := cond_inv hr
        clear hr
        rcases hq with ⟨rfl, hr⟩ | ⟨rfl, hr⟩
        · refine w_condT rfl ?_
          refine w_exit ?_
          refine bk_miss (by decide) ?_
          refine nx_exit ?_
          cases hr
          exact ⟨_, _, rfl, ne_norm_exit, rfl, rfl, gl rfl⟩
        · refine w_condF rfl ?_
          refine w_skip ?_
          refine bk_norm ?_
          refine nx_norm ?_
          refine w_ops ?_
          have hq := forceI_inv hr
          clear hr
          obtain ⟨x46, e46, hr⟩ := hq
          refine wo_step (v := (.i .i64 x46)) (s_pure (p_bin g32 rfl (b_add.trans (ci e46)))) ?_
          refine wo_step (v := (.i .i64 x46)) (s_pure (p_mv rfl)) ?_
          refine wo_nil ?_
          cases hr
          exact ⟨_, _, rfl, rfl, rfl, gl rfl, gl rfl, gl g1, gl g31⟩
      · refine w_condF rfl ?_
        refine w_exit ?_
        refine nx_exit ?_
        cases hr
        exact ⟨_, _, rfl, ne_norm_exit, rfl, rfl, gl g8⟩
    · obtain ⟨x8_1, ho⟩ : ∃ z, z = o_1 := ⟨_, rfl⟩
      subst ho
      rintro _ mm t_4 ⟨rfl, rfl, g8⟩
      refine bk_hit ?_
      refine nx_norm ?_
      refine w_seq ?_
      refine w_ops ?_
      refine wo_step (v := (.i .i64 x8_1)) (s_pure (p_mv g8)) ?_
      have hq := bindP_inv hr
      clear hr
      obtain ⟨v48, m_6, e48, hr⟩ := hq
      have hq := asI_inv hr
      clear hr
      obtain ⟨x48, rfl, hr⟩ := hq
      refine wo_step (v := (.i .i64 x48)) (s_call (mc rfl mn) (callM_le hM.call e48)) ?_
      refine wo_step (v := (.i .i64 x48)) (s_pure (p_mv rfl)) ?_
      refine wo_nil ?_
      refine nx_norm ?_
      refine w_ret ?_
      exact qf ret_ok (rt rfl rn) hr

end Go.Proofs.Ytageakoepjkkbaa.T

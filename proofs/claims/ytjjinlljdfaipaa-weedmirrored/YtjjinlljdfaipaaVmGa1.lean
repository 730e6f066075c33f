/- Plain functions, and that the small machine answers as they do. -/
import Derived.Test.YtjjinlljdfaipaaVmP
import Derived.Test.YtjjinlljdfaipaaVmAE
open Go.Vm
set_option linter.unusedVariables false
namespace Go.Proofs.Ytjjinlljdfaipaa.W
open Go
/- dibber/weed.Rings -/
abbrev g24_I0 (s1 : List UInt8) (x15 : Int) (s : Int × Int × Mm) (m1 : Mm) (t1 : Tr) : Prop :=
  match s with
  | (x8, x20, m_2) => m_2 = m1 ∧ t1.get 8 = (.i .i64 x8) ∧ t1.get 20 = (.i .i64 x20) ∧ t1.get 1 = (.s s1) ∧ t1.get 6 = (.i .u8 x15)
abbrev g24_J0 (s1 : List UInt8) (x15 : Int) (o : (Int × Mm)) (e : AExit) (m1 : Mm) (t1 : Tr) : Prop :=
  match o with
  | (y8, mo) => e = (.exit 0) ∧ mo = m1 ∧ t1.get 8 = (.i .i64 y8)
def g24_b0 (M : Means) (ro : List ABlk) (s1 : List UInt8) (x15 : Int) (x8 : Int) (x20 : Int) (m_2 : Mm) : Option ((Int × Int × Mm) ⊕ ((Int × Mm))) :=
  forceB (ltI x20 4) fun c21 =>
  cond c21 (
    bindP (stepM ro m_2 (.al 63 [(AVal.i IntKind.i64 0), (AVal.i IntKind.i64 0), (AVal.i IntKind.i64 0), (AVal.i IntKind.i64 0)])) fun v10 m_3 =>
    bindO (evP .e (.ixA 4 1 (.c v10) (.c (.i .i64 x20)))) fun v24 =>
    bindP (stepM ro m_3 (.st 1 (.c v24) (.c (.i .i64 1)))) fun vn m_4 =>
    bindO (ldM ro m_4 false 4 v10) fun v28 =>
    bindP (callM M.call m_4 57 [(.i .u8 x15), (.s s1), v28]) fun v29 m_5 =>
    bindO (evP .e (.ixV 4 1 true (.c v29) (.c (.i .i64 x20)))) fun v31 =>
    asI .i64 v31 fun x31 =>
    forceI (wr .i64 (x8 + x31)) fun x32 =>
    forceI (wr .i64 (x20 + 1)) fun x33 =>
    some (.inl (x32, x33, m_5))) (
    some (.inr (x8, m_2)))
def g24 (M : Means) (ro : List ABlk) (x0 : Int) (s1 : List UInt8) (m0 : Mm) : Option (AVal × Heap × Nat × Nat) :=
  bindP (callM M.call m0 56 [(.i .i64 x0), (.s s1)]) fun v14 m_1 =>
  bindO (evP .e (.ext 0 (.c v14))) fun v15 =>
  asI .u8 v15 fun x15 =>
  bindO (evP .e (.ext 1 (.c v14))) fun v16 =>
  asI .i64 v16 fun x16 =>
  forceB (!eqI x16 0) fun c18 =>
  cond c18 (
    finM m0.h.length (tupA [(.i .i64 0), (.i .i64 x16)]) m_1) (
    bindO (M.loop (S := Int × Int × Mm) (R := (Int × Mm)) (fun s => g24_b0 M ro s1 x15 s.1 s.2.1 s.2.2) (0, 0, m_1)) fun ⟨x8_1, m_6⟩ =>
    finM m0.h.length (tupA [(.i .i64 x8_1), (.i .i64 0)]) m_6)

theorem g24_ok {ro : List ABlk} {O : Caller} {M : Means} (hM : M.Ok ⟨F, O⟩ ro) {x0 s1 h r} (ho : O 24 [(.i .i64 x0), (.s s1)] h = none) (hr : g24 M ro x0 s1 ⟨h, h.length, h.length⟩ = some r) : callX ⟨F, O⟩ ro 24 [(.i .i64 x0), (.s s1)] h = some r := by
  refine callX_of (F := ⟨F, O⟩) (fn := fn24) (g := g24 M ro x0 s1) ho rfl rfl hr ?_
  clear ho
  clear hr
  intro m0 t0 ht hr
  have g0 : t0.get 0 = (.i .i64 x0) := ht 0
  have g1 : t0.get 1 = (.s s1) := ht 1
  clear ht
  unfold g24 at hr
  refine w_seq ?_
  refine w_ops ?_
  refine wo_step (v := (.i .i64 0)) (s_pure (p_mv rfl)) ?_
  refine wo_step (v := (.i .i64 0)) (s_pure (p_mv rfl)) ?_
  refine wo_nil ?_
  refine nx_norm ?_
  refine w_seq ?_
  refine w_ops ?_
  refine wo_step (v := (.i .i64 x0)) (s_pure (p_mv g0)) ?_
  refine wo_step (v := (.s s1)) (s_pure (p_mv g1)) ?_
  have hq := bindP_inv hr
  clear hr
  obtain ⟨v14, m_1, e14, hr⟩ := hq
  refine wo_step (v := v14) (s_call (mc rfl (mc rfl mn)) (callM_le hM.call e14)) ?_
  refine wo_step (v := v14) (s_pure (p_mv rfl)) ?_
  have hq := bindO_inv hr
  clear hr
  obtain ⟨v15, e15, hr⟩ := hq
  have hq := asI_inv hr
  clear hr
  obtain ⟨x15, rfl, hr⟩ := hq
  refine wo_step (v := (.i .u8 x15)) (s_pure (o_ext rfl e15)) ?_
  have hq := bindO_inv hr
  clear hr
  obtain ⟨v16, e16, hr⟩ := hq
  have hq := asI_inv hr
  clear hr
  obtain ⟨x16, rfl, hr⟩ := hq
  refine wo_step (v := (.i .i64 x16)) (s_pure (o_ext rfl e16)) ?_
  refine wo_step (v := (.i .u8 x15)) (s_pure (p_mv rfl)) ?_
  refine wo_step (v := (.i .i64 x16)) (s_pure (p_mv rfl)) ?_
  refine wo_nil ?_
  refine nx_norm ?_
  refine w_seq ?_
  refine w_seq ?_
  refine w_ops ?_
  refine wo_step (v := (.i .i64 x16)) (s_pure (p_mv rfl)) ?_
  have hq := forceB_inv hr
  clear hr
  obtain ⟨c18, e18, hr⟩ := hq
  refine wo_step (v := (.b c18)) (s_pure (p_bin rfl rfl (b_neq.trans (cb e18)))) ?_
  refine wo_nil ?_
  refine nx_norm ?_
  have hq := cond_inv hr
  clear hr
  rcases hq with ⟨rfl, hr⟩ | ⟨rfl, hr⟩
  · refine w_condT rfl ?_
    refine w_seq ?_
    refine w_ops ?_
    refine wo_step (v := (.i .i64 x16)) (s_pure (p_mv rfl)) ?_
    refine wo_step (v := (.i .i64 0)) (s_pure (p_mv rfl)) ?_
    refine wo_step (v := (.i .i64 x16)) (s_pure (p_mv rfl)) ?_
    refine wo_nil ?_
    refine nx_norm ?_
    refine w_ret ?_
    refine nx_ret ?_
    exact qf ret_ok (rt rfl (rt rfl rn)) hr
  · refine w_condF rfl ?_
    refine w_skip ?_
    refine nx_norm ?_
    refine w_seq ?_
    refine w_ops ?_
    refine wo_step (v := (.i .i64 0)) (s_pure (p_mv rfl)) ?_
    refine wo_nil ?_
    refine nx_norm ?_
    refine w_seq ?_
    refine w_seq ?_
    refine w_ops ?_
    refine wo_step (v := (.i .i64 0)) (s_pure (p_mv rfl)) ?_
    refine wo_nil ?_
    refine nx_norm ?_
    refine w_block ?_
    have hq := bindO_inv hr
    clear hr
    obtain ⟨o, hl, hr⟩ := hq
    obtain ⟨n, hl⟩ := hM.loop _ _ _ hl
    refine jp_mono (w_loop _ (g24_I0 s1 x15) (g24_J0 s1 x15) ?_ n _ _ _ _ hl ⟨rfl, gl rfl, gl rfl, gl g1, gl rfl⟩) ?_
    · clear hr hl
      intro s mm_1 t_1 o hi hr
      obtain ⟨x8, x20, m_2⟩ := s
      obtain ⟨rfl, g8, g20, g1, g6⟩ := hi
      unfold g24_b0 at hr
      refine w_seq ?_
      refine w_ops ?_
      have hq := forceB_inv hr
      clear hr
      obtain ⟨c21, e21, hr⟩ := hq
      refine wo_step (v := (.b c21)) (s_pure (p_bin g20 rfl (b_lss.trans (cb e21)))) ?_
      refine wo_nil ?_
      refine nx_norm ?_
      refine w_seq ?_
      have hq := cond_inv hr
      clear hr
      rcases hq with ⟨rfl, hr⟩ | ⟨rfl, hr⟩
      · refine w_condT rfl ?_
        refine w_skip ?_
        refine nx_norm ?_
        refine w_seq ?_
        refine w_block ?_
        refine w_seq ?_
        refine w_ops ?_
        refine wo_step (v := (.i .i64 x20)) (s_pure (p_mv g20)) ?_
        refine wo_step (v := (.i .i64 x20)) (s_pure (p_mv rfl)) ?_
        refine wo_nil ?_
        refine nx_norm ?_
        refine w_seq ?_
        refine w_ops ?_
        have hq := bindP_inv hr
        clear hr
        obtain ⟨v10, m_3, e10, hr⟩ := hq
        refine wo_step (v := v10) (s_al e10) ?_
        refine wo_nil ?_
        refine nx_norm ?_
        refine w_seq ?_
        refine w_ops ?_
        refine wo_step (v := (.i .i64 x20)) (s_pure (p_mv rfl)) ?_
        have hq := bindO_inv hr
        clear hr
        obtain ⟨v24, e24, hr⟩ := hq
        refine wo_step (v := v24) (s_pure (o_ixA rfl rfl e24)) ?_
        have hq := bindP_inv hr
        clear hr
        obtain ⟨vn, m_4, en, hr⟩ := hq
        refine wo_stepN (s_st rfl rfl en) ?_
        refine wo_nil ?_
        refine nx_norm ?_
        refine w_ops ?_
        refine wo_step (v := (.i .i64 x8)) (s_pure (p_mv g8)) ?_
        refine wo_step (v := (.i .u8 x15)) (s_pure (p_mv g6)) ?_
        refine wo_step (v := (.s s1)) (s_pure (p_mv g1)) ?_
        have hq := bindO_inv hr
        clear hr
        obtain ⟨v28, e28, hr⟩ := hq
        refine wo_step (v := v28) (s_ld rfl e28) ?_
        have hq := bindP_inv hr
        clear hr
        obtain ⟨v29, m_5, e29, hr⟩ := hq
        refine wo_step (v := v29) (s_call (mc rfl (mc rfl (mc rfl mn))) (callM_le hM.call e29)) ?_
        refine wo_step (v := (.i .i64 x20)) (s_pure (p_mv rfl)) ?_
        have hq := bindO_inv hr
        clear hr
        obtain ⟨v31, e31, hr⟩ := hq
        have hq := asI_inv hr
        clear hr
        obtain ⟨x31, rfl, hr⟩ := hq
        refine wo_step (v := (.i .i64 x31)) (s_pure (o_ixV rfl rfl e31)) ?_
        have hq := forceI_inv hr
        clear hr
        obtain ⟨x32, e32, hr⟩ := hq
        refine wo_step (v := (.i .i64 x32)) (s_pure (p_bin rfl rfl (b_add.trans (ci e32)))) ?_
        refine wo_step (v := (.i .i64 x32)) (s_pure (p_mv rfl)) ?_
        refine wo_nil ?_
        refine bk_norm ?_
        refine nx_norm ?_
        refine w_ops ?_
        have hq := forceI_inv hr
        clear hr
        obtain ⟨x33, e33, hr⟩ := hq
        refine wo_step (v := (.i .i64 x33)) (s_pure (p_bin g20 rfl (b_add.trans (ci e33)))) ?_
        refine wo_step (v := (.i .i64 x33)) (s_pure (p_mv rfl)) ?_
        refine wo_nil ?_
        cases hr
        exact ⟨_, _, rfl, rfl, rfl, gl rfl, gl rfl, gl g1, gl g6⟩
      · refine w_condF rfl ?_
        refine w_exit ?_
        refine nx_exit ?_
        cases hr
        exact ⟨_, _, rfl, ne_norm_exit, rfl, rfl, gl g8⟩
    · obtain ⟨x8_1, m_6⟩ := o
      rintro _ mm t_2 ⟨rfl, rfl, g8⟩
      refine bk_hit ?_
      refine nx_norm ?_
      refine w_seq ?_
      refine w_ops ?_
      refine wo_step (v := (.i .i64 x8_1)) (s_pure (p_mv g8)) ?_
      refine wo_step (v := (.i .i64 x8_1)) (s_pure (p_mv rfl)) ?_
      refine wo_step (v := (.i .i64 0)) (s_pure (p_mv rfl)) ?_
      refine wo_nil ?_
      refine nx_norm ?_
      refine w_ret ?_
      exact qf ret_ok (rt rfl (rt rfl rn)) hr

/- dibber/dibberref02.Rings -/
abbrev g25_I0 (x0 : Int) (s1 : List UInt8) (s : Int × Int × Mm) (m1 : Mm) (t1 : Tr) : Prop :=
  match s with
  | (x7, x8, m_2) => m_2 = m1 ∧ t1.get 7 = (.i .i64 x7) ∧ t1.get 8 = (.i .i64 x8) ∧ t1.get 0 = (.i .i64 x0) ∧ t1.get 1 = (.s s1)
abbrev g25_J0 (x0 : Int) (s1 : List UInt8) (o : (Int × Mm)) (e : AExit) (m1 : Mm) (t1 : Tr) : Prop :=
  match o with
  | (y7, mo) => e = (.exit 0) ∧ mo = m1 ∧ t1.get 7 = (.i .i64 y7)
def g25_b0 (M : Means) (ro : List ABlk) (x0 : Int) (s1 : List UInt8) (x7 : Int) (x8 : Int) (m_2 : Mm) : Option ((Int × Int × Mm) ⊕ ((Int × Mm))) :=
  forceB (ltI x8 4) fun c20 =>
  cond c20 (
    bindP (callM M.call m_2 48 [(.s s1)]) fun v25 m_3 =>
    bindP (callM M.call m_3 60 [(.i .i64 x8)]) fun v27 m_4 =>
    bindP (callM M.call m_4 59 [(.i .i64 x0), v25, v27]) fun v28 m_5 =>
    bindO (evP .e (.ixS 1 (.c v28) (.c (.i .i64 x8)))) fun v32 =>
    bindO (ldM ro m_5 true 1 v32) fun v33 =>
    asI .i64 v33 fun x33 =>
    forceI (wr .i64 (x7 + x33)) fun x34 =>
    forceI (wr .i64 (x8 + 1)) fun x22 =>
    some (.inl (x34, x22, m_5))) (
    some (.inr (x7, m_2)))
def g25 (M : Means) (ro : List ABlk) (x0 : Int) (s1 : List UInt8) (m0 : Mm) : Option (AVal × Heap × Nat × Nat) :=
  bindP (callM M.call m0 47 [(.i .i64 x0), (.s s1), (.i .i64 400)]) fun v12 m_1 =>
  asI .i64 v12 fun x12 =>
  forceB (!eqI x12 0) fun c14 =>
  cond c14 (
    finM m0.h.length (tupA [(.i .i64 0), (.i .i64 x12)]) m_1) (
    bindO (evP .e (.len true (.c (.s s1)))) fun v17 =>
    asI .i64 v17 fun x17 =>
    forceB (ltI 50 x17) fun c18 =>
    cond c18 (
      finM m0.h.length (tupA [(.i .i64 0), (.i .i64 2)]) m_1) (
      bindO (M.loop (S := Int × Int × Mm) (R := (Int × Mm)) (fun s => g25_b0 M ro x0 s1 s.1 s.2.1 s.2.2) (0, 0, m_1)) fun ⟨x7_1, m_6⟩ =>
      finM m0.h.length (tupA [(.i .i64 x7_1), (.i .i64 0)]) m_6))

theorem g25_ok {ro : List ABlk} {O : Caller} {M : Means} (hM : M.Ok ⟨F, O⟩ ro) {x0 s1 h r} (ho : O 25 [(.i .i64 x0), (.s s1)] h = none) (hr : g25 M ro x0 s1 ⟨h, h.length, h.length⟩ = some r) : callX ⟨F, O⟩ ro 25 [(.i .i64 x0), (.s s1)] h = some r := by
  refine callX_of (F := ⟨F, O⟩) (fn := fn25) (g := g25 M ro x0 s1) ho rfl rfl hr ?_
  clear ho
  clear hr
  intro m0 t0 ht hr
  have g0 : t0.get 0 = (.i .i64 x0) := ht 0
  have g1 : t0.get 1 = (.s s1) := ht 1
  clear ht
  unfold g25 at hr
  refine w_seq ?_
  refine w_ops ?_
  refine wo_step (v := (.i .i64 0)) (s_pure (p_mv rfl)) ?_
  refine wo_step (v := (.i .i64 0)) (s_pure (p_mv rfl)) ?_
  refine wo_nil ?_
  refine nx_norm ?_
  refine w_seq ?_
  refine w_ops ?_
  refine wo_step (v := (.i .i64 x0)) (s_pure (p_mv g0)) ?_
  refine wo_step (v := (.s s1)) (s_pure (p_mv g1)) ?_
  have hq := bindP_inv hr
  clear hr
  obtain ⟨v12, m_1, e12, hr⟩ := hq
  have hq := asI_inv hr
  clear hr
  obtain ⟨x12, rfl, hr⟩ := hq
  refine wo_step (v := (.i .i64 x12)) (s_call (mc rfl (mc rfl (mc rfl mn))) (callM_le hM.call e12)) ?_
  refine wo_step (v := (.i .i64 x12)) (s_pure (p_mv rfl)) ?_
  refine wo_nil ?_
  refine nx_norm ?_
  refine w_seq ?_
  refine w_seq ?_
  refine w_ops ?_
  refine wo_step (v := (.i .i64 x12)) (s_pure (p_mv rfl)) ?_
  have hq := forceB_inv hr
  clear hr
  obtain ⟨c14, e14, hr⟩ := hq
  refine wo_step (v := (.b c14)) (s_pure (p_bin rfl rfl (b_neq.trans (cb e14)))) ?_
  refine wo_nil ?_
  refine nx_norm ?_
  have hq := cond_inv hr
  clear hr
  rcases hq with ⟨rfl, hr⟩ | ⟨rfl, hr⟩
  · refine w_condT rfl ?_
    refine w_seq ?_
    refine w_ops ?_
    refine wo_step (v := (.i .i64 x12)) (s_pure (p_mv rfl)) ?_
    refine wo_step (v := (.i .i64 0)) (s_pure (p_mv rfl)) ?_
    refine wo_step (v := (.i .i64 x12)) (s_pure (p_mv rfl)) ?_
    refine wo_nil ?_
    refine nx_norm ?_
    refine w_ret ?_
    refine nx_ret ?_
    exact qf ret_ok (rt rfl (rt rfl rn)) hr
  · refine w_condF rfl ?_
    refine w_skip ?_
    refine nx_norm ?_
    refine w_seq ?_
    refine w_seq ?_
    refine w_ops ?_
    refine wo_step (v := (.s s1)) (s_pure (p_mv g1)) ?_
    have hq := bindO_inv hr
    clear hr
    obtain ⟨v17, e17, hr⟩ := hq
    have hq := asI_inv hr
    clear hr
    obtain ⟨x17, rfl, hr⟩ := hq
    refine wo_step (v := (.i .i64 x17)) (s_pure (o_len rfl e17)) ?_
    have hq := forceB_inv hr
    clear hr
    obtain ⟨c18, e18, hr⟩ := hq
    refine wo_step (v := (.b c18)) (s_pure (p_bin rfl rfl (b_gtr.trans (cb e18)))) ?_
    refine wo_nil ?_
    refine nx_norm ?_
    have hq := cond_inv hr
    clear hr
    rcases hq with ⟨rfl, hr⟩ | ⟨rfl, hr⟩
    · refine w_condT rfl ?_
      refine w_seq ?_
      refine w_ops ?_
      refine wo_step (v := (.i .i64 0)) (s_pure (p_mv rfl)) ?_
      refine wo_step (v := (.i .i64 2)) (s_pure (p_mv rfl)) ?_
      refine wo_nil ?_
      refine nx_norm ?_
      refine w_ret ?_
      refine nx_ret ?_
      exact qf ret_ok (rt rfl (rt rfl rn)) hr
    · refine w_condF rfl ?_
      refine w_skip ?_
      refine nx_norm ?_
      refine w_seq ?_
      refine w_ops ?_
      refine wo_step (v := (.i .i64 0)) (s_pure (p_mv rfl)) ?_
      refine wo_nil ?_
      refine nx_norm ?_
      refine w_seq ?_
      refine w_seq ?_
      refine w_ops ?_
      refine wo_step (v := (.i .i64 0)) (s_pure (p_mv rfl)) ?_
      refine wo_nil ?_
      refine nx_norm ?_
      refine w_block ?_
      have hq := bindO_inv hr
      clear hr
      obtain ⟨o, hl, hr⟩ := hq
      obtain ⟨n, hl⟩ := hM.loop _ _ _ hl
      refine jp_mono (w_loop _ (g25_I0 x0 s1) (g25_J0 x0 s1) ?_ n _ _ _ _ hl ⟨rfl, gl rfl, gl rfl, gl g0, gl g1⟩) ?_
      · clear hr hl
        intro s mm_1 t_1 o hi hr
        obtain ⟨x7, x8, m_2⟩ := s
        obtain ⟨rfl, g7, g8, g0, g1⟩ := hi
        unfold g25_b0 at hr
        refine w_seq ?_
        refine w_seq ?_
        refine w_ops ?_
        refine wo_step (v := (.i .i64 x8)) (s_pure (p_mv g8)) ?_
        have hq := forceB_inv hr
        clear hr
        obtain ⟨c20, e20, hr⟩ := hq
        refine wo_step (v := (.b c20)) (s_pure (p_bin rfl rfl (b_lss.trans (cb e20)))) ?_
        refine wo_nil ?_
        refine nx_norm ?_
        have hq := cond_inv hr
        clear hr
        rcases hq with ⟨rfl, hr⟩ | ⟨rfl, hr⟩
        · refine w_condT rfl ?_
          refine w_skip ?_
          refine nx_norm ?_
          refine w_seq ?_
          refine w_block ?_
          refine w_seq ?_
          refine w_ops ?_
          refine wo_step (v := (.i .i64 x0)) (s_pure (p_mv g0)) ?_
          refine wo_step (v := (.s s1)) (s_pure (p_mv g1)) ?_
          have hq := bindP_inv hr
          clear hr
          obtain ⟨v25, m_3, e25, hr⟩ := hq
          refine wo_step (v := v25) (s_call (mc rfl mn) (callM_le hM.call e25)) ?_
          refine wo_step (v := (.i .i64 x8)) (s_pure (p_mv g8)) ?_
          have hq := bindP_inv hr
          clear hr
          obtain ⟨v27, m_4, e27, hr⟩ := hq
          refine wo_step (v := v27) (s_call (mc rfl mn) (callM_le hM.call e27)) ?_
          have hq := bindP_inv hr
          clear hr
          obtain ⟨v28, m_5, e28, hr⟩ := hq
          refine wo_step (v := v28) (s_call (mc rfl (mc rfl (mc rfl mn))) (callM_le hM.call e28)) ?_
          refine wo_step (v := v28) (s_pure (p_mv rfl)) ?_
          refine wo_nil ?_
          refine nx_norm ?_
          refine w_ops ?_
          refine wo_step (v := (.i .i64 x7)) (s_pure (p_mv g7)) ?_
          refine wo_step (v := v28) (s_pure (p_mv rfl)) ?_
          refine wo_step (v := (.i .i64 x8)) (s_pure (p_mv g8)) ?_
          have hq := bindO_inv hr
          clear hr
          obtain ⟨v32, e32, hr⟩ := hq
          refine wo_step (v := v32) (s_pure (o_ixS rfl rfl e32)) ?_
          have hq := bindO_inv hr
          clear hr
          obtain ⟨v33, e33, hr⟩ := hq
          have hq := asI_inv hr
          clear hr
          obtain ⟨x33, rfl, hr⟩ := hq
          refine wo_step (v := (.i .i64 x33)) (s_ld rfl e33) ?_
          have hq := forceI_inv hr
          clear hr
          obtain ⟨x34, e34, hr⟩ := hq
          refine wo_step (v := (.i .i64 x34)) (s_pure (p_bin rfl rfl (b_add.trans (ci e34)))) ?_
          refine wo_step (v := (.i .i64 x34)) (s_pure (p_mv rfl)) ?_
          refine wo_nil ?_
          refine bk_norm ?_
          refine nx_norm ?_
          refine w_ops ?_
          refine wo_step (v := (.i .i64 x8)) (s_pure (p_mv g8)) ?_
          have hq := forceI_inv hr
          clear hr
          obtain ⟨x22, e22, hr⟩ := hq
          refine wo_step (v := (.i .i64 x22)) (s_pure (p_bin rfl rfl (b_add.trans (ci e22)))) ?_
          refine wo_step (v := (.i .i64 x22)) (s_pure (p_mv rfl)) ?_
          refine wo_nil ?_
          cases hr
          exact ⟨_, _, rfl, rfl, rfl, gl rfl, gl rfl, gl g0, gl g1⟩
        · refine w_condF rfl ?_
          refine w_exit ?_
          refine nx_exit ?_
          cases hr
          exact ⟨_, _, rfl, ne_norm_exit, rfl, rfl, gl g7⟩
      · obtain ⟨x7_1, m_6⟩ := o
        rintro _ mm t_2 ⟨rfl, rfl, g7⟩
        refine bk_hit ?_
        refine nx_norm ?_
        refine w_seq ?_
        refine w_ops ?_
        refine wo_step (v := (.i .i64 x7_1)) (s_pure (p_mv g7)) ?_
        refine wo_step (v := (.i .i64 x7_1)) (s_pure (p_mv rfl)) ?_
        refine wo_step (v := (.i .i64 0)) (s_pure (p_mv rfl)) ?_
        refine wo_nil ?_
        refine nx_norm ?_
        refine w_ret ?_
        exact qf ret_ok (rt rfl (rt rfl rn)) hr

/- dibber/weed.Eden -/
abbrev g26_J0 (x1 : Int) (x12 : Int) (m_1 : Mm) (o : Bool) (m1 : Mm) (t1 : Tr) : Prop :=
  match o with
  | c22 => m_1 = m1 ∧ t1.get 22 = (.b c22) ∧ t1.get 1 = (.i .i64 x1) ∧ t1.get 6 = (.i .u8 x12)
abbrev g26_J1 (s24 : List UInt8) (m_2 : Mm) (o : Bool) (m1 : Mm) (t1 : Tr) : Prop :=
  match o with
  | c32 => m_2 = m1 ∧ t1.get 32 = (.b c32) ∧ t1.get 8 = (.s s24)
def g26 (M : Means) (ro : List ABlk) (x0 : Int) (x1 : Int) (m0 : Mm) : Option (AVal × Heap × Nat × Nat) :=
  bindP (callM M.call m0 61 [(.i .i64 x0)]) fun v11 m_1 =>
  bindO (evP .e (.ext 0 (.c v11))) fun v12 =>
  asI .u8 v12 fun x12 =>
  bindO (evP .e (.ext 1 (.c v11))) fun v13 =>
  asI .i64 v13 fun x13 =>
  forceB (!eqI x13 0) fun c15 =>
  cond c15 (
    finM m0.h.length (tupA [(AVal.s []), (.i .i64 x13)]) m_1) (
    forceB (ltI x1 1) fun c18 =>
    bindO (cond c18 (
      some true) (
      forceB (ltI 20 x1) fun c21 =>
      some c21)) fun c22 =>
    cond c22 (
      finM m0.h.length (tupA [(AVal.s []), (.i .i64 2)]) m_1) (
      bindP (callM M.call m_1 62 [(.i .u8 x12)]) fun v24 m_2 =>
      asS v24 fun s24 =>
      bindO (evP .e (.sbin BinOp.eql (.c (.s s24)) (.c (AVal.s [])))) fun v26 =>
      asB v26 fun c26 =>
      bindO (cond c26 (
        some true) (
        bindO (evP .e (.len true (.c (.s s24)))) fun v29 =>
        asI .i64 v29 fun x29 =>
        forceB (ltI x1 x29) fun c31 =>
        some c31)) fun c32 =>
      cond c32 (
        finM m0.h.length (tupA [(AVal.s []), (.i .i64 10)]) m_2) (
        finM m0.h.length (tupA [(.s s24), (.i .i64 0)]) m_2)))

theorem g26_ok {ro : List ABlk} {O : Caller} {M : Means} (hM : M.Ok ⟨F, O⟩ ro) {x0 x1 h r} (ho : O 26 [(.i .i64 x0), (.i .i64 x1)] h = none) (hr : g26 M ro x0 x1 ⟨h, h.length, h.length⟩ = some r) : callX ⟨F, O⟩ ro 26 [(.i .i64 x0), (.i .i64 x1)] h = some r := by
  refine callX_of (F := ⟨F, O⟩) (fn := fn26) (g := g26 M ro x0 x1) ho rfl rfl hr ?_
  clear ho
  clear hr
  intro m0 t0 ht hr
  have g0 : t0.get 0 = (.i .i64 x0) := ht 0
  have g1 : t0.get 1 = (.i .i64 x1) := ht 1
  clear ht
  unfold g26 at hr
  refine w_seq ?_
  refine w_ops ?_
  refine wo_step (v := (AVal.s [])) (s_pure (p_mv rfl)) ?_
  refine wo_step (v := (.i .i64 0)) (s_pure (p_mv rfl)) ?_
  refine wo_nil ?_
  refine nx_norm ?_
  refine w_seq ?_
  refine w_ops ?_
  refine wo_step (v := (.i .i64 x0)) (s_pure (p_mv g0)) ?_
  have hq := bindP_inv hr
  clear hr
  obtain ⟨v11, m_1, e11, hr⟩ := hq
  refine wo_step (v := v11) (s_call (mc rfl mn) (callM_le hM.call e11)) ?_
  refine wo_step (v := v11) (s_pure (p_mv rfl)) ?_
  have hq := bindO_inv hr
  clear hr
  obtain ⟨v12, e12, hr⟩ := hq
  have hq := asI_inv hr
  clear hr
  obtain ⟨x12, rfl, hr⟩ := hq
  refine wo_step (v := (.i .u8 x12)) (s_pure (o_ext rfl e12)) ?_
  have hq := bindO_inv hr
  clear hr
  obtain ⟨v13, e13, hr⟩ := hq
  have hq := asI_inv hr
  clear hr
  obtain ⟨x13, rfl, hr⟩ := hq
  refine wo_step (v := (.i .i64 x13)) (s_pure (o_ext rfl e13)) ?_
  refine wo_step (v := (.i .u8 x12)) (s_pure (p_mv rfl)) ?_
  refine wo_step (v := (.i .i64 x13)) (s_pure (p_mv rfl)) ?_
  refine wo_nil ?_
  refine nx_norm ?_
  refine w_seq ?_
  refine w_seq ?_
  refine w_ops ?_
  refine wo_step (v := (.i .i64 x13)) (s_pure (p_mv rfl)) ?_
  have hq := forceB_inv hr
  clear hr
  obtain ⟨c15, e15, hr⟩ := hq
  refine wo_step (v := (.b c15)) (s_pure (p_bin rfl rfl (b_neq.trans (cb e15)))) ?_
  refine wo_nil ?_
  refine nx_norm ?_
  have hq := cond_inv hr
  clear hr
  rcases hq with ⟨rfl, hr⟩ | ⟨rfl, hr⟩
  · refine w_condT rfl ?_
    refine w_seq ?_
    refine w_ops ?_
    refine wo_step (v := (.i .i64 x13)) (s_pure (p_mv rfl)) ?_
    refine wo_step (v := (AVal.s [])) (s_pure (p_mv rfl)) ?_
    refine wo_step (v := (.i .i64 x13)) (s_pure (p_mv rfl)) ?_
    refine wo_nil ?_
    refine nx_norm ?_
    refine w_ret ?_
    refine nx_ret ?_
    exact qf ret_ok (rt rfl (rt rfl rn)) hr
  · refine w_condF rfl ?_
    refine w_skip ?_
    refine nx_norm ?_
    refine w_seq ?_
    refine w_seq ?_
    refine w_ops ?_
    refine wo_step (v := (.i .i64 x1)) (s_pure (p_mv g1)) ?_
    have hq := forceB_inv hr
    clear hr
    obtain ⟨c18, e18, hr⟩ := hq
    refine wo_step (v := (.b c18)) (s_pure (p_bin rfl rfl (b_lss.trans (cb e18)))) ?_
    refine wo_step (v := (.b c18)) (s_pure (p_mv rfl)) ?_
    have hq := bindO_inv hr
    clear hr
    obtain ⟨o, hr, hk⟩ := hq
    refine wo_join 3 (g26_J0 x1 x12 m_1 o) ?_ ?_
    · clear hk
      have hq := cond_inv hr
      clear hr
      rcases hq with ⟨rfl, hr⟩ | ⟨rfl, hr⟩
      · refine wo_skip (v := (.b true)) rfl rfl ?_
        refine wo_skip (v := (.b true)) rfl rfl ?_
        refine wo_step (v := (.b true)) (s_pure (p_pickT rfl rfl)) ?_
        refine wo_nil ?_
        cases hr
        exact ⟨_, _, rfl, rfl, gl rfl, gl g1, gl rfl⟩
      · refine wo_take (v := (.i .i64 x1)) rfl (s_pure (p_mv g1)) ?_
        have hq := forceB_inv hr
        clear hr
        obtain ⟨c21, e21, hr⟩ := hq
        refine wo_take (v := (.b c21)) rfl (s_pure (p_bin rfl rfl (b_gtr.trans (cb e21)))) ?_
        refine wo_step (v := (.b c21)) (s_pure (p_pickF rfl rfl)) ?_
        refine wo_nil ?_
        cases hr
        exact ⟨_, _, rfl, rfl, gl rfl, gl g1, gl rfl⟩
    · clear hr
      have hr := hk
      clear hk
      obtain ⟨c22, ho⟩ : ∃ z, z = o := ⟨_, rfl⟩
      subst ho
      rintro mm t_1 ⟨rfl, g22, g1, g6⟩
      refine wo_nil ?_
      refine nx_norm ?_
      have hq := cond_inv hr
      clear hr
      rcases hq with ⟨rfl, hr⟩ | ⟨rfl, hr⟩
      · refine w_condT g22 ?_
        refine w_seq ?_
        refine w_ops ?_
        refine wo_step (v := (AVal.s [])) (s_pure (p_mv rfl)) ?_
        refine wo_step (v := (.i .i64 2)) (s_pure (p_mv rfl)) ?_
        refine wo_nil ?_
        refine nx_norm ?_
        refine w_ret ?_
        refine nx_ret ?_
        exact qf ret_ok (rt rfl (rt rfl rn)) hr
      · refine w_condF g22 ?_
        refine w_skip ?_
        refine nx_norm ?_
        refine w_seq ?_
        refine w_ops ?_
        refine wo_step (v := (.i .u8 x12)) (s_pure (p_mv g6)) ?_
        have hq := bindP_inv hr
        clear hr
        obtain ⟨v24, m_2, e24, hr⟩ := hq
        have hq := asS_inv hr
        clear hr
        obtain ⟨s24, rfl, hr⟩ := hq
        refine wo_step (v := (.s s24)) (s_call (mc rfl mn) (callM_le hM.call e24)) ?_
        refine wo_step (v := (.s s24)) (s_pure (p_mv rfl)) ?_
        refine wo_nil ?_
        refine nx_norm ?_
        refine w_seq ?_
        refine w_seq ?_
        refine w_ops ?_
        refine wo_step (v := (.s s24)) (s_pure (p_mv rfl)) ?_
        have hq := bindO_inv hr
        clear hr
        obtain ⟨v26, e26, hr⟩ := hq
        have hq := asB_inv hr
        clear hr
        obtain ⟨c26, rfl, hr⟩ := hq
        refine wo_step (v := (.b c26)) (s_pure (o_sbin rfl rfl e26)) ?_
        refine wo_step (v := (.b c26)) (s_pure (p_mv rfl)) ?_
        have hq := bindO_inv hr
        clear hr
        obtain ⟨o_1, hr, hk⟩ := hq
        refine wo_join 5 (g26_J1 s24 m_2 o_1) ?_ ?_
        · clear hk
          have hq := cond_inv hr
          clear hr
          rcases hq with ⟨rfl, hr⟩ | ⟨rfl, hr⟩
          · refine wo_skip (v := (.b true)) rfl rfl ?_
            refine wo_skip (v := (.b true)) rfl rfl ?_
            refine wo_skip (v := (.b true)) rfl rfl ?_
            refine wo_skip (v := (.b true)) rfl rfl ?_
            refine wo_step (v := (.b true)) (s_pure (p_pickT rfl rfl)) ?_
            refine wo_nil ?_
            cases hr
            exact ⟨_, _, rfl, rfl, gl rfl, gl rfl⟩
          · refine wo_take (v := (.s s24)) rfl (s_pure (p_mv rfl)) ?_
            have hq := bindO_inv hr
            clear hr
            obtain ⟨v29, e29, hr⟩ := hq
            have hq := asI_inv hr
            clear hr
            obtain ⟨x29, rfl, hr⟩ := hq
            refine wo_take (v := (.i .i64 x29)) rfl (s_pure (o_len rfl e29)) ?_
            refine wo_take (v := (.i .i64 x1)) rfl (s_pure (p_mv g1)) ?_
            have hq := forceB_inv hr
            clear hr
            obtain ⟨c31, e31, hr⟩ := hq
            refine wo_take (v := (.b c31)) rfl (s_pure (p_bin rfl rfl (b_gtr.trans (cb e31)))) ?_
            refine wo_step (v := (.b c31)) (s_pure (p_pickF rfl rfl)) ?_
            refine wo_nil ?_
            cases hr
            exact ⟨_, _, rfl, rfl, gl rfl, gl rfl⟩
        · clear hr
          have hr := hk
          clear hk
          obtain ⟨c32, ho⟩ : ∃ z, z = o_1 := ⟨_, rfl⟩
          subst ho
          rintro mm_1 t_2 ⟨rfl, g32, g8⟩
          refine wo_nil ?_
          refine nx_norm ?_
          have hq := cond_inv hr
          clear hr
          rcases hq with ⟨rfl, hr⟩ | ⟨rfl, hr⟩
          · refine w_condT g32 ?_
            refine w_seq ?_
            refine w_ops ?_
            refine wo_step (v := (AVal.s [])) (s_pure (p_mv rfl)) ?_
            refine wo_step (v := (.i .i64 10)) (s_pure (p_mv rfl)) ?_
            refine wo_nil ?_
            refine nx_norm ?_
            refine w_ret ?_
            refine nx_ret ?_
            exact qf ret_ok (rt rfl (rt rfl rn)) hr
          · refine w_condF g32 ?_
            refine w_skip ?_
            refine nx_norm ?_
            refine w_seq ?_
            refine w_ops ?_
            refine wo_step (v := (.s s24)) (s_pure (p_mv g8)) ?_
            refine wo_step (v := (.s s24)) (s_pure (p_mv rfl)) ?_
            refine wo_step (v := (.i .i64 0)) (s_pure (p_mv rfl)) ?_
            refine wo_nil ?_
            refine nx_norm ?_
            refine w_ret ?_
            exact qf ret_ok (rt rfl (rt rfl rn)) hr

/- dibber/dibberref02.Eden -/
abbrev g27_J0 (x0 : Int) (x1 : Int) (m_1 : Mm) (o : Bool) (m1 : Mm) (t1 : Tr) : Prop :=
  match o with
  | c14 => m_1 = m1 ∧ t1.get 14 = (.b c14) ∧ t1.get 0 = (.i .i64 x0) ∧ t1.get 1 = (.i .i64 x1)
abbrev g27_J1 (x0 : Int) (x1 : Int) (m_1 : Mm) (o : Bool) (m1 : Mm) (t1 : Tr) : Prop :=
  match o with
  | c18 => m_1 = m1 ∧ t1.get 18 = (.b c18) ∧ t1.get 0 = (.i .i64 x0) ∧ t1.get 1 = (.i .i64 x1)
abbrev g27_J2 (s22 : List UInt8) (m_2 : Mm) (o : Bool) (m1 : Mm) (t1 : Tr) : Prop :=
  match o with
  | c31 => m_2 = m1 ∧ t1.get 31 = (.b c31) ∧ t1.get 6 = (.s s22)
def g27 (M : Means) (ro : List ABlk) (x0 : Int) (x1 : Int) (m0 : Mm) : Option (AVal × Heap × Nat × Nat) :=
  bindP (callM M.call m0 54 [(.i .i64 x0)]) fun v9 m_1 =>
  asB v9 fun c9 =>
  forceB (!c9) fun c10 =>
  bindO (cond c10 (
    some true) (
    forceB (ltI x1 1) fun c13 =>
    some c13)) fun c14 =>
  bindO (cond c14 (
    some true) (
    forceB (ltI 20 x1) fun c17 =>
    some c17)) fun c18 =>
  cond c18 (
    finM m0.h.length (tupA [(AVal.s []), (.i .i64 2)]) m_1) (
    bindP (callM M.call m_1 63 [(.i .i64 x0)]) fun v21 m_2 =>
    bindO (evP .e (.ext 0 (.c v21))) fun v22 =>
    asS v22 fun s22 =>
    bindO (evP .e (.ext 1 (.c v21))) fun v23 =>
    asB v23 fun c23 =>
    forceB (!c23) fun c25 =>
    bindO (cond c25 (
      some true) (
      bindO (evP .e (.len true (.c (.s s22)))) fun v28 =>
      asI .i64 v28 fun x28 =>
      forceB (ltI x1 x28) fun c30 =>
      some c30)) fun c31 =>
    cond c31 (
      finM m0.h.length (tupA [(AVal.s []), (.i .i64 10)]) m_2) (
      finM m0.h.length (tupA [(.s s22), (.i .i64 0)]) m_2))

theorem g27_ok {ro : List ABlk} {O : Caller} {M : Means} (hM : M.Ok ⟨F, O⟩ ro) {x0 x1 h r} (ho : O 27 [(.i .i64 x0), (.i .i64 x1)] h = none) (hr : g27 M ro x0 x1 ⟨h, h.length, h.length⟩ = some r) : callX ⟨F, O⟩ ro 27 [(.i .i64 x0), (.i .i64 x1)] h = some r := by
  refine callX_of (F := ⟨F, O⟩) (fn := fn27) (g := g27 M ro x0 x1) ho rfl rfl hr ?_
  clear ho
  clear hr
  intro m0 t0 ht hr
  have g0 : t0.get 0 = (.i .i64 x0) := ht 0
  have g1 : t0.get 1 = (.i .i64 x1) := ht 1
  clear ht
  unfold g27 at hr
  refine w_seq ?_
  refine w_ops ?_
  refine wo_step (v := (AVal.s [])) (s_pure (p_mv rfl)) ?_
  refine wo_step (v := (.i .i64 0)) (s_pure (p_mv rfl)) ?_
  refine wo_nil ?_
  refine nx_norm ?_
  refine w_seq ?_
  refine w_seq ?_
  refine w_ops ?_
  refine wo_step (v := (.i .i64 x0)) (s_pure (p_mv g0)) ?_
  have hq := bindP_inv hr
  clear hr
  obtain ⟨v9, m_1, e9, hr⟩ := hq
  have hq := asB_inv hr
  clear hr
  obtain ⟨c9, rfl, hr⟩ := hq
  refine wo_step (v := (.b c9)) (s_call (mc rfl mn) (callM_le hM.call e9)) ?_
  have hq := forceB_inv hr
  clear hr
  obtain ⟨c10, e10, hr⟩ := hq
  refine wo_step (v := (.b c10)) (s_pure ((p_not rfl).trans (cb e10))) ?_
  refine wo_step (v := (.b c10)) (s_pure (p_mv rfl)) ?_
  have hq := bindO_inv hr
  clear hr
  obtain ⟨o, hr, hk⟩ := hq
  refine wo_join 3 (g27_J0 x0 x1 m_1 o) ?_ ?_
  · clear hk
    have hq := cond_inv hr
    clear hr
    rcases hq with ⟨rfl, hr⟩ | ⟨rfl, hr⟩
    · refine wo_skip (v := (.b true)) rfl rfl ?_
      refine wo_skip (v := (.b true)) rfl rfl ?_
      refine wo_step (v := (.b true)) (s_pure (p_pickT rfl rfl)) ?_
      refine wo_nil ?_
      cases hr
      exact ⟨_, _, rfl, rfl, gl rfl, gl g0, gl g1⟩
    · refine wo_take (v := (.i .i64 x1)) rfl (s_pure (p_mv g1)) ?_
      have hq := forceB_inv hr
      clear hr
      obtain ⟨c13, e13, hr⟩ := hq
      refine wo_take (v := (.b c13)) rfl (s_pure (p_bin rfl rfl (b_lss.trans (cb e13)))) ?_
      refine wo_step (v := (.b c13)) (s_pure (p_pickF rfl rfl)) ?_
      refine wo_nil ?_
      cases hr
      exact ⟨_, _, rfl, rfl, gl rfl, gl g0, gl g1⟩
  · clear hr
    have hr := hk
    clear hk
    obtain ⟨c14, ho⟩ : ∃ z, z = o := ⟨_, rfl⟩
    subst ho
    rintro mm t_1 ⟨rfl, g14, g0, g1⟩
    refine wo_step (v := (.b c14)) (s_pure (p_mv g14)) ?_
    have hq := bindO_inv hr
    clear hr
    obtain ⟨o_1, hr, hk⟩ := hq
    refine wo_join 3 (g27_J1 x0 x1 m_1 o_1) ?_ ?_
    · clear hk
      have hq := cond_inv hr
      clear hr
      rcases hq with ⟨rfl, hr⟩ | ⟨rfl, hr⟩
      · refine wo_skip (v := (.b true)) rfl rfl ?_
        refine wo_skip (v := (.b true)) rfl rfl ?_
        refine wo_step (v := (.b true)) (s_pure (p_pickT rfl rfl)) ?_
        refine wo_nil ?_
        cases hr
        exact ⟨_, _, rfl, rfl, gl rfl, gl g0, gl g1⟩
      · refine wo_take (v := (.i .i64 x1)) rfl (s_pure (p_mv g1)) ?_
        have hq := forceB_inv hr
        clear hr
        obtain ⟨c17, e17, hr⟩ := hq
        refine wo_take (v := (.b c17)) rfl (s_pure (p_bin rfl rfl (b_gtr.trans (cb e17)))) ?_
        refine wo_step (v := (.b c17)) (s_pure (p_pickF rfl rfl)) ?_
        refine wo_nil ?_
        cases hr
        exact ⟨_, _, rfl, rfl, gl rfl, gl g0, gl g1⟩
    · clear hr
      have hr := hk
      clear hk
      obtain ⟨c18, ho⟩ : ∃ z, z = o_1 := ⟨_, rfl⟩
      subst ho
      rintro mm_1 t_2 ⟨rfl, g18, g0, g1⟩
      refine wo_nil ?_
      refine nx_norm ?_
      have hq := cond_inv hr
      clear hr
      rcases hq with ⟨rfl, hr⟩ | ⟨rfl, hr⟩
      · refine w_condT g18 ?_
        refine w_seq ?_
        refine w_ops ?_
        refine wo_step (v := (AVal.s [])) (s_pure (p_mv rfl)) ?_
        refine wo_step (v := (.i .i64 2)) (s_pure (p_mv rfl)) ?_
        refine wo_nil ?_
        refine nx_norm ?_
        refine w_ret ?_
        refine nx_ret ?_
        exact qf ret_ok (rt rfl (rt rfl rn)) hr
      · refine w_condF g18 ?_
        refine w_skip ?_
        refine nx_norm ?_
        refine w_seq ?_
        refine w_ops ?_
        refine wo_step (v := (.i .i64 x0)) (s_pure (p_mv g0)) ?_
        have hq := bindP_inv hr
        clear hr
        obtain ⟨v21, m_2, e21, hr⟩ := hq
        refine wo_step (v := v21) (s_call (mc rfl mn) (callM_le hM.call e21)) ?_
        refine wo_step (v := v21) (s_pure (p_mv rfl)) ?_
        have hq := bindO_inv hr
        clear hr
        obtain ⟨v22, e22, hr⟩ := hq
        have hq := asS_inv hr
        clear hr
        obtain ⟨s22, rfl, hr⟩ := hq
        refine wo_step (v := (.s s22)) (s_pure (o_ext rfl e22)) ?_
        have hq := bindO_inv hr
        clear hr
        obtain ⟨v23, e23, hr⟩ := hq
        have hq := asB_inv hr
        clear hr
        obtain ⟨c23, rfl, hr⟩ := hq
        refine wo_step (v := (.b c23)) (s_pure (o_ext rfl e23)) ?_
        refine wo_step (v := (.s s22)) (s_pure (p_mv rfl)) ?_
        refine wo_step (v := (.b c23)) (s_pure (p_mv rfl)) ?_
        refine wo_nil ?_
        refine nx_norm ?_
        refine w_seq ?_
        refine w_seq ?_
        refine w_ops ?_
        refine wo_step (v := (.b c23)) (s_pure (p_mv rfl)) ?_
        have hq := forceB_inv hr
        clear hr
        obtain ⟨c25, e25, hr⟩ := hq
        refine wo_step (v := (.b c25)) (s_pure ((p_not rfl).trans (cb e25))) ?_
        refine wo_step (v := (.b c25)) (s_pure (p_mv rfl)) ?_
        have hq := bindO_inv hr
        clear hr
        obtain ⟨o_2, hr, hk⟩ := hq
        refine wo_join 5 (g27_J2 s22 m_2 o_2) ?_ ?_
        · clear hk
          have hq := cond_inv hr
          clear hr
          rcases hq with ⟨rfl, hr⟩ | ⟨rfl, hr⟩
          · refine wo_skip (v := (.b true)) rfl rfl ?_
            refine wo_skip (v := (.b true)) rfl rfl ?_
            refine wo_skip (v := (.b true)) rfl rfl ?_
            refine wo_skip (v := (.b true)) rfl rfl ?_
            refine wo_step (v := (.b true)) (s_pure (p_pickT rfl rfl)) ?_
            refine wo_nil ?_
            cases hr
            exact ⟨_, _, rfl, rfl, gl rfl, gl rfl⟩
          · refine wo_take (v := (.s s22)) rfl (s_pure (p_mv rfl)) ?_
            have hq := bindO_inv hr
            clear hr
            obtain ⟨v28, e28, hr⟩ := hq
            have hq := asI_inv hr
            clear hr
            obtain ⟨x28, rfl, hr⟩ := hq
            refine wo_take (v := (.i .i64 x28)) rfl (s_pure (o_len rfl e28)) ?_
            refine wo_take (v := (.i .i64 x1)) rfl (s_pure (p_mv g1)) ?_
            have hq := forceB_inv hr
            clear hr
            obtain ⟨c30, e30, hr⟩ := hq
            refine wo_take (v := (.b c30)) rfl (s_pure (p_bin rfl rfl (b_gtr.trans (cb e30)))) ?_
            refine wo_step (v := (.b c30)) (s_pure (p_pickF rfl rfl)) ?_
            refine wo_nil ?_
            cases hr
            exact ⟨_, _, rfl, rfl, gl rfl, gl rfl⟩
        · clear hr
          have hr := hk
          clear hk
          obtain ⟨c31, ho⟩ : ∃ z, z = o_2 := ⟨_, rfl⟩
          subst ho
          rintro mm_2 t_3 ⟨rfl, g31, g6⟩
          refine wo_nil ?_
          refine nx_norm ?_
          have hq := cond_inv hr
          clear hr
          rcases hq with ⟨rfl, hr⟩ | ⟨rfl, hr⟩
          · refine w_condT g31 ?_
            refine w_seq ?_
            refine w_ops ?_
            refine wo_step (v := (AVal.s [])) (s_pure (p_mv rfl)) ?_
            refine wo_step (v := (.i .i64 10)) (s_pure (p_mv rfl)) ?_
            refine wo_nil ?_
            refine nx_norm ?_
            refine w_ret ?_
            refine nx_ret ?_
            exact qf ret_ok (rt rfl (rt rfl rn)) hr
          · refine w_condF g31 ?_
            refine w_skip ?_
            refine nx_norm ?_
            refine w_seq ?_
            refine w_ops ?_
            refine wo_step (v := (.s s22)) (s_pure (p_mv g6)) ?_
            refine wo_step (v := (.s s22)) (s_pure (p_mv rfl)) ?_
            refine wo_step (v := (.i .i64 0)) (s_pure (p_mv rfl)) ?_
            refine wo_nil ?_
            refine nx_norm ?_
            refine w_ret ?_
            exact qf ret_ok (rt rfl (rt rfl rn)) hr

/- dibber/weed.Onto -/

def g28 (M : Means) (ro : List ABlk) (x0 : Int) (m0 : Mm) : Option (AVal × Heap × Nat × Nat) :=
  bindP (callM M.call m0 61 [(.i .i64 x0)]) fun v8 m_1 =>
  bindO (evP .e (.ext 0 (.c v8))) fun v9 =>
  asI .u8 v9 fun x9 =>
  bindO (evP .e (.ext 1 (.c v8))) fun v10 =>
  asI .i64 v10 fun x10 =>
  forceB (!eqI x10 0) fun c12 =>
  cond c12 (
    finM m0.h.length (tupA [(.b false), (.i .i64 x10)]) m_1) (
    bindP (callM M.call m_1 62 [(.i .u8 x9)]) fun v15 m_2 =>
    asS v15 fun s15 =>
    bindO (evP .e (.sbin BinOp.eql (.c (.s s15)) (.c (AVal.s [])))) fun v16 =>
    asB v16 fun c16 =>
    finM m0.h.length (tupA [(.b c16), (.i .i64 0)]) m_2)

theorem g28_ok {ro : List ABlk} {O : Caller} {M : Means} (hM : M.Ok ⟨F, O⟩ ro) {x0 h r} (ho : O 28 [(.i .i64 x0)] h = none) (hr : g28 M ro x0 ⟨h, h.length, h.length⟩ = some r) : callX ⟨F, O⟩ ro 28 [(.i .i64 x0)] h = some r := by
  refine callX_of (F := ⟨F, O⟩) (fn := fn28) (g := g28 M ro x0) ho rfl rfl hr ?_
  clear ho
  clear hr
  intro m0 t0 ht hr
  have g0 : t0.get 0 = (.i .i64 x0) := ht 0
  clear ht
  unfold g28 at hr
  refine w_seq ?_
  refine w_ops ?_
  refine wo_step (v := (.b false)) (s_pure (p_mv rfl)) ?_
  refine wo_step (v := (.i .i64 0)) (s_pure (p_mv rfl)) ?_
  refine wo_nil ?_
  refine nx_norm ?_
  refine w_seq ?_
  refine w_ops ?_
  refine wo_step (v := (.i .i64 x0)) (s_pure (p_mv g0)) ?_
  have hq := bindP_inv hr
  clear hr
  obtain ⟨v8, m_1, e8, hr⟩ := hq
  refine wo_step (v := v8) (s_call (mc rfl mn) (callM_le hM.call e8)) ?_
  refine wo_step (v := v8) (s_pure (p_mv rfl)) ?_
  have hq := bindO_inv hr
  clear hr
  obtain ⟨v9, e9, hr⟩ := hq
  have hq := asI_inv hr
  clear hr
  obtain ⟨x9, rfl, hr⟩ := hq
  refine wo_step (v := (.i .u8 x9)) (s_pure (o_ext rfl e9)) ?_
  have hq := bindO_inv hr
  clear hr
  obtain ⟨v10, e10, hr⟩ := hq
  have hq := asI_inv hr
  clear hr
  obtain ⟨x10, rfl, hr⟩ := hq
  refine wo_step (v := (.i .i64 x10)) (s_pure (o_ext rfl e10)) ?_
  refine wo_step (v := (.i .u8 x9)) (s_pure (p_mv rfl)) ?_
  refine wo_step (v := (.i .i64 x10)) (s_pure (p_mv rfl)) ?_
  refine wo_nil ?_
  refine nx_norm ?_
  refine w_seq ?_
  refine w_seq ?_
  refine w_ops ?_
  refine wo_step (v := (.i .i64 x10)) (s_pure (p_mv rfl)) ?_
  have hq := forceB_inv hr
  clear hr
  obtain ⟨c12, e12, hr⟩ := hq
  refine wo_step (v := (.b c12)) (s_pure (p_bin rfl rfl (b_neq.trans (cb e12)))) ?_
  refine wo_nil ?_
  refine nx_norm ?_
  have hq := cond_inv hr
  clear hr
  rcases hq with ⟨rfl, hr⟩ | ⟨rfl, hr⟩
  · refine w_condT rfl ?_
    refine w_seq ?_
    refine w_ops ?_
    refine wo_step (v := (.i .i64 x10)) (s_pure (p_mv rfl)) ?_
    refine wo_step (v := (.b false)) (s_pure (p_mv rfl)) ?_
    refine wo_step (v := (.i .i64 x10)) (s_pure (p_mv rfl)) ?_
    refine wo_nil ?_
    refine nx_norm ?_
    refine w_ret ?_
    refine nx_ret ?_
    exact qf ret_ok (rt rfl (rt rfl rn)) hr
  · refine w_condF rfl ?_
    refine w_skip ?_
    refine nx_norm ?_
    refine w_seq ?_
    refine w_ops ?_
    refine wo_step (v := (.i .u8 x9)) (s_pure (p_mv rfl)) ?_
    have hq := bindP_inv hr
    clear hr
    obtain ⟨v15, m_2, e15, hr⟩ := hq
    have hq := asS_inv hr
    clear hr
    obtain ⟨s15, rfl, hr⟩ := hq
    refine wo_step (v := (.s s15)) (s_call (mc rfl mn) (callM_le hM.call e15)) ?_
    have hq := bindO_inv hr
    clear hr
    obtain ⟨v16, e16, hr⟩ := hq
    have hq := asB_inv hr
    clear hr
    obtain ⟨c16, rfl, hr⟩ := hq
    refine wo_step (v := (.b c16)) (s_pure (o_sbin rfl rfl e16)) ?_
    refine wo_step (v := (.b c16)) (s_pure (p_mv rfl)) ?_
    refine wo_step (v := (.i .i64 0)) (s_pure (p_mv rfl)) ?_
    refine wo_nil ?_
    refine nx_norm ?_
    refine w_ret ?_
    exact qf ret_ok (rt rfl (rt rfl rn)) hr

/- dibber/dibberref02.Onto -/

def g29 (M : Means) (ro : List ABlk) (x0 : Int) (m0 : Mm) : Option (AVal × Heap × Nat × Nat) :=
  bindP (callM M.call m0 54 [(.i .i64 x0)]) fun v7 m_1 =>
  asB v7 fun c7 =>
  forceB (!c7) fun c8 =>
  cond c8 (
    finM m0.h.length (tupA [(.b false), (.i .i64 2)]) m_1) (
    bindP (callM M.call m_1 63 [(.i .i64 x0)]) fun v11 m_2 =>
    bindO (evP .e (.ext 0 (.c v11))) fun v12 =>
    asS v12 fun s12 =>
    bindO (evP .e (.ext 1 (.c v11))) fun v13 =>
    asB v13 fun c13 =>
    forceB (!c13) fun c15 =>
    finM m0.h.length (tupA [(.b c15), (.i .i64 0)]) m_2)

theorem g29_ok {ro : List ABlk} {O : Caller} {M : Means} (hM : M.Ok ⟨F, O⟩ ro) {x0 h r} (ho : O 29 [(.i .i64 x0)] h = none) (hr : g29 M ro x0 ⟨h, h.length, h.length⟩ = some r) : callX ⟨F, O⟩ ro 29 [(.i .i64 x0)] h = some r := by
  refine callX_of (F := ⟨F, O⟩) (fn := fn29) (g := g29 M ro x0) ho rfl rfl hr ?_
  clear ho
  clear hr
  intro m0 t0 ht hr
  have g0 : t0.get 0 = (.i .i64 x0) := ht 0
  clear ht
  unfold g29 at hr
  refine w_seq ?_
  refine w_ops ?_
  refine wo_step (v := (.b false)) (s_pure (p_mv rfl)) ?_
  refine wo_step (v := (.i .i64 0)) (s_pure (p_mv rfl)) ?_
  refine wo_nil ?_
  refine nx_norm ?_
  refine w_seq ?_
  refine w_seq ?_
  refine w_ops ?_
  refine wo_step (v := (.i .i64 x0)) (s_pure (p_mv g0)) ?_
  have hq := bindP_inv hr
  clear hr
  obtain ⟨v7, m_1, e7, hr⟩ := hq
  have hq := asB_inv hr
  clear hr
  obtain ⟨c7, rfl, hr⟩ := hq
  refine wo_step (v := (.b c7)) (s_call (mc rfl mn) (callM_le hM.call e7)) ?_
  have hq := forceB_inv hr
  clear hr
  obtain ⟨c8, e8, hr⟩ := hq
  refine wo_step (v := (.b c8)) (s_pure ((p_not rfl).trans (cb e8))) ?_
  refine wo_nil ?_
  refine nx_norm ?_
  have hq := cond_inv hr
  clear hr
  rcases hq with ⟨rfl, hr⟩ | ⟨rfl, hr⟩
  · refine w_condT rfl ?_
    refine w_seq ?_
    refine w_ops ?_
    refine wo_step (v := (.b false)) (s_pure (p_mv rfl)) ?_
    refine wo_step (v := (.i .i64 2)) (s_pure (p_mv rfl)) ?_
    refine wo_nil ?_
    refine nx_norm ?_
    refine w_ret ?_
    refine nx_ret ?_
    exact qf ret_ok (rt rfl (rt rfl rn)) hr
  · refine w_condF rfl ?_
    refine w_skip ?_
    refine nx_norm ?_
    refine w_seq ?_
    refine w_ops ?_
    refine wo_step (v := (.i .i64 x0)) (s_pure (p_mv g0)) ?_
    have hq := bindP_inv hr
    clear hr
    obtain ⟨v11, m_2, e11, hr⟩ := hq
    refine wo_step (v := v11) (s_call (mc rfl mn) (callM_le hM.call e11)) ?_
    refine wo_step (v := v11) (s_pure (p_mv rfl)) ?_
    have hq := bindO_inv hr
    clear hr
    obtain ⟨v12, e12, hr⟩ := hq
    have hq := asS_inv hr
    clear hr
    obtain ⟨s12, rfl, hr⟩ := hq
    refine wo_step (v := (.s s12)) (s_pure (o_ext rfl e12)) ?_
    have hq := bindO_inv hr
    clear hr
    obtain ⟨v13, e13, hr⟩ := hq
    have hq := asB_inv hr
    clear hr
    obtain ⟨c13, rfl, hr⟩ := hq
    refine wo_step (v := (.b c13)) (s_pure (o_ext rfl e13)) ?_
    refine wo_step (v := (.s s12)) (s_pure (p_mv rfl)) ?_
    refine wo_step (v := (.b c13)) (s_pure (p_mv rfl)) ?_
    refine wo_nil ?_
    refine nx_norm ?_
    refine w_seq ?_
    refine w_ops ?_
    refine wo_step (v := (.b c13)) (s_pure (p_mv rfl)) ?_
    have hq := forceB_inv hr
    clear hr
    obtain ⟨c15, e15, hr⟩ := hq
    refine wo_step (v := (.b c15)) (s_pure ((p_not rfl).trans (cb e15))) ?_
    refine wo_step (v := (.b c15)) (s_pure (p_mv rfl)) ?_
    refine wo_step (v := (.i .i64 0)) (s_pure (p_mv rfl)) ?_
    refine wo_nil ?_
    refine nx_norm ?_
    refine w_ret ?_
    exact qf ret_ok (rt rfl (rt rfl rn)) hr

/- dibber/weed.OneToOne -/

def g30 (M : Means) (ro : List ABlk) (x0 : Int) (m0 : Mm) : Option (AVal × Heap × Nat × Nat) :=
  bindP (callM M.call m0 61 [(.i .i64 x0)]) fun v8 m_1 =>
  bindO (evP .e (.ext 0 (.c v8))) fun v9 =>
  asI .u8 v9 fun x9 =>
  bindO (evP .e (.ext 1 (.c v8))) fun v10 =>
  asI .i64 v10 fun x10 =>
  forceB (!eqI x10 0) fun c12 =>
  cond c12 (
    finM m0.h.length (tupA [(.b false), (.i .i64 x10)]) m_1) (
    bindP (callM M.call m_1 64 [(.i .u8 x9)]) fun v15 m_2 =>
    asB v15 fun c15 =>
    finM m0.h.length (tupA [(.b c15), (.i .i64 0)]) m_2)

theorem g30_ok {ro : List ABlk} {O : Caller} {M : Means} (hM : M.Ok ⟨F, O⟩ ro) {x0 h r} (ho : O 30 [(.i .i64 x0)] h = none) (hr : g30 M ro x0 ⟨h, h.length, h.length⟩ = some r) : callX ⟨F, O⟩ ro 30 [(.i .i64 x0)] h = some r := by
  refine callX_of (F := ⟨F, O⟩) (fn := fn30) (g := g30 M ro x0) ho rfl rfl hr ?_
  clear ho
  clear hr
  intro m0 t0 ht hr
  have g0 : t0.get 0 = (.i .i64 x0) := ht 0
  clear ht
  unfold g30 at hr
  refine w_seq ?_
  refine w_ops ?_
  refine wo_step (v := (.b false)) (s_pure (p_mv rfl)) ?_
  refine wo_step (v := (.i .i64 0)) (s_pure (p_mv rfl)) ?_
  refine wo_nil ?_
  refine nx_norm ?_
  refine w_seq ?_
  refine w_ops ?_
  refine wo_step (v := (.i .i64 x0)) (s_pure (p_mv g0)) ?_
  have hq := bindP_inv hr
  clear hr
  obtain ⟨v8, m_1, e8, hr⟩ := hq
  refine wo_step (v := v8) (s_call (mc rfl mn) (callM_le hM.call e8)) ?_
  refine wo_step (v := v8) (s_pure (p_mv rfl)) ?_
  have hq := bindO_inv hr
  clear hr
  obtain ⟨v9, e9, hr⟩ := hq
  have hq := asI_inv hr
  clear hr
  obtain ⟨x9, rfl, hr⟩ := hq
  refine wo_step (v := (.i .u8 x9)) (s_pure (o_ext rfl e9)) ?_
  have hq := bindO_inv hr
  clear hr
  obtain ⟨v10, e10, hr⟩ := hq
  have hq := asI_inv hr
  clear hr
  obtain ⟨x10, rfl, hr⟩ := hq
  refine wo_step (v := (.i .i64 x10)) (s_pure (o_ext rfl e10)) ?_
  refine wo_step (v := (.i .u8 x9)) (s_pure (p_mv rfl)) ?_
  refine wo_step (v := (.i .i64 x10)) (s_pure (p_mv rfl)) ?_
  refine wo_nil ?_
  refine nx_norm ?_
  refine w_seq ?_
  refine w_seq ?_
  refine w_ops ?_
  refine wo_step (v := (.i .i64 x10)) (s_pure (p_mv rfl)) ?_
  have hq := forceB_inv hr
  clear hr
  obtain ⟨c12, e12, hr⟩ := hq
  refine wo_step (v := (.b c12)) (s_pure (p_bin rfl rfl (b_neq.trans (cb e12)))) ?_
  refine wo_nil ?_
  refine nx_norm ?_
  have hq := cond_inv hr
  clear hr
  rcases hq with ⟨rfl, hr⟩ | ⟨rfl, hr⟩
  · refine w_condT rfl ?_
    refine w_seq ?_
    refine w_ops ?_
    refine wo_step (v := (.i .i64 x10)) (s_pure (p_mv rfl)) ?_
    refine wo_step (v := (.b false)) (s_pure (p_mv rfl)) ?_
    refine wo_step (v := (.i .i64 x10)) (s_pure (p_mv rfl)) ?_
    refine wo_nil ?_
    refine nx_norm ?_
    refine w_ret ?_
    refine nx_ret ?_
    exact qf ret_ok (rt rfl (rt rfl rn)) hr
  · refine w_condF rfl ?_
    refine w_skip ?_
    refine nx_norm ?_
    refine w_seq ?_
    refine w_ops ?_
    refine wo_step (v := (.i .u8 x9)) (s_pure (p_mv rfl)) ?_
    have hq := bindP_inv hr
    clear hr
    obtain ⟨v15, m_2, e15, hr⟩ := hq
    have hq := asB_inv hr
    clear hr
    obtain ⟨c15, rfl, hr⟩ := hq
    refine wo_step (v := (.b c15)) (s_call (mc rfl mn) (callM_le hM.call e15)) ?_
    refine wo_step (v := (.b c15)) (s_pure (p_mv rfl)) ?_
    refine wo_step (v := (.i .i64 0)) (s_pure (p_mv rfl)) ?_
    refine wo_nil ?_
    refine nx_norm ?_
    refine w_ret ?_
    exact qf ret_ok (rt rfl (rt rfl rn)) hr

/- dibber/weed.Mirror -/

def g36 (M : Means) (ro : List ABlk) (x0 : Int) (m0 : Mm) : Option (AVal × Heap × Nat × Nat) :=
  bindP (callM M.call m0 61 [(.i .i64 x0)]) fun v11 m_1 =>
  bindO (evP .e (.ext 0 (.c v11))) fun v12 =>
  asI .u8 v12 fun x12 =>
  bindO (evP .e (.ext 1 (.c v11))) fun v13 =>
  asI .i64 v13 fun x13 =>
  forceB (!eqI x13 0) fun c15 =>
  cond c15 (
    finM m0.h.length (tupA [(.i .i64 0), (.i .i64 0), (.i .i64 x13)]) m_1) (
    bindP (callM M.call m_1 69 [(.i .u8 x12)]) fun v19 m_2 =>
    bindO (evP .e (.ext 0 (.c v19))) fun v20 =>
    asI .u8 v20 fun x20 =>
    bindO (evP .e (.ext 1 (.c v19))) fun v21 =>
    asI .u8 v21 fun x21 =>
    forceI (wr .i64 x20) fun x23 =>
    forceI (wr .i64 x21) fun x25 =>
    finM m0.h.length (tupA [(.i .i64 x23), (.i .i64 x25), (.i .i64 0)]) m_2)

theorem g36_ok {ro : List ABlk} {O : Caller} {M : Means} (hM : M.Ok ⟨F, O⟩ ro) {x0 h r} (ho : O 36 [(.i .i64 x0)] h = none) (hr : g36 M ro x0 ⟨h, h.length, h.length⟩ = some r) : callX ⟨F, O⟩ ro 36 [(.i .i64 x0)] h = some r := by
  refine callX_of (F := ⟨F, O⟩) (fn := fn36) (g := g36 M ro x0) ho rfl rfl hr ?_
  clear ho
  clear hr
  intro m0 t0 ht hr
  have g0 : t0.get 0 = (.i .i64 x0) := ht 0
  clear ht
  unfold g36 at hr
  refine w_seq ?_
  refine w_ops ?_
  refine wo_step (v := (.i .i64 0)) (s_pure (p_mv rfl)) ?_
  refine wo_step (v := (.i .i64 0)) (s_pure (p_mv rfl)) ?_
  refine wo_step (v := (.i .i64 0)) (s_pure (p_mv rfl)) ?_
  refine wo_nil ?_
  refine nx_norm ?_
  refine w_seq ?_
  refine w_ops ?_
  refine wo_step (v := (.i .i64 x0)) (s_pure (p_mv g0)) ?_
  have hq := bindP_inv hr
  clear hr
  obtain ⟨v11, m_1, e11, hr⟩ := hq
  refine wo_step (v := v11) (s_call (mc rfl mn) (callM_le hM.call e11)) ?_
  refine wo_step (v := v11) (s_pure (p_mv rfl)) ?_
  have hq := bindO_inv hr
  clear hr
  obtain ⟨v12, e12, hr⟩ := hq
  have hq := asI_inv hr
  clear hr
  obtain ⟨x12, rfl, hr⟩ := hq
  refine wo_step (v := (.i .u8 x12)) (s_pure (o_ext rfl e12)) ?_
  have hq := bindO_inv hr
  clear hr
  obtain ⟨v13, e13, hr⟩ := hq
  have hq := asI_inv hr
  clear hr
  obtain ⟨x13, rfl, hr⟩ := hq
  refine wo_step (v := (.i .i64 x13)) (s_pure (o_ext rfl e13)) ?_
  refine wo_step (v := (.i .u8 x12)) (s_pure (p_mv rfl)) ?_
  refine wo_step (v := (.i .i64 x13)) (s_pure (p_mv rfl)) ?_
  refine wo_nil ?_
  refine nx_norm ?_
  refine w_seq ?_
  refine w_seq ?_
  refine w_ops ?_
  refine wo_step (v := (.i .i64 x13)) (s_pure (p_mv rfl)) ?_
  have hq := forceB_inv hr
  clear hr
  obtain ⟨c15, e15, hr⟩ := hq
  refine wo_step (v := (.b c15)) (s_pure (p_bin rfl rfl (b_neq.trans (cb e15)))) ?_
  refine wo_nil ?_
  refine nx_norm ?_
  have hq := cond_inv hr
  clear hr
  rcases hq with ⟨rfl, hr⟩ | ⟨rfl, hr⟩
  · refine w_condT rfl ?_
    refine w_seq ?_
    refine w_ops ?_
    refine wo_step (v := (.i .i64 x13)) (s_pure (p_mv rfl)) ?_
    refine wo_step (v := (.i .i64 0)) (s_pure (p_mv rfl)) ?_
    refine wo_step (v := (.i .i64 0)) (s_pure (p_mv rfl)) ?_
    refine wo_step (v := (.i .i64 x13)) (s_pure (p_mv rfl)) ?_
    refine wo_nil ?_
    refine nx_norm ?_
    refine w_ret ?_
    refine nx_ret ?_
    exact qf ret_ok (rt rfl (rt rfl (rt rfl rn))) hr
  · refine w_condF rfl ?_
    refine w_skip ?_
    refine nx_norm ?_
    refine w_seq ?_
    refine w_ops ?_
    refine wo_step (v := (.i .u8 x12)) (s_pure (p_mv rfl)) ?_
    have hq := bindP_inv hr
    clear hr
    obtain ⟨v19, m_2, e19, hr⟩ := hq
    refine wo_step (v := v19) (s_call (mc rfl mn) (callM_le hM.call e19)) ?_
    refine wo_step (v := v19) (s_pure (p_mv rfl)) ?_
    have hq := bindO_inv hr
    clear hr
    obtain ⟨v20, e20, hr⟩ := hq
    have hq := asI_inv hr
    clear hr
    obtain ⟨x20, rfl, hr⟩ := hq
    refine wo_step (v := (.i .u8 x20)) (s_pure (o_ext rfl e20)) ?_
    have hq := bindO_inv hr
    clear hr
    obtain ⟨v21, e21, hr⟩ := hq
    have hq := asI_inv hr
    clear hr
    obtain ⟨x21, rfl, hr⟩ := hq
    refine wo_step (v := (.i .u8 x21)) (s_pure (o_ext rfl e21)) ?_
    refine wo_step (v := (.i .u8 x20)) (s_pure (p_mv rfl)) ?_
    refine wo_step (v := (.i .u8 x21)) (s_pure (p_mv rfl)) ?_
    refine wo_nil ?_
    refine nx_norm ?_
    refine w_seq ?_
    refine w_ops ?_
    refine wo_step (v := (.i .u8 x20)) (s_pure (p_mv rfl)) ?_
    have hq := forceI_inv hr
    clear hr
    obtain ⟨x23, e23, hr⟩ := hq
    refine wo_step (v := (.i .i64 x23)) (s_pure ((p_conv rfl).trans (ci e23))) ?_
    refine wo_step (v := (.i .u8 x21)) (s_pure (p_mv rfl)) ?_
    have hq := forceI_inv hr
    clear hr
    obtain ⟨x25, e25, hr⟩ := hq
    refine wo_step (v := (.i .i64 x25)) (s_pure ((p_conv rfl).trans (ci e25))) ?_
    refine wo_step (v := (.i .i64 x23)) (s_pure (p_mv rfl)) ?_
    refine wo_step (v := (.i .i64 x25)) (s_pure (p_mv rfl)) ?_
    refine wo_step (v := (.i .i64 0)) (s_pure (p_mv rfl)) ?_
    refine wo_nil ?_
    refine nx_norm ?_
    refine w_ret ?_
    exact qf ret_ok (rt rfl (rt rfl (rt rfl rn))) hr

/- dibber/dibberref02.Mirror -/
abbrev g37_I0 (x0 : Int) (s : Int × Int × Int × Mm) (m1 : Mm) (t1 : Tr) : Prop :=
  match s with
  | (x5, x6, x7, m_2) => m_2 = m1 ∧ t1.get 5 = (.i .i64 x5) ∧ t1.get 6 = (.i .i64 x6) ∧ t1.get 7 = (.i .i64 x7) ∧ t1.get 0 = (.i .i64 x0)
abbrev g37_J0 (x0 : Int) (o : (Int × Int × Mm)) (e : AExit) (m1 : Mm) (t1 : Tr) : Prop :=
  match o with
  | (y5, y6, mo) => e = (.exit 0) ∧ mo = m1 ∧ t1.get 5 = (.i .i64 y5) ∧ t1.get 6 = (.i .i64 y6)
abbrev g37_I1 (x0 : Int) (x7 : Int) (s : Int × Int × Int × Mm) (m1 : Mm) (t1 : Tr) : Prop :=
  match s with
  | (x5_1, x6_1, x8, m_3) => m_3 = m1 ∧ t1.get 5 = (.i .i64 x5_1) ∧ t1.get 6 = (.i .i64 x6_1) ∧ t1.get 8 = (.i .i64 x8) ∧ t1.get 0 = (.i .i64 x0) ∧ t1.get 7 = (.i .i64 x7)
abbrev g37_J1 (x0 : Int) (x7 : Int) (o : (Int × Int × Mm)) (e : AExit) (m1 : Mm) (t1 : Tr) : Prop :=
  match o with
  | (y5, y6, mo) => e = (.exit 2) ∧ mo = m1 ∧ t1.get 5 = (.i .i64 y5) ∧ t1.get 6 = (.i .i64 y6) ∧ t1.get 0 = (.i .i64 x0) ∧ t1.get 7 = (.i .i64 x7)
abbrev g37_I2 (x0 : Int) (x7 : Int) (x8 : Int) (s : Int × Int × Int × Mm) (m1 : Mm) (t1 : Tr) : Prop :=
  match s with
  | (x5_2, x6_2, x9, m_4) => m_4 = m1 ∧ t1.get 5 = (.i .i64 x5_2) ∧ t1.get 6 = (.i .i64 x6_2) ∧ t1.get 9 = (.i .i64 x9) ∧ t1.get 0 = (.i .i64 x0) ∧ t1.get 7 = (.i .i64 x7) ∧ t1.get 8 = (.i .i64 x8)
abbrev g37_J2 (x0 : Int) (x7 : Int) (x8 : Int) (o : (Int × Int × Mm)) (e : AExit) (m1 : Mm) (t1 : Tr) : Prop :=
  match o with
  | (y5, y6, mo) => e = (.exit 4) ∧ mo = m1 ∧ t1.get 5 = (.i .i64 y5) ∧ t1.get 6 = (.i .i64 y6) ∧ t1.get 0 = (.i .i64 x0) ∧ t1.get 7 = (.i .i64 x7) ∧ t1.get 8 = (.i .i64 x8)
def g37_b2 (M : Means) (ro : List ABlk) (x0 : Int) (x7 : Int) (x8 : Int) (x5_2 : Int) (x6_2 : Int) (x9 : Int) (m_4 : Mm) : Option ((Int × Int × Int × Mm) ⊕ ((Int × Int × Mm))) :=
  forceB (ltI x9 2) fun c22 =>
  cond c22 (
    bindP (callM M.call m_4 49 [(.i .i64 x0), (.i .i64 x9), (.i .i64 x8), (.i .i64 x7)]) fun v30 m_5 =>
    asI .i64 v30 fun x30 =>
    forceI (wr .i64 (4 * x7)) fun x32 =>
    forceI (wr .i64 (2 * x8)) fun x34 =>
    forceI (wr .i64 (x32 + x34)) fun x35 =>
    forceI (wr .i64 (x35 + x9)) fun x37 =>
    chk (!ltI x37 (.ofNat 0)) <|
    forceI (shlV .i64 x30 x37) fun x38 =>
    forceI (wr .i64 (x5_2 + x38)) fun x39 =>
    forceI (wr .i64 (1 - x7)) fun x43 =>
    forceI (wr .i64 (1 - x8)) fun x45 =>
    forceI (wr .i64 (1 - x9)) fun x47 =>
    bindP (callM M.call m_5 49 [(.i .i64 x0), (.i .i64 x43), (.i .i64 x45), (.i .i64 x47)]) fun v48 m_6 =>
    asI .i64 v48 fun x48 =>
    forceI (wr .i64 (1 - x48)) fun x49 =>
    forceI (wr .i64 (4 * x7)) fun x51 =>
    forceI (wr .i64 (2 * x8)) fun x53 =>
    forceI (wr .i64 (x51 + x53)) fun x54 =>
    forceI (wr .i64 (x54 + x9)) fun x56 =>
    chk (!ltI x56 (.ofNat 0)) <|
    forceI (shlV .i64 x49 x56) fun x57 =>
    forceI (wr .i64 (x6_2 + x57)) fun x58 =>
    forceI (wr .i64 (x9 + 1)) fun x24 =>
    some (.inl (x39, x58, x24, m_6))) (
    some (.inr (x5_2, x6_2, m_4)))
def g37_b1 (M : Means) (ro : List ABlk) (x0 : Int) (x7 : Int) (x5_1 : Int) (x6_1 : Int) (x8 : Int) (m_3 : Mm) : Option ((Int × Int × Int × Mm) ⊕ ((Int × Int × Mm))) :=
  forceB (ltI x8 2) fun c18 =>
  cond c18 (
    bindO (M.loop (S := Int × Int × Int × Mm) (R := (Int × Int × Mm)) (fun s => g37_b2 M ro x0 x7 x8 s.1 s.2.1 s.2.2.1 s.2.2.2) (x5_1, x6_1, 0, m_3)) fun ⟨x5_3, x6_3, m_7⟩ =>
    forceI (wr .i64 (x8 + 1)) fun x20 =>
    some (.inl (x5_3, x6_3, x20, m_7))) (
    some (.inr (x5_1, x6_1, m_3)))
def g37_b0 (M : Means) (ro : List ABlk) (x0 : Int) (x5 : Int) (x6 : Int) (x7 : Int) (m_2 : Mm) : Option ((Int × Int × Int × Mm) ⊕ ((Int × Int × Mm))) :=
  forceB (ltI x7 2) fun c14 =>
  cond c14 (
    bindO (M.loop (S := Int × Int × Int × Mm) (R := (Int × Int × Mm)) (fun s => g37_b1 M ro x0 x7 s.1 s.2.1 s.2.2.1 s.2.2.2) (x5, x6, 0, m_2)) fun ⟨x5_4, x6_4, m_8⟩ =>
    forceI (wr .i64 (x7 + 1)) fun x16 =>
    some (.inl (x5_4, x6_4, x16, m_8))) (
    some (.inr (x5, x6, m_2)))
def g37 (M : Means) (ro : List ABlk) (x0 : Int) (m0 : Mm) : Option (AVal × Heap × Nat × Nat) :=
  bindP (callM M.call m0 54 [(.i .i64 x0)]) fun v11 m_1 =>
  asB v11 fun c11 =>
  forceB (!c11) fun c12 =>
  cond c12 (
    finM m0.h.length (tupA [(.i .i64 0), (.i .i64 0), (.i .i64 2)]) m_1) (
    bindO (M.loop (S := Int × Int × Int × Mm) (R := (Int × Int × Mm)) (fun s => g37_b0 M ro x0 s.1 s.2.1 s.2.2.1 s.2.2.2) (0, 0, 0, m_1)) fun ⟨x5_5, x6_5, m_9⟩ =>
    finM m0.h.length (tupA [(.i .i64 x5_5), (.i .i64 x6_5), (.i .i64 0)]) m_9)

theorem g37_ok {ro : List ABlk} {O : Caller} {M : Means} (hM : M.Ok ⟨F, O⟩ ro) {x0 h r} (ho : O 37 [(.i .i64 x0)] h = none) (hr : g37 M ro x0 ⟨h, h.length, h.length⟩ = some r) : callX ⟨F, O⟩ ro 37 [(.i .i64 x0)] h = some r := by
  refine callX_of (F := ⟨F, O⟩) (fn := fn37) (g := g37 M ro x0) ho rfl rfl hr ?_
  clear ho
  clear hr
  intro m0 t0 ht hr
  have g0 : t0.get 0 = (.i .i64 x0) := ht 0
  clear ht
  unfold g37 at hr
  refine w_seq ?_
  refine w_ops ?_
  refine wo_step (v := (.i .i64 0)) (s_pure (p_mv rfl)) ?_
  refine wo_step (v := (.i .i64 0)) (s_pure (p_mv rfl)) ?_
  refine wo_step (v := (.i .i64 0)) (s_pure (p_mv rfl)) ?_
  refine wo_nil ?_
  refine nx_norm ?_
  refine w_seq ?_
  refine w_seq ?_
  refine w_ops ?_
  refine wo_step (v := (.i .i64 x0)) (s_pure (p_mv g0)) ?_
  have hq := bindP_inv hr
  clear hr
  obtain ⟨v11, m_1, e11, hr⟩ := hq
  have hq := asB_inv hr
  clear hr
  obtain ⟨c11, rfl, hr⟩ := hq
  refine wo_step (v := (.b c11)) (s_call (mc rfl mn) (callM_le hM.call e11)) ?_
  have hq := forceB_inv hr
  clear hr
  obtain ⟨c12, e12, hr⟩ := hq
  refine wo_step (v := (.b c12)) (s_pure ((p_not rfl).trans (cb e12))) ?_
  refine wo_nil ?_
  refine nx_norm ?_
  have hq := cond_inv hr
  clear hr
  rcases hq with ⟨rfl, hr⟩ | ⟨rfl, hr⟩
  · refine w_condT rfl ?_
    refine w_seq ?_
    refine w_ops ?_
    refine wo_step (v := (.i .i64 0)) (s_pure (p_mv rfl)) ?_
    refine wo_step (v := (.i .i64 0)) (s_pure (p_mv rfl)) ?_
    refine wo_step (v := (.i .i64 2)) (s_pure (p_mv rfl)) ?_
    refine wo_nil ?_
    refine nx_norm ?_
    refine w_ret ?_
    refine nx_ret ?_
    exact qf ret_ok (rt rfl (rt rfl (rt rfl rn))) hr
  · refine w_condF rfl ?_
    refine w_skip ?_
    refine nx_norm ?_
    refine w_seq ?_
    refine w_ops ?_
    refine wo_step (v := (.i .i64 0)) (s_pure (p_mv rfl)) ?_
    refine wo_step (v := (.i .i64 0)) (s_pure (p_mv rfl)) ?_
    refine wo_nil ?_
    refine nx_norm ?_
    refine w_seq ?_
    refine w_seq ?_
    refine w_ops ?_
    refine wo_step (v := (.i .i64 0)) (s_pure (p_mv rfl)) ?_
    refine wo_nil ?_
    refine nx_norm ?_
    refine w_block ?_
    have hq := bindO_inv hr
    clear hr
    obtain ⟨o_2, hl_2, hr⟩ := hq
    obtain ⟨n_2, hl_2⟩ := hM.loop _ _ _ hl_2
    refine jp_mono (w_loop _ (g37_I0 x0) (g37_J0 x0) ?_ n_2 _ _ _ _ hl_2 ⟨rfl, gl rfl, gl rfl, gl rfl, gl g0⟩) ?_
    · clear hr hl_2
      intro s mm_5 t_1 o hi hr
      obtain ⟨x5, x6, x7, m_2⟩ := s
      obtain ⟨rfl, g5, g6, g7, g0⟩ := hi
      unfold g37_b0 at hr
      refine w_seq ?_
      refine w_seq ?_
      refine w_ops ?_
      refine wo_step (v := (.i .i64 x7)) (s_pure (p_mv g7)) ?_
      have hq := forceB_inv hr
      clear hr
      obtain ⟨c14, e14, hr⟩ := hq
      refine wo_step (v := (.b c14)) (s_pure (p_bin rfl rfl (b_lss.trans (cb e14)))) ?_
      refine wo_nil ?_
      refine nx_norm ?_
      have hq := cond_inv hr
      clear hr
      rcases hq with ⟨rfl, hr⟩ | ⟨rfl, hr⟩
      · refine w_condT rfl ?_
        refine w_skip ?_
        refine nx_norm ?_
        refine w_seq ?_
        refine w_block ?_
        refine w_seq ?_
        refine w_ops ?_
        refine wo_step (v := (.i .i64 0)) (s_pure (p_mv rfl)) ?_
        refine wo_nil ?_
        refine nx_norm ?_
        refine w_block ?_
        have hq := bindO_inv hr
        clear hr
        obtain ⟨o_1, hl_1, hr⟩ := hq
        obtain ⟨n_1, hl_1⟩ := hM.loop _ _ _ hl_1
        refine jp_mono (w_loop _ (g37_I1 x0 x7) (g37_J1 x0 x7) ?_ n_1 _ _ _ _ hl_1 ⟨rfl, gl g5, gl g6, gl rfl, gl g0, gl g7⟩) ?_
        · clear hr hl_1
          intro s mm_3 t_2 o hi hr
          obtain ⟨x5_1, x6_1, x8, m_3⟩ := s
          obtain ⟨rfl, g5, g6, g8, g0, g7⟩ := hi
          unfold g37_b1 at hr
          refine w_seq ?_
          refine w_seq ?_
          refine w_ops ?_
          refine wo_step (v := (.i .i64 x8)) (s_pure (p_mv g8)) ?_
          have hq := forceB_inv hr
          clear hr
          obtain ⟨c18, e18, hr⟩ := hq
          refine wo_step (v := (.b c18)) (s_pure (p_bin rfl rfl (b_lss.trans (cb e18)))) ?_
          refine wo_nil ?_
          refine nx_norm ?_
          have hq := cond_inv hr
          clear hr
          rcases hq with ⟨rfl, hr⟩ | ⟨rfl, hr⟩
          · refine w_condT rfl ?_
            refine w_skip ?_
            refine nx_norm ?_
            refine w_seq ?_
            refine w_block ?_
            refine w_seq ?_
            refine w_ops ?_
            refine wo_step (v := (.i .i64 0)) (s_pure (p_mv rfl)) ?_
            refine wo_nil ?_
            refine nx_norm ?_
            refine w_block ?_
            have hq := bindO_inv hr
            clear hr
            obtain ⟨o, hl, hr⟩ := hq
            obtain ⟨n, hl⟩ := hM.loop _ _ _ hl
            refine jp_mono (w_loop _ (g37_I2 x0 x7 x8) (g37_J2 x0 x7 x8) ?_ n _ _ _ _ hl ⟨rfl, gl g5, gl g6, gl rfl, gl g0, gl g7, gl g8⟩) ?_
            · clear hr hl
              intro s mm_1 t_3 o hi hr
              obtain ⟨x5_2, x6_2, x9, m_4⟩ := s
              obtain ⟨rfl, g5, g6, g9, g0, g7, g8⟩ := hi
              unfold g37_b2 at hr
              refine w_seq ?_
              refine w_seq ?_
              refine w_ops ?_
              refine wo_step (v := (.i .i64 x9)) (s_pure (p_mv g9)) ?_
              have hq := forceB_inv hr
              clear hr
              obtain ⟨c22, e22, hr⟩ := hq
              refine wo_step (v := (.b c22)) (s_pure (p_bin rfl rfl (b_lss.trans (cb e22)))) ?_
              refine wo_nil ?_
              refine nx_norm ?_
              have hq := cond_inv hr
              clear hr
              rcases hq with ⟨rfl, hr⟩ | ⟨rfl, hr⟩
              · refine w_condT rfl ?_
                refine w_skip ?_
                refine nx_norm ?_
                refine w_seq ?_
                refine w_block ?_
                refine w_seq ?_
                refine w_ops ?_
                refine wo_step (v := (.i .i64 x5_2)) (s_pure (p_mv g5)) ?_
                refine wo_step (v := (.i .i64 x0)) (s_pure (p_mv g0)) ?_
                refine wo_step (v := (.i .i64 x9)) (s_pure (p_mv g9)) ?_
                refine wo_step (v := (.i .i64 x8)) (s_pure (p_mv g8)) ?_
                refine wo_step (v := (.i .i64 x7)) (s_pure (p_mv g7)) ?_
                have hq := bindP_inv hr
                clear hr
                obtain ⟨v30, m_5, e30, hr⟩ := hq
                have hq := asI_inv hr
                clear hr
                obtain ⟨x30, rfl, hr⟩ := hq
                refine wo_step (v := (.i .i64 x30)) (s_call (mc rfl (mc rfl (mc rfl (mc rfl mn)))) (callM_le hM.call e30)) ?_
                refine wo_step (v := (.i .i64 x7)) (s_pure (p_mv g7)) ?_
                have hq := forceI_inv hr
                clear hr
                obtain ⟨x32, e32, hr⟩ := hq
                refine wo_step (v := (.i .i64 x32)) (s_pure (p_bin rfl rfl (b_mul.trans (ci e32)))) ?_
                refine wo_step (v := (.i .i64 x8)) (s_pure (p_mv g8)) ?_
                have hq := forceI_inv hr
                clear hr
                obtain ⟨x34, e34, hr⟩ := hq
                refine wo_step (v := (.i .i64 x34)) (s_pure (p_bin rfl rfl (b_mul.trans (ci e34)))) ?_
                have hq := forceI_inv hr
                clear hr
                obtain ⟨x35, e35, hr⟩ := hq
                refine wo_step (v := (.i .i64 x35)) (s_pure (p_bin rfl rfl (b_add.trans (ci e35)))) ?_
                refine wo_step (v := (.i .i64 x9)) (s_pure (p_mv g9)) ?_
                have hq := forceI_inv hr
                clear hr
                obtain ⟨x37, e37, hr⟩ := hq
                refine wo_step (v := (.i .i64 x37)) (s_pure (p_bin rfl rfl (b_add.trans (ci e37)))) ?_
                have hq := chk_inv hr
                clear hr
                obtain ⟨hc38, hr⟩ := hq
                have hq := forceI_inv hr
                clear hr
                obtain ⟨x38, e38, hr⟩ := hq
                refine wo_step (v := (.i .i64 x38)) (s_pure (p_bin rfl rfl ((b_shl hc38).trans (ci e38)))) ?_
                have hq := forceI_inv hr
                clear hr
                obtain ⟨x39, e39, hr⟩ := hq
                refine wo_step (v := (.i .i64 x39)) (s_pure (p_bin rfl rfl (b_add.trans (ci e39)))) ?_
                refine wo_step (v := (.i .i64 x39)) (s_pure (p_mv rfl)) ?_
                refine wo_nil ?_
                refine nx_norm ?_
                refine w_ops ?_
                refine wo_step (v := (.i .i64 x6_2)) (s_pure (p_mv g6)) ?_
                refine wo_step (v := (.i .i64 x0)) (s_pure (p_mv g0)) ?_
                refine wo_step (v := (.i .i64 x7)) (s_pure (p_mv g7)) ?_
                have hq := forceI_inv hr
                clear hr
                obtain ⟨x43, e43, hr⟩ := hq
                refine wo_step (v := (.i .i64 x43)) (s_pure (p_bin rfl rfl (b_sub.trans (ci e43)))) ?_
                refine wo_step (v := (.i .i64 x8)) (s_pure (p_mv g8)) ?_
                have hq := forceI_inv hr
                clear hr
                obtain ⟨x45, e45, hr⟩ := hq
                refine wo_step (v := (.i .i64 x45)) (s_pure (p_bin rfl rfl (b_sub.trans (ci e45)))) ?_
                refine wo_step (v := (.i .i64 x9)) (s_pure (p_mv g9)) ?_
                have hq := forceI_inv hr
                clear hr
                obtain ⟨x47, e47, hr⟩ := hq
                refine wo_step (v := (.i .i64 x47)) (s_pure (p_bin rfl rfl (b_sub.trans (ci e47)))) ?_
                have hq := bindP_inv hr
                clear hr
                obtain ⟨v48, m_6, e48, hr⟩ := hq
                have hq := asI_inv hr
                clear hr
                obtain ⟨x48, rfl, hr⟩ := hq
                refine wo_step (v := (.i .i64 x48)) (s_call (mc rfl (mc rfl (mc rfl (mc rfl mn)))) (callM_le hM.call e48)) ?_
                have hq := forceI_inv hr
                clear hr
                obtain ⟨x49, e49, hr⟩ := hq
                refine wo_step (v := (.i .i64 x49)) (s_pure (p_bin rfl rfl (b_sub.trans (ci e49)))) ?_
                refine wo_step (v := (.i .i64 x7)) (s_pure (p_mv g7)) ?_
                have hq := forceI_inv hr
                clear hr
                obtain ⟨x51, e51, hr⟩ := hq
                refine wo_step (v := (.i .i64 x51)) (s_pure (p_bin rfl rfl (b_mul.trans (ci e51)))) ?_
                refine wo_step (v := (.i .i64 x8)) (s_pure (p_mv g8)) ?_
                have hq := forceI_inv hr
                clear hr
                obtain ⟨x53, e53, hr⟩ := hq
                refine wo_step (v := (.i .i64 x53)) (s_pure (p_bin rfl rfl (b_mul.trans (ci e53)))) ?_
                have hq := forceI_inv hr
                clear hr
                obtain ⟨x54, e54, hr⟩ := hq
                refine wo_step (v := (.i .i64 x54)) (s_pure (p_bin rfl rfl (b_add.trans (ci e54)))) ?_
                refine wo_step (v := (.i .i64 x9)) (s_pure (p_mv g9)) ?_
                have hq := forceI_inv hr
                clear hr
                obtain ⟨x56, e56, hr⟩ := hq
                refine wo_step (v := (.i .i64 x56)) (s_pure (p_bin rfl rfl (b_add.trans (ci e56)))) ?_
                have hq := chk_inv hr
                clear hr
                obtain ⟨hc57, hr⟩ := hq
                have hq := forceI_inv hr
                clear hr
                obtain ⟨x57, e57, hr⟩ := hq
                refine wo_step (v := (.i .i64 x57)) (s_pure (p_bin rfl rfl ((b_shl hc57).trans (ci e57)))) ?_
                have hq := forceI_inv hr
                clear hr
                obtain ⟨x58, e58, hr⟩ := hq
                refine wo_step (v := (.i .i64 x58)) (s_pure (p_bin rfl rfl (b_add.trans (ci e58)))) ?_
                refine wo_step (v := (.i .i64 x58)) (s_pure (p_mv rfl)) ?_
                refine wo_nil ?_
                refine bk_norm ?_
                refine nx_norm ?_
                refine w_ops ?_
                refine wo_step (v := (.i .i64 x9)) (s_pure (p_mv g9)) ?_
                have hq := forceI_inv hr
                clear hr
                obtain ⟨x24, e24, hr⟩ := hq
                refine wo_step (v := (.i .i64 x24)) (s_pure (p_bin rfl rfl (b_add.trans (ci e24)))) ?_
                refine wo_step (v := (.i .i64 x24)) (s_pure (p_mv rfl)) ?_
                refine wo_nil ?_
                cases hr
                exact ⟨_, _, rfl, rfl, rfl, gl rfl, gl rfl, gl rfl, gl g0, gl g7, gl g8⟩
              · refine w_condF rfl ?_
                refine w_exit ?_
                refine nx_exit ?_
                cases hr
                exact ⟨_, _, rfl, ne_norm_exit, rfl, rfl, gl g5, gl g6, gl g0, gl g7, gl g8⟩
            · obtain ⟨x5_3, x6_3, m_7⟩ := o
              rintro _ mm t_4 ⟨rfl, rfl, g5, g6, g0, g7, g8⟩
              refine bk_hit ?_
              refine bk_norm ?_
              refine nx_norm ?_
              refine w_ops ?_
              refine wo_step (v := (.i .i64 x8)) (s_pure (p_mv g8)) ?_
              have hq := forceI_inv hr
              clear hr
              obtain ⟨x20, e20, hr⟩ := hq
              refine wo_step (v := (.i .i64 x20)) (s_pure (p_bin rfl rfl (b_add.trans (ci e20)))) ?_
              refine wo_step (v := (.i .i64 x20)) (s_pure (p_mv rfl)) ?_
              refine wo_nil ?_
              cases hr
              exact ⟨_, _, rfl, rfl, rfl, gl g5, gl g6, gl rfl, gl g0, gl g7⟩
          · refine w_condF rfl ?_
            refine w_exit ?_
            refine nx_exit ?_
            cases hr
            exact ⟨_, _, rfl, ne_norm_exit, rfl, rfl, gl g5, gl g6, gl g0, gl g7⟩
        · obtain ⟨x5_4, x6_4, m_8⟩ := o_1
          rintro _ mm_2 t_5 ⟨rfl, rfl, g5, g6, g0, g7⟩
          refine bk_hit ?_
          refine bk_norm ?_
          refine nx_norm ?_
          refine w_ops ?_
          refine wo_step (v := (.i .i64 x7)) (s_pure (p_mv g7)) ?_
          have hq := forceI_inv hr
          clear hr
          obtain ⟨x16, e16, hr⟩ := hq
          refine wo_step (v := (.i .i64 x16)) (s_pure (p_bin rfl rfl (b_add.trans (ci e16)))) ?_
          refine wo_step (v := (.i .i64 x16)) (s_pure (p_mv rfl)) ?_
          refine wo_nil ?_
          cases hr
          exact ⟨_, _, rfl, rfl, rfl, gl g5, gl g6, gl rfl, gl g0⟩
      · refine w_condF rfl ?_
        refine w_exit ?_
        refine nx_exit ?_
        cases hr
        exact ⟨_, _, rfl, ne_norm_exit, rfl, rfl, gl g5, gl g6⟩
    · obtain ⟨x5_5, x6_5, m_9⟩ := o_2
      rintro _ mm_4 t_6 ⟨rfl, rfl, g5, g6⟩
      refine bk_hit ?_
      refine nx_norm ?_
      refine w_seq ?_
      refine w_ops ?_
      refine wo_step (v := (.i .i64 x5_5)) (s_pure (p_mv g5)) ?_
      refine wo_step (v := (.i .i64 x6_5)) (s_pure (p_mv g6)) ?_
      refine wo_step (v := (.i .i64 x5_5)) (s_pure (p_mv rfl)) ?_
      refine wo_step (v := (.i .i64 x6_5)) (s_pure (p_mv rfl)) ?_
      refine wo_step (v := (.i .i64 0)) (s_pure (p_mv rfl)) ?_
      refine wo_nil ?_
      refine nx_norm ?_
      refine w_ret ?_
      exact qf ret_ok (rt rfl (rt rfl (rt rfl rn))) hr

/- dibber/weed.Additive -/

def g38 (M : Means) (ro : List ABlk) (x0 : Int) (m0 : Mm) : Option (AVal × Heap × Nat × Nat) :=
  bindP (callM M.call m0 61 [(.i .i64 x0)]) fun v8 m_1 =>
  bindO (evP .e (.ext 0 (.c v8))) fun v9 =>
  asI .u8 v9 fun x9 =>
  bindO (evP .e (.ext 1 (.c v8))) fun v10 =>
  asI .i64 v10 fun x10 =>
  forceB (!eqI x10 0) fun c12 =>
  cond c12 (
    finM m0.h.length (tupA [(.b false), (.i .i64 x10)]) m_1) (
    bindP (callM M.call m_1 70 [(.i .u8 x9)]) fun v15 m_2 =>
    asB v15 fun c15 =>
    finM m0.h.length (tupA [(.b c15), (.i .i64 0)]) m_2)

theorem g38_ok {ro : List ABlk} {O : Caller} {M : Means} (hM : M.Ok ⟨F, O⟩ ro) {x0 h r} (ho : O 38 [(.i .i64 x0)] h = none) (hr : g38 M ro x0 ⟨h, h.length, h.length⟩ = some r) : callX ⟨F, O⟩ ro 38 [(.i .i64 x0)] h = some r := by
  refine callX_of (F := ⟨F, O⟩) (fn := fn38) (g := g38 M ro x0) ho rfl rfl hr ?_
  clear ho
  clear hr
  intro m0 t0 ht hr
  have g0 : t0.get 0 = (.i .i64 x0) := ht 0
  clear ht
  unfold g38 at hr
  refine w_seq ?_
  refine w_ops ?_
  refine wo_step (v := (.b false)) (s_pure (p_mv rfl)) ?_
  refine wo_step (v := (.i .i64 0)) (s_pure (p_mv rfl)) ?_
  refine wo_nil ?_
  refine nx_norm ?_
  refine w_seq ?_
  refine w_ops ?_
  refine wo_step (v := (.i .i64 x0)) (s_pure (p_mv g0)) ?_
  have hq := bindP_inv hr
  clear hr
  obtain ⟨v8, m_1, e8, hr⟩ := hq
  refine wo_step (v := v8) (s_call (mc rfl mn) (callM_le hM.call e8)) ?_
  refine wo_step (v := v8) (s_pure (p_mv rfl)) ?_
  have hq := bindO_inv hr
  clear hr
  obtain ⟨v9, e9, hr⟩ := hq
  have hq := asI_inv hr
  clear hr
  obtain ⟨x9, rfl, hr⟩ := hq
  refine wo_step (v := (.i .u8 x9)) (s_pure (o_ext rfl e9)) ?_
  have hq := bindO_inv hr
  clear hr
  obtain ⟨v10, e10, hr⟩ := hq
  have hq := asI_inv hr
  clear hr
  obtain ⟨x10, rfl, hr⟩ := hq
  refine wo_step (v := (.i .i64 x10)) (s_pure (o_ext rfl e10)) ?_
  refine wo_step (v := (.i .u8 x9)) (s_pure (p_mv rfl)) ?_
  refine wo_step (v := (.i .i64 x10)) (s_pure (p_mv rfl)) ?_
  refine wo_nil ?_
  refine nx_norm ?_
  refine w_seq ?_
  refine w_seq ?_
  refine w_ops ?_
  refine wo_step (v := (.i .i64 x10)) (s_pure (p_mv rfl)) ?_
  have hq := forceB_inv hr
  clear hr
  obtain ⟨c12, e12, hr⟩ := hq
  refine wo_step (v := (.b c12)) (s_pure (p_bin rfl rfl (b_neq.trans (cb e12)))) ?_
  refine wo_nil ?_
  refine nx_norm ?_
  have hq := cond_inv hr
  clear hr
  rcases hq with ⟨rfl, hr⟩ | ⟨rfl, hr⟩
  · refine w_condT rfl ?_
    refine w_seq ?_
    refine w_ops ?_
    refine wo_step (v := (.i .i64 x10)) (s_pure (p_mv rfl)) ?_
    refine wo_step (v := (.b false)) (s_pure (p_mv rfl)) ?_
    refine wo_step (v := (.i .i64 x10)) (s_pure (p_mv rfl)) ?_
    refine wo_nil ?_
    refine nx_norm ?_
    refine w_ret ?_
    refine nx_ret ?_
    exact qf ret_ok (rt rfl (rt rfl rn)) hr
  · refine w_condF rfl ?_
    refine w_skip ?_
    refine nx_norm ?_
    refine w_seq ?_
    refine w_ops ?_
    refine wo_step (v := (.i .u8 x9)) (s_pure (p_mv rfl)) ?_
    have hq := bindP_inv hr
    clear hr
    obtain ⟨v15, m_2, e15, hr⟩ := hq
    have hq := asB_inv hr
    clear hr
    obtain ⟨c15, rfl, hr⟩ := hq
    refine wo_step (v := (.b c15)) (s_call (mc rfl mn) (callM_le hM.call e15)) ?_
    refine wo_step (v := (.b c15)) (s_pure (p_mv rfl)) ?_
    refine wo_step (v := (.i .i64 0)) (s_pure (p_mv rfl)) ?_
    refine wo_nil ?_
    refine nx_norm ?_
    refine w_ret ?_
    exact qf ret_ok (rt rfl (rt rfl rn)) hr

/- dibber/dibberref02.Additive -/
abbrev g39_I0 (x0 : Int) (m_1 : Mm) (s : Int) (m1 : Mm) (t1 : Tr) : Prop :=
  match s with
  | x4 => m_1 = m1 ∧ t1.get 4 = (.i .i64 x4) ∧ t1.get 0 = (.i .i64 x0)
abbrev g39_J0 (x0 : Int) (m_1 : Mm) (o : (Unit ⊕ (Bool × Int))) (e : AExit) (m1 : Mm) (t1 : Tr) : Prop :=
  match o with
  | (.inl _) => e = (.exit 0) ∧ m_1 = m1
  | (.inr (y2, y3)) => e = .ret ∧ m_1 = m1 ∧ t1.get 2 = (.b y2) ∧ t1.get 3 = (.i .i64 y3)
abbrev g39_I1 (x0 : Int) (x4 : Int) (m_1 : Mm) (s : Int) (m1 : Mm) (t1 : Tr) : Prop :=
  match s with
  | x5 => m_1 = m1 ∧ t1.get 5 = (.i .i64 x5) ∧ t1.get 0 = (.i .i64 x0) ∧ t1.get 4 = (.i .i64 x4)
abbrev g39_J1 (x0 : Int) (x4 : Int) (m_1 : Mm) (o : (Unit ⊕ (Bool × Int))) (e : AExit) (m1 : Mm) (t1 : Tr) : Prop :=
  match o with
  | (.inl _) => e = (.exit 2) ∧ m_1 = m1 ∧ t1.get 0 = (.i .i64 x0) ∧ t1.get 4 = (.i .i64 x4)
  | (.inr (y2, y3)) => e = .ret ∧ m_1 = m1 ∧ t1.get 2 = (.b y2) ∧ t1.get 3 = (.i .i64 y3)
def g39_b1 (M : Means) (ro : List ABlk) (x0 : Int) (x4 : Int) (m_1 : Mm) (x5 : Int) : Option ((Int) ⊕ ((Unit ⊕ (Bool × Int)))) :=
  forceB (ltI x5 8) fun c14 =>
  cond c14 (
    chk (!ltI x4 (.ofNat 0)) <|
    forceI (shrV .i64 x0 x4) fun x19 =>
    forceI (Int.tmod x19 2) fun x20 =>
    chk (!ltI x5 (.ofNat 0)) <|
    forceI (shrV .i64 x0 x5) fun x23 =>
    forceI (Int.tmod x23 2) fun x24 =>
    forceI (bitV .xor .i64 x20 x24) fun x25 =>
    forceI (bitV .xor .i64 x4 x5) fun x29 =>
    chk (!ltI x29 (.ofNat 0)) <|
    forceI (shrV .i64 x0 x29) fun x30 =>
    forceI (Int.tmod x30 2) fun x31 =>
    forceB (!eqI x25 x31) fun c32 =>
    cond c32 (
      some (.inr (.inr (false, 0)))) (
      forceI (wr .i64 (x5 + 1)) fun x16 =>
      some (.inl x16))) (
    some (.inr (.inl ())))
def g39_b0 (M : Means) (ro : List ABlk) (x0 : Int) (m_1 : Mm) (x4 : Int) : Option ((Int) ⊕ ((Unit ⊕ (Bool × Int)))) :=
  forceB (ltI x4 8) fun c10 =>
  cond c10 (
    bindO (M.loop (S := Int) (R := (Unit ⊕ (Bool × Int))) (fun s => g39_b1 M ro x0 x4 m_1 s) 0) fun o => match o with
    | (.inl _) =>
      forceI (wr .i64 (x4 + 1)) fun x12 =>
      some (.inl x12)
    | (.inr (c2, x3)) =>
      some (.inr (.inr (c2, x3)))) (
    some (.inr (.inl ())))
def g39 (M : Means) (ro : List ABlk) (x0 : Int) (m0 : Mm) : Option (AVal × Heap × Nat × Nat) :=
  bindP (callM M.call m0 54 [(.i .i64 x0)]) fun v7 m_1 =>
  asB v7 fun c7 =>
  forceB (!c7) fun c8 =>
  cond c8 (
    finM m0.h.length (tupA [(.b false), (.i .i64 2)]) m_1) (
    bindO (M.loop (S := Int) (R := (Unit ⊕ (Bool × Int))) (fun s => g39_b0 M ro x0 m_1 s) 0) fun o_1 => match o_1 with
    | (.inl _) =>
      finM m0.h.length (tupA [(.b true), (.i .i64 0)]) m_1
    | (.inr (c2_1, x3_1)) =>
      finM m0.h.length (tupA [(.b c2_1), (.i .i64 x3_1)]) m_1)

theorem g39_ok {ro : List ABlk} {O : Caller} {M : Means} (hM : M.Ok ⟨F, O⟩ ro) {x0 h r} (ho : O 39 [(.i .i64 x0)] h = none) (hr : g39 M ro x0 ⟨h, h.length, h.length⟩ = some r) : callX ⟨F, O⟩ ro 39 [(.i .i64 x0)] h = some r := by
  refine callX_of (F := ⟨F, O⟩) (fn := fn39) (g := g39 M ro x0) ho rfl rfl hr ?_
  clear ho
  clear hr
  intro m0 t0 ht hr
  have g0 : t0.get 0 = (.i .i64 x0) := ht 0
  clear ht
  unfold g39 at hr
  refine w_seq ?_
  refine w_ops ?_
  refine wo_step (v := (.b false)) (s_pure (p_mv rfl)) ?_
  refine wo_step (v := (.i .i64 0)) (s_pure (p_mv rfl)) ?_
  refine wo_nil ?_
  refine nx_norm ?_
  refine w_seq ?_
  refine w_seq ?_
  refine w_ops ?_
  refine wo_step (v := (.i .i64 x0)) (s_pure (p_mv g0)) ?_
  have hq := bindP_inv hr
  clear hr
  obtain ⟨v7, m_1, e7, hr⟩ := hq
  have hq := asB_inv hr
  clear hr
  obtain ⟨c7, rfl, hr⟩ := hq
  refine wo_step (v := (.b c7)) (s_call (mc rfl mn) (callM_le hM.call e7)) ?_
  have hq := forceB_inv hr
  clear hr
  obtain ⟨c8, e8, hr⟩ := hq
  refine wo_step (v := (.b c8)) (s_pure ((p_not rfl).trans (cb e8))) ?_
  refine wo_nil ?_
  refine nx_norm ?_
  have hq := cond_inv hr
  clear hr
  rcases hq with ⟨rfl, hr⟩ | ⟨rfl, hr⟩
  · refine w_condT rfl ?_
    refine w_seq ?_
    refine w_ops ?_
    refine wo_step (v := (.b false)) (s_pure (p_mv rfl)) ?_
    refine wo_step (v := (.i .i64 2)) (s_pure (p_mv rfl)) ?_
    refine wo_nil ?_
    refine nx_norm ?_
    refine w_ret ?_
    refine nx_ret ?_
    exact qf ret_ok (rt rfl (rt rfl rn)) hr
  · refine w_condF rfl ?_
    refine w_skip ?_
    refine nx_norm ?_
    refine w_seq ?_
    refine w_seq ?_
    refine w_ops ?_
    refine wo_step (v := (.i .i64 0)) (s_pure (p_mv rfl)) ?_
    refine wo_nil ?_
    refine nx_norm ?_
    refine w_block ?_
    have hq := bindO_inv hr
    clear hr
    obtain ⟨o_1, hl_1, hr⟩ := hq
    obtain ⟨n_1, hl_1⟩ := hM.loop _ _ _ hl_1
    refine jp_mono (w_loop _ (g39_I0 x0 m_1) (g39_J0 x0 m_1) ?_ n_1 _ _ _ _ hl_1 ⟨rfl, gl rfl, gl g0⟩) ?_
    · clear hr hl_1
      intro s mm_5 t_1 o hi hr
      obtain ⟨x4, hs⟩ : ∃ z, z = s := ⟨_, rfl⟩
      subst hs
      obtain ⟨rfl, g4, g0⟩ := hi
      unfold g39_b0 at hr
      refine w_seq ?_
      refine w_seq ?_
      refine w_ops ?_
      refine wo_step (v := (.i .i64 x4)) (s_pure (p_mv g4)) ?_
      have hq := forceB_inv hr
      clear hr
      obtain ⟨c10, e10, hr⟩ := hq
      refine wo_step (v := (.b c10)) (s_pure (p_bin rfl rfl (b_lss.trans (cb e10)))) ?_
      refine wo_nil ?_
      refine nx_norm ?_
      have hq := cond_inv hr
      clear hr
      rcases hq with ⟨rfl, hr⟩ | ⟨rfl, hr⟩
      · refine w_condT rfl ?_
        refine w_skip ?_
        refine nx_norm ?_
        refine w_seq ?_
        refine w_block ?_
        refine w_seq ?_
        refine w_ops ?_
        refine wo_step (v := (.i .i64 0)) (s_pure (p_mv rfl)) ?_
        refine wo_nil ?_
        refine nx_norm ?_
        refine w_block ?_
        have hq := bindO_inv hr
        clear hr
        obtain ⟨o, hl, hr⟩ := hq
        obtain ⟨n, hl⟩ := hM.loop _ _ _ hl
        refine jp_mono (w_loop _ (g39_I1 x0 x4 m_1) (g39_J1 x0 x4 m_1) ?_ n _ _ _ _ hl ⟨rfl, gl rfl, gl g0, gl g4⟩) ?_
        · clear hr hl
          intro s mm_2 t_2 o hi hr
          obtain ⟨x5, hs⟩ : ∃ z, z = s := ⟨_, rfl⟩
          subst hs
          obtain ⟨rfl, g5, g0, g4⟩ := hi
          unfold g39_b1 at hr
          refine w_seq ?_
          refine w_seq ?_
          refine w_ops ?_
          refine wo_step (v := (.i .i64 x5)) (s_pure (p_mv g5)) ?_
          have hq := forceB_inv hr
          clear hr
          obtain ⟨c14, e14, hr⟩ := hq
          refine wo_step (v := (.b c14)) (s_pure (p_bin rfl rfl (b_lss.trans (cb e14)))) ?_
          refine wo_nil ?_
          refine nx_norm ?_
          have hq := cond_inv hr
          clear hr
          rcases hq with ⟨rfl, hr⟩ | ⟨rfl, hr⟩
          · refine w_condT rfl ?_
            refine w_skip ?_
            refine nx_norm ?_
            refine w_seq ?_
            refine w_block ?_
            refine w_seq ?_
            refine w_ops ?_
            refine wo_step (v := (.i .i64 x0)) (s_pure (p_mv g0)) ?_
            refine wo_step (v := (.i .i64 x4)) (s_pure (p_mv g4)) ?_
            have hq := chk_inv hr
            clear hr
            obtain ⟨hc19, hr⟩ := hq
            have hq := forceI_inv hr
            clear hr
            obtain ⟨x19, e19, hr⟩ := hq
            refine wo_step (v := (.i .i64 x19)) (s_pure (p_bin rfl rfl ((b_shr hc19).trans (ci e19)))) ?_
            have hq := forceI_inv hr
            clear hr
            obtain ⟨x20, e20, hr⟩ := hq
            refine wo_step (v := (.i .i64 x20)) (s_pure (p_bin rfl rfl ((b_rem rfl).trans (ci e20)))) ?_
            refine wo_step (v := (.i .i64 x0)) (s_pure (p_mv g0)) ?_
            refine wo_step (v := (.i .i64 x5)) (s_pure (p_mv g5)) ?_
            have hq := chk_inv hr
            clear hr
            obtain ⟨hc23, hr⟩ := hq
            have hq := forceI_inv hr
            clear hr
            obtain ⟨x23, e23, hr⟩ := hq
            refine wo_step (v := (.i .i64 x23)) (s_pure (p_bin rfl rfl ((b_shr hc23).trans (ci e23)))) ?_
            have hq := forceI_inv hr
            clear hr
            obtain ⟨x24, e24, hr⟩ := hq
            refine wo_step (v := (.i .i64 x24)) (s_pure (p_bin rfl rfl ((b_rem rfl).trans (ci e24)))) ?_
            have hq := forceI_inv hr
            clear hr
            obtain ⟨x25, e25, hr⟩ := hq
            refine wo_step (v := (.i .i64 x25)) (s_pure (p_bin rfl rfl (b_xor.trans (ci e25)))) ?_
            refine wo_step (v := (.i .i64 x0)) (s_pure (p_mv g0)) ?_
            refine wo_step (v := (.i .i64 x4)) (s_pure (p_mv g4)) ?_
            refine wo_step (v := (.i .i64 x5)) (s_pure (p_mv g5)) ?_
            have hq := forceI_inv hr
            clear hr
            obtain ⟨x29, e29, hr⟩ := hq
            refine wo_step (v := (.i .i64 x29)) (s_pure (p_bin rfl rfl (b_xor.trans (ci e29)))) ?_
            have hq := chk_inv hr
            clear hr
            obtain ⟨hc30, hr⟩ := hq
            have hq := forceI_inv hr
            clear hr
            obtain ⟨x30, e30, hr⟩ := hq
            refine wo_step (v := (.i .i64 x30)) (s_pure (p_bin rfl rfl ((b_shr hc30).trans (ci e30)))) ?_
            have hq := forceI_inv hr
            clear hr
            obtain ⟨x31, e31, hr⟩ := hq
            refine wo_step (v := (.i .i64 x31)) (s_pure (p_bin rfl rfl ((b_rem rfl).trans (ci e31)))) ?_
            have hq := forceB_inv hr
            clear hr
            obtain ⟨c32, e32, hr⟩ := hq
            refine wo_step (v := (.b c32)) (s_pure (p_bin rfl rfl (b_neq.trans (cb e32)))) ?_
            refine wo_nil ?_
            refine nx_norm ?_
            have hq := cond_inv hr
            clear hr
            rcases hq with ⟨rfl, hr⟩ | ⟨rfl, hr⟩
            · refine w_condT rfl ?_
              refine w_seq ?_
              refine w_ops ?_
              refine wo_step (v := (.b false)) (s_pure (p_mv rfl)) ?_
              refine wo_step (v := (.i .i64 0)) (s_pure (p_mv rfl)) ?_
              refine wo_nil ?_
              refine nx_norm ?_
              refine w_ret ?_
              refine bk_ret ?_
              refine nx_ret ?_
              cases hr
              exact ⟨_, _, rfl, ne_norm_ret, rfl, rfl, gl rfl, gl rfl⟩
            · refine w_condF rfl ?_
              refine w_skip ?_
              refine bk_norm ?_
              refine nx_norm ?_
              refine w_ops ?_
              refine wo_step (v := (.i .i64 x5)) (s_pure (p_mv g5)) ?_
              have hq := forceI_inv hr
              clear hr
              obtain ⟨x16, e16, hr⟩ := hq
              refine wo_step (v := (.i .i64 x16)) (s_pure (p_bin rfl rfl (b_add.trans (ci e16)))) ?_
              refine wo_step (v := (.i .i64 x16)) (s_pure (p_mv rfl)) ?_
              refine wo_nil ?_
              cases hr
              exact ⟨_, _, rfl, rfl, rfl, gl rfl, gl g0, gl g4⟩
          · refine w_condF rfl ?_
            refine w_exit ?_
            refine nx_exit ?_
            cases hr
            exact ⟨_, _, rfl, ne_norm_exit, rfl, rfl, gl g0, gl g4⟩
        · rcases o with o | o
          · rintro _ mm t_3 ⟨rfl, rfl, g0, g4⟩
            refine bk_hit ?_
            refine bk_norm ?_
            refine nx_norm ?_
            refine w_ops ?_
            refine wo_step (v := (.i .i64 x4)) (s_pure (p_mv g4)) ?_
            have hq := forceI_inv hr
            clear hr
            obtain ⟨x12, e12, hr⟩ := hq
            refine wo_step (v := (.i .i64 x12)) (s_pure (p_bin rfl rfl (b_add.trans (ci e12)))) ?_
            refine wo_step (v := (.i .i64 x12)) (s_pure (p_mv rfl)) ?_
            refine wo_nil ?_
            cases hr
            exact ⟨_, _, rfl, rfl, rfl, gl rfl, gl g0⟩
          · obtain ⟨c2, x3⟩ := o
            rintro _ mm_1 t_4 ⟨rfl, rfl, g2, g3⟩
            refine bk_ret ?_
            refine bk_ret ?_
            refine nx_ret ?_
            cases hr
            exact ⟨_, _, rfl, ne_norm_ret, rfl, rfl, gl g2, gl g3⟩
      · refine w_condF rfl ?_
        refine w_exit ?_
        refine nx_exit ?_
        cases hr
        exact ⟨_, _, rfl, ne_norm_exit, rfl, rfl⟩
    · rcases o_1 with o_1 | o_1
      · rintro _ mm_3 t_5 ⟨rfl, rfl⟩
        refine bk_hit ?_
        refine nx_norm ?_
        refine w_seq ?_
        refine w_ops ?_
        refine wo_step (v := (.b true)) (s_pure (p_mv rfl)) ?_
        refine wo_step (v := (.i .i64 0)) (s_pure (p_mv rfl)) ?_
        refine wo_nil ?_
        refine nx_norm ?_
        refine w_ret ?_
        exact qf ret_ok (rt rfl (rt rfl rn)) hr
      · obtain ⟨c2_1, x3_1⟩ := o_1
        rintro _ mm_4 t_6 ⟨rfl, rfl, g2, g3⟩
        refine bk_ret ?_
        refine nx_ret ?_
        exact qf ret_ok (rt g2 (rt g3 rn)) hr

/- dibber/dibberlaw02.plots -/
abbrev g40_I0 (x0 : Int) (x1 : Int) (v8 : AVal) (s : Int × Mm) (m1 : Mm) (t1 : Tr) : Prop :=
  match s with
  | (x6, m_2) => m_2 = m1 ∧ t1.get 6 = (.i .i64 x6) ∧ t1.get 0 = (.i .i64 x0) ∧ t1.get 1 = (.i .i64 x1) ∧ t1.get 5 = v8
abbrev g40_J0 (x0 : Int) (x1 : Int) (v8 : AVal) (o : Mm) (e : AExit) (m1 : Mm) (t1 : Tr) : Prop :=
  match o with
  | mo => e = (.exit 0) ∧ mo = m1 ∧ t1.get 5 = v8
def g40_b0 (M : Means) (ro : List ABlk) (x0 : Int) (x1 : Int) (v8 : AVal) (x6 : Int) (m_2 : Mm) : Option ((Int × Mm) ⊕ (Mm)) :=
  forceB (ltI x6 x1) fun c11 =>
  cond c11 (
    forceI (wr .i64 (x1 - 1)) fun x18 =>
    forceI (wr .i64 (x18 - x6)) fun x20 =>
    chk (!ltI x20 (.ofNat 0)) <|
    forceI (shrV .i64 x0 x20) fun x21 =>
    forceI (Int.tmod x21 2) fun x22 =>
    bindO (evP .e (.ixStr (.c (AVal.s [48, 49])) (.c (.i .i64 x22)))) fun v23 =>
    asI .u8 v23 fun x23 =>
    bindO (evP .e (.ixS 1 (.c v8) (.c (.i .i64 x6)))) fun v24 =>
    bindP (stepM ro m_2 (.st 1 (.c v24) (.c (.i .u8 x23)))) fun vn m_3 =>
    forceI (wr .i64 (x6 + 1)) fun x13 =>
    some (.inl (x13, m_3))) (
    some (.inr m_2))
def g40 (M : Means) (ro : List ABlk) (x0 : Int) (x1 : Int) (m0 : Mm) : Option (AVal × Heap × Nat × Nat) :=
  bindP (stepM ro m0 (.mk 5 1 1 [(AVal.i IntKind.u8 0)] (.c (.i .i64 x1)) (.c (.i .i64 x1)))) fun v8 m_1 =>
  bindO (M.loop (S := Int × Mm) (R := Mm) (fun s => g40_b0 M ro x0 x1 v8 s.1 s.2) (0, m_1)) fun m_4 =>
  bindO (btsM ro m_4 v8) fun v26 =>
  asS v26 fun s26 =>
  finM m0.h.length (tupA [(.s s26)]) m_4

theorem g40_ok {ro : List ABlk} {O : Caller} {M : Means} (hM : M.Ok ⟨F, O⟩ ro) {x0 x1 h r} (ho : O 40 [(.i .i64 x0), (.i .i64 x1)] h = none) (hr : g40 M ro x0 x1 ⟨h, h.length, h.length⟩ = some r) : callX ⟨F, O⟩ ro 40 [(.i .i64 x0), (.i .i64 x1)] h = some r := by
  refine callX_of (F := ⟨F, O⟩) (fn := fn40) (g := g40 M ro x0 x1) ho rfl rfl hr ?_
  clear ho
  clear hr
  intro m0 t0 ht hr
  have g0 : t0.get 0 = (.i .i64 x0) := ht 0
  have g1 : t0.get 1 = (.i .i64 x1) := ht 1
  clear ht
  unfold g40 at hr
  refine w_seq ?_
  refine w_ops ?_
  refine wo_step (v := (AVal.s [])) (s_pure (p_mv rfl)) ?_
  refine wo_nil ?_
  refine nx_norm ?_
  refine w_seq ?_
  refine w_ops ?_
  refine wo_step (v := (.i .i64 x1)) (s_pure (p_mv g1)) ?_
  have hq := bindP_inv hr
  clear hr
  obtain ⟨v8, m_1, e8, hr⟩ := hq
  refine wo_step (v := v8) (s_mk rfl rfl e8) ?_
  refine wo_step (v := v8) (s_pure (p_mv rfl)) ?_
  refine wo_nil ?_
  refine nx_norm ?_
  refine w_seq ?_
  refine w_seq ?_
  refine w_ops ?_
  refine wo_step (v := (.i .i64 0)) (s_pure (p_mv rfl)) ?_
  refine wo_nil ?_
  refine nx_norm ?_
  refine w_block ?_
  have hq := bindO_inv hr
  clear hr
  obtain ⟨o, hl, hr⟩ := hq
  obtain ⟨n, hl⟩ := hM.loop _ _ _ hl
  refine jp_mono (w_loop _ (g40_I0 x0 x1 v8) (g40_J0 x0 x1 v8) ?_ n _ _ _ _ hl ⟨rfl, gl rfl, gl g0, gl g1, gl rfl⟩) ?_
  · clear hr hl
    intro s mm_1 t_1 o hi hr
    obtain ⟨x6, m_2⟩ := s
    obtain ⟨rfl, g6, g0, g1, g5⟩ := hi
    unfold g40_b0 at hr
    refine w_seq ?_
    refine w_seq ?_
    refine w_ops ?_
    refine wo_step (v := (.i .i64 x6)) (s_pure (p_mv g6)) ?_
    refine wo_step (v := (.i .i64 x1)) (s_pure (p_mv g1)) ?_
    have hq := forceB_inv hr
    clear hr
    obtain ⟨c11, e11, hr⟩ := hq
    refine wo_step (v := (.b c11)) (s_pure (p_bin rfl rfl (b_lss.trans (cb e11)))) ?_
    refine wo_nil ?_
    refine nx_norm ?_
    have hq := cond_inv hr
    clear hr
    rcases hq with ⟨rfl, hr⟩ | ⟨rfl, hr⟩
    · refine w_condT rfl ?_
      refine w_skip ?_
      refine nx_norm ?_
      refine w_seq ?_
      refine w_block ?_
      refine w_ops ?_
      refine wo_step (v := v8) (s_pure (p_mv g5)) ?_
      refine wo_step (v := (.i .i64 x6)) (s_pure (p_mv g6)) ?_
      refine wo_step (v := (.i .i64 x0)) (s_pure (p_mv g0)) ?_
      refine wo_step (v := (.i .i64 x1)) (s_pure (p_mv g1)) ?_
      have hq := forceI_inv hr
      clear hr
      obtain ⟨x18, e18, hr⟩ := hq
      refine wo_step (v := (.i .i64 x18)) (s_pure (p_bin rfl rfl (b_sub.trans (ci e18)))) ?_
      refine wo_step (v := (.i .i64 x6)) (s_pure (p_mv g6)) ?_
      have hq := forceI_inv hr
      clear hr
      obtain ⟨x20, e20, hr⟩ := hq
      refine wo_step (v := (.i .i64 x20)) (s_pure (p_bin rfl rfl (b_sub.trans (ci e20)))) ?_
      have hq := chk_inv hr
      clear hr
      obtain ⟨hc21, hr⟩ := hq
      have hq := forceI_inv hr
      clear hr
      obtain ⟨x21, e21, hr⟩ := hq
      refine wo_step (v := (.i .i64 x21)) (s_pure (p_bin rfl rfl ((b_shr hc21).trans (ci e21)))) ?_
      have hq := forceI_inv hr
      clear hr
      obtain ⟨x22, e22, hr⟩ := hq
      refine wo_step (v := (.i .i64 x22)) (s_pure (p_bin rfl rfl ((b_rem rfl).trans (ci e22)))) ?_
      have hq := bindO_inv hr
      clear hr
      obtain ⟨v23, e23, hr⟩ := hq
      have hq := asI_inv hr
      clear hr
      obtain ⟨x23, rfl, hr⟩ := hq
      refine wo_step (v := (.i .u8 x23)) (s_pure (o_ixStr rfl rfl e23)) ?_
      have hq := bindO_inv hr
      clear hr
      obtain ⟨v24, e24, hr⟩ := hq
      refine wo_step (v := v24) (s_pure (o_ixS rfl rfl e24)) ?_
      have hq := bindP_inv hr
      clear hr
      obtain ⟨vn, m_3, en, hr⟩ := hq
      refine wo_stepN (s_st rfl rfl en) ?_
      refine wo_nil ?_
      refine bk_norm ?_
      refine nx_norm ?_
      refine w_ops ?_
      refine wo_step (v := (.i .i64 x6)) (s_pure (p_mv g6)) ?_
      have hq := forceI_inv hr
      clear hr
      obtain ⟨x13, e13, hr⟩ := hq
      refine wo_step (v := (.i .i64 x13)) (s_pure (p_bin rfl rfl (b_add.trans (ci e13)))) ?_
      refine wo_step (v := (.i .i64 x13)) (s_pure (p_mv rfl)) ?_
      refine wo_nil ?_
      cases hr
      exact ⟨_, _, rfl, rfl, rfl, gl rfl, gl g0, gl g1, gl g5⟩
    · refine w_condF rfl ?_
      refine w_exit ?_
      refine nx_exit ?_
      cases hr
      exact ⟨_, _, rfl, ne_norm_exit, rfl, rfl, gl g5⟩
  · obtain ⟨m_4, ho⟩ : ∃ z, z = o := ⟨_, rfl⟩
    subst ho
    rintro _ mm t_2 ⟨rfl, rfl, g5⟩
    refine bk_hit ?_
    refine nx_norm ?_
    refine w_seq ?_
    refine w_ops ?_
    refine wo_step (v := v8) (s_pure (p_mv g5)) ?_
    have hq := bindO_inv hr
    clear hr
    obtain ⟨v26, e26, hr⟩ := hq
    have hq := asS_inv hr
    clear hr
    obtain ⟨s26, rfl, hr⟩ := hq
    refine wo_step (v := (.s s26)) (s_bts rfl e26) ?_
    refine wo_step (v := (.s s26)) (s_pure (p_mv rfl)) ?_
    refine wo_nil ?_
    refine nx_norm ?_
    refine w_ret ?_
    exact qf ret_ok (rt rfl rn) hr

/- dibber/dibberlaw02.reversed -/
abbrev g41_I0 (s0 : List UInt8) (v7 : AVal) (s : Int × Mm) (m1 : Mm) (t1 : Tr) : Prop :=
  match s with
  | (x4, m_2) => m_2 = m1 ∧ t1.get 4 = (.i .i64 x4) ∧ t1.get 0 = (.s s0) ∧ t1.get 3 = v7
abbrev g41_J0 (s0 : List UInt8) (v7 : AVal) (o : Mm) (e : AExit) (m1 : Mm) (t1 : Tr) : Prop :=
  match o with
  | mo => e = (.exit 0) ∧ mo = m1 ∧ t1.get 3 = v7
def g41_b0 (M : Means) (ro : List ABlk) (s0 : List UInt8) (v7 : AVal) (x4 : Int) (m_2 : Mm) : Option ((Int × Mm) ⊕ (Mm)) :=
  bindO (evP .e (.len true (.c (.s s0)))) fun v10 =>
  asI .i64 v10 fun x10 =>
  forceB (ltI x4 x10) fun c11 =>
  cond c11 (
    bindO (evP .e (.len true (.c (.s s0)))) fun v16 =>
    asI .i64 v16 fun x16 =>
    forceI (wr .i64 (x16 - 1)) fun x17 =>
    forceI (wr .i64 (x17 - x4)) fun x19 =>
    bindO (evP .e (.ixStr (.c (.s s0)) (.c (.i .i64 x4)))) fun v22 =>
    asI .u8 v22 fun x22 =>
    bindO (evP .e (.ixS 1 (.c v7) (.c (.i .i64 x19)))) fun v23 =>
    bindP (stepM ro m_2 (.st 1 (.c v23) (.c (.i .u8 x22)))) fun vn m_3 =>
    forceI (wr .i64 (x4 + 1)) fun x13 =>
    some (.inl (x13, m_3))) (
    some (.inr m_2))
def g41 (M : Means) (ro : List ABlk) (s0 : List UInt8) (m0 : Mm) : Option (AVal × Heap × Nat × Nat) :=
  bindO (evP .e (.len true (.c (.s s0)))) fun v6 =>
  asI .i64 v6 fun x6 =>
  bindP (stepM ro m0 (.mk 5 1 1 [(AVal.i IntKind.u8 0)] (.c (.i .i64 x6)) (.c (.i .i64 x6)))) fun v7 m_1 =>
  bindO (M.loop (S := Int × Mm) (R := Mm) (fun s => g41_b0 M ro s0 v7 s.1 s.2) (0, m_1)) fun m_4 =>
  bindO (btsM ro m_4 v7) fun v25 =>
  asS v25 fun s25 =>
  finM m0.h.length (tupA [(.s s25)]) m_4

theorem g41_ok {ro : List ABlk} {O : Caller} {M : Means} (hM : M.Ok ⟨F, O⟩ ro) {s0 h r} (ho : O 41 [(.s s0)] h = none) (hr : g41 M ro s0 ⟨h, h.length, h.length⟩ = some r) : callX ⟨F, O⟩ ro 41 [(.s s0)] h = some r := by
  refine callX_of (F := ⟨F, O⟩) (fn := fn41) (g := g41 M ro s0) ho rfl rfl hr ?_
  clear ho
  clear hr
  intro m0 t0 ht hr
  have g0 : t0.get 0 = (.s s0) := ht 0
  clear ht
  unfold g41 at hr
  refine w_seq ?_
  refine w_ops ?_
  refine wo_step (v := (AVal.s [])) (s_pure (p_mv rfl)) ?_
  refine wo_nil ?_
  refine nx_norm ?_
  refine w_seq ?_
  refine w_ops ?_
  refine wo_step (v := (.s s0)) (s_pure (p_mv g0)) ?_
  have hq := bindO_inv hr
  clear hr
  obtain ⟨v6, e6, hr⟩ := hq
  have hq := asI_inv hr
  clear hr
  obtain ⟨x6, rfl, hr⟩ := hq
  refine wo_step (v := (.i .i64 x6)) (s_pure (o_len rfl e6)) ?_
  have hq := bindP_inv hr
  clear hr
  obtain ⟨v7, m_1, e7, hr⟩ := hq
  refine wo_step (v := v7) (s_mk rfl rfl e7) ?_
  refine wo_step (v := v7) (s_pure (p_mv rfl)) ?_
  refine wo_nil ?_
  refine nx_norm ?_
  refine w_seq ?_
  refine w_seq ?_
  refine w_ops ?_
  refine wo_step (v := (.i .i64 0)) (s_pure (p_mv rfl)) ?_
  refine wo_nil ?_
  refine nx_norm ?_
  refine w_block ?_
  have hq := bindO_inv hr
  clear hr
  obtain ⟨o, hl, hr⟩ := hq
  obtain ⟨n, hl⟩ := hM.loop _ _ _ hl
  refine jp_mono (w_loop _ (g41_I0 s0 v7) (g41_J0 s0 v7) ?_ n _ _ _ _ hl ⟨rfl, gl rfl, gl g0, gl rfl⟩) ?_
  · clear hr hl
    intro s mm_1 t_1 o hi hr
    obtain ⟨x4, m_2⟩ := s
    obtain ⟨rfl, g4, g0, g3⟩ := hi
    unfold g41_b0 at hr
    refine w_seq ?_
    refine w_seq ?_
    refine w_ops ?_
    refine wo_step (v := (.i .i64 x4)) (s_pure (p_mv g4)) ?_
    refine wo_step (v := (.s s0)) (s_pure (p_mv g0)) ?_
    have hq := bindO_inv hr
    clear hr
    obtain ⟨v10, e10, hr⟩ := hq
    have hq := asI_inv hr
    clear hr
    obtain ⟨x10, rfl, hr⟩ := hq
    refine wo_step (v := (.i .i64 x10)) (s_pure (o_len rfl e10)) ?_
    have hq := forceB_inv hr
    clear hr
    obtain ⟨c11, e11, hr⟩ := hq
    refine wo_step (v := (.b c11)) (s_pure (p_bin rfl rfl (b_lss.trans (cb e11)))) ?_
    refine wo_nil ?_
    refine nx_norm ?_
    have hq := cond_inv hr
    clear hr
    rcases hq with ⟨rfl, hr⟩ | ⟨rfl, hr⟩
    · refine w_condT rfl ?_
      refine w_skip ?_
      refine nx_norm ?_
      refine w_seq ?_
      refine w_block ?_
      refine w_ops ?_
      refine wo_step (v := v7) (s_pure (p_mv g3)) ?_
      refine wo_step (v := (.s s0)) (s_pure (p_mv g0)) ?_
      have hq := bindO_inv hr
      clear hr
      obtain ⟨v16, e16, hr⟩ := hq
      have hq := asI_inv hr
      clear hr
      obtain ⟨x16, rfl, hr⟩ := hq
      refine wo_step (v := (.i .i64 x16)) (s_pure (o_len rfl e16)) ?_
      have hq := forceI_inv hr
      clear hr
      obtain ⟨x17, e17, hr⟩ := hq
      refine wo_step (v := (.i .i64 x17)) (s_pure (p_bin rfl rfl (b_sub.trans (ci e17)))) ?_
      refine wo_step (v := (.i .i64 x4)) (s_pure (p_mv g4)) ?_
      have hq := forceI_inv hr
      clear hr
      obtain ⟨x19, e19, hr⟩ := hq
      refine wo_step (v := (.i .i64 x19)) (s_pure (p_bin rfl rfl (b_sub.trans (ci e19)))) ?_
      refine wo_step (v := (.s s0)) (s_pure (p_mv g0)) ?_
      refine wo_step (v := (.i .i64 x4)) (s_pure (p_mv g4)) ?_
      have hq := bindO_inv hr
      clear hr
      obtain ⟨v22, e22, hr⟩ := hq
      have hq := asI_inv hr
      clear hr
      obtain ⟨x22, rfl, hr⟩ := hq
      refine wo_step (v := (.i .u8 x22)) (s_pure (o_ixStr rfl rfl e22)) ?_
      have hq := bindO_inv hr
      clear hr
      obtain ⟨v23, e23, hr⟩ := hq
      refine wo_step (v := v23) (s_pure (o_ixS rfl rfl e23)) ?_
      have hq := bindP_inv hr
      clear hr
      obtain ⟨vn, m_3, en, hr⟩ := hq
      refine wo_stepN (s_st rfl rfl en) ?_
      refine wo_nil ?_
      refine bk_norm ?_
      refine nx_norm ?_
      refine w_ops ?_
      refine wo_step (v := (.i .i64 x4)) (s_pure (p_mv g4)) ?_
      have hq := forceI_inv hr
      clear hr
      obtain ⟨x13, e13, hr⟩ := hq
      refine wo_step (v := (.i .i64 x13)) (s_pure (p_bin rfl rfl (b_add.trans (ci e13)))) ?_
      refine wo_step (v := (.i .i64 x13)) (s_pure (p_mv rfl)) ?_
      refine wo_nil ?_
      cases hr
      exact ⟨_, _, rfl, rfl, rfl, gl rfl, gl g0, gl g3⟩
    · refine w_condF rfl ?_
      refine w_exit ?_
      refine nx_exit ?_
      cases hr
      exact ⟨_, _, rfl, ne_norm_exit, rfl, rfl, gl g3⟩
  · obtain ⟨m_4, ho⟩ : ∃ z, z = o := ⟨_, rfl⟩
    subst ho
    rintro _ mm t_2 ⟨rfl, rfl, g3⟩
    refine bk_hit ?_
    refine nx_norm ?_
    refine w_seq ?_
    refine w_ops ?_
    refine wo_step (v := v7) (s_pure (p_mv g3)) ?_
    have hq := bindO_inv hr
    clear hr
    obtain ⟨v25, e25, hr⟩ := hq
    have hq := asS_inv hr
    clear hr
    obtain ⟨s25, rfl, hr⟩ := hq
    refine wo_step (v := (.s s25)) (s_bts rfl e25) ?_
    refine wo_step (v := (.s s25)) (s_pure (p_mv rfl)) ?_
    refine wo_nil ?_
    refine nx_norm ?_
    refine w_ret ?_
    exact qf ret_ok (rt rfl rn) hr

/- dibber/dibberlaw02.other -/
abbrev g42_I0 (s0 : List UInt8) (v7 : AVal) (s : Int × Mm) (m1 : Mm) (t1 : Tr) : Prop :=
  match s with
  | (x4, m_2) => m_2 = m1 ∧ t1.get 4 = (.i .i64 x4) ∧ t1.get 0 = (.s s0) ∧ t1.get 3 = v7
abbrev g42_J0 (s0 : List UInt8) (v7 : AVal) (o : Mm) (e : AExit) (m1 : Mm) (t1 : Tr) : Prop :=
  match o with
  | mo => e = (.exit 0) ∧ mo = m1 ∧ t1.get 3 = v7
def g42_b0 (M : Means) (ro : List ABlk) (s0 : List UInt8) (v7 : AVal) (x4 : Int) (m_2 : Mm) : Option ((Int × Mm) ⊕ (Mm)) :=
  bindO (evP .e (.len true (.c (.s s0)))) fun v10 =>
  asI .i64 v10 fun x10 =>
  forceB (ltI x4 x10) fun c11 =>
  cond c11 (
    bindO (evP .e (.ixStr (.c (.s s0)) (.c (.i .i64 x4)))) fun v18 =>
    asI .u8 v18 fun x18 =>
    forceI (wr .u8 (97 - x18)) fun x19 =>
    bindO (evP .e (.ixS 1 (.c v7) (.c (.i .i64 x4)))) fun v20 =>
    bindP (stepM ro m_2 (.st 1 (.c v20) (.c (.i .u8 x19)))) fun vn m_3 =>
    forceI (wr .i64 (x4 + 1)) fun x13 =>
    some (.inl (x13, m_3))) (
    some (.inr m_2))
def g42 (M : Means) (ro : List ABlk) (s0 : List UInt8) (m0 : Mm) : Option (AVal × Heap × Nat × Nat) :=
  bindO (evP .e (.len true (.c (.s s0)))) fun v6 =>
  asI .i64 v6 fun x6 =>
  bindP (stepM ro m0 (.mk 5 1 1 [(AVal.i IntKind.u8 0)] (.c (.i .i64 x6)) (.c (.i .i64 x6)))) fun v7 m_1 =>
  bindO (M.loop (S := Int × Mm) (R := Mm) (fun s => g42_b0 M ro s0 v7 s.1 s.2) (0, m_1)) fun m_4 =>
  bindO (btsM ro m_4 v7) fun v22 =>
  asS v22 fun s22 =>
  finM m0.h.length (tupA [(.s s22)]) m_4

theorem g42_ok {ro : List ABlk} {O : Caller} {M : Means} (hM : M.Ok ⟨F, O⟩ ro) {s0 h r} (ho : O 42 [(.s s0)] h = none) (hr : g42 M ro s0 ⟨h, h.length, h.length⟩ = some r) : callX ⟨F, O⟩ ro 42 [(.s s0)] h = some r := by
  refine callX_of (F := ⟨F, O⟩) (fn := fn42) (g := g42 M ro s0) ho rfl rfl hr ?_
  clear ho
  clear hr
  intro m0 t0 ht hr
  have g0 : t0.get 0 = (.s s0) := ht 0
  clear ht
  unfold g42 at hr
  refine w_seq ?_
  refine w_ops ?_
  refine wo_step (v := (AVal.s [])) (s_pure (p_mv rfl)) ?_
  refine wo_nil ?_
  refine nx_norm ?_
  refine w_seq ?_
  refine w_ops ?_
  refine wo_step (v := (.s s0)) (s_pure (p_mv g0)) ?_
  have hq := bindO_inv hr
  clear hr
  obtain ⟨v6, e6, hr⟩ := hq
  have hq := asI_inv hr
  clear hr
  obtain ⟨x6, rfl, hr⟩ := hq
  refine wo_step (v := (.i .i64 x6)) (s_pure (o_len rfl e6)) ?_
  have hq := bindP_inv hr
  clear hr
  obtain ⟨v7, m_1, e7, hr⟩ := hq
  refine wo_step (v := v7) (s_mk rfl rfl e7) ?_
  refine wo_step (v := v7) (s_pure (p_mv rfl)) ?_
  refine wo_nil ?_
  refine nx_norm ?_
  refine w_seq ?_
  refine w_seq ?_
  refine w_ops ?_
  refine wo_step (v := (.i .i64 0)) (s_pure (p_mv rfl)) ?_
  refine wo_nil ?_
  refine nx_norm ?_
  refine w_block ?_
  have hq := bindO_inv hr
  clear hr
  obtain ⟨o, hl, hr⟩ := hq
  obtain ⟨n, hl⟩ := hM.loop _ _ _ hl
  refine jp_mono (w_loop _ (g42_I0 s0 v7) (g42_J0 s0 v7) ?_ n _ _ _ _ hl ⟨rfl, gl rfl, gl g0, gl rfl⟩) ?_
  · clear hr hl
    intro s mm_1 t_1 o hi hr
    obtain ⟨x4, m_2⟩ := s
    obtain ⟨rfl, g4, g0, g3⟩ := hi
    unfold g42_b0 at hr
    refine w_seq ?_
    refine w_seq ?_
    refine w_ops ?_
    refine wo_step (v := (.i .i64 x4)) (s_pure (p_mv g4)) ?_
    refine wo_step (v := (.s s0)) (s_pure (p_mv g0)) ?_
    have hq := bindO_inv hr
    clear hr
    obtain ⟨v10, e10, hr⟩ := hq
    have hq := asI_inv hr
    clear hr
    obtain ⟨x10, rfl, hr⟩ := hq
    refine wo_step (v := (.i .i64 x10)) (s_pure (o_len rfl e10)) ?_
    have hq := forceB_inv hr
    clear hr
    obtain ⟨c11, e11, hr⟩ := hq
    refine wo_step (v := (.b c11)) (s_pure (p_bin rfl rfl (b_lss.trans (cb e11)))) ?_
    refine wo_nil ?_
    refine nx_norm ?_
    have hq := cond_inv hr
    clear hr
    rcases hq with ⟨rfl, hr⟩ | ⟨rfl, hr⟩
    · refine w_condT rfl ?_
      refine w_skip ?_
      refine nx_norm ?_
      refine w_seq ?_
      refine w_block ?_
      refine w_ops ?_
      refine wo_step (v := v7) (s_pure (p_mv g3)) ?_
      refine wo_step (v := (.i .i64 x4)) (s_pure (p_mv g4)) ?_
      refine wo_step (v := (.s s0)) (s_pure (p_mv g0)) ?_
      refine wo_step (v := (.i .i64 x4)) (s_pure (p_mv g4)) ?_
      have hq := bindO_inv hr
      clear hr
      obtain ⟨v18, e18, hr⟩ := hq
      have hq := asI_inv hr
      clear hr
      obtain ⟨x18, rfl, hr⟩ := hq
      refine wo_step (v := (.i .u8 x18)) (s_pure (o_ixStr rfl rfl e18)) ?_
      have hq := forceI_inv hr
      clear hr
      obtain ⟨x19, e19, hr⟩ := hq
      refine wo_step (v := (.i .u8 x19)) (s_pure (p_bin rfl rfl (b_sub.trans (ci e19)))) ?_
      have hq := bindO_inv hr
      clear hr
      obtain ⟨v20, e20, hr⟩ := hq
      refine wo_step (v := v20) (s_pure (o_ixS rfl rfl e20)) ?_
      have hq := bindP_inv hr
      clear hr
      obtain ⟨vn, m_3, en, hr⟩ := hq
      refine wo_stepN (s_st rfl rfl en) ?_
      refine wo_nil ?_
      refine bk_norm ?_
      refine nx_norm ?_
      refine w_ops ?_
      refine wo_step (v := (.i .i64 x4)) (s_pure (p_mv g4)) ?_
      have hq := forceI_inv hr
      clear hr
      obtain ⟨x13, e13, hr⟩ := hq
      refine wo_step (v := (.i .i64 x13)) (s_pure (p_bin rfl rfl (b_add.trans (ci e13)))) ?_
      refine wo_step (v := (.i .i64 x13)) (s_pure (p_mv rfl)) ?_
      refine wo_nil ?_
      cases hr
      exact ⟨_, _, rfl, rfl, rfl, gl rfl, gl g0, gl g3⟩
    · refine w_condF rfl ?_
      refine w_exit ?_
      refine nx_exit ?_
      cases hr
      exact ⟨_, _, rfl, ne_norm_exit, rfl, rfl, gl g3⟩
  · obtain ⟨m_4, ho⟩ : ∃ z, z = o := ⟨_, rfl⟩
    subst ho
    rintro _ mm t_2 ⟨rfl, rfl, g3⟩
    refine bk_hit ?_
    refine nx_norm ?_
    refine w_seq ?_
    refine w_ops ?_
    refine wo_step (v := v7) (s_pure (p_mv g3)) ?_
    have hq := bindO_inv hr
    clear hr
    obtain ⟨v22, e22, hr⟩ := hq
    have hq := asS_inv hr
    clear hr
    obtain ⟨s22, rfl, hr⟩ := hq
    refine wo_step (v := (.s s22)) (s_bts rfl e22) ?_
    refine wo_step (v := (.s s22)) (s_pure (p_mv rfl)) ?_
    refine wo_nil ?_
    refine nx_norm ?_
    refine w_ret ?_
    exact qf ret_ok (rt rfl rn) hr

/- dibber/dibberref02.Row -/
abbrev g43_I0 (s0 : List UInt8) (m0 : Mm) (s : Int) (m1 : Mm) (t1 : Tr) : Prop :=
  match s with
  | x5 => m0 = m1 ∧ t1.get 5 = (.i .i64 x5) ∧ t1.get 0 = (.s s0)
abbrev g43_J0 (s0 : List UInt8) (m0 : Mm) (o : (Unit ⊕ Int)) (e : AExit) (m1 : Mm) (t1 : Tr) : Prop :=
  match o with
  | (.inl _) => e = (.exit 0) ∧ m0 = m1
  | (.inr y4) => e = .ret ∧ m0 = m1 ∧ t1.get 4 = (.i .i64 y4)
abbrev g43_J1 (s0 : List UInt8) (x5 : Int) (m0 : Mm) (o : Bool) (m1 : Mm) (t1 : Tr) : Prop :=
  match o with
  | c28 => m0 = m1 ∧ t1.get 28 = (.b c28) ∧ t1.get 0 = (.s s0) ∧ t1.get 5 = (.i .i64 x5)
def g43_b0 (M : Means) (ro : List ABlk) (s0 : List UInt8) (m0 : Mm) (x5 : Int) : Option ((Int) ⊕ ((Unit ⊕ Int))) :=
  bindO (evP .e (.len true (.c (.s s0)))) fun v15 =>
  asI .i64 v15 fun x15 =>
  forceB (ltI x5 x15) fun c16 =>
  cond c16 (
    bindO (evP .e (.ixStr (.c (.s s0)) (.c (.i .i64 x5)))) fun v21 =>
    asI .u8 v21 fun x21 =>
    forceB (!eqI x21 48) fun c22 =>
    bindO (cond c22 (
      bindO (evP .e (.ixStr (.c (.s s0)) (.c (.i .i64 x5)))) fun v26 =>
      asI .u8 v26 fun x26 =>
      forceB (!eqI x26 49) fun c27 =>
      some c27) (
      some false)) fun c28 =>
    cond c28 (
      some (.inr (.inr 5))) (
      forceI (wr .i64 (x5 + 1)) fun x18 =>
      some (.inl x18))) (
    some (.inr (.inl ())))
def g43 (M : Means) (ro : List ABlk) (s0 : List UInt8) (x1 : Int) (m0 : Mm) : Option (AVal × Heap × Nat × Nat) :=
  bindO (evP .e (.len true (.c (.s s0)))) fun v7 =>
  asI .i64 v7 fun x7 =>
  forceB (ltI x1 x7) fun c9 =>
  cond c9 (
    finM m0.h.length (tupA [(.i .i64 3)]) m0) (
    bindO (evP .e (.len true (.c (.s s0)))) fun v11 =>
    asI .i64 v11 fun x11 =>
    forceB (eqI x11 0) fun c12 =>
    cond c12 (
      finM m0.h.length (tupA [(.i .i64 5)]) m0) (
      bindO (M.loop (S := Int) (R := (Unit ⊕ Int)) (fun s => g43_b0 M ro s0 m0 s) 0) fun o_1 => match o_1 with
      | (.inl _) =>
        finM m0.h.length (tupA [(.i .i64 0)]) m0
      | (.inr x4) =>
        finM m0.h.length (tupA [(.i .i64 x4)]) m0))

theorem g43_ok {ro : List ABlk} {O : Caller} {M : Means} (hM : M.Ok ⟨F, O⟩ ro) {s0 x1 h r} (ho : O 43 [(.s s0), (.i .i64 x1)] h = none) (hr : g43 M ro s0 x1 ⟨h, h.length, h.length⟩ = some r) : callX ⟨F, O⟩ ro 43 [(.s s0), (.i .i64 x1)] h = some r := by
  refine callX_of (F := ⟨F, O⟩) (fn := fn43) (g := g43 M ro s0 x1) ho rfl rfl hr ?_
  clear ho
  clear hr
  intro m0 t0 ht hr
  have g0 : t0.get 0 = (.s s0) := ht 0
  have g1 : t0.get 1 = (.i .i64 x1) := ht 1
  clear ht
  unfold g43 at hr
  refine w_seq ?_
  refine w_ops ?_
  refine wo_step (v := (.i .i64 0)) (s_pure (p_mv rfl)) ?_
  refine wo_nil ?_
  refine nx_norm ?_
  refine w_seq ?_
  refine w_seq ?_
  refine w_ops ?_
  refine wo_step (v := (.s s0)) (s_pure (p_mv g0)) ?_
  have hq := bindO_inv hr
  clear hr
  obtain ⟨v7, e7, hr⟩ := hq
  have hq := asI_inv hr
  clear hr
  obtain ⟨x7, rfl, hr⟩ := hq
  refine wo_step (v := (.i .i64 x7)) (s_pure (o_len rfl e7)) ?_
  refine wo_step (v := (.i .i64 x1)) (s_pure (p_mv g1)) ?_
  have hq := forceB_inv hr
  clear hr
  obtain ⟨c9, e9, hr⟩ := hq
  refine wo_step (v := (.b c9)) (s_pure (p_bin rfl rfl (b_gtr.trans (cb e9)))) ?_
  refine wo_nil ?_
  refine nx_norm ?_
  have hq := cond_inv hr
  clear hr
  rcases hq with ⟨rfl, hr⟩ | ⟨rfl, hr⟩
  · refine w_condT rfl ?_
    refine w_seq ?_
    refine w_ops ?_
    refine wo_step (v := (.i .i64 3)) (s_pure (p_mv rfl)) ?_
    refine wo_nil ?_
    refine nx_norm ?_
    refine w_ret ?_
    refine nx_ret ?_
    exact qf ret_ok (rt rfl rn) hr
  · refine w_condF rfl ?_
    refine w_skip ?_
    refine nx_norm ?_
    refine w_seq ?_
    refine w_seq ?_
    refine w_ops ?_
    refine wo_step (v := (.s s0)) (s_pure (p_mv g0)) ?_
    have hq := bindO_inv hr
    clear hr
    obtain ⟨v11, e11, hr⟩ := hq
    have hq := asI_inv hr
    clear hr
    obtain ⟨x11, rfl, hr⟩ := hq
    refine wo_step (v := (.i .i64 x11)) (s_pure (o_len rfl e11)) ?_
    have hq := forceB_inv hr
    clear hr
    obtain ⟨c12, e12, hr⟩ := hq
    refine wo_step (v := (.b c12)) (s_pure (p_bin rfl rfl (b_eql.trans (cb e12)))) ?_
    refine wo_nil ?_
    refine nx_norm ?_
    have hq := cond_inv hr
    clear hr
    rcases hq with ⟨rfl, hr⟩ | ⟨rfl, hr⟩
    · refine w_condT rfl ?_
      refine w_seq ?_
      refine w_ops ?_
      refine wo_step (v := (.i .i64 5)) (s_pure (p_mv rfl)) ?_
      refine wo_nil ?_
      refine nx_norm ?_
      refine w_ret ?_
      refine nx_ret ?_
      exact qf ret_ok (rt rfl rn) hr
    · refine w_condF rfl ?_
      refine w_skip ?_
      refine nx_norm ?_
      refine w_seq ?_
      refine w_seq ?_
      refine w_ops ?_
      refine wo_step (v := (.i .i64 0)) (s_pure (p_mv rfl)) ?_
      refine wo_nil ?_
      refine nx_norm ?_
      refine w_block ?_
      have hq := bindO_inv hr
      clear hr
      obtain ⟨o_1, hl, hr⟩ := hq
      obtain ⟨n, hl⟩ := hM.loop _ _ _ hl
      refine jp_mono (w_loop _ (g43_I0 s0 m0) (g43_J0 s0 m0) ?_ n _ _ _ _ hl ⟨rfl, gl rfl, gl g0⟩) ?_
      · clear hr hl
        intro s mm_3 t_1 o hi hr
        obtain ⟨x5, hs⟩ : ∃ z, z = s := ⟨_, rfl⟩
        subst hs
        obtain ⟨rfl, g5, g0⟩ := hi
        unfold g43_b0 at hr
        refine w_seq ?_
        refine w_seq ?_
        refine w_ops ?_
        refine wo_step (v := (.i .i64 x5)) (s_pure (p_mv g5)) ?_
        refine wo_step (v := (.s s0)) (s_pure (p_mv g0)) ?_
        have hq := bindO_inv hr
        clear hr
        obtain ⟨v15, e15, hr⟩ := hq
        have hq := asI_inv hr
        clear hr
        obtain ⟨x15, rfl, hr⟩ := hq
        refine wo_step (v := (.i .i64 x15)) (s_pure (o_len rfl e15)) ?_
        have hq := forceB_inv hr
        clear hr
        obtain ⟨c16, e16, hr⟩ := hq
        refine wo_step (v := (.b c16)) (s_pure (p_bin rfl rfl (b_lss.trans (cb e16)))) ?_
        refine wo_nil ?_
        refine nx_norm ?_
        have hq := cond_inv hr
        clear hr
        rcases hq with ⟨rfl, hr⟩ | ⟨rfl, hr⟩
        · refine w_condT rfl ?_
          refine w_skip ?_
          refine nx_norm ?_
          refine w_seq ?_
          refine w_block ?_
          refine w_seq ?_
          refine w_ops ?_
          refine wo_step (v := (.s s0)) (s_pure (p_mv g0)) ?_
          refine wo_step (v := (.i .i64 x5)) (s_pure (p_mv g5)) ?_
          have hq := bindO_inv hr
          clear hr
          obtain ⟨v21, e21, hr⟩ := hq
          have hq := asI_inv hr
          clear hr
          obtain ⟨x21, rfl, hr⟩ := hq
          refine wo_step (v := (.i .u8 x21)) (s_pure (o_ixStr rfl rfl e21)) ?_
          have hq := forceB_inv hr
          clear hr
          obtain ⟨c22, e22, hr⟩ := hq
          refine wo_step (v := (.b c22)) (s_pure (p_bin rfl rfl (b_neq.trans (cb e22)))) ?_
          refine wo_step (v := (.b c22)) (s_pure (p_mv rfl)) ?_
          have hq := bindO_inv hr
          clear hr
          obtain ⟨o, hr, hk⟩ := hq
          refine wo_join 5 (g43_J1 s0 x5 m0 o) ?_ ?_
          · clear hk
            have hq := cond_inv hr
            clear hr
            rcases hq with ⟨rfl, hr⟩ | ⟨rfl, hr⟩
            · refine wo_take (v := (.s s0)) rfl (s_pure (p_mv g0)) ?_
              refine wo_take (v := (.i .i64 x5)) rfl (s_pure (p_mv g5)) ?_
              have hq := bindO_inv hr
              clear hr
              obtain ⟨v26, e26, hr⟩ := hq
              have hq := asI_inv hr
              clear hr
              obtain ⟨x26, rfl, hr⟩ := hq
              refine wo_take (v := (.i .u8 x26)) rfl (s_pure (o_ixStr rfl rfl e26)) ?_
              have hq := forceB_inv hr
              clear hr
              obtain ⟨c27, e27, hr⟩ := hq
              refine wo_take (v := (.b c27)) rfl (s_pure (p_bin rfl rfl (b_neq.trans (cb e27)))) ?_
              refine wo_step (v := (.b c27)) (s_pure (p_pickT rfl rfl)) ?_
              refine wo_nil ?_
              cases hr
              exact ⟨_, _, rfl, rfl, gl rfl, gl g0, gl g5⟩
            · refine wo_skip (v := (.b false)) rfl rfl ?_
              refine wo_skip (v := (.b false)) rfl rfl ?_
              refine wo_skip (v := (.b false)) rfl rfl ?_
              refine wo_skip (v := (.b false)) rfl rfl ?_
              refine wo_step (v := (.b false)) (s_pure (p_pickF rfl rfl)) ?_
              refine wo_nil ?_
              cases hr
              exact ⟨_, _, rfl, rfl, gl rfl, gl g0, gl g5⟩
          · clear hr
            have hr := hk
            clear hk
            obtain ⟨c28, ho⟩ : ∃ z, z = o := ⟨_, rfl⟩
            subst ho
            rintro mm t_2 ⟨rfl, g28, g0, g5⟩
            refine wo_nil ?_
            refine nx_norm ?_
            have hq := cond_inv hr
            clear hr
            rcases hq with ⟨rfl, hr⟩ | ⟨rfl, hr⟩
            · refine w_condT g28 ?_
              refine w_seq ?_
              refine w_ops ?_
              refine wo_step (v := (.i .i64 5)) (s_pure (p_mv rfl)) ?_
              refine wo_nil ?_
              refine nx_norm ?_
              refine w_ret ?_
              refine bk_ret ?_
              refine nx_ret ?_
              cases hr
              exact ⟨_, _, rfl, ne_norm_ret, rfl, rfl, gl rfl⟩
            · refine w_condF g28 ?_
              refine w_skip ?_
              refine bk_norm ?_
              refine nx_norm ?_
              refine w_ops ?_
              refine wo_step (v := (.i .i64 x5)) (s_pure (p_mv g5)) ?_
              have hq := forceI_inv hr
              clear hr
              obtain ⟨x18, e18, hr⟩ := hq
              refine wo_step (v := (.i .i64 x18)) (s_pure (p_bin rfl rfl (b_add.trans (ci e18)))) ?_
              refine wo_step (v := (.i .i64 x18)) (s_pure (p_mv rfl)) ?_
              refine wo_nil ?_
              cases hr
              exact ⟨_, _, rfl, rfl, rfl, gl rfl, gl g0⟩
        · refine w_condF rfl ?_
          refine w_exit ?_
          refine nx_exit ?_
          cases hr
          exact ⟨_, _, rfl, ne_norm_exit, rfl, rfl⟩
      · rcases o_1 with o_1 | o_1
        · rintro _ mm_1 t_3 ⟨rfl, rfl⟩
          refine bk_hit ?_
          refine nx_norm ?_
          refine w_seq ?_
          refine w_ops ?_
          refine wo_step (v := (.i .i64 0)) (s_pure (p_mv rfl)) ?_
          refine wo_nil ?_
          refine nx_norm ?_
          refine w_ret ?_
          exact qf ret_ok (rt rfl rn) hr
        · obtain ⟨x4, ho⟩ : ∃ z, z = o_1 := ⟨_, rfl⟩
          subst ho
          rintro _ mm_2 t_4 ⟨rfl, rfl, g4⟩
          refine bk_ret ?_
          refine nx_ret ?_
          exact qf ret_ok (rt g4 rn) hr

/- dibber/weed.read -/
abbrev g45_I0 (s1 : List UInt8) (x12 : Int) (x23 : Int) (m_1 : Mm) (s : Int) (m1 : Mm) (t1 : Tr) : Prop :=
  match s with
  | x24 => m_1 = m1 ∧ t1.get 24 = (.i .i64 x24) ∧ t1.get 1 = (.s s1) ∧ t1.get 6 = (.i .u8 x12) ∧ t1.get 23 = (.i .i64 x23)
abbrev g45_J0 (s1 : List UInt8) (x12 : Int) (x23 : Int) (m_1 : Mm) (o : (Unit ⊕ (Int × Int))) (e : AExit) (m1 : Mm) (t1 : Tr) : Prop :=
  match o with
  | (.inl _) => e = (.exit 0) ∧ m_1 = m1 ∧ t1.get 6 = (.i .u8 x12)
  | (.inr (y4, y5)) => e = .ret ∧ m_1 = m1 ∧ t1.get 4 = (.i .u8 y4) ∧ t1.get 5 = (.i .i64 y5)
abbrev g45_J1 (s1 : List UInt8) (x12 : Int) (x23 : Int) (x24 : Int) (m_1 : Mm) (o : Bool) (m1 : Mm) (t1 : Tr) : Prop :=
  match o with
  | c36 => m_1 = m1 ∧ t1.get 36 = (.b c36) ∧ t1.get 1 = (.s s1) ∧ t1.get 6 = (.i .u8 x12) ∧ t1.get 23 = (.i .i64 x23) ∧ t1.get 24 = (.i .i64 x24)
def g45_b0 (M : Means) (ro : List ABlk) (s1 : List UInt8) (x12 : Int) (x23 : Int) (m_1 : Mm) (x24 : Int) : Option ((Int) ⊕ ((Unit ⊕ (Int × Int)))) :=
  forceB (ltI x24 x23) fun c25 =>
  cond c25 (
    bindO (evP .e (.ixStr (.c (.s s1)) (.c (.i .i64 x24)))) fun v29 =>
    asI .u8 v29 fun x29 =>
    forceB (!eqI x29 48) fun c30 =>
    bindO (cond c30 (
      bindO (evP .e (.ixStr (.c (.s s1)) (.c (.i .i64 x24)))) fun v34 =>
      asI .u8 v34 fun x34 =>
      forceB (!eqI x34 49) fun c35 =>
      some c35) (
      some false)) fun c36 =>
    cond c36 (
      some (.inr (.inr (0, 5)))) (
      forceI (wr .i64 (x24 + 1)) fun x37 =>
      some (.inl x37))) (
    some (.inr (.inl ())))
def g45 (M : Means) (ro : List ABlk) (x0 : Int) (s1 : List UInt8) (m0 : Mm) : Option (AVal × Heap × Nat × Nat) :=
  bindP (callM M.call m0 61 [(.i .i64 x0)]) fun v11 m_1 =>
  bindO (evP .e (.ext 0 (.c v11))) fun v12 =>
  asI .u8 v12 fun x12 =>
  bindO (evP .e (.ext 1 (.c v11))) fun v13 =>
  asI .i64 v13 fun x13 =>
  forceB (!eqI x13 0) fun c15 =>
  cond c15 (
    finM m0.h.length (tupA [(.i .u8 0), (.i .i64 x13)]) m_1) (
    bindO (evP .e (.len true (.c (.s s1)))) fun v18 =>
    asI .i64 v18 fun x18 =>
    forceB (ltI 400 x18) fun c19 =>
    cond c19 (
      finM m0.h.length (tupA [(.i .u8 0), (.i .i64 3)]) m_1) (
      bindO (evP .e (.sbin BinOp.eql (.c (.s s1)) (.c (AVal.s [])))) fun v21 =>
      asB v21 fun c21 =>
      cond c21 (
        finM m0.h.length (tupA [(.i .u8 0), (.i .i64 5)]) m_1) (
        bindO (evP .e (.len true (.c (.s s1)))) fun v23 =>
        asI .i64 v23 fun x23 =>
        bindO (M.loop (S := Int) (R := (Unit ⊕ (Int × Int))) (fun s => g45_b0 M ro s1 x12 x23 m_1 s) 0) fun o_1 => match o_1 with
        | (.inl _) =>
          finM m0.h.length (tupA [(.i .u8 x12), (.i .i64 0)]) m_1
        | (.inr (x4, x5)) =>
          finM m0.h.length (tupA [(.i .u8 x4), (.i .i64 x5)]) m_1)))

theorem g45_ok {ro : List ABlk} {O : Caller} {M : Means} (hM : M.Ok ⟨F, O⟩ ro) {x0 s1 h r} (ho : O 45 [(.i .i64 x0), (.s s1)] h = none) (hr : g45 M ro x0 s1 ⟨h, h.length, h.length⟩ = some r) : callX ⟨F, O⟩ ro 45 [(.i .i64 x0), (.s s1)] h = some r := by
  refine callX_of (F := ⟨F, O⟩) (fn := fn45) (g := g45 M ro x0 s1) ho rfl rfl hr ?_
  clear ho
  clear hr
  intro m0 t0 ht hr
  have g0 : t0.get 0 = (.i .i64 x0) := ht 0
  have g1 : t0.get 1 = (.s s1) := ht 1
  clear ht
  unfold g45 at hr
  refine w_seq ?_
  refine w_ops ?_
  refine wo_step (v := (.i .u8 0)) (s_pure (p_mv rfl)) ?_
  refine wo_step (v := (.i .i64 0)) (s_pure (p_mv rfl)) ?_
  refine wo_nil ?_
  refine nx_norm ?_
  refine w_seq ?_
  refine w_ops ?_
  refine wo_step (v := (.i .i64 x0)) (s_pure (p_mv g0)) ?_
  have hq := bindP_inv hr
  clear hr
  obtain ⟨v11, m_1, e11, hr⟩ := hq
  refine wo_step (v := v11) (s_call (mc rfl mn) (callM_le hM.call e11)) ?_
  refine wo_step (v := v11) (s_pure (p_mv rfl)) ?_
  have hq := bindO_inv hr
  clear hr
  obtain ⟨v12, e12, hr⟩ := hq
  have hq := asI_inv hr
  clear hr
  obtain ⟨x12, rfl, hr⟩ := hq
  refine wo_step (v := (.i .u8 x12)) (s_pure (o_ext rfl e12)) ?_
  have hq := bindO_inv hr
  clear hr
  obtain ⟨v13, e13, hr⟩ := hq
  have hq := asI_inv hr
  clear hr
  obtain ⟨x13, rfl, hr⟩ := hq
  refine wo_step (v := (.i .i64 x13)) (s_pure (o_ext rfl e13)) ?_
  refine wo_step (v := (.i .u8 x12)) (s_pure (p_mv rfl)) ?_
  refine wo_step (v := (.i .i64 x13)) (s_pure (p_mv rfl)) ?_
  refine wo_nil ?_
  refine nx_norm ?_
  refine w_seq ?_
  refine w_seq ?_
  refine w_ops ?_
  refine wo_step (v := (.i .i64 x13)) (s_pure (p_mv rfl)) ?_
  have hq := forceB_inv hr
  clear hr
  obtain ⟨c15, e15, hr⟩ := hq
  refine wo_step (v := (.b c15)) (s_pure (p_bin rfl rfl (b_neq.trans (cb e15)))) ?_
  refine wo_nil ?_
  refine nx_norm ?_
  have hq := cond_inv hr
  clear hr
  rcases hq with ⟨rfl, hr⟩ | ⟨rfl, hr⟩
  · refine w_condT rfl ?_
    refine w_seq ?_
    refine w_ops ?_
    refine wo_step (v := (.i .i64 x13)) (s_pure (p_mv rfl)) ?_
    refine wo_step (v := (.i .u8 0)) (s_pure (p_mv rfl)) ?_
    refine wo_step (v := (.i .i64 x13)) (s_pure (p_mv rfl)) ?_
    refine wo_nil ?_
    refine nx_norm ?_
    refine w_ret ?_
    refine nx_ret ?_
    exact qf ret_ok (rt rfl (rt rfl rn)) hr
  · refine w_condF rfl ?_
    refine w_skip ?_
    refine nx_norm ?_
    refine w_seq ?_
    refine w_seq ?_
    refine w_ops ?_
    refine wo_step (v := (.s s1)) (s_pure (p_mv g1)) ?_
    have hq := bindO_inv hr
    clear hr
    obtain ⟨v18, e18, hr⟩ := hq
    have hq := asI_inv hr
    clear hr
    obtain ⟨x18, rfl, hr⟩ := hq
    refine wo_step (v := (.i .i64 x18)) (s_pure (o_len rfl e18)) ?_
    have hq := forceB_inv hr
    clear hr
    obtain ⟨c19, e19, hr⟩ := hq
    refine wo_step (v := (.b c19)) (s_pure (p_bin rfl rfl (b_gtr.trans (cb e19)))) ?_
    refine wo_nil ?_
    refine nx_norm ?_
    have hq := cond_inv hr
    clear hr
    rcases hq with ⟨rfl, hr⟩ | ⟨rfl, hr⟩
    · refine w_condT rfl ?_
      refine w_seq ?_
      refine w_ops ?_
      refine wo_step (v := (.i .u8 0)) (s_pure (p_mv rfl)) ?_
      refine wo_step (v := (.i .i64 3)) (s_pure (p_mv rfl)) ?_
      refine wo_nil ?_
      refine nx_norm ?_
      refine w_ret ?_
      refine nx_ret ?_
      exact qf ret_ok (rt rfl (rt rfl rn)) hr
    · refine w_condF rfl ?_
      refine w_skip ?_
      refine nx_norm ?_
      refine w_seq ?_
      refine w_seq ?_
      refine w_ops ?_
      refine wo_step (v := (.s s1)) (s_pure (p_mv g1)) ?_
      have hq := bindO_inv hr
      clear hr
      obtain ⟨v21, e21, hr⟩ := hq
      have hq := asB_inv hr
      clear hr
      obtain ⟨c21, rfl, hr⟩ := hq
      refine wo_step (v := (.b c21)) (s_pure (o_sbin rfl rfl e21)) ?_
      refine wo_nil ?_
      refine nx_norm ?_
      have hq := cond_inv hr
      clear hr
      rcases hq with ⟨rfl, hr⟩ | ⟨rfl, hr⟩
      · refine w_condT rfl ?_
        refine w_seq ?_
        refine w_ops ?_
        refine wo_step (v := (.i .u8 0)) (s_pure (p_mv rfl)) ?_
        refine wo_step (v := (.i .i64 5)) (s_pure (p_mv rfl)) ?_
        refine wo_nil ?_
        refine nx_norm ?_
        refine w_ret ?_
        refine nx_ret ?_
        exact qf ret_ok (rt rfl (rt rfl rn)) hr
      · refine w_condF rfl ?_
        refine w_skip ?_
        refine nx_norm ?_
        refine w_seq ?_
        refine w_seq ?_
        refine w_ops ?_
        refine wo_step (v := (.s s1)) (s_pure (p_mv g1)) ?_
        have hq := bindO_inv hr
        clear hr
        obtain ⟨v23, e23, hr⟩ := hq
        have hq := asI_inv hr
        clear hr
        obtain ⟨x23, rfl, hr⟩ := hq
        refine wo_step (v := (.i .i64 x23)) (s_pure (o_len rfl e23)) ?_
        refine wo_step (v := (.i .i64 0)) (s_pure (p_mv rfl)) ?_
        refine wo_nil ?_
        refine nx_norm ?_
        refine w_block ?_
        have hq := bindO_inv hr
        clear hr
        obtain ⟨o_1, hl, hr⟩ := hq
        obtain ⟨n, hl⟩ := hM.loop _ _ _ hl
        refine jp_mono (w_loop _ (g45_I0 s1 x12 x23 m_1) (g45_J0 s1 x12 x23 m_1) ?_ n _ _ _ _ hl ⟨rfl, gl rfl, gl g1, gl rfl, gl rfl⟩) ?_
        · clear hr hl
          intro s mm_3 t_1 o hi hr
          obtain ⟨x24, hs⟩ : ∃ z, z = s := ⟨_, rfl⟩
          subst hs
          obtain ⟨rfl, g24, g1, g6, g23⟩ := hi
          unfold g45_b0 at hr
          refine w_seq ?_
          refine w_ops ?_
          have hq := forceB_inv hr
          clear hr
          obtain ⟨c25, e25, hr⟩ := hq
          refine wo_step (v := (.b c25)) (s_pure (p_bin g24 g23 (b_lss.trans (cb e25)))) ?_
          refine wo_nil ?_
          refine nx_norm ?_
          refine w_seq ?_
          have hq := cond_inv hr
          clear hr
          rcases hq with ⟨rfl, hr⟩ | ⟨rfl, hr⟩
          · refine w_condT rfl ?_
            refine w_skip ?_
            refine nx_norm ?_
            refine w_seq ?_
            refine w_block ?_
            refine w_seq ?_
            refine w_ops ?_
            refine wo_step (v := (.i .i64 x24)) (s_pure (p_mv g24)) ?_
            refine wo_step (v := (.i .i64 x24)) (s_pure (p_mv rfl)) ?_
            refine wo_nil ?_
            refine nx_norm ?_
            refine w_seq ?_
            refine w_ops ?_
            refine wo_step (v := (.s s1)) (s_pure (p_mv g1)) ?_
            refine wo_step (v := (.i .i64 x24)) (s_pure (p_mv rfl)) ?_
            have hq := bindO_inv hr
            clear hr
            obtain ⟨v29, e29, hr⟩ := hq
            have hq := asI_inv hr
            clear hr
            obtain ⟨x29, rfl, hr⟩ := hq
            refine wo_step (v := (.i .u8 x29)) (s_pure (o_ixStr rfl rfl e29)) ?_
            have hq := forceB_inv hr
            clear hr
            obtain ⟨c30, e30, hr⟩ := hq
            refine wo_step (v := (.b c30)) (s_pure (p_bin rfl rfl (b_neq.trans (cb e30)))) ?_
            refine wo_step (v := (.b c30)) (s_pure (p_mv rfl)) ?_
            have hq := bindO_inv hr
            clear hr
            obtain ⟨o, hr, hk⟩ := hq
            refine wo_join 5 (g45_J1 s1 x12 x23 x24 m_1 o) ?_ ?_
            · clear hk
              have hq := cond_inv hr
              clear hr
              rcases hq with ⟨rfl, hr⟩ | ⟨rfl, hr⟩
              · refine wo_take (v := (.s s1)) rfl (s_pure (p_mv g1)) ?_
                refine wo_take (v := (.i .i64 x24)) rfl (s_pure (p_mv rfl)) ?_
                have hq := bindO_inv hr
                clear hr
                obtain ⟨v34, e34, hr⟩ := hq
                have hq := asI_inv hr
                clear hr
                obtain ⟨x34, rfl, hr⟩ := hq
                refine wo_take (v := (.i .u8 x34)) rfl (s_pure (o_ixStr rfl rfl e34)) ?_
                have hq := forceB_inv hr
                clear hr
                obtain ⟨c35, e35, hr⟩ := hq
                refine wo_take (v := (.b c35)) rfl (s_pure (p_bin rfl rfl (b_neq.trans (cb e35)))) ?_
                refine wo_step (v := (.b c35)) (s_pure (p_pickT rfl rfl)) ?_
                refine wo_nil ?_
                cases hr
                exact ⟨_, _, rfl, rfl, gl rfl, gl g1, gl g6, gl g23, gl g24⟩
              · refine wo_skip (v := (.b false)) rfl rfl ?_
                refine wo_skip (v := (.b false)) rfl rfl ?_
                refine wo_skip (v := (.b false)) rfl rfl ?_
                refine wo_skip (v := (.b false)) rfl rfl ?_
                refine wo_step (v := (.b false)) (s_pure (p_pickF rfl rfl)) ?_
                refine wo_nil ?_
                cases hr
                exact ⟨_, _, rfl, rfl, gl rfl, gl g1, gl g6, gl g23, gl g24⟩
            · clear hr
              have hr := hk
              clear hk
              obtain ⟨c36, ho⟩ : ∃ z, z = o := ⟨_, rfl⟩
              subst ho
              rintro mm t_2 ⟨rfl, g36, g1, g6, g23, g24⟩
              refine wo_nil ?_
              refine nx_norm ?_
              have hq := cond_inv hr
              clear hr
              rcases hq with ⟨rfl, hr⟩ | ⟨rfl, hr⟩
              · refine w_condT g36 ?_
                refine w_seq ?_
                refine w_ops ?_
                refine wo_step (v := (.i .u8 0)) (s_pure (p_mv rfl)) ?_
                refine wo_step (v := (.i .i64 5)) (s_pure (p_mv rfl)) ?_
                refine wo_nil ?_
                refine nx_norm ?_
                refine w_ret ?_
                refine bk_ret ?_
                refine nx_ret ?_
                cases hr
                exact ⟨_, _, rfl, ne_norm_ret, rfl, rfl, gl rfl, gl rfl⟩
              · refine w_condF g36 ?_
                refine w_skip ?_
                refine bk_norm ?_
                refine nx_norm ?_
                refine w_ops ?_
                have hq := forceI_inv hr
                clear hr
                obtain ⟨x37, e37, hr⟩ := hq
                refine wo_step (v := (.i .i64 x37)) (s_pure (p_bin g24 rfl (b_add.trans (ci e37)))) ?_
                refine wo_step (v := (.i .i64 x37)) (s_pure (p_mv rfl)) ?_
                refine wo_nil ?_
                cases hr
                exact ⟨_, _, rfl, rfl, rfl, gl rfl, gl g1, gl g6, gl g23⟩
          · refine w_condF rfl ?_
            refine w_exit ?_
            refine nx_exit ?_
            cases hr
            exact ⟨_, _, rfl, ne_norm_exit, rfl, rfl, gl g6⟩
        · rcases o_1 with o_1 | o_1
          · rintro _ mm_1 t_3 ⟨rfl, rfl, g6⟩
            refine bk_hit ?_
            refine nx_norm ?_
            refine w_seq ?_
            refine w_ops ?_
            refine wo_step (v := (.i .u8 x12)) (s_pure (p_mv g6)) ?_
            refine wo_step (v := (.i .u8 x12)) (s_pure (p_mv rfl)) ?_
            refine wo_step (v := (.i .i64 0)) (s_pure (p_mv rfl)) ?_
            refine wo_nil ?_
            refine nx_norm ?_
            refine w_ret ?_
            exact qf ret_ok (rt rfl (rt rfl rn)) hr
          · obtain ⟨x4, x5⟩ := o_1
            rintro _ mm_2 t_4 ⟨rfl, rfl, g4, g5⟩
            refine bk_ret ?_
            refine nx_ret ?_
            exact qf ret_ok (rt g4 (rt g5 rn)) hr

/- (dibber/weed.rule).grow -/
abbrev g46_I0 (x0 : Int) (s1 : List UInt8) (v10 : AVal) (x12 : Int) (s : Int × Mm) (m1 : Mm) (t1 : Tr) : Prop :=
  match s with
  | (x13, m_2) => m_2 = m1 ∧ t1.get 13 = (.i .i64 x13) ∧ t1.get 0 = (.i .u8 x0) ∧ t1.get 1 = (.s s1) ∧ t1.get 5 = v10 ∧ t1.get 12 = (.i .i64 x12)
abbrev g46_J0 (x0 : Int) (s1 : List UInt8) (v10 : AVal) (x12 : Int) (o : Mm) (e : AExit) (m1 : Mm) (t1 : Tr) : Prop :=
  match o with
  | mo => e = (.exit 0) ∧ mo = m1 ∧ t1.get 5 = v10
def g46_b0 (M : Means) (ro : List ABlk) (x0 : Int) (s1 : List UInt8) (v10 : AVal) (x12 : Int) (x13 : Int) (m_2 : Mm) : Option ((Int × Mm) ⊕ (Mm)) :=
  forceB (ltI x13 x12) fun c14 =>
  cond c14 (
    bindO (evP .e (.ixStr (.c (.s s1)) (.c (.i .i64 x13)))) fun v21 =>
    asI .u8 v21 fun x21 =>
    forceI (wr .i64 (x13 + 1)) fun x26 =>
    bindO (evP .e (.ixStr (.c (.s s1)) (.c (.i .i64 x26)))) fun v27 =>
    asI .u8 v27 fun x27 =>
    forceI (wr .i64 (x13 + 2)) fun x33 =>
    bindO (evP .e (.ixStr (.c (.s s1)) (.c (.i .i64 x33)))) fun v34 =>
    asI .u8 v34 fun x34 =>
    bindP (callM M.call m_2 73 [(.i .u8 x21)]) fun v22 m_3 =>
    asI .i64 v22 fun x22 =>
    forceI (wr .i64 (4 * x22)) fun x23 =>
    bindP (callM M.call m_3 73 [(.i .u8 x27)]) fun v28 m_4 =>
    asI .i64 v28 fun x28 =>
    forceI (wr .i64 (2 * x28)) fun x29 =>
    forceI (wr .i64 (x23 + x29)) fun x30 =>
    bindP (callM M.call m_4 73 [(.i .u8 x34)]) fun v35 m_5 =>
    asI .i64 v35 fun x35 =>
    forceI (wr .i64 (x30 + x35)) fun x36 =>
    bindP (callM M.call m_5 72 [(.i .u8 x0), (.i .i64 x36)]) fun v37 m_6 =>
    asI .i64 v37 fun x37 =>
    bindP (callM M.call m_6 71 [(.i .i64 x37)]) fun v38 m_7 =>
    asI .u8 v38 fun x38 =>
    bindO (evP .e (.ixS 1 (.c v10) (.c (.i .i64 x13)))) fun v39 =>
    bindP (stepM ro m_7 (.st 1 (.c v39) (.c (.i .u8 x38)))) fun vn m_8 =>
    forceI (wr .i64 (x13 + 1)) fun x40 =>
    some (.inl (x40, m_8))) (
    some (.inr m_2))
def g46 (M : Means) (ro : List ABlk) (x0 : Int) (s1 : List UInt8) (m0 : Mm) : Option (AVal × Heap × Nat × Nat) :=
  bindO (evP .e (.len true (.c (.s s1)))) fun v8 =>
  asI .i64 v8 fun x8 =>
  forceI (wr .i64 (x8 - 2)) fun x9 =>
  bindP (stepM ro m0 (.mk 5 1 1 [(AVal.i IntKind.u8 0)] (.c (.i .i64 x9)) (.c (.i .i64 x9)))) fun v10 m_1 =>
  bindO (evP .e (.len false (.c v10))) fun v12 =>
  asI .i64 v12 fun x12 =>
  bindO (M.loop (S := Int × Mm) (R := Mm) (fun s => g46_b0 M ro x0 s1 v10 x12 s.1 s.2) (0, m_1)) fun m_9 =>
  bindO (btsM ro m_9 v10) fun v42 =>
  asS v42 fun s42 =>
  finM m0.h.length (tupA [(.s s42)]) m_9

theorem g46_ok {ro : List ABlk} {O : Caller} {M : Means} (hM : M.Ok ⟨F, O⟩ ro) {x0 s1 h r} (ho : O 46 [(.i .u8 x0), (.s s1)] h = none) (hr : g46 M ro x0 s1 ⟨h, h.length, h.length⟩ = some r) : callX ⟨F, O⟩ ro 46 [(.i .u8 x0), (.s s1)] h = some r := by
  refine callX_of (F := ⟨F, O⟩) (fn := fn46) (g := g46 M ro x0 s1) ho rfl rfl hr ?_
  clear ho
  clear hr
  intro m0 t0 ht hr
  have g0 : t0.get 0 = (.i .u8 x0) := ht 0
  have g1 : t0.get 1 = (.s s1) := ht 1
  clear ht
  unfold g46 at hr
  refine w_seq ?_
  refine w_ops ?_
  refine wo_step (v := (AVal.s [])) (s_pure (p_mv rfl)) ?_
  refine wo_nil ?_
  refine nx_norm ?_
  refine w_seq ?_
  refine w_ops ?_
  refine wo_step (v := (.s s1)) (s_pure (p_mv g1)) ?_
  have hq := bindO_inv hr
  clear hr
  obtain ⟨v8, e8, hr⟩ := hq
  have hq := asI_inv hr
  clear hr
  obtain ⟨x8, rfl, hr⟩ := hq
  refine wo_step (v := (.i .i64 x8)) (s_pure (o_len rfl e8)) ?_
  have hq := forceI_inv hr
  clear hr
  obtain ⟨x9, e9, hr⟩ := hq
  refine wo_step (v := (.i .i64 x9)) (s_pure (p_bin rfl rfl (b_sub.trans (ci e9)))) ?_
  have hq := bindP_inv hr
  clear hr
  obtain ⟨v10, m_1, e10, hr⟩ := hq
  refine wo_step (v := v10) (s_mk rfl rfl e10) ?_
  refine wo_step (v := v10) (s_pure (p_mv rfl)) ?_
  refine wo_nil ?_
  refine nx_norm ?_
  refine w_seq ?_
  refine w_seq ?_
  refine w_ops ?_
  refine wo_step (v := v10) (s_pure (p_mv rfl)) ?_
  have hq := bindO_inv hr
  clear hr
  obtain ⟨v12, e12, hr⟩ := hq
  have hq := asI_inv hr
  clear hr
  obtain ⟨x12, rfl, hr⟩ := hq
  refine wo_step (v := (.i .i64 x12)) (s_pure (o_len rfl e12)) ?_
  refine wo_step (v := (.i .i64 0)) (s_pure (p_mv rfl)) ?_
  refine wo_nil ?_
  refine nx_norm ?_
  refine w_block ?_
  have hq := bindO_inv hr
  clear hr
  obtain ⟨o, hl, hr⟩ := hq
  obtain ⟨n, hl⟩ := hM.loop _ _ _ hl
  refine jp_mono (w_loop _ (g46_I0 x0 s1 v10 x12) (g46_J0 x0 s1 v10 x12) ?_ n _ _ _ _ hl ⟨rfl, gl rfl, gl g0, gl g1, gl rfl, gl rfl⟩) ?_
  · clear hr hl
    intro s mm_1 t_1 o hi hr
    obtain ⟨x13, m_2⟩ := s
    obtain ⟨rfl, g13, g0, g1, g5, g12⟩ := hi
    unfold g46_b0 at hr
    refine w_seq ?_
    refine w_ops ?_
    have hq := forceB_inv hr
    clear hr
    obtain ⟨c14, e14, hr⟩ := hq
    refine wo_step (v := (.b c14)) (s_pure (p_bin g13 g12 (b_lss.trans (cb e14)))) ?_
    refine wo_nil ?_
    refine nx_norm ?_
    refine w_seq ?_
    have hq := cond_inv hr
    clear hr
    rcases hq with ⟨rfl, hr⟩ | ⟨rfl, hr⟩
    · refine w_condT rfl ?_
      refine w_skip ?_
      refine nx_norm ?_
      refine w_seq ?_
      refine w_block ?_
      refine w_seq ?_
      refine w_ops ?_
      refine wo_step (v := (.i .i64 x13)) (s_pure (p_mv g13)) ?_
      refine wo_step (v := (.i .i64 x13)) (s_pure (p_mv rfl)) ?_
      refine wo_nil ?_
      refine nx_norm ?_
      refine w_ops ?_
      refine wo_step (v := v10) (s_pure (p_mv g5)) ?_
      refine wo_step (v := (.i .i64 x13)) (s_pure (p_mv rfl)) ?_
      refine wo_step (v := (.i .u8 x0)) (s_pure (p_mv g0)) ?_
      refine wo_step (v := (.s s1)) (s_pure (p_mv g1)) ?_
      refine wo_step (v := (.i .i64 x13)) (s_pure (p_mv rfl)) ?_
      have hq := bindO_inv hr
      clear hr
      obtain ⟨v21, e21, hr⟩ := hq
      have hq := asI_inv hr
      clear hr
      obtain ⟨x21, rfl, hr⟩ := hq
      refine wo_step (v := (.i .u8 x21)) (s_pure (o_ixStr rfl rfl e21)) ?_
      refine wo_step (v := (.s s1)) (s_pure (p_mv g1)) ?_
      refine wo_step (v := (.i .i64 x13)) (s_pure (p_mv rfl)) ?_
      have hq := forceI_inv hr
      clear hr
      obtain ⟨x26, e26, hr⟩ := hq
      refine wo_step (v := (.i .i64 x26)) (s_pure (p_bin rfl rfl (b_add.trans (ci e26)))) ?_
      have hq := bindO_inv hr
      clear hr
      obtain ⟨v27, e27, hr⟩ := hq
      have hq := asI_inv hr
      clear hr
      obtain ⟨x27, rfl, hr⟩ := hq
      refine wo_step (v := (.i .u8 x27)) (s_pure (o_ixStr rfl rfl e27)) ?_
      refine wo_step (v := (.s s1)) (s_pure (p_mv g1)) ?_
      refine wo_step (v := (.i .i64 x13)) (s_pure (p_mv rfl)) ?_
      have hq := forceI_inv hr
      clear hr
      obtain ⟨x33, e33, hr⟩ := hq
      refine wo_step (v := (.i .i64 x33)) (s_pure (p_bin rfl rfl (b_add.trans (ci e33)))) ?_
      have hq := bindO_inv hr
      clear hr
      obtain ⟨v34, e34, hr⟩ := hq
      have hq := asI_inv hr
      clear hr
      obtain ⟨x34, rfl, hr⟩ := hq
      refine wo_step (v := (.i .u8 x34)) (s_pure (o_ixStr rfl rfl e34)) ?_
      have hq := bindP_inv hr
      clear hr
      obtain ⟨v22, m_3, e22, hr⟩ := hq
      have hq := asI_inv hr
      clear hr
      obtain ⟨x22, rfl, hr⟩ := hq
      refine wo_step (v := (.i .i64 x22)) (s_call (mc rfl mn) (callM_le hM.call e22)) ?_
      have hq := forceI_inv hr
      clear hr
      obtain ⟨x23, e23, hr⟩ := hq
      refine wo_step (v := (.i .i64 x23)) (s_pure (p_bin rfl rfl (b_mul.trans (ci e23)))) ?_
      have hq := bindP_inv hr
      clear hr
      obtain ⟨v28, m_4, e28, hr⟩ := hq
      have hq := asI_inv hr
      clear hr
      obtain ⟨x28, rfl, hr⟩ := hq
      refine wo_step (v := (.i .i64 x28)) (s_call (mc rfl mn) (callM_le hM.call e28)) ?_
      have hq := forceI_inv hr
      clear hr
      obtain ⟨x29, e29, hr⟩ := hq
      refine wo_step (v := (.i .i64 x29)) (s_pure (p_bin rfl rfl (b_mul.trans (ci e29)))) ?_
      have hq := forceI_inv hr
      clear hr
      obtain ⟨x30, e30, hr⟩ := hq
      refine wo_step (v := (.i .i64 x30)) (s_pure (p_bin rfl rfl (b_add.trans (ci e30)))) ?_
      have hq := bindP_inv hr
      clear hr
      obtain ⟨v35, m_5, e35, hr⟩ := hq
      have hq := asI_inv hr
      clear hr
      obtain ⟨x35, rfl, hr⟩ := hq
      refine wo_step (v := (.i .i64 x35)) (s_call (mc rfl mn) (callM_le hM.call e35)) ?_
      have hq := forceI_inv hr
      clear hr
      obtain ⟨x36, e36, hr⟩ := hq
      refine wo_step (v := (.i .i64 x36)) (s_pure (p_bin rfl rfl (b_add.trans (ci e36)))) ?_
      have hq := bindP_inv hr
      clear hr
      obtain ⟨v37, m_6, e37, hr⟩ := hq
      have hq := asI_inv hr
      clear hr
      obtain ⟨x37, rfl, hr⟩ := hq
      refine wo_step (v := (.i .i64 x37)) (s_call (mc rfl (mc rfl mn)) (callM_le hM.call e37)) ?_
      have hq := bindP_inv hr
      clear hr
      obtain ⟨v38, m_7, e38, hr⟩ := hq
      have hq := asI_inv hr
      clear hr
      obtain ⟨x38, rfl, hr⟩ := hq
      refine wo_step (v := (.i .u8 x38)) (s_call (mc rfl mn) (callM_le hM.call e38)) ?_
      have hq := bindO_inv hr
      clear hr
      obtain ⟨v39, e39, hr⟩ := hq
      refine wo_step (v := v39) (s_pure (o_ixS rfl rfl e39)) ?_
      have hq := bindP_inv hr
      clear hr
      obtain ⟨vn, m_8, en, hr⟩ := hq
      refine wo_stepN (s_st rfl rfl en) ?_
      refine wo_nil ?_
      refine bk_norm ?_
      refine nx_norm ?_
      refine w_ops ?_
      have hq := forceI_inv hr
      clear hr
      obtain ⟨x40, e40, hr⟩ := hq
      refine wo_step (v := (.i .i64 x40)) (s_pure (p_bin g13 rfl (b_add.trans (ci e40)))) ?_
      refine wo_step (v := (.i .i64 x40)) (s_pure (p_mv rfl)) ?_
      refine wo_nil ?_
      cases hr
      exact ⟨_, _, rfl, rfl, rfl, gl rfl, gl g0, gl g1, gl g5, gl g12⟩
    · refine w_condF rfl ?_
      refine w_exit ?_
      refine nx_exit ?_
      cases hr
      exact ⟨_, _, rfl, ne_norm_exit, rfl, rfl, gl g5⟩
  · obtain ⟨m_9, ho⟩ : ∃ z, z = o := ⟨_, rfl⟩
    subst ho
    rintro _ mm t_2 ⟨rfl, rfl, g5⟩
    refine bk_hit ?_
    refine nx_norm ?_
    refine w_seq ?_
    refine w_ops ?_
    refine wo_step (v := v10) (s_pure (p_mv g5)) ?_
    have hq := bindO_inv hr
    clear hr
    obtain ⟨v42, e42, hr⟩ := hq
    have hq := asS_inv hr
    clear hr
    obtain ⟨s42, rfl, hr⟩ := hq
    refine wo_step (v := (.s s42)) (s_bts rfl e42) ?_
    refine wo_step (v := (.s s42)) (s_pure (p_mv rfl)) ?_
    refine wo_nil ?_
    refine nx_norm ?_
    refine w_ret ?_
    exact qf ret_ok (rt rfl rn) hr

/- dibber/dibberref02.asked -/

def g47 (M : Means) (ro : List ABlk) (x0 : Int) (s1 : List UInt8) (x2 : Int) (m0 : Mm) : Option (AVal × Heap × Nat × Nat) :=
  bindP (callM M.call m0 54 [(.i .i64 x0)]) fun v8 m_1 =>
  asB v8 fun c8 =>
  forceB (!c8) fun c9 =>
  cond c9 (
    finM m0.h.length (tupA [(.i .i64 2)]) m_1) (
    bindP (callM M.call m_1 43 [(.s s1), (.i .i64 x2)]) fun v12 m_2 =>
    asI .i64 v12 fun x12 =>
    finM m0.h.length (tupA [(.i .i64 x12)]) m_2)

theorem g47_ok {ro : List ABlk} {O : Caller} {M : Means} (hM : M.Ok ⟨F, O⟩ ro) {x0 s1 x2 h r} (ho : O 47 [(.i .i64 x0), (.s s1), (.i .i64 x2)] h = none) (hr : g47 M ro x0 s1 x2 ⟨h, h.length, h.length⟩ = some r) : callX ⟨F, O⟩ ro 47 [(.i .i64 x0), (.s s1), (.i .i64 x2)] h = some r := by
  refine callX_of (F := ⟨F, O⟩) (fn := fn47) (g := g47 M ro x0 s1 x2) ho rfl rfl hr ?_
  clear ho
  clear hr
  intro m0 t0 ht hr
  have g0 : t0.get 0 = (.i .i64 x0) := ht 0
  have g1 : t0.get 1 = (.s s1) := ht 1
  have g2 : t0.get 2 = (.i .i64 x2) := ht 2
  clear ht
  unfold g47 at hr
  refine w_seq ?_
  refine w_ops ?_
  refine wo_step (v := (.i .i64 0)) (s_pure (p_mv rfl)) ?_
  refine wo_nil ?_
  refine nx_norm ?_
  refine w_seq ?_
  refine w_seq ?_
  refine w_ops ?_
  refine wo_step (v := (.i .i64 x0)) (s_pure (p_mv g0)) ?_
  have hq := bindP_inv hr
  clear hr
  obtain ⟨v8, m_1, e8, hr⟩ := hq
  have hq := asB_inv hr
  clear hr
  obtain ⟨c8, rfl, hr⟩ := hq
  refine wo_step (v := (.b c8)) (s_call (mc rfl mn) (callM_le hM.call e8)) ?_
  have hq := forceB_inv hr
  clear hr
  obtain ⟨c9, e9, hr⟩ := hq
  refine wo_step (v := (.b c9)) (s_pure ((p_not rfl).trans (cb e9))) ?_
  refine wo_nil ?_
  refine nx_norm ?_
  have hq := cond_inv hr
  clear hr
  rcases hq with ⟨rfl, hr⟩ | ⟨rfl, hr⟩
  · refine w_condT rfl ?_
    refine w_seq ?_
    refine w_ops ?_
    refine wo_step (v := (.i .i64 2)) (s_pure (p_mv rfl)) ?_
    refine wo_nil ?_
    refine nx_norm ?_
    refine w_ret ?_
    refine nx_ret ?_
    exact qf ret_ok (rt rfl rn) hr
  · refine w_condF rfl ?_
    refine w_skip ?_
    refine nx_norm ?_
    refine w_seq ?_
    refine w_ops ?_
    refine wo_step (v := (.s s1)) (s_pure (p_mv g1)) ?_
    refine wo_step (v := (.i .i64 x2)) (s_pure (p_mv g2)) ?_
    have hq := bindP_inv hr
    clear hr
    obtain ⟨v12, m_2, e12, hr⟩ := hq
    have hq := asI_inv hr
    clear hr
    obtain ⟨x12, rfl, hr⟩ := hq
    refine wo_step (v := (.i .i64 x12)) (s_call (mc rfl (mc rfl mn)) (callM_le hM.call e12)) ?_
    refine wo_step (v := (.i .i64 x12)) (s_pure (p_mv rfl)) ?_
    refine wo_nil ?_
    refine nx_norm ?_
    refine w_ret ?_
    exact qf ret_ok (rt rfl rn) hr

/- dibber/dibberref02.plots -/
abbrev g48_I0 (s0 : List UInt8) (s : AVal × Int × Mm) (m1 : Mm) (t1 : Tr) : Prop :=
  match s with
  | (v3, x4, m_1) => m_1 = m1 ∧ t1.get 3 = v3 ∧ t1.get 4 = (.i .i64 x4) ∧ t1.get 0 = (.s s0)
abbrev g48_J0 (s0 : List UInt8) (o : (AVal × Mm)) (e : AExit) (m1 : Mm) (t1 : Tr) : Prop :=
  match o with
  | (y3, mo) => e = (.exit 0) ∧ mo = m1 ∧ t1.get 3 = y3
def g48_b0 (M : Means) (ro : List ABlk) (s0 : List UInt8) (v3 : AVal) (x4 : Int) (m_1 : Mm) : Option ((AVal × Int × Mm) ⊕ ((AVal × Mm))) :=
  bindO (evP .e (.len true (.c (.s s0)))) fun v7 =>
  asI .i64 v7 fun x7 =>
  forceB (ltI x4 x7) fun c8 =>
  cond c8 (
    bindO (evP .e (.ixStr (.c (.s s0)) (.c (.i .i64 x4)))) fun v14 =>
    asI .u8 v14 fun x14 =>
    forceI (wr .u8 (x14 - 48)) fun x15 =>
    forceI (wr .i64 x15) fun x16 =>
    bindP (stepM ro m_1 (.bsl 3 1 [(AVal.i IntKind.i64 0)] 1 [((0, 1), .c (.i .i64 x16))])) fun v17 m_2 =>
    bindP (stepM ro m_2 (.app 3 1 8 [(AVal.i IntKind.i64 0)] (.c v3) (.c v17))) fun v18 m_3 =>
    forceI (wr .i64 (x4 + 1)) fun x10 =>
    some (.inl (v18, x10, m_3))) (
    some (.inr (v3, m_1)))
def g48 (M : Means) (ro : List ABlk) (s0 : List UInt8) (m0 : Mm) : Option (AVal × Heap × Nat × Nat) :=
  bindO (M.loop (S := AVal × Int × Mm) (R := (AVal × Mm)) (fun s => g48_b0 M ro s0 s.1 s.2.1 s.2.2) (AVal.nsl, 0, m0)) fun ⟨v3_1, m_4⟩ =>
  finM m0.h.length (tupA [v3_1]) m_4

theorem g48_ok {ro : List ABlk} {O : Caller} {M : Means} (hM : M.Ok ⟨F, O⟩ ro) {s0 h r} (ho : O 48 [(.s s0)] h = none) (hr : g48 M ro s0 ⟨h, h.length, h.length⟩ = some r) : callX ⟨F, O⟩ ro 48 [(.s s0)] h = some r := by
  refine callX_of (F := ⟨F, O⟩) (fn := fn48) (g := g48 M ro s0) ho rfl rfl hr ?_
  clear ho
  clear hr
  intro m0 t0 ht hr
  have g0 : t0.get 0 = (.s s0) := ht 0
  clear ht
  unfold g48 at hr
  refine w_seq ?_
  refine w_ops ?_
  refine wo_step (v := AVal.nsl) (s_pure (p_mv rfl)) ?_
  refine wo_nil ?_
  refine nx_norm ?_
  refine w_seq ?_
  refine w_ops ?_
  refine wo_step (v := AVal.nsl) (s_pure (p_mv rfl)) ?_
  refine wo_nil ?_
  refine nx_norm ?_
  refine w_seq ?_
  refine w_seq ?_
  refine w_ops ?_
  refine wo_step (v := (.i .i64 0)) (s_pure (p_mv rfl)) ?_
  refine wo_nil ?_
  refine nx_norm ?_
  refine w_block ?_
  have hq := bindO_inv hr
  clear hr
  obtain ⟨o, hl, hr⟩ := hq
  obtain ⟨n, hl⟩ := hM.loop _ _ _ hl
  refine jp_mono (w_loop _ (g48_I0 s0) (g48_J0 s0) ?_ n _ _ _ _ hl ⟨rfl, gl rfl, gl rfl, gl g0⟩) ?_
  · clear hr hl
    intro s mm_1 t_1 o hi hr
    obtain ⟨v3, x4, m_1⟩ := s
    obtain ⟨rfl, g3, g4, g0⟩ := hi
    unfold g48_b0 at hr
    refine w_seq ?_
    refine w_seq ?_
    refine w_ops ?_
    refine wo_step (v := (.i .i64 x4)) (s_pure (p_mv g4)) ?_
    refine wo_step (v := (.s s0)) (s_pure (p_mv g0)) ?_
    have hq := bindO_inv hr
    clear hr
    obtain ⟨v7, e7, hr⟩ := hq
    have hq := asI_inv hr
    clear hr
    obtain ⟨x7, rfl, hr⟩ := hq
    refine wo_step (v := (.i .i64 x7)) (s_pure (o_len rfl e7)) ?_
    have hq := forceB_inv hr
    clear hr
    obtain ⟨c8, e8, hr⟩ := hq
    refine wo_step (v := (.b c8)) (s_pure (p_bin rfl rfl (b_lss.trans (cb e8)))) ?_
    refine wo_nil ?_
    refine nx_norm ?_
    have hq := cond_inv hr
    clear hr
    rcases hq with ⟨rfl, hr⟩ | ⟨rfl, hr⟩
    · refine w_condT rfl ?_
      refine w_skip ?_
      refine nx_norm ?_
      refine w_seq ?_
      refine w_block ?_
      refine w_ops ?_
      refine wo_step (v := v3) (s_pure (p_mv g3)) ?_
      refine wo_step (v := (.s s0)) (s_pure (p_mv g0)) ?_
      refine wo_step (v := (.i .i64 x4)) (s_pure (p_mv g4)) ?_
      have hq := bindO_inv hr
      clear hr
      obtain ⟨v14, e14, hr⟩ := hq
      have hq := asI_inv hr
      clear hr
      obtain ⟨x14, rfl, hr⟩ := hq
      refine wo_step (v := (.i .u8 x14)) (s_pure (o_ixStr rfl rfl e14)) ?_
      have hq := forceI_inv hr
      clear hr
      obtain ⟨x15, e15, hr⟩ := hq
      refine wo_step (v := (.i .u8 x15)) (s_pure (p_bin rfl rfl (b_sub.trans (ci e15)))) ?_
      have hq := forceI_inv hr
      clear hr
      obtain ⟨x16, e16, hr⟩ := hq
      refine wo_step (v := (.i .i64 x16)) (s_pure ((p_conv rfl).trans (ci e16))) ?_
      have hq := bindP_inv hr
      clear hr
      obtain ⟨v17, m_2, e17, hr⟩ := hq
      refine wo_step (v := v17) (s_bsl (qc rfl qn) e17) ?_
      have hq := bindP_inv hr
      clear hr
      obtain ⟨v18, m_3, e18, hr⟩ := hq
      refine wo_step (v := v18) (s_app rfl rfl e18) ?_
      refine wo_step (v := v18) (s_pure (p_mv rfl)) ?_
      refine wo_nil ?_
      refine bk_norm ?_
      refine nx_norm ?_
      refine w_ops ?_
      refine wo_step (v := (.i .i64 x4)) (s_pure (p_mv g4)) ?_
      have hq := forceI_inv hr
      clear hr
      obtain ⟨x10, e10, hr⟩ := hq
      refine wo_step (v := (.i .i64 x10)) (s_pure (p_bin rfl rfl (b_add.trans (ci e10)))) ?_
      refine wo_step (v := (.i .i64 x10)) (s_pure (p_mv rfl)) ?_
      refine wo_nil ?_
      cases hr
      exact ⟨_, _, rfl, rfl, rfl, gl rfl, gl rfl, gl g0⟩
    · refine w_condF rfl ?_
      refine w_exit ?_
      refine nx_exit ?_
      cases hr
      exact ⟨_, _, rfl, ne_norm_exit, rfl, rfl, gl g3⟩
  · obtain ⟨v3_1, m_4⟩ := o
    rintro _ mm t_2 ⟨rfl, rfl, g3⟩
    refine bk_hit ?_
    refine nx_norm ?_
    refine w_seq ?_
    refine w_ops ?_
    refine wo_step (v := v3_1) (s_pure (p_mv g3)) ?_
    refine wo_step (v := v3_1) (s_pure (p_mv rfl)) ?_
    refine wo_nil ?_
    refine nx_norm ?_
    refine w_ret ?_
    exact qf ret_ok (rt rfl rn) hr

/- dibber/dibberref02.becomes -/

def g49 (M : Means) (ro : List ABlk) (x0 : Int) (x1 : Int) (x2 : Int) (x3 : Int) (m0 : Mm) : Option (AVal × Heap × Nat × Nat) :=
  forceI (wr .i64 (4 * x1)) fun x11 =>
  forceI (wr .i64 (2 * x2)) fun x13 =>
  forceI (wr .i64 (x11 + x13)) fun x14 =>
  forceI (wr .i64 (x14 + x3)) fun x16 =>
  chk (!ltI x16 (.ofNat 0)) <|
  forceI (shrV .i64 x0 x16) fun x17 =>
  forceI (Int.tmod x17 2) fun x18 =>
  finM m0.h.length (tupA [(.i .i64 x18)]) m0

theorem g49_ok {ro : List ABlk} {O : Caller} {M : Means} (hM : M.Ok ⟨F, O⟩ ro) {x0 x1 x2 x3 h r} (ho : O 49 [(.i .i64 x0), (.i .i64 x1), (.i .i64 x2), (.i .i64 x3)] h = none) (hr : g49 M ro x0 x1 x2 x3 ⟨h, h.length, h.length⟩ = some r) : callX ⟨F, O⟩ ro 49 [(.i .i64 x0), (.i .i64 x1), (.i .i64 x2), (.i .i64 x3)] h = some r := by
  refine callX_of (F := ⟨F, O⟩) (fn := fn49) (g := g49 M ro x0 x1 x2 x3) ho rfl rfl hr ?_
  clear ho
  clear hr
  intro m0 t0 ht hr
  have g0 : t0.get 0 = (.i .i64 x0) := ht 0
  have g1 : t0.get 1 = (.i .i64 x1) := ht 1
  have g2 : t0.get 2 = (.i .i64 x2) := ht 2
  have g3 : t0.get 3 = (.i .i64 x3) := ht 3
  clear ht
  unfold g49 at hr
  refine w_seq ?_
  refine w_ops ?_
  refine wo_step (v := (.i .i64 0)) (s_pure (p_mv rfl)) ?_
  refine wo_nil ?_
  refine nx_norm ?_
  refine w_seq ?_
  refine w_ops ?_
  refine wo_step (v := (.i .i64 x0)) (s_pure (p_mv g0)) ?_
  refine wo_step (v := (.i .i64 x1)) (s_pure (p_mv g1)) ?_
  have hq := forceI_inv hr
  clear hr
  obtain ⟨x11, e11, hr⟩ := hq
  refine wo_step (v := (.i .i64 x11)) (s_pure (p_bin rfl rfl (b_mul.trans (ci e11)))) ?_
  refine wo_step (v := (.i .i64 x2)) (s_pure (p_mv g2)) ?_
  have hq := forceI_inv hr
  clear hr
  obtain ⟨x13, e13, hr⟩ := hq
  refine wo_step (v := (.i .i64 x13)) (s_pure (p_bin rfl rfl (b_mul.trans (ci e13)))) ?_
  have hq := forceI_inv hr
  clear hr
  obtain ⟨x14, e14, hr⟩ := hq
  refine wo_step (v := (.i .i64 x14)) (s_pure (p_bin rfl rfl (b_add.trans (ci e14)))) ?_
  refine wo_step (v := (.i .i64 x3)) (s_pure (p_mv g3)) ?_
  have hq := forceI_inv hr
  clear hr
  obtain ⟨x16, e16, hr⟩ := hq
  refine wo_step (v := (.i .i64 x16)) (s_pure (p_bin rfl rfl (b_add.trans (ci e16)))) ?_
  have hq := chk_inv hr
  clear hr
  obtain ⟨hc17, hr⟩ := hq
  have hq := forceI_inv hr
  clear hr
  obtain ⟨x17, e17, hr⟩ := hq
  refine wo_step (v := (.i .i64 x17)) (s_pure (p_bin rfl rfl ((b_shr hc17).trans (ci e17)))) ?_
  have hq := forceI_inv hr
  clear hr
  obtain ⟨x18, e18, hr⟩ := hq
  refine wo_step (v := (.i .i64 x18)) (s_pure (p_bin rfl rfl ((b_rem rfl).trans (ci e18)))) ?_
  refine wo_step (v := (.i .i64 x18)) (s_pure (p_mv rfl)) ?_
  refine wo_nil ?_
  refine nx_norm ?_
  refine w_ret ?_
  exact qf ret_ok (rt rfl rn) hr

/- dibber/dibberref02.row -/
abbrev g50_I0 (v0 : AVal) (v7 : AVal) (s : Int × Mm) (m1 : Mm) (t1 : Tr) : Prop :=
  match s with
  | (x4, m_2) => m_2 = m1 ∧ t1.get 4 = (.i .i64 x4) ∧ t1.get 0 = v0 ∧ t1.get 3 = v7
abbrev g50_J0 (v0 : AVal) (v7 : AVal) (o : Mm) (e : AExit) (m1 : Mm) (t1 : Tr) : Prop :=
  match o with
  | mo => e = (.exit 0) ∧ mo = m1 ∧ t1.get 3 = v7
abbrev g50_J1 (v0 : AVal) (v7 : AVal) (x4 : Int) (o : Mm) (e : AExit) (m1 : Mm) (t1 : Tr) : Prop :=
  match o with
  | mo => e = .norm ∧ mo = m1 ∧ t1.get 0 = v0 ∧ t1.get 3 = v7 ∧ t1.get 4 = (.i .i64 x4)
def g50_b0 (M : Means) (ro : List ABlk) (v0 : AVal) (v7 : AVal) (x4 : Int) (m_2 : Mm) : Option ((Int × Mm) ⊕ (Mm)) :=
  bindO (evP .e (.len false (.c v0))) fun v10 =>
  asI .i64 v10 fun x10 =>
  forceB (ltI x4 x10) fun c11 =>
  cond c11 (
    bindO (evP .e (.ixS 1 (.c v7) (.c (.i .i64 x4)))) fun v16 =>
    bindP (stepM ro m_2 (.st 1 (.c v16) (.c (.i .u8 48)))) fun vn m_3 =>
    bindO (evP .e (.ixS 1 (.c v0) (.c (.i .i64 x4)))) fun v19 =>
    bindO (ldM ro m_3 true 1 v19) fun v20 =>
    asI .i64 v20 fun x20 =>
    forceB (eqI x20 1) fun c21 =>
    bindO (α := Mm) (
      cond c21 (
        bindO (evP .e (.ixS 1 (.c v7) (.c (.i .i64 x4)))) fun v24 =>
        bindP (stepM ro m_3 (.st 1 (.c v24) (.c (.i .u8 49)))) fun vn_1 m_4 =>
        some m_4) (
        some m_3)) fun m_5 =>
    forceI (wr .i64 (x4 + 1)) fun x13 =>
    some (.inl (x13, m_5))) (
    some (.inr m_2))
def g50 (M : Means) (ro : List ABlk) (v0 : AVal) (m0 : Mm) : Option (AVal × Heap × Nat × Nat) :=
  bindO (evP .e (.len false (.c v0))) fun v6 =>
  asI .i64 v6 fun x6 =>
  bindP (stepM ro m0 (.mk 5 1 1 [(AVal.i IntKind.u8 0)] (.c (.i .i64 x6)) (.c (.i .i64 x6)))) fun v7 m_1 =>
  bindO (M.loop (S := Int × Mm) (R := Mm) (fun s => g50_b0 M ro v0 v7 s.1 s.2) (0, m_1)) fun m_6 =>
  bindO (btsM ro m_6 v7) fun v26 =>
  asS v26 fun s26 =>
  finM m0.h.length (tupA [(.s s26)]) m_6

theorem g50_ok {ro : List ABlk} {O : Caller} {M : Means} (hM : M.Ok ⟨F, O⟩ ro) {v0 h r} (ho : O 50 [v0] h = none) (hr : g50 M ro v0 ⟨h, h.length, h.length⟩ = some r) : callX ⟨F, O⟩ ro 50 [v0] h = some r := by
  refine callX_of (F := ⟨F, O⟩) (fn := fn50) (g := g50 M ro v0) ho rfl rfl hr ?_
  clear ho
  clear hr
  intro m0 t0 ht hr
  have g0 : t0.get 0 = v0 := ht 0
  clear ht
  unfold g50 at hr
  refine w_seq ?_
  refine w_ops ?_
  refine wo_step (v := (AVal.s [])) (s_pure (p_mv rfl)) ?_
  refine wo_nil ?_
  refine nx_norm ?_
  refine w_seq ?_
  refine w_ops ?_
  refine wo_step (v := v0) (s_pure (p_mv g0)) ?_
  have hq := bindO_inv hr
  clear hr
  obtain ⟨v6, e6, hr⟩ := hq
  have hq := asI_inv hr
  clear hr
  obtain ⟨x6, rfl, hr⟩ := hq
  refine wo_step (v := (.i .i64 x6)) (s_pure (o_len rfl e6)) ?_
  have hq := bindP_inv hr
  clear hr
  obtain ⟨v7, m_1, e7, hr⟩ := hq
  refine wo_step (v := v7) (s_mk rfl rfl e7) ?_
  refine wo_step (v := v7) (s_pure (p_mv rfl)) ?_
  refine wo_nil ?_
  refine nx_norm ?_
  refine w_seq ?_
  refine w_seq ?_
  refine w_ops ?_
  refine wo_step (v := (.i .i64 0)) (s_pure (p_mv rfl)) ?_
  refine wo_nil ?_
  refine nx_norm ?_
  refine w_block ?_
  have hq := bindO_inv hr
  clear hr
  obtain ⟨o_1, hl, hr⟩ := hq
  obtain ⟨n, hl⟩ := hM.loop _ _ _ hl
  refine jp_mono (w_loop _ (g50_I0 v0 v7) (g50_J0 v0 v7) ?_ n _ _ _ _ hl ⟨rfl, gl rfl, gl g0, gl rfl⟩) ?_
  · clear hr hl
    intro s mm_2 t_1 o hi hr
    obtain ⟨x4, m_2⟩ := s
    obtain ⟨rfl, g4, g0, g3⟩ := hi
    unfold g50_b0 at hr
    refine w_seq ?_
    refine w_seq ?_
    refine w_ops ?_
    refine wo_step (v := (.i .i64 x4)) (s_pure (p_mv g4)) ?_
    refine wo_step (v := v0) (s_pure (p_mv g0)) ?_
    have hq := bindO_inv hr
    clear hr
    obtain ⟨v10, e10, hr⟩ := hq
    have hq := asI_inv hr
    clear hr
    obtain ⟨x10, rfl, hr⟩ := hq
    refine wo_step (v := (.i .i64 x10)) (s_pure (o_len rfl e10)) ?_
    have hq := forceB_inv hr
    clear hr
    obtain ⟨c11, e11, hr⟩ := hq
    refine wo_step (v := (.b c11)) (s_pure (p_bin rfl rfl (b_lss.trans (cb e11)))) ?_
    refine wo_nil ?_
    refine nx_norm ?_
    have hq := cond_inv hr
    clear hr
    rcases hq with ⟨rfl, hr⟩ | ⟨rfl, hr⟩
    · refine w_condT rfl ?_
      refine w_skip ?_
      refine nx_norm ?_
      refine w_seq ?_
      refine w_block ?_
      refine w_seq ?_
      refine w_ops ?_
      refine wo_step (v := v7) (s_pure (p_mv g3)) ?_
      refine wo_step (v := (.i .i64 x4)) (s_pure (p_mv g4)) ?_
      have hq := bindO_inv hr
      clear hr
      obtain ⟨v16, e16, hr⟩ := hq
      refine wo_step (v := v16) (s_pure (o_ixS rfl rfl e16)) ?_
      have hq := bindP_inv hr
      clear hr
      obtain ⟨vn, m_3, en, hr⟩ := hq
      refine wo_stepN (s_st rfl rfl en) ?_
      refine wo_nil ?_
      refine nx_norm ?_
      refine w_seq ?_
      refine w_ops ?_
      refine wo_step (v := v0) (s_pure (p_mv g0)) ?_
      refine wo_step (v := (.i .i64 x4)) (s_pure (p_mv g4)) ?_
      have hq := bindO_inv hr
      clear hr
      obtain ⟨v19, e19, hr⟩ := hq
      refine wo_step (v := v19) (s_pure (o_ixS rfl rfl e19)) ?_
      have hq := bindO_inv hr
      clear hr
      obtain ⟨v20, e20, hr⟩ := hq
      have hq := asI_inv hr
      clear hr
      obtain ⟨x20, rfl, hr⟩ := hq
      refine wo_step (v := (.i .i64 x20)) (s_ld rfl e20) ?_
      have hq := forceB_inv hr
      clear hr
      obtain ⟨c21, e21, hr⟩ := hq
      refine wo_step (v := (.b c21)) (s_pure (p_bin rfl rfl (b_eql.trans (cb e21)))) ?_
      refine wo_nil ?_
      refine nx_norm ?_
      have hq := bindO_inv hr
      clear hr
      obtain ⟨o, hr, hk⟩ := hq
      refine jp_mono (J := g50_J1 v0 v7 x4 o) ?_ ?_
      · clear hk
        have hq := cond_inv hr
        clear hr
        rcases hq with ⟨rfl, hr⟩ | ⟨rfl, hr⟩
        · refine w_condT rfl ?_
          refine w_ops ?_
          refine wo_step (v := v7) (s_pure (p_mv g3)) ?_
          refine wo_step (v := (.i .i64 x4)) (s_pure (p_mv g4)) ?_
          have hq := bindO_inv hr
          clear hr
          obtain ⟨v24, e24, hr⟩ := hq
          refine wo_step (v := v24) (s_pure (o_ixS rfl rfl e24)) ?_
          have hq := bindP_inv hr
          clear hr
          obtain ⟨vn_1, m_4, en_1, hr⟩ := hq
          refine wo_stepN (s_st rfl rfl en_1) ?_
          refine wo_nil ?_
          cases hr
          exact ⟨_, _, rfl, rfl, rfl, gl g0, gl g3, gl g4⟩
        · refine w_condF rfl ?_
          refine w_skip ?_
          cases hr
          exact ⟨_, _, rfl, rfl, rfl, gl g0, gl g3, gl g4⟩
      · have hr := hk
        clear hk
        obtain ⟨m_5, ho⟩ : ∃ z, z = o := ⟨_, rfl⟩
        subst ho
        rintro _ mm t_2 ⟨rfl, rfl, g0, g3, g4⟩
        refine bk_norm ?_
        refine nx_norm ?_
        refine w_ops ?_
        refine wo_step (v := (.i .i64 x4)) (s_pure (p_mv g4)) ?_
        have hq := forceI_inv hr
        clear hr
        obtain ⟨x13, e13, hr⟩ := hq
        refine wo_step (v := (.i .i64 x13)) (s_pure (p_bin rfl rfl (b_add.trans (ci e13)))) ?_
        refine wo_step (v := (.i .i64 x13)) (s_pure (p_mv rfl)) ?_
        refine wo_nil ?_
        cases hr
        exact ⟨_, _, rfl, rfl, rfl, gl rfl, gl g0, gl g3⟩
    · refine w_condF rfl ?_
      refine w_exit ?_
      refine nx_exit ?_
      cases hr
      exact ⟨_, _, rfl, ne_norm_exit, rfl, rfl, gl g3⟩
  · obtain ⟨m_6, ho⟩ : ∃ z, z = o_1 := ⟨_, rfl⟩
    subst ho
    rintro _ mm_1 t_3 ⟨rfl, rfl, g3⟩
    refine bk_hit ?_
    refine nx_norm ?_
    refine w_seq ?_
    refine w_ops ?_
    refine wo_step (v := v7) (s_pure (p_mv g3)) ?_
    have hq := bindO_inv hr
    clear hr
    obtain ⟨v26, e26, hr⟩ := hq
    have hq := asS_inv hr
    clear hr
    obtain ⟨s26, rfl, hr⟩ := hq
    refine wo_step (v := (.s s26)) (s_bts rfl e26) ?_
    refine wo_step (v := (.s s26)) (s_pure (p_mv rfl)) ?_
    refine wo_nil ?_
    refine nx_norm ?_
    refine w_ret ?_
    exact qf ret_ok (rt rfl rn) hr

/- (dibber/weed.rule).ring -/

def g51 (M : Means) (ro : List ABlk) (x0 : Int) (s1 : List UInt8) (m0 : Mm) : Option (AVal × Heap × Nat × Nat) :=
  bindO (evP .e (.len true (.c (.s s1)))) fun v8 =>
  asI .i64 v8 fun x8 =>
  forceI (wr .i64 (x8 - 1)) fun x9 =>
  bindO (evP .e (.slStr (.c (.s s1)) (some (.c (.i .i64 x9))) none)) fun v10 =>
  asS v10 fun s10 =>
  bindO (evP .e (.sbin BinOp.add (.c (.s s10)) (.c (.s s1)))) fun v12 =>
  asS v12 fun s12 =>
  bindO (evP .e (.slStr (.c (.s s1)) none (some (.c (.i .i64 1))))) fun v14 =>
  asS v14 fun s14 =>
  bindO (evP .e (.sbin BinOp.add (.c (.s s12)) (.c (.s s14)))) fun v15 =>
  asS v15 fun s15 =>
  bindP (callM M.call m0 46 [(.i .u8 x0), (.s s15)]) fun v16 m_1 =>
  asS v16 fun s16 =>
  finM m0.h.length (tupA [(.s s16)]) m_1

theorem g51_ok {ro : List ABlk} {O : Caller} {M : Means} (hM : M.Ok ⟨F, O⟩ ro) {x0 s1 h r} (ho : O 51 [(.i .u8 x0), (.s s1)] h = none) (hr : g51 M ro x0 s1 ⟨h, h.length, h.length⟩ = some r) : callX ⟨F, O⟩ ro 51 [(.i .u8 x0), (.s s1)] h = some r := by
  refine callX_of (F := ⟨F, O⟩) (fn := fn51) (g := g51 M ro x0 s1) ho rfl rfl hr ?_
  clear ho
  clear hr
  intro m0 t0 ht hr
  have g0 : t0.get 0 = (.i .u8 x0) := ht 0
  have g1 : t0.get 1 = (.s s1) := ht 1
  clear ht
  unfold g51 at hr
  refine w_seq ?_
  refine w_ops ?_
  refine wo_step (v := (AVal.s [])) (s_pure (p_mv rfl)) ?_
  refine wo_nil ?_
  refine nx_norm ?_
  refine w_seq ?_
  refine w_ops ?_
  refine wo_step (v := (.i .u8 x0)) (s_pure (p_mv g0)) ?_
  refine wo_step (v := (.s s1)) (s_pure (p_mv g1)) ?_
  refine wo_step (v := (.s s1)) (s_pure (p_mv g1)) ?_
  have hq := bindO_inv hr
  clear hr
  obtain ⟨v8, e8, hr⟩ := hq
  have hq := asI_inv hr
  clear hr
  obtain ⟨x8, rfl, hr⟩ := hq
  refine wo_step (v := (.i .i64 x8)) (s_pure (o_len rfl e8)) ?_
  have hq := forceI_inv hr
  clear hr
  obtain ⟨x9, e9, hr⟩ := hq
  refine wo_step (v := (.i .i64 x9)) (s_pure (p_bin rfl rfl (b_sub.trans (ci e9)))) ?_
  have hq := bindO_inv hr
  clear hr
  obtain ⟨v10, e10, hr⟩ := hq
  have hq := asS_inv hr
  clear hr
  obtain ⟨s10, rfl, hr⟩ := hq
  refine wo_step (v := (.s s10)) (s_pure (o_slStr rfl (os rfl) on e10)) ?_
  refine wo_step (v := (.s s1)) (s_pure (p_mv g1)) ?_
  have hq := bindO_inv hr
  clear hr
  obtain ⟨v12, e12, hr⟩ := hq
  have hq := asS_inv hr
  clear hr
  obtain ⟨s12, rfl, hr⟩ := hq
  refine wo_step (v := (.s s12)) (s_pure (o_sbin rfl rfl e12)) ?_
  refine wo_step (v := (.s s1)) (s_pure (p_mv g1)) ?_
  have hq := bindO_inv hr
  clear hr
  obtain ⟨v14, e14, hr⟩ := hq
  have hq := asS_inv hr
  clear hr
  obtain ⟨s14, rfl, hr⟩ := hq
  refine wo_step (v := (.s s14)) (s_pure (o_slStr rfl on (os rfl) e14)) ?_
  have hq := bindO_inv hr
  clear hr
  obtain ⟨v15, e15, hr⟩ := hq
  have hq := asS_inv hr
  clear hr
  obtain ⟨s15, rfl, hr⟩ := hq
  refine wo_step (v := (.s s15)) (s_pure (o_sbin rfl rfl e15)) ?_
  have hq := bindP_inv hr
  clear hr
  obtain ⟨v16, m_1, e16, hr⟩ := hq
  have hq := asS_inv hr
  clear hr
  obtain ⟨s16, rfl, hr⟩ := hq
  refine wo_step (v := (.s s16)) (s_call (mc rfl (mc rfl mn)) (callM_le hM.call e16)) ?_
  refine wo_step (v := (.s s16)) (s_pure (p_mv rfl)) ?_
  refine wo_nil ?_
  refine nx_norm ?_
  refine w_ret ?_
  exact qf ret_ok (rt rfl rn) hr

/- (dibber/weed.rule).back -/
abbrev g53_I0 (x0 : Int) (s1 : List UInt8) (v15 : AVal) (s : Int × Mm) (m1 : Mm) (t1 : Tr) : Prop :=
  match s with
  | (x7, m_3) => m_3 = m1 ∧ t1.get 7 = (.i .i64 x7) ∧ t1.get 0 = (.i .u8 x0) ∧ t1.get 1 = (.s s1) ∧ t1.get 6 = v15
abbrev g53_J0 (x0 : Int) (s1 : List UInt8) (v15 : AVal) (o : Mm) (e : AExit) (m1 : Mm) (t1 : Tr) : Prop :=
  match o with
  | mo => e = (.exit 0) ∧ mo = m1 ∧ t1.get 0 = (.i .u8 x0) ∧ t1.get 1 = (.s s1) ∧ t1.get 6 = v15
def g53_b0 (M : Means) (ro : List ABlk) (x0 : Int) (s1 : List UInt8) (v15 : AVal) (x7 : Int) (m_3 : Mm) : Option ((Int × Mm) ⊕ (Mm)) :=
  forceB (!ltI x7 0) fun c24 =>
  cond c24 (
    forceI (wr .i64 (x7 + 1)) fun x32 =>
    bindO (evP .e (.ixS 1 (.c v15) (.c (.i .i64 x32)))) fun v33 =>
    bindO (ldA ro m_3.h true 1 v33) fun v34 =>
    asI .u8 v34 fun x34 =>
    bindO (evP .e (.ixStr (.c (.s s1)) (.c (.i .i64 x7)))) fun v37 =>
    asI .u8 v37 fun x37 =>
    bindO (callN M.call m_3.h 73 [(.i .u8 x37)]) fun v38 =>
    asI .i64 v38 fun x38 =>
    bindO (callN M.call m_3.h 74 [(.i .u8 x0), (.i .u8 x34), (.i .i64 x38)]) fun v39 =>
    asI .u8 v39 fun x39 =>
    bindO (evP .e (.ixS 1 (.c v15) (.c (.i .i64 x7)))) fun v40 =>
    asP v40 fun qs =>
    bindO (writesM ro [] [(qs, AVal.cells (.i .u8 x39))] ⟨m_3.h, m_3.lw, m_3.lp⟩) fun m_4 =>
    forceI (wr .i64 (x7 - 1)) fun x26 =>
    some (.inl (x26, m_4))) (
    some (.inr m_3))
abbrev g53_I1 (x0 : Int) (s1 : List UInt8) (v15 : AVal) (x57 : Int) (s : Int × AVal × Int × Mm) (m1 : Mm) (t1 : Tr) : Prop :=
  match s with
  | (x8, v9, x58, m_10) => m_10 = m1 ∧ t1.get 8 = (.i .i64 x8) ∧ t1.get 9 = v9 ∧ t1.get 58 = (.i .i64 x58) ∧ t1.get 0 = (.i .u8 x0) ∧ t1.get 1 = (.s s1) ∧ t1.get 6 = v15 ∧ t1.get 57 = (.i .i64 x57)
abbrev g53_J1 (x0 : Int) (s1 : List UInt8) (v15 : AVal) (x57 : Int) (o : (AVal × Mm)) (e : AExit) (m1 : Mm) (t1 : Tr) : Prop :=
  match o with
  | (y9, mo) => e = (.exit 2) ∧ mo = m1 ∧ t1.get 9 = y9
abbrev g53_J2 (x0 : Int) (s1 : List UInt8) (v15 : AVal) (v9 : AVal) (x62 : Int) (x57 : Int) (x58 : Int) (o : Bool × Mm) (m1 : Mm) (t1 : Tr) : Prop :=
  match o with
  | (c81, m_13) => m_13 = m1 ∧ t1.get 81 = (.b c81) ∧ t1.get 0 = (.i .u8 x0) ∧ t1.get 1 = (.s s1) ∧ t1.get 6 = v15 ∧ t1.get 9 = v9 ∧ t1.get 11 = (.i .i64 x62) ∧ t1.get 57 = (.i .i64 x57) ∧ t1.get 58 = (.i .i64 x58)
abbrev g53_J3 (x0 : Int) (s1 : List UInt8) (v15 : AVal) (v9 : AVal) (x57 : Int) (x58 : Int) (m_13 : Mm) (o : Int) (e : AExit) (m1 : Mm) (t1 : Tr) : Prop :=
  match o with
  | y11 => e = .norm ∧ m_13 = m1 ∧ t1.get 11 = (.i .i64 y11) ∧ t1.get 0 = (.i .u8 x0) ∧ t1.get 1 = (.s s1) ∧ t1.get 6 = v15 ∧ t1.get 9 = v9 ∧ t1.get 57 = (.i .i64 x57) ∧ t1.get 58 = (.i .i64 x58)
def g53_b1 (M : Means) (ro : List ABlk) (x0 : Int) (s1 : List UInt8) (v15 : AVal) (x57 : Int) (x8 : Int) (v9 : AVal) (x58 : Int) (m_10 : Mm) : Option ((Int × AVal × Int × Mm) ⊕ ((AVal × Mm))) :=
  forceB (ltI x58 x57) fun c59 =>
  cond c59 (
    forceI (wr .i64 (2 * x8)) fun x62 =>
    bindO (evP .e (.ixStr (.c (.s s1)) (.c (.i .i64 x58)))) fun v68 =>
    asI .u8 v68 fun x68 =>
    bindP (callM M.call m_10 72 [(.i .u8 x0), (.i .i64 x62)]) fun v65 m_11 =>
    asI .i64 v65 fun x65 =>
    bindP (callM M.call m_11 73 [(.i .u8 x68)]) fun v69 m_12 =>
    asI .i64 v69 fun x69 =>
    forceB (!eqI x65 x69) fun c70 =>
    bindO (cond c70 (
      some (true, m_12)) (
      forceI (wr .i64 (x58 + 1)) fun x74 =>
      bindO (evP .e (.ixS 1 (.c v15) (.c (.i .i64 x74)))) fun v75 =>
      forceI (bitV .and .i64 x62 3) fun x78 =>
      bindO (ldM ro m_12 true 1 v75) fun v76 =>
      asI .u8 v76 fun x76 =>
      bindP (callM M.call m_12 76 [(.i .u8 x76), (.i .i64 x78)]) fun v79 m_14 =>
      asB v79 fun c79 =>
      forceB (!c79) fun c80 =>
      some (c80, m_14))) fun ⟨c81, m_13⟩ =>
    bindO (α := Int) (
      cond c81 (
        forceI (wr .i64 (x62 + 1)) fun x83 =>
        some x83) (
        some x62)) fun x11 =>
    forceI (bitV .and .i64 x11 3) fun x85 =>
    forceI (bitV .and .i64 x11 1) fun x88 =>
    bindP (callM M.call m_13 71 [(.i .i64 x88)]) fun v89 m_15 =>
    asI .u8 v89 fun x89 =>
    bindP (stepM ro m_15 (.bsl 5 1 [(AVal.i IntKind.u8 0)] 1 [((0, 1), .c (.i .u8 x89))])) fun v90 m_16 =>
    bindP (stepM ro m_16 (.app 5 1 1 [(AVal.i IntKind.u8 0)] (.c v9) (.c v90))) fun v91 m_17 =>
    forceI (wr .i64 (x58 + 1)) fun x92 =>
    some (.inl (x85, v91, x92, m_17))) (
    some (.inr (v9, m_10)))
def g53 (M : Means) (ro : List ABlk) (x0 : Int) (s1 : List UInt8) (m0 : Mm) : Option (AVal × Heap × Nat × Nat) :=
  bindO (evP .e (.len true (.c (.s s1)))) fun v13 =>
  asI .i64 v13 fun x13 =>
  forceI (wr .i64 (x13 + 1)) fun x14 =>
  bindP (stepM ro m0 (.mk 82 1 1 [(AVal.i IntKind.u8 0)] (.c (.i .i64 x14)) (.c (.i .i64 x14)))) fun v15 m_1 =>
  bindO (evP .e (.len true (.c (.s s1)))) fun v18 =>
  asI .i64 v18 fun x18 =>
  bindO (evP .e (.ixS 1 (.c v15) (.c (.i .i64 x18)))) fun v19 =>
  bindP (stepM ro m_1 (.st 1 (.c v19) (.c (.i .u8 15)))) fun vn m_2 =>
  bindO (evP .e (.len true (.c (.s s1)))) fun v21 =>
  asI .i64 v21 fun x21 =>
  forceI (wr .i64 (x21 - 1)) fun x22 =>
  bindO (M.loop (S := Int × Mm) (R := Mm) (fun s => g53_b0 M ro x0 s1 v15 s.1 s.2) (x22, m_2)) fun m_5 =>
  bindO (evP .e (.ixS 1 (.c v15) (.c (.i .i64 0)))) fun v42 =>
  bindO (ldM ro m_5 true 1 v42) fun v43 =>
  asI .u8 v43 fun x43 =>
  forceB (eqI x43 0) fun c44 =>
  cond c44 (
    finM m0.h.length (tupA [(AVal.s []), (.b false)]) m_5) (
    bindO (evP .e (.ixS 1 (.c v15) (.c (.i .i64 0)))) fun v46 =>
    bindO (ldM ro m_5 true 1 v46) fun v47 =>
    asI .u8 v47 fun x47 =>
    bindP (callM M.call m_5 75 [(.i .u8 x47)]) fun v48 m_6 =>
    asI .i64 v48 fun x48 =>
    forceI (shrV .i64 x48 1) fun x50 =>
    bindP (callM M.call m_6 71 [(.i .i64 x50)]) fun v51 m_7 =>
    asI .u8 v51 fun x51 =>
    forceI (bitV .and .i64 x48 1) fun x53 =>
    bindP (callM M.call m_7 71 [(.i .i64 x53)]) fun v54 m_8 =>
    asI .u8 v54 fun x54 =>
    bindP (stepM ro m_8 (.bsl 5 1 [(AVal.i IntKind.u8 0)] 2 [((0, 1), .c (.i .u8 x51)), ((1, 1), .c (.i .u8 x54))])) fun v55 m_9 =>
    bindO (evP .e (.len true (.c (.s s1)))) fun v57 =>
    asI .i64 v57 fun x57 =>
    bindO (M.loop (S := Int × AVal × Int × Mm) (R := (AVal × Mm)) (fun s => g53_b1 M ro x0 s1 v15 x57 s.1 s.2.1 s.2.2.1 s.2.2.2) (x48, v55, 0, m_9)) fun ⟨v9_1, m_18⟩ =>
    bindO (btsM ro m_18 v9_1) fun v94 =>
    asS v94 fun s94 =>
    finM m0.h.length (tupA [(.s s94), (.b true)]) m_18)

theorem g53_ok {ro : List ABlk} {O : Caller} {M : Means} (hM : M.Ok ⟨F, O⟩ ro) {x0 s1 h r} (ho : O 53 [(.i .u8 x0), (.s s1)] h = none) (hr : g53 M ro x0 s1 ⟨h, h.length, h.length⟩ = some r) : callX ⟨F, O⟩ ro 53 [(.i .u8 x0), (.s s1)] h = some r := by
  refine callX_of (F := ⟨F, O⟩) (fn := fn53) (g := g53 M ro x0 s1) ho rfl rfl hr ?_
  clear ho
  clear hr
  intro m0 t0 ht hr
  have g0 : t0.get 0 = (.i .u8 x0) := ht 0
  have g1 : t0.get 1 = (.s s1) := ht 1
  clear ht
  unfold g53 at hr
  refine w_seq ?_
  refine w_ops ?_
  refine wo_step (v := (AVal.s [])) (s_pure (p_mv rfl)) ?_
  refine wo_step (v := (.b false)) (s_pure (p_mv rfl)) ?_
  refine wo_nil ?_
  refine nx_norm ?_
  refine w_seq ?_
  refine w_ops ?_
  refine wo_step (v := (.s s1)) (s_pure (p_mv g1)) ?_
  have hq := bindO_inv hr
  clear hr
  obtain ⟨v13, e13, hr⟩ := hq
  have hq := asI_inv hr
  clear hr
  obtain ⟨x13, rfl, hr⟩ := hq
  refine wo_step (v := (.i .i64 x13)) (s_pure (o_len rfl e13)) ?_
  have hq := forceI_inv hr
  clear hr
  obtain ⟨x14, e14, hr⟩ := hq
  refine wo_step (v := (.i .i64 x14)) (s_pure (p_bin rfl rfl (b_add.trans (ci e14)))) ?_
  have hq := bindP_inv hr
  clear hr
  obtain ⟨v15, m_1, e15, hr⟩ := hq
  refine wo_step (v := v15) (s_mk rfl rfl e15) ?_
  refine wo_step (v := v15) (s_pure (p_mv rfl)) ?_
  refine wo_nil ?_
  refine nx_norm ?_
  refine w_seq ?_
  refine w_ops ?_
  refine wo_step (v := v15) (s_pure (p_mv rfl)) ?_
  refine wo_step (v := (.s s1)) (s_pure (p_mv g1)) ?_
  have hq := bindO_inv hr
  clear hr
  obtain ⟨v18, e18, hr⟩ := hq
  have hq := asI_inv hr
  clear hr
  obtain ⟨x18, rfl, hr⟩ := hq
  refine wo_step (v := (.i .i64 x18)) (s_pure (o_len rfl e18)) ?_
  have hq := bindO_inv hr
  clear hr
  obtain ⟨v19, e19, hr⟩ := hq
  refine wo_step (v := v19) (s_pure (o_ixS rfl rfl e19)) ?_
  have hq := bindP_inv hr
  clear hr
  obtain ⟨vn, m_2, en, hr⟩ := hq
  refine wo_stepN (s_st rfl rfl en) ?_
  refine wo_nil ?_
  refine nx_norm ?_
  refine w_seq ?_
  refine w_seq ?_
  refine w_ops ?_
  refine wo_step (v := (.s s1)) (s_pure (p_mv g1)) ?_
  have hq := bindO_inv hr
  clear hr
  obtain ⟨v21, e21, hr⟩ := hq
  have hq := asI_inv hr
  clear hr
  obtain ⟨x21, rfl, hr⟩ := hq
  refine wo_step (v := (.i .i64 x21)) (s_pure (o_len rfl e21)) ?_
  have hq := forceI_inv hr
  clear hr
  obtain ⟨x22, e22, hr⟩ := hq
  refine wo_step (v := (.i .i64 x22)) (s_pure (p_bin rfl rfl (b_sub.trans (ci e22)))) ?_
  refine wo_step (v := (.i .i64 x22)) (s_pure (p_mv rfl)) ?_
  refine wo_nil ?_
  refine nx_norm ?_
  refine w_block ?_
  have hq := bindO_inv hr
  clear hr
  obtain ⟨o, hl_1, hr⟩ := hq
  obtain ⟨n_1, hl_1⟩ := hM.loop _ _ _ hl_1
  refine jp_mono (w_loop _ (g53_I0 x0 s1 v15) (g53_J0 x0 s1 v15) ?_ n_1 _ _ _ _ hl_1 ⟨rfl, gl rfl, gl g0, gl g1, gl rfl⟩) ?_
  · clear hr hl_1
    intro s mm_5 t_1 o hi hr
    obtain ⟨x7, m_3⟩ := s
    obtain ⟨rfl, g7, g0, g1, g6⟩ := hi
    unfold g53_b0 at hr
    refine w_seq ?_
    refine w_seq ?_
    refine w_ops ?_
    refine wo_step (v := (.i .i64 x7)) (s_pure (p_mv g7)) ?_
    have hq := forceB_inv hr
    clear hr
    obtain ⟨c24, e24, hr⟩ := hq
    refine wo_step (v := (.b c24)) (s_pure (p_bin rfl rfl (b_geq.trans (cb e24)))) ?_
    refine wo_nil ?_
    refine nx_norm ?_
    have hq := cond_inv hr
    clear hr
    rcases hq with ⟨rfl, hr⟩ | ⟨rfl, hr⟩
    · refine w_condT rfl ?_
      refine w_skip ?_
      refine nx_norm ?_
      refine w_seq ?_
      refine w_block ?_
      refine w_any ?_
      refine wa_step (v := v15) (a_pure (p_mv g6)) ?_
      refine wa_step (v := (.i .i64 x7)) (a_pure (p_mv g7)) ?_
      refine wa_step (v := (.i .u8 x0)) (a_pure (p_mv g0)) ?_
      refine wa_step (v := v15) (a_pure (p_mv g6)) ?_
      refine wa_step (v := (.i .i64 x7)) (a_pure (p_mv g7)) ?_
      have hq := forceI_inv hr
      clear hr
      obtain ⟨x32, e32, hr⟩ := hq
      refine wa_step (v := (.i .i64 x32)) (a_pure (p_bin rfl rfl (b_add.trans (ci e32)))) ?_
      have hq := bindO_inv hr
      clear hr
      obtain ⟨v33, e33, hr⟩ := hq
      refine wa_step (v := v33) (a_pure (o_ixS rfl rfl e33)) ?_
      have hq := bindO_inv hr
      clear hr
      obtain ⟨v34, e34, hr⟩ := hq
      have hq := asI_inv hr
      clear hr
      obtain ⟨x34, rfl, hr⟩ := hq
      refine wa_step (v := (.i .u8 x34)) (a_ld rfl e34) ?_
      refine wa_step (v := (.s s1)) (a_pure (p_mv g1)) ?_
      refine wa_step (v := (.i .i64 x7)) (a_pure (p_mv g7)) ?_
      have hq := bindO_inv hr
      clear hr
      obtain ⟨v37, e37, hr⟩ := hq
      have hq := asI_inv hr
      clear hr
      obtain ⟨x37, rfl, hr⟩ := hq
      refine wa_step (v := (.i .u8 x37)) (a_pure (o_ixStr rfl rfl e37)) ?_
      have hq := bindO_inv hr
      clear hr
      obtain ⟨v38, e38, hr⟩ := hq
      have hq := asI_inv hr
      clear hr
      obtain ⟨x38, rfl, hr⟩ := hq
      refine wa_step (v := (.i .i64 x38)) (a_call (mc rfl mn) (callN_le hM.call e38)) ?_
      have hq := bindO_inv hr
      clear hr
      obtain ⟨v39, e39, hr⟩ := hq
      have hq := asI_inv hr
      clear hr
      obtain ⟨x39, rfl, hr⟩ := hq
      refine wa_step (v := (.i .u8 x39)) (a_call (mc rfl (mc rfl (mc rfl mn))) (callN_le hM.call e39)) ?_
      have hq := bindO_inv hr
      clear hr
      obtain ⟨v40, e40, hr⟩ := hq
      refine wa_step (v := v40) (a_pure (o_ixS rfl rfl e40)) ?_
      have hq := asP_inv hr
      clear hr
      obtain ⟨qs, eqs, hr⟩ := hq
      refine wa_stepN (a_st (Eq.trans (b := v40) rfl eqs) rfl rfl) ?_
      have hq := bindO_inv hr
      clear hr
      obtain ⟨m_4, ew, hr⟩ := hq
      refine wa_nil ?_
      refine ⟨m_4, ew, ?_⟩
      refine bk_norm ?_
      refine nx_norm ?_
      refine w_ops ?_
      refine wo_step (v := (.i .i64 x7)) (s_pure (p_mv g7)) ?_
      have hq := forceI_inv hr
      clear hr
      obtain ⟨x26, e26, hr⟩ := hq
      refine wo_step (v := (.i .i64 x26)) (s_pure (p_bin rfl rfl (b_sub.trans (ci e26)))) ?_
      refine wo_step (v := (.i .i64 x26)) (s_pure (p_mv rfl)) ?_
      refine wo_nil ?_
      cases hr
      exact ⟨_, _, rfl, rfl, rfl, gl rfl, gl g0, gl g1, gl g6⟩
    · refine w_condF rfl ?_
      refine w_exit ?_
      refine nx_exit ?_
      cases hr
      exact ⟨_, _, rfl, ne_norm_exit, rfl, rfl, gl g0, gl g1, gl g6⟩
  · obtain ⟨m_5, ho⟩ : ∃ z, z = o := ⟨_, rfl⟩
    subst ho
    rintro _ mm_4 t_2 ⟨rfl, rfl, g0, g1, g6⟩
    refine bk_hit ?_
    refine nx_norm ?_
    refine w_seq ?_
    refine w_seq ?_
    refine w_ops ?_
    refine wo_step (v := v15) (s_pure (p_mv g6)) ?_
    have hq := bindO_inv hr
    clear hr
    obtain ⟨v42, e42, hr⟩ := hq
    refine wo_step (v := v42) (s_pure (o_ixS rfl rfl e42)) ?_
    have hq := bindO_inv hr
    clear hr
    obtain ⟨v43, e43, hr⟩ := hq
    have hq := asI_inv hr
    clear hr
    obtain ⟨x43, rfl, hr⟩ := hq
    refine wo_step (v := (.i .u8 x43)) (s_ld rfl e43) ?_
    have hq := forceB_inv hr
    clear hr
    obtain ⟨c44, e44, hr⟩ := hq
    refine wo_step (v := (.b c44)) (s_pure (p_bin rfl rfl (b_eql.trans (cb e44)))) ?_
    refine wo_nil ?_
    refine nx_norm ?_
    have hq := cond_inv hr
    clear hr
    rcases hq with ⟨rfl, hr⟩ | ⟨rfl, hr⟩
    · refine w_condT rfl ?_
      refine w_seq ?_
      refine w_ops ?_
      refine wo_step (v := (AVal.s [])) (s_pure (p_mv rfl)) ?_
      refine wo_step (v := (.b false)) (s_pure (p_mv rfl)) ?_
      refine wo_nil ?_
      refine nx_norm ?_
      refine w_ret ?_
      refine nx_ret ?_
      exact qf ret_ok (rt rfl (rt rfl rn)) hr
    · refine w_condF rfl ?_
      refine w_skip ?_
      refine nx_norm ?_
      refine w_seq ?_
      refine w_ops ?_
      refine wo_step (v := v15) (s_pure (p_mv g6)) ?_
      have hq := bindO_inv hr
      clear hr
      obtain ⟨v46, e46, hr⟩ := hq
      refine wo_step (v := v46) (s_pure (o_ixS rfl rfl e46)) ?_
      have hq := bindO_inv hr
      clear hr
      obtain ⟨v47, e47, hr⟩ := hq
      have hq := asI_inv hr
      clear hr
      obtain ⟨x47, rfl, hr⟩ := hq
      refine wo_step (v := (.i .u8 x47)) (s_ld rfl e47) ?_
      have hq := bindP_inv hr
      clear hr
      obtain ⟨v48, m_6, e48, hr⟩ := hq
      have hq := asI_inv hr
      clear hr
      obtain ⟨x48, rfl, hr⟩ := hq
      refine wo_step (v := (.i .i64 x48)) (s_call (mc rfl mn) (callM_le hM.call e48)) ?_
      refine wo_step (v := (.i .i64 x48)) (s_pure (p_mv rfl)) ?_
      refine wo_nil ?_
      refine nx_norm ?_
      refine w_seq ?_
      refine w_ops ?_
      refine wo_step (v := (.i .i64 x48)) (s_pure (p_mv rfl)) ?_
      have hq := forceI_inv hr
      clear hr
      obtain ⟨x50, e50, hr⟩ := hq
      refine wo_step (v := (.i .i64 x50)) (s_pure (p_bin rfl rfl ((b_shr rfl).trans (ci e50)))) ?_
      have hq := bindP_inv hr
      clear hr
      obtain ⟨v51, m_7, e51, hr⟩ := hq
      have hq := asI_inv hr
      clear hr
      obtain ⟨x51, rfl, hr⟩ := hq
      refine wo_step (v := (.i .u8 x51)) (s_call (mc rfl mn) (callM_le hM.call e51)) ?_
      refine wo_step (v := (.i .i64 x48)) (s_pure (p_mv rfl)) ?_
      have hq := forceI_inv hr
      clear hr
      obtain ⟨x53, e53, hr⟩ := hq
      refine wo_step (v := (.i .i64 x53)) (s_pure (p_bin rfl rfl (b_and.trans (ci e53)))) ?_
      have hq := bindP_inv hr
      clear hr
      obtain ⟨v54, m_8, e54, hr⟩ := hq
      have hq := asI_inv hr
      clear hr
      obtain ⟨x54, rfl, hr⟩ := hq
      refine wo_step (v := (.i .u8 x54)) (s_call (mc rfl mn) (callM_le hM.call e54)) ?_
      have hq := bindP_inv hr
      clear hr
      obtain ⟨v55, m_9, e55, hr⟩ := hq
      refine wo_step (v := v55) (s_bsl (qc rfl (qc rfl qn)) e55) ?_
      refine wo_step (v := v55) (s_pure (p_mv rfl)) ?_
      refine wo_nil ?_
      refine nx_norm ?_
      refine w_seq ?_
      refine w_seq ?_
      refine w_ops ?_
      refine wo_step (v := (.s s1)) (s_pure (p_mv g1)) ?_
      have hq := bindO_inv hr
      clear hr
      obtain ⟨v57, e57, hr⟩ := hq
      have hq := asI_inv hr
      clear hr
      obtain ⟨x57, rfl, hr⟩ := hq
      refine wo_step (v := (.i .i64 x57)) (s_pure (o_len rfl e57)) ?_
      refine wo_step (v := (.i .i64 0)) (s_pure (p_mv rfl)) ?_
      refine wo_nil ?_
      refine nx_norm ?_
      refine w_block ?_
      have hq := bindO_inv hr
      clear hr
      obtain ⟨o_3, hl, hr⟩ := hq
      obtain ⟨n, hl⟩ := hM.loop _ _ _ hl
      refine jp_mono (w_loop _ (g53_I1 x0 s1 v15 x57) (g53_J1 x0 s1 v15 x57) ?_ n _ _ _ _ hl ⟨rfl, gl rfl, gl rfl, gl rfl, gl g0, gl g1, gl g6, gl rfl⟩) ?_
      · clear hr hl
        intro s mm_3 t_3 o hi hr
        obtain ⟨x8, v9, x58, m_10⟩ := s
        obtain ⟨rfl, g8, g9, g58, g0, g1, g6, g57⟩ := hi
        unfold g53_b1 at hr
        refine w_seq ?_
        refine w_ops ?_
        have hq := forceB_inv hr
        clear hr
        obtain ⟨c59, e59, hr⟩ := hq
        refine wo_step (v := (.b c59)) (s_pure (p_bin g58 g57 (b_lss.trans (cb e59)))) ?_
        refine wo_nil ?_
        refine nx_norm ?_
        refine w_seq ?_
        have hq := cond_inv hr
        clear hr
        rcases hq with ⟨rfl, hr⟩ | ⟨rfl, hr⟩
        · refine w_condT rfl ?_
          refine w_skip ?_
          refine nx_norm ?_
          refine w_seq ?_
          refine w_block ?_
          refine w_seq ?_
          refine w_ops ?_
          refine wo_step (v := (.i .i64 x58)) (s_pure (p_mv g58)) ?_
          refine wo_step (v := (.i .i64 x58)) (s_pure (p_mv rfl)) ?_
          refine wo_nil ?_
          refine nx_norm ?_
          refine w_seq ?_
          refine w_ops ?_
          refine wo_step (v := (.i .i64 x8)) (s_pure (p_mv g8)) ?_
          have hq := forceI_inv hr
          clear hr
          obtain ⟨x62, e62, hr⟩ := hq
          refine wo_step (v := (.i .i64 x62)) (s_pure (p_bin rfl rfl (b_mul.trans (ci e62)))) ?_
          refine wo_step (v := (.i .i64 x62)) (s_pure (p_mv rfl)) ?_
          refine wo_nil ?_
          refine nx_norm ?_
          refine w_seq ?_
          refine w_seq ?_
          refine w_ops ?_
          refine wo_step (v := (.i .u8 x0)) (s_pure (p_mv g0)) ?_
          refine wo_step (v := (.i .i64 x62)) (s_pure (p_mv rfl)) ?_
          refine wo_step (v := (.s s1)) (s_pure (p_mv g1)) ?_
          refine wo_step (v := (.i .i64 x58)) (s_pure (p_mv rfl)) ?_
          have hq := bindO_inv hr
          clear hr
          obtain ⟨v68, e68, hr⟩ := hq
          have hq := asI_inv hr
          clear hr
          obtain ⟨x68, rfl, hr⟩ := hq
          refine wo_step (v := (.i .u8 x68)) (s_pure (o_ixStr rfl rfl e68)) ?_
          have hq := bindP_inv hr
          clear hr
          obtain ⟨v65, m_11, e65, hr⟩ := hq
          have hq := asI_inv hr
          clear hr
          obtain ⟨x65, rfl, hr⟩ := hq
          refine wo_step (v := (.i .i64 x65)) (s_call (mc rfl (mc rfl mn)) (callM_le hM.call e65)) ?_
          have hq := bindP_inv hr
          clear hr
          obtain ⟨v69, m_12, e69, hr⟩ := hq
          have hq := asI_inv hr
          clear hr
          obtain ⟨x69, rfl, hr⟩ := hq
          refine wo_step (v := (.i .i64 x69)) (s_call (mc rfl mn) (callM_le hM.call e69)) ?_
          have hq := forceB_inv hr
          clear hr
          obtain ⟨c70, e70, hr⟩ := hq
          refine wo_step (v := (.b c70)) (s_pure (p_bin rfl rfl (b_neq.trans (cb e70)))) ?_
          refine wo_step (v := (.b c70)) (s_pure (p_mv rfl)) ?_
          have hq := bindO_inv hr
          clear hr
          obtain ⟨o_1, hr, hk⟩ := hq
          refine wo_join 10 (g53_J2 x0 s1 v15 v9 x62 x57 x58 o_1) ?_ ?_
          · clear hk
            have hq := cond_inv hr
            clear hr
            rcases hq with ⟨rfl, hr⟩ | ⟨rfl, hr⟩
            · refine wo_skip (v := (.b true)) rfl rfl ?_
              refine wo_skip (v := (.b true)) rfl rfl ?_
              refine wo_skip (v := (.b true)) rfl rfl ?_
              refine wo_skip (v := (.b true)) rfl rfl ?_
              refine wo_skip (v := (.b true)) rfl rfl ?_
              refine wo_skip (v := (.b true)) rfl rfl ?_
              refine wo_skip (v := (.b true)) rfl rfl ?_
              refine wo_skip (v := (.b true)) rfl rfl ?_
              refine wo_skip (v := (.b true)) rfl rfl ?_
              refine wo_step (v := (.b true)) (s_pure (p_pickT rfl rfl)) ?_
              refine wo_nil ?_
              cases hr
              exact ⟨_, _, rfl, rfl, gl rfl, gl g0, gl g1, gl g6, gl g9, gl rfl, gl g57, gl g58⟩
            · refine wo_take (v := v15) rfl (s_pure (p_mv g6)) ?_
              refine wo_take (v := (.i .i64 x58)) rfl (s_pure (p_mv rfl)) ?_
              have hq := forceI_inv hr
              clear hr
              obtain ⟨x74, e74, hr⟩ := hq
              refine wo_take (v := (.i .i64 x74)) rfl (s_pure (p_bin rfl rfl (b_add.trans (ci e74)))) ?_
              have hq := bindO_inv hr
              clear hr
              obtain ⟨v75, e75, hr⟩ := hq
              refine wo_take (v := v75) rfl (s_pure (o_ixS rfl rfl e75)) ?_
              refine wo_take (v := (.i .i64 x62)) rfl (s_pure (p_mv rfl)) ?_
              have hq := forceI_inv hr
              clear hr
              obtain ⟨x78, e78, hr⟩ := hq
              refine wo_take (v := (.i .i64 x78)) rfl (s_pure (p_bin rfl rfl (b_and.trans (ci e78)))) ?_
              have hq := bindO_inv hr
              clear hr
              obtain ⟨v76, e76, hr⟩ := hq
              have hq := asI_inv hr
              clear hr
              obtain ⟨x76, rfl, hr⟩ := hq
              refine wo_take (v := (.i .u8 x76)) rfl (s_ld rfl e76) ?_
              have hq := bindP_inv hr
              clear hr
              obtain ⟨v79, m_14, e79, hr⟩ := hq
              have hq := asB_inv hr
              clear hr
              obtain ⟨c79, rfl, hr⟩ := hq
              refine wo_take (v := (.b c79)) rfl (s_call (mc rfl (mc rfl mn)) (callM_le hM.call e79)) ?_
              have hq := forceB_inv hr
              clear hr
              obtain ⟨c80, e80, hr⟩ := hq
              refine wo_take (v := (.b c80)) rfl (s_pure ((p_not rfl).trans (cb e80))) ?_
              refine wo_step (v := (.b c80)) (s_pure (p_pickF rfl rfl)) ?_
              refine wo_nil ?_
              cases hr
              exact ⟨_, _, rfl, rfl, gl rfl, gl g0, gl g1, gl g6, gl g9, gl rfl, gl g57, gl g58⟩
          · clear hr
            have hr := hk
            clear hk
            obtain ⟨c81, m_13⟩ := o_1
            rintro mm t_4 ⟨rfl, g81, g0, g1, g6, g9, g11, g57, g58⟩
            refine wo_nil ?_
            refine nx_norm ?_
            have hq := bindO_inv hr
            clear hr
            obtain ⟨o_2, hr, hk⟩ := hq
            refine jp_mono (J := g53_J3 x0 s1 v15 v9 x57 x58 m_13 o_2) ?_ ?_
            · clear hk
              have hq := cond_inv hr
              clear hr
              rcases hq with ⟨rfl, hr⟩ | ⟨rfl, hr⟩
              · refine w_condT g81 ?_
                refine w_ops ?_
                refine wo_step (v := (.i .i64 x62)) (s_pure (p_mv g11)) ?_
                have hq := forceI_inv hr
                clear hr
                obtain ⟨x83, e83, hr⟩ := hq
                refine wo_step (v := (.i .i64 x83)) (s_pure (p_bin rfl rfl (b_add.trans (ci e83)))) ?_
                refine wo_step (v := (.i .i64 x83)) (s_pure (p_mv rfl)) ?_
                refine wo_nil ?_
                cases hr
                exact ⟨_, _, rfl, rfl, rfl, gl rfl, gl g0, gl g1, gl g6, gl g9, gl g57, gl g58⟩
              · refine w_condF g81 ?_
                refine w_skip ?_
                cases hr
                exact ⟨_, _, rfl, rfl, rfl, gl g11, gl g0, gl g1, gl g6, gl g9, gl g57, gl g58⟩
            · have hr := hk
              clear hk
              obtain ⟨x11, ho⟩ : ∃ z, z = o_2 := ⟨_, rfl⟩
              subst ho
              rintro _ mm_1 t_5 ⟨rfl, rfl, g11, g0, g1, g6, g9, g57, g58⟩
              refine nx_norm ?_
              refine w_seq ?_
              refine w_ops ?_
              refine wo_step (v := (.i .i64 x11)) (s_pure (p_mv g11)) ?_
              have hq := forceI_inv hr
              clear hr
              obtain ⟨x85, e85, hr⟩ := hq
              refine wo_step (v := (.i .i64 x85)) (s_pure (p_bin rfl rfl (b_and.trans (ci e85)))) ?_
              refine wo_step (v := (.i .i64 x85)) (s_pure (p_mv rfl)) ?_
              refine wo_nil ?_
              refine nx_norm ?_
              refine w_ops ?_
              refine wo_step (v := v9) (s_pure (p_mv g9)) ?_
              refine wo_step (v := (.i .i64 x11)) (s_pure (p_mv g11)) ?_
              have hq := forceI_inv hr
              clear hr
              obtain ⟨x88, e88, hr⟩ := hq
              refine wo_step (v := (.i .i64 x88)) (s_pure (p_bin rfl rfl (b_and.trans (ci e88)))) ?_
              have hq := bindP_inv hr
              clear hr
              obtain ⟨v89, m_15, e89, hr⟩ := hq
              have hq := asI_inv hr
              clear hr
              obtain ⟨x89, rfl, hr⟩ := hq
              refine wo_step (v := (.i .u8 x89)) (s_call (mc rfl mn) (callM_le hM.call e89)) ?_
              have hq := bindP_inv hr
              clear hr
              obtain ⟨v90, m_16, e90, hr⟩ := hq
              refine wo_step (v := v90) (s_bsl (qc rfl qn) e90) ?_
              have hq := bindP_inv hr
              clear hr
              obtain ⟨v91, m_17, e91, hr⟩ := hq
              refine wo_step (v := v91) (s_app rfl rfl e91) ?_
              refine wo_step (v := v91) (s_pure (p_mv rfl)) ?_
              refine wo_nil ?_
              refine bk_norm ?_
              refine nx_norm ?_
              refine w_ops ?_
              have hq := forceI_inv hr
              clear hr
              obtain ⟨x92, e92, hr⟩ := hq
              refine wo_step (v := (.i .i64 x92)) (s_pure (p_bin g58 rfl (b_add.trans (ci e92)))) ?_
              refine wo_step (v := (.i .i64 x92)) (s_pure (p_mv rfl)) ?_
              refine wo_nil ?_
              cases hr
              exact ⟨_, _, rfl, rfl, rfl, gl rfl, gl rfl, gl rfl, gl g0, gl g1, gl g6, gl g57⟩
        · refine w_condF rfl ?_
          refine w_exit ?_
          refine nx_exit ?_
          cases hr
          exact ⟨_, _, rfl, ne_norm_exit, rfl, rfl, gl g9⟩
      · obtain ⟨v9_1, m_18⟩ := o_3
        rintro _ mm_2 t_6 ⟨rfl, rfl, g9⟩
        refine bk_hit ?_
        refine nx_norm ?_
        refine w_seq ?_
        refine w_ops ?_
        refine wo_step (v := v9_1) (s_pure (p_mv g9)) ?_
        have hq := bindO_inv hr
        clear hr
        obtain ⟨v94, e94, hr⟩ := hq
        have hq := asS_inv hr
        clear hr
        obtain ⟨s94, rfl, hr⟩ := hq
        refine wo_step (v := (.s s94)) (s_bts rfl e94) ?_
        refine wo_step (v := (.s s94)) (s_pure (p_mv rfl)) ?_
        refine wo_step (v := (.b true)) (s_pure (p_mv rfl)) ?_
        refine wo_nil ?_
        refine nx_norm ?_
        refine w_ret ?_
        exact qf ret_ok (rt rfl (rt rfl rn)) hr

/- dibber/dibberref02.Rule -/
abbrev g54_J0 (m0 : Mm) (o : Bool) (m1 : Mm) (t1 : Tr) : Prop :=
  match o with
  | c8 => m0 = m1 ∧ t1.get 8 = (.b c8)
def g54 (M : Means) (ro : List ABlk) (x0 : Int) (m0 : Mm) : Option (AVal × Heap × Nat × Nat) :=
  forceB (!ltI x0 0) fun c4 =>
  bindO (cond c4 (
    forceB (!ltI 255 x0) fun c7 =>
    some c7) (
    some false)) fun c8 =>
  finM m0.h.length (tupA [(.b c8)]) m0

theorem g54_ok {ro : List ABlk} {O : Caller} {M : Means} (hM : M.Ok ⟨F, O⟩ ro) {x0 h r} (ho : O 54 [(.i .i64 x0)] h = none) (hr : g54 M ro x0 ⟨h, h.length, h.length⟩ = some r) : callX ⟨F, O⟩ ro 54 [(.i .i64 x0)] h = some r := by
  refine callX_of (F := ⟨F, O⟩) (fn := fn54) (g := g54 M ro x0) ho rfl rfl hr ?_
  clear ho
  clear hr
  intro m0 t0 ht hr
  have g0 : t0.get 0 = (.i .i64 x0) := ht 0
  clear ht
  unfold g54 at hr
  refine w_seq ?_
  refine w_ops ?_
  refine wo_step (v := (.b false)) (s_pure (p_mv rfl)) ?_
  refine wo_nil ?_
  refine nx_norm ?_
  refine w_seq ?_
  refine w_ops ?_
  refine wo_step (v := (.i .i64 x0)) (s_pure (p_mv g0)) ?_
  have hq := forceB_inv hr
  clear hr
  obtain ⟨c4, e4, hr⟩ := hq
  refine wo_step (v := (.b c4)) (s_pure (p_bin rfl rfl (b_geq.trans (cb e4)))) ?_
  refine wo_step (v := (.b c4)) (s_pure (p_mv rfl)) ?_
  have hq := bindO_inv hr
  clear hr
  obtain ⟨o, hr, hk⟩ := hq
  refine wo_join 3 (g54_J0 m0 o) ?_ ?_
  · clear hk
    have hq := cond_inv hr
    clear hr
    rcases hq with ⟨rfl, hr⟩ | ⟨rfl, hr⟩
    · refine wo_take (v := (.i .i64 x0)) rfl (s_pure (p_mv g0)) ?_
      have hq := forceB_inv hr
      clear hr
      obtain ⟨c7, e7, hr⟩ := hq
      refine wo_take (v := (.b c7)) rfl (s_pure (p_bin rfl rfl (b_leq.trans (cb e7)))) ?_
      refine wo_step (v := (.b c7)) (s_pure (p_pickT rfl rfl)) ?_
      refine wo_nil ?_
      cases hr
      exact ⟨_, _, rfl, rfl, gl rfl⟩
    · refine wo_skip (v := (.b false)) rfl rfl ?_
      refine wo_skip (v := (.b false)) rfl rfl ?_
      refine wo_step (v := (.b false)) (s_pure (p_pickF rfl rfl)) ?_
      refine wo_nil ?_
      cases hr
      exact ⟨_, _, rfl, rfl, gl rfl⟩
  · clear hr
    have hr := hk
    clear hk
    obtain ⟨c8, ho⟩ : ∃ z, z = o := ⟨_, rfl⟩
    subst ho
    rintro mm t_1 ⟨rfl, g8⟩
    refine wo_step (v := (.b c8)) (s_pure (p_mv g8)) ?_
    refine wo_nil ?_
    refine nx_norm ?_
    refine w_ret ?_
    exact qf ret_ok (rt rfl rn) hr

/- dibber/dibberref02.can -/
abbrev g55_I0 (x0 : Int) (v1 : AVal) (s : AVal × Int × Mm) (m1 : Mm) (t1 : Tr) : Prop :=
  match s with
  | (v7, x8, m_2) => m_2 = m1 ∧ t1.get 7 = v7 ∧ t1.get 8 = (.i .i64 x8) ∧ t1.get 0 = (.i .i64 x0) ∧ t1.get 1 = v1
abbrev g55_J0 (x0 : Int) (v1 : AVal) (o : (AVal × Mm)) (e : AExit) (m1 : Mm) (t1 : Tr) : Prop :=
  match o with
  | (y7, mo) => e = (.exit 0) ∧ mo = m1 ∧ t1.get 7 = y7
def g55_b0 (M : Means) (ro : List ABlk) (x0 : Int) (v1 : AVal) (v7 : AVal) (x8 : Int) (m_2 : Mm) : Option ((AVal × Int × Mm) ⊕ ((AVal × Mm))) :=
  bindO (evP .e (.len false (.c v1))) fun v13 =>
  asI .i64 v13 fun x13 =>
  forceB (ltI x8 x13) fun c14 =>
  cond c14 (
    forceI (wr .i64 (x8 + 1)) fun x21 =>
    bindO (evP .e (.slS 1 (.c v1) (some (.c (.i .i64 x8))) (some (.c (.i .i64 x21))) none)) fun v22 =>
    bindP (callM M.call m_2 59 [(.i .i64 x0), v22, v7]) fun v24 m_3 =>
    bindP (callM M.call m_3 77 [v24]) fun v25 m_4 =>
    forceI (wr .i64 (x8 + 1)) fun x16 =>
    some (.inl (v25, x16, m_4))) (
    some (.inr (v7, m_2)))
def g55 (M : Means) (ro : List ABlk) (x0 : Int) (v1 : AVal) (x2 : Int) (m0 : Mm) : Option (AVal × Heap × Nat × Nat) :=
  bindP (callM M.call m0 60 [(.i .i64 x2)]) fun v10 m_1 =>
  bindO (M.loop (S := AVal × Int × Mm) (R := (AVal × Mm)) (fun s => g55_b0 M ro x0 v1 s.1 s.2.1 s.2.2) (v10, 0, m_1)) fun ⟨v7_1, m_5⟩ =>
  bindP (callM M.call m_5 58 [v7_1]) fun v27 m_6 =>
  asI .i64 v27 fun x27 =>
  forceB (ltI 0 x27) fun c28 =>
  finM m0.h.length (tupA [(.b c28)]) m_6

theorem g55_ok {ro : List ABlk} {O : Caller} {M : Means} (hM : M.Ok ⟨F, O⟩ ro) {x0 v1 x2 h r} (ho : O 55 [(.i .i64 x0), v1, (.i .i64 x2)] h = none) (hr : g55 M ro x0 v1 x2 ⟨h, h.length, h.length⟩ = some r) : callX ⟨F, O⟩ ro 55 [(.i .i64 x0), v1, (.i .i64 x2)] h = some r := by
  refine callX_of (F := ⟨F, O⟩) (fn := fn55) (g := g55 M ro x0 v1 x2) ho rfl rfl hr ?_
  clear ho
  clear hr
  intro m0 t0 ht hr
  have g0 : t0.get 0 = (.i .i64 x0) := ht 0
  have g1 : t0.get 1 = v1 := ht 1
  have g2 : t0.get 2 = (.i .i64 x2) := ht 2
  clear ht
  unfold g55 at hr
  refine w_seq ?_
  refine w_ops ?_
  refine wo_step (v := (.b false)) (s_pure (p_mv rfl)) ?_
  refine wo_nil ?_
  refine nx_norm ?_
  refine w_seq ?_
  refine w_ops ?_
  refine wo_step (v := (.i .i64 x2)) (s_pure (p_mv g2)) ?_
  have hq := bindP_inv hr
  clear hr
  obtain ⟨v10, m_1, e10, hr⟩ := hq
  refine wo_step (v := v10) (s_call (mc rfl mn) (callM_le hM.call e10)) ?_
  refine wo_step (v := v10) (s_pure (p_mv rfl)) ?_
  refine wo_nil ?_
  refine nx_norm ?_
  refine w_seq ?_
  refine w_seq ?_
  refine w_ops ?_
  refine wo_step (v := (.i .i64 0)) (s_pure (p_mv rfl)) ?_
  refine wo_nil ?_
  refine nx_norm ?_
  refine w_block ?_
  have hq := bindO_inv hr
  clear hr
  obtain ⟨o, hl, hr⟩ := hq
  obtain ⟨n, hl⟩ := hM.loop _ _ _ hl
  refine jp_mono (w_loop _ (g55_I0 x0 v1) (g55_J0 x0 v1) ?_ n _ _ _ _ hl ⟨rfl, gl rfl, gl rfl, gl g0, gl g1⟩) ?_
  · clear hr hl
    intro s mm_1 t_1 o hi hr
    obtain ⟨v7, x8, m_2⟩ := s
    obtain ⟨rfl, g7, g8, g0, g1⟩ := hi
    unfold g55_b0 at hr
    refine w_seq ?_
    refine w_seq ?_
    refine w_ops ?_
    refine wo_step (v := (.i .i64 x8)) (s_pure (p_mv g8)) ?_
    refine wo_step (v := v1) (s_pure (p_mv g1)) ?_
    have hq := bindO_inv hr
    clear hr
    obtain ⟨v13, e13, hr⟩ := hq
    have hq := asI_inv hr
    clear hr
    obtain ⟨x13, rfl, hr⟩ := hq
    refine wo_step (v := (.i .i64 x13)) (s_pure (o_len rfl e13)) ?_
    have hq := forceB_inv hr
    clear hr
    obtain ⟨c14, e14, hr⟩ := hq
    refine wo_step (v := (.b c14)) (s_pure (p_bin rfl rfl (b_lss.trans (cb e14)))) ?_
    refine wo_nil ?_
    refine nx_norm ?_
    have hq := cond_inv hr
    clear hr
    rcases hq with ⟨rfl, hr⟩ | ⟨rfl, hr⟩
    · refine w_condT rfl ?_
      refine w_skip ?_
      refine nx_norm ?_
      refine w_seq ?_
      refine w_block ?_
      refine w_ops ?_
      refine wo_step (v := (.i .i64 x0)) (s_pure (p_mv g0)) ?_
      refine wo_step (v := v1) (s_pure (p_mv g1)) ?_
      refine wo_step (v := (.i .i64 x8)) (s_pure (p_mv g8)) ?_
      refine wo_step (v := (.i .i64 x8)) (s_pure (p_mv g8)) ?_
      have hq := forceI_inv hr
      clear hr
      obtain ⟨x21, e21, hr⟩ := hq
      refine wo_step (v := (.i .i64 x21)) (s_pure (p_bin rfl rfl (b_add.trans (ci e21)))) ?_
      have hq := bindO_inv hr
      clear hr
      obtain ⟨v22, e22, hr⟩ := hq
      refine wo_step (v := v22) (s_pure (o_slS rfl (os rfl) (os rfl) on e22)) ?_
      refine wo_step (v := v7) (s_pure (p_mv g7)) ?_
      have hq := bindP_inv hr
      clear hr
      obtain ⟨v24, m_3, e24, hr⟩ := hq
      refine wo_step (v := v24) (s_call (mc rfl (mc rfl (mc rfl mn))) (callM_le hM.call e24)) ?_
      have hq := bindP_inv hr
      clear hr
      obtain ⟨v25, m_4, e25, hr⟩ := hq
      refine wo_step (v := v25) (s_call (mc rfl mn) (callM_le hM.call e25)) ?_
      refine wo_step (v := v25) (s_pure (p_mv rfl)) ?_
      refine wo_nil ?_
      refine bk_norm ?_
      refine nx_norm ?_
      refine w_ops ?_
      refine wo_step (v := (.i .i64 x8)) (s_pure (p_mv g8)) ?_
      have hq := forceI_inv hr
      clear hr
      obtain ⟨x16, e16, hr⟩ := hq
      refine wo_step (v := (.i .i64 x16)) (s_pure (p_bin rfl rfl (b_add.trans (ci e16)))) ?_
      refine wo_step (v := (.i .i64 x16)) (s_pure (p_mv rfl)) ?_
      refine wo_nil ?_
      cases hr
      exact ⟨_, _, rfl, rfl, rfl, gl rfl, gl rfl, gl g0, gl g1⟩
    · refine w_condF rfl ?_
      refine w_exit ?_
      refine nx_exit ?_
      cases hr
      exact ⟨_, _, rfl, ne_norm_exit, rfl, rfl, gl g7⟩
  · obtain ⟨v7_1, m_5⟩ := o
    rintro _ mm t_2 ⟨rfl, rfl, g7⟩
    refine bk_hit ?_
    refine nx_norm ?_
    refine w_seq ?_
    refine w_ops ?_
    refine wo_step (v := v7_1) (s_pure (p_mv g7)) ?_
    have hq := bindP_inv hr
    clear hr
    obtain ⟨v27, m_6, e27, hr⟩ := hq
    have hq := asI_inv hr
    clear hr
    obtain ⟨x27, rfl, hr⟩ := hq
    refine wo_step (v := (.i .i64 x27)) (s_call (mc rfl mn) (callM_le hM.call e27)) ?_
    have hq := forceB_inv hr
    clear hr
    obtain ⟨c28, e28, hr⟩ := hq
    refine wo_step (v := (.b c28)) (s_pure (p_bin rfl rfl (b_gtr.trans (cb e28)))) ?_
    refine wo_step (v := (.b c28)) (s_pure (p_mv rfl)) ?_
    refine wo_nil ?_
    refine nx_norm ?_
    refine w_ret ?_
    exact qf ret_ok (rt rfl rn) hr

/- dibber/weed.readShort -/
abbrev g56_J0 (x12 : Int) (x13 : Int) (m_1 : Mm) (o : Bool) (m1 : Mm) (t1 : Tr) : Prop :=
  match o with
  | c20 => m_1 = m1 ∧ t1.get 20 = (.b c20) ∧ t1.get 6 = (.i .u8 x12) ∧ t1.get 7 = (.i .i64 x13)
def g56 (M : Means) (ro : List ABlk) (x0 : Int) (s1 : List UInt8) (m0 : Mm) : Option (AVal × Heap × Nat × Nat) :=
  bindP (callM M.call m0 45 [(.i .i64 x0), (.s s1)]) fun v11 m_1 =>
  bindO (evP .e (.ext 0 (.c v11))) fun v12 =>
  asI .u8 v12 fun x12 =>
  bindO (evP .e (.ext 1 (.c v11))) fun v13 =>
  asI .i64 v13 fun x13 =>
  forceB (eqI x13 0) fun c15 =>
  bindO (cond c15 (
    bindO (evP .e (.len true (.c (.s s1)))) fun v18 =>
    asI .i64 v18 fun x18 =>
    forceB (ltI 50 x18) fun c19 =>
    some c19) (
    some false)) fun c20 =>
  cond c20 (
    finM m0.h.length (tupA [(.i .u8 0), (.i .i64 2)]) m_1) (
    finM m0.h.length (tupA [(.i .u8 x12), (.i .i64 x13)]) m_1)

theorem g56_ok {ro : List ABlk} {O : Caller} {M : Means} (hM : M.Ok ⟨F, O⟩ ro) {x0 s1 h r} (ho : O 56 [(.i .i64 x0), (.s s1)] h = none) (hr : g56 M ro x0 s1 ⟨h, h.length, h.length⟩ = some r) : callX ⟨F, O⟩ ro 56 [(.i .i64 x0), (.s s1)] h = some r := by
  refine callX_of (F := ⟨F, O⟩) (fn := fn56) (g := g56 M ro x0 s1) ho rfl rfl hr ?_
  clear ho
  clear hr
  intro m0 t0 ht hr
  have g0 : t0.get 0 = (.i .i64 x0) := ht 0
  have g1 : t0.get 1 = (.s s1) := ht 1
  clear ht
  unfold g56 at hr
  refine w_seq ?_
  refine w_ops ?_
  refine wo_step (v := (.i .u8 0)) (s_pure (p_mv rfl)) ?_
  refine wo_step (v := (.i .i64 0)) (s_pure (p_mv rfl)) ?_
  refine wo_nil ?_
  refine nx_norm ?_
  refine w_seq ?_
  refine w_ops ?_
  refine wo_step (v := (.i .i64 x0)) (s_pure (p_mv g0)) ?_
  refine wo_step (v := (.s s1)) (s_pure (p_mv g1)) ?_
  have hq := bindP_inv hr
  clear hr
  obtain ⟨v11, m_1, e11, hr⟩ := hq
  refine wo_step (v := v11) (s_call (mc rfl (mc rfl mn)) (callM_le hM.call e11)) ?_
  refine wo_step (v := v11) (s_pure (p_mv rfl)) ?_
  have hq := bindO_inv hr
  clear hr
  obtain ⟨v12, e12, hr⟩ := hq
  have hq := asI_inv hr
  clear hr
  obtain ⟨x12, rfl, hr⟩ := hq
  refine wo_step (v := (.i .u8 x12)) (s_pure (o_ext rfl e12)) ?_
  have hq := bindO_inv hr
  clear hr
  obtain ⟨v13, e13, hr⟩ := hq
  have hq := asI_inv hr
  clear hr
  obtain ⟨x13, rfl, hr⟩ := hq
  refine wo_step (v := (.i .i64 x13)) (s_pure (o_ext rfl e13)) ?_
  refine wo_step (v := (.i .u8 x12)) (s_pure (p_mv rfl)) ?_
  refine wo_step (v := (.i .i64 x13)) (s_pure (p_mv rfl)) ?_
  refine wo_nil ?_
  refine nx_norm ?_
  refine w_seq ?_
  refine w_seq ?_
  refine w_ops ?_
  refine wo_step (v := (.i .i64 x13)) (s_pure (p_mv rfl)) ?_
  have hq := forceB_inv hr
  clear hr
  obtain ⟨c15, e15, hr⟩ := hq
  refine wo_step (v := (.b c15)) (s_pure (p_bin rfl rfl (b_eql.trans (cb e15)))) ?_
  refine wo_step (v := (.b c15)) (s_pure (p_mv rfl)) ?_
  have hq := bindO_inv hr
  clear hr
  obtain ⟨o, hr, hk⟩ := hq
  refine wo_join 4 (g56_J0 x12 x13 m_1 o) ?_ ?_
  · clear hk
    have hq := cond_inv hr
    clear hr
    rcases hq with ⟨rfl, hr⟩ | ⟨rfl, hr⟩
    · refine wo_take (v := (.s s1)) rfl (s_pure (p_mv g1)) ?_
      have hq := bindO_inv hr
      clear hr
      obtain ⟨v18, e18, hr⟩ := hq
      have hq := asI_inv hr
      clear hr
      obtain ⟨x18, rfl, hr⟩ := hq
      refine wo_take (v := (.i .i64 x18)) rfl (s_pure (o_len rfl e18)) ?_
      have hq := forceB_inv hr
      clear hr
      obtain ⟨c19, e19, hr⟩ := hq
      refine wo_take (v := (.b c19)) rfl (s_pure (p_bin rfl rfl (b_gtr.trans (cb e19)))) ?_
      refine wo_step (v := (.b c19)) (s_pure (p_pickT rfl rfl)) ?_
      refine wo_nil ?_
      cases hr
      exact ⟨_, _, rfl, rfl, gl rfl, gl rfl, gl rfl⟩
    · refine wo_skip (v := (.b false)) rfl rfl ?_
      refine wo_skip (v := (.b false)) rfl rfl ?_
      refine wo_skip (v := (.b false)) rfl rfl ?_
      refine wo_step (v := (.b false)) (s_pure (p_pickF rfl rfl)) ?_
      refine wo_nil ?_
      cases hr
      exact ⟨_, _, rfl, rfl, gl rfl, gl rfl, gl rfl⟩
  · clear hr
    have hr := hk
    clear hk
    obtain ⟨c20, ho⟩ : ∃ z, z = o := ⟨_, rfl⟩
    subst ho
    rintro mm t_1 ⟨rfl, g20, g6, g7⟩
    refine wo_nil ?_
    refine nx_norm ?_
    have hq := cond_inv hr
    clear hr
    rcases hq with ⟨rfl, hr⟩ | ⟨rfl, hr⟩
    · refine w_condT g20 ?_
      refine w_seq ?_
      refine w_ops ?_
      refine wo_step (v := (.i .u8 0)) (s_pure (p_mv rfl)) ?_
      refine wo_step (v := (.i .i64 2)) (s_pure (p_mv rfl)) ?_
      refine wo_nil ?_
      refine nx_norm ?_
      refine w_ret ?_
      refine nx_ret ?_
      exact qf ret_ok (rt rfl (rt rfl rn)) hr
    · refine w_condF g20 ?_
      refine w_skip ?_
      refine nx_norm ?_
      refine w_seq ?_
      refine w_ops ?_
      refine wo_step (v := (.i .u8 x12)) (s_pure (p_mv g6)) ?_
      refine wo_step (v := (.i .i64 x13)) (s_pure (p_mv g7)) ?_
      refine wo_step (v := (.i .u8 x12)) (s_pure (p_mv rfl)) ?_
      refine wo_step (v := (.i .i64 x13)) (s_pure (p_mv rfl)) ?_
      refine wo_nil ?_
      refine nx_norm ?_
      refine w_ret ?_
      exact qf ret_ok (rt rfl (rt rfl rn)) hr

/- (dibber/weed.rule).walks -/
abbrev g57_I0 (x0 : Int) (s1 : List UInt8) (v6 : AVal) (v7 : AVal) (x13 : Int) (s : Int × Mm) (m1 : Mm) (t1 : Tr) : Prop :=
  match s with
  | (x14, m_5) => m_5 = m1 ∧ t1.get 14 = (.i .i64 x14) ∧ t1.get 0 = (.i .u8 x0) ∧ t1.get 1 = (.s s1) ∧ t1.get 6 = v6 ∧ t1.get 7 = v7 ∧ t1.get 13 = (.i .i64 x13)
abbrev g57_J0 (x0 : Int) (s1 : List UInt8) (v6 : AVal) (v7 : AVal) (x13 : Int) (o : Mm) (e : AExit) (m1 : Mm) (t1 : Tr) : Prop :=
  match o with
  | mo => e = (.exit 0) ∧ mo = m1 ∧ t1.get 6 = v6 ∧ t1.get 7 = v7
abbrev g57_I1 (x0 : Int) (s1 : List UInt8) (v6 : AVal) (v7 : AVal) (x14 : Int) (v9 : AVal) (x13 : Int) (s : Int × Mm) (m1 : Mm) (t1 : Tr) : Prop :=
  match s with
  | (x17, m_7) => m_7 = m1 ∧ t1.get 17 = (.i .i64 x17) ∧ t1.get 0 = (.i .u8 x0) ∧ t1.get 1 = (.s s1) ∧ t1.get 6 = v6 ∧ t1.get 7 = v7 ∧ t1.get 8 = (.i .i64 x14) ∧ t1.get 9 = v9 ∧ t1.get 13 = (.i .i64 x13) ∧ t1.get 14 = (.i .i64 x14)
abbrev g57_J1 (x0 : Int) (s1 : List UInt8) (v6 : AVal) (v7 : AVal) (x14 : Int) (v9 : AVal) (x13 : Int) (o : Mm) (e : AExit) (m1 : Mm) (t1 : Tr) : Prop :=
  match o with
  | mo => e = (.exit 2) ∧ mo = m1 ∧ t1.get 0 = (.i .u8 x0) ∧ t1.get 1 = (.s s1) ∧ t1.get 6 = v6 ∧ t1.get 7 = v7 ∧ t1.get 9 = v9 ∧ t1.get 13 = (.i .i64 x13) ∧ t1.get 14 = (.i .i64 x14)
abbrev g57_J2 (x0 : Int) (s1 : List UInt8) (v6 : AVal) (v7 : AVal) (x14 : Int) (v9 : AVal) (x13 : Int) (x17 : Int) (o : Mm) (e : AExit) (m1 : Mm) (t1 : Tr) : Prop :=
  match o with
  | mo => e = .norm ∧ mo = m1 ∧ t1.get 0 = (.i .u8 x0) ∧ t1.get 1 = (.s s1) ∧ t1.get 6 = v6 ∧ t1.get 7 = v7 ∧ t1.get 8 = (.i .i64 x14) ∧ t1.get 9 = v9 ∧ t1.get 13 = (.i .i64 x13) ∧ t1.get 14 = (.i .i64 x14) ∧ t1.get 17 = (.i .i64 x17)
def g57_b1 (M : Means) (ro : List ABlk) (x0 : Int) (s1 : List UInt8) (v6 : AVal) (v7 : AVal) (x14 : Int) (v9 : AVal) (x13 : Int) (x17 : Int) (m_7 : Mm) : Option ((Int × Mm) ⊕ (Mm)) :=
  forceB (ltI x17 8) fun c18 =>
  cond c18 (
    bindO (evP .e (.ixStr (.c (.s s1)) (.c (.i .i64 x14)))) fun v25 =>
    asI .u8 v25 fun x25 =>
    bindP (callM M.call m_7 72 [(.i .u8 x0), (.i .i64 x17)]) fun v22 m_8 =>
    asI .i64 v22 fun x22 =>
    bindP (callM M.call m_8 73 [(.i .u8 x25)]) fun v26 m_9 =>
    asI .i64 v26 fun x26 =>
    forceB (eqI x22 x26) fun c27 =>
    bindO (α := Mm) (
      cond c27 (
        forceI (bitV .and .i64 x17 3) fun x29 =>
        bindO (evP .e (.ixA 4 1 (.c v9) (.c (.i .i64 x29)))) fun v30 =>
        bindO (ldA ro m_9.h true 1 v30) fun v31 =>
        asI .i64 v31 fun x31 =>
        forceI (shrV .i64 x17 1) fun x33 =>
        bindO (evP .e (.ixA 4 1 (.c v7) (.c (.i .i64 x33)))) fun v34 =>
        bindO (ldA ro m_9.h true 1 v34) fun v35 =>
        asI .i64 v35 fun x35 =>
        forceI (wr .i64 (x31 + x35)) fun x36 =>
        bindO (evP .e (.ixA 4 1 (.c v9) (.c (.i .i64 x29)))) fun v37 =>
        asP v37 fun qs =>
        bindO (writesM ro [] [(qs, AVal.cells (.i .i64 x36))] ⟨m_9.h, m_9.lw, m_9.lp⟩) fun m_10 =>
        some m_10) (
        some m_9)) fun m_11 =>
    forceI (wr .i64 (x17 + 1)) fun x38 =>
    some (.inl (x38, m_11))) (
    some (.inr m_7))
def g57_b0 (M : Means) (ro : List ABlk) (x0 : Int) (s1 : List UInt8) (v6 : AVal) (v7 : AVal) (x13 : Int) (x14 : Int) (m_5 : Mm) : Option ((Int × Mm) ⊕ (Mm)) :=
  forceB (ltI x14 x13) fun c15 =>
  cond c15 (
    bindP (stepM ro m_5 (.al 63 [(AVal.i IntKind.i64 0), (AVal.i IntKind.i64 0), (AVal.i IntKind.i64 0), (AVal.i IntKind.i64 0)])) fun v9 m_6 =>
    bindO (M.loop (S := Int × Mm) (R := Mm) (fun s => g57_b1 M ro x0 s1 v6 v7 x14 v9 x13 s.1 s.2) (0, m_6)) fun m_12 =>
    bindO (ldM ro m_12 false 4 v9) fun v39 =>
    bindP (stepM ro m_12 (.st 4 (.c v7) (.c v39))) fun vn_1 m_13 =>
    forceI (wr .i64 (x14 + 1)) fun x40 =>
    some (.inl (x40, m_13))) (
    some (.inr m_5))
def g57 (M : Means) (ro : List ABlk) (x0 : Int) (s1 : List UInt8) (v2 : AVal) (m0 : Mm) : Option (AVal × Heap × Nat × Nat) :=
  bindP (stepM ro m0 (.bx 63 4 (.c v2))) fun v5 m_1 =>
  bindP (stepM ro m_1 (.al 63 [(AVal.i IntKind.i64 0), (AVal.i IntKind.i64 0), (AVal.i IntKind.i64 0), (AVal.i IntKind.i64 0)])) fun v6 m_2 =>
  bindO (ldM ro m_2 false 4 v5) fun v11 =>
  bindP (stepM ro m_2 (.al 63 [(AVal.i IntKind.i64 0), (AVal.i IntKind.i64 0), (AVal.i IntKind.i64 0), (AVal.i IntKind.i64 0)])) fun v7 m_3 =>
  bindP (stepM ro m_3 (.st 4 (.c v7) (.c v11))) fun vn m_4 =>
  bindO (evP .e (.len true (.c (.s s1)))) fun v13 =>
  asI .i64 v13 fun x13 =>
  bindO (M.loop (S := Int × Mm) (R := Mm) (fun s => g57_b0 M ro x0 s1 v6 v7 x13 s.1 s.2) (0, m_4)) fun m_14 =>
  bindO (ldM ro m_14 false 4 v7) fun v41 =>
  bindP (stepM ro m_14 (.st 4 (.c v6) (.c v41))) fun vn_2 m_15 =>
  bindO (ldM ro m_15 false 4 v6) fun vr =>
  finM m0.h.length (tupA [vr]) m_15

theorem g57_ok {ro : List ABlk} {O : Caller} {M : Means} (hM : M.Ok ⟨F, O⟩ ro) {x0 s1 v2 h r} (ho : O 57 [(.i .u8 x0), (.s s1), v2] h = none) (hr : g57 M ro x0 s1 v2 ⟨h, h.length, h.length⟩ = some r) : callX ⟨F, O⟩ ro 57 [(.i .u8 x0), (.s s1), v2] h = some r := by
  refine callX_of (F := ⟨F, O⟩) (fn := fn57) (g := g57 M ro x0 s1 v2) ho rfl rfl hr ?_
  clear ho
  clear hr
  intro m0 t0 ht hr
  have g0 : t0.get 0 = (.i .u8 x0) := ht 0
  have g1 : t0.get 1 = (.s s1) := ht 1
  have g2 : t0.get 2 = v2 := ht 2
  clear ht
  unfold g57 at hr
  refine w_seq ?_
  refine w_ops ?_
  have hq := bindP_inv hr
  clear hr
  obtain ⟨v5, m_1, e5, hr⟩ := hq
  refine wo_step (v := v5) (s_bx g2 e5) ?_
  have hq := bindP_inv hr
  clear hr
  obtain ⟨v6, m_2, e6, hr⟩ := hq
  refine wo_step (v := v6) (s_al e6) ?_
  refine wo_nil ?_
  refine nx_norm ?_
  refine w_seq ?_
  refine w_ops ?_
  have hq := bindO_inv hr
  clear hr
  obtain ⟨v11, e11, hr⟩ := hq
  refine wo_step (v := v11) (s_ld rfl e11) ?_
  have hq := bindP_inv hr
  clear hr
  obtain ⟨v7, m_3, e7, hr⟩ := hq
  refine wo_step (v := v7) (s_al e7) ?_
  have hq := bindP_inv hr
  clear hr
  obtain ⟨vn, m_4, en, hr⟩ := hq
  refine wo_stepN (s_st rfl rfl en) ?_
  refine wo_nil ?_
  refine nx_norm ?_
  refine w_seq ?_
  refine w_seq ?_
  refine w_ops ?_
  refine wo_step (v := (.s s1)) (s_pure (p_mv g1)) ?_
  have hq := bindO_inv hr
  clear hr
  obtain ⟨v13, e13, hr⟩ := hq
  have hq := asI_inv hr
  clear hr
  obtain ⟨x13, rfl, hr⟩ := hq
  refine wo_step (v := (.i .i64 x13)) (s_pure (o_len rfl e13)) ?_
  refine wo_step (v := (.i .i64 0)) (s_pure (p_mv rfl)) ?_
  refine wo_nil ?_
  refine nx_norm ?_
  refine w_block ?_
  have hq := bindO_inv hr
  clear hr
  obtain ⟨o_2, hl_1, hr⟩ := hq
  obtain ⟨n_1, hl_1⟩ := hM.loop _ _ _ hl_1
  refine jp_mono (w_loop _ (g57_I0 x0 s1 v6 v7 x13) (g57_J0 x0 s1 v6 v7 x13) ?_ n_1 _ _ _ _ hl_1 ⟨rfl, gl rfl, gl g0, gl g1, gl rfl, gl rfl, gl rfl⟩) ?_
  · clear hr hl_1
    intro s mm_4 t_1 o hi hr
    obtain ⟨x14, m_5⟩ := s
    obtain ⟨rfl, g14, g0, g1, g6, g7, g13⟩ := hi
    unfold g57_b0 at hr
    refine w_seq ?_
    refine w_ops ?_
    have hq := forceB_inv hr
    clear hr
    obtain ⟨c15, e15, hr⟩ := hq
    refine wo_step (v := (.b c15)) (s_pure (p_bin g14 g13 (b_lss.trans (cb e15)))) ?_
    refine wo_nil ?_
    refine nx_norm ?_
    refine w_seq ?_
    have hq := cond_inv hr
    clear hr
    rcases hq with ⟨rfl, hr⟩ | ⟨rfl, hr⟩
    · refine w_condT rfl ?_
      refine w_skip ?_
      refine nx_norm ?_
      refine w_seq ?_
      refine w_block ?_
      refine w_seq ?_
      refine w_ops ?_
      refine wo_step (v := (.i .i64 x14)) (s_pure (p_mv g14)) ?_
      refine wo_step (v := (.i .i64 x14)) (s_pure (p_mv rfl)) ?_
      refine wo_nil ?_
      refine nx_norm ?_
      refine w_seq ?_
      refine w_ops ?_
      have hq := bindP_inv hr
      clear hr
      obtain ⟨v9, m_6, e9, hr⟩ := hq
      refine wo_step (v := v9) (s_al e9) ?_
      refine wo_nil ?_
      refine nx_norm ?_
      refine w_seq ?_
      refine w_seq ?_
      refine w_ops ?_
      refine wo_step (v := (.i .i64 0)) (s_pure (p_mv rfl)) ?_
      refine wo_nil ?_
      refine nx_norm ?_
      refine w_block ?_
      have hq := bindO_inv hr
      clear hr
      obtain ⟨o_1, hl, hr⟩ := hq
      obtain ⟨n, hl⟩ := hM.loop _ _ _ hl
      refine jp_mono (w_loop _ (g57_I1 x0 s1 v6 v7 x14 v9 x13) (g57_J1 x0 s1 v6 v7 x14 v9 x13) ?_ n _ _ _ _ hl ⟨rfl, gl rfl, gl g0, gl g1, gl g6, gl g7, gl rfl, gl rfl, gl g13, gl g14⟩) ?_
      · clear hr hl
        intro s mm_2 t_2 o hi hr
        obtain ⟨x17, m_7⟩ := s
        obtain ⟨rfl, g17, g0, g1, g6, g7, g8, g9, g13, g14⟩ := hi
        unfold g57_b1 at hr
        refine w_seq ?_
        refine w_ops ?_
        have hq := forceB_inv hr
        clear hr
        obtain ⟨c18, e18, hr⟩ := hq
        refine wo_step (v := (.b c18)) (s_pure (p_bin g17 rfl (b_lss.trans (cb e18)))) ?_
        refine wo_nil ?_
        refine nx_norm ?_
        refine w_seq ?_
        have hq := cond_inv hr
        clear hr
        rcases hq with ⟨rfl, hr⟩ | ⟨rfl, hr⟩
        · refine w_condT rfl ?_
          refine w_skip ?_
          refine nx_norm ?_
          refine w_seq ?_
          refine w_block ?_
          refine w_seq ?_
          refine w_ops ?_
          refine wo_step (v := (.i .i64 x17)) (s_pure (p_mv g17)) ?_
          refine wo_step (v := (.i .i64 x17)) (s_pure (p_mv rfl)) ?_
          refine wo_nil ?_
          refine nx_norm ?_
          refine w_seq ?_
          refine w_ops ?_
          refine wo_step (v := (.i .u8 x0)) (s_pure (p_mv g0)) ?_
          refine wo_step (v := (.i .i64 x17)) (s_pure (p_mv rfl)) ?_
          refine wo_step (v := (.s s1)) (s_pure (p_mv g1)) ?_
          refine wo_step (v := (.i .i64 x14)) (s_pure (p_mv g8)) ?_
          have hq := bindO_inv hr
          clear hr
          obtain ⟨v25, e25, hr⟩ := hq
          have hq := asI_inv hr
          clear hr
          obtain ⟨x25, rfl, hr⟩ := hq
          refine wo_step (v := (.i .u8 x25)) (s_pure (o_ixStr rfl rfl e25)) ?_
          have hq := bindP_inv hr
          clear hr
          obtain ⟨v22, m_8, e22, hr⟩ := hq
          have hq := asI_inv hr
          clear hr
          obtain ⟨x22, rfl, hr⟩ := hq
          refine wo_step (v := (.i .i64 x22)) (s_call (mc rfl (mc rfl mn)) (callM_le hM.call e22)) ?_
          have hq := bindP_inv hr
          clear hr
          obtain ⟨v26, m_9, e26, hr⟩ := hq
          have hq := asI_inv hr
          clear hr
          obtain ⟨x26, rfl, hr⟩ := hq
          refine wo_step (v := (.i .i64 x26)) (s_call (mc rfl mn) (callM_le hM.call e26)) ?_
          have hq := forceB_inv hr
          clear hr
          obtain ⟨c27, e27, hr⟩ := hq
          refine wo_step (v := (.b c27)) (s_pure (p_bin rfl rfl (b_eql.trans (cb e27)))) ?_
          refine wo_nil ?_
          refine nx_norm ?_
          have hq := bindO_inv hr
          clear hr
          obtain ⟨o, hr, hk⟩ := hq
          refine jp_mono (J := g57_J2 x0 s1 v6 v7 x14 v9 x13 x17 o) ?_ ?_
          · clear hk
            have hq := cond_inv hr
            clear hr
            rcases hq with ⟨rfl, hr⟩ | ⟨rfl, hr⟩
            · refine w_condT rfl ?_
              refine w_any ?_
              refine wa_step (v := (.i .i64 x17)) (a_pure (p_mv rfl)) ?_
              have hq := forceI_inv hr
              clear hr
              obtain ⟨x29, e29, hr⟩ := hq
              refine wa_step (v := (.i .i64 x29)) (a_pure (p_bin rfl rfl (b_and.trans (ci e29)))) ?_
              have hq := bindO_inv hr
              clear hr
              obtain ⟨v30, e30, hr⟩ := hq
              refine wa_step (v := v30) (a_pure (o_ixA g9 rfl e30)) ?_
              have hq := bindO_inv hr
              clear hr
              obtain ⟨v31, e31, hr⟩ := hq
              have hq := asI_inv hr
              clear hr
              obtain ⟨x31, rfl, hr⟩ := hq
              refine wa_step (v := (.i .i64 x31)) (a_ld rfl e31) ?_
              refine wa_step (v := (.i .i64 x17)) (a_pure (p_mv rfl)) ?_
              have hq := forceI_inv hr
              clear hr
              obtain ⟨x33, e33, hr⟩ := hq
              refine wa_step (v := (.i .i64 x33)) (a_pure (p_bin rfl rfl ((b_shr rfl).trans (ci e33)))) ?_
              have hq := bindO_inv hr
              clear hr
              obtain ⟨v34, e34, hr⟩ := hq
              refine wa_step (v := v34) (a_pure (o_ixA g7 rfl e34)) ?_
              have hq := bindO_inv hr
              clear hr
              obtain ⟨v35, e35, hr⟩ := hq
              have hq := asI_inv hr
              clear hr
              obtain ⟨x35, rfl, hr⟩ := hq
              refine wa_step (v := (.i .i64 x35)) (a_ld rfl e35) ?_
              have hq := forceI_inv hr
              clear hr
              obtain ⟨x36, e36, hr⟩ := hq
              refine wa_step (v := (.i .i64 x36)) (a_pure (p_bin rfl rfl (b_add.trans (ci e36)))) ?_
              have hq := bindO_inv hr
              clear hr
              obtain ⟨v37, e37, hr⟩ := hq
              refine wa_step (v := v37) (a_pure (o_ixA g9 rfl e37)) ?_
              have hq := asP_inv hr
              clear hr
              obtain ⟨qs, eqs, hr⟩ := hq
              refine wa_stepN (a_st (Eq.trans (b := v37) rfl eqs) rfl rfl) ?_
              have hq := bindO_inv hr
              clear hr
              obtain ⟨m_10, ew, hr⟩ := hq
              refine wa_nil ?_
              refine ⟨m_10, ew, ?_⟩
              cases hr
              exact ⟨_, _, rfl, rfl, rfl, gl g0, gl g1, gl g6, gl g7, gl g8, gl g9, gl g13, gl g14, gl g17⟩
            · refine w_condF rfl ?_
              refine w_skip ?_
              cases hr
              exact ⟨_, _, rfl, rfl, rfl, gl g0, gl g1, gl g6, gl g7, gl g8, gl g9, gl g13, gl g14, gl g17⟩
          · have hr := hk
            clear hk
            obtain ⟨m_11, ho⟩ : ∃ z, z = o := ⟨_, rfl⟩
            subst ho
            rintro _ mm t_3 ⟨rfl, rfl, g0, g1, g6, g7, g8, g9, g13, g14, g17⟩
            refine bk_norm ?_
            refine nx_norm ?_
            refine w_ops ?_
            have hq := forceI_inv hr
            clear hr
            obtain ⟨x38, e38, hr⟩ := hq
            refine wo_step (v := (.i .i64 x38)) (s_pure (p_bin g17 rfl (b_add.trans (ci e38)))) ?_
            refine wo_step (v := (.i .i64 x38)) (s_pure (p_mv rfl)) ?_
            refine wo_nil ?_
            cases hr
            exact ⟨_, _, rfl, rfl, rfl, gl rfl, gl g0, gl g1, gl g6, gl g7, gl g8, gl g9, gl g13, gl g14⟩
        · refine w_condF rfl ?_
          refine w_exit ?_
          refine nx_exit ?_
          cases hr
          exact ⟨_, _, rfl, ne_norm_exit, rfl, rfl, gl g0, gl g1, gl g6, gl g7, gl g9, gl g13, gl g14⟩
      · obtain ⟨m_12, ho⟩ : ∃ z, z = o_1 := ⟨_, rfl⟩
        subst ho
        rintro _ mm_1 t_4 ⟨rfl, rfl, g0, g1, g6, g7, g9, g13, g14⟩
        refine bk_hit ?_
        refine nx_norm ?_
        refine w_ops ?_
        have hq := bindO_inv hr
        clear hr
        obtain ⟨v39, e39, hr⟩ := hq
        refine wo_step (v := v39) (s_ld g9 e39) ?_
        have hq := bindP_inv hr
        clear hr
        obtain ⟨vn_1, m_13, en_1, hr⟩ := hq
        refine wo_stepN (s_st g7 rfl en_1) ?_
        refine wo_nil ?_
        refine bk_norm ?_
        refine nx_norm ?_
        refine w_ops ?_
        have hq := forceI_inv hr
        clear hr
        obtain ⟨x40, e40, hr⟩ := hq
        refine wo_step (v := (.i .i64 x40)) (s_pure (p_bin g14 rfl (b_add.trans (ci e40)))) ?_
        refine wo_step (v := (.i .i64 x40)) (s_pure (p_mv rfl)) ?_
        refine wo_nil ?_
        cases hr
        exact ⟨_, _, rfl, rfl, rfl, gl rfl, gl g0, gl g1, gl g6, gl g7, gl g13⟩
    · refine w_condF rfl ?_
      refine w_exit ?_
      refine nx_exit ?_
      cases hr
      exact ⟨_, _, rfl, ne_norm_exit, rfl, rfl, gl g6, gl g7⟩
  · obtain ⟨m_14, ho⟩ : ∃ z, z = o_2 := ⟨_, rfl⟩
    subst ho
    rintro _ mm_3 t_5 ⟨rfl, rfl, g6, g7⟩
    refine bk_hit ?_
    refine nx_norm ?_
    refine w_seq ?_
    refine w_ops ?_
    have hq := bindO_inv hr
    clear hr
    obtain ⟨v41, e41, hr⟩ := hq
    refine wo_step (v := v41) (s_ld g7 e41) ?_
    have hq := bindP_inv hr
    clear hr
    obtain ⟨vn_2, m_15, en_2, hr⟩ := hq
    refine wo_stepN (s_st g6 rfl en_2) ?_
    refine wo_nil ?_
    refine nx_norm ?_
    refine w_ret ?_
    have hq := bindO_inv hr
    clear hr
    obtain ⟨vr, er, hr⟩ := hq
    exact qf ret_ok (rc g6 er rn) hr

/- dibber/dibberref02.sum -/
abbrev g58_I0 (v0 : AVal) (m0 : Mm) (s : Int × Int) (m1 : Mm) (t1 : Tr) : Prop :=
  match s with
  | (x3, x4) => m0 = m1 ∧ t1.get 3 = (.i .i64 x3) ∧ t1.get 4 = (.i .i64 x4) ∧ t1.get 0 = v0
abbrev g58_J0 (v0 : AVal) (m0 : Mm) (o : Int) (e : AExit) (m1 : Mm) (t1 : Tr) : Prop :=
  match o with
  | y3 => e = (.exit 0) ∧ m0 = m1 ∧ t1.get 3 = (.i .i64 y3)
def g58_b0 (M : Means) (ro : List ABlk) (v0 : AVal) (m0 : Mm) (x3 : Int) (x4 : Int) : Option ((Int × Int) ⊕ (Int)) :=
  bindO (evP .e (.len false (.c v0))) fun v7 =>
  asI .i64 v7 fun x7 =>
  forceB (ltI x4 x7) fun c8 =>
  cond c8 (
    bindO (evP .e (.ixS 1 (.c v0) (.c (.i .i64 x4)))) fun v14 =>
    bindO (ldM ro m0 true 1 v14) fun v15 =>
    asI .i64 v15 fun x15 =>
    forceI (wr .i64 (x3 + x15)) fun x16 =>
    forceI (wr .i64 (x4 + 1)) fun x10 =>
    some (.inl (x16, x10))) (
    some (.inr x3))
def g58 (M : Means) (ro : List ABlk) (v0 : AVal) (m0 : Mm) : Option (AVal × Heap × Nat × Nat) :=
  bindO (M.loop (S := Int × Int) (R := Int) (fun s => g58_b0 M ro v0 m0 s.1 s.2) (0, 0)) fun x3_1 =>
  finM m0.h.length (tupA [(.i .i64 x3_1)]) m0

theorem g58_ok {ro : List ABlk} {O : Caller} {M : Means} (hM : M.Ok ⟨F, O⟩ ro) {v0 h r} (ho : O 58 [v0] h = none) (hr : g58 M ro v0 ⟨h, h.length, h.length⟩ = some r) : callX ⟨F, O⟩ ro 58 [v0] h = some r := by
  refine callX_of (F := ⟨F, O⟩) (fn := fn58) (g := g58 M ro v0) ho rfl rfl hr ?_
  clear ho
  clear hr
  intro m0 t0 ht hr
  have g0 : t0.get 0 = v0 := ht 0
  clear ht
  unfold g58 at hr
  refine w_seq ?_
  refine w_ops ?_
  refine wo_step (v := (.i .i64 0)) (s_pure (p_mv rfl)) ?_
  refine wo_nil ?_
  refine nx_norm ?_
  refine w_seq ?_
  refine w_ops ?_
  refine wo_step (v := (.i .i64 0)) (s_pure (p_mv rfl)) ?_
  refine wo_nil ?_
  refine nx_norm ?_
  refine w_seq ?_
  refine w_seq ?_
  refine w_ops ?_
  refine wo_step (v := (.i .i64 0)) (s_pure (p_mv rfl)) ?_
  refine wo_nil ?_
  refine nx_norm ?_
  refine w_block ?_
  have hq := bindO_inv hr
  clear hr
  obtain ⟨o, hl, hr⟩ := hq
  obtain ⟨n, hl⟩ := hM.loop _ _ _ hl
  refine jp_mono (w_loop _ (g58_I0 v0 m0) (g58_J0 v0 m0) ?_ n _ _ _ _ hl ⟨rfl, gl rfl, gl rfl, gl g0⟩) ?_
  · clear hr hl
    intro s mm_1 t_1 o hi hr
    obtain ⟨x3, x4⟩ := s
    obtain ⟨rfl, g3, g4, g0⟩ := hi
    unfold g58_b0 at hr
    refine w_seq ?_
    refine w_seq ?_
    refine w_ops ?_
    refine wo_step (v := (.i .i64 x4)) (s_pure (p_mv g4)) ?_
    refine wo_step (v := v0) (s_pure (p_mv g0)) ?_
    have hq := bindO_inv hr
    clear hr
    obtain ⟨v7, e7, hr⟩ := hq
    have hq := asI_inv hr
    clear hr
    obtain ⟨x7, rfl, hr⟩ := hq
    refine wo_step (v := (.i .i64 x7)) (s_pure (o_len rfl e7)) ?_
    have hq := forceB_inv hr
    clear hr
    obtain ⟨c8, e8, hr⟩ := hq
    refine wo_step (v := (.b c8)) (s_pure (p_bin rfl rfl (b_lss.trans (cb e8)))) ?_
    refine wo_nil ?_
    refine nx_norm ?_
    have hq := cond_inv hr
    clear hr
    rcases hq with ⟨rfl, hr⟩ | ⟨rfl, hr⟩
    · refine w_condT rfl ?_
      refine w_skip ?_
      refine nx_norm ?_
      refine w_seq ?_
      refine w_block ?_
      refine w_ops ?_
      refine wo_step (v := (.i .i64 x3)) (s_pure (p_mv g3)) ?_
      refine wo_step (v := v0) (s_pure (p_mv g0)) ?_
      refine wo_step (v := (.i .i64 x4)) (s_pure (p_mv g4)) ?_
      have hq := bindO_inv hr
      clear hr
      obtain ⟨v14, e14, hr⟩ := hq
      refine wo_step (v := v14) (s_pure (o_ixS rfl rfl e14)) ?_
      have hq := bindO_inv hr
      clear hr
      obtain ⟨v15, e15, hr⟩ := hq
      have hq := asI_inv hr
      clear hr
      obtain ⟨x15, rfl, hr⟩ := hq
      refine wo_step (v := (.i .i64 x15)) (s_ld rfl e15) ?_
      have hq := forceI_inv hr
      clear hr
      obtain ⟨x16, e16, hr⟩ := hq
      refine wo_step (v := (.i .i64 x16)) (s_pure (p_bin rfl rfl (b_add.trans (ci e16)))) ?_
      refine wo_step (v := (.i .i64 x16)) (s_pure (p_mv rfl)) ?_
      refine wo_nil ?_
      refine bk_norm ?_
      refine nx_norm ?_
      refine w_ops ?_
      refine wo_step (v := (.i .i64 x4)) (s_pure (p_mv g4)) ?_
      have hq := forceI_inv hr
      clear hr
      obtain ⟨x10, e10, hr⟩ := hq
      refine wo_step (v := (.i .i64 x10)) (s_pure (p_bin rfl rfl (b_add.trans (ci e10)))) ?_
      refine wo_step (v := (.i .i64 x10)) (s_pure (p_mv rfl)) ?_
      refine wo_nil ?_
      cases hr
      exact ⟨_, _, rfl, rfl, rfl, gl rfl, gl rfl, gl g0⟩
    · refine w_condF rfl ?_
      refine w_exit ?_
      refine nx_exit ?_
      cases hr
      exact ⟨_, _, rfl, ne_norm_exit, rfl, rfl, gl g3⟩
  · obtain ⟨x3_1, ho⟩ : ∃ z, z = o := ⟨_, rfl⟩
    subst ho
    rintro _ mm t_2 ⟨rfl, rfl, g3⟩
    refine bk_hit ?_
    refine nx_norm ?_
    refine w_seq ?_
    refine w_ops ?_
    refine wo_step (v := (.i .i64 x3_1)) (s_pure (p_mv g3)) ?_
    refine wo_step (v := (.i .i64 x3_1)) (s_pure (p_mv rfl)) ?_
    refine wo_nil ?_
    refine nx_norm ?_
    refine w_ret ?_
    exact qf ret_ok (rt rfl rn) hr

/- dibber/dibberref02.ways -/
abbrev g59_I0 (x0 : Int) (v1 : AVal) (s : AVal × Int × Mm) (m1 : Mm) (t1 : Tr) : Prop :=
  match s with
  | (v7, x8, m_1) => m_1 = m1 ∧ t1.get 7 = v7 ∧ t1.get 8 = (.i .i64 x8) ∧ t1.get 0 = (.i .i64 x0) ∧ t1.get 1 = v1
abbrev g59_J0 (x0 : Int) (v1 : AVal) (o : (AVal × Mm)) (e : AExit) (m1 : Mm) (t1 : Tr) : Prop :=
  match o with
  | (y7, mo) => e = (.exit 0) ∧ mo = m1 ∧ t1.get 7 = y7
abbrev g59_I1 (x0 : Int) (v1 : AVal) (v7 : AVal) (x8 : Int) (v19 : AVal) (s : Int × Mm) (m1 : Mm) (t1 : Tr) : Prop :=
  match s with
  | (x10, m_3) => m_3 = m1 ∧ t1.get 10 = (.i .i64 x10) ∧ t1.get 0 = (.i .i64 x0) ∧ t1.get 1 = v1 ∧ t1.get 7 = v7 ∧ t1.get 8 = (.i .i64 x8) ∧ t1.get 9 = v19
abbrev g59_J1 (x0 : Int) (v1 : AVal) (v7 : AVal) (x8 : Int) (v19 : AVal) (o : Mm) (e : AExit) (m1 : Mm) (t1 : Tr) : Prop :=
  match o with
  | mo => e = (.exit 2) ∧ mo = m1 ∧ t1.get 0 = (.i .i64 x0) ∧ t1.get 1 = v1 ∧ t1.get 8 = (.i .i64 x8) ∧ t1.get 9 = v19
abbrev g59_I2 (x0 : Int) (v1 : AVal) (v7 : AVal) (x8 : Int) (v19 : AVal) (x10 : Int) (s : Int × Mm) (m1 : Mm) (t1 : Tr) : Prop :=
  match s with
  | (x11, m_4) => m_4 = m1 ∧ t1.get 11 = (.i .i64 x11) ∧ t1.get 0 = (.i .i64 x0) ∧ t1.get 1 = v1 ∧ t1.get 7 = v7 ∧ t1.get 8 = (.i .i64 x8) ∧ t1.get 9 = v19 ∧ t1.get 10 = (.i .i64 x10)
abbrev g59_J2 (x0 : Int) (v1 : AVal) (v7 : AVal) (x8 : Int) (v19 : AVal) (x10 : Int) (o : Mm) (e : AExit) (m1 : Mm) (t1 : Tr) : Prop :=
  match o with
  | mo => e = (.exit 4) ∧ mo = m1 ∧ t1.get 0 = (.i .i64 x0) ∧ t1.get 1 = v1 ∧ t1.get 7 = v7 ∧ t1.get 8 = (.i .i64 x8) ∧ t1.get 9 = v19 ∧ t1.get 10 = (.i .i64 x10)
abbrev g59_J3 (x0 : Int) (v1 : AVal) (v7 : AVal) (x8 : Int) (v19 : AVal) (x10 : Int) (x11 : Int) (o : Mm) (e : AExit) (m1 : Mm) (t1 : Tr) : Prop :=
  match o with
  | mo => e = .norm ∧ mo = m1 ∧ t1.get 0 = (.i .i64 x0) ∧ t1.get 1 = v1 ∧ t1.get 7 = v7 ∧ t1.get 8 = (.i .i64 x8) ∧ t1.get 9 = v19 ∧ t1.get 10 = (.i .i64 x10) ∧ t1.get 11 = (.i .i64 x11)
def g59_b2 (M : Means) (ro : List ABlk) (x0 : Int) (v1 : AVal) (v7 : AVal) (x8 : Int) (v19 : AVal) (x10 : Int) (x11 : Int) (m_4 : Mm) : Option ((Int × Mm) ⊕ (Mm)) :=
  forceB (ltI x11 2) fun c25 =>
  cond c25 (
    forceI (wr .i64 (Int.tdiv x10 2)) fun x30 =>
    forceI (Int.tmod x10 2) fun x32 =>
    bindO (callN M.call m_4.h 49 [(.i .i64 x0), (.i .i64 x30), (.i .i64 x32), (.i .i64 x11)]) fun v34 =>
    asI .i64 v34 fun x34 =>
    bindO (evP .e (.ixS 1 (.c v1) (.c (.i .i64 x8)))) fun v37 =>
    bindO (ldA ro m_4.h true 1 v37) fun v38 =>
    asI .i64 v38 fun x38 =>
    forceB (eqI x34 x38) fun c39 =>
    bindO (α := Mm) (
      cond c39 (
        forceI (Int.tmod x10 2) fun x42 =>
        forceI (wr .i64 (x42 * 2)) fun x43 =>
        forceI (wr .i64 (x43 + x11)) fun x45 =>
        bindO (evP .e (.ixS 1 (.c v19) (.c (.i .i64 x45)))) fun v46 =>
        bindO (ldA ro m_4.h true 1 v46) fun v47 =>
        asI .i64 v47 fun x47 =>
        bindO (evP .e (.ixS 1 (.c v7) (.c (.i .i64 x10)))) fun v50 =>
        bindO (ldA ro m_4.h true 1 v50) fun v51 =>
        asI .i64 v51 fun x51 =>
        forceI (wr .i64 (x47 + x51)) fun x52 =>
        bindO (evP .e (.ixS 1 (.c v19) (.c (.i .i64 x45)))) fun v53 =>
        asP v53 fun qs =>
        bindO (writesM ro [] [(qs, AVal.cells (.i .i64 x52))] ⟨m_4.h, m_4.lw, m_4.lp⟩) fun m_5 =>
        some m_5) (
        some m_4)) fun m_6 =>
    forceI (wr .i64 (x11 + 1)) fun x27 =>
    some (.inl (x27, m_6))) (
    some (.inr m_4))
def g59_b1 (M : Means) (ro : List ABlk) (x0 : Int) (v1 : AVal) (v7 : AVal) (x8 : Int) (v19 : AVal) (x10 : Int) (m_3 : Mm) : Option ((Int × Mm) ⊕ (Mm)) :=
  forceB (ltI x10 4) fun c21 =>
  cond c21 (
    bindO (M.loop (S := Int × Mm) (R := Mm) (fun s => g59_b2 M ro x0 v1 v7 x8 v19 x10 s.1 s.2) (0, m_3)) fun m_7 =>
    forceI (wr .i64 (x10 + 1)) fun x23 =>
    some (.inl (x23, m_7))) (
    some (.inr m_3))
def g59_b0 (M : Means) (ro : List ABlk) (x0 : Int) (v1 : AVal) (v7 : AVal) (x8 : Int) (m_1 : Mm) : Option ((AVal × Int × Mm) ⊕ ((AVal × Mm))) :=
  bindO (evP .e (.len false (.c v1))) fun v15 =>
  asI .i64 v15 fun x15 =>
  forceB (ltI x8 x15) fun c16 =>
  cond c16 (
    bindP (stepM ro m_1 (.mk 3 1 8 [(AVal.i IntKind.i64 0)] (.c (.i .i64 4)) (.c (.i .i64 4)))) fun v19 m_2 =>
    bindO (M.loop (S := Int × Mm) (R := Mm) (fun s => g59_b1 M ro x0 v1 v7 x8 v19 s.1 s.2) (0, m_2)) fun m_8 =>
    forceI (wr .i64 (x8 + 1)) fun x18 =>
    some (.inl (v19, x18, m_8))) (
    some (.inr (v7, m_1)))
def g59 (M : Means) (ro : List ABlk) (x0 : Int) (v1 : AVal) (v2 : AVal) (m0 : Mm) : Option (AVal × Heap × Nat × Nat) :=
  bindO (M.loop (S := AVal × Int × Mm) (R := (AVal × Mm)) (fun s => g59_b0 M ro x0 v1 s.1 s.2.1 s.2.2) (v2, 0, m0)) fun ⟨v7_1, m_9⟩ =>
  finM m0.h.length (tupA [v7_1]) m_9

theorem g59_ok {ro : List ABlk} {O : Caller} {M : Means} (hM : M.Ok ⟨F, O⟩ ro) {x0 v1 v2 h r} (ho : O 59 [(.i .i64 x0), v1, v2] h = none) (hr : g59 M ro x0 v1 v2 ⟨h, h.length, h.length⟩ = some r) : callX ⟨F, O⟩ ro 59 [(.i .i64 x0), v1, v2] h = some r := by
  refine callX_of (F := ⟨F, O⟩) (fn := fn59) (g := g59 M ro x0 v1 v2) ho rfl rfl hr ?_
  clear ho
  clear hr
  intro m0 t0 ht hr
  have g0 : t0.get 0 = (.i .i64 x0) := ht 0
  have g1 : t0.get 1 = v1 := ht 1
  have g2 : t0.get 2 = v2 := ht 2
  clear ht
  unfold g59 at hr
  refine w_seq ?_
  refine w_ops ?_
  refine wo_step (v := AVal.nsl) (s_pure (p_mv rfl)) ?_
  refine wo_nil ?_
  refine nx_norm ?_
  refine w_seq ?_
  refine w_ops ?_
  refine wo_step (v := v2) (s_pure (p_mv g2)) ?_
  refine wo_step (v := v2) (s_pure (p_mv rfl)) ?_
  refine wo_nil ?_
  refine nx_norm ?_
  refine w_seq ?_
  refine w_seq ?_
  refine w_ops ?_
  refine wo_step (v := (.i .i64 0)) (s_pure (p_mv rfl)) ?_
  refine wo_nil ?_
  refine nx_norm ?_
  refine w_block ?_
  have hq := bindO_inv hr
  clear hr
  obtain ⟨o_3, hl_2, hr⟩ := hq
  obtain ⟨n_2, hl_2⟩ := hM.loop _ _ _ hl_2
  refine jp_mono (w_loop _ (g59_I0 x0 v1) (g59_J0 x0 v1) ?_ n_2 _ _ _ _ hl_2 ⟨rfl, gl rfl, gl rfl, gl g0, gl g1⟩) ?_
  · clear hr hl_2
    intro s mm_6 t_1 o hi hr
    obtain ⟨v7, x8, m_1⟩ := s
    obtain ⟨rfl, g7, g8, g0, g1⟩ := hi
    unfold g59_b0 at hr
    refine w_seq ?_
    refine w_seq ?_
    refine w_ops ?_
    refine wo_step (v := (.i .i64 x8)) (s_pure (p_mv g8)) ?_
    refine wo_step (v := v1) (s_pure (p_mv g1)) ?_
    have hq := bindO_inv hr
    clear hr
    obtain ⟨v15, e15, hr⟩ := hq
    have hq := asI_inv hr
    clear hr
    obtain ⟨x15, rfl, hr⟩ := hq
    refine wo_step (v := (.i .i64 x15)) (s_pure (o_len rfl e15)) ?_
    have hq := forceB_inv hr
    clear hr
    obtain ⟨c16, e16, hr⟩ := hq
    refine wo_step (v := (.b c16)) (s_pure (p_bin rfl rfl (b_lss.trans (cb e16)))) ?_
    refine wo_nil ?_
    refine nx_norm ?_
    have hq := cond_inv hr
    clear hr
    rcases hq with ⟨rfl, hr⟩ | ⟨rfl, hr⟩
    · refine w_condT rfl ?_
      refine w_skip ?_
      refine nx_norm ?_
      refine w_seq ?_
      refine w_block ?_
      refine w_seq ?_
      refine w_ops ?_
      have hq := bindP_inv hr
      clear hr
      obtain ⟨v19, m_2, e19, hr⟩ := hq
      refine wo_step (v := v19) (s_mk rfl rfl e19) ?_
      refine wo_step (v := v19) (s_pure (p_mv rfl)) ?_
      refine wo_nil ?_
      refine nx_norm ?_
      refine w_seq ?_
      refine w_seq ?_
      refine w_ops ?_
      refine wo_step (v := (.i .i64 0)) (s_pure (p_mv rfl)) ?_
      refine wo_nil ?_
      refine nx_norm ?_
      refine w_block ?_
      have hq := bindO_inv hr
      clear hr
      obtain ⟨o_2, hl_1, hr⟩ := hq
      obtain ⟨n_1, hl_1⟩ := hM.loop _ _ _ hl_1
      refine jp_mono (w_loop _ (g59_I1 x0 v1 v7 x8 v19) (g59_J1 x0 v1 v7 x8 v19) ?_ n_1 _ _ _ _ hl_1 ⟨rfl, gl rfl, gl g0, gl g1, gl g7, gl g8, gl rfl⟩) ?_
      · clear hr hl_1
        intro s mm_4 t_2 o hi hr
        obtain ⟨x10, m_3⟩ := s
        obtain ⟨rfl, g10, g0, g1, g7, g8, g9⟩ := hi
        unfold g59_b1 at hr
        refine w_seq ?_
        refine w_seq ?_
        refine w_ops ?_
        refine wo_step (v := (.i .i64 x10)) (s_pure (p_mv g10)) ?_
        have hq := forceB_inv hr
        clear hr
        obtain ⟨c21, e21, hr⟩ := hq
        refine wo_step (v := (.b c21)) (s_pure (p_bin rfl rfl (b_lss.trans (cb e21)))) ?_
        refine wo_nil ?_
        refine nx_norm ?_
        have hq := cond_inv hr
        clear hr
        rcases hq with ⟨rfl, hr⟩ | ⟨rfl, hr⟩
        · refine w_condT rfl ?_
          refine w_skip ?_
          refine nx_norm ?_
          refine w_seq ?_
          refine w_block ?_
          refine w_seq ?_
          refine w_ops ?_
          refine wo_step (v := (.i .i64 0)) (s_pure (p_mv rfl)) ?_
          refine wo_nil ?_
          refine nx_norm ?_
          refine w_block ?_
          have hq := bindO_inv hr
          clear hr
          obtain ⟨o_1, hl, hr⟩ := hq
          obtain ⟨n, hl⟩ := hM.loop _ _ _ hl
          refine jp_mono (w_loop _ (g59_I2 x0 v1 v7 x8 v19 x10) (g59_J2 x0 v1 v7 x8 v19 x10) ?_ n _ _ _ _ hl ⟨rfl, gl rfl, gl g0, gl g1, gl g7, gl g8, gl g9, gl g10⟩) ?_
          · clear hr hl
            intro s mm_2 t_3 o hi hr
            obtain ⟨x11, m_4⟩ := s
            obtain ⟨rfl, g11, g0, g1, g7, g8, g9, g10⟩ := hi
            unfold g59_b2 at hr
            refine w_seq ?_
            refine w_seq ?_
            refine w_ops ?_
            refine wo_step (v := (.i .i64 x11)) (s_pure (p_mv g11)) ?_
            have hq := forceB_inv hr
            clear hr
            obtain ⟨c25, e25, hr⟩ := hq
            refine wo_step (v := (.b c25)) (s_pure (p_bin rfl rfl (b_lss.trans (cb e25)))) ?_
            refine wo_nil ?_
            refine nx_norm ?_
            have hq := cond_inv hr
            clear hr
            rcases hq with ⟨rfl, hr⟩ | ⟨rfl, hr⟩
            · refine w_condT rfl ?_
              refine w_skip ?_
              refine nx_norm ?_
              refine w_seq ?_
              refine w_block ?_
              refine w_seq ?_
              refine w_any ?_
              refine wa_step (v := (.i .i64 x0)) (a_pure (p_mv g0)) ?_
              refine wa_step (v := (.i .i64 x10)) (a_pure (p_mv g10)) ?_
              have hq := forceI_inv hr
              clear hr
              obtain ⟨x30, e30, hr⟩ := hq
              refine wa_step (v := (.i .i64 x30)) (a_pure (p_bin rfl rfl ((b_quo rfl).trans (ci e30)))) ?_
              refine wa_step (v := (.i .i64 x10)) (a_pure (p_mv g10)) ?_
              have hq := forceI_inv hr
              clear hr
              obtain ⟨x32, e32, hr⟩ := hq
              refine wa_step (v := (.i .i64 x32)) (a_pure (p_bin rfl rfl ((b_rem rfl).trans (ci e32)))) ?_
              refine wa_step (v := (.i .i64 x11)) (a_pure (p_mv g11)) ?_
              have hq := bindO_inv hr
              clear hr
              obtain ⟨v34, e34, hr⟩ := hq
              have hq := asI_inv hr
              clear hr
              obtain ⟨x34, rfl, hr⟩ := hq
              refine wa_step (v := (.i .i64 x34)) (a_call (mc rfl (mc rfl (mc rfl (mc rfl mn)))) (callN_le hM.call e34)) ?_
              refine wa_step (v := v1) (a_pure (p_mv g1)) ?_
              refine wa_step (v := (.i .i64 x8)) (a_pure (p_mv g8)) ?_
              have hq := bindO_inv hr
              clear hr
              obtain ⟨v37, e37, hr⟩ := hq
              refine wa_step (v := v37) (a_pure (o_ixS rfl rfl e37)) ?_
              have hq := bindO_inv hr
              clear hr
              obtain ⟨v38, e38, hr⟩ := hq
              have hq := asI_inv hr
              clear hr
              obtain ⟨x38, rfl, hr⟩ := hq
              refine wa_step (v := (.i .i64 x38)) (a_ld rfl e38) ?_
              have hq := forceB_inv hr
              clear hr
              obtain ⟨c39, e39, hr⟩ := hq
              refine wa_step (v := (.b c39)) (a_pure (p_bin rfl rfl (b_eql.trans (cb e39)))) ?_
              refine wa_nil ?_
              refine ⟨m_4, rfl, ?_⟩
              refine nx_norm ?_
              have hq := bindO_inv hr
              clear hr
              obtain ⟨o, hr, hk⟩ := hq
              refine jp_mono (J := g59_J3 x0 v1 v7 x8 v19 x10 x11 o) ?_ ?_
              · clear hk
                have hq := cond_inv hr
                clear hr
                rcases hq with ⟨rfl, hr⟩ | ⟨rfl, hr⟩
                · refine w_condT rfl ?_
                  refine w_any ?_
                  refine wa_step (v := v19) (a_pure (p_mv g9)) ?_
                  refine wa_step (v := (.i .i64 x10)) (a_pure (p_mv g10)) ?_
                  have hq := forceI_inv hr
                  clear hr
                  obtain ⟨x42, e42, hr⟩ := hq
                  refine wa_step (v := (.i .i64 x42)) (a_pure (p_bin rfl rfl ((b_rem rfl).trans (ci e42)))) ?_
                  have hq := forceI_inv hr
                  clear hr
                  obtain ⟨x43, e43, hr⟩ := hq
                  refine wa_step (v := (.i .i64 x43)) (a_pure (p_bin rfl rfl (b_mul.trans (ci e43)))) ?_
                  refine wa_step (v := (.i .i64 x11)) (a_pure (p_mv g11)) ?_
                  have hq := forceI_inv hr
                  clear hr
                  obtain ⟨x45, e45, hr⟩ := hq
                  refine wa_step (v := (.i .i64 x45)) (a_pure (p_bin rfl rfl (b_add.trans (ci e45)))) ?_
                  have hq := bindO_inv hr
                  clear hr
                  obtain ⟨v46, e46, hr⟩ := hq
                  refine wa_step (v := v46) (a_pure (o_ixS rfl rfl e46)) ?_
                  have hq := bindO_inv hr
                  clear hr
                  obtain ⟨v47, e47, hr⟩ := hq
                  have hq := asI_inv hr
                  clear hr
                  obtain ⟨x47, rfl, hr⟩ := hq
                  refine wa_step (v := (.i .i64 x47)) (a_ld rfl e47) ?_
                  refine wa_step (v := v7) (a_pure (p_mv g7)) ?_
                  refine wa_step (v := (.i .i64 x10)) (a_pure (p_mv g10)) ?_
                  have hq := bindO_inv hr
                  clear hr
                  obtain ⟨v50, e50, hr⟩ := hq
                  refine wa_step (v := v50) (a_pure (o_ixS rfl rfl e50)) ?_
                  have hq := bindO_inv hr
                  clear hr
                  obtain ⟨v51, e51, hr⟩ := hq
                  have hq := asI_inv hr
                  clear hr
                  obtain ⟨x51, rfl, hr⟩ := hq
                  refine wa_step (v := (.i .i64 x51)) (a_ld rfl e51) ?_
                  have hq := forceI_inv hr
                  clear hr
                  obtain ⟨x52, e52, hr⟩ := hq
                  refine wa_step (v := (.i .i64 x52)) (a_pure (p_bin rfl rfl (b_add.trans (ci e52)))) ?_
                  have hq := bindO_inv hr
                  clear hr
                  obtain ⟨v53, e53, hr⟩ := hq
                  refine wa_step (v := v53) (a_pure (o_ixS rfl rfl e53)) ?_
                  have hq := asP_inv hr
                  clear hr
                  obtain ⟨qs, eqs, hr⟩ := hq
                  refine wa_stepN (a_st (Eq.trans (b := v53) rfl eqs) rfl rfl) ?_
                  have hq := bindO_inv hr
                  clear hr
                  obtain ⟨m_5, ew, hr⟩ := hq
                  refine wa_nil ?_
                  refine ⟨m_5, ew, ?_⟩
                  cases hr
                  exact ⟨_, _, rfl, rfl, rfl, gl g0, gl g1, gl g7, gl g8, gl g9, gl g10, gl g11⟩
                · refine w_condF rfl ?_
                  refine w_skip ?_
                  cases hr
                  exact ⟨_, _, rfl, rfl, rfl, gl g0, gl g1, gl g7, gl g8, gl g9, gl g10, gl g11⟩
              · have hr := hk
                clear hk
                obtain ⟨m_6, ho⟩ : ∃ z, z = o := ⟨_, rfl⟩
                subst ho
                rintro _ mm t_4 ⟨rfl, rfl, g0, g1, g7, g8, g9, g10, g11⟩
                refine bk_norm ?_
                refine nx_norm ?_
                refine w_ops ?_
                refine wo_step (v := (.i .i64 x11)) (s_pure (p_mv g11)) ?_
                have hq := forceI_inv hr
                clear hr
                obtain ⟨x27, e27, hr⟩ := hq
                refine wo_step (v := (.i .i64 x27)) (s_pure (p_bin rfl rfl (b_add.trans (ci e27)))) ?_
                refine wo_step (v := (.i .i64 x27)) (s_pure (p_mv rfl)) ?_
                refine wo_nil ?_
                cases hr
                exact ⟨_, _, rfl, rfl, rfl, gl rfl, gl g0, gl g1, gl g7, gl g8, gl g9, gl g10⟩
            · refine w_condF rfl ?_
              refine w_exit ?_
              refine nx_exit ?_
              cases hr
              exact ⟨_, _, rfl, ne_norm_exit, rfl, rfl, gl g0, gl g1, gl g7, gl g8, gl g9, gl g10⟩
          · obtain ⟨m_7, ho⟩ : ∃ z, z = o_1 := ⟨_, rfl⟩
            subst ho
            rintro _ mm_1 t_5 ⟨rfl, rfl, g0, g1, g7, g8, g9, g10⟩
            refine bk_hit ?_
            refine bk_norm ?_
            refine nx_norm ?_
            refine w_ops ?_
            refine wo_step (v := (.i .i64 x10)) (s_pure (p_mv g10)) ?_
            have hq := forceI_inv hr
            clear hr
            obtain ⟨x23, e23, hr⟩ := hq
            refine wo_step (v := (.i .i64 x23)) (s_pure (p_bin rfl rfl (b_add.trans (ci e23)))) ?_
            refine wo_step (v := (.i .i64 x23)) (s_pure (p_mv rfl)) ?_
            refine wo_nil ?_
            cases hr
            exact ⟨_, _, rfl, rfl, rfl, gl rfl, gl g0, gl g1, gl g7, gl g8, gl g9⟩
        · refine w_condF rfl ?_
          refine w_exit ?_
          refine nx_exit ?_
          cases hr
          exact ⟨_, _, rfl, ne_norm_exit, rfl, rfl, gl g0, gl g1, gl g8, gl g9⟩
      · obtain ⟨m_8, ho⟩ : ∃ z, z = o_2 := ⟨_, rfl⟩
        subst ho
        rintro _ mm_3 t_6 ⟨rfl, rfl, g0, g1, g8, g9⟩
        refine bk_hit ?_
        refine nx_norm ?_
        refine w_ops ?_
        refine wo_step (v := v19) (s_pure (p_mv g9)) ?_
        refine wo_step (v := v19) (s_pure (p_mv rfl)) ?_
        refine wo_nil ?_
        refine bk_norm ?_
        refine nx_norm ?_
        refine w_ops ?_
        refine wo_step (v := (.i .i64 x8)) (s_pure (p_mv g8)) ?_
        have hq := forceI_inv hr
        clear hr
        obtain ⟨x18, e18, hr⟩ := hq
        refine wo_step (v := (.i .i64 x18)) (s_pure (p_bin rfl rfl (b_add.trans (ci e18)))) ?_
        refine wo_step (v := (.i .i64 x18)) (s_pure (p_mv rfl)) ?_
        refine wo_nil ?_
        cases hr
        exact ⟨_, _, rfl, rfl, rfl, gl rfl, gl rfl, gl g0, gl g1⟩
    · refine w_condF rfl ?_
      refine w_exit ?_
      refine nx_exit ?_
      cases hr
      exact ⟨_, _, rfl, ne_norm_exit, rfl, rfl, gl g7⟩
  · obtain ⟨v7_1, m_9⟩ := o_3
    rintro _ mm_5 t_7 ⟨rfl, rfl, g7⟩
    refine bk_hit ?_
    refine nx_norm ?_
    refine w_seq ?_
    refine w_ops ?_
    refine wo_step (v := v7_1) (s_pure (p_mv g7)) ?_
    refine wo_step (v := v7_1) (s_pure (p_mv rfl)) ?_
    refine wo_nil ?_
    refine nx_norm ?_
    refine w_ret ?_
    exact qf ret_ok (rt rfl rn) hr

/- dibber/dibberref02.one -/

def g60 (M : Means) (ro : List ABlk) (x0 : Int) (m0 : Mm) : Option (AVal × Heap × Nat × Nat) :=
  bindP (stepM ro m0 (.mk 3 1 8 [(AVal.i IntKind.i64 0)] (.c (.i .i64 4)) (.c (.i .i64 4)))) fun v4 m_1 =>
  bindO (evP .e (.ixS 1 (.c v4) (.c (.i .i64 x0)))) fun v7 =>
  bindP (stepM ro m_1 (.st 1 (.c v7) (.c (.i .i64 1)))) fun vn m_2 =>
  finM m0.h.length (tupA [v4]) m_2

theorem g60_ok {ro : List ABlk} {O : Caller} {M : Means} (hM : M.Ok ⟨F, O⟩ ro) {x0 h r} (ho : O 60 [(.i .i64 x0)] h = none) (hr : g60 M ro x0 ⟨h, h.length, h.length⟩ = some r) : callX ⟨F, O⟩ ro 60 [(.i .i64 x0)] h = some r := by
  refine callX_of (F := ⟨F, O⟩) (fn := fn60) (g := g60 M ro x0) ho rfl rfl hr ?_
  clear ho
  clear hr
  intro m0 t0 ht hr
  have g0 : t0.get 0 = (.i .i64 x0) := ht 0
  clear ht
  unfold g60 at hr
  refine w_seq ?_
  refine w_ops ?_
  refine wo_step (v := AVal.nsl) (s_pure (p_mv rfl)) ?_
  refine wo_nil ?_
  refine nx_norm ?_
  refine w_seq ?_
  refine w_ops ?_
  have hq := bindP_inv hr
  clear hr
  obtain ⟨v4, m_1, e4, hr⟩ := hq
  refine wo_step (v := v4) (s_mk rfl rfl e4) ?_
  refine wo_step (v := v4) (s_pure (p_mv rfl)) ?_
  refine wo_nil ?_
  refine nx_norm ?_
  refine w_seq ?_
  refine w_ops ?_
  refine wo_step (v := v4) (s_pure (p_mv rfl)) ?_
  refine wo_step (v := (.i .i64 x0)) (s_pure (p_mv g0)) ?_
  have hq := bindO_inv hr
  clear hr
  obtain ⟨v7, e7, hr⟩ := hq
  refine wo_step (v := v7) (s_pure (o_ixS rfl rfl e7)) ?_
  have hq := bindP_inv hr
  clear hr
  obtain ⟨vn, m_2, en, hr⟩ := hq
  refine wo_stepN (s_st rfl rfl en) ?_
  refine wo_nil ?_
  refine nx_norm ?_
  refine w_seq ?_
  refine w_ops ?_
  refine wo_step (v := v4) (s_pure (p_mv rfl)) ?_
  refine wo_step (v := v4) (s_pure (p_mv rfl)) ?_
  refine wo_nil ?_
  refine nx_norm ?_
  refine w_ret ?_
  exact qf ret_ok (rt rfl rn) hr

/- dibber/weed.readRule -/
abbrev g61_J0 (x0 : Int) (m0 : Mm) (o : Bool) (m1 : Mm) (t1 : Tr) : Prop :=
  match o with
  | c9 => m0 = m1 ∧ t1.get 9 = (.b c9) ∧ t1.get 0 = (.i .i64 x0)
def g61 (M : Means) (ro : List ABlk) (x0 : Int) (m0 : Mm) : Option (AVal × Heap × Nat × Nat) :=
  forceB (ltI x0 0) fun c5 =>
  bindO (cond c5 (
    some true) (
    forceB (ltI 255 x0) fun c8 =>
    some c8)) fun c9 =>
  cond c9 (
    finM m0.h.length (tupA [(.i .u8 0), (.i .i64 2)]) m0) (
    forceI (wr .u8 x0) fun x11 =>
    finM m0.h.length (tupA [(.i .u8 x11), (.i .i64 0)]) m0)

theorem g61_ok {ro : List ABlk} {O : Caller} {M : Means} (hM : M.Ok ⟨F, O⟩ ro) {x0 h r} (ho : O 61 [(.i .i64 x0)] h = none) (hr : g61 M ro x0 ⟨h, h.length, h.length⟩ = some r) : callX ⟨F, O⟩ ro 61 [(.i .i64 x0)] h = some r := by
  refine callX_of (F := ⟨F, O⟩) (fn := fn61) (g := g61 M ro x0) ho rfl rfl hr ?_
  clear ho
  clear hr
  intro m0 t0 ht hr
  have g0 : t0.get 0 = (.i .i64 x0) := ht 0
  clear ht
  unfold g61 at hr
  refine w_seq ?_
  refine w_ops ?_
  refine wo_step (v := (.i .u8 0)) (s_pure (p_mv rfl)) ?_
  refine wo_step (v := (.i .i64 0)) (s_pure (p_mv rfl)) ?_
  refine wo_nil ?_
  refine nx_norm ?_
  refine w_seq ?_
  refine w_seq ?_
  refine w_ops ?_
  refine wo_step (v := (.i .i64 x0)) (s_pure (p_mv g0)) ?_
  have hq := forceB_inv hr
  clear hr
  obtain ⟨c5, e5, hr⟩ := hq
  refine wo_step (v := (.b c5)) (s_pure (p_bin rfl rfl (b_lss.trans (cb e5)))) ?_
  refine wo_step (v := (.b c5)) (s_pure (p_mv rfl)) ?_
  have hq := bindO_inv hr
  clear hr
  obtain ⟨o, hr, hk⟩ := hq
  refine wo_join 3 (g61_J0 x0 m0 o) ?_ ?_
  · clear hk
    have hq := cond_inv hr
    clear hr
    rcases hq with ⟨rfl, hr⟩ | ⟨rfl, hr⟩
    · refine wo_skip (v := (.b true)) rfl rfl ?_
      refine wo_skip (v := (.b true)) rfl rfl ?_
      refine wo_step (v := (.b true)) (s_pure (p_pickT rfl rfl)) ?_
      refine wo_nil ?_
      cases hr
      exact ⟨_, _, rfl, rfl, gl rfl, gl g0⟩
    · refine wo_take (v := (.i .i64 x0)) rfl (s_pure (p_mv g0)) ?_
      have hq := forceB_inv hr
      clear hr
      obtain ⟨c8, e8, hr⟩ := hq
      refine wo_take (v := (.b c8)) rfl (s_pure (p_bin rfl rfl (b_gtr.trans (cb e8)))) ?_
      refine wo_step (v := (.b c8)) (s_pure (p_pickF rfl rfl)) ?_
      refine wo_nil ?_
      cases hr
      exact ⟨_, _, rfl, rfl, gl rfl, gl g0⟩
  · clear hr
    have hr := hk
    clear hk
    obtain ⟨c9, ho⟩ : ∃ z, z = o := ⟨_, rfl⟩
    subst ho
    rintro mm t_1 ⟨rfl, g9, g0⟩
    refine wo_nil ?_
    refine nx_norm ?_
    have hq := cond_inv hr
    clear hr
    rcases hq with ⟨rfl, hr⟩ | ⟨rfl, hr⟩
    · refine w_condT g9 ?_
      refine w_seq ?_
      refine w_ops ?_
      refine wo_step (v := (.i .u8 0)) (s_pure (p_mv rfl)) ?_
      refine wo_step (v := (.i .i64 2)) (s_pure (p_mv rfl)) ?_
      refine wo_nil ?_
      refine nx_norm ?_
      refine w_ret ?_
      refine nx_ret ?_
      exact qf ret_ok (rt rfl (rt rfl rn)) hr
    · refine w_condF g9 ?_
      refine w_skip ?_
      refine nx_norm ?_
      refine w_seq ?_
      refine w_ops ?_
      refine wo_step (v := (.i .i64 x0)) (s_pure (p_mv g0)) ?_
      have hq := forceI_inv hr
      clear hr
      obtain ⟨x11, e11, hr⟩ := hq
      refine wo_step (v := (.i .u8 x11)) (s_pure ((p_conv rfl).trans (ci e11))) ?_
      refine wo_step (v := (.i .u8 x11)) (s_pure (p_mv rfl)) ?_
      refine wo_step (v := (.i .i64 0)) (s_pure (p_mv rfl)) ?_
      refine wo_nil ?_
      refine nx_norm ?_
      refine w_ret ?_
      exact qf ret_ok (rt rfl (rt rfl rn)) hr

/- (dibber/weed.rule).orphan -/
abbrev g62_I0 (x0 : Int) (v3 : AVal) (s : AVal × Int × Mm) (m1 : Mm) (t1 : Tr) : Prop :=
  match s with
  | (v4, x5, m_4) => m_4 = m1 ∧ t1.get 4 = v4 ∧ t1.get 5 = (.i .i64 x5) ∧ t1.get 0 = (.i .u8 x0) ∧ t1.get 3 = v3
abbrev g62_J0 (x0 : Int) (v3 : AVal) (o : (Mm ⊕ (List UInt8 × Mm))) (e : AExit) (m1 : Mm) (t1 : Tr) : Prop :=
  match o with
  | (.inl mo) => e = (.exit 0) ∧ mo = m1
  | (.inr (y2, mo)) => e = .ret ∧ mo = m1 ∧ t1.get 2 = (.s y2)
abbrev g62_I1 (x0 : Int) (v3 : AVal) (x5 : Int) (s : AVal × Int × Mm) (m1 : Mm) (t1 : Tr) : Prop :=
  match s with
  | (v4_1, x17, m_5) => m_5 = m1 ∧ t1.get 4 = v4_1 ∧ t1.get 17 = (.i .i64 x17) ∧ t1.get 0 = (.i .u8 x0) ∧ t1.get 3 = v3 ∧ t1.get 5 = (.i .i64 x5)
abbrev g62_J1 (x0 : Int) (v3 : AVal) (x5 : Int) (o : ((AVal × Mm) ⊕ (List UInt8 × Mm))) (e : AExit) (m1 : Mm) (t1 : Tr) : Prop :=
  match o with
  | (.inl (y4, mo)) => e = (.exit 2) ∧ mo = m1 ∧ t1.get 4 = y4 ∧ t1.get 0 = (.i .u8 x0) ∧ t1.get 3 = v3 ∧ t1.get 5 = (.i .i64 x5)
  | (.inr (y2, mo)) => e = .ret ∧ mo = m1 ∧ t1.get 2 = (.s y2)
abbrev g62_J2 (x0 : Int) (v3 : AVal) (x5 : Int) (x17 : Int) (o : (AVal × Mm)) (e : AExit) (m1 : Mm) (t1 : Tr) : Prop :=
  match o with
  | (y4, mo) => e = .norm ∧ mo = m1 ∧ t1.get 4 = y4 ∧ t1.get 0 = (.i .u8 x0) ∧ t1.get 3 = v3 ∧ t1.get 5 = (.i .i64 x5) ∧ t1.get 17 = (.i .i64 x17)
def g62_b1 (M : Means) (ro : List ABlk) (x0 : Int) (v3 : AVal) (x5 : Int) (v4_1 : AVal) (x17 : Int) (m_5 : Mm) : Option ((AVal × Int × Mm) ⊕ (((AVal × Mm) ⊕ (List UInt8 × Mm)))) :=
  forceB (ltI x17 2) fun c18 =>
  cond c18 (
    bindO (evP .e (.ixS 2 (.c v4_1) (.c (.i .i64 x5)))) fun v23 =>
    bindO (evP .e (.faddr 0 (.c v23))) fun v24 =>
    bindO (ldA ro m_5.h true 1 v24) fun v25 =>
    asI .u8 v25 fun x25 =>
    bindO (callN M.call m_5.h 78 [(.i .u8 x0), (.i .u8 x25), (.i .i64 x17)]) fun v27 =>
    asI .u8 v27 fun x27 =>
    bindO (evP .e (.ixS 2 (.c v4_1) (.c (.i .i64 x5)))) fun v30 =>
    bindO (evP .e (.faddr 1 (.c v30))) fun v31 =>
    bindO (ldA ro m_5.h true 1 v31) fun v32 =>
    asS v32 fun s32 =>
    bindO (callN M.call m_5.h 71 [(.i .i64 x17)]) fun v34 =>
    asI .u8 v34 fun x34 =>
    bindO (evP .e (.chr (.c (.i .u8 x34)))) fun v35 =>
    asS v35 fun s35 =>
    bindO (evP .e (.sbin BinOp.add (.c (.s s32)) (.c (.s s35)))) fun v36 =>
    asS v36 fun s36 =>
    bindO ((fillA [(AVal.i IntKind.u8 0), (AVal.s [])] [((0, 1), (.i .u8 x27)), ((1, 1), (.s s36))]).map AVal.agg) fun v37 =>
    bindO (some (AVal.p (some ⟨false, List.length m_5.h, 0⟩))) fun v7 =>
    asP v7 fun qs =>
    chk (Nat.beq (AVal.cells v37).length 2) <|
    bindO (writesM ro [] [(qs, AVal.cells v37)] ⟨(m_5.h ++ [some (blkOf 88 [(AVal.i IntKind.u8 0), (AVal.s [])])]), m_5.lw, m_5.lp⟩) fun m_6 =>
    bindO (evP .e (.faddr 0 (.c v7))) fun v38 =>
    bindO (ldM ro m_6 true 1 v38) fun v39 =>
    asI .u8 v39 fun x39 =>
    forceB (eqI x39 0) fun c40 =>
    cond c40 (
      bindO (evP .e (.faddr 1 (.c v7))) fun v41 =>
      bindO (ldM ro m_6 true 1 v41) fun v42 =>
      asS v42 fun s42 =>
      some (.inr (.inr (s42, m_6)))) (
      bindO (evP .e (.faddr 0 (.c v7))) fun v43 =>
      bindO (ldM ro m_6 true 1 v43) fun v44 =>
      asI .u8 v44 fun x44 =>
      bindO (evP .e (.ixA 16 1 (.c v3) (.c (.i .u8 x44)))) fun v45 =>
      bindO (ldM ro m_6 true 1 v45) fun v46 =>
      asB v46 fun c46 =>
      forceB (!c46) fun c47 =>
      bindO (α := (AVal × Mm)) (
        cond c47 (
          bindO (evP .e (.faddr 0 (.c v7))) fun v48 =>
          bindO (ldM ro m_6 true 1 v48) fun v49 =>
          asI .u8 v49 fun x49 =>
          bindO (evP .e (.ixA 16 1 (.c v3) (.c (.i .u8 x49)))) fun v50 =>
          bindP (stepM ro m_6 (.st 1 (.c v50) (.c (.b true)))) fun vn_1 m_7 =>
          bindO (ldM ro m_7 false 2 v7) fun v52 =>
          bindP (stepM ro m_7 (.bsl 88 2 [(AVal.i IntKind.u8 0), (AVal.s [])] 1 [((0, 2), .c v52)])) fun v53 m_8 =>
          bindP (stepM ro m_8 (.app 88 2 24 [(AVal.i IntKind.u8 0), (AVal.s [])] (.c v4_1) (.c v53))) fun v54 m_9 =>
          some (v54, m_9)) (
          some (v4_1, m_6))) fun ⟨v4_2, m_10⟩ =>
      forceI (wr .i64 (x17 + 1)) fun x55 =>
      some (.inl (v4_2, x55, m_10)))) (
    some (.inr (.inl (v4_1, m_5))))
def g62_b0 (M : Means) (ro : List ABlk) (x0 : Int) (v3 : AVal) (v4 : AVal) (x5 : Int) (m_4 : Mm) : Option ((AVal × Int × Mm) ⊕ ((Mm ⊕ (List UInt8 × Mm)))) :=
  bindO (evP .e (.len false (.c v4))) fun v13 =>
  asI .i64 v13 fun x13 =>
  forceB (ltI x5 x13) fun c14 =>
  cond c14 (
    bindO (M.loop (S := AVal × Int × Mm) (R := ((AVal × Mm) ⊕ (List UInt8 × Mm))) (fun s => g62_b1 M ro x0 v3 x5 s.1 s.2.1 s.2.2) (v4, 0, m_4)) fun o_1 => match o_1 with
    | (.inl (v4_3, m_11)) =>
      forceI (wr .i64 (x5 + 1)) fun x16 =>
      some (.inl (v4_3, x16, m_11))
    | (.inr (s2, m_12)) =>
      some (.inr (.inr (s2, m_12)))) (
    some (.inr (.inl m_4)))
def g62 (M : Means) (ro : List ABlk) (x0 : Int) (m0 : Mm) : Option (AVal × Heap × Nat × Nat) :=
  bindO ((fillA [(AVal.b false), (AVal.b false), (AVal.b false), (AVal.b false), (AVal.b false), (AVal.b false), (AVal.b false), (AVal.b false), (AVal.b false), (AVal.b false), (AVal.b false), (AVal.b false), (AVal.b false), (AVal.b false), (AVal.b false), (AVal.b false)] [((15, 1), (.b true))]).map AVal.agg) fun v8 =>
  bindP (stepM ro m0 (.al 86 [(AVal.b false), (AVal.b false), (AVal.b false), (AVal.b false), (AVal.b false), (AVal.b false), (AVal.b false), (AVal.b false), (AVal.b false), (AVal.b false), (AVal.b false), (AVal.b false), (AVal.b false), (AVal.b false), (AVal.b false), (AVal.b false)])) fun v3 m_1 =>
  bindP (stepM ro m_1 (.st 16 (.c v3) (.c v8))) fun vn m_2 =>
  bindO ((fillA [(AVal.i IntKind.u8 0), (AVal.s [])] [((0, 1), (.i .u8 15)), ((1, 1), (AVal.s []))]).map AVal.agg) fun v9 =>
  bindP (stepM ro m_2 (.bsl 88 2 [(AVal.i IntKind.u8 0), (AVal.s [])] 1 [((0, 2), .c v9)])) fun v10 m_3 =>
  bindO (M.loop (S := AVal × Int × Mm) (R := (Mm ⊕ (List UInt8 × Mm))) (fun s => g62_b0 M ro x0 v3 s.1 s.2.1 s.2.2) (v10, 0, m_3)) fun o_2 => match o_2 with
  | (.inl m_13) =>
    finM m0.h.length (tupA [(AVal.s [])]) m_13
  | (.inr (s2_1, m_14)) =>
    finM m0.h.length (tupA [(.s s2_1)]) m_14

theorem g62_ok {ro : List ABlk} {O : Caller} {M : Means} (hM : M.Ok ⟨F, O⟩ ro) {x0 h r} (ho : O 62 [(.i .u8 x0)] h = none) (hr : g62 M ro x0 ⟨h, h.length, h.length⟩ = some r) : callX ⟨F, O⟩ ro 62 [(.i .u8 x0)] h = some r := by
  refine callX_of (F := ⟨F, O⟩) (fn := fn62) (g := g62 M ro x0) ho rfl rfl hr ?_
  clear ho
  clear hr
  intro m0 t0 ht hr
  have g0 : t0.get 0 = (.i .u8 x0) := ht 0
  clear ht
  unfold g62 at hr
  refine w_seq ?_
  refine w_ops ?_
  refine wo_step (v := (AVal.s [])) (s_pure (p_mv rfl)) ?_
  refine wo_nil ?_
  refine nx_norm ?_
  refine w_seq ?_
  refine w_ops ?_
  have hq := bindO_inv hr
  clear hr
  obtain ⟨v8, e8, hr⟩ := hq
  refine wo_step (v := v8) (s_pure (o_build (qc rfl qn) e8)) ?_
  have hq := bindP_inv hr
  clear hr
  obtain ⟨v3, m_1, e3, hr⟩ := hq
  refine wo_step (v := v3) (s_al e3) ?_
  have hq := bindP_inv hr
  clear hr
  obtain ⟨vn, m_2, en, hr⟩ := hq
  refine wo_stepN (s_st rfl rfl en) ?_
  refine wo_nil ?_
  refine nx_norm ?_
  refine w_seq ?_
  refine w_ops ?_
  have hq := bindO_inv hr
  clear hr
  obtain ⟨v9, e9, hr⟩ := hq
  refine wo_step (v := v9) (s_pure (o_build (qc rfl (qc rfl qn)) e9)) ?_
  have hq := bindP_inv hr
  clear hr
  obtain ⟨v10, m_3, e10, hr⟩ := hq
  refine wo_step (v := v10) (s_bsl (qc rfl qn) e10) ?_
  refine wo_step (v := v10) (s_pure (p_mv rfl)) ?_
  refine wo_nil ?_
  refine nx_norm ?_
  refine w_seq ?_
  refine w_seq ?_
  refine w_ops ?_
  refine wo_step (v := (.i .i64 0)) (s_pure (p_mv rfl)) ?_
  refine wo_nil ?_
  refine nx_norm ?_
  refine w_block ?_
  have hq := bindO_inv hr
  clear hr
  obtain ⟨o_2, hl_1, hr⟩ := hq
  obtain ⟨n_1, hl_1⟩ := hM.loop _ _ _ hl_1
  refine jp_mono (w_loop _ (g62_I0 x0 v3) (g62_J0 x0 v3) ?_ n_1 _ _ _ _ hl_1 ⟨rfl, gl rfl, gl rfl, gl g0, gl rfl⟩) ?_
  · clear hr hl_1
    intro s mm_6 t_1 o hi hr
    obtain ⟨v4, x5, m_4⟩ := s
    obtain ⟨rfl, g4, g5, g0, g3⟩ := hi
    unfold g62_b0 at hr
    refine w_seq ?_
    refine w_seq ?_
    refine w_ops ?_
    refine wo_step (v := (.i .i64 x5)) (s_pure (p_mv g5)) ?_
    refine wo_step (v := v4) (s_pure (p_mv g4)) ?_
    have hq := bindO_inv hr
    clear hr
    obtain ⟨v13, e13, hr⟩ := hq
    have hq := asI_inv hr
    clear hr
    obtain ⟨x13, rfl, hr⟩ := hq
    refine wo_step (v := (.i .i64 x13)) (s_pure (o_len rfl e13)) ?_
    have hq := forceB_inv hr
    clear hr
    obtain ⟨c14, e14, hr⟩ := hq
    refine wo_step (v := (.b c14)) (s_pure (p_bin rfl rfl (b_lss.trans (cb e14)))) ?_
    refine wo_nil ?_
    refine nx_norm ?_
    have hq := cond_inv hr
    clear hr
    rcases hq with ⟨rfl, hr⟩ | ⟨rfl, hr⟩
    · refine w_condT rfl ?_
      refine w_skip ?_
      refine nx_norm ?_
      refine w_seq ?_
      refine w_block ?_
      refine w_seq ?_
      refine w_ops ?_
      refine wo_step (v := (.i .i64 0)) (s_pure (p_mv rfl)) ?_
      refine wo_nil ?_
      refine nx_norm ?_
      refine w_block ?_
      have hq := bindO_inv hr
      clear hr
      obtain ⟨o_1, hl, hr⟩ := hq
      obtain ⟨n, hl⟩ := hM.loop _ _ _ hl
      refine jp_mono (w_loop _ (g62_I1 x0 v3 x5) (g62_J1 x0 v3 x5) ?_ n _ _ _ _ hl ⟨rfl, gl g4, gl rfl, gl g0, gl g3, gl g5⟩) ?_
      · clear hr hl
        intro s mm_3 t_2 o hi hr
        obtain ⟨v4_1, x17, m_5⟩ := s
        obtain ⟨rfl, g4, g17, g0, g3, g5⟩ := hi
        unfold g62_b1 at hr
        refine w_seq ?_
        refine w_ops ?_
        have hq := forceB_inv hr
        clear hr
        obtain ⟨c18, e18, hr⟩ := hq
        refine wo_step (v := (.b c18)) (s_pure (p_bin g17 rfl (b_lss.trans (cb e18)))) ?_
        refine wo_nil ?_
        refine nx_norm ?_
        refine w_seq ?_
        have hq := cond_inv hr
        clear hr
        rcases hq with ⟨rfl, hr⟩ | ⟨rfl, hr⟩
        · refine w_condT rfl ?_
          refine w_skip ?_
          refine nx_norm ?_
          refine w_seq ?_
          refine w_block ?_
          refine w_seq ?_
          refine w_ops ?_
          refine wo_step (v := (.i .i64 x17)) (s_pure (p_mv g17)) ?_
          refine wo_step (v := (.i .i64 x17)) (s_pure (p_mv rfl)) ?_
          refine wo_nil ?_
          refine nx_norm ?_
          refine w_seq ?_
          refine w_any ?_
          refine wa_step (v := (.i .u8 x0)) (a_pure (p_mv g0)) ?_
          refine wa_step (v := v4_1) (a_pure (p_mv g4)) ?_
          refine wa_step (v := (.i .i64 x5)) (a_pure (p_mv g5)) ?_
          have hq := bindO_inv hr
          clear hr
          obtain ⟨v23, e23, hr⟩ := hq
          refine wa_step (v := v23) (a_pure (o_ixS rfl rfl e23)) ?_
          have hq := bindO_inv hr
          clear hr
          obtain ⟨v24, e24, hr⟩ := hq
          refine wa_step (v := v24) (a_pure (o_faddr rfl e24)) ?_
          have hq := bindO_inv hr
          clear hr
          obtain ⟨v25, e25, hr⟩ := hq
          have hq := asI_inv hr
          clear hr
          obtain ⟨x25, rfl, hr⟩ := hq
          refine wa_step (v := (.i .u8 x25)) (a_ld rfl e25) ?_
          refine wa_step (v := (.i .i64 x17)) (a_pure (p_mv rfl)) ?_
          have hq := bindO_inv hr
          clear hr
          obtain ⟨v27, e27, hr⟩ := hq
          have hq := asI_inv hr
          clear hr
          obtain ⟨x27, rfl, hr⟩ := hq
          refine wa_step (v := (.i .u8 x27)) (a_call (mc rfl (mc rfl (mc rfl mn))) (callN_le hM.call e27)) ?_
          refine wa_step (v := v4_1) (a_pure (p_mv g4)) ?_
          refine wa_step (v := (.i .i64 x5)) (a_pure (p_mv g5)) ?_
          have hq := bindO_inv hr
          clear hr
          obtain ⟨v30, e30, hr⟩ := hq
          refine wa_step (v := v30) (a_pure (o_ixS rfl rfl e30)) ?_
          have hq := bindO_inv hr
          clear hr
          obtain ⟨v31, e31, hr⟩ := hq
          refine wa_step (v := v31) (a_pure (o_faddr rfl e31)) ?_
          have hq := bindO_inv hr
          clear hr
          obtain ⟨v32, e32, hr⟩ := hq
          have hq := asS_inv hr
          clear hr
          obtain ⟨s32, rfl, hr⟩ := hq
          refine wa_step (v := (.s s32)) (a_ld rfl e32) ?_
          refine wa_step (v := (.i .i64 x17)) (a_pure (p_mv rfl)) ?_
          have hq := bindO_inv hr
          clear hr
          obtain ⟨v34, e34, hr⟩ := hq
          have hq := asI_inv hr
          clear hr
          obtain ⟨x34, rfl, hr⟩ := hq
          refine wa_step (v := (.i .u8 x34)) (a_call (mc rfl mn) (callN_le hM.call e34)) ?_
          have hq := bindO_inv hr
          clear hr
          obtain ⟨v35, e35, hr⟩ := hq
          have hq := asS_inv hr
          clear hr
          obtain ⟨s35, rfl, hr⟩ := hq
          refine wa_step (v := (.s s35)) (a_pure (o_chr rfl e35)) ?_
          have hq := bindO_inv hr
          clear hr
          obtain ⟨v36, e36, hr⟩ := hq
          have hq := asS_inv hr
          clear hr
          obtain ⟨s36, rfl, hr⟩ := hq
          refine wa_step (v := (.s s36)) (a_pure (o_sbin rfl rfl e36)) ?_
          have hq := bindO_inv hr
          clear hr
          obtain ⟨v37, e37, hr⟩ := hq
          refine wa_step (v := v37) (a_pure (o_build (qc rfl (qc rfl qn)) e37)) ?_
          have hq := bindO_inv hr
          clear hr
          obtain ⟨v7, e7, hr⟩ := hq
          refine wa_step (v := v7) (a_al' e7) ?_
          have hq := asP_inv hr
          clear hr
          obtain ⟨qs, eqs, hr⟩ := hq
          have hq := chk_inv hr
          clear hr
          obtain ⟨hcs, hr⟩ := hq
          refine wa_stepN (a_st (Eq.trans (b := v7) rfl eqs) rfl hcs) ?_
          have hq := bindO_inv hr
          clear hr
          obtain ⟨m_6, ew, hr⟩ := hq
          refine wa_nil ?_
          refine ⟨m_6, ew, ?_⟩
          refine nx_norm ?_
          refine w_seq ?_
          refine w_seq ?_
          refine w_ops ?_
          have hq := bindO_inv hr
          clear hr
          obtain ⟨v38, e38, hr⟩ := hq
          refine wo_step (v := v38) (s_pure (o_faddr rfl e38)) ?_
          have hq := bindO_inv hr
          clear hr
          obtain ⟨v39, e39, hr⟩ := hq
          have hq := asI_inv hr
          clear hr
          obtain ⟨x39, rfl, hr⟩ := hq
          refine wo_step (v := (.i .u8 x39)) (s_ld rfl e39) ?_
          have hq := forceB_inv hr
          clear hr
          obtain ⟨c40, e40, hr⟩ := hq
          refine wo_step (v := (.b c40)) (s_pure (p_bin rfl rfl (b_eql.trans (cb e40)))) ?_
          refine wo_nil ?_
          refine nx_norm ?_
          have hq := cond_inv hr
          clear hr
          rcases hq with ⟨rfl, hr⟩ | ⟨rfl, hr⟩
          · refine w_condT rfl ?_
            refine w_seq ?_
            refine w_ops ?_
            have hq := bindO_inv hr
            clear hr
            obtain ⟨v41, e41, hr⟩ := hq
            refine wo_step (v := v41) (s_pure (o_faddr rfl e41)) ?_
            have hq := bindO_inv hr
            clear hr
            obtain ⟨v42, e42, hr⟩ := hq
            have hq := asS_inv hr
            clear hr
            obtain ⟨s42, rfl, hr⟩ := hq
            refine wo_step (v := (.s s42)) (s_ld rfl e42) ?_
            refine wo_step (v := (.s s42)) (s_pure (p_mv rfl)) ?_
            refine wo_nil ?_
            refine nx_norm ?_
            refine w_ret ?_
            refine nx_ret ?_
            refine bk_ret ?_
            refine nx_ret ?_
            cases hr
            exact ⟨_, _, rfl, ne_norm_ret, rfl, rfl, gl rfl⟩
          · refine w_condF rfl ?_
            refine w_skip ?_
            refine nx_norm ?_
            refine w_seq ?_
            refine w_ops ?_
            have hq := bindO_inv hr
            clear hr
            obtain ⟨v43, e43, hr⟩ := hq
            refine wo_step (v := v43) (s_pure (o_faddr rfl e43)) ?_
            have hq := bindO_inv hr
            clear hr
            obtain ⟨v44, e44, hr⟩ := hq
            have hq := asI_inv hr
            clear hr
            obtain ⟨x44, rfl, hr⟩ := hq
            refine wo_step (v := (.i .u8 x44)) (s_ld rfl e44) ?_
            have hq := bindO_inv hr
            clear hr
            obtain ⟨v45, e45, hr⟩ := hq
            refine wo_step (v := v45) (s_pure (o_ixA g3 rfl e45)) ?_
            have hq := bindO_inv hr
            clear hr
            obtain ⟨v46, e46, hr⟩ := hq
            have hq := asB_inv hr
            clear hr
            obtain ⟨c46, rfl, hr⟩ := hq
            refine wo_step (v := (.b c46)) (s_ld rfl e46) ?_
            have hq := forceB_inv hr
            clear hr
            obtain ⟨c47, e47, hr⟩ := hq
            refine wo_step (v := (.b c47)) (s_pure ((p_not rfl).trans (cb e47))) ?_
            refine wo_nil ?_
            refine nx_norm ?_
            have hq := bindO_inv hr
            clear hr
            obtain ⟨o, hr, hk⟩ := hq
            refine jp_mono (J := g62_J2 x0 v3 x5 x17 o) ?_ ?_
            · clear hk
              have hq := cond_inv hr
              clear hr
              rcases hq with ⟨rfl, hr⟩ | ⟨rfl, hr⟩
              · refine w_condT rfl ?_
                refine w_seq ?_
                refine w_ops ?_
                have hq := bindO_inv hr
                clear hr
                obtain ⟨v48, e48, hr⟩ := hq
                refine wo_step (v := v48) (s_pure (o_faddr rfl e48)) ?_
                have hq := bindO_inv hr
                clear hr
                obtain ⟨v49, e49, hr⟩ := hq
                have hq := asI_inv hr
                clear hr
                obtain ⟨x49, rfl, hr⟩ := hq
                refine wo_step (v := (.i .u8 x49)) (s_ld rfl e49) ?_
                have hq := bindO_inv hr
                clear hr
                obtain ⟨v50, e50, hr⟩ := hq
                refine wo_step (v := v50) (s_pure (o_ixA g3 rfl e50)) ?_
                have hq := bindP_inv hr
                clear hr
                obtain ⟨vn_1, m_7, en_1, hr⟩ := hq
                refine wo_stepN (s_st rfl rfl en_1) ?_
                refine wo_nil ?_
                refine nx_norm ?_
                refine w_ops ?_
                refine wo_step (v := v4_1) (s_pure (p_mv g4)) ?_
                have hq := bindO_inv hr
                clear hr
                obtain ⟨v52, e52, hr⟩ := hq
                refine wo_step (v := v52) (s_ld rfl e52) ?_
                have hq := bindP_inv hr
                clear hr
                obtain ⟨v53, m_8, e53, hr⟩ := hq
                refine wo_step (v := v53) (s_bsl (qc rfl qn) e53) ?_
                have hq := bindP_inv hr
                clear hr
                obtain ⟨v54, m_9, e54, hr⟩ := hq
                refine wo_step (v := v54) (s_app rfl rfl e54) ?_
                refine wo_step (v := v54) (s_pure (p_mv rfl)) ?_
                refine wo_nil ?_
                cases hr
                exact ⟨_, _, rfl, rfl, rfl, gl rfl, gl g0, gl g3, gl g5, gl g17⟩
              · refine w_condF rfl ?_
                refine w_skip ?_
                cases hr
                exact ⟨_, _, rfl, rfl, rfl, gl g4, gl g0, gl g3, gl g5, gl g17⟩
            · have hr := hk
              clear hk
              obtain ⟨v4_2, m_10⟩ := o
              rintro _ mm t_3 ⟨rfl, rfl, g4, g0, g3, g5, g17⟩
              refine bk_norm ?_
              refine nx_norm ?_
              refine w_ops ?_
              have hq := forceI_inv hr
              clear hr
              obtain ⟨x55, e55, hr⟩ := hq
              refine wo_step (v := (.i .i64 x55)) (s_pure (p_bin g17 rfl (b_add.trans (ci e55)))) ?_
              refine wo_step (v := (.i .i64 x55)) (s_pure (p_mv rfl)) ?_
              refine wo_nil ?_
              cases hr
              exact ⟨_, _, rfl, rfl, rfl, gl g4, gl rfl, gl g0, gl g3, gl g5⟩
        · refine w_condF rfl ?_
          refine w_exit ?_
          refine nx_exit ?_
          cases hr
          exact ⟨_, _, rfl, ne_norm_exit, rfl, rfl, gl g4, gl g0, gl g3, gl g5⟩
      · rcases o_1 with o_1 | o_1
        · obtain ⟨v4_3, m_11⟩ := o_1
          rintro _ mm_1 t_4 ⟨rfl, rfl, g4, g0, g3, g5⟩
          refine bk_hit ?_
          refine bk_norm ?_
          refine nx_norm ?_
          refine w_ops ?_
          refine wo_step (v := (.i .i64 x5)) (s_pure (p_mv g5)) ?_
          have hq := forceI_inv hr
          clear hr
          obtain ⟨x16, e16, hr⟩ := hq
          refine wo_step (v := (.i .i64 x16)) (s_pure (p_bin rfl rfl (b_add.trans (ci e16)))) ?_
          refine wo_step (v := (.i .i64 x16)) (s_pure (p_mv rfl)) ?_
          refine wo_nil ?_
          cases hr
          exact ⟨_, _, rfl, rfl, rfl, gl g4, gl rfl, gl g0, gl g3⟩
        · obtain ⟨s2, m_12⟩ := o_1
          rintro _ mm_2 t_5 ⟨rfl, rfl, g2⟩
          refine bk_ret ?_
          refine bk_ret ?_
          refine nx_ret ?_
          cases hr
          exact ⟨_, _, rfl, ne_norm_ret, rfl, rfl, gl g2⟩
    · refine w_condF rfl ?_
      refine w_exit ?_
      refine nx_exit ?_
      cases hr
      exact ⟨_, _, rfl, ne_norm_exit, rfl, rfl⟩
  · rcases o_2 with o_2 | o_2
    · obtain ⟨m_13, ho⟩ : ∃ z, z = o_2 := ⟨_, rfl⟩
      subst ho
      rintro _ mm_4 t_6 ⟨rfl, rfl⟩
      refine bk_hit ?_
      refine nx_norm ?_
      refine w_seq ?_
      refine w_ops ?_
      refine wo_step (v := (AVal.s [])) (s_pure (p_mv rfl)) ?_
      refine wo_nil ?_
      refine nx_norm ?_
      refine w_ret ?_
      exact qf ret_ok (rt rfl rn) hr
    · obtain ⟨s2_1, m_14⟩ := o_2
      rintro _ mm_5 t_7 ⟨rfl, rfl, g2⟩
      refine bk_ret ?_
      refine nx_ret ?_
      exact qf ret_ok (rt g2 rn) hr

end Go.Proofs.Ytjjinlljdfaipaa.W

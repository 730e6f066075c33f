/- Plain functions, and that the small machine answers as they do. -/
import Derived.Test.YtddnpchfjdgigaaDoorVmP
import Derived.Test.YtddnpchfjdgigaaDoorVmAE
open Go.Vm
set_option linter.unusedVariables false
namespace Go.Proofs.YtddnpchfjdgigaaDoor.T
open Go
/- dibber/turn.turned -/

def g77 (M : Means) (ro : List ABlk) (v0 : AVal) (m0 : Mm) : Option (AVal × Heap × Nat × Nat) :=
  bindP (stepM ro m0 (.bx 31 4 (.c v0))) fun v1 m_1 =>
  bindP (stepM ro m_1 (.al 31 [(AVal.i IntKind.i64 0), (AVal.i IntKind.i64 0), (AVal.i IntKind.i64 0), (AVal.i IntKind.i64 0)])) fun v2 m_2 =>
  bindO (evP .e (.faddr 1 (.c v1))) fun v3 =>
  bindO (ldM ro m_2 true 1 v3) fun v4 =>
  asI .i64 v4 fun x4 =>
  bindO (evP .e (.faddr 0 (.c v1))) fun v5 =>
  bindO (ldM ro m_2 true 1 v5) fun v6 =>
  asI .i64 v6 fun x6 =>
  bindO (evP .e (.faddr 3 (.c v1))) fun v7 =>
  bindO (ldM ro m_2 true 1 v7) fun v8 =>
  asI .i64 v8 fun x8 =>
  forceI (wr .i64 (0 - x8)) fun x9 =>
  bindO (evP .e (.faddr 2 (.c v1))) fun v10 =>
  bindO (ldM ro m_2 true 1 v10) fun v11 =>
  asI .i64 v11 fun x11 =>
  forceI (wr .i64 (0 - x11)) fun x12 =>
  bindO ((fillA [(AVal.i IntKind.i64 0), (AVal.i IntKind.i64 0), (AVal.i IntKind.i64 0), (AVal.i IntKind.i64 0)] [((0, 1), (.i .i64 x4)), ((1, 1), (.i .i64 x6)), ((2, 1), (.i .i64 x9)), ((3, 1), (.i .i64 x12))]).map AVal.agg) fun v13 =>
  bindP (stepM ro m_2 (.st 4 (.c v2) (.c v13))) fun vn m_3 =>
  bindO (ldM ro m_3 false 4 v2) fun vr =>
  finM m0.h.length (tupA [vr]) m_3

theorem g77_ok {ro : List ABlk} {O : Caller} {M : Means} (hM : M.Ok ⟨F, O⟩ ro) {v0 h r} (ho : O 77 [v0] h = none) (hr : g77 M ro v0 ⟨h, h.length, h.length⟩ = some r) : callX ⟨F, O⟩ ro 77 [v0] h = some r := by
  refine callX_of (F := ⟨F, O⟩) (fn := fn77) (g := g77 M ro v0) ho rfl rfl hr ?_
  clear ho
  clear hr
  intro m0 t0 ht hr
  have g0 : t0.get 0 = v0 := ht 0
  clear ht
  unfold g77 at hr
  refine w_seq ?_
  refine w_ops ?_
  have hq := bindP_inv hr
  clear hr
  obtain ⟨v1, m_1, e1, hr⟩ := hq
  refine wo_step (v := v1) (s_bx g0 e1) ?_
  have hq := bindP_inv hr
  clear hr
  obtain ⟨v2, m_2, e2, hr⟩ := hq
  refine wo_step (v := v2) (s_al e2) ?_
  refine wo_nil ?_
  refine nx_norm ?_
  refine w_seq ?_
  refine w_ops ?_
  have hq := bindO_inv hr
  clear hr
  obtain ⟨v3, e3, hr⟩ := hq
  refine wo_step (v := v3) (s_pure (o_faddr rfl e3)) ?_
  have hq := bindO_inv hr
  clear hr
  obtain ⟨v4, e4, hr⟩ := hq
  have hq := asI_inv hr
  clear hr
  obtain ⟨x4, rfl, hr⟩ := hq
  refine wo_step (v := (.i .i64 x4)) (s_ld rfl e4) ?_
  have hq := bindO_inv hr
  clear hr
  obtain ⟨v5, e5, hr⟩ := hq
  refine wo_step (v := v5) (s_pure (o_faddr rfl e5)) ?_
  have hq := bindO_inv hr
  clear hr
  obtain ⟨v6, e6, hr⟩ := hq
  have hq := asI_inv hr
  clear hr
  obtain ⟨x6, rfl, hr⟩ := hq
  refine wo_step (v := (.i .i64 x6)) (s_ld rfl e6) ?_
  have hq := bindO_inv hr
  clear hr
  obtain ⟨v7, e7, hr⟩ := hq
  refine wo_step (v := v7) (s_pure (o_faddr rfl e7)) ?_
  have hq := bindO_inv hr
  clear hr
  obtain ⟨v8, e8, hr⟩ := hq
  have hq := asI_inv hr
  clear hr
  obtain ⟨x8, rfl, hr⟩ := hq
  refine wo_step (v := (.i .i64 x8)) (s_ld rfl e8) ?_
  have hq := forceI_inv hr
  clear hr
  obtain ⟨x9, e9, hr⟩ := hq
  refine wo_step (v := (.i .i64 x9)) (s_pure ((p_neg rfl).trans (ci e9))) ?_
  have hq := bindO_inv hr
  clear hr
  obtain ⟨v10, e10, hr⟩ := hq
  refine wo_step (v := v10) (s_pure (o_faddr rfl e10)) ?_
  have hq := bindO_inv hr
  clear hr
  obtain ⟨v11, e11, hr⟩ := hq
  have hq := asI_inv hr
  clear hr
  obtain ⟨x11, rfl, hr⟩ := hq
  refine wo_step (v := (.i .i64 x11)) (s_ld rfl e11) ?_
  have hq := forceI_inv hr
  clear hr
  obtain ⟨x12, e12, hr⟩ := hq
  refine wo_step (v := (.i .i64 x12)) (s_pure ((p_neg rfl).trans (ci e12))) ?_
  have hq := bindO_inv hr
  clear hr
  obtain ⟨v13, e13, hr⟩ := hq
  refine wo_step (v := v13) (s_pure (o_build (qc rfl (qc rfl (qc rfl (qc rfl qn)))) e13)) ?_
  have hq := bindP_inv hr
  clear hr
  obtain ⟨vn, m_3, en, hr⟩ := hq
  refine wo_stepN (s_st rfl rfl en) ?_
  refine wo_nil ?_
  refine nx_norm ?_
  refine w_ret ?_
  have hq := bindO_inv hr
  clear hr
  obtain ⟨vr, er, hr⟩ := hq
  exact qf ret_ok (rc rfl er rn) hr

/- (dibber/turn.demands).later -/

def g78 (M : Means) (ro : List ABlk) (v0 : AVal) (x1 : Int) (x2 : Int) (m0 : Mm) : Option (AVal × Heap × Nat × Nat) :=
  bindP (stepM ro m0 (.bx 55 3 (.c v0))) fun v3 m_1 =>
  chk (!ltI x2 (.ofNat 0)) <|
  forceI (shlV .u32 x1 x2) fun x9 =>
  bindO (evP .e (.faddr 0 (.c v3))) fun v11 =>
  bindO (ldA ro m_1.h true 1 v11) fun v12 =>
  asI .i64 v12 fun x12 =>
  forceI (wr .i64 (x12 - x2)) fun x14 =>
  chk (!ltI x14 (.ofNat 0)) <|
  forceI (shrV .u32 x1 x14) fun x15 =>
  forceI (bitV .or .u32 x9 x15) fun x16 =>
  bindO (ldA ro m_1.h false 3 v3) fun v17 =>
  bindO (callN M.call m_1.h 76 [v17]) fun v18 =>
  asI .u32 v18 fun x18 =>
  forceI (bitV .and .u32 x16 x18) fun x19 =>
  finM m0.h.length (tupA [(.i .u32 x19)]) m_1

theorem g78_ok {ro : List ABlk} {O : Caller} {M : Means} (hM : M.Ok ⟨F, O⟩ ro) {v0 x1 x2 h r} (ho : O 78 [v0, (.i .u32 x1), (.i .i64 x2)] h = none) (hr : g78 M ro v0 x1 x2 ⟨h, h.length, h.length⟩ = some r) : callX ⟨F, O⟩ ro 78 [v0, (.i .u32 x1), (.i .i64 x2)] h = some r := by
  refine callX_of (F := ⟨F, O⟩) (fn := fn78) (g := g78 M ro v0 x1 x2) ho rfl rfl hr ?_
  clear ho
  clear hr
  intro m0 t0 ht hr
  have g0 : t0.get 0 = v0 := ht 0
  have g1 : t0.get 1 = (.i .u32 x1) := ht 1
  have g2 : t0.get 2 = (.i .i64 x2) := ht 2
  clear ht
  unfold g78 at hr
  refine w_seq ?_
  refine w_ops ?_
  have hq := bindP_inv hr
  clear hr
  obtain ⟨v3, m_1, e3, hr⟩ := hq
  refine wo_step (v := v3) (s_bx g0 e3) ?_
  refine wo_step (v := (.i .u32 0)) (s_pure (p_mv rfl)) ?_
  refine wo_nil ?_
  refine nx_norm ?_
  refine w_seq ?_
  refine w_any ?_
  refine wa_step (v := (.i .u32 x1)) (a_pure (p_mv g1)) ?_
  refine wa_step (v := (.i .i64 x2)) (a_pure (p_mv g2)) ?_
  have hq := chk_inv hr
  clear hr
  obtain ⟨hc9, hr⟩ := hq
  have hq := forceI_inv hr
  clear hr
  obtain ⟨x9, e9, hr⟩ := hq
  refine wa_step (v := (.i .u32 x9)) (a_pure (p_bin rfl rfl ((b_shl hc9).trans (ci e9)))) ?_
  refine wa_step (v := (.i .u32 x1)) (a_pure (p_mv g1)) ?_
  have hq := bindO_inv hr
  clear hr
  obtain ⟨v11, e11, hr⟩ := hq
  refine wa_step (v := v11) (a_pure (o_faddr rfl e11)) ?_
  have hq := bindO_inv hr
  clear hr
  obtain ⟨v12, e12, hr⟩ := hq
  have hq := asI_inv hr
  clear hr
  obtain ⟨x12, rfl, hr⟩ := hq
  refine wa_step (v := (.i .i64 x12)) (a_ld rfl e12) ?_
  refine wa_step (v := (.i .i64 x2)) (a_pure (p_mv g2)) ?_
  have hq := forceI_inv hr
  clear hr
  obtain ⟨x14, e14, hr⟩ := hq
  refine wa_step (v := (.i .i64 x14)) (a_pure (p_bin rfl rfl (b_sub.trans (ci e14)))) ?_
  have hq := chk_inv hr
  clear hr
  obtain ⟨hc15, hr⟩ := hq
  have hq := forceI_inv hr
  clear hr
  obtain ⟨x15, e15, hr⟩ := hq
  refine wa_step (v := (.i .u32 x15)) (a_pure (p_bin rfl rfl ((b_shr hc15).trans (ci e15)))) ?_
  have hq := forceI_inv hr
  clear hr
  obtain ⟨x16, e16, hr⟩ := hq
  refine wa_step (v := (.i .u32 x16)) (a_pure (p_bin rfl rfl (b_or.trans (ci e16)))) ?_
  have hq := bindO_inv hr
  clear hr
  obtain ⟨v17, e17, hr⟩ := hq
  refine wa_step (v := v17) (a_ld rfl e17) ?_
  have hq := bindO_inv hr
  clear hr
  obtain ⟨v18, e18, hr⟩ := hq
  have hq := asI_inv hr
  clear hr
  obtain ⟨x18, rfl, hr⟩ := hq
  refine wa_step (v := (.i .u32 x18)) (a_call (mc rfl mn) (callN_le hM.call e18)) ?_
  have hq := forceI_inv hr
  clear hr
  obtain ⟨x19, e19, hr⟩ := hq
  refine wa_step (v := (.i .u32 x19)) (a_pure (p_bin rfl rfl (b_and.trans (ci e19)))) ?_
  refine wa_step (v := (.i .u32 x19)) (a_pure (p_mv rfl)) ?_
  refine wa_nil ?_
  refine ⟨m_1, rfl, ?_⟩
  refine nx_norm ?_
  refine w_ret ?_
  exact qf ret_ok (rt rfl rn) hr

end Go.Proofs.YtddnpchfjdgigaaDoor.T

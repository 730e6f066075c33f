/- Plain functions, and that the small machine answers as they do. -/
import Derived.Test.YtfohppnelbbepaaVmP
import Derived.Test.YtfohppnelbbepaaVmAE
open Go.Vm
set_option linter.unusedVariables false
namespace Go.Proofs.Ytfohppnelbbepaa.T
open Go
/- internal/stringslite.HasPrefix -/
abbrev g104_J0 (m0 : Mm) (o : Bool) (m1 : Mm) (t1 : Tr) : Prop :=
  match o with
  | c17 => m0 = m1 ∧ t1.get 17 = (.b c17)
def g104 (M : Means) (ro : List ABlk) (s0 : List UInt8) (s1 : List UInt8) (m0 : Mm) : Option (AVal × Heap × Nat × Nat) :=
  bindO (evP .e (.len true (.c (.s s0)))) fun v6 =>
  asI .i64 v6 fun x6 =>
  bindO (evP .e (.len true (.c (.s s1)))) fun v8 =>
  asI .i64 v8 fun x8 =>
  forceB (!ltI x6 x8) fun c9 =>
  bindO (cond c9 (
    bindO (evP .e (.len true (.c (.s s1)))) fun v13 =>
    asI .i64 v13 fun x13 =>
    bindO (evP .e (.slStr (.c (.s s0)) none (some (.c (.i .i64 x13))))) fun v14 =>
    asS v14 fun s14 =>
    bindO (evP .e (.sbin BinOp.eql (.c (.s s14)) (.c (.s s1)))) fun v16 =>
    asB v16 fun c16 =>
    some c16) (
    some false)) fun c17 =>
  finM m0.h.length (tupA [(.b c17)]) m0
theorem g104_ok {ro : List ABlk} {O : Caller} {M : Means} (hM : M.Ok ⟨F, O⟩ ro) {s0 s1 h r} (ho : O 104 [(.s s0), (.s s1)] h = none) (hr : g104 M ro s0 s1 ⟨h, h.length, h.length⟩ = some r) : callX ⟨F, O⟩ ro 104 [(.s s0), (.s s1)] h = some r := by
  refine callX_of (F := ⟨F, O⟩) (fn := fn104) (g := g104 M ro s0 s1) ho rfl rfl hr ?_
  clear ho
  clear hr
  intro m0 t0 ht hr
  have g0 : t0.get 0 = (.s s0) := ht 0
  have g1 : t0.get 1 = (.s s1) := ht 1
  clear ht
  unfold g104 at hr
  refine w_seq (w_ops (wo_step (v := (.b false)) (s_pure (p_mv rfl)) (wo_nil (nx_norm (w_seq (w_ops (wo_step (s_pure (p_mv g0)) ?_)))))))
  obtain ⟨v6, e6, z1⟩ := bindO_inv hr
  obtain ⟨x6, rfl, z2⟩ := asI_inv z1
  refine wo_step (s_pure (o_len rfl e6)) (wo_step (s_pure (p_mv g1)) ?_)
  obtain ⟨v8, e8, z3⟩ := bindO_inv z2
  obtain ⟨x8, rfl, z4⟩ := asI_inv z3
  refine wo_step (s_pure (o_len rfl e8)) ?_
  obtain ⟨c9, e9, z5⟩ := forceB_inv z4
  refine wo_step (s_pure (p_bin rfl rfl (b_geq.trans (cb e9)))) (wo_step (v := (.b c9)) (s_pure (p_mv rfl)) ?_)
  obtain ⟨o, z6, hk⟩ := bindO_inv z5
  refine wo_join 7 (g104_J0 m0 o) ?_ ?_
  · clear hk
    rcases cond_inv z6 with ⟨rfl, z7⟩ | ⟨rfl, z7⟩
    · refine wo_take (v := (.s s0)) rfl (s_pure (p_mv g0)) (wo_take (v := (.s s1)) rfl (s_pure (p_mv g1)) ?_)
      obtain ⟨v13, e13, z8⟩ := bindO_inv z7
      obtain ⟨x13, rfl, z9⟩ := asI_inv z8
      refine wo_take (v := (.i .i64 x13)) rfl (s_pure (o_len rfl e13)) ?_
      obtain ⟨v14, e14, z10⟩ := bindO_inv z9
      obtain ⟨s14, rfl, z11⟩ := asS_inv z10
      refine wo_take (v := (.s s14)) rfl (s_pure (o_slStr rfl on (os rfl) e14)) (wo_take (v := (.s s1)) rfl (s_pure (p_mv g1)) ?_)
      obtain ⟨v16, e16, z12⟩ := bindO_inv z11
      obtain ⟨c16, rfl, z13⟩ := asB_inv z12
      refine wo_take (v := (.b c16)) rfl (s_pure (o_sbin rfl rfl e16)) (wo_step (v := (.b c16)) (s_pure (p_pickT rfl rfl)) (wo_nil ?_))
      cases z13
      exact ⟨_, _, rfl, rfl, gl rfl⟩
    · refine wo_skip (v := (.b false)) rfl rfl (wo_skip (v := (.b false)) rfl rfl (wo_skip (v := (.b false)) rfl rfl (wo_skip (v := (.b false)) rfl rfl (wo_skip (v := (.b false)) rfl rfl (wo_skip (v := (.b false)) rfl rfl (wo_step (v := (.b false)) (s_pure (p_pickF rfl rfl)) (wo_nil ?_)))))))
      cases z7
      exact ⟨_, _, rfl, rfl, gl rfl⟩
  · clear z6
    have hr := hk
    clear hk
    obtain ⟨c17, ho⟩ : ∃ z, z = o := ⟨_, rfl⟩
    subst ho
    rintro mm t_1 ⟨rfl, g17⟩
    refine wo_step (s_pure (p_mv g17)) (wo_nil (nx_norm ?_))
    refine w_ret ?_
    exact qf ret_ok (rt rfl rn) hr
/- (dibber/vine.many).times -/

def g126 (M : Means) (ro : List ABlk) (x0 : Int) (x1 : Int) (m0 : Mm) : Option (AVal × Heap × Nat × Nat) :=
  bindP (callM M.call m0 127 [(.i .u64 x0), (.i .u64 x1)]) fun v10 m_1 =>
  bindO (evP .e (.ext 0 (.c v10))) fun v11 =>
  asI .u64 v11 fun x11 =>
  bindO (evP .e (.ext 1 (.c v10))) fun v12 =>
  asI .u64 v12 fun x12 =>
  forceB (ltI 0 x11) fun c14 =>
  cond c14 (
    finM m0.h.length (tupA [(.i .u64 9223372036854775808)]) m_1) (
    forceI (mxV false x12 9223372036854775808) fun x16 =>
    finM m0.h.length (tupA [(.i .u64 x16)]) m_1)
theorem g126_ok {ro : List ABlk} {O : Caller} {M : Means} (hM : M.Ok ⟨F, O⟩ ro) {x0 x1 h r} (ho : O 126 [(.i .u64 x0), (.i .u64 x1)] h = none) (hr : g126 M ro x0 x1 ⟨h, h.length, h.length⟩ = some r) : callX ⟨F, O⟩ ro 126 [(.i .u64 x0), (.i .u64 x1)] h = some r := by
  refine callX_of (F := ⟨F, O⟩) (fn := fn126) (g := g126 M ro x0 x1) ho rfl rfl hr ?_
  clear ho
  clear hr
  intro m0 t0 ht hr
  have g0 : t0.get 0 = (.i .u64 x0) := ht 0
  have g1 : t0.get 1 = (.i .u64 x1) := ht 1
  clear ht
  unfold g126 at hr
  refine w_seq (w_ops (wo_step (v := (.i .u64 0)) (s_pure (p_mv rfl)) (wo_nil (nx_norm (w_seq (w_ops (wo_step (s_pure (p_mv g0)) (wo_step (s_pure (p_mv g1)) ?_))))))))
  obtain ⟨v10, m_1, e10, z1⟩ := bindP_inv hr
  refine wo_step (s_call (mc rfl (mc rfl mn)) (callM_le hM.call e10)) (wo_step (v := v10) (s_pure (p_mv rfl)) ?_)
  obtain ⟨v11, e11, z2⟩ := bindO_inv z1
  obtain ⟨x11, rfl, z3⟩ := asI_inv z2
  refine wo_step (s_pure (o_ext rfl e11)) ?_
  obtain ⟨v12, e12, z4⟩ := bindO_inv z3
  obtain ⟨x12, rfl, z5⟩ := asI_inv z4
  refine wo_step (s_pure (o_ext rfl e12)) (wo_step (v := (.i .u64 x11)) (s_pure (p_mv rfl)) (wo_step (v := (.i .u64 x12)) (s_pure (p_mv rfl)) (wo_nil (nx_norm (w_seq (w_seq (w_ops (wo_step (v := (.i .u64 x11)) (s_pure (p_mv rfl)) ?_))))))))
  obtain ⟨c14, e14, z6⟩ := forceB_inv z5
  refine wo_step (s_pure (p_bin rfl rfl (b_gtr.trans (cb e14)))) (wo_nil (nx_norm ?_))
  rcases cond_inv z6 with ⟨rfl, z7⟩ | ⟨rfl, z7⟩
  · refine w_condT rfl ?_
    refine w_seq (w_ops (wo_step (v := (.i .u64 9223372036854775808)) (s_pure (p_mv rfl)) (wo_nil (nx_norm ?_))))
    refine w_ret ?_
    refine nx_ret ?_
    exact qf ret_ok (rt rfl rn) z7
  · refine w_condF rfl ?_
    refine w_skip (nx_norm (w_seq (w_ops (wo_step (v := (.i .u64 x12)) (s_pure (p_mv rfl)) ?_))))
    obtain ⟨x16, e16, z8⟩ := forceI_inv z7
    refine wo_step (s_pure ((p_mx rfl rfl).trans (ci e16))) (wo_step (v := (.i .u64 x16)) (s_pure (p_mv rfl)) (wo_nil (nx_norm ?_)))
    refine w_ret ?_
    exact qf ret_ok (rt rfl rn) z8
/- math/bits.Mul64 -/

def g127 (M : Means) (ro : List ABlk) (x0 : Int) (x1 : Int) (m0 : Mm) : Option (AVal × Heap × Nat × Nat) :=
  forceI (bitV .and .u64 x0 4294967295) fun x15 =>
  forceI (shrV .u64 x0 32) fun x17 =>
  forceI (bitV .and .u64 x1 4294967295) fun x19 =>
  forceI (shrV .u64 x1 32) fun x21 =>
  forceI (wr .u64 (x15 * x19)) fun x24 =>
  forceI (wr .u64 (x17 * x19)) fun x27 =>
  forceI (shrV .u64 x24 32) fun x29 =>
  forceI (wr .u64 (x27 + x29)) fun x30 =>
  forceI (bitV .and .u64 x30 4294967295) fun x32 =>
  forceI (shrV .u64 x30 32) fun x34 =>
  forceI (wr .u64 (x15 * x21)) fun x38 =>
  forceI (wr .u64 (x32 + x38)) fun x39 =>
  forceI (wr .u64 (x17 * x21)) fun x42 =>
  forceI (wr .u64 (x42 + x34)) fun x44 =>
  forceI (shrV .u64 x39 32) fun x46 =>
  forceI (wr .u64 (x44 + x46)) fun x47 =>
  forceI (wr .u64 (x0 * x1)) fun x50 =>
  finM m0.h.length (tupA [(.i .u64 x47), (.i .u64 x50)]) m0
theorem g127_ok {ro : List ABlk} {O : Caller} {M : Means} (hM : M.Ok ⟨F, O⟩ ro) {x0 x1 h r} (ho : O 127 [(.i .u64 x0), (.i .u64 x1)] h = none) (hr : g127 M ro x0 x1 ⟨h, h.length, h.length⟩ = some r) : callX ⟨F, O⟩ ro 127 [(.i .u64 x0), (.i .u64 x1)] h = some r := by
  refine callX_of (F := ⟨F, O⟩) (fn := fn127) (g := g127 M ro x0 x1) ho rfl rfl hr ?_
  clear ho
  clear hr
  intro m0 t0 ht hr
  have g0 : t0.get 0 = (.i .u64 x0) := ht 0
  have g1 : t0.get 1 = (.i .u64 x1) := ht 1
  clear ht
  unfold g127 at hr
  refine w_seq (w_ops (wo_step (v := (.i .u64 0)) (s_pure (p_mv rfl)) (wo_step (v := (.i .u64 0)) (s_pure (p_mv rfl)) (wo_nil (nx_norm (w_seq (w_ops (wo_step (s_pure (p_mv g0)) ?_))))))))
  obtain ⟨x15, e15, z1⟩ := forceI_inv hr
  refine wo_step (s_pure (p_bin rfl rfl (b_and.trans (ci e15)))) (wo_step (v := (.i .u64 x15)) (s_pure (p_mv rfl)) (wo_nil (nx_norm (w_seq (w_ops (wo_step (s_pure (p_mv g0)) ?_))))))
  obtain ⟨x17, e17, z2⟩ := forceI_inv z1
  refine wo_step (s_pure (p_bin rfl rfl ((b_shr rfl).trans (ci e17)))) (wo_step (v := (.i .u64 x17)) (s_pure (p_mv rfl)) (wo_nil (nx_norm (w_seq (w_ops (wo_step (s_pure (p_mv g1)) ?_))))))
  obtain ⟨x19, e19, z3⟩ := forceI_inv z2
  refine wo_step (s_pure (p_bin rfl rfl (b_and.trans (ci e19)))) (wo_step (v := (.i .u64 x19)) (s_pure (p_mv rfl)) (wo_nil (nx_norm (w_seq (w_ops (wo_step (s_pure (p_mv g1)) ?_))))))
  obtain ⟨x21, e21, z4⟩ := forceI_inv z3
  refine wo_step (s_pure (p_bin rfl rfl ((b_shr rfl).trans (ci e21)))) (wo_step (v := (.i .u64 x21)) (s_pure (p_mv rfl)) (wo_nil (nx_norm (w_seq (w_ops (wo_step (v := (.i .u64 x15)) (s_pure (p_mv rfl)) (wo_step (v := (.i .u64 x19)) (s_pure (p_mv rfl)) ?_)))))))
  obtain ⟨x24, e24, z5⟩ := forceI_inv z4
  refine wo_step (s_pure (p_bin rfl rfl (b_mul.trans (ci e24)))) (wo_step (v := (.i .u64 x24)) (s_pure (p_mv rfl)) (wo_nil (nx_norm (w_seq (w_ops (wo_step (v := (.i .u64 x17)) (s_pure (p_mv rfl)) (wo_step (v := (.i .u64 x19)) (s_pure (p_mv rfl)) ?_)))))))
  obtain ⟨x27, e27, z6⟩ := forceI_inv z5
  refine wo_step (s_pure (p_bin rfl rfl (b_mul.trans (ci e27)))) (wo_step (v := (.i .u64 x24)) (s_pure (p_mv rfl)) ?_)
  obtain ⟨x29, e29, z7⟩ := forceI_inv z6
  refine wo_step (s_pure (p_bin rfl rfl ((b_shr rfl).trans (ci e29)))) ?_
  obtain ⟨x30, e30, z8⟩ := forceI_inv z7
  refine wo_step (s_pure (p_bin rfl rfl (b_add.trans (ci e30)))) (wo_step (v := (.i .u64 x30)) (s_pure (p_mv rfl)) (wo_nil (nx_norm (w_seq (w_ops (wo_step (v := (.i .u64 x30)) (s_pure (p_mv rfl)) ?_))))))
  obtain ⟨x32, e32, z9⟩ := forceI_inv z8
  refine wo_step (s_pure (p_bin rfl rfl (b_and.trans (ci e32)))) (wo_step (v := (.i .u64 x32)) (s_pure (p_mv rfl)) (wo_nil (nx_norm (w_seq (w_ops (wo_step (v := (.i .u64 x30)) (s_pure (p_mv rfl)) ?_))))))
  obtain ⟨x34, e34, z10⟩ := forceI_inv z9
  refine wo_step (s_pure (p_bin rfl rfl ((b_shr rfl).trans (ci e34)))) (wo_step (v := (.i .u64 x34)) (s_pure (p_mv rfl)) (wo_nil (nx_norm (w_seq (w_ops (wo_step (v := (.i .u64 x32)) (s_pure (p_mv rfl)) (wo_step (v := (.i .u64 x15)) (s_pure (p_mv rfl)) (wo_step (v := (.i .u64 x21)) (s_pure (p_mv rfl)) ?_))))))))
  obtain ⟨x38, e38, z11⟩ := forceI_inv z10
  refine wo_step (s_pure (p_bin rfl rfl (b_mul.trans (ci e38)))) ?_
  obtain ⟨x39, e39, z12⟩ := forceI_inv z11
  refine wo_step (s_pure (p_bin rfl rfl (b_add.trans (ci e39)))) (wo_step (v := (.i .u64 x39)) (s_pure (p_mv rfl)) (wo_nil (nx_norm (w_seq (w_ops (wo_step (v := (.i .u64 x17)) (s_pure (p_mv rfl)) (wo_step (v := (.i .u64 x21)) (s_pure (p_mv rfl)) ?_)))))))
  obtain ⟨x42, e42, z13⟩ := forceI_inv z12
  refine wo_step (s_pure (p_bin rfl rfl (b_mul.trans (ci e42)))) (wo_step (v := (.i .u64 x34)) (s_pure (p_mv rfl)) ?_)
  obtain ⟨x44, e44, z14⟩ := forceI_inv z13
  refine wo_step (s_pure (p_bin rfl rfl (b_add.trans (ci e44)))) (wo_step (v := (.i .u64 x39)) (s_pure (p_mv rfl)) ?_)
  obtain ⟨x46, e46, z15⟩ := forceI_inv z14
  refine wo_step (s_pure (p_bin rfl rfl ((b_shr rfl).trans (ci e46)))) ?_
  obtain ⟨x47, e47, z16⟩ := forceI_inv z15
  refine wo_step (s_pure (p_bin rfl rfl (b_add.trans (ci e47)))) (wo_step (v := (.i .u64 x47)) (s_pure (p_mv rfl)) (wo_nil (nx_norm (w_seq (w_ops (wo_step (s_pure (p_mv g0)) (wo_step (s_pure (p_mv g1)) ?_)))))))
  obtain ⟨x50, e50, z17⟩ := forceI_inv z16
  refine wo_step (s_pure (p_bin rfl rfl (b_mul.trans (ci e50)))) (wo_step (v := (.i .u64 x50)) (s_pure (p_mv rfl)) (wo_nil (nx_norm ?_)))
  refine w_ret ?_
  exact qf ret_ok (rt rfl (rt rfl rn)) z17
end Go.Proofs.Ytfohppnelbbepaa.T

/- Plain functions, and that the small machine answers as they do. -/
import Derived.Test.YtfohppnelbbepaaVmP
import Derived.Test.YtfohppnelbbepaaVmAE
open Go.Vm
set_option linter.unusedVariables false
namespace Go.Proofs.Ytfohppnelbbepaa.T
open Go
/- (dibber/vine.rules).endless-1 -/
abbrev g98_I0 (v0 : AVal) (v1 : AVal) (s : AVal × Int × Mm) (m1 : Mm) (t1 : Tr) : Prop :=
  match s with
  | (v4, x5, m_2) => m_2 = m1 ∧ t1.get 4 = v4 ∧ t1.get 5 = (.i .i64 x5) ∧ t1.get 0 = v0 ∧ t1.get 1 = v1
abbrev g98_J0 (v0 : AVal) (v1 : AVal) (o : (Mm ⊕ Mm)) (e : AExit) (m1 : Mm) (t1 : Tr) : Prop :=
  match o with
  | (.inl mo) => e = (.exit 0) ∧ mo = m1
  | (.inr mo) => e = .ret ∧ mo = m1
abbrev g98_J1 (v0 : AVal) (v1 : AVal) (x5 : Int) (o : (AVal × Mm)) (e : AExit) (m1 : Mm) (t1 : Tr) : Prop :=
  match o with
  | (y4, mo) => e = .norm ∧ mo = m1 ∧ t1.get 4 = y4 ∧ t1.get 0 = v0 ∧ t1.get 1 = v1 ∧ t1.get 5 = (.i .i64 x5)
def g98_b0 (M : Means) (ro : List ABlk) (v0 : AVal) (v1 : AVal) (v4 : AVal) (x5 : Int) (m_2 : Mm) : Option ((AVal × Int × Mm) ⊕ ((Mm ⊕ Mm))) :=
  forceB (ltI x5 100000) fun c12 =>
  cond c12 (
    forceB (ltI 0 x5) fun c16 =>
    bindO (α := (AVal × Mm)) (
      cond c16 (
        bindO (some (Mm.base m_2)) fun m_3 =>
        bindO (ldA ro m_2.h true 1 v1) fun v18 =>
        bindO (evP .e (.ixS 1 (.c v4) (.c (.i .i64 x5)))) fun v21 =>
        bindO (ldM ro m_3 true 1 v21) fun v22 =>
        asI .u8 v22 fun x22 =>
        bindP (callM M.call m_3 54 [(.i .u8 x22)]) fun v23 m_4 =>
        asI .i64 v23 fun x23 =>
        chk (!Nat.blt m_4.lw m_2.h.length) <|
        bindO (evP .e (.ixS 1 (.c v18) (.c (.i .i64 x23)))) fun v24 =>
        bindO (ldM ro m_4 true 1 v24) fun v25 =>
        asS v25 fun s25 =>
        bindP (stepM ro m_4 (.app 5 1 1 [(AVal.i IntKind.u8 0)] (.c v4) (.c (.s s25)))) fun v26 m_5 =>
        bindO (some (Mm.join m_2 m_5)) fun m_6 =>
        some (v26, m_6)) (
        some (v4, m_2))) fun ⟨v4_1, m_7⟩ =>
    bindO (evP .e (.ixS 1 (.c v4_1) (.c (.i .i64 x5)))) fun v31 =>
    bindO (ldM ro m_7 true 1 v31) fun v32 =>
    asI .u8 v32 fun x32 =>
    bindP (callyM M.call M.round m_7 v0 [(.i .i64 x5), (.i .u8 x32)]) fun v33 m_8 =>
    asB v33 fun c33 =>
    forceB (!c33) fun c34 =>
    cond c34 (
      some (.inr (.inr m_8))) (
      forceI (wr .i64 (x5 + 1)) fun x14 =>
      some (.inl (v4_1, x14, m_8)))) (
    some (.inr (.inl m_2)))
def g98 (M : Means) (ro : List ABlk) (v0 : AVal) (v1 : AVal) (v2 : AVal) (m0 : Mm) : Option (AVal × Heap × Nat × Nat) :=
  bindO (ldM ro m0 true 1 v1) fun v6 =>
  bindO (ldM ro m0 true 1 v2) fun v7 =>
  asI .i64 v7 fun x7 =>
  bindO (evP .e (.ixS 1 (.c v6) (.c (.i .i64 x7)))) fun v8 =>
  bindO (ldM ro m0 true 1 v8) fun v9 =>
  asS v9 fun s9 =>
  bindP (stepM ro m0 (.stb 5 (.c (.s s9)))) fun v10 m_1 =>
  bindO (M.loop (S := AVal × Int × Mm) (R := (Mm ⊕ Mm)) (fun s => g98_b0 M ro v0 v1 s.1 s.2.1 s.2.2) (v10, 0, m_1)) fun o_1 => match o_1 with
  | (.inl m_9) =>
    finM m0.h.length (tupA []) m_9
  | (.inr m_10) =>
    finM m0.h.length (tupA []) m_10
theorem g98_ok {ro : List ABlk} {O : Caller} {M : Means} (hM : M.Ok ⟨F, O⟩ ro) {v0 v1 v2 h r} (ho : O 98 [v0, v1, v2] h = none) (hr : g98 M ro v0 v1 v2 ⟨h, h.length, h.length⟩ = some r) : callX ⟨F, O⟩ ro 98 [v0, v1, v2] h = some r := by
  refine callX_of (F := ⟨F, O⟩) (fn := fn98) (g := g98 M ro v0 v1 v2) ho rfl rfl hr ?_
  clear ho
  clear hr
  intro m0 t0 ht hr
  have g0 : t0.get 0 = v0 := ht 0
  have g1 : t0.get 1 = v1 := ht 1
  have g2 : t0.get 2 = v2 := ht 2
  clear ht
  unfold g98 at hr
  refine w_seq (w_ops ?_)
  obtain ⟨v6, e6, z1⟩ := bindO_inv hr
  refine wo_step (s_ld g1 e6) ?_
  obtain ⟨v7, e7, z2⟩ := bindO_inv z1
  obtain ⟨x7, rfl, z3⟩ := asI_inv z2
  refine wo_step (s_ld g2 e7) ?_
  obtain ⟨v8, e8, z4⟩ := bindO_inv z3
  refine wo_step (s_pure (o_ixS rfl rfl e8)) ?_
  obtain ⟨v9, e9, z5⟩ := bindO_inv z4
  obtain ⟨s9, rfl, z6⟩ := asS_inv z5
  refine wo_step (s_ld rfl e9) ?_
  obtain ⟨v10, m_1, e10, z7⟩ := bindP_inv z6
  refine wo_step (s_stb rfl e10) (wo_step (v := v10) (s_pure (p_mv rfl)) (wo_nil (nx_norm (w_seq (w_ops (wo_step (v := (.i .i64 0)) (s_pure (p_mv rfl)) (wo_nil (nx_norm ?_))))))))
  refine w_block ?_
  obtain ⟨o_1, hl, z8⟩ := bindO_inv z7
  obtain ⟨n, hl⟩ := hM.loop _ _ _ hl
  refine jp_mono (w_loop _ (g98_I0 v0 v1) (g98_J0 v0 v1) ?_ n _ _ _ _ hl ⟨rfl, gl rfl, gl rfl, gl g0, gl g1⟩) ?_
  · clear z8 hl
    intro s mm_3 t_1 o hi hr
    obtain ⟨v4, x5, m_2⟩ := s
    obtain ⟨rfl, g4, g5, g0, g1⟩ := hi
    unfold g98_b0 at hr
    refine w_seq (w_seq (w_ops (wo_step (s_pure (p_mv g5)) ?_)))
    obtain ⟨c12, e12, z9⟩ := forceB_inv hr
    refine wo_step (s_pure (p_bin rfl rfl (b_lss.trans (cb e12)))) (wo_nil (nx_norm ?_))
    rcases cond_inv z9 with ⟨rfl, z10⟩ | ⟨rfl, z10⟩
    · refine w_condT rfl ?_
      refine w_skip (nx_norm (w_seq ?_))
      refine w_block ?_
      refine w_seq (w_seq (w_ops (wo_step (s_pure (p_mv g5)) ?_)))
      obtain ⟨c16, e16, z11⟩ := forceB_inv z10
      refine wo_step (s_pure (p_bin rfl rfl (b_gtr.trans (cb e16)))) (wo_nil (nx_norm ?_))
      obtain ⟨o, z12, hk⟩ := bindO_inv z11
      refine jp_mono (J := g98_J1 v0 v1 x5 o) ?_ ?_
      · clear hk
        rcases cond_inv z12 with ⟨rfl, z13⟩ | ⟨rfl, z13⟩
        · refine w_condT rfl ?_
          obtain ⟨m_3, ef, z14⟩ := bindO_inv z13
          refine w_flt (af := true) rfl ef ?_
          refine wf_step (v := v4) (f_P rfl (s_pure (p_mv g4))) ?_
          obtain ⟨v18, e18, z15⟩ := bindO_inv z14
          refine wf_step (v := v18) (f_ld g1 e18) ?_
          refine wf_step (v := v4) (f_P rfl (s_pure (p_mv g4))) ?_
          refine wf_step (v := (.i .i64 x5)) (f_P rfl (s_pure (p_mv g5))) ?_
          obtain ⟨v21, e21, z16⟩ := bindO_inv z15
          refine wf_step (v := v21) (f_P rfl (s_pure (o_ixS rfl rfl e21))) ?_
          obtain ⟨v22, e22, z17⟩ := bindO_inv z16
          obtain ⟨x22, rfl, z18⟩ := asI_inv z17
          refine wf_step (v := (.i .u8 x22)) (f_P rfl (s_ld rfl e22)) ?_
          obtain ⟨v23, m_4, e23, z19⟩ := bindP_inv z18
          obtain ⟨x23, rfl, z20⟩ := asI_inv z19
          obtain ⟨hc23, z21⟩ := chk_inv z20
          refine wf_step (v := (.i .i64 x23)) (f_M hc23 (s_call (mc rfl mn) (callM_le hM.call e23))) ?_
          obtain ⟨v24, e24, z22⟩ := bindO_inv z21
          refine wf_step (v := v24) (f_P rfl (s_pure (o_ixS rfl rfl e24))) ?_
          obtain ⟨v25, e25, z23⟩ := bindO_inv z22
          obtain ⟨s25, rfl, z24⟩ := asS_inv z23
          refine wf_step (v := (.s s25)) (f_P rfl (s_ld rfl e25)) ?_
          obtain ⟨v26, m_5, e26, z25⟩ := bindP_inv z24
          refine wf_step (v := v26) (f_F rfl (s_app rfl rfl e26)) ?_
          refine wf_step (v := v26) (f_P rfl (s_pure (p_mv rfl))) ?_
          obtain ⟨m_6, ef_1, z26⟩ := bindO_inv z25
          refine wf_end ef_1 ?_
          cases z26
          exact ⟨_, _, rfl, rfl, rfl, gl rfl, gl g0, gl g1, gl g5⟩
        · refine w_condF rfl ?_
          refine w_skip ?_
          cases z13
          exact ⟨_, _, rfl, rfl, rfl, gl g4, gl g0, gl g1, gl g5⟩
      · clear z12
        have hr := hk
        clear hk
        obtain ⟨v4_1, m_7⟩ := o
        rintro _ mm t_2 ⟨rfl, rfl, g4, g0, g1, g5⟩
        refine nx_norm (w_seq ?_)
        refine w_opsY ?_
        refine wy_step (v := v0) (y_C (s_pure (p_mv g0))) ?_
        refine wy_step (v := (.i .i64 x5)) (y_C (s_pure (p_mv g5))) ?_
        refine wy_step (v := v4_1) (y_C (s_pure (p_mv g4))) ?_
        refine wy_step (v := (.i .i64 x5)) (y_C (s_pure (p_mv g5))) ?_
        obtain ⟨v31, e31, z27⟩ := bindO_inv hr
        refine wy_step (v := v31) (y_C (s_pure (o_ixS rfl rfl e31))) ?_
        obtain ⟨v32, e32, z28⟩ := bindO_inv z27
        obtain ⟨x32, rfl, z29⟩ := asI_inv z28
        refine wy_step (v := (.i .u8 x32)) (y_C (s_ld rfl e32)) ?_
        obtain ⟨v33, m_8, e33, z30⟩ := bindP_inv z29
        obtain ⟨c33, rfl, z31⟩ := asB_inv z30
        refine wy_step (v := (.b c33)) (y_callv rfl (mc rfl (mc rfl mn)) (callyM_le hM.call hM.round e33)) ?_
        obtain ⟨c34, e34, z32⟩ := forceB_inv z31
        refine wy_step (v := (.b c34)) (y_C (s_pure ((p_not rfl).trans (cb e34)))) ?_
        refine wy_nil ?_
        refine nx_norm ?_
        rcases cond_inv z32 with ⟨rfl, z33⟩ | ⟨rfl, z33⟩
        · refine w_condT rfl ?_
          refine w_ret ?_
          refine bk_ret ?_
          refine nx_ret ?_
          cases z33
          exact ⟨_, _, rfl, ne_norm_ret, rfl, rfl⟩
        · refine w_condF rfl ?_
          refine w_skip ?_
          refine bk_norm ?_
          refine nx_norm (w_ops (wo_step (s_pure (p_mv g5)) ?_))
          obtain ⟨x14, e14, z34⟩ := forceI_inv z33
          refine wo_step (s_pure (p_bin rfl rfl (b_add.trans (ci e14)))) (wo_step (v := (.i .i64 x14)) (s_pure (p_mv rfl)) (wo_nil ?_))
          cases z34
          exact ⟨_, _, rfl, rfl, rfl, gl g4, gl rfl, gl g0, gl g1⟩
    · refine w_condF rfl ?_
      refine w_exit ?_
      refine nx_exit ?_
      cases z10
      exact ⟨_, _, rfl, ne_norm_exit, rfl, rfl⟩
  · rcases o_1 with o_1 | o_1
    · obtain ⟨m_9, ho⟩ : ∃ z, z = o_1 := ⟨_, rfl⟩
      subst ho
      rintro _ mm_1 t_3 ⟨rfl, rfl⟩
      refine bk_hit ?_
      exact qf norm_ok rn z8
    · obtain ⟨m_10, ho⟩ : ∃ z, z = o_1 := ⟨_, rfl⟩
      subst ho
      rintro _ mm_2 t_4 ⟨rfl, rfl⟩
      refine bk_ret ?_
      exact qf ret_ok rn z8
/- internal/stringslite.CutPrefix -/

def g102 (M : Means) (ro : List ABlk) (s0 : List UInt8) (s1 : List UInt8) (m0 : Mm) : Option (AVal × Heap × Nat × Nat) :=
  bindP (callM M.call m0 104 [(.s s0), (.s s1)]) fun v8 m_1 =>
  asB v8 fun c8 =>
  forceB (!c8) fun c9 =>
  cond c9 (
    finM m0.h.length (tupA [(.s s0), (.b false)]) m_1) (
    bindO (evP .e (.len true (.c (.s s1)))) fun v13 =>
    asI .i64 v13 fun x13 =>
    bindO (evP .e (.slStr (.c (.s s0)) (some (.c (.i .i64 x13))) none)) fun v14 =>
    asS v14 fun s14 =>
    finM m0.h.length (tupA [(.s s14), (.b true)]) m_1)
theorem g102_ok {ro : List ABlk} {O : Caller} {M : Means} (hM : M.Ok ⟨F, O⟩ ro) {s0 s1 h r} (ho : O 102 [(.s s0), (.s s1)] h = none) (hr : g102 M ro s0 s1 ⟨h, h.length, h.length⟩ = some r) : callX ⟨F, O⟩ ro 102 [(.s s0), (.s s1)] h = some r := by
  refine callX_of (F := ⟨F, O⟩) (fn := fn102) (g := g102 M ro s0 s1) ho rfl rfl hr ?_
  clear ho
  clear hr
  intro m0 t0 ht hr
  have g0 : t0.get 0 = (.s s0) := ht 0
  have g1 : t0.get 1 = (.s s1) := ht 1
  clear ht
  unfold g102 at hr
  refine w_seq (w_ops (wo_step (v := (AVal.s [])) (s_pure (p_mv rfl)) (wo_step (v := (.b false)) (s_pure (p_mv rfl)) (wo_nil (nx_norm (w_seq (w_seq (w_ops (wo_step (s_pure (p_mv g0)) (wo_step (s_pure (p_mv g1)) ?_))))))))))
  obtain ⟨v8, m_1, e8, z1⟩ := bindP_inv hr
  obtain ⟨c8, rfl, z2⟩ := asB_inv z1
  refine wo_step (s_call (mc rfl (mc rfl mn)) (callM_le hM.call e8)) ?_
  obtain ⟨c9, e9, z3⟩ := forceB_inv z2
  refine wo_step (s_pure ((p_not rfl).trans (cb e9))) (wo_nil (nx_norm ?_))
  rcases cond_inv z3 with ⟨rfl, z4⟩ | ⟨rfl, z4⟩
  · refine w_condT rfl ?_
    refine w_seq (w_ops (wo_step (s_pure (p_mv g0)) (wo_step (v := (.s s0)) (s_pure (p_mv rfl)) (wo_step (v := (.b false)) (s_pure (p_mv rfl)) (wo_nil (nx_norm ?_))))))
    refine w_ret ?_
    refine nx_ret ?_
    exact qf ret_ok (rt rfl (rt rfl rn)) z4
  · refine w_condF rfl ?_
    refine w_skip (nx_norm (w_seq (w_ops (wo_step (s_pure (p_mv g0)) (wo_step (s_pure (p_mv g1)) ?_)))))
    obtain ⟨v13, e13, z5⟩ := bindO_inv z4
    obtain ⟨x13, rfl, z6⟩ := asI_inv z5
    refine wo_step (s_pure (o_len rfl e13)) ?_
    obtain ⟨v14, e14, z7⟩ := bindO_inv z6
    obtain ⟨s14, rfl, z8⟩ := asS_inv z7
    refine wo_step (s_pure (o_slStr rfl (os rfl) on e14)) (wo_step (v := (.s s14)) (s_pure (p_mv rfl)) (wo_step (v := (.b true)) (s_pure (p_mv rfl)) (wo_nil (nx_norm ?_))))
    refine w_ret ?_
    exact qf ret_ok (rt rfl (rt rfl rn)) z8
/- internal/stringslite.HasPrefix -/
abbrev g104_J0 (m0 : Mm) (o : Bool) (m1 : Mm) (t1 : Tr) : Prop :=
  match o with
  | c17 => m0 = m1 ∧ t1.get 17 = (.b c17)
def g104 (M : Means) (ro : List ABlk) (s0 : List UInt8) (s1 : List UInt8) (m0 : Mm) : Option (AVal × Heap × Nat × Nat) :=
  bindO (evP .e (.len true (.c (.s s0)))) fun v6 =>
  asI .i64 v6 fun x6 =>
  bindO (evP .e (.len true (.c (.s s1)))) fun v8 =>
  asI .i64 v8 fun x8 =>
  forceB (!ltI x6 x8) fun c9 =>
  bindO (cond c9 (
    bindO (evP .e (.len true (.c (.s s1)))) fun v13 =>
    asI .i64 v13 fun x13 =>
    bindO (evP .e (.slStr (.c (.s s0)) none (some (.c (.i .i64 x13))))) fun v14 =>
    asS v14 fun s14 =>
    bindO (evP .e (.sbin BinOp.eql (.c (.s s14)) (.c (.s s1)))) fun v16 =>
    asB v16 fun c16 =>
    some c16) (
    some false)) fun c17 =>
  finM m0.h.length (tupA [(.b c17)]) m0
theorem g104_ok {ro : List ABlk} {O : Caller} {M : Means} (hM : M.Ok ⟨F, O⟩ ro) {s0 s1 h r} (ho : O 104 [(.s s0), (.s s1)] h = none) (hr : g104 M ro s0 s1 ⟨h, h.length, h.length⟩ = some r) : callX ⟨F, O⟩ ro 104 [(.s s0), (.s s1)] h = some r := by
  refine callX_of (F := ⟨F, O⟩) (fn := fn104) (g := g104 M ro s0 s1) ho rfl rfl hr ?_
  clear ho
  clear hr
  intro m0 t0 ht hr
  have g0 : t0.get 0 = (.s s0) := ht 0
  have g1 : t0.get 1 = (.s s1) := ht 1
  clear ht
  unfold g104 at hr
  refine w_seq (w_ops (wo_step (v := (.b false)) (s_pure (p_mv rfl)) (wo_nil (nx_norm (w_seq (w_ops (wo_step (s_pure (p_mv g0)) ?_)))))))
  obtain ⟨v6, e6, z1⟩ := bindO_inv hr
  obtain ⟨x6, rfl, z2⟩ := asI_inv z1
  refine wo_step (s_pure (o_len rfl e6)) (wo_step (s_pure (p_mv g1)) ?_)
  obtain ⟨v8, e8, z3⟩ := bindO_inv z2
  obtain ⟨x8, rfl, z4⟩ := asI_inv z3
  refine wo_step (s_pure (o_len rfl e8)) ?_
  obtain ⟨c9, e9, z5⟩ := forceB_inv z4
  refine wo_step (s_pure (p_bin rfl rfl (b_geq.trans (cb e9)))) (wo_step (v := (.b c9)) (s_pure (p_mv rfl)) ?_)
  obtain ⟨o, z6, hk⟩ := bindO_inv z5
  refine wo_join 7 (g104_J0 m0 o) ?_ ?_
  · clear hk
    rcases cond_inv z6 with ⟨rfl, z7⟩ | ⟨rfl, z7⟩
    · refine wo_take (v := (.s s0)) rfl (s_pure (p_mv g0)) (wo_take (v := (.s s1)) rfl (s_pure (p_mv g1)) ?_)
      obtain ⟨v13, e13, z8⟩ := bindO_inv z7
      obtain ⟨x13, rfl, z9⟩ := asI_inv z8
      refine wo_take (v := (.i .i64 x13)) rfl (s_pure (o_len rfl e13)) ?_
      obtain ⟨v14, e14, z10⟩ := bindO_inv z9
      obtain ⟨s14, rfl, z11⟩ := asS_inv z10
      refine wo_take (v := (.s s14)) rfl (s_pure (o_slStr rfl on (os rfl) e14)) (wo_take (v := (.s s1)) rfl (s_pure (p_mv g1)) ?_)
      obtain ⟨v16, e16, z12⟩ := bindO_inv z11
      obtain ⟨c16, rfl, z13⟩ := asB_inv z12
      refine wo_take (v := (.b c16)) rfl (s_pure (o_sbin rfl rfl e16)) (wo_step (v := (.b c16)) (s_pure (p_pickT rfl rfl)) (wo_nil ?_))
      cases z13
      exact ⟨_, _, rfl, rfl, gl rfl⟩
    · refine wo_skip (v := (.b false)) rfl rfl (wo_skip (v := (.b false)) rfl rfl (wo_skip (v := (.b false)) rfl rfl (wo_skip (v := (.b false)) rfl rfl (wo_skip (v := (.b false)) rfl rfl (wo_skip (v := (.b false)) rfl rfl (wo_step (v := (.b false)) (s_pure (p_pickF rfl rfl)) (wo_nil ?_)))))))
      cases z7
      exact ⟨_, _, rfl, rfl, gl rfl⟩
  · clear z6
    have hr := hk
    clear hk
    obtain ⟨c17, ho⟩ : ∃ z, z = o := ⟨_, rfl⟩
    subst ho
    rintro mm t_1 ⟨rfl, g17⟩
    refine wo_step (s_pure (p_mv g17)) (wo_nil (nx_norm ?_))
    refine w_ret ?_
    exact qf ret_ok (rt rfl rn) hr
/- (dibber/vine.many).times -/

def g126 (M : Means) (ro : List ABlk) (x0 : Int) (x1 : Int) (m0 : Mm) : Option (AVal × Heap × Nat × Nat) :=
  bindP (callM M.call m0 127 [(.i .u64 x0), (.i .u64 x1)]) fun v10 m_1 =>
  bindO (evP .e (.ext 0 (.c v10))) fun v11 =>
  asI .u64 v11 fun x11 =>
  bindO (evP .e (.ext 1 (.c v10))) fun v12 =>
  asI .u64 v12 fun x12 =>
  forceB (ltI 0 x11) fun c14 =>
  cond c14 (
    finM m0.h.length (tupA [(.i .u64 9223372036854775808)]) m_1) (
    forceI (mxV false x12 9223372036854775808) fun x16 =>
    finM m0.h.length (tupA [(.i .u64 x16)]) m_1)
theorem g126_ok {ro : List ABlk} {O : Caller} {M : Means} (hM : M.Ok ⟨F, O⟩ ro) {x0 x1 h r} (ho : O 126 [(.i .u64 x0), (.i .u64 x1)] h = none) (hr : g126 M ro x0 x1 ⟨h, h.length, h.length⟩ = some r) : callX ⟨F, O⟩ ro 126 [(.i .u64 x0), (.i .u64 x1)] h = some r := by
  refine callX_of (F := ⟨F, O⟩) (fn := fn126) (g := g126 M ro x0 x1) ho rfl rfl hr ?_
  clear ho
  clear hr
  intro m0 t0 ht hr
  have g0 : t0.get 0 = (.i .u64 x0) := ht 0
  have g1 : t0.get 1 = (.i .u64 x1) := ht 1
  clear ht
  unfold g126 at hr
  refine w_seq (w_ops (wo_step (v := (.i .u64 0)) (s_pure (p_mv rfl)) (wo_nil (nx_norm (w_seq (w_ops (wo_step (s_pure (p_mv g0)) (wo_step (s_pure (p_mv g1)) ?_))))))))
  obtain ⟨v10, m_1, e10, z1⟩ := bindP_inv hr
  refine wo_step (s_call (mc rfl (mc rfl mn)) (callM_le hM.call e10)) (wo_step (v := v10) (s_pure (p_mv rfl)) ?_)
  obtain ⟨v11, e11, z2⟩ := bindO_inv z1
  obtain ⟨x11, rfl, z3⟩ := asI_inv z2
  refine wo_step (s_pure (o_ext rfl e11)) ?_
  obtain ⟨v12, e12, z4⟩ := bindO_inv z3
  obtain ⟨x12, rfl, z5⟩ := asI_inv z4
  refine wo_step (s_pure (o_ext rfl e12)) (wo_step (v := (.i .u64 x11)) (s_pure (p_mv rfl)) (wo_step (v := (.i .u64 x12)) (s_pure (p_mv rfl)) (wo_nil (nx_norm (w_seq (w_seq (w_ops (wo_step (v := (.i .u64 x11)) (s_pure (p_mv rfl)) ?_))))))))
  obtain ⟨c14, e14, z6⟩ := forceB_inv z5
  refine wo_step (s_pure (p_bin rfl rfl (b_gtr.trans (cb e14)))) (wo_nil (nx_norm ?_))
  rcases cond_inv z6 with ⟨rfl, z7⟩ | ⟨rfl, z7⟩
  · refine w_condT rfl ?_
    refine w_seq (w_ops (wo_step (v := (.i .u64 9223372036854775808)) (s_pure (p_mv rfl)) (wo_nil (nx_norm ?_))))
    refine w_ret ?_
    refine nx_ret ?_
    exact qf ret_ok (rt rfl rn) z7
  · refine w_condF rfl ?_
    refine w_skip (nx_norm (w_seq (w_ops (wo_step (v := (.i .u64 x12)) (s_pure (p_mv rfl)) ?_))))
    obtain ⟨x16, e16, z8⟩ := forceI_inv z7
    refine wo_step (s_pure ((p_mx rfl rfl).trans (ci e16))) (wo_step (v := (.i .u64 x16)) (s_pure (p_mv rfl)) (wo_nil (nx_norm ?_)))
    refine w_ret ?_
    exact qf ret_ok (rt rfl rn) z8
/- math/bits.Mul64 -/

def g127 (M : Means) (ro : List ABlk) (x0 : Int) (x1 : Int) (m0 : Mm) : Option (AVal × Heap × Nat × Nat) :=
  forceI (bitV .and .u64 x0 4294967295) fun x15 =>
  forceI (shrV .u64 x0 32) fun x17 =>
  forceI (bitV .and .u64 x1 4294967295) fun x19 =>
  forceI (shrV .u64 x1 32) fun x21 =>
  forceI (wr .u64 (x15 * x19)) fun x24 =>
  forceI (wr .u64 (x17 * x19)) fun x27 =>
  forceI (shrV .u64 x24 32) fun x29 =>
  forceI (wr .u64 (x27 + x29)) fun x30 =>
  forceI (bitV .and .u64 x30 4294967295) fun x32 =>
  forceI (shrV .u64 x30 32) fun x34 =>
  forceI (wr .u64 (x15 * x21)) fun x38 =>
  forceI (wr .u64 (x32 + x38)) fun x39 =>
  forceI (wr .u64 (x17 * x21)) fun x42 =>
  forceI (wr .u64 (x42 + x34)) fun x44 =>
  forceI (shrV .u64 x39 32) fun x46 =>
  forceI (wr .u64 (x44 + x46)) fun x47 =>
  forceI (wr .u64 (x0 * x1)) fun x50 =>
  finM m0.h.length (tupA [(.i .u64 x47), (.i .u64 x50)]) m0
theorem g127_ok {ro : List ABlk} {O : Caller} {M : Means} (hM : M.Ok ⟨F, O⟩ ro) {x0 x1 h r} (ho : O 127 [(.i .u64 x0), (.i .u64 x1)] h = none) (hr : g127 M ro x0 x1 ⟨h, h.length, h.length⟩ = some r) : callX ⟨F, O⟩ ro 127 [(.i .u64 x0), (.i .u64 x1)] h = some r := by
  refine callX_of (F := ⟨F, O⟩) (fn := fn127) (g := g127 M ro x0 x1) ho rfl rfl hr ?_
  clear ho
  clear hr
  intro m0 t0 ht hr
  have g0 : t0.get 0 = (.i .u64 x0) := ht 0
  have g1 : t0.get 1 = (.i .u64 x1) := ht 1
  clear ht
  unfold g127 at hr
  refine w_seq (w_ops (wo_step (v := (.i .u64 0)) (s_pure (p_mv rfl)) (wo_step (v := (.i .u64 0)) (s_pure (p_mv rfl)) (wo_nil (nx_norm (w_seq (w_ops (wo_step (s_pure (p_mv g0)) ?_))))))))
  obtain ⟨x15, e15, z1⟩ := forceI_inv hr
  refine wo_step (s_pure (p_bin rfl rfl (b_and.trans (ci e15)))) (wo_step (v := (.i .u64 x15)) (s_pure (p_mv rfl)) (wo_nil (nx_norm (w_seq (w_ops (wo_step (s_pure (p_mv g0)) ?_))))))
  obtain ⟨x17, e17, z2⟩ := forceI_inv z1
  refine wo_step (s_pure (p_bin rfl rfl ((b_shr rfl).trans (ci e17)))) (wo_step (v := (.i .u64 x17)) (s_pure (p_mv rfl)) (wo_nil (nx_norm (w_seq (w_ops (wo_step (s_pure (p_mv g1)) ?_))))))
  obtain ⟨x19, e19, z3⟩ := forceI_inv z2
  refine wo_step (s_pure (p_bin rfl rfl (b_and.trans (ci e19)))) (wo_step (v := (.i .u64 x19)) (s_pure (p_mv rfl)) (wo_nil (nx_norm (w_seq (w_ops (wo_step (s_pure (p_mv g1)) ?_))))))
  obtain ⟨x21, e21, z4⟩ := forceI_inv z3
  refine wo_step (s_pure (p_bin rfl rfl ((b_shr rfl).trans (ci e21)))) (wo_step (v := (.i .u64 x21)) (s_pure (p_mv rfl)) (wo_nil (nx_norm (w_seq (w_ops (wo_step (v := (.i .u64 x15)) (s_pure (p_mv rfl)) (wo_step (v := (.i .u64 x19)) (s_pure (p_mv rfl)) ?_)))))))
  obtain ⟨x24, e24, z5⟩ := forceI_inv z4
  refine wo_step (s_pure (p_bin rfl rfl (b_mul.trans (ci e24)))) (wo_step (v := (.i .u64 x24)) (s_pure (p_mv rfl)) (wo_nil (nx_norm (w_seq (w_ops (wo_step (v := (.i .u64 x17)) (s_pure (p_mv rfl)) (wo_step (v := (.i .u64 x19)) (s_pure (p_mv rfl)) ?_)))))))
  obtain ⟨x27, e27, z6⟩ := forceI_inv z5
  refine wo_step (s_pure (p_bin rfl rfl (b_mul.trans (ci e27)))) (wo_step (v := (.i .u64 x24)) (s_pure (p_mv rfl)) ?_)
  obtain ⟨x29, e29, z7⟩ := forceI_inv z6
  refine wo_step (s_pure (p_bin rfl rfl ((b_shr rfl).trans (ci e29)))) ?_
  obtain ⟨x30, e30, z8⟩ := forceI_inv z7
  refine wo_step (s_pure (p_bin rfl rfl (b_add.trans (ci e30)))) (wo_step (v := (.i .u64 x30)) (s_pure (p_mv rfl)) (wo_nil (nx_norm (w_seq (w_ops (wo_step (v := (.i .u64 x30)) (s_pure (p_mv rfl)) ?_))))))
  obtain ⟨x32, e32, z9⟩ := forceI_inv z8
  refine wo_step (s_pure (p_bin rfl rfl (b_and.trans (ci e32)))) (wo_step (v := (.i .u64 x32)) (s_pure (p_mv rfl)) (wo_nil (nx_norm (w_seq (w_ops (wo_step (v := (.i .u64 x30)) (s_pure (p_mv rfl)) ?_))))))
  obtain ⟨x34, e34, z10⟩ := forceI_inv z9
  refine wo_step (s_pure (p_bin rfl rfl ((b_shr rfl).trans (ci e34)))) (wo_step (v := (.i .u64 x34)) (s_pure (p_mv rfl)) (wo_nil (nx_norm (w_seq (w_ops (wo_step (v := (.i .u64 x32)) (s_pure (p_mv rfl)) (wo_step (v := (.i .u64 x15)) (s_pure (p_mv rfl)) (wo_step (v := (.i .u64 x21)) (s_pure (p_mv rfl)) ?_))))))))
  obtain ⟨x38, e38, z11⟩ := forceI_inv z10
  refine wo_step (s_pure (p_bin rfl rfl (b_mul.trans (ci e38)))) ?_
  obtain ⟨x39, e39, z12⟩ := forceI_inv z11
  refine wo_step (s_pure (p_bin rfl rfl (b_add.trans (ci e39)))) (wo_step (v := (.i .u64 x39)) (s_pure (p_mv rfl)) (wo_nil (nx_norm (w_seq (w_ops (wo_step (v := (.i .u64 x17)) (s_pure (p_mv rfl)) (wo_step (v := (.i .u64 x21)) (s_pure (p_mv rfl)) ?_)))))))
  obtain ⟨x42, e42, z13⟩ := forceI_inv z12
  refine wo_step (s_pure (p_bin rfl rfl (b_mul.trans (ci e42)))) (wo_step (v := (.i .u64 x34)) (s_pure (p_mv rfl)) ?_)
  obtain ⟨x44, e44, z14⟩ := forceI_inv z13
  refine wo_step (s_pure (p_bin rfl rfl (b_add.trans (ci e44)))) (wo_step (v := (.i .u64 x39)) (s_pure (p_mv rfl)) ?_)
  obtain ⟨x46, e46, z15⟩ := forceI_inv z14
  refine wo_step (s_pure (p_bin rfl rfl ((b_shr rfl).trans (ci e46)))) ?_
  obtain ⟨x47, e47, z16⟩ := forceI_inv z15
  refine wo_step (s_pure (p_bin rfl rfl (b_add.trans (ci e47)))) (wo_step (v := (.i .u64 x47)) (s_pure (p_mv rfl)) (wo_nil (nx_norm (w_seq (w_ops (wo_step (s_pure (p_mv g0)) (wo_step (s_pure (p_mv g1)) ?_)))))))
  obtain ⟨x50, e50, z17⟩ := forceI_inv z16
  refine wo_step (s_pure (p_bin rfl rfl (b_mul.trans (ci e50)))) (wo_step (v := (.i .u64 x50)) (s_pure (p_mv rfl)) (wo_nil (nx_norm ?_)))
  refine w_ret ?_
  exact qf ret_ok (rt rfl (rt rfl rn)) z17
/- (dibber/vine.whole).plus -/

def g128 (M : Means) (ro : List ABlk) (x0 : Int) (x1 : Int) (m0 : Mm) : Option (AVal × Heap × Nat × Nat) :=
  forceI (wr .i64 (x0 + x1)) fun x7 =>
  finM m0.h.length (tupA [(.i .i64 x7)]) m0
theorem g128_ok {ro : List ABlk} {O : Caller} {M : Means} (hM : M.Ok ⟨F, O⟩ ro) {x0 x1 h r} (ho : O 128 [(.i .i64 x0), (.i .i64 x1)] h = none) (hr : g128 M ro x0 x1 ⟨h, h.length, h.length⟩ = some r) : callX ⟨F, O⟩ ro 128 [(.i .i64 x0), (.i .i64 x1)] h = some r := by
  refine callX_of (F := ⟨F, O⟩) (fn := fn128) (g := g128 M ro x0 x1) ho rfl rfl hr ?_
  clear ho
  clear hr
  intro m0 t0 ht hr
  have g0 : t0.get 0 = (.i .i64 x0) := ht 0
  have g1 : t0.get 1 = (.i .i64 x1) := ht 1
  clear ht
  unfold g128 at hr
  refine w_seq (w_ops (wo_step (v := (.i .i64 0)) (s_pure (p_mv rfl)) (wo_nil (nx_norm (w_seq (w_ops (wo_step (s_pure (p_mv g0)) (wo_step (s_pure (p_mv g1)) ?_))))))))
  obtain ⟨x7, e7, z1⟩ := forceI_inv hr
  refine wo_step (s_pure (p_bin rfl rfl (b_add.trans (ci e7)))) (wo_step (v := (.i .i64 x7)) (s_pure (p_mv rfl)) (wo_nil (nx_norm ?_)))
  refine w_ret ?_
  exact qf ret_ok (rt rfl rn) z1
/- (dibber/vine.whole).times -/

def g129 (M : Means) (ro : List ABlk) (x0 : Int) (x1 : Int) (m0 : Mm) : Option (AVal × Heap × Nat × Nat) :=
  forceI (wr .i64 (x0 * x1)) fun x7 =>
  finM m0.h.length (tupA [(.i .i64 x7)]) m0
theorem g129_ok {ro : List ABlk} {O : Caller} {M : Means} (hM : M.Ok ⟨F, O⟩ ro) {x0 x1 h r} (ho : O 129 [(.i .i64 x0), (.i .i64 x1)] h = none) (hr : g129 M ro x0 x1 ⟨h, h.length, h.length⟩ = some r) : callX ⟨F, O⟩ ro 129 [(.i .i64 x0), (.i .i64 x1)] h = some r := by
  refine callX_of (F := ⟨F, O⟩) (fn := fn129) (g := g129 M ro x0 x1) ho rfl rfl hr ?_
  clear ho
  clear hr
  intro m0 t0 ht hr
  have g0 : t0.get 0 = (.i .i64 x0) := ht 0
  have g1 : t0.get 1 = (.i .i64 x1) := ht 1
  clear ht
  unfold g129 at hr
  refine w_seq (w_ops (wo_step (v := (.i .i64 0)) (s_pure (p_mv rfl)) (wo_nil (nx_norm (w_seq (w_ops (wo_step (s_pure (p_mv g0)) (wo_step (s_pure (p_mv g1)) ?_))))))))
  obtain ⟨x7, e7, z1⟩ := forceI_inv hr
  refine wo_step (s_pure (p_bin rfl rfl (b_mul.trans (ci e7)))) (wo_step (v := (.i .i64 x7)) (s_pure (p_mv rfl)) (wo_nil (nx_norm ?_)))
  refine w_ret ?_
  exact qf ret_ok (rt rfl rn) z1
end Go.Proofs.Ytfohppnelbbepaa.T

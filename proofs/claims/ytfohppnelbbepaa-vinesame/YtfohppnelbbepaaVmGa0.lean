/- Plain functions, and that the small machine answers as they do. -/
import Derived.Test.YtfohppnelbbepaaVmP
import Derived.Test.YtfohppnelbbepaaVmAE
open Go.Vm
set_option linter.unusedVariables false
namespace Go.Proofs.Ytfohppnelbbepaa.T
open Go
/- dibber/dibberlaw03.VineSame -/
abbrev g6_J0 (v0 : AVal) (s1 : List UInt8) (v2 : AVal) (s3 : List UInt8) (o : Bool × Mm) (m1 : Mm) (t1 : Tr) : Prop :=
  match o with
  | (c22, m_2) => m_2 = m1 ∧ t1.get 22 = (.b c22) ∧ t1.get 0 = v0 ∧ t1.get 1 = (.s s1) ∧ t1.get 2 = v2 ∧ t1.get 3 = (.s s3)
abbrev g6_J1 (v0 : AVal) (s1 : List UInt8) (v2 : AVal) (s3 : List UInt8) (m_6 : Mm) (o : Bool) (m1 : Mm) (t1 : Tr) : Prop :=
  match o with
  | c47 => m_6 = m1 ∧ t1.get 47 = (.b c47) ∧ t1.get 0 = v0 ∧ t1.get 1 = (.s s1) ∧ t1.get 2 = v2 ∧ t1.get 3 = (.s s3)
abbrev g6_J2 (m_8 : Mm) (o : Bool) (m1 : Mm) (t1 : Tr) : Prop :=
  match o with
  | c71 => m_8 = m1 ∧ t1.get 71 = (.b c71)
abbrev g6_J3  (o : Bool × Mm) (m1 : Mm) (t1 : Tr) : Prop :=
  match o with
  | (c74, m_9) => m_9 = m1 ∧ t1.get 74 = (.b c74)
def g6 (M : Means) (ro : List ABlk) (v0 : AVal) (s1 : List UInt8) (v2 : AVal) (s3 : List UInt8) (m0 : Mm) : Option (AVal × Heap × Nat × Nat) :=
  bindP (callM M.call m0 15 [v0, (.s s1)]) fun v15 m_1 =>
  asB v15 fun c15 =>
  forceB (!c15) fun c16 =>
  bindO (cond c16 (
    some (true, m_1)) (
    bindP (callM M.call m_1 15 [v2, (.s s3)]) fun v20 m_3 =>
    asB v20 fun c20 =>
    forceB (!c20) fun c21 =>
    some (c21, m_3))) fun ⟨c22, m_2⟩ =>
  cond c22 (
    bindP (callM M.call m_2 16 []) fun v23 m_4 =>
    asB v23 fun c23 =>
    finM m0.h.length (tupA [(.b c23)]) m_4) (
    bindP (callM M.call m_2 30 [v0, (.s s1), v2, (.s s3)]) fun v29 m_5 =>
    bindO (evP .e (.ext 0 (.c v29))) fun v30 =>
    asI .i64 v30 fun x30 =>
    bindO (evP .e (.ext 1 (.c v29))) fun v31 =>
    asI .i64 v31 fun x31 =>
    bindP (callM M.call m_5 31 [v0, (.s s1), v2, (.s s3)]) fun v37 m_6 =>
    bindO (evP .e (.ext 0 (.c v37))) fun v38 =>
    asI .i64 v38 fun x38 =>
    bindO (evP .e (.ext 1 (.c v37))) fun v39 =>
    asI .i64 v39 fun x39 =>
    forceB (!eqI x30 x38) fun c42 =>
    bindO (cond c42 (
      some true) (
      forceB (!eqI x31 x39) fun c46 =>
      some c46)) fun c47 =>
    cond c47 (
      finM m0.h.length (tupA [(.b false)]) m_6) (
      bindP (callM M.call m_6 32 [v0, (.s s1), v2, (.s s3)]) fun v53 m_7 =>
      bindO (evP .e (.ext 0 (.c v53))) fun v54 =>
      asI .i64 v54 fun x54 =>
      bindO (evP .e (.ext 1 (.c v53))) fun v55 =>
      asI .i64 v55 fun x55 =>
      bindP (callM M.call m_7 33 [v0, (.s s1), v2, (.s s3)]) fun v61 m_8 =>
      bindO (evP .e (.ext 0 (.c v61))) fun v62 =>
      asI .i64 v62 fun x62 =>
      bindO (evP .e (.ext 1 (.c v61))) fun v63 =>
      asI .i64 v63 fun x63 =>
      forceB (eqI x54 x62) fun c66 =>
      bindO (cond c66 (
        forceB (eqI x55 x63) fun c70 =>
        some c70) (
        some false)) fun c71 =>
      bindO (cond c71 (
        bindP (callM M.call m_8 16 []) fun v73 m_10 =>
        asB v73 fun c73 =>
        some (c73, m_10)) (
        some (false, m_8))) fun ⟨c74, m_9⟩ =>
      finM m0.h.length (tupA [(.b c74)]) m_9))
theorem g6_ok {ro : List ABlk} {O : Caller} {M : Means} (hM : M.Ok ⟨F, O⟩ ro) {v0 s1 v2 s3 h r} (ho : O 6 [v0, (.s s1), v2, (.s s3)] h = none) (hr : g6 M ro v0 s1 v2 s3 ⟨h, h.length, h.length⟩ = some r) : callX ⟨F, O⟩ ro 6 [v0, (.s s1), v2, (.s s3)] h = some r := by
  refine callX_of (F := ⟨F, O⟩) (fn := fn6) (g := g6 M ro v0 s1 v2 s3) ho rfl rfl hr ?_
  clear ho
  clear hr
  intro m0 t0 ht hr
  have g0 : t0.get 0 = v0 := ht 0
  have g1 : t0.get 1 = (.s s1) := ht 1
  have g2 : t0.get 2 = v2 := ht 2
  have g3 : t0.get 3 = (.s s3) := ht 3
  clear ht
  unfold g6 at hr
  refine w_seq (w_ops (wo_step (v := (.b false)) (s_pure (p_mv rfl)) (wo_nil (nx_norm (w_seq (w_seq (w_ops (wo_step (s_pure (p_mv g0)) (wo_step (s_pure (p_mv g1)) ?_)))))))))
  obtain ⟨v15, m_1, e15, z1⟩ := bindP_inv hr
  obtain ⟨c15, rfl, z2⟩ := asB_inv z1
  refine wo_step (s_call (mc rfl (mc rfl mn)) (callM_le hM.call e15)) ?_
  obtain ⟨c16, e16, z3⟩ := forceB_inv z2
  refine wo_step (s_pure ((p_not rfl).trans (cb e16))) (wo_step (v := (.b c16)) (s_pure (p_mv rfl)) ?_)
  obtain ⟨o, z4, hk⟩ := bindO_inv z3
  refine wo_join 5 (g6_J0 v0 s1 v2 s3 o) ?_ ?_
  · clear hk
    rcases cond_inv z4 with ⟨rfl, z5⟩ | ⟨rfl, z5⟩
    · refine wo_skip (v := (.b true)) rfl rfl (wo_skip (v := (.b true)) rfl rfl (wo_skip (v := (.b true)) rfl rfl (wo_skip (v := (.b true)) rfl rfl (wo_step (v := (.b true)) (s_pure (p_pickT rfl rfl)) (wo_nil ?_)))))
      cases z5
      exact ⟨_, _, rfl, rfl, gl rfl, gl g0, gl g1, gl g2, gl g3⟩
    · refine wo_take (v := v2) rfl (s_pure (p_mv g2)) (wo_take (v := (.s s3)) rfl (s_pure (p_mv g3)) ?_)
      obtain ⟨v20, m_3, e20, z6⟩ := bindP_inv z5
      obtain ⟨c20, rfl, z7⟩ := asB_inv z6
      refine wo_take (v := (.b c20)) rfl (s_call (mc rfl (mc rfl mn)) (callM_le hM.call e20)) ?_
      obtain ⟨c21, e21, z8⟩ := forceB_inv z7
      refine wo_take (v := (.b c21)) rfl (s_pure ((p_not rfl).trans (cb e21))) (wo_step (v := (.b c21)) (s_pure (p_pickF rfl rfl)) (wo_nil ?_))
      cases z8
      exact ⟨_, _, rfl, rfl, gl rfl, gl g0, gl g1, gl g2, gl g3⟩
  · clear z4
    have hr := hk
    clear hk
    obtain ⟨c22, m_2⟩ := o
    rintro mm t_1 ⟨rfl, g22, g0, g1, g2, g3⟩
    refine wo_nil (nx_norm ?_)
    rcases cond_inv hr with ⟨rfl, z9⟩ | ⟨rfl, z9⟩
    · refine w_condT g22 ?_
      refine w_seq (w_ops ?_)
      obtain ⟨v23, m_4, e23, z10⟩ := bindP_inv z9
      obtain ⟨c23, rfl, z11⟩ := asB_inv z10
      refine wo_step (s_call mn (callM_le hM.call e23)) (wo_step (v := (.b c23)) (s_pure (p_mv rfl)) (wo_nil (nx_norm ?_)))
      refine w_ret ?_
      refine nx_ret ?_
      exact qf ret_ok (rt rfl rn) z11
    · refine w_condF g22 ?_
      refine w_skip (nx_norm (w_seq (w_ops (wo_step (s_pure (p_mv g0)) (wo_step (s_pure (p_mv g1)) (wo_step (s_pure (p_mv g2)) (wo_step (s_pure (p_mv g3)) ?_)))))))
      obtain ⟨v29, m_5, e29, z12⟩ := bindP_inv z9
      refine wo_step (s_call (mc rfl (mc rfl (mc rfl (mc rfl mn)))) (callM_le hM.call e29)) (wo_step (v := v29) (s_pure (p_mv rfl)) ?_)
      obtain ⟨v30, e30, z13⟩ := bindO_inv z12
      obtain ⟨x30, rfl, z14⟩ := asI_inv z13
      refine wo_step (s_pure (o_ext rfl e30)) ?_
      obtain ⟨v31, e31, z15⟩ := bindO_inv z14
      obtain ⟨x31, rfl, z16⟩ := asI_inv z15
      refine wo_step (s_pure (o_ext rfl e31)) (wo_step (v := (.i .i64 x30)) (s_pure (p_mv rfl)) (wo_step (v := (.i .i64 x31)) (s_pure (p_mv rfl)) (wo_nil (nx_norm (w_seq (w_ops (wo_step (s_pure (p_mv g0)) (wo_step (s_pure (p_mv g1)) (wo_step (s_pure (p_mv g2)) (wo_step (s_pure (p_mv g3)) ?_))))))))))
      obtain ⟨v37, m_6, e37, z17⟩ := bindP_inv z16
      refine wo_step (s_call (mc rfl (mc rfl (mc rfl (mc rfl mn)))) (callM_le hM.call e37)) (wo_step (v := v37) (s_pure (p_mv rfl)) ?_)
      obtain ⟨v38, e38, z18⟩ := bindO_inv z17
      obtain ⟨x38, rfl, z19⟩ := asI_inv z18
      refine wo_step (s_pure (o_ext rfl e38)) ?_
      obtain ⟨v39, e39, z20⟩ := bindO_inv z19
      obtain ⟨x39, rfl, z21⟩ := asI_inv z20
      refine wo_step (s_pure (o_ext rfl e39)) (wo_step (v := (.i .i64 x38)) (s_pure (p_mv rfl)) (wo_step (v := (.i .i64 x39)) (s_pure (p_mv rfl)) (wo_nil (nx_norm (w_seq (w_seq (w_ops (wo_step (v := (.i .i64 x30)) (s_pure (p_mv rfl)) (wo_step (v := (.i .i64 x38)) (s_pure (p_mv rfl)) ?_)))))))))
      obtain ⟨c42, e42, z22⟩ := forceB_inv z21
      refine wo_step (s_pure (p_bin rfl rfl (b_neq.trans (cb e42)))) (wo_step (v := (.b c42)) (s_pure (p_mv rfl)) ?_)
      obtain ⟨o_1, z23, hk⟩ := bindO_inv z22
      refine wo_join 4 (g6_J1 v0 s1 v2 s3 m_6 o_1) ?_ ?_
      · clear hk
        rcases cond_inv z23 with ⟨rfl, z24⟩ | ⟨rfl, z24⟩
        · refine wo_skip (v := (.b true)) rfl rfl (wo_skip (v := (.b true)) rfl rfl (wo_skip (v := (.b true)) rfl rfl (wo_step (v := (.b true)) (s_pure (p_pickT rfl rfl)) (wo_nil ?_))))
          cases z24
          exact ⟨_, _, rfl, rfl, gl rfl, gl g0, gl g1, gl g2, gl g3⟩
        · refine wo_take (v := (.i .i64 x31)) rfl (s_pure (p_mv rfl)) (wo_take (v := (.i .i64 x39)) rfl (s_pure (p_mv rfl)) ?_)
          obtain ⟨c46, e46, z25⟩ := forceB_inv z24
          refine wo_take (v := (.b c46)) rfl (s_pure (p_bin rfl rfl (b_neq.trans (cb e46)))) (wo_step (v := (.b c46)) (s_pure (p_pickF rfl rfl)) (wo_nil ?_))
          cases z25
          exact ⟨_, _, rfl, rfl, gl rfl, gl g0, gl g1, gl g2, gl g3⟩
      · clear z23
        have hr := hk
        clear hk
        obtain ⟨c47, ho⟩ : ∃ z, z = o_1 := ⟨_, rfl⟩
        subst ho
        rintro mm_1 t_2 ⟨rfl, g47, g0, g1, g2, g3⟩
        refine wo_nil (nx_norm ?_)
        rcases cond_inv hr with ⟨rfl, z26⟩ | ⟨rfl, z26⟩
        · refine w_condT g47 ?_
          refine w_seq (w_ops (wo_step (v := (.b false)) (s_pure (p_mv rfl)) (wo_nil (nx_norm ?_))))
          refine w_ret ?_
          refine nx_ret ?_
          exact qf ret_ok (rt rfl rn) z26
        · refine w_condF g47 ?_
          refine w_skip (nx_norm (w_seq (w_ops (wo_step (s_pure (p_mv g0)) (wo_step (s_pure (p_mv g1)) (wo_step (s_pure (p_mv g2)) (wo_step (s_pure (p_mv g3)) ?_)))))))
          obtain ⟨v53, m_7, e53, z27⟩ := bindP_inv z26
          refine wo_step (s_call (mc rfl (mc rfl (mc rfl (mc rfl mn)))) (callM_le hM.call e53)) (wo_step (v := v53) (s_pure (p_mv rfl)) ?_)
          obtain ⟨v54, e54, z28⟩ := bindO_inv z27
          obtain ⟨x54, rfl, z29⟩ := asI_inv z28
          refine wo_step (s_pure (o_ext rfl e54)) ?_
          obtain ⟨v55, e55, z30⟩ := bindO_inv z29
          obtain ⟨x55, rfl, z31⟩ := asI_inv z30
          refine wo_step (s_pure (o_ext rfl e55)) (wo_step (v := (.i .i64 x54)) (s_pure (p_mv rfl)) (wo_step (v := (.i .i64 x55)) (s_pure (p_mv rfl)) (wo_nil (nx_norm (w_seq (w_ops (wo_step (s_pure (p_mv g0)) (wo_step (s_pure (p_mv g1)) (wo_step (s_pure (p_mv g2)) (wo_step (s_pure (p_mv g3)) ?_))))))))))
          obtain ⟨v61, m_8, e61, z32⟩ := bindP_inv z31
          refine wo_step (s_call (mc rfl (mc rfl (mc rfl (mc rfl mn)))) (callM_le hM.call e61)) (wo_step (v := v61) (s_pure (p_mv rfl)) ?_)
          obtain ⟨v62, e62, z33⟩ := bindO_inv z32
          obtain ⟨x62, rfl, z34⟩ := asI_inv z33
          refine wo_step (s_pure (o_ext rfl e62)) ?_
          obtain ⟨v63, e63, z35⟩ := bindO_inv z34
          obtain ⟨x63, rfl, z36⟩ := asI_inv z35
          refine wo_step (s_pure (o_ext rfl e63)) (wo_step (v := (.i .i64 x62)) (s_pure (p_mv rfl)) (wo_step (v := (.i .i64 x63)) (s_pure (p_mv rfl)) (wo_nil (nx_norm (w_seq (w_ops (wo_step (v := (.i .i64 x54)) (s_pure (p_mv rfl)) (wo_step (v := (.i .i64 x62)) (s_pure (p_mv rfl)) ?_))))))))
          obtain ⟨c66, e66, z37⟩ := forceB_inv z36
          refine wo_step (s_pure (p_bin rfl rfl (b_eql.trans (cb e66)))) (wo_step (v := (.b c66)) (s_pure (p_mv rfl)) ?_)
          obtain ⟨o_2, z38, hk⟩ := bindO_inv z37
          refine wo_join 4 (g6_J2 m_8 o_2) ?_ ?_
          · clear hk
            rcases cond_inv z38 with ⟨rfl, z39⟩ | ⟨rfl, z39⟩
            · refine wo_take (v := (.i .i64 x55)) rfl (s_pure (p_mv rfl)) (wo_take (v := (.i .i64 x63)) rfl (s_pure (p_mv rfl)) ?_)
              obtain ⟨c70, e70, z40⟩ := forceB_inv z39
              refine wo_take (v := (.b c70)) rfl (s_pure (p_bin rfl rfl (b_eql.trans (cb e70)))) (wo_step (v := (.b c70)) (s_pure (p_pickT rfl rfl)) (wo_nil ?_))
              cases z40
              exact ⟨_, _, rfl, rfl, gl rfl⟩
            · refine wo_skip (v := (.b false)) rfl rfl (wo_skip (v := (.b false)) rfl rfl (wo_skip (v := (.b false)) rfl rfl (wo_step (v := (.b false)) (s_pure (p_pickF rfl rfl)) (wo_nil ?_))))
              cases z39
              exact ⟨_, _, rfl, rfl, gl rfl⟩
          · clear z38
            have hr := hk
            clear hk
            obtain ⟨c71, ho⟩ : ∃ z, z = o_2 := ⟨_, rfl⟩
            subst ho
            rintro mm_2 t_3 ⟨rfl, g71⟩
            refine wo_step (s_pure (p_mv g71)) ?_
            obtain ⟨o_3, z41, hk⟩ := bindO_inv hr
            refine wo_join 2 (g6_J3  o_3) ?_ ?_
            · clear hk
              rcases cond_inv z41 with ⟨rfl, z42⟩ | ⟨rfl, z42⟩
              · obtain ⟨v73, m_10, e73, z43⟩ := bindP_inv z42
                obtain ⟨c73, rfl, z44⟩ := asB_inv z43
                refine wo_take (v := (.b c73)) rfl (s_call mn (callM_le hM.call e73)) (wo_step (v := (.b c73)) (s_pure (p_pickT rfl rfl)) (wo_nil ?_))
                cases z44
                exact ⟨_, _, rfl, rfl, gl rfl⟩
              · refine wo_skip (v := (.b false)) rfl rfl (wo_step (v := (.b false)) (s_pure (p_pickF rfl rfl)) (wo_nil ?_))
                cases z42
                exact ⟨_, _, rfl, rfl, gl rfl⟩
            · clear z41
              have hr := hk
              clear hk
              obtain ⟨c74, m_9⟩ := o_3
              rintro mm_3 t_4 ⟨rfl, g74⟩
              refine wo_step (s_pure (p_mv g74)) (wo_nil (nx_norm ?_))
              refine w_ret ?_
              exact qf ret_ok (rt rfl rn) hr
/- dibber/dibberlaw03.few -/
abbrev g15_I0 (v0 : AVal) (s1 : List UInt8) (m0 : Mm) (s : Int) (m1 : Mm) (t1 : Tr) : Prop :=
  match s with
  | x5 => m0 = m1 ∧ t1.get 5 = (.i .i64 x5) ∧ t1.get 0 = v0 ∧ t1.get 1 = (.s s1)
abbrev g15_J0 (v0 : AVal) (s1 : List UInt8) (m0 : Mm) (o : (Unit ⊕ Bool)) (e : AExit) (m1 : Mm) (t1 : Tr) : Prop :=
  match o with
  | (.inl _) => e = (.exit 0) ∧ m0 = m1 ∧ t1.get 1 = (.s s1)
  | (.inr y4) => e = .ret ∧ m0 = m1 ∧ t1.get 4 = (.b y4)
abbrev g15_J1 (v0 : AVal) (s1 : List UInt8) (x5 : Int) (m0 : Mm) (o : Bool) (m1 : Mm) (t1 : Tr) : Prop :=
  match o with
  | c21 => m0 = m1 ∧ t1.get 21 = (.b c21) ∧ t1.get 0 = v0 ∧ t1.get 1 = (.s s1) ∧ t1.get 5 = (.i .i64 x5)
def g15_b0 (M : Means) (ro : List ABlk) (v0 : AVal) (s1 : List UInt8) (m0 : Mm) (x5 : Int) : Option ((Int) ⊕ ((Unit ⊕ Bool))) :=
  bindO (evP .e (.len false (.c v0))) fun v8 =>
  asI .i64 v8 fun x8 =>
  forceB (ltI x5 x8) fun c9 =>
  cond c9 (
    forceB (!ltI x5 20) fun c13 =>
    bindO (cond c13 (
      some true) (
      bindO (evP .e (.ixS 1 (.c v0) (.c (.i .i64 x5)))) fun v17 =>
      bindO (ldM ro m0 true 1 v17) fun v18 =>
      asS v18 fun s18 =>
      bindO (evP .e (.len true (.c (.s s18)))) fun v19 =>
      asI .i64 v19 fun x19 =>
      forceB (ltI 50 x19) fun c20 =>
      some c20)) fun c21 =>
    cond c21 (
      some (.inr (.inr false))) (
      forceI (wr .i64 (x5 + 1)) fun x11 =>
      some (.inl x11))) (
    some (.inr (.inl ())))
def g15 (M : Means) (ro : List ABlk) (v0 : AVal) (s1 : List UInt8) (m0 : Mm) : Option (AVal × Heap × Nat × Nat) :=
  bindO (M.loop (S := Int) (R := (Unit ⊕ Bool)) (fun s => g15_b0 M ro v0 s1 m0 s) 0) fun o_1 => match o_1 with
  | (.inl _) =>
    bindO (evP .e (.len true (.c (.s s1)))) fun v23 =>
    asI .i64 v23 fun x23 =>
    forceB (!ltI 100 x23) fun c24 =>
    finM m0.h.length (tupA [(.b c24)]) m0
  | (.inr c4) =>
    finM m0.h.length (tupA [(.b c4)]) m0
theorem g15_ok {ro : List ABlk} {O : Caller} {M : Means} (hM : M.Ok ⟨F, O⟩ ro) {v0 s1 h r} (ho : O 15 [v0, (.s s1)] h = none) (hr : g15 M ro v0 s1 ⟨h, h.length, h.length⟩ = some r) : callX ⟨F, O⟩ ro 15 [v0, (.s s1)] h = some r := by
  refine callX_of (F := ⟨F, O⟩) (fn := fn15) (g := g15 M ro v0 s1) ho rfl rfl hr ?_
  clear ho
  clear hr
  intro m0 t0 ht hr
  have g0 : t0.get 0 = v0 := ht 0
  have g1 : t0.get 1 = (.s s1) := ht 1
  clear ht
  unfold g15 at hr
  refine w_seq (w_ops (wo_step (v := (.b false)) (s_pure (p_mv rfl)) (wo_nil (nx_norm (w_seq (w_seq (w_ops (wo_step (v := (.i .i64 0)) (s_pure (p_mv rfl)) (wo_nil (nx_norm ?_))))))))))
  refine w_block ?_
  obtain ⟨o_1, hl, z1⟩ := bindO_inv hr
  obtain ⟨n, hl⟩ := hM.loop _ _ _ hl
  refine jp_mono (w_loop _ (g15_I0 v0 s1 m0) (g15_J0 v0 s1 m0) ?_ n _ _ _ _ hl ⟨rfl, gl rfl, gl g0, gl g1⟩) ?_
  · clear z1 hl
    intro s mm_3 t_1 o hi hr
    obtain ⟨x5, hs⟩ : ∃ z, z = s := ⟨_, rfl⟩
    subst hs
    obtain ⟨rfl, g5, g0, g1⟩ := hi
    unfold g15_b0 at hr
    refine w_seq (w_seq (w_ops (wo_step (s_pure (p_mv g5)) (wo_step (s_pure (p_mv g0)) ?_))))
    obtain ⟨v8, e8, z2⟩ := bindO_inv hr
    obtain ⟨x8, rfl, z3⟩ := asI_inv z2
    refine wo_step (s_pure (o_len rfl e8)) ?_
    obtain ⟨c9, e9, z4⟩ := forceB_inv z3
    refine wo_step (s_pure (p_bin rfl rfl (b_lss.trans (cb e9)))) (wo_nil (nx_norm ?_))
    rcases cond_inv z4 with ⟨rfl, z5⟩ | ⟨rfl, z5⟩
    · refine w_condT rfl ?_
      refine w_skip (nx_norm (w_seq ?_))
      refine w_block ?_
      refine w_seq (w_ops (wo_step (s_pure (p_mv g5)) ?_))
      obtain ⟨c13, e13, z6⟩ := forceB_inv z5
      refine wo_step (s_pure (p_bin rfl rfl (b_geq.trans (cb e13)))) (wo_step (v := (.b c13)) (s_pure (p_mv rfl)) ?_)
      obtain ⟨o, z7, hk⟩ := bindO_inv z6
      refine wo_join 7 (g15_J1 v0 s1 x5 m0 o) ?_ ?_
      · clear hk
        rcases cond_inv z7 with ⟨rfl, z8⟩ | ⟨rfl, z8⟩
        · refine wo_skip (v := (.b true)) rfl rfl (wo_skip (v := (.b true)) rfl rfl (wo_skip (v := (.b true)) rfl rfl (wo_skip (v := (.b true)) rfl rfl (wo_skip (v := (.b true)) rfl rfl (wo_skip (v := (.b true)) rfl rfl (wo_step (v := (.b true)) (s_pure (p_pickT rfl rfl)) (wo_nil ?_)))))))
          cases z8
          exact ⟨_, _, rfl, rfl, gl rfl, gl g0, gl g1, gl g5⟩
        · refine wo_take (v := v0) rfl (s_pure (p_mv g0)) (wo_take (v := (.i .i64 x5)) rfl (s_pure (p_mv g5)) ?_)
          obtain ⟨v17, e17, z9⟩ := bindO_inv z8
          refine wo_take (v := v17) rfl (s_pure (o_ixS rfl rfl e17)) ?_
          obtain ⟨v18, e18, z10⟩ := bindO_inv z9
          obtain ⟨s18, rfl, z11⟩ := asS_inv z10
          refine wo_take (v := (.s s18)) rfl (s_ld rfl e18) ?_
          obtain ⟨v19, e19, z12⟩ := bindO_inv z11
          obtain ⟨x19, rfl, z13⟩ := asI_inv z12
          refine wo_take (v := (.i .i64 x19)) rfl (s_pure (o_len rfl e19)) ?_
          obtain ⟨c20, e20, z14⟩ := forceB_inv z13
          refine wo_take (v := (.b c20)) rfl (s_pure (p_bin rfl rfl (b_gtr.trans (cb e20)))) (wo_step (v := (.b c20)) (s_pure (p_pickF rfl rfl)) (wo_nil ?_))
          cases z14
          exact ⟨_, _, rfl, rfl, gl rfl, gl g0, gl g1, gl g5⟩
      · clear z7
        have hr := hk
        clear hk
        obtain ⟨c21, ho⟩ : ∃ z, z = o := ⟨_, rfl⟩
        subst ho
        rintro mm t_2 ⟨rfl, g21, g0, g1, g5⟩
        refine wo_nil (nx_norm ?_)
        rcases cond_inv hr with ⟨rfl, z15⟩ | ⟨rfl, z15⟩
        · refine w_condT g21 ?_
          refine w_seq (w_ops (wo_step (v := (.b false)) (s_pure (p_mv rfl)) (wo_nil (nx_norm ?_))))
          refine w_ret ?_
          refine bk_ret ?_
          refine nx_ret ?_
          cases z15
          exact ⟨_, _, rfl, ne_norm_ret, rfl, rfl, gl rfl⟩
        · refine w_condF g21 ?_
          refine w_skip ?_
          refine bk_norm ?_
          refine nx_norm (w_ops (wo_step (s_pure (p_mv g5)) ?_))
          obtain ⟨x11, e11, z16⟩ := forceI_inv z15
          refine wo_step (s_pure (p_bin rfl rfl (b_add.trans (ci e11)))) (wo_step (v := (.i .i64 x11)) (s_pure (p_mv rfl)) (wo_nil ?_))
          cases z16
          exact ⟨_, _, rfl, rfl, rfl, gl rfl, gl g0, gl g1⟩
    · refine w_condF rfl ?_
      refine w_exit ?_
      refine nx_exit ?_
      cases z5
      exact ⟨_, _, rfl, ne_norm_exit, rfl, rfl, gl g1⟩
  · rcases o_1 with o_1 | o_1
    · rintro _ mm_1 t_3 ⟨rfl, rfl, g1⟩
      refine bk_hit ?_
      refine nx_norm (w_seq (w_ops (wo_step (s_pure (p_mv g1)) ?_)))
      obtain ⟨v23, e23, z17⟩ := bindO_inv z1
      obtain ⟨x23, rfl, z18⟩ := asI_inv z17
      refine wo_step (s_pure (o_len rfl e23)) ?_
      obtain ⟨c24, e24, z19⟩ := forceB_inv z18
      refine wo_step (s_pure (p_bin rfl rfl (b_leq.trans (cb e24)))) (wo_step (v := (.b c24)) (s_pure (p_mv rfl)) (wo_nil (nx_norm ?_)))
      refine w_ret ?_
      exact qf ret_ok (rt rfl rn) z19
    · obtain ⟨c4, ho⟩ : ∃ z, z = o_1 := ⟨_, rfl⟩
      subst ho
      rintro _ mm_2 t_4 ⟨rfl, rfl, g4⟩
      refine bk_ret ?_
      refine nx_ret ?_
      exact qf ret_ok (rt g4 rn) z1
/- dibber/vine.Same -/
abbrev g30_I0 (s1 : List UInt8) (s3 : List UInt8) (v36 : AVal) (v39 : AVal) (x33 : Int) (s : Int × Mm) (m1 : Mm) (t1 : Tr) : Prop :=
  match s with
  | (x41, m_4) => m_4 = m1 ∧ t1.get 41 = (.i .i64 x41) ∧ t1.get 1 = (.s s1) ∧ t1.get 3 = (.s s3) ∧ t1.get 14 = v36 ∧ t1.get 15 = v39 ∧ t1.get 40 = (.i .i64 x33)
abbrev g30_J0 (s1 : List UInt8) (s3 : List UInt8) (v36 : AVal) (v39 : AVal) (x33 : Int) (o : (Mm ⊕ (Int × Int × Mm))) (e : AExit) (m1 : Mm) (t1 : Tr) : Prop :=
  match o with
  | (.inl mo) => e = (.exit 0) ∧ mo = m1
  | (.inr (y8, y9, mo)) => e = .ret ∧ mo = m1 ∧ t1.get 8 = (.i .i64 y8) ∧ t1.get 9 = (.i .i64 y9)
def g30_b0 (M : Means) (ro : List ABlk) (s1 : List UInt8) (s3 : List UInt8) (v36 : AVal) (v39 : AVal) (x33 : Int) (x41 : Int) (m_4 : Mm) : Option ((Int × Mm) ⊕ ((Mm ⊕ (Int × Int × Mm)))) :=
  forceB (ltI x41 x33) fun c42 =>
  cond c42 (
    bindO (some (Mm.base m_4)) fun m_5 =>
    bindO (evP .e (.ixS 1 (.c v36) (.c (.i .i64 x41)))) fun v46 =>
    bindO (ldM ro m_5 true 1 v46) fun v47 =>
    bindP (callM M.call m_5 49 [v47, (.s s1)]) fun v49 m_6 =>
    asI .u64 v49 fun x49 =>
    chk (!Nat.blt m_6.lw m_4.h.length) <|
    bindO (evP .e (.ixS 1 (.c v39) (.c (.i .i64 x41)))) fun v52 =>
    bindO (ldA ro m_4.h true 1 v52) fun v53 =>
    bindP (callM M.call m_6 49 [v53, (.s s3)]) fun v55 m_7 =>
    asI .u64 v55 fun x55 =>
    forceB (!eqI x49 x55) fun c56 =>
    bindO (some (Mm.join m_4 m_7)) fun m_8 =>
    cond c56 (
      some (.inr (.inr (x41, 0, m_8)))) (
      forceI (wr .i64 (x41 + 1)) fun x58 =>
      some (.inl (x58, m_8)))) (
    some (.inr (.inl m_4)))
def g30 (M : Means) (ro : List ABlk) (v0 : AVal) (s1 : List UInt8) (v2 : AVal) (s3 : List UInt8) (m0 : Mm) : Option (AVal × Heap × Nat × Nat) :=
  bindP (callM M.call m0 69 [v0, (.s s1), v2, (.s s3)]) fun v22 m_1 =>
  bindO (evP .e (.ext 0 (.c v22))) fun v23 =>
  bindO (evP .e (.ext 1 (.c v22))) fun v24 =>
  bindO (evP .e (.ext 2 (.c v22))) fun v25 =>
  asI .i64 v25 fun x25 =>
  forceB (!eqI x25 0) fun c27 =>
  cond c27 (
    finM m0.h.length (tupA [(.i .i64 0), (.i .i64 x25)]) m_1) (
    bindO (evP .e (.len false (.c v23))) fun v30 =>
    asI .i64 v30 fun x30 =>
    bindO (evP .e (.len false (.c v24))) fun v32 =>
    asI .i64 v32 fun x32 =>
    forceI (wr .i64 (x30 + x32)) fun x33 =>
    bindP (callM M.call m_1 48 [v23, (.i .i64 x33)]) fun v36 m_2 =>
    bindP (callM M.call m_2 48 [v24, (.i .i64 x33)]) fun v39 m_3 =>
    bindO (M.loop (S := Int × Mm) (R := (Mm ⊕ (Int × Int × Mm))) (fun s => g30_b0 M ro s1 s3 v36 v39 x33 s.1 s.2) (0, m_3)) fun o => match o with
    | (.inl m_9) =>
      finM m0.h.length (tupA [(.i .i64 0), (.i .i64 10)]) m_9
    | (.inr (x8, x9, m_10)) =>
      finM m0.h.length (tupA [(.i .i64 x8), (.i .i64 x9)]) m_10)
theorem g30_ok {ro : List ABlk} {O : Caller} {M : Means} (hM : M.Ok ⟨F, O⟩ ro) {v0 s1 v2 s3 h r} (ho : O 30 [v0, (.s s1), v2, (.s s3)] h = none) (hr : g30 M ro v0 s1 v2 s3 ⟨h, h.length, h.length⟩ = some r) : callX ⟨F, O⟩ ro 30 [v0, (.s s1), v2, (.s s3)] h = some r := by
  refine callX_of (F := ⟨F, O⟩) (fn := fn30) (g := g30 M ro v0 s1 v2 s3) ho rfl rfl hr ?_
  clear ho
  clear hr
  intro m0 t0 ht hr
  have g0 : t0.get 0 = v0 := ht 0
  have g1 : t0.get 1 = (.s s1) := ht 1
  have g2 : t0.get 2 = v2 := ht 2
  have g3 : t0.get 3 = (.s s3) := ht 3
  clear ht
  unfold g30 at hr
  refine w_seq (w_ops (wo_step (v := (.i .i64 0)) (s_pure (p_mv rfl)) (wo_step (v := (.i .i64 0)) (s_pure (p_mv rfl)) (wo_nil (nx_norm (w_seq (w_ops (wo_step (s_pure (p_mv g0)) (wo_step (s_pure (p_mv g1)) (wo_step (s_pure (p_mv g2)) (wo_step (s_pure (p_mv g3)) ?_)))))))))))
  obtain ⟨v22, m_1, e22, z1⟩ := bindP_inv hr
  refine wo_step (s_call (mc rfl (mc rfl (mc rfl (mc rfl mn)))) (callM_le hM.call e22)) (wo_step (v := v22) (s_pure (p_mv rfl)) ?_)
  obtain ⟨v23, e23, z2⟩ := bindO_inv z1
  refine wo_step (s_pure (o_ext rfl e23)) ?_
  obtain ⟨v24, e24, z3⟩ := bindO_inv z2
  refine wo_step (s_pure (o_ext rfl e24)) ?_
  obtain ⟨v25, e25, z4⟩ := bindO_inv z3
  obtain ⟨x25, rfl, z5⟩ := asI_inv z4
  refine wo_step (s_pure (o_ext rfl e25)) (wo_step (v := v23) (s_pure (p_mv rfl)) (wo_step (v := v24) (s_pure (p_mv rfl)) (wo_step (v := (.i .i64 x25)) (s_pure (p_mv rfl)) (wo_nil (nx_norm (w_seq (w_seq (w_ops (wo_step (v := (.i .i64 x25)) (s_pure (p_mv rfl)) ?_)))))))))
  obtain ⟨c27, e27, z6⟩ := forceB_inv z5
  refine wo_step (s_pure (p_bin rfl rfl (b_neq.trans (cb e27)))) (wo_nil (nx_norm ?_))
  rcases cond_inv z6 with ⟨rfl, z7⟩ | ⟨rfl, z7⟩
  · refine w_condT rfl ?_
    refine w_seq (w_ops (wo_step (v := (.i .i64 x25)) (s_pure (p_mv rfl)) (wo_step (v := (.i .i64 0)) (s_pure (p_mv rfl)) (wo_step (v := (.i .i64 x25)) (s_pure (p_mv rfl)) (wo_nil (nx_norm ?_))))))
    refine w_ret ?_
    refine nx_ret ?_
    exact qf ret_ok (rt rfl (rt rfl rn)) z7
  · refine w_condF rfl ?_
    refine w_skip (nx_norm (w_seq (w_ops (wo_step (v := v23) (s_pure (p_mv rfl)) ?_))))
    obtain ⟨v30, e30, z8⟩ := bindO_inv z7
    obtain ⟨x30, rfl, z9⟩ := asI_inv z8
    refine wo_step (s_pure (o_len rfl e30)) (wo_step (v := v24) (s_pure (p_mv rfl)) ?_)
    obtain ⟨v32, e32, z10⟩ := bindO_inv z9
    obtain ⟨x32, rfl, z11⟩ := asI_inv z10
    refine wo_step (s_pure (o_len rfl e32)) ?_
    obtain ⟨x33, e33, z12⟩ := forceI_inv z11
    refine wo_step (s_pure (p_bin rfl rfl (b_add.trans (ci e33)))) (wo_step (v := (.i .i64 x33)) (s_pure (p_mv rfl)) (wo_nil (nx_norm (w_seq (w_ops (wo_step (v := v23) (s_pure (p_mv rfl)) (wo_step (v := (.i .i64 x33)) (s_pure (p_mv rfl)) ?_)))))))
    obtain ⟨v36, m_2, e36, z13⟩ := bindP_inv z12
    refine wo_step (s_call (mc rfl (mc rfl mn)) (callM_le hM.call e36)) (wo_step (v := v24) (s_pure (p_mv rfl)) (wo_step (v := (.i .i64 x33)) (s_pure (p_mv rfl)) ?_))
    obtain ⟨v39, m_3, e39, z14⟩ := bindP_inv z13
    refine wo_step (s_call (mc rfl (mc rfl mn)) (callM_le hM.call e39)) (wo_step (v := v36) (s_pure (p_mv rfl)) (wo_step (v := v39) (s_pure (p_mv rfl)) (wo_nil (nx_norm (w_seq (w_seq (w_ops (wo_step (v := (.i .i64 x33)) (s_pure (p_mv rfl)) (wo_step (v := (.i .i64 0)) (s_pure (p_mv rfl)) (wo_nil (nx_norm ?_)))))))))))
    refine w_block ?_
    obtain ⟨o, hl, z15⟩ := bindO_inv z14
    obtain ⟨n, hl⟩ := hM.loop _ _ _ hl
    refine jp_mono (w_loop _ (g30_I0 s1 s3 v36 v39 x33) (g30_J0 s1 s3 v36 v39 x33) ?_ n _ _ _ _ hl ⟨rfl, gl rfl, gl g1, gl g3, gl rfl, gl rfl, gl rfl⟩) ?_
    · clear z15 hl
      intro s mm_2 t_1 o hi hr
      obtain ⟨x41, m_4⟩ := s
      obtain ⟨rfl, g41, g1, g3, g14, g15, g40⟩ := hi
      unfold g30_b0 at hr
      refine w_seq (w_ops ?_)
      obtain ⟨c42, e42, z16⟩ := forceB_inv hr
      refine wo_step (s_pure (p_bin g41 g40 (b_lss.trans (cb e42)))) (wo_nil (nx_norm (w_seq ?_)))
      rcases cond_inv z16 with ⟨rfl, z17⟩ | ⟨rfl, z17⟩
      · refine w_condT rfl ?_
        refine w_skip (nx_norm (w_seq ?_))
        refine w_block ?_
        refine w_seq (w_ops (wo_step (s_pure (p_mv g41)) (wo_step (v := (.i .i64 x41)) (s_pure (p_mv rfl)) (wo_nil (nx_norm (w_seq ?_))))))
        obtain ⟨m_5, ef, z18⟩ := bindO_inv z17
        refine w_flt (af := true) rfl ef ?_
        refine wf_step (v := v36) (f_P rfl (s_pure (p_mv g14))) ?_
        refine wf_step (v := (.i .i64 x41)) (f_P rfl (s_pure (p_mv rfl))) ?_
        obtain ⟨v46, e46, z19⟩ := bindO_inv z18
        refine wf_step (v := v46) (f_P rfl (s_pure (o_ixS rfl rfl e46))) ?_
        obtain ⟨v47, e47, z20⟩ := bindO_inv z19
        refine wf_step (v := v47) (f_P rfl (s_ld rfl e47)) ?_
        refine wf_step (v := (.s s1)) (f_P rfl (s_pure (p_mv g1))) ?_
        obtain ⟨v49, m_6, e49, z21⟩ := bindP_inv z20
        obtain ⟨x49, rfl, z22⟩ := asI_inv z21
        obtain ⟨hc49, z23⟩ := chk_inv z22
        refine wf_step (v := (.i .u64 x49)) (f_M hc49 (s_call (mc rfl (mc rfl mn)) (callM_le hM.call e49))) ?_
        refine wf_step (v := v39) (f_P rfl (s_pure (p_mv g15))) ?_
        refine wf_step (v := (.i .i64 x41)) (f_P rfl (s_pure (p_mv rfl))) ?_
        obtain ⟨v52, e52, z24⟩ := bindO_inv z23
        refine wf_step (v := v52) (f_P rfl (s_pure (o_ixS rfl rfl e52))) ?_
        obtain ⟨v53, e53, z25⟩ := bindO_inv z24
        refine wf_step (v := v53) (f_ld rfl e53) ?_
        refine wf_step (v := (.s s3)) (f_P rfl (s_pure (p_mv g3))) ?_
        obtain ⟨v55, m_7, e55, z26⟩ := bindP_inv z25
        obtain ⟨x55, rfl, z27⟩ := asI_inv z26
        refine wf_step (v := (.i .u64 x55)) (f_F rfl (s_call (mc rfl (mc rfl mn)) (callM_le hM.call e55))) ?_
        obtain ⟨c56, e56, z28⟩ := forceB_inv z27
        refine wf_step (v := (.b c56)) (f_P rfl (s_pure (p_bin rfl rfl (b_neq.trans (cb e56))))) ?_
        obtain ⟨m_8, ef_1, z29⟩ := bindO_inv z28
        refine wf_end ef_1 ?_
        refine nx_norm ?_
        rcases cond_inv z29 with ⟨rfl, z30⟩ | ⟨rfl, z30⟩
        · refine w_condT rfl ?_
          refine w_seq (w_ops (wo_step (v := (.i .i64 x41)) (s_pure (p_mv rfl)) (wo_step (v := (.i .i64 x41)) (s_pure (p_mv rfl)) (wo_step (v := (.i .i64 0)) (s_pure (p_mv rfl)) (wo_nil (nx_norm ?_))))))
          refine w_ret ?_
          refine bk_ret ?_
          refine nx_ret ?_
          cases z30
          exact ⟨_, _, rfl, ne_norm_ret, rfl, rfl, gl rfl, gl rfl⟩
        · refine w_condF rfl ?_
          refine w_skip ?_
          refine bk_norm ?_
          refine nx_norm (w_ops ?_)
          obtain ⟨x58, e58, z31⟩ := forceI_inv z30
          refine wo_step (s_pure (p_bin g41 rfl (b_add.trans (ci e58)))) (wo_step (v := (.i .i64 x58)) (s_pure (p_mv rfl)) (wo_nil ?_))
          cases z31
          exact ⟨_, _, rfl, rfl, rfl, gl rfl, gl g1, gl g3, gl g14, gl g15, gl g40⟩
      · refine w_condF rfl ?_
        refine w_exit ?_
        refine nx_exit ?_
        cases z17
        exact ⟨_, _, rfl, ne_norm_exit, rfl, rfl⟩
    · rcases o with o | o
      · obtain ⟨m_9, ho⟩ : ∃ z, z = o := ⟨_, rfl⟩
        subst ho
        rintro _ mm t_2 ⟨rfl, rfl⟩
        refine bk_hit ?_
        refine nx_norm (w_seq (w_ops (wo_step (v := (.i .i64 0)) (s_pure (p_mv rfl)) (wo_step (v := (.i .i64 10)) (s_pure (p_mv rfl)) (wo_nil (nx_norm ?_))))))
        refine w_ret ?_
        exact qf ret_ok (rt rfl (rt rfl rn)) z15
      · obtain ⟨x8, x9, m_10⟩ := o
        rintro _ mm_1 t_3 ⟨rfl, rfl, g8, g9⟩
        refine bk_ret ?_
        refine nx_ret ?_
        exact qf ret_ok (rt g8 (rt g9 rn)) z15
/- dibber/dibberref03.Same -/
abbrev g31_I0 (s1 : List UInt8) (s3 : List UInt8) (x27 : Int) (v30 : AVal) (v33 : AVal) (s : Int × Mm) (m1 : Mm) (t1 : Tr) : Prop :=
  match s with
  | (x14, m_4) => m_4 = m1 ∧ t1.get 14 = (.i .i64 x14) ∧ t1.get 1 = (.s s1) ∧ t1.get 3 = (.s s3) ∧ t1.get 11 = (.i .i64 x27) ∧ t1.get 12 = v30 ∧ t1.get 13 = v33
abbrev g31_J0 (s1 : List UInt8) (s3 : List UInt8) (x27 : Int) (v30 : AVal) (v33 : AVal) (o : (Mm ⊕ (Int × Int × Mm))) (e : AExit) (m1 : Mm) (t1 : Tr) : Prop :=
  match o with
  | (.inl mo) => e = (.exit 0) ∧ mo = m1
  | (.inr (y8, y9, mo)) => e = .ret ∧ mo = m1 ∧ t1.get 8 = (.i .i64 y8) ∧ t1.get 9 = (.i .i64 y9)
def g31_b0 (M : Means) (ro : List ABlk) (s1 : List UInt8) (s3 : List UInt8) (x27 : Int) (v30 : AVal) (v33 : AVal) (x14 : Int) (m_4 : Mm) : Option ((Int × Mm) ⊕ ((Mm ⊕ (Int × Int × Mm)))) :=
  forceB (ltI x14 x27) fun c36 =>
  cond c36 (
    bindO (some (Mm.base m_4)) fun m_5 =>
    bindO (evP .e (.ixS 1 (.c v30) (.c (.i .i64 x14)))) fun v42 =>
    bindO (ldM ro m_5 true 1 v42) fun v43 =>
    bindP (callM M.call m_5 52 [(.s s1), v43]) fun v44 m_6 =>
    asI .u64 v44 fun x44 =>
    chk (!Nat.blt m_6.lw m_4.h.length) <|
    bindO (evP .e (.ixS 1 (.c v33) (.c (.i .i64 x14)))) fun v48 =>
    bindO (ldA ro m_4.h true 1 v48) fun v49 =>
    bindP (callM M.call m_6 52 [(.s s3), v49]) fun v50 m_7 =>
    asI .u64 v50 fun x50 =>
    forceB (!eqI x44 x50) fun c51 =>
    bindO (some (Mm.join m_4 m_7)) fun m_8 =>
    cond c51 (
      some (.inr (.inr (x14, 0, m_8)))) (
      forceI (wr .i64 (x14 + 1)) fun x38 =>
      some (.inl (x38, m_8)))) (
    some (.inr (.inl m_4)))
def g31 (M : Means) (ro : List ABlk) (v0 : AVal) (s1 : List UInt8) (v2 : AVal) (s3 : List UInt8) (m0 : Mm) : Option (AVal × Heap × Nat × Nat) :=
  bindP (callM M.call m0 70 [v0, (.s s1), v2, (.s s3)]) fun v19 m_1 =>
  asI .i64 v19 fun x19 =>
  forceB (!eqI x19 0) fun c21 =>
  cond c21 (
    finM m0.h.length (tupA [(.i .i64 0), (.i .i64 x19)]) m_1) (
    bindO (evP .e (.len false (.c v0))) fun v24 =>
    asI .i64 v24 fun x24 =>
    bindO (evP .e (.len false (.c v2))) fun v26 =>
    asI .i64 v26 fun x26 =>
    forceI (wr .i64 (x24 + x26)) fun x27 =>
    bindP (callM M.call m_1 51 [v0, (.i .i64 x27)]) fun v30 m_2 =>
    bindP (callM M.call m_2 51 [v2, (.i .i64 x27)]) fun v33 m_3 =>
    bindO (M.loop (S := Int × Mm) (R := (Mm ⊕ (Int × Int × Mm))) (fun s => g31_b0 M ro s1 s3 x27 v30 v33 s.1 s.2) (0, m_3)) fun o => match o with
    | (.inl m_9) =>
      finM m0.h.length (tupA [(.i .i64 0), (.i .i64 10)]) m_9
    | (.inr (x8, x9, m_10)) =>
      finM m0.h.length (tupA [(.i .i64 x8), (.i .i64 x9)]) m_10)
theorem g31_ok {ro : List ABlk} {O : Caller} {M : Means} (hM : M.Ok ⟨F, O⟩ ro) {v0 s1 v2 s3 h r} (ho : O 31 [v0, (.s s1), v2, (.s s3)] h = none) (hr : g31 M ro v0 s1 v2 s3 ⟨h, h.length, h.length⟩ = some r) : callX ⟨F, O⟩ ro 31 [v0, (.s s1), v2, (.s s3)] h = some r := by
  refine callX_of (F := ⟨F, O⟩) (fn := fn31) (g := g31 M ro v0 s1 v2 s3) ho rfl rfl hr ?_
  clear ho
  clear hr
  intro m0 t0 ht hr
  have g0 : t0.get 0 = v0 := ht 0
  have g1 : t0.get 1 = (.s s1) := ht 1
  have g2 : t0.get 2 = v2 := ht 2
  have g3 : t0.get 3 = (.s s3) := ht 3
  clear ht
  unfold g31 at hr
  refine w_seq (w_ops (wo_step (v := (.i .i64 0)) (s_pure (p_mv rfl)) (wo_step (v := (.i .i64 0)) (s_pure (p_mv rfl)) (wo_nil (nx_norm (w_seq (w_ops (wo_step (s_pure (p_mv g0)) (wo_step (s_pure (p_mv g1)) (wo_step (s_pure (p_mv g2)) (wo_step (s_pure (p_mv g3)) ?_)))))))))))
  obtain ⟨v19, m_1, e19, z1⟩ := bindP_inv hr
  obtain ⟨x19, rfl, z2⟩ := asI_inv z1
  refine wo_step (s_call (mc rfl (mc rfl (mc rfl (mc rfl mn)))) (callM_le hM.call e19)) (wo_step (v := (.i .i64 x19)) (s_pure (p_mv rfl)) (wo_nil (nx_norm (w_seq (w_seq (w_ops (wo_step (v := (.i .i64 x19)) (s_pure (p_mv rfl)) ?_)))))))
  obtain ⟨c21, e21, z3⟩ := forceB_inv z2
  refine wo_step (s_pure (p_bin rfl rfl (b_neq.trans (cb e21)))) (wo_nil (nx_norm ?_))
  rcases cond_inv z3 with ⟨rfl, z4⟩ | ⟨rfl, z4⟩
  · refine w_condT rfl ?_
    refine w_seq (w_ops (wo_step (v := (.i .i64 x19)) (s_pure (p_mv rfl)) (wo_step (v := (.i .i64 0)) (s_pure (p_mv rfl)) (wo_step (v := (.i .i64 x19)) (s_pure (p_mv rfl)) (wo_nil (nx_norm ?_))))))
    refine w_ret ?_
    refine nx_ret ?_
    exact qf ret_ok (rt rfl (rt rfl rn)) z4
  · refine w_condF rfl ?_
    refine w_skip (nx_norm (w_seq (w_ops (wo_step (s_pure (p_mv g0)) ?_))))
    obtain ⟨v24, e24, z5⟩ := bindO_inv z4
    obtain ⟨x24, rfl, z6⟩ := asI_inv z5
    refine wo_step (s_pure (o_len rfl e24)) (wo_step (s_pure (p_mv g2)) ?_)
    obtain ⟨v26, e26, z7⟩ := bindO_inv z6
    obtain ⟨x26, rfl, z8⟩ := asI_inv z7
    refine wo_step (s_pure (o_len rfl e26)) ?_
    obtain ⟨x27, e27, z9⟩ := forceI_inv z8
    refine wo_step (s_pure (p_bin rfl rfl (b_add.trans (ci e27)))) (wo_step (v := (.i .i64 x27)) (s_pure (p_mv rfl)) (wo_nil (nx_norm (w_seq (w_ops (wo_step (s_pure (p_mv g0)) (wo_step (v := (.i .i64 x27)) (s_pure (p_mv rfl)) ?_)))))))
    obtain ⟨v30, m_2, e30, z10⟩ := bindP_inv z9
    refine wo_step (s_call (mc rfl (mc rfl mn)) (callM_le hM.call e30)) (wo_step (s_pure (p_mv g2)) (wo_step (v := (.i .i64 x27)) (s_pure (p_mv rfl)) ?_))
    obtain ⟨v33, m_3, e33, z11⟩ := bindP_inv z10
    refine wo_step (s_call (mc rfl (mc rfl mn)) (callM_le hM.call e33)) (wo_step (v := v30) (s_pure (p_mv rfl)) (wo_step (v := v33) (s_pure (p_mv rfl)) (wo_nil (nx_norm (w_seq (w_seq (w_ops (wo_step (v := (.i .i64 0)) (s_pure (p_mv rfl)) (wo_nil (nx_norm ?_))))))))))
    refine w_block ?_
    obtain ⟨o, hl, z12⟩ := bindO_inv z11
    obtain ⟨n, hl⟩ := hM.loop _ _ _ hl
    refine jp_mono (w_loop _ (g31_I0 s1 s3 x27 v30 v33) (g31_J0 s1 s3 x27 v30 v33) ?_ n _ _ _ _ hl ⟨rfl, gl rfl, gl g1, gl g3, gl rfl, gl rfl, gl rfl⟩) ?_
    · clear z12 hl
      intro s mm_2 t_1 o hi hr
      obtain ⟨x14, m_4⟩ := s
      obtain ⟨rfl, g14, g1, g3, g11, g12, g13⟩ := hi
      unfold g31_b0 at hr
      refine w_seq (w_seq (w_ops (wo_step (s_pure (p_mv g14)) (wo_step (s_pure (p_mv g11)) ?_))))
      obtain ⟨c36, e36, z13⟩ := forceB_inv hr
      refine wo_step (s_pure (p_bin rfl rfl (b_lss.trans (cb e36)))) (wo_nil (nx_norm ?_))
      rcases cond_inv z13 with ⟨rfl, z14⟩ | ⟨rfl, z14⟩
      · refine w_condT rfl ?_
        refine w_skip (nx_norm (w_seq ?_))
        refine w_block ?_
        refine w_seq ?_
        obtain ⟨m_5, ef, z15⟩ := bindO_inv z14
        refine w_flt (af := true) rfl ef ?_
        refine wf_step (v := (.s s1)) (f_P rfl (s_pure (p_mv g1))) ?_
        refine wf_step (v := v30) (f_P rfl (s_pure (p_mv g12))) ?_
        refine wf_step (v := (.i .i64 x14)) (f_P rfl (s_pure (p_mv g14))) ?_
        obtain ⟨v42, e42, z16⟩ := bindO_inv z15
        refine wf_step (v := v42) (f_P rfl (s_pure (o_ixS rfl rfl e42))) ?_
        obtain ⟨v43, e43, z17⟩ := bindO_inv z16
        refine wf_step (v := v43) (f_P rfl (s_ld rfl e43)) ?_
        obtain ⟨v44, m_6, e44, z18⟩ := bindP_inv z17
        obtain ⟨x44, rfl, z19⟩ := asI_inv z18
        obtain ⟨hc44, z20⟩ := chk_inv z19
        refine wf_step (v := (.i .u64 x44)) (f_M hc44 (s_call (mc rfl (mc rfl mn)) (callM_le hM.call e44))) ?_
        refine wf_step (v := (.s s3)) (f_P rfl (s_pure (p_mv g3))) ?_
        refine wf_step (v := v33) (f_P rfl (s_pure (p_mv g13))) ?_
        refine wf_step (v := (.i .i64 x14)) (f_P rfl (s_pure (p_mv g14))) ?_
        obtain ⟨v48, e48, z21⟩ := bindO_inv z20
        refine wf_step (v := v48) (f_P rfl (s_pure (o_ixS rfl rfl e48))) ?_
        obtain ⟨v49, e49, z22⟩ := bindO_inv z21
        refine wf_step (v := v49) (f_ld rfl e49) ?_
        obtain ⟨v50, m_7, e50, z23⟩ := bindP_inv z22
        obtain ⟨x50, rfl, z24⟩ := asI_inv z23
        refine wf_step (v := (.i .u64 x50)) (f_F rfl (s_call (mc rfl (mc rfl mn)) (callM_le hM.call e50))) ?_
        obtain ⟨c51, e51, z25⟩ := forceB_inv z24
        refine wf_step (v := (.b c51)) (f_P rfl (s_pure (p_bin rfl rfl (b_neq.trans (cb e51))))) ?_
        obtain ⟨m_8, ef_1, z26⟩ := bindO_inv z25
        refine wf_end ef_1 ?_
        refine nx_norm ?_
        rcases cond_inv z26 with ⟨rfl, z27⟩ | ⟨rfl, z27⟩
        · refine w_condT rfl ?_
          refine w_seq (w_ops (wo_step (s_pure (p_mv g14)) (wo_step (v := (.i .i64 x14)) (s_pure (p_mv rfl)) (wo_step (v := (.i .i64 0)) (s_pure (p_mv rfl)) (wo_nil (nx_norm ?_))))))
          refine w_ret ?_
          refine bk_ret ?_
          refine nx_ret ?_
          cases z27
          exact ⟨_, _, rfl, ne_norm_ret, rfl, rfl, gl rfl, gl rfl⟩
        · refine w_condF rfl ?_
          refine w_skip ?_
          refine bk_norm ?_
          refine nx_norm (w_ops (wo_step (s_pure (p_mv g14)) ?_))
          obtain ⟨x38, e38, z28⟩ := forceI_inv z27
          refine wo_step (s_pure (p_bin rfl rfl (b_add.trans (ci e38)))) (wo_step (v := (.i .i64 x38)) (s_pure (p_mv rfl)) (wo_nil ?_))
          cases z28
          exact ⟨_, _, rfl, rfl, rfl, gl rfl, gl g1, gl g3, gl g11, gl g12, gl g13⟩
      · refine w_condF rfl ?_
        refine w_exit ?_
        refine nx_exit ?_
        cases z14
        exact ⟨_, _, rfl, ne_norm_exit, rfl, rfl⟩
    · rcases o with o | o
      · obtain ⟨m_9, ho⟩ : ∃ z, z = o := ⟨_, rfl⟩
        subst ho
        rintro _ mm t_2 ⟨rfl, rfl⟩
        refine bk_hit ?_
        refine nx_norm (w_seq (w_ops (wo_step (v := (.i .i64 0)) (s_pure (p_mv rfl)) (wo_step (v := (.i .i64 10)) (s_pure (p_mv rfl)) (wo_nil (nx_norm ?_))))))
        refine w_ret ?_
        exact qf ret_ok (rt rfl (rt rfl rn)) z12
      · obtain ⟨x8, x9, m_10⟩ := o
        rintro _ mm_1 t_3 ⟨rfl, rfl, g8, g9⟩
        refine bk_ret ?_
        refine nx_ret ?_
        exact qf ret_ok (rt g8 (rt g9 rn)) z12
/- dibber/vine.Alike -/
abbrev g32_I0 (s1 : List UInt8) (s3 : List UInt8) (v23 : AVal) (v24 : AVal) (v30 : AVal) (v32 : AVal) (s : Int × Mm) (m1 : Mm) (t1 : Tr) : Prop :=
  match s with
  | (x33, m_4) => m_4 = m1 ∧ t1.get 33 = (.i .i64 x33) ∧ t1.get 1 = (.s s1) ∧ t1.get 3 = (.s s3) ∧ t1.get 10 = v23 ∧ t1.get 11 = v24 ∧ t1.get 13 = v30 ∧ t1.get 14 = v32
abbrev g32_J0 (s1 : List UInt8) (s3 : List UInt8) (v23 : AVal) (v24 : AVal) (v30 : AVal) (v32 : AVal) (o : (Mm ⊕ (Int × Int × Mm))) (e : AExit) (m1 : Mm) (t1 : Tr) : Prop :=
  match o with
  | (.inl mo) => e = (.exit 0) ∧ mo = m1
  | (.inr (y8, y9, mo)) => e = .ret ∧ mo = m1 ∧ t1.get 8 = (.i .i64 y8) ∧ t1.get 9 = (.i .i64 y9)
def g32_b0 (M : Means) (ro : List ABlk) (s1 : List UInt8) (s3 : List UInt8) (v23 : AVal) (v24 : AVal) (v30 : AVal) (v32 : AVal) (x33 : Int) (m_4 : Mm) : Option ((Int × Mm) ⊕ ((Mm ⊕ (Int × Int × Mm)))) :=
  forceB (ltI x33 12) fun c34 =>
  cond c34 (
    bindO (evP .e (.ixS 1 (.c v30) (.c (.i .i64 x33)))) fun v38 =>
    bindO (ldM ro m_4 true 1 v38) fun v39 =>
    bindP (callM M.call m_4 49 [v39, (.s s1)]) fun v41 m_5 =>
    asI .u64 v41 fun x41 =>
    bindO (evP .e (.ixS 1 (.c v32) (.c (.i .i64 x33)))) fun v45 =>
    bindO (ldM ro m_5 true 1 v45) fun v46 =>
    bindP (callM M.call m_5 49 [v46, (.s s3)]) fun v48 m_6 =>
    asI .u64 v48 fun x48 =>
    forceB (!eqI x41 x48) fun c49 =>
    cond c49 (
      some (.inr (.inr (x33, 0, m_6)))) (
      forceB (ltI 100000 x41) fun c52 =>
      cond c52 (
        some (.inr (.inr (0, 8, m_6)))) (
        forceI (wr .i64 (x33 + 1)) fun x57 =>
        bindO (evP .e (.slS 1 (.c v30) none (some (.c (.i .i64 x57))) none)) fun v58 =>
        forceI (wr .i64 (x33 + 1)) fun x64 =>
        bindO (evP .e (.slS 1 (.c v32) none (some (.c (.i .i64 x64))) none)) fun v65 =>
        bindP (callM M.call m_6 50 [v23, (.s s1), v58]) fun v59 m_7 =>
        asS v59 fun s59 =>
        bindP (callM M.call m_7 50 [v24, (.s s3), v65]) fun v66 m_8 =>
        asS v66 fun s66 =>
        bindO (evP .e (.sbin BinOp.neq (.c (.s s59)) (.c (.s s66)))) fun v67 =>
        asB v67 fun c67 =>
        cond c67 (
          some (.inr (.inr (x33, 0, m_8)))) (
          forceI (wr .i64 (x33 + 1)) fun x69 =>
          some (.inl (x69, m_8)))))) (
    some (.inr (.inl m_4)))
def g32 (M : Means) (ro : List ABlk) (v0 : AVal) (s1 : List UInt8) (v2 : AVal) (s3 : List UInt8) (m0 : Mm) : Option (AVal × Heap × Nat × Nat) :=
  bindP (callM M.call m0 69 [v0, (.s s1), v2, (.s s3)]) fun v22 m_1 =>
  bindO (evP .e (.ext 0 (.c v22))) fun v23 =>
  bindO (evP .e (.ext 1 (.c v22))) fun v24 =>
  bindO (evP .e (.ext 2 (.c v22))) fun v25 =>
  asI .i64 v25 fun x25 =>
  forceB (!eqI x25 0) fun c27 =>
  cond c27 (
    finM m0.h.length (tupA [(.i .i64 0), (.i .i64 x25)]) m_1) (
    bindP (callM M.call m_1 48 [v23, (.i .i64 12)]) fun v30 m_2 =>
    bindP (callM M.call m_2 48 [v24, (.i .i64 12)]) fun v32 m_3 =>
    bindO (M.loop (S := Int × Mm) (R := (Mm ⊕ (Int × Int × Mm))) (fun s => g32_b0 M ro s1 s3 v23 v24 v30 v32 s.1 s.2) (0, m_3)) fun o => match o with
    | (.inl m_9) =>
      finM m0.h.length (tupA [(.i .i64 0), (.i .i64 10)]) m_9
    | (.inr (x8, x9, m_10)) =>
      finM m0.h.length (tupA [(.i .i64 x8), (.i .i64 x9)]) m_10)
theorem g32_ok {ro : List ABlk} {O : Caller} {M : Means} (hM : M.Ok ⟨F, O⟩ ro) {v0 s1 v2 s3 h r} (ho : O 32 [v0, (.s s1), v2, (.s s3)] h = none) (hr : g32 M ro v0 s1 v2 s3 ⟨h, h.length, h.length⟩ = some r) : callX ⟨F, O⟩ ro 32 [v0, (.s s1), v2, (.s s3)] h = some r := by
  refine callX_of (F := ⟨F, O⟩) (fn := fn32) (g := g32 M ro v0 s1 v2 s3) ho rfl rfl hr ?_
  clear ho
  clear hr
  intro m0 t0 ht hr
  have g0 : t0.get 0 = v0 := ht 0
  have g1 : t0.get 1 = (.s s1) := ht 1
  have g2 : t0.get 2 = v2 := ht 2
  have g3 : t0.get 3 = (.s s3) := ht 3
  clear ht
  unfold g32 at hr
  refine w_seq (w_ops (wo_step (v := (.i .i64 0)) (s_pure (p_mv rfl)) (wo_step (v := (.i .i64 0)) (s_pure (p_mv rfl)) (wo_nil (nx_norm (w_seq (w_ops (wo_step (s_pure (p_mv g0)) (wo_step (s_pure (p_mv g1)) (wo_step (s_pure (p_mv g2)) (wo_step (s_pure (p_mv g3)) ?_)))))))))))
  obtain ⟨v22, m_1, e22, z1⟩ := bindP_inv hr
  refine wo_step (s_call (mc rfl (mc rfl (mc rfl (mc rfl mn)))) (callM_le hM.call e22)) (wo_step (v := v22) (s_pure (p_mv rfl)) ?_)
  obtain ⟨v23, e23, z2⟩ := bindO_inv z1
  refine wo_step (s_pure (o_ext rfl e23)) ?_
  obtain ⟨v24, e24, z3⟩ := bindO_inv z2
  refine wo_step (s_pure (o_ext rfl e24)) ?_
  obtain ⟨v25, e25, z4⟩ := bindO_inv z3
  obtain ⟨x25, rfl, z5⟩ := asI_inv z4
  refine wo_step (s_pure (o_ext rfl e25)) (wo_step (v := v23) (s_pure (p_mv rfl)) (wo_step (v := v24) (s_pure (p_mv rfl)) (wo_step (v := (.i .i64 x25)) (s_pure (p_mv rfl)) (wo_nil (nx_norm (w_seq (w_seq (w_ops (wo_step (v := (.i .i64 x25)) (s_pure (p_mv rfl)) ?_)))))))))
  obtain ⟨c27, e27, z6⟩ := forceB_inv z5
  refine wo_step (s_pure (p_bin rfl rfl (b_neq.trans (cb e27)))) (wo_nil (nx_norm ?_))
  rcases cond_inv z6 with ⟨rfl, z7⟩ | ⟨rfl, z7⟩
  · refine w_condT rfl ?_
    refine w_seq (w_ops (wo_step (v := (.i .i64 x25)) (s_pure (p_mv rfl)) (wo_step (v := (.i .i64 0)) (s_pure (p_mv rfl)) (wo_step (v := (.i .i64 x25)) (s_pure (p_mv rfl)) (wo_nil (nx_norm ?_))))))
    refine w_ret ?_
    refine nx_ret ?_
    exact qf ret_ok (rt rfl (rt rfl rn)) z7
  · refine w_condF rfl ?_
    refine w_skip (nx_norm (w_seq (w_ops (wo_step (v := v23) (s_pure (p_mv rfl)) ?_))))
    obtain ⟨v30, m_2, e30, z8⟩ := bindP_inv z7
    refine wo_step (s_call (mc rfl (mc rfl mn)) (callM_le hM.call e30)) (wo_step (v := v24) (s_pure (p_mv rfl)) ?_)
    obtain ⟨v32, m_3, e32, z9⟩ := bindP_inv z8
    refine wo_step (s_call (mc rfl (mc rfl mn)) (callM_le hM.call e32)) (wo_step (v := v30) (s_pure (p_mv rfl)) (wo_step (v := v32) (s_pure (p_mv rfl)) (wo_nil (nx_norm (w_seq (w_seq (w_ops (wo_step (v := (.i .i64 0)) (s_pure (p_mv rfl)) (wo_nil (nx_norm ?_))))))))))
    refine w_block ?_
    obtain ⟨o, hl, z10⟩ := bindO_inv z9
    obtain ⟨n, hl⟩ := hM.loop _ _ _ hl
    refine jp_mono (w_loop _ (g32_I0 s1 s3 v23 v24 v30 v32) (g32_J0 s1 s3 v23 v24 v30 v32) ?_ n _ _ _ _ hl ⟨rfl, gl rfl, gl g1, gl g3, gl rfl, gl rfl, gl rfl, gl rfl⟩) ?_
    · clear z10 hl
      intro s mm_2 t_1 o hi hr
      obtain ⟨x33, m_4⟩ := s
      obtain ⟨rfl, g33, g1, g3, g10, g11, g13, g14⟩ := hi
      unfold g32_b0 at hr
      refine w_seq (w_ops ?_)
      obtain ⟨c34, e34, z11⟩ := forceB_inv hr
      refine wo_step (s_pure (p_bin g33 rfl (b_lss.trans (cb e34)))) (wo_nil (nx_norm (w_seq ?_)))
      rcases cond_inv z11 with ⟨rfl, z12⟩ | ⟨rfl, z12⟩
      · refine w_condT rfl ?_
        refine w_skip (nx_norm (w_seq ?_))
        refine w_block ?_
        refine w_seq (w_ops (wo_step (s_pure (p_mv g33)) (wo_step (v := (.i .i64 x33)) (s_pure (p_mv rfl)) (wo_nil (nx_norm (w_seq (w_ops (wo_step (s_pure (p_mv g13)) (wo_step (v := (.i .i64 x33)) (s_pure (p_mv rfl)) ?_)))))))))
        obtain ⟨v38, e38, z13⟩ := bindO_inv z12
        refine wo_step (s_pure (o_ixS rfl rfl e38)) ?_
        obtain ⟨v39, e39, z14⟩ := bindO_inv z13
        refine wo_step (s_ld rfl e39) (wo_step (s_pure (p_mv g1)) ?_)
        obtain ⟨v41, m_5, e41, z15⟩ := bindP_inv z14
        obtain ⟨x41, rfl, z16⟩ := asI_inv z15
        refine wo_step (s_call (mc rfl (mc rfl mn)) (callM_le hM.call e41)) (wo_step (v := (.i .u64 x41)) (s_pure (p_mv rfl)) (wo_nil (nx_norm (w_seq (w_seq (w_ops (wo_step (v := (.i .u64 x41)) (s_pure (p_mv rfl)) (wo_step (s_pure (p_mv g14)) (wo_step (v := (.i .i64 x33)) (s_pure (p_mv rfl)) ?_)))))))))
        obtain ⟨v45, e45, z17⟩ := bindO_inv z16
        refine wo_step (s_pure (o_ixS rfl rfl e45)) ?_
        obtain ⟨v46, e46, z18⟩ := bindO_inv z17
        refine wo_step (s_ld rfl e46) (wo_step (s_pure (p_mv g3)) ?_)
        obtain ⟨v48, m_6, e48, z19⟩ := bindP_inv z18
        obtain ⟨x48, rfl, z20⟩ := asI_inv z19
        refine wo_step (s_call (mc rfl (mc rfl mn)) (callM_le hM.call e48)) ?_
        obtain ⟨c49, e49, z21⟩ := forceB_inv z20
        refine wo_step (s_pure (p_bin rfl rfl (b_neq.trans (cb e49)))) (wo_nil (nx_norm ?_))
        rcases cond_inv z21 with ⟨rfl, z22⟩ | ⟨rfl, z22⟩
        · refine w_condT rfl ?_
          refine w_seq (w_ops (wo_step (v := (.i .i64 x33)) (s_pure (p_mv rfl)) (wo_step (v := (.i .i64 x33)) (s_pure (p_mv rfl)) (wo_step (v := (.i .i64 0)) (s_pure (p_mv rfl)) (wo_nil (nx_norm ?_))))))
          refine w_ret ?_
          refine nx_ret ?_
          refine bk_ret ?_
          refine nx_ret ?_
          cases z22
          exact ⟨_, _, rfl, ne_norm_ret, rfl, rfl, gl rfl, gl rfl⟩
        · refine w_condF rfl ?_
          refine w_skip (nx_norm (w_seq (w_seq (w_ops (wo_step (v := (.i .u64 x41)) (s_pure (p_mv rfl)) ?_)))))
          obtain ⟨c52, e52, z23⟩ := forceB_inv z22
          refine wo_step (s_pure (p_bin rfl rfl (b_gtr.trans (cb e52)))) (wo_nil (nx_norm ?_))
          rcases cond_inv z23 with ⟨rfl, z24⟩ | ⟨rfl, z24⟩
          · refine w_condT rfl ?_
            refine w_seq (w_ops (wo_step (v := (.i .i64 0)) (s_pure (p_mv rfl)) (wo_step (v := (.i .i64 8)) (s_pure (p_mv rfl)) (wo_nil (nx_norm ?_)))))
            refine w_ret ?_
            refine nx_ret ?_
            refine bk_ret ?_
            refine nx_ret ?_
            cases z24
            exact ⟨_, _, rfl, ne_norm_ret, rfl, rfl, gl rfl, gl rfl⟩
          · refine w_condF rfl ?_
            refine w_skip (nx_norm (w_seq (w_ops (wo_step (s_pure (p_mv g10)) (wo_step (s_pure (p_mv g1)) (wo_step (s_pure (p_mv g13)) (wo_step (v := (.i .i64 x33)) (s_pure (p_mv rfl)) ?_)))))))
            obtain ⟨x57, e57, z25⟩ := forceI_inv z24
            refine wo_step (s_pure (p_bin rfl rfl (b_add.trans (ci e57)))) ?_
            obtain ⟨v58, e58, z26⟩ := bindO_inv z25
            refine wo_step (s_pure (o_slS rfl on (os rfl) on e58)) (wo_step (s_pure (p_mv g11)) (wo_step (s_pure (p_mv g3)) (wo_step (s_pure (p_mv g14)) (wo_step (v := (.i .i64 x33)) (s_pure (p_mv rfl)) ?_))))
            obtain ⟨x64, e64, z27⟩ := forceI_inv z26
            refine wo_step (s_pure (p_bin rfl rfl (b_add.trans (ci e64)))) ?_
            obtain ⟨v65, e65, z28⟩ := bindO_inv z27
            refine wo_step (s_pure (o_slS rfl on (os rfl) on e65)) ?_
            obtain ⟨v59, m_7, e59, z29⟩ := bindP_inv z28
            obtain ⟨s59, rfl, z30⟩ := asS_inv z29
            refine wo_step (s_call (mc rfl (mc rfl (mc rfl mn))) (callM_le hM.call e59)) ?_
            obtain ⟨v66, m_8, e66, z31⟩ := bindP_inv z30
            obtain ⟨s66, rfl, z32⟩ := asS_inv z31
            refine wo_step (s_call (mc rfl (mc rfl (mc rfl mn))) (callM_le hM.call e66)) ?_
            obtain ⟨v67, e67, z33⟩ := bindO_inv z32
            obtain ⟨c67, rfl, z34⟩ := asB_inv z33
            refine wo_step (s_pure (o_sbin rfl rfl e67)) (wo_nil (nx_norm ?_))
            rcases cond_inv z34 with ⟨rfl, z35⟩ | ⟨rfl, z35⟩
            · refine w_condT rfl ?_
              refine w_seq (w_ops (wo_step (v := (.i .i64 x33)) (s_pure (p_mv rfl)) (wo_step (v := (.i .i64 x33)) (s_pure (p_mv rfl)) (wo_step (v := (.i .i64 0)) (s_pure (p_mv rfl)) (wo_nil (nx_norm ?_))))))
              refine w_ret ?_
              refine bk_ret ?_
              refine nx_ret ?_
              cases z35
              exact ⟨_, _, rfl, ne_norm_ret, rfl, rfl, gl rfl, gl rfl⟩
            · refine w_condF rfl ?_
              refine w_skip ?_
              refine bk_norm ?_
              refine nx_norm (w_ops ?_)
              obtain ⟨x69, e69, z36⟩ := forceI_inv z35
              refine wo_step (s_pure (p_bin g33 rfl (b_add.trans (ci e69)))) (wo_step (v := (.i .i64 x69)) (s_pure (p_mv rfl)) (wo_nil ?_))
              cases z36
              exact ⟨_, _, rfl, rfl, rfl, gl rfl, gl g1, gl g3, gl g10, gl g11, gl g13, gl g14⟩
      · refine w_condF rfl ?_
        refine w_exit ?_
        refine nx_exit ?_
        cases z12
        exact ⟨_, _, rfl, ne_norm_exit, rfl, rfl⟩
    · rcases o with o | o
      · obtain ⟨m_9, ho⟩ : ∃ z, z = o := ⟨_, rfl⟩
        subst ho
        rintro _ mm t_2 ⟨rfl, rfl⟩
        refine bk_hit ?_
        refine nx_norm (w_seq (w_ops (wo_step (v := (.i .i64 0)) (s_pure (p_mv rfl)) (wo_step (v := (.i .i64 10)) (s_pure (p_mv rfl)) (wo_nil (nx_norm ?_))))))
        refine w_ret ?_
        exact qf ret_ok (rt rfl (rt rfl rn)) z10
      · obtain ⟨x8, x9, m_10⟩ := o
        rintro _ mm_1 t_3 ⟨rfl, rfl, g8, g9⟩
        refine bk_ret ?_
        refine nx_ret ?_
        exact qf ret_ok (rt g8 (rt g9 rn)) z10
/- dibber/dibberref03.Alike -/
abbrev g33_I0 (v0 : AVal) (s1 : List UInt8) (v2 : AVal) (s3 : List UInt8) (s : Int × Mm) (m1 : Mm) (t1 : Tr) : Prop :=
  match s with
  | (x11, m_2) => m_2 = m1 ∧ t1.get 11 = (.i .i64 x11) ∧ t1.get 0 = v0 ∧ t1.get 1 = (.s s1) ∧ t1.get 2 = v2 ∧ t1.get 3 = (.s s3)
abbrev g33_J0 (v0 : AVal) (s1 : List UInt8) (v2 : AVal) (s3 : List UInt8) (o : (Mm ⊕ (Int × Int × Mm))) (e : AExit) (m1 : Mm) (t1 : Tr) : Prop :=
  match o with
  | (.inl mo) => e = (.exit 0) ∧ mo = m1
  | (.inr (y8, y9, mo)) => e = .ret ∧ mo = m1 ∧ t1.get 8 = (.i .i64 y8) ∧ t1.get 9 = (.i .i64 y9)
def g33_b0 (M : Means) (ro : List ABlk) (v0 : AVal) (s1 : List UInt8) (v2 : AVal) (s3 : List UInt8) (x11 : Int) (m_2 : Mm) : Option ((Int × Mm) ⊕ ((Mm ⊕ (Int × Int × Mm)))) :=
  forceB (ltI x11 12) fun c24 =>
  cond c24 (
    bindP (callM M.call m_2 51 [v0, (.i .i64 x11)]) fun v29 m_3 =>
    bindP (callM M.call m_3 51 [v2, (.i .i64 x11)]) fun v32 m_4 =>
    bindO (evP .e (.ixS 1 (.c v29) (.c (.i .i64 x11)))) fun v36 =>
    bindO (ldM ro m_4 true 1 v36) fun v37 =>
    bindP (callM M.call m_4 52 [(.s s1), v37]) fun v38 m_5 =>
    asI .u64 v38 fun x38 =>
    bindO (evP .e (.ixS 1 (.c v32) (.c (.i .i64 x11)))) fun v43 =>
    bindO (ldM ro m_5 true 1 v43) fun v44 =>
    bindP (callM M.call m_5 52 [(.s s3), v44]) fun v45 m_6 =>
    asI .u64 v45 fun x45 =>
    forceB (!eqI x38 x45) fun c46 =>
    cond c46 (
      some (.inr (.inr (x11, 0, m_6)))) (
      forceB (ltI 100000 x38) fun c49 =>
      cond c49 (
        some (.inr (.inr (0, 8, m_6)))) (
        bindO (callNF M.call m_6.h m_6.h 53 [v0, v29, (.s s1), (.i .i64 x11), AVal.nsl]) fun ⟨v54, hh_1⟩ =>
        bindO (btsA ro hh_1 v54) fun v55 =>
        asS v55 fun s55 =>
        bindO (callNF M.call m_6.h hh_1 53 [v2, v32, (.s s3), (.i .i64 x11), AVal.nsl]) fun ⟨v60, hh_2⟩ =>
        bindO (btsA ro hh_2 v60) fun v61 =>
        asS v61 fun s61 =>
        bindO (evP .e (.sbin BinOp.neq (.c (.s s55)) (.c (.s s61)))) fun v62 =>
        asB v62 fun c62 =>
        bindO (writesM ro [] [] ⟨hh_2, m_6.lw, m_6.lp⟩) fun m_7 =>
        cond c62 (
          some (.inr (.inr (x11, 0, m_7)))) (
          forceI (wr .i64 (x11 + 1)) fun x26 =>
          some (.inl (x26, m_7)))))) (
    some (.inr (.inl m_2)))
def g33 (M : Means) (ro : List ABlk) (v0 : AVal) (s1 : List UInt8) (v2 : AVal) (s3 : List UInt8) (m0 : Mm) : Option (AVal × Heap × Nat × Nat) :=
  bindP (callM M.call m0 70 [v0, (.s s1), v2, (.s s3)]) fun v19 m_1 =>
  asI .i64 v19 fun x19 =>
  forceB (!eqI x19 0) fun c21 =>
  cond c21 (
    finM m0.h.length (tupA [(.i .i64 0), (.i .i64 x19)]) m_1) (
    bindO (M.loop (S := Int × Mm) (R := (Mm ⊕ (Int × Int × Mm))) (fun s => g33_b0 M ro v0 s1 v2 s3 s.1 s.2) (0, m_1)) fun o => match o with
    | (.inl m_8) =>
      finM m0.h.length (tupA [(.i .i64 0), (.i .i64 10)]) m_8
    | (.inr (x8, x9, m_9)) =>
      finM m0.h.length (tupA [(.i .i64 x8), (.i .i64 x9)]) m_9)
theorem g33_ok {ro : List ABlk} {O : Caller} {M : Means} (hM : M.Ok ⟨F, O⟩ ro) {v0 s1 v2 s3 h r} (ho : O 33 [v0, (.s s1), v2, (.s s3)] h = none) (hr : g33 M ro v0 s1 v2 s3 ⟨h, h.length, h.length⟩ = some r) : callX ⟨F, O⟩ ro 33 [v0, (.s s1), v2, (.s s3)] h = some r := by
  refine callX_of (F := ⟨F, O⟩) (fn := fn33) (g := g33 M ro v0 s1 v2 s3) ho rfl rfl hr ?_
  clear ho
  clear hr
  intro m0 t0 ht hr
  have g0 : t0.get 0 = v0 := ht 0
  have g1 : t0.get 1 = (.s s1) := ht 1
  have g2 : t0.get 2 = v2 := ht 2
  have g3 : t0.get 3 = (.s s3) := ht 3
  clear ht
  unfold g33 at hr
  refine w_seq (w_ops (wo_step (v := (.i .i64 0)) (s_pure (p_mv rfl)) (wo_step (v := (.i .i64 0)) (s_pure (p_mv rfl)) (wo_nil (nx_norm (w_seq (w_ops (wo_step (s_pure (p_mv g0)) (wo_step (s_pure (p_mv g1)) (wo_step (s_pure (p_mv g2)) (wo_step (s_pure (p_mv g3)) ?_)))))))))))
  obtain ⟨v19, m_1, e19, z1⟩ := bindP_inv hr
  obtain ⟨x19, rfl, z2⟩ := asI_inv z1
  refine wo_step (s_call (mc rfl (mc rfl (mc rfl (mc rfl mn)))) (callM_le hM.call e19)) (wo_step (v := (.i .i64 x19)) (s_pure (p_mv rfl)) (wo_nil (nx_norm (w_seq (w_seq (w_ops (wo_step (v := (.i .i64 x19)) (s_pure (p_mv rfl)) ?_)))))))
  obtain ⟨c21, e21, z3⟩ := forceB_inv z2
  refine wo_step (s_pure (p_bin rfl rfl (b_neq.trans (cb e21)))) (wo_nil (nx_norm ?_))
  rcases cond_inv z3 with ⟨rfl, z4⟩ | ⟨rfl, z4⟩
  · refine w_condT rfl ?_
    refine w_seq (w_ops (wo_step (v := (.i .i64 x19)) (s_pure (p_mv rfl)) (wo_step (v := (.i .i64 0)) (s_pure (p_mv rfl)) (wo_step (v := (.i .i64 x19)) (s_pure (p_mv rfl)) (wo_nil (nx_norm ?_))))))
    refine w_ret ?_
    refine nx_ret ?_
    exact qf ret_ok (rt rfl (rt rfl rn)) z4
  · refine w_condF rfl ?_
    refine w_skip (nx_norm (w_seq (w_seq (w_ops (wo_step (v := (.i .i64 0)) (s_pure (p_mv rfl)) (wo_nil (nx_norm ?_)))))))
    refine w_block ?_
    obtain ⟨o, hl, z5⟩ := bindO_inv z4
    obtain ⟨n, hl⟩ := hM.loop _ _ _ hl
    refine jp_mono (w_loop _ (g33_I0 v0 s1 v2 s3) (g33_J0 v0 s1 v2 s3) ?_ n _ _ _ _ hl ⟨rfl, gl rfl, gl g0, gl g1, gl g2, gl g3⟩) ?_
    · clear z5 hl
      intro s mm_2 t_1 o hi hr
      obtain ⟨x11, m_2⟩ := s
      obtain ⟨rfl, g11, g0, g1, g2, g3⟩ := hi
      unfold g33_b0 at hr
      refine w_seq (w_seq (w_ops (wo_step (s_pure (p_mv g11)) ?_)))
      obtain ⟨c24, e24, z6⟩ := forceB_inv hr
      refine wo_step (s_pure (p_bin rfl rfl (b_lss.trans (cb e24)))) (wo_nil (nx_norm ?_))
      rcases cond_inv z6 with ⟨rfl, z7⟩ | ⟨rfl, z7⟩
      · refine w_condT rfl ?_
        refine w_skip (nx_norm (w_seq ?_))
        refine w_block ?_
        refine w_seq (w_ops (wo_step (s_pure (p_mv g0)) (wo_step (s_pure (p_mv g11)) ?_)))
        obtain ⟨v29, m_3, e29, z8⟩ := bindP_inv z7
        refine wo_step (s_call (mc rfl (mc rfl mn)) (callM_le hM.call e29)) (wo_step (s_pure (p_mv g2)) (wo_step (s_pure (p_mv g11)) ?_))
        obtain ⟨v32, m_4, e32, z9⟩ := bindP_inv z8
        refine wo_step (s_call (mc rfl (mc rfl mn)) (callM_le hM.call e32)) (wo_step (v := v29) (s_pure (p_mv rfl)) (wo_step (v := v32) (s_pure (p_mv rfl)) (wo_nil (nx_norm (w_seq (w_ops (wo_step (s_pure (p_mv g1)) (wo_step (v := v29) (s_pure (p_mv rfl)) (wo_step (s_pure (p_mv g11)) ?_)))))))))
        obtain ⟨v36, e36, z10⟩ := bindO_inv z9
        refine wo_step (s_pure (o_ixS rfl rfl e36)) ?_
        obtain ⟨v37, e37, z11⟩ := bindO_inv z10
        refine wo_step (s_ld rfl e37) ?_
        obtain ⟨v38, m_5, e38, z12⟩ := bindP_inv z11
        obtain ⟨x38, rfl, z13⟩ := asI_inv z12
        refine wo_step (s_call (mc rfl (mc rfl mn)) (callM_le hM.call e38)) (wo_step (v := (.i .u64 x38)) (s_pure (p_mv rfl)) (wo_nil (nx_norm (w_seq (w_seq (w_ops (wo_step (v := (.i .u64 x38)) (s_pure (p_mv rfl)) (wo_step (s_pure (p_mv g3)) (wo_step (v := v32) (s_pure (p_mv rfl)) (wo_step (s_pure (p_mv g11)) ?_))))))))))
        obtain ⟨v43, e43, z14⟩ := bindO_inv z13
        refine wo_step (s_pure (o_ixS rfl rfl e43)) ?_
        obtain ⟨v44, e44, z15⟩ := bindO_inv z14
        refine wo_step (s_ld rfl e44) ?_
        obtain ⟨v45, m_6, e45, z16⟩ := bindP_inv z15
        obtain ⟨x45, rfl, z17⟩ := asI_inv z16
        refine wo_step (s_call (mc rfl (mc rfl mn)) (callM_le hM.call e45)) ?_
        obtain ⟨c46, e46, z18⟩ := forceB_inv z17
        refine wo_step (s_pure (p_bin rfl rfl (b_neq.trans (cb e46)))) (wo_nil (nx_norm ?_))
        rcases cond_inv z18 with ⟨rfl, z19⟩ | ⟨rfl, z19⟩
        · refine w_condT rfl ?_
          refine w_seq (w_ops (wo_step (s_pure (p_mv g11)) (wo_step (v := (.i .i64 x11)) (s_pure (p_mv rfl)) (wo_step (v := (.i .i64 0)) (s_pure (p_mv rfl)) (wo_nil (nx_norm ?_))))))
          refine w_ret ?_
          refine nx_ret ?_
          refine bk_ret ?_
          refine nx_ret ?_
          cases z19
          exact ⟨_, _, rfl, ne_norm_ret, rfl, rfl, gl rfl, gl rfl⟩
        · refine w_condF rfl ?_
          refine w_skip (nx_norm (w_seq (w_seq (w_ops (wo_step (v := (.i .u64 x38)) (s_pure (p_mv rfl)) ?_)))))
          obtain ⟨c49, e49, z20⟩ := forceB_inv z19
          refine wo_step (s_pure (p_bin rfl rfl (b_gtr.trans (cb e49)))) (wo_nil (nx_norm ?_))
          rcases cond_inv z20 with ⟨rfl, z21⟩ | ⟨rfl, z21⟩
          · refine w_condT rfl ?_
            refine w_seq (w_ops (wo_step (v := (.i .i64 0)) (s_pure (p_mv rfl)) (wo_step (v := (.i .i64 8)) (s_pure (p_mv rfl)) (wo_nil (nx_norm ?_)))))
            refine w_ret ?_
            refine nx_ret ?_
            refine bk_ret ?_
            refine nx_ret ?_
            cases z21
            exact ⟨_, _, rfl, ne_norm_ret, rfl, rfl, gl rfl, gl rfl⟩
          · refine w_condF rfl ?_
            refine w_skip (nx_norm (w_seq ?_))
            refine w_any ?_
            refine wa_step (v := v0) (a_pure (p_mv g0)) ?_
            refine wa_step (v := v29) (a_pure (p_mv rfl)) ?_
            refine wa_step (v := (.s s1)) (a_pure (p_mv g1)) ?_
            refine wa_step (v := (.i .i64 x11)) (a_pure (p_mv g11)) ?_
            obtain ⟨⟨v54, hh_1⟩, e54, z22⟩ := bindO_inv z21
            refine wa_step (v := v54) (a_call (mc rfl (mc rfl (mc rfl (mc rfl (mc rfl mn))))) (callNF_le hM.call e54)) ?_
            obtain ⟨v55, e55, z23⟩ := bindO_inv z22
            obtain ⟨s55, rfl, z24⟩ := asS_inv z23
            refine wa_step (v := (.s s55)) (a_bts rfl e55) ?_
            refine wa_step (v := v2) (a_pure (p_mv g2)) ?_
            refine wa_step (v := v32) (a_pure (p_mv rfl)) ?_
            refine wa_step (v := (.s s3)) (a_pure (p_mv g3)) ?_
            refine wa_step (v := (.i .i64 x11)) (a_pure (p_mv g11)) ?_
            obtain ⟨⟨v60, hh_2⟩, e60, z25⟩ := bindO_inv z24
            refine wa_step (v := v60) (a_call (mc rfl (mc rfl (mc rfl (mc rfl (mc rfl mn))))) (callNF_le hM.call e60)) ?_
            obtain ⟨v61, e61, z26⟩ := bindO_inv z25
            obtain ⟨s61, rfl, z27⟩ := asS_inv z26
            refine wa_step (v := (.s s61)) (a_bts rfl e61) ?_
            obtain ⟨v62, e62, z28⟩ := bindO_inv z27
            obtain ⟨c62, rfl, z29⟩ := asB_inv z28
            refine wa_step (v := (.b c62)) (a_pure (o_sbin rfl rfl e62)) ?_
            obtain ⟨m_7, ew, z30⟩ := bindO_inv z29
            refine wa_nil ?_
            refine ⟨m_7, wM2_nil ew, ?_⟩
            refine nx_norm ?_
            rcases cond_inv z30 with ⟨rfl, z31⟩ | ⟨rfl, z31⟩
            · refine w_condT rfl ?_
              refine w_seq (w_ops (wo_step (s_pure (p_mv g11)) (wo_step (v := (.i .i64 x11)) (s_pure (p_mv rfl)) (wo_step (v := (.i .i64 0)) (s_pure (p_mv rfl)) (wo_nil (nx_norm ?_))))))
              refine w_ret ?_
              refine bk_ret ?_
              refine nx_ret ?_
              cases z31
              exact ⟨_, _, rfl, ne_norm_ret, rfl, rfl, gl rfl, gl rfl⟩
            · refine w_condF rfl ?_
              refine w_skip ?_
              refine bk_norm ?_
              refine nx_norm (w_ops (wo_step (s_pure (p_mv g11)) ?_))
              obtain ⟨x26, e26, z32⟩ := forceI_inv z31
              refine wo_step (s_pure (p_bin rfl rfl (b_add.trans (ci e26)))) (wo_step (v := (.i .i64 x26)) (s_pure (p_mv rfl)) (wo_nil ?_))
              cases z32
              exact ⟨_, _, rfl, rfl, rfl, gl rfl, gl g0, gl g1, gl g2, gl g3⟩
      · refine w_condF rfl ?_
        refine w_exit ?_
        refine nx_exit ?_
        cases z7
        exact ⟨_, _, rfl, ne_norm_exit, rfl, rfl⟩
    · rcases o with o | o
      · obtain ⟨m_8, ho⟩ : ∃ z, z = o := ⟨_, rfl⟩
        subst ho
        rintro _ mm t_2 ⟨rfl, rfl⟩
        refine bk_hit ?_
        refine nx_norm (w_seq (w_ops (wo_step (v := (.i .i64 0)) (s_pure (p_mv rfl)) (wo_step (v := (.i .i64 10)) (s_pure (p_mv rfl)) (wo_nil (nx_norm ?_))))))
        refine w_ret ?_
        exact qf ret_ok (rt rfl (rt rfl rn)) z5
      · obtain ⟨x8, x9, m_9⟩ := o
        rintro _ mm_1 t_3 ⟨rfl, rfl, g8, g9⟩
        refine bk_ret ?_
        refine nx_ret ?_
        exact qf ret_ok (rt g8 (rt g9 rn)) z5
/- dibber/vine.Factors -/
abbrev g38_J0 (x2 : Int) (v20 : AVal) (x21 : Int) (m_1 : Mm) (o : Bool) (m1 : Mm) (t1 : Tr) : Prop :=
  match o with
  | c31 => m_1 = m1 ∧ t1.get 31 = (.b c31) ∧ t1.get 2 = (.i .i64 x2) ∧ t1.get 8 = v20 ∧ t1.get 9 = (.i .i64 x21)
abbrev k38a0 : ACode := (.ops [(.mk (some 13) none (.pure (.mv (.t 36))))])
abbrev k38c0 : ACode := (.block 1 (.ops [(.mk (some 37) none (.ld true 1 (.t 11))), (.mk (some 38) none (.pure (.mv (.t 13)))), (.mk (some 39) none (.bsl 5 1 [(.i .u8 0)] 1 [((0, 1), (.t 38))])), (.mk (some 40) none (.app 5 1 1 [(.i .u8 0)] (.t 37) (.t 39))), (.mk none none (.st 1 (.t 11) (.t 40)))]))
abbrev g38_P0 (v11 : AVal) (t1 : Tr) : Prop := True ∧ t1.get 11 = v11
def g38_r0 (M : Means) (ro : List ABlk) (v11 : AVal) (b : Nat) (v35 : AVal) (v36 : AVal) (m0 : Mm) : Option (AVal × Heap × Nat × Nat) :=
  bindO (rndB b m0) fun m_4 =>
  bindO (ldM ro m_4 true 1 v11) fun v37 =>
  bindP (stepM ro m_4 (.bsl 5 1 [(AVal.i IntKind.u8 0)] 1 [((0, 1), .c v36)])) fun v39 m_5 =>
  bindP (stepM ro m_5 (.app 5 1 1 [(AVal.i IntKind.u8 0)] (.c v37) (.c v39))) fun v40 m_6 =>
  bindP (stepM ro m_6 (.st 1 (.c v11) (.c v40))) fun vn m_7 =>
  rndE m0.h.length b .norm m_7
abbrev g38_I1 (x2 : Int) (v11 : AVal) (v41 : AVal) (s : Int × Mm) (m1 : Mm) (t1 : Tr) : Prop :=
  match s with
  | (x15, m_10) => m_10 = m1 ∧ t1.get 15 = (.i .i64 x15) ∧ t1.get 2 = (.i .i64 x2) ∧ t1.get 11 = v11 ∧ t1.get 14 = v41
abbrev g38_J1 (x2 : Int) (v11 : AVal) (v41 : AVal) (o : Mm) (e : AExit) (m1 : Mm) (t1 : Tr) : Prop :=
  match o with
  | mo => e = (.exit 2) ∧ mo = m1 ∧ t1.get 14 = v41
def g38_b1 (M : Means) (ro : List ABlk) (x2 : Int) (v11 : AVal) (v41 : AVal) (x15 : Int) (m_10 : Mm) : Option ((Int × Mm) ⊕ (Mm)) :=
  bindO (ldM ro m_10 true 1 v11) fun v44 =>
  bindO (evP .e (.len false (.c v44))) fun v45 =>
  asI .i64 v45 fun x45 =>
  forceB (!ltI x45 x15) fun c46 =>
  cond c46 (
    bindO (ldM ro m_10 true 1 v11) fun v50 =>
    forceI (wr .i64 (x15 - x2)) fun x53 =>
    bindO (evP .e (.slS 1 (.c v50) (some (.c (.i .i64 x53))) (some (.c (.i .i64 x15))) none)) fun v55 =>
    bindO (btsM ro m_10 v55) fun v56 =>
    asS v56 fun s56 =>
    bindP (stepM ro m_10 (.mup (.c v41) (.c (.s s56)) (.c (.b true)))) fun vn_1 m_11 =>
    forceI (wr .i64 (x15 + 1)) fun x48 =>
    some (.inl (x48, m_11))) (
    some (.inr m_10))
noncomputable def g38 (M : Means) (ro : List ABlk) (v0 : AVal) (s1 : List UInt8) (x2 : Int) (m0 : Mm) : Option (AVal × Heap × Nat × Nat) :=
  bindP (callM M.call m0 74 [v0, (.s s1)]) fun v19 m_1 =>
  bindO (evP .e (.ext 0 (.c v19))) fun v20 =>
  bindO (evP .e (.ext 1 (.c v19))) fun v21 =>
  asI .i64 v21 fun x21 =>
  bindO (evP .e (.ext 2 (.c v19))) fun v22 =>
  asI .i64 v22 fun x22 =>
  forceB (!eqI x22 0) fun c24 =>
  cond c24 (
    finM m0.h.length (tupA [(.i .i64 0), (.i .i64 x22)]) m_1) (
    forceB (ltI x2 1) fun c27 =>
    bindO (cond c27 (
      some true) (
      forceB (ltI 10 x2) fun c30 =>
      some c30)) fun c31 =>
    cond c31 (
      finM m0.h.length (tupA [(.i .i64 0), (.i .i64 2)]) m_1) (
      bindP (stepM ro m_1 (.al 52 [AVal.nsl])) fun v11 m_2 =>
      bindP (callM M.call m_2 75 [v20, (.i .i64 x21)]) fun v34 m_3 =>
      rngK M.call (g38_P0 v11) [35, 36] k38a0 k38c0 v34 m_3 fun ⟨ex, m_8⟩ => onE ex (
        bindP (stepM ro m_8 .mkm) fun v41 m_9 =>
        bindO (M.loop (S := Int × Mm) (R := Mm) (fun s => g38_b1 M ro x2 v11 v41 s.1 s.2) (x2, m_9)) fun m_12 =>
        bindP (stepM ro m_12 (.mln (.c v41))) fun v58 m_13 =>
        asI .i64 v58 fun x58 =>
        finM m0.h.length (tupA [(.i .i64 x58), (.i .i64 0)]) m_13) (
        none) (fun ix =>
        none)))
theorem g38_r0_ok {ro : List ABlk} {O : Caller} {M : Means} (hM : M.Ok ⟨F, O⟩ ro) {v11} {v35} {v36} {b h r bk t p} (hb : lget h b = some (some bk)) (hg : bk.g = some (.lp ⟨t, [35, 36], k38a0, k38c0⟩ .ready p)) (hP : g38_P0 v11 t) (hr : g38_r0 M ro v11 b v35 v36 ⟨h, h.length, h.length⟩ = some r) : roundX ⟨F, O⟩ ro b [v35, v36] h = some r := by
  refine roundX_on (F := ⟨F, O⟩) (g := g38_r0 M ro v11 b v35 v36) hb hg rfl hr ?_
  clear hb hg hr
  intro m0 t0 ht hr
  obtain ⟨-, g11⟩ := hP
  have g35 : t0.get 35 = v35 := by rw [ht]; simp [putPs, get_set]
  have g36 : t0.get 36 = v36 := by rw [ht]; simp [putPs, get_set]
  have g11 : t0.get 11 = v11 := by rw [ht]; simp only [putPs, get_set]; simpa using g11
  clear ht
  unfold g38_r0 at hr
  show W _ _ k38a0 _ _
  unfold k38a0
  refine w_ops (wo_step (s_pure (p_mv g36)) (wo_nil ?_))
  obtain ⟨m_4, eb, z1⟩ := bindO_inv hr
  refine qb eb ?_
  unfold k38c0
  refine w_block ?_
  refine w_ops ?_
  obtain ⟨v37, e37, z2⟩ := bindO_inv z1
  refine wo_step (s_ld g11 e37) (wo_step (v := v36) (s_pure (p_mv rfl)) ?_)
  obtain ⟨v39, m_5, e39, z3⟩ := bindP_inv z2
  refine wo_step (s_bsl (qc rfl qn) e39) ?_
  obtain ⟨v40, m_6, e40, z4⟩ := bindP_inv z3
  refine wo_step (s_app rfl rfl e40) ?_
  obtain ⟨vn, m_7, en, z5⟩ := bindP_inv z4
  refine wo_stepN (s_st g11 rfl en) ?_
  refine wo_nil ?_
  refine bk_norm ?_
  exact z5

theorem g38_ok {ro : List ABlk} {O : Caller} {M : Means} (hM : M.Ok ⟨F, O⟩ ro) {v0 s1 x2 h r} (ho : O 38 [v0, (.s s1), (.i .i64 x2)] h = none) (hr : g38 M ro v0 s1 x2 ⟨h, h.length, h.length⟩ = some r) : callX ⟨F, O⟩ ro 38 [v0, (.s s1), (.i .i64 x2)] h = some r := by
  refine callX_of (F := ⟨F, O⟩) (fn := fn38) (g := g38 M ro v0 s1 x2) ho rfl rfl hr ?_
  clear ho
  clear hr
  intro m0 t0 ht hr
  have g0 : t0.get 0 = v0 := ht 0
  have g1 : t0.get 1 = (.s s1) := ht 1
  have g2 : t0.get 2 = (.i .i64 x2) := ht 2
  clear ht
  unfold g38 at hr
  refine w_seq (w_ops (wo_step (v := (.i .i64 0)) (s_pure (p_mv rfl)) (wo_step (v := (.i .i64 0)) (s_pure (p_mv rfl)) (wo_nil (nx_norm (w_seq (w_ops (wo_step (s_pure (p_mv g0)) (wo_step (s_pure (p_mv g1)) ?_)))))))))
  obtain ⟨v19, m_1, e19, z1⟩ := bindP_inv hr
  refine wo_step (s_call (mc rfl (mc rfl mn)) (callM_le hM.call e19)) (wo_step (v := v19) (s_pure (p_mv rfl)) ?_)
  obtain ⟨v20, e20, z2⟩ := bindO_inv z1
  refine wo_step (s_pure (o_ext rfl e20)) ?_
  obtain ⟨v21, e21, z3⟩ := bindO_inv z2
  obtain ⟨x21, rfl, z4⟩ := asI_inv z3
  refine wo_step (s_pure (o_ext rfl e21)) ?_
  obtain ⟨v22, e22, z5⟩ := bindO_inv z4
  obtain ⟨x22, rfl, z6⟩ := asI_inv z5
  refine wo_step (s_pure (o_ext rfl e22)) (wo_step (v := v20) (s_pure (p_mv rfl)) (wo_step (v := (.i .i64 x21)) (s_pure (p_mv rfl)) (wo_step (v := (.i .i64 x22)) (s_pure (p_mv rfl)) (wo_nil (nx_norm (w_seq (w_seq (w_ops (wo_step (v := (.i .i64 x22)) (s_pure (p_mv rfl)) ?_)))))))))
  obtain ⟨c24, e24, z7⟩ := forceB_inv z6
  refine wo_step (s_pure (p_bin rfl rfl (b_neq.trans (cb e24)))) (wo_nil (nx_norm ?_))
  rcases cond_inv z7 with ⟨rfl, z8⟩ | ⟨rfl, z8⟩
  · refine w_condT rfl ?_
    refine w_seq (w_ops (wo_step (v := (.i .i64 x22)) (s_pure (p_mv rfl)) (wo_step (v := (.i .i64 0)) (s_pure (p_mv rfl)) (wo_step (v := (.i .i64 x22)) (s_pure (p_mv rfl)) (wo_nil (nx_norm ?_))))))
    refine w_ret ?_
    refine nx_ret ?_
    exact qf ret_ok (rt rfl (rt rfl rn)) z8
  · refine w_condF rfl ?_
    refine w_skip (nx_norm (w_seq (w_seq (w_ops (wo_step (s_pure (p_mv g2)) ?_)))))
    obtain ⟨c27, e27, z9⟩ := forceB_inv z8
    refine wo_step (s_pure (p_bin rfl rfl (b_lss.trans (cb e27)))) (wo_step (v := (.b c27)) (s_pure (p_mv rfl)) ?_)
    obtain ⟨o, z10, hk⟩ := bindO_inv z9
    refine wo_join 3 (g38_J0 x2 v20 x21 m_1 o) ?_ ?_
    · clear hk
      rcases cond_inv z10 with ⟨rfl, z11⟩ | ⟨rfl, z11⟩
      · refine wo_skip (v := (.b true)) rfl rfl (wo_skip (v := (.b true)) rfl rfl (wo_step (v := (.b true)) (s_pure (p_pickT rfl rfl)) (wo_nil ?_)))
        cases z11
        exact ⟨_, _, rfl, rfl, gl rfl, gl g2, gl rfl, gl rfl⟩
      · refine wo_take (v := (.i .i64 x2)) rfl (s_pure (p_mv g2)) ?_
        obtain ⟨c30, e30, z12⟩ := forceB_inv z11
        refine wo_take (v := (.b c30)) rfl (s_pure (p_bin rfl rfl (b_gtr.trans (cb e30)))) (wo_step (v := (.b c30)) (s_pure (p_pickF rfl rfl)) (wo_nil ?_))
        cases z12
        exact ⟨_, _, rfl, rfl, gl rfl, gl g2, gl rfl, gl rfl⟩
    · clear z10
      have hr := hk
      clear hk
      obtain ⟨c31, ho⟩ : ∃ z, z = o := ⟨_, rfl⟩
      subst ho
      rintro mm t_1 ⟨rfl, g31, g2, g8, g9⟩
      refine wo_nil (nx_norm ?_)
      rcases cond_inv hr with ⟨rfl, z13⟩ | ⟨rfl, z13⟩
      · refine w_condT g31 ?_
        refine w_seq (w_ops (wo_step (v := (.i .i64 0)) (s_pure (p_mv rfl)) (wo_step (v := (.i .i64 2)) (s_pure (p_mv rfl)) (wo_nil (nx_norm ?_)))))
        refine w_ret ?_
        refine nx_ret ?_
        exact qf ret_ok (rt rfl (rt rfl rn)) z13
      · refine w_condF g31 ?_
        refine w_skip (nx_norm (w_seq (w_ops ?_)))
        obtain ⟨v11, m_2, e11, z14⟩ := bindP_inv z13
        refine wo_step (s_al e11) (wo_nil (nx_norm (w_seq (w_seq (w_ops (wo_step (s_pure (p_mv g8)) (wo_step (s_pure (p_mv g9)) ?_)))))))
        obtain ⟨v34, m_3, e34, z15⟩ := bindP_inv z14
        refine wo_step (s_call (mc rfl (mc rfl mn)) (callM_le hM.call e34)) (wo_nil (nx_norm ?_))
        refine w_block ?_
        refine w_rngK hM.call rfl z15 ⟨trivial, gl rfl⟩ ?_
        clear z15
        intro ex m_8 hr
        rcases onE_inv hr with ⟨rfl, z16⟩ | ⟨rfl, z16⟩ | ⟨ix, rfl, z16⟩
        · refine bk_norm ?_
          refine nx_norm (w_seq (w_ops ?_))
          obtain ⟨v41, m_9, e41, z17⟩ := bindP_inv z16
          refine wo_step (s_mkm e41) (wo_step (v := v41) (s_pure (p_mv rfl)) (wo_nil (nx_norm (w_seq (w_seq (w_ops (wo_step (s_pure (p_mv g2)) (wo_step (v := (.i .i64 x2)) (s_pure (p_mv rfl)) (wo_nil (nx_norm ?_))))))))))
          refine w_block ?_
          obtain ⟨o_1, hl, z18⟩ := bindO_inv z17
          obtain ⟨n, hl⟩ := hM.loop _ _ _ hl
          refine jp_mono (w_loop _ (g38_I1 x2 v11 v41) (g38_J1 x2 v11 v41) ?_ n _ _ _ _ hl ⟨rfl, gl rfl, gl g2, gl rfl, gl rfl⟩) ?_
          · clear z18 hl
            intro s mm_2 t_2 o hi hr
            obtain ⟨x15, m_10⟩ := s
            obtain ⟨rfl, g15, g2, g11, g14⟩ := hi
            unfold g38_b1 at hr
            refine w_seq (w_seq (w_ops (wo_step (s_pure (p_mv g15)) ?_)))
            obtain ⟨v44, e44, z19⟩ := bindO_inv hr
            refine wo_step (s_ld g11 e44) ?_
            obtain ⟨v45, e45, z20⟩ := bindO_inv z19
            obtain ⟨x45, rfl, z21⟩ := asI_inv z20
            refine wo_step (s_pure (o_len rfl e45)) ?_
            obtain ⟨c46, e46, z22⟩ := forceB_inv z21
            refine wo_step (s_pure (p_bin rfl rfl (b_leq.trans (cb e46)))) (wo_nil (nx_norm ?_))
            rcases cond_inv z22 with ⟨rfl, z23⟩ | ⟨rfl, z23⟩
            · refine w_condT rfl ?_
              refine w_skip (nx_norm (w_seq ?_))
              refine w_block ?_
              refine w_ops (wo_step (s_pure (p_mv g14)) ?_)
              obtain ⟨v50, e50, z24⟩ := bindO_inv z23
              refine wo_step (s_ld g11 e50) (wo_step (s_pure (p_mv g15)) (wo_step (s_pure (p_mv g2)) ?_))
              obtain ⟨x53, e53, z25⟩ := forceI_inv z24
              refine wo_step (s_pure (p_bin rfl rfl (b_sub.trans (ci e53)))) (wo_step (s_pure (p_mv g15)) ?_)
              obtain ⟨v55, e55, z26⟩ := bindO_inv z25
              refine wo_step (s_pure (o_slS rfl (os rfl) (os rfl) on e55)) ?_
              obtain ⟨v56, e56, z27⟩ := bindO_inv z26
              obtain ⟨s56, rfl, z28⟩ := asS_inv z27
              refine wo_step (s_bts rfl e56) ?_
              obtain ⟨vn_1, m_11, en_1, z29⟩ := bindP_inv z28
              refine wo_stepN (s_mup rfl rfl rfl en_1) ?_
              refine wo_nil ?_
              refine bk_norm ?_
              refine nx_norm (w_ops (wo_step (s_pure (p_mv g15)) ?_))
              obtain ⟨x48, e48, z30⟩ := forceI_inv z29
              refine wo_step (s_pure (p_bin rfl rfl (b_add.trans (ci e48)))) (wo_step (v := (.i .i64 x48)) (s_pure (p_mv rfl)) (wo_nil ?_))
              cases z30
              exact ⟨_, _, rfl, rfl, rfl, gl rfl, gl g2, gl g11, gl g14⟩
            · refine w_condF rfl ?_
              refine w_exit ?_
              refine nx_exit ?_
              cases z23
              exact ⟨_, _, rfl, ne_norm_exit, rfl, rfl, gl g14⟩
          · obtain ⟨m_12, ho⟩ : ∃ z, z = o_1 := ⟨_, rfl⟩
            subst ho
            rintro _ mm_1 t_3 ⟨rfl, rfl, g14⟩
            refine bk_hit ?_
            refine nx_norm (w_seq (w_ops (wo_step (s_pure (p_mv g14)) ?_)))
            obtain ⟨v58, m_13, e58, z31⟩ := bindP_inv z18
            obtain ⟨x58, rfl, z32⟩ := asI_inv z31
            refine wo_step (s_mln rfl e58) (wo_step (v := (.i .i64 x58)) (s_pure (p_mv rfl)) (wo_step (v := (.i .i64 0)) (s_pure (p_mv rfl)) (wo_nil (nx_norm ?_))))
            refine w_ret ?_
            exact qf ret_ok (rt rfl (rt rfl rn)) z32
        · cases z16
        · cases z16
/- dibber/dibberref03.Shoot -/
abbrev g42_J0 (x7 : Int) (o : Bool × Mm) (m1 : Mm) (t1 : Tr) : Prop :=
  match o with
  | (c20, m_2) => m_2 = m1 ∧ t1.get 20 = (.b c20) ∧ t1.get 5 = (.i .i64 x7)
abbrev g42_J1 (x7 : Int) (o : Bool × Mm) (m1 : Mm) (t1 : Tr) : Prop :=
  match o with
  | (c20_1, m_3) => m_3 = m1 ∧ t1.get 20 = (.b c20_1) ∧ t1.get 5 = (.i .i64 x7)
abbrev g42_J2 (m_2 : Mm) (o : Int) (e : AExit) (m1 : Mm) (t1 : Tr) : Prop :=
  match o with
  | y5 => e = .norm ∧ m_2 = m1 ∧ t1.get 5 = (.i .i64 y5)
def g42 (M : Means) (ro : List ABlk) (v0 : AVal) (s1 : List UInt8) (m0 : Mm) : Option (AVal × Heap × Nat × Nat) :=
  bindP (callM M.call m0 46 [v0]) fun v7 m_1 =>
  asI .i64 v7 fun x7 =>
  forceB (eqI x7 0) fun c9 =>
  bindO (cond c9 (
    bindO (evP .e (.len true (.c (.s s1)))) fun v12 =>
    asI .i64 v12 fun x12 =>
    forceB (ltI 30 x12) fun c13 =>
    bindO (cond c13 (
      some (true, m_1)) (
      bindP (callM M.call m_1 85 [v0, (.s s1)]) fun v17 m_4 =>
      asB v17 fun c17 =>
      forceB (!c17) fun c18 =>
      some (c18, m_4))) fun ⟨c20_1, m_3⟩ =>
    some (c20_1, m_3)) (
    some (false, m_1))) fun ⟨c20, m_2⟩ =>
  bindO (α := Int) (
    cond c20 (
      some 5) (
      some x7)) fun x5 =>
  finM m0.h.length (tupA [(.i .i64 x5)]) m_2
theorem g42_ok {ro : List ABlk} {O : Caller} {M : Means} (hM : M.Ok ⟨F, O⟩ ro) {v0 s1 h r} (ho : O 42 [v0, (.s s1)] h = none) (hr : g42 M ro v0 s1 ⟨h, h.length, h.length⟩ = some r) : callX ⟨F, O⟩ ro 42 [v0, (.s s1)] h = some r := by
  refine callX_of (F := ⟨F, O⟩) (fn := fn42) (g := g42 M ro v0 s1) ho rfl rfl hr ?_
  clear ho
  clear hr
  intro m0 t0 ht hr
  have g0 : t0.get 0 = v0 := ht 0
  have g1 : t0.get 1 = (.s s1) := ht 1
  clear ht
  unfold g42 at hr
  refine w_seq (w_ops (wo_step (v := (.i .i64 0)) (s_pure (p_mv rfl)) (wo_nil (nx_norm (w_seq (w_ops (wo_step (s_pure (p_mv g0)) ?_)))))))
  obtain ⟨v7, m_1, e7, z1⟩ := bindP_inv hr
  obtain ⟨x7, rfl, z2⟩ := asI_inv z1
  refine wo_step (s_call (mc rfl mn) (callM_le hM.call e7)) (wo_step (v := (.i .i64 x7)) (s_pure (p_mv rfl)) (wo_nil (nx_norm (w_seq (w_seq (w_ops (wo_step (v := (.i .i64 x7)) (s_pure (p_mv rfl)) ?_)))))))
  obtain ⟨c9, e9, z3⟩ := forceB_inv z2
  refine wo_step (s_pure (p_bin rfl rfl (b_eql.trans (cb e9)))) (wo_step (v := (.b c9)) (s_pure (p_mv rfl)) ?_)
  obtain ⟨o, z4, hk⟩ := bindO_inv z3
  refine wo_join 10 (g42_J0 x7 o) ?_ ?_
  · clear hk
    rcases cond_inv z4 with ⟨rfl, z5⟩ | ⟨rfl, z5⟩
    · refine wo_take (v := (.s s1)) rfl (s_pure (p_mv g1)) ?_
      obtain ⟨v12, e12, z6⟩ := bindO_inv z5
      obtain ⟨x12, rfl, z7⟩ := asI_inv z6
      refine wo_take (v := (.i .i64 x12)) rfl (s_pure (o_len rfl e12)) ?_
      obtain ⟨c13, e13, z8⟩ := forceB_inv z7
      refine wo_take (v := (.b c13)) rfl (s_pure (p_bin rfl rfl (b_gtr.trans (cb e13)))) (wo_take (v := (.b c13)) rfl (s_pure (p_mv rfl)) ?_)
      obtain ⟨o_1, z9, hk⟩ := bindO_inv z8
      refine wo_join 6 (g42_J1 x7 o_1) ?_ ?_
      · clear hk
        rcases cond_inv z9 with ⟨rfl, z10⟩ | ⟨rfl, z10⟩
        · refine wo_skip (v := (.b true)) rfl rfl (wo_skip (v := (.b true)) rfl rfl (wo_skip (v := (.b true)) rfl rfl (wo_skip (v := (.b true)) rfl rfl (wo_take (v := (.b true)) rfl (s_pure (p_pickT rfl rfl)) (wo_step (v := (.b true)) (s_pure (p_pickT rfl rfl)) (wo_nil ?_))))))
          cases z10
          exact ⟨_, _, rfl, rfl, gl rfl, gl rfl⟩
        · refine wo_take (v := v0) rfl (s_pure (p_mv g0)) (wo_take (v := (.s s1)) rfl (s_pure (p_mv g1)) ?_)
          obtain ⟨v17, m_4, e17, z11⟩ := bindP_inv z10
          obtain ⟨c17, rfl, z12⟩ := asB_inv z11
          refine wo_take (v := (.b c17)) rfl (s_call (mc rfl (mc rfl mn)) (callM_le hM.call e17)) ?_
          obtain ⟨c18, e18, z13⟩ := forceB_inv z12
          refine wo_take (v := (.b c18)) rfl (s_pure ((p_not rfl).trans (cb e18))) (wo_take (v := (.b c18)) rfl (s_pure (p_pickF rfl rfl)) (wo_step (v := (.b c18)) (s_pure (p_pickT rfl rfl)) (wo_nil ?_)))
          cases z13
          exact ⟨_, _, rfl, rfl, gl rfl, gl rfl⟩
      · clear z9
        have hr := hk
        clear hk
        obtain ⟨c20_1, m_3⟩ := o_1
        rintro mm t_1 ⟨rfl, g20, g5⟩
        refine wo_nil ?_
        cases hr
        exact ⟨_, _, rfl, rfl, gl g20, gl g5⟩
    · refine wo_skip (v := (.b false)) rfl rfl (wo_skip (v := (.b false)) rfl rfl (wo_skip (v := (.b false)) rfl rfl (wo_skip (v := (.b false)) rfl rfl (wo_skip (v := und) rfl rfl (wo_skip (v := und) rfl rfl (wo_skip (v := und) rfl rfl (wo_skip (v := und) rfl rfl (wo_skip (v := (.b false)) rfl rfl (wo_step (v := (.b false)) (s_pure (p_pickF rfl rfl)) (wo_nil ?_))))))))))
      cases z5
      exact ⟨_, _, rfl, rfl, gl rfl, gl rfl⟩
  · clear z4
    have hr := hk
    clear hk
    obtain ⟨c20, m_2⟩ := o
    rintro mm_1 t_2 ⟨rfl, g20, g5⟩
    refine wo_nil (nx_norm ?_)
    obtain ⟨o_2, z14, hk⟩ := bindO_inv hr
    refine jp_mono (J := g42_J2 m_2 o_2) ?_ ?_
    · clear hk
      rcases cond_inv z14 with ⟨rfl, z15⟩ | ⟨rfl, z15⟩
      · refine w_condT g20 ?_
        refine w_ops (wo_step (v := (.i .i64 5)) (s_pure (p_mv rfl)) (wo_nil ?_))
        cases z15
        exact ⟨_, _, rfl, rfl, rfl, gl rfl⟩
      · refine w_condF g20 ?_
        refine w_skip ?_
        cases z15
        exact ⟨_, _, rfl, rfl, rfl, gl g5⟩
    · clear z14
      have hr := hk
      clear hk
      obtain ⟨x5, ho⟩ : ∃ z, z = o_2 := ⟨_, rfl⟩
      subst ho
      rintro _ mm_2 t_3 ⟨rfl, rfl, g5⟩
      refine nx_norm (w_seq (w_ops (wo_step (s_pure (p_mv g5)) (wo_step (v := (.i .i64 x5)) (s_pure (p_mv rfl)) (wo_nil (nx_norm ?_))))))
      refine w_ret ?_
      exact qf ret_ok (rt rfl rn) hr
/- dibber/dibberref03.Vine -/
abbrev g46_J0 (v0 : AVal) (m0 : Mm) (o : Bool) (m1 : Mm) (t1 : Tr) : Prop :=
  match o with
  | c11 => m0 = m1 ∧ t1.get 11 = (.b c11) ∧ t1.get 0 = v0
abbrev g46_I1 (v0 : AVal) (s : Int × Mm) (m1 : Mm) (t1 : Tr) : Prop :=
  match s with
  | (x3, m_1) => m_1 = m1 ∧ t1.get 3 = (.i .i64 x3) ∧ t1.get 0 = v0
abbrev g46_J1 (v0 : AVal) (o : (Mm ⊕ (Int × Mm))) (e : AExit) (m1 : Mm) (t1 : Tr) : Prop :=
  match o with
  | (.inl mo) => e = (.exit 0) ∧ mo = m1
  | (.inr (y2, mo)) => e = .ret ∧ mo = m1 ∧ t1.get 2 = (.i .i64 y2)
abbrev g46_J2 (v0 : AVal) (x3 : Int) (o : Bool × Mm) (m1 : Mm) (t1 : Tr) : Prop :=
  match o with
  | (c32, m_2) => m_2 = m1 ∧ t1.get 32 = (.b c32) ∧ t1.get 0 = v0 ∧ t1.get 3 = (.i .i64 x3)
def g46_b1 (M : Means) (ro : List ABlk) (v0 : AVal) (x3 : Int) (m_1 : Mm) : Option ((Int × Mm) ⊕ ((Mm ⊕ (Int × Mm)))) :=
  bindO (evP .e (.len false (.c v0))) fun v14 =>
  asI .i64 v14 fun x14 =>
  forceB (ltI x3 x14) fun c15 =>
  cond c15 (
    bindO (evP .e (.ixS 1 (.c v0) (.c (.i .i64 x3)))) fun v20 =>
    bindO (ldM ro m_1 true 1 v20) fun v21 =>
    asS v21 fun s21 =>
    bindO (evP .e (.len true (.c (.s s21)))) fun v22 =>
    asI .i64 v22 fun x22 =>
    forceB (ltI 8 x22) fun c23 =>
    bindO (cond c23 (
      some (true, m_1)) (
      bindO (evP .e (.ixS 1 (.c v0) (.c (.i .i64 x3)))) fun v28 =>
      bindO (ldM ro m_1 true 1 v28) fun v29 =>
      asS v29 fun s29 =>
      bindP (callM M.call m_1 85 [v0, (.s s29)]) fun v30 m_3 =>
      asB v30 fun c30 =>
      forceB (!c30) fun c31 =>
      some (c31, m_3))) fun ⟨c32, m_2⟩ =>
    cond c32 (
      some (.inr (.inr (5, m_2)))) (
      forceI (wr .i64 (x3 + 1)) fun x17 =>
      some (.inl (x17, m_2)))) (
    some (.inr (.inl m_1)))
def g46 (M : Means) (ro : List ABlk) (v0 : AVal) (m0 : Mm) : Option (AVal × Heap × Nat × Nat) :=
  bindO (evP .e (.len false (.c v0))) fun v5 =>
  asI .i64 v5 fun x5 =>
  forceB (ltI x5 1) fun c6 =>
  bindO (cond c6 (
    some true) (
    bindO (evP .e (.len false (.c v0))) fun v9 =>
    asI .i64 v9 fun x9 =>
    forceB (ltI 6 x9) fun c10 =>
    some c10)) fun c11 =>
  cond c11 (
    finM m0.h.length (tupA [(.i .i64 2)]) m0) (
    bindO (M.loop (S := Int × Mm) (R := (Mm ⊕ (Int × Mm))) (fun s => g46_b1 M ro v0 s.1 s.2) (0, m0)) fun o_2 => match o_2 with
    | (.inl m_4) =>
      finM m0.h.length (tupA [(.i .i64 0)]) m_4
    | (.inr (x2, m_5)) =>
      finM m0.h.length (tupA [(.i .i64 x2)]) m_5)
theorem g46_ok {ro : List ABlk} {O : Caller} {M : Means} (hM : M.Ok ⟨F, O⟩ ro) {v0 h r} (ho : O 46 [v0] h = none) (hr : g46 M ro v0 ⟨h, h.length, h.length⟩ = some r) : callX ⟨F, O⟩ ro 46 [v0] h = some r := by
  refine callX_of (F := ⟨F, O⟩) (fn := fn46) (g := g46 M ro v0) ho rfl rfl hr ?_
  clear ho
  clear hr
  intro m0 t0 ht hr
  have g0 : t0.get 0 = v0 := ht 0
  clear ht
  unfold g46 at hr
  refine w_seq (w_ops (wo_step (v := (.i .i64 0)) (s_pure (p_mv rfl)) (wo_nil (nx_norm (w_seq (w_seq (w_ops (wo_step (s_pure (p_mv g0)) ?_))))))))
  obtain ⟨v5, e5, z1⟩ := bindO_inv hr
  obtain ⟨x5, rfl, z2⟩ := asI_inv z1
  refine wo_step (s_pure (o_len rfl e5)) ?_
  obtain ⟨c6, e6, z3⟩ := forceB_inv z2
  refine wo_step (s_pure (p_bin rfl rfl (b_lss.trans (cb e6)))) (wo_step (v := (.b c6)) (s_pure (p_mv rfl)) ?_)
  obtain ⟨o, z4, hk⟩ := bindO_inv z3
  refine wo_join 4 (g46_J0 v0 m0 o) ?_ ?_
  · clear hk
    rcases cond_inv z4 with ⟨rfl, z5⟩ | ⟨rfl, z5⟩
    · refine wo_skip (v := (.b true)) rfl rfl (wo_skip (v := (.b true)) rfl rfl (wo_skip (v := (.b true)) rfl rfl (wo_step (v := (.b true)) (s_pure (p_pickT rfl rfl)) (wo_nil ?_))))
      cases z5
      exact ⟨_, _, rfl, rfl, gl rfl, gl g0⟩
    · refine wo_take (v := v0) rfl (s_pure (p_mv g0)) ?_
      obtain ⟨v9, e9, z6⟩ := bindO_inv z5
      obtain ⟨x9, rfl, z7⟩ := asI_inv z6
      refine wo_take (v := (.i .i64 x9)) rfl (s_pure (o_len rfl e9)) ?_
      obtain ⟨c10, e10, z8⟩ := forceB_inv z7
      refine wo_take (v := (.b c10)) rfl (s_pure (p_bin rfl rfl (b_gtr.trans (cb e10)))) (wo_step (v := (.b c10)) (s_pure (p_pickF rfl rfl)) (wo_nil ?_))
      cases z8
      exact ⟨_, _, rfl, rfl, gl rfl, gl g0⟩
  · clear z4
    have hr := hk
    clear hk
    obtain ⟨c11, ho⟩ : ∃ z, z = o := ⟨_, rfl⟩
    subst ho
    rintro mm t_1 ⟨rfl, g11, g0⟩
    refine wo_nil (nx_norm ?_)
    rcases cond_inv hr with ⟨rfl, z9⟩ | ⟨rfl, z9⟩
    · refine w_condT g11 ?_
      refine w_seq (w_ops (wo_step (v := (.i .i64 2)) (s_pure (p_mv rfl)) (wo_nil (nx_norm ?_))))
      refine w_ret ?_
      refine nx_ret ?_
      exact qf ret_ok (rt rfl rn) z9
    · refine w_condF g11 ?_
      refine w_skip (nx_norm (w_seq (w_seq (w_ops (wo_step (v := (.i .i64 0)) (s_pure (p_mv rfl)) (wo_nil (nx_norm ?_)))))))
      refine w_block ?_
      obtain ⟨o_2, hl, z10⟩ := bindO_inv z9
      obtain ⟨n, hl⟩ := hM.loop _ _ _ hl
      refine jp_mono (w_loop _ (g46_I1 v0) (g46_J1 v0) ?_ n _ _ _ _ hl ⟨rfl, gl rfl, gl g0⟩) ?_
      · clear z10 hl
        intro s mm_4 t_2 o hi hr
        obtain ⟨x3, m_1⟩ := s
        obtain ⟨rfl, g3, g0⟩ := hi
        unfold g46_b1 at hr
        refine w_seq (w_seq (w_ops (wo_step (s_pure (p_mv g3)) (wo_step (s_pure (p_mv g0)) ?_))))
        obtain ⟨v14, e14, z11⟩ := bindO_inv hr
        obtain ⟨x14, rfl, z12⟩ := asI_inv z11
        refine wo_step (s_pure (o_len rfl e14)) ?_
        obtain ⟨c15, e15, z13⟩ := forceB_inv z12
        refine wo_step (s_pure (p_bin rfl rfl (b_lss.trans (cb e15)))) (wo_nil (nx_norm ?_))
        rcases cond_inv z13 with ⟨rfl, z14⟩ | ⟨rfl, z14⟩
        · refine w_condT rfl ?_
          refine w_skip (nx_norm (w_seq ?_))
          refine w_block ?_
          refine w_seq (w_ops (wo_step (s_pure (p_mv g0)) (wo_step (s_pure (p_mv g3)) ?_)))
          obtain ⟨v20, e20, z15⟩ := bindO_inv z14
          refine wo_step (s_pure (o_ixS rfl rfl e20)) ?_
          obtain ⟨v21, e21, z16⟩ := bindO_inv z15
          obtain ⟨s21, rfl, z17⟩ := asS_inv z16
          refine wo_step (s_ld rfl e21) ?_
          obtain ⟨v22, e22, z18⟩ := bindO_inv z17
          obtain ⟨x22, rfl, z19⟩ := asI_inv z18
          refine wo_step (s_pure (o_len rfl e22)) ?_
          obtain ⟨c23, e23, z20⟩ := forceB_inv z19
          refine wo_step (s_pure (p_bin rfl rfl (b_gtr.trans (cb e23)))) (wo_step (v := (.b c23)) (s_pure (p_mv rfl)) ?_)
          obtain ⟨o_1, z21, hk⟩ := bindO_inv z20
          refine wo_join 8 (g46_J2 v0 x3 o_1) ?_ ?_
          · clear hk
            rcases cond_inv z21 with ⟨rfl, z22⟩ | ⟨rfl, z22⟩
            · refine wo_skip (v := (.b true)) rfl rfl (wo_skip (v := (.b true)) rfl rfl (wo_skip (v := (.b true)) rfl rfl (wo_skip (v := (.b true)) rfl rfl (wo_skip (v := (.b true)) rfl rfl (wo_skip (v := (.b true)) rfl rfl (wo_skip (v := (.b true)) rfl rfl (wo_step (v := (.b true)) (s_pure (p_pickT rfl rfl)) (wo_nil ?_))))))))
              cases z22
              exact ⟨_, _, rfl, rfl, gl rfl, gl g0, gl g3⟩
            · refine wo_take (v := v0) rfl (s_pure (p_mv g0)) (wo_take (v := v0) rfl (s_pure (p_mv g0)) (wo_take (v := (.i .i64 x3)) rfl (s_pure (p_mv g3)) ?_))
              obtain ⟨v28, e28, z23⟩ := bindO_inv z22
              refine wo_take (v := v28) rfl (s_pure (o_ixS rfl rfl e28)) ?_
              obtain ⟨v29, e29, z24⟩ := bindO_inv z23
              obtain ⟨s29, rfl, z25⟩ := asS_inv z24
              refine wo_take (v := (.s s29)) rfl (s_ld rfl e29) ?_
              obtain ⟨v30, m_3, e30, z26⟩ := bindP_inv z25
              obtain ⟨c30, rfl, z27⟩ := asB_inv z26
              refine wo_take (v := (.b c30)) rfl (s_call (mc rfl (mc rfl mn)) (callM_le hM.call e30)) ?_
              obtain ⟨c31, e31, z28⟩ := forceB_inv z27
              refine wo_take (v := (.b c31)) rfl (s_pure ((p_not rfl).trans (cb e31))) (wo_step (v := (.b c31)) (s_pure (p_pickF rfl rfl)) (wo_nil ?_))
              cases z28
              exact ⟨_, _, rfl, rfl, gl rfl, gl g0, gl g3⟩
          · clear z21
            have hr := hk
            clear hk
            obtain ⟨c32, m_2⟩ := o_1
            rintro mm_1 t_3 ⟨rfl, g32, g0, g3⟩
            refine wo_nil (nx_norm ?_)
            rcases cond_inv hr with ⟨rfl, z29⟩ | ⟨rfl, z29⟩
            · refine w_condT g32 ?_
              refine w_seq (w_ops (wo_step (v := (.i .i64 5)) (s_pure (p_mv rfl)) (wo_nil (nx_norm ?_))))
              refine w_ret ?_
              refine bk_ret ?_
              refine nx_ret ?_
              cases z29
              exact ⟨_, _, rfl, ne_norm_ret, rfl, rfl, gl rfl⟩
            · refine w_condF g32 ?_
              refine w_skip ?_
              refine bk_norm ?_
              refine nx_norm (w_ops (wo_step (s_pure (p_mv g3)) ?_))
              obtain ⟨x17, e17, z30⟩ := forceI_inv z29
              refine wo_step (s_pure (p_bin rfl rfl (b_add.trans (ci e17)))) (wo_step (v := (.i .i64 x17)) (s_pure (p_mv rfl)) (wo_nil ?_))
              cases z30
              exact ⟨_, _, rfl, rfl, rfl, gl rfl, gl g0⟩
        · refine w_condF rfl ?_
          refine w_exit ?_
          refine nx_exit ?_
          cases z14
          exact ⟨_, _, rfl, ne_norm_exit, rfl, rfl⟩
      · rcases o_2 with o_2 | o_2
        · obtain ⟨m_4, ho⟩ : ∃ z, z = o_2 := ⟨_, rfl⟩
          subst ho
          rintro _ mm_2 t_4 ⟨rfl, rfl⟩
          refine bk_hit ?_
          refine nx_norm (w_seq (w_ops (wo_step (v := (.i .i64 0)) (s_pure (p_mv rfl)) (wo_nil (nx_norm ?_)))))
          refine w_ret ?_
          exact qf ret_ok (rt rfl rn) z10
        · obtain ⟨x2, m_5⟩ := o_2
          rintro _ mm_3 t_5 ⟨rfl, rfl, g2⟩
          refine bk_ret ?_
          refine nx_ret ?_
          exact qf ret_ok (rt g2 rn) z10
/- (dibber/vine.rules).lengths -/
abbrev g48_I0 (x1 : Int) (v10 : AVal) (v13 : AVal) (x15 : Int) (s : Int × Mm) (m1 : Mm) (t1 : Tr) : Prop :=
  match s with
  | (x16, m_3) => m_3 = m1 ∧ t1.get 16 = (.i .i64 x16) ∧ t1.get 1 = (.i .i64 x1) ∧ t1.get 5 = v10 ∧ t1.get 6 = v13 ∧ t1.get 15 = (.i .i64 x15)
abbrev g48_J0 (x1 : Int) (v10 : AVal) (v13 : AVal) (x15 : Int) (o : Mm) (e : AExit) (m1 : Mm) (t1 : Tr) : Prop :=
  match o with
  | mo => e = (.exit 0) ∧ mo = m1 ∧ t1.get 1 = (.i .i64 x1) ∧ t1.get 5 = v10 ∧ t1.get 6 = v13
def g48_b0 (M : Means) (ro : List ABlk) (x1 : Int) (v10 : AVal) (v13 : AVal) (x15 : Int) (x16 : Int) (m_3 : Mm) : Option ((Int × Mm) ⊕ (Mm)) :=
  forceB (ltI x16 x15) fun c17 =>
  cond c17 (
    bindO (evP .e (.ixS 1 (.c v13) (.c (.i .i64 x16)))) fun v21 =>
    bindP (stepM ro m_3 (.st 1 (.c v21) (.c (.i .u64 1)))) fun vn m_4 =>
    forceI (wr .i64 (x16 + 1)) fun x22 =>
    some (.inl (x22, m_4))) (
    some (.inr m_3))
abbrev g48_I1 (v10 : AVal) (x1 : Int) (s : AVal × AVal × Int × Mm) (m1 : Mm) (t1 : Tr) : Prop :=
  match s with
  | (v6, v8, x26, m_7) => m_7 = m1 ∧ t1.get 6 = v6 ∧ t1.get 8 = v8 ∧ t1.get 26 = (.i .i64 x26) ∧ t1.get 5 = v10 ∧ t1.get 25 = (.i .i64 x1)
abbrev g48_J1 (v10 : AVal) (x1 : Int) (o : (AVal × Mm)) (e : AExit) (m1 : Mm) (t1 : Tr) : Prop :=
  match o with
  | (y8, mo) => e = (.exit 2) ∧ mo = m1 ∧ t1.get 8 = y8
def g48_b1 (M : Means) (ro : List ABlk) (v10 : AVal) (x1 : Int) (v6 : AVal) (v8 : AVal) (x26 : Int) (m_7 : Mm) : Option ((AVal × AVal × Int × Mm) ⊕ ((AVal × Mm))) :=
  forceB (ltI x26 x1) fun c27 =>
  cond c27 (
    bindP (stepM ro m_7 (.bsl 63 1 [AVal.nsl] 1 [((0, 1), .c v6)])) fun v29 m_8 =>
    bindP (callM M.call m_8 57 [v29, v10]) fun v31 m_9 =>
    bindO (evP .e (.ixS 1 (.c v31) (.c (.i .i64 0)))) fun v32 =>
    bindO (ldM ro m_9 true 1 v32) fun v33 =>
    bindP (stepM ro m_9 (.bsl 63 1 [AVal.nsl] 1 [((0, 1), .c v33)])) fun v36 m_10 =>
    bindP (stepM ro m_10 (.app 63 1 24 [AVal.nsl] (.c v8) (.c v36))) fun v37 m_11 =>
    forceI (wr .i64 (x26 + 1)) fun x38 =>
    some (.inl (v33, v37, x38, m_11))) (
    some (.inr (v8, m_7)))
def g48 (M : Means) (ro : List ABlk) (v0 : AVal) (x1 : Int) (m0 : Mm) : Option (AVal × Heap × Nat × Nat) :=
  bindP (callM M.call m0 55 [v0, (AVal.fn 56 [] [])]) fun v10 m_1 =>
  bindO (evP .e (.len false (.c v0))) fun v12 =>
  asI .i64 v12 fun x12 =>
  bindP (stepM ro m_1 (.mk 61 1 8 [(AVal.i IntKind.u64 0)] (.c (.i .i64 x12)) (.c (.i .i64 x12)))) fun v13 m_2 =>
  bindO (evP .e (.len false (.c v13))) fun v15 =>
  asI .i64 v15 fun x15 =>
  bindO (M.loop (S := Int × Mm) (R := Mm) (fun s => g48_b0 M ro x1 v10 v13 x15 s.1 s.2) (0, m_2)) fun m_5 =>
  bindP (stepM ro m_5 (.bsl 63 1 [AVal.nsl] 1 [((0, 1), .c v13)])) fun v24 m_6 =>
  bindO (M.loop (S := AVal × AVal × Int × Mm) (R := (AVal × Mm)) (fun s => g48_b1 M ro v10 x1 s.1 s.2.1 s.2.2.1 s.2.2.2) (v13, v24, 0, m_6)) fun ⟨v8_1, m_12⟩ =>
  finM m0.h.length (tupA [v8_1]) m_12
theorem g48_ok {ro : List ABlk} {O : Caller} {M : Means} (hM : M.Ok ⟨F, O⟩ ro) {v0 x1 h r} (ho : O 48 [v0, (.i .i64 x1)] h = none) (hr : g48 M ro v0 x1 ⟨h, h.length, h.length⟩ = some r) : callX ⟨F, O⟩ ro 48 [v0, (.i .i64 x1)] h = some r := by
  refine callX_of (F := ⟨F, O⟩) (fn := fn48) (g := g48 M ro v0 x1) ho rfl rfl hr ?_
  clear ho
  clear hr
  intro m0 t0 ht hr
  have g0 : t0.get 0 = v0 := ht 0
  have g1 : t0.get 1 = (.i .i64 x1) := ht 1
  clear ht
  unfold g48 at hr
  refine w_seq (w_ops (wo_step (v := AVal.nsl) (s_pure (p_mv rfl)) (wo_nil (nx_norm (w_seq (w_ops (wo_step (s_pure (p_mv g0)) ?_)))))))
  obtain ⟨v10, m_1, e10, z1⟩ := bindP_inv hr
  refine wo_step (s_call (mc rfl (mc rfl mn)) (callM_le hM.call e10)) (wo_step (v := v10) (s_pure (p_mv rfl)) (wo_nil (nx_norm (w_seq (w_ops (wo_step (s_pure (p_mv g0)) ?_))))))
  obtain ⟨v12, e12, z2⟩ := bindO_inv z1
  obtain ⟨x12, rfl, z3⟩ := asI_inv z2
  refine wo_step (s_pure (o_len rfl e12)) ?_
  obtain ⟨v13, m_2, e13, z4⟩ := bindP_inv z3
  refine wo_step (s_mk rfl rfl e13) (wo_step (v := v13) (s_pure (p_mv rfl)) (wo_nil (nx_norm (w_seq (w_seq (w_ops (wo_step (v := v13) (s_pure (p_mv rfl)) ?_)))))))
  obtain ⟨v15, e15, z5⟩ := bindO_inv z4
  obtain ⟨x15, rfl, z6⟩ := asI_inv z5
  refine wo_step (s_pure (o_len rfl e15)) (wo_step (v := (.i .i64 0)) (s_pure (p_mv rfl)) (wo_nil (nx_norm ?_)))
  refine w_block ?_
  obtain ⟨o, hl_1, z7⟩ := bindO_inv z6
  obtain ⟨n_1, hl_1⟩ := hM.loop _ _ _ hl_1
  refine jp_mono (w_loop _ (g48_I0 x1 v10 v13 x15) (g48_J0 x1 v10 v13 x15) ?_ n_1 _ _ _ _ hl_1 ⟨rfl, gl rfl, gl g1, gl rfl, gl rfl, gl rfl⟩) ?_
  · clear z7 hl_1
    intro s mm_3 t_1 o hi hr
    obtain ⟨x16, m_3⟩ := s
    obtain ⟨rfl, g16, g1, g5, g6, g15⟩ := hi
    unfold g48_b0 at hr
    refine w_seq (w_ops ?_)
    obtain ⟨c17, e17, z8⟩ := forceB_inv hr
    refine wo_step (s_pure (p_bin g16 g15 (b_lss.trans (cb e17)))) (wo_nil (nx_norm (w_seq ?_)))
    rcases cond_inv z8 with ⟨rfl, z9⟩ | ⟨rfl, z9⟩
    · refine w_condT rfl ?_
      refine w_skip (nx_norm (w_seq ?_))
      refine w_block ?_
      refine w_seq (w_ops (wo_step (s_pure (p_mv g16)) (wo_step (v := (.i .i64 x16)) (s_pure (p_mv rfl)) (wo_nil (nx_norm (w_ops (wo_step (s_pure (p_mv g6)) (wo_step (v := (.i .i64 x16)) (s_pure (p_mv rfl)) ?_))))))))
      obtain ⟨v21, e21, z10⟩ := bindO_inv z9
      refine wo_step (s_pure (o_ixS rfl rfl e21)) ?_
      obtain ⟨vn, m_4, en, z11⟩ := bindP_inv z10
      refine wo_stepN (s_st rfl rfl en) ?_
      refine wo_nil ?_
      refine bk_norm ?_
      refine nx_norm (w_ops ?_)
      obtain ⟨x22, e22, z12⟩ := forceI_inv z11
      refine wo_step (s_pure (p_bin g16 rfl (b_add.trans (ci e22)))) (wo_step (v := (.i .i64 x22)) (s_pure (p_mv rfl)) (wo_nil ?_))
      cases z12
      exact ⟨_, _, rfl, rfl, rfl, gl rfl, gl g1, gl g5, gl g6, gl g15⟩
    · refine w_condF rfl ?_
      refine w_exit ?_
      refine nx_exit ?_
      cases z9
      exact ⟨_, _, rfl, ne_norm_exit, rfl, rfl, gl g1, gl g5, gl g6⟩
  · obtain ⟨m_5, ho⟩ : ∃ z, z = o := ⟨_, rfl⟩
    subst ho
    rintro _ mm_2 t_2 ⟨rfl, rfl, g1, g5, g6⟩
    refine bk_hit ?_
    refine nx_norm (w_seq (w_ops (wo_step (s_pure (p_mv g6)) ?_)))
    obtain ⟨v24, m_6, e24, z13⟩ := bindP_inv z7
    refine wo_step (s_bsl (qc rfl qn) e24) (wo_step (v := v24) (s_pure (p_mv rfl)) (wo_nil (nx_norm (w_seq (w_seq (w_ops (wo_step (s_pure (p_mv g1)) (wo_step (v := (.i .i64 0)) (s_pure (p_mv rfl)) (wo_nil (nx_norm ?_))))))))))
    refine w_block ?_
    obtain ⟨o_1, hl, z14⟩ := bindO_inv z13
    obtain ⟨n, hl⟩ := hM.loop _ _ _ hl
    refine jp_mono (w_loop _ (g48_I1 v10 x1) (g48_J1 v10 x1) ?_ n _ _ _ _ hl ⟨rfl, gl g6, gl rfl, gl rfl, gl g5, gl rfl⟩) ?_
    · clear z14 hl
      intro s mm_1 t_3 o hi hr
      obtain ⟨v6, v8, x26, m_7⟩ := s
      obtain ⟨rfl, g6, g8, g26, g5, g25⟩ := hi
      unfold g48_b1 at hr
      refine w_seq (w_ops ?_)
      obtain ⟨c27, e27, z15⟩ := forceB_inv hr
      refine wo_step (s_pure (p_bin g26 g25 (b_lss.trans (cb e27)))) (wo_nil (nx_norm (w_seq ?_)))
      rcases cond_inv z15 with ⟨rfl, z16⟩ | ⟨rfl, z16⟩
      · refine w_condT rfl ?_
        refine w_skip (nx_norm (w_seq ?_))
        refine w_block ?_
        refine w_seq (w_ops (wo_step (s_pure (p_mv g6)) ?_))
        obtain ⟨v29, m_8, e29, z17⟩ := bindP_inv z16
        refine wo_step (s_bsl (qc rfl qn) e29) (wo_step (s_pure (p_mv g5)) ?_)
        obtain ⟨v31, m_9, e31, z18⟩ := bindP_inv z17
        refine wo_step (s_call (mc rfl (mc rfl mn)) (callM_le hM.call e31)) ?_
        obtain ⟨v32, e32, z19⟩ := bindO_inv z18
        refine wo_step (s_pure (o_ixS rfl rfl e32)) ?_
        obtain ⟨v33, e33, z20⟩ := bindO_inv z19
        refine wo_step (s_ld rfl e33) (wo_step (v := v33) (s_pure (p_mv rfl)) (wo_nil (nx_norm (w_ops (wo_step (s_pure (p_mv g8)) (wo_step (v := v33) (s_pure (p_mv rfl)) ?_))))))
        obtain ⟨v36, m_10, e36, z21⟩ := bindP_inv z20
        refine wo_step (s_bsl (qc rfl qn) e36) ?_
        obtain ⟨v37, m_11, e37, z22⟩ := bindP_inv z21
        refine wo_step (s_app rfl rfl e37) (wo_step (v := v37) (s_pure (p_mv rfl)) (wo_nil ?_))
        refine bk_norm ?_
        refine nx_norm (w_ops ?_)
        obtain ⟨x38, e38, z23⟩ := forceI_inv z22
        refine wo_step (s_pure (p_bin g26 rfl (b_add.trans (ci e38)))) (wo_step (v := (.i .i64 x38)) (s_pure (p_mv rfl)) (wo_nil ?_))
        cases z23
        exact ⟨_, _, rfl, rfl, rfl, gl rfl, gl rfl, gl rfl, gl g5, gl g25⟩
      · refine w_condF rfl ?_
        refine w_exit ?_
        refine nx_exit ?_
        cases z16
        exact ⟨_, _, rfl, ne_norm_exit, rfl, rfl, gl g8⟩
    · obtain ⟨v8_1, m_12⟩ := o_1
      rintro _ mm t_4 ⟨rfl, rfl, g8⟩
      refine bk_hit ?_
      refine nx_norm (w_seq (w_ops (wo_step (s_pure (p_mv g8)) (wo_step (v := v8_1) (s_pure (p_mv rfl)) (wo_nil (nx_norm ?_))))))
      refine w_ret ?_
      exact qf ret_ok (rt rfl rn) z14
/- dibber/vine.long -/
abbrev g49_I0 (v0 : AVal) (s1 : List UInt8) (x8 : Int) (s : Int × Int × Mm) (m1 : Mm) (t1 : Tr) : Prop :=
  match s with
  | (x5, x9, m_1) => m_1 = m1 ∧ t1.get 5 = (.i .u64 x5) ∧ t1.get 9 = (.i .i64 x9) ∧ t1.get 0 = v0 ∧ t1.get 1 = (.s s1) ∧ t1.get 8 = (.i .i64 x8)
abbrev g49_J0 (v0 : AVal) (s1 : List UInt8) (x8 : Int) (o : (Int × Mm)) (e : AExit) (m1 : Mm) (t1 : Tr) : Prop :=
  match o with
  | (y5, mo) => e = (.exit 0) ∧ mo = m1 ∧ t1.get 5 = (.i .u64 y5)
def g49_b0 (M : Means) (ro : List ABlk) (v0 : AVal) (s1 : List UInt8) (x8 : Int) (x5 : Int) (x9 : Int) (m_1 : Mm) : Option ((Int × Int × Mm) ⊕ ((Int × Mm))) :=
  forceB (ltI x9 x8) fun c10 =>
  cond c10 (
    bindO (evP .e (.ixStr (.c (.s s1)) (.c (.i .i64 x9)))) fun v16 =>
    asI .u8 v16 fun x16 =>
    bindP (callM M.call m_1 54 [(.i .u8 x16)]) fun v17 m_2 =>
    asI .i64 v17 fun x17 =>
    bindO (evP .e (.ixS 1 (.c v0) (.c (.i .i64 x17)))) fun v18 =>
    bindO (ldM ro m_2 true 1 v18) fun v19 =>
    asI .u64 v19 fun x19 =>
    bindP (callM M.call m_2 86 [(.i .u64 x5), (.i .u64 x19)]) fun v20 m_3 =>
    asI .u64 v20 fun x20 =>
    forceI (wr .i64 (x9 + 1)) fun x21 =>
    some (.inl (x20, x21, m_3))) (
    some (.inr (x5, m_1)))
def g49 (M : Means) (ro : List ABlk) (v0 : AVal) (s1 : List UInt8) (m0 : Mm) : Option (AVal × Heap × Nat × Nat) :=
  bindO (evP .e (.len true (.c (.s s1)))) fun v8 =>
  asI .i64 v8 fun x8 =>
  bindO (M.loop (S := Int × Int × Mm) (R := (Int × Mm)) (fun s => g49_b0 M ro v0 s1 x8 s.1 s.2.1 s.2.2) (0, 0, m0)) fun ⟨x5_1, m_4⟩ =>
  finM m0.h.length (tupA [(.i .u64 x5_1)]) m_4
theorem g49_ok {ro : List ABlk} {O : Caller} {M : Means} (hM : M.Ok ⟨F, O⟩ ro) {v0 s1 h r} (ho : O 49 [v0, (.s s1)] h = none) (hr : g49 M ro v0 s1 ⟨h, h.length, h.length⟩ = some r) : callX ⟨F, O⟩ ro 49 [v0, (.s s1)] h = some r := by
  refine callX_of (F := ⟨F, O⟩) (fn := fn49) (g := g49 M ro v0 s1) ho rfl rfl hr ?_
  clear ho
  clear hr
  intro m0 t0 ht hr
  have g0 : t0.get 0 = v0 := ht 0
  have g1 : t0.get 1 = (.s s1) := ht 1
  clear ht
  unfold g49 at hr
  refine w_seq (w_ops (wo_step (v := (.i .u64 0)) (s_pure (p_mv rfl)) (wo_nil (nx_norm (w_seq (w_ops (wo_step (v := (.i .u64 0)) (s_pure (p_mv rfl)) (wo_nil (nx_norm (w_seq (w_seq ?_)))))))))))
  refine w_ops (wo_step (s_pure (p_mv g1)) ?_)
  obtain ⟨v8, e8, z1⟩ := bindO_inv hr
  obtain ⟨x8, rfl, z2⟩ := asI_inv z1
  refine wo_step (s_pure (o_len rfl e8)) (wo_step (v := (.i .i64 0)) (s_pure (p_mv rfl)) (wo_nil (nx_norm ?_)))
  refine w_block ?_
  obtain ⟨o, hl, z3⟩ := bindO_inv z2
  obtain ⟨n, hl⟩ := hM.loop _ _ _ hl
  refine jp_mono (w_loop _ (g49_I0 v0 s1 x8) (g49_J0 v0 s1 x8) ?_ n _ _ _ _ hl ⟨rfl, gl rfl, gl rfl, gl g0, gl g1, gl rfl⟩) ?_
  · clear z3 hl
    intro s mm_1 t_1 o hi hr
    obtain ⟨x5, x9, m_1⟩ := s
    obtain ⟨rfl, g5, g9, g0, g1, g8⟩ := hi
    unfold g49_b0 at hr
    refine w_seq (w_ops ?_)
    obtain ⟨c10, e10, z4⟩ := forceB_inv hr
    refine wo_step (s_pure (p_bin g9 g8 (b_lss.trans (cb e10)))) (wo_nil (nx_norm (w_seq ?_)))
    rcases cond_inv z4 with ⟨rfl, z5⟩ | ⟨rfl, z5⟩
    · refine w_condT rfl ?_
      refine w_skip (nx_norm (w_seq ?_))
      refine w_block ?_
      refine w_seq (w_ops (wo_step (s_pure (p_mv g9)) (wo_step (v := (.i .i64 x9)) (s_pure (p_mv rfl)) (wo_nil (nx_norm (w_ops (wo_step (s_pure (p_mv g5)) (wo_step (s_pure (p_mv g0)) (wo_step (s_pure (p_mv g1)) (wo_step (v := (.i .i64 x9)) (s_pure (p_mv rfl)) ?_))))))))))
      obtain ⟨v16, e16, z6⟩ := bindO_inv z5
      obtain ⟨x16, rfl, z7⟩ := asI_inv z6
      refine wo_step (s_pure (o_ixStr rfl rfl e16)) ?_
      obtain ⟨v17, m_2, e17, z8⟩ := bindP_inv z7
      obtain ⟨x17, rfl, z9⟩ := asI_inv z8
      refine wo_step (s_call (mc rfl mn) (callM_le hM.call e17)) ?_
      obtain ⟨v18, e18, z10⟩ := bindO_inv z9
      refine wo_step (s_pure (o_ixS rfl rfl e18)) ?_
      obtain ⟨v19, e19, z11⟩ := bindO_inv z10
      obtain ⟨x19, rfl, z12⟩ := asI_inv z11
      refine wo_step (s_ld rfl e19) ?_
      obtain ⟨v20, m_3, e20, z13⟩ := bindP_inv z12
      obtain ⟨x20, rfl, z14⟩ := asI_inv z13
      refine wo_step (s_call (mc rfl (mc rfl mn)) (callM_le hM.call e20)) (wo_step (v := (.i .u64 x20)) (s_pure (p_mv rfl)) (wo_nil ?_))
      refine bk_norm ?_
      refine nx_norm (w_ops ?_)
      obtain ⟨x21, e21, z15⟩ := forceI_inv z14
      refine wo_step (s_pure (p_bin g9 rfl (b_add.trans (ci e21)))) (wo_step (v := (.i .i64 x21)) (s_pure (p_mv rfl)) (wo_nil ?_))
      cases z15
      exact ⟨_, _, rfl, rfl, rfl, gl rfl, gl rfl, gl g0, gl g1, gl g8⟩
    · refine w_condF rfl ?_
      refine w_exit ?_
      refine nx_exit ?_
      cases z5
      exact ⟨_, _, rfl, ne_norm_exit, rfl, rfl, gl g5⟩
  · obtain ⟨x5_1, m_4⟩ := o
    rintro _ mm t_2 ⟨rfl, rfl, g5⟩
    refine bk_hit ?_
    refine nx_norm (w_seq (w_ops (wo_step (s_pure (p_mv g5)) (wo_step (v := (.i .u64 x5_1)) (s_pure (p_mv rfl)) (wo_nil (nx_norm ?_))))))
    refine w_ret ?_
    exact qf ret_ok (rt rfl rn) z3
/- (dibber/vine.rules).grow -/
abbrev k50a0 : ACode := (.ops [(.mk (some 8) none (.pure (.mv (.t 13))))])
abbrev k50c0 : ACode := (.block 1 (.ops [(.mk (some 14) none (.ld true 1 (.t 7))), (.mk (some 15) none (.pure (.mv (.t 8)))), (.mk (some 16) none (.bsl 5 1 [(.i .u8 0)] 1 [((0, 1), (.t 15))])), (.mk (some 17) none (.app 5 1 1 [(.i .u8 0)] (.t 14) (.t 16))), (.mk none none (.st 1 (.t 7) (.t 17)))]))
abbrev g50_P0 (v7 : AVal) (t1 : Tr) : Prop := True ∧ t1.get 7 = v7
def g50_r0 (M : Means) (ro : List ABlk) (v7 : AVal) (b : Nat) (v13 : AVal) (m0 : Mm) : Option (AVal × Heap × Nat × Nat) :=
  bindO (rndB b m0) fun m_3 =>
  bindO (ldM ro m_3 true 1 v7) fun v14 =>
  bindP (stepM ro m_3 (.bsl 5 1 [(AVal.i IntKind.u8 0)] 1 [((0, 1), .c v13)])) fun v16 m_4 =>
  bindP (stepM ro m_4 (.app 5 1 1 [(AVal.i IntKind.u8 0)] (.c v14) (.c v16))) fun v17 m_5 =>
  bindP (stepM ro m_5 (.st 1 (.c v7) (.c v17))) fun vn m_6 =>
  rndE m0.h.length b .norm m_6
noncomputable def g50 (M : Means) (ro : List ABlk) (v0 : AVal) (s1 : List UInt8) (v2 : AVal) (m0 : Mm) : Option (AVal × Heap × Nat × Nat) :=
  bindP (stepM ro m0 (.al 52 [AVal.nsl])) fun v7 m_1 =>
  bindP (callM M.call m_1 59 [v0, (.i .u64 0), (.s s1), v2]) fun v12 m_2 =>
  rngK M.call (g50_P0 v7) [13] k50a0 k50c0 v12 m_2 fun ⟨ex, m_7⟩ => onE ex (
    bindO (ldM ro m_7 true 1 v7) fun v18 =>
    bindO (btsM ro m_7 v18) fun v19 =>
    asS v19 fun s19 =>
    finM m0.h.length (tupA [(.s s19)]) m_7) (
    none) (fun ix =>
    none)
theorem g50_r0_ok {ro : List ABlk} {O : Caller} {M : Means} (hM : M.Ok ⟨F, O⟩ ro) {v7} {v13} {b h r bk t p} (hb : lget h b = some (some bk)) (hg : bk.g = some (.lp ⟨t, [13], k50a0, k50c0⟩ .ready p)) (hP : g50_P0 v7 t) (hr : g50_r0 M ro v7 b v13 ⟨h, h.length, h.length⟩ = some r) : roundX ⟨F, O⟩ ro b [v13] h = some r := by
  refine roundX_on (F := ⟨F, O⟩) (g := g50_r0 M ro v7 b v13) hb hg rfl hr ?_
  clear hb hg hr
  intro m0 t0 ht hr
  obtain ⟨-, g7⟩ := hP
  have g13 : t0.get 13 = v13 := by rw [ht]; simp [putPs, get_set]
  have g7 : t0.get 7 = v7 := by rw [ht]; simp only [putPs, get_set]; simpa using g7
  clear ht
  unfold g50_r0 at hr
  show W _ _ k50a0 _ _
  unfold k50a0
  refine w_ops (wo_step (s_pure (p_mv g13)) (wo_nil ?_))
  obtain ⟨m_3, eb, z1⟩ := bindO_inv hr
  refine qb eb ?_
  unfold k50c0
  refine w_block ?_
  refine w_ops ?_
  obtain ⟨v14, e14, z2⟩ := bindO_inv z1
  refine wo_step (s_ld g7 e14) (wo_step (v := v13) (s_pure (p_mv rfl)) ?_)
  obtain ⟨v16, m_4, e16, z3⟩ := bindP_inv z2
  refine wo_step (s_bsl (qc rfl qn) e16) ?_
  obtain ⟨v17, m_5, e17, z4⟩ := bindP_inv z3
  refine wo_step (s_app rfl rfl e17) ?_
  obtain ⟨vn, m_6, en, z5⟩ := bindP_inv z4
  refine wo_stepN (s_st g7 rfl en) ?_
  refine wo_nil ?_
  refine bk_norm ?_
  exact z5

theorem g50_ok {ro : List ABlk} {O : Caller} {M : Means} (hM : M.Ok ⟨F, O⟩ ro) {v0 s1 v2 h r} (ho : O 50 [v0, (.s s1), v2] h = none) (hr : g50 M ro v0 s1 v2 ⟨h, h.length, h.length⟩ = some r) : callX ⟨F, O⟩ ro 50 [v0, (.s s1), v2] h = some r := by
  refine callX_of (F := ⟨F, O⟩) (fn := fn50) (g := g50 M ro v0 s1 v2) ho rfl rfl hr ?_
  clear ho
  clear hr
  intro m0 t0 ht hr
  have g0 : t0.get 0 = v0 := ht 0
  have g1 : t0.get 1 = (.s s1) := ht 1
  have g2 : t0.get 2 = v2 := ht 2
  clear ht
  unfold g50 at hr
  refine w_seq (w_ops (wo_step (v := (AVal.s [])) (s_pure (p_mv rfl)) (wo_nil (nx_norm (w_seq (w_ops ?_))))))
  obtain ⟨v7, m_1, e7, z1⟩ := bindP_inv hr
  refine wo_step (s_al e7) (wo_nil (nx_norm (w_seq (w_seq (w_ops (wo_step (s_pure (p_mv g0)) (wo_step (s_pure (p_mv g1)) (wo_step (s_pure (p_mv g2)) ?_))))))))
  obtain ⟨v12, m_2, e12, z2⟩ := bindP_inv z1
  refine wo_step (s_call (mc rfl (mc rfl (mc rfl (mc rfl mn)))) (callM_le hM.call e12)) (wo_nil (nx_norm ?_))
  refine w_block ?_
  refine w_rngK hM.call rfl z2 ⟨trivial, gl rfl⟩ ?_
  clear z2
  intro ex m_7 hr
  rcases onE_inv hr with ⟨rfl, z3⟩ | ⟨rfl, z3⟩ | ⟨ix, rfl, z3⟩
  · refine bk_norm ?_
    refine nx_norm (w_seq (w_ops ?_))
    obtain ⟨v18, e18, z4⟩ := bindO_inv z3
    refine wo_step (s_ld rfl e18) ?_
    obtain ⟨v19, e19, z5⟩ := bindO_inv z4
    obtain ⟨s19, rfl, z6⟩ := asS_inv z5
    refine wo_step (s_bts rfl e19) (wo_step (v := (.s s19)) (s_pure (p_mv rfl)) (wo_nil (nx_norm ?_)))
    refine w_ret ?_
    exact qf ret_ok (rt rfl rn) z6
  · cases z3
  · cases z3
/- dibber/dibberref03.table -/
abbrev g51_I0 (v0 : AVal) (x1 : Int) (s : AVal × Int × Mm) (m1 : Mm) (t1 : Tr) : Prop :=
  match s with
  | (v5, x6, m_1) => m_1 = m1 ∧ t1.get 5 = v5 ∧ t1.get 6 = (.i .i64 x6) ∧ t1.get 0 = v0 ∧ t1.get 1 = (.i .i64 x1)
abbrev g51_J0 (v0 : AVal) (x1 : Int) (o : (AVal × Mm)) (e : AExit) (m1 : Mm) (t1 : Tr) : Prop :=
  match o with
  | (y5, mo) => e = (.exit 0) ∧ mo = m1 ∧ t1.get 5 = y5
abbrev g51_I1 (v0 : AVal) (x1 : Int) (v5 : AVal) (x6 : Int) (v17 : AVal) (s : Int × Mm) (m1 : Mm) (t1 : Tr) : Prop :=
  match s with
  | (x8, m_3) => m_3 = m1 ∧ t1.get 8 = (.i .i64 x8) ∧ t1.get 0 = v0 ∧ t1.get 1 = (.i .i64 x1) ∧ t1.get 5 = v5 ∧ t1.get 6 = (.i .i64 x6) ∧ t1.get 7 = v17
abbrev g51_J1 (v0 : AVal) (x1 : Int) (v5 : AVal) (x6 : Int) (v17 : AVal) (o : Mm) (e : AExit) (m1 : Mm) (t1 : Tr) : Prop :=
  match o with
  | mo => e = (.exit 2) ∧ mo = m1 ∧ t1.get 0 = v0 ∧ t1.get 1 = (.i .i64 x1) ∧ t1.get 5 = v5 ∧ t1.get 6 = (.i .i64 x6) ∧ t1.get 7 = v17
abbrev g51_J2 (v0 : AVal) (x1 : Int) (v5 : AVal) (x6 : Int) (v17 : AVal) (x8 : Int) (o : Mm) (e : AExit) (m1 : Mm) (t1 : Tr) : Prop :=
  match o with
  | mo => e = .norm ∧ mo = m1 ∧ t1.get 0 = v0 ∧ t1.get 1 = (.i .i64 x1) ∧ t1.get 5 = v5 ∧ t1.get 6 = (.i .i64 x6) ∧ t1.get 7 = v17 ∧ t1.get 8 = (.i .i64 x8)
abbrev g51_I3 (v0 : AVal) (x1 : Int) (v5 : AVal) (x6 : Int) (v17 : AVal) (x8 : Int) (s : Int × Mm) (m1 : Mm) (t1 : Tr) : Prop :=
  match s with
  | (x9, m_5) => m_5 = m1 ∧ t1.get 9 = (.i .i64 x9) ∧ t1.get 0 = v0 ∧ t1.get 1 = (.i .i64 x1) ∧ t1.get 5 = v5 ∧ t1.get 6 = (.i .i64 x6) ∧ t1.get 7 = v17 ∧ t1.get 8 = (.i .i64 x8)
abbrev g51_J3 (v0 : AVal) (x1 : Int) (v5 : AVal) (x6 : Int) (v17 : AVal) (x8 : Int) (o : Mm) (e : AExit) (m1 : Mm) (t1 : Tr) : Prop :=
  match o with
  | mo => e = (.exit 4) ∧ mo = m1 ∧ t1.get 0 = v0 ∧ t1.get 1 = (.i .i64 x1) ∧ t1.get 5 = v5 ∧ t1.get 6 = (.i .i64 x6) ∧ t1.get 7 = v17 ∧ t1.get 8 = (.i .i64 x8)
def g51_b3 (M : Means) (ro : List ABlk) (v0 : AVal) (x1 : Int) (v5 : AVal) (x6 : Int) (v17 : AVal) (x8 : Int) (x9 : Int) (m_5 : Mm) : Option ((Int × Mm) ⊕ (Mm)) :=
  bindO (evP .e (.ixS 1 (.c v0) (.c (.i .i64 x8)))) fun v32 =>
  bindO (ldM ro m_5 true 1 v32) fun v33 =>
  asS v33 fun s33 =>
  bindO (evP .e (.len true (.c (.s s33)))) fun v34 =>
  asI .i64 v34 fun x34 =>
  forceB (ltI x9 x34) fun c35 =>
  cond c35 (
    bindO (some (Mm.base m_5)) fun m_6 =>
    bindO (evP .e (.ixS 1 (.c v17) (.c (.i .i64 x8)))) fun v42 =>
    bindO (ldM ro m_6 true 1 v42) fun v43 =>
    asI .u64 v43 fun x43 =>
    forceI (wr .i64 (x6 - 1)) fun x46 =>
    bindO (evP .e (.ixS 1 (.c v5) (.c (.i .i64 x46)))) fun v47 =>
    bindO (ldM ro m_6 true 1 v47) fun v48 =>
    bindO (evP .e (.ixS 1 (.c v0) (.c (.i .i64 x8)))) fun v51 =>
    bindO (ldM ro m_6 true 1 v51) fun v52 =>
    asS v52 fun s52 =>
    bindO (evP .e (.ixStr (.c (.s s52)) (.c (.i .i64 x9)))) fun v54 =>
    asI .u8 v54 fun x54 =>
    forceI (wr .u8 (x54 - 97)) fun x55 =>
    forceI (wr .i64 x55) fun x56 =>
    bindO (evP .e (.ixS 1 (.c v48) (.c (.i .i64 x56)))) fun v57 =>
    bindO (ldM ro m_6 true 1 v57) fun v58 =>
    asI .u64 v58 fun x58 =>
    bindP (callM M.call m_6 87 [(.i .u64 x43), (.i .u64 x58)]) fun v59 m_7 =>
    asI .u64 v59 fun x59 =>
    bindO (evP .e (.ixS 1 (.c v17) (.c (.i .i64 x8)))) fun v60 =>
    bindP (stepM ro m_7 (.st 1 (.c v60) (.c (.i .u64 x59)))) fun vn_1 m_8 =>
    bindO (some (Mm.join m_5 m_8)) fun m_9 =>
    forceI (wr .i64 (x9 + 1)) fun x37 =>
    some (.inl (x37, m_9))) (
    some (.inr m_5))
def g51_b1 (M : Means) (ro : List ABlk) (v0 : AVal) (x1 : Int) (v5 : AVal) (x6 : Int) (v17 : AVal) (x8 : Int) (m_3 : Mm) : Option ((Int × Mm) ⊕ (Mm)) :=
  bindO (evP .e (.len false (.c v0))) fun v20 =>
  asI .i64 v20 fun x20 =>
  forceB (ltI x8 x20) fun c21 =>
  cond c21 (
    bindO (α := Mm) (
      forceB (eqI x6 0) fun c25 =>
      cond c25 (
        bindO (evP .e (.ixS 1 (.c v17) (.c (.i .i64 x8)))) fun v28 =>
        bindP (stepM ro m_3 (.st 1 (.c v28) (.c (.i .u64 1)))) fun vn m_4 =>
        some m_4) (
        bindO (M.loop (S := Int × Mm) (R := Mm) (fun s => g51_b3 M ro v0 x1 v5 x6 v17 x8 s.1 s.2) (0, m_3)) fun m_10 =>
        some m_10)) fun m_11 =>
    forceI (wr .i64 (x8 + 1)) fun x23 =>
    some (.inl (x23, m_11))) (
    some (.inr m_3))
def g51_b0 (M : Means) (ro : List ABlk) (v0 : AVal) (x1 : Int) (v5 : AVal) (x6 : Int) (m_1 : Mm) : Option ((AVal × Int × Mm) ⊕ ((AVal × Mm))) :=
  forceB (!ltI x1 x6) fun c12 =>
  cond c12 (
    bindO (evP .e (.len false (.c v0))) fun v16 =>
    asI .i64 v16 fun x16 =>
    bindP (stepM ro m_1 (.mk 60 1 8 [(AVal.i IntKind.u64 0)] (.c (.i .i64 x16)) (.c (.i .i64 x16)))) fun v17 m_2 =>
    bindO (M.loop (S := Int × Mm) (R := Mm) (fun s => g51_b1 M ro v0 x1 v5 x6 v17 s.1 s.2) (0, m_2)) fun m_12 =>
    bindP (stepM ro m_12 (.bsl 68 1 [AVal.nsl] 1 [((0, 1), .c v17)])) fun v63 m_13 =>
    bindP (stepM ro m_13 (.app 68 1 24 [AVal.nsl] (.c v5) (.c v63))) fun v64 m_14 =>
    forceI (wr .i64 (x6 + 1)) fun x14 =>
    some (.inl (v64, x14, m_14))) (
    some (.inr (v5, m_1)))
def g51 (M : Means) (ro : List ABlk) (v0 : AVal) (x1 : Int) (m0 : Mm) : Option (AVal × Heap × Nat × Nat) :=
  bindO (M.loop (S := AVal × Int × Mm) (R := (AVal × Mm)) (fun s => g51_b0 M ro v0 x1 s.1 s.2.1 s.2.2) (AVal.nsl, 0, m0)) fun ⟨v5_1, m_15⟩ =>
  finM m0.h.length (tupA [v5_1]) m_15
theorem g51_ok {ro : List ABlk} {O : Caller} {M : Means} (hM : M.Ok ⟨F, O⟩ ro) {v0 x1 h r} (ho : O 51 [v0, (.i .i64 x1)] h = none) (hr : g51 M ro v0 x1 ⟨h, h.length, h.length⟩ = some r) : callX ⟨F, O⟩ ro 51 [v0, (.i .i64 x1)] h = some r := by
  refine callX_of (F := ⟨F, O⟩) (fn := fn51) (g := g51 M ro v0 x1) ho rfl rfl hr ?_
  clear ho
  clear hr
  intro m0 t0 ht hr
  have g0 : t0.get 0 = v0 := ht 0
  have g1 : t0.get 1 = (.i .i64 x1) := ht 1
  clear ht
  unfold g51 at hr
  refine w_seq (w_ops (wo_step (v := AVal.nsl) (s_pure (p_mv rfl)) (wo_nil (nx_norm (w_seq (w_ops (wo_step (v := AVal.nsl) (s_pure (p_mv rfl)) (wo_nil (nx_norm (w_seq (w_seq ?_)))))))))))
  refine w_ops (wo_step (v := (.i .i64 0)) (s_pure (p_mv rfl)) (wo_nil (nx_norm ?_)))
  refine w_block ?_
  obtain ⟨o_3, hl_2, z1⟩ := bindO_inv hr
  obtain ⟨n_2, hl_2⟩ := hM.loop _ _ _ hl_2
  refine jp_mono (w_loop _ (g51_I0 v0 x1) (g51_J0 v0 x1) ?_ n_2 _ _ _ _ hl_2 ⟨rfl, gl rfl, gl rfl, gl g0, gl g1⟩) ?_
  · clear z1 hl_2
    intro s mm_6 t_1 o hi hr
    obtain ⟨v5, x6, m_1⟩ := s
    obtain ⟨rfl, g5, g6, g0, g1⟩ := hi
    unfold g51_b0 at hr
    refine w_seq (w_seq (w_ops (wo_step (s_pure (p_mv g6)) (wo_step (s_pure (p_mv g1)) ?_))))
    obtain ⟨c12, e12, z2⟩ := forceB_inv hr
    refine wo_step (s_pure (p_bin rfl rfl (b_leq.trans (cb e12)))) (wo_nil (nx_norm ?_))
    rcases cond_inv z2 with ⟨rfl, z3⟩ | ⟨rfl, z3⟩
    · refine w_condT rfl ?_
      refine w_skip (nx_norm (w_seq ?_))
      refine w_block ?_
      refine w_seq (w_ops (wo_step (s_pure (p_mv g0)) ?_))
      obtain ⟨v16, e16, z4⟩ := bindO_inv z3
      obtain ⟨x16, rfl, z5⟩ := asI_inv z4
      refine wo_step (s_pure (o_len rfl e16)) ?_
      obtain ⟨v17, m_2, e17, z6⟩ := bindP_inv z5
      refine wo_step (s_mk rfl rfl e17) (wo_step (v := v17) (s_pure (p_mv rfl)) (wo_nil (nx_norm (w_seq (w_seq (w_ops (wo_step (v := (.i .i64 0)) (s_pure (p_mv rfl)) (wo_nil (nx_norm ?_)))))))))
      refine w_block ?_
      obtain ⟨o_2, hl_1, z7⟩ := bindO_inv z6
      obtain ⟨n_1, hl_1⟩ := hM.loop _ _ _ hl_1
      refine jp_mono (w_loop _ (g51_I1 v0 x1 v5 x6 v17) (g51_J1 v0 x1 v5 x6 v17) ?_ n_1 _ _ _ _ hl_1 ⟨rfl, gl rfl, gl g0, gl g1, gl g5, gl g6, gl rfl⟩) ?_
      · clear z7 hl_1
        intro s mm_4 t_2 o hi hr
        obtain ⟨x8, m_3⟩ := s
        obtain ⟨rfl, g8, g0, g1, g5, g6, g7⟩ := hi
        unfold g51_b1 at hr
        refine w_seq (w_seq (w_ops (wo_step (s_pure (p_mv g8)) (wo_step (s_pure (p_mv g0)) ?_))))
        obtain ⟨v20, e20, z8⟩ := bindO_inv hr
        obtain ⟨x20, rfl, z9⟩ := asI_inv z8
        refine wo_step (s_pure (o_len rfl e20)) ?_
        obtain ⟨c21, e21, z10⟩ := forceB_inv z9
        refine wo_step (s_pure (p_bin rfl rfl (b_lss.trans (cb e21)))) (wo_nil (nx_norm ?_))
        rcases cond_inv z10 with ⟨rfl, z11⟩ | ⟨rfl, z11⟩
        · refine w_condT rfl ?_
          refine w_skip (nx_norm (w_seq ?_))
          obtain ⟨o, z12, hk⟩ := bindO_inv z11
          refine jp_mono (J := g51_J2 v0 x1 v5 x6 v17 x8 o) ?_ ?_
          · clear hk
            refine w_block ?_
            refine w_seq (w_seq (w_ops (wo_step (s_pure (p_mv g6)) ?_)))
            obtain ⟨c25, e25, z13⟩ := forceB_inv z12
            refine wo_step (s_pure (p_bin rfl rfl (b_eql.trans (cb e25)))) (wo_nil (nx_norm ?_))
            rcases cond_inv z13 with ⟨rfl, z14⟩ | ⟨rfl, z14⟩
            · refine w_condT rfl ?_
              refine w_seq (w_ops (wo_step (s_pure (p_mv g7)) (wo_step (s_pure (p_mv g8)) ?_)))
              obtain ⟨v28, e28, z15⟩ := bindO_inv z14
              refine wo_step (s_pure (o_ixS rfl rfl e28)) ?_
              obtain ⟨vn, m_4, en, z16⟩ := bindP_inv z15
              refine wo_stepN (s_st rfl rfl en) ?_
              refine wo_nil (nx_norm ?_)
              refine w_exit ?_
              refine nx_exit ?_
              refine bk_hit ?_
              cases z16
              exact ⟨_, _, rfl, rfl, rfl, gl g0, gl g1, gl g5, gl g6, gl g7, gl g8⟩
            · refine w_condF rfl ?_
              refine w_skip (nx_norm (w_seq (w_ops (wo_step (v := (.i .i64 0)) (s_pure (p_mv rfl)) (wo_nil (nx_norm ?_))))))
              refine w_block ?_
              obtain ⟨o_1, hl, z17⟩ := bindO_inv z14
              obtain ⟨n, hl⟩ := hM.loop _ _ _ hl
              refine jp_mono (w_loop _ (g51_I3 v0 x1 v5 x6 v17 x8) (g51_J3 v0 x1 v5 x6 v17 x8) ?_ n _ _ _ _ hl ⟨rfl, gl rfl, gl g0, gl g1, gl g5, gl g6, gl g7, gl g8⟩) ?_
              · clear z17 hl
                intro s mm_1 t_3 o hi hr
                obtain ⟨x9, m_5⟩ := s
                obtain ⟨rfl, g9, g0, g1, g5, g6, g7, g8⟩ := hi
                unfold g51_b3 at hr
                refine w_seq (w_seq (w_ops (wo_step (s_pure (p_mv g9)) (wo_step (s_pure (p_mv g0)) (wo_step (s_pure (p_mv g8)) ?_)))))
                obtain ⟨v32, e32, z18⟩ := bindO_inv hr
                refine wo_step (s_pure (o_ixS rfl rfl e32)) ?_
                obtain ⟨v33, e33, z19⟩ := bindO_inv z18
                obtain ⟨s33, rfl, z20⟩ := asS_inv z19
                refine wo_step (s_ld rfl e33) ?_
                obtain ⟨v34, e34, z21⟩ := bindO_inv z20
                obtain ⟨x34, rfl, z22⟩ := asI_inv z21
                refine wo_step (s_pure (o_len rfl e34)) ?_
                obtain ⟨c35, e35, z23⟩ := forceB_inv z22
                refine wo_step (s_pure (p_bin rfl rfl (b_lss.trans (cb e35)))) (wo_nil (nx_norm ?_))
                rcases cond_inv z23 with ⟨rfl, z24⟩ | ⟨rfl, z24⟩
                · refine w_condT rfl ?_
                  refine w_skip (nx_norm (w_seq ?_))
                  refine w_block ?_
                  obtain ⟨m_6, ef, z25⟩ := bindO_inv z24
                  refine w_flt (af := false) rfl ef ?_
                  refine wf_step (v := v17) (f_P rfl (s_pure (p_mv g7))) ?_
                  refine wf_step (v := (.i .i64 x8)) (f_P rfl (s_pure (p_mv g8))) ?_
                  refine wf_step (v := v17) (f_P rfl (s_pure (p_mv g7))) ?_
                  refine wf_step (v := (.i .i64 x8)) (f_P rfl (s_pure (p_mv g8))) ?_
                  obtain ⟨v42, e42, z26⟩ := bindO_inv z25
                  refine wf_step (v := v42) (f_P rfl (s_pure (o_ixS rfl rfl e42))) ?_
                  obtain ⟨v43, e43, z27⟩ := bindO_inv z26
                  obtain ⟨x43, rfl, z28⟩ := asI_inv z27
                  refine wf_step (v := (.i .u64 x43)) (f_P rfl (s_ld rfl e43)) ?_
                  refine wf_step (v := v5) (f_P rfl (s_pure (p_mv g5))) ?_
                  refine wf_step (v := (.i .i64 x6)) (f_P rfl (s_pure (p_mv g6))) ?_
                  obtain ⟨x46, e46, z29⟩ := forceI_inv z28
                  refine wf_step (v := (.i .i64 x46)) (f_P rfl (s_pure (p_bin rfl rfl (b_sub.trans (ci e46))))) ?_
                  obtain ⟨v47, e47, z30⟩ := bindO_inv z29
                  refine wf_step (v := v47) (f_P rfl (s_pure (o_ixS rfl rfl e47))) ?_
                  obtain ⟨v48, e48, z31⟩ := bindO_inv z30
                  refine wf_step (v := v48) (f_P rfl (s_ld rfl e48)) ?_
                  refine wf_step (v := v0) (f_P rfl (s_pure (p_mv g0))) ?_
                  refine wf_step (v := (.i .i64 x8)) (f_P rfl (s_pure (p_mv g8))) ?_
                  obtain ⟨v51, e51, z32⟩ := bindO_inv z31
                  refine wf_step (v := v51) (f_P rfl (s_pure (o_ixS rfl rfl e51))) ?_
                  obtain ⟨v52, e52, z33⟩ := bindO_inv z32
                  obtain ⟨s52, rfl, z34⟩ := asS_inv z33
                  refine wf_step (v := (.s s52)) (f_P rfl (s_ld rfl e52)) ?_
                  refine wf_step (v := (.i .i64 x9)) (f_P rfl (s_pure (p_mv g9))) ?_
                  obtain ⟨v54, e54, z35⟩ := bindO_inv z34
                  obtain ⟨x54, rfl, z36⟩ := asI_inv z35
                  refine wf_step (v := (.i .u8 x54)) (f_P rfl (s_pure (o_ixStr rfl rfl e54))) ?_
                  obtain ⟨x55, e55, z37⟩ := forceI_inv z36
                  refine wf_step (v := (.i .u8 x55)) (f_P rfl (s_pure (p_bin rfl rfl (b_sub.trans (ci e55))))) ?_
                  obtain ⟨x56, e56, z38⟩ := forceI_inv z37
                  refine wf_step (v := (.i .i64 x56)) (f_P rfl (s_pure ((p_conv rfl).trans (ci e56)))) ?_
                  obtain ⟨v57, e57, z39⟩ := bindO_inv z38
                  refine wf_step (v := v57) (f_P rfl (s_pure (o_ixS rfl rfl e57))) ?_
                  obtain ⟨v58, e58, z40⟩ := bindO_inv z39
                  obtain ⟨x58, rfl, z41⟩ := asI_inv z40
                  refine wf_step (v := (.i .u64 x58)) (f_P rfl (s_ld rfl e58)) ?_
                  obtain ⟨v59, m_7, e59, z42⟩ := bindP_inv z41
                  obtain ⟨x59, rfl, z43⟩ := asI_inv z42
                  refine wf_step (v := (.i .u64 x59)) (f_N (s_call (mc rfl (mc rfl mn)) (callM_le hM.call e59))) ?_
                  obtain ⟨v60, e60, z44⟩ := bindO_inv z43
                  refine wf_step (v := v60) (f_P rfl (s_pure (o_ixS rfl rfl e60))) ?_
                  obtain ⟨vn_1, m_8, en_1, z45⟩ := bindP_inv z44
                  refine wf_stepN (f_N (s_st rfl rfl en_1)) ?_
                  obtain ⟨m_9, ef_1, z46⟩ := bindO_inv z45
                  refine wf_end ef_1 ?_
                  refine bk_norm ?_
                  refine nx_norm (w_ops (wo_step (s_pure (p_mv g9)) ?_))
                  obtain ⟨x37, e37, z47⟩ := forceI_inv z46
                  refine wo_step (s_pure (p_bin rfl rfl (b_add.trans (ci e37)))) (wo_step (v := (.i .i64 x37)) (s_pure (p_mv rfl)) (wo_nil ?_))
                  cases z47
                  exact ⟨_, _, rfl, rfl, rfl, gl rfl, gl g0, gl g1, gl g5, gl g6, gl g7, gl g8⟩
                · refine w_condF rfl ?_
                  refine w_exit ?_
                  refine nx_exit ?_
                  cases z24
                  exact ⟨_, _, rfl, ne_norm_exit, rfl, rfl, gl g0, gl g1, gl g5, gl g6, gl g7, gl g8⟩
              · obtain ⟨m_10, ho⟩ : ∃ z, z = o_1 := ⟨_, rfl⟩
                subst ho
                rintro _ mm t_4 ⟨rfl, rfl, g0, g1, g5, g6, g7, g8⟩
                refine bk_hit ?_
                refine bk_norm ?_
                cases z17
                exact ⟨_, _, rfl, rfl, rfl, gl g0, gl g1, gl g5, gl g6, gl g7, gl g8⟩
          · clear z12
            have hr := hk
            clear hk
            obtain ⟨m_11, ho⟩ : ∃ z, z = o := ⟨_, rfl⟩
            subst ho
            rintro _ mm_2 t_5 ⟨rfl, rfl, g0, g1, g5, g6, g7, g8⟩
            refine nx_norm (w_ops (wo_step (s_pure (p_mv g8)) ?_))
            obtain ⟨x23, e23, z48⟩ := forceI_inv hr
            refine wo_step (s_pure (p_bin rfl rfl (b_add.trans (ci e23)))) (wo_step (v := (.i .i64 x23)) (s_pure (p_mv rfl)) (wo_nil ?_))
            cases z48
            exact ⟨_, _, rfl, rfl, rfl, gl rfl, gl g0, gl g1, gl g5, gl g6, gl g7⟩
        · refine w_condF rfl ?_
          refine w_exit ?_
          refine nx_exit ?_
          cases z11
          exact ⟨_, _, rfl, ne_norm_exit, rfl, rfl, gl g0, gl g1, gl g5, gl g6, gl g7⟩
      · obtain ⟨m_12, ho⟩ : ∃ z, z = o_2 := ⟨_, rfl⟩
        subst ho
        rintro _ mm_3 t_6 ⟨rfl, rfl, g0, g1, g5, g6, g7⟩
        refine bk_hit ?_
        refine nx_norm (w_ops (wo_step (s_pure (p_mv g5)) (wo_step (s_pure (p_mv g7)) ?_)))
        obtain ⟨v63, m_13, e63, z49⟩ := bindP_inv z7
        refine wo_step (s_bsl (qc rfl qn) e63) ?_
        obtain ⟨v64, m_14, e64, z50⟩ := bindP_inv z49
        refine wo_step (s_app rfl rfl e64) (wo_step (v := v64) (s_pure (p_mv rfl)) (wo_nil ?_))
        refine bk_norm ?_
        refine nx_norm (w_ops (wo_step (s_pure (p_mv g6)) ?_))
        obtain ⟨x14, e14, z51⟩ := forceI_inv z50
        refine wo_step (s_pure (p_bin rfl rfl (b_add.trans (ci e14)))) (wo_step (v := (.i .i64 x14)) (s_pure (p_mv rfl)) (wo_nil ?_))
        cases z51
        exact ⟨_, _, rfl, rfl, rfl, gl rfl, gl rfl, gl g0, gl g1⟩
    · refine w_condF rfl ?_
      refine w_exit ?_
      refine nx_exit ?_
      cases z3
      exact ⟨_, _, rfl, ne_norm_exit, rfl, rfl, gl g5⟩
  · obtain ⟨v5_1, m_15⟩ := o_3
    rintro _ mm_5 t_7 ⟨rfl, rfl, g5⟩
    refine bk_hit ?_
    refine nx_norm (w_seq (w_ops (wo_step (s_pure (p_mv g5)) (wo_step (v := v5_1) (s_pure (p_mv rfl)) (wo_nil (nx_norm ?_))))))
    refine w_ret ?_
    exact qf ret_ok (rt rfl rn) z1
/- dibber/dibberref03.long -/
abbrev g52_I0 (s0 : List UInt8) (v1 : AVal) (s : Int × Int × Mm) (m1 : Mm) (t1 : Tr) : Prop :=
  match s with
  | (x5, x6, m_1) => m_1 = m1 ∧ t1.get 5 = (.i .u64 x5) ∧ t1.get 6 = (.i .i64 x6) ∧ t1.get 0 = (.s s0) ∧ t1.get 1 = v1
abbrev g52_J0 (s0 : List UInt8) (v1 : AVal) (o : (Int × Mm)) (e : AExit) (m1 : Mm) (t1 : Tr) : Prop :=
  match o with
  | (y5, mo) => e = (.exit 0) ∧ mo = m1 ∧ t1.get 5 = (.i .u64 y5)
def g52_b0 (M : Means) (ro : List ABlk) (s0 : List UInt8) (v1 : AVal) (x5 : Int) (x6 : Int) (m_1 : Mm) : Option ((Int × Int × Mm) ⊕ ((Int × Mm))) :=
  bindO (evP .e (.len true (.c (.s s0)))) fun v9 =>
  asI .i64 v9 fun x9 =>
  forceB (ltI x6 x9) fun c10 =>
  cond c10 (
    bindO (evP .e (.ixStr (.c (.s s0)) (.c (.i .i64 x6)))) fun v17 =>
    asI .u8 v17 fun x17 =>
    forceI (wr .u8 (x17 - 97)) fun x18 =>
    forceI (wr .i64 x18) fun x19 =>
    bindO (evP .e (.ixS 1 (.c v1) (.c (.i .i64 x19)))) fun v20 =>
    bindO (ldM ro m_1 true 1 v20) fun v21 =>
    asI .u64 v21 fun x21 =>
    bindP (callM M.call m_1 87 [(.i .u64 x5), (.i .u64 x21)]) fun v22 m_2 =>
    asI .u64 v22 fun x22 =>
    forceI (wr .i64 (x6 + 1)) fun x12 =>
    some (.inl (x22, x12, m_2))) (
    some (.inr (x5, m_1)))
def g52 (M : Means) (ro : List ABlk) (s0 : List UInt8) (v1 : AVal) (m0 : Mm) : Option (AVal × Heap × Nat × Nat) :=
  bindO (M.loop (S := Int × Int × Mm) (R := (Int × Mm)) (fun s => g52_b0 M ro s0 v1 s.1 s.2.1 s.2.2) (0, 0, m0)) fun ⟨x5_1, m_3⟩ =>
  finM m0.h.length (tupA [(.i .u64 x5_1)]) m_3
theorem g52_ok {ro : List ABlk} {O : Caller} {M : Means} (hM : M.Ok ⟨F, O⟩ ro) {s0 v1 h r} (ho : O 52 [(.s s0), v1] h = none) (hr : g52 M ro s0 v1 ⟨h, h.length, h.length⟩ = some r) : callX ⟨F, O⟩ ro 52 [(.s s0), v1] h = some r := by
  refine callX_of (F := ⟨F, O⟩) (fn := fn52) (g := g52 M ro s0 v1) ho rfl rfl hr ?_
  clear ho
  clear hr
  intro m0 t0 ht hr
  have g0 : t0.get 0 = (.s s0) := ht 0
  have g1 : t0.get 1 = v1 := ht 1
  clear ht
  unfold g52 at hr
  refine w_seq (w_ops (wo_step (v := (.i .u64 0)) (s_pure (p_mv rfl)) (wo_nil (nx_norm (w_seq (w_ops (wo_step (v := (.i .u64 0)) (s_pure (p_mv rfl)) (wo_nil (nx_norm (w_seq (w_seq ?_)))))))))))
  refine w_ops (wo_step (v := (.i .i64 0)) (s_pure (p_mv rfl)) (wo_nil (nx_norm ?_)))
  refine w_block ?_
  obtain ⟨o, hl, z1⟩ := bindO_inv hr
  obtain ⟨n, hl⟩ := hM.loop _ _ _ hl
  refine jp_mono (w_loop _ (g52_I0 s0 v1) (g52_J0 s0 v1) ?_ n _ _ _ _ hl ⟨rfl, gl rfl, gl rfl, gl g0, gl g1⟩) ?_
  · clear z1 hl
    intro s mm_1 t_1 o hi hr
    obtain ⟨x5, x6, m_1⟩ := s
    obtain ⟨rfl, g5, g6, g0, g1⟩ := hi
    unfold g52_b0 at hr
    refine w_seq (w_seq (w_ops (wo_step (s_pure (p_mv g6)) (wo_step (s_pure (p_mv g0)) ?_))))
    obtain ⟨v9, e9, z2⟩ := bindO_inv hr
    obtain ⟨x9, rfl, z3⟩ := asI_inv z2
    refine wo_step (s_pure (o_len rfl e9)) ?_
    obtain ⟨c10, e10, z4⟩ := forceB_inv z3
    refine wo_step (s_pure (p_bin rfl rfl (b_lss.trans (cb e10)))) (wo_nil (nx_norm ?_))
    rcases cond_inv z4 with ⟨rfl, z5⟩ | ⟨rfl, z5⟩
    · refine w_condT rfl ?_
      refine w_skip (nx_norm (w_seq ?_))
      refine w_block ?_
      refine w_ops (wo_step (s_pure (p_mv g5)) (wo_step (s_pure (p_mv g1)) (wo_step (s_pure (p_mv g0)) (wo_step (s_pure (p_mv g6)) ?_))))
      obtain ⟨v17, e17, z6⟩ := bindO_inv z5
      obtain ⟨x17, rfl, z7⟩ := asI_inv z6
      refine wo_step (s_pure (o_ixStr rfl rfl e17)) ?_
      obtain ⟨x18, e18, z8⟩ := forceI_inv z7
      refine wo_step (s_pure (p_bin rfl rfl (b_sub.trans (ci e18)))) ?_
      obtain ⟨x19, e19, z9⟩ := forceI_inv z8
      refine wo_step (s_pure ((p_conv rfl).trans (ci e19))) ?_
      obtain ⟨v20, e20, z10⟩ := bindO_inv z9
      refine wo_step (s_pure (o_ixS rfl rfl e20)) ?_
      obtain ⟨v21, e21, z11⟩ := bindO_inv z10
      obtain ⟨x21, rfl, z12⟩ := asI_inv z11
      refine wo_step (s_ld rfl e21) ?_
      obtain ⟨v22, m_2, e22, z13⟩ := bindP_inv z12
      obtain ⟨x22, rfl, z14⟩ := asI_inv z13
      refine wo_step (s_call (mc rfl (mc rfl mn)) (callM_le hM.call e22)) (wo_step (v := (.i .u64 x22)) (s_pure (p_mv rfl)) (wo_nil ?_))
      refine bk_norm ?_
      refine nx_norm (w_ops (wo_step (s_pure (p_mv g6)) ?_))
      obtain ⟨x12, e12, z15⟩ := forceI_inv z14
      refine wo_step (s_pure (p_bin rfl rfl (b_add.trans (ci e12)))) (wo_step (v := (.i .i64 x12)) (s_pure (p_mv rfl)) (wo_nil ?_))
      cases z15
      exact ⟨_, _, rfl, rfl, rfl, gl rfl, gl rfl, gl g0, gl g1⟩
    · refine w_condF rfl ?_
      refine w_exit ?_
      refine nx_exit ?_
      cases z5
      exact ⟨_, _, rfl, ne_norm_exit, rfl, rfl, gl g5⟩
  · obtain ⟨x5_1, m_3⟩ := o
    rintro _ mm t_2 ⟨rfl, rfl, g5⟩
    refine bk_hit ?_
    refine nx_norm (w_seq (w_ops (wo_step (s_pure (p_mv g5)) (wo_step (v := (.i .u64 x5_1)) (s_pure (p_mv rfl)) (wo_nil (nx_norm ?_))))))
    refine w_ret ?_
    exact qf ret_ok (rt rfl rn) z1
/- dibber/dibberref03.down -/
abbrev g53_I0 (v0 : AVal) (v1 : AVal) (s2 : List UInt8) (x3 : Int) (s : AVal × Int × Mm) (m1 : Mm) (t1 : Tr) : Prop :=
  match s with
  | (v4_1, x11, m_2) => m_2 = m1 ∧ t1.get 4 = v4_1 ∧ t1.get 11 = (.i .i64 x11) ∧ t1.get 0 = v0 ∧ t1.get 1 = v1 ∧ t1.get 2 = (.s s2) ∧ t1.get 3 = (.i .i64 x3)
abbrev g53_J0 (v0 : AVal) (v1 : AVal) (s2 : List UInt8) (x3 : Int) (o : (AVal × Mm)) (e : AExit) (m1 : Mm) (t1 : Tr) : Prop :=
  match o with
  | (y4, mo) => e = (.exit 0) ∧ mo = m1 ∧ t1.get 4 = y4
abbrev g53_J1 (v0 : AVal) (v1 : AVal) (s2 : List UInt8) (x3 : Int) (x11 : Int) (o : (AVal × Mm)) (e : AExit) (m1 : Mm) (t1 : Tr) : Prop :=
  match o with
  | (y4, mo) => e = .norm ∧ mo = m1 ∧ t1.get 4 = y4 ∧ t1.get 0 = v0 ∧ t1.get 1 = v1 ∧ t1.get 2 = (.s s2) ∧ t1.get 3 = (.i .i64 x3) ∧ t1.get 11 = (.i .i64 x11)
def g53_b0 (M : Means) (ro : List ABlk) (v0 : AVal) (v1 : AVal) (s2 : List UInt8) (x3 : Int) (v4_1 : AVal) (x11 : Int) (m_2 : Mm) : Option ((AVal × Int × Mm) ⊕ ((AVal × Mm))) :=
  bindO (evP .e (.len true (.c (.s s2)))) fun v20 =>
  asI .i64 v20 fun x20 =>
  forceB (ltI x11 x20) fun c21 =>
  cond c21 (
    bindO (evP .e (.ixStr (.c (.s s2)) (.c (.i .i64 x11)))) fun v26 =>
    asI .u8 v26 fun x26 =>
    forceI (wr .u8 (x26 - 97)) fun x27 =>
    forceI (wr .i64 x27) fun x28 =>
    bindO (evP .e (.ixS 1 (.c v1) (.c (.i .i64 x3)))) fun v31 =>
    bindO (ldM ro m_2 true 1 v31) fun v32 =>
    bindO (evP .e (.ixS 1 (.c v32) (.c (.i .i64 x28)))) fun v34 =>
    bindO (ldM ro m_2 true 1 v34) fun v35 =>
    asI .u64 v35 fun x35 =>
    forceB (ltI 0 x35) fun c36 =>
    bindO (α := (AVal × Mm)) (
      cond c36 (
        bindO (evP .e (.ixS 1 (.c v0) (.c (.i .i64 x28)))) fun v41 =>
        bindO (ldM ro m_2 true 1 v41) fun v42 =>
        asS v42 fun s42 =>
        forceI (wr .i64 (x3 - 1)) fun x44 =>
        bindP (callM M.call m_2 53 [v0, v1, (.s s42), (.i .i64 x44), v4_1]) fun v46 m_3 =>
        some (v46, m_3)) (
        some (v4_1, m_2))) fun ⟨v4_2, m_4⟩ =>
    forceI (wr .i64 (x11 + 1)) fun x23 =>
    some (.inl (v4_2, x23, m_4))) (
    some (.inr (v4_1, m_2)))
def g53 (M : Means) (ro : List ABlk) (v0 : AVal) (v1 : AVal) (s2 : List UInt8) (x3 : Int) (v4 : AVal) (m0 : Mm) : Option (AVal × Heap × Nat × Nat) :=
  forceB (eqI x3 0) fun c14 =>
  cond c14 (
    bindP (stepM ro m0 (.app 5 1 1 [(AVal.i IntKind.u8 0)] (.c v4) (.c (.s s2)))) fun v17 m_1 =>
    finM m0.h.length (tupA [v17]) m_1) (
    bindO (M.loop (S := AVal × Int × Mm) (R := (AVal × Mm)) (fun s => g53_b0 M ro v0 v1 s2 x3 s.1 s.2.1 s.2.2) (v4, 0, m0)) fun ⟨v4_3, m_5⟩ =>
    finM m0.h.length (tupA [v4_3]) m_5)
theorem g53_ok {ro : List ABlk} {O : Caller} {M : Means} (hM : M.Ok ⟨F, O⟩ ro) {v0 v1 s2 x3 v4 h r} (ho : O 53 [v0, v1, (.s s2), (.i .i64 x3), v4] h = none) (hr : g53 M ro v0 v1 s2 x3 v4 ⟨h, h.length, h.length⟩ = some r) : callX ⟨F, O⟩ ro 53 [v0, v1, (.s s2), (.i .i64 x3), v4] h = some r := by
  refine callX_of (F := ⟨F, O⟩) (fn := fn53) (g := g53 M ro v0 v1 s2 x3 v4) ho rfl rfl hr ?_
  clear ho
  clear hr
  intro m0 t0 ht hr
  have g0 : t0.get 0 = v0 := ht 0
  have g1 : t0.get 1 = v1 := ht 1
  have g2 : t0.get 2 = (.s s2) := ht 2
  have g3 : t0.get 3 = (.i .i64 x3) := ht 3
  have g4 : t0.get 4 = v4 := ht 4
  clear ht
  unfold g53 at hr
  refine w_seq (w_ops (wo_step (v := AVal.nsl) (s_pure (p_mv rfl)) (wo_nil (nx_norm (w_seq (w_seq (w_ops (wo_step (s_pure (p_mv g3)) ?_))))))))
  obtain ⟨c14, e14, z1⟩ := forceB_inv hr
  refine wo_step (s_pure (p_bin rfl rfl (b_eql.trans (cb e14)))) (wo_nil (nx_norm ?_))
  rcases cond_inv z1 with ⟨rfl, z2⟩ | ⟨rfl, z2⟩
  · refine w_condT rfl ?_
    refine w_seq (w_ops (wo_step (s_pure (p_mv g4)) (wo_step (s_pure (p_mv g2)) ?_)))
    obtain ⟨v17, m_1, e17, z3⟩ := bindP_inv z2
    refine wo_step (s_app rfl rfl e17) (wo_step (v := v17) (s_pure (p_mv rfl)) (wo_nil (nx_norm ?_)))
    refine w_ret ?_
    refine nx_ret ?_
    exact qf ret_ok (rt rfl rn) z3
  · refine w_condF rfl ?_
    refine w_skip (nx_norm (w_seq (w_seq (w_ops (wo_step (v := (.i .i64 0)) (s_pure (p_mv rfl)) (wo_nil (nx_norm ?_)))))))
    refine w_block ?_
    obtain ⟨o_1, hl, z4⟩ := bindO_inv z2
    obtain ⟨n, hl⟩ := hM.loop _ _ _ hl
    refine jp_mono (w_loop _ (g53_I0 v0 v1 s2 x3) (g53_J0 v0 v1 s2 x3) ?_ n _ _ _ _ hl ⟨rfl, gl g4, gl rfl, gl g0, gl g1, gl g2, gl g3⟩) ?_
    · clear z4 hl
      intro s mm_2 t_1 o hi hr
      obtain ⟨v4_1, x11, m_2⟩ := s
      obtain ⟨rfl, g4, g11, g0, g1, g2, g3⟩ := hi
      unfold g53_b0 at hr
      refine w_seq (w_seq (w_ops (wo_step (s_pure (p_mv g11)) (wo_step (s_pure (p_mv g2)) ?_))))
      obtain ⟨v20, e20, z5⟩ := bindO_inv hr
      obtain ⟨x20, rfl, z6⟩ := asI_inv z5
      refine wo_step (s_pure (o_len rfl e20)) ?_
      obtain ⟨c21, e21, z7⟩ := forceB_inv z6
      refine wo_step (s_pure (p_bin rfl rfl (b_lss.trans (cb e21)))) (wo_nil (nx_norm ?_))
      rcases cond_inv z7 with ⟨rfl, z8⟩ | ⟨rfl, z8⟩
      · refine w_condT rfl ?_
        refine w_skip (nx_norm (w_seq ?_))
        refine w_block ?_
        refine w_seq (w_ops (wo_step (s_pure (p_mv g2)) (wo_step (s_pure (p_mv g11)) ?_)))
        obtain ⟨v26, e26, z9⟩ := bindO_inv z8
        obtain ⟨x26, rfl, z10⟩ := asI_inv z9
        refine wo_step (s_pure (o_ixStr rfl rfl e26)) ?_
        obtain ⟨x27, e27, z11⟩ := forceI_inv z10
        refine wo_step (s_pure (p_bin rfl rfl (b_sub.trans (ci e27)))) ?_
        obtain ⟨x28, e28, z12⟩ := forceI_inv z11
        refine wo_step (s_pure ((p_conv rfl).trans (ci e28))) (wo_step (v := (.i .i64 x28)) (s_pure (p_mv rfl)) (wo_nil (nx_norm (w_seq (w_ops (wo_step (s_pure (p_mv g1)) (wo_step (s_pure (p_mv g3)) ?_)))))))
        obtain ⟨v31, e31, z13⟩ := bindO_inv z12
        refine wo_step (s_pure (o_ixS rfl rfl e31)) ?_
        obtain ⟨v32, e32, z14⟩ := bindO_inv z13
        refine wo_step (s_ld rfl e32) (wo_step (v := (.i .i64 x28)) (s_pure (p_mv rfl)) ?_)
        obtain ⟨v34, e34, z15⟩ := bindO_inv z14
        refine wo_step (s_pure (o_ixS rfl rfl e34)) ?_
        obtain ⟨v35, e35, z16⟩ := bindO_inv z15
        obtain ⟨x35, rfl, z17⟩ := asI_inv z16
        refine wo_step (s_ld rfl e35) ?_
        obtain ⟨c36, e36, z18⟩ := forceB_inv z17
        refine wo_step (s_pure (p_bin rfl rfl (b_gtr.trans (cb e36)))) (wo_nil (nx_norm ?_))
        obtain ⟨o, z19, hk⟩ := bindO_inv z18
        refine jp_mono (J := g53_J1 v0 v1 s2 x3 x11 o) ?_ ?_
        · clear hk
          rcases cond_inv z19 with ⟨rfl, z20⟩ | ⟨rfl, z20⟩
          · refine w_condT rfl ?_
            refine w_ops (wo_step (s_pure (p_mv g0)) (wo_step (s_pure (p_mv g1)) (wo_step (s_pure (p_mv g0)) (wo_step (v := (.i .i64 x28)) (s_pure (p_mv rfl)) ?_))))
            obtain ⟨v41, e41, z21⟩ := bindO_inv z20
            refine wo_step (s_pure (o_ixS rfl rfl e41)) ?_
            obtain ⟨v42, e42, z22⟩ := bindO_inv z21
            obtain ⟨s42, rfl, z23⟩ := asS_inv z22
            refine wo_step (s_ld rfl e42) (wo_step (s_pure (p_mv g3)) ?_)
            obtain ⟨x44, e44, z24⟩ := forceI_inv z23
            refine wo_step (s_pure (p_bin rfl rfl (b_sub.trans (ci e44)))) (wo_step (s_pure (p_mv g4)) ?_)
            obtain ⟨v46, m_3, e46, z25⟩ := bindP_inv z24
            refine wo_step (s_call (mc rfl (mc rfl (mc rfl (mc rfl (mc rfl mn))))) (callM_le hM.call e46)) (wo_step (v := v46) (s_pure (p_mv rfl)) (wo_nil ?_))
            cases z25
            exact ⟨_, _, rfl, rfl, rfl, gl rfl, gl g0, gl g1, gl g2, gl g3, gl g11⟩
          · refine w_condF rfl ?_
            refine w_skip ?_
            cases z20
            exact ⟨_, _, rfl, rfl, rfl, gl g4, gl g0, gl g1, gl g2, gl g3, gl g11⟩
        · clear z19
          have hr := hk
          clear hk
          obtain ⟨v4_2, m_4⟩ := o
          rintro _ mm t_2 ⟨rfl, rfl, g4, g0, g1, g2, g3, g11⟩
          refine bk_norm ?_
          refine nx_norm (w_ops (wo_step (s_pure (p_mv g11)) ?_))
          obtain ⟨x23, e23, z26⟩ := forceI_inv hr
          refine wo_step (s_pure (p_bin rfl rfl (b_add.trans (ci e23)))) (wo_step (v := (.i .i64 x23)) (s_pure (p_mv rfl)) (wo_nil ?_))
          cases z26
          exact ⟨_, _, rfl, rfl, rfl, gl g4, gl rfl, gl g0, gl g1, gl g2, gl g3⟩
      · refine w_condF rfl ?_
        refine w_exit ?_
        refine nx_exit ?_
        cases z8
        exact ⟨_, _, rfl, ne_norm_exit, rfl, rfl, gl g4⟩
    · obtain ⟨v4_3, m_5⟩ := o_1
      rintro _ mm_1 t_3 ⟨rfl, rfl, g4⟩
      refine bk_hit ?_
      refine nx_norm (w_seq (w_ops (wo_step (s_pure (p_mv g4)) (wo_step (v := v4_3) (s_pure (p_mv rfl)) (wo_nil (nx_norm ?_))))))
      refine w_ret ?_
      exact qf ret_ok (rt rfl rn) z4
/- dibber/vine.part -/

def g54 (M : Means) (ro : List ABlk) (x0 : Int) (m0 : Mm) : Option (AVal × Heap × Nat × Nat) :=
  forceI (wr .i64 x0) fun x4 =>
  forceI (wr .i64 (x4 - 97)) fun x5 =>
  finM m0.h.length (tupA [(.i .i64 x5)]) m0
theorem g54_ok {ro : List ABlk} {O : Caller} {M : Means} (hM : M.Ok ⟨F, O⟩ ro) {x0 h r} (ho : O 54 [(.i .u8 x0)] h = none) (hr : g54 M ro x0 ⟨h, h.length, h.length⟩ = some r) : callX ⟨F, O⟩ ro 54 [(.i .u8 x0)] h = some r := by
  refine callX_of (F := ⟨F, O⟩) (fn := fn54) (g := g54 M ro x0) ho rfl rfl hr ?_
  clear ho
  clear hr
  intro m0 t0 ht hr
  have g0 : t0.get 0 = (.i .u8 x0) := ht 0
  clear ht
  unfold g54 at hr
  refine w_seq (w_ops (wo_step (v := (.i .i64 0)) (s_pure (p_mv rfl)) (wo_nil (nx_norm (w_seq (w_ops (wo_step (s_pure (p_mv g0)) ?_)))))))
  obtain ⟨x4, e4, z1⟩ := forceI_inv hr
  refine wo_step (s_pure ((p_conv rfl).trans (ci e4))) ?_
  obtain ⟨x5, e5, z2⟩ := forceI_inv z1
  refine wo_step (s_pure (p_bin rfl rfl (b_sub.trans (ci e5)))) (wo_step (v := (.i .i64 x5)) (s_pure (p_mv rfl)) (wo_nil (nx_norm ?_)))
  refine w_ret ?_
  exact qf ret_ok (rt rfl rn) z2
/- dibber/vine.matrix[dibber/vine.many] -/
abbrev g55_I0 (v0 : AVal) (v1 : AVal) (v11 : AVal) (x13 : Int) (s : Int × Mm) (m1 : Mm) (t1 : Tr) : Prop :=
  match s with
  | (x14, m_2) => m_2 = m1 ∧ t1.get 14 = (.i .i64 x14) ∧ t1.get 0 = v0 ∧ t1.get 1 = v1 ∧ t1.get 5 = v11 ∧ t1.get 13 = (.i .i64 x13)
abbrev g55_J0 (v0 : AVal) (v1 : AVal) (v11 : AVal) (x13 : Int) (o : Mm) (e : AExit) (m1 : Mm) (t1 : Tr) : Prop :=
  match o with
  | mo => e = (.exit 0) ∧ mo = m1 ∧ t1.get 5 = v11
abbrev g55_I1 (v0 : AVal) (v1 : AVal) (v11 : AVal) (x14 : Int) (x13 : Int) (x18 : Int) (s : Int × Mm) (m1 : Mm) (t1 : Tr) : Prop :=
  match s with
  | (x19, m_3) => m_3 = m1 ∧ t1.get 19 = (.i .i64 x19) ∧ t1.get 0 = v0 ∧ t1.get 1 = v1 ∧ t1.get 5 = v11 ∧ t1.get 6 = (.i .i64 x14) ∧ t1.get 13 = (.i .i64 x13) ∧ t1.get 14 = (.i .i64 x14) ∧ t1.get 17 = v0 ∧ t1.get 18 = (.i .i64 x18)
abbrev g55_J1 (v0 : AVal) (v1 : AVal) (v11 : AVal) (x14 : Int) (x13 : Int) (x18 : Int) (o : Mm) (e : AExit) (m1 : Mm) (t1 : Tr) : Prop :=
  match o with
  | mo => e = (.exit 2) ∧ mo = m1 ∧ t1.get 0 = v0 ∧ t1.get 1 = v1 ∧ t1.get 5 = v11 ∧ t1.get 13 = (.i .i64 x13) ∧ t1.get 14 = (.i .i64 x14)
def g55_b1 (M : Means) (ro : List ABlk) (v0 : AVal) (v1 : AVal) (v11 : AVal) (x14 : Int) (x13 : Int) (x18 : Int) (x19 : Int) (m_3 : Mm) : Option ((Int × Mm) ⊕ (Mm)) :=
  forceB (ltI x19 x18) fun c20 =>
  cond c20 (
    bindO (evP .e (.ixS 1 (.c v0) (.c (.i .i64 x19)))) fun v21 =>
    bindO (ldM ro m_3 true 1 v21) fun v22 =>
    asS v22 fun s22 =>
    bindO (some (Mm.base m_3)) fun m_4 =>
    bindO (evP .e (.ixS 1 (.c v11) (.c (.i .i64 x14)))) fun v27 =>
    bindO (ldA ro m_3.h true 1 v27) fun v28 =>
    bindP (callM M.call m_4 89 [(.i .i64 x14)]) fun v32 m_5 =>
    asS v32 fun s32 =>
    chk (!Nat.blt m_5.lw m_3.h.length) <|
    bindP (callM M.call m_5 88 [(.s s22), (.s s32)]) fun v33 m_6 =>
    asI .i64 v33 fun x33 =>
    chk (!Nat.blt m_6.lw m_3.h.length) <|
    bindP (callvM M.call m_6 v1 [(.i .i64 x33)]) fun v34 m_7 =>
    asI .u64 v34 fun x34 =>
    chk (!Nat.blt m_7.lw m_3.h.length) <|
    bindP (stepM ro m_7 (.bsl 61 1 [(AVal.i IntKind.u64 0)] 1 [((0, 1), .c (.i .u64 x34))])) fun v35 m_8 =>
    chk (!Nat.blt m_8.lw m_3.h.length) <|
    bindP (stepM ro m_8 (.app 61 1 8 [(AVal.i IntKind.u64 0)] (.c v28) (.c v35))) fun v36 m_9 =>
    bindO (evP .e (.ixS 1 (.c v11) (.c (.i .i64 x14)))) fun v37 =>
    bindP (stepM ro m_9 (.st 1 (.c v37) (.c v36))) fun vn m_10 =>
    bindO (some (Mm.join m_3 m_10)) fun m_11 =>
    forceI (wr .i64 (x19 + 1)) fun x38 =>
    some (.inl (x38, m_11))) (
    some (.inr m_3))
def g55_b0 (M : Means) (ro : List ABlk) (v0 : AVal) (v1 : AVal) (v11 : AVal) (x13 : Int) (x14 : Int) (m_2 : Mm) : Option ((Int × Mm) ⊕ (Mm)) :=
  forceB (ltI x14 x13) fun c15 =>
  cond c15 (
    bindO (evP .e (.len false (.c v0))) fun v18 =>
    asI .i64 v18 fun x18 =>
    bindO (M.loop (S := Int × Mm) (R := Mm) (fun s => g55_b1 M ro v0 v1 v11 x14 x13 x18 s.1 s.2) (0, m_2)) fun m_12 =>
    forceI (wr .i64 (x14 + 1)) fun x39 =>
    some (.inl (x39, m_12))) (
    some (.inr m_2))
def g55 (M : Means) (ro : List ABlk) (v0 : AVal) (v1 : AVal) (m0 : Mm) : Option (AVal × Heap × Nat × Nat) :=
  bindO (evP .e (.len false (.c v0))) fun v10 =>
  asI .i64 v10 fun x10 =>
  bindP (stepM ro m0 (.mk 63 1 24 [AVal.nsl] (.c (.i .i64 x10)) (.c (.i .i64 x10)))) fun v11 m_1 =>
  bindO (evP .e (.len false (.c v0))) fun v13 =>
  asI .i64 v13 fun x13 =>
  bindO (M.loop (S := Int × Mm) (R := Mm) (fun s => g55_b0 M ro v0 v1 v11 x13 s.1 s.2) (0, m_1)) fun m_13 =>
  finM m0.h.length (tupA [v11]) m_13
theorem g55_ok {ro : List ABlk} {O : Caller} {M : Means} (hM : M.Ok ⟨F, O⟩ ro) {v0 v1 h r} (ho : O 55 [v0, v1] h = none) (hr : g55 M ro v0 v1 ⟨h, h.length, h.length⟩ = some r) : callX ⟨F, O⟩ ro 55 [v0, v1] h = some r := by
  refine callX_of (F := ⟨F, O⟩) (fn := fn55) (g := g55 M ro v0 v1) ho rfl rfl hr ?_
  clear ho
  clear hr
  intro m0 t0 ht hr
  have g0 : t0.get 0 = v0 := ht 0
  have g1 : t0.get 1 = v1 := ht 1
  clear ht
  unfold g55 at hr
  refine w_seq (w_ops (wo_step (v := AVal.nsl) (s_pure (p_mv rfl)) (wo_nil (nx_norm (w_seq (w_ops (wo_step (s_pure (p_mv g0)) ?_)))))))
  obtain ⟨v10, e10, z1⟩ := bindO_inv hr
  obtain ⟨x10, rfl, z2⟩ := asI_inv z1
  refine wo_step (s_pure (o_len rfl e10)) ?_
  obtain ⟨v11, m_1, e11, z3⟩ := bindP_inv z2
  refine wo_step (s_mk rfl rfl e11) (wo_step (v := v11) (s_pure (p_mv rfl)) (wo_nil (nx_norm (w_seq (w_seq (w_ops (wo_step (s_pure (p_mv g0)) ?_)))))))
  obtain ⟨v13, e13, z4⟩ := bindO_inv z3
  obtain ⟨x13, rfl, z5⟩ := asI_inv z4
  refine wo_step (s_pure (o_len rfl e13)) (wo_step (v := (.i .i64 0)) (s_pure (p_mv rfl)) (wo_nil (nx_norm ?_)))
  refine w_block ?_
  obtain ⟨o_1, hl_1, z6⟩ := bindO_inv z5
  obtain ⟨n_1, hl_1⟩ := hM.loop _ _ _ hl_1
  refine jp_mono (w_loop _ (g55_I0 v0 v1 v11 x13) (g55_J0 v0 v1 v11 x13) ?_ n_1 _ _ _ _ hl_1 ⟨rfl, gl rfl, gl g0, gl g1, gl rfl, gl rfl⟩) ?_
  · clear z6 hl_1
    intro s mm_3 t_1 o hi hr
    obtain ⟨x14, m_2⟩ := s
    obtain ⟨rfl, g14, g0, g1, g5, g13⟩ := hi
    unfold g55_b0 at hr
    refine w_seq (w_ops ?_)
    obtain ⟨c15, e15, z7⟩ := forceB_inv hr
    refine wo_step (s_pure (p_bin g14 g13 (b_lss.trans (cb e15)))) (wo_nil (nx_norm (w_seq ?_)))
    rcases cond_inv z7 with ⟨rfl, z8⟩ | ⟨rfl, z8⟩
    · refine w_condT rfl ?_
      refine w_skip (nx_norm (w_seq ?_))
      refine w_block ?_
      refine w_seq (w_ops (wo_step (s_pure (p_mv g14)) (wo_step (v := (.i .i64 x14)) (s_pure (p_mv rfl)) (wo_nil (nx_norm (w_seq (w_ops (wo_step (s_pure (p_mv g0)) ?_))))))))
      obtain ⟨v18, e18, z9⟩ := bindO_inv z8
      obtain ⟨x18, rfl, z10⟩ := asI_inv z9
      refine wo_step (s_pure (o_len rfl e18)) (wo_step (v := (.i .i64 0)) (s_pure (p_mv rfl)) (wo_nil (nx_norm ?_)))
      refine w_block ?_
      obtain ⟨o, hl, z11⟩ := bindO_inv z10
      obtain ⟨n, hl⟩ := hM.loop _ _ _ hl
      refine jp_mono (w_loop _ (g55_I1 v0 v1 v11 x14 x13 x18) (g55_J1 v0 v1 v11 x14 x13 x18) ?_ n _ _ _ _ hl ⟨rfl, gl rfl, gl g0, gl g1, gl g5, gl rfl, gl g13, gl g14, gl rfl, gl rfl⟩) ?_
      · clear z11 hl
        intro s mm_1 t_2 o hi hr
        obtain ⟨x19, m_3⟩ := s
        obtain ⟨rfl, g19, g0, g1, g5, g6, g13, g14, g17, g18⟩ := hi
        unfold g55_b1 at hr
        refine w_seq (w_ops ?_)
        obtain ⟨c20, e20, z12⟩ := forceB_inv hr
        refine wo_step (s_pure (p_bin g19 g18 (b_lss.trans (cb e20)))) (wo_nil (nx_norm (w_seq ?_)))
        rcases cond_inv z12 with ⟨rfl, z13⟩ | ⟨rfl, z13⟩
        · refine w_condT rfl ?_
          refine w_skip (nx_norm (w_seq ?_))
          refine w_block ?_
          refine w_seq (w_ops ?_)
          obtain ⟨v21, e21, z14⟩ := bindO_inv z13
          refine wo_step (s_pure (o_ixS g17 g19 e21)) ?_
          obtain ⟨v22, e22, z15⟩ := bindO_inv z14
          obtain ⟨s22, rfl, z16⟩ := asS_inv z15
          refine wo_step (s_ld rfl e22) (wo_step (v := (.s s22)) (s_pure (p_mv rfl)) (wo_nil (nx_norm ?_)))
          obtain ⟨m_4, ef, z17⟩ := bindO_inv z16
          refine w_flt (af := true) rfl ef ?_
          refine wf_step (v := v11) (f_P rfl (s_pure (p_mv g5))) ?_
          refine wf_step (v := (.i .i64 x14)) (f_P rfl (s_pure (p_mv g6))) ?_
          refine wf_step (v := v11) (f_P rfl (s_pure (p_mv g5))) ?_
          refine wf_step (v := (.i .i64 x14)) (f_P rfl (s_pure (p_mv g6))) ?_
          obtain ⟨v27, e27, z18⟩ := bindO_inv z17
          refine wf_step (v := v27) (f_P rfl (s_pure (o_ixS rfl rfl e27))) ?_
          obtain ⟨v28, e28, z19⟩ := bindO_inv z18
          refine wf_step (v := v28) (f_ld rfl e28) ?_
          refine wf_step (v := v1) (f_P rfl (s_pure (p_mv g1))) ?_
          refine wf_step (v := (.s s22)) (f_P rfl (s_pure (p_mv rfl))) ?_
          refine wf_step (v := (.i .i64 x14)) (f_P rfl (s_pure (p_mv g6))) ?_
          obtain ⟨v32, m_5, e32, z20⟩ := bindP_inv z19
          obtain ⟨s32, rfl, z21⟩ := asS_inv z20
          obtain ⟨hc32, z22⟩ := chk_inv z21
          refine wf_step (v := (.s s32)) (f_M hc32 (s_call (mc rfl mn) (callM_le hM.call e32))) ?_
          obtain ⟨v33, m_6, e33, z23⟩ := bindP_inv z22
          obtain ⟨x33, rfl, z24⟩ := asI_inv z23
          obtain ⟨hc33, z25⟩ := chk_inv z24
          refine wf_step (v := (.i .i64 x33)) (f_M hc33 (s_call (mc rfl (mc rfl mn)) (callM_le hM.call e33))) ?_
          obtain ⟨v34, m_7, e34, z26⟩ := bindP_inv z25
          obtain ⟨x34, rfl, z27⟩ := asI_inv z26
          obtain ⟨hc34, z28⟩ := chk_inv z27
          refine wf_step (v := (.i .u64 x34)) (f_M hc34 (s_callv rfl (mc rfl mn) (callvM_le hM.call e34))) ?_
          obtain ⟨v35, m_8, e35, z29⟩ := bindP_inv z28
          obtain ⟨hc35, z30⟩ := chk_inv z29
          refine wf_step (v := v35) (f_M hc35 (s_bsl (qc rfl qn) e35)) ?_
          obtain ⟨v36, m_9, e36, z31⟩ := bindP_inv z30
          refine wf_step (v := v36) (f_F rfl (s_app rfl rfl e36)) ?_
          obtain ⟨v37, e37, z32⟩ := bindO_inv z31
          refine wf_step (v := v37) (f_P rfl (s_pure (o_ixS rfl rfl e37))) ?_
          obtain ⟨vn, m_10, en, z33⟩ := bindP_inv z32
          refine wf_stepN (f_F rfl (s_st rfl rfl en)) ?_
          obtain ⟨m_11, ef_1, z34⟩ := bindO_inv z33
          refine wf_end ef_1 ?_
          refine bk_norm ?_
          refine nx_norm (w_ops ?_)
          obtain ⟨x38, e38, z35⟩ := forceI_inv z34
          refine wo_step (s_pure (p_bin g19 rfl (b_add.trans (ci e38)))) (wo_step (v := (.i .i64 x38)) (s_pure (p_mv rfl)) (wo_nil ?_))
          cases z35
          exact ⟨_, _, rfl, rfl, rfl, gl rfl, gl g0, gl g1, gl g5, gl g6, gl g13, gl g14, gl g17, gl g18⟩
        · refine w_condF rfl ?_
          refine w_exit ?_
          refine nx_exit ?_
          cases z13
          exact ⟨_, _, rfl, ne_norm_exit, rfl, rfl, gl g0, gl g1, gl g5, gl g13, gl g14⟩
      · obtain ⟨m_12, ho⟩ : ∃ z, z = o := ⟨_, rfl⟩
        subst ho
        rintro _ mm t_3 ⟨rfl, rfl, g0, g1, g5, g13, g14⟩
        refine bk_hit ?_
        refine bk_norm ?_
        refine nx_norm (w_ops ?_)
        obtain ⟨x39, e39, z36⟩ := forceI_inv z11
        refine wo_step (s_pure (p_bin g14 rfl (b_add.trans (ci e39)))) (wo_step (v := (.i .i64 x39)) (s_pure (p_mv rfl)) (wo_nil ?_))
        cases z36
        exact ⟨_, _, rfl, rfl, rfl, gl rfl, gl g0, gl g1, gl g5, gl g13⟩
    · refine w_condF rfl ?_
      refine w_exit ?_
      refine nx_exit ?_
      cases z8
      exact ⟨_, _, rfl, ne_norm_exit, rfl, rfl, gl g5⟩
  · obtain ⟨m_13, ho⟩ : ∃ z, z = o_1 := ⟨_, rfl⟩
    subst ho
    rintro _ mm_2 t_4 ⟨rfl, rfl, g5⟩
    refine bk_hit ?_
    refine nx_norm (w_seq (w_ops (wo_step (s_pure (p_mv g5)) (wo_step (v := v11) (s_pure (p_mv rfl)) (wo_nil (nx_norm ?_))))))
    refine w_ret ?_
    exact qf ret_ok (rt rfl rn) z6
/- dibber/vine.asMany -/

def g56 (M : Means) (ro : List ABlk) (x0 : Int) (m0 : Mm) : Option (AVal × Heap × Nat × Nat) :=
  forceI (wr .u64 x0) fun x4 =>
  finM m0.h.length (tupA [(.i .u64 x4)]) m0
theorem g56_ok {ro : List ABlk} {O : Caller} {M : Means} (hM : M.Ok ⟨F, O⟩ ro) {x0 h r} (ho : O 56 [(.i .i64 x0)] h = none) (hr : g56 M ro x0 ⟨h, h.length, h.length⟩ = some r) : callX ⟨F, O⟩ ro 56 [(.i .i64 x0)] h = some r := by
  refine callX_of (F := ⟨F, O⟩) (fn := fn56) (g := g56 M ro x0) ho rfl rfl hr ?_
  clear ho
  clear hr
  intro m0 t0 ht hr
  have g0 : t0.get 0 = (.i .i64 x0) := ht 0
  clear ht
  unfold g56 at hr
  refine w_seq (w_ops (wo_step (v := (.i .u64 0)) (s_pure (p_mv rfl)) (wo_nil (nx_norm (w_seq (w_ops (wo_step (s_pure (p_mv g0)) ?_)))))))
  obtain ⟨x4, e4, z1⟩ := forceI_inv hr
  refine wo_step (s_pure ((p_conv rfl).trans (ci e4))) (wo_step (v := (.i .u64 x4)) (s_pure (p_mv rfl)) (wo_nil (nx_norm ?_)))
  refine w_ret ?_
  exact qf ret_ok (rt rfl rn) z1
/- dibber/vine.product[dibber/vine.many] -/
abbrev g57_I0 (v1 : AVal) (v13 : AVal) (v0 : AVal) (x15 : Int) (s : Int × Mm) (m1 : Mm) (t1 : Tr) : Prop :=
  match s with
  | (x16, m_2) => m_2 = m1 ∧ t1.get 16 = (.i .i64 x16) ∧ t1.get 1 = v1 ∧ t1.get 5 = v13 ∧ t1.get 14 = v0 ∧ t1.get 15 = (.i .i64 x15)
abbrev g57_J0 (v1 : AVal) (v13 : AVal) (v0 : AVal) (x15 : Int) (o : Mm) (e : AExit) (m1 : Mm) (t1 : Tr) : Prop :=
  match o with
  | mo => e = (.exit 0) ∧ mo = m1 ∧ t1.get 5 = v13
abbrev g57_I1 (v1 : AVal) (v13 : AVal) (x16 : Int) (v20 : AVal) (v0 : AVal) (x15 : Int) (x33 : Int) (s : Int × Mm) (m1 : Mm) (t1 : Tr) : Prop :=
  match s with
  | (x34, m_5) => m_5 = m1 ∧ t1.get 34 = (.i .i64 x34) ∧ t1.get 1 = v1 ∧ t1.get 5 = v13 ∧ t1.get 6 = (.i .i64 x16) ∧ t1.get 7 = v20 ∧ t1.get 14 = v0 ∧ t1.get 15 = (.i .i64 x15) ∧ t1.get 16 = (.i .i64 x16) ∧ t1.get 33 = (.i .i64 x33)
abbrev g57_J1 (v1 : AVal) (v13 : AVal) (x16 : Int) (v20 : AVal) (v0 : AVal) (x15 : Int) (x33 : Int) (o : Mm) (e : AExit) (m1 : Mm) (t1 : Tr) : Prop :=
  match o with
  | mo => e = (.exit 2) ∧ mo = m1 ∧ t1.get 1 = v1 ∧ t1.get 5 = v13 ∧ t1.get 14 = v0 ∧ t1.get 15 = (.i .i64 x15) ∧ t1.get 16 = (.i .i64 x16)
abbrev g57_I2 (v1 : AVal) (v13 : AVal) (x16 : Int) (v20 : AVal) (x34 : Int) (v0 : AVal) (x15 : Int) (x33 : Int) (x38 : Int) (s : Int × Mm) (m1 : Mm) (t1 : Tr) : Prop :=
  match s with
  | (x39, m_6) => m_6 = m1 ∧ t1.get 39 = (.i .i64 x39) ∧ t1.get 1 = v1 ∧ t1.get 5 = v13 ∧ t1.get 6 = (.i .i64 x16) ∧ t1.get 7 = v20 ∧ t1.get 8 = (.i .i64 x34) ∧ t1.get 14 = v0 ∧ t1.get 15 = (.i .i64 x15) ∧ t1.get 16 = (.i .i64 x16) ∧ t1.get 33 = (.i .i64 x33) ∧ t1.get 34 = (.i .i64 x34) ∧ t1.get 37 = v20 ∧ t1.get 38 = (.i .i64 x38)
abbrev g57_J2 (v1 : AVal) (v13 : AVal) (x16 : Int) (v20 : AVal) (x34 : Int) (v0 : AVal) (x15 : Int) (x33 : Int) (x38 : Int) (o : Mm) (e : AExit) (m1 : Mm) (t1 : Tr) : Prop :=
  match o with
  | mo => e = (.exit 4) ∧ mo = m1 ∧ t1.get 1 = v1 ∧ t1.get 5 = v13 ∧ t1.get 6 = (.i .i64 x16) ∧ t1.get 7 = v20 ∧ t1.get 14 = v0 ∧ t1.get 15 = (.i .i64 x15) ∧ t1.get 16 = (.i .i64 x16) ∧ t1.get 33 = (.i .i64 x33) ∧ t1.get 34 = (.i .i64 x34)
def g57_b2 (M : Means) (ro : List ABlk) (v1 : AVal) (v13 : AVal) (x16 : Int) (v20 : AVal) (x34 : Int) (v0 : AVal) (x15 : Int) (x33 : Int) (x38 : Int) (x39 : Int) (m_6 : Mm) : Option ((Int × Mm) ⊕ (Mm)) :=
  forceB (ltI x39 x38) fun c40 =>
  cond c40 (
    bindO (evP .e (.ixS 1 (.c v20) (.c (.i .i64 x39)))) fun v42 =>
    bindO (ldM ro m_6 true 1 v42) fun v43 =>
    asI .u64 v43 fun x43 =>
    bindO (some (Mm.base m_6)) fun m_7 =>
    bindO (evP .e (.ixS 1 (.c v13) (.c (.i .i64 x16)))) fun v46 =>
    bindO (ldA ro m_6.h true 1 v46) fun v47 =>
    bindO (evP .e (.ixS 1 (.c v13) (.c (.i .i64 x16)))) fun v51 =>
    bindO (ldA ro m_6.h true 1 v51) fun v52 =>
    bindO (evP .e (.ixS 1 (.c v52) (.c (.i .i64 x34)))) fun v54 =>
    bindO (ldA ro m_6.h true 1 v54) fun v55 =>
    asI .u64 v55 fun x55 =>
    bindO (some (AVal.ifc 61 (.i .u64 x55))) fun v56 =>
    bindO (some (AVal.ifc 61 (.i .u64 x43))) fun v58 =>
    bindO (evP .e (.ixS 1 (.c v1) (.c (.i .i64 x39)))) fun v61 =>
    bindO (ldM ro m_7 true 1 v61) fun v62 =>
    bindO (evP .e (.ixS 1 (.c v62) (.c (.i .i64 x34)))) fun v64 =>
    bindO (ldM ro m_7 true 1 v64) fun v65 =>
    asI .u64 v65 fun x65 =>
    bindP (calliM M.call m_7 [(61, (126, [])), (106, (129, [])), (122, (131, []))] v58 [(.i .u64 x65)]) fun v66 m_8 =>
    asI .u64 v66 fun x66 =>
    chk (!Nat.blt m_8.lw m_6.h.length) <|
    bindP (calliM M.call m_8 [(61, (86, [])), (106, (128, [])), (122, (130, []))] v56 [(.i .u64 x66)]) fun v67 m_9 =>
    asI .u64 v67 fun x67 =>
    chk (!Nat.blt m_9.lw m_6.h.length) <|
    bindO (evP .e (.ixS 1 (.c v47) (.c (.i .i64 x34)))) fun v68 =>
    bindP (stepM ro m_9 (.st 1 (.c v68) (.c (.i .u64 x67)))) fun vn_1 m_10 =>
    bindO (some (Mm.join m_6 m_10)) fun m_11 =>
    forceI (wr .i64 (x39 + 1)) fun x69 =>
    some (.inl (x69, m_11))) (
    some (.inr m_6))
def g57_b1 (M : Means) (ro : List ABlk) (v1 : AVal) (v13 : AVal) (x16 : Int) (v20 : AVal) (v0 : AVal) (x15 : Int) (x33 : Int) (x34 : Int) (m_5 : Mm) : Option ((Int × Mm) ⊕ (Mm)) :=
  forceB (ltI x34 x33) fun c35 =>
  cond c35 (
    bindO (evP .e (.len false (.c v20))) fun v38 =>
    asI .i64 v38 fun x38 =>
    bindO (M.loop (S := Int × Mm) (R := Mm) (fun s => g57_b2 M ro v1 v13 x16 v20 x34 v0 x15 x33 x38 s.1 s.2) (0, m_5)) fun m_12 =>
    forceI (wr .i64 (x34 + 1)) fun x70 =>
    some (.inl (x70, m_12))) (
    some (.inr m_5))
def g57_b0 (M : Means) (ro : List ABlk) (v1 : AVal) (v13 : AVal) (v0 : AVal) (x15 : Int) (x16 : Int) (m_2 : Mm) : Option ((Int × Mm) ⊕ (Mm)) :=
  forceB (ltI x16 x15) fun c17 =>
  cond c17 (
    bindO (evP .e (.ixS 1 (.c v0) (.c (.i .i64 x16)))) fun v19 =>
    bindO (ldM ro m_2 true 1 v19) fun v20 =>
    bindO (evP .e (.ixS 1 (.c v1) (.c (.i .i64 0)))) fun v24 =>
    bindO (ldM ro m_2 true 1 v24) fun v25 =>
    bindO (evP .e (.len false (.c v25))) fun v26 =>
    asI .i64 v26 fun x26 =>
    bindP (stepM ro m_2 (.mk 61 1 8 [(AVal.i IntKind.u64 0)] (.c (.i .i64 x26)) (.c (.i .i64 x26)))) fun v27 m_3 =>
    bindO (evP .e (.ixS 1 (.c v13) (.c (.i .i64 x16)))) fun v28 =>
    bindP (stepM ro m_3 (.st 1 (.c v28) (.c v27))) fun vn m_4 =>
    bindO (evP .e (.ixS 1 (.c v13) (.c (.i .i64 x16)))) fun v31 =>
    bindO (ldM ro m_4 true 1 v31) fun v32 =>
    bindO (evP .e (.len false (.c v32))) fun v33 =>
    asI .i64 v33 fun x33 =>
    bindO (M.loop (S := Int × Mm) (R := Mm) (fun s => g57_b1 M ro v1 v13 x16 v20 v0 x15 x33 s.1 s.2) (0, m_4)) fun m_13 =>
    forceI (wr .i64 (x16 + 1)) fun x71 =>
    some (.inl (x71, m_13))) (
    some (.inr m_2))
def g57 (M : Means) (ro : List ABlk) (v0 : AVal) (v1 : AVal) (m0 : Mm) : Option (AVal × Heap × Nat × Nat) :=
  bindO (evP .e (.len false (.c v0))) fun v12 =>
  asI .i64 v12 fun x12 =>
  bindP (stepM ro m0 (.mk 63 1 24 [AVal.nsl] (.c (.i .i64 x12)) (.c (.i .i64 x12)))) fun v13 m_1 =>
  bindO (evP .e (.len false (.c v0))) fun v15 =>
  asI .i64 v15 fun x15 =>
  bindO (M.loop (S := Int × Mm) (R := Mm) (fun s => g57_b0 M ro v1 v13 v0 x15 s.1 s.2) (0, m_1)) fun m_14 =>
  finM m0.h.length (tupA [v13]) m_14
theorem g57_ok {ro : List ABlk} {O : Caller} {M : Means} (hM : M.Ok ⟨F, O⟩ ro) {v0 v1 h r} (ho : O 57 [v0, v1] h = none) (hr : g57 M ro v0 v1 ⟨h, h.length, h.length⟩ = some r) : callX ⟨F, O⟩ ro 57 [v0, v1] h = some r := by
  refine callX_of (F := ⟨F, O⟩) (fn := fn57) (g := g57 M ro v0 v1) ho rfl rfl hr ?_
  clear ho
  clear hr
  intro m0 t0 ht hr
  have g0 : t0.get 0 = v0 := ht 0
  have g1 : t0.get 1 = v1 := ht 1
  clear ht
  unfold g57 at hr
  refine w_seq (w_ops (wo_step (v := AVal.nsl) (s_pure (p_mv rfl)) (wo_nil (nx_norm (w_seq (w_ops (wo_step (s_pure (p_mv g0)) ?_)))))))
  obtain ⟨v12, e12, z1⟩ := bindO_inv hr
  obtain ⟨x12, rfl, z2⟩ := asI_inv z1
  refine wo_step (s_pure (o_len rfl e12)) ?_
  obtain ⟨v13, m_1, e13, z3⟩ := bindP_inv z2
  refine wo_step (s_mk rfl rfl e13) (wo_step (v := v13) (s_pure (p_mv rfl)) (wo_nil (nx_norm (w_seq (w_seq (w_ops (wo_step (s_pure (p_mv g0)) ?_)))))))
  obtain ⟨v15, e15, z4⟩ := bindO_inv z3
  obtain ⟨x15, rfl, z5⟩ := asI_inv z4
  refine wo_step (s_pure (o_len rfl e15)) (wo_step (v := (.i .i64 0)) (s_pure (p_mv rfl)) (wo_nil (nx_norm ?_)))
  refine w_block ?_
  obtain ⟨o_2, hl_2, z6⟩ := bindO_inv z5
  obtain ⟨n_2, hl_2⟩ := hM.loop _ _ _ hl_2
  refine jp_mono (w_loop _ (g57_I0 v1 v13 v0 x15) (g57_J0 v1 v13 v0 x15) ?_ n_2 _ _ _ _ hl_2 ⟨rfl, gl rfl, gl g1, gl rfl, gl rfl, gl rfl⟩) ?_
  · clear z6 hl_2
    intro s mm_5 t_1 o hi hr
    obtain ⟨x16, m_2⟩ := s
    obtain ⟨rfl, g16, g1, g5, g14, g15⟩ := hi
    unfold g57_b0 at hr
    refine w_seq (w_ops ?_)
    obtain ⟨c17, e17, z7⟩ := forceB_inv hr
    refine wo_step (s_pure (p_bin g16 g15 (b_lss.trans (cb e17)))) (wo_nil (nx_norm (w_seq ?_)))
    rcases cond_inv z7 with ⟨rfl, z8⟩ | ⟨rfl, z8⟩
    · refine w_condT rfl ?_
      refine w_skip (nx_norm (w_seq ?_))
      refine w_block ?_
      refine w_seq (w_ops (wo_step (s_pure (p_mv g16)) ?_))
      obtain ⟨v19, e19, z9⟩ := bindO_inv z8
      refine wo_step (s_pure (o_ixS g14 g16 e19)) ?_
      obtain ⟨v20, e20, z10⟩ := bindO_inv z9
      refine wo_step (s_ld rfl e20) (wo_step (v := (.i .i64 x16)) (s_pure (p_mv rfl)) (wo_step (v := v20) (s_pure (p_mv rfl)) (wo_nil (nx_norm (w_seq (w_ops (wo_step (s_pure (p_mv g5)) (wo_step (v := (.i .i64 x16)) (s_pure (p_mv rfl)) (wo_step (s_pure (p_mv g1)) ?_)))))))))
      obtain ⟨v24, e24, z11⟩ := bindO_inv z10
      refine wo_step (s_pure (o_ixS rfl rfl e24)) ?_
      obtain ⟨v25, e25, z12⟩ := bindO_inv z11
      refine wo_step (s_ld rfl e25) ?_
      obtain ⟨v26, e26, z13⟩ := bindO_inv z12
      obtain ⟨x26, rfl, z14⟩ := asI_inv z13
      refine wo_step (s_pure (o_len rfl e26)) ?_
      obtain ⟨v27, m_3, e27, z15⟩ := bindP_inv z14
      refine wo_step (s_mk rfl rfl e27) ?_
      obtain ⟨v28, e28, z16⟩ := bindO_inv z15
      refine wo_step (s_pure (o_ixS rfl rfl e28)) ?_
      obtain ⟨vn, m_4, en, z17⟩ := bindP_inv z16
      refine wo_stepN (s_st rfl rfl en) ?_
      refine wo_nil (nx_norm (w_seq (w_ops (wo_step (s_pure (p_mv g5)) (wo_step (v := (.i .i64 x16)) (s_pure (p_mv rfl)) ?_)))))
      obtain ⟨v31, e31, z18⟩ := bindO_inv z17
      refine wo_step (s_pure (o_ixS rfl rfl e31)) ?_
      obtain ⟨v32, e32, z19⟩ := bindO_inv z18
      refine wo_step (s_ld rfl e32) ?_
      obtain ⟨v33, e33, z20⟩ := bindO_inv z19
      obtain ⟨x33, rfl, z21⟩ := asI_inv z20
      refine wo_step (s_pure (o_len rfl e33)) (wo_step (v := (.i .i64 0)) (s_pure (p_mv rfl)) (wo_nil (nx_norm ?_)))
      refine w_block ?_
      obtain ⟨o_1, hl_1, z22⟩ := bindO_inv z21
      obtain ⟨n_1, hl_1⟩ := hM.loop _ _ _ hl_1
      refine jp_mono (w_loop _ (g57_I1 v1 v13 x16 v20 v0 x15 x33) (g57_J1 v1 v13 x16 v20 v0 x15 x33) ?_ n_1 _ _ _ _ hl_1 ⟨rfl, gl rfl, gl g1, gl g5, gl rfl, gl rfl, gl g14, gl g15, gl g16, gl rfl⟩) ?_
      · clear z22 hl_1
        intro s mm_3 t_2 o hi hr
        obtain ⟨x34, m_5⟩ := s
        obtain ⟨rfl, g34, g1, g5, g6, g7, g14, g15, g16, g33⟩ := hi
        unfold g57_b1 at hr
        refine w_seq (w_ops ?_)
        obtain ⟨c35, e35, z23⟩ := forceB_inv hr
        refine wo_step (s_pure (p_bin g34 g33 (b_lss.trans (cb e35)))) (wo_nil (nx_norm (w_seq ?_)))
        rcases cond_inv z23 with ⟨rfl, z24⟩ | ⟨rfl, z24⟩
        · refine w_condT rfl ?_
          refine w_skip (nx_norm (w_seq ?_))
          refine w_block ?_
          refine w_seq (w_ops (wo_step (s_pure (p_mv g34)) (wo_step (v := (.i .i64 x34)) (s_pure (p_mv rfl)) (wo_nil (nx_norm (w_seq (w_ops (wo_step (s_pure (p_mv g7)) ?_))))))))
          obtain ⟨v38, e38, z25⟩ := bindO_inv z24
          obtain ⟨x38, rfl, z26⟩ := asI_inv z25
          refine wo_step (s_pure (o_len rfl e38)) (wo_step (v := (.i .i64 0)) (s_pure (p_mv rfl)) (wo_nil (nx_norm ?_)))
          refine w_block ?_
          obtain ⟨o, hl, z27⟩ := bindO_inv z26
          obtain ⟨n, hl⟩ := hM.loop _ _ _ hl
          refine jp_mono (w_loop _ (g57_I2 v1 v13 x16 v20 x34 v0 x15 x33 x38) (g57_J2 v1 v13 x16 v20 x34 v0 x15 x33 x38) ?_ n _ _ _ _ hl ⟨rfl, gl rfl, gl g1, gl g5, gl g6, gl g7, gl rfl, gl g14, gl g15, gl g16, gl g33, gl g34, gl rfl, gl rfl⟩) ?_
          · clear z27 hl
            intro s mm_1 t_3 o hi hr
            obtain ⟨x39, m_6⟩ := s
            obtain ⟨rfl, g39, g1, g5, g6, g7, g8, g14, g15, g16, g33, g34, g37, g38⟩ := hi
            unfold g57_b2 at hr
            refine w_seq (w_ops ?_)
            obtain ⟨c40, e40, z28⟩ := forceB_inv hr
            refine wo_step (s_pure (p_bin g39 g38 (b_lss.trans (cb e40)))) (wo_nil (nx_norm (w_seq ?_)))
            rcases cond_inv z28 with ⟨rfl, z29⟩ | ⟨rfl, z29⟩
            · refine w_condT rfl ?_
              refine w_skip (nx_norm (w_seq ?_))
              refine w_block ?_
              refine w_seq (w_ops (wo_step (s_pure (p_mv g39)) ?_))
              obtain ⟨v42, e42, z30⟩ := bindO_inv z29
              refine wo_step (s_pure (o_ixS g37 g39 e42)) ?_
              obtain ⟨v43, e43, z31⟩ := bindO_inv z30
              obtain ⟨x43, rfl, z32⟩ := asI_inv z31
              refine wo_step (s_ld rfl e43) (wo_step (v := (.i .i64 x39)) (s_pure (p_mv rfl)) (wo_step (v := (.i .u64 x43)) (s_pure (p_mv rfl)) (wo_nil (nx_norm ?_))))
              obtain ⟨m_7, ef, z33⟩ := bindO_inv z32
              refine w_flt (af := true) rfl ef ?_
              refine wf_step (v := v13) (f_P rfl (s_pure (p_mv g5))) ?_
              refine wf_step (v := (.i .i64 x16)) (f_P rfl (s_pure (p_mv g6))) ?_
              obtain ⟨v46, e46, z34⟩ := bindO_inv z33
              refine wf_step (v := v46) (f_P rfl (s_pure (o_ixS rfl rfl e46))) ?_
              obtain ⟨v47, e47, z35⟩ := bindO_inv z34
              refine wf_step (v := v47) (f_ld rfl e47) ?_
              refine wf_step (v := (.i .i64 x34)) (f_P rfl (s_pure (p_mv g8))) ?_
              refine wf_step (v := v13) (f_P rfl (s_pure (p_mv g5))) ?_
              refine wf_step (v := (.i .i64 x16)) (f_P rfl (s_pure (p_mv g6))) ?_
              obtain ⟨v51, e51, z36⟩ := bindO_inv z35
              refine wf_step (v := v51) (f_P rfl (s_pure (o_ixS rfl rfl e51))) ?_
              obtain ⟨v52, e52, z37⟩ := bindO_inv z36
              refine wf_step (v := v52) (f_ld rfl e52) ?_
              refine wf_step (v := (.i .i64 x34)) (f_P rfl (s_pure (p_mv g8))) ?_
              obtain ⟨v54, e54, z38⟩ := bindO_inv z37
              refine wf_step (v := v54) (f_P rfl (s_pure (o_ixS rfl rfl e54))) ?_
              obtain ⟨v55, e55, z39⟩ := bindO_inv z38
              obtain ⟨x55, rfl, z40⟩ := asI_inv z39
              refine wf_step (v := (.i .u64 x55)) (f_ld rfl e55) ?_
              obtain ⟨v56, e56, z41⟩ := bindO_inv z40
              refine wf_step (v := v56) (f_P rfl (s_pure (o_mki rfl e56))) ?_
              refine wf_step (v := (.i .u64 x43)) (f_P rfl (s_pure (p_mv rfl))) ?_
              obtain ⟨v58, e58, z42⟩ := bindO_inv z41
              refine wf_step (v := v58) (f_P rfl (s_pure (o_mki rfl e58))) ?_
              refine wf_step (v := v1) (f_P rfl (s_pure (p_mv g1))) ?_
              refine wf_step (v := (.i .i64 x39)) (f_P rfl (s_pure (p_mv rfl))) ?_
              obtain ⟨v61, e61, z43⟩ := bindO_inv z42
              refine wf_step (v := v61) (f_P rfl (s_pure (o_ixS rfl rfl e61))) ?_
              obtain ⟨v62, e62, z44⟩ := bindO_inv z43
              refine wf_step (v := v62) (f_P rfl (s_ld rfl e62)) ?_
              refine wf_step (v := (.i .i64 x34)) (f_P rfl (s_pure (p_mv g8))) ?_
              obtain ⟨v64, e64, z45⟩ := bindO_inv z44
              refine wf_step (v := v64) (f_P rfl (s_pure (o_ixS rfl rfl e64))) ?_
              obtain ⟨v65, e65, z46⟩ := bindO_inv z45
              obtain ⟨x65, rfl, z47⟩ := asI_inv z46
              refine wf_step (v := (.i .u64 x65)) (f_P rfl (s_ld rfl e65)) ?_
              obtain ⟨v66, m_8, e66, z48⟩ := bindP_inv z47
              obtain ⟨x66, rfl, z49⟩ := asI_inv z48
              obtain ⟨hc66, z50⟩ := chk_inv z49
              refine wf_step (v := (.i .u64 x66)) (f_M hc66 (s_calli rfl (mc rfl mn) (calliM_le hM.call e66))) ?_
              obtain ⟨v67, m_9, e67, z51⟩ := bindP_inv z50
              obtain ⟨x67, rfl, z52⟩ := asI_inv z51
              obtain ⟨hc67, z53⟩ := chk_inv z52
              refine wf_step (v := (.i .u64 x67)) (f_M hc67 (s_calli rfl (mc rfl mn) (calliM_le hM.call e67))) ?_
              obtain ⟨v68, e68, z54⟩ := bindO_inv z53
              refine wf_step (v := v68) (f_P rfl (s_pure (o_ixS rfl rfl e68))) ?_
              obtain ⟨vn_1, m_10, en_1, z55⟩ := bindP_inv z54
              refine wf_stepN (f_F rfl (s_st rfl rfl en_1)) ?_
              obtain ⟨m_11, ef_1, z56⟩ := bindO_inv z55
              refine wf_end ef_1 ?_
              refine bk_norm ?_
              refine nx_norm (w_ops ?_)
              obtain ⟨x69, e69, z57⟩ := forceI_inv z56
              refine wo_step (s_pure (p_bin g39 rfl (b_add.trans (ci e69)))) (wo_step (v := (.i .i64 x69)) (s_pure (p_mv rfl)) (wo_nil ?_))
              cases z57
              exact ⟨_, _, rfl, rfl, rfl, gl rfl, gl g1, gl g5, gl g6, gl g7, gl g8, gl g14, gl g15, gl g16, gl g33, gl g34, gl g37, gl g38⟩
            · refine w_condF rfl ?_
              refine w_exit ?_
              refine nx_exit ?_
              cases z29
              exact ⟨_, _, rfl, ne_norm_exit, rfl, rfl, gl g1, gl g5, gl g6, gl g7, gl g14, gl g15, gl g16, gl g33, gl g34⟩
          · obtain ⟨m_12, ho⟩ : ∃ z, z = o := ⟨_, rfl⟩
            subst ho
            rintro _ mm t_4 ⟨rfl, rfl, g1, g5, g6, g7, g14, g15, g16, g33, g34⟩
            refine bk_hit ?_
            refine bk_norm ?_
            refine nx_norm (w_ops ?_)
            obtain ⟨x70, e70, z58⟩ := forceI_inv z27
            refine wo_step (s_pure (p_bin g34 rfl (b_add.trans (ci e70)))) (wo_step (v := (.i .i64 x70)) (s_pure (p_mv rfl)) (wo_nil ?_))
            cases z58
            exact ⟨_, _, rfl, rfl, rfl, gl rfl, gl g1, gl g5, gl g6, gl g7, gl g14, gl g15, gl g16, gl g33⟩
        · refine w_condF rfl ?_
          refine w_exit ?_
          refine nx_exit ?_
          cases z24
          exact ⟨_, _, rfl, ne_norm_exit, rfl, rfl, gl g1, gl g5, gl g14, gl g15, gl g16⟩
      · obtain ⟨m_13, ho⟩ : ∃ z, z = o_1 := ⟨_, rfl⟩
        subst ho
        rintro _ mm_2 t_5 ⟨rfl, rfl, g1, g5, g14, g15, g16⟩
        refine bk_hit ?_
        refine bk_norm ?_
        refine nx_norm (w_ops ?_)
        obtain ⟨x71, e71, z59⟩ := forceI_inv z22
        refine wo_step (s_pure (p_bin g16 rfl (b_add.trans (ci e71)))) (wo_step (v := (.i .i64 x71)) (s_pure (p_mv rfl)) (wo_nil ?_))
        cases z59
        exact ⟨_, _, rfl, rfl, rfl, gl rfl, gl g1, gl g5, gl g14, gl g15⟩
    · refine w_condF rfl ?_
      refine w_exit ?_
      refine nx_exit ?_
      cases z8
      exact ⟨_, _, rfl, ne_norm_exit, rfl, rfl, gl g5⟩
  · obtain ⟨m_14, ho⟩ : ∃ z, z = o_2 := ⟨_, rfl⟩
    subst ho
    rintro _ mm_4 t_6 ⟨rfl, rfl, g5⟩
    refine bk_hit ?_
    refine nx_norm (w_seq (w_ops (wo_step (s_pure (p_mv g5)) (wo_step (v := v13) (s_pure (p_mv rfl)) (wo_nil (nx_norm ?_))))))
    refine w_ret ?_
    exact qf ret_ok (rt rfl rn) z6
/- (dibber/vine.rules).from -/

def g59 (M : Means) (ro : List ABlk) (v0 : AVal) (x1 : Int) (s2 : List UInt8) (v3 : AVal) (m0 : Mm) : Option (AVal × Heap × Nat × Nat) :=
  bindP (stepM ro m0 (.bx 55 1 (.c v0))) fun v4 m_1 =>
  bindP (stepM ro m_1 (.bx 61 1 (.c (.i .u64 x1)))) fun v5 m_2 =>
  bindP (stepM ro m_2 (.bx 9 1 (.c (.s s2)))) fun v6 m_3 =>
  bindP (stepM ro m_3 (.bx 58 1 (.c v3))) fun v7 m_4 =>
  bindO (some (AVal.fn 90 [] [v5, v7, v4, v6])) fun v9 =>
  finM m0.h.length (tupA [v9]) m_4
theorem g59_ok {ro : List ABlk} {O : Caller} {M : Means} (hM : M.Ok ⟨F, O⟩ ro) {v0 x1 s2 v3 h r} (ho : O 59 [v0, (.i .u64 x1), (.s s2), v3] h = none) (hr : g59 M ro v0 x1 s2 v3 ⟨h, h.length, h.length⟩ = some r) : callX ⟨F, O⟩ ro 59 [v0, (.i .u64 x1), (.s s2), v3] h = some r := by
  refine callX_of (F := ⟨F, O⟩) (fn := fn59) (g := g59 M ro v0 x1 s2 v3) ho rfl rfl hr ?_
  clear ho
  clear hr
  intro m0 t0 ht hr
  have g0 : t0.get 0 = v0 := ht 0
  have g1 : t0.get 1 = (.i .u64 x1) := ht 1
  have g2 : t0.get 2 = (.s s2) := ht 2
  have g3 : t0.get 3 = v3 := ht 3
  clear ht
  unfold g59 at hr
  refine w_seq (w_ops ?_)
  obtain ⟨v4, m_1, e4, z1⟩ := bindP_inv hr
  refine wo_step (s_bx g0 e4) ?_
  obtain ⟨v5, m_2, e5, z2⟩ := bindP_inv z1
  refine wo_step (s_bx g1 e5) ?_
  obtain ⟨v6, m_3, e6, z3⟩ := bindP_inv z2
  refine wo_step (s_bx g2 e6) ?_
  obtain ⟨v7, m_4, e7, z4⟩ := bindP_inv z3
  refine wo_step (s_bx g3 e7) (wo_step (v := AVal.nfn) (s_pure (p_mv rfl)) (wo_nil (nx_norm (w_seq (w_ops ?_)))))
  obtain ⟨v9, e9, z5⟩ := bindO_inv z4
  refine wo_step (s_pure (Eq.trans (o_mkfn mn (mc rfl (mc rfl (mc rfl (mc rfl mn))))) e9)) (wo_step (v := v9) (s_pure (p_mv rfl)) (wo_nil (nx_norm ?_)))
  refine w_ret ?_
  exact qf ret_ok (rt rfl rn) z5
/- dibber/vine.read -/
abbrev g60_J0 (v11 : AVal) (o : Bool × Mm) (m1 : Mm) (t1 : Tr) : Prop :=
  match o with
  | (c24, m_2) => m_2 = m1 ∧ t1.get 24 = (.b c24) ∧ t1.get 6 = v11
def g60 (M : Means) (ro : List ABlk) (v0 : AVal) (s1 : List UInt8) (m0 : Mm) : Option (AVal × Heap × Nat × Nat) :=
  bindP (callM M.call m0 71 [v0]) fun v10 m_1 =>
  bindO (evP .e (.ext 0 (.c v10))) fun v11 =>
  bindO (evP .e (.ext 1 (.c v10))) fun v12 =>
  asI .i64 v12 fun x12 =>
  forceB (!eqI x12 0) fun c14 =>
  cond c14 (
    finM m0.h.length (tupA [AVal.nsl, (.i .i64 x12)]) m_1) (
    bindO (evP .e (.len true (.c (.s s1)))) fun v17 =>
    asI .i64 v17 fun x17 =>
    forceB (ltI 30 x17) fun c18 =>
    bindO (cond c18 (
      some (true, m_1)) (
      bindP (callM M.call m_1 92 [v11, (.s s1)]) fun v22 m_3 =>
      asB v22 fun c22 =>
      forceB (!c22) fun c23 =>
      some (c23, m_3))) fun ⟨c24, m_2⟩ =>
    cond c24 (
      finM m0.h.length (tupA [AVal.nsl, (.i .i64 5)]) m_2) (
      finM m0.h.length (tupA [v11, (.i .i64 0)]) m_2))
theorem g60_ok {ro : List ABlk} {O : Caller} {M : Means} (hM : M.Ok ⟨F, O⟩ ro) {v0 s1 h r} (ho : O 60 [v0, (.s s1)] h = none) (hr : g60 M ro v0 s1 ⟨h, h.length, h.length⟩ = some r) : callX ⟨F, O⟩ ro 60 [v0, (.s s1)] h = some r := by
  refine callX_of (F := ⟨F, O⟩) (fn := fn60) (g := g60 M ro v0 s1) ho rfl rfl hr ?_
  clear ho
  clear hr
  intro m0 t0 ht hr
  have g0 : t0.get 0 = v0 := ht 0
  have g1 : t0.get 1 = (.s s1) := ht 1
  clear ht
  unfold g60 at hr
  refine w_seq (w_ops (wo_step (v := AVal.nsl) (s_pure (p_mv rfl)) (wo_step (v := (.i .i64 0)) (s_pure (p_mv rfl)) (wo_nil (nx_norm (w_seq (w_ops (wo_step (s_pure (p_mv g0)) ?_))))))))
  obtain ⟨v10, m_1, e10, z1⟩ := bindP_inv hr
  refine wo_step (s_call (mc rfl mn) (callM_le hM.call e10)) (wo_step (v := v10) (s_pure (p_mv rfl)) ?_)
  obtain ⟨v11, e11, z2⟩ := bindO_inv z1
  refine wo_step (s_pure (o_ext rfl e11)) ?_
  obtain ⟨v12, e12, z3⟩ := bindO_inv z2
  obtain ⟨x12, rfl, z4⟩ := asI_inv z3
  refine wo_step (s_pure (o_ext rfl e12)) (wo_step (v := v11) (s_pure (p_mv rfl)) (wo_step (v := (.i .i64 x12)) (s_pure (p_mv rfl)) (wo_nil (nx_norm (w_seq (w_seq (w_ops (wo_step (v := (.i .i64 x12)) (s_pure (p_mv rfl)) ?_))))))))
  obtain ⟨c14, e14, z5⟩ := forceB_inv z4
  refine wo_step (s_pure (p_bin rfl rfl (b_neq.trans (cb e14)))) (wo_nil (nx_norm ?_))
  rcases cond_inv z5 with ⟨rfl, z6⟩ | ⟨rfl, z6⟩
  · refine w_condT rfl ?_
    refine w_seq (w_ops (wo_step (v := (.i .i64 x12)) (s_pure (p_mv rfl)) (wo_step (v := AVal.nsl) (s_pure (p_mv rfl)) (wo_step (v := (.i .i64 x12)) (s_pure (p_mv rfl)) (wo_nil (nx_norm ?_))))))
    refine w_ret ?_
    refine nx_ret ?_
    exact qf ret_ok (rt rfl (rt rfl rn)) z6
  · refine w_condF rfl ?_
    refine w_skip (nx_norm (w_seq (w_seq (w_ops (wo_step (s_pure (p_mv g1)) ?_)))))
    obtain ⟨v17, e17, z7⟩ := bindO_inv z6
    obtain ⟨x17, rfl, z8⟩ := asI_inv z7
    refine wo_step (s_pure (o_len rfl e17)) ?_
    obtain ⟨c18, e18, z9⟩ := forceB_inv z8
    refine wo_step (s_pure (p_bin rfl rfl (b_gtr.trans (cb e18)))) (wo_step (v := (.b c18)) (s_pure (p_mv rfl)) ?_)
    obtain ⟨o, z10, hk⟩ := bindO_inv z9
    refine wo_join 5 (g60_J0 v11 o) ?_ ?_
    · clear hk
      rcases cond_inv z10 with ⟨rfl, z11⟩ | ⟨rfl, z11⟩
      · refine wo_skip (v := (.b true)) rfl rfl (wo_skip (v := (.b true)) rfl rfl (wo_skip (v := (.b true)) rfl rfl (wo_skip (v := (.b true)) rfl rfl (wo_step (v := (.b true)) (s_pure (p_pickT rfl rfl)) (wo_nil ?_)))))
        cases z11
        exact ⟨_, _, rfl, rfl, gl rfl, gl rfl⟩
      · refine wo_take (v := v11) rfl (s_pure (p_mv rfl)) (wo_take (v := (.s s1)) rfl (s_pure (p_mv g1)) ?_)
        obtain ⟨v22, m_3, e22, z12⟩ := bindP_inv z11
        obtain ⟨c22, rfl, z13⟩ := asB_inv z12
        refine wo_take (v := (.b c22)) rfl (s_call (mc rfl (mc rfl mn)) (callM_le hM.call e22)) ?_
        obtain ⟨c23, e23, z14⟩ := forceB_inv z13
        refine wo_take (v := (.b c23)) rfl (s_pure ((p_not rfl).trans (cb e23))) (wo_step (v := (.b c23)) (s_pure (p_pickF rfl rfl)) (wo_nil ?_))
        cases z14
        exact ⟨_, _, rfl, rfl, gl rfl, gl rfl⟩
    · clear z10
      have hr := hk
      clear hk
      obtain ⟨c24, m_2⟩ := o
      rintro mm t_1 ⟨rfl, g24, g6⟩
      refine wo_nil (nx_norm ?_)
      rcases cond_inv hr with ⟨rfl, z15⟩ | ⟨rfl, z15⟩
      · refine w_condT g24 ?_
        refine w_seq (w_ops (wo_step (v := AVal.nsl) (s_pure (p_mv rfl)) (wo_step (v := (.i .i64 5)) (s_pure (p_mv rfl)) (wo_nil (nx_norm ?_)))))
        refine w_ret ?_
        refine nx_ret ?_
        exact qf ret_ok (rt rfl (rt rfl rn)) z15
      · refine w_condF g24 ?_
        refine w_skip (nx_norm (w_seq (w_ops (wo_step (s_pure (p_mv g6)) (wo_step (v := v11) (s_pure (p_mv rfl)) (wo_step (v := (.i .i64 0)) (s_pure (p_mv rfl)) (wo_nil (nx_norm ?_))))))))
        refine w_ret ?_
        exact qf ret_ok (rt rfl (rt rfl rn)) z15
/- (dibber/vine.rules).dies -/
abbrev g61_I0 (s1 : List UInt8) (v11 : AVal) (x12 : Int) (s : Int × Mm) (m1 : Mm) (t1 : Tr) : Prop :=
  match s with
  | (x13, m_2) => m_2 = m1 ∧ t1.get 13 = (.i .i64 x13) ∧ t1.get 1 = (.s s1) ∧ t1.get 11 = v11 ∧ t1.get 12 = (.i .i64 x12)
abbrev g61_J0 (s1 : List UInt8) (v11 : AVal) (x12 : Int) (o : (Mm ⊕ (Int × Bool × Mm))) (e : AExit) (m1 : Mm) (t1 : Tr) : Prop :=
  match o with
  | (.inl mo) => e = (.exit 0) ∧ mo = m1
  | (.inr (y4, y5, mo)) => e = .ret ∧ mo = m1 ∧ t1.get 4 = (.i .i64 y4) ∧ t1.get 5 = (.b y5)
def g61_b0 (M : Means) (ro : List ABlk) (s1 : List UInt8) (v11 : AVal) (x12 : Int) (x13 : Int) (m_2 : Mm) : Option ((Int × Mm) ⊕ ((Mm ⊕ (Int × Bool × Mm)))) :=
  forceB (ltI x13 x12) fun c14 =>
  cond c14 (
    bindO (evP .e (.ixS 1 (.c v11) (.c (.i .i64 x13)))) fun v16 =>
    bindO (ldM ro m_2 true 1 v16) fun v17 =>
    bindP (callM M.call m_2 49 [v17, (.s s1)]) fun v20 m_3 =>
    asI .u64 v20 fun x20 =>
    forceB (eqI x20 0) fun c21 =>
    cond c21 (
      some (.inr (.inr (x13, true, m_3)))) (
      forceI (wr .i64 (x13 + 1)) fun x23 =>
      some (.inl (x23, m_3)))) (
    some (.inr (.inl m_2)))
def g61 (M : Means) (ro : List ABlk) (v0 : AVal) (s1 : List UInt8) (m0 : Mm) : Option (AVal × Heap × Nat × Nat) :=
  bindO (evP .e (.len false (.c v0))) fun v10 =>
  asI .i64 v10 fun x10 =>
  bindP (callM M.call m0 48 [v0, (.i .i64 x10)]) fun v11 m_1 =>
  bindO (evP .e (.len false (.c v11))) fun v12 =>
  asI .i64 v12 fun x12 =>
  bindO (M.loop (S := Int × Mm) (R := (Mm ⊕ (Int × Bool × Mm))) (fun s => g61_b0 M ro s1 v11 x12 s.1 s.2) (0, m_1)) fun o => match o with
  | (.inl m_4) =>
    finM m0.h.length (tupA [(.i .i64 0), (.b false)]) m_4
  | (.inr (x4, c5, m_5)) =>
    finM m0.h.length (tupA [(.i .i64 x4), (.b c5)]) m_5
theorem g61_ok {ro : List ABlk} {O : Caller} {M : Means} (hM : M.Ok ⟨F, O⟩ ro) {v0 s1 h r} (ho : O 61 [v0, (.s s1)] h = none) (hr : g61 M ro v0 s1 ⟨h, h.length, h.length⟩ = some r) : callX ⟨F, O⟩ ro 61 [v0, (.s s1)] h = some r := by
  refine callX_of (F := ⟨F, O⟩) (fn := fn61) (g := g61 M ro v0 s1) ho rfl rfl hr ?_
  clear ho
  clear hr
  intro m0 t0 ht hr
  have g0 : t0.get 0 = v0 := ht 0
  have g1 : t0.get 1 = (.s s1) := ht 1
  clear ht
  unfold g61 at hr
  refine w_seq (w_ops (wo_step (v := (.i .i64 0)) (s_pure (p_mv rfl)) (wo_step (v := (.b false)) (s_pure (p_mv rfl)) (wo_nil (nx_norm (w_seq (w_seq (w_ops (wo_step (s_pure (p_mv g0)) (wo_step (s_pure (p_mv g0)) ?_))))))))))
  obtain ⟨v10, e10, z1⟩ := bindO_inv hr
  obtain ⟨x10, rfl, z2⟩ := asI_inv z1
  refine wo_step (s_pure (o_len rfl e10)) ?_
  obtain ⟨v11, m_1, e11, z3⟩ := bindP_inv z2
  refine wo_step (s_call (mc rfl (mc rfl mn)) (callM_le hM.call e11)) ?_
  obtain ⟨v12, e12, z4⟩ := bindO_inv z3
  obtain ⟨x12, rfl, z5⟩ := asI_inv z4
  refine wo_step (s_pure (o_len rfl e12)) (wo_step (v := (.i .i64 0)) (s_pure (p_mv rfl)) (wo_nil (nx_norm ?_)))
  refine w_block ?_
  obtain ⟨o, hl, z6⟩ := bindO_inv z5
  obtain ⟨n, hl⟩ := hM.loop _ _ _ hl
  refine jp_mono (w_loop _ (g61_I0 s1 v11 x12) (g61_J0 s1 v11 x12) ?_ n _ _ _ _ hl ⟨rfl, gl rfl, gl g1, gl rfl, gl rfl⟩) ?_
  · clear z6 hl
    intro s mm_2 t_1 o hi hr
    obtain ⟨x13, m_2⟩ := s
    obtain ⟨rfl, g13, g1, g11, g12⟩ := hi
    unfold g61_b0 at hr
    refine w_seq (w_ops ?_)
    obtain ⟨c14, e14, z7⟩ := forceB_inv hr
    refine wo_step (s_pure (p_bin g13 g12 (b_lss.trans (cb e14)))) (wo_nil (nx_norm (w_seq ?_)))
    rcases cond_inv z7 with ⟨rfl, z8⟩ | ⟨rfl, z8⟩
    · refine w_condT rfl ?_
      refine w_skip (nx_norm (w_seq ?_))
      refine w_block ?_
      refine w_seq (w_ops (wo_step (s_pure (p_mv g13)) ?_))
      obtain ⟨v16, e16, z9⟩ := bindO_inv z8
      refine wo_step (s_pure (o_ixS g11 g13 e16)) ?_
      obtain ⟨v17, e17, z10⟩ := bindO_inv z9
      refine wo_step (s_ld rfl e17) (wo_step (v := (.i .i64 x13)) (s_pure (p_mv rfl)) (wo_step (v := v17) (s_pure (p_mv rfl)) (wo_nil (nx_norm (w_seq (w_ops (wo_step (v := v17) (s_pure (p_mv rfl)) (wo_step (s_pure (p_mv g1)) ?_))))))))
      obtain ⟨v20, m_3, e20, z11⟩ := bindP_inv z10
      obtain ⟨x20, rfl, z12⟩ := asI_inv z11
      refine wo_step (s_call (mc rfl (mc rfl mn)) (callM_le hM.call e20)) ?_
      obtain ⟨c21, e21, z13⟩ := forceB_inv z12
      refine wo_step (s_pure (p_bin rfl rfl (b_eql.trans (cb e21)))) (wo_nil (nx_norm ?_))
      rcases cond_inv z13 with ⟨rfl, z14⟩ | ⟨rfl, z14⟩
      · refine w_condT rfl ?_
        refine w_seq (w_ops (wo_step (v := (.i .i64 x13)) (s_pure (p_mv rfl)) (wo_step (v := (.i .i64 x13)) (s_pure (p_mv rfl)) (wo_step (v := (.b true)) (s_pure (p_mv rfl)) (wo_nil (nx_norm ?_))))))
        refine w_ret ?_
        refine bk_ret ?_
        refine nx_ret ?_
        cases z14
        exact ⟨_, _, rfl, ne_norm_ret, rfl, rfl, gl rfl, gl rfl⟩
      · refine w_condF rfl ?_
        refine w_skip ?_
        refine bk_norm ?_
        refine nx_norm (w_ops ?_)
        obtain ⟨x23, e23, z15⟩ := forceI_inv z14
        refine wo_step (s_pure (p_bin g13 rfl (b_add.trans (ci e23)))) (wo_step (v := (.i .i64 x23)) (s_pure (p_mv rfl)) (wo_nil ?_))
        cases z15
        exact ⟨_, _, rfl, rfl, rfl, gl rfl, gl g1, gl g11, gl g12⟩
    · refine w_condF rfl ?_
      refine w_exit ?_
      refine nx_exit ?_
      cases z8
      exact ⟨_, _, rfl, ne_norm_exit, rfl, rfl⟩
  · rcases o with o | o
    · obtain ⟨m_4, ho⟩ : ∃ z, z = o := ⟨_, rfl⟩
      subst ho
      rintro _ mm t_2 ⟨rfl, rfl⟩
      refine bk_hit ?_
      refine nx_norm (w_seq (w_ops (wo_step (v := (.i .i64 0)) (s_pure (p_mv rfl)) (wo_step (v := (.b false)) (s_pure (p_mv rfl)) (wo_nil (nx_norm ?_))))))
      refine w_ret ?_
      exact qf ret_ok (rt rfl (rt rfl rn)) z6
    · obtain ⟨x4, c5, m_5⟩ := o
      rintro _ mm_1 t_3 ⟨rfl, rfl, g4, g5⟩
      refine bk_ret ?_
      refine nx_ret ?_
      exact qf ret_ok (rt g4 (rt g5 rn)) z6
/- dibber/vine.readTwo -/

def g69 (M : Means) (ro : List ABlk) (v0 : AVal) (s1 : List UInt8) (v2 : AVal) (s3 : List UInt8) (m0 : Mm) : Option (AVal × Heap × Nat × Nat) :=
  bindP (callM M.call m0 60 [v0, (.s s1)]) fun v17 m_1 =>
  bindO (evP .e (.ext 0 (.c v17))) fun v18 =>
  bindO (evP .e (.ext 1 (.c v17))) fun v19 =>
  asI .i64 v19 fun x19 =>
  forceB (!eqI x19 0) fun c21 =>
  cond c21 (
    finM m0.h.length (tupA [AVal.nsl, AVal.nsl, (.i .i64 x19)]) m_1) (
    bindP (callM M.call m_1 60 [v2, (.s s3)]) fun v26 m_2 =>
    bindO (evP .e (.ext 0 (.c v26))) fun v27 =>
    bindO (evP .e (.ext 1 (.c v26))) fun v28 =>
    asI .i64 v28 fun x28 =>
    forceB (!eqI x28 0) fun c30 =>
    cond c30 (
      finM m0.h.length (tupA [AVal.nsl, AVal.nsl, (.i .i64 x28)]) m_2) (
      finM m0.h.length (tupA [v18, v27, (.i .i64 0)]) m_2))
theorem g69_ok {ro : List ABlk} {O : Caller} {M : Means} (hM : M.Ok ⟨F, O⟩ ro) {v0 s1 v2 s3 h r} (ho : O 69 [v0, (.s s1), v2, (.s s3)] h = none) (hr : g69 M ro v0 s1 v2 s3 ⟨h, h.length, h.length⟩ = some r) : callX ⟨F, O⟩ ro 69 [v0, (.s s1), v2, (.s s3)] h = some r := by
  refine callX_of (F := ⟨F, O⟩) (fn := fn69) (g := g69 M ro v0 s1 v2 s3) ho rfl rfl hr ?_
  clear ho
  clear hr
  intro m0 t0 ht hr
  have g0 : t0.get 0 = v0 := ht 0
  have g1 : t0.get 1 = (.s s1) := ht 1
  have g2 : t0.get 2 = v2 := ht 2
  have g3 : t0.get 3 = (.s s3) := ht 3
  clear ht
  unfold g69 at hr
  refine w_seq (w_ops (wo_step (v := AVal.nsl) (s_pure (p_mv rfl)) (wo_step (v := AVal.nsl) (s_pure (p_mv rfl)) (wo_step (v := (.i .i64 0)) (s_pure (p_mv rfl)) (wo_nil (nx_norm (w_seq (w_ops (wo_step (s_pure (p_mv g0)) (wo_step (s_pure (p_mv g1)) ?_))))))))))
  obtain ⟨v17, m_1, e17, z1⟩ := bindP_inv hr
  refine wo_step (s_call (mc rfl (mc rfl mn)) (callM_le hM.call e17)) (wo_step (v := v17) (s_pure (p_mv rfl)) ?_)
  obtain ⟨v18, e18, z2⟩ := bindO_inv z1
  refine wo_step (s_pure (o_ext rfl e18)) ?_
  obtain ⟨v19, e19, z3⟩ := bindO_inv z2
  obtain ⟨x19, rfl, z4⟩ := asI_inv z3
  refine wo_step (s_pure (o_ext rfl e19)) (wo_step (v := v18) (s_pure (p_mv rfl)) (wo_step (v := (.i .i64 x19)) (s_pure (p_mv rfl)) (wo_nil (nx_norm (w_seq (w_seq (w_ops (wo_step (v := (.i .i64 x19)) (s_pure (p_mv rfl)) ?_))))))))
  obtain ⟨c21, e21, z5⟩ := forceB_inv z4
  refine wo_step (s_pure (p_bin rfl rfl (b_neq.trans (cb e21)))) (wo_nil (nx_norm ?_))
  rcases cond_inv z5 with ⟨rfl, z6⟩ | ⟨rfl, z6⟩
  · refine w_condT rfl ?_
    refine w_seq (w_ops (wo_step (v := (.i .i64 x19)) (s_pure (p_mv rfl)) (wo_step (v := AVal.nsl) (s_pure (p_mv rfl)) (wo_step (v := AVal.nsl) (s_pure (p_mv rfl)) (wo_step (v := (.i .i64 x19)) (s_pure (p_mv rfl)) (wo_nil (nx_norm ?_)))))))
    refine w_ret ?_
    refine nx_ret ?_
    exact qf ret_ok (rt rfl (rt rfl (rt rfl rn))) z6
  · refine w_condF rfl ?_
    refine w_skip (nx_norm (w_seq (w_ops (wo_step (s_pure (p_mv g2)) (wo_step (s_pure (p_mv g3)) ?_)))))
    obtain ⟨v26, m_2, e26, z7⟩ := bindP_inv z6
    refine wo_step (s_call (mc rfl (mc rfl mn)) (callM_le hM.call e26)) (wo_step (v := v26) (s_pure (p_mv rfl)) ?_)
    obtain ⟨v27, e27, z8⟩ := bindO_inv z7
    refine wo_step (s_pure (o_ext rfl e27)) ?_
    obtain ⟨v28, e28, z9⟩ := bindO_inv z8
    obtain ⟨x28, rfl, z10⟩ := asI_inv z9
    refine wo_step (s_pure (o_ext rfl e28)) (wo_step (v := v27) (s_pure (p_mv rfl)) (wo_step (v := (.i .i64 x28)) (s_pure (p_mv rfl)) (wo_nil (nx_norm (w_seq (w_seq (w_ops (wo_step (v := (.i .i64 x28)) (s_pure (p_mv rfl)) ?_))))))))
    obtain ⟨c30, e30, z11⟩ := forceB_inv z10
    refine wo_step (s_pure (p_bin rfl rfl (b_neq.trans (cb e30)))) (wo_nil (nx_norm ?_))
    rcases cond_inv z11 with ⟨rfl, z12⟩ | ⟨rfl, z12⟩
    · refine w_condT rfl ?_
      refine w_seq (w_ops (wo_step (v := (.i .i64 x28)) (s_pure (p_mv rfl)) (wo_step (v := AVal.nsl) (s_pure (p_mv rfl)) (wo_step (v := AVal.nsl) (s_pure (p_mv rfl)) (wo_step (v := (.i .i64 x28)) (s_pure (p_mv rfl)) (wo_nil (nx_norm ?_)))))))
      refine w_ret ?_
      refine nx_ret ?_
      exact qf ret_ok (rt rfl (rt rfl (rt rfl rn))) z12
    · refine w_condF rfl ?_
      refine w_skip (nx_norm (w_seq (w_ops (wo_step (v := v18) (s_pure (p_mv rfl)) (wo_step (v := v27) (s_pure (p_mv rfl)) (wo_step (v := v18) (s_pure (p_mv rfl)) (wo_step (v := v27) (s_pure (p_mv rfl)) (wo_step (v := (.i .i64 0)) (s_pure (p_mv rfl)) (wo_nil (nx_norm ?_))))))))))
      refine w_ret ?_
      exact qf ret_ok (rt rfl (rt rfl (rt rfl rn))) z12
/- dibber/dibberref03.Both -/
abbrev g70_J0  (o : (Int × Mm)) (e : AExit) (m1 : Mm) (t1 : Tr) : Prop :=
  match o with
  | (y9, mo) => e = .norm ∧ mo = m1 ∧ t1.get 9 = (.i .i64 y9)
def g70 (M : Means) (ro : List ABlk) (v0 : AVal) (s1 : List UInt8) (v2 : AVal) (s3 : List UInt8) (m0 : Mm) : Option (AVal × Heap × Nat × Nat) :=
  bindP (callM M.call m0 42 [v0, (.s s1)]) fun v12 m_1 =>
  asI .i64 v12 fun x12 =>
  forceB (eqI x12 0) fun c14 =>
  bindO (α := (Int × Mm)) (
    cond c14 (
      bindP (callM M.call m_1 42 [v2, (.s s3)]) fun v17 m_2 =>
      asI .i64 v17 fun x17 =>
      some (x17, m_2)) (
      some (x12, m_1))) fun ⟨x9, m_3⟩ =>
  finM m0.h.length (tupA [(.i .i64 x9)]) m_3
theorem g70_ok {ro : List ABlk} {O : Caller} {M : Means} (hM : M.Ok ⟨F, O⟩ ro) {v0 s1 v2 s3 h r} (ho : O 70 [v0, (.s s1), v2, (.s s3)] h = none) (hr : g70 M ro v0 s1 v2 s3 ⟨h, h.length, h.length⟩ = some r) : callX ⟨F, O⟩ ro 70 [v0, (.s s1), v2, (.s s3)] h = some r := by
  refine callX_of (F := ⟨F, O⟩) (fn := fn70) (g := g70 M ro v0 s1 v2 s3) ho rfl rfl hr ?_
  clear ho
  clear hr
  intro m0 t0 ht hr
  have g0 : t0.get 0 = v0 := ht 0
  have g1 : t0.get 1 = (.s s1) := ht 1
  have g2 : t0.get 2 = v2 := ht 2
  have g3 : t0.get 3 = (.s s3) := ht 3
  clear ht
  unfold g70 at hr
  refine w_seq (w_ops (wo_step (v := (.i .i64 0)) (s_pure (p_mv rfl)) (wo_nil (nx_norm (w_seq (w_ops (wo_step (s_pure (p_mv g0)) (wo_step (s_pure (p_mv g1)) ?_))))))))
  obtain ⟨v12, m_1, e12, z1⟩ := bindP_inv hr
  obtain ⟨x12, rfl, z2⟩ := asI_inv z1
  refine wo_step (s_call (mc rfl (mc rfl mn)) (callM_le hM.call e12)) (wo_step (v := (.i .i64 x12)) (s_pure (p_mv rfl)) (wo_nil (nx_norm (w_seq (w_seq (w_ops (wo_step (v := (.i .i64 x12)) (s_pure (p_mv rfl)) ?_)))))))
  obtain ⟨c14, e14, z3⟩ := forceB_inv z2
  refine wo_step (s_pure (p_bin rfl rfl (b_eql.trans (cb e14)))) (wo_nil (nx_norm ?_))
  obtain ⟨o, z4, hk⟩ := bindO_inv z3
  refine jp_mono (J := g70_J0  o) ?_ ?_
  · clear hk
    rcases cond_inv z4 with ⟨rfl, z5⟩ | ⟨rfl, z5⟩
    · refine w_condT rfl ?_
      refine w_ops (wo_step (s_pure (p_mv g2)) (wo_step (s_pure (p_mv g3)) ?_))
      obtain ⟨v17, m_2, e17, z6⟩ := bindP_inv z5
      obtain ⟨x17, rfl, z7⟩ := asI_inv z6
      refine wo_step (s_call (mc rfl (mc rfl mn)) (callM_le hM.call e17)) (wo_step (v := (.i .i64 x17)) (s_pure (p_mv rfl)) (wo_nil ?_))
      cases z7
      exact ⟨_, _, rfl, rfl, rfl, gl rfl⟩
    · refine w_condF rfl ?_
      refine w_skip ?_
      cases z5
      exact ⟨_, _, rfl, rfl, rfl, gl rfl⟩
  · clear z4
    have hr := hk
    clear hk
    obtain ⟨x9, m_3⟩ := o
    rintro _ mm t_1 ⟨rfl, rfl, g9⟩
    refine nx_norm (w_seq (w_ops (wo_step (s_pure (p_mv g9)) (wo_step (v := (.i .i64 x9)) (s_pure (p_mv rfl)) (wo_nil (nx_norm ?_))))))
    refine w_ret ?_
    exact qf ret_ok (rt rfl rn) hr
/- dibber/vine.readVine -/
abbrev g71_J0 (v0 : AVal) (m0 : Mm) (o : Bool) (m1 : Mm) (t1 : Tr) : Prop :=
  match o with
  | c14 => m0 = m1 ∧ t1.get 14 = (.b c14) ∧ t1.get 0 = v0
abbrev g71_I1 (v0 : AVal) (x17 : Int) (s : Int × Mm) (m1 : Mm) (t1 : Tr) : Prop :=
  match s with
  | (x18, m_1) => m_1 = m1 ∧ t1.get 18 = (.i .i64 x18) ∧ t1.get 4 = v0 ∧ t1.get 16 = v0 ∧ t1.get 17 = (.i .i64 x17)
abbrev g71_J1 (v0 : AVal) (x17 : Int) (o : (Mm ⊕ (AVal × Int × Mm))) (e : AExit) (m1 : Mm) (t1 : Tr) : Prop :=
  match o with
  | (.inl mo) => e = (.exit 0) ∧ mo = m1 ∧ t1.get 4 = v0
  | (.inr (y2, y3, mo)) => e = .ret ∧ mo = m1 ∧ t1.get 2 = y2 ∧ t1.get 3 = (.i .i64 y3)
abbrev g71_J2 (v0 : AVal) (x17 : Int) (x18 : Int) (o : Bool × Mm) (m1 : Mm) (t1 : Tr) : Prop :=
  match o with
  | (c30, m_2) => m_2 = m1 ∧ t1.get 30 = (.b c30) ∧ t1.get 4 = v0 ∧ t1.get 16 = v0 ∧ t1.get 17 = (.i .i64 x17) ∧ t1.get 18 = (.i .i64 x18)
def g71_b1 (M : Means) (ro : List ABlk) (v0 : AVal) (x17 : Int) (x18 : Int) (m_1 : Mm) : Option ((Int × Mm) ⊕ ((Mm ⊕ (AVal × Int × Mm)))) :=
  forceB (ltI x18 x17) fun c19 =>
  cond c19 (
    bindO (evP .e (.ixS 1 (.c v0) (.c (.i .i64 x18)))) fun v20 =>
    bindO (ldM ro m_1 true 1 v20) fun v21 =>
    asS v21 fun s21 =>
    bindO (evP .e (.len true (.c (.s s21)))) fun v23 =>
    asI .i64 v23 fun x23 =>
    forceB (ltI 8 x23) fun c24 =>
    bindO (cond c24 (
      some (true, m_1)) (
      bindP (callM M.call m_1 92 [v0, (.s s21)]) fun v28 m_3 =>
      asB v28 fun c28 =>
      forceB (!c28) fun c29 =>
      some (c29, m_3))) fun ⟨c30, m_2⟩ =>
    cond c30 (
      some (.inr (.inr (AVal.nsl, 5, m_2)))) (
      forceI (wr .i64 (x18 + 1)) fun x31 =>
      some (.inl (x31, m_2)))) (
    some (.inr (.inl m_1)))
def g71 (M : Means) (ro : List ABlk) (v0 : AVal) (m0 : Mm) : Option (AVal × Heap × Nat × Nat) :=
  bindO (evP .e (.len false (.c v0))) fun v8 =>
  asI .i64 v8 fun x8 =>
  forceB (ltI x8 1) fun c9 =>
  bindO (cond c9 (
    some true) (
    bindO (evP .e (.len false (.c v0))) fun v12 =>
    asI .i64 v12 fun x12 =>
    forceB (ltI 6 x12) fun c13 =>
    some c13)) fun c14 =>
  cond c14 (
    finM m0.h.length (tupA [AVal.nsl, (.i .i64 2)]) m0) (
    bindO (evP .e (.len false (.c v0))) fun v17 =>
    asI .i64 v17 fun x17 =>
    bindO (M.loop (S := Int × Mm) (R := (Mm ⊕ (AVal × Int × Mm))) (fun s => g71_b1 M ro v0 x17 s.1 s.2) (0, m0)) fun o_2 => match o_2 with
    | (.inl m_4) =>
      finM m0.h.length (tupA [v0, (.i .i64 0)]) m_4
    | (.inr (v2, x3, m_5)) =>
      finM m0.h.length (tupA [v2, (.i .i64 x3)]) m_5)
theorem g71_ok {ro : List ABlk} {O : Caller} {M : Means} (hM : M.Ok ⟨F, O⟩ ro) {v0 h r} (ho : O 71 [v0] h = none) (hr : g71 M ro v0 ⟨h, h.length, h.length⟩ = some r) : callX ⟨F, O⟩ ro 71 [v0] h = some r := by
  refine callX_of (F := ⟨F, O⟩) (fn := fn71) (g := g71 M ro v0) ho rfl rfl hr ?_
  clear ho
  clear hr
  intro m0 t0 ht hr
  have g0 : t0.get 0 = v0 := ht 0
  clear ht
  unfold g71 at hr
  refine w_seq (w_ops (wo_step (v := AVal.nsl) (s_pure (p_mv rfl)) (wo_step (v := (.i .i64 0)) (s_pure (p_mv rfl)) (wo_nil (nx_norm (w_seq (w_seq (w_ops (wo_step (s_pure (p_mv g0)) ?_)))))))))
  obtain ⟨v8, e8, z1⟩ := bindO_inv hr
  obtain ⟨x8, rfl, z2⟩ := asI_inv z1
  refine wo_step (s_pure (o_len rfl e8)) ?_
  obtain ⟨c9, e9, z3⟩ := forceB_inv z2
  refine wo_step (s_pure (p_bin rfl rfl (b_lss.trans (cb e9)))) (wo_step (v := (.b c9)) (s_pure (p_mv rfl)) ?_)
  obtain ⟨o, z4, hk⟩ := bindO_inv z3
  refine wo_join 4 (g71_J0 v0 m0 o) ?_ ?_
  · clear hk
    rcases cond_inv z4 with ⟨rfl, z5⟩ | ⟨rfl, z5⟩
    · refine wo_skip (v := (.b true)) rfl rfl (wo_skip (v := (.b true)) rfl rfl (wo_skip (v := (.b true)) rfl rfl (wo_step (v := (.b true)) (s_pure (p_pickT rfl rfl)) (wo_nil ?_))))
      cases z5
      exact ⟨_, _, rfl, rfl, gl rfl, gl g0⟩
    · refine wo_take (v := v0) rfl (s_pure (p_mv g0)) ?_
      obtain ⟨v12, e12, z6⟩ := bindO_inv z5
      obtain ⟨x12, rfl, z7⟩ := asI_inv z6
      refine wo_take (v := (.i .i64 x12)) rfl (s_pure (o_len rfl e12)) ?_
      obtain ⟨c13, e13, z8⟩ := forceB_inv z7
      refine wo_take (v := (.b c13)) rfl (s_pure (p_bin rfl rfl (b_gtr.trans (cb e13)))) (wo_step (v := (.b c13)) (s_pure (p_pickF rfl rfl)) (wo_nil ?_))
      cases z8
      exact ⟨_, _, rfl, rfl, gl rfl, gl g0⟩
  · clear z4
    have hr := hk
    clear hk
    obtain ⟨c14, ho⟩ : ∃ z, z = o := ⟨_, rfl⟩
    subst ho
    rintro mm t_1 ⟨rfl, g14, g0⟩
    refine wo_nil (nx_norm ?_)
    rcases cond_inv hr with ⟨rfl, z9⟩ | ⟨rfl, z9⟩
    · refine w_condT g14 ?_
      refine w_seq (w_ops (wo_step (v := AVal.nsl) (s_pure (p_mv rfl)) (wo_step (v := (.i .i64 2)) (s_pure (p_mv rfl)) (wo_nil (nx_norm ?_)))))
      refine w_ret ?_
      refine nx_ret ?_
      exact qf ret_ok (rt rfl (rt rfl rn)) z9
    · refine w_condF g14 ?_
      refine w_skip (nx_norm (w_seq (w_ops (wo_step (s_pure (p_mv g0)) (wo_step (v := v0) (s_pure (p_mv rfl)) (wo_nil (nx_norm (w_seq (w_seq (w_ops (wo_step (v := v0) (s_pure (p_mv rfl)) ?_)))))))))))
      obtain ⟨v17, e17, z10⟩ := bindO_inv z9
      obtain ⟨x17, rfl, z11⟩ := asI_inv z10
      refine wo_step (s_pure (o_len rfl e17)) (wo_step (v := (.i .i64 0)) (s_pure (p_mv rfl)) (wo_nil (nx_norm ?_)))
      refine w_block ?_
      obtain ⟨o_2, hl, z12⟩ := bindO_inv z11
      obtain ⟨n, hl⟩ := hM.loop _ _ _ hl
      refine jp_mono (w_loop _ (g71_I1 v0 x17) (g71_J1 v0 x17) ?_ n _ _ _ _ hl ⟨rfl, gl rfl, gl rfl, gl rfl, gl rfl⟩) ?_
      · clear z12 hl
        intro s mm_4 t_2 o hi hr
        obtain ⟨x18, m_1⟩ := s
        obtain ⟨rfl, g18, g4, g16, g17⟩ := hi
        unfold g71_b1 at hr
        refine w_seq (w_ops ?_)
        obtain ⟨c19, e19, z13⟩ := forceB_inv hr
        refine wo_step (s_pure (p_bin g18 g17 (b_lss.trans (cb e19)))) (wo_nil (nx_norm (w_seq ?_)))
        rcases cond_inv z13 with ⟨rfl, z14⟩ | ⟨rfl, z14⟩
        · refine w_condT rfl ?_
          refine w_skip (nx_norm (w_seq ?_))
          refine w_block ?_
          refine w_seq (w_ops ?_)
          obtain ⟨v20, e20, z15⟩ := bindO_inv z14
          refine wo_step (s_pure (o_ixS g16 g18 e20)) ?_
          obtain ⟨v21, e21, z16⟩ := bindO_inv z15
          obtain ⟨s21, rfl, z17⟩ := asS_inv z16
          refine wo_step (s_ld rfl e21) (wo_step (v := (.s s21)) (s_pure (p_mv rfl)) (wo_nil (nx_norm (w_seq (w_ops (wo_step (v := (.s s21)) (s_pure (p_mv rfl)) ?_))))))
          obtain ⟨v23, e23, z18⟩ := bindO_inv z17
          obtain ⟨x23, rfl, z19⟩ := asI_inv z18
          refine wo_step (s_pure (o_len rfl e23)) ?_
          obtain ⟨c24, e24, z20⟩ := forceB_inv z19
          refine wo_step (s_pure (p_bin rfl rfl (b_gtr.trans (cb e24)))) (wo_step (v := (.b c24)) (s_pure (p_mv rfl)) ?_)
          obtain ⟨o_1, z21, hk⟩ := bindO_inv z20
          refine wo_join 5 (g71_J2 v0 x17 x18 o_1) ?_ ?_
          · clear hk
            rcases cond_inv z21 with ⟨rfl, z22⟩ | ⟨rfl, z22⟩
            · refine wo_skip (v := (.b true)) rfl rfl (wo_skip (v := (.b true)) rfl rfl (wo_skip (v := (.b true)) rfl rfl (wo_skip (v := (.b true)) rfl rfl (wo_step (v := (.b true)) (s_pure (p_pickT rfl rfl)) (wo_nil ?_)))))
              cases z22
              exact ⟨_, _, rfl, rfl, gl rfl, gl g4, gl g16, gl g17, gl g18⟩
            · refine wo_take (v := v0) rfl (s_pure (p_mv g4)) (wo_take (v := (.s s21)) rfl (s_pure (p_mv rfl)) ?_)
              obtain ⟨v28, m_3, e28, z23⟩ := bindP_inv z22
              obtain ⟨c28, rfl, z24⟩ := asB_inv z23
              refine wo_take (v := (.b c28)) rfl (s_call (mc rfl (mc rfl mn)) (callM_le hM.call e28)) ?_
              obtain ⟨c29, e29, z25⟩ := forceB_inv z24
              refine wo_take (v := (.b c29)) rfl (s_pure ((p_not rfl).trans (cb e29))) (wo_step (v := (.b c29)) (s_pure (p_pickF rfl rfl)) (wo_nil ?_))
              cases z25
              exact ⟨_, _, rfl, rfl, gl rfl, gl g4, gl g16, gl g17, gl g18⟩
          · clear z21
            have hr := hk
            clear hk
            obtain ⟨c30, m_2⟩ := o_1
            rintro mm_1 t_3 ⟨rfl, g30, g4, g16, g17, g18⟩
            refine wo_nil (nx_norm ?_)
            rcases cond_inv hr with ⟨rfl, z26⟩ | ⟨rfl, z26⟩
            · refine w_condT g30 ?_
              refine w_seq (w_ops (wo_step (v := AVal.nsl) (s_pure (p_mv rfl)) (wo_step (v := (.i .i64 5)) (s_pure (p_mv rfl)) (wo_nil (nx_norm ?_)))))
              refine w_ret ?_
              refine bk_ret ?_
              refine nx_ret ?_
              cases z26
              exact ⟨_, _, rfl, ne_norm_ret, rfl, rfl, gl rfl, gl rfl⟩
            · refine w_condF g30 ?_
              refine w_skip ?_
              refine bk_norm ?_
              refine nx_norm (w_ops ?_)
              obtain ⟨x31, e31, z27⟩ := forceI_inv z26
              refine wo_step (s_pure (p_bin g18 rfl (b_add.trans (ci e31)))) (wo_step (v := (.i .i64 x31)) (s_pure (p_mv rfl)) (wo_nil ?_))
              cases z27
              exact ⟨_, _, rfl, rfl, rfl, gl rfl, gl g4, gl g16, gl g17⟩
        · refine w_condF rfl ?_
          refine w_exit ?_
          refine nx_exit ?_
          cases z14
          exact ⟨_, _, rfl, ne_norm_exit, rfl, rfl, gl g4⟩
      · rcases o_2 with o_2 | o_2
        · obtain ⟨m_4, ho⟩ : ∃ z, z = o_2 := ⟨_, rfl⟩
          subst ho
          rintro _ mm_2 t_4 ⟨rfl, rfl, g4⟩
          refine bk_hit ?_
          refine nx_norm (w_seq (w_ops (wo_step (s_pure (p_mv g4)) (wo_step (v := v0) (s_pure (p_mv rfl)) (wo_step (v := (.i .i64 0)) (s_pure (p_mv rfl)) (wo_nil (nx_norm ?_)))))))
          refine w_ret ?_
          exact qf ret_ok (rt rfl (rt rfl rn)) z12
        · obtain ⟨v2, x3, m_5⟩ := o_2
          rintro _ mm_3 t_5 ⟨rfl, rfl, g2, g3⟩
          refine bk_ret ?_
          refine nx_ret ?_
          exact qf ret_ok (rt g2 (rt g3 rn)) z12
/- (dibber/vine.rules).bud -/

def g72 (M : Means) (ro : List ABlk) (v0 : AVal) (x1 : Int) (m0 : Mm) : Option (AVal × Heap × Nat × Nat) :=
  bindO (some (Mm.base m0)) fun m_1 =>
  bindO (evP .e (.ixS 1 (.c v0) (.c (.i .i64 x1)))) fun v12 =>
  bindO (ldA ro m0.h true 1 v12) fun v13 =>
  asS v13 fun s13 =>
  bindP (callM M.call m_1 89 [(.i .i64 x1)]) fun v15 m_2 =>
  asS v15 fun s15 =>
  chk (!Nat.blt m_2.lw m0.h.length) <|
  bindP (callM M.call m_2 97 [(.s s13), (.s s15)]) fun v16 m_3 =>
  bindO (evP .e (.ext 0 (.c v16))) fun v17 =>
  asS v17 fun s17 =>
  bindO (evP .e (.ext 1 (.c v16))) fun v18 =>
  asB v18 fun c18 =>
  bindO (some (Mm.join m0 m_3)) fun m_4 =>
  forceB (!c18) fun c20 =>
  cond c20 (
    finM m0.h.length (tupA [(.b false)]) m_4) (
    bindP (callM M.call m_4 61 [v0, (.s s17)]) fun v24 m_5 =>
    bindO (evP .e (.ext 0 (.c v24))) fun v25 =>
    asI .i64 v25 fun x25 =>
    bindO (evP .e (.ext 1 (.c v24))) fun v26 =>
    asB v26 fun c26 =>
    forceB (!c26) fun c28 =>
    finM m0.h.length (tupA [(.b c28)]) m_5)
theorem g72_ok {ro : List ABlk} {O : Caller} {M : Means} (hM : M.Ok ⟨F, O⟩ ro) {v0 x1 h r} (ho : O 72 [v0, (.i .i64 x1)] h = none) (hr : g72 M ro v0 x1 ⟨h, h.length, h.length⟩ = some r) : callX ⟨F, O⟩ ro 72 [v0, (.i .i64 x1)] h = some r := by
  refine callX_of (F := ⟨F, O⟩) (fn := fn72) (g := g72 M ro v0 x1) ho rfl rfl hr ?_
  clear ho
  clear hr
  intro m0 t0 ht hr
  have g0 : t0.get 0 = v0 := ht 0
  have g1 : t0.get 1 = (.i .i64 x1) := ht 1
  clear ht
  unfold g72 at hr
  refine w_seq (w_ops (wo_step (v := (.b false)) (s_pure (p_mv rfl)) (wo_nil (nx_norm (w_seq ?_)))))
  obtain ⟨m_1, ef, z1⟩ := bindO_inv hr
  refine w_flt (af := true) rfl ef ?_
  refine wf_step (v := v0) (f_P rfl (s_pure (p_mv g0))) ?_
  refine wf_step (v := (.i .i64 x1)) (f_P rfl (s_pure (p_mv g1))) ?_
  obtain ⟨v12, e12, z2⟩ := bindO_inv z1
  refine wf_step (v := v12) (f_P rfl (s_pure (o_ixS rfl rfl e12))) ?_
  obtain ⟨v13, e13, z3⟩ := bindO_inv z2
  obtain ⟨s13, rfl, z4⟩ := asS_inv z3
  refine wf_step (v := (.s s13)) (f_ld rfl e13) ?_
  refine wf_step (v := (.i .i64 x1)) (f_P rfl (s_pure (p_mv g1))) ?_
  obtain ⟨v15, m_2, e15, z5⟩ := bindP_inv z4
  obtain ⟨s15, rfl, z6⟩ := asS_inv z5
  obtain ⟨hc15, z7⟩ := chk_inv z6
  refine wf_step (v := (.s s15)) (f_M hc15 (s_call (mc rfl mn) (callM_le hM.call e15))) ?_
  obtain ⟨v16, m_3, e16, z8⟩ := bindP_inv z7
  refine wf_step (v := v16) (f_F rfl (s_call (mc rfl (mc rfl mn)) (callM_le hM.call e16))) ?_
  refine wf_step (v := v16) (f_P rfl (s_pure (p_mv rfl))) ?_
  obtain ⟨v17, e17, z9⟩ := bindO_inv z8
  obtain ⟨s17, rfl, z10⟩ := asS_inv z9
  refine wf_step (v := (.s s17)) (f_P rfl (s_pure (o_ext rfl e17))) ?_
  obtain ⟨v18, e18, z11⟩ := bindO_inv z10
  obtain ⟨c18, rfl, z12⟩ := asB_inv z11
  refine wf_step (v := (.b c18)) (f_P rfl (s_pure (o_ext rfl e18))) ?_
  refine wf_step (v := (.s s17)) (f_P rfl (s_pure (p_mv rfl))) ?_
  refine wf_step (v := (.b c18)) (f_P rfl (s_pure (p_mv rfl))) ?_
  obtain ⟨m_4, ef_1, z13⟩ := bindO_inv z12
  refine wf_end ef_1 ?_
  refine nx_norm (w_seq (w_seq (w_ops (wo_step (v := (.b c18)) (s_pure (p_mv rfl)) ?_))))
  obtain ⟨c20, e20, z14⟩ := forceB_inv z13
  refine wo_step (s_pure ((p_not rfl).trans (cb e20))) (wo_nil (nx_norm ?_))
  rcases cond_inv z14 with ⟨rfl, z15⟩ | ⟨rfl, z15⟩
  · refine w_condT rfl ?_
    refine w_seq (w_ops (wo_step (v := (.b false)) (s_pure (p_mv rfl)) (wo_nil (nx_norm ?_))))
    refine w_ret ?_
    refine nx_ret ?_
    exact qf ret_ok (rt rfl rn) z15
  · refine w_condF rfl ?_
    refine w_skip (nx_norm (w_seq (w_ops (wo_step (s_pure (p_mv g0)) (wo_step (v := (.s s17)) (s_pure (p_mv rfl)) ?_)))))
    obtain ⟨v24, m_5, e24, z16⟩ := bindP_inv z15
    refine wo_step (s_call (mc rfl (mc rfl mn)) (callM_le hM.call e24)) (wo_step (v := v24) (s_pure (p_mv rfl)) ?_)
    obtain ⟨v25, e25, z17⟩ := bindO_inv z16
    obtain ⟨x25, rfl, z18⟩ := asI_inv z17
    refine wo_step (s_pure (o_ext rfl e25)) ?_
    obtain ⟨v26, e26, z19⟩ := bindO_inv z18
    obtain ⟨c26, rfl, z20⟩ := asB_inv z19
    refine wo_step (s_pure (o_ext rfl e26)) (wo_step (v := (.i .i64 x25)) (s_pure (p_mv rfl)) (wo_step (v := (.b c26)) (s_pure (p_mv rfl)) (wo_nil (nx_norm (w_seq (w_ops (wo_step (v := (.b c26)) (s_pure (p_mv rfl)) ?_)))))))
    obtain ⟨c28, e28, z21⟩ := forceB_inv z20
    refine wo_step (s_pure ((p_not rfl).trans (cb e28))) (wo_step (v := (.b c28)) (s_pure (p_mv rfl)) (wo_nil (nx_norm ?_)))
    refine w_ret ?_
    exact qf ret_ok (rt rfl rn) z21
/- dibber/vine.readBud -/
abbrev g74_J0 (s1 : List UInt8) (v13 : AVal) (o : Bool × Mm) (m1 : Mm) (t1 : Tr) : Prop :=
  match o with
  | (c26, m_2) => m_2 = m1 ∧ t1.get 26 = (.b c26) ∧ t1.get 1 = (.s s1) ∧ t1.get 7 = v13
def g74 (M : Means) (ro : List ABlk) (v0 : AVal) (s1 : List UInt8) (m0 : Mm) : Option (AVal × Heap × Nat × Nat) :=
  bindP (callM M.call m0 71 [v0]) fun v12 m_1 =>
  bindO (evP .e (.ext 0 (.c v12))) fun v13 =>
  bindO (evP .e (.ext 1 (.c v12))) fun v14 =>
  asI .i64 v14 fun x14 =>
  forceB (!eqI x14 0) fun c16 =>
  cond c16 (
    finM m0.h.length (tupA [AVal.nsl, (.i .i64 0), (.i .i64 x14)]) m_1) (
    bindO (evP .e (.len true (.c (.s s1)))) fun v19 =>
    asI .i64 v19 fun x19 =>
    forceB (!eqI x19 1) fun c20 =>
    bindO (cond c20 (
      some (true, m_1)) (
      bindP (callM M.call m_1 92 [v13, (.s s1)]) fun v24 m_3 =>
      asB v24 fun c24 =>
      forceB (!c24) fun c25 =>
      some (c25, m_3))) fun ⟨c26, m_2⟩ =>
    cond c26 (
      finM m0.h.length (tupA [AVal.nsl, (.i .i64 0), (.i .i64 5)]) m_2) (
      bindO (evP .e (.ixStr (.c (.s s1)) (.c (.i .i64 0)))) fun v28 =>
      asI .u8 v28 fun x28 =>
      bindP (callM M.call m_2 54 [(.i .u8 x28)]) fun v29 m_4 =>
      asI .i64 v29 fun x29 =>
      bindP (callM M.call m_4 72 [v13, (.i .i64 x29)]) fun v32 m_5 =>
      asB v32 fun c32 =>
      forceB (!c32) fun c33 =>
      cond c33 (
        finM m0.h.length (tupA [AVal.nsl, (.i .i64 0), (.i .i64 10)]) m_5) (
        finM m0.h.length (tupA [v13, (.i .i64 x29), (.i .i64 0)]) m_5)))
theorem g74_ok {ro : List ABlk} {O : Caller} {M : Means} (hM : M.Ok ⟨F, O⟩ ro) {v0 s1 h r} (ho : O 74 [v0, (.s s1)] h = none) (hr : g74 M ro v0 s1 ⟨h, h.length, h.length⟩ = some r) : callX ⟨F, O⟩ ro 74 [v0, (.s s1)] h = some r := by
  refine callX_of (F := ⟨F, O⟩) (fn := fn74) (g := g74 M ro v0 s1) ho rfl rfl hr ?_
  clear ho
  clear hr
  intro m0 t0 ht hr
  have g0 : t0.get 0 = v0 := ht 0
  have g1 : t0.get 1 = (.s s1) := ht 1
  clear ht
  unfold g74 at hr
  refine w_seq (w_ops (wo_step (v := AVal.nsl) (s_pure (p_mv rfl)) (wo_step (v := (.i .i64 0)) (s_pure (p_mv rfl)) (wo_step (v := (.i .i64 0)) (s_pure (p_mv rfl)) (wo_nil (nx_norm (w_seq (w_ops (wo_step (s_pure (p_mv g0)) ?_)))))))))
  obtain ⟨v12, m_1, e12, z1⟩ := bindP_inv hr
  refine wo_step (s_call (mc rfl mn) (callM_le hM.call e12)) (wo_step (v := v12) (s_pure (p_mv rfl)) ?_)
  obtain ⟨v13, e13, z2⟩ := bindO_inv z1
  refine wo_step (s_pure (o_ext rfl e13)) ?_
  obtain ⟨v14, e14, z3⟩ := bindO_inv z2
  obtain ⟨x14, rfl, z4⟩ := asI_inv z3
  refine wo_step (s_pure (o_ext rfl e14)) (wo_step (v := v13) (s_pure (p_mv rfl)) (wo_step (v := (.i .i64 x14)) (s_pure (p_mv rfl)) (wo_nil (nx_norm (w_seq (w_seq (w_ops (wo_step (v := (.i .i64 x14)) (s_pure (p_mv rfl)) ?_))))))))
  obtain ⟨c16, e16, z5⟩ := forceB_inv z4
  refine wo_step (s_pure (p_bin rfl rfl (b_neq.trans (cb e16)))) (wo_nil (nx_norm ?_))
  rcases cond_inv z5 with ⟨rfl, z6⟩ | ⟨rfl, z6⟩
  · refine w_condT rfl ?_
    refine w_seq (w_ops (wo_step (v := (.i .i64 x14)) (s_pure (p_mv rfl)) (wo_step (v := AVal.nsl) (s_pure (p_mv rfl)) (wo_step (v := (.i .i64 0)) (s_pure (p_mv rfl)) (wo_step (v := (.i .i64 x14)) (s_pure (p_mv rfl)) (wo_nil (nx_norm ?_)))))))
    refine w_ret ?_
    refine nx_ret ?_
    exact qf ret_ok (rt rfl (rt rfl (rt rfl rn))) z6
  · refine w_condF rfl ?_
    refine w_skip (nx_norm (w_seq (w_seq (w_ops (wo_step (s_pure (p_mv g1)) ?_)))))
    obtain ⟨v19, e19, z7⟩ := bindO_inv z6
    obtain ⟨x19, rfl, z8⟩ := asI_inv z7
    refine wo_step (s_pure (o_len rfl e19)) ?_
    obtain ⟨c20, e20, z9⟩ := forceB_inv z8
    refine wo_step (s_pure (p_bin rfl rfl (b_neq.trans (cb e20)))) (wo_step (v := (.b c20)) (s_pure (p_mv rfl)) ?_)
    obtain ⟨o, z10, hk⟩ := bindO_inv z9
    refine wo_join 5 (g74_J0 s1 v13 o) ?_ ?_
    · clear hk
      rcases cond_inv z10 with ⟨rfl, z11⟩ | ⟨rfl, z11⟩
      · refine wo_skip (v := (.b true)) rfl rfl (wo_skip (v := (.b true)) rfl rfl (wo_skip (v := (.b true)) rfl rfl (wo_skip (v := (.b true)) rfl rfl (wo_step (v := (.b true)) (s_pure (p_pickT rfl rfl)) (wo_nil ?_)))))
        cases z11
        exact ⟨_, _, rfl, rfl, gl rfl, gl g1, gl rfl⟩
      · refine wo_take (v := v13) rfl (s_pure (p_mv rfl)) (wo_take (v := (.s s1)) rfl (s_pure (p_mv g1)) ?_)
        obtain ⟨v24, m_3, e24, z12⟩ := bindP_inv z11
        obtain ⟨c24, rfl, z13⟩ := asB_inv z12
        refine wo_take (v := (.b c24)) rfl (s_call (mc rfl (mc rfl mn)) (callM_le hM.call e24)) ?_
        obtain ⟨c25, e25, z14⟩ := forceB_inv z13
        refine wo_take (v := (.b c25)) rfl (s_pure ((p_not rfl).trans (cb e25))) (wo_step (v := (.b c25)) (s_pure (p_pickF rfl rfl)) (wo_nil ?_))
        cases z14
        exact ⟨_, _, rfl, rfl, gl rfl, gl g1, gl rfl⟩
    · clear z10
      have hr := hk
      clear hk
      obtain ⟨c26, m_2⟩ := o
      rintro mm t_1 ⟨rfl, g26, g1, g7⟩
      refine wo_nil (nx_norm ?_)
      rcases cond_inv hr with ⟨rfl, z15⟩ | ⟨rfl, z15⟩
      · refine w_condT g26 ?_
        refine w_seq (w_ops (wo_step (v := AVal.nsl) (s_pure (p_mv rfl)) (wo_step (v := (.i .i64 0)) (s_pure (p_mv rfl)) (wo_step (v := (.i .i64 5)) (s_pure (p_mv rfl)) (wo_nil (nx_norm ?_))))))
        refine w_ret ?_
        refine nx_ret ?_
        exact qf ret_ok (rt rfl (rt rfl (rt rfl rn))) z15
      · refine w_condF g26 ?_
        refine w_skip (nx_norm (w_seq (w_ops (wo_step (s_pure (p_mv g1)) ?_))))
        obtain ⟨v28, e28, z16⟩ := bindO_inv z15
        obtain ⟨x28, rfl, z17⟩ := asI_inv z16
        refine wo_step (s_pure (o_ixStr rfl rfl e28)) ?_
        obtain ⟨v29, m_4, e29, z18⟩ := bindP_inv z17
        obtain ⟨x29, rfl, z19⟩ := asI_inv z18
        refine wo_step (s_call (mc rfl mn) (callM_le hM.call e29)) (wo_step (v := (.i .i64 x29)) (s_pure (p_mv rfl)) (wo_nil (nx_norm (w_seq (w_seq (w_ops (wo_step (s_pure (p_mv g7)) (wo_step (v := (.i .i64 x29)) (s_pure (p_mv rfl)) ?_))))))))
        obtain ⟨v32, m_5, e32, z20⟩ := bindP_inv z19
        obtain ⟨c32, rfl, z21⟩ := asB_inv z20
        refine wo_step (s_call (mc rfl (mc rfl mn)) (callM_le hM.call e32)) ?_
        obtain ⟨c33, e33, z22⟩ := forceB_inv z21
        refine wo_step (s_pure ((p_not rfl).trans (cb e33))) (wo_nil (nx_norm ?_))
        rcases cond_inv z22 with ⟨rfl, z23⟩ | ⟨rfl, z23⟩
        · refine w_condT rfl ?_
          refine w_seq (w_ops (wo_step (v := AVal.nsl) (s_pure (p_mv rfl)) (wo_step (v := (.i .i64 0)) (s_pure (p_mv rfl)) (wo_step (v := (.i .i64 10)) (s_pure (p_mv rfl)) (wo_nil (nx_norm ?_))))))
          refine w_ret ?_
          refine nx_ret ?_
          exact qf ret_ok (rt rfl (rt rfl (rt rfl rn))) z23
        · refine w_condF rfl ?_
          refine w_skip (nx_norm (w_seq (w_ops (wo_step (s_pure (p_mv g7)) (wo_step (v := (.i .i64 x29)) (s_pure (p_mv rfl)) (wo_step (v := v13) (s_pure (p_mv rfl)) (wo_step (v := (.i .i64 x29)) (s_pure (p_mv rfl)) (wo_step (v := (.i .i64 0)) (s_pure (p_mv rfl)) (wo_nil (nx_norm ?_))))))))))
          refine w_ret ?_
          exact qf ret_ok (rt rfl (rt rfl (rt rfl rn))) z23
/- (dibber/vine.rules).endless -/

def g75 (M : Means) (ro : List ABlk) (v0 : AVal) (x1 : Int) (m0 : Mm) : Option (AVal × Heap × Nat × Nat) :=
  bindP (stepM ro m0 (.bx 55 1 (.c v0))) fun v2 m_1 =>
  bindP (stepM ro m_1 (.bx 3 1 (.c (.i .i64 x1)))) fun v3 m_2 =>
  bindO (some (AVal.fn 98 [] [v2, v3])) fun v5 =>
  finM m0.h.length (tupA [v5]) m_2
theorem g75_ok {ro : List ABlk} {O : Caller} {M : Means} (hM : M.Ok ⟨F, O⟩ ro) {v0 x1 h r} (ho : O 75 [v0, (.i .i64 x1)] h = none) (hr : g75 M ro v0 x1 ⟨h, h.length, h.length⟩ = some r) : callX ⟨F, O⟩ ro 75 [v0, (.i .i64 x1)] h = some r := by
  refine callX_of (F := ⟨F, O⟩) (fn := fn75) (g := g75 M ro v0 x1) ho rfl rfl hr ?_
  clear ho
  clear hr
  intro m0 t0 ht hr
  have g0 : t0.get 0 = v0 := ht 0
  have g1 : t0.get 1 = (.i .i64 x1) := ht 1
  clear ht
  unfold g75 at hr
  refine w_seq (w_ops ?_)
  obtain ⟨v2, m_1, e2, z1⟩ := bindP_inv hr
  refine wo_step (s_bx g0 e2) ?_
  obtain ⟨v3, m_2, e3, z2⟩ := bindP_inv z1
  refine wo_step (s_bx g1 e3) (wo_step (v := AVal.nfn) (s_pure (p_mv rfl)) (wo_nil (nx_norm (w_seq (w_ops ?_)))))
  obtain ⟨v5, e5, z3⟩ := bindO_inv z2
  refine wo_step (s_pure (Eq.trans (o_mkfn mn (mc rfl (mc rfl mn))) e5)) (wo_step (v := v5) (s_pure (p_mv rfl)) (wo_nil (nx_norm ?_)))
  refine w_ret ?_
  exact qf ret_ok (rt rfl rn) z3
/- dibber/dibberref03.Letters -/
abbrev g85_I0 (v0 : AVal) (s1 : List UInt8) (m0 : Mm) (s : Int) (m1 : Mm) (t1 : Tr) : Prop :=
  match s with
  | x5 => m0 = m1 ∧ t1.get 5 = (.i .i64 x5) ∧ t1.get 0 = v0 ∧ t1.get 1 = (.s s1)
abbrev g85_J0 (v0 : AVal) (s1 : List UInt8) (m0 : Mm) (o : (Unit ⊕ Bool)) (e : AExit) (m1 : Mm) (t1 : Tr) : Prop :=
  match o with
  | (.inl _) => e = (.exit 0) ∧ m0 = m1
  | (.inr y4) => e = .ret ∧ m0 = m1 ∧ t1.get 4 = (.b y4)
abbrev g85_J1 (v0 : AVal) (s1 : List UInt8) (x5 : Int) (m0 : Mm) (o : Bool) (m1 : Mm) (t1 : Tr) : Prop :=
  match o with
  | c25 => m0 = m1 ∧ t1.get 25 = (.b c25) ∧ t1.get 0 = v0 ∧ t1.get 1 = (.s s1) ∧ t1.get 5 = (.i .i64 x5)
def g85_b0 (M : Means) (ro : List ABlk) (v0 : AVal) (s1 : List UInt8) (m0 : Mm) (x5 : Int) : Option ((Int) ⊕ ((Unit ⊕ Bool))) :=
  bindO (evP .e (.len true (.c (.s s1)))) fun v8 =>
  asI .i64 v8 fun x8 =>
  forceB (ltI x5 x8) fun c9 =>
  cond c9 (
    bindO (evP .e (.ixStr (.c (.s s1)) (.c (.i .i64 x5)))) fun v14 =>
    asI .u8 v14 fun x14 =>
    forceB (ltI x14 97) fun c15 =>
    bindO (cond c15 (
      some true) (
      bindO (evP .e (.ixStr (.c (.s s1)) (.c (.i .i64 x5)))) fun v19 =>
      asI .u8 v19 fun x19 =>
      forceI (wr .u8 (x19 - 97)) fun x20 =>
      forceI (wr .i64 x20) fun x21 =>
      bindO (evP .e (.len false (.c v0))) fun v23 =>
      asI .i64 v23 fun x23 =>
      forceB (!ltI x21 x23) fun c24 =>
      some c24)) fun c25 =>
    cond c25 (
      some (.inr (.inr false))) (
      forceI (wr .i64 (x5 + 1)) fun x11 =>
      some (.inl x11))) (
    some (.inr (.inl ())))
def g85 (M : Means) (ro : List ABlk) (v0 : AVal) (s1 : List UInt8) (m0 : Mm) : Option (AVal × Heap × Nat × Nat) :=
  bindO (M.loop (S := Int) (R := (Unit ⊕ Bool)) (fun s => g85_b0 M ro v0 s1 m0 s) 0) fun o_1 => match o_1 with
  | (.inl _) =>
    finM m0.h.length (tupA [(.b true)]) m0
  | (.inr c4) =>
    finM m0.h.length (tupA [(.b c4)]) m0
theorem g85_ok {ro : List ABlk} {O : Caller} {M : Means} (hM : M.Ok ⟨F, O⟩ ro) {v0 s1 h r} (ho : O 85 [v0, (.s s1)] h = none) (hr : g85 M ro v0 s1 ⟨h, h.length, h.length⟩ = some r) : callX ⟨F, O⟩ ro 85 [v0, (.s s1)] h = some r := by
  refine callX_of (F := ⟨F, O⟩) (fn := fn85) (g := g85 M ro v0 s1) ho rfl rfl hr ?_
  clear ho
  clear hr
  intro m0 t0 ht hr
  have g0 : t0.get 0 = v0 := ht 0
  have g1 : t0.get 1 = (.s s1) := ht 1
  clear ht
  unfold g85 at hr
  refine w_seq (w_ops (wo_step (v := (.b false)) (s_pure (p_mv rfl)) (wo_nil (nx_norm (w_seq (w_seq (w_ops (wo_step (v := (.i .i64 0)) (s_pure (p_mv rfl)) (wo_nil (nx_norm ?_))))))))))
  refine w_block ?_
  obtain ⟨o_1, hl, z1⟩ := bindO_inv hr
  obtain ⟨n, hl⟩ := hM.loop _ _ _ hl
  refine jp_mono (w_loop _ (g85_I0 v0 s1 m0) (g85_J0 v0 s1 m0) ?_ n _ _ _ _ hl ⟨rfl, gl rfl, gl g0, gl g1⟩) ?_
  · clear z1 hl
    intro s mm_3 t_1 o hi hr
    obtain ⟨x5, hs⟩ : ∃ z, z = s := ⟨_, rfl⟩
    subst hs
    obtain ⟨rfl, g5, g0, g1⟩ := hi
    unfold g85_b0 at hr
    refine w_seq (w_seq (w_ops (wo_step (s_pure (p_mv g5)) (wo_step (s_pure (p_mv g1)) ?_))))
    obtain ⟨v8, e8, z2⟩ := bindO_inv hr
    obtain ⟨x8, rfl, z3⟩ := asI_inv z2
    refine wo_step (s_pure (o_len rfl e8)) ?_
    obtain ⟨c9, e9, z4⟩ := forceB_inv z3
    refine wo_step (s_pure (p_bin rfl rfl (b_lss.trans (cb e9)))) (wo_nil (nx_norm ?_))
    rcases cond_inv z4 with ⟨rfl, z5⟩ | ⟨rfl, z5⟩
    · refine w_condT rfl ?_
      refine w_skip (nx_norm (w_seq ?_))
      refine w_block ?_
      refine w_seq (w_ops (wo_step (s_pure (p_mv g1)) (wo_step (s_pure (p_mv g5)) ?_)))
      obtain ⟨v14, e14, z6⟩ := bindO_inv z5
      obtain ⟨x14, rfl, z7⟩ := asI_inv z6
      refine wo_step (s_pure (o_ixStr rfl rfl e14)) ?_
      obtain ⟨c15, e15, z8⟩ := forceB_inv z7
      refine wo_step (s_pure (p_bin rfl rfl (b_lss.trans (cb e15)))) (wo_step (v := (.b c15)) (s_pure (p_mv rfl)) ?_)
      obtain ⟨o, z9, hk⟩ := bindO_inv z8
      refine wo_join 9 (g85_J1 v0 s1 x5 m0 o) ?_ ?_
      · clear hk
        rcases cond_inv z9 with ⟨rfl, z10⟩ | ⟨rfl, z10⟩
        · refine wo_skip (v := (.b true)) rfl rfl (wo_skip (v := (.b true)) rfl rfl (wo_skip (v := (.b true)) rfl rfl (wo_skip (v := (.b true)) rfl rfl (wo_skip (v := (.b true)) rfl rfl (wo_skip (v := (.b true)) rfl rfl (wo_skip (v := (.b true)) rfl rfl (wo_skip (v := (.b true)) rfl rfl (wo_step (v := (.b true)) (s_pure (p_pickT rfl rfl)) (wo_nil ?_)))))))))
          cases z10
          exact ⟨_, _, rfl, rfl, gl rfl, gl g0, gl g1, gl g5⟩
        · refine wo_take (v := (.s s1)) rfl (s_pure (p_mv g1)) (wo_take (v := (.i .i64 x5)) rfl (s_pure (p_mv g5)) ?_)
          obtain ⟨v19, e19, z11⟩ := bindO_inv z10
          obtain ⟨x19, rfl, z12⟩ := asI_inv z11
          refine wo_take (v := (.i .u8 x19)) rfl (s_pure (o_ixStr rfl rfl e19)) ?_
          obtain ⟨x20, e20, z13⟩ := forceI_inv z12
          refine wo_take (v := (.i .u8 x20)) rfl (s_pure (p_bin rfl rfl (b_sub.trans (ci e20)))) ?_
          obtain ⟨x21, e21, z14⟩ := forceI_inv z13
          refine wo_take (v := (.i .i64 x21)) rfl (s_pure ((p_conv rfl).trans (ci e21))) (wo_take (v := v0) rfl (s_pure (p_mv g0)) ?_)
          obtain ⟨v23, e23, z15⟩ := bindO_inv z14
          obtain ⟨x23, rfl, z16⟩ := asI_inv z15
          refine wo_take (v := (.i .i64 x23)) rfl (s_pure (o_len rfl e23)) ?_
          obtain ⟨c24, e24, z17⟩ := forceB_inv z16
          refine wo_take (v := (.b c24)) rfl (s_pure (p_bin rfl rfl (b_geq.trans (cb e24)))) (wo_step (v := (.b c24)) (s_pure (p_pickF rfl rfl)) (wo_nil ?_))
          cases z17
          exact ⟨_, _, rfl, rfl, gl rfl, gl g0, gl g1, gl g5⟩
      · clear z9
        have hr := hk
        clear hk
        obtain ⟨c25, ho⟩ : ∃ z, z = o := ⟨_, rfl⟩
        subst ho
        rintro mm t_2 ⟨rfl, g25, g0, g1, g5⟩
        refine wo_nil (nx_norm ?_)
        rcases cond_inv hr with ⟨rfl, z18⟩ | ⟨rfl, z18⟩
        · refine w_condT g25 ?_
          refine w_seq (w_ops (wo_step (v := (.b false)) (s_pure (p_mv rfl)) (wo_nil (nx_norm ?_))))
          refine w_ret ?_
          refine bk_ret ?_
          refine nx_ret ?_
          cases z18
          exact ⟨_, _, rfl, ne_norm_ret, rfl, rfl, gl rfl⟩
        · refine w_condF g25 ?_
          refine w_skip ?_
          refine bk_norm ?_
          refine nx_norm (w_ops (wo_step (s_pure (p_mv g5)) ?_))
          obtain ⟨x11, e11, z19⟩ := forceI_inv z18
          refine wo_step (s_pure (p_bin rfl rfl (b_add.trans (ci e11)))) (wo_step (v := (.i .i64 x11)) (s_pure (p_mv rfl)) (wo_nil ?_))
          cases z19
          exact ⟨_, _, rfl, rfl, rfl, gl rfl, gl g0, gl g1⟩
    · refine w_condF rfl ?_
      refine w_exit ?_
      refine nx_exit ?_
      cases z5
      exact ⟨_, _, rfl, ne_norm_exit, rfl, rfl⟩
  · rcases o_1 with o_1 | o_1
    · rintro _ mm_1 t_3 ⟨rfl, rfl⟩
      refine bk_hit ?_
      refine nx_norm (w_seq (w_ops (wo_step (v := (.b true)) (s_pure (p_mv rfl)) (wo_nil (nx_norm ?_)))))
      refine w_ret ?_
      exact qf ret_ok (rt rfl rn) z1
    · obtain ⟨c4, ho⟩ : ∃ z, z = o_1 := ⟨_, rfl⟩
      subst ho
      rintro _ mm_2 t_4 ⟨rfl, rfl, g4⟩
      refine bk_ret ?_
      refine nx_ret ?_
      exact qf ret_ok (rt g4 rn) z1
/- (dibber/vine.many).plus -/

def g86 (M : Means) (ro : List ABlk) (x0 : Int) (x1 : Int) (m0 : Mm) : Option (AVal × Heap × Nat × Nat) :=
  forceI (wr .u64 (9223372036854775808 - x1)) fun x7 =>
  forceB (ltI x7 x0) fun c8 =>
  cond c8 (
    finM m0.h.length (tupA [(.i .u64 9223372036854775808)]) m0) (
    forceI (wr .u64 (x0 + x1)) fun x11 =>
    finM m0.h.length (tupA [(.i .u64 x11)]) m0)
theorem g86_ok {ro : List ABlk} {O : Caller} {M : Means} (hM : M.Ok ⟨F, O⟩ ro) {x0 x1 h r} (ho : O 86 [(.i .u64 x0), (.i .u64 x1)] h = none) (hr : g86 M ro x0 x1 ⟨h, h.length, h.length⟩ = some r) : callX ⟨F, O⟩ ro 86 [(.i .u64 x0), (.i .u64 x1)] h = some r := by
  refine callX_of (F := ⟨F, O⟩) (fn := fn86) (g := g86 M ro x0 x1) ho rfl rfl hr ?_
  clear ho
  clear hr
  intro m0 t0 ht hr
  have g0 : t0.get 0 = (.i .u64 x0) := ht 0
  have g1 : t0.get 1 = (.i .u64 x1) := ht 1
  clear ht
  unfold g86 at hr
  refine w_seq (w_ops (wo_step (v := (.i .u64 0)) (s_pure (p_mv rfl)) (wo_nil (nx_norm (w_seq (w_seq (w_ops (wo_step (s_pure (p_mv g0)) (wo_step (s_pure (p_mv g1)) ?_)))))))))
  obtain ⟨x7, e7, z1⟩ := forceI_inv hr
  refine wo_step (s_pure (p_bin rfl rfl (b_sub.trans (ci e7)))) ?_
  obtain ⟨c8, e8, z2⟩ := forceB_inv z1
  refine wo_step (s_pure (p_bin rfl rfl (b_gtr.trans (cb e8)))) (wo_nil (nx_norm ?_))
  rcases cond_inv z2 with ⟨rfl, z3⟩ | ⟨rfl, z3⟩
  · refine w_condT rfl ?_
    refine w_seq (w_ops (wo_step (v := (.i .u64 9223372036854775808)) (s_pure (p_mv rfl)) (wo_nil (nx_norm ?_))))
    refine w_ret ?_
    refine nx_ret ?_
    exact qf ret_ok (rt rfl rn) z3
  · refine w_condF rfl ?_
    refine w_skip (nx_norm (w_seq (w_ops (wo_step (s_pure (p_mv g0)) (wo_step (s_pure (p_mv g1)) ?_)))))
    obtain ⟨x11, e11, z4⟩ := forceI_inv z3
    refine wo_step (s_pure (p_bin rfl rfl (b_add.trans (ci e11)))) (wo_step (v := (.i .u64 x11)) (s_pure (p_mv rfl)) (wo_nil (nx_norm ?_)))
    refine w_ret ?_
    exact qf ret_ok (rt rfl rn) z4
/- dibber/dibberref03.plus -/

def g87 (M : Means) (ro : List ABlk) (x0 : Int) (x1 : Int) (m0 : Mm) : Option (AVal × Heap × Nat × Nat) :=
  forceI (wr .u64 (9223372036854775808 - x1)) fun x7 =>
  forceB (!ltI x0 x7) fun c8 =>
  cond c8 (
    finM m0.h.length (tupA [(.i .u64 9223372036854775808)]) m0) (
    forceI (wr .u64 (x0 + x1)) fun x11 =>
    finM m0.h.length (tupA [(.i .u64 x11)]) m0)
theorem g87_ok {ro : List ABlk} {O : Caller} {M : Means} (hM : M.Ok ⟨F, O⟩ ro) {x0 x1 h r} (ho : O 87 [(.i .u64 x0), (.i .u64 x1)] h = none) (hr : g87 M ro x0 x1 ⟨h, h.length, h.length⟩ = some r) : callX ⟨F, O⟩ ro 87 [(.i .u64 x0), (.i .u64 x1)] h = some r := by
  refine callX_of (F := ⟨F, O⟩) (fn := fn87) (g := g87 M ro x0 x1) ho rfl rfl hr ?_
  clear ho
  clear hr
  intro m0 t0 ht hr
  have g0 : t0.get 0 = (.i .u64 x0) := ht 0
  have g1 : t0.get 1 = (.i .u64 x1) := ht 1
  clear ht
  unfold g87 at hr
  refine w_seq (w_ops (wo_step (v := (.i .u64 0)) (s_pure (p_mv rfl)) (wo_nil (nx_norm (w_seq (w_seq (w_ops (wo_step (s_pure (p_mv g0)) (wo_step (s_pure (p_mv g1)) ?_)))))))))
  obtain ⟨x7, e7, z1⟩ := forceI_inv hr
  refine wo_step (s_pure (p_bin rfl rfl (b_sub.trans (ci e7)))) ?_
  obtain ⟨c8, e8, z2⟩ := forceB_inv z1
  refine wo_step (s_pure (p_bin rfl rfl (b_geq.trans (cb e8)))) (wo_nil (nx_norm ?_))
  rcases cond_inv z2 with ⟨rfl, z3⟩ | ⟨rfl, z3⟩
  · refine w_condT rfl ?_
    refine w_seq (w_ops (wo_step (v := (.i .u64 9223372036854775808)) (s_pure (p_mv rfl)) (wo_nil (nx_norm ?_))))
    refine w_ret ?_
    refine nx_ret ?_
    exact qf ret_ok (rt rfl rn) z3
  · refine w_condF rfl ?_
    refine w_skip (nx_norm (w_seq (w_ops (wo_step (s_pure (p_mv g0)) (wo_step (s_pure (p_mv g1)) ?_)))))
    obtain ⟨x11, e11, z4⟩ := forceI_inv z3
    refine wo_step (s_pure (p_bin rfl rfl (b_add.trans (ci e11)))) (wo_step (v := (.i .u64 x11)) (s_pure (p_mv rfl)) (wo_nil (nx_norm ?_)))
    refine w_ret ?_
    exact qf ret_ok (rt rfl rn) z4
/- strings.Count -/
abbrev g88_I0 (s1 : List UInt8) (s : List UInt8 × Int × Mm) (m1 : Mm) (t1 : Tr) : Prop :=
  match s with
  | (s0_1, x5, m_3) => m_3 = m1 ∧ t1.get 0 = (.s s0_1) ∧ t1.get 5 = (.i .i64 x5) ∧ t1.get 1 = (.s s1)
abbrev g88_J0 (s1 : List UInt8) (o : (Int × Mm)) (e : AExit) (m1 : Mm) (t1 : Tr) : Prop :=
  match o with
  | (y4, mo) => e = .ret ∧ mo = m1 ∧ t1.get 4 = (.i .i64 y4)
def g88_b0 (M : Means) (ro : List ABlk) (s1 : List UInt8) (s0_1 : List UInt8) (x5 : Int) (m_3 : Mm) : Option ((List UInt8 × Int × Mm) ⊕ ((Int × Mm))) :=
  bindP (callM M.call m_3 101 [(.s s0_1), (.s s1)]) fun v22 m_4 =>
  asI .i64 v22 fun x22 =>
  forceB (eqI x22 (-1)) fun c24 =>
  cond c24 (
    some (.inr (x5, m_4))) (
    forceI (wr .i64 (x5 + 1)) fun x27 =>
    bindO (evP .e (.len true (.c (.s s1)))) fun v31 =>
    asI .i64 v31 fun x31 =>
    forceI (wr .i64 (x22 + x31)) fun x32 =>
    bindO (evP .e (.slStr (.c (.s s0_1)) (some (.c (.i .i64 x32))) none)) fun v33 =>
    asS v33 fun s33 =>
    some (.inl (s33, x27, m_4)))
def g88 (M : Means) (ro : List ABlk) (s0 : List UInt8) (s1 : List UInt8) (m0 : Mm) : Option (AVal × Heap × Nat × Nat) :=
  bindO (evP .e (.len true (.c (.s s1)))) fun v8 =>
  asI .i64 v8 fun x8 =>
  forceB (eqI x8 0) fun c9 =>
  cond c9 (
    bindP (callM M.call m0 99 [(.s s0)]) fun v11 m_1 =>
    asI .i64 v11 fun x11 =>
    forceI (wr .i64 (x11 + 1)) fun x12 =>
    finM m0.h.length (tupA [(.i .i64 x12)]) m_1) (
    bindO (evP .e (.len true (.c (.s s1)))) fun v14 =>
    asI .i64 v14 fun x14 =>
    forceB (eqI x14 1) fun c15 =>
    cond c15 (
      bindO (evP .e (.ixStr (.c (.s s1)) (.c (.i .i64 0)))) fun v18 =>
      asI .u8 v18 fun x18 =>
      bindP (stepM ro m0 (.cnt (.c (.s s0)) (.c (.i .u8 x18)))) fun v19 m_2 =>
      asI .i64 v19 fun x19 =>
      finM m0.h.length (tupA [(.i .i64 x19)]) m_2) (
      bindO (M.loop (S := List UInt8 × Int × Mm) (R := (Int × Mm)) (fun s => g88_b0 M ro s1 s.1 s.2.1 s.2.2) (s0, 0, m0)) fun ⟨x4, m_5⟩ =>
      finM m0.h.length (tupA [(.i .i64 x4)]) m_5))
theorem g88_ok {ro : List ABlk} {O : Caller} {M : Means} (hM : M.Ok ⟨F, O⟩ ro) {s0 s1 h r} (ho : O 88 [(.s s0), (.s s1)] h = none) (hr : g88 M ro s0 s1 ⟨h, h.length, h.length⟩ = some r) : callX ⟨F, O⟩ ro 88 [(.s s0), (.s s1)] h = some r := by
  refine callX_of (F := ⟨F, O⟩) (fn := fn88) (g := g88 M ro s0 s1) ho rfl rfl hr ?_
  clear ho
  clear hr
  intro m0 t0 ht hr
  have g0 : t0.get 0 = (.s s0) := ht 0
  have g1 : t0.get 1 = (.s s1) := ht 1
  clear ht
  unfold g88 at hr
  refine w_seq (w_ops (wo_step (v := (.i .i64 0)) (s_pure (p_mv rfl)) (wo_nil (nx_norm (w_seq (w_seq (w_ops (wo_step (s_pure (p_mv g1)) ?_))))))))
  obtain ⟨v8, e8, z1⟩ := bindO_inv hr
  obtain ⟨x8, rfl, z2⟩ := asI_inv z1
  refine wo_step (s_pure (o_len rfl e8)) ?_
  obtain ⟨c9, e9, z3⟩ := forceB_inv z2
  refine wo_step (s_pure (p_bin rfl rfl (b_eql.trans (cb e9)))) (wo_nil (nx_norm ?_))
  rcases cond_inv z3 with ⟨rfl, z4⟩ | ⟨rfl, z4⟩
  · refine w_condT rfl ?_
    refine w_seq (w_ops (wo_step (s_pure (p_mv g0)) ?_))
    obtain ⟨v11, m_1, e11, z5⟩ := bindP_inv z4
    obtain ⟨x11, rfl, z6⟩ := asI_inv z5
    refine wo_step (s_call (mc rfl mn) (callM_le hM.call e11)) ?_
    obtain ⟨x12, e12, z7⟩ := forceI_inv z6
    refine wo_step (s_pure (p_bin rfl rfl (b_add.trans (ci e12)))) (wo_step (v := (.i .i64 x12)) (s_pure (p_mv rfl)) (wo_nil (nx_norm ?_)))
    refine w_ret ?_
    refine nx_ret ?_
    exact qf ret_ok (rt rfl rn) z7
  · refine w_condF rfl ?_
    refine w_skip (nx_norm (w_seq (w_seq (w_ops (wo_step (s_pure (p_mv g1)) ?_)))))
    obtain ⟨v14, e14, z8⟩ := bindO_inv z4
    obtain ⟨x14, rfl, z9⟩ := asI_inv z8
    refine wo_step (s_pure (o_len rfl e14)) ?_
    obtain ⟨c15, e15, z10⟩ := forceB_inv z9
    refine wo_step (s_pure (p_bin rfl rfl (b_eql.trans (cb e15)))) (wo_nil (nx_norm ?_))
    rcases cond_inv z10 with ⟨rfl, z11⟩ | ⟨rfl, z11⟩
    · refine w_condT rfl ?_
      refine w_seq (w_ops (wo_step (s_pure (p_mv g0)) (wo_step (s_pure (p_mv g1)) ?_)))
      obtain ⟨v18, e18, z12⟩ := bindO_inv z11
      obtain ⟨x18, rfl, z13⟩ := asI_inv z12
      refine wo_step (s_pure (o_ixStr rfl rfl e18)) ?_
      obtain ⟨v19, m_2, e19, z14⟩ := bindP_inv z13
      obtain ⟨x19, rfl, z15⟩ := asI_inv z14
      refine wo_step (s_cnt rfl rfl e19) (wo_step (v := (.i .i64 x19)) (s_pure (p_mv rfl)) (wo_nil (nx_norm ?_)))
      refine w_ret ?_
      refine nx_ret ?_
      exact qf ret_ok (rt rfl rn) z15
    · refine w_condF rfl ?_
      refine w_skip (nx_norm (w_seq (w_ops (wo_step (v := (.i .i64 0)) (s_pure (p_mv rfl)) (wo_nil (nx_norm ?_))))))
      refine w_block ?_
      obtain ⟨o, hl, z16⟩ := bindO_inv z11
      obtain ⟨n, hl⟩ := hM.loop _ _ _ hl
      refine jp_mono (w_loop _ (g88_I0 s1) (g88_J0 s1) ?_ n _ _ _ _ hl ⟨rfl, gl g0, gl rfl, gl g1⟩) ?_
      · clear z16 hl
        intro s mm_1 t_1 o hi hr
        obtain ⟨s0_1, x5, m_3⟩ := s
        obtain ⟨rfl, g0, g5, g1⟩ := hi
        unfold g88_b0 at hr
        refine w_block ?_
        refine w_seq (w_ops (wo_step (s_pure (p_mv g0)) (wo_step (s_pure (p_mv g1)) ?_)))
        obtain ⟨v22, m_4, e22, z17⟩ := bindP_inv hr
        obtain ⟨x22, rfl, z18⟩ := asI_inv z17
        refine wo_step (s_call (mc rfl (mc rfl mn)) (callM_le hM.call e22)) (wo_step (v := (.i .i64 x22)) (s_pure (p_mv rfl)) (wo_nil (nx_norm (w_seq (w_seq (w_ops (wo_step (v := (.i .i64 x22)) (s_pure (p_mv rfl)) ?_)))))))
        obtain ⟨c24, e24, z19⟩ := forceB_inv z18
        refine wo_step (s_pure (p_bin rfl rfl (b_eql.trans (cb e24)))) (wo_nil (nx_norm ?_))
        rcases cond_inv z19 with ⟨rfl, z20⟩ | ⟨rfl, z20⟩
        · refine w_condT rfl ?_
          refine w_seq (w_ops (wo_step (s_pure (p_mv g5)) (wo_step (v := (.i .i64 x5)) (s_pure (p_mv rfl)) (wo_nil (nx_norm ?_)))))
          refine w_ret ?_
          refine nx_ret ?_
          refine bk_ret ?_
          cases z20
          exact ⟨_, _, rfl, ne_norm_ret, rfl, rfl, gl rfl⟩
        · refine w_condF rfl ?_
          refine w_skip (nx_norm (w_seq (w_ops (wo_step (s_pure (p_mv g5)) ?_))))
          obtain ⟨x27, e27, z21⟩ := forceI_inv z20
          refine wo_step (s_pure (p_bin rfl rfl (b_add.trans (ci e27)))) (wo_step (v := (.i .i64 x27)) (s_pure (p_mv rfl)) (wo_nil (nx_norm (w_ops (wo_step (s_pure (p_mv g0)) (wo_step (v := (.i .i64 x22)) (s_pure (p_mv rfl)) (wo_step (s_pure (p_mv g1)) ?_)))))))
          obtain ⟨v31, e31, z22⟩ := bindO_inv z21
          obtain ⟨x31, rfl, z23⟩ := asI_inv z22
          refine wo_step (s_pure (o_len rfl e31)) ?_
          obtain ⟨x32, e32, z24⟩ := forceI_inv z23
          refine wo_step (s_pure (p_bin rfl rfl (b_add.trans (ci e32)))) ?_
          obtain ⟨v33, e33, z25⟩ := bindO_inv z24
          obtain ⟨s33, rfl, z26⟩ := asS_inv z25
          refine wo_step (s_pure (o_slStr rfl (os rfl) on e33)) (wo_step (v := (.s s33)) (s_pure (p_mv rfl)) (wo_nil ?_))
          refine bk_norm ?_
          cases z26
          exact ⟨_, _, rfl, rfl, rfl, gl rfl, gl rfl, gl g1⟩
      · obtain ⟨x4, m_5⟩ := o
        rintro _ mm t_2 ⟨rfl, rfl, g4⟩
        refine bk_ret ?_
        exact qf ret_ok (rt g4 rn) z16
/- dibber/vine.letter -/

def g89 (M : Means) (ro : List ABlk) (x0 : Int) (m0 : Mm) : Option (AVal × Heap × Nat × Nat) :=
  forceI (wr .u8 x0) fun x4 =>
  forceI (wr .u8 (97 + x4)) fun x5 =>
  bindP (stepM ro m0 (.bsl 5 1 [(AVal.i IntKind.u8 0)] 1 [((0, 1), .c (.i .u8 x5))])) fun v6 m_1 =>
  bindO (btsM ro m_1 v6) fun v7 =>
  asS v7 fun s7 =>
  finM m0.h.length (tupA [(.s s7)]) m_1
theorem g89_ok {ro : List ABlk} {O : Caller} {M : Means} (hM : M.Ok ⟨F, O⟩ ro) {x0 h r} (ho : O 89 [(.i .i64 x0)] h = none) (hr : g89 M ro x0 ⟨h, h.length, h.length⟩ = some r) : callX ⟨F, O⟩ ro 89 [(.i .i64 x0)] h = some r := by
  refine callX_of (F := ⟨F, O⟩) (fn := fn89) (g := g89 M ro x0) ho rfl rfl hr ?_
  clear ho
  clear hr
  intro m0 t0 ht hr
  have g0 : t0.get 0 = (.i .i64 x0) := ht 0
  clear ht
  unfold g89 at hr
  refine w_seq (w_ops (wo_step (v := (AVal.s [])) (s_pure (p_mv rfl)) (wo_nil (nx_norm (w_seq (w_ops (wo_step (s_pure (p_mv g0)) ?_)))))))
  obtain ⟨x4, e4, z1⟩ := forceI_inv hr
  refine wo_step (s_pure ((p_conv rfl).trans (ci e4))) ?_
  obtain ⟨x5, e5, z2⟩ := forceI_inv z1
  refine wo_step (s_pure (p_bin rfl rfl (b_add.trans (ci e5)))) ?_
  obtain ⟨v6, m_1, e6, z3⟩ := bindP_inv z2
  refine wo_step (s_bsl (qc rfl qn) e6) ?_
  obtain ⟨v7, e7, z4⟩ := bindO_inv z3
  obtain ⟨s7, rfl, z5⟩ := asS_inv z4
  refine wo_step (s_bts rfl e7) (wo_step (v := (.s s7)) (s_pure (p_mv rfl)) (wo_nil (nx_norm ?_)))
  refine w_ret ?_
  exact qf ret_ok (rt rfl rn) z5
/- (dibber/vine.rules).from-1 -/

def g90 (M : Means) (ro : List ABlk) (v0 : AVal) (v1 : AVal) (v2 : AVal) (v3 : AVal) (v4 : AVal) (m0 : Mm) : Option (AVal × Heap × Nat × Nat) :=
  bindP (stepM ro m0 (.bx 118 1 (.c v0))) fun v5 m_1 =>
  bindO (ldM ro m_1 true 1 v1) fun v8 =>
  asI .u64 v8 fun x8 =>
  bindP (stepM ro m_1 (.al 61 [(AVal.i IntKind.u64 0)])) fun v6 m_2 =>
  bindP (stepM ro m_2 (.st 1 (.c v6) (.c (.i .u64 x8)))) fun vn m_3 =>
  bindP (stepM ro m_3 (.al 119 [AVal.nfn])) fun v7 m_4 =>
  bindO (some (AVal.fn 91 [] [v2, v6, v5, v7, v3])) fun v9 =>
  bindP (stepM ro m_4 (.st 1 (.c v7) (.c v9))) fun vn_1 m_5 =>
  bindO (ldM ro m_5 true 1 v7) fun v10 =>
  bindO (ldM ro m_5 true 1 v4) fun v11 =>
  asS v11 fun s11 =>
  bindO (ldM ro m_5 true 1 v2) fun v12 =>
  bindO (evP .e (.len false (.c v12))) fun v13 =>
  asI .i64 v13 fun x13 =>
  forceI (wr .i64 (x13 - 1)) fun x14 =>
  bindP (callyM M.call M.round m_5 v10 [(.s s11), (.i .i64 x14)]) fun v15 m_6 =>
  asB v15 fun c15 =>
  finM m0.h.length (tupA []) m_6
theorem g90_ok {ro : List ABlk} {O : Caller} {M : Means} (hM : M.Ok ⟨F, O⟩ ro) {v0 v1 v2 v3 v4 h r} (ho : O 90 [v0, v1, v2, v3, v4] h = none) (hr : g90 M ro v0 v1 v2 v3 v4 ⟨h, h.length, h.length⟩ = some r) : callX ⟨F, O⟩ ro 90 [v0, v1, v2, v3, v4] h = some r := by
  refine callX_of (F := ⟨F, O⟩) (fn := fn90) (g := g90 M ro v0 v1 v2 v3 v4) ho rfl rfl hr ?_
  clear ho
  clear hr
  intro m0 t0 ht hr
  have g0 : t0.get 0 = v0 := ht 0
  have g1 : t0.get 1 = v1 := ht 1
  have g2 : t0.get 2 = v2 := ht 2
  have g3 : t0.get 3 = v3 := ht 3
  have g4 : t0.get 4 = v4 := ht 4
  clear ht
  unfold g90 at hr
  refine w_seq (w_ops ?_)
  obtain ⟨v5, m_1, e5, z1⟩ := bindP_inv hr
  refine wo_step (s_bx g0 e5) (wo_nil (nx_norm (w_seq (w_ops ?_))))
  obtain ⟨v8, e8, z2⟩ := bindO_inv z1
  obtain ⟨x8, rfl, z3⟩ := asI_inv z2
  refine wo_step (s_ld g1 e8) ?_
  obtain ⟨v6, m_2, e6, z4⟩ := bindP_inv z3
  refine wo_step (s_al e6) ?_
  obtain ⟨vn, m_3, en, z5⟩ := bindP_inv z4
  refine wo_stepN (s_st rfl rfl en) ?_
  refine wo_nil (nx_norm (w_seq (w_ops ?_)))
  obtain ⟨v7, m_4, e7, z6⟩ := bindP_inv z5
  refine wo_step (s_al e7) (wo_nil (nx_norm (w_seq (w_ops ?_))))
  obtain ⟨v9, e9, z7⟩ := bindO_inv z6
  refine wo_step (s_pure (Eq.trans (o_mkfn mn (mc g2 (mc rfl (mc rfl (mc rfl (mc g3 mn)))))) e9)) ?_
  obtain ⟨vn_1, m_5, en_1, z8⟩ := bindP_inv z7
  refine wo_stepN (s_st rfl rfl en_1) ?_
  refine wo_nil (nx_norm ?_)
  refine w_opsY ?_
  obtain ⟨v10, e10, z9⟩ := bindO_inv z8
  refine wy_step (v := v10) (y_C (s_ld rfl e10)) ?_
  obtain ⟨v11, e11, z10⟩ := bindO_inv z9
  obtain ⟨s11, rfl, z11⟩ := asS_inv z10
  refine wy_step (v := (.s s11)) (y_C (s_ld g4 e11)) ?_
  obtain ⟨v12, e12, z12⟩ := bindO_inv z11
  refine wy_step (v := v12) (y_C (s_ld g2 e12)) ?_
  obtain ⟨v13, e13, z13⟩ := bindO_inv z12
  obtain ⟨x13, rfl, z14⟩ := asI_inv z13
  refine wy_step (v := (.i .i64 x13)) (y_C (s_pure (o_len rfl e13))) ?_
  obtain ⟨x14, e14, z15⟩ := forceI_inv z14
  refine wy_step (v := (.i .i64 x14)) (y_C (s_pure (p_bin rfl rfl (b_sub.trans (ci e14))))) ?_
  obtain ⟨v15, m_6, e15, z16⟩ := bindP_inv z15
  obtain ⟨c15, rfl, z17⟩ := asB_inv z16
  refine wy_step (v := (.b c15)) (y_callv rfl (mc rfl (mc rfl mn)) (callyM_le hM.call hM.round e15)) ?_
  refine wy_nil ?_
  exact qf norm_ok rn z17
/- (dibber/vine.rules).from-1-1 -/
abbrev g91_I0 (s0 : List UInt8) (x1 : Int) (v2 : AVal) (v3 : AVal) (v4 : AVal) (v5 : AVal) (v6 : AVal) (x14 : Int) (s : Int × Mm) (m1 : Mm) (t1 : Tr) : Prop :=
  match s with
  | (x15, m_1) => m_1 = m1 ∧ t1.get 15 = (.i .i64 x15) ∧ t1.get 0 = (.s s0) ∧ t1.get 1 = (.i .i64 x1) ∧ t1.get 2 = v2 ∧ t1.get 3 = v3 ∧ t1.get 4 = v4 ∧ t1.get 5 = v5 ∧ t1.get 6 = v6 ∧ t1.get 14 = (.i .i64 x14)
abbrev g91_J0 (s0 : List UInt8) (x1 : Int) (v2 : AVal) (v3 : AVal) (v4 : AVal) (v5 : AVal) (v6 : AVal) (x14 : Int) (o : (Mm ⊕ (Bool × Mm))) (e : AExit) (m1 : Mm) (t1 : Tr) : Prop :=
  match o with
  | (.inl mo) => e = (.exit 0) ∧ mo = m1
  | (.inr (y9, mo)) => e = .ret ∧ mo = m1 ∧ t1.get 9 = (.b y9)
abbrev g91_J1 (s0 : List UInt8) (x1 : Int) (v2 : AVal) (v3 : AVal) (v4 : AVal) (v5 : AVal) (v6 : AVal) (x14 : Int) (x15 : Int) (o : (Mm ⊕ (Bool × Mm))) (e : AExit) (m1 : Mm) (t1 : Tr) : Prop :=
  match o with
  | (.inl mo) => e = .norm ∧ mo = m1 ∧ t1.get 0 = (.s s0) ∧ t1.get 1 = (.i .i64 x1) ∧ t1.get 2 = v2 ∧ t1.get 3 = v3 ∧ t1.get 4 = v4 ∧ t1.get 5 = v5 ∧ t1.get 6 = v6 ∧ t1.get 14 = (.i .i64 x14) ∧ t1.get 15 = (.i .i64 x15)
  | (.inr (y9, mo)) => e = .ret ∧ mo = m1 ∧ t1.get 9 = (.b y9)
abbrev g91_J2 (s0 : List UInt8) (x1 : Int) (v2 : AVal) (v3 : AVal) (v4 : AVal) (v5 : AVal) (v6 : AVal) (x14 : Int) (x15 : Int) (o : (Mm ⊕ (Bool × Mm))) (e : AExit) (m1 : Mm) (t1 : Tr) : Prop :=
  match o with
  | (.inl mo) => e = .norm ∧ mo = m1 ∧ t1.get 0 = (.s s0) ∧ t1.get 1 = (.i .i64 x1) ∧ t1.get 2 = v2 ∧ t1.get 3 = v3 ∧ t1.get 4 = v4 ∧ t1.get 5 = v5 ∧ t1.get 6 = v6 ∧ t1.get 14 = (.i .i64 x14) ∧ t1.get 15 = (.i .i64 x15)
  | (.inr (y9, mo)) => e = .ret ∧ mo = m1 ∧ t1.get 9 = (.b y9)
def g91_b0 (M : Means) (ro : List ABlk) (s0 : List UInt8) (x1 : Int) (v2 : AVal) (v3 : AVal) (v4 : AVal) (v5 : AVal) (v6 : AVal) (x14 : Int) (x15 : Int) (m_1 : Mm) : Option ((Int × Mm) ⊕ ((Mm ⊕ (Bool × Mm)))) :=
  forceB (ltI x15 x14) fun c16 =>
  cond c16 (
    bindO (evP .e (.ixStr (.c (.s s0)) (.c (.i .i64 x15)))) fun v20 =>
    asI .u8 v20 fun x20 =>
    bindP (callM M.call m_1 54 [(.i .u8 x20)]) fun v21 m_2 =>
    asI .i64 v21 fun x21 =>
    bindO (ldM ro m_2 true 1 v2) fun v22 =>
    bindO (evP .e (.ixS 1 (.c v22) (.c (.i .i64 x1)))) fun v24 =>
    bindO (ldM ro m_2 true 1 v24) fun v25 =>
    bindO (evP .e (.ixS 1 (.c v25) (.c (.i .i64 x21)))) fun v27 =>
    bindO (ldM ro m_2 true 1 v27) fun v28 =>
    asI .u64 v28 fun x28 =>
    bindO (ldM ro m_2 true 1 v3) fun v30 =>
    asI .u64 v30 fun x30 =>
    forceB (!ltI x30 x28) fun c31 =>
    bindO (α := (Mm ⊕ (Bool × Mm))) (
      cond c31 (
        bindO (ldM ro m_2 true 1 v3) fun v32 =>
        asI .u64 v32 fun x32 =>
        forceI (wr .u64 (x32 - x28)) fun x34 =>
        bindP (stepM ro m_2 (.st 1 (.c v3) (.c (.i .u64 x34)))) fun vn m_3 =>
        some (.inl m_3)) (
        forceB (eqI x1 0) fun c36 =>
        bindO (α := (Mm ⊕ (Bool × Mm))) (
          cond c36 (
            bindO (evP .e (.ixStr (.c (.s s0)) (.c (.i .i64 x15)))) fun v40 =>
            asI .u8 v40 fun x40 =>
            bindO (ldM ro m_2 true 1 v4) fun v37 =>
            bindP (callyM M.call M.round m_2 v37 [(.i .u8 x40)]) fun v41 m_4 =>
            asB v41 fun c41 =>
            forceB (!c41) fun c42 =>
            cond c42 (
              some (.inr (false, m_4))) (
              some (.inl m_4))) (
            bindO (some (Mm.base m_2)) fun m_5 =>
            bindO (ldM ro m_5 true 1 v5) fun v43 =>
            bindO (ldM ro m_5 true 1 v6) fun v44 =>
            bindO (evP .e (.ixS 1 (.c v44) (.c (.i .i64 x21)))) fun v46 =>
            bindO (ldM ro m_5 true 1 v46) fun v47 =>
            asS v47 fun s47 =>
            forceI (wr .i64 (x1 - 1)) fun x49 =>
            bindP (callvM M.call m_5 v43 [(.s s47), (.i .i64 x49)]) fun v50 m_6 =>
            asB v50 fun c50 =>
            forceB (!c50) fun c51 =>
            bindO (some (Mm.join m_2 m_6)) fun m_7 =>
            cond c51 (
              some (.inr (false, m_7))) (
              some (.inl m_7)))) fun o_1 => match o_1 with
        | (.inl m_8) =>
          some (.inl m_8)
        | (.inr (c9, m_9)) =>
          some (.inr (c9, m_9)))) fun o => match o with
    | (.inl m_10) =>
      forceI (wr .i64 (x15 + 1)) fun x52 =>
      some (.inl (x52, m_10))
    | (.inr (c9_1, m_11)) =>
      some (.inr (.inr (c9_1, m_11)))) (
    some (.inr (.inl m_1)))
def g91 (M : Means) (ro : List ABlk) (s0 : List UInt8) (x1 : Int) (v2 : AVal) (v3 : AVal) (v4 : AVal) (v5 : AVal) (v6 : AVal) (m0 : Mm) : Option (AVal × Heap × Nat × Nat) :=
  bindO (evP .e (.len true (.c (.s s0)))) fun v14 =>
  asI .i64 v14 fun x14 =>
  bindO (M.loop (S := Int × Mm) (R := (Mm ⊕ (Bool × Mm))) (fun s => g91_b0 M ro s0 x1 v2 v3 v4 v5 v6 x14 s.1 s.2) (0, m0)) fun o_2 => match o_2 with
  | (.inl m_12) =>
    finM m0.h.length (tupA [(.b true)]) m_12
  | (.inr (c9_2, m_13)) =>
    finM m0.h.length (tupA [(.b c9_2)]) m_13
theorem g91_ok {ro : List ABlk} {O : Caller} {M : Means} (hM : M.Ok ⟨F, O⟩ ro) {s0 x1 v2 v3 v4 v5 v6 h r} (ho : O 91 [(.s s0), (.i .i64 x1), v2, v3, v4, v5, v6] h = none) (hr : g91 M ro s0 x1 v2 v3 v4 v5 v6 ⟨h, h.length, h.length⟩ = some r) : callX ⟨F, O⟩ ro 91 [(.s s0), (.i .i64 x1), v2, v3, v4, v5, v6] h = some r := by
  refine callX_of (F := ⟨F, O⟩) (fn := fn91) (g := g91 M ro s0 x1 v2 v3 v4 v5 v6) ho rfl rfl hr ?_
  clear ho
  clear hr
  intro m0 t0 ht hr
  have g0 : t0.get 0 = (.s s0) := ht 0
  have g1 : t0.get 1 = (.i .i64 x1) := ht 1
  have g2 : t0.get 2 = v2 := ht 2
  have g3 : t0.get 3 = v3 := ht 3
  have g4 : t0.get 4 = v4 := ht 4
  have g5 : t0.get 5 = v5 := ht 5
  have g6 : t0.get 6 = v6 := ht 6
  clear ht
  unfold g91 at hr
  refine w_seq (w_ops (wo_step (v := (.b false)) (s_pure (p_mv rfl)) (wo_nil (nx_norm (w_seq (w_seq (w_ops (wo_step (s_pure (p_mv g0)) ?_))))))))
  obtain ⟨v14, e14, z1⟩ := bindO_inv hr
  obtain ⟨x14, rfl, z2⟩ := asI_inv z1
  refine wo_step (s_pure (o_len rfl e14)) (wo_step (v := (.i .i64 0)) (s_pure (p_mv rfl)) (wo_nil (nx_norm ?_)))
  refine w_block ?_
  obtain ⟨o_2, hl, z3⟩ := bindO_inv z2
  obtain ⟨n, hl⟩ := hM.loop _ _ _ hl
  refine jp_mono (w_loop _ (g91_I0 s0 x1 v2 v3 v4 v5 v6 x14) (g91_J0 s0 x1 v2 v3 v4 v5 v6 x14) ?_ n _ _ _ _ hl ⟨rfl, gl rfl, gl g0, gl g1, gl g2, gl g3, gl g4, gl g5, gl g6, gl rfl⟩) ?_
  · clear z3 hl
    intro s mm_6 t_1 o hi hr
    obtain ⟨x15, m_1⟩ := s
    obtain ⟨rfl, g15, g0, g1, g2, g3, g4, g5, g6, g14⟩ := hi
    unfold g91_b0 at hr
    refine w_seq (w_ops ?_)
    obtain ⟨c16, e16, z4⟩ := forceB_inv hr
    refine wo_step (s_pure (p_bin g15 g14 (b_lss.trans (cb e16)))) (wo_nil (nx_norm (w_seq ?_)))
    rcases cond_inv z4 with ⟨rfl, z5⟩ | ⟨rfl, z5⟩
    · refine w_condT rfl ?_
      refine w_skip (nx_norm (w_seq ?_))
      refine w_block ?_
      refine w_seq (w_ops (wo_step (s_pure (p_mv g15)) (wo_step (v := (.i .i64 x15)) (s_pure (p_mv rfl)) (wo_nil (nx_norm (w_seq (w_ops (wo_step (s_pure (p_mv g0)) (wo_step (v := (.i .i64 x15)) (s_pure (p_mv rfl)) ?_)))))))))
      obtain ⟨v20, e20, z6⟩ := bindO_inv z5
      obtain ⟨x20, rfl, z7⟩ := asI_inv z6
      refine wo_step (s_pure (o_ixStr rfl rfl e20)) ?_
      obtain ⟨v21, m_2, e21, z8⟩ := bindP_inv z7
      obtain ⟨x21, rfl, z9⟩ := asI_inv z8
      refine wo_step (s_call (mc rfl mn) (callM_le hM.call e21)) (wo_step (v := (.i .i64 x21)) (s_pure (p_mv rfl)) (wo_nil (nx_norm (w_seq (w_ops ?_)))))
      obtain ⟨v22, e22, z10⟩ := bindO_inv z9
      refine wo_step (s_ld g2 e22) (wo_step (s_pure (p_mv g1)) ?_)
      obtain ⟨v24, e24, z11⟩ := bindO_inv z10
      refine wo_step (s_pure (o_ixS rfl rfl e24)) ?_
      obtain ⟨v25, e25, z12⟩ := bindO_inv z11
      refine wo_step (s_ld rfl e25) (wo_step (v := (.i .i64 x21)) (s_pure (p_mv rfl)) ?_)
      obtain ⟨v27, e27, z13⟩ := bindO_inv z12
      refine wo_step (s_pure (o_ixS rfl rfl e27)) ?_
      obtain ⟨v28, e28, z14⟩ := bindO_inv z13
      obtain ⟨x28, rfl, z15⟩ := asI_inv z14
      refine wo_step (s_ld rfl e28) (wo_step (v := (.i .u64 x28)) (s_pure (p_mv rfl)) (wo_nil (nx_norm (w_seq (w_ops (wo_step (v := (.i .u64 x28)) (s_pure (p_mv rfl)) ?_))))))
      obtain ⟨v30, e30, z16⟩ := bindO_inv z15
      obtain ⟨x30, rfl, z17⟩ := asI_inv z16
      refine wo_step (s_ld g3 e30) ?_
      obtain ⟨c31, e31, z18⟩ := forceB_inv z17
      refine wo_step (s_pure (p_bin rfl rfl (b_leq.trans (cb e31)))) (wo_nil (nx_norm ?_))
      obtain ⟨o, z19, hk⟩ := bindO_inv z18
      refine jp_mono (J := g91_J1 s0 x1 v2 v3 v4 v5 v6 x14 x15 o) ?_ ?_
      · clear hk
        rcases cond_inv z19 with ⟨rfl, z20⟩ | ⟨rfl, z20⟩
        · refine w_condT rfl ?_
          refine w_ops ?_
          obtain ⟨v32, e32, z21⟩ := bindO_inv z20
          obtain ⟨x32, rfl, z22⟩ := asI_inv z21
          refine wo_step (s_ld g3 e32) (wo_step (v := (.i .u64 x28)) (s_pure (p_mv rfl)) ?_)
          obtain ⟨x34, e34, z23⟩ := forceI_inv z22
          refine wo_step (s_pure (p_bin rfl rfl (b_sub.trans (ci e34)))) ?_
          obtain ⟨vn, m_3, en, z24⟩ := bindP_inv z23
          refine wo_stepN (s_st g3 rfl en) ?_
          refine wo_nil ?_
          cases z24
          exact ⟨_, _, rfl, rfl, rfl, gl g0, gl g1, gl g2, gl g3, gl g4, gl g5, gl g6, gl g14, gl g15⟩
        · refine w_condF rfl ?_
          refine w_seq (w_ops (wo_step (s_pure (p_mv g1)) ?_))
          obtain ⟨c36, e36, z25⟩ := forceB_inv z20
          refine wo_step (s_pure (p_bin rfl rfl (b_eql.trans (cb e36)))) (wo_nil (nx_norm ?_))
          obtain ⟨o_1, z26, hk⟩ := bindO_inv z25
          refine jp_mono (J := g91_J2 s0 x1 v2 v3 v4 v5 v6 x14 x15 o_1) ?_ ?_
          · clear hk
            rcases cond_inv z26 with ⟨rfl, z27⟩ | ⟨rfl, z27⟩
            · refine w_condT rfl ?_
              refine w_seq ?_
              refine w_opsY ?_
              refine wy_step (v := (.s s0)) (y_C (s_pure (p_mv g0))) ?_
              refine wy_step (v := (.i .i64 x15)) (y_C (s_pure (p_mv rfl))) ?_
              obtain ⟨v40, e40, z28⟩ := bindO_inv z27
              obtain ⟨x40, rfl, z29⟩ := asI_inv z28
              refine wy_step (v := (.i .u8 x40)) (y_C (s_pure (o_ixStr rfl rfl e40))) ?_
              obtain ⟨v37, e37, z30⟩ := bindO_inv z29
              refine wy_step (v := v37) (y_C (s_ld g4 e37)) ?_
              obtain ⟨v41, m_4, e41, z31⟩ := bindP_inv z30
              obtain ⟨c41, rfl, z32⟩ := asB_inv z31
              refine wy_step (v := (.b c41)) (y_callv rfl (mc rfl mn) (callyM_le hM.call hM.round e41)) ?_
              obtain ⟨c42, e42, z33⟩ := forceB_inv z32
              refine wy_step (v := (.b c42)) (y_C (s_pure ((p_not rfl).trans (cb e42)))) ?_
              refine wy_nil ?_
              refine nx_norm ?_
              rcases cond_inv z33 with ⟨rfl, z34⟩ | ⟨rfl, z34⟩
              · refine w_condT rfl ?_
                refine w_seq (w_ops (wo_step (v := (.b false)) (s_pure (p_mv rfl)) (wo_nil (nx_norm ?_))))
                refine w_ret ?_
                cases z34
                exact ⟨_, _, rfl, rfl, rfl, gl rfl⟩
              · refine w_condF rfl ?_
                refine w_skip ?_
                cases z34
                exact ⟨_, _, rfl, rfl, rfl, gl g0, gl g1, gl g2, gl g3, gl g4, gl g5, gl g6, gl g14, gl g15⟩
            · refine w_condF rfl ?_
              refine w_seq ?_
              obtain ⟨m_5, ef, z35⟩ := bindO_inv z27
              refine w_flt (af := false) rfl ef ?_
              obtain ⟨v43, e43, z36⟩ := bindO_inv z35
              refine wf_step (v := v43) (f_P rfl (s_ld g5 e43)) ?_
              obtain ⟨v44, e44, z37⟩ := bindO_inv z36
              refine wf_step (v := v44) (f_P rfl (s_ld g6 e44)) ?_
              refine wf_step (v := (.i .i64 x21)) (f_P rfl (s_pure (p_mv rfl))) ?_
              obtain ⟨v46, e46, z38⟩ := bindO_inv z37
              refine wf_step (v := v46) (f_P rfl (s_pure (o_ixS rfl rfl e46))) ?_
              obtain ⟨v47, e47, z39⟩ := bindO_inv z38
              obtain ⟨s47, rfl, z40⟩ := asS_inv z39
              refine wf_step (v := (.s s47)) (f_P rfl (s_ld rfl e47)) ?_
              refine wf_step (v := (.i .i64 x1)) (f_P rfl (s_pure (p_mv g1))) ?_
              obtain ⟨x49, e49, z41⟩ := forceI_inv z40
              refine wf_step (v := (.i .i64 x49)) (f_P rfl (s_pure (p_bin rfl rfl (b_sub.trans (ci e49))))) ?_
              obtain ⟨v50, m_6, e50, z42⟩ := bindP_inv z41
              obtain ⟨c50, rfl, z43⟩ := asB_inv z42
              refine wf_step (v := (.b c50)) (f_N (s_callv rfl (mc rfl (mc rfl mn)) (callvM_le hM.call e50))) ?_
              obtain ⟨c51, e51, z44⟩ := forceB_inv z43
              refine wf_step (v := (.b c51)) (f_P rfl (s_pure ((p_not rfl).trans (cb e51)))) ?_
              obtain ⟨m_7, ef_1, z45⟩ := bindO_inv z44
              refine wf_end ef_1 ?_
              refine nx_norm ?_
              rcases cond_inv z45 with ⟨rfl, z46⟩ | ⟨rfl, z46⟩
              · refine w_condT rfl ?_
                refine w_seq (w_ops (wo_step (v := (.b false)) (s_pure (p_mv rfl)) (wo_nil (nx_norm ?_))))
                refine w_ret ?_
                cases z46
                exact ⟨_, _, rfl, rfl, rfl, gl rfl⟩
              · refine w_condF rfl ?_
                refine w_skip ?_
                cases z46
                exact ⟨_, _, rfl, rfl, rfl, gl g0, gl g1, gl g2, gl g3, gl g4, gl g5, gl g6, gl g14, gl g15⟩
          · clear z26
            have hr := hk
            clear hk
            rcases o_1 with o_1 | o_1
            · obtain ⟨m_8, ho⟩ : ∃ z, z = o_1 := ⟨_, rfl⟩
              subst ho
              rintro _ mm t_2 ⟨rfl, rfl, g0, g1, g2, g3, g4, g5, g6, g14, g15⟩
              cases hr
              exact ⟨_, _, rfl, rfl, rfl, gl g0, gl g1, gl g2, gl g3, gl g4, gl g5, gl g6, gl g14, gl g15⟩
            · obtain ⟨c9, m_9⟩ := o_1
              rintro _ mm_1 t_3 ⟨rfl, rfl, g9⟩
              cases hr
              exact ⟨_, _, rfl, rfl, rfl, gl g9⟩
      · clear z19
        have hr := hk
        clear hk
        rcases o with o | o
        · obtain ⟨m_10, ho⟩ : ∃ z, z = o := ⟨_, rfl⟩
          subst ho
          rintro _ mm_2 t_4 ⟨rfl, rfl, g0, g1, g2, g3, g4, g5, g6, g14, g15⟩
          refine bk_norm ?_
          refine nx_norm (w_ops ?_)
          obtain ⟨x52, e52, z47⟩ := forceI_inv hr
          refine wo_step (s_pure (p_bin g15 rfl (b_add.trans (ci e52)))) (wo_step (v := (.i .i64 x52)) (s_pure (p_mv rfl)) (wo_nil ?_))
          cases z47
          exact ⟨_, _, rfl, rfl, rfl, gl rfl, gl g0, gl g1, gl g2, gl g3, gl g4, gl g5, gl g6, gl g14⟩
        · obtain ⟨c9_1, m_11⟩ := o
          rintro _ mm_3 t_5 ⟨rfl, rfl, g9⟩
          refine bk_ret ?_
          refine nx_ret ?_
          cases hr
          exact ⟨_, _, rfl, ne_norm_ret, rfl, rfl, gl g9⟩
    · refine w_condF rfl ?_
      refine w_exit ?_
      refine nx_exit ?_
      cases z5
      exact ⟨_, _, rfl, ne_norm_exit, rfl, rfl⟩
  · rcases o_2 with o_2 | o_2
    · obtain ⟨m_12, ho⟩ : ∃ z, z = o_2 := ⟨_, rfl⟩
      subst ho
      rintro _ mm_4 t_6 ⟨rfl, rfl⟩
      refine bk_hit ?_
      refine nx_norm (w_seq (w_ops (wo_step (v := (.b true)) (s_pure (p_mv rfl)) (wo_nil (nx_norm ?_)))))
      refine w_ret ?_
      exact qf ret_ok (rt rfl rn) z3
    · obtain ⟨c9_2, m_13⟩ := o_2
      rintro _ mm_5 t_7 ⟨rfl, rfl, g9⟩
      refine bk_ret ?_
      refine nx_ret ?_
      exact qf ret_ok (rt g9 rn) z3
/- (dibber/vine.rules).has -/
abbrev g92_I0 (v0 : AVal) (s1 : List UInt8) (x8 : Int) (s : Int × Mm) (m1 : Mm) (t1 : Tr) : Prop :=
  match s with
  | (x9, m_1) => m_1 = m1 ∧ t1.get 9 = (.i .i64 x9) ∧ t1.get 0 = v0 ∧ t1.get 1 = (.s s1) ∧ t1.get 8 = (.i .i64 x8)
abbrev g92_J0 (v0 : AVal) (s1 : List UInt8) (x8 : Int) (o : (Mm ⊕ (Bool × Mm))) (e : AExit) (m1 : Mm) (t1 : Tr) : Prop :=
  match o with
  | (.inl mo) => e = (.exit 0) ∧ mo = m1
  | (.inr (y4, mo)) => e = .ret ∧ mo = m1 ∧ t1.get 4 = (.b y4)
abbrev g92_J1 (v0 : AVal) (s1 : List UInt8) (x8 : Int) (x9 : Int) (m_2 : Mm) (o : Bool) (m1 : Mm) (t1 : Tr) : Prop :=
  match o with
  | c23 => m_2 = m1 ∧ t1.get 23 = (.b c23) ∧ t1.get 0 = v0 ∧ t1.get 1 = (.s s1) ∧ t1.get 8 = (.i .i64 x8) ∧ t1.get 9 = (.i .i64 x9)
def g92_b0 (M : Means) (ro : List ABlk) (v0 : AVal) (s1 : List UInt8) (x8 : Int) (x9 : Int) (m_1 : Mm) : Option ((Int × Mm) ⊕ ((Mm ⊕ (Bool × Mm)))) :=
  forceB (ltI x9 x8) fun c10 =>
  cond c10 (
    bindO (evP .e (.ixStr (.c (.s s1)) (.c (.i .i64 x9)))) fun v14 =>
    asI .u8 v14 fun x14 =>
    bindP (callM M.call m_1 54 [(.i .u8 x14)]) fun v15 m_2 =>
    asI .i64 v15 fun x15 =>
    forceB (ltI x15 0) fun c17 =>
    bindO (cond c17 (
      some true) (
      bindO (evP .e (.len false (.c v0))) fun v21 =>
      asI .i64 v21 fun x21 =>
      forceB (!ltI x15 x21) fun c22 =>
      some c22)) fun c23 =>
    cond c23 (
      some (.inr (.inr (false, m_2)))) (
      forceI (wr .i64 (x9 + 1)) fun x24 =>
      some (.inl (x24, m_2)))) (
    some (.inr (.inl m_1)))
def g92 (M : Means) (ro : List ABlk) (v0 : AVal) (s1 : List UInt8) (m0 : Mm) : Option (AVal × Heap × Nat × Nat) :=
  bindO (evP .e (.len true (.c (.s s1)))) fun v8 =>
  asI .i64 v8 fun x8 =>
  bindO (M.loop (S := Int × Mm) (R := (Mm ⊕ (Bool × Mm))) (fun s => g92_b0 M ro v0 s1 x8 s.1 s.2) (0, m0)) fun o_1 => match o_1 with
  | (.inl m_3) =>
    finM m0.h.length (tupA [(.b true)]) m_3
  | (.inr (c4, m_4)) =>
    finM m0.h.length (tupA [(.b c4)]) m_4
theorem g92_ok {ro : List ABlk} {O : Caller} {M : Means} (hM : M.Ok ⟨F, O⟩ ro) {v0 s1 h r} (ho : O 92 [v0, (.s s1)] h = none) (hr : g92 M ro v0 s1 ⟨h, h.length, h.length⟩ = some r) : callX ⟨F, O⟩ ro 92 [v0, (.s s1)] h = some r := by
  refine callX_of (F := ⟨F, O⟩) (fn := fn92) (g := g92 M ro v0 s1) ho rfl rfl hr ?_
  clear ho
  clear hr
  intro m0 t0 ht hr
  have g0 : t0.get 0 = v0 := ht 0
  have g1 : t0.get 1 = (.s s1) := ht 1
  clear ht
  unfold g92 at hr
  refine w_seq (w_ops (wo_step (v := (.b false)) (s_pure (p_mv rfl)) (wo_nil (nx_norm (w_seq (w_seq (w_ops (wo_step (s_pure (p_mv g1)) ?_))))))))
  obtain ⟨v8, e8, z1⟩ := bindO_inv hr
  obtain ⟨x8, rfl, z2⟩ := asI_inv z1
  refine wo_step (s_pure (o_len rfl e8)) (wo_step (v := (.i .i64 0)) (s_pure (p_mv rfl)) (wo_nil (nx_norm ?_)))
  refine w_block ?_
  obtain ⟨o_1, hl, z3⟩ := bindO_inv z2
  obtain ⟨n, hl⟩ := hM.loop _ _ _ hl
  refine jp_mono (w_loop _ (g92_I0 v0 s1 x8) (g92_J0 v0 s1 x8) ?_ n _ _ _ _ hl ⟨rfl, gl rfl, gl g0, gl g1, gl rfl⟩) ?_
  · clear z3 hl
    intro s mm_3 t_1 o hi hr
    obtain ⟨x9, m_1⟩ := s
    obtain ⟨rfl, g9, g0, g1, g8⟩ := hi
    unfold g92_b0 at hr
    refine w_seq (w_ops ?_)
    obtain ⟨c10, e10, z4⟩ := forceB_inv hr
    refine wo_step (s_pure (p_bin g9 g8 (b_lss.trans (cb e10)))) (wo_nil (nx_norm (w_seq ?_)))
    rcases cond_inv z4 with ⟨rfl, z5⟩ | ⟨rfl, z5⟩
    · refine w_condT rfl ?_
      refine w_skip (nx_norm (w_seq ?_))
      refine w_block ?_
      refine w_seq (w_ops (wo_step (s_pure (p_mv g9)) (wo_step (v := (.i .i64 x9)) (s_pure (p_mv rfl)) (wo_nil (nx_norm (w_seq (w_ops (wo_step (s_pure (p_mv g1)) (wo_step (v := (.i .i64 x9)) (s_pure (p_mv rfl)) ?_)))))))))
      obtain ⟨v14, e14, z6⟩ := bindO_inv z5
      obtain ⟨x14, rfl, z7⟩ := asI_inv z6
      refine wo_step (s_pure (o_ixStr rfl rfl e14)) ?_
      obtain ⟨v15, m_2, e15, z8⟩ := bindP_inv z7
      obtain ⟨x15, rfl, z9⟩ := asI_inv z8
      refine wo_step (s_call (mc rfl mn) (callM_le hM.call e15)) (wo_step (v := (.i .i64 x15)) (s_pure (p_mv rfl)) (wo_nil (nx_norm (w_seq (w_ops (wo_step (v := (.i .i64 x15)) (s_pure (p_mv rfl)) ?_))))))
      obtain ⟨c17, e17, z10⟩ := forceB_inv z9
      refine wo_step (s_pure (p_bin rfl rfl (b_lss.trans (cb e17)))) (wo_step (v := (.b c17)) (s_pure (p_mv rfl)) ?_)
      obtain ⟨o, z11, hk⟩ := bindO_inv z10
      refine wo_join 5 (g92_J1 v0 s1 x8 x9 m_2 o) ?_ ?_
      · clear hk
        rcases cond_inv z11 with ⟨rfl, z12⟩ | ⟨rfl, z12⟩
        · refine wo_skip (v := (.b true)) rfl rfl (wo_skip (v := (.b true)) rfl rfl (wo_skip (v := (.b true)) rfl rfl (wo_skip (v := (.b true)) rfl rfl (wo_step (v := (.b true)) (s_pure (p_pickT rfl rfl)) (wo_nil ?_)))))
          cases z12
          exact ⟨_, _, rfl, rfl, gl rfl, gl g0, gl g1, gl g8, gl g9⟩
        · refine wo_take (v := (.i .i64 x15)) rfl (s_pure (p_mv rfl)) (wo_take (v := v0) rfl (s_pure (p_mv g0)) ?_)
          obtain ⟨v21, e21, z13⟩ := bindO_inv z12
          obtain ⟨x21, rfl, z14⟩ := asI_inv z13
          refine wo_take (v := (.i .i64 x21)) rfl (s_pure (o_len rfl e21)) ?_
          obtain ⟨c22, e22, z15⟩ := forceB_inv z14
          refine wo_take (v := (.b c22)) rfl (s_pure (p_bin rfl rfl (b_geq.trans (cb e22)))) (wo_step (v := (.b c22)) (s_pure (p_pickF rfl rfl)) (wo_nil ?_))
          cases z15
          exact ⟨_, _, rfl, rfl, gl rfl, gl g0, gl g1, gl g8, gl g9⟩
      · clear z11
        have hr := hk
        clear hk
        obtain ⟨c23, ho⟩ : ∃ z, z = o := ⟨_, rfl⟩
        subst ho
        rintro mm t_2 ⟨rfl, g23, g0, g1, g8, g9⟩
        refine wo_nil (nx_norm ?_)
        rcases cond_inv hr with ⟨rfl, z16⟩ | ⟨rfl, z16⟩
        · refine w_condT g23 ?_
          refine w_seq (w_ops (wo_step (v := (.b false)) (s_pure (p_mv rfl)) (wo_nil (nx_norm ?_))))
          refine w_ret ?_
          refine bk_ret ?_
          refine nx_ret ?_
          cases z16
          exact ⟨_, _, rfl, ne_norm_ret, rfl, rfl, gl rfl⟩
        · refine w_condF g23 ?_
          refine w_skip ?_
          refine bk_norm ?_
          refine nx_norm (w_ops ?_)
          obtain ⟨x24, e24, z17⟩ := forceI_inv z16
          refine wo_step (s_pure (p_bin g9 rfl (b_add.trans (ci e24)))) (wo_step (v := (.i .i64 x24)) (s_pure (p_mv rfl)) (wo_nil ?_))
          cases z17
          exact ⟨_, _, rfl, rfl, rfl, gl rfl, gl g0, gl g1, gl g8⟩
    · refine w_condF rfl ?_
      refine w_exit ?_
      refine nx_exit ?_
      cases z5
      exact ⟨_, _, rfl, ne_norm_exit, rfl, rfl⟩
  · rcases o_1 with o_1 | o_1
    · obtain ⟨m_3, ho⟩ : ∃ z, z = o_1 := ⟨_, rfl⟩
      subst ho
      rintro _ mm_1 t_3 ⟨rfl, rfl⟩
      refine bk_hit ?_
      refine nx_norm (w_seq (w_ops (wo_step (v := (.b true)) (s_pure (p_mv rfl)) (wo_nil (nx_norm ?_)))))
      refine w_ret ?_
      exact qf ret_ok (rt rfl rn) z3
    · obtain ⟨c4, m_4⟩ := o_1
      rintro _ mm_2 t_4 ⟨rfl, rfl, g4⟩
      refine bk_ret ?_
      refine nx_ret ?_
      exact qf ret_ok (rt g4 rn) z3
/- strings.CutPrefix -/

def g97 (M : Means) (ro : List ABlk) (s0 : List UInt8) (s1 : List UInt8) (m0 : Mm) : Option (AVal × Heap × Nat × Nat) :=
  bindP (callM M.call m0 102 [(.s s0), (.s s1)]) fun v8 m_1 =>
  bindO (evP .e (.ext 0 (.c v8))) fun v9 =>
  asS v9 fun s9 =>
  bindO (evP .e (.ext 1 (.c v8))) fun v10 =>
  asB v10 fun c10 =>
  finM m0.h.length (tupA [(.s s9), (.b c10)]) m_1
theorem g97_ok {ro : List ABlk} {O : Caller} {M : Means} (hM : M.Ok ⟨F, O⟩ ro) {s0 s1 h r} (ho : O 97 [(.s s0), (.s s1)] h = none) (hr : g97 M ro s0 s1 ⟨h, h.length, h.length⟩ = some r) : callX ⟨F, O⟩ ro 97 [(.s s0), (.s s1)] h = some r := by
  refine callX_of (F := ⟨F, O⟩) (fn := fn97) (g := g97 M ro s0 s1) ho rfl rfl hr ?_
  clear ho
  clear hr
  intro m0 t0 ht hr
  have g0 : t0.get 0 = (.s s0) := ht 0
  have g1 : t0.get 1 = (.s s1) := ht 1
  clear ht
  unfold g97 at hr
  refine w_seq (w_ops (wo_step (v := (AVal.s [])) (s_pure (p_mv rfl)) (wo_step (v := (.b false)) (s_pure (p_mv rfl)) (wo_nil (nx_norm (w_seq (w_ops (wo_step (s_pure (p_mv g0)) (wo_step (s_pure (p_mv g1)) ?_)))))))))
  obtain ⟨v8, m_1, e8, z1⟩ := bindP_inv hr
  refine wo_step (s_call (mc rfl (mc rfl mn)) (callM_le hM.call e8)) ?_
  obtain ⟨v9, e9, z2⟩ := bindO_inv z1
  obtain ⟨s9, rfl, z3⟩ := asS_inv z2
  refine wo_step (s_pure (o_ext rfl e9)) ?_
  obtain ⟨v10, e10, z4⟩ := bindO_inv z3
  obtain ⟨c10, rfl, z5⟩ := asB_inv z4
  refine wo_step (s_pure (o_ext rfl e10)) (wo_step (v := (.s s9)) (s_pure (p_mv rfl)) (wo_step (v := (.b c10)) (s_pure (p_mv rfl)) (wo_nil (nx_norm ?_))))
  refine w_ret ?_
  exact qf ret_ok (rt rfl (rt rfl rn)) z5
/- (dibber/vine.rules).endless-1 -/
abbrev g98_I0 (v0 : AVal) (v1 : AVal) (s : AVal × Int × Mm) (m1 : Mm) (t1 : Tr) : Prop :=
  match s with
  | (v4, x5, m_2) => m_2 = m1 ∧ t1.get 4 = v4 ∧ t1.get 5 = (.i .i64 x5) ∧ t1.get 0 = v0 ∧ t1.get 1 = v1
abbrev g98_J0 (v0 : AVal) (v1 : AVal) (o : (Mm ⊕ Mm)) (e : AExit) (m1 : Mm) (t1 : Tr) : Prop :=
  match o with
  | (.inl mo) => e = (.exit 0) ∧ mo = m1
  | (.inr mo) => e = .ret ∧ mo = m1
abbrev g98_J1 (v0 : AVal) (v1 : AVal) (x5 : Int) (o : (AVal × Mm)) (e : AExit) (m1 : Mm) (t1 : Tr) : Prop :=
  match o with
  | (y4, mo) => e = .norm ∧ mo = m1 ∧ t1.get 4 = y4 ∧ t1.get 0 = v0 ∧ t1.get 1 = v1 ∧ t1.get 5 = (.i .i64 x5)
def g98_b0 (M : Means) (ro : List ABlk) (v0 : AVal) (v1 : AVal) (v4 : AVal) (x5 : Int) (m_2 : Mm) : Option ((AVal × Int × Mm) ⊕ ((Mm ⊕ Mm))) :=
  forceB (ltI x5 100000) fun c12 =>
  cond c12 (
    forceB (ltI 0 x5) fun c16 =>
    bindO (α := (AVal × Mm)) (
      cond c16 (
        bindO (some (Mm.base m_2)) fun m_3 =>
        bindO (ldA ro m_2.h true 1 v1) fun v18 =>
        bindO (evP .e (.ixS 1 (.c v4) (.c (.i .i64 x5)))) fun v21 =>
        bindO (ldM ro m_3 true 1 v21) fun v22 =>
        asI .u8 v22 fun x22 =>
        bindP (callM M.call m_3 54 [(.i .u8 x22)]) fun v23 m_4 =>
        asI .i64 v23 fun x23 =>
        chk (!Nat.blt m_4.lw m_2.h.length) <|
        bindO (evP .e (.ixS 1 (.c v18) (.c (.i .i64 x23)))) fun v24 =>
        bindO (ldM ro m_4 true 1 v24) fun v25 =>
        asS v25 fun s25 =>
        bindP (stepM ro m_4 (.app 5 1 1 [(AVal.i IntKind.u8 0)] (.c v4) (.c (.s s25)))) fun v26 m_5 =>
        bindO (some (Mm.join m_2 m_5)) fun m_6 =>
        some (v26, m_6)) (
        some (v4, m_2))) fun ⟨v4_1, m_7⟩ =>
    bindO (evP .e (.ixS 1 (.c v4_1) (.c (.i .i64 x5)))) fun v31 =>
    bindO (ldM ro m_7 true 1 v31) fun v32 =>
    asI .u8 v32 fun x32 =>
    bindP (callyM M.call M.round m_7 v0 [(.i .i64 x5), (.i .u8 x32)]) fun v33 m_8 =>
    asB v33 fun c33 =>
    forceB (!c33) fun c34 =>
    cond c34 (
      some (.inr (.inr m_8))) (
      forceI (wr .i64 (x5 + 1)) fun x14 =>
      some (.inl (v4_1, x14, m_8)))) (
    some (.inr (.inl m_2)))
def g98 (M : Means) (ro : List ABlk) (v0 : AVal) (v1 : AVal) (v2 : AVal) (m0 : Mm) : Option (AVal × Heap × Nat × Nat) :=
  bindO (ldM ro m0 true 1 v1) fun v6 =>
  bindO (ldM ro m0 true 1 v2) fun v7 =>
  asI .i64 v7 fun x7 =>
  bindO (evP .e (.ixS 1 (.c v6) (.c (.i .i64 x7)))) fun v8 =>
  bindO (ldM ro m0 true 1 v8) fun v9 =>
  asS v9 fun s9 =>
  bindP (stepM ro m0 (.stb 5 (.c (.s s9)))) fun v10 m_1 =>
  bindO (M.loop (S := AVal × Int × Mm) (R := (Mm ⊕ Mm)) (fun s => g98_b0 M ro v0 v1 s.1 s.2.1 s.2.2) (v10, 0, m_1)) fun o_1 => match o_1 with
  | (.inl m_9) =>
    finM m0.h.length (tupA []) m_9
  | (.inr m_10) =>
    finM m0.h.length (tupA []) m_10
theorem g98_ok {ro : List ABlk} {O : Caller} {M : Means} (hM : M.Ok ⟨F, O⟩ ro) {v0 v1 v2 h r} (ho : O 98 [v0, v1, v2] h = none) (hr : g98 M ro v0 v1 v2 ⟨h, h.length, h.length⟩ = some r) : callX ⟨F, O⟩ ro 98 [v0, v1, v2] h = some r := by
  refine callX_of (F := ⟨F, O⟩) (fn := fn98) (g := g98 M ro v0 v1 v2) ho rfl rfl hr ?_
  clear ho
  clear hr
  intro m0 t0 ht hr
  have g0 : t0.get 0 = v0 := ht 0
  have g1 : t0.get 1 = v1 := ht 1
  have g2 : t0.get 2 = v2 := ht 2
  clear ht
  unfold g98 at hr
  refine w_seq (w_ops ?_)
  obtain ⟨v6, e6, z1⟩ := bindO_inv hr
  refine wo_step (s_ld g1 e6) ?_
  obtain ⟨v7, e7, z2⟩ := bindO_inv z1
  obtain ⟨x7, rfl, z3⟩ := asI_inv z2
  refine wo_step (s_ld g2 e7) ?_
  obtain ⟨v8, e8, z4⟩ := bindO_inv z3
  refine wo_step (s_pure (o_ixS rfl rfl e8)) ?_
  obtain ⟨v9, e9, z5⟩ := bindO_inv z4
  obtain ⟨s9, rfl, z6⟩ := asS_inv z5
  refine wo_step (s_ld rfl e9) ?_
  obtain ⟨v10, m_1, e10, z7⟩ := bindP_inv z6
  refine wo_step (s_stb rfl e10) (wo_step (v := v10) (s_pure (p_mv rfl)) (wo_nil (nx_norm (w_seq (w_ops (wo_step (v := (.i .i64 0)) (s_pure (p_mv rfl)) (wo_nil (nx_norm ?_))))))))
  refine w_block ?_
  obtain ⟨o_1, hl, z8⟩ := bindO_inv z7
  obtain ⟨n, hl⟩ := hM.loop _ _ _ hl
  refine jp_mono (w_loop _ (g98_I0 v0 v1) (g98_J0 v0 v1) ?_ n _ _ _ _ hl ⟨rfl, gl rfl, gl rfl, gl g0, gl g1⟩) ?_
  · clear z8 hl
    intro s mm_3 t_1 o hi hr
    obtain ⟨v4, x5, m_2⟩ := s
    obtain ⟨rfl, g4, g5, g0, g1⟩ := hi
    unfold g98_b0 at hr
    refine w_seq (w_seq (w_ops (wo_step (s_pure (p_mv g5)) ?_)))
    obtain ⟨c12, e12, z9⟩ := forceB_inv hr
    refine wo_step (s_pure (p_bin rfl rfl (b_lss.trans (cb e12)))) (wo_nil (nx_norm ?_))
    rcases cond_inv z9 with ⟨rfl, z10⟩ | ⟨rfl, z10⟩
    · refine w_condT rfl ?_
      refine w_skip (nx_norm (w_seq ?_))
      refine w_block ?_
      refine w_seq (w_seq (w_ops (wo_step (s_pure (p_mv g5)) ?_)))
      obtain ⟨c16, e16, z11⟩ := forceB_inv z10
      refine wo_step (s_pure (p_bin rfl rfl (b_gtr.trans (cb e16)))) (wo_nil (nx_norm ?_))
      obtain ⟨o, z12, hk⟩ := bindO_inv z11
      refine jp_mono (J := g98_J1 v0 v1 x5 o) ?_ ?_
      · clear hk
        rcases cond_inv z12 with ⟨rfl, z13⟩ | ⟨rfl, z13⟩
        · refine w_condT rfl ?_
          obtain ⟨m_3, ef, z14⟩ := bindO_inv z13
          refine w_flt (af := true) rfl ef ?_
          refine wf_step (v := v4) (f_P rfl (s_pure (p_mv g4))) ?_
          obtain ⟨v18, e18, z15⟩ := bindO_inv z14
          refine wf_step (v := v18) (f_ld g1 e18) ?_
          refine wf_step (v := v4) (f_P rfl (s_pure (p_mv g4))) ?_
          refine wf_step (v := (.i .i64 x5)) (f_P rfl (s_pure (p_mv g5))) ?_
          obtain ⟨v21, e21, z16⟩ := bindO_inv z15
          refine wf_step (v := v21) (f_P rfl (s_pure (o_ixS rfl rfl e21))) ?_
          obtain ⟨v22, e22, z17⟩ := bindO_inv z16
          obtain ⟨x22, rfl, z18⟩ := asI_inv z17
          refine wf_step (v := (.i .u8 x22)) (f_P rfl (s_ld rfl e22)) ?_
          obtain ⟨v23, m_4, e23, z19⟩ := bindP_inv z18
          obtain ⟨x23, rfl, z20⟩ := asI_inv z19
          obtain ⟨hc23, z21⟩ := chk_inv z20
          refine wf_step (v := (.i .i64 x23)) (f_M hc23 (s_call (mc rfl mn) (callM_le hM.call e23))) ?_
          obtain ⟨v24, e24, z22⟩ := bindO_inv z21
          refine wf_step (v := v24) (f_P rfl (s_pure (o_ixS rfl rfl e24))) ?_
          obtain ⟨v25, e25, z23⟩ := bindO_inv z22
          obtain ⟨s25, rfl, z24⟩ := asS_inv z23
          refine wf_step (v := (.s s25)) (f_P rfl (s_ld rfl e25)) ?_
          obtain ⟨v26, m_5, e26, z25⟩ := bindP_inv z24
          refine wf_step (v := v26) (f_F rfl (s_app rfl rfl e26)) ?_
          refine wf_step (v := v26) (f_P rfl (s_pure (p_mv rfl))) ?_
          obtain ⟨m_6, ef_1, z26⟩ := bindO_inv z25
          refine wf_end ef_1 ?_
          cases z26
          exact ⟨_, _, rfl, rfl, rfl, gl rfl, gl g0, gl g1, gl g5⟩
        · refine w_condF rfl ?_
          refine w_skip ?_
          cases z13
          exact ⟨_, _, rfl, rfl, rfl, gl g4, gl g0, gl g1, gl g5⟩
      · clear z12
        have hr := hk
        clear hk
        obtain ⟨v4_1, m_7⟩ := o
        rintro _ mm t_2 ⟨rfl, rfl, g4, g0, g1, g5⟩
        refine nx_norm (w_seq ?_)
        refine w_opsY ?_
        refine wy_step (v := v0) (y_C (s_pure (p_mv g0))) ?_
        refine wy_step (v := (.i .i64 x5)) (y_C (s_pure (p_mv g5))) ?_
        refine wy_step (v := v4_1) (y_C (s_pure (p_mv g4))) ?_
        refine wy_step (v := (.i .i64 x5)) (y_C (s_pure (p_mv g5))) ?_
        obtain ⟨v31, e31, z27⟩ := bindO_inv hr
        refine wy_step (v := v31) (y_C (s_pure (o_ixS rfl rfl e31))) ?_
        obtain ⟨v32, e32, z28⟩ := bindO_inv z27
        obtain ⟨x32, rfl, z29⟩ := asI_inv z28
        refine wy_step (v := (.i .u8 x32)) (y_C (s_ld rfl e32)) ?_
        obtain ⟨v33, m_8, e33, z30⟩ := bindP_inv z29
        obtain ⟨c33, rfl, z31⟩ := asB_inv z30
        refine wy_step (v := (.b c33)) (y_callv rfl (mc rfl (mc rfl mn)) (callyM_le hM.call hM.round e33)) ?_
        obtain ⟨c34, e34, z32⟩ := forceB_inv z31
        refine wy_step (v := (.b c34)) (y_C (s_pure ((p_not rfl).trans (cb e34)))) ?_
        refine wy_nil ?_
        refine nx_norm ?_
        rcases cond_inv z32 with ⟨rfl, z33⟩ | ⟨rfl, z33⟩
        · refine w_condT rfl ?_
          refine w_ret ?_
          refine bk_ret ?_
          refine nx_ret ?_
          cases z33
          exact ⟨_, _, rfl, ne_norm_ret, rfl, rfl⟩
        · refine w_condF rfl ?_
          refine w_skip ?_
          refine bk_norm ?_
          refine nx_norm (w_ops (wo_step (s_pure (p_mv g5)) ?_))
          obtain ⟨x14, e14, z34⟩ := forceI_inv z33
          refine wo_step (s_pure (p_bin rfl rfl (b_add.trans (ci e14)))) (wo_step (v := (.i .i64 x14)) (s_pure (p_mv rfl)) (wo_nil ?_))
          cases z34
          exact ⟨_, _, rfl, rfl, rfl, gl g4, gl rfl, gl g0, gl g1⟩
    · refine w_condF rfl ?_
      refine w_exit ?_
      refine nx_exit ?_
      cases z10
      exact ⟨_, _, rfl, ne_norm_exit, rfl, rfl⟩
  · rcases o_1 with o_1 | o_1
    · obtain ⟨m_9, ho⟩ : ∃ z, z = o_1 := ⟨_, rfl⟩
      subst ho
      rintro _ mm_1 t_3 ⟨rfl, rfl⟩
      refine bk_hit ?_
      exact qf norm_ok rn z8
    · obtain ⟨m_10, ho⟩ : ∃ z, z = o_1 := ⟨_, rfl⟩
      subst ho
      rintro _ mm_2 t_4 ⟨rfl, rfl⟩
      refine bk_ret ?_
      exact qf ret_ok rn z8
/- internal/stringslite.CutPrefix -/

def g102 (M : Means) (ro : List ABlk) (s0 : List UInt8) (s1 : List UInt8) (m0 : Mm) : Option (AVal × Heap × Nat × Nat) :=
  bindP (callM M.call m0 104 [(.s s0), (.s s1)]) fun v8 m_1 =>
  asB v8 fun c8 =>
  forceB (!c8) fun c9 =>
  cond c9 (
    finM m0.h.length (tupA [(.s s0), (.b false)]) m_1) (
    bindO (evP .e (.len true (.c (.s s1)))) fun v13 =>
    asI .i64 v13 fun x13 =>
    bindO (evP .e (.slStr (.c (.s s0)) (some (.c (.i .i64 x13))) none)) fun v14 =>
    asS v14 fun s14 =>
    finM m0.h.length (tupA [(.s s14), (.b true)]) m_1)
theorem g102_ok {ro : List ABlk} {O : Caller} {M : Means} (hM : M.Ok ⟨F, O⟩ ro) {s0 s1 h r} (ho : O 102 [(.s s0), (.s s1)] h = none) (hr : g102 M ro s0 s1 ⟨h, h.length, h.length⟩ = some r) : callX ⟨F, O⟩ ro 102 [(.s s0), (.s s1)] h = some r := by
  refine callX_of (F := ⟨F, O⟩) (fn := fn102) (g := g102 M ro s0 s1) ho rfl rfl hr ?_
  clear ho
  clear hr
  intro m0 t0 ht hr
  have g0 : t0.get 0 = (.s s0) := ht 0
  have g1 : t0.get 1 = (.s s1) := ht 1
  clear ht
  unfold g102 at hr
  refine w_seq (w_ops (wo_step (v := (AVal.s [])) (s_pure (p_mv rfl)) (wo_step (v := (.b false)) (s_pure (p_mv rfl)) (wo_nil (nx_norm (w_seq (w_seq (w_ops (wo_step (s_pure (p_mv g0)) (wo_step (s_pure (p_mv g1)) ?_))))))))))
  obtain ⟨v8, m_1, e8, z1⟩ := bindP_inv hr
  obtain ⟨c8, rfl, z2⟩ := asB_inv z1
  refine wo_step (s_call (mc rfl (mc rfl mn)) (callM_le hM.call e8)) ?_
  obtain ⟨c9, e9, z3⟩ := forceB_inv z2
  refine wo_step (s_pure ((p_not rfl).trans (cb e9))) (wo_nil (nx_norm ?_))
  rcases cond_inv z3 with ⟨rfl, z4⟩ | ⟨rfl, z4⟩
  · refine w_condT rfl ?_
    refine w_seq (w_ops (wo_step (s_pure (p_mv g0)) (wo_step (v := (.s s0)) (s_pure (p_mv rfl)) (wo_step (v := (.b false)) (s_pure (p_mv rfl)) (wo_nil (nx_norm ?_))))))
    refine w_ret ?_
    refine nx_ret ?_
    exact qf ret_ok (rt rfl (rt rfl rn)) z4
  · refine w_condF rfl ?_
    refine w_skip (nx_norm (w_seq (w_ops (wo_step (s_pure (p_mv g0)) (wo_step (s_pure (p_mv g1)) ?_)))))
    obtain ⟨v13, e13, z5⟩ := bindO_inv z4
    obtain ⟨x13, rfl, z6⟩ := asI_inv z5
    refine wo_step (s_pure (o_len rfl e13)) ?_
    obtain ⟨v14, e14, z7⟩ := bindO_inv z6
    obtain ⟨s14, rfl, z8⟩ := asS_inv z7
    refine wo_step (s_pure (o_slStr rfl (os rfl) on e14)) (wo_step (v := (.s s14)) (s_pure (p_mv rfl)) (wo_step (v := (.b true)) (s_pure (p_mv rfl)) (wo_nil (nx_norm ?_))))
    refine w_ret ?_
    exact qf ret_ok (rt rfl (rt rfl rn)) z8
end Go.Proofs.Ytfohppnelbbepaa.T

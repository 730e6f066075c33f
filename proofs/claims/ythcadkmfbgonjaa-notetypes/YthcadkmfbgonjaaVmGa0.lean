/- Plain functions, and that the small machine answers as they do. -/
import Derived.Test.YthcadkmfbgonjaaVmP
import Derived.Test.YthcadkmfbgonjaaVmAE
open Go.Vm
set_option linter.unusedVariables false
namespace Go.Proofs.Ythcadkmfbgonjaa.T
open Go
/- dibber/dibberlaw07.NoteTypes -/
abbrev g7_J0 (v0 : AVal) (x1 : Int) (s2 : List UInt8) (x3 : Int) (m0 : Mm) (o : Bool) (m1 : Mm) (t1 : Tr) : Prop :=
  match o with
  | c22 => m0 = m1 ∧ t1.get 22 = (.b c22) ∧ t1.get 0 = v0 ∧ t1.get 1 = (.i .i64 x1) ∧ t1.get 2 = (.s s2) ∧ t1.get 3 = (.i .i64 x3)
abbrev g7_J1 (v0 : AVal) (x1 : Int) (s2 : List UInt8) (x3 : Int) (m_3 : Mm) (o : Bool) (m1 : Mm) (t1 : Tr) : Prop :=
  match o with
  | c43 => m_3 = m1 ∧ t1.get 43 = (.b c43) ∧ t1.get 0 = v0 ∧ t1.get 1 = (.i .i64 x1) ∧ t1.get 2 = (.s s2) ∧ t1.get 3 = (.i .i64 x3)
abbrev g7_J2 (m_6 : Mm) (o : Bool) (m1 : Mm) (t1 : Tr) : Prop :=
  match o with
  | c67 => m_6 = m1 ∧ t1.get 67 = (.b c67)
abbrev g7_J3  (o : Bool × Mm) (m1 : Mm) (t1 : Tr) : Prop :=
  match o with
  | (c70, m_7) => m_7 = m1 ∧ t1.get 70 = (.b c70)
def g7 (M : Means) (ro : List ABlk) (v0 : AVal) (x1 : Int) (s2 : List UInt8) (x3 : Int) (m0 : Mm) : Option (AVal × Heap × Nat × Nat) :=
  bindO (evP .e (.len false (.c v0))) fun v16 =>
  asI .i64 v16 fun x16 =>
  forceB (ltI 400 x16) fun c17 =>
  bindO (cond c17 (
    some true) (
    bindO (evP .e (.len true (.c (.s s2)))) fun v20 =>
    asI .i64 v20 fun x20 =>
    forceB (ltI 400 x20) fun c21 =>
    some c21)) fun c22 =>
  cond c22 (
    bindP (callM M.call m0 17 []) fun v23 m_1 =>
    asB v23 fun c23 =>
    finM m0.h.length (tupA [(.b c23)]) m_1) (
    bindP (callM M.call m0 36 [v0, (.i .i64 x1)]) fun v27 m_2 =>
    bindO (evP .e (.ext 0 (.c v27))) fun v28 =>
    asI .i64 v28 fun x28 =>
    bindO (evP .e (.ext 1 (.c v27))) fun v29 =>
    asI .i64 v29 fun x29 =>
    bindP (callM M.call m_2 37 [v0, (.i .i64 x1)]) fun v33 m_3 =>
    bindO (evP .e (.ext 0 (.c v33))) fun v34 =>
    asI .i64 v34 fun x34 =>
    bindO (evP .e (.ext 1 (.c v33))) fun v35 =>
    asI .i64 v35 fun x35 =>
    forceB (!eqI x28 x34) fun c38 =>
    bindO (cond c38 (
      some true) (
      forceB (!eqI x29 x35) fun c42 =>
      some c42)) fun c43 =>
    cond c43 (
      finM m0.h.length (tupA [(.b false)]) m_3) (
      bindP (callM M.call m_3 38 [v0, (.i .i64 x1), (.s s2), (.i .i64 x3)]) fun v49 m_4 =>
      bindO (evP .e (.ext 0 (.c v49))) fun v50 =>
      bindO (evP .e (.ext 1 (.c v49))) fun v51 =>
      asI .i64 v51 fun x51 =>
      bindP (callM M.call m_4 39 [v0, (.i .i64 x1), (.s s2), (.i .i64 x3)]) fun v57 m_5 =>
      bindO (evP .e (.ext 0 (.c v57))) fun v58 =>
      bindO (evP .e (.ext 1 (.c v57))) fun v59 =>
      asI .i64 v59 fun x59 =>
      bindP (callM M.call m_5 31 [v50, v58]) fun v62 m_6 =>
      asB v62 fun c62 =>
      bindO (cond c62 (
        forceB (eqI x51 x59) fun c66 =>
        some c66) (
        some false)) fun c67 =>
      bindO (cond c67 (
        bindP (callM M.call m_6 17 []) fun v69 m_8 =>
        asB v69 fun c69 =>
        some (c69, m_8)) (
        some (false, m_6))) fun ⟨c70, m_7⟩ =>
      finM m0.h.length (tupA [(.b c70)]) m_7))

theorem g7_ok {ro : List ABlk} {O : Caller} {M : Means} (hM : M.Ok ⟨F, O⟩ ro) {v0 x1 s2 x3 h r} (ho : O 7 [v0, (.i .i64 x1), (.s s2), (.i .i64 x3)] h = none) (hr : g7 M ro v0 x1 s2 x3 ⟨h, h.length, h.length⟩ = some r) : callX ⟨F, O⟩ ro 7 [v0, (.i .i64 x1), (.s s2), (.i .i64 x3)] h = some r := by
  refine callX_of (F := ⟨F, O⟩) (fn := fn7) (g := g7 M ro v0 x1 s2 x3) ho rfl rfl hr ?_
  clear ho
  clear hr
  intro m0 t0 ht hr
  have g0 : t0.get 0 = v0 := ht 0
  have g1 : t0.get 1 = (.i .i64 x1) := ht 1
  have g2 : t0.get 2 = (.s s2) := ht 2
  have g3 : t0.get 3 = (.i .i64 x3) := ht 3
  clear ht
  unfold g7 at hr
  refine w_seq ?_
  refine w_ops ?_
  refine wo_step (v := (.b false)) (s_pure (p_mv rfl)) ?_
  refine wo_nil ?_
  refine nx_norm ?_
  refine w_seq ?_
  refine w_seq ?_
  refine w_ops ?_
  refine wo_step (v := v0) (s_pure (p_mv g0)) ?_
  have hq := bindO_inv hr
  clear hr
  obtain ⟨v16, e16, hr⟩ := hq
  have hq := asI_inv hr
  clear hr
  obtain ⟨x16, rfl, hr⟩ := hq
  refine wo_step (v := (.i .i64 x16)) (s_pure (o_len rfl e16)) ?_
  have hq := forceB_inv hr
  clear hr
  obtain ⟨c17, e17, hr⟩ := hq
  refine wo_step (v := (.b c17)) (s_pure (p_bin rfl rfl (b_gtr.trans (cb e17)))) ?_
  refine wo_step (v := (.b c17)) (s_pure (p_mv rfl)) ?_
  have hq := bindO_inv hr
  clear hr
  obtain ⟨o, hr, hk⟩ := hq
  refine wo_join 4 (g7_J0 v0 x1 s2 x3 m0 o) ?_ ?_
  · clear hk
    have hq := cond_inv hr
    clear hr
    rcases hq with ⟨rfl, hr⟩ | ⟨rfl, hr⟩
    · refine wo_skip (v := (.b true)) rfl rfl ?_
      refine wo_skip (v := (.b true)) rfl rfl ?_
      refine wo_skip (v := (.b true)) rfl rfl ?_
      refine wo_step (v := (.b true)) (s_pure (p_pickT rfl rfl)) ?_
      refine wo_nil ?_
      cases hr
      exact ⟨_, _, rfl, rfl, gl rfl, gl g0, gl g1, gl g2, gl g3⟩
    · refine wo_take (v := (.s s2)) rfl (s_pure (p_mv g2)) ?_
      have hq := bindO_inv hr
      clear hr
      obtain ⟨v20, e20, hr⟩ := hq
      have hq := asI_inv hr
      clear hr
      obtain ⟨x20, rfl, hr⟩ := hq
      refine wo_take (v := (.i .i64 x20)) rfl (s_pure (o_len rfl e20)) ?_
      have hq := forceB_inv hr
      clear hr
      obtain ⟨c21, e21, hr⟩ := hq
      refine wo_take (v := (.b c21)) rfl (s_pure (p_bin rfl rfl (b_gtr.trans (cb e21)))) ?_
      refine wo_step (v := (.b c21)) (s_pure (p_pickF rfl rfl)) ?_
      refine wo_nil ?_
      cases hr
      exact ⟨_, _, rfl, rfl, gl rfl, gl g0, gl g1, gl g2, gl g3⟩
  · clear hr
    have hr := hk
    clear hk
    obtain ⟨c22, ho⟩ : ∃ z, z = o := ⟨_, rfl⟩
    subst ho
    rintro mm t_1 ⟨rfl, g22, g0, g1, g2, g3⟩
    refine wo_nil ?_
    refine nx_norm ?_
    have hq := cond_inv hr
    clear hr
    rcases hq with ⟨rfl, hr⟩ | ⟨rfl, hr⟩
    · refine w_condT g22 ?_
      refine w_seq ?_
      refine w_ops ?_
      have hq := bindP_inv hr
      clear hr
      obtain ⟨v23, m_1, e23, hr⟩ := hq
      have hq := asB_inv hr
      clear hr
      obtain ⟨c23, rfl, hr⟩ := hq
      refine wo_step (v := (.b c23)) (s_call mn (callM_le hM.call e23)) ?_
      refine wo_step (v := (.b c23)) (s_pure (p_mv rfl)) ?_
      refine wo_nil ?_
      refine nx_norm ?_
      refine w_ret ?_
      refine nx_ret ?_
      exact qf ret_ok (rt rfl rn) hr
    · refine w_condF g22 ?_
      refine w_skip ?_
      refine nx_norm ?_
      refine w_seq ?_
      refine w_ops ?_
      refine wo_step (v := v0) (s_pure (p_mv g0)) ?_
      refine wo_step (v := (.i .i64 x1)) (s_pure (p_mv g1)) ?_
      have hq := bindP_inv hr
      clear hr
      obtain ⟨v27, m_2, e27, hr⟩ := hq
      refine wo_step (v := v27) (s_call (mc rfl (mc rfl mn)) (callM_le hM.call e27)) ?_
      refine wo_step (v := v27) (s_pure (p_mv rfl)) ?_
      have hq := bindO_inv hr
      clear hr
      obtain ⟨v28, e28, hr⟩ := hq
      have hq := asI_inv hr
      clear hr
      obtain ⟨x28, rfl, hr⟩ := hq
      refine wo_step (v := (.i .i64 x28)) (s_pure (o_ext rfl e28)) ?_
      have hq := bindO_inv hr
      clear hr
      obtain ⟨v29, e29, hr⟩ := hq
      have hq := asI_inv hr
      clear hr
      obtain ⟨x29, rfl, hr⟩ := hq
      refine wo_step (v := (.i .i64 x29)) (s_pure (o_ext rfl e29)) ?_
      refine wo_step (v := (.i .i64 x28)) (s_pure (p_mv rfl)) ?_
      refine wo_step (v := (.i .i64 x29)) (s_pure (p_mv rfl)) ?_
      refine wo_nil ?_
      refine nx_norm ?_
      refine w_seq ?_
      refine w_ops ?_
      refine wo_step (v := v0) (s_pure (p_mv g0)) ?_
      refine wo_step (v := (.i .i64 x1)) (s_pure (p_mv g1)) ?_
      have hq := bindP_inv hr
      clear hr
      obtain ⟨v33, m_3, e33, hr⟩ := hq
      refine wo_step (v := v33) (s_call (mc rfl (mc rfl mn)) (callM_le hM.call e33)) ?_
      refine wo_step (v := v33) (s_pure (p_mv rfl)) ?_
      have hq := bindO_inv hr
      clear hr
      obtain ⟨v34, e34, hr⟩ := hq
      have hq := asI_inv hr
      clear hr
      obtain ⟨x34, rfl, hr⟩ := hq
      refine wo_step (v := (.i .i64 x34)) (s_pure (o_ext rfl e34)) ?_
      have hq := bindO_inv hr
      clear hr
      obtain ⟨v35, e35, hr⟩ := hq
      have hq := asI_inv hr
      clear hr
      obtain ⟨x35, rfl, hr⟩ := hq
      refine wo_step (v := (.i .i64 x35)) (s_pure (o_ext rfl e35)) ?_
      refine wo_step (v := (.i .i64 x34)) (s_pure (p_mv rfl)) ?_
      refine wo_step (v := (.i .i64 x35)) (s_pure (p_mv rfl)) ?_
      refine wo_nil ?_
      refine nx_norm ?_
      refine w_seq ?_
      refine w_seq ?_
      refine w_ops ?_
      refine wo_step (v := (.i .i64 x28)) (s_pure (p_mv rfl)) ?_
      refine wo_step (v := (.i .i64 x34)) (s_pure (p_mv rfl)) ?_
      have hq := forceB_inv hr
      clear hr
      obtain ⟨c38, e38, hr⟩ := hq
      refine wo_step (v := (.b c38)) (s_pure (p_bin rfl rfl (b_neq.trans (cb e38)))) ?_
      refine wo_step (v := (.b c38)) (s_pure (p_mv rfl)) ?_
      have hq := bindO_inv hr
      clear hr
      obtain ⟨o_1, hr, hk⟩ := hq
      refine wo_join 4 (g7_J1 v0 x1 s2 x3 m_3 o_1) ?_ ?_
      · clear hk
        have hq := cond_inv hr
        clear hr
        rcases hq with ⟨rfl, hr⟩ | ⟨rfl, hr⟩
        · refine wo_skip (v := (.b true)) rfl rfl ?_
          refine wo_skip (v := (.b true)) rfl rfl ?_
          refine wo_skip (v := (.b true)) rfl rfl ?_
          refine wo_step (v := (.b true)) (s_pure (p_pickT rfl rfl)) ?_
          refine wo_nil ?_
          cases hr
          exact ⟨_, _, rfl, rfl, gl rfl, gl g0, gl g1, gl g2, gl g3⟩
        · refine wo_take (v := (.i .i64 x29)) rfl (s_pure (p_mv rfl)) ?_
          refine wo_take (v := (.i .i64 x35)) rfl (s_pure (p_mv rfl)) ?_
          have hq := forceB_inv hr
          clear hr
          obtain ⟨c42, e42, hr⟩ := hq
          refine wo_take (v := (.b c42)) rfl (s_pure (p_bin rfl rfl (b_neq.trans (cb e42)))) ?_
          refine wo_step (v := (.b c42)) (s_pure (p_pickF rfl rfl)) ?_
          refine wo_nil ?_
          cases hr
          exact ⟨_, _, rfl, rfl, gl rfl, gl g0, gl g1, gl g2, gl g3⟩
      · clear hr
        have hr := hk
        clear hk
        obtain ⟨c43, ho⟩ : ∃ z, z = o_1 := ⟨_, rfl⟩
        subst ho
        rintro mm_1 t_2 ⟨rfl, g43, g0, g1, g2, g3⟩
        refine wo_nil ?_
        refine nx_norm ?_
        have hq := cond_inv hr
        clear hr
        rcases hq with ⟨rfl, hr⟩ | ⟨rfl, hr⟩
        · refine w_condT g43 ?_
          refine w_seq ?_
          refine w_ops ?_
          refine wo_step (v := (.b false)) (s_pure (p_mv rfl)) ?_
          refine wo_nil ?_
          refine nx_norm ?_
          refine w_ret ?_
          refine nx_ret ?_
          exact qf ret_ok (rt rfl rn) hr
        · refine w_condF g43 ?_
          refine w_skip ?_
          refine nx_norm ?_
          refine w_seq ?_
          refine w_ops ?_
          refine wo_step (v := v0) (s_pure (p_mv g0)) ?_
          refine wo_step (v := (.i .i64 x1)) (s_pure (p_mv g1)) ?_
          refine wo_step (v := (.s s2)) (s_pure (p_mv g2)) ?_
          refine wo_step (v := (.i .i64 x3)) (s_pure (p_mv g3)) ?_
          have hq := bindP_inv hr
          clear hr
          obtain ⟨v49, m_4, e49, hr⟩ := hq
          refine wo_step (v := v49) (s_call (mc rfl (mc rfl (mc rfl (mc rfl mn)))) (callM_le hM.call e49)) ?_
          refine wo_step (v := v49) (s_pure (p_mv rfl)) ?_
          have hq := bindO_inv hr
          clear hr
          obtain ⟨v50, e50, hr⟩ := hq
          refine wo_step (v := v50) (s_pure (o_ext rfl e50)) ?_
          have hq := bindO_inv hr
          clear hr
          obtain ⟨v51, e51, hr⟩ := hq
          have hq := asI_inv hr
          clear hr
          obtain ⟨x51, rfl, hr⟩ := hq
          refine wo_step (v := (.i .i64 x51)) (s_pure (o_ext rfl e51)) ?_
          refine wo_step (v := v50) (s_pure (p_mv rfl)) ?_
          refine wo_step (v := (.i .i64 x51)) (s_pure (p_mv rfl)) ?_
          refine wo_nil ?_
          refine nx_norm ?_
          refine w_seq ?_
          refine w_ops ?_
          refine wo_step (v := v0) (s_pure (p_mv g0)) ?_
          refine wo_step (v := (.i .i64 x1)) (s_pure (p_mv g1)) ?_
          refine wo_step (v := (.s s2)) (s_pure (p_mv g2)) ?_
          refine wo_step (v := (.i .i64 x3)) (s_pure (p_mv g3)) ?_
          have hq := bindP_inv hr
          clear hr
          obtain ⟨v57, m_5, e57, hr⟩ := hq
          refine wo_step (v := v57) (s_call (mc rfl (mc rfl (mc rfl (mc rfl mn)))) (callM_le hM.call e57)) ?_
          refine wo_step (v := v57) (s_pure (p_mv rfl)) ?_
          have hq := bindO_inv hr
          clear hr
          obtain ⟨v58, e58, hr⟩ := hq
          refine wo_step (v := v58) (s_pure (o_ext rfl e58)) ?_
          have hq := bindO_inv hr
          clear hr
          obtain ⟨v59, e59, hr⟩ := hq
          have hq := asI_inv hr
          clear hr
          obtain ⟨x59, rfl, hr⟩ := hq
          refine wo_step (v := (.i .i64 x59)) (s_pure (o_ext rfl e59)) ?_
          refine wo_step (v := v58) (s_pure (p_mv rfl)) ?_
          refine wo_step (v := (.i .i64 x59)) (s_pure (p_mv rfl)) ?_
          refine wo_nil ?_
          refine nx_norm ?_
          refine w_seq ?_
          refine w_ops ?_
          refine wo_step (v := v50) (s_pure (p_mv rfl)) ?_
          refine wo_step (v := v58) (s_pure (p_mv rfl)) ?_
          have hq := bindP_inv hr
          clear hr
          obtain ⟨v62, m_6, e62, hr⟩ := hq
          have hq := asB_inv hr
          clear hr
          obtain ⟨c62, rfl, hr⟩ := hq
          refine wo_step (v := (.b c62)) (s_call (mc rfl (mc rfl mn)) (callM_le hM.call e62)) ?_
          refine wo_step (v := (.b c62)) (s_pure (p_mv rfl)) ?_
          have hq := bindO_inv hr
          clear hr
          obtain ⟨o_2, hr, hk⟩ := hq
          refine wo_join 4 (g7_J2 m_6 o_2) ?_ ?_
          · clear hk
            have hq := cond_inv hr
            clear hr
            rcases hq with ⟨rfl, hr⟩ | ⟨rfl, hr⟩
            · refine wo_take (v := (.i .i64 x51)) rfl (s_pure (p_mv rfl)) ?_
              refine wo_take (v := (.i .i64 x59)) rfl (s_pure (p_mv rfl)) ?_
              have hq := forceB_inv hr
              clear hr
              obtain ⟨c66, e66, hr⟩ := hq
              refine wo_take (v := (.b c66)) rfl (s_pure (p_bin rfl rfl (b_eql.trans (cb e66)))) ?_
              refine wo_step (v := (.b c66)) (s_pure (p_pickT rfl rfl)) ?_
              refine wo_nil ?_
              cases hr
              exact ⟨_, _, rfl, rfl, gl rfl⟩
            · refine wo_skip (v := (.b false)) rfl rfl ?_
              refine wo_skip (v := (.b false)) rfl rfl ?_
              refine wo_skip (v := (.b false)) rfl rfl ?_
              refine wo_step (v := (.b false)) (s_pure (p_pickF rfl rfl)) ?_
              refine wo_nil ?_
              cases hr
              exact ⟨_, _, rfl, rfl, gl rfl⟩
          · clear hr
            have hr := hk
            clear hk
            obtain ⟨c67, ho⟩ : ∃ z, z = o_2 := ⟨_, rfl⟩
            subst ho
            rintro mm_2 t_3 ⟨rfl, g67⟩
            refine wo_step (v := (.b c67)) (s_pure (p_mv g67)) ?_
            have hq := bindO_inv hr
            clear hr
            obtain ⟨o_3, hr, hk⟩ := hq
            refine wo_join 2 (g7_J3  o_3) ?_ ?_
            · clear hk
              have hq := cond_inv hr
              clear hr
              rcases hq with ⟨rfl, hr⟩ | ⟨rfl, hr⟩
              · have hq := bindP_inv hr
                clear hr
                obtain ⟨v69, m_8, e69, hr⟩ := hq
                have hq := asB_inv hr
                clear hr
                obtain ⟨c69, rfl, hr⟩ := hq
                refine wo_take (v := (.b c69)) rfl (s_call mn (callM_le hM.call e69)) ?_
                refine wo_step (v := (.b c69)) (s_pure (p_pickT rfl rfl)) ?_
                refine wo_nil ?_
                cases hr
                exact ⟨_, _, rfl, rfl, gl rfl⟩
              · refine wo_skip (v := (.b false)) rfl rfl ?_
                refine wo_step (v := (.b false)) (s_pure (p_pickF rfl rfl)) ?_
                refine wo_nil ?_
                cases hr
                exact ⟨_, _, rfl, rfl, gl rfl⟩
            · clear hr
              have hr := hk
              clear hk
              obtain ⟨c70, m_7⟩ := o_3
              rintro mm_3 t_4 ⟨rfl, g70⟩
              refine wo_step (v := (.b c70)) (s_pure (p_mv g70)) ?_
              refine wo_nil ?_
              refine nx_norm ?_
              refine w_ret ?_
              exact qf ret_ok (rt rfl rn) hr

/- dibber/dibberlaw07.changes -/
abbrev g31_I0 (v0 : AVal) (v1 : AVal) (m0 : Mm) (s : Int) (m1 : Mm) (t1 : Tr) : Prop :=
  match s with
  | x5 => m0 = m1 ∧ t1.get 5 = (.i .i64 x5) ∧ t1.get 0 = v0 ∧ t1.get 1 = v1
abbrev g31_J0 (v0 : AVal) (v1 : AVal) (m0 : Mm) (o : (Unit ⊕ Bool)) (e : AExit) (m1 : Mm) (t1 : Tr) : Prop :=
  match o with
  | (.inl _) => e = (.exit 0) ∧ m0 = m1
  | (.inr y4) => e = .ret ∧ m0 = m1 ∧ t1.get 4 = (.b y4)
def g31_b0 (M : Means) (ro : List ABlk) (v0 : AVal) (v1 : AVal) (m0 : Mm) (x5 : Int) : Option ((Int) ⊕ ((Unit ⊕ Bool))) :=
  bindO (evP .e (.len false (.c v0))) fun v13 =>
  asI .i64 v13 fun x13 =>
  forceB (ltI x5 x13) fun c14 =>
  cond c14 (
    bindO (evP .e (.ixS 4 (.c v0) (.c (.i .i64 x5)))) fun v19 =>
    bindO (ldA ro m0.h false 4 v19) fun v20 =>
    bindO (evP .e (.ixS 4 (.c v1) (.c (.i .i64 x5)))) fun v23 =>
    bindO (ldA ro m0.h false 4 v23) fun v24 =>
    bindO (evP .e (.seq true [(0, false), (1, false), (2, false), (3, false)] (.c v20) (.c v24))) fun v25 =>
    asB v25 fun c25 =>
    cond c25 (
      some (.inr (.inr false))) (
      forceI (wr .i64 (x5 + 1)) fun x16 =>
      some (.inl x16))) (
    some (.inr (.inl ())))
def g31 (M : Means) (ro : List ABlk) (v0 : AVal) (v1 : AVal) (m0 : Mm) : Option (AVal × Heap × Nat × Nat) :=
  bindO (evP .e (.len false (.c v0))) fun v7 =>
  asI .i64 v7 fun x7 =>
  bindO (evP .e (.len false (.c v1))) fun v9 =>
  asI .i64 v9 fun x9 =>
  forceB (!eqI x7 x9) fun c10 =>
  cond c10 (
    finM m0.h.length (tupA [(.b false)]) m0) (
    bindO (M.loop (S := Int) (R := (Unit ⊕ Bool)) (fun s => g31_b0 M ro v0 v1 m0 s) 0) fun o => match o with
    | (.inl _) =>
      finM m0.h.length (tupA [(.b true)]) m0
    | (.inr c4) =>
      finM m0.h.length (tupA [(.b c4)]) m0)

theorem g31_ok {ro : List ABlk} {O : Caller} {M : Means} (hM : M.Ok ⟨F, O⟩ ro) {v0 v1 h r} (ho : O 31 [v0, v1] h = none) (hr : g31 M ro v0 v1 ⟨h, h.length, h.length⟩ = some r) : callX ⟨F, O⟩ ro 31 [v0, v1] h = some r := by
  refine callX_of (F := ⟨F, O⟩) (fn := fn31) (g := g31 M ro v0 v1) ho rfl rfl hr ?_
  clear ho
  clear hr
  intro m0 t0 ht hr
  have g0 : t0.get 0 = v0 := ht 0
  have g1 : t0.get 1 = v1 := ht 1
  clear ht
  unfold g31 at hr
  refine w_seq ?_
  refine w_ops ?_
  refine wo_step (v := (.b false)) (s_pure (p_mv rfl)) ?_
  refine wo_nil ?_
  refine nx_norm ?_
  refine w_seq ?_
  refine w_seq ?_
  refine w_ops ?_
  refine wo_step (v := v0) (s_pure (p_mv g0)) ?_
  have hq := bindO_inv hr
  clear hr
  obtain ⟨v7, e7, hr⟩ := hq
  have hq := asI_inv hr
  clear hr
  obtain ⟨x7, rfl, hr⟩ := hq
  refine wo_step (v := (.i .i64 x7)) (s_pure (o_len rfl e7)) ?_
  refine wo_step (v := v1) (s_pure (p_mv g1)) ?_
  have hq := bindO_inv hr
  clear hr
  obtain ⟨v9, e9, hr⟩ := hq
  have hq := asI_inv hr
  clear hr
  obtain ⟨x9, rfl, hr⟩ := hq
  refine wo_step (v := (.i .i64 x9)) (s_pure (o_len rfl e9)) ?_
  have hq := forceB_inv hr
  clear hr
  obtain ⟨c10, e10, hr⟩ := hq
  refine wo_step (v := (.b c10)) (s_pure (p_bin rfl rfl (b_neq.trans (cb e10)))) ?_
  refine wo_nil ?_
  refine nx_norm ?_
  have hq := cond_inv hr
  clear hr
  rcases hq with ⟨rfl, hr⟩ | ⟨rfl, hr⟩
  · refine w_condT rfl ?_
    refine w_seq ?_
    refine w_ops ?_
    refine wo_step (v := (.b false)) (s_pure (p_mv rfl)) ?_
    refine wo_nil ?_
    refine nx_norm ?_
    refine w_ret ?_
    refine nx_ret ?_
    exact qf ret_ok (rt rfl rn) hr
  · refine w_condF rfl ?_
    refine w_skip ?_
    refine nx_norm ?_
    refine w_seq ?_
    refine w_seq ?_
    refine w_ops ?_
    refine wo_step (v := (.i .i64 0)) (s_pure (p_mv rfl)) ?_
    refine wo_nil ?_
    refine nx_norm ?_
    refine w_block ?_
    have hq := bindO_inv hr
    clear hr
    obtain ⟨o, hl, hr⟩ := hq
    obtain ⟨n, hl⟩ := hM.loop _ _ _ hl
    refine jp_mono (w_loop _ (g31_I0 v0 v1 m0) (g31_J0 v0 v1 m0) ?_ n _ _ _ _ hl ⟨rfl, gl rfl, gl g0, gl g1⟩) ?_
    · clear hr hl
      intro s mm_2 t_1 o hi hr
      obtain ⟨x5, hs⟩ : ∃ z, z = s := ⟨_, rfl⟩
      subst hs
      obtain ⟨rfl, g5, g0, g1⟩ := hi
      unfold g31_b0 at hr
      refine w_seq ?_
      refine w_seq ?_
      refine w_ops ?_
      refine wo_step (v := (.i .i64 x5)) (s_pure (p_mv g5)) ?_
      refine wo_step (v := v0) (s_pure (p_mv g0)) ?_
      have hq := bindO_inv hr
      clear hr
      obtain ⟨v13, e13, hr⟩ := hq
      have hq := asI_inv hr
      clear hr
      obtain ⟨x13, rfl, hr⟩ := hq
      refine wo_step (v := (.i .i64 x13)) (s_pure (o_len rfl e13)) ?_
      have hq := forceB_inv hr
      clear hr
      obtain ⟨c14, e14, hr⟩ := hq
      refine wo_step (v := (.b c14)) (s_pure (p_bin rfl rfl (b_lss.trans (cb e14)))) ?_
      refine wo_nil ?_
      refine nx_norm ?_
      have hq := cond_inv hr
      clear hr
      rcases hq with ⟨rfl, hr⟩ | ⟨rfl, hr⟩
      · refine w_condT rfl ?_
        refine w_skip ?_
        refine nx_norm ?_
        refine w_seq ?_
        refine w_block ?_
        refine w_seq ?_
        refine w_any ?_
        refine wa_step (v := v0) (a_pure (p_mv g0)) ?_
        refine wa_step (v := (.i .i64 x5)) (a_pure (p_mv g5)) ?_
        have hq := bindO_inv hr
        clear hr
        obtain ⟨v19, e19, hr⟩ := hq
        refine wa_step (v := v19) (a_pure (o_ixS rfl rfl e19)) ?_
        have hq := bindO_inv hr
        clear hr
        obtain ⟨v20, e20, hr⟩ := hq
        refine wa_step (v := v20) (a_ld rfl e20) ?_
        refine wa_step (v := v1) (a_pure (p_mv g1)) ?_
        refine wa_step (v := (.i .i64 x5)) (a_pure (p_mv g5)) ?_
        have hq := bindO_inv hr
        clear hr
        obtain ⟨v23, e23, hr⟩ := hq
        refine wa_step (v := v23) (a_pure (o_ixS rfl rfl e23)) ?_
        have hq := bindO_inv hr
        clear hr
        obtain ⟨v24, e24, hr⟩ := hq
        refine wa_step (v := v24) (a_ld rfl e24) ?_
        have hq := bindO_inv hr
        clear hr
        obtain ⟨v25, e25, hr⟩ := hq
        have hq := asB_inv hr
        clear hr
        obtain ⟨c25, rfl, hr⟩ := hq
        refine wa_step (v := (.b c25)) (a_pure (o_seq rfl rfl e25)) ?_
        refine wa_nil ?_
        refine ⟨m0, rfl, ?_⟩
        refine nx_norm ?_
        have hq := cond_inv hr
        clear hr
        rcases hq with ⟨rfl, hr⟩ | ⟨rfl, hr⟩
        · refine w_condT rfl ?_
          refine w_seq ?_
          refine w_ops ?_
          refine wo_step (v := (.b false)) (s_pure (p_mv rfl)) ?_
          refine wo_nil ?_
          refine nx_norm ?_
          refine w_ret ?_
          refine bk_ret ?_
          refine nx_ret ?_
          cases hr
          exact ⟨_, _, rfl, ne_norm_ret, rfl, rfl, gl rfl⟩
        · refine w_condF rfl ?_
          refine w_skip ?_
          refine bk_norm ?_
          refine nx_norm ?_
          refine w_ops ?_
          refine wo_step (v := (.i .i64 x5)) (s_pure (p_mv g5)) ?_
          have hq := forceI_inv hr
          clear hr
          obtain ⟨x16, e16, hr⟩ := hq
          refine wo_step (v := (.i .i64 x16)) (s_pure (p_bin rfl rfl (b_add.trans (ci e16)))) ?_
          refine wo_step (v := (.i .i64 x16)) (s_pure (p_mv rfl)) ?_
          refine wo_nil ?_
          cases hr
          exact ⟨_, _, rfl, rfl, rfl, gl rfl, gl g0, gl g1⟩
      · refine w_condF rfl ?_
        refine w_exit ?_
        refine nx_exit ?_
        cases hr
        exact ⟨_, _, rfl, ne_norm_exit, rfl, rfl⟩
    · rcases o with o | o
      · rintro _ mm t_2 ⟨rfl, rfl⟩
        refine bk_hit ?_
        refine nx_norm ?_
        refine w_seq ?_
        refine w_ops ?_
        refine wo_step (v := (.b true)) (s_pure (p_mv rfl)) ?_
        refine wo_nil ?_
        refine nx_norm ?_
        refine w_ret ?_
        exact qf ret_ok (rt rfl rn) hr
      · obtain ⟨c4, ho⟩ : ∃ z, z = o := ⟨_, rfl⟩
        subst ho
        rintro _ mm_1 t_3 ⟨rfl, rfl, g4⟩
        refine bk_ret ?_
        refine nx_ret ?_
        exact qf ret_ok (rt g4 rn) hr

/- dibber/note.Find -/
abbrev g36_I0 (v0 : AVal) (x1 : Int) (x16 : Int) (s : Int × Int × Mm) (m1 : Mm) (t1 : Tr) : Prop :=
  match s with
  | (x7, x17, m_2) => m_2 = m1 ∧ t1.get 7 = (.i .i64 x7) ∧ t1.get 17 = (.i .i64 x17) ∧ t1.get 0 = v0 ∧ t1.get 1 = (.i .i64 x1) ∧ t1.get 15 = v0 ∧ t1.get 16 = (.i .i64 x16)
abbrev g36_J0 (v0 : AVal) (x1 : Int) (x16 : Int) (o : ((Int × Mm) ⊕ (Int × Int × Mm))) (e : AExit) (m1 : Mm) (t1 : Tr) : Prop :=
  match o with
  | (.inl (y7, mo)) => e = (.exit 0) ∧ mo = m1 ∧ t1.get 7 = (.i .i64 y7) ∧ t1.get 0 = v0 ∧ t1.get 1 = (.i .i64 x1)
  | (.inr (y4, y5, mo)) => e = .ret ∧ mo = m1 ∧ t1.get 4 = (.i .i64 y4) ∧ t1.get 5 = (.i .i64 y5)
abbrev g36_J1 (v0 : AVal) (x1 : Int) (x16 : Int) (x17 : Int) (o : ((Int × Mm) ⊕ (Int × Int × Mm))) (e : AExit) (m1 : Mm) (t1 : Tr) : Prop :=
  match o with
  | (.inl (y7, mo)) => e = .norm ∧ mo = m1 ∧ t1.get 7 = (.i .i64 y7) ∧ t1.get 0 = v0 ∧ t1.get 1 = (.i .i64 x1) ∧ t1.get 15 = v0 ∧ t1.get 16 = (.i .i64 x16) ∧ t1.get 17 = (.i .i64 x17)
  | (.inr (y4, y5, mo)) => e = .ret ∧ mo = m1 ∧ t1.get 4 = (.i .i64 y4) ∧ t1.get 5 = (.i .i64 y5)
def g36_b0 (M : Means) (ro : List ABlk) (v0 : AVal) (x1 : Int) (x16 : Int) (x7 : Int) (x17 : Int) (m_2 : Mm) : Option ((Int × Int × Mm) ⊕ (((Int × Mm) ⊕ (Int × Int × Mm)))) :=
  forceB (ltI x17 x16) fun c18 =>
  cond c18 (
    bindO (α := ((Int × Mm) ⊕ (Int × Int × Mm))) (
      bindO (evP .e (.ixS 2 (.c v0) (.c (.i .i64 x17)))) fun v20 =>
      bindO (ldM ro m_2 false 2 v20) fun v21 =>
      bindP (stepM ro m_2 (.al 31 [(AVal.i IntKind.u8 0), (AVal.b false)])) fun v9 m_3 =>
      bindP (stepM ro m_3 (.st 2 (.c v9) (.c v21))) fun vn m_4 =>
      bindO (evP .e (.faddr 1 (.c v9))) fun v22 =>
      bindO (ldM ro m_4 true 1 v22) fun v23 =>
      asB v23 fun c23 =>
      cond c23 (
        some (.inl (x7, m_4))) (
        forceB (eqI x7 x1) fun c26 =>
        cond c26 (
          some (.inr (x17, 0, m_4))) (
          forceI (wr .i64 (x7 + 1)) fun x29 =>
          some (.inl (x29, m_4))))) fun o => match o with
    | (.inl (x7_1, m_5)) =>
      forceI (wr .i64 (x17 + 1)) fun x30 =>
      some (.inl (x7_1, x30, m_5))
    | (.inr (x4, x5, m_6)) =>
      some (.inr (.inr (x4, x5, m_6)))) (
    some (.inr (.inl (x7, m_2))))
def g36 (M : Means) (ro : List ABlk) (v0 : AVal) (x1 : Int) (m0 : Mm) : Option (AVal × Heap × Nat × Nat) :=
  bindP (callM M.call m0 61 [v0]) fun v11 m_1 =>
  asI .i64 v11 fun x11 =>
  forceB (!eqI x11 0) fun c13 =>
  cond c13 (
    finM m0.h.length (tupA [(.i .i64 0), (.i .i64 x11)]) m_1) (
    bindO (evP .e (.len false (.c v0))) fun v16 =>
    asI .i64 v16 fun x16 =>
    bindO (M.loop (S := Int × Int × Mm) (R := ((Int × Mm) ⊕ (Int × Int × Mm))) (fun s => g36_b0 M ro v0 x1 x16 s.1 s.2.1 s.2.2) (0, 0, m_1)) fun o_1 => match o_1 with
    | (.inl (x7_2, m_7)) =>
      forceB (!eqI x7_2 x1) fun c33 =>
      cond c33 (
        finM m0.h.length (tupA [(.i .i64 0), (.i .i64 4)]) m_7) (
        bindO (evP .e (.len false (.c v0))) fun v35 =>
        asI .i64 v35 fun x35 =>
        finM m0.h.length (tupA [(.i .i64 x35), (.i .i64 0)]) m_7)
    | (.inr (x4_1, x5_1, m_8)) =>
      finM m0.h.length (tupA [(.i .i64 x4_1), (.i .i64 x5_1)]) m_8)

theorem g36_ok {ro : List ABlk} {O : Caller} {M : Means} (hM : M.Ok ⟨F, O⟩ ro) {v0 x1 h r} (ho : O 36 [v0, (.i .i64 x1)] h = none) (hr : g36 M ro v0 x1 ⟨h, h.length, h.length⟩ = some r) : callX ⟨F, O⟩ ro 36 [v0, (.i .i64 x1)] h = some r := by
  refine callX_of (F := ⟨F, O⟩) (fn := fn36) (g := g36 M ro v0 x1) ho rfl rfl hr ?_
  clear ho
  clear hr
  intro m0 t0 ht hr
  have g0 : t0.get 0 = v0 := ht 0
  have g1 : t0.get 1 = (.i .i64 x1) := ht 1
  clear ht
  unfold g36 at hr
  refine w_seq ?_
  refine w_ops ?_
  refine wo_step (v := (.i .i64 0)) (s_pure (p_mv rfl)) ?_
  refine wo_step (v := (.i .i64 0)) (s_pure (p_mv rfl)) ?_
  refine wo_nil ?_
  refine nx_norm ?_
  refine w_seq ?_
  refine w_seq ?_
  refine w_ops ?_
  refine wo_step (v := v0) (s_pure (p_mv g0)) ?_
  have hq := bindP_inv hr
  clear hr
  obtain ⟨v11, m_1, e11, hr⟩ := hq
  have hq := asI_inv hr
  clear hr
  obtain ⟨x11, rfl, hr⟩ := hq
  refine wo_step (v := (.i .i64 x11)) (s_call (mc rfl mn) (callM_le hM.call e11)) ?_
  refine wo_step (v := (.i .i64 x11)) (s_pure (p_mv rfl)) ?_
  refine wo_nil ?_
  refine nx_norm ?_
  refine w_seq ?_
  refine w_ops ?_
  refine wo_step (v := (.i .i64 x11)) (s_pure (p_mv rfl)) ?_
  have hq := forceB_inv hr
  clear hr
  obtain ⟨c13, e13, hr⟩ := hq
  refine wo_step (v := (.b c13)) (s_pure (p_bin rfl rfl (b_neq.trans (cb e13)))) ?_
  refine wo_nil ?_
  refine nx_norm ?_
  have hq := cond_inv hr
  clear hr
  rcases hq with ⟨rfl, hr⟩ | ⟨rfl, hr⟩
  · refine w_condT rfl ?_
    refine w_seq ?_
    refine w_ops ?_
    refine wo_step (v := (.i .i64 x11)) (s_pure (p_mv rfl)) ?_
    refine wo_step (v := (.i .i64 0)) (s_pure (p_mv rfl)) ?_
    refine wo_step (v := (.i .i64 x11)) (s_pure (p_mv rfl)) ?_
    refine wo_nil ?_
    refine nx_norm ?_
    refine w_ret ?_
    refine nx_ret ?_
    exact qf ret_ok (rt rfl (rt rfl rn)) hr
  · refine w_condF rfl ?_
    refine w_skip ?_
    refine nx_norm ?_
    refine w_seq ?_
    refine w_ops ?_
    refine wo_step (v := (.i .i64 0)) (s_pure (p_mv rfl)) ?_
    refine wo_nil ?_
    refine nx_norm ?_
    refine w_seq ?_
    refine w_seq ?_
    refine w_ops ?_
    refine wo_step (v := v0) (s_pure (p_mv g0)) ?_
    have hq := bindO_inv hr
    clear hr
    obtain ⟨v16, e16, hr⟩ := hq
    have hq := asI_inv hr
    clear hr
    obtain ⟨x16, rfl, hr⟩ := hq
    refine wo_step (v := (.i .i64 x16)) (s_pure (o_len rfl e16)) ?_
    refine wo_step (v := (.i .i64 0)) (s_pure (p_mv rfl)) ?_
    refine wo_nil ?_
    refine nx_norm ?_
    refine w_block ?_
    have hq := bindO_inv hr
    clear hr
    obtain ⟨o_1, hl, hr⟩ := hq
    obtain ⟨n, hl⟩ := hM.loop _ _ _ hl
    refine jp_mono (w_loop _ (g36_I0 v0 x1 x16) (g36_J0 v0 x1 x16) ?_ n _ _ _ _ hl ⟨rfl, gl rfl, gl rfl, gl g0, gl g1, gl rfl, gl rfl⟩) ?_
    · clear hr hl
      intro s mm_4 t_1 o hi hr
      obtain ⟨x7, x17, m_2⟩ := s
      obtain ⟨rfl, g7, g17, g0, g1, g15, g16⟩ := hi
      unfold g36_b0 at hr
      refine w_seq ?_
      refine w_ops ?_
      have hq := forceB_inv hr
      clear hr
      obtain ⟨c18, e18, hr⟩ := hq
      refine wo_step (v := (.b c18)) (s_pure (p_bin g17 g16 (b_lss.trans (cb e18)))) ?_
      refine wo_nil ?_
      refine nx_norm ?_
      refine w_seq ?_
      have hq := cond_inv hr
      clear hr
      rcases hq with ⟨rfl, hr⟩ | ⟨rfl, hr⟩
      · refine w_condT rfl ?_
        refine w_skip ?_
        refine nx_norm ?_
        refine w_seq ?_
        have hq := bindO_inv hr
        clear hr
        obtain ⟨o, hr, hk⟩ := hq
        refine jp_mono (J := g36_J1 v0 x1 x16 x17 o) ?_ ?_
        · clear hk
          refine w_block ?_
          refine w_seq ?_
          refine w_ops ?_
          refine wo_step (v := (.i .i64 x17)) (s_pure (p_mv g17)) ?_
          have hq := bindO_inv hr
          clear hr
          obtain ⟨v20, e20, hr⟩ := hq
          refine wo_step (v := v20) (s_pure (o_ixS g15 g17 e20)) ?_
          have hq := bindO_inv hr
          clear hr
          obtain ⟨v21, e21, hr⟩ := hq
          refine wo_step (v := v21) (s_ld rfl e21) ?_
          have hq := bindP_inv hr
          clear hr
          obtain ⟨v9, m_3, e9, hr⟩ := hq
          refine wo_step (v := v9) (s_al e9) ?_
          refine wo_step (v := (.i .i64 x17)) (s_pure (p_mv rfl)) ?_
          have hq := bindP_inv hr
          clear hr
          obtain ⟨vn, m_4, en, hr⟩ := hq
          refine wo_stepN (s_st rfl rfl en) ?_
          refine wo_nil ?_
          refine nx_norm ?_
          refine w_seq ?_
          refine w_seq ?_
          refine w_ops ?_
          have hq := bindO_inv hr
          clear hr
          obtain ⟨v22, e22, hr⟩ := hq
          refine wo_step (v := v22) (s_pure (o_faddr rfl e22)) ?_
          have hq := bindO_inv hr
          clear hr
          obtain ⟨v23, e23, hr⟩ := hq
          have hq := asB_inv hr
          clear hr
          obtain ⟨c23, rfl, hr⟩ := hq
          refine wo_step (v := (.b c23)) (s_ld rfl e23) ?_
          refine wo_nil ?_
          refine nx_norm ?_
          have hq := cond_inv hr
          clear hr
          rcases hq with ⟨rfl, hr⟩ | ⟨rfl, hr⟩
          · refine w_condT rfl ?_
            refine w_exit ?_
            refine nx_exit ?_
            refine bk_hit ?_
            cases hr
            exact ⟨_, _, rfl, rfl, rfl, gl g7, gl g0, gl g1, gl g15, gl g16, gl g17⟩
          · refine w_condF rfl ?_
            refine w_skip ?_
            refine nx_norm ?_
            refine w_seq ?_
            refine w_seq ?_
            refine w_ops ?_
            refine wo_step (v := (.i .i64 x7)) (s_pure (p_mv g7)) ?_
            refine wo_step (v := (.i .i64 x1)) (s_pure (p_mv g1)) ?_
            have hq := forceB_inv hr
            clear hr
            obtain ⟨c26, e26, hr⟩ := hq
            refine wo_step (v := (.b c26)) (s_pure (p_bin rfl rfl (b_eql.trans (cb e26)))) ?_
            refine wo_nil ?_
            refine nx_norm ?_
            have hq := cond_inv hr
            clear hr
            rcases hq with ⟨rfl, hr⟩ | ⟨rfl, hr⟩
            · refine w_condT rfl ?_
              refine w_seq ?_
              refine w_ops ?_
              refine wo_step (v := (.i .i64 x17)) (s_pure (p_mv rfl)) ?_
              refine wo_step (v := (.i .i64 x17)) (s_pure (p_mv rfl)) ?_
              refine wo_step (v := (.i .i64 0)) (s_pure (p_mv rfl)) ?_
              refine wo_nil ?_
              refine nx_norm ?_
              refine w_ret ?_
              refine nx_ret ?_
              refine bk_ret ?_
              cases hr
              exact ⟨_, _, rfl, rfl, rfl, gl rfl, gl rfl⟩
            · refine w_condF rfl ?_
              refine w_skip ?_
              refine nx_norm ?_
              refine w_ops ?_
              refine wo_step (v := (.i .i64 x7)) (s_pure (p_mv g7)) ?_
              have hq := forceI_inv hr
              clear hr
              obtain ⟨x29, e29, hr⟩ := hq
              refine wo_step (v := (.i .i64 x29)) (s_pure (p_bin rfl rfl (b_add.trans (ci e29)))) ?_
              refine wo_step (v := (.i .i64 x29)) (s_pure (p_mv rfl)) ?_
              refine wo_nil ?_
              refine bk_norm ?_
              cases hr
              exact ⟨_, _, rfl, rfl, rfl, gl rfl, gl g0, gl g1, gl g15, gl g16, gl g17⟩
        · clear hr
          have hr := hk
          clear hk
          rcases o with o | o
          · obtain ⟨x7_1, m_5⟩ := o
            rintro _ mm t_2 ⟨rfl, rfl, g7, g0, g1, g15, g16, g17⟩
            refine nx_norm ?_
            refine w_ops ?_
            have hq := forceI_inv hr
            clear hr
            obtain ⟨x30, e30, hr⟩ := hq
            refine wo_step (v := (.i .i64 x30)) (s_pure (p_bin g17 rfl (b_add.trans (ci e30)))) ?_
            refine wo_step (v := (.i .i64 x30)) (s_pure (p_mv rfl)) ?_
            refine wo_nil ?_
            cases hr
            exact ⟨_, _, rfl, rfl, rfl, gl g7, gl rfl, gl g0, gl g1, gl g15, gl g16⟩
          · obtain ⟨x4, x5, m_6⟩ := o
            rintro _ mm_1 t_3 ⟨rfl, rfl, g4, g5⟩
            refine nx_ret ?_
            cases hr
            exact ⟨_, _, rfl, ne_norm_ret, rfl, rfl, gl g4, gl g5⟩
      · refine w_condF rfl ?_
        refine w_exit ?_
        refine nx_exit ?_
        cases hr
        exact ⟨_, _, rfl, ne_norm_exit, rfl, rfl, gl g7, gl g0, gl g1⟩
    · rcases o_1 with o_1 | o_1
      · obtain ⟨x7_2, m_7⟩ := o_1
        rintro _ mm_2 t_4 ⟨rfl, rfl, g7, g0, g1⟩
        refine bk_hit ?_
        refine nx_norm ?_
        refine w_seq ?_
        refine w_seq ?_
        refine w_ops ?_
        refine wo_step (v := (.i .i64 x7_2)) (s_pure (p_mv g7)) ?_
        refine wo_step (v := (.i .i64 x1)) (s_pure (p_mv g1)) ?_
        have hq := forceB_inv hr
        clear hr
        obtain ⟨c33, e33, hr⟩ := hq
        refine wo_step (v := (.b c33)) (s_pure (p_bin rfl rfl (b_neq.trans (cb e33)))) ?_
        refine wo_nil ?_
        refine nx_norm ?_
        have hq := cond_inv hr
        clear hr
        rcases hq with ⟨rfl, hr⟩ | ⟨rfl, hr⟩
        · refine w_condT rfl ?_
          refine w_seq ?_
          refine w_ops ?_
          refine wo_step (v := (.i .i64 0)) (s_pure (p_mv rfl)) ?_
          refine wo_step (v := (.i .i64 4)) (s_pure (p_mv rfl)) ?_
          refine wo_nil ?_
          refine nx_norm ?_
          refine w_ret ?_
          refine nx_ret ?_
          exact qf ret_ok (rt rfl (rt rfl rn)) hr
        · refine w_condF rfl ?_
          refine w_skip ?_
          refine nx_norm ?_
          refine w_seq ?_
          refine w_ops ?_
          refine wo_step (v := v0) (s_pure (p_mv g0)) ?_
          have hq := bindO_inv hr
          clear hr
          obtain ⟨v35, e35, hr⟩ := hq
          have hq := asI_inv hr
          clear hr
          obtain ⟨x35, rfl, hr⟩ := hq
          refine wo_step (v := (.i .i64 x35)) (s_pure (o_len rfl e35)) ?_
          refine wo_step (v := (.i .i64 x35)) (s_pure (p_mv rfl)) ?_
          refine wo_step (v := (.i .i64 0)) (s_pure (p_mv rfl)) ?_
          refine wo_nil ?_
          refine nx_norm ?_
          refine w_ret ?_
          exact qf ret_ok (rt rfl (rt rfl rn)) hr
      · obtain ⟨x4_1, x5_1, m_8⟩ := o_1
        rintro _ mm_3 t_5 ⟨rfl, rfl, g4, g5⟩
        refine bk_ret ?_
        refine nx_ret ?_
        exact qf ret_ok (rt g4 (rt g5 rn)) hr

/- dibber/dibberref07.Find -/
abbrev g37_I0 (v0 : AVal) (m_1 : Mm) (s : Int × Int) (m1 : Mm) (t1 : Tr) : Prop :=
  match s with
  | (x1_1, x7) => m_1 = m1 ∧ t1.get 1 = (.i .i64 x1_1) ∧ t1.get 7 = (.i .i64 x7) ∧ t1.get 0 = v0
abbrev g37_J0 (v0 : AVal) (m_1 : Mm) (o : (Int ⊕ (Int × Int))) (e : AExit) (m1 : Mm) (t1 : Tr) : Prop :=
  match o with
  | (.inl y1) => e = (.exit 0) ∧ m_1 = m1 ∧ t1.get 1 = (.i .i64 y1) ∧ t1.get 0 = v0
  | (.inr (y4, y5)) => e = .ret ∧ m_1 = m1 ∧ t1.get 4 = (.i .i64 y4) ∧ t1.get 5 = (.i .i64 y5)
abbrev g37_J1 (v0 : AVal) (x7 : Int) (m_1 : Mm) (o : (Int ⊕ (Int × Int))) (e : AExit) (m1 : Mm) (t1 : Tr) : Prop :=
  match o with
  | (.inl y1) => e = .norm ∧ m_1 = m1 ∧ t1.get 1 = (.i .i64 y1) ∧ t1.get 0 = v0 ∧ t1.get 7 = (.i .i64 x7)
  | (.inr (y4, y5)) => e = .ret ∧ m_1 = m1 ∧ t1.get 4 = (.i .i64 y4) ∧ t1.get 5 = (.i .i64 y5)
def g37_b0 (M : Means) (ro : List ABlk) (v0 : AVal) (m_1 : Mm) (x1_1 : Int) (x7 : Int) : Option ((Int × Int) ⊕ ((Int ⊕ (Int × Int)))) :=
  bindO (evP .e (.len false (.c v0))) fun v17 =>
  asI .i64 v17 fun x17 =>
  forceB (ltI x7 x17) fun c18 =>
  cond c18 (
    bindO (α := (Int ⊕ (Int × Int))) (
      bindO (evP .e (.ixS 2 (.c v0) (.c (.i .i64 x7)))) fun v23 =>
      bindO (evP .e (.faddr 1 (.c v23))) fun v24 =>
      bindO (ldM ro m_1 true 1 v24) fun v25 =>
      asB v25 fun c25 =>
      cond c25 (
        some (.inl x1_1)) (
        forceB (eqI x1_1 0) fun c27 =>
        cond c27 (
          some (.inr (x7, 0))) (
          forceI (wr .i64 (x1_1 - 1)) fun x30 =>
          some (.inl x30)))) fun o => match o with
    | (.inl x1_2) =>
      forceI (wr .i64 (x7 + 1)) fun x20 =>
      some (.inl (x1_2, x20))
    | (.inr (x4, x5)) =>
      some (.inr (.inr (x4, x5)))) (
    some (.inr (.inl x1_1)))
def g37 (M : Means) (ro : List ABlk) (v0 : AVal) (x1 : Int) (m0 : Mm) : Option (AVal × Heap × Nat × Nat) :=
  bindP (callM M.call m0 58 [v0]) fun v9 m_1 =>
  asI .i64 v9 fun x9 =>
  forceB (!eqI x9 0) fun c11 =>
  cond c11 (
    finM m0.h.length (tupA [(.i .i64 0), (.i .i64 x9)]) m_1) (
    forceB (ltI x1 0) fun c14 =>
    cond c14 (
      finM m0.h.length (tupA [(.i .i64 0), (.i .i64 4)]) m_1) (
      bindO (M.loop (S := Int × Int) (R := (Int ⊕ (Int × Int))) (fun s => g37_b0 M ro v0 m_1 s.1 s.2) (x1, 0)) fun o_1 => match o_1 with
      | (.inl x1_3) =>
        forceB (ltI 0 x1_3) fun c32 =>
        cond c32 (
          finM m0.h.length (tupA [(.i .i64 0), (.i .i64 4)]) m_1) (
          bindO (evP .e (.len false (.c v0))) fun v34 =>
          asI .i64 v34 fun x34 =>
          finM m0.h.length (tupA [(.i .i64 x34), (.i .i64 0)]) m_1)
      | (.inr (x4_1, x5_1)) =>
        finM m0.h.length (tupA [(.i .i64 x4_1), (.i .i64 x5_1)]) m_1))

theorem g37_ok {ro : List ABlk} {O : Caller} {M : Means} (hM : M.Ok ⟨F, O⟩ ro) {v0 x1 h r} (ho : O 37 [v0, (.i .i64 x1)] h = none) (hr : g37 M ro v0 x1 ⟨h, h.length, h.length⟩ = some r) : callX ⟨F, O⟩ ro 37 [v0, (.i .i64 x1)] h = some r := by
  refine callX_of (F := ⟨F, O⟩) (fn := fn37) (g := g37 M ro v0 x1) ho rfl rfl hr ?_
  clear ho
  clear hr
  intro m0 t0 ht hr
  have g0 : t0.get 0 = v0 := ht 0
  have g1 : t0.get 1 = (.i .i64 x1) := ht 1
  clear ht
  unfold g37 at hr
  refine w_seq ?_
  refine w_ops ?_
  refine wo_step (v := (.i .i64 0)) (s_pure (p_mv rfl)) ?_
  refine wo_step (v := (.i .i64 0)) (s_pure (p_mv rfl)) ?_
  refine wo_nil ?_
  refine nx_norm ?_
  refine w_seq ?_
  refine w_ops ?_
  refine wo_step (v := v0) (s_pure (p_mv g0)) ?_
  have hq := bindP_inv hr
  clear hr
  obtain ⟨v9, m_1, e9, hr⟩ := hq
  have hq := asI_inv hr
  clear hr
  obtain ⟨x9, rfl, hr⟩ := hq
  refine wo_step (v := (.i .i64 x9)) (s_call (mc rfl mn) (callM_le hM.call e9)) ?_
  refine wo_step (v := (.i .i64 x9)) (s_pure (p_mv rfl)) ?_
  refine wo_nil ?_
  refine nx_norm ?_
  refine w_seq ?_
  refine w_seq ?_
  refine w_ops ?_
  refine wo_step (v := (.i .i64 x9)) (s_pure (p_mv rfl)) ?_
  have hq := forceB_inv hr
  clear hr
  obtain ⟨c11, e11, hr⟩ := hq
  refine wo_step (v := (.b c11)) (s_pure (p_bin rfl rfl (b_neq.trans (cb e11)))) ?_
  refine wo_nil ?_
  refine nx_norm ?_
  have hq := cond_inv hr
  clear hr
  rcases hq with ⟨rfl, hr⟩ | ⟨rfl, hr⟩
  · refine w_condT rfl ?_
    refine w_seq ?_
    refine w_ops ?_
    refine wo_step (v := (.i .i64 x9)) (s_pure (p_mv rfl)) ?_
    refine wo_step (v := (.i .i64 0)) (s_pure (p_mv rfl)) ?_
    refine wo_step (v := (.i .i64 x9)) (s_pure (p_mv rfl)) ?_
    refine wo_nil ?_
    refine nx_norm ?_
    refine w_ret ?_
    refine nx_ret ?_
    exact qf ret_ok (rt rfl (rt rfl rn)) hr
  · refine w_condF rfl ?_
    refine w_skip ?_
    refine nx_norm ?_
    refine w_seq ?_
    refine w_seq ?_
    refine w_ops ?_
    refine wo_step (v := (.i .i64 x1)) (s_pure (p_mv g1)) ?_
    have hq := forceB_inv hr
    clear hr
    obtain ⟨c14, e14, hr⟩ := hq
    refine wo_step (v := (.b c14)) (s_pure (p_bin rfl rfl (b_lss.trans (cb e14)))) ?_
    refine wo_nil ?_
    refine nx_norm ?_
    have hq := cond_inv hr
    clear hr
    rcases hq with ⟨rfl, hr⟩ | ⟨rfl, hr⟩
    · refine w_condT rfl ?_
      refine w_seq ?_
      refine w_ops ?_
      refine wo_step (v := (.i .i64 0)) (s_pure (p_mv rfl)) ?_
      refine wo_step (v := (.i .i64 4)) (s_pure (p_mv rfl)) ?_
      refine wo_nil ?_
      refine nx_norm ?_
      refine w_ret ?_
      refine nx_ret ?_
      exact qf ret_ok (rt rfl (rt rfl rn)) hr
    · refine w_condF rfl ?_
      refine w_skip ?_
      refine nx_norm ?_
      refine w_seq ?_
      refine w_seq ?_
      refine w_ops ?_
      refine wo_step (v := (.i .i64 0)) (s_pure (p_mv rfl)) ?_
      refine wo_nil ?_
      refine nx_norm ?_
      refine w_block ?_
      have hq := bindO_inv hr
      clear hr
      obtain ⟨o_1, hl, hr⟩ := hq
      obtain ⟨n, hl⟩ := hM.loop _ _ _ hl
      refine jp_mono (w_loop _ (g37_I0 v0 m_1) (g37_J0 v0 m_1) ?_ n _ _ _ _ hl ⟨rfl, gl g1, gl rfl, gl g0⟩) ?_
      · clear hr hl
        intro s mm_4 t_1 o hi hr
        obtain ⟨x1_1, x7⟩ := s
        obtain ⟨rfl, g1, g7, g0⟩ := hi
        unfold g37_b0 at hr
        refine w_seq ?_
        refine w_seq ?_
        refine w_ops ?_
        refine wo_step (v := (.i .i64 x7)) (s_pure (p_mv g7)) ?_
        refine wo_step (v := v0) (s_pure (p_mv g0)) ?_
        have hq := bindO_inv hr
        clear hr
        obtain ⟨v17, e17, hr⟩ := hq
        have hq := asI_inv hr
        clear hr
        obtain ⟨x17, rfl, hr⟩ := hq
        refine wo_step (v := (.i .i64 x17)) (s_pure (o_len rfl e17)) ?_
        have hq := forceB_inv hr
        clear hr
        obtain ⟨c18, e18, hr⟩ := hq
        refine wo_step (v := (.b c18)) (s_pure (p_bin rfl rfl (b_lss.trans (cb e18)))) ?_
        refine wo_nil ?_
        refine nx_norm ?_
        have hq := cond_inv hr
        clear hr
        rcases hq with ⟨rfl, hr⟩ | ⟨rfl, hr⟩
        · refine w_condT rfl ?_
          refine w_skip ?_
          refine nx_norm ?_
          refine w_seq ?_
          have hq := bindO_inv hr
          clear hr
          obtain ⟨o, hr, hk⟩ := hq
          refine jp_mono (J := g37_J1 v0 x7 m_1 o) ?_ ?_
          · clear hk
            refine w_block ?_
            refine w_seq ?_
            refine w_seq ?_
            refine w_ops ?_
            refine wo_step (v := v0) (s_pure (p_mv g0)) ?_
            refine wo_step (v := (.i .i64 x7)) (s_pure (p_mv g7)) ?_
            have hq := bindO_inv hr
            clear hr
            obtain ⟨v23, e23, hr⟩ := hq
            refine wo_step (v := v23) (s_pure (o_ixS rfl rfl e23)) ?_
            have hq := bindO_inv hr
            clear hr
            obtain ⟨v24, e24, hr⟩ := hq
            refine wo_step (v := v24) (s_pure (o_faddr rfl e24)) ?_
            have hq := bindO_inv hr
            clear hr
            obtain ⟨v25, e25, hr⟩ := hq
            have hq := asB_inv hr
            clear hr
            obtain ⟨c25, rfl, hr⟩ := hq
            refine wo_step (v := (.b c25)) (s_ld rfl e25) ?_
            refine wo_nil ?_
            refine nx_norm ?_
            have hq := cond_inv hr
            clear hr
            rcases hq with ⟨rfl, hr⟩ | ⟨rfl, hr⟩
            · refine w_condT rfl ?_
              refine w_exit ?_
              refine nx_exit ?_
              refine bk_hit ?_
              cases hr
              exact ⟨_, _, rfl, rfl, rfl, gl g1, gl g0, gl g7⟩
            · refine w_condF rfl ?_
              refine w_skip ?_
              refine nx_norm ?_
              refine w_seq ?_
              refine w_seq ?_
              refine w_ops ?_
              refine wo_step (v := (.i .i64 x1_1)) (s_pure (p_mv g1)) ?_
              have hq := forceB_inv hr
              clear hr
              obtain ⟨c27, e27, hr⟩ := hq
              refine wo_step (v := (.b c27)) (s_pure (p_bin rfl rfl (b_eql.trans (cb e27)))) ?_
              refine wo_nil ?_
              refine nx_norm ?_
              have hq := cond_inv hr
              clear hr
              rcases hq with ⟨rfl, hr⟩ | ⟨rfl, hr⟩
              · refine w_condT rfl ?_
                refine w_seq ?_
                refine w_ops ?_
                refine wo_step (v := (.i .i64 x7)) (s_pure (p_mv g7)) ?_
                refine wo_step (v := (.i .i64 x7)) (s_pure (p_mv rfl)) ?_
                refine wo_step (v := (.i .i64 0)) (s_pure (p_mv rfl)) ?_
                refine wo_nil ?_
                refine nx_norm ?_
                refine w_ret ?_
                refine nx_ret ?_
                refine bk_ret ?_
                cases hr
                exact ⟨_, _, rfl, rfl, rfl, gl rfl, gl rfl⟩
              · refine w_condF rfl ?_
                refine w_skip ?_
                refine nx_norm ?_
                refine w_ops ?_
                refine wo_step (v := (.i .i64 x1_1)) (s_pure (p_mv g1)) ?_
                have hq := forceI_inv hr
                clear hr
                obtain ⟨x30, e30, hr⟩ := hq
                refine wo_step (v := (.i .i64 x30)) (s_pure (p_bin rfl rfl (b_sub.trans (ci e30)))) ?_
                refine wo_step (v := (.i .i64 x30)) (s_pure (p_mv rfl)) ?_
                refine wo_nil ?_
                refine bk_norm ?_
                cases hr
                exact ⟨_, _, rfl, rfl, rfl, gl rfl, gl g0, gl g7⟩
          · clear hr
            have hr := hk
            clear hk
            rcases o with o | o
            · obtain ⟨x1_2, ho⟩ : ∃ z, z = o := ⟨_, rfl⟩
              subst ho
              rintro _ mm t_2 ⟨rfl, rfl, g1, g0, g7⟩
              refine nx_norm ?_
              refine w_ops ?_
              refine wo_step (v := (.i .i64 x7)) (s_pure (p_mv g7)) ?_
              have hq := forceI_inv hr
              clear hr
              obtain ⟨x20, e20, hr⟩ := hq
              refine wo_step (v := (.i .i64 x20)) (s_pure (p_bin rfl rfl (b_add.trans (ci e20)))) ?_
              refine wo_step (v := (.i .i64 x20)) (s_pure (p_mv rfl)) ?_
              refine wo_nil ?_
              cases hr
              exact ⟨_, _, rfl, rfl, rfl, gl g1, gl rfl, gl g0⟩
            · obtain ⟨x4, x5⟩ := o
              rintro _ mm_1 t_3 ⟨rfl, rfl, g4, g5⟩
              refine nx_ret ?_
              cases hr
              exact ⟨_, _, rfl, ne_norm_ret, rfl, rfl, gl g4, gl g5⟩
        · refine w_condF rfl ?_
          refine w_exit ?_
          refine nx_exit ?_
          cases hr
          exact ⟨_, _, rfl, ne_norm_exit, rfl, rfl, gl g1, gl g0⟩
      · rcases o_1 with o_1 | o_1
        · obtain ⟨x1_3, ho⟩ : ∃ z, z = o_1 := ⟨_, rfl⟩
          subst ho
          rintro _ mm_2 t_4 ⟨rfl, rfl, g1, g0⟩
          refine bk_hit ?_
          refine nx_norm ?_
          refine w_seq ?_
          refine w_seq ?_
          refine w_ops ?_
          refine wo_step (v := (.i .i64 x1_3)) (s_pure (p_mv g1)) ?_
          have hq := forceB_inv hr
          clear hr
          obtain ⟨c32, e32, hr⟩ := hq
          refine wo_step (v := (.b c32)) (s_pure (p_bin rfl rfl (b_gtr.trans (cb e32)))) ?_
          refine wo_nil ?_
          refine nx_norm ?_
          have hq := cond_inv hr
          clear hr
          rcases hq with ⟨rfl, hr⟩ | ⟨rfl, hr⟩
          · refine w_condT rfl ?_
            refine w_seq ?_
            refine w_ops ?_
            refine wo_step (v := (.i .i64 0)) (s_pure (p_mv rfl)) ?_
            refine wo_step (v := (.i .i64 4)) (s_pure (p_mv rfl)) ?_
            refine wo_nil ?_
            refine nx_norm ?_
            refine w_ret ?_
            refine nx_ret ?_
            exact qf ret_ok (rt rfl (rt rfl rn)) hr
          · refine w_condF rfl ?_
            refine w_skip ?_
            refine nx_norm ?_
            refine w_seq ?_
            refine w_ops ?_
            refine wo_step (v := v0) (s_pure (p_mv g0)) ?_
            have hq := bindO_inv hr
            clear hr
            obtain ⟨v34, e34, hr⟩ := hq
            have hq := asI_inv hr
            clear hr
            obtain ⟨x34, rfl, hr⟩ := hq
            refine wo_step (v := (.i .i64 x34)) (s_pure (o_len rfl e34)) ?_
            refine wo_step (v := (.i .i64 x34)) (s_pure (p_mv rfl)) ?_
            refine wo_step (v := (.i .i64 0)) (s_pure (p_mv rfl)) ?_
            refine wo_nil ?_
            refine nx_norm ?_
            refine w_ret ?_
            exact qf ret_ok (rt rfl (rt rfl rn)) hr
        · obtain ⟨x4_1, x5_1⟩ := o_1
          rintro _ mm_3 t_5 ⟨rfl, rfl, g4, g5⟩
          refine bk_ret ?_
          refine nx_ret ?_
          exact qf ret_ok (rt g4 (rt g5 rn)) hr

/- dibber/note.Type -/
abbrev g38_I0 (v0 : AVal) (s2 : List UInt8) (x3 : Int) (x19 : Int) (x28 : Int) (s : Int × Mm) (m1 : Mm) (t1 : Tr) : Prop :=
  match s with
  | (x29, m_2) => m_2 = m1 ∧ t1.get 29 = (.i .i64 x29) ∧ t1.get 0 = v0 ∧ t1.get 2 = (.s s2) ∧ t1.get 3 = (.i .i64 x3) ∧ t1.get 10 = (.i .i64 x19) ∧ t1.get 28 = (.i .i64 x28)
abbrev g38_J0 (v0 : AVal) (s2 : List UInt8) (x3 : Int) (x19 : Int) (x28 : Int) (o : (Mm ⊕ (AVal × Int × Mm))) (e : AExit) (m1 : Mm) (t1 : Tr) : Prop :=
  match o with
  | (.inl mo) => e = (.exit 0) ∧ mo = m1 ∧ t1.get 0 = v0 ∧ t1.get 2 = (.s s2) ∧ t1.get 3 = (.i .i64 x3) ∧ t1.get 10 = (.i .i64 x19)
  | (.inr (y8, y9, mo)) => e = .ret ∧ mo = m1 ∧ t1.get 8 = y8 ∧ t1.get 9 = (.i .i64 y9)
def g38_b0 (M : Means) (ro : List ABlk) (v0 : AVal) (s2 : List UInt8) (x3 : Int) (x19 : Int) (x28 : Int) (x29 : Int) (m_2 : Mm) : Option ((Int × Mm) ⊕ ((Mm ⊕ (AVal × Int × Mm)))) :=
  forceB (ltI x29 x28) fun c30 =>
  cond c30 (
    bindO (evP .e (.ixStr (.c (.s s2)) (.c (.i .i64 x29)))) fun v34 =>
    asI .u8 v34 fun x34 =>
    bindP (callM M.call m_2 76 [(.i .u8 x34)]) fun v35 m_3 =>
    asB v35 fun c35 =>
    forceB (!c35) fun c36 =>
    cond c36 (
      some (.inr (.inr (AVal.nsl, 5, m_3)))) (
      forceI (wr .i64 (x29 + 1)) fun x37 =>
      some (.inl (x37, m_3)))) (
    some (.inr (.inl m_2)))
abbrev g38_I1 (s2 : List UInt8) (x3 : Int) (x19 : Int) (v49 : AVal) (x51 : Int) (s : Int × Mm) (m1 : Mm) (t1 : Tr) : Prop :=
  match s with
  | (x52, m_7) => m_7 = m1 ∧ t1.get 52 = (.i .i64 x52) ∧ t1.get 2 = (.s s2) ∧ t1.get 3 = (.i .i64 x3) ∧ t1.get 10 = (.i .i64 x19) ∧ t1.get 13 = v49 ∧ t1.get 51 = (.i .i64 x51)
abbrev g38_J1 (s2 : List UInt8) (x3 : Int) (x19 : Int) (v49 : AVal) (x51 : Int) (o : Mm) (e : AExit) (m1 : Mm) (t1 : Tr) : Prop :=
  match o with
  | mo => e = (.exit 2) ∧ mo = m1 ∧ t1.get 13 = v49
def g38_b1 (M : Means) (ro : List ABlk) (s2 : List UInt8) (x3 : Int) (x19 : Int) (v49 : AVal) (x51 : Int) (x52 : Int) (m_7 : Mm) : Option ((Int × Mm) ⊕ (Mm)) :=
  forceB (ltI x52 x51) fun c53 =>
  cond c53 (
    forceI (wr .i64 (x19 + x52)) fun x59 =>
    bindO (evP .e (.ixStr (.c (.s s2)) (.c (.i .i64 x52)))) fun v62 =>
    asI .u8 v62 fun x62 =>
    bindO ((fillA [(AVal.i IntKind.i64 0), (AVal.i IntKind.i64 0), (AVal.i IntKind.u8 0), (AVal.i IntKind.i64 0)] [((0, 1), (.i .i64 1)), ((1, 1), (.i .i64 x59)), ((2, 1), (.i .u8 x62)), ((3, 1), (.i .i64 x3))]).map AVal.agg) fun v64 =>
    bindO (evP .e (.ixS 4 (.c v49) (.c (.i .i64 x52)))) fun v65 =>
    bindP (stepM ro m_7 (.st 4 (.c v65) (.c v64))) fun vn m_8 =>
    forceI (wr .i64 (x52 + 1)) fun x66 =>
    some (.inl (x66, m_8))) (
    some (.inr m_7))
def g38 (M : Means) (ro : List ABlk) (v0 : AVal) (x1 : Int) (s2 : List UInt8) (x3 : Int) (m0 : Mm) : Option (AVal × Heap × Nat × Nat) :=
  bindP (callM M.call m0 36 [v0, (.i .i64 x1)]) fun v18 m_1 =>
  bindO (evP .e (.ext 0 (.c v18))) fun v19 =>
  asI .i64 v19 fun x19 =>
  bindO (evP .e (.ext 1 (.c v18))) fun v20 =>
  asI .i64 v20 fun x20 =>
  forceB (!eqI x20 0) fun c22 =>
  cond c22 (
    finM m0.h.length (tupA [AVal.nsl, (.i .i64 x20)]) m_1) (
    bindO (evP .e (.len true (.c (.s s2)))) fun v25 =>
    asI .i64 v25 fun x25 =>
    forceB (ltI 300 x25) fun c26 =>
    cond c26 (
      finM m0.h.length (tupA [AVal.nsl, (.i .i64 3)]) m_1) (
      bindO (evP .e (.len true (.c (.s s2)))) fun v28 =>
      asI .i64 v28 fun x28 =>
      bindO (M.loop (S := Int × Mm) (R := (Mm ⊕ (AVal × Int × Mm))) (fun s => g38_b0 M ro v0 s2 x3 x19 x28 s.1 s.2) (0, m_1)) fun o => match o with
      | (.inl m_4) =>
        bindP (callM M.call m_4 77 [(.i .i64 0), (.i .i64 x3), (.i .i64 4)]) fun v39 m_5 =>
        asB v39 fun c39 =>
        forceB (!c39) fun c40 =>
        cond c40 (
          finM m0.h.length (tupA [AVal.nsl, (.i .i64 2)]) m_5) (
          bindO (evP .e (.len false (.c v0))) fun v42 =>
          asI .i64 v42 fun x42 =>
          bindO (evP .e (.len true (.c (.s s2)))) fun v44 =>
          asI .i64 v44 fun x44 =>
          forceI (wr .i64 (x42 + x44)) fun x45 =>
          forceB (ltI 300 x45) fun c46 =>
          cond c46 (
            finM m0.h.length (tupA [AVal.nsl, (.i .i64 8)]) m_5) (
            bindO (evP .e (.len true (.c (.s s2)))) fun v48 =>
            asI .i64 v48 fun x48 =>
            bindP (stepM ro m_5 (.mk 24 4 32 [(AVal.i IntKind.i64 0), (AVal.i IntKind.i64 0), (AVal.i IntKind.u8 0), (AVal.i IntKind.i64 0)] (.c (.i .i64 x48)) (.c (.i .i64 x48)))) fun v49 m_6 =>
            bindO (evP .e (.len false (.c v49))) fun v51 =>
            asI .i64 v51 fun x51 =>
            bindO (M.loop (S := Int × Mm) (R := Mm) (fun s => g38_b1 M ro s2 x3 x19 v49 x51 s.1 s.2) (0, m_6)) fun m_9 =>
            finM m0.h.length (tupA [v49, (.i .i64 0)]) m_9))
      | (.inr (v8, x9, m_10)) =>
        finM m0.h.length (tupA [v8, (.i .i64 x9)]) m_10))

theorem g38_ok {ro : List ABlk} {O : Caller} {M : Means} (hM : M.Ok ⟨F, O⟩ ro) {v0 x1 s2 x3 h r} (ho : O 38 [v0, (.i .i64 x1), (.s s2), (.i .i64 x3)] h = none) (hr : g38 M ro v0 x1 s2 x3 ⟨h, h.length, h.length⟩ = some r) : callX ⟨F, O⟩ ro 38 [v0, (.i .i64 x1), (.s s2), (.i .i64 x3)] h = some r := by
  refine callX_of (F := ⟨F, O⟩) (fn := fn38) (g := g38 M ro v0 x1 s2 x3) ho rfl rfl hr ?_
  clear ho
  clear hr
  intro m0 t0 ht hr
  have g0 : t0.get 0 = v0 := ht 0
  have g1 : t0.get 1 = (.i .i64 x1) := ht 1
  have g2 : t0.get 2 = (.s s2) := ht 2
  have g3 : t0.get 3 = (.i .i64 x3) := ht 3
  clear ht
  unfold g38 at hr
  refine w_seq ?_
  refine w_ops ?_
  refine wo_step (v := AVal.nsl) (s_pure (p_mv rfl)) ?_
  refine wo_step (v := (.i .i64 0)) (s_pure (p_mv rfl)) ?_
  refine wo_nil ?_
  refine nx_norm ?_
  refine w_seq ?_
  refine w_ops ?_
  refine wo_step (v := v0) (s_pure (p_mv g0)) ?_
  refine wo_step (v := (.i .i64 x1)) (s_pure (p_mv g1)) ?_
  have hq := bindP_inv hr
  clear hr
  obtain ⟨v18, m_1, e18, hr⟩ := hq
  refine wo_step (v := v18) (s_call (mc rfl (mc rfl mn)) (callM_le hM.call e18)) ?_
  refine wo_step (v := v18) (s_pure (p_mv rfl)) ?_
  have hq := bindO_inv hr
  clear hr
  obtain ⟨v19, e19, hr⟩ := hq
  have hq := asI_inv hr
  clear hr
  obtain ⟨x19, rfl, hr⟩ := hq
  refine wo_step (v := (.i .i64 x19)) (s_pure (o_ext rfl e19)) ?_
  have hq := bindO_inv hr
  clear hr
  obtain ⟨v20, e20, hr⟩ := hq
  have hq := asI_inv hr
  clear hr
  obtain ⟨x20, rfl, hr⟩ := hq
  refine wo_step (v := (.i .i64 x20)) (s_pure (o_ext rfl e20)) ?_
  refine wo_step (v := (.i .i64 x19)) (s_pure (p_mv rfl)) ?_
  refine wo_step (v := (.i .i64 x20)) (s_pure (p_mv rfl)) ?_
  refine wo_nil ?_
  refine nx_norm ?_
  refine w_seq ?_
  refine w_seq ?_
  refine w_ops ?_
  refine wo_step (v := (.i .i64 x20)) (s_pure (p_mv rfl)) ?_
  have hq := forceB_inv hr
  clear hr
  obtain ⟨c22, e22, hr⟩ := hq
  refine wo_step (v := (.b c22)) (s_pure (p_bin rfl rfl (b_neq.trans (cb e22)))) ?_
  refine wo_nil ?_
  refine nx_norm ?_
  have hq := cond_inv hr
  clear hr
  rcases hq with ⟨rfl, hr⟩ | ⟨rfl, hr⟩
  · refine w_condT rfl ?_
    refine w_seq ?_
    refine w_ops ?_
    refine wo_step (v := (.i .i64 x20)) (s_pure (p_mv rfl)) ?_
    refine wo_step (v := AVal.nsl) (s_pure (p_mv rfl)) ?_
    refine wo_step (v := (.i .i64 x20)) (s_pure (p_mv rfl)) ?_
    refine wo_nil ?_
    refine nx_norm ?_
    refine w_ret ?_
    refine nx_ret ?_
    exact qf ret_ok (rt rfl (rt rfl rn)) hr
  · refine w_condF rfl ?_
    refine w_skip ?_
    refine nx_norm ?_
    refine w_seq ?_
    refine w_seq ?_
    refine w_ops ?_
    refine wo_step (v := (.s s2)) (s_pure (p_mv g2)) ?_
    have hq := bindO_inv hr
    clear hr
    obtain ⟨v25, e25, hr⟩ := hq
    have hq := asI_inv hr
    clear hr
    obtain ⟨x25, rfl, hr⟩ := hq
    refine wo_step (v := (.i .i64 x25)) (s_pure (o_len rfl e25)) ?_
    have hq := forceB_inv hr
    clear hr
    obtain ⟨c26, e26, hr⟩ := hq
    refine wo_step (v := (.b c26)) (s_pure (p_bin rfl rfl (b_gtr.trans (cb e26)))) ?_
    refine wo_nil ?_
    refine nx_norm ?_
    have hq := cond_inv hr
    clear hr
    rcases hq with ⟨rfl, hr⟩ | ⟨rfl, hr⟩
    · refine w_condT rfl ?_
      refine w_seq ?_
      refine w_ops ?_
      refine wo_step (v := AVal.nsl) (s_pure (p_mv rfl)) ?_
      refine wo_step (v := (.i .i64 3)) (s_pure (p_mv rfl)) ?_
      refine wo_nil ?_
      refine nx_norm ?_
      refine w_ret ?_
      refine nx_ret ?_
      exact qf ret_ok (rt rfl (rt rfl rn)) hr
    · refine w_condF rfl ?_
      refine w_skip ?_
      refine nx_norm ?_
      refine w_seq ?_
      refine w_seq ?_
      refine w_ops ?_
      refine wo_step (v := (.s s2)) (s_pure (p_mv g2)) ?_
      have hq := bindO_inv hr
      clear hr
      obtain ⟨v28, e28, hr⟩ := hq
      have hq := asI_inv hr
      clear hr
      obtain ⟨x28, rfl, hr⟩ := hq
      refine wo_step (v := (.i .i64 x28)) (s_pure (o_len rfl e28)) ?_
      refine wo_step (v := (.i .i64 0)) (s_pure (p_mv rfl)) ?_
      refine wo_nil ?_
      refine nx_norm ?_
      refine w_block ?_
      have hq := bindO_inv hr
      clear hr
      obtain ⟨o, hl_1, hr⟩ := hq
      obtain ⟨n_1, hl_1⟩ := hM.loop _ _ _ hl_1
      refine jp_mono (w_loop _ (g38_I0 v0 s2 x3 x19 x28) (g38_J0 v0 s2 x3 x19 x28) ?_ n_1 _ _ _ _ hl_1 ⟨rfl, gl rfl, gl g0, gl g2, gl g3, gl rfl, gl rfl⟩) ?_
      · clear hr hl_1
        intro s mm_4 t_1 o hi hr
        obtain ⟨x29, m_2⟩ := s
        obtain ⟨rfl, g29, g0, g2, g3, g10, g28⟩ := hi
        unfold g38_b0 at hr
        refine w_seq ?_
        refine w_ops ?_
        have hq := forceB_inv hr
        clear hr
        obtain ⟨c30, e30, hr⟩ := hq
        refine wo_step (v := (.b c30)) (s_pure (p_bin g29 g28 (b_lss.trans (cb e30)))) ?_
        refine wo_nil ?_
        refine nx_norm ?_
        refine w_seq ?_
        have hq := cond_inv hr
        clear hr
        rcases hq with ⟨rfl, hr⟩ | ⟨rfl, hr⟩
        · refine w_condT rfl ?_
          refine w_skip ?_
          refine nx_norm ?_
          refine w_seq ?_
          refine w_block ?_
          refine w_seq ?_
          refine w_ops ?_
          refine wo_step (v := (.i .i64 x29)) (s_pure (p_mv g29)) ?_
          refine wo_step (v := (.i .i64 x29)) (s_pure (p_mv rfl)) ?_
          refine wo_nil ?_
          refine nx_norm ?_
          refine w_seq ?_
          refine w_ops ?_
          refine wo_step (v := (.s s2)) (s_pure (p_mv g2)) ?_
          refine wo_step (v := (.i .i64 x29)) (s_pure (p_mv rfl)) ?_
          have hq := bindO_inv hr
          clear hr
          obtain ⟨v34, e34, hr⟩ := hq
          have hq := asI_inv hr
          clear hr
          obtain ⟨x34, rfl, hr⟩ := hq
          refine wo_step (v := (.i .u8 x34)) (s_pure (o_ixStr rfl rfl e34)) ?_
          have hq := bindP_inv hr
          clear hr
          obtain ⟨v35, m_3, e35, hr⟩ := hq
          have hq := asB_inv hr
          clear hr
          obtain ⟨c35, rfl, hr⟩ := hq
          refine wo_step (v := (.b c35)) (s_call (mc rfl mn) (callM_le hM.call e35)) ?_
          have hq := forceB_inv hr
          clear hr
          obtain ⟨c36, e36, hr⟩ := hq
          refine wo_step (v := (.b c36)) (s_pure ((p_not rfl).trans (cb e36))) ?_
          refine wo_nil ?_
          refine nx_norm ?_
          have hq := cond_inv hr
          clear hr
          rcases hq with ⟨rfl, hr⟩ | ⟨rfl, hr⟩
          · refine w_condT rfl ?_
            refine w_seq ?_
            refine w_ops ?_
            refine wo_step (v := AVal.nsl) (s_pure (p_mv rfl)) ?_
            refine wo_step (v := (.i .i64 5)) (s_pure (p_mv rfl)) ?_
            refine wo_nil ?_
            refine nx_norm ?_
            refine w_ret ?_
            refine bk_ret ?_
            refine nx_ret ?_
            cases hr
            exact ⟨_, _, rfl, ne_norm_ret, rfl, rfl, gl rfl, gl rfl⟩
          · refine w_condF rfl ?_
            refine w_skip ?_
            refine bk_norm ?_
            refine nx_norm ?_
            refine w_ops ?_
            have hq := forceI_inv hr
            clear hr
            obtain ⟨x37, e37, hr⟩ := hq
            refine wo_step (v := (.i .i64 x37)) (s_pure (p_bin g29 rfl (b_add.trans (ci e37)))) ?_
            refine wo_step (v := (.i .i64 x37)) (s_pure (p_mv rfl)) ?_
            refine wo_nil ?_
            cases hr
            exact ⟨_, _, rfl, rfl, rfl, gl rfl, gl g0, gl g2, gl g3, gl g10, gl g28⟩
        · refine w_condF rfl ?_
          refine w_exit ?_
          refine nx_exit ?_
          cases hr
          exact ⟨_, _, rfl, ne_norm_exit, rfl, rfl, gl g0, gl g2, gl g3, gl g10⟩
      · rcases o with o | o
        · obtain ⟨m_4, ho⟩ : ∃ z, z = o := ⟨_, rfl⟩
          subst ho
          rintro _ mm_2 t_2 ⟨rfl, rfl, g0, g2, g3, g10⟩
          refine bk_hit ?_
          refine nx_norm ?_
          refine w_seq ?_
          refine w_seq ?_
          refine w_ops ?_
          refine wo_step (v := (.i .i64 x3)) (s_pure (p_mv g3)) ?_
          have hq := bindP_inv hr
          clear hr
          obtain ⟨v39, m_5, e39, hr⟩ := hq
          have hq := asB_inv hr
          clear hr
          obtain ⟨c39, rfl, hr⟩ := hq
          refine wo_step (v := (.b c39)) (s_call (mc rfl (mc rfl (mc rfl mn))) (callM_le hM.call e39)) ?_
          have hq := forceB_inv hr
          clear hr
          obtain ⟨c40, e40, hr⟩ := hq
          refine wo_step (v := (.b c40)) (s_pure ((p_not rfl).trans (cb e40))) ?_
          refine wo_nil ?_
          refine nx_norm ?_
          have hq := cond_inv hr
          clear hr
          rcases hq with ⟨rfl, hr⟩ | ⟨rfl, hr⟩
          · refine w_condT rfl ?_
            refine w_seq ?_
            refine w_ops ?_
            refine wo_step (v := AVal.nsl) (s_pure (p_mv rfl)) ?_
            refine wo_step (v := (.i .i64 2)) (s_pure (p_mv rfl)) ?_
            refine wo_nil ?_
            refine nx_norm ?_
            refine w_ret ?_
            refine nx_ret ?_
            exact qf ret_ok (rt rfl (rt rfl rn)) hr
          · refine w_condF rfl ?_
            refine w_skip ?_
            refine nx_norm ?_
            refine w_seq ?_
            refine w_seq ?_
            refine w_ops ?_
            refine wo_step (v := v0) (s_pure (p_mv g0)) ?_
            have hq := bindO_inv hr
            clear hr
            obtain ⟨v42, e42, hr⟩ := hq
            have hq := asI_inv hr
            clear hr
            obtain ⟨x42, rfl, hr⟩ := hq
            refine wo_step (v := (.i .i64 x42)) (s_pure (o_len rfl e42)) ?_
            refine wo_step (v := (.s s2)) (s_pure (p_mv g2)) ?_
            have hq := bindO_inv hr
            clear hr
            obtain ⟨v44, e44, hr⟩ := hq
            have hq := asI_inv hr
            clear hr
            obtain ⟨x44, rfl, hr⟩ := hq
            refine wo_step (v := (.i .i64 x44)) (s_pure (o_len rfl e44)) ?_
            have hq := forceI_inv hr
            clear hr
            obtain ⟨x45, e45, hr⟩ := hq
            refine wo_step (v := (.i .i64 x45)) (s_pure (p_bin rfl rfl (b_add.trans (ci e45)))) ?_
            have hq := forceB_inv hr
            clear hr
            obtain ⟨c46, e46, hr⟩ := hq
            refine wo_step (v := (.b c46)) (s_pure (p_bin rfl rfl (b_gtr.trans (cb e46)))) ?_
            refine wo_nil ?_
            refine nx_norm ?_
            have hq := cond_inv hr
            clear hr
            rcases hq with ⟨rfl, hr⟩ | ⟨rfl, hr⟩
            · refine w_condT rfl ?_
              refine w_seq ?_
              refine w_ops ?_
              refine wo_step (v := AVal.nsl) (s_pure (p_mv rfl)) ?_
              refine wo_step (v := (.i .i64 8)) (s_pure (p_mv rfl)) ?_
              refine wo_nil ?_
              refine nx_norm ?_
              refine w_ret ?_
              refine nx_ret ?_
              exact qf ret_ok (rt rfl (rt rfl rn)) hr
            · refine w_condF rfl ?_
              refine w_skip ?_
              refine nx_norm ?_
              refine w_seq ?_
              refine w_ops ?_
              refine wo_step (v := (.s s2)) (s_pure (p_mv g2)) ?_
              have hq := bindO_inv hr
              clear hr
              obtain ⟨v48, e48, hr⟩ := hq
              have hq := asI_inv hr
              clear hr
              obtain ⟨x48, rfl, hr⟩ := hq
              refine wo_step (v := (.i .i64 x48)) (s_pure (o_len rfl e48)) ?_
              have hq := bindP_inv hr
              clear hr
              obtain ⟨v49, m_6, e49, hr⟩ := hq
              refine wo_step (v := v49) (s_mk rfl rfl e49) ?_
              refine wo_step (v := v49) (s_pure (p_mv rfl)) ?_
              refine wo_nil ?_
              refine nx_norm ?_
              refine w_seq ?_
              refine w_seq ?_
              refine w_ops ?_
              refine wo_step (v := v49) (s_pure (p_mv rfl)) ?_
              have hq := bindO_inv hr
              clear hr
              obtain ⟨v51, e51, hr⟩ := hq
              have hq := asI_inv hr
              clear hr
              obtain ⟨x51, rfl, hr⟩ := hq
              refine wo_step (v := (.i .i64 x51)) (s_pure (o_len rfl e51)) ?_
              refine wo_step (v := (.i .i64 0)) (s_pure (p_mv rfl)) ?_
              refine wo_nil ?_
              refine nx_norm ?_
              refine w_block ?_
              have hq := bindO_inv hr
              clear hr
              obtain ⟨o_1, hl, hr⟩ := hq
              obtain ⟨n, hl⟩ := hM.loop _ _ _ hl
              refine jp_mono (w_loop _ (g38_I1 s2 x3 x19 v49 x51) (g38_J1 s2 x3 x19 v49 x51) ?_ n _ _ _ _ hl ⟨rfl, gl rfl, gl g2, gl g3, gl g10, gl rfl, gl rfl⟩) ?_
              · clear hr hl
                intro s mm_1 t_3 o hi hr
                obtain ⟨x52, m_7⟩ := s
                obtain ⟨rfl, g52, g2, g3, g10, g13, g51⟩ := hi
                unfold g38_b1 at hr
                refine w_seq ?_
                refine w_ops ?_
                have hq := forceB_inv hr
                clear hr
                obtain ⟨c53, e53, hr⟩ := hq
                refine wo_step (v := (.b c53)) (s_pure (p_bin g52 g51 (b_lss.trans (cb e53)))) ?_
                refine wo_nil ?_
                refine nx_norm ?_
                refine w_seq ?_
                have hq := cond_inv hr
                clear hr
                rcases hq with ⟨rfl, hr⟩ | ⟨rfl, hr⟩
                · refine w_condT rfl ?_
                  refine w_skip ?_
                  refine nx_norm ?_
                  refine w_seq ?_
                  refine w_block ?_
                  refine w_seq ?_
                  refine w_ops ?_
                  refine wo_step (v := (.i .i64 x52)) (s_pure (p_mv g52)) ?_
                  refine wo_step (v := (.i .i64 x52)) (s_pure (p_mv rfl)) ?_
                  refine wo_nil ?_
                  refine nx_norm ?_
                  refine w_ops ?_
                  refine wo_step (v := v49) (s_pure (p_mv g13)) ?_
                  refine wo_step (v := (.i .i64 x52)) (s_pure (p_mv rfl)) ?_
                  refine wo_step (v := (.i .i64 x19)) (s_pure (p_mv g10)) ?_
                  refine wo_step (v := (.i .i64 x52)) (s_pure (p_mv rfl)) ?_
                  have hq := forceI_inv hr
                  clear hr
                  obtain ⟨x59, e59, hr⟩ := hq
                  refine wo_step (v := (.i .i64 x59)) (s_pure (p_bin rfl rfl (b_add.trans (ci e59)))) ?_
                  refine wo_step (v := (.s s2)) (s_pure (p_mv g2)) ?_
                  refine wo_step (v := (.i .i64 x52)) (s_pure (p_mv rfl)) ?_
                  have hq := bindO_inv hr
                  clear hr
                  obtain ⟨v62, e62, hr⟩ := hq
                  have hq := asI_inv hr
                  clear hr
                  obtain ⟨x62, rfl, hr⟩ := hq
                  refine wo_step (v := (.i .u8 x62)) (s_pure (o_ixStr rfl rfl e62)) ?_
                  refine wo_step (v := (.i .i64 x3)) (s_pure (p_mv g3)) ?_
                  have hq := bindO_inv hr
                  clear hr
                  obtain ⟨v64, e64, hr⟩ := hq
                  refine wo_step (v := v64) (s_pure (o_build (qc rfl (qc rfl (qc rfl (qc rfl qn)))) e64)) ?_
                  have hq := bindO_inv hr
                  clear hr
                  obtain ⟨v65, e65, hr⟩ := hq
                  refine wo_step (v := v65) (s_pure (o_ixS rfl rfl e65)) ?_
                  have hq := bindP_inv hr
                  clear hr
                  obtain ⟨vn, m_8, en, hr⟩ := hq
                  refine wo_stepN (s_st rfl rfl en) ?_
                  refine wo_nil ?_
                  refine bk_norm ?_
                  refine nx_norm ?_
                  refine w_ops ?_
                  have hq := forceI_inv hr
                  clear hr
                  obtain ⟨x66, e66, hr⟩ := hq
                  refine wo_step (v := (.i .i64 x66)) (s_pure (p_bin g52 rfl (b_add.trans (ci e66)))) ?_
                  refine wo_step (v := (.i .i64 x66)) (s_pure (p_mv rfl)) ?_
                  refine wo_nil ?_
                  cases hr
                  exact ⟨_, _, rfl, rfl, rfl, gl rfl, gl g2, gl g3, gl g10, gl g13, gl g51⟩
                · refine w_condF rfl ?_
                  refine w_exit ?_
                  refine nx_exit ?_
                  cases hr
                  exact ⟨_, _, rfl, ne_norm_exit, rfl, rfl, gl g13⟩
              · obtain ⟨m_9, ho⟩ : ∃ z, z = o_1 := ⟨_, rfl⟩
                subst ho
                rintro _ mm t_4 ⟨rfl, rfl, g13⟩
                refine bk_hit ?_
                refine nx_norm ?_
                refine w_seq ?_
                refine w_ops ?_
                refine wo_step (v := v49) (s_pure (p_mv g13)) ?_
                refine wo_step (v := v49) (s_pure (p_mv rfl)) ?_
                refine wo_step (v := (.i .i64 0)) (s_pure (p_mv rfl)) ?_
                refine wo_nil ?_
                refine nx_norm ?_
                refine w_ret ?_
                exact qf ret_ok (rt rfl (rt rfl rn)) hr
        · obtain ⟨v8, x9, m_10⟩ := o
          rintro _ mm_3 t_5 ⟨rfl, rfl, g8, g9⟩
          refine bk_ret ?_
          refine nx_ret ?_
          exact qf ret_ok (rt g8 (rt g9 rn)) hr

/- dibber/dibberref07.Type -/
abbrev g39_I0 (v0 : AVal) (s2 : List UInt8) (x3 : Int) (x19 : Int) (m_1 : Mm) (s : Int) (m1 : Mm) (t1 : Tr) : Prop :=
  match s with
  | x12 => m_1 = m1 ∧ t1.get 12 = (.i .i64 x12) ∧ t1.get 0 = v0 ∧ t1.get 2 = (.s s2) ∧ t1.get 3 = (.i .i64 x3) ∧ t1.get 10 = (.i .i64 x19)
abbrev g39_J0 (v0 : AVal) (s2 : List UInt8) (x3 : Int) (x19 : Int) (m_1 : Mm) (o : (Unit ⊕ (AVal × Int))) (e : AExit) (m1 : Mm) (t1 : Tr) : Prop :=
  match o with
  | (.inl _) => e = (.exit 0) ∧ m_1 = m1 ∧ t1.get 0 = v0 ∧ t1.get 2 = (.s s2) ∧ t1.get 3 = (.i .i64 x3) ∧ t1.get 10 = (.i .i64 x19)
  | (.inr (y8, y9)) => e = .ret ∧ m_1 = m1 ∧ t1.get 8 = y8 ∧ t1.get 9 = (.i .i64 y9)
abbrev g39_J1 (v0 : AVal) (s2 : List UInt8) (x3 : Int) (x19 : Int) (x12 : Int) (m_1 : Mm) (o : Bool) (m1 : Mm) (t1 : Tr) : Prop :=
  match o with
  | c42 => m_1 = m1 ∧ t1.get 42 = (.b c42) ∧ t1.get 0 = v0 ∧ t1.get 2 = (.s s2) ∧ t1.get 3 = (.i .i64 x3) ∧ t1.get 10 = (.i .i64 x19) ∧ t1.get 12 = (.i .i64 x12)
def g39_b0 (M : Means) (ro : List ABlk) (v0 : AVal) (s2 : List UInt8) (x3 : Int) (x19 : Int) (m_1 : Mm) (x12 : Int) : Option ((Int) ⊕ ((Unit ⊕ (AVal × Int)))) :=
  bindO (evP .e (.len true (.c (.s s2)))) fun v29 =>
  asI .i64 v29 fun x29 =>
  forceB (ltI x12 x29) fun c30 =>
  cond c30 (
    bindO (evP .e (.ixStr (.c (.s s2)) (.c (.i .i64 x12)))) fun v35 =>
    asI .u8 v35 fun x35 =>
    forceB (ltI x35 97) fun c36 =>
    bindO (cond c36 (
      some true) (
      bindO (evP .e (.ixStr (.c (.s s2)) (.c (.i .i64 x12)))) fun v40 =>
      asI .u8 v40 fun x40 =>
      forceB (ltI 122 x40) fun c41 =>
      some c41)) fun c42 =>
    cond c42 (
      some (.inr (.inr (AVal.nsl, 5)))) (
      forceI (wr .i64 (x12 + 1)) fun x32 =>
      some (.inl x32))) (
    some (.inr (.inl ())))
abbrev g39_J2 (v0 : AVal) (s2 : List UInt8) (x3 : Int) (x19 : Int) (m_1 : Mm) (o : Bool) (m1 : Mm) (t1 : Tr) : Prop :=
  match o with
  | c48 => m_1 = m1 ∧ t1.get 48 = (.b c48) ∧ t1.get 0 = v0 ∧ t1.get 2 = (.s s2) ∧ t1.get 3 = (.i .i64 x3) ∧ t1.get 10 = (.i .i64 x19)
abbrev g39_I3 (s2 : List UInt8) (x3 : Int) (x19 : Int) (s : AVal × Int × Mm) (m1 : Mm) (t1 : Tr) : Prop :=
  match s with
  | (v13, x14, m_2) => m_2 = m1 ∧ t1.get 13 = v13 ∧ t1.get 14 = (.i .i64 x14) ∧ t1.get 2 = (.s s2) ∧ t1.get 3 = (.i .i64 x3) ∧ t1.get 10 = (.i .i64 x19)
abbrev g39_J3 (s2 : List UInt8) (x3 : Int) (x19 : Int) (o : (AVal × Mm)) (e : AExit) (m1 : Mm) (t1 : Tr) : Prop :=
  match o with
  | (y13, mo) => e = (.exit 2) ∧ mo = m1 ∧ t1.get 13 = y13
def g39_b3 (M : Means) (ro : List ABlk) (s2 : List UInt8) (x3 : Int) (x19 : Int) (v13 : AVal) (x14 : Int) (m_2 : Mm) : Option ((AVal × Int × Mm) ⊕ ((AVal × Mm))) :=
  bindO (evP .e (.len true (.c (.s s2)))) fun v57 =>
  asI .i64 v57 fun x57 =>
  forceB (ltI x14 x57) fun c58 =>
  cond c58 (
    forceI (wr .i64 (x19 + x14)) fun x64 =>
    bindO (evP .e (.ixStr (.c (.s s2)) (.c (.i .i64 x14)))) fun v67 =>
    asI .u8 v67 fun x67 =>
    bindO ((fillA [(AVal.i IntKind.i64 0), (AVal.i IntKind.i64 0), (AVal.i IntKind.u8 0), (AVal.i IntKind.i64 0)] [((0, 1), (.i .i64 1)), ((1, 1), (.i .i64 x64)), ((2, 1), (.i .u8 x67)), ((3, 1), (.i .i64 x3))]).map AVal.agg) fun v69 =>
    bindP (stepM ro m_2 (.bsl 24 4 [(AVal.i IntKind.i64 0), (AVal.i IntKind.i64 0), (AVal.i IntKind.u8 0), (AVal.i IntKind.i64 0)] 1 [((0, 4), .c v69)])) fun v70 m_3 =>
    bindP (stepM ro m_3 (.app 24 4 32 [(AVal.i IntKind.i64 0), (AVal.i IntKind.i64 0), (AVal.i IntKind.u8 0), (AVal.i IntKind.i64 0)] (.c v13) (.c v70))) fun v71 m_4 =>
    forceI (wr .i64 (x14 + 1)) fun x60 =>
    some (.inl (v71, x60, m_4))) (
    some (.inr (v13, m_2)))
def g39 (M : Means) (ro : List ABlk) (v0 : AVal) (x1 : Int) (s2 : List UInt8) (x3 : Int) (m0 : Mm) : Option (AVal × Heap × Nat × Nat) :=
  bindP (callM M.call m0 37 [v0, (.i .i64 x1)]) fun v18 m_1 =>
  bindO (evP .e (.ext 0 (.c v18))) fun v19 =>
  asI .i64 v19 fun x19 =>
  bindO (evP .e (.ext 1 (.c v18))) fun v20 =>
  asI .i64 v20 fun x20 =>
  forceB (!eqI x20 0) fun c22 =>
  cond c22 (
    finM m0.h.length (tupA [AVal.nsl, (.i .i64 x20)]) m_1) (
    bindO (evP .e (.len true (.c (.s s2)))) fun v25 =>
    asI .i64 v25 fun x25 =>
    forceB (ltI 300 x25) fun c26 =>
    cond c26 (
      finM m0.h.length (tupA [AVal.nsl, (.i .i64 3)]) m_1) (
      bindO (M.loop (S := Int) (R := (Unit ⊕ (AVal × Int))) (fun s => g39_b0 M ro v0 s2 x3 x19 m_1 s) 0) fun o_1 => match o_1 with
      | (.inl _) =>
        forceB (ltI x3 0) fun c44 =>
        bindO (cond c44 (
          some true) (
          forceB (!ltI x3 5) fun c47 =>
          some c47)) fun c48 =>
        cond c48 (
          finM m0.h.length (tupA [AVal.nsl, (.i .i64 2)]) m_1) (
          bindO (evP .e (.len false (.c v0))) fun v50 =>
          asI .i64 v50 fun x50 =>
          bindO (evP .e (.len true (.c (.s s2)))) fun v52 =>
          asI .i64 v52 fun x52 =>
          forceI (wr .i64 (x50 + x52)) fun x53 =>
          forceB (ltI 300 x53) fun c54 =>
          cond c54 (
            finM m0.h.length (tupA [AVal.nsl, (.i .i64 8)]) m_1) (
            bindO (M.loop (S := AVal × Int × Mm) (R := (AVal × Mm)) (fun s => g39_b3 M ro s2 x3 x19 s.1 s.2.1 s.2.2) (AVal.nsl, 0, m_1)) fun ⟨v13_1, m_5⟩ =>
            finM m0.h.length (tupA [v13_1, (.i .i64 0)]) m_5))
      | (.inr (v8, x9)) =>
        finM m0.h.length (tupA [v8, (.i .i64 x9)]) m_1))

theorem g39_ok {ro : List ABlk} {O : Caller} {M : Means} (hM : M.Ok ⟨F, O⟩ ro) {v0 x1 s2 x3 h r} (ho : O 39 [v0, (.i .i64 x1), (.s s2), (.i .i64 x3)] h = none) (hr : g39 M ro v0 x1 s2 x3 ⟨h, h.length, h.length⟩ = some r) : callX ⟨F, O⟩ ro 39 [v0, (.i .i64 x1), (.s s2), (.i .i64 x3)] h = some r := by
  refine callX_of (F := ⟨F, O⟩) (fn := fn39) (g := g39 M ro v0 x1 s2 x3) ho rfl rfl hr ?_
  clear ho
  clear hr
  intro m0 t0 ht hr
  have g0 : t0.get 0 = v0 := ht 0
  have g1 : t0.get 1 = (.i .i64 x1) := ht 1
  have g2 : t0.get 2 = (.s s2) := ht 2
  have g3 : t0.get 3 = (.i .i64 x3) := ht 3
  clear ht
  unfold g39 at hr
  refine w_seq ?_
  refine w_ops ?_
  refine wo_step (v := AVal.nsl) (s_pure (p_mv rfl)) ?_
  refine wo_step (v := (.i .i64 0)) (s_pure (p_mv rfl)) ?_
  refine wo_nil ?_
  refine nx_norm ?_
  refine w_seq ?_
  refine w_ops ?_
  refine wo_step (v := v0) (s_pure (p_mv g0)) ?_
  refine wo_step (v := (.i .i64 x1)) (s_pure (p_mv g1)) ?_
  have hq := bindP_inv hr
  clear hr
  obtain ⟨v18, m_1, e18, hr⟩ := hq
  refine wo_step (v := v18) (s_call (mc rfl (mc rfl mn)) (callM_le hM.call e18)) ?_
  refine wo_step (v := v18) (s_pure (p_mv rfl)) ?_
  have hq := bindO_inv hr
  clear hr
  obtain ⟨v19, e19, hr⟩ := hq
  have hq := asI_inv hr
  clear hr
  obtain ⟨x19, rfl, hr⟩ := hq
  refine wo_step (v := (.i .i64 x19)) (s_pure (o_ext rfl e19)) ?_
  have hq := bindO_inv hr
  clear hr
  obtain ⟨v20, e20, hr⟩ := hq
  have hq := asI_inv hr
  clear hr
  obtain ⟨x20, rfl, hr⟩ := hq
  refine wo_step (v := (.i .i64 x20)) (s_pure (o_ext rfl e20)) ?_
  refine wo_step (v := (.i .i64 x19)) (s_pure (p_mv rfl)) ?_
  refine wo_step (v := (.i .i64 x20)) (s_pure (p_mv rfl)) ?_
  refine wo_nil ?_
  refine nx_norm ?_
  refine w_seq ?_
  refine w_seq ?_
  refine w_ops ?_
  refine wo_step (v := (.i .i64 x20)) (s_pure (p_mv rfl)) ?_
  have hq := forceB_inv hr
  clear hr
  obtain ⟨c22, e22, hr⟩ := hq
  refine wo_step (v := (.b c22)) (s_pure (p_bin rfl rfl (b_neq.trans (cb e22)))) ?_
  refine wo_nil ?_
  refine nx_norm ?_
  have hq := cond_inv hr
  clear hr
  rcases hq with ⟨rfl, hr⟩ | ⟨rfl, hr⟩
  · refine w_condT rfl ?_
    refine w_seq ?_
    refine w_ops ?_
    refine wo_step (v := (.i .i64 x20)) (s_pure (p_mv rfl)) ?_
    refine wo_step (v := AVal.nsl) (s_pure (p_mv rfl)) ?_
    refine wo_step (v := (.i .i64 x20)) (s_pure (p_mv rfl)) ?_
    refine wo_nil ?_
    refine nx_norm ?_
    refine w_ret ?_
    refine nx_ret ?_
    exact qf ret_ok (rt rfl (rt rfl rn)) hr
  · refine w_condF rfl ?_
    refine w_skip ?_
    refine nx_norm ?_
    refine w_seq ?_
    refine w_seq ?_
    refine w_ops ?_
    refine wo_step (v := (.s s2)) (s_pure (p_mv g2)) ?_
    have hq := bindO_inv hr
    clear hr
    obtain ⟨v25, e25, hr⟩ := hq
    have hq := asI_inv hr
    clear hr
    obtain ⟨x25, rfl, hr⟩ := hq
    refine wo_step (v := (.i .i64 x25)) (s_pure (o_len rfl e25)) ?_
    have hq := forceB_inv hr
    clear hr
    obtain ⟨c26, e26, hr⟩ := hq
    refine wo_step (v := (.b c26)) (s_pure (p_bin rfl rfl (b_gtr.trans (cb e26)))) ?_
    refine wo_nil ?_
    refine nx_norm ?_
    have hq := cond_inv hr
    clear hr
    rcases hq with ⟨rfl, hr⟩ | ⟨rfl, hr⟩
    · refine w_condT rfl ?_
      refine w_seq ?_
      refine w_ops ?_
      refine wo_step (v := AVal.nsl) (s_pure (p_mv rfl)) ?_
      refine wo_step (v := (.i .i64 3)) (s_pure (p_mv rfl)) ?_
      refine wo_nil ?_
      refine nx_norm ?_
      refine w_ret ?_
      refine nx_ret ?_
      exact qf ret_ok (rt rfl (rt rfl rn)) hr
    · refine w_condF rfl ?_
      refine w_skip ?_
      refine nx_norm ?_
      refine w_seq ?_
      refine w_seq ?_
      refine w_ops ?_
      refine wo_step (v := (.i .i64 0)) (s_pure (p_mv rfl)) ?_
      refine wo_nil ?_
      refine nx_norm ?_
      refine w_block ?_
      have hq := bindO_inv hr
      clear hr
      obtain ⟨o_1, hl_1, hr⟩ := hq
      obtain ⟨n_1, hl_1⟩ := hM.loop _ _ _ hl_1
      refine jp_mono (w_loop _ (g39_I0 v0 s2 x3 x19 m_1) (g39_J0 v0 s2 x3 x19 m_1) ?_ n_1 _ _ _ _ hl_1 ⟨rfl, gl rfl, gl g0, gl g2, gl g3, gl rfl⟩) ?_
      · clear hr hl_1
        intro s mm_6 t_1 o hi hr
        obtain ⟨x12, hs⟩ : ∃ z, z = s := ⟨_, rfl⟩
        subst hs
        obtain ⟨rfl, g12, g0, g2, g3, g10⟩ := hi
        unfold g39_b0 at hr
        refine w_seq ?_
        refine w_seq ?_
        refine w_ops ?_
        refine wo_step (v := (.i .i64 x12)) (s_pure (p_mv g12)) ?_
        refine wo_step (v := (.s s2)) (s_pure (p_mv g2)) ?_
        have hq := bindO_inv hr
        clear hr
        obtain ⟨v29, e29, hr⟩ := hq
        have hq := asI_inv hr
        clear hr
        obtain ⟨x29, rfl, hr⟩ := hq
        refine wo_step (v := (.i .i64 x29)) (s_pure (o_len rfl e29)) ?_
        have hq := forceB_inv hr
        clear hr
        obtain ⟨c30, e30, hr⟩ := hq
        refine wo_step (v := (.b c30)) (s_pure (p_bin rfl rfl (b_lss.trans (cb e30)))) ?_
        refine wo_nil ?_
        refine nx_norm ?_
        have hq := cond_inv hr
        clear hr
        rcases hq with ⟨rfl, hr⟩ | ⟨rfl, hr⟩
        · refine w_condT rfl ?_
          refine w_skip ?_
          refine nx_norm ?_
          refine w_seq ?_
          refine w_block ?_
          refine w_seq ?_
          refine w_ops ?_
          refine wo_step (v := (.s s2)) (s_pure (p_mv g2)) ?_
          refine wo_step (v := (.i .i64 x12)) (s_pure (p_mv g12)) ?_
          have hq := bindO_inv hr
          clear hr
          obtain ⟨v35, e35, hr⟩ := hq
          have hq := asI_inv hr
          clear hr
          obtain ⟨x35, rfl, hr⟩ := hq
          refine wo_step (v := (.i .u8 x35)) (s_pure (o_ixStr rfl rfl e35)) ?_
          have hq := forceB_inv hr
          clear hr
          obtain ⟨c36, e36, hr⟩ := hq
          refine wo_step (v := (.b c36)) (s_pure (p_bin rfl rfl (b_lss.trans (cb e36)))) ?_
          refine wo_step (v := (.b c36)) (s_pure (p_mv rfl)) ?_
          have hq := bindO_inv hr
          clear hr
          obtain ⟨o, hr, hk⟩ := hq
          refine wo_join 5 (g39_J1 v0 s2 x3 x19 x12 m_1 o) ?_ ?_
          · clear hk
            have hq := cond_inv hr
            clear hr
            rcases hq with ⟨rfl, hr⟩ | ⟨rfl, hr⟩
            · refine wo_skip (v := (.b true)) rfl rfl ?_
              refine wo_skip (v := (.b true)) rfl rfl ?_
              refine wo_skip (v := (.b true)) rfl rfl ?_
              refine wo_skip (v := (.b true)) rfl rfl ?_
              refine wo_step (v := (.b true)) (s_pure (p_pickT rfl rfl)) ?_
              refine wo_nil ?_
              cases hr
              exact ⟨_, _, rfl, rfl, gl rfl, gl g0, gl g2, gl g3, gl g10, gl g12⟩
            · refine wo_take (v := (.s s2)) rfl (s_pure (p_mv g2)) ?_
              refine wo_take (v := (.i .i64 x12)) rfl (s_pure (p_mv g12)) ?_
              have hq := bindO_inv hr
              clear hr
              obtain ⟨v40, e40, hr⟩ := hq
              have hq := asI_inv hr
              clear hr
              obtain ⟨x40, rfl, hr⟩ := hq
              refine wo_take (v := (.i .u8 x40)) rfl (s_pure (o_ixStr rfl rfl e40)) ?_
              have hq := forceB_inv hr
              clear hr
              obtain ⟨c41, e41, hr⟩ := hq
              refine wo_take (v := (.b c41)) rfl (s_pure (p_bin rfl rfl (b_gtr.trans (cb e41)))) ?_
              refine wo_step (v := (.b c41)) (s_pure (p_pickF rfl rfl)) ?_
              refine wo_nil ?_
              cases hr
              exact ⟨_, _, rfl, rfl, gl rfl, gl g0, gl g2, gl g3, gl g10, gl g12⟩
          · clear hr
            have hr := hk
            clear hk
            obtain ⟨c42, ho⟩ : ∃ z, z = o := ⟨_, rfl⟩
            subst ho
            rintro mm t_2 ⟨rfl, g42, g0, g2, g3, g10, g12⟩
            refine wo_nil ?_
            refine nx_norm ?_
            have hq := cond_inv hr
            clear hr
            rcases hq with ⟨rfl, hr⟩ | ⟨rfl, hr⟩
            · refine w_condT g42 ?_
              refine w_seq ?_
              refine w_ops ?_
              refine wo_step (v := AVal.nsl) (s_pure (p_mv rfl)) ?_
              refine wo_step (v := (.i .i64 5)) (s_pure (p_mv rfl)) ?_
              refine wo_nil ?_
              refine nx_norm ?_
              refine w_ret ?_
              refine bk_ret ?_
              refine nx_ret ?_
              cases hr
              exact ⟨_, _, rfl, ne_norm_ret, rfl, rfl, gl rfl, gl rfl⟩
            · refine w_condF g42 ?_
              refine w_skip ?_
              refine bk_norm ?_
              refine nx_norm ?_
              refine w_ops ?_
              refine wo_step (v := (.i .i64 x12)) (s_pure (p_mv g12)) ?_
              have hq := forceI_inv hr
              clear hr
              obtain ⟨x32, e32, hr⟩ := hq
              refine wo_step (v := (.i .i64 x32)) (s_pure (p_bin rfl rfl (b_add.trans (ci e32)))) ?_
              refine wo_step (v := (.i .i64 x32)) (s_pure (p_mv rfl)) ?_
              refine wo_nil ?_
              cases hr
              exact ⟨_, _, rfl, rfl, rfl, gl rfl, gl g0, gl g2, gl g3, gl g10⟩
        · refine w_condF rfl ?_
          refine w_exit ?_
          refine nx_exit ?_
          cases hr
          exact ⟨_, _, rfl, ne_norm_exit, rfl, rfl, gl g0, gl g2, gl g3, gl g10⟩
      · rcases o_1 with o_1 | o_1
        · rintro _ mm_4 t_3 ⟨rfl, rfl, g0, g2, g3, g10⟩
          refine bk_hit ?_
          refine nx_norm ?_
          refine w_seq ?_
          refine w_seq ?_
          refine w_ops ?_
          refine wo_step (v := (.i .i64 x3)) (s_pure (p_mv g3)) ?_
          have hq := forceB_inv hr
          clear hr
          obtain ⟨c44, e44, hr⟩ := hq
          refine wo_step (v := (.b c44)) (s_pure (p_bin rfl rfl (b_lss.trans (cb e44)))) ?_
          refine wo_step (v := (.b c44)) (s_pure (p_mv rfl)) ?_
          have hq := bindO_inv hr
          clear hr
          obtain ⟨o_2, hr, hk⟩ := hq
          refine wo_join 3 (g39_J2 v0 s2 x3 x19 m_1 o_2) ?_ ?_
          · clear hk
            have hq := cond_inv hr
            clear hr
            rcases hq with ⟨rfl, hr⟩ | ⟨rfl, hr⟩
            · refine wo_skip (v := (.b true)) rfl rfl ?_
              refine wo_skip (v := (.b true)) rfl rfl ?_
              refine wo_step (v := (.b true)) (s_pure (p_pickT rfl rfl)) ?_
              refine wo_nil ?_
              cases hr
              exact ⟨_, _, rfl, rfl, gl rfl, gl g0, gl g2, gl g3, gl g10⟩
            · refine wo_take (v := (.i .i64 x3)) rfl (s_pure (p_mv g3)) ?_
              have hq := forceB_inv hr
              clear hr
              obtain ⟨c47, e47, hr⟩ := hq
              refine wo_take (v := (.b c47)) rfl (s_pure (p_bin rfl rfl (b_geq.trans (cb e47)))) ?_
              refine wo_step (v := (.b c47)) (s_pure (p_pickF rfl rfl)) ?_
              refine wo_nil ?_
              cases hr
              exact ⟨_, _, rfl, rfl, gl rfl, gl g0, gl g2, gl g3, gl g10⟩
          · clear hr
            have hr := hk
            clear hk
            obtain ⟨c48, ho⟩ : ∃ z, z = o_2 := ⟨_, rfl⟩
            subst ho
            rintro mm_1 t_4 ⟨rfl, g48, g0, g2, g3, g10⟩
            refine wo_nil ?_
            refine nx_norm ?_
            have hq := cond_inv hr
            clear hr
            rcases hq with ⟨rfl, hr⟩ | ⟨rfl, hr⟩
            · refine w_condT g48 ?_
              refine w_seq ?_
              refine w_ops ?_
              refine wo_step (v := AVal.nsl) (s_pure (p_mv rfl)) ?_
              refine wo_step (v := (.i .i64 2)) (s_pure (p_mv rfl)) ?_
              refine wo_nil ?_
              refine nx_norm ?_
              refine w_ret ?_
              refine nx_ret ?_
              exact qf ret_ok (rt rfl (rt rfl rn)) hr
            · refine w_condF g48 ?_
              refine w_skip ?_
              refine nx_norm ?_
              refine w_seq ?_
              refine w_seq ?_
              refine w_ops ?_
              refine wo_step (v := v0) (s_pure (p_mv g0)) ?_
              have hq := bindO_inv hr
              clear hr
              obtain ⟨v50, e50, hr⟩ := hq
              have hq := asI_inv hr
              clear hr
              obtain ⟨x50, rfl, hr⟩ := hq
              refine wo_step (v := (.i .i64 x50)) (s_pure (o_len rfl e50)) ?_
              refine wo_step (v := (.s s2)) (s_pure (p_mv g2)) ?_
              have hq := bindO_inv hr
              clear hr
              obtain ⟨v52, e52, hr⟩ := hq
              have hq := asI_inv hr
              clear hr
              obtain ⟨x52, rfl, hr⟩ := hq
              refine wo_step (v := (.i .i64 x52)) (s_pure (o_len rfl e52)) ?_
              have hq := forceI_inv hr
              clear hr
              obtain ⟨x53, e53, hr⟩ := hq
              refine wo_step (v := (.i .i64 x53)) (s_pure (p_bin rfl rfl (b_add.trans (ci e53)))) ?_
              have hq := forceB_inv hr
              clear hr
              obtain ⟨c54, e54, hr⟩ := hq
              refine wo_step (v := (.b c54)) (s_pure (p_bin rfl rfl (b_gtr.trans (cb e54)))) ?_
              refine wo_nil ?_
              refine nx_norm ?_
              have hq := cond_inv hr
              clear hr
              rcases hq with ⟨rfl, hr⟩ | ⟨rfl, hr⟩
              · refine w_condT rfl ?_
                refine w_seq ?_
                refine w_ops ?_
                refine wo_step (v := AVal.nsl) (s_pure (p_mv rfl)) ?_
                refine wo_step (v := (.i .i64 8)) (s_pure (p_mv rfl)) ?_
                refine wo_nil ?_
                refine nx_norm ?_
                refine w_ret ?_
                refine nx_ret ?_
                exact qf ret_ok (rt rfl (rt rfl rn)) hr
              · refine w_condF rfl ?_
                refine w_skip ?_
                refine nx_norm ?_
                refine w_seq ?_
                refine w_ops ?_
                refine wo_step (v := AVal.nsl) (s_pure (p_mv rfl)) ?_
                refine wo_nil ?_
                refine nx_norm ?_
                refine w_seq ?_
                refine w_seq ?_
                refine w_ops ?_
                refine wo_step (v := (.i .i64 0)) (s_pure (p_mv rfl)) ?_
                refine wo_nil ?_
                refine nx_norm ?_
                refine w_block ?_
                have hq := bindO_inv hr
                clear hr
                obtain ⟨o_3, hl, hr⟩ := hq
                obtain ⟨n, hl⟩ := hM.loop _ _ _ hl
                refine jp_mono (w_loop _ (g39_I3 s2 x3 x19) (g39_J3 s2 x3 x19) ?_ n _ _ _ _ hl ⟨rfl, gl rfl, gl rfl, gl g2, gl g3, gl g10⟩) ?_
                · clear hr hl
                  intro s mm_3 t_5 o hi hr
                  obtain ⟨v13, x14, m_2⟩ := s
                  obtain ⟨rfl, g13, g14, g2, g3, g10⟩ := hi
                  unfold g39_b3 at hr
                  refine w_seq ?_
                  refine w_seq ?_
                  refine w_ops ?_
                  refine wo_step (v := (.i .i64 x14)) (s_pure (p_mv g14)) ?_
                  refine wo_step (v := (.s s2)) (s_pure (p_mv g2)) ?_
                  have hq := bindO_inv hr
                  clear hr
                  obtain ⟨v57, e57, hr⟩ := hq
                  have hq := asI_inv hr
                  clear hr
                  obtain ⟨x57, rfl, hr⟩ := hq
                  refine wo_step (v := (.i .i64 x57)) (s_pure (o_len rfl e57)) ?_
                  have hq := forceB_inv hr
                  clear hr
                  obtain ⟨c58, e58, hr⟩ := hq
                  refine wo_step (v := (.b c58)) (s_pure (p_bin rfl rfl (b_lss.trans (cb e58)))) ?_
                  refine wo_nil ?_
                  refine nx_norm ?_
                  have hq := cond_inv hr
                  clear hr
                  rcases hq with ⟨rfl, hr⟩ | ⟨rfl, hr⟩
                  · refine w_condT rfl ?_
                    refine w_skip ?_
                    refine nx_norm ?_
                    refine w_seq ?_
                    refine w_block ?_
                    refine w_ops ?_
                    refine wo_step (v := v13) (s_pure (p_mv g13)) ?_
                    refine wo_step (v := (.i .i64 x19)) (s_pure (p_mv g10)) ?_
                    refine wo_step (v := (.i .i64 x14)) (s_pure (p_mv g14)) ?_
                    have hq := forceI_inv hr
                    clear hr
                    obtain ⟨x64, e64, hr⟩ := hq
                    refine wo_step (v := (.i .i64 x64)) (s_pure (p_bin rfl rfl (b_add.trans (ci e64)))) ?_
                    refine wo_step (v := (.s s2)) (s_pure (p_mv g2)) ?_
                    refine wo_step (v := (.i .i64 x14)) (s_pure (p_mv g14)) ?_
                    have hq := bindO_inv hr
                    clear hr
                    obtain ⟨v67, e67, hr⟩ := hq
                    have hq := asI_inv hr
                    clear hr
                    obtain ⟨x67, rfl, hr⟩ := hq
                    refine wo_step (v := (.i .u8 x67)) (s_pure (o_ixStr rfl rfl e67)) ?_
                    refine wo_step (v := (.i .i64 x3)) (s_pure (p_mv g3)) ?_
                    have hq := bindO_inv hr
                    clear hr
                    obtain ⟨v69, e69, hr⟩ := hq
                    refine wo_step (v := v69) (s_pure (o_build (qc rfl (qc rfl (qc rfl (qc rfl qn)))) e69)) ?_
                    have hq := bindP_inv hr
                    clear hr
                    obtain ⟨v70, m_3, e70, hr⟩ := hq
                    refine wo_step (v := v70) (s_bsl (qc rfl qn) e70) ?_
                    have hq := bindP_inv hr
                    clear hr
                    obtain ⟨v71, m_4, e71, hr⟩ := hq
                    refine wo_step (v := v71) (s_app rfl rfl e71) ?_
                    refine wo_step (v := v71) (s_pure (p_mv rfl)) ?_
                    refine wo_nil ?_
                    refine bk_norm ?_
                    refine nx_norm ?_
                    refine w_ops ?_
                    refine wo_step (v := (.i .i64 x14)) (s_pure (p_mv g14)) ?_
                    have hq := forceI_inv hr
                    clear hr
                    obtain ⟨x60, e60, hr⟩ := hq
                    refine wo_step (v := (.i .i64 x60)) (s_pure (p_bin rfl rfl (b_add.trans (ci e60)))) ?_
                    refine wo_step (v := (.i .i64 x60)) (s_pure (p_mv rfl)) ?_
                    refine wo_nil ?_
                    cases hr
                    exact ⟨_, _, rfl, rfl, rfl, gl rfl, gl rfl, gl g2, gl g3, gl g10⟩
                  · refine w_condF rfl ?_
                    refine w_exit ?_
                    refine nx_exit ?_
                    cases hr
                    exact ⟨_, _, rfl, ne_norm_exit, rfl, rfl, gl g13⟩
                · obtain ⟨v13_1, m_5⟩ := o_3
                  rintro _ mm_2 t_6 ⟨rfl, rfl, g13⟩
                  refine bk_hit ?_
                  refine nx_norm ?_
                  refine w_seq ?_
                  refine w_ops ?_
                  refine wo_step (v := v13_1) (s_pure (p_mv g13)) ?_
                  refine wo_step (v := v13_1) (s_pure (p_mv rfl)) ?_
                  refine wo_step (v := (.i .i64 0)) (s_pure (p_mv rfl)) ?_
                  refine wo_nil ?_
                  refine nx_norm ?_
                  refine w_ret ?_
                  exact qf ret_ok (rt rfl (rt rfl rn)) hr
        · obtain ⟨v8, x9⟩ := o_1
          rintro _ mm_5 t_7 ⟨rfl, rfl, g8, g9⟩
          refine bk_ret ?_
          refine nx_ret ?_
          exact qf ret_ok (rt g8 (rt g9 rn)) hr

/- dibber/dibberref07.Sheet -/
abbrev g58_I0 (v0 : AVal) (m0 : Mm) (s : Int) (m1 : Mm) (t1 : Tr) : Prop :=
  match s with
  | x3 => m0 = m1 ∧ t1.get 3 = (.i .i64 x3) ∧ t1.get 0 = v0
abbrev g58_J0 (v0 : AVal) (m0 : Mm) (o : (Unit ⊕ Int)) (e : AExit) (m1 : Mm) (t1 : Tr) : Prop :=
  match o with
  | (.inl _) => e = (.exit 0) ∧ m0 = m1
  | (.inr y2) => e = .ret ∧ m0 = m1 ∧ t1.get 2 = (.i .i64 y2)
abbrev g58_J1 (v0 : AVal) (x3 : Int) (m0 : Mm) (o : Bool) (m1 : Mm) (t1 : Tr) : Prop :=
  match o with
  | c26 => m0 = m1 ∧ t1.get 26 = (.b c26) ∧ t1.get 0 = v0 ∧ t1.get 3 = (.i .i64 x3)
def g58_b0 (M : Means) (ro : List ABlk) (v0 : AVal) (m0 : Mm) (x3 : Int) : Option ((Int) ⊕ ((Unit ⊕ Int))) :=
  bindO (evP .e (.len false (.c v0))) fun v9 =>
  asI .i64 v9 fun x9 =>
  forceB (ltI x3 x9) fun c10 =>
  cond c10 (
    bindO (evP .e (.ixS 2 (.c v0) (.c (.i .i64 x3)))) fun v15 =>
    bindO (evP .e (.faddr 0 (.c v15))) fun v16 =>
    bindO (ldM ro m0 true 1 v16) fun v17 =>
    asI .u8 v17 fun x17 =>
    forceB (ltI x17 97) fun c18 =>
    bindO (cond c18 (
      some true) (
      bindO (evP .e (.ixS 2 (.c v0) (.c (.i .i64 x3)))) fun v22 =>
      bindO (evP .e (.faddr 0 (.c v22))) fun v23 =>
      bindO (ldM ro m0 true 1 v23) fun v24 =>
      asI .u8 v24 fun x24 =>
      forceB (ltI 122 x24) fun c25 =>
      some c25)) fun c26 =>
    cond c26 (
      some (.inr (.inr 2))) (
      forceI (wr .i64 (x3 + 1)) fun x12 =>
      some (.inl x12))) (
    some (.inr (.inl ())))
def g58 (M : Means) (ro : List ABlk) (v0 : AVal) (m0 : Mm) : Option (AVal × Heap × Nat × Nat) :=
  bindO (evP .e (.len false (.c v0))) fun v5 =>
  asI .i64 v5 fun x5 =>
  forceB (ltI 300 x5) fun c6 =>
  cond c6 (
    finM m0.h.length (tupA [(.i .i64 3)]) m0) (
    bindO (M.loop (S := Int) (R := (Unit ⊕ Int)) (fun s => g58_b0 M ro v0 m0 s) 0) fun o_1 => match o_1 with
    | (.inl _) =>
      finM m0.h.length (tupA [(.i .i64 0)]) m0
    | (.inr x2) =>
      finM m0.h.length (tupA [(.i .i64 x2)]) m0)

theorem g58_ok {ro : List ABlk} {O : Caller} {M : Means} (hM : M.Ok ⟨F, O⟩ ro) {v0 h r} (ho : O 58 [v0] h = none) (hr : g58 M ro v0 ⟨h, h.length, h.length⟩ = some r) : callX ⟨F, O⟩ ro 58 [v0] h = some r := by
  refine callX_of (F := ⟨F, O⟩) (fn := fn58) (g := g58 M ro v0) ho rfl rfl hr ?_
  clear ho
  clear hr
  intro m0 t0 ht hr
  have g0 : t0.get 0 = v0 := ht 0
  clear ht
  unfold g58 at hr
  refine w_seq ?_
  refine w_ops ?_
  refine wo_step (v := (.i .i64 0)) (s_pure (p_mv rfl)) ?_
  refine wo_nil ?_
  refine nx_norm ?_
  refine w_seq ?_
  refine w_seq ?_
  refine w_ops ?_
  refine wo_step (v := v0) (s_pure (p_mv g0)) ?_
  have hq := bindO_inv hr
  clear hr
  obtain ⟨v5, e5, hr⟩ := hq
  have hq := asI_inv hr
  clear hr
  obtain ⟨x5, rfl, hr⟩ := hq
  refine wo_step (v := (.i .i64 x5)) (s_pure (o_len rfl e5)) ?_
  have hq := forceB_inv hr
  clear hr
  obtain ⟨c6, e6, hr⟩ := hq
  refine wo_step (v := (.b c6)) (s_pure (p_bin rfl rfl (b_gtr.trans (cb e6)))) ?_
  refine wo_nil ?_
  refine nx_norm ?_
  have hq := cond_inv hr
  clear hr
  rcases hq with ⟨rfl, hr⟩ | ⟨rfl, hr⟩
  · refine w_condT rfl ?_
    refine w_seq ?_
    refine w_ops ?_
    refine wo_step (v := (.i .i64 3)) (s_pure (p_mv rfl)) ?_
    refine wo_nil ?_
    refine nx_norm ?_
    refine w_ret ?_
    refine nx_ret ?_
    exact qf ret_ok (rt rfl rn) hr
  · refine w_condF rfl ?_
    refine w_skip ?_
    refine nx_norm ?_
    refine w_seq ?_
    refine w_seq ?_
    refine w_ops ?_
    refine wo_step (v := (.i .i64 0)) (s_pure (p_mv rfl)) ?_
    refine wo_nil ?_
    refine nx_norm ?_
    refine w_block ?_
    have hq := bindO_inv hr
    clear hr
    obtain ⟨o_1, hl, hr⟩ := hq
    obtain ⟨n, hl⟩ := hM.loop _ _ _ hl
    refine jp_mono (w_loop _ (g58_I0 v0 m0) (g58_J0 v0 m0) ?_ n _ _ _ _ hl ⟨rfl, gl rfl, gl g0⟩) ?_
    · clear hr hl
      intro s mm_3 t_1 o hi hr
      obtain ⟨x3, hs⟩ : ∃ z, z = s := ⟨_, rfl⟩
      subst hs
      obtain ⟨rfl, g3, g0⟩ := hi
      unfold g58_b0 at hr
      refine w_seq ?_
      refine w_seq ?_
      refine w_ops ?_
      refine wo_step (v := (.i .i64 x3)) (s_pure (p_mv g3)) ?_
      refine wo_step (v := v0) (s_pure (p_mv g0)) ?_
      have hq := bindO_inv hr
      clear hr
      obtain ⟨v9, e9, hr⟩ := hq
      have hq := asI_inv hr
      clear hr
      obtain ⟨x9, rfl, hr⟩ := hq
      refine wo_step (v := (.i .i64 x9)) (s_pure (o_len rfl e9)) ?_
      have hq := forceB_inv hr
      clear hr
      obtain ⟨c10, e10, hr⟩ := hq
      refine wo_step (v := (.b c10)) (s_pure (p_bin rfl rfl (b_lss.trans (cb e10)))) ?_
      refine wo_nil ?_
      refine nx_norm ?_
      have hq := cond_inv hr
      clear hr
      rcases hq with ⟨rfl, hr⟩ | ⟨rfl, hr⟩
      · refine w_condT rfl ?_
        refine w_skip ?_
        refine nx_norm ?_
        refine w_seq ?_
        refine w_block ?_
        refine w_seq ?_
        refine w_ops ?_
        refine wo_step (v := v0) (s_pure (p_mv g0)) ?_
        refine wo_step (v := (.i .i64 x3)) (s_pure (p_mv g3)) ?_
        have hq := bindO_inv hr
        clear hr
        obtain ⟨v15, e15, hr⟩ := hq
        refine wo_step (v := v15) (s_pure (o_ixS rfl rfl e15)) ?_
        have hq := bindO_inv hr
        clear hr
        obtain ⟨v16, e16, hr⟩ := hq
        refine wo_step (v := v16) (s_pure (o_faddr rfl e16)) ?_
        have hq := bindO_inv hr
        clear hr
        obtain ⟨v17, e17, hr⟩ := hq
        have hq := asI_inv hr
        clear hr
        obtain ⟨x17, rfl, hr⟩ := hq
        refine wo_step (v := (.i .u8 x17)) (s_ld rfl e17) ?_
        have hq := forceB_inv hr
        clear hr
        obtain ⟨c18, e18, hr⟩ := hq
        refine wo_step (v := (.b c18)) (s_pure (p_bin rfl rfl (b_lss.trans (cb e18)))) ?_
        refine wo_step (v := (.b c18)) (s_pure (p_mv rfl)) ?_
        have hq := bindO_inv hr
        clear hr
        obtain ⟨o, hr, hk⟩ := hq
        refine wo_join 7 (g58_J1 v0 x3 m0 o) ?_ ?_
        · clear hk
          have hq := cond_inv hr
          clear hr
          rcases hq with ⟨rfl, hr⟩ | ⟨rfl, hr⟩
          · refine wo_skip (v := (.b true)) rfl rfl ?_
            refine wo_skip (v := (.b true)) rfl rfl ?_
            refine wo_skip (v := (.b true)) rfl rfl ?_
            refine wo_skip (v := (.b true)) rfl rfl ?_
            refine wo_skip (v := (.b true)) rfl rfl ?_
            refine wo_skip (v := (.b true)) rfl rfl ?_
            refine wo_step (v := (.b true)) (s_pure (p_pickT rfl rfl)) ?_
            refine wo_nil ?_
            cases hr
            exact ⟨_, _, rfl, rfl, gl rfl, gl g0, gl g3⟩
          · refine wo_take (v := v0) rfl (s_pure (p_mv g0)) ?_
            refine wo_take (v := (.i .i64 x3)) rfl (s_pure (p_mv g3)) ?_
            have hq := bindO_inv hr
            clear hr
            obtain ⟨v22, e22, hr⟩ := hq
            refine wo_take (v := v22) rfl (s_pure (o_ixS rfl rfl e22)) ?_
            have hq := bindO_inv hr
            clear hr
            obtain ⟨v23, e23, hr⟩ := hq
            refine wo_take (v := v23) rfl (s_pure (o_faddr rfl e23)) ?_
            have hq := bindO_inv hr
            clear hr
            obtain ⟨v24, e24, hr⟩ := hq
            have hq := asI_inv hr
            clear hr
            obtain ⟨x24, rfl, hr⟩ := hq
            refine wo_take (v := (.i .u8 x24)) rfl (s_ld rfl e24) ?_
            have hq := forceB_inv hr
            clear hr
            obtain ⟨c25, e25, hr⟩ := hq
            refine wo_take (v := (.b c25)) rfl (s_pure (p_bin rfl rfl (b_gtr.trans (cb e25)))) ?_
            refine wo_step (v := (.b c25)) (s_pure (p_pickF rfl rfl)) ?_
            refine wo_nil ?_
            cases hr
            exact ⟨_, _, rfl, rfl, gl rfl, gl g0, gl g3⟩
        · clear hr
          have hr := hk
          clear hk
          obtain ⟨c26, ho⟩ : ∃ z, z = o := ⟨_, rfl⟩
          subst ho
          rintro mm t_2 ⟨rfl, g26, g0, g3⟩
          refine wo_nil ?_
          refine nx_norm ?_
          have hq := cond_inv hr
          clear hr
          rcases hq with ⟨rfl, hr⟩ | ⟨rfl, hr⟩
          · refine w_condT g26 ?_
            refine w_seq ?_
            refine w_ops ?_
            refine wo_step (v := (.i .i64 2)) (s_pure (p_mv rfl)) ?_
            refine wo_nil ?_
            refine nx_norm ?_
            refine w_ret ?_
            refine bk_ret ?_
            refine nx_ret ?_
            cases hr
            exact ⟨_, _, rfl, ne_norm_ret, rfl, rfl, gl rfl⟩
          · refine w_condF g26 ?_
            refine w_skip ?_
            refine bk_norm ?_
            refine nx_norm ?_
            refine w_ops ?_
            refine wo_step (v := (.i .i64 x3)) (s_pure (p_mv g3)) ?_
            have hq := forceI_inv hr
            clear hr
            obtain ⟨x12, e12, hr⟩ := hq
            refine wo_step (v := (.i .i64 x12)) (s_pure (p_bin rfl rfl (b_add.trans (ci e12)))) ?_
            refine wo_step (v := (.i .i64 x12)) (s_pure (p_mv rfl)) ?_
            refine wo_nil ?_
            cases hr
            exact ⟨_, _, rfl, rfl, rfl, gl rfl, gl g0⟩
      · refine w_condF rfl ?_
        refine w_exit ?_
        refine nx_exit ?_
        cases hr
        exact ⟨_, _, rfl, ne_norm_exit, rfl, rfl⟩
    · rcases o_1 with o_1 | o_1
      · rintro _ mm_1 t_3 ⟨rfl, rfl⟩
        refine bk_hit ?_
        refine nx_norm ?_
        refine w_seq ?_
        refine w_ops ?_
        refine wo_step (v := (.i .i64 0)) (s_pure (p_mv rfl)) ?_
        refine wo_nil ?_
        refine nx_norm ?_
        refine w_ret ?_
        exact qf ret_ok (rt rfl rn) hr
      · obtain ⟨x2, ho⟩ : ∃ z, z = o_1 := ⟨_, rfl⟩
        subst ho
        rintro _ mm_2 t_4 ⟨rfl, rfl, g2⟩
        refine bk_ret ?_
        refine nx_ret ?_
        exact qf ret_ok (rt g2 rn) hr

/- dibber/dibberref07.Fits -/
abbrev g59_J0 (v2 : AVal) (m_1 : Mm) (o : Bool) (m1 : Mm) (t1 : Tr) : Prop :=
  match o with
  | c22 => m_1 = m1 ∧ t1.get 22 = (.b c22) ∧ t1.get 2 = v2
abbrev g59_J1 (v2 : AVal) (m_1 : Mm) (o : Bool) (m1 : Mm) (t1 : Tr) : Prop :=
  match o with
  | c27 => m_1 = m1 ∧ t1.get 27 = (.b c27) ∧ t1.get 2 = v2
abbrev g59_J2 (v2 : AVal) (m_1 : Mm) (o : Bool) (m1 : Mm) (t1 : Tr) : Prop :=
  match o with
  | c32 => m_1 = m1 ∧ t1.get 32 = (.b c32) ∧ t1.get 2 = v2
abbrev g59_J3 (v2 : AVal) (m_1 : Mm) (o : Bool) (m1 : Mm) (t1 : Tr) : Prop :=
  match o with
  | c37 => m_1 = m1 ∧ t1.get 37 = (.b c37) ∧ t1.get 2 = v2
abbrev g59_J4 (m_1 : Mm) (o : Bool) (m1 : Mm) (t1 : Tr) : Prop :=
  match o with
  | c42 => m_1 = m1 ∧ t1.get 42 = (.b c42)
abbrev g59_J5 (v2 : AVal) (m_1 : Mm) (o : Bool) (m1 : Mm) (t1 : Tr) : Prop :=
  match o with
  | c53 => m_1 = m1 ∧ t1.get 53 = (.b c53) ∧ t1.get 2 = v2
abbrev g59_J6 (v2 : AVal) (m_1 : Mm) (o : Bool) (m1 : Mm) (t1 : Tr) : Prop :=
  match o with
  | c58 => m_1 = m1 ∧ t1.get 58 = (.b c58) ∧ t1.get 2 = v2
abbrev g59_J7 (m_1 : Mm) (o : Bool) (m1 : Mm) (t1 : Tr) : Prop :=
  match o with
  | c63 => m_1 = m1 ∧ t1.get 63 = (.b c63)
def g59 (M : Means) (ro : List ABlk) (v0 : AVal) (x1 : Int) (m0 : Mm) : Option (AVal × Heap × Nat × Nat) :=
  bindP (stepM ro m0 (.bx 24 4 (.c v0))) fun v2 m_1 =>
  bindO (evP .e (.faddr 0 (.c v2))) fun v5 =>
  bindO (ldM ro m_1 true 1 v5) fun v6 =>
  asI .i64 v6 fun x6 =>
  forceB (eqI x6 0) fun c8 =>
  cond c8 (
    bindO (ldM ro m_1 false 4 v2) fun v9 =>
    bindO ((fillA [(AVal.i IntKind.i64 0), (AVal.i IntKind.i64 0), (AVal.i IntKind.u8 0), (AVal.i IntKind.i64 0)] []).map AVal.agg) fun v10 =>
    bindO (evP .e (.seq false [(0, false), (1, false), (2, false), (3, false)] (.c v9) (.c v10))) fun v11 =>
    asB v11 fun c11 =>
    finM m0.h.length (tupA [(.b c11)]) m_1) (
    forceB (eqI x6 1) fun c13 =>
    cond c13 (
      bindO (evP .e (.faddr 1 (.c v2))) fun v14 =>
      bindO (ldM ro m_1 true 1 v14) fun v15 =>
      asI .i64 v15 fun x15 =>
      forceB (!ltI x15 0) fun c16 =>
      bindO (cond c16 (
        bindO (evP .e (.faddr 1 (.c v2))) fun v18 =>
        bindO (ldM ro m_1 true 1 v18) fun v19 =>
        asI .i64 v19 fun x19 =>
        forceB (!ltI x1 x19) fun c21 =>
        some c21) (
        some false)) fun c22 =>
      bindO (cond c22 (
        bindO (evP .e (.faddr 2 (.c v2))) fun v24 =>
        bindO (ldM ro m_1 true 1 v24) fun v25 =>
        asI .u8 v25 fun x25 =>
        forceB (!ltI x25 97) fun c26 =>
        some c26) (
        some false)) fun c27 =>
      bindO (cond c27 (
        bindO (evP .e (.faddr 2 (.c v2))) fun v29 =>
        bindO (ldM ro m_1 true 1 v29) fun v30 =>
        asI .u8 v30 fun x30 =>
        forceB (!ltI 122 x30) fun c31 =>
        some c31) (
        some false)) fun c32 =>
      bindO (cond c32 (
        bindO (evP .e (.faddr 3 (.c v2))) fun v34 =>
        bindO (ldM ro m_1 true 1 v34) fun v35 =>
        asI .i64 v35 fun x35 =>
        forceB (!ltI x35 0) fun c36 =>
        some c36) (
        some false)) fun c37 =>
      bindO (cond c37 (
        bindO (evP .e (.faddr 3 (.c v2))) fun v39 =>
        bindO (ldM ro m_1 true 1 v39) fun v40 =>
        asI .i64 v40 fun x40 =>
        forceB (ltI x40 5) fun c41 =>
        some c41) (
        some false)) fun c42 =>
      finM m0.h.length (tupA [(.b c42)]) m_1) (
      forceB (eqI x6 2) fun c44 =>
      cond c44 (
        bindO (evP .e (.faddr 1 (.c v2))) fun v45 =>
        bindO (ldM ro m_1 true 1 v45) fun v46 =>
        asI .i64 v46 fun x46 =>
        forceB (!ltI x46 0) fun c47 =>
        bindO (cond c47 (
          bindO (evP .e (.faddr 1 (.c v2))) fun v49 =>
          bindO (ldM ro m_1 true 1 v49) fun v50 =>
          asI .i64 v50 fun x50 =>
          forceB (ltI x50 x1) fun c52 =>
          some c52) (
          some false)) fun c53 =>
        bindO (cond c53 (
          bindO (evP .e (.faddr 2 (.c v2))) fun v55 =>
          bindO (ldM ro m_1 true 1 v55) fun v56 =>
          asI .u8 v56 fun x56 =>
          forceB (eqI x56 0) fun c57 =>
          some c57) (
          some false)) fun c58 =>
        bindO (cond c58 (
          bindO (evP .e (.faddr 3 (.c v2))) fun v60 =>
          bindO (ldM ro m_1 true 1 v60) fun v61 =>
          asI .i64 v61 fun x61 =>
          forceB (eqI x61 0) fun c62 =>
          some c62) (
          some false)) fun c63 =>
        finM m0.h.length (tupA [(.b c63)]) m_1) (
        finM m0.h.length (tupA [(.b false)]) m_1)))

theorem g59_ok {ro : List ABlk} {O : Caller} {M : Means} (hM : M.Ok ⟨F, O⟩ ro) {v0 x1 h r} (ho : O 59 [v0, (.i .i64 x1)] h = none) (hr : g59 M ro v0 x1 ⟨h, h.length, h.length⟩ = some r) : callX ⟨F, O⟩ ro 59 [v0, (.i .i64 x1)] h = some r := by
  refine callX_of (F := ⟨F, O⟩) (fn := fn59) (g := g59 M ro v0 x1) ho rfl rfl hr ?_
  clear ho
  clear hr
  intro m0 t0 ht hr
  have g0 : t0.get 0 = v0 := ht 0
  have g1 : t0.get 1 = (.i .i64 x1) := ht 1
  clear ht
  unfold g59 at hr
  refine w_seq ?_
  refine w_ops ?_
  have hq := bindP_inv hr
  clear hr
  obtain ⟨v2, m_1, e2, hr⟩ := hq
  refine wo_step (v := v2) (s_bx g0 e2) ?_
  refine wo_step (v := (.b false)) (s_pure (p_mv rfl)) ?_
  refine wo_nil ?_
  refine nx_norm ?_
  refine w_seq ?_
  refine w_seq ?_
  refine w_ops ?_
  have hq := bindO_inv hr
  clear hr
  obtain ⟨v5, e5, hr⟩ := hq
  refine wo_step (v := v5) (s_pure (o_faddr rfl e5)) ?_
  have hq := bindO_inv hr
  clear hr
  obtain ⟨v6, e6, hr⟩ := hq
  have hq := asI_inv hr
  clear hr
  obtain ⟨x6, rfl, hr⟩ := hq
  refine wo_step (v := (.i .i64 x6)) (s_ld rfl e6) ?_
  refine wo_nil ?_
  refine nx_norm ?_
  refine w_block ?_
  refine w_seq ?_
  refine w_ops ?_
  have hq := forceB_inv hr
  clear hr
  obtain ⟨c8, e8, hr⟩ := hq
  refine wo_step (v := (.b c8)) (s_pure (p_bin rfl rfl (b_eql.trans (cb e8)))) ?_
  refine wo_step (v := (.b c8)) (s_pure (p_mv rfl)) ?_
  refine wo_nil ?_
  refine nx_norm ?_
  have hq := cond_inv hr
  clear hr
  rcases hq with ⟨rfl, hr⟩ | ⟨rfl, hr⟩
  · refine w_condT rfl ?_
    refine w_seq ?_
    refine w_ops ?_
    have hq := bindO_inv hr
    clear hr
    obtain ⟨v9, e9, hr⟩ := hq
    refine wo_step (v := v9) (s_ld rfl e9) ?_
    have hq := bindO_inv hr
    clear hr
    obtain ⟨v10, e10, hr⟩ := hq
    refine wo_step (v := v10) (s_pure (o_build qn e10)) ?_
    have hq := bindO_inv hr
    clear hr
    obtain ⟨v11, e11, hr⟩ := hq
    have hq := asB_inv hr
    clear hr
    obtain ⟨c11, rfl, hr⟩ := hq
    refine wo_step (v := (.b c11)) (s_pure (o_seq rfl rfl e11)) ?_
    refine wo_step (v := (.b c11)) (s_pure (p_mv rfl)) ?_
    refine wo_nil ?_
    refine nx_norm ?_
    refine w_ret ?_
    refine bk_ret ?_
    refine nx_ret ?_
    exact qf ret_ok (rt rfl rn) hr
  · refine w_condF rfl ?_
    refine w_seq ?_
    refine w_ops ?_
    have hq := forceB_inv hr
    clear hr
    obtain ⟨c13, e13, hr⟩ := hq
    refine wo_step (v := (.b c13)) (s_pure (p_bin rfl rfl (b_eql.trans (cb e13)))) ?_
    refine wo_step (v := (.b c13)) (s_pure (p_mv rfl)) ?_
    refine wo_nil ?_
    refine nx_norm ?_
    have hq := cond_inv hr
    clear hr
    rcases hq with ⟨rfl, hr⟩ | ⟨rfl, hr⟩
    · refine w_condT rfl ?_
      refine w_seq ?_
      refine w_ops ?_
      have hq := bindO_inv hr
      clear hr
      obtain ⟨v14, e14, hr⟩ := hq
      refine wo_step (v := v14) (s_pure (o_faddr rfl e14)) ?_
      have hq := bindO_inv hr
      clear hr
      obtain ⟨v15, e15, hr⟩ := hq
      have hq := asI_inv hr
      clear hr
      obtain ⟨x15, rfl, hr⟩ := hq
      refine wo_step (v := (.i .i64 x15)) (s_ld rfl e15) ?_
      have hq := forceB_inv hr
      clear hr
      obtain ⟨c16, e16, hr⟩ := hq
      refine wo_step (v := (.b c16)) (s_pure (p_bin rfl rfl (b_geq.trans (cb e16)))) ?_
      refine wo_step (v := (.b c16)) (s_pure (p_mv rfl)) ?_
      have hq := bindO_inv hr
      clear hr
      obtain ⟨o, hr, hk⟩ := hq
      refine wo_join 5 (g59_J0 v2 m_1 o) ?_ ?_
      · clear hk
        have hq := cond_inv hr
        clear hr
        rcases hq with ⟨rfl, hr⟩ | ⟨rfl, hr⟩
        · have hq := bindO_inv hr
          clear hr
          obtain ⟨v18, e18, hr⟩ := hq
          refine wo_take (v := v18) rfl (s_pure (o_faddr rfl e18)) ?_
          have hq := bindO_inv hr
          clear hr
          obtain ⟨v19, e19, hr⟩ := hq
          have hq := asI_inv hr
          clear hr
          obtain ⟨x19, rfl, hr⟩ := hq
          refine wo_take (v := (.i .i64 x19)) rfl (s_ld rfl e19) ?_
          refine wo_take (v := (.i .i64 x1)) rfl (s_pure (p_mv g1)) ?_
          have hq := forceB_inv hr
          clear hr
          obtain ⟨c21, e21, hr⟩ := hq
          refine wo_take (v := (.b c21)) rfl (s_pure (p_bin rfl rfl (b_leq.trans (cb e21)))) ?_
          refine wo_step (v := (.b c21)) (s_pure (p_pickT rfl rfl)) ?_
          refine wo_nil ?_
          cases hr
          exact ⟨_, _, rfl, rfl, gl rfl, gl rfl⟩
        · refine wo_skip (v := (.b false)) rfl rfl ?_
          refine wo_skip (v := (.b false)) rfl rfl ?_
          refine wo_skip (v := (.b false)) rfl rfl ?_
          refine wo_skip (v := (.b false)) rfl rfl ?_
          refine wo_step (v := (.b false)) (s_pure (p_pickF rfl rfl)) ?_
          refine wo_nil ?_
          cases hr
          exact ⟨_, _, rfl, rfl, gl rfl, gl rfl⟩
      · clear hr
        have hr := hk
        clear hk
        obtain ⟨c22, ho⟩ : ∃ z, z = o := ⟨_, rfl⟩
        subst ho
        rintro mm t_1 ⟨rfl, g22, g2⟩
        refine wo_step (v := (.b c22)) (s_pure (p_mv g22)) ?_
        have hq := bindO_inv hr
        clear hr
        obtain ⟨o_1, hr, hk⟩ := hq
        refine wo_join 4 (g59_J1 v2 m_1 o_1) ?_ ?_
        · clear hk
          have hq := cond_inv hr
          clear hr
          rcases hq with ⟨rfl, hr⟩ | ⟨rfl, hr⟩
          · have hq := bindO_inv hr
            clear hr
            obtain ⟨v24, e24, hr⟩ := hq
            refine wo_take (v := v24) rfl (s_pure (o_faddr g2 e24)) ?_
            have hq := bindO_inv hr
            clear hr
            obtain ⟨v25, e25, hr⟩ := hq
            have hq := asI_inv hr
            clear hr
            obtain ⟨x25, rfl, hr⟩ := hq
            refine wo_take (v := (.i .u8 x25)) rfl (s_ld rfl e25) ?_
            have hq := forceB_inv hr
            clear hr
            obtain ⟨c26, e26, hr⟩ := hq
            refine wo_take (v := (.b c26)) rfl (s_pure (p_bin rfl rfl (b_geq.trans (cb e26)))) ?_
            refine wo_step (v := (.b c26)) (s_pure (p_pickT rfl rfl)) ?_
            refine wo_nil ?_
            cases hr
            exact ⟨_, _, rfl, rfl, gl rfl, gl g2⟩
          · refine wo_skip (v := (.b false)) rfl rfl ?_
            refine wo_skip (v := (.b false)) rfl rfl ?_
            refine wo_skip (v := (.b false)) rfl rfl ?_
            refine wo_step (v := (.b false)) (s_pure (p_pickF rfl rfl)) ?_
            refine wo_nil ?_
            cases hr
            exact ⟨_, _, rfl, rfl, gl rfl, gl g2⟩
        · clear hr
          have hr := hk
          clear hk
          obtain ⟨c27, ho⟩ : ∃ z, z = o_1 := ⟨_, rfl⟩
          subst ho
          rintro mm_1 t_2 ⟨rfl, g27, g2⟩
          refine wo_step (v := (.b c27)) (s_pure (p_mv g27)) ?_
          have hq := bindO_inv hr
          clear hr
          obtain ⟨o_2, hr, hk⟩ := hq
          refine wo_join 4 (g59_J2 v2 m_1 o_2) ?_ ?_
          · clear hk
            have hq := cond_inv hr
            clear hr
            rcases hq with ⟨rfl, hr⟩ | ⟨rfl, hr⟩
            · have hq := bindO_inv hr
              clear hr
              obtain ⟨v29, e29, hr⟩ := hq
              refine wo_take (v := v29) rfl (s_pure (o_faddr g2 e29)) ?_
              have hq := bindO_inv hr
              clear hr
              obtain ⟨v30, e30, hr⟩ := hq
              have hq := asI_inv hr
              clear hr
              obtain ⟨x30, rfl, hr⟩ := hq
              refine wo_take (v := (.i .u8 x30)) rfl (s_ld rfl e30) ?_
              have hq := forceB_inv hr
              clear hr
              obtain ⟨c31, e31, hr⟩ := hq
              refine wo_take (v := (.b c31)) rfl (s_pure (p_bin rfl rfl (b_leq.trans (cb e31)))) ?_
              refine wo_step (v := (.b c31)) (s_pure (p_pickT rfl rfl)) ?_
              refine wo_nil ?_
              cases hr
              exact ⟨_, _, rfl, rfl, gl rfl, gl g2⟩
            · refine wo_skip (v := (.b false)) rfl rfl ?_
              refine wo_skip (v := (.b false)) rfl rfl ?_
              refine wo_skip (v := (.b false)) rfl rfl ?_
              refine wo_step (v := (.b false)) (s_pure (p_pickF rfl rfl)) ?_
              refine wo_nil ?_
              cases hr
              exact ⟨_, _, rfl, rfl, gl rfl, gl g2⟩
          · clear hr
            have hr := hk
            clear hk
            obtain ⟨c32, ho⟩ : ∃ z, z = o_2 := ⟨_, rfl⟩
            subst ho
            rintro mm_2 t_3 ⟨rfl, g32, g2⟩
            refine wo_step (v := (.b c32)) (s_pure (p_mv g32)) ?_
            have hq := bindO_inv hr
            clear hr
            obtain ⟨o_3, hr, hk⟩ := hq
            refine wo_join 4 (g59_J3 v2 m_1 o_3) ?_ ?_
            · clear hk
              have hq := cond_inv hr
              clear hr
              rcases hq with ⟨rfl, hr⟩ | ⟨rfl, hr⟩
              · have hq := bindO_inv hr
                clear hr
                obtain ⟨v34, e34, hr⟩ := hq
                refine wo_take (v := v34) rfl (s_pure (o_faddr g2 e34)) ?_
                have hq := bindO_inv hr
                clear hr
                obtain ⟨v35, e35, hr⟩ := hq
                have hq := asI_inv hr
                clear hr
                obtain ⟨x35, rfl, hr⟩ := hq
                refine wo_take (v := (.i .i64 x35)) rfl (s_ld rfl e35) ?_
                have hq := forceB_inv hr
                clear hr
                obtain ⟨c36, e36, hr⟩ := hq
                refine wo_take (v := (.b c36)) rfl (s_pure (p_bin rfl rfl (b_geq.trans (cb e36)))) ?_
                refine wo_step (v := (.b c36)) (s_pure (p_pickT rfl rfl)) ?_
                refine wo_nil ?_
                cases hr
                exact ⟨_, _, rfl, rfl, gl rfl, gl g2⟩
              · refine wo_skip (v := (.b false)) rfl rfl ?_
                refine wo_skip (v := (.b false)) rfl rfl ?_
                refine wo_skip (v := (.b false)) rfl rfl ?_
                refine wo_step (v := (.b false)) (s_pure (p_pickF rfl rfl)) ?_
                refine wo_nil ?_
                cases hr
                exact ⟨_, _, rfl, rfl, gl rfl, gl g2⟩
            · clear hr
              have hr := hk
              clear hk
              obtain ⟨c37, ho⟩ : ∃ z, z = o_3 := ⟨_, rfl⟩
              subst ho
              rintro mm_3 t_4 ⟨rfl, g37, g2⟩
              refine wo_step (v := (.b c37)) (s_pure (p_mv g37)) ?_
              have hq := bindO_inv hr
              clear hr
              obtain ⟨o_4, hr, hk⟩ := hq
              refine wo_join 4 (g59_J4 m_1 o_4) ?_ ?_
              · clear hk
                have hq := cond_inv hr
                clear hr
                rcases hq with ⟨rfl, hr⟩ | ⟨rfl, hr⟩
                · have hq := bindO_inv hr
                  clear hr
                  obtain ⟨v39, e39, hr⟩ := hq
                  refine wo_take (v := v39) rfl (s_pure (o_faddr g2 e39)) ?_
                  have hq := bindO_inv hr
                  clear hr
                  obtain ⟨v40, e40, hr⟩ := hq
                  have hq := asI_inv hr
                  clear hr
                  obtain ⟨x40, rfl, hr⟩ := hq
                  refine wo_take (v := (.i .i64 x40)) rfl (s_ld rfl e40) ?_
                  have hq := forceB_inv hr
                  clear hr
                  obtain ⟨c41, e41, hr⟩ := hq
                  refine wo_take (v := (.b c41)) rfl (s_pure (p_bin rfl rfl (b_lss.trans (cb e41)))) ?_
                  refine wo_step (v := (.b c41)) (s_pure (p_pickT rfl rfl)) ?_
                  refine wo_nil ?_
                  cases hr
                  exact ⟨_, _, rfl, rfl, gl rfl⟩
                · refine wo_skip (v := (.b false)) rfl rfl ?_
                  refine wo_skip (v := (.b false)) rfl rfl ?_
                  refine wo_skip (v := (.b false)) rfl rfl ?_
                  refine wo_step (v := (.b false)) (s_pure (p_pickF rfl rfl)) ?_
                  refine wo_nil ?_
                  cases hr
                  exact ⟨_, _, rfl, rfl, gl rfl⟩
              · clear hr
                have hr := hk
                clear hk
                obtain ⟨c42, ho⟩ : ∃ z, z = o_4 := ⟨_, rfl⟩
                subst ho
                rintro mm_4 t_5 ⟨rfl, g42⟩
                refine wo_step (v := (.b c42)) (s_pure (p_mv g42)) ?_
                refine wo_nil ?_
                refine nx_norm ?_
                refine w_ret ?_
                refine bk_ret ?_
                refine nx_ret ?_
                exact qf ret_ok (rt rfl rn) hr
    · refine w_condF rfl ?_
      refine w_seq ?_
      refine w_ops ?_
      have hq := forceB_inv hr
      clear hr
      obtain ⟨c44, e44, hr⟩ := hq
      refine wo_step (v := (.b c44)) (s_pure (p_bin rfl rfl (b_eql.trans (cb e44)))) ?_
      refine wo_step (v := (.b c44)) (s_pure (p_mv rfl)) ?_
      refine wo_nil ?_
      refine nx_norm ?_
      have hq := cond_inv hr
      clear hr
      rcases hq with ⟨rfl, hr⟩ | ⟨rfl, hr⟩
      · refine w_condT rfl ?_
        refine w_seq ?_
        refine w_ops ?_
        have hq := bindO_inv hr
        clear hr
        obtain ⟨v45, e45, hr⟩ := hq
        refine wo_step (v := v45) (s_pure (o_faddr rfl e45)) ?_
        have hq := bindO_inv hr
        clear hr
        obtain ⟨v46, e46, hr⟩ := hq
        have hq := asI_inv hr
        clear hr
        obtain ⟨x46, rfl, hr⟩ := hq
        refine wo_step (v := (.i .i64 x46)) (s_ld rfl e46) ?_
        have hq := forceB_inv hr
        clear hr
        obtain ⟨c47, e47, hr⟩ := hq
        refine wo_step (v := (.b c47)) (s_pure (p_bin rfl rfl (b_geq.trans (cb e47)))) ?_
        refine wo_step (v := (.b c47)) (s_pure (p_mv rfl)) ?_
        have hq := bindO_inv hr
        clear hr
        obtain ⟨o_5, hr, hk⟩ := hq
        refine wo_join 5 (g59_J5 v2 m_1 o_5) ?_ ?_
        · clear hk
          have hq := cond_inv hr
          clear hr
          rcases hq with ⟨rfl, hr⟩ | ⟨rfl, hr⟩
          · have hq := bindO_inv hr
            clear hr
            obtain ⟨v49, e49, hr⟩ := hq
            refine wo_take (v := v49) rfl (s_pure (o_faddr rfl e49)) ?_
            have hq := bindO_inv hr
            clear hr
            obtain ⟨v50, e50, hr⟩ := hq
            have hq := asI_inv hr
            clear hr
            obtain ⟨x50, rfl, hr⟩ := hq
            refine wo_take (v := (.i .i64 x50)) rfl (s_ld rfl e50) ?_
            refine wo_take (v := (.i .i64 x1)) rfl (s_pure (p_mv g1)) ?_
            have hq := forceB_inv hr
            clear hr
            obtain ⟨c52, e52, hr⟩ := hq
            refine wo_take (v := (.b c52)) rfl (s_pure (p_bin rfl rfl (b_lss.trans (cb e52)))) ?_
            refine wo_step (v := (.b c52)) (s_pure (p_pickT rfl rfl)) ?_
            refine wo_nil ?_
            cases hr
            exact ⟨_, _, rfl, rfl, gl rfl, gl rfl⟩
          · refine wo_skip (v := (.b false)) rfl rfl ?_
            refine wo_skip (v := (.b false)) rfl rfl ?_
            refine wo_skip (v := (.b false)) rfl rfl ?_
            refine wo_skip (v := (.b false)) rfl rfl ?_
            refine wo_step (v := (.b false)) (s_pure (p_pickF rfl rfl)) ?_
            refine wo_nil ?_
            cases hr
            exact ⟨_, _, rfl, rfl, gl rfl, gl rfl⟩
        · clear hr
          have hr := hk
          clear hk
          obtain ⟨c53, ho⟩ : ∃ z, z = o_5 := ⟨_, rfl⟩
          subst ho
          rintro mm_5 t_6 ⟨rfl, g53, g2⟩
          refine wo_step (v := (.b c53)) (s_pure (p_mv g53)) ?_
          have hq := bindO_inv hr
          clear hr
          obtain ⟨o_6, hr, hk⟩ := hq
          refine wo_join 4 (g59_J6 v2 m_1 o_6) ?_ ?_
          · clear hk
            have hq := cond_inv hr
            clear hr
            rcases hq with ⟨rfl, hr⟩ | ⟨rfl, hr⟩
            · have hq := bindO_inv hr
              clear hr
              obtain ⟨v55, e55, hr⟩ := hq
              refine wo_take (v := v55) rfl (s_pure (o_faddr g2 e55)) ?_
              have hq := bindO_inv hr
              clear hr
              obtain ⟨v56, e56, hr⟩ := hq
              have hq := asI_inv hr
              clear hr
              obtain ⟨x56, rfl, hr⟩ := hq
              refine wo_take (v := (.i .u8 x56)) rfl (s_ld rfl e56) ?_
              have hq := forceB_inv hr
              clear hr
              obtain ⟨c57, e57, hr⟩ := hq
              refine wo_take (v := (.b c57)) rfl (s_pure (p_bin rfl rfl (b_eql.trans (cb e57)))) ?_
              refine wo_step (v := (.b c57)) (s_pure (p_pickT rfl rfl)) ?_
              refine wo_nil ?_
              cases hr
              exact ⟨_, _, rfl, rfl, gl rfl, gl g2⟩
            · refine wo_skip (v := (.b false)) rfl rfl ?_
              refine wo_skip (v := (.b false)) rfl rfl ?_
              refine wo_skip (v := (.b false)) rfl rfl ?_
              refine wo_step (v := (.b false)) (s_pure (p_pickF rfl rfl)) ?_
              refine wo_nil ?_
              cases hr
              exact ⟨_, _, rfl, rfl, gl rfl, gl g2⟩
          · clear hr
            have hr := hk
            clear hk
            obtain ⟨c58, ho⟩ : ∃ z, z = o_6 := ⟨_, rfl⟩
            subst ho
            rintro mm_6 t_7 ⟨rfl, g58, g2⟩
            refine wo_step (v := (.b c58)) (s_pure (p_mv g58)) ?_
            have hq := bindO_inv hr
            clear hr
            obtain ⟨o_7, hr, hk⟩ := hq
            refine wo_join 4 (g59_J7 m_1 o_7) ?_ ?_
            · clear hk
              have hq := cond_inv hr
              clear hr
              rcases hq with ⟨rfl, hr⟩ | ⟨rfl, hr⟩
              · have hq := bindO_inv hr
                clear hr
                obtain ⟨v60, e60, hr⟩ := hq
                refine wo_take (v := v60) rfl (s_pure (o_faddr g2 e60)) ?_
                have hq := bindO_inv hr
                clear hr
                obtain ⟨v61, e61, hr⟩ := hq
                have hq := asI_inv hr
                clear hr
                obtain ⟨x61, rfl, hr⟩ := hq
                refine wo_take (v := (.i .i64 x61)) rfl (s_ld rfl e61) ?_
                have hq := forceB_inv hr
                clear hr
                obtain ⟨c62, e62, hr⟩ := hq
                refine wo_take (v := (.b c62)) rfl (s_pure (p_bin rfl rfl (b_eql.trans (cb e62)))) ?_
                refine wo_step (v := (.b c62)) (s_pure (p_pickT rfl rfl)) ?_
                refine wo_nil ?_
                cases hr
                exact ⟨_, _, rfl, rfl, gl rfl⟩
              · refine wo_skip (v := (.b false)) rfl rfl ?_
                refine wo_skip (v := (.b false)) rfl rfl ?_
                refine wo_skip (v := (.b false)) rfl rfl ?_
                refine wo_step (v := (.b false)) (s_pure (p_pickF rfl rfl)) ?_
                refine wo_nil ?_
                cases hr
                exact ⟨_, _, rfl, rfl, gl rfl⟩
            · clear hr
              have hr := hk
              clear hk
              obtain ⟨c63, ho⟩ : ∃ z, z = o_7 := ⟨_, rfl⟩
              subst ho
              rintro mm_7 t_8 ⟨rfl, g63⟩
              refine wo_step (v := (.b c63)) (s_pure (p_mv g63)) ?_
              refine wo_nil ?_
              refine nx_norm ?_
              refine w_ret ?_
              refine bk_ret ?_
              refine nx_ret ?_
              exact qf ret_ok (rt rfl rn) hr
      · refine w_condF rfl ?_
        refine w_skip ?_
        refine bk_norm ?_
        refine nx_norm ?_
        refine w_seq ?_
        refine w_ops ?_
        refine wo_step (v := (.b false)) (s_pure (p_mv rfl)) ?_
        refine wo_nil ?_
        refine nx_norm ?_
        refine w_ret ?_
        exact qf ret_ok (rt rfl rn) hr

/- dibber/note.check -/
abbrev g61_I0 (v0 : AVal) (x9 : Int) (s : Int × Mm) (m1 : Mm) (t1 : Tr) : Prop :=
  match s with
  | (x10, m_1) => m_1 = m1 ∧ t1.get 10 = (.i .i64 x10) ∧ t1.get 8 = v0 ∧ t1.get 9 = (.i .i64 x9)
abbrev g61_J0 (v0 : AVal) (x9 : Int) (o : (Mm ⊕ (Int × Mm))) (e : AExit) (m1 : Mm) (t1 : Tr) : Prop :=
  match o with
  | (.inl mo) => e = (.exit 0) ∧ mo = m1
  | (.inr (y2, mo)) => e = .ret ∧ mo = m1 ∧ t1.get 2 = (.i .i64 y2)
def g61_b0 (M : Means) (ro : List ABlk) (v0 : AVal) (x9 : Int) (x10 : Int) (m_1 : Mm) : Option ((Int × Mm) ⊕ ((Mm ⊕ (Int × Mm)))) :=
  forceB (ltI x10 x9) fun c11 =>
  cond c11 (
    bindO (evP .e (.ixS 2 (.c v0) (.c (.i .i64 x10)))) fun v12 =>
    bindO (ldM ro m_1 false 2 v12) fun v13 =>
    bindP (stepM ro m_1 (.al 31 [(AVal.i IntKind.u8 0), (AVal.b false)])) fun v4 m_2 =>
    bindP (stepM ro m_2 (.st 2 (.c v4) (.c v13))) fun vn m_3 =>
    bindO (evP .e (.faddr 0 (.c v4))) fun v14 =>
    bindO (ldM ro m_3 true 1 v14) fun v15 =>
    asI .u8 v15 fun x15 =>
    bindP (callM M.call m_3 76 [(.i .u8 x15)]) fun v16 m_4 =>
    asB v16 fun c16 =>
    forceB (!c16) fun c17 =>
    cond c17 (
      some (.inr (.inr (2, m_4)))) (
      forceI (wr .i64 (x10 + 1)) fun x18 =>
      some (.inl (x18, m_4)))) (
    some (.inr (.inl m_1)))
def g61 (M : Means) (ro : List ABlk) (v0 : AVal) (m0 : Mm) : Option (AVal × Heap × Nat × Nat) :=
  bindO (evP .e (.len false (.c v0))) fun v6 =>
  asI .i64 v6 fun x6 =>
  forceB (ltI 300 x6) fun c7 =>
  cond c7 (
    finM m0.h.length (tupA [(.i .i64 3)]) m0) (
    bindO (evP .e (.len false (.c v0))) fun v9 =>
    asI .i64 v9 fun x9 =>
    bindO (M.loop (S := Int × Mm) (R := (Mm ⊕ (Int × Mm))) (fun s => g61_b0 M ro v0 x9 s.1 s.2) (0, m0)) fun o => match o with
    | (.inl m_5) =>
      finM m0.h.length (tupA [(.i .i64 0)]) m_5
    | (.inr (x2, m_6)) =>
      finM m0.h.length (tupA [(.i .i64 x2)]) m_6)

theorem g61_ok {ro : List ABlk} {O : Caller} {M : Means} (hM : M.Ok ⟨F, O⟩ ro) {v0 h r} (ho : O 61 [v0] h = none) (hr : g61 M ro v0 ⟨h, h.length, h.length⟩ = some r) : callX ⟨F, O⟩ ro 61 [v0] h = some r := by
  refine callX_of (F := ⟨F, O⟩) (fn := fn61) (g := g61 M ro v0) ho rfl rfl hr ?_
  clear ho
  clear hr
  intro m0 t0 ht hr
  have g0 : t0.get 0 = v0 := ht 0
  clear ht
  unfold g61 at hr
  refine w_seq ?_
  refine w_ops ?_
  refine wo_step (v := (.i .i64 0)) (s_pure (p_mv rfl)) ?_
  refine wo_nil ?_
  refine nx_norm ?_
  refine w_seq ?_
  refine w_seq ?_
  refine w_ops ?_
  refine wo_step (v := v0) (s_pure (p_mv g0)) ?_
  have hq := bindO_inv hr
  clear hr
  obtain ⟨v6, e6, hr⟩ := hq
  have hq := asI_inv hr
  clear hr
  obtain ⟨x6, rfl, hr⟩ := hq
  refine wo_step (v := (.i .i64 x6)) (s_pure (o_len rfl e6)) ?_
  have hq := forceB_inv hr
  clear hr
  obtain ⟨c7, e7, hr⟩ := hq
  refine wo_step (v := (.b c7)) (s_pure (p_bin rfl rfl (b_gtr.trans (cb e7)))) ?_
  refine wo_nil ?_
  refine nx_norm ?_
  have hq := cond_inv hr
  clear hr
  rcases hq with ⟨rfl, hr⟩ | ⟨rfl, hr⟩
  · refine w_condT rfl ?_
    refine w_seq ?_
    refine w_ops ?_
    refine wo_step (v := (.i .i64 3)) (s_pure (p_mv rfl)) ?_
    refine wo_nil ?_
    refine nx_norm ?_
    refine w_ret ?_
    refine nx_ret ?_
    exact qf ret_ok (rt rfl rn) hr
  · refine w_condF rfl ?_
    refine w_skip ?_
    refine nx_norm ?_
    refine w_seq ?_
    refine w_seq ?_
    refine w_ops ?_
    refine wo_step (v := v0) (s_pure (p_mv g0)) ?_
    have hq := bindO_inv hr
    clear hr
    obtain ⟨v9, e9, hr⟩ := hq
    have hq := asI_inv hr
    clear hr
    obtain ⟨x9, rfl, hr⟩ := hq
    refine wo_step (v := (.i .i64 x9)) (s_pure (o_len rfl e9)) ?_
    refine wo_step (v := (.i .i64 0)) (s_pure (p_mv rfl)) ?_
    refine wo_nil ?_
    refine nx_norm ?_
    refine w_block ?_
    have hq := bindO_inv hr
    clear hr
    obtain ⟨o, hl, hr⟩ := hq
    obtain ⟨n, hl⟩ := hM.loop _ _ _ hl
    refine jp_mono (w_loop _ (g61_I0 v0 x9) (g61_J0 v0 x9) ?_ n _ _ _ _ hl ⟨rfl, gl rfl, gl rfl, gl rfl⟩) ?_
    · clear hr hl
      intro s mm_2 t_1 o hi hr
      obtain ⟨x10, m_1⟩ := s
      obtain ⟨rfl, g10, g8, g9⟩ := hi
      unfold g61_b0 at hr
      refine w_seq ?_
      refine w_ops ?_
      have hq := forceB_inv hr
      clear hr
      obtain ⟨c11, e11, hr⟩ := hq
      refine wo_step (v := (.b c11)) (s_pure (p_bin g10 g9 (b_lss.trans (cb e11)))) ?_
      refine wo_nil ?_
      refine nx_norm ?_
      refine w_seq ?_
      have hq := cond_inv hr
      clear hr
      rcases hq with ⟨rfl, hr⟩ | ⟨rfl, hr⟩
      · refine w_condT rfl ?_
        refine w_skip ?_
        refine nx_norm ?_
        refine w_seq ?_
        refine w_block ?_
        refine w_seq ?_
        refine w_ops ?_
        have hq := bindO_inv hr
        clear hr
        obtain ⟨v12, e12, hr⟩ := hq
        refine wo_step (v := v12) (s_pure (o_ixS g8 g10 e12)) ?_
        have hq := bindO_inv hr
        clear hr
        obtain ⟨v13, e13, hr⟩ := hq
        refine wo_step (v := v13) (s_ld rfl e13) ?_
        have hq := bindP_inv hr
        clear hr
        obtain ⟨v4, m_2, e4, hr⟩ := hq
        refine wo_step (v := v4) (s_al e4) ?_
        have hq := bindP_inv hr
        clear hr
        obtain ⟨vn, m_3, en, hr⟩ := hq
        refine wo_stepN (s_st rfl rfl en) ?_
        refine wo_nil ?_
        refine nx_norm ?_
        refine w_seq ?_
        refine w_ops ?_
        have hq := bindO_inv hr
        clear hr
        obtain ⟨v14, e14, hr⟩ := hq
        refine wo_step (v := v14) (s_pure (o_faddr rfl e14)) ?_
        have hq := bindO_inv hr
        clear hr
        obtain ⟨v15, e15, hr⟩ := hq
        have hq := asI_inv hr
        clear hr
        obtain ⟨x15, rfl, hr⟩ := hq
        refine wo_step (v := (.i .u8 x15)) (s_ld rfl e15) ?_
        have hq := bindP_inv hr
        clear hr
        obtain ⟨v16, m_4, e16, hr⟩ := hq
        have hq := asB_inv hr
        clear hr
        obtain ⟨c16, rfl, hr⟩ := hq
        refine wo_step (v := (.b c16)) (s_call (mc rfl mn) (callM_le hM.call e16)) ?_
        have hq := forceB_inv hr
        clear hr
        obtain ⟨c17, e17, hr⟩ := hq
        refine wo_step (v := (.b c17)) (s_pure ((p_not rfl).trans (cb e17))) ?_
        refine wo_nil ?_
        refine nx_norm ?_
        have hq := cond_inv hr
        clear hr
        rcases hq with ⟨rfl, hr⟩ | ⟨rfl, hr⟩
        · refine w_condT rfl ?_
          refine w_seq ?_
          refine w_ops ?_
          refine wo_step (v := (.i .i64 2)) (s_pure (p_mv rfl)) ?_
          refine wo_nil ?_
          refine nx_norm ?_
          refine w_ret ?_
          refine bk_ret ?_
          refine nx_ret ?_
          cases hr
          exact ⟨_, _, rfl, ne_norm_ret, rfl, rfl, gl rfl⟩
        · refine w_condF rfl ?_
          refine w_skip ?_
          refine bk_norm ?_
          refine nx_norm ?_
          refine w_ops ?_
          have hq := forceI_inv hr
          clear hr
          obtain ⟨x18, e18, hr⟩ := hq
          refine wo_step (v := (.i .i64 x18)) (s_pure (p_bin g10 rfl (b_add.trans (ci e18)))) ?_
          refine wo_step (v := (.i .i64 x18)) (s_pure (p_mv rfl)) ?_
          refine wo_nil ?_
          cases hr
          exact ⟨_, _, rfl, rfl, rfl, gl rfl, gl g8, gl g9⟩
      · refine w_condF rfl ?_
        refine w_exit ?_
        refine nx_exit ?_
        cases hr
        exact ⟨_, _, rfl, ne_norm_exit, rfl, rfl⟩
    · rcases o with o | o
      · obtain ⟨m_5, ho⟩ : ∃ z, z = o := ⟨_, rfl⟩
        subst ho
        rintro _ mm t_2 ⟨rfl, rfl⟩
        refine bk_hit ?_
        refine nx_norm ?_
        refine w_seq ?_
        refine w_ops ?_
        refine wo_step (v := (.i .i64 0)) (s_pure (p_mv rfl)) ?_
        refine wo_nil ?_
        refine nx_norm ?_
        refine w_ret ?_
        exact qf ret_ok (rt rfl rn) hr
      · obtain ⟨x2, m_6⟩ := o
        rintro _ mm_1 t_3 ⟨rfl, rfl, g2⟩
        refine bk_ret ?_
        refine nx_ret ?_
        exact qf ret_ok (rt g2 rn) hr

/- dibber/note.fits -/
abbrev g62_J0 (v2 : AVal) (o : Bool × Mm) (m1 : Mm) (t1 : Tr) : Prop :=
  match o with
  | (c17, m_3) => m_3 = m1 ∧ t1.get 17 = (.b c17) ∧ t1.get 2 = v2
abbrev g62_J1  (o : Bool × Mm) (m1 : Mm) (t1 : Tr) : Prop :=
  match o with
  | (c22, m_5) => m_5 = m1 ∧ t1.get 22 = (.b c22)
abbrev g62_J2 (v2 : AVal) (m_7 : Mm) (o : Bool) (m1 : Mm) (t1 : Tr) : Prop :=
  match o with
  | c34 => m_7 = m1 ∧ t1.get 34 = (.b c34) ∧ t1.get 2 = v2
abbrev g62_J3 (m_7 : Mm) (o : Bool) (m1 : Mm) (t1 : Tr) : Prop :=
  match o with
  | c39 => m_7 = m1 ∧ t1.get 39 = (.b c39)
def g62 (M : Means) (ro : List ABlk) (v0 : AVal) (x1 : Int) (m0 : Mm) : Option (AVal × Heap × Nat × Nat) :=
  bindP (stepM ro m0 (.bx 24 4 (.c v0))) fun v2 m_1 =>
  bindO (evP .e (.faddr 0 (.c v2))) fun v5 =>
  bindO (ldM ro m_1 true 1 v5) fun v6 =>
  asI .i64 v6 fun x6 =>
  forceB (eqI x6 1) fun c8 =>
  cond c8 (
    bindO (evP .e (.faddr 1 (.c v2))) fun v9 =>
    bindO (ldM ro m_1 true 1 v9) fun v10 =>
    asI .i64 v10 fun x10 =>
    bindP (callM M.call m_1 77 [(.i .i64 0), (.i .i64 x10), (.i .i64 x1)]) fun v12 m_2 =>
    asB v12 fun c12 =>
    bindO (cond c12 (
      bindO (evP .e (.faddr 2 (.c v2))) fun v14 =>
      bindO (ldM ro m_2 true 1 v14) fun v15 =>
      asI .u8 v15 fun x15 =>
      bindP (callM M.call m_2 76 [(.i .u8 x15)]) fun v16 m_4 =>
      asB v16 fun c16 =>
      some (c16, m_4)) (
      some (false, m_2))) fun ⟨c17, m_3⟩ =>
    bindO (cond c17 (
      bindO (evP .e (.faddr 3 (.c v2))) fun v19 =>
      bindO (ldM ro m_3 true 1 v19) fun v20 =>
      asI .i64 v20 fun x20 =>
      bindP (callM M.call m_3 77 [(.i .i64 0), (.i .i64 x20), (.i .i64 4)]) fun v21 m_6 =>
      asB v21 fun c21 =>
      some (c21, m_6)) (
      some (false, m_3))) fun ⟨c22, m_5⟩ =>
    finM m0.h.length (tupA [(.b c22)]) m_5) (
    forceB (eqI x6 2) fun c24 =>
    cond c24 (
      bindO (evP .e (.faddr 1 (.c v2))) fun v25 =>
      bindO (ldM ro m_1 true 1 v25) fun v26 =>
      asI .i64 v26 fun x26 =>
      forceI (wr .i64 (x1 - 1)) fun x28 =>
      bindP (callM M.call m_1 77 [(.i .i64 0), (.i .i64 x26), (.i .i64 x28)]) fun v29 m_7 =>
      asB v29 fun c29 =>
      bindO (cond c29 (
        bindO (evP .e (.faddr 2 (.c v2))) fun v31 =>
        bindO (ldM ro m_7 true 1 v31) fun v32 =>
        asI .u8 v32 fun x32 =>
        forceB (eqI x32 0) fun c33 =>
        some c33) (
        some false)) fun c34 =>
      bindO (cond c34 (
        bindO (evP .e (.faddr 3 (.c v2))) fun v36 =>
        bindO (ldM ro m_7 true 1 v36) fun v37 =>
        asI .i64 v37 fun x37 =>
        forceB (eqI x37 0) fun c38 =>
        some c38) (
        some false)) fun c39 =>
      finM m0.h.length (tupA [(.b c39)]) m_7) (
      bindO (ldM ro m_1 false 4 v2) fun v40 =>
      bindO ((fillA [(AVal.i IntKind.i64 0), (AVal.i IntKind.i64 0), (AVal.i IntKind.u8 0), (AVal.i IntKind.i64 0)] [((0, 1), (.i .i64 0))]).map AVal.agg) fun v41 =>
      bindO (evP .e (.seq false [(0, false), (1, false), (2, false), (3, false)] (.c v40) (.c v41))) fun v42 =>
      asB v42 fun c42 =>
      finM m0.h.length (tupA [(.b c42)]) m_1))

theorem g62_ok {ro : List ABlk} {O : Caller} {M : Means} (hM : M.Ok ⟨F, O⟩ ro) {v0 x1 h r} (ho : O 62 [v0, (.i .i64 x1)] h = none) (hr : g62 M ro v0 x1 ⟨h, h.length, h.length⟩ = some r) : callX ⟨F, O⟩ ro 62 [v0, (.i .i64 x1)] h = some r := by
  refine callX_of (F := ⟨F, O⟩) (fn := fn62) (g := g62 M ro v0 x1) ho rfl rfl hr ?_
  clear ho
  clear hr
  intro m0 t0 ht hr
  have g0 : t0.get 0 = v0 := ht 0
  have g1 : t0.get 1 = (.i .i64 x1) := ht 1
  clear ht
  unfold g62 at hr
  refine w_seq ?_
  refine w_ops ?_
  have hq := bindP_inv hr
  clear hr
  obtain ⟨v2, m_1, e2, hr⟩ := hq
  refine wo_step (v := v2) (s_bx g0 e2) ?_
  refine wo_step (v := (.b false)) (s_pure (p_mv rfl)) ?_
  refine wo_nil ?_
  refine nx_norm ?_
  refine w_seq ?_
  refine w_seq ?_
  refine w_ops ?_
  have hq := bindO_inv hr
  clear hr
  obtain ⟨v5, e5, hr⟩ := hq
  refine wo_step (v := v5) (s_pure (o_faddr rfl e5)) ?_
  have hq := bindO_inv hr
  clear hr
  obtain ⟨v6, e6, hr⟩ := hq
  have hq := asI_inv hr
  clear hr
  obtain ⟨x6, rfl, hr⟩ := hq
  refine wo_step (v := (.i .i64 x6)) (s_ld rfl e6) ?_
  refine wo_nil ?_
  refine nx_norm ?_
  refine w_block ?_
  refine w_seq ?_
  refine w_ops ?_
  have hq := forceB_inv hr
  clear hr
  obtain ⟨c8, e8, hr⟩ := hq
  refine wo_step (v := (.b c8)) (s_pure (p_bin rfl rfl (b_eql.trans (cb e8)))) ?_
  refine wo_step (v := (.b c8)) (s_pure (p_mv rfl)) ?_
  refine wo_nil ?_
  refine nx_norm ?_
  have hq := cond_inv hr
  clear hr
  rcases hq with ⟨rfl, hr⟩ | ⟨rfl, hr⟩
  · refine w_condT rfl ?_
    refine w_seq ?_
    refine w_ops ?_
    have hq := bindO_inv hr
    clear hr
    obtain ⟨v9, e9, hr⟩ := hq
    refine wo_step (v := v9) (s_pure (o_faddr rfl e9)) ?_
    have hq := bindO_inv hr
    clear hr
    obtain ⟨v10, e10, hr⟩ := hq
    have hq := asI_inv hr
    clear hr
    obtain ⟨x10, rfl, hr⟩ := hq
    refine wo_step (v := (.i .i64 x10)) (s_ld rfl e10) ?_
    refine wo_step (v := (.i .i64 x1)) (s_pure (p_mv g1)) ?_
    have hq := bindP_inv hr
    clear hr
    obtain ⟨v12, m_2, e12, hr⟩ := hq
    have hq := asB_inv hr
    clear hr
    obtain ⟨c12, rfl, hr⟩ := hq
    refine wo_step (v := (.b c12)) (s_call (mc rfl (mc rfl (mc rfl mn))) (callM_le hM.call e12)) ?_
    refine wo_step (v := (.b c12)) (s_pure (p_mv rfl)) ?_
    have hq := bindO_inv hr
    clear hr
    obtain ⟨o, hr, hk⟩ := hq
    refine wo_join 4 (g62_J0 v2 o) ?_ ?_
    · clear hk
      have hq := cond_inv hr
      clear hr
      rcases hq with ⟨rfl, hr⟩ | ⟨rfl, hr⟩
      · have hq := bindO_inv hr
        clear hr
        obtain ⟨v14, e14, hr⟩ := hq
        refine wo_take (v := v14) rfl (s_pure (o_faddr rfl e14)) ?_
        have hq := bindO_inv hr
        clear hr
        obtain ⟨v15, e15, hr⟩ := hq
        have hq := asI_inv hr
        clear hr
        obtain ⟨x15, rfl, hr⟩ := hq
        refine wo_take (v := (.i .u8 x15)) rfl (s_ld rfl e15) ?_
        have hq := bindP_inv hr
        clear hr
        obtain ⟨v16, m_4, e16, hr⟩ := hq
        have hq := asB_inv hr
        clear hr
        obtain ⟨c16, rfl, hr⟩ := hq
        refine wo_take (v := (.b c16)) rfl (s_call (mc rfl mn) (callM_le hM.call e16)) ?_
        refine wo_step (v := (.b c16)) (s_pure (p_pickT rfl rfl)) ?_
        refine wo_nil ?_
        cases hr
        exact ⟨_, _, rfl, rfl, gl rfl, gl rfl⟩
      · refine wo_skip (v := (.b false)) rfl rfl ?_
        refine wo_skip (v := (.b false)) rfl rfl ?_
        refine wo_skip (v := (.b false)) rfl rfl ?_
        refine wo_step (v := (.b false)) (s_pure (p_pickF rfl rfl)) ?_
        refine wo_nil ?_
        cases hr
        exact ⟨_, _, rfl, rfl, gl rfl, gl rfl⟩
    · clear hr
      have hr := hk
      clear hk
      obtain ⟨c17, m_3⟩ := o
      rintro mm t_1 ⟨rfl, g17, g2⟩
      refine wo_step (v := (.b c17)) (s_pure (p_mv g17)) ?_
      have hq := bindO_inv hr
      clear hr
      obtain ⟨o_1, hr, hk⟩ := hq
      refine wo_join 4 (g62_J1  o_1) ?_ ?_
      · clear hk
        have hq := cond_inv hr
        clear hr
        rcases hq with ⟨rfl, hr⟩ | ⟨rfl, hr⟩
        · have hq := bindO_inv hr
          clear hr
          obtain ⟨v19, e19, hr⟩ := hq
          refine wo_take (v := v19) rfl (s_pure (o_faddr g2 e19)) ?_
          have hq := bindO_inv hr
          clear hr
          obtain ⟨v20, e20, hr⟩ := hq
          have hq := asI_inv hr
          clear hr
          obtain ⟨x20, rfl, hr⟩ := hq
          refine wo_take (v := (.i .i64 x20)) rfl (s_ld rfl e20) ?_
          have hq := bindP_inv hr
          clear hr
          obtain ⟨v21, m_6, e21, hr⟩ := hq
          have hq := asB_inv hr
          clear hr
          obtain ⟨c21, rfl, hr⟩ := hq
          refine wo_take (v := (.b c21)) rfl (s_call (mc rfl (mc rfl (mc rfl mn))) (callM_le hM.call e21)) ?_
          refine wo_step (v := (.b c21)) (s_pure (p_pickT rfl rfl)) ?_
          refine wo_nil ?_
          cases hr
          exact ⟨_, _, rfl, rfl, gl rfl⟩
        · refine wo_skip (v := (.b false)) rfl rfl ?_
          refine wo_skip (v := (.b false)) rfl rfl ?_
          refine wo_skip (v := (.b false)) rfl rfl ?_
          refine wo_step (v := (.b false)) (s_pure (p_pickF rfl rfl)) ?_
          refine wo_nil ?_
          cases hr
          exact ⟨_, _, rfl, rfl, gl rfl⟩
      · clear hr
        have hr := hk
        clear hk
        obtain ⟨c22, m_5⟩ := o_1
        rintro mm_1 t_2 ⟨rfl, g22⟩
        refine wo_step (v := (.b c22)) (s_pure (p_mv g22)) ?_
        refine wo_nil ?_
        refine nx_norm ?_
        refine w_ret ?_
        refine bk_ret ?_
        refine nx_ret ?_
        exact qf ret_ok (rt rfl rn) hr
  · refine w_condF rfl ?_
    refine w_seq ?_
    refine w_ops ?_
    have hq := forceB_inv hr
    clear hr
    obtain ⟨c24, e24, hr⟩ := hq
    refine wo_step (v := (.b c24)) (s_pure (p_bin rfl rfl (b_eql.trans (cb e24)))) ?_
    refine wo_step (v := (.b c24)) (s_pure (p_mv rfl)) ?_
    refine wo_nil ?_
    refine nx_norm ?_
    have hq := cond_inv hr
    clear hr
    rcases hq with ⟨rfl, hr⟩ | ⟨rfl, hr⟩
    · refine w_condT rfl ?_
      refine w_seq ?_
      refine w_ops ?_
      have hq := bindO_inv hr
      clear hr
      obtain ⟨v25, e25, hr⟩ := hq
      refine wo_step (v := v25) (s_pure (o_faddr rfl e25)) ?_
      have hq := bindO_inv hr
      clear hr
      obtain ⟨v26, e26, hr⟩ := hq
      have hq := asI_inv hr
      clear hr
      obtain ⟨x26, rfl, hr⟩ := hq
      refine wo_step (v := (.i .i64 x26)) (s_ld rfl e26) ?_
      refine wo_step (v := (.i .i64 x1)) (s_pure (p_mv g1)) ?_
      have hq := forceI_inv hr
      clear hr
      obtain ⟨x28, e28, hr⟩ := hq
      refine wo_step (v := (.i .i64 x28)) (s_pure (p_bin rfl rfl (b_sub.trans (ci e28)))) ?_
      have hq := bindP_inv hr
      clear hr
      obtain ⟨v29, m_7, e29, hr⟩ := hq
      have hq := asB_inv hr
      clear hr
      obtain ⟨c29, rfl, hr⟩ := hq
      refine wo_step (v := (.b c29)) (s_call (mc rfl (mc rfl (mc rfl mn))) (callM_le hM.call e29)) ?_
      refine wo_step (v := (.b c29)) (s_pure (p_mv rfl)) ?_
      have hq := bindO_inv hr
      clear hr
      obtain ⟨o_2, hr, hk⟩ := hq
      refine wo_join 4 (g62_J2 v2 m_7 o_2) ?_ ?_
      · clear hk
        have hq := cond_inv hr
        clear hr
        rcases hq with ⟨rfl, hr⟩ | ⟨rfl, hr⟩
        · have hq := bindO_inv hr
          clear hr
          obtain ⟨v31, e31, hr⟩ := hq
          refine wo_take (v := v31) rfl (s_pure (o_faddr rfl e31)) ?_
          have hq := bindO_inv hr
          clear hr
          obtain ⟨v32, e32, hr⟩ := hq
          have hq := asI_inv hr
          clear hr
          obtain ⟨x32, rfl, hr⟩ := hq
          refine wo_take (v := (.i .u8 x32)) rfl (s_ld rfl e32) ?_
          have hq := forceB_inv hr
          clear hr
          obtain ⟨c33, e33, hr⟩ := hq
          refine wo_take (v := (.b c33)) rfl (s_pure (p_bin rfl rfl (b_eql.trans (cb e33)))) ?_
          refine wo_step (v := (.b c33)) (s_pure (p_pickT rfl rfl)) ?_
          refine wo_nil ?_
          cases hr
          exact ⟨_, _, rfl, rfl, gl rfl, gl rfl⟩
        · refine wo_skip (v := (.b false)) rfl rfl ?_
          refine wo_skip (v := (.b false)) rfl rfl ?_
          refine wo_skip (v := (.b false)) rfl rfl ?_
          refine wo_step (v := (.b false)) (s_pure (p_pickF rfl rfl)) ?_
          refine wo_nil ?_
          cases hr
          exact ⟨_, _, rfl, rfl, gl rfl, gl rfl⟩
      · clear hr
        have hr := hk
        clear hk
        obtain ⟨c34, ho⟩ : ∃ z, z = o_2 := ⟨_, rfl⟩
        subst ho
        rintro mm_2 t_3 ⟨rfl, g34, g2⟩
        refine wo_step (v := (.b c34)) (s_pure (p_mv g34)) ?_
        have hq := bindO_inv hr
        clear hr
        obtain ⟨o_3, hr, hk⟩ := hq
        refine wo_join 4 (g62_J3 m_7 o_3) ?_ ?_
        · clear hk
          have hq := cond_inv hr
          clear hr
          rcases hq with ⟨rfl, hr⟩ | ⟨rfl, hr⟩
          · have hq := bindO_inv hr
            clear hr
            obtain ⟨v36, e36, hr⟩ := hq
            refine wo_take (v := v36) rfl (s_pure (o_faddr g2 e36)) ?_
            have hq := bindO_inv hr
            clear hr
            obtain ⟨v37, e37, hr⟩ := hq
            have hq := asI_inv hr
            clear hr
            obtain ⟨x37, rfl, hr⟩ := hq
            refine wo_take (v := (.i .i64 x37)) rfl (s_ld rfl e37) ?_
            have hq := forceB_inv hr
            clear hr
            obtain ⟨c38, e38, hr⟩ := hq
            refine wo_take (v := (.b c38)) rfl (s_pure (p_bin rfl rfl (b_eql.trans (cb e38)))) ?_
            refine wo_step (v := (.b c38)) (s_pure (p_pickT rfl rfl)) ?_
            refine wo_nil ?_
            cases hr
            exact ⟨_, _, rfl, rfl, gl rfl⟩
          · refine wo_skip (v := (.b false)) rfl rfl ?_
            refine wo_skip (v := (.b false)) rfl rfl ?_
            refine wo_skip (v := (.b false)) rfl rfl ?_
            refine wo_step (v := (.b false)) (s_pure (p_pickF rfl rfl)) ?_
            refine wo_nil ?_
            cases hr
            exact ⟨_, _, rfl, rfl, gl rfl⟩
        · clear hr
          have hr := hk
          clear hk
          obtain ⟨c39, ho⟩ : ∃ z, z = o_3 := ⟨_, rfl⟩
          subst ho
          rintro mm_3 t_4 ⟨rfl, g39⟩
          refine wo_step (v := (.b c39)) (s_pure (p_mv g39)) ?_
          refine wo_nil ?_
          refine nx_norm ?_
          refine w_ret ?_
          refine bk_ret ?_
          refine nx_ret ?_
          exact qf ret_ok (rt rfl rn) hr
    · refine w_condF rfl ?_
      refine w_skip ?_
      refine bk_norm ?_
      refine nx_norm ?_
      refine w_seq ?_
      refine w_ops ?_
      have hq := bindO_inv hr
      clear hr
      obtain ⟨v40, e40, hr⟩ := hq
      refine wo_step (v := v40) (s_ld rfl e40) ?_
      have hq := bindO_inv hr
      clear hr
      obtain ⟨v41, e41, hr⟩ := hq
      refine wo_step (v := v41) (s_pure (o_build (qc rfl qn) e41)) ?_
      have hq := bindO_inv hr
      clear hr
      obtain ⟨v42, e42, hr⟩ := hq
      have hq := asB_inv hr
      clear hr
      obtain ⟨c42, rfl, hr⟩ := hq
      refine wo_step (v := (.b c42)) (s_pure (o_seq rfl rfl e42)) ?_
      refine wo_step (v := (.b c42)) (s_pure (p_mv rfl)) ?_
      refine wo_nil ?_
      refine nx_norm ?_
      refine w_ret ?_
      exact qf ret_ok (rt rfl rn) hr

/- dibber/note.turned -/

def g66 (M : Means) (ro : List ABlk) (v0 : AVal) (v1 : AVal) (m0 : Mm) : Option (AVal × Heap × Nat × Nat) :=
  bindP (stepM ro m0 (.bx 24 4 (.c v0))) fun v2 m_1 =>
  bindP (stepM ro m_1 (.bx 24 4 (.c v1))) fun v3 m_2 =>
  bindP (stepM ro m_2 (.al 24 [(AVal.i IntKind.i64 0), (AVal.i IntKind.i64 0), (AVal.i IntKind.u8 0), (AVal.i IntKind.i64 0)])) fun v4 m_3 =>
  bindO (some (Mm.base m_3)) fun m_4 =>
  bindP (callM M.call m_4 92 []) fun v5 m_5 =>
  chk (!Nat.blt m_5.lw m_3.h.length) <|
  bindO (evP .e (.faddr 0 (.c v2))) fun v6 =>
  bindO (ldA ro m_3.h true 1 v6) fun v7 =>
  asI .i64 v7 fun x7 =>
  bindO (evP .e (.ixV 3 3 false (.c v5) (.c (.i .i64 x7)))) fun v8 =>
  bindO (evP .e (.faddr 0 (.c v3))) fun v9 =>
  bindO (ldA ro m_3.h true 1 v9) fun v10 =>
  asI .i64 v10 fun x10 =>
  bindO (evP .e (.ixV 3 1 true (.c v8) (.c (.i .i64 x10)))) fun v11 =>
  bindO (ldA ro m_3.h false 4 v2) fun v12 =>
  bindO (ldA ro m_3.h false 4 v3) fun v13 =>
  bindP (callvM M.call m_5 v11 [v12, v13]) fun v14 m_6 =>
  bindP (stepM ro m_6 (.st 4 (.c v4) (.c v14))) fun vn m_7 =>
  bindO (some (Mm.join m_3 m_7)) fun m_8 =>
  bindO (ldM ro m_8 false 4 v4) fun vr =>
  finM m0.h.length (tupA [vr]) m_8

theorem g66_ok {ro : List ABlk} {O : Caller} {M : Means} (hM : M.Ok ⟨F, O⟩ ro) {v0 v1 h r} (ho : O 66 [v0, v1] h = none) (hr : g66 M ro v0 v1 ⟨h, h.length, h.length⟩ = some r) : callX ⟨F, O⟩ ro 66 [v0, v1] h = some r := by
  refine callX_of (F := ⟨F, O⟩) (fn := fn66) (g := g66 M ro v0 v1) ho rfl rfl hr ?_
  clear ho
  clear hr
  intro m0 t0 ht hr
  have g0 : t0.get 0 = v0 := ht 0
  have g1 : t0.get 1 = v1 := ht 1
  clear ht
  unfold g66 at hr
  refine w_seq ?_
  refine w_ops ?_
  have hq := bindP_inv hr
  clear hr
  obtain ⟨v2, m_1, e2, hr⟩ := hq
  refine wo_step (v := v2) (s_bx g0 e2) ?_
  have hq := bindP_inv hr
  clear hr
  obtain ⟨v3, m_2, e3, hr⟩ := hq
  refine wo_step (v := v3) (s_bx g1 e3) ?_
  have hq := bindP_inv hr
  clear hr
  obtain ⟨v4, m_3, e4, hr⟩ := hq
  refine wo_step (v := v4) (s_al e4) ?_
  refine wo_nil ?_
  refine nx_norm ?_
  refine w_seq ?_
  have hq := bindO_inv hr
  clear hr
  obtain ⟨m_4, ef, hr⟩ := hq
  refine w_flt (af := true) rfl ef ?_
  have hq := bindP_inv hr
  clear hr
  obtain ⟨v5, m_5, e5, hr⟩ := hq
  have hq := chk_inv hr
  clear hr
  obtain ⟨hc5, hr⟩ := hq
  refine wf_step (v := v5) (f_M hc5 (s_call mn (callM_le hM.call e5))) ?_
  have hq := bindO_inv hr
  clear hr
  obtain ⟨v6, e6, hr⟩ := hq
  refine wf_step (v := v6) (f_P rfl (s_pure (o_faddr rfl e6))) ?_
  have hq := bindO_inv hr
  clear hr
  obtain ⟨v7, e7, hr⟩ := hq
  have hq := asI_inv hr
  clear hr
  obtain ⟨x7, rfl, hr⟩ := hq
  refine wf_step (v := (.i .i64 x7)) (f_ld rfl e7) ?_
  have hq := bindO_inv hr
  clear hr
  obtain ⟨v8, e8, hr⟩ := hq
  refine wf_step (v := v8) (f_P rfl (s_pure (o_ixV rfl rfl e8))) ?_
  have hq := bindO_inv hr
  clear hr
  obtain ⟨v9, e9, hr⟩ := hq
  refine wf_step (v := v9) (f_P rfl (s_pure (o_faddr rfl e9))) ?_
  have hq := bindO_inv hr
  clear hr
  obtain ⟨v10, e10, hr⟩ := hq
  have hq := asI_inv hr
  clear hr
  obtain ⟨x10, rfl, hr⟩ := hq
  refine wf_step (v := (.i .i64 x10)) (f_ld rfl e10) ?_
  have hq := bindO_inv hr
  clear hr
  obtain ⟨v11, e11, hr⟩ := hq
  refine wf_step (v := v11) (f_P rfl (s_pure (o_ixV rfl rfl e11))) ?_
  have hq := bindO_inv hr
  clear hr
  obtain ⟨v12, e12, hr⟩ := hq
  refine wf_step (v := v12) (f_ld rfl e12) ?_
  have hq := bindO_inv hr
  clear hr
  obtain ⟨v13, e13, hr⟩ := hq
  refine wf_step (v := v13) (f_ld rfl e13) ?_
  have hq := bindP_inv hr
  clear hr
  obtain ⟨v14, m_6, e14, hr⟩ := hq
  refine wf_step (v := v14) (f_F rfl (s_callv rfl (mc rfl (mc rfl mn)) (callvM_le hM.call e14))) ?_
  have hq := bindP_inv hr
  clear hr
  obtain ⟨vn, m_7, en, hr⟩ := hq
  refine wf_stepN (f_F rfl (s_st rfl rfl en)) ?_
  have hq := bindO_inv hr
  clear hr
  obtain ⟨m_8, ef_1, hr⟩ := hq
  refine wf_end ef_1 ?_
  refine nx_norm ?_
  refine w_ret ?_
  have hq := bindO_inv hr
  clear hr
  obtain ⟨vr, er, hr⟩ := hq
  exact qf ret_ok (rc rfl er rn) hr

/- dibber/dibberref07.turn -/
abbrev g67_J0 (v2 : AVal) (v3 : AVal) (v4 : AVal) (m_3 : Mm) (o : Bool) (m1 : Mm) (t1 : Tr) : Prop :=
  match o with
  | c13 => m_3 = m1 ∧ t1.get 13 = (.b c13) ∧ t1.get 2 = v2 ∧ t1.get 3 = v3 ∧ t1.get 4 = v4
abbrev g67_J1 (v2 : AVal) (v4 : AVal) (m_3 : Mm) (o : Bool) (e : AExit) (m1 : Mm) (t1 : Tr) : Prop :=
  match o with
  | y5 => e = .norm ∧ m_3 = m1 ∧ t1.get 5 = (.b y5) ∧ t1.get 2 = v2 ∧ t1.get 4 = v4
abbrev g67_J2 (v2 : AVal) (v3 : AVal) (v4 : AVal) (m_3 : Mm) (o : Bool) (m1 : Mm) (t1 : Tr) : Prop :=
  match o with
  | c34 => m_3 = m1 ∧ t1.get 34 = (.b c34) ∧ t1.get 2 = v2 ∧ t1.get 3 = v3 ∧ t1.get 4 = v4
abbrev g67_J3 (v2 : AVal) (v4 : AVal) (m_3 : Mm) (o : Bool) (m1 : Mm) (t1 : Tr) : Prop :=
  match o with
  | c48 => m_3 = m1 ∧ t1.get 48 = (.b c48) ∧ t1.get 2 = v2 ∧ t1.get 4 = v4
abbrev g67_J4 (v2 : AVal) (v4 : AVal) (m_3 : Mm) (o : Bool) (m1 : Mm) (t1 : Tr) : Prop :=
  match o with
  | c48_1 => m_3 = m1 ∧ t1.get 48 = (.b c48_1) ∧ t1.get 2 = v2 ∧ t1.get 4 = v4
abbrev g67_J5 (v2 : AVal) (v4 : AVal) (o : Mm) (e : AExit) (m1 : Mm) (t1 : Tr) : Prop :=
  match o with
  | mo => e = .norm ∧ mo = m1 ∧ t1.get 2 = v2 ∧ t1.get 4 = v4
def g67 (M : Means) (ro : List ABlk) (v0 : AVal) (v1 : AVal) (m0 : Mm) : Option (AVal × Heap × Nat × Nat) :=
  bindP (stepM ro m0 (.bx 24 4 (.c v0))) fun v2 m_1 =>
  bindP (stepM ro m_1 (.bx 24 4 (.c v1))) fun v3 m_2 =>
  bindP (stepM ro m_2 (.al 24 [(AVal.i IntKind.i64 0), (AVal.i IntKind.i64 0), (AVal.i IntKind.u8 0), (AVal.i IntKind.i64 0)])) fun v4 m_3 =>
  bindO (evP .e (.faddr 0 (.c v3))) fun v6 =>
  bindO (ldM ro m_3 true 1 v6) fun v7 =>
  asI .i64 v7 fun x7 =>
  forceB (!eqI x7 1) fun c8 =>
  bindO (cond c8 (
    some true) (
    bindO (evP .e (.faddr 0 (.c v2))) fun v10 =>
    bindO (ldM ro m_3 true 1 v10) fun v11 =>
    asI .i64 v11 fun x11 =>
    forceB (eqI x11 0) fun c12 =>
    some c12)) fun c13 =>
  cond c13 (
    bindO (ldM ro m_3 false 4 v2) fun v14 =>
    bindP (stepM ro m_3 (.st 4 (.c v4) (.c v14))) fun vn m_4 =>
    bindO (ldM ro m_4 false 4 v4) fun vr =>
    finM m0.h.length (tupA [vr]) m_4) (
    bindO (evP .e (.faddr 1 (.c v3))) fun v15 =>
    bindO (ldM ro m_3 true 1 v15) fun v16 =>
    asI .i64 v16 fun x16 =>
    bindO (evP .e (.faddr 1 (.c v2))) fun v17 =>
    bindO (ldM ro m_3 true 1 v17) fun v18 =>
    asI .i64 v18 fun x18 =>
    forceB (ltI x16 x18) fun c19 =>
    bindO (evP .e (.faddr 1 (.c v3))) fun v20 =>
    bindO (ldM ro m_3 true 1 v20) fun v21 =>
    asI .i64 v21 fun x21 =>
    bindO (evP .e (.faddr 1 (.c v2))) fun v22 =>
    bindO (ldM ro m_3 true 1 v22) fun v23 =>
    asI .i64 v23 fun x23 =>
    forceB (eqI x21 x23) fun c24 =>
    bindO (α := Bool) (
      cond c24 (
        bindO (evP .e (.faddr 0 (.c v2))) fun v25 =>
        bindO (ldM ro m_3 true 1 v25) fun v26 =>
        asI .i64 v26 fun x26 =>
        forceB (eqI x26 2) fun c27 =>
        bindO (cond c27 (
          some true) (
          bindO (evP .e (.faddr 3 (.c v3))) fun v29 =>
          bindO (ldM ro m_3 true 1 v29) fun v30 =>
          asI .i64 v30 fun x30 =>
          bindO (evP .e (.faddr 3 (.c v2))) fun v31 =>
          bindO (ldM ro m_3 true 1 v31) fun v32 =>
          asI .i64 v32 fun x32 =>
          forceB (ltI x30 x32) fun c33 =>
          some c33)) fun c34 =>
        bindO (cond c34 (
          some true) (
          bindO (evP .e (.faddr 3 (.c v3))) fun v36 =>
          bindO (ldM ro m_3 true 1 v36) fun v37 =>
          asI .i64 v37 fun x37 =>
          bindO (evP .e (.faddr 3 (.c v2))) fun v38 =>
          bindO (ldM ro m_3 true 1 v38) fun v39 =>
          asI .i64 v39 fun x39 =>
          forceB (eqI x37 x39) fun c40 =>
          bindO (cond c40 (
            bindO (evP .e (.faddr 2 (.c v2))) fun v42 =>
            bindO (ldM ro m_3 true 1 v42) fun v43 =>
            asI .u8 v43 fun x43 =>
            bindO (evP .e (.faddr 2 (.c v3))) fun v44 =>
            bindO (ldM ro m_3 true 1 v44) fun v45 =>
            asI .u8 v45 fun x45 =>
            forceB (ltI x45 x43) fun c46 =>
            some c46) (
            some false)) fun c48_1 =>
          some c48_1)) fun c48 =>
        some c48) (
        some c19)) fun c5 =>
    bindO (α := Mm) (
      cond c5 (
        bindO (evP .e (.faddr 1 (.c v2))) fun v50 =>
        bindO (ldM ro m_3 true 1 v50) fun v51 =>
        asI .i64 v51 fun x51 =>
        forceI (wr .i64 (x51 + 1)) fun x52 =>
        bindO (evP .e (.faddr 1 (.c v2))) fun v53 =>
        bindP (stepM ro m_3 (.st 1 (.c v53) (.c (.i .i64 x52)))) fun vn_1 m_5 =>
        some m_5) (
        some m_3)) fun m_6 =>
    bindO (ldM ro m_6 false 4 v2) fun v54 =>
    bindP (stepM ro m_6 (.st 4 (.c v4) (.c v54))) fun vn_2 m_7 =>
    bindO (ldM ro m_7 false 4 v4) fun vr_1 =>
    finM m0.h.length (tupA [vr_1]) m_7)

theorem g67_ok {ro : List ABlk} {O : Caller} {M : Means} (hM : M.Ok ⟨F, O⟩ ro) {v0 v1 h r} (ho : O 67 [v0, v1] h = none) (hr : g67 M ro v0 v1 ⟨h, h.length, h.length⟩ = some r) : callX ⟨F, O⟩ ro 67 [v0, v1] h = some r := by
  refine callX_of (F := ⟨F, O⟩) (fn := fn67) (g := g67 M ro v0 v1) ho rfl rfl hr ?_
  clear ho
  clear hr
  intro m0 t0 ht hr
  have g0 : t0.get 0 = v0 := ht 0
  have g1 : t0.get 1 = v1 := ht 1
  clear ht
  unfold g67 at hr
  refine w_seq ?_
  refine w_ops ?_
  have hq := bindP_inv hr
  clear hr
  obtain ⟨v2, m_1, e2, hr⟩ := hq
  refine wo_step (v := v2) (s_bx g0 e2) ?_
  have hq := bindP_inv hr
  clear hr
  obtain ⟨v3, m_2, e3, hr⟩ := hq
  refine wo_step (v := v3) (s_bx g1 e3) ?_
  have hq := bindP_inv hr
  clear hr
  obtain ⟨v4, m_3, e4, hr⟩ := hq
  refine wo_step (v := v4) (s_al e4) ?_
  refine wo_nil ?_
  refine nx_norm ?_
  refine w_seq ?_
  refine w_seq ?_
  refine w_ops ?_
  have hq := bindO_inv hr
  clear hr
  obtain ⟨v6, e6, hr⟩ := hq
  refine wo_step (v := v6) (s_pure (o_faddr rfl e6)) ?_
  have hq := bindO_inv hr
  clear hr
  obtain ⟨v7, e7, hr⟩ := hq
  have hq := asI_inv hr
  clear hr
  obtain ⟨x7, rfl, hr⟩ := hq
  refine wo_step (v := (.i .i64 x7)) (s_ld rfl e7) ?_
  have hq := forceB_inv hr
  clear hr
  obtain ⟨c8, e8, hr⟩ := hq
  refine wo_step (v := (.b c8)) (s_pure (p_bin rfl rfl (b_neq.trans (cb e8)))) ?_
  refine wo_step (v := (.b c8)) (s_pure (p_mv rfl)) ?_
  have hq := bindO_inv hr
  clear hr
  obtain ⟨o, hr, hk⟩ := hq
  refine wo_join 4 (g67_J0 v2 v3 v4 m_3 o) ?_ ?_
  · clear hk
    have hq := cond_inv hr
    clear hr
    rcases hq with ⟨rfl, hr⟩ | ⟨rfl, hr⟩
    · refine wo_skip (v := (.b true)) rfl rfl ?_
      refine wo_skip (v := (.b true)) rfl rfl ?_
      refine wo_skip (v := (.b true)) rfl rfl ?_
      refine wo_step (v := (.b true)) (s_pure (p_pickT rfl rfl)) ?_
      refine wo_nil ?_
      cases hr
      exact ⟨_, _, rfl, rfl, gl rfl, gl rfl, gl rfl, gl rfl⟩
    · have hq := bindO_inv hr
      clear hr
      obtain ⟨v10, e10, hr⟩ := hq
      refine wo_take (v := v10) rfl (s_pure (o_faddr rfl e10)) ?_
      have hq := bindO_inv hr
      clear hr
      obtain ⟨v11, e11, hr⟩ := hq
      have hq := asI_inv hr
      clear hr
      obtain ⟨x11, rfl, hr⟩ := hq
      refine wo_take (v := (.i .i64 x11)) rfl (s_ld rfl e11) ?_
      have hq := forceB_inv hr
      clear hr
      obtain ⟨c12, e12, hr⟩ := hq
      refine wo_take (v := (.b c12)) rfl (s_pure (p_bin rfl rfl (b_eql.trans (cb e12)))) ?_
      refine wo_step (v := (.b c12)) (s_pure (p_pickF rfl rfl)) ?_
      refine wo_nil ?_
      cases hr
      exact ⟨_, _, rfl, rfl, gl rfl, gl rfl, gl rfl, gl rfl⟩
  · clear hr
    have hr := hk
    clear hk
    obtain ⟨c13, ho⟩ : ∃ z, z = o := ⟨_, rfl⟩
    subst ho
    rintro mm t_1 ⟨rfl, g13, g2, g3, g4⟩
    refine wo_nil ?_
    refine nx_norm ?_
    have hq := cond_inv hr
    clear hr
    rcases hq with ⟨rfl, hr⟩ | ⟨rfl, hr⟩
    · refine w_condT g13 ?_
      refine w_seq ?_
      refine w_ops ?_
      have hq := bindO_inv hr
      clear hr
      obtain ⟨v14, e14, hr⟩ := hq
      refine wo_step (v := v14) (s_ld g2 e14) ?_
      have hq := bindP_inv hr
      clear hr
      obtain ⟨vn, m_4, en, hr⟩ := hq
      refine wo_stepN (s_st g4 rfl en) ?_
      refine wo_nil ?_
      refine nx_norm ?_
      refine w_ret ?_
      refine nx_ret ?_
      have hq := bindO_inv hr
      clear hr
      obtain ⟨vr, er, hr⟩ := hq
      exact qf ret_ok (rc g4 er rn) hr
    · refine w_condF g13 ?_
      refine w_skip ?_
      refine nx_norm ?_
      refine w_seq ?_
      refine w_ops ?_
      have hq := bindO_inv hr
      clear hr
      obtain ⟨v15, e15, hr⟩ := hq
      refine wo_step (v := v15) (s_pure (o_faddr g3 e15)) ?_
      have hq := bindO_inv hr
      clear hr
      obtain ⟨v16, e16, hr⟩ := hq
      have hq := asI_inv hr
      clear hr
      obtain ⟨x16, rfl, hr⟩ := hq
      refine wo_step (v := (.i .i64 x16)) (s_ld rfl e16) ?_
      have hq := bindO_inv hr
      clear hr
      obtain ⟨v17, e17, hr⟩ := hq
      refine wo_step (v := v17) (s_pure (o_faddr g2 e17)) ?_
      have hq := bindO_inv hr
      clear hr
      obtain ⟨v18, e18, hr⟩ := hq
      have hq := asI_inv hr
      clear hr
      obtain ⟨x18, rfl, hr⟩ := hq
      refine wo_step (v := (.i .i64 x18)) (s_ld rfl e18) ?_
      have hq := forceB_inv hr
      clear hr
      obtain ⟨c19, e19, hr⟩ := hq
      refine wo_step (v := (.b c19)) (s_pure (p_bin rfl rfl (b_lss.trans (cb e19)))) ?_
      refine wo_step (v := (.b c19)) (s_pure (p_mv rfl)) ?_
      refine wo_nil ?_
      refine nx_norm ?_
      refine w_seq ?_
      refine w_seq ?_
      refine w_ops ?_
      have hq := bindO_inv hr
      clear hr
      obtain ⟨v20, e20, hr⟩ := hq
      refine wo_step (v := v20) (s_pure (o_faddr g3 e20)) ?_
      have hq := bindO_inv hr
      clear hr
      obtain ⟨v21, e21, hr⟩ := hq
      have hq := asI_inv hr
      clear hr
      obtain ⟨x21, rfl, hr⟩ := hq
      refine wo_step (v := (.i .i64 x21)) (s_ld rfl e21) ?_
      have hq := bindO_inv hr
      clear hr
      obtain ⟨v22, e22, hr⟩ := hq
      refine wo_step (v := v22) (s_pure (o_faddr g2 e22)) ?_
      have hq := bindO_inv hr
      clear hr
      obtain ⟨v23, e23, hr⟩ := hq
      have hq := asI_inv hr
      clear hr
      obtain ⟨x23, rfl, hr⟩ := hq
      refine wo_step (v := (.i .i64 x23)) (s_ld rfl e23) ?_
      have hq := forceB_inv hr
      clear hr
      obtain ⟨c24, e24, hr⟩ := hq
      refine wo_step (v := (.b c24)) (s_pure (p_bin rfl rfl (b_eql.trans (cb e24)))) ?_
      refine wo_nil ?_
      refine nx_norm ?_
      have hq := bindO_inv hr
      clear hr
      obtain ⟨o_1, hr, hk⟩ := hq
      refine jp_mono (J := g67_J1 v2 v4 m_3 o_1) ?_ ?_
      · clear hk
        have hq := cond_inv hr
        clear hr
        rcases hq with ⟨rfl, hr⟩ | ⟨rfl, hr⟩
        · refine w_condT rfl ?_
          refine w_ops ?_
          have hq := bindO_inv hr
          clear hr
          obtain ⟨v25, e25, hr⟩ := hq
          refine wo_step (v := v25) (s_pure (o_faddr g2 e25)) ?_
          have hq := bindO_inv hr
          clear hr
          obtain ⟨v26, e26, hr⟩ := hq
          have hq := asI_inv hr
          clear hr
          obtain ⟨x26, rfl, hr⟩ := hq
          refine wo_step (v := (.i .i64 x26)) (s_ld rfl e26) ?_
          have hq := forceB_inv hr
          clear hr
          obtain ⟨c27, e27, hr⟩ := hq
          refine wo_step (v := (.b c27)) (s_pure (p_bin rfl rfl (b_eql.trans (cb e27)))) ?_
          refine wo_step (v := (.b c27)) (s_pure (p_mv rfl)) ?_
          have hq := bindO_inv hr
          clear hr
          obtain ⟨o_2, hr, hk⟩ := hq
          refine wo_join 6 (g67_J2 v2 v3 v4 m_3 o_2) ?_ ?_
          · clear hk
            have hq := cond_inv hr
            clear hr
            rcases hq with ⟨rfl, hr⟩ | ⟨rfl, hr⟩
            · refine wo_skip (v := (.b true)) rfl rfl ?_
              refine wo_skip (v := (.b true)) rfl rfl ?_
              refine wo_skip (v := (.b true)) rfl rfl ?_
              refine wo_skip (v := (.b true)) rfl rfl ?_
              refine wo_skip (v := (.b true)) rfl rfl ?_
              refine wo_step (v := (.b true)) (s_pure (p_pickT rfl rfl)) ?_
              refine wo_nil ?_
              cases hr
              exact ⟨_, _, rfl, rfl, gl rfl, gl g2, gl g3, gl g4⟩
            · have hq := bindO_inv hr
              clear hr
              obtain ⟨v29, e29, hr⟩ := hq
              refine wo_take (v := v29) rfl (s_pure (o_faddr g3 e29)) ?_
              have hq := bindO_inv hr
              clear hr
              obtain ⟨v30, e30, hr⟩ := hq
              have hq := asI_inv hr
              clear hr
              obtain ⟨x30, rfl, hr⟩ := hq
              refine wo_take (v := (.i .i64 x30)) rfl (s_ld rfl e30) ?_
              have hq := bindO_inv hr
              clear hr
              obtain ⟨v31, e31, hr⟩ := hq
              refine wo_take (v := v31) rfl (s_pure (o_faddr g2 e31)) ?_
              have hq := bindO_inv hr
              clear hr
              obtain ⟨v32, e32, hr⟩ := hq
              have hq := asI_inv hr
              clear hr
              obtain ⟨x32, rfl, hr⟩ := hq
              refine wo_take (v := (.i .i64 x32)) rfl (s_ld rfl e32) ?_
              have hq := forceB_inv hr
              clear hr
              obtain ⟨c33, e33, hr⟩ := hq
              refine wo_take (v := (.b c33)) rfl (s_pure (p_bin rfl rfl (b_lss.trans (cb e33)))) ?_
              refine wo_step (v := (.b c33)) (s_pure (p_pickF rfl rfl)) ?_
              refine wo_nil ?_
              cases hr
              exact ⟨_, _, rfl, rfl, gl rfl, gl g2, gl g3, gl g4⟩
          · clear hr
            have hr := hk
            clear hk
            obtain ⟨c34, ho⟩ : ∃ z, z = o_2 := ⟨_, rfl⟩
            subst ho
            rintro mm_1 t_2 ⟨rfl, g34, g2, g3, g4⟩
            refine wo_step (v := (.b c34)) (s_pure (p_mv g34)) ?_
            have hq := bindO_inv hr
            clear hr
            obtain ⟨o_3, hr, hk⟩ := hq
            refine wo_join 13 (g67_J3 v2 v4 m_3 o_3) ?_ ?_
            · clear hk
              have hq := cond_inv hr
              clear hr
              rcases hq with ⟨rfl, hr⟩ | ⟨rfl, hr⟩
              · refine wo_skip (v := (.b true)) rfl rfl ?_
                refine wo_skip (v := (.b true)) rfl rfl ?_
                refine wo_skip (v := (.b true)) rfl rfl ?_
                refine wo_skip (v := (.b true)) rfl rfl ?_
                refine wo_skip (v := (.b true)) rfl rfl ?_
                refine wo_skip (v := (.b true)) rfl rfl ?_
                refine wo_skip (v := und) rfl rfl ?_
                refine wo_skip (v := und) rfl rfl ?_
                refine wo_skip (v := und) rfl rfl ?_
                refine wo_skip (v := und) rfl rfl ?_
                refine wo_skip (v := und) rfl rfl ?_
                refine wo_skip (v := (.b true)) rfl rfl ?_
                refine wo_step (v := (.b true)) (s_pure (p_pickT rfl rfl)) ?_
                refine wo_nil ?_
                cases hr
                exact ⟨_, _, rfl, rfl, gl rfl, gl g2, gl g4⟩
              · have hq := bindO_inv hr
                clear hr
                obtain ⟨v36, e36, hr⟩ := hq
                refine wo_take (v := v36) rfl (s_pure (o_faddr g3 e36)) ?_
                have hq := bindO_inv hr
                clear hr
                obtain ⟨v37, e37, hr⟩ := hq
                have hq := asI_inv hr
                clear hr
                obtain ⟨x37, rfl, hr⟩ := hq
                refine wo_take (v := (.i .i64 x37)) rfl (s_ld rfl e37) ?_
                have hq := bindO_inv hr
                clear hr
                obtain ⟨v38, e38, hr⟩ := hq
                refine wo_take (v := v38) rfl (s_pure (o_faddr g2 e38)) ?_
                have hq := bindO_inv hr
                clear hr
                obtain ⟨v39, e39, hr⟩ := hq
                have hq := asI_inv hr
                clear hr
                obtain ⟨x39, rfl, hr⟩ := hq
                refine wo_take (v := (.i .i64 x39)) rfl (s_ld rfl e39) ?_
                have hq := forceB_inv hr
                clear hr
                obtain ⟨c40, e40, hr⟩ := hq
                refine wo_take (v := (.b c40)) rfl (s_pure (p_bin rfl rfl (b_eql.trans (cb e40)))) ?_
                refine wo_take (v := (.b c40)) rfl (s_pure (p_mv rfl)) ?_
                have hq := bindO_inv hr
                clear hr
                obtain ⟨o_4, hr, hk⟩ := hq
                refine wo_join 7 (g67_J4 v2 v4 m_3 o_4) ?_ ?_
                · clear hk
                  have hq := cond_inv hr
                  clear hr
                  rcases hq with ⟨rfl, hr⟩ | ⟨rfl, hr⟩
                  · have hq := bindO_inv hr
                    clear hr
                    obtain ⟨v42, e42, hr⟩ := hq
                    refine wo_take (v := v42) rfl (s_pure (o_faddr g2 e42)) ?_
                    have hq := bindO_inv hr
                    clear hr
                    obtain ⟨v43, e43, hr⟩ := hq
                    have hq := asI_inv hr
                    clear hr
                    obtain ⟨x43, rfl, hr⟩ := hq
                    refine wo_take (v := (.i .u8 x43)) rfl (s_ld rfl e43) ?_
                    have hq := bindO_inv hr
                    clear hr
                    obtain ⟨v44, e44, hr⟩ := hq
                    refine wo_take (v := v44) rfl (s_pure (o_faddr g3 e44)) ?_
                    have hq := bindO_inv hr
                    clear hr
                    obtain ⟨v45, e45, hr⟩ := hq
                    have hq := asI_inv hr
                    clear hr
                    obtain ⟨x45, rfl, hr⟩ := hq
                    refine wo_take (v := (.i .u8 x45)) rfl (s_ld rfl e45) ?_
                    have hq := forceB_inv hr
                    clear hr
                    obtain ⟨c46, e46, hr⟩ := hq
                    refine wo_take (v := (.b c46)) rfl (s_pure (p_bin rfl rfl (b_gtr.trans (cb e46)))) ?_
                    refine wo_take (v := (.b c46)) rfl (s_pure (p_pickT rfl rfl)) ?_
                    refine wo_step (v := (.b c46)) (s_pure (p_pickF rfl rfl)) ?_
                    refine wo_nil ?_
                    cases hr
                    exact ⟨_, _, rfl, rfl, gl rfl, gl g2, gl g4⟩
                  · refine wo_skip (v := (.b false)) rfl rfl ?_
                    refine wo_skip (v := (.b false)) rfl rfl ?_
                    refine wo_skip (v := (.b false)) rfl rfl ?_
                    refine wo_skip (v := (.b false)) rfl rfl ?_
                    refine wo_skip (v := (.b false)) rfl rfl ?_
                    refine wo_take (v := (.b false)) rfl (s_pure (p_pickF rfl rfl)) ?_
                    refine wo_step (v := (.b false)) (s_pure (p_pickF rfl rfl)) ?_
                    refine wo_nil ?_
                    cases hr
                    exact ⟨_, _, rfl, rfl, gl rfl, gl g2, gl g4⟩
                · clear hr
                  have hr := hk
                  clear hk
                  obtain ⟨c48_1, ho⟩ : ∃ z, z = o_4 := ⟨_, rfl⟩
                  subst ho
                  rintro mm_2 t_3 ⟨rfl, g48, g2, g4⟩
                  refine wo_nil ?_
                  cases hr
                  exact ⟨_, _, rfl, rfl, gl g48, gl g2, gl g4⟩
            · clear hr
              have hr := hk
              clear hk
              obtain ⟨c48, ho⟩ : ∃ z, z = o_3 := ⟨_, rfl⟩
              subst ho
              rintro mm_3 t_4 ⟨rfl, g48, g2, g4⟩
              refine wo_step (v := (.b c48)) (s_pure (p_mv g48)) ?_
              refine wo_nil ?_
              cases hr
              exact ⟨_, _, rfl, rfl, rfl, gl rfl, gl g2, gl g4⟩
        · refine w_condF rfl ?_
          refine w_skip ?_
          cases hr
          exact ⟨_, _, rfl, rfl, rfl, gl rfl, gl g2, gl g4⟩
      · clear hr
        have hr := hk
        clear hk
        obtain ⟨c5, ho⟩ : ∃ z, z = o_1 := ⟨_, rfl⟩
        subst ho
        rintro _ mm_5 t_5 ⟨rfl, rfl, g5, g2, g4⟩
        refine nx_norm ?_
        refine w_seq ?_
        refine w_seq ?_
        refine w_ops ?_
        refine wo_step (v := (.b c5)) (s_pure (p_mv g5)) ?_
        refine wo_nil ?_
        refine nx_norm ?_
        have hq := bindO_inv hr
        clear hr
        obtain ⟨o_5, hr, hk⟩ := hq
        refine jp_mono (J := g67_J5 v2 v4 o_5) ?_ ?_
        · clear hk
          have hq := cond_inv hr
          clear hr
          rcases hq with ⟨rfl, hr⟩ | ⟨rfl, hr⟩
          · refine w_condT rfl ?_
            refine w_ops ?_
            have hq := bindO_inv hr
            clear hr
            obtain ⟨v50, e50, hr⟩ := hq
            refine wo_step (v := v50) (s_pure (o_faddr g2 e50)) ?_
            have hq := bindO_inv hr
            clear hr
            obtain ⟨v51, e51, hr⟩ := hq
            have hq := asI_inv hr
            clear hr
            obtain ⟨x51, rfl, hr⟩ := hq
            refine wo_step (v := (.i .i64 x51)) (s_ld rfl e51) ?_
            have hq := forceI_inv hr
            clear hr
            obtain ⟨x52, e52, hr⟩ := hq
            refine wo_step (v := (.i .i64 x52)) (s_pure (p_bin rfl rfl (b_add.trans (ci e52)))) ?_
            have hq := bindO_inv hr
            clear hr
            obtain ⟨v53, e53, hr⟩ := hq
            refine wo_step (v := v53) (s_pure (o_faddr g2 e53)) ?_
            have hq := bindP_inv hr
            clear hr
            obtain ⟨vn_1, m_5, en_1, hr⟩ := hq
            refine wo_stepN (s_st rfl rfl en_1) ?_
            refine wo_nil ?_
            cases hr
            exact ⟨_, _, rfl, rfl, rfl, gl g2, gl g4⟩
          · refine w_condF rfl ?_
            refine w_skip ?_
            cases hr
            exact ⟨_, _, rfl, rfl, rfl, gl g2, gl g4⟩
        · clear hr
          have hr := hk
          clear hk
          obtain ⟨m_6, ho⟩ : ∃ z, z = o_5 := ⟨_, rfl⟩
          subst ho
          rintro _ mm_4 t_6 ⟨rfl, rfl, g2, g4⟩
          refine nx_norm ?_
          refine w_seq ?_
          refine w_ops ?_
          have hq := bindO_inv hr
          clear hr
          obtain ⟨v54, e54, hr⟩ := hq
          refine wo_step (v := v54) (s_ld g2 e54) ?_
          have hq := bindP_inv hr
          clear hr
          obtain ⟨vn_2, m_7, en_2, hr⟩ := hq
          refine wo_stepN (s_st g4 rfl en_2) ?_
          refine wo_nil ?_
          refine nx_norm ?_
          refine w_ret ?_
          have hq := bindO_inv hr
          clear hr
          obtain ⟨vr_1, er_1, hr⟩ := hq
          exact qf ret_ok (rc g4 er_1 rn) hr

/- dibber/note.isLetter -/
abbrev g76_J0 (m0 : Mm) (o : Bool) (m1 : Mm) (t1 : Tr) : Prop :=
  match o with
  | c8 => m0 = m1 ∧ t1.get 8 = (.b c8)
def g76 (M : Means) (ro : List ABlk) (x0 : Int) (m0 : Mm) : Option (AVal × Heap × Nat × Nat) :=
  forceB (!ltI x0 97) fun c4 =>
  bindO (cond c4 (
    forceB (!ltI 122 x0) fun c7 =>
    some c7) (
    some false)) fun c8 =>
  finM m0.h.length (tupA [(.b c8)]) m0

theorem g76_ok {ro : List ABlk} {O : Caller} {M : Means} (hM : M.Ok ⟨F, O⟩ ro) {x0 h r} (ho : O 76 [(.i .u8 x0)] h = none) (hr : g76 M ro x0 ⟨h, h.length, h.length⟩ = some r) : callX ⟨F, O⟩ ro 76 [(.i .u8 x0)] h = some r := by
  refine callX_of (F := ⟨F, O⟩) (fn := fn76) (g := g76 M ro x0) ho rfl rfl hr ?_
  clear ho
  clear hr
  intro m0 t0 ht hr
  have g0 : t0.get 0 = (.i .u8 x0) := ht 0
  clear ht
  unfold g76 at hr
  refine w_seq ?_
  refine w_ops ?_
  refine wo_step (v := (.b false)) (s_pure (p_mv rfl)) ?_
  refine wo_nil ?_
  refine nx_norm ?_
  refine w_seq ?_
  refine w_ops ?_
  refine wo_step (v := (.i .u8 x0)) (s_pure (p_mv g0)) ?_
  have hq := forceB_inv hr
  clear hr
  obtain ⟨c4, e4, hr⟩ := hq
  refine wo_step (v := (.b c4)) (s_pure (p_bin rfl rfl (b_leq.trans (cb e4)))) ?_
  refine wo_step (v := (.b c4)) (s_pure (p_mv rfl)) ?_
  have hq := bindO_inv hr
  clear hr
  obtain ⟨o, hr, hk⟩ := hq
  refine wo_join 3 (g76_J0 m0 o) ?_ ?_
  · clear hk
    have hq := cond_inv hr
    clear hr
    rcases hq with ⟨rfl, hr⟩ | ⟨rfl, hr⟩
    · refine wo_take (v := (.i .u8 x0)) rfl (s_pure (p_mv g0)) ?_
      have hq := forceB_inv hr
      clear hr
      obtain ⟨c7, e7, hr⟩ := hq
      refine wo_take (v := (.b c7)) rfl (s_pure (p_bin rfl rfl (b_leq.trans (cb e7)))) ?_
      refine wo_step (v := (.b c7)) (s_pure (p_pickT rfl rfl)) ?_
      refine wo_nil ?_
      cases hr
      exact ⟨_, _, rfl, rfl, gl rfl⟩
    · refine wo_skip (v := (.b false)) rfl rfl ?_
      refine wo_skip (v := (.b false)) rfl rfl ?_
      refine wo_step (v := (.b false)) (s_pure (p_pickF rfl rfl)) ?_
      refine wo_nil ?_
      cases hr
      exact ⟨_, _, rfl, rfl, gl rfl⟩
  · clear hr
    have hr := hk
    clear hk
    obtain ⟨c8, ho⟩ : ∃ z, z = o := ⟨_, rfl⟩
    subst ho
    rintro mm t_1 ⟨rfl, g8⟩
    refine wo_step (v := (.b c8)) (s_pure (p_mv g8)) ?_
    refine wo_nil ?_
    refine nx_norm ?_
    refine w_ret ?_
    exact qf ret_ok (rt rfl rn) hr

/- dibber/note.isFrom -/
abbrev g77_J0 (m0 : Mm) (o : Bool) (m1 : Mm) (t1 : Tr) : Prop :=
  match o with
  | c14 => m0 = m1 ∧ t1.get 14 = (.b c14)
def g77 (M : Means) (ro : List ABlk) (x0 : Int) (x1 : Int) (x2 : Int) (m0 : Mm) : Option (AVal × Heap × Nat × Nat) :=
  forceB (!ltI x1 x0) fun c9 =>
  bindO (cond c9 (
    forceB (!ltI x2 x1) fun c13 =>
    some c13) (
    some false)) fun c14 =>
  finM m0.h.length (tupA [(.b c14)]) m0

theorem g77_ok {ro : List ABlk} {O : Caller} {M : Means} (hM : M.Ok ⟨F, O⟩ ro) {x0 x1 x2 h r} (ho : O 77 [(.i .i64 x0), (.i .i64 x1), (.i .i64 x2)] h = none) (hr : g77 M ro x0 x1 x2 ⟨h, h.length, h.length⟩ = some r) : callX ⟨F, O⟩ ro 77 [(.i .i64 x0), (.i .i64 x1), (.i .i64 x2)] h = some r := by
  refine callX_of (F := ⟨F, O⟩) (fn := fn77) (g := g77 M ro x0 x1 x2) ho rfl rfl hr ?_
  clear ho
  clear hr
  intro m0 t0 ht hr
  have g0 : t0.get 0 = (.i .i64 x0) := ht 0
  have g1 : t0.get 1 = (.i .i64 x1) := ht 1
  have g2 : t0.get 2 = (.i .i64 x2) := ht 2
  clear ht
  unfold g77 at hr
  refine w_seq ?_
  refine w_ops ?_
  refine wo_step (v := (.b false)) (s_pure (p_mv rfl)) ?_
  refine wo_nil ?_
  refine nx_norm ?_
  refine w_seq ?_
  refine w_ops ?_
  refine wo_step (v := (.i .i64 x0)) (s_pure (p_mv g0)) ?_
  refine wo_step (v := (.i .i64 x1)) (s_pure (p_mv g1)) ?_
  have hq := forceB_inv hr
  clear hr
  obtain ⟨c9, e9, hr⟩ := hq
  refine wo_step (v := (.b c9)) (s_pure (p_bin rfl rfl (b_leq.trans (cb e9)))) ?_
  refine wo_step (v := (.b c9)) (s_pure (p_mv rfl)) ?_
  have hq := bindO_inv hr
  clear hr
  obtain ⟨o, hr, hk⟩ := hq
  refine wo_join 4 (g77_J0 m0 o) ?_ ?_
  · clear hk
    have hq := cond_inv hr
    clear hr
    rcases hq with ⟨rfl, hr⟩ | ⟨rfl, hr⟩
    · refine wo_take (v := (.i .i64 x1)) rfl (s_pure (p_mv g1)) ?_
      refine wo_take (v := (.i .i64 x2)) rfl (s_pure (p_mv g2)) ?_
      have hq := forceB_inv hr
      clear hr
      obtain ⟨c13, e13, hr⟩ := hq
      refine wo_take (v := (.b c13)) rfl (s_pure (p_bin rfl rfl (b_leq.trans (cb e13)))) ?_
      refine wo_step (v := (.b c13)) (s_pure (p_pickT rfl rfl)) ?_
      refine wo_nil ?_
      cases hr
      exact ⟨_, _, rfl, rfl, gl rfl⟩
    · refine wo_skip (v := (.b false)) rfl rfl ?_
      refine wo_skip (v := (.b false)) rfl rfl ?_
      refine wo_skip (v := (.b false)) rfl rfl ?_
      refine wo_step (v := (.b false)) (s_pure (p_pickF rfl rfl)) ?_
      refine wo_nil ?_
      cases hr
      exact ⟨_, _, rfl, rfl, gl rfl⟩
  · clear hr
    have hr := hk
    clear hk
    obtain ⟨c14, ho⟩ : ∃ z, z = o := ⟨_, rfl⟩
    subst ho
    rintro mm t_1 ⟨rfl, g14⟩
    refine wo_step (v := (.b c14)) (s_pure (p_mv g14)) ?_
    refine wo_nil ?_
    refine nx_norm ?_
    refine w_ret ?_
    exact qf ret_ok (rt rfl rn) hr

/- dibber/note.asItIs -/

def g96 (M : Means) (ro : List ABlk) (v0 : AVal) (v1 : AVal) (m0 : Mm) : Option (AVal × Heap × Nat × Nat) :=
  bindP (stepM ro m0 (.bx 24 4 (.c v0))) fun v2 m_1 =>
  bindP (stepM ro m_1 (.bx 24 4 (.c v1))) fun v3 m_2 =>
  bindP (stepM ro m_2 (.al 24 [(AVal.i IntKind.i64 0), (AVal.i IntKind.i64 0), (AVal.i IntKind.u8 0), (AVal.i IntKind.i64 0)])) fun v4 m_3 =>
  bindO (ldM ro m_3 false 4 v2) fun v5 =>
  bindP (stepM ro m_3 (.st 4 (.c v4) (.c v5))) fun vn m_4 =>
  bindO (ldM ro m_4 false 4 v4) fun vr =>
  finM m0.h.length (tupA [vr]) m_4

theorem g96_ok {ro : List ABlk} {O : Caller} {M : Means} (hM : M.Ok ⟨F, O⟩ ro) {v0 v1 h r} (ho : O 96 [v0, v1] h = none) (hr : g96 M ro v0 v1 ⟨h, h.length, h.length⟩ = some r) : callX ⟨F, O⟩ ro 96 [v0, v1] h = some r := by
  refine callX_of (F := ⟨F, O⟩) (fn := fn96) (g := g96 M ro v0 v1) ho rfl rfl hr ?_
  clear ho
  clear hr
  intro m0 t0 ht hr
  have g0 : t0.get 0 = v0 := ht 0
  have g1 : t0.get 1 = v1 := ht 1
  clear ht
  unfold g96 at hr
  refine w_seq ?_
  refine w_ops ?_
  have hq := bindP_inv hr
  clear hr
  obtain ⟨v2, m_1, e2, hr⟩ := hq
  refine wo_step (v := v2) (s_bx g0 e2) ?_
  have hq := bindP_inv hr
  clear hr
  obtain ⟨v3, m_2, e3, hr⟩ := hq
  refine wo_step (v := v3) (s_bx g1 e3) ?_
  have hq := bindP_inv hr
  clear hr
  obtain ⟨v4, m_3, e4, hr⟩ := hq
  refine wo_step (v := v4) (s_al e4) ?_
  refine wo_nil ?_
  refine nx_norm ?_
  refine w_seq ?_
  refine w_ops ?_
  have hq := bindO_inv hr
  clear hr
  obtain ⟨v5, e5, hr⟩ := hq
  refine wo_step (v := v5) (s_ld rfl e5) ?_
  have hq := bindP_inv hr
  clear hr
  obtain ⟨vn, m_4, en, hr⟩ := hq
  refine wo_stepN (s_st rfl rfl en) ?_
  refine wo_nil ?_
  refine nx_norm ?_
  refine w_ret ?_
  have hq := bindO_inv hr
  clear hr
  obtain ⟨vr, er, hr⟩ := hq
  exact qf ret_ok (rc rfl er rn) hr

/- dibber/note.putAgainstPut -/
abbrev g97_J0 (v2 : AVal) (v4 : AVal) (o : Mm) (e : AExit) (m1 : Mm) (t1 : Tr) : Prop :=
  match o with
  | mo => e = .norm ∧ mo = m1 ∧ t1.get 2 = v2 ∧ t1.get 4 = v4
def g97 (M : Means) (ro : List ABlk) (v0 : AVal) (v1 : AVal) (m0 : Mm) : Option (AVal × Heap × Nat × Nat) :=
  bindP (stepM ro m0 (.bx 24 4 (.c v0))) fun v2 m_1 =>
  bindP (stepM ro m_1 (.bx 24 4 (.c v1))) fun v3 m_2 =>
  bindP (stepM ro m_2 (.al 24 [(AVal.i IntKind.i64 0), (AVal.i IntKind.i64 0), (AVal.i IntKind.u8 0), (AVal.i IntKind.i64 0)])) fun v4 m_3 =>
  bindO (some (Mm.base m_3)) fun m_4 =>
  bindO (evP .e (.faddr 1 (.c v3))) fun v5 =>
  bindO (ldM ro m_4 true 1 v5) fun v6 =>
  asI .i64 v6 fun x6 =>
  bindO (evP .e (.faddr 1 (.c v2))) fun v7 =>
  bindO (ldM ro m_4 true 1 v7) fun v8 =>
  asI .i64 v8 fun x8 =>
  bindP (callM M.call m_4 100 [(.i .i64 x6), (.i .i64 x8)]) fun v9 m_5 =>
  asI .i64 v9 fun x9 =>
  chk (!Nat.blt m_5.lw m_3.h.length) <|
  bindO (evP .e (.faddr 3 (.c v3))) fun v10 =>
  bindO (ldA ro m_3.h true 1 v10) fun v11 =>
  asI .i64 v11 fun x11 =>
  bindO (evP .e (.faddr 3 (.c v2))) fun v12 =>
  bindO (ldA ro m_3.h true 1 v12) fun v13 =>
  asI .i64 v13 fun x13 =>
  bindP (callM M.call m_5 100 [(.i .i64 x11), (.i .i64 x13)]) fun v14 m_6 =>
  asI .i64 v14 fun x14 =>
  chk (!Nat.blt m_6.lw m_3.h.length) <|
  bindO (evP .e (.faddr 2 (.c v3))) fun v15 =>
  bindO (ldA ro m_3.h true 1 v15) fun v16 =>
  asI .u8 v16 fun x16 =>
  bindO (evP .e (.faddr 2 (.c v2))) fun v17 =>
  bindO (ldA ro m_3.h true 1 v17) fun v18 =>
  asI .u8 v18 fun x18 =>
  bindP (callM M.call m_6 101 [(.i .u8 x16), (.i .u8 x18)]) fun v19 m_7 =>
  asI .i64 v19 fun x19 =>
  bindP (stepM ro m_7 (.bsl 3 1 [(AVal.i IntKind.i64 0)] 3 [((0, 1), .c (.i .i64 x9)), ((1, 1), .c (.i .i64 x14)), ((2, 1), .c (.i .i64 x19))])) fun v20 m_8 =>
  bindP (callM M.call m_8 99 [v20]) fun v21 m_9 =>
  asI .i64 v21 fun x21 =>
  forceB (ltI x21 0) fun c22 =>
  bindO (some (Mm.join m_3 m_9)) fun m_10 =>
  bindO (α := Mm) (
    cond c22 (
      bindO (evP .e (.faddr 1 (.c v2))) fun v23 =>
      bindO (ldM ro m_10 true 1 v23) fun v24 =>
      asI .i64 v24 fun x24 =>
      forceI (wr .i64 (x24 + 1)) fun x25 =>
      bindO (evP .e (.faddr 1 (.c v2))) fun v26 =>
      bindP (stepM ro m_10 (.st 1 (.c v26) (.c (.i .i64 x25)))) fun vn m_11 =>
      some m_11) (
      some m_10)) fun m_12 =>
  bindO (ldM ro m_12 false 4 v2) fun v27 =>
  bindP (stepM ro m_12 (.st 4 (.c v4) (.c v27))) fun vn_1 m_13 =>
  bindO (ldM ro m_13 false 4 v4) fun vr =>
  finM m0.h.length (tupA [vr]) m_13

theorem g97_ok {ro : List ABlk} {O : Caller} {M : Means} (hM : M.Ok ⟨F, O⟩ ro) {v0 v1 h r} (ho : O 97 [v0, v1] h = none) (hr : g97 M ro v0 v1 ⟨h, h.length, h.length⟩ = some r) : callX ⟨F, O⟩ ro 97 [v0, v1] h = some r := by
  refine callX_of (F := ⟨F, O⟩) (fn := fn97) (g := g97 M ro v0 v1) ho rfl rfl hr ?_
  clear ho
  clear hr
  intro m0 t0 ht hr
  have g0 : t0.get 0 = v0 := ht 0
  have g1 : t0.get 1 = v1 := ht 1
  clear ht
  unfold g97 at hr
  refine w_seq ?_
  refine w_ops ?_
  have hq := bindP_inv hr
  clear hr
  obtain ⟨v2, m_1, e2, hr⟩ := hq
  refine wo_step (v := v2) (s_bx g0 e2) ?_
  have hq := bindP_inv hr
  clear hr
  obtain ⟨v3, m_2, e3, hr⟩ := hq
  refine wo_step (v := v3) (s_bx g1 e3) ?_
  have hq := bindP_inv hr
  clear hr
  obtain ⟨v4, m_3, e4, hr⟩ := hq
  refine wo_step (v := v4) (s_al e4) ?_
  refine wo_nil ?_
  refine nx_norm ?_
  refine w_seq ?_
  refine w_seq ?_
  have hq := bindO_inv hr
  clear hr
  obtain ⟨m_4, ef, hr⟩ := hq
  refine w_flt (af := true) rfl ef ?_
  have hq := bindO_inv hr
  clear hr
  obtain ⟨v5, e5, hr⟩ := hq
  refine wf_step (v := v5) (f_P rfl (s_pure (o_faddr rfl e5))) ?_
  have hq := bindO_inv hr
  clear hr
  obtain ⟨v6, e6, hr⟩ := hq
  have hq := asI_inv hr
  clear hr
  obtain ⟨x6, rfl, hr⟩ := hq
  refine wf_step (v := (.i .i64 x6)) (f_P rfl (s_ld rfl e6)) ?_
  have hq := bindO_inv hr
  clear hr
  obtain ⟨v7, e7, hr⟩ := hq
  refine wf_step (v := v7) (f_P rfl (s_pure (o_faddr rfl e7))) ?_
  have hq := bindO_inv hr
  clear hr
  obtain ⟨v8, e8, hr⟩ := hq
  have hq := asI_inv hr
  clear hr
  obtain ⟨x8, rfl, hr⟩ := hq
  refine wf_step (v := (.i .i64 x8)) (f_P rfl (s_ld rfl e8)) ?_
  have hq := bindP_inv hr
  clear hr
  obtain ⟨v9, m_5, e9, hr⟩ := hq
  have hq := asI_inv hr
  clear hr
  obtain ⟨x9, rfl, hr⟩ := hq
  have hq := chk_inv hr
  clear hr
  obtain ⟨hc9, hr⟩ := hq
  refine wf_step (v := (.i .i64 x9)) (f_M hc9 (s_call (mc rfl (mc rfl mn)) (callM_le hM.call e9))) ?_
  have hq := bindO_inv hr
  clear hr
  obtain ⟨v10, e10, hr⟩ := hq
  refine wf_step (v := v10) (f_P rfl (s_pure (o_faddr rfl e10))) ?_
  have hq := bindO_inv hr
  clear hr
  obtain ⟨v11, e11, hr⟩ := hq
  have hq := asI_inv hr
  clear hr
  obtain ⟨x11, rfl, hr⟩ := hq
  refine wf_step (v := (.i .i64 x11)) (f_ld rfl e11) ?_
  have hq := bindO_inv hr
  clear hr
  obtain ⟨v12, e12, hr⟩ := hq
  refine wf_step (v := v12) (f_P rfl (s_pure (o_faddr rfl e12))) ?_
  have hq := bindO_inv hr
  clear hr
  obtain ⟨v13, e13, hr⟩ := hq
  have hq := asI_inv hr
  clear hr
  obtain ⟨x13, rfl, hr⟩ := hq
  refine wf_step (v := (.i .i64 x13)) (f_ld rfl e13) ?_
  have hq := bindP_inv hr
  clear hr
  obtain ⟨v14, m_6, e14, hr⟩ := hq
  have hq := asI_inv hr
  clear hr
  obtain ⟨x14, rfl, hr⟩ := hq
  have hq := chk_inv hr
  clear hr
  obtain ⟨hc14, hr⟩ := hq
  refine wf_step (v := (.i .i64 x14)) (f_M hc14 (s_call (mc rfl (mc rfl mn)) (callM_le hM.call e14))) ?_
  have hq := bindO_inv hr
  clear hr
  obtain ⟨v15, e15, hr⟩ := hq
  refine wf_step (v := v15) (f_P rfl (s_pure (o_faddr rfl e15))) ?_
  have hq := bindO_inv hr
  clear hr
  obtain ⟨v16, e16, hr⟩ := hq
  have hq := asI_inv hr
  clear hr
  obtain ⟨x16, rfl, hr⟩ := hq
  refine wf_step (v := (.i .u8 x16)) (f_ld rfl e16) ?_
  have hq := bindO_inv hr
  clear hr
  obtain ⟨v17, e17, hr⟩ := hq
  refine wf_step (v := v17) (f_P rfl (s_pure (o_faddr rfl e17))) ?_
  have hq := bindO_inv hr
  clear hr
  obtain ⟨v18, e18, hr⟩ := hq
  have hq := asI_inv hr
  clear hr
  obtain ⟨x18, rfl, hr⟩ := hq
  refine wf_step (v := (.i .u8 x18)) (f_ld rfl e18) ?_
  have hq := bindP_inv hr
  clear hr
  obtain ⟨v19, m_7, e19, hr⟩ := hq
  have hq := asI_inv hr
  clear hr
  obtain ⟨x19, rfl, hr⟩ := hq
  refine wf_step (v := (.i .i64 x19)) (f_F rfl (s_call (mc rfl (mc rfl mn)) (callM_le hM.call e19))) ?_
  have hq := bindP_inv hr
  clear hr
  obtain ⟨v20, m_8, e20, hr⟩ := hq
  refine wf_step (v := v20) (f_F rfl (s_bsl (qc rfl (qc rfl (qc rfl qn))) e20)) ?_
  have hq := bindP_inv hr
  clear hr
  obtain ⟨v21, m_9, e21, hr⟩ := hq
  have hq := asI_inv hr
  clear hr
  obtain ⟨x21, rfl, hr⟩ := hq
  refine wf_step (v := (.i .i64 x21)) (f_F rfl (s_call (mc rfl mn) (callM_le hM.call e21))) ?_
  have hq := forceB_inv hr
  clear hr
  obtain ⟨c22, e22, hr⟩ := hq
  refine wf_step (v := (.b c22)) (f_P rfl (s_pure (p_bin rfl rfl (b_lss.trans (cb e22))))) ?_
  have hq := bindO_inv hr
  clear hr
  obtain ⟨m_10, ef_1, hr⟩ := hq
  refine wf_end ef_1 ?_
  refine nx_norm ?_
  have hq := bindO_inv hr
  clear hr
  obtain ⟨o, hr, hk⟩ := hq
  refine jp_mono (J := g97_J0 v2 v4 o) ?_ ?_
  · clear hk
    have hq := cond_inv hr
    clear hr
    rcases hq with ⟨rfl, hr⟩ | ⟨rfl, hr⟩
    · refine w_condT rfl ?_
      refine w_ops ?_
      have hq := bindO_inv hr
      clear hr
      obtain ⟨v23, e23, hr⟩ := hq
      refine wo_step (v := v23) (s_pure (o_faddr rfl e23)) ?_
      have hq := bindO_inv hr
      clear hr
      obtain ⟨v24, e24, hr⟩ := hq
      have hq := asI_inv hr
      clear hr
      obtain ⟨x24, rfl, hr⟩ := hq
      refine wo_step (v := (.i .i64 x24)) (s_ld rfl e24) ?_
      have hq := forceI_inv hr
      clear hr
      obtain ⟨x25, e25, hr⟩ := hq
      refine wo_step (v := (.i .i64 x25)) (s_pure (p_bin rfl rfl (b_add.trans (ci e25)))) ?_
      have hq := bindO_inv hr
      clear hr
      obtain ⟨v26, e26, hr⟩ := hq
      refine wo_step (v := v26) (s_pure (o_faddr rfl e26)) ?_
      have hq := bindP_inv hr
      clear hr
      obtain ⟨vn, m_11, en, hr⟩ := hq
      refine wo_stepN (s_st rfl rfl en) ?_
      refine wo_nil ?_
      cases hr
      exact ⟨_, _, rfl, rfl, rfl, gl rfl, gl rfl⟩
    · refine w_condF rfl ?_
      refine w_skip ?_
      cases hr
      exact ⟨_, _, rfl, rfl, rfl, gl rfl, gl rfl⟩
  · clear hr
    have hr := hk
    clear hk
    obtain ⟨m_12, ho⟩ : ∃ z, z = o := ⟨_, rfl⟩
    subst ho
    rintro _ mm t_1 ⟨rfl, rfl, g2, g4⟩
    refine nx_norm ?_
    refine w_seq ?_
    refine w_ops ?_
    have hq := bindO_inv hr
    clear hr
    obtain ⟨v27, e27, hr⟩ := hq
    refine wo_step (v := v27) (s_ld g2 e27) ?_
    have hq := bindP_inv hr
    clear hr
    obtain ⟨vn_1, m_13, en_1, hr⟩ := hq
    refine wo_stepN (s_st g4 rfl en_1) ?_
    refine wo_nil ?_
    refine nx_norm ?_
    refine w_ret ?_
    have hq := bindO_inv hr
    clear hr
    obtain ⟨vr, er, hr⟩ := hq
    exact qf ret_ok (rc g4 er rn) hr

/- dibber/note.hideAgainstPut -/
abbrev g98_J0 (v2 : AVal) (v4 : AVal) (o : Mm) (e : AExit) (m1 : Mm) (t1 : Tr) : Prop :=
  match o with
  | mo => e = .norm ∧ mo = m1 ∧ t1.get 2 = v2 ∧ t1.get 4 = v4
def g98 (M : Means) (ro : List ABlk) (v0 : AVal) (v1 : AVal) (m0 : Mm) : Option (AVal × Heap × Nat × Nat) :=
  bindP (stepM ro m0 (.bx 24 4 (.c v0))) fun v2 m_1 =>
  bindP (stepM ro m_1 (.bx 24 4 (.c v1))) fun v3 m_2 =>
  bindP (stepM ro m_2 (.al 24 [(AVal.i IntKind.i64 0), (AVal.i IntKind.i64 0), (AVal.i IntKind.u8 0), (AVal.i IntKind.i64 0)])) fun v4 m_3 =>
  bindO (evP .e (.faddr 1 (.c v3))) fun v5 =>
  bindO (ldM ro m_3 true 1 v5) fun v6 =>
  asI .i64 v6 fun x6 =>
  bindO (evP .e (.faddr 1 (.c v2))) fun v7 =>
  bindO (ldM ro m_3 true 1 v7) fun v8 =>
  asI .i64 v8 fun x8 =>
  forceB (!ltI x8 x6) fun c9 =>
  bindO (α := Mm) (
    cond c9 (
      bindO (evP .e (.faddr 1 (.c v2))) fun v10 =>
      bindO (ldM ro m_3 true 1 v10) fun v11 =>
      asI .i64 v11 fun x11 =>
      forceI (wr .i64 (x11 + 1)) fun x12 =>
      bindO (evP .e (.faddr 1 (.c v2))) fun v13 =>
      bindP (stepM ro m_3 (.st 1 (.c v13) (.c (.i .i64 x12)))) fun vn m_4 =>
      some m_4) (
      some m_3)) fun m_5 =>
  bindO (ldM ro m_5 false 4 v2) fun v14 =>
  bindP (stepM ro m_5 (.st 4 (.c v4) (.c v14))) fun vn_1 m_6 =>
  bindO (ldM ro m_6 false 4 v4) fun vr =>
  finM m0.h.length (tupA [vr]) m_6

theorem g98_ok {ro : List ABlk} {O : Caller} {M : Means} (hM : M.Ok ⟨F, O⟩ ro) {v0 v1 h r} (ho : O 98 [v0, v1] h = none) (hr : g98 M ro v0 v1 ⟨h, h.length, h.length⟩ = some r) : callX ⟨F, O⟩ ro 98 [v0, v1] h = some r := by
  refine callX_of (F := ⟨F, O⟩) (fn := fn98) (g := g98 M ro v0 v1) ho rfl rfl hr ?_
  clear ho
  clear hr
  intro m0 t0 ht hr
  have g0 : t0.get 0 = v0 := ht 0
  have g1 : t0.get 1 = v1 := ht 1
  clear ht
  unfold g98 at hr
  refine w_seq ?_
  refine w_ops ?_
  have hq := bindP_inv hr
  clear hr
  obtain ⟨v2, m_1, e2, hr⟩ := hq
  refine wo_step (v := v2) (s_bx g0 e2) ?_
  have hq := bindP_inv hr
  clear hr
  obtain ⟨v3, m_2, e3, hr⟩ := hq
  refine wo_step (v := v3) (s_bx g1 e3) ?_
  have hq := bindP_inv hr
  clear hr
  obtain ⟨v4, m_3, e4, hr⟩ := hq
  refine wo_step (v := v4) (s_al e4) ?_
  refine wo_nil ?_
  refine nx_norm ?_
  refine w_seq ?_
  refine w_seq ?_
  refine w_ops ?_
  have hq := bindO_inv hr
  clear hr
  obtain ⟨v5, e5, hr⟩ := hq
  refine wo_step (v := v5) (s_pure (o_faddr rfl e5)) ?_
  have hq := bindO_inv hr
  clear hr
  obtain ⟨v6, e6, hr⟩ := hq
  have hq := asI_inv hr
  clear hr
  obtain ⟨x6, rfl, hr⟩ := hq
  refine wo_step (v := (.i .i64 x6)) (s_ld rfl e6) ?_
  have hq := bindO_inv hr
  clear hr
  obtain ⟨v7, e7, hr⟩ := hq
  refine wo_step (v := v7) (s_pure (o_faddr rfl e7)) ?_
  have hq := bindO_inv hr
  clear hr
  obtain ⟨v8, e8, hr⟩ := hq
  have hq := asI_inv hr
  clear hr
  obtain ⟨x8, rfl, hr⟩ := hq
  refine wo_step (v := (.i .i64 x8)) (s_ld rfl e8) ?_
  have hq := forceB_inv hr
  clear hr
  obtain ⟨c9, e9, hr⟩ := hq
  refine wo_step (v := (.b c9)) (s_pure (p_bin rfl rfl (b_leq.trans (cb e9)))) ?_
  refine wo_nil ?_
  refine nx_norm ?_
  have hq := bindO_inv hr
  clear hr
  obtain ⟨o, hr, hk⟩ := hq
  refine jp_mono (J := g98_J0 v2 v4 o) ?_ ?_
  · clear hk
    have hq := cond_inv hr
    clear hr
    rcases hq with ⟨rfl, hr⟩ | ⟨rfl, hr⟩
    · refine w_condT rfl ?_
      refine w_ops ?_
      have hq := bindO_inv hr
      clear hr
      obtain ⟨v10, e10, hr⟩ := hq
      refine wo_step (v := v10) (s_pure (o_faddr rfl e10)) ?_
      have hq := bindO_inv hr
      clear hr
      obtain ⟨v11, e11, hr⟩ := hq
      have hq := asI_inv hr
      clear hr
      obtain ⟨x11, rfl, hr⟩ := hq
      refine wo_step (v := (.i .i64 x11)) (s_ld rfl e11) ?_
      have hq := forceI_inv hr
      clear hr
      obtain ⟨x12, e12, hr⟩ := hq
      refine wo_step (v := (.i .i64 x12)) (s_pure (p_bin rfl rfl (b_add.trans (ci e12)))) ?_
      have hq := bindO_inv hr
      clear hr
      obtain ⟨v13, e13, hr⟩ := hq
      refine wo_step (v := v13) (s_pure (o_faddr rfl e13)) ?_
      have hq := bindP_inv hr
      clear hr
      obtain ⟨vn, m_4, en, hr⟩ := hq
      refine wo_stepN (s_st rfl rfl en) ?_
      refine wo_nil ?_
      cases hr
      exact ⟨_, _, rfl, rfl, rfl, gl rfl, gl rfl⟩
    · refine w_condF rfl ?_
      refine w_skip ?_
      cases hr
      exact ⟨_, _, rfl, rfl, rfl, gl rfl, gl rfl⟩
  · clear hr
    have hr := hk
    clear hk
    obtain ⟨m_5, ho⟩ : ∃ z, z = o := ⟨_, rfl⟩
    subst ho
    rintro _ mm t_1 ⟨rfl, rfl, g2, g4⟩
    refine nx_norm ?_
    refine w_seq ?_
    refine w_ops ?_
    have hq := bindO_inv hr
    clear hr
    obtain ⟨v14, e14, hr⟩ := hq
    refine wo_step (v := v14) (s_ld g2 e14) ?_
    have hq := bindP_inv hr
    clear hr
    obtain ⟨vn_1, m_6, en_1, hr⟩ := hq
    refine wo_stepN (s_st g4 rfl en_1) ?_
    refine wo_nil ?_
    refine nx_norm ?_
    refine w_ret ?_
    have hq := bindO_inv hr
    clear hr
    obtain ⟨vr, er, hr⟩ := hq
    exact qf ret_ok (rc g4 er rn) hr

/- cmp.Or[int] -/
abbrev g99_I0 (v0 : AVal) (x7 : Int) (m0 : Mm) (s : Int) (m1 : Mm) (t1 : Tr) : Prop :=
  match s with
  | x8 => m0 = m1 ∧ t1.get 8 = (.i .i64 x8) ∧ t1.get 3 = (.i .i64 0) ∧ t1.get 6 = v0 ∧ t1.get 7 = (.i .i64 x7)
abbrev g99_J0 (v0 : AVal) (x7 : Int) (m0 : Mm) (o : (Unit ⊕ Int)) (e : AExit) (m1 : Mm) (t1 : Tr) : Prop :=
  match o with
  | (.inl _) => e = (.exit 0) ∧ m0 = m1 ∧ t1.get 3 = (.i .i64 0)
  | (.inr y2) => e = .ret ∧ m0 = m1 ∧ t1.get 2 = (.i .i64 y2)
def g99_b0 (M : Means) (ro : List ABlk) (v0 : AVal) (x7 : Int) (m0 : Mm) (x8 : Int) : Option ((Int) ⊕ ((Unit ⊕ Int))) :=
  forceB (ltI x8 x7) fun c9 =>
  cond c9 (
    bindO (evP .e (.ixS 1 (.c v0) (.c (.i .i64 x8)))) fun v10 =>
    bindO (ldM ro m0 true 1 v10) fun v11 =>
    asI .i64 v11 fun x11 =>
    forceB (!eqI x11 0) fun c14 =>
    cond c14 (
      some (.inr (.inr x11))) (
      forceI (wr .i64 (x8 + 1)) fun x16 =>
      some (.inl x16))) (
    some (.inr (.inl ())))
def g99 (M : Means) (ro : List ABlk) (v0 : AVal) (m0 : Mm) : Option (AVal × Heap × Nat × Nat) :=
  bindO (evP .e (.len false (.c v0))) fun v7 =>
  asI .i64 v7 fun x7 =>
  bindO (M.loop (S := Int) (R := (Unit ⊕ Int)) (fun s => g99_b0 M ro v0 x7 m0 s) 0) fun o => match o with
  | (.inl _) =>
    finM m0.h.length (tupA [(.i .i64 0)]) m0
  | (.inr x2) =>
    finM m0.h.length (tupA [(.i .i64 x2)]) m0

theorem g99_ok {ro : List ABlk} {O : Caller} {M : Means} (hM : M.Ok ⟨F, O⟩ ro) {v0 h r} (ho : O 99 [v0] h = none) (hr : g99 M ro v0 ⟨h, h.length, h.length⟩ = some r) : callX ⟨F, O⟩ ro 99 [v0] h = some r := by
  refine callX_of (F := ⟨F, O⟩) (fn := fn99) (g := g99 M ro v0) ho rfl rfl hr ?_
  clear ho
  clear hr
  intro m0 t0 ht hr
  have g0 : t0.get 0 = v0 := ht 0
  clear ht
  unfold g99 at hr
  refine w_seq ?_
  refine w_ops ?_
  refine wo_step (v := (.i .i64 0)) (s_pure (p_mv rfl)) ?_
  refine wo_nil ?_
  refine nx_norm ?_
  refine w_seq ?_
  refine w_ops ?_
  refine wo_step (v := (.i .i64 0)) (s_pure (p_mv rfl)) ?_
  refine wo_nil ?_
  refine nx_norm ?_
  refine w_seq ?_
  refine w_seq ?_
  refine w_ops ?_
  refine wo_step (v := v0) (s_pure (p_mv g0)) ?_
  have hq := bindO_inv hr
  clear hr
  obtain ⟨v7, e7, hr⟩ := hq
  have hq := asI_inv hr
  clear hr
  obtain ⟨x7, rfl, hr⟩ := hq
  refine wo_step (v := (.i .i64 x7)) (s_pure (o_len rfl e7)) ?_
  refine wo_step (v := (.i .i64 0)) (s_pure (p_mv rfl)) ?_
  refine wo_nil ?_
  refine nx_norm ?_
  refine w_block ?_
  have hq := bindO_inv hr
  clear hr
  obtain ⟨o, hl, hr⟩ := hq
  obtain ⟨n, hl⟩ := hM.loop _ _ _ hl
  refine jp_mono (w_loop _ (g99_I0 v0 x7 m0) (g99_J0 v0 x7 m0) ?_ n _ _ _ _ hl ⟨rfl, gl rfl, gl rfl, gl rfl, gl rfl⟩) ?_
  · clear hr hl
    intro s mm_2 t_1 o hi hr
    obtain ⟨x8, hs⟩ : ∃ z, z = s := ⟨_, rfl⟩
    subst hs
    obtain ⟨rfl, g8, g3, g6, g7⟩ := hi
    unfold g99_b0 at hr
    refine w_seq ?_
    refine w_ops ?_
    have hq := forceB_inv hr
    clear hr
    obtain ⟨c9, e9, hr⟩ := hq
    refine wo_step (v := (.b c9)) (s_pure (p_bin g8 g7 (b_lss.trans (cb e9)))) ?_
    refine wo_nil ?_
    refine nx_norm ?_
    refine w_seq ?_
    have hq := cond_inv hr
    clear hr
    rcases hq with ⟨rfl, hr⟩ | ⟨rfl, hr⟩
    · refine w_condT rfl ?_
      refine w_skip ?_
      refine nx_norm ?_
      refine w_seq ?_
      refine w_block ?_
      refine w_seq ?_
      refine w_ops ?_
      have hq := bindO_inv hr
      clear hr
      obtain ⟨v10, e10, hr⟩ := hq
      refine wo_step (v := v10) (s_pure (o_ixS g6 g8 e10)) ?_
      have hq := bindO_inv hr
      clear hr
      obtain ⟨v11, e11, hr⟩ := hq
      have hq := asI_inv hr
      clear hr
      obtain ⟨x11, rfl, hr⟩ := hq
      refine wo_step (v := (.i .i64 x11)) (s_ld rfl e11) ?_
      refine wo_step (v := (.i .i64 x11)) (s_pure (p_mv rfl)) ?_
      refine wo_nil ?_
      refine nx_norm ?_
      refine w_seq ?_
      refine w_ops ?_
      refine wo_step (v := (.i .i64 x11)) (s_pure (p_mv rfl)) ?_
      refine wo_step (v := (.i .i64 0)) (s_pure (p_mv g3)) ?_
      have hq := forceB_inv hr
      clear hr
      obtain ⟨c14, e14, hr⟩ := hq
      refine wo_step (v := (.b c14)) (s_pure (p_bin rfl rfl (b_neq.trans (cb e14)))) ?_
      refine wo_nil ?_
      refine nx_norm ?_
      have hq := cond_inv hr
      clear hr
      rcases hq with ⟨rfl, hr⟩ | ⟨rfl, hr⟩
      · refine w_condT rfl ?_
        refine w_seq ?_
        refine w_ops ?_
        refine wo_step (v := (.i .i64 x11)) (s_pure (p_mv rfl)) ?_
        refine wo_step (v := (.i .i64 x11)) (s_pure (p_mv rfl)) ?_
        refine wo_nil ?_
        refine nx_norm ?_
        refine w_ret ?_
        refine bk_ret ?_
        refine nx_ret ?_
        cases hr
        exact ⟨_, _, rfl, ne_norm_ret, rfl, rfl, gl rfl⟩
      · refine w_condF rfl ?_
        refine w_skip ?_
        refine bk_norm ?_
        refine nx_norm ?_
        refine w_ops ?_
        have hq := forceI_inv hr
        clear hr
        obtain ⟨x16, e16, hr⟩ := hq
        refine wo_step (v := (.i .i64 x16)) (s_pure (p_bin g8 rfl (b_add.trans (ci e16)))) ?_
        refine wo_step (v := (.i .i64 x16)) (s_pure (p_mv rfl)) ?_
        refine wo_nil ?_
        cases hr
        exact ⟨_, _, rfl, rfl, rfl, gl rfl, gl g3, gl g6, gl g7⟩
    · refine w_condF rfl ?_
      refine w_exit ?_
      refine nx_exit ?_
      cases hr
      exact ⟨_, _, rfl, ne_norm_exit, rfl, rfl, gl g3⟩
  · rcases o with o | o
    · rintro _ mm t_2 ⟨rfl, rfl, g3⟩
      refine bk_hit ?_
      refine nx_norm ?_
      refine w_seq ?_
      refine w_ops ?_
      refine wo_step (v := (.i .i64 0)) (s_pure (p_mv g3)) ?_
      refine wo_step (v := (.i .i64 0)) (s_pure (p_mv rfl)) ?_
      refine wo_nil ?_
      refine nx_norm ?_
      refine w_ret ?_
      exact qf ret_ok (rt rfl rn) hr
    · obtain ⟨x2, ho⟩ : ∃ z, z = o := ⟨_, rfl⟩
      subst ho
      rintro _ mm_1 t_3 ⟨rfl, rfl, g2⟩
      refine bk_ret ?_
      refine nx_ret ?_
      exact qf ret_ok (rt g2 rn) hr

/- cmp.Compare[int] -/

def g100 (M : Means) (ro : List ABlk) (x0 : Int) (x1 : Int) (m0 : Mm) : Option (AVal × Heap × Nat × Nat) :=
  bindP (callM M.call m0 102 [(.i .i64 x0)]) fun v8 m_1 =>
  asB v8 fun c8 =>
  bindP (callM M.call m_1 102 [(.i .i64 x1)]) fun v10 m_2 =>
  asB v10 fun c10 =>
  cond c8 (
    cond c10 (
      finM m0.h.length (tupA [(.i .i64 0)]) m_2) (
      finM m0.h.length (tupA [(.i .i64 (-1))]) m_2)) (
    cond c10 (
      finM m0.h.length (tupA [(.i .i64 1)]) m_2) (
      forceB (ltI x0 x1) fun c16 =>
      cond c16 (
        finM m0.h.length (tupA [(.i .i64 (-1))]) m_2) (
        forceB (ltI x1 x0) fun c19 =>
        cond c19 (
          finM m0.h.length (tupA [(.i .i64 1)]) m_2) (
          finM m0.h.length (tupA [(.i .i64 0)]) m_2))))

theorem g100_ok {ro : List ABlk} {O : Caller} {M : Means} (hM : M.Ok ⟨F, O⟩ ro) {x0 x1 h r} (ho : O 100 [(.i .i64 x0), (.i .i64 x1)] h = none) (hr : g100 M ro x0 x1 ⟨h, h.length, h.length⟩ = some r) : callX ⟨F, O⟩ ro 100 [(.i .i64 x0), (.i .i64 x1)] h = some r := by
  refine callX_of (F := ⟨F, O⟩) (fn := fn100) (g := g100 M ro x0 x1) ho rfl rfl hr ?_
  clear ho
  clear hr
  intro m0 t0 ht hr
  have g0 : t0.get 0 = (.i .i64 x0) := ht 0
  have g1 : t0.get 1 = (.i .i64 x1) := ht 1
  clear ht
  unfold g100 at hr
  refine w_seq ?_
  refine w_ops ?_
  refine wo_step (v := (.i .i64 0)) (s_pure (p_mv rfl)) ?_
  refine wo_nil ?_
  refine nx_norm ?_
  refine w_seq ?_
  refine w_ops ?_
  refine wo_step (v := (.i .i64 x0)) (s_pure (p_mv g0)) ?_
  have hq := bindP_inv hr
  clear hr
  obtain ⟨v8, m_1, e8, hr⟩ := hq
  have hq := asB_inv hr
  clear hr
  obtain ⟨c8, rfl, hr⟩ := hq
  refine wo_step (v := (.b c8)) (s_call (mc rfl mn) (callM_le hM.call e8)) ?_
  refine wo_step (v := (.b c8)) (s_pure (p_mv rfl)) ?_
  refine wo_nil ?_
  refine nx_norm ?_
  refine w_seq ?_
  refine w_ops ?_
  refine wo_step (v := (.i .i64 x1)) (s_pure (p_mv g1)) ?_
  have hq := bindP_inv hr
  clear hr
  obtain ⟨v10, m_2, e10, hr⟩ := hq
  have hq := asB_inv hr
  clear hr
  obtain ⟨c10, rfl, hr⟩ := hq
  refine wo_step (v := (.b c10)) (s_call (mc rfl mn) (callM_le hM.call e10)) ?_
  refine wo_step (v := (.b c10)) (s_pure (p_mv rfl)) ?_
  refine wo_nil ?_
  refine nx_norm ?_
  refine w_seq ?_
  refine w_seq ?_
  refine w_ops ?_
  refine wo_step (v := (.b c8)) (s_pure (p_mv rfl)) ?_
  refine wo_nil ?_
  refine nx_norm ?_
  have hq := cond_inv hr
  clear hr
  rcases hq with ⟨rfl, hr⟩ | ⟨rfl, hr⟩
  · refine w_condT rfl ?_
    refine w_seq ?_
    refine w_seq ?_
    refine w_ops ?_
    refine wo_step (v := (.b c10)) (s_pure (p_mv rfl)) ?_
    refine wo_nil ?_
    refine nx_norm ?_
    have hq := cond_inv hr
    clear hr
    rcases hq with ⟨rfl, hr⟩ | ⟨rfl, hr⟩
    · refine w_condT rfl ?_
      refine w_seq ?_
      refine w_ops ?_
      refine wo_step (v := (.i .i64 0)) (s_pure (p_mv rfl)) ?_
      refine wo_nil ?_
      refine nx_norm ?_
      refine w_ret ?_
      refine nx_ret ?_
      refine nx_ret ?_
      exact qf ret_ok (rt rfl rn) hr
    · refine w_condF rfl ?_
      refine w_skip ?_
      refine nx_norm ?_
      refine w_seq ?_
      refine w_ops ?_
      refine wo_step (v := (.i .i64 (-1))) (s_pure (p_mv rfl)) ?_
      refine wo_nil ?_
      refine nx_norm ?_
      refine w_ret ?_
      refine nx_ret ?_
      exact qf ret_ok (rt rfl rn) hr
  · refine w_condF rfl ?_
    refine w_skip ?_
    refine nx_norm ?_
    refine w_seq ?_
    refine w_seq ?_
    refine w_ops ?_
    refine wo_step (v := (.b c10)) (s_pure (p_mv rfl)) ?_
    refine wo_nil ?_
    refine nx_norm ?_
    have hq := cond_inv hr
    clear hr
    rcases hq with ⟨rfl, hr⟩ | ⟨rfl, hr⟩
    · refine w_condT rfl ?_
      refine w_seq ?_
      refine w_ops ?_
      refine wo_step (v := (.i .i64 1)) (s_pure (p_mv rfl)) ?_
      refine wo_nil ?_
      refine nx_norm ?_
      refine w_ret ?_
      refine nx_ret ?_
      exact qf ret_ok (rt rfl rn) hr
    · refine w_condF rfl ?_
      refine w_skip ?_
      refine nx_norm ?_
      refine w_seq ?_
      refine w_seq ?_
      refine w_ops ?_
      refine wo_step (v := (.i .i64 x0)) (s_pure (p_mv g0)) ?_
      refine wo_step (v := (.i .i64 x1)) (s_pure (p_mv g1)) ?_
      have hq := forceB_inv hr
      clear hr
      obtain ⟨c16, e16, hr⟩ := hq
      refine wo_step (v := (.b c16)) (s_pure (p_bin rfl rfl (b_lss.trans (cb e16)))) ?_
      refine wo_nil ?_
      refine nx_norm ?_
      have hq := cond_inv hr
      clear hr
      rcases hq with ⟨rfl, hr⟩ | ⟨rfl, hr⟩
      · refine w_condT rfl ?_
        refine w_seq ?_
        refine w_ops ?_
        refine wo_step (v := (.i .i64 (-1))) (s_pure (p_mv rfl)) ?_
        refine wo_nil ?_
        refine nx_norm ?_
        refine w_ret ?_
        refine nx_ret ?_
        exact qf ret_ok (rt rfl rn) hr
      · refine w_condF rfl ?_
        refine w_skip ?_
        refine nx_norm ?_
        refine w_seq ?_
        refine w_seq ?_
        refine w_ops ?_
        refine wo_step (v := (.i .i64 x0)) (s_pure (p_mv g0)) ?_
        refine wo_step (v := (.i .i64 x1)) (s_pure (p_mv g1)) ?_
        have hq := forceB_inv hr
        clear hr
        obtain ⟨c19, e19, hr⟩ := hq
        refine wo_step (v := (.b c19)) (s_pure (p_bin rfl rfl (b_gtr.trans (cb e19)))) ?_
        refine wo_nil ?_
        refine nx_norm ?_
        have hq := cond_inv hr
        clear hr
        rcases hq with ⟨rfl, hr⟩ | ⟨rfl, hr⟩
        · refine w_condT rfl ?_
          refine w_seq ?_
          refine w_ops ?_
          refine wo_step (v := (.i .i64 1)) (s_pure (p_mv rfl)) ?_
          refine wo_nil ?_
          refine nx_norm ?_
          refine w_ret ?_
          refine nx_ret ?_
          exact qf ret_ok (rt rfl rn) hr
        · refine w_condF rfl ?_
          refine w_skip ?_
          refine nx_norm ?_
          refine w_seq ?_
          refine w_ops ?_
          refine wo_step (v := (.i .i64 0)) (s_pure (p_mv rfl)) ?_
          refine wo_nil ?_
          refine nx_norm ?_
          refine w_ret ?_
          exact qf ret_ok (rt rfl rn) hr

/- cmp.Compare[byte] -/

def g101 (M : Means) (ro : List ABlk) (x0 : Int) (x1 : Int) (m0 : Mm) : Option (AVal × Heap × Nat × Nat) :=
  bindP (callM M.call m0 103 [(.i .u8 x0)]) fun v8 m_1 =>
  asB v8 fun c8 =>
  bindP (callM M.call m_1 103 [(.i .u8 x1)]) fun v10 m_2 =>
  asB v10 fun c10 =>
  cond c8 (
    cond c10 (
      finM m0.h.length (tupA [(.i .i64 0)]) m_2) (
      finM m0.h.length (tupA [(.i .i64 (-1))]) m_2)) (
    cond c10 (
      finM m0.h.length (tupA [(.i .i64 1)]) m_2) (
      forceB (ltI x0 x1) fun c16 =>
      cond c16 (
        finM m0.h.length (tupA [(.i .i64 (-1))]) m_2) (
        forceB (ltI x1 x0) fun c19 =>
        cond c19 (
          finM m0.h.length (tupA [(.i .i64 1)]) m_2) (
          finM m0.h.length (tupA [(.i .i64 0)]) m_2))))

theorem g101_ok {ro : List ABlk} {O : Caller} {M : Means} (hM : M.Ok ⟨F, O⟩ ro) {x0 x1 h r} (ho : O 101 [(.i .u8 x0), (.i .u8 x1)] h = none) (hr : g101 M ro x0 x1 ⟨h, h.length, h.length⟩ = some r) : callX ⟨F, O⟩ ro 101 [(.i .u8 x0), (.i .u8 x1)] h = some r := by
  refine callX_of (F := ⟨F, O⟩) (fn := fn101) (g := g101 M ro x0 x1) ho rfl rfl hr ?_
  clear ho
  clear hr
  intro m0 t0 ht hr
  have g0 : t0.get 0 = (.i .u8 x0) := ht 0
  have g1 : t0.get 1 = (.i .u8 x1) := ht 1
  clear ht
  unfold g101 at hr
  refine w_seq ?_
  refine w_ops ?_
  refine wo_step (v := (.i .i64 0)) (s_pure (p_mv rfl)) ?_
  refine wo_nil ?_
  refine nx_norm ?_
  refine w_seq ?_
  refine w_ops ?_
  refine wo_step (v := (.i .u8 x0)) (s_pure (p_mv g0)) ?_
  have hq := bindP_inv hr
  clear hr
  obtain ⟨v8, m_1, e8, hr⟩ := hq
  have hq := asB_inv hr
  clear hr
  obtain ⟨c8, rfl, hr⟩ := hq
  refine wo_step (v := (.b c8)) (s_call (mc rfl mn) (callM_le hM.call e8)) ?_
  refine wo_step (v := (.b c8)) (s_pure (p_mv rfl)) ?_
  refine wo_nil ?_
  refine nx_norm ?_
  refine w_seq ?_
  refine w_ops ?_
  refine wo_step (v := (.i .u8 x1)) (s_pure (p_mv g1)) ?_
  have hq := bindP_inv hr
  clear hr
  obtain ⟨v10, m_2, e10, hr⟩ := hq
  have hq := asB_inv hr
  clear hr
  obtain ⟨c10, rfl, hr⟩ := hq
  refine wo_step (v := (.b c10)) (s_call (mc rfl mn) (callM_le hM.call e10)) ?_
  refine wo_step (v := (.b c10)) (s_pure (p_mv rfl)) ?_
  refine wo_nil ?_
  refine nx_norm ?_
  refine w_seq ?_
  refine w_seq ?_
  refine w_ops ?_
  refine wo_step (v := (.b c8)) (s_pure (p_mv rfl)) ?_
  refine wo_nil ?_
  refine nx_norm ?_
  have hq := cond_inv hr
  clear hr
  rcases hq with ⟨rfl, hr⟩ | ⟨rfl, hr⟩
  · refine w_condT rfl ?_
    refine w_seq ?_
    refine w_seq ?_
    refine w_ops ?_
    refine wo_step (v := (.b c10)) (s_pure (p_mv rfl)) ?_
    refine wo_nil ?_
    refine nx_norm ?_
    have hq := cond_inv hr
    clear hr
    rcases hq with ⟨rfl, hr⟩ | ⟨rfl, hr⟩
    · refine w_condT rfl ?_
      refine w_seq ?_
      refine w_ops ?_
      refine wo_step (v := (.i .i64 0)) (s_pure (p_mv rfl)) ?_
      refine wo_nil ?_
      refine nx_norm ?_
      refine w_ret ?_
      refine nx_ret ?_
      refine nx_ret ?_
      exact qf ret_ok (rt rfl rn) hr
    · refine w_condF rfl ?_
      refine w_skip ?_
      refine nx_norm ?_
      refine w_seq ?_
      refine w_ops ?_
      refine wo_step (v := (.i .i64 (-1))) (s_pure (p_mv rfl)) ?_
      refine wo_nil ?_
      refine nx_norm ?_
      refine w_ret ?_
      refine nx_ret ?_
      exact qf ret_ok (rt rfl rn) hr
  · refine w_condF rfl ?_
    refine w_skip ?_
    refine nx_norm ?_
    refine w_seq ?_
    refine w_seq ?_
    refine w_ops ?_
    refine wo_step (v := (.b c10)) (s_pure (p_mv rfl)) ?_
    refine wo_nil ?_
    refine nx_norm ?_
    have hq := cond_inv hr
    clear hr
    rcases hq with ⟨rfl, hr⟩ | ⟨rfl, hr⟩
    · refine w_condT rfl ?_
      refine w_seq ?_
      refine w_ops ?_
      refine wo_step (v := (.i .i64 1)) (s_pure (p_mv rfl)) ?_
      refine wo_nil ?_
      refine nx_norm ?_
      refine w_ret ?_
      refine nx_ret ?_
      exact qf ret_ok (rt rfl rn) hr
    · refine w_condF rfl ?_
      refine w_skip ?_
      refine nx_norm ?_
      refine w_seq ?_
      refine w_seq ?_
      refine w_ops ?_
      refine wo_step (v := (.i .u8 x0)) (s_pure (p_mv g0)) ?_
      refine wo_step (v := (.i .u8 x1)) (s_pure (p_mv g1)) ?_
      have hq := forceB_inv hr
      clear hr
      obtain ⟨c16, e16, hr⟩ := hq
      refine wo_step (v := (.b c16)) (s_pure (p_bin rfl rfl (b_lss.trans (cb e16)))) ?_
      refine wo_nil ?_
      refine nx_norm ?_
      have hq := cond_inv hr
      clear hr
      rcases hq with ⟨rfl, hr⟩ | ⟨rfl, hr⟩
      · refine w_condT rfl ?_
        refine w_seq ?_
        refine w_ops ?_
        refine wo_step (v := (.i .i64 (-1))) (s_pure (p_mv rfl)) ?_
        refine wo_nil ?_
        refine nx_norm ?_
        refine w_ret ?_
        refine nx_ret ?_
        exact qf ret_ok (rt rfl rn) hr
      · refine w_condF rfl ?_
        refine w_skip ?_
        refine nx_norm ?_
        refine w_seq ?_
        refine w_seq ?_
        refine w_ops ?_
        refine wo_step (v := (.i .u8 x0)) (s_pure (p_mv g0)) ?_
        refine wo_step (v := (.i .u8 x1)) (s_pure (p_mv g1)) ?_
        have hq := forceB_inv hr
        clear hr
        obtain ⟨c19, e19, hr⟩ := hq
        refine wo_step (v := (.b c19)) (s_pure (p_bin rfl rfl (b_gtr.trans (cb e19)))) ?_
        refine wo_nil ?_
        refine nx_norm ?_
        have hq := cond_inv hr
        clear hr
        rcases hq with ⟨rfl, hr⟩ | ⟨rfl, hr⟩
        · refine w_condT rfl ?_
          refine w_seq ?_
          refine w_ops ?_
          refine wo_step (v := (.i .i64 1)) (s_pure (p_mv rfl)) ?_
          refine wo_nil ?_
          refine nx_norm ?_
          refine w_ret ?_
          refine nx_ret ?_
          exact qf ret_ok (rt rfl rn) hr
        · refine w_condF rfl ?_
          refine w_skip ?_
          refine nx_norm ?_
          refine w_seq ?_
          refine w_ops ?_
          refine wo_step (v := (.i .i64 0)) (s_pure (p_mv rfl)) ?_
          refine wo_nil ?_
          refine nx_norm ?_
          refine w_ret ?_
          exact qf ret_ok (rt rfl rn) hr

/- cmp.isNaN[int] -/

def g102 (M : Means) (ro : List ABlk) (x0 : Int) (m0 : Mm) : Option (AVal × Heap × Nat × Nat) :=
  forceB (!eqI x0 x0) fun c5 =>
  finM m0.h.length (tupA [(.b c5)]) m0

theorem g102_ok {ro : List ABlk} {O : Caller} {M : Means} (hM : M.Ok ⟨F, O⟩ ro) {x0 h r} (ho : O 102 [(.i .i64 x0)] h = none) (hr : g102 M ro x0 ⟨h, h.length, h.length⟩ = some r) : callX ⟨F, O⟩ ro 102 [(.i .i64 x0)] h = some r := by
  refine callX_of (F := ⟨F, O⟩) (fn := fn102) (g := g102 M ro x0) ho rfl rfl hr ?_
  clear ho
  clear hr
  intro m0 t0 ht hr
  have g0 : t0.get 0 = (.i .i64 x0) := ht 0
  clear ht
  unfold g102 at hr
  refine w_seq ?_
  refine w_ops ?_
  refine wo_step (v := (.b false)) (s_pure (p_mv rfl)) ?_
  refine wo_nil ?_
  refine nx_norm ?_
  refine w_seq ?_
  refine w_ops ?_
  refine wo_step (v := (.i .i64 x0)) (s_pure (p_mv g0)) ?_
  refine wo_step (v := (.i .i64 x0)) (s_pure (p_mv g0)) ?_
  have hq := forceB_inv hr
  clear hr
  obtain ⟨c5, e5, hr⟩ := hq
  refine wo_step (v := (.b c5)) (s_pure (p_bin rfl rfl (b_neq.trans (cb e5)))) ?_
  refine wo_step (v := (.b c5)) (s_pure (p_mv rfl)) ?_
  refine wo_nil ?_
  refine nx_norm ?_
  refine w_ret ?_
  exact qf ret_ok (rt rfl rn) hr

/- cmp.isNaN[byte] -/

def g103 (M : Means) (ro : List ABlk) (x0 : Int) (m0 : Mm) : Option (AVal × Heap × Nat × Nat) :=
  forceB (!eqI x0 x0) fun c5 =>
  finM m0.h.length (tupA [(.b c5)]) m0

theorem g103_ok {ro : List ABlk} {O : Caller} {M : Means} (hM : M.Ok ⟨F, O⟩ ro) {x0 h r} (ho : O 103 [(.i .u8 x0)] h = none) (hr : g103 M ro x0 ⟨h, h.length, h.length⟩ = some r) : callX ⟨F, O⟩ ro 103 [(.i .u8 x0)] h = some r := by
  refine callX_of (F := ⟨F, O⟩) (fn := fn103) (g := g103 M ro x0) ho rfl rfl hr ?_
  clear ho
  clear hr
  intro m0 t0 ht hr
  have g0 : t0.get 0 = (.i .u8 x0) := ht 0
  clear ht
  unfold g103 at hr
  refine w_seq ?_
  refine w_ops ?_
  refine wo_step (v := (.b false)) (s_pure (p_mv rfl)) ?_
  refine wo_nil ?_
  refine nx_norm ?_
  refine w_seq ?_
  refine w_ops ?_
  refine wo_step (v := (.i .u8 x0)) (s_pure (p_mv g0)) ?_
  refine wo_step (v := (.i .u8 x0)) (s_pure (p_mv g0)) ?_
  have hq := forceB_inv hr
  clear hr
  obtain ⟨c5, e5, hr⟩ := hq
  refine wo_step (v := (.b c5)) (s_pure (p_bin rfl rfl (b_neq.trans (cb e5)))) ?_
  refine wo_step (v := (.b c5)) (s_pure (p_mv rfl)) ?_
  refine wo_nil ?_
  refine nx_norm ?_
  refine w_ret ?_
  exact qf ret_ok (rt rfl rn) hr

end Go.Proofs.Ythcadkmfbgonjaa.T

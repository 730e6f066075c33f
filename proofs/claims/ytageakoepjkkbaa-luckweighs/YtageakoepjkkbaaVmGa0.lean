/- Plain functions, and that the small machine answers as they do. -/
import Derived.Test.YtageakoepjkkbaaVmP
import Derived.Test.YtageakoepjkkbaaVmAE
open Go.Vm
set_option linter.unusedVariables false
namespace Go.Proofs.Ytageakoepjkkbaa.T
open Go
/- dibber/dibberlaw05.LuckWeighs -/
abbrev g4_J0 (x0 : Int) (v1 : AVal) (v2 : AVal) (x29 : Int) (x37 : Int) (o : Bool × Mm) (m1 : Mm) (t1 : Tr) : Prop :=
  match o with
  | (c47, m_6) => m_6 = m1 ∧ t1.get 47 = (.b c47) ∧ t1.get 0 = (.i .i64 x0) ∧ t1.get 1 = v1 ∧ t1.get 2 = v2 ∧ t1.get 9 = (.i .i64 x29) ∧ t1.get 12 = (.i .i64 x37)
abbrev g4_J1 (x0 : Int) (v1 : AVal) (v2 : AVal) (m_6 : Mm) (o : Bool) (m1 : Mm) (t1 : Tr) : Prop :=
  match o with
  | c52 => m_6 = m1 ∧ t1.get 52 = (.b c52) ∧ t1.get 0 = (.i .i64 x0) ∧ t1.get 1 = v1 ∧ t1.get 2 = v2
abbrev g4_J2 (x60 : Int) (x68 : Int) (m_9 : Mm) (o : Bool) (m1 : Mm) (t1 : Tr) : Prop :=
  match o with
  | c76 => m_9 = m1 ∧ t1.get 76 = (.b c76) ∧ t1.get 9 = (.i .i64 x60) ∧ t1.get 12 = (.i .i64 x68)
abbrev g4_J3 (m_9 : Mm) (o : Bool) (m1 : Mm) (t1 : Tr) : Prop :=
  match o with
  | c81 => m_9 = m1 ∧ t1.get 81 = (.b c81)
abbrev g4_J4  (o : Bool × Mm) (m1 : Mm) (t1 : Tr) : Prop :=
  match o with
  | (c84, m_10) => m_10 = m1 ∧ t1.get 84 = (.b c84)
def g4 (M : Means) (ro : List ABlk) (x0 : Int) (v1 : AVal) (v2 : AVal) (m0 : Mm) : Option (AVal × Heap × Nat × Nat) :=
  bindP (callM M.call m0 15 [v1, v2]) fun v19 m_1 =>
  asB v19 fun c19 =>
  forceB (!c19) fun c20 =>
  cond c20 (
    bindP (callM M.call m_1 16 []) fun v21 m_2 =>
    asB v21 fun c21 =>
    finM m0.h.length (tupA [(.b c21)]) m_2) (
    bindP (callM M.call m_1 23 [(.i .i64 x0), v1, v2]) fun v26 m_3 =>
    bindO (evP .e (.ext 0 (.c v26))) fun v27 =>
    bindO (evP .e (.ext 1 (.c v26))) fun v28 =>
    bindO (evP .e (.ext 2 (.c v26))) fun v29 =>
    asI .i64 v29 fun x29 =>
    bindP (callM M.call m_3 24 [(.i .i64 x0), v1, v2]) fun v34 m_4 =>
    bindO (evP .e (.ext 0 (.c v34))) fun v35 =>
    bindO (evP .e (.ext 1 (.c v34))) fun v36 =>
    bindO (evP .e (.ext 2 (.c v34))) fun v37 =>
    asI .i64 v37 fun x37 =>
    bindP (callM M.call m_4 20 [v27, v35]) fun v40 m_5 =>
    asB v40 fun c40 =>
    forceB (!c40) fun c41 =>
    bindO (cond c41 (
      some (true, m_5)) (
      bindP (callM M.call m_5 20 [v28, v36]) fun v45 m_7 =>
      asB v45 fun c45 =>
      forceB (!c45) fun c46 =>
      some (c46, m_7))) fun ⟨c47, m_6⟩ =>
    bindO (cond c47 (
      some true) (
      forceB (!eqI x29 x37) fun c51 =>
      some c51)) fun c52 =>
    cond c52 (
      finM m0.h.length (tupA [(.b false)]) m_6) (
      bindP (callM M.call m_6 25 [(.i .i64 x0), v1, v2]) fun v57 m_8 =>
      bindO (evP .e (.ext 0 (.c v57))) fun v58 =>
      asI .i64 v58 fun x58 =>
      bindO (evP .e (.ext 1 (.c v57))) fun v59 =>
      asI .i64 v59 fun x59 =>
      bindO (evP .e (.ext 2 (.c v57))) fun v60 =>
      asI .i64 v60 fun x60 =>
      bindP (callM M.call m_8 26 [(.i .i64 x0), v1, v2]) fun v65 m_9 =>
      bindO (evP .e (.ext 0 (.c v65))) fun v66 =>
      asI .i64 v66 fun x66 =>
      bindO (evP .e (.ext 1 (.c v65))) fun v67 =>
      asI .i64 v67 fun x67 =>
      bindO (evP .e (.ext 2 (.c v65))) fun v68 =>
      asI .i64 v68 fun x68 =>
      forceB (eqI x58 x66) fun c71 =>
      bindO (cond c71 (
        forceB (eqI x59 x67) fun c75 =>
        some c75) (
        some false)) fun c76 =>
      bindO (cond c76 (
        forceB (eqI x60 x68) fun c80 =>
        some c80) (
        some false)) fun c81 =>
      bindO (cond c81 (
        bindP (callM M.call m_9 16 []) fun v83 m_11 =>
        asB v83 fun c83 =>
        some (c83, m_11)) (
        some (false, m_9))) fun ⟨c84, m_10⟩ =>
      finM m0.h.length (tupA [(.b c84)]) m_10))

theorem g4_ok {ro : List ABlk} {O : Caller} {M : Means} (hM : M.Ok ⟨F, O⟩ ro) {x0 v1 v2 h r} (ho : O 4 [(.i .i64 x0), v1, v2] h = none) (hr : g4 M ro x0 v1 v2 ⟨h, h.length, h.length⟩ = some r) : callX ⟨F, O⟩ ro 4 [(.i .i64 x0), v1, v2] h = some r := by
  refine callX_of (F := ⟨F, O⟩) (fn := fn4) (g := g4 M ro x0 v1 v2) ho rfl rfl hr ?_
  clear ho
  clear hr
  intro m0 t0 ht hr
  have g0 : t0.get 0 = (.i .i64 x0) := ht 0
  have g1 : t0.get 1 = v1 := ht 1
  have g2 : t0.get 2 = v2 := ht 2
  clear ht
  unfold g4 at hr
  refine w_seq ?_
  refine w_ops ?_
  refine wo_step (v := (.b false)) (s_pure (p_mv rfl)) ?_
  refine wo_nil ?_
  refine nx_norm ?_
  refine w_seq ?_
  refine w_seq ?_
  refine w_ops ?_
  refine wo_step (v := v1) (s_pure (p_mv g1)) ?_
  refine wo_step (v := v2) (s_pure (p_mv g2)) ?_
  have hq := bindP_inv hr
  clear hr
  obtain ⟨v19, m_1, e19, hr⟩ := hq
  have hq := asB_inv hr
  clear hr
  obtain ⟨c19, rfl, hr⟩ := hq
  refine wo_step (v := (.b c19)) (s_call (mc rfl (mc rfl mn)) (callM_le hM.call e19)) ?_
  have hq := forceB_inv hr
  clear hr
  obtain ⟨c20, e20, hr⟩ := hq
  refine wo_step (v := (.b c20)) (s_pure ((p_not rfl).trans (cb e20))) ?_
  refine wo_nil ?_
  refine nx_norm ?_
  have hq := cond_inv hr
  clear hr
  rcases hq with ⟨rfl, hr⟩ | ⟨rfl, hr⟩
  · refine w_condT rfl ?_
    refine w_seq ?_
    refine w_ops ?_
    have hq := bindP_inv hr
    clear hr
    obtain ⟨v21, m_2, e21, hr⟩ := hq
    have hq := asB_inv hr
    clear hr
    obtain ⟨c21, rfl, hr⟩ := hq
    refine wo_step (v := (.b c21)) (s_call mn (callM_le hM.call e21)) ?_
    refine wo_step (v := (.b c21)) (s_pure (p_mv rfl)) ?_
    refine wo_nil ?_
    refine nx_norm ?_
    refine w_ret ?_
    refine nx_ret ?_
    exact qf ret_ok (rt rfl rn) hr
  · refine w_condF rfl ?_
    refine w_skip ?_
    refine nx_norm ?_
    refine w_seq ?_
    refine w_ops ?_
    refine wo_step (v := (.i .i64 x0)) (s_pure (p_mv g0)) ?_
    refine wo_step (v := v1) (s_pure (p_mv g1)) ?_
    refine wo_step (v := v2) (s_pure (p_mv g2)) ?_
    have hq := bindP_inv hr
    clear hr
    obtain ⟨v26, m_3, e26, hr⟩ := hq
    refine wo_step (v := v26) (s_call (mc rfl (mc rfl (mc rfl mn))) (callM_le hM.call e26)) ?_
    refine wo_step (v := v26) (s_pure (p_mv rfl)) ?_
    have hq := bindO_inv hr
    clear hr
    obtain ⟨v27, e27, hr⟩ := hq
    refine wo_step (v := v27) (s_pure (o_ext rfl e27)) ?_
    have hq := bindO_inv hr
    clear hr
    obtain ⟨v28, e28, hr⟩ := hq
    refine wo_step (v := v28) (s_pure (o_ext rfl e28)) ?_
    have hq := bindO_inv hr
    clear hr
    obtain ⟨v29, e29, hr⟩ := hq
    have hq := asI_inv hr
    clear hr
    obtain ⟨x29, rfl, hr⟩ := hq
    refine wo_step (v := (.i .i64 x29)) (s_pure (o_ext rfl e29)) ?_
    refine wo_step (v := v27) (s_pure (p_mv rfl)) ?_
    refine wo_step (v := v28) (s_pure (p_mv rfl)) ?_
    refine wo_step (v := (.i .i64 x29)) (s_pure (p_mv rfl)) ?_
    refine wo_nil ?_
    refine nx_norm ?_
    refine w_seq ?_
    refine w_ops ?_
    refine wo_step (v := (.i .i64 x0)) (s_pure (p_mv g0)) ?_
    refine wo_step (v := v1) (s_pure (p_mv g1)) ?_
    refine wo_step (v := v2) (s_pure (p_mv g2)) ?_
    have hq := bindP_inv hr
    clear hr
    obtain ⟨v34, m_4, e34, hr⟩ := hq
    refine wo_step (v := v34) (s_call (mc rfl (mc rfl (mc rfl mn))) (callM_le hM.call e34)) ?_
    refine wo_step (v := v34) (s_pure (p_mv rfl)) ?_
    have hq := bindO_inv hr
    clear hr
    obtain ⟨v35, e35, hr⟩ := hq
    refine wo_step (v := v35) (s_pure (o_ext rfl e35)) ?_
    have hq := bindO_inv hr
    clear hr
    obtain ⟨v36, e36, hr⟩ := hq
    refine wo_step (v := v36) (s_pure (o_ext rfl e36)) ?_
    have hq := bindO_inv hr
    clear hr
    obtain ⟨v37, e37, hr⟩ := hq
    have hq := asI_inv hr
    clear hr
    obtain ⟨x37, rfl, hr⟩ := hq
    refine wo_step (v := (.i .i64 x37)) (s_pure (o_ext rfl e37)) ?_
    refine wo_step (v := v35) (s_pure (p_mv rfl)) ?_
    refine wo_step (v := v36) (s_pure (p_mv rfl)) ?_
    refine wo_step (v := (.i .i64 x37)) (s_pure (p_mv rfl)) ?_
    refine wo_nil ?_
    refine nx_norm ?_
    refine w_seq ?_
    refine w_seq ?_
    refine w_ops ?_
    refine wo_step (v := v27) (s_pure (p_mv rfl)) ?_
    refine wo_step (v := v35) (s_pure (p_mv rfl)) ?_
    have hq := bindP_inv hr
    clear hr
    obtain ⟨v40, m_5, e40, hr⟩ := hq
    have hq := asB_inv hr
    clear hr
    obtain ⟨c40, rfl, hr⟩ := hq
    refine wo_step (v := (.b c40)) (s_call (mc rfl (mc rfl mn)) (callM_le hM.call e40)) ?_
    have hq := forceB_inv hr
    clear hr
    obtain ⟨c41, e41, hr⟩ := hq
    refine wo_step (v := (.b c41)) (s_pure ((p_not rfl).trans (cb e41))) ?_
    refine wo_step (v := (.b c41)) (s_pure (p_mv rfl)) ?_
    have hq := bindO_inv hr
    clear hr
    obtain ⟨o, hr, hk⟩ := hq
    refine wo_join 5 (g4_J0 x0 v1 v2 x29 x37 o) ?_ ?_
    · clear hk
      have hq := cond_inv hr
      clear hr
      rcases hq with ⟨rfl, hr⟩ | ⟨rfl, hr⟩
      · refine wo_skip (v := (.b true)) rfl rfl ?_
        refine wo_skip (v := (.b true)) rfl rfl ?_
        refine wo_skip (v := (.b true)) rfl rfl ?_
        refine wo_skip (v := (.b true)) rfl rfl ?_
        refine wo_step (v := (.b true)) (s_pure (p_pickT rfl rfl)) ?_
        refine wo_nil ?_
        cases hr
        exact ⟨_, _, rfl, rfl, gl rfl, gl g0, gl g1, gl g2, gl rfl, gl rfl⟩
      · refine wo_take (v := v28) rfl (s_pure (p_mv rfl)) ?_
        refine wo_take (v := v36) rfl (s_pure (p_mv rfl)) ?_
        have hq := bindP_inv hr
        clear hr
        obtain ⟨v45, m_7, e45, hr⟩ := hq
        have hq := asB_inv hr
        clear hr
        obtain ⟨c45, rfl, hr⟩ := hq
        refine wo_take (v := (.b c45)) rfl (s_call (mc rfl (mc rfl mn)) (callM_le hM.call e45)) ?_
        have hq := forceB_inv hr
        clear hr
        obtain ⟨c46, e46, hr⟩ := hq
        refine wo_take (v := (.b c46)) rfl (s_pure ((p_not rfl).trans (cb e46))) ?_
        refine wo_step (v := (.b c46)) (s_pure (p_pickF rfl rfl)) ?_
        refine wo_nil ?_
        cases hr
        exact ⟨_, _, rfl, rfl, gl rfl, gl g0, gl g1, gl g2, gl rfl, gl rfl⟩
    · clear hr
      have hr := hk
      clear hk
      obtain ⟨c47, m_6⟩ := o
      rintro mm t_1 ⟨rfl, g47, g0, g1, g2, g9, g12⟩
      refine wo_step (v := (.b c47)) (s_pure (p_mv g47)) ?_
      have hq := bindO_inv hr
      clear hr
      obtain ⟨o_1, hr, hk⟩ := hq
      refine wo_join 4 (g4_J1 x0 v1 v2 m_6 o_1) ?_ ?_
      · clear hk
        have hq := cond_inv hr
        clear hr
        rcases hq with ⟨rfl, hr⟩ | ⟨rfl, hr⟩
        · refine wo_skip (v := (.b true)) rfl rfl ?_
          refine wo_skip (v := (.b true)) rfl rfl ?_
          refine wo_skip (v := (.b true)) rfl rfl ?_
          refine wo_step (v := (.b true)) (s_pure (p_pickT rfl rfl)) ?_
          refine wo_nil ?_
          cases hr
          exact ⟨_, _, rfl, rfl, gl rfl, gl g0, gl g1, gl g2⟩
        · refine wo_take (v := (.i .i64 x29)) rfl (s_pure (p_mv g9)) ?_
          refine wo_take (v := (.i .i64 x37)) rfl (s_pure (p_mv g12)) ?_
          have hq := forceB_inv hr
          clear hr
          obtain ⟨c51, e51, hr⟩ := hq
          refine wo_take (v := (.b c51)) rfl (s_pure (p_bin rfl rfl (b_neq.trans (cb e51)))) ?_
          refine wo_step (v := (.b c51)) (s_pure (p_pickF rfl rfl)) ?_
          refine wo_nil ?_
          cases hr
          exact ⟨_, _, rfl, rfl, gl rfl, gl g0, gl g1, gl g2⟩
      · clear hr
        have hr := hk
        clear hk
        obtain ⟨c52, ho⟩ : ∃ z, z = o_1 := ⟨_, rfl⟩
        subst ho
        rintro mm_1 t_2 ⟨rfl, g52, g0, g1, g2⟩
        refine wo_nil ?_
        refine nx_norm ?_
        have hq := cond_inv hr
        clear hr
        rcases hq with ⟨rfl, hr⟩ | ⟨rfl, hr⟩
        · refine w_condT g52 ?_
          refine w_seq ?_
          refine w_ops ?_
          refine wo_step (v := (.b false)) (s_pure (p_mv rfl)) ?_
          refine wo_nil ?_
          refine nx_norm ?_
          refine w_ret ?_
          refine nx_ret ?_
          exact qf ret_ok (rt rfl rn) hr
        · refine w_condF g52 ?_
          refine w_skip ?_
          refine nx_norm ?_
          refine w_seq ?_
          refine w_ops ?_
          refine wo_step (v := (.i .i64 x0)) (s_pure (p_mv g0)) ?_
          refine wo_step (v := v1) (s_pure (p_mv g1)) ?_
          refine wo_step (v := v2) (s_pure (p_mv g2)) ?_
          have hq := bindP_inv hr
          clear hr
          obtain ⟨v57, m_8, e57, hr⟩ := hq
          refine wo_step (v := v57) (s_call (mc rfl (mc rfl (mc rfl mn))) (callM_le hM.call e57)) ?_
          refine wo_step (v := v57) (s_pure (p_mv rfl)) ?_
          have hq := bindO_inv hr
          clear hr
          obtain ⟨v58, e58, hr⟩ := hq
          have hq := asI_inv hr
          clear hr
          obtain ⟨x58, rfl, hr⟩ := hq
          refine wo_step (v := (.i .i64 x58)) (s_pure (o_ext rfl e58)) ?_
          have hq := bindO_inv hr
          clear hr
          obtain ⟨v59, e59, hr⟩ := hq
          have hq := asI_inv hr
          clear hr
          obtain ⟨x59, rfl, hr⟩ := hq
          refine wo_step (v := (.i .i64 x59)) (s_pure (o_ext rfl e59)) ?_
          have hq := bindO_inv hr
          clear hr
          obtain ⟨v60, e60, hr⟩ := hq
          have hq := asI_inv hr
          clear hr
          obtain ⟨x60, rfl, hr⟩ := hq
          refine wo_step (v := (.i .i64 x60)) (s_pure (o_ext rfl e60)) ?_
          refine wo_step (v := (.i .i64 x58)) (s_pure (p_mv rfl)) ?_
          refine wo_step (v := (.i .i64 x59)) (s_pure (p_mv rfl)) ?_
          refine wo_step (v := (.i .i64 x60)) (s_pure (p_mv rfl)) ?_
          refine wo_nil ?_
          refine nx_norm ?_
          refine w_seq ?_
          refine w_ops ?_
          refine wo_step (v := (.i .i64 x0)) (s_pure (p_mv g0)) ?_
          refine wo_step (v := v1) (s_pure (p_mv g1)) ?_
          refine wo_step (v := v2) (s_pure (p_mv g2)) ?_
          have hq := bindP_inv hr
          clear hr
          obtain ⟨v65, m_9, e65, hr⟩ := hq
          refine wo_step (v := v65) (s_call (mc rfl (mc rfl (mc rfl mn))) (callM_le hM.call e65)) ?_
          refine wo_step (v := v65) (s_pure (p_mv rfl)) ?_
          have hq := bindO_inv hr
          clear hr
          obtain ⟨v66, e66, hr⟩ := hq
          have hq := asI_inv hr
          clear hr
          obtain ⟨x66, rfl, hr⟩ := hq
          refine wo_step (v := (.i .i64 x66)) (s_pure (o_ext rfl e66)) ?_
          have hq := bindO_inv hr
          clear hr
          obtain ⟨v67, e67, hr⟩ := hq
          have hq := asI_inv hr
          clear hr
          obtain ⟨x67, rfl, hr⟩ := hq
          refine wo_step (v := (.i .i64 x67)) (s_pure (o_ext rfl e67)) ?_
          have hq := bindO_inv hr
          clear hr
          obtain ⟨v68, e68, hr⟩ := hq
          have hq := asI_inv hr
          clear hr
          obtain ⟨x68, rfl, hr⟩ := hq
          refine wo_step (v := (.i .i64 x68)) (s_pure (o_ext rfl e68)) ?_
          refine wo_step (v := (.i .i64 x66)) (s_pure (p_mv rfl)) ?_
          refine wo_step (v := (.i .i64 x67)) (s_pure (p_mv rfl)) ?_
          refine wo_step (v := (.i .i64 x68)) (s_pure (p_mv rfl)) ?_
          refine wo_nil ?_
          refine nx_norm ?_
          refine w_seq ?_
          refine w_ops ?_
          refine wo_step (v := (.i .i64 x58)) (s_pure (p_mv rfl)) ?_
          refine wo_step (v := (.i .i64 x66)) (s_pure (p_mv rfl)) ?_
          have hq := forceB_inv hr
          clear hr
          obtain ⟨c71, e71, hr⟩ := hq
          refine wo_step (v := (.b c71)) (s_pure (p_bin rfl rfl (b_eql.trans (cb e71)))) ?_
          refine wo_step (v := (.b c71)) (s_pure (p_mv rfl)) ?_
          have hq := bindO_inv hr
          clear hr
          obtain ⟨o_2, hr, hk⟩ := hq
          refine wo_join 4 (g4_J2 x60 x68 m_9 o_2) ?_ ?_
          · clear hk
            have hq := cond_inv hr
            clear hr
            rcases hq with ⟨rfl, hr⟩ | ⟨rfl, hr⟩
            · refine wo_take (v := (.i .i64 x59)) rfl (s_pure (p_mv rfl)) ?_
              refine wo_take (v := (.i .i64 x67)) rfl (s_pure (p_mv rfl)) ?_
              have hq := forceB_inv hr
              clear hr
              obtain ⟨c75, e75, hr⟩ := hq
              refine wo_take (v := (.b c75)) rfl (s_pure (p_bin rfl rfl (b_eql.trans (cb e75)))) ?_
              refine wo_step (v := (.b c75)) (s_pure (p_pickT rfl rfl)) ?_
              refine wo_nil ?_
              cases hr
              exact ⟨_, _, rfl, rfl, gl rfl, gl rfl, gl rfl⟩
            · refine wo_skip (v := (.b false)) rfl rfl ?_
              refine wo_skip (v := (.b false)) rfl rfl ?_
              refine wo_skip (v := (.b false)) rfl rfl ?_
              refine wo_step (v := (.b false)) (s_pure (p_pickF rfl rfl)) ?_
              refine wo_nil ?_
              cases hr
              exact ⟨_, _, rfl, rfl, gl rfl, gl rfl, gl rfl⟩
          · clear hr
            have hr := hk
            clear hk
            obtain ⟨c76, ho⟩ : ∃ z, z = o_2 := ⟨_, rfl⟩
            subst ho
            rintro mm_2 t_3 ⟨rfl, g76, g9, g12⟩
            refine wo_step (v := (.b c76)) (s_pure (p_mv g76)) ?_
            have hq := bindO_inv hr
            clear hr
            obtain ⟨o_3, hr, hk⟩ := hq
            refine wo_join 4 (g4_J3 m_9 o_3) ?_ ?_
            · clear hk
              have hq := cond_inv hr
              clear hr
              rcases hq with ⟨rfl, hr⟩ | ⟨rfl, hr⟩
              · refine wo_take (v := (.i .i64 x60)) rfl (s_pure (p_mv g9)) ?_
                refine wo_take (v := (.i .i64 x68)) rfl (s_pure (p_mv g12)) ?_
                have hq := forceB_inv hr
                clear hr
                obtain ⟨c80, e80, hr⟩ := hq
                refine wo_take (v := (.b c80)) rfl (s_pure (p_bin rfl rfl (b_eql.trans (cb e80)))) ?_
                refine wo_step (v := (.b c80)) (s_pure (p_pickT rfl rfl)) ?_
                refine wo_nil ?_
                cases hr
                exact ⟨_, _, rfl, rfl, gl rfl⟩
              · refine wo_skip (v := (.b false)) rfl rfl ?_
                refine wo_skip (v := (.b false)) rfl rfl ?_
                refine wo_skip (v := (.b false)) rfl rfl ?_
                refine wo_step (v := (.b false)) (s_pure (p_pickF rfl rfl)) ?_
                refine wo_nil ?_
                cases hr
                exact ⟨_, _, rfl, rfl, gl rfl⟩
            · clear hr
              have hr := hk
              clear hk
              obtain ⟨c81, ho⟩ : ∃ z, z = o_3 := ⟨_, rfl⟩
              subst ho
              rintro mm_3 t_4 ⟨rfl, g81⟩
              refine wo_step (v := (.b c81)) (s_pure (p_mv g81)) ?_
              have hq := bindO_inv hr
              clear hr
              obtain ⟨o_4, hr, hk⟩ := hq
              refine wo_join 2 (g4_J4  o_4) ?_ ?_
              · clear hk
                have hq := cond_inv hr
                clear hr
                rcases hq with ⟨rfl, hr⟩ | ⟨rfl, hr⟩
                · have hq := bindP_inv hr
                  clear hr
                  obtain ⟨v83, m_11, e83, hr⟩ := hq
                  have hq := asB_inv hr
                  clear hr
                  obtain ⟨c83, rfl, hr⟩ := hq
                  refine wo_take (v := (.b c83)) rfl (s_call mn (callM_le hM.call e83)) ?_
                  refine wo_step (v := (.b c83)) (s_pure (p_pickT rfl rfl)) ?_
                  refine wo_nil ?_
                  cases hr
                  exact ⟨_, _, rfl, rfl, gl rfl⟩
                · refine wo_skip (v := (.b false)) rfl rfl ?_
                  refine wo_step (v := (.b false)) (s_pure (p_pickF rfl rfl)) ?_
                  refine wo_nil ?_
                  cases hr
                  exact ⟨_, _, rfl, rfl, gl rfl⟩
              · clear hr
                have hr := hk
                clear hk
                obtain ⟨c84, m_10⟩ := o_4
                rintro mm_4 t_5 ⟨rfl, g84⟩
                refine wo_step (v := (.b c84)) (s_pure (p_mv g84)) ?_
                refine wo_nil ?_
                refine nx_norm ?_
                refine w_ret ?_
                exact qf ret_ok (rt rfl rn) hr

/- dibber/dibberlaw05.few -/
abbrev g15_I0 (v0 : AVal) (v1 : AVal) (m0 : Mm) (s : Int) (m1 : Mm) (t1 : Tr) : Prop :=
  match s with
  | x5 => m0 = m1 ∧ t1.get 5 = (.i .i64 x5) ∧ t1.get 0 = v0 ∧ t1.get 1 = v1
abbrev g15_J0 (v0 : AVal) (v1 : AVal) (m0 : Mm) (o : (Unit ⊕ Bool)) (e : AExit) (m1 : Mm) (t1 : Tr) : Prop :=
  match o with
  | (.inl _) => e = (.exit 0) ∧ m0 = m1 ∧ t1.get 1 = v1
  | (.inr y4) => e = .ret ∧ m0 = m1 ∧ t1.get 4 = (.b y4)
abbrev g15_J1 (v0 : AVal) (v1 : AVal) (x5 : Int) (m0 : Mm) (o : Bool) (m1 : Mm) (t1 : Tr) : Prop :=
  match o with
  | c21 => m0 = m1 ∧ t1.get 21 = (.b c21) ∧ t1.get 0 = v0 ∧ t1.get 1 = v1 ∧ t1.get 5 = (.i .i64 x5)
def g15_b0 (M : Means) (ro : List ABlk) (v0 : AVal) (v1 : AVal) (m0 : Mm) (x5 : Int) : Option ((Int) ⊕ ((Unit ⊕ Bool))) :=
  bindO (evP .e (.len false (.c v0))) fun v8 =>
  asI .i64 v8 fun x8 =>
  forceB (ltI x5 x8) fun c9 =>
  cond c9 (
    forceB (!ltI x5 250) fun c13 =>
    bindO (cond c13 (
      some true) (
      bindO (evP .e (.ixS 1 (.c v0) (.c (.i .i64 x5)))) fun v17 =>
      bindO (ldM ro m0 true 1 v17) fun v18 =>
      bindO (evP .e (.len false (.c v18))) fun v19 =>
      asI .i64 v19 fun x19 =>
      forceB (ltI 40 x19) fun c20 =>
      some c20)) fun c21 =>
    cond c21 (
      some (.inr (.inr false))) (
      forceI (wr .i64 (x5 + 1)) fun x11 =>
      some (.inl x11))) (
    some (.inr (.inl ())))
def g15 (M : Means) (ro : List ABlk) (v0 : AVal) (v1 : AVal) (m0 : Mm) : Option (AVal × Heap × Nat × Nat) :=
  bindO (M.loop (S := Int) (R := (Unit ⊕ Bool)) (fun s => g15_b0 M ro v0 v1 m0 s) 0) fun o_1 => match o_1 with
  | (.inl _) =>
    bindO (evP .e (.len false (.c v1))) fun v23 =>
    asI .i64 v23 fun x23 =>
    forceB (!ltI 1100 x23) fun c24 =>
    finM m0.h.length (tupA [(.b c24)]) m0
  | (.inr c4) =>
    finM m0.h.length (tupA [(.b c4)]) m0

theorem g15_ok {ro : List ABlk} {O : Caller} {M : Means} (hM : M.Ok ⟨F, O⟩ ro) {v0 v1 h r} (ho : O 15 [v0, v1] h = none) (hr : g15 M ro v0 v1 ⟨h, h.length, h.length⟩ = some r) : callX ⟨F, O⟩ ro 15 [v0, v1] h = some r := by
  refine callX_of (F := ⟨F, O⟩) (fn := fn15) (g := g15 M ro v0 v1) ho rfl rfl hr ?_
  clear ho
  clear hr
  intro m0 t0 ht hr
  have g0 : t0.get 0 = v0 := ht 0
  have g1 : t0.get 1 = v1 := ht 1
  clear ht
  unfold g15 at hr
  refine w_seq ?_
  refine w_ops ?_
  refine wo_step (v := (.b false)) (s_pure (p_mv rfl)) ?_
  refine wo_nil ?_
  refine nx_norm ?_
  refine w_seq ?_
  refine w_seq ?_
  refine w_ops ?_
  refine wo_step (v := (.i .i64 0)) (s_pure (p_mv rfl)) ?_
  refine wo_nil ?_
  refine nx_norm ?_
  refine w_block ?_
  have hq := bindO_inv hr
  clear hr
  obtain ⟨o_1, hl, hr⟩ := hq
  obtain ⟨n, hl⟩ := hM.loop _ _ _ hl
  refine jp_mono (w_loop _ (g15_I0 v0 v1 m0) (g15_J0 v0 v1 m0) ?_ n _ _ _ _ hl ⟨rfl, gl rfl, gl g0, gl g1⟩) ?_
  · clear hr hl
    intro s mm_3 t_1 o hi hr
    obtain ⟨x5, hs⟩ : ∃ z, z = s := ⟨_, rfl⟩
    subst hs
    obtain ⟨rfl, g5, g0, g1⟩ := hi
    unfold g15_b0 at hr
    refine w_seq ?_
    refine w_seq ?_
    refine w_ops ?_
    refine wo_step (v := (.i .i64 x5)) (s_pure (p_mv g5)) ?_
    refine wo_step (v := v0) (s_pure (p_mv g0)) ?_
    have hq := bindO_inv hr
    clear hr
    obtain ⟨v8, e8, hr⟩ := hq
    have hq := asI_inv hr
    clear hr
    obtain ⟨x8, rfl, hr⟩ := hq
    refine wo_step (v := (.i .i64 x8)) (s_pure (o_len rfl e8)) ?_
    have hq := forceB_inv hr
    clear hr
    obtain ⟨c9, e9, hr⟩ := hq
    refine wo_step (v := (.b c9)) (s_pure (p_bin rfl rfl (b_lss.trans (cb e9)))) ?_
    refine wo_nil ?_
    refine nx_norm ?_
    have hq := cond_inv hr
    clear hr
    rcases hq with ⟨rfl, hr⟩ | ⟨rfl, hr⟩
    · refine w_condT rfl ?_
      refine w_skip ?_
      refine nx_norm ?_
      refine w_seq ?_
      refine w_block ?_
      refine w_seq ?_
      refine w_ops ?_
      refine wo_step (v := (.i .i64 x5)) (s_pure (p_mv g5)) ?_
      have hq := forceB_inv hr
      clear hr
      obtain ⟨c13, e13, hr⟩ := hq
      refine wo_step (v := (.b c13)) (s_pure (p_bin rfl rfl (b_geq.trans (cb e13)))) ?_
      refine wo_step (v := (.b c13)) (s_pure (p_mv rfl)) ?_
      have hq := bindO_inv hr
      clear hr
      obtain ⟨o, hr, hk⟩ := hq
      refine wo_join 7 (g15_J1 v0 v1 x5 m0 o) ?_ ?_
      · clear hk
        have hq := cond_inv hr
        clear hr
        rcases hq with ⟨rfl, hr⟩ | ⟨rfl, hr⟩
        · refine wo_skip (v := (.b true)) rfl rfl ?_
          refine wo_skip (v := (.b true)) rfl rfl ?_
          refine wo_skip (v := (.b true)) rfl rfl ?_
          refine wo_skip (v := (.b true)) rfl rfl ?_
          refine wo_skip (v := (.b true)) rfl rfl ?_
          refine wo_skip (v := (.b true)) rfl rfl ?_
          refine wo_step (v := (.b true)) (s_pure (p_pickT rfl rfl)) ?_
          refine wo_nil ?_
          cases hr
          exact ⟨_, _, rfl, rfl, gl rfl, gl g0, gl g1, gl g5⟩
        · refine wo_take (v := v0) rfl (s_pure (p_mv g0)) ?_
          refine wo_take (v := (.i .i64 x5)) rfl (s_pure (p_mv g5)) ?_
          have hq := bindO_inv hr
          clear hr
          obtain ⟨v17, e17, hr⟩ := hq
          refine wo_take (v := v17) rfl (s_pure (o_ixS rfl rfl e17)) ?_
          have hq := bindO_inv hr
          clear hr
          obtain ⟨v18, e18, hr⟩ := hq
          refine wo_take (v := v18) rfl (s_ld rfl e18) ?_
          have hq := bindO_inv hr
          clear hr
          obtain ⟨v19, e19, hr⟩ := hq
          have hq := asI_inv hr
          clear hr
          obtain ⟨x19, rfl, hr⟩ := hq
          refine wo_take (v := (.i .i64 x19)) rfl (s_pure (o_len rfl e19)) ?_
          have hq := forceB_inv hr
          clear hr
          obtain ⟨c20, e20, hr⟩ := hq
          refine wo_take (v := (.b c20)) rfl (s_pure (p_bin rfl rfl (b_gtr.trans (cb e20)))) ?_
          refine wo_step (v := (.b c20)) (s_pure (p_pickF rfl rfl)) ?_
          refine wo_nil ?_
          cases hr
          exact ⟨_, _, rfl, rfl, gl rfl, gl g0, gl g1, gl g5⟩
      · clear hr
        have hr := hk
        clear hk
        obtain ⟨c21, ho⟩ : ∃ z, z = o := ⟨_, rfl⟩
        subst ho
        rintro mm t_2 ⟨rfl, g21, g0, g1, g5⟩
        refine wo_nil ?_
        refine nx_norm ?_
        have hq := cond_inv hr
        clear hr
        rcases hq with ⟨rfl, hr⟩ | ⟨rfl, hr⟩
        · refine w_condT g21 ?_
          refine w_seq ?_
          refine w_ops ?_
          refine wo_step (v := (.b false)) (s_pure (p_mv rfl)) ?_
          refine wo_nil ?_
          refine nx_norm ?_
          refine w_ret ?_
          refine bk_ret ?_
          refine nx_ret ?_
          cases hr
          exact ⟨_, _, rfl, ne_norm_ret, rfl, rfl, gl rfl⟩
        · refine w_condF g21 ?_
          refine w_skip ?_
          refine bk_norm ?_
          refine nx_norm ?_
          refine w_ops ?_
          refine wo_step (v := (.i .i64 x5)) (s_pure (p_mv g5)) ?_
          have hq := forceI_inv hr
          clear hr
          obtain ⟨x11, e11, hr⟩ := hq
          refine wo_step (v := (.i .i64 x11)) (s_pure (p_bin rfl rfl (b_add.trans (ci e11)))) ?_
          refine wo_step (v := (.i .i64 x11)) (s_pure (p_mv rfl)) ?_
          refine wo_nil ?_
          cases hr
          exact ⟨_, _, rfl, rfl, rfl, gl rfl, gl g0, gl g1⟩
    · refine w_condF rfl ?_
      refine w_exit ?_
      refine nx_exit ?_
      cases hr
      exact ⟨_, _, rfl, ne_norm_exit, rfl, rfl, gl g1⟩
  · rcases o_1 with o_1 | o_1
    · rintro _ mm_1 t_3 ⟨rfl, rfl, g1⟩
      refine bk_hit ?_
      refine nx_norm ?_
      refine w_seq ?_
      refine w_ops ?_
      refine wo_step (v := v1) (s_pure (p_mv g1)) ?_
      have hq := bindO_inv hr
      clear hr
      obtain ⟨v23, e23, hr⟩ := hq
      have hq := asI_inv hr
      clear hr
      obtain ⟨x23, rfl, hr⟩ := hq
      refine wo_step (v := (.i .i64 x23)) (s_pure (o_len rfl e23)) ?_
      have hq := forceB_inv hr
      clear hr
      obtain ⟨c24, e24, hr⟩ := hq
      refine wo_step (v := (.b c24)) (s_pure (p_bin rfl rfl (b_leq.trans (cb e24)))) ?_
      refine wo_step (v := (.b c24)) (s_pure (p_mv rfl)) ?_
      refine wo_nil ?_
      refine nx_norm ?_
      refine w_ret ?_
      exact qf ret_ok (rt rfl rn) hr
    · obtain ⟨c4, ho⟩ : ∃ z, z = o_1 := ⟨_, rfl⟩
      subst ho
      rintro _ mm_2 t_4 ⟨rfl, rfl, g4⟩
      refine bk_ret ?_
      refine nx_ret ?_
      exact qf ret_ok (rt g4 rn) hr

/- dibber/dibberlaw05.alive -/
abbrev g16_J0 (v17 : AVal) (x22 : Int) (x23 : Int) (v6 : AVal) (x28 : Int) (v8 : AVal) (x34 : Int) (o : Bool × Mm) (m1 : Mm) (t1 : Tr) : Prop :=
  match o with
  | (c41, m_17) => m_17 = m1 ∧ t1.get 41 = (.b c41) ∧ t1.get 2 = v17 ∧ t1.get 4 = (.i .i64 x22) ∧ t1.get 5 = (.i .i64 x23) ∧ t1.get 6 = v6 ∧ t1.get 7 = (.i .i64 x28) ∧ t1.get 8 = v8 ∧ t1.get 9 = (.i .i64 x34)
abbrev g16_J1 (x22 : Int) (x23 : Int) (v6 : AVal) (x28 : Int) (v8 : AVal) (x34 : Int) (o : Bool × Mm) (m1 : Mm) (t1 : Tr) : Prop :=
  match o with
  | (c46, m_20) => m_20 = m1 ∧ t1.get 46 = (.b c46) ∧ t1.get 4 = (.i .i64 x22) ∧ t1.get 5 = (.i .i64 x23) ∧ t1.get 6 = v6 ∧ t1.get 7 = (.i .i64 x28) ∧ t1.get 8 = v8 ∧ t1.get 9 = (.i .i64 x34)
abbrev g16_J2 (x22 : Int) (v6 : AVal) (x28 : Int) (v8 : AVal) (x34 : Int) (m_20 : Mm) (o : Bool) (m1 : Mm) (t1 : Tr) : Prop :=
  match o with
  | c50 => m_20 = m1 ∧ t1.get 50 = (.b c50) ∧ t1.get 4 = (.i .i64 x22) ∧ t1.get 6 = v6 ∧ t1.get 7 = (.i .i64 x28) ∧ t1.get 8 = v8 ∧ t1.get 9 = (.i .i64 x34)
abbrev g16_J3 (v6 : AVal) (x28 : Int) (v8 : AVal) (x34 : Int) (m_20 : Mm) (o : Bool) (m1 : Mm) (t1 : Tr) : Prop :=
  match o with
  | c54 => m_20 = m1 ∧ t1.get 54 = (.b c54) ∧ t1.get 6 = v6 ∧ t1.get 7 = (.i .i64 x28) ∧ t1.get 8 = v8 ∧ t1.get 9 = (.i .i64 x34)
abbrev g16_J4 (v6 : AVal) (v8 : AVal) (x34 : Int) (m_20 : Mm) (o : Bool) (m1 : Mm) (t1 : Tr) : Prop :=
  match o with
  | c58 => m_20 = m1 ∧ t1.get 58 = (.b c58) ∧ t1.get 6 = v6 ∧ t1.get 8 = v8 ∧ t1.get 9 = (.i .i64 x34)
abbrev g16_J5 (v8 : AVal) (x34 : Int) (m_20 : Mm) (o : Bool) (m1 : Mm) (t1 : Tr) : Prop :=
  match o with
  | c63 => m_20 = m1 ∧ t1.get 63 = (.b c63) ∧ t1.get 8 = v8 ∧ t1.get 9 = (.i .i64 x34)
abbrev g16_J6 (v8 : AVal) (m_20 : Mm) (o : Bool) (m1 : Mm) (t1 : Tr) : Prop :=
  match o with
  | c67 => m_20 = m1 ∧ t1.get 67 = (.b c67) ∧ t1.get 8 = v8
abbrev g16_J7 (m_20 : Mm) (o : Bool) (m1 : Mm) (t1 : Tr) : Prop :=
  match o with
  | c72 => m_20 = m1 ∧ t1.get 72 = (.b c72)
def g16 (M : Means) (ro : List ABlk)  (m0 : Mm) : Option (AVal × Heap × Nat × Nat) :=
  bindP (stepM ro m0 (.bsl 3 1 [(AVal.i IntKind.i64 0)] 2 [((0, 1), .c (.i .i64 0)), ((1, 1), .c (.i .i64 1))])) fun v11 m_1 =>
  bindP (stepM ro m_1 (.bsl 3 1 [(AVal.i IntKind.i64 0)] 2 [((0, 1), .c (.i .i64 0)), ((1, 1), .c (.i .i64 1))])) fun v12 m_2 =>
  bindP (stepM ro m_2 (.bsl 23 1 [AVal.nsl] 2 [((0, 1), .c v11), ((1, 1), .c v12)])) fun v13 m_3 =>
  bindP (stepM ro m_3 (.bsl 3 1 [(AVal.i IntKind.i64 0)] 2 [((0, 1), .c (.i .i64 1)), ((1, 1), .c (.i .i64 1))])) fun v14 m_4 =>
  bindP (callM M.call m_4 23 [(.i .i64 2), v13, v14]) fun v15 m_5 =>
  bindO (evP .e (.ext 0 (.c v15))) fun v16 =>
  bindO (evP .e (.ext 1 (.c v15))) fun v17 =>
  bindO (evP .e (.ext 2 (.c v15))) fun v18 =>
  asI .i64 v18 fun x18 =>
  bindP (stepM ro m_5 (.bsl 3 1 [(AVal.i IntKind.i64 0)] 2 [((0, 1), .c (.i .i64 29)), ((1, 1), .c (.i .i64 30))])) fun v20 m_6 =>
  bindP (callM M.call m_6 29 [(.i .i64 1), v20]) fun v21 m_7 =>
  bindO (evP .e (.ext 0 (.c v21))) fun v22 =>
  asI .i64 v22 fun x22 =>
  bindO (evP .e (.ext 1 (.c v21))) fun v23 =>
  asI .i64 v23 fun x23 =>
  bindP (stepM ro m_7 (.bsl 3 1 [(AVal.i IntKind.i64 0)] 2 [((0, 1), .c (.i .i64 0)), ((1, 1), .c (.i .i64 60))])) fun v25 m_8 =>
  bindP (callM M.call m_8 31 [(.i .i64 1), v25, AVal.nsl]) fun v26 m_9 =>
  bindO (evP .e (.ext 0 (.c v26))) fun v27 =>
  bindO (evP .e (.ext 1 (.c v26))) fun v28 =>
  asI .i64 v28 fun x28 =>
  bindP (stepM ro m_9 (.al 42 [(AVal.i IntKind.i64 0), (AVal.i IntKind.i64 0)])) fun v6 m_10 =>
  bindP (stepM ro m_10 (.st 2 (.c v6) (.c v27))) fun vn m_11 =>
  bindP (stepM ro m_11 (.bsl 3 1 [(AVal.i IntKind.i64 0)] 2 [((0, 1), .c (.i .i64 0)), ((1, 1), .c (.i .i64 1))])) fun v30 m_12 =>
  bindP (stepM ro m_12 (.bsl 23 1 [AVal.nsl] 1 [((0, 1), .c v30)])) fun v31 m_13 =>
  bindP (callM M.call m_13 35 [(.i .i64 1), (.i .i64 2), v31]) fun v32 m_14 =>
  bindO (evP .e (.ext 0 (.c v32))) fun v33 =>
  bindO (evP .e (.ext 1 (.c v32))) fun v34 =>
  asI .i64 v34 fun x34 =>
  bindP (stepM ro m_14 (.al 42 [(AVal.i IntKind.i64 0), (AVal.i IntKind.i64 0)])) fun v8 m_15 =>
  bindP (stepM ro m_15 (.st 2 (.c v8) (.c v33))) fun vn_1 m_16 =>
  forceB (eqI x18 0) fun c36 =>
  bindO (cond c36 (
    bindP (stepM ro m_16 (.bsl 3 1 [(AVal.i IntKind.i64 0)] 2 [((0, 1), .c (.i .i64 0)), ((1, 1), .c (.i .i64 1))])) fun v39 m_18 =>
    bindP (callM M.call m_18 20 [v16, v39]) fun v40 m_19 =>
    asB v40 fun c40 =>
    some (c40, m_19)) (
    some (false, m_16))) fun ⟨c41, m_17⟩ =>
  bindO (cond c41 (
    bindP (stepM ro m_17 (.bsl 3 1 [(AVal.i IntKind.i64 0)] 2 [((0, 1), .c (.i .i64 2)), ((1, 1), .c (.i .i64 0))])) fun v44 m_21 =>
    bindP (callM M.call m_21 20 [v17, v44]) fun v45 m_22 =>
    asB v45 fun c45 =>
    some (c45, m_22)) (
    some (false, m_17))) fun ⟨c46, m_20⟩ =>
  bindO (cond c46 (
    forceB (eqI x23 0) fun c49 =>
    some c49) (
    some false)) fun c50 =>
  bindO (cond c50 (
    forceB (eqI x22 0) fun c53 =>
    some c53) (
    some false)) fun c54 =>
  bindO (cond c54 (
    forceB (eqI x28 0) fun c57 =>
    some c57) (
    some false)) fun c58 =>
  bindO (cond c58 (
    bindO (ldM ro m_20 false 2 v6) fun v60 =>
    bindO ((fillA [(AVal.i IntKind.i64 0), (AVal.i IntKind.i64 0)] [((0, 1), (.i .i64 0)), ((1, 1), (.i .i64 1))]).map AVal.agg) fun v61 =>
    bindO (evP .e (.seq false [0, 1] (.c v60) (.c v61))) fun v62 =>
    asB v62 fun c62 =>
    some c62) (
    some false)) fun c63 =>
  bindO (cond c63 (
    forceB (eqI x34 0) fun c66 =>
    some c66) (
    some false)) fun c67 =>
  bindO (cond c67 (
    bindO (ldM ro m_20 false 2 v8) fun v69 =>
    bindO ((fillA [(AVal.i IntKind.i64 0), (AVal.i IntKind.i64 0)] [((0, 1), (.i .i64 1)), ((1, 1), (.i .i64 2))]).map AVal.agg) fun v70 =>
    bindO (evP .e (.seq false [0, 1] (.c v69) (.c v70))) fun v71 =>
    asB v71 fun c71 =>
    some c71) (
    some false)) fun c72 =>
  finM m0.h.length (tupA [(.b c72)]) m_20

theorem g16_ok {ro : List ABlk} {O : Caller} {M : Means} (hM : M.Ok ⟨F, O⟩ ro) {h r} (ho : O 16 [] h = none) (hr : g16 M ro  ⟨h, h.length, h.length⟩ = some r) : callX ⟨F, O⟩ ro 16 [] h = some r := by
  refine callX_of (F := ⟨F, O⟩) (fn := fn16) (g := g16 M ro ) ho rfl rfl hr ?_
  clear ho
  clear hr
  intro m0 t0 ht hr

  clear ht
  unfold g16 at hr
  refine w_seq ?_
  refine w_ops ?_
  refine wo_step (v := (.b false)) (s_pure (p_mv rfl)) ?_
  refine wo_nil ?_
  refine nx_norm ?_
  refine w_seq ?_
  refine w_ops ?_
  have hq := bindP_inv hr
  clear hr
  obtain ⟨v11, m_1, e11, hr⟩ := hq
  refine wo_step (v := v11) (s_bsl (qc rfl (qc rfl qn)) e11) ?_
  have hq := bindP_inv hr
  clear hr
  obtain ⟨v12, m_2, e12, hr⟩ := hq
  refine wo_step (v := v12) (s_bsl (qc rfl (qc rfl qn)) e12) ?_
  have hq := bindP_inv hr
  clear hr
  obtain ⟨v13, m_3, e13, hr⟩ := hq
  refine wo_step (v := v13) (s_bsl (qc rfl (qc rfl qn)) e13) ?_
  have hq := bindP_inv hr
  clear hr
  obtain ⟨v14, m_4, e14, hr⟩ := hq
  refine wo_step (v := v14) (s_bsl (qc rfl (qc rfl qn)) e14) ?_
  have hq := bindP_inv hr
  clear hr
  obtain ⟨v15, m_5, e15, hr⟩ := hq
  refine wo_step (v := v15) (s_call (mc rfl (mc rfl (mc rfl mn))) (callM_le hM.call e15)) ?_
  refine wo_step (v := v15) (s_pure (p_mv rfl)) ?_
  have hq := bindO_inv hr
  clear hr
  obtain ⟨v16, e16, hr⟩ := hq
  refine wo_step (v := v16) (s_pure (o_ext rfl e16)) ?_
  have hq := bindO_inv hr
  clear hr
  obtain ⟨v17, e17, hr⟩ := hq
  refine wo_step (v := v17) (s_pure (o_ext rfl e17)) ?_
  have hq := bindO_inv hr
  clear hr
  obtain ⟨v18, e18, hr⟩ := hq
  have hq := asI_inv hr
  clear hr
  obtain ⟨x18, rfl, hr⟩ := hq
  refine wo_step (v := (.i .i64 x18)) (s_pure (o_ext rfl e18)) ?_
  refine wo_step (v := v16) (s_pure (p_mv rfl)) ?_
  refine wo_step (v := v17) (s_pure (p_mv rfl)) ?_
  refine wo_step (v := (.i .i64 x18)) (s_pure (p_mv rfl)) ?_
  refine wo_nil ?_
  refine nx_norm ?_
  refine w_seq ?_
  refine w_ops ?_
  have hq := bindP_inv hr
  clear hr
  obtain ⟨v20, m_6, e20, hr⟩ := hq
  refine wo_step (v := v20) (s_bsl (qc rfl (qc rfl qn)) e20) ?_
  have hq := bindP_inv hr
  clear hr
  obtain ⟨v21, m_7, e21, hr⟩ := hq
  refine wo_step (v := v21) (s_call (mc rfl (mc rfl mn)) (callM_le hM.call e21)) ?_
  refine wo_step (v := v21) (s_pure (p_mv rfl)) ?_
  have hq := bindO_inv hr
  clear hr
  obtain ⟨v22, e22, hr⟩ := hq
  have hq := asI_inv hr
  clear hr
  obtain ⟨x22, rfl, hr⟩ := hq
  refine wo_step (v := (.i .i64 x22)) (s_pure (o_ext rfl e22)) ?_
  have hq := bindO_inv hr
  clear hr
  obtain ⟨v23, e23, hr⟩ := hq
  have hq := asI_inv hr
  clear hr
  obtain ⟨x23, rfl, hr⟩ := hq
  refine wo_step (v := (.i .i64 x23)) (s_pure (o_ext rfl e23)) ?_
  refine wo_step (v := (.i .i64 x22)) (s_pure (p_mv rfl)) ?_
  refine wo_step (v := (.i .i64 x23)) (s_pure (p_mv rfl)) ?_
  refine wo_nil ?_
  refine nx_norm ?_
  refine w_seq ?_
  refine w_ops ?_
  have hq := bindP_inv hr
  clear hr
  obtain ⟨v25, m_8, e25, hr⟩ := hq
  refine wo_step (v := v25) (s_bsl (qc rfl (qc rfl qn)) e25) ?_
  have hq := bindP_inv hr
  clear hr
  obtain ⟨v26, m_9, e26, hr⟩ := hq
  refine wo_step (v := v26) (s_call (mc rfl (mc rfl (mc rfl mn))) (callM_le hM.call e26)) ?_
  refine wo_step (v := v26) (s_pure (p_mv rfl)) ?_
  have hq := bindO_inv hr
  clear hr
  obtain ⟨v27, e27, hr⟩ := hq
  refine wo_step (v := v27) (s_pure (o_ext rfl e27)) ?_
  have hq := bindO_inv hr
  clear hr
  obtain ⟨v28, e28, hr⟩ := hq
  have hq := asI_inv hr
  clear hr
  obtain ⟨x28, rfl, hr⟩ := hq
  refine wo_step (v := (.i .i64 x28)) (s_pure (o_ext rfl e28)) ?_
  have hq := bindP_inv hr
  clear hr
  obtain ⟨v6, m_10, e6, hr⟩ := hq
  refine wo_step (v := v6) (s_al e6) ?_
  have hq := bindP_inv hr
  clear hr
  obtain ⟨vn, m_11, en, hr⟩ := hq
  refine wo_stepN (s_st rfl rfl en) ?_
  refine wo_step (v := (.i .i64 x28)) (s_pure (p_mv rfl)) ?_
  refine wo_nil ?_
  refine nx_norm ?_
  refine w_seq ?_
  refine w_ops ?_
  have hq := bindP_inv hr
  clear hr
  obtain ⟨v30, m_12, e30, hr⟩ := hq
  refine wo_step (v := v30) (s_bsl (qc rfl (qc rfl qn)) e30) ?_
  have hq := bindP_inv hr
  clear hr
  obtain ⟨v31, m_13, e31, hr⟩ := hq
  refine wo_step (v := v31) (s_bsl (qc rfl qn) e31) ?_
  have hq := bindP_inv hr
  clear hr
  obtain ⟨v32, m_14, e32, hr⟩ := hq
  refine wo_step (v := v32) (s_call (mc rfl (mc rfl (mc rfl mn))) (callM_le hM.call e32)) ?_
  refine wo_step (v := v32) (s_pure (p_mv rfl)) ?_
  have hq := bindO_inv hr
  clear hr
  obtain ⟨v33, e33, hr⟩ := hq
  refine wo_step (v := v33) (s_pure (o_ext rfl e33)) ?_
  have hq := bindO_inv hr
  clear hr
  obtain ⟨v34, e34, hr⟩ := hq
  have hq := asI_inv hr
  clear hr
  obtain ⟨x34, rfl, hr⟩ := hq
  refine wo_step (v := (.i .i64 x34)) (s_pure (o_ext rfl e34)) ?_
  have hq := bindP_inv hr
  clear hr
  obtain ⟨v8, m_15, e8, hr⟩ := hq
  refine wo_step (v := v8) (s_al e8) ?_
  have hq := bindP_inv hr
  clear hr
  obtain ⟨vn_1, m_16, en_1, hr⟩ := hq
  refine wo_stepN (s_st rfl rfl en_1) ?_
  refine wo_step (v := (.i .i64 x34)) (s_pure (p_mv rfl)) ?_
  refine wo_nil ?_
  refine nx_norm ?_
  refine w_seq ?_
  refine w_ops ?_
  refine wo_step (v := (.i .i64 x18)) (s_pure (p_mv rfl)) ?_
  have hq := forceB_inv hr
  clear hr
  obtain ⟨c36, e36, hr⟩ := hq
  refine wo_step (v := (.b c36)) (s_pure (p_bin rfl rfl (b_eql.trans (cb e36)))) ?_
  refine wo_step (v := (.b c36)) (s_pure (p_mv rfl)) ?_
  have hq := bindO_inv hr
  clear hr
  obtain ⟨o, hr, hk⟩ := hq
  refine wo_join 4 (g16_J0 v17 x22 x23 v6 x28 v8 x34 o) ?_ ?_
  · clear hk
    have hq := cond_inv hr
    clear hr
    rcases hq with ⟨rfl, hr⟩ | ⟨rfl, hr⟩
    · refine wo_take (v := v16) rfl (s_pure (p_mv rfl)) ?_
      have hq := bindP_inv hr
      clear hr
      obtain ⟨v39, m_18, e39, hr⟩ := hq
      refine wo_take (v := v39) rfl (s_bsl (qc rfl (qc rfl qn)) e39) ?_
      have hq := bindP_inv hr
      clear hr
      obtain ⟨v40, m_19, e40, hr⟩ := hq
      have hq := asB_inv hr
      clear hr
      obtain ⟨c40, rfl, hr⟩ := hq
      refine wo_take (v := (.b c40)) rfl (s_call (mc rfl (mc rfl mn)) (callM_le hM.call e40)) ?_
      refine wo_step (v := (.b c40)) (s_pure (p_pickT rfl rfl)) ?_
      refine wo_nil ?_
      cases hr
      exact ⟨_, _, rfl, rfl, gl rfl, gl rfl, gl rfl, gl rfl, gl rfl, gl rfl, gl rfl, gl rfl⟩
    · refine wo_skip (v := (.b false)) rfl rfl ?_
      refine wo_skip (v := (.b false)) rfl rfl ?_
      refine wo_skip (v := (.b false)) rfl rfl ?_
      refine wo_step (v := (.b false)) (s_pure (p_pickF rfl rfl)) ?_
      refine wo_nil ?_
      cases hr
      exact ⟨_, _, rfl, rfl, gl rfl, gl rfl, gl rfl, gl rfl, gl rfl, gl rfl, gl rfl, gl rfl⟩
  · clear hr
    have hr := hk
    clear hk
    obtain ⟨c41, m_17⟩ := o
    rintro mm t_1 ⟨rfl, g41, g2, g4, g5, g6, g7, g8, g9⟩
    refine wo_step (v := (.b c41)) (s_pure (p_mv g41)) ?_
    have hq := bindO_inv hr
    clear hr
    obtain ⟨o_1, hr, hk⟩ := hq
    refine wo_join 4 (g16_J1 x22 x23 v6 x28 v8 x34 o_1) ?_ ?_
    · clear hk
      have hq := cond_inv hr
      clear hr
      rcases hq with ⟨rfl, hr⟩ | ⟨rfl, hr⟩
      · refine wo_take (v := v17) rfl (s_pure (p_mv g2)) ?_
        have hq := bindP_inv hr
        clear hr
        obtain ⟨v44, m_21, e44, hr⟩ := hq
        refine wo_take (v := v44) rfl (s_bsl (qc rfl (qc rfl qn)) e44) ?_
        have hq := bindP_inv hr
        clear hr
        obtain ⟨v45, m_22, e45, hr⟩ := hq
        have hq := asB_inv hr
        clear hr
        obtain ⟨c45, rfl, hr⟩ := hq
        refine wo_take (v := (.b c45)) rfl (s_call (mc rfl (mc rfl mn)) (callM_le hM.call e45)) ?_
        refine wo_step (v := (.b c45)) (s_pure (p_pickT rfl rfl)) ?_
        refine wo_nil ?_
        cases hr
        exact ⟨_, _, rfl, rfl, gl rfl, gl g4, gl g5, gl g6, gl g7, gl g8, gl g9⟩
      · refine wo_skip (v := (.b false)) rfl rfl ?_
        refine wo_skip (v := (.b false)) rfl rfl ?_
        refine wo_skip (v := (.b false)) rfl rfl ?_
        refine wo_step (v := (.b false)) (s_pure (p_pickF rfl rfl)) ?_
        refine wo_nil ?_
        cases hr
        exact ⟨_, _, rfl, rfl, gl rfl, gl g4, gl g5, gl g6, gl g7, gl g8, gl g9⟩
    · clear hr
      have hr := hk
      clear hk
      obtain ⟨c46, m_20⟩ := o_1
      rintro mm_1 t_2 ⟨rfl, g46, g4, g5, g6, g7, g8, g9⟩
      refine wo_step (v := (.b c46)) (s_pure (p_mv g46)) ?_
      have hq := bindO_inv hr
      clear hr
      obtain ⟨o_2, hr, hk⟩ := hq
      refine wo_join 3 (g16_J2 x22 v6 x28 v8 x34 m_20 o_2) ?_ ?_
      · clear hk
        have hq := cond_inv hr
        clear hr
        rcases hq with ⟨rfl, hr⟩ | ⟨rfl, hr⟩
        · refine wo_take (v := (.i .i64 x23)) rfl (s_pure (p_mv g5)) ?_
          have hq := forceB_inv hr
          clear hr
          obtain ⟨c49, e49, hr⟩ := hq
          refine wo_take (v := (.b c49)) rfl (s_pure (p_bin rfl rfl (b_eql.trans (cb e49)))) ?_
          refine wo_step (v := (.b c49)) (s_pure (p_pickT rfl rfl)) ?_
          refine wo_nil ?_
          cases hr
          exact ⟨_, _, rfl, rfl, gl rfl, gl g4, gl g6, gl g7, gl g8, gl g9⟩
        · refine wo_skip (v := (.b false)) rfl rfl ?_
          refine wo_skip (v := (.b false)) rfl rfl ?_
          refine wo_step (v := (.b false)) (s_pure (p_pickF rfl rfl)) ?_
          refine wo_nil ?_
          cases hr
          exact ⟨_, _, rfl, rfl, gl rfl, gl g4, gl g6, gl g7, gl g8, gl g9⟩
      · clear hr
        have hr := hk
        clear hk
        obtain ⟨c50, ho⟩ : ∃ z, z = o_2 := ⟨_, rfl⟩
        subst ho
        rintro mm_2 t_3 ⟨rfl, g50, g4, g6, g7, g8, g9⟩
        refine wo_step (v := (.b c50)) (s_pure (p_mv g50)) ?_
        have hq := bindO_inv hr
        clear hr
        obtain ⟨o_3, hr, hk⟩ := hq
        refine wo_join 3 (g16_J3 v6 x28 v8 x34 m_20 o_3) ?_ ?_
        · clear hk
          have hq := cond_inv hr
          clear hr
          rcases hq with ⟨rfl, hr⟩ | ⟨rfl, hr⟩
          · refine wo_take (v := (.i .i64 x22)) rfl (s_pure (p_mv g4)) ?_
            have hq := forceB_inv hr
            clear hr
            obtain ⟨c53, e53, hr⟩ := hq
            refine wo_take (v := (.b c53)) rfl (s_pure (p_bin rfl rfl (b_eql.trans (cb e53)))) ?_
            refine wo_step (v := (.b c53)) (s_pure (p_pickT rfl rfl)) ?_
            refine wo_nil ?_
            cases hr
            exact ⟨_, _, rfl, rfl, gl rfl, gl g6, gl g7, gl g8, gl g9⟩
          · refine wo_skip (v := (.b false)) rfl rfl ?_
            refine wo_skip (v := (.b false)) rfl rfl ?_
            refine wo_step (v := (.b false)) (s_pure (p_pickF rfl rfl)) ?_
            refine wo_nil ?_
            cases hr
            exact ⟨_, _, rfl, rfl, gl rfl, gl g6, gl g7, gl g8, gl g9⟩
        · clear hr
          have hr := hk
          clear hk
          obtain ⟨c54, ho⟩ : ∃ z, z = o_3 := ⟨_, rfl⟩
          subst ho
          rintro mm_3 t_4 ⟨rfl, g54, g6, g7, g8, g9⟩
          refine wo_step (v := (.b c54)) (s_pure (p_mv g54)) ?_
          have hq := bindO_inv hr
          clear hr
          obtain ⟨o_4, hr, hk⟩ := hq
          refine wo_join 3 (g16_J4 v6 v8 x34 m_20 o_4) ?_ ?_
          · clear hk
            have hq := cond_inv hr
            clear hr
            rcases hq with ⟨rfl, hr⟩ | ⟨rfl, hr⟩
            · refine wo_take (v := (.i .i64 x28)) rfl (s_pure (p_mv g7)) ?_
              have hq := forceB_inv hr
              clear hr
              obtain ⟨c57, e57, hr⟩ := hq
              refine wo_take (v := (.b c57)) rfl (s_pure (p_bin rfl rfl (b_eql.trans (cb e57)))) ?_
              refine wo_step (v := (.b c57)) (s_pure (p_pickT rfl rfl)) ?_
              refine wo_nil ?_
              cases hr
              exact ⟨_, _, rfl, rfl, gl rfl, gl g6, gl g8, gl g9⟩
            · refine wo_skip (v := (.b false)) rfl rfl ?_
              refine wo_skip (v := (.b false)) rfl rfl ?_
              refine wo_step (v := (.b false)) (s_pure (p_pickF rfl rfl)) ?_
              refine wo_nil ?_
              cases hr
              exact ⟨_, _, rfl, rfl, gl rfl, gl g6, gl g8, gl g9⟩
          · clear hr
            have hr := hk
            clear hk
            obtain ⟨c58, ho⟩ : ∃ z, z = o_4 := ⟨_, rfl⟩
            subst ho
            rintro mm_4 t_5 ⟨rfl, g58, g6, g8, g9⟩
            refine wo_step (v := (.b c58)) (s_pure (p_mv g58)) ?_
            have hq := bindO_inv hr
            clear hr
            obtain ⟨o_5, hr, hk⟩ := hq
            refine wo_join 4 (g16_J5 v8 x34 m_20 o_5) ?_ ?_
            · clear hk
              have hq := cond_inv hr
              clear hr
              rcases hq with ⟨rfl, hr⟩ | ⟨rfl, hr⟩
              · have hq := bindO_inv hr
                clear hr
                obtain ⟨v60, e60, hr⟩ := hq
                refine wo_take (v := v60) rfl (s_ld g6 e60) ?_
                have hq := bindO_inv hr
                clear hr
                obtain ⟨v61, e61, hr⟩ := hq
                refine wo_take (v := v61) rfl (s_pure (o_build (qc rfl (qc rfl qn)) e61)) ?_
                have hq := bindO_inv hr
                clear hr
                obtain ⟨v62, e62, hr⟩ := hq
                have hq := asB_inv hr
                clear hr
                obtain ⟨c62, rfl, hr⟩ := hq
                refine wo_take (v := (.b c62)) rfl (s_pure (o_seq rfl rfl e62)) ?_
                refine wo_step (v := (.b c62)) (s_pure (p_pickT rfl rfl)) ?_
                refine wo_nil ?_
                cases hr
                exact ⟨_, _, rfl, rfl, gl rfl, gl g8, gl g9⟩
              · refine wo_skip (v := (.b false)) rfl rfl ?_
                refine wo_skip (v := (.b false)) rfl rfl ?_
                refine wo_skip (v := (.b false)) rfl rfl ?_
                refine wo_step (v := (.b false)) (s_pure (p_pickF rfl rfl)) ?_
                refine wo_nil ?_
                cases hr
                exact ⟨_, _, rfl, rfl, gl rfl, gl g8, gl g9⟩
            · clear hr
              have hr := hk
              clear hk
              obtain ⟨c63, ho⟩ : ∃ z, z = o_5 := ⟨_, rfl⟩
              subst ho
              rintro mm_5 t_6 ⟨rfl, g63, g8, g9⟩
              refine wo_step (v := (.b c63)) (s_pure (p_mv g63)) ?_
              have hq := bindO_inv hr
              clear hr
              obtain ⟨o_6, hr, hk⟩ := hq
              refine wo_join 3 (g16_J6 v8 m_20 o_6) ?_ ?_
              · clear hk
                have hq := cond_inv hr
                clear hr
                rcases hq with ⟨rfl, hr⟩ | ⟨rfl, hr⟩
                · refine wo_take (v := (.i .i64 x34)) rfl (s_pure (p_mv g9)) ?_
                  have hq := forceB_inv hr
                  clear hr
                  obtain ⟨c66, e66, hr⟩ := hq
                  refine wo_take (v := (.b c66)) rfl (s_pure (p_bin rfl rfl (b_eql.trans (cb e66)))) ?_
                  refine wo_step (v := (.b c66)) (s_pure (p_pickT rfl rfl)) ?_
                  refine wo_nil ?_
                  cases hr
                  exact ⟨_, _, rfl, rfl, gl rfl, gl g8⟩
                · refine wo_skip (v := (.b false)) rfl rfl ?_
                  refine wo_skip (v := (.b false)) rfl rfl ?_
                  refine wo_step (v := (.b false)) (s_pure (p_pickF rfl rfl)) ?_
                  refine wo_nil ?_
                  cases hr
                  exact ⟨_, _, rfl, rfl, gl rfl, gl g8⟩
              · clear hr
                have hr := hk
                clear hk
                obtain ⟨c67, ho⟩ : ∃ z, z = o_6 := ⟨_, rfl⟩
                subst ho
                rintro mm_6 t_7 ⟨rfl, g67, g8⟩
                refine wo_step (v := (.b c67)) (s_pure (p_mv g67)) ?_
                have hq := bindO_inv hr
                clear hr
                obtain ⟨o_7, hr, hk⟩ := hq
                refine wo_join 4 (g16_J7 m_20 o_7) ?_ ?_
                · clear hk
                  have hq := cond_inv hr
                  clear hr
                  rcases hq with ⟨rfl, hr⟩ | ⟨rfl, hr⟩
                  · have hq := bindO_inv hr
                    clear hr
                    obtain ⟨v69, e69, hr⟩ := hq
                    refine wo_take (v := v69) rfl (s_ld g8 e69) ?_
                    have hq := bindO_inv hr
                    clear hr
                    obtain ⟨v70, e70, hr⟩ := hq
                    refine wo_take (v := v70) rfl (s_pure (o_build (qc rfl (qc rfl qn)) e70)) ?_
                    have hq := bindO_inv hr
                    clear hr
                    obtain ⟨v71, e71, hr⟩ := hq
                    have hq := asB_inv hr
                    clear hr
                    obtain ⟨c71, rfl, hr⟩ := hq
                    refine wo_take (v := (.b c71)) rfl (s_pure (o_seq rfl rfl e71)) ?_
                    refine wo_step (v := (.b c71)) (s_pure (p_pickT rfl rfl)) ?_
                    refine wo_nil ?_
                    cases hr
                    exact ⟨_, _, rfl, rfl, gl rfl⟩
                  · refine wo_skip (v := (.b false)) rfl rfl ?_
                    refine wo_skip (v := (.b false)) rfl rfl ?_
                    refine wo_skip (v := (.b false)) rfl rfl ?_
                    refine wo_step (v := (.b false)) (s_pure (p_pickF rfl rfl)) ?_
                    refine wo_nil ?_
                    cases hr
                    exact ⟨_, _, rfl, rfl, gl rfl⟩
                · clear hr
                  have hr := hk
                  clear hk
                  obtain ⟨c72, ho⟩ : ∃ z, z = o_7 := ⟨_, rfl⟩
                  subst ho
                  rintro mm_7 t_8 ⟨rfl, g72⟩
                  refine wo_step (v := (.b c72)) (s_pure (p_mv g72)) ?_
                  refine wo_nil ?_
                  refine nx_norm ?_
                  refine w_ret ?_
                  exact qf ret_ok (rt rfl rn) hr

/- dibber/dibberlaw05.same -/
abbrev g20_I0 (v0 : AVal) (v1 : AVal) (m0 : Mm) (s : Int) (m1 : Mm) (t1 : Tr) : Prop :=
  match s with
  | x5 => m0 = m1 ∧ t1.get 5 = (.i .i64 x5) ∧ t1.get 0 = v0 ∧ t1.get 1 = v1
abbrev g20_J0 (v0 : AVal) (v1 : AVal) (m0 : Mm) (o : (Unit ⊕ Bool)) (e : AExit) (m1 : Mm) (t1 : Tr) : Prop :=
  match o with
  | (.inl _) => e = (.exit 0) ∧ m0 = m1
  | (.inr y4) => e = .ret ∧ m0 = m1 ∧ t1.get 4 = (.b y4)
def g20_b0 (M : Means) (ro : List ABlk) (v0 : AVal) (v1 : AVal) (m0 : Mm) (x5 : Int) : Option ((Int) ⊕ ((Unit ⊕ Bool))) :=
  bindO (evP .e (.len false (.c v0))) fun v13 =>
  asI .i64 v13 fun x13 =>
  forceB (ltI x5 x13) fun c14 =>
  cond c14 (
    bindO (evP .e (.ixS 1 (.c v0) (.c (.i .i64 x5)))) fun v19 =>
    bindO (ldA ro m0.h true 1 v19) fun v20 =>
    asI .i64 v20 fun x20 =>
    bindO (evP .e (.ixS 1 (.c v1) (.c (.i .i64 x5)))) fun v23 =>
    bindO (ldA ro m0.h true 1 v23) fun v24 =>
    asI .i64 v24 fun x24 =>
    forceB (!eqI x20 x24) fun c25 =>
    cond c25 (
      some (.inr (.inr false))) (
      forceI (wr .i64 (x5 + 1)) fun x16 =>
      some (.inl x16))) (
    some (.inr (.inl ())))
def g20 (M : Means) (ro : List ABlk) (v0 : AVal) (v1 : AVal) (m0 : Mm) : Option (AVal × Heap × Nat × Nat) :=
  bindO (evP .e (.len false (.c v0))) fun v7 =>
  asI .i64 v7 fun x7 =>
  bindO (evP .e (.len false (.c v1))) fun v9 =>
  asI .i64 v9 fun x9 =>
  forceB (!eqI x7 x9) fun c10 =>
  cond c10 (
    finM m0.h.length (tupA [(.b false)]) m0) (
    bindO (M.loop (S := Int) (R := (Unit ⊕ Bool)) (fun s => g20_b0 M ro v0 v1 m0 s) 0) fun o => match o with
    | (.inl _) =>
      finM m0.h.length (tupA [(.b true)]) m0
    | (.inr c4) =>
      finM m0.h.length (tupA [(.b c4)]) m0)

theorem g20_ok {ro : List ABlk} {O : Caller} {M : Means} (hM : M.Ok ⟨F, O⟩ ro) {v0 v1 h r} (ho : O 20 [v0, v1] h = none) (hr : g20 M ro v0 v1 ⟨h, h.length, h.length⟩ = some r) : callX ⟨F, O⟩ ro 20 [v0, v1] h = some r := by
  refine callX_of (F := ⟨F, O⟩) (fn := fn20) (g := g20 M ro v0 v1) ho rfl rfl hr ?_
  clear ho
  clear hr
  intro m0 t0 ht hr
  have g0 : t0.get 0 = v0 := ht 0
  have g1 : t0.get 1 = v1 := ht 1
  clear ht
  unfold g20 at hr
  refine w_seq ?_
  refine w_ops ?_
  refine wo_step (v := (.b false)) (s_pure (p_mv rfl)) ?_
  refine wo_nil ?_
  refine nx_norm ?_
  refine w_seq ?_
  refine w_seq ?_
  refine w_ops ?_
  refine wo_step (v := v0) (s_pure (p_mv g0)) ?_
  have hq := bindO_inv hr
  clear hr
  obtain ⟨v7, e7, hr⟩ := hq
  have hq := asI_inv hr
  clear hr
  obtain ⟨x7, rfl, hr⟩ := hq
  refine wo_step (v := (.i .i64 x7)) (s_pure (o_len rfl e7)) ?_
  refine wo_step (v := v1) (s_pure (p_mv g1)) ?_
  have hq := bindO_inv hr
  clear hr
  obtain ⟨v9, e9, hr⟩ := hq
  have hq := asI_inv hr
  clear hr
  obtain ⟨x9, rfl, hr⟩ := hq
  refine wo_step (v := (.i .i64 x9)) (s_pure (o_len rfl e9)) ?_
  have hq := forceB_inv hr
  clear hr
  obtain ⟨c10, e10, hr⟩ := hq
  refine wo_step (v := (.b c10)) (s_pure (p_bin rfl rfl (b_neq.trans (cb e10)))) ?_
  refine wo_nil ?_
  refine nx_norm ?_
  have hq := cond_inv hr
  clear hr
  rcases hq with ⟨rfl, hr⟩ | ⟨rfl, hr⟩
  · refine w_condT rfl ?_
    refine w_seq ?_
    refine w_ops ?_
    refine wo_step (v := (.b false)) (s_pure (p_mv rfl)) ?_
    refine wo_nil ?_
    refine nx_norm ?_
    refine w_ret ?_
    refine nx_ret ?_
    exact qf ret_ok (rt rfl rn) hr
  · refine w_condF rfl ?_
    refine w_skip ?_
    refine nx_norm ?_
    refine w_seq ?_
    refine w_seq ?_
    refine w_ops ?_
    refine wo_step (v := (.i .i64 0)) (s_pure (p_mv rfl)) ?_
    refine wo_nil ?_
    refine nx_norm ?_
    refine w_block ?_
    have hq := bindO_inv hr
    clear hr
    obtain ⟨o, hl, hr⟩ := hq
    obtain ⟨n, hl⟩ := hM.loop _ _ _ hl
    refine jp_mono (w_loop _ (g20_I0 v0 v1 m0) (g20_J0 v0 v1 m0) ?_ n _ _ _ _ hl ⟨rfl, gl rfl, gl g0, gl g1⟩) ?_
    · clear hr hl
      intro s mm_2 t_1 o hi hr
      obtain ⟨x5, hs⟩ : ∃ z, z = s := ⟨_, rfl⟩
      subst hs
      obtain ⟨rfl, g5, g0, g1⟩ := hi
      unfold g20_b0 at hr
      refine w_seq ?_
      refine w_seq ?_
      refine w_ops ?_
      refine wo_step (v := (.i .i64 x5)) (s_pure (p_mv g5)) ?_
      refine wo_step (v := v0) (s_pure (p_mv g0)) ?_
      have hq := bindO_inv hr
      clear hr
      obtain ⟨v13, e13, hr⟩ := hq
      have hq := asI_inv hr
      clear hr
      obtain ⟨x13, rfl, hr⟩ := hq
      refine wo_step (v := (.i .i64 x13)) (s_pure (o_len rfl e13)) ?_
      have hq := forceB_inv hr
      clear hr
      obtain ⟨c14, e14, hr⟩ := hq
      refine wo_step (v := (.b c14)) (s_pure (p_bin rfl rfl (b_lss.trans (cb e14)))) ?_
      refine wo_nil ?_
      refine nx_norm ?_
      have hq := cond_inv hr
      clear hr
      rcases hq with ⟨rfl, hr⟩ | ⟨rfl, hr⟩
      · refine w_condT rfl ?_
        refine w_skip ?_
        refine nx_norm ?_
        refine w_seq ?_
        refine w_block ?_
        refine w_seq ?_
        refine w_any ?_
        refine wa_step (v := v0) (a_pure (p_mv g0)) ?_
        refine wa_step (v := (.i .i64 x5)) (a_pure (p_mv g5)) ?_
        have hq := bindO_inv hr
        clear hr
        obtain ⟨v19, e19, hr⟩ := hq
        refine wa_step (v := v19) (a_pure (o_ixS rfl rfl e19)) ?_
        have hq := bindO_inv hr
        clear hr
        obtain ⟨v20, e20, hr⟩ := hq
        have hq := asI_inv hr
        clear hr
        obtain ⟨x20, rfl, hr⟩ := hq
        refine wa_step (v := (.i .i64 x20)) (a_ld rfl e20) ?_
        refine wa_step (v := v1) (a_pure (p_mv g1)) ?_
        refine wa_step (v := (.i .i64 x5)) (a_pure (p_mv g5)) ?_
        have hq := bindO_inv hr
        clear hr
        obtain ⟨v23, e23, hr⟩ := hq
        refine wa_step (v := v23) (a_pure (o_ixS rfl rfl e23)) ?_
        have hq := bindO_inv hr
        clear hr
        obtain ⟨v24, e24, hr⟩ := hq
        have hq := asI_inv hr
        clear hr
        obtain ⟨x24, rfl, hr⟩ := hq
        refine wa_step (v := (.i .i64 x24)) (a_ld rfl e24) ?_
        have hq := forceB_inv hr
        clear hr
        obtain ⟨c25, e25, hr⟩ := hq
        refine wa_step (v := (.b c25)) (a_pure (p_bin rfl rfl (b_neq.trans (cb e25)))) ?_
        refine wa_nil ?_
        refine ⟨m0, rfl, ?_⟩
        refine nx_norm ?_
        have hq := cond_inv hr
        clear hr
        rcases hq with ⟨rfl, hr⟩ | ⟨rfl, hr⟩
        · refine w_condT rfl ?_
          refine w_seq ?_
          refine w_ops ?_
          refine wo_step (v := (.b false)) (s_pure (p_mv rfl)) ?_
          refine wo_nil ?_
          refine nx_norm ?_
          refine w_ret ?_
          refine bk_ret ?_
          refine nx_ret ?_
          cases hr
          exact ⟨_, _, rfl, ne_norm_ret, rfl, rfl, gl rfl⟩
        · refine w_condF rfl ?_
          refine w_skip ?_
          refine bk_norm ?_
          refine nx_norm ?_
          refine w_ops ?_
          refine wo_step (v := (.i .i64 x5)) (s_pure (p_mv g5)) ?_
          have hq := forceI_inv hr
          clear hr
          obtain ⟨x16, e16, hr⟩ := hq
          refine wo_step (v := (.i .i64 x16)) (s_pure (p_bin rfl rfl (b_add.trans (ci e16)))) ?_
          refine wo_step (v := (.i .i64 x16)) (s_pure (p_mv rfl)) ?_
          refine wo_nil ?_
          cases hr
          exact ⟨_, _, rfl, rfl, rfl, gl rfl, gl g0, gl g1⟩
      · refine w_condF rfl ?_
        refine w_exit ?_
        refine nx_exit ?_
        cases hr
        exact ⟨_, _, rfl, ne_norm_exit, rfl, rfl⟩
    · rcases o with o | o
      · rintro _ mm t_2 ⟨rfl, rfl⟩
        refine bk_hit ?_
        refine nx_norm ?_
        refine w_seq ?_
        refine w_ops ?_
        refine wo_step (v := (.b true)) (s_pure (p_mv rfl)) ?_
        refine wo_nil ?_
        refine nx_norm ?_
        refine w_ret ?_
        exact qf ret_ok (rt rfl rn) hr
      · obtain ⟨c4, ho⟩ : ∃ z, z = o := ⟨_, rfl⟩
        subst ho
        rintro _ mm_1 t_3 ⟨rfl, rfl, g4⟩
        refine bk_ret ?_
        refine nx_ret ?_
        exact qf ret_ok (rt g4 rn) hr

/- dibber/luck.Weighing -/

def g23 (M : Means) (ro : List ABlk) (x0 : Int) (v1 : AVal) (v2 : AVal) (m0 : Mm) : Option (AVal × Heap × Nat × Nat) :=
  bindP (callM M.call m0 49 [(.i .i64 x0), v1, v2]) fun v15 m_1 =>
  asI .i64 v15 fun x15 =>
  forceB (!eqI x15 0) fun c17 =>
  cond c17 (
    finM m0.h.length (tupA [AVal.nsl, AVal.nsl, (.i .i64 x15)]) m_1) (
    bindP (stepM ro m_1 (.mk 3 1 8 [(AVal.i IntKind.i64 0)] (.c (.i .i64 x0)) (.c (.i .i64 x0)))) fun v20 m_2 =>
    bindO ((fillA [AVal.nsl] [((0, 1), v20)]).map AVal.agg) fun v22 =>
    bindO ((fillA [AVal.nsl] [((0, 1), v22)]).map AVal.agg) fun v23 =>
    bindO (some (AVal.ifc 76 v23)) fun v24 =>
    bindP (callM M.call m_2 50 [v24, v1, v2]) fun v27 m_3 =>
    finM m0.h.length (tupA [v27, v20, (.i .i64 0)]) m_3)

theorem g23_ok {ro : List ABlk} {O : Caller} {M : Means} (hM : M.Ok ⟨F, O⟩ ro) {x0 v1 v2 h r} (ho : O 23 [(.i .i64 x0), v1, v2] h = none) (hr : g23 M ro x0 v1 v2 ⟨h, h.length, h.length⟩ = some r) : callX ⟨F, O⟩ ro 23 [(.i .i64 x0), v1, v2] h = some r := by
  refine callX_of (F := ⟨F, O⟩) (fn := fn23) (g := g23 M ro x0 v1 v2) ho rfl rfl hr ?_
  clear ho
  clear hr
  intro m0 t0 ht hr
  have g0 : t0.get 0 = (.i .i64 x0) := ht 0
  have g1 : t0.get 1 = v1 := ht 1
  have g2 : t0.get 2 = v2 := ht 2
  clear ht
  unfold g23 at hr
  refine w_seq ?_
  refine w_ops ?_
  refine wo_step (v := AVal.nsl) (s_pure (p_mv rfl)) ?_
  refine wo_step (v := AVal.nsl) (s_pure (p_mv rfl)) ?_
  refine wo_step (v := (.i .i64 0)) (s_pure (p_mv rfl)) ?_
  refine wo_nil ?_
  refine nx_norm ?_
  refine w_seq ?_
  refine w_seq ?_
  refine w_ops ?_
  refine wo_step (v := (.i .i64 x0)) (s_pure (p_mv g0)) ?_
  refine wo_step (v := v1) (s_pure (p_mv g1)) ?_
  refine wo_step (v := v2) (s_pure (p_mv g2)) ?_
  have hq := bindP_inv hr
  clear hr
  obtain ⟨v15, m_1, e15, hr⟩ := hq
  have hq := asI_inv hr
  clear hr
  obtain ⟨x15, rfl, hr⟩ := hq
  refine wo_step (v := (.i .i64 x15)) (s_call (mc rfl (mc rfl (mc rfl mn))) (callM_le hM.call e15)) ?_
  refine wo_step (v := (.i .i64 x15)) (s_pure (p_mv rfl)) ?_
  refine wo_nil ?_
  refine nx_norm ?_
  refine w_seq ?_
  refine w_ops ?_
  refine wo_step (v := (.i .i64 x15)) (s_pure (p_mv rfl)) ?_
  have hq := forceB_inv hr
  clear hr
  obtain ⟨c17, e17, hr⟩ := hq
  refine wo_step (v := (.b c17)) (s_pure (p_bin rfl rfl (b_neq.trans (cb e17)))) ?_
  refine wo_nil ?_
  refine nx_norm ?_
  have hq := cond_inv hr
  clear hr
  rcases hq with ⟨rfl, hr⟩ | ⟨rfl, hr⟩
  · refine w_condT rfl ?_
    refine w_seq ?_
    refine w_ops ?_
    refine wo_step (v := (.i .i64 x15)) (s_pure (p_mv rfl)) ?_
    refine wo_step (v := AVal.nsl) (s_pure (p_mv rfl)) ?_
    refine wo_step (v := AVal.nsl) (s_pure (p_mv rfl)) ?_
    refine wo_step (v := (.i .i64 x15)) (s_pure (p_mv rfl)) ?_
    refine wo_nil ?_
    refine nx_norm ?_
    refine w_ret ?_
    refine nx_ret ?_
    exact qf ret_ok (rt rfl (rt rfl (rt rfl rn))) hr
  · refine w_condF rfl ?_
    refine w_skip ?_
    refine nx_norm ?_
    refine w_seq ?_
    refine w_ops ?_
    refine wo_step (v := (.i .i64 x0)) (s_pure (p_mv g0)) ?_
    have hq := bindP_inv hr
    clear hr
    obtain ⟨v20, m_2, e20, hr⟩ := hq
    refine wo_step (v := v20) (s_mk rfl rfl e20) ?_
    refine wo_step (v := v20) (s_pure (p_mv rfl)) ?_
    refine wo_nil ?_
    refine nx_norm ?_
    refine w_seq ?_
    refine w_ops ?_
    refine wo_step (v := v20) (s_pure (p_mv rfl)) ?_
    have hq := bindO_inv hr
    clear hr
    obtain ⟨v22, e22, hr⟩ := hq
    refine wo_step (v := v22) (s_pure (o_build (qc rfl qn) e22)) ?_
    have hq := bindO_inv hr
    clear hr
    obtain ⟨v23, e23, hr⟩ := hq
    refine wo_step (v := v23) (s_pure (o_build (qc rfl qn) e23)) ?_
    have hq := bindO_inv hr
    clear hr
    obtain ⟨v24, e24, hr⟩ := hq
    refine wo_step (v := v24) (s_pure (o_mki rfl e24)) ?_
    refine wo_step (v := v1) (s_pure (p_mv g1)) ?_
    refine wo_step (v := v2) (s_pure (p_mv g2)) ?_
    have hq := bindP_inv hr
    clear hr
    obtain ⟨v27, m_3, e27, hr⟩ := hq
    refine wo_step (v := v27) (s_call (mc rfl (mc rfl (mc rfl mn))) (callM_le hM.call e27)) ?_
    refine wo_step (v := v27) (s_pure (p_mv rfl)) ?_
    refine wo_nil ?_
    refine nx_norm ?_
    refine w_seq ?_
    refine w_ops ?_
    refine wo_step (v := v27) (s_pure (p_mv rfl)) ?_
    refine wo_step (v := v20) (s_pure (p_mv rfl)) ?_
    refine wo_step (v := v27) (s_pure (p_mv rfl)) ?_
    refine wo_step (v := v20) (s_pure (p_mv rfl)) ?_
    refine wo_step (v := (.i .i64 0)) (s_pure (p_mv rfl)) ?_
    refine wo_nil ?_
    refine nx_norm ?_
    refine w_ret ?_
    exact qf ret_ok (rt rfl (rt rfl (rt rfl rn))) hr

/- dibber/dibberref05.Weighing -/
abbrev g24_I0 (x0 : Int) (v1 : AVal) (v2 : AVal) (v23 : AVal) (s : AVal × Int × Mm) (m1 : Mm) (t1 : Tr) : Prop :=
  match s with
  | (v11, x12, m_3) => m_3 = m1 ∧ t1.get 11 = v11 ∧ t1.get 12 = (.i .i64 x12) ∧ t1.get 0 = (.i .i64 x0) ∧ t1.get 1 = v1 ∧ t1.get 2 = v2 ∧ t1.get 10 = v23
abbrev g24_J0 (x0 : Int) (v1 : AVal) (v2 : AVal) (v23 : AVal) (o : (AVal × Mm)) (e : AExit) (m1 : Mm) (t1 : Tr) : Prop :=
  match o with
  | (y11, mo) => e = (.exit 0) ∧ mo = m1 ∧ t1.get 11 = y11 ∧ t1.get 10 = v23
abbrev g24_J1 (x0 : Int) (v1 : AVal) (v2 : AVal) (v23 : AVal) (v11 : AVal) (x12 : Int) (m_8 : Mm) (o : Int) (e : AExit) (m1 : Mm) (t1 : Tr) : Prop :=
  match o with
  | y13 => e = .norm ∧ m_8 = m1 ∧ t1.get 13 = (.i .i64 y13) ∧ t1.get 0 = (.i .i64 x0) ∧ t1.get 1 = v1 ∧ t1.get 2 = v2 ∧ t1.get 10 = v23 ∧ t1.get 11 = v11 ∧ t1.get 12 = (.i .i64 x12)
abbrev g24_I2 (x0 : Int) (v1 : AVal) (v2 : AVal) (v23 : AVal) (v46 : AVal) (x12 : Int) (s : Int × Mm) (m1 : Mm) (t1 : Tr) : Prop :=
  match s with
  | (x14, m_11) => m_11 = m1 ∧ t1.get 14 = (.i .i64 x14) ∧ t1.get 0 = (.i .i64 x0) ∧ t1.get 1 = v1 ∧ t1.get 2 = v2 ∧ t1.get 10 = v23 ∧ t1.get 11 = v46 ∧ t1.get 12 = (.i .i64 x12)
abbrev g24_J2 (x0 : Int) (v1 : AVal) (v2 : AVal) (v23 : AVal) (v46 : AVal) (x12 : Int) (o : Mm) (e : AExit) (m1 : Mm) (t1 : Tr) : Prop :=
  match o with
  | mo => e = (.exit 2) ∧ mo = m1 ∧ t1.get 0 = (.i .i64 x0) ∧ t1.get 1 = v1 ∧ t1.get 2 = v2 ∧ t1.get 10 = v23 ∧ t1.get 11 = v46 ∧ t1.get 12 = (.i .i64 x12)
abbrev g24_J3 (x0 : Int) (v1 : AVal) (v2 : AVal) (v23 : AVal) (v46 : AVal) (x12 : Int) (x14 : Int) (o : Mm) (e : AExit) (m1 : Mm) (t1 : Tr) : Prop :=
  match o with
  | mo => e = .norm ∧ mo = m1 ∧ t1.get 0 = (.i .i64 x0) ∧ t1.get 1 = v1 ∧ t1.get 2 = v2 ∧ t1.get 10 = v23 ∧ t1.get 11 = v46 ∧ t1.get 12 = (.i .i64 x12) ∧ t1.get 14 = (.i .i64 x14)
def g24_b2 (M : Means) (ro : List ABlk) (x0 : Int) (v1 : AVal) (v2 : AVal) (v23 : AVal) (v46 : AVal) (x12 : Int) (x14 : Int) (m_11 : Mm) : Option ((Int × Mm) ⊕ (Mm)) :=
  forceB (ltI x14 x0) fun c49 =>
  cond c49 (
    bindO (evP .e (.ixS 1 (.c v1) (.c (.i .i64 x12)))) fun v54 =>
    bindO (ldA ro m_11.h true 1 v54) fun v55 =>
    bindO (evP .e (.ixS 1 (.c v55) (.c (.i .i64 x14)))) fun v57 =>
    bindO (ldA ro m_11.h true 1 v57) fun v58 =>
    asI .i64 v58 fun x58 =>
    bindO (evP .e (.ixS 1 (.c v2) (.c (.i .i64 x12)))) fun v61 =>
    bindO (ldA ro m_11.h true 1 v61) fun v62 =>
    asI .i64 v62 fun x62 =>
    forceB (!eqI x58 x62) fun c63 =>
    bindO (α := Mm) (
      cond c63 (
        bindO (evP .e (.ixS 1 (.c v23) (.c (.i .i64 x14)))) fun v66 =>
        bindO (ldM ro m_11 true 1 v66) fun v67 =>
        asI .i64 v67 fun x67 =>
        forceI (wr .i64 (x67 + 1)) fun x68 =>
        bindO (evP .e (.ixS 1 (.c v23) (.c (.i .i64 x14)))) fun v69 =>
        bindP (stepM ro m_11 (.st 1 (.c v69) (.c (.i .i64 x68)))) fun vn m_12 =>
        some m_12) (
        some m_11)) fun m_13 =>
    forceI (wr .i64 (x14 + 1)) fun x51 =>
    some (.inl (x51, m_13))) (
    some (.inr m_11))
def g24_b0 (M : Means) (ro : List ABlk) (x0 : Int) (v1 : AVal) (v2 : AVal) (v23 : AVal) (v11 : AVal) (x12 : Int) (m_3 : Mm) : Option ((AVal × Int × Mm) ⊕ ((AVal × Mm))) :=
  bindO (evP .e (.len false (.c v1))) fun v26 =>
  asI .i64 v26 fun x26 =>
  forceB (ltI x12 x26) fun c27 =>
  cond c27 (
    bindO (some (Mm.base m_3)) fun m_4 =>
    bindO (evP .e (.ixS 1 (.c v1) (.c (.i .i64 x12)))) fun v33 =>
    bindO (ldM ro m_4 true 1 v33) fun v34 =>
    bindP (callM M.call m_4 53 [v23, v34, (.i .i64 1)]) fun v35 m_5 =>
    chk (!Nat.blt m_5.lw m_3.h.length) <|
    bindO (evP .e (.ixS 1 (.c v1) (.c (.i .i64 x12)))) fun v39 =>
    bindO (ldA ro m_3.h true 1 v39) fun v40 =>
    bindP (callM M.call m_5 53 [v23, v40, (.i .i64 0)]) fun v41 m_6 =>
    bindP (callM M.call m_6 52 [v35, v41]) fun v42 m_7 =>
    asB v42 fun c42 =>
    bindO (some (Mm.join m_3 m_7)) fun m_8 =>
    bindO (α := Int) (
      cond c42 (
        some 1) (
        some 0)) fun x13 =>
    bindP (stepM ro m_8 (.bsl 3 1 [(AVal.i IntKind.i64 0)] 1 [((0, 1), .c (.i .i64 x13))])) fun v45 m_9 =>
    bindP (stepM ro m_9 (.app 3 1 8 [(AVal.i IntKind.i64 0)] (.c v11) (.c v45))) fun v46 m_10 =>
    bindO (M.loop (S := Int × Mm) (R := Mm) (fun s => g24_b2 M ro x0 v1 v2 v23 v46 x12 s.1 s.2) (0, m_10)) fun m_14 =>
    forceI (wr .i64 (x12 + 1)) fun x29 =>
    some (.inl (v46, x29, m_14))) (
    some (.inr (v11, m_3)))
def g24 (M : Means) (ro : List ABlk) (x0 : Int) (v1 : AVal) (v2 : AVal) (m0 : Mm) : Option (AVal × Heap × Nat × Nat) :=
  bindP (callM M.call m0 38 [(.i .i64 x0), v1, v2]) fun v18 m_1 =>
  asI .i64 v18 fun x18 =>
  forceB (!eqI x18 0) fun c20 =>
  cond c20 (
    finM m0.h.length (tupA [AVal.nsl, AVal.nsl, (.i .i64 x18)]) m_1) (
    bindP (stepM ro m_1 (.mk 3 1 8 [(AVal.i IntKind.i64 0)] (.c (.i .i64 x0)) (.c (.i .i64 x0)))) fun v23 m_2 =>
    bindO (M.loop (S := AVal × Int × Mm) (R := (AVal × Mm)) (fun s => g24_b0 M ro x0 v1 v2 v23 s.1 s.2.1 s.2.2) (AVal.nsl, 0, m_2)) fun ⟨v11_1, m_15⟩ =>
    finM m0.h.length (tupA [v11_1, v23, (.i .i64 0)]) m_15)

theorem g24_ok {ro : List ABlk} {O : Caller} {M : Means} (hM : M.Ok ⟨F, O⟩ ro) {x0 v1 v2 h r} (ho : O 24 [(.i .i64 x0), v1, v2] h = none) (hr : g24 M ro x0 v1 v2 ⟨h, h.length, h.length⟩ = some r) : callX ⟨F, O⟩ ro 24 [(.i .i64 x0), v1, v2] h = some r := by
  refine callX_of (F := ⟨F, O⟩) (fn := fn24) (g := g24 M ro x0 v1 v2) ho rfl rfl hr ?_
  clear ho
  clear hr
  intro m0 t0 ht hr
  have g0 : t0.get 0 = (.i .i64 x0) := ht 0
  have g1 : t0.get 1 = v1 := ht 1
  have g2 : t0.get 2 = v2 := ht 2
  clear ht
  unfold g24 at hr
  refine w_seq ?_
  refine w_ops ?_
  refine wo_step (v := AVal.nsl) (s_pure (p_mv rfl)) ?_
  refine wo_step (v := AVal.nsl) (s_pure (p_mv rfl)) ?_
  refine wo_step (v := (.i .i64 0)) (s_pure (p_mv rfl)) ?_
  refine wo_nil ?_
  refine nx_norm ?_
  refine w_seq ?_
  refine w_ops ?_
  refine wo_step (v := (.i .i64 x0)) (s_pure (p_mv g0)) ?_
  refine wo_step (v := v1) (s_pure (p_mv g1)) ?_
  refine wo_step (v := v2) (s_pure (p_mv g2)) ?_
  have hq := bindP_inv hr
  clear hr
  obtain ⟨v18, m_1, e18, hr⟩ := hq
  have hq := asI_inv hr
  clear hr
  obtain ⟨x18, rfl, hr⟩ := hq
  refine wo_step (v := (.i .i64 x18)) (s_call (mc rfl (mc rfl (mc rfl mn))) (callM_le hM.call e18)) ?_
  refine wo_step (v := (.i .i64 x18)) (s_pure (p_mv rfl)) ?_
  refine wo_nil ?_
  refine nx_norm ?_
  refine w_seq ?_
  refine w_seq ?_
  refine w_ops ?_
  refine wo_step (v := (.i .i64 x18)) (s_pure (p_mv rfl)) ?_
  have hq := forceB_inv hr
  clear hr
  obtain ⟨c20, e20, hr⟩ := hq
  refine wo_step (v := (.b c20)) (s_pure (p_bin rfl rfl (b_neq.trans (cb e20)))) ?_
  refine wo_nil ?_
  refine nx_norm ?_
  have hq := cond_inv hr
  clear hr
  rcases hq with ⟨rfl, hr⟩ | ⟨rfl, hr⟩
  · refine w_condT rfl ?_
    refine w_seq ?_
    refine w_ops ?_
    refine wo_step (v := (.i .i64 x18)) (s_pure (p_mv rfl)) ?_
    refine wo_step (v := AVal.nsl) (s_pure (p_mv rfl)) ?_
    refine wo_step (v := AVal.nsl) (s_pure (p_mv rfl)) ?_
    refine wo_step (v := (.i .i64 x18)) (s_pure (p_mv rfl)) ?_
    refine wo_nil ?_
    refine nx_norm ?_
    refine w_ret ?_
    refine nx_ret ?_
    exact qf ret_ok (rt rfl (rt rfl (rt rfl rn))) hr
  · refine w_condF rfl ?_
    refine w_skip ?_
    refine nx_norm ?_
    refine w_seq ?_
    refine w_ops ?_
    refine wo_step (v := (.i .i64 x0)) (s_pure (p_mv g0)) ?_
    have hq := bindP_inv hr
    clear hr
    obtain ⟨v23, m_2, e23, hr⟩ := hq
    refine wo_step (v := v23) (s_mk rfl rfl e23) ?_
    refine wo_step (v := v23) (s_pure (p_mv rfl)) ?_
    refine wo_nil ?_
    refine nx_norm ?_
    refine w_seq ?_
    refine w_ops ?_
    refine wo_step (v := AVal.nsl) (s_pure (p_mv rfl)) ?_
    refine wo_nil ?_
    refine nx_norm ?_
    refine w_seq ?_
    refine w_seq ?_
    refine w_ops ?_
    refine wo_step (v := (.i .i64 0)) (s_pure (p_mv rfl)) ?_
    refine wo_nil ?_
    refine nx_norm ?_
    refine w_block ?_
    have hq := bindO_inv hr
    clear hr
    obtain ⟨o_3, hl_1, hr⟩ := hq
    obtain ⟨n_1, hl_1⟩ := hM.loop _ _ _ hl_1
    refine jp_mono (w_loop _ (g24_I0 x0 v1 v2 v23) (g24_J0 x0 v1 v2 v23) ?_ n_1 _ _ _ _ hl_1 ⟨rfl, gl rfl, gl rfl, gl g0, gl g1, gl g2, gl rfl⟩) ?_
    · clear hr hl_1
      intro s mm_5 t_1 o hi hr
      obtain ⟨v11, x12, m_3⟩ := s
      obtain ⟨rfl, g11, g12, g0, g1, g2, g10⟩ := hi
      unfold g24_b0 at hr
      refine w_seq ?_
      refine w_seq ?_
      refine w_ops ?_
      refine wo_step (v := (.i .i64 x12)) (s_pure (p_mv g12)) ?_
      refine wo_step (v := v1) (s_pure (p_mv g1)) ?_
      have hq := bindO_inv hr
      clear hr
      obtain ⟨v26, e26, hr⟩ := hq
      have hq := asI_inv hr
      clear hr
      obtain ⟨x26, rfl, hr⟩ := hq
      refine wo_step (v := (.i .i64 x26)) (s_pure (o_len rfl e26)) ?_
      have hq := forceB_inv hr
      clear hr
      obtain ⟨c27, e27, hr⟩ := hq
      refine wo_step (v := (.b c27)) (s_pure (p_bin rfl rfl (b_lss.trans (cb e27)))) ?_
      refine wo_nil ?_
      refine nx_norm ?_
      have hq := cond_inv hr
      clear hr
      rcases hq with ⟨rfl, hr⟩ | ⟨rfl, hr⟩
      · refine w_condT rfl ?_
        refine w_skip ?_
        refine nx_norm ?_
        refine w_seq ?_
        refine w_block ?_
        refine w_seq ?_
        refine w_ops ?_
        refine wo_step (v := (.i .i64 0)) (s_pure (p_mv rfl)) ?_
        refine wo_nil ?_
        refine nx_norm ?_
        refine w_seq ?_
        refine w_seq ?_
        have hq := bindO_inv hr
        clear hr
        obtain ⟨m_4, ef, hr⟩ := hq
        refine w_flt (af := true) rfl ef ?_
        refine wf_step (v := v23) (f_P rfl (s_pure (p_mv g10))) ?_
        refine wf_step (v := v1) (f_P rfl (s_pure (p_mv g1))) ?_
        refine wf_step (v := (.i .i64 x12)) (f_P rfl (s_pure (p_mv g12))) ?_
        have hq := bindO_inv hr
        clear hr
        obtain ⟨v33, e33, hr⟩ := hq
        refine wf_step (v := v33) (f_P rfl (s_pure (o_ixS rfl rfl e33))) ?_
        have hq := bindO_inv hr
        clear hr
        obtain ⟨v34, e34, hr⟩ := hq
        refine wf_step (v := v34) (f_P rfl (s_ld rfl e34)) ?_
        have hq := bindP_inv hr
        clear hr
        obtain ⟨v35, m_5, e35, hr⟩ := hq
        have hq := chk_inv hr
        clear hr
        obtain ⟨hc35, hr⟩ := hq
        refine wf_step (v := v35) (f_M hc35 (s_call (mc rfl (mc rfl (mc rfl mn))) (callM_le hM.call e35))) ?_
        refine wf_step (v := v23) (f_P rfl (s_pure (p_mv g10))) ?_
        refine wf_step (v := v1) (f_P rfl (s_pure (p_mv g1))) ?_
        refine wf_step (v := (.i .i64 x12)) (f_P rfl (s_pure (p_mv g12))) ?_
        have hq := bindO_inv hr
        clear hr
        obtain ⟨v39, e39, hr⟩ := hq
        refine wf_step (v := v39) (f_P rfl (s_pure (o_ixS rfl rfl e39))) ?_
        have hq := bindO_inv hr
        clear hr
        obtain ⟨v40, e40, hr⟩ := hq
        refine wf_step (v := v40) (f_ld rfl e40) ?_
        have hq := bindP_inv hr
        clear hr
        obtain ⟨v41, m_6, e41, hr⟩ := hq
        refine wf_step (v := v41) (f_F rfl (s_call (mc rfl (mc rfl (mc rfl mn))) (callM_le hM.call e41))) ?_
        have hq := bindP_inv hr
        clear hr
        obtain ⟨v42, m_7, e42, hr⟩ := hq
        have hq := asB_inv hr
        clear hr
        obtain ⟨c42, rfl, hr⟩ := hq
        refine wf_step (v := (.b c42)) (f_F rfl (s_call (mc rfl (mc rfl mn)) (callM_le hM.call e42))) ?_
        have hq := bindO_inv hr
        clear hr
        obtain ⟨m_8, ef_1, hr⟩ := hq
        refine wf_end ef_1 ?_
        refine nx_norm ?_
        have hq := bindO_inv hr
        clear hr
        obtain ⟨o, hr, hk⟩ := hq
        refine jp_mono (J := g24_J1 x0 v1 v2 v23 v11 x12 m_8 o) ?_ ?_
        · clear hk
          have hq := cond_inv hr
          clear hr
          rcases hq with ⟨rfl, hr⟩ | ⟨rfl, hr⟩
          · refine w_condT rfl ?_
            refine w_ops ?_
            refine wo_step (v := (.i .i64 1)) (s_pure (p_mv rfl)) ?_
            refine wo_nil ?_
            cases hr
            exact ⟨_, _, rfl, rfl, rfl, gl rfl, gl g0, gl g1, gl g2, gl g10, gl g11, gl g12⟩
          · refine w_condF rfl ?_
            refine w_skip ?_
            cases hr
            exact ⟨_, _, rfl, rfl, rfl, gl rfl, gl g0, gl g1, gl g2, gl g10, gl g11, gl g12⟩
        · have hr := hk
          clear hk
          obtain ⟨x13, ho⟩ : ∃ z, z = o := ⟨_, rfl⟩
          subst ho
          rintro _ mm_3 t_2 ⟨rfl, rfl, g13, g0, g1, g2, g10, g11, g12⟩
          refine nx_norm ?_
          refine w_seq ?_
          refine w_ops ?_
          refine wo_step (v := v11) (s_pure (p_mv g11)) ?_
          refine wo_step (v := (.i .i64 x13)) (s_pure (p_mv g13)) ?_
          have hq := bindP_inv hr
          clear hr
          obtain ⟨v45, m_9, e45, hr⟩ := hq
          refine wo_step (v := v45) (s_bsl (qc rfl qn) e45) ?_
          have hq := bindP_inv hr
          clear hr
          obtain ⟨v46, m_10, e46, hr⟩ := hq
          refine wo_step (v := v46) (s_app rfl rfl e46) ?_
          refine wo_step (v := v46) (s_pure (p_mv rfl)) ?_
          refine wo_nil ?_
          refine nx_norm ?_
          refine w_seq ?_
          refine w_ops ?_
          refine wo_step (v := (.i .i64 0)) (s_pure (p_mv rfl)) ?_
          refine wo_nil ?_
          refine nx_norm ?_
          refine w_block ?_
          have hq := bindO_inv hr
          clear hr
          obtain ⟨o_2, hl, hr⟩ := hq
          obtain ⟨n, hl⟩ := hM.loop _ _ _ hl
          refine jp_mono (w_loop _ (g24_I2 x0 v1 v2 v23 v46 x12) (g24_J2 x0 v1 v2 v23 v46 x12) ?_ n _ _ _ _ hl ⟨rfl, gl rfl, gl g0, gl g1, gl g2, gl g10, gl rfl, gl g12⟩) ?_
          · clear hr hl
            intro s mm_2 t_3 o hi hr
            obtain ⟨x14, m_11⟩ := s
            obtain ⟨rfl, g14, g0, g1, g2, g10, g11, g12⟩ := hi
            unfold g24_b2 at hr
            refine w_seq ?_
            refine w_seq ?_
            refine w_ops ?_
            refine wo_step (v := (.i .i64 x14)) (s_pure (p_mv g14)) ?_
            refine wo_step (v := (.i .i64 x0)) (s_pure (p_mv g0)) ?_
            have hq := forceB_inv hr
            clear hr
            obtain ⟨c49, e49, hr⟩ := hq
            refine wo_step (v := (.b c49)) (s_pure (p_bin rfl rfl (b_lss.trans (cb e49)))) ?_
            refine wo_nil ?_
            refine nx_norm ?_
            have hq := cond_inv hr
            clear hr
            rcases hq with ⟨rfl, hr⟩ | ⟨rfl, hr⟩
            · refine w_condT rfl ?_
              refine w_skip ?_
              refine nx_norm ?_
              refine w_seq ?_
              refine w_block ?_
              refine w_seq ?_
              refine w_any ?_
              refine wa_step (v := v1) (a_pure (p_mv g1)) ?_
              refine wa_step (v := (.i .i64 x12)) (a_pure (p_mv g12)) ?_
              have hq := bindO_inv hr
              clear hr
              obtain ⟨v54, e54, hr⟩ := hq
              refine wa_step (v := v54) (a_pure (o_ixS rfl rfl e54)) ?_
              have hq := bindO_inv hr
              clear hr
              obtain ⟨v55, e55, hr⟩ := hq
              refine wa_step (v := v55) (a_ld rfl e55) ?_
              refine wa_step (v := (.i .i64 x14)) (a_pure (p_mv g14)) ?_
              have hq := bindO_inv hr
              clear hr
              obtain ⟨v57, e57, hr⟩ := hq
              refine wa_step (v := v57) (a_pure (o_ixS rfl rfl e57)) ?_
              have hq := bindO_inv hr
              clear hr
              obtain ⟨v58, e58, hr⟩ := hq
              have hq := asI_inv hr
              clear hr
              obtain ⟨x58, rfl, hr⟩ := hq
              refine wa_step (v := (.i .i64 x58)) (a_ld rfl e58) ?_
              refine wa_step (v := v2) (a_pure (p_mv g2)) ?_
              refine wa_step (v := (.i .i64 x12)) (a_pure (p_mv g12)) ?_
              have hq := bindO_inv hr
              clear hr
              obtain ⟨v61, e61, hr⟩ := hq
              refine wa_step (v := v61) (a_pure (o_ixS rfl rfl e61)) ?_
              have hq := bindO_inv hr
              clear hr
              obtain ⟨v62, e62, hr⟩ := hq
              have hq := asI_inv hr
              clear hr
              obtain ⟨x62, rfl, hr⟩ := hq
              refine wa_step (v := (.i .i64 x62)) (a_ld rfl e62) ?_
              have hq := forceB_inv hr
              clear hr
              obtain ⟨c63, e63, hr⟩ := hq
              refine wa_step (v := (.b c63)) (a_pure (p_bin rfl rfl (b_neq.trans (cb e63)))) ?_
              refine wa_nil ?_
              refine ⟨m_11, rfl, ?_⟩
              refine nx_norm ?_
              have hq := bindO_inv hr
              clear hr
              obtain ⟨o_1, hr, hk⟩ := hq
              refine jp_mono (J := g24_J3 x0 v1 v2 v23 v46 x12 x14 o_1) ?_ ?_
              · clear hk
                have hq := cond_inv hr
                clear hr
                rcases hq with ⟨rfl, hr⟩ | ⟨rfl, hr⟩
                · refine w_condT rfl ?_
                  refine w_ops ?_
                  refine wo_step (v := v23) (s_pure (p_mv g10)) ?_
                  refine wo_step (v := (.i .i64 x14)) (s_pure (p_mv g14)) ?_
                  have hq := bindO_inv hr
                  clear hr
                  obtain ⟨v66, e66, hr⟩ := hq
                  refine wo_step (v := v66) (s_pure (o_ixS rfl rfl e66)) ?_
                  have hq := bindO_inv hr
                  clear hr
                  obtain ⟨v67, e67, hr⟩ := hq
                  have hq := asI_inv hr
                  clear hr
                  obtain ⟨x67, rfl, hr⟩ := hq
                  refine wo_step (v := (.i .i64 x67)) (s_ld rfl e67) ?_
                  have hq := forceI_inv hr
                  clear hr
                  obtain ⟨x68, e68, hr⟩ := hq
                  refine wo_step (v := (.i .i64 x68)) (s_pure (p_bin rfl rfl (b_add.trans (ci e68)))) ?_
                  have hq := bindO_inv hr
                  clear hr
                  obtain ⟨v69, e69, hr⟩ := hq
                  refine wo_step (v := v69) (s_pure (o_ixS rfl rfl e69)) ?_
                  have hq := bindP_inv hr
                  clear hr
                  obtain ⟨vn, m_12, en, hr⟩ := hq
                  refine wo_stepN (s_st rfl rfl en) ?_
                  refine wo_nil ?_
                  cases hr
                  exact ⟨_, _, rfl, rfl, rfl, gl g0, gl g1, gl g2, gl g10, gl g11, gl g12, gl g14⟩
                · refine w_condF rfl ?_
                  refine w_skip ?_
                  cases hr
                  exact ⟨_, _, rfl, rfl, rfl, gl g0, gl g1, gl g2, gl g10, gl g11, gl g12, gl g14⟩
              · have hr := hk
                clear hk
                obtain ⟨m_13, ho⟩ : ∃ z, z = o_1 := ⟨_, rfl⟩
                subst ho
                rintro _ mm t_4 ⟨rfl, rfl, g0, g1, g2, g10, g11, g12, g14⟩
                refine bk_norm ?_
                refine nx_norm ?_
                refine w_ops ?_
                refine wo_step (v := (.i .i64 x14)) (s_pure (p_mv g14)) ?_
                have hq := forceI_inv hr
                clear hr
                obtain ⟨x51, e51, hr⟩ := hq
                refine wo_step (v := (.i .i64 x51)) (s_pure (p_bin rfl rfl (b_add.trans (ci e51)))) ?_
                refine wo_step (v := (.i .i64 x51)) (s_pure (p_mv rfl)) ?_
                refine wo_nil ?_
                cases hr
                exact ⟨_, _, rfl, rfl, rfl, gl rfl, gl g0, gl g1, gl g2, gl g10, gl g11, gl g12⟩
            · refine w_condF rfl ?_
              refine w_exit ?_
              refine nx_exit ?_
              cases hr
              exact ⟨_, _, rfl, ne_norm_exit, rfl, rfl, gl g0, gl g1, gl g2, gl g10, gl g11, gl g12⟩
          · obtain ⟨m_14, ho⟩ : ∃ z, z = o_2 := ⟨_, rfl⟩
            subst ho
            rintro _ mm_1 t_5 ⟨rfl, rfl, g0, g1, g2, g10, g11, g12⟩
            refine bk_hit ?_
            refine bk_norm ?_
            refine nx_norm ?_
            refine w_ops ?_
            refine wo_step (v := (.i .i64 x12)) (s_pure (p_mv g12)) ?_
            have hq := forceI_inv hr
            clear hr
            obtain ⟨x29, e29, hr⟩ := hq
            refine wo_step (v := (.i .i64 x29)) (s_pure (p_bin rfl rfl (b_add.trans (ci e29)))) ?_
            refine wo_step (v := (.i .i64 x29)) (s_pure (p_mv rfl)) ?_
            refine wo_nil ?_
            cases hr
            exact ⟨_, _, rfl, rfl, rfl, gl g11, gl rfl, gl g0, gl g1, gl g2, gl g10⟩
      · refine w_condF rfl ?_
        refine w_exit ?_
        refine nx_exit ?_
        cases hr
        exact ⟨_, _, rfl, ne_norm_exit, rfl, rfl, gl g11, gl g10⟩
    · obtain ⟨v11_1, m_15⟩ := o_3
      rintro _ mm_4 t_6 ⟨rfl, rfl, g11, g10⟩
      refine bk_hit ?_
      refine nx_norm ?_
      refine w_seq ?_
      refine w_ops ?_
      refine wo_step (v := v11_1) (s_pure (p_mv g11)) ?_
      refine wo_step (v := v23) (s_pure (p_mv g10)) ?_
      refine wo_step (v := v11_1) (s_pure (p_mv rfl)) ?_
      refine wo_step (v := v23) (s_pure (p_mv rfl)) ?_
      refine wo_step (v := (.i .i64 0)) (s_pure (p_mv rfl)) ?_
      refine wo_nil ?_
      refine nx_norm ?_
      refine w_ret ?_
      exact qf ret_ok (rt rfl (rt rfl (rt rfl rn))) hr

/- dibber/luck.Best -/

def g25 (M : Means) (ro : List ABlk) (x0 : Int) (v1 : AVal) (v2 : AVal) (m0 : Mm) : Option (AVal × Heap × Nat × Nat) :=
  bindP (callM M.call m0 23 [(.i .i64 x0), v1, v2]) fun v17 m_1 =>
  bindO (evP .e (.ext 0 (.c v17))) fun v18 =>
  bindO (evP .e (.ext 1 (.c v17))) fun v19 =>
  bindO (evP .e (.ext 2 (.c v17))) fun v20 =>
  asI .i64 v20 fun x20 =>
  forceB (!eqI x20 0) fun c22 =>
  cond c22 (
    finM m0.h.length (tupA [(.i .i64 0), (.i .i64 0), (.i .i64 x20)]) m_1) (
    bindP (callM M.call m_1 54 [v19]) fun v25 m_2 =>
    asI .i64 v25 fun x25 =>
    bindP (callM M.call m_2 55 [v19, (.i .i64 x25)]) fun v28 m_3 =>
    asI .i64 v28 fun x28 =>
    finM m0.h.length (tupA [(.i .i64 x28), (.i .i64 x25), (.i .i64 0)]) m_3)

theorem g25_ok {ro : List ABlk} {O : Caller} {M : Means} (hM : M.Ok ⟨F, O⟩ ro) {x0 v1 v2 h r} (ho : O 25 [(.i .i64 x0), v1, v2] h = none) (hr : g25 M ro x0 v1 v2 ⟨h, h.length, h.length⟩ = some r) : callX ⟨F, O⟩ ro 25 [(.i .i64 x0), v1, v2] h = some r := by
  refine callX_of (F := ⟨F, O⟩) (fn := fn25) (g := g25 M ro x0 v1 v2) ho rfl rfl hr ?_
  clear ho
  clear hr
  intro m0 t0 ht hr
  have g0 : t0.get 0 = (.i .i64 x0) := ht 0
  have g1 : t0.get 1 = v1 := ht 1
  have g2 : t0.get 2 = v2 := ht 2
  clear ht
  unfold g25 at hr
  refine w_seq ?_
  refine w_ops ?_
  refine wo_step (v := (.i .i64 0)) (s_pure (p_mv rfl)) ?_
  refine wo_step (v := (.i .i64 0)) (s_pure (p_mv rfl)) ?_
  refine wo_step (v := (.i .i64 0)) (s_pure (p_mv rfl)) ?_
  refine wo_nil ?_
  refine nx_norm ?_
  refine w_seq ?_
  refine w_ops ?_
  refine wo_step (v := (.i .i64 x0)) (s_pure (p_mv g0)) ?_
  refine wo_step (v := v1) (s_pure (p_mv g1)) ?_
  refine wo_step (v := v2) (s_pure (p_mv g2)) ?_
  have hq := bindP_inv hr
  clear hr
  obtain ⟨v17, m_1, e17, hr⟩ := hq
  refine wo_step (v := v17) (s_call (mc rfl (mc rfl (mc rfl mn))) (callM_le hM.call e17)) ?_
  refine wo_step (v := v17) (s_pure (p_mv rfl)) ?_
  have hq := bindO_inv hr
  clear hr
  obtain ⟨v18, e18, hr⟩ := hq
  refine wo_step (v := v18) (s_pure (o_ext rfl e18)) ?_
  have hq := bindO_inv hr
  clear hr
  obtain ⟨v19, e19, hr⟩ := hq
  refine wo_step (v := v19) (s_pure (o_ext rfl e19)) ?_
  have hq := bindO_inv hr
  clear hr
  obtain ⟨v20, e20, hr⟩ := hq
  have hq := asI_inv hr
  clear hr
  obtain ⟨x20, rfl, hr⟩ := hq
  refine wo_step (v := (.i .i64 x20)) (s_pure (o_ext rfl e20)) ?_
  refine wo_step (v := v18) (s_pure (p_mv rfl)) ?_
  refine wo_step (v := v19) (s_pure (p_mv rfl)) ?_
  refine wo_step (v := (.i .i64 x20)) (s_pure (p_mv rfl)) ?_
  refine wo_nil ?_
  refine nx_norm ?_
  refine w_seq ?_
  refine w_seq ?_
  refine w_ops ?_
  refine wo_step (v := (.i .i64 x20)) (s_pure (p_mv rfl)) ?_
  have hq := forceB_inv hr
  clear hr
  obtain ⟨c22, e22, hr⟩ := hq
  refine wo_step (v := (.b c22)) (s_pure (p_bin rfl rfl (b_neq.trans (cb e22)))) ?_
  refine wo_nil ?_
  refine nx_norm ?_
  have hq := cond_inv hr
  clear hr
  rcases hq with ⟨rfl, hr⟩ | ⟨rfl, hr⟩
  · refine w_condT rfl ?_
    refine w_seq ?_
    refine w_ops ?_
    refine wo_step (v := (.i .i64 x20)) (s_pure (p_mv rfl)) ?_
    refine wo_step (v := (.i .i64 0)) (s_pure (p_mv rfl)) ?_
    refine wo_step (v := (.i .i64 0)) (s_pure (p_mv rfl)) ?_
    refine wo_step (v := (.i .i64 x20)) (s_pure (p_mv rfl)) ?_
    refine wo_nil ?_
    refine nx_norm ?_
    refine w_ret ?_
    refine nx_ret ?_
    exact qf ret_ok (rt rfl (rt rfl (rt rfl rn))) hr
  · refine w_condF rfl ?_
    refine w_skip ?_
    refine nx_norm ?_
    refine w_seq ?_
    refine w_ops ?_
    refine wo_step (v := v19) (s_pure (p_mv rfl)) ?_
    have hq := bindP_inv hr
    clear hr
    obtain ⟨v25, m_2, e25, hr⟩ := hq
    have hq := asI_inv hr
    clear hr
    obtain ⟨x25, rfl, hr⟩ := hq
    refine wo_step (v := (.i .i64 x25)) (s_call (mc rfl mn) (callM_le hM.call e25)) ?_
    refine wo_step (v := (.i .i64 x25)) (s_pure (p_mv rfl)) ?_
    refine wo_nil ?_
    refine nx_norm ?_
    refine w_seq ?_
    refine w_ops ?_
    refine wo_step (v := v19) (s_pure (p_mv rfl)) ?_
    refine wo_step (v := (.i .i64 x25)) (s_pure (p_mv rfl)) ?_
    have hq := bindP_inv hr
    clear hr
    obtain ⟨v28, m_3, e28, hr⟩ := hq
    have hq := asI_inv hr
    clear hr
    obtain ⟨x28, rfl, hr⟩ := hq
    refine wo_step (v := (.i .i64 x28)) (s_call (mc rfl (mc rfl mn)) (callM_le hM.call e28)) ?_
    refine wo_step (v := (.i .i64 x25)) (s_pure (p_mv rfl)) ?_
    refine wo_step (v := (.i .i64 x28)) (s_pure (p_mv rfl)) ?_
    refine wo_step (v := (.i .i64 x25)) (s_pure (p_mv rfl)) ?_
    refine wo_step (v := (.i .i64 0)) (s_pure (p_mv rfl)) ?_
    refine wo_nil ?_
    refine nx_norm ?_
    refine w_ret ?_
    exact qf ret_ok (rt rfl (rt rfl (rt rfl rn))) hr

/- dibber/dibberref05.Best -/
abbrev g26_I0 (x0 : Int) (v20 : AVal) (m_1 : Mm) (s : Int × Int) (m1 : Mm) (t1 : Tr) : Prop :=
  match s with
  | (x12, x13) => m_1 = m1 ∧ t1.get 12 = (.i .i64 x12) ∧ t1.get 13 = (.i .i64 x13) ∧ t1.get 0 = (.i .i64 x0) ∧ t1.get 10 = v20
abbrev g26_J0 (x0 : Int) (v20 : AVal) (m_1 : Mm) (o : Int) (e : AExit) (m1 : Mm) (t1 : Tr) : Prop :=
  match o with
  | y12 => e = (.exit 0) ∧ m_1 = m1 ∧ t1.get 12 = (.i .i64 y12) ∧ t1.get 10 = v20
abbrev g26_J1 (x0 : Int) (v20 : AVal) (x13 : Int) (m_1 : Mm) (o : Int) (e : AExit) (m1 : Mm) (t1 : Tr) : Prop :=
  match o with
  | y12 => e = .norm ∧ m_1 = m1 ∧ t1.get 12 = (.i .i64 y12) ∧ t1.get 0 = (.i .i64 x0) ∧ t1.get 10 = v20 ∧ t1.get 13 = (.i .i64 x13)
def g26_b0 (M : Means) (ro : List ABlk) (x0 : Int) (v20 : AVal) (m_1 : Mm) (x12 : Int) (x13 : Int) : Option ((Int × Int) ⊕ (Int)) :=
  forceB (ltI x13 x0) fun c27 =>
  cond c27 (
    bindO (evP .e (.ixS 1 (.c v20) (.c (.i .i64 x13)))) fun v32 =>
    bindO (ldA ro m_1.h true 1 v32) fun v33 =>
    asI .i64 v33 fun x33 =>
    bindO (evP .e (.ixS 1 (.c v20) (.c (.i .i64 x12)))) fun v36 =>
    bindO (ldA ro m_1.h true 1 v36) fun v37 =>
    asI .i64 v37 fun x37 =>
    forceB (ltI x33 x37) fun c38 =>
    bindO (α := Int) (
      cond c38 (
        some x13) (
        some x12)) fun x12_1 =>
    forceI (wr .i64 (x13 + 1)) fun x29 =>
    some (.inl (x12_1, x29))) (
    some (.inr x12))
def g26 (M : Means) (ro : List ABlk) (x0 : Int) (v1 : AVal) (v2 : AVal) (m0 : Mm) : Option (AVal × Heap × Nat × Nat) :=
  bindP (callM M.call m0 24 [(.i .i64 x0), v1, v2]) fun v18 m_1 =>
  bindO (evP .e (.ext 0 (.c v18))) fun v19 =>
  bindO (evP .e (.ext 1 (.c v18))) fun v20 =>
  bindO (evP .e (.ext 2 (.c v18))) fun v21 =>
  asI .i64 v21 fun x21 =>
  forceB (!eqI x21 0) fun c23 =>
  cond c23 (
    finM m0.h.length (tupA [(.i .i64 0), (.i .i64 0), (.i .i64 x21)]) m_1) (
    bindO (M.loop (S := Int × Int) (R := Int) (fun s => g26_b0 M ro x0 v20 m_1 s.1 s.2) (0, 1)) fun x12_2 =>
    bindO (evP .e (.ixS 1 (.c v20) (.c (.i .i64 x12_2)))) fun v43 =>
    bindO (ldM ro m_1 true 1 v43) fun v44 =>
    asI .i64 v44 fun x44 =>
    finM m0.h.length (tupA [(.i .i64 x12_2), (.i .i64 x44), (.i .i64 0)]) m_1)

theorem g26_ok {ro : List ABlk} {O : Caller} {M : Means} (hM : M.Ok ⟨F, O⟩ ro) {x0 v1 v2 h r} (ho : O 26 [(.i .i64 x0), v1, v2] h = none) (hr : g26 M ro x0 v1 v2 ⟨h, h.length, h.length⟩ = some r) : callX ⟨F, O⟩ ro 26 [(.i .i64 x0), v1, v2] h = some r := by
  refine callX_of (F := ⟨F, O⟩) (fn := fn26) (g := g26 M ro x0 v1 v2) ho rfl rfl hr ?_
  clear ho
  clear hr
  intro m0 t0 ht hr
  have g0 : t0.get 0 = (.i .i64 x0) := ht 0
  have g1 : t0.get 1 = v1 := ht 1
  have g2 : t0.get 2 = v2 := ht 2
  clear ht
  unfold g26 at hr
  refine w_seq ?_
  refine w_ops ?_
  refine wo_step (v := (.i .i64 0)) (s_pure (p_mv rfl)) ?_
  refine wo_step (v := (.i .i64 0)) (s_pure (p_mv rfl)) ?_
  refine wo_step (v := (.i .i64 0)) (s_pure (p_mv rfl)) ?_
  refine wo_nil ?_
  refine nx_norm ?_
  refine w_seq ?_
  refine w_ops ?_
  refine wo_step (v := (.i .i64 x0)) (s_pure (p_mv g0)) ?_
  refine wo_step (v := v1) (s_pure (p_mv g1)) ?_
  refine wo_step (v := v2) (s_pure (p_mv g2)) ?_
  have hq := bindP_inv hr
  clear hr
  obtain ⟨v18, m_1, e18, hr⟩ := hq
  refine wo_step (v := v18) (s_call (mc rfl (mc rfl (mc rfl mn))) (callM_le hM.call e18)) ?_
  refine wo_step (v := v18) (s_pure (p_mv rfl)) ?_
  have hq := bindO_inv hr
  clear hr
  obtain ⟨v19, e19, hr⟩ := hq
  refine wo_step (v := v19) (s_pure (o_ext rfl e19)) ?_
  have hq := bindO_inv hr
  clear hr
  obtain ⟨v20, e20, hr⟩ := hq
  refine wo_step (v := v20) (s_pure (o_ext rfl e20)) ?_
  have hq := bindO_inv hr
  clear hr
  obtain ⟨v21, e21, hr⟩ := hq
  have hq := asI_inv hr
  clear hr
  obtain ⟨x21, rfl, hr⟩ := hq
  refine wo_step (v := (.i .i64 x21)) (s_pure (o_ext rfl e21)) ?_
  refine wo_step (v := v19) (s_pure (p_mv rfl)) ?_
  refine wo_step (v := v20) (s_pure (p_mv rfl)) ?_
  refine wo_step (v := (.i .i64 x21)) (s_pure (p_mv rfl)) ?_
  refine wo_nil ?_
  refine nx_norm ?_
  refine w_seq ?_
  refine w_seq ?_
  refine w_ops ?_
  refine wo_step (v := (.i .i64 x21)) (s_pure (p_mv rfl)) ?_
  have hq := forceB_inv hr
  clear hr
  obtain ⟨c23, e23, hr⟩ := hq
  refine wo_step (v := (.b c23)) (s_pure (p_bin rfl rfl (b_neq.trans (cb e23)))) ?_
  refine wo_nil ?_
  refine nx_norm ?_
  have hq := cond_inv hr
  clear hr
  rcases hq with ⟨rfl, hr⟩ | ⟨rfl, hr⟩
  · refine w_condT rfl ?_
    refine w_seq ?_
    refine w_ops ?_
    refine wo_step (v := (.i .i64 x21)) (s_pure (p_mv rfl)) ?_
    refine wo_step (v := (.i .i64 0)) (s_pure (p_mv rfl)) ?_
    refine wo_step (v := (.i .i64 0)) (s_pure (p_mv rfl)) ?_
    refine wo_step (v := (.i .i64 x21)) (s_pure (p_mv rfl)) ?_
    refine wo_nil ?_
    refine nx_norm ?_
    refine w_ret ?_
    refine nx_ret ?_
    exact qf ret_ok (rt rfl (rt rfl (rt rfl rn))) hr
  · refine w_condF rfl ?_
    refine w_skip ?_
    refine nx_norm ?_
    refine w_seq ?_
    refine w_ops ?_
    refine wo_step (v := (.i .i64 0)) (s_pure (p_mv rfl)) ?_
    refine wo_nil ?_
    refine nx_norm ?_
    refine w_seq ?_
    refine w_seq ?_
    refine w_ops ?_
    refine wo_step (v := (.i .i64 1)) (s_pure (p_mv rfl)) ?_
    refine wo_nil ?_
    refine nx_norm ?_
    refine w_block ?_
    have hq := bindO_inv hr
    clear hr
    obtain ⟨o_1, hl, hr⟩ := hq
    obtain ⟨n, hl⟩ := hM.loop _ _ _ hl
    refine jp_mono (w_loop _ (g26_I0 x0 v20 m_1) (g26_J0 x0 v20 m_1) ?_ n _ _ _ _ hl ⟨rfl, gl rfl, gl rfl, gl g0, gl rfl⟩) ?_
    · clear hr hl
      intro s mm_2 t_1 o hi hr
      obtain ⟨x12, x13⟩ := s
      obtain ⟨rfl, g12, g13, g0, g10⟩ := hi
      unfold g26_b0 at hr
      refine w_seq ?_
      refine w_seq ?_
      refine w_ops ?_
      refine wo_step (v := (.i .i64 x13)) (s_pure (p_mv g13)) ?_
      refine wo_step (v := (.i .i64 x0)) (s_pure (p_mv g0)) ?_
      have hq := forceB_inv hr
      clear hr
      obtain ⟨c27, e27, hr⟩ := hq
      refine wo_step (v := (.b c27)) (s_pure (p_bin rfl rfl (b_lss.trans (cb e27)))) ?_
      refine wo_nil ?_
      refine nx_norm ?_
      have hq := cond_inv hr
      clear hr
      rcases hq with ⟨rfl, hr⟩ | ⟨rfl, hr⟩
      · refine w_condT rfl ?_
        refine w_skip ?_
        refine nx_norm ?_
        refine w_seq ?_
        refine w_block ?_
        refine w_seq ?_
        refine w_any ?_
        refine wa_step (v := v20) (a_pure (p_mv g10)) ?_
        refine wa_step (v := (.i .i64 x13)) (a_pure (p_mv g13)) ?_
        have hq := bindO_inv hr
        clear hr
        obtain ⟨v32, e32, hr⟩ := hq
        refine wa_step (v := v32) (a_pure (o_ixS rfl rfl e32)) ?_
        have hq := bindO_inv hr
        clear hr
        obtain ⟨v33, e33, hr⟩ := hq
        have hq := asI_inv hr
        clear hr
        obtain ⟨x33, rfl, hr⟩ := hq
        refine wa_step (v := (.i .i64 x33)) (a_ld rfl e33) ?_
        refine wa_step (v := v20) (a_pure (p_mv g10)) ?_
        refine wa_step (v := (.i .i64 x12)) (a_pure (p_mv g12)) ?_
        have hq := bindO_inv hr
        clear hr
        obtain ⟨v36, e36, hr⟩ := hq
        refine wa_step (v := v36) (a_pure (o_ixS rfl rfl e36)) ?_
        have hq := bindO_inv hr
        clear hr
        obtain ⟨v37, e37, hr⟩ := hq
        have hq := asI_inv hr
        clear hr
        obtain ⟨x37, rfl, hr⟩ := hq
        refine wa_step (v := (.i .i64 x37)) (a_ld rfl e37) ?_
        have hq := forceB_inv hr
        clear hr
        obtain ⟨c38, e38, hr⟩ := hq
        refine wa_step (v := (.b c38)) (a_pure (p_bin rfl rfl (b_lss.trans (cb e38)))) ?_
        refine wa_nil ?_
        refine ⟨m_1, rfl, ?_⟩
        refine nx_norm ?_
        have hq := bindO_inv hr
        clear hr
        obtain ⟨o, hr, hk⟩ := hq
        refine jp_mono (J := g26_J1 x0 v20 x13 m_1 o) ?_ ?_
        · clear hk
          have hq := cond_inv hr
          clear hr
          rcases hq with ⟨rfl, hr⟩ | ⟨rfl, hr⟩
          · refine w_condT rfl ?_
            refine w_ops ?_
            refine wo_step (v := (.i .i64 x13)) (s_pure (p_mv g13)) ?_
            refine wo_step (v := (.i .i64 x13)) (s_pure (p_mv rfl)) ?_
            refine wo_nil ?_
            cases hr
            exact ⟨_, _, rfl, rfl, rfl, gl rfl, gl g0, gl g10, gl g13⟩
          · refine w_condF rfl ?_
            refine w_skip ?_
            cases hr
            exact ⟨_, _, rfl, rfl, rfl, gl g12, gl g0, gl g10, gl g13⟩
        · have hr := hk
          clear hk
          obtain ⟨x12_1, ho⟩ : ∃ z, z = o := ⟨_, rfl⟩
          subst ho
          rintro _ mm t_2 ⟨rfl, rfl, g12, g0, g10, g13⟩
          refine bk_norm ?_
          refine nx_norm ?_
          refine w_ops ?_
          refine wo_step (v := (.i .i64 x13)) (s_pure (p_mv g13)) ?_
          have hq := forceI_inv hr
          clear hr
          obtain ⟨x29, e29, hr⟩ := hq
          refine wo_step (v := (.i .i64 x29)) (s_pure (p_bin rfl rfl (b_add.trans (ci e29)))) ?_
          refine wo_step (v := (.i .i64 x29)) (s_pure (p_mv rfl)) ?_
          refine wo_nil ?_
          cases hr
          exact ⟨_, _, rfl, rfl, rfl, gl g12, gl rfl, gl g0, gl g10⟩
      · refine w_condF rfl ?_
        refine w_exit ?_
        refine nx_exit ?_
        cases hr
        exact ⟨_, _, rfl, ne_norm_exit, rfl, rfl, gl g12, gl g10⟩
    · obtain ⟨x12_2, ho⟩ : ∃ z, z = o_1 := ⟨_, rfl⟩
      subst ho
      rintro _ mm_1 t_3 ⟨rfl, rfl, g12, g10⟩
      refine bk_hit ?_
      refine nx_norm ?_
      refine w_seq ?_
      refine w_ops ?_
      refine wo_step (v := (.i .i64 x12_2)) (s_pure (p_mv g12)) ?_
      refine wo_step (v := v20) (s_pure (p_mv g10)) ?_
      refine wo_step (v := (.i .i64 x12_2)) (s_pure (p_mv g12)) ?_
      have hq := bindO_inv hr
      clear hr
      obtain ⟨v43, e43, hr⟩ := hq
      refine wo_step (v := v43) (s_pure (o_ixS rfl rfl e43)) ?_
      refine wo_step (v := (.i .i64 x12_2)) (s_pure (p_mv rfl)) ?_
      have hq := bindO_inv hr
      clear hr
      obtain ⟨v44, e44, hr⟩ := hq
      have hq := asI_inv hr
      clear hr
      obtain ⟨x44, rfl, hr⟩ := hq
      refine wo_step (v := (.i .i64 x44)) (s_ld rfl e44) ?_
      refine wo_step (v := (.i .i64 x44)) (s_pure (p_mv rfl)) ?_
      refine wo_step (v := (.i .i64 0)) (s_pure (p_mv rfl)) ?_
      refine wo_nil ?_
      refine nx_norm ?_
      refine w_ret ?_
      exact qf ret_ok (rt rfl (rt rfl (rt rfl rn))) hr

/- dibber/luck.Can -/

def g29 (M : Means) (ro : List ABlk) (x0 : Int) (v1 : AVal) (m0 : Mm) : Option (AVal × Heap × Nat × Nat) :=
  bindP (callM M.call m0 58 [(.i .i64 x0), v1]) fun v8 m_1 =>
  asB v8 fun c8 =>
  forceB (!c8) fun c9 =>
  cond c9 (
    finM m0.h.length (tupA [(.i .i64 0), (.i .i64 2)]) m_1) (
    bindP (callM M.call m_1 59 [v1]) fun v11 m_2 =>
    asI .i64 v11 fun x11 =>
    forceB (ltI x11 0) fun c12 =>
    cond c12 (
      finM m0.h.length (tupA [(.i .i64 0), (.i .i64 0)]) m_2) (
      finM m0.h.length (tupA [(.i .i64 1), (.i .i64 0)]) m_2))

theorem g29_ok {ro : List ABlk} {O : Caller} {M : Means} (hM : M.Ok ⟨F, O⟩ ro) {x0 v1 h r} (ho : O 29 [(.i .i64 x0), v1] h = none) (hr : g29 M ro x0 v1 ⟨h, h.length, h.length⟩ = some r) : callX ⟨F, O⟩ ro 29 [(.i .i64 x0), v1] h = some r := by
  refine callX_of (F := ⟨F, O⟩) (fn := fn29) (g := g29 M ro x0 v1) ho rfl rfl hr ?_
  clear ho
  clear hr
  intro m0 t0 ht hr
  have g0 : t0.get 0 = (.i .i64 x0) := ht 0
  have g1 : t0.get 1 = v1 := ht 1
  clear ht
  unfold g29 at hr
  refine w_seq ?_
  refine w_ops ?_
  refine wo_step (v := (.i .i64 0)) (s_pure (p_mv rfl)) ?_
  refine wo_step (v := (.i .i64 0)) (s_pure (p_mv rfl)) ?_
  refine wo_nil ?_
  refine nx_norm ?_
  refine w_seq ?_
  refine w_seq ?_
  refine w_ops ?_
  refine wo_step (v := (.i .i64 x0)) (s_pure (p_mv g0)) ?_
  refine wo_step (v := v1) (s_pure (p_mv g1)) ?_
  have hq := bindP_inv hr
  clear hr
  obtain ⟨v8, m_1, e8, hr⟩ := hq
  have hq := asB_inv hr
  clear hr
  obtain ⟨c8, rfl, hr⟩ := hq
  refine wo_step (v := (.b c8)) (s_call (mc rfl (mc rfl mn)) (callM_le hM.call e8)) ?_
  have hq := forceB_inv hr
  clear hr
  obtain ⟨c9, e9, hr⟩ := hq
  refine wo_step (v := (.b c9)) (s_pure ((p_not rfl).trans (cb e9))) ?_
  refine wo_nil ?_
  refine nx_norm ?_
  have hq := cond_inv hr
  clear hr
  rcases hq with ⟨rfl, hr⟩ | ⟨rfl, hr⟩
  · refine w_condT rfl ?_
    refine w_seq ?_
    refine w_ops ?_
    refine wo_step (v := (.i .i64 0)) (s_pure (p_mv rfl)) ?_
    refine wo_step (v := (.i .i64 2)) (s_pure (p_mv rfl)) ?_
    refine wo_nil ?_
    refine nx_norm ?_
    refine w_ret ?_
    refine nx_ret ?_
    exact qf ret_ok (rt rfl (rt rfl rn)) hr
  · refine w_condF rfl ?_
    refine w_skip ?_
    refine nx_norm ?_
    refine w_seq ?_
    refine w_seq ?_
    refine w_ops ?_
    refine wo_step (v := v1) (s_pure (p_mv g1)) ?_
    have hq := bindP_inv hr
    clear hr
    obtain ⟨v11, m_2, e11, hr⟩ := hq
    have hq := asI_inv hr
    clear hr
    obtain ⟨x11, rfl, hr⟩ := hq
    refine wo_step (v := (.i .i64 x11)) (s_call (mc rfl mn) (callM_le hM.call e11)) ?_
    have hq := forceB_inv hr
    clear hr
    obtain ⟨c12, e12, hr⟩ := hq
    refine wo_step (v := (.b c12)) (s_pure (p_bin rfl rfl (b_lss.trans (cb e12)))) ?_
    refine wo_nil ?_
    refine nx_norm ?_
    have hq := cond_inv hr
    clear hr
    rcases hq with ⟨rfl, hr⟩ | ⟨rfl, hr⟩
    · refine w_condT rfl ?_
      refine w_seq ?_
      refine w_ops ?_
      refine wo_step (v := (.i .i64 0)) (s_pure (p_mv rfl)) ?_
      refine wo_step (v := (.i .i64 0)) (s_pure (p_mv rfl)) ?_
      refine wo_nil ?_
      refine nx_norm ?_
      refine w_ret ?_
      refine nx_ret ?_
      exact qf ret_ok (rt rfl (rt rfl rn)) hr
    · refine w_condF rfl ?_
      refine w_skip ?_
      refine nx_norm ?_
      refine w_seq ?_
      refine w_ops ?_
      refine wo_step (v := (.i .i64 1)) (s_pure (p_mv rfl)) ?_
      refine wo_step (v := (.i .i64 0)) (s_pure (p_mv rfl)) ?_
      refine wo_nil ?_
      refine nx_norm ?_
      refine w_ret ?_
      exact qf ret_ok (rt rfl (rt rfl rn)) hr

/- dibber/luck.Guess -/
abbrev g31_J0 (v1 : AVal) (v2 : AVal) (v6 : AVal) (x16 : Int) (o : Bool × Mm) (m1 : Mm) (t1 : Tr) : Prop :=
  match o with
  | (c32, m_4) => m_4 = m1 ∧ t1.get 32 = (.b c32) ∧ t1.get 1 = v1 ∧ t1.get 2 = v2 ∧ t1.get 6 = v6 ∧ t1.get 8 = (.i .i64 x16)
abbrev g31_I1 (v6 : AVal) (v2 : AVal) (x38 : Int) (s : AVal × Int × Mm) (m1 : Mm) (t1 : Tr) : Prop :=
  match s with
  | (v1_1, x39, m_8) => m_8 = m1 ∧ t1.get 1 = v1_1 ∧ t1.get 39 = (.i .i64 x39) ∧ t1.get 6 = v6 ∧ t1.get 37 = v2 ∧ t1.get 38 = (.i .i64 x38)
abbrev g31_J1 (v6 : AVal) (v2 : AVal) (x38 : Int) (o : (AVal × Mm)) (e : AExit) (m1 : Mm) (t1 : Tr) : Prop :=
  match o with
  | (y1, mo) => e = (.exit 0) ∧ mo = m1 ∧ t1.get 1 = y1 ∧ t1.get 6 = v6
def g31_b1 (M : Means) (ro : List ABlk) (v6 : AVal) (v2 : AVal) (x38 : Int) (v1_1 : AVal) (x39 : Int) (m_8 : Mm) : Option ((AVal × Int × Mm) ⊕ ((AVal × Mm))) :=
  forceB (ltI x39 x38) fun c40 =>
  cond c40 (
    bindO (evP .e (.ixS 1 (.c v2) (.c (.i .i64 x39)))) fun v41 =>
    bindO (ldM ro m_8 true 1 v41) fun v42 =>
    asI .i64 v42 fun x42 =>
    bindP (callM M.call m_8 62 [v1_1, (.i .i64 x42)]) fun v45 m_9 =>
    forceI (wr .i64 (x39 + 1)) fun x46 =>
    some (.inl (v45, x46, m_9))) (
    some (.inr (v1_1, m_8)))
def g31 (M : Means) (ro : List ABlk) (x0 : Int) (v1 : AVal) (v2 : AVal) (m0 : Mm) : Option (AVal × Heap × Nat × Nat) :=
  bindP (stepM ro m0 (.al 42 [(AVal.i IntKind.i64 0), (AVal.i IntKind.i64 0)])) fun v6 m_1 =>
  bindP (callM M.call m_1 29 [(.i .i64 x0), v1]) fun v15 m_2 =>
  bindO (evP .e (.ext 0 (.c v15))) fun v16 =>
  asI .i64 v16 fun x16 =>
  bindO (evP .e (.ext 1 (.c v15))) fun v17 =>
  asI .i64 v17 fun x17 =>
  forceB (!eqI x17 0) fun c19 =>
  cond c19 (
    bindO ((fillA [(AVal.i IntKind.i64 0), (AVal.i IntKind.i64 0)] []).map AVal.agg) fun v20 =>
    bindP (stepM ro m_2 (.st 2 (.c v6) (.c v20))) fun vn m_3 =>
    bindO (ldM ro m_3 false 2 v6) fun vr =>
    finM m0.h.length (tupA [vr, (.i .i64 x17)]) m_3) (
    bindO (evP .e (.len false (.c v2))) fun v23 =>
    asI .i64 v23 fun x23 =>
    forceB (!ltI x23 x0) fun c25 =>
    bindO (cond c25 (
      some (true, m_2)) (
      bindO (evP .e (.len false (.c v2))) fun v29 =>
      asI .i64 v29 fun x29 =>
      bindP (callM M.call m_2 61 [v2, (.i .i64 x29)]) fun v30 m_5 =>
      asB v30 fun c30 =>
      forceB (!c30) fun c31 =>
      some (c31, m_5))) fun ⟨c32, m_4⟩ =>
    cond c32 (
      bindO ((fillA [(AVal.i IntKind.i64 0), (AVal.i IntKind.i64 0)] []).map AVal.agg) fun v33 =>
      bindP (stepM ro m_4 (.st 2 (.c v6) (.c v33))) fun vn_1 m_6 =>
      bindO (ldM ro m_6 false 2 v6) fun vr_1 =>
      finM m0.h.length (tupA [vr_1, (.i .i64 2)]) m_6) (
      forceB (eqI x16 0) fun c35 =>
      cond c35 (
        bindO ((fillA [(AVal.i IntKind.i64 0), (AVal.i IntKind.i64 0)] []).map AVal.agg) fun v36 =>
        bindP (stepM ro m_4 (.st 2 (.c v6) (.c v36))) fun vn_2 m_7 =>
        bindO (ldM ro m_7 false 2 v6) fun vr_2 =>
        finM m0.h.length (tupA [vr_2, (.i .i64 10)]) m_7) (
        bindO (evP .e (.len false (.c v2))) fun v38 =>
        asI .i64 v38 fun x38 =>
        bindO (M.loop (S := AVal × Int × Mm) (R := (AVal × Mm)) (fun s => g31_b1 M ro v6 v2 x38 s.1 s.2.1 s.2.2) (v1, 0, m_4)) fun ⟨v1_2, m_10⟩ =>
        bindP (callM M.call m_10 64 [v1_2]) fun v48 m_11 =>
        bindO (evP .e (.ext 0 (.c v48))) fun v49 =>
        asI .i64 v49 fun x49 =>
        bindO (evP .e (.ext 1 (.c v48))) fun v50 =>
        asI .i64 v50 fun x50 =>
        bindP (callM M.call m_11 63 [(.i .i64 x49), (.i .i64 x50)]) fun v51 m_12 =>
        bindP (stepM ro m_12 (.st 2 (.c v6) (.c v51))) fun vn_3 m_13 =>
        bindO (ldM ro m_13 false 2 v6) fun vr_3 =>
        finM m0.h.length (tupA [vr_3, (.i .i64 0)]) m_13)))

theorem g31_ok {ro : List ABlk} {O : Caller} {M : Means} (hM : M.Ok ⟨F, O⟩ ro) {x0 v1 v2 h r} (ho : O 31 [(.i .i64 x0), v1, v2] h = none) (hr : g31 M ro x0 v1 v2 ⟨h, h.length, h.length⟩ = some r) : callX ⟨F, O⟩ ro 31 [(.i .i64 x0), v1, v2] h = some r := by
  refine callX_of (F := ⟨F, O⟩) (fn := fn31) (g := g31 M ro x0 v1 v2) ho rfl rfl hr ?_
  clear ho
  clear hr
  intro m0 t0 ht hr
  have g0 : t0.get 0 = (.i .i64 x0) := ht 0
  have g1 : t0.get 1 = v1 := ht 1
  have g2 : t0.get 2 = v2 := ht 2
  clear ht
  unfold g31 at hr
  refine w_seq ?_
  refine w_ops ?_
  have hq := bindP_inv hr
  clear hr
  obtain ⟨v6, m_1, e6, hr⟩ := hq
  refine wo_step (v := v6) (s_al e6) ?_
  refine wo_step (v := (.i .i64 0)) (s_pure (p_mv rfl)) ?_
  refine wo_nil ?_
  refine nx_norm ?_
  refine w_seq ?_
  refine w_ops ?_
  refine wo_step (v := (.i .i64 x0)) (s_pure (p_mv g0)) ?_
  refine wo_step (v := v1) (s_pure (p_mv g1)) ?_
  have hq := bindP_inv hr
  clear hr
  obtain ⟨v15, m_2, e15, hr⟩ := hq
  refine wo_step (v := v15) (s_call (mc rfl (mc rfl mn)) (callM_le hM.call e15)) ?_
  refine wo_step (v := v15) (s_pure (p_mv rfl)) ?_
  have hq := bindO_inv hr
  clear hr
  obtain ⟨v16, e16, hr⟩ := hq
  have hq := asI_inv hr
  clear hr
  obtain ⟨x16, rfl, hr⟩ := hq
  refine wo_step (v := (.i .i64 x16)) (s_pure (o_ext rfl e16)) ?_
  have hq := bindO_inv hr
  clear hr
  obtain ⟨v17, e17, hr⟩ := hq
  have hq := asI_inv hr
  clear hr
  obtain ⟨x17, rfl, hr⟩ := hq
  refine wo_step (v := (.i .i64 x17)) (s_pure (o_ext rfl e17)) ?_
  refine wo_step (v := (.i .i64 x16)) (s_pure (p_mv rfl)) ?_
  refine wo_step (v := (.i .i64 x17)) (s_pure (p_mv rfl)) ?_
  refine wo_nil ?_
  refine nx_norm ?_
  refine w_seq ?_
  refine w_seq ?_
  refine w_ops ?_
  refine wo_step (v := (.i .i64 x17)) (s_pure (p_mv rfl)) ?_
  have hq := forceB_inv hr
  clear hr
  obtain ⟨c19, e19, hr⟩ := hq
  refine wo_step (v := (.b c19)) (s_pure (p_bin rfl rfl (b_neq.trans (cb e19)))) ?_
  refine wo_nil ?_
  refine nx_norm ?_
  have hq := cond_inv hr
  clear hr
  rcases hq with ⟨rfl, hr⟩ | ⟨rfl, hr⟩
  · refine w_condT rfl ?_
    refine w_seq ?_
    refine w_ops ?_
    have hq := bindO_inv hr
    clear hr
    obtain ⟨v20, e20, hr⟩ := hq
    refine wo_step (v := v20) (s_pure (o_build qn e20)) ?_
    refine wo_step (v := (.i .i64 x17)) (s_pure (p_mv rfl)) ?_
    have hq := bindP_inv hr
    clear hr
    obtain ⟨vn, m_3, en, hr⟩ := hq
    refine wo_stepN (s_st rfl rfl en) ?_
    refine wo_step (v := (.i .i64 x17)) (s_pure (p_mv rfl)) ?_
    refine wo_nil ?_
    refine nx_norm ?_
    refine w_ret ?_
    refine nx_ret ?_
    have hq := bindO_inv hr
    clear hr
    obtain ⟨vr, er, hr⟩ := hq
    exact qf ret_ok (rc rfl er (rt rfl rn)) hr
  · refine w_condF rfl ?_
    refine w_skip ?_
    refine nx_norm ?_
    refine w_seq ?_
    refine w_seq ?_
    refine w_ops ?_
    refine wo_step (v := v2) (s_pure (p_mv g2)) ?_
    have hq := bindO_inv hr
    clear hr
    obtain ⟨v23, e23, hr⟩ := hq
    have hq := asI_inv hr
    clear hr
    obtain ⟨x23, rfl, hr⟩ := hq
    refine wo_step (v := (.i .i64 x23)) (s_pure (o_len rfl e23)) ?_
    refine wo_step (v := (.i .i64 x0)) (s_pure (p_mv g0)) ?_
    have hq := forceB_inv hr
    clear hr
    obtain ⟨c25, e25, hr⟩ := hq
    refine wo_step (v := (.b c25)) (s_pure (p_bin rfl rfl (b_geq.trans (cb e25)))) ?_
    refine wo_step (v := (.b c25)) (s_pure (p_mv rfl)) ?_
    have hq := bindO_inv hr
    clear hr
    obtain ⟨o, hr, hk⟩ := hq
    refine wo_join 6 (g31_J0 v1 v2 v6 x16 o) ?_ ?_
    · clear hk
      have hq := cond_inv hr
      clear hr
      rcases hq with ⟨rfl, hr⟩ | ⟨rfl, hr⟩
      · refine wo_skip (v := (.b true)) rfl rfl ?_
        refine wo_skip (v := (.b true)) rfl rfl ?_
        refine wo_skip (v := (.b true)) rfl rfl ?_
        refine wo_skip (v := (.b true)) rfl rfl ?_
        refine wo_skip (v := (.b true)) rfl rfl ?_
        refine wo_step (v := (.b true)) (s_pure (p_pickT rfl rfl)) ?_
        refine wo_nil ?_
        cases hr
        exact ⟨_, _, rfl, rfl, gl rfl, gl g1, gl g2, gl rfl, gl rfl⟩
      · refine wo_take (v := v2) rfl (s_pure (p_mv g2)) ?_
        refine wo_take (v := v2) rfl (s_pure (p_mv g2)) ?_
        have hq := bindO_inv hr
        clear hr
        obtain ⟨v29, e29, hr⟩ := hq
        have hq := asI_inv hr
        clear hr
        obtain ⟨x29, rfl, hr⟩ := hq
        refine wo_take (v := (.i .i64 x29)) rfl (s_pure (o_len rfl e29)) ?_
        have hq := bindP_inv hr
        clear hr
        obtain ⟨v30, m_5, e30, hr⟩ := hq
        have hq := asB_inv hr
        clear hr
        obtain ⟨c30, rfl, hr⟩ := hq
        refine wo_take (v := (.b c30)) rfl (s_call (mc rfl (mc rfl mn)) (callM_le hM.call e30)) ?_
        have hq := forceB_inv hr
        clear hr
        obtain ⟨c31, e31, hr⟩ := hq
        refine wo_take (v := (.b c31)) rfl (s_pure ((p_not rfl).trans (cb e31))) ?_
        refine wo_step (v := (.b c31)) (s_pure (p_pickF rfl rfl)) ?_
        refine wo_nil ?_
        cases hr
        exact ⟨_, _, rfl, rfl, gl rfl, gl g1, gl g2, gl rfl, gl rfl⟩
    · clear hr
      have hr := hk
      clear hk
      obtain ⟨c32, m_4⟩ := o
      rintro mm t_1 ⟨rfl, g32, g1, g2, g6, g8⟩
      refine wo_nil ?_
      refine nx_norm ?_
      have hq := cond_inv hr
      clear hr
      rcases hq with ⟨rfl, hr⟩ | ⟨rfl, hr⟩
      · refine w_condT g32 ?_
        refine w_seq ?_
        refine w_ops ?_
        have hq := bindO_inv hr
        clear hr
        obtain ⟨v33, e33, hr⟩ := hq
        refine wo_step (v := v33) (s_pure (o_build qn e33)) ?_
        have hq := bindP_inv hr
        clear hr
        obtain ⟨vn_1, m_6, en_1, hr⟩ := hq
        refine wo_stepN (s_st g6 rfl en_1) ?_
        refine wo_step (v := (.i .i64 2)) (s_pure (p_mv rfl)) ?_
        refine wo_nil ?_
        refine nx_norm ?_
        refine w_ret ?_
        refine nx_ret ?_
        have hq := bindO_inv hr
        clear hr
        obtain ⟨vr_1, er_1, hr⟩ := hq
        exact qf ret_ok (rc g6 er_1 (rt rfl rn)) hr
      · refine w_condF g32 ?_
        refine w_skip ?_
        refine nx_norm ?_
        refine w_seq ?_
        refine w_seq ?_
        refine w_ops ?_
        refine wo_step (v := (.i .i64 x16)) (s_pure (p_mv g8)) ?_
        have hq := forceB_inv hr
        clear hr
        obtain ⟨c35, e35, hr⟩ := hq
        refine wo_step (v := (.b c35)) (s_pure (p_bin rfl rfl (b_eql.trans (cb e35)))) ?_
        refine wo_nil ?_
        refine nx_norm ?_
        have hq := cond_inv hr
        clear hr
        rcases hq with ⟨rfl, hr⟩ | ⟨rfl, hr⟩
        · refine w_condT rfl ?_
          refine w_seq ?_
          refine w_ops ?_
          have hq := bindO_inv hr
          clear hr
          obtain ⟨v36, e36, hr⟩ := hq
          refine wo_step (v := v36) (s_pure (o_build qn e36)) ?_
          have hq := bindP_inv hr
          clear hr
          obtain ⟨vn_2, m_7, en_2, hr⟩ := hq
          refine wo_stepN (s_st g6 rfl en_2) ?_
          refine wo_step (v := (.i .i64 10)) (s_pure (p_mv rfl)) ?_
          refine wo_nil ?_
          refine nx_norm ?_
          refine w_ret ?_
          refine nx_ret ?_
          have hq := bindO_inv hr
          clear hr
          obtain ⟨vr_2, er_2, hr⟩ := hq
          exact qf ret_ok (rc g6 er_2 (rt rfl rn)) hr
        · refine w_condF rfl ?_
          refine w_skip ?_
          refine nx_norm ?_
          refine w_seq ?_
          refine w_seq ?_
          refine w_ops ?_
          refine wo_step (v := v2) (s_pure (p_mv g2)) ?_
          have hq := bindO_inv hr
          clear hr
          obtain ⟨v38, e38, hr⟩ := hq
          have hq := asI_inv hr
          clear hr
          obtain ⟨x38, rfl, hr⟩ := hq
          refine wo_step (v := (.i .i64 x38)) (s_pure (o_len rfl e38)) ?_
          refine wo_step (v := (.i .i64 0)) (s_pure (p_mv rfl)) ?_
          refine wo_nil ?_
          refine nx_norm ?_
          refine w_block ?_
          have hq := bindO_inv hr
          clear hr
          obtain ⟨o_1, hl, hr⟩ := hq
          obtain ⟨n, hl⟩ := hM.loop _ _ _ hl
          refine jp_mono (w_loop _ (g31_I1 v6 v2 x38) (g31_J1 v6 v2 x38) ?_ n _ _ _ _ hl ⟨rfl, gl g1, gl rfl, gl g6, gl rfl, gl rfl⟩) ?_
          · clear hr hl
            intro s mm_2 t_2 o hi hr
            obtain ⟨v1_1, x39, m_8⟩ := s
            obtain ⟨rfl, g1, g39, g6, g37, g38⟩ := hi
            unfold g31_b1 at hr
            refine w_seq ?_
            refine w_ops ?_
            have hq := forceB_inv hr
            clear hr
            obtain ⟨c40, e40, hr⟩ := hq
            refine wo_step (v := (.b c40)) (s_pure (p_bin g39 g38 (b_lss.trans (cb e40)))) ?_
            refine wo_nil ?_
            refine nx_norm ?_
            refine w_seq ?_
            have hq := cond_inv hr
            clear hr
            rcases hq with ⟨rfl, hr⟩ | ⟨rfl, hr⟩
            · refine w_condT rfl ?_
              refine w_skip ?_
              refine nx_norm ?_
              refine w_seq ?_
              refine w_block ?_
              refine w_seq ?_
              refine w_ops ?_
              have hq := bindO_inv hr
              clear hr
              obtain ⟨v41, e41, hr⟩ := hq
              refine wo_step (v := v41) (s_pure (o_ixS g37 g39 e41)) ?_
              have hq := bindO_inv hr
              clear hr
              obtain ⟨v42, e42, hr⟩ := hq
              have hq := asI_inv hr
              clear hr
              obtain ⟨x42, rfl, hr⟩ := hq
              refine wo_step (v := (.i .i64 x42)) (s_ld rfl e42) ?_
              refine wo_step (v := (.i .i64 x42)) (s_pure (p_mv rfl)) ?_
              refine wo_nil ?_
              refine nx_norm ?_
              refine w_ops ?_
              refine wo_step (v := v1_1) (s_pure (p_mv g1)) ?_
              refine wo_step (v := (.i .i64 x42)) (s_pure (p_mv rfl)) ?_
              have hq := bindP_inv hr
              clear hr
              obtain ⟨v45, m_9, e45, hr⟩ := hq
              refine wo_step (v := v45) (s_call (mc rfl (mc rfl mn)) (callM_le hM.call e45)) ?_
              refine wo_step (v := v45) (s_pure (p_mv rfl)) ?_
              refine wo_nil ?_
              refine bk_norm ?_
              refine nx_norm ?_
              refine w_ops ?_
              have hq := forceI_inv hr
              clear hr
              obtain ⟨x46, e46, hr⟩ := hq
              refine wo_step (v := (.i .i64 x46)) (s_pure (p_bin g39 rfl (b_add.trans (ci e46)))) ?_
              refine wo_step (v := (.i .i64 x46)) (s_pure (p_mv rfl)) ?_
              refine wo_nil ?_
              cases hr
              exact ⟨_, _, rfl, rfl, rfl, gl rfl, gl rfl, gl g6, gl g37, gl g38⟩
            · refine w_condF rfl ?_
              refine w_exit ?_
              refine nx_exit ?_
              cases hr
              exact ⟨_, _, rfl, ne_norm_exit, rfl, rfl, gl g1, gl g6⟩
          · obtain ⟨v1_2, m_10⟩ := o_1
            rintro _ mm_1 t_3 ⟨rfl, rfl, g1, g6⟩
            refine bk_hit ?_
            refine nx_norm ?_
            refine w_seq ?_
            refine w_ops ?_
            refine wo_step (v := v1_2) (s_pure (p_mv g1)) ?_
            have hq := bindP_inv hr
            clear hr
            obtain ⟨v48, m_11, e48, hr⟩ := hq
            refine wo_step (v := v48) (s_call (mc rfl mn) (callM_le hM.call e48)) ?_
            have hq := bindO_inv hr
            clear hr
            obtain ⟨v49, e49, hr⟩ := hq
            have hq := asI_inv hr
            clear hr
            obtain ⟨x49, rfl, hr⟩ := hq
            refine wo_step (v := (.i .i64 x49)) (s_pure (o_ext rfl e49)) ?_
            have hq := bindO_inv hr
            clear hr
            obtain ⟨v50, e50, hr⟩ := hq
            have hq := asI_inv hr
            clear hr
            obtain ⟨x50, rfl, hr⟩ := hq
            refine wo_step (v := (.i .i64 x50)) (s_pure (o_ext rfl e50)) ?_
            have hq := bindP_inv hr
            clear hr
            obtain ⟨v51, m_12, e51, hr⟩ := hq
            refine wo_step (v := v51) (s_call (mc rfl (mc rfl mn)) (callM_le hM.call e51)) ?_
            have hq := bindP_inv hr
            clear hr
            obtain ⟨vn_3, m_13, en_3, hr⟩ := hq
            refine wo_stepN (s_st g6 rfl en_3) ?_
            refine wo_step (v := (.i .i64 0)) (s_pure (p_mv rfl)) ?_
            refine wo_nil ?_
            refine nx_norm ?_
            refine w_ret ?_
            have hq := bindO_inv hr
            clear hr
            obtain ⟨vr_3, er_3, hr⟩ := hq
            exact qf ret_ok (rc g6 er_3 (rt rfl rn)) hr

/- dibber/luck.Regret -/
abbrev g35_J0 (x0 : Int) (x1 : Int) (v2 : AVal) (v6 : AVal) (m_1 : Mm) (o : Bool) (m1 : Mm) (t1 : Tr) : Prop :=
  match o with
  | c21 => m_1 = m1 ∧ t1.get 21 = (.b c21) ∧ t1.get 0 = (.i .i64 x0) ∧ t1.get 1 = (.i .i64 x1) ∧ t1.get 2 = v2 ∧ t1.get 6 = v6
abbrev g35_J1 (x0 : Int) (x1 : Int) (v2 : AVal) (v6 : AVal) (m_1 : Mm) (o : Bool) (m1 : Mm) (t1 : Tr) : Prop :=
  match o with
  | c25 => m_1 = m1 ∧ t1.get 25 = (.b c25) ∧ t1.get 0 = (.i .i64 x0) ∧ t1.get 1 = (.i .i64 x1) ∧ t1.get 2 = v2 ∧ t1.get 6 = v6
abbrev g35_J2 (x0 : Int) (x1 : Int) (v2 : AVal) (v6 : AVal) (m_1 : Mm) (o : Bool) (m1 : Mm) (t1 : Tr) : Prop :=
  match o with
  | c29 => m_1 = m1 ∧ t1.get 29 = (.b c29) ∧ t1.get 0 = (.i .i64 x0) ∧ t1.get 1 = (.i .i64 x1) ∧ t1.get 2 = v2 ∧ t1.get 6 = v6
abbrev g35_J3 (x0 : Int) (x1 : Int) (v2 : AVal) (v6 : AVal) (o : Bool × Mm) (m1 : Mm) (t1 : Tr) : Prop :=
  match o with
  | (c36, m_2) => m_2 = m1 ∧ t1.get 36 = (.b c36) ∧ t1.get 0 = (.i .i64 x0) ∧ t1.get 1 = (.i .i64 x1) ∧ t1.get 2 = v2 ∧ t1.get 6 = v6
abbrev g35_I4 (x0 : Int) (v6 : AVal) (v39 : AVal) (v2 : AVal) (x41 : Int) (s : Int × Mm) (m1 : Mm) (t1 : Tr) : Prop :=
  match s with
  | (x42, m_6) => m_6 = m1 ∧ t1.get 42 = (.i .i64 x42) ∧ t1.get 0 = (.i .i64 x0) ∧ t1.get 6 = v6 ∧ t1.get 8 = v39 ∧ t1.get 40 = v2 ∧ t1.get 41 = (.i .i64 x41)
abbrev g35_J4 (x0 : Int) (v6 : AVal) (v39 : AVal) (v2 : AVal) (x41 : Int) (o : Mm) (e : AExit) (m1 : Mm) (t1 : Tr) : Prop :=
  match o with
  | mo => e = (.exit 0) ∧ mo = m1 ∧ t1.get 0 = (.i .i64 x0) ∧ t1.get 6 = v6 ∧ t1.get 8 = v39
abbrev g35_I5 (x0 : Int) (v6 : AVal) (v39 : AVal) (v2 : AVal) (x41 : Int) (x42 : Int) (v45 : AVal) (x47 : Int) (s : Int × Mm) (m1 : Mm) (t1 : Tr) : Prop :=
  match s with
  | (x48, m_7) => m_7 = m1 ∧ t1.get 48 = (.i .i64 x48) ∧ t1.get 0 = (.i .i64 x0) ∧ t1.get 6 = v6 ∧ t1.get 8 = v39 ∧ t1.get 40 = v2 ∧ t1.get 41 = (.i .i64 x41) ∧ t1.get 42 = (.i .i64 x42) ∧ t1.get 46 = v45 ∧ t1.get 47 = (.i .i64 x47)
abbrev g35_J5 (x0 : Int) (v6 : AVal) (v39 : AVal) (v2 : AVal) (x41 : Int) (x42 : Int) (v45 : AVal) (x47 : Int) (o : Mm) (e : AExit) (m1 : Mm) (t1 : Tr) : Prop :=
  match o with
  | mo => e = (.exit 2) ∧ mo = m1 ∧ t1.get 0 = (.i .i64 x0) ∧ t1.get 6 = v6 ∧ t1.get 8 = v39 ∧ t1.get 40 = v2 ∧ t1.get 41 = (.i .i64 x41) ∧ t1.get 42 = (.i .i64 x42)
def g35_b5 (M : Means) (ro : List ABlk) (x0 : Int) (v6 : AVal) (v39 : AVal) (v2 : AVal) (x41 : Int) (x42 : Int) (v45 : AVal) (x47 : Int) (x48 : Int) (m_7 : Mm) : Option ((Int × Mm) ⊕ (Mm)) :=
  forceB (ltI x48 x47) fun c49 =>
  cond c49 (
    bindO (evP .e (.ixS 1 (.c v45) (.c (.i .i64 x48)))) fun v51 =>
    bindO (ldM ro m_7 true 1 v51) fun v52 =>
    asI .i64 v52 fun x52 =>
    bindO (evP .e (.ixS 1 (.c v39) (.c (.i .i64 x48)))) fun v57 =>
    bindO (ldM ro m_7 true 1 v57) fun v58 =>
    asI .i64 v58 fun x58 =>
    forceI (wr .i64 (2 * x58)) fun x59 =>
    forceI (wr .i64 (x59 + x52)) fun x61 =>
    bindO (evP .e (.ixS 1 (.c v39) (.c (.i .i64 x48)))) fun v62 =>
    bindP (stepM ro m_7 (.st 1 (.c v62) (.c (.i .i64 x61)))) fun vn_1 m_8 =>
    forceI (wr .i64 (x48 + 1)) fun x63 =>
    some (.inl (x63, m_8))) (
    some (.inr m_7))
def g35_b4 (M : Means) (ro : List ABlk) (x0 : Int) (v6 : AVal) (v39 : AVal) (v2 : AVal) (x41 : Int) (x42 : Int) (m_6 : Mm) : Option ((Int × Mm) ⊕ (Mm)) :=
  forceB (ltI x42 x41) fun c43 =>
  cond c43 (
    bindO (evP .e (.ixS 1 (.c v2) (.c (.i .i64 x42)))) fun v44 =>
    bindO (ldM ro m_6 true 1 v44) fun v45 =>
    bindO (evP .e (.len false (.c v45))) fun v47 =>
    asI .i64 v47 fun x47 =>
    bindO (M.loop (S := Int × Mm) (R := Mm) (fun s => g35_b5 M ro x0 v6 v39 v2 x41 x42 v45 x47 s.1 s.2) (0, m_6)) fun m_9 =>
    forceI (wr .i64 (x42 + 1)) fun x64 =>
    some (.inl (x64, m_9))) (
    some (.inr m_6))
abbrev g35_I6 (x0 : Int) (v6 : AVal) (v39 : AVal) (x66 : Int) (s : Int × Int × Mm) (m1 : Mm) (t1 : Tr) : Prop :=
  match s with
  | (x14, x68, m_11) => m_11 = m1 ∧ t1.get 14 = (.i .i64 x14) ∧ t1.get 68 = (.i .i64 x68) ∧ t1.get 0 = (.i .i64 x0) ∧ t1.get 6 = v6 ∧ t1.get 8 = v39 ∧ t1.get 13 = (.i .i64 x66) ∧ t1.get 67 = (.i .i64 x66)
abbrev g35_J6 (x0 : Int) (v6 : AVal) (v39 : AVal) (x66 : Int) (o : (Int × Mm)) (e : AExit) (m1 : Mm) (t1 : Tr) : Prop :=
  match o with
  | (y14, mo) => e = (.exit 4) ∧ mo = m1 ∧ t1.get 14 = (.i .i64 y14) ∧ t1.get 0 = (.i .i64 x0) ∧ t1.get 6 = v6 ∧ t1.get 13 = (.i .i64 x66)
def g35_b6 (M : Means) (ro : List ABlk) (x0 : Int) (v6 : AVal) (v39 : AVal) (x66 : Int) (x14 : Int) (x68 : Int) (m_11 : Mm) : Option ((Int × Int × Mm) ⊕ ((Int × Mm))) :=
  forceB (ltI x68 x66) fun c69 =>
  cond c69 (
    bindP (callM M.call m_11 69 [v39, (.i .i64 x68)]) fun v74 m_12 =>
    asI .i64 v74 fun x74 =>
    forceI (wr .i64 (x14 + x74)) fun x75 =>
    forceI (wr .i64 (x68 + 1)) fun x76 =>
    some (.inl (x75, x76, m_12))) (
    some (.inr (x14, m_11)))
def g35 (M : Means) (ro : List ABlk) (x0 : Int) (x1 : Int) (v2 : AVal) (m0 : Mm) : Option (AVal × Heap × Nat × Nat) :=
  bindP (stepM ro m0 (.al 42 [(AVal.i IntKind.i64 0), (AVal.i IntKind.i64 0)])) fun v6 m_1 =>
  forceB (ltI x0 1) fun c17 =>
  bindO (cond c17 (
    some true) (
    forceB (ltI 10 x0) fun c20 =>
    some c20)) fun c21 =>
  bindO (cond c21 (
    some true) (
    forceB (ltI x1 1) fun c24 =>
    some c24)) fun c25 =>
  bindO (cond c25 (
    some true) (
    forceB (ltI 20 x1) fun c28 =>
    some c28)) fun c29 =>
  bindO (cond c29 (
    some (true, m_1)) (
    bindP (callM M.call m_1 68 [v2, (.i .i64 x0), (.i .i64 x1)]) fun v34 m_3 =>
    asB v34 fun c34 =>
    forceB (!c34) fun c35 =>
    some (c35, m_3))) fun ⟨c36, m_2⟩ =>
  cond c36 (
    bindO ((fillA [(AVal.i IntKind.i64 0), (AVal.i IntKind.i64 0)] []).map AVal.agg) fun v37 =>
    bindP (stepM ro m_2 (.st 2 (.c v6) (.c v37))) fun vn m_4 =>
    bindO (ldM ro m_4 false 2 v6) fun vr =>
    finM m0.h.length (tupA [vr, (.i .i64 2)]) m_4) (
    bindP (stepM ro m_2 (.mk 3 1 8 [(AVal.i IntKind.i64 0)] (.c (.i .i64 x1)) (.c (.i .i64 x1)))) fun v39 m_5 =>
    bindO (evP .e (.len false (.c v2))) fun v41 =>
    asI .i64 v41 fun x41 =>
    bindO (M.loop (S := Int × Mm) (R := Mm) (fun s => g35_b4 M ro x0 v6 v39 v2 x41 s.1 s.2) (0, m_5)) fun m_10 =>
    chk (!ltI x0 (.ofNat 0)) <|
    forceI (shlV .i64 1 x0) fun x66 =>
    bindO (M.loop (S := Int × Int × Mm) (R := (Int × Mm)) (fun s => g35_b6 M ro x0 v6 v39 x66 s.1 s.2.1 s.2.2) (0, 0, m_10)) fun ⟨x14_1, m_13⟩ =>
    forceI (wr .i64 (x0 * x66)) fun x79 =>
    forceI (wr .i64 (2 * x14_1)) fun x81 =>
    forceI (wr .i64 (x79 - x81)) fun x82 =>
    forceI (wr .i64 (2 * x66)) fun x84 =>
    bindP (callM M.call m_13 63 [(.i .i64 x82), (.i .i64 x84)]) fun v85 m_14 =>
    bindP (stepM ro m_14 (.st 2 (.c v6) (.c v85))) fun vn_2 m_15 =>
    bindO (ldM ro m_15 false 2 v6) fun vr_1 =>
    finM m0.h.length (tupA [vr_1, (.i .i64 0)]) m_15)

theorem g35_ok {ro : List ABlk} {O : Caller} {M : Means} (hM : M.Ok ⟨F, O⟩ ro) {x0 x1 v2 h r} (ho : O 35 [(.i .i64 x0), (.i .i64 x1), v2] h = none) (hr : g35 M ro x0 x1 v2 ⟨h, h.length, h.length⟩ = some r) : callX ⟨F, O⟩ ro 35 [(.i .i64 x0), (.i .i64 x1), v2] h = some r := by
  refine callX_of (F := ⟨F, O⟩) (fn := fn35) (g := g35 M ro x0 x1 v2) ho rfl rfl hr ?_
  clear ho
  clear hr
  intro m0 t0 ht hr
  have g0 : t0.get 0 = (.i .i64 x0) := ht 0
  have g1 : t0.get 1 = (.i .i64 x1) := ht 1
  have g2 : t0.get 2 = v2 := ht 2
  clear ht
  unfold g35 at hr
  refine w_seq ?_
  refine w_ops ?_
  have hq := bindP_inv hr
  clear hr
  obtain ⟨v6, m_1, e6, hr⟩ := hq
  refine wo_step (v := v6) (s_al e6) ?_
  refine wo_step (v := (.i .i64 0)) (s_pure (p_mv rfl)) ?_
  refine wo_nil ?_
  refine nx_norm ?_
  refine w_seq ?_
  refine w_seq ?_
  refine w_ops ?_
  refine wo_step (v := (.i .i64 x0)) (s_pure (p_mv g0)) ?_
  have hq := forceB_inv hr
  clear hr
  obtain ⟨c17, e17, hr⟩ := hq
  refine wo_step (v := (.b c17)) (s_pure (p_bin rfl rfl (b_lss.trans (cb e17)))) ?_
  refine wo_step (v := (.b c17)) (s_pure (p_mv rfl)) ?_
  have hq := bindO_inv hr
  clear hr
  obtain ⟨o, hr, hk⟩ := hq
  refine wo_join 3 (g35_J0 x0 x1 v2 v6 m_1 o) ?_ ?_
  · clear hk
    have hq := cond_inv hr
    clear hr
    rcases hq with ⟨rfl, hr⟩ | ⟨rfl, hr⟩
    · refine wo_skip (v := (.b true)) rfl rfl ?_
      refine wo_skip (v := (.b true)) rfl rfl ?_
      refine wo_step (v := (.b true)) (s_pure (p_pickT rfl rfl)) ?_
      refine wo_nil ?_
      cases hr
      exact ⟨_, _, rfl, rfl, gl rfl, gl g0, gl g1, gl g2, gl rfl⟩
    · refine wo_take (v := (.i .i64 x0)) rfl (s_pure (p_mv g0)) ?_
      have hq := forceB_inv hr
      clear hr
      obtain ⟨c20, e20, hr⟩ := hq
      refine wo_take (v := (.b c20)) rfl (s_pure (p_bin rfl rfl (b_gtr.trans (cb e20)))) ?_
      refine wo_step (v := (.b c20)) (s_pure (p_pickF rfl rfl)) ?_
      refine wo_nil ?_
      cases hr
      exact ⟨_, _, rfl, rfl, gl rfl, gl g0, gl g1, gl g2, gl rfl⟩
  · clear hr
    have hr := hk
    clear hk
    obtain ⟨c21, ho⟩ : ∃ z, z = o := ⟨_, rfl⟩
    subst ho
    rintro mm t_1 ⟨rfl, g21, g0, g1, g2, g6⟩
    refine wo_step (v := (.b c21)) (s_pure (p_mv g21)) ?_
    have hq := bindO_inv hr
    clear hr
    obtain ⟨o_1, hr, hk⟩ := hq
    refine wo_join 3 (g35_J1 x0 x1 v2 v6 m_1 o_1) ?_ ?_
    · clear hk
      have hq := cond_inv hr
      clear hr
      rcases hq with ⟨rfl, hr⟩ | ⟨rfl, hr⟩
      · refine wo_skip (v := (.b true)) rfl rfl ?_
        refine wo_skip (v := (.b true)) rfl rfl ?_
        refine wo_step (v := (.b true)) (s_pure (p_pickT rfl rfl)) ?_
        refine wo_nil ?_
        cases hr
        exact ⟨_, _, rfl, rfl, gl rfl, gl g0, gl g1, gl g2, gl g6⟩
      · refine wo_take (v := (.i .i64 x1)) rfl (s_pure (p_mv g1)) ?_
        have hq := forceB_inv hr
        clear hr
        obtain ⟨c24, e24, hr⟩ := hq
        refine wo_take (v := (.b c24)) rfl (s_pure (p_bin rfl rfl (b_lss.trans (cb e24)))) ?_
        refine wo_step (v := (.b c24)) (s_pure (p_pickF rfl rfl)) ?_
        refine wo_nil ?_
        cases hr
        exact ⟨_, _, rfl, rfl, gl rfl, gl g0, gl g1, gl g2, gl g6⟩
    · clear hr
      have hr := hk
      clear hk
      obtain ⟨c25, ho⟩ : ∃ z, z = o_1 := ⟨_, rfl⟩
      subst ho
      rintro mm_1 t_2 ⟨rfl, g25, g0, g1, g2, g6⟩
      refine wo_step (v := (.b c25)) (s_pure (p_mv g25)) ?_
      have hq := bindO_inv hr
      clear hr
      obtain ⟨o_2, hr, hk⟩ := hq
      refine wo_join 3 (g35_J2 x0 x1 v2 v6 m_1 o_2) ?_ ?_
      · clear hk
        have hq := cond_inv hr
        clear hr
        rcases hq with ⟨rfl, hr⟩ | ⟨rfl, hr⟩
        · refine wo_skip (v := (.b true)) rfl rfl ?_
          refine wo_skip (v := (.b true)) rfl rfl ?_
          refine wo_step (v := (.b true)) (s_pure (p_pickT rfl rfl)) ?_
          refine wo_nil ?_
          cases hr
          exact ⟨_, _, rfl, rfl, gl rfl, gl g0, gl g1, gl g2, gl g6⟩
        · refine wo_take (v := (.i .i64 x1)) rfl (s_pure (p_mv g1)) ?_
          have hq := forceB_inv hr
          clear hr
          obtain ⟨c28, e28, hr⟩ := hq
          refine wo_take (v := (.b c28)) rfl (s_pure (p_bin rfl rfl (b_gtr.trans (cb e28)))) ?_
          refine wo_step (v := (.b c28)) (s_pure (p_pickF rfl rfl)) ?_
          refine wo_nil ?_
          cases hr
          exact ⟨_, _, rfl, rfl, gl rfl, gl g0, gl g1, gl g2, gl g6⟩
      · clear hr
        have hr := hk
        clear hk
        obtain ⟨c29, ho⟩ : ∃ z, z = o_2 := ⟨_, rfl⟩
        subst ho
        rintro mm_2 t_3 ⟨rfl, g29, g0, g1, g2, g6⟩
        refine wo_step (v := (.b c29)) (s_pure (p_mv g29)) ?_
        have hq := bindO_inv hr
        clear hr
        obtain ⟨o_3, hr, hk⟩ := hq
        refine wo_join 6 (g35_J3 x0 x1 v2 v6 o_3) ?_ ?_
        · clear hk
          have hq := cond_inv hr
          clear hr
          rcases hq with ⟨rfl, hr⟩ | ⟨rfl, hr⟩
          · refine wo_skip (v := (.b true)) rfl rfl ?_
            refine wo_skip (v := (.b true)) rfl rfl ?_
            refine wo_skip (v := (.b true)) rfl rfl ?_
            refine wo_skip (v := (.b true)) rfl rfl ?_
            refine wo_skip (v := (.b true)) rfl rfl ?_
            refine wo_step (v := (.b true)) (s_pure (p_pickT rfl rfl)) ?_
            refine wo_nil ?_
            cases hr
            exact ⟨_, _, rfl, rfl, gl rfl, gl g0, gl g1, gl g2, gl g6⟩
          · refine wo_take (v := v2) rfl (s_pure (p_mv g2)) ?_
            refine wo_take (v := (.i .i64 x0)) rfl (s_pure (p_mv g0)) ?_
            refine wo_take (v := (.i .i64 x1)) rfl (s_pure (p_mv g1)) ?_
            have hq := bindP_inv hr
            clear hr
            obtain ⟨v34, m_3, e34, hr⟩ := hq
            have hq := asB_inv hr
            clear hr
            obtain ⟨c34, rfl, hr⟩ := hq
            refine wo_take (v := (.b c34)) rfl (s_call (mc rfl (mc rfl (mc rfl mn))) (callM_le hM.call e34)) ?_
            have hq := forceB_inv hr
            clear hr
            obtain ⟨c35, e35, hr⟩ := hq
            refine wo_take (v := (.b c35)) rfl (s_pure ((p_not rfl).trans (cb e35))) ?_
            refine wo_step (v := (.b c35)) (s_pure (p_pickF rfl rfl)) ?_
            refine wo_nil ?_
            cases hr
            exact ⟨_, _, rfl, rfl, gl rfl, gl g0, gl g1, gl g2, gl g6⟩
        · clear hr
          have hr := hk
          clear hk
          obtain ⟨c36, m_2⟩ := o_3
          rintro mm_3 t_4 ⟨rfl, g36, g0, g1, g2, g6⟩
          refine wo_nil ?_
          refine nx_norm ?_
          have hq := cond_inv hr
          clear hr
          rcases hq with ⟨rfl, hr⟩ | ⟨rfl, hr⟩
          · refine w_condT g36 ?_
            refine w_seq ?_
            refine w_ops ?_
            have hq := bindO_inv hr
            clear hr
            obtain ⟨v37, e37, hr⟩ := hq
            refine wo_step (v := v37) (s_pure (o_build qn e37)) ?_
            have hq := bindP_inv hr
            clear hr
            obtain ⟨vn, m_4, en, hr⟩ := hq
            refine wo_stepN (s_st g6 rfl en) ?_
            refine wo_step (v := (.i .i64 2)) (s_pure (p_mv rfl)) ?_
            refine wo_nil ?_
            refine nx_norm ?_
            refine w_ret ?_
            refine nx_ret ?_
            have hq := bindO_inv hr
            clear hr
            obtain ⟨vr, er, hr⟩ := hq
            exact qf ret_ok (rc g6 er (rt rfl rn)) hr
          · refine w_condF g36 ?_
            refine w_skip ?_
            refine nx_norm ?_
            refine w_seq ?_
            refine w_ops ?_
            refine wo_step (v := (.i .i64 x1)) (s_pure (p_mv g1)) ?_
            have hq := bindP_inv hr
            clear hr
            obtain ⟨v39, m_5, e39, hr⟩ := hq
            refine wo_step (v := v39) (s_mk rfl rfl e39) ?_
            refine wo_step (v := v39) (s_pure (p_mv rfl)) ?_
            refine wo_nil ?_
            refine nx_norm ?_
            refine w_seq ?_
            refine w_seq ?_
            refine w_ops ?_
            refine wo_step (v := v2) (s_pure (p_mv g2)) ?_
            have hq := bindO_inv hr
            clear hr
            obtain ⟨v41, e41, hr⟩ := hq
            have hq := asI_inv hr
            clear hr
            obtain ⟨x41, rfl, hr⟩ := hq
            refine wo_step (v := (.i .i64 x41)) (s_pure (o_len rfl e41)) ?_
            refine wo_step (v := (.i .i64 0)) (s_pure (p_mv rfl)) ?_
            refine wo_nil ?_
            refine nx_norm ?_
            refine w_block ?_
            have hq := bindO_inv hr
            clear hr
            obtain ⟨o_5, hl_2, hr⟩ := hq
            obtain ⟨n_2, hl_2⟩ := hM.loop _ _ _ hl_2
            refine jp_mono (w_loop _ (g35_I4 x0 v6 v39 v2 x41) (g35_J4 x0 v6 v39 v2 x41) ?_ n_2 _ _ _ _ hl_2 ⟨rfl, gl rfl, gl g0, gl g6, gl rfl, gl rfl, gl rfl⟩) ?_
            · clear hr hl_2
              intro s mm_9 t_5 o hi hr
              obtain ⟨x42, m_6⟩ := s
              obtain ⟨rfl, g42, g0, g6, g8, g40, g41⟩ := hi
              unfold g35_b4 at hr
              refine w_seq ?_
              refine w_ops ?_
              have hq := forceB_inv hr
              clear hr
              obtain ⟨c43, e43, hr⟩ := hq
              refine wo_step (v := (.b c43)) (s_pure (p_bin g42 g41 (b_lss.trans (cb e43)))) ?_
              refine wo_nil ?_
              refine nx_norm ?_
              refine w_seq ?_
              have hq := cond_inv hr
              clear hr
              rcases hq with ⟨rfl, hr⟩ | ⟨rfl, hr⟩
              · refine w_condT rfl ?_
                refine w_skip ?_
                refine nx_norm ?_
                refine w_seq ?_
                refine w_block ?_
                refine w_seq ?_
                refine w_ops ?_
                have hq := bindO_inv hr
                clear hr
                obtain ⟨v44, e44, hr⟩ := hq
                refine wo_step (v := v44) (s_pure (o_ixS g40 g42 e44)) ?_
                have hq := bindO_inv hr
                clear hr
                obtain ⟨v45, e45, hr⟩ := hq
                refine wo_step (v := v45) (s_ld rfl e45) ?_
                refine wo_step (v := v45) (s_pure (p_mv rfl)) ?_
                refine wo_nil ?_
                refine nx_norm ?_
                refine w_seq ?_
                refine w_ops ?_
                refine wo_step (v := v45) (s_pure (p_mv rfl)) ?_
                have hq := bindO_inv hr
                clear hr
                obtain ⟨v47, e47, hr⟩ := hq
                have hq := asI_inv hr
                clear hr
                obtain ⟨x47, rfl, hr⟩ := hq
                refine wo_step (v := (.i .i64 x47)) (s_pure (o_len rfl e47)) ?_
                refine wo_step (v := (.i .i64 0)) (s_pure (p_mv rfl)) ?_
                refine wo_nil ?_
                refine nx_norm ?_
                refine w_block ?_
                have hq := bindO_inv hr
                clear hr
                obtain ⟨o_4, hl, hr⟩ := hq
                obtain ⟨n, hl⟩ := hM.loop _ _ _ hl
                refine jp_mono (w_loop _ (g35_I5 x0 v6 v39 v2 x41 x42 v45 x47) (g35_J5 x0 v6 v39 v2 x41 x42 v45 x47) ?_ n _ _ _ _ hl ⟨rfl, gl rfl, gl g0, gl g6, gl g8, gl g40, gl g41, gl g42, gl rfl, gl rfl⟩) ?_
                · clear hr hl
                  intro s mm_5 t_6 o hi hr
                  obtain ⟨x48, m_7⟩ := s
                  obtain ⟨rfl, g48, g0, g6, g8, g40, g41, g42, g46, g47⟩ := hi
                  unfold g35_b5 at hr
                  refine w_seq ?_
                  refine w_ops ?_
                  have hq := forceB_inv hr
                  clear hr
                  obtain ⟨c49, e49, hr⟩ := hq
                  refine wo_step (v := (.b c49)) (s_pure (p_bin g48 g47 (b_lss.trans (cb e49)))) ?_
                  refine wo_nil ?_
                  refine nx_norm ?_
                  refine w_seq ?_
                  have hq := cond_inv hr
                  clear hr
                  rcases hq with ⟨rfl, hr⟩ | ⟨rfl, hr⟩
                  · refine w_condT rfl ?_
                    refine w_skip ?_
                    refine nx_norm ?_
                    refine w_seq ?_
                    refine w_block ?_
                    refine w_seq ?_
                    refine w_ops ?_
                    refine wo_step (v := (.i .i64 x48)) (s_pure (p_mv g48)) ?_
                    have hq := bindO_inv hr
                    clear hr
                    obtain ⟨v51, e51, hr⟩ := hq
                    refine wo_step (v := v51) (s_pure (o_ixS g46 g48 e51)) ?_
                    have hq := bindO_inv hr
                    clear hr
                    obtain ⟨v52, e52, hr⟩ := hq
                    have hq := asI_inv hr
                    clear hr
                    obtain ⟨x52, rfl, hr⟩ := hq
                    refine wo_step (v := (.i .i64 x52)) (s_ld rfl e52) ?_
                    refine wo_step (v := (.i .i64 x48)) (s_pure (p_mv rfl)) ?_
                    refine wo_step (v := (.i .i64 x52)) (s_pure (p_mv rfl)) ?_
                    refine wo_nil ?_
                    refine nx_norm ?_
                    refine w_ops ?_
                    refine wo_step (v := v39) (s_pure (p_mv g8)) ?_
                    refine wo_step (v := (.i .i64 x48)) (s_pure (p_mv rfl)) ?_
                    refine wo_step (v := v39) (s_pure (p_mv g8)) ?_
                    refine wo_step (v := (.i .i64 x48)) (s_pure (p_mv rfl)) ?_
                    have hq := bindO_inv hr
                    clear hr
                    obtain ⟨v57, e57, hr⟩ := hq
                    refine wo_step (v := v57) (s_pure (o_ixS rfl rfl e57)) ?_
                    have hq := bindO_inv hr
                    clear hr
                    obtain ⟨v58, e58, hr⟩ := hq
                    have hq := asI_inv hr
                    clear hr
                    obtain ⟨x58, rfl, hr⟩ := hq
                    refine wo_step (v := (.i .i64 x58)) (s_ld rfl e58) ?_
                    have hq := forceI_inv hr
                    clear hr
                    obtain ⟨x59, e59, hr⟩ := hq
                    refine wo_step (v := (.i .i64 x59)) (s_pure (p_bin rfl rfl (b_mul.trans (ci e59)))) ?_
                    refine wo_step (v := (.i .i64 x52)) (s_pure (p_mv rfl)) ?_
                    have hq := forceI_inv hr
                    clear hr
                    obtain ⟨x61, e61, hr⟩ := hq
                    refine wo_step (v := (.i .i64 x61)) (s_pure (p_bin rfl rfl (b_add.trans (ci e61)))) ?_
                    have hq := bindO_inv hr
                    clear hr
                    obtain ⟨v62, e62, hr⟩ := hq
                    refine wo_step (v := v62) (s_pure (o_ixS rfl rfl e62)) ?_
                    have hq := bindP_inv hr
                    clear hr
                    obtain ⟨vn_1, m_8, en_1, hr⟩ := hq
                    refine wo_stepN (s_st rfl rfl en_1) ?_
                    refine wo_nil ?_
                    refine bk_norm ?_
                    refine nx_norm ?_
                    refine w_ops ?_
                    have hq := forceI_inv hr
                    clear hr
                    obtain ⟨x63, e63, hr⟩ := hq
                    refine wo_step (v := (.i .i64 x63)) (s_pure (p_bin g48 rfl (b_add.trans (ci e63)))) ?_
                    refine wo_step (v := (.i .i64 x63)) (s_pure (p_mv rfl)) ?_
                    refine wo_nil ?_
                    cases hr
                    exact ⟨_, _, rfl, rfl, rfl, gl rfl, gl g0, gl g6, gl g8, gl g40, gl g41, gl g42, gl g46, gl g47⟩
                  · refine w_condF rfl ?_
                    refine w_exit ?_
                    refine nx_exit ?_
                    cases hr
                    exact ⟨_, _, rfl, ne_norm_exit, rfl, rfl, gl g0, gl g6, gl g8, gl g40, gl g41, gl g42⟩
                · obtain ⟨m_9, ho⟩ : ∃ z, z = o_4 := ⟨_, rfl⟩
                  subst ho
                  rintro _ mm_4 t_7 ⟨rfl, rfl, g0, g6, g8, g40, g41, g42⟩
                  refine bk_hit ?_
                  refine bk_norm ?_
                  refine nx_norm ?_
                  refine w_ops ?_
                  have hq := forceI_inv hr
                  clear hr
                  obtain ⟨x64, e64, hr⟩ := hq
                  refine wo_step (v := (.i .i64 x64)) (s_pure (p_bin g42 rfl (b_add.trans (ci e64)))) ?_
                  refine wo_step (v := (.i .i64 x64)) (s_pure (p_mv rfl)) ?_
                  refine wo_nil ?_
                  cases hr
                  exact ⟨_, _, rfl, rfl, rfl, gl rfl, gl g0, gl g6, gl g8, gl g40, gl g41⟩
              · refine w_condF rfl ?_
                refine w_exit ?_
                refine nx_exit ?_
                cases hr
                exact ⟨_, _, rfl, ne_norm_exit, rfl, rfl, gl g0, gl g6, gl g8⟩
            · obtain ⟨m_10, ho⟩ : ∃ z, z = o_5 := ⟨_, rfl⟩
              subst ho
              rintro _ mm_8 t_8 ⟨rfl, rfl, g0, g6, g8⟩
              refine bk_hit ?_
              refine nx_norm ?_
              refine w_seq ?_
              refine w_ops ?_
              refine wo_step (v := (.i .i64 x0)) (s_pure (p_mv g0)) ?_
              have hq := chk_inv hr
              clear hr
              obtain ⟨hc66, hr⟩ := hq
              have hq := forceI_inv hr
              clear hr
              obtain ⟨x66, e66, hr⟩ := hq
              refine wo_step (v := (.i .i64 x66)) (s_pure (p_bin rfl rfl ((b_shl hc66).trans (ci e66)))) ?_
              refine wo_step (v := (.i .i64 x66)) (s_pure (p_mv rfl)) ?_
              refine wo_nil ?_
              refine nx_norm ?_
              refine w_seq ?_
              refine w_ops ?_
              refine wo_step (v := (.i .i64 0)) (s_pure (p_mv rfl)) ?_
              refine wo_nil ?_
              refine nx_norm ?_
              refine w_seq ?_
              refine w_seq ?_
              refine w_ops ?_
              refine wo_step (v := (.i .i64 x66)) (s_pure (p_mv rfl)) ?_
              refine wo_step (v := (.i .i64 0)) (s_pure (p_mv rfl)) ?_
              refine wo_nil ?_
              refine nx_norm ?_
              refine w_block ?_
              have hq := bindO_inv hr
              clear hr
              obtain ⟨o_6, hl_1, hr⟩ := hq
              obtain ⟨n_1, hl_1⟩ := hM.loop _ _ _ hl_1
              refine jp_mono (w_loop _ (g35_I6 x0 v6 v39 x66) (g35_J6 x0 v6 v39 x66) ?_ n_1 _ _ _ _ hl_1 ⟨rfl, gl rfl, gl rfl, gl g0, gl g6, gl g8, gl rfl, gl rfl⟩) ?_
              · clear hr hl_1
                intro s mm_7 t_9 o hi hr
                obtain ⟨x14, x68, m_11⟩ := s
                obtain ⟨rfl, g14, g68, g0, g6, g8, g13, g67⟩ := hi
                unfold g35_b6 at hr
                refine w_seq ?_
                refine w_ops ?_
                have hq := forceB_inv hr
                clear hr
                obtain ⟨c69, e69, hr⟩ := hq
                refine wo_step (v := (.b c69)) (s_pure (p_bin g68 g67 (b_lss.trans (cb e69)))) ?_
                refine wo_nil ?_
                refine nx_norm ?_
                refine w_seq ?_
                have hq := cond_inv hr
                clear hr
                rcases hq with ⟨rfl, hr⟩ | ⟨rfl, hr⟩
                · refine w_condT rfl ?_
                  refine w_skip ?_
                  refine nx_norm ?_
                  refine w_seq ?_
                  refine w_block ?_
                  refine w_seq ?_
                  refine w_ops ?_
                  refine wo_step (v := (.i .i64 x68)) (s_pure (p_mv g68)) ?_
                  refine wo_step (v := (.i .i64 x68)) (s_pure (p_mv rfl)) ?_
                  refine wo_nil ?_
                  refine nx_norm ?_
                  refine w_ops ?_
                  refine wo_step (v := (.i .i64 x14)) (s_pure (p_mv g14)) ?_
                  refine wo_step (v := v39) (s_pure (p_mv g8)) ?_
                  refine wo_step (v := (.i .i64 x68)) (s_pure (p_mv rfl)) ?_
                  have hq := bindP_inv hr
                  clear hr
                  obtain ⟨v74, m_12, e74, hr⟩ := hq
                  have hq := asI_inv hr
                  clear hr
                  obtain ⟨x74, rfl, hr⟩ := hq
                  refine wo_step (v := (.i .i64 x74)) (s_call (mc rfl (mc rfl mn)) (callM_le hM.call e74)) ?_
                  have hq := forceI_inv hr
                  clear hr
                  obtain ⟨x75, e75, hr⟩ := hq
                  refine wo_step (v := (.i .i64 x75)) (s_pure (p_bin rfl rfl (b_add.trans (ci e75)))) ?_
                  refine wo_step (v := (.i .i64 x75)) (s_pure (p_mv rfl)) ?_
                  refine wo_nil ?_
                  refine bk_norm ?_
                  refine nx_norm ?_
                  refine w_ops ?_
                  have hq := forceI_inv hr
                  clear hr
                  obtain ⟨x76, e76, hr⟩ := hq
                  refine wo_step (v := (.i .i64 x76)) (s_pure (p_bin g68 rfl (b_add.trans (ci e76)))) ?_
                  refine wo_step (v := (.i .i64 x76)) (s_pure (p_mv rfl)) ?_
                  refine wo_nil ?_
                  cases hr
                  exact ⟨_, _, rfl, rfl, rfl, gl rfl, gl rfl, gl g0, gl g6, gl g8, gl g13, gl g67⟩
                · refine w_condF rfl ?_
                  refine w_exit ?_
                  refine nx_exit ?_
                  cases hr
                  exact ⟨_, _, rfl, ne_norm_exit, rfl, rfl, gl g14, gl g0, gl g6, gl g13⟩
              · obtain ⟨x14_1, m_13⟩ := o_6
                rintro _ mm_6 t_10 ⟨rfl, rfl, g14, g0, g6, g13⟩
                refine bk_hit ?_
                refine nx_norm ?_
                refine w_seq ?_
                refine w_ops ?_
                refine wo_step (v := (.i .i64 x0)) (s_pure (p_mv g0)) ?_
                refine wo_step (v := (.i .i64 x66)) (s_pure (p_mv g13)) ?_
                have hq := forceI_inv hr
                clear hr
                obtain ⟨x79, e79, hr⟩ := hq
                refine wo_step (v := (.i .i64 x79)) (s_pure (p_bin rfl rfl (b_mul.trans (ci e79)))) ?_
                refine wo_step (v := (.i .i64 x14_1)) (s_pure (p_mv g14)) ?_
                have hq := forceI_inv hr
                clear hr
                obtain ⟨x81, e81, hr⟩ := hq
                refine wo_step (v := (.i .i64 x81)) (s_pure (p_bin rfl rfl (b_mul.trans (ci e81)))) ?_
                have hq := forceI_inv hr
                clear hr
                obtain ⟨x82, e82, hr⟩ := hq
                refine wo_step (v := (.i .i64 x82)) (s_pure (p_bin rfl rfl (b_sub.trans (ci e82)))) ?_
                refine wo_step (v := (.i .i64 x66)) (s_pure (p_mv g13)) ?_
                have hq := forceI_inv hr
                clear hr
                obtain ⟨x84, e84, hr⟩ := hq
                refine wo_step (v := (.i .i64 x84)) (s_pure (p_bin rfl rfl (b_mul.trans (ci e84)))) ?_
                have hq := bindP_inv hr
                clear hr
                obtain ⟨v85, m_14, e85, hr⟩ := hq
                refine wo_step (v := v85) (s_call (mc rfl (mc rfl mn)) (callM_le hM.call e85)) ?_
                have hq := bindP_inv hr
                clear hr
                obtain ⟨vn_2, m_15, en_2, hr⟩ := hq
                refine wo_stepN (s_st g6 rfl en_2) ?_
                refine wo_step (v := (.i .i64 0)) (s_pure (p_mv rfl)) ?_
                refine wo_nil ?_
                refine nx_norm ?_
                refine w_ret ?_
                have hq := bindO_inv hr
                clear hr
                obtain ⟨vr_1, er_1, hr⟩ := hq
                exact qf ret_ok (rc g6 er_1 (rt rfl rn)) hr

/- dibber/dibberref05.Record -/
abbrev g38_J0 (x0 : Int) (v1 : AVal) (v2 : AVal) (m0 : Mm) (o : Bool) (m1 : Mm) (t1 : Tr) : Prop :=
  match o with
  | c15 => m0 = m1 ∧ t1.get 15 = (.b c15) ∧ t1.get 0 = (.i .i64 x0) ∧ t1.get 1 = v1 ∧ t1.get 2 = v2
abbrev g38_I1 (x0 : Int) (v1 : AVal) (v2 : AVal) (s : Int × Mm) (m1 : Mm) (t1 : Tr) : Prop :=
  match s with
  | (x7, m_1) => m_1 = m1 ∧ t1.get 7 = (.i .i64 x7) ∧ t1.get 0 = (.i .i64 x0) ∧ t1.get 1 = v1 ∧ t1.get 2 = v2
abbrev g38_J1 (x0 : Int) (v1 : AVal) (v2 : AVal) (o : (Mm ⊕ (Int × Mm))) (e : AExit) (m1 : Mm) (t1 : Tr) : Prop :=
  match o with
  | (.inl mo) => e = (.exit 0) ∧ mo = m1 ∧ t1.get 1 = v1 ∧ t1.get 2 = v2
  | (.inr (y6, mo)) => e = .ret ∧ mo = m1 ∧ t1.get 6 = (.i .i64 y6)
abbrev g38_I2 (x0 : Int) (v1 : AVal) (v2 : AVal) (x7 : Int) (s : Int × Mm) (m1 : Mm) (t1 : Tr) : Prop :=
  match s with
  | (x8, m_2) => m_2 = m1 ∧ t1.get 8 = (.i .i64 x8) ∧ t1.get 0 = (.i .i64 x0) ∧ t1.get 1 = v1 ∧ t1.get 2 = v2 ∧ t1.get 7 = (.i .i64 x7)
abbrev g38_J2 (x0 : Int) (v1 : AVal) (v2 : AVal) (x7 : Int) (o : (Mm ⊕ (Int × Mm))) (e : AExit) (m1 : Mm) (t1 : Tr) : Prop :=
  match o with
  | (.inl mo) => e = (.exit 2) ∧ mo = m1 ∧ t1.get 0 = (.i .i64 x0) ∧ t1.get 1 = v1 ∧ t1.get 2 = v2 ∧ t1.get 7 = (.i .i64 x7)
  | (.inr (y6, mo)) => e = .ret ∧ mo = m1 ∧ t1.get 6 = (.i .i64 y6)
def g38_b2 (M : Means) (ro : List ABlk) (x0 : Int) (v1 : AVal) (v2 : AVal) (x7 : Int) (x8 : Int) (m_2 : Mm) : Option ((Int × Mm) ⊕ ((Mm ⊕ (Int × Mm)))) :=
  forceB (ltI x8 x0) fun c34 =>
  cond c34 (
    bindO (evP .e (.ixS 1 (.c v1) (.c (.i .i64 x7)))) fun v39 =>
    bindO (ldM ro m_2 true 1 v39) fun v40 =>
    bindO (evP .e (.ixS 1 (.c v40) (.c (.i .i64 x8)))) fun v42 =>
    bindO (ldM ro m_2 true 1 v42) fun v43 =>
    asI .i64 v43 fun x43 =>
    bindP (callM M.call m_2 65 [(.i .i64 x43)]) fun v44 m_3 =>
    asB v44 fun c44 =>
    forceB (!c44) fun c45 =>
    cond c45 (
      some (.inr (.inr (2, m_3)))) (
      forceI (wr .i64 (x8 + 1)) fun x36 =>
      some (.inl (x36, m_3)))) (
    some (.inr (.inl m_2)))
def g38_b1 (M : Means) (ro : List ABlk) (x0 : Int) (v1 : AVal) (v2 : AVal) (x7 : Int) (m_1 : Mm) : Option ((Int × Mm) ⊕ ((Mm ⊕ (Int × Mm)))) :=
  bindO (evP .e (.len false (.c v1))) fun v21 =>
  asI .i64 v21 fun x21 =>
  forceB (ltI x7 x21) fun c22 =>
  cond c22 (
    bindO (evP .e (.ixS 1 (.c v1) (.c (.i .i64 x7)))) fun v27 =>
    bindO (ldM ro m_1 true 1 v27) fun v28 =>
    bindO (evP .e (.len false (.c v28))) fun v29 =>
    asI .i64 v29 fun x29 =>
    forceB (!eqI x29 x0) fun c31 =>
    cond c31 (
      some (.inr (.inr (2, m_1)))) (
      bindO (M.loop (S := Int × Mm) (R := (Mm ⊕ (Int × Mm))) (fun s => g38_b2 M ro x0 v1 v2 x7 s.1 s.2) (0, m_1)) fun o_1 => match o_1 with
      | (.inl m_4) =>
        forceI (wr .i64 (x7 + 1)) fun x24 =>
        some (.inl (x24, m_4))
      | (.inr (x6, m_5)) =>
        some (.inr (.inr (x6, m_5))))) (
    some (.inr (.inl m_1)))
abbrev g38_I3 (v2 : AVal) (s : Int × Mm) (m1 : Mm) (t1 : Tr) : Prop :=
  match s with
  | (x9, m_7) => m_7 = m1 ∧ t1.get 9 = (.i .i64 x9) ∧ t1.get 2 = v2
abbrev g38_J3 (v2 : AVal) (o : (Mm ⊕ (Int × Mm))) (e : AExit) (m1 : Mm) (t1 : Tr) : Prop :=
  match o with
  | (.inl mo) => e = (.exit 4) ∧ mo = m1
  | (.inr (y6, mo)) => e = .ret ∧ mo = m1 ∧ t1.get 6 = (.i .i64 y6)
def g38_b3 (M : Means) (ro : List ABlk) (v2 : AVal) (x9 : Int) (m_7 : Mm) : Option ((Int × Mm) ⊕ ((Mm ⊕ (Int × Mm)))) :=
  bindO (evP .e (.len false (.c v2))) fun v53 =>
  asI .i64 v53 fun x53 =>
  forceB (ltI x9 x53) fun c54 =>
  cond c54 (
    bindO (evP .e (.ixS 1 (.c v2) (.c (.i .i64 x9)))) fun v59 =>
    bindO (ldM ro m_7 true 1 v59) fun v60 =>
    asI .i64 v60 fun x60 =>
    bindP (callM M.call m_7 65 [(.i .i64 x60)]) fun v61 m_8 =>
    asB v61 fun c61 =>
    forceB (!c61) fun c62 =>
    cond c62 (
      some (.inr (.inr (2, m_8)))) (
      forceI (wr .i64 (x9 + 1)) fun x56 =>
      some (.inl (x56, m_8)))) (
    some (.inr (.inl m_7)))
def g38 (M : Means) (ro : List ABlk) (x0 : Int) (v1 : AVal) (v2 : AVal) (m0 : Mm) : Option (AVal × Heap × Nat × Nat) :=
  forceB (ltI x0 1) fun c11 =>
  bindO (cond c11 (
    some true) (
    forceB (ltI 20 x0) fun c14 =>
    some c14)) fun c15 =>
  cond c15 (
    finM m0.h.length (tupA [(.i .i64 2)]) m0) (
    bindO (evP .e (.len false (.c v1))) fun v17 =>
    asI .i64 v17 fun x17 =>
    forceB (ltI 200 x17) fun c18 =>
    cond c18 (
      finM m0.h.length (tupA [(.i .i64 3)]) m0) (
      bindO (M.loop (S := Int × Mm) (R := (Mm ⊕ (Int × Mm))) (fun s => g38_b1 M ro x0 v1 v2 s.1 s.2) (0, m0)) fun o_2 => match o_2 with
      | (.inl m_6) =>
        bindO (evP .e (.len false (.c v2))) fun v47 =>
        asI .i64 v47 fun x47 =>
        bindO (evP .e (.len false (.c v1))) fun v49 =>
        asI .i64 v49 fun x49 =>
        forceB (!eqI x47 x49) fun c50 =>
        cond c50 (
          finM m0.h.length (tupA [(.i .i64 2)]) m_6) (
          bindO (M.loop (S := Int × Mm) (R := (Mm ⊕ (Int × Mm))) (fun s => g38_b3 M ro v2 s.1 s.2) (0, m_6)) fun o_3 => match o_3 with
          | (.inl m_9) =>
            finM m0.h.length (tupA [(.i .i64 0)]) m_9
          | (.inr (x6_1, m_10)) =>
            finM m0.h.length (tupA [(.i .i64 x6_1)]) m_10)
      | (.inr (x6_2, m_11)) =>
        finM m0.h.length (tupA [(.i .i64 x6_2)]) m_11))

theorem g38_ok {ro : List ABlk} {O : Caller} {M : Means} (hM : M.Ok ⟨F, O⟩ ro) {x0 v1 v2 h r} (ho : O 38 [(.i .i64 x0), v1, v2] h = none) (hr : g38 M ro x0 v1 v2 ⟨h, h.length, h.length⟩ = some r) : callX ⟨F, O⟩ ro 38 [(.i .i64 x0), v1, v2] h = some r := by
  refine callX_of (F := ⟨F, O⟩) (fn := fn38) (g := g38 M ro x0 v1 v2) ho rfl rfl hr ?_
  clear ho
  clear hr
  intro m0 t0 ht hr
  have g0 : t0.get 0 = (.i .i64 x0) := ht 0
  have g1 : t0.get 1 = v1 := ht 1
  have g2 : t0.get 2 = v2 := ht 2
  clear ht
  unfold g38 at hr
  refine w_seq ?_
  refine w_ops ?_
  refine wo_step (v := (.i .i64 0)) (s_pure (p_mv rfl)) ?_
  refine wo_nil ?_
  refine nx_norm ?_
  refine w_seq ?_
  refine w_seq ?_
  refine w_ops ?_
  refine wo_step (v := (.i .i64 x0)) (s_pure (p_mv g0)) ?_
  have hq := forceB_inv hr
  clear hr
  obtain ⟨c11, e11, hr⟩ := hq
  refine wo_step (v := (.b c11)) (s_pure (p_bin rfl rfl (b_lss.trans (cb e11)))) ?_
  refine wo_step (v := (.b c11)) (s_pure (p_mv rfl)) ?_
  have hq := bindO_inv hr
  clear hr
  obtain ⟨o, hr, hk⟩ := hq
  refine wo_join 3 (g38_J0 x0 v1 v2 m0 o) ?_ ?_
  · clear hk
    have hq := cond_inv hr
    clear hr
    rcases hq with ⟨rfl, hr⟩ | ⟨rfl, hr⟩
    · refine wo_skip (v := (.b true)) rfl rfl ?_
      refine wo_skip (v := (.b true)) rfl rfl ?_
      refine wo_step (v := (.b true)) (s_pure (p_pickT rfl rfl)) ?_
      refine wo_nil ?_
      cases hr
      exact ⟨_, _, rfl, rfl, gl rfl, gl g0, gl g1, gl g2⟩
    · refine wo_take (v := (.i .i64 x0)) rfl (s_pure (p_mv g0)) ?_
      have hq := forceB_inv hr
      clear hr
      obtain ⟨c14, e14, hr⟩ := hq
      refine wo_take (v := (.b c14)) rfl (s_pure (p_bin rfl rfl (b_gtr.trans (cb e14)))) ?_
      refine wo_step (v := (.b c14)) (s_pure (p_pickF rfl rfl)) ?_
      refine wo_nil ?_
      cases hr
      exact ⟨_, _, rfl, rfl, gl rfl, gl g0, gl g1, gl g2⟩
  · clear hr
    have hr := hk
    clear hk
    obtain ⟨c15, ho⟩ : ∃ z, z = o := ⟨_, rfl⟩
    subst ho
    rintro mm t_1 ⟨rfl, g15, g0, g1, g2⟩
    refine wo_nil ?_
    refine nx_norm ?_
    have hq := cond_inv hr
    clear hr
    rcases hq with ⟨rfl, hr⟩ | ⟨rfl, hr⟩
    · refine w_condT g15 ?_
      refine w_seq ?_
      refine w_ops ?_
      refine wo_step (v := (.i .i64 2)) (s_pure (p_mv rfl)) ?_
      refine wo_nil ?_
      refine nx_norm ?_
      refine w_ret ?_
      refine nx_ret ?_
      exact qf ret_ok (rt rfl rn) hr
    · refine w_condF g15 ?_
      refine w_skip ?_
      refine nx_norm ?_
      refine w_seq ?_
      refine w_seq ?_
      refine w_ops ?_
      refine wo_step (v := v1) (s_pure (p_mv g1)) ?_
      have hq := bindO_inv hr
      clear hr
      obtain ⟨v17, e17, hr⟩ := hq
      have hq := asI_inv hr
      clear hr
      obtain ⟨x17, rfl, hr⟩ := hq
      refine wo_step (v := (.i .i64 x17)) (s_pure (o_len rfl e17)) ?_
      have hq := forceB_inv hr
      clear hr
      obtain ⟨c18, e18, hr⟩ := hq
      refine wo_step (v := (.b c18)) (s_pure (p_bin rfl rfl (b_gtr.trans (cb e18)))) ?_
      refine wo_nil ?_
      refine nx_norm ?_
      have hq := cond_inv hr
      clear hr
      rcases hq with ⟨rfl, hr⟩ | ⟨rfl, hr⟩
      · refine w_condT rfl ?_
        refine w_seq ?_
        refine w_ops ?_
        refine wo_step (v := (.i .i64 3)) (s_pure (p_mv rfl)) ?_
        refine wo_nil ?_
        refine nx_norm ?_
        refine w_ret ?_
        refine nx_ret ?_
        exact qf ret_ok (rt rfl rn) hr
      · refine w_condF rfl ?_
        refine w_skip ?_
        refine nx_norm ?_
        refine w_seq ?_
        refine w_seq ?_
        refine w_ops ?_
        refine wo_step (v := (.i .i64 0)) (s_pure (p_mv rfl)) ?_
        refine wo_nil ?_
        refine nx_norm ?_
        refine w_block ?_
        have hq := bindO_inv hr
        clear hr
        obtain ⟨o_2, hl_2, hr⟩ := hq
        obtain ⟨n_2, hl_2⟩ := hM.loop _ _ _ hl_2
        refine jp_mono (w_loop _ (g38_I1 x0 v1 v2) (g38_J1 x0 v1 v2) ?_ n_2 _ _ _ _ hl_2 ⟨rfl, gl rfl, gl g0, gl g1, gl g2⟩) ?_
        · clear hr hl_2
          intro s mm_9 t_2 o hi hr
          obtain ⟨x7, m_1⟩ := s
          obtain ⟨rfl, g7, g0, g1, g2⟩ := hi
          unfold g38_b1 at hr
          refine w_seq ?_
          refine w_seq ?_
          refine w_ops ?_
          refine wo_step (v := (.i .i64 x7)) (s_pure (p_mv g7)) ?_
          refine wo_step (v := v1) (s_pure (p_mv g1)) ?_
          have hq := bindO_inv hr
          clear hr
          obtain ⟨v21, e21, hr⟩ := hq
          have hq := asI_inv hr
          clear hr
          obtain ⟨x21, rfl, hr⟩ := hq
          refine wo_step (v := (.i .i64 x21)) (s_pure (o_len rfl e21)) ?_
          have hq := forceB_inv hr
          clear hr
          obtain ⟨c22, e22, hr⟩ := hq
          refine wo_step (v := (.b c22)) (s_pure (p_bin rfl rfl (b_lss.trans (cb e22)))) ?_
          refine wo_nil ?_
          refine nx_norm ?_
          have hq := cond_inv hr
          clear hr
          rcases hq with ⟨rfl, hr⟩ | ⟨rfl, hr⟩
          · refine w_condT rfl ?_
            refine w_skip ?_
            refine nx_norm ?_
            refine w_seq ?_
            refine w_block ?_
            refine w_seq ?_
            refine w_seq ?_
            refine w_ops ?_
            refine wo_step (v := v1) (s_pure (p_mv g1)) ?_
            refine wo_step (v := (.i .i64 x7)) (s_pure (p_mv g7)) ?_
            have hq := bindO_inv hr
            clear hr
            obtain ⟨v27, e27, hr⟩ := hq
            refine wo_step (v := v27) (s_pure (o_ixS rfl rfl e27)) ?_
            have hq := bindO_inv hr
            clear hr
            obtain ⟨v28, e28, hr⟩ := hq
            refine wo_step (v := v28) (s_ld rfl e28) ?_
            have hq := bindO_inv hr
            clear hr
            obtain ⟨v29, e29, hr⟩ := hq
            have hq := asI_inv hr
            clear hr
            obtain ⟨x29, rfl, hr⟩ := hq
            refine wo_step (v := (.i .i64 x29)) (s_pure (o_len rfl e29)) ?_
            refine wo_step (v := (.i .i64 x0)) (s_pure (p_mv g0)) ?_
            have hq := forceB_inv hr
            clear hr
            obtain ⟨c31, e31, hr⟩ := hq
            refine wo_step (v := (.b c31)) (s_pure (p_bin rfl rfl (b_neq.trans (cb e31)))) ?_
            refine wo_nil ?_
            refine nx_norm ?_
            have hq := cond_inv hr
            clear hr
            rcases hq with ⟨rfl, hr⟩ | ⟨rfl, hr⟩
            · refine w_condT rfl ?_
              refine w_seq ?_
              refine w_ops ?_
              refine wo_step (v := (.i .i64 2)) (s_pure (p_mv rfl)) ?_
              refine wo_nil ?_
              refine nx_norm ?_
              refine w_ret ?_
              refine nx_ret ?_
              refine bk_ret ?_
              refine nx_ret ?_
              cases hr
              exact ⟨_, _, rfl, ne_norm_ret, rfl, rfl, gl rfl⟩
            · refine w_condF rfl ?_
              refine w_skip ?_
              refine nx_norm ?_
              refine w_seq ?_
              refine w_ops ?_
              refine wo_step (v := (.i .i64 0)) (s_pure (p_mv rfl)) ?_
              refine wo_nil ?_
              refine nx_norm ?_
              refine w_block ?_
              have hq := bindO_inv hr
              clear hr
              obtain ⟨o_1, hl, hr⟩ := hq
              obtain ⟨n, hl⟩ := hM.loop _ _ _ hl
              refine jp_mono (w_loop _ (g38_I2 x0 v1 v2 x7) (g38_J2 x0 v1 v2 x7) ?_ n _ _ _ _ hl ⟨rfl, gl rfl, gl g0, gl g1, gl g2, gl g7⟩) ?_
              · clear hr hl
                intro s mm_3 t_3 o hi hr
                obtain ⟨x8, m_2⟩ := s
                obtain ⟨rfl, g8, g0, g1, g2, g7⟩ := hi
                unfold g38_b2 at hr
                refine w_seq ?_
                refine w_seq ?_
                refine w_ops ?_
                refine wo_step (v := (.i .i64 x8)) (s_pure (p_mv g8)) ?_
                refine wo_step (v := (.i .i64 x0)) (s_pure (p_mv g0)) ?_
                have hq := forceB_inv hr
                clear hr
                obtain ⟨c34, e34, hr⟩ := hq
                refine wo_step (v := (.b c34)) (s_pure (p_bin rfl rfl (b_lss.trans (cb e34)))) ?_
                refine wo_nil ?_
                refine nx_norm ?_
                have hq := cond_inv hr
                clear hr
                rcases hq with ⟨rfl, hr⟩ | ⟨rfl, hr⟩
                · refine w_condT rfl ?_
                  refine w_skip ?_
                  refine nx_norm ?_
                  refine w_seq ?_
                  refine w_block ?_
                  refine w_seq ?_
                  refine w_ops ?_
                  refine wo_step (v := v1) (s_pure (p_mv g1)) ?_
                  refine wo_step (v := (.i .i64 x7)) (s_pure (p_mv g7)) ?_
                  have hq := bindO_inv hr
                  clear hr
                  obtain ⟨v39, e39, hr⟩ := hq
                  refine wo_step (v := v39) (s_pure (o_ixS rfl rfl e39)) ?_
                  have hq := bindO_inv hr
                  clear hr
                  obtain ⟨v40, e40, hr⟩ := hq
                  refine wo_step (v := v40) (s_ld rfl e40) ?_
                  refine wo_step (v := (.i .i64 x8)) (s_pure (p_mv g8)) ?_
                  have hq := bindO_inv hr
                  clear hr
                  obtain ⟨v42, e42, hr⟩ := hq
                  refine wo_step (v := v42) (s_pure (o_ixS rfl rfl e42)) ?_
                  have hq := bindO_inv hr
                  clear hr
                  obtain ⟨v43, e43, hr⟩ := hq
                  have hq := asI_inv hr
                  clear hr
                  obtain ⟨x43, rfl, hr⟩ := hq
                  refine wo_step (v := (.i .i64 x43)) (s_ld rfl e43) ?_
                  have hq := bindP_inv hr
                  clear hr
                  obtain ⟨v44, m_3, e44, hr⟩ := hq
                  have hq := asB_inv hr
                  clear hr
                  obtain ⟨c44, rfl, hr⟩ := hq
                  refine wo_step (v := (.b c44)) (s_call (mc rfl mn) (callM_le hM.call e44)) ?_
                  have hq := forceB_inv hr
                  clear hr
                  obtain ⟨c45, e45, hr⟩ := hq
                  refine wo_step (v := (.b c45)) (s_pure ((p_not rfl).trans (cb e45))) ?_
                  refine wo_nil ?_
                  refine nx_norm ?_
                  have hq := cond_inv hr
                  clear hr
                  rcases hq with ⟨rfl, hr⟩ | ⟨rfl, hr⟩
                  · refine w_condT rfl ?_
                    refine w_seq ?_
                    refine w_ops ?_
                    refine wo_step (v := (.i .i64 2)) (s_pure (p_mv rfl)) ?_
                    refine wo_nil ?_
                    refine nx_norm ?_
                    refine w_ret ?_
                    refine bk_ret ?_
                    refine nx_ret ?_
                    cases hr
                    exact ⟨_, _, rfl, ne_norm_ret, rfl, rfl, gl rfl⟩
                  · refine w_condF rfl ?_
                    refine w_skip ?_
                    refine bk_norm ?_
                    refine nx_norm ?_
                    refine w_ops ?_
                    refine wo_step (v := (.i .i64 x8)) (s_pure (p_mv g8)) ?_
                    have hq := forceI_inv hr
                    clear hr
                    obtain ⟨x36, e36, hr⟩ := hq
                    refine wo_step (v := (.i .i64 x36)) (s_pure (p_bin rfl rfl (b_add.trans (ci e36)))) ?_
                    refine wo_step (v := (.i .i64 x36)) (s_pure (p_mv rfl)) ?_
                    refine wo_nil ?_
                    cases hr
                    exact ⟨_, _, rfl, rfl, rfl, gl rfl, gl g0, gl g1, gl g2, gl g7⟩
                · refine w_condF rfl ?_
                  refine w_exit ?_
                  refine nx_exit ?_
                  cases hr
                  exact ⟨_, _, rfl, ne_norm_exit, rfl, rfl, gl g0, gl g1, gl g2, gl g7⟩
              · rcases o_1 with o_1 | o_1
                · obtain ⟨m_4, ho⟩ : ∃ z, z = o_1 := ⟨_, rfl⟩
                  subst ho
                  rintro _ mm_1 t_4 ⟨rfl, rfl, g0, g1, g2, g7⟩
                  refine bk_hit ?_
                  refine bk_norm ?_
                  refine nx_norm ?_
                  refine w_ops ?_
                  refine wo_step (v := (.i .i64 x7)) (s_pure (p_mv g7)) ?_
                  have hq := forceI_inv hr
                  clear hr
                  obtain ⟨x24, e24, hr⟩ := hq
                  refine wo_step (v := (.i .i64 x24)) (s_pure (p_bin rfl rfl (b_add.trans (ci e24)))) ?_
                  refine wo_step (v := (.i .i64 x24)) (s_pure (p_mv rfl)) ?_
                  refine wo_nil ?_
                  cases hr
                  exact ⟨_, _, rfl, rfl, rfl, gl rfl, gl g0, gl g1, gl g2⟩
                · obtain ⟨x6, m_5⟩ := o_1
                  rintro _ mm_2 t_5 ⟨rfl, rfl, g6⟩
                  refine bk_ret ?_
                  refine bk_ret ?_
                  refine nx_ret ?_
                  cases hr
                  exact ⟨_, _, rfl, ne_norm_ret, rfl, rfl, gl g6⟩
          · refine w_condF rfl ?_
            refine w_exit ?_
            refine nx_exit ?_
            cases hr
            exact ⟨_, _, rfl, ne_norm_exit, rfl, rfl, gl g1, gl g2⟩
        · rcases o_2 with o_2 | o_2
          · obtain ⟨m_6, ho⟩ : ∃ z, z = o_2 := ⟨_, rfl⟩
            subst ho
            rintro _ mm_7 t_6 ⟨rfl, rfl, g1, g2⟩
            refine bk_hit ?_
            refine nx_norm ?_
            refine w_seq ?_
            refine w_seq ?_
            refine w_ops ?_
            refine wo_step (v := v2) (s_pure (p_mv g2)) ?_
            have hq := bindO_inv hr
            clear hr
            obtain ⟨v47, e47, hr⟩ := hq
            have hq := asI_inv hr
            clear hr
            obtain ⟨x47, rfl, hr⟩ := hq
            refine wo_step (v := (.i .i64 x47)) (s_pure (o_len rfl e47)) ?_
            refine wo_step (v := v1) (s_pure (p_mv g1)) ?_
            have hq := bindO_inv hr
            clear hr
            obtain ⟨v49, e49, hr⟩ := hq
            have hq := asI_inv hr
            clear hr
            obtain ⟨x49, rfl, hr⟩ := hq
            refine wo_step (v := (.i .i64 x49)) (s_pure (o_len rfl e49)) ?_
            have hq := forceB_inv hr
            clear hr
            obtain ⟨c50, e50, hr⟩ := hq
            refine wo_step (v := (.b c50)) (s_pure (p_bin rfl rfl (b_neq.trans (cb e50)))) ?_
            refine wo_nil ?_
            refine nx_norm ?_
            have hq := cond_inv hr
            clear hr
            rcases hq with ⟨rfl, hr⟩ | ⟨rfl, hr⟩
            · refine w_condT rfl ?_
              refine w_seq ?_
              refine w_ops ?_
              refine wo_step (v := (.i .i64 2)) (s_pure (p_mv rfl)) ?_
              refine wo_nil ?_
              refine nx_norm ?_
              refine w_ret ?_
              refine nx_ret ?_
              exact qf ret_ok (rt rfl rn) hr
            · refine w_condF rfl ?_
              refine w_skip ?_
              refine nx_norm ?_
              refine w_seq ?_
              refine w_seq ?_
              refine w_ops ?_
              refine wo_step (v := (.i .i64 0)) (s_pure (p_mv rfl)) ?_
              refine wo_nil ?_
              refine nx_norm ?_
              refine w_block ?_
              have hq := bindO_inv hr
              clear hr
              obtain ⟨o_3, hl_1, hr⟩ := hq
              obtain ⟨n_1, hl_1⟩ := hM.loop _ _ _ hl_1
              refine jp_mono (w_loop _ (g38_I3 v2) (g38_J3 v2) ?_ n_1 _ _ _ _ hl_1 ⟨rfl, gl rfl, gl g2⟩) ?_
              · clear hr hl_1
                intro s mm_6 t_7 o hi hr
                obtain ⟨x9, m_7⟩ := s
                obtain ⟨rfl, g9, g2⟩ := hi
                unfold g38_b3 at hr
                refine w_seq ?_
                refine w_seq ?_
                refine w_ops ?_
                refine wo_step (v := (.i .i64 x9)) (s_pure (p_mv g9)) ?_
                refine wo_step (v := v2) (s_pure (p_mv g2)) ?_
                have hq := bindO_inv hr
                clear hr
                obtain ⟨v53, e53, hr⟩ := hq
                have hq := asI_inv hr
                clear hr
                obtain ⟨x53, rfl, hr⟩ := hq
                refine wo_step (v := (.i .i64 x53)) (s_pure (o_len rfl e53)) ?_
                have hq := forceB_inv hr
                clear hr
                obtain ⟨c54, e54, hr⟩ := hq
                refine wo_step (v := (.b c54)) (s_pure (p_bin rfl rfl (b_lss.trans (cb e54)))) ?_
                refine wo_nil ?_
                refine nx_norm ?_
                have hq := cond_inv hr
                clear hr
                rcases hq with ⟨rfl, hr⟩ | ⟨rfl, hr⟩
                · refine w_condT rfl ?_
                  refine w_skip ?_
                  refine nx_norm ?_
                  refine w_seq ?_
                  refine w_block ?_
                  refine w_seq ?_
                  refine w_ops ?_
                  refine wo_step (v := v2) (s_pure (p_mv g2)) ?_
                  refine wo_step (v := (.i .i64 x9)) (s_pure (p_mv g9)) ?_
                  have hq := bindO_inv hr
                  clear hr
                  obtain ⟨v59, e59, hr⟩ := hq
                  refine wo_step (v := v59) (s_pure (o_ixS rfl rfl e59)) ?_
                  have hq := bindO_inv hr
                  clear hr
                  obtain ⟨v60, e60, hr⟩ := hq
                  have hq := asI_inv hr
                  clear hr
                  obtain ⟨x60, rfl, hr⟩ := hq
                  refine wo_step (v := (.i .i64 x60)) (s_ld rfl e60) ?_
                  have hq := bindP_inv hr
                  clear hr
                  obtain ⟨v61, m_8, e61, hr⟩ := hq
                  have hq := asB_inv hr
                  clear hr
                  obtain ⟨c61, rfl, hr⟩ := hq
                  refine wo_step (v := (.b c61)) (s_call (mc rfl mn) (callM_le hM.call e61)) ?_
                  have hq := forceB_inv hr
                  clear hr
                  obtain ⟨c62, e62, hr⟩ := hq
                  refine wo_step (v := (.b c62)) (s_pure ((p_not rfl).trans (cb e62))) ?_
                  refine wo_nil ?_
                  refine nx_norm ?_
                  have hq := cond_inv hr
                  clear hr
                  rcases hq with ⟨rfl, hr⟩ | ⟨rfl, hr⟩
                  · refine w_condT rfl ?_
                    refine w_seq ?_
                    refine w_ops ?_
                    refine wo_step (v := (.i .i64 2)) (s_pure (p_mv rfl)) ?_
                    refine wo_nil ?_
                    refine nx_norm ?_
                    refine w_ret ?_
                    refine bk_ret ?_
                    refine nx_ret ?_
                    cases hr
                    exact ⟨_, _, rfl, ne_norm_ret, rfl, rfl, gl rfl⟩
                  · refine w_condF rfl ?_
                    refine w_skip ?_
                    refine bk_norm ?_
                    refine nx_norm ?_
                    refine w_ops ?_
                    refine wo_step (v := (.i .i64 x9)) (s_pure (p_mv g9)) ?_
                    have hq := forceI_inv hr
                    clear hr
                    obtain ⟨x56, e56, hr⟩ := hq
                    refine wo_step (v := (.i .i64 x56)) (s_pure (p_bin rfl rfl (b_add.trans (ci e56)))) ?_
                    refine wo_step (v := (.i .i64 x56)) (s_pure (p_mv rfl)) ?_
                    refine wo_nil ?_
                    cases hr
                    exact ⟨_, _, rfl, rfl, rfl, gl rfl, gl g2⟩
                · refine w_condF rfl ?_
                  refine w_exit ?_
                  refine nx_exit ?_
                  cases hr
                  exact ⟨_, _, rfl, ne_norm_exit, rfl, rfl⟩
              · rcases o_3 with o_3 | o_3
                · obtain ⟨m_9, ho⟩ : ∃ z, z = o_3 := ⟨_, rfl⟩
                  subst ho
                  rintro _ mm_4 t_8 ⟨rfl, rfl⟩
                  refine bk_hit ?_
                  refine nx_norm ?_
                  refine w_seq ?_
                  refine w_ops ?_
                  refine wo_step (v := (.i .i64 0)) (s_pure (p_mv rfl)) ?_
                  refine wo_nil ?_
                  refine nx_norm ?_
                  refine w_ret ?_
                  exact qf ret_ok (rt rfl rn) hr
                · obtain ⟨x6_1, m_10⟩ := o_3
                  rintro _ mm_5 t_9 ⟨rfl, rfl, g6⟩
                  refine bk_ret ?_
                  refine nx_ret ?_
                  exact qf ret_ok (rt g6 rn) hr
          · obtain ⟨x6_2, m_11⟩ := o_2
            rintro _ mm_8 t_10 ⟨rfl, rfl, g6⟩
            refine bk_ret ?_
            refine nx_ret ?_
            exact qf ret_ok (rt g6 rn) hr

/- dibber/luck.checkRecord -/
abbrev g49_J0 (x0 : Int) (v1 : AVal) (v2 : AVal) (m0 : Mm) (o : Bool) (m1 : Mm) (t1 : Tr) : Prop :=
  match o with
  | c12 => m0 = m1 ∧ t1.get 12 = (.b c12) ∧ t1.get 0 = (.i .i64 x0) ∧ t1.get 1 = v1 ∧ t1.get 2 = v2
abbrev g49_J1  (o : Bool × Mm) (m1 : Mm) (t1 : Tr) : Prop :=
  match o with
  | (c28, m_2) => m_2 = m1 ∧ t1.get 28 = (.b c28)
def g49 (M : Means) (ro : List ABlk) (x0 : Int) (v1 : AVal) (v2 : AVal) (m0 : Mm) : Option (AVal × Heap × Nat × Nat) :=
  forceB (ltI x0 1) fun c8 =>
  bindO (cond c8 (
    some true) (
    forceB (ltI 20 x0) fun c11 =>
    some c11)) fun c12 =>
  cond c12 (
    finM m0.h.length (tupA [(.i .i64 2)]) m0) (
    bindO (evP .e (.len false (.c v1))) fun v14 =>
    asI .i64 v14 fun x14 =>
    forceB (ltI 200 x14) fun c15 =>
    cond c15 (
      finM m0.h.length (tupA [(.i .i64 3)]) m0) (
      bindO (evP .e (.len false (.c v1))) fun v18 =>
      asI .i64 v18 fun x18 =>
      bindP (callM M.call m0 68 [v1, (.i .i64 x18), (.i .i64 x0)]) fun v20 m_1 =>
      asB v20 fun c20 =>
      forceB (!c20) fun c21 =>
      bindO (cond c21 (
        some (true, m_1)) (
        bindO (evP .e (.len false (.c v1))) fun v25 =>
        asI .i64 v25 fun x25 =>
        bindP (callM M.call m_1 61 [v2, (.i .i64 x25)]) fun v26 m_3 =>
        asB v26 fun c26 =>
        forceB (!c26) fun c27 =>
        some (c27, m_3))) fun ⟨c28, m_2⟩ =>
      cond c28 (
        finM m0.h.length (tupA [(.i .i64 2)]) m_2) (
        finM m0.h.length (tupA [(.i .i64 0)]) m_2)))

theorem g49_ok {ro : List ABlk} {O : Caller} {M : Means} (hM : M.Ok ⟨F, O⟩ ro) {x0 v1 v2 h r} (ho : O 49 [(.i .i64 x0), v1, v2] h = none) (hr : g49 M ro x0 v1 v2 ⟨h, h.length, h.length⟩ = some r) : callX ⟨F, O⟩ ro 49 [(.i .i64 x0), v1, v2] h = some r := by
  refine callX_of (F := ⟨F, O⟩) (fn := fn49) (g := g49 M ro x0 v1 v2) ho rfl rfl hr ?_
  clear ho
  clear hr
  intro m0 t0 ht hr
  have g0 : t0.get 0 = (.i .i64 x0) := ht 0
  have g1 : t0.get 1 = v1 := ht 1
  have g2 : t0.get 2 = v2 := ht 2
  clear ht
  unfold g49 at hr
  refine w_seq ?_
  refine w_ops ?_
  refine wo_step (v := (.i .i64 0)) (s_pure (p_mv rfl)) ?_
  refine wo_nil ?_
  refine nx_norm ?_
  refine w_seq ?_
  refine w_seq ?_
  refine w_ops ?_
  refine wo_step (v := (.i .i64 x0)) (s_pure (p_mv g0)) ?_
  have hq := forceB_inv hr
  clear hr
  obtain ⟨c8, e8, hr⟩ := hq
  refine wo_step (v := (.b c8)) (s_pure (p_bin rfl rfl (b_lss.trans (cb e8)))) ?_
  refine wo_step (v := (.b c8)) (s_pure (p_mv rfl)) ?_
  have hq := bindO_inv hr
  clear hr
  obtain ⟨o, hr, hk⟩ := hq
  refine wo_join 3 (g49_J0 x0 v1 v2 m0 o) ?_ ?_
  · clear hk
    have hq := cond_inv hr
    clear hr
    rcases hq with ⟨rfl, hr⟩ | ⟨rfl, hr⟩
    · refine wo_skip (v := (.b true)) rfl rfl ?_
      refine wo_skip (v := (.b true)) rfl rfl ?_
      refine wo_step (v := (.b true)) (s_pure (p_pickT rfl rfl)) ?_
      refine wo_nil ?_
      cases hr
      exact ⟨_, _, rfl, rfl, gl rfl, gl g0, gl g1, gl g2⟩
    · refine wo_take (v := (.i .i64 x0)) rfl (s_pure (p_mv g0)) ?_
      have hq := forceB_inv hr
      clear hr
      obtain ⟨c11, e11, hr⟩ := hq
      refine wo_take (v := (.b c11)) rfl (s_pure (p_bin rfl rfl (b_gtr.trans (cb e11)))) ?_
      refine wo_step (v := (.b c11)) (s_pure (p_pickF rfl rfl)) ?_
      refine wo_nil ?_
      cases hr
      exact ⟨_, _, rfl, rfl, gl rfl, gl g0, gl g1, gl g2⟩
  · clear hr
    have hr := hk
    clear hk
    obtain ⟨c12, ho⟩ : ∃ z, z = o := ⟨_, rfl⟩
    subst ho
    rintro mm t_1 ⟨rfl, g12, g0, g1, g2⟩
    refine wo_nil ?_
    refine nx_norm ?_
    have hq := cond_inv hr
    clear hr
    rcases hq with ⟨rfl, hr⟩ | ⟨rfl, hr⟩
    · refine w_condT g12 ?_
      refine w_seq ?_
      refine w_ops ?_
      refine wo_step (v := (.i .i64 2)) (s_pure (p_mv rfl)) ?_
      refine wo_nil ?_
      refine nx_norm ?_
      refine w_ret ?_
      refine nx_ret ?_
      exact qf ret_ok (rt rfl rn) hr
    · refine w_condF g12 ?_
      refine w_skip ?_
      refine nx_norm ?_
      refine w_seq ?_
      refine w_seq ?_
      refine w_ops ?_
      refine wo_step (v := v1) (s_pure (p_mv g1)) ?_
      have hq := bindO_inv hr
      clear hr
      obtain ⟨v14, e14, hr⟩ := hq
      have hq := asI_inv hr
      clear hr
      obtain ⟨x14, rfl, hr⟩ := hq
      refine wo_step (v := (.i .i64 x14)) (s_pure (o_len rfl e14)) ?_
      have hq := forceB_inv hr
      clear hr
      obtain ⟨c15, e15, hr⟩ := hq
      refine wo_step (v := (.b c15)) (s_pure (p_bin rfl rfl (b_gtr.trans (cb e15)))) ?_
      refine wo_nil ?_
      refine nx_norm ?_
      have hq := cond_inv hr
      clear hr
      rcases hq with ⟨rfl, hr⟩ | ⟨rfl, hr⟩
      · refine w_condT rfl ?_
        refine w_seq ?_
        refine w_ops ?_
        refine wo_step (v := (.i .i64 3)) (s_pure (p_mv rfl)) ?_
        refine wo_nil ?_
        refine nx_norm ?_
        refine w_ret ?_
        refine nx_ret ?_
        exact qf ret_ok (rt rfl rn) hr
      · refine w_condF rfl ?_
        refine w_skip ?_
        refine nx_norm ?_
        refine w_seq ?_
        refine w_seq ?_
        refine w_ops ?_
        refine wo_step (v := v1) (s_pure (p_mv g1)) ?_
        refine wo_step (v := v1) (s_pure (p_mv g1)) ?_
        have hq := bindO_inv hr
        clear hr
        obtain ⟨v18, e18, hr⟩ := hq
        have hq := asI_inv hr
        clear hr
        obtain ⟨x18, rfl, hr⟩ := hq
        refine wo_step (v := (.i .i64 x18)) (s_pure (o_len rfl e18)) ?_
        refine wo_step (v := (.i .i64 x0)) (s_pure (p_mv g0)) ?_
        have hq := bindP_inv hr
        clear hr
        obtain ⟨v20, m_1, e20, hr⟩ := hq
        have hq := asB_inv hr
        clear hr
        obtain ⟨c20, rfl, hr⟩ := hq
        refine wo_step (v := (.b c20)) (s_call (mc rfl (mc rfl (mc rfl mn))) (callM_le hM.call e20)) ?_
        have hq := forceB_inv hr
        clear hr
        obtain ⟨c21, e21, hr⟩ := hq
        refine wo_step (v := (.b c21)) (s_pure ((p_not rfl).trans (cb e21))) ?_
        refine wo_step (v := (.b c21)) (s_pure (p_mv rfl)) ?_
        have hq := bindO_inv hr
        clear hr
        obtain ⟨o_1, hr, hk⟩ := hq
        refine wo_join 6 (g49_J1  o_1) ?_ ?_
        · clear hk
          have hq := cond_inv hr
          clear hr
          rcases hq with ⟨rfl, hr⟩ | ⟨rfl, hr⟩
          · refine wo_skip (v := (.b true)) rfl rfl ?_
            refine wo_skip (v := (.b true)) rfl rfl ?_
            refine wo_skip (v := (.b true)) rfl rfl ?_
            refine wo_skip (v := (.b true)) rfl rfl ?_
            refine wo_skip (v := (.b true)) rfl rfl ?_
            refine wo_step (v := (.b true)) (s_pure (p_pickT rfl rfl)) ?_
            refine wo_nil ?_
            cases hr
            exact ⟨_, _, rfl, rfl, gl rfl⟩
          · refine wo_take (v := v2) rfl (s_pure (p_mv g2)) ?_
            refine wo_take (v := v1) rfl (s_pure (p_mv g1)) ?_
            have hq := bindO_inv hr
            clear hr
            obtain ⟨v25, e25, hr⟩ := hq
            have hq := asI_inv hr
            clear hr
            obtain ⟨x25, rfl, hr⟩ := hq
            refine wo_take (v := (.i .i64 x25)) rfl (s_pure (o_len rfl e25)) ?_
            have hq := bindP_inv hr
            clear hr
            obtain ⟨v26, m_3, e26, hr⟩ := hq
            have hq := asB_inv hr
            clear hr
            obtain ⟨c26, rfl, hr⟩ := hq
            refine wo_take (v := (.b c26)) rfl (s_call (mc rfl (mc rfl mn)) (callM_le hM.call e26)) ?_
            have hq := forceB_inv hr
            clear hr
            obtain ⟨c27, e27, hr⟩ := hq
            refine wo_take (v := (.b c27)) rfl (s_pure ((p_not rfl).trans (cb e27))) ?_
            refine wo_step (v := (.b c27)) (s_pure (p_pickF rfl rfl)) ?_
            refine wo_nil ?_
            cases hr
            exact ⟨_, _, rfl, rfl, gl rfl⟩
        · clear hr
          have hr := hk
          clear hk
          obtain ⟨c28, m_2⟩ := o_1
          rintro mm_1 t_2 ⟨rfl, g28⟩
          refine wo_nil ?_
          refine nx_norm ?_
          have hq := cond_inv hr
          clear hr
          rcases hq with ⟨rfl, hr⟩ | ⟨rfl, hr⟩
          · refine w_condT g28 ?_
            refine w_seq ?_
            refine w_ops ?_
            refine wo_step (v := (.i .i64 2)) (s_pure (p_mv rfl)) ?_
            refine wo_nil ?_
            refine nx_norm ?_
            refine w_ret ?_
            refine nx_ret ?_
            exact qf ret_ok (rt rfl rn) hr
          · refine w_condF g28 ?_
            refine w_skip ?_
            refine nx_norm ?_
            refine w_seq ?_
            refine w_ops ?_
            refine wo_step (v := (.i .i64 0)) (s_pure (p_mv rfl)) ?_
            refine wo_nil ?_
            refine nx_norm ?_
            refine w_ret ?_
            exact qf ret_ok (rt rfl rn) hr

/- dibber/luck.listen -/
abbrev g50_I0 (v0 : AVal) (v2 : AVal) (v12 : AVal) (v1 : AVal) (x14 : Int) (s : Int × Mm) (m1 : Mm) (t1 : Tr) : Prop :=
  match s with
  | (x15, m_2) => m_2 = m1 ∧ t1.get 15 = (.i .i64 x15) ∧ t1.get 0 = v0 ∧ t1.get 2 = v2 ∧ t1.get 7 = v12 ∧ t1.get 13 = v1 ∧ t1.get 14 = (.i .i64 x14)
abbrev g50_J0 (v0 : AVal) (v2 : AVal) (v12 : AVal) (v1 : AVal) (x14 : Int) (o : Mm) (e : AExit) (m1 : Mm) (t1 : Tr) : Prop :=
  match o with
  | mo => e = (.exit 0) ∧ mo = m1 ∧ t1.get 7 = v12
def g50_b0 (M : Means) (ro : List ABlk) (v0 : AVal) (v2 : AVal) (v12 : AVal) (v1 : AVal) (x14 : Int) (x15 : Int) (m_2 : Mm) : Option ((Int × Mm) ⊕ (Mm)) :=
  forceB (ltI x15 x14) fun c16 =>
  cond c16 (
    bindO (evP .e (.ixS 1 (.c v1) (.c (.i .i64 x15)))) fun v18 =>
    bindO (ldM ro m_2 true 1 v18) fun v19 =>
    bindP (calliM M.call m_2 [(71, (99, [])), (74, (103, [])), (75, (99, [(0, (1, false))])), (76, (105, []))] v0 [v19]) fun v24 m_3 =>
    asI .i64 v24 fun x24 =>
    bindO (evP .e (.ixS 1 (.c v12) (.c (.i .i64 x15)))) fun v25 =>
    bindP (stepM ro m_3 (.st 1 (.c v25) (.c (.i .i64 x24)))) fun vn m_4 =>
    bindO (evP .e (.ixS 1 (.c v12) (.c (.i .i64 x15)))) fun v30 =>
    bindO (evP .e (.ixS 1 (.c v2) (.c (.i .i64 x15)))) fun v34 =>
    bindO (some (AVal.bm "dibber/luck.learn" v0)) fun v36 =>
    bindO (evP .e (.nilm [("Error", [(8, (84, [])), (10, (86, [])), (11, (88, [])), (14, (90, [])), (19, (97, []))]), ("RuntimeError", [(8, (85, [])), (10, (87, [])), (11, (89, [])), (14, (91, [])), (19, (98, []))]), ("dibber/luck.foretell", [(71, (99, [])), (74, (103, [])), (75, (99, [(0, (1, false))])), (76, (105, []))]), ("dibber/luck.learn", [(71, (100, [])), (74, (104, [])), (75, (100, [(0, (1, false))])), (76, (100, [(0, (1, false))]))]), ("String", [(116, (106, []))])] (.c v36))) fun v37 =>
    bindO (ldA ro m_4.h true 1 v30) fun v31 =>
    asI .i64 v31 fun x31 =>
    bindO (ldA ro m_4.h true 1 v34) fun v35 =>
    asI .i64 v35 fun x35 =>
    bindP (calliM M.call m_4 [(71, (100, [])), (74, (104, [])), (75, (100, [(0, (1, false))])), (76, (100, [(0, (1, false))]))] v0 [v19, (.i .i64 x31), (.i .i64 x35)]) fun v39 m_5 =>
    forceI (wr .i64 (x15 + 1)) fun x40 =>
    some (.inl (x40, m_5))) (
    some (.inr m_2))
def g50 (M : Means) (ro : List ABlk) (v0 : AVal) (v1 : AVal) (v2 : AVal) (m0 : Mm) : Option (AVal × Heap × Nat × Nat) :=
  bindO (evP .e (.len false (.c v1))) fun v11 =>
  asI .i64 v11 fun x11 =>
  bindP (stepM ro m0 (.mk 3 1 8 [(AVal.i IntKind.i64 0)] (.c (.i .i64 x11)) (.c (.i .i64 x11)))) fun v12 m_1 =>
  bindO (evP .e (.len false (.c v1))) fun v14 =>
  asI .i64 v14 fun x14 =>
  bindO (M.loop (S := Int × Mm) (R := Mm) (fun s => g50_b0 M ro v0 v2 v12 v1 x14 s.1 s.2) (0, m_1)) fun m_6 =>
  finM m0.h.length (tupA [v12]) m_6

theorem g50_ok {ro : List ABlk} {O : Caller} {M : Means} (hM : M.Ok ⟨F, O⟩ ro) {v0 v1 v2 h r} (ho : O 50 [v0, v1, v2] h = none) (hr : g50 M ro v0 v1 v2 ⟨h, h.length, h.length⟩ = some r) : callX ⟨F, O⟩ ro 50 [v0, v1, v2] h = some r := by
  refine callX_of (F := ⟨F, O⟩) (fn := fn50) (g := g50 M ro v0 v1 v2) ho rfl rfl hr ?_
  clear ho
  clear hr
  intro m0 t0 ht hr
  have g0 : t0.get 0 = v0 := ht 0
  have g1 : t0.get 1 = v1 := ht 1
  have g2 : t0.get 2 = v2 := ht 2
  clear ht
  unfold g50 at hr
  refine w_seq ?_
  refine w_ops ?_
  refine wo_step (v := AVal.nsl) (s_pure (p_mv rfl)) ?_
  refine wo_nil ?_
  refine nx_norm ?_
  refine w_seq ?_
  refine w_ops ?_
  refine wo_step (v := v1) (s_pure (p_mv g1)) ?_
  have hq := bindO_inv hr
  clear hr
  obtain ⟨v11, e11, hr⟩ := hq
  have hq := asI_inv hr
  clear hr
  obtain ⟨x11, rfl, hr⟩ := hq
  refine wo_step (v := (.i .i64 x11)) (s_pure (o_len rfl e11)) ?_
  have hq := bindP_inv hr
  clear hr
  obtain ⟨v12, m_1, e12, hr⟩ := hq
  refine wo_step (v := v12) (s_mk rfl rfl e12) ?_
  refine wo_step (v := v12) (s_pure (p_mv rfl)) ?_
  refine wo_nil ?_
  refine nx_norm ?_
  refine w_seq ?_
  refine w_seq ?_
  refine w_ops ?_
  refine wo_step (v := v1) (s_pure (p_mv g1)) ?_
  have hq := bindO_inv hr
  clear hr
  obtain ⟨v14, e14, hr⟩ := hq
  have hq := asI_inv hr
  clear hr
  obtain ⟨x14, rfl, hr⟩ := hq
  refine wo_step (v := (.i .i64 x14)) (s_pure (o_len rfl e14)) ?_
  refine wo_step (v := (.i .i64 0)) (s_pure (p_mv rfl)) ?_
  refine wo_nil ?_
  refine nx_norm ?_
  refine w_block ?_
  have hq := bindO_inv hr
  clear hr
  obtain ⟨o, hl, hr⟩ := hq
  obtain ⟨n, hl⟩ := hM.loop _ _ _ hl
  refine jp_mono (w_loop _ (g50_I0 v0 v2 v12 v1 x14) (g50_J0 v0 v2 v12 v1 x14) ?_ n _ _ _ _ hl ⟨rfl, gl rfl, gl g0, gl g2, gl rfl, gl rfl, gl rfl⟩) ?_
  · clear hr hl
    intro s mm_1 t_1 o hi hr
    obtain ⟨x15, m_2⟩ := s
    obtain ⟨rfl, g15, g0, g2, g7, g13, g14⟩ := hi
    unfold g50_b0 at hr
    refine w_seq ?_
    refine w_ops ?_
    have hq := forceB_inv hr
    clear hr
    obtain ⟨c16, e16, hr⟩ := hq
    refine wo_step (v := (.b c16)) (s_pure (p_bin g15 g14 (b_lss.trans (cb e16)))) ?_
    refine wo_nil ?_
    refine nx_norm ?_
    refine w_seq ?_
    have hq := cond_inv hr
    clear hr
    rcases hq with ⟨rfl, hr⟩ | ⟨rfl, hr⟩
    · refine w_condT rfl ?_
      refine w_skip ?_
      refine nx_norm ?_
      refine w_seq ?_
      refine w_block ?_
      refine w_seq ?_
      refine w_ops ?_
      refine wo_step (v := (.i .i64 x15)) (s_pure (p_mv g15)) ?_
      have hq := bindO_inv hr
      clear hr
      obtain ⟨v18, e18, hr⟩ := hq
      refine wo_step (v := v18) (s_pure (o_ixS g13 g15 e18)) ?_
      have hq := bindO_inv hr
      clear hr
      obtain ⟨v19, e19, hr⟩ := hq
      refine wo_step (v := v19) (s_ld rfl e19) ?_
      refine wo_step (v := (.i .i64 x15)) (s_pure (p_mv rfl)) ?_
      refine wo_step (v := v19) (s_pure (p_mv rfl)) ?_
      refine wo_nil ?_
      refine nx_norm ?_
      refine w_seq ?_
      refine w_ops ?_
      refine wo_step (v := v12) (s_pure (p_mv g7)) ?_
      refine wo_step (v := (.i .i64 x15)) (s_pure (p_mv rfl)) ?_
      refine wo_step (v := v0) (s_pure (p_mv g0)) ?_
      refine wo_step (v := v19) (s_pure (p_mv rfl)) ?_
      have hq := bindP_inv hr
      clear hr
      obtain ⟨v24, m_3, e24, hr⟩ := hq
      have hq := asI_inv hr
      clear hr
      obtain ⟨x24, rfl, hr⟩ := hq
      refine wo_step (v := (.i .i64 x24)) (s_calli rfl (mc rfl mn) (calliM_le hM.call e24)) ?_
      have hq := bindO_inv hr
      clear hr
      obtain ⟨v25, e25, hr⟩ := hq
      refine wo_step (v := v25) (s_pure (o_ixS rfl rfl e25)) ?_
      have hq := bindP_inv hr
      clear hr
      obtain ⟨vn, m_4, en, hr⟩ := hq
      refine wo_stepN (s_st rfl rfl en) ?_
      refine wo_nil ?_
      refine nx_norm ?_
      refine w_seq ?_
      refine w_ops ?_
      refine wo_step (v := v0) (s_pure (p_mv g0)) ?_
      refine wo_step (v := v19) (s_pure (p_mv rfl)) ?_
      refine wo_step (v := v12) (s_pure (p_mv g7)) ?_
      refine wo_step (v := (.i .i64 x15)) (s_pure (p_mv rfl)) ?_
      have hq := bindO_inv hr
      clear hr
      obtain ⟨v30, e30, hr⟩ := hq
      refine wo_step (v := v30) (s_pure (o_ixS rfl rfl e30)) ?_
      refine wo_step (v := v2) (s_pure (p_mv g2)) ?_
      refine wo_step (v := (.i .i64 x15)) (s_pure (p_mv rfl)) ?_
      have hq := bindO_inv hr
      clear hr
      obtain ⟨v34, e34, hr⟩ := hq
      refine wo_step (v := v34) (s_pure (o_ixS rfl rfl e34)) ?_
      have hq := bindO_inv hr
      clear hr
      obtain ⟨v36, e36, hr⟩ := hq
      refine wo_step (v := v36) (s_pure (o_mkbm rfl e36)) ?_
      have hq := bindO_inv hr
      clear hr
      obtain ⟨v37, e37, hr⟩ := hq
      refine wo_step (v := v37) (s_pure (o_nilm rfl e37)) ?_
      refine wo_step (v := v0) (s_pure (p_mv rfl)) ?_
      refine wo_nil ?_
      refine nx_norm ?_
      refine w_seq ?_
      refine w_any ?_
      have hq := bindO_inv hr
      clear hr
      obtain ⟨v31, e31, hr⟩ := hq
      have hq := asI_inv hr
      clear hr
      obtain ⟨x31, rfl, hr⟩ := hq
      refine wa_step (v := (.i .i64 x31)) (a_ld rfl e31) ?_
      have hq := bindO_inv hr
      clear hr
      obtain ⟨v35, e35, hr⟩ := hq
      have hq := asI_inv hr
      clear hr
      obtain ⟨x35, rfl, hr⟩ := hq
      refine wa_step (v := (.i .i64 x35)) (a_ld rfl e35) ?_
      refine wa_nil ?_
      refine ⟨m_4, rfl, ?_⟩
      refine nx_norm ?_
      refine w_ops ?_
      have hq := bindP_inv hr
      clear hr
      obtain ⟨v39, m_5, e39, hr⟩ := hq
      refine wo_step (v := v39) (s_calli rfl (mc rfl (mc rfl (mc rfl mn))) (calliM_le hM.call e39)) ?_
      refine wo_nil ?_
      refine bk_norm ?_
      refine nx_norm ?_
      refine w_ops ?_
      have hq := forceI_inv hr
      clear hr
      obtain ⟨x40, e40, hr⟩ := hq
      refine wo_step (v := (.i .i64 x40)) (s_pure (p_bin g15 rfl (b_add.trans (ci e40)))) ?_
      refine wo_step (v := (.i .i64 x40)) (s_pure (p_mv rfl)) ?_
      refine wo_nil ?_
      cases hr
      exact ⟨_, _, rfl, rfl, rfl, gl rfl, gl g0, gl g2, gl g7, gl g13, gl g14⟩
    · refine w_condF rfl ?_
      refine w_exit ?_
      refine nx_exit ?_
      cases hr
      exact ⟨_, _, rfl, ne_norm_exit, rfl, rfl, gl g7⟩
  · obtain ⟨m_6, ho⟩ : ∃ z, z = o := ⟨_, rfl⟩
    subst ho
    rintro _ mm t_2 ⟨rfl, rfl, g7⟩
    refine bk_hit ?_
    refine nx_norm ?_
    refine w_seq ?_
    refine w_ops ?_
    refine wo_step (v := v12) (s_pure (p_mv g7)) ?_
    refine wo_step (v := v12) (s_pure (p_mv rfl)) ?_
    refine wo_nil ?_
    refine nx_norm ?_
    refine w_ret ?_
    exact qf ret_ok (rt rfl rn) hr

/- dibber/dibberref05.above -/
abbrev g52_I0 (v0 : AVal) (v1 : AVal) (m0 : Mm) (s : Int) (m1 : Mm) (t1 : Tr) : Prop :=
  match s with
  | x5 => m0 = m1 ∧ t1.get 5 = (.i .i64 x5) ∧ t1.get 0 = v0 ∧ t1.get 1 = v1
abbrev g52_J0 (v0 : AVal) (v1 : AVal) (m0 : Mm) (o : (Unit ⊕ Bool)) (e : AExit) (m1 : Mm) (t1 : Tr) : Prop :=
  match o with
  | (.inl _) => e = (.exit 0) ∧ m0 = m1
  | (.inr y4) => e = .ret ∧ m0 = m1 ∧ t1.get 4 = (.b y4)
def g52_b0 (M : Means) (ro : List ABlk) (v0 : AVal) (v1 : AVal) (m0 : Mm) (x5 : Int) : Option ((Int) ⊕ ((Unit ⊕ Bool))) :=
  bindO (evP .e (.len false (.c v0))) fun v8 =>
  asI .i64 v8 fun x8 =>
  forceB (ltI x5 x8) fun c9 =>
  cond c9 (
    bindO (evP .e (.ixS 1 (.c v0) (.c (.i .i64 x5)))) fun v14 =>
    bindO (ldA ro m0.h true 1 v14) fun v15 =>
    asI .i64 v15 fun x15 =>
    bindO (evP .e (.ixS 1 (.c v1) (.c (.i .i64 x5)))) fun v18 =>
    bindO (ldA ro m0.h true 1 v18) fun v19 =>
    asI .i64 v19 fun x19 =>
    forceB (!eqI x15 x19) fun c20 =>
    cond c20 (
      bindO (evP .e (.ixS 1 (.c v0) (.c (.i .i64 x5)))) fun v23 =>
      bindO (ldA ro m0.h true 1 v23) fun v24 =>
      asI .i64 v24 fun x24 =>
      bindO (evP .e (.ixS 1 (.c v1) (.c (.i .i64 x5)))) fun v27 =>
      bindO (ldA ro m0.h true 1 v27) fun v28 =>
      asI .i64 v28 fun x28 =>
      forceB (ltI x28 x24) fun c29 =>
      some (.inr (.inr c29))) (
      forceI (wr .i64 (x5 + 1)) fun x11 =>
      some (.inl x11))) (
    some (.inr (.inl ())))
def g52 (M : Means) (ro : List ABlk) (v0 : AVal) (v1 : AVal) (m0 : Mm) : Option (AVal × Heap × Nat × Nat) :=
  bindO (M.loop (S := Int) (R := (Unit ⊕ Bool)) (fun s => g52_b0 M ro v0 v1 m0 s) 0) fun o => match o with
  | (.inl _) =>
    finM m0.h.length (tupA [(.b false)]) m0
  | (.inr c4) =>
    finM m0.h.length (tupA [(.b c4)]) m0

theorem g52_ok {ro : List ABlk} {O : Caller} {M : Means} (hM : M.Ok ⟨F, O⟩ ro) {v0 v1 h r} (ho : O 52 [v0, v1] h = none) (hr : g52 M ro v0 v1 ⟨h, h.length, h.length⟩ = some r) : callX ⟨F, O⟩ ro 52 [v0, v1] h = some r := by
  refine callX_of (F := ⟨F, O⟩) (fn := fn52) (g := g52 M ro v0 v1) ho rfl rfl hr ?_
  clear ho
  clear hr
  intro m0 t0 ht hr
  have g0 : t0.get 0 = v0 := ht 0
  have g1 : t0.get 1 = v1 := ht 1
  clear ht
  unfold g52 at hr
  refine w_seq ?_
  refine w_ops ?_
  refine wo_step (v := (.b false)) (s_pure (p_mv rfl)) ?_
  refine wo_nil ?_
  refine nx_norm ?_
  refine w_seq ?_
  refine w_seq ?_
  refine w_ops ?_
  refine wo_step (v := (.i .i64 0)) (s_pure (p_mv rfl)) ?_
  refine wo_nil ?_
  refine nx_norm ?_
  refine w_block ?_
  have hq := bindO_inv hr
  clear hr
  obtain ⟨o, hl, hr⟩ := hq
  obtain ⟨n, hl⟩ := hM.loop _ _ _ hl
  refine jp_mono (w_loop _ (g52_I0 v0 v1 m0) (g52_J0 v0 v1 m0) ?_ n _ _ _ _ hl ⟨rfl, gl rfl, gl g0, gl g1⟩) ?_
  · clear hr hl
    intro s mm_2 t_1 o hi hr
    obtain ⟨x5, hs⟩ : ∃ z, z = s := ⟨_, rfl⟩
    subst hs
    obtain ⟨rfl, g5, g0, g1⟩ := hi
    unfold g52_b0 at hr
    refine w_seq ?_
    refine w_seq ?_
    refine w_ops ?_
    refine wo_step (v := (.i .i64 x5)) (s_pure (p_mv g5)) ?_
    refine wo_step (v := v0) (s_pure (p_mv g0)) ?_
    have hq := bindO_inv hr
    clear hr
    obtain ⟨v8, e8, hr⟩ := hq
    have hq := asI_inv hr
    clear hr
    obtain ⟨x8, rfl, hr⟩ := hq
    refine wo_step (v := (.i .i64 x8)) (s_pure (o_len rfl e8)) ?_
    have hq := forceB_inv hr
    clear hr
    obtain ⟨c9, e9, hr⟩ := hq
    refine wo_step (v := (.b c9)) (s_pure (p_bin rfl rfl (b_lss.trans (cb e9)))) ?_
    refine wo_nil ?_
    refine nx_norm ?_
    have hq := cond_inv hr
    clear hr
    rcases hq with ⟨rfl, hr⟩ | ⟨rfl, hr⟩
    · refine w_condT rfl ?_
      refine w_skip ?_
      refine nx_norm ?_
      refine w_seq ?_
      refine w_block ?_
      refine w_seq ?_
      refine w_any ?_
      refine wa_step (v := v0) (a_pure (p_mv g0)) ?_
      refine wa_step (v := (.i .i64 x5)) (a_pure (p_mv g5)) ?_
      have hq := bindO_inv hr
      clear hr
      obtain ⟨v14, e14, hr⟩ := hq
      refine wa_step (v := v14) (a_pure (o_ixS rfl rfl e14)) ?_
      have hq := bindO_inv hr
      clear hr
      obtain ⟨v15, e15, hr⟩ := hq
      have hq := asI_inv hr
      clear hr
      obtain ⟨x15, rfl, hr⟩ := hq
      refine wa_step (v := (.i .i64 x15)) (a_ld rfl e15) ?_
      refine wa_step (v := v1) (a_pure (p_mv g1)) ?_
      refine wa_step (v := (.i .i64 x5)) (a_pure (p_mv g5)) ?_
      have hq := bindO_inv hr
      clear hr
      obtain ⟨v18, e18, hr⟩ := hq
      refine wa_step (v := v18) (a_pure (o_ixS rfl rfl e18)) ?_
      have hq := bindO_inv hr
      clear hr
      obtain ⟨v19, e19, hr⟩ := hq
      have hq := asI_inv hr
      clear hr
      obtain ⟨x19, rfl, hr⟩ := hq
      refine wa_step (v := (.i .i64 x19)) (a_ld rfl e19) ?_
      have hq := forceB_inv hr
      clear hr
      obtain ⟨c20, e20, hr⟩ := hq
      refine wa_step (v := (.b c20)) (a_pure (p_bin rfl rfl (b_neq.trans (cb e20)))) ?_
      refine wa_nil ?_
      refine ⟨m0, rfl, ?_⟩
      refine nx_norm ?_
      have hq := cond_inv hr
      clear hr
      rcases hq with ⟨rfl, hr⟩ | ⟨rfl, hr⟩
      · refine w_condT rfl ?_
        refine w_seq ?_
        refine w_any ?_
        refine wa_step (v := v0) (a_pure (p_mv g0)) ?_
        refine wa_step (v := (.i .i64 x5)) (a_pure (p_mv g5)) ?_
        have hq := bindO_inv hr
        clear hr
        obtain ⟨v23, e23, hr⟩ := hq
        refine wa_step (v := v23) (a_pure (o_ixS rfl rfl e23)) ?_
        have hq := bindO_inv hr
        clear hr
        obtain ⟨v24, e24, hr⟩ := hq
        have hq := asI_inv hr
        clear hr
        obtain ⟨x24, rfl, hr⟩ := hq
        refine wa_step (v := (.i .i64 x24)) (a_ld rfl e24) ?_
        refine wa_step (v := v1) (a_pure (p_mv g1)) ?_
        refine wa_step (v := (.i .i64 x5)) (a_pure (p_mv g5)) ?_
        have hq := bindO_inv hr
        clear hr
        obtain ⟨v27, e27, hr⟩ := hq
        refine wa_step (v := v27) (a_pure (o_ixS rfl rfl e27)) ?_
        have hq := bindO_inv hr
        clear hr
        obtain ⟨v28, e28, hr⟩ := hq
        have hq := asI_inv hr
        clear hr
        obtain ⟨x28, rfl, hr⟩ := hq
        refine wa_step (v := (.i .i64 x28)) (a_ld rfl e28) ?_
        have hq := forceB_inv hr
        clear hr
        obtain ⟨c29, e29, hr⟩ := hq
        refine wa_step (v := (.b c29)) (a_pure (p_bin rfl rfl (b_gtr.trans (cb e29)))) ?_
        refine wa_step (v := (.b c29)) (a_pure (p_mv rfl)) ?_
        refine wa_nil ?_
        refine ⟨m0, rfl, ?_⟩
        refine nx_norm ?_
        refine w_ret ?_
        refine bk_ret ?_
        refine nx_ret ?_
        cases hr
        exact ⟨_, _, rfl, ne_norm_ret, rfl, rfl, gl rfl⟩
      · refine w_condF rfl ?_
        refine w_skip ?_
        refine bk_norm ?_
        refine nx_norm ?_
        refine w_ops ?_
        refine wo_step (v := (.i .i64 x5)) (s_pure (p_mv g5)) ?_
        have hq := forceI_inv hr
        clear hr
        obtain ⟨x11, e11, hr⟩ := hq
        refine wo_step (v := (.i .i64 x11)) (s_pure (p_bin rfl rfl (b_add.trans (ci e11)))) ?_
        refine wo_step (v := (.i .i64 x11)) (s_pure (p_mv rfl)) ?_
        refine wo_nil ?_
        cases hr
        exact ⟨_, _, rfl, rfl, rfl, gl rfl, gl g0, gl g1⟩
    · refine w_condF rfl ?_
      refine w_exit ?_
      refine nx_exit ?_
      cases hr
      exact ⟨_, _, rfl, ne_norm_exit, rfl, rfl⟩
  · rcases o with o | o
    · rintro _ mm t_2 ⟨rfl, rfl⟩
      refine bk_hit ?_
      refine nx_norm ?_
      refine w_seq ?_
      refine w_ops ?_
      refine wo_step (v := (.b false)) (s_pure (p_mv rfl)) ?_
      refine wo_nil ?_
      refine nx_norm ?_
      refine w_ret ?_
      exact qf ret_ok (rt rfl rn) hr
    · obtain ⟨c4, ho⟩ : ∃ z, z = o := ⟨_, rfl⟩
      subst ho
      rintro _ mm_1 t_3 ⟨rfl, rfl, g4⟩
      refine bk_ret ?_
      refine nx_ret ?_
      exact qf ret_ok (rt g4 rn) hr

/- dibber/dibberref05.total -/
abbrev g53_I0 (v0 : AVal) (v1 : AVal) (x2 : Int) (v10 : AVal) (s : Int × Mm) (m1 : Mm) (t1 : Tr) : Prop :=
  match s with
  | (x8, m_2) => m_2 = m1 ∧ t1.get 8 = (.i .i64 x8) ∧ t1.get 0 = v0 ∧ t1.get 1 = v1 ∧ t1.get 2 = (.i .i64 x2) ∧ t1.get 7 = v10
abbrev g53_J0 (v0 : AVal) (v1 : AVal) (x2 : Int) (v10 : AVal) (o : Mm) (e : AExit) (m1 : Mm) (t1 : Tr) : Prop :=
  match o with
  | mo => e = (.exit 0) ∧ mo = m1 ∧ t1.get 7 = v10
abbrev g53_J1 (v0 : AVal) (v1 : AVal) (x2 : Int) (v10 : AVal) (x8 : Int) (o : Mm) (e : AExit) (m1 : Mm) (t1 : Tr) : Prop :=
  match o with
  | mo => e = .norm ∧ mo = m1 ∧ t1.get 0 = v0 ∧ t1.get 1 = v1 ∧ t1.get 2 = (.i .i64 x2) ∧ t1.get 7 = v10 ∧ t1.get 8 = (.i .i64 x8)
def g53_b0 (M : Means) (ro : List ABlk) (v0 : AVal) (v1 : AVal) (x2 : Int) (v10 : AVal) (x8 : Int) (m_2 : Mm) : Option ((Int × Mm) ⊕ (Mm)) :=
  bindO (evP .e (.len false (.c v0))) fun v13 =>
  asI .i64 v13 fun x13 =>
  forceB (ltI x8 x13) fun c14 =>
  cond c14 (
    bindO (evP .e (.ixS 1 (.c v1) (.c (.i .i64 x8)))) fun v19 =>
    bindO (ldM ro m_2 true 1 v19) fun v20 =>
    asI .i64 v20 fun x20 =>
    forceB (eqI x20 x2) fun c22 =>
    bindO (α := Mm) (
      cond c22 (
        bindO (evP .e (.ixS 1 (.c v0) (.c (.i .i64 x8)))) fun v26 =>
        bindO (ldM ro m_2 true 1 v26) fun v27 =>
        asI .i64 v27 fun x27 =>
        bindO (evP .e (.ixS 1 (.c v10) (.c (.i .i64 x27)))) fun v28 =>
        bindO (ldM ro m_2 true 1 v28) fun v29 =>
        asI .i64 v29 fun x29 =>
        forceI (wr .i64 (x29 + 1)) fun x30 =>
        bindO (evP .e (.ixS 1 (.c v10) (.c (.i .i64 x27)))) fun v31 =>
        bindP (stepM ro m_2 (.st 1 (.c v31) (.c (.i .i64 x30)))) fun vn m_3 =>
        some m_3) (
        some m_2)) fun m_4 =>
    forceI (wr .i64 (x8 + 1)) fun x16 =>
    some (.inl (x16, m_4))) (
    some (.inr m_2))
abbrev g53_I2 (v10 : AVal) (s : Int × Mm) (m1 : Mm) (t1 : Tr) : Prop :=
  match s with
  | (x9, m_6) => m_6 = m1 ∧ t1.get 9 = (.i .i64 x9) ∧ t1.get 7 = v10
abbrev g53_J2 (v10 : AVal) (o : Mm) (e : AExit) (m1 : Mm) (t1 : Tr) : Prop :=
  match o with
  | mo => e = (.exit 2) ∧ mo = m1 ∧ t1.get 7 = v10
def g53_b2 (M : Means) (ro : List ABlk) (v10 : AVal) (x9 : Int) (m_6 : Mm) : Option ((Int × Mm) ⊕ (Mm)) :=
  forceB (ltI 0 x9) fun c33 =>
  cond c33 (
    forceI (wr .i64 (x9 - 1)) fun x38 =>
    bindO (evP .e (.ixS 1 (.c v10) (.c (.i .i64 x38)))) fun v39 =>
    bindO (ldA ro m_6.h true 1 v39) fun v40 =>
    asI .i64 v40 fun x40 =>
    bindO (evP .e (.ixS 1 (.c v10) (.c (.i .i64 x9)))) fun v43 =>
    bindO (ldA ro m_6.h true 1 v43) fun v44 =>
    asI .i64 v44 fun x44 =>
    forceI (wr .i64 (Int.tdiv x44 2)) fun x45 =>
    forceI (wr .i64 (x40 + x45)) fun x46 =>
    bindO (evP .e (.ixS 1 (.c v10) (.c (.i .i64 x38)))) fun v47 =>
    asP v47 fun qs =>
    bindO (writesM ro [] [(qs, AVal.cells (.i .i64 x46))] ⟨m_6.h, m_6.lw, m_6.lp⟩) fun m_7 =>
    bindO (evP .e (.ixS 1 (.c v10) (.c (.i .i64 x9)))) fun v52 =>
    bindO (ldM ro m_7 true 1 v52) fun v53 =>
    asI .i64 v53 fun x53 =>
    forceI (Int.tmod x53 2) fun x54 =>
    bindO (evP .e (.ixS 1 (.c v10) (.c (.i .i64 x9)))) fun v55 =>
    bindP (stepM ro m_7 (.st 1 (.c v55) (.c (.i .i64 x54)))) fun vn_1 m_8 =>
    forceI (wr .i64 (x9 - 1)) fun x35 =>
    some (.inl (x35, m_8))) (
    some (.inr m_6))
def g53 (M : Means) (ro : List ABlk) (v0 : AVal) (v1 : AVal) (x2 : Int) (m0 : Mm) : Option (AVal × Heap × Nat × Nat) :=
  bindP (stepM ro m0 (.mk 3 1 8 [(AVal.i IntKind.i64 0)] (.c (.i .i64 201)) (.c (.i .i64 201)))) fun v10 m_1 =>
  bindO (M.loop (S := Int × Mm) (R := Mm) (fun s => g53_b0 M ro v0 v1 x2 v10 s.1 s.2) (0, m_1)) fun m_5 =>
  bindO (M.loop (S := Int × Mm) (R := Mm) (fun s => g53_b2 M ro v10 s.1 s.2) (200, m_5)) fun m_9 =>
  finM m0.h.length (tupA [v10]) m_9

theorem g53_ok {ro : List ABlk} {O : Caller} {M : Means} (hM : M.Ok ⟨F, O⟩ ro) {v0 v1 x2 h r} (ho : O 53 [v0, v1, (.i .i64 x2)] h = none) (hr : g53 M ro v0 v1 x2 ⟨h, h.length, h.length⟩ = some r) : callX ⟨F, O⟩ ro 53 [v0, v1, (.i .i64 x2)] h = some r := by
  refine callX_of (F := ⟨F, O⟩) (fn := fn53) (g := g53 M ro v0 v1 x2) ho rfl rfl hr ?_
  clear ho
  clear hr
  intro m0 t0 ht hr
  have g0 : t0.get 0 = v0 := ht 0
  have g1 : t0.get 1 = v1 := ht 1
  have g2 : t0.get 2 = (.i .i64 x2) := ht 2
  clear ht
  unfold g53 at hr
  refine w_seq ?_
  refine w_ops ?_
  refine wo_step (v := AVal.nsl) (s_pure (p_mv rfl)) ?_
  refine wo_nil ?_
  refine nx_norm ?_
  refine w_seq ?_
  refine w_ops ?_
  have hq := bindP_inv hr
  clear hr
  obtain ⟨v10, m_1, e10, hr⟩ := hq
  refine wo_step (v := v10) (s_mk rfl rfl e10) ?_
  refine wo_step (v := v10) (s_pure (p_mv rfl)) ?_
  refine wo_nil ?_
  refine nx_norm ?_
  refine w_seq ?_
  refine w_seq ?_
  refine w_ops ?_
  refine wo_step (v := (.i .i64 0)) (s_pure (p_mv rfl)) ?_
  refine wo_nil ?_
  refine nx_norm ?_
  refine w_block ?_
  have hq := bindO_inv hr
  clear hr
  obtain ⟨o_1, hl_1, hr⟩ := hq
  obtain ⟨n_1, hl_1⟩ := hM.loop _ _ _ hl_1
  refine jp_mono (w_loop _ (g53_I0 v0 v1 x2 v10) (g53_J0 v0 v1 x2 v10) ?_ n_1 _ _ _ _ hl_1 ⟨rfl, gl rfl, gl g0, gl g1, gl g2, gl rfl⟩) ?_
  · clear hr hl_1
    intro s mm_4 t_1 o hi hr
    obtain ⟨x8, m_2⟩ := s
    obtain ⟨rfl, g8, g0, g1, g2, g7⟩ := hi
    unfold g53_b0 at hr
    refine w_seq ?_
    refine w_seq ?_
    refine w_ops ?_
    refine wo_step (v := (.i .i64 x8)) (s_pure (p_mv g8)) ?_
    refine wo_step (v := v0) (s_pure (p_mv g0)) ?_
    have hq := bindO_inv hr
    clear hr
    obtain ⟨v13, e13, hr⟩ := hq
    have hq := asI_inv hr
    clear hr
    obtain ⟨x13, rfl, hr⟩ := hq
    refine wo_step (v := (.i .i64 x13)) (s_pure (o_len rfl e13)) ?_
    have hq := forceB_inv hr
    clear hr
    obtain ⟨c14, e14, hr⟩ := hq
    refine wo_step (v := (.b c14)) (s_pure (p_bin rfl rfl (b_lss.trans (cb e14)))) ?_
    refine wo_nil ?_
    refine nx_norm ?_
    have hq := cond_inv hr
    clear hr
    rcases hq with ⟨rfl, hr⟩ | ⟨rfl, hr⟩
    · refine w_condT rfl ?_
      refine w_skip ?_
      refine nx_norm ?_
      refine w_seq ?_
      refine w_block ?_
      refine w_seq ?_
      refine w_ops ?_
      refine wo_step (v := v1) (s_pure (p_mv g1)) ?_
      refine wo_step (v := (.i .i64 x8)) (s_pure (p_mv g8)) ?_
      have hq := bindO_inv hr
      clear hr
      obtain ⟨v19, e19, hr⟩ := hq
      refine wo_step (v := v19) (s_pure (o_ixS rfl rfl e19)) ?_
      have hq := bindO_inv hr
      clear hr
      obtain ⟨v20, e20, hr⟩ := hq
      have hq := asI_inv hr
      clear hr
      obtain ⟨x20, rfl, hr⟩ := hq
      refine wo_step (v := (.i .i64 x20)) (s_ld rfl e20) ?_
      refine wo_step (v := (.i .i64 x2)) (s_pure (p_mv g2)) ?_
      have hq := forceB_inv hr
      clear hr
      obtain ⟨c22, e22, hr⟩ := hq
      refine wo_step (v := (.b c22)) (s_pure (p_bin rfl rfl (b_eql.trans (cb e22)))) ?_
      refine wo_nil ?_
      refine nx_norm ?_
      have hq := bindO_inv hr
      clear hr
      obtain ⟨o, hr, hk⟩ := hq
      refine jp_mono (J := g53_J1 v0 v1 x2 v10 x8 o) ?_ ?_
      · clear hk
        have hq := cond_inv hr
        clear hr
        rcases hq with ⟨rfl, hr⟩ | ⟨rfl, hr⟩
        · refine w_condT rfl ?_
          refine w_ops ?_
          refine wo_step (v := v10) (s_pure (p_mv g7)) ?_
          refine wo_step (v := v0) (s_pure (p_mv g0)) ?_
          refine wo_step (v := (.i .i64 x8)) (s_pure (p_mv g8)) ?_
          have hq := bindO_inv hr
          clear hr
          obtain ⟨v26, e26, hr⟩ := hq
          refine wo_step (v := v26) (s_pure (o_ixS rfl rfl e26)) ?_
          have hq := bindO_inv hr
          clear hr
          obtain ⟨v27, e27, hr⟩ := hq
          have hq := asI_inv hr
          clear hr
          obtain ⟨x27, rfl, hr⟩ := hq
          refine wo_step (v := (.i .i64 x27)) (s_ld rfl e27) ?_
          have hq := bindO_inv hr
          clear hr
          obtain ⟨v28, e28, hr⟩ := hq
          refine wo_step (v := v28) (s_pure (o_ixS rfl rfl e28)) ?_
          have hq := bindO_inv hr
          clear hr
          obtain ⟨v29, e29, hr⟩ := hq
          have hq := asI_inv hr
          clear hr
          obtain ⟨x29, rfl, hr⟩ := hq
          refine wo_step (v := (.i .i64 x29)) (s_ld rfl e29) ?_
          have hq := forceI_inv hr
          clear hr
          obtain ⟨x30, e30, hr⟩ := hq
          refine wo_step (v := (.i .i64 x30)) (s_pure (p_bin rfl rfl (b_add.trans (ci e30)))) ?_
          have hq := bindO_inv hr
          clear hr
          obtain ⟨v31, e31, hr⟩ := hq
          refine wo_step (v := v31) (s_pure (o_ixS rfl rfl e31)) ?_
          have hq := bindP_inv hr
          clear hr
          obtain ⟨vn, m_3, en, hr⟩ := hq
          refine wo_stepN (s_st rfl rfl en) ?_
          refine wo_nil ?_
          cases hr
          exact ⟨_, _, rfl, rfl, rfl, gl g0, gl g1, gl g2, gl g7, gl g8⟩
        · refine w_condF rfl ?_
          refine w_skip ?_
          cases hr
          exact ⟨_, _, rfl, rfl, rfl, gl g0, gl g1, gl g2, gl g7, gl g8⟩
      · have hr := hk
        clear hk
        obtain ⟨m_4, ho⟩ : ∃ z, z = o := ⟨_, rfl⟩
        subst ho
        rintro _ mm t_2 ⟨rfl, rfl, g0, g1, g2, g7, g8⟩
        refine bk_norm ?_
        refine nx_norm ?_
        refine w_ops ?_
        refine wo_step (v := (.i .i64 x8)) (s_pure (p_mv g8)) ?_
        have hq := forceI_inv hr
        clear hr
        obtain ⟨x16, e16, hr⟩ := hq
        refine wo_step (v := (.i .i64 x16)) (s_pure (p_bin rfl rfl (b_add.trans (ci e16)))) ?_
        refine wo_step (v := (.i .i64 x16)) (s_pure (p_mv rfl)) ?_
        refine wo_nil ?_
        cases hr
        exact ⟨_, _, rfl, rfl, rfl, gl rfl, gl g0, gl g1, gl g2, gl g7⟩
    · refine w_condF rfl ?_
      refine w_exit ?_
      refine nx_exit ?_
      cases hr
      exact ⟨_, _, rfl, ne_norm_exit, rfl, rfl, gl g7⟩
  · obtain ⟨m_5, ho⟩ : ∃ z, z = o_1 := ⟨_, rfl⟩
    subst ho
    rintro _ mm_3 t_3 ⟨rfl, rfl, g7⟩
    refine bk_hit ?_
    refine nx_norm ?_
    refine w_seq ?_
    refine w_seq ?_
    refine w_ops ?_
    refine wo_step (v := (.i .i64 200)) (s_pure (p_mv rfl)) ?_
    refine wo_nil ?_
    refine nx_norm ?_
    refine w_block ?_
    have hq := bindO_inv hr
    clear hr
    obtain ⟨o_2, hl, hr⟩ := hq
    obtain ⟨n, hl⟩ := hM.loop _ _ _ hl
    refine jp_mono (w_loop _ (g53_I2 v10) (g53_J2 v10) ?_ n _ _ _ _ hl ⟨rfl, gl rfl, gl g7⟩) ?_
    · clear hr hl
      intro s mm_2 t_4 o hi hr
      obtain ⟨x9, m_6⟩ := s
      obtain ⟨rfl, g9, g7⟩ := hi
      unfold g53_b2 at hr
      refine w_seq ?_
      refine w_seq ?_
      refine w_ops ?_
      refine wo_step (v := (.i .i64 x9)) (s_pure (p_mv g9)) ?_
      have hq := forceB_inv hr
      clear hr
      obtain ⟨c33, e33, hr⟩ := hq
      refine wo_step (v := (.b c33)) (s_pure (p_bin rfl rfl (b_gtr.trans (cb e33)))) ?_
      refine wo_nil ?_
      refine nx_norm ?_
      have hq := cond_inv hr
      clear hr
      rcases hq with ⟨rfl, hr⟩ | ⟨rfl, hr⟩
      · refine w_condT rfl ?_
        refine w_skip ?_
        refine nx_norm ?_
        refine w_seq ?_
        refine w_block ?_
        refine w_seq ?_
        refine w_any ?_
        refine wa_step (v := v10) (a_pure (p_mv g7)) ?_
        refine wa_step (v := (.i .i64 x9)) (a_pure (p_mv g9)) ?_
        have hq := forceI_inv hr
        clear hr
        obtain ⟨x38, e38, hr⟩ := hq
        refine wa_step (v := (.i .i64 x38)) (a_pure (p_bin rfl rfl (b_sub.trans (ci e38)))) ?_
        have hq := bindO_inv hr
        clear hr
        obtain ⟨v39, e39, hr⟩ := hq
        refine wa_step (v := v39) (a_pure (o_ixS rfl rfl e39)) ?_
        have hq := bindO_inv hr
        clear hr
        obtain ⟨v40, e40, hr⟩ := hq
        have hq := asI_inv hr
        clear hr
        obtain ⟨x40, rfl, hr⟩ := hq
        refine wa_step (v := (.i .i64 x40)) (a_ld rfl e40) ?_
        refine wa_step (v := v10) (a_pure (p_mv g7)) ?_
        refine wa_step (v := (.i .i64 x9)) (a_pure (p_mv g9)) ?_
        have hq := bindO_inv hr
        clear hr
        obtain ⟨v43, e43, hr⟩ := hq
        refine wa_step (v := v43) (a_pure (o_ixS rfl rfl e43)) ?_
        have hq := bindO_inv hr
        clear hr
        obtain ⟨v44, e44, hr⟩ := hq
        have hq := asI_inv hr
        clear hr
        obtain ⟨x44, rfl, hr⟩ := hq
        refine wa_step (v := (.i .i64 x44)) (a_ld rfl e44) ?_
        have hq := forceI_inv hr
        clear hr
        obtain ⟨x45, e45, hr⟩ := hq
        refine wa_step (v := (.i .i64 x45)) (a_pure (p_bin rfl rfl ((b_quo rfl).trans (ci e45)))) ?_
        have hq := forceI_inv hr
        clear hr
        obtain ⟨x46, e46, hr⟩ := hq
        refine wa_step (v := (.i .i64 x46)) (a_pure (p_bin rfl rfl (b_add.trans (ci e46)))) ?_
        have hq := bindO_inv hr
        clear hr
        obtain ⟨v47, e47, hr⟩ := hq
        refine wa_step (v := v47) (a_pure (o_ixS rfl rfl e47)) ?_
        have hq := asP_inv hr
        clear hr
        obtain ⟨qs, eqs, hr⟩ := hq
        refine wa_stepN (a_st (Eq.trans (b := v47) rfl eqs) rfl rfl) ?_
        have hq := bindO_inv hr
        clear hr
        obtain ⟨m_7, ew, hr⟩ := hq
        refine wa_nil ?_
        refine ⟨m_7, ew, ?_⟩
        refine nx_norm ?_
        refine w_ops ?_
        refine wo_step (v := v10) (s_pure (p_mv g7)) ?_
        refine wo_step (v := (.i .i64 x9)) (s_pure (p_mv g9)) ?_
        refine wo_step (v := v10) (s_pure (p_mv g7)) ?_
        refine wo_step (v := (.i .i64 x9)) (s_pure (p_mv g9)) ?_
        have hq := bindO_inv hr
        clear hr
        obtain ⟨v52, e52, hr⟩ := hq
        refine wo_step (v := v52) (s_pure (o_ixS rfl rfl e52)) ?_
        have hq := bindO_inv hr
        clear hr
        obtain ⟨v53, e53, hr⟩ := hq
        have hq := asI_inv hr
        clear hr
        obtain ⟨x53, rfl, hr⟩ := hq
        refine wo_step (v := (.i .i64 x53)) (s_ld rfl e53) ?_
        have hq := forceI_inv hr
        clear hr
        obtain ⟨x54, e54, hr⟩ := hq
        refine wo_step (v := (.i .i64 x54)) (s_pure (p_bin rfl rfl ((b_rem rfl).trans (ci e54)))) ?_
        have hq := bindO_inv hr
        clear hr
        obtain ⟨v55, e55, hr⟩ := hq
        refine wo_step (v := v55) (s_pure (o_ixS rfl rfl e55)) ?_
        have hq := bindP_inv hr
        clear hr
        obtain ⟨vn_1, m_8, en_1, hr⟩ := hq
        refine wo_stepN (s_st rfl rfl en_1) ?_
        refine wo_nil ?_
        refine bk_norm ?_
        refine nx_norm ?_
        refine w_ops ?_
        refine wo_step (v := (.i .i64 x9)) (s_pure (p_mv g9)) ?_
        have hq := forceI_inv hr
        clear hr
        obtain ⟨x35, e35, hr⟩ := hq
        refine wo_step (v := (.i .i64 x35)) (s_pure (p_bin rfl rfl (b_sub.trans (ci e35)))) ?_
        refine wo_step (v := (.i .i64 x35)) (s_pure (p_mv rfl)) ?_
        refine wo_nil ?_
        cases hr
        exact ⟨_, _, rfl, rfl, rfl, gl rfl, gl g7⟩
      · refine w_condF rfl ?_
        refine w_exit ?_
        refine nx_exit ?_
        cases hr
        exact ⟨_, _, rfl, ne_norm_exit, rfl, rfl, gl g7⟩
    · obtain ⟨m_9, ho⟩ : ∃ z, z = o_2 := ⟨_, rfl⟩
      subst ho
      rintro _ mm_1 t_5 ⟨rfl, rfl, g7⟩
      refine bk_hit ?_
      refine nx_norm ?_
      refine w_seq ?_
      refine w_ops ?_
      refine wo_step (v := v10) (s_pure (p_mv g7)) ?_
      refine wo_step (v := v10) (s_pure (p_mv rfl)) ?_
      refine wo_nil ?_
      refine nx_norm ?_
      refine w_ret ?_
      exact qf ret_ok (rt rfl rn) hr

/- slices.Min[[]int,int] -/
abbrev g54_I0 (v0 : AVal) (m0 : Mm) (s : Int × Int) (m1 : Mm) (t1 : Tr) : Prop :=
  match s with
  | (x3, x4) => m0 = m1 ∧ t1.get 3 = (.i .i64 x3) ∧ t1.get 4 = (.i .i64 x4) ∧ t1.get 0 = v0
abbrev g54_J0 (v0 : AVal) (m0 : Mm) (o : Int) (e : AExit) (m1 : Mm) (t1 : Tr) : Prop :=
  match o with
  | y3 => e = (.exit 0) ∧ m0 = m1 ∧ t1.get 3 = (.i .i64 y3)
def g54_b0 (M : Means) (ro : List ABlk) (v0 : AVal) (m0 : Mm) (x3 : Int) (x4 : Int) : Option ((Int × Int) ⊕ (Int)) :=
  bindO (evP .e (.len false (.c v0))) fun v14 =>
  asI .i64 v14 fun x14 =>
  forceB (ltI x4 x14) fun c15 =>
  cond c15 (
    bindO (evP .e (.ixS 1 (.c v0) (.c (.i .i64 x4)))) fun v21 =>
    bindO (ldM ro m0 true 1 v21) fun v22 =>
    asI .i64 v22 fun x22 =>
    forceI (mxV false x3 x22) fun x23 =>
    forceI (wr .i64 (x4 + 1)) fun x17 =>
    some (.inl (x23, x17))) (
    some (.inr x3))
def g54 (M : Means) (ro : List ABlk) (v0 : AVal) (m0 : Mm) : Option (AVal × Heap × Nat × Nat) :=
  bindO (evP .e (.len false (.c v0))) fun v6 =>
  asI .i64 v6 fun x6 =>
  forceB (ltI x6 1) fun c7 =>
  cond c7 (
    none) (
    bindO (evP .e (.ixS 1 (.c v0) (.c (.i .i64 0)))) fun v10 =>
    bindO (ldM ro m0 true 1 v10) fun v11 =>
    asI .i64 v11 fun x11 =>
    bindO (M.loop (S := Int × Int) (R := Int) (fun s => g54_b0 M ro v0 m0 s.1 s.2) (x11, 1)) fun x3_1 =>
    finM m0.h.length (tupA [(.i .i64 x3_1)]) m0)

theorem g54_ok {ro : List ABlk} {O : Caller} {M : Means} (hM : M.Ok ⟨F, O⟩ ro) {v0 h r} (ho : O 54 [v0] h = none) (hr : g54 M ro v0 ⟨h, h.length, h.length⟩ = some r) : callX ⟨F, O⟩ ro 54 [v0] h = some r := by
  refine callX_of (F := ⟨F, O⟩) (fn := fn54) (g := g54 M ro v0) ho rfl rfl hr ?_
  clear ho
  clear hr
  intro m0 t0 ht hr
  have g0 : t0.get 0 = v0 := ht 0
  clear ht
  unfold g54 at hr
  refine w_seq ?_
  refine w_ops ?_
  refine wo_step (v := (.i .i64 0)) (s_pure (p_mv rfl)) ?_
  refine wo_nil ?_
  refine nx_norm ?_
  refine w_seq ?_
  refine w_seq ?_
  refine w_ops ?_
  refine wo_step (v := v0) (s_pure (p_mv g0)) ?_
  have hq := bindO_inv hr
  clear hr
  obtain ⟨v6, e6, hr⟩ := hq
  have hq := asI_inv hr
  clear hr
  obtain ⟨x6, rfl, hr⟩ := hq
  refine wo_step (v := (.i .i64 x6)) (s_pure (o_len rfl e6)) ?_
  have hq := forceB_inv hr
  clear hr
  obtain ⟨c7, e7, hr⟩ := hq
  refine wo_step (v := (.b c7)) (s_pure (p_bin rfl rfl (b_lss.trans (cb e7)))) ?_
  refine wo_nil ?_
  refine nx_norm ?_
  have hq := cond_inv hr
  clear hr
  rcases hq with ⟨rfl, hr⟩ | ⟨rfl, hr⟩
  · refine w_condT rfl ?_
    cases hr
  · refine w_condF rfl ?_
    refine w_skip ?_
    refine nx_norm ?_
    refine w_seq ?_
    refine w_ops ?_
    refine wo_step (v := v0) (s_pure (p_mv g0)) ?_
    have hq := bindO_inv hr
    clear hr
    obtain ⟨v10, e10, hr⟩ := hq
    refine wo_step (v := v10) (s_pure (o_ixS rfl rfl e10)) ?_
    have hq := bindO_inv hr
    clear hr
    obtain ⟨v11, e11, hr⟩ := hq
    have hq := asI_inv hr
    clear hr
    obtain ⟨x11, rfl, hr⟩ := hq
    refine wo_step (v := (.i .i64 x11)) (s_ld rfl e11) ?_
    refine wo_step (v := (.i .i64 x11)) (s_pure (p_mv rfl)) ?_
    refine wo_nil ?_
    refine nx_norm ?_
    refine w_seq ?_
    refine w_seq ?_
    refine w_ops ?_
    refine wo_step (v := (.i .i64 1)) (s_pure (p_mv rfl)) ?_
    refine wo_nil ?_
    refine nx_norm ?_
    refine w_block ?_
    have hq := bindO_inv hr
    clear hr
    obtain ⟨o, hl, hr⟩ := hq
    obtain ⟨n, hl⟩ := hM.loop _ _ _ hl
    refine jp_mono (w_loop _ (g54_I0 v0 m0) (g54_J0 v0 m0) ?_ n _ _ _ _ hl ⟨rfl, gl rfl, gl rfl, gl g0⟩) ?_
    · clear hr hl
      intro s mm_1 t_1 o hi hr
      obtain ⟨x3, x4⟩ := s
      obtain ⟨rfl, g3, g4, g0⟩ := hi
      unfold g54_b0 at hr
      refine w_seq ?_
      refine w_seq ?_
      refine w_ops ?_
      refine wo_step (v := (.i .i64 x4)) (s_pure (p_mv g4)) ?_
      refine wo_step (v := v0) (s_pure (p_mv g0)) ?_
      have hq := bindO_inv hr
      clear hr
      obtain ⟨v14, e14, hr⟩ := hq
      have hq := asI_inv hr
      clear hr
      obtain ⟨x14, rfl, hr⟩ := hq
      refine wo_step (v := (.i .i64 x14)) (s_pure (o_len rfl e14)) ?_
      have hq := forceB_inv hr
      clear hr
      obtain ⟨c15, e15, hr⟩ := hq
      refine wo_step (v := (.b c15)) (s_pure (p_bin rfl rfl (b_lss.trans (cb e15)))) ?_
      refine wo_nil ?_
      refine nx_norm ?_
      have hq := cond_inv hr
      clear hr
      rcases hq with ⟨rfl, hr⟩ | ⟨rfl, hr⟩
      · refine w_condT rfl ?_
        refine w_skip ?_
        refine nx_norm ?_
        refine w_seq ?_
        refine w_block ?_
        refine w_ops ?_
        refine wo_step (v := (.i .i64 x3)) (s_pure (p_mv g3)) ?_
        refine wo_step (v := v0) (s_pure (p_mv g0)) ?_
        refine wo_step (v := (.i .i64 x4)) (s_pure (p_mv g4)) ?_
        have hq := bindO_inv hr
        clear hr
        obtain ⟨v21, e21, hr⟩ := hq
        refine wo_step (v := v21) (s_pure (o_ixS rfl rfl e21)) ?_
        have hq := bindO_inv hr
        clear hr
        obtain ⟨v22, e22, hr⟩ := hq
        have hq := asI_inv hr
        clear hr
        obtain ⟨x22, rfl, hr⟩ := hq
        refine wo_step (v := (.i .i64 x22)) (s_ld rfl e22) ?_
        have hq := forceI_inv hr
        clear hr
        obtain ⟨x23, e23, hr⟩ := hq
        refine wo_step (v := (.i .i64 x23)) (s_pure ((p_mx rfl rfl).trans (ci e23))) ?_
        refine wo_step (v := (.i .i64 x23)) (s_pure (p_mv rfl)) ?_
        refine wo_nil ?_
        refine bk_norm ?_
        refine nx_norm ?_
        refine w_ops ?_
        refine wo_step (v := (.i .i64 x4)) (s_pure (p_mv g4)) ?_
        have hq := forceI_inv hr
        clear hr
        obtain ⟨x17, e17, hr⟩ := hq
        refine wo_step (v := (.i .i64 x17)) (s_pure (p_bin rfl rfl (b_add.trans (ci e17)))) ?_
        refine wo_step (v := (.i .i64 x17)) (s_pure (p_mv rfl)) ?_
        refine wo_nil ?_
        cases hr
        exact ⟨_, _, rfl, rfl, rfl, gl rfl, gl rfl, gl g0⟩
      · refine w_condF rfl ?_
        refine w_exit ?_
        refine nx_exit ?_
        cases hr
        exact ⟨_, _, rfl, ne_norm_exit, rfl, rfl, gl g3⟩
    · obtain ⟨x3_1, ho⟩ : ∃ z, z = o := ⟨_, rfl⟩
      subst ho
      rintro _ mm t_2 ⟨rfl, rfl, g3⟩
      refine bk_hit ?_
      refine nx_norm ?_
      refine w_seq ?_
      refine w_ops ?_
      refine wo_step (v := (.i .i64 x3_1)) (s_pure (p_mv g3)) ?_
      refine wo_step (v := (.i .i64 x3_1)) (s_pure (p_mv rfl)) ?_
      refine wo_nil ?_
      refine nx_norm ?_
      refine w_ret ?_
      exact qf ret_ok (rt rfl rn) hr

/- slices.Index[[]int,int] -/
abbrev g55_I0 (v0 : AVal) (x1 : Int) (x7 : Int) (m0 : Mm) (s : Int) (m1 : Mm) (t1 : Tr) : Prop :=
  match s with
  | x8 => m0 = m1 ∧ t1.get 8 = (.i .i64 x8) ∧ t1.get 0 = v0 ∧ t1.get 1 = (.i .i64 x1) ∧ t1.get 7 = (.i .i64 x7)
abbrev g55_J0 (v0 : AVal) (x1 : Int) (x7 : Int) (m0 : Mm) (o : (Unit ⊕ Int)) (e : AExit) (m1 : Mm) (t1 : Tr) : Prop :=
  match o with
  | (.inl _) => e = (.exit 0) ∧ m0 = m1
  | (.inr y4) => e = .ret ∧ m0 = m1 ∧ t1.get 4 = (.i .i64 y4)
def g55_b0 (M : Means) (ro : List ABlk) (v0 : AVal) (x1 : Int) (x7 : Int) (m0 : Mm) (x8 : Int) : Option ((Int) ⊕ ((Unit ⊕ Int))) :=
  forceB (ltI x8 x7) fun c9 =>
  cond c9 (
    bindO (evP .e (.ixS 1 (.c v0) (.c (.i .i64 x8)))) fun v14 =>
    bindO (ldM ro m0 true 1 v14) fun v15 =>
    asI .i64 v15 fun x15 =>
    forceB (eqI x1 x15) fun c16 =>
    cond c16 (
      some (.inr (.inr x8))) (
      forceI (wr .i64 (x8 + 1)) fun x18 =>
      some (.inl x18))) (
    some (.inr (.inl ())))
def g55 (M : Means) (ro : List ABlk) (v0 : AVal) (x1 : Int) (m0 : Mm) : Option (AVal × Heap × Nat × Nat) :=
  bindO (evP .e (.len false (.c v0))) fun v7 =>
  asI .i64 v7 fun x7 =>
  bindO (M.loop (S := Int) (R := (Unit ⊕ Int)) (fun s => g55_b0 M ro v0 x1 x7 m0 s) 0) fun o => match o with
  | (.inl _) =>
    finM m0.h.length (tupA [(.i .i64 (-1))]) m0
  | (.inr x4) =>
    finM m0.h.length (tupA [(.i .i64 x4)]) m0

theorem g55_ok {ro : List ABlk} {O : Caller} {M : Means} (hM : M.Ok ⟨F, O⟩ ro) {v0 x1 h r} (ho : O 55 [v0, (.i .i64 x1)] h = none) (hr : g55 M ro v0 x1 ⟨h, h.length, h.length⟩ = some r) : callX ⟨F, O⟩ ro 55 [v0, (.i .i64 x1)] h = some r := by
  refine callX_of (F := ⟨F, O⟩) (fn := fn55) (g := g55 M ro v0 x1) ho rfl rfl hr ?_
  clear ho
  clear hr
  intro m0 t0 ht hr
  have g0 : t0.get 0 = v0 := ht 0
  have g1 : t0.get 1 = (.i .i64 x1) := ht 1
  clear ht
  unfold g55 at hr
  refine w_seq ?_
  refine w_ops ?_
  refine wo_step (v := (.i .i64 0)) (s_pure (p_mv rfl)) ?_
  refine wo_nil ?_
  refine nx_norm ?_
  refine w_seq ?_
  refine w_seq ?_
  refine w_ops ?_
  refine wo_step (v := v0) (s_pure (p_mv g0)) ?_
  have hq := bindO_inv hr
  clear hr
  obtain ⟨v7, e7, hr⟩ := hq
  have hq := asI_inv hr
  clear hr
  obtain ⟨x7, rfl, hr⟩ := hq
  refine wo_step (v := (.i .i64 x7)) (s_pure (o_len rfl e7)) ?_
  refine wo_step (v := (.i .i64 0)) (s_pure (p_mv rfl)) ?_
  refine wo_nil ?_
  refine nx_norm ?_
  refine w_block ?_
  have hq := bindO_inv hr
  clear hr
  obtain ⟨o, hl, hr⟩ := hq
  obtain ⟨n, hl⟩ := hM.loop _ _ _ hl
  refine jp_mono (w_loop _ (g55_I0 v0 x1 x7 m0) (g55_J0 v0 x1 x7 m0) ?_ n _ _ _ _ hl ⟨rfl, gl rfl, gl g0, gl g1, gl rfl⟩) ?_
  · clear hr hl
    intro s mm_2 t_1 o hi hr
    obtain ⟨x8, hs⟩ : ∃ z, z = s := ⟨_, rfl⟩
    subst hs
    obtain ⟨rfl, g8, g0, g1, g7⟩ := hi
    unfold g55_b0 at hr
    refine w_seq ?_
    refine w_ops ?_
    have hq := forceB_inv hr
    clear hr
    obtain ⟨c9, e9, hr⟩ := hq
    refine wo_step (v := (.b c9)) (s_pure (p_bin g8 g7 (b_lss.trans (cb e9)))) ?_
    refine wo_nil ?_
    refine nx_norm ?_
    refine w_seq ?_
    have hq := cond_inv hr
    clear hr
    rcases hq with ⟨rfl, hr⟩ | ⟨rfl, hr⟩
    · refine w_condT rfl ?_
      refine w_skip ?_
      refine nx_norm ?_
      refine w_seq ?_
      refine w_block ?_
      refine w_seq ?_
      refine w_ops ?_
      refine wo_step (v := (.i .i64 x8)) (s_pure (p_mv g8)) ?_
      refine wo_step (v := (.i .i64 x8)) (s_pure (p_mv rfl)) ?_
      refine wo_nil ?_
      refine nx_norm ?_
      refine w_seq ?_
      refine w_ops ?_
      refine wo_step (v := (.i .i64 x1)) (s_pure (p_mv g1)) ?_
      refine wo_step (v := v0) (s_pure (p_mv g0)) ?_
      refine wo_step (v := (.i .i64 x8)) (s_pure (p_mv rfl)) ?_
      have hq := bindO_inv hr
      clear hr
      obtain ⟨v14, e14, hr⟩ := hq
      refine wo_step (v := v14) (s_pure (o_ixS rfl rfl e14)) ?_
      have hq := bindO_inv hr
      clear hr
      obtain ⟨v15, e15, hr⟩ := hq
      have hq := asI_inv hr
      clear hr
      obtain ⟨x15, rfl, hr⟩ := hq
      refine wo_step (v := (.i .i64 x15)) (s_ld rfl e15) ?_
      have hq := forceB_inv hr
      clear hr
      obtain ⟨c16, e16, hr⟩ := hq
      refine wo_step (v := (.b c16)) (s_pure (p_bin rfl rfl (b_eql.trans (cb e16)))) ?_
      refine wo_nil ?_
      refine nx_norm ?_
      have hq := cond_inv hr
      clear hr
      rcases hq with ⟨rfl, hr⟩ | ⟨rfl, hr⟩
      · refine w_condT rfl ?_
        refine w_seq ?_
        refine w_ops ?_
        refine wo_step (v := (.i .i64 x8)) (s_pure (p_mv rfl)) ?_
        refine wo_step (v := (.i .i64 x8)) (s_pure (p_mv rfl)) ?_
        refine wo_nil ?_
        refine nx_norm ?_
        refine w_ret ?_
        refine bk_ret ?_
        refine nx_ret ?_
        cases hr
        exact ⟨_, _, rfl, ne_norm_ret, rfl, rfl, gl rfl⟩
      · refine w_condF rfl ?_
        refine w_skip ?_
        refine bk_norm ?_
        refine nx_norm ?_
        refine w_ops ?_
        have hq := forceI_inv hr
        clear hr
        obtain ⟨x18, e18, hr⟩ := hq
        refine wo_step (v := (.i .i64 x18)) (s_pure (p_bin g8 rfl (b_add.trans (ci e18)))) ?_
        refine wo_step (v := (.i .i64 x18)) (s_pure (p_mv rfl)) ?_
        refine wo_nil ?_
        cases hr
        exact ⟨_, _, rfl, rfl, rfl, gl rfl, gl g0, gl g1, gl g7⟩
    · refine w_condF rfl ?_
      refine w_exit ?_
      refine nx_exit ?_
      cases hr
      exact ⟨_, _, rfl, ne_norm_exit, rfl, rfl⟩
  · rcases o with o | o
    · rintro _ mm t_2 ⟨rfl, rfl⟩
      refine bk_hit ?_
      refine nx_norm ?_
      refine w_seq ?_
      refine w_ops ?_
      refine wo_step (v := (.i .i64 (-1))) (s_pure (p_mv rfl)) ?_
      refine wo_nil ?_
      refine nx_norm ?_
      refine w_ret ?_
      exact qf ret_ok (rt rfl rn) hr
    · obtain ⟨x4, ho⟩ : ∃ z, z = o := ⟨_, rfl⟩
      subst ho
      rintro _ mm_1 t_3 ⟨rfl, rfl, g4⟩
      refine bk_ret ?_
      refine nx_ret ?_
      exact qf ret_ok (rt g4 rn) hr

/- dibber/luck.isGoal -/
abbrev g58_J0 (x0 : Int) (v1 : AVal) (m0 : Mm) (o : Bool) (m1 : Mm) (t1 : Tr) : Prop :=
  match o with
  | c12 => m0 = m1 ∧ t1.get 12 = (.b c12) ∧ t1.get 0 = (.i .i64 x0) ∧ t1.get 1 = v1
abbrev g58_J1 (x0 : Int) (v1 : AVal) (m0 : Mm) (o : Bool) (m1 : Mm) (t1 : Tr) : Prop :=
  match o with
  | c19 => m0 = m1 ∧ t1.get 19 = (.b c19) ∧ t1.get 0 = (.i .i64 x0) ∧ t1.get 1 = v1
abbrev g58_I2 (x0 : Int) (v1 : AVal) (x21 : Int) (m0 : Mm) (s : Int) (m1 : Mm) (t1 : Tr) : Prop :=
  match s with
  | x22 => m0 = m1 ∧ t1.get 22 = (.i .i64 x22) ∧ t1.get 0 = (.i .i64 x0) ∧ t1.get 20 = v1 ∧ t1.get 21 = (.i .i64 x21)
abbrev g58_J2 (x0 : Int) (v1 : AVal) (x21 : Int) (m0 : Mm) (o : (Unit ⊕ Bool)) (e : AExit) (m1 : Mm) (t1 : Tr) : Prop :=
  match o with
  | (.inl _) => e = (.exit 0) ∧ m0 = m1
  | (.inr y4) => e = .ret ∧ m0 = m1 ∧ t1.get 4 = (.b y4)
abbrev g58_J3 (x0 : Int) (v1 : AVal) (x21 : Int) (x22 : Int) (m0 : Mm) (o : Bool) (m1 : Mm) (t1 : Tr) : Prop :=
  match o with
  | c33 => m0 = m1 ∧ t1.get 33 = (.b c33) ∧ t1.get 0 = (.i .i64 x0) ∧ t1.get 20 = v1 ∧ t1.get 21 = (.i .i64 x21) ∧ t1.get 22 = (.i .i64 x22)
def g58_b2 (M : Means) (ro : List ABlk) (x0 : Int) (v1 : AVal) (x21 : Int) (m0 : Mm) (x22 : Int) : Option ((Int) ⊕ ((Unit ⊕ Bool))) :=
  forceB (ltI x22 x21) fun c23 =>
  cond c23 (
    bindO (evP .e (.ixS 1 (.c v1) (.c (.i .i64 x22)))) fun v24 =>
    bindO (ldM ro m0 true 1 v24) fun v25 =>
    asI .i64 v25 fun x25 =>
    forceB (ltI x25 0) fun c27 =>
    bindO (cond c27 (
      some true) (
      forceI (wr .i64 (x0 * 60)) fun x31 =>
      forceB (ltI x31 x25) fun c32 =>
      some c32)) fun c33 =>
    cond c33 (
      some (.inr (.inr false))) (
      forceI (wr .i64 (x22 + 1)) fun x34 =>
      some (.inl x34))) (
    some (.inr (.inl ())))
def g58 (M : Means) (ro : List ABlk) (x0 : Int) (v1 : AVal) (m0 : Mm) : Option (AVal × Heap × Nat × Nat) :=
  forceB (ltI x0 1) fun c8 =>
  bindO (cond c8 (
    some true) (
    forceB (ltI 10 x0) fun c11 =>
    some c11)) fun c12 =>
  bindO (cond c12 (
    some true) (
    bindO (evP .e (.len false (.c v1))) fun v15 =>
    asI .i64 v15 fun x15 =>
    chk (!ltI x0 (.ofNat 0)) <|
    forceI (shlV .i64 1 x0) fun x17 =>
    forceB (!eqI x15 x17) fun c18 =>
    some c18)) fun c19 =>
  cond c19 (
    finM m0.h.length (tupA [(.b false)]) m0) (
    bindO (evP .e (.len false (.c v1))) fun v21 =>
    asI .i64 v21 fun x21 =>
    bindO (M.loop (S := Int) (R := (Unit ⊕ Bool)) (fun s => g58_b2 M ro x0 v1 x21 m0 s) 0) fun o_3 => match o_3 with
    | (.inl _) =>
      finM m0.h.length (tupA [(.b true)]) m0
    | (.inr c4) =>
      finM m0.h.length (tupA [(.b c4)]) m0)

theorem g58_ok {ro : List ABlk} {O : Caller} {M : Means} (hM : M.Ok ⟨F, O⟩ ro) {x0 v1 h r} (ho : O 58 [(.i .i64 x0), v1] h = none) (hr : g58 M ro x0 v1 ⟨h, h.length, h.length⟩ = some r) : callX ⟨F, O⟩ ro 58 [(.i .i64 x0), v1] h = some r := by
  refine callX_of (F := ⟨F, O⟩) (fn := fn58) (g := g58 M ro x0 v1) ho rfl rfl hr ?_
  clear ho
  clear hr
  intro m0 t0 ht hr
  have g0 : t0.get 0 = (.i .i64 x0) := ht 0
  have g1 : t0.get 1 = v1 := ht 1
  clear ht
  unfold g58 at hr
  refine w_seq ?_
  refine w_ops ?_
  refine wo_step (v := (.b false)) (s_pure (p_mv rfl)) ?_
  refine wo_nil ?_
  refine nx_norm ?_
  refine w_seq ?_
  refine w_seq ?_
  refine w_ops ?_
  refine wo_step (v := (.i .i64 x0)) (s_pure (p_mv g0)) ?_
  have hq := forceB_inv hr
  clear hr
  obtain ⟨c8, e8, hr⟩ := hq
  refine wo_step (v := (.b c8)) (s_pure (p_bin rfl rfl (b_lss.trans (cb e8)))) ?_
  refine wo_step (v := (.b c8)) (s_pure (p_mv rfl)) ?_
  have hq := bindO_inv hr
  clear hr
  obtain ⟨o, hr, hk⟩ := hq
  refine wo_join 3 (g58_J0 x0 v1 m0 o) ?_ ?_
  · clear hk
    have hq := cond_inv hr
    clear hr
    rcases hq with ⟨rfl, hr⟩ | ⟨rfl, hr⟩
    · refine wo_skip (v := (.b true)) rfl rfl ?_
      refine wo_skip (v := (.b true)) rfl rfl ?_
      refine wo_step (v := (.b true)) (s_pure (p_pickT rfl rfl)) ?_
      refine wo_nil ?_
      cases hr
      exact ⟨_, _, rfl, rfl, gl rfl, gl g0, gl g1⟩
    · refine wo_take (v := (.i .i64 x0)) rfl (s_pure (p_mv g0)) ?_
      have hq := forceB_inv hr
      clear hr
      obtain ⟨c11, e11, hr⟩ := hq
      refine wo_take (v := (.b c11)) rfl (s_pure (p_bin rfl rfl (b_gtr.trans (cb e11)))) ?_
      refine wo_step (v := (.b c11)) (s_pure (p_pickF rfl rfl)) ?_
      refine wo_nil ?_
      cases hr
      exact ⟨_, _, rfl, rfl, gl rfl, gl g0, gl g1⟩
  · clear hr
    have hr := hk
    clear hk
    obtain ⟨c12, ho⟩ : ∃ z, z = o := ⟨_, rfl⟩
    subst ho
    rintro mm t_1 ⟨rfl, g12, g0, g1⟩
    refine wo_step (v := (.b c12)) (s_pure (p_mv g12)) ?_
    have hq := bindO_inv hr
    clear hr
    obtain ⟨o_1, hr, hk⟩ := hq
    refine wo_join 6 (g58_J1 x0 v1 m0 o_1) ?_ ?_
    · clear hk
      have hq := cond_inv hr
      clear hr
      rcases hq with ⟨rfl, hr⟩ | ⟨rfl, hr⟩
      · refine wo_skip (v := (.b true)) rfl rfl ?_
        refine wo_skip (v := (.b true)) rfl rfl ?_
        refine wo_skip (v := (.b true)) rfl rfl ?_
        refine wo_skip (v := (.b true)) rfl rfl ?_
        refine wo_skip (v := (.b true)) rfl rfl ?_
        refine wo_step (v := (.b true)) (s_pure (p_pickT rfl rfl)) ?_
        refine wo_nil ?_
        cases hr
        exact ⟨_, _, rfl, rfl, gl rfl, gl g0, gl g1⟩
      · refine wo_take (v := v1) rfl (s_pure (p_mv g1)) ?_
        have hq := bindO_inv hr
        clear hr
        obtain ⟨v15, e15, hr⟩ := hq
        have hq := asI_inv hr
        clear hr
        obtain ⟨x15, rfl, hr⟩ := hq
        refine wo_take (v := (.i .i64 x15)) rfl (s_pure (o_len rfl e15)) ?_
        refine wo_take (v := (.i .i64 x0)) rfl (s_pure (p_mv g0)) ?_
        have hq := chk_inv hr
        clear hr
        obtain ⟨hc17, hr⟩ := hq
        have hq := forceI_inv hr
        clear hr
        obtain ⟨x17, e17, hr⟩ := hq
        refine wo_take (v := (.i .i64 x17)) rfl (s_pure (p_bin rfl rfl ((b_shl hc17).trans (ci e17)))) ?_
        have hq := forceB_inv hr
        clear hr
        obtain ⟨c18, e18, hr⟩ := hq
        refine wo_take (v := (.b c18)) rfl (s_pure (p_bin rfl rfl (b_neq.trans (cb e18)))) ?_
        refine wo_step (v := (.b c18)) (s_pure (p_pickF rfl rfl)) ?_
        refine wo_nil ?_
        cases hr
        exact ⟨_, _, rfl, rfl, gl rfl, gl g0, gl g1⟩
    · clear hr
      have hr := hk
      clear hk
      obtain ⟨c19, ho⟩ : ∃ z, z = o_1 := ⟨_, rfl⟩
      subst ho
      rintro mm_1 t_2 ⟨rfl, g19, g0, g1⟩
      refine wo_nil ?_
      refine nx_norm ?_
      have hq := cond_inv hr
      clear hr
      rcases hq with ⟨rfl, hr⟩ | ⟨rfl, hr⟩
      · refine w_condT g19 ?_
        refine w_seq ?_
        refine w_ops ?_
        refine wo_step (v := (.b false)) (s_pure (p_mv rfl)) ?_
        refine wo_nil ?_
        refine nx_norm ?_
        refine w_ret ?_
        refine nx_ret ?_
        exact qf ret_ok (rt rfl rn) hr
      · refine w_condF g19 ?_
        refine w_skip ?_
        refine nx_norm ?_
        refine w_seq ?_
        refine w_seq ?_
        refine w_ops ?_
        refine wo_step (v := v1) (s_pure (p_mv g1)) ?_
        have hq := bindO_inv hr
        clear hr
        obtain ⟨v21, e21, hr⟩ := hq
        have hq := asI_inv hr
        clear hr
        obtain ⟨x21, rfl, hr⟩ := hq
        refine wo_step (v := (.i .i64 x21)) (s_pure (o_len rfl e21)) ?_
        refine wo_step (v := (.i .i64 0)) (s_pure (p_mv rfl)) ?_
        refine wo_nil ?_
        refine nx_norm ?_
        refine w_block ?_
        have hq := bindO_inv hr
        clear hr
        obtain ⟨o_3, hl, hr⟩ := hq
        obtain ⟨n, hl⟩ := hM.loop _ _ _ hl
        refine jp_mono (w_loop _ (g58_I2 x0 v1 x21 m0) (g58_J2 x0 v1 x21 m0) ?_ n _ _ _ _ hl ⟨rfl, gl rfl, gl g0, gl rfl, gl rfl⟩) ?_
        · clear hr hl
          intro s mm_5 t_3 o hi hr
          obtain ⟨x22, hs⟩ : ∃ z, z = s := ⟨_, rfl⟩
          subst hs
          obtain ⟨rfl, g22, g0, g20, g21⟩ := hi
          unfold g58_b2 at hr
          refine w_seq ?_
          refine w_ops ?_
          have hq := forceB_inv hr
          clear hr
          obtain ⟨c23, e23, hr⟩ := hq
          refine wo_step (v := (.b c23)) (s_pure (p_bin g22 g21 (b_lss.trans (cb e23)))) ?_
          refine wo_nil ?_
          refine nx_norm ?_
          refine w_seq ?_
          have hq := cond_inv hr
          clear hr
          rcases hq with ⟨rfl, hr⟩ | ⟨rfl, hr⟩
          · refine w_condT rfl ?_
            refine w_skip ?_
            refine nx_norm ?_
            refine w_seq ?_
            refine w_block ?_
            refine w_seq ?_
            refine w_ops ?_
            have hq := bindO_inv hr
            clear hr
            obtain ⟨v24, e24, hr⟩ := hq
            refine wo_step (v := v24) (s_pure (o_ixS g20 g22 e24)) ?_
            have hq := bindO_inv hr
            clear hr
            obtain ⟨v25, e25, hr⟩ := hq
            have hq := asI_inv hr
            clear hr
            obtain ⟨x25, rfl, hr⟩ := hq
            refine wo_step (v := (.i .i64 x25)) (s_ld rfl e25) ?_
            refine wo_step (v := (.i .i64 x25)) (s_pure (p_mv rfl)) ?_
            refine wo_nil ?_
            refine nx_norm ?_
            refine w_seq ?_
            refine w_ops ?_
            refine wo_step (v := (.i .i64 x25)) (s_pure (p_mv rfl)) ?_
            have hq := forceB_inv hr
            clear hr
            obtain ⟨c27, e27, hr⟩ := hq
            refine wo_step (v := (.b c27)) (s_pure (p_bin rfl rfl (b_lss.trans (cb e27)))) ?_
            refine wo_step (v := (.b c27)) (s_pure (p_mv rfl)) ?_
            have hq := bindO_inv hr
            clear hr
            obtain ⟨o_2, hr, hk⟩ := hq
            refine wo_join 5 (g58_J3 x0 v1 x21 x22 m0 o_2) ?_ ?_
            · clear hk
              have hq := cond_inv hr
              clear hr
              rcases hq with ⟨rfl, hr⟩ | ⟨rfl, hr⟩
              · refine wo_skip (v := (.b true)) rfl rfl ?_
                refine wo_skip (v := (.b true)) rfl rfl ?_
                refine wo_skip (v := (.b true)) rfl rfl ?_
                refine wo_skip (v := (.b true)) rfl rfl ?_
                refine wo_step (v := (.b true)) (s_pure (p_pickT rfl rfl)) ?_
                refine wo_nil ?_
                cases hr
                exact ⟨_, _, rfl, rfl, gl rfl, gl g0, gl g20, gl g21, gl g22⟩
              · refine wo_take (v := (.i .i64 x25)) rfl (s_pure (p_mv rfl)) ?_
                refine wo_take (v := (.i .i64 x0)) rfl (s_pure (p_mv g0)) ?_
                have hq := forceI_inv hr
                clear hr
                obtain ⟨x31, e31, hr⟩ := hq
                refine wo_take (v := (.i .i64 x31)) rfl (s_pure (p_bin rfl rfl (b_mul.trans (ci e31)))) ?_
                have hq := forceB_inv hr
                clear hr
                obtain ⟨c32, e32, hr⟩ := hq
                refine wo_take (v := (.b c32)) rfl (s_pure (p_bin rfl rfl (b_gtr.trans (cb e32)))) ?_
                refine wo_step (v := (.b c32)) (s_pure (p_pickF rfl rfl)) ?_
                refine wo_nil ?_
                cases hr
                exact ⟨_, _, rfl, rfl, gl rfl, gl g0, gl g20, gl g21, gl g22⟩
            · clear hr
              have hr := hk
              clear hk
              obtain ⟨c33, ho⟩ : ∃ z, z = o_2 := ⟨_, rfl⟩
              subst ho
              rintro mm_2 t_4 ⟨rfl, g33, g0, g20, g21, g22⟩
              refine wo_nil ?_
              refine nx_norm ?_
              have hq := cond_inv hr
              clear hr
              rcases hq with ⟨rfl, hr⟩ | ⟨rfl, hr⟩
              · refine w_condT g33 ?_
                refine w_seq ?_
                refine w_ops ?_
                refine wo_step (v := (.b false)) (s_pure (p_mv rfl)) ?_
                refine wo_nil ?_
                refine nx_norm ?_
                refine w_ret ?_
                refine bk_ret ?_
                refine nx_ret ?_
                cases hr
                exact ⟨_, _, rfl, ne_norm_ret, rfl, rfl, gl rfl⟩
              · refine w_condF g33 ?_
                refine w_skip ?_
                refine bk_norm ?_
                refine nx_norm ?_
                refine w_ops ?_
                have hq := forceI_inv hr
                clear hr
                obtain ⟨x34, e34, hr⟩ := hq
                refine wo_step (v := (.i .i64 x34)) (s_pure (p_bin g22 rfl (b_add.trans (ci e34)))) ?_
                refine wo_step (v := (.i .i64 x34)) (s_pure (p_mv rfl)) ?_
                refine wo_nil ?_
                cases hr
                exact ⟨_, _, rfl, rfl, rfl, gl rfl, gl g0, gl g20, gl g21⟩
          · refine w_condF rfl ?_
            refine w_exit ?_
            refine nx_exit ?_
            cases hr
            exact ⟨_, _, rfl, ne_norm_exit, rfl, rfl⟩
        · rcases o_3 with o_3 | o_3
          · rintro _ mm_3 t_5 ⟨rfl, rfl⟩
            refine bk_hit ?_
            refine nx_norm ?_
            refine w_seq ?_
            refine w_ops ?_
            refine wo_step (v := (.b true)) (s_pure (p_mv rfl)) ?_
            refine wo_nil ?_
            refine nx_norm ?_
            refine w_ret ?_
            exact qf ret_ok (rt rfl rn) hr
          · obtain ⟨c4, ho⟩ : ∃ z, z = o_3 := ⟨_, rfl⟩
            subst ho
            rintro _ mm_4 t_6 ⟨rfl, rfl, g4⟩
            refine bk_ret ?_
            refine nx_ret ?_
            exact qf ret_ok (rt g4 rn) hr

/- dibber/luck.room -/

def g59 (M : Means) (ro : List ABlk) (v0 : AVal) (m0 : Mm) : Option (AVal × Heap × Nat × Nat) :=
  bindO (evP .e (.len false (.c v0))) fun v7 =>
  asI .i64 v7 fun x7 =>
  forceB (eqI x7 1) fun c8 =>
  cond c8 (
    bindO (evP .e (.ixS 1 (.c v0) (.c (.i .i64 0)))) fun v10 =>
    bindO (ldM ro m0 true 1 v10) fun v11 =>
    asI .i64 v11 fun x11 =>
    finM m0.h.length (tupA [(.i .i64 x11)]) m0) (
    bindP (callM M.call m0 62 [v0, (.i .i64 0)]) fun v13 m_1 =>
    bindP (callM M.call m_1 59 [v13]) fun v14 m_2 =>
    asI .i64 v14 fun x14 =>
    bindP (callM M.call m_2 62 [v0, (.i .i64 1)]) fun v16 m_3 =>
    bindP (callM M.call m_3 59 [v16]) fun v17 m_4 =>
    asI .i64 v17 fun x17 =>
    forceI (wr .i64 (x14 + x17)) fun x20 =>
    bindO (evP .e (.len false (.c v0))) fun v22 =>
    asI .i64 v22 fun x22 =>
    forceI (wr .i64 (60 * x22)) fun x23 =>
    forceI (wr .i64 (Int.tdiv x23 2)) fun x24 =>
    forceI (wr .i64 (x20 - x24)) fun x25 =>
    forceI (wr .i64 (2 * x14)) fun x28 =>
    forceI (wr .i64 (2 * x17)) fun x30 =>
    forceI (mxV false (mxV false x25 x28) x30) fun x31 =>
    finM m0.h.length (tupA [(.i .i64 x31)]) m_4)

theorem g59_ok {ro : List ABlk} {O : Caller} {M : Means} (hM : M.Ok ⟨F, O⟩ ro) {v0 h r} (ho : O 59 [v0] h = none) (hr : g59 M ro v0 ⟨h, h.length, h.length⟩ = some r) : callX ⟨F, O⟩ ro 59 [v0] h = some r := by
  refine callX_of (F := ⟨F, O⟩) (fn := fn59) (g := g59 M ro v0) ho rfl rfl hr ?_
  clear ho
  clear hr
  intro m0 t0 ht hr
  have g0 : t0.get 0 = v0 := ht 0
  clear ht
  unfold g59 at hr
  refine w_seq ?_
  refine w_ops ?_
  refine wo_step (v := (.i .i64 0)) (s_pure (p_mv rfl)) ?_
  refine wo_nil ?_
  refine nx_norm ?_
  refine w_seq ?_
  refine w_seq ?_
  refine w_ops ?_
  refine wo_step (v := v0) (s_pure (p_mv g0)) ?_
  have hq := bindO_inv hr
  clear hr
  obtain ⟨v7, e7, hr⟩ := hq
  have hq := asI_inv hr
  clear hr
  obtain ⟨x7, rfl, hr⟩ := hq
  refine wo_step (v := (.i .i64 x7)) (s_pure (o_len rfl e7)) ?_
  have hq := forceB_inv hr
  clear hr
  obtain ⟨c8, e8, hr⟩ := hq
  refine wo_step (v := (.b c8)) (s_pure (p_bin rfl rfl (b_eql.trans (cb e8)))) ?_
  refine wo_nil ?_
  refine nx_norm ?_
  have hq := cond_inv hr
  clear hr
  rcases hq with ⟨rfl, hr⟩ | ⟨rfl, hr⟩
  · refine w_condT rfl ?_
    refine w_seq ?_
    refine w_ops ?_
    refine wo_step (v := v0) (s_pure (p_mv g0)) ?_
    have hq := bindO_inv hr
    clear hr
    obtain ⟨v10, e10, hr⟩ := hq
    refine wo_step (v := v10) (s_pure (o_ixS rfl rfl e10)) ?_
    have hq := bindO_inv hr
    clear hr
    obtain ⟨v11, e11, hr⟩ := hq
    have hq := asI_inv hr
    clear hr
    obtain ⟨x11, rfl, hr⟩ := hq
    refine wo_step (v := (.i .i64 x11)) (s_ld rfl e11) ?_
    refine wo_step (v := (.i .i64 x11)) (s_pure (p_mv rfl)) ?_
    refine wo_nil ?_
    refine nx_norm ?_
    refine w_ret ?_
    refine nx_ret ?_
    exact qf ret_ok (rt rfl rn) hr
  · refine w_condF rfl ?_
    refine w_skip ?_
    refine nx_norm ?_
    refine w_seq ?_
    refine w_ops ?_
    refine wo_step (v := v0) (s_pure (p_mv g0)) ?_
    have hq := bindP_inv hr
    clear hr
    obtain ⟨v13, m_1, e13, hr⟩ := hq
    refine wo_step (v := v13) (s_call (mc rfl (mc rfl mn)) (callM_le hM.call e13)) ?_
    have hq := bindP_inv hr
    clear hr
    obtain ⟨v14, m_2, e14, hr⟩ := hq
    have hq := asI_inv hr
    clear hr
    obtain ⟨x14, rfl, hr⟩ := hq
    refine wo_step (v := (.i .i64 x14)) (s_call (mc rfl mn) (callM_le hM.call e14)) ?_
    refine wo_step (v := v0) (s_pure (p_mv g0)) ?_
    have hq := bindP_inv hr
    clear hr
    obtain ⟨v16, m_3, e16, hr⟩ := hq
    refine wo_step (v := v16) (s_call (mc rfl (mc rfl mn)) (callM_le hM.call e16)) ?_
    have hq := bindP_inv hr
    clear hr
    obtain ⟨v17, m_4, e17, hr⟩ := hq
    have hq := asI_inv hr
    clear hr
    obtain ⟨x17, rfl, hr⟩ := hq
    refine wo_step (v := (.i .i64 x17)) (s_call (mc rfl mn) (callM_le hM.call e17)) ?_
    refine wo_step (v := (.i .i64 x14)) (s_pure (p_mv rfl)) ?_
    refine wo_step (v := (.i .i64 x17)) (s_pure (p_mv rfl)) ?_
    refine wo_nil ?_
    refine nx_norm ?_
    refine w_seq ?_
    refine w_ops ?_
    refine wo_step (v := (.i .i64 x14)) (s_pure (p_mv rfl)) ?_
    refine wo_step (v := (.i .i64 x17)) (s_pure (p_mv rfl)) ?_
    have hq := forceI_inv hr
    clear hr
    obtain ⟨x20, e20, hr⟩ := hq
    refine wo_step (v := (.i .i64 x20)) (s_pure (p_bin rfl rfl (b_add.trans (ci e20)))) ?_
    refine wo_step (v := v0) (s_pure (p_mv g0)) ?_
    have hq := bindO_inv hr
    clear hr
    obtain ⟨v22, e22, hr⟩ := hq
    have hq := asI_inv hr
    clear hr
    obtain ⟨x22, rfl, hr⟩ := hq
    refine wo_step (v := (.i .i64 x22)) (s_pure (o_len rfl e22)) ?_
    have hq := forceI_inv hr
    clear hr
    obtain ⟨x23, e23, hr⟩ := hq
    refine wo_step (v := (.i .i64 x23)) (s_pure (p_bin rfl rfl (b_mul.trans (ci e23)))) ?_
    have hq := forceI_inv hr
    clear hr
    obtain ⟨x24, e24, hr⟩ := hq
    refine wo_step (v := (.i .i64 x24)) (s_pure (p_bin rfl rfl ((b_quo rfl).trans (ci e24)))) ?_
    have hq := forceI_inv hr
    clear hr
    obtain ⟨x25, e25, hr⟩ := hq
    refine wo_step (v := (.i .i64 x25)) (s_pure (p_bin rfl rfl (b_sub.trans (ci e25)))) ?_
    refine wo_step (v := (.i .i64 x25)) (s_pure (p_mv rfl)) ?_
    refine wo_nil ?_
    refine nx_norm ?_
    refine w_seq ?_
    refine w_ops ?_
    refine wo_step (v := (.i .i64 x25)) (s_pure (p_mv rfl)) ?_
    refine wo_step (v := (.i .i64 x14)) (s_pure (p_mv rfl)) ?_
    have hq := forceI_inv hr
    clear hr
    obtain ⟨x28, e28, hr⟩ := hq
    refine wo_step (v := (.i .i64 x28)) (s_pure (p_bin rfl rfl (b_mul.trans (ci e28)))) ?_
    refine wo_step (v := (.i .i64 x17)) (s_pure (p_mv rfl)) ?_
    have hq := forceI_inv hr
    clear hr
    obtain ⟨x30, e30, hr⟩ := hq
    refine wo_step (v := (.i .i64 x30)) (s_pure (p_bin rfl rfl (b_mul.trans (ci e30)))) ?_
    have hq := forceI_inv hr
    clear hr
    obtain ⟨x31, e31, hr⟩ := hq
    refine wo_step (v := (.i .i64 x31)) (s_pure ((p_mx3 rfl rfl rfl).trans (ci e31))) ?_
    refine wo_step (v := (.i .i64 x31)) (s_pure (p_mv rfl)) ?_
    refine wo_nil ?_
    refine nx_norm ?_
    refine w_ret ?_
    exact qf ret_ok (rt rfl rn) hr

/- dibber/luck.areBits -/
abbrev g61_I0 (v0 : AVal) (x1 : Int) (x8 : Int) (m0 : Mm) (s : Int) (m1 : Mm) (t1 : Tr) : Prop :=
  match s with
  | x9 => m0 = m1 ∧ t1.get 9 = (.i .i64 x9) ∧ t1.get 0 = v0 ∧ t1.get 1 = (.i .i64 x1) ∧ t1.get 7 = v0 ∧ t1.get 8 = (.i .i64 x8)
abbrev g61_J0 (v0 : AVal) (x1 : Int) (x8 : Int) (m0 : Mm) (o : (Unit ⊕ Bool)) (e : AExit) (m1 : Mm) (t1 : Tr) : Prop :=
  match o with
  | (.inl _) => e = (.exit 0) ∧ m0 = m1 ∧ t1.get 0 = v0 ∧ t1.get 1 = (.i .i64 x1)
  | (.inr y4) => e = .ret ∧ m0 = m1 ∧ t1.get 4 = (.b y4)
abbrev g61_J1 (v0 : AVal) (x1 : Int) (x8 : Int) (x9 : Int) (m0 : Mm) (o : Bool) (m1 : Mm) (t1 : Tr) : Prop :=
  match o with
  | c18 => m0 = m1 ∧ t1.get 18 = (.b c18) ∧ t1.get 0 = v0 ∧ t1.get 1 = (.i .i64 x1) ∧ t1.get 7 = v0 ∧ t1.get 8 = (.i .i64 x8) ∧ t1.get 9 = (.i .i64 x9)
def g61_b0 (M : Means) (ro : List ABlk) (v0 : AVal) (x1 : Int) (x8 : Int) (m0 : Mm) (x9 : Int) : Option ((Int) ⊕ ((Unit ⊕ Bool))) :=
  forceB (ltI x9 x8) fun c10 =>
  cond c10 (
    bindO (evP .e (.ixS 1 (.c v0) (.c (.i .i64 x9)))) fun v11 =>
    bindO (ldM ro m0 true 1 v11) fun v12 =>
    asI .i64 v12 fun x12 =>
    forceB (!eqI x12 0) fun c14 =>
    bindO (cond c14 (
      forceB (!eqI x12 1) fun c17 =>
      some c17) (
      some false)) fun c18 =>
    cond c18 (
      some (.inr (.inr false))) (
      forceI (wr .i64 (x9 + 1)) fun x19 =>
      some (.inl x19))) (
    some (.inr (.inl ())))
def g61 (M : Means) (ro : List ABlk) (v0 : AVal) (x1 : Int) (m0 : Mm) : Option (AVal × Heap × Nat × Nat) :=
  bindO (evP .e (.len false (.c v0))) fun v8 =>
  asI .i64 v8 fun x8 =>
  bindO (M.loop (S := Int) (R := (Unit ⊕ Bool)) (fun s => g61_b0 M ro v0 x1 x8 m0 s) 0) fun o_1 => match o_1 with
  | (.inl _) =>
    bindO (evP .e (.len false (.c v0))) fun v21 =>
    asI .i64 v21 fun x21 =>
    forceB (eqI x21 x1) fun c23 =>
    finM m0.h.length (tupA [(.b c23)]) m0
  | (.inr c4) =>
    finM m0.h.length (tupA [(.b c4)]) m0

theorem g61_ok {ro : List ABlk} {O : Caller} {M : Means} (hM : M.Ok ⟨F, O⟩ ro) {v0 x1 h r} (ho : O 61 [v0, (.i .i64 x1)] h = none) (hr : g61 M ro v0 x1 ⟨h, h.length, h.length⟩ = some r) : callX ⟨F, O⟩ ro 61 [v0, (.i .i64 x1)] h = some r := by
  refine callX_of (F := ⟨F, O⟩) (fn := fn61) (g := g61 M ro v0 x1) ho rfl rfl hr ?_
  clear ho
  clear hr
  intro m0 t0 ht hr
  have g0 : t0.get 0 = v0 := ht 0
  have g1 : t0.get 1 = (.i .i64 x1) := ht 1
  clear ht
  unfold g61 at hr
  refine w_seq ?_
  refine w_ops ?_
  refine wo_step (v := (.b false)) (s_pure (p_mv rfl)) ?_
  refine wo_nil ?_
  refine nx_norm ?_
  refine w_seq ?_
  refine w_seq ?_
  refine w_ops ?_
  refine wo_step (v := v0) (s_pure (p_mv g0)) ?_
  have hq := bindO_inv hr
  clear hr
  obtain ⟨v8, e8, hr⟩ := hq
  have hq := asI_inv hr
  clear hr
  obtain ⟨x8, rfl, hr⟩ := hq
  refine wo_step (v := (.i .i64 x8)) (s_pure (o_len rfl e8)) ?_
  refine wo_step (v := (.i .i64 0)) (s_pure (p_mv rfl)) ?_
  refine wo_nil ?_
  refine nx_norm ?_
  refine w_block ?_
  have hq := bindO_inv hr
  clear hr
  obtain ⟨o_1, hl, hr⟩ := hq
  obtain ⟨n, hl⟩ := hM.loop _ _ _ hl
  refine jp_mono (w_loop _ (g61_I0 v0 x1 x8 m0) (g61_J0 v0 x1 x8 m0) ?_ n _ _ _ _ hl ⟨rfl, gl rfl, gl g0, gl g1, gl rfl, gl rfl⟩) ?_
  · clear hr hl
    intro s mm_3 t_1 o hi hr
    obtain ⟨x9, hs⟩ : ∃ z, z = s := ⟨_, rfl⟩
    subst hs
    obtain ⟨rfl, g9, g0, g1, g7, g8⟩ := hi
    unfold g61_b0 at hr
    refine w_seq ?_
    refine w_ops ?_
    have hq := forceB_inv hr
    clear hr
    obtain ⟨c10, e10, hr⟩ := hq
    refine wo_step (v := (.b c10)) (s_pure (p_bin g9 g8 (b_lss.trans (cb e10)))) ?_
    refine wo_nil ?_
    refine nx_norm ?_
    refine w_seq ?_
    have hq := cond_inv hr
    clear hr
    rcases hq with ⟨rfl, hr⟩ | ⟨rfl, hr⟩
    · refine w_condT rfl ?_
      refine w_skip ?_
      refine nx_norm ?_
      refine w_seq ?_
      refine w_block ?_
      refine w_seq ?_
      refine w_ops ?_
      have hq := bindO_inv hr
      clear hr
      obtain ⟨v11, e11, hr⟩ := hq
      refine wo_step (v := v11) (s_pure (o_ixS g7 g9 e11)) ?_
      have hq := bindO_inv hr
      clear hr
      obtain ⟨v12, e12, hr⟩ := hq
      have hq := asI_inv hr
      clear hr
      obtain ⟨x12, rfl, hr⟩ := hq
      refine wo_step (v := (.i .i64 x12)) (s_ld rfl e12) ?_
      refine wo_step (v := (.i .i64 x12)) (s_pure (p_mv rfl)) ?_
      refine wo_nil ?_
      refine nx_norm ?_
      refine w_seq ?_
      refine w_ops ?_
      refine wo_step (v := (.i .i64 x12)) (s_pure (p_mv rfl)) ?_
      have hq := forceB_inv hr
      clear hr
      obtain ⟨c14, e14, hr⟩ := hq
      refine wo_step (v := (.b c14)) (s_pure (p_bin rfl rfl (b_neq.trans (cb e14)))) ?_
      refine wo_step (v := (.b c14)) (s_pure (p_mv rfl)) ?_
      have hq := bindO_inv hr
      clear hr
      obtain ⟨o, hr, hk⟩ := hq
      refine wo_join 3 (g61_J1 v0 x1 x8 x9 m0 o) ?_ ?_
      · clear hk
        have hq := cond_inv hr
        clear hr
        rcases hq with ⟨rfl, hr⟩ | ⟨rfl, hr⟩
        · refine wo_take (v := (.i .i64 x12)) rfl (s_pure (p_mv rfl)) ?_
          have hq := forceB_inv hr
          clear hr
          obtain ⟨c17, e17, hr⟩ := hq
          refine wo_take (v := (.b c17)) rfl (s_pure (p_bin rfl rfl (b_neq.trans (cb e17)))) ?_
          refine wo_step (v := (.b c17)) (s_pure (p_pickT rfl rfl)) ?_
          refine wo_nil ?_
          cases hr
          exact ⟨_, _, rfl, rfl, gl rfl, gl g0, gl g1, gl g7, gl g8, gl g9⟩
        · refine wo_skip (v := (.b false)) rfl rfl ?_
          refine wo_skip (v := (.b false)) rfl rfl ?_
          refine wo_step (v := (.b false)) (s_pure (p_pickF rfl rfl)) ?_
          refine wo_nil ?_
          cases hr
          exact ⟨_, _, rfl, rfl, gl rfl, gl g0, gl g1, gl g7, gl g8, gl g9⟩
      · clear hr
        have hr := hk
        clear hk
        obtain ⟨c18, ho⟩ : ∃ z, z = o := ⟨_, rfl⟩
        subst ho
        rintro mm t_2 ⟨rfl, g18, g0, g1, g7, g8, g9⟩
        refine wo_nil ?_
        refine nx_norm ?_
        have hq := cond_inv hr
        clear hr
        rcases hq with ⟨rfl, hr⟩ | ⟨rfl, hr⟩
        · refine w_condT g18 ?_
          refine w_seq ?_
          refine w_ops ?_
          refine wo_step (v := (.b false)) (s_pure (p_mv rfl)) ?_
          refine wo_nil ?_
          refine nx_norm ?_
          refine w_ret ?_
          refine bk_ret ?_
          refine nx_ret ?_
          cases hr
          exact ⟨_, _, rfl, ne_norm_ret, rfl, rfl, gl rfl⟩
        · refine w_condF g18 ?_
          refine w_skip ?_
          refine bk_norm ?_
          refine nx_norm ?_
          refine w_ops ?_
          have hq := forceI_inv hr
          clear hr
          obtain ⟨x19, e19, hr⟩ := hq
          refine wo_step (v := (.i .i64 x19)) (s_pure (p_bin g9 rfl (b_add.trans (ci e19)))) ?_
          refine wo_step (v := (.i .i64 x19)) (s_pure (p_mv rfl)) ?_
          refine wo_nil ?_
          cases hr
          exact ⟨_, _, rfl, rfl, rfl, gl rfl, gl g0, gl g1, gl g7, gl g8⟩
    · refine w_condF rfl ?_
      refine w_exit ?_
      refine nx_exit ?_
      cases hr
      exact ⟨_, _, rfl, ne_norm_exit, rfl, rfl, gl g0, gl g1⟩
  · rcases o_1 with o_1 | o_1
    · rintro _ mm_1 t_3 ⟨rfl, rfl, g0, g1⟩
      refine bk_hit ?_
      refine nx_norm ?_
      refine w_seq ?_
      refine w_ops ?_
      refine wo_step (v := v0) (s_pure (p_mv g0)) ?_
      have hq := bindO_inv hr
      clear hr
      obtain ⟨v21, e21, hr⟩ := hq
      have hq := asI_inv hr
      clear hr
      obtain ⟨x21, rfl, hr⟩ := hq
      refine wo_step (v := (.i .i64 x21)) (s_pure (o_len rfl e21)) ?_
      refine wo_step (v := (.i .i64 x1)) (s_pure (p_mv g1)) ?_
      have hq := forceB_inv hr
      clear hr
      obtain ⟨c23, e23, hr⟩ := hq
      refine wo_step (v := (.b c23)) (s_pure (p_bin rfl rfl (b_eql.trans (cb e23)))) ?_
      refine wo_step (v := (.b c23)) (s_pure (p_mv rfl)) ?_
      refine wo_nil ?_
      refine nx_norm ?_
      refine w_ret ?_
      exact qf ret_ok (rt rfl rn) hr
    · obtain ⟨c4, ho⟩ : ∃ z, z = o_1 := ⟨_, rfl⟩
      subst ho
      rintro _ mm_2 t_4 ⟨rfl, rfl, g4⟩
      refine bk_ret ?_
      refine nx_ret ?_
      exact qf ret_ok (rt g4 rn) hr

/- dibber/luck.after -/

def g62 (M : Means) (ro : List ABlk) (v0 : AVal) (x1 : Int) (m0 : Mm) : Option (AVal × Heap × Nat × Nat) :=
  bindO (evP .e (.len false (.c v0))) fun v7 =>
  asI .i64 v7 fun x7 =>
  forceI (wr .i64 (Int.tdiv x7 2)) fun x8 =>
  forceB (eqI x1 0) fun c10 =>
  cond c10 (
    bindO (evP .e (.slS 1 (.c v0) none (some (.c (.i .i64 x8))) none)) fun v13 =>
    finM m0.h.length (tupA [v13]) m0) (
    bindO (evP .e (.slS 1 (.c v0) (some (.c (.i .i64 x8))) none none)) fun v16 =>
    finM m0.h.length (tupA [v16]) m0)

theorem g62_ok {ro : List ABlk} {O : Caller} {M : Means} (hM : M.Ok ⟨F, O⟩ ro) {v0 x1 h r} (ho : O 62 [v0, (.i .i64 x1)] h = none) (hr : g62 M ro v0 x1 ⟨h, h.length, h.length⟩ = some r) : callX ⟨F, O⟩ ro 62 [v0, (.i .i64 x1)] h = some r := by
  refine callX_of (F := ⟨F, O⟩) (fn := fn62) (g := g62 M ro v0 x1) ho rfl rfl hr ?_
  clear ho
  clear hr
  intro m0 t0 ht hr
  have g0 : t0.get 0 = v0 := ht 0
  have g1 : t0.get 1 = (.i .i64 x1) := ht 1
  clear ht
  unfold g62 at hr
  refine w_seq ?_
  refine w_ops ?_
  refine wo_step (v := AVal.nsl) (s_pure (p_mv rfl)) ?_
  refine wo_nil ?_
  refine nx_norm ?_
  refine w_seq ?_
  refine w_ops ?_
  refine wo_step (v := v0) (s_pure (p_mv g0)) ?_
  have hq := bindO_inv hr
  clear hr
  obtain ⟨v7, e7, hr⟩ := hq
  have hq := asI_inv hr
  clear hr
  obtain ⟨x7, rfl, hr⟩ := hq
  refine wo_step (v := (.i .i64 x7)) (s_pure (o_len rfl e7)) ?_
  have hq := forceI_inv hr
  clear hr
  obtain ⟨x8, e8, hr⟩ := hq
  refine wo_step (v := (.i .i64 x8)) (s_pure (p_bin rfl rfl ((b_quo rfl).trans (ci e8)))) ?_
  refine wo_step (v := (.i .i64 x8)) (s_pure (p_mv rfl)) ?_
  refine wo_nil ?_
  refine nx_norm ?_
  refine w_seq ?_
  refine w_seq ?_
  refine w_ops ?_
  refine wo_step (v := (.i .i64 x1)) (s_pure (p_mv g1)) ?_
  have hq := forceB_inv hr
  clear hr
  obtain ⟨c10, e10, hr⟩ := hq
  refine wo_step (v := (.b c10)) (s_pure (p_bin rfl rfl (b_eql.trans (cb e10)))) ?_
  refine wo_nil ?_
  refine nx_norm ?_
  have hq := cond_inv hr
  clear hr
  rcases hq with ⟨rfl, hr⟩ | ⟨rfl, hr⟩
  · refine w_condT rfl ?_
    refine w_seq ?_
    refine w_ops ?_
    refine wo_step (v := v0) (s_pure (p_mv g0)) ?_
    refine wo_step (v := (.i .i64 x8)) (s_pure (p_mv rfl)) ?_
    have hq := bindO_inv hr
    clear hr
    obtain ⟨v13, e13, hr⟩ := hq
    refine wo_step (v := v13) (s_pure (o_slS rfl on (os rfl) on e13)) ?_
    refine wo_step (v := v13) (s_pure (p_mv rfl)) ?_
    refine wo_nil ?_
    refine nx_norm ?_
    refine w_ret ?_
    refine nx_ret ?_
    exact qf ret_ok (rt rfl rn) hr
  · refine w_condF rfl ?_
    refine w_skip ?_
    refine nx_norm ?_
    refine w_seq ?_
    refine w_ops ?_
    refine wo_step (v := v0) (s_pure (p_mv g0)) ?_
    refine wo_step (v := (.i .i64 x8)) (s_pure (p_mv rfl)) ?_
    have hq := bindO_inv hr
    clear hr
    obtain ⟨v16, e16, hr⟩ := hq
    refine wo_step (v := v16) (s_pure (o_slS rfl (os rfl) on on e16)) ?_
    refine wo_step (v := v16) (s_pure (p_mv rfl)) ?_
    refine wo_nil ?_
    refine nx_norm ?_
    refine w_ret ?_
    exact qf ret_ok (rt rfl rn) hr

/- dibber/luck.lowest -/
abbrev g63_I0 (x0 : Int) (x1 : Int) (v4 : AVal) (m_1 : Mm) (s : Int × Int) (m1 : Mm) (t1 : Tr) : Prop :=
  match s with
  | (x5, x6) => m_1 = m1 ∧ t1.get 5 = (.i .i64 x5) ∧ t1.get 6 = (.i .i64 x6) ∧ t1.get 0 = (.i .i64 x0) ∧ t1.get 1 = (.i .i64 x1) ∧ t1.get 4 = v4
abbrev g63_J0 (x0 : Int) (x1 : Int) (v4 : AVal) (m_1 : Mm) (o : Int) (e : AExit) (m1 : Mm) (t1 : Tr) : Prop :=
  match o with
  | y5 => e = (.exit 0) ∧ m_1 = m1 ∧ t1.get 5 = (.i .i64 y5) ∧ t1.get 0 = (.i .i64 x0) ∧ t1.get 1 = (.i .i64 x1) ∧ t1.get 4 = v4
def g63_b0 (M : Means) (ro : List ABlk) (x0 : Int) (x1 : Int) (v4 : AVal) (m_1 : Mm) (x5 : Int) (x6 : Int) : Option ((Int × Int) ⊕ (Int)) :=
  forceB (!eqI x6 0) fun c10 =>
  cond c10 (
    chk (!eqI x6 (.ofNat 0)) <|
    forceI (Int.tmod x5 x6) fun x14 =>
    some (.inl (x6, x14))) (
    some (.inr x5))
def g63 (M : Means) (ro : List ABlk) (x0 : Int) (x1 : Int) (m0 : Mm) : Option (AVal × Heap × Nat × Nat) :=
  bindP (stepM ro m0 (.al 42 [(AVal.i IntKind.i64 0), (AVal.i IntKind.i64 0)])) fun v4 m_1 =>
  bindO (M.loop (S := Int × Int) (R := Int) (fun s => g63_b0 M ro x0 x1 v4 m_1 s.1 s.2) (x0, x1)) fun x5_1 =>
  chk (!eqI x5_1 (.ofNat 0)) <|
  forceI (wr .i64 (Int.tdiv x0 x5_1)) fun x17 =>
  chk (!eqI x5_1 (.ofNat 0)) <|
  forceI (wr .i64 (Int.tdiv x1 x5_1)) fun x20 =>
  bindO ((fillA [(AVal.i IntKind.i64 0), (AVal.i IntKind.i64 0)] [((0, 1), (.i .i64 x17)), ((1, 1), (.i .i64 x20))]).map AVal.agg) fun v21 =>
  bindP (stepM ro m_1 (.st 2 (.c v4) (.c v21))) fun vn m_2 =>
  bindO (ldM ro m_2 false 2 v4) fun vr =>
  finM m0.h.length (tupA [vr]) m_2

theorem g63_ok {ro : List ABlk} {O : Caller} {M : Means} (hM : M.Ok ⟨F, O⟩ ro) {x0 x1 h r} (ho : O 63 [(.i .i64 x0), (.i .i64 x1)] h = none) (hr : g63 M ro x0 x1 ⟨h, h.length, h.length⟩ = some r) : callX ⟨F, O⟩ ro 63 [(.i .i64 x0), (.i .i64 x1)] h = some r := by
  refine callX_of (F := ⟨F, O⟩) (fn := fn63) (g := g63 M ro x0 x1) ho rfl rfl hr ?_
  clear ho
  clear hr
  intro m0 t0 ht hr
  have g0 : t0.get 0 = (.i .i64 x0) := ht 0
  have g1 : t0.get 1 = (.i .i64 x1) := ht 1
  clear ht
  unfold g63 at hr
  refine w_seq ?_
  refine w_ops ?_
  have hq := bindP_inv hr
  clear hr
  obtain ⟨v4, m_1, e4, hr⟩ := hq
  refine wo_step (v := v4) (s_al e4) ?_
  refine wo_nil ?_
  refine nx_norm ?_
  refine w_seq ?_
  refine w_ops ?_
  refine wo_step (v := (.i .i64 x0)) (s_pure (p_mv g0)) ?_
  refine wo_step (v := (.i .i64 x1)) (s_pure (p_mv g1)) ?_
  refine wo_step (v := (.i .i64 x0)) (s_pure (p_mv rfl)) ?_
  refine wo_step (v := (.i .i64 x1)) (s_pure (p_mv rfl)) ?_
  refine wo_nil ?_
  refine nx_norm ?_
  refine w_seq ?_
  refine w_block ?_
  have hq := bindO_inv hr
  clear hr
  obtain ⟨o, hl, hr⟩ := hq
  obtain ⟨n, hl⟩ := hM.loop _ _ _ hl
  refine jp_mono (w_loop _ (g63_I0 x0 x1 v4 m_1) (g63_J0 x0 x1 v4 m_1) ?_ n _ _ _ _ hl ⟨rfl, gl rfl, gl rfl, gl g0, gl g1, gl rfl⟩) ?_
  · clear hr hl
    intro s mm_1 t_1 o hi hr
    obtain ⟨x5, x6⟩ := s
    obtain ⟨rfl, g5, g6, g0, g1, g4⟩ := hi
    unfold g63_b0 at hr
    refine w_seq ?_
    refine w_seq ?_
    refine w_ops ?_
    refine wo_step (v := (.i .i64 x6)) (s_pure (p_mv g6)) ?_
    have hq := forceB_inv hr
    clear hr
    obtain ⟨c10, e10, hr⟩ := hq
    refine wo_step (v := (.b c10)) (s_pure (p_bin rfl rfl (b_neq.trans (cb e10)))) ?_
    refine wo_nil ?_
    refine nx_norm ?_
    have hq := cond_inv hr
    clear hr
    rcases hq with ⟨rfl, hr⟩ | ⟨rfl, hr⟩
    · refine w_condT rfl ?_
      refine w_skip ?_
      refine nx_norm ?_
      refine w_block ?_
      refine w_ops ?_
      refine wo_step (v := (.i .i64 x6)) (s_pure (p_mv g6)) ?_
      refine wo_step (v := (.i .i64 x5)) (s_pure (p_mv g5)) ?_
      refine wo_step (v := (.i .i64 x6)) (s_pure (p_mv g6)) ?_
      have hq := chk_inv hr
      clear hr
      obtain ⟨hc14, hr⟩ := hq
      have hq := forceI_inv hr
      clear hr
      obtain ⟨x14, e14, hr⟩ := hq
      refine wo_step (v := (.i .i64 x14)) (s_pure (p_bin rfl rfl ((b_rem hc14).trans (ci e14)))) ?_
      refine wo_step (v := (.i .i64 x6)) (s_pure (p_mv rfl)) ?_
      refine wo_step (v := (.i .i64 x14)) (s_pure (p_mv rfl)) ?_
      refine wo_nil ?_
      refine bk_norm ?_
      cases hr
      exact ⟨_, _, rfl, rfl, rfl, gl rfl, gl rfl, gl g0, gl g1, gl g4⟩
    · refine w_condF rfl ?_
      refine w_exit ?_
      refine nx_exit ?_
      cases hr
      exact ⟨_, _, rfl, ne_norm_exit, rfl, rfl, gl g5, gl g0, gl g1, gl g4⟩
  · obtain ⟨x5_1, ho⟩ : ∃ z, z = o := ⟨_, rfl⟩
    subst ho
    rintro _ mm t_2 ⟨rfl, rfl, g5, g0, g1, g4⟩
    refine bk_hit ?_
    refine nx_norm ?_
    refine w_seq ?_
    refine w_ops ?_
    refine wo_step (v := (.i .i64 x0)) (s_pure (p_mv g0)) ?_
    refine wo_step (v := (.i .i64 x5_1)) (s_pure (p_mv g5)) ?_
    have hq := chk_inv hr
    clear hr
    obtain ⟨hc17, hr⟩ := hq
    have hq := forceI_inv hr
    clear hr
    obtain ⟨x17, e17, hr⟩ := hq
    refine wo_step (v := (.i .i64 x17)) (s_pure (p_bin rfl rfl ((b_quo hc17).trans (ci e17)))) ?_
    refine wo_step (v := (.i .i64 x1)) (s_pure (p_mv g1)) ?_
    refine wo_step (v := (.i .i64 x5_1)) (s_pure (p_mv g5)) ?_
    have hq := chk_inv hr
    clear hr
    obtain ⟨hc20, hr⟩ := hq
    have hq := forceI_inv hr
    clear hr
    obtain ⟨x20, e20, hr⟩ := hq
    refine wo_step (v := (.i .i64 x20)) (s_pure (p_bin rfl rfl ((b_quo hc20).trans (ci e20)))) ?_
    have hq := bindO_inv hr
    clear hr
    obtain ⟨v21, e21, hr⟩ := hq
    refine wo_step (v := v21) (s_pure (o_build (qc rfl (qc rfl qn)) e21)) ?_
    have hq := bindP_inv hr
    clear hr
    obtain ⟨vn, m_2, en, hr⟩ := hq
    refine wo_stepN (s_st g4 rfl en) ?_
    refine wo_nil ?_
    refine nx_norm ?_
    refine w_ret ?_
    have hq := bindO_inv hr
    clear hr
    obtain ⟨vr, er, hr⟩ := hq
    exact qf ret_ok (rc g4 er rn) hr

/- dibber/luck.guess -/

def g64 (M : Means) (ro : List ABlk) (v0 : AVal) (m0 : Mm) : Option (AVal × Heap × Nat × Nat) :=
  bindO (evP .e (.len false (.c v0))) fun v5 =>
  asI .i64 v5 fun x5 =>
  forceI (wr .i64 (60 * x5)) fun x6 =>
  forceI (wr .i64 (Int.tdiv x6 2)) fun x8 =>
  bindP (callM M.call m0 62 [v0, (.i .i64 0)]) fun v10 m_1 =>
  bindP (callM M.call m_1 76 [v10]) fun v11 m_2 =>
  asI .i64 v11 fun x11 =>
  forceI (wr .i64 (x8 + x11)) fun x12 =>
  bindP (callM M.call m_2 62 [v0, (.i .i64 1)]) fun v14 m_3 =>
  bindP (callM M.call m_3 76 [v14]) fun v15 m_4 =>
  asI .i64 v15 fun x15 =>
  forceI (wr .i64 (x12 - x15)) fun x16 =>
  forceI (mxV false x16 x6) fun x19 =>
  forceI (mxV true 0 x19) fun x20 =>
  finM m0.h.length (tupA [(.i .i64 x20), (.i .i64 x6)]) m_4

theorem g64_ok {ro : List ABlk} {O : Caller} {M : Means} (hM : M.Ok ⟨F, O⟩ ro) {v0 h r} (ho : O 64 [v0] h = none) (hr : g64 M ro v0 ⟨h, h.length, h.length⟩ = some r) : callX ⟨F, O⟩ ro 64 [v0] h = some r := by
  refine callX_of (F := ⟨F, O⟩) (fn := fn64) (g := g64 M ro v0) ho rfl rfl hr ?_
  clear ho
  clear hr
  intro m0 t0 ht hr
  have g0 : t0.get 0 = v0 := ht 0
  clear ht
  unfold g64 at hr
  refine w_seq ?_
  refine w_ops ?_
  refine wo_step (v := (.i .i64 0)) (s_pure (p_mv rfl)) ?_
  refine wo_step (v := (.i .i64 0)) (s_pure (p_mv rfl)) ?_
  refine wo_nil ?_
  refine nx_norm ?_
  refine w_seq ?_
  refine w_ops ?_
  refine wo_step (v := v0) (s_pure (p_mv g0)) ?_
  have hq := bindO_inv hr
  clear hr
  obtain ⟨v5, e5, hr⟩ := hq
  have hq := asI_inv hr
  clear hr
  obtain ⟨x5, rfl, hr⟩ := hq
  refine wo_step (v := (.i .i64 x5)) (s_pure (o_len rfl e5)) ?_
  have hq := forceI_inv hr
  clear hr
  obtain ⟨x6, e6, hr⟩ := hq
  refine wo_step (v := (.i .i64 x6)) (s_pure (p_bin rfl rfl (b_mul.trans (ci e6)))) ?_
  refine wo_step (v := (.i .i64 x6)) (s_pure (p_mv rfl)) ?_
  refine wo_nil ?_
  refine nx_norm ?_
  refine w_seq ?_
  refine w_ops ?_
  refine wo_step (v := (.i .i64 x6)) (s_pure (p_mv rfl)) ?_
  have hq := forceI_inv hr
  clear hr
  obtain ⟨x8, e8, hr⟩ := hq
  refine wo_step (v := (.i .i64 x8)) (s_pure (p_bin rfl rfl ((b_quo rfl).trans (ci e8)))) ?_
  refine wo_step (v := v0) (s_pure (p_mv g0)) ?_
  have hq := bindP_inv hr
  clear hr
  obtain ⟨v10, m_1, e10, hr⟩ := hq
  refine wo_step (v := v10) (s_call (mc rfl (mc rfl mn)) (callM_le hM.call e10)) ?_
  have hq := bindP_inv hr
  clear hr
  obtain ⟨v11, m_2, e11, hr⟩ := hq
  have hq := asI_inv hr
  clear hr
  obtain ⟨x11, rfl, hr⟩ := hq
  refine wo_step (v := (.i .i64 x11)) (s_call (mc rfl mn) (callM_le hM.call e11)) ?_
  have hq := forceI_inv hr
  clear hr
  obtain ⟨x12, e12, hr⟩ := hq
  refine wo_step (v := (.i .i64 x12)) (s_pure (p_bin rfl rfl (b_add.trans (ci e12)))) ?_
  refine wo_step (v := v0) (s_pure (p_mv g0)) ?_
  have hq := bindP_inv hr
  clear hr
  obtain ⟨v14, m_3, e14, hr⟩ := hq
  refine wo_step (v := v14) (s_call (mc rfl (mc rfl mn)) (callM_le hM.call e14)) ?_
  have hq := bindP_inv hr
  clear hr
  obtain ⟨v15, m_4, e15, hr⟩ := hq
  have hq := asI_inv hr
  clear hr
  obtain ⟨x15, rfl, hr⟩ := hq
  refine wo_step (v := (.i .i64 x15)) (s_call (mc rfl mn) (callM_le hM.call e15)) ?_
  have hq := forceI_inv hr
  clear hr
  obtain ⟨x16, e16, hr⟩ := hq
  refine wo_step (v := (.i .i64 x16)) (s_pure (p_bin rfl rfl (b_sub.trans (ci e16)))) ?_
  refine wo_step (v := (.i .i64 x16)) (s_pure (p_mv rfl)) ?_
  refine wo_nil ?_
  refine nx_norm ?_
  refine w_seq ?_
  refine w_ops ?_
  refine wo_step (v := (.i .i64 x16)) (s_pure (p_mv rfl)) ?_
  refine wo_step (v := (.i .i64 x6)) (s_pure (p_mv rfl)) ?_
  have hq := forceI_inv hr
  clear hr
  obtain ⟨x19, e19, hr⟩ := hq
  refine wo_step (v := (.i .i64 x19)) (s_pure ((p_mx rfl rfl).trans (ci e19))) ?_
  have hq := forceI_inv hr
  clear hr
  obtain ⟨x20, e20, hr⟩ := hq
  refine wo_step (v := (.i .i64 x20)) (s_pure ((p_mx rfl rfl).trans (ci e20))) ?_
  refine wo_step (v := (.i .i64 x6)) (s_pure (p_mv rfl)) ?_
  refine wo_step (v := (.i .i64 x20)) (s_pure (p_mv rfl)) ?_
  refine wo_step (v := (.i .i64 x6)) (s_pure (p_mv rfl)) ?_
  refine wo_nil ?_
  refine nx_norm ?_
  refine w_ret ?_
  exact qf ret_ok (rt rfl (rt rfl rn)) hr

/- dibber/dibberref05.bit -/
abbrev g65_J0 (m0 : Mm) (o : Bool) (m1 : Mm) (t1 : Tr) : Prop :=
  match o with
  | c8 => m0 = m1 ∧ t1.get 8 = (.b c8)
def g65 (M : Means) (ro : List ABlk) (x0 : Int) (m0 : Mm) : Option (AVal × Heap × Nat × Nat) :=
  forceB (eqI x0 0) fun c4 =>
  bindO (cond c4 (
    some true) (
    forceB (eqI x0 1) fun c7 =>
    some c7)) fun c8 =>
  finM m0.h.length (tupA [(.b c8)]) m0

theorem g65_ok {ro : List ABlk} {O : Caller} {M : Means} (hM : M.Ok ⟨F, O⟩ ro) {x0 h r} (ho : O 65 [(.i .i64 x0)] h = none) (hr : g65 M ro x0 ⟨h, h.length, h.length⟩ = some r) : callX ⟨F, O⟩ ro 65 [(.i .i64 x0)] h = some r := by
  refine callX_of (F := ⟨F, O⟩) (fn := fn65) (g := g65 M ro x0) ho rfl rfl hr ?_
  clear ho
  clear hr
  intro m0 t0 ht hr
  have g0 : t0.get 0 = (.i .i64 x0) := ht 0
  clear ht
  unfold g65 at hr
  refine w_seq ?_
  refine w_ops ?_
  refine wo_step (v := (.b false)) (s_pure (p_mv rfl)) ?_
  refine wo_nil ?_
  refine nx_norm ?_
  refine w_seq ?_
  refine w_ops ?_
  refine wo_step (v := (.i .i64 x0)) (s_pure (p_mv g0)) ?_
  have hq := forceB_inv hr
  clear hr
  obtain ⟨c4, e4, hr⟩ := hq
  refine wo_step (v := (.b c4)) (s_pure (p_bin rfl rfl (b_eql.trans (cb e4)))) ?_
  refine wo_step (v := (.b c4)) (s_pure (p_mv rfl)) ?_
  have hq := bindO_inv hr
  clear hr
  obtain ⟨o, hr, hk⟩ := hq
  refine wo_join 3 (g65_J0 m0 o) ?_ ?_
  · clear hk
    have hq := cond_inv hr
    clear hr
    rcases hq with ⟨rfl, hr⟩ | ⟨rfl, hr⟩
    · refine wo_skip (v := (.b true)) rfl rfl ?_
      refine wo_skip (v := (.b true)) rfl rfl ?_
      refine wo_step (v := (.b true)) (s_pure (p_pickT rfl rfl)) ?_
      refine wo_nil ?_
      cases hr
      exact ⟨_, _, rfl, rfl, gl rfl⟩
    · refine wo_take (v := (.i .i64 x0)) rfl (s_pure (p_mv g0)) ?_
      have hq := forceB_inv hr
      clear hr
      obtain ⟨c7, e7, hr⟩ := hq
      refine wo_take (v := (.b c7)) rfl (s_pure (p_bin rfl rfl (b_eql.trans (cb e7)))) ?_
      refine wo_step (v := (.b c7)) (s_pure (p_pickF rfl rfl)) ?_
      refine wo_nil ?_
      cases hr
      exact ⟨_, _, rfl, rfl, gl rfl⟩
  · clear hr
    have hr := hk
    clear hk
    obtain ⟨c8, ho⟩ : ∃ z, z = o := ⟨_, rfl⟩
    subst ho
    rintro mm t_1 ⟨rfl, g8⟩
    refine wo_step (v := (.b c8)) (s_pure (p_mv g8)) ?_
    refine wo_nil ?_
    refine nx_norm ?_
    refine w_ret ?_
    exact qf ret_ok (rt rfl rn) hr

end Go.Proofs.Ytageakoepjkkbaa.T

/- Plain functions, and that the small machine answers as they do. -/
import Derived.Test.YtobmcofkcfifkaaVmP
import Derived.Test.YtobmcofkcfifkaaVmAE
open Go.Vm
set_option linter.unusedVariables false
namespace Go.Proofs.Ytobmcofkcfifkaa.T
open Go
/- dibber/dibberlaw09.SeedPairs -/
abbrev g7_J0 (x1 : Int) (x2 : Int) (x20 : Int) (x26 : Int) (m_2 : Mm) (o : Bool) (m1 : Mm) (t1 : Tr) : Prop :=
  match o with
  | c34 => m_2 = m1 ∧ t1.get 34 = (.b c34) ∧ t1.get 1 = (.i .i64 x1) ∧ t1.get 2 = (.i .i64 x2) ∧ t1.get 9 = (.i .i64 x20) ∧ t1.get 12 = (.i .i64 x26)
abbrev g7_J1 (x1 : Int) (x2 : Int) (m_2 : Mm) (o : Bool) (m1 : Mm) (t1 : Tr) : Prop :=
  match o with
  | c39 => m_2 = m1 ∧ t1.get 39 = (.b c39) ∧ t1.get 1 = (.i .i64 x1) ∧ t1.get 2 = (.i .i64 x2)
abbrev g7_J2 (x1 : Int) (x2 : Int) (m_4 : Mm) (o : Bool) (m1 : Mm) (t1 : Tr) : Prop :=
  match o with
  | c59 => m_4 = m1 ∧ t1.get 59 = (.b c59) ∧ t1.get 1 = (.i .i64 x1) ∧ t1.get 2 = (.i .i64 x2)
abbrev g7_J3 (x66 : Int) (x73 : Int) (m_6 : Mm) (o : Bool) (m1 : Mm) (t1 : Tr) : Prop :=
  match o with
  | c81 => m_6 = m1 ∧ t1.get 81 = (.b c81) ∧ t1.get 9 = (.i .i64 x66) ∧ t1.get 12 = (.i .i64 x73)
abbrev g7_J4 (m_6 : Mm) (o : Bool) (m1 : Mm) (t1 : Tr) : Prop :=
  match o with
  | c86 => m_6 = m1 ∧ t1.get 86 = (.b c86)
abbrev g7_J5  (o : Bool × Mm) (m1 : Mm) (t1 : Tr) : Prop :=
  match o with
  | (c89, m_7) => m_7 = m1 ∧ t1.get 89 = (.b c89)
def g7 (M : Means) (ro : List ABlk) (x0 : Int) (x1 : Int) (x2 : Int) (m0 : Mm) : Option (AVal × Heap × Nat × Nat) :=
  bindP (callM M.call m0 33 [(.i .i64 x0)]) fun v17 m_1 =>
  bindO (evP .e (.ext 0 (.c v17))) fun v18 =>
  asI .i64 v18 fun x18 =>
  bindO (evP .e (.ext 1 (.c v17))) fun v19 =>
  asI .i64 v19 fun x19 =>
  bindO (evP .e (.ext 2 (.c v17))) fun v20 =>
  asI .i64 v20 fun x20 =>
  bindP (callM M.call m_1 34 [(.i .i64 x0)]) fun v23 m_2 =>
  bindO (evP .e (.ext 0 (.c v23))) fun v24 =>
  asI .i64 v24 fun x24 =>
  bindO (evP .e (.ext 1 (.c v23))) fun v25 =>
  asI .i64 v25 fun x25 =>
  bindO (evP .e (.ext 2 (.c v23))) fun v26 =>
  asI .i64 v26 fun x26 =>
  forceB (!eqI x18 x24) fun c29 =>
  bindO (cond c29 (
    some true) (
    forceB (!eqI x19 x25) fun c33 =>
    some c33)) fun c34 =>
  bindO (cond c34 (
    some true) (
    forceB (!eqI x20 x26) fun c38 =>
    some c38)) fun c39 =>
  cond c39 (
    finM m0.h.length (tupA [(.b false)]) m_2) (
    bindP (callM M.call m_2 35 [(.i .i64 x1), (.i .i64 x2)]) fun v43 m_3 =>
    bindO (evP .e (.ext 0 (.c v43))) fun v44 =>
    asB v44 fun c44 =>
    bindO (evP .e (.ext 1 (.c v43))) fun v45 =>
    asI .i64 v45 fun x45 =>
    bindP (callM M.call m_3 36 [(.i .i64 x1), (.i .i64 x2)]) fun v49 m_4 =>
    bindO (evP .e (.ext 0 (.c v49))) fun v50 =>
    asB v50 fun c50 =>
    bindO (evP .e (.ext 1 (.c v49))) fun v51 =>
    asI .i64 v51 fun x51 =>
    forceB (!(c44 == c50)) fun c54 =>
    bindO (cond c54 (
      some true) (
      forceB (!eqI x45 x51) fun c58 =>
      some c58)) fun c59 =>
    cond c59 (
      finM m0.h.length (tupA [(.b false)]) m_4) (
      bindP (callM M.call m_4 37 [(.i .i64 x1), (.i .i64 x2)]) fun v63 m_5 =>
      bindO (evP .e (.ext 0 (.c v63))) fun v64 =>
      asI .i64 v64 fun x64 =>
      bindO (evP .e (.ext 1 (.c v63))) fun v65 =>
      asI .i64 v65 fun x65 =>
      bindO (evP .e (.ext 2 (.c v63))) fun v66 =>
      asI .i64 v66 fun x66 =>
      bindP (callM M.call m_5 38 [(.i .i64 x1), (.i .i64 x2)]) fun v70 m_6 =>
      bindO (evP .e (.ext 0 (.c v70))) fun v71 =>
      asI .i64 v71 fun x71 =>
      bindO (evP .e (.ext 1 (.c v70))) fun v72 =>
      asI .i64 v72 fun x72 =>
      bindO (evP .e (.ext 2 (.c v70))) fun v73 =>
      asI .i64 v73 fun x73 =>
      forceB (eqI x64 x71) fun c76 =>
      bindO (cond c76 (
        forceB (eqI x65 x72) fun c80 =>
        some c80) (
        some false)) fun c81 =>
      bindO (cond c81 (
        forceB (eqI x66 x73) fun c85 =>
        some c85) (
        some false)) fun c86 =>
      bindO (cond c86 (
        bindP (callM M.call m_6 18 []) fun v88 m_8 =>
        asB v88 fun c88 =>
        some (c88, m_8)) (
        some (false, m_6))) fun ⟨c89, m_7⟩ =>
      finM m0.h.length (tupA [(.b c89)]) m_7))

theorem g7_ok {ro : List ABlk} {O : Caller} {M : Means} (hM : M.Ok ⟨F, O⟩ ro) {x0 x1 x2 h r} (ho : O 7 [(.i .i64 x0), (.i .i64 x1), (.i .i64 x2)] h = none) (hr : g7 M ro x0 x1 x2 ⟨h, h.length, h.length⟩ = some r) : callX ⟨F, O⟩ ro 7 [(.i .i64 x0), (.i .i64 x1), (.i .i64 x2)] h = some r := by
  refine callX_of (F := ⟨F, O⟩) (fn := fn7) (g := g7 M ro x0 x1 x2) ho rfl rfl hr ?_
  clear ho
  clear hr
  intro m0 t0 ht hr
  have g0 : t0.get 0 = (.i .i64 x0) := ht 0
  have g1 : t0.get 1 = (.i .i64 x1) := ht 1
  have g2 : t0.get 2 = (.i .i64 x2) := ht 2
  clear ht
  unfold g7 at hr
  refine w_seq ?_
  refine w_ops ?_
  refine wo_step (v := (.b false)) (s_pure (p_mv rfl)) ?_
  refine wo_nil ?_
  refine nx_norm ?_
  refine w_seq ?_
  refine w_ops ?_
  refine wo_step (v := (.i .i64 x0)) (s_pure (p_mv g0)) ?_
  have hq := bindP_inv hr
  clear hr
  obtain ⟨v17, m_1, e17, hr⟩ := hq
  refine wo_step (v := v17) (s_call (mc rfl mn) (callM_le hM.call e17)) ?_
  refine wo_step (v := v17) (s_pure (p_mv rfl)) ?_
  have hq := bindO_inv hr
  clear hr
  obtain ⟨v18, e18, hr⟩ := hq
  have hq := asI_inv hr
  clear hr
  obtain ⟨x18, rfl, hr⟩ := hq
  refine wo_step (v := (.i .i64 x18)) (s_pure (o_ext rfl e18)) ?_
  have hq := bindO_inv hr
  clear hr
  obtain ⟨v19, e19, hr⟩ := hq
  have hq := asI_inv hr
  clear hr
  obtain ⟨x19, rfl, hr⟩ := hq
  refine wo_step (v := (.i .i64 x19)) (s_pure (o_ext rfl e19)) ?_
  have hq := bindO_inv hr
  clear hr
  obtain ⟨v20, e20, hr⟩ := hq
  have hq := asI_inv hr
  clear hr
  obtain ⟨x20, rfl, hr⟩ := hq
  refine wo_step (v := (.i .i64 x20)) (s_pure (o_ext rfl e20)) ?_
  refine wo_step (v := (.i .i64 x18)) (s_pure (p_mv rfl)) ?_
  refine wo_step (v := (.i .i64 x19)) (s_pure (p_mv rfl)) ?_
  refine wo_step (v := (.i .i64 x20)) (s_pure (p_mv rfl)) ?_
  refine wo_nil ?_
  refine nx_norm ?_
  refine w_seq ?_
  refine w_ops ?_
  refine wo_step (v := (.i .i64 x0)) (s_pure (p_mv g0)) ?_
  have hq := bindP_inv hr
  clear hr
  obtain ⟨v23, m_2, e23, hr⟩ := hq
  refine wo_step (v := v23) (s_call (mc rfl mn) (callM_le hM.call e23)) ?_
  refine wo_step (v := v23) (s_pure (p_mv rfl)) ?_
  have hq := bindO_inv hr
  clear hr
  obtain ⟨v24, e24, hr⟩ := hq
  have hq := asI_inv hr
  clear hr
  obtain ⟨x24, rfl, hr⟩ := hq
  refine wo_step (v := (.i .i64 x24)) (s_pure (o_ext rfl e24)) ?_
  have hq := bindO_inv hr
  clear hr
  obtain ⟨v25, e25, hr⟩ := hq
  have hq := asI_inv hr
  clear hr
  obtain ⟨x25, rfl, hr⟩ := hq
  refine wo_step (v := (.i .i64 x25)) (s_pure (o_ext rfl e25)) ?_
  have hq := bindO_inv hr
  clear hr
  obtain ⟨v26, e26, hr⟩ := hq
  have hq := asI_inv hr
  clear hr
  obtain ⟨x26, rfl, hr⟩ := hq
  refine wo_step (v := (.i .i64 x26)) (s_pure (o_ext rfl e26)) ?_
  refine wo_step (v := (.i .i64 x24)) (s_pure (p_mv rfl)) ?_
  refine wo_step (v := (.i .i64 x25)) (s_pure (p_mv rfl)) ?_
  refine wo_step (v := (.i .i64 x26)) (s_pure (p_mv rfl)) ?_
  refine wo_nil ?_
  refine nx_norm ?_
  refine w_seq ?_
  refine w_seq ?_
  refine w_ops ?_
  refine wo_step (v := (.i .i64 x18)) (s_pure (p_mv rfl)) ?_
  refine wo_step (v := (.i .i64 x24)) (s_pure (p_mv rfl)) ?_
  have hq := forceB_inv hr
  clear hr
  obtain ⟨c29, e29, hr⟩ := hq
  refine wo_step (v := (.b c29)) (s_pure (p_bin rfl rfl (b_neq.trans (cb e29)))) ?_
  refine wo_step (v := (.b c29)) (s_pure (p_mv rfl)) ?_
  have hq := bindO_inv hr
  clear hr
  obtain ⟨o, hr, hk⟩ := hq
  refine wo_join 4 (g7_J0 x1 x2 x20 x26 m_2 o) ?_ ?_
  · clear hk
    have hq := cond_inv hr
    clear hr
    rcases hq with ⟨rfl, hr⟩ | ⟨rfl, hr⟩
    · refine wo_skip (v := (.b true)) rfl rfl ?_
      refine wo_skip (v := (.b true)) rfl rfl ?_
      refine wo_skip (v := (.b true)) rfl rfl ?_
      refine wo_step (v := (.b true)) (s_pure (p_pickT rfl rfl)) ?_
      refine wo_nil ?_
      cases hr
      exact ⟨_, _, rfl, rfl, gl rfl, gl g1, gl g2, gl rfl, gl rfl⟩
    · refine wo_take (v := (.i .i64 x19)) rfl (s_pure (p_mv rfl)) ?_
      refine wo_take (v := (.i .i64 x25)) rfl (s_pure (p_mv rfl)) ?_
      have hq := forceB_inv hr
      clear hr
      obtain ⟨c33, e33, hr⟩ := hq
      refine wo_take (v := (.b c33)) rfl (s_pure (p_bin rfl rfl (b_neq.trans (cb e33)))) ?_
      refine wo_step (v := (.b c33)) (s_pure (p_pickF rfl rfl)) ?_
      refine wo_nil ?_
      cases hr
      exact ⟨_, _, rfl, rfl, gl rfl, gl g1, gl g2, gl rfl, gl rfl⟩
  · clear hr
    have hr := hk
    clear hk
    obtain ⟨c34, ho⟩ : ∃ z, z = o := ⟨_, rfl⟩
    subst ho
    rintro mm t_1 ⟨rfl, g34, g1, g2, g9, g12⟩
    refine wo_step (v := (.b c34)) (s_pure (p_mv g34)) ?_
    have hq := bindO_inv hr
    clear hr
    obtain ⟨o_1, hr, hk⟩ := hq
    refine wo_join 4 (g7_J1 x1 x2 m_2 o_1) ?_ ?_
    · clear hk
      have hq := cond_inv hr
      clear hr
      rcases hq with ⟨rfl, hr⟩ | ⟨rfl, hr⟩
      · refine wo_skip (v := (.b true)) rfl rfl ?_
        refine wo_skip (v := (.b true)) rfl rfl ?_
        refine wo_skip (v := (.b true)) rfl rfl ?_
        refine wo_step (v := (.b true)) (s_pure (p_pickT rfl rfl)) ?_
        refine wo_nil ?_
        cases hr
        exact ⟨_, _, rfl, rfl, gl rfl, gl g1, gl g2⟩
      · refine wo_take (v := (.i .i64 x20)) rfl (s_pure (p_mv g9)) ?_
        refine wo_take (v := (.i .i64 x26)) rfl (s_pure (p_mv g12)) ?_
        have hq := forceB_inv hr
        clear hr
        obtain ⟨c38, e38, hr⟩ := hq
        refine wo_take (v := (.b c38)) rfl (s_pure (p_bin rfl rfl (b_neq.trans (cb e38)))) ?_
        refine wo_step (v := (.b c38)) (s_pure (p_pickF rfl rfl)) ?_
        refine wo_nil ?_
        cases hr
        exact ⟨_, _, rfl, rfl, gl rfl, gl g1, gl g2⟩
    · clear hr
      have hr := hk
      clear hk
      obtain ⟨c39, ho⟩ : ∃ z, z = o_1 := ⟨_, rfl⟩
      subst ho
      rintro mm_1 t_2 ⟨rfl, g39, g1, g2⟩
      refine wo_nil ?_
      refine nx_norm ?_
      have hq := cond_inv hr
      clear hr
      rcases hq with ⟨rfl, hr⟩ | ⟨rfl, hr⟩
      · refine w_condT g39 ?_
        refine w_seq ?_
        refine w_ops ?_
        refine wo_step (v := (.b false)) (s_pure (p_mv rfl)) ?_
        refine wo_nil ?_
        refine nx_norm ?_
        refine w_ret ?_
        refine nx_ret ?_
        exact qf ret_ok (rt rfl rn) hr
      · refine w_condF g39 ?_
        refine w_skip ?_
        refine nx_norm ?_
        refine w_seq ?_
        refine w_ops ?_
        refine wo_step (v := (.i .i64 x1)) (s_pure (p_mv g1)) ?_
        refine wo_step (v := (.i .i64 x2)) (s_pure (p_mv g2)) ?_
        have hq := bindP_inv hr
        clear hr
        obtain ⟨v43, m_3, e43, hr⟩ := hq
        refine wo_step (v := v43) (s_call (mc rfl (mc rfl mn)) (callM_le hM.call e43)) ?_
        refine wo_step (v := v43) (s_pure (p_mv rfl)) ?_
        have hq := bindO_inv hr
        clear hr
        obtain ⟨v44, e44, hr⟩ := hq
        have hq := asB_inv hr
        clear hr
        obtain ⟨c44, rfl, hr⟩ := hq
        refine wo_step (v := (.b c44)) (s_pure (o_ext rfl e44)) ?_
        have hq := bindO_inv hr
        clear hr
        obtain ⟨v45, e45, hr⟩ := hq
        have hq := asI_inv hr
        clear hr
        obtain ⟨x45, rfl, hr⟩ := hq
        refine wo_step (v := (.i .i64 x45)) (s_pure (o_ext rfl e45)) ?_
        refine wo_step (v := (.b c44)) (s_pure (p_mv rfl)) ?_
        refine wo_step (v := (.i .i64 x45)) (s_pure (p_mv rfl)) ?_
        refine wo_nil ?_
        refine nx_norm ?_
        refine w_seq ?_
        refine w_ops ?_
        refine wo_step (v := (.i .i64 x1)) (s_pure (p_mv g1)) ?_
        refine wo_step (v := (.i .i64 x2)) (s_pure (p_mv g2)) ?_
        have hq := bindP_inv hr
        clear hr
        obtain ⟨v49, m_4, e49, hr⟩ := hq
        refine wo_step (v := v49) (s_call (mc rfl (mc rfl mn)) (callM_le hM.call e49)) ?_
        refine wo_step (v := v49) (s_pure (p_mv rfl)) ?_
        have hq := bindO_inv hr
        clear hr
        obtain ⟨v50, e50, hr⟩ := hq
        have hq := asB_inv hr
        clear hr
        obtain ⟨c50, rfl, hr⟩ := hq
        refine wo_step (v := (.b c50)) (s_pure (o_ext rfl e50)) ?_
        have hq := bindO_inv hr
        clear hr
        obtain ⟨v51, e51, hr⟩ := hq
        have hq := asI_inv hr
        clear hr
        obtain ⟨x51, rfl, hr⟩ := hq
        refine wo_step (v := (.i .i64 x51)) (s_pure (o_ext rfl e51)) ?_
        refine wo_step (v := (.b c50)) (s_pure (p_mv rfl)) ?_
        refine wo_step (v := (.i .i64 x51)) (s_pure (p_mv rfl)) ?_
        refine wo_nil ?_
        refine nx_norm ?_
        refine w_seq ?_
        refine w_seq ?_
        refine w_ops ?_
        refine wo_step (v := (.b c44)) (s_pure (p_mv rfl)) ?_
        refine wo_step (v := (.b c50)) (s_pure (p_mv rfl)) ?_
        have hq := forceB_inv hr
        clear hr
        obtain ⟨c54, e54, hr⟩ := hq
        refine wo_step (v := (.b c54)) (s_pure (Eq.trans (p_beq rfl rfl) (cb e54))) ?_
        refine wo_step (v := (.b c54)) (s_pure (p_mv rfl)) ?_
        have hq := bindO_inv hr
        clear hr
        obtain ⟨o_2, hr, hk⟩ := hq
        refine wo_join 4 (g7_J2 x1 x2 m_4 o_2) ?_ ?_
        · clear hk
          have hq := cond_inv hr
          clear hr
          rcases hq with ⟨rfl, hr⟩ | ⟨rfl, hr⟩
          · refine wo_skip (v := (.b true)) rfl rfl ?_
            refine wo_skip (v := (.b true)) rfl rfl ?_
            refine wo_skip (v := (.b true)) rfl rfl ?_
            refine wo_step (v := (.b true)) (s_pure (p_pickT rfl rfl)) ?_
            refine wo_nil ?_
            cases hr
            exact ⟨_, _, rfl, rfl, gl rfl, gl g1, gl g2⟩
          · refine wo_take (v := (.i .i64 x45)) rfl (s_pure (p_mv rfl)) ?_
            refine wo_take (v := (.i .i64 x51)) rfl (s_pure (p_mv rfl)) ?_
            have hq := forceB_inv hr
            clear hr
            obtain ⟨c58, e58, hr⟩ := hq
            refine wo_take (v := (.b c58)) rfl (s_pure (p_bin rfl rfl (b_neq.trans (cb e58)))) ?_
            refine wo_step (v := (.b c58)) (s_pure (p_pickF rfl rfl)) ?_
            refine wo_nil ?_
            cases hr
            exact ⟨_, _, rfl, rfl, gl rfl, gl g1, gl g2⟩
        · clear hr
          have hr := hk
          clear hk
          obtain ⟨c59, ho⟩ : ∃ z, z = o_2 := ⟨_, rfl⟩
          subst ho
          rintro mm_2 t_3 ⟨rfl, g59, g1, g2⟩
          refine wo_nil ?_
          refine nx_norm ?_
          have hq := cond_inv hr
          clear hr
          rcases hq with ⟨rfl, hr⟩ | ⟨rfl, hr⟩
          · refine w_condT g59 ?_
            refine w_seq ?_
            refine w_ops ?_
            refine wo_step (v := (.b false)) (s_pure (p_mv rfl)) ?_
            refine wo_nil ?_
            refine nx_norm ?_
            refine w_ret ?_
            refine nx_ret ?_
            exact qf ret_ok (rt rfl rn) hr
          · refine w_condF g59 ?_
            refine w_skip ?_
            refine nx_norm ?_
            refine w_seq ?_
            refine w_ops ?_
            refine wo_step (v := (.i .i64 x1)) (s_pure (p_mv g1)) ?_
            refine wo_step (v := (.i .i64 x2)) (s_pure (p_mv g2)) ?_
            have hq := bindP_inv hr
            clear hr
            obtain ⟨v63, m_5, e63, hr⟩ := hq
            refine wo_step (v := v63) (s_call (mc rfl (mc rfl mn)) (callM_le hM.call e63)) ?_
            refine wo_step (v := v63) (s_pure (p_mv rfl)) ?_
            have hq := bindO_inv hr
            clear hr
            obtain ⟨v64, e64, hr⟩ := hq
            have hq := asI_inv hr
            clear hr
            obtain ⟨x64, rfl, hr⟩ := hq
            refine wo_step (v := (.i .i64 x64)) (s_pure (o_ext rfl e64)) ?_
            have hq := bindO_inv hr
            clear hr
            obtain ⟨v65, e65, hr⟩ := hq
            have hq := asI_inv hr
            clear hr
            obtain ⟨x65, rfl, hr⟩ := hq
            refine wo_step (v := (.i .i64 x65)) (s_pure (o_ext rfl e65)) ?_
            have hq := bindO_inv hr
            clear hr
            obtain ⟨v66, e66, hr⟩ := hq
            have hq := asI_inv hr
            clear hr
            obtain ⟨x66, rfl, hr⟩ := hq
            refine wo_step (v := (.i .i64 x66)) (s_pure (o_ext rfl e66)) ?_
            refine wo_step (v := (.i .i64 x64)) (s_pure (p_mv rfl)) ?_
            refine wo_step (v := (.i .i64 x65)) (s_pure (p_mv rfl)) ?_
            refine wo_step (v := (.i .i64 x66)) (s_pure (p_mv rfl)) ?_
            refine wo_nil ?_
            refine nx_norm ?_
            refine w_seq ?_
            refine w_ops ?_
            refine wo_step (v := (.i .i64 x1)) (s_pure (p_mv g1)) ?_
            refine wo_step (v := (.i .i64 x2)) (s_pure (p_mv g2)) ?_
            have hq := bindP_inv hr
            clear hr
            obtain ⟨v70, m_6, e70, hr⟩ := hq
            refine wo_step (v := v70) (s_call (mc rfl (mc rfl mn)) (callM_le hM.call e70)) ?_
            refine wo_step (v := v70) (s_pure (p_mv rfl)) ?_
            have hq := bindO_inv hr
            clear hr
            obtain ⟨v71, e71, hr⟩ := hq
            have hq := asI_inv hr
            clear hr
            obtain ⟨x71, rfl, hr⟩ := hq
            refine wo_step (v := (.i .i64 x71)) (s_pure (o_ext rfl e71)) ?_
            have hq := bindO_inv hr
            clear hr
            obtain ⟨v72, e72, hr⟩ := hq
            have hq := asI_inv hr
            clear hr
            obtain ⟨x72, rfl, hr⟩ := hq
            refine wo_step (v := (.i .i64 x72)) (s_pure (o_ext rfl e72)) ?_
            have hq := bindO_inv hr
            clear hr
            obtain ⟨v73, e73, hr⟩ := hq
            have hq := asI_inv hr
            clear hr
            obtain ⟨x73, rfl, hr⟩ := hq
            refine wo_step (v := (.i .i64 x73)) (s_pure (o_ext rfl e73)) ?_
            refine wo_step (v := (.i .i64 x71)) (s_pure (p_mv rfl)) ?_
            refine wo_step (v := (.i .i64 x72)) (s_pure (p_mv rfl)) ?_
            refine wo_step (v := (.i .i64 x73)) (s_pure (p_mv rfl)) ?_
            refine wo_nil ?_
            refine nx_norm ?_
            refine w_seq ?_
            refine w_ops ?_
            refine wo_step (v := (.i .i64 x64)) (s_pure (p_mv rfl)) ?_
            refine wo_step (v := (.i .i64 x71)) (s_pure (p_mv rfl)) ?_
            have hq := forceB_inv hr
            clear hr
            obtain ⟨c76, e76, hr⟩ := hq
            refine wo_step (v := (.b c76)) (s_pure (p_bin rfl rfl (b_eql.trans (cb e76)))) ?_
            refine wo_step (v := (.b c76)) (s_pure (p_mv rfl)) ?_
            have hq := bindO_inv hr
            clear hr
            obtain ⟨o_3, hr, hk⟩ := hq
            refine wo_join 4 (g7_J3 x66 x73 m_6 o_3) ?_ ?_
            · clear hk
              have hq := cond_inv hr
              clear hr
              rcases hq with ⟨rfl, hr⟩ | ⟨rfl, hr⟩
              · refine wo_take (v := (.i .i64 x65)) rfl (s_pure (p_mv rfl)) ?_
                refine wo_take (v := (.i .i64 x72)) rfl (s_pure (p_mv rfl)) ?_
                have hq := forceB_inv hr
                clear hr
                obtain ⟨c80, e80, hr⟩ := hq
                refine wo_take (v := (.b c80)) rfl (s_pure (p_bin rfl rfl (b_eql.trans (cb e80)))) ?_
                refine wo_step (v := (.b c80)) (s_pure (p_pickT rfl rfl)) ?_
                refine wo_nil ?_
                cases hr
                exact ⟨_, _, rfl, rfl, gl rfl, gl rfl, gl rfl⟩
              · refine wo_skip (v := (.b false)) rfl rfl ?_
                refine wo_skip (v := (.b false)) rfl rfl ?_
                refine wo_skip (v := (.b false)) rfl rfl ?_
                refine wo_step (v := (.b false)) (s_pure (p_pickF rfl rfl)) ?_
                refine wo_nil ?_
                cases hr
                exact ⟨_, _, rfl, rfl, gl rfl, gl rfl, gl rfl⟩
            · clear hr
              have hr := hk
              clear hk
              obtain ⟨c81, ho⟩ : ∃ z, z = o_3 := ⟨_, rfl⟩
              subst ho
              rintro mm_3 t_4 ⟨rfl, g81, g9, g12⟩
              refine wo_step (v := (.b c81)) (s_pure (p_mv g81)) ?_
              have hq := bindO_inv hr
              clear hr
              obtain ⟨o_4, hr, hk⟩ := hq
              refine wo_join 4 (g7_J4 m_6 o_4) ?_ ?_
              · clear hk
                have hq := cond_inv hr
                clear hr
                rcases hq with ⟨rfl, hr⟩ | ⟨rfl, hr⟩
                · refine wo_take (v := (.i .i64 x66)) rfl (s_pure (p_mv g9)) ?_
                  refine wo_take (v := (.i .i64 x73)) rfl (s_pure (p_mv g12)) ?_
                  have hq := forceB_inv hr
                  clear hr
                  obtain ⟨c85, e85, hr⟩ := hq
                  refine wo_take (v := (.b c85)) rfl (s_pure (p_bin rfl rfl (b_eql.trans (cb e85)))) ?_
                  refine wo_step (v := (.b c85)) (s_pure (p_pickT rfl rfl)) ?_
                  refine wo_nil ?_
                  cases hr
                  exact ⟨_, _, rfl, rfl, gl rfl⟩
                · refine wo_skip (v := (.b false)) rfl rfl ?_
                  refine wo_skip (v := (.b false)) rfl rfl ?_
                  refine wo_skip (v := (.b false)) rfl rfl ?_
                  refine wo_step (v := (.b false)) (s_pure (p_pickF rfl rfl)) ?_
                  refine wo_nil ?_
                  cases hr
                  exact ⟨_, _, rfl, rfl, gl rfl⟩
              · clear hr
                have hr := hk
                clear hk
                obtain ⟨c86, ho⟩ : ∃ z, z = o_4 := ⟨_, rfl⟩
                subst ho
                rintro mm_4 t_5 ⟨rfl, g86⟩
                refine wo_step (v := (.b c86)) (s_pure (p_mv g86)) ?_
                have hq := bindO_inv hr
                clear hr
                obtain ⟨o_5, hr, hk⟩ := hq
                refine wo_join 2 (g7_J5  o_5) ?_ ?_
                · clear hk
                  have hq := cond_inv hr
                  clear hr
                  rcases hq with ⟨rfl, hr⟩ | ⟨rfl, hr⟩
                  · have hq := bindP_inv hr
                    clear hr
                    obtain ⟨v88, m_8, e88, hr⟩ := hq
                    have hq := asB_inv hr
                    clear hr
                    obtain ⟨c88, rfl, hr⟩ := hq
                    refine wo_take (v := (.b c88)) rfl (s_call mn (callM_le hM.call e88)) ?_
                    refine wo_step (v := (.b c88)) (s_pure (p_pickT rfl rfl)) ?_
                    refine wo_nil ?_
                    cases hr
                    exact ⟨_, _, rfl, rfl, gl rfl⟩
                  · refine wo_skip (v := (.b false)) rfl rfl ?_
                    refine wo_step (v := (.b false)) (s_pure (p_pickF rfl rfl)) ?_
                    refine wo_nil ?_
                    cases hr
                    exact ⟨_, _, rfl, rfl, gl rfl⟩
                · clear hr
                  have hr := hk
                  clear hk
                  obtain ⟨c89, m_7⟩ := o_5
                  rintro mm_5 t_6 ⟨rfl, g89⟩
                  refine wo_step (v := (.b c89)) (s_pure (p_mv g89)) ?_
                  refine wo_nil ?_
                  refine nx_norm ?_
                  refine w_ret ?_
                  exact qf ret_ok (rt rfl rn) hr

/- dibber/seed.Pair -/
abbrev g33_J0 (x0 : Int) (m0 : Mm) (o : Bool) (m1 : Mm) (t1 : Tr) : Prop :=
  match o with
  | c11 => m0 = m1 ∧ t1.get 11 = (.b c11) ∧ t1.get 0 = (.i .i64 x0)
def g33 (M : Means) (ro : List ABlk) (x0 : Int) (m0 : Mm) : Option (AVal × Heap × Nat × Nat) :=
  forceB (ltI x0 0) fun c7 =>
  bindO (cond c7 (
    some true) (
    forceB (ltI 288230376151711744 x0) fun c10 =>
    some c10)) fun c11 =>
  cond c11 (
    finM m0.h.length (tupA [(.i .i64 0), (.i .i64 0), (.i .i64 4)]) m0) (
    bindP (callM M.call m0 66 [(.i .i64 x0)]) fun v13 m_1 =>
    asI .i64 v13 fun x13 =>
    forceI (wr .i64 (x13 + x0)) fun x17 =>
    finM m0.h.length (tupA [(.i .i64 x13), (.i .i64 x17), (.i .i64 0)]) m_1)

theorem g33_ok {ro : List ABlk} {O : Caller} {M : Means} (hM : M.Ok ⟨F, O⟩ ro) {x0 h r} (ho : O 33 [(.i .i64 x0)] h = none) (hr : g33 M ro x0 ⟨h, h.length, h.length⟩ = some r) : callX ⟨F, O⟩ ro 33 [(.i .i64 x0)] h = some r := by
  refine callX_of (F := ⟨F, O⟩) (fn := fn33) (g := g33 M ro x0) ho rfl rfl hr ?_
  clear ho
  clear hr
  intro m0 t0 ht hr
  have g0 : t0.get 0 = (.i .i64 x0) := ht 0
  clear ht
  unfold g33 at hr
  refine w_seq ?_
  refine w_ops ?_
  refine wo_step (v := (.i .i64 0)) (s_pure (p_mv rfl)) ?_
  refine wo_step (v := (.i .i64 0)) (s_pure (p_mv rfl)) ?_
  refine wo_step (v := (.i .i64 0)) (s_pure (p_mv rfl)) ?_
  refine wo_nil ?_
  refine nx_norm ?_
  refine w_seq ?_
  refine w_seq ?_
  refine w_ops ?_
  refine wo_step (v := (.i .i64 x0)) (s_pure (p_mv g0)) ?_
  have hq := forceB_inv hr
  clear hr
  obtain ⟨c7, e7, hr⟩ := hq
  refine wo_step (v := (.b c7)) (s_pure (p_bin rfl rfl (b_lss.trans (cb e7)))) ?_
  refine wo_step (v := (.b c7)) (s_pure (p_mv rfl)) ?_
  have hq := bindO_inv hr
  clear hr
  obtain ⟨o, hr, hk⟩ := hq
  refine wo_join 3 (g33_J0 x0 m0 o) ?_ ?_
  · clear hk
    have hq := cond_inv hr
    clear hr
    rcases hq with ⟨rfl, hr⟩ | ⟨rfl, hr⟩
    · refine wo_skip (v := (.b true)) rfl rfl ?_
      refine wo_skip (v := (.b true)) rfl rfl ?_
      refine wo_step (v := (.b true)) (s_pure (p_pickT rfl rfl)) ?_
      refine wo_nil ?_
      cases hr
      exact ⟨_, _, rfl, rfl, gl rfl, gl g0⟩
    · refine wo_take (v := (.i .i64 x0)) rfl (s_pure (p_mv g0)) ?_
      have hq := forceB_inv hr
      clear hr
      obtain ⟨c10, e10, hr⟩ := hq
      refine wo_take (v := (.b c10)) rfl (s_pure (p_bin rfl rfl (b_gtr.trans (cb e10)))) ?_
      refine wo_step (v := (.b c10)) (s_pure (p_pickF rfl rfl)) ?_
      refine wo_nil ?_
      cases hr
      exact ⟨_, _, rfl, rfl, gl rfl, gl g0⟩
  · clear hr
    have hr := hk
    clear hk
    obtain ⟨c11, ho⟩ : ∃ z, z = o := ⟨_, rfl⟩
    subst ho
    rintro mm t_1 ⟨rfl, g11, g0⟩
    refine wo_nil ?_
    refine nx_norm ?_
    have hq := cond_inv hr
    clear hr
    rcases hq with ⟨rfl, hr⟩ | ⟨rfl, hr⟩
    · refine w_condT g11 ?_
      refine w_seq ?_
      refine w_ops ?_
      refine wo_step (v := (.i .i64 0)) (s_pure (p_mv rfl)) ?_
      refine wo_step (v := (.i .i64 0)) (s_pure (p_mv rfl)) ?_
      refine wo_step (v := (.i .i64 4)) (s_pure (p_mv rfl)) ?_
      refine wo_nil ?_
      refine nx_norm ?_
      refine w_ret ?_
      refine nx_ret ?_
      exact qf ret_ok (rt rfl (rt rfl (rt rfl rn))) hr
    · refine w_condF g11 ?_
      refine w_skip ?_
      refine nx_norm ?_
      refine w_seq ?_
      refine w_ops ?_
      refine wo_step (v := (.i .i64 x0)) (s_pure (p_mv g0)) ?_
      have hq := bindP_inv hr
      clear hr
      obtain ⟨v13, m_1, e13, hr⟩ := hq
      have hq := asI_inv hr
      clear hr
      obtain ⟨x13, rfl, hr⟩ := hq
      refine wo_step (v := (.i .i64 x13)) (s_call (mc rfl mn) (callM_le hM.call e13)) ?_
      refine wo_step (v := (.i .i64 x13)) (s_pure (p_mv rfl)) ?_
      refine wo_nil ?_
      refine nx_norm ?_
      refine w_seq ?_
      refine w_ops ?_
      refine wo_step (v := (.i .i64 x13)) (s_pure (p_mv rfl)) ?_
      refine wo_step (v := (.i .i64 x13)) (s_pure (p_mv rfl)) ?_
      refine wo_step (v := (.i .i64 x0)) (s_pure (p_mv g0)) ?_
      have hq := forceI_inv hr
      clear hr
      obtain ⟨x17, e17, hr⟩ := hq
      refine wo_step (v := (.i .i64 x17)) (s_pure (p_bin rfl rfl (b_add.trans (ci e17)))) ?_
      refine wo_step (v := (.i .i64 x13)) (s_pure (p_mv rfl)) ?_
      refine wo_step (v := (.i .i64 x17)) (s_pure (p_mv rfl)) ?_
      refine wo_step (v := (.i .i64 0)) (s_pure (p_mv rfl)) ?_
      refine wo_nil ?_
      refine nx_norm ?_
      refine w_ret ?_
      exact qf ret_ok (rt rfl (rt rfl (rt rfl rn))) hr

/- dibber/dibberref09.Pair -/
abbrev g34_J0 (x0 : Int) (m0 : Mm) (o : Bool) (m1 : Mm) (t1 : Tr) : Prop :=
  match o with
  | c11 => m0 = m1 ∧ t1.get 11 = (.b c11) ∧ t1.get 0 = (.i .i64 x0)
def g34 (M : Means) (ro : List ABlk) (x0 : Int) (m0 : Mm) : Option (AVal × Heap × Nat × Nat) :=
  forceB (ltI x0 0) fun c7 =>
  bindO (cond c7 (
    some true) (
    forceB (ltI 288230376151711744 x0) fun c10 =>
    some c10)) fun c11 =>
  cond c11 (
    finM m0.h.length (tupA [(.i .i64 0), (.i .i64 0), (.i .i64 4)]) m0) (
    bindP (callM M.call m0 67 [(.i .i64 x0)]) fun v13 m_1 =>
    asI .i64 v13 fun x13 =>
    forceI (wr .i64 (x13 + x0)) fun x17 =>
    finM m0.h.length (tupA [(.i .i64 x13), (.i .i64 x17), (.i .i64 0)]) m_1)

theorem g34_ok {ro : List ABlk} {O : Caller} {M : Means} (hM : M.Ok ⟨F, O⟩ ro) {x0 h r} (ho : O 34 [(.i .i64 x0)] h = none) (hr : g34 M ro x0 ⟨h, h.length, h.length⟩ = some r) : callX ⟨F, O⟩ ro 34 [(.i .i64 x0)] h = some r := by
  refine callX_of (F := ⟨F, O⟩) (fn := fn34) (g := g34 M ro x0) ho rfl rfl hr ?_
  clear ho
  clear hr
  intro m0 t0 ht hr
  have g0 : t0.get 0 = (.i .i64 x0) := ht 0
  clear ht
  unfold g34 at hr
  refine w_seq ?_
  refine w_ops ?_
  refine wo_step (v := (.i .i64 0)) (s_pure (p_mv rfl)) ?_
  refine wo_step (v := (.i .i64 0)) (s_pure (p_mv rfl)) ?_
  refine wo_step (v := (.i .i64 0)) (s_pure (p_mv rfl)) ?_
  refine wo_nil ?_
  refine nx_norm ?_
  refine w_seq ?_
  refine w_seq ?_
  refine w_ops ?_
  refine wo_step (v := (.i .i64 x0)) (s_pure (p_mv g0)) ?_
  have hq := forceB_inv hr
  clear hr
  obtain ⟨c7, e7, hr⟩ := hq
  refine wo_step (v := (.b c7)) (s_pure (p_bin rfl rfl (b_lss.trans (cb e7)))) ?_
  refine wo_step (v := (.b c7)) (s_pure (p_mv rfl)) ?_
  have hq := bindO_inv hr
  clear hr
  obtain ⟨o, hr, hk⟩ := hq
  refine wo_join 3 (g34_J0 x0 m0 o) ?_ ?_
  · clear hk
    have hq := cond_inv hr
    clear hr
    rcases hq with ⟨rfl, hr⟩ | ⟨rfl, hr⟩
    · refine wo_skip (v := (.b true)) rfl rfl ?_
      refine wo_skip (v := (.b true)) rfl rfl ?_
      refine wo_step (v := (.b true)) (s_pure (p_pickT rfl rfl)) ?_
      refine wo_nil ?_
      cases hr
      exact ⟨_, _, rfl, rfl, gl rfl, gl g0⟩
    · refine wo_take (v := (.i .i64 x0)) rfl (s_pure (p_mv g0)) ?_
      have hq := forceB_inv hr
      clear hr
      obtain ⟨c10, e10, hr⟩ := hq
      refine wo_take (v := (.b c10)) rfl (s_pure (p_bin rfl rfl (b_gtr.trans (cb e10)))) ?_
      refine wo_step (v := (.b c10)) (s_pure (p_pickF rfl rfl)) ?_
      refine wo_nil ?_
      cases hr
      exact ⟨_, _, rfl, rfl, gl rfl, gl g0⟩
  · clear hr
    have hr := hk
    clear hk
    obtain ⟨c11, ho⟩ : ∃ z, z = o := ⟨_, rfl⟩
    subst ho
    rintro mm t_1 ⟨rfl, g11, g0⟩
    refine wo_nil ?_
    refine nx_norm ?_
    have hq := cond_inv hr
    clear hr
    rcases hq with ⟨rfl, hr⟩ | ⟨rfl, hr⟩
    · refine w_condT g11 ?_
      refine w_seq ?_
      refine w_ops ?_
      refine wo_step (v := (.i .i64 0)) (s_pure (p_mv rfl)) ?_
      refine wo_step (v := (.i .i64 0)) (s_pure (p_mv rfl)) ?_
      refine wo_step (v := (.i .i64 4)) (s_pure (p_mv rfl)) ?_
      refine wo_nil ?_
      refine nx_norm ?_
      refine w_ret ?_
      refine nx_ret ?_
      exact qf ret_ok (rt rfl (rt rfl (rt rfl rn))) hr
    · refine w_condF g11 ?_
      refine w_skip ?_
      refine nx_norm ?_
      refine w_seq ?_
      refine w_ops ?_
      refine wo_step (v := (.i .i64 x0)) (s_pure (p_mv g0)) ?_
      have hq := bindP_inv hr
      clear hr
      obtain ⟨v13, m_1, e13, hr⟩ := hq
      have hq := asI_inv hr
      clear hr
      obtain ⟨x13, rfl, hr⟩ := hq
      refine wo_step (v := (.i .i64 x13)) (s_call (mc rfl mn) (callM_le hM.call e13)) ?_
      refine wo_step (v := (.i .i64 x13)) (s_pure (p_mv rfl)) ?_
      refine wo_nil ?_
      refine nx_norm ?_
      refine w_seq ?_
      refine w_ops ?_
      refine wo_step (v := (.i .i64 x13)) (s_pure (p_mv rfl)) ?_
      refine wo_step (v := (.i .i64 x13)) (s_pure (p_mv rfl)) ?_
      refine wo_step (v := (.i .i64 x0)) (s_pure (p_mv g0)) ?_
      have hq := forceI_inv hr
      clear hr
      obtain ⟨x17, e17, hr⟩ := hq
      refine wo_step (v := (.i .i64 x17)) (s_pure (p_bin rfl rfl (b_add.trans (ci e17)))) ?_
      refine wo_step (v := (.i .i64 x13)) (s_pure (p_mv rfl)) ?_
      refine wo_step (v := (.i .i64 x17)) (s_pure (p_mv rfl)) ?_
      refine wo_step (v := (.i .i64 0)) (s_pure (p_mv rfl)) ?_
      refine wo_nil ?_
      refine nx_norm ?_
      refine w_ret ?_
      exact qf ret_ok (rt rfl (rt rfl (rt rfl rn))) hr

/- dibber/seed.Lost -/

def g35 (M : Means) (ro : List ABlk) (x0 : Int) (x1 : Int) (m0 : Mm) : Option (AVal × Heap × Nat × Nat) :=
  bindP (stepM ro m0 (.bsl 3 1 [(AVal.i IntKind.i64 0)] 2 [((0, 1), .c (.i .i64 x0)), ((1, 1), .c (.i .i64 x1))])) fun v8 m_1 =>
  bindP (callM M.call m_1 51 [v8]) fun v9 m_2 =>
  asB v9 fun c9 =>
  forceB (!c9) fun c10 =>
  cond c10 (
    finM m0.h.length (tupA [(.b false), (.i .i64 4)]) m_2) (
    bindP (callM M.call m_2 68 [(.i .i64 x0)]) fun v12 m_3 =>
    asI .i64 v12 fun x12 =>
    forceB (eqI x12 x1) fun c14 =>
    finM m0.h.length (tupA [(.b c14), (.i .i64 0)]) m_3)

theorem g35_ok {ro : List ABlk} {O : Caller} {M : Means} (hM : M.Ok ⟨F, O⟩ ro) {x0 x1 h r} (ho : O 35 [(.i .i64 x0), (.i .i64 x1)] h = none) (hr : g35 M ro x0 x1 ⟨h, h.length, h.length⟩ = some r) : callX ⟨F, O⟩ ro 35 [(.i .i64 x0), (.i .i64 x1)] h = some r := by
  refine callX_of (F := ⟨F, O⟩) (fn := fn35) (g := g35 M ro x0 x1) ho rfl rfl hr ?_
  clear ho
  clear hr
  intro m0 t0 ht hr
  have g0 : t0.get 0 = (.i .i64 x0) := ht 0
  have g1 : t0.get 1 = (.i .i64 x1) := ht 1
  clear ht
  unfold g35 at hr
  refine w_seq ?_
  refine w_ops ?_
  refine wo_step (v := (.b false)) (s_pure (p_mv rfl)) ?_
  refine wo_step (v := (.i .i64 0)) (s_pure (p_mv rfl)) ?_
  refine wo_nil ?_
  refine nx_norm ?_
  refine w_seq ?_
  refine w_seq ?_
  refine w_ops ?_
  refine wo_step (v := (.i .i64 x0)) (s_pure (p_mv g0)) ?_
  refine wo_step (v := (.i .i64 x1)) (s_pure (p_mv g1)) ?_
  have hq := bindP_inv hr
  clear hr
  obtain ⟨v8, m_1, e8, hr⟩ := hq
  refine wo_step (v := v8) (s_bsl (qc rfl (qc rfl qn)) e8) ?_
  have hq := bindP_inv hr
  clear hr
  obtain ⟨v9, m_2, e9, hr⟩ := hq
  have hq := asB_inv hr
  clear hr
  obtain ⟨c9, rfl, hr⟩ := hq
  refine wo_step (v := (.b c9)) (s_call (mc rfl mn) (callM_le hM.call e9)) ?_
  have hq := forceB_inv hr
  clear hr
  obtain ⟨c10, e10, hr⟩ := hq
  refine wo_step (v := (.b c10)) (s_pure ((p_not rfl).trans (cb e10))) ?_
  refine wo_nil ?_
  refine nx_norm ?_
  have hq := cond_inv hr
  clear hr
  rcases hq with ⟨rfl, hr⟩ | ⟨rfl, hr⟩
  · refine w_condT rfl ?_
    refine w_seq ?_
    refine w_ops ?_
    refine wo_step (v := (.b false)) (s_pure (p_mv rfl)) ?_
    refine wo_step (v := (.i .i64 4)) (s_pure (p_mv rfl)) ?_
    refine wo_nil ?_
    refine nx_norm ?_
    refine w_ret ?_
    refine nx_ret ?_
    exact qf ret_ok (rt rfl (rt rfl rn)) hr
  · refine w_condF rfl ?_
    refine w_skip ?_
    refine nx_norm ?_
    refine w_seq ?_
    refine w_ops ?_
    refine wo_step (v := (.i .i64 x0)) (s_pure (p_mv g0)) ?_
    have hq := bindP_inv hr
    clear hr
    obtain ⟨v12, m_3, e12, hr⟩ := hq
    have hq := asI_inv hr
    clear hr
    obtain ⟨x12, rfl, hr⟩ := hq
    refine wo_step (v := (.i .i64 x12)) (s_call (mc rfl mn) (callM_le hM.call e12)) ?_
    refine wo_step (v := (.i .i64 x1)) (s_pure (p_mv g1)) ?_
    have hq := forceB_inv hr
    clear hr
    obtain ⟨c14, e14, hr⟩ := hq
    refine wo_step (v := (.b c14)) (s_pure (p_bin rfl rfl (b_eql.trans (cb e14)))) ?_
    refine wo_step (v := (.b c14)) (s_pure (p_mv rfl)) ?_
    refine wo_step (v := (.i .i64 0)) (s_pure (p_mv rfl)) ?_
    refine wo_nil ?_
    refine nx_norm ?_
    refine w_ret ?_
    exact qf ret_ok (rt rfl (rt rfl rn)) hr

/- dibber/dibberref09.Lost -/
abbrev g36_J0 (x0 : Int) (x1 : Int) (o : Bool × Mm) (m1 : Mm) (t1 : Tr) : Prop :=
  match o with
  | (c13, m_2) => m_2 = m1 ∧ t1.get 13 = (.b c13) ∧ t1.get 0 = (.i .i64 x0) ∧ t1.get 1 = (.i .i64 x1)
def g36 (M : Means) (ro : List ABlk) (x0 : Int) (x1 : Int) (m0 : Mm) : Option (AVal × Heap × Nat × Nat) :=
  bindP (callM M.call m0 53 [(.i .i64 x0)]) fun v7 m_1 =>
  asB v7 fun c7 =>
  forceB (!c7) fun c8 =>
  bindO (cond c8 (
    some (true, m_1)) (
    bindP (callM M.call m_1 53 [(.i .i64 x1)]) fun v11 m_3 =>
    asB v11 fun c11 =>
    forceB (!c11) fun c12 =>
    some (c12, m_3))) fun ⟨c13, m_2⟩ =>
  cond c13 (
    finM m0.h.length (tupA [(.b false), (.i .i64 4)]) m_2) (
    bindP (callM M.call m_2 69 [(.i .i64 x0), (.i .i64 x1)]) fun v16 m_4 =>
    asB v16 fun c16 =>
    finM m0.h.length (tupA [(.b c16), (.i .i64 0)]) m_4)

theorem g36_ok {ro : List ABlk} {O : Caller} {M : Means} (hM : M.Ok ⟨F, O⟩ ro) {x0 x1 h r} (ho : O 36 [(.i .i64 x0), (.i .i64 x1)] h = none) (hr : g36 M ro x0 x1 ⟨h, h.length, h.length⟩ = some r) : callX ⟨F, O⟩ ro 36 [(.i .i64 x0), (.i .i64 x1)] h = some r := by
  refine callX_of (F := ⟨F, O⟩) (fn := fn36) (g := g36 M ro x0 x1) ho rfl rfl hr ?_
  clear ho
  clear hr
  intro m0 t0 ht hr
  have g0 : t0.get 0 = (.i .i64 x0) := ht 0
  have g1 : t0.get 1 = (.i .i64 x1) := ht 1
  clear ht
  unfold g36 at hr
  refine w_seq ?_
  refine w_ops ?_
  refine wo_step (v := (.b false)) (s_pure (p_mv rfl)) ?_
  refine wo_step (v := (.i .i64 0)) (s_pure (p_mv rfl)) ?_
  refine wo_nil ?_
  refine nx_norm ?_
  refine w_seq ?_
  refine w_seq ?_
  refine w_ops ?_
  refine wo_step (v := (.i .i64 x0)) (s_pure (p_mv g0)) ?_
  have hq := bindP_inv hr
  clear hr
  obtain ⟨v7, m_1, e7, hr⟩ := hq
  have hq := asB_inv hr
  clear hr
  obtain ⟨c7, rfl, hr⟩ := hq
  refine wo_step (v := (.b c7)) (s_call (mc rfl mn) (callM_le hM.call e7)) ?_
  have hq := forceB_inv hr
  clear hr
  obtain ⟨c8, e8, hr⟩ := hq
  refine wo_step (v := (.b c8)) (s_pure ((p_not rfl).trans (cb e8))) ?_
  refine wo_step (v := (.b c8)) (s_pure (p_mv rfl)) ?_
  have hq := bindO_inv hr
  clear hr
  obtain ⟨o, hr, hk⟩ := hq
  refine wo_join 4 (g36_J0 x0 x1 o) ?_ ?_
  · clear hk
    have hq := cond_inv hr
    clear hr
    rcases hq with ⟨rfl, hr⟩ | ⟨rfl, hr⟩
    · refine wo_skip (v := (.b true)) rfl rfl ?_
      refine wo_skip (v := (.b true)) rfl rfl ?_
      refine wo_skip (v := (.b true)) rfl rfl ?_
      refine wo_step (v := (.b true)) (s_pure (p_pickT rfl rfl)) ?_
      refine wo_nil ?_
      cases hr
      exact ⟨_, _, rfl, rfl, gl rfl, gl g0, gl g1⟩
    · refine wo_take (v := (.i .i64 x1)) rfl (s_pure (p_mv g1)) ?_
      have hq := bindP_inv hr
      clear hr
      obtain ⟨v11, m_3, e11, hr⟩ := hq
      have hq := asB_inv hr
      clear hr
      obtain ⟨c11, rfl, hr⟩ := hq
      refine wo_take (v := (.b c11)) rfl (s_call (mc rfl mn) (callM_le hM.call e11)) ?_
      have hq := forceB_inv hr
      clear hr
      obtain ⟨c12, e12, hr⟩ := hq
      refine wo_take (v := (.b c12)) rfl (s_pure ((p_not rfl).trans (cb e12))) ?_
      refine wo_step (v := (.b c12)) (s_pure (p_pickF rfl rfl)) ?_
      refine wo_nil ?_
      cases hr
      exact ⟨_, _, rfl, rfl, gl rfl, gl g0, gl g1⟩
  · clear hr
    have hr := hk
    clear hk
    obtain ⟨c13, m_2⟩ := o
    rintro mm t_1 ⟨rfl, g13, g0, g1⟩
    refine wo_nil ?_
    refine nx_norm ?_
    have hq := cond_inv hr
    clear hr
    rcases hq with ⟨rfl, hr⟩ | ⟨rfl, hr⟩
    · refine w_condT g13 ?_
      refine w_seq ?_
      refine w_ops ?_
      refine wo_step (v := (.b false)) (s_pure (p_mv rfl)) ?_
      refine wo_step (v := (.i .i64 4)) (s_pure (p_mv rfl)) ?_
      refine wo_nil ?_
      refine nx_norm ?_
      refine w_ret ?_
      refine nx_ret ?_
      exact qf ret_ok (rt rfl (rt rfl rn)) hr
    · refine w_condF g13 ?_
      refine w_skip ?_
      refine nx_norm ?_
      refine w_seq ?_
      refine w_ops ?_
      refine wo_step (v := (.i .i64 x0)) (s_pure (p_mv g0)) ?_
      refine wo_step (v := (.i .i64 x1)) (s_pure (p_mv g1)) ?_
      have hq := bindP_inv hr
      clear hr
      obtain ⟨v16, m_4, e16, hr⟩ := hq
      have hq := asB_inv hr
      clear hr
      obtain ⟨c16, rfl, hr⟩ := hq
      refine wo_step (v := (.b c16)) (s_call (mc rfl (mc rfl mn)) (callM_le hM.call e16)) ?_
      refine wo_step (v := (.b c16)) (s_pure (p_mv rfl)) ?_
      refine wo_step (v := (.i .i64 0)) (s_pure (p_mv rfl)) ?_
      refine wo_nil ?_
      refine nx_norm ?_
      refine w_ret ?_
      exact qf ret_ok (rt rfl (rt rfl rn)) hr

/- dibber/seed.Move -/
abbrev g37_J0 (x29 : Int) (x41 : Int) (m_7 : Mm) (o : Bool) (m1 : Mm) (t1 : Tr) : Prop :=
  match o with
  | c52 => m_7 = m1 ∧ t1.get 52 = (.b c52) ∧ t1.get 7 = (.i .i64 x29) ∧ t1.get 8 = (.i .i64 x41)
abbrev g37_J1 (x29 : Int) (x41 : Int) (m_7 : Mm) (o : Bool) (m1 : Mm) (t1 : Tr) : Prop :=
  match o with
  | c52_1 => m_7 = m1 ∧ t1.get 52 = (.b c52_1) ∧ t1.get 7 = (.i .i64 x29) ∧ t1.get 8 = (.i .i64 x41)
def g37 (M : Means) (ro : List ABlk) (x0 : Int) (x1 : Int) (m0 : Mm) : Option (AVal × Heap × Nat × Nat) :=
  bindP (stepM ro m0 (.bsl 3 1 [(AVal.i IntKind.i64 0)] 2 [((0, 1), .c (.i .i64 x0)), ((1, 1), .c (.i .i64 x1))])) fun v11 m_1 =>
  bindP (callM M.call m_1 51 [v11]) fun v12 m_2 =>
  asB v12 fun c12 =>
  forceB (!c12) fun c13 =>
  cond c13 (
    finM m0.h.length (tupA [(.i .i64 0), (.i .i64 0), (.i .i64 4)]) m_2) (
    bindP (callM M.call m_2 68 [(.i .i64 x0)]) fun v15 m_3 =>
    asI .i64 v15 fun x15 =>
    forceB (eqI x15 x1) fun c17 =>
    cond c17 (
      finM m0.h.length (tupA [(.i .i64 0), (.i .i64 0), (.i .i64 10)]) m_3) (
      bindP (callM M.call m_3 68 [(.i .i64 x0)]) fun v19 m_4 =>
      asI .i64 v19 fun x19 =>
      forceB (ltI x19 x1) fun c21 =>
      cond c21 (
        bindP (callM M.call m_4 68 [(.i .i64 x0)]) fun v24 m_5 =>
        asI .i64 v24 fun x24 =>
        forceI (wr .i64 (x1 - x24)) fun x25 =>
        finM m0.h.length (tupA [(.i .i64 0), (.i .i64 x25), (.i .i64 0)]) m_5) (
        bindP (callM M.call m_4 68 [(.i .i64 x1)]) fun v28 m_6 =>
        asI .i64 v28 fun x28 =>
        forceI (wr .i64 (x0 - x28)) fun x29 =>
        forceI (mxV false x0 x1) fun x32 =>
        forceI (mxV true x0 x1) fun x35 =>
        forceI (mxV false x0 x1) fun x38 =>
        forceI (wr .i64 (x35 - x38)) fun x39 =>
        bindP (callM M.call m_6 66 [(.i .i64 x39)]) fun v40 m_7 =>
        asI .i64 v40 fun x40 =>
        forceI (wr .i64 (x32 - x40)) fun x41 =>
        forceB (ltI 0 x41) fun c43 =>
        bindO (cond c43 (
          forceB (ltI x29 0) fun c46 =>
          bindO (cond c46 (
            some true) (
            forceB (ltI x41 x29) fun c50 =>
            some c50)) fun c52_1 =>
          some c52_1) (
          some false)) fun c52 =>
        cond c52 (
          finM m0.h.length (tupA [(.i .i64 x41), (.i .i64 x41), (.i .i64 0)]) m_7) (
          finM m0.h.length (tupA [(.i .i64 x29), (.i .i64 0), (.i .i64 0)]) m_7))))

theorem g37_ok {ro : List ABlk} {O : Caller} {M : Means} (hM : M.Ok ⟨F, O⟩ ro) {x0 x1 h r} (ho : O 37 [(.i .i64 x0), (.i .i64 x1)] h = none) (hr : g37 M ro x0 x1 ⟨h, h.length, h.length⟩ = some r) : callX ⟨F, O⟩ ro 37 [(.i .i64 x0), (.i .i64 x1)] h = some r := by
  refine callX_of (F := ⟨F, O⟩) (fn := fn37) (g := g37 M ro x0 x1) ho rfl rfl hr ?_
  clear ho
  clear hr
  intro m0 t0 ht hr
  have g0 : t0.get 0 = (.i .i64 x0) := ht 0
  have g1 : t0.get 1 = (.i .i64 x1) := ht 1
  clear ht
  unfold g37 at hr
  refine w_seq ?_
  refine w_ops ?_
  refine wo_step (v := (.i .i64 0)) (s_pure (p_mv rfl)) ?_
  refine wo_step (v := (.i .i64 0)) (s_pure (p_mv rfl)) ?_
  refine wo_step (v := (.i .i64 0)) (s_pure (p_mv rfl)) ?_
  refine wo_nil ?_
  refine nx_norm ?_
  refine w_seq ?_
  refine w_seq ?_
  refine w_ops ?_
  refine wo_step (v := (.i .i64 x0)) (s_pure (p_mv g0)) ?_
  refine wo_step (v := (.i .i64 x1)) (s_pure (p_mv g1)) ?_
  have hq := bindP_inv hr
  clear hr
  obtain ⟨v11, m_1, e11, hr⟩ := hq
  refine wo_step (v := v11) (s_bsl (qc rfl (qc rfl qn)) e11) ?_
  have hq := bindP_inv hr
  clear hr
  obtain ⟨v12, m_2, e12, hr⟩ := hq
  have hq := asB_inv hr
  clear hr
  obtain ⟨c12, rfl, hr⟩ := hq
  refine wo_step (v := (.b c12)) (s_call (mc rfl mn) (callM_le hM.call e12)) ?_
  have hq := forceB_inv hr
  clear hr
  obtain ⟨c13, e13, hr⟩ := hq
  refine wo_step (v := (.b c13)) (s_pure ((p_not rfl).trans (cb e13))) ?_
  refine wo_nil ?_
  refine nx_norm ?_
  have hq := cond_inv hr
  clear hr
  rcases hq with ⟨rfl, hr⟩ | ⟨rfl, hr⟩
  · refine w_condT rfl ?_
    refine w_seq ?_
    refine w_ops ?_
    refine wo_step (v := (.i .i64 0)) (s_pure (p_mv rfl)) ?_
    refine wo_step (v := (.i .i64 0)) (s_pure (p_mv rfl)) ?_
    refine wo_step (v := (.i .i64 4)) (s_pure (p_mv rfl)) ?_
    refine wo_nil ?_
    refine nx_norm ?_
    refine w_ret ?_
    refine nx_ret ?_
    exact qf ret_ok (rt rfl (rt rfl (rt rfl rn))) hr
  · refine w_condF rfl ?_
    refine w_skip ?_
    refine nx_norm ?_
    refine w_seq ?_
    refine w_seq ?_
    refine w_ops ?_
    refine wo_step (v := (.i .i64 x0)) (s_pure (p_mv g0)) ?_
    have hq := bindP_inv hr
    clear hr
    obtain ⟨v15, m_3, e15, hr⟩ := hq
    have hq := asI_inv hr
    clear hr
    obtain ⟨x15, rfl, hr⟩ := hq
    refine wo_step (v := (.i .i64 x15)) (s_call (mc rfl mn) (callM_le hM.call e15)) ?_
    refine wo_step (v := (.i .i64 x1)) (s_pure (p_mv g1)) ?_
    have hq := forceB_inv hr
    clear hr
    obtain ⟨c17, e17, hr⟩ := hq
    refine wo_step (v := (.b c17)) (s_pure (p_bin rfl rfl (b_eql.trans (cb e17)))) ?_
    refine wo_nil ?_
    refine nx_norm ?_
    have hq := cond_inv hr
    clear hr
    rcases hq with ⟨rfl, hr⟩ | ⟨rfl, hr⟩
    · refine w_condT rfl ?_
      refine w_seq ?_
      refine w_ops ?_
      refine wo_step (v := (.i .i64 0)) (s_pure (p_mv rfl)) ?_
      refine wo_step (v := (.i .i64 0)) (s_pure (p_mv rfl)) ?_
      refine wo_step (v := (.i .i64 10)) (s_pure (p_mv rfl)) ?_
      refine wo_nil ?_
      refine nx_norm ?_
      refine w_ret ?_
      refine nx_ret ?_
      exact qf ret_ok (rt rfl (rt rfl (rt rfl rn))) hr
    · refine w_condF rfl ?_
      refine w_skip ?_
      refine nx_norm ?_
      refine w_seq ?_
      refine w_seq ?_
      refine w_ops ?_
      refine wo_step (v := (.i .i64 x0)) (s_pure (p_mv g0)) ?_
      have hq := bindP_inv hr
      clear hr
      obtain ⟨v19, m_4, e19, hr⟩ := hq
      have hq := asI_inv hr
      clear hr
      obtain ⟨x19, rfl, hr⟩ := hq
      refine wo_step (v := (.i .i64 x19)) (s_call (mc rfl mn) (callM_le hM.call e19)) ?_
      refine wo_step (v := (.i .i64 x1)) (s_pure (p_mv g1)) ?_
      have hq := forceB_inv hr
      clear hr
      obtain ⟨c21, e21, hr⟩ := hq
      refine wo_step (v := (.b c21)) (s_pure (p_bin rfl rfl (b_lss.trans (cb e21)))) ?_
      refine wo_nil ?_
      refine nx_norm ?_
      have hq := cond_inv hr
      clear hr
      rcases hq with ⟨rfl, hr⟩ | ⟨rfl, hr⟩
      · refine w_condT rfl ?_
        refine w_seq ?_
        refine w_ops ?_
        refine wo_step (v := (.i .i64 x1)) (s_pure (p_mv g1)) ?_
        refine wo_step (v := (.i .i64 x0)) (s_pure (p_mv g0)) ?_
        have hq := bindP_inv hr
        clear hr
        obtain ⟨v24, m_5, e24, hr⟩ := hq
        have hq := asI_inv hr
        clear hr
        obtain ⟨x24, rfl, hr⟩ := hq
        refine wo_step (v := (.i .i64 x24)) (s_call (mc rfl mn) (callM_le hM.call e24)) ?_
        have hq := forceI_inv hr
        clear hr
        obtain ⟨x25, e25, hr⟩ := hq
        refine wo_step (v := (.i .i64 x25)) (s_pure (p_bin rfl rfl (b_sub.trans (ci e25)))) ?_
        refine wo_step (v := (.i .i64 0)) (s_pure (p_mv rfl)) ?_
        refine wo_step (v := (.i .i64 x25)) (s_pure (p_mv rfl)) ?_
        refine wo_step (v := (.i .i64 0)) (s_pure (p_mv rfl)) ?_
        refine wo_nil ?_
        refine nx_norm ?_
        refine w_ret ?_
        refine nx_ret ?_
        exact qf ret_ok (rt rfl (rt rfl (rt rfl rn))) hr
      · refine w_condF rfl ?_
        refine w_skip ?_
        refine nx_norm ?_
        refine w_seq ?_
        refine w_ops ?_
        refine wo_step (v := (.i .i64 x0)) (s_pure (p_mv g0)) ?_
        refine wo_step (v := (.i .i64 x1)) (s_pure (p_mv g1)) ?_
        have hq := bindP_inv hr
        clear hr
        obtain ⟨v28, m_6, e28, hr⟩ := hq
        have hq := asI_inv hr
        clear hr
        obtain ⟨x28, rfl, hr⟩ := hq
        refine wo_step (v := (.i .i64 x28)) (s_call (mc rfl mn) (callM_le hM.call e28)) ?_
        have hq := forceI_inv hr
        clear hr
        obtain ⟨x29, e29, hr⟩ := hq
        refine wo_step (v := (.i .i64 x29)) (s_pure (p_bin rfl rfl (b_sub.trans (ci e29)))) ?_
        refine wo_step (v := (.i .i64 x29)) (s_pure (p_mv rfl)) ?_
        refine wo_nil ?_
        refine nx_norm ?_
        refine w_seq ?_
        refine w_ops ?_
        refine wo_step (v := (.i .i64 x0)) (s_pure (p_mv g0)) ?_
        refine wo_step (v := (.i .i64 x1)) (s_pure (p_mv g1)) ?_
        have hq := forceI_inv hr
        clear hr
        obtain ⟨x32, e32, hr⟩ := hq
        refine wo_step (v := (.i .i64 x32)) (s_pure ((p_mx rfl rfl).trans (ci e32))) ?_
        refine wo_step (v := (.i .i64 x0)) (s_pure (p_mv g0)) ?_
        refine wo_step (v := (.i .i64 x1)) (s_pure (p_mv g1)) ?_
        have hq := forceI_inv hr
        clear hr
        obtain ⟨x35, e35, hr⟩ := hq
        refine wo_step (v := (.i .i64 x35)) (s_pure ((p_mx rfl rfl).trans (ci e35))) ?_
        refine wo_step (v := (.i .i64 x0)) (s_pure (p_mv g0)) ?_
        refine wo_step (v := (.i .i64 x1)) (s_pure (p_mv g1)) ?_
        have hq := forceI_inv hr
        clear hr
        obtain ⟨x38, e38, hr⟩ := hq
        refine wo_step (v := (.i .i64 x38)) (s_pure ((p_mx rfl rfl).trans (ci e38))) ?_
        have hq := forceI_inv hr
        clear hr
        obtain ⟨x39, e39, hr⟩ := hq
        refine wo_step (v := (.i .i64 x39)) (s_pure (p_bin rfl rfl (b_sub.trans (ci e39)))) ?_
        have hq := bindP_inv hr
        clear hr
        obtain ⟨v40, m_7, e40, hr⟩ := hq
        have hq := asI_inv hr
        clear hr
        obtain ⟨x40, rfl, hr⟩ := hq
        refine wo_step (v := (.i .i64 x40)) (s_call (mc rfl mn) (callM_le hM.call e40)) ?_
        have hq := forceI_inv hr
        clear hr
        obtain ⟨x41, e41, hr⟩ := hq
        refine wo_step (v := (.i .i64 x41)) (s_pure (p_bin rfl rfl (b_sub.trans (ci e41)))) ?_
        refine wo_step (v := (.i .i64 x41)) (s_pure (p_mv rfl)) ?_
        refine wo_nil ?_
        refine nx_norm ?_
        refine w_seq ?_
        refine w_seq ?_
        refine w_ops ?_
        refine wo_step (v := (.i .i64 x41)) (s_pure (p_mv rfl)) ?_
        have hq := forceB_inv hr
        clear hr
        obtain ⟨c43, e43, hr⟩ := hq
        refine wo_step (v := (.b c43)) (s_pure (p_bin rfl rfl (b_gtr.trans (cb e43)))) ?_
        refine wo_step (v := (.b c43)) (s_pure (p_mv rfl)) ?_
        have hq := bindO_inv hr
        clear hr
        obtain ⟨o, hr, hk⟩ := hq
        refine wo_join 8 (g37_J0 x29 x41 m_7 o) ?_ ?_
        · clear hk
          have hq := cond_inv hr
          clear hr
          rcases hq with ⟨rfl, hr⟩ | ⟨rfl, hr⟩
          · refine wo_take (v := (.i .i64 x29)) rfl (s_pure (p_mv rfl)) ?_
            have hq := forceB_inv hr
            clear hr
            obtain ⟨c46, e46, hr⟩ := hq
            refine wo_take (v := (.b c46)) rfl (s_pure (p_bin rfl rfl (b_lss.trans (cb e46)))) ?_
            refine wo_take (v := (.b c46)) rfl (s_pure (p_mv rfl)) ?_
            have hq := bindO_inv hr
            clear hr
            obtain ⟨o_1, hr, hk⟩ := hq
            refine wo_join 5 (g37_J1 x29 x41 m_7 o_1) ?_ ?_
            · clear hk
              have hq := cond_inv hr
              clear hr
              rcases hq with ⟨rfl, hr⟩ | ⟨rfl, hr⟩
              · refine wo_skip (v := (.b true)) rfl rfl ?_
                refine wo_skip (v := (.b true)) rfl rfl ?_
                refine wo_skip (v := (.b true)) rfl rfl ?_
                refine wo_take (v := (.b true)) rfl (s_pure (p_pickT rfl rfl)) ?_
                refine wo_step (v := (.b true)) (s_pure (p_pickT rfl rfl)) ?_
                refine wo_nil ?_
                cases hr
                exact ⟨_, _, rfl, rfl, gl rfl, gl rfl, gl rfl⟩
              · refine wo_take (v := (.i .i64 x41)) rfl (s_pure (p_mv rfl)) ?_
                refine wo_take (v := (.i .i64 x29)) rfl (s_pure (p_mv rfl)) ?_
                have hq := forceB_inv hr
                clear hr
                obtain ⟨c50, e50, hr⟩ := hq
                refine wo_take (v := (.b c50)) rfl (s_pure (p_bin rfl rfl (b_lss.trans (cb e50)))) ?_
                refine wo_take (v := (.b c50)) rfl (s_pure (p_pickF rfl rfl)) ?_
                refine wo_step (v := (.b c50)) (s_pure (p_pickT rfl rfl)) ?_
                refine wo_nil ?_
                cases hr
                exact ⟨_, _, rfl, rfl, gl rfl, gl rfl, gl rfl⟩
            · clear hr
              have hr := hk
              clear hk
              obtain ⟨c52_1, ho⟩ : ∃ z, z = o_1 := ⟨_, rfl⟩
              subst ho
              rintro mm t_1 ⟨rfl, g52, g7, g8⟩
              refine wo_nil ?_
              cases hr
              exact ⟨_, _, rfl, rfl, gl g52, gl g7, gl g8⟩
          · refine wo_skip (v := (.b false)) rfl rfl ?_
            refine wo_skip (v := (.b false)) rfl rfl ?_
            refine wo_skip (v := (.b false)) rfl rfl ?_
            refine wo_skip (v := und) rfl rfl ?_
            refine wo_skip (v := und) rfl rfl ?_
            refine wo_skip (v := und) rfl rfl ?_
            refine wo_skip (v := (.b false)) rfl rfl ?_
            refine wo_step (v := (.b false)) (s_pure (p_pickF rfl rfl)) ?_
            refine wo_nil ?_
            cases hr
            exact ⟨_, _, rfl, rfl, gl rfl, gl rfl, gl rfl⟩
        · clear hr
          have hr := hk
          clear hk
          obtain ⟨c52, ho⟩ : ∃ z, z = o := ⟨_, rfl⟩
          subst ho
          rintro mm_1 t_2 ⟨rfl, g52, g7, g8⟩
          refine wo_nil ?_
          refine nx_norm ?_
          have hq := cond_inv hr
          clear hr
          rcases hq with ⟨rfl, hr⟩ | ⟨rfl, hr⟩
          · refine w_condT g52 ?_
            refine w_seq ?_
            refine w_ops ?_
            refine wo_step (v := (.i .i64 x41)) (s_pure (p_mv g8)) ?_
            refine wo_step (v := (.i .i64 x41)) (s_pure (p_mv g8)) ?_
            refine wo_step (v := (.i .i64 x41)) (s_pure (p_mv rfl)) ?_
            refine wo_step (v := (.i .i64 x41)) (s_pure (p_mv rfl)) ?_
            refine wo_step (v := (.i .i64 0)) (s_pure (p_mv rfl)) ?_
            refine wo_nil ?_
            refine nx_norm ?_
            refine w_ret ?_
            refine nx_ret ?_
            exact qf ret_ok (rt rfl (rt rfl (rt rfl rn))) hr
          · refine w_condF g52 ?_
            refine w_skip ?_
            refine nx_norm ?_
            refine w_seq ?_
            refine w_ops ?_
            refine wo_step (v := (.i .i64 x29)) (s_pure (p_mv g7)) ?_
            refine wo_step (v := (.i .i64 x29)) (s_pure (p_mv rfl)) ?_
            refine wo_step (v := (.i .i64 0)) (s_pure (p_mv rfl)) ?_
            refine wo_step (v := (.i .i64 0)) (s_pure (p_mv rfl)) ?_
            refine wo_nil ?_
            refine nx_norm ?_
            refine w_ret ?_
            exact qf ret_ok (rt rfl (rt rfl (rt rfl rn))) hr

/- dibber/dibberref09.Move -/
abbrev g38_J0 (x0 : Int) (x1 : Int) (o : Bool × Mm) (m1 : Mm) (t1 : Tr) : Prop :=
  match o with
  | (c20, m_2) => m_2 = m1 ∧ t1.get 20 = (.b c20) ∧ t1.get 0 = (.i .i64 x0) ∧ t1.get 1 = (.i .i64 x1)
abbrev g38_J1 (x0 : Int) (x1 : Int) (m_6 : Mm) (o : Int) (e : AExit) (m1 : Mm) (t1 : Tr) : Prop :=
  match o with
  | y8 => e = .norm ∧ m_6 = m1 ∧ t1.get 8 = (.i .i64 y8) ∧ t1.get 0 = (.i .i64 x0) ∧ t1.get 1 = (.i .i64 x1) ∧ t1.get 9 = (.i .i64 0)
abbrev g38_J2 (x8 : Int) (x52 : Int) (m_7 : Mm) (o : Bool) (m1 : Mm) (t1 : Tr) : Prop :=
  match o with
  | c63 => m_7 = m1 ∧ t1.get 63 = (.b c63) ∧ t1.get 8 = (.i .i64 x8) ∧ t1.get 9 = (.i .i64 0) ∧ t1.get 12 = (.i .i64 x52)
abbrev g38_J3 (x8 : Int) (x52 : Int) (m_7 : Mm) (o : Bool) (m1 : Mm) (t1 : Tr) : Prop :=
  match o with
  | c63_1 => m_7 = m1 ∧ t1.get 63 = (.b c63_1) ∧ t1.get 8 = (.i .i64 x8) ∧ t1.get 9 = (.i .i64 0) ∧ t1.get 12 = (.i .i64 x52)
abbrev g38_J4 (m_7 : Mm) (o : (Int × Int)) (e : AExit) (m1 : Mm) (t1 : Tr) : Prop :=
  match o with
  | (y8, y9) => e = .norm ∧ m_7 = m1 ∧ t1.get 8 = (.i .i64 y8) ∧ t1.get 9 = (.i .i64 y9)
def g38 (M : Means) (ro : List ABlk) (x0 : Int) (x1 : Int) (m0 : Mm) : Option (AVal × Heap × Nat × Nat) :=
  bindP (callM M.call m0 53 [(.i .i64 x0)]) fun v14 m_1 =>
  asB v14 fun c14 =>
  forceB (!c14) fun c15 =>
  bindO (cond c15 (
    some (true, m_1)) (
    bindP (callM M.call m_1 53 [(.i .i64 x1)]) fun v18 m_3 =>
    asB v18 fun c18 =>
    forceB (!c18) fun c19 =>
    some (c19, m_3))) fun ⟨c20, m_2⟩ =>
  cond c20 (
    finM m0.h.length (tupA [(.i .i64 0), (.i .i64 0), (.i .i64 4)]) m_2) (
    bindP (callM M.call m_2 69 [(.i .i64 x0), (.i .i64 x1)]) fun v23 m_4 =>
    asB v23 fun c23 =>
    cond c23 (
      finM m0.h.length (tupA [(.i .i64 0), (.i .i64 0), (.i .i64 10)]) m_4) (
      bindP (callM M.call m_4 70 [(.i .i64 x0)]) fun v25 m_5 =>
      asI .i64 v25 fun x25 =>
      forceB (ltI x25 x1) fun c28 =>
      cond c28 (
        forceI (wr .i64 (x1 - x25)) fun x31 =>
        finM m0.h.length (tupA [(.i .i64 0), (.i .i64 x31), (.i .i64 0)]) m_5) (
        bindP (callM M.call m_5 70 [(.i .i64 x1)]) fun v33 m_6 =>
        asI .i64 v33 fun x33 =>
        forceB (ltI x33 x0) fun c36 =>
        bindO (α := Int) (
          cond c36 (
            forceI (wr .i64 (x0 - x33)) fun x39 =>
            some x39) (
            some (-1))) fun x8 =>
        forceI (mxV true x0 x1) fun x42 =>
        forceI (mxV false x0 x1) fun x45 =>
        forceI (wr .i64 (x42 - x45)) fun x46 =>
        bindP (callM M.call m_6 67 [(.i .i64 x46)]) fun v47 m_7 =>
        asI .i64 v47 fun x47 =>
        forceI (mxV false x0 x1) fun x50 =>
        forceI (wr .i64 (x50 - x47)) fun x52 =>
        forceB (ltI 0 x52) fun c54 =>
        bindO (cond c54 (
          forceB (ltI x8 0) fun c57 =>
          bindO (cond c57 (
            some true) (
            forceB (ltI x52 x8) fun c61 =>
            some c61)) fun c63_1 =>
          some c63_1) (
          some false)) fun c63 =>
        bindO (α := (Int × Int)) (
          cond c63 (
            some (x52, x52)) (
            some (x8, 0))) fun ⟨x8_1, x9⟩ =>
        finM m0.h.length (tupA [(.i .i64 x8_1), (.i .i64 x9), (.i .i64 0)]) m_7)))

theorem g38_ok {ro : List ABlk} {O : Caller} {M : Means} (hM : M.Ok ⟨F, O⟩ ro) {x0 x1 h r} (ho : O 38 [(.i .i64 x0), (.i .i64 x1)] h = none) (hr : g38 M ro x0 x1 ⟨h, h.length, h.length⟩ = some r) : callX ⟨F, O⟩ ro 38 [(.i .i64 x0), (.i .i64 x1)] h = some r := by
  refine callX_of (F := ⟨F, O⟩) (fn := fn38) (g := g38 M ro x0 x1) ho rfl rfl hr ?_
  clear ho
  clear hr
  intro m0 t0 ht hr
  have g0 : t0.get 0 = (.i .i64 x0) := ht 0
  have g1 : t0.get 1 = (.i .i64 x1) := ht 1
  clear ht
  unfold g38 at hr
  refine w_seq ?_
  refine w_ops ?_
  refine wo_step (v := (.i .i64 0)) (s_pure (p_mv rfl)) ?_
  refine wo_step (v := (.i .i64 0)) (s_pure (p_mv rfl)) ?_
  refine wo_step (v := (.i .i64 0)) (s_pure (p_mv rfl)) ?_
  refine wo_nil ?_
  refine nx_norm ?_
  refine w_seq ?_
  refine w_seq ?_
  refine w_ops ?_
  refine wo_step (v := (.i .i64 x0)) (s_pure (p_mv g0)) ?_
  have hq := bindP_inv hr
  clear hr
  obtain ⟨v14, m_1, e14, hr⟩ := hq
  have hq := asB_inv hr
  clear hr
  obtain ⟨c14, rfl, hr⟩ := hq
  refine wo_step (v := (.b c14)) (s_call (mc rfl mn) (callM_le hM.call e14)) ?_
  have hq := forceB_inv hr
  clear hr
  obtain ⟨c15, e15, hr⟩ := hq
  refine wo_step (v := (.b c15)) (s_pure ((p_not rfl).trans (cb e15))) ?_
  refine wo_step (v := (.b c15)) (s_pure (p_mv rfl)) ?_
  have hq := bindO_inv hr
  clear hr
  obtain ⟨o, hr, hk⟩ := hq
  refine wo_join 4 (g38_J0 x0 x1 o) ?_ ?_
  · clear hk
    have hq := cond_inv hr
    clear hr
    rcases hq with ⟨rfl, hr⟩ | ⟨rfl, hr⟩
    · refine wo_skip (v := (.b true)) rfl rfl ?_
      refine wo_skip (v := (.b true)) rfl rfl ?_
      refine wo_skip (v := (.b true)) rfl rfl ?_
      refine wo_step (v := (.b true)) (s_pure (p_pickT rfl rfl)) ?_
      refine wo_nil ?_
      cases hr
      exact ⟨_, _, rfl, rfl, gl rfl, gl g0, gl g1⟩
    · refine wo_take (v := (.i .i64 x1)) rfl (s_pure (p_mv g1)) ?_
      have hq := bindP_inv hr
      clear hr
      obtain ⟨v18, m_3, e18, hr⟩ := hq
      have hq := asB_inv hr
      clear hr
      obtain ⟨c18, rfl, hr⟩ := hq
      refine wo_take (v := (.b c18)) rfl (s_call (mc rfl mn) (callM_le hM.call e18)) ?_
      have hq := forceB_inv hr
      clear hr
      obtain ⟨c19, e19, hr⟩ := hq
      refine wo_take (v := (.b c19)) rfl (s_pure ((p_not rfl).trans (cb e19))) ?_
      refine wo_step (v := (.b c19)) (s_pure (p_pickF rfl rfl)) ?_
      refine wo_nil ?_
      cases hr
      exact ⟨_, _, rfl, rfl, gl rfl, gl g0, gl g1⟩
  · clear hr
    have hr := hk
    clear hk
    obtain ⟨c20, m_2⟩ := o
    rintro mm t_1 ⟨rfl, g20, g0, g1⟩
    refine wo_nil ?_
    refine nx_norm ?_
    have hq := cond_inv hr
    clear hr
    rcases hq with ⟨rfl, hr⟩ | ⟨rfl, hr⟩
    · refine w_condT g20 ?_
      refine w_seq ?_
      refine w_ops ?_
      refine wo_step (v := (.i .i64 0)) (s_pure (p_mv rfl)) ?_
      refine wo_step (v := (.i .i64 0)) (s_pure (p_mv rfl)) ?_
      refine wo_step (v := (.i .i64 4)) (s_pure (p_mv rfl)) ?_
      refine wo_nil ?_
      refine nx_norm ?_
      refine w_ret ?_
      refine nx_ret ?_
      exact qf ret_ok (rt rfl (rt rfl (rt rfl rn))) hr
    · refine w_condF g20 ?_
      refine w_skip ?_
      refine nx_norm ?_
      refine w_seq ?_
      refine w_seq ?_
      refine w_ops ?_
      refine wo_step (v := (.i .i64 x0)) (s_pure (p_mv g0)) ?_
      refine wo_step (v := (.i .i64 x1)) (s_pure (p_mv g1)) ?_
      have hq := bindP_inv hr
      clear hr
      obtain ⟨v23, m_4, e23, hr⟩ := hq
      have hq := asB_inv hr
      clear hr
      obtain ⟨c23, rfl, hr⟩ := hq
      refine wo_step (v := (.b c23)) (s_call (mc rfl (mc rfl mn)) (callM_le hM.call e23)) ?_
      refine wo_nil ?_
      refine nx_norm ?_
      have hq := cond_inv hr
      clear hr
      rcases hq with ⟨rfl, hr⟩ | ⟨rfl, hr⟩
      · refine w_condT rfl ?_
        refine w_seq ?_
        refine w_ops ?_
        refine wo_step (v := (.i .i64 0)) (s_pure (p_mv rfl)) ?_
        refine wo_step (v := (.i .i64 0)) (s_pure (p_mv rfl)) ?_
        refine wo_step (v := (.i .i64 10)) (s_pure (p_mv rfl)) ?_
        refine wo_nil ?_
        refine nx_norm ?_
        refine w_ret ?_
        refine nx_ret ?_
        exact qf ret_ok (rt rfl (rt rfl (rt rfl rn))) hr
      · refine w_condF rfl ?_
        refine w_skip ?_
        refine nx_norm ?_
        refine w_seq ?_
        refine w_ops ?_
        refine wo_step (v := (.i .i64 x0)) (s_pure (p_mv g0)) ?_
        have hq := bindP_inv hr
        clear hr
        obtain ⟨v25, m_5, e25, hr⟩ := hq
        have hq := asI_inv hr
        clear hr
        obtain ⟨x25, rfl, hr⟩ := hq
        refine wo_step (v := (.i .i64 x25)) (s_call (mc rfl mn) (callM_le hM.call e25)) ?_
        refine wo_step (v := (.i .i64 x25)) (s_pure (p_mv rfl)) ?_
        refine wo_nil ?_
        refine nx_norm ?_
        refine w_seq ?_
        refine w_seq ?_
        refine w_ops ?_
        refine wo_step (v := (.i .i64 x25)) (s_pure (p_mv rfl)) ?_
        refine wo_step (v := (.i .i64 x1)) (s_pure (p_mv g1)) ?_
        have hq := forceB_inv hr
        clear hr
        obtain ⟨c28, e28, hr⟩ := hq
        refine wo_step (v := (.b c28)) (s_pure (p_bin rfl rfl (b_lss.trans (cb e28)))) ?_
        refine wo_nil ?_
        refine nx_norm ?_
        have hq := cond_inv hr
        clear hr
        rcases hq with ⟨rfl, hr⟩ | ⟨rfl, hr⟩
        · refine w_condT rfl ?_
          refine w_seq ?_
          refine w_ops ?_
          refine wo_step (v := (.i .i64 x1)) (s_pure (p_mv g1)) ?_
          refine wo_step (v := (.i .i64 x25)) (s_pure (p_mv rfl)) ?_
          have hq := forceI_inv hr
          clear hr
          obtain ⟨x31, e31, hr⟩ := hq
          refine wo_step (v := (.i .i64 x31)) (s_pure (p_bin rfl rfl (b_sub.trans (ci e31)))) ?_
          refine wo_step (v := (.i .i64 0)) (s_pure (p_mv rfl)) ?_
          refine wo_step (v := (.i .i64 x31)) (s_pure (p_mv rfl)) ?_
          refine wo_step (v := (.i .i64 0)) (s_pure (p_mv rfl)) ?_
          refine wo_nil ?_
          refine nx_norm ?_
          refine w_ret ?_
          refine nx_ret ?_
          exact qf ret_ok (rt rfl (rt rfl (rt rfl rn))) hr
        · refine w_condF rfl ?_
          refine w_skip ?_
          refine nx_norm ?_
          refine w_seq ?_
          refine w_ops ?_
          refine wo_step (v := (.i .i64 (-1))) (s_pure (p_mv rfl)) ?_
          refine wo_step (v := (.i .i64 0)) (s_pure (p_mv rfl)) ?_
          refine wo_nil ?_
          refine nx_norm ?_
          refine w_seq ?_
          refine w_ops ?_
          refine wo_step (v := (.i .i64 x1)) (s_pure (p_mv g1)) ?_
          have hq := bindP_inv hr
          clear hr
          obtain ⟨v33, m_6, e33, hr⟩ := hq
          have hq := asI_inv hr
          clear hr
          obtain ⟨x33, rfl, hr⟩ := hq
          refine wo_step (v := (.i .i64 x33)) (s_call (mc rfl mn) (callM_le hM.call e33)) ?_
          refine wo_step (v := (.i .i64 x33)) (s_pure (p_mv rfl)) ?_
          refine wo_nil ?_
          refine nx_norm ?_
          refine w_seq ?_
          refine w_seq ?_
          refine w_ops ?_
          refine wo_step (v := (.i .i64 x33)) (s_pure (p_mv rfl)) ?_
          refine wo_step (v := (.i .i64 x0)) (s_pure (p_mv g0)) ?_
          have hq := forceB_inv hr
          clear hr
          obtain ⟨c36, e36, hr⟩ := hq
          refine wo_step (v := (.b c36)) (s_pure (p_bin rfl rfl (b_lss.trans (cb e36)))) ?_
          refine wo_nil ?_
          refine nx_norm ?_
          have hq := bindO_inv hr
          clear hr
          obtain ⟨o_1, hr, hk⟩ := hq
          refine jp_mono (J := g38_J1 x0 x1 m_6 o_1) ?_ ?_
          · clear hk
            have hq := cond_inv hr
            clear hr
            rcases hq with ⟨rfl, hr⟩ | ⟨rfl, hr⟩
            · refine w_condT rfl ?_
              refine w_ops ?_
              refine wo_step (v := (.i .i64 x0)) (s_pure (p_mv g0)) ?_
              refine wo_step (v := (.i .i64 x33)) (s_pure (p_mv rfl)) ?_
              have hq := forceI_inv hr
              clear hr
              obtain ⟨x39, e39, hr⟩ := hq
              refine wo_step (v := (.i .i64 x39)) (s_pure (p_bin rfl rfl (b_sub.trans (ci e39)))) ?_
              refine wo_step (v := (.i .i64 x39)) (s_pure (p_mv rfl)) ?_
              refine wo_nil ?_
              cases hr
              exact ⟨_, _, rfl, rfl, rfl, gl rfl, gl g0, gl g1, gl rfl⟩
            · refine w_condF rfl ?_
              refine w_skip ?_
              cases hr
              exact ⟨_, _, rfl, rfl, rfl, gl rfl, gl g0, gl g1, gl rfl⟩
          · clear hr
            have hr := hk
            clear hk
            obtain ⟨x8, ho⟩ : ∃ z, z = o_1 := ⟨_, rfl⟩
            subst ho
            rintro _ mm_4 t_2 ⟨rfl, rfl, g8, g0, g1, g9⟩
            refine nx_norm ?_
            refine w_seq ?_
            refine w_ops ?_
            refine wo_step (v := (.i .i64 x0)) (s_pure (p_mv g0)) ?_
            refine wo_step (v := (.i .i64 x1)) (s_pure (p_mv g1)) ?_
            have hq := forceI_inv hr
            clear hr
            obtain ⟨x42, e42, hr⟩ := hq
            refine wo_step (v := (.i .i64 x42)) (s_pure ((p_mx rfl rfl).trans (ci e42))) ?_
            refine wo_step (v := (.i .i64 x0)) (s_pure (p_mv g0)) ?_
            refine wo_step (v := (.i .i64 x1)) (s_pure (p_mv g1)) ?_
            have hq := forceI_inv hr
            clear hr
            obtain ⟨x45, e45, hr⟩ := hq
            refine wo_step (v := (.i .i64 x45)) (s_pure ((p_mx rfl rfl).trans (ci e45))) ?_
            have hq := forceI_inv hr
            clear hr
            obtain ⟨x46, e46, hr⟩ := hq
            refine wo_step (v := (.i .i64 x46)) (s_pure (p_bin rfl rfl (b_sub.trans (ci e46)))) ?_
            have hq := bindP_inv hr
            clear hr
            obtain ⟨v47, m_7, e47, hr⟩ := hq
            have hq := asI_inv hr
            clear hr
            obtain ⟨x47, rfl, hr⟩ := hq
            refine wo_step (v := (.i .i64 x47)) (s_call (mc rfl mn) (callM_le hM.call e47)) ?_
            refine wo_step (v := (.i .i64 x47)) (s_pure (p_mv rfl)) ?_
            refine wo_nil ?_
            refine nx_norm ?_
            refine w_seq ?_
            refine w_ops ?_
            refine wo_step (v := (.i .i64 x0)) (s_pure (p_mv g0)) ?_
            refine wo_step (v := (.i .i64 x1)) (s_pure (p_mv g1)) ?_
            have hq := forceI_inv hr
            clear hr
            obtain ⟨x50, e50, hr⟩ := hq
            refine wo_step (v := (.i .i64 x50)) (s_pure ((p_mx rfl rfl).trans (ci e50))) ?_
            refine wo_step (v := (.i .i64 x47)) (s_pure (p_mv rfl)) ?_
            have hq := forceI_inv hr
            clear hr
            obtain ⟨x52, e52, hr⟩ := hq
            refine wo_step (v := (.i .i64 x52)) (s_pure (p_bin rfl rfl (b_sub.trans (ci e52)))) ?_
            refine wo_step (v := (.i .i64 x52)) (s_pure (p_mv rfl)) ?_
            refine wo_nil ?_
            refine nx_norm ?_
            refine w_seq ?_
            refine w_seq ?_
            refine w_ops ?_
            refine wo_step (v := (.i .i64 x52)) (s_pure (p_mv rfl)) ?_
            have hq := forceB_inv hr
            clear hr
            obtain ⟨c54, e54, hr⟩ := hq
            refine wo_step (v := (.b c54)) (s_pure (p_bin rfl rfl (b_gtr.trans (cb e54)))) ?_
            refine wo_step (v := (.b c54)) (s_pure (p_mv rfl)) ?_
            have hq := bindO_inv hr
            clear hr
            obtain ⟨o_2, hr, hk⟩ := hq
            refine wo_join 8 (g38_J2 x8 x52 m_7 o_2) ?_ ?_
            · clear hk
              have hq := cond_inv hr
              clear hr
              rcases hq with ⟨rfl, hr⟩ | ⟨rfl, hr⟩
              · refine wo_take (v := (.i .i64 x8)) rfl (s_pure (p_mv g8)) ?_
                have hq := forceB_inv hr
                clear hr
                obtain ⟨c57, e57, hr⟩ := hq
                refine wo_take (v := (.b c57)) rfl (s_pure (p_bin rfl rfl (b_lss.trans (cb e57)))) ?_
                refine wo_take (v := (.b c57)) rfl (s_pure (p_mv rfl)) ?_
                have hq := bindO_inv hr
                clear hr
                obtain ⟨o_3, hr, hk⟩ := hq
                refine wo_join 5 (g38_J3 x8 x52 m_7 o_3) ?_ ?_
                · clear hk
                  have hq := cond_inv hr
                  clear hr
                  rcases hq with ⟨rfl, hr⟩ | ⟨rfl, hr⟩
                  · refine wo_skip (v := (.b true)) rfl rfl ?_
                    refine wo_skip (v := (.b true)) rfl rfl ?_
                    refine wo_skip (v := (.b true)) rfl rfl ?_
                    refine wo_take (v := (.b true)) rfl (s_pure (p_pickT rfl rfl)) ?_
                    refine wo_step (v := (.b true)) (s_pure (p_pickT rfl rfl)) ?_
                    refine wo_nil ?_
                    cases hr
                    exact ⟨_, _, rfl, rfl, gl rfl, gl g8, gl g9, gl rfl⟩
                  · refine wo_take (v := (.i .i64 x52)) rfl (s_pure (p_mv rfl)) ?_
                    refine wo_take (v := (.i .i64 x8)) rfl (s_pure (p_mv g8)) ?_
                    have hq := forceB_inv hr
                    clear hr
                    obtain ⟨c61, e61, hr⟩ := hq
                    refine wo_take (v := (.b c61)) rfl (s_pure (p_bin rfl rfl (b_lss.trans (cb e61)))) ?_
                    refine wo_take (v := (.b c61)) rfl (s_pure (p_pickF rfl rfl)) ?_
                    refine wo_step (v := (.b c61)) (s_pure (p_pickT rfl rfl)) ?_
                    refine wo_nil ?_
                    cases hr
                    exact ⟨_, _, rfl, rfl, gl rfl, gl g8, gl g9, gl rfl⟩
                · clear hr
                  have hr := hk
                  clear hk
                  obtain ⟨c63_1, ho⟩ : ∃ z, z = o_3 := ⟨_, rfl⟩
                  subst ho
                  rintro mm_1 t_3 ⟨rfl, g63, g8, g9, g12⟩
                  refine wo_nil ?_
                  cases hr
                  exact ⟨_, _, rfl, rfl, gl g63, gl g8, gl g9, gl g12⟩
              · refine wo_skip (v := (.b false)) rfl rfl ?_
                refine wo_skip (v := (.b false)) rfl rfl ?_
                refine wo_skip (v := (.b false)) rfl rfl ?_
                refine wo_skip (v := und) rfl rfl ?_
                refine wo_skip (v := und) rfl rfl ?_
                refine wo_skip (v := und) rfl rfl ?_
                refine wo_skip (v := (.b false)) rfl rfl ?_
                refine wo_step (v := (.b false)) (s_pure (p_pickF rfl rfl)) ?_
                refine wo_nil ?_
                cases hr
                exact ⟨_, _, rfl, rfl, gl rfl, gl g8, gl g9, gl rfl⟩
            · clear hr
              have hr := hk
              clear hk
              obtain ⟨c63, ho⟩ : ∃ z, z = o_2 := ⟨_, rfl⟩
              subst ho
              rintro mm_2 t_4 ⟨rfl, g63, g8, g9, g12⟩
              refine wo_nil ?_
              refine nx_norm ?_
              have hq := bindO_inv hr
              clear hr
              obtain ⟨o_4, hr, hk⟩ := hq
              refine jp_mono (J := g38_J4 m_7 o_4) ?_ ?_
              · clear hk
                have hq := cond_inv hr
                clear hr
                rcases hq with ⟨rfl, hr⟩ | ⟨rfl, hr⟩
                · refine w_condT g63 ?_
                  refine w_seq ?_
                  refine w_ops ?_
                  refine wo_step (v := (.i .i64 x52)) (s_pure (p_mv g12)) ?_
                  refine wo_step (v := (.i .i64 x52)) (s_pure (p_mv rfl)) ?_
                  refine wo_nil ?_
                  refine nx_norm ?_
                  refine w_ops ?_
                  refine wo_step (v := (.i .i64 x52)) (s_pure (p_mv g12)) ?_
                  refine wo_step (v := (.i .i64 x52)) (s_pure (p_mv rfl)) ?_
                  refine wo_nil ?_
                  cases hr
                  exact ⟨_, _, rfl, rfl, rfl, gl rfl, gl rfl⟩
                · refine w_condF g63 ?_
                  refine w_skip ?_
                  cases hr
                  exact ⟨_, _, rfl, rfl, rfl, gl g8, gl g9⟩
              · clear hr
                have hr := hk
                clear hk
                obtain ⟨x8_1, x9⟩ := o_4
                rintro _ mm_3 t_5 ⟨rfl, rfl, g8, g9⟩
                refine nx_norm ?_
                refine w_seq ?_
                refine w_ops ?_
                refine wo_step (v := (.i .i64 x8_1)) (s_pure (p_mv g8)) ?_
                refine wo_step (v := (.i .i64 x9)) (s_pure (p_mv g9)) ?_
                refine wo_step (v := (.i .i64 x8_1)) (s_pure (p_mv rfl)) ?_
                refine wo_step (v := (.i .i64 x9)) (s_pure (p_mv rfl)) ?_
                refine wo_step (v := (.i .i64 0)) (s_pure (p_mv rfl)) ?_
                refine wo_nil ?_
                refine nx_norm ?_
                refine w_ret ?_
                exact qf ret_ok (rt rfl (rt rfl (rt rfl rn))) hr

/- dibber/seed.areNumbers -/
abbrev g51_I0 (v0 : AVal) (x6 : Int) (m0 : Mm) (s : Int) (m1 : Mm) (t1 : Tr) : Prop :=
  match s with
  | x7 => m0 = m1 ∧ t1.get 7 = (.i .i64 x7) ∧ t1.get 5 = v0 ∧ t1.get 6 = (.i .i64 x6)
abbrev g51_J0 (v0 : AVal) (x6 : Int) (m0 : Mm) (o : (Unit ⊕ Bool)) (e : AExit) (m1 : Mm) (t1 : Tr) : Prop :=
  match o with
  | (.inl _) => e = (.exit 0) ∧ m0 = m1
  | (.inr y2) => e = .ret ∧ m0 = m1 ∧ t1.get 2 = (.b y2)
abbrev g51_J1 (v0 : AVal) (x6 : Int) (x7 : Int) (m0 : Mm) (o : Bool) (m1 : Mm) (t1 : Tr) : Prop :=
  match o with
  | c16 => m0 = m1 ∧ t1.get 16 = (.b c16) ∧ t1.get 5 = v0 ∧ t1.get 6 = (.i .i64 x6) ∧ t1.get 7 = (.i .i64 x7)
def g51_b0 (M : Means) (ro : List ABlk) (v0 : AVal) (x6 : Int) (m0 : Mm) (x7 : Int) : Option ((Int) ⊕ ((Unit ⊕ Bool))) :=
  forceB (ltI x7 x6) fun c8 =>
  cond c8 (
    bindO (evP .e (.ixS 1 (.c v0) (.c (.i .i64 x7)))) fun v9 =>
    bindO (ldM ro m0 true 1 v9) fun v10 =>
    asI .i64 v10 fun x10 =>
    forceB (ltI x10 0) fun c12 =>
    bindO (cond c12 (
      some true) (
      forceB (ltI 1152921504606846976 x10) fun c15 =>
      some c15)) fun c16 =>
    cond c16 (
      some (.inr (.inr false))) (
      forceI (wr .i64 (x7 + 1)) fun x17 =>
      some (.inl x17))) (
    some (.inr (.inl ())))
def g51 (M : Means) (ro : List ABlk) (v0 : AVal) (m0 : Mm) : Option (AVal × Heap × Nat × Nat) :=
  bindO (evP .e (.len false (.c v0))) fun v6 =>
  asI .i64 v6 fun x6 =>
  bindO (M.loop (S := Int) (R := (Unit ⊕ Bool)) (fun s => g51_b0 M ro v0 x6 m0 s) 0) fun o_1 => match o_1 with
  | (.inl _) =>
    finM m0.h.length (tupA [(.b true)]) m0
  | (.inr c2) =>
    finM m0.h.length (tupA [(.b c2)]) m0

theorem g51_ok {ro : List ABlk} {O : Caller} {M : Means} (hM : M.Ok ⟨F, O⟩ ro) {v0 h r} (ho : O 51 [v0] h = none) (hr : g51 M ro v0 ⟨h, h.length, h.length⟩ = some r) : callX ⟨F, O⟩ ro 51 [v0] h = some r := by
  refine callX_of (F := ⟨F, O⟩) (fn := fn51) (g := g51 M ro v0) ho rfl rfl hr ?_
  clear ho
  clear hr
  intro m0 t0 ht hr
  have g0 : t0.get 0 = v0 := ht 0
  clear ht
  unfold g51 at hr
  refine w_seq ?_
  refine w_ops ?_
  refine wo_step (v := (.b false)) (s_pure (p_mv rfl)) ?_
  refine wo_nil ?_
  refine nx_norm ?_
  refine w_seq ?_
  refine w_seq ?_
  refine w_ops ?_
  refine wo_step (v := v0) (s_pure (p_mv g0)) ?_
  have hq := bindO_inv hr
  clear hr
  obtain ⟨v6, e6, hr⟩ := hq
  have hq := asI_inv hr
  clear hr
  obtain ⟨x6, rfl, hr⟩ := hq
  refine wo_step (v := (.i .i64 x6)) (s_pure (o_len rfl e6)) ?_
  refine wo_step (v := (.i .i64 0)) (s_pure (p_mv rfl)) ?_
  refine wo_nil ?_
  refine nx_norm ?_
  refine w_block ?_
  have hq := bindO_inv hr
  clear hr
  obtain ⟨o_1, hl, hr⟩ := hq
  obtain ⟨n, hl⟩ := hM.loop _ _ _ hl
  refine jp_mono (w_loop _ (g51_I0 v0 x6 m0) (g51_J0 v0 x6 m0) ?_ n _ _ _ _ hl ⟨rfl, gl rfl, gl rfl, gl rfl⟩) ?_
  · clear hr hl
    intro s mm_3 t_1 o hi hr
    obtain ⟨x7, hs⟩ : ∃ z, z = s := ⟨_, rfl⟩
    subst hs
    obtain ⟨rfl, g7, g5, g6⟩ := hi
    unfold g51_b0 at hr
    refine w_seq ?_
    refine w_ops ?_
    have hq := forceB_inv hr
    clear hr
    obtain ⟨c8, e8, hr⟩ := hq
    refine wo_step (v := (.b c8)) (s_pure (p_bin g7 g6 (b_lss.trans (cb e8)))) ?_
    refine wo_nil ?_
    refine nx_norm ?_
    refine w_seq ?_
    have hq := cond_inv hr
    clear hr
    rcases hq with ⟨rfl, hr⟩ | ⟨rfl, hr⟩
    · refine w_condT rfl ?_
      refine w_skip ?_
      refine nx_norm ?_
      refine w_seq ?_
      refine w_block ?_
      refine w_seq ?_
      refine w_ops ?_
      have hq := bindO_inv hr
      clear hr
      obtain ⟨v9, e9, hr⟩ := hq
      refine wo_step (v := v9) (s_pure (o_ixS g5 g7 e9)) ?_
      have hq := bindO_inv hr
      clear hr
      obtain ⟨v10, e10, hr⟩ := hq
      have hq := asI_inv hr
      clear hr
      obtain ⟨x10, rfl, hr⟩ := hq
      refine wo_step (v := (.i .i64 x10)) (s_ld rfl e10) ?_
      refine wo_step (v := (.i .i64 x10)) (s_pure (p_mv rfl)) ?_
      refine wo_nil ?_
      refine nx_norm ?_
      refine w_seq ?_
      refine w_ops ?_
      refine wo_step (v := (.i .i64 x10)) (s_pure (p_mv rfl)) ?_
      have hq := forceB_inv hr
      clear hr
      obtain ⟨c12, e12, hr⟩ := hq
      refine wo_step (v := (.b c12)) (s_pure (p_bin rfl rfl (b_lss.trans (cb e12)))) ?_
      refine wo_step (v := (.b c12)) (s_pure (p_mv rfl)) ?_
      have hq := bindO_inv hr
      clear hr
      obtain ⟨o, hr, hk⟩ := hq
      refine wo_join 3 (g51_J1 v0 x6 x7 m0 o) ?_ ?_
      · clear hk
        have hq := cond_inv hr
        clear hr
        rcases hq with ⟨rfl, hr⟩ | ⟨rfl, hr⟩
        · refine wo_skip (v := (.b true)) rfl rfl ?_
          refine wo_skip (v := (.b true)) rfl rfl ?_
          refine wo_step (v := (.b true)) (s_pure (p_pickT rfl rfl)) ?_
          refine wo_nil ?_
          cases hr
          exact ⟨_, _, rfl, rfl, gl rfl, gl g5, gl g6, gl g7⟩
        · refine wo_take (v := (.i .i64 x10)) rfl (s_pure (p_mv rfl)) ?_
          have hq := forceB_inv hr
          clear hr
          obtain ⟨c15, e15, hr⟩ := hq
          refine wo_take (v := (.b c15)) rfl (s_pure (p_bin rfl rfl (b_gtr.trans (cb e15)))) ?_
          refine wo_step (v := (.b c15)) (s_pure (p_pickF rfl rfl)) ?_
          refine wo_nil ?_
          cases hr
          exact ⟨_, _, rfl, rfl, gl rfl, gl g5, gl g6, gl g7⟩
      · clear hr
        have hr := hk
        clear hk
        obtain ⟨c16, ho⟩ : ∃ z, z = o := ⟨_, rfl⟩
        subst ho
        rintro mm t_2 ⟨rfl, g16, g5, g6, g7⟩
        refine wo_nil ?_
        refine nx_norm ?_
        have hq := cond_inv hr
        clear hr
        rcases hq with ⟨rfl, hr⟩ | ⟨rfl, hr⟩
        · refine w_condT g16 ?_
          refine w_seq ?_
          refine w_ops ?_
          refine wo_step (v := (.b false)) (s_pure (p_mv rfl)) ?_
          refine wo_nil ?_
          refine nx_norm ?_
          refine w_ret ?_
          refine bk_ret ?_
          refine nx_ret ?_
          cases hr
          exact ⟨_, _, rfl, ne_norm_ret, rfl, rfl, gl rfl⟩
        · refine w_condF g16 ?_
          refine w_skip ?_
          refine bk_norm ?_
          refine nx_norm ?_
          refine w_ops ?_
          have hq := forceI_inv hr
          clear hr
          obtain ⟨x17, e17, hr⟩ := hq
          refine wo_step (v := (.i .i64 x17)) (s_pure (p_bin g7 rfl (b_add.trans (ci e17)))) ?_
          refine wo_step (v := (.i .i64 x17)) (s_pure (p_mv rfl)) ?_
          refine wo_nil ?_
          cases hr
          exact ⟨_, _, rfl, rfl, rfl, gl rfl, gl g5, gl g6⟩
    · refine w_condF rfl ?_
      refine w_exit ?_
      refine nx_exit ?_
      cases hr
      exact ⟨_, _, rfl, ne_norm_exit, rfl, rfl⟩
  · rcases o_1 with o_1 | o_1
    · rintro _ mm_1 t_3 ⟨rfl, rfl⟩
      refine bk_hit ?_
      refine nx_norm ?_
      refine w_seq ?_
      refine w_ops ?_
      refine wo_step (v := (.b true)) (s_pure (p_mv rfl)) ?_
      refine wo_nil ?_
      refine nx_norm ?_
      refine w_ret ?_
      exact qf ret_ok (rt rfl rn) hr
    · obtain ⟨c2, ho⟩ : ∃ z, z = o_1 := ⟨_, rfl⟩
      subst ho
      rintro _ mm_2 t_4 ⟨rfl, rfl, g2⟩
      refine bk_ret ?_
      refine nx_ret ?_
      exact qf ret_ok (rt g2 rn) hr

/- dibber/dibberref09.InRange -/
abbrev g53_J0 (m0 : Mm) (o : Bool) (m1 : Mm) (t1 : Tr) : Prop :=
  match o with
  | c8 => m0 = m1 ∧ t1.get 8 = (.b c8)
def g53 (M : Means) (ro : List ABlk) (x0 : Int) (m0 : Mm) : Option (AVal × Heap × Nat × Nat) :=
  forceB (!ltI x0 0) fun c4 =>
  bindO (cond c4 (
    forceB (!ltI 1152921504606846976 x0) fun c7 =>
    some c7) (
    some false)) fun c8 =>
  finM m0.h.length (tupA [(.b c8)]) m0

theorem g53_ok {ro : List ABlk} {O : Caller} {M : Means} (hM : M.Ok ⟨F, O⟩ ro) {x0 h r} (ho : O 53 [(.i .i64 x0)] h = none) (hr : g53 M ro x0 ⟨h, h.length, h.length⟩ = some r) : callX ⟨F, O⟩ ro 53 [(.i .i64 x0)] h = some r := by
  refine callX_of (F := ⟨F, O⟩) (fn := fn53) (g := g53 M ro x0) ho rfl rfl hr ?_
  clear ho
  clear hr
  intro m0 t0 ht hr
  have g0 : t0.get 0 = (.i .i64 x0) := ht 0
  clear ht
  unfold g53 at hr
  refine w_seq ?_
  refine w_ops ?_
  refine wo_step (v := (.b false)) (s_pure (p_mv rfl)) ?_
  refine wo_nil ?_
  refine nx_norm ?_
  refine w_seq ?_
  refine w_ops ?_
  refine wo_step (v := (.i .i64 x0)) (s_pure (p_mv g0)) ?_
  have hq := forceB_inv hr
  clear hr
  obtain ⟨c4, e4, hr⟩ := hq
  refine wo_step (v := (.b c4)) (s_pure (p_bin rfl rfl (b_geq.trans (cb e4)))) ?_
  refine wo_step (v := (.b c4)) (s_pure (p_mv rfl)) ?_
  have hq := bindO_inv hr
  clear hr
  obtain ⟨o, hr, hk⟩ := hq
  refine wo_join 3 (g53_J0 m0 o) ?_ ?_
  · clear hk
    have hq := cond_inv hr
    clear hr
    rcases hq with ⟨rfl, hr⟩ | ⟨rfl, hr⟩
    · refine wo_take (v := (.i .i64 x0)) rfl (s_pure (p_mv g0)) ?_
      have hq := forceB_inv hr
      clear hr
      obtain ⟨c7, e7, hr⟩ := hq
      refine wo_take (v := (.b c7)) rfl (s_pure (p_bin rfl rfl (b_leq.trans (cb e7)))) ?_
      refine wo_step (v := (.b c7)) (s_pure (p_pickT rfl rfl)) ?_
      refine wo_nil ?_
      cases hr
      exact ⟨_, _, rfl, rfl, gl rfl⟩
    · refine wo_skip (v := (.b false)) rfl rfl ?_
      refine wo_skip (v := (.b false)) rfl rfl ?_
      refine wo_step (v := (.b false)) (s_pure (p_pickF rfl rfl)) ?_
      refine wo_nil ?_
      cases hr
      exact ⟨_, _, rfl, rfl, gl rfl⟩
  · clear hr
    have hr := hk
    clear hk
    obtain ⟨c8, ho⟩ : ∃ z, z = o := ⟨_, rfl⟩
    subst ho
    rintro mm t_1 ⟨rfl, g8⟩
    refine wo_step (v := (.b c8)) (s_pure (p_mv g8)) ?_
    refine wo_nil ?_
    refine nx_norm ?_
    refine w_ret ?_
    exact qf ret_ok (rt rfl rn) hr

/- dibber/seed.parts -/
abbrev g60_I0  (s : Int × AVal × Int × Int × Int × Mm) (m1 : Mm) (t1 : Tr) : Prop :=
  match s with
  | (x0_1, v3, x4, x5, x6, m_3) => m_3 = m1 ∧ t1.get 0 = (.i .i64 x0_1) ∧ t1.get 3 = v3 ∧ t1.get 4 = (.i .i64 x4) ∧ t1.get 5 = (.i .i64 x5) ∧ t1.get 6 = (.i .i64 x6)
abbrev g60_J0  (o : (AVal × Mm)) (e : AExit) (m1 : Mm) (t1 : Tr) : Prop :=
  match o with
  | (y3, mo) => e = (.exit 0) ∧ mo = m1 ∧ t1.get 3 = y3
abbrev g60_J1 (x4 : Int) (x5 : Int) (x6 : Int) (o : (Int × AVal × Mm)) (e : AExit) (m1 : Mm) (t1 : Tr) : Prop :=
  match o with
  | (y0, y3, mo) => e = .norm ∧ mo = m1 ∧ t1.get 0 = (.i .i64 y0) ∧ t1.get 3 = y3 ∧ t1.get 4 = (.i .i64 x4) ∧ t1.get 5 = (.i .i64 x5) ∧ t1.get 6 = (.i .i64 x6)
def g60_b0 (M : Means) (ro : List ABlk)  (x0_1 : Int) (v3 : AVal) (x4 : Int) (x5 : Int) (x6 : Int) (m_3 : Mm) : Option ((Int × AVal × Int × Int × Int × Mm) ⊕ ((AVal × Mm))) :=
  forceB (ltI 0 x0_1) fun c10 =>
  cond c10 (
    forceB (!ltI x0_1 x4) fun c15 =>
    bindO (α := (Int × AVal × Mm)) (
      cond c15 (
        bindP (stepM ro m_3 (.bsl 3 1 [(AVal.i IntKind.i64 0)] 1 [((0, 1), .c (.i .i64 x6))])) fun v18 m_4 =>
        bindP (stepM ro m_4 (.app 3 1 8 [(AVal.i IntKind.i64 0)] (.c v3) (.c v18))) fun v19 m_5 =>
        forceI (wr .i64 (x0_1 - x4)) fun x22 =>
        some (x22, v19, m_5)) (
        some (x0_1, v3, m_3))) fun ⟨x0_2, v3_1, m_6⟩ =>
    forceI (wr .i64 (x4 - x5)) fun x26 =>
    forceI (wr .i64 (x6 - 1)) fun x12 =>
    some (.inl (x0_2, v3_1, x5, x26, x12, m_6))) (
    some (.inr (v3, m_3)))
def g60 (M : Means) (ro : List ABlk) (x0 : Int) (m0 : Mm) : Option (AVal × Heap × Nat × Nat) :=
  bindP (callM M.call m0 71 [(.i .i64 88)]) fun v7 m_1 =>
  asI .i64 v7 fun x7 =>
  bindP (callM M.call m_1 71 [(.i .i64 87)]) fun v8 m_2 =>
  asI .i64 v8 fun x8 =>
  bindO (M.loop (S := Int × AVal × Int × Int × Int × Mm) (R := (AVal × Mm)) (fun s => g60_b0 M ro  s.1 s.2.1 s.2.2.1 s.2.2.2.1 s.2.2.2.2.1 s.2.2.2.2.2) (x0, AVal.nsl, x7, x8, 88, m_2)) fun ⟨v3_2, m_7⟩ =>
  finM m0.h.length (tupA [v3_2]) m_7

theorem g60_ok {ro : List ABlk} {O : Caller} {M : Means} (hM : M.Ok ⟨F, O⟩ ro) {x0 h r} (ho : O 60 [(.i .i64 x0)] h = none) (hr : g60 M ro x0 ⟨h, h.length, h.length⟩ = some r) : callX ⟨F, O⟩ ro 60 [(.i .i64 x0)] h = some r := by
  refine callX_of (F := ⟨F, O⟩) (fn := fn60) (g := g60 M ro x0) ho rfl rfl hr ?_
  clear ho
  clear hr
  intro m0 t0 ht hr
  have g0 : t0.get 0 = (.i .i64 x0) := ht 0
  clear ht
  unfold g60 at hr
  refine w_seq ?_
  refine w_ops ?_
  refine wo_step (v := AVal.nsl) (s_pure (p_mv rfl)) ?_
  refine wo_nil ?_
  refine nx_norm ?_
  refine w_seq ?_
  refine w_ops ?_
  refine wo_step (v := AVal.nsl) (s_pure (p_mv rfl)) ?_
  refine wo_nil ?_
  refine nx_norm ?_
  refine w_seq ?_
  refine w_ops ?_
  have hq := bindP_inv hr
  clear hr
  obtain ⟨v7, m_1, e7, hr⟩ := hq
  have hq := asI_inv hr
  clear hr
  obtain ⟨x7, rfl, hr⟩ := hq
  refine wo_step (v := (.i .i64 x7)) (s_call (mc rfl mn) (callM_le hM.call e7)) ?_
  have hq := bindP_inv hr
  clear hr
  obtain ⟨v8, m_2, e8, hr⟩ := hq
  have hq := asI_inv hr
  clear hr
  obtain ⟨x8, rfl, hr⟩ := hq
  refine wo_step (v := (.i .i64 x8)) (s_call (mc rfl mn) (callM_le hM.call e8)) ?_
  refine wo_step (v := (.i .i64 x7)) (s_pure (p_mv rfl)) ?_
  refine wo_step (v := (.i .i64 x8)) (s_pure (p_mv rfl)) ?_
  refine wo_nil ?_
  refine nx_norm ?_
  refine w_seq ?_
  refine w_seq ?_
  refine w_ops ?_
  refine wo_step (v := (.i .i64 88)) (s_pure (p_mv rfl)) ?_
  refine wo_nil ?_
  refine nx_norm ?_
  refine w_block ?_
  have hq := bindO_inv hr
  clear hr
  obtain ⟨o_1, hl, hr⟩ := hq
  obtain ⟨n, hl⟩ := hM.loop _ _ _ hl
  refine jp_mono (w_loop _ (g60_I0 ) (g60_J0 ) ?_ n _ _ _ _ hl ⟨rfl, gl g0, gl rfl, gl rfl, gl rfl, gl rfl⟩) ?_
  · clear hr hl
    intro s mm_2 t_1 o hi hr
    obtain ⟨x0_1, v3, x4, x5, x6, m_3⟩ := s
    obtain ⟨rfl, g0, g3, g4, g5, g6⟩ := hi
    unfold g60_b0 at hr
    refine w_seq ?_
    refine w_seq ?_
    refine w_ops ?_
    refine wo_step (v := (.i .i64 x0_1)) (s_pure (p_mv g0)) ?_
    have hq := forceB_inv hr
    clear hr
    obtain ⟨c10, e10, hr⟩ := hq
    refine wo_step (v := (.b c10)) (s_pure (p_bin rfl rfl (b_gtr.trans (cb e10)))) ?_
    refine wo_nil ?_
    refine nx_norm ?_
    have hq := cond_inv hr
    clear hr
    rcases hq with ⟨rfl, hr⟩ | ⟨rfl, hr⟩
    · refine w_condT rfl ?_
      refine w_skip ?_
      refine nx_norm ?_
      refine w_seq ?_
      refine w_block ?_
      refine w_seq ?_
      refine w_seq ?_
      refine w_ops ?_
      refine wo_step (v := (.i .i64 x4)) (s_pure (p_mv g4)) ?_
      refine wo_step (v := (.i .i64 x0_1)) (s_pure (p_mv g0)) ?_
      have hq := forceB_inv hr
      clear hr
      obtain ⟨c15, e15, hr⟩ := hq
      refine wo_step (v := (.b c15)) (s_pure (p_bin rfl rfl (b_leq.trans (cb e15)))) ?_
      refine wo_nil ?_
      refine nx_norm ?_
      have hq := bindO_inv hr
      clear hr
      obtain ⟨o, hr, hk⟩ := hq
      refine jp_mono (J := g60_J1 x4 x5 x6 o) ?_ ?_
      · clear hk
        have hq := cond_inv hr
        clear hr
        rcases hq with ⟨rfl, hr⟩ | ⟨rfl, hr⟩
        · refine w_condT rfl ?_
          refine w_seq ?_
          refine w_ops ?_
          refine wo_step (v := v3) (s_pure (p_mv g3)) ?_
          refine wo_step (v := (.i .i64 x6)) (s_pure (p_mv g6)) ?_
          have hq := bindP_inv hr
          clear hr
          obtain ⟨v18, m_4, e18, hr⟩ := hq
          refine wo_step (v := v18) (s_bsl (qc rfl qn) e18) ?_
          have hq := bindP_inv hr
          clear hr
          obtain ⟨v19, m_5, e19, hr⟩ := hq
          refine wo_step (v := v19) (s_app rfl rfl e19) ?_
          refine wo_step (v := v19) (s_pure (p_mv rfl)) ?_
          refine wo_nil ?_
          refine nx_norm ?_
          refine w_ops ?_
          refine wo_step (v := (.i .i64 x0_1)) (s_pure (p_mv g0)) ?_
          refine wo_step (v := (.i .i64 x4)) (s_pure (p_mv g4)) ?_
          have hq := forceI_inv hr
          clear hr
          obtain ⟨x22, e22, hr⟩ := hq
          refine wo_step (v := (.i .i64 x22)) (s_pure (p_bin rfl rfl (b_sub.trans (ci e22)))) ?_
          refine wo_step (v := (.i .i64 x22)) (s_pure (p_mv rfl)) ?_
          refine wo_nil ?_
          cases hr
          exact ⟨_, _, rfl, rfl, rfl, gl rfl, gl rfl, gl g4, gl g5, gl g6⟩
        · refine w_condF rfl ?_
          refine w_skip ?_
          cases hr
          exact ⟨_, _, rfl, rfl, rfl, gl g0, gl g3, gl g4, gl g5, gl g6⟩
      · clear hr
        have hr := hk
        clear hk
        obtain ⟨x0_2, v3_1, m_6⟩ := o
        rintro _ mm t_2 ⟨rfl, rfl, g0, g3, g4, g5, g6⟩
        refine nx_norm ?_
        refine w_ops ?_
        refine wo_step (v := (.i .i64 x5)) (s_pure (p_mv g5)) ?_
        refine wo_step (v := (.i .i64 x4)) (s_pure (p_mv g4)) ?_
        refine wo_step (v := (.i .i64 x5)) (s_pure (p_mv g5)) ?_
        have hq := forceI_inv hr
        clear hr
        obtain ⟨x26, e26, hr⟩ := hq
        refine wo_step (v := (.i .i64 x26)) (s_pure (p_bin rfl rfl (b_sub.trans (ci e26)))) ?_
        refine wo_step (v := (.i .i64 x5)) (s_pure (p_mv rfl)) ?_
        refine wo_step (v := (.i .i64 x26)) (s_pure (p_mv rfl)) ?_
        refine wo_nil ?_
        refine bk_norm ?_
        refine nx_norm ?_
        refine w_ops ?_
        refine wo_step (v := (.i .i64 x6)) (s_pure (p_mv g6)) ?_
        have hq := forceI_inv hr
        clear hr
        obtain ⟨x12, e12, hr⟩ := hq
        refine wo_step (v := (.i .i64 x12)) (s_pure (p_bin rfl rfl (b_sub.trans (ci e12)))) ?_
        refine wo_step (v := (.i .i64 x12)) (s_pure (p_mv rfl)) ?_
        refine wo_nil ?_
        cases hr
        exact ⟨_, _, rfl, rfl, rfl, gl g0, gl g3, gl rfl, gl rfl, gl rfl⟩
    · refine w_condF rfl ?_
      refine w_exit ?_
      refine nx_exit ?_
      cases hr
      exact ⟨_, _, rfl, ne_norm_exit, rfl, rfl, gl g3⟩
  · obtain ⟨v3_2, m_7⟩ := o_1
    rintro _ mm_1 t_3 ⟨rfl, rfl, g3⟩
    refine bk_hit ?_
    refine nx_norm ?_
    refine w_seq ?_
    refine w_ops ?_
    refine wo_step (v := v3_2) (s_pure (p_mv g3)) ?_
    refine wo_step (v := v3_2) (s_pure (p_mv rfl)) ?_
    refine wo_nil ?_
    refine nx_norm ?_
    refine w_ret ?_
    exact qf ret_ok (rt rfl rn) hr

/- dibber/seed.shifted -/
abbrev g63_I0 (x1 : Int) (v9 : AVal) (x10 : Int) (s : Int × Int × Mm) (m1 : Mm) (t1 : Tr) : Prop :=
  match s with
  | (x5, x11, m_2) => m_2 = m1 ∧ t1.get 5 = (.i .i64 x5) ∧ t1.get 11 = (.i .i64 x11) ∧ t1.get 1 = (.i .i64 x1) ∧ t1.get 9 = v9 ∧ t1.get 10 = (.i .i64 x10)
abbrev g63_J0 (x1 : Int) (v9 : AVal) (x10 : Int) (o : (Int × Mm)) (e : AExit) (m1 : Mm) (t1 : Tr) : Prop :=
  match o with
  | (y5, mo) => e = (.exit 0) ∧ mo = m1 ∧ t1.get 5 = (.i .i64 y5)
def g63_b0 (M : Means) (ro : List ABlk) (x1 : Int) (v9 : AVal) (x10 : Int) (x5 : Int) (x11 : Int) (m_2 : Mm) : Option ((Int × Int × Mm) ⊕ ((Int × Mm))) :=
  forceB (ltI x11 x10) fun c12 =>
  cond c12 (
    bindO (evP .e (.ixS 1 (.c v9) (.c (.i .i64 x11)))) fun v13 =>
    bindO (ldM ro m_2 true 1 v13) fun v14 =>
    asI .i64 v14 fun x14 =>
    forceI (wr .i64 (x14 + x1)) fun x18 =>
    bindP (callM M.call m_2 71 [(.i .i64 x18)]) fun v19 m_3 =>
    asI .i64 v19 fun x19 =>
    forceI (wr .i64 (x5 + x19)) fun x20 =>
    forceI (mxV false x20 1152921504606846977) fun x21 =>
    forceI (wr .i64 (x11 + 1)) fun x22 =>
    some (.inl (x21, x22, m_3))) (
    some (.inr (x5, m_2)))
def g63 (M : Means) (ro : List ABlk) (x0 : Int) (x1 : Int) (m0 : Mm) : Option (AVal × Heap × Nat × Nat) :=
  bindP (callM M.call m0 60 [(.i .i64 x0)]) fun v9 m_1 =>
  bindO (evP .e (.len false (.c v9))) fun v10 =>
  asI .i64 v10 fun x10 =>
  bindO (M.loop (S := Int × Int × Mm) (R := (Int × Mm)) (fun s => g63_b0 M ro x1 v9 x10 s.1 s.2.1 s.2.2) (0, 0, m_1)) fun ⟨x5_1, m_4⟩ =>
  finM m0.h.length (tupA [(.i .i64 x5_1)]) m_4

theorem g63_ok {ro : List ABlk} {O : Caller} {M : Means} (hM : M.Ok ⟨F, O⟩ ro) {x0 x1 h r} (ho : O 63 [(.i .i64 x0), (.i .i64 x1)] h = none) (hr : g63 M ro x0 x1 ⟨h, h.length, h.length⟩ = some r) : callX ⟨F, O⟩ ro 63 [(.i .i64 x0), (.i .i64 x1)] h = some r := by
  refine callX_of (F := ⟨F, O⟩) (fn := fn63) (g := g63 M ro x0 x1) ho rfl rfl hr ?_
  clear ho
  clear hr
  intro m0 t0 ht hr
  have g0 : t0.get 0 = (.i .i64 x0) := ht 0
  have g1 : t0.get 1 = (.i .i64 x1) := ht 1
  clear ht
  unfold g63 at hr
  refine w_seq ?_
  refine w_ops ?_
  refine wo_step (v := (.i .i64 0)) (s_pure (p_mv rfl)) ?_
  refine wo_nil ?_
  refine nx_norm ?_
  refine w_seq ?_
  refine w_ops ?_
  refine wo_step (v := (.i .i64 0)) (s_pure (p_mv rfl)) ?_
  refine wo_nil ?_
  refine nx_norm ?_
  refine w_seq ?_
  refine w_seq ?_
  refine w_ops ?_
  refine wo_step (v := (.i .i64 x0)) (s_pure (p_mv g0)) ?_
  have hq := bindP_inv hr
  clear hr
  obtain ⟨v9, m_1, e9, hr⟩ := hq
  refine wo_step (v := v9) (s_call (mc rfl mn) (callM_le hM.call e9)) ?_
  have hq := bindO_inv hr
  clear hr
  obtain ⟨v10, e10, hr⟩ := hq
  have hq := asI_inv hr
  clear hr
  obtain ⟨x10, rfl, hr⟩ := hq
  refine wo_step (v := (.i .i64 x10)) (s_pure (o_len rfl e10)) ?_
  refine wo_step (v := (.i .i64 0)) (s_pure (p_mv rfl)) ?_
  refine wo_nil ?_
  refine nx_norm ?_
  refine w_block ?_
  have hq := bindO_inv hr
  clear hr
  obtain ⟨o, hl, hr⟩ := hq
  obtain ⟨n, hl⟩ := hM.loop _ _ _ hl
  refine jp_mono (w_loop _ (g63_I0 x1 v9 x10) (g63_J0 x1 v9 x10) ?_ n _ _ _ _ hl ⟨rfl, gl rfl, gl rfl, gl g1, gl rfl, gl rfl⟩) ?_
  · clear hr hl
    intro s mm_1 t_1 o hi hr
    obtain ⟨x5, x11, m_2⟩ := s
    obtain ⟨rfl, g5, g11, g1, g9, g10⟩ := hi
    unfold g63_b0 at hr
    refine w_seq ?_
    refine w_ops ?_
    have hq := forceB_inv hr
    clear hr
    obtain ⟨c12, e12, hr⟩ := hq
    refine wo_step (v := (.b c12)) (s_pure (p_bin g11 g10 (b_lss.trans (cb e12)))) ?_
    refine wo_nil ?_
    refine nx_norm ?_
    refine w_seq ?_
    have hq := cond_inv hr
    clear hr
    rcases hq with ⟨rfl, hr⟩ | ⟨rfl, hr⟩
    · refine w_condT rfl ?_
      refine w_skip ?_
      refine nx_norm ?_
      refine w_seq ?_
      refine w_block ?_
      refine w_seq ?_
      refine w_ops ?_
      have hq := bindO_inv hr
      clear hr
      obtain ⟨v13, e13, hr⟩ := hq
      refine wo_step (v := v13) (s_pure (o_ixS g9 g11 e13)) ?_
      have hq := bindO_inv hr
      clear hr
      obtain ⟨v14, e14, hr⟩ := hq
      have hq := asI_inv hr
      clear hr
      obtain ⟨x14, rfl, hr⟩ := hq
      refine wo_step (v := (.i .i64 x14)) (s_ld rfl e14) ?_
      refine wo_step (v := (.i .i64 x14)) (s_pure (p_mv rfl)) ?_
      refine wo_nil ?_
      refine nx_norm ?_
      refine w_ops ?_
      refine wo_step (v := (.i .i64 x5)) (s_pure (p_mv g5)) ?_
      refine wo_step (v := (.i .i64 x14)) (s_pure (p_mv rfl)) ?_
      refine wo_step (v := (.i .i64 x1)) (s_pure (p_mv g1)) ?_
      have hq := forceI_inv hr
      clear hr
      obtain ⟨x18, e18, hr⟩ := hq
      refine wo_step (v := (.i .i64 x18)) (s_pure (p_bin rfl rfl (b_add.trans (ci e18)))) ?_
      have hq := bindP_inv hr
      clear hr
      obtain ⟨v19, m_3, e19, hr⟩ := hq
      have hq := asI_inv hr
      clear hr
      obtain ⟨x19, rfl, hr⟩ := hq
      refine wo_step (v := (.i .i64 x19)) (s_call (mc rfl mn) (callM_le hM.call e19)) ?_
      have hq := forceI_inv hr
      clear hr
      obtain ⟨x20, e20, hr⟩ := hq
      refine wo_step (v := (.i .i64 x20)) (s_pure (p_bin rfl rfl (b_add.trans (ci e20)))) ?_
      have hq := forceI_inv hr
      clear hr
      obtain ⟨x21, e21, hr⟩ := hq
      refine wo_step (v := (.i .i64 x21)) (s_pure ((p_mx rfl rfl).trans (ci e21))) ?_
      refine wo_step (v := (.i .i64 x21)) (s_pure (p_mv rfl)) ?_
      refine wo_nil ?_
      refine bk_norm ?_
      refine nx_norm ?_
      refine w_ops ?_
      have hq := forceI_inv hr
      clear hr
      obtain ⟨x22, e22, hr⟩ := hq
      refine wo_step (v := (.i .i64 x22)) (s_pure (p_bin g11 rfl (b_add.trans (ci e22)))) ?_
      refine wo_step (v := (.i .i64 x22)) (s_pure (p_mv rfl)) ?_
      refine wo_nil ?_
      cases hr
      exact ⟨_, _, rfl, rfl, rfl, gl rfl, gl rfl, gl g1, gl g9, gl g10⟩
    · refine w_condF rfl ?_
      refine w_exit ?_
      refine nx_exit ?_
      cases hr
      exact ⟨_, _, rfl, ne_norm_exit, rfl, rfl, gl g5⟩
  · obtain ⟨x5_1, m_4⟩ := o
    rintro _ mm t_2 ⟨rfl, rfl, g5⟩
    refine bk_hit ?_
    refine nx_norm ?_
    refine w_seq ?_
    refine w_ops ?_
    refine wo_step (v := (.i .i64 x5_1)) (s_pure (p_mv g5)) ?_
    refine wo_step (v := (.i .i64 x5_1)) (s_pure (p_mv rfl)) ?_
    refine wo_nil ?_
    refine nx_norm ?_
    refine w_ret ?_
    exact qf ret_ok (rt rfl rn) hr

/- dibber/seed.smaller -/

def g66 (M : Means) (ro : List ABlk) (x0 : Int) (m0 : Mm) : Option (AVal × Heap × Nat × Nat) :=
  forceB (eqI x0 0) fun c4 =>
  cond c4 (
    finM m0.h.length (tupA [(.i .i64 0)]) m0) (
    forceI (wr .i64 (x0 - 1)) fun x6 =>
    bindP (callM M.call m0 63 [(.i .i64 x6), (.i .i64 1)]) fun v7 m_1 =>
    asI .i64 v7 fun x7 =>
    forceI (wr .i64 (x7 + 1)) fun x8 =>
    finM m0.h.length (tupA [(.i .i64 x8)]) m_1)

theorem g66_ok {ro : List ABlk} {O : Caller} {M : Means} (hM : M.Ok ⟨F, O⟩ ro) {x0 h r} (ho : O 66 [(.i .i64 x0)] h = none) (hr : g66 M ro x0 ⟨h, h.length, h.length⟩ = some r) : callX ⟨F, O⟩ ro 66 [(.i .i64 x0)] h = some r := by
  refine callX_of (F := ⟨F, O⟩) (fn := fn66) (g := g66 M ro x0) ho rfl rfl hr ?_
  clear ho
  clear hr
  intro m0 t0 ht hr
  have g0 : t0.get 0 = (.i .i64 x0) := ht 0
  clear ht
  unfold g66 at hr
  refine w_seq ?_
  refine w_ops ?_
  refine wo_step (v := (.i .i64 0)) (s_pure (p_mv rfl)) ?_
  refine wo_nil ?_
  refine nx_norm ?_
  refine w_seq ?_
  refine w_seq ?_
  refine w_ops ?_
  refine wo_step (v := (.i .i64 x0)) (s_pure (p_mv g0)) ?_
  have hq := forceB_inv hr
  clear hr
  obtain ⟨c4, e4, hr⟩ := hq
  refine wo_step (v := (.b c4)) (s_pure (p_bin rfl rfl (b_eql.trans (cb e4)))) ?_
  refine wo_nil ?_
  refine nx_norm ?_
  have hq := cond_inv hr
  clear hr
  rcases hq with ⟨rfl, hr⟩ | ⟨rfl, hr⟩
  · refine w_condT rfl ?_
    refine w_seq ?_
    refine w_ops ?_
    refine wo_step (v := (.i .i64 0)) (s_pure (p_mv rfl)) ?_
    refine wo_nil ?_
    refine nx_norm ?_
    refine w_ret ?_
    refine nx_ret ?_
    exact qf ret_ok (rt rfl rn) hr
  · refine w_condF rfl ?_
    refine w_skip ?_
    refine nx_norm ?_
    refine w_seq ?_
    refine w_ops ?_
    refine wo_step (v := (.i .i64 x0)) (s_pure (p_mv g0)) ?_
    have hq := forceI_inv hr
    clear hr
    obtain ⟨x6, e6, hr⟩ := hq
    refine wo_step (v := (.i .i64 x6)) (s_pure (p_bin rfl rfl (b_sub.trans (ci e6)))) ?_
    have hq := bindP_inv hr
    clear hr
    obtain ⟨v7, m_1, e7, hr⟩ := hq
    have hq := asI_inv hr
    clear hr
    obtain ⟨x7, rfl, hr⟩ := hq
    refine wo_step (v := (.i .i64 x7)) (s_call (mc rfl (mc rfl mn)) (callM_le hM.call e7)) ?_
    have hq := forceI_inv hr
    clear hr
    obtain ⟨x8, e8, hr⟩ := hq
    refine wo_step (v := (.i .i64 x8)) (s_pure (p_bin rfl rfl (b_add.trans (ci e8)))) ?_
    refine wo_step (v := (.i .i64 x8)) (s_pure (p_mv rfl)) ?_
    refine wo_nil ?_
    refine nx_norm ?_
    refine w_ret ?_
    exact qf ret_ok (rt rfl rn) hr

/- dibber/dibberref09.Lower -/
abbrev g67_I0 (x0 : Int) (s : Int × Int × Mm) (m1 : Mm) (t1 : Tr) : Prop :=
  match s with
  | (x3, x4, m_1) => m_1 = m1 ∧ t1.get 3 = (.i .i64 x3) ∧ t1.get 4 = (.i .i64 x4) ∧ t1.get 0 = (.i .i64 x0)
abbrev g67_J0 (x0 : Int) (o : (Int × Mm)) (e : AExit) (m1 : Mm) (t1 : Tr) : Prop :=
  match o with
  | (y3, mo) => e = (.exit 0) ∧ mo = m1 ∧ t1.get 3 = (.i .i64 y3)
abbrev g67_J1 (x0 : Int) (m_2 : Mm) (o : (Int × Int)) (e : AExit) (m1 : Mm) (t1 : Tr) : Prop :=
  match o with
  | (y3, y4) => e = .norm ∧ m_2 = m1 ∧ t1.get 3 = (.i .i64 y3) ∧ t1.get 4 = (.i .i64 y4) ∧ t1.get 0 = (.i .i64 x0)
def g67_b0 (M : Means) (ro : List ABlk) (x0 : Int) (x3 : Int) (x4 : Int) (m_1 : Mm) : Option ((Int × Int × Mm) ⊕ ((Int × Mm))) :=
  forceI (wr .i64 (x3 + 1)) fun x12 =>
  forceB (ltI x12 x4) fun c14 =>
  cond c14 (
    forceI (wr .i64 (x4 - x3)) fun x18 =>
    forceI (wr .i64 (Int.tdiv x18 2)) fun x19 =>
    forceI (wr .i64 (x3 + x19)) fun x20 =>
    bindP (callM M.call m_1 77 [(.i .i64 x20), (.i .i64 x0)]) fun v23 m_2 =>
    asB v23 fun c23 =>
    bindO (α := (Int × Int)) (
      cond c23 (
        some (x20, x4)) (
        some (x3, x20))) fun ⟨x3_1, x4_1⟩ =>
    some (.inl (x3_1, x4_1, m_2))) (
    some (.inr (x3, m_1)))
def g67 (M : Means) (ro : List ABlk) (x0 : Int) (m0 : Mm) : Option (AVal × Heap × Nat × Nat) :=
  forceB (eqI x0 0) fun c7 =>
  cond c7 (
    finM m0.h.length (tupA [(.i .i64 0)]) m0) (
    forceI (wr .i64 (2 * x0)) fun x10 =>
    bindO (M.loop (S := Int × Int × Mm) (R := (Int × Mm)) (fun s => g67_b0 M ro x0 s.1 s.2.1 s.2.2) (x0, x10, m0)) fun ⟨x3_2, m_3⟩ =>
    finM m0.h.length (tupA [(.i .i64 x3_2)]) m_3)

theorem g67_ok {ro : List ABlk} {O : Caller} {M : Means} (hM : M.Ok ⟨F, O⟩ ro) {x0 h r} (ho : O 67 [(.i .i64 x0)] h = none) (hr : g67 M ro x0 ⟨h, h.length, h.length⟩ = some r) : callX ⟨F, O⟩ ro 67 [(.i .i64 x0)] h = some r := by
  refine callX_of (F := ⟨F, O⟩) (fn := fn67) (g := g67 M ro x0) ho rfl rfl hr ?_
  clear ho
  clear hr
  intro m0 t0 ht hr
  have g0 : t0.get 0 = (.i .i64 x0) := ht 0
  clear ht
  unfold g67 at hr
  refine w_seq ?_
  refine w_ops ?_
  refine wo_step (v := (.i .i64 0)) (s_pure (p_mv rfl)) ?_
  refine wo_nil ?_
  refine nx_norm ?_
  refine w_seq ?_
  refine w_seq ?_
  refine w_ops ?_
  refine wo_step (v := (.i .i64 x0)) (s_pure (p_mv g0)) ?_
  have hq := forceB_inv hr
  clear hr
  obtain ⟨c7, e7, hr⟩ := hq
  refine wo_step (v := (.b c7)) (s_pure (p_bin rfl rfl (b_eql.trans (cb e7)))) ?_
  refine wo_nil ?_
  refine nx_norm ?_
  have hq := cond_inv hr
  clear hr
  rcases hq with ⟨rfl, hr⟩ | ⟨rfl, hr⟩
  · refine w_condT rfl ?_
    refine w_seq ?_
    refine w_ops ?_
    refine wo_step (v := (.i .i64 0)) (s_pure (p_mv rfl)) ?_
    refine wo_nil ?_
    refine nx_norm ?_
    refine w_ret ?_
    refine nx_ret ?_
    exact qf ret_ok (rt rfl rn) hr
  · refine w_condF rfl ?_
    refine w_skip ?_
    refine nx_norm ?_
    refine w_seq ?_
    refine w_ops ?_
    refine wo_step (v := (.i .i64 x0)) (s_pure (p_mv g0)) ?_
    refine wo_step (v := (.i .i64 x0)) (s_pure (p_mv g0)) ?_
    have hq := forceI_inv hr
    clear hr
    obtain ⟨x10, e10, hr⟩ := hq
    refine wo_step (v := (.i .i64 x10)) (s_pure (p_bin rfl rfl (b_mul.trans (ci e10)))) ?_
    refine wo_step (v := (.i .i64 x0)) (s_pure (p_mv rfl)) ?_
    refine wo_step (v := (.i .i64 x10)) (s_pure (p_mv rfl)) ?_
    refine wo_nil ?_
    refine nx_norm ?_
    refine w_seq ?_
    refine w_block ?_
    have hq := bindO_inv hr
    clear hr
    obtain ⟨o_1, hl, hr⟩ := hq
    obtain ⟨n, hl⟩ := hM.loop _ _ _ hl
    refine jp_mono (w_loop _ (g67_I0 x0) (g67_J0 x0) ?_ n _ _ _ _ hl ⟨rfl, gl rfl, gl rfl, gl g0⟩) ?_
    · clear hr hl
      intro s mm_2 t_1 o hi hr
      obtain ⟨x3, x4, m_1⟩ := s
      obtain ⟨rfl, g3, g4, g0⟩ := hi
      unfold g67_b0 at hr
      refine w_seq ?_
      refine w_seq ?_
      refine w_ops ?_
      refine wo_step (v := (.i .i64 x3)) (s_pure (p_mv g3)) ?_
      have hq := forceI_inv hr
      clear hr
      obtain ⟨x12, e12, hr⟩ := hq
      refine wo_step (v := (.i .i64 x12)) (s_pure (p_bin rfl rfl (b_add.trans (ci e12)))) ?_
      refine wo_step (v := (.i .i64 x4)) (s_pure (p_mv g4)) ?_
      have hq := forceB_inv hr
      clear hr
      obtain ⟨c14, e14, hr⟩ := hq
      refine wo_step (v := (.b c14)) (s_pure (p_bin rfl rfl (b_lss.trans (cb e14)))) ?_
      refine wo_nil ?_
      refine nx_norm ?_
      have hq := cond_inv hr
      clear hr
      rcases hq with ⟨rfl, hr⟩ | ⟨rfl, hr⟩
      · refine w_condT rfl ?_
        refine w_skip ?_
        refine nx_norm ?_
        refine w_block ?_
        refine w_seq ?_
        refine w_ops ?_
        refine wo_step (v := (.i .i64 x3)) (s_pure (p_mv g3)) ?_
        refine wo_step (v := (.i .i64 x4)) (s_pure (p_mv g4)) ?_
        refine wo_step (v := (.i .i64 x3)) (s_pure (p_mv g3)) ?_
        have hq := forceI_inv hr
        clear hr
        obtain ⟨x18, e18, hr⟩ := hq
        refine wo_step (v := (.i .i64 x18)) (s_pure (p_bin rfl rfl (b_sub.trans (ci e18)))) ?_
        have hq := forceI_inv hr
        clear hr
        obtain ⟨x19, e19, hr⟩ := hq
        refine wo_step (v := (.i .i64 x19)) (s_pure (p_bin rfl rfl ((b_quo rfl).trans (ci e19)))) ?_
        have hq := forceI_inv hr
        clear hr
        obtain ⟨x20, e20, hr⟩ := hq
        refine wo_step (v := (.i .i64 x20)) (s_pure (p_bin rfl rfl (b_add.trans (ci e20)))) ?_
        refine wo_step (v := (.i .i64 x20)) (s_pure (p_mv rfl)) ?_
        refine wo_nil ?_
        refine nx_norm ?_
        refine w_seq ?_
        refine w_ops ?_
        refine wo_step (v := (.i .i64 x20)) (s_pure (p_mv rfl)) ?_
        refine wo_step (v := (.i .i64 x0)) (s_pure (p_mv g0)) ?_
        have hq := bindP_inv hr
        clear hr
        obtain ⟨v23, m_2, e23, hr⟩ := hq
        have hq := asB_inv hr
        clear hr
        obtain ⟨c23, rfl, hr⟩ := hq
        refine wo_step (v := (.b c23)) (s_call (mc rfl (mc rfl mn)) (callM_le hM.call e23)) ?_
        refine wo_nil ?_
        refine nx_norm ?_
        have hq := bindO_inv hr
        clear hr
        obtain ⟨o, hr, hk⟩ := hq
        refine jp_mono (J := g67_J1 x0 m_2 o) ?_ ?_
        · clear hk
          have hq := cond_inv hr
          clear hr
          rcases hq with ⟨rfl, hr⟩ | ⟨rfl, hr⟩
          · refine w_condT rfl ?_
            refine w_ops ?_
            refine wo_step (v := (.i .i64 x20)) (s_pure (p_mv rfl)) ?_
            refine wo_step (v := (.i .i64 x20)) (s_pure (p_mv rfl)) ?_
            refine wo_nil ?_
            cases hr
            exact ⟨_, _, rfl, rfl, rfl, gl rfl, gl g4, gl g0⟩
          · refine w_condF rfl ?_
            refine w_ops ?_
            refine wo_step (v := (.i .i64 x20)) (s_pure (p_mv rfl)) ?_
            refine wo_step (v := (.i .i64 x20)) (s_pure (p_mv rfl)) ?_
            refine wo_nil ?_
            cases hr
            exact ⟨_, _, rfl, rfl, rfl, gl g3, gl rfl, gl g0⟩
        · clear hr
          have hr := hk
          clear hk
          obtain ⟨x3_1, x4_1⟩ := o
          rintro _ mm t_2 ⟨rfl, rfl, g3, g4, g0⟩
          refine bk_norm ?_
          cases hr
          exact ⟨_, _, rfl, rfl, rfl, gl g3, gl g4, gl g0⟩
      · refine w_condF rfl ?_
        refine w_exit ?_
        refine nx_exit ?_
        cases hr
        exact ⟨_, _, rfl, ne_norm_exit, rfl, rfl, gl g3⟩
    · obtain ⟨x3_2, m_3⟩ := o_1
      rintro _ mm_1 t_3 ⟨rfl, rfl, g3⟩
      refine bk_hit ?_
      refine nx_norm ?_
      refine w_seq ?_
      refine w_ops ?_
      refine wo_step (v := (.i .i64 x3_2)) (s_pure (p_mv g3)) ?_
      refine wo_step (v := (.i .i64 x3_2)) (s_pure (p_mv rfl)) ?_
      refine wo_nil ?_
      refine nx_norm ?_
      refine w_ret ?_
      exact qf ret_ok (rt rfl rn) hr

/- dibber/seed.partner -/

def g68 (M : Means) (ro : List ABlk) (x0 : Int) (m0 : Mm) : Option (AVal × Heap × Nat × Nat) :=
  forceB (eqI x0 0) fun c5 =>
  cond c5 (
    finM m0.h.length (tupA [(.i .i64 0)]) m0) (
    bindP (callM M.call m0 72 [(.i .i64 x0)]) fun v7 m_1 =>
    asI .i64 v7 fun x7 =>
    forceI (wr .i64 (x7 - 2)) fun x8 =>
    forceI (Int.tmod x8 2) fun x10 =>
    forceB (eqI x10 0) fun c11 =>
    cond c11 (
      bindP (callM M.call m_1 63 [(.i .i64 x0), (.i .i64 1)]) fun v13 m_2 =>
      asI .i64 v13 fun x13 =>
      finM m0.h.length (tupA [(.i .i64 x13)]) m_2) (
      bindP (callM M.call m_1 63 [(.i .i64 x0), (.i .i64 (-1))]) fun v15 m_3 =>
      asI .i64 v15 fun x15 =>
      finM m0.h.length (tupA [(.i .i64 x15)]) m_3))

theorem g68_ok {ro : List ABlk} {O : Caller} {M : Means} (hM : M.Ok ⟨F, O⟩ ro) {x0 h r} (ho : O 68 [(.i .i64 x0)] h = none) (hr : g68 M ro x0 ⟨h, h.length, h.length⟩ = some r) : callX ⟨F, O⟩ ro 68 [(.i .i64 x0)] h = some r := by
  refine callX_of (F := ⟨F, O⟩) (fn := fn68) (g := g68 M ro x0) ho rfl rfl hr ?_
  clear ho
  clear hr
  intro m0 t0 ht hr
  have g0 : t0.get 0 = (.i .i64 x0) := ht 0
  clear ht
  unfold g68 at hr
  refine w_seq ?_
  refine w_ops ?_
  refine wo_step (v := (.i .i64 0)) (s_pure (p_mv rfl)) ?_
  refine wo_nil ?_
  refine nx_norm ?_
  refine w_seq ?_
  refine w_seq ?_
  refine w_ops ?_
  refine wo_step (v := (.i .i64 x0)) (s_pure (p_mv g0)) ?_
  have hq := forceB_inv hr
  clear hr
  obtain ⟨c5, e5, hr⟩ := hq
  refine wo_step (v := (.b c5)) (s_pure (p_bin rfl rfl (b_eql.trans (cb e5)))) ?_
  refine wo_nil ?_
  refine nx_norm ?_
  have hq := cond_inv hr
  clear hr
  rcases hq with ⟨rfl, hr⟩ | ⟨rfl, hr⟩
  · refine w_condT rfl ?_
    refine w_seq ?_
    refine w_ops ?_
    refine wo_step (v := (.i .i64 0)) (s_pure (p_mv rfl)) ?_
    refine wo_nil ?_
    refine nx_norm ?_
    refine w_ret ?_
    refine nx_ret ?_
    exact qf ret_ok (rt rfl rn) hr
  · refine w_condF rfl ?_
    refine w_skip ?_
    refine nx_norm ?_
    refine w_seq ?_
    refine w_seq ?_
    refine w_ops ?_
    refine wo_step (v := (.i .i64 x0)) (s_pure (p_mv g0)) ?_
    have hq := bindP_inv hr
    clear hr
    obtain ⟨v7, m_1, e7, hr⟩ := hq
    have hq := asI_inv hr
    clear hr
    obtain ⟨x7, rfl, hr⟩ := hq
    refine wo_step (v := (.i .i64 x7)) (s_call (mc rfl mn) (callM_le hM.call e7)) ?_
    have hq := forceI_inv hr
    clear hr
    obtain ⟨x8, e8, hr⟩ := hq
    refine wo_step (v := (.i .i64 x8)) (s_pure (p_bin rfl rfl (b_sub.trans (ci e8)))) ?_
    refine wo_step (v := (.i .i64 x8)) (s_pure (p_mv rfl)) ?_
    refine wo_nil ?_
    refine nx_norm ?_
    refine w_seq ?_
    refine w_ops ?_
    refine wo_step (v := (.i .i64 x8)) (s_pure (p_mv rfl)) ?_
    have hq := forceI_inv hr
    clear hr
    obtain ⟨x10, e10, hr⟩ := hq
    refine wo_step (v := (.i .i64 x10)) (s_pure (p_bin rfl rfl ((b_rem rfl).trans (ci e10)))) ?_
    have hq := forceB_inv hr
    clear hr
    obtain ⟨c11, e11, hr⟩ := hq
    refine wo_step (v := (.b c11)) (s_pure (p_bin rfl rfl (b_eql.trans (cb e11)))) ?_
    refine wo_nil ?_
    refine nx_norm ?_
    have hq := cond_inv hr
    clear hr
    rcases hq with ⟨rfl, hr⟩ | ⟨rfl, hr⟩
    · refine w_condT rfl ?_
      refine w_seq ?_
      refine w_ops ?_
      refine wo_step (v := (.i .i64 x0)) (s_pure (p_mv g0)) ?_
      have hq := bindP_inv hr
      clear hr
      obtain ⟨v13, m_2, e13, hr⟩ := hq
      have hq := asI_inv hr
      clear hr
      obtain ⟨x13, rfl, hr⟩ := hq
      refine wo_step (v := (.i .i64 x13)) (s_call (mc rfl (mc rfl mn)) (callM_le hM.call e13)) ?_
      refine wo_step (v := (.i .i64 x13)) (s_pure (p_mv rfl)) ?_
      refine wo_nil ?_
      refine nx_norm ?_
      refine w_ret ?_
      refine nx_ret ?_
      exact qf ret_ok (rt rfl rn) hr
    · refine w_condF rfl ?_
      refine w_skip ?_
      refine nx_norm ?_
      refine w_seq ?_
      refine w_ops ?_
      refine wo_step (v := (.i .i64 x0)) (s_pure (p_mv g0)) ?_
      have hq := bindP_inv hr
      clear hr
      obtain ⟨v15, m_3, e15, hr⟩ := hq
      have hq := asI_inv hr
      clear hr
      obtain ⟨x15, rfl, hr⟩ := hq
      refine wo_step (v := (.i .i64 x15)) (s_call (mc rfl (mc rfl mn)) (callM_le hM.call e15)) ?_
      refine wo_step (v := (.i .i64 x15)) (s_pure (p_mv rfl)) ?_
      refine wo_nil ?_
      refine nx_norm ?_
      refine w_ret ?_
      exact qf ret_ok (rt rfl rn) hr

/- dibber/dibberref09.lost -/

def g69 (M : Means) (ro : List ABlk) (x0 : Int) (x1 : Int) (m0 : Mm) : Option (AVal × Heap × Nat × Nat) :=
  forceI (mxV false x0 x1) fun x7 =>
  forceI (mxV true x0 x1) fun x10 =>
  forceI (mxV false x0 x1) fun x13 =>
  forceI (wr .i64 (x10 - x13)) fun x14 =>
  bindP (callM M.call m0 67 [(.i .i64 x14)]) fun v15 m_1 =>
  asI .i64 v15 fun x15 =>
  forceB (eqI x7 x15) fun c16 =>
  finM m0.h.length (tupA [(.b c16)]) m_1

theorem g69_ok {ro : List ABlk} {O : Caller} {M : Means} (hM : M.Ok ⟨F, O⟩ ro) {x0 x1 h r} (ho : O 69 [(.i .i64 x0), (.i .i64 x1)] h = none) (hr : g69 M ro x0 x1 ⟨h, h.length, h.length⟩ = some r) : callX ⟨F, O⟩ ro 69 [(.i .i64 x0), (.i .i64 x1)] h = some r := by
  refine callX_of (F := ⟨F, O⟩) (fn := fn69) (g := g69 M ro x0 x1) ho rfl rfl hr ?_
  clear ho
  clear hr
  intro m0 t0 ht hr
  have g0 : t0.get 0 = (.i .i64 x0) := ht 0
  have g1 : t0.get 1 = (.i .i64 x1) := ht 1
  clear ht
  unfold g69 at hr
  refine w_seq ?_
  refine w_ops ?_
  refine wo_step (v := (.b false)) (s_pure (p_mv rfl)) ?_
  refine wo_nil ?_
  refine nx_norm ?_
  refine w_seq ?_
  refine w_ops ?_
  refine wo_step (v := (.i .i64 x0)) (s_pure (p_mv g0)) ?_
  refine wo_step (v := (.i .i64 x1)) (s_pure (p_mv g1)) ?_
  have hq := forceI_inv hr
  clear hr
  obtain ⟨x7, e7, hr⟩ := hq
  refine wo_step (v := (.i .i64 x7)) (s_pure ((p_mx rfl rfl).trans (ci e7))) ?_
  refine wo_step (v := (.i .i64 x0)) (s_pure (p_mv g0)) ?_
  refine wo_step (v := (.i .i64 x1)) (s_pure (p_mv g1)) ?_
  have hq := forceI_inv hr
  clear hr
  obtain ⟨x10, e10, hr⟩ := hq
  refine wo_step (v := (.i .i64 x10)) (s_pure ((p_mx rfl rfl).trans (ci e10))) ?_
  refine wo_step (v := (.i .i64 x0)) (s_pure (p_mv g0)) ?_
  refine wo_step (v := (.i .i64 x1)) (s_pure (p_mv g1)) ?_
  have hq := forceI_inv hr
  clear hr
  obtain ⟨x13, e13, hr⟩ := hq
  refine wo_step (v := (.i .i64 x13)) (s_pure ((p_mx rfl rfl).trans (ci e13))) ?_
  have hq := forceI_inv hr
  clear hr
  obtain ⟨x14, e14, hr⟩ := hq
  refine wo_step (v := (.i .i64 x14)) (s_pure (p_bin rfl rfl (b_sub.trans (ci e14)))) ?_
  have hq := bindP_inv hr
  clear hr
  obtain ⟨v15, m_1, e15, hr⟩ := hq
  have hq := asI_inv hr
  clear hr
  obtain ⟨x15, rfl, hr⟩ := hq
  refine wo_step (v := (.i .i64 x15)) (s_call (mc rfl mn) (callM_le hM.call e15)) ?_
  have hq := forceB_inv hr
  clear hr
  obtain ⟨c16, e16, hr⟩ := hq
  refine wo_step (v := (.b c16)) (s_pure (p_bin rfl rfl (b_eql.trans (cb e16)))) ?_
  refine wo_step (v := (.b c16)) (s_pure (p_mv rfl)) ?_
  refine wo_nil ?_
  refine nx_norm ?_
  refine w_ret ?_
  exact qf ret_ok (rt rfl rn) hr

/- dibber/dibberref09.partner -/
abbrev g70_I0 (x0 : Int) (s : Int × Mm) (m1 : Mm) (t1 : Tr) : Prop :=
  match s with
  | (x3, m_1) => m_1 = m1 ∧ t1.get 3 = (.i .i64 x3) ∧ t1.get 0 = (.i .i64 x0)
abbrev g70_J0 (x0 : Int) (o : (Mm ⊕ (Int × Mm))) (e : AExit) (m1 : Mm) (t1 : Tr) : Prop :=
  match o with
  | (.inl mo) => e = (.exit 0) ∧ mo = m1 ∧ t1.get 0 = (.i .i64 x0)
  | (.inr (y2, mo)) => e = .ret ∧ mo = m1 ∧ t1.get 2 = (.i .i64 y2)
abbrev g70_I1 (x0 : Int) (x3 : Int) (s : Int × Int × Mm) (m1 : Mm) (t1 : Tr) : Prop :=
  match s with
  | (x4, x5, m_2) => m_2 = m1 ∧ t1.get 4 = (.i .i64 x4) ∧ t1.get 5 = (.i .i64 x5) ∧ t1.get 0 = (.i .i64 x0) ∧ t1.get 3 = (.i .i64 x3)
abbrev g70_J1 (x0 : Int) (x3 : Int) (o : (Int × Mm)) (e : AExit) (m1 : Mm) (t1 : Tr) : Prop :=
  match o with
  | (y4, mo) => e = (.exit 2) ∧ mo = m1 ∧ t1.get 4 = (.i .i64 y4) ∧ t1.get 0 = (.i .i64 x0) ∧ t1.get 3 = (.i .i64 x3)
abbrev g70_J2 (x0 : Int) (x3 : Int) (m_3 : Mm) (o : (Int × Int)) (e : AExit) (m1 : Mm) (t1 : Tr) : Prop :=
  match o with
  | (y4, y5) => e = .norm ∧ m_3 = m1 ∧ t1.get 4 = (.i .i64 y4) ∧ t1.get 5 = (.i .i64 y5) ∧ t1.get 0 = (.i .i64 x0) ∧ t1.get 3 = (.i .i64 x3)
def g70_b1 (M : Means) (ro : List ABlk) (x0 : Int) (x3 : Int) (x4 : Int) (x5 : Int) (m_2 : Mm) : Option ((Int × Int × Mm) ⊕ ((Int × Mm))) :=
  forceI (wr .i64 (x4 + 1)) fun x15 =>
  forceB (ltI x15 x5) fun c17 =>
  cond c17 (
    forceI (wr .i64 (x5 - x4)) fun x21 =>
    forceI (wr .i64 (Int.tdiv x21 2)) fun x22 =>
    forceI (wr .i64 (x4 + x22)) fun x23 =>
    bindP (callM M.call m_2 67 [(.i .i64 x23)]) fun v25 m_3 =>
    asI .i64 v25 fun x25 =>
    forceI (wr .i64 (x3 * x23)) fun x28 =>
    forceI (wr .i64 (x25 + x28)) fun x29 =>
    forceB (!ltI x0 x29) fun c31 =>
    bindO (α := (Int × Int)) (
      cond c31 (
        some (x23, x5)) (
        some (x4, x23))) fun ⟨x4_1, x5_1⟩ =>
    some (.inl (x4_1, x5_1, m_3))) (
    some (.inr (x4, m_2)))
abbrev g70_J3 (x0 : Int) (x3 : Int) (x4_2 : Int) (x35 : Int) (m_5 : Mm) (o : Bool) (m1 : Mm) (t1 : Tr) : Prop :=
  match o with
  | c42 => m_5 = m1 ∧ t1.get 42 = (.b c42) ∧ t1.get 0 = (.i .i64 x0) ∧ t1.get 3 = (.i .i64 x3) ∧ t1.get 4 = (.i .i64 x4_2) ∧ t1.get 7 = (.i .i64 x35)
abbrev g70_J4 (x0 : Int) (x3 : Int) (x35 : Int) (m_5 : Mm) (o : Bool) (m1 : Mm) (t1 : Tr) : Prop :=
  match o with
  | c54 => m_5 = m1 ∧ t1.get 54 = (.b c54) ∧ t1.get 0 = (.i .i64 x0) ∧ t1.get 3 = (.i .i64 x3) ∧ t1.get 7 = (.i .i64 x35)
def g70_b0 (M : Means) (ro : List ABlk) (x0 : Int) (x3 : Int) (m_1 : Mm) : Option ((Int × Mm) ⊕ ((Mm ⊕ (Int × Mm)))) :=
  forceB (ltI x3 2) fun c9 =>
  cond c9 (
    forceI (wr .i64 (x0 + 1)) fun x13 =>
    bindO (M.loop (S := Int × Int × Mm) (R := (Int × Mm)) (fun s => g70_b1 M ro x0 x3 s.1 s.2.1 s.2.2) (0, x13, m_1)) fun ⟨x4_2, m_4⟩ =>
    bindP (callM M.call m_4 67 [(.i .i64 x4_2)]) fun v35 m_5 =>
    asI .i64 v35 fun x35 =>
    forceB (eqI x3 0) fun c37 =>
    bindO (cond c37 (
      forceB (eqI x35 x0) fun c41 =>
      some c41) (
      some false)) fun c42 =>
    cond c42 (
      forceI (wr .i64 (x35 + x4_2)) fun x45 =>
      some (.inr (.inr (x45, m_5)))) (
      forceB (eqI x3 1) fun c47 =>
      bindO (cond c47 (
        forceI (wr .i64 (x35 + x4_2)) fun x51 =>
        forceB (eqI x51 x0) fun c53 =>
        some c53) (
        some false)) fun c54 =>
      cond c54 (
        some (.inr (.inr (x35, m_5)))) (
        forceI (wr .i64 (x3 + 1)) fun x11 =>
        some (.inl (x11, m_5))))) (
    some (.inr (.inl m_1)))
def g70 (M : Means) (ro : List ABlk) (x0 : Int) (m0 : Mm) : Option (AVal × Heap × Nat × Nat) :=
  bindO (M.loop (S := Int × Mm) (R := (Mm ⊕ (Int × Mm))) (fun s => g70_b0 M ro x0 s.1 s.2) (0, m0)) fun o_4 => match o_4 with
  | (.inl m_6) =>
    finM m0.h.length (tupA [(.i .i64 x0)]) m_6
  | (.inr (x2, m_7)) =>
    finM m0.h.length (tupA [(.i .i64 x2)]) m_7

theorem g70_ok {ro : List ABlk} {O : Caller} {M : Means} (hM : M.Ok ⟨F, O⟩ ro) {x0 h r} (ho : O 70 [(.i .i64 x0)] h = none) (hr : g70 M ro x0 ⟨h, h.length, h.length⟩ = some r) : callX ⟨F, O⟩ ro 70 [(.i .i64 x0)] h = some r := by
  refine callX_of (F := ⟨F, O⟩) (fn := fn70) (g := g70 M ro x0) ho rfl rfl hr ?_
  clear ho
  clear hr
  intro m0 t0 ht hr
  have g0 : t0.get 0 = (.i .i64 x0) := ht 0
  clear ht
  unfold g70 at hr
  refine w_seq ?_
  refine w_ops ?_
  refine wo_step (v := (.i .i64 0)) (s_pure (p_mv rfl)) ?_
  refine wo_nil ?_
  refine nx_norm ?_
  refine w_seq ?_
  refine w_seq ?_
  refine w_ops ?_
  refine wo_step (v := (.i .i64 0)) (s_pure (p_mv rfl)) ?_
  refine wo_nil ?_
  refine nx_norm ?_
  refine w_block ?_
  have hq := bindO_inv hr
  clear hr
  obtain ⟨o_4, hl_1, hr⟩ := hq
  obtain ⟨n_1, hl_1⟩ := hM.loop _ _ _ hl_1
  refine jp_mono (w_loop _ (g70_I0 x0) (g70_J0 x0) ?_ n_1 _ _ _ _ hl_1 ⟨rfl, gl rfl, gl g0⟩) ?_
  · clear hr hl_1
    intro s mm_7 t_1 o hi hr
    obtain ⟨x3, m_1⟩ := s
    obtain ⟨rfl, g3, g0⟩ := hi
    unfold g70_b0 at hr
    refine w_seq ?_
    refine w_seq ?_
    refine w_ops ?_
    refine wo_step (v := (.i .i64 x3)) (s_pure (p_mv g3)) ?_
    have hq := forceB_inv hr
    clear hr
    obtain ⟨c9, e9, hr⟩ := hq
    refine wo_step (v := (.b c9)) (s_pure (p_bin rfl rfl (b_lss.trans (cb e9)))) ?_
    refine wo_nil ?_
    refine nx_norm ?_
    have hq := cond_inv hr
    clear hr
    rcases hq with ⟨rfl, hr⟩ | ⟨rfl, hr⟩
    · refine w_condT rfl ?_
      refine w_skip ?_
      refine nx_norm ?_
      refine w_seq ?_
      refine w_block ?_
      refine w_seq ?_
      refine w_ops ?_
      refine wo_step (v := (.i .i64 x0)) (s_pure (p_mv g0)) ?_
      have hq := forceI_inv hr
      clear hr
      obtain ⟨x13, e13, hr⟩ := hq
      refine wo_step (v := (.i .i64 x13)) (s_pure (p_bin rfl rfl (b_add.trans (ci e13)))) ?_
      refine wo_step (v := (.i .i64 0)) (s_pure (p_mv rfl)) ?_
      refine wo_step (v := (.i .i64 x13)) (s_pure (p_mv rfl)) ?_
      refine wo_nil ?_
      refine nx_norm ?_
      refine w_seq ?_
      refine w_block ?_
      have hq := bindO_inv hr
      clear hr
      obtain ⟨o_1, hl, hr⟩ := hq
      obtain ⟨n, hl⟩ := hM.loop _ _ _ hl
      refine jp_mono (w_loop _ (g70_I1 x0 x3) (g70_J1 x0 x3) ?_ n _ _ _ _ hl ⟨rfl, gl rfl, gl rfl, gl g0, gl g3⟩) ?_
      · clear hr hl
        intro s mm_4 t_2 o hi hr
        obtain ⟨x4, x5, m_2⟩ := s
        obtain ⟨rfl, g4, g5, g0, g3⟩ := hi
        unfold g70_b1 at hr
        refine w_seq ?_
        refine w_seq ?_
        refine w_ops ?_
        refine wo_step (v := (.i .i64 x4)) (s_pure (p_mv g4)) ?_
        have hq := forceI_inv hr
        clear hr
        obtain ⟨x15, e15, hr⟩ := hq
        refine wo_step (v := (.i .i64 x15)) (s_pure (p_bin rfl rfl (b_add.trans (ci e15)))) ?_
        refine wo_step (v := (.i .i64 x5)) (s_pure (p_mv g5)) ?_
        have hq := forceB_inv hr
        clear hr
        obtain ⟨c17, e17, hr⟩ := hq
        refine wo_step (v := (.b c17)) (s_pure (p_bin rfl rfl (b_lss.trans (cb e17)))) ?_
        refine wo_nil ?_
        refine nx_norm ?_
        have hq := cond_inv hr
        clear hr
        rcases hq with ⟨rfl, hr⟩ | ⟨rfl, hr⟩
        · refine w_condT rfl ?_
          refine w_skip ?_
          refine nx_norm ?_
          refine w_block ?_
          refine w_seq ?_
          refine w_ops ?_
          refine wo_step (v := (.i .i64 x4)) (s_pure (p_mv g4)) ?_
          refine wo_step (v := (.i .i64 x5)) (s_pure (p_mv g5)) ?_
          refine wo_step (v := (.i .i64 x4)) (s_pure (p_mv g4)) ?_
          have hq := forceI_inv hr
          clear hr
          obtain ⟨x21, e21, hr⟩ := hq
          refine wo_step (v := (.i .i64 x21)) (s_pure (p_bin rfl rfl (b_sub.trans (ci e21)))) ?_
          have hq := forceI_inv hr
          clear hr
          obtain ⟨x22, e22, hr⟩ := hq
          refine wo_step (v := (.i .i64 x22)) (s_pure (p_bin rfl rfl ((b_quo rfl).trans (ci e22)))) ?_
          have hq := forceI_inv hr
          clear hr
          obtain ⟨x23, e23, hr⟩ := hq
          refine wo_step (v := (.i .i64 x23)) (s_pure (p_bin rfl rfl (b_add.trans (ci e23)))) ?_
          refine wo_step (v := (.i .i64 x23)) (s_pure (p_mv rfl)) ?_
          refine wo_nil ?_
          refine nx_norm ?_
          refine w_seq ?_
          refine w_ops ?_
          refine wo_step (v := (.i .i64 x23)) (s_pure (p_mv rfl)) ?_
          have hq := bindP_inv hr
          clear hr
          obtain ⟨v25, m_3, e25, hr⟩ := hq
          have hq := asI_inv hr
          clear hr
          obtain ⟨x25, rfl, hr⟩ := hq
          refine wo_step (v := (.i .i64 x25)) (s_call (mc rfl mn) (callM_le hM.call e25)) ?_
          refine wo_step (v := (.i .i64 x3)) (s_pure (p_mv g3)) ?_
          refine wo_step (v := (.i .i64 x23)) (s_pure (p_mv rfl)) ?_
          have hq := forceI_inv hr
          clear hr
          obtain ⟨x28, e28, hr⟩ := hq
          refine wo_step (v := (.i .i64 x28)) (s_pure (p_bin rfl rfl (b_mul.trans (ci e28)))) ?_
          have hq := forceI_inv hr
          clear hr
          obtain ⟨x29, e29, hr⟩ := hq
          refine wo_step (v := (.i .i64 x29)) (s_pure (p_bin rfl rfl (b_add.trans (ci e29)))) ?_
          refine wo_step (v := (.i .i64 x0)) (s_pure (p_mv g0)) ?_
          have hq := forceB_inv hr
          clear hr
          obtain ⟨c31, e31, hr⟩ := hq
          refine wo_step (v := (.b c31)) (s_pure (p_bin rfl rfl (b_leq.trans (cb e31)))) ?_
          refine wo_nil ?_
          refine nx_norm ?_
          have hq := bindO_inv hr
          clear hr
          obtain ⟨o, hr, hk⟩ := hq
          refine jp_mono (J := g70_J2 x0 x3 m_3 o) ?_ ?_
          · clear hk
            have hq := cond_inv hr
            clear hr
            rcases hq with ⟨rfl, hr⟩ | ⟨rfl, hr⟩
            · refine w_condT rfl ?_
              refine w_ops ?_
              refine wo_step (v := (.i .i64 x23)) (s_pure (p_mv rfl)) ?_
              refine wo_step (v := (.i .i64 x23)) (s_pure (p_mv rfl)) ?_
              refine wo_nil ?_
              cases hr
              exact ⟨_, _, rfl, rfl, rfl, gl rfl, gl g5, gl g0, gl g3⟩
            · refine w_condF rfl ?_
              refine w_ops ?_
              refine wo_step (v := (.i .i64 x23)) (s_pure (p_mv rfl)) ?_
              refine wo_step (v := (.i .i64 x23)) (s_pure (p_mv rfl)) ?_
              refine wo_nil ?_
              cases hr
              exact ⟨_, _, rfl, rfl, rfl, gl g4, gl rfl, gl g0, gl g3⟩
          · clear hr
            have hr := hk
            clear hk
            obtain ⟨x4_1, x5_1⟩ := o
            rintro _ mm t_3 ⟨rfl, rfl, g4, g5, g0, g3⟩
            refine bk_norm ?_
            cases hr
            exact ⟨_, _, rfl, rfl, rfl, gl g4, gl g5, gl g0, gl g3⟩
        · refine w_condF rfl ?_
          refine w_exit ?_
          refine nx_exit ?_
          cases hr
          exact ⟨_, _, rfl, ne_norm_exit, rfl, rfl, gl g4, gl g0, gl g3⟩
      · obtain ⟨x4_2, m_4⟩ := o_1
        rintro _ mm_3 t_4 ⟨rfl, rfl, g4, g0, g3⟩
        refine bk_hit ?_
        refine nx_norm ?_
        refine w_seq ?_
        refine w_ops ?_
        refine wo_step (v := (.i .i64 x4_2)) (s_pure (p_mv g4)) ?_
        have hq := bindP_inv hr
        clear hr
        obtain ⟨v35, m_5, e35, hr⟩ := hq
        have hq := asI_inv hr
        clear hr
        obtain ⟨x35, rfl, hr⟩ := hq
        refine wo_step (v := (.i .i64 x35)) (s_call (mc rfl mn) (callM_le hM.call e35)) ?_
        refine wo_step (v := (.i .i64 x35)) (s_pure (p_mv rfl)) ?_
        refine wo_nil ?_
        refine nx_norm ?_
        refine w_seq ?_
        refine w_seq ?_
        refine w_ops ?_
        refine wo_step (v := (.i .i64 x3)) (s_pure (p_mv g3)) ?_
        have hq := forceB_inv hr
        clear hr
        obtain ⟨c37, e37, hr⟩ := hq
        refine wo_step (v := (.b c37)) (s_pure (p_bin rfl rfl (b_eql.trans (cb e37)))) ?_
        refine wo_step (v := (.b c37)) (s_pure (p_mv rfl)) ?_
        have hq := bindO_inv hr
        clear hr
        obtain ⟨o_2, hr, hk⟩ := hq
        refine wo_join 4 (g70_J3 x0 x3 x4_2 x35 m_5 o_2) ?_ ?_
        · clear hk
          have hq := cond_inv hr
          clear hr
          rcases hq with ⟨rfl, hr⟩ | ⟨rfl, hr⟩
          · refine wo_take (v := (.i .i64 x35)) rfl (s_pure (p_mv rfl)) ?_
            refine wo_take (v := (.i .i64 x0)) rfl (s_pure (p_mv g0)) ?_
            have hq := forceB_inv hr
            clear hr
            obtain ⟨c41, e41, hr⟩ := hq
            refine wo_take (v := (.b c41)) rfl (s_pure (p_bin rfl rfl (b_eql.trans (cb e41)))) ?_
            refine wo_step (v := (.b c41)) (s_pure (p_pickT rfl rfl)) ?_
            refine wo_nil ?_
            cases hr
            exact ⟨_, _, rfl, rfl, gl rfl, gl g0, gl g3, gl g4, gl rfl⟩
          · refine wo_skip (v := (.b false)) rfl rfl ?_
            refine wo_skip (v := (.b false)) rfl rfl ?_
            refine wo_skip (v := (.b false)) rfl rfl ?_
            refine wo_step (v := (.b false)) (s_pure (p_pickF rfl rfl)) ?_
            refine wo_nil ?_
            cases hr
            exact ⟨_, _, rfl, rfl, gl rfl, gl g0, gl g3, gl g4, gl rfl⟩
        · clear hr
          have hr := hk
          clear hk
          obtain ⟨c42, ho⟩ : ∃ z, z = o_2 := ⟨_, rfl⟩
          subst ho
          rintro mm_1 t_5 ⟨rfl, g42, g0, g3, g4, g7⟩
          refine wo_nil ?_
          refine nx_norm ?_
          have hq := cond_inv hr
          clear hr
          rcases hq with ⟨rfl, hr⟩ | ⟨rfl, hr⟩
          · refine w_condT g42 ?_
            refine w_seq ?_
            refine w_ops ?_
            refine wo_step (v := (.i .i64 x35)) (s_pure (p_mv g7)) ?_
            refine wo_step (v := (.i .i64 x4_2)) (s_pure (p_mv g4)) ?_
            have hq := forceI_inv hr
            clear hr
            obtain ⟨x45, e45, hr⟩ := hq
            refine wo_step (v := (.i .i64 x45)) (s_pure (p_bin rfl rfl (b_add.trans (ci e45)))) ?_
            refine wo_step (v := (.i .i64 x45)) (s_pure (p_mv rfl)) ?_
            refine wo_nil ?_
            refine nx_norm ?_
            refine w_ret ?_
            refine nx_ret ?_
            refine bk_ret ?_
            refine nx_ret ?_
            cases hr
            exact ⟨_, _, rfl, ne_norm_ret, rfl, rfl, gl rfl⟩
          · refine w_condF g42 ?_
            refine w_skip ?_
            refine nx_norm ?_
            refine w_seq ?_
            refine w_ops ?_
            refine wo_step (v := (.i .i64 x3)) (s_pure (p_mv g3)) ?_
            have hq := forceB_inv hr
            clear hr
            obtain ⟨c47, e47, hr⟩ := hq
            refine wo_step (v := (.b c47)) (s_pure (p_bin rfl rfl (b_eql.trans (cb e47)))) ?_
            refine wo_step (v := (.b c47)) (s_pure (p_mv rfl)) ?_
            have hq := bindO_inv hr
            clear hr
            obtain ⟨o_3, hr, hk⟩ := hq
            refine wo_join 6 (g70_J4 x0 x3 x35 m_5 o_3) ?_ ?_
            · clear hk
              have hq := cond_inv hr
              clear hr
              rcases hq with ⟨rfl, hr⟩ | ⟨rfl, hr⟩
              · refine wo_take (v := (.i .i64 x35)) rfl (s_pure (p_mv g7)) ?_
                refine wo_take (v := (.i .i64 x4_2)) rfl (s_pure (p_mv g4)) ?_
                have hq := forceI_inv hr
                clear hr
                obtain ⟨x51, e51, hr⟩ := hq
                refine wo_take (v := (.i .i64 x51)) rfl (s_pure (p_bin rfl rfl (b_add.trans (ci e51)))) ?_
                refine wo_take (v := (.i .i64 x0)) rfl (s_pure (p_mv g0)) ?_
                have hq := forceB_inv hr
                clear hr
                obtain ⟨c53, e53, hr⟩ := hq
                refine wo_take (v := (.b c53)) rfl (s_pure (p_bin rfl rfl (b_eql.trans (cb e53)))) ?_
                refine wo_step (v := (.b c53)) (s_pure (p_pickT rfl rfl)) ?_
                refine wo_nil ?_
                cases hr
                exact ⟨_, _, rfl, rfl, gl rfl, gl g0, gl g3, gl g7⟩
              · refine wo_skip (v := (.b false)) rfl rfl ?_
                refine wo_skip (v := (.b false)) rfl rfl ?_
                refine wo_skip (v := (.b false)) rfl rfl ?_
                refine wo_skip (v := (.b false)) rfl rfl ?_
                refine wo_skip (v := (.b false)) rfl rfl ?_
                refine wo_step (v := (.b false)) (s_pure (p_pickF rfl rfl)) ?_
                refine wo_nil ?_
                cases hr
                exact ⟨_, _, rfl, rfl, gl rfl, gl g0, gl g3, gl g7⟩
            · clear hr
              have hr := hk
              clear hk
              obtain ⟨c54, ho⟩ : ∃ z, z = o_3 := ⟨_, rfl⟩
              subst ho
              rintro mm_2 t_6 ⟨rfl, g54, g0, g3, g7⟩
              refine wo_nil ?_
              refine nx_norm ?_
              have hq := cond_inv hr
              clear hr
              rcases hq with ⟨rfl, hr⟩ | ⟨rfl, hr⟩
              · refine w_condT g54 ?_
                refine w_seq ?_
                refine w_ops ?_
                refine wo_step (v := (.i .i64 x35)) (s_pure (p_mv g7)) ?_
                refine wo_step (v := (.i .i64 x35)) (s_pure (p_mv rfl)) ?_
                refine wo_nil ?_
                refine nx_norm ?_
                refine w_ret ?_
                refine bk_ret ?_
                refine nx_ret ?_
                cases hr
                exact ⟨_, _, rfl, ne_norm_ret, rfl, rfl, gl rfl⟩
              · refine w_condF g54 ?_
                refine w_skip ?_
                refine bk_norm ?_
                refine nx_norm ?_
                refine w_ops ?_
                refine wo_step (v := (.i .i64 x3)) (s_pure (p_mv g3)) ?_
                have hq := forceI_inv hr
                clear hr
                obtain ⟨x11, e11, hr⟩ := hq
                refine wo_step (v := (.i .i64 x11)) (s_pure (p_bin rfl rfl (b_add.trans (ci e11)))) ?_
                refine wo_step (v := (.i .i64 x11)) (s_pure (p_mv rfl)) ?_
                refine wo_nil ?_
                cases hr
                exact ⟨_, _, rfl, rfl, rfl, gl rfl, gl g0⟩
    · refine w_condF rfl ?_
      refine w_exit ?_
      refine nx_exit ?_
      cases hr
      exact ⟨_, _, rfl, ne_norm_exit, rfl, rfl, gl g0⟩
  · rcases o_4 with o_4 | o_4
    · obtain ⟨m_6, ho⟩ : ∃ z, z = o_4 := ⟨_, rfl⟩
      subst ho
      rintro _ mm_5 t_7 ⟨rfl, rfl, g0⟩
      refine bk_hit ?_
      refine nx_norm ?_
      refine w_seq ?_
      refine w_ops ?_
      refine wo_step (v := (.i .i64 x0)) (s_pure (p_mv g0)) ?_
      refine wo_step (v := (.i .i64 x0)) (s_pure (p_mv rfl)) ?_
      refine wo_nil ?_
      refine nx_norm ?_
      refine w_ret ?_
      exact qf ret_ok (rt rfl rn) hr
    · obtain ⟨x2, m_7⟩ := o_4
      rintro _ mm_6 t_8 ⟨rfl, rfl, g2⟩
      refine bk_ret ?_
      refine nx_ret ?_
      exact qf ret_ok (rt g2 rn) hr

/- dibber/seed.fibonacci -/
abbrev g71_I0 (x0 : Int) (x6 : Int) (m0 : Mm) (s : Int × Int × Int) (m1 : Mm) (t1 : Tr) : Prop :=
  match s with
  | (x3, x4, x7) => m0 = m1 ∧ t1.get 3 = (.i .i64 x3) ∧ t1.get 4 = (.i .i64 x4) ∧ t1.get 7 = (.i .i64 x7) ∧ t1.get 0 = (.i .i64 x0) ∧ t1.get 6 = (.i .i64 x6)
abbrev g71_J0 (x0 : Int) (x6 : Int) (m0 : Mm) (o : (Int × Int)) (e : AExit) (m1 : Mm) (t1 : Tr) : Prop :=
  match o with
  | (y3, y4) => e = (.exit 0) ∧ m0 = m1 ∧ t1.get 3 = (.i .i64 y3) ∧ t1.get 4 = (.i .i64 y4) ∧ t1.get 0 = (.i .i64 x0)
def g71_b0 (M : Means) (ro : List ABlk) (x0 : Int) (x6 : Int) (m0 : Mm) (x3 : Int) (x4 : Int) (x7 : Int) : Option ((Int × Int × Int) ⊕ ((Int × Int))) :=
  forceB (ltI x7 x6) fun c8 =>
  cond c8 (
    forceI (wr .i64 (x3 + x4)) fun x12 =>
    forceI (mxV false x12 1152921504606846977) fun x13 =>
    forceI (wr .i64 (x7 + 1)) fun x14 =>
    some (.inl (x4, x13, x14))) (
    some (.inr (x3, x4)))
abbrev g71_I1 (x16 : Int) (m0 : Mm) (s : Int × Int × Int) (m1 : Mm) (t1 : Tr) : Prop :=
  match s with
  | (x3_2, x4_2, x17) => m0 = m1 ∧ t1.get 3 = (.i .i64 x3_2) ∧ t1.get 4 = (.i .i64 x4_2) ∧ t1.get 17 = (.i .i64 x17) ∧ t1.get 16 = (.i .i64 x16)
abbrev g71_J1 (x16 : Int) (m0 : Mm) (o : Int) (e : AExit) (m1 : Mm) (t1 : Tr) : Prop :=
  match o with
  | y3 => e = (.exit 2) ∧ m0 = m1 ∧ t1.get 3 = (.i .i64 y3)
def g71_b1 (M : Means) (ro : List ABlk) (x16 : Int) (m0 : Mm) (x3_2 : Int) (x4_2 : Int) (x17 : Int) : Option ((Int × Int × Int) ⊕ (Int)) :=
  forceB (ltI x17 x16) fun c18 =>
  cond c18 (
    forceI (wr .i64 (x4_2 - x3_2)) fun x21 =>
    forceI (wr .i64 (x17 + 1)) fun x23 =>
    some (.inl (x21, x3_2, x23))) (
    some (.inr x3_2))
def g71 (M : Means) (ro : List ABlk) (x0 : Int) (m0 : Mm) : Option (AVal × Heap × Nat × Nat) :=
  forceI (mxV false x0 89) fun x6 =>
  bindO (M.loop (S := Int × Int × Int) (R := (Int × Int)) (fun s => g71_b0 M ro x0 x6 m0 s.1 s.2.1 s.2.2) (0, 1, 0)) fun ⟨x3_1, x4_1⟩ =>
  forceI (wr .i64 (0 - x0)) fun x16 =>
  bindO (M.loop (S := Int × Int × Int) (R := Int) (fun s => g71_b1 M ro x16 m0 s.1 s.2.1 s.2.2) (x3_1, x4_1, 0)) fun x3_3 =>
  finM m0.h.length (tupA [(.i .i64 x3_3)]) m0

theorem g71_ok {ro : List ABlk} {O : Caller} {M : Means} (hM : M.Ok ⟨F, O⟩ ro) {x0 h r} (ho : O 71 [(.i .i64 x0)] h = none) (hr : g71 M ro x0 ⟨h, h.length, h.length⟩ = some r) : callX ⟨F, O⟩ ro 71 [(.i .i64 x0)] h = some r := by
  refine callX_of (F := ⟨F, O⟩) (fn := fn71) (g := g71 M ro x0) ho rfl rfl hr ?_
  clear ho
  clear hr
  intro m0 t0 ht hr
  have g0 : t0.get 0 = (.i .i64 x0) := ht 0
  clear ht
  unfold g71 at hr
  refine w_seq ?_
  refine w_ops ?_
  refine wo_step (v := (.i .i64 0)) (s_pure (p_mv rfl)) ?_
  refine wo_nil ?_
  refine nx_norm ?_
  refine w_seq ?_
  refine w_ops ?_
  refine wo_step (v := (.i .i64 0)) (s_pure (p_mv rfl)) ?_
  refine wo_step (v := (.i .i64 1)) (s_pure (p_mv rfl)) ?_
  refine wo_nil ?_
  refine nx_norm ?_
  refine w_seq ?_
  refine w_seq ?_
  refine w_ops ?_
  refine wo_step (v := (.i .i64 x0)) (s_pure (p_mv g0)) ?_
  have hq := forceI_inv hr
  clear hr
  obtain ⟨x6, e6, hr⟩ := hq
  refine wo_step (v := (.i .i64 x6)) (s_pure ((p_mx rfl rfl).trans (ci e6))) ?_
  refine wo_step (v := (.i .i64 0)) (s_pure (p_mv rfl)) ?_
  refine wo_nil ?_
  refine nx_norm ?_
  refine w_block ?_
  have hq := bindO_inv hr
  clear hr
  obtain ⟨o, hl_1, hr⟩ := hq
  obtain ⟨n_1, hl_1⟩ := hM.loop _ _ _ hl_1
  refine jp_mono (w_loop _ (g71_I0 x0 x6 m0) (g71_J0 x0 x6 m0) ?_ n_1 _ _ _ _ hl_1 ⟨rfl, gl rfl, gl rfl, gl rfl, gl g0, gl rfl⟩) ?_
  · clear hr hl_1
    intro s mm_3 t_1 o hi hr
    obtain ⟨x3, x4, x7⟩ := s
    obtain ⟨rfl, g3, g4, g7, g0, g6⟩ := hi
    unfold g71_b0 at hr
    refine w_seq ?_
    refine w_ops ?_
    have hq := forceB_inv hr
    clear hr
    obtain ⟨c8, e8, hr⟩ := hq
    refine wo_step (v := (.b c8)) (s_pure (p_bin g7 g6 (b_lss.trans (cb e8)))) ?_
    refine wo_nil ?_
    refine nx_norm ?_
    refine w_seq ?_
    have hq := cond_inv hr
    clear hr
    rcases hq with ⟨rfl, hr⟩ | ⟨rfl, hr⟩
    · refine w_condT rfl ?_
      refine w_skip ?_
      refine nx_norm ?_
      refine w_seq ?_
      refine w_block ?_
      refine w_ops ?_
      refine wo_step (v := (.i .i64 x4)) (s_pure (p_mv g4)) ?_
      refine wo_step (v := (.i .i64 x3)) (s_pure (p_mv g3)) ?_
      refine wo_step (v := (.i .i64 x4)) (s_pure (p_mv g4)) ?_
      have hq := forceI_inv hr
      clear hr
      obtain ⟨x12, e12, hr⟩ := hq
      refine wo_step (v := (.i .i64 x12)) (s_pure (p_bin rfl rfl (b_add.trans (ci e12)))) ?_
      have hq := forceI_inv hr
      clear hr
      obtain ⟨x13, e13, hr⟩ := hq
      refine wo_step (v := (.i .i64 x13)) (s_pure ((p_mx rfl rfl).trans (ci e13))) ?_
      refine wo_step (v := (.i .i64 x4)) (s_pure (p_mv rfl)) ?_
      refine wo_step (v := (.i .i64 x13)) (s_pure (p_mv rfl)) ?_
      refine wo_nil ?_
      refine bk_norm ?_
      refine nx_norm ?_
      refine w_ops ?_
      have hq := forceI_inv hr
      clear hr
      obtain ⟨x14, e14, hr⟩ := hq
      refine wo_step (v := (.i .i64 x14)) (s_pure (p_bin g7 rfl (b_add.trans (ci e14)))) ?_
      refine wo_step (v := (.i .i64 x14)) (s_pure (p_mv rfl)) ?_
      refine wo_nil ?_
      cases hr
      exact ⟨_, _, rfl, rfl, rfl, gl rfl, gl rfl, gl rfl, gl g0, gl g6⟩
    · refine w_condF rfl ?_
      refine w_exit ?_
      refine nx_exit ?_
      cases hr
      exact ⟨_, _, rfl, ne_norm_exit, rfl, rfl, gl g3, gl g4, gl g0⟩
  · obtain ⟨x3_1, x4_1⟩ := o
    rintro _ mm_2 t_2 ⟨rfl, rfl, g3, g4, g0⟩
    refine bk_hit ?_
    refine nx_norm ?_
    refine w_seq ?_
    refine w_seq ?_
    refine w_ops ?_
    refine wo_step (v := (.i .i64 x0)) (s_pure (p_mv g0)) ?_
    have hq := forceI_inv hr
    clear hr
    obtain ⟨x16, e16, hr⟩ := hq
    refine wo_step (v := (.i .i64 x16)) (s_pure ((p_neg rfl).trans (ci e16))) ?_
    refine wo_step (v := (.i .i64 0)) (s_pure (p_mv rfl)) ?_
    refine wo_nil ?_
    refine nx_norm ?_
    refine w_block ?_
    have hq := bindO_inv hr
    clear hr
    obtain ⟨o_1, hl, hr⟩ := hq
    obtain ⟨n, hl⟩ := hM.loop _ _ _ hl
    refine jp_mono (w_loop _ (g71_I1 x16 m0) (g71_J1 x16 m0) ?_ n _ _ _ _ hl ⟨rfl, gl g3, gl g4, gl rfl, gl rfl⟩) ?_
    · clear hr hl
      intro s mm_1 t_3 o hi hr
      obtain ⟨x3_2, x4_2, x17⟩ := s
      obtain ⟨rfl, g3, g4, g17, g16⟩ := hi
      unfold g71_b1 at hr
      refine w_seq ?_
      refine w_ops ?_
      have hq := forceB_inv hr
      clear hr
      obtain ⟨c18, e18, hr⟩ := hq
      refine wo_step (v := (.b c18)) (s_pure (p_bin g17 g16 (b_lss.trans (cb e18)))) ?_
      refine wo_nil ?_
      refine nx_norm ?_
      refine w_seq ?_
      have hq := cond_inv hr
      clear hr
      rcases hq with ⟨rfl, hr⟩ | ⟨rfl, hr⟩
      · refine w_condT rfl ?_
        refine w_skip ?_
        refine nx_norm ?_
        refine w_seq ?_
        refine w_block ?_
        refine w_ops ?_
        refine wo_step (v := (.i .i64 x4_2)) (s_pure (p_mv g4)) ?_
        refine wo_step (v := (.i .i64 x3_2)) (s_pure (p_mv g3)) ?_
        have hq := forceI_inv hr
        clear hr
        obtain ⟨x21, e21, hr⟩ := hq
        refine wo_step (v := (.i .i64 x21)) (s_pure (p_bin rfl rfl (b_sub.trans (ci e21)))) ?_
        refine wo_step (v := (.i .i64 x3_2)) (s_pure (p_mv g3)) ?_
        refine wo_step (v := (.i .i64 x21)) (s_pure (p_mv rfl)) ?_
        refine wo_step (v := (.i .i64 x3_2)) (s_pure (p_mv rfl)) ?_
        refine wo_nil ?_
        refine bk_norm ?_
        refine nx_norm ?_
        refine w_ops ?_
        have hq := forceI_inv hr
        clear hr
        obtain ⟨x23, e23, hr⟩ := hq
        refine wo_step (v := (.i .i64 x23)) (s_pure (p_bin g17 rfl (b_add.trans (ci e23)))) ?_
        refine wo_step (v := (.i .i64 x23)) (s_pure (p_mv rfl)) ?_
        refine wo_nil ?_
        cases hr
        exact ⟨_, _, rfl, rfl, rfl, gl rfl, gl rfl, gl rfl, gl g16⟩
      · refine w_condF rfl ?_
        refine w_exit ?_
        refine nx_exit ?_
        cases hr
        exact ⟨_, _, rfl, ne_norm_exit, rfl, rfl, gl g3⟩
    · obtain ⟨x3_3, ho⟩ : ∃ z, z = o_1 := ⟨_, rfl⟩
      subst ho
      rintro _ mm t_4 ⟨rfl, rfl, g3⟩
      refine bk_hit ?_
      refine nx_norm ?_
      refine w_seq ?_
      refine w_ops ?_
      refine wo_step (v := (.i .i64 x3_3)) (s_pure (p_mv g3)) ?_
      refine wo_step (v := (.i .i64 x3_3)) (s_pure (p_mv rfl)) ?_
      refine wo_nil ?_
      refine nx_norm ?_
      refine w_ret ?_
      exact qf ret_ok (rt rfl rn) hr

/- dibber/seed.leastPart -/

def g72 (M : Means) (ro : List ABlk) (x0 : Int) (m0 : Mm) : Option (AVal × Heap × Nat × Nat) :=
  bindP (callM M.call m0 60 [(.i .i64 x0)]) fun v5 m_1 =>
  bindO (evP .e (.len false (.c v5))) fun v8 =>
  asI .i64 v8 fun x8 =>
  forceI (wr .i64 (x8 - 1)) fun x9 =>
  bindO (evP .e (.ixS 1 (.c v5) (.c (.i .i64 x9)))) fun v10 =>
  bindO (ldM ro m_1 true 1 v10) fun v11 =>
  asI .i64 v11 fun x11 =>
  finM m0.h.length (tupA [(.i .i64 x11)]) m_1

theorem g72_ok {ro : List ABlk} {O : Caller} {M : Means} (hM : M.Ok ⟨F, O⟩ ro) {x0 h r} (ho : O 72 [(.i .i64 x0)] h = none) (hr : g72 M ro x0 ⟨h, h.length, h.length⟩ = some r) : callX ⟨F, O⟩ ro 72 [(.i .i64 x0)] h = some r := by
  refine callX_of (F := ⟨F, O⟩) (fn := fn72) (g := g72 M ro x0) ho rfl rfl hr ?_
  clear ho
  clear hr
  intro m0 t0 ht hr
  have g0 : t0.get 0 = (.i .i64 x0) := ht 0
  clear ht
  unfold g72 at hr
  refine w_seq ?_
  refine w_ops ?_
  refine wo_step (v := (.i .i64 0)) (s_pure (p_mv rfl)) ?_
  refine wo_nil ?_
  refine nx_norm ?_
  refine w_seq ?_
  refine w_ops ?_
  refine wo_step (v := (.i .i64 x0)) (s_pure (p_mv g0)) ?_
  have hq := bindP_inv hr
  clear hr
  obtain ⟨v5, m_1, e5, hr⟩ := hq
  refine wo_step (v := v5) (s_call (mc rfl mn) (callM_le hM.call e5)) ?_
  refine wo_step (v := v5) (s_pure (p_mv rfl)) ?_
  refine wo_nil ?_
  refine nx_norm ?_
  refine w_seq ?_
  refine w_ops ?_
  refine wo_step (v := v5) (s_pure (p_mv rfl)) ?_
  refine wo_step (v := v5) (s_pure (p_mv rfl)) ?_
  have hq := bindO_inv hr
  clear hr
  obtain ⟨v8, e8, hr⟩ := hq
  have hq := asI_inv hr
  clear hr
  obtain ⟨x8, rfl, hr⟩ := hq
  refine wo_step (v := (.i .i64 x8)) (s_pure (o_len rfl e8)) ?_
  have hq := forceI_inv hr
  clear hr
  obtain ⟨x9, e9, hr⟩ := hq
  refine wo_step (v := (.i .i64 x9)) (s_pure (p_bin rfl rfl (b_sub.trans (ci e9)))) ?_
  have hq := bindO_inv hr
  clear hr
  obtain ⟨v10, e10, hr⟩ := hq
  refine wo_step (v := v10) (s_pure (o_ixS rfl rfl e10)) ?_
  have hq := bindO_inv hr
  clear hr
  obtain ⟨v11, e11, hr⟩ := hq
  have hq := asI_inv hr
  clear hr
  obtain ⟨x11, rfl, hr⟩ := hq
  refine wo_step (v := (.i .i64 x11)) (s_ld rfl e11) ?_
  refine wo_step (v := (.i .i64 x11)) (s_pure (p_mv rfl)) ?_
  refine wo_nil ?_
  refine nx_norm ?_
  refine w_ret ?_
  exact qf ret_ok (rt rfl rn) hr

/- dibber/dibberref09.under -/

def g77 (M : Means) (ro : List ABlk) (x0 : Int) (x1 : Int) (m0 : Mm) : Option (AVal × Heap × Nat × Nat) :=
  bindP (callM M.call m0 81 [(.i .i64 x0)]) fun v8 m_1 =>
  bindP (callM M.call m_1 81 [(.i .i64 x1)]) fun v10 m_2 =>
  bindP (stepM ro m_2 (.al 75 [(AVal.b false), AVal.nsl])) fun v5 m_3 =>
  bindP (stepM ro m_3 (.al 75 [(AVal.b false), AVal.nsl])) fun v6 m_4 =>
  bindP (stepM ro m_4 (.st 2 (.c v5) (.c v8))) fun vn m_5 =>
  bindP (stepM ro m_5 (.st 2 (.c v6) (.c v10))) fun vn_1 m_6 =>
  bindO (some (Mm.base m_6)) fun m_7 =>
  bindO (ldM ro m_7 false 2 v5) fun v11 =>
  bindO (ldM ro m_7 false 2 v5) fun v12 =>
  bindP (callM M.call m_7 83 [v11, v12]) fun v13 m_8 =>
  chk (!Nat.blt m_8.lw m_6.h.length) <|
  bindO (ldA ro m_6.h false 2 v5) fun v14 =>
  bindO (ldA ro m_6.h false 2 v6) fun v15 =>
  bindP (callM M.call m_8 83 [v14, v15]) fun v16 m_9 =>
  chk (!Nat.blt m_9.lw m_6.h.length) <|
  bindO (ldA ro m_6.h false 2 v6) fun v17 =>
  bindO (ldA ro m_6.h false 2 v6) fun v18 =>
  bindP (callM M.call m_9 83 [v17, v18]) fun v19 m_10 =>
  bindP (callM M.call m_10 84 [v16, v19]) fun v20 m_11 =>
  bindP (callM M.call m_11 82 [v13, v20]) fun v21 m_12 =>
  asI .i64 v21 fun x21 =>
  forceB (ltI x21 0) fun c22 =>
  bindO (some (Mm.join m_6 m_12)) fun m_13 =>
  finM m0.h.length (tupA [(.b c22)]) m_13

theorem g77_ok {ro : List ABlk} {O : Caller} {M : Means} (hM : M.Ok ⟨F, O⟩ ro) {x0 x1 h r} (ho : O 77 [(.i .i64 x0), (.i .i64 x1)] h = none) (hr : g77 M ro x0 x1 ⟨h, h.length, h.length⟩ = some r) : callX ⟨F, O⟩ ro 77 [(.i .i64 x0), (.i .i64 x1)] h = some r := by
  refine callX_of (F := ⟨F, O⟩) (fn := fn77) (g := g77 M ro x0 x1) ho rfl rfl hr ?_
  clear ho
  clear hr
  intro m0 t0 ht hr
  have g0 : t0.get 0 = (.i .i64 x0) := ht 0
  have g1 : t0.get 1 = (.i .i64 x1) := ht 1
  clear ht
  unfold g77 at hr
  refine w_seq ?_
  refine w_ops ?_
  refine wo_step (v := (.b false)) (s_pure (p_mv rfl)) ?_
  refine wo_nil ?_
  refine nx_norm ?_
  refine w_seq ?_
  refine w_ops ?_
  refine wo_step (v := (.i .i64 x0)) (s_pure (p_mv g0)) ?_
  have hq := bindP_inv hr
  clear hr
  obtain ⟨v8, m_1, e8, hr⟩ := hq
  refine wo_step (v := v8) (s_call (mc rfl mn) (callM_le hM.call e8)) ?_
  refine wo_step (v := (.i .i64 x1)) (s_pure (p_mv g1)) ?_
  have hq := bindP_inv hr
  clear hr
  obtain ⟨v10, m_2, e10, hr⟩ := hq
  refine wo_step (v := v10) (s_call (mc rfl mn) (callM_le hM.call e10)) ?_
  have hq := bindP_inv hr
  clear hr
  obtain ⟨v5, m_3, e5, hr⟩ := hq
  refine wo_step (v := v5) (s_al e5) ?_
  have hq := bindP_inv hr
  clear hr
  obtain ⟨v6, m_4, e6, hr⟩ := hq
  refine wo_step (v := v6) (s_al e6) ?_
  have hq := bindP_inv hr
  clear hr
  obtain ⟨vn, m_5, en, hr⟩ := hq
  refine wo_stepN (s_st rfl rfl en) ?_
  have hq := bindP_inv hr
  clear hr
  obtain ⟨vn_1, m_6, en_1, hr⟩ := hq
  refine wo_stepN (s_st rfl rfl en_1) ?_
  refine wo_nil ?_
  refine nx_norm ?_
  refine w_seq ?_
  have hq := bindO_inv hr
  clear hr
  obtain ⟨m_7, ef, hr⟩ := hq
  refine w_flt (af := true) rfl ef ?_
  have hq := bindO_inv hr
  clear hr
  obtain ⟨v11, e11, hr⟩ := hq
  refine wf_step (v := v11) (f_P rfl (s_ld rfl e11)) ?_
  have hq := bindO_inv hr
  clear hr
  obtain ⟨v12, e12, hr⟩ := hq
  refine wf_step (v := v12) (f_P rfl (s_ld rfl e12)) ?_
  have hq := bindP_inv hr
  clear hr
  obtain ⟨v13, m_8, e13, hr⟩ := hq
  have hq := chk_inv hr
  clear hr
  obtain ⟨hc13, hr⟩ := hq
  refine wf_step (v := v13) (f_M hc13 (s_call (mc rfl (mc rfl mn)) (callM_le hM.call e13))) ?_
  have hq := bindO_inv hr
  clear hr
  obtain ⟨v14, e14, hr⟩ := hq
  refine wf_step (v := v14) (f_ld rfl e14) ?_
  have hq := bindO_inv hr
  clear hr
  obtain ⟨v15, e15, hr⟩ := hq
  refine wf_step (v := v15) (f_ld rfl e15) ?_
  have hq := bindP_inv hr
  clear hr
  obtain ⟨v16, m_9, e16, hr⟩ := hq
  have hq := chk_inv hr
  clear hr
  obtain ⟨hc16, hr⟩ := hq
  refine wf_step (v := v16) (f_M hc16 (s_call (mc rfl (mc rfl mn)) (callM_le hM.call e16))) ?_
  have hq := bindO_inv hr
  clear hr
  obtain ⟨v17, e17, hr⟩ := hq
  refine wf_step (v := v17) (f_ld rfl e17) ?_
  have hq := bindO_inv hr
  clear hr
  obtain ⟨v18, e18, hr⟩ := hq
  refine wf_step (v := v18) (f_ld rfl e18) ?_
  have hq := bindP_inv hr
  clear hr
  obtain ⟨v19, m_10, e19, hr⟩ := hq
  refine wf_step (v := v19) (f_F rfl (s_call (mc rfl (mc rfl mn)) (callM_le hM.call e19))) ?_
  have hq := bindP_inv hr
  clear hr
  obtain ⟨v20, m_11, e20, hr⟩ := hq
  refine wf_step (v := v20) (f_F rfl (s_call (mc rfl (mc rfl mn)) (callM_le hM.call e20))) ?_
  have hq := bindP_inv hr
  clear hr
  obtain ⟨v21, m_12, e21, hr⟩ := hq
  have hq := asI_inv hr
  clear hr
  obtain ⟨x21, rfl, hr⟩ := hq
  refine wf_step (v := (.i .i64 x21)) (f_F rfl (s_call (mc rfl (mc rfl mn)) (callM_le hM.call e21))) ?_
  have hq := forceB_inv hr
  clear hr
  obtain ⟨c22, e22, hr⟩ := hq
  refine wf_step (v := (.b c22)) (f_P rfl (s_pure (p_bin rfl rfl (b_lss.trans (cb e22))))) ?_
  refine wf_step (v := (.b c22)) (f_P rfl (s_pure (p_mv rfl))) ?_
  have hq := bindO_inv hr
  clear hr
  obtain ⟨m_13, ef_1, hr⟩ := hq
  refine wf_end ef_1 ?_
  refine nx_norm ?_
  refine w_ret ?_
  exact qf ret_ok (rt rfl rn) hr

/- dibber/dibberref01.Of -/
abbrev g81_I0 (v2 : AVal) (c7 : Bool) (s : Int × AVal × Mm) (m1 : Mm) (t1 : Tr) : Prop :=
  match s with
  | (x0_1, v3, m_2) => m_2 = m1 ∧ t1.get 0 = (.i .i64 x0_1) ∧ t1.get 3 = v3 ∧ t1.get 2 = v2 ∧ t1.get 4 = (.b c7)
abbrev g81_J0 (v2 : AVal) (c7 : Bool) (o : (AVal × Mm)) (e : AExit) (m1 : Mm) (t1 : Tr) : Prop :=
  match o with
  | (y3, mo) => e = (.exit 0) ∧ mo = m1 ∧ t1.get 3 = y3 ∧ t1.get 2 = v2 ∧ t1.get 4 = (.b c7)
abbrev g81_J1 (x0_1 : Int) (v2 : AVal) (v3 : AVal) (c7 : Bool) (m_2 : Mm) (o : Int) (e : AExit) (m1 : Mm) (t1 : Tr) : Prop :=
  match o with
  | y5 => e = .norm ∧ m_2 = m1 ∧ t1.get 5 = (.i .i64 y5) ∧ t1.get 0 = (.i .i64 x0_1) ∧ t1.get 2 = v2 ∧ t1.get 3 = v3 ∧ t1.get 4 = (.b c7)
def g81_b0 (M : Means) (ro : List ABlk) (v2 : AVal) (c7 : Bool) (x0_1 : Int) (v3 : AVal) (m_2 : Mm) : Option ((Int × AVal × Mm) ⊕ ((AVal × Mm))) :=
  forceB (!eqI x0_1 0) fun c9 =>
  cond c9 (
    forceI (Int.tmod x0_1 10000) fun x11 =>
    forceB (ltI x11 0) fun c13 =>
    bindO (α := Int) (
      cond c13 (
        forceI (wr .i64 (0 - x11)) fun x15 =>
        some x15) (
        some x11)) fun x5 =>
    bindP (stepM ro m_2 (.bsl 3 1 [(AVal.i IntKind.i64 0)] 1 [((0, 1), .c (.i .i64 x5))])) fun v18 m_3 =>
    bindP (stepM ro m_3 (.app 3 1 8 [(AVal.i IntKind.i64 0)] (.c v3) (.c v18))) fun v19 m_4 =>
    forceI (wr .i64 (Int.tdiv x0_1 10000)) fun x21 =>
    some (.inl (x21, v19, m_4))) (
    some (.inr (v3, m_2)))
def g81 (M : Means) (ro : List ABlk) (x0 : Int) (m0 : Mm) : Option (AVal × Heap × Nat × Nat) :=
  bindP (stepM ro m0 (.al 75 [(AVal.b false), AVal.nsl])) fun v2 m_1 =>
  forceB (ltI x0 0) fun c7 =>
  bindO (M.loop (S := Int × AVal × Mm) (R := (AVal × Mm)) (fun s => g81_b0 M ro v2 c7 s.1 s.2.1 s.2.2) (x0, AVal.nsl, m_1)) fun ⟨v3_1, m_5⟩ =>
  bindP (callM M.call m_5 87 [(.b c7), v3_1]) fun v24 m_6 =>
  bindP (stepM ro m_6 (.st 2 (.c v2) (.c v24))) fun vn m_7 =>
  bindO (ldM ro m_7 false 2 v2) fun vr =>
  finM m0.h.length (tupA [vr]) m_7

theorem g81_ok {ro : List ABlk} {O : Caller} {M : Means} (hM : M.Ok ⟨F, O⟩ ro) {x0 h r} (ho : O 81 [(.i .i64 x0)] h = none) (hr : g81 M ro x0 ⟨h, h.length, h.length⟩ = some r) : callX ⟨F, O⟩ ro 81 [(.i .i64 x0)] h = some r := by
  refine callX_of (F := ⟨F, O⟩) (fn := fn81) (g := g81 M ro x0) ho rfl rfl hr ?_
  clear ho
  clear hr
  intro m0 t0 ht hr
  have g0 : t0.get 0 = (.i .i64 x0) := ht 0
  clear ht
  unfold g81 at hr
  refine w_seq ?_
  refine w_ops ?_
  have hq := bindP_inv hr
  clear hr
  obtain ⟨v2, m_1, e2, hr⟩ := hq
  refine wo_step (v := v2) (s_al e2) ?_
  refine wo_nil ?_
  refine nx_norm ?_
  refine w_seq ?_
  refine w_ops ?_
  refine wo_step (v := AVal.nsl) (s_pure (p_mv rfl)) ?_
  refine wo_nil ?_
  refine nx_norm ?_
  refine w_seq ?_
  refine w_ops ?_
  refine wo_step (v := (.i .i64 x0)) (s_pure (p_mv g0)) ?_
  have hq := forceB_inv hr
  clear hr
  obtain ⟨c7, e7, hr⟩ := hq
  refine wo_step (v := (.b c7)) (s_pure (p_bin rfl rfl (b_lss.trans (cb e7)))) ?_
  refine wo_step (v := (.b c7)) (s_pure (p_mv rfl)) ?_
  refine wo_nil ?_
  refine nx_norm ?_
  refine w_seq ?_
  refine w_block ?_
  have hq := bindO_inv hr
  clear hr
  obtain ⟨o_1, hl, hr⟩ := hq
  obtain ⟨n, hl⟩ := hM.loop _ _ _ hl
  refine jp_mono (w_loop _ (g81_I0 v2 c7) (g81_J0 v2 c7) ?_ n _ _ _ _ hl ⟨rfl, gl g0, gl rfl, gl rfl, gl rfl⟩) ?_
  · clear hr hl
    intro s mm_2 t_1 o hi hr
    obtain ⟨x0_1, v3, m_2⟩ := s
    obtain ⟨rfl, g0, g3, g2, g4⟩ := hi
    unfold g81_b0 at hr
    refine w_seq ?_
    refine w_seq ?_
    refine w_ops ?_
    refine wo_step (v := (.i .i64 x0_1)) (s_pure (p_mv g0)) ?_
    have hq := forceB_inv hr
    clear hr
    obtain ⟨c9, e9, hr⟩ := hq
    refine wo_step (v := (.b c9)) (s_pure (p_bin rfl rfl (b_neq.trans (cb e9)))) ?_
    refine wo_nil ?_
    refine nx_norm ?_
    have hq := cond_inv hr
    clear hr
    rcases hq with ⟨rfl, hr⟩ | ⟨rfl, hr⟩
    · refine w_condT rfl ?_
      refine w_skip ?_
      refine nx_norm ?_
      refine w_block ?_
      refine w_seq ?_
      refine w_ops ?_
      refine wo_step (v := (.i .i64 x0_1)) (s_pure (p_mv g0)) ?_
      have hq := forceI_inv hr
      clear hr
      obtain ⟨x11, e11, hr⟩ := hq
      refine wo_step (v := (.i .i64 x11)) (s_pure (p_bin rfl rfl ((b_rem rfl).trans (ci e11)))) ?_
      refine wo_step (v := (.i .i64 x11)) (s_pure (p_mv rfl)) ?_
      refine wo_nil ?_
      refine nx_norm ?_
      refine w_seq ?_
      refine w_seq ?_
      refine w_ops ?_
      refine wo_step (v := (.i .i64 x11)) (s_pure (p_mv rfl)) ?_
      have hq := forceB_inv hr
      clear hr
      obtain ⟨c13, e13, hr⟩ := hq
      refine wo_step (v := (.b c13)) (s_pure (p_bin rfl rfl (b_lss.trans (cb e13)))) ?_
      refine wo_nil ?_
      refine nx_norm ?_
      have hq := bindO_inv hr
      clear hr
      obtain ⟨o, hr, hk⟩ := hq
      refine jp_mono (J := g81_J1 x0_1 v2 v3 c7 m_2 o) ?_ ?_
      · clear hk
        have hq := cond_inv hr
        clear hr
        rcases hq with ⟨rfl, hr⟩ | ⟨rfl, hr⟩
        · refine w_condT rfl ?_
          refine w_ops ?_
          refine wo_step (v := (.i .i64 x11)) (s_pure (p_mv rfl)) ?_
          have hq := forceI_inv hr
          clear hr
          obtain ⟨x15, e15, hr⟩ := hq
          refine wo_step (v := (.i .i64 x15)) (s_pure ((p_neg rfl).trans (ci e15))) ?_
          refine wo_step (v := (.i .i64 x15)) (s_pure (p_mv rfl)) ?_
          refine wo_nil ?_
          cases hr
          exact ⟨_, _, rfl, rfl, rfl, gl rfl, gl g0, gl g2, gl g3, gl g4⟩
        · refine w_condF rfl ?_
          refine w_skip ?_
          cases hr
          exact ⟨_, _, rfl, rfl, rfl, gl rfl, gl g0, gl g2, gl g3, gl g4⟩
      · clear hr
        have hr := hk
        clear hk
        obtain ⟨x5, ho⟩ : ∃ z, z = o := ⟨_, rfl⟩
        subst ho
        rintro _ mm t_2 ⟨rfl, rfl, g5, g0, g2, g3, g4⟩
        refine nx_norm ?_
        refine w_seq ?_
        refine w_ops ?_
        refine wo_step (v := v3) (s_pure (p_mv g3)) ?_
        refine wo_step (v := (.i .i64 x5)) (s_pure (p_mv g5)) ?_
        have hq := bindP_inv hr
        clear hr
        obtain ⟨v18, m_3, e18, hr⟩ := hq
        refine wo_step (v := v18) (s_bsl (qc rfl qn) e18) ?_
        have hq := bindP_inv hr
        clear hr
        obtain ⟨v19, m_4, e19, hr⟩ := hq
        refine wo_step (v := v19) (s_app rfl rfl e19) ?_
        refine wo_step (v := v19) (s_pure (p_mv rfl)) ?_
        refine wo_nil ?_
        refine nx_norm ?_
        refine w_ops ?_
        refine wo_step (v := (.i .i64 x0_1)) (s_pure (p_mv g0)) ?_
        have hq := forceI_inv hr
        clear hr
        obtain ⟨x21, e21, hr⟩ := hq
        refine wo_step (v := (.i .i64 x21)) (s_pure (p_bin rfl rfl ((b_quo rfl).trans (ci e21)))) ?_
        refine wo_step (v := (.i .i64 x21)) (s_pure (p_mv rfl)) ?_
        refine wo_nil ?_
        refine bk_norm ?_
        cases hr
        exact ⟨_, _, rfl, rfl, rfl, gl rfl, gl rfl, gl g2, gl g4⟩
    · refine w_condF rfl ?_
      refine w_exit ?_
      refine nx_exit ?_
      cases hr
      exact ⟨_, _, rfl, ne_norm_exit, rfl, rfl, gl g3, gl g2, gl g4⟩
  · obtain ⟨v3_1, m_5⟩ := o_1
    rintro _ mm_1 t_3 ⟨rfl, rfl, g3, g2, g4⟩
    refine bk_hit ?_
    refine nx_norm ?_
    refine w_seq ?_
    refine w_ops ?_
    refine wo_step (v := (.b c7)) (s_pure (p_mv g4)) ?_
    refine wo_step (v := v3_1) (s_pure (p_mv g3)) ?_
    have hq := bindP_inv hr
    clear hr
    obtain ⟨v24, m_6, e24, hr⟩ := hq
    refine wo_step (v := v24) (s_call (mc rfl (mc rfl mn)) (callM_le hM.call e24)) ?_
    have hq := bindP_inv hr
    clear hr
    obtain ⟨vn, m_7, en, hr⟩ := hq
    refine wo_stepN (s_st g2 rfl en) ?_
    refine wo_nil ?_
    refine nx_norm ?_
    refine w_ret ?_
    have hq := bindO_inv hr
    clear hr
    obtain ⟨vr, er, hr⟩ := hq
    exact qf ret_ok (rc g2 er rn) hr

/- dibber/dibberref01.Compare -/

def g82 (M : Means) (ro : List ABlk) (v0 : AVal) (v1 : AVal) (m0 : Mm) : Option (AVal × Heap × Nat × Nat) :=
  bindP (stepM ro m0 (.bx 75 2 (.c v0))) fun v2 m_1 =>
  bindP (stepM ro m_1 (.bx 75 2 (.c v1))) fun v3 m_2 =>
  bindO (evP .e (.faddr 0 (.c v2))) fun v6 =>
  bindO (ldM ro m_2 true 1 v6) fun v7 =>
  asB v7 fun c7 =>
  bindO (evP .e (.faddr 0 (.c v3))) fun v8 =>
  bindO (ldM ro m_2 true 1 v8) fun v9 =>
  asB v9 fun c9 =>
  forceB (!(c7 == c9)) fun c10 =>
  cond c10 (
    bindO (evP .e (.faddr 0 (.c v2))) fun v11 =>
    bindO (ldM ro m_2 true 1 v11) fun v12 =>
    asB v12 fun c12 =>
    cond c12 (
      finM m0.h.length (tupA [(.i .i64 (-1))]) m_2) (
      finM m0.h.length (tupA [(.i .i64 1)]) m_2)) (
    bindO (evP .e (.faddr 1 (.c v2))) fun v13 =>
    bindO (ldM ro m_2 true 1 v13) fun v14 =>
    bindO (evP .e (.faddr 1 (.c v3))) fun v15 =>
    bindO (ldM ro m_2 true 1 v15) fun v16 =>
    bindP (callM M.call m_2 88 [v14, v16]) fun v17 m_3 =>
    asI .i64 v17 fun x17 =>
    bindO (evP .e (.faddr 0 (.c v2))) fun v18 =>
    bindO (ldM ro m_3 true 1 v18) fun v19 =>
    asB v19 fun c19 =>
    cond c19 (
      forceI (wr .i64 (0 - x17)) fun x21 =>
      finM m0.h.length (tupA [(.i .i64 x21)]) m_3) (
      finM m0.h.length (tupA [(.i .i64 x17)]) m_3))

theorem g82_ok {ro : List ABlk} {O : Caller} {M : Means} (hM : M.Ok ⟨F, O⟩ ro) {v0 v1 h r} (ho : O 82 [v0, v1] h = none) (hr : g82 M ro v0 v1 ⟨h, h.length, h.length⟩ = some r) : callX ⟨F, O⟩ ro 82 [v0, v1] h = some r := by
  refine callX_of (F := ⟨F, O⟩) (fn := fn82) (g := g82 M ro v0 v1) ho rfl rfl hr ?_
  clear ho
  clear hr
  intro m0 t0 ht hr
  have g0 : t0.get 0 = v0 := ht 0
  have g1 : t0.get 1 = v1 := ht 1
  clear ht
  unfold g82 at hr
  refine w_seq ?_
  refine w_ops ?_
  have hq := bindP_inv hr
  clear hr
  obtain ⟨v2, m_1, e2, hr⟩ := hq
  refine wo_step (v := v2) (s_bx g0 e2) ?_
  have hq := bindP_inv hr
  clear hr
  obtain ⟨v3, m_2, e3, hr⟩ := hq
  refine wo_step (v := v3) (s_bx g1 e3) ?_
  refine wo_step (v := (.i .i64 0)) (s_pure (p_mv rfl)) ?_
  refine wo_nil ?_
  refine nx_norm ?_
  refine w_seq ?_
  refine w_seq ?_
  refine w_ops ?_
  have hq := bindO_inv hr
  clear hr
  obtain ⟨v6, e6, hr⟩ := hq
  refine wo_step (v := v6) (s_pure (o_faddr rfl e6)) ?_
  have hq := bindO_inv hr
  clear hr
  obtain ⟨v7, e7, hr⟩ := hq
  have hq := asB_inv hr
  clear hr
  obtain ⟨c7, rfl, hr⟩ := hq
  refine wo_step (v := (.b c7)) (s_ld rfl e7) ?_
  have hq := bindO_inv hr
  clear hr
  obtain ⟨v8, e8, hr⟩ := hq
  refine wo_step (v := v8) (s_pure (o_faddr rfl e8)) ?_
  have hq := bindO_inv hr
  clear hr
  obtain ⟨v9, e9, hr⟩ := hq
  have hq := asB_inv hr
  clear hr
  obtain ⟨c9, rfl, hr⟩ := hq
  refine wo_step (v := (.b c9)) (s_ld rfl e9) ?_
  have hq := forceB_inv hr
  clear hr
  obtain ⟨c10, e10, hr⟩ := hq
  refine wo_step (v := (.b c10)) (s_pure (Eq.trans (p_beq rfl rfl) (cb e10))) ?_
  refine wo_nil ?_
  refine nx_norm ?_
  have hq := cond_inv hr
  clear hr
  rcases hq with ⟨rfl, hr⟩ | ⟨rfl, hr⟩
  · refine w_condT rfl ?_
    refine w_seq ?_
    refine w_seq ?_
    refine w_ops ?_
    have hq := bindO_inv hr
    clear hr
    obtain ⟨v11, e11, hr⟩ := hq
    refine wo_step (v := v11) (s_pure (o_faddr rfl e11)) ?_
    have hq := bindO_inv hr
    clear hr
    obtain ⟨v12, e12, hr⟩ := hq
    have hq := asB_inv hr
    clear hr
    obtain ⟨c12, rfl, hr⟩ := hq
    refine wo_step (v := (.b c12)) (s_ld rfl e12) ?_
    refine wo_nil ?_
    refine nx_norm ?_
    have hq := cond_inv hr
    clear hr
    rcases hq with ⟨rfl, hr⟩ | ⟨rfl, hr⟩
    · refine w_condT rfl ?_
      refine w_seq ?_
      refine w_ops ?_
      refine wo_step (v := (.i .i64 (-1))) (s_pure (p_mv rfl)) ?_
      refine wo_nil ?_
      refine nx_norm ?_
      refine w_ret ?_
      refine nx_ret ?_
      refine nx_ret ?_
      exact qf ret_ok (rt rfl rn) hr
    · refine w_condF rfl ?_
      refine w_skip ?_
      refine nx_norm ?_
      refine w_seq ?_
      refine w_ops ?_
      refine wo_step (v := (.i .i64 1)) (s_pure (p_mv rfl)) ?_
      refine wo_nil ?_
      refine nx_norm ?_
      refine w_ret ?_
      refine nx_ret ?_
      exact qf ret_ok (rt rfl rn) hr
  · refine w_condF rfl ?_
    refine w_skip ?_
    refine nx_norm ?_
    refine w_seq ?_
    refine w_ops ?_
    have hq := bindO_inv hr
    clear hr
    obtain ⟨v13, e13, hr⟩ := hq
    refine wo_step (v := v13) (s_pure (o_faddr rfl e13)) ?_
    have hq := bindO_inv hr
    clear hr
    obtain ⟨v14, e14, hr⟩ := hq
    refine wo_step (v := v14) (s_ld rfl e14) ?_
    have hq := bindO_inv hr
    clear hr
    obtain ⟨v15, e15, hr⟩ := hq
    refine wo_step (v := v15) (s_pure (o_faddr rfl e15)) ?_
    have hq := bindO_inv hr
    clear hr
    obtain ⟨v16, e16, hr⟩ := hq
    refine wo_step (v := v16) (s_ld rfl e16) ?_
    have hq := bindP_inv hr
    clear hr
    obtain ⟨v17, m_3, e17, hr⟩ := hq
    have hq := asI_inv hr
    clear hr
    obtain ⟨x17, rfl, hr⟩ := hq
    refine wo_step (v := (.i .i64 x17)) (s_call (mc rfl (mc rfl mn)) (callM_le hM.call e17)) ?_
    refine wo_step (v := (.i .i64 x17)) (s_pure (p_mv rfl)) ?_
    refine wo_nil ?_
    refine nx_norm ?_
    refine w_seq ?_
    refine w_seq ?_
    refine w_ops ?_
    have hq := bindO_inv hr
    clear hr
    obtain ⟨v18, e18, hr⟩ := hq
    refine wo_step (v := v18) (s_pure (o_faddr rfl e18)) ?_
    have hq := bindO_inv hr
    clear hr
    obtain ⟨v19, e19, hr⟩ := hq
    have hq := asB_inv hr
    clear hr
    obtain ⟨c19, rfl, hr⟩ := hq
    refine wo_step (v := (.b c19)) (s_ld rfl e19) ?_
    refine wo_nil ?_
    refine nx_norm ?_
    have hq := cond_inv hr
    clear hr
    rcases hq with ⟨rfl, hr⟩ | ⟨rfl, hr⟩
    · refine w_condT rfl ?_
      refine w_seq ?_
      refine w_ops ?_
      refine wo_step (v := (.i .i64 x17)) (s_pure (p_mv rfl)) ?_
      have hq := forceI_inv hr
      clear hr
      obtain ⟨x21, e21, hr⟩ := hq
      refine wo_step (v := (.i .i64 x21)) (s_pure ((p_neg rfl).trans (ci e21))) ?_
      refine wo_step (v := (.i .i64 x21)) (s_pure (p_mv rfl)) ?_
      refine wo_nil ?_
      refine nx_norm ?_
      refine w_ret ?_
      refine nx_ret ?_
      exact qf ret_ok (rt rfl rn) hr
    · refine w_condF rfl ?_
      refine w_skip ?_
      refine nx_norm ?_
      refine w_seq ?_
      refine w_ops ?_
      refine wo_step (v := (.i .i64 x17)) (s_pure (p_mv rfl)) ?_
      refine wo_step (v := (.i .i64 x17)) (s_pure (p_mv rfl)) ?_
      refine wo_nil ?_
      refine nx_norm ?_
      refine w_ret ?_
      exact qf ret_ok (rt rfl rn) hr

/- dibber/dibberref01.Times -/

def g83 (M : Means) (ro : List ABlk) (v0 : AVal) (v1 : AVal) (m0 : Mm) : Option (AVal × Heap × Nat × Nat) :=
  bindP (stepM ro m0 (.bx 75 2 (.c v0))) fun v2 m_1 =>
  bindP (stepM ro m_1 (.bx 75 2 (.c v1))) fun v3 m_2 =>
  bindP (stepM ro m_2 (.al 75 [(AVal.b false), AVal.nsl])) fun v4 m_3 =>
  bindO (some (Mm.base m_3)) fun m_4 =>
  bindO (evP .e (.faddr 0 (.c v2))) fun v5 =>
  bindO (ldA ro m_3.h true 1 v5) fun v6 =>
  asB v6 fun c6 =>
  bindO (evP .e (.faddr 0 (.c v3))) fun v7 =>
  bindO (ldA ro m_3.h true 1 v7) fun v8 =>
  asB v8 fun c8 =>
  forceB (!(c6 == c8)) fun c9 =>
  bindO (evP .e (.faddr 1 (.c v2))) fun v10 =>
  bindO (ldM ro m_4 true 1 v10) fun v11 =>
  bindO (evP .e (.faddr 1 (.c v3))) fun v12 =>
  bindO (ldM ro m_4 true 1 v12) fun v13 =>
  bindP (callM M.call m_4 89 [v11, v13]) fun v14 m_5 =>
  chk (!Nat.blt m_5.lw m_3.h.length) <|
  bindP (callM M.call m_5 87 [(.b c9), v14]) fun v15 m_6 =>
  bindP (stepM ro m_6 (.st 2 (.c v4) (.c v15))) fun vn m_7 =>
  bindO (some (Mm.join m_3 m_7)) fun m_8 =>
  bindO (ldM ro m_8 false 2 v4) fun vr =>
  finM m0.h.length (tupA [vr]) m_8

theorem g83_ok {ro : List ABlk} {O : Caller} {M : Means} (hM : M.Ok ⟨F, O⟩ ro) {v0 v1 h r} (ho : O 83 [v0, v1] h = none) (hr : g83 M ro v0 v1 ⟨h, h.length, h.length⟩ = some r) : callX ⟨F, O⟩ ro 83 [v0, v1] h = some r := by
  refine callX_of (F := ⟨F, O⟩) (fn := fn83) (g := g83 M ro v0 v1) ho rfl rfl hr ?_
  clear ho
  clear hr
  intro m0 t0 ht hr
  have g0 : t0.get 0 = v0 := ht 0
  have g1 : t0.get 1 = v1 := ht 1
  clear ht
  unfold g83 at hr
  refine w_seq ?_
  refine w_ops ?_
  have hq := bindP_inv hr
  clear hr
  obtain ⟨v2, m_1, e2, hr⟩ := hq
  refine wo_step (v := v2) (s_bx g0 e2) ?_
  have hq := bindP_inv hr
  clear hr
  obtain ⟨v3, m_2, e3, hr⟩ := hq
  refine wo_step (v := v3) (s_bx g1 e3) ?_
  have hq := bindP_inv hr
  clear hr
  obtain ⟨v4, m_3, e4, hr⟩ := hq
  refine wo_step (v := v4) (s_al e4) ?_
  refine wo_nil ?_
  refine nx_norm ?_
  refine w_seq ?_
  have hq := bindO_inv hr
  clear hr
  obtain ⟨m_4, ef, hr⟩ := hq
  refine w_flt (af := true) rfl ef ?_
  have hq := bindO_inv hr
  clear hr
  obtain ⟨v5, e5, hr⟩ := hq
  refine wf_step (v := v5) (f_P rfl (s_pure (o_faddr rfl e5))) ?_
  have hq := bindO_inv hr
  clear hr
  obtain ⟨v6, e6, hr⟩ := hq
  have hq := asB_inv hr
  clear hr
  obtain ⟨c6, rfl, hr⟩ := hq
  refine wf_step (v := (.b c6)) (f_ld rfl e6) ?_
  have hq := bindO_inv hr
  clear hr
  obtain ⟨v7, e7, hr⟩ := hq
  refine wf_step (v := v7) (f_P rfl (s_pure (o_faddr rfl e7))) ?_
  have hq := bindO_inv hr
  clear hr
  obtain ⟨v8, e8, hr⟩ := hq
  have hq := asB_inv hr
  clear hr
  obtain ⟨c8, rfl, hr⟩ := hq
  refine wf_step (v := (.b c8)) (f_ld rfl e8) ?_
  have hq := forceB_inv hr
  clear hr
  obtain ⟨c9, e9, hr⟩ := hq
  refine wf_step (v := (.b c9)) (f_P rfl (s_pure (Eq.trans (p_beq rfl rfl) (cb e9)))) ?_
  have hq := bindO_inv hr
  clear hr
  obtain ⟨v10, e10, hr⟩ := hq
  refine wf_step (v := v10) (f_P rfl (s_pure (o_faddr rfl e10))) ?_
  have hq := bindO_inv hr
  clear hr
  obtain ⟨v11, e11, hr⟩ := hq
  refine wf_step (v := v11) (f_P rfl (s_ld rfl e11)) ?_
  have hq := bindO_inv hr
  clear hr
  obtain ⟨v12, e12, hr⟩ := hq
  refine wf_step (v := v12) (f_P rfl (s_pure (o_faddr rfl e12))) ?_
  have hq := bindO_inv hr
  clear hr
  obtain ⟨v13, e13, hr⟩ := hq
  refine wf_step (v := v13) (f_P rfl (s_ld rfl e13)) ?_
  have hq := bindP_inv hr
  clear hr
  obtain ⟨v14, m_5, e14, hr⟩ := hq
  have hq := chk_inv hr
  clear hr
  obtain ⟨hc14, hr⟩ := hq
  refine wf_step (v := v14) (f_M hc14 (s_call (mc rfl (mc rfl mn)) (callM_le hM.call e14))) ?_
  have hq := bindP_inv hr
  clear hr
  obtain ⟨v15, m_6, e15, hr⟩ := hq
  refine wf_step (v := v15) (f_F rfl (s_call (mc rfl (mc rfl mn)) (callM_le hM.call e15))) ?_
  have hq := bindP_inv hr
  clear hr
  obtain ⟨vn, m_7, en, hr⟩ := hq
  refine wf_stepN (f_F rfl (s_st rfl rfl en)) ?_
  have hq := bindO_inv hr
  clear hr
  obtain ⟨m_8, ef_1, hr⟩ := hq
  refine wf_end ef_1 ?_
  refine nx_norm ?_
  refine w_ret ?_
  have hq := bindO_inv hr
  clear hr
  obtain ⟨vr, er, hr⟩ := hq
  exact qf ret_ok (rc rfl er rn) hr

/- dibber/dibberref01.Plus -/

def g84 (M : Means) (ro : List ABlk) (v0 : AVal) (v1 : AVal) (m0 : Mm) : Option (AVal × Heap × Nat × Nat) :=
  bindP (stepM ro m0 (.bx 75 2 (.c v0))) fun v2 m_1 =>
  bindP (stepM ro m_1 (.bx 75 2 (.c v1))) fun v3 m_2 =>
  bindP (stepM ro m_2 (.al 75 [(AVal.b false), AVal.nsl])) fun v4 m_3 =>
  bindO (evP .e (.faddr 0 (.c v2))) fun v5 =>
  bindO (ldM ro m_3 true 1 v5) fun v6 =>
  asB v6 fun c6 =>
  bindO (evP .e (.faddr 0 (.c v3))) fun v7 =>
  bindO (ldM ro m_3 true 1 v7) fun v8 =>
  asB v8 fun c8 =>
  forceB (c6 == c8) fun c9 =>
  cond c9 (
    bindO (some (Mm.base m_3)) fun m_4 =>
    bindO (evP .e (.faddr 0 (.c v2))) fun v10 =>
    bindO (ldA ro m_3.h true 1 v10) fun v11 =>
    asB v11 fun c11 =>
    bindO (evP .e (.faddr 1 (.c v2))) fun v12 =>
    bindO (ldM ro m_4 true 1 v12) fun v13 =>
    bindO (evP .e (.faddr 1 (.c v3))) fun v14 =>
    bindO (ldM ro m_4 true 1 v14) fun v15 =>
    bindP (callM M.call m_4 90 [v13, v15]) fun v16 m_5 =>
    chk (!Nat.blt m_5.lw m_3.h.length) <|
    bindP (callM M.call m_5 87 [(.b c11), v16]) fun v17 m_6 =>
    bindP (stepM ro m_6 (.st 2 (.c v4) (.c v17))) fun vn m_7 =>
    bindO (some (Mm.join m_3 m_7)) fun m_8 =>
    bindO (ldM ro m_8 false 2 v4) fun vr =>
    finM m0.h.length (tupA [vr]) m_8) (
    bindO (evP .e (.faddr 1 (.c v2))) fun v18 =>
    bindO (ldM ro m_3 true 1 v18) fun v19 =>
    bindO (evP .e (.faddr 1 (.c v3))) fun v20 =>
    bindO (ldM ro m_3 true 1 v20) fun v21 =>
    bindP (callM M.call m_3 88 [v19, v21]) fun v22 m_9 =>
    asI .i64 v22 fun x22 =>
    forceB (!ltI x22 0) fun c23 =>
    cond c23 (
      bindO (some (Mm.base m_9)) fun m_10 =>
      bindO (evP .e (.faddr 0 (.c v2))) fun v24 =>
      bindO (ldA ro m_9.h true 1 v24) fun v25 =>
      asB v25 fun c25 =>
      bindO (evP .e (.faddr 1 (.c v2))) fun v26 =>
      bindO (ldM ro m_10 true 1 v26) fun v27 =>
      bindO (evP .e (.faddr 1 (.c v3))) fun v28 =>
      bindO (ldM ro m_10 true 1 v28) fun v29 =>
      bindP (callM M.call m_10 91 [v27, v29]) fun v30 m_11 =>
      chk (!Nat.blt m_11.lw m_9.h.length) <|
      bindP (callM M.call m_11 87 [(.b c25), v30]) fun v31 m_12 =>
      bindP (stepM ro m_12 (.st 2 (.c v4) (.c v31))) fun vn_1 m_13 =>
      bindO (some (Mm.join m_9 m_13)) fun m_14 =>
      bindO (ldM ro m_14 false 2 v4) fun vr_1 =>
      finM m0.h.length (tupA [vr_1]) m_14) (
      bindO (some (Mm.base m_9)) fun m_15 =>
      bindO (evP .e (.faddr 0 (.c v3))) fun v32 =>
      bindO (ldA ro m_9.h true 1 v32) fun v33 =>
      asB v33 fun c33 =>
      bindO (evP .e (.faddr 1 (.c v3))) fun v34 =>
      bindO (ldM ro m_15 true 1 v34) fun v35 =>
      bindO (evP .e (.faddr 1 (.c v2))) fun v36 =>
      bindO (ldM ro m_15 true 1 v36) fun v37 =>
      bindP (callM M.call m_15 91 [v35, v37]) fun v38 m_16 =>
      chk (!Nat.blt m_16.lw m_9.h.length) <|
      bindP (callM M.call m_16 87 [(.b c33), v38]) fun v39 m_17 =>
      bindP (stepM ro m_17 (.st 2 (.c v4) (.c v39))) fun vn_2 m_18 =>
      bindO (some (Mm.join m_9 m_18)) fun m_19 =>
      bindO (ldM ro m_19 false 2 v4) fun vr_2 =>
      finM m0.h.length (tupA [vr_2]) m_19))

theorem g84_ok {ro : List ABlk} {O : Caller} {M : Means} (hM : M.Ok ⟨F, O⟩ ro) {v0 v1 h r} (ho : O 84 [v0, v1] h = none) (hr : g84 M ro v0 v1 ⟨h, h.length, h.length⟩ = some r) : callX ⟨F, O⟩ ro 84 [v0, v1] h = some r := by
  refine callX_of (F := ⟨F, O⟩) (fn := fn84) (g := g84 M ro v0 v1) ho rfl rfl hr ?_
  clear ho
  clear hr
  intro m0 t0 ht hr
  have g0 : t0.get 0 = v0 := ht 0
  have g1 : t0.get 1 = v1 := ht 1
  clear ht
  unfold g84 at hr
  refine w_seq ?_
  refine w_ops ?_
  have hq := bindP_inv hr
  clear hr
  obtain ⟨v2, m_1, e2, hr⟩ := hq
  refine wo_step (v := v2) (s_bx g0 e2) ?_
  have hq := bindP_inv hr
  clear hr
  obtain ⟨v3, m_2, e3, hr⟩ := hq
  refine wo_step (v := v3) (s_bx g1 e3) ?_
  have hq := bindP_inv hr
  clear hr
  obtain ⟨v4, m_3, e4, hr⟩ := hq
  refine wo_step (v := v4) (s_al e4) ?_
  refine wo_nil ?_
  refine nx_norm ?_
  refine w_seq ?_
  refine w_seq ?_
  refine w_ops ?_
  have hq := bindO_inv hr
  clear hr
  obtain ⟨v5, e5, hr⟩ := hq
  refine wo_step (v := v5) (s_pure (o_faddr rfl e5)) ?_
  have hq := bindO_inv hr
  clear hr
  obtain ⟨v6, e6, hr⟩ := hq
  have hq := asB_inv hr
  clear hr
  obtain ⟨c6, rfl, hr⟩ := hq
  refine wo_step (v := (.b c6)) (s_ld rfl e6) ?_
  have hq := bindO_inv hr
  clear hr
  obtain ⟨v7, e7, hr⟩ := hq
  refine wo_step (v := v7) (s_pure (o_faddr rfl e7)) ?_
  have hq := bindO_inv hr
  clear hr
  obtain ⟨v8, e8, hr⟩ := hq
  have hq := asB_inv hr
  clear hr
  obtain ⟨c8, rfl, hr⟩ := hq
  refine wo_step (v := (.b c8)) (s_ld rfl e8) ?_
  have hq := forceB_inv hr
  clear hr
  obtain ⟨c9, e9, hr⟩ := hq
  refine wo_step (v := (.b c9)) (s_pure (Eq.trans (p_beq rfl rfl) (cb e9))) ?_
  refine wo_nil ?_
  refine nx_norm ?_
  have hq := cond_inv hr
  clear hr
  rcases hq with ⟨rfl, hr⟩ | ⟨rfl, hr⟩
  · refine w_condT rfl ?_
    refine w_seq ?_
    have hq := bindO_inv hr
    clear hr
    obtain ⟨m_4, ef, hr⟩ := hq
    refine w_flt (af := true) rfl ef ?_
    have hq := bindO_inv hr
    clear hr
    obtain ⟨v10, e10, hr⟩ := hq
    refine wf_step (v := v10) (f_P rfl (s_pure (o_faddr rfl e10))) ?_
    have hq := bindO_inv hr
    clear hr
    obtain ⟨v11, e11, hr⟩ := hq
    have hq := asB_inv hr
    clear hr
    obtain ⟨c11, rfl, hr⟩ := hq
    refine wf_step (v := (.b c11)) (f_ld rfl e11) ?_
    have hq := bindO_inv hr
    clear hr
    obtain ⟨v12, e12, hr⟩ := hq
    refine wf_step (v := v12) (f_P rfl (s_pure (o_faddr rfl e12))) ?_
    have hq := bindO_inv hr
    clear hr
    obtain ⟨v13, e13, hr⟩ := hq
    refine wf_step (v := v13) (f_P rfl (s_ld rfl e13)) ?_
    have hq := bindO_inv hr
    clear hr
    obtain ⟨v14, e14, hr⟩ := hq
    refine wf_step (v := v14) (f_P rfl (s_pure (o_faddr rfl e14))) ?_
    have hq := bindO_inv hr
    clear hr
    obtain ⟨v15, e15, hr⟩ := hq
    refine wf_step (v := v15) (f_P rfl (s_ld rfl e15)) ?_
    have hq := bindP_inv hr
    clear hr
    obtain ⟨v16, m_5, e16, hr⟩ := hq
    have hq := chk_inv hr
    clear hr
    obtain ⟨hc16, hr⟩ := hq
    refine wf_step (v := v16) (f_M hc16 (s_call (mc rfl (mc rfl mn)) (callM_le hM.call e16))) ?_
    have hq := bindP_inv hr
    clear hr
    obtain ⟨v17, m_6, e17, hr⟩ := hq
    refine wf_step (v := v17) (f_F rfl (s_call (mc rfl (mc rfl mn)) (callM_le hM.call e17))) ?_
    have hq := bindP_inv hr
    clear hr
    obtain ⟨vn, m_7, en, hr⟩ := hq
    refine wf_stepN (f_F rfl (s_st rfl rfl en)) ?_
    have hq := bindO_inv hr
    clear hr
    obtain ⟨m_8, ef_1, hr⟩ := hq
    refine wf_end ef_1 ?_
    refine nx_norm ?_
    refine w_ret ?_
    refine nx_ret ?_
    have hq := bindO_inv hr
    clear hr
    obtain ⟨vr, er, hr⟩ := hq
    exact qf ret_ok (rc rfl er rn) hr
  · refine w_condF rfl ?_
    refine w_skip ?_
    refine nx_norm ?_
    refine w_seq ?_
    refine w_seq ?_
    refine w_ops ?_
    have hq := bindO_inv hr
    clear hr
    obtain ⟨v18, e18, hr⟩ := hq
    refine wo_step (v := v18) (s_pure (o_faddr rfl e18)) ?_
    have hq := bindO_inv hr
    clear hr
    obtain ⟨v19, e19, hr⟩ := hq
    refine wo_step (v := v19) (s_ld rfl e19) ?_
    have hq := bindO_inv hr
    clear hr
    obtain ⟨v20, e20, hr⟩ := hq
    refine wo_step (v := v20) (s_pure (o_faddr rfl e20)) ?_
    have hq := bindO_inv hr
    clear hr
    obtain ⟨v21, e21, hr⟩ := hq
    refine wo_step (v := v21) (s_ld rfl e21) ?_
    have hq := bindP_inv hr
    clear hr
    obtain ⟨v22, m_9, e22, hr⟩ := hq
    have hq := asI_inv hr
    clear hr
    obtain ⟨x22, rfl, hr⟩ := hq
    refine wo_step (v := (.i .i64 x22)) (s_call (mc rfl (mc rfl mn)) (callM_le hM.call e22)) ?_
    have hq := forceB_inv hr
    clear hr
    obtain ⟨c23, e23, hr⟩ := hq
    refine wo_step (v := (.b c23)) (s_pure (p_bin rfl rfl (b_geq.trans (cb e23)))) ?_
    refine wo_nil ?_
    refine nx_norm ?_
    have hq := cond_inv hr
    clear hr
    rcases hq with ⟨rfl, hr⟩ | ⟨rfl, hr⟩
    · refine w_condT rfl ?_
      refine w_seq ?_
      have hq := bindO_inv hr
      clear hr
      obtain ⟨m_10, ef_2, hr⟩ := hq
      refine w_flt (af := true) rfl ef_2 ?_
      have hq := bindO_inv hr
      clear hr
      obtain ⟨v24, e24, hr⟩ := hq
      refine wf_step (v := v24) (f_P rfl (s_pure (o_faddr rfl e24))) ?_
      have hq := bindO_inv hr
      clear hr
      obtain ⟨v25, e25, hr⟩ := hq
      have hq := asB_inv hr
      clear hr
      obtain ⟨c25, rfl, hr⟩ := hq
      refine wf_step (v := (.b c25)) (f_ld rfl e25) ?_
      have hq := bindO_inv hr
      clear hr
      obtain ⟨v26, e26, hr⟩ := hq
      refine wf_step (v := v26) (f_P rfl (s_pure (o_faddr rfl e26))) ?_
      have hq := bindO_inv hr
      clear hr
      obtain ⟨v27, e27, hr⟩ := hq
      refine wf_step (v := v27) (f_P rfl (s_ld rfl e27)) ?_
      have hq := bindO_inv hr
      clear hr
      obtain ⟨v28, e28, hr⟩ := hq
      refine wf_step (v := v28) (f_P rfl (s_pure (o_faddr rfl e28))) ?_
      have hq := bindO_inv hr
      clear hr
      obtain ⟨v29, e29, hr⟩ := hq
      refine wf_step (v := v29) (f_P rfl (s_ld rfl e29)) ?_
      have hq := bindP_inv hr
      clear hr
      obtain ⟨v30, m_11, e30, hr⟩ := hq
      have hq := chk_inv hr
      clear hr
      obtain ⟨hc30, hr⟩ := hq
      refine wf_step (v := v30) (f_M hc30 (s_call (mc rfl (mc rfl mn)) (callM_le hM.call e30))) ?_
      have hq := bindP_inv hr
      clear hr
      obtain ⟨v31, m_12, e31, hr⟩ := hq
      refine wf_step (v := v31) (f_F rfl (s_call (mc rfl (mc rfl mn)) (callM_le hM.call e31))) ?_
      have hq := bindP_inv hr
      clear hr
      obtain ⟨vn_1, m_13, en_1, hr⟩ := hq
      refine wf_stepN (f_F rfl (s_st rfl rfl en_1)) ?_
      have hq := bindO_inv hr
      clear hr
      obtain ⟨m_14, ef_3, hr⟩ := hq
      refine wf_end ef_3 ?_
      refine nx_norm ?_
      refine w_ret ?_
      refine nx_ret ?_
      have hq := bindO_inv hr
      clear hr
      obtain ⟨vr_1, er_1, hr⟩ := hq
      exact qf ret_ok (rc rfl er_1 rn) hr
    · refine w_condF rfl ?_
      refine w_skip ?_
      refine nx_norm ?_
      refine w_seq ?_
      have hq := bindO_inv hr
      clear hr
      obtain ⟨m_15, ef_4, hr⟩ := hq
      refine w_flt (af := true) rfl ef_4 ?_
      have hq := bindO_inv hr
      clear hr
      obtain ⟨v32, e32, hr⟩ := hq
      refine wf_step (v := v32) (f_P rfl (s_pure (o_faddr rfl e32))) ?_
      have hq := bindO_inv hr
      clear hr
      obtain ⟨v33, e33, hr⟩ := hq
      have hq := asB_inv hr
      clear hr
      obtain ⟨c33, rfl, hr⟩ := hq
      refine wf_step (v := (.b c33)) (f_ld rfl e33) ?_
      have hq := bindO_inv hr
      clear hr
      obtain ⟨v34, e34, hr⟩ := hq
      refine wf_step (v := v34) (f_P rfl (s_pure (o_faddr rfl e34))) ?_
      have hq := bindO_inv hr
      clear hr
      obtain ⟨v35, e35, hr⟩ := hq
      refine wf_step (v := v35) (f_P rfl (s_ld rfl e35)) ?_
      have hq := bindO_inv hr
      clear hr
      obtain ⟨v36, e36, hr⟩ := hq
      refine wf_step (v := v36) (f_P rfl (s_pure (o_faddr rfl e36))) ?_
      have hq := bindO_inv hr
      clear hr
      obtain ⟨v37, e37, hr⟩ := hq
      refine wf_step (v := v37) (f_P rfl (s_ld rfl e37)) ?_
      have hq := bindP_inv hr
      clear hr
      obtain ⟨v38, m_16, e38, hr⟩ := hq
      have hq := chk_inv hr
      clear hr
      obtain ⟨hc38, hr⟩ := hq
      refine wf_step (v := v38) (f_M hc38 (s_call (mc rfl (mc rfl mn)) (callM_le hM.call e38))) ?_
      have hq := bindP_inv hr
      clear hr
      obtain ⟨v39, m_17, e39, hr⟩ := hq
      refine wf_step (v := v39) (f_F rfl (s_call (mc rfl (mc rfl mn)) (callM_le hM.call e39))) ?_
      have hq := bindP_inv hr
      clear hr
      obtain ⟨vn_2, m_18, en_2, hr⟩ := hq
      refine wf_stepN (f_F rfl (s_st rfl rfl en_2)) ?_
      have hq := bindO_inv hr
      clear hr
      obtain ⟨m_19, ef_5, hr⟩ := hq
      refine wf_end ef_5 ?_
      refine nx_norm ?_
      refine w_ret ?_
      have hq := bindO_inv hr
      clear hr
      obtain ⟨vr_2, er_2, hr⟩ := hq
      exact qf ret_ok (rc rfl er_2 rn) hr

/- dibber/dibberref01.whole -/
abbrev g87_J0 (v4 : AVal) (v7 : AVal) (m_2 : Mm) (o : Bool) (m1 : Mm) (t1 : Tr) : Prop :=
  match o with
  | c13 => m_2 = m1 ∧ t1.get 13 = (.b c13) ∧ t1.get 4 = v4 ∧ t1.get 5 = v7
def g87 (M : Means) (ro : List ABlk) (c0 : Bool) (v1 : AVal) (m0 : Mm) : Option (AVal × Heap × Nat × Nat) :=
  bindP (stepM ro m0 (.al 75 [(AVal.b false), AVal.nsl])) fun v4 m_1 =>
  bindP (callM M.call m_1 92 [v1]) fun v7 m_2 =>
  bindO (cond c0 (
    bindO (evP .e (.len false (.c v7))) fun v11 =>
    asI .i64 v11 fun x11 =>
    forceB (ltI 0 x11) fun c12 =>
    some c12) (
    some false)) fun c13 =>
  bindO ((fillA [(AVal.b false), AVal.nsl] [((0, 1), (.b c13)), ((1, 1), v7)]).map AVal.agg) fun v15 =>
  bindP (stepM ro m_2 (.st 2 (.c v4) (.c v15))) fun vn m_3 =>
  bindO (ldM ro m_3 false 2 v4) fun vr =>
  finM m0.h.length (tupA [vr]) m_3

theorem g87_ok {ro : List ABlk} {O : Caller} {M : Means} (hM : M.Ok ⟨F, O⟩ ro) {c0 v1 h r} (ho : O 87 [(.b c0), v1] h = none) (hr : g87 M ro c0 v1 ⟨h, h.length, h.length⟩ = some r) : callX ⟨F, O⟩ ro 87 [(.b c0), v1] h = some r := by
  refine callX_of (F := ⟨F, O⟩) (fn := fn87) (g := g87 M ro c0 v1) ho rfl rfl hr ?_
  clear ho
  clear hr
  intro m0 t0 ht hr
  have g0 : t0.get 0 = (.b c0) := ht 0
  have g1 : t0.get 1 = v1 := ht 1
  clear ht
  unfold g87 at hr
  refine w_seq ?_
  refine w_ops ?_
  have hq := bindP_inv hr
  clear hr
  obtain ⟨v4, m_1, e4, hr⟩ := hq
  refine wo_step (v := v4) (s_al e4) ?_
  refine wo_nil ?_
  refine nx_norm ?_
  refine w_seq ?_
  refine w_ops ?_
  refine wo_step (v := v1) (s_pure (p_mv g1)) ?_
  have hq := bindP_inv hr
  clear hr
  obtain ⟨v7, m_2, e7, hr⟩ := hq
  refine wo_step (v := v7) (s_call (mc rfl mn) (callM_le hM.call e7)) ?_
  refine wo_step (v := v7) (s_pure (p_mv rfl)) ?_
  refine wo_nil ?_
  refine nx_norm ?_
  refine w_seq ?_
  refine w_ops ?_
  refine wo_step (v := (.b c0)) (s_pure (p_mv g0)) ?_
  refine wo_step (v := (.b c0)) (s_pure (p_mv rfl)) ?_
  have hq := bindO_inv hr
  clear hr
  obtain ⟨o, hr, hk⟩ := hq
  refine wo_join 4 (g87_J0 v4 v7 m_2 o) ?_ ?_
  · clear hk
    have hq := cond_inv hr
    clear hr
    rcases hq with ⟨rfl, hr⟩ | ⟨rfl, hr⟩
    · refine wo_take (v := v7) rfl (s_pure (p_mv rfl)) ?_
      have hq := bindO_inv hr
      clear hr
      obtain ⟨v11, e11, hr⟩ := hq
      have hq := asI_inv hr
      clear hr
      obtain ⟨x11, rfl, hr⟩ := hq
      refine wo_take (v := (.i .i64 x11)) rfl (s_pure (o_len rfl e11)) ?_
      have hq := forceB_inv hr
      clear hr
      obtain ⟨c12, e12, hr⟩ := hq
      refine wo_take (v := (.b c12)) rfl (s_pure (p_bin rfl rfl (b_gtr.trans (cb e12)))) ?_
      refine wo_step (v := (.b c12)) (s_pure (p_pickT rfl rfl)) ?_
      refine wo_nil ?_
      cases hr
      exact ⟨_, _, rfl, rfl, gl rfl, gl rfl, gl rfl⟩
    · refine wo_skip (v := (.b false)) rfl rfl ?_
      refine wo_skip (v := (.b false)) rfl rfl ?_
      refine wo_skip (v := (.b false)) rfl rfl ?_
      refine wo_step (v := (.b false)) (s_pure (p_pickF rfl rfl)) ?_
      refine wo_nil ?_
      cases hr
      exact ⟨_, _, rfl, rfl, gl rfl, gl rfl, gl rfl⟩
  · clear hr
    have hr := hk
    clear hk
    obtain ⟨c13, ho⟩ : ∃ z, z = o := ⟨_, rfl⟩
    subst ho
    rintro mm t_1 ⟨rfl, g13, g4, g5⟩
    refine wo_step (v := v7) (s_pure (p_mv g5)) ?_
    have hq := bindO_inv hr
    clear hr
    obtain ⟨v15, e15, hr⟩ := hq
    refine wo_step (v := v15) (s_pure (o_build (qc g13 (qc rfl qn)) e15)) ?_
    have hq := bindP_inv hr
    clear hr
    obtain ⟨vn, m_3, en, hr⟩ := hq
    refine wo_stepN (s_st g4 rfl en) ?_
    refine wo_nil ?_
    refine nx_norm ?_
    refine w_ret ?_
    have hq := bindO_inv hr
    clear hr
    obtain ⟨vr, er, hr⟩ := hq
    exact qf ret_ok (rc g4 er rn) hr

/- dibber/dibberref01.cmpD -/
abbrev g88_I0 (v0 : AVal) (v1 : AVal) (m0 : Mm) (s : Int) (m1 : Mm) (t1 : Tr) : Prop :=
  match s with
  | x5 => m0 = m1 ∧ t1.get 5 = (.i .i64 x5) ∧ t1.get 0 = v0 ∧ t1.get 1 = v1
abbrev g88_J0 (v0 : AVal) (v1 : AVal) (m0 : Mm) (o : (Unit ⊕ Int)) (e : AExit) (m1 : Mm) (t1 : Tr) : Prop :=
  match o with
  | (.inl _) => e = (.exit 0) ∧ m0 = m1
  | (.inr y4) => e = .ret ∧ m0 = m1 ∧ t1.get 4 = (.i .i64 y4)
def g88_b0 (M : Means) (ro : List ABlk) (v0 : AVal) (v1 : AVal) (m0 : Mm) (x5 : Int) : Option ((Int) ⊕ ((Unit ⊕ Int))) :=
  forceB (!ltI x5 0) fun c20 =>
  cond c20 (
    bindO (evP .e (.ixS 1 (.c v0) (.c (.i .i64 x5)))) fun v25 =>
    bindO (ldA ro m0.h true 1 v25) fun v26 =>
    asI .i64 v26 fun x26 =>
    bindO (evP .e (.ixS 1 (.c v1) (.c (.i .i64 x5)))) fun v29 =>
    bindO (ldA ro m0.h true 1 v29) fun v30 =>
    asI .i64 v30 fun x30 =>
    forceB (ltI x26 x30) fun c31 =>
    cond c31 (
      some (.inr (.inr (-1)))) (
      bindO (evP .e (.ixS 1 (.c v0) (.c (.i .i64 x5)))) fun v34 =>
      bindO (ldA ro m0.h true 1 v34) fun v35 =>
      asI .i64 v35 fun x35 =>
      bindO (evP .e (.ixS 1 (.c v1) (.c (.i .i64 x5)))) fun v38 =>
      bindO (ldA ro m0.h true 1 v38) fun v39 =>
      asI .i64 v39 fun x39 =>
      forceB (ltI x39 x35) fun c40 =>
      cond c40 (
        some (.inr (.inr 1))) (
        forceI (wr .i64 (x5 - 1)) fun x22 =>
        some (.inl x22)))) (
    some (.inr (.inl ())))
def g88 (M : Means) (ro : List ABlk) (v0 : AVal) (v1 : AVal) (m0 : Mm) : Option (AVal × Heap × Nat × Nat) :=
  bindO (evP .e (.len false (.c v0))) fun v7 =>
  asI .i64 v7 fun x7 =>
  bindO (evP .e (.len false (.c v1))) fun v9 =>
  asI .i64 v9 fun x9 =>
  forceB (ltI x7 x9) fun c10 =>
  cond c10 (
    finM m0.h.length (tupA [(.i .i64 (-1))]) m0) (
    bindO (evP .e (.len false (.c v0))) fun v12 =>
    asI .i64 v12 fun x12 =>
    bindO (evP .e (.len false (.c v1))) fun v14 =>
    asI .i64 v14 fun x14 =>
    forceB (ltI x14 x12) fun c15 =>
    cond c15 (
      finM m0.h.length (tupA [(.i .i64 1)]) m0) (
      bindO (evP .e (.len false (.c v0))) fun v17 =>
      asI .i64 v17 fun x17 =>
      forceI (wr .i64 (x17 - 1)) fun x18 =>
      bindO (M.loop (S := Int) (R := (Unit ⊕ Int)) (fun s => g88_b0 M ro v0 v1 m0 s) x18) fun o => match o with
      | (.inl _) =>
        finM m0.h.length (tupA [(.i .i64 0)]) m0
      | (.inr x4) =>
        finM m0.h.length (tupA [(.i .i64 x4)]) m0))

theorem g88_ok {ro : List ABlk} {O : Caller} {M : Means} (hM : M.Ok ⟨F, O⟩ ro) {v0 v1 h r} (ho : O 88 [v0, v1] h = none) (hr : g88 M ro v0 v1 ⟨h, h.length, h.length⟩ = some r) : callX ⟨F, O⟩ ro 88 [v0, v1] h = some r := by
  refine callX_of (F := ⟨F, O⟩) (fn := fn88) (g := g88 M ro v0 v1) ho rfl rfl hr ?_
  clear ho
  clear hr
  intro m0 t0 ht hr
  have g0 : t0.get 0 = v0 := ht 0
  have g1 : t0.get 1 = v1 := ht 1
  clear ht
  unfold g88 at hr
  refine w_seq ?_
  refine w_ops ?_
  refine wo_step (v := (.i .i64 0)) (s_pure (p_mv rfl)) ?_
  refine wo_nil ?_
  refine nx_norm ?_
  refine w_seq ?_
  refine w_seq ?_
  refine w_ops ?_
  refine wo_step (v := v0) (s_pure (p_mv g0)) ?_
  have hq := bindO_inv hr
  clear hr
  obtain ⟨v7, e7, hr⟩ := hq
  have hq := asI_inv hr
  clear hr
  obtain ⟨x7, rfl, hr⟩ := hq
  refine wo_step (v := (.i .i64 x7)) (s_pure (o_len rfl e7)) ?_
  refine wo_step (v := v1) (s_pure (p_mv g1)) ?_
  have hq := bindO_inv hr
  clear hr
  obtain ⟨v9, e9, hr⟩ := hq
  have hq := asI_inv hr
  clear hr
  obtain ⟨x9, rfl, hr⟩ := hq
  refine wo_step (v := (.i .i64 x9)) (s_pure (o_len rfl e9)) ?_
  have hq := forceB_inv hr
  clear hr
  obtain ⟨c10, e10, hr⟩ := hq
  refine wo_step (v := (.b c10)) (s_pure (p_bin rfl rfl (b_lss.trans (cb e10)))) ?_
  refine wo_nil ?_
  refine nx_norm ?_
  have hq := cond_inv hr
  clear hr
  rcases hq with ⟨rfl, hr⟩ | ⟨rfl, hr⟩
  · refine w_condT rfl ?_
    refine w_seq ?_
    refine w_ops ?_
    refine wo_step (v := (.i .i64 (-1))) (s_pure (p_mv rfl)) ?_
    refine wo_nil ?_
    refine nx_norm ?_
    refine w_ret ?_
    refine nx_ret ?_
    exact qf ret_ok (rt rfl rn) hr
  · refine w_condF rfl ?_
    refine w_skip ?_
    refine nx_norm ?_
    refine w_seq ?_
    refine w_seq ?_
    refine w_ops ?_
    refine wo_step (v := v0) (s_pure (p_mv g0)) ?_
    have hq := bindO_inv hr
    clear hr
    obtain ⟨v12, e12, hr⟩ := hq
    have hq := asI_inv hr
    clear hr
    obtain ⟨x12, rfl, hr⟩ := hq
    refine wo_step (v := (.i .i64 x12)) (s_pure (o_len rfl e12)) ?_
    refine wo_step (v := v1) (s_pure (p_mv g1)) ?_
    have hq := bindO_inv hr
    clear hr
    obtain ⟨v14, e14, hr⟩ := hq
    have hq := asI_inv hr
    clear hr
    obtain ⟨x14, rfl, hr⟩ := hq
    refine wo_step (v := (.i .i64 x14)) (s_pure (o_len rfl e14)) ?_
    have hq := forceB_inv hr
    clear hr
    obtain ⟨c15, e15, hr⟩ := hq
    refine wo_step (v := (.b c15)) (s_pure (p_bin rfl rfl (b_gtr.trans (cb e15)))) ?_
    refine wo_nil ?_
    refine nx_norm ?_
    have hq := cond_inv hr
    clear hr
    rcases hq with ⟨rfl, hr⟩ | ⟨rfl, hr⟩
    · refine w_condT rfl ?_
      refine w_seq ?_
      refine w_ops ?_
      refine wo_step (v := (.i .i64 1)) (s_pure (p_mv rfl)) ?_
      refine wo_nil ?_
      refine nx_norm ?_
      refine w_ret ?_
      refine nx_ret ?_
      exact qf ret_ok (rt rfl rn) hr
    · refine w_condF rfl ?_
      refine w_skip ?_
      refine nx_norm ?_
      refine w_seq ?_
      refine w_seq ?_
      refine w_ops ?_
      refine wo_step (v := v0) (s_pure (p_mv g0)) ?_
      have hq := bindO_inv hr
      clear hr
      obtain ⟨v17, e17, hr⟩ := hq
      have hq := asI_inv hr
      clear hr
      obtain ⟨x17, rfl, hr⟩ := hq
      refine wo_step (v := (.i .i64 x17)) (s_pure (o_len rfl e17)) ?_
      have hq := forceI_inv hr
      clear hr
      obtain ⟨x18, e18, hr⟩ := hq
      refine wo_step (v := (.i .i64 x18)) (s_pure (p_bin rfl rfl (b_sub.trans (ci e18)))) ?_
      refine wo_step (v := (.i .i64 x18)) (s_pure (p_mv rfl)) ?_
      refine wo_nil ?_
      refine nx_norm ?_
      refine w_block ?_
      have hq := bindO_inv hr
      clear hr
      obtain ⟨o, hl, hr⟩ := hq
      obtain ⟨n, hl⟩ := hM.loop _ _ _ hl
      refine jp_mono (w_loop _ (g88_I0 v0 v1 m0) (g88_J0 v0 v1 m0) ?_ n _ _ _ _ hl ⟨rfl, gl rfl, gl g0, gl g1⟩) ?_
      · clear hr hl
        intro s mm_2 t_1 o hi hr
        obtain ⟨x5, hs⟩ : ∃ z, z = s := ⟨_, rfl⟩
        subst hs
        obtain ⟨rfl, g5, g0, g1⟩ := hi
        unfold g88_b0 at hr
        refine w_seq ?_
        refine w_seq ?_
        refine w_ops ?_
        refine wo_step (v := (.i .i64 x5)) (s_pure (p_mv g5)) ?_
        have hq := forceB_inv hr
        clear hr
        obtain ⟨c20, e20, hr⟩ := hq
        refine wo_step (v := (.b c20)) (s_pure (p_bin rfl rfl (b_geq.trans (cb e20)))) ?_
        refine wo_nil ?_
        refine nx_norm ?_
        have hq := cond_inv hr
        clear hr
        rcases hq with ⟨rfl, hr⟩ | ⟨rfl, hr⟩
        · refine w_condT rfl ?_
          refine w_skip ?_
          refine nx_norm ?_
          refine w_seq ?_
          refine w_block ?_
          refine w_seq ?_
          refine w_seq ?_
          refine w_any ?_
          refine wa_step (v := v0) (a_pure (p_mv g0)) ?_
          refine wa_step (v := (.i .i64 x5)) (a_pure (p_mv g5)) ?_
          have hq := bindO_inv hr
          clear hr
          obtain ⟨v25, e25, hr⟩ := hq
          refine wa_step (v := v25) (a_pure (o_ixS rfl rfl e25)) ?_
          have hq := bindO_inv hr
          clear hr
          obtain ⟨v26, e26, hr⟩ := hq
          have hq := asI_inv hr
          clear hr
          obtain ⟨x26, rfl, hr⟩ := hq
          refine wa_step (v := (.i .i64 x26)) (a_ld rfl e26) ?_
          refine wa_step (v := v1) (a_pure (p_mv g1)) ?_
          refine wa_step (v := (.i .i64 x5)) (a_pure (p_mv g5)) ?_
          have hq := bindO_inv hr
          clear hr
          obtain ⟨v29, e29, hr⟩ := hq
          refine wa_step (v := v29) (a_pure (o_ixS rfl rfl e29)) ?_
          have hq := bindO_inv hr
          clear hr
          obtain ⟨v30, e30, hr⟩ := hq
          have hq := asI_inv hr
          clear hr
          obtain ⟨x30, rfl, hr⟩ := hq
          refine wa_step (v := (.i .i64 x30)) (a_ld rfl e30) ?_
          have hq := forceB_inv hr
          clear hr
          obtain ⟨c31, e31, hr⟩ := hq
          refine wa_step (v := (.b c31)) (a_pure (p_bin rfl rfl (b_lss.trans (cb e31)))) ?_
          refine wa_nil ?_
          refine ⟨m0, wM2_nil rfl, ?_⟩
          refine nx_norm ?_
          have hq := cond_inv hr
          clear hr
          rcases hq with ⟨rfl, hr⟩ | ⟨rfl, hr⟩
          · refine w_condT rfl ?_
            refine w_seq ?_
            refine w_ops ?_
            refine wo_step (v := (.i .i64 (-1))) (s_pure (p_mv rfl)) ?_
            refine wo_nil ?_
            refine nx_norm ?_
            refine w_ret ?_
            refine nx_ret ?_
            refine bk_ret ?_
            refine nx_ret ?_
            cases hr
            exact ⟨_, _, rfl, ne_norm_ret, rfl, rfl, gl rfl⟩
          · refine w_condF rfl ?_
            refine w_skip ?_
            refine nx_norm ?_
            refine w_seq ?_
            refine w_any ?_
            refine wa_step (v := v0) (a_pure (p_mv g0)) ?_
            refine wa_step (v := (.i .i64 x5)) (a_pure (p_mv g5)) ?_
            have hq := bindO_inv hr
            clear hr
            obtain ⟨v34, e34, hr⟩ := hq
            refine wa_step (v := v34) (a_pure (o_ixS rfl rfl e34)) ?_
            have hq := bindO_inv hr
            clear hr
            obtain ⟨v35, e35, hr⟩ := hq
            have hq := asI_inv hr
            clear hr
            obtain ⟨x35, rfl, hr⟩ := hq
            refine wa_step (v := (.i .i64 x35)) (a_ld rfl e35) ?_
            refine wa_step (v := v1) (a_pure (p_mv g1)) ?_
            refine wa_step (v := (.i .i64 x5)) (a_pure (p_mv g5)) ?_
            have hq := bindO_inv hr
            clear hr
            obtain ⟨v38, e38, hr⟩ := hq
            refine wa_step (v := v38) (a_pure (o_ixS rfl rfl e38)) ?_
            have hq := bindO_inv hr
            clear hr
            obtain ⟨v39, e39, hr⟩ := hq
            have hq := asI_inv hr
            clear hr
            obtain ⟨x39, rfl, hr⟩ := hq
            refine wa_step (v := (.i .i64 x39)) (a_ld rfl e39) ?_
            have hq := forceB_inv hr
            clear hr
            obtain ⟨c40, e40, hr⟩ := hq
            refine wa_step (v := (.b c40)) (a_pure (p_bin rfl rfl (b_gtr.trans (cb e40)))) ?_
            refine wa_nil ?_
            refine ⟨m0, wM2_nil rfl, ?_⟩
            refine nx_norm ?_
            have hq := cond_inv hr
            clear hr
            rcases hq with ⟨rfl, hr⟩ | ⟨rfl, hr⟩
            · refine w_condT rfl ?_
              refine w_seq ?_
              refine w_ops ?_
              refine wo_step (v := (.i .i64 1)) (s_pure (p_mv rfl)) ?_
              refine wo_nil ?_
              refine nx_norm ?_
              refine w_ret ?_
              refine bk_ret ?_
              refine nx_ret ?_
              cases hr
              exact ⟨_, _, rfl, ne_norm_ret, rfl, rfl, gl rfl⟩
            · refine w_condF rfl ?_
              refine w_skip ?_
              refine bk_norm ?_
              refine nx_norm ?_
              refine w_ops ?_
              refine wo_step (v := (.i .i64 x5)) (s_pure (p_mv g5)) ?_
              have hq := forceI_inv hr
              clear hr
              obtain ⟨x22, e22, hr⟩ := hq
              refine wo_step (v := (.i .i64 x22)) (s_pure (p_bin rfl rfl (b_sub.trans (ci e22)))) ?_
              refine wo_step (v := (.i .i64 x22)) (s_pure (p_mv rfl)) ?_
              refine wo_nil ?_
              cases hr
              exact ⟨_, _, rfl, rfl, rfl, gl rfl, gl g0, gl g1⟩
        · refine w_condF rfl ?_
          refine w_exit ?_
          refine nx_exit ?_
          cases hr
          exact ⟨_, _, rfl, ne_norm_exit, rfl, rfl⟩
      · rcases o with o | o
        · rintro _ mm t_2 ⟨rfl, rfl⟩
          refine bk_hit ?_
          refine nx_norm ?_
          refine w_seq ?_
          refine w_ops ?_
          refine wo_step (v := (.i .i64 0)) (s_pure (p_mv rfl)) ?_
          refine wo_nil ?_
          refine nx_norm ?_
          refine w_ret ?_
          exact qf ret_ok (rt rfl rn) hr
        · obtain ⟨x4, ho⟩ : ∃ z, z = o := ⟨_, rfl⟩
          subst ho
          rintro _ mm_1 t_3 ⟨rfl, rfl, g4⟩
          refine bk_ret ?_
          refine nx_ret ?_
          exact qf ret_ok (rt g4 rn) hr

/- dibber/dibberref01.mulD -/
abbrev g89_I0 (v0 : AVal) (v1 : AVal) (v15 : AVal) (s : Int × Mm) (m1 : Mm) (t1 : Tr) : Prop :=
  match s with
  | (x6, m_2) => m_2 = m1 ∧ t1.get 6 = (.i .i64 x6) ∧ t1.get 0 = v0 ∧ t1.get 1 = v1 ∧ t1.get 5 = v15
abbrev g89_J0 (v0 : AVal) (v1 : AVal) (v15 : AVal) (o : Mm) (e : AExit) (m1 : Mm) (t1 : Tr) : Prop :=
  match o with
  | mo => e = (.exit 0) ∧ mo = m1 ∧ t1.get 5 = v15
abbrev g89_I1 (v0 : AVal) (v1 : AVal) (v15 : AVal) (x6 : Int) (s : Int × Int × Mm) (m1 : Mm) (t1 : Tr) : Prop :=
  match s with
  | (x7, x8, m_3) => m_3 = m1 ∧ t1.get 7 = (.i .i64 x7) ∧ t1.get 8 = (.i .i64 x8) ∧ t1.get 0 = v0 ∧ t1.get 1 = v1 ∧ t1.get 5 = v15 ∧ t1.get 6 = (.i .i64 x6)
abbrev g89_J1 (v0 : AVal) (v1 : AVal) (v15 : AVal) (x6 : Int) (o : (Int × Mm)) (e : AExit) (m1 : Mm) (t1 : Tr) : Prop :=
  match o with
  | (y7, mo) => e = (.exit 2) ∧ mo = m1 ∧ t1.get 7 = (.i .i64 y7) ∧ t1.get 0 = v0 ∧ t1.get 1 = v1 ∧ t1.get 5 = v15 ∧ t1.get 6 = (.i .i64 x6)
def g89_b1 (M : Means) (ro : List ABlk) (v0 : AVal) (v1 : AVal) (v15 : AVal) (x6 : Int) (x7 : Int) (x8 : Int) (m_3 : Mm) : Option ((Int × Int × Mm) ⊕ ((Int × Mm))) :=
  bindO (evP .e (.len false (.c v1))) fun v24 =>
  asI .i64 v24 fun x24 =>
  forceB (ltI x8 x24) fun c25 =>
  cond c25 (
    forceI (wr .i64 (x6 + x8)) fun x31 =>
    bindO (evP .e (.ixS 1 (.c v15) (.c (.i .i64 x31)))) fun v32 =>
    bindO (ldA ro m_3.h true 1 v32) fun v33 =>
    asI .i64 v33 fun x33 =>
    bindO (evP .e (.ixS 1 (.c v0) (.c (.i .i64 x6)))) fun v36 =>
    bindO (ldA ro m_3.h true 1 v36) fun v37 =>
    asI .i64 v37 fun x37 =>
    bindO (evP .e (.ixS 1 (.c v1) (.c (.i .i64 x8)))) fun v40 =>
    bindO (ldA ro m_3.h true 1 v40) fun v41 =>
    asI .i64 v41 fun x41 =>
    forceI (wr .i64 (x37 * x41)) fun x42 =>
    forceI (wr .i64 (x33 + x42)) fun x43 =>
    forceI (wr .i64 (x43 + x7)) fun x45 =>
    forceI (wr .i64 (x6 + x8)) fun x49 =>
    forceI (Int.tmod x45 10000) fun x51 =>
    bindO (evP .e (.ixS 1 (.c v15) (.c (.i .i64 x49)))) fun v52 =>
    bindP (stepM ro m_3 (.st 1 (.c v52) (.c (.i .i64 x51)))) fun vn m_4 =>
    forceI (wr .i64 (Int.tdiv x45 10000)) fun x54 =>
    forceI (wr .i64 (x8 + 1)) fun x27 =>
    some (.inl (x54, x27, m_4))) (
    some (.inr (x7, m_3)))
def g89_b0 (M : Means) (ro : List ABlk) (v0 : AVal) (v1 : AVal) (v15 : AVal) (x6 : Int) (m_2 : Mm) : Option ((Int × Mm) ⊕ (Mm)) :=
  bindO (evP .e (.len false (.c v0))) fun v18 =>
  asI .i64 v18 fun x18 =>
  forceB (ltI x6 x18) fun c19 =>
  cond c19 (
    bindO (M.loop (S := Int × Int × Mm) (R := (Int × Mm)) (fun s => g89_b1 M ro v0 v1 v15 x6 s.1 s.2.1 s.2.2) (0, 0, m_2)) fun ⟨x7_1, m_5⟩ =>
    bindO (evP .e (.len false (.c v1))) fun v58 =>
    asI .i64 v58 fun x58 =>
    forceI (wr .i64 (x6 + x58)) fun x59 =>
    bindO (evP .e (.ixS 1 (.c v15) (.c (.i .i64 x59)))) fun v61 =>
    bindP (stepM ro m_5 (.st 1 (.c v61) (.c (.i .i64 x7_1)))) fun vn_1 m_6 =>
    forceI (wr .i64 (x6 + 1)) fun x21 =>
    some (.inl (x21, m_6))) (
    some (.inr m_2))
def g89 (M : Means) (ro : List ABlk) (v0 : AVal) (v1 : AVal) (m0 : Mm) : Option (AVal × Heap × Nat × Nat) :=
  bindO (evP .e (.len false (.c v0))) fun v11 =>
  asI .i64 v11 fun x11 =>
  bindO (evP .e (.len false (.c v1))) fun v13 =>
  asI .i64 v13 fun x13 =>
  forceI (wr .i64 (x11 + x13)) fun x14 =>
  bindP (stepM ro m0 (.mk 3 1 8 [(AVal.i IntKind.i64 0)] (.c (.i .i64 x14)) (.c (.i .i64 x14)))) fun v15 m_1 =>
  bindO (M.loop (S := Int × Mm) (R := Mm) (fun s => g89_b0 M ro v0 v1 v15 s.1 s.2) (0, m_1)) fun m_7 =>
  bindP (callM M.call m_7 92 [v15]) fun v63 m_8 =>
  finM m0.h.length (tupA [v63]) m_8

theorem g89_ok {ro : List ABlk} {O : Caller} {M : Means} (hM : M.Ok ⟨F, O⟩ ro) {v0 v1 h r} (ho : O 89 [v0, v1] h = none) (hr : g89 M ro v0 v1 ⟨h, h.length, h.length⟩ = some r) : callX ⟨F, O⟩ ro 89 [v0, v1] h = some r := by
  refine callX_of (F := ⟨F, O⟩) (fn := fn89) (g := g89 M ro v0 v1) ho rfl rfl hr ?_
  clear ho
  clear hr
  intro m0 t0 ht hr
  have g0 : t0.get 0 = v0 := ht 0
  have g1 : t0.get 1 = v1 := ht 1
  clear ht
  unfold g89 at hr
  refine w_seq ?_
  refine w_ops ?_
  refine wo_step (v := AVal.nsl) (s_pure (p_mv rfl)) ?_
  refine wo_nil ?_
  refine nx_norm ?_
  refine w_seq ?_
  refine w_ops ?_
  refine wo_step (v := v0) (s_pure (p_mv g0)) ?_
  have hq := bindO_inv hr
  clear hr
  obtain ⟨v11, e11, hr⟩ := hq
  have hq := asI_inv hr
  clear hr
  obtain ⟨x11, rfl, hr⟩ := hq
  refine wo_step (v := (.i .i64 x11)) (s_pure (o_len rfl e11)) ?_
  refine wo_step (v := v1) (s_pure (p_mv g1)) ?_
  have hq := bindO_inv hr
  clear hr
  obtain ⟨v13, e13, hr⟩ := hq
  have hq := asI_inv hr
  clear hr
  obtain ⟨x13, rfl, hr⟩ := hq
  refine wo_step (v := (.i .i64 x13)) (s_pure (o_len rfl e13)) ?_
  have hq := forceI_inv hr
  clear hr
  obtain ⟨x14, e14, hr⟩ := hq
  refine wo_step (v := (.i .i64 x14)) (s_pure (p_bin rfl rfl (b_add.trans (ci e14)))) ?_
  have hq := bindP_inv hr
  clear hr
  obtain ⟨v15, m_1, e15, hr⟩ := hq
  refine wo_step (v := v15) (s_mk rfl rfl e15) ?_
  refine wo_step (v := v15) (s_pure (p_mv rfl)) ?_
  refine wo_nil ?_
  refine nx_norm ?_
  refine w_seq ?_
  refine w_seq ?_
  refine w_ops ?_
  refine wo_step (v := (.i .i64 0)) (s_pure (p_mv rfl)) ?_
  refine wo_nil ?_
  refine nx_norm ?_
  refine w_block ?_
  have hq := bindO_inv hr
  clear hr
  obtain ⟨o_1, hl_1, hr⟩ := hq
  obtain ⟨n_1, hl_1⟩ := hM.loop _ _ _ hl_1
  refine jp_mono (w_loop _ (g89_I0 v0 v1 v15) (g89_J0 v0 v1 v15) ?_ n_1 _ _ _ _ hl_1 ⟨rfl, gl rfl, gl g0, gl g1, gl rfl⟩) ?_
  · clear hr hl_1
    intro s mm_3 t_1 o hi hr
    obtain ⟨x6, m_2⟩ := s
    obtain ⟨rfl, g6, g0, g1, g5⟩ := hi
    unfold g89_b0 at hr
    refine w_seq ?_
    refine w_seq ?_
    refine w_ops ?_
    refine wo_step (v := (.i .i64 x6)) (s_pure (p_mv g6)) ?_
    refine wo_step (v := v0) (s_pure (p_mv g0)) ?_
    have hq := bindO_inv hr
    clear hr
    obtain ⟨v18, e18, hr⟩ := hq
    have hq := asI_inv hr
    clear hr
    obtain ⟨x18, rfl, hr⟩ := hq
    refine wo_step (v := (.i .i64 x18)) (s_pure (o_len rfl e18)) ?_
    have hq := forceB_inv hr
    clear hr
    obtain ⟨c19, e19, hr⟩ := hq
    refine wo_step (v := (.b c19)) (s_pure (p_bin rfl rfl (b_lss.trans (cb e19)))) ?_
    refine wo_nil ?_
    refine nx_norm ?_
    have hq := cond_inv hr
    clear hr
    rcases hq with ⟨rfl, hr⟩ | ⟨rfl, hr⟩
    · refine w_condT rfl ?_
      refine w_skip ?_
      refine nx_norm ?_
      refine w_seq ?_
      refine w_block ?_
      refine w_seq ?_
      refine w_ops ?_
      refine wo_step (v := (.i .i64 0)) (s_pure (p_mv rfl)) ?_
      refine wo_nil ?_
      refine nx_norm ?_
      refine w_seq ?_
      refine w_seq ?_
      refine w_ops ?_
      refine wo_step (v := (.i .i64 0)) (s_pure (p_mv rfl)) ?_
      refine wo_nil ?_
      refine nx_norm ?_
      refine w_block ?_
      have hq := bindO_inv hr
      clear hr
      obtain ⟨o, hl, hr⟩ := hq
      obtain ⟨n, hl⟩ := hM.loop _ _ _ hl
      refine jp_mono (w_loop _ (g89_I1 v0 v1 v15 x6) (g89_J1 v0 v1 v15 x6) ?_ n _ _ _ _ hl ⟨rfl, gl rfl, gl rfl, gl g0, gl g1, gl g5, gl g6⟩) ?_
      · clear hr hl
        intro s mm_1 t_2 o hi hr
        obtain ⟨x7, x8, m_3⟩ := s
        obtain ⟨rfl, g7, g8, g0, g1, g5, g6⟩ := hi
        unfold g89_b1 at hr
        refine w_seq ?_
        refine w_seq ?_
        refine w_ops ?_
        refine wo_step (v := (.i .i64 x8)) (s_pure (p_mv g8)) ?_
        refine wo_step (v := v1) (s_pure (p_mv g1)) ?_
        have hq := bindO_inv hr
        clear hr
        obtain ⟨v24, e24, hr⟩ := hq
        have hq := asI_inv hr
        clear hr
        obtain ⟨x24, rfl, hr⟩ := hq
        refine wo_step (v := (.i .i64 x24)) (s_pure (o_len rfl e24)) ?_
        have hq := forceB_inv hr
        clear hr
        obtain ⟨c25, e25, hr⟩ := hq
        refine wo_step (v := (.b c25)) (s_pure (p_bin rfl rfl (b_lss.trans (cb e25)))) ?_
        refine wo_nil ?_
        refine nx_norm ?_
        have hq := cond_inv hr
        clear hr
        rcases hq with ⟨rfl, hr⟩ | ⟨rfl, hr⟩
        · refine w_condT rfl ?_
          refine w_skip ?_
          refine nx_norm ?_
          refine w_seq ?_
          refine w_block ?_
          refine w_seq ?_
          refine w_any ?_
          refine wa_step (v := v15) (a_pure (p_mv g5)) ?_
          refine wa_step (v := (.i .i64 x6)) (a_pure (p_mv g6)) ?_
          refine wa_step (v := (.i .i64 x8)) (a_pure (p_mv g8)) ?_
          have hq := forceI_inv hr
          clear hr
          obtain ⟨x31, e31, hr⟩ := hq
          refine wa_step (v := (.i .i64 x31)) (a_pure (p_bin rfl rfl (b_add.trans (ci e31)))) ?_
          have hq := bindO_inv hr
          clear hr
          obtain ⟨v32, e32, hr⟩ := hq
          refine wa_step (v := v32) (a_pure (o_ixS rfl rfl e32)) ?_
          have hq := bindO_inv hr
          clear hr
          obtain ⟨v33, e33, hr⟩ := hq
          have hq := asI_inv hr
          clear hr
          obtain ⟨x33, rfl, hr⟩ := hq
          refine wa_step (v := (.i .i64 x33)) (a_ld rfl e33) ?_
          refine wa_step (v := v0) (a_pure (p_mv g0)) ?_
          refine wa_step (v := (.i .i64 x6)) (a_pure (p_mv g6)) ?_
          have hq := bindO_inv hr
          clear hr
          obtain ⟨v36, e36, hr⟩ := hq
          refine wa_step (v := v36) (a_pure (o_ixS rfl rfl e36)) ?_
          have hq := bindO_inv hr
          clear hr
          obtain ⟨v37, e37, hr⟩ := hq
          have hq := asI_inv hr
          clear hr
          obtain ⟨x37, rfl, hr⟩ := hq
          refine wa_step (v := (.i .i64 x37)) (a_ld rfl e37) ?_
          refine wa_step (v := v1) (a_pure (p_mv g1)) ?_
          refine wa_step (v := (.i .i64 x8)) (a_pure (p_mv g8)) ?_
          have hq := bindO_inv hr
          clear hr
          obtain ⟨v40, e40, hr⟩ := hq
          refine wa_step (v := v40) (a_pure (o_ixS rfl rfl e40)) ?_
          have hq := bindO_inv hr
          clear hr
          obtain ⟨v41, e41, hr⟩ := hq
          have hq := asI_inv hr
          clear hr
          obtain ⟨x41, rfl, hr⟩ := hq
          refine wa_step (v := (.i .i64 x41)) (a_ld rfl e41) ?_
          have hq := forceI_inv hr
          clear hr
          obtain ⟨x42, e42, hr⟩ := hq
          refine wa_step (v := (.i .i64 x42)) (a_pure (p_bin rfl rfl (b_mul.trans (ci e42)))) ?_
          have hq := forceI_inv hr
          clear hr
          obtain ⟨x43, e43, hr⟩ := hq
          refine wa_step (v := (.i .i64 x43)) (a_pure (p_bin rfl rfl (b_add.trans (ci e43)))) ?_
          refine wa_step (v := (.i .i64 x7)) (a_pure (p_mv g7)) ?_
          have hq := forceI_inv hr
          clear hr
          obtain ⟨x45, e45, hr⟩ := hq
          refine wa_step (v := (.i .i64 x45)) (a_pure (p_bin rfl rfl (b_add.trans (ci e45)))) ?_
          refine wa_step (v := (.i .i64 x45)) (a_pure (p_mv rfl)) ?_
          refine wa_nil ?_
          refine ⟨m_3, wM2_nil rfl, ?_⟩
          refine nx_norm ?_
          refine w_seq ?_
          refine w_ops ?_
          refine wo_step (v := v15) (s_pure (p_mv g5)) ?_
          refine wo_step (v := (.i .i64 x6)) (s_pure (p_mv g6)) ?_
          refine wo_step (v := (.i .i64 x8)) (s_pure (p_mv g8)) ?_
          have hq := forceI_inv hr
          clear hr
          obtain ⟨x49, e49, hr⟩ := hq
          refine wo_step (v := (.i .i64 x49)) (s_pure (p_bin rfl rfl (b_add.trans (ci e49)))) ?_
          refine wo_step (v := (.i .i64 x45)) (s_pure (p_mv rfl)) ?_
          have hq := forceI_inv hr
          clear hr
          obtain ⟨x51, e51, hr⟩ := hq
          refine wo_step (v := (.i .i64 x51)) (s_pure (p_bin rfl rfl ((b_rem rfl).trans (ci e51)))) ?_
          have hq := bindO_inv hr
          clear hr
          obtain ⟨v52, e52, hr⟩ := hq
          refine wo_step (v := v52) (s_pure (o_ixS rfl rfl e52)) ?_
          have hq := bindP_inv hr
          clear hr
          obtain ⟨vn, m_4, en, hr⟩ := hq
          refine wo_stepN (s_st rfl rfl en) ?_
          refine wo_nil ?_
          refine nx_norm ?_
          refine w_ops ?_
          refine wo_step (v := (.i .i64 x45)) (s_pure (p_mv rfl)) ?_
          have hq := forceI_inv hr
          clear hr
          obtain ⟨x54, e54, hr⟩ := hq
          refine wo_step (v := (.i .i64 x54)) (s_pure (p_bin rfl rfl ((b_quo rfl).trans (ci e54)))) ?_
          refine wo_step (v := (.i .i64 x54)) (s_pure (p_mv rfl)) ?_
          refine wo_nil ?_
          refine bk_norm ?_
          refine nx_norm ?_
          refine w_ops ?_
          refine wo_step (v := (.i .i64 x8)) (s_pure (p_mv g8)) ?_
          have hq := forceI_inv hr
          clear hr
          obtain ⟨x27, e27, hr⟩ := hq
          refine wo_step (v := (.i .i64 x27)) (s_pure (p_bin rfl rfl (b_add.trans (ci e27)))) ?_
          refine wo_step (v := (.i .i64 x27)) (s_pure (p_mv rfl)) ?_
          refine wo_nil ?_
          cases hr
          exact ⟨_, _, rfl, rfl, rfl, gl rfl, gl rfl, gl g0, gl g1, gl g5, gl g6⟩
        · refine w_condF rfl ?_
          refine w_exit ?_
          refine nx_exit ?_
          cases hr
          exact ⟨_, _, rfl, ne_norm_exit, rfl, rfl, gl g7, gl g0, gl g1, gl g5, gl g6⟩
      · obtain ⟨x7_1, m_5⟩ := o
        rintro _ mm t_3 ⟨rfl, rfl, g7, g0, g1, g5, g6⟩
        refine bk_hit ?_
        refine nx_norm ?_
        refine w_ops ?_
        refine wo_step (v := v15) (s_pure (p_mv g5)) ?_
        refine wo_step (v := (.i .i64 x6)) (s_pure (p_mv g6)) ?_
        refine wo_step (v := v1) (s_pure (p_mv g1)) ?_
        have hq := bindO_inv hr
        clear hr
        obtain ⟨v58, e58, hr⟩ := hq
        have hq := asI_inv hr
        clear hr
        obtain ⟨x58, rfl, hr⟩ := hq
        refine wo_step (v := (.i .i64 x58)) (s_pure (o_len rfl e58)) ?_
        have hq := forceI_inv hr
        clear hr
        obtain ⟨x59, e59, hr⟩ := hq
        refine wo_step (v := (.i .i64 x59)) (s_pure (p_bin rfl rfl (b_add.trans (ci e59)))) ?_
        refine wo_step (v := (.i .i64 x7_1)) (s_pure (p_mv g7)) ?_
        have hq := bindO_inv hr
        clear hr
        obtain ⟨v61, e61, hr⟩ := hq
        refine wo_step (v := v61) (s_pure (o_ixS rfl rfl e61)) ?_
        have hq := bindP_inv hr
        clear hr
        obtain ⟨vn_1, m_6, en_1, hr⟩ := hq
        refine wo_stepN (s_st rfl rfl en_1) ?_
        refine wo_nil ?_
        refine bk_norm ?_
        refine nx_norm ?_
        refine w_ops ?_
        refine wo_step (v := (.i .i64 x6)) (s_pure (p_mv g6)) ?_
        have hq := forceI_inv hr
        clear hr
        obtain ⟨x21, e21, hr⟩ := hq
        refine wo_step (v := (.i .i64 x21)) (s_pure (p_bin rfl rfl (b_add.trans (ci e21)))) ?_
        refine wo_step (v := (.i .i64 x21)) (s_pure (p_mv rfl)) ?_
        refine wo_nil ?_
        cases hr
        exact ⟨_, _, rfl, rfl, rfl, gl rfl, gl g0, gl g1, gl g5⟩
    · refine w_condF rfl ?_
      refine w_exit ?_
      refine nx_exit ?_
      cases hr
      exact ⟨_, _, rfl, ne_norm_exit, rfl, rfl, gl g5⟩
  · obtain ⟨m_7, ho⟩ : ∃ z, z = o_1 := ⟨_, rfl⟩
    subst ho
    rintro _ mm_2 t_4 ⟨rfl, rfl, g5⟩
    refine bk_hit ?_
    refine nx_norm ?_
    refine w_seq ?_
    refine w_ops ?_
    refine wo_step (v := v15) (s_pure (p_mv g5)) ?_
    have hq := bindP_inv hr
    clear hr
    obtain ⟨v63, m_8, e63, hr⟩ := hq
    refine wo_step (v := v63) (s_call (mc rfl mn) (callM_le hM.call e63)) ?_
    refine wo_step (v := v63) (s_pure (p_mv rfl)) ?_
    refine wo_nil ?_
    refine nx_norm ?_
    refine w_ret ?_
    exact qf ret_ok (rt rfl rn) hr

/- dibber/dibberref01.addD -/
abbrev g90_I0 (v0 : AVal) (v1 : AVal) (s : AVal × Int × Int × Mm) (m1 : Mm) (t1 : Tr) : Prop :=
  match s with
  | (v5, x6, x7, m_1) => m_1 = m1 ∧ t1.get 5 = v5 ∧ t1.get 6 = (.i .i64 x6) ∧ t1.get 7 = (.i .i64 x7) ∧ t1.get 0 = v0 ∧ t1.get 1 = v1
abbrev g90_J0 (v0 : AVal) (v1 : AVal) (o : (AVal × Mm)) (e : AExit) (m1 : Mm) (t1 : Tr) : Prop :=
  match o with
  | (y5, mo) => e = (.exit 0) ∧ mo = m1 ∧ t1.get 5 = y5
abbrev g90_J1 (v0 : AVal) (v1 : AVal) (v5 : AVal) (x6 : Int) (x7 : Int) (m_1 : Mm) (o : Bool) (m1 : Mm) (t1 : Tr) : Prop :=
  match o with
  | c18 => m_1 = m1 ∧ t1.get 18 = (.b c18) ∧ t1.get 0 = v0 ∧ t1.get 1 = v1 ∧ t1.get 5 = v5 ∧ t1.get 6 = (.i .i64 x6) ∧ t1.get 7 = (.i .i64 x7)
abbrev g90_J2 (v0 : AVal) (v1 : AVal) (v5 : AVal) (x6 : Int) (x7 : Int) (m_1 : Mm) (o : Bool) (m1 : Mm) (t1 : Tr) : Prop :=
  match o with
  | c22 => m_1 = m1 ∧ t1.get 22 = (.b c22) ∧ t1.get 0 = v0 ∧ t1.get 1 = v1 ∧ t1.get 5 = v5 ∧ t1.get 6 = (.i .i64 x6) ∧ t1.get 7 = (.i .i64 x7)
abbrev g90_J3 (v0 : AVal) (v1 : AVal) (v5 : AVal) (x7 : Int) (m_1 : Mm) (o : Int) (e : AExit) (m1 : Mm) (t1 : Tr) : Prop :=
  match o with
  | y8 => e = .norm ∧ m_1 = m1 ∧ t1.get 8 = (.i .i64 y8) ∧ t1.get 0 = v0 ∧ t1.get 1 = v1 ∧ t1.get 5 = v5 ∧ t1.get 7 = (.i .i64 x7)
abbrev g90_J4 (v0 : AVal) (v1 : AVal) (v5 : AVal) (x7 : Int) (m_1 : Mm) (o : Int) (e : AExit) (m1 : Mm) (t1 : Tr) : Prop :=
  match o with
  | y8 => e = .norm ∧ m_1 = m1 ∧ t1.get 8 = (.i .i64 y8) ∧ t1.get 0 = v0 ∧ t1.get 1 = v1 ∧ t1.get 5 = v5 ∧ t1.get 7 = (.i .i64 x7)
def g90_b0 (M : Means) (ro : List ABlk) (v0 : AVal) (v1 : AVal) (v5 : AVal) (x6 : Int) (x7 : Int) (m_1 : Mm) : Option ((AVal × Int × Int × Mm) ⊕ ((AVal × Mm))) :=
  bindO (evP .e (.len false (.c v0))) fun v11 =>
  asI .i64 v11 fun x11 =>
  forceB (ltI x7 x11) fun c12 =>
  bindO (cond c12 (
    some true) (
    bindO (evP .e (.len false (.c v1))) fun v16 =>
    asI .i64 v16 fun x16 =>
    forceB (ltI x7 x16) fun c17 =>
    some c17)) fun c18 =>
  bindO (cond c18 (
    some true) (
    forceB (ltI 0 x6) fun c21 =>
    some c21)) fun c22 =>
  cond c22 (
    bindO (evP .e (.len false (.c v0))) fun v28 =>
    asI .i64 v28 fun x28 =>
    forceB (ltI x7 x28) fun c29 =>
    bindO (α := Int) (
      cond c29 (
        bindO (evP .e (.ixS 1 (.c v0) (.c (.i .i64 x7)))) fun v33 =>
        bindO (ldM ro m_1 true 1 v33) fun v34 =>
        asI .i64 v34 fun x34 =>
        forceI (wr .i64 (x6 + x34)) fun x35 =>
        some x35) (
        some x6)) fun x8 =>
    bindO (evP .e (.len false (.c v1))) fun v38 =>
    asI .i64 v38 fun x38 =>
    forceB (ltI x7 x38) fun c39 =>
    bindO (α := Int) (
      cond c39 (
        bindO (evP .e (.ixS 1 (.c v1) (.c (.i .i64 x7)))) fun v43 =>
        bindO (ldM ro m_1 true 1 v43) fun v44 =>
        asI .i64 v44 fun x44 =>
        forceI (wr .i64 (x8 + x44)) fun x45 =>
        some x45) (
        some x8)) fun x8_1 =>
    forceI (Int.tmod x8_1 10000) fun x48 =>
    bindP (stepM ro m_1 (.bsl 3 1 [(AVal.i IntKind.i64 0)] 1 [((0, 1), .c (.i .i64 x48))])) fun v49 m_2 =>
    bindP (stepM ro m_2 (.app 3 1 8 [(AVal.i IntKind.i64 0)] (.c v5) (.c v49))) fun v50 m_3 =>
    forceI (wr .i64 (Int.tdiv x8_1 10000)) fun x52 =>
    forceI (wr .i64 (x7 + 1)) fun x24 =>
    some (.inl (v50, x52, x24, m_3))) (
    some (.inr (v5, m_1)))
def g90 (M : Means) (ro : List ABlk) (v0 : AVal) (v1 : AVal) (m0 : Mm) : Option (AVal × Heap × Nat × Nat) :=
  bindO (M.loop (S := AVal × Int × Int × Mm) (R := (AVal × Mm)) (fun s => g90_b0 M ro v0 v1 s.1 s.2.1 s.2.2.1 s.2.2.2) (AVal.nsl, 0, 0, m0)) fun ⟨v5_1, m_4⟩ =>
  finM m0.h.length (tupA [v5_1]) m_4

theorem g90_ok {ro : List ABlk} {O : Caller} {M : Means} (hM : M.Ok ⟨F, O⟩ ro) {v0 v1 h r} (ho : O 90 [v0, v1] h = none) (hr : g90 M ro v0 v1 ⟨h, h.length, h.length⟩ = some r) : callX ⟨F, O⟩ ro 90 [v0, v1] h = some r := by
  refine callX_of (F := ⟨F, O⟩) (fn := fn90) (g := g90 M ro v0 v1) ho rfl rfl hr ?_
  clear ho
  clear hr
  intro m0 t0 ht hr
  have g0 : t0.get 0 = v0 := ht 0
  have g1 : t0.get 1 = v1 := ht 1
  clear ht
  unfold g90 at hr
  refine w_seq ?_
  refine w_ops ?_
  refine wo_step (v := AVal.nsl) (s_pure (p_mv rfl)) ?_
  refine wo_nil ?_
  refine nx_norm ?_
  refine w_seq ?_
  refine w_ops ?_
  refine wo_step (v := AVal.nsl) (s_pure (p_mv rfl)) ?_
  refine wo_nil ?_
  refine nx_norm ?_
  refine w_seq ?_
  refine w_ops ?_
  refine wo_step (v := (.i .i64 0)) (s_pure (p_mv rfl)) ?_
  refine wo_nil ?_
  refine nx_norm ?_
  refine w_seq ?_
  refine w_seq ?_
  refine w_ops ?_
  refine wo_step (v := (.i .i64 0)) (s_pure (p_mv rfl)) ?_
  refine wo_nil ?_
  refine nx_norm ?_
  refine w_block ?_
  have hq := bindO_inv hr
  clear hr
  obtain ⟨o_4, hl, hr⟩ := hq
  obtain ⟨n, hl⟩ := hM.loop _ _ _ hl
  refine jp_mono (w_loop _ (g90_I0 v0 v1) (g90_J0 v0 v1) ?_ n _ _ _ _ hl ⟨rfl, gl rfl, gl rfl, gl rfl, gl g0, gl g1⟩) ?_
  · clear hr hl
    intro s mm_5 t_1 o hi hr
    obtain ⟨v5, x6, x7, m_1⟩ := s
    obtain ⟨rfl, g5, g6, g7, g0, g1⟩ := hi
    unfold g90_b0 at hr
    refine w_seq ?_
    refine w_seq ?_
    refine w_ops ?_
    refine wo_step (v := (.i .i64 x7)) (s_pure (p_mv g7)) ?_
    refine wo_step (v := v0) (s_pure (p_mv g0)) ?_
    have hq := bindO_inv hr
    clear hr
    obtain ⟨v11, e11, hr⟩ := hq
    have hq := asI_inv hr
    clear hr
    obtain ⟨x11, rfl, hr⟩ := hq
    refine wo_step (v := (.i .i64 x11)) (s_pure (o_len rfl e11)) ?_
    have hq := forceB_inv hr
    clear hr
    obtain ⟨c12, e12, hr⟩ := hq
    refine wo_step (v := (.b c12)) (s_pure (p_bin rfl rfl (b_lss.trans (cb e12)))) ?_
    refine wo_step (v := (.b c12)) (s_pure (p_mv rfl)) ?_
    have hq := bindO_inv hr
    clear hr
    obtain ⟨o, hr, hk⟩ := hq
    refine wo_join 5 (g90_J1 v0 v1 v5 x6 x7 m_1 o) ?_ ?_
    · clear hk
      have hq := cond_inv hr
      clear hr
      rcases hq with ⟨rfl, hr⟩ | ⟨rfl, hr⟩
      · refine wo_skip (v := (.b true)) rfl rfl ?_
        refine wo_skip (v := (.b true)) rfl rfl ?_
        refine wo_skip (v := (.b true)) rfl rfl ?_
        refine wo_skip (v := (.b true)) rfl rfl ?_
        refine wo_step (v := (.b true)) (s_pure (p_pickT rfl rfl)) ?_
        refine wo_nil ?_
        cases hr
        exact ⟨_, _, rfl, rfl, gl rfl, gl g0, gl g1, gl g5, gl g6, gl g7⟩
      · refine wo_take (v := (.i .i64 x7)) rfl (s_pure (p_mv g7)) ?_
        refine wo_take (v := v1) rfl (s_pure (p_mv g1)) ?_
        have hq := bindO_inv hr
        clear hr
        obtain ⟨v16, e16, hr⟩ := hq
        have hq := asI_inv hr
        clear hr
        obtain ⟨x16, rfl, hr⟩ := hq
        refine wo_take (v := (.i .i64 x16)) rfl (s_pure (o_len rfl e16)) ?_
        have hq := forceB_inv hr
        clear hr
        obtain ⟨c17, e17, hr⟩ := hq
        refine wo_take (v := (.b c17)) rfl (s_pure (p_bin rfl rfl (b_lss.trans (cb e17)))) ?_
        refine wo_step (v := (.b c17)) (s_pure (p_pickF rfl rfl)) ?_
        refine wo_nil ?_
        cases hr
        exact ⟨_, _, rfl, rfl, gl rfl, gl g0, gl g1, gl g5, gl g6, gl g7⟩
    · clear hr
      have hr := hk
      clear hk
      obtain ⟨c18, ho⟩ : ∃ z, z = o := ⟨_, rfl⟩
      subst ho
      rintro mm t_2 ⟨rfl, g18, g0, g1, g5, g6, g7⟩
      refine wo_step (v := (.b c18)) (s_pure (p_mv g18)) ?_
      have hq := bindO_inv hr
      clear hr
      obtain ⟨o_1, hr, hk⟩ := hq
      refine wo_join 3 (g90_J2 v0 v1 v5 x6 x7 m_1 o_1) ?_ ?_
      · clear hk
        have hq := cond_inv hr
        clear hr
        rcases hq with ⟨rfl, hr⟩ | ⟨rfl, hr⟩
        · refine wo_skip (v := (.b true)) rfl rfl ?_
          refine wo_skip (v := (.b true)) rfl rfl ?_
          refine wo_step (v := (.b true)) (s_pure (p_pickT rfl rfl)) ?_
          refine wo_nil ?_
          cases hr
          exact ⟨_, _, rfl, rfl, gl rfl, gl g0, gl g1, gl g5, gl g6, gl g7⟩
        · refine wo_take (v := (.i .i64 x6)) rfl (s_pure (p_mv g6)) ?_
          have hq := forceB_inv hr
          clear hr
          obtain ⟨c21, e21, hr⟩ := hq
          refine wo_take (v := (.b c21)) rfl (s_pure (p_bin rfl rfl (b_gtr.trans (cb e21)))) ?_
          refine wo_step (v := (.b c21)) (s_pure (p_pickF rfl rfl)) ?_
          refine wo_nil ?_
          cases hr
          exact ⟨_, _, rfl, rfl, gl rfl, gl g0, gl g1, gl g5, gl g6, gl g7⟩
      · clear hr
        have hr := hk
        clear hk
        obtain ⟨c22, ho⟩ : ∃ z, z = o_1 := ⟨_, rfl⟩
        subst ho
        rintro mm_1 t_3 ⟨rfl, g22, g0, g1, g5, g6, g7⟩
        refine wo_nil ?_
        refine nx_norm ?_
        have hq := cond_inv hr
        clear hr
        rcases hq with ⟨rfl, hr⟩ | ⟨rfl, hr⟩
        · refine w_condT g22 ?_
          refine w_skip ?_
          refine nx_norm ?_
          refine w_seq ?_
          refine w_block ?_
          refine w_seq ?_
          refine w_ops ?_
          refine wo_step (v := (.i .i64 x6)) (s_pure (p_mv g6)) ?_
          refine wo_step (v := (.i .i64 x6)) (s_pure (p_mv rfl)) ?_
          refine wo_nil ?_
          refine nx_norm ?_
          refine w_seq ?_
          refine w_seq ?_
          refine w_ops ?_
          refine wo_step (v := (.i .i64 x7)) (s_pure (p_mv g7)) ?_
          refine wo_step (v := v0) (s_pure (p_mv g0)) ?_
          have hq := bindO_inv hr
          clear hr
          obtain ⟨v28, e28, hr⟩ := hq
          have hq := asI_inv hr
          clear hr
          obtain ⟨x28, rfl, hr⟩ := hq
          refine wo_step (v := (.i .i64 x28)) (s_pure (o_len rfl e28)) ?_
          have hq := forceB_inv hr
          clear hr
          obtain ⟨c29, e29, hr⟩ := hq
          refine wo_step (v := (.b c29)) (s_pure (p_bin rfl rfl (b_lss.trans (cb e29)))) ?_
          refine wo_nil ?_
          refine nx_norm ?_
          have hq := bindO_inv hr
          clear hr
          obtain ⟨o_2, hr, hk⟩ := hq
          refine jp_mono (J := g90_J3 v0 v1 v5 x7 m_1 o_2) ?_ ?_
          · clear hk
            have hq := cond_inv hr
            clear hr
            rcases hq with ⟨rfl, hr⟩ | ⟨rfl, hr⟩
            · refine w_condT rfl ?_
              refine w_ops ?_
              refine wo_step (v := (.i .i64 x6)) (s_pure (p_mv rfl)) ?_
              refine wo_step (v := v0) (s_pure (p_mv g0)) ?_
              refine wo_step (v := (.i .i64 x7)) (s_pure (p_mv g7)) ?_
              have hq := bindO_inv hr
              clear hr
              obtain ⟨v33, e33, hr⟩ := hq
              refine wo_step (v := v33) (s_pure (o_ixS rfl rfl e33)) ?_
              have hq := bindO_inv hr
              clear hr
              obtain ⟨v34, e34, hr⟩ := hq
              have hq := asI_inv hr
              clear hr
              obtain ⟨x34, rfl, hr⟩ := hq
              refine wo_step (v := (.i .i64 x34)) (s_ld rfl e34) ?_
              have hq := forceI_inv hr
              clear hr
              obtain ⟨x35, e35, hr⟩ := hq
              refine wo_step (v := (.i .i64 x35)) (s_pure (p_bin rfl rfl (b_add.trans (ci e35)))) ?_
              refine wo_step (v := (.i .i64 x35)) (s_pure (p_mv rfl)) ?_
              refine wo_nil ?_
              cases hr
              exact ⟨_, _, rfl, rfl, rfl, gl rfl, gl g0, gl g1, gl g5, gl g7⟩
            · refine w_condF rfl ?_
              refine w_skip ?_
              cases hr
              exact ⟨_, _, rfl, rfl, rfl, gl rfl, gl g0, gl g1, gl g5, gl g7⟩
          · clear hr
            have hr := hk
            clear hk
            obtain ⟨x8, ho⟩ : ∃ z, z = o_2 := ⟨_, rfl⟩
            subst ho
            rintro _ mm_3 t_4 ⟨rfl, rfl, g8, g0, g1, g5, g7⟩
            refine nx_norm ?_
            refine w_seq ?_
            refine w_seq ?_
            refine w_ops ?_
            refine wo_step (v := (.i .i64 x7)) (s_pure (p_mv g7)) ?_
            refine wo_step (v := v1) (s_pure (p_mv g1)) ?_
            have hq := bindO_inv hr
            clear hr
            obtain ⟨v38, e38, hr⟩ := hq
            have hq := asI_inv hr
            clear hr
            obtain ⟨x38, rfl, hr⟩ := hq
            refine wo_step (v := (.i .i64 x38)) (s_pure (o_len rfl e38)) ?_
            have hq := forceB_inv hr
            clear hr
            obtain ⟨c39, e39, hr⟩ := hq
            refine wo_step (v := (.b c39)) (s_pure (p_bin rfl rfl (b_lss.trans (cb e39)))) ?_
            refine wo_nil ?_
            refine nx_norm ?_
            have hq := bindO_inv hr
            clear hr
            obtain ⟨o_3, hr, hk⟩ := hq
            refine jp_mono (J := g90_J4 v0 v1 v5 x7 m_1 o_3) ?_ ?_
            · clear hk
              have hq := cond_inv hr
              clear hr
              rcases hq with ⟨rfl, hr⟩ | ⟨rfl, hr⟩
              · refine w_condT rfl ?_
                refine w_ops ?_
                refine wo_step (v := (.i .i64 x8)) (s_pure (p_mv g8)) ?_
                refine wo_step (v := v1) (s_pure (p_mv g1)) ?_
                refine wo_step (v := (.i .i64 x7)) (s_pure (p_mv g7)) ?_
                have hq := bindO_inv hr
                clear hr
                obtain ⟨v43, e43, hr⟩ := hq
                refine wo_step (v := v43) (s_pure (o_ixS rfl rfl e43)) ?_
                have hq := bindO_inv hr
                clear hr
                obtain ⟨v44, e44, hr⟩ := hq
                have hq := asI_inv hr
                clear hr
                obtain ⟨x44, rfl, hr⟩ := hq
                refine wo_step (v := (.i .i64 x44)) (s_ld rfl e44) ?_
                have hq := forceI_inv hr
                clear hr
                obtain ⟨x45, e45, hr⟩ := hq
                refine wo_step (v := (.i .i64 x45)) (s_pure (p_bin rfl rfl (b_add.trans (ci e45)))) ?_
                refine wo_step (v := (.i .i64 x45)) (s_pure (p_mv rfl)) ?_
                refine wo_nil ?_
                cases hr
                exact ⟨_, _, rfl, rfl, rfl, gl rfl, gl g0, gl g1, gl g5, gl g7⟩
              · refine w_condF rfl ?_
                refine w_skip ?_
                cases hr
                exact ⟨_, _, rfl, rfl, rfl, gl g8, gl g0, gl g1, gl g5, gl g7⟩
            · clear hr
              have hr := hk
              clear hk
              obtain ⟨x8_1, ho⟩ : ∃ z, z = o_3 := ⟨_, rfl⟩
              subst ho
              rintro _ mm_2 t_5 ⟨rfl, rfl, g8, g0, g1, g5, g7⟩
              refine nx_norm ?_
              refine w_seq ?_
              refine w_ops ?_
              refine wo_step (v := v5) (s_pure (p_mv g5)) ?_
              refine wo_step (v := (.i .i64 x8_1)) (s_pure (p_mv g8)) ?_
              have hq := forceI_inv hr
              clear hr
              obtain ⟨x48, e48, hr⟩ := hq
              refine wo_step (v := (.i .i64 x48)) (s_pure (p_bin rfl rfl ((b_rem rfl).trans (ci e48)))) ?_
              have hq := bindP_inv hr
              clear hr
              obtain ⟨v49, m_2, e49, hr⟩ := hq
              refine wo_step (v := v49) (s_bsl (qc rfl qn) e49) ?_
              have hq := bindP_inv hr
              clear hr
              obtain ⟨v50, m_3, e50, hr⟩ := hq
              refine wo_step (v := v50) (s_app rfl rfl e50) ?_
              refine wo_step (v := v50) (s_pure (p_mv rfl)) ?_
              refine wo_nil ?_
              refine nx_norm ?_
              refine w_ops ?_
              refine wo_step (v := (.i .i64 x8_1)) (s_pure (p_mv g8)) ?_
              have hq := forceI_inv hr
              clear hr
              obtain ⟨x52, e52, hr⟩ := hq
              refine wo_step (v := (.i .i64 x52)) (s_pure (p_bin rfl rfl ((b_quo rfl).trans (ci e52)))) ?_
              refine wo_step (v := (.i .i64 x52)) (s_pure (p_mv rfl)) ?_
              refine wo_nil ?_
              refine bk_norm ?_
              refine nx_norm ?_
              refine w_ops ?_
              refine wo_step (v := (.i .i64 x7)) (s_pure (p_mv g7)) ?_
              have hq := forceI_inv hr
              clear hr
              obtain ⟨x24, e24, hr⟩ := hq
              refine wo_step (v := (.i .i64 x24)) (s_pure (p_bin rfl rfl (b_add.trans (ci e24)))) ?_
              refine wo_step (v := (.i .i64 x24)) (s_pure (p_mv rfl)) ?_
              refine wo_nil ?_
              cases hr
              exact ⟨_, _, rfl, rfl, rfl, gl rfl, gl rfl, gl rfl, gl g0, gl g1⟩
        · refine w_condF g22 ?_
          refine w_exit ?_
          refine nx_exit ?_
          cases hr
          exact ⟨_, _, rfl, ne_norm_exit, rfl, rfl, gl g5⟩
  · obtain ⟨v5_1, m_4⟩ := o_4
    rintro _ mm_4 t_6 ⟨rfl, rfl, g5⟩
    refine bk_hit ?_
    refine nx_norm ?_
    refine w_seq ?_
    refine w_ops ?_
    refine wo_step (v := v5_1) (s_pure (p_mv g5)) ?_
    refine wo_step (v := v5_1) (s_pure (p_mv rfl)) ?_
    refine wo_nil ?_
    refine nx_norm ?_
    refine w_ret ?_
    exact qf ret_ok (rt rfl rn) hr

/- dibber/dibberref01.trim -/
abbrev g92_I0 (v0 : AVal) (m0 : Mm) (s : Int) (m1 : Mm) (t1 : Tr) : Prop :=
  match s with
  | x3 => m0 = m1 ∧ t1.get 3 = (.i .i64 x3) ∧ t1.get 0 = v0
abbrev g92_J0 (v0 : AVal) (m0 : Mm) (o : Int) (e : AExit) (m1 : Mm) (t1 : Tr) : Prop :=
  match o with
  | y3 => e = (.exit 0) ∧ m0 = m1 ∧ t1.get 3 = (.i .i64 y3) ∧ t1.get 0 = v0
abbrev g92_J1 (v0 : AVal) (x3 : Int) (m0 : Mm) (o : Bool) (m1 : Mm) (t1 : Tr) : Prop :=
  match o with
  | c17 => m0 = m1 ∧ t1.get 17 = (.b c17) ∧ t1.get 0 = v0 ∧ t1.get 3 = (.i .i64 x3)
def g92_b0 (M : Means) (ro : List ABlk) (v0 : AVal) (m0 : Mm) (x3 : Int) : Option ((Int) ⊕ (Int)) :=
  forceB (ltI 0 x3) fun c9 =>
  bindO (cond c9 (
    forceI (wr .i64 (x3 - 1)) fun x13 =>
    bindO (evP .e (.ixS 1 (.c v0) (.c (.i .i64 x13)))) fun v14 =>
    bindO (ldM ro m0 true 1 v14) fun v15 =>
    asI .i64 v15 fun x15 =>
    forceB (eqI x15 0) fun c16 =>
    some c16) (
    some false)) fun c17 =>
  cond c17 (
    forceI (wr .i64 (x3 - 1)) fun x19 =>
    some (.inl x19)) (
    some (.inr x3))
abbrev g92_I2 (v0 : AVal) (x3_1 : Int) (s : AVal × Int × Mm) (m1 : Mm) (t1 : Tr) : Prop :=
  match s with
  | (v4, x5, m_1) => m_1 = m1 ∧ t1.get 4 = v4 ∧ t1.get 5 = (.i .i64 x5) ∧ t1.get 0 = v0 ∧ t1.get 3 = (.i .i64 x3_1)
abbrev g92_J2 (v0 : AVal) (x3_1 : Int) (o : (AVal × Mm)) (e : AExit) (m1 : Mm) (t1 : Tr) : Prop :=
  match o with
  | (y4, mo) => e = (.exit 2) ∧ mo = m1 ∧ t1.get 4 = y4
def g92_b2 (M : Means) (ro : List ABlk) (v0 : AVal) (x3_1 : Int) (v4 : AVal) (x5 : Int) (m_1 : Mm) : Option ((AVal × Int × Mm) ⊕ ((AVal × Mm))) :=
  forceB (ltI x5 x3_1) fun c22 =>
  cond c22 (
    bindO (evP .e (.ixS 1 (.c v0) (.c (.i .i64 x5)))) fun v28 =>
    bindO (ldM ro m_1 true 1 v28) fun v29 =>
    asI .i64 v29 fun x29 =>
    bindP (stepM ro m_1 (.bsl 3 1 [(AVal.i IntKind.i64 0)] 1 [((0, 1), .c (.i .i64 x29))])) fun v30 m_2 =>
    bindP (stepM ro m_2 (.app 3 1 8 [(AVal.i IntKind.i64 0)] (.c v4) (.c v30))) fun v31 m_3 =>
    forceI (wr .i64 (x5 + 1)) fun x24 =>
    some (.inl (v31, x24, m_3))) (
    some (.inr (v4, m_1)))
def g92 (M : Means) (ro : List ABlk) (v0 : AVal) (m0 : Mm) : Option (AVal × Heap × Nat × Nat) :=
  bindO (evP .e (.len false (.c v0))) fun v7 =>
  asI .i64 v7 fun x7 =>
  bindO (M.loop (S := Int) (R := Int) (fun s => g92_b0 M ro v0 m0 s) x7) fun x3_1 =>
  bindO (M.loop (S := AVal × Int × Mm) (R := (AVal × Mm)) (fun s => g92_b2 M ro v0 x3_1 s.1 s.2.1 s.2.2) (AVal.nsl, 0, m0)) fun ⟨v4_1, m_4⟩ =>
  finM m0.h.length (tupA [v4_1]) m_4

theorem g92_ok {ro : List ABlk} {O : Caller} {M : Means} (hM : M.Ok ⟨F, O⟩ ro) {v0 h r} (ho : O 92 [v0] h = none) (hr : g92 M ro v0 ⟨h, h.length, h.length⟩ = some r) : callX ⟨F, O⟩ ro 92 [v0] h = some r := by
  refine callX_of (F := ⟨F, O⟩) (fn := fn92) (g := g92 M ro v0) ho rfl rfl hr ?_
  clear ho
  clear hr
  intro m0 t0 ht hr
  have g0 : t0.get 0 = v0 := ht 0
  clear ht
  unfold g92 at hr
  refine w_seq ?_
  refine w_ops ?_
  refine wo_step (v := AVal.nsl) (s_pure (p_mv rfl)) ?_
  refine wo_nil ?_
  refine nx_norm ?_
  refine w_seq ?_
  refine w_ops ?_
  refine wo_step (v := v0) (s_pure (p_mv g0)) ?_
  have hq := bindO_inv hr
  clear hr
  obtain ⟨v7, e7, hr⟩ := hq
  have hq := asI_inv hr
  clear hr
  obtain ⟨x7, rfl, hr⟩ := hq
  refine wo_step (v := (.i .i64 x7)) (s_pure (o_len rfl e7)) ?_
  refine wo_step (v := (.i .i64 x7)) (s_pure (p_mv rfl)) ?_
  refine wo_nil ?_
  refine nx_norm ?_
  refine w_seq ?_
  refine w_block ?_
  have hq := bindO_inv hr
  clear hr
  obtain ⟨o_1, hl_1, hr⟩ := hq
  obtain ⟨n_1, hl_1⟩ := hM.loop _ _ _ hl_1
  refine jp_mono (w_loop _ (g92_I0 v0 m0) (g92_J0 v0 m0) ?_ n_1 _ _ _ _ hl_1 ⟨rfl, gl rfl, gl g0⟩) ?_
  · clear hr hl_1
    intro s mm_4 t_1 o hi hr
    obtain ⟨x3, hs⟩ : ∃ z, z = s := ⟨_, rfl⟩
    subst hs
    obtain ⟨rfl, g3, g0⟩ := hi
    unfold g92_b0 at hr
    refine w_seq ?_
    refine w_seq ?_
    refine w_ops ?_
    refine wo_step (v := (.i .i64 x3)) (s_pure (p_mv g3)) ?_
    have hq := forceB_inv hr
    clear hr
    obtain ⟨c9, e9, hr⟩ := hq
    refine wo_step (v := (.b c9)) (s_pure (p_bin rfl rfl (b_gtr.trans (cb e9)))) ?_
    refine wo_step (v := (.b c9)) (s_pure (p_mv rfl)) ?_
    have hq := bindO_inv hr
    clear hr
    obtain ⟨o, hr, hk⟩ := hq
    refine wo_join 7 (g92_J1 v0 x3 m0 o) ?_ ?_
    · clear hk
      have hq := cond_inv hr
      clear hr
      rcases hq with ⟨rfl, hr⟩ | ⟨rfl, hr⟩
      · refine wo_take (v := v0) rfl (s_pure (p_mv g0)) ?_
        refine wo_take (v := (.i .i64 x3)) rfl (s_pure (p_mv g3)) ?_
        have hq := forceI_inv hr
        clear hr
        obtain ⟨x13, e13, hr⟩ := hq
        refine wo_take (v := (.i .i64 x13)) rfl (s_pure (p_bin rfl rfl (b_sub.trans (ci e13)))) ?_
        have hq := bindO_inv hr
        clear hr
        obtain ⟨v14, e14, hr⟩ := hq
        refine wo_take (v := v14) rfl (s_pure (o_ixS rfl rfl e14)) ?_
        have hq := bindO_inv hr
        clear hr
        obtain ⟨v15, e15, hr⟩ := hq
        have hq := asI_inv hr
        clear hr
        obtain ⟨x15, rfl, hr⟩ := hq
        refine wo_take (v := (.i .i64 x15)) rfl (s_ld rfl e15) ?_
        have hq := forceB_inv hr
        clear hr
        obtain ⟨c16, e16, hr⟩ := hq
        refine wo_take (v := (.b c16)) rfl (s_pure (p_bin rfl rfl (b_eql.trans (cb e16)))) ?_
        refine wo_step (v := (.b c16)) (s_pure (p_pickT rfl rfl)) ?_
        refine wo_nil ?_
        cases hr
        exact ⟨_, _, rfl, rfl, gl rfl, gl g0, gl g3⟩
      · refine wo_skip (v := (.b false)) rfl rfl ?_
        refine wo_skip (v := (.b false)) rfl rfl ?_
        refine wo_skip (v := (.b false)) rfl rfl ?_
        refine wo_skip (v := (.b false)) rfl rfl ?_
        refine wo_skip (v := (.b false)) rfl rfl ?_
        refine wo_skip (v := (.b false)) rfl rfl ?_
        refine wo_step (v := (.b false)) (s_pure (p_pickF rfl rfl)) ?_
        refine wo_nil ?_
        cases hr
        exact ⟨_, _, rfl, rfl, gl rfl, gl g0, gl g3⟩
    · clear hr
      have hr := hk
      clear hk
      obtain ⟨c17, ho⟩ : ∃ z, z = o := ⟨_, rfl⟩
      subst ho
      rintro mm t_2 ⟨rfl, g17, g0, g3⟩
      refine wo_nil ?_
      refine nx_norm ?_
      have hq := cond_inv hr
      clear hr
      rcases hq with ⟨rfl, hr⟩ | ⟨rfl, hr⟩
      · refine w_condT g17 ?_
        refine w_skip ?_
        refine nx_norm ?_
        refine w_block ?_
        refine w_ops ?_
        refine wo_step (v := (.i .i64 x3)) (s_pure (p_mv g3)) ?_
        have hq := forceI_inv hr
        clear hr
        obtain ⟨x19, e19, hr⟩ := hq
        refine wo_step (v := (.i .i64 x19)) (s_pure (p_bin rfl rfl (b_sub.trans (ci e19)))) ?_
        refine wo_step (v := (.i .i64 x19)) (s_pure (p_mv rfl)) ?_
        refine wo_nil ?_
        refine bk_norm ?_
        cases hr
        exact ⟨_, _, rfl, rfl, rfl, gl rfl, gl g0⟩
      · refine w_condF g17 ?_
        refine w_exit ?_
        refine nx_exit ?_
        cases hr
        exact ⟨_, _, rfl, ne_norm_exit, rfl, rfl, gl g3, gl g0⟩
  · obtain ⟨x3_1, ho⟩ : ∃ z, z = o_1 := ⟨_, rfl⟩
    subst ho
    rintro _ mm_3 t_3 ⟨rfl, rfl, g3, g0⟩
    refine bk_hit ?_
    refine nx_norm ?_
    refine w_seq ?_
    refine w_ops ?_
    refine wo_step (v := AVal.nsl) (s_pure (p_mv rfl)) ?_
    refine wo_nil ?_
    refine nx_norm ?_
    refine w_seq ?_
    refine w_seq ?_
    refine w_ops ?_
    refine wo_step (v := (.i .i64 0)) (s_pure (p_mv rfl)) ?_
    refine wo_nil ?_
    refine nx_norm ?_
    refine w_block ?_
    have hq := bindO_inv hr
    clear hr
    obtain ⟨o_2, hl, hr⟩ := hq
    obtain ⟨n, hl⟩ := hM.loop _ _ _ hl
    refine jp_mono (w_loop _ (g92_I2 v0 x3_1) (g92_J2 v0 x3_1) ?_ n _ _ _ _ hl ⟨rfl, gl rfl, gl rfl, gl g0, gl g3⟩) ?_
    · clear hr hl
      intro s mm_2 t_4 o hi hr
      obtain ⟨v4, x5, m_1⟩ := s
      obtain ⟨rfl, g4, g5, g0, g3⟩ := hi
      unfold g92_b2 at hr
      refine w_seq ?_
      refine w_seq ?_
      refine w_ops ?_
      refine wo_step (v := (.i .i64 x5)) (s_pure (p_mv g5)) ?_
      refine wo_step (v := (.i .i64 x3_1)) (s_pure (p_mv g3)) ?_
      have hq := forceB_inv hr
      clear hr
      obtain ⟨c22, e22, hr⟩ := hq
      refine wo_step (v := (.b c22)) (s_pure (p_bin rfl rfl (b_lss.trans (cb e22)))) ?_
      refine wo_nil ?_
      refine nx_norm ?_
      have hq := cond_inv hr
      clear hr
      rcases hq with ⟨rfl, hr⟩ | ⟨rfl, hr⟩
      · refine w_condT rfl ?_
        refine w_skip ?_
        refine nx_norm ?_
        refine w_seq ?_
        refine w_block ?_
        refine w_ops ?_
        refine wo_step (v := v4) (s_pure (p_mv g4)) ?_
        refine wo_step (v := v0) (s_pure (p_mv g0)) ?_
        refine wo_step (v := (.i .i64 x5)) (s_pure (p_mv g5)) ?_
        have hq := bindO_inv hr
        clear hr
        obtain ⟨v28, e28, hr⟩ := hq
        refine wo_step (v := v28) (s_pure (o_ixS rfl rfl e28)) ?_
        have hq := bindO_inv hr
        clear hr
        obtain ⟨v29, e29, hr⟩ := hq
        have hq := asI_inv hr
        clear hr
        obtain ⟨x29, rfl, hr⟩ := hq
        refine wo_step (v := (.i .i64 x29)) (s_ld rfl e29) ?_
        have hq := bindP_inv hr
        clear hr
        obtain ⟨v30, m_2, e30, hr⟩ := hq
        refine wo_step (v := v30) (s_bsl (qc rfl qn) e30) ?_
        have hq := bindP_inv hr
        clear hr
        obtain ⟨v31, m_3, e31, hr⟩ := hq
        refine wo_step (v := v31) (s_app rfl rfl e31) ?_
        refine wo_step (v := v31) (s_pure (p_mv rfl)) ?_
        refine wo_nil ?_
        refine bk_norm ?_
        refine nx_norm ?_
        refine w_ops ?_
        refine wo_step (v := (.i .i64 x5)) (s_pure (p_mv g5)) ?_
        have hq := forceI_inv hr
        clear hr
        obtain ⟨x24, e24, hr⟩ := hq
        refine wo_step (v := (.i .i64 x24)) (s_pure (p_bin rfl rfl (b_add.trans (ci e24)))) ?_
        refine wo_step (v := (.i .i64 x24)) (s_pure (p_mv rfl)) ?_
        refine wo_nil ?_
        cases hr
        exact ⟨_, _, rfl, rfl, rfl, gl rfl, gl rfl, gl g0, gl g3⟩
      · refine w_condF rfl ?_
        refine w_exit ?_
        refine nx_exit ?_
        cases hr
        exact ⟨_, _, rfl, ne_norm_exit, rfl, rfl, gl g4⟩
    · obtain ⟨v4_1, m_4⟩ := o_2
      rintro _ mm_1 t_5 ⟨rfl, rfl, g4⟩
      refine bk_hit ?_
      refine nx_norm ?_
      refine w_seq ?_
      refine w_ops ?_
      refine wo_step (v := v4_1) (s_pure (p_mv g4)) ?_
      refine wo_step (v := v4_1) (s_pure (p_mv rfl)) ?_
      refine wo_nil ?_
      refine nx_norm ?_
      refine w_ret ?_
      exact qf ret_ok (rt rfl rn) hr

end Go.Proofs.Ytobmcofkcfifkaa.T

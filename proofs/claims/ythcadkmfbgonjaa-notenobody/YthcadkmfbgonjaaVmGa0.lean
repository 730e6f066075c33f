/- Plain functions, and that the small machine answers as they do. -/
import Derived.Test.YthcadkmfbgonjaaVmP
import Derived.Test.YthcadkmfbgonjaaVmAE
open Go.Vm
set_option linter.unusedVariables false
namespace Go.Proofs.Ythcadkmfbgonjaa.T
open Go
/- dibber/dibberlaw07.NoteNobody -/
abbrev g10_J0 (x0 : Int) (x1 : Int) (o : (AVal × Mm)) (e : AExit) (m1 : Mm) (t1 : Tr) : Prop :=
  match o with
  | (y7, mo) => e = .norm ∧ mo = m1 ∧ t1.get 7 = y7 ∧ t1.get 0 = (.i .i64 x0) ∧ t1.get 1 = (.i .i64 x1)
abbrev g10_J1 (x0 : Int) (x1 : Int) (v7 : AVal) (x24 : Int) (x30 : Int) (v36 : AVal) (x37 : Int) (x42 : Int) (x43 : Int) (x44 : Int) (m_6 : Mm) (o : Bool) (m1 : Mm) (t1 : Tr) : Prop :=
  match o with
  | c50 => m_6 = m1 ∧ t1.get 50 = (.b c50) ∧ t1.get 0 = (.i .i64 x0) ∧ t1.get 1 = (.i .i64 x1) ∧ t1.get 7 = v7 ∧ t1.get 8 = (.i .i64 x24) ∧ t1.get 10 = (.i .i64 x30) ∧ t1.get 12 = v36 ∧ t1.get 13 = (.i .i64 x37) ∧ t1.get 14 = (.i .i64 x42) ∧ t1.get 15 = (.i .i64 x43) ∧ t1.get 16 = (.i .i64 x44)
abbrev g10_J2 (x0 : Int) (x1 : Int) (v7 : AVal) (x24 : Int) (x30 : Int) (v36 : AVal) (x42 : Int) (x43 : Int) (x44 : Int) (m_6 : Mm) (o : Bool) (m1 : Mm) (t1 : Tr) : Prop :=
  match o with
  | c54 => m_6 = m1 ∧ t1.get 54 = (.b c54) ∧ t1.get 0 = (.i .i64 x0) ∧ t1.get 1 = (.i .i64 x1) ∧ t1.get 7 = v7 ∧ t1.get 8 = (.i .i64 x24) ∧ t1.get 10 = (.i .i64 x30) ∧ t1.get 12 = v36 ∧ t1.get 14 = (.i .i64 x42) ∧ t1.get 15 = (.i .i64 x43) ∧ t1.get 16 = (.i .i64 x44)
abbrev g10_J3 (x0 : Int) (x1 : Int) (v7 : AVal) (x24 : Int) (x30 : Int) (v36 : AVal) (x42 : Int) (x43 : Int) (m_6 : Mm) (o : Bool) (m1 : Mm) (t1 : Tr) : Prop :=
  match o with
  | c58 => m_6 = m1 ∧ t1.get 58 = (.b c58) ∧ t1.get 0 = (.i .i64 x0) ∧ t1.get 1 = (.i .i64 x1) ∧ t1.get 7 = v7 ∧ t1.get 8 = (.i .i64 x24) ∧ t1.get 10 = (.i .i64 x30) ∧ t1.get 12 = v36 ∧ t1.get 14 = (.i .i64 x42) ∧ t1.get 15 = (.i .i64 x43)
abbrev g10_J4 (x0 : Int) (x1 : Int) (v7 : AVal) (m_6 : Mm) (o : Bool) (m1 : Mm) (t1 : Tr) : Prop :=
  match o with
  | c71 => m_6 = m1 ∧ t1.get 71 = (.b c71) ∧ t1.get 0 = (.i .i64 x0) ∧ t1.get 1 = (.i .i64 x1) ∧ t1.get 7 = v7
abbrev g10_J5 (v7 : AVal) (o : Bool × Mm) (m1 : Mm) (t1 : Tr) : Prop :=
  match o with
  | (c83, m_8) => m_8 = m1 ∧ t1.get 83 = (.b c83) ∧ t1.get 7 = v7
abbrev g10_J6 (v7 : AVal) (o : Bool × Mm) (m1 : Mm) (t1 : Tr) : Prop :=
  match o with
  | (c88, m_10) => m_10 = m1 ∧ t1.get 88 = (.b c88) ∧ t1.get 7 = v7
abbrev g10_J7  (o : Bool × Mm) (m1 : Mm) (t1 : Tr) : Prop :=
  match o with
  | (c93, m_12) => m_12 = m1 ∧ t1.get 93 = (.b c93)
abbrev g10_J8  (o : Bool × Mm) (m1 : Mm) (t1 : Tr) : Prop :=
  match o with
  | (c96, m_14) => m_14 = m1 ∧ t1.get 96 = (.b c96)
def g10 (M : Means) (ro : List ABlk) (x0 : Int) (x1 : Int) (c2 : Bool) (m0 : Mm) : Option (AVal × Heap × Nat × Nat) :=
  bindO (α := (AVal × Mm)) (
    cond c2 (
      bindO ((fillA [AVal.nsl, AVal.nsl] []).map AVal.agg) fun v18 =>
      bindP (stepM ro m0 (.bx 70 2 (.c v18))) fun v19 m_1 =>
      some (v19, m_1)) (
      some ((AVal.p none), m0))) fun ⟨v7, m_2⟩ =>
  bindP (callM M.call m_2 46 [v7, (.i .i64 x0)]) fun v23 m_3 =>
  bindO (evP .e (.ext 0 (.c v23))) fun v24 =>
  asI .i64 v24 fun x24 =>
  bindO (evP .e (.ext 1 (.c v23))) fun v25 =>
  asI .i64 v25 fun x25 =>
  bindP (callM M.call m_3 47 [v7, (.i .i64 x0)]) fun v29 m_4 =>
  bindO (evP .e (.ext 0 (.c v29))) fun v30 =>
  asI .i64 v30 fun x30 =>
  bindO (evP .e (.ext 1 (.c v29))) fun v31 =>
  asI .i64 v31 fun x31 =>
  bindP (callM M.call m_4 48 [v7, (.i .i64 x0)]) fun v35 m_5 =>
  bindO (evP .e (.ext 0 (.c v35))) fun v36 =>
  bindO (evP .e (.ext 1 (.c v35))) fun v37 =>
  asI .i64 v37 fun x37 =>
  bindP (callM M.call m_5 49 [v7, (.i .i64 x0)]) fun v41 m_6 =>
  bindO (evP .e (.ext 0 (.c v41))) fun v42 =>
  asI .i64 v42 fun x42 =>
  bindO (evP .e (.ext 1 (.c v41))) fun v43 =>
  asI .i64 v43 fun x43 =>
  bindO (evP .e (.ext 2 (.c v41))) fun v44 =>
  asI .i64 v44 fun x44 =>
  forceB (!eqI x25 1) fun c46 =>
  bindO (cond c46 (
    some true) (
    forceB (!eqI x31 1) fun c49 =>
    some c49)) fun c50 =>
  bindO (cond c50 (
    some true) (
    forceB (!eqI x37 1) fun c53 =>
    some c53)) fun c54 =>
  bindO (cond c54 (
    some true) (
    forceB (!eqI x44 1) fun c57 =>
    some c57)) fun c58 =>
  bindO (cond c58 (
    some true) (
    forceI (wr .i64 (x24 + x30)) fun x62 =>
    forceI (wr .i64 (x62 + x42)) fun x64 =>
    forceI (wr .i64 (x64 + x43)) fun x66 =>
    bindO (evP .e (.len false (.c v36))) fun v68 =>
    asI .i64 v68 fun x68 =>
    forceI (wr .i64 (x66 + x68)) fun x69 =>
    forceB (!eqI x69 0) fun c70 =>
    some c70)) fun c71 =>
  cond c71 (
    finM m0.h.length (tupA [(.b false)]) m_6) (
    bindP (callM M.call m_6 50 [v7, (.i .i64 x0), (.i .i64 x1), (.i .u8 97)]) fun v75 m_7 =>
    asI .i64 v75 fun x75 =>
    forceB (eqI x75 1) fun c76 =>
    bindO (cond c76 (
      bindP (callM M.call m_7 51 [v7, (.i .i64 x0), (.i .i64 x1)]) fun v81 m_9 =>
      asI .i64 v81 fun x81 =>
      forceB (eqI x81 1) fun c82 =>
      some (c82, m_9)) (
      some (false, m_7))) fun ⟨c83, m_8⟩ =>
    bindO (cond c83 (
      bindP (callM M.call m_8 52 [v7]) fun v86 m_11 =>
      asI .i64 v86 fun x86 =>
      forceB (eqI x86 0) fun c87 =>
      some (c87, m_11)) (
      some (false, m_8))) fun ⟨c88, m_10⟩ =>
    bindO (cond c88 (
      bindP (callM M.call m_10 44 [v7]) fun v91 m_13 =>
      bindO (evP .e (.nilp false (.c v91))) fun v92 =>
      asB v92 fun c92 =>
      some (c92, m_13)) (
      some (false, m_10))) fun ⟨c93, m_12⟩ =>
    bindO (cond c93 (
      bindP (callM M.call m_12 17 []) fun v95 m_15 =>
      asB v95 fun c95 =>
      some (c95, m_15)) (
      some (false, m_12))) fun ⟨c96, m_14⟩ =>
    finM m0.h.length (tupA [(.b c96)]) m_14)

theorem g10_ok {ro : List ABlk} {O : Caller} {M : Means} (hM : M.Ok ⟨F, O⟩ ro) {x0 x1 c2 h r} (ho : O 10 [(.i .i64 x0), (.i .i64 x1), (.b c2)] h = none) (hr : g10 M ro x0 x1 c2 ⟨h, h.length, h.length⟩ = some r) : callX ⟨F, O⟩ ro 10 [(.i .i64 x0), (.i .i64 x1), (.b c2)] h = some r := by
  refine callX_of (F := ⟨F, O⟩) (fn := fn10) (g := g10 M ro x0 x1 c2) ho rfl rfl hr ?_
  clear ho
  clear hr
  intro m0 t0 ht hr
  have g0 : t0.get 0 = (.i .i64 x0) := ht 0
  have g1 : t0.get 1 = (.i .i64 x1) := ht 1
  have g2 : t0.get 2 = (.b c2) := ht 2
  clear ht
  unfold g10 at hr
  refine w_seq ?_
  refine w_ops ?_
  refine wo_step (v := (.b false)) (s_pure (p_mv rfl)) ?_
  refine wo_nil ?_
  refine nx_norm ?_
  refine w_seq ?_
  refine w_ops ?_
  refine wo_step (v := (AVal.p none)) (s_pure (p_mv rfl)) ?_
  refine wo_nil ?_
  refine nx_norm ?_
  refine w_seq ?_
  refine w_seq ?_
  refine w_ops ?_
  refine wo_step (v := (.b c2)) (s_pure (p_mv g2)) ?_
  refine wo_nil ?_
  refine nx_norm ?_
  have hq := bindO_inv hr
  clear hr
  obtain ⟨o, hr, hk⟩ := hq
  refine jp_mono (J := g10_J0 x0 x1 o) ?_ ?_
  · clear hk
    have hq := cond_inv hr
    clear hr
    rcases hq with ⟨rfl, hr⟩ | ⟨rfl, hr⟩
    · refine w_condT rfl ?_
      refine w_ops ?_
      have hq := bindO_inv hr
      clear hr
      obtain ⟨v18, e18, hr⟩ := hq
      refine wo_step (v := v18) (s_pure (o_build qn e18)) ?_
      have hq := bindP_inv hr
      clear hr
      obtain ⟨v19, m_1, e19, hr⟩ := hq
      refine wo_step (v := v19) (s_bx rfl e19) ?_
      refine wo_step (v := v19) (s_pure (p_mv rfl)) ?_
      refine wo_nil ?_
      cases hr
      exact ⟨_, _, rfl, rfl, rfl, gl rfl, gl g0, gl g1⟩
    · refine w_condF rfl ?_
      refine w_skip ?_
      cases hr
      exact ⟨_, _, rfl, rfl, rfl, gl rfl, gl g0, gl g1⟩
  · clear hr
    have hr := hk
    clear hk
    obtain ⟨v7, m_2⟩ := o
    rintro _ mm_8 t_1 ⟨rfl, rfl, g7, g0, g1⟩
    refine nx_norm ?_
    refine w_seq ?_
    refine w_ops ?_
    refine wo_step (v := v7) (s_pure (p_mv g7)) ?_
    refine wo_step (v := (.i .i64 x0)) (s_pure (p_mv g0)) ?_
    have hq := bindP_inv hr
    clear hr
    obtain ⟨v23, m_3, e23, hr⟩ := hq
    refine wo_step (v := v23) (s_call (mc rfl (mc rfl mn)) (callM_le hM.call e23)) ?_
    refine wo_step (v := v23) (s_pure (p_mv rfl)) ?_
    have hq := bindO_inv hr
    clear hr
    obtain ⟨v24, e24, hr⟩ := hq
    have hq := asI_inv hr
    clear hr
    obtain ⟨x24, rfl, hr⟩ := hq
    refine wo_step (v := (.i .i64 x24)) (s_pure (o_ext rfl e24)) ?_
    have hq := bindO_inv hr
    clear hr
    obtain ⟨v25, e25, hr⟩ := hq
    have hq := asI_inv hr
    clear hr
    obtain ⟨x25, rfl, hr⟩ := hq
    refine wo_step (v := (.i .i64 x25)) (s_pure (o_ext rfl e25)) ?_
    refine wo_step (v := (.i .i64 x24)) (s_pure (p_mv rfl)) ?_
    refine wo_step (v := (.i .i64 x25)) (s_pure (p_mv rfl)) ?_
    refine wo_nil ?_
    refine nx_norm ?_
    refine w_seq ?_
    refine w_ops ?_
    refine wo_step (v := v7) (s_pure (p_mv g7)) ?_
    refine wo_step (v := (.i .i64 x0)) (s_pure (p_mv g0)) ?_
    have hq := bindP_inv hr
    clear hr
    obtain ⟨v29, m_4, e29, hr⟩ := hq
    refine wo_step (v := v29) (s_call (mc rfl (mc rfl mn)) (callM_le hM.call e29)) ?_
    refine wo_step (v := v29) (s_pure (p_mv rfl)) ?_
    have hq := bindO_inv hr
    clear hr
    obtain ⟨v30, e30, hr⟩ := hq
    have hq := asI_inv hr
    clear hr
    obtain ⟨x30, rfl, hr⟩ := hq
    refine wo_step (v := (.i .i64 x30)) (s_pure (o_ext rfl e30)) ?_
    have hq := bindO_inv hr
    clear hr
    obtain ⟨v31, e31, hr⟩ := hq
    have hq := asI_inv hr
    clear hr
    obtain ⟨x31, rfl, hr⟩ := hq
    refine wo_step (v := (.i .i64 x31)) (s_pure (o_ext rfl e31)) ?_
    refine wo_step (v := (.i .i64 x30)) (s_pure (p_mv rfl)) ?_
    refine wo_step (v := (.i .i64 x31)) (s_pure (p_mv rfl)) ?_
    refine wo_nil ?_
    refine nx_norm ?_
    refine w_seq ?_
    refine w_ops ?_
    refine wo_step (v := v7) (s_pure (p_mv g7)) ?_
    refine wo_step (v := (.i .i64 x0)) (s_pure (p_mv g0)) ?_
    have hq := bindP_inv hr
    clear hr
    obtain ⟨v35, m_5, e35, hr⟩ := hq
    refine wo_step (v := v35) (s_call (mc rfl (mc rfl mn)) (callM_le hM.call e35)) ?_
    refine wo_step (v := v35) (s_pure (p_mv rfl)) ?_
    have hq := bindO_inv hr
    clear hr
    obtain ⟨v36, e36, hr⟩ := hq
    refine wo_step (v := v36) (s_pure (o_ext rfl e36)) ?_
    have hq := bindO_inv hr
    clear hr
    obtain ⟨v37, e37, hr⟩ := hq
    have hq := asI_inv hr
    clear hr
    obtain ⟨x37, rfl, hr⟩ := hq
    refine wo_step (v := (.i .i64 x37)) (s_pure (o_ext rfl e37)) ?_
    refine wo_step (v := v36) (s_pure (p_mv rfl)) ?_
    refine wo_step (v := (.i .i64 x37)) (s_pure (p_mv rfl)) ?_
    refine wo_nil ?_
    refine nx_norm ?_
    refine w_seq ?_
    refine w_ops ?_
    refine wo_step (v := v7) (s_pure (p_mv g7)) ?_
    refine wo_step (v := (.i .i64 x0)) (s_pure (p_mv g0)) ?_
    have hq := bindP_inv hr
    clear hr
    obtain ⟨v41, m_6, e41, hr⟩ := hq
    refine wo_step (v := v41) (s_call (mc rfl (mc rfl mn)) (callM_le hM.call e41)) ?_
    refine wo_step (v := v41) (s_pure (p_mv rfl)) ?_
    have hq := bindO_inv hr
    clear hr
    obtain ⟨v42, e42, hr⟩ := hq
    have hq := asI_inv hr
    clear hr
    obtain ⟨x42, rfl, hr⟩ := hq
    refine wo_step (v := (.i .i64 x42)) (s_pure (o_ext rfl e42)) ?_
    have hq := bindO_inv hr
    clear hr
    obtain ⟨v43, e43, hr⟩ := hq
    have hq := asI_inv hr
    clear hr
    obtain ⟨x43, rfl, hr⟩ := hq
    refine wo_step (v := (.i .i64 x43)) (s_pure (o_ext rfl e43)) ?_
    have hq := bindO_inv hr
    clear hr
    obtain ⟨v44, e44, hr⟩ := hq
    have hq := asI_inv hr
    clear hr
    obtain ⟨x44, rfl, hr⟩ := hq
    refine wo_step (v := (.i .i64 x44)) (s_pure (o_ext rfl e44)) ?_
    refine wo_step (v := (.i .i64 x42)) (s_pure (p_mv rfl)) ?_
    refine wo_step (v := (.i .i64 x43)) (s_pure (p_mv rfl)) ?_
    refine wo_step (v := (.i .i64 x44)) (s_pure (p_mv rfl)) ?_
    refine wo_nil ?_
    refine nx_norm ?_
    refine w_seq ?_
    refine w_seq ?_
    refine w_ops ?_
    refine wo_step (v := (.i .i64 x25)) (s_pure (p_mv rfl)) ?_
    have hq := forceB_inv hr
    clear hr
    obtain ⟨c46, e46, hr⟩ := hq
    refine wo_step (v := (.b c46)) (s_pure (p_bin rfl rfl (b_neq.trans (cb e46)))) ?_
    refine wo_step (v := (.b c46)) (s_pure (p_mv rfl)) ?_
    have hq := bindO_inv hr
    clear hr
    obtain ⟨o_1, hr, hk⟩ := hq
    refine wo_join 3 (g10_J1 x0 x1 v7 x24 x30 v36 x37 x42 x43 x44 m_6 o_1) ?_ ?_
    · clear hk
      have hq := cond_inv hr
      clear hr
      rcases hq with ⟨rfl, hr⟩ | ⟨rfl, hr⟩
      · refine wo_skip (v := (.b true)) rfl rfl ?_
        refine wo_skip (v := (.b true)) rfl rfl ?_
        refine wo_step (v := (.b true)) (s_pure (p_pickT rfl rfl)) ?_
        refine wo_nil ?_
        cases hr
        exact ⟨_, _, rfl, rfl, gl rfl, gl g0, gl g1, gl g7, gl rfl, gl rfl, gl rfl, gl rfl, gl rfl, gl rfl, gl rfl⟩
      · refine wo_take (v := (.i .i64 x31)) rfl (s_pure (p_mv rfl)) ?_
        have hq := forceB_inv hr
        clear hr
        obtain ⟨c49, e49, hr⟩ := hq
        refine wo_take (v := (.b c49)) rfl (s_pure (p_bin rfl rfl (b_neq.trans (cb e49)))) ?_
        refine wo_step (v := (.b c49)) (s_pure (p_pickF rfl rfl)) ?_
        refine wo_nil ?_
        cases hr
        exact ⟨_, _, rfl, rfl, gl rfl, gl g0, gl g1, gl g7, gl rfl, gl rfl, gl rfl, gl rfl, gl rfl, gl rfl, gl rfl⟩
    · clear hr
      have hr := hk
      clear hk
      obtain ⟨c50, ho⟩ : ∃ z, z = o_1 := ⟨_, rfl⟩
      subst ho
      rintro mm t_2 ⟨rfl, g50, g0, g1, g7, g8, g10, g12, g13, g14, g15, g16⟩
      refine wo_step (v := (.b c50)) (s_pure (p_mv g50)) ?_
      have hq := bindO_inv hr
      clear hr
      obtain ⟨o_2, hr, hk⟩ := hq
      refine wo_join 3 (g10_J2 x0 x1 v7 x24 x30 v36 x42 x43 x44 m_6 o_2) ?_ ?_
      · clear hk
        have hq := cond_inv hr
        clear hr
        rcases hq with ⟨rfl, hr⟩ | ⟨rfl, hr⟩
        · refine wo_skip (v := (.b true)) rfl rfl ?_
          refine wo_skip (v := (.b true)) rfl rfl ?_
          refine wo_step (v := (.b true)) (s_pure (p_pickT rfl rfl)) ?_
          refine wo_nil ?_
          cases hr
          exact ⟨_, _, rfl, rfl, gl rfl, gl g0, gl g1, gl g7, gl g8, gl g10, gl g12, gl g14, gl g15, gl g16⟩
        · refine wo_take (v := (.i .i64 x37)) rfl (s_pure (p_mv g13)) ?_
          have hq := forceB_inv hr
          clear hr
          obtain ⟨c53, e53, hr⟩ := hq
          refine wo_take (v := (.b c53)) rfl (s_pure (p_bin rfl rfl (b_neq.trans (cb e53)))) ?_
          refine wo_step (v := (.b c53)) (s_pure (p_pickF rfl rfl)) ?_
          refine wo_nil ?_
          cases hr
          exact ⟨_, _, rfl, rfl, gl rfl, gl g0, gl g1, gl g7, gl g8, gl g10, gl g12, gl g14, gl g15, gl g16⟩
      · clear hr
        have hr := hk
        clear hk
        obtain ⟨c54, ho⟩ : ∃ z, z = o_2 := ⟨_, rfl⟩
        subst ho
        rintro mm_1 t_3 ⟨rfl, g54, g0, g1, g7, g8, g10, g12, g14, g15, g16⟩
        refine wo_step (v := (.b c54)) (s_pure (p_mv g54)) ?_
        have hq := bindO_inv hr
        clear hr
        obtain ⟨o_3, hr, hk⟩ := hq
        refine wo_join 3 (g10_J3 x0 x1 v7 x24 x30 v36 x42 x43 m_6 o_3) ?_ ?_
        · clear hk
          have hq := cond_inv hr
          clear hr
          rcases hq with ⟨rfl, hr⟩ | ⟨rfl, hr⟩
          · refine wo_skip (v := (.b true)) rfl rfl ?_
            refine wo_skip (v := (.b true)) rfl rfl ?_
            refine wo_step (v := (.b true)) (s_pure (p_pickT rfl rfl)) ?_
            refine wo_nil ?_
            cases hr
            exact ⟨_, _, rfl, rfl, gl rfl, gl g0, gl g1, gl g7, gl g8, gl g10, gl g12, gl g14, gl g15⟩
          · refine wo_take (v := (.i .i64 x44)) rfl (s_pure (p_mv g16)) ?_
            have hq := forceB_inv hr
            clear hr
            obtain ⟨c57, e57, hr⟩ := hq
            refine wo_take (v := (.b c57)) rfl (s_pure (p_bin rfl rfl (b_neq.trans (cb e57)))) ?_
            refine wo_step (v := (.b c57)) (s_pure (p_pickF rfl rfl)) ?_
            refine wo_nil ?_
            cases hr
            exact ⟨_, _, rfl, rfl, gl rfl, gl g0, gl g1, gl g7, gl g8, gl g10, gl g12, gl g14, gl g15⟩
        · clear hr
          have hr := hk
          clear hk
          obtain ⟨c58, ho⟩ : ∃ z, z = o_3 := ⟨_, rfl⟩
          subst ho
          rintro mm_2 t_4 ⟨rfl, g58, g0, g1, g7, g8, g10, g12, g14, g15⟩
          refine wo_step (v := (.b c58)) (s_pure (p_mv g58)) ?_
          have hq := bindO_inv hr
          clear hr
          obtain ⟨o_4, hr, hk⟩ := hq
          refine wo_join 12 (g10_J4 x0 x1 v7 m_6 o_4) ?_ ?_
          · clear hk
            have hq := cond_inv hr
            clear hr
            rcases hq with ⟨rfl, hr⟩ | ⟨rfl, hr⟩
            · refine wo_skip (v := (.b true)) rfl rfl ?_
              refine wo_skip (v := (.b true)) rfl rfl ?_
              refine wo_skip (v := (.b true)) rfl rfl ?_
              refine wo_skip (v := (.b true)) rfl rfl ?_
              refine wo_skip (v := (.b true)) rfl rfl ?_
              refine wo_skip (v := (.b true)) rfl rfl ?_
              refine wo_skip (v := (.b true)) rfl rfl ?_
              refine wo_skip (v := (.b true)) rfl rfl ?_
              refine wo_skip (v := (.b true)) rfl rfl ?_
              refine wo_skip (v := (.b true)) rfl rfl ?_
              refine wo_skip (v := (.b true)) rfl rfl ?_
              refine wo_step (v := (.b true)) (s_pure (p_pickT rfl rfl)) ?_
              refine wo_nil ?_
              cases hr
              exact ⟨_, _, rfl, rfl, gl rfl, gl g0, gl g1, gl g7⟩
            · refine wo_take (v := (.i .i64 x24)) rfl (s_pure (p_mv g8)) ?_
              refine wo_take (v := (.i .i64 x30)) rfl (s_pure (p_mv g10)) ?_
              have hq := forceI_inv hr
              clear hr
              obtain ⟨x62, e62, hr⟩ := hq
              refine wo_take (v := (.i .i64 x62)) rfl (s_pure (p_bin rfl rfl (b_add.trans (ci e62)))) ?_
              refine wo_take (v := (.i .i64 x42)) rfl (s_pure (p_mv g14)) ?_
              have hq := forceI_inv hr
              clear hr
              obtain ⟨x64, e64, hr⟩ := hq
              refine wo_take (v := (.i .i64 x64)) rfl (s_pure (p_bin rfl rfl (b_add.trans (ci e64)))) ?_
              refine wo_take (v := (.i .i64 x43)) rfl (s_pure (p_mv g15)) ?_
              have hq := forceI_inv hr
              clear hr
              obtain ⟨x66, e66, hr⟩ := hq
              refine wo_take (v := (.i .i64 x66)) rfl (s_pure (p_bin rfl rfl (b_add.trans (ci e66)))) ?_
              refine wo_take (v := v36) rfl (s_pure (p_mv g12)) ?_
              have hq := bindO_inv hr
              clear hr
              obtain ⟨v68, e68, hr⟩ := hq
              have hq := asI_inv hr
              clear hr
              obtain ⟨x68, rfl, hr⟩ := hq
              refine wo_take (v := (.i .i64 x68)) rfl (s_pure (o_len rfl e68)) ?_
              have hq := forceI_inv hr
              clear hr
              obtain ⟨x69, e69, hr⟩ := hq
              refine wo_take (v := (.i .i64 x69)) rfl (s_pure (p_bin rfl rfl (b_add.trans (ci e69)))) ?_
              have hq := forceB_inv hr
              clear hr
              obtain ⟨c70, e70, hr⟩ := hq
              refine wo_take (v := (.b c70)) rfl (s_pure (p_bin rfl rfl (b_neq.trans (cb e70)))) ?_
              refine wo_step (v := (.b c70)) (s_pure (p_pickF rfl rfl)) ?_
              refine wo_nil ?_
              cases hr
              exact ⟨_, _, rfl, rfl, gl rfl, gl g0, gl g1, gl g7⟩
          · clear hr
            have hr := hk
            clear hk
            obtain ⟨c71, ho⟩ : ∃ z, z = o_4 := ⟨_, rfl⟩
            subst ho
            rintro mm_3 t_5 ⟨rfl, g71, g0, g1, g7⟩
            refine wo_nil ?_
            refine nx_norm ?_
            have hq := cond_inv hr
            clear hr
            rcases hq with ⟨rfl, hr⟩ | ⟨rfl, hr⟩
            · refine w_condT g71 ?_
              refine w_seq ?_
              refine w_ops ?_
              refine wo_step (v := (.b false)) (s_pure (p_mv rfl)) ?_
              refine wo_nil ?_
              refine nx_norm ?_
              refine w_ret ?_
              refine nx_ret ?_
              exact qf ret_ok (rt rfl rn) hr
            · refine w_condF g71 ?_
              refine w_skip ?_
              refine nx_norm ?_
              refine w_seq ?_
              refine w_ops ?_
              refine wo_step (v := v7) (s_pure (p_mv g7)) ?_
              refine wo_step (v := (.i .i64 x0)) (s_pure (p_mv g0)) ?_
              refine wo_step (v := (.i .i64 x1)) (s_pure (p_mv g1)) ?_
              have hq := bindP_inv hr
              clear hr
              obtain ⟨v75, m_7, e75, hr⟩ := hq
              have hq := asI_inv hr
              clear hr
              obtain ⟨x75, rfl, hr⟩ := hq
              refine wo_step (v := (.i .i64 x75)) (s_call (mc rfl (mc rfl (mc rfl (mc rfl mn)))) (callM_le hM.call e75)) ?_
              have hq := forceB_inv hr
              clear hr
              obtain ⟨c76, e76, hr⟩ := hq
              refine wo_step (v := (.b c76)) (s_pure (p_bin rfl rfl (b_eql.trans (cb e76)))) ?_
              refine wo_step (v := (.b c76)) (s_pure (p_mv rfl)) ?_
              have hq := bindO_inv hr
              clear hr
              obtain ⟨o_5, hr, hk⟩ := hq
              refine wo_join 6 (g10_J5 v7 o_5) ?_ ?_
              · clear hk
                have hq := cond_inv hr
                clear hr
                rcases hq with ⟨rfl, hr⟩ | ⟨rfl, hr⟩
                · refine wo_take (v := v7) rfl (s_pure (p_mv g7)) ?_
                  refine wo_take (v := (.i .i64 x0)) rfl (s_pure (p_mv g0)) ?_
                  refine wo_take (v := (.i .i64 x1)) rfl (s_pure (p_mv g1)) ?_
                  have hq := bindP_inv hr
                  clear hr
                  obtain ⟨v81, m_9, e81, hr⟩ := hq
                  have hq := asI_inv hr
                  clear hr
                  obtain ⟨x81, rfl, hr⟩ := hq
                  refine wo_take (v := (.i .i64 x81)) rfl (s_call (mc rfl (mc rfl (mc rfl mn))) (callM_le hM.call e81)) ?_
                  have hq := forceB_inv hr
                  clear hr
                  obtain ⟨c82, e82, hr⟩ := hq
                  refine wo_take (v := (.b c82)) rfl (s_pure (p_bin rfl rfl (b_eql.trans (cb e82)))) ?_
                  refine wo_step (v := (.b c82)) (s_pure (p_pickT rfl rfl)) ?_
                  refine wo_nil ?_
                  cases hr
                  exact ⟨_, _, rfl, rfl, gl rfl, gl g7⟩
                · refine wo_skip (v := (.b false)) rfl rfl ?_
                  refine wo_skip (v := (.b false)) rfl rfl ?_
                  refine wo_skip (v := (.b false)) rfl rfl ?_
                  refine wo_skip (v := (.b false)) rfl rfl ?_
                  refine wo_skip (v := (.b false)) rfl rfl ?_
                  refine wo_step (v := (.b false)) (s_pure (p_pickF rfl rfl)) ?_
                  refine wo_nil ?_
                  cases hr
                  exact ⟨_, _, rfl, rfl, gl rfl, gl g7⟩
              · clear hr
                have hr := hk
                clear hk
                obtain ⟨c83, m_8⟩ := o_5
                rintro mm_4 t_6 ⟨rfl, g83, g7⟩
                refine wo_step (v := (.b c83)) (s_pure (p_mv g83)) ?_
                have hq := bindO_inv hr
                clear hr
                obtain ⟨o_6, hr, hk⟩ := hq
                refine wo_join 4 (g10_J6 v7 o_6) ?_ ?_
                · clear hk
                  have hq := cond_inv hr
                  clear hr
                  rcases hq with ⟨rfl, hr⟩ | ⟨rfl, hr⟩
                  · refine wo_take (v := v7) rfl (s_pure (p_mv g7)) ?_
                    have hq := bindP_inv hr
                    clear hr
                    obtain ⟨v86, m_11, e86, hr⟩ := hq
                    have hq := asI_inv hr
                    clear hr
                    obtain ⟨x86, rfl, hr⟩ := hq
                    refine wo_take (v := (.i .i64 x86)) rfl (s_call (mc rfl mn) (callM_le hM.call e86)) ?_
                    have hq := forceB_inv hr
                    clear hr
                    obtain ⟨c87, e87, hr⟩ := hq
                    refine wo_take (v := (.b c87)) rfl (s_pure (p_bin rfl rfl (b_eql.trans (cb e87)))) ?_
                    refine wo_step (v := (.b c87)) (s_pure (p_pickT rfl rfl)) ?_
                    refine wo_nil ?_
                    cases hr
                    exact ⟨_, _, rfl, rfl, gl rfl, gl g7⟩
                  · refine wo_skip (v := (.b false)) rfl rfl ?_
                    refine wo_skip (v := (.b false)) rfl rfl ?_
                    refine wo_skip (v := (.b false)) rfl rfl ?_
                    refine wo_step (v := (.b false)) (s_pure (p_pickF rfl rfl)) ?_
                    refine wo_nil ?_
                    cases hr
                    exact ⟨_, _, rfl, rfl, gl rfl, gl g7⟩
                · clear hr
                  have hr := hk
                  clear hk
                  obtain ⟨c88, m_10⟩ := o_6
                  rintro mm_5 t_7 ⟨rfl, g88, g7⟩
                  refine wo_step (v := (.b c88)) (s_pure (p_mv g88)) ?_
                  have hq := bindO_inv hr
                  clear hr
                  obtain ⟨o_7, hr, hk⟩ := hq
                  refine wo_join 4 (g10_J7  o_7) ?_ ?_
                  · clear hk
                    have hq := cond_inv hr
                    clear hr
                    rcases hq with ⟨rfl, hr⟩ | ⟨rfl, hr⟩
                    · refine wo_take (v := v7) rfl (s_pure (p_mv g7)) ?_
                      have hq := bindP_inv hr
                      clear hr
                      obtain ⟨v91, m_13, e91, hr⟩ := hq
                      refine wo_take (v := v91) rfl (s_call (mc rfl mn) (callM_le hM.call e91)) ?_
                      have hq := bindO_inv hr
                      clear hr
                      obtain ⟨v92, e92, hr⟩ := hq
                      have hq := asB_inv hr
                      clear hr
                      obtain ⟨c92, rfl, hr⟩ := hq
                      refine wo_take (v := (.b c92)) rfl (s_pure (o_nilp rfl e92)) ?_
                      refine wo_step (v := (.b c92)) (s_pure (p_pickT rfl rfl)) ?_
                      refine wo_nil ?_
                      cases hr
                      exact ⟨_, _, rfl, rfl, gl rfl⟩
                    · refine wo_skip (v := (.b false)) rfl rfl ?_
                      refine wo_skip (v := (.b false)) rfl rfl ?_
                      refine wo_skip (v := (.b false)) rfl rfl ?_
                      refine wo_step (v := (.b false)) (s_pure (p_pickF rfl rfl)) ?_
                      refine wo_nil ?_
                      cases hr
                      exact ⟨_, _, rfl, rfl, gl rfl⟩
                  · clear hr
                    have hr := hk
                    clear hk
                    obtain ⟨c93, m_12⟩ := o_7
                    rintro mm_6 t_8 ⟨rfl, g93⟩
                    refine wo_step (v := (.b c93)) (s_pure (p_mv g93)) ?_
                    have hq := bindO_inv hr
                    clear hr
                    obtain ⟨o_8, hr, hk⟩ := hq
                    refine wo_join 2 (g10_J8  o_8) ?_ ?_
                    · clear hk
                      have hq := cond_inv hr
                      clear hr
                      rcases hq with ⟨rfl, hr⟩ | ⟨rfl, hr⟩
                      · have hq := bindP_inv hr
                        clear hr
                        obtain ⟨v95, m_15, e95, hr⟩ := hq
                        have hq := asB_inv hr
                        clear hr
                        obtain ⟨c95, rfl, hr⟩ := hq
                        refine wo_take (v := (.b c95)) rfl (s_call mn (callM_le hM.call e95)) ?_
                        refine wo_step (v := (.b c95)) (s_pure (p_pickT rfl rfl)) ?_
                        refine wo_nil ?_
                        cases hr
                        exact ⟨_, _, rfl, rfl, gl rfl⟩
                      · refine wo_skip (v := (.b false)) rfl rfl ?_
                        refine wo_step (v := (.b false)) (s_pure (p_pickF rfl rfl)) ?_
                        refine wo_nil ?_
                        cases hr
                        exact ⟨_, _, rfl, rfl, gl rfl⟩
                    · clear hr
                      have hr := hk
                      clear hk
                      obtain ⟨c96, m_14⟩ := o_8
                      rintro mm_7 t_9 ⟨rfl, g96⟩
                      refine wo_step (v := (.b c96)) (s_pure (p_mv g96)) ?_
                      refine wo_nil ?_
                      refine nx_norm ?_
                      refine w_ret ?_
                      exact qf ret_ok (rt rfl rn) hr

/- (dibber/note.Desk).Copy -/
abbrev g44_I0 (v14 : AVal) (v18 : AVal) (x19 : Int) (s : Int × Mm) (m1 : Mm) (t1 : Tr) : Prop :=
  match s with
  | (x20, m_4) => m_4 = m1 ∧ t1.get 20 = (.i .i64 x20) ∧ t1.get 3 = v14 ∧ t1.get 18 = v18 ∧ t1.get 19 = (.i .i64 x19)
abbrev g44_J0 (v14 : AVal) (v18 : AVal) (x19 : Int) (o : Mm) (e : AExit) (m1 : Mm) (t1 : Tr) : Prop :=
  match o with
  | mo => e = (.exit 0) ∧ mo = m1 ∧ t1.get 3 = v14
def g44_b0 (M : Means) (ro : List ABlk) (v14 : AVal) (v18 : AVal) (x19 : Int) (x20 : Int) (m_4 : Mm) : Option ((Int × Mm) ⊕ (Mm)) :=
  forceB (ltI x20 x19) fun c21 =>
  cond c21 (
    bindO (evP .e (.ixS 3 (.c v18) (.c (.i .i64 x20)))) fun v22 =>
    bindO (ldM ro m_4 false 3 v22) fun v23 =>
    bindP (stepM ro m_4 (.al 109 [AVal.nsl, AVal.nsl, (AVal.i IntKind.i64 0)])) fun v5 m_5 =>
    bindP (stepM ro m_5 (.st 3 (.c v5) (.c v23))) fun vn m_6 =>
    bindO (some (Mm.base m_6)) fun m_7 =>
    bindO (evP .e (.nilm [("Error", [(8, (104, [])), (10, (106, [])), (11, (108, [])), (14, (110, [])), (19, (117, []))]), ("RuntimeError", [(8, (105, [])), (10, (107, [])), (11, (109, [])), (14, (111, [])), (19, (118, []))]), ("String", [(140, (119, []))])] (.c v14))) fun v26 =>
    bindO (evP .e (.faddr 1 (.c v26))) fun v27 =>
    bindO (ldA ro m_6.h true 1 v27) fun v28 =>
    bindO (evP .e (.faddr 0 (.c v5))) fun v29 =>
    bindO (ldM ro m_7 true 1 v29) fun v30 =>
    bindP (callM M.call m_7 64 [v30]) fun v31 m_8 =>
    chk (!Nat.blt m_8.lw m_6.h.length) <|
    bindO (evP .e (.faddr 1 (.c v5))) fun v32 =>
    bindO (ldA ro m_6.h true 1 v32) fun v33 =>
    bindP (callM M.call m_8 71 [v33]) fun v34 m_9 =>
    chk (!Nat.blt m_9.lw m_6.h.length) <|
    bindO (evP .e (.faddr 2 (.c v5))) fun v35 =>
    bindO (ldA ro m_6.h true 1 v35) fun v36 =>
    asI .i64 v36 fun x36 =>
    bindO ((fillA [AVal.nsl, AVal.nsl, (AVal.i IntKind.i64 0)] [((0, 1), v31), ((1, 1), v34), ((2, 1), (.i .i64 x36))]).map AVal.agg) fun v37 =>
    bindP (stepM ro m_9 (.bsl 109 3 [AVal.nsl, AVal.nsl, (AVal.i IntKind.i64 0)] 1 [((0, 3), .c v37)])) fun v38 m_10 =>
    chk (!Nat.blt m_10.lw m_6.h.length) <|
    bindP (stepM ro m_10 (.app 109 3 56 [AVal.nsl, AVal.nsl, (AVal.i IntKind.i64 0)] (.c v28) (.c v38))) fun v39 m_11 =>
    bindO (evP .e (.nilm [("Error", [(8, (104, [])), (10, (106, [])), (11, (108, [])), (14, (110, [])), (19, (117, []))]), ("RuntimeError", [(8, (105, [])), (10, (107, [])), (11, (109, [])), (14, (111, [])), (19, (118, []))]), ("String", [(140, (119, []))])] (.c v14))) fun v40 =>
    bindO (evP .e (.faddr 1 (.c v40))) fun v41 =>
    bindP (stepM ro m_11 (.st 1 (.c v41) (.c v39))) fun vn_1 m_12 =>
    bindO (some (Mm.join m_6 m_12)) fun m_13 =>
    forceI (wr .i64 (x20 + 1)) fun x42 =>
    some (.inl (x42, m_13))) (
    some (.inr m_4))
def g44 (M : Means) (ro : List ABlk) (v0 : AVal) (m0 : Mm) : Option (AVal × Heap × Nat × Nat) :=
  bindP (callM M.call m0 83 [v0]) fun v7 m_1 =>
  asB v7 fun c7 =>
  cond c7 (
    finM m0.h.length (tupA [(AVal.p none)]) m_1) (
    bindO (evP .e (.nilm [("Error", [(8, (104, [])), (10, (106, [])), (11, (108, [])), (14, (110, [])), (19, (117, []))]), ("RuntimeError", [(8, (105, [])), (10, (107, [])), (11, (109, [])), (14, (111, [])), (19, (118, []))]), ("String", [(140, (119, []))])] (.c v0))) fun v9 =>
    bindO (evP .e (.faddr 0 (.c v9))) fun v10 =>
    bindO (ldM ro m_1 true 1 v10) fun v11 =>
    bindP (callM M.call m_1 71 [v11]) fun v12 m_2 =>
    bindO ((fillA [AVal.nsl, AVal.nsl] [((0, 1), v12)]).map AVal.agg) fun v13 =>
    bindP (stepM ro m_2 (.bx 70 2 (.c v13))) fun v14 m_3 =>
    bindO (evP .e (.nilm [("Error", [(8, (104, [])), (10, (106, [])), (11, (108, [])), (14, (110, [])), (19, (117, []))]), ("RuntimeError", [(8, (105, [])), (10, (107, [])), (11, (109, [])), (14, (111, [])), (19, (118, []))]), ("String", [(140, (119, []))])] (.c v0))) fun v16 =>
    bindO (evP .e (.faddr 1 (.c v16))) fun v17 =>
    bindO (ldM ro m_3 true 1 v17) fun v18 =>
    bindO (evP .e (.len false (.c v18))) fun v19 =>
    asI .i64 v19 fun x19 =>
    bindO (M.loop (S := Int × Mm) (R := Mm) (fun s => g44_b0 M ro v14 v18 x19 s.1 s.2) (0, m_3)) fun m_14 =>
    finM m0.h.length (tupA [v14]) m_14)

theorem g44_ok {ro : List ABlk} {O : Caller} {M : Means} (hM : M.Ok ⟨F, O⟩ ro) {v0 h r} (ho : O 44 [v0] h = none) (hr : g44 M ro v0 ⟨h, h.length, h.length⟩ = some r) : callX ⟨F, O⟩ ro 44 [v0] h = some r := by
  refine callX_of (F := ⟨F, O⟩) (fn := fn44) (g := g44 M ro v0) ho rfl rfl hr ?_
  clear ho
  clear hr
  intro m0 t0 ht hr
  have g0 : t0.get 0 = v0 := ht 0
  clear ht
  unfold g44 at hr
  refine w_seq ?_
  refine w_ops ?_
  refine wo_step (v := (AVal.p none)) (s_pure (p_mv rfl)) ?_
  refine wo_nil ?_
  refine nx_norm ?_
  refine w_seq ?_
  refine w_seq ?_
  refine w_ops ?_
  refine wo_step (v := v0) (s_pure (p_mv g0)) ?_
  have hq := bindP_inv hr
  clear hr
  obtain ⟨v7, m_1, e7, hr⟩ := hq
  have hq := asB_inv hr
  clear hr
  obtain ⟨c7, rfl, hr⟩ := hq
  refine wo_step (v := (.b c7)) (s_call (mc rfl mn) (callM_le hM.call e7)) ?_
  refine wo_nil ?_
  refine nx_norm ?_
  have hq := cond_inv hr
  clear hr
  rcases hq with ⟨rfl, hr⟩ | ⟨rfl, hr⟩
  · refine w_condT rfl ?_
    refine w_seq ?_
    refine w_ops ?_
    refine wo_step (v := (AVal.p none)) (s_pure (p_mv rfl)) ?_
    refine wo_nil ?_
    refine nx_norm ?_
    refine w_ret ?_
    refine nx_ret ?_
    exact qf ret_ok (rt rfl rn) hr
  · refine w_condF rfl ?_
    refine w_skip ?_
    refine nx_norm ?_
    refine w_seq ?_
    refine w_ops ?_
    refine wo_step (v := v0) (s_pure (p_mv g0)) ?_
    have hq := bindO_inv hr
    clear hr
    obtain ⟨v9, e9, hr⟩ := hq
    refine wo_step (v := v9) (s_pure (o_nilm rfl e9)) ?_
    have hq := bindO_inv hr
    clear hr
    obtain ⟨v10, e10, hr⟩ := hq
    refine wo_step (v := v10) (s_pure (o_faddr rfl e10)) ?_
    have hq := bindO_inv hr
    clear hr
    obtain ⟨v11, e11, hr⟩ := hq
    refine wo_step (v := v11) (s_ld rfl e11) ?_
    have hq := bindP_inv hr
    clear hr
    obtain ⟨v12, m_2, e12, hr⟩ := hq
    refine wo_step (v := v12) (s_call (mc rfl mn) (callM_le hM.call e12)) ?_
    have hq := bindO_inv hr
    clear hr
    obtain ⟨v13, e13, hr⟩ := hq
    refine wo_step (v := v13) (s_pure (o_build (qc rfl qn) e13)) ?_
    have hq := bindP_inv hr
    clear hr
    obtain ⟨v14, m_3, e14, hr⟩ := hq
    refine wo_step (v := v14) (s_bx rfl e14) ?_
    refine wo_step (v := v14) (s_pure (p_mv rfl)) ?_
    refine wo_nil ?_
    refine nx_norm ?_
    refine w_seq ?_
    refine w_seq ?_
    refine w_ops ?_
    refine wo_step (v := v0) (s_pure (p_mv g0)) ?_
    have hq := bindO_inv hr
    clear hr
    obtain ⟨v16, e16, hr⟩ := hq
    refine wo_step (v := v16) (s_pure (o_nilm rfl e16)) ?_
    have hq := bindO_inv hr
    clear hr
    obtain ⟨v17, e17, hr⟩ := hq
    refine wo_step (v := v17) (s_pure (o_faddr rfl e17)) ?_
    have hq := bindO_inv hr
    clear hr
    obtain ⟨v18, e18, hr⟩ := hq
    refine wo_step (v := v18) (s_ld rfl e18) ?_
    have hq := bindO_inv hr
    clear hr
    obtain ⟨v19, e19, hr⟩ := hq
    have hq := asI_inv hr
    clear hr
    obtain ⟨x19, rfl, hr⟩ := hq
    refine wo_step (v := (.i .i64 x19)) (s_pure (o_len rfl e19)) ?_
    refine wo_step (v := (.i .i64 0)) (s_pure (p_mv rfl)) ?_
    refine wo_nil ?_
    refine nx_norm ?_
    refine w_block ?_
    have hq := bindO_inv hr
    clear hr
    obtain ⟨o, hl, hr⟩ := hq
    obtain ⟨n, hl⟩ := hM.loop _ _ _ hl
    refine jp_mono (w_loop _ (g44_I0 v14 v18 x19) (g44_J0 v14 v18 x19) ?_ n _ _ _ _ hl ⟨rfl, gl rfl, gl rfl, gl rfl, gl rfl⟩) ?_
    · clear hr hl
      intro s mm_1 t_1 o hi hr
      obtain ⟨x20, m_4⟩ := s
      obtain ⟨rfl, g20, g3, g18, g19⟩ := hi
      unfold g44_b0 at hr
      refine w_seq ?_
      refine w_ops ?_
      have hq := forceB_inv hr
      clear hr
      obtain ⟨c21, e21, hr⟩ := hq
      refine wo_step (v := (.b c21)) (s_pure (p_bin g20 g19 (b_lss.trans (cb e21)))) ?_
      refine wo_nil ?_
      refine nx_norm ?_
      refine w_seq ?_
      have hq := cond_inv hr
      clear hr
      rcases hq with ⟨rfl, hr⟩ | ⟨rfl, hr⟩
      · refine w_condT rfl ?_
        refine w_skip ?_
        refine nx_norm ?_
        refine w_seq ?_
        refine w_block ?_
        refine w_seq ?_
        refine w_ops ?_
        have hq := bindO_inv hr
        clear hr
        obtain ⟨v22, e22, hr⟩ := hq
        refine wo_step (v := v22) (s_pure (o_ixS g18 g20 e22)) ?_
        have hq := bindO_inv hr
        clear hr
        obtain ⟨v23, e23, hr⟩ := hq
        refine wo_step (v := v23) (s_ld rfl e23) ?_
        have hq := bindP_inv hr
        clear hr
        obtain ⟨v5, m_5, e5, hr⟩ := hq
        refine wo_step (v := v5) (s_al e5) ?_
        have hq := bindP_inv hr
        clear hr
        obtain ⟨vn, m_6, en, hr⟩ := hq
        refine wo_stepN (s_st rfl rfl en) ?_
        refine wo_nil ?_
        refine nx_norm ?_
        have hq := bindO_inv hr
        clear hr
        obtain ⟨m_7, ef, hr⟩ := hq
        refine w_flt (af := true) rfl ef ?_
        refine wf_step (v := v14) (f_P rfl (s_pure (p_mv g3))) ?_
        refine wf_step (v := v14) (f_P rfl (s_pure (p_mv g3))) ?_
        have hq := bindO_inv hr
        clear hr
        obtain ⟨v26, e26, hr⟩ := hq
        refine wf_step (v := v26) (f_P rfl (s_pure (o_nilm rfl e26))) ?_
        have hq := bindO_inv hr
        clear hr
        obtain ⟨v27, e27, hr⟩ := hq
        refine wf_step (v := v27) (f_P rfl (s_pure (o_faddr rfl e27))) ?_
        have hq := bindO_inv hr
        clear hr
        obtain ⟨v28, e28, hr⟩ := hq
        refine wf_step (v := v28) (f_ld rfl e28) ?_
        have hq := bindO_inv hr
        clear hr
        obtain ⟨v29, e29, hr⟩ := hq
        refine wf_step (v := v29) (f_P rfl (s_pure (o_faddr rfl e29))) ?_
        have hq := bindO_inv hr
        clear hr
        obtain ⟨v30, e30, hr⟩ := hq
        refine wf_step (v := v30) (f_P rfl (s_ld rfl e30)) ?_
        have hq := bindP_inv hr
        clear hr
        obtain ⟨v31, m_8, e31, hr⟩ := hq
        have hq := chk_inv hr
        clear hr
        obtain ⟨hc31, hr⟩ := hq
        refine wf_step (v := v31) (f_M hc31 (s_call (mc rfl mn) (callM_le hM.call e31))) ?_
        have hq := bindO_inv hr
        clear hr
        obtain ⟨v32, e32, hr⟩ := hq
        refine wf_step (v := v32) (f_P rfl (s_pure (o_faddr rfl e32))) ?_
        have hq := bindO_inv hr
        clear hr
        obtain ⟨v33, e33, hr⟩ := hq
        refine wf_step (v := v33) (f_ld rfl e33) ?_
        have hq := bindP_inv hr
        clear hr
        obtain ⟨v34, m_9, e34, hr⟩ := hq
        have hq := chk_inv hr
        clear hr
        obtain ⟨hc34, hr⟩ := hq
        refine wf_step (v := v34) (f_M hc34 (s_call (mc rfl mn) (callM_le hM.call e34))) ?_
        have hq := bindO_inv hr
        clear hr
        obtain ⟨v35, e35, hr⟩ := hq
        refine wf_step (v := v35) (f_P rfl (s_pure (o_faddr rfl e35))) ?_
        have hq := bindO_inv hr
        clear hr
        obtain ⟨v36, e36, hr⟩ := hq
        have hq := asI_inv hr
        clear hr
        obtain ⟨x36, rfl, hr⟩ := hq
        refine wf_step (v := (.i .i64 x36)) (f_ld rfl e36) ?_
        have hq := bindO_inv hr
        clear hr
        obtain ⟨v37, e37, hr⟩ := hq
        refine wf_step (v := v37) (f_P rfl (s_pure (o_build (qc rfl (qc rfl (qc rfl qn))) e37))) ?_
        have hq := bindP_inv hr
        clear hr
        obtain ⟨v38, m_10, e38, hr⟩ := hq
        have hq := chk_inv hr
        clear hr
        obtain ⟨hc38, hr⟩ := hq
        refine wf_step (v := v38) (f_M hc38 (s_bsl (qc rfl qn) e38)) ?_
        have hq := bindP_inv hr
        clear hr
        obtain ⟨v39, m_11, e39, hr⟩ := hq
        refine wf_step (v := v39) (f_F rfl (s_app rfl rfl e39)) ?_
        have hq := bindO_inv hr
        clear hr
        obtain ⟨v40, e40, hr⟩ := hq
        refine wf_step (v := v40) (f_P rfl (s_pure (o_nilm rfl e40))) ?_
        have hq := bindO_inv hr
        clear hr
        obtain ⟨v41, e41, hr⟩ := hq
        refine wf_step (v := v41) (f_P rfl (s_pure (o_faddr rfl e41))) ?_
        have hq := bindP_inv hr
        clear hr
        obtain ⟨vn_1, m_12, en_1, hr⟩ := hq
        refine wf_stepN (f_F rfl (s_st rfl rfl en_1)) ?_
        have hq := bindO_inv hr
        clear hr
        obtain ⟨m_13, ef_1, hr⟩ := hq
        refine wf_end ef_1 ?_
        refine bk_norm ?_
        refine nx_norm ?_
        refine w_ops ?_
        have hq := forceI_inv hr
        clear hr
        obtain ⟨x42, e42, hr⟩ := hq
        refine wo_step (v := (.i .i64 x42)) (s_pure (p_bin g20 rfl (b_add.trans (ci e42)))) ?_
        refine wo_step (v := (.i .i64 x42)) (s_pure (p_mv rfl)) ?_
        refine wo_nil ?_
        cases hr
        exact ⟨_, _, rfl, rfl, rfl, gl rfl, gl g3, gl g18, gl g19⟩
      · refine w_condF rfl ?_
        refine w_exit ?_
        refine nx_exit ?_
        cases hr
        exact ⟨_, _, rfl, ne_norm_exit, rfl, rfl, gl g3⟩
    · obtain ⟨m_14, ho⟩ : ∃ z, z = o := ⟨_, rfl⟩
      subst ho
      rintro _ mm t_2 ⟨rfl, rfl, g3⟩
      refine bk_hit ?_
      refine nx_norm ?_
      refine w_seq ?_
      refine w_ops ?_
      refine wo_step (v := v14) (s_pure (p_mv g3)) ?_
      refine wo_step (v := v14) (s_pure (p_mv rfl)) ?_
      refine wo_nil ?_
      refine nx_norm ?_
      refine w_ret ?_
      exact qf ret_ok (rt rfl rn) hr

/- (dibber/note.Desk).Send -/

def g46 (M : Means) (ro : List ABlk) (v0 : AVal) (x1 : Int) (m0 : Mm) : Option (AVal × Heap × Nat × Nat) :=
  bindP (callM M.call m0 84 [v0, (.i .i64 x1)]) fun v11 m_1 =>
  bindO (evP .e (.ext 0 (.c v11))) fun v12 =>
  bindO (evP .e (.ext 1 (.c v11))) fun v13 =>
  asI .i64 v13 fun x13 =>
  forceB (!eqI x13 0) fun c15 =>
  cond c15 (
    finM m0.h.length (tupA [(.i .i64 0), (.i .i64 x13)]) m_1) (
    bindO (evP .e (.nilm [("Error", [(8, (104, [])), (10, (106, [])), (11, (108, [])), (14, (110, [])), (19, (117, []))]), ("RuntimeError", [(8, (105, [])), (10, (107, [])), (11, (109, [])), (14, (111, [])), (19, (118, []))]), ("String", [(140, (119, []))])] (.c v12))) fun v18 =>
    bindO (evP .e (.faddr 1 (.c v18))) fun v19 =>
    bindO (ldM ro m_1 true 1 v19) fun v20 =>
    bindO (evP .e (.len false (.c v20))) fun v21 =>
    asI .i64 v21 fun x21 =>
    forceB (eqI x21 0) fun c22 =>
    cond c22 (
      finM m0.h.length (tupA [(.i .i64 0), (.i .i64 6)]) m_1) (
      bindP (callM M.call m_1 85 [v0, v12]) fun v25 m_2 =>
      asI .i64 v25 fun x25 =>
      forceB (ltI 0 x25) fun c26 =>
      cond c26 (
        finM m0.h.length (tupA [(.i .i64 0), (.i .i64 9)]) m_2) (
        bindO (evP .e (.nilm [("Error", [(8, (104, [])), (10, (106, [])), (11, (108, [])), (14, (110, [])), (19, (117, []))]), ("RuntimeError", [(8, (105, [])), (10, (107, [])), (11, (109, [])), (14, (111, [])), (19, (118, []))]), ("String", [(140, (119, []))])] (.c v0))) fun v28 =>
        bindO (evP .e (.faddr 0 (.c v28))) fun v29 =>
        bindO (ldM ro m_2 true 1 v29) fun v30 =>
        bindO (evP .e (.len false (.c v30))) fun v31 =>
        asI .i64 v31 fun x31 =>
        forceB (eqI x31 2000) fun c32 =>
        cond c32 (
          finM m0.h.length (tupA [(.i .i64 0), (.i .i64 8)]) m_2) (
          bindO (some (Mm.base m_2)) fun m_3 =>
          bindO (evP .e (.nilm [("Error", [(8, (104, [])), (10, (106, [])), (11, (108, [])), (14, (110, [])), (19, (117, []))]), ("RuntimeError", [(8, (105, [])), (10, (107, [])), (11, (109, [])), (14, (111, [])), (19, (118, []))]), ("String", [(140, (119, []))])] (.c v0))) fun v35 =>
          bindO (evP .e (.faddr 0 (.c v35))) fun v36 =>
          bindO (ldA ro m_2.h true 1 v36) fun v37 =>
          bindO (evP .e (.nilm [("Error", [(8, (104, [])), (10, (106, [])), (11, (108, [])), (14, (110, [])), (19, (117, []))]), ("RuntimeError", [(8, (105, [])), (10, (107, [])), (11, (109, [])), (14, (111, [])), (19, (118, []))]), ("String", [(140, (119, []))])] (.c v12))) fun v39 =>
          bindO (evP .e (.faddr 1 (.c v39))) fun v40 =>
          bindO (ldM ro m_3 true 1 v40) fun v41 =>
          bindO (evP .e (.ixS 4 (.c v41) (.c (.i .i64 0)))) fun v42 =>
          bindO (ldM ro m_3 false 4 v42) fun v43 =>
          bindP (stepM ro m_3 (.bsl 24 4 [(AVal.i IntKind.i64 0), (AVal.i IntKind.i64 0), (AVal.i IntKind.u8 0), (AVal.i IntKind.i64 0)] 1 [((0, 4), .c v43)])) fun v44 m_4 =>
          chk (!Nat.blt m_4.lw m_2.h.length) <|
          bindP (stepM ro m_4 (.app 24 4 32 [(AVal.i IntKind.i64 0), (AVal.i IntKind.i64 0), (AVal.i IntKind.u8 0), (AVal.i IntKind.i64 0)] (.c v37) (.c v44))) fun v45 m_5 =>
          bindO (evP .e (.nilm [("Error", [(8, (104, [])), (10, (106, [])), (11, (108, [])), (14, (110, [])), (19, (117, []))]), ("RuntimeError", [(8, (105, [])), (10, (107, [])), (11, (109, [])), (14, (111, [])), (19, (118, []))]), ("String", [(140, (119, []))])] (.c v0))) fun v46 =>
          bindO (evP .e (.faddr 0 (.c v46))) fun v47 =>
          bindP (stepM ro m_5 (.st 1 (.c v47) (.c v45))) fun vn m_6 =>
          bindO (some (Mm.join m_2 m_6)) fun m_7 =>
          bindO (evP .e (.nilm [("Error", [(8, (104, [])), (10, (106, [])), (11, (108, [])), (14, (110, [])), (19, (117, []))]), ("RuntimeError", [(8, (105, [])), (10, (107, [])), (11, (109, [])), (14, (111, [])), (19, (118, []))]), ("String", [(140, (119, []))])] (.c v12))) fun v50 =>
          bindO (evP .e (.faddr 1 (.c v50))) fun v51 =>
          bindO (ldM ro m_7 true 1 v51) fun v52 =>
          bindO (evP .e (.slS 4 (.c v52) (some (.c (.i .i64 1))) none none)) fun v53 =>
          bindO (evP .e (.nilm [("Error", [(8, (104, [])), (10, (106, [])), (11, (108, [])), (14, (110, [])), (19, (117, []))]), ("RuntimeError", [(8, (105, [])), (10, (107, [])), (11, (109, [])), (14, (111, [])), (19, (118, []))]), ("String", [(140, (119, []))])] (.c v12))) fun v54 =>
          bindO (evP .e (.faddr 1 (.c v54))) fun v55 =>
          bindP (stepM ro m_7 (.st 1 (.c v55) (.c v53))) fun vn_1 m_8 =>
          bindO (evP .e (.nilm [("Error", [(8, (104, [])), (10, (106, [])), (11, (108, [])), (14, (110, [])), (19, (117, []))]), ("RuntimeError", [(8, (105, [])), (10, (107, [])), (11, (109, [])), (14, (111, [])), (19, (118, []))]), ("String", [(140, (119, []))])] (.c v12))) fun v57 =>
          bindO (evP .e (.faddr 2 (.c v57))) fun v58 =>
          bindO (ldM ro m_8 true 1 v58) fun v59 =>
          asI .i64 v59 fun x59 =>
          forceI (wr .i64 (x59 + 1)) fun x60 =>
          bindO (evP .e (.nilm [("Error", [(8, (104, [])), (10, (106, [])), (11, (108, [])), (14, (110, [])), (19, (117, []))]), ("RuntimeError", [(8, (105, [])), (10, (107, [])), (11, (109, [])), (14, (111, [])), (19, (118, []))]), ("String", [(140, (119, []))])] (.c v12))) fun v61 =>
          bindO (evP .e (.faddr 2 (.c v61))) fun v62 =>
          bindP (stepM ro m_8 (.st 1 (.c v62) (.c (.i .i64 x60)))) fun vn_2 m_9 =>
          bindO (evP .e (.nilm [("Error", [(8, (104, [])), (10, (106, [])), (11, (108, [])), (14, (110, [])), (19, (117, []))]), ("RuntimeError", [(8, (105, [])), (10, (107, [])), (11, (109, [])), (14, (111, [])), (19, (118, []))]), ("String", [(140, (119, []))])] (.c v12))) fun v64 =>
          bindO (evP .e (.faddr 1 (.c v64))) fun v65 =>
          bindO (ldM ro m_9 true 1 v65) fun v66 =>
          bindO (evP .e (.len false (.c v66))) fun v67 =>
          asI .i64 v67 fun x67 =>
          finM m0.h.length (tupA [(.i .i64 x67), (.i .i64 0)]) m_9))))

theorem g46_ok {ro : List ABlk} {O : Caller} {M : Means} (hM : M.Ok ⟨F, O⟩ ro) {v0 x1 h r} (ho : O 46 [v0, (.i .i64 x1)] h = none) (hr : g46 M ro v0 x1 ⟨h, h.length, h.length⟩ = some r) : callX ⟨F, O⟩ ro 46 [v0, (.i .i64 x1)] h = some r := by
  refine callX_of (F := ⟨F, O⟩) (fn := fn46) (g := g46 M ro v0 x1) ho rfl rfl hr ?_
  clear ho
  clear hr
  intro m0 t0 ht hr
  have g0 : t0.get 0 = v0 := ht 0
  have g1 : t0.get 1 = (.i .i64 x1) := ht 1
  clear ht
  unfold g46 at hr
  refine w_seq ?_
  refine w_ops ?_
  refine wo_step (v := (.i .i64 0)) (s_pure (p_mv rfl)) ?_
  refine wo_step (v := (.i .i64 0)) (s_pure (p_mv rfl)) ?_
  refine wo_nil ?_
  refine nx_norm ?_
  refine w_seq ?_
  refine w_ops ?_
  refine wo_step (v := v0) (s_pure (p_mv g0)) ?_
  refine wo_step (v := (.i .i64 x1)) (s_pure (p_mv g1)) ?_
  have hq := bindP_inv hr
  clear hr
  obtain ⟨v11, m_1, e11, hr⟩ := hq
  refine wo_step (v := v11) (s_call (mc rfl (mc rfl mn)) (callM_le hM.call e11)) ?_
  refine wo_step (v := v11) (s_pure (p_mv rfl)) ?_
  have hq := bindO_inv hr
  clear hr
  obtain ⟨v12, e12, hr⟩ := hq
  refine wo_step (v := v12) (s_pure (o_ext rfl e12)) ?_
  have hq := bindO_inv hr
  clear hr
  obtain ⟨v13, e13, hr⟩ := hq
  have hq := asI_inv hr
  clear hr
  obtain ⟨x13, rfl, hr⟩ := hq
  refine wo_step (v := (.i .i64 x13)) (s_pure (o_ext rfl e13)) ?_
  refine wo_step (v := v12) (s_pure (p_mv rfl)) ?_
  refine wo_step (v := (.i .i64 x13)) (s_pure (p_mv rfl)) ?_
  refine wo_nil ?_
  refine nx_norm ?_
  refine w_seq ?_
  refine w_seq ?_
  refine w_ops ?_
  refine wo_step (v := (.i .i64 x13)) (s_pure (p_mv rfl)) ?_
  have hq := forceB_inv hr
  clear hr
  obtain ⟨c15, e15, hr⟩ := hq
  refine wo_step (v := (.b c15)) (s_pure (p_bin rfl rfl (b_neq.trans (cb e15)))) ?_
  refine wo_nil ?_
  refine nx_norm ?_
  have hq := cond_inv hr
  clear hr
  rcases hq with ⟨rfl, hr⟩ | ⟨rfl, hr⟩
  · refine w_condT rfl ?_
    refine w_seq ?_
    refine w_ops ?_
    refine wo_step (v := (.i .i64 x13)) (s_pure (p_mv rfl)) ?_
    refine wo_step (v := (.i .i64 0)) (s_pure (p_mv rfl)) ?_
    refine wo_step (v := (.i .i64 x13)) (s_pure (p_mv rfl)) ?_
    refine wo_nil ?_
    refine nx_norm ?_
    refine w_ret ?_
    refine nx_ret ?_
    exact qf ret_ok (rt rfl (rt rfl rn)) hr
  · refine w_condF rfl ?_
    refine w_skip ?_
    refine nx_norm ?_
    refine w_seq ?_
    refine w_seq ?_
    refine w_ops ?_
    refine wo_step (v := v12) (s_pure (p_mv rfl)) ?_
    have hq := bindO_inv hr
    clear hr
    obtain ⟨v18, e18, hr⟩ := hq
    refine wo_step (v := v18) (s_pure (o_nilm rfl e18)) ?_
    have hq := bindO_inv hr
    clear hr
    obtain ⟨v19, e19, hr⟩ := hq
    refine wo_step (v := v19) (s_pure (o_faddr rfl e19)) ?_
    have hq := bindO_inv hr
    clear hr
    obtain ⟨v20, e20, hr⟩ := hq
    refine wo_step (v := v20) (s_ld rfl e20) ?_
    have hq := bindO_inv hr
    clear hr
    obtain ⟨v21, e21, hr⟩ := hq
    have hq := asI_inv hr
    clear hr
    obtain ⟨x21, rfl, hr⟩ := hq
    refine wo_step (v := (.i .i64 x21)) (s_pure (o_len rfl e21)) ?_
    have hq := forceB_inv hr
    clear hr
    obtain ⟨c22, e22, hr⟩ := hq
    refine wo_step (v := (.b c22)) (s_pure (p_bin rfl rfl (b_eql.trans (cb e22)))) ?_
    refine wo_nil ?_
    refine nx_norm ?_
    have hq := cond_inv hr
    clear hr
    rcases hq with ⟨rfl, hr⟩ | ⟨rfl, hr⟩
    · refine w_condT rfl ?_
      refine w_seq ?_
      refine w_ops ?_
      refine wo_step (v := (.i .i64 0)) (s_pure (p_mv rfl)) ?_
      refine wo_step (v := (.i .i64 6)) (s_pure (p_mv rfl)) ?_
      refine wo_nil ?_
      refine nx_norm ?_
      refine w_ret ?_
      refine nx_ret ?_
      exact qf ret_ok (rt rfl (rt rfl rn)) hr
    · refine w_condF rfl ?_
      refine w_skip ?_
      refine nx_norm ?_
      refine w_seq ?_
      refine w_seq ?_
      refine w_ops ?_
      refine wo_step (v := v0) (s_pure (p_mv g0)) ?_
      refine wo_step (v := v12) (s_pure (p_mv rfl)) ?_
      have hq := bindP_inv hr
      clear hr
      obtain ⟨v25, m_2, e25, hr⟩ := hq
      have hq := asI_inv hr
      clear hr
      obtain ⟨x25, rfl, hr⟩ := hq
      refine wo_step (v := (.i .i64 x25)) (s_call (mc rfl (mc rfl mn)) (callM_le hM.call e25)) ?_
      have hq := forceB_inv hr
      clear hr
      obtain ⟨c26, e26, hr⟩ := hq
      refine wo_step (v := (.b c26)) (s_pure (p_bin rfl rfl (b_gtr.trans (cb e26)))) ?_
      refine wo_nil ?_
      refine nx_norm ?_
      have hq := cond_inv hr
      clear hr
      rcases hq with ⟨rfl, hr⟩ | ⟨rfl, hr⟩
      · refine w_condT rfl ?_
        refine w_seq ?_
        refine w_ops ?_
        refine wo_step (v := (.i .i64 0)) (s_pure (p_mv rfl)) ?_
        refine wo_step (v := (.i .i64 9)) (s_pure (p_mv rfl)) ?_
        refine wo_nil ?_
        refine nx_norm ?_
        refine w_ret ?_
        refine nx_ret ?_
        exact qf ret_ok (rt rfl (rt rfl rn)) hr
      · refine w_condF rfl ?_
        refine w_skip ?_
        refine nx_norm ?_
        refine w_seq ?_
        refine w_seq ?_
        refine w_ops ?_
        refine wo_step (v := v0) (s_pure (p_mv g0)) ?_
        have hq := bindO_inv hr
        clear hr
        obtain ⟨v28, e28, hr⟩ := hq
        refine wo_step (v := v28) (s_pure (o_nilm rfl e28)) ?_
        have hq := bindO_inv hr
        clear hr
        obtain ⟨v29, e29, hr⟩ := hq
        refine wo_step (v := v29) (s_pure (o_faddr rfl e29)) ?_
        have hq := bindO_inv hr
        clear hr
        obtain ⟨v30, e30, hr⟩ := hq
        refine wo_step (v := v30) (s_ld rfl e30) ?_
        have hq := bindO_inv hr
        clear hr
        obtain ⟨v31, e31, hr⟩ := hq
        have hq := asI_inv hr
        clear hr
        obtain ⟨x31, rfl, hr⟩ := hq
        refine wo_step (v := (.i .i64 x31)) (s_pure (o_len rfl e31)) ?_
        have hq := forceB_inv hr
        clear hr
        obtain ⟨c32, e32, hr⟩ := hq
        refine wo_step (v := (.b c32)) (s_pure (p_bin rfl rfl (b_eql.trans (cb e32)))) ?_
        refine wo_nil ?_
        refine nx_norm ?_
        have hq := cond_inv hr
        clear hr
        rcases hq with ⟨rfl, hr⟩ | ⟨rfl, hr⟩
        · refine w_condT rfl ?_
          refine w_seq ?_
          refine w_ops ?_
          refine wo_step (v := (.i .i64 0)) (s_pure (p_mv rfl)) ?_
          refine wo_step (v := (.i .i64 8)) (s_pure (p_mv rfl)) ?_
          refine wo_nil ?_
          refine nx_norm ?_
          refine w_ret ?_
          refine nx_ret ?_
          exact qf ret_ok (rt rfl (rt rfl rn)) hr
        · refine w_condF rfl ?_
          refine w_skip ?_
          refine nx_norm ?_
          refine w_seq ?_
          have hq := bindO_inv hr
          clear hr
          obtain ⟨m_3, ef, hr⟩ := hq
          refine w_flt (af := true) rfl ef ?_
          refine wf_step (v := v0) (f_P rfl (s_pure (p_mv g0))) ?_
          refine wf_step (v := v0) (f_P rfl (s_pure (p_mv g0))) ?_
          have hq := bindO_inv hr
          clear hr
          obtain ⟨v35, e35, hr⟩ := hq
          refine wf_step (v := v35) (f_P rfl (s_pure (o_nilm rfl e35))) ?_
          have hq := bindO_inv hr
          clear hr
          obtain ⟨v36, e36, hr⟩ := hq
          refine wf_step (v := v36) (f_P rfl (s_pure (o_faddr rfl e36))) ?_
          have hq := bindO_inv hr
          clear hr
          obtain ⟨v37, e37, hr⟩ := hq
          refine wf_step (v := v37) (f_ld rfl e37) ?_
          refine wf_step (v := v12) (f_P rfl (s_pure (p_mv rfl))) ?_
          have hq := bindO_inv hr
          clear hr
          obtain ⟨v39, e39, hr⟩ := hq
          refine wf_step (v := v39) (f_P rfl (s_pure (o_nilm rfl e39))) ?_
          have hq := bindO_inv hr
          clear hr
          obtain ⟨v40, e40, hr⟩ := hq
          refine wf_step (v := v40) (f_P rfl (s_pure (o_faddr rfl e40))) ?_
          have hq := bindO_inv hr
          clear hr
          obtain ⟨v41, e41, hr⟩ := hq
          refine wf_step (v := v41) (f_P rfl (s_ld rfl e41)) ?_
          have hq := bindO_inv hr
          clear hr
          obtain ⟨v42, e42, hr⟩ := hq
          refine wf_step (v := v42) (f_P rfl (s_pure (o_ixS rfl rfl e42))) ?_
          have hq := bindO_inv hr
          clear hr
          obtain ⟨v43, e43, hr⟩ := hq
          refine wf_step (v := v43) (f_P rfl (s_ld rfl e43)) ?_
          have hq := bindP_inv hr
          clear hr
          obtain ⟨v44, m_4, e44, hr⟩ := hq
          have hq := chk_inv hr
          clear hr
          obtain ⟨hc44, hr⟩ := hq
          refine wf_step (v := v44) (f_M hc44 (s_bsl (qc rfl qn) e44)) ?_
          have hq := bindP_inv hr
          clear hr
          obtain ⟨v45, m_5, e45, hr⟩ := hq
          refine wf_step (v := v45) (f_F rfl (s_app rfl rfl e45)) ?_
          have hq := bindO_inv hr
          clear hr
          obtain ⟨v46, e46, hr⟩ := hq
          refine wf_step (v := v46) (f_P rfl (s_pure (o_nilm rfl e46))) ?_
          have hq := bindO_inv hr
          clear hr
          obtain ⟨v47, e47, hr⟩ := hq
          refine wf_step (v := v47) (f_P rfl (s_pure (o_faddr rfl e47))) ?_
          have hq := bindP_inv hr
          clear hr
          obtain ⟨vn, m_6, en, hr⟩ := hq
          refine wf_stepN (f_F rfl (s_st rfl rfl en)) ?_
          have hq := bindO_inv hr
          clear hr
          obtain ⟨m_7, ef_1, hr⟩ := hq
          refine wf_end ef_1 ?_
          refine nx_norm ?_
          refine w_seq ?_
          refine w_ops ?_
          refine wo_step (v := v12) (s_pure (p_mv rfl)) ?_
          refine wo_step (v := v12) (s_pure (p_mv rfl)) ?_
          have hq := bindO_inv hr
          clear hr
          obtain ⟨v50, e50, hr⟩ := hq
          refine wo_step (v := v50) (s_pure (o_nilm rfl e50)) ?_
          have hq := bindO_inv hr
          clear hr
          obtain ⟨v51, e51, hr⟩ := hq
          refine wo_step (v := v51) (s_pure (o_faddr rfl e51)) ?_
          have hq := bindO_inv hr
          clear hr
          obtain ⟨v52, e52, hr⟩ := hq
          refine wo_step (v := v52) (s_ld rfl e52) ?_
          have hq := bindO_inv hr
          clear hr
          obtain ⟨v53, e53, hr⟩ := hq
          refine wo_step (v := v53) (s_pure (o_slS rfl (os rfl) on on e53)) ?_
          have hq := bindO_inv hr
          clear hr
          obtain ⟨v54, e54, hr⟩ := hq
          refine wo_step (v := v54) (s_pure (o_nilm rfl e54)) ?_
          have hq := bindO_inv hr
          clear hr
          obtain ⟨v55, e55, hr⟩ := hq
          refine wo_step (v := v55) (s_pure (o_faddr rfl e55)) ?_
          have hq := bindP_inv hr
          clear hr
          obtain ⟨vn_1, m_8, en_1, hr⟩ := hq
          refine wo_stepN (s_st rfl rfl en_1) ?_
          refine wo_nil ?_
          refine nx_norm ?_
          refine w_seq ?_
          refine w_ops ?_
          refine wo_step (v := v12) (s_pure (p_mv rfl)) ?_
          have hq := bindO_inv hr
          clear hr
          obtain ⟨v57, e57, hr⟩ := hq
          refine wo_step (v := v57) (s_pure (o_nilm rfl e57)) ?_
          have hq := bindO_inv hr
          clear hr
          obtain ⟨v58, e58, hr⟩ := hq
          refine wo_step (v := v58) (s_pure (o_faddr rfl e58)) ?_
          have hq := bindO_inv hr
          clear hr
          obtain ⟨v59, e59, hr⟩ := hq
          have hq := asI_inv hr
          clear hr
          obtain ⟨x59, rfl, hr⟩ := hq
          refine wo_step (v := (.i .i64 x59)) (s_ld rfl e59) ?_
          have hq := forceI_inv hr
          clear hr
          obtain ⟨x60, e60, hr⟩ := hq
          refine wo_step (v := (.i .i64 x60)) (s_pure (p_bin rfl rfl (b_add.trans (ci e60)))) ?_
          have hq := bindO_inv hr
          clear hr
          obtain ⟨v61, e61, hr⟩ := hq
          refine wo_step (v := v61) (s_pure (o_nilm rfl e61)) ?_
          have hq := bindO_inv hr
          clear hr
          obtain ⟨v62, e62, hr⟩ := hq
          refine wo_step (v := v62) (s_pure (o_faddr rfl e62)) ?_
          have hq := bindP_inv hr
          clear hr
          obtain ⟨vn_2, m_9, en_2, hr⟩ := hq
          refine wo_stepN (s_st rfl rfl en_2) ?_
          refine wo_nil ?_
          refine nx_norm ?_
          refine w_seq ?_
          refine w_ops ?_
          refine wo_step (v := v12) (s_pure (p_mv rfl)) ?_
          have hq := bindO_inv hr
          clear hr
          obtain ⟨v64, e64, hr⟩ := hq
          refine wo_step (v := v64) (s_pure (o_nilm rfl e64)) ?_
          have hq := bindO_inv hr
          clear hr
          obtain ⟨v65, e65, hr⟩ := hq
          refine wo_step (v := v65) (s_pure (o_faddr rfl e65)) ?_
          have hq := bindO_inv hr
          clear hr
          obtain ⟨v66, e66, hr⟩ := hq
          refine wo_step (v := v66) (s_ld rfl e66) ?_
          have hq := bindO_inv hr
          clear hr
          obtain ⟨v67, e67, hr⟩ := hq
          have hq := asI_inv hr
          clear hr
          obtain ⟨x67, rfl, hr⟩ := hq
          refine wo_step (v := (.i .i64 x67)) (s_pure (o_len rfl e67)) ?_
          refine wo_step (v := (.i .i64 x67)) (s_pure (p_mv rfl)) ?_
          refine wo_step (v := (.i .i64 0)) (s_pure (p_mv rfl)) ?_
          refine wo_nil ?_
          refine nx_norm ?_
          refine w_ret ?_
          exact qf ret_ok (rt rfl (rt rfl rn)) hr

/- (dibber/note.Desk).Take -/

def g47 (M : Means) (ro : List ABlk) (v0 : AVal) (x1 : Int) (m0 : Mm) : Option (AVal × Heap × Nat × Nat) :=
  bindP (callM M.call m0 84 [v0, (.i .i64 x1)]) fun v14 m_1 =>
  bindO (evP .e (.ext 0 (.c v14))) fun v15 =>
  bindO (evP .e (.ext 1 (.c v14))) fun v16 =>
  asI .i64 v16 fun x16 =>
  forceB (!eqI x16 0) fun c18 =>
  cond c18 (
    finM m0.h.length (tupA [(.i .i64 0), (.i .i64 x16)]) m_1) (
    bindP (callM M.call m_1 85 [v0, v15]) fun v22 m_2 =>
    asI .i64 v22 fun x22 =>
    forceB (eqI x22 0) fun c23 =>
    cond c23 (
      finM m0.h.length (tupA [(.i .i64 0), (.i .i64 6)]) m_2) (
      bindO (evP .e (.nilm [("Error", [(8, (104, [])), (10, (106, [])), (11, (108, [])), (14, (110, [])), (19, (117, []))]), ("RuntimeError", [(8, (105, [])), (10, (107, [])), (11, (109, [])), (14, (111, [])), (19, (118, []))]), ("String", [(140, (119, []))])] (.c v0))) fun v26 =>
      bindO (evP .e (.faddr 0 (.c v26))) fun v27 =>
      bindO (ldA ro m_2.h true 1 v27) fun v28 =>
      bindO (evP .e (.nilm [("Error", [(8, (104, [])), (10, (106, [])), (11, (108, [])), (14, (110, [])), (19, (117, []))]), ("RuntimeError", [(8, (105, [])), (10, (107, [])), (11, (109, [])), (14, (111, [])), (19, (118, []))]), ("String", [(140, (119, []))])] (.c v15))) fun v30 =>
      bindO (evP .e (.faddr 2 (.c v30))) fun v31 =>
      bindO (ldA ro m_2.h true 1 v31) fun v32 =>
      asI .i64 v32 fun x32 =>
      bindO (evP .e (.ixS 4 (.c v28) (.c (.i .i64 x32)))) fun v33 =>
      bindO (ldA ro m_2.h false 4 v33) fun v34 =>
      bindO (evP .e (.nilm [("Error", [(8, (104, [])), (10, (106, [])), (11, (108, [])), (14, (110, [])), (19, (117, []))]), ("RuntimeError", [(8, (105, [])), (10, (107, [])), (11, (109, [])), (14, (111, [])), (19, (118, []))]), ("String", [(140, (119, []))])] (.c v15))) fun v36 =>
      bindO (evP .e (.faddr 1 (.c v36))) fun v37 =>
      bindO (ldA ro m_2.h true 1 v37) fun v38 =>
      bindO (callNF M.call m_2.h m_2.h 69 [v34, v38]) fun ⟨v39, hh_1⟩ =>
      bindO (evP .e (.ext 0 (.c v39))) fun v40 =>
      bindO (evP .e (.ext 1 (.c v39))) fun v41 =>
      bindO (some (AVal.p (some ⟨false, List.length hh_1, 0⟩))) fun v8 =>
      asP v8 fun qs =>
      chk (Nat.beq (AVal.cells v40).length 4) <|
      bindO (writesM ro [] [(qs, AVal.cells v40)] ⟨(hh_1 ++ [some (blkOf 24 [(AVal.i IntKind.i64 0), (AVal.i IntKind.i64 0), (AVal.i IntKind.u8 0), (AVal.i IntKind.i64 0)])]), m_2.lw, m_2.lp⟩) fun m_3 =>
      bindO (some (Mm.base m_3)) fun m_4 =>
      bindO (evP .e (.nilm [("Error", [(8, (104, [])), (10, (106, [])), (11, (108, [])), (14, (110, [])), (19, (117, []))]), ("RuntimeError", [(8, (105, [])), (10, (107, [])), (11, (109, [])), (14, (111, [])), (19, (118, []))]), ("String", [(140, (119, []))])] (.c v15))) fun v44 =>
      bindO (evP .e (.faddr 0 (.c v44))) fun v45 =>
      bindO (ldM ro m_4 true 1 v45) fun v46 =>
      bindO (ldM ro m_4 false 4 v8) fun v47 =>
      bindP (callM M.call m_4 63 [v46, v47]) fun v48 m_5 =>
      bindO (evP .e (.ext 0 (.c v48))) fun v49 =>
      bindO (evP .e (.ext 1 (.c v48))) fun v50 =>
      asI .i64 v50 fun x50 =>
      bindO (some (Mm.join m_3 m_5)) fun m_6 =>
      forceB (!eqI x50 0) fun c52 =>
      cond c52 (
        finM m0.h.length (tupA [(.i .i64 0), (.i .i64 x50)]) m_6) (
        bindO (evP .e (.nilm [("Error", [(8, (104, [])), (10, (106, [])), (11, (108, [])), (14, (110, [])), (19, (117, []))]), ("RuntimeError", [(8, (105, [])), (10, (107, [])), (11, (109, [])), (14, (111, [])), (19, (118, []))]), ("String", [(140, (119, []))])] (.c v15))) fun v58 =>
        bindO (evP .e (.faddr 0 (.c v58))) fun v59 =>
        bindP (stepM ro m_6 (.st 1 (.c v59) (.c v49))) fun vn m_7 =>
        bindO (evP .e (.nilm [("Error", [(8, (104, [])), (10, (106, [])), (11, (108, [])), (14, (110, [])), (19, (117, []))]), ("RuntimeError", [(8, (105, [])), (10, (107, [])), (11, (109, [])), (14, (111, [])), (19, (118, []))]), ("String", [(140, (119, []))])] (.c v15))) fun v60 =>
        bindO (evP .e (.faddr 1 (.c v60))) fun v61 =>
        bindP (stepM ro m_7 (.st 1 (.c v61) (.c v41))) fun vn_1 m_8 =>
        bindO (evP .e (.nilm [("Error", [(8, (104, [])), (10, (106, [])), (11, (108, [])), (14, (110, [])), (19, (117, []))]), ("RuntimeError", [(8, (105, [])), (10, (107, [])), (11, (109, [])), (14, (111, [])), (19, (118, []))]), ("String", [(140, (119, []))])] (.c v15))) fun v63 =>
        bindO (evP .e (.faddr 2 (.c v63))) fun v64 =>
        bindO (ldM ro m_8 true 1 v64) fun v65 =>
        asI .i64 v65 fun x65 =>
        forceI (wr .i64 (x65 + 1)) fun x66 =>
        bindO (evP .e (.nilm [("Error", [(8, (104, [])), (10, (106, [])), (11, (108, [])), (14, (110, [])), (19, (117, []))]), ("RuntimeError", [(8, (105, [])), (10, (107, [])), (11, (109, [])), (14, (111, [])), (19, (118, []))]), ("String", [(140, (119, []))])] (.c v15))) fun v67 =>
        bindO (evP .e (.faddr 2 (.c v67))) fun v68 =>
        bindP (stepM ro m_8 (.st 1 (.c v68) (.c (.i .i64 x66)))) fun vn_2 m_9 =>
        bindP (callM M.call m_9 85 [v0, v15]) fun v71 m_10 =>
        asI .i64 v71 fun x71 =>
        finM m0.h.length (tupA [(.i .i64 x71), (.i .i64 0)]) m_10)))

theorem g47_ok {ro : List ABlk} {O : Caller} {M : Means} (hM : M.Ok ⟨F, O⟩ ro) {v0 x1 h r} (ho : O 47 [v0, (.i .i64 x1)] h = none) (hr : g47 M ro v0 x1 ⟨h, h.length, h.length⟩ = some r) : callX ⟨F, O⟩ ro 47 [v0, (.i .i64 x1)] h = some r := by
  refine callX_of (F := ⟨F, O⟩) (fn := fn47) (g := g47 M ro v0 x1) ho rfl rfl hr ?_
  clear ho
  clear hr
  intro m0 t0 ht hr
  have g0 : t0.get 0 = v0 := ht 0
  have g1 : t0.get 1 = (.i .i64 x1) := ht 1
  clear ht
  unfold g47 at hr
  refine w_seq ?_
  refine w_ops ?_
  refine wo_step (v := (.i .i64 0)) (s_pure (p_mv rfl)) ?_
  refine wo_step (v := (.i .i64 0)) (s_pure (p_mv rfl)) ?_
  refine wo_nil ?_
  refine nx_norm ?_
  refine w_seq ?_
  refine w_ops ?_
  refine wo_step (v := v0) (s_pure (p_mv g0)) ?_
  refine wo_step (v := (.i .i64 x1)) (s_pure (p_mv g1)) ?_
  have hq := bindP_inv hr
  clear hr
  obtain ⟨v14, m_1, e14, hr⟩ := hq
  refine wo_step (v := v14) (s_call (mc rfl (mc rfl mn)) (callM_le hM.call e14)) ?_
  refine wo_step (v := v14) (s_pure (p_mv rfl)) ?_
  have hq := bindO_inv hr
  clear hr
  obtain ⟨v15, e15, hr⟩ := hq
  refine wo_step (v := v15) (s_pure (o_ext rfl e15)) ?_
  have hq := bindO_inv hr
  clear hr
  obtain ⟨v16, e16, hr⟩ := hq
  have hq := asI_inv hr
  clear hr
  obtain ⟨x16, rfl, hr⟩ := hq
  refine wo_step (v := (.i .i64 x16)) (s_pure (o_ext rfl e16)) ?_
  refine wo_step (v := v15) (s_pure (p_mv rfl)) ?_
  refine wo_step (v := (.i .i64 x16)) (s_pure (p_mv rfl)) ?_
  refine wo_nil ?_
  refine nx_norm ?_
  refine w_seq ?_
  refine w_seq ?_
  refine w_ops ?_
  refine wo_step (v := (.i .i64 x16)) (s_pure (p_mv rfl)) ?_
  have hq := forceB_inv hr
  clear hr
  obtain ⟨c18, e18, hr⟩ := hq
  refine wo_step (v := (.b c18)) (s_pure (p_bin rfl rfl (b_neq.trans (cb e18)))) ?_
  refine wo_nil ?_
  refine nx_norm ?_
  have hq := cond_inv hr
  clear hr
  rcases hq with ⟨rfl, hr⟩ | ⟨rfl, hr⟩
  · refine w_condT rfl ?_
    refine w_seq ?_
    refine w_ops ?_
    refine wo_step (v := (.i .i64 x16)) (s_pure (p_mv rfl)) ?_
    refine wo_step (v := (.i .i64 0)) (s_pure (p_mv rfl)) ?_
    refine wo_step (v := (.i .i64 x16)) (s_pure (p_mv rfl)) ?_
    refine wo_nil ?_
    refine nx_norm ?_
    refine w_ret ?_
    refine nx_ret ?_
    exact qf ret_ok (rt rfl (rt rfl rn)) hr
  · refine w_condF rfl ?_
    refine w_skip ?_
    refine nx_norm ?_
    refine w_seq ?_
    refine w_seq ?_
    refine w_ops ?_
    refine wo_step (v := v0) (s_pure (p_mv g0)) ?_
    refine wo_step (v := v15) (s_pure (p_mv rfl)) ?_
    have hq := bindP_inv hr
    clear hr
    obtain ⟨v22, m_2, e22, hr⟩ := hq
    have hq := asI_inv hr
    clear hr
    obtain ⟨x22, rfl, hr⟩ := hq
    refine wo_step (v := (.i .i64 x22)) (s_call (mc rfl (mc rfl mn)) (callM_le hM.call e22)) ?_
    have hq := forceB_inv hr
    clear hr
    obtain ⟨c23, e23, hr⟩ := hq
    refine wo_step (v := (.b c23)) (s_pure (p_bin rfl rfl (b_eql.trans (cb e23)))) ?_
    refine wo_nil ?_
    refine nx_norm ?_
    have hq := cond_inv hr
    clear hr
    rcases hq with ⟨rfl, hr⟩ | ⟨rfl, hr⟩
    · refine w_condT rfl ?_
      refine w_seq ?_
      refine w_ops ?_
      refine wo_step (v := (.i .i64 0)) (s_pure (p_mv rfl)) ?_
      refine wo_step (v := (.i .i64 6)) (s_pure (p_mv rfl)) ?_
      refine wo_nil ?_
      refine nx_norm ?_
      refine w_ret ?_
      refine nx_ret ?_
      exact qf ret_ok (rt rfl (rt rfl rn)) hr
    · refine w_condF rfl ?_
      refine w_skip ?_
      refine nx_norm ?_
      refine w_seq ?_
      refine w_any ?_
      refine wa_step (v := v0) (a_pure (p_mv g0)) ?_
      have hq := bindO_inv hr
      clear hr
      obtain ⟨v26, e26, hr⟩ := hq
      refine wa_step (v := v26) (a_pure (o_nilm rfl e26)) ?_
      have hq := bindO_inv hr
      clear hr
      obtain ⟨v27, e27, hr⟩ := hq
      refine wa_step (v := v27) (a_pure (o_faddr rfl e27)) ?_
      have hq := bindO_inv hr
      clear hr
      obtain ⟨v28, e28, hr⟩ := hq
      refine wa_step (v := v28) (a_ld rfl e28) ?_
      refine wa_step (v := v15) (a_pure (p_mv rfl)) ?_
      have hq := bindO_inv hr
      clear hr
      obtain ⟨v30, e30, hr⟩ := hq
      refine wa_step (v := v30) (a_pure (o_nilm rfl e30)) ?_
      have hq := bindO_inv hr
      clear hr
      obtain ⟨v31, e31, hr⟩ := hq
      refine wa_step (v := v31) (a_pure (o_faddr rfl e31)) ?_
      have hq := bindO_inv hr
      clear hr
      obtain ⟨v32, e32, hr⟩ := hq
      have hq := asI_inv hr
      clear hr
      obtain ⟨x32, rfl, hr⟩ := hq
      refine wa_step (v := (.i .i64 x32)) (a_ld rfl e32) ?_
      have hq := bindO_inv hr
      clear hr
      obtain ⟨v33, e33, hr⟩ := hq
      refine wa_step (v := v33) (a_pure (o_ixS rfl rfl e33)) ?_
      have hq := bindO_inv hr
      clear hr
      obtain ⟨v34, e34, hr⟩ := hq
      refine wa_step (v := v34) (a_ld rfl e34) ?_
      refine wa_step (v := v15) (a_pure (p_mv rfl)) ?_
      have hq := bindO_inv hr
      clear hr
      obtain ⟨v36, e36, hr⟩ := hq
      refine wa_step (v := v36) (a_pure (o_nilm rfl e36)) ?_
      have hq := bindO_inv hr
      clear hr
      obtain ⟨v37, e37, hr⟩ := hq
      refine wa_step (v := v37) (a_pure (o_faddr rfl e37)) ?_
      have hq := bindO_inv hr
      clear hr
      obtain ⟨v38, e38, hr⟩ := hq
      refine wa_step (v := v38) (a_ld rfl e38) ?_
      have hq := bindO_inv hr
      clear hr
      obtain ⟨⟨v39, hh_1⟩, e39, hr⟩ := hq
      refine wa_step (v := v39) (a_call (mc rfl (mc rfl mn)) (callNF_le hM.call e39)) ?_
      refine wa_step (v := v39) (a_pure (p_mv rfl)) ?_
      have hq := bindO_inv hr
      clear hr
      obtain ⟨v40, e40, hr⟩ := hq
      refine wa_step (v := v40) (a_pure (o_ext rfl e40)) ?_
      have hq := bindO_inv hr
      clear hr
      obtain ⟨v41, e41, hr⟩ := hq
      refine wa_step (v := v41) (a_pure (o_ext rfl e41)) ?_
      have hq := bindO_inv hr
      clear hr
      obtain ⟨v8, e8, hr⟩ := hq
      refine wa_step (v := v8) (a_al' e8) ?_
      have hq := asP_inv hr
      clear hr
      obtain ⟨qs, eqs, hr⟩ := hq
      have hq := chk_inv hr
      clear hr
      obtain ⟨hcs, hr⟩ := hq
      refine wa_stepN (a_st (Eq.trans (b := v8) rfl eqs) rfl hcs) ?_
      refine wa_step (v := v41) (a_pure (p_mv rfl)) ?_
      have hq := bindO_inv hr
      clear hr
      obtain ⟨m_3, ew, hr⟩ := hq
      refine wa_nil ?_
      refine ⟨m_3, ew, ?_⟩
      refine nx_norm ?_
      refine w_seq ?_
      have hq := bindO_inv hr
      clear hr
      obtain ⟨m_4, ef, hr⟩ := hq
      refine w_flt (af := false) rfl ef ?_
      refine wf_step (v := v15) (f_P rfl (s_pure (p_mv rfl))) ?_
      have hq := bindO_inv hr
      clear hr
      obtain ⟨v44, e44, hr⟩ := hq
      refine wf_step (v := v44) (f_P rfl (s_pure (o_nilm rfl e44))) ?_
      have hq := bindO_inv hr
      clear hr
      obtain ⟨v45, e45, hr⟩ := hq
      refine wf_step (v := v45) (f_P rfl (s_pure (o_faddr rfl e45))) ?_
      have hq := bindO_inv hr
      clear hr
      obtain ⟨v46, e46, hr⟩ := hq
      refine wf_step (v := v46) (f_P rfl (s_ld rfl e46)) ?_
      have hq := bindO_inv hr
      clear hr
      obtain ⟨v47, e47, hr⟩ := hq
      refine wf_step (v := v47) (f_P rfl (s_ld rfl e47)) ?_
      have hq := bindP_inv hr
      clear hr
      obtain ⟨v48, m_5, e48, hr⟩ := hq
      refine wf_step (v := v48) (f_N (s_call (mc rfl (mc rfl mn)) (callM_le hM.call e48))) ?_
      refine wf_step (v := v48) (f_P rfl (s_pure (p_mv rfl))) ?_
      have hq := bindO_inv hr
      clear hr
      obtain ⟨v49, e49, hr⟩ := hq
      refine wf_step (v := v49) (f_P rfl (s_pure (o_ext rfl e49))) ?_
      have hq := bindO_inv hr
      clear hr
      obtain ⟨v50, e50, hr⟩ := hq
      have hq := asI_inv hr
      clear hr
      obtain ⟨x50, rfl, hr⟩ := hq
      refine wf_step (v := (.i .i64 x50)) (f_P rfl (s_pure (o_ext rfl e50))) ?_
      refine wf_step (v := v49) (f_P rfl (s_pure (p_mv rfl))) ?_
      refine wf_step (v := (.i .i64 x50)) (f_P rfl (s_pure (p_mv rfl))) ?_
      have hq := bindO_inv hr
      clear hr
      obtain ⟨m_6, ef_1, hr⟩ := hq
      refine wf_end ef_1 ?_
      refine nx_norm ?_
      refine w_seq ?_
      refine w_seq ?_
      refine w_ops ?_
      refine wo_step (v := (.i .i64 x50)) (s_pure (p_mv rfl)) ?_
      have hq := forceB_inv hr
      clear hr
      obtain ⟨c52, e52, hr⟩ := hq
      refine wo_step (v := (.b c52)) (s_pure (p_bin rfl rfl (b_neq.trans (cb e52)))) ?_
      refine wo_nil ?_
      refine nx_norm ?_
      have hq := cond_inv hr
      clear hr
      rcases hq with ⟨rfl, hr⟩ | ⟨rfl, hr⟩
      · refine w_condT rfl ?_
        refine w_seq ?_
        refine w_ops ?_
        refine wo_step (v := (.i .i64 x50)) (s_pure (p_mv rfl)) ?_
        refine wo_step (v := (.i .i64 0)) (s_pure (p_mv rfl)) ?_
        refine wo_step (v := (.i .i64 x50)) (s_pure (p_mv rfl)) ?_
        refine wo_nil ?_
        refine nx_norm ?_
        refine w_ret ?_
        refine nx_ret ?_
        exact qf ret_ok (rt rfl (rt rfl rn)) hr
      · refine w_condF rfl ?_
        refine w_skip ?_
        refine nx_norm ?_
        refine w_seq ?_
        refine w_ops ?_
        refine wo_step (v := v15) (s_pure (p_mv rfl)) ?_
        refine wo_step (v := v15) (s_pure (p_mv rfl)) ?_
        refine wo_step (v := v49) (s_pure (p_mv rfl)) ?_
        refine wo_step (v := v41) (s_pure (p_mv rfl)) ?_
        have hq := bindO_inv hr
        clear hr
        obtain ⟨v58, e58, hr⟩ := hq
        refine wo_step (v := v58) (s_pure (o_nilm rfl e58)) ?_
        have hq := bindO_inv hr
        clear hr
        obtain ⟨v59, e59, hr⟩ := hq
        refine wo_step (v := v59) (s_pure (o_faddr rfl e59)) ?_
        have hq := bindP_inv hr
        clear hr
        obtain ⟨vn, m_7, en, hr⟩ := hq
        refine wo_stepN (s_st rfl rfl en) ?_
        have hq := bindO_inv hr
        clear hr
        obtain ⟨v60, e60, hr⟩ := hq
        refine wo_step (v := v60) (s_pure (o_nilm rfl e60)) ?_
        have hq := bindO_inv hr
        clear hr
        obtain ⟨v61, e61, hr⟩ := hq
        refine wo_step (v := v61) (s_pure (o_faddr rfl e61)) ?_
        have hq := bindP_inv hr
        clear hr
        obtain ⟨vn_1, m_8, en_1, hr⟩ := hq
        refine wo_stepN (s_st rfl rfl en_1) ?_
        refine wo_nil ?_
        refine nx_norm ?_
        refine w_seq ?_
        refine w_ops ?_
        refine wo_step (v := v15) (s_pure (p_mv rfl)) ?_
        have hq := bindO_inv hr
        clear hr
        obtain ⟨v63, e63, hr⟩ := hq
        refine wo_step (v := v63) (s_pure (o_nilm rfl e63)) ?_
        have hq := bindO_inv hr
        clear hr
        obtain ⟨v64, e64, hr⟩ := hq
        refine wo_step (v := v64) (s_pure (o_faddr rfl e64)) ?_
        have hq := bindO_inv hr
        clear hr
        obtain ⟨v65, e65, hr⟩ := hq
        have hq := asI_inv hr
        clear hr
        obtain ⟨x65, rfl, hr⟩ := hq
        refine wo_step (v := (.i .i64 x65)) (s_ld rfl e65) ?_
        have hq := forceI_inv hr
        clear hr
        obtain ⟨x66, e66, hr⟩ := hq
        refine wo_step (v := (.i .i64 x66)) (s_pure (p_bin rfl rfl (b_add.trans (ci e66)))) ?_
        have hq := bindO_inv hr
        clear hr
        obtain ⟨v67, e67, hr⟩ := hq
        refine wo_step (v := v67) (s_pure (o_nilm rfl e67)) ?_
        have hq := bindO_inv hr
        clear hr
        obtain ⟨v68, e68, hr⟩ := hq
        refine wo_step (v := v68) (s_pure (o_faddr rfl e68)) ?_
        have hq := bindP_inv hr
        clear hr
        obtain ⟨vn_2, m_9, en_2, hr⟩ := hq
        refine wo_stepN (s_st rfl rfl en_2) ?_
        refine wo_nil ?_
        refine nx_norm ?_
        refine w_seq ?_
        refine w_ops ?_
        refine wo_step (v := v0) (s_pure (p_mv g0)) ?_
        refine wo_step (v := v15) (s_pure (p_mv rfl)) ?_
        have hq := bindP_inv hr
        clear hr
        obtain ⟨v71, m_10, e71, hr⟩ := hq
        have hq := asI_inv hr
        clear hr
        obtain ⟨x71, rfl, hr⟩ := hq
        refine wo_step (v := (.i .i64 x71)) (s_call (mc rfl (mc rfl mn)) (callM_le hM.call e71)) ?_
        refine wo_step (v := (.i .i64 x71)) (s_pure (p_mv rfl)) ?_
        refine wo_step (v := (.i .i64 0)) (s_pure (p_mv rfl)) ?_
        refine wo_nil ?_
        refine nx_norm ?_
        refine w_ret ?_
        exact qf ret_ok (rt rfl (rt rfl rn)) hr

/- (dibber/note.Desk).Sheet -/

def g48 (M : Means) (ro : List ABlk) (v0 : AVal) (x1 : Int) (m0 : Mm) : Option (AVal × Heap × Nat × Nat) :=
  bindP (callM M.call m0 84 [v0, (.i .i64 x1)]) fun v11 m_1 =>
  bindO (evP .e (.ext 0 (.c v11))) fun v12 =>
  bindO (evP .e (.ext 1 (.c v11))) fun v13 =>
  asI .i64 v13 fun x13 =>
  forceB (!eqI x13 0) fun c15 =>
  cond c15 (
    finM m0.h.length (tupA [AVal.nsl, (.i .i64 x13)]) m_1) (
    bindO (evP .e (.nilm [("Error", [(8, (104, [])), (10, (106, [])), (11, (108, [])), (14, (110, [])), (19, (117, []))]), ("RuntimeError", [(8, (105, [])), (10, (107, [])), (11, (109, [])), (14, (111, [])), (19, (118, []))]), ("String", [(140, (119, []))])] (.c v12))) fun v18 =>
    bindO (evP .e (.faddr 0 (.c v18))) fun v19 =>
    bindO (ldM ro m_1 true 1 v19) fun v20 =>
    bindP (callM M.call m_1 64 [v20]) fun v21 m_2 =>
    finM m0.h.length (tupA [v21, (.i .i64 0)]) m_2)

theorem g48_ok {ro : List ABlk} {O : Caller} {M : Means} (hM : M.Ok ⟨F, O⟩ ro) {v0 x1 h r} (ho : O 48 [v0, (.i .i64 x1)] h = none) (hr : g48 M ro v0 x1 ⟨h, h.length, h.length⟩ = some r) : callX ⟨F, O⟩ ro 48 [v0, (.i .i64 x1)] h = some r := by
  refine callX_of (F := ⟨F, O⟩) (fn := fn48) (g := g48 M ro v0 x1) ho rfl rfl hr ?_
  clear ho
  clear hr
  intro m0 t0 ht hr
  have g0 : t0.get 0 = v0 := ht 0
  have g1 : t0.get 1 = (.i .i64 x1) := ht 1
  clear ht
  unfold g48 at hr
  refine w_seq ?_
  refine w_ops ?_
  refine wo_step (v := AVal.nsl) (s_pure (p_mv rfl)) ?_
  refine wo_step (v := (.i .i64 0)) (s_pure (p_mv rfl)) ?_
  refine wo_nil ?_
  refine nx_norm ?_
  refine w_seq ?_
  refine w_ops ?_
  refine wo_step (v := v0) (s_pure (p_mv g0)) ?_
  refine wo_step (v := (.i .i64 x1)) (s_pure (p_mv g1)) ?_
  have hq := bindP_inv hr
  clear hr
  obtain ⟨v11, m_1, e11, hr⟩ := hq
  refine wo_step (v := v11) (s_call (mc rfl (mc rfl mn)) (callM_le hM.call e11)) ?_
  refine wo_step (v := v11) (s_pure (p_mv rfl)) ?_
  have hq := bindO_inv hr
  clear hr
  obtain ⟨v12, e12, hr⟩ := hq
  refine wo_step (v := v12) (s_pure (o_ext rfl e12)) ?_
  have hq := bindO_inv hr
  clear hr
  obtain ⟨v13, e13, hr⟩ := hq
  have hq := asI_inv hr
  clear hr
  obtain ⟨x13, rfl, hr⟩ := hq
  refine wo_step (v := (.i .i64 x13)) (s_pure (o_ext rfl e13)) ?_
  refine wo_step (v := v12) (s_pure (p_mv rfl)) ?_
  refine wo_step (v := (.i .i64 x13)) (s_pure (p_mv rfl)) ?_
  refine wo_nil ?_
  refine nx_norm ?_
  refine w_seq ?_
  refine w_seq ?_
  refine w_ops ?_
  refine wo_step (v := (.i .i64 x13)) (s_pure (p_mv rfl)) ?_
  have hq := forceB_inv hr
  clear hr
  obtain ⟨c15, e15, hr⟩ := hq
  refine wo_step (v := (.b c15)) (s_pure (p_bin rfl rfl (b_neq.trans (cb e15)))) ?_
  refine wo_nil ?_
  refine nx_norm ?_
  have hq := cond_inv hr
  clear hr
  rcases hq with ⟨rfl, hr⟩ | ⟨rfl, hr⟩
  · refine w_condT rfl ?_
    refine w_seq ?_
    refine w_ops ?_
    refine wo_step (v := (.i .i64 x13)) (s_pure (p_mv rfl)) ?_
    refine wo_step (v := AVal.nsl) (s_pure (p_mv rfl)) ?_
    refine wo_step (v := (.i .i64 x13)) (s_pure (p_mv rfl)) ?_
    refine wo_nil ?_
    refine nx_norm ?_
    refine w_ret ?_
    refine nx_ret ?_
    exact qf ret_ok (rt rfl (rt rfl rn)) hr
  · refine w_condF rfl ?_
    refine w_skip ?_
    refine nx_norm ?_
    refine w_seq ?_
    refine w_ops ?_
    refine wo_step (v := v12) (s_pure (p_mv rfl)) ?_
    have hq := bindO_inv hr
    clear hr
    obtain ⟨v18, e18, hr⟩ := hq
    refine wo_step (v := v18) (s_pure (o_nilm rfl e18)) ?_
    have hq := bindO_inv hr
    clear hr
    obtain ⟨v19, e19, hr⟩ := hq
    refine wo_step (v := v19) (s_pure (o_faddr rfl e19)) ?_
    have hq := bindO_inv hr
    clear hr
    obtain ⟨v20, e20, hr⟩ := hq
    refine wo_step (v := v20) (s_ld rfl e20) ?_
    have hq := bindP_inv hr
    clear hr
    obtain ⟨v21, m_2, e21, hr⟩ := hq
    refine wo_step (v := v21) (s_call (mc rfl mn) (callM_le hM.call e21)) ?_
    refine wo_step (v := v21) (s_pure (p_mv rfl)) ?_
    refine wo_step (v := (.i .i64 0)) (s_pure (p_mv rfl)) ?_
    refine wo_nil ?_
    refine nx_norm ?_
    refine w_ret ?_
    exact qf ret_ok (rt rfl (rt rfl rn)) hr

/- (dibber/note.Desk).Waiting -/

def g49 (M : Means) (ro : List ABlk) (v0 : AVal) (x1 : Int) (m0 : Mm) : Option (AVal × Heap × Nat × Nat) :=
  bindP (callM M.call m0 84 [v0, (.i .i64 x1)]) fun v12 m_1 =>
  bindO (evP .e (.ext 0 (.c v12))) fun v13 =>
  bindO (evP .e (.ext 1 (.c v12))) fun v14 =>
  asI .i64 v14 fun x14 =>
  forceB (!eqI x14 0) fun c16 =>
  cond c16 (
    finM m0.h.length (tupA [(.i .i64 0), (.i .i64 0), (.i .i64 x14)]) m_1) (
    bindO (some (Mm.base m_1)) fun m_2 =>
    bindO (evP .e (.nilm [("Error", [(8, (104, [])), (10, (106, [])), (11, (108, [])), (14, (110, [])), (19, (117, []))]), ("RuntimeError", [(8, (105, [])), (10, (107, [])), (11, (109, [])), (14, (111, [])), (19, (118, []))]), ("String", [(140, (119, []))])] (.c v13))) fun v19 =>
    bindO (evP .e (.faddr 1 (.c v19))) fun v20 =>
    bindO (ldA ro m_1.h true 1 v20) fun v21 =>
    bindO (evP .e (.len false (.c v21))) fun v22 =>
    asI .i64 v22 fun x22 =>
    bindP (callM M.call m_2 85 [v0, v13]) fun v25 m_3 =>
    asI .i64 v25 fun x25 =>
    chk (!Nat.blt m_3.lw m_1.h.length) <|
    bindO (some (Mm.join m_1 m_3)) fun m_4 =>
    finM m0.h.length (tupA [(.i .i64 x22), (.i .i64 x25), (.i .i64 0)]) m_4)

theorem g49_ok {ro : List ABlk} {O : Caller} {M : Means} (hM : M.Ok ⟨F, O⟩ ro) {v0 x1 h r} (ho : O 49 [v0, (.i .i64 x1)] h = none) (hr : g49 M ro v0 x1 ⟨h, h.length, h.length⟩ = some r) : callX ⟨F, O⟩ ro 49 [v0, (.i .i64 x1)] h = some r := by
  refine callX_of (F := ⟨F, O⟩) (fn := fn49) (g := g49 M ro v0 x1) ho rfl rfl hr ?_
  clear ho
  clear hr
  intro m0 t0 ht hr
  have g0 : t0.get 0 = v0 := ht 0
  have g1 : t0.get 1 = (.i .i64 x1) := ht 1
  clear ht
  unfold g49 at hr
  refine w_seq ?_
  refine w_ops ?_
  refine wo_step (v := (.i .i64 0)) (s_pure (p_mv rfl)) ?_
  refine wo_step (v := (.i .i64 0)) (s_pure (p_mv rfl)) ?_
  refine wo_step (v := (.i .i64 0)) (s_pure (p_mv rfl)) ?_
  refine wo_nil ?_
  refine nx_norm ?_
  refine w_seq ?_
  refine w_ops ?_
  refine wo_step (v := v0) (s_pure (p_mv g0)) ?_
  refine wo_step (v := (.i .i64 x1)) (s_pure (p_mv g1)) ?_
  have hq := bindP_inv hr
  clear hr
  obtain ⟨v12, m_1, e12, hr⟩ := hq
  refine wo_step (v := v12) (s_call (mc rfl (mc rfl mn)) (callM_le hM.call e12)) ?_
  refine wo_step (v := v12) (s_pure (p_mv rfl)) ?_
  have hq := bindO_inv hr
  clear hr
  obtain ⟨v13, e13, hr⟩ := hq
  refine wo_step (v := v13) (s_pure (o_ext rfl e13)) ?_
  have hq := bindO_inv hr
  clear hr
  obtain ⟨v14, e14, hr⟩ := hq
  have hq := asI_inv hr
  clear hr
  obtain ⟨x14, rfl, hr⟩ := hq
  refine wo_step (v := (.i .i64 x14)) (s_pure (o_ext rfl e14)) ?_
  refine wo_step (v := v13) (s_pure (p_mv rfl)) ?_
  refine wo_step (v := (.i .i64 x14)) (s_pure (p_mv rfl)) ?_
  refine wo_nil ?_
  refine nx_norm ?_
  refine w_seq ?_
  refine w_seq ?_
  refine w_ops ?_
  refine wo_step (v := (.i .i64 x14)) (s_pure (p_mv rfl)) ?_
  have hq := forceB_inv hr
  clear hr
  obtain ⟨c16, e16, hr⟩ := hq
  refine wo_step (v := (.b c16)) (s_pure (p_bin rfl rfl (b_neq.trans (cb e16)))) ?_
  refine wo_nil ?_
  refine nx_norm ?_
  have hq := cond_inv hr
  clear hr
  rcases hq with ⟨rfl, hr⟩ | ⟨rfl, hr⟩
  · refine w_condT rfl ?_
    refine w_seq ?_
    refine w_ops ?_
    refine wo_step (v := (.i .i64 x14)) (s_pure (p_mv rfl)) ?_
    refine wo_step (v := (.i .i64 0)) (s_pure (p_mv rfl)) ?_
    refine wo_step (v := (.i .i64 0)) (s_pure (p_mv rfl)) ?_
    refine wo_step (v := (.i .i64 x14)) (s_pure (p_mv rfl)) ?_
    refine wo_nil ?_
    refine nx_norm ?_
    refine w_ret ?_
    refine nx_ret ?_
    exact qf ret_ok (rt rfl (rt rfl (rt rfl rn))) hr
  · refine w_condF rfl ?_
    refine w_skip ?_
    refine nx_norm ?_
    refine w_seq ?_
    have hq := bindO_inv hr
    clear hr
    obtain ⟨m_2, ef, hr⟩ := hq
    refine w_flt (af := true) rfl ef ?_
    refine wf_step (v := v13) (f_P rfl (s_pure (p_mv rfl))) ?_
    have hq := bindO_inv hr
    clear hr
    obtain ⟨v19, e19, hr⟩ := hq
    refine wf_step (v := v19) (f_P rfl (s_pure (o_nilm rfl e19))) ?_
    have hq := bindO_inv hr
    clear hr
    obtain ⟨v20, e20, hr⟩ := hq
    refine wf_step (v := v20) (f_P rfl (s_pure (o_faddr rfl e20))) ?_
    have hq := bindO_inv hr
    clear hr
    obtain ⟨v21, e21, hr⟩ := hq
    refine wf_step (v := v21) (f_ld rfl e21) ?_
    have hq := bindO_inv hr
    clear hr
    obtain ⟨v22, e22, hr⟩ := hq
    have hq := asI_inv hr
    clear hr
    obtain ⟨x22, rfl, hr⟩ := hq
    refine wf_step (v := (.i .i64 x22)) (f_P rfl (s_pure (o_len rfl e22))) ?_
    refine wf_step (v := v0) (f_P rfl (s_pure (p_mv g0))) ?_
    refine wf_step (v := v13) (f_P rfl (s_pure (p_mv rfl))) ?_
    have hq := bindP_inv hr
    clear hr
    obtain ⟨v25, m_3, e25, hr⟩ := hq
    have hq := asI_inv hr
    clear hr
    obtain ⟨x25, rfl, hr⟩ := hq
    have hq := chk_inv hr
    clear hr
    obtain ⟨hc25, hr⟩ := hq
    refine wf_step (v := (.i .i64 x25)) (f_M hc25 (s_call (mc rfl (mc rfl mn)) (callM_le hM.call e25))) ?_
    refine wf_step (v := (.i .i64 x22)) (f_P rfl (s_pure (p_mv rfl))) ?_
    refine wf_step (v := (.i .i64 x25)) (f_P rfl (s_pure (p_mv rfl))) ?_
    refine wf_step (v := (.i .i64 0)) (f_P rfl (s_pure (p_mv rfl))) ?_
    have hq := bindO_inv hr
    clear hr
    obtain ⟨m_4, ef_1, hr⟩ := hq
    refine wf_end ef_1 ?_
    refine nx_norm ?_
    refine w_ret ?_
    exact qf ret_ok (rt rfl (rt rfl (rt rfl rn))) hr

/- (dibber/note.Desk).Put -/

def g50 (M : Means) (ro : List ABlk) (v0 : AVal) (x1 : Int) (x2 : Int) (x3 : Int) (m0 : Mm) : Option (AVal × Heap × Nat × Nat) :=
  bindO ((fillA [(AVal.i IntKind.i64 0), (AVal.i IntKind.i64 0), (AVal.i IntKind.u8 0), (AVal.i IntKind.i64 0)] [((0, 1), (.i .i64 1)), ((1, 1), (.i .i64 x2)), ((2, 1), (.i .u8 x3)), ((3, 1), (.i .i64 x1))]).map AVal.agg) fun v14 =>
  bindP (callM M.call m0 86 [v0, (.i .i64 x1), v14]) fun v15 m_1 =>
  asI .i64 v15 fun x15 =>
  finM m0.h.length (tupA [(.i .i64 x15)]) m_1

theorem g50_ok {ro : List ABlk} {O : Caller} {M : Means} (hM : M.Ok ⟨F, O⟩ ro) {v0 x1 x2 x3 h r} (ho : O 50 [v0, (.i .i64 x1), (.i .i64 x2), (.i .u8 x3)] h = none) (hr : g50 M ro v0 x1 x2 x3 ⟨h, h.length, h.length⟩ = some r) : callX ⟨F, O⟩ ro 50 [v0, (.i .i64 x1), (.i .i64 x2), (.i .u8 x3)] h = some r := by
  refine callX_of (F := ⟨F, O⟩) (fn := fn50) (g := g50 M ro v0 x1 x2 x3) ho rfl rfl hr ?_
  clear ho
  clear hr
  intro m0 t0 ht hr
  have g0 : t0.get 0 = v0 := ht 0
  have g1 : t0.get 1 = (.i .i64 x1) := ht 1
  have g2 : t0.get 2 = (.i .i64 x2) := ht 2
  have g3 : t0.get 3 = (.i .u8 x3) := ht 3
  clear ht
  unfold g50 at hr
  refine w_seq ?_
  refine w_ops ?_
  refine wo_step (v := (.i .i64 0)) (s_pure (p_mv rfl)) ?_
  refine wo_nil ?_
  refine nx_norm ?_
  refine w_seq ?_
  refine w_ops ?_
  refine wo_step (v := v0) (s_pure (p_mv g0)) ?_
  refine wo_step (v := (.i .i64 x1)) (s_pure (p_mv g1)) ?_
  refine wo_step (v := (.i .i64 x2)) (s_pure (p_mv g2)) ?_
  refine wo_step (v := (.i .u8 x3)) (s_pure (p_mv g3)) ?_
  refine wo_step (v := (.i .i64 x1)) (s_pure (p_mv g1)) ?_
  have hq := bindO_inv hr
  clear hr
  obtain ⟨v14, e14, hr⟩ := hq
  refine wo_step (v := v14) (s_pure (o_build (qc rfl (qc rfl (qc rfl (qc rfl qn)))) e14)) ?_
  have hq := bindP_inv hr
  clear hr
  obtain ⟨v15, m_1, e15, hr⟩ := hq
  have hq := asI_inv hr
  clear hr
  obtain ⟨x15, rfl, hr⟩ := hq
  refine wo_step (v := (.i .i64 x15)) (s_call (mc rfl (mc rfl (mc rfl mn))) (callM_le hM.call e15)) ?_
  refine wo_step (v := (.i .i64 x15)) (s_pure (p_mv rfl)) ?_
  refine wo_nil ?_
  refine nx_norm ?_
  refine w_ret ?_
  exact qf ret_ok (rt rfl rn) hr

/- (dibber/note.Desk).Hide -/

def g51 (M : Means) (ro : List ABlk) (v0 : AVal) (x1 : Int) (x2 : Int) (m0 : Mm) : Option (AVal × Heap × Nat × Nat) :=
  bindO ((fillA [(AVal.i IntKind.i64 0), (AVal.i IntKind.i64 0), (AVal.i IntKind.u8 0), (AVal.i IntKind.i64 0)] [((0, 1), (.i .i64 2)), ((1, 1), (.i .i64 x2))]).map AVal.agg) fun v10 =>
  bindP (callM M.call m0 86 [v0, (.i .i64 x1), v10]) fun v11 m_1 =>
  asI .i64 v11 fun x11 =>
  finM m0.h.length (tupA [(.i .i64 x11)]) m_1

theorem g51_ok {ro : List ABlk} {O : Caller} {M : Means} (hM : M.Ok ⟨F, O⟩ ro) {v0 x1 x2 h r} (ho : O 51 [v0, (.i .i64 x1), (.i .i64 x2)] h = none) (hr : g51 M ro v0 x1 x2 ⟨h, h.length, h.length⟩ = some r) : callX ⟨F, O⟩ ro 51 [v0, (.i .i64 x1), (.i .i64 x2)] h = some r := by
  refine callX_of (F := ⟨F, O⟩) (fn := fn51) (g := g51 M ro v0 x1 x2) ho rfl rfl hr ?_
  clear ho
  clear hr
  intro m0 t0 ht hr
  have g0 : t0.get 0 = v0 := ht 0
  have g1 : t0.get 1 = (.i .i64 x1) := ht 1
  have g2 : t0.get 2 = (.i .i64 x2) := ht 2
  clear ht
  unfold g51 at hr
  refine w_seq ?_
  refine w_ops ?_
  refine wo_step (v := (.i .i64 0)) (s_pure (p_mv rfl)) ?_
  refine wo_nil ?_
  refine nx_norm ?_
  refine w_seq ?_
  refine w_ops ?_
  refine wo_step (v := v0) (s_pure (p_mv g0)) ?_
  refine wo_step (v := (.i .i64 x1)) (s_pure (p_mv g1)) ?_
  refine wo_step (v := (.i .i64 x2)) (s_pure (p_mv g2)) ?_
  have hq := bindO_inv hr
  clear hr
  obtain ⟨v10, e10, hr⟩ := hq
  refine wo_step (v := v10) (s_pure (o_build (qc rfl (qc rfl qn)) e10)) ?_
  have hq := bindP_inv hr
  clear hr
  obtain ⟨v11, m_1, e11, hr⟩ := hq
  have hq := asI_inv hr
  clear hr
  obtain ⟨x11, rfl, hr⟩ := hq
  refine wo_step (v := (.i .i64 x11)) (s_call (mc rfl (mc rfl (mc rfl mn))) (callM_le hM.call e11)) ?_
  refine wo_step (v := (.i .i64 x11)) (s_pure (p_mv rfl)) ?_
  refine wo_nil ?_
  refine nx_norm ?_
  refine w_ret ?_
  exact qf ret_ok (rt rfl rn) hr

/- (dibber/note.Desk).Settle -/
abbrev g52_I0 (v0 : AVal) (s : Int × Mm) (m1 : Mm) (t1 : Tr) : Prop :=
  match s with
  | (x3, m_2) => m_2 = m1 ∧ t1.get 3 = (.i .i64 x3) ∧ t1.get 0 = v0
abbrev g52_J0 (v0 : AVal) (o : (Int × Mm)) (e : AExit) (m1 : Mm) (t1 : Tr) : Prop :=
  match o with
  | (y2, mo) => e = .ret ∧ mo = m1 ∧ t1.get 2 = (.i .i64 y2)
def g52_b0 (M : Means) (ro : List ABlk) (v0 : AVal) (x3 : Int) (m_2 : Mm) : Option ((Int × Mm) ⊕ ((Int × Mm))) :=
  bindP (callM M.call m_2 87 [v0]) fun v8 m_3 =>
  asI .i64 v8 fun x8 =>
  forceB (eqI x8 0) fun c10 =>
  cond c10 (
    some (.inr (x3, m_3))) (
    forceI (wr .i64 (x3 + x8)) fun x14 =>
    some (.inl (x14, m_3)))
def g52 (M : Means) (ro : List ABlk) (v0 : AVal) (m0 : Mm) : Option (AVal × Heap × Nat × Nat) :=
  bindP (callM M.call m0 83 [v0]) fun v6 m_1 =>
  asB v6 fun c6 =>
  cond c6 (
    finM m0.h.length (tupA [(.i .i64 0)]) m_1) (
    bindO (M.loop (S := Int × Mm) (R := (Int × Mm)) (fun s => g52_b0 M ro v0 s.1 s.2) (0, m_1)) fun ⟨x2, m_4⟩ =>
    finM m0.h.length (tupA [(.i .i64 x2)]) m_4)

theorem g52_ok {ro : List ABlk} {O : Caller} {M : Means} (hM : M.Ok ⟨F, O⟩ ro) {v0 h r} (ho : O 52 [v0] h = none) (hr : g52 M ro v0 ⟨h, h.length, h.length⟩ = some r) : callX ⟨F, O⟩ ro 52 [v0] h = some r := by
  refine callX_of (F := ⟨F, O⟩) (fn := fn52) (g := g52 M ro v0) ho rfl rfl hr ?_
  clear ho
  clear hr
  intro m0 t0 ht hr
  have g0 : t0.get 0 = v0 := ht 0
  clear ht
  unfold g52 at hr
  refine w_seq ?_
  refine w_ops ?_
  refine wo_step (v := (.i .i64 0)) (s_pure (p_mv rfl)) ?_
  refine wo_nil ?_
  refine nx_norm ?_
  refine w_seq ?_
  refine w_seq ?_
  refine w_ops ?_
  refine wo_step (v := v0) (s_pure (p_mv g0)) ?_
  have hq := bindP_inv hr
  clear hr
  obtain ⟨v6, m_1, e6, hr⟩ := hq
  have hq := asB_inv hr
  clear hr
  obtain ⟨c6, rfl, hr⟩ := hq
  refine wo_step (v := (.b c6)) (s_call (mc rfl mn) (callM_le hM.call e6)) ?_
  refine wo_nil ?_
  refine nx_norm ?_
  have hq := cond_inv hr
  clear hr
  rcases hq with ⟨rfl, hr⟩ | ⟨rfl, hr⟩
  · refine w_condT rfl ?_
    refine w_seq ?_
    refine w_ops ?_
    refine wo_step (v := (.i .i64 0)) (s_pure (p_mv rfl)) ?_
    refine wo_nil ?_
    refine nx_norm ?_
    refine w_ret ?_
    refine nx_ret ?_
    exact qf ret_ok (rt rfl rn) hr
  · refine w_condF rfl ?_
    refine w_skip ?_
    refine nx_norm ?_
    refine w_seq ?_
    refine w_ops ?_
    refine wo_step (v := (.i .i64 0)) (s_pure (p_mv rfl)) ?_
    refine wo_nil ?_
    refine nx_norm ?_
    refine w_block ?_
    have hq := bindO_inv hr
    clear hr
    obtain ⟨o, hl, hr⟩ := hq
    obtain ⟨n, hl⟩ := hM.loop _ _ _ hl
    refine jp_mono (w_loop _ (g52_I0 v0) (g52_J0 v0) ?_ n _ _ _ _ hl ⟨rfl, gl rfl, gl g0⟩) ?_
    · clear hr hl
      intro s mm_1 t_1 o hi hr
      obtain ⟨x3, m_2⟩ := s
      obtain ⟨rfl, g3, g0⟩ := hi
      unfold g52_b0 at hr
      refine w_block ?_
      refine w_seq ?_
      refine w_ops ?_
      refine wo_step (v := v0) (s_pure (p_mv g0)) ?_
      have hq := bindP_inv hr
      clear hr
      obtain ⟨v8, m_3, e8, hr⟩ := hq
      have hq := asI_inv hr
      clear hr
      obtain ⟨x8, rfl, hr⟩ := hq
      refine wo_step (v := (.i .i64 x8)) (s_call (mc rfl mn) (callM_le hM.call e8)) ?_
      refine wo_step (v := (.i .i64 x8)) (s_pure (p_mv rfl)) ?_
      refine wo_nil ?_
      refine nx_norm ?_
      refine w_seq ?_
      refine w_seq ?_
      refine w_ops ?_
      refine wo_step (v := (.i .i64 x8)) (s_pure (p_mv rfl)) ?_
      have hq := forceB_inv hr
      clear hr
      obtain ⟨c10, e10, hr⟩ := hq
      refine wo_step (v := (.b c10)) (s_pure (p_bin rfl rfl (b_eql.trans (cb e10)))) ?_
      refine wo_nil ?_
      refine nx_norm ?_
      have hq := cond_inv hr
      clear hr
      rcases hq with ⟨rfl, hr⟩ | ⟨rfl, hr⟩
      · refine w_condT rfl ?_
        refine w_seq ?_
        refine w_ops ?_
        refine wo_step (v := (.i .i64 x3)) (s_pure (p_mv g3)) ?_
        refine wo_step (v := (.i .i64 x3)) (s_pure (p_mv rfl)) ?_
        refine wo_nil ?_
        refine nx_norm ?_
        refine w_ret ?_
        refine nx_ret ?_
        refine bk_ret ?_
        cases hr
        exact ⟨_, _, rfl, ne_norm_ret, rfl, rfl, gl rfl⟩
      · refine w_condF rfl ?_
        refine w_skip ?_
        refine nx_norm ?_
        refine w_ops ?_
        refine wo_step (v := (.i .i64 x3)) (s_pure (p_mv g3)) ?_
        refine wo_step (v := (.i .i64 x8)) (s_pure (p_mv rfl)) ?_
        have hq := forceI_inv hr
        clear hr
        obtain ⟨x14, e14, hr⟩ := hq
        refine wo_step (v := (.i .i64 x14)) (s_pure (p_bin rfl rfl (b_add.trans (ci e14)))) ?_
        refine wo_step (v := (.i .i64 x14)) (s_pure (p_mv rfl)) ?_
        refine wo_nil ?_
        refine bk_norm ?_
        cases hr
        exact ⟨_, _, rfl, rfl, rfl, gl rfl, gl g0⟩
    · obtain ⟨x2, m_4⟩ := o
      rintro _ mm t_2 ⟨rfl, rfl, g2⟩
      refine bk_ret ?_
      exact qf ret_ok (rt g2 rn) hr

/- dibber/dibberref07.Fits -/
abbrev g59_J0 (v2 : AVal) (m_1 : Mm) (o : Bool) (m1 : Mm) (t1 : Tr) : Prop :=
  match o with
  | c22 => m_1 = m1 ∧ t1.get 22 = (.b c22) ∧ t1.get 2 = v2
abbrev g59_J1 (v2 : AVal) (m_1 : Mm) (o : Bool) (m1 : Mm) (t1 : Tr) : Prop :=
  match o with
  | c27 => m_1 = m1 ∧ t1.get 27 = (.b c27) ∧ t1.get 2 = v2
abbrev g59_J2 (v2 : AVal) (m_1 : Mm) (o : Bool) (m1 : Mm) (t1 : Tr) : Prop :=
  match o with
  | c32 => m_1 = m1 ∧ t1.get 32 = (.b c32) ∧ t1.get 2 = v2
abbrev g59_J3 (v2 : AVal) (m_1 : Mm) (o : Bool) (m1 : Mm) (t1 : Tr) : Prop :=
  match o with
  | c37 => m_1 = m1 ∧ t1.get 37 = (.b c37) ∧ t1.get 2 = v2
abbrev g59_J4 (m_1 : Mm) (o : Bool) (m1 : Mm) (t1 : Tr) : Prop :=
  match o with
  | c42 => m_1 = m1 ∧ t1.get 42 = (.b c42)
abbrev g59_J5 (v2 : AVal) (m_1 : Mm) (o : Bool) (m1 : Mm) (t1 : Tr) : Prop :=
  match o with
  | c53 => m_1 = m1 ∧ t1.get 53 = (.b c53) ∧ t1.get 2 = v2
abbrev g59_J6 (v2 : AVal) (m_1 : Mm) (o : Bool) (m1 : Mm) (t1 : Tr) : Prop :=
  match o with
  | c58 => m_1 = m1 ∧ t1.get 58 = (.b c58) ∧ t1.get 2 = v2
abbrev g59_J7 (m_1 : Mm) (o : Bool) (m1 : Mm) (t1 : Tr) : Prop :=
  match o with
  | c63 => m_1 = m1 ∧ t1.get 63 = (.b c63)
def g59 (M : Means) (ro : List ABlk) (v0 : AVal) (x1 : Int) (m0 : Mm) : Option (AVal × Heap × Nat × Nat) :=
  bindP (stepM ro m0 (.bx 24 4 (.c v0))) fun v2 m_1 =>
  bindO (evP .e (.faddr 0 (.c v2))) fun v5 =>
  bindO (ldM ro m_1 true 1 v5) fun v6 =>
  asI .i64 v6 fun x6 =>
  forceB (eqI x6 0) fun c8 =>
  cond c8 (
    bindO (ldM ro m_1 false 4 v2) fun v9 =>
    bindO ((fillA [(AVal.i IntKind.i64 0), (AVal.i IntKind.i64 0), (AVal.i IntKind.u8 0), (AVal.i IntKind.i64 0)] []).map AVal.agg) fun v10 =>
    bindO (evP .e (.seq false [(0, false), (1, false), (2, false), (3, false)] (.c v9) (.c v10))) fun v11 =>
    asB v11 fun c11 =>
    finM m0.h.length (tupA [(.b c11)]) m_1) (
    forceB (eqI x6 1) fun c13 =>
    cond c13 (
      bindO (evP .e (.faddr 1 (.c v2))) fun v14 =>
      bindO (ldM ro m_1 true 1 v14) fun v15 =>
      asI .i64 v15 fun x15 =>
      forceB (!ltI x15 0) fun c16 =>
      bindO (cond c16 (
        bindO (evP .e (.faddr 1 (.c v2))) fun v18 =>
        bindO (ldM ro m_1 true 1 v18) fun v19 =>
        asI .i64 v19 fun x19 =>
        forceB (!ltI x1 x19) fun c21 =>
        some c21) (
        some false)) fun c22 =>
      bindO (cond c22 (
        bindO (evP .e (.faddr 2 (.c v2))) fun v24 =>
        bindO (ldM ro m_1 true 1 v24) fun v25 =>
        asI .u8 v25 fun x25 =>
        forceB (!ltI x25 97) fun c26 =>
        some c26) (
        some false)) fun c27 =>
      bindO (cond c27 (
        bindO (evP .e (.faddr 2 (.c v2))) fun v29 =>
        bindO (ldM ro m_1 true 1 v29) fun v30 =>
        asI .u8 v30 fun x30 =>
        forceB (!ltI 122 x30) fun c31 =>
        some c31) (
        some false)) fun c32 =>
      bindO (cond c32 (
        bindO (evP .e (.faddr 3 (.c v2))) fun v34 =>
        bindO (ldM ro m_1 true 1 v34) fun v35 =>
        asI .i64 v35 fun x35 =>
        forceB (!ltI x35 0) fun c36 =>
        some c36) (
        some false)) fun c37 =>
      bindO (cond c37 (
        bindO (evP .e (.faddr 3 (.c v2))) fun v39 =>
        bindO (ldM ro m_1 true 1 v39) fun v40 =>
        asI .i64 v40 fun x40 =>
        forceB (ltI x40 5) fun c41 =>
        some c41) (
        some false)) fun c42 =>
      finM m0.h.length (tupA [(.b c42)]) m_1) (
      forceB (eqI x6 2) fun c44 =>
      cond c44 (
        bindO (evP .e (.faddr 1 (.c v2))) fun v45 =>
        bindO (ldM ro m_1 true 1 v45) fun v46 =>
        asI .i64 v46 fun x46 =>
        forceB (!ltI x46 0) fun c47 =>
        bindO (cond c47 (
          bindO (evP .e (.faddr 1 (.c v2))) fun v49 =>
          bindO (ldM ro m_1 true 1 v49) fun v50 =>
          asI .i64 v50 fun x50 =>
          forceB (ltI x50 x1) fun c52 =>
          some c52) (
          some false)) fun c53 =>
        bindO (cond c53 (
          bindO (evP .e (.faddr 2 (.c v2))) fun v55 =>
          bindO (ldM ro m_1 true 1 v55) fun v56 =>
          asI .u8 v56 fun x56 =>
          forceB (eqI x56 0) fun c57 =>
          some c57) (
          some false)) fun c58 =>
        bindO (cond c58 (
          bindO (evP .e (.faddr 3 (.c v2))) fun v60 =>
          bindO (ldM ro m_1 true 1 v60) fun v61 =>
          asI .i64 v61 fun x61 =>
          forceB (eqI x61 0) fun c62 =>
          some c62) (
          some false)) fun c63 =>
        finM m0.h.length (tupA [(.b c63)]) m_1) (
        finM m0.h.length (tupA [(.b false)]) m_1)))

theorem g59_ok {ro : List ABlk} {O : Caller} {M : Means} (hM : M.Ok ⟨F, O⟩ ro) {v0 x1 h r} (ho : O 59 [v0, (.i .i64 x1)] h = none) (hr : g59 M ro v0 x1 ⟨h, h.length, h.length⟩ = some r) : callX ⟨F, O⟩ ro 59 [v0, (.i .i64 x1)] h = some r := by
  refine callX_of (F := ⟨F, O⟩) (fn := fn59) (g := g59 M ro v0 x1) ho rfl rfl hr ?_
  clear ho
  clear hr
  intro m0 t0 ht hr
  have g0 : t0.get 0 = v0 := ht 0
  have g1 : t0.get 1 = (.i .i64 x1) := ht 1
  clear ht
  unfold g59 at hr
  refine w_seq ?_
  refine w_ops ?_
  have hq := bindP_inv hr
  clear hr
  obtain ⟨v2, m_1, e2, hr⟩ := hq
  refine wo_step (v := v2) (s_bx g0 e2) ?_
  refine wo_step (v := (.b false)) (s_pure (p_mv rfl)) ?_
  refine wo_nil ?_
  refine nx_norm ?_
  refine w_seq ?_
  refine w_seq ?_
  refine w_ops ?_
  have hq := bindO_inv hr
  clear hr
  obtain ⟨v5, e5, hr⟩ := hq
  refine wo_step (v := v5) (s_pure (o_faddr rfl e5)) ?_
  have hq := bindO_inv hr
  clear hr
  obtain ⟨v6, e6, hr⟩ := hq
  have hq := asI_inv hr
  clear hr
  obtain ⟨x6, rfl, hr⟩ := hq
  refine wo_step (v := (.i .i64 x6)) (s_ld rfl e6) ?_
  refine wo_nil ?_
  refine nx_norm ?_
  refine w_block ?_
  refine w_seq ?_
  refine w_ops ?_
  have hq := forceB_inv hr
  clear hr
  obtain ⟨c8, e8, hr⟩ := hq
  refine wo_step (v := (.b c8)) (s_pure (p_bin rfl rfl (b_eql.trans (cb e8)))) ?_
  refine wo_step (v := (.b c8)) (s_pure (p_mv rfl)) ?_
  refine wo_nil ?_
  refine nx_norm ?_
  have hq := cond_inv hr
  clear hr
  rcases hq with ⟨rfl, hr⟩ | ⟨rfl, hr⟩
  · refine w_condT rfl ?_
    refine w_seq ?_
    refine w_ops ?_
    have hq := bindO_inv hr
    clear hr
    obtain ⟨v9, e9, hr⟩ := hq
    refine wo_step (v := v9) (s_ld rfl e9) ?_
    have hq := bindO_inv hr
    clear hr
    obtain ⟨v10, e10, hr⟩ := hq
    refine wo_step (v := v10) (s_pure (o_build qn e10)) ?_
    have hq := bindO_inv hr
    clear hr
    obtain ⟨v11, e11, hr⟩ := hq
    have hq := asB_inv hr
    clear hr
    obtain ⟨c11, rfl, hr⟩ := hq
    refine wo_step (v := (.b c11)) (s_pure (o_seq rfl rfl e11)) ?_
    refine wo_step (v := (.b c11)) (s_pure (p_mv rfl)) ?_
    refine wo_nil ?_
    refine nx_norm ?_
    refine w_ret ?_
    refine bk_ret ?_
    refine nx_ret ?_
    exact qf ret_ok (rt rfl rn) hr
  · refine w_condF rfl ?_
    refine w_seq ?_
    refine w_ops ?_
    have hq := forceB_inv hr
    clear hr
    obtain ⟨c13, e13, hr⟩ := hq
    refine wo_step (v := (.b c13)) (s_pure (p_bin rfl rfl (b_eql.trans (cb e13)))) ?_
    refine wo_step (v := (.b c13)) (s_pure (p_mv rfl)) ?_
    refine wo_nil ?_
    refine nx_norm ?_
    have hq := cond_inv hr
    clear hr
    rcases hq with ⟨rfl, hr⟩ | ⟨rfl, hr⟩
    · refine w_condT rfl ?_
      refine w_seq ?_
      refine w_ops ?_
      have hq := bindO_inv hr
      clear hr
      obtain ⟨v14, e14, hr⟩ := hq
      refine wo_step (v := v14) (s_pure (o_faddr rfl e14)) ?_
      have hq := bindO_inv hr
      clear hr
      obtain ⟨v15, e15, hr⟩ := hq
      have hq := asI_inv hr
      clear hr
      obtain ⟨x15, rfl, hr⟩ := hq
      refine wo_step (v := (.i .i64 x15)) (s_ld rfl e15) ?_
      have hq := forceB_inv hr
      clear hr
      obtain ⟨c16, e16, hr⟩ := hq
      refine wo_step (v := (.b c16)) (s_pure (p_bin rfl rfl (b_geq.trans (cb e16)))) ?_
      refine wo_step (v := (.b c16)) (s_pure (p_mv rfl)) ?_
      have hq := bindO_inv hr
      clear hr
      obtain ⟨o, hr, hk⟩ := hq
      refine wo_join 5 (g59_J0 v2 m_1 o) ?_ ?_
      · clear hk
        have hq := cond_inv hr
        clear hr
        rcases hq with ⟨rfl, hr⟩ | ⟨rfl, hr⟩
        · have hq := bindO_inv hr
          clear hr
          obtain ⟨v18, e18, hr⟩ := hq
          refine wo_take (v := v18) rfl (s_pure (o_faddr rfl e18)) ?_
          have hq := bindO_inv hr
          clear hr
          obtain ⟨v19, e19, hr⟩ := hq
          have hq := asI_inv hr
          clear hr
          obtain ⟨x19, rfl, hr⟩ := hq
          refine wo_take (v := (.i .i64 x19)) rfl (s_ld rfl e19) ?_
          refine wo_take (v := (.i .i64 x1)) rfl (s_pure (p_mv g1)) ?_
          have hq := forceB_inv hr
          clear hr
          obtain ⟨c21, e21, hr⟩ := hq
          refine wo_take (v := (.b c21)) rfl (s_pure (p_bin rfl rfl (b_leq.trans (cb e21)))) ?_
          refine wo_step (v := (.b c21)) (s_pure (p_pickT rfl rfl)) ?_
          refine wo_nil ?_
          cases hr
          exact ⟨_, _, rfl, rfl, gl rfl, gl rfl⟩
        · refine wo_skip (v := (.b false)) rfl rfl ?_
          refine wo_skip (v := (.b false)) rfl rfl ?_
          refine wo_skip (v := (.b false)) rfl rfl ?_
          refine wo_skip (v := (.b false)) rfl rfl ?_
          refine wo_step (v := (.b false)) (s_pure (p_pickF rfl rfl)) ?_
          refine wo_nil ?_
          cases hr
          exact ⟨_, _, rfl, rfl, gl rfl, gl rfl⟩
      · clear hr
        have hr := hk
        clear hk
        obtain ⟨c22, ho⟩ : ∃ z, z = o := ⟨_, rfl⟩
        subst ho
        rintro mm t_1 ⟨rfl, g22, g2⟩
        refine wo_step (v := (.b c22)) (s_pure (p_mv g22)) ?_
        have hq := bindO_inv hr
        clear hr
        obtain ⟨o_1, hr, hk⟩ := hq
        refine wo_join 4 (g59_J1 v2 m_1 o_1) ?_ ?_
        · clear hk
          have hq := cond_inv hr
          clear hr
          rcases hq with ⟨rfl, hr⟩ | ⟨rfl, hr⟩
          · have hq := bindO_inv hr
            clear hr
            obtain ⟨v24, e24, hr⟩ := hq
            refine wo_take (v := v24) rfl (s_pure (o_faddr g2 e24)) ?_
            have hq := bindO_inv hr
            clear hr
            obtain ⟨v25, e25, hr⟩ := hq
            have hq := asI_inv hr
            clear hr
            obtain ⟨x25, rfl, hr⟩ := hq
            refine wo_take (v := (.i .u8 x25)) rfl (s_ld rfl e25) ?_
            have hq := forceB_inv hr
            clear hr
            obtain ⟨c26, e26, hr⟩ := hq
            refine wo_take (v := (.b c26)) rfl (s_pure (p_bin rfl rfl (b_geq.trans (cb e26)))) ?_
            refine wo_step (v := (.b c26)) (s_pure (p_pickT rfl rfl)) ?_
            refine wo_nil ?_
            cases hr
            exact ⟨_, _, rfl, rfl, gl rfl, gl g2⟩
          · refine wo_skip (v := (.b false)) rfl rfl ?_
            refine wo_skip (v := (.b false)) rfl rfl ?_
            refine wo_skip (v := (.b false)) rfl rfl ?_
            refine wo_step (v := (.b false)) (s_pure (p_pickF rfl rfl)) ?_
            refine wo_nil ?_
            cases hr
            exact ⟨_, _, rfl, rfl, gl rfl, gl g2⟩
        · clear hr
          have hr := hk
          clear hk
          obtain ⟨c27, ho⟩ : ∃ z, z = o_1 := ⟨_, rfl⟩
          subst ho
          rintro mm_1 t_2 ⟨rfl, g27, g2⟩
          refine wo_step (v := (.b c27)) (s_pure (p_mv g27)) ?_
          have hq := bindO_inv hr
          clear hr
          obtain ⟨o_2, hr, hk⟩ := hq
          refine wo_join 4 (g59_J2 v2 m_1 o_2) ?_ ?_
          · clear hk
            have hq := cond_inv hr
            clear hr
            rcases hq with ⟨rfl, hr⟩ | ⟨rfl, hr⟩
            · have hq := bindO_inv hr
              clear hr
              obtain ⟨v29, e29, hr⟩ := hq
              refine wo_take (v := v29) rfl (s_pure (o_faddr g2 e29)) ?_
              have hq := bindO_inv hr
              clear hr
              obtain ⟨v30, e30, hr⟩ := hq
              have hq := asI_inv hr
              clear hr
              obtain ⟨x30, rfl, hr⟩ := hq
              refine wo_take (v := (.i .u8 x30)) rfl (s_ld rfl e30) ?_
              have hq := forceB_inv hr
              clear hr
              obtain ⟨c31, e31, hr⟩ := hq
              refine wo_take (v := (.b c31)) rfl (s_pure (p_bin rfl rfl (b_leq.trans (cb e31)))) ?_
              refine wo_step (v := (.b c31)) (s_pure (p_pickT rfl rfl)) ?_
              refine wo_nil ?_
              cases hr
              exact ⟨_, _, rfl, rfl, gl rfl, gl g2⟩
            · refine wo_skip (v := (.b false)) rfl rfl ?_
              refine wo_skip (v := (.b false)) rfl rfl ?_
              refine wo_skip (v := (.b false)) rfl rfl ?_
              refine wo_step (v := (.b false)) (s_pure (p_pickF rfl rfl)) ?_
              refine wo_nil ?_
              cases hr
              exact ⟨_, _, rfl, rfl, gl rfl, gl g2⟩
          · clear hr
            have hr := hk
            clear hk
            obtain ⟨c32, ho⟩ : ∃ z, z = o_2 := ⟨_, rfl⟩
            subst ho
            rintro mm_2 t_3 ⟨rfl, g32, g2⟩
            refine wo_step (v := (.b c32)) (s_pure (p_mv g32)) ?_
            have hq := bindO_inv hr
            clear hr
            obtain ⟨o_3, hr, hk⟩ := hq
            refine wo_join 4 (g59_J3 v2 m_1 o_3) ?_ ?_
            · clear hk
              have hq := cond_inv hr
              clear hr
              rcases hq with ⟨rfl, hr⟩ | ⟨rfl, hr⟩
              · have hq := bindO_inv hr
                clear hr
                obtain ⟨v34, e34, hr⟩ := hq
                refine wo_take (v := v34) rfl (s_pure (o_faddr g2 e34)) ?_
                have hq := bindO_inv hr
                clear hr
                obtain ⟨v35, e35, hr⟩ := hq
                have hq := asI_inv hr
                clear hr
                obtain ⟨x35, rfl, hr⟩ := hq
                refine wo_take (v := (.i .i64 x35)) rfl (s_ld rfl e35) ?_
                have hq := forceB_inv hr
                clear hr
                obtain ⟨c36, e36, hr⟩ := hq
                refine wo_take (v := (.b c36)) rfl (s_pure (p_bin rfl rfl (b_geq.trans (cb e36)))) ?_
                refine wo_step (v := (.b c36)) (s_pure (p_pickT rfl rfl)) ?_
                refine wo_nil ?_
                cases hr
                exact ⟨_, _, rfl, rfl, gl rfl, gl g2⟩
              · refine wo_skip (v := (.b false)) rfl rfl ?_
                refine wo_skip (v := (.b false)) rfl rfl ?_
                refine wo_skip (v := (.b false)) rfl rfl ?_
                refine wo_step (v := (.b false)) (s_pure (p_pickF rfl rfl)) ?_
                refine wo_nil ?_
                cases hr
                exact ⟨_, _, rfl, rfl, gl rfl, gl g2⟩
            · clear hr
              have hr := hk
              clear hk
              obtain ⟨c37, ho⟩ : ∃ z, z = o_3 := ⟨_, rfl⟩
              subst ho
              rintro mm_3 t_4 ⟨rfl, g37, g2⟩
              refine wo_step (v := (.b c37)) (s_pure (p_mv g37)) ?_
              have hq := bindO_inv hr
              clear hr
              obtain ⟨o_4, hr, hk⟩ := hq
              refine wo_join 4 (g59_J4 m_1 o_4) ?_ ?_
              · clear hk
                have hq := cond_inv hr
                clear hr
                rcases hq with ⟨rfl, hr⟩ | ⟨rfl, hr⟩
                · have hq := bindO_inv hr
                  clear hr
                  obtain ⟨v39, e39, hr⟩ := hq
                  refine wo_take (v := v39) rfl (s_pure (o_faddr g2 e39)) ?_
                  have hq := bindO_inv hr
                  clear hr
                  obtain ⟨v40, e40, hr⟩ := hq
                  have hq := asI_inv hr
                  clear hr
                  obtain ⟨x40, rfl, hr⟩ := hq
                  refine wo_take (v := (.i .i64 x40)) rfl (s_ld rfl e40) ?_
                  have hq := forceB_inv hr
                  clear hr
                  obtain ⟨c41, e41, hr⟩ := hq
                  refine wo_take (v := (.b c41)) rfl (s_pure (p_bin rfl rfl (b_lss.trans (cb e41)))) ?_
                  refine wo_step (v := (.b c41)) (s_pure (p_pickT rfl rfl)) ?_
                  refine wo_nil ?_
                  cases hr
                  exact ⟨_, _, rfl, rfl, gl rfl⟩
                · refine wo_skip (v := (.b false)) rfl rfl ?_
                  refine wo_skip (v := (.b false)) rfl rfl ?_
                  refine wo_skip (v := (.b false)) rfl rfl ?_
                  refine wo_step (v := (.b false)) (s_pure (p_pickF rfl rfl)) ?_
                  refine wo_nil ?_
                  cases hr
                  exact ⟨_, _, rfl, rfl, gl rfl⟩
              · clear hr
                have hr := hk
                clear hk
                obtain ⟨c42, ho⟩ : ∃ z, z = o_4 := ⟨_, rfl⟩
                subst ho
                rintro mm_4 t_5 ⟨rfl, g42⟩
                refine wo_step (v := (.b c42)) (s_pure (p_mv g42)) ?_
                refine wo_nil ?_
                refine nx_norm ?_
                refine w_ret ?_
                refine bk_ret ?_
                refine nx_ret ?_
                exact qf ret_ok (rt rfl rn) hr
    · refine w_condF rfl ?_
      refine w_seq ?_
      refine w_ops ?_
      have hq := forceB_inv hr
      clear hr
      obtain ⟨c44, e44, hr⟩ := hq
      refine wo_step (v := (.b c44)) (s_pure (p_bin rfl rfl (b_eql.trans (cb e44)))) ?_
      refine wo_step (v := (.b c44)) (s_pure (p_mv rfl)) ?_
      refine wo_nil ?_
      refine nx_norm ?_
      have hq := cond_inv hr
      clear hr
      rcases hq with ⟨rfl, hr⟩ | ⟨rfl, hr⟩
      · refine w_condT rfl ?_
        refine w_seq ?_
        refine w_ops ?_
        have hq := bindO_inv hr
        clear hr
        obtain ⟨v45, e45, hr⟩ := hq
        refine wo_step (v := v45) (s_pure (o_faddr rfl e45)) ?_
        have hq := bindO_inv hr
        clear hr
        obtain ⟨v46, e46, hr⟩ := hq
        have hq := asI_inv hr
        clear hr
        obtain ⟨x46, rfl, hr⟩ := hq
        refine wo_step (v := (.i .i64 x46)) (s_ld rfl e46) ?_
        have hq := forceB_inv hr
        clear hr
        obtain ⟨c47, e47, hr⟩ := hq
        refine wo_step (v := (.b c47)) (s_pure (p_bin rfl rfl (b_geq.trans (cb e47)))) ?_
        refine wo_step (v := (.b c47)) (s_pure (p_mv rfl)) ?_
        have hq := bindO_inv hr
        clear hr
        obtain ⟨o_5, hr, hk⟩ := hq
        refine wo_join 5 (g59_J5 v2 m_1 o_5) ?_ ?_
        · clear hk
          have hq := cond_inv hr
          clear hr
          rcases hq with ⟨rfl, hr⟩ | ⟨rfl, hr⟩
          · have hq := bindO_inv hr
            clear hr
            obtain ⟨v49, e49, hr⟩ := hq
            refine wo_take (v := v49) rfl (s_pure (o_faddr rfl e49)) ?_
            have hq := bindO_inv hr
            clear hr
            obtain ⟨v50, e50, hr⟩ := hq
            have hq := asI_inv hr
            clear hr
            obtain ⟨x50, rfl, hr⟩ := hq
            refine wo_take (v := (.i .i64 x50)) rfl (s_ld rfl e50) ?_
            refine wo_take (v := (.i .i64 x1)) rfl (s_pure (p_mv g1)) ?_
            have hq := forceB_inv hr
            clear hr
            obtain ⟨c52, e52, hr⟩ := hq
            refine wo_take (v := (.b c52)) rfl (s_pure (p_bin rfl rfl (b_lss.trans (cb e52)))) ?_
            refine wo_step (v := (.b c52)) (s_pure (p_pickT rfl rfl)) ?_
            refine wo_nil ?_
            cases hr
            exact ⟨_, _, rfl, rfl, gl rfl, gl rfl⟩
          · refine wo_skip (v := (.b false)) rfl rfl ?_
            refine wo_skip (v := (.b false)) rfl rfl ?_
            refine wo_skip (v := (.b false)) rfl rfl ?_
            refine wo_skip (v := (.b false)) rfl rfl ?_
            refine wo_step (v := (.b false)) (s_pure (p_pickF rfl rfl)) ?_
            refine wo_nil ?_
            cases hr
            exact ⟨_, _, rfl, rfl, gl rfl, gl rfl⟩
        · clear hr
          have hr := hk
          clear hk
          obtain ⟨c53, ho⟩ : ∃ z, z = o_5 := ⟨_, rfl⟩
          subst ho
          rintro mm_5 t_6 ⟨rfl, g53, g2⟩
          refine wo_step (v := (.b c53)) (s_pure (p_mv g53)) ?_
          have hq := bindO_inv hr
          clear hr
          obtain ⟨o_6, hr, hk⟩ := hq
          refine wo_join 4 (g59_J6 v2 m_1 o_6) ?_ ?_
          · clear hk
            have hq := cond_inv hr
            clear hr
            rcases hq with ⟨rfl, hr⟩ | ⟨rfl, hr⟩
            · have hq := bindO_inv hr
              clear hr
              obtain ⟨v55, e55, hr⟩ := hq
              refine wo_take (v := v55) rfl (s_pure (o_faddr g2 e55)) ?_
              have hq := bindO_inv hr
              clear hr
              obtain ⟨v56, e56, hr⟩ := hq
              have hq := asI_inv hr
              clear hr
              obtain ⟨x56, rfl, hr⟩ := hq
              refine wo_take (v := (.i .u8 x56)) rfl (s_ld rfl e56) ?_
              have hq := forceB_inv hr
              clear hr
              obtain ⟨c57, e57, hr⟩ := hq
              refine wo_take (v := (.b c57)) rfl (s_pure (p_bin rfl rfl (b_eql.trans (cb e57)))) ?_
              refine wo_step (v := (.b c57)) (s_pure (p_pickT rfl rfl)) ?_
              refine wo_nil ?_
              cases hr
              exact ⟨_, _, rfl, rfl, gl rfl, gl g2⟩
            · refine wo_skip (v := (.b false)) rfl rfl ?_
              refine wo_skip (v := (.b false)) rfl rfl ?_
              refine wo_skip (v := (.b false)) rfl rfl ?_
              refine wo_step (v := (.b false)) (s_pure (p_pickF rfl rfl)) ?_
              refine wo_nil ?_
              cases hr
              exact ⟨_, _, rfl, rfl, gl rfl, gl g2⟩
          · clear hr
            have hr := hk
            clear hk
            obtain ⟨c58, ho⟩ : ∃ z, z = o_6 := ⟨_, rfl⟩
            subst ho
            rintro mm_6 t_7 ⟨rfl, g58, g2⟩
            refine wo_step (v := (.b c58)) (s_pure (p_mv g58)) ?_
            have hq := bindO_inv hr
            clear hr
            obtain ⟨o_7, hr, hk⟩ := hq
            refine wo_join 4 (g59_J7 m_1 o_7) ?_ ?_
            · clear hk
              have hq := cond_inv hr
              clear hr
              rcases hq with ⟨rfl, hr⟩ | ⟨rfl, hr⟩
              · have hq := bindO_inv hr
                clear hr
                obtain ⟨v60, e60, hr⟩ := hq
                refine wo_take (v := v60) rfl (s_pure (o_faddr g2 e60)) ?_
                have hq := bindO_inv hr
                clear hr
                obtain ⟨v61, e61, hr⟩ := hq
                have hq := asI_inv hr
                clear hr
                obtain ⟨x61, rfl, hr⟩ := hq
                refine wo_take (v := (.i .i64 x61)) rfl (s_ld rfl e61) ?_
                have hq := forceB_inv hr
                clear hr
                obtain ⟨c62, e62, hr⟩ := hq
                refine wo_take (v := (.b c62)) rfl (s_pure (p_bin rfl rfl (b_eql.trans (cb e62)))) ?_
                refine wo_step (v := (.b c62)) (s_pure (p_pickT rfl rfl)) ?_
                refine wo_nil ?_
                cases hr
                exact ⟨_, _, rfl, rfl, gl rfl⟩
              · refine wo_skip (v := (.b false)) rfl rfl ?_
                refine wo_skip (v := (.b false)) rfl rfl ?_
                refine wo_skip (v := (.b false)) rfl rfl ?_
                refine wo_step (v := (.b false)) (s_pure (p_pickF rfl rfl)) ?_
                refine wo_nil ?_
                cases hr
                exact ⟨_, _, rfl, rfl, gl rfl⟩
            · clear hr
              have hr := hk
              clear hk
              obtain ⟨c63, ho⟩ : ∃ z, z = o_7 := ⟨_, rfl⟩
              subst ho
              rintro mm_7 t_8 ⟨rfl, g63⟩
              refine wo_step (v := (.b c63)) (s_pure (p_mv g63)) ?_
              refine wo_nil ?_
              refine nx_norm ?_
              refine w_ret ?_
              refine bk_ret ?_
              refine nx_ret ?_
              exact qf ret_ok (rt rfl rn) hr
      · refine w_condF rfl ?_
        refine w_skip ?_
        refine bk_norm ?_
        refine nx_norm ?_
        refine w_seq ?_
        refine w_ops ?_
        refine wo_step (v := (.b false)) (s_pure (p_mv rfl)) ?_
        refine wo_nil ?_
        refine nx_norm ?_
        refine w_ret ?_
        exact qf ret_ok (rt rfl rn) hr

/- dibber/note.fits -/
abbrev g62_J0 (v2 : AVal) (o : Bool × Mm) (m1 : Mm) (t1 : Tr) : Prop :=
  match o with
  | (c17, m_3) => m_3 = m1 ∧ t1.get 17 = (.b c17) ∧ t1.get 2 = v2
abbrev g62_J1  (o : Bool × Mm) (m1 : Mm) (t1 : Tr) : Prop :=
  match o with
  | (c22, m_5) => m_5 = m1 ∧ t1.get 22 = (.b c22)
abbrev g62_J2 (v2 : AVal) (m_7 : Mm) (o : Bool) (m1 : Mm) (t1 : Tr) : Prop :=
  match o with
  | c34 => m_7 = m1 ∧ t1.get 34 = (.b c34) ∧ t1.get 2 = v2
abbrev g62_J3 (m_7 : Mm) (o : Bool) (m1 : Mm) (t1 : Tr) : Prop :=
  match o with
  | c39 => m_7 = m1 ∧ t1.get 39 = (.b c39)
def g62 (M : Means) (ro : List ABlk) (v0 : AVal) (x1 : Int) (m0 : Mm) : Option (AVal × Heap × Nat × Nat) :=
  bindP (stepM ro m0 (.bx 24 4 (.c v0))) fun v2 m_1 =>
  bindO (evP .e (.faddr 0 (.c v2))) fun v5 =>
  bindO (ldM ro m_1 true 1 v5) fun v6 =>
  asI .i64 v6 fun x6 =>
  forceB (eqI x6 1) fun c8 =>
  cond c8 (
    bindO (evP .e (.faddr 1 (.c v2))) fun v9 =>
    bindO (ldM ro m_1 true 1 v9) fun v10 =>
    asI .i64 v10 fun x10 =>
    bindP (callM M.call m_1 77 [(.i .i64 0), (.i .i64 x10), (.i .i64 x1)]) fun v12 m_2 =>
    asB v12 fun c12 =>
    bindO (cond c12 (
      bindO (evP .e (.faddr 2 (.c v2))) fun v14 =>
      bindO (ldM ro m_2 true 1 v14) fun v15 =>
      asI .u8 v15 fun x15 =>
      bindP (callM M.call m_2 76 [(.i .u8 x15)]) fun v16 m_4 =>
      asB v16 fun c16 =>
      some (c16, m_4)) (
      some (false, m_2))) fun ⟨c17, m_3⟩ =>
    bindO (cond c17 (
      bindO (evP .e (.faddr 3 (.c v2))) fun v19 =>
      bindO (ldM ro m_3 true 1 v19) fun v20 =>
      asI .i64 v20 fun x20 =>
      bindP (callM M.call m_3 77 [(.i .i64 0), (.i .i64 x20), (.i .i64 4)]) fun v21 m_6 =>
      asB v21 fun c21 =>
      some (c21, m_6)) (
      some (false, m_3))) fun ⟨c22, m_5⟩ =>
    finM m0.h.length (tupA [(.b c22)]) m_5) (
    forceB (eqI x6 2) fun c24 =>
    cond c24 (
      bindO (evP .e (.faddr 1 (.c v2))) fun v25 =>
      bindO (ldM ro m_1 true 1 v25) fun v26 =>
      asI .i64 v26 fun x26 =>
      forceI (wr .i64 (x1 - 1)) fun x28 =>
      bindP (callM M.call m_1 77 [(.i .i64 0), (.i .i64 x26), (.i .i64 x28)]) fun v29 m_7 =>
      asB v29 fun c29 =>
      bindO (cond c29 (
        bindO (evP .e (.faddr 2 (.c v2))) fun v31 =>
        bindO (ldM ro m_7 true 1 v31) fun v32 =>
        asI .u8 v32 fun x32 =>
        forceB (eqI x32 0) fun c33 =>
        some c33) (
        some false)) fun c34 =>
      bindO (cond c34 (
        bindO (evP .e (.faddr 3 (.c v2))) fun v36 =>
        bindO (ldM ro m_7 true 1 v36) fun v37 =>
        asI .i64 v37 fun x37 =>
        forceB (eqI x37 0) fun c38 =>
        some c38) (
        some false)) fun c39 =>
      finM m0.h.length (tupA [(.b c39)]) m_7) (
      bindO (ldM ro m_1 false 4 v2) fun v40 =>
      bindO ((fillA [(AVal.i IntKind.i64 0), (AVal.i IntKind.i64 0), (AVal.i IntKind.u8 0), (AVal.i IntKind.i64 0)] [((0, 1), (.i .i64 0))]).map AVal.agg) fun v41 =>
      bindO (evP .e (.seq false [(0, false), (1, false), (2, false), (3, false)] (.c v40) (.c v41))) fun v42 =>
      asB v42 fun c42 =>
      finM m0.h.length (tupA [(.b c42)]) m_1))

theorem g62_ok {ro : List ABlk} {O : Caller} {M : Means} (hM : M.Ok ⟨F, O⟩ ro) {v0 x1 h r} (ho : O 62 [v0, (.i .i64 x1)] h = none) (hr : g62 M ro v0 x1 ⟨h, h.length, h.length⟩ = some r) : callX ⟨F, O⟩ ro 62 [v0, (.i .i64 x1)] h = some r := by
  refine callX_of (F := ⟨F, O⟩) (fn := fn62) (g := g62 M ro v0 x1) ho rfl rfl hr ?_
  clear ho
  clear hr
  intro m0 t0 ht hr
  have g0 : t0.get 0 = v0 := ht 0
  have g1 : t0.get 1 = (.i .i64 x1) := ht 1
  clear ht
  unfold g62 at hr
  refine w_seq ?_
  refine w_ops ?_
  have hq := bindP_inv hr
  clear hr
  obtain ⟨v2, m_1, e2, hr⟩ := hq
  refine wo_step (v := v2) (s_bx g0 e2) ?_
  refine wo_step (v := (.b false)) (s_pure (p_mv rfl)) ?_
  refine wo_nil ?_
  refine nx_norm ?_
  refine w_seq ?_
  refine w_seq ?_
  refine w_ops ?_
  have hq := bindO_inv hr
  clear hr
  obtain ⟨v5, e5, hr⟩ := hq
  refine wo_step (v := v5) (s_pure (o_faddr rfl e5)) ?_
  have hq := bindO_inv hr
  clear hr
  obtain ⟨v6, e6, hr⟩ := hq
  have hq := asI_inv hr
  clear hr
  obtain ⟨x6, rfl, hr⟩ := hq
  refine wo_step (v := (.i .i64 x6)) (s_ld rfl e6) ?_
  refine wo_nil ?_
  refine nx_norm ?_
  refine w_block ?_
  refine w_seq ?_
  refine w_ops ?_
  have hq := forceB_inv hr
  clear hr
  obtain ⟨c8, e8, hr⟩ := hq
  refine wo_step (v := (.b c8)) (s_pure (p_bin rfl rfl (b_eql.trans (cb e8)))) ?_
  refine wo_step (v := (.b c8)) (s_pure (p_mv rfl)) ?_
  refine wo_nil ?_
  refine nx_norm ?_
  have hq := cond_inv hr
  clear hr
  rcases hq with ⟨rfl, hr⟩ | ⟨rfl, hr⟩
  · refine w_condT rfl ?_
    refine w_seq ?_
    refine w_ops ?_
    have hq := bindO_inv hr
    clear hr
    obtain ⟨v9, e9, hr⟩ := hq
    refine wo_step (v := v9) (s_pure (o_faddr rfl e9)) ?_
    have hq := bindO_inv hr
    clear hr
    obtain ⟨v10, e10, hr⟩ := hq
    have hq := asI_inv hr
    clear hr
    obtain ⟨x10, rfl, hr⟩ := hq
    refine wo_step (v := (.i .i64 x10)) (s_ld rfl e10) ?_
    refine wo_step (v := (.i .i64 x1)) (s_pure (p_mv g1)) ?_
    have hq := bindP_inv hr
    clear hr
    obtain ⟨v12, m_2, e12, hr⟩ := hq
    have hq := asB_inv hr
    clear hr
    obtain ⟨c12, rfl, hr⟩ := hq
    refine wo_step (v := (.b c12)) (s_call (mc rfl (mc rfl (mc rfl mn))) (callM_le hM.call e12)) ?_
    refine wo_step (v := (.b c12)) (s_pure (p_mv rfl)) ?_
    have hq := bindO_inv hr
    clear hr
    obtain ⟨o, hr, hk⟩ := hq
    refine wo_join 4 (g62_J0 v2 o) ?_ ?_
    · clear hk
      have hq := cond_inv hr
      clear hr
      rcases hq with ⟨rfl, hr⟩ | ⟨rfl, hr⟩
      · have hq := bindO_inv hr
        clear hr
        obtain ⟨v14, e14, hr⟩ := hq
        refine wo_take (v := v14) rfl (s_pure (o_faddr rfl e14)) ?_
        have hq := bindO_inv hr
        clear hr
        obtain ⟨v15, e15, hr⟩ := hq
        have hq := asI_inv hr
        clear hr
        obtain ⟨x15, rfl, hr⟩ := hq
        refine wo_take (v := (.i .u8 x15)) rfl (s_ld rfl e15) ?_
        have hq := bindP_inv hr
        clear hr
        obtain ⟨v16, m_4, e16, hr⟩ := hq
        have hq := asB_inv hr
        clear hr
        obtain ⟨c16, rfl, hr⟩ := hq
        refine wo_take (v := (.b c16)) rfl (s_call (mc rfl mn) (callM_le hM.call e16)) ?_
        refine wo_step (v := (.b c16)) (s_pure (p_pickT rfl rfl)) ?_
        refine wo_nil ?_
        cases hr
        exact ⟨_, _, rfl, rfl, gl rfl, gl rfl⟩
      · refine wo_skip (v := (.b false)) rfl rfl ?_
        refine wo_skip (v := (.b false)) rfl rfl ?_
        refine wo_skip (v := (.b false)) rfl rfl ?_
        refine wo_step (v := (.b false)) (s_pure (p_pickF rfl rfl)) ?_
        refine wo_nil ?_
        cases hr
        exact ⟨_, _, rfl, rfl, gl rfl, gl rfl⟩
    · clear hr
      have hr := hk
      clear hk
      obtain ⟨c17, m_3⟩ := o
      rintro mm t_1 ⟨rfl, g17, g2⟩
      refine wo_step (v := (.b c17)) (s_pure (p_mv g17)) ?_
      have hq := bindO_inv hr
      clear hr
      obtain ⟨o_1, hr, hk⟩ := hq
      refine wo_join 4 (g62_J1  o_1) ?_ ?_
      · clear hk
        have hq := cond_inv hr
        clear hr
        rcases hq with ⟨rfl, hr⟩ | ⟨rfl, hr⟩
        · have hq := bindO_inv hr
          clear hr
          obtain ⟨v19, e19, hr⟩ := hq
          refine wo_take (v := v19) rfl (s_pure (o_faddr g2 e19)) ?_
          have hq := bindO_inv hr
          clear hr
          obtain ⟨v20, e20, hr⟩ := hq
          have hq := asI_inv hr
          clear hr
          obtain ⟨x20, rfl, hr⟩ := hq
          refine wo_take (v := (.i .i64 x20)) rfl (s_ld rfl e20) ?_
          have hq := bindP_inv hr
          clear hr
          obtain ⟨v21, m_6, e21, hr⟩ := hq
          have hq := asB_inv hr
          clear hr
          obtain ⟨c21, rfl, hr⟩ := hq
          refine wo_take (v := (.b c21)) rfl (s_call (mc rfl (mc rfl (mc rfl mn))) (callM_le hM.call e21)) ?_
          refine wo_step (v := (.b c21)) (s_pure (p_pickT rfl rfl)) ?_
          refine wo_nil ?_
          cases hr
          exact ⟨_, _, rfl, rfl, gl rfl⟩
        · refine wo_skip (v := (.b false)) rfl rfl ?_
          refine wo_skip (v := (.b false)) rfl rfl ?_
          refine wo_skip (v := (.b false)) rfl rfl ?_
          refine wo_step (v := (.b false)) (s_pure (p_pickF rfl rfl)) ?_
          refine wo_nil ?_
          cases hr
          exact ⟨_, _, rfl, rfl, gl rfl⟩
      · clear hr
        have hr := hk
        clear hk
        obtain ⟨c22, m_5⟩ := o_1
        rintro mm_1 t_2 ⟨rfl, g22⟩
        refine wo_step (v := (.b c22)) (s_pure (p_mv g22)) ?_
        refine wo_nil ?_
        refine nx_norm ?_
        refine w_ret ?_
        refine bk_ret ?_
        refine nx_ret ?_
        exact qf ret_ok (rt rfl rn) hr
  · refine w_condF rfl ?_
    refine w_seq ?_
    refine w_ops ?_
    have hq := forceB_inv hr
    clear hr
    obtain ⟨c24, e24, hr⟩ := hq
    refine wo_step (v := (.b c24)) (s_pure (p_bin rfl rfl (b_eql.trans (cb e24)))) ?_
    refine wo_step (v := (.b c24)) (s_pure (p_mv rfl)) ?_
    refine wo_nil ?_
    refine nx_norm ?_
    have hq := cond_inv hr
    clear hr
    rcases hq with ⟨rfl, hr⟩ | ⟨rfl, hr⟩
    · refine w_condT rfl ?_
      refine w_seq ?_
      refine w_ops ?_
      have hq := bindO_inv hr
      clear hr
      obtain ⟨v25, e25, hr⟩ := hq
      refine wo_step (v := v25) (s_pure (o_faddr rfl e25)) ?_
      have hq := bindO_inv hr
      clear hr
      obtain ⟨v26, e26, hr⟩ := hq
      have hq := asI_inv hr
      clear hr
      obtain ⟨x26, rfl, hr⟩ := hq
      refine wo_step (v := (.i .i64 x26)) (s_ld rfl e26) ?_
      refine wo_step (v := (.i .i64 x1)) (s_pure (p_mv g1)) ?_
      have hq := forceI_inv hr
      clear hr
      obtain ⟨x28, e28, hr⟩ := hq
      refine wo_step (v := (.i .i64 x28)) (s_pure (p_bin rfl rfl (b_sub.trans (ci e28)))) ?_
      have hq := bindP_inv hr
      clear hr
      obtain ⟨v29, m_7, e29, hr⟩ := hq
      have hq := asB_inv hr
      clear hr
      obtain ⟨c29, rfl, hr⟩ := hq
      refine wo_step (v := (.b c29)) (s_call (mc rfl (mc rfl (mc rfl mn))) (callM_le hM.call e29)) ?_
      refine wo_step (v := (.b c29)) (s_pure (p_mv rfl)) ?_
      have hq := bindO_inv hr
      clear hr
      obtain ⟨o_2, hr, hk⟩ := hq
      refine wo_join 4 (g62_J2 v2 m_7 o_2) ?_ ?_
      · clear hk
        have hq := cond_inv hr
        clear hr
        rcases hq with ⟨rfl, hr⟩ | ⟨rfl, hr⟩
        · have hq := bindO_inv hr
          clear hr
          obtain ⟨v31, e31, hr⟩ := hq
          refine wo_take (v := v31) rfl (s_pure (o_faddr rfl e31)) ?_
          have hq := bindO_inv hr
          clear hr
          obtain ⟨v32, e32, hr⟩ := hq
          have hq := asI_inv hr
          clear hr
          obtain ⟨x32, rfl, hr⟩ := hq
          refine wo_take (v := (.i .u8 x32)) rfl (s_ld rfl e32) ?_
          have hq := forceB_inv hr
          clear hr
          obtain ⟨c33, e33, hr⟩ := hq
          refine wo_take (v := (.b c33)) rfl (s_pure (p_bin rfl rfl (b_eql.trans (cb e33)))) ?_
          refine wo_step (v := (.b c33)) (s_pure (p_pickT rfl rfl)) ?_
          refine wo_nil ?_
          cases hr
          exact ⟨_, _, rfl, rfl, gl rfl, gl rfl⟩
        · refine wo_skip (v := (.b false)) rfl rfl ?_
          refine wo_skip (v := (.b false)) rfl rfl ?_
          refine wo_skip (v := (.b false)) rfl rfl ?_
          refine wo_step (v := (.b false)) (s_pure (p_pickF rfl rfl)) ?_
          refine wo_nil ?_
          cases hr
          exact ⟨_, _, rfl, rfl, gl rfl, gl rfl⟩
      · clear hr
        have hr := hk
        clear hk
        obtain ⟨c34, ho⟩ : ∃ z, z = o_2 := ⟨_, rfl⟩
        subst ho
        rintro mm_2 t_3 ⟨rfl, g34, g2⟩
        refine wo_step (v := (.b c34)) (s_pure (p_mv g34)) ?_
        have hq := bindO_inv hr
        clear hr
        obtain ⟨o_3, hr, hk⟩ := hq
        refine wo_join 4 (g62_J3 m_7 o_3) ?_ ?_
        · clear hk
          have hq := cond_inv hr
          clear hr
          rcases hq with ⟨rfl, hr⟩ | ⟨rfl, hr⟩
          · have hq := bindO_inv hr
            clear hr
            obtain ⟨v36, e36, hr⟩ := hq
            refine wo_take (v := v36) rfl (s_pure (o_faddr g2 e36)) ?_
            have hq := bindO_inv hr
            clear hr
            obtain ⟨v37, e37, hr⟩ := hq
            have hq := asI_inv hr
            clear hr
            obtain ⟨x37, rfl, hr⟩ := hq
            refine wo_take (v := (.i .i64 x37)) rfl (s_ld rfl e37) ?_
            have hq := forceB_inv hr
            clear hr
            obtain ⟨c38, e38, hr⟩ := hq
            refine wo_take (v := (.b c38)) rfl (s_pure (p_bin rfl rfl (b_eql.trans (cb e38)))) ?_
            refine wo_step (v := (.b c38)) (s_pure (p_pickT rfl rfl)) ?_
            refine wo_nil ?_
            cases hr
            exact ⟨_, _, rfl, rfl, gl rfl⟩
          · refine wo_skip (v := (.b false)) rfl rfl ?_
            refine wo_skip (v := (.b false)) rfl rfl ?_
            refine wo_skip (v := (.b false)) rfl rfl ?_
            refine wo_step (v := (.b false)) (s_pure (p_pickF rfl rfl)) ?_
            refine wo_nil ?_
            cases hr
            exact ⟨_, _, rfl, rfl, gl rfl⟩
        · clear hr
          have hr := hk
          clear hk
          obtain ⟨c39, ho⟩ : ∃ z, z = o_3 := ⟨_, rfl⟩
          subst ho
          rintro mm_3 t_4 ⟨rfl, g39⟩
          refine wo_step (v := (.b c39)) (s_pure (p_mv g39)) ?_
          refine wo_nil ?_
          refine nx_norm ?_
          refine w_ret ?_
          refine bk_ret ?_
          refine nx_ret ?_
          exact qf ret_ok (rt rfl rn) hr
    · refine w_condF rfl ?_
      refine w_skip ?_
      refine bk_norm ?_
      refine nx_norm ?_
      refine w_seq ?_
      refine w_ops ?_
      have hq := bindO_inv hr
      clear hr
      obtain ⟨v40, e40, hr⟩ := hq
      refine wo_step (v := v40) (s_ld rfl e40) ?_
      have hq := bindO_inv hr
      clear hr
      obtain ⟨v41, e41, hr⟩ := hq
      refine wo_step (v := v41) (s_pure (o_build (qc rfl qn) e41)) ?_
      have hq := bindO_inv hr
      clear hr
      obtain ⟨v42, e42, hr⟩ := hq
      have hq := asB_inv hr
      clear hr
      obtain ⟨c42, rfl, hr⟩ := hq
      refine wo_step (v := (.b c42)) (s_pure (o_seq rfl rfl e42)) ?_
      refine wo_step (v := (.b c42)) (s_pure (p_mv rfl)) ?_
      refine wo_nil ?_
      refine nx_norm ?_
      refine w_ret ?_
      exact qf ret_ok (rt rfl rn) hr

/- dibber/note.turned -/

def g66 (M : Means) (ro : List ABlk) (v0 : AVal) (v1 : AVal) (m0 : Mm) : Option (AVal × Heap × Nat × Nat) :=
  bindP (stepM ro m0 (.bx 24 4 (.c v0))) fun v2 m_1 =>
  bindP (stepM ro m_1 (.bx 24 4 (.c v1))) fun v3 m_2 =>
  bindP (stepM ro m_2 (.al 24 [(AVal.i IntKind.i64 0), (AVal.i IntKind.i64 0), (AVal.i IntKind.u8 0), (AVal.i IntKind.i64 0)])) fun v4 m_3 =>
  bindO (some (Mm.base m_3)) fun m_4 =>
  bindP (callM M.call m_4 92 []) fun v5 m_5 =>
  chk (!Nat.blt m_5.lw m_3.h.length) <|
  bindO (evP .e (.faddr 0 (.c v2))) fun v6 =>
  bindO (ldA ro m_3.h true 1 v6) fun v7 =>
  asI .i64 v7 fun x7 =>
  bindO (evP .e (.ixV 3 3 false (.c v5) (.c (.i .i64 x7)))) fun v8 =>
  bindO (evP .e (.faddr 0 (.c v3))) fun v9 =>
  bindO (ldA ro m_3.h true 1 v9) fun v10 =>
  asI .i64 v10 fun x10 =>
  bindO (evP .e (.ixV 3 1 true (.c v8) (.c (.i .i64 x10)))) fun v11 =>
  bindO (ldA ro m_3.h false 4 v2) fun v12 =>
  bindO (ldA ro m_3.h false 4 v3) fun v13 =>
  bindP (callvM M.call m_5 v11 [v12, v13]) fun v14 m_6 =>
  bindP (stepM ro m_6 (.st 4 (.c v4) (.c v14))) fun vn m_7 =>
  bindO (some (Mm.join m_3 m_7)) fun m_8 =>
  bindO (ldM ro m_8 false 4 v4) fun vr =>
  finM m0.h.length (tupA [vr]) m_8

theorem g66_ok {ro : List ABlk} {O : Caller} {M : Means} (hM : M.Ok ⟨F, O⟩ ro) {v0 v1 h r} (ho : O 66 [v0, v1] h = none) (hr : g66 M ro v0 v1 ⟨h, h.length, h.length⟩ = some r) : callX ⟨F, O⟩ ro 66 [v0, v1] h = some r := by
  refine callX_of (F := ⟨F, O⟩) (fn := fn66) (g := g66 M ro v0 v1) ho rfl rfl hr ?_
  clear ho
  clear hr
  intro m0 t0 ht hr
  have g0 : t0.get 0 = v0 := ht 0
  have g1 : t0.get 1 = v1 := ht 1
  clear ht
  unfold g66 at hr
  refine w_seq ?_
  refine w_ops ?_
  have hq := bindP_inv hr
  clear hr
  obtain ⟨v2, m_1, e2, hr⟩ := hq
  refine wo_step (v := v2) (s_bx g0 e2) ?_
  have hq := bindP_inv hr
  clear hr
  obtain ⟨v3, m_2, e3, hr⟩ := hq
  refine wo_step (v := v3) (s_bx g1 e3) ?_
  have hq := bindP_inv hr
  clear hr
  obtain ⟨v4, m_3, e4, hr⟩ := hq
  refine wo_step (v := v4) (s_al e4) ?_
  refine wo_nil ?_
  refine nx_norm ?_
  refine w_seq ?_
  have hq := bindO_inv hr
  clear hr
  obtain ⟨m_4, ef, hr⟩ := hq
  refine w_flt (af := true) rfl ef ?_
  have hq := bindP_inv hr
  clear hr
  obtain ⟨v5, m_5, e5, hr⟩ := hq
  have hq := chk_inv hr
  clear hr
  obtain ⟨hc5, hr⟩ := hq
  refine wf_step (v := v5) (f_M hc5 (s_call mn (callM_le hM.call e5))) ?_
  have hq := bindO_inv hr
  clear hr
  obtain ⟨v6, e6, hr⟩ := hq
  refine wf_step (v := v6) (f_P rfl (s_pure (o_faddr rfl e6))) ?_
  have hq := bindO_inv hr
  clear hr
  obtain ⟨v7, e7, hr⟩ := hq
  have hq := asI_inv hr
  clear hr
  obtain ⟨x7, rfl, hr⟩ := hq
  refine wf_step (v := (.i .i64 x7)) (f_ld rfl e7) ?_
  have hq := bindO_inv hr
  clear hr
  obtain ⟨v8, e8, hr⟩ := hq
  refine wf_step (v := v8) (f_P rfl (s_pure (o_ixV rfl rfl e8))) ?_
  have hq := bindO_inv hr
  clear hr
  obtain ⟨v9, e9, hr⟩ := hq
  refine wf_step (v := v9) (f_P rfl (s_pure (o_faddr rfl e9))) ?_
  have hq := bindO_inv hr
  clear hr
  obtain ⟨v10, e10, hr⟩ := hq
  have hq := asI_inv hr
  clear hr
  obtain ⟨x10, rfl, hr⟩ := hq
  refine wf_step (v := (.i .i64 x10)) (f_ld rfl e10) ?_
  have hq := bindO_inv hr
  clear hr
  obtain ⟨v11, e11, hr⟩ := hq
  refine wf_step (v := v11) (f_P rfl (s_pure (o_ixV rfl rfl e11))) ?_
  have hq := bindO_inv hr
  clear hr
  obtain ⟨v12, e12, hr⟩ := hq
  refine wf_step (v := v12) (f_ld rfl e12) ?_
  have hq := bindO_inv hr
  clear hr
  obtain ⟨v13, e13, hr⟩ := hq
  refine wf_step (v := v13) (f_ld rfl e13) ?_
  have hq := bindP_inv hr
  clear hr
  obtain ⟨v14, m_6, e14, hr⟩ := hq
  refine wf_step (v := v14) (f_F rfl (s_callv rfl (mc rfl (mc rfl mn)) (callvM_le hM.call e14))) ?_
  have hq := bindP_inv hr
  clear hr
  obtain ⟨vn, m_7, en, hr⟩ := hq
  refine wf_stepN (f_F rfl (s_st rfl rfl en)) ?_
  have hq := bindO_inv hr
  clear hr
  obtain ⟨m_8, ef_1, hr⟩ := hq
  refine wf_end ef_1 ?_
  refine nx_norm ?_
  refine w_ret ?_
  have hq := bindO_inv hr
  clear hr
  obtain ⟨vr, er, hr⟩ := hq
  exact qf ret_ok (rc rfl er rn) hr

/- dibber/dibberref07.turn -/
abbrev g67_J0 (v2 : AVal) (v3 : AVal) (v4 : AVal) (m_3 : Mm) (o : Bool) (m1 : Mm) (t1 : Tr) : Prop :=
  match o with
  | c13 => m_3 = m1 ∧ t1.get 13 = (.b c13) ∧ t1.get 2 = v2 ∧ t1.get 3 = v3 ∧ t1.get 4 = v4
abbrev g67_J1 (v2 : AVal) (v4 : AVal) (m_3 : Mm) (o : Bool) (e : AExit) (m1 : Mm) (t1 : Tr) : Prop :=
  match o with
  | y5 => e = .norm ∧ m_3 = m1 ∧ t1.get 5 = (.b y5) ∧ t1.get 2 = v2 ∧ t1.get 4 = v4
abbrev g67_J2 (v2 : AVal) (v3 : AVal) (v4 : AVal) (m_3 : Mm) (o : Bool) (m1 : Mm) (t1 : Tr) : Prop :=
  match o with
  | c34 => m_3 = m1 ∧ t1.get 34 = (.b c34) ∧ t1.get 2 = v2 ∧ t1.get 3 = v3 ∧ t1.get 4 = v4
abbrev g67_J3 (v2 : AVal) (v4 : AVal) (m_3 : Mm) (o : Bool) (m1 : Mm) (t1 : Tr) : Prop :=
  match o with
  | c48 => m_3 = m1 ∧ t1.get 48 = (.b c48) ∧ t1.get 2 = v2 ∧ t1.get 4 = v4
abbrev g67_J4 (v2 : AVal) (v4 : AVal) (m_3 : Mm) (o : Bool) (m1 : Mm) (t1 : Tr) : Prop :=
  match o with
  | c48_1 => m_3 = m1 ∧ t1.get 48 = (.b c48_1) ∧ t1.get 2 = v2 ∧ t1.get 4 = v4
abbrev g67_J5 (v2 : AVal) (v4 : AVal) (o : Mm) (e : AExit) (m1 : Mm) (t1 : Tr) : Prop :=
  match o with
  | mo => e = .norm ∧ mo = m1 ∧ t1.get 2 = v2 ∧ t1.get 4 = v4
def g67 (M : Means) (ro : List ABlk) (v0 : AVal) (v1 : AVal) (m0 : Mm) : Option (AVal × Heap × Nat × Nat) :=
  bindP (stepM ro m0 (.bx 24 4 (.c v0))) fun v2 m_1 =>
  bindP (stepM ro m_1 (.bx 24 4 (.c v1))) fun v3 m_2 =>
  bindP (stepM ro m_2 (.al 24 [(AVal.i IntKind.i64 0), (AVal.i IntKind.i64 0), (AVal.i IntKind.u8 0), (AVal.i IntKind.i64 0)])) fun v4 m_3 =>
  bindO (evP .e (.faddr 0 (.c v3))) fun v6 =>
  bindO (ldM ro m_3 true 1 v6) fun v7 =>
  asI .i64 v7 fun x7 =>
  forceB (!eqI x7 1) fun c8 =>
  bindO (cond c8 (
    some true) (
    bindO (evP .e (.faddr 0 (.c v2))) fun v10 =>
    bindO (ldM ro m_3 true 1 v10) fun v11 =>
    asI .i64 v11 fun x11 =>
    forceB (eqI x11 0) fun c12 =>
    some c12)) fun c13 =>
  cond c13 (
    bindO (ldM ro m_3 false 4 v2) fun v14 =>
    bindP (stepM ro m_3 (.st 4 (.c v4) (.c v14))) fun vn m_4 =>
    bindO (ldM ro m_4 false 4 v4) fun vr =>
    finM m0.h.length (tupA [vr]) m_4) (
    bindO (evP .e (.faddr 1 (.c v3))) fun v15 =>
    bindO (ldM ro m_3 true 1 v15) fun v16 =>
    asI .i64 v16 fun x16 =>
    bindO (evP .e (.faddr 1 (.c v2))) fun v17 =>
    bindO (ldM ro m_3 true 1 v17) fun v18 =>
    asI .i64 v18 fun x18 =>
    forceB (ltI x16 x18) fun c19 =>
    bindO (evP .e (.faddr 1 (.c v3))) fun v20 =>
    bindO (ldM ro m_3 true 1 v20) fun v21 =>
    asI .i64 v21 fun x21 =>
    bindO (evP .e (.faddr 1 (.c v2))) fun v22 =>
    bindO (ldM ro m_3 true 1 v22) fun v23 =>
    asI .i64 v23 fun x23 =>
    forceB (eqI x21 x23) fun c24 =>
    bindO (α := Bool) (
      cond c24 (
        bindO (evP .e (.faddr 0 (.c v2))) fun v25 =>
        bindO (ldM ro m_3 true 1 v25) fun v26 =>
        asI .i64 v26 fun x26 =>
        forceB (eqI x26 2) fun c27 =>
        bindO (cond c27 (
          some true) (
          bindO (evP .e (.faddr 3 (.c v3))) fun v29 =>
          bindO (ldM ro m_3 true 1 v29) fun v30 =>
          asI .i64 v30 fun x30 =>
          bindO (evP .e (.faddr 3 (.c v2))) fun v31 =>
          bindO (ldM ro m_3 true 1 v31) fun v32 =>
          asI .i64 v32 fun x32 =>
          forceB (ltI x30 x32) fun c33 =>
          some c33)) fun c34 =>
        bindO (cond c34 (
          some true) (
          bindO (evP .e (.faddr 3 (.c v3))) fun v36 =>
          bindO (ldM ro m_3 true 1 v36) fun v37 =>
          asI .i64 v37 fun x37 =>
          bindO (evP .e (.faddr 3 (.c v2))) fun v38 =>
          bindO (ldM ro m_3 true 1 v38) fun v39 =>
          asI .i64 v39 fun x39 =>
          forceB (eqI x37 x39) fun c40 =>
          bindO (cond c40 (
            bindO (evP .e (.faddr 2 (.c v2))) fun v42 =>
            bindO (ldM ro m_3 true 1 v42) fun v43 =>
            asI .u8 v43 fun x43 =>
            bindO (evP .e (.faddr 2 (.c v3))) fun v44 =>
            bindO (ldM ro m_3 true 1 v44) fun v45 =>
            asI .u8 v45 fun x45 =>
            forceB (ltI x45 x43) fun c46 =>
            some c46) (
            some false)) fun c48_1 =>
          some c48_1)) fun c48 =>
        some c48) (
        some c19)) fun c5 =>
    bindO (α := Mm) (
      cond c5 (
        bindO (evP .e (.faddr 1 (.c v2))) fun v50 =>
        bindO (ldM ro m_3 true 1 v50) fun v51 =>
        asI .i64 v51 fun x51 =>
        forceI (wr .i64 (x51 + 1)) fun x52 =>
        bindO (evP .e (.faddr 1 (.c v2))) fun v53 =>
        bindP (stepM ro m_3 (.st 1 (.c v53) (.c (.i .i64 x52)))) fun vn_1 m_5 =>
        some m_5) (
        some m_3)) fun m_6 =>
    bindO (ldM ro m_6 false 4 v2) fun v54 =>
    bindP (stepM ro m_6 (.st 4 (.c v4) (.c v54))) fun vn_2 m_7 =>
    bindO (ldM ro m_7 false 4 v4) fun vr_1 =>
    finM m0.h.length (tupA [vr_1]) m_7)

theorem g67_ok {ro : List ABlk} {O : Caller} {M : Means} (hM : M.Ok ⟨F, O⟩ ro) {v0 v1 h r} (ho : O 67 [v0, v1] h = none) (hr : g67 M ro v0 v1 ⟨h, h.length, h.length⟩ = some r) : callX ⟨F, O⟩ ro 67 [v0, v1] h = some r := by
  refine callX_of (F := ⟨F, O⟩) (fn := fn67) (g := g67 M ro v0 v1) ho rfl rfl hr ?_
  clear ho
  clear hr
  intro m0 t0 ht hr
  have g0 : t0.get 0 = v0 := ht 0
  have g1 : t0.get 1 = v1 := ht 1
  clear ht
  unfold g67 at hr
  refine w_seq ?_
  refine w_ops ?_
  have hq := bindP_inv hr
  clear hr
  obtain ⟨v2, m_1, e2, hr⟩ := hq
  refine wo_step (v := v2) (s_bx g0 e2) ?_
  have hq := bindP_inv hr
  clear hr
  obtain ⟨v3, m_2, e3, hr⟩ := hq
  refine wo_step (v := v3) (s_bx g1 e3) ?_
  have hq := bindP_inv hr
  clear hr
  obtain ⟨v4, m_3, e4, hr⟩ := hq
  refine wo_step (v := v4) (s_al e4) ?_
  refine wo_nil ?_
  refine nx_norm ?_
  refine w_seq ?_
  refine w_seq ?_
  refine w_ops ?_
  have hq := bindO_inv hr
  clear hr
  obtain ⟨v6, e6, hr⟩ := hq
  refine wo_step (v := v6) (s_pure (o_faddr rfl e6)) ?_
  have hq := bindO_inv hr
  clear hr
  obtain ⟨v7, e7, hr⟩ := hq
  have hq := asI_inv hr
  clear hr
  obtain ⟨x7, rfl, hr⟩ := hq
  refine wo_step (v := (.i .i64 x7)) (s_ld rfl e7) ?_
  have hq := forceB_inv hr
  clear hr
  obtain ⟨c8, e8, hr⟩ := hq
  refine wo_step (v := (.b c8)) (s_pure (p_bin rfl rfl (b_neq.trans (cb e8)))) ?_
  refine wo_step (v := (.b c8)) (s_pure (p_mv rfl)) ?_
  have hq := bindO_inv hr
  clear hr
  obtain ⟨o, hr, hk⟩ := hq
  refine wo_join 4 (g67_J0 v2 v3 v4 m_3 o) ?_ ?_
  · clear hk
    have hq := cond_inv hr
    clear hr
    rcases hq with ⟨rfl, hr⟩ | ⟨rfl, hr⟩
    · refine wo_skip (v := (.b true)) rfl rfl ?_
      refine wo_skip (v := (.b true)) rfl rfl ?_
      refine wo_skip (v := (.b true)) rfl rfl ?_
      refine wo_step (v := (.b true)) (s_pure (p_pickT rfl rfl)) ?_
      refine wo_nil ?_
      cases hr
      exact ⟨_, _, rfl, rfl, gl rfl, gl rfl, gl rfl, gl rfl⟩
    · have hq := bindO_inv hr
      clear hr
      obtain ⟨v10, e10, hr⟩ := hq
      refine wo_take (v := v10) rfl (s_pure (o_faddr rfl e10)) ?_
      have hq := bindO_inv hr
      clear hr
      obtain ⟨v11, e11, hr⟩ := hq
      have hq := asI_inv hr
      clear hr
      obtain ⟨x11, rfl, hr⟩ := hq
      refine wo_take (v := (.i .i64 x11)) rfl (s_ld rfl e11) ?_
      have hq := forceB_inv hr
      clear hr
      obtain ⟨c12, e12, hr⟩ := hq
      refine wo_take (v := (.b c12)) rfl (s_pure (p_bin rfl rfl (b_eql.trans (cb e12)))) ?_
      refine wo_step (v := (.b c12)) (s_pure (p_pickF rfl rfl)) ?_
      refine wo_nil ?_
      cases hr
      exact ⟨_, _, rfl, rfl, gl rfl, gl rfl, gl rfl, gl rfl⟩
  · clear hr
    have hr := hk
    clear hk
    obtain ⟨c13, ho⟩ : ∃ z, z = o := ⟨_, rfl⟩
    subst ho
    rintro mm t_1 ⟨rfl, g13, g2, g3, g4⟩
    refine wo_nil ?_
    refine nx_norm ?_
    have hq := cond_inv hr
    clear hr
    rcases hq with ⟨rfl, hr⟩ | ⟨rfl, hr⟩
    · refine w_condT g13 ?_
      refine w_seq ?_
      refine w_ops ?_
      have hq := bindO_inv hr
      clear hr
      obtain ⟨v14, e14, hr⟩ := hq
      refine wo_step (v := v14) (s_ld g2 e14) ?_
      have hq := bindP_inv hr
      clear hr
      obtain ⟨vn, m_4, en, hr⟩ := hq
      refine wo_stepN (s_st g4 rfl en) ?_
      refine wo_nil ?_
      refine nx_norm ?_
      refine w_ret ?_
      refine nx_ret ?_
      have hq := bindO_inv hr
      clear hr
      obtain ⟨vr, er, hr⟩ := hq
      exact qf ret_ok (rc g4 er rn) hr
    · refine w_condF g13 ?_
      refine w_skip ?_
      refine nx_norm ?_
      refine w_seq ?_
      refine w_ops ?_
      have hq := bindO_inv hr
      clear hr
      obtain ⟨v15, e15, hr⟩ := hq
      refine wo_step (v := v15) (s_pure (o_faddr g3 e15)) ?_
      have hq := bindO_inv hr
      clear hr
      obtain ⟨v16, e16, hr⟩ := hq
      have hq := asI_inv hr
      clear hr
      obtain ⟨x16, rfl, hr⟩ := hq
      refine wo_step (v := (.i .i64 x16)) (s_ld rfl e16) ?_
      have hq := bindO_inv hr
      clear hr
      obtain ⟨v17, e17, hr⟩ := hq
      refine wo_step (v := v17) (s_pure (o_faddr g2 e17)) ?_
      have hq := bindO_inv hr
      clear hr
      obtain ⟨v18, e18, hr⟩ := hq
      have hq := asI_inv hr
      clear hr
      obtain ⟨x18, rfl, hr⟩ := hq
      refine wo_step (v := (.i .i64 x18)) (s_ld rfl e18) ?_
      have hq := forceB_inv hr
      clear hr
      obtain ⟨c19, e19, hr⟩ := hq
      refine wo_step (v := (.b c19)) (s_pure (p_bin rfl rfl (b_lss.trans (cb e19)))) ?_
      refine wo_step (v := (.b c19)) (s_pure (p_mv rfl)) ?_
      refine wo_nil ?_
      refine nx_norm ?_
      refine w_seq ?_
      refine w_seq ?_
      refine w_ops ?_
      have hq := bindO_inv hr
      clear hr
      obtain ⟨v20, e20, hr⟩ := hq
      refine wo_step (v := v20) (s_pure (o_faddr g3 e20)) ?_
      have hq := bindO_inv hr
      clear hr
      obtain ⟨v21, e21, hr⟩ := hq
      have hq := asI_inv hr
      clear hr
      obtain ⟨x21, rfl, hr⟩ := hq
      refine wo_step (v := (.i .i64 x21)) (s_ld rfl e21) ?_
      have hq := bindO_inv hr
      clear hr
      obtain ⟨v22, e22, hr⟩ := hq
      refine wo_step (v := v22) (s_pure (o_faddr g2 e22)) ?_
      have hq := bindO_inv hr
      clear hr
      obtain ⟨v23, e23, hr⟩ := hq
      have hq := asI_inv hr
      clear hr
      obtain ⟨x23, rfl, hr⟩ := hq
      refine wo_step (v := (.i .i64 x23)) (s_ld rfl e23) ?_
      have hq := forceB_inv hr
      clear hr
      obtain ⟨c24, e24, hr⟩ := hq
      refine wo_step (v := (.b c24)) (s_pure (p_bin rfl rfl (b_eql.trans (cb e24)))) ?_
      refine wo_nil ?_
      refine nx_norm ?_
      have hq := bindO_inv hr
      clear hr
      obtain ⟨o_1, hr, hk⟩ := hq
      refine jp_mono (J := g67_J1 v2 v4 m_3 o_1) ?_ ?_
      · clear hk
        have hq := cond_inv hr
        clear hr
        rcases hq with ⟨rfl, hr⟩ | ⟨rfl, hr⟩
        · refine w_condT rfl ?_
          refine w_ops ?_
          have hq := bindO_inv hr
          clear hr
          obtain ⟨v25, e25, hr⟩ := hq
          refine wo_step (v := v25) (s_pure (o_faddr g2 e25)) ?_
          have hq := bindO_inv hr
          clear hr
          obtain ⟨v26, e26, hr⟩ := hq
          have hq := asI_inv hr
          clear hr
          obtain ⟨x26, rfl, hr⟩ := hq
          refine wo_step (v := (.i .i64 x26)) (s_ld rfl e26) ?_
          have hq := forceB_inv hr
          clear hr
          obtain ⟨c27, e27, hr⟩ := hq
          refine wo_step (v := (.b c27)) (s_pure (p_bin rfl rfl (b_eql.trans (cb e27)))) ?_
          refine wo_step (v := (.b c27)) (s_pure (p_mv rfl)) ?_
          have hq := bindO_inv hr
          clear hr
          obtain ⟨o_2, hr, hk⟩ := hq
          refine wo_join 6 (g67_J2 v2 v3 v4 m_3 o_2) ?_ ?_
          · clear hk
            have hq := cond_inv hr
            clear hr
            rcases hq with ⟨rfl, hr⟩ | ⟨rfl, hr⟩
            · refine wo_skip (v := (.b true)) rfl rfl ?_
              refine wo_skip (v := (.b true)) rfl rfl ?_
              refine wo_skip (v := (.b true)) rfl rfl ?_
              refine wo_skip (v := (.b true)) rfl rfl ?_
              refine wo_skip (v := (.b true)) rfl rfl ?_
              refine wo_step (v := (.b true)) (s_pure (p_pickT rfl rfl)) ?_
              refine wo_nil ?_
              cases hr
              exact ⟨_, _, rfl, rfl, gl rfl, gl g2, gl g3, gl g4⟩
            · have hq := bindO_inv hr
              clear hr
              obtain ⟨v29, e29, hr⟩ := hq
              refine wo_take (v := v29) rfl (s_pure (o_faddr g3 e29)) ?_
              have hq := bindO_inv hr
              clear hr
              obtain ⟨v30, e30, hr⟩ := hq
              have hq := asI_inv hr
              clear hr
              obtain ⟨x30, rfl, hr⟩ := hq
              refine wo_take (v := (.i .i64 x30)) rfl (s_ld rfl e30) ?_
              have hq := bindO_inv hr
              clear hr
              obtain ⟨v31, e31, hr⟩ := hq
              refine wo_take (v := v31) rfl (s_pure (o_faddr g2 e31)) ?_
              have hq := bindO_inv hr
              clear hr
              obtain ⟨v32, e32, hr⟩ := hq
              have hq := asI_inv hr
              clear hr
              obtain ⟨x32, rfl, hr⟩ := hq
              refine wo_take (v := (.i .i64 x32)) rfl (s_ld rfl e32) ?_
              have hq := forceB_inv hr
              clear hr
              obtain ⟨c33, e33, hr⟩ := hq
              refine wo_take (v := (.b c33)) rfl (s_pure (p_bin rfl rfl (b_lss.trans (cb e33)))) ?_
              refine wo_step (v := (.b c33)) (s_pure (p_pickF rfl rfl)) ?_
              refine wo_nil ?_
              cases hr
              exact ⟨_, _, rfl, rfl, gl rfl, gl g2, gl g3, gl g4⟩
          · clear hr
            have hr := hk
            clear hk
            obtain ⟨c34, ho⟩ : ∃ z, z = o_2 := ⟨_, rfl⟩
            subst ho
            rintro mm_1 t_2 ⟨rfl, g34, g2, g3, g4⟩
            refine wo_step (v := (.b c34)) (s_pure (p_mv g34)) ?_
            have hq := bindO_inv hr
            clear hr
            obtain ⟨o_3, hr, hk⟩ := hq
            refine wo_join 13 (g67_J3 v2 v4 m_3 o_3) ?_ ?_
            · clear hk
              have hq := cond_inv hr
              clear hr
              rcases hq with ⟨rfl, hr⟩ | ⟨rfl, hr⟩
              · refine wo_skip (v := (.b true)) rfl rfl ?_
                refine wo_skip (v := (.b true)) rfl rfl ?_
                refine wo_skip (v := (.b true)) rfl rfl ?_
                refine wo_skip (v := (.b true)) rfl rfl ?_
                refine wo_skip (v := (.b true)) rfl rfl ?_
                refine wo_skip (v := (.b true)) rfl rfl ?_
                refine wo_skip (v := und) rfl rfl ?_
                refine wo_skip (v := und) rfl rfl ?_
                refine wo_skip (v := und) rfl rfl ?_
                refine wo_skip (v := und) rfl rfl ?_
                refine wo_skip (v := und) rfl rfl ?_
                refine wo_skip (v := (.b true)) rfl rfl ?_
                refine wo_step (v := (.b true)) (s_pure (p_pickT rfl rfl)) ?_
                refine wo_nil ?_
                cases hr
                exact ⟨_, _, rfl, rfl, gl rfl, gl g2, gl g4⟩
              · have hq := bindO_inv hr
                clear hr
                obtain ⟨v36, e36, hr⟩ := hq
                refine wo_take (v := v36) rfl (s_pure (o_faddr g3 e36)) ?_
                have hq := bindO_inv hr
                clear hr
                obtain ⟨v37, e37, hr⟩ := hq
                have hq := asI_inv hr
                clear hr
                obtain ⟨x37, rfl, hr⟩ := hq
                refine wo_take (v := (.i .i64 x37)) rfl (s_ld rfl e37) ?_
                have hq := bindO_inv hr
                clear hr
                obtain ⟨v38, e38, hr⟩ := hq
                refine wo_take (v := v38) rfl (s_pure (o_faddr g2 e38)) ?_
                have hq := bindO_inv hr
                clear hr
                obtain ⟨v39, e39, hr⟩ := hq
                have hq := asI_inv hr
                clear hr
                obtain ⟨x39, rfl, hr⟩ := hq
                refine wo_take (v := (.i .i64 x39)) rfl (s_ld rfl e39) ?_
                have hq := forceB_inv hr
                clear hr
                obtain ⟨c40, e40, hr⟩ := hq
                refine wo_take (v := (.b c40)) rfl (s_pure (p_bin rfl rfl (b_eql.trans (cb e40)))) ?_
                refine wo_take (v := (.b c40)) rfl (s_pure (p_mv rfl)) ?_
                have hq := bindO_inv hr
                clear hr
                obtain ⟨o_4, hr, hk⟩ := hq
                refine wo_join 7 (g67_J4 v2 v4 m_3 o_4) ?_ ?_
                · clear hk
                  have hq := cond_inv hr
                  clear hr
                  rcases hq with ⟨rfl, hr⟩ | ⟨rfl, hr⟩
                  · have hq := bindO_inv hr
                    clear hr
                    obtain ⟨v42, e42, hr⟩ := hq
                    refine wo_take (v := v42) rfl (s_pure (o_faddr g2 e42)) ?_
                    have hq := bindO_inv hr
                    clear hr
                    obtain ⟨v43, e43, hr⟩ := hq
                    have hq := asI_inv hr
                    clear hr
                    obtain ⟨x43, rfl, hr⟩ := hq
                    refine wo_take (v := (.i .u8 x43)) rfl (s_ld rfl e43) ?_
                    have hq := bindO_inv hr
                    clear hr
                    obtain ⟨v44, e44, hr⟩ := hq
                    refine wo_take (v := v44) rfl (s_pure (o_faddr g3 e44)) ?_
                    have hq := bindO_inv hr
                    clear hr
                    obtain ⟨v45, e45, hr⟩ := hq
                    have hq := asI_inv hr
                    clear hr
                    obtain ⟨x45, rfl, hr⟩ := hq
                    refine wo_take (v := (.i .u8 x45)) rfl (s_ld rfl e45) ?_
                    have hq := forceB_inv hr
                    clear hr
                    obtain ⟨c46, e46, hr⟩ := hq
                    refine wo_take (v := (.b c46)) rfl (s_pure (p_bin rfl rfl (b_gtr.trans (cb e46)))) ?_
                    refine wo_take (v := (.b c46)) rfl (s_pure (p_pickT rfl rfl)) ?_
                    refine wo_step (v := (.b c46)) (s_pure (p_pickF rfl rfl)) ?_
                    refine wo_nil ?_
                    cases hr
                    exact ⟨_, _, rfl, rfl, gl rfl, gl g2, gl g4⟩
                  · refine wo_skip (v := (.b false)) rfl rfl ?_
                    refine wo_skip (v := (.b false)) rfl rfl ?_
                    refine wo_skip (v := (.b false)) rfl rfl ?_
                    refine wo_skip (v := (.b false)) rfl rfl ?_
                    refine wo_skip (v := (.b false)) rfl rfl ?_
                    refine wo_take (v := (.b false)) rfl (s_pure (p_pickF rfl rfl)) ?_
                    refine wo_step (v := (.b false)) (s_pure (p_pickF rfl rfl)) ?_
                    refine wo_nil ?_
                    cases hr
                    exact ⟨_, _, rfl, rfl, gl rfl, gl g2, gl g4⟩
                · clear hr
                  have hr := hk
                  clear hk
                  obtain ⟨c48_1, ho⟩ : ∃ z, z = o_4 := ⟨_, rfl⟩
                  subst ho
                  rintro mm_2 t_3 ⟨rfl, g48, g2, g4⟩
                  refine wo_nil ?_
                  cases hr
                  exact ⟨_, _, rfl, rfl, gl g48, gl g2, gl g4⟩
            · clear hr
              have hr := hk
              clear hk
              obtain ⟨c48, ho⟩ : ∃ z, z = o_3 := ⟨_, rfl⟩
              subst ho
              rintro mm_3 t_4 ⟨rfl, g48, g2, g4⟩
              refine wo_step (v := (.b c48)) (s_pure (p_mv g48)) ?_
              refine wo_nil ?_
              cases hr
              exact ⟨_, _, rfl, rfl, rfl, gl rfl, gl g2, gl g4⟩
        · refine w_condF rfl ?_
          refine w_skip ?_
          cases hr
          exact ⟨_, _, rfl, rfl, rfl, gl rfl, gl g2, gl g4⟩
      · clear hr
        have hr := hk
        clear hk
        obtain ⟨c5, ho⟩ : ∃ z, z = o_1 := ⟨_, rfl⟩
        subst ho
        rintro _ mm_5 t_5 ⟨rfl, rfl, g5, g2, g4⟩
        refine nx_norm ?_
        refine w_seq ?_
        refine w_seq ?_
        refine w_ops ?_
        refine wo_step (v := (.b c5)) (s_pure (p_mv g5)) ?_
        refine wo_nil ?_
        refine nx_norm ?_
        have hq := bindO_inv hr
        clear hr
        obtain ⟨o_5, hr, hk⟩ := hq
        refine jp_mono (J := g67_J5 v2 v4 o_5) ?_ ?_
        · clear hk
          have hq := cond_inv hr
          clear hr
          rcases hq with ⟨rfl, hr⟩ | ⟨rfl, hr⟩
          · refine w_condT rfl ?_
            refine w_ops ?_
            have hq := bindO_inv hr
            clear hr
            obtain ⟨v50, e50, hr⟩ := hq
            refine wo_step (v := v50) (s_pure (o_faddr g2 e50)) ?_
            have hq := bindO_inv hr
            clear hr
            obtain ⟨v51, e51, hr⟩ := hq
            have hq := asI_inv hr
            clear hr
            obtain ⟨x51, rfl, hr⟩ := hq
            refine wo_step (v := (.i .i64 x51)) (s_ld rfl e51) ?_
            have hq := forceI_inv hr
            clear hr
            obtain ⟨x52, e52, hr⟩ := hq
            refine wo_step (v := (.i .i64 x52)) (s_pure (p_bin rfl rfl (b_add.trans (ci e52)))) ?_
            have hq := bindO_inv hr
            clear hr
            obtain ⟨v53, e53, hr⟩ := hq
            refine wo_step (v := v53) (s_pure (o_faddr g2 e53)) ?_
            have hq := bindP_inv hr
            clear hr
            obtain ⟨vn_1, m_5, en_1, hr⟩ := hq
            refine wo_stepN (s_st rfl rfl en_1) ?_
            refine wo_nil ?_
            cases hr
            exact ⟨_, _, rfl, rfl, rfl, gl g2, gl g4⟩
          · refine w_condF rfl ?_
            refine w_skip ?_
            cases hr
            exact ⟨_, _, rfl, rfl, rfl, gl g2, gl g4⟩
        · clear hr
          have hr := hk
          clear hk
          obtain ⟨m_6, ho⟩ : ∃ z, z = o_5 := ⟨_, rfl⟩
          subst ho
          rintro _ mm_4 t_6 ⟨rfl, rfl, g2, g4⟩
          refine nx_norm ?_
          refine w_seq ?_
          refine w_ops ?_
          have hq := bindO_inv hr
          clear hr
          obtain ⟨v54, e54, hr⟩ := hq
          refine wo_step (v := v54) (s_ld g2 e54) ?_
          have hq := bindP_inv hr
          clear hr
          obtain ⟨vn_2, m_7, en_2, hr⟩ := hq
          refine wo_stepN (s_st g4 rfl en_2) ?_
          refine wo_nil ?_
          refine nx_norm ?_
          refine w_ret ?_
          have hq := bindO_inv hr
          clear hr
          obtain ⟨vr_1, er_1, hr⟩ := hq
          exact qf ret_ok (rc g4 er_1 rn) hr

/- dibber/note.isLetter -/
abbrev g76_J0 (m0 : Mm) (o : Bool) (m1 : Mm) (t1 : Tr) : Prop :=
  match o with
  | c8 => m0 = m1 ∧ t1.get 8 = (.b c8)
def g76 (M : Means) (ro : List ABlk) (x0 : Int) (m0 : Mm) : Option (AVal × Heap × Nat × Nat) :=
  forceB (!ltI x0 97) fun c4 =>
  bindO (cond c4 (
    forceB (!ltI 122 x0) fun c7 =>
    some c7) (
    some false)) fun c8 =>
  finM m0.h.length (tupA [(.b c8)]) m0

theorem g76_ok {ro : List ABlk} {O : Caller} {M : Means} (hM : M.Ok ⟨F, O⟩ ro) {x0 h r} (ho : O 76 [(.i .u8 x0)] h = none) (hr : g76 M ro x0 ⟨h, h.length, h.length⟩ = some r) : callX ⟨F, O⟩ ro 76 [(.i .u8 x0)] h = some r := by
  refine callX_of (F := ⟨F, O⟩) (fn := fn76) (g := g76 M ro x0) ho rfl rfl hr ?_
  clear ho
  clear hr
  intro m0 t0 ht hr
  have g0 : t0.get 0 = (.i .u8 x0) := ht 0
  clear ht
  unfold g76 at hr
  refine w_seq ?_
  refine w_ops ?_
  refine wo_step (v := (.b false)) (s_pure (p_mv rfl)) ?_
  refine wo_nil ?_
  refine nx_norm ?_
  refine w_seq ?_
  refine w_ops ?_
  refine wo_step (v := (.i .u8 x0)) (s_pure (p_mv g0)) ?_
  have hq := forceB_inv hr
  clear hr
  obtain ⟨c4, e4, hr⟩ := hq
  refine wo_step (v := (.b c4)) (s_pure (p_bin rfl rfl (b_leq.trans (cb e4)))) ?_
  refine wo_step (v := (.b c4)) (s_pure (p_mv rfl)) ?_
  have hq := bindO_inv hr
  clear hr
  obtain ⟨o, hr, hk⟩ := hq
  refine wo_join 3 (g76_J0 m0 o) ?_ ?_
  · clear hk
    have hq := cond_inv hr
    clear hr
    rcases hq with ⟨rfl, hr⟩ | ⟨rfl, hr⟩
    · refine wo_take (v := (.i .u8 x0)) rfl (s_pure (p_mv g0)) ?_
      have hq := forceB_inv hr
      clear hr
      obtain ⟨c7, e7, hr⟩ := hq
      refine wo_take (v := (.b c7)) rfl (s_pure (p_bin rfl rfl (b_leq.trans (cb e7)))) ?_
      refine wo_step (v := (.b c7)) (s_pure (p_pickT rfl rfl)) ?_
      refine wo_nil ?_
      cases hr
      exact ⟨_, _, rfl, rfl, gl rfl⟩
    · refine wo_skip (v := (.b false)) rfl rfl ?_
      refine wo_skip (v := (.b false)) rfl rfl ?_
      refine wo_step (v := (.b false)) (s_pure (p_pickF rfl rfl)) ?_
      refine wo_nil ?_
      cases hr
      exact ⟨_, _, rfl, rfl, gl rfl⟩
  · clear hr
    have hr := hk
    clear hk
    obtain ⟨c8, ho⟩ : ∃ z, z = o := ⟨_, rfl⟩
    subst ho
    rintro mm t_1 ⟨rfl, g8⟩
    refine wo_step (v := (.b c8)) (s_pure (p_mv g8)) ?_
    refine wo_nil ?_
    refine nx_norm ?_
    refine w_ret ?_
    exact qf ret_ok (rt rfl rn) hr

/- dibber/note.isFrom -/
abbrev g77_J0 (m0 : Mm) (o : Bool) (m1 : Mm) (t1 : Tr) : Prop :=
  match o with
  | c14 => m0 = m1 ∧ t1.get 14 = (.b c14)
def g77 (M : Means) (ro : List ABlk) (x0 : Int) (x1 : Int) (x2 : Int) (m0 : Mm) : Option (AVal × Heap × Nat × Nat) :=
  forceB (!ltI x1 x0) fun c9 =>
  bindO (cond c9 (
    forceB (!ltI x2 x1) fun c13 =>
    some c13) (
    some false)) fun c14 =>
  finM m0.h.length (tupA [(.b c14)]) m0

theorem g77_ok {ro : List ABlk} {O : Caller} {M : Means} (hM : M.Ok ⟨F, O⟩ ro) {x0 x1 x2 h r} (ho : O 77 [(.i .i64 x0), (.i .i64 x1), (.i .i64 x2)] h = none) (hr : g77 M ro x0 x1 x2 ⟨h, h.length, h.length⟩ = some r) : callX ⟨F, O⟩ ro 77 [(.i .i64 x0), (.i .i64 x1), (.i .i64 x2)] h = some r := by
  refine callX_of (F := ⟨F, O⟩) (fn := fn77) (g := g77 M ro x0 x1 x2) ho rfl rfl hr ?_
  clear ho
  clear hr
  intro m0 t0 ht hr
  have g0 : t0.get 0 = (.i .i64 x0) := ht 0
  have g1 : t0.get 1 = (.i .i64 x1) := ht 1
  have g2 : t0.get 2 = (.i .i64 x2) := ht 2
  clear ht
  unfold g77 at hr
  refine w_seq ?_
  refine w_ops ?_
  refine wo_step (v := (.b false)) (s_pure (p_mv rfl)) ?_
  refine wo_nil ?_
  refine nx_norm ?_
  refine w_seq ?_
  refine w_ops ?_
  refine wo_step (v := (.i .i64 x0)) (s_pure (p_mv g0)) ?_
  refine wo_step (v := (.i .i64 x1)) (s_pure (p_mv g1)) ?_
  have hq := forceB_inv hr
  clear hr
  obtain ⟨c9, e9, hr⟩ := hq
  refine wo_step (v := (.b c9)) (s_pure (p_bin rfl rfl (b_leq.trans (cb e9)))) ?_
  refine wo_step (v := (.b c9)) (s_pure (p_mv rfl)) ?_
  have hq := bindO_inv hr
  clear hr
  obtain ⟨o, hr, hk⟩ := hq
  refine wo_join 4 (g77_J0 m0 o) ?_ ?_
  · clear hk
    have hq := cond_inv hr
    clear hr
    rcases hq with ⟨rfl, hr⟩ | ⟨rfl, hr⟩
    · refine wo_take (v := (.i .i64 x1)) rfl (s_pure (p_mv g1)) ?_
      refine wo_take (v := (.i .i64 x2)) rfl (s_pure (p_mv g2)) ?_
      have hq := forceB_inv hr
      clear hr
      obtain ⟨c13, e13, hr⟩ := hq
      refine wo_take (v := (.b c13)) rfl (s_pure (p_bin rfl rfl (b_leq.trans (cb e13)))) ?_
      refine wo_step (v := (.b c13)) (s_pure (p_pickT rfl rfl)) ?_
      refine wo_nil ?_
      cases hr
      exact ⟨_, _, rfl, rfl, gl rfl⟩
    · refine wo_skip (v := (.b false)) rfl rfl ?_
      refine wo_skip (v := (.b false)) rfl rfl ?_
      refine wo_skip (v := (.b false)) rfl rfl ?_
      refine wo_step (v := (.b false)) (s_pure (p_pickF rfl rfl)) ?_
      refine wo_nil ?_
      cases hr
      exact ⟨_, _, rfl, rfl, gl rfl⟩
  · clear hr
    have hr := hk
    clear hk
    obtain ⟨c14, ho⟩ : ∃ z, z = o := ⟨_, rfl⟩
    subst ho
    rintro mm t_1 ⟨rfl, g14⟩
    refine wo_step (v := (.b c14)) (s_pure (p_mv g14)) ?_
    refine wo_nil ?_
    refine nx_norm ?_
    refine w_ret ?_
    exact qf ret_ok (rt rfl rn) hr

/- (dibber/note.Desk).isNone -/
abbrev g83_J0 (m0 : Mm) (o : Bool) (m1 : Mm) (t1 : Tr) : Prop :=
  match o with
  | c12 => m0 = m1 ∧ t1.get 12 = (.b c12)
def g83 (M : Means) (ro : List ABlk) (v0 : AVal) (m0 : Mm) : Option (AVal × Heap × Nat × Nat) :=
  bindO (evP .e (.nilp false (.c v0))) fun v4 =>
  asB v4 fun c4 =>
  bindO (cond c4 (
    some true) (
    bindO (evP .e (.nilm [("Error", [(8, (104, [])), (10, (106, [])), (11, (108, [])), (14, (110, [])), (19, (117, []))]), ("RuntimeError", [(8, (105, [])), (10, (107, [])), (11, (109, [])), (14, (111, [])), (19, (118, []))]), ("String", [(140, (119, []))])] (.c v0))) fun v7 =>
    bindO (evP .e (.faddr 1 (.c v7))) fun v8 =>
    bindO (ldM ro m0 true 1 v8) fun v9 =>
    bindO (evP .e (.len false (.c v9))) fun v10 =>
    asI .i64 v10 fun x10 =>
    forceB (eqI x10 0) fun c11 =>
    some c11)) fun c12 =>
  finM m0.h.length (tupA [(.b c12)]) m0

theorem g83_ok {ro : List ABlk} {O : Caller} {M : Means} (hM : M.Ok ⟨F, O⟩ ro) {v0 h r} (ho : O 83 [v0] h = none) (hr : g83 M ro v0 ⟨h, h.length, h.length⟩ = some r) : callX ⟨F, O⟩ ro 83 [v0] h = some r := by
  refine callX_of (F := ⟨F, O⟩) (fn := fn83) (g := g83 M ro v0) ho rfl rfl hr ?_
  clear ho
  clear hr
  intro m0 t0 ht hr
  have g0 : t0.get 0 = v0 := ht 0
  clear ht
  unfold g83 at hr
  refine w_seq ?_
  refine w_ops ?_
  refine wo_step (v := (.b false)) (s_pure (p_mv rfl)) ?_
  refine wo_nil ?_
  refine nx_norm ?_
  refine w_seq ?_
  refine w_ops ?_
  refine wo_step (v := v0) (s_pure (p_mv g0)) ?_
  have hq := bindO_inv hr
  clear hr
  obtain ⟨v4, e4, hr⟩ := hq
  have hq := asB_inv hr
  clear hr
  obtain ⟨c4, rfl, hr⟩ := hq
  refine wo_step (v := (.b c4)) (s_pure (o_nilp rfl e4)) ?_
  refine wo_step (v := (.b c4)) (s_pure (p_mv rfl)) ?_
  have hq := bindO_inv hr
  clear hr
  obtain ⟨o, hr, hk⟩ := hq
  refine wo_join 7 (g83_J0 m0 o) ?_ ?_
  · clear hk
    have hq := cond_inv hr
    clear hr
    rcases hq with ⟨rfl, hr⟩ | ⟨rfl, hr⟩
    · refine wo_skip (v := (.b true)) rfl rfl ?_
      refine wo_skip (v := (.b true)) rfl rfl ?_
      refine wo_skip (v := (.b true)) rfl rfl ?_
      refine wo_skip (v := (.b true)) rfl rfl ?_
      refine wo_skip (v := (.b true)) rfl rfl ?_
      refine wo_skip (v := (.b true)) rfl rfl ?_
      refine wo_step (v := (.b true)) (s_pure (p_pickT rfl rfl)) ?_
      refine wo_nil ?_
      cases hr
      exact ⟨_, _, rfl, rfl, gl rfl⟩
    · refine wo_take (v := v0) rfl (s_pure (p_mv g0)) ?_
      have hq := bindO_inv hr
      clear hr
      obtain ⟨v7, e7, hr⟩ := hq
      refine wo_take (v := v7) rfl (s_pure (o_nilm rfl e7)) ?_
      have hq := bindO_inv hr
      clear hr
      obtain ⟨v8, e8, hr⟩ := hq
      refine wo_take (v := v8) rfl (s_pure (o_faddr rfl e8)) ?_
      have hq := bindO_inv hr
      clear hr
      obtain ⟨v9, e9, hr⟩ := hq
      refine wo_take (v := v9) rfl (s_ld rfl e9) ?_
      have hq := bindO_inv hr
      clear hr
      obtain ⟨v10, e10, hr⟩ := hq
      have hq := asI_inv hr
      clear hr
      obtain ⟨x10, rfl, hr⟩ := hq
      refine wo_take (v := (.i .i64 x10)) rfl (s_pure (o_len rfl e10)) ?_
      have hq := forceB_inv hr
      clear hr
      obtain ⟨c11, e11, hr⟩ := hq
      refine wo_take (v := (.b c11)) rfl (s_pure (p_bin rfl rfl (b_eql.trans (cb e11)))) ?_
      refine wo_step (v := (.b c11)) (s_pure (p_pickF rfl rfl)) ?_
      refine wo_nil ?_
      cases hr
      exact ⟨_, _, rfl, rfl, gl rfl⟩
  · clear hr
    have hr := hk
    clear hk
    obtain ⟨c12, ho⟩ : ∃ z, z = o := ⟨_, rfl⟩
    subst ho
    rintro mm t_1 ⟨rfl, g12⟩
    refine wo_step (v := (.b c12)) (s_pure (p_mv g12)) ?_
    refine wo_nil ?_
    refine nx_norm ?_
    refine w_ret ?_
    exact qf ret_ok (rt rfl rn) hr

/- (dibber/note.Desk).who -/

def g84 (M : Means) (ro : List ABlk) (v0 : AVal) (x1 : Int) (m0 : Mm) : Option (AVal × Heap × Nat × Nat) :=
  bindP (callM M.call m0 83 [v0]) fun v7 m_1 =>
  asB v7 fun c7 =>
  cond c7 (
    finM m0.h.length (tupA [(AVal.p none), (.i .i64 1)]) m_1) (
    bindO (evP .e (.nilm [("Error", [(8, (104, [])), (10, (106, [])), (11, (108, [])), (14, (110, [])), (19, (117, []))]), ("RuntimeError", [(8, (105, [])), (10, (107, [])), (11, (109, [])), (14, (111, [])), (19, (118, []))]), ("String", [(140, (119, []))])] (.c v0))) fun v10 =>
    bindO (evP .e (.faddr 1 (.c v10))) fun v11 =>
    bindO (ldM ro m_1 true 1 v11) fun v12 =>
    bindO (evP .e (.len false (.c v12))) fun v13 =>
    asI .i64 v13 fun x13 =>
    forceI (wr .i64 (x13 - 1)) fun x14 =>
    bindP (callM M.call m_1 77 [(.i .i64 0), (.i .i64 x1), (.i .i64 x14)]) fun v15 m_2 =>
    asB v15 fun c15 =>
    forceB (!c15) fun c16 =>
    cond c16 (
      finM m0.h.length (tupA [(AVal.p none), (.i .i64 2)]) m_2) (
      bindO (evP .e (.nilm [("Error", [(8, (104, [])), (10, (106, [])), (11, (108, [])), (14, (110, [])), (19, (117, []))]), ("RuntimeError", [(8, (105, [])), (10, (107, [])), (11, (109, [])), (14, (111, [])), (19, (118, []))]), ("String", [(140, (119, []))])] (.c v0))) fun v18 =>
      bindO (evP .e (.faddr 1 (.c v18))) fun v19 =>
      bindO (ldM ro m_2 true 1 v19) fun v20 =>
      bindO (evP .e (.ixS 3 (.c v20) (.c (.i .i64 x1)))) fun v22 =>
      finM m0.h.length (tupA [v22, (.i .i64 0)]) m_2))

theorem g84_ok {ro : List ABlk} {O : Caller} {M : Means} (hM : M.Ok ⟨F, O⟩ ro) {v0 x1 h r} (ho : O 84 [v0, (.i .i64 x1)] h = none) (hr : g84 M ro v0 x1 ⟨h, h.length, h.length⟩ = some r) : callX ⟨F, O⟩ ro 84 [v0, (.i .i64 x1)] h = some r := by
  refine callX_of (F := ⟨F, O⟩) (fn := fn84) (g := g84 M ro v0 x1) ho rfl rfl hr ?_
  clear ho
  clear hr
  intro m0 t0 ht hr
  have g0 : t0.get 0 = v0 := ht 0
  have g1 : t0.get 1 = (.i .i64 x1) := ht 1
  clear ht
  unfold g84 at hr
  refine w_seq ?_
  refine w_ops ?_
  refine wo_step (v := (AVal.p none)) (s_pure (p_mv rfl)) ?_
  refine wo_step (v := (.i .i64 0)) (s_pure (p_mv rfl)) ?_
  refine wo_nil ?_
  refine nx_norm ?_
  refine w_seq ?_
  refine w_seq ?_
  refine w_ops ?_
  refine wo_step (v := v0) (s_pure (p_mv g0)) ?_
  have hq := bindP_inv hr
  clear hr
  obtain ⟨v7, m_1, e7, hr⟩ := hq
  have hq := asB_inv hr
  clear hr
  obtain ⟨c7, rfl, hr⟩ := hq
  refine wo_step (v := (.b c7)) (s_call (mc rfl mn) (callM_le hM.call e7)) ?_
  refine wo_nil ?_
  refine nx_norm ?_
  have hq := cond_inv hr
  clear hr
  rcases hq with ⟨rfl, hr⟩ | ⟨rfl, hr⟩
  · refine w_condT rfl ?_
    refine w_seq ?_
    refine w_ops ?_
    refine wo_step (v := (AVal.p none)) (s_pure (p_mv rfl)) ?_
    refine wo_step (v := (.i .i64 1)) (s_pure (p_mv rfl)) ?_
    refine wo_nil ?_
    refine nx_norm ?_
    refine w_ret ?_
    refine nx_ret ?_
    exact qf ret_ok (rt rfl (rt rfl rn)) hr
  · refine w_condF rfl ?_
    refine w_skip ?_
    refine nx_norm ?_
    refine w_seq ?_
    refine w_seq ?_
    refine w_ops ?_
    refine wo_step (v := (.i .i64 x1)) (s_pure (p_mv g1)) ?_
    refine wo_step (v := v0) (s_pure (p_mv g0)) ?_
    have hq := bindO_inv hr
    clear hr
    obtain ⟨v10, e10, hr⟩ := hq
    refine wo_step (v := v10) (s_pure (o_nilm rfl e10)) ?_
    have hq := bindO_inv hr
    clear hr
    obtain ⟨v11, e11, hr⟩ := hq
    refine wo_step (v := v11) (s_pure (o_faddr rfl e11)) ?_
    have hq := bindO_inv hr
    clear hr
    obtain ⟨v12, e12, hr⟩ := hq
    refine wo_step (v := v12) (s_ld rfl e12) ?_
    have hq := bindO_inv hr
    clear hr
    obtain ⟨v13, e13, hr⟩ := hq
    have hq := asI_inv hr
    clear hr
    obtain ⟨x13, rfl, hr⟩ := hq
    refine wo_step (v := (.i .i64 x13)) (s_pure (o_len rfl e13)) ?_
    have hq := forceI_inv hr
    clear hr
    obtain ⟨x14, e14, hr⟩ := hq
    refine wo_step (v := (.i .i64 x14)) (s_pure (p_bin rfl rfl (b_sub.trans (ci e14)))) ?_
    have hq := bindP_inv hr
    clear hr
    obtain ⟨v15, m_2, e15, hr⟩ := hq
    have hq := asB_inv hr
    clear hr
    obtain ⟨c15, rfl, hr⟩ := hq
    refine wo_step (v := (.b c15)) (s_call (mc rfl (mc rfl (mc rfl mn))) (callM_le hM.call e15)) ?_
    have hq := forceB_inv hr
    clear hr
    obtain ⟨c16, e16, hr⟩ := hq
    refine wo_step (v := (.b c16)) (s_pure ((p_not rfl).trans (cb e16))) ?_
    refine wo_nil ?_
    refine nx_norm ?_
    have hq := cond_inv hr
    clear hr
    rcases hq with ⟨rfl, hr⟩ | ⟨rfl, hr⟩
    · refine w_condT rfl ?_
      refine w_seq ?_
      refine w_ops ?_
      refine wo_step (v := (AVal.p none)) (s_pure (p_mv rfl)) ?_
      refine wo_step (v := (.i .i64 2)) (s_pure (p_mv rfl)) ?_
      refine wo_nil ?_
      refine nx_norm ?_
      refine w_ret ?_
      refine nx_ret ?_
      exact qf ret_ok (rt rfl (rt rfl rn)) hr
    · refine w_condF rfl ?_
      refine w_skip ?_
      refine nx_norm ?_
      refine w_seq ?_
      refine w_ops ?_
      refine wo_step (v := v0) (s_pure (p_mv g0)) ?_
      have hq := bindO_inv hr
      clear hr
      obtain ⟨v18, e18, hr⟩ := hq
      refine wo_step (v := v18) (s_pure (o_nilm rfl e18)) ?_
      have hq := bindO_inv hr
      clear hr
      obtain ⟨v19, e19, hr⟩ := hq
      refine wo_step (v := v19) (s_pure (o_faddr rfl e19)) ?_
      have hq := bindO_inv hr
      clear hr
      obtain ⟨v20, e20, hr⟩ := hq
      refine wo_step (v := v20) (s_ld rfl e20) ?_
      refine wo_step (v := (.i .i64 x1)) (s_pure (p_mv g1)) ?_
      have hq := bindO_inv hr
      clear hr
      obtain ⟨v22, e22, hr⟩ := hq
      refine wo_step (v := v22) (s_pure (o_ixS rfl rfl e22)) ?_
      refine wo_step (v := v22) (s_pure (p_mv rfl)) ?_
      refine wo_step (v := (.i .i64 0)) (s_pure (p_mv rfl)) ?_
      refine wo_nil ?_
      refine nx_norm ?_
      refine w_ret ?_
      exact qf ret_ok (rt rfl (rt rfl rn)) hr

/- (dibber/note.Desk).change -/

def g86 (M : Means) (ro : List ABlk) (v0 : AVal) (x1 : Int) (v2 : AVal) (m0 : Mm) : Option (AVal × Heap × Nat × Nat) :=
  bindP (stepM ro m0 (.bx 24 4 (.c v2))) fun v5 m_1 =>
  bindP (callM M.call m_1 84 [v0, (.i .i64 x1)]) fun v13 m_2 =>
  bindO (evP .e (.ext 0 (.c v13))) fun v14 =>
  bindO (evP .e (.ext 1 (.c v13))) fun v15 =>
  asI .i64 v15 fun x15 =>
  forceB (!eqI x15 0) fun c17 =>
  cond c17 (
    finM m0.h.length (tupA [(.i .i64 x15)]) m_2) (
    bindO (some (Mm.base m_2)) fun m_3 =>
    bindO (ldM ro m_3 false 4 v5) fun v19 =>
    bindO (evP .e (.nilm [("Error", [(8, (104, [])), (10, (106, [])), (11, (108, [])), (14, (110, [])), (19, (117, []))]), ("RuntimeError", [(8, (105, [])), (10, (107, [])), (11, (109, [])), (14, (111, [])), (19, (118, []))]), ("String", [(140, (119, []))])] (.c v14))) fun v21 =>
    bindO (evP .e (.faddr 0 (.c v21))) fun v22 =>
    bindO (ldM ro m_3 true 1 v22) fun v23 =>
    bindO (evP .e (.len false (.c v23))) fun v24 =>
    asI .i64 v24 fun x24 =>
    bindP (callM M.call m_3 62 [v19, (.i .i64 x24)]) fun v25 m_4 =>
    asB v25 fun c25 =>
    forceB (!c25) fun c26 =>
    bindO (some (Mm.join m_2 m_4)) fun m_5 =>
    cond c26 (
      finM m0.h.length (tupA [(.i .i64 2)]) m_5) (
      bindO (some (Mm.base m_5)) fun m_6 =>
      bindO (evP .e (.nilm [("Error", [(8, (104, [])), (10, (106, [])), (11, (108, [])), (14, (110, [])), (19, (117, []))]), ("RuntimeError", [(8, (105, [])), (10, (107, [])), (11, (109, [])), (14, (111, [])), (19, (118, []))]), ("String", [(140, (119, []))])] (.c v14))) fun v29 =>
      bindO (evP .e (.faddr 0 (.c v29))) fun v30 =>
      bindO (ldM ro m_6 true 1 v30) fun v31 =>
      bindO (ldM ro m_6 false 4 v5) fun v32 =>
      bindP (callM M.call m_6 63 [v31, v32]) fun v33 m_7 =>
      bindO (evP .e (.ext 0 (.c v33))) fun v34 =>
      bindO (evP .e (.ext 1 (.c v33))) fun v35 =>
      asI .i64 v35 fun x35 =>
      bindO (some (Mm.join m_5 m_7)) fun m_8 =>
      forceB (!eqI x35 0) fun c37 =>
      cond c37 (
        finM m0.h.length (tupA [(.i .i64 x35)]) m_8) (
        bindO (evP .e (.nilm [("Error", [(8, (104, [])), (10, (106, [])), (11, (108, [])), (14, (110, [])), (19, (117, []))]), ("RuntimeError", [(8, (105, [])), (10, (107, [])), (11, (109, [])), (14, (111, [])), (19, (118, []))]), ("String", [(140, (119, []))])] (.c v14))) fun v40 =>
        bindO (evP .e (.faddr 1 (.c v40))) fun v41 =>
        bindO (ldM ro m_8 true 1 v41) fun v42 =>
        bindO (evP .e (.len false (.c v42))) fun v43 =>
        asI .i64 v43 fun x43 =>
        forceB (eqI x43 500) fun c44 =>
        cond c44 (
          finM m0.h.length (tupA [(.i .i64 8)]) m_8) (
          bindO (evP .e (.nilm [("Error", [(8, (104, [])), (10, (106, [])), (11, (108, [])), (14, (110, [])), (19, (117, []))]), ("RuntimeError", [(8, (105, [])), (10, (107, [])), (11, (109, [])), (14, (111, [])), (19, (118, []))]), ("String", [(140, (119, []))])] (.c v14))) fun v47 =>
          bindO (evP .e (.faddr 0 (.c v47))) fun v48 =>
          bindP (stepM ro m_8 (.st 1 (.c v48) (.c v34))) fun vn m_9 =>
          bindO (some (Mm.base m_9)) fun m_10 =>
          bindO (evP .e (.nilm [("Error", [(8, (104, [])), (10, (106, [])), (11, (108, [])), (14, (110, [])), (19, (117, []))]), ("RuntimeError", [(8, (105, [])), (10, (107, [])), (11, (109, [])), (14, (111, [])), (19, (118, []))]), ("String", [(140, (119, []))])] (.c v14))) fun v51 =>
          bindO (evP .e (.faddr 1 (.c v51))) fun v52 =>
          bindO (ldA ro m_9.h true 1 v52) fun v53 =>
          bindO (ldM ro m_10 false 4 v5) fun v54 =>
          bindP (stepM ro m_10 (.bsl 24 4 [(AVal.i IntKind.i64 0), (AVal.i IntKind.i64 0), (AVal.i IntKind.u8 0), (AVal.i IntKind.i64 0)] 1 [((0, 4), .c v54)])) fun v55 m_11 =>
          chk (!Nat.blt m_11.lw m_9.h.length) <|
          bindP (stepM ro m_11 (.app 24 4 32 [(AVal.i IntKind.i64 0), (AVal.i IntKind.i64 0), (AVal.i IntKind.u8 0), (AVal.i IntKind.i64 0)] (.c v53) (.c v55))) fun v56 m_12 =>
          bindO (evP .e (.nilm [("Error", [(8, (104, [])), (10, (106, [])), (11, (108, [])), (14, (110, [])), (19, (117, []))]), ("RuntimeError", [(8, (105, [])), (10, (107, [])), (11, (109, [])), (14, (111, [])), (19, (118, []))]), ("String", [(140, (119, []))])] (.c v14))) fun v57 =>
          bindO (evP .e (.faddr 1 (.c v57))) fun v58 =>
          bindP (stepM ro m_12 (.st 1 (.c v58) (.c v56))) fun vn_1 m_13 =>
          bindO (some (Mm.join m_9 m_13)) fun m_14 =>
          finM m0.h.length (tupA [(.i .i64 0)]) m_14))))

theorem g86_ok {ro : List ABlk} {O : Caller} {M : Means} (hM : M.Ok ⟨F, O⟩ ro) {v0 x1 v2 h r} (ho : O 86 [v0, (.i .i64 x1), v2] h = none) (hr : g86 M ro v0 x1 v2 ⟨h, h.length, h.length⟩ = some r) : callX ⟨F, O⟩ ro 86 [v0, (.i .i64 x1), v2] h = some r := by
  refine callX_of (F := ⟨F, O⟩) (fn := fn86) (g := g86 M ro v0 x1 v2) ho rfl rfl hr ?_
  clear ho
  clear hr
  intro m0 t0 ht hr
  have g0 : t0.get 0 = v0 := ht 0
  have g1 : t0.get 1 = (.i .i64 x1) := ht 1
  have g2 : t0.get 2 = v2 := ht 2
  clear ht
  unfold g86 at hr
  refine w_seq ?_
  refine w_ops ?_
  have hq := bindP_inv hr
  clear hr
  obtain ⟨v5, m_1, e5, hr⟩ := hq
  refine wo_step (v := v5) (s_bx g2 e5) ?_
  refine wo_step (v := (.i .i64 0)) (s_pure (p_mv rfl)) ?_
  refine wo_nil ?_
  refine nx_norm ?_
  refine w_seq ?_
  refine w_ops ?_
  refine wo_step (v := v0) (s_pure (p_mv g0)) ?_
  refine wo_step (v := (.i .i64 x1)) (s_pure (p_mv g1)) ?_
  have hq := bindP_inv hr
  clear hr
  obtain ⟨v13, m_2, e13, hr⟩ := hq
  refine wo_step (v := v13) (s_call (mc rfl (mc rfl mn)) (callM_le hM.call e13)) ?_
  refine wo_step (v := v13) (s_pure (p_mv rfl)) ?_
  have hq := bindO_inv hr
  clear hr
  obtain ⟨v14, e14, hr⟩ := hq
  refine wo_step (v := v14) (s_pure (o_ext rfl e14)) ?_
  have hq := bindO_inv hr
  clear hr
  obtain ⟨v15, e15, hr⟩ := hq
  have hq := asI_inv hr
  clear hr
  obtain ⟨x15, rfl, hr⟩ := hq
  refine wo_step (v := (.i .i64 x15)) (s_pure (o_ext rfl e15)) ?_
  refine wo_step (v := v14) (s_pure (p_mv rfl)) ?_
  refine wo_step (v := (.i .i64 x15)) (s_pure (p_mv rfl)) ?_
  refine wo_nil ?_
  refine nx_norm ?_
  refine w_seq ?_
  refine w_seq ?_
  refine w_ops ?_
  refine wo_step (v := (.i .i64 x15)) (s_pure (p_mv rfl)) ?_
  have hq := forceB_inv hr
  clear hr
  obtain ⟨c17, e17, hr⟩ := hq
  refine wo_step (v := (.b c17)) (s_pure (p_bin rfl rfl (b_neq.trans (cb e17)))) ?_
  refine wo_nil ?_
  refine nx_norm ?_
  have hq := cond_inv hr
  clear hr
  rcases hq with ⟨rfl, hr⟩ | ⟨rfl, hr⟩
  · refine w_condT rfl ?_
    refine w_seq ?_
    refine w_ops ?_
    refine wo_step (v := (.i .i64 x15)) (s_pure (p_mv rfl)) ?_
    refine wo_step (v := (.i .i64 x15)) (s_pure (p_mv rfl)) ?_
    refine wo_nil ?_
    refine nx_norm ?_
    refine w_ret ?_
    refine nx_ret ?_
    exact qf ret_ok (rt rfl rn) hr
  · refine w_condF rfl ?_
    refine w_skip ?_
    refine nx_norm ?_
    refine w_seq ?_
    refine w_seq ?_
    have hq := bindO_inv hr
    clear hr
    obtain ⟨m_3, ef, hr⟩ := hq
    refine w_flt (af := false) rfl ef ?_
    have hq := bindO_inv hr
    clear hr
    obtain ⟨v19, e19, hr⟩ := hq
    refine wf_step (v := v19) (f_P rfl (s_ld rfl e19)) ?_
    refine wf_step (v := v14) (f_P rfl (s_pure (p_mv rfl))) ?_
    have hq := bindO_inv hr
    clear hr
    obtain ⟨v21, e21, hr⟩ := hq
    refine wf_step (v := v21) (f_P rfl (s_pure (o_nilm rfl e21))) ?_
    have hq := bindO_inv hr
    clear hr
    obtain ⟨v22, e22, hr⟩ := hq
    refine wf_step (v := v22) (f_P rfl (s_pure (o_faddr rfl e22))) ?_
    have hq := bindO_inv hr
    clear hr
    obtain ⟨v23, e23, hr⟩ := hq
    refine wf_step (v := v23) (f_P rfl (s_ld rfl e23)) ?_
    have hq := bindO_inv hr
    clear hr
    obtain ⟨v24, e24, hr⟩ := hq
    have hq := asI_inv hr
    clear hr
    obtain ⟨x24, rfl, hr⟩ := hq
    refine wf_step (v := (.i .i64 x24)) (f_P rfl (s_pure (o_len rfl e24))) ?_
    have hq := bindP_inv hr
    clear hr
    obtain ⟨v25, m_4, e25, hr⟩ := hq
    have hq := asB_inv hr
    clear hr
    obtain ⟨c25, rfl, hr⟩ := hq
    refine wf_step (v := (.b c25)) (f_N (s_call (mc rfl (mc rfl mn)) (callM_le hM.call e25))) ?_
    have hq := forceB_inv hr
    clear hr
    obtain ⟨c26, e26, hr⟩ := hq
    refine wf_step (v := (.b c26)) (f_P rfl (s_pure ((p_not rfl).trans (cb e26)))) ?_
    have hq := bindO_inv hr
    clear hr
    obtain ⟨m_5, ef_1, hr⟩ := hq
    refine wf_end ef_1 ?_
    refine nx_norm ?_
    have hq := cond_inv hr
    clear hr
    rcases hq with ⟨rfl, hr⟩ | ⟨rfl, hr⟩
    · refine w_condT rfl ?_
      refine w_seq ?_
      refine w_ops ?_
      refine wo_step (v := (.i .i64 2)) (s_pure (p_mv rfl)) ?_
      refine wo_nil ?_
      refine nx_norm ?_
      refine w_ret ?_
      refine nx_ret ?_
      exact qf ret_ok (rt rfl rn) hr
    · refine w_condF rfl ?_
      refine w_skip ?_
      refine nx_norm ?_
      refine w_seq ?_
      have hq := bindO_inv hr
      clear hr
      obtain ⟨m_6, ef_2, hr⟩ := hq
      refine w_flt (af := false) rfl ef_2 ?_
      refine wf_step (v := v14) (f_P rfl (s_pure (p_mv rfl))) ?_
      have hq := bindO_inv hr
      clear hr
      obtain ⟨v29, e29, hr⟩ := hq
      refine wf_step (v := v29) (f_P rfl (s_pure (o_nilm rfl e29))) ?_
      have hq := bindO_inv hr
      clear hr
      obtain ⟨v30, e30, hr⟩ := hq
      refine wf_step (v := v30) (f_P rfl (s_pure (o_faddr rfl e30))) ?_
      have hq := bindO_inv hr
      clear hr
      obtain ⟨v31, e31, hr⟩ := hq
      refine wf_step (v := v31) (f_P rfl (s_ld rfl e31)) ?_
      have hq := bindO_inv hr
      clear hr
      obtain ⟨v32, e32, hr⟩ := hq
      refine wf_step (v := v32) (f_P rfl (s_ld rfl e32)) ?_
      have hq := bindP_inv hr
      clear hr
      obtain ⟨v33, m_7, e33, hr⟩ := hq
      refine wf_step (v := v33) (f_N (s_call (mc rfl (mc rfl mn)) (callM_le hM.call e33))) ?_
      refine wf_step (v := v33) (f_P rfl (s_pure (p_mv rfl))) ?_
      have hq := bindO_inv hr
      clear hr
      obtain ⟨v34, e34, hr⟩ := hq
      refine wf_step (v := v34) (f_P rfl (s_pure (o_ext rfl e34))) ?_
      have hq := bindO_inv hr
      clear hr
      obtain ⟨v35, e35, hr⟩ := hq
      have hq := asI_inv hr
      clear hr
      obtain ⟨x35, rfl, hr⟩ := hq
      refine wf_step (v := (.i .i64 x35)) (f_P rfl (s_pure (o_ext rfl e35))) ?_
      refine wf_step (v := v34) (f_P rfl (s_pure (p_mv rfl))) ?_
      refine wf_step (v := (.i .i64 x35)) (f_P rfl (s_pure (p_mv rfl))) ?_
      have hq := bindO_inv hr
      clear hr
      obtain ⟨m_8, ef_3, hr⟩ := hq
      refine wf_end ef_3 ?_
      refine nx_norm ?_
      refine w_seq ?_
      refine w_seq ?_
      refine w_ops ?_
      refine wo_step (v := (.i .i64 x35)) (s_pure (p_mv rfl)) ?_
      have hq := forceB_inv hr
      clear hr
      obtain ⟨c37, e37, hr⟩ := hq
      refine wo_step (v := (.b c37)) (s_pure (p_bin rfl rfl (b_neq.trans (cb e37)))) ?_
      refine wo_nil ?_
      refine nx_norm ?_
      have hq := cond_inv hr
      clear hr
      rcases hq with ⟨rfl, hr⟩ | ⟨rfl, hr⟩
      · refine w_condT rfl ?_
        refine w_seq ?_
        refine w_ops ?_
        refine wo_step (v := (.i .i64 x35)) (s_pure (p_mv rfl)) ?_
        refine wo_step (v := (.i .i64 x35)) (s_pure (p_mv rfl)) ?_
        refine wo_nil ?_
        refine nx_norm ?_
        refine w_ret ?_
        refine nx_ret ?_
        exact qf ret_ok (rt rfl rn) hr
      · refine w_condF rfl ?_
        refine w_skip ?_
        refine nx_norm ?_
        refine w_seq ?_
        refine w_seq ?_
        refine w_ops ?_
        refine wo_step (v := v14) (s_pure (p_mv rfl)) ?_
        have hq := bindO_inv hr
        clear hr
        obtain ⟨v40, e40, hr⟩ := hq
        refine wo_step (v := v40) (s_pure (o_nilm rfl e40)) ?_
        have hq := bindO_inv hr
        clear hr
        obtain ⟨v41, e41, hr⟩ := hq
        refine wo_step (v := v41) (s_pure (o_faddr rfl e41)) ?_
        have hq := bindO_inv hr
        clear hr
        obtain ⟨v42, e42, hr⟩ := hq
        refine wo_step (v := v42) (s_ld rfl e42) ?_
        have hq := bindO_inv hr
        clear hr
        obtain ⟨v43, e43, hr⟩ := hq
        have hq := asI_inv hr
        clear hr
        obtain ⟨x43, rfl, hr⟩ := hq
        refine wo_step (v := (.i .i64 x43)) (s_pure (o_len rfl e43)) ?_
        have hq := forceB_inv hr
        clear hr
        obtain ⟨c44, e44, hr⟩ := hq
        refine wo_step (v := (.b c44)) (s_pure (p_bin rfl rfl (b_eql.trans (cb e44)))) ?_
        refine wo_nil ?_
        refine nx_norm ?_
        have hq := cond_inv hr
        clear hr
        rcases hq with ⟨rfl, hr⟩ | ⟨rfl, hr⟩
        · refine w_condT rfl ?_
          refine w_seq ?_
          refine w_ops ?_
          refine wo_step (v := (.i .i64 8)) (s_pure (p_mv rfl)) ?_
          refine wo_nil ?_
          refine nx_norm ?_
          refine w_ret ?_
          refine nx_ret ?_
          exact qf ret_ok (rt rfl rn) hr
        · refine w_condF rfl ?_
          refine w_skip ?_
          refine nx_norm ?_
          refine w_seq ?_
          refine w_ops ?_
          refine wo_step (v := v14) (s_pure (p_mv rfl)) ?_
          refine wo_step (v := v34) (s_pure (p_mv rfl)) ?_
          have hq := bindO_inv hr
          clear hr
          obtain ⟨v47, e47, hr⟩ := hq
          refine wo_step (v := v47) (s_pure (o_nilm rfl e47)) ?_
          have hq := bindO_inv hr
          clear hr
          obtain ⟨v48, e48, hr⟩ := hq
          refine wo_step (v := v48) (s_pure (o_faddr rfl e48)) ?_
          have hq := bindP_inv hr
          clear hr
          obtain ⟨vn, m_9, en, hr⟩ := hq
          refine wo_stepN (s_st rfl rfl en) ?_
          refine wo_nil ?_
          refine nx_norm ?_
          refine w_seq ?_
          have hq := bindO_inv hr
          clear hr
          obtain ⟨m_10, ef_4, hr⟩ := hq
          refine w_flt (af := true) rfl ef_4 ?_
          refine wf_step (v := v14) (f_P rfl (s_pure (p_mv rfl))) ?_
          refine wf_step (v := v14) (f_P rfl (s_pure (p_mv rfl))) ?_
          have hq := bindO_inv hr
          clear hr
          obtain ⟨v51, e51, hr⟩ := hq
          refine wf_step (v := v51) (f_P rfl (s_pure (o_nilm rfl e51))) ?_
          have hq := bindO_inv hr
          clear hr
          obtain ⟨v52, e52, hr⟩ := hq
          refine wf_step (v := v52) (f_P rfl (s_pure (o_faddr rfl e52))) ?_
          have hq := bindO_inv hr
          clear hr
          obtain ⟨v53, e53, hr⟩ := hq
          refine wf_step (v := v53) (f_ld rfl e53) ?_
          have hq := bindO_inv hr
          clear hr
          obtain ⟨v54, e54, hr⟩ := hq
          refine wf_step (v := v54) (f_P rfl (s_ld rfl e54)) ?_
          have hq := bindP_inv hr
          clear hr
          obtain ⟨v55, m_11, e55, hr⟩ := hq
          have hq := chk_inv hr
          clear hr
          obtain ⟨hc55, hr⟩ := hq
          refine wf_step (v := v55) (f_M hc55 (s_bsl (qc rfl qn) e55)) ?_
          have hq := bindP_inv hr
          clear hr
          obtain ⟨v56, m_12, e56, hr⟩ := hq
          refine wf_step (v := v56) (f_F rfl (s_app rfl rfl e56)) ?_
          have hq := bindO_inv hr
          clear hr
          obtain ⟨v57, e57, hr⟩ := hq
          refine wf_step (v := v57) (f_P rfl (s_pure (o_nilm rfl e57))) ?_
          have hq := bindO_inv hr
          clear hr
          obtain ⟨v58, e58, hr⟩ := hq
          refine wf_step (v := v58) (f_P rfl (s_pure (o_faddr rfl e58))) ?_
          have hq := bindP_inv hr
          clear hr
          obtain ⟨vn_1, m_13, en_1, hr⟩ := hq
          refine wf_stepN (f_F rfl (s_st rfl rfl en_1)) ?_
          have hq := bindO_inv hr
          clear hr
          obtain ⟨m_14, ef_5, hr⟩ := hq
          refine wf_end ef_5 ?_
          refine nx_norm ?_
          refine w_seq ?_
          refine w_ops ?_
          refine wo_step (v := (.i .i64 0)) (s_pure (p_mv rfl)) ?_
          refine wo_nil ?_
          refine nx_norm ?_
          refine w_ret ?_
          exact qf ret_ok (rt rfl rn) hr

/- dibber/note.asItIs -/

def g96 (M : Means) (ro : List ABlk) (v0 : AVal) (v1 : AVal) (m0 : Mm) : Option (AVal × Heap × Nat × Nat) :=
  bindP (stepM ro m0 (.bx 24 4 (.c v0))) fun v2 m_1 =>
  bindP (stepM ro m_1 (.bx 24 4 (.c v1))) fun v3 m_2 =>
  bindP (stepM ro m_2 (.al 24 [(AVal.i IntKind.i64 0), (AVal.i IntKind.i64 0), (AVal.i IntKind.u8 0), (AVal.i IntKind.i64 0)])) fun v4 m_3 =>
  bindO (ldM ro m_3 false 4 v2) fun v5 =>
  bindP (stepM ro m_3 (.st 4 (.c v4) (.c v5))) fun vn m_4 =>
  bindO (ldM ro m_4 false 4 v4) fun vr =>
  finM m0.h.length (tupA [vr]) m_4

theorem g96_ok {ro : List ABlk} {O : Caller} {M : Means} (hM : M.Ok ⟨F, O⟩ ro) {v0 v1 h r} (ho : O 96 [v0, v1] h = none) (hr : g96 M ro v0 v1 ⟨h, h.length, h.length⟩ = some r) : callX ⟨F, O⟩ ro 96 [v0, v1] h = some r := by
  refine callX_of (F := ⟨F, O⟩) (fn := fn96) (g := g96 M ro v0 v1) ho rfl rfl hr ?_
  clear ho
  clear hr
  intro m0 t0 ht hr
  have g0 : t0.get 0 = v0 := ht 0
  have g1 : t0.get 1 = v1 := ht 1
  clear ht
  unfold g96 at hr
  refine w_seq ?_
  refine w_ops ?_
  have hq := bindP_inv hr
  clear hr
  obtain ⟨v2, m_1, e2, hr⟩ := hq
  refine wo_step (v := v2) (s_bx g0 e2) ?_
  have hq := bindP_inv hr
  clear hr
  obtain ⟨v3, m_2, e3, hr⟩ := hq
  refine wo_step (v := v3) (s_bx g1 e3) ?_
  have hq := bindP_inv hr
  clear hr
  obtain ⟨v4, m_3, e4, hr⟩ := hq
  refine wo_step (v := v4) (s_al e4) ?_
  refine wo_nil ?_
  refine nx_norm ?_
  refine w_seq ?_
  refine w_ops ?_
  have hq := bindO_inv hr
  clear hr
  obtain ⟨v5, e5, hr⟩ := hq
  refine wo_step (v := v5) (s_ld rfl e5) ?_
  have hq := bindP_inv hr
  clear hr
  obtain ⟨vn, m_4, en, hr⟩ := hq
  refine wo_stepN (s_st rfl rfl en) ?_
  refine wo_nil ?_
  refine nx_norm ?_
  refine w_ret ?_
  have hq := bindO_inv hr
  clear hr
  obtain ⟨vr, er, hr⟩ := hq
  exact qf ret_ok (rc rfl er rn) hr

/- dibber/note.putAgainstPut -/
abbrev g97_J0 (v2 : AVal) (v4 : AVal) (o : Mm) (e : AExit) (m1 : Mm) (t1 : Tr) : Prop :=
  match o with
  | mo => e = .norm ∧ mo = m1 ∧ t1.get 2 = v2 ∧ t1.get 4 = v4
def g97 (M : Means) (ro : List ABlk) (v0 : AVal) (v1 : AVal) (m0 : Mm) : Option (AVal × Heap × Nat × Nat) :=
  bindP (stepM ro m0 (.bx 24 4 (.c v0))) fun v2 m_1 =>
  bindP (stepM ro m_1 (.bx 24 4 (.c v1))) fun v3 m_2 =>
  bindP (stepM ro m_2 (.al 24 [(AVal.i IntKind.i64 0), (AVal.i IntKind.i64 0), (AVal.i IntKind.u8 0), (AVal.i IntKind.i64 0)])) fun v4 m_3 =>
  bindO (some (Mm.base m_3)) fun m_4 =>
  bindO (evP .e (.faddr 1 (.c v3))) fun v5 =>
  bindO (ldM ro m_4 true 1 v5) fun v6 =>
  asI .i64 v6 fun x6 =>
  bindO (evP .e (.faddr 1 (.c v2))) fun v7 =>
  bindO (ldM ro m_4 true 1 v7) fun v8 =>
  asI .i64 v8 fun x8 =>
  bindP (callM M.call m_4 100 [(.i .i64 x6), (.i .i64 x8)]) fun v9 m_5 =>
  asI .i64 v9 fun x9 =>
  chk (!Nat.blt m_5.lw m_3.h.length) <|
  bindO (evP .e (.faddr 3 (.c v3))) fun v10 =>
  bindO (ldA ro m_3.h true 1 v10) fun v11 =>
  asI .i64 v11 fun x11 =>
  bindO (evP .e (.faddr 3 (.c v2))) fun v12 =>
  bindO (ldA ro m_3.h true 1 v12) fun v13 =>
  asI .i64 v13 fun x13 =>
  bindP (callM M.call m_5 100 [(.i .i64 x11), (.i .i64 x13)]) fun v14 m_6 =>
  asI .i64 v14 fun x14 =>
  chk (!Nat.blt m_6.lw m_3.h.length) <|
  bindO (evP .e (.faddr 2 (.c v3))) fun v15 =>
  bindO (ldA ro m_3.h true 1 v15) fun v16 =>
  asI .u8 v16 fun x16 =>
  bindO (evP .e (.faddr 2 (.c v2))) fun v17 =>
  bindO (ldA ro m_3.h true 1 v17) fun v18 =>
  asI .u8 v18 fun x18 =>
  bindP (callM M.call m_6 101 [(.i .u8 x16), (.i .u8 x18)]) fun v19 m_7 =>
  asI .i64 v19 fun x19 =>
  bindP (stepM ro m_7 (.bsl 3 1 [(AVal.i IntKind.i64 0)] 3 [((0, 1), .c (.i .i64 x9)), ((1, 1), .c (.i .i64 x14)), ((2, 1), .c (.i .i64 x19))])) fun v20 m_8 =>
  bindP (callM M.call m_8 99 [v20]) fun v21 m_9 =>
  asI .i64 v21 fun x21 =>
  forceB (ltI x21 0) fun c22 =>
  bindO (some (Mm.join m_3 m_9)) fun m_10 =>
  bindO (α := Mm) (
    cond c22 (
      bindO (evP .e (.faddr 1 (.c v2))) fun v23 =>
      bindO (ldM ro m_10 true 1 v23) fun v24 =>
      asI .i64 v24 fun x24 =>
      forceI (wr .i64 (x24 + 1)) fun x25 =>
      bindO (evP .e (.faddr 1 (.c v2))) fun v26 =>
      bindP (stepM ro m_10 (.st 1 (.c v26) (.c (.i .i64 x25)))) fun vn m_11 =>
      some m_11) (
      some m_10)) fun m_12 =>
  bindO (ldM ro m_12 false 4 v2) fun v27 =>
  bindP (stepM ro m_12 (.st 4 (.c v4) (.c v27))) fun vn_1 m_13 =>
  bindO (ldM ro m_13 false 4 v4) fun vr =>
  finM m0.h.length (tupA [vr]) m_13

theorem g97_ok {ro : List ABlk} {O : Caller} {M : Means} (hM : M.Ok ⟨F, O⟩ ro) {v0 v1 h r} (ho : O 97 [v0, v1] h = none) (hr : g97 M ro v0 v1 ⟨h, h.length, h.length⟩ = some r) : callX ⟨F, O⟩ ro 97 [v0, v1] h = some r := by
  refine callX_of (F := ⟨F, O⟩) (fn := fn97) (g := g97 M ro v0 v1) ho rfl rfl hr ?_
  clear ho
  clear hr
  intro m0 t0 ht hr
  have g0 : t0.get 0 = v0 := ht 0
  have g1 : t0.get 1 = v1 := ht 1
  clear ht
  unfold g97 at hr
  refine w_seq ?_
  refine w_ops ?_
  have hq := bindP_inv hr
  clear hr
  obtain ⟨v2, m_1, e2, hr⟩ := hq
  refine wo_step (v := v2) (s_bx g0 e2) ?_
  have hq := bindP_inv hr
  clear hr
  obtain ⟨v3, m_2, e3, hr⟩ := hq
  refine wo_step (v := v3) (s_bx g1 e3) ?_
  have hq := bindP_inv hr
  clear hr
  obtain ⟨v4, m_3, e4, hr⟩ := hq
  refine wo_step (v := v4) (s_al e4) ?_
  refine wo_nil ?_
  refine nx_norm ?_
  refine w_seq ?_
  refine w_seq ?_
  have hq := bindO_inv hr
  clear hr
  obtain ⟨m_4, ef, hr⟩ := hq
  refine w_flt (af := true) rfl ef ?_
  have hq := bindO_inv hr
  clear hr
  obtain ⟨v5, e5, hr⟩ := hq
  refine wf_step (v := v5) (f_P rfl (s_pure (o_faddr rfl e5))) ?_
  have hq := bindO_inv hr
  clear hr
  obtain ⟨v6, e6, hr⟩ := hq
  have hq := asI_inv hr
  clear hr
  obtain ⟨x6, rfl, hr⟩ := hq
  refine wf_step (v := (.i .i64 x6)) (f_P rfl (s_ld rfl e6)) ?_
  have hq := bindO_inv hr
  clear hr
  obtain ⟨v7, e7, hr⟩ := hq
  refine wf_step (v := v7) (f_P rfl (s_pure (o_faddr rfl e7))) ?_
  have hq := bindO_inv hr
  clear hr
  obtain ⟨v8, e8, hr⟩ := hq
  have hq := asI_inv hr
  clear hr
  obtain ⟨x8, rfl, hr⟩ := hq
  refine wf_step (v := (.i .i64 x8)) (f_P rfl (s_ld rfl e8)) ?_
  have hq := bindP_inv hr
  clear hr
  obtain ⟨v9, m_5, e9, hr⟩ := hq
  have hq := asI_inv hr
  clear hr
  obtain ⟨x9, rfl, hr⟩ := hq
  have hq := chk_inv hr
  clear hr
  obtain ⟨hc9, hr⟩ := hq
  refine wf_step (v := (.i .i64 x9)) (f_M hc9 (s_call (mc rfl (mc rfl mn)) (callM_le hM.call e9))) ?_
  have hq := bindO_inv hr
  clear hr
  obtain ⟨v10, e10, hr⟩ := hq
  refine wf_step (v := v10) (f_P rfl (s_pure (o_faddr rfl e10))) ?_
  have hq := bindO_inv hr
  clear hr
  obtain ⟨v11, e11, hr⟩ := hq
  have hq := asI_inv hr
  clear hr
  obtain ⟨x11, rfl, hr⟩ := hq
  refine wf_step (v := (.i .i64 x11)) (f_ld rfl e11) ?_
  have hq := bindO_inv hr
  clear hr
  obtain ⟨v12, e12, hr⟩ := hq
  refine wf_step (v := v12) (f_P rfl (s_pure (o_faddr rfl e12))) ?_
  have hq := bindO_inv hr
  clear hr
  obtain ⟨v13, e13, hr⟩ := hq
  have hq := asI_inv hr
  clear hr
  obtain ⟨x13, rfl, hr⟩ := hq
  refine wf_step (v := (.i .i64 x13)) (f_ld rfl e13) ?_
  have hq := bindP_inv hr
  clear hr
  obtain ⟨v14, m_6, e14, hr⟩ := hq
  have hq := asI_inv hr
  clear hr
  obtain ⟨x14, rfl, hr⟩ := hq
  have hq := chk_inv hr
  clear hr
  obtain ⟨hc14, hr⟩ := hq
  refine wf_step (v := (.i .i64 x14)) (f_M hc14 (s_call (mc rfl (mc rfl mn)) (callM_le hM.call e14))) ?_
  have hq := bindO_inv hr
  clear hr
  obtain ⟨v15, e15, hr⟩ := hq
  refine wf_step (v := v15) (f_P rfl (s_pure (o_faddr rfl e15))) ?_
  have hq := bindO_inv hr
  clear hr
  obtain ⟨v16, e16, hr⟩ := hq
  have hq := asI_inv hr
  clear hr
  obtain ⟨x16, rfl, hr⟩ := hq
  refine wf_step (v := (.i .u8 x16)) (f_ld rfl e16) ?_
  have hq := bindO_inv hr
  clear hr
  obtain ⟨v17, e17, hr⟩ := hq
  refine wf_step (v := v17) (f_P rfl (s_pure (o_faddr rfl e17))) ?_
  have hq := bindO_inv hr
  clear hr
  obtain ⟨v18, e18, hr⟩ := hq
  have hq := asI_inv hr
  clear hr
  obtain ⟨x18, rfl, hr⟩ := hq
  refine wf_step (v := (.i .u8 x18)) (f_ld rfl e18) ?_
  have hq := bindP_inv hr
  clear hr
  obtain ⟨v19, m_7, e19, hr⟩ := hq
  have hq := asI_inv hr
  clear hr
  obtain ⟨x19, rfl, hr⟩ := hq
  refine wf_step (v := (.i .i64 x19)) (f_F rfl (s_call (mc rfl (mc rfl mn)) (callM_le hM.call e19))) ?_
  have hq := bindP_inv hr
  clear hr
  obtain ⟨v20, m_8, e20, hr⟩ := hq
  refine wf_step (v := v20) (f_F rfl (s_bsl (qc rfl (qc rfl (qc rfl qn))) e20)) ?_
  have hq := bindP_inv hr
  clear hr
  obtain ⟨v21, m_9, e21, hr⟩ := hq
  have hq := asI_inv hr
  clear hr
  obtain ⟨x21, rfl, hr⟩ := hq
  refine wf_step (v := (.i .i64 x21)) (f_F rfl (s_call (mc rfl mn) (callM_le hM.call e21))) ?_
  have hq := forceB_inv hr
  clear hr
  obtain ⟨c22, e22, hr⟩ := hq
  refine wf_step (v := (.b c22)) (f_P rfl (s_pure (p_bin rfl rfl (b_lss.trans (cb e22))))) ?_
  have hq := bindO_inv hr
  clear hr
  obtain ⟨m_10, ef_1, hr⟩ := hq
  refine wf_end ef_1 ?_
  refine nx_norm ?_
  have hq := bindO_inv hr
  clear hr
  obtain ⟨o, hr, hk⟩ := hq
  refine jp_mono (J := g97_J0 v2 v4 o) ?_ ?_
  · clear hk
    have hq := cond_inv hr
    clear hr
    rcases hq with ⟨rfl, hr⟩ | ⟨rfl, hr⟩
    · refine w_condT rfl ?_
      refine w_ops ?_
      have hq := bindO_inv hr
      clear hr
      obtain ⟨v23, e23, hr⟩ := hq
      refine wo_step (v := v23) (s_pure (o_faddr rfl e23)) ?_
      have hq := bindO_inv hr
      clear hr
      obtain ⟨v24, e24, hr⟩ := hq
      have hq := asI_inv hr
      clear hr
      obtain ⟨x24, rfl, hr⟩ := hq
      refine wo_step (v := (.i .i64 x24)) (s_ld rfl e24) ?_
      have hq := forceI_inv hr
      clear hr
      obtain ⟨x25, e25, hr⟩ := hq
      refine wo_step (v := (.i .i64 x25)) (s_pure (p_bin rfl rfl (b_add.trans (ci e25)))) ?_
      have hq := bindO_inv hr
      clear hr
      obtain ⟨v26, e26, hr⟩ := hq
      refine wo_step (v := v26) (s_pure (o_faddr rfl e26)) ?_
      have hq := bindP_inv hr
      clear hr
      obtain ⟨vn, m_11, en, hr⟩ := hq
      refine wo_stepN (s_st rfl rfl en) ?_
      refine wo_nil ?_
      cases hr
      exact ⟨_, _, rfl, rfl, rfl, gl rfl, gl rfl⟩
    · refine w_condF rfl ?_
      refine w_skip ?_
      cases hr
      exact ⟨_, _, rfl, rfl, rfl, gl rfl, gl rfl⟩
  · clear hr
    have hr := hk
    clear hk
    obtain ⟨m_12, ho⟩ : ∃ z, z = o := ⟨_, rfl⟩
    subst ho
    rintro _ mm t_1 ⟨rfl, rfl, g2, g4⟩
    refine nx_norm ?_
    refine w_seq ?_
    refine w_ops ?_
    have hq := bindO_inv hr
    clear hr
    obtain ⟨v27, e27, hr⟩ := hq
    refine wo_step (v := v27) (s_ld g2 e27) ?_
    have hq := bindP_inv hr
    clear hr
    obtain ⟨vn_1, m_13, en_1, hr⟩ := hq
    refine wo_stepN (s_st g4 rfl en_1) ?_
    refine wo_nil ?_
    refine nx_norm ?_
    refine w_ret ?_
    have hq := bindO_inv hr
    clear hr
    obtain ⟨vr, er, hr⟩ := hq
    exact qf ret_ok (rc g4 er rn) hr

/- dibber/note.hideAgainstPut -/
abbrev g98_J0 (v2 : AVal) (v4 : AVal) (o : Mm) (e : AExit) (m1 : Mm) (t1 : Tr) : Prop :=
  match o with
  | mo => e = .norm ∧ mo = m1 ∧ t1.get 2 = v2 ∧ t1.get 4 = v4
def g98 (M : Means) (ro : List ABlk) (v0 : AVal) (v1 : AVal) (m0 : Mm) : Option (AVal × Heap × Nat × Nat) :=
  bindP (stepM ro m0 (.bx 24 4 (.c v0))) fun v2 m_1 =>
  bindP (stepM ro m_1 (.bx 24 4 (.c v1))) fun v3 m_2 =>
  bindP (stepM ro m_2 (.al 24 [(AVal.i IntKind.i64 0), (AVal.i IntKind.i64 0), (AVal.i IntKind.u8 0), (AVal.i IntKind.i64 0)])) fun v4 m_3 =>
  bindO (evP .e (.faddr 1 (.c v3))) fun v5 =>
  bindO (ldM ro m_3 true 1 v5) fun v6 =>
  asI .i64 v6 fun x6 =>
  bindO (evP .e (.faddr 1 (.c v2))) fun v7 =>
  bindO (ldM ro m_3 true 1 v7) fun v8 =>
  asI .i64 v8 fun x8 =>
  forceB (!ltI x8 x6) fun c9 =>
  bindO (α := Mm) (
    cond c9 (
      bindO (evP .e (.faddr 1 (.c v2))) fun v10 =>
      bindO (ldM ro m_3 true 1 v10) fun v11 =>
      asI .i64 v11 fun x11 =>
      forceI (wr .i64 (x11 + 1)) fun x12 =>
      bindO (evP .e (.faddr 1 (.c v2))) fun v13 =>
      bindP (stepM ro m_3 (.st 1 (.c v13) (.c (.i .i64 x12)))) fun vn m_4 =>
      some m_4) (
      some m_3)) fun m_5 =>
  bindO (ldM ro m_5 false 4 v2) fun v14 =>
  bindP (stepM ro m_5 (.st 4 (.c v4) (.c v14))) fun vn_1 m_6 =>
  bindO (ldM ro m_6 false 4 v4) fun vr =>
  finM m0.h.length (tupA [vr]) m_6

theorem g98_ok {ro : List ABlk} {O : Caller} {M : Means} (hM : M.Ok ⟨F, O⟩ ro) {v0 v1 h r} (ho : O 98 [v0, v1] h = none) (hr : g98 M ro v0 v1 ⟨h, h.length, h.length⟩ = some r) : callX ⟨F, O⟩ ro 98 [v0, v1] h = some r := by
  refine callX_of (F := ⟨F, O⟩) (fn := fn98) (g := g98 M ro v0 v1) ho rfl rfl hr ?_
  clear ho
  clear hr
  intro m0 t0 ht hr
  have g0 : t0.get 0 = v0 := ht 0
  have g1 : t0.get 1 = v1 := ht 1
  clear ht
  unfold g98 at hr
  refine w_seq ?_
  refine w_ops ?_
  have hq := bindP_inv hr
  clear hr
  obtain ⟨v2, m_1, e2, hr⟩ := hq
  refine wo_step (v := v2) (s_bx g0 e2) ?_
  have hq := bindP_inv hr
  clear hr
  obtain ⟨v3, m_2, e3, hr⟩ := hq
  refine wo_step (v := v3) (s_bx g1 e3) ?_
  have hq := bindP_inv hr
  clear hr
  obtain ⟨v4, m_3, e4, hr⟩ := hq
  refine wo_step (v := v4) (s_al e4) ?_
  refine wo_nil ?_
  refine nx_norm ?_
  refine w_seq ?_
  refine w_seq ?_
  refine w_ops ?_
  have hq := bindO_inv hr
  clear hr
  obtain ⟨v5, e5, hr⟩ := hq
  refine wo_step (v := v5) (s_pure (o_faddr rfl e5)) ?_
  have hq := bindO_inv hr
  clear hr
  obtain ⟨v6, e6, hr⟩ := hq
  have hq := asI_inv hr
  clear hr
  obtain ⟨x6, rfl, hr⟩ := hq
  refine wo_step (v := (.i .i64 x6)) (s_ld rfl e6) ?_
  have hq := bindO_inv hr
  clear hr
  obtain ⟨v7, e7, hr⟩ := hq
  refine wo_step (v := v7) (s_pure (o_faddr rfl e7)) ?_
  have hq := bindO_inv hr
  clear hr
  obtain ⟨v8, e8, hr⟩ := hq
  have hq := asI_inv hr
  clear hr
  obtain ⟨x8, rfl, hr⟩ := hq
  refine wo_step (v := (.i .i64 x8)) (s_ld rfl e8) ?_
  have hq := forceB_inv hr
  clear hr
  obtain ⟨c9, e9, hr⟩ := hq
  refine wo_step (v := (.b c9)) (s_pure (p_bin rfl rfl (b_leq.trans (cb e9)))) ?_
  refine wo_nil ?_
  refine nx_norm ?_
  have hq := bindO_inv hr
  clear hr
  obtain ⟨o, hr, hk⟩ := hq
  refine jp_mono (J := g98_J0 v2 v4 o) ?_ ?_
  · clear hk
    have hq := cond_inv hr
    clear hr
    rcases hq with ⟨rfl, hr⟩ | ⟨rfl, hr⟩
    · refine w_condT rfl ?_
      refine w_ops ?_
      have hq := bindO_inv hr
      clear hr
      obtain ⟨v10, e10, hr⟩ := hq
      refine wo_step (v := v10) (s_pure (o_faddr rfl e10)) ?_
      have hq := bindO_inv hr
      clear hr
      obtain ⟨v11, e11, hr⟩ := hq
      have hq := asI_inv hr
      clear hr
      obtain ⟨x11, rfl, hr⟩ := hq
      refine wo_step (v := (.i .i64 x11)) (s_ld rfl e11) ?_
      have hq := forceI_inv hr
      clear hr
      obtain ⟨x12, e12, hr⟩ := hq
      refine wo_step (v := (.i .i64 x12)) (s_pure (p_bin rfl rfl (b_add.trans (ci e12)))) ?_
      have hq := bindO_inv hr
      clear hr
      obtain ⟨v13, e13, hr⟩ := hq
      refine wo_step (v := v13) (s_pure (o_faddr rfl e13)) ?_
      have hq := bindP_inv hr
      clear hr
      obtain ⟨vn, m_4, en, hr⟩ := hq
      refine wo_stepN (s_st rfl rfl en) ?_
      refine wo_nil ?_
      cases hr
      exact ⟨_, _, rfl, rfl, rfl, gl rfl, gl rfl⟩
    · refine w_condF rfl ?_
      refine w_skip ?_
      cases hr
      exact ⟨_, _, rfl, rfl, rfl, gl rfl, gl rfl⟩
  · clear hr
    have hr := hk
    clear hk
    obtain ⟨m_5, ho⟩ : ∃ z, z = o := ⟨_, rfl⟩
    subst ho
    rintro _ mm t_1 ⟨rfl, rfl, g2, g4⟩
    refine nx_norm ?_
    refine w_seq ?_
    refine w_ops ?_
    have hq := bindO_inv hr
    clear hr
    obtain ⟨v14, e14, hr⟩ := hq
    refine wo_step (v := v14) (s_ld g2 e14) ?_
    have hq := bindP_inv hr
    clear hr
    obtain ⟨vn_1, m_6, en_1, hr⟩ := hq
    refine wo_stepN (s_st g4 rfl en_1) ?_
    refine wo_nil ?_
    refine nx_norm ?_
    refine w_ret ?_
    have hq := bindO_inv hr
    clear hr
    obtain ⟨vr, er, hr⟩ := hq
    exact qf ret_ok (rc g4 er rn) hr

/- cmp.Or[int] -/
abbrev g99_I0 (v0 : AVal) (x7 : Int) (m0 : Mm) (s : Int) (m1 : Mm) (t1 : Tr) : Prop :=
  match s with
  | x8 => m0 = m1 ∧ t1.get 8 = (.i .i64 x8) ∧ t1.get 3 = (.i .i64 0) ∧ t1.get 6 = v0 ∧ t1.get 7 = (.i .i64 x7)
abbrev g99_J0 (v0 : AVal) (x7 : Int) (m0 : Mm) (o : (Unit ⊕ Int)) (e : AExit) (m1 : Mm) (t1 : Tr) : Prop :=
  match o with
  | (.inl _) => e = (.exit 0) ∧ m0 = m1 ∧ t1.get 3 = (.i .i64 0)
  | (.inr y2) => e = .ret ∧ m0 = m1 ∧ t1.get 2 = (.i .i64 y2)
def g99_b0 (M : Means) (ro : List ABlk) (v0 : AVal) (x7 : Int) (m0 : Mm) (x8 : Int) : Option ((Int) ⊕ ((Unit ⊕ Int))) :=
  forceB (ltI x8 x7) fun c9 =>
  cond c9 (
    bindO (evP .e (.ixS 1 (.c v0) (.c (.i .i64 x8)))) fun v10 =>
    bindO (ldM ro m0 true 1 v10) fun v11 =>
    asI .i64 v11 fun x11 =>
    forceB (!eqI x11 0) fun c14 =>
    cond c14 (
      some (.inr (.inr x11))) (
      forceI (wr .i64 (x8 + 1)) fun x16 =>
      some (.inl x16))) (
    some (.inr (.inl ())))
def g99 (M : Means) (ro : List ABlk) (v0 : AVal) (m0 : Mm) : Option (AVal × Heap × Nat × Nat) :=
  bindO (evP .e (.len false (.c v0))) fun v7 =>
  asI .i64 v7 fun x7 =>
  bindO (M.loop (S := Int) (R := (Unit ⊕ Int)) (fun s => g99_b0 M ro v0 x7 m0 s) 0) fun o => match o with
  | (.inl _) =>
    finM m0.h.length (tupA [(.i .i64 0)]) m0
  | (.inr x2) =>
    finM m0.h.length (tupA [(.i .i64 x2)]) m0

theorem g99_ok {ro : List ABlk} {O : Caller} {M : Means} (hM : M.Ok ⟨F, O⟩ ro) {v0 h r} (ho : O 99 [v0] h = none) (hr : g99 M ro v0 ⟨h, h.length, h.length⟩ = some r) : callX ⟨F, O⟩ ro 99 [v0] h = some r := by
  refine callX_of (F := ⟨F, O⟩) (fn := fn99) (g := g99 M ro v0) ho rfl rfl hr ?_
  clear ho
  clear hr
  intro m0 t0 ht hr
  have g0 : t0.get 0 = v0 := ht 0
  clear ht
  unfold g99 at hr
  refine w_seq ?_
  refine w_ops ?_
  refine wo_step (v := (.i .i64 0)) (s_pure (p_mv rfl)) ?_
  refine wo_nil ?_
  refine nx_norm ?_
  refine w_seq ?_
  refine w_ops ?_
  refine wo_step (v := (.i .i64 0)) (s_pure (p_mv rfl)) ?_
  refine wo_nil ?_
  refine nx_norm ?_
  refine w_seq ?_
  refine w_seq ?_
  refine w_ops ?_
  refine wo_step (v := v0) (s_pure (p_mv g0)) ?_
  have hq := bindO_inv hr
  clear hr
  obtain ⟨v7, e7, hr⟩ := hq
  have hq := asI_inv hr
  clear hr
  obtain ⟨x7, rfl, hr⟩ := hq
  refine wo_step (v := (.i .i64 x7)) (s_pure (o_len rfl e7)) ?_
  refine wo_step (v := (.i .i64 0)) (s_pure (p_mv rfl)) ?_
  refine wo_nil ?_
  refine nx_norm ?_
  refine w_block ?_
  have hq := bindO_inv hr
  clear hr
  obtain ⟨o, hl, hr⟩ := hq
  obtain ⟨n, hl⟩ := hM.loop _ _ _ hl
  refine jp_mono (w_loop _ (g99_I0 v0 x7 m0) (g99_J0 v0 x7 m0) ?_ n _ _ _ _ hl ⟨rfl, gl rfl, gl rfl, gl rfl, gl rfl⟩) ?_
  · clear hr hl
    intro s mm_2 t_1 o hi hr
    obtain ⟨x8, hs⟩ : ∃ z, z = s := ⟨_, rfl⟩
    subst hs
    obtain ⟨rfl, g8, g3, g6, g7⟩ := hi
    unfold g99_b0 at hr
    refine w_seq ?_
    refine w_ops ?_
    have hq := forceB_inv hr
    clear hr
    obtain ⟨c9, e9, hr⟩ := hq
    refine wo_step (v := (.b c9)) (s_pure (p_bin g8 g7 (b_lss.trans (cb e9)))) ?_
    refine wo_nil ?_
    refine nx_norm ?_
    refine w_seq ?_
    have hq := cond_inv hr
    clear hr
    rcases hq with ⟨rfl, hr⟩ | ⟨rfl, hr⟩
    · refine w_condT rfl ?_
      refine w_skip ?_
      refine nx_norm ?_
      refine w_seq ?_
      refine w_block ?_
      refine w_seq ?_
      refine w_ops ?_
      have hq := bindO_inv hr
      clear hr
      obtain ⟨v10, e10, hr⟩ := hq
      refine wo_step (v := v10) (s_pure (o_ixS g6 g8 e10)) ?_
      have hq := bindO_inv hr
      clear hr
      obtain ⟨v11, e11, hr⟩ := hq
      have hq := asI_inv hr
      clear hr
      obtain ⟨x11, rfl, hr⟩ := hq
      refine wo_step (v := (.i .i64 x11)) (s_ld rfl e11) ?_
      refine wo_step (v := (.i .i64 x11)) (s_pure (p_mv rfl)) ?_
      refine wo_nil ?_
      refine nx_norm ?_
      refine w_seq ?_
      refine w_ops ?_
      refine wo_step (v := (.i .i64 x11)) (s_pure (p_mv rfl)) ?_
      refine wo_step (v := (.i .i64 0)) (s_pure (p_mv g3)) ?_
      have hq := forceB_inv hr
      clear hr
      obtain ⟨c14, e14, hr⟩ := hq
      refine wo_step (v := (.b c14)) (s_pure (p_bin rfl rfl (b_neq.trans (cb e14)))) ?_
      refine wo_nil ?_
      refine nx_norm ?_
      have hq := cond_inv hr
      clear hr
      rcases hq with ⟨rfl, hr⟩ | ⟨rfl, hr⟩
      · refine w_condT rfl ?_
        refine w_seq ?_
        refine w_ops ?_
        refine wo_step (v := (.i .i64 x11)) (s_pure (p_mv rfl)) ?_
        refine wo_step (v := (.i .i64 x11)) (s_pure (p_mv rfl)) ?_
        refine wo_nil ?_
        refine nx_norm ?_
        refine w_ret ?_
        refine bk_ret ?_
        refine nx_ret ?_
        cases hr
        exact ⟨_, _, rfl, ne_norm_ret, rfl, rfl, gl rfl⟩
      · refine w_condF rfl ?_
        refine w_skip ?_
        refine bk_norm ?_
        refine nx_norm ?_
        refine w_ops ?_
        have hq := forceI_inv hr
        clear hr
        obtain ⟨x16, e16, hr⟩ := hq
        refine wo_step (v := (.i .i64 x16)) (s_pure (p_bin g8 rfl (b_add.trans (ci e16)))) ?_
        refine wo_step (v := (.i .i64 x16)) (s_pure (p_mv rfl)) ?_
        refine wo_nil ?_
        cases hr
        exact ⟨_, _, rfl, rfl, rfl, gl rfl, gl g3, gl g6, gl g7⟩
    · refine w_condF rfl ?_
      refine w_exit ?_
      refine nx_exit ?_
      cases hr
      exact ⟨_, _, rfl, ne_norm_exit, rfl, rfl, gl g3⟩
  · rcases o with o | o
    · rintro _ mm t_2 ⟨rfl, rfl, g3⟩
      refine bk_hit ?_
      refine nx_norm ?_
      refine w_seq ?_
      refine w_ops ?_
      refine wo_step (v := (.i .i64 0)) (s_pure (p_mv g3)) ?_
      refine wo_step (v := (.i .i64 0)) (s_pure (p_mv rfl)) ?_
      refine wo_nil ?_
      refine nx_norm ?_
      refine w_ret ?_
      exact qf ret_ok (rt rfl rn) hr
    · obtain ⟨x2, ho⟩ : ∃ z, z = o := ⟨_, rfl⟩
      subst ho
      rintro _ mm_1 t_3 ⟨rfl, rfl, g2⟩
      refine bk_ret ?_
      refine nx_ret ?_
      exact qf ret_ok (rt g2 rn) hr

/- cmp.Compare[int] -/

def g100 (M : Means) (ro : List ABlk) (x0 : Int) (x1 : Int) (m0 : Mm) : Option (AVal × Heap × Nat × Nat) :=
  bindP (callM M.call m0 102 [(.i .i64 x0)]) fun v8 m_1 =>
  asB v8 fun c8 =>
  bindP (callM M.call m_1 102 [(.i .i64 x1)]) fun v10 m_2 =>
  asB v10 fun c10 =>
  cond c8 (
    cond c10 (
      finM m0.h.length (tupA [(.i .i64 0)]) m_2) (
      finM m0.h.length (tupA [(.i .i64 (-1))]) m_2)) (
    cond c10 (
      finM m0.h.length (tupA [(.i .i64 1)]) m_2) (
      forceB (ltI x0 x1) fun c16 =>
      cond c16 (
        finM m0.h.length (tupA [(.i .i64 (-1))]) m_2) (
        forceB (ltI x1 x0) fun c19 =>
        cond c19 (
          finM m0.h.length (tupA [(.i .i64 1)]) m_2) (
          finM m0.h.length (tupA [(.i .i64 0)]) m_2))))

theorem g100_ok {ro : List ABlk} {O : Caller} {M : Means} (hM : M.Ok ⟨F, O⟩ ro) {x0 x1 h r} (ho : O 100 [(.i .i64 x0), (.i .i64 x1)] h = none) (hr : g100 M ro x0 x1 ⟨h, h.length, h.length⟩ = some r) : callX ⟨F, O⟩ ro 100 [(.i .i64 x0), (.i .i64 x1)] h = some r := by
  refine callX_of (F := ⟨F, O⟩) (fn := fn100) (g := g100 M ro x0 x1) ho rfl rfl hr ?_
  clear ho
  clear hr
  intro m0 t0 ht hr
  have g0 : t0.get 0 = (.i .i64 x0) := ht 0
  have g1 : t0.get 1 = (.i .i64 x1) := ht 1
  clear ht
  unfold g100 at hr
  refine w_seq ?_
  refine w_ops ?_
  refine wo_step (v := (.i .i64 0)) (s_pure (p_mv rfl)) ?_
  refine wo_nil ?_
  refine nx_norm ?_
  refine w_seq ?_
  refine w_ops ?_
  refine wo_step (v := (.i .i64 x0)) (s_pure (p_mv g0)) ?_
  have hq := bindP_inv hr
  clear hr
  obtain ⟨v8, m_1, e8, hr⟩ := hq
  have hq := asB_inv hr
  clear hr
  obtain ⟨c8, rfl, hr⟩ := hq
  refine wo_step (v := (.b c8)) (s_call (mc rfl mn) (callM_le hM.call e8)) ?_
  refine wo_step (v := (.b c8)) (s_pure (p_mv rfl)) ?_
  refine wo_nil ?_
  refine nx_norm ?_
  refine w_seq ?_
  refine w_ops ?_
  refine wo_step (v := (.i .i64 x1)) (s_pure (p_mv g1)) ?_
  have hq := bindP_inv hr
  clear hr
  obtain ⟨v10, m_2, e10, hr⟩ := hq
  have hq := asB_inv hr
  clear hr
  obtain ⟨c10, rfl, hr⟩ := hq
  refine wo_step (v := (.b c10)) (s_call (mc rfl mn) (callM_le hM.call e10)) ?_
  refine wo_step (v := (.b c10)) (s_pure (p_mv rfl)) ?_
  refine wo_nil ?_
  refine nx_norm ?_
  refine w_seq ?_
  refine w_seq ?_
  refine w_ops ?_
  refine wo_step (v := (.b c8)) (s_pure (p_mv rfl)) ?_
  refine wo_nil ?_
  refine nx_norm ?_
  have hq := cond_inv hr
  clear hr
  rcases hq with ⟨rfl, hr⟩ | ⟨rfl, hr⟩
  · refine w_condT rfl ?_
    refine w_seq ?_
    refine w_seq ?_
    refine w_ops ?_
    refine wo_step (v := (.b c10)) (s_pure (p_mv rfl)) ?_
    refine wo_nil ?_
    refine nx_norm ?_
    have hq := cond_inv hr
    clear hr
    rcases hq with ⟨rfl, hr⟩ | ⟨rfl, hr⟩
    · refine w_condT rfl ?_
      refine w_seq ?_
      refine w_ops ?_
      refine wo_step (v := (.i .i64 0)) (s_pure (p_mv rfl)) ?_
      refine wo_nil ?_
      refine nx_norm ?_
      refine w_ret ?_
      refine nx_ret ?_
      refine nx_ret ?_
      exact qf ret_ok (rt rfl rn) hr
    · refine w_condF rfl ?_
      refine w_skip ?_
      refine nx_norm ?_
      refine w_seq ?_
      refine w_ops ?_
      refine wo_step (v := (.i .i64 (-1))) (s_pure (p_mv rfl)) ?_
      refine wo_nil ?_
      refine nx_norm ?_
      refine w_ret ?_
      refine nx_ret ?_
      exact qf ret_ok (rt rfl rn) hr
  · refine w_condF rfl ?_
    refine w_skip ?_
    refine nx_norm ?_
    refine w_seq ?_
    refine w_seq ?_
    refine w_ops ?_
    refine wo_step (v := (.b c10)) (s_pure (p_mv rfl)) ?_
    refine wo_nil ?_
    refine nx_norm ?_
    have hq := cond_inv hr
    clear hr
    rcases hq with ⟨rfl, hr⟩ | ⟨rfl, hr⟩
    · refine w_condT rfl ?_
      refine w_seq ?_
      refine w_ops ?_
      refine wo_step (v := (.i .i64 1)) (s_pure (p_mv rfl)) ?_
      refine wo_nil ?_
      refine nx_norm ?_
      refine w_ret ?_
      refine nx_ret ?_
      exact qf ret_ok (rt rfl rn) hr
    · refine w_condF rfl ?_
      refine w_skip ?_
      refine nx_norm ?_
      refine w_seq ?_
      refine w_seq ?_
      refine w_ops ?_
      refine wo_step (v := (.i .i64 x0)) (s_pure (p_mv g0)) ?_
      refine wo_step (v := (.i .i64 x1)) (s_pure (p_mv g1)) ?_
      have hq := forceB_inv hr
      clear hr
      obtain ⟨c16, e16, hr⟩ := hq
      refine wo_step (v := (.b c16)) (s_pure (p_bin rfl rfl (b_lss.trans (cb e16)))) ?_
      refine wo_nil ?_
      refine nx_norm ?_
      have hq := cond_inv hr
      clear hr
      rcases hq with ⟨rfl, hr⟩ | ⟨rfl, hr⟩
      · refine w_condT rfl ?_
        refine w_seq ?_
        refine w_ops ?_
        refine wo_step (v := (.i .i64 (-1))) (s_pure (p_mv rfl)) ?_
        refine wo_nil ?_
        refine nx_norm ?_
        refine w_ret ?_
        refine nx_ret ?_
        exact qf ret_ok (rt rfl rn) hr
      · refine w_condF rfl ?_
        refine w_skip ?_
        refine nx_norm ?_
        refine w_seq ?_
        refine w_seq ?_
        refine w_ops ?_
        refine wo_step (v := (.i .i64 x0)) (s_pure (p_mv g0)) ?_
        refine wo_step (v := (.i .i64 x1)) (s_pure (p_mv g1)) ?_
        have hq := forceB_inv hr
        clear hr
        obtain ⟨c19, e19, hr⟩ := hq
        refine wo_step (v := (.b c19)) (s_pure (p_bin rfl rfl (b_gtr.trans (cb e19)))) ?_
        refine wo_nil ?_
        refine nx_norm ?_
        have hq := cond_inv hr
        clear hr
        rcases hq with ⟨rfl, hr⟩ | ⟨rfl, hr⟩
        · refine w_condT rfl ?_
          refine w_seq ?_
          refine w_ops ?_
          refine wo_step (v := (.i .i64 1)) (s_pure (p_mv rfl)) ?_
          refine wo_nil ?_
          refine nx_norm ?_
          refine w_ret ?_
          refine nx_ret ?_
          exact qf ret_ok (rt rfl rn) hr
        · refine w_condF rfl ?_
          refine w_skip ?_
          refine nx_norm ?_
          refine w_seq ?_
          refine w_ops ?_
          refine wo_step (v := (.i .i64 0)) (s_pure (p_mv rfl)) ?_
          refine wo_nil ?_
          refine nx_norm ?_
          refine w_ret ?_
          exact qf ret_ok (rt rfl rn) hr

/- cmp.Compare[byte] -/

def g101 (M : Means) (ro : List ABlk) (x0 : Int) (x1 : Int) (m0 : Mm) : Option (AVal × Heap × Nat × Nat) :=
  bindP (callM M.call m0 103 [(.i .u8 x0)]) fun v8 m_1 =>
  asB v8 fun c8 =>
  bindP (callM M.call m_1 103 [(.i .u8 x1)]) fun v10 m_2 =>
  asB v10 fun c10 =>
  cond c8 (
    cond c10 (
      finM m0.h.length (tupA [(.i .i64 0)]) m_2) (
      finM m0.h.length (tupA [(.i .i64 (-1))]) m_2)) (
    cond c10 (
      finM m0.h.length (tupA [(.i .i64 1)]) m_2) (
      forceB (ltI x0 x1) fun c16 =>
      cond c16 (
        finM m0.h.length (tupA [(.i .i64 (-1))]) m_2) (
        forceB (ltI x1 x0) fun c19 =>
        cond c19 (
          finM m0.h.length (tupA [(.i .i64 1)]) m_2) (
          finM m0.h.length (tupA [(.i .i64 0)]) m_2))))

theorem g101_ok {ro : List ABlk} {O : Caller} {M : Means} (hM : M.Ok ⟨F, O⟩ ro) {x0 x1 h r} (ho : O 101 [(.i .u8 x0), (.i .u8 x1)] h = none) (hr : g101 M ro x0 x1 ⟨h, h.length, h.length⟩ = some r) : callX ⟨F, O⟩ ro 101 [(.i .u8 x0), (.i .u8 x1)] h = some r := by
  refine callX_of (F := ⟨F, O⟩) (fn := fn101) (g := g101 M ro x0 x1) ho rfl rfl hr ?_
  clear ho
  clear hr
  intro m0 t0 ht hr
  have g0 : t0.get 0 = (.i .u8 x0) := ht 0
  have g1 : t0.get 1 = (.i .u8 x1) := ht 1
  clear ht
  unfold g101 at hr
  refine w_seq ?_
  refine w_ops ?_
  refine wo_step (v := (.i .i64 0)) (s_pure (p_mv rfl)) ?_
  refine wo_nil ?_
  refine nx_norm ?_
  refine w_seq ?_
  refine w_ops ?_
  refine wo_step (v := (.i .u8 x0)) (s_pure (p_mv g0)) ?_
  have hq := bindP_inv hr
  clear hr
  obtain ⟨v8, m_1, e8, hr⟩ := hq
  have hq := asB_inv hr
  clear hr
  obtain ⟨c8, rfl, hr⟩ := hq
  refine wo_step (v := (.b c8)) (s_call (mc rfl mn) (callM_le hM.call e8)) ?_
  refine wo_step (v := (.b c8)) (s_pure (p_mv rfl)) ?_
  refine wo_nil ?_
  refine nx_norm ?_
  refine w_seq ?_
  refine w_ops ?_
  refine wo_step (v := (.i .u8 x1)) (s_pure (p_mv g1)) ?_
  have hq := bindP_inv hr
  clear hr
  obtain ⟨v10, m_2, e10, hr⟩ := hq
  have hq := asB_inv hr
  clear hr
  obtain ⟨c10, rfl, hr⟩ := hq
  refine wo_step (v := (.b c10)) (s_call (mc rfl mn) (callM_le hM.call e10)) ?_
  refine wo_step (v := (.b c10)) (s_pure (p_mv rfl)) ?_
  refine wo_nil ?_
  refine nx_norm ?_
  refine w_seq ?_
  refine w_seq ?_
  refine w_ops ?_
  refine wo_step (v := (.b c8)) (s_pure (p_mv rfl)) ?_
  refine wo_nil ?_
  refine nx_norm ?_
  have hq := cond_inv hr
  clear hr
  rcases hq with ⟨rfl, hr⟩ | ⟨rfl, hr⟩
  · refine w_condT rfl ?_
    refine w_seq ?_
    refine w_seq ?_
    refine w_ops ?_
    refine wo_step (v := (.b c10)) (s_pure (p_mv rfl)) ?_
    refine wo_nil ?_
    refine nx_norm ?_
    have hq := cond_inv hr
    clear hr
    rcases hq with ⟨rfl, hr⟩ | ⟨rfl, hr⟩
    · refine w_condT rfl ?_
      refine w_seq ?_
      refine w_ops ?_
      refine wo_step (v := (.i .i64 0)) (s_pure (p_mv rfl)) ?_
      refine wo_nil ?_
      refine nx_norm ?_
      refine w_ret ?_
      refine nx_ret ?_
      refine nx_ret ?_
      exact qf ret_ok (rt rfl rn) hr
    · refine w_condF rfl ?_
      refine w_skip ?_
      refine nx_norm ?_
      refine w_seq ?_
      refine w_ops ?_
      refine wo_step (v := (.i .i64 (-1))) (s_pure (p_mv rfl)) ?_
      refine wo_nil ?_
      refine nx_norm ?_
      refine w_ret ?_
      refine nx_ret ?_
      exact qf ret_ok (rt rfl rn) hr
  · refine w_condF rfl ?_
    refine w_skip ?_
    refine nx_norm ?_
    refine w_seq ?_
    refine w_seq ?_
    refine w_ops ?_
    refine wo_step (v := (.b c10)) (s_pure (p_mv rfl)) ?_
    refine wo_nil ?_
    refine nx_norm ?_
    have hq := cond_inv hr
    clear hr
    rcases hq with ⟨rfl, hr⟩ | ⟨rfl, hr⟩
    · refine w_condT rfl ?_
      refine w_seq ?_
      refine w_ops ?_
      refine wo_step (v := (.i .i64 1)) (s_pure (p_mv rfl)) ?_
      refine wo_nil ?_
      refine nx_norm ?_
      refine w_ret ?_
      refine nx_ret ?_
      exact qf ret_ok (rt rfl rn) hr
    · refine w_condF rfl ?_
      refine w_skip ?_
      refine nx_norm ?_
      refine w_seq ?_
      refine w_seq ?_
      refine w_ops ?_
      refine wo_step (v := (.i .u8 x0)) (s_pure (p_mv g0)) ?_
      refine wo_step (v := (.i .u8 x1)) (s_pure (p_mv g1)) ?_
      have hq := forceB_inv hr
      clear hr
      obtain ⟨c16, e16, hr⟩ := hq
      refine wo_step (v := (.b c16)) (s_pure (p_bin rfl rfl (b_lss.trans (cb e16)))) ?_
      refine wo_nil ?_
      refine nx_norm ?_
      have hq := cond_inv hr
      clear hr
      rcases hq with ⟨rfl, hr⟩ | ⟨rfl, hr⟩
      · refine w_condT rfl ?_
        refine w_seq ?_
        refine w_ops ?_
        refine wo_step (v := (.i .i64 (-1))) (s_pure (p_mv rfl)) ?_
        refine wo_nil ?_
        refine nx_norm ?_
        refine w_ret ?_
        refine nx_ret ?_
        exact qf ret_ok (rt rfl rn) hr
      · refine w_condF rfl ?_
        refine w_skip ?_
        refine nx_norm ?_
        refine w_seq ?_
        refine w_seq ?_
        refine w_ops ?_
        refine wo_step (v := (.i .u8 x0)) (s_pure (p_mv g0)) ?_
        refine wo_step (v := (.i .u8 x1)) (s_pure (p_mv g1)) ?_
        have hq := forceB_inv hr
        clear hr
        obtain ⟨c19, e19, hr⟩ := hq
        refine wo_step (v := (.b c19)) (s_pure (p_bin rfl rfl (b_gtr.trans (cb e19)))) ?_
        refine wo_nil ?_
        refine nx_norm ?_
        have hq := cond_inv hr
        clear hr
        rcases hq with ⟨rfl, hr⟩ | ⟨rfl, hr⟩
        · refine w_condT rfl ?_
          refine w_seq ?_
          refine w_ops ?_
          refine wo_step (v := (.i .i64 1)) (s_pure (p_mv rfl)) ?_
          refine wo_nil ?_
          refine nx_norm ?_
          refine w_ret ?_
          refine nx_ret ?_
          exact qf ret_ok (rt rfl rn) hr
        · refine w_condF rfl ?_
          refine w_skip ?_
          refine nx_norm ?_
          refine w_seq ?_
          refine w_ops ?_
          refine wo_step (v := (.i .i64 0)) (s_pure (p_mv rfl)) ?_
          refine wo_nil ?_
          refine nx_norm ?_
          refine w_ret ?_
          exact qf ret_ok (rt rfl rn) hr

/- cmp.isNaN[int] -/

def g102 (M : Means) (ro : List ABlk) (x0 : Int) (m0 : Mm) : Option (AVal × Heap × Nat × Nat) :=
  forceB (!eqI x0 x0) fun c5 =>
  finM m0.h.length (tupA [(.b c5)]) m0

theorem g102_ok {ro : List ABlk} {O : Caller} {M : Means} (hM : M.Ok ⟨F, O⟩ ro) {x0 h r} (ho : O 102 [(.i .i64 x0)] h = none) (hr : g102 M ro x0 ⟨h, h.length, h.length⟩ = some r) : callX ⟨F, O⟩ ro 102 [(.i .i64 x0)] h = some r := by
  refine callX_of (F := ⟨F, O⟩) (fn := fn102) (g := g102 M ro x0) ho rfl rfl hr ?_
  clear ho
  clear hr
  intro m0 t0 ht hr
  have g0 : t0.get 0 = (.i .i64 x0) := ht 0
  clear ht
  unfold g102 at hr
  refine w_seq ?_
  refine w_ops ?_
  refine wo_step (v := (.b false)) (s_pure (p_mv rfl)) ?_
  refine wo_nil ?_
  refine nx_norm ?_
  refine w_seq ?_
  refine w_ops ?_
  refine wo_step (v := (.i .i64 x0)) (s_pure (p_mv g0)) ?_
  refine wo_step (v := (.i .i64 x0)) (s_pure (p_mv g0)) ?_
  have hq := forceB_inv hr
  clear hr
  obtain ⟨c5, e5, hr⟩ := hq
  refine wo_step (v := (.b c5)) (s_pure (p_bin rfl rfl (b_neq.trans (cb e5)))) ?_
  refine wo_step (v := (.b c5)) (s_pure (p_mv rfl)) ?_
  refine wo_nil ?_
  refine nx_norm ?_
  refine w_ret ?_
  exact qf ret_ok (rt rfl rn) hr

/- cmp.isNaN[byte] -/

def g103 (M : Means) (ro : List ABlk) (x0 : Int) (m0 : Mm) : Option (AVal × Heap × Nat × Nat) :=
  forceB (!eqI x0 x0) fun c5 =>
  finM m0.h.length (tupA [(.b c5)]) m0

theorem g103_ok {ro : List ABlk} {O : Caller} {M : Means} (hM : M.Ok ⟨F, O⟩ ro) {x0 h r} (ho : O 103 [(.i .u8 x0)] h = none) (hr : g103 M ro x0 ⟨h, h.length, h.length⟩ = some r) : callX ⟨F, O⟩ ro 103 [(.i .u8 x0)] h = some r := by
  refine callX_of (F := ⟨F, O⟩) (fn := fn103) (g := g103 M ro x0) ho rfl rfl hr ?_
  clear ho
  clear hr
  intro m0 t0 ht hr
  have g0 : t0.get 0 = (.i .u8 x0) := ht 0
  clear ht
  unfold g103 at hr
  refine w_seq ?_
  refine w_ops ?_
  refine wo_step (v := (.b false)) (s_pure (p_mv rfl)) ?_
  refine wo_nil ?_
  refine nx_norm ?_
  refine w_seq ?_
  refine w_ops ?_
  refine wo_step (v := (.i .u8 x0)) (s_pure (p_mv g0)) ?_
  refine wo_step (v := (.i .u8 x0)) (s_pure (p_mv g0)) ?_
  have hq := forceB_inv hr
  clear hr
  obtain ⟨c5, e5, hr⟩ := hq
  refine wo_step (v := (.b c5)) (s_pure (p_bin rfl rfl (b_neq.trans (cb e5)))) ?_
  refine wo_step (v := (.b c5)) (s_pure (p_mv rfl)) ?_
  refine wo_nil ?_
  refine nx_norm ?_
  refine w_ret ?_
  exact qf ret_ok (rt rfl rn) hr

end Go.Proofs.Ythcadkmfbgonjaa.T

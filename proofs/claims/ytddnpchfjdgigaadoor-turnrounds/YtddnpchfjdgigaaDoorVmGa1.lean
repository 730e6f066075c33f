/- Plain functions, and that the small machine answers as they do. -/
import Derived.Test.YtddnpchfjdgigaaDoorVmP
import Derived.Test.YtddnpchfjdgigaaDoorVmAE
open Go.Vm
set_option linter.unusedVariables false
namespace Go.Proofs.YtddnpchfjdgigaaDoor.T
open Go
/- dibber/dibberref04.step -/
abbrev g59_J0 (v0 : AVal) (x1 : Int) (m0 : Mm) (o : Int) (e : AExit) (m1 : Mm) (t1 : Tr) : Prop :=
  match o with
  | y9 => e = .norm ∧ m0 = m1 ∧ t1.get 9 = (.i .i64 y9) ∧ t1.get 0 = v0 ∧ t1.get 1 = (.i .i64 x1)
abbrev g59_J1 (v0 : AVal) (x1 : Int) (x9 : Int) (m0 : Mm) (o : Bool) (m1 : Mm) (t1 : Tr) : Prop :=
  match o with
  | c25 => m0 = m1 ∧ t1.get 25 = (.b c25) ∧ t1.get 0 = v0 ∧ t1.get 1 = (.i .i64 x1) ∧ t1.get 9 = (.i .i64 x9)
abbrev g59_J2 (v0 : AVal) (x1 : Int) (x9 : Int) (m0 : Mm) (o : Bool) (m1 : Mm) (t1 : Tr) : Prop :=
  match o with
  | c32 => m0 = m1 ∧ t1.get 32 = (.b c32) ∧ t1.get 0 = v0 ∧ t1.get 1 = (.i .i64 x1) ∧ t1.get 9 = (.i .i64 x9)
def g59 (M : Means) (ro : List ABlk) (v0 : AVal) (x1 : Int) (m0 : Mm) : Option (AVal × Heap × Nat × Nat) :=
  forceI (wr .i64 (x1 - 1)) fun x12 =>
  forceB (ltI x1 0) fun c14 =>
  bindO (α := Int) (
    cond c14 (
      forceI (wr .i64 (0 - x1)) fun x16 =>
      forceI (wr .i64 (x16 - 1)) fun x17 =>
      some x17) (
      some x12)) fun x9 =>
  forceB (eqI x1 0) fun c19 =>
  bindO (cond c19 (
    some true) (
    bindO (evP .e (.len false (.c v0))) fun v23 =>
    asI .i64 v23 fun x23 =>
    forceB (ltI x23 x1) fun c24 =>
    some c24)) fun c25 =>
  bindO (cond c25 (
    some true) (
    bindO (evP .e (.len false (.c v0))) fun v29 =>
    asI .i64 v29 fun x29 =>
    forceI (wr .i64 (0 - x29)) fun x30 =>
    forceB (ltI x1 x30) fun c31 =>
    some c31)) fun c32 =>
  cond c32 (
    finM m0.h.length (tupA [(.i .i64 0), (.i .i64 0), (.i .i64 0), (.i .i64 0), (.b false)]) m0) (
    bindO (evP .e (.ixS 4 (.c v0) (.c (.i .i64 x9)))) fun v35 =>
    bindO (ldM ro m0 false 4 v35) fun v36 =>
    bindP (stepM ro m0 (.al 31 [(AVal.i IntKind.i64 0), (AVal.i IntKind.i64 0), (AVal.i IntKind.i64 0), (AVal.i IntKind.i64 0)])) fun v10 m_1 =>
    bindP (stepM ro m_1 (.st 4 (.c v10) (.c v36))) fun vn m_2 =>
    forceB (ltI x1 0) fun c38 =>
    cond c38 (
      bindO (evP .e (.faddr 1 (.c v10))) fun v39 =>
      bindO (ldA ro m_2.h true 1 v39) fun v40 =>
      asI .i64 v40 fun x40 =>
      bindO (evP .e (.faddr 0 (.c v10))) fun v41 =>
      bindO (ldA ro m_2.h true 1 v41) fun v42 =>
      asI .i64 v42 fun x42 =>
      bindO (evP .e (.faddr 3 (.c v10))) fun v43 =>
      bindO (ldA ro m_2.h true 1 v43) fun v44 =>
      asI .i64 v44 fun x44 =>
      forceI (wr .i64 (0 - x44)) fun x45 =>
      bindO (evP .e (.faddr 2 (.c v10))) fun v46 =>
      bindO (ldA ro m_2.h true 1 v46) fun v47 =>
      asI .i64 v47 fun x47 =>
      forceI (wr .i64 (0 - x47)) fun x48 =>
      finM m0.h.length (tupA [(.i .i64 x40), (.i .i64 x42), (.i .i64 x45), (.i .i64 x48), (.b true)]) m_2) (
      bindO (evP .e (.faddr 0 (.c v10))) fun v49 =>
      bindO (ldA ro m_2.h true 1 v49) fun v50 =>
      asI .i64 v50 fun x50 =>
      bindO (evP .e (.faddr 1 (.c v10))) fun v51 =>
      bindO (ldA ro m_2.h true 1 v51) fun v52 =>
      asI .i64 v52 fun x52 =>
      bindO (evP .e (.faddr 2 (.c v10))) fun v53 =>
      bindO (ldA ro m_2.h true 1 v53) fun v54 =>
      asI .i64 v54 fun x54 =>
      bindO (evP .e (.faddr 3 (.c v10))) fun v55 =>
      bindO (ldA ro m_2.h true 1 v55) fun v56 =>
      asI .i64 v56 fun x56 =>
      finM m0.h.length (tupA [(.i .i64 x50), (.i .i64 x52), (.i .i64 x54), (.i .i64 x56), (.b true)]) m_2))

theorem g59_ok {ro : List ABlk} {O : Caller} {M : Means} (hM : M.Ok ⟨F, O⟩ ro) {v0 x1 h r} (ho : O 59 [v0, (.i .i64 x1)] h = none) (hr : g59 M ro v0 x1 ⟨h, h.length, h.length⟩ = some r) : callX ⟨F, O⟩ ro 59 [v0, (.i .i64 x1)] h = some r := by
  refine callX_of (F := ⟨F, O⟩) (fn := fn59) (g := g59 M ro v0 x1) ho rfl rfl hr ?_
  clear ho
  clear hr
  intro m0 t0 ht hr
  have g0 : t0.get 0 = v0 := ht 0
  have g1 : t0.get 1 = (.i .i64 x1) := ht 1
  clear ht
  unfold g59 at hr
  refine w_seq ?_
  refine w_ops ?_
  refine wo_step (v := (.i .i64 0)) (s_pure (p_mv rfl)) ?_
  refine wo_step (v := (.i .i64 0)) (s_pure (p_mv rfl)) ?_
  refine wo_step (v := (.i .i64 0)) (s_pure (p_mv rfl)) ?_
  refine wo_step (v := (.i .i64 0)) (s_pure (p_mv rfl)) ?_
  refine wo_step (v := (.b false)) (s_pure (p_mv rfl)) ?_
  refine wo_nil ?_
  refine nx_norm ?_
  refine w_seq ?_
  refine w_ops ?_
  refine wo_step (v := (.i .i64 x1)) (s_pure (p_mv g1)) ?_
  have hq := forceI_inv hr
  clear hr
  obtain ⟨x12, e12, hr⟩ := hq
  refine wo_step (v := (.i .i64 x12)) (s_pure (p_bin rfl rfl (b_sub.trans (ci e12)))) ?_
  refine wo_step (v := (.i .i64 x12)) (s_pure (p_mv rfl)) ?_
  refine wo_nil ?_
  refine nx_norm ?_
  refine w_seq ?_
  refine w_seq ?_
  refine w_ops ?_
  refine wo_step (v := (.i .i64 x1)) (s_pure (p_mv g1)) ?_
  have hq := forceB_inv hr
  clear hr
  obtain ⟨c14, e14, hr⟩ := hq
  refine wo_step (v := (.b c14)) (s_pure (p_bin rfl rfl (b_lss.trans (cb e14)))) ?_
  refine wo_nil ?_
  refine nx_norm ?_
  have hq := bindO_inv hr
  clear hr
  obtain ⟨o, hr, hk⟩ := hq
  refine jp_mono (J := g59_J0 v0 x1 m0 o) ?_ ?_
  · clear hk
    have hq := cond_inv hr
    clear hr
    rcases hq with ⟨rfl, hr⟩ | ⟨rfl, hr⟩
    · refine w_condT rfl ?_
      refine w_ops ?_
      refine wo_step (v := (.i .i64 x1)) (s_pure (p_mv g1)) ?_
      have hq := forceI_inv hr
      clear hr
      obtain ⟨x16, e16, hr⟩ := hq
      refine wo_step (v := (.i .i64 x16)) (s_pure ((p_neg rfl).trans (ci e16))) ?_
      have hq := forceI_inv hr
      clear hr
      obtain ⟨x17, e17, hr⟩ := hq
      refine wo_step (v := (.i .i64 x17)) (s_pure (p_bin rfl rfl (b_sub.trans (ci e17)))) ?_
      refine wo_step (v := (.i .i64 x17)) (s_pure (p_mv rfl)) ?_
      refine wo_nil ?_
      cases hr
      exact ⟨_, _, rfl, rfl, rfl, gl rfl, gl g0, gl g1⟩
    · refine w_condF rfl ?_
      refine w_skip ?_
      cases hr
      exact ⟨_, _, rfl, rfl, rfl, gl rfl, gl g0, gl g1⟩
  · have hr := hk
    clear hk
    obtain ⟨x9, ho⟩ : ∃ z, z = o := ⟨_, rfl⟩
    subst ho
    rintro _ mm_2 t_1 ⟨rfl, rfl, g9, g0, g1⟩
    refine nx_norm ?_
    refine w_seq ?_
    refine w_seq ?_
    refine w_ops ?_
    refine wo_step (v := (.i .i64 x1)) (s_pure (p_mv g1)) ?_
    have hq := forceB_inv hr
    clear hr
    obtain ⟨c19, e19, hr⟩ := hq
    refine wo_step (v := (.b c19)) (s_pure (p_bin rfl rfl (b_eql.trans (cb e19)))) ?_
    refine wo_step (v := (.b c19)) (s_pure (p_mv rfl)) ?_
    have hq := bindO_inv hr
    clear hr
    obtain ⟨o_1, hr, hk⟩ := hq
    refine wo_join 5 (g59_J1 v0 x1 x9 m0 o_1) ?_ ?_
    · clear hk
      have hq := cond_inv hr
      clear hr
      rcases hq with ⟨rfl, hr⟩ | ⟨rfl, hr⟩
      · refine wo_skip (v := (.b true)) rfl rfl ?_
        refine wo_skip (v := (.b true)) rfl rfl ?_
        refine wo_skip (v := (.b true)) rfl rfl ?_
        refine wo_skip (v := (.b true)) rfl rfl ?_
        refine wo_step (v := (.b true)) (s_pure (p_pickT rfl rfl)) ?_
        refine wo_nil ?_
        cases hr
        exact ⟨_, _, rfl, rfl, gl rfl, gl g0, gl g1, gl g9⟩
      · refine wo_take (v := (.i .i64 x1)) rfl (s_pure (p_mv g1)) ?_
        refine wo_take (v := v0) rfl (s_pure (p_mv g0)) ?_
        have hq := bindO_inv hr
        clear hr
        obtain ⟨v23, e23, hr⟩ := hq
        have hq := asI_inv hr
        clear hr
        obtain ⟨x23, rfl, hr⟩ := hq
        refine wo_take (v := (.i .i64 x23)) rfl (s_pure (o_len rfl e23)) ?_
        have hq := forceB_inv hr
        clear hr
        obtain ⟨c24, e24, hr⟩ := hq
        refine wo_take (v := (.b c24)) rfl (s_pure (p_bin rfl rfl (b_gtr.trans (cb e24)))) ?_
        refine wo_step (v := (.b c24)) (s_pure (p_pickF rfl rfl)) ?_
        refine wo_nil ?_
        cases hr
        exact ⟨_, _, rfl, rfl, gl rfl, gl g0, gl g1, gl g9⟩
    · clear hr
      have hr := hk
      clear hk
      obtain ⟨c25, ho⟩ : ∃ z, z = o_1 := ⟨_, rfl⟩
      subst ho
      rintro mm t_2 ⟨rfl, g25, g0, g1, g9⟩
      refine wo_step (v := (.b c25)) (s_pure (p_mv g25)) ?_
      have hq := bindO_inv hr
      clear hr
      obtain ⟨o_2, hr, hk⟩ := hq
      refine wo_join 6 (g59_J2 v0 x1 x9 m0 o_2) ?_ ?_
      · clear hk
        have hq := cond_inv hr
        clear hr
        rcases hq with ⟨rfl, hr⟩ | ⟨rfl, hr⟩
        · refine wo_skip (v := (.b true)) rfl rfl ?_
          refine wo_skip (v := (.b true)) rfl rfl ?_
          refine wo_skip (v := (.b true)) rfl rfl ?_
          refine wo_skip (v := (.b true)) rfl rfl ?_
          refine wo_skip (v := (.b true)) rfl rfl ?_
          refine wo_step (v := (.b true)) (s_pure (p_pickT rfl rfl)) ?_
          refine wo_nil ?_
          cases hr
          exact ⟨_, _, rfl, rfl, gl rfl, gl g0, gl g1, gl g9⟩
        · refine wo_take (v := (.i .i64 x1)) rfl (s_pure (p_mv g1)) ?_
          refine wo_take (v := v0) rfl (s_pure (p_mv g0)) ?_
          have hq := bindO_inv hr
          clear hr
          obtain ⟨v29, e29, hr⟩ := hq
          have hq := asI_inv hr
          clear hr
          obtain ⟨x29, rfl, hr⟩ := hq
          refine wo_take (v := (.i .i64 x29)) rfl (s_pure (o_len rfl e29)) ?_
          have hq := forceI_inv hr
          clear hr
          obtain ⟨x30, e30, hr⟩ := hq
          refine wo_take (v := (.i .i64 x30)) rfl (s_pure ((p_neg rfl).trans (ci e30))) ?_
          have hq := forceB_inv hr
          clear hr
          obtain ⟨c31, e31, hr⟩ := hq
          refine wo_take (v := (.b c31)) rfl (s_pure (p_bin rfl rfl (b_lss.trans (cb e31)))) ?_
          refine wo_step (v := (.b c31)) (s_pure (p_pickF rfl rfl)) ?_
          refine wo_nil ?_
          cases hr
          exact ⟨_, _, rfl, rfl, gl rfl, gl g0, gl g1, gl g9⟩
      · clear hr
        have hr := hk
        clear hk
        obtain ⟨c32, ho⟩ : ∃ z, z = o_2 := ⟨_, rfl⟩
        subst ho
        rintro mm_1 t_3 ⟨rfl, g32, g0, g1, g9⟩
        refine wo_nil ?_
        refine nx_norm ?_
        have hq := cond_inv hr
        clear hr
        rcases hq with ⟨rfl, hr⟩ | ⟨rfl, hr⟩
        · refine w_condT g32 ?_
          refine w_seq ?_
          refine w_ops ?_
          refine wo_step (v := (.i .i64 0)) (s_pure (p_mv rfl)) ?_
          refine wo_step (v := (.i .i64 0)) (s_pure (p_mv rfl)) ?_
          refine wo_step (v := (.i .i64 0)) (s_pure (p_mv rfl)) ?_
          refine wo_step (v := (.i .i64 0)) (s_pure (p_mv rfl)) ?_
          refine wo_step (v := (.b false)) (s_pure (p_mv rfl)) ?_
          refine wo_nil ?_
          refine nx_norm ?_
          refine w_ret ?_
          refine nx_ret ?_
          exact qf ret_ok (rt rfl (rt rfl (rt rfl (rt rfl (rt rfl rn))))) hr
        · refine w_condF g32 ?_
          refine w_skip ?_
          refine nx_norm ?_
          refine w_seq ?_
          refine w_ops ?_
          refine wo_step (v := v0) (s_pure (p_mv g0)) ?_
          refine wo_step (v := (.i .i64 x9)) (s_pure (p_mv g9)) ?_
          have hq := bindO_inv hr
          clear hr
          obtain ⟨v35, e35, hr⟩ := hq
          refine wo_step (v := v35) (s_pure (o_ixS rfl rfl e35)) ?_
          have hq := bindO_inv hr
          clear hr
          obtain ⟨v36, e36, hr⟩ := hq
          refine wo_step (v := v36) (s_ld rfl e36) ?_
          have hq := bindP_inv hr
          clear hr
          obtain ⟨v10, m_1, e10, hr⟩ := hq
          refine wo_step (v := v10) (s_al e10) ?_
          have hq := bindP_inv hr
          clear hr
          obtain ⟨vn, m_2, en, hr⟩ := hq
          refine wo_stepN (s_st rfl rfl en) ?_
          refine wo_nil ?_
          refine nx_norm ?_
          refine w_seq ?_
          refine w_seq ?_
          refine w_ops ?_
          refine wo_step (v := (.i .i64 x1)) (s_pure (p_mv g1)) ?_
          have hq := forceB_inv hr
          clear hr
          obtain ⟨c38, e38, hr⟩ := hq
          refine wo_step (v := (.b c38)) (s_pure (p_bin rfl rfl (b_lss.trans (cb e38)))) ?_
          refine wo_nil ?_
          refine nx_norm ?_
          have hq := cond_inv hr
          clear hr
          rcases hq with ⟨rfl, hr⟩ | ⟨rfl, hr⟩
          · refine w_condT rfl ?_
            refine w_seq ?_
            refine w_any ?_
            have hq := bindO_inv hr
            clear hr
            obtain ⟨v39, e39, hr⟩ := hq
            refine wa_step (v := v39) (a_pure (o_faddr rfl e39)) ?_
            have hq := bindO_inv hr
            clear hr
            obtain ⟨v40, e40, hr⟩ := hq
            have hq := asI_inv hr
            clear hr
            obtain ⟨x40, rfl, hr⟩ := hq
            refine wa_step (v := (.i .i64 x40)) (a_ld rfl e40) ?_
            have hq := bindO_inv hr
            clear hr
            obtain ⟨v41, e41, hr⟩ := hq
            refine wa_step (v := v41) (a_pure (o_faddr rfl e41)) ?_
            have hq := bindO_inv hr
            clear hr
            obtain ⟨v42, e42, hr⟩ := hq
            have hq := asI_inv hr
            clear hr
            obtain ⟨x42, rfl, hr⟩ := hq
            refine wa_step (v := (.i .i64 x42)) (a_ld rfl e42) ?_
            have hq := bindO_inv hr
            clear hr
            obtain ⟨v43, e43, hr⟩ := hq
            refine wa_step (v := v43) (a_pure (o_faddr rfl e43)) ?_
            have hq := bindO_inv hr
            clear hr
            obtain ⟨v44, e44, hr⟩ := hq
            have hq := asI_inv hr
            clear hr
            obtain ⟨x44, rfl, hr⟩ := hq
            refine wa_step (v := (.i .i64 x44)) (a_ld rfl e44) ?_
            have hq := forceI_inv hr
            clear hr
            obtain ⟨x45, e45, hr⟩ := hq
            refine wa_step (v := (.i .i64 x45)) (a_pure ((p_neg rfl).trans (ci e45))) ?_
            have hq := bindO_inv hr
            clear hr
            obtain ⟨v46, e46, hr⟩ := hq
            refine wa_step (v := v46) (a_pure (o_faddr rfl e46)) ?_
            have hq := bindO_inv hr
            clear hr
            obtain ⟨v47, e47, hr⟩ := hq
            have hq := asI_inv hr
            clear hr
            obtain ⟨x47, rfl, hr⟩ := hq
            refine wa_step (v := (.i .i64 x47)) (a_ld rfl e47) ?_
            have hq := forceI_inv hr
            clear hr
            obtain ⟨x48, e48, hr⟩ := hq
            refine wa_step (v := (.i .i64 x48)) (a_pure ((p_neg rfl).trans (ci e48))) ?_
            refine wa_step (v := (.i .i64 x40)) (a_pure (p_mv rfl)) ?_
            refine wa_step (v := (.i .i64 x42)) (a_pure (p_mv rfl)) ?_
            refine wa_step (v := (.i .i64 x45)) (a_pure (p_mv rfl)) ?_
            refine wa_step (v := (.i .i64 x48)) (a_pure (p_mv rfl)) ?_
            refine wa_step (v := (.b true)) (a_pure (p_mv rfl)) ?_
            refine wa_nil ?_
            refine ⟨m_2, rfl, ?_⟩
            refine nx_norm ?_
            refine w_ret ?_
            refine nx_ret ?_
            exact qf ret_ok (rt rfl (rt rfl (rt rfl (rt rfl (rt rfl rn))))) hr
          · refine w_condF rfl ?_
            refine w_skip ?_
            refine nx_norm ?_
            refine w_seq ?_
            refine w_any ?_
            have hq := bindO_inv hr
            clear hr
            obtain ⟨v49, e49, hr⟩ := hq
            refine wa_step (v := v49) (a_pure (o_faddr rfl e49)) ?_
            have hq := bindO_inv hr
            clear hr
            obtain ⟨v50, e50, hr⟩ := hq
            have hq := asI_inv hr
            clear hr
            obtain ⟨x50, rfl, hr⟩ := hq
            refine wa_step (v := (.i .i64 x50)) (a_ld rfl e50) ?_
            have hq := bindO_inv hr
            clear hr
            obtain ⟨v51, e51, hr⟩ := hq
            refine wa_step (v := v51) (a_pure (o_faddr rfl e51)) ?_
            have hq := bindO_inv hr
            clear hr
            obtain ⟨v52, e52, hr⟩ := hq
            have hq := asI_inv hr
            clear hr
            obtain ⟨x52, rfl, hr⟩ := hq
            refine wa_step (v := (.i .i64 x52)) (a_ld rfl e52) ?_
            have hq := bindO_inv hr
            clear hr
            obtain ⟨v53, e53, hr⟩ := hq
            refine wa_step (v := v53) (a_pure (o_faddr rfl e53)) ?_
            have hq := bindO_inv hr
            clear hr
            obtain ⟨v54, e54, hr⟩ := hq
            have hq := asI_inv hr
            clear hr
            obtain ⟨x54, rfl, hr⟩ := hq
            refine wa_step (v := (.i .i64 x54)) (a_ld rfl e54) ?_
            have hq := bindO_inv hr
            clear hr
            obtain ⟨v55, e55, hr⟩ := hq
            refine wa_step (v := v55) (a_pure (o_faddr rfl e55)) ?_
            have hq := bindO_inv hr
            clear hr
            obtain ⟨v56, e56, hr⟩ := hq
            have hq := asI_inv hr
            clear hr
            obtain ⟨x56, rfl, hr⟩ := hq
            refine wa_step (v := (.i .i64 x56)) (a_ld rfl e56) ?_
            refine wa_step (v := (.i .i64 x50)) (a_pure (p_mv rfl)) ?_
            refine wa_step (v := (.i .i64 x52)) (a_pure (p_mv rfl)) ?_
            refine wa_step (v := (.i .i64 x54)) (a_pure (p_mv rfl)) ?_
            refine wa_step (v := (.i .i64 x56)) (a_pure (p_mv rfl)) ?_
            refine wa_step (v := (.b true)) (a_pure (p_mv rfl)) ?_
            refine wa_nil ?_
            refine ⟨m_2, rfl, ?_⟩
            refine nx_norm ?_
            refine w_ret ?_
            exact qf ret_ok (rt rfl (rt rfl (rt rfl (rt rfl (rt rfl rn))))) hr

/- (dibber/turn.demands).allows -/
abbrev g60_J0 (v2 : AVal) (v3 : AVal) (m_2 : Mm) (o : Bool) (m1 : Mm) (t1 : Tr) : Prop :=
  match o with
  | c17 => m_2 = m1 ∧ t1.get 17 = (.b c17) ∧ t1.get 2 = v2 ∧ t1.get 3 = v3
abbrev g60_J1 (v2 : AVal) (v3 : AVal) (m_2 : Mm) (o : Bool) (m1 : Mm) (t1 : Tr) : Prop :=
  match o with
  | c27 => m_2 = m1 ∧ t1.get 27 = (.b c27) ∧ t1.get 2 = v2 ∧ t1.get 3 = v3
abbrev g60_J2 (v2 : AVal) (v3 : AVal) (m_2 : Mm) (o : Bool) (m1 : Mm) (t1 : Tr) : Prop :=
  match o with
  | c35 => m_2 = m1 ∧ t1.get 35 = (.b c35) ∧ t1.get 2 = v2 ∧ t1.get 3 = v3
abbrev g60_J3 (m_2 : Mm) (o : Bool) (m1 : Mm) (t1 : Tr) : Prop :=
  match o with
  | c51 => m_2 = m1 ∧ t1.get 51 = (.b c51)
def g60 (M : Means) (ro : List ABlk) (v0 : AVal) (v1 : AVal) (m0 : Mm) : Option (AVal × Heap × Nat × Nat) :=
  bindP (stepM ro m0 (.bx 55 3 (.c v0))) fun v2 m_1 =>
  bindP (stepM ro m_1 (.bx 31 4 (.c v1))) fun v3 m_2 =>
  bindO (evP .e (.faddr 0 (.c v3))) fun v5 =>
  bindO (ldM ro m_2 true 1 v5) fun v6 =>
  asI .i64 v6 fun x6 =>
  bindO (evP .e (.faddr 1 (.c v3))) fun v7 =>
  bindO (ldM ro m_2 true 1 v7) fun v8 =>
  asI .i64 v8 fun x8 =>
  forceB (eqI x6 x8) fun c9 =>
  bindO (cond c9 (
    some true) (
    bindO (evP .e (.faddr 0 (.c v3))) fun v11 =>
    bindO (ldM ro m_2 true 1 v11) fun v12 =>
    asI .i64 v12 fun x12 =>
    bindO (evP .e (.faddr 1 (.c v3))) fun v13 =>
    bindO (ldM ro m_2 true 1 v13) fun v14 =>
    asI .i64 v14 fun x14 =>
    forceI (mxV false x12 x14) fun x15 =>
    forceB (ltI x15 0) fun c16 =>
    some c16)) fun c17 =>
  bindO (cond c17 (
    some true) (
    bindO (evP .e (.faddr 0 (.c v3))) fun v19 =>
    bindO (ldM ro m_2 true 1 v19) fun v20 =>
    asI .i64 v20 fun x20 =>
    bindO (evP .e (.faddr 1 (.c v3))) fun v21 =>
    bindO (ldM ro m_2 true 1 v21) fun v22 =>
    asI .i64 v22 fun x22 =>
    forceI (mxV true x20 x22) fun x23 =>
    bindO (evP .e (.faddr 1 (.c v2))) fun v24 =>
    bindO (ldM ro m_2 true 1 v24) fun v25 =>
    asI .i64 v25 fun x25 =>
    forceB (!ltI x23 x25) fun c26 =>
    some c26)) fun c27 =>
  cond c27 (
    finM m0.h.length (tupA [(.b false)]) m_2) (
    bindO (evP .e (.faddr 2 (.c v3))) fun v28 =>
    bindO (ldM ro m_2 true 1 v28) fun v29 =>
    asI .i64 v29 fun x29 =>
    forceB (ltI x29 (-600)) fun c30 =>
    bindO (cond c30 (
      some true) (
      bindO (evP .e (.faddr 2 (.c v3))) fun v32 =>
      bindO (ldM ro m_2 true 1 v32) fun v33 =>
      asI .i64 v33 fun x33 =>
      forceB (ltI 600 x33) fun c34 =>
      some c34)) fun c35 =>
    cond c35 (
      finM m0.h.length (tupA [(.b false)]) m_2) (
      bindO (evP .e (.faddr 3 (.c v3))) fun v36 =>
      bindO (ldM ro m_2 true 1 v36) fun v37 =>
      asI .i64 v37 fun x37 =>
      bindO (evP .e (.faddr 2 (.c v3))) fun v38 =>
      bindO (ldM ro m_2 true 1 v38) fun v39 =>
      asI .i64 v39 fun x39 =>
      forceB (!ltI x37 x39) fun c40 =>
      bindO (cond c40 (
        bindO (evP .e (.faddr 3 (.c v3))) fun v42 =>
        bindO (ldM ro m_2 true 1 v42) fun v43 =>
        asI .i64 v43 fun x43 =>
        bindO (evP .e (.faddr 2 (.c v3))) fun v44 =>
        bindO (ldM ro m_2 true 1 v44) fun v45 =>
        asI .i64 v45 fun x45 =>
        bindO (evP .e (.faddr 0 (.c v2))) fun v46 =>
        bindO (ldM ro m_2 true 1 v46) fun v47 =>
        asI .i64 v47 fun x47 =>
        forceI (wr .i64 (x45 + x47)) fun x48 =>
        forceI (wr .i64 (x48 - 1)) fun x49 =>
        forceB (!ltI x49 x43) fun c50 =>
        some c50) (
        some false)) fun c51 =>
      finM m0.h.length (tupA [(.b c51)]) m_2))

theorem g60_ok {ro : List ABlk} {O : Caller} {M : Means} (hM : M.Ok ⟨F, O⟩ ro) {v0 v1 h r} (ho : O 60 [v0, v1] h = none) (hr : g60 M ro v0 v1 ⟨h, h.length, h.length⟩ = some r) : callX ⟨F, O⟩ ro 60 [v0, v1] h = some r := by
  refine callX_of (F := ⟨F, O⟩) (fn := fn60) (g := g60 M ro v0 v1) ho rfl rfl hr ?_
  clear ho
  clear hr
  intro m0 t0 ht hr
  have g0 : t0.get 0 = v0 := ht 0
  have g1 : t0.get 1 = v1 := ht 1
  clear ht
  unfold g60 at hr
  refine w_seq ?_
  refine w_ops ?_
  have hq := bindP_inv hr
  clear hr
  obtain ⟨v2, m_1, e2, hr⟩ := hq
  refine wo_step (v := v2) (s_bx g0 e2) ?_
  have hq := bindP_inv hr
  clear hr
  obtain ⟨v3, m_2, e3, hr⟩ := hq
  refine wo_step (v := v3) (s_bx g1 e3) ?_
  refine wo_step (v := (.b false)) (s_pure (p_mv rfl)) ?_
  refine wo_nil ?_
  refine nx_norm ?_
  refine w_seq ?_
  refine w_seq ?_
  refine w_ops ?_
  have hq := bindO_inv hr
  clear hr
  obtain ⟨v5, e5, hr⟩ := hq
  refine wo_step (v := v5) (s_pure (o_faddr rfl e5)) ?_
  have hq := bindO_inv hr
  clear hr
  obtain ⟨v6, e6, hr⟩ := hq
  have hq := asI_inv hr
  clear hr
  obtain ⟨x6, rfl, hr⟩ := hq
  refine wo_step (v := (.i .i64 x6)) (s_ld rfl e6) ?_
  have hq := bindO_inv hr
  clear hr
  obtain ⟨v7, e7, hr⟩ := hq
  refine wo_step (v := v7) (s_pure (o_faddr rfl e7)) ?_
  have hq := bindO_inv hr
  clear hr
  obtain ⟨v8, e8, hr⟩ := hq
  have hq := asI_inv hr
  clear hr
  obtain ⟨x8, rfl, hr⟩ := hq
  refine wo_step (v := (.i .i64 x8)) (s_ld rfl e8) ?_
  have hq := forceB_inv hr
  clear hr
  obtain ⟨c9, e9, hr⟩ := hq
  refine wo_step (v := (.b c9)) (s_pure (p_bin rfl rfl (b_eql.trans (cb e9)))) ?_
  refine wo_step (v := (.b c9)) (s_pure (p_mv rfl)) ?_
  have hq := bindO_inv hr
  clear hr
  obtain ⟨o, hr, hk⟩ := hq
  refine wo_join 7 (g60_J0 v2 v3 m_2 o) ?_ ?_
  · clear hk
    have hq := cond_inv hr
    clear hr
    rcases hq with ⟨rfl, hr⟩ | ⟨rfl, hr⟩
    · refine wo_skip (v := (.b true)) rfl rfl ?_
      refine wo_skip (v := (.b true)) rfl rfl ?_
      refine wo_skip (v := (.b true)) rfl rfl ?_
      refine wo_skip (v := (.b true)) rfl rfl ?_
      refine wo_skip (v := (.b true)) rfl rfl ?_
      refine wo_skip (v := (.b true)) rfl rfl ?_
      refine wo_step (v := (.b true)) (s_pure (p_pickT rfl rfl)) ?_
      refine wo_nil ?_
      cases hr
      exact ⟨_, _, rfl, rfl, gl rfl, gl rfl, gl rfl⟩
    · have hq := bindO_inv hr
      clear hr
      obtain ⟨v11, e11, hr⟩ := hq
      refine wo_take (v := v11) rfl (s_pure (o_faddr rfl e11)) ?_
      have hq := bindO_inv hr
      clear hr
      obtain ⟨v12, e12, hr⟩ := hq
      have hq := asI_inv hr
      clear hr
      obtain ⟨x12, rfl, hr⟩ := hq
      refine wo_take (v := (.i .i64 x12)) rfl (s_ld rfl e12) ?_
      have hq := bindO_inv hr
      clear hr
      obtain ⟨v13, e13, hr⟩ := hq
      refine wo_take (v := v13) rfl (s_pure (o_faddr rfl e13)) ?_
      have hq := bindO_inv hr
      clear hr
      obtain ⟨v14, e14, hr⟩ := hq
      have hq := asI_inv hr
      clear hr
      obtain ⟨x14, rfl, hr⟩ := hq
      refine wo_take (v := (.i .i64 x14)) rfl (s_ld rfl e14) ?_
      have hq := forceI_inv hr
      clear hr
      obtain ⟨x15, e15, hr⟩ := hq
      refine wo_take (v := (.i .i64 x15)) rfl (s_pure ((p_mx rfl rfl).trans (ci e15))) ?_
      have hq := forceB_inv hr
      clear hr
      obtain ⟨c16, e16, hr⟩ := hq
      refine wo_take (v := (.b c16)) rfl (s_pure (p_bin rfl rfl (b_lss.trans (cb e16)))) ?_
      refine wo_step (v := (.b c16)) (s_pure (p_pickF rfl rfl)) ?_
      refine wo_nil ?_
      cases hr
      exact ⟨_, _, rfl, rfl, gl rfl, gl rfl, gl rfl⟩
  · clear hr
    have hr := hk
    clear hk
    obtain ⟨c17, ho⟩ : ∃ z, z = o := ⟨_, rfl⟩
    subst ho
    rintro mm t_1 ⟨rfl, g17, g2, g3⟩
    refine wo_step (v := (.b c17)) (s_pure (p_mv g17)) ?_
    have hq := bindO_inv hr
    clear hr
    obtain ⟨o_1, hr, hk⟩ := hq
    refine wo_join 9 (g60_J1 v2 v3 m_2 o_1) ?_ ?_
    · clear hk
      have hq := cond_inv hr
      clear hr
      rcases hq with ⟨rfl, hr⟩ | ⟨rfl, hr⟩
      · refine wo_skip (v := (.b true)) rfl rfl ?_
        refine wo_skip (v := (.b true)) rfl rfl ?_
        refine wo_skip (v := (.b true)) rfl rfl ?_
        refine wo_skip (v := (.b true)) rfl rfl ?_
        refine wo_skip (v := (.b true)) rfl rfl ?_
        refine wo_skip (v := (.b true)) rfl rfl ?_
        refine wo_skip (v := (.b true)) rfl rfl ?_
        refine wo_skip (v := (.b true)) rfl rfl ?_
        refine wo_step (v := (.b true)) (s_pure (p_pickT rfl rfl)) ?_
        refine wo_nil ?_
        cases hr
        exact ⟨_, _, rfl, rfl, gl rfl, gl g2, gl g3⟩
      · have hq := bindO_inv hr
        clear hr
        obtain ⟨v19, e19, hr⟩ := hq
        refine wo_take (v := v19) rfl (s_pure (o_faddr g3 e19)) ?_
        have hq := bindO_inv hr
        clear hr
        obtain ⟨v20, e20, hr⟩ := hq
        have hq := asI_inv hr
        clear hr
        obtain ⟨x20, rfl, hr⟩ := hq
        refine wo_take (v := (.i .i64 x20)) rfl (s_ld rfl e20) ?_
        have hq := bindO_inv hr
        clear hr
        obtain ⟨v21, e21, hr⟩ := hq
        refine wo_take (v := v21) rfl (s_pure (o_faddr g3 e21)) ?_
        have hq := bindO_inv hr
        clear hr
        obtain ⟨v22, e22, hr⟩ := hq
        have hq := asI_inv hr
        clear hr
        obtain ⟨x22, rfl, hr⟩ := hq
        refine wo_take (v := (.i .i64 x22)) rfl (s_ld rfl e22) ?_
        have hq := forceI_inv hr
        clear hr
        obtain ⟨x23, e23, hr⟩ := hq
        refine wo_take (v := (.i .i64 x23)) rfl (s_pure ((p_mx rfl rfl).trans (ci e23))) ?_
        have hq := bindO_inv hr
        clear hr
        obtain ⟨v24, e24, hr⟩ := hq
        refine wo_take (v := v24) rfl (s_pure (o_faddr g2 e24)) ?_
        have hq := bindO_inv hr
        clear hr
        obtain ⟨v25, e25, hr⟩ := hq
        have hq := asI_inv hr
        clear hr
        obtain ⟨x25, rfl, hr⟩ := hq
        refine wo_take (v := (.i .i64 x25)) rfl (s_ld rfl e25) ?_
        have hq := forceB_inv hr
        clear hr
        obtain ⟨c26, e26, hr⟩ := hq
        refine wo_take (v := (.b c26)) rfl (s_pure (p_bin rfl rfl (b_geq.trans (cb e26)))) ?_
        refine wo_step (v := (.b c26)) (s_pure (p_pickF rfl rfl)) ?_
        refine wo_nil ?_
        cases hr
        exact ⟨_, _, rfl, rfl, gl rfl, gl g2, gl g3⟩
    · clear hr
      have hr := hk
      clear hk
      obtain ⟨c27, ho⟩ : ∃ z, z = o_1 := ⟨_, rfl⟩
      subst ho
      rintro mm_1 t_2 ⟨rfl, g27, g2, g3⟩
      refine wo_nil ?_
      refine nx_norm ?_
      have hq := cond_inv hr
      clear hr
      rcases hq with ⟨rfl, hr⟩ | ⟨rfl, hr⟩
      · refine w_condT g27 ?_
        refine w_seq ?_
        refine w_ops ?_
        refine wo_step (v := (.b false)) (s_pure (p_mv rfl)) ?_
        refine wo_nil ?_
        refine nx_norm ?_
        refine w_ret ?_
        refine nx_ret ?_
        exact qf ret_ok (rt rfl rn) hr
      · refine w_condF g27 ?_
        refine w_skip ?_
        refine nx_norm ?_
        refine w_seq ?_
        refine w_seq ?_
        refine w_ops ?_
        have hq := bindO_inv hr
        clear hr
        obtain ⟨v28, e28, hr⟩ := hq
        refine wo_step (v := v28) (s_pure (o_faddr g3 e28)) ?_
        have hq := bindO_inv hr
        clear hr
        obtain ⟨v29, e29, hr⟩ := hq
        have hq := asI_inv hr
        clear hr
        obtain ⟨x29, rfl, hr⟩ := hq
        refine wo_step (v := (.i .i64 x29)) (s_ld rfl e29) ?_
        have hq := forceB_inv hr
        clear hr
        obtain ⟨c30, e30, hr⟩ := hq
        refine wo_step (v := (.b c30)) (s_pure (p_bin rfl rfl (b_lss.trans (cb e30)))) ?_
        refine wo_step (v := (.b c30)) (s_pure (p_mv rfl)) ?_
        have hq := bindO_inv hr
        clear hr
        obtain ⟨o_2, hr, hk⟩ := hq
        refine wo_join 4 (g60_J2 v2 v3 m_2 o_2) ?_ ?_
        · clear hk
          have hq := cond_inv hr
          clear hr
          rcases hq with ⟨rfl, hr⟩ | ⟨rfl, hr⟩
          · refine wo_skip (v := (.b true)) rfl rfl ?_
            refine wo_skip (v := (.b true)) rfl rfl ?_
            refine wo_skip (v := (.b true)) rfl rfl ?_
            refine wo_step (v := (.b true)) (s_pure (p_pickT rfl rfl)) ?_
            refine wo_nil ?_
            cases hr
            exact ⟨_, _, rfl, rfl, gl rfl, gl g2, gl g3⟩
          · have hq := bindO_inv hr
            clear hr
            obtain ⟨v32, e32, hr⟩ := hq
            refine wo_take (v := v32) rfl (s_pure (o_faddr g3 e32)) ?_
            have hq := bindO_inv hr
            clear hr
            obtain ⟨v33, e33, hr⟩ := hq
            have hq := asI_inv hr
            clear hr
            obtain ⟨x33, rfl, hr⟩ := hq
            refine wo_take (v := (.i .i64 x33)) rfl (s_ld rfl e33) ?_
            have hq := forceB_inv hr
            clear hr
            obtain ⟨c34, e34, hr⟩ := hq
            refine wo_take (v := (.b c34)) rfl (s_pure (p_bin rfl rfl (b_gtr.trans (cb e34)))) ?_
            refine wo_step (v := (.b c34)) (s_pure (p_pickF rfl rfl)) ?_
            refine wo_nil ?_
            cases hr
            exact ⟨_, _, rfl, rfl, gl rfl, gl g2, gl g3⟩
        · clear hr
          have hr := hk
          clear hk
          obtain ⟨c35, ho⟩ : ∃ z, z = o_2 := ⟨_, rfl⟩
          subst ho
          rintro mm_2 t_3 ⟨rfl, g35, g2, g3⟩
          refine wo_nil ?_
          refine nx_norm ?_
          have hq := cond_inv hr
          clear hr
          rcases hq with ⟨rfl, hr⟩ | ⟨rfl, hr⟩
          · refine w_condT g35 ?_
            refine w_seq ?_
            refine w_ops ?_
            refine wo_step (v := (.b false)) (s_pure (p_mv rfl)) ?_
            refine wo_nil ?_
            refine nx_norm ?_
            refine w_ret ?_
            refine nx_ret ?_
            exact qf ret_ok (rt rfl rn) hr
          · refine w_condF g35 ?_
            refine w_skip ?_
            refine nx_norm ?_
            refine w_seq ?_
            refine w_ops ?_
            have hq := bindO_inv hr
            clear hr
            obtain ⟨v36, e36, hr⟩ := hq
            refine wo_step (v := v36) (s_pure (o_faddr g3 e36)) ?_
            have hq := bindO_inv hr
            clear hr
            obtain ⟨v37, e37, hr⟩ := hq
            have hq := asI_inv hr
            clear hr
            obtain ⟨x37, rfl, hr⟩ := hq
            refine wo_step (v := (.i .i64 x37)) (s_ld rfl e37) ?_
            have hq := bindO_inv hr
            clear hr
            obtain ⟨v38, e38, hr⟩ := hq
            refine wo_step (v := v38) (s_pure (o_faddr g3 e38)) ?_
            have hq := bindO_inv hr
            clear hr
            obtain ⟨v39, e39, hr⟩ := hq
            have hq := asI_inv hr
            clear hr
            obtain ⟨x39, rfl, hr⟩ := hq
            refine wo_step (v := (.i .i64 x39)) (s_ld rfl e39) ?_
            have hq := forceB_inv hr
            clear hr
            obtain ⟨c40, e40, hr⟩ := hq
            refine wo_step (v := (.b c40)) (s_pure (p_bin rfl rfl (b_geq.trans (cb e40)))) ?_
            refine wo_step (v := (.b c40)) (s_pure (p_mv rfl)) ?_
            have hq := bindO_inv hr
            clear hr
            obtain ⟨o_3, hr, hk⟩ := hq
            refine wo_join 10 (g60_J3 m_2 o_3) ?_ ?_
            · clear hk
              have hq := cond_inv hr
              clear hr
              rcases hq with ⟨rfl, hr⟩ | ⟨rfl, hr⟩
              · have hq := bindO_inv hr
                clear hr
                obtain ⟨v42, e42, hr⟩ := hq
                refine wo_take (v := v42) rfl (s_pure (o_faddr g3 e42)) ?_
                have hq := bindO_inv hr
                clear hr
                obtain ⟨v43, e43, hr⟩ := hq
                have hq := asI_inv hr
                clear hr
                obtain ⟨x43, rfl, hr⟩ := hq
                refine wo_take (v := (.i .i64 x43)) rfl (s_ld rfl e43) ?_
                have hq := bindO_inv hr
                clear hr
                obtain ⟨v44, e44, hr⟩ := hq
                refine wo_take (v := v44) rfl (s_pure (o_faddr g3 e44)) ?_
                have hq := bindO_inv hr
                clear hr
                obtain ⟨v45, e45, hr⟩ := hq
                have hq := asI_inv hr
                clear hr
                obtain ⟨x45, rfl, hr⟩ := hq
                refine wo_take (v := (.i .i64 x45)) rfl (s_ld rfl e45) ?_
                have hq := bindO_inv hr
                clear hr
                obtain ⟨v46, e46, hr⟩ := hq
                refine wo_take (v := v46) rfl (s_pure (o_faddr g2 e46)) ?_
                have hq := bindO_inv hr
                clear hr
                obtain ⟨v47, e47, hr⟩ := hq
                have hq := asI_inv hr
                clear hr
                obtain ⟨x47, rfl, hr⟩ := hq
                refine wo_take (v := (.i .i64 x47)) rfl (s_ld rfl e47) ?_
                have hq := forceI_inv hr
                clear hr
                obtain ⟨x48, e48, hr⟩ := hq
                refine wo_take (v := (.i .i64 x48)) rfl (s_pure (p_bin rfl rfl (b_add.trans (ci e48)))) ?_
                have hq := forceI_inv hr
                clear hr
                obtain ⟨x49, e49, hr⟩ := hq
                refine wo_take (v := (.i .i64 x49)) rfl (s_pure (p_bin rfl rfl (b_sub.trans (ci e49)))) ?_
                have hq := forceB_inv hr
                clear hr
                obtain ⟨c50, e50, hr⟩ := hq
                refine wo_take (v := (.b c50)) rfl (s_pure (p_bin rfl rfl (b_leq.trans (cb e50)))) ?_
                refine wo_step (v := (.b c50)) (s_pure (p_pickT rfl rfl)) ?_
                refine wo_nil ?_
                cases hr
                exact ⟨_, _, rfl, rfl, gl rfl⟩
              · refine wo_skip (v := (.b false)) rfl rfl ?_
                refine wo_skip (v := (.b false)) rfl rfl ?_
                refine wo_skip (v := (.b false)) rfl rfl ?_
                refine wo_skip (v := (.b false)) rfl rfl ?_
                refine wo_skip (v := (.b false)) rfl rfl ?_
                refine wo_skip (v := (.b false)) rfl rfl ?_
                refine wo_skip (v := (.b false)) rfl rfl ?_
                refine wo_skip (v := (.b false)) rfl rfl ?_
                refine wo_skip (v := (.b false)) rfl rfl ?_
                refine wo_step (v := (.b false)) (s_pure (p_pickF rfl rfl)) ?_
                refine wo_nil ?_
                cases hr
                exact ⟨_, _, rfl, rfl, gl rfl⟩
            · clear hr
              have hr := hk
              clear hk
              obtain ⟨c51, ho⟩ : ∃ z, z = o_3 := ⟨_, rfl⟩
              subst ho
              rintro mm_3 t_4 ⟨rfl, g51⟩
              refine wo_step (v := (.b c51)) (s_pure (p_mv g51)) ?_
              refine wo_nil ?_
              refine nx_norm ?_
              refine w_ret ?_
              exact qf ret_ok (rt rfl rn) hr

/- dibber/dibberref04.mod -/

def g67 (M : Means) (ro : List ABlk) (x0 : Int) (x1 : Int) (m0 : Mm) : Option (AVal × Heap × Nat × Nat) :=
  chk (!eqI x1 (.ofNat 0)) <|
  forceI (Int.tmod x0 x1) fun x7 =>
  forceI (wr .i64 (x7 + x1)) fun x9 =>
  chk (!eqI x1 (.ofNat 0)) <|
  forceI (Int.tmod x9 x1) fun x11 =>
  finM m0.h.length (tupA [(.i .i64 x11)]) m0

theorem g67_ok {ro : List ABlk} {O : Caller} {M : Means} (hM : M.Ok ⟨F, O⟩ ro) {x0 x1 h r} (ho : O 67 [(.i .i64 x0), (.i .i64 x1)] h = none) (hr : g67 M ro x0 x1 ⟨h, h.length, h.length⟩ = some r) : callX ⟨F, O⟩ ro 67 [(.i .i64 x0), (.i .i64 x1)] h = some r := by
  refine callX_of (F := ⟨F, O⟩) (fn := fn67) (g := g67 M ro x0 x1) ho rfl rfl hr ?_
  clear ho
  clear hr
  intro m0 t0 ht hr
  have g0 : t0.get 0 = (.i .i64 x0) := ht 0
  have g1 : t0.get 1 = (.i .i64 x1) := ht 1
  clear ht
  unfold g67 at hr
  refine w_seq ?_
  refine w_ops ?_
  refine wo_step (v := (.i .i64 0)) (s_pure (p_mv rfl)) ?_
  refine wo_nil ?_
  refine nx_norm ?_
  refine w_seq ?_
  refine w_ops ?_
  refine wo_step (v := (.i .i64 x0)) (s_pure (p_mv g0)) ?_
  refine wo_step (v := (.i .i64 x1)) (s_pure (p_mv g1)) ?_
  have hq := chk_inv hr
  clear hr
  obtain ⟨hc7, hr⟩ := hq
  have hq := forceI_inv hr
  clear hr
  obtain ⟨x7, e7, hr⟩ := hq
  refine wo_step (v := (.i .i64 x7)) (s_pure (p_bin rfl rfl ((b_rem hc7).trans (ci e7)))) ?_
  refine wo_step (v := (.i .i64 x1)) (s_pure (p_mv g1)) ?_
  have hq := forceI_inv hr
  clear hr
  obtain ⟨x9, e9, hr⟩ := hq
  refine wo_step (v := (.i .i64 x9)) (s_pure (p_bin rfl rfl (b_add.trans (ci e9)))) ?_
  refine wo_step (v := (.i .i64 x1)) (s_pure (p_mv g1)) ?_
  have hq := chk_inv hr
  clear hr
  obtain ⟨hc11, hr⟩ := hq
  have hq := forceI_inv hr
  clear hr
  obtain ⟨x11, e11, hr⟩ := hq
  refine wo_step (v := (.i .i64 x11)) (s_pure (p_bin rfl rfl ((b_rem hc11).trans (ci e11)))) ?_
  refine wo_step (v := (.i .i64 x11)) (s_pure (p_mv rfl)) ?_
  refine wo_nil ?_
  refine nx_norm ?_
  refine w_ret ?_
  exact qf ret_ok (rt rfl rn) hr

/- (dibber/turn.demands).modulo -/

def g70 (M : Means) (ro : List ABlk) (v0 : AVal) (x1 : Int) (m0 : Mm) : Option (AVal × Heap × Nat × Nat) :=
  bindP (stepM ro m0 (.bx 55 3 (.c v0))) fun v2 m_1 =>
  bindO (evP .e (.faddr 0 (.c v2))) fun v6 =>
  bindO (ldA ro m_1.h true 1 v6) fun v7 =>
  asI .i64 v7 fun x7 =>
  chk (!eqI x7 (.ofNat 0)) <|
  forceI (Int.tmod x1 x7) fun x8 =>
  bindO (evP .e (.faddr 0 (.c v2))) fun v9 =>
  bindO (ldA ro m_1.h true 1 v9) fun v10 =>
  asI .i64 v10 fun x10 =>
  forceI (wr .i64 (x8 + x10)) fun x11 =>
  bindO (evP .e (.faddr 0 (.c v2))) fun v12 =>
  bindO (ldA ro m_1.h true 1 v12) fun v13 =>
  asI .i64 v13 fun x13 =>
  chk (!eqI x13 (.ofNat 0)) <|
  forceI (Int.tmod x11 x13) fun x14 =>
  finM m0.h.length (tupA [(.i .i64 x14)]) m_1

theorem g70_ok {ro : List ABlk} {O : Caller} {M : Means} (hM : M.Ok ⟨F, O⟩ ro) {v0 x1 h r} (ho : O 70 [v0, (.i .i64 x1)] h = none) (hr : g70 M ro v0 x1 ⟨h, h.length, h.length⟩ = some r) : callX ⟨F, O⟩ ro 70 [v0, (.i .i64 x1)] h = some r := by
  refine callX_of (F := ⟨F, O⟩) (fn := fn70) (g := g70 M ro v0 x1) ho rfl rfl hr ?_
  clear ho
  clear hr
  intro m0 t0 ht hr
  have g0 : t0.get 0 = v0 := ht 0
  have g1 : t0.get 1 = (.i .i64 x1) := ht 1
  clear ht
  unfold g70 at hr
  refine w_seq ?_
  refine w_ops ?_
  have hq := bindP_inv hr
  clear hr
  obtain ⟨v2, m_1, e2, hr⟩ := hq
  refine wo_step (v := v2) (s_bx g0 e2) ?_
  refine wo_step (v := (.i .i64 0)) (s_pure (p_mv rfl)) ?_
  refine wo_nil ?_
  refine nx_norm ?_
  refine w_seq ?_
  refine w_any ?_
  refine wa_step (v := (.i .i64 x1)) (a_pure (p_mv g1)) ?_
  have hq := bindO_inv hr
  clear hr
  obtain ⟨v6, e6, hr⟩ := hq
  refine wa_step (v := v6) (a_pure (o_faddr rfl e6)) ?_
  have hq := bindO_inv hr
  clear hr
  obtain ⟨v7, e7, hr⟩ := hq
  have hq := asI_inv hr
  clear hr
  obtain ⟨x7, rfl, hr⟩ := hq
  refine wa_step (v := (.i .i64 x7)) (a_ld rfl e7) ?_
  have hq := chk_inv hr
  clear hr
  obtain ⟨hc8, hr⟩ := hq
  have hq := forceI_inv hr
  clear hr
  obtain ⟨x8, e8, hr⟩ := hq
  refine wa_step (v := (.i .i64 x8)) (a_pure (p_bin rfl rfl ((b_rem hc8).trans (ci e8)))) ?_
  have hq := bindO_inv hr
  clear hr
  obtain ⟨v9, e9, hr⟩ := hq
  refine wa_step (v := v9) (a_pure (o_faddr rfl e9)) ?_
  have hq := bindO_inv hr
  clear hr
  obtain ⟨v10, e10, hr⟩ := hq
  have hq := asI_inv hr
  clear hr
  obtain ⟨x10, rfl, hr⟩ := hq
  refine wa_step (v := (.i .i64 x10)) (a_ld rfl e10) ?_
  have hq := forceI_inv hr
  clear hr
  obtain ⟨x11, e11, hr⟩ := hq
  refine wa_step (v := (.i .i64 x11)) (a_pure (p_bin rfl rfl (b_add.trans (ci e11)))) ?_
  have hq := bindO_inv hr
  clear hr
  obtain ⟨v12, e12, hr⟩ := hq
  refine wa_step (v := v12) (a_pure (o_faddr rfl e12)) ?_
  have hq := bindO_inv hr
  clear hr
  obtain ⟨v13, e13, hr⟩ := hq
  have hq := asI_inv hr
  clear hr
  obtain ⟨x13, rfl, hr⟩ := hq
  refine wa_step (v := (.i .i64 x13)) (a_ld rfl e13) ?_
  have hq := chk_inv hr
  clear hr
  obtain ⟨hc14, hr⟩ := hq
  have hq := forceI_inv hr
  clear hr
  obtain ⟨x14, e14, hr⟩ := hq
  refine wa_step (v := (.i .i64 x14)) (a_pure (p_bin rfl rfl ((b_rem hc14).trans (ci e14)))) ?_
  refine wa_step (v := (.i .i64 x14)) (a_pure (p_mv rfl)) ?_
  refine wa_nil ?_
  refine ⟨m_1, rfl, ?_⟩
  refine nx_norm ?_
  refine w_ret ?_
  exact qf ret_ok (rt rfl rn) hr

/- dibber/dibberref04.kept -/
abbrev g71_I0 (x0 : Int) (v1 : AVal) (v2 : AVal) (s : Int × Mm) (m1 : Mm) (t1 : Tr) : Prop :=
  match s with
  | (x7, m_1) => m_1 = m1 ∧ t1.get 7 = (.i .i64 x7) ∧ t1.get 0 = (.i .i64 x0) ∧ t1.get 1 = v1 ∧ t1.get 2 = v2
abbrev g71_J0 (x0 : Int) (v1 : AVal) (v2 : AVal) (o : (Mm ⊕ (Bool × Mm))) (e : AExit) (m1 : Mm) (t1 : Tr) : Prop :=
  match o with
  | (.inl mo) => e = (.exit 0) ∧ mo = m1
  | (.inr (y6, mo)) => e = .ret ∧ mo = m1 ∧ t1.get 6 = (.b y6)
abbrev g71_J1 (x0 : Int) (v1 : AVal) (v2 : AVal) (x7 : Int) (m_2 : Mm) (o : Bool) (m1 : Mm) (t1 : Tr) : Prop :=
  match o with
  | c31 => m_2 = m1 ∧ t1.get 31 = (.b c31) ∧ t1.get 0 = (.i .i64 x0) ∧ t1.get 1 = v1 ∧ t1.get 2 = v2 ∧ t1.get 7 = (.i .i64 x7)
abbrev g71_J2 (x0 : Int) (v1 : AVal) (v2 : AVal) (x7 : Int) (o : Bool × Mm) (m1 : Mm) (t1 : Tr) : Prop :=
  match o with
  | (c52, m_3) => m_3 = m1 ∧ t1.get 52 = (.b c52) ∧ t1.get 0 = (.i .i64 x0) ∧ t1.get 1 = v1 ∧ t1.get 2 = v2 ∧ t1.get 7 = (.i .i64 x7)
def g71_b0 (M : Means) (ro : List ABlk) (x0 : Int) (v1 : AVal) (v2 : AVal) (x7 : Int) (m_1 : Mm) : Option ((Int × Mm) ⊕ ((Mm ⊕ (Bool × Mm)))) :=
  bindO (evP .e (.len false (.c v1))) fun v10 =>
  asI .i64 v10 fun x10 =>
  forceB (ltI x7 x10) fun c11 =>
  cond c11 (
    bindO (some (Mm.base m_1)) fun m_2 =>
    bindO (evP .e (.ixS 4 (.c v1) (.c (.i .i64 x7)))) fun v16 =>
    bindO (evP .e (.faddr 0 (.c v16))) fun v17 =>
    bindO (ldM ro m_2 true 1 v17) fun v18 =>
    asI .i64 v18 fun x18 =>
    bindO (evP .e (.len false (.c v2))) fun v20 =>
    asI .i64 v20 fun x20 =>
    forceB (ltI x18 x20) fun c21 =>
    bindO (cond c21 (
      bindO (evP .e (.ixS 4 (.c v1) (.c (.i .i64 x7)))) fun v25 =>
      bindO (evP .e (.faddr 1 (.c v25))) fun v26 =>
      bindO (ldM ro m_2 true 1 v26) fun v27 =>
      asI .i64 v27 fun x27 =>
      bindO (evP .e (.len false (.c v2))) fun v29 =>
      asI .i64 v29 fun x29 =>
      forceB (ltI x27 x29) fun c30 =>
      some c30) (
      some false)) fun c31 =>
    bindO (cond c31 (
      bindO (evP .e (.ixS 4 (.c v1) (.c (.i .i64 x7)))) fun v36 =>
      bindO (ldM ro m_2 false 4 v36) fun v37 =>
      bindP (callM M.call m_2 53 [(.i .i64 x0), v37, v2]) fun v39 m_4 =>
      asI .i64 v39 fun x39 =>
      chk (!Nat.blt m_4.lw m_1.h.length) <|
      bindO (evP .e (.ixS 4 (.c v1) (.c (.i .i64 x7)))) fun v42 =>
      bindO (evP .e (.faddr 3 (.c v42))) fun v43 =>
      bindO (ldA ro m_1.h true 1 v43) fun v44 =>
      asI .i64 v44 fun x44 =>
      bindO (evP .e (.ixS 4 (.c v1) (.c (.i .i64 x7)))) fun v47 =>
      bindO (evP .e (.faddr 2 (.c v47))) fun v48 =>
      bindO (ldA ro m_1.h true 1 v48) fun v49 =>
      asI .i64 v49 fun x49 =>
      forceI (wr .i64 (x44 - x49)) fun x50 =>
      forceB (ltI x50 x39) fun c51 =>
      some (c51, m_4)) (
      some (false, m_2))) fun ⟨c52, m_3⟩ =>
    bindO (some (Mm.join m_1 m_3)) fun m_5 =>
    cond c52 (
      some (.inr (.inr (false, m_5)))) (
      forceI (wr .i64 (x7 + 1)) fun x13 =>
      some (.inl (x13, m_5)))) (
    some (.inr (.inl m_1)))
def g71 (M : Means) (ro : List ABlk) (x0 : Int) (v1 : AVal) (v2 : AVal) (m0 : Mm) : Option (AVal × Heap × Nat × Nat) :=
  bindO (M.loop (S := Int × Mm) (R := (Mm ⊕ (Bool × Mm))) (fun s => g71_b0 M ro x0 v1 v2 s.1 s.2) (0, m0)) fun o_2 => match o_2 with
  | (.inl m_6) =>
    finM m0.h.length (tupA [(.b true)]) m_6
  | (.inr (c6, m_7)) =>
    finM m0.h.length (tupA [(.b c6)]) m_7

theorem g71_ok {ro : List ABlk} {O : Caller} {M : Means} (hM : M.Ok ⟨F, O⟩ ro) {x0 v1 v2 h r} (ho : O 71 [(.i .i64 x0), v1, v2] h = none) (hr : g71 M ro x0 v1 v2 ⟨h, h.length, h.length⟩ = some r) : callX ⟨F, O⟩ ro 71 [(.i .i64 x0), v1, v2] h = some r := by
  refine callX_of (F := ⟨F, O⟩) (fn := fn71) (g := g71 M ro x0 v1 v2) ho rfl rfl hr ?_
  clear ho
  clear hr
  intro m0 t0 ht hr
  have g0 : t0.get 0 = (.i .i64 x0) := ht 0
  have g1 : t0.get 1 = v1 := ht 1
  have g2 : t0.get 2 = v2 := ht 2
  clear ht
  unfold g71 at hr
  refine w_seq ?_
  refine w_ops ?_
  refine wo_step (v := (.b false)) (s_pure (p_mv rfl)) ?_
  refine wo_nil ?_
  refine nx_norm ?_
  refine w_seq ?_
  refine w_seq ?_
  refine w_ops ?_
  refine wo_step (v := (.i .i64 0)) (s_pure (p_mv rfl)) ?_
  refine wo_nil ?_
  refine nx_norm ?_
  refine w_block ?_
  have hq := bindO_inv hr
  clear hr
  obtain ⟨o_2, hl, hr⟩ := hq
  obtain ⟨n, hl⟩ := hM.loop _ _ _ hl
  refine jp_mono (w_loop _ (g71_I0 x0 v1 v2) (g71_J0 x0 v1 v2) ?_ n _ _ _ _ hl ⟨rfl, gl rfl, gl g0, gl g1, gl g2⟩) ?_
  · clear hr hl
    intro s mm_4 t_1 o hi hr
    obtain ⟨x7, m_1⟩ := s
    obtain ⟨rfl, g7, g0, g1, g2⟩ := hi
    unfold g71_b0 at hr
    refine w_seq ?_
    refine w_seq ?_
    refine w_ops ?_
    refine wo_step (v := (.i .i64 x7)) (s_pure (p_mv g7)) ?_
    refine wo_step (v := v1) (s_pure (p_mv g1)) ?_
    have hq := bindO_inv hr
    clear hr
    obtain ⟨v10, e10, hr⟩ := hq
    have hq := asI_inv hr
    clear hr
    obtain ⟨x10, rfl, hr⟩ := hq
    refine wo_step (v := (.i .i64 x10)) (s_pure (o_len rfl e10)) ?_
    have hq := forceB_inv hr
    clear hr
    obtain ⟨c11, e11, hr⟩ := hq
    refine wo_step (v := (.b c11)) (s_pure (p_bin rfl rfl (b_lss.trans (cb e11)))) ?_
    refine wo_nil ?_
    refine nx_norm ?_
    have hq := cond_inv hr
    clear hr
    rcases hq with ⟨rfl, hr⟩ | ⟨rfl, hr⟩
    · refine w_condT rfl ?_
      refine w_skip ?_
      refine nx_norm ?_
      refine w_seq ?_
      refine w_block ?_
      refine w_seq ?_
      have hq := bindO_inv hr
      clear hr
      obtain ⟨m_2, ef, hr⟩ := hq
      refine w_flt (af := true) rfl ef ?_
      refine wf_step (v := v1) (f_P rfl (s_pure (p_mv g1))) ?_
      refine wf_step (v := (.i .i64 x7)) (f_P rfl (s_pure (p_mv g7))) ?_
      have hq := bindO_inv hr
      clear hr
      obtain ⟨v16, e16, hr⟩ := hq
      refine wf_step (v := v16) (f_P rfl (s_pure (o_ixS rfl rfl e16))) ?_
      have hq := bindO_inv hr
      clear hr
      obtain ⟨v17, e17, hr⟩ := hq
      refine wf_step (v := v17) (f_P rfl (s_pure (o_faddr rfl e17))) ?_
      have hq := bindO_inv hr
      clear hr
      obtain ⟨v18, e18, hr⟩ := hq
      have hq := asI_inv hr
      clear hr
      obtain ⟨x18, rfl, hr⟩ := hq
      refine wf_step (v := (.i .i64 x18)) (f_P rfl (s_ld rfl e18)) ?_
      refine wf_step (v := v2) (f_P rfl (s_pure (p_mv g2))) ?_
      have hq := bindO_inv hr
      clear hr
      obtain ⟨v20, e20, hr⟩ := hq
      have hq := asI_inv hr
      clear hr
      obtain ⟨x20, rfl, hr⟩ := hq
      refine wf_step (v := (.i .i64 x20)) (f_P rfl (s_pure (o_len rfl e20))) ?_
      have hq := forceB_inv hr
      clear hr
      obtain ⟨c21, e21, hr⟩ := hq
      refine wf_step (v := (.b c21)) (f_P rfl (s_pure (p_bin rfl rfl (b_lss.trans (cb e21))))) ?_
      refine wf_step (v := (.b c21)) (f_P rfl (s_pure (p_mv rfl))) ?_
      have hq := bindO_inv hr
      clear hr
      obtain ⟨o, hr, hk⟩ := hq
      refine wf_join 9 (g71_J1 x0 v1 v2 x7 m_2 o) ?_ ?_
      · clear hk
        have hq := cond_inv hr
        clear hr
        rcases hq with ⟨rfl, hr⟩ | ⟨rfl, hr⟩
        · refine wf_take (v := v1) rfl (f_P rfl (s_pure (p_mv g1))) ?_
          refine wf_take (v := (.i .i64 x7)) rfl (f_P rfl (s_pure (p_mv g7))) ?_
          have hq := bindO_inv hr
          clear hr
          obtain ⟨v25, e25, hr⟩ := hq
          refine wf_take (v := v25) rfl (f_P rfl (s_pure (o_ixS rfl rfl e25))) ?_
          have hq := bindO_inv hr
          clear hr
          obtain ⟨v26, e26, hr⟩ := hq
          refine wf_take (v := v26) rfl (f_P rfl (s_pure (o_faddr rfl e26))) ?_
          have hq := bindO_inv hr
          clear hr
          obtain ⟨v27, e27, hr⟩ := hq
          have hq := asI_inv hr
          clear hr
          obtain ⟨x27, rfl, hr⟩ := hq
          refine wf_take (v := (.i .i64 x27)) rfl (f_P rfl (s_ld rfl e27)) ?_
          refine wf_take (v := v2) rfl (f_P rfl (s_pure (p_mv g2))) ?_
          have hq := bindO_inv hr
          clear hr
          obtain ⟨v29, e29, hr⟩ := hq
          have hq := asI_inv hr
          clear hr
          obtain ⟨x29, rfl, hr⟩ := hq
          refine wf_take (v := (.i .i64 x29)) rfl (f_P rfl (s_pure (o_len rfl e29))) ?_
          have hq := forceB_inv hr
          clear hr
          obtain ⟨c30, e30, hr⟩ := hq
          refine wf_take (v := (.b c30)) rfl (f_P rfl (s_pure (p_bin rfl rfl (b_lss.trans (cb e30))))) ?_
          refine wf_step (v := (.b c30)) (f_P rfl (s_pure (p_pickT rfl rfl))) ?_
          refine wf_nil ?_
          cases hr
          exact ⟨_, _, rfl, rfl, gl rfl, gl g0, gl g1, gl g2, gl g7⟩
        · refine wf_skip (v := (.b false)) rfl rfl ?_
          refine wf_skip (v := (.b false)) rfl rfl ?_
          refine wf_skip (v := (.b false)) rfl rfl ?_
          refine wf_skip (v := (.b false)) rfl rfl ?_
          refine wf_skip (v := (.b false)) rfl rfl ?_
          refine wf_skip (v := (.b false)) rfl rfl ?_
          refine wf_skip (v := (.b false)) rfl rfl ?_
          refine wf_skip (v := (.b false)) rfl rfl ?_
          refine wf_step (v := (.b false)) (f_P rfl (s_pure (p_pickF rfl rfl))) ?_
          refine wf_nil ?_
          cases hr
          exact ⟨_, _, rfl, rfl, gl rfl, gl g0, gl g1, gl g2, gl g7⟩
      · clear hr
        have hr := hk
        clear hk
        obtain ⟨c31, ho⟩ : ∃ z, z = o := ⟨_, rfl⟩
        subst ho
        rintro mm t_2 ⟨rfl, g31, g0, g1, g2, g7⟩
        refine wf_step (v := (.b c31)) (f_P rfl (s_pure (p_mv g31))) ?_
        have hq := bindO_inv hr
        clear hr
        obtain ⟨o_1, hr, hk⟩ := hq
        refine wf_join 20 (g71_J2 x0 v1 v2 x7 o_1) ?_ ?_
        · clear hk
          have hq := cond_inv hr
          clear hr
          rcases hq with ⟨rfl, hr⟩ | ⟨rfl, hr⟩
          · refine wf_take (v := (.i .i64 x0)) rfl (f_P rfl (s_pure (p_mv g0))) ?_
            refine wf_take (v := v1) rfl (f_P rfl (s_pure (p_mv g1))) ?_
            refine wf_take (v := (.i .i64 x7)) rfl (f_P rfl (s_pure (p_mv g7))) ?_
            have hq := bindO_inv hr
            clear hr
            obtain ⟨v36, e36, hr⟩ := hq
            refine wf_take (v := v36) rfl (f_P rfl (s_pure (o_ixS rfl rfl e36))) ?_
            have hq := bindO_inv hr
            clear hr
            obtain ⟨v37, e37, hr⟩ := hq
            refine wf_take (v := v37) rfl (f_P rfl (s_ld rfl e37)) ?_
            refine wf_take (v := v2) rfl (f_P rfl (s_pure (p_mv g2))) ?_
            have hq := bindP_inv hr
            clear hr
            obtain ⟨v39, m_4, e39, hr⟩ := hq
            have hq := asI_inv hr
            clear hr
            obtain ⟨x39, rfl, hr⟩ := hq
            have hq := chk_inv hr
            clear hr
            obtain ⟨hc39, hr⟩ := hq
            refine wf_take (v := (.i .i64 x39)) rfl (f_M hc39 (s_call (mc rfl (mc rfl (mc rfl mn))) (callM_le hM.call e39))) ?_
            refine wf_take (v := v1) rfl (f_P rfl (s_pure (p_mv g1))) ?_
            refine wf_take (v := (.i .i64 x7)) rfl (f_P rfl (s_pure (p_mv g7))) ?_
            have hq := bindO_inv hr
            clear hr
            obtain ⟨v42, e42, hr⟩ := hq
            refine wf_take (v := v42) rfl (f_P rfl (s_pure (o_ixS rfl rfl e42))) ?_
            have hq := bindO_inv hr
            clear hr
            obtain ⟨v43, e43, hr⟩ := hq
            refine wf_take (v := v43) rfl (f_P rfl (s_pure (o_faddr rfl e43))) ?_
            have hq := bindO_inv hr
            clear hr
            obtain ⟨v44, e44, hr⟩ := hq
            have hq := asI_inv hr
            clear hr
            obtain ⟨x44, rfl, hr⟩ := hq
            refine wf_take (v := (.i .i64 x44)) rfl (f_ld rfl e44) ?_
            refine wf_take (v := v1) rfl (f_P rfl (s_pure (p_mv g1))) ?_
            refine wf_take (v := (.i .i64 x7)) rfl (f_P rfl (s_pure (p_mv g7))) ?_
            have hq := bindO_inv hr
            clear hr
            obtain ⟨v47, e47, hr⟩ := hq
            refine wf_take (v := v47) rfl (f_P rfl (s_pure (o_ixS rfl rfl e47))) ?_
            have hq := bindO_inv hr
            clear hr
            obtain ⟨v48, e48, hr⟩ := hq
            refine wf_take (v := v48) rfl (f_P rfl (s_pure (o_faddr rfl e48))) ?_
            have hq := bindO_inv hr
            clear hr
            obtain ⟨v49, e49, hr⟩ := hq
            have hq := asI_inv hr
            clear hr
            obtain ⟨x49, rfl, hr⟩ := hq
            refine wf_take (v := (.i .i64 x49)) rfl (f_ld rfl e49) ?_
            have hq := forceI_inv hr
            clear hr
            obtain ⟨x50, e50, hr⟩ := hq
            refine wf_take (v := (.i .i64 x50)) rfl (f_P rfl (s_pure (p_bin rfl rfl (b_sub.trans (ci e50))))) ?_
            have hq := forceB_inv hr
            clear hr
            obtain ⟨c51, e51, hr⟩ := hq
            refine wf_take (v := (.b c51)) rfl (f_P rfl (s_pure (p_bin rfl rfl (b_gtr.trans (cb e51))))) ?_
            refine wf_step (v := (.b c51)) (f_P rfl (s_pure (p_pickT rfl rfl))) ?_
            refine wf_nil ?_
            cases hr
            exact ⟨_, _, rfl, rfl, gl rfl, gl g0, gl g1, gl g2, gl g7⟩
          · refine wf_skip (v := (.b false)) rfl rfl ?_
            refine wf_skip (v := (.b false)) rfl rfl ?_
            refine wf_skip (v := (.b false)) rfl rfl ?_
            refine wf_skip (v := (.b false)) rfl rfl ?_
            refine wf_skip (v := (.b false)) rfl rfl ?_
            refine wf_skip (v := (.b false)) rfl rfl ?_
            refine wf_skip (v := (.b false)) rfl rfl ?_
            refine wf_skip (v := (.b false)) rfl rfl ?_
            refine wf_skip (v := (.b false)) rfl rfl ?_
            refine wf_skip (v := (.b false)) rfl rfl ?_
            refine wf_skip (v := (.b false)) rfl rfl ?_
            refine wf_skip (v := (.b false)) rfl rfl ?_
            refine wf_skip (v := (.b false)) rfl rfl ?_
            refine wf_skip (v := (.b false)) rfl rfl ?_
            refine wf_skip (v := (.b false)) rfl rfl ?_
            refine wf_skip (v := (.b false)) rfl rfl ?_
            refine wf_skip (v := (.b false)) rfl rfl ?_
            refine wf_skip (v := (.b false)) rfl rfl ?_
            refine wf_skip (v := (.b false)) rfl rfl ?_
            refine wf_step (v := (.b false)) (f_P rfl (s_pure (p_pickF rfl rfl))) ?_
            refine wf_nil ?_
            cases hr
            exact ⟨_, _, rfl, rfl, gl rfl, gl g0, gl g1, gl g2, gl g7⟩
        · clear hr
          have hr := hk
          clear hk
          obtain ⟨c52, m_3⟩ := o_1
          rintro mm_1 t_3 ⟨rfl, g52, g0, g1, g2, g7⟩
          have hq := bindO_inv hr
          clear hr
          obtain ⟨m_5, ef_1, hr⟩ := hq
          refine wf_end ef_1 ?_
          refine nx_norm ?_
          have hq := cond_inv hr
          clear hr
          rcases hq with ⟨rfl, hr⟩ | ⟨rfl, hr⟩
          · refine w_condT g52 ?_
            refine w_seq ?_
            refine w_ops ?_
            refine wo_step (v := (.b false)) (s_pure (p_mv rfl)) ?_
            refine wo_nil ?_
            refine nx_norm ?_
            refine w_ret ?_
            refine bk_ret ?_
            refine nx_ret ?_
            cases hr
            exact ⟨_, _, rfl, ne_norm_ret, rfl, rfl, gl rfl⟩
          · refine w_condF g52 ?_
            refine w_skip ?_
            refine bk_norm ?_
            refine nx_norm ?_
            refine w_ops ?_
            refine wo_step (v := (.i .i64 x7)) (s_pure (p_mv g7)) ?_
            have hq := forceI_inv hr
            clear hr
            obtain ⟨x13, e13, hr⟩ := hq
            refine wo_step (v := (.i .i64 x13)) (s_pure (p_bin rfl rfl (b_add.trans (ci e13)))) ?_
            refine wo_step (v := (.i .i64 x13)) (s_pure (p_mv rfl)) ?_
            refine wo_nil ?_
            cases hr
            exact ⟨_, _, rfl, rfl, rfl, gl rfl, gl g0, gl g1, gl g2⟩
    · refine w_condF rfl ?_
      refine w_exit ?_
      refine nx_exit ?_
      cases hr
      exact ⟨_, _, rfl, ne_norm_exit, rfl, rfl⟩
  · rcases o_2 with o_2 | o_2
    · obtain ⟨m_6, ho⟩ : ∃ z, z = o_2 := ⟨_, rfl⟩
      subst ho
      rintro _ mm_2 t_4 ⟨rfl, rfl⟩
      refine bk_hit ?_
      refine nx_norm ?_
      refine w_seq ?_
      refine w_ops ?_
      refine wo_step (v := (.b true)) (s_pure (p_mv rfl)) ?_
      refine wo_nil ?_
      refine nx_norm ?_
      refine w_ret ?_
      exact qf ret_ok (rt rfl rn) hr
    · obtain ⟨c6, m_7⟩ := o_2
      rintro _ mm_3 t_5 ⟨rfl, rfl, g6⟩
      refine bk_ret ?_
      refine nx_ret ?_
      exact qf ret_ok (rt g6 rn) hr

/- slices.Min[[]int,int] -/
abbrev g72_I0 (v0 : AVal) (m0 : Mm) (s : Int × Int) (m1 : Mm) (t1 : Tr) : Prop :=
  match s with
  | (x3, x4) => m0 = m1 ∧ t1.get 3 = (.i .i64 x3) ∧ t1.get 4 = (.i .i64 x4) ∧ t1.get 0 = v0
abbrev g72_J0 (v0 : AVal) (m0 : Mm) (o : Int) (e : AExit) (m1 : Mm) (t1 : Tr) : Prop :=
  match o with
  | y3 => e = (.exit 0) ∧ m0 = m1 ∧ t1.get 3 = (.i .i64 y3)
def g72_b0 (M : Means) (ro : List ABlk) (v0 : AVal) (m0 : Mm) (x3 : Int) (x4 : Int) : Option ((Int × Int) ⊕ (Int)) :=
  bindO (evP .e (.len false (.c v0))) fun v14 =>
  asI .i64 v14 fun x14 =>
  forceB (ltI x4 x14) fun c15 =>
  cond c15 (
    bindO (evP .e (.ixS 1 (.c v0) (.c (.i .i64 x4)))) fun v21 =>
    bindO (ldM ro m0 true 1 v21) fun v22 =>
    asI .i64 v22 fun x22 =>
    forceI (mxV false x3 x22) fun x23 =>
    forceI (wr .i64 (x4 + 1)) fun x17 =>
    some (.inl (x23, x17))) (
    some (.inr x3))
def g72 (M : Means) (ro : List ABlk) (v0 : AVal) (m0 : Mm) : Option (AVal × Heap × Nat × Nat) :=
  bindO (evP .e (.len false (.c v0))) fun v6 =>
  asI .i64 v6 fun x6 =>
  forceB (ltI x6 1) fun c7 =>
  cond c7 (
    none) (
    bindO (evP .e (.ixS 1 (.c v0) (.c (.i .i64 0)))) fun v10 =>
    bindO (ldM ro m0 true 1 v10) fun v11 =>
    asI .i64 v11 fun x11 =>
    bindO (M.loop (S := Int × Int) (R := Int) (fun s => g72_b0 M ro v0 m0 s.1 s.2) (x11, 1)) fun x3_1 =>
    finM m0.h.length (tupA [(.i .i64 x3_1)]) m0)

theorem g72_ok {ro : List ABlk} {O : Caller} {M : Means} (hM : M.Ok ⟨F, O⟩ ro) {v0 h r} (ho : O 72 [v0] h = none) (hr : g72 M ro v0 ⟨h, h.length, h.length⟩ = some r) : callX ⟨F, O⟩ ro 72 [v0] h = some r := by
  refine callX_of (F := ⟨F, O⟩) (fn := fn72) (g := g72 M ro v0) ho rfl rfl hr ?_
  clear ho
  clear hr
  intro m0 t0 ht hr
  have g0 : t0.get 0 = v0 := ht 0
  clear ht
  unfold g72 at hr
  refine w_seq ?_
  refine w_ops ?_
  refine wo_step (v := (.i .i64 0)) (s_pure (p_mv rfl)) ?_
  refine wo_nil ?_
  refine nx_norm ?_
  refine w_seq ?_
  refine w_seq ?_
  refine w_ops ?_
  refine wo_step (v := v0) (s_pure (p_mv g0)) ?_
  have hq := bindO_inv hr
  clear hr
  obtain ⟨v6, e6, hr⟩ := hq
  have hq := asI_inv hr
  clear hr
  obtain ⟨x6, rfl, hr⟩ := hq
  refine wo_step (v := (.i .i64 x6)) (s_pure (o_len rfl e6)) ?_
  have hq := forceB_inv hr
  clear hr
  obtain ⟨c7, e7, hr⟩ := hq
  refine wo_step (v := (.b c7)) (s_pure (p_bin rfl rfl (b_lss.trans (cb e7)))) ?_
  refine wo_nil ?_
  refine nx_norm ?_
  have hq := cond_inv hr
  clear hr
  rcases hq with ⟨rfl, hr⟩ | ⟨rfl, hr⟩
  · refine w_condT rfl ?_
    cases hr
  · refine w_condF rfl ?_
    refine w_skip ?_
    refine nx_norm ?_
    refine w_seq ?_
    refine w_ops ?_
    refine wo_step (v := v0) (s_pure (p_mv g0)) ?_
    have hq := bindO_inv hr
    clear hr
    obtain ⟨v10, e10, hr⟩ := hq
    refine wo_step (v := v10) (s_pure (o_ixS rfl rfl e10)) ?_
    have hq := bindO_inv hr
    clear hr
    obtain ⟨v11, e11, hr⟩ := hq
    have hq := asI_inv hr
    clear hr
    obtain ⟨x11, rfl, hr⟩ := hq
    refine wo_step (v := (.i .i64 x11)) (s_ld rfl e11) ?_
    refine wo_step (v := (.i .i64 x11)) (s_pure (p_mv rfl)) ?_
    refine wo_nil ?_
    refine nx_norm ?_
    refine w_seq ?_
    refine w_seq ?_
    refine w_ops ?_
    refine wo_step (v := (.i .i64 1)) (s_pure (p_mv rfl)) ?_
    refine wo_nil ?_
    refine nx_norm ?_
    refine w_block ?_
    have hq := bindO_inv hr
    clear hr
    obtain ⟨o, hl, hr⟩ := hq
    obtain ⟨n, hl⟩ := hM.loop _ _ _ hl
    refine jp_mono (w_loop _ (g72_I0 v0 m0) (g72_J0 v0 m0) ?_ n _ _ _ _ hl ⟨rfl, gl rfl, gl rfl, gl g0⟩) ?_
    · clear hr hl
      intro s mm_1 t_1 o hi hr
      obtain ⟨x3, x4⟩ := s
      obtain ⟨rfl, g3, g4, g0⟩ := hi
      unfold g72_b0 at hr
      refine w_seq ?_
      refine w_seq ?_
      refine w_ops ?_
      refine wo_step (v := (.i .i64 x4)) (s_pure (p_mv g4)) ?_
      refine wo_step (v := v0) (s_pure (p_mv g0)) ?_
      have hq := bindO_inv hr
      clear hr
      obtain ⟨v14, e14, hr⟩ := hq
      have hq := asI_inv hr
      clear hr
      obtain ⟨x14, rfl, hr⟩ := hq
      refine wo_step (v := (.i .i64 x14)) (s_pure (o_len rfl e14)) ?_
      have hq := forceB_inv hr
      clear hr
      obtain ⟨c15, e15, hr⟩ := hq
      refine wo_step (v := (.b c15)) (s_pure (p_bin rfl rfl (b_lss.trans (cb e15)))) ?_
      refine wo_nil ?_
      refine nx_norm ?_
      have hq := cond_inv hr
      clear hr
      rcases hq with ⟨rfl, hr⟩ | ⟨rfl, hr⟩
      · refine w_condT rfl ?_
        refine w_skip ?_
        refine nx_norm ?_
        refine w_seq ?_
        refine w_block ?_
        refine w_ops ?_
        refine wo_step (v := (.i .i64 x3)) (s_pure (p_mv g3)) ?_
        refine wo_step (v := v0) (s_pure (p_mv g0)) ?_
        refine wo_step (v := (.i .i64 x4)) (s_pure (p_mv g4)) ?_
        have hq := bindO_inv hr
        clear hr
        obtain ⟨v21, e21, hr⟩ := hq
        refine wo_step (v := v21) (s_pure (o_ixS rfl rfl e21)) ?_
        have hq := bindO_inv hr
        clear hr
        obtain ⟨v22, e22, hr⟩ := hq
        have hq := asI_inv hr
        clear hr
        obtain ⟨x22, rfl, hr⟩ := hq
        refine wo_step (v := (.i .i64 x22)) (s_ld rfl e22) ?_
        have hq := forceI_inv hr
        clear hr
        obtain ⟨x23, e23, hr⟩ := hq
        refine wo_step (v := (.i .i64 x23)) (s_pure ((p_mx rfl rfl).trans (ci e23))) ?_
        refine wo_step (v := (.i .i64 x23)) (s_pure (p_mv rfl)) ?_
        refine wo_nil ?_
        refine bk_norm ?_
        refine nx_norm ?_
        refine w_ops ?_
        refine wo_step (v := (.i .i64 x4)) (s_pure (p_mv g4)) ?_
        have hq := forceI_inv hr
        clear hr
        obtain ⟨x17, e17, hr⟩ := hq
        refine wo_step (v := (.i .i64 x17)) (s_pure (p_bin rfl rfl (b_add.trans (ci e17)))) ?_
        refine wo_step (v := (.i .i64 x17)) (s_pure (p_mv rfl)) ?_
        refine wo_nil ?_
        cases hr
        exact ⟨_, _, rfl, rfl, rfl, gl rfl, gl rfl, gl g0⟩
      · refine w_condF rfl ?_
        refine w_exit ?_
        refine nx_exit ?_
        cases hr
        exact ⟨_, _, rfl, ne_norm_exit, rfl, rfl, gl g3⟩
    · obtain ⟨x3_1, ho⟩ : ∃ z, z = o := ⟨_, rfl⟩
      subst ho
      rintro _ mm t_2 ⟨rfl, rfl, g3⟩
      refine bk_hit ?_
      refine nx_norm ?_
      refine w_seq ?_
      refine w_ops ?_
      refine wo_step (v := (.i .i64 x3_1)) (s_pure (p_mv g3)) ?_
      refine wo_step (v := (.i .i64 x3_1)) (s_pure (p_mv rfl)) ?_
      refine wo_nil ?_
      refine nx_norm ?_
      refine w_ret ?_
      exact qf ret_ok (rt rfl rn) hr

/- slices.Max[[]int,int] -/
abbrev g73_I0 (v0 : AVal) (m0 : Mm) (s : Int × Int) (m1 : Mm) (t1 : Tr) : Prop :=
  match s with
  | (x3, x4) => m0 = m1 ∧ t1.get 3 = (.i .i64 x3) ∧ t1.get 4 = (.i .i64 x4) ∧ t1.get 0 = v0
abbrev g73_J0 (v0 : AVal) (m0 : Mm) (o : Int) (e : AExit) (m1 : Mm) (t1 : Tr) : Prop :=
  match o with
  | y3 => e = (.exit 0) ∧ m0 = m1 ∧ t1.get 3 = (.i .i64 y3)
def g73_b0 (M : Means) (ro : List ABlk) (v0 : AVal) (m0 : Mm) (x3 : Int) (x4 : Int) : Option ((Int × Int) ⊕ (Int)) :=
  bindO (evP .e (.len false (.c v0))) fun v14 =>
  asI .i64 v14 fun x14 =>
  forceB (ltI x4 x14) fun c15 =>
  cond c15 (
    bindO (evP .e (.ixS 1 (.c v0) (.c (.i .i64 x4)))) fun v21 =>
    bindO (ldM ro m0 true 1 v21) fun v22 =>
    asI .i64 v22 fun x22 =>
    forceI (mxV true x3 x22) fun x23 =>
    forceI (wr .i64 (x4 + 1)) fun x17 =>
    some (.inl (x23, x17))) (
    some (.inr x3))
def g73 (M : Means) (ro : List ABlk) (v0 : AVal) (m0 : Mm) : Option (AVal × Heap × Nat × Nat) :=
  bindO (evP .e (.len false (.c v0))) fun v6 =>
  asI .i64 v6 fun x6 =>
  forceB (ltI x6 1) fun c7 =>
  cond c7 (
    none) (
    bindO (evP .e (.ixS 1 (.c v0) (.c (.i .i64 0)))) fun v10 =>
    bindO (ldM ro m0 true 1 v10) fun v11 =>
    asI .i64 v11 fun x11 =>
    bindO (M.loop (S := Int × Int) (R := Int) (fun s => g73_b0 M ro v0 m0 s.1 s.2) (x11, 1)) fun x3_1 =>
    finM m0.h.length (tupA [(.i .i64 x3_1)]) m0)

theorem g73_ok {ro : List ABlk} {O : Caller} {M : Means} (hM : M.Ok ⟨F, O⟩ ro) {v0 h r} (ho : O 73 [v0] h = none) (hr : g73 M ro v0 ⟨h, h.length, h.length⟩ = some r) : callX ⟨F, O⟩ ro 73 [v0] h = some r := by
  refine callX_of (F := ⟨F, O⟩) (fn := fn73) (g := g73 M ro v0) ho rfl rfl hr ?_
  clear ho
  clear hr
  intro m0 t0 ht hr
  have g0 : t0.get 0 = v0 := ht 0
  clear ht
  unfold g73 at hr
  refine w_seq ?_
  refine w_ops ?_
  refine wo_step (v := (.i .i64 0)) (s_pure (p_mv rfl)) ?_
  refine wo_nil ?_
  refine nx_norm ?_
  refine w_seq ?_
  refine w_seq ?_
  refine w_ops ?_
  refine wo_step (v := v0) (s_pure (p_mv g0)) ?_
  have hq := bindO_inv hr
  clear hr
  obtain ⟨v6, e6, hr⟩ := hq
  have hq := asI_inv hr
  clear hr
  obtain ⟨x6, rfl, hr⟩ := hq
  refine wo_step (v := (.i .i64 x6)) (s_pure (o_len rfl e6)) ?_
  have hq := forceB_inv hr
  clear hr
  obtain ⟨c7, e7, hr⟩ := hq
  refine wo_step (v := (.b c7)) (s_pure (p_bin rfl rfl (b_lss.trans (cb e7)))) ?_
  refine wo_nil ?_
  refine nx_norm ?_
  have hq := cond_inv hr
  clear hr
  rcases hq with ⟨rfl, hr⟩ | ⟨rfl, hr⟩
  · refine w_condT rfl ?_
    cases hr
  · refine w_condF rfl ?_
    refine w_skip ?_
    refine nx_norm ?_
    refine w_seq ?_
    refine w_ops ?_
    refine wo_step (v := v0) (s_pure (p_mv g0)) ?_
    have hq := bindO_inv hr
    clear hr
    obtain ⟨v10, e10, hr⟩ := hq
    refine wo_step (v := v10) (s_pure (o_ixS rfl rfl e10)) ?_
    have hq := bindO_inv hr
    clear hr
    obtain ⟨v11, e11, hr⟩ := hq
    have hq := asI_inv hr
    clear hr
    obtain ⟨x11, rfl, hr⟩ := hq
    refine wo_step (v := (.i .i64 x11)) (s_ld rfl e11) ?_
    refine wo_step (v := (.i .i64 x11)) (s_pure (p_mv rfl)) ?_
    refine wo_nil ?_
    refine nx_norm ?_
    refine w_seq ?_
    refine w_seq ?_
    refine w_ops ?_
    refine wo_step (v := (.i .i64 1)) (s_pure (p_mv rfl)) ?_
    refine wo_nil ?_
    refine nx_norm ?_
    refine w_block ?_
    have hq := bindO_inv hr
    clear hr
    obtain ⟨o, hl, hr⟩ := hq
    obtain ⟨n, hl⟩ := hM.loop _ _ _ hl
    refine jp_mono (w_loop _ (g73_I0 v0 m0) (g73_J0 v0 m0) ?_ n _ _ _ _ hl ⟨rfl, gl rfl, gl rfl, gl g0⟩) ?_
    · clear hr hl
      intro s mm_1 t_1 o hi hr
      obtain ⟨x3, x4⟩ := s
      obtain ⟨rfl, g3, g4, g0⟩ := hi
      unfold g73_b0 at hr
      refine w_seq ?_
      refine w_seq ?_
      refine w_ops ?_
      refine wo_step (v := (.i .i64 x4)) (s_pure (p_mv g4)) ?_
      refine wo_step (v := v0) (s_pure (p_mv g0)) ?_
      have hq := bindO_inv hr
      clear hr
      obtain ⟨v14, e14, hr⟩ := hq
      have hq := asI_inv hr
      clear hr
      obtain ⟨x14, rfl, hr⟩ := hq
      refine wo_step (v := (.i .i64 x14)) (s_pure (o_len rfl e14)) ?_
      have hq := forceB_inv hr
      clear hr
      obtain ⟨c15, e15, hr⟩ := hq
      refine wo_step (v := (.b c15)) (s_pure (p_bin rfl rfl (b_lss.trans (cb e15)))) ?_
      refine wo_nil ?_
      refine nx_norm ?_
      have hq := cond_inv hr
      clear hr
      rcases hq with ⟨rfl, hr⟩ | ⟨rfl, hr⟩
      · refine w_condT rfl ?_
        refine w_skip ?_
        refine nx_norm ?_
        refine w_seq ?_
        refine w_block ?_
        refine w_ops ?_
        refine wo_step (v := (.i .i64 x3)) (s_pure (p_mv g3)) ?_
        refine wo_step (v := v0) (s_pure (p_mv g0)) ?_
        refine wo_step (v := (.i .i64 x4)) (s_pure (p_mv g4)) ?_
        have hq := bindO_inv hr
        clear hr
        obtain ⟨v21, e21, hr⟩ := hq
        refine wo_step (v := v21) (s_pure (o_ixS rfl rfl e21)) ?_
        have hq := bindO_inv hr
        clear hr
        obtain ⟨v22, e22, hr⟩ := hq
        have hq := asI_inv hr
        clear hr
        obtain ⟨x22, rfl, hr⟩ := hq
        refine wo_step (v := (.i .i64 x22)) (s_ld rfl e22) ?_
        have hq := forceI_inv hr
        clear hr
        obtain ⟨x23, e23, hr⟩ := hq
        refine wo_step (v := (.i .i64 x23)) (s_pure ((p_mx rfl rfl).trans (ci e23))) ?_
        refine wo_step (v := (.i .i64 x23)) (s_pure (p_mv rfl)) ?_
        refine wo_nil ?_
        refine bk_norm ?_
        refine nx_norm ?_
        refine w_ops ?_
        refine wo_step (v := (.i .i64 x4)) (s_pure (p_mv g4)) ?_
        have hq := forceI_inv hr
        clear hr
        obtain ⟨x17, e17, hr⟩ := hq
        refine wo_step (v := (.i .i64 x17)) (s_pure (p_bin rfl rfl (b_add.trans (ci e17)))) ?_
        refine wo_step (v := (.i .i64 x17)) (s_pure (p_mv rfl)) ?_
        refine wo_nil ?_
        cases hr
        exact ⟨_, _, rfl, rfl, rfl, gl rfl, gl rfl, gl g0⟩
      · refine w_condF rfl ?_
        refine w_exit ?_
        refine nx_exit ?_
        cases hr
        exact ⟨_, _, rfl, ne_norm_exit, rfl, rfl, gl g3⟩
    · obtain ⟨x3_1, ho⟩ : ∃ z, z = o := ⟨_, rfl⟩
      subst ho
      rintro _ mm t_2 ⟨rfl, rfl, g3⟩
      refine bk_hit ?_
      refine nx_norm ?_
      refine w_seq ?_
      refine w_ops ?_
      refine wo_step (v := (.i .i64 x3_1)) (s_pure (p_mv g3)) ?_
      refine wo_step (v := (.i .i64 x3_1)) (s_pure (p_mv rfl)) ?_
      refine wo_nil ?_
      refine nx_norm ?_
      refine w_ret ?_
      exact qf ret_ok (rt rfl rn) hr

/- (dibber/turn.demands).step -/
abbrev g74_J0 (x1 : Int) (v2 : AVal) (v4 : AVal) (x9 : Int) (m_2 : Mm) (o : Bool) (m1 : Mm) (t1 : Tr) : Prop :=
  match o with
  | c17 => m_2 = m1 ∧ t1.get 17 = (.b c17) ∧ t1.get 1 = (.i .i64 x1) ∧ t1.get 2 = v2 ∧ t1.get 4 = v4 ∧ t1.get 6 = (.i .i64 x9)
abbrev g74_J1 (x1 : Int) (v2 : AVal) (v4 : AVal) (m_2 : Mm) (o : Bool) (m1 : Mm) (t1 : Tr) : Prop :=
  match o with
  | c32 => m_2 = m1 ∧ t1.get 32 = (.b c32) ∧ t1.get 1 = (.i .i64 x1) ∧ t1.get 2 = v2 ∧ t1.get 4 = v4
def g74 (M : Means) (ro : List ABlk) (v0 : AVal) (x1 : Int) (m0 : Mm) : Option (AVal × Heap × Nat × Nat) :=
  bindP (stepM ro m0 (.bx 55 3 (.c v0))) fun v2 m_1 =>
  bindP (stepM ro m_1 (.al 31 [(AVal.i IntKind.i64 0), (AVal.i IntKind.i64 0), (AVal.i IntKind.i64 0), (AVal.i IntKind.i64 0)])) fun v4 m_2 =>
  bindO (evP .e (.faddr 2 (.c v2))) fun v7 =>
  bindO (ldM ro m_2 true 1 v7) fun v8 =>
  bindO (evP .e (.len false (.c v8))) fun v9 =>
  asI .i64 v9 fun x9 =>
  forceB (!ltI x1 1) fun c12 =>
  bindO (cond c12 (
    forceB (!ltI x9 x1) fun c16 =>
    some c16) (
    some false)) fun c17 =>
  cond c17 (
    bindO (evP .e (.faddr 2 (.c v2))) fun v18 =>
    bindO (ldM ro m_2 true 1 v18) fun v19 =>
    forceI (wr .i64 (x1 - 1)) fun x21 =>
    bindO (evP .e (.ixS 4 (.c v19) (.c (.i .i64 x21)))) fun v22 =>
    bindO (ldM ro m_2 false 4 v22) fun v23 =>
    bindP (stepM ro m_2 (.st 4 (.c v4) (.c v23))) fun vn m_3 =>
    bindO (ldM ro m_3 false 4 v4) fun vr =>
    finM m0.h.length (tupA [vr, (.b true)]) m_3) (
    forceB (!ltI (-1) x1) fun c26 =>
    bindO (cond c26 (
      forceI (wr .i64 (0 - x9)) fun x30 =>
      forceB (!ltI x1 x30) fun c31 =>
      some c31) (
      some false)) fun c32 =>
    cond c32 (
      bindO (evP .e (.faddr 2 (.c v2))) fun v33 =>
      bindO (ldM ro m_2 true 1 v33) fun v34 =>
      forceI (wr .i64 (0 - x1)) fun x36 =>
      forceI (wr .i64 (x36 - 1)) fun x37 =>
      bindO (evP .e (.ixS 4 (.c v34) (.c (.i .i64 x37)))) fun v38 =>
      bindO (ldM ro m_2 false 4 v38) fun v39 =>
      bindP (callM M.call m_2 77 [v39]) fun v40 m_4 =>
      bindP (stepM ro m_4 (.st 4 (.c v4) (.c v40))) fun vn_1 m_5 =>
      bindO (ldM ro m_5 false 4 v4) fun vr_1 =>
      finM m0.h.length (tupA [vr_1, (.b true)]) m_5) (
      bindO ((fillA [(AVal.i IntKind.i64 0), (AVal.i IntKind.i64 0), (AVal.i IntKind.i64 0), (AVal.i IntKind.i64 0)] []).map AVal.agg) fun v41 =>
      bindP (stepM ro m_2 (.st 4 (.c v4) (.c v41))) fun vn_2 m_6 =>
      bindO (ldM ro m_6 false 4 v4) fun vr_2 =>
      finM m0.h.length (tupA [vr_2, (.b false)]) m_6))

theorem g74_ok {ro : List ABlk} {O : Caller} {M : Means} (hM : M.Ok ⟨F, O⟩ ro) {v0 x1 h r} (ho : O 74 [v0, (.i .i64 x1)] h = none) (hr : g74 M ro v0 x1 ⟨h, h.length, h.length⟩ = some r) : callX ⟨F, O⟩ ro 74 [v0, (.i .i64 x1)] h = some r := by
  refine callX_of (F := ⟨F, O⟩) (fn := fn74) (g := g74 M ro v0 x1) ho rfl rfl hr ?_
  clear ho
  clear hr
  intro m0 t0 ht hr
  have g0 : t0.get 0 = v0 := ht 0
  have g1 : t0.get 1 = (.i .i64 x1) := ht 1
  clear ht
  unfold g74 at hr
  refine w_seq ?_
  refine w_ops ?_
  have hq := bindP_inv hr
  clear hr
  obtain ⟨v2, m_1, e2, hr⟩ := hq
  refine wo_step (v := v2) (s_bx g0 e2) ?_
  have hq := bindP_inv hr
  clear hr
  obtain ⟨v4, m_2, e4, hr⟩ := hq
  refine wo_step (v := v4) (s_al e4) ?_
  refine wo_step (v := (.b false)) (s_pure (p_mv rfl)) ?_
  refine wo_nil ?_
  refine nx_norm ?_
  refine w_seq ?_
  refine w_ops ?_
  have hq := bindO_inv hr
  clear hr
  obtain ⟨v7, e7, hr⟩ := hq
  refine wo_step (v := v7) (s_pure (o_faddr rfl e7)) ?_
  have hq := bindO_inv hr
  clear hr
  obtain ⟨v8, e8, hr⟩ := hq
  refine wo_step (v := v8) (s_ld rfl e8) ?_
  have hq := bindO_inv hr
  clear hr
  obtain ⟨v9, e9, hr⟩ := hq
  have hq := asI_inv hr
  clear hr
  obtain ⟨x9, rfl, hr⟩ := hq
  refine wo_step (v := (.i .i64 x9)) (s_pure (o_len rfl e9)) ?_
  refine wo_step (v := (.i .i64 x9)) (s_pure (p_mv rfl)) ?_
  refine wo_nil ?_
  refine nx_norm ?_
  refine w_seq ?_
  refine w_block ?_
  refine w_seq ?_
  refine w_ops ?_
  refine wo_step (v := (.i .i64 x1)) (s_pure (p_mv g1)) ?_
  have hq := forceB_inv hr
  clear hr
  obtain ⟨c12, e12, hr⟩ := hq
  refine wo_step (v := (.b c12)) (s_pure (p_bin rfl rfl (b_geq.trans (cb e12)))) ?_
  refine wo_step (v := (.b c12)) (s_pure (p_mv rfl)) ?_
  have hq := bindO_inv hr
  clear hr
  obtain ⟨o, hr, hk⟩ := hq
  refine wo_join 4 (g74_J0 x1 v2 v4 x9 m_2 o) ?_ ?_
  · clear hk
    have hq := cond_inv hr
    clear hr
    rcases hq with ⟨rfl, hr⟩ | ⟨rfl, hr⟩
    · refine wo_take (v := (.i .i64 x1)) rfl (s_pure (p_mv g1)) ?_
      refine wo_take (v := (.i .i64 x9)) rfl (s_pure (p_mv rfl)) ?_
      have hq := forceB_inv hr
      clear hr
      obtain ⟨c16, e16, hr⟩ := hq
      refine wo_take (v := (.b c16)) rfl (s_pure (p_bin rfl rfl (b_leq.trans (cb e16)))) ?_
      refine wo_step (v := (.b c16)) (s_pure (p_pickT rfl rfl)) ?_
      refine wo_nil ?_
      cases hr
      exact ⟨_, _, rfl, rfl, gl rfl, gl g1, gl rfl, gl rfl, gl rfl⟩
    · refine wo_skip (v := (.b false)) rfl rfl ?_
      refine wo_skip (v := (.b false)) rfl rfl ?_
      refine wo_skip (v := (.b false)) rfl rfl ?_
      refine wo_step (v := (.b false)) (s_pure (p_pickF rfl rfl)) ?_
      refine wo_nil ?_
      cases hr
      exact ⟨_, _, rfl, rfl, gl rfl, gl g1, gl rfl, gl rfl, gl rfl⟩
  · clear hr
    have hr := hk
    clear hk
    obtain ⟨c17, ho⟩ : ∃ z, z = o := ⟨_, rfl⟩
    subst ho
    rintro mm t_1 ⟨rfl, g17, g1, g2, g4, g6⟩
    refine wo_step (v := (.b c17)) (s_pure (p_mv g17)) ?_
    refine wo_nil ?_
    refine nx_norm ?_
    have hq := cond_inv hr
    clear hr
    rcases hq with ⟨rfl, hr⟩ | ⟨rfl, hr⟩
    · refine w_condT rfl ?_
      refine w_seq ?_
      refine w_ops ?_
      have hq := bindO_inv hr
      clear hr
      obtain ⟨v18, e18, hr⟩ := hq
      refine wo_step (v := v18) (s_pure (o_faddr g2 e18)) ?_
      have hq := bindO_inv hr
      clear hr
      obtain ⟨v19, e19, hr⟩ := hq
      refine wo_step (v := v19) (s_ld rfl e19) ?_
      refine wo_step (v := (.i .i64 x1)) (s_pure (p_mv g1)) ?_
      have hq := forceI_inv hr
      clear hr
      obtain ⟨x21, e21, hr⟩ := hq
      refine wo_step (v := (.i .i64 x21)) (s_pure (p_bin rfl rfl (b_sub.trans (ci e21)))) ?_
      have hq := bindO_inv hr
      clear hr
      obtain ⟨v22, e22, hr⟩ := hq
      refine wo_step (v := v22) (s_pure (o_ixS rfl rfl e22)) ?_
      have hq := bindO_inv hr
      clear hr
      obtain ⟨v23, e23, hr⟩ := hq
      refine wo_step (v := v23) (s_ld rfl e23) ?_
      have hq := bindP_inv hr
      clear hr
      obtain ⟨vn, m_3, en, hr⟩ := hq
      refine wo_stepN (s_st g4 rfl en) ?_
      refine wo_step (v := (.b true)) (s_pure (p_mv rfl)) ?_
      refine wo_nil ?_
      refine nx_norm ?_
      refine w_ret ?_
      refine bk_ret ?_
      refine nx_ret ?_
      have hq := bindO_inv hr
      clear hr
      obtain ⟨vr, er, hr⟩ := hq
      exact qf ret_ok (rc g4 er (rt rfl rn)) hr
    · refine w_condF rfl ?_
      refine w_seq ?_
      refine w_ops ?_
      refine wo_step (v := (.i .i64 x1)) (s_pure (p_mv g1)) ?_
      have hq := forceB_inv hr
      clear hr
      obtain ⟨c26, e26, hr⟩ := hq
      refine wo_step (v := (.b c26)) (s_pure (p_bin rfl rfl (b_leq.trans (cb e26)))) ?_
      refine wo_step (v := (.b c26)) (s_pure (p_mv rfl)) ?_
      have hq := bindO_inv hr
      clear hr
      obtain ⟨o_1, hr, hk⟩ := hq
      refine wo_join 5 (g74_J1 x1 v2 v4 m_2 o_1) ?_ ?_
      · clear hk
        have hq := cond_inv hr
        clear hr
        rcases hq with ⟨rfl, hr⟩ | ⟨rfl, hr⟩
        · refine wo_take (v := (.i .i64 x1)) rfl (s_pure (p_mv g1)) ?_
          refine wo_take (v := (.i .i64 x9)) rfl (s_pure (p_mv g6)) ?_
          have hq := forceI_inv hr
          clear hr
          obtain ⟨x30, e30, hr⟩ := hq
          refine wo_take (v := (.i .i64 x30)) rfl (s_pure ((p_neg rfl).trans (ci e30))) ?_
          have hq := forceB_inv hr
          clear hr
          obtain ⟨c31, e31, hr⟩ := hq
          refine wo_take (v := (.b c31)) rfl (s_pure (p_bin rfl rfl (b_geq.trans (cb e31)))) ?_
          refine wo_step (v := (.b c31)) (s_pure (p_pickT rfl rfl)) ?_
          refine wo_nil ?_
          cases hr
          exact ⟨_, _, rfl, rfl, gl rfl, gl g1, gl g2, gl g4⟩
        · refine wo_skip (v := (.b false)) rfl rfl ?_
          refine wo_skip (v := (.b false)) rfl rfl ?_
          refine wo_skip (v := (.b false)) rfl rfl ?_
          refine wo_skip (v := (.b false)) rfl rfl ?_
          refine wo_step (v := (.b false)) (s_pure (p_pickF rfl rfl)) ?_
          refine wo_nil ?_
          cases hr
          exact ⟨_, _, rfl, rfl, gl rfl, gl g1, gl g2, gl g4⟩
      · clear hr
        have hr := hk
        clear hk
        obtain ⟨c32, ho⟩ : ∃ z, z = o_1 := ⟨_, rfl⟩
        subst ho
        rintro mm_1 t_2 ⟨rfl, g32, g1, g2, g4⟩
        refine wo_step (v := (.b c32)) (s_pure (p_mv g32)) ?_
        refine wo_nil ?_
        refine nx_norm ?_
        have hq := cond_inv hr
        clear hr
        rcases hq with ⟨rfl, hr⟩ | ⟨rfl, hr⟩
        · refine w_condT rfl ?_
          refine w_seq ?_
          refine w_ops ?_
          have hq := bindO_inv hr
          clear hr
          obtain ⟨v33, e33, hr⟩ := hq
          refine wo_step (v := v33) (s_pure (o_faddr g2 e33)) ?_
          have hq := bindO_inv hr
          clear hr
          obtain ⟨v34, e34, hr⟩ := hq
          refine wo_step (v := v34) (s_ld rfl e34) ?_
          refine wo_step (v := (.i .i64 x1)) (s_pure (p_mv g1)) ?_
          have hq := forceI_inv hr
          clear hr
          obtain ⟨x36, e36, hr⟩ := hq
          refine wo_step (v := (.i .i64 x36)) (s_pure ((p_neg rfl).trans (ci e36))) ?_
          have hq := forceI_inv hr
          clear hr
          obtain ⟨x37, e37, hr⟩ := hq
          refine wo_step (v := (.i .i64 x37)) (s_pure (p_bin rfl rfl (b_sub.trans (ci e37)))) ?_
          have hq := bindO_inv hr
          clear hr
          obtain ⟨v38, e38, hr⟩ := hq
          refine wo_step (v := v38) (s_pure (o_ixS rfl rfl e38)) ?_
          have hq := bindO_inv hr
          clear hr
          obtain ⟨v39, e39, hr⟩ := hq
          refine wo_step (v := v39) (s_ld rfl e39) ?_
          have hq := bindP_inv hr
          clear hr
          obtain ⟨v40, m_4, e40, hr⟩ := hq
          refine wo_step (v := v40) (s_call (mc rfl mn) (callM_le hM.call e40)) ?_
          have hq := bindP_inv hr
          clear hr
          obtain ⟨vn_1, m_5, en_1, hr⟩ := hq
          refine wo_stepN (s_st g4 rfl en_1) ?_
          refine wo_step (v := (.b true)) (s_pure (p_mv rfl)) ?_
          refine wo_nil ?_
          refine nx_norm ?_
          refine w_ret ?_
          refine bk_ret ?_
          refine nx_ret ?_
          have hq := bindO_inv hr
          clear hr
          obtain ⟨vr_1, er_1, hr⟩ := hq
          exact qf ret_ok (rc g4 er_1 (rt rfl rn)) hr
        · refine w_condF rfl ?_
          refine w_skip ?_
          refine bk_norm ?_
          refine nx_norm ?_
          refine w_seq ?_
          refine w_ops ?_
          have hq := bindO_inv hr
          clear hr
          obtain ⟨v41, e41, hr⟩ := hq
          refine wo_step (v := v41) (s_pure (o_build qn e41)) ?_
          have hq := bindP_inv hr
          clear hr
          obtain ⟨vn_2, m_6, en_2, hr⟩ := hq
          refine wo_stepN (s_st g4 rfl en_2) ?_
          refine wo_step (v := (.b false)) (s_pure (p_mv rfl)) ?_
          refine wo_nil ?_
          refine nx_norm ?_
          refine w_ret ?_
          have hq := bindO_inv hr
          clear hr
          obtain ⟨vr_2, er_2, hr⟩ := hq
          exact qf ret_ok (rc g4 er_2 (rt rfl rn)) hr

/- dibber/turn.turned -/

def g77 (M : Means) (ro : List ABlk) (v0 : AVal) (m0 : Mm) : Option (AVal × Heap × Nat × Nat) :=
  bindP (stepM ro m0 (.bx 31 4 (.c v0))) fun v1 m_1 =>
  bindP (stepM ro m_1 (.al 31 [(AVal.i IntKind.i64 0), (AVal.i IntKind.i64 0), (AVal.i IntKind.i64 0), (AVal.i IntKind.i64 0)])) fun v2 m_2 =>
  bindO (evP .e (.faddr 1 (.c v1))) fun v3 =>
  bindO (ldM ro m_2 true 1 v3) fun v4 =>
  asI .i64 v4 fun x4 =>
  bindO (evP .e (.faddr 0 (.c v1))) fun v5 =>
  bindO (ldM ro m_2 true 1 v5) fun v6 =>
  asI .i64 v6 fun x6 =>
  bindO (evP .e (.faddr 3 (.c v1))) fun v7 =>
  bindO (ldM ro m_2 true 1 v7) fun v8 =>
  asI .i64 v8 fun x8 =>
  forceI (wr .i64 (0 - x8)) fun x9 =>
  bindO (evP .e (.faddr 2 (.c v1))) fun v10 =>
  bindO (ldM ro m_2 true 1 v10) fun v11 =>
  asI .i64 v11 fun x11 =>
  forceI (wr .i64 (0 - x11)) fun x12 =>
  bindO ((fillA [(AVal.i IntKind.i64 0), (AVal.i IntKind.i64 0), (AVal.i IntKind.i64 0), (AVal.i IntKind.i64 0)] [((0, 1), (.i .i64 x4)), ((1, 1), (.i .i64 x6)), ((2, 1), (.i .i64 x9)), ((3, 1), (.i .i64 x12))]).map AVal.agg) fun v13 =>
  bindP (stepM ro m_2 (.st 4 (.c v2) (.c v13))) fun vn m_3 =>
  bindO (ldM ro m_3 false 4 v2) fun vr =>
  finM m0.h.length (tupA [vr]) m_3

theorem g77_ok {ro : List ABlk} {O : Caller} {M : Means} (hM : M.Ok ⟨F, O⟩ ro) {v0 h r} (ho : O 77 [v0] h = none) (hr : g77 M ro v0 ⟨h, h.length, h.length⟩ = some r) : callX ⟨F, O⟩ ro 77 [v0] h = some r := by
  refine callX_of (F := ⟨F, O⟩) (fn := fn77) (g := g77 M ro v0) ho rfl rfl hr ?_
  clear ho
  clear hr
  intro m0 t0 ht hr
  have g0 : t0.get 0 = v0 := ht 0
  clear ht
  unfold g77 at hr
  refine w_seq ?_
  refine w_ops ?_
  have hq := bindP_inv hr
  clear hr
  obtain ⟨v1, m_1, e1, hr⟩ := hq
  refine wo_step (v := v1) (s_bx g0 e1) ?_
  have hq := bindP_inv hr
  clear hr
  obtain ⟨v2, m_2, e2, hr⟩ := hq
  refine wo_step (v := v2) (s_al e2) ?_
  refine wo_nil ?_
  refine nx_norm ?_
  refine w_seq ?_
  refine w_ops ?_
  have hq := bindO_inv hr
  clear hr
  obtain ⟨v3, e3, hr⟩ := hq
  refine wo_step (v := v3) (s_pure (o_faddr rfl e3)) ?_
  have hq := bindO_inv hr
  clear hr
  obtain ⟨v4, e4, hr⟩ := hq
  have hq := asI_inv hr
  clear hr
  obtain ⟨x4, rfl, hr⟩ := hq
  refine wo_step (v := (.i .i64 x4)) (s_ld rfl e4) ?_
  have hq := bindO_inv hr
  clear hr
  obtain ⟨v5, e5, hr⟩ := hq
  refine wo_step (v := v5) (s_pure (o_faddr rfl e5)) ?_
  have hq := bindO_inv hr
  clear hr
  obtain ⟨v6, e6, hr⟩ := hq
  have hq := asI_inv hr
  clear hr
  obtain ⟨x6, rfl, hr⟩ := hq
  refine wo_step (v := (.i .i64 x6)) (s_ld rfl e6) ?_
  have hq := bindO_inv hr
  clear hr
  obtain ⟨v7, e7, hr⟩ := hq
  refine wo_step (v := v7) (s_pure (o_faddr rfl e7)) ?_
  have hq := bindO_inv hr
  clear hr
  obtain ⟨v8, e8, hr⟩ := hq
  have hq := asI_inv hr
  clear hr
  obtain ⟨x8, rfl, hr⟩ := hq
  refine wo_step (v := (.i .i64 x8)) (s_ld rfl e8) ?_
  have hq := forceI_inv hr
  clear hr
  obtain ⟨x9, e9, hr⟩ := hq
  refine wo_step (v := (.i .i64 x9)) (s_pure ((p_neg rfl).trans (ci e9))) ?_
  have hq := bindO_inv hr
  clear hr
  obtain ⟨v10, e10, hr⟩ := hq
  refine wo_step (v := v10) (s_pure (o_faddr rfl e10)) ?_
  have hq := bindO_inv hr
  clear hr
  obtain ⟨v11, e11, hr⟩ := hq
  have hq := asI_inv hr
  clear hr
  obtain ⟨x11, rfl, hr⟩ := hq
  refine wo_step (v := (.i .i64 x11)) (s_ld rfl e11) ?_
  have hq := forceI_inv hr
  clear hr
  obtain ⟨x12, e12, hr⟩ := hq
  refine wo_step (v := (.i .i64 x12)) (s_pure ((p_neg rfl).trans (ci e12))) ?_
  have hq := bindO_inv hr
  clear hr
  obtain ⟨v13, e13, hr⟩ := hq
  refine wo_step (v := v13) (s_pure (o_build (qc rfl (qc rfl (qc rfl (qc rfl qn)))) e13)) ?_
  have hq := bindP_inv hr
  clear hr
  obtain ⟨vn, m_3, en, hr⟩ := hq
  refine wo_stepN (s_st rfl rfl en) ?_
  refine wo_nil ?_
  refine nx_norm ?_
  refine w_ret ?_
  have hq := bindO_inv hr
  clear hr
  obtain ⟨vr, er, hr⟩ := hq
  exact qf ret_ok (rc rfl er rn) hr

end Go.Proofs.YtddnpchfjdgigaaDoor.T

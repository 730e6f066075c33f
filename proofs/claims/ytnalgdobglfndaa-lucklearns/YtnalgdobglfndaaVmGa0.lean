/- Plain functions, and that the small machine answers as they do. -/
import Derived.Test.YtnalgdobglfndaaVmP
import Derived.Test.YtnalgdobglfndaaVmAE
open Go.Vm
set_option linter.unusedVariables false
namespace Go.Proofs.Ytnalgdobglfndaa.T
open Go
/- dibber/dibberlaw05.LuckLearns -/
abbrev g5_J0 (v0 : AVal) (v1 : AVal) (x2 : Int) (m_1 : Mm) (o : Bool) (m1 : Mm) (t1 : Tr) : Prop :=
  match o with
  | c21 => m_1 = m1 ∧ t1.get 21 = (.b c21) ∧ t1.get 0 = v0 ∧ t1.get 1 = v1 ∧ t1.get 2 = (.i .i64 x2)
abbrev g5_J1 (v0 : AVal) (v1 : AVal) (x2 : Int) (m_1 : Mm) (o : Bool) (m1 : Mm) (t1 : Tr) : Prop :=
  match o with
  | c29 => m_1 = m1 ∧ t1.get 29 = (.b c29) ∧ t1.get 0 = v0 ∧ t1.get 1 = v1 ∧ t1.get 2 = (.i .i64 x2)
abbrev g5_J2 (v0 : AVal) (v1 : AVal) (x2 : Int) (m_1 : Mm) (o : Bool) (m1 : Mm) (t1 : Tr) : Prop :=
  match o with
  | c29_1 => m_1 = m1 ∧ t1.get 29 = (.b c29_1) ∧ t1.get 0 = v0 ∧ t1.get 1 = v1 ∧ t1.get 2 = (.i .i64 x2)
abbrev g5_J3 (x38 : Int) (x46 : Int) (m_5 : Mm) (o : Bool) (m1 : Mm) (t1 : Tr) : Prop :=
  match o with
  | c54 => m_5 = m1 ∧ t1.get 54 = (.b c54) ∧ t1.get 9 = (.i .i64 x38) ∧ t1.get 12 = (.i .i64 x46)
abbrev g5_J4 (m_5 : Mm) (o : Bool) (m1 : Mm) (t1 : Tr) : Prop :=
  match o with
  | c59 => m_5 = m1 ∧ t1.get 59 = (.b c59)
abbrev g5_J5  (o : Bool × Mm) (m1 : Mm) (t1 : Tr) : Prop :=
  match o with
  | (c62, m_6) => m_6 = m1 ∧ t1.get 62 = (.b c62)
def g5 (M : Means) (ro : List ABlk) (v0 : AVal) (v1 : AVal) (x2 : Int) (m0 : Mm) : Option (AVal × Heap × Nat × Nat) :=
  bindP (callM M.call m0 15 [v0, v1]) fun v15 m_1 =>
  asB v15 fun c15 =>
  forceB (!c15) fun c16 =>
  bindO (cond c16 (
    some true) (
    bindO (evP .e (.len false (.c v0))) fun v19 =>
    asI .i64 v19 fun x19 =>
    forceB (ltI 100 x19) fun c20 =>
    some c20)) fun c21 =>
  bindO (cond c21 (
    some true) (
    forceB (ltI 100 x2) fun c24 =>
    bindO (cond c24 (
      forceB (!ltI 1000 x2) fun c27 =>
      some c27) (
      some false)) fun c29_1 =>
    some c29_1)) fun c29 =>
  cond c29 (
    bindP (callM M.call m_1 16 []) fun v30 m_2 =>
    asB v30 fun c30 =>
    finM m0.h.length (tupA [(.b c30)]) m_2) (
    bindP (callM M.call m_1 27 [v0, v1, (.i .i64 x2)]) fun v35 m_3 =>
    bindO (evP .e (.ext 0 (.c v35))) fun v36 =>
    bindO (evP .e (.ext 1 (.c v35))) fun v37 =>
    asI .i64 v37 fun x37 =>
    bindO (evP .e (.ext 2 (.c v35))) fun v38 =>
    asI .i64 v38 fun x38 =>
    bindP (callM M.call m_3 28 [v0, v1, (.i .i64 x2)]) fun v43 m_4 =>
    bindO (evP .e (.ext 0 (.c v43))) fun v44 =>
    bindO (evP .e (.ext 1 (.c v43))) fun v45 =>
    asI .i64 v45 fun x45 =>
    bindO (evP .e (.ext 2 (.c v43))) fun v46 =>
    asI .i64 v46 fun x46 =>
    bindP (callM M.call m_4 20 [v36, v44]) fun v49 m_5 =>
    asB v49 fun c49 =>
    bindO (cond c49 (
      forceB (eqI x37 x45) fun c53 =>
      some c53) (
      some false)) fun c54 =>
    bindO (cond c54 (
      forceB (eqI x38 x46) fun c58 =>
      some c58) (
      some false)) fun c59 =>
    bindO (cond c59 (
      bindP (callM M.call m_5 16 []) fun v61 m_7 =>
      asB v61 fun c61 =>
      some (c61, m_7)) (
      some (false, m_5))) fun ⟨c62, m_6⟩ =>
    finM m0.h.length (tupA [(.b c62)]) m_6)

theorem g5_ok {ro : List ABlk} {O : Caller} {M : Means} (hM : M.Ok ⟨F, O⟩ ro) {v0 v1 x2 h r} (ho : O 5 [v0, v1, (.i .i64 x2)] h = none) (hr : g5 M ro v0 v1 x2 ⟨h, h.length, h.length⟩ = some r) : callX ⟨F, O⟩ ro 5 [v0, v1, (.i .i64 x2)] h = some r := by
  refine callX_of (F := ⟨F, O⟩) (fn := fn5) (g := g5 M ro v0 v1 x2) ho rfl rfl hr ?_
  clear ho
  clear hr
  intro m0 t0 ht hr
  have g0 : t0.get 0 = v0 := ht 0
  have g1 : t0.get 1 = v1 := ht 1
  have g2 : t0.get 2 = (.i .i64 x2) := ht 2
  clear ht
  unfold g5 at hr
  refine w_seq ?_
  refine w_ops ?_
  refine wo_step (v := (.b false)) (s_pure (p_mv rfl)) ?_
  refine wo_nil ?_
  refine nx_norm ?_
  refine w_seq ?_
  refine w_seq ?_
  refine w_ops ?_
  refine wo_step (v := v0) (s_pure (p_mv g0)) ?_
  refine wo_step (v := v1) (s_pure (p_mv g1)) ?_
  have hq := bindP_inv hr
  clear hr
  obtain ⟨v15, m_1, e15, hr⟩ := hq
  have hq := asB_inv hr
  clear hr
  obtain ⟨c15, rfl, hr⟩ := hq
  refine wo_step (v := (.b c15)) (s_call (mc rfl (mc rfl mn)) (callM_le hM.call e15)) ?_
  have hq := forceB_inv hr
  clear hr
  obtain ⟨c16, e16, hr⟩ := hq
  refine wo_step (v := (.b c16)) (s_pure ((p_not rfl).trans (cb e16))) ?_
  refine wo_step (v := (.b c16)) (s_pure (p_mv rfl)) ?_
  have hq := bindO_inv hr
  clear hr
  obtain ⟨o, hr, hk⟩ := hq
  refine wo_join 4 (g5_J0 v0 v1 x2 m_1 o) ?_ ?_
  · clear hk
    have hq := cond_inv hr
    clear hr
    rcases hq with ⟨rfl, hr⟩ | ⟨rfl, hr⟩
    · refine wo_skip (v := (.b true)) rfl rfl ?_
      refine wo_skip (v := (.b true)) rfl rfl ?_
      refine wo_skip (v := (.b true)) rfl rfl ?_
      refine wo_step (v := (.b true)) (s_pure (p_pickT rfl rfl)) ?_
      refine wo_nil ?_
      cases hr
      exact ⟨_, _, rfl, rfl, gl rfl, gl g0, gl g1, gl g2⟩
    · refine wo_take (v := v0) rfl (s_pure (p_mv g0)) ?_
      have hq := bindO_inv hr
      clear hr
      obtain ⟨v19, e19, hr⟩ := hq
      have hq := asI_inv hr
      clear hr
      obtain ⟨x19, rfl, hr⟩ := hq
      refine wo_take (v := (.i .i64 x19)) rfl (s_pure (o_len rfl e19)) ?_
      have hq := forceB_inv hr
      clear hr
      obtain ⟨c20, e20, hr⟩ := hq
      refine wo_take (v := (.b c20)) rfl (s_pure (p_bin rfl rfl (b_gtr.trans (cb e20)))) ?_
      refine wo_step (v := (.b c20)) (s_pure (p_pickF rfl rfl)) ?_
      refine wo_nil ?_
      cases hr
      exact ⟨_, _, rfl, rfl, gl rfl, gl g0, gl g1, gl g2⟩
  · clear hr
    have hr := hk
    clear hk
    obtain ⟨c21, ho⟩ : ∃ z, z = o := ⟨_, rfl⟩
    subst ho
    rintro mm t_1 ⟨rfl, g21, g0, g1, g2⟩
    refine wo_step (v := (.b c21)) (s_pure (p_mv g21)) ?_
    have hq := bindO_inv hr
    clear hr
    obtain ⟨o_1, hr, hk⟩ := hq
    refine wo_join 7 (g5_J1 v0 v1 x2 m_1 o_1) ?_ ?_
    · clear hk
      have hq := cond_inv hr
      clear hr
      rcases hq with ⟨rfl, hr⟩ | ⟨rfl, hr⟩
      · refine wo_skip (v := (.b true)) rfl rfl ?_
        refine wo_skip (v := (.b true)) rfl rfl ?_
        refine wo_skip (v := (.b true)) rfl rfl ?_
        refine wo_skip (v := und) rfl rfl ?_
        refine wo_skip (v := und) rfl rfl ?_
        refine wo_skip (v := (.b true)) rfl rfl ?_
        refine wo_step (v := (.b true)) (s_pure (p_pickT rfl rfl)) ?_
        refine wo_nil ?_
        cases hr
        exact ⟨_, _, rfl, rfl, gl rfl, gl g0, gl g1, gl g2⟩
      · refine wo_take (v := (.i .i64 x2)) rfl (s_pure (p_mv g2)) ?_
        have hq := forceB_inv hr
        clear hr
        obtain ⟨c24, e24, hr⟩ := hq
        refine wo_take (v := (.b c24)) rfl (s_pure (p_bin rfl rfl (b_gtr.trans (cb e24)))) ?_
        refine wo_take (v := (.b c24)) rfl (s_pure (p_mv rfl)) ?_
        have hq := bindO_inv hr
        clear hr
        obtain ⟨o_2, hr, hk⟩ := hq
        refine wo_join 4 (g5_J2 v0 v1 x2 m_1 o_2) ?_ ?_
        · clear hk
          have hq := cond_inv hr
          clear hr
          rcases hq with ⟨rfl, hr⟩ | ⟨rfl, hr⟩
          · refine wo_take (v := (.i .i64 x2)) rfl (s_pure (p_mv g2)) ?_
            have hq := forceB_inv hr
            clear hr
            obtain ⟨c27, e27, hr⟩ := hq
            refine wo_take (v := (.b c27)) rfl (s_pure (p_bin rfl rfl (b_leq.trans (cb e27)))) ?_
            refine wo_take (v := (.b c27)) rfl (s_pure (p_pickT rfl rfl)) ?_
            refine wo_step (v := (.b c27)) (s_pure (p_pickF rfl rfl)) ?_
            refine wo_nil ?_
            cases hr
            exact ⟨_, _, rfl, rfl, gl rfl, gl g0, gl g1, gl g2⟩
          · refine wo_skip (v := (.b false)) rfl rfl ?_
            refine wo_skip (v := (.b false)) rfl rfl ?_
            refine wo_take (v := (.b false)) rfl (s_pure (p_pickF rfl rfl)) ?_
            refine wo_step (v := (.b false)) (s_pure (p_pickF rfl rfl)) ?_
            refine wo_nil ?_
            cases hr
            exact ⟨_, _, rfl, rfl, gl rfl, gl g0, gl g1, gl g2⟩
        · clear hr
          have hr := hk
          clear hk
          obtain ⟨c29_1, ho⟩ : ∃ z, z = o_2 := ⟨_, rfl⟩
          subst ho
          rintro mm_1 t_2 ⟨rfl, g29, g0, g1, g2⟩
          refine wo_nil ?_
          cases hr
          exact ⟨_, _, rfl, rfl, gl g29, gl g0, gl g1, gl g2⟩
    · clear hr
      have hr := hk
      clear hk
      obtain ⟨c29, ho⟩ : ∃ z, z = o_1 := ⟨_, rfl⟩
      subst ho
      rintro mm_2 t_3 ⟨rfl, g29, g0, g1, g2⟩
      refine wo_nil ?_
      refine nx_norm ?_
      have hq := cond_inv hr
      clear hr
      rcases hq with ⟨rfl, hr⟩ | ⟨rfl, hr⟩
      · refine w_condT g29 ?_
        refine w_seq ?_
        refine w_ops ?_
        have hq := bindP_inv hr
        clear hr
        obtain ⟨v30, m_2, e30, hr⟩ := hq
        have hq := asB_inv hr
        clear hr
        obtain ⟨c30, rfl, hr⟩ := hq
        refine wo_step (v := (.b c30)) (s_call mn (callM_le hM.call e30)) ?_
        refine wo_step (v := (.b c30)) (s_pure (p_mv rfl)) ?_
        refine wo_nil ?_
        refine nx_norm ?_
        refine w_ret ?_
        refine nx_ret ?_
        exact qf ret_ok (rt rfl rn) hr
      · refine w_condF g29 ?_
        refine w_skip ?_
        refine nx_norm ?_
        refine w_seq ?_
        refine w_ops ?_
        refine wo_step (v := v0) (s_pure (p_mv g0)) ?_
        refine wo_step (v := v1) (s_pure (p_mv g1)) ?_
        refine wo_step (v := (.i .i64 x2)) (s_pure (p_mv g2)) ?_
        have hq := bindP_inv hr
        clear hr
        obtain ⟨v35, m_3, e35, hr⟩ := hq
        refine wo_step (v := v35) (s_call (mc rfl (mc rfl (mc rfl mn))) (callM_le hM.call e35)) ?_
        refine wo_step (v := v35) (s_pure (p_mv rfl)) ?_
        have hq := bindO_inv hr
        clear hr
        obtain ⟨v36, e36, hr⟩ := hq
        refine wo_step (v := v36) (s_pure (o_ext rfl e36)) ?_
        have hq := bindO_inv hr
        clear hr
        obtain ⟨v37, e37, hr⟩ := hq
        have hq := asI_inv hr
        clear hr
        obtain ⟨x37, rfl, hr⟩ := hq
        refine wo_step (v := (.i .i64 x37)) (s_pure (o_ext rfl e37)) ?_
        have hq := bindO_inv hr
        clear hr
        obtain ⟨v38, e38, hr⟩ := hq
        have hq := asI_inv hr
        clear hr
        obtain ⟨x38, rfl, hr⟩ := hq
        refine wo_step (v := (.i .i64 x38)) (s_pure (o_ext rfl e38)) ?_
        refine wo_step (v := v36) (s_pure (p_mv rfl)) ?_
        refine wo_step (v := (.i .i64 x37)) (s_pure (p_mv rfl)) ?_
        refine wo_step (v := (.i .i64 x38)) (s_pure (p_mv rfl)) ?_
        refine wo_nil ?_
        refine nx_norm ?_
        refine w_seq ?_
        refine w_ops ?_
        refine wo_step (v := v0) (s_pure (p_mv g0)) ?_
        refine wo_step (v := v1) (s_pure (p_mv g1)) ?_
        refine wo_step (v := (.i .i64 x2)) (s_pure (p_mv g2)) ?_
        have hq := bindP_inv hr
        clear hr
        obtain ⟨v43, m_4, e43, hr⟩ := hq
        refine wo_step (v := v43) (s_call (mc rfl (mc rfl (mc rfl mn))) (callM_le hM.call e43)) ?_
        refine wo_step (v := v43) (s_pure (p_mv rfl)) ?_
        have hq := bindO_inv hr
        clear hr
        obtain ⟨v44, e44, hr⟩ := hq
        refine wo_step (v := v44) (s_pure (o_ext rfl e44)) ?_
        have hq := bindO_inv hr
        clear hr
        obtain ⟨v45, e45, hr⟩ := hq
        have hq := asI_inv hr
        clear hr
        obtain ⟨x45, rfl, hr⟩ := hq
        refine wo_step (v := (.i .i64 x45)) (s_pure (o_ext rfl e45)) ?_
        have hq := bindO_inv hr
        clear hr
        obtain ⟨v46, e46, hr⟩ := hq
        have hq := asI_inv hr
        clear hr
        obtain ⟨x46, rfl, hr⟩ := hq
        refine wo_step (v := (.i .i64 x46)) (s_pure (o_ext rfl e46)) ?_
        refine wo_step (v := v44) (s_pure (p_mv rfl)) ?_
        refine wo_step (v := (.i .i64 x45)) (s_pure (p_mv rfl)) ?_
        refine wo_step (v := (.i .i64 x46)) (s_pure (p_mv rfl)) ?_
        refine wo_nil ?_
        refine nx_norm ?_
        refine w_seq ?_
        refine w_ops ?_
        refine wo_step (v := v36) (s_pure (p_mv rfl)) ?_
        refine wo_step (v := v44) (s_pure (p_mv rfl)) ?_
        have hq := bindP_inv hr
        clear hr
        obtain ⟨v49, m_5, e49, hr⟩ := hq
        have hq := asB_inv hr
        clear hr
        obtain ⟨c49, rfl, hr⟩ := hq
        refine wo_step (v := (.b c49)) (s_call (mc rfl (mc rfl mn)) (callM_le hM.call e49)) ?_
        refine wo_step (v := (.b c49)) (s_pure (p_mv rfl)) ?_
        have hq := bindO_inv hr
        clear hr
        obtain ⟨o_3, hr, hk⟩ := hq
        refine wo_join 4 (g5_J3 x38 x46 m_5 o_3) ?_ ?_
        · clear hk
          have hq := cond_inv hr
          clear hr
          rcases hq with ⟨rfl, hr⟩ | ⟨rfl, hr⟩
          · refine wo_take (v := (.i .i64 x37)) rfl (s_pure (p_mv rfl)) ?_
            refine wo_take (v := (.i .i64 x45)) rfl (s_pure (p_mv rfl)) ?_
            have hq := forceB_inv hr
            clear hr
            obtain ⟨c53, e53, hr⟩ := hq
            refine wo_take (v := (.b c53)) rfl (s_pure (p_bin rfl rfl (b_eql.trans (cb e53)))) ?_
            refine wo_step (v := (.b c53)) (s_pure (p_pickT rfl rfl)) ?_
            refine wo_nil ?_
            cases hr
            exact ⟨_, _, rfl, rfl, gl rfl, gl rfl, gl rfl⟩
          · refine wo_skip (v := (.b false)) rfl rfl ?_
            refine wo_skip (v := (.b false)) rfl rfl ?_
            refine wo_skip (v := (.b false)) rfl rfl ?_
            refine wo_step (v := (.b false)) (s_pure (p_pickF rfl rfl)) ?_
            refine wo_nil ?_
            cases hr
            exact ⟨_, _, rfl, rfl, gl rfl, gl rfl, gl rfl⟩
        · clear hr
          have hr := hk
          clear hk
          obtain ⟨c54, ho⟩ : ∃ z, z = o_3 := ⟨_, rfl⟩
          subst ho
          rintro mm_3 t_4 ⟨rfl, g54, g9, g12⟩
          refine wo_step (v := (.b c54)) (s_pure (p_mv g54)) ?_
          have hq := bindO_inv hr
          clear hr
          obtain ⟨o_4, hr, hk⟩ := hq
          refine wo_join 4 (g5_J4 m_5 o_4) ?_ ?_
          · clear hk
            have hq := cond_inv hr
            clear hr
            rcases hq with ⟨rfl, hr⟩ | ⟨rfl, hr⟩
            · refine wo_take (v := (.i .i64 x38)) rfl (s_pure (p_mv g9)) ?_
              refine wo_take (v := (.i .i64 x46)) rfl (s_pure (p_mv g12)) ?_
              have hq := forceB_inv hr
              clear hr
              obtain ⟨c58, e58, hr⟩ := hq
              refine wo_take (v := (.b c58)) rfl (s_pure (p_bin rfl rfl (b_eql.trans (cb e58)))) ?_
              refine wo_step (v := (.b c58)) (s_pure (p_pickT rfl rfl)) ?_
              refine wo_nil ?_
              cases hr
              exact ⟨_, _, rfl, rfl, gl rfl⟩
            · refine wo_skip (v := (.b false)) rfl rfl ?_
              refine wo_skip (v := (.b false)) rfl rfl ?_
              refine wo_skip (v := (.b false)) rfl rfl ?_
              refine wo_step (v := (.b false)) (s_pure (p_pickF rfl rfl)) ?_
              refine wo_nil ?_
              cases hr
              exact ⟨_, _, rfl, rfl, gl rfl⟩
          · clear hr
            have hr := hk
            clear hk
            obtain ⟨c59, ho⟩ : ∃ z, z = o_4 := ⟨_, rfl⟩
            subst ho
            rintro mm_4 t_5 ⟨rfl, g59⟩
            refine wo_step (v := (.b c59)) (s_pure (p_mv g59)) ?_
            have hq := bindO_inv hr
            clear hr
            obtain ⟨o_5, hr, hk⟩ := hq
            refine wo_join 2 (g5_J5  o_5) ?_ ?_
            · clear hk
              have hq := cond_inv hr
              clear hr
              rcases hq with ⟨rfl, hr⟩ | ⟨rfl, hr⟩
              · have hq := bindP_inv hr
                clear hr
                obtain ⟨v61, m_7, e61, hr⟩ := hq
                have hq := asB_inv hr
                clear hr
                obtain ⟨c61, rfl, hr⟩ := hq
                refine wo_take (v := (.b c61)) rfl (s_call mn (callM_le hM.call e61)) ?_
                refine wo_step (v := (.b c61)) (s_pure (p_pickT rfl rfl)) ?_
                refine wo_nil ?_
                cases hr
                exact ⟨_, _, rfl, rfl, gl rfl⟩
              · refine wo_skip (v := (.b false)) rfl rfl ?_
                refine wo_step (v := (.b false)) (s_pure (p_pickF rfl rfl)) ?_
                refine wo_nil ?_
                cases hr
                exact ⟨_, _, rfl, rfl, gl rfl⟩
            · clear hr
              have hr := hk
              clear hk
              obtain ⟨c62, m_6⟩ := o_5
              rintro mm_5 t_6 ⟨rfl, g62⟩
              refine wo_step (v := (.b c62)) (s_pure (p_mv g62)) ?_
              refine wo_nil ?_
              refine nx_norm ?_
              refine w_ret ?_
              exact qf ret_ok (rt rfl rn) hr

/- dibber/dibberlaw05.few -/
abbrev g15_I0 (v0 : AVal) (v1 : AVal) (m0 : Mm) (s : Int) (m1 : Mm) (t1 : Tr) : Prop :=
  match s with
  | x5 => m0 = m1 ∧ t1.get 5 = (.i .i64 x5) ∧ t1.get 0 = v0 ∧ t1.get 1 = v1
abbrev g15_J0 (v0 : AVal) (v1 : AVal) (m0 : Mm) (o : (Unit ⊕ Bool)) (e : AExit) (m1 : Mm) (t1 : Tr) : Prop :=
  match o with
  | (.inl _) => e = (.exit 0) ∧ m0 = m1 ∧ t1.get 1 = v1
  | (.inr y4) => e = .ret ∧ m0 = m1 ∧ t1.get 4 = (.b y4)
abbrev g15_J1 (v0 : AVal) (v1 : AVal) (x5 : Int) (m0 : Mm) (o : Bool) (m1 : Mm) (t1 : Tr) : Prop :=
  match o with
  | c21 => m0 = m1 ∧ t1.get 21 = (.b c21) ∧ t1.get 0 = v0 ∧ t1.get 1 = v1 ∧ t1.get 5 = (.i .i64 x5)
def g15_b0 (M : Means) (ro : List ABlk) (v0 : AVal) (v1 : AVal) (m0 : Mm) (x5 : Int) : Option ((Int) ⊕ ((Unit ⊕ Bool))) :=
  bindO (evP .e (.len false (.c v0))) fun v8 =>
  asI .i64 v8 fun x8 =>
  forceB (ltI x5 x8) fun c9 =>
  cond c9 (
    forceB (!ltI x5 250) fun c13 =>
    bindO (cond c13 (
      some true) (
      bindO (evP .e (.ixS 1 (.c v0) (.c (.i .i64 x5)))) fun v17 =>
      bindO (ldM ro m0 true 1 v17) fun v18 =>
      bindO (evP .e (.len false (.c v18))) fun v19 =>
      asI .i64 v19 fun x19 =>
      forceB (ltI 40 x19) fun c20 =>
      some c20)) fun c21 =>
    cond c21 (
      some (.inr (.inr false))) (
      forceI (wr .i64 (x5 + 1)) fun x11 =>
      some (.inl x11))) (
    some (.inr (.inl ())))
def g15 (M : Means) (ro : List ABlk) (v0 : AVal) (v1 : AVal) (m0 : Mm) : Option (AVal × Heap × Nat × Nat) :=
  bindO (M.loop (S := Int) (R := (Unit ⊕ Bool)) (fun s => g15_b0 M ro v0 v1 m0 s) 0) fun o_1 => match o_1 with
  | (.inl _) =>
    bindO (evP .e (.len false (.c v1))) fun v23 =>
    asI .i64 v23 fun x23 =>
    forceB (!ltI 1100 x23) fun c24 =>
    finM m0.h.length (tupA [(.b c24)]) m0
  | (.inr c4) =>
    finM m0.h.length (tupA [(.b c4)]) m0

theorem g15_ok {ro : List ABlk} {O : Caller} {M : Means} (hM : M.Ok ⟨F, O⟩ ro) {v0 v1 h r} (ho : O 15 [v0, v1] h = none) (hr : g15 M ro v0 v1 ⟨h, h.length, h.length⟩ = some r) : callX ⟨F, O⟩ ro 15 [v0, v1] h = some r := by
  refine callX_of (F := ⟨F, O⟩) (fn := fn15) (g := g15 M ro v0 v1) ho rfl rfl hr ?_
  clear ho
  clear hr
  intro m0 t0 ht hr
  have g0 : t0.get 0 = v0 := ht 0
  have g1 : t0.get 1 = v1 := ht 1
  clear ht
  unfold g15 at hr
  refine w_seq ?_
  refine w_ops ?_
  refine wo_step (v := (.b false)) (s_pure (p_mv rfl)) ?_
  refine wo_nil ?_
  refine nx_norm ?_
  refine w_seq ?_
  refine w_seq ?_
  refine w_ops ?_
  refine wo_step (v := (.i .i64 0)) (s_pure (p_mv rfl)) ?_
  refine wo_nil ?_
  refine nx_norm ?_
  refine w_block ?_
  have hq := bindO_inv hr
  clear hr
  obtain ⟨o_1, hl, hr⟩ := hq
  obtain ⟨n, hl⟩ := hM.loop _ _ _ hl
  refine jp_mono (w_loop _ (g15_I0 v0 v1 m0) (g15_J0 v0 v1 m0) ?_ n _ _ _ _ hl ⟨rfl, gl rfl, gl g0, gl g1⟩) ?_
  · clear hr hl
    intro s mm_3 t_1 o hi hr
    obtain ⟨x5, hs⟩ : ∃ z, z = s := ⟨_, rfl⟩
    subst hs
    obtain ⟨rfl, g5, g0, g1⟩ := hi
    unfold g15_b0 at hr
    refine w_seq ?_
    refine w_seq ?_
    refine w_ops ?_
    refine wo_step (v := (.i .i64 x5)) (s_pure (p_mv g5)) ?_
    refine wo_step (v := v0) (s_pure (p_mv g0)) ?_
    have hq := bindO_inv hr
    clear hr
    obtain ⟨v8, e8, hr⟩ := hq
    have hq := asI_inv hr
    clear hr
    obtain ⟨x8, rfl, hr⟩ := hq
    refine wo_step (v := (.i .i64 x8)) (s_pure (o_len rfl e8)) ?_
    have hq := forceB_inv hr
    clear hr
    obtain ⟨c9, e9, hr⟩ := hq
    refine wo_step (v := (.b c9)) (s_pure (p_bin rfl rfl (b_lss.trans (cb e9)))) ?_
    refine wo_nil ?_
    refine nx_norm ?_
    have hq := cond_inv hr
    clear hr
    rcases hq with ⟨rfl, hr⟩ | ⟨rfl, hr⟩
    · refine w_condT rfl ?_
      refine w_skip ?_
      refine nx_norm ?_
      refine w_seq ?_
      refine w_block ?_
      refine w_seq ?_
      refine w_ops ?_
      refine wo_step (v := (.i .i64 x5)) (s_pure (p_mv g5)) ?_
      have hq := forceB_inv hr
      clear hr
      obtain ⟨c13, e13, hr⟩ := hq
      refine wo_step (v := (.b c13)) (s_pure (p_bin rfl rfl (b_geq.trans (cb e13)))) ?_
      refine wo_step (v := (.b c13)) (s_pure (p_mv rfl)) ?_
      have hq := bindO_inv hr
      clear hr
      obtain ⟨o, hr, hk⟩ := hq
      refine wo_join 7 (g15_J1 v0 v1 x5 m0 o) ?_ ?_
      · clear hk
        have hq := cond_inv hr
        clear hr
        rcases hq with ⟨rfl, hr⟩ | ⟨rfl, hr⟩
        · refine wo_skip (v := (.b true)) rfl rfl ?_
          refine wo_skip (v := (.b true)) rfl rfl ?_
          refine wo_skip (v := (.b true)) rfl rfl ?_
          refine wo_skip (v := (.b true)) rfl rfl ?_
          refine wo_skip (v := (.b true)) rfl rfl ?_
          refine wo_skip (v := (.b true)) rfl rfl ?_
          refine wo_step (v := (.b true)) (s_pure (p_pickT rfl rfl)) ?_
          refine wo_nil ?_
          cases hr
          exact ⟨_, _, rfl, rfl, gl rfl, gl g0, gl g1, gl g5⟩
        · refine wo_take (v := v0) rfl (s_pure (p_mv g0)) ?_
          refine wo_take (v := (.i .i64 x5)) rfl (s_pure (p_mv g5)) ?_
          have hq := bindO_inv hr
          clear hr
          obtain ⟨v17, e17, hr⟩ := hq
          refine wo_take (v := v17) rfl (s_pure (o_ixS rfl rfl e17)) ?_
          have hq := bindO_inv hr
          clear hr
          obtain ⟨v18, e18, hr⟩ := hq
          refine wo_take (v := v18) rfl (s_ld rfl e18) ?_
          have hq := bindO_inv hr
          clear hr
          obtain ⟨v19, e19, hr⟩ := hq
          have hq := asI_inv hr
          clear hr
          obtain ⟨x19, rfl, hr⟩ := hq
          refine wo_take (v := (.i .i64 x19)) rfl (s_pure (o_len rfl e19)) ?_
          have hq := forceB_inv hr
          clear hr
          obtain ⟨c20, e20, hr⟩ := hq
          refine wo_take (v := (.b c20)) rfl (s_pure (p_bin rfl rfl (b_gtr.trans (cb e20)))) ?_
          refine wo_step (v := (.b c20)) (s_pure (p_pickF rfl rfl)) ?_
          refine wo_nil ?_
          cases hr
          exact ⟨_, _, rfl, rfl, gl rfl, gl g0, gl g1, gl g5⟩
      · clear hr
        have hr := hk
        clear hk
        obtain ⟨c21, ho⟩ : ∃ z, z = o := ⟨_, rfl⟩
        subst ho
        rintro mm t_2 ⟨rfl, g21, g0, g1, g5⟩
        refine wo_nil ?_
        refine nx_norm ?_
        have hq := cond_inv hr
        clear hr
        rcases hq with ⟨rfl, hr⟩ | ⟨rfl, hr⟩
        · refine w_condT g21 ?_
          refine w_seq ?_
          refine w_ops ?_
          refine wo_step (v := (.b false)) (s_pure (p_mv rfl)) ?_
          refine wo_nil ?_
          refine nx_norm ?_
          refine w_ret ?_
          refine bk_ret ?_
          refine nx_ret ?_
          cases hr
          exact ⟨_, _, rfl, ne_norm_ret, rfl, rfl, gl rfl⟩
        · refine w_condF g21 ?_
          refine w_skip ?_
          refine bk_norm ?_
          refine nx_norm ?_
          refine w_ops ?_
          refine wo_step (v := (.i .i64 x5)) (s_pure (p_mv g5)) ?_
          have hq := forceI_inv hr
          clear hr
          obtain ⟨x11, e11, hr⟩ := hq
          refine wo_step (v := (.i .i64 x11)) (s_pure (p_bin rfl rfl (b_add.trans (ci e11)))) ?_
          refine wo_step (v := (.i .i64 x11)) (s_pure (p_mv rfl)) ?_
          refine wo_nil ?_
          cases hr
          exact ⟨_, _, rfl, rfl, rfl, gl rfl, gl g0, gl g1⟩
    · refine w_condF rfl ?_
      refine w_exit ?_
      refine nx_exit ?_
      cases hr
      exact ⟨_, _, rfl, ne_norm_exit, rfl, rfl, gl g1⟩
  · rcases o_1 with o_1 | o_1
    · rintro _ mm_1 t_3 ⟨rfl, rfl, g1⟩
      refine bk_hit ?_
      refine nx_norm ?_
      refine w_seq ?_
      refine w_ops ?_
      refine wo_step (v := v1) (s_pure (p_mv g1)) ?_
      have hq := bindO_inv hr
      clear hr
      obtain ⟨v23, e23, hr⟩ := hq
      have hq := asI_inv hr
      clear hr
      obtain ⟨x23, rfl, hr⟩ := hq
      refine wo_step (v := (.i .i64 x23)) (s_pure (o_len rfl e23)) ?_
      have hq := forceB_inv hr
      clear hr
      obtain ⟨c24, e24, hr⟩ := hq
      refine wo_step (v := (.b c24)) (s_pure (p_bin rfl rfl (b_leq.trans (cb e24)))) ?_
      refine wo_step (v := (.b c24)) (s_pure (p_mv rfl)) ?_
      refine wo_nil ?_
      refine nx_norm ?_
      refine w_ret ?_
      exact qf ret_ok (rt rfl rn) hr
    · obtain ⟨c4, ho⟩ : ∃ z, z = o_1 := ⟨_, rfl⟩
      subst ho
      rintro _ mm_2 t_4 ⟨rfl, rfl, g4⟩
      refine bk_ret ?_
      refine nx_ret ?_
      exact qf ret_ok (rt g4 rn) hr

/- dibber/dibberlaw05.alive -/
abbrev g16_J0 (v17 : AVal) (x22 : Int) (x23 : Int) (v6 : AVal) (x28 : Int) (v8 : AVal) (x34 : Int) (o : Bool × Mm) (m1 : Mm) (t1 : Tr) : Prop :=
  match o with
  | (c41, m_17) => m_17 = m1 ∧ t1.get 41 = (.b c41) ∧ t1.get 2 = v17 ∧ t1.get 4 = (.i .i64 x22) ∧ t1.get 5 = (.i .i64 x23) ∧ t1.get 6 = v6 ∧ t1.get 7 = (.i .i64 x28) ∧ t1.get 8 = v8 ∧ t1.get 9 = (.i .i64 x34)
abbrev g16_J1 (x22 : Int) (x23 : Int) (v6 : AVal) (x28 : Int) (v8 : AVal) (x34 : Int) (o : Bool × Mm) (m1 : Mm) (t1 : Tr) : Prop :=
  match o with
  | (c46, m_20) => m_20 = m1 ∧ t1.get 46 = (.b c46) ∧ t1.get 4 = (.i .i64 x22) ∧ t1.get 5 = (.i .i64 x23) ∧ t1.get 6 = v6 ∧ t1.get 7 = (.i .i64 x28) ∧ t1.get 8 = v8 ∧ t1.get 9 = (.i .i64 x34)
abbrev g16_J2 (x22 : Int) (v6 : AVal) (x28 : Int) (v8 : AVal) (x34 : Int) (m_20 : Mm) (o : Bool) (m1 : Mm) (t1 : Tr) : Prop :=
  match o with
  | c50 => m_20 = m1 ∧ t1.get 50 = (.b c50) ∧ t1.get 4 = (.i .i64 x22) ∧ t1.get 6 = v6 ∧ t1.get 7 = (.i .i64 x28) ∧ t1.get 8 = v8 ∧ t1.get 9 = (.i .i64 x34)
abbrev g16_J3 (v6 : AVal) (x28 : Int) (v8 : AVal) (x34 : Int) (m_20 : Mm) (o : Bool) (m1 : Mm) (t1 : Tr) : Prop :=
  match o with
  | c54 => m_20 = m1 ∧ t1.get 54 = (.b c54) ∧ t1.get 6 = v6 ∧ t1.get 7 = (.i .i64 x28) ∧ t1.get 8 = v8 ∧ t1.get 9 = (.i .i64 x34)
abbrev g16_J4 (v6 : AVal) (v8 : AVal) (x34 : Int) (m_20 : Mm) (o : Bool) (m1 : Mm) (t1 : Tr) : Prop :=
  match o with
  | c58 => m_20 = m1 ∧ t1.get 58 = (.b c58) ∧ t1.get 6 = v6 ∧ t1.get 8 = v8 ∧ t1.get 9 = (.i .i64 x34)
abbrev g16_J5 (v8 : AVal) (x34 : Int) (m_20 : Mm) (o : Bool) (m1 : Mm) (t1 : Tr) : Prop :=
  match o with
  | c63 => m_20 = m1 ∧ t1.get 63 = (.b c63) ∧ t1.get 8 = v8 ∧ t1.get 9 = (.i .i64 x34)
abbrev g16_J6 (v8 : AVal) (m_20 : Mm) (o : Bool) (m1 : Mm) (t1 : Tr) : Prop :=
  match o with
  | c67 => m_20 = m1 ∧ t1.get 67 = (.b c67) ∧ t1.get 8 = v8
abbrev g16_J7 (m_20 : Mm) (o : Bool) (m1 : Mm) (t1 : Tr) : Prop :=
  match o with
  | c72 => m_20 = m1 ∧ t1.get 72 = (.b c72)
def g16 (M : Means) (ro : List ABlk)  (m0 : Mm) : Option (AVal × Heap × Nat × Nat) :=
  bindP (stepM ro m0 (.bsl 3 1 [(AVal.i IntKind.i64 0)] 2 [((0, 1), .c (.i .i64 0)), ((1, 1), .c (.i .i64 1))])) fun v11 m_1 =>
  bindP (stepM ro m_1 (.bsl 3 1 [(AVal.i IntKind.i64 0)] 2 [((0, 1), .c (.i .i64 0)), ((1, 1), .c (.i .i64 1))])) fun v12 m_2 =>
  bindP (stepM ro m_2 (.bsl 23 1 [AVal.nsl] 2 [((0, 1), .c v11), ((1, 1), .c v12)])) fun v13 m_3 =>
  bindP (stepM ro m_3 (.bsl 3 1 [(AVal.i IntKind.i64 0)] 2 [((0, 1), .c (.i .i64 1)), ((1, 1), .c (.i .i64 1))])) fun v14 m_4 =>
  bindP (callM M.call m_4 23 [(.i .i64 2), v13, v14]) fun v15 m_5 =>
  bindO (evP .e (.ext 0 (.c v15))) fun v16 =>
  bindO (evP .e (.ext 1 (.c v15))) fun v17 =>
  bindO (evP .e (.ext 2 (.c v15))) fun v18 =>
  asI .i64 v18 fun x18 =>
  bindP (stepM ro m_5 (.bsl 3 1 [(AVal.i IntKind.i64 0)] 2 [((0, 1), .c (.i .i64 29)), ((1, 1), .c (.i .i64 30))])) fun v20 m_6 =>
  bindP (callM M.call m_6 29 [(.i .i64 1), v20]) fun v21 m_7 =>
  bindO (evP .e (.ext 0 (.c v21))) fun v22 =>
  asI .i64 v22 fun x22 =>
  bindO (evP .e (.ext 1 (.c v21))) fun v23 =>
  asI .i64 v23 fun x23 =>
  bindP (stepM ro m_7 (.bsl 3 1 [(AVal.i IntKind.i64 0)] 2 [((0, 1), .c (.i .i64 0)), ((1, 1), .c (.i .i64 60))])) fun v25 m_8 =>
  bindP (callM M.call m_8 31 [(.i .i64 1), v25, AVal.nsl]) fun v26 m_9 =>
  bindO (evP .e (.ext 0 (.c v26))) fun v27 =>
  bindO (evP .e (.ext 1 (.c v26))) fun v28 =>
  asI .i64 v28 fun x28 =>
  bindP (stepM ro m_9 (.al 42 [(AVal.i IntKind.i64 0), (AVal.i IntKind.i64 0)])) fun v6 m_10 =>
  bindP (stepM ro m_10 (.st 2 (.c v6) (.c v27))) fun vn m_11 =>
  bindP (stepM ro m_11 (.bsl 3 1 [(AVal.i IntKind.i64 0)] 2 [((0, 1), .c (.i .i64 0)), ((1, 1), .c (.i .i64 1))])) fun v30 m_12 =>
  bindP (stepM ro m_12 (.bsl 23 1 [AVal.nsl] 1 [((0, 1), .c v30)])) fun v31 m_13 =>
  bindP (callM M.call m_13 35 [(.i .i64 1), (.i .i64 2), v31]) fun v32 m_14 =>
  bindO (evP .e (.ext 0 (.c v32))) fun v33 =>
  bindO (evP .e (.ext 1 (.c v32))) fun v34 =>
  asI .i64 v34 fun x34 =>
  bindP (stepM ro m_14 (.al 42 [(AVal.i IntKind.i64 0), (AVal.i IntKind.i64 0)])) fun v8 m_15 =>
  bindP (stepM ro m_15 (.st 2 (.c v8) (.c v33))) fun vn_1 m_16 =>
  forceB (eqI x18 0) fun c36 =>
  bindO (cond c36 (
    bindP (stepM ro m_16 (.bsl 3 1 [(AVal.i IntKind.i64 0)] 2 [((0, 1), .c (.i .i64 0)), ((1, 1), .c (.i .i64 1))])) fun v39 m_18 =>
    bindP (callM M.call m_18 20 [v16, v39]) fun v40 m_19 =>
    asB v40 fun c40 =>
    some (c40, m_19)) (
    some (false, m_16))) fun ⟨c41, m_17⟩ =>
  bindO (cond c41 (
    bindP (stepM ro m_17 (.bsl 3 1 [(AVal.i IntKind.i64 0)] 2 [((0, 1), .c (.i .i64 2)), ((1, 1), .c (.i .i64 0))])) fun v44 m_21 =>
    bindP (callM M.call m_21 20 [v17, v44]) fun v45 m_22 =>
    asB v45 fun c45 =>
    some (c45, m_22)) (
    some (false, m_17))) fun ⟨c46, m_20⟩ =>
  bindO (cond c46 (
    forceB (eqI x23 0) fun c49 =>
    some c49) (
    some false)) fun c50 =>
  bindO (cond c50 (
    forceB (eqI x22 0) fun c53 =>
    some c53) (
    some false)) fun c54 =>
  bindO (cond c54 (
    forceB (eqI x28 0) fun c57 =>
    some c57) (
    some false)) fun c58 =>
  bindO (cond c58 (
    bindO (ldM ro m_20 false 2 v6) fun v60 =>
    bindO ((fillA [(AVal.i IntKind.i64 0), (AVal.i IntKind.i64 0)] [((0, 1), (.i .i64 0)), ((1, 1), (.i .i64 1))]).map AVal.agg) fun v61 =>
    bindO (evP .e (.seq false [0, 1] (.c v60) (.c v61))) fun v62 =>
    asB v62 fun c62 =>
    some c62) (
    some false)) fun c63 =>
  bindO (cond c63 (
    forceB (eqI x34 0) fun c66 =>
    some c66) (
    some false)) fun c67 =>
  bindO (cond c67 (
    bindO (ldM ro m_20 false 2 v8) fun v69 =>
    bindO ((fillA [(AVal.i IntKind.i64 0), (AVal.i IntKind.i64 0)] [((0, 1), (.i .i64 1)), ((1, 1), (.i .i64 2))]).map AVal.agg) fun v70 =>
    bindO (evP .e (.seq false [0, 1] (.c v69) (.c v70))) fun v71 =>
    asB v71 fun c71 =>
    some c71) (
    some false)) fun c72 =>
  finM m0.h.length (tupA [(.b c72)]) m_20

theorem g16_ok {ro : List ABlk} {O : Caller} {M : Means} (hM : M.Ok ⟨F, O⟩ ro) {h r} (ho : O 16 [] h = none) (hr : g16 M ro  ⟨h, h.length, h.length⟩ = some r) : callX ⟨F, O⟩ ro 16 [] h = some r := by
  refine callX_of (F := ⟨F, O⟩) (fn := fn16) (g := g16 M ro ) ho rfl rfl hr ?_
  clear ho
  clear hr
  intro m0 t0 ht hr

  clear ht
  unfold g16 at hr
  refine w_seq ?_
  refine w_ops ?_
  refine wo_step (v := (.b false)) (s_pure (p_mv rfl)) ?_
  refine wo_nil ?_
  refine nx_norm ?_
  refine w_seq ?_
  refine w_ops ?_
  have hq := bindP_inv hr
  clear hr
  obtain ⟨v11, m_1, e11, hr⟩ := hq
  refine wo_step (v := v11) (s_bsl (qc rfl (qc rfl qn)) e11) ?_
  have hq := bindP_inv hr
  clear hr
  obtain ⟨v12, m_2, e12, hr⟩ := hq
  refine wo_step (v := v12) (s_bsl (qc rfl (qc rfl qn)) e12) ?_
  have hq := bindP_inv hr
  clear hr
  obtain ⟨v13, m_3, e13, hr⟩ := hq
  refine wo_step (v := v13) (s_bsl (qc rfl (qc rfl qn)) e13) ?_
  have hq := bindP_inv hr
  clear hr
  obtain ⟨v14, m_4, e14, hr⟩ := hq
  refine wo_step (v := v14) (s_bsl (qc rfl (qc rfl qn)) e14) ?_
  have hq := bindP_inv hr
  clear hr
  obtain ⟨v15, m_5, e15, hr⟩ := hq
  refine wo_step (v := v15) (s_call (mc rfl (mc rfl (mc rfl mn))) (callM_le hM.call e15)) ?_
  refine wo_step (v := v15) (s_pure (p_mv rfl)) ?_
  have hq := bindO_inv hr
  clear hr
  obtain ⟨v16, e16, hr⟩ := hq
  refine wo_step (v := v16) (s_pure (o_ext rfl e16)) ?_
  have hq := bindO_inv hr
  clear hr
  obtain ⟨v17, e17, hr⟩ := hq
  refine wo_step (v := v17) (s_pure (o_ext rfl e17)) ?_
  have hq := bindO_inv hr
  clear hr
  obtain ⟨v18, e18, hr⟩ := hq
  have hq := asI_inv hr
  clear hr
  obtain ⟨x18, rfl, hr⟩ := hq
  refine wo_step (v := (.i .i64 x18)) (s_pure (o_ext rfl e18)) ?_
  refine wo_step (v := v16) (s_pure (p_mv rfl)) ?_
  refine wo_step (v := v17) (s_pure (p_mv rfl)) ?_
  refine wo_step (v := (.i .i64 x18)) (s_pure (p_mv rfl)) ?_
  refine wo_nil ?_
  refine nx_norm ?_
  refine w_seq ?_
  refine w_ops ?_
  have hq := bindP_inv hr
  clear hr
  obtain ⟨v20, m_6, e20, hr⟩ := hq
  refine wo_step (v := v20) (s_bsl (qc rfl (qc rfl qn)) e20) ?_
  have hq := bindP_inv hr
  clear hr
  obtain ⟨v21, m_7, e21, hr⟩ := hq
  refine wo_step (v := v21) (s_call (mc rfl (mc rfl mn)) (callM_le hM.call e21)) ?_
  refine wo_step (v := v21) (s_pure (p_mv rfl)) ?_
  have hq := bindO_inv hr
  clear hr
  obtain ⟨v22, e22, hr⟩ := hq
  have hq := asI_inv hr
  clear hr
  obtain ⟨x22, rfl, hr⟩ := hq
  refine wo_step (v := (.i .i64 x22)) (s_pure (o_ext rfl e22)) ?_
  have hq := bindO_inv hr
  clear hr
  obtain ⟨v23, e23, hr⟩ := hq
  have hq := asI_inv hr
  clear hr
  obtain ⟨x23, rfl, hr⟩ := hq
  refine wo_step (v := (.i .i64 x23)) (s_pure (o_ext rfl e23)) ?_
  refine wo_step (v := (.i .i64 x22)) (s_pure (p_mv rfl)) ?_
  refine wo_step (v := (.i .i64 x23)) (s_pure (p_mv rfl)) ?_
  refine wo_nil ?_
  refine nx_norm ?_
  refine w_seq ?_
  refine w_ops ?_
  have hq := bindP_inv hr
  clear hr
  obtain ⟨v25, m_8, e25, hr⟩ := hq
  refine wo_step (v := v25) (s_bsl (qc rfl (qc rfl qn)) e25) ?_
  have hq := bindP_inv hr
  clear hr
  obtain ⟨v26, m_9, e26, hr⟩ := hq
  refine wo_step (v := v26) (s_call (mc rfl (mc rfl (mc rfl mn))) (callM_le hM.call e26)) ?_
  refine wo_step (v := v26) (s_pure (p_mv rfl)) ?_
  have hq := bindO_inv hr
  clear hr
  obtain ⟨v27, e27, hr⟩ := hq
  refine wo_step (v := v27) (s_pure (o_ext rfl e27)) ?_
  have hq := bindO_inv hr
  clear hr
  obtain ⟨v28, e28, hr⟩ := hq
  have hq := asI_inv hr
  clear hr
  obtain ⟨x28, rfl, hr⟩ := hq
  refine wo_step (v := (.i .i64 x28)) (s_pure (o_ext rfl e28)) ?_
  have hq := bindP_inv hr
  clear hr
  obtain ⟨v6, m_10, e6, hr⟩ := hq
  refine wo_step (v := v6) (s_al e6) ?_
  have hq := bindP_inv hr
  clear hr
  obtain ⟨vn, m_11, en, hr⟩ := hq
  refine wo_stepN (s_st rfl rfl en) ?_
  refine wo_step (v := (.i .i64 x28)) (s_pure (p_mv rfl)) ?_
  refine wo_nil ?_
  refine nx_norm ?_
  refine w_seq ?_
  refine w_ops ?_
  have hq := bindP_inv hr
  clear hr
  obtain ⟨v30, m_12, e30, hr⟩ := hq
  refine wo_step (v := v30) (s_bsl (qc rfl (qc rfl qn)) e30) ?_
  have hq := bindP_inv hr
  clear hr
  obtain ⟨v31, m_13, e31, hr⟩ := hq
  refine wo_step (v := v31) (s_bsl (qc rfl qn) e31) ?_
  have hq := bindP_inv hr
  clear hr
  obtain ⟨v32, m_14, e32, hr⟩ := hq
  refine wo_step (v := v32) (s_call (mc rfl (mc rfl (mc rfl mn))) (callM_le hM.call e32)) ?_
  refine wo_step (v := v32) (s_pure (p_mv rfl)) ?_
  have hq := bindO_inv hr
  clear hr
  obtain ⟨v33, e33, hr⟩ := hq
  refine wo_step (v := v33) (s_pure (o_ext rfl e33)) ?_
  have hq := bindO_inv hr
  clear hr
  obtain ⟨v34, e34, hr⟩ := hq
  have hq := asI_inv hr
  clear hr
  obtain ⟨x34, rfl, hr⟩ := hq
  refine wo_step (v := (.i .i64 x34)) (s_pure (o_ext rfl e34)) ?_
  have hq := bindP_inv hr
  clear hr
  obtain ⟨v8, m_15, e8, hr⟩ := hq
  refine wo_step (v := v8) (s_al e8) ?_
  have hq := bindP_inv hr
  clear hr
  obtain ⟨vn_1, m_16, en_1, hr⟩ := hq
  refine wo_stepN (s_st rfl rfl en_1) ?_
  refine wo_step (v := (.i .i64 x34)) (s_pure (p_mv rfl)) ?_
  refine wo_nil ?_
  refine nx_norm ?_
  refine w_seq ?_
  refine w_ops ?_
  refine wo_step (v := (.i .i64 x18)) (s_pure (p_mv rfl)) ?_
  have hq := forceB_inv hr
  clear hr
  obtain ⟨c36, e36, hr⟩ := hq
  refine wo_step (v := (.b c36)) (s_pure (p_bin rfl rfl (b_eql.trans (cb e36)))) ?_
  refine wo_step (v := (.b c36)) (s_pure (p_mv rfl)) ?_
  have hq := bindO_inv hr
  clear hr
  obtain ⟨o, hr, hk⟩ := hq
  refine wo_join 4 (g16_J0 v17 x22 x23 v6 x28 v8 x34 o) ?_ ?_
  · clear hk
    have hq := cond_inv hr
    clear hr
    rcases hq with ⟨rfl, hr⟩ | ⟨rfl, hr⟩
    · refine wo_take (v := v16) rfl (s_pure (p_mv rfl)) ?_
      have hq := bindP_inv hr
      clear hr
      obtain ⟨v39, m_18, e39, hr⟩ := hq
      refine wo_take (v := v39) rfl (s_bsl (qc rfl (qc rfl qn)) e39) ?_
      have hq := bindP_inv hr
      clear hr
      obtain ⟨v40, m_19, e40, hr⟩ := hq
      have hq := asB_inv hr
      clear hr
      obtain ⟨c40, rfl, hr⟩ := hq
      refine wo_take (v := (.b c40)) rfl (s_call (mc rfl (mc rfl mn)) (callM_le hM.call e40)) ?_
      refine wo_step (v := (.b c40)) (s_pure (p_pickT rfl rfl)) ?_
      refine wo_nil ?_
      cases hr
      exact ⟨_, _, rfl, rfl, gl rfl, gl rfl, gl rfl, gl rfl, gl rfl, gl rfl, gl rfl, gl rfl⟩
    · refine wo_skip (v := (.b false)) rfl rfl ?_
      refine wo_skip (v := (.b false)) rfl rfl ?_
      refine wo_skip (v := (.b false)) rfl rfl ?_
      refine wo_step (v := (.b false)) (s_pure (p_pickF rfl rfl)) ?_
      refine wo_nil ?_
      cases hr
      exact ⟨_, _, rfl, rfl, gl rfl, gl rfl, gl rfl, gl rfl, gl rfl, gl rfl, gl rfl, gl rfl⟩
  · clear hr
    have hr := hk
    clear hk
    obtain ⟨c41, m_17⟩ := o
    rintro mm t_1 ⟨rfl, g41, g2, g4, g5, g6, g7, g8, g9⟩
    refine wo_step (v := (.b c41)) (s_pure (p_mv g41)) ?_
    have hq := bindO_inv hr
    clear hr
    obtain ⟨o_1, hr, hk⟩ := hq
    refine wo_join 4 (g16_J1 x22 x23 v6 x28 v8 x34 o_1) ?_ ?_
    · clear hk
      have hq := cond_inv hr
      clear hr
      rcases hq with ⟨rfl, hr⟩ | ⟨rfl, hr⟩
      · refine wo_take (v := v17) rfl (s_pure (p_mv g2)) ?_
        have hq := bindP_inv hr
        clear hr
        obtain ⟨v44, m_21, e44, hr⟩ := hq
        refine wo_take (v := v44) rfl (s_bsl (qc rfl (qc rfl qn)) e44) ?_
        have hq := bindP_inv hr
        clear hr
        obtain ⟨v45, m_22, e45, hr⟩ := hq
        have hq := asB_inv hr
        clear hr
        obtain ⟨c45, rfl, hr⟩ := hq
        refine wo_take (v := (.b c45)) rfl (s_call (mc rfl (mc rfl mn)) (callM_le hM.call e45)) ?_
        refine wo_step (v := (.b c45)) (s_pure (p_pickT rfl rfl)) ?_
        refine wo_nil ?_
        cases hr
        exact ⟨_, _, rfl, rfl, gl rfl, gl g4, gl g5, gl g6, gl g7, gl g8, gl g9⟩
      · refine wo_skip (v := (.b false)) rfl rfl ?_
        refine wo_skip (v := (.b false)) rfl rfl ?_
        refine wo_skip (v := (.b false)) rfl rfl ?_
        refine wo_step (v := (.b false)) (s_pure (p_pickF rfl rfl)) ?_
        refine wo_nil ?_
        cases hr
        exact ⟨_, _, rfl, rfl, gl rfl, gl g4, gl g5, gl g6, gl g7, gl g8, gl g9⟩
    · clear hr
      have hr := hk
      clear hk
      obtain ⟨c46, m_20⟩ := o_1
      rintro mm_1 t_2 ⟨rfl, g46, g4, g5, g6, g7, g8, g9⟩
      refine wo_step (v := (.b c46)) (s_pure (p_mv g46)) ?_
      have hq := bindO_inv hr
      clear hr
      obtain ⟨o_2, hr, hk⟩ := hq
      refine wo_join 3 (g16_J2 x22 v6 x28 v8 x34 m_20 o_2) ?_ ?_
      · clear hk
        have hq := cond_inv hr
        clear hr
        rcases hq with ⟨rfl, hr⟩ | ⟨rfl, hr⟩
        · refine wo_take (v := (.i .i64 x23)) rfl (s_pure (p_mv g5)) ?_
          have hq := forceB_inv hr
          clear hr
          obtain ⟨c49, e49, hr⟩ := hq
          refine wo_take (v := (.b c49)) rfl (s_pure (p_bin rfl rfl (b_eql.trans (cb e49)))) ?_
          refine wo_step (v := (.b c49)) (s_pure (p_pickT rfl rfl)) ?_
          refine wo_nil ?_
          cases hr
          exact ⟨_, _, rfl, rfl, gl rfl, gl g4, gl g6, gl g7, gl g8, gl g9⟩
        · refine wo_skip (v := (.b false)) rfl rfl ?_
          refine wo_skip (v := (.b false)) rfl rfl ?_
          refine wo_step (v := (.b false)) (s_pure (p_pickF rfl rfl)) ?_
          refine wo_nil ?_
          cases hr
          exact ⟨_, _, rfl, rfl, gl rfl, gl g4, gl g6, gl g7, gl g8, gl g9⟩
      · clear hr
        have hr := hk
        clear hk
        obtain ⟨c50, ho⟩ : ∃ z, z = o_2 := ⟨_, rfl⟩
        subst ho
        rintro mm_2 t_3 ⟨rfl, g50, g4, g6, g7, g8, g9⟩
        refine wo_step (v := (.b c50)) (s_pure (p_mv g50)) ?_
        have hq := bindO_inv hr
        clear hr
        obtain ⟨o_3, hr, hk⟩ := hq
        refine wo_join 3 (g16_J3 v6 x28 v8 x34 m_20 o_3) ?_ ?_
        · clear hk
          have hq := cond_inv hr
          clear hr
          rcases hq with ⟨rfl, hr⟩ | ⟨rfl, hr⟩
          · refine wo_take (v := (.i .i64 x22)) rfl (s_pure (p_mv g4)) ?_
            have hq := forceB_inv hr
            clear hr
            obtain ⟨c53, e53, hr⟩ := hq
            refine wo_take (v := (.b c53)) rfl (s_pure (p_bin rfl rfl (b_eql.trans (cb e53)))) ?_
            refine wo_step (v := (.b c53)) (s_pure (p_pickT rfl rfl)) ?_
            refine wo_nil ?_
            cases hr
            exact ⟨_, _, rfl, rfl, gl rfl, gl g6, gl g7, gl g8, gl g9⟩
          · refine wo_skip (v := (.b false)) rfl rfl ?_
            refine wo_skip (v := (.b false)) rfl rfl ?_
            refine wo_step (v := (.b false)) (s_pure (p_pickF rfl rfl)) ?_
            refine wo_nil ?_
            cases hr
            exact ⟨_, _, rfl, rfl, gl rfl, gl g6, gl g7, gl g8, gl g9⟩
        · clear hr
          have hr := hk
          clear hk
          obtain ⟨c54, ho⟩ : ∃ z, z = o_3 := ⟨_, rfl⟩
          subst ho
          rintro mm_3 t_4 ⟨rfl, g54, g6, g7, g8, g9⟩
          refine wo_step (v := (.b c54)) (s_pure (p_mv g54)) ?_
          have hq := bindO_inv hr
          clear hr
          obtain ⟨o_4, hr, hk⟩ := hq
          refine wo_join 3 (g16_J4 v6 v8 x34 m_20 o_4) ?_ ?_
          · clear hk
            have hq := cond_inv hr
            clear hr
            rcases hq with ⟨rfl, hr⟩ | ⟨rfl, hr⟩
            · refine wo_take (v := (.i .i64 x28)) rfl (s_pure (p_mv g7)) ?_
              have hq := forceB_inv hr
              clear hr
              obtain ⟨c57, e57, hr⟩ := hq
              refine wo_take (v := (.b c57)) rfl (s_pure (p_bin rfl rfl (b_eql.trans (cb e57)))) ?_
              refine wo_step (v := (.b c57)) (s_pure (p_pickT rfl rfl)) ?_
              refine wo_nil ?_
              cases hr
              exact ⟨_, _, rfl, rfl, gl rfl, gl g6, gl g8, gl g9⟩
            · refine wo_skip (v := (.b false)) rfl rfl ?_
              refine wo_skip (v := (.b false)) rfl rfl ?_
              refine wo_step (v := (.b false)) (s_pure (p_pickF rfl rfl)) ?_
              refine wo_nil ?_
              cases hr
              exact ⟨_, _, rfl, rfl, gl rfl, gl g6, gl g8, gl g9⟩
          · clear hr
            have hr := hk
            clear hk
            obtain ⟨c58, ho⟩ : ∃ z, z = o_4 := ⟨_, rfl⟩
            subst ho
            rintro mm_4 t_5 ⟨rfl, g58, g6, g8, g9⟩
            refine wo_step (v := (.b c58)) (s_pure (p_mv g58)) ?_
            have hq := bindO_inv hr
            clear hr
            obtain ⟨o_5, hr, hk⟩ := hq
            refine wo_join 4 (g16_J5 v8 x34 m_20 o_5) ?_ ?_
            · clear hk
              have hq := cond_inv hr
              clear hr
              rcases hq with ⟨rfl, hr⟩ | ⟨rfl, hr⟩
              · have hq := bindO_inv hr
                clear hr
                obtain ⟨v60, e60, hr⟩ := hq
                refine wo_take (v := v60) rfl (s_ld g6 e60) ?_
                have hq := bindO_inv hr
                clear hr
                obtain ⟨v61, e61, hr⟩ := hq
                refine wo_take (v := v61) rfl (s_pure (o_build (qc rfl (qc rfl qn)) e61)) ?_
                have hq := bindO_inv hr
                clear hr
                obtain ⟨v62, e62, hr⟩ := hq
                have hq := asB_inv hr
                clear hr
                obtain ⟨c62, rfl, hr⟩ := hq
                refine wo_take (v := (.b c62)) rfl (s_pure (o_seq rfl rfl e62)) ?_
                refine wo_step (v := (.b c62)) (s_pure (p_pickT rfl rfl)) ?_
                refine wo_nil ?_
                cases hr
                exact ⟨_, _, rfl, rfl, gl rfl, gl g8, gl g9⟩
              · refine wo_skip (v := (.b false)) rfl rfl ?_
                refine wo_skip (v := (.b false)) rfl rfl ?_
                refine wo_skip (v := (.b false)) rfl rfl ?_
                refine wo_step (v := (.b false)) (s_pure (p_pickF rfl rfl)) ?_
                refine wo_nil ?_
                cases hr
                exact ⟨_, _, rfl, rfl, gl rfl, gl g8, gl g9⟩
            · clear hr
              have hr := hk
              clear hk
              obtain ⟨c63, ho⟩ : ∃ z, z = o_5 := ⟨_, rfl⟩
              subst ho
              rintro mm_5 t_6 ⟨rfl, g63, g8, g9⟩
              refine wo_step (v := (.b c63)) (s_pure (p_mv g63)) ?_
              have hq := bindO_inv hr
              clear hr
              obtain ⟨o_6, hr, hk⟩ := hq
              refine wo_join 3 (g16_J6 v8 m_20 o_6) ?_ ?_
              · clear hk
                have hq := cond_inv hr
                clear hr
                rcases hq with ⟨rfl, hr⟩ | ⟨rfl, hr⟩
                · refine wo_take (v := (.i .i64 x34)) rfl (s_pure (p_mv g9)) ?_
                  have hq := forceB_inv hr
                  clear hr
                  obtain ⟨c66, e66, hr⟩ := hq
                  refine wo_take (v := (.b c66)) rfl (s_pure (p_bin rfl rfl (b_eql.trans (cb e66)))) ?_
                  refine wo_step (v := (.b c66)) (s_pure (p_pickT rfl rfl)) ?_
                  refine wo_nil ?_
                  cases hr
                  exact ⟨_, _, rfl, rfl, gl rfl, gl g8⟩
                · refine wo_skip (v := (.b false)) rfl rfl ?_
                  refine wo_skip (v := (.b false)) rfl rfl ?_
                  refine wo_step (v := (.b false)) (s_pure (p_pickF rfl rfl)) ?_
                  refine wo_nil ?_
                  cases hr
                  exact ⟨_, _, rfl, rfl, gl rfl, gl g8⟩
              · clear hr
                have hr := hk
                clear hk
                obtain ⟨c67, ho⟩ : ∃ z, z = o_6 := ⟨_, rfl⟩
                subst ho
                rintro mm_6 t_7 ⟨rfl, g67, g8⟩
                refine wo_step (v := (.b c67)) (s_pure (p_mv g67)) ?_
                have hq := bindO_inv hr
                clear hr
                obtain ⟨o_7, hr, hk⟩ := hq
                refine wo_join 4 (g16_J7 m_20 o_7) ?_ ?_
                · clear hk
                  have hq := cond_inv hr
                  clear hr
                  rcases hq with ⟨rfl, hr⟩ | ⟨rfl, hr⟩
                  · have hq := bindO_inv hr
                    clear hr
                    obtain ⟨v69, e69, hr⟩ := hq
                    refine wo_take (v := v69) rfl (s_ld g8 e69) ?_
                    have hq := bindO_inv hr
                    clear hr
                    obtain ⟨v70, e70, hr⟩ := hq
                    refine wo_take (v := v70) rfl (s_pure (o_build (qc rfl (qc rfl qn)) e70)) ?_
                    have hq := bindO_inv hr
                    clear hr
                    obtain ⟨v71, e71, hr⟩ := hq
                    have hq := asB_inv hr
                    clear hr
                    obtain ⟨c71, rfl, hr⟩ := hq
                    refine wo_take (v := (.b c71)) rfl (s_pure (o_seq rfl rfl e71)) ?_
                    refine wo_step (v := (.b c71)) (s_pure (p_pickT rfl rfl)) ?_
                    refine wo_nil ?_
                    cases hr
                    exact ⟨_, _, rfl, rfl, gl rfl⟩
                  · refine wo_skip (v := (.b false)) rfl rfl ?_
                    refine wo_skip (v := (.b false)) rfl rfl ?_
                    refine wo_skip (v := (.b false)) rfl rfl ?_
                    refine wo_step (v := (.b false)) (s_pure (p_pickF rfl rfl)) ?_
                    refine wo_nil ?_
                    cases hr
                    exact ⟨_, _, rfl, rfl, gl rfl⟩
                · clear hr
                  have hr := hk
                  clear hk
                  obtain ⟨c72, ho⟩ : ∃ z, z = o_7 := ⟨_, rfl⟩
                  subst ho
                  rintro mm_7 t_8 ⟨rfl, g72⟩
                  refine wo_step (v := (.b c72)) (s_pure (p_mv g72)) ?_
                  refine wo_nil ?_
                  refine nx_norm ?_
                  refine w_ret ?_
                  exact qf ret_ok (rt rfl rn) hr

/- dibber/dibberlaw05.same -/
abbrev g20_I0 (v0 : AVal) (v1 : AVal) (m0 : Mm) (s : Int) (m1 : Mm) (t1 : Tr) : Prop :=
  match s with
  | x5 => m0 = m1 ∧ t1.get 5 = (.i .i64 x5) ∧ t1.get 0 = v0 ∧ t1.get 1 = v1
abbrev g20_J0 (v0 : AVal) (v1 : AVal) (m0 : Mm) (o : (Unit ⊕ Bool)) (e : AExit) (m1 : Mm) (t1 : Tr) : Prop :=
  match o with
  | (.inl _) => e = (.exit 0) ∧ m0 = m1
  | (.inr y4) => e = .ret ∧ m0 = m1 ∧ t1.get 4 = (.b y4)
def g20_b0 (M : Means) (ro : List ABlk) (v0 : AVal) (v1 : AVal) (m0 : Mm) (x5 : Int) : Option ((Int) ⊕ ((Unit ⊕ Bool))) :=
  bindO (evP .e (.len false (.c v0))) fun v13 =>
  asI .i64 v13 fun x13 =>
  forceB (ltI x5 x13) fun c14 =>
  cond c14 (
    bindO (evP .e (.ixS 1 (.c v0) (.c (.i .i64 x5)))) fun v19 =>
    bindO (ldA ro m0.h true 1 v19) fun v20 =>
    asI .i64 v20 fun x20 =>
    bindO (evP .e (.ixS 1 (.c v1) (.c (.i .i64 x5)))) fun v23 =>
    bindO (ldA ro m0.h true 1 v23) fun v24 =>
    asI .i64 v24 fun x24 =>
    forceB (!eqI x20 x24) fun c25 =>
    cond c25 (
      some (.inr (.inr false))) (
      forceI (wr .i64 (x5 + 1)) fun x16 =>
      some (.inl x16))) (
    some (.inr (.inl ())))
def g20 (M : Means) (ro : List ABlk) (v0 : AVal) (v1 : AVal) (m0 : Mm) : Option (AVal × Heap × Nat × Nat) :=
  bindO (evP .e (.len false (.c v0))) fun v7 =>
  asI .i64 v7 fun x7 =>
  bindO (evP .e (.len false (.c v1))) fun v9 =>
  asI .i64 v9 fun x9 =>
  forceB (!eqI x7 x9) fun c10 =>
  cond c10 (
    finM m0.h.length (tupA [(.b false)]) m0) (
    bindO (M.loop (S := Int) (R := (Unit ⊕ Bool)) (fun s => g20_b0 M ro v0 v1 m0 s) 0) fun o => match o with
    | (.inl _) =>
      finM m0.h.length (tupA [(.b true)]) m0
    | (.inr c4) =>
      finM m0.h.length (tupA [(.b c4)]) m0)

theorem g20_ok {ro : List ABlk} {O : Caller} {M : Means} (hM : M.Ok ⟨F, O⟩ ro) {v0 v1 h r} (ho : O 20 [v0, v1] h = none) (hr : g20 M ro v0 v1 ⟨h, h.length, h.length⟩ = some r) : callX ⟨F, O⟩ ro 20 [v0, v1] h = some r := by
  refine callX_of (F := ⟨F, O⟩) (fn := fn20) (g := g20 M ro v0 v1) ho rfl rfl hr ?_
  clear ho
  clear hr
  intro m0 t0 ht hr
  have g0 : t0.get 0 = v0 := ht 0
  have g1 : t0.get 1 = v1 := ht 1
  clear ht
  unfold g20 at hr
  refine w_seq ?_
  refine w_ops ?_
  refine wo_step (v := (.b false)) (s_pure (p_mv rfl)) ?_
  refine wo_nil ?_
  refine nx_norm ?_
  refine w_seq ?_
  refine w_seq ?_
  refine w_ops ?_
  refine wo_step (v := v0) (s_pure (p_mv g0)) ?_
  have hq := bindO_inv hr
  clear hr
  obtain ⟨v7, e7, hr⟩ := hq
  have hq := asI_inv hr
  clear hr
  obtain ⟨x7, rfl, hr⟩ := hq
  refine wo_step (v := (.i .i64 x7)) (s_pure (o_len rfl e7)) ?_
  refine wo_step (v := v1) (s_pure (p_mv g1)) ?_
  have hq := bindO_inv hr
  clear hr
  obtain ⟨v9, e9, hr⟩ := hq
  have hq := asI_inv hr
  clear hr
  obtain ⟨x9, rfl, hr⟩ := hq
  refine wo_step (v := (.i .i64 x9)) (s_pure (o_len rfl e9)) ?_
  have hq := forceB_inv hr
  clear hr
  obtain ⟨c10, e10, hr⟩ := hq
  refine wo_step (v := (.b c10)) (s_pure (p_bin rfl rfl (b_neq.trans (cb e10)))) ?_
  refine wo_nil ?_
  refine nx_norm ?_
  have hq := cond_inv hr
  clear hr
  rcases hq with ⟨rfl, hr⟩ | ⟨rfl, hr⟩
  · refine w_condT rfl ?_
    refine w_seq ?_
    refine w_ops ?_
    refine wo_step (v := (.b false)) (s_pure (p_mv rfl)) ?_
    refine wo_nil ?_
    refine nx_norm ?_
    refine w_ret ?_
    refine nx_ret ?_
    exact qf ret_ok (rt rfl rn) hr
  · refine w_condF rfl ?_
    refine w_skip ?_
    refine nx_norm ?_
    refine w_seq ?_
    refine w_seq ?_
    refine w_ops ?_
    refine wo_step (v := (.i .i64 0)) (s_pure (p_mv rfl)) ?_
    refine wo_nil ?_
    refine nx_norm ?_
    refine w_block ?_
    have hq := bindO_inv hr
    clear hr
    obtain ⟨o, hl, hr⟩ := hq
    obtain ⟨n, hl⟩ := hM.loop _ _ _ hl
    refine jp_mono (w_loop _ (g20_I0 v0 v1 m0) (g20_J0 v0 v1 m0) ?_ n _ _ _ _ hl ⟨rfl, gl rfl, gl g0, gl g1⟩) ?_
    · clear hr hl
      intro s mm_2 t_1 o hi hr
      obtain ⟨x5, hs⟩ : ∃ z, z = s := ⟨_, rfl⟩
      subst hs
      obtain ⟨rfl, g5, g0, g1⟩ := hi
      unfold g20_b0 at hr
      refine w_seq ?_
      refine w_seq ?_
      refine w_ops ?_
      refine wo_step (v := (.i .i64 x5)) (s_pure (p_mv g5)) ?_
      refine wo_step (v := v0) (s_pure (p_mv g0)) ?_
      have hq := bindO_inv hr
      clear hr
      obtain ⟨v13, e13, hr⟩ := hq
      have hq := asI_inv hr
      clear hr
      obtain ⟨x13, rfl, hr⟩ := hq
      refine wo_step (v := (.i .i64 x13)) (s_pure (o_len rfl e13)) ?_
      have hq := forceB_inv hr
      clear hr
      obtain ⟨c14, e14, hr⟩ := hq
      refine wo_step (v := (.b c14)) (s_pure (p_bin rfl rfl (b_lss.trans (cb e14)))) ?_
      refine wo_nil ?_
      refine nx_norm ?_
      have hq := cond_inv hr
      clear hr
      rcases hq with ⟨rfl, hr⟩ | ⟨rfl, hr⟩
      · refine w_condT rfl ?_
        refine w_skip ?_
        refine nx_norm ?_
        refine w_seq ?_
        refine w_block ?_
        refine w_seq ?_
        refine w_any ?_
        refine wa_step (v := v0) (a_pure (p_mv g0)) ?_
        refine wa_step (v := (.i .i64 x5)) (a_pure (p_mv g5)) ?_
        have hq := bindO_inv hr
        clear hr
        obtain ⟨v19, e19, hr⟩ := hq
        refine wa_step (v := v19) (a_pure (o_ixS rfl rfl e19)) ?_
        have hq := bindO_inv hr
        clear hr
        obtain ⟨v20, e20, hr⟩ := hq
        have hq := asI_inv hr
        clear hr
        obtain ⟨x20, rfl, hr⟩ := hq
        refine wa_step (v := (.i .i64 x20)) (a_ld rfl e20) ?_
        refine wa_step (v := v1) (a_pure (p_mv g1)) ?_
        refine wa_step (v := (.i .i64 x5)) (a_pure (p_mv g5)) ?_
        have hq := bindO_inv hr
        clear hr
        obtain ⟨v23, e23, hr⟩ := hq
        refine wa_step (v := v23) (a_pure (o_ixS rfl rfl e23)) ?_
        have hq := bindO_inv hr
        clear hr
        obtain ⟨v24, e24, hr⟩ := hq
        have hq := asI_inv hr
        clear hr
        obtain ⟨x24, rfl, hr⟩ := hq
        refine wa_step (v := (.i .i64 x24)) (a_ld rfl e24) ?_
        have hq := forceB_inv hr
        clear hr
        obtain ⟨c25, e25, hr⟩ := hq
        refine wa_step (v := (.b c25)) (a_pure (p_bin rfl rfl (b_neq.trans (cb e25)))) ?_
        refine wa_nil ?_
        refine ⟨m0, rfl, ?_⟩
        refine nx_norm ?_
        have hq := cond_inv hr
        clear hr
        rcases hq with ⟨rfl, hr⟩ | ⟨rfl, hr⟩
        · refine w_condT rfl ?_
          refine w_seq ?_
          refine w_ops ?_
          refine wo_step (v := (.b false)) (s_pure (p_mv rfl)) ?_
          refine wo_nil ?_
          refine nx_norm ?_
          refine w_ret ?_
          refine bk_ret ?_
          refine nx_ret ?_
          cases hr
          exact ⟨_, _, rfl, ne_norm_ret, rfl, rfl, gl rfl⟩
        · refine w_condF rfl ?_
          refine w_skip ?_
          refine bk_norm ?_
          refine nx_norm ?_
          refine w_ops ?_
          refine wo_step (v := (.i .i64 x5)) (s_pure (p_mv g5)) ?_
          have hq := forceI_inv hr
          clear hr
          obtain ⟨x16, e16, hr⟩ := hq
          refine wo_step (v := (.i .i64 x16)) (s_pure (p_bin rfl rfl (b_add.trans (ci e16)))) ?_
          refine wo_step (v := (.i .i64 x16)) (s_pure (p_mv rfl)) ?_
          refine wo_nil ?_
          cases hr
          exact ⟨_, _, rfl, rfl, rfl, gl rfl, gl g0, gl g1⟩
      · refine w_condF rfl ?_
        refine w_exit ?_
        refine nx_exit ?_
        cases hr
        exact ⟨_, _, rfl, ne_norm_exit, rfl, rfl⟩
    · rcases o with o | o
      · rintro _ mm t_2 ⟨rfl, rfl⟩
        refine bk_hit ?_
        refine nx_norm ?_
        refine w_seq ?_
        refine w_ops ?_
        refine wo_step (v := (.b true)) (s_pure (p_mv rfl)) ?_
        refine wo_nil ?_
        refine nx_norm ?_
        refine w_ret ?_
        exact qf ret_ok (rt rfl rn) hr
      · obtain ⟨c4, ho⟩ : ∃ z, z = o := ⟨_, rfl⟩
        subst ho
        rintro _ mm_1 t_3 ⟨rfl, rfl, g4⟩
        refine bk_ret ?_
        refine nx_ret ?_
        exact qf ret_ok (rt g4 rn) hr

/- dibber/luck.Weighing -/

def g23 (M : Means) (ro : List ABlk) (x0 : Int) (v1 : AVal) (v2 : AVal) (m0 : Mm) : Option (AVal × Heap × Nat × Nat) :=
  bindP (callM M.call m0 49 [(.i .i64 x0), v1, v2]) fun v15 m_1 =>
  asI .i64 v15 fun x15 =>
  forceB (!eqI x15 0) fun c17 =>
  cond c17 (
    finM m0.h.length (tupA [AVal.nsl, AVal.nsl, (.i .i64 x15)]) m_1) (
    bindP (stepM ro m_1 (.mk 3 1 8 [(AVal.i IntKind.i64 0)] (.c (.i .i64 x0)) (.c (.i .i64 x0)))) fun v20 m_2 =>
    bindO ((fillA [AVal.nsl] [((0, 1), v20)]).map AVal.agg) fun v22 =>
    bindO ((fillA [AVal.nsl] [((0, 1), v22)]).map AVal.agg) fun v23 =>
    bindO (some (AVal.ifc 76 v23)) fun v24 =>
    bindP (callM M.call m_2 50 [v24, v1, v2]) fun v27 m_3 =>
    finM m0.h.length (tupA [v27, v20, (.i .i64 0)]) m_3)

theorem g23_ok {ro : List ABlk} {O : Caller} {M : Means} (hM : M.Ok ⟨F, O⟩ ro) {x0 v1 v2 h r} (ho : O 23 [(.i .i64 x0), v1, v2] h = none) (hr : g23 M ro x0 v1 v2 ⟨h, h.length, h.length⟩ = some r) : callX ⟨F, O⟩ ro 23 [(.i .i64 x0), v1, v2] h = some r := by
  refine callX_of (F := ⟨F, O⟩) (fn := fn23) (g := g23 M ro x0 v1 v2) ho rfl rfl hr ?_
  clear ho
  clear hr
  intro m0 t0 ht hr
  have g0 : t0.get 0 = (.i .i64 x0) := ht 0
  have g1 : t0.get 1 = v1 := ht 1
  have g2 : t0.get 2 = v2 := ht 2
  clear ht
  unfold g23 at hr
  refine w_seq ?_
  refine w_ops ?_
  refine wo_step (v := AVal.nsl) (s_pure (p_mv rfl)) ?_
  refine wo_step (v := AVal.nsl) (s_pure (p_mv rfl)) ?_
  refine wo_step (v := (.i .i64 0)) (s_pure (p_mv rfl)) ?_
  refine wo_nil ?_
  refine nx_norm ?_
  refine w_seq ?_
  refine w_seq ?_
  refine w_ops ?_
  refine wo_step (v := (.i .i64 x0)) (s_pure (p_mv g0)) ?_
  refine wo_step (v := v1) (s_pure (p_mv g1)) ?_
  refine wo_step (v := v2) (s_pure (p_mv g2)) ?_
  have hq := bindP_inv hr
  clear hr
  obtain ⟨v15, m_1, e15, hr⟩ := hq
  have hq := asI_inv hr
  clear hr
  obtain ⟨x15, rfl, hr⟩ := hq
  refine wo_step (v := (.i .i64 x15)) (s_call (mc rfl (mc rfl (mc rfl mn))) (callM_le hM.call e15)) ?_
  refine wo_step (v := (.i .i64 x15)) (s_pure (p_mv rfl)) ?_
  refine wo_nil ?_
  refine nx_norm ?_
  refine w_seq ?_
  refine w_ops ?_
  refine wo_step (v := (.i .i64 x15)) (s_pure (p_mv rfl)) ?_
  have hq := forceB_inv hr
  clear hr
  obtain ⟨c17, e17, hr⟩ := hq
  refine wo_step (v := (.b c17)) (s_pure (p_bin rfl rfl (b_neq.trans (cb e17)))) ?_
  refine wo_nil ?_
  refine nx_norm ?_
  have hq := cond_inv hr
  clear hr
  rcases hq with ⟨rfl, hr⟩ | ⟨rfl, hr⟩
  · refine w_condT rfl ?_
    refine w_seq ?_
    refine w_ops ?_
    refine wo_step (v := (.i .i64 x15)) (s_pure (p_mv rfl)) ?_
    refine wo_step (v := AVal.nsl) (s_pure (p_mv rfl)) ?_
    refine wo_step (v := AVal.nsl) (s_pure (p_mv rfl)) ?_
    refine wo_step (v := (.i .i64 x15)) (s_pure (p_mv rfl)) ?_
    refine wo_nil ?_
    refine nx_norm ?_
    refine w_ret ?_
    refine nx_ret ?_
    exact qf ret_ok (rt rfl (rt rfl (rt rfl rn))) hr
  · refine w_condF rfl ?_
    refine w_skip ?_
    refine nx_norm ?_
    refine w_seq ?_
    refine w_ops ?_
    refine wo_step (v := (.i .i64 x0)) (s_pure (p_mv g0)) ?_
    have hq := bindP_inv hr
    clear hr
    obtain ⟨v20, m_2, e20, hr⟩ := hq
    refine wo_step (v := v20) (s_mk rfl rfl e20) ?_
    refine wo_step (v := v20) (s_pure (p_mv rfl)) ?_
    refine wo_nil ?_
    refine nx_norm ?_
    refine w_seq ?_
    refine w_ops ?_
    refine wo_step (v := v20) (s_pure (p_mv rfl)) ?_
    have hq := bindO_inv hr
    clear hr
    obtain ⟨v22, e22, hr⟩ := hq
    refine wo_step (v := v22) (s_pure (o_build (qc rfl qn) e22)) ?_
    have hq := bindO_inv hr
    clear hr
    obtain ⟨v23, e23, hr⟩ := hq
    refine wo_step (v := v23) (s_pure (o_build (qc rfl qn) e23)) ?_
    have hq := bindO_inv hr
    clear hr
    obtain ⟨v24, e24, hr⟩ := hq
    refine wo_step (v := v24) (s_pure (o_mki rfl e24)) ?_
    refine wo_step (v := v1) (s_pure (p_mv g1)) ?_
    refine wo_step (v := v2) (s_pure (p_mv g2)) ?_
    have hq := bindP_inv hr
    clear hr
    obtain ⟨v27, m_3, e27, hr⟩ := hq
    refine wo_step (v := v27) (s_call (mc rfl (mc rfl (mc rfl mn))) (callM_le hM.call e27)) ?_
    refine wo_step (v := v27) (s_pure (p_mv rfl)) ?_
    refine wo_nil ?_
    refine nx_norm ?_
    refine w_seq ?_
    refine w_ops ?_
    refine wo_step (v := v27) (s_pure (p_mv rfl)) ?_
    refine wo_step (v := v20) (s_pure (p_mv rfl)) ?_
    refine wo_step (v := v27) (s_pure (p_mv rfl)) ?_
    refine wo_step (v := v20) (s_pure (p_mv rfl)) ?_
    refine wo_step (v := (.i .i64 0)) (s_pure (p_mv rfl)) ?_
    refine wo_nil ?_
    refine nx_norm ?_
    refine w_ret ?_
    exact qf ret_ok (rt rfl (rt rfl (rt rfl rn))) hr

/- dibber/luck.Perceptron -/
abbrev g27_J0 (v0 : AVal) (v1 : AVal) (x2 : Int) (m_1 : Mm) (o : Bool) (m1 : Mm) (t1 : Tr) : Prop :=
  match o with
  | c24 => m_1 = m1 ∧ t1.get 24 = (.b c24) ∧ t1.get 0 = v0 ∧ t1.get 1 = v1 ∧ t1.get 2 = (.i .i64 x2)
abbrev g27_I1 (v0 : AVal) (v1 : AVal) (v29 : AVal) (x2 : Int) (s : Int × Int × Mm) (m1 : Mm) (t1 : Tr) : Prop :=
  match s with
  | (x11, x31, m_3) => m_3 = m1 ∧ t1.get 11 = (.i .i64 x11) ∧ t1.get 31 = (.i .i64 x31) ∧ t1.get 0 = v0 ∧ t1.get 1 = v1 ∧ t1.get 10 = v29 ∧ t1.get 30 = (.i .i64 x2)
abbrev g27_J1 (v0 : AVal) (v1 : AVal) (v29 : AVal) (x2 : Int) (o : (Mm ⊕ (AVal × Int × Int × Mm))) (e : AExit) (m1 : Mm) (t1 : Tr) : Prop :=
  match o with
  | (.inl mo) => e = (.exit 0) ∧ mo = m1
  | (.inr (y6, y7, y8, mo)) => e = .ret ∧ mo = m1 ∧ t1.get 6 = y6 ∧ t1.get 7 = (.i .i64 y7) ∧ t1.get 8 = (.i .i64 y8)
def g27_b1 (M : Means) (ro : List ABlk) (v0 : AVal) (v1 : AVal) (v29 : AVal) (x2 : Int) (x11 : Int) (x31 : Int) (m_3 : Mm) : Option ((Int × Int × Mm) ⊕ ((Mm ⊕ (AVal × Int × Int × Mm)))) :=
  forceB (ltI x31 x2) fun c32 =>
  cond c32 (
    bindP (callM M.call m_3 57 [v0, v1, v29]) fun v36 m_4 =>
    asI .i64 v36 fun x36 =>
    forceB (eqI x36 0) fun c38 =>
    cond c38 (
      some (.inr (.inr (v29, x11, 0, m_4)))) (
      forceI (wr .i64 (x11 + x36)) fun x43 =>
      forceI (wr .i64 (x31 + 1)) fun x44 =>
      some (.inl (x43, x44, m_4)))) (
    some (.inr (.inl m_3)))
def g27 (M : Means) (ro : List ABlk) (v0 : AVal) (v1 : AVal) (x2 : Int) (m0 : Mm) : Option (AVal × Heap × Nat × Nat) :=
  bindP (callM M.call m0 56 [v0, v1]) fun v15 m_1 =>
  asI .i64 v15 fun x15 =>
  forceB (!eqI x15 0) fun c17 =>
  cond c17 (
    finM m0.h.length (tupA [AVal.nsl, (.i .i64 0), (.i .i64 x15)]) m_1) (
    forceB (ltI x2 1) fun c20 =>
    bindO (cond c20 (
      some true) (
      forceB (ltI 1000 x2) fun c23 =>
      some c23)) fun c24 =>
    cond c24 (
      finM m0.h.length (tupA [AVal.nsl, (.i .i64 0), (.i .i64 4)]) m_1) (
      bindO (evP .e (.ixS 1 (.c v0) (.c (.i .i64 0)))) fun v26 =>
      bindO (ldM ro m_1 true 1 v26) fun v27 =>
      bindO (evP .e (.len false (.c v27))) fun v28 =>
      asI .i64 v28 fun x28 =>
      bindP (stepM ro m_1 (.mk 3 1 8 [(AVal.i IntKind.i64 0)] (.c (.i .i64 x28)) (.c (.i .i64 x28)))) fun v29 m_2 =>
      bindO (M.loop (S := Int × Int × Mm) (R := (Mm ⊕ (AVal × Int × Int × Mm))) (fun s => g27_b1 M ro v0 v1 v29 x2 s.1 s.2.1 s.2.2) (0, 0, m_2)) fun o_1 => match o_1 with
      | (.inl m_5) =>
        finM m0.h.length (tupA [AVal.nsl, (.i .i64 0), (.i .i64 10)]) m_5
      | (.inr (v6, x7, x8, m_6)) =>
        finM m0.h.length (tupA [v6, (.i .i64 x7), (.i .i64 x8)]) m_6))

theorem g27_ok {ro : List ABlk} {O : Caller} {M : Means} (hM : M.Ok ⟨F, O⟩ ro) {v0 v1 x2 h r} (ho : O 27 [v0, v1, (.i .i64 x2)] h = none) (hr : g27 M ro v0 v1 x2 ⟨h, h.length, h.length⟩ = some r) : callX ⟨F, O⟩ ro 27 [v0, v1, (.i .i64 x2)] h = some r := by
  refine callX_of (F := ⟨F, O⟩) (fn := fn27) (g := g27 M ro v0 v1 x2) ho rfl rfl hr ?_
  clear ho
  clear hr
  intro m0 t0 ht hr
  have g0 : t0.get 0 = v0 := ht 0
  have g1 : t0.get 1 = v1 := ht 1
  have g2 : t0.get 2 = (.i .i64 x2) := ht 2
  clear ht
  unfold g27 at hr
  refine w_seq ?_
  refine w_ops ?_
  refine wo_step (v := AVal.nsl) (s_pure (p_mv rfl)) ?_
  refine wo_step (v := (.i .i64 0)) (s_pure (p_mv rfl)) ?_
  refine wo_step (v := (.i .i64 0)) (s_pure (p_mv rfl)) ?_
  refine wo_nil ?_
  refine nx_norm ?_
  refine w_seq ?_
  refine w_seq ?_
  refine w_ops ?_
  refine wo_step (v := v0) (s_pure (p_mv g0)) ?_
  refine wo_step (v := v1) (s_pure (p_mv g1)) ?_
  have hq := bindP_inv hr
  clear hr
  obtain ⟨v15, m_1, e15, hr⟩ := hq
  have hq := asI_inv hr
  clear hr
  obtain ⟨x15, rfl, hr⟩ := hq
  refine wo_step (v := (.i .i64 x15)) (s_call (mc rfl (mc rfl mn)) (callM_le hM.call e15)) ?_
  refine wo_step (v := (.i .i64 x15)) (s_pure (p_mv rfl)) ?_
  refine wo_nil ?_
  refine nx_norm ?_
  refine w_seq ?_
  refine w_ops ?_
  refine wo_step (v := (.i .i64 x15)) (s_pure (p_mv rfl)) ?_
  have hq := forceB_inv hr
  clear hr
  obtain ⟨c17, e17, hr⟩ := hq
  refine wo_step (v := (.b c17)) (s_pure (p_bin rfl rfl (b_neq.trans (cb e17)))) ?_
  refine wo_nil ?_
  refine nx_norm ?_
  have hq := cond_inv hr
  clear hr
  rcases hq with ⟨rfl, hr⟩ | ⟨rfl, hr⟩
  · refine w_condT rfl ?_
    refine w_seq ?_
    refine w_ops ?_
    refine wo_step (v := (.i .i64 x15)) (s_pure (p_mv rfl)) ?_
    refine wo_step (v := AVal.nsl) (s_pure (p_mv rfl)) ?_
    refine wo_step (v := (.i .i64 0)) (s_pure (p_mv rfl)) ?_
    refine wo_step (v := (.i .i64 x15)) (s_pure (p_mv rfl)) ?_
    refine wo_nil ?_
    refine nx_norm ?_
    refine w_ret ?_
    refine nx_ret ?_
    exact qf ret_ok (rt rfl (rt rfl (rt rfl rn))) hr
  · refine w_condF rfl ?_
    refine w_skip ?_
    refine nx_norm ?_
    refine w_seq ?_
    refine w_seq ?_
    refine w_ops ?_
    refine wo_step (v := (.i .i64 x2)) (s_pure (p_mv g2)) ?_
    have hq := forceB_inv hr
    clear hr
    obtain ⟨c20, e20, hr⟩ := hq
    refine wo_step (v := (.b c20)) (s_pure (p_bin rfl rfl (b_lss.trans (cb e20)))) ?_
    refine wo_step (v := (.b c20)) (s_pure (p_mv rfl)) ?_
    have hq := bindO_inv hr
    clear hr
    obtain ⟨o, hr, hk⟩ := hq
    refine wo_join 3 (g27_J0 v0 v1 x2 m_1 o) ?_ ?_
    · clear hk
      have hq := cond_inv hr
      clear hr
      rcases hq with ⟨rfl, hr⟩ | ⟨rfl, hr⟩
      · refine wo_skip (v := (.b true)) rfl rfl ?_
        refine wo_skip (v := (.b true)) rfl rfl ?_
        refine wo_step (v := (.b true)) (s_pure (p_pickT rfl rfl)) ?_
        refine wo_nil ?_
        cases hr
        exact ⟨_, _, rfl, rfl, gl rfl, gl g0, gl g1, gl g2⟩
      · refine wo_take (v := (.i .i64 x2)) rfl (s_pure (p_mv g2)) ?_
        have hq := forceB_inv hr
        clear hr
        obtain ⟨c23, e23, hr⟩ := hq
        refine wo_take (v := (.b c23)) rfl (s_pure (p_bin rfl rfl (b_gtr.trans (cb e23)))) ?_
        refine wo_step (v := (.b c23)) (s_pure (p_pickF rfl rfl)) ?_
        refine wo_nil ?_
        cases hr
        exact ⟨_, _, rfl, rfl, gl rfl, gl g0, gl g1, gl g2⟩
    · clear hr
      have hr := hk
      clear hk
      obtain ⟨c24, ho⟩ : ∃ z, z = o := ⟨_, rfl⟩
      subst ho
      rintro mm t_1 ⟨rfl, g24, g0, g1, g2⟩
      refine wo_nil ?_
      refine nx_norm ?_
      have hq := cond_inv hr
      clear hr
      rcases hq with ⟨rfl, hr⟩ | ⟨rfl, hr⟩
      · refine w_condT g24 ?_
        refine w_seq ?_
        refine w_ops ?_
        refine wo_step (v := AVal.nsl) (s_pure (p_mv rfl)) ?_
        refine wo_step (v := (.i .i64 0)) (s_pure (p_mv rfl)) ?_
        refine wo_step (v := (.i .i64 4)) (s_pure (p_mv rfl)) ?_
        refine wo_nil ?_
        refine nx_norm ?_
        refine w_ret ?_
        refine nx_ret ?_
        exact qf ret_ok (rt rfl (rt rfl (rt rfl rn))) hr
      · refine w_condF g24 ?_
        refine w_skip ?_
        refine nx_norm ?_
        refine w_seq ?_
        refine w_ops ?_
        refine wo_step (v := v0) (s_pure (p_mv g0)) ?_
        have hq := bindO_inv hr
        clear hr
        obtain ⟨v26, e26, hr⟩ := hq
        refine wo_step (v := v26) (s_pure (o_ixS rfl rfl e26)) ?_
        have hq := bindO_inv hr
        clear hr
        obtain ⟨v27, e27, hr⟩ := hq
        refine wo_step (v := v27) (s_ld rfl e27) ?_
        have hq := bindO_inv hr
        clear hr
        obtain ⟨v28, e28, hr⟩ := hq
        have hq := asI_inv hr
        clear hr
        obtain ⟨x28, rfl, hr⟩ := hq
        refine wo_step (v := (.i .i64 x28)) (s_pure (o_len rfl e28)) ?_
        have hq := bindP_inv hr
        clear hr
        obtain ⟨v29, m_2, e29, hr⟩ := hq
        refine wo_step (v := v29) (s_mk rfl rfl e29) ?_
        refine wo_step (v := v29) (s_pure (p_mv rfl)) ?_
        refine wo_nil ?_
        refine nx_norm ?_
        refine w_seq ?_
        refine w_ops ?_
        refine wo_step (v := (.i .i64 0)) (s_pure (p_mv rfl)) ?_
        refine wo_nil ?_
        refine nx_norm ?_
        refine w_seq ?_
        refine w_seq ?_
        refine w_ops ?_
        refine wo_step (v := (.i .i64 x2)) (s_pure (p_mv g2)) ?_
        refine wo_step (v := (.i .i64 0)) (s_pure (p_mv rfl)) ?_
        refine wo_nil ?_
        refine nx_norm ?_
        refine w_block ?_
        have hq := bindO_inv hr
        clear hr
        obtain ⟨o_1, hl, hr⟩ := hq
        obtain ⟨n, hl⟩ := hM.loop _ _ _ hl
        refine jp_mono (w_loop _ (g27_I1 v0 v1 v29 x2) (g27_J1 v0 v1 v29 x2) ?_ n _ _ _ _ hl ⟨rfl, gl rfl, gl rfl, gl g0, gl g1, gl rfl, gl rfl⟩) ?_
        · clear hr hl
          intro s mm_3 t_2 o hi hr
          obtain ⟨x11, x31, m_3⟩ := s
          obtain ⟨rfl, g11, g31, g0, g1, g10, g30⟩ := hi
          unfold g27_b1 at hr
          refine w_seq ?_
          refine w_ops ?_
          have hq := forceB_inv hr
          clear hr
          obtain ⟨c32, e32, hr⟩ := hq
          refine wo_step (v := (.b c32)) (s_pure (p_bin g31 g30 (b_lss.trans (cb e32)))) ?_
          refine wo_nil ?_
          refine nx_norm ?_
          refine w_seq ?_
          have hq := cond_inv hr
          clear hr
          rcases hq with ⟨rfl, hr⟩ | ⟨rfl, hr⟩
          · refine w_condT rfl ?_
            refine w_skip ?_
            refine nx_norm ?_
            refine w_seq ?_
            refine w_block ?_
            refine w_seq ?_
            refine w_ops ?_
            refine wo_step (v := v0) (s_pure (p_mv g0)) ?_
            refine wo_step (v := v1) (s_pure (p_mv g1)) ?_
            refine wo_step (v := v29) (s_pure (p_mv g10)) ?_
            have hq := bindP_inv hr
            clear hr
            obtain ⟨v36, m_4, e36, hr⟩ := hq
            have hq := asI_inv hr
            clear hr
            obtain ⟨x36, rfl, hr⟩ := hq
            refine wo_step (v := (.i .i64 x36)) (s_call (mc rfl (mc rfl (mc rfl mn))) (callM_le hM.call e36)) ?_
            refine wo_step (v := (.i .i64 x36)) (s_pure (p_mv rfl)) ?_
            refine wo_nil ?_
            refine nx_norm ?_
            refine w_seq ?_
            refine w_seq ?_
            refine w_ops ?_
            refine wo_step (v := (.i .i64 x36)) (s_pure (p_mv rfl)) ?_
            have hq := forceB_inv hr
            clear hr
            obtain ⟨c38, e38, hr⟩ := hq
            refine wo_step (v := (.b c38)) (s_pure (p_bin rfl rfl (b_eql.trans (cb e38)))) ?_
            refine wo_nil ?_
            refine nx_norm ?_
            have hq := cond_inv hr
            clear hr
            rcases hq with ⟨rfl, hr⟩ | ⟨rfl, hr⟩
            · refine w_condT rfl ?_
              refine w_seq ?_
              refine w_ops ?_
              refine wo_step (v := v29) (s_pure (p_mv g10)) ?_
              refine wo_step (v := (.i .i64 x11)) (s_pure (p_mv g11)) ?_
              refine wo_step (v := v29) (s_pure (p_mv rfl)) ?_
              refine wo_step (v := (.i .i64 x11)) (s_pure (p_mv rfl)) ?_
              refine wo_step (v := (.i .i64 0)) (s_pure (p_mv rfl)) ?_
              refine wo_nil ?_
              refine nx_norm ?_
              refine w_ret ?_
              refine nx_ret ?_
              refine bk_ret ?_
              refine nx_ret ?_
              cases hr
              exact ⟨_, _, rfl, ne_norm_ret, rfl, rfl, gl rfl, gl rfl, gl rfl⟩
            · refine w_condF rfl ?_
              refine w_skip ?_
              refine nx_norm ?_
              refine w_ops ?_
              refine wo_step (v := (.i .i64 x11)) (s_pure (p_mv g11)) ?_
              refine wo_step (v := (.i .i64 x36)) (s_pure (p_mv rfl)) ?_
              have hq := forceI_inv hr
              clear hr
              obtain ⟨x43, e43, hr⟩ := hq
              refine wo_step (v := (.i .i64 x43)) (s_pure (p_bin rfl rfl (b_add.trans (ci e43)))) ?_
              refine wo_step (v := (.i .i64 x43)) (s_pure (p_mv rfl)) ?_
              refine wo_nil ?_
              refine bk_norm ?_
              refine nx_norm ?_
              refine w_ops ?_
              have hq := forceI_inv hr
              clear hr
              obtain ⟨x44, e44, hr⟩ := hq
              refine wo_step (v := (.i .i64 x44)) (s_pure (p_bin g31 rfl (b_add.trans (ci e44)))) ?_
              refine wo_step (v := (.i .i64 x44)) (s_pure (p_mv rfl)) ?_
              refine wo_nil ?_
              cases hr
              exact ⟨_, _, rfl, rfl, rfl, gl rfl, gl rfl, gl g0, gl g1, gl g10, gl g30⟩
          · refine w_condF rfl ?_
            refine w_exit ?_
            refine nx_exit ?_
            cases hr
            exact ⟨_, _, rfl, ne_norm_exit, rfl, rfl⟩
        · rcases o_1 with o_1 | o_1
          · obtain ⟨m_5, ho⟩ : ∃ z, z = o_1 := ⟨_, rfl⟩
            subst ho
            rintro _ mm_1 t_3 ⟨rfl, rfl⟩
            refine bk_hit ?_
            refine nx_norm ?_
            refine w_seq ?_
            refine w_ops ?_
            refine wo_step (v := AVal.nsl) (s_pure (p_mv rfl)) ?_
            refine wo_step (v := (.i .i64 0)) (s_pure (p_mv rfl)) ?_
            refine wo_step (v := (.i .i64 10)) (s_pure (p_mv rfl)) ?_
            refine wo_nil ?_
            refine nx_norm ?_
            refine w_ret ?_
            exact qf ret_ok (rt rfl (rt rfl (rt rfl rn))) hr
          · obtain ⟨v6, x7, x8, m_6⟩ := o_1
            rintro _ mm_2 t_4 ⟨rfl, rfl, g6, g7, g8⟩
            refine bk_ret ?_
            refine nx_ret ?_
            exact qf ret_ok (rt g6 (rt g7 (rt g8 rn))) hr

/- dibber/dibberref05.Perceptron -/
abbrev g28_J0 (v0 : AVal) (v1 : AVal) (x2 : Int) (m_1 : Mm) (o : Bool) (m1 : Mm) (t1 : Tr) : Prop :=
  match o with
  | c29 => m_1 = m1 ∧ t1.get 29 = (.b c29) ∧ t1.get 0 = v0 ∧ t1.get 1 = v1 ∧ t1.get 2 = (.i .i64 x2)
abbrev g28_I1 (v0 : AVal) (v1 : AVal) (x2 : Int) (v34 : AVal) (s : Int × Int × Mm) (m1 : Mm) (t1 : Tr) : Prop :=
  match s with
  | (x11, x12, m_3) => m_3 = m1 ∧ t1.get 11 = (.i .i64 x11) ∧ t1.get 12 = (.i .i64 x12) ∧ t1.get 0 = v0 ∧ t1.get 1 = v1 ∧ t1.get 2 = (.i .i64 x2) ∧ t1.get 10 = v34
abbrev g28_J1 (v0 : AVal) (v1 : AVal) (x2 : Int) (v34 : AVal) (o : (Mm ⊕ (AVal × Int × Int × Mm))) (e : AExit) (m1 : Mm) (t1 : Tr) : Prop :=
  match o with
  | (.inl mo) => e = (.exit 0) ∧ mo = m1
  | (.inr (y6, y7, y8, mo)) => e = .ret ∧ mo = m1 ∧ t1.get 6 = y6 ∧ t1.get 7 = (.i .i64 y7) ∧ t1.get 8 = (.i .i64 y8)
abbrev g28_I2 (v0 : AVal) (v1 : AVal) (x2 : Int) (v34 : AVal) (x12 : Int) (x11 : Int) (s : Int × Int × Mm) (m1 : Mm) (t1 : Tr) : Prop :=
  match s with
  | (x11_1, x14, m_4) => m_4 = m1 ∧ t1.get 11 = (.i .i64 x11_1) ∧ t1.get 14 = (.i .i64 x14) ∧ t1.get 0 = v0 ∧ t1.get 1 = v1 ∧ t1.get 2 = (.i .i64 x2) ∧ t1.get 10 = v34 ∧ t1.get 12 = (.i .i64 x12) ∧ t1.get 13 = (.i .i64 x11)
abbrev g28_J2 (v0 : AVal) (v1 : AVal) (x2 : Int) (v34 : AVal) (x12 : Int) (x11 : Int) (o : (Int × Mm)) (e : AExit) (m1 : Mm) (t1 : Tr) : Prop :=
  match o with
  | (y11, mo) => e = (.exit 2) ∧ mo = m1 ∧ t1.get 11 = (.i .i64 y11) ∧ t1.get 0 = v0 ∧ t1.get 1 = v1 ∧ t1.get 2 = (.i .i64 x2) ∧ t1.get 10 = v34 ∧ t1.get 12 = (.i .i64 x12) ∧ t1.get 13 = (.i .i64 x11)
abbrev g28_J3 (v0 : AVal) (v1 : AVal) (x2 : Int) (v34 : AVal) (x12 : Int) (x11 : Int) (x14 : Int) (o : (Int × Mm)) (e : AExit) (m1 : Mm) (t1 : Tr) : Prop :=
  match o with
  | (y11, mo) => e = .norm ∧ mo = m1 ∧ t1.get 11 = (.i .i64 y11) ∧ t1.get 0 = v0 ∧ t1.get 1 = v1 ∧ t1.get 2 = (.i .i64 x2) ∧ t1.get 10 = v34 ∧ t1.get 12 = (.i .i64 x12) ∧ t1.get 13 = (.i .i64 x11) ∧ t1.get 14 = (.i .i64 x14)
abbrev g28_I4 (v0 : AVal) (v1 : AVal) (x2 : Int) (v34 : AVal) (x11_1 : Int) (x12 : Int) (x11 : Int) (x14 : Int) (m_4 : Mm) (s : Int × Int) (m1 : Mm) (t1 : Tr) : Prop :=
  match s with
  | (x15, x16) => m_4 = m1 ∧ t1.get 15 = (.i .i64 x15) ∧ t1.get 16 = (.i .i64 x16) ∧ t1.get 0 = v0 ∧ t1.get 1 = v1 ∧ t1.get 2 = (.i .i64 x2) ∧ t1.get 10 = v34 ∧ t1.get 11 = (.i .i64 x11_1) ∧ t1.get 12 = (.i .i64 x12) ∧ t1.get 13 = (.i .i64 x11) ∧ t1.get 14 = (.i .i64 x14)
abbrev g28_J4 (v0 : AVal) (v1 : AVal) (x2 : Int) (v34 : AVal) (x11_1 : Int) (x12 : Int) (x11 : Int) (x14 : Int) (m_4 : Mm) (o : Int) (e : AExit) (m1 : Mm) (t1 : Tr) : Prop :=
  match o with
  | y15 => e = (.exit 4) ∧ m_4 = m1 ∧ t1.get 15 = (.i .i64 y15) ∧ t1.get 0 = v0 ∧ t1.get 1 = v1 ∧ t1.get 2 = (.i .i64 x2) ∧ t1.get 10 = v34 ∧ t1.get 11 = (.i .i64 x11_1) ∧ t1.get 12 = (.i .i64 x12) ∧ t1.get 13 = (.i .i64 x11) ∧ t1.get 14 = (.i .i64 x14)
def g28_b4 (M : Means) (ro : List ABlk) (v0 : AVal) (v1 : AVal) (x2 : Int) (v34 : AVal) (x11_1 : Int) (x12 : Int) (x11 : Int) (x14 : Int) (m_4 : Mm) (x15 : Int) (x16 : Int) : Option ((Int × Int) ⊕ (Int)) :=
  bindO (evP .e (.len false (.c v34))) fun v49 =>
  asI .i64 v49 fun x49 =>
  forceB (ltI x16 x49) fun c50 =>
  cond c50 (
    bindO (evP .e (.ixS 1 (.c v0) (.c (.i .i64 x14)))) fun v56 =>
    bindO (ldA ro m_4.h true 1 v56) fun v57 =>
    bindO (evP .e (.ixS 1 (.c v57) (.c (.i .i64 x16)))) fun v59 =>
    bindO (ldA ro m_4.h true 1 v59) fun v60 =>
    asI .i64 v60 fun x60 =>
    bindO (evP .e (.ixS 1 (.c v34) (.c (.i .i64 x16)))) fun v63 =>
    bindO (ldA ro m_4.h true 1 v63) fun v64 =>
    asI .i64 v64 fun x64 =>
    forceI (wr .i64 (x60 * x64)) fun x65 =>
    forceI (wr .i64 (x15 + x65)) fun x66 =>
    forceI (wr .i64 (x16 + 1)) fun x52 =>
    some (.inl (x66, x52))) (
    some (.inr x15))
abbrev g28_I5 (v0 : AVal) (v1 : AVal) (x2 : Int) (v34 : AVal) (x75 : Int) (x12 : Int) (x11 : Int) (x14 : Int) (s : Int × Mm) (m1 : Mm) (t1 : Tr) : Prop :=
  match s with
  | (x17, m_5) => m_5 = m1 ∧ t1.get 17 = (.i .i64 x17) ∧ t1.get 0 = v0 ∧ t1.get 1 = v1 ∧ t1.get 2 = (.i .i64 x2) ∧ t1.get 10 = v34 ∧ t1.get 11 = (.i .i64 x75) ∧ t1.get 12 = (.i .i64 x12) ∧ t1.get 13 = (.i .i64 x11) ∧ t1.get 14 = (.i .i64 x14)
abbrev g28_J5 (v0 : AVal) (v1 : AVal) (x2 : Int) (v34 : AVal) (x75 : Int) (x12 : Int) (x11 : Int) (x14 : Int) (o : Mm) (e : AExit) (m1 : Mm) (t1 : Tr) : Prop :=
  match o with
  | mo => e = (.exit 6) ∧ mo = m1 ∧ t1.get 0 = v0 ∧ t1.get 1 = v1 ∧ t1.get 2 = (.i .i64 x2) ∧ t1.get 10 = v34 ∧ t1.get 11 = (.i .i64 x75) ∧ t1.get 12 = (.i .i64 x12) ∧ t1.get 13 = (.i .i64 x11) ∧ t1.get 14 = (.i .i64 x14)
def g28_b5 (M : Means) (ro : List ABlk) (v0 : AVal) (v1 : AVal) (x2 : Int) (v34 : AVal) (x75 : Int) (x12 : Int) (x11 : Int) (x14 : Int) (x17 : Int) (m_5 : Mm) : Option ((Int × Mm) ⊕ (Mm)) :=
  bindO (evP .e (.len false (.c v34))) fun v78 =>
  asI .i64 v78 fun x78 =>
  forceB (ltI x17 x78) fun c79 =>
  cond c79 (
    bindO (evP .e (.ixS 1 (.c v34) (.c (.i .i64 x17)))) fun v84 =>
    bindO (ldA ro m_5.h true 1 v84) fun v85 =>
    asI .i64 v85 fun x85 =>
    bindO (evP .e (.ixS 1 (.c v1) (.c (.i .i64 x14)))) fun v88 =>
    bindO (ldA ro m_5.h true 1 v88) fun v89 =>
    asI .i64 v89 fun x89 =>
    bindO (evP .e (.ixS 1 (.c v0) (.c (.i .i64 x14)))) fun v92 =>
    bindO (ldA ro m_5.h true 1 v92) fun v93 =>
    bindO (evP .e (.ixS 1 (.c v93) (.c (.i .i64 x17)))) fun v95 =>
    bindO (ldA ro m_5.h true 1 v95) fun v96 =>
    asI .i64 v96 fun x96 =>
    forceI (wr .i64 (x89 * x96)) fun x97 =>
    forceI (wr .i64 (x85 + x97)) fun x98 =>
    bindO (evP .e (.ixS 1 (.c v34) (.c (.i .i64 x17)))) fun v99 =>
    asP v99 fun qs =>
    bindO (writesM ro [] [(qs, AVal.cells (.i .i64 x98))] ⟨m_5.h, m_5.lw, m_5.lp⟩) fun m_6 =>
    forceI (wr .i64 (x17 + 1)) fun x81 =>
    some (.inl (x81, m_6))) (
    some (.inr m_5))
def g28_b2 (M : Means) (ro : List ABlk) (v0 : AVal) (v1 : AVal) (x2 : Int) (v34 : AVal) (x12 : Int) (x11 : Int) (x11_1 : Int) (x14 : Int) (m_4 : Mm) : Option ((Int × Int × Mm) ⊕ ((Int × Mm))) :=
  bindO (evP .e (.len false (.c v0))) fun v43 =>
  asI .i64 v43 fun x43 =>
  forceB (ltI x14 x43) fun c44 =>
  cond c44 (
    bindO (α := (Int × Mm)) (
      bindO (M.loop (S := Int × Int) (R := Int) (fun s => g28_b4 M ro v0 v1 x2 v34 x11_1 x12 x11 x14 m_4 s.1 s.2) (0, 0)) fun x15_1 =>
      bindO (evP .e (.ixS 1 (.c v1) (.c (.i .i64 x14)))) fun v69 =>
      bindO (ldM ro m_4 true 1 v69) fun v70 =>
      asI .i64 v70 fun x70 =>
      forceI (wr .i64 (x70 * x15_1)) fun x72 =>
      forceB (ltI 0 x72) fun c73 =>
      cond c73 (
        some (x11_1, m_4)) (
        forceI (wr .i64 (x11_1 + 1)) fun x75 =>
        bindO (M.loop (S := Int × Mm) (R := Mm) (fun s => g28_b5 M ro v0 v1 x2 v34 x75 x12 x11 x14 s.1 s.2) (0, m_4)) fun m_7 =>
        some (x75, m_7))) fun ⟨x11_2, m_8⟩ =>
    forceI (wr .i64 (x14 + 1)) fun x46 =>
    some (.inl (x11_2, x46, m_8))) (
    some (.inr (x11_1, m_4)))
def g28_b1 (M : Means) (ro : List ABlk) (v0 : AVal) (v1 : AVal) (x2 : Int) (v34 : AVal) (x11 : Int) (x12 : Int) (m_3 : Mm) : Option ((Int × Int × Mm) ⊕ ((Mm ⊕ (AVal × Int × Int × Mm)))) :=
  forceB (ltI x12 x2) fun c37 =>
  cond c37 (
    bindO (M.loop (S := Int × Int × Mm) (R := (Int × Mm)) (fun s => g28_b2 M ro v0 v1 x2 v34 x12 x11 s.1 s.2.1 s.2.2) (x11, 0, m_3)) fun ⟨x11_3, m_9⟩ =>
    forceB (eqI x11_3 x11) fun c102 =>
    cond c102 (
      some (.inr (.inr (v34, x11_3, 0, m_9)))) (
      forceI (wr .i64 (x12 + 1)) fun x39 =>
      some (.inl (x11_3, x39, m_9)))) (
    some (.inr (.inl m_3)))
def g28 (M : Means) (ro : List ABlk) (v0 : AVal) (v1 : AVal) (x2 : Int) (m0 : Mm) : Option (AVal × Heap × Nat × Nat) :=
  bindP (callM M.call m0 43 [v0, v1]) fun v20 m_1 =>
  asI .i64 v20 fun x20 =>
  forceB (!eqI x20 0) fun c22 =>
  cond c22 (
    finM m0.h.length (tupA [AVal.nsl, (.i .i64 0), (.i .i64 x20)]) m_1) (
    forceB (ltI x2 1) fun c25 =>
    bindO (cond c25 (
      some true) (
      forceB (ltI 1000 x2) fun c28 =>
      some c28)) fun c29 =>
    cond c29 (
      finM m0.h.length (tupA [AVal.nsl, (.i .i64 0), (.i .i64 4)]) m_1) (
      bindO (evP .e (.ixS 1 (.c v0) (.c (.i .i64 0)))) fun v31 =>
      bindO (ldM ro m_1 true 1 v31) fun v32 =>
      bindO (evP .e (.len false (.c v32))) fun v33 =>
      asI .i64 v33 fun x33 =>
      bindP (stepM ro m_1 (.mk 3 1 8 [(AVal.i IntKind.i64 0)] (.c (.i .i64 x33)) (.c (.i .i64 x33)))) fun v34 m_2 =>
      bindO (M.loop (S := Int × Int × Mm) (R := (Mm ⊕ (AVal × Int × Int × Mm))) (fun s => g28_b1 M ro v0 v1 x2 v34 s.1 s.2.1 s.2.2) (0, 0, m_2)) fun o_5 => match o_5 with
      | (.inl m_10) =>
        finM m0.h.length (tupA [AVal.nsl, (.i .i64 0), (.i .i64 10)]) m_10
      | (.inr (v6, x7, x8, m_11)) =>
        finM m0.h.length (tupA [v6, (.i .i64 x7), (.i .i64 x8)]) m_11))

theorem g28_ok {ro : List ABlk} {O : Caller} {M : Means} (hM : M.Ok ⟨F, O⟩ ro) {v0 v1 x2 h r} (ho : O 28 [v0, v1, (.i .i64 x2)] h = none) (hr : g28 M ro v0 v1 x2 ⟨h, h.length, h.length⟩ = some r) : callX ⟨F, O⟩ ro 28 [v0, v1, (.i .i64 x2)] h = some r := by
  refine callX_of (F := ⟨F, O⟩) (fn := fn28) (g := g28 M ro v0 v1 x2) ho rfl rfl hr ?_
  clear ho
  clear hr
  intro m0 t0 ht hr
  have g0 : t0.get 0 = v0 := ht 0
  have g1 : t0.get 1 = v1 := ht 1
  have g2 : t0.get 2 = (.i .i64 x2) := ht 2
  clear ht
  unfold g28 at hr
  refine w_seq ?_
  refine w_ops ?_
  refine wo_step (v := AVal.nsl) (s_pure (p_mv rfl)) ?_
  refine wo_step (v := (.i .i64 0)) (s_pure (p_mv rfl)) ?_
  refine wo_step (v := (.i .i64 0)) (s_pure (p_mv rfl)) ?_
  refine wo_nil ?_
  refine nx_norm ?_
  refine w_seq ?_
  refine w_ops ?_
  refine wo_step (v := v0) (s_pure (p_mv g0)) ?_
  refine wo_step (v := v1) (s_pure (p_mv g1)) ?_
  have hq := bindP_inv hr
  clear hr
  obtain ⟨v20, m_1, e20, hr⟩ := hq
  have hq := asI_inv hr
  clear hr
  obtain ⟨x20, rfl, hr⟩ := hq
  refine wo_step (v := (.i .i64 x20)) (s_call (mc rfl (mc rfl mn)) (callM_le hM.call e20)) ?_
  refine wo_step (v := (.i .i64 x20)) (s_pure (p_mv rfl)) ?_
  refine wo_nil ?_
  refine nx_norm ?_
  refine w_seq ?_
  refine w_seq ?_
  refine w_ops ?_
  refine wo_step (v := (.i .i64 x20)) (s_pure (p_mv rfl)) ?_
  have hq := forceB_inv hr
  clear hr
  obtain ⟨c22, e22, hr⟩ := hq
  refine wo_step (v := (.b c22)) (s_pure (p_bin rfl rfl (b_neq.trans (cb e22)))) ?_
  refine wo_nil ?_
  refine nx_norm ?_
  have hq := cond_inv hr
  clear hr
  rcases hq with ⟨rfl, hr⟩ | ⟨rfl, hr⟩
  · refine w_condT rfl ?_
    refine w_seq ?_
    refine w_ops ?_
    refine wo_step (v := (.i .i64 x20)) (s_pure (p_mv rfl)) ?_
    refine wo_step (v := AVal.nsl) (s_pure (p_mv rfl)) ?_
    refine wo_step (v := (.i .i64 0)) (s_pure (p_mv rfl)) ?_
    refine wo_step (v := (.i .i64 x20)) (s_pure (p_mv rfl)) ?_
    refine wo_nil ?_
    refine nx_norm ?_
    refine w_ret ?_
    refine nx_ret ?_
    exact qf ret_ok (rt rfl (rt rfl (rt rfl rn))) hr
  · refine w_condF rfl ?_
    refine w_skip ?_
    refine nx_norm ?_
    refine w_seq ?_
    refine w_seq ?_
    refine w_ops ?_
    refine wo_step (v := (.i .i64 x2)) (s_pure (p_mv g2)) ?_
    have hq := forceB_inv hr
    clear hr
    obtain ⟨c25, e25, hr⟩ := hq
    refine wo_step (v := (.b c25)) (s_pure (p_bin rfl rfl (b_lss.trans (cb e25)))) ?_
    refine wo_step (v := (.b c25)) (s_pure (p_mv rfl)) ?_
    have hq := bindO_inv hr
    clear hr
    obtain ⟨o, hr, hk⟩ := hq
    refine wo_join 3 (g28_J0 v0 v1 x2 m_1 o) ?_ ?_
    · clear hk
      have hq := cond_inv hr
      clear hr
      rcases hq with ⟨rfl, hr⟩ | ⟨rfl, hr⟩
      · refine wo_skip (v := (.b true)) rfl rfl ?_
        refine wo_skip (v := (.b true)) rfl rfl ?_
        refine wo_step (v := (.b true)) (s_pure (p_pickT rfl rfl)) ?_
        refine wo_nil ?_
        cases hr
        exact ⟨_, _, rfl, rfl, gl rfl, gl g0, gl g1, gl g2⟩
      · refine wo_take (v := (.i .i64 x2)) rfl (s_pure (p_mv g2)) ?_
        have hq := forceB_inv hr
        clear hr
        obtain ⟨c28, e28, hr⟩ := hq
        refine wo_take (v := (.b c28)) rfl (s_pure (p_bin rfl rfl (b_gtr.trans (cb e28)))) ?_
        refine wo_step (v := (.b c28)) (s_pure (p_pickF rfl rfl)) ?_
        refine wo_nil ?_
        cases hr
        exact ⟨_, _, rfl, rfl, gl rfl, gl g0, gl g1, gl g2⟩
    · clear hr
      have hr := hk
      clear hk
      obtain ⟨c29, ho⟩ : ∃ z, z = o := ⟨_, rfl⟩
      subst ho
      rintro mm t_1 ⟨rfl, g29, g0, g1, g2⟩
      refine wo_nil ?_
      refine nx_norm ?_
      have hq := cond_inv hr
      clear hr
      rcases hq with ⟨rfl, hr⟩ | ⟨rfl, hr⟩
      · refine w_condT g29 ?_
        refine w_seq ?_
        refine w_ops ?_
        refine wo_step (v := AVal.nsl) (s_pure (p_mv rfl)) ?_
        refine wo_step (v := (.i .i64 0)) (s_pure (p_mv rfl)) ?_
        refine wo_step (v := (.i .i64 4)) (s_pure (p_mv rfl)) ?_
        refine wo_nil ?_
        refine nx_norm ?_
        refine w_ret ?_
        refine nx_ret ?_
        exact qf ret_ok (rt rfl (rt rfl (rt rfl rn))) hr
      · refine w_condF g29 ?_
        refine w_skip ?_
        refine nx_norm ?_
        refine w_seq ?_
        refine w_ops ?_
        refine wo_step (v := v0) (s_pure (p_mv g0)) ?_
        have hq := bindO_inv hr
        clear hr
        obtain ⟨v31, e31, hr⟩ := hq
        refine wo_step (v := v31) (s_pure (o_ixS rfl rfl e31)) ?_
        have hq := bindO_inv hr
        clear hr
        obtain ⟨v32, e32, hr⟩ := hq
        refine wo_step (v := v32) (s_ld rfl e32) ?_
        have hq := bindO_inv hr
        clear hr
        obtain ⟨v33, e33, hr⟩ := hq
        have hq := asI_inv hr
        clear hr
        obtain ⟨x33, rfl, hr⟩ := hq
        refine wo_step (v := (.i .i64 x33)) (s_pure (o_len rfl e33)) ?_
        have hq := bindP_inv hr
        clear hr
        obtain ⟨v34, m_2, e34, hr⟩ := hq
        refine wo_step (v := v34) (s_mk rfl rfl e34) ?_
        refine wo_step (v := v34) (s_pure (p_mv rfl)) ?_
        refine wo_nil ?_
        refine nx_norm ?_
        refine w_seq ?_
        refine w_ops ?_
        refine wo_step (v := (.i .i64 0)) (s_pure (p_mv rfl)) ?_
        refine wo_nil ?_
        refine nx_norm ?_
        refine w_seq ?_
        refine w_seq ?_
        refine w_ops ?_
        refine wo_step (v := (.i .i64 0)) (s_pure (p_mv rfl)) ?_
        refine wo_nil ?_
        refine nx_norm ?_
        refine w_block ?_
        have hq := bindO_inv hr
        clear hr
        obtain ⟨o_5, hl_3, hr⟩ := hq
        obtain ⟨n_3, hl_3⟩ := hM.loop _ _ _ hl_3
        refine jp_mono (w_loop _ (g28_I1 v0 v1 x2 v34) (g28_J1 v0 v1 x2 v34) ?_ n_3 _ _ _ _ hl_3 ⟨rfl, gl rfl, gl rfl, gl g0, gl g1, gl g2, gl rfl⟩) ?_
        · clear hr hl_3
          intro s mm_10 t_2 o hi hr
          obtain ⟨x11, x12, m_3⟩ := s
          obtain ⟨rfl, g11, g12, g0, g1, g2, g10⟩ := hi
          unfold g28_b1 at hr
          refine w_seq ?_
          refine w_seq ?_
          refine w_ops ?_
          refine wo_step (v := (.i .i64 x12)) (s_pure (p_mv g12)) ?_
          refine wo_step (v := (.i .i64 x2)) (s_pure (p_mv g2)) ?_
          have hq := forceB_inv hr
          clear hr
          obtain ⟨c37, e37, hr⟩ := hq
          refine wo_step (v := (.b c37)) (s_pure (p_bin rfl rfl (b_lss.trans (cb e37)))) ?_
          refine wo_nil ?_
          refine nx_norm ?_
          have hq := cond_inv hr
          clear hr
          rcases hq with ⟨rfl, hr⟩ | ⟨rfl, hr⟩
          · refine w_condT rfl ?_
            refine w_skip ?_
            refine nx_norm ?_
            refine w_seq ?_
            refine w_block ?_
            refine w_seq ?_
            refine w_ops ?_
            refine wo_step (v := (.i .i64 x11)) (s_pure (p_mv g11)) ?_
            refine wo_step (v := (.i .i64 x11)) (s_pure (p_mv rfl)) ?_
            refine wo_nil ?_
            refine nx_norm ?_
            refine w_seq ?_
            refine w_seq ?_
            refine w_ops ?_
            refine wo_step (v := (.i .i64 0)) (s_pure (p_mv rfl)) ?_
            refine wo_nil ?_
            refine nx_norm ?_
            refine w_block ?_
            have hq := bindO_inv hr
            clear hr
            obtain ⟨o_4, hl_2, hr⟩ := hq
            obtain ⟨n_2, hl_2⟩ := hM.loop _ _ _ hl_2
            refine jp_mono (w_loop _ (g28_I2 v0 v1 x2 v34 x12 x11) (g28_J2 v0 v1 x2 v34 x12 x11) ?_ n_2 _ _ _ _ hl_2 ⟨rfl, gl g11, gl rfl, gl g0, gl g1, gl g2, gl g10, gl g12, gl rfl⟩) ?_
            · clear hr hl_2
              intro s mm_7 t_3 o hi hr
              obtain ⟨x11_1, x14, m_4⟩ := s
              obtain ⟨rfl, g11, g14, g0, g1, g2, g10, g12, g13⟩ := hi
              unfold g28_b2 at hr
              refine w_seq ?_
              refine w_seq ?_
              refine w_ops ?_
              refine wo_step (v := (.i .i64 x14)) (s_pure (p_mv g14)) ?_
              refine wo_step (v := v0) (s_pure (p_mv g0)) ?_
              have hq := bindO_inv hr
              clear hr
              obtain ⟨v43, e43, hr⟩ := hq
              have hq := asI_inv hr
              clear hr
              obtain ⟨x43, rfl, hr⟩ := hq
              refine wo_step (v := (.i .i64 x43)) (s_pure (o_len rfl e43)) ?_
              have hq := forceB_inv hr
              clear hr
              obtain ⟨c44, e44, hr⟩ := hq
              refine wo_step (v := (.b c44)) (s_pure (p_bin rfl rfl (b_lss.trans (cb e44)))) ?_
              refine wo_nil ?_
              refine nx_norm ?_
              have hq := cond_inv hr
              clear hr
              rcases hq with ⟨rfl, hr⟩ | ⟨rfl, hr⟩
              · refine w_condT rfl ?_
                refine w_skip ?_
                refine nx_norm ?_
                refine w_seq ?_
                have hq := bindO_inv hr
                clear hr
                obtain ⟨o_1, hr, hk⟩ := hq
                refine jp_mono (J := g28_J3 v0 v1 x2 v34 x12 x11 x14 o_1) ?_ ?_
                · clear hk
                  refine w_block ?_
                  refine w_seq ?_
                  refine w_ops ?_
                  refine wo_step (v := (.i .i64 0)) (s_pure (p_mv rfl)) ?_
                  refine wo_nil ?_
                  refine nx_norm ?_
                  refine w_seq ?_
                  refine w_seq ?_
                  refine w_ops ?_
                  refine wo_step (v := (.i .i64 0)) (s_pure (p_mv rfl)) ?_
                  refine wo_nil ?_
                  refine nx_norm ?_
                  refine w_block ?_
                  have hq := bindO_inv hr
                  clear hr
                  obtain ⟨o_2, hl_1, hr⟩ := hq
                  obtain ⟨n_1, hl_1⟩ := hM.loop _ _ _ hl_1
                  refine jp_mono (w_loop _ (g28_I4 v0 v1 x2 v34 x11_1 x12 x11 x14 m_4) (g28_J4 v0 v1 x2 v34 x11_1 x12 x11 x14 m_4) ?_ n_1 _ _ _ _ hl_1 ⟨rfl, gl rfl, gl rfl, gl g0, gl g1, gl g2, gl g10, gl g11, gl g12, gl g13, gl g14⟩) ?_
                  · clear hr hl_1
                    intro s mm_4 t_4 o hi hr
                    obtain ⟨x15, x16⟩ := s
                    obtain ⟨rfl, g15, g16, g0, g1, g2, g10, g11, g12, g13, g14⟩ := hi
                    unfold g28_b4 at hr
                    refine w_seq ?_
                    refine w_seq ?_
                    refine w_ops ?_
                    refine wo_step (v := (.i .i64 x16)) (s_pure (p_mv g16)) ?_
                    refine wo_step (v := v34) (s_pure (p_mv g10)) ?_
                    have hq := bindO_inv hr
                    clear hr
                    obtain ⟨v49, e49, hr⟩ := hq
                    have hq := asI_inv hr
                    clear hr
                    obtain ⟨x49, rfl, hr⟩ := hq
                    refine wo_step (v := (.i .i64 x49)) (s_pure (o_len rfl e49)) ?_
                    have hq := forceB_inv hr
                    clear hr
                    obtain ⟨c50, e50, hr⟩ := hq
                    refine wo_step (v := (.b c50)) (s_pure (p_bin rfl rfl (b_lss.trans (cb e50)))) ?_
                    refine wo_nil ?_
                    refine nx_norm ?_
                    have hq := cond_inv hr
                    clear hr
                    rcases hq with ⟨rfl, hr⟩ | ⟨rfl, hr⟩
                    · refine w_condT rfl ?_
                      refine w_skip ?_
                      refine nx_norm ?_
                      refine w_seq ?_
                      refine w_block ?_
                      refine w_any ?_
                      refine wa_step (v := (.i .i64 x15)) (a_pure (p_mv g15)) ?_
                      refine wa_step (v := v0) (a_pure (p_mv g0)) ?_
                      refine wa_step (v := (.i .i64 x14)) (a_pure (p_mv g14)) ?_
                      have hq := bindO_inv hr
                      clear hr
                      obtain ⟨v56, e56, hr⟩ := hq
                      refine wa_step (v := v56) (a_pure (o_ixS rfl rfl e56)) ?_
                      have hq := bindO_inv hr
                      clear hr
                      obtain ⟨v57, e57, hr⟩ := hq
                      refine wa_step (v := v57) (a_ld rfl e57) ?_
                      refine wa_step (v := (.i .i64 x16)) (a_pure (p_mv g16)) ?_
                      have hq := bindO_inv hr
                      clear hr
                      obtain ⟨v59, e59, hr⟩ := hq
                      refine wa_step (v := v59) (a_pure (o_ixS rfl rfl e59)) ?_
                      have hq := bindO_inv hr
                      clear hr
                      obtain ⟨v60, e60, hr⟩ := hq
                      have hq := asI_inv hr
                      clear hr
                      obtain ⟨x60, rfl, hr⟩ := hq
                      refine wa_step (v := (.i .i64 x60)) (a_ld rfl e60) ?_
                      refine wa_step (v := v34) (a_pure (p_mv g10)) ?_
                      refine wa_step (v := (.i .i64 x16)) (a_pure (p_mv g16)) ?_
                      have hq := bindO_inv hr
                      clear hr
                      obtain ⟨v63, e63, hr⟩ := hq
                      refine wa_step (v := v63) (a_pure (o_ixS rfl rfl e63)) ?_
                      have hq := bindO_inv hr
                      clear hr
                      obtain ⟨v64, e64, hr⟩ := hq
                      have hq := asI_inv hr
                      clear hr
                      obtain ⟨x64, rfl, hr⟩ := hq
                      refine wa_step (v := (.i .i64 x64)) (a_ld rfl e64) ?_
                      have hq := forceI_inv hr
                      clear hr
                      obtain ⟨x65, e65, hr⟩ := hq
                      refine wa_step (v := (.i .i64 x65)) (a_pure (p_bin rfl rfl (b_mul.trans (ci e65)))) ?_
                      have hq := forceI_inv hr
                      clear hr
                      obtain ⟨x66, e66, hr⟩ := hq
                      refine wa_step (v := (.i .i64 x66)) (a_pure (p_bin rfl rfl (b_add.trans (ci e66)))) ?_
                      refine wa_step (v := (.i .i64 x66)) (a_pure (p_mv rfl)) ?_
                      refine wa_nil ?_
                      refine ⟨m_4, rfl, ?_⟩
                      refine bk_norm ?_
                      refine nx_norm ?_
                      refine w_ops ?_
                      refine wo_step (v := (.i .i64 x16)) (s_pure (p_mv g16)) ?_
                      have hq := forceI_inv hr
                      clear hr
                      obtain ⟨x52, e52, hr⟩ := hq
                      refine wo_step (v := (.i .i64 x52)) (s_pure (p_bin rfl rfl (b_add.trans (ci e52)))) ?_
                      refine wo_step (v := (.i .i64 x52)) (s_pure (p_mv rfl)) ?_
                      refine wo_nil ?_
                      cases hr
                      exact ⟨_, _, rfl, rfl, rfl, gl rfl, gl rfl, gl g0, gl g1, gl g2, gl g10, gl g11, gl g12, gl g13, gl g14⟩
                    · refine w_condF rfl ?_
                      refine w_exit ?_
                      refine nx_exit ?_
                      cases hr
                      exact ⟨_, _, rfl, ne_norm_exit, rfl, rfl, gl g15, gl g0, gl g1, gl g2, gl g10, gl g11, gl g12, gl g13, gl g14⟩
                  · obtain ⟨x15_1, ho⟩ : ∃ z, z = o_2 := ⟨_, rfl⟩
                    subst ho
                    rintro _ mm_3 t_5 ⟨rfl, rfl, g15, g0, g1, g2, g10, g11, g12, g13, g14⟩
                    refine bk_hit ?_
                    refine nx_norm ?_
                    refine w_seq ?_
                    refine w_seq ?_
                    refine w_ops ?_
                    refine wo_step (v := v1) (s_pure (p_mv g1)) ?_
                    refine wo_step (v := (.i .i64 x14)) (s_pure (p_mv g14)) ?_
                    have hq := bindO_inv hr
                    clear hr
                    obtain ⟨v69, e69, hr⟩ := hq
                    refine wo_step (v := v69) (s_pure (o_ixS rfl rfl e69)) ?_
                    have hq := bindO_inv hr
                    clear hr
                    obtain ⟨v70, e70, hr⟩ := hq
                    have hq := asI_inv hr
                    clear hr
                    obtain ⟨x70, rfl, hr⟩ := hq
                    refine wo_step (v := (.i .i64 x70)) (s_ld rfl e70) ?_
                    refine wo_step (v := (.i .i64 x15_1)) (s_pure (p_mv g15)) ?_
                    have hq := forceI_inv hr
                    clear hr
                    obtain ⟨x72, e72, hr⟩ := hq
                    refine wo_step (v := (.i .i64 x72)) (s_pure (p_bin rfl rfl (b_mul.trans (ci e72)))) ?_
                    have hq := forceB_inv hr
                    clear hr
                    obtain ⟨c73, e73, hr⟩ := hq
                    refine wo_step (v := (.b c73)) (s_pure (p_bin rfl rfl (b_gtr.trans (cb e73)))) ?_
                    refine wo_nil ?_
                    refine nx_norm ?_
                    have hq := cond_inv hr
                    clear hr
                    rcases hq with ⟨rfl, hr⟩ | ⟨rfl, hr⟩
                    · refine w_condT rfl ?_
                      refine w_exit ?_
                      refine nx_exit ?_
                      refine bk_hit ?_
                      cases hr
                      exact ⟨_, _, rfl, rfl, rfl, gl g11, gl g0, gl g1, gl g2, gl g10, gl g12, gl g13, gl g14⟩
                    · refine w_condF rfl ?_
                      refine w_skip ?_
                      refine nx_norm ?_
                      refine w_seq ?_
                      refine w_ops ?_
                      refine wo_step (v := (.i .i64 x11_1)) (s_pure (p_mv g11)) ?_
                      have hq := forceI_inv hr
                      clear hr
                      obtain ⟨x75, e75, hr⟩ := hq
                      refine wo_step (v := (.i .i64 x75)) (s_pure (p_bin rfl rfl (b_add.trans (ci e75)))) ?_
                      refine wo_step (v := (.i .i64 x75)) (s_pure (p_mv rfl)) ?_
                      refine wo_nil ?_
                      refine nx_norm ?_
                      refine w_seq ?_
                      refine w_ops ?_
                      refine wo_step (v := (.i .i64 0)) (s_pure (p_mv rfl)) ?_
                      refine wo_nil ?_
                      refine nx_norm ?_
                      refine w_block ?_
                      have hq := bindO_inv hr
                      clear hr
                      obtain ⟨o_3, hl, hr⟩ := hq
                      obtain ⟨n, hl⟩ := hM.loop _ _ _ hl
                      refine jp_mono (w_loop _ (g28_I5 v0 v1 x2 v34 x75 x12 x11 x14) (g28_J5 v0 v1 x2 v34 x75 x12 x11 x14) ?_ n _ _ _ _ hl ⟨rfl, gl rfl, gl g0, gl g1, gl g2, gl g10, gl rfl, gl g12, gl g13, gl g14⟩) ?_
                      · clear hr hl
                        intro s mm_2 t_6 o hi hr
                        obtain ⟨x17, m_5⟩ := s
                        obtain ⟨rfl, g17, g0, g1, g2, g10, g11, g12, g13, g14⟩ := hi
                        unfold g28_b5 at hr
                        refine w_seq ?_
                        refine w_seq ?_
                        refine w_ops ?_
                        refine wo_step (v := (.i .i64 x17)) (s_pure (p_mv g17)) ?_
                        refine wo_step (v := v34) (s_pure (p_mv g10)) ?_
                        have hq := bindO_inv hr
                        clear hr
                        obtain ⟨v78, e78, hr⟩ := hq
                        have hq := asI_inv hr
                        clear hr
                        obtain ⟨x78, rfl, hr⟩ := hq
                        refine wo_step (v := (.i .i64 x78)) (s_pure (o_len rfl e78)) ?_
                        have hq := forceB_inv hr
                        clear hr
                        obtain ⟨c79, e79, hr⟩ := hq
                        refine wo_step (v := (.b c79)) (s_pure (p_bin rfl rfl (b_lss.trans (cb e79)))) ?_
                        refine wo_nil ?_
                        refine nx_norm ?_
                        have hq := cond_inv hr
                        clear hr
                        rcases hq with ⟨rfl, hr⟩ | ⟨rfl, hr⟩
                        · refine w_condT rfl ?_
                          refine w_skip ?_
                          refine nx_norm ?_
                          refine w_seq ?_
                          refine w_block ?_
                          refine w_any ?_
                          refine wa_step (v := v34) (a_pure (p_mv g10)) ?_
                          refine wa_step (v := (.i .i64 x17)) (a_pure (p_mv g17)) ?_
                          have hq := bindO_inv hr
                          clear hr
                          obtain ⟨v84, e84, hr⟩ := hq
                          refine wa_step (v := v84) (a_pure (o_ixS rfl rfl e84)) ?_
                          have hq := bindO_inv hr
                          clear hr
                          obtain ⟨v85, e85, hr⟩ := hq
                          have hq := asI_inv hr
                          clear hr
                          obtain ⟨x85, rfl, hr⟩ := hq
                          refine wa_step (v := (.i .i64 x85)) (a_ld rfl e85) ?_
                          refine wa_step (v := v1) (a_pure (p_mv g1)) ?_
                          refine wa_step (v := (.i .i64 x14)) (a_pure (p_mv g14)) ?_
                          have hq := bindO_inv hr
                          clear hr
                          obtain ⟨v88, e88, hr⟩ := hq
                          refine wa_step (v := v88) (a_pure (o_ixS rfl rfl e88)) ?_
                          have hq := bindO_inv hr
                          clear hr
                          obtain ⟨v89, e89, hr⟩ := hq
                          have hq := asI_inv hr
                          clear hr
                          obtain ⟨x89, rfl, hr⟩ := hq
                          refine wa_step (v := (.i .i64 x89)) (a_ld rfl e89) ?_
                          refine wa_step (v := v0) (a_pure (p_mv g0)) ?_
                          refine wa_step (v := (.i .i64 x14)) (a_pure (p_mv g14)) ?_
                          have hq := bindO_inv hr
                          clear hr
                          obtain ⟨v92, e92, hr⟩ := hq
                          refine wa_step (v := v92) (a_pure (o_ixS rfl rfl e92)) ?_
                          have hq := bindO_inv hr
                          clear hr
                          obtain ⟨v93, e93, hr⟩ := hq
                          refine wa_step (v := v93) (a_ld rfl e93) ?_
                          refine wa_step (v := (.i .i64 x17)) (a_pure (p_mv g17)) ?_
                          have hq := bindO_inv hr
                          clear hr
                          obtain ⟨v95, e95, hr⟩ := hq
                          refine wa_step (v := v95) (a_pure (o_ixS rfl rfl e95)) ?_
                          have hq := bindO_inv hr
                          clear hr
                          obtain ⟨v96, e96, hr⟩ := hq
                          have hq := asI_inv hr
                          clear hr
                          obtain ⟨x96, rfl, hr⟩ := hq
                          refine wa_step (v := (.i .i64 x96)) (a_ld rfl e96) ?_
                          have hq := forceI_inv hr
                          clear hr
                          obtain ⟨x97, e97, hr⟩ := hq
                          refine wa_step (v := (.i .i64 x97)) (a_pure (p_bin rfl rfl (b_mul.trans (ci e97)))) ?_
                          have hq := forceI_inv hr
                          clear hr
                          obtain ⟨x98, e98, hr⟩ := hq
                          refine wa_step (v := (.i .i64 x98)) (a_pure (p_bin rfl rfl (b_add.trans (ci e98)))) ?_
                          have hq := bindO_inv hr
                          clear hr
                          obtain ⟨v99, e99, hr⟩ := hq
                          refine wa_step (v := v99) (a_pure (o_ixS rfl rfl e99)) ?_
                          have hq := asP_inv hr
                          clear hr
                          obtain ⟨qs, eqs, hr⟩ := hq
                          refine wa_stepN (a_st (Eq.trans (b := v99) rfl eqs) rfl rfl) ?_
                          have hq := bindO_inv hr
                          clear hr
                          obtain ⟨m_6, ew, hr⟩ := hq
                          refine wa_nil ?_
                          refine ⟨m_6, ew, ?_⟩
                          refine bk_norm ?_
                          refine nx_norm ?_
                          refine w_ops ?_
                          refine wo_step (v := (.i .i64 x17)) (s_pure (p_mv g17)) ?_
                          have hq := forceI_inv hr
                          clear hr
                          obtain ⟨x81, e81, hr⟩ := hq
                          refine wo_step (v := (.i .i64 x81)) (s_pure (p_bin rfl rfl (b_add.trans (ci e81)))) ?_
                          refine wo_step (v := (.i .i64 x81)) (s_pure (p_mv rfl)) ?_
                          refine wo_nil ?_
                          cases hr
                          exact ⟨_, _, rfl, rfl, rfl, gl rfl, gl g0, gl g1, gl g2, gl g10, gl g11, gl g12, gl g13, gl g14⟩
                        · refine w_condF rfl ?_
                          refine w_exit ?_
                          refine nx_exit ?_
                          cases hr
                          exact ⟨_, _, rfl, ne_norm_exit, rfl, rfl, gl g0, gl g1, gl g2, gl g10, gl g11, gl g12, gl g13, gl g14⟩
                      · obtain ⟨m_7, ho⟩ : ∃ z, z = o_3 := ⟨_, rfl⟩
                        subst ho
                        rintro _ mm_1 t_7 ⟨rfl, rfl, g0, g1, g2, g10, g11, g12, g13, g14⟩
                        refine bk_hit ?_
                        refine bk_norm ?_
                        cases hr
                        exact ⟨_, _, rfl, rfl, rfl, gl g11, gl g0, gl g1, gl g2, gl g10, gl g12, gl g13, gl g14⟩
                · have hr := hk
                  clear hk
                  obtain ⟨x11_2, m_8⟩ := o_1
                  rintro _ mm_5 t_8 ⟨rfl, rfl, g11, g0, g1, g2, g10, g12, g13, g14⟩
                  refine nx_norm ?_
                  refine w_ops ?_
                  refine wo_step (v := (.i .i64 x14)) (s_pure (p_mv g14)) ?_
                  have hq := forceI_inv hr
                  clear hr
                  obtain ⟨x46, e46, hr⟩ := hq
                  refine wo_step (v := (.i .i64 x46)) (s_pure (p_bin rfl rfl (b_add.trans (ci e46)))) ?_
                  refine wo_step (v := (.i .i64 x46)) (s_pure (p_mv rfl)) ?_
                  refine wo_nil ?_
                  cases hr
                  exact ⟨_, _, rfl, rfl, rfl, gl g11, gl rfl, gl g0, gl g1, gl g2, gl g10, gl g12, gl g13⟩
              · refine w_condF rfl ?_
                refine w_exit ?_
                refine nx_exit ?_
                cases hr
                exact ⟨_, _, rfl, ne_norm_exit, rfl, rfl, gl g11, gl g0, gl g1, gl g2, gl g10, gl g12, gl g13⟩
            · obtain ⟨x11_3, m_9⟩ := o_4
              rintro _ mm_6 t_9 ⟨rfl, rfl, g11, g0, g1, g2, g10, g12, g13⟩
              refine bk_hit ?_
              refine nx_norm ?_
              refine w_seq ?_
              refine w_ops ?_
              refine wo_step (v := (.i .i64 x11_3)) (s_pure (p_mv g11)) ?_
              refine wo_step (v := (.i .i64 x11)) (s_pure (p_mv g13)) ?_
              have hq := forceB_inv hr
              clear hr
              obtain ⟨c102, e102, hr⟩ := hq
              refine wo_step (v := (.b c102)) (s_pure (p_bin rfl rfl (b_eql.trans (cb e102)))) ?_
              refine wo_nil ?_
              refine nx_norm ?_
              have hq := cond_inv hr
              clear hr
              rcases hq with ⟨rfl, hr⟩ | ⟨rfl, hr⟩
              · refine w_condT rfl ?_
                refine w_seq ?_
                refine w_ops ?_
                refine wo_step (v := v34) (s_pure (p_mv g10)) ?_
                refine wo_step (v := (.i .i64 x11_3)) (s_pure (p_mv g11)) ?_
                refine wo_step (v := v34) (s_pure (p_mv rfl)) ?_
                refine wo_step (v := (.i .i64 x11_3)) (s_pure (p_mv rfl)) ?_
                refine wo_step (v := (.i .i64 0)) (s_pure (p_mv rfl)) ?_
                refine wo_nil ?_
                refine nx_norm ?_
                refine w_ret ?_
                refine bk_ret ?_
                refine nx_ret ?_
                cases hr
                exact ⟨_, _, rfl, ne_norm_ret, rfl, rfl, gl rfl, gl rfl, gl rfl⟩
              · refine w_condF rfl ?_
                refine w_skip ?_
                refine bk_norm ?_
                refine nx_norm ?_
                refine w_ops ?_
                refine wo_step (v := (.i .i64 x12)) (s_pure (p_mv g12)) ?_
                have hq := forceI_inv hr
                clear hr
                obtain ⟨x39, e39, hr⟩ := hq
                refine wo_step (v := (.i .i64 x39)) (s_pure (p_bin rfl rfl (b_add.trans (ci e39)))) ?_
                refine wo_step (v := (.i .i64 x39)) (s_pure (p_mv rfl)) ?_
                refine wo_nil ?_
                cases hr
                exact ⟨_, _, rfl, rfl, rfl, gl g11, gl rfl, gl g0, gl g1, gl g2, gl g10⟩
          · refine w_condF rfl ?_
            refine w_exit ?_
            refine nx_exit ?_
            cases hr
            exact ⟨_, _, rfl, ne_norm_exit, rfl, rfl⟩
        · rcases o_5 with o_5 | o_5
          · obtain ⟨m_10, ho⟩ : ∃ z, z = o_5 := ⟨_, rfl⟩
            subst ho
            rintro _ mm_8 t_10 ⟨rfl, rfl⟩
            refine bk_hit ?_
            refine nx_norm ?_
            refine w_seq ?_
            refine w_ops ?_
            refine wo_step (v := AVal.nsl) (s_pure (p_mv rfl)) ?_
            refine wo_step (v := (.i .i64 0)) (s_pure (p_mv rfl)) ?_
            refine wo_step (v := (.i .i64 10)) (s_pure (p_mv rfl)) ?_
            refine wo_nil ?_
            refine nx_norm ?_
            refine w_ret ?_
            exact qf ret_ok (rt rfl (rt rfl (rt rfl rn))) hr
          · obtain ⟨v6, x7, x8, m_11⟩ := o_5
            rintro _ mm_9 t_11 ⟨rfl, rfl, g6, g7, g8⟩
            refine bk_ret ?_
            refine nx_ret ?_
            exact qf ret_ok (rt g6 (rt g7 (rt g8 rn))) hr

/- dibber/luck.Can -/

def g29 (M : Means) (ro : List ABlk) (x0 : Int) (v1 : AVal) (m0 : Mm) : Option (AVal × Heap × Nat × Nat) :=
  bindP (callM M.call m0 58 [(.i .i64 x0), v1]) fun v8 m_1 =>
  asB v8 fun c8 =>
  forceB (!c8) fun c9 =>
  cond c9 (
    finM m0.h.length (tupA [(.i .i64 0), (.i .i64 2)]) m_1) (
    bindP (callM M.call m_1 59 [v1]) fun v11 m_2 =>
    asI .i64 v11 fun x11 =>
    forceB (ltI x11 0) fun c12 =>
    cond c12 (
      finM m0.h.length (tupA [(.i .i64 0), (.i .i64 0)]) m_2) (
      finM m0.h.length (tupA [(.i .i64 1), (.i .i64 0)]) m_2))

theorem g29_ok {ro : List ABlk} {O : Caller} {M : Means} (hM : M.Ok ⟨F, O⟩ ro) {x0 v1 h r} (ho : O 29 [(.i .i64 x0), v1] h = none) (hr : g29 M ro x0 v1 ⟨h, h.length, h.length⟩ = some r) : callX ⟨F, O⟩ ro 29 [(.i .i64 x0), v1] h = some r := by
  refine callX_of (F := ⟨F, O⟩) (fn := fn29) (g := g29 M ro x0 v1) ho rfl rfl hr ?_
  clear ho
  clear hr
  intro m0 t0 ht hr
  have g0 : t0.get 0 = (.i .i64 x0) := ht 0
  have g1 : t0.get 1 = v1 := ht 1
  clear ht
  unfold g29 at hr
  refine w_seq ?_
  refine w_ops ?_
  refine wo_step (v := (.i .i64 0)) (s_pure (p_mv rfl)) ?_
  refine wo_step (v := (.i .i64 0)) (s_pure (p_mv rfl)) ?_
  refine wo_nil ?_
  refine nx_norm ?_
  refine w_seq ?_
  refine w_seq ?_
  refine w_ops ?_
  refine wo_step (v := (.i .i64 x0)) (s_pure (p_mv g0)) ?_
  refine wo_step (v := v1) (s_pure (p_mv g1)) ?_
  have hq := bindP_inv hr
  clear hr
  obtain ⟨v8, m_1, e8, hr⟩ := hq
  have hq := asB_inv hr
  clear hr
  obtain ⟨c8, rfl, hr⟩ := hq
  refine wo_step (v := (.b c8)) (s_call (mc rfl (mc rfl mn)) (callM_le hM.call e8)) ?_
  have hq := forceB_inv hr
  clear hr
  obtain ⟨c9, e9, hr⟩ := hq
  refine wo_step (v := (.b c9)) (s_pure ((p_not rfl).trans (cb e9))) ?_
  refine wo_nil ?_
  refine nx_norm ?_
  have hq := cond_inv hr
  clear hr
  rcases hq with ⟨rfl, hr⟩ | ⟨rfl, hr⟩
  · refine w_condT rfl ?_
    refine w_seq ?_
    refine w_ops ?_
    refine wo_step (v := (.i .i64 0)) (s_pure (p_mv rfl)) ?_
    refine wo_step (v := (.i .i64 2)) (s_pure (p_mv rfl)) ?_
    refine wo_nil ?_
    refine nx_norm ?_
    refine w_ret ?_
    refine nx_ret ?_
    exact qf ret_ok (rt rfl (rt rfl rn)) hr
  · refine w_condF rfl ?_
    refine w_skip ?_
    refine nx_norm ?_
    refine w_seq ?_
    refine w_seq ?_
    refine w_ops ?_
    refine wo_step (v := v1) (s_pure (p_mv g1)) ?_
    have hq := bindP_inv hr
    clear hr
    obtain ⟨v11, m_2, e11, hr⟩ := hq
    have hq := asI_inv hr
    clear hr
    obtain ⟨x11, rfl, hr⟩ := hq
    refine wo_step (v := (.i .i64 x11)) (s_call (mc rfl mn) (callM_le hM.call e11)) ?_
    have hq := forceB_inv hr
    clear hr
    obtain ⟨c12, e12, hr⟩ := hq
    refine wo_step (v := (.b c12)) (s_pure (p_bin rfl rfl (b_lss.trans (cb e12)))) ?_
    refine wo_nil ?_
    refine nx_norm ?_
    have hq := cond_inv hr
    clear hr
    rcases hq with ⟨rfl, hr⟩ | ⟨rfl, hr⟩
    · refine w_condT rfl ?_
      refine w_seq ?_
      refine w_ops ?_
      refine wo_step (v := (.i .i64 0)) (s_pure (p_mv rfl)) ?_
      refine wo_step (v := (.i .i64 0)) (s_pure (p_mv rfl)) ?_
      refine wo_nil ?_
      refine nx_norm ?_
      refine w_ret ?_
      refine nx_ret ?_
      exact qf ret_ok (rt rfl (rt rfl rn)) hr
    · refine w_condF rfl ?_
      refine w_skip ?_
      refine nx_norm ?_
      refine w_seq ?_
      refine w_ops ?_
      refine wo_step (v := (.i .i64 1)) (s_pure (p_mv rfl)) ?_
      refine wo_step (v := (.i .i64 0)) (s_pure (p_mv rfl)) ?_
      refine wo_nil ?_
      refine nx_norm ?_
      refine w_ret ?_
      exact qf ret_ok (rt rfl (rt rfl rn)) hr

/- dibber/luck.Guess -/
abbrev g31_J0 (v1 : AVal) (v2 : AVal) (v6 : AVal) (x16 : Int) (o : Bool × Mm) (m1 : Mm) (t1 : Tr) : Prop :=
  match o with
  | (c32, m_4) => m_4 = m1 ∧ t1.get 32 = (.b c32) ∧ t1.get 1 = v1 ∧ t1.get 2 = v2 ∧ t1.get 6 = v6 ∧ t1.get 8 = (.i .i64 x16)
abbrev g31_I1 (v6 : AVal) (v2 : AVal) (x38 : Int) (s : AVal × Int × Mm) (m1 : Mm) (t1 : Tr) : Prop :=
  match s with
  | (v1_1, x39, m_8) => m_8 = m1 ∧ t1.get 1 = v1_1 ∧ t1.get 39 = (.i .i64 x39) ∧ t1.get 6 = v6 ∧ t1.get 37 = v2 ∧ t1.get 38 = (.i .i64 x38)
abbrev g31_J1 (v6 : AVal) (v2 : AVal) (x38 : Int) (o : (AVal × Mm)) (e : AExit) (m1 : Mm) (t1 : Tr) : Prop :=
  match o with
  | (y1, mo) => e = (.exit 0) ∧ mo = m1 ∧ t1.get 1 = y1 ∧ t1.get 6 = v6
def g31_b1 (M : Means) (ro : List ABlk) (v6 : AVal) (v2 : AVal) (x38 : Int) (v1_1 : AVal) (x39 : Int) (m_8 : Mm) : Option ((AVal × Int × Mm) ⊕ ((AVal × Mm))) :=
  forceB (ltI x39 x38) fun c40 =>
  cond c40 (
    bindO (evP .e (.ixS 1 (.c v2) (.c (.i .i64 x39)))) fun v41 =>
    bindO (ldM ro m_8 true 1 v41) fun v42 =>
    asI .i64 v42 fun x42 =>
    bindP (callM M.call m_8 62 [v1_1, (.i .i64 x42)]) fun v45 m_9 =>
    forceI (wr .i64 (x39 + 1)) fun x46 =>
    some (.inl (v45, x46, m_9))) (
    some (.inr (v1_1, m_8)))
def g31 (M : Means) (ro : List ABlk) (x0 : Int) (v1 : AVal) (v2 : AVal) (m0 : Mm) : Option (AVal × Heap × Nat × Nat) :=
  bindP (stepM ro m0 (.al 42 [(AVal.i IntKind.i64 0), (AVal.i IntKind.i64 0)])) fun v6 m_1 =>
  bindP (callM M.call m_1 29 [(.i .i64 x0), v1]) fun v15 m_2 =>
  bindO (evP .e (.ext 0 (.c v15))) fun v16 =>
  asI .i64 v16 fun x16 =>
  bindO (evP .e (.ext 1 (.c v15))) fun v17 =>
  asI .i64 v17 fun x17 =>
  forceB (!eqI x17 0) fun c19 =>
  cond c19 (
    bindO ((fillA [(AVal.i IntKind.i64 0), (AVal.i IntKind.i64 0)] []).map AVal.agg) fun v20 =>
    bindP (stepM ro m_2 (.st 2 (.c v6) (.c v20))) fun vn m_3 =>
    bindO (ldM ro m_3 false 2 v6) fun vr =>
    finM m0.h.length (tupA [vr, (.i .i64 x17)]) m_3) (
    bindO (evP .e (.len false (.c v2))) fun v23 =>
    asI .i64 v23 fun x23 =>
    forceB (!ltI x23 x0) fun c25 =>
    bindO (cond c25 (
      some (true, m_2)) (
      bindO (evP .e (.len false (.c v2))) fun v29 =>
      asI .i64 v29 fun x29 =>
      bindP (callM M.call m_2 61 [v2, (.i .i64 x29)]) fun v30 m_5 =>
      asB v30 fun c30 =>
      forceB (!c30) fun c31 =>
      some (c31, m_5))) fun ⟨c32, m_4⟩ =>
    cond c32 (
      bindO ((fillA [(AVal.i IntKind.i64 0), (AVal.i IntKind.i64 0)] []).map AVal.agg) fun v33 =>
      bindP (stepM ro m_4 (.st 2 (.c v6) (.c v33))) fun vn_1 m_6 =>
      bindO (ldM ro m_6 false 2 v6) fun vr_1 =>
      finM m0.h.length (tupA [vr_1, (.i .i64 2)]) m_6) (
      forceB (eqI x16 0) fun c35 =>
      cond c35 (
        bindO ((fillA [(AVal.i IntKind.i64 0), (AVal.i IntKind.i64 0)] []).map AVal.agg) fun v36 =>
        bindP (stepM ro m_4 (.st 2 (.c v6) (.c v36))) fun vn_2 m_7 =>
        bindO (ldM ro m_7 false 2 v6) fun vr_2 =>
        finM m0.h.length (tupA [vr_2, (.i .i64 10)]) m_7) (
        bindO (evP .e (.len false (.c v2))) fun v38 =>
        asI .i64 v38 fun x38 =>
        bindO (M.loop (S := AVal × Int × Mm) (R := (AVal × Mm)) (fun s => g31_b1 M ro v6 v2 x38 s.1 s.2.1 s.2.2) (v1, 0, m_4)) fun ⟨v1_2, m_10⟩ =>
        bindP (callM M.call m_10 64 [v1_2]) fun v48 m_11 =>
        bindO (evP .e (.ext 0 (.c v48))) fun v49 =>
        asI .i64 v49 fun x49 =>
        bindO (evP .e (.ext 1 (.c v48))) fun v50 =>
        asI .i64 v50 fun x50 =>
        bindP (callM M.call m_11 63 [(.i .i64 x49), (.i .i64 x50)]) fun v51 m_12 =>
        bindP (stepM ro m_12 (.st 2 (.c v6) (.c v51))) fun vn_3 m_13 =>
        bindO (ldM ro m_13 false 2 v6) fun vr_3 =>
        finM m0.h.length (tupA [vr_3, (.i .i64 0)]) m_13)))

theorem g31_ok {ro : List ABlk} {O : Caller} {M : Means} (hM : M.Ok ⟨F, O⟩ ro) {x0 v1 v2 h r} (ho : O 31 [(.i .i64 x0), v1, v2] h = none) (hr : g31 M ro x0 v1 v2 ⟨h, h.length, h.length⟩ = some r) : callX ⟨F, O⟩ ro 31 [(.i .i64 x0), v1, v2] h = some r := by
  refine callX_of (F := ⟨F, O⟩) (fn := fn31) (g := g31 M ro x0 v1 v2) ho rfl rfl hr ?_
  clear ho
  clear hr
  intro m0 t0 ht hr
  have g0 : t0.get 0 = (.i .i64 x0) := ht 0
  have g1 : t0.get 1 = v1 := ht 1
  have g2 : t0.get 2 = v2 := ht 2
  clear ht
  unfold g31 at hr
  refine w_seq ?_
  refine w_ops ?_
  have hq := bindP_inv hr
  clear hr
  obtain ⟨v6, m_1, e6, hr⟩ := hq
  refine wo_step (v := v6) (s_al e6) ?_
  refine wo_step (v := (.i .i64 0)) (s_pure (p_mv rfl)) ?_
  refine wo_nil ?_
  refine nx_norm ?_
  refine w_seq ?_
  refine w_ops ?_
  refine wo_step (v := (.i .i64 x0)) (s_pure (p_mv g0)) ?_
  refine wo_step (v := v1) (s_pure (p_mv g1)) ?_
  have hq := bindP_inv hr
  clear hr
  obtain ⟨v15, m_2, e15, hr⟩ := hq
  refine wo_step (v := v15) (s_call (mc rfl (mc rfl mn)) (callM_le hM.call e15)) ?_
  refine wo_step (v := v15) (s_pure (p_mv rfl)) ?_
  have hq := bindO_inv hr
  clear hr
  obtain ⟨v16, e16, hr⟩ := hq
  have hq := asI_inv hr
  clear hr
  obtain ⟨x16, rfl, hr⟩ := hq
  refine wo_step (v := (.i .i64 x16)) (s_pure (o_ext rfl e16)) ?_
  have hq := bindO_inv hr
  clear hr
  obtain ⟨v17, e17, hr⟩ := hq
  have hq := asI_inv hr
  clear hr
  obtain ⟨x17, rfl, hr⟩ := hq
  refine wo_step (v := (.i .i64 x17)) (s_pure (o_ext rfl e17)) ?_
  refine wo_step (v := (.i .i64 x16)) (s_pure (p_mv rfl)) ?_
  refine wo_step (v := (.i .i64 x17)) (s_pure (p_mv rfl)) ?_
  refine wo_nil ?_
  refine nx_norm ?_
  refine w_seq ?_
  refine w_seq ?_
  refine w_ops ?_
  refine wo_step (v := (.i .i64 x17)) (s_pure (p_mv rfl)) ?_
  have hq := forceB_inv hr
  clear hr
  obtain ⟨c19, e19, hr⟩ := hq
  refine wo_step (v := (.b c19)) (s_pure (p_bin rfl rfl (b_neq.trans (cb e19)))) ?_
  refine wo_nil ?_
  refine nx_norm ?_
  have hq := cond_inv hr
  clear hr
  rcases hq with ⟨rfl, hr⟩ | ⟨rfl, hr⟩
  · refine w_condT rfl ?_
    refine w_seq ?_
    refine w_ops ?_
    have hq := bindO_inv hr
    clear hr
    obtain ⟨v20, e20, hr⟩ := hq
    refine wo_step (v := v20) (s_pure (o_build qn e20)) ?_
    refine wo_step (v := (.i .i64 x17)) (s_pure (p_mv rfl)) ?_
    have hq := bindP_inv hr
    clear hr
    obtain ⟨vn, m_3, en, hr⟩ := hq
    refine wo_stepN (s_st rfl rfl en) ?_
    refine wo_step (v := (.i .i64 x17)) (s_pure (p_mv rfl)) ?_
    refine wo_nil ?_
    refine nx_norm ?_
    refine w_ret ?_
    refine nx_ret ?_
    have hq := bindO_inv hr
    clear hr
    obtain ⟨vr, er, hr⟩ := hq
    exact qf ret_ok (rc rfl er (rt rfl rn)) hr
  · refine w_condF rfl ?_
    refine w_skip ?_
    refine nx_norm ?_
    refine w_seq ?_
    refine w_seq ?_
    refine w_ops ?_
    refine wo_step (v := v2) (s_pure (p_mv g2)) ?_
    have hq := bindO_inv hr
    clear hr
    obtain ⟨v23, e23, hr⟩ := hq
    have hq := asI_inv hr
    clear hr
    obtain ⟨x23, rfl, hr⟩ := hq
    refine wo_step (v := (.i .i64 x23)) (s_pure (o_len rfl e23)) ?_
    refine wo_step (v := (.i .i64 x0)) (s_pure (p_mv g0)) ?_
    have hq := forceB_inv hr
    clear hr
    obtain ⟨c25, e25, hr⟩ := hq
    refine wo_step (v := (.b c25)) (s_pure (p_bin rfl rfl (b_geq.trans (cb e25)))) ?_
    refine wo_step (v := (.b c25)) (s_pure (p_mv rfl)) ?_
    have hq := bindO_inv hr
    clear hr
    obtain ⟨o, hr, hk⟩ := hq
    refine wo_join 6 (g31_J0 v1 v2 v6 x16 o) ?_ ?_
    · clear hk
      have hq := cond_inv hr
      clear hr
      rcases hq with ⟨rfl, hr⟩ | ⟨rfl, hr⟩
      · refine wo_skip (v := (.b true)) rfl rfl ?_
        refine wo_skip (v := (.b true)) rfl rfl ?_
        refine wo_skip (v := (.b true)) rfl rfl ?_
        refine wo_skip (v := (.b true)) rfl rfl ?_
        refine wo_skip (v := (.b true)) rfl rfl ?_
        refine wo_step (v := (.b true)) (s_pure (p_pickT rfl rfl)) ?_
        refine wo_nil ?_
        cases hr
        exact ⟨_, _, rfl, rfl, gl rfl, gl g1, gl g2, gl rfl, gl rfl⟩
      · refine wo_take (v := v2) rfl (s_pure (p_mv g2)) ?_
        refine wo_take (v := v2) rfl (s_pure (p_mv g2)) ?_
        have hq := bindO_inv hr
        clear hr
        obtain ⟨v29, e29, hr⟩ := hq
        have hq := asI_inv hr
        clear hr
        obtain ⟨x29, rfl, hr⟩ := hq
        refine wo_take (v := (.i .i64 x29)) rfl (s_pure (o_len rfl e29)) ?_
        have hq := bindP_inv hr
        clear hr
        obtain ⟨v30, m_5, e30, hr⟩ := hq
        have hq := asB_inv hr
        clear hr
        obtain ⟨c30, rfl, hr⟩ := hq
        refine wo_take (v := (.b c30)) rfl (s_call (mc rfl (mc rfl mn)) (callM_le hM.call e30)) ?_
        have hq := forceB_inv hr
        clear hr
        obtain ⟨c31, e31, hr⟩ := hq
        refine wo_take (v := (.b c31)) rfl (s_pure ((p_not rfl).trans (cb e31))) ?_
        refine wo_step (v := (.b c31)) (s_pure (p_pickF rfl rfl)) ?_
        refine wo_nil ?_
        cases hr
        exact ⟨_, _, rfl, rfl, gl rfl, gl g1, gl g2, gl rfl, gl rfl⟩
    · clear hr
      have hr := hk
      clear hk
      obtain ⟨c32, m_4⟩ := o
      rintro mm t_1 ⟨rfl, g32, g1, g2, g6, g8⟩
      refine wo_nil ?_
      refine nx_norm ?_
      have hq := cond_inv hr
      clear hr
      rcases hq with ⟨rfl, hr⟩ | ⟨rfl, hr⟩
      · refine w_condT g32 ?_
        refine w_seq ?_
        refine w_ops ?_
        have hq := bindO_inv hr
        clear hr
        obtain ⟨v33, e33, hr⟩ := hq
        refine wo_step (v := v33) (s_pure (o_build qn e33)) ?_
        have hq := bindP_inv hr
        clear hr
        obtain ⟨vn_1, m_6, en_1, hr⟩ := hq
        refine wo_stepN (s_st g6 rfl en_1) ?_
        refine wo_step (v := (.i .i64 2)) (s_pure (p_mv rfl)) ?_
        refine wo_nil ?_
        refine nx_norm ?_
        refine w_ret ?_
        refine nx_ret ?_
        have hq := bindO_inv hr
        clear hr
        obtain ⟨vr_1, er_1, hr⟩ := hq
        exact qf ret_ok (rc g6 er_1 (rt rfl rn)) hr
      · refine w_condF g32 ?_
        refine w_skip ?_
        refine nx_norm ?_
        refine w_seq ?_
        refine w_seq ?_
        refine w_ops ?_
        refine wo_step (v := (.i .i64 x16)) (s_pure (p_mv g8)) ?_
        have hq := forceB_inv hr
        clear hr
        obtain ⟨c35, e35, hr⟩ := hq
        refine wo_step (v := (.b c35)) (s_pure (p_bin rfl rfl (b_eql.trans (cb e35)))) ?_
        refine wo_nil ?_
        refine nx_norm ?_
        have hq := cond_inv hr
        clear hr
        rcases hq with ⟨rfl, hr⟩ | ⟨rfl, hr⟩
        · refine w_condT rfl ?_
          refine w_seq ?_
          refine w_ops ?_
          have hq := bindO_inv hr
          clear hr
          obtain ⟨v36, e36, hr⟩ := hq
          refine wo_step (v := v36) (s_pure (o_build qn e36)) ?_
          have hq := bindP_inv hr
          clear hr
          obtain ⟨vn_2, m_7, en_2, hr⟩ := hq
          refine wo_stepN (s_st g6 rfl en_2) ?_
          refine wo_step (v := (.i .i64 10)) (s_pure (p_mv rfl)) ?_
          refine wo_nil ?_
          refine nx_norm ?_
          refine w_ret ?_
          refine nx_ret ?_
          have hq := bindO_inv hr
          clear hr
          obtain ⟨vr_2, er_2, hr⟩ := hq
          exact qf ret_ok (rc g6 er_2 (rt rfl rn)) hr
        · refine w_condF rfl ?_
          refine w_skip ?_
          refine nx_norm ?_
          refine w_seq ?_
          refine w_seq ?_
          refine w_ops ?_
          refine wo_step (v := v2) (s_pure (p_mv g2)) ?_
          have hq := bindO_inv hr
          clear hr
          obtain ⟨v38, e38, hr⟩ := hq
          have hq := asI_inv hr
          clear hr
          obtain ⟨x38, rfl, hr⟩ := hq
          refine wo_step (v := (.i .i64 x38)) (s_pure (o_len rfl e38)) ?_
          refine wo_step (v := (.i .i64 0)) (s_pure (p_mv rfl)) ?_
          refine wo_nil ?_
          refine nx_norm ?_
          refine w_block ?_
          have hq := bindO_inv hr
          clear hr
          obtain ⟨o_1, hl, hr⟩ := hq
          obtain ⟨n, hl⟩ := hM.loop _ _ _ hl
          refine jp_mono (w_loop _ (g31_I1 v6 v2 x38) (g31_J1 v6 v2 x38) ?_ n _ _ _ _ hl ⟨rfl, gl g1, gl rfl, gl g6, gl rfl, gl rfl⟩) ?_
          · clear hr hl
            intro s mm_2 t_2 o hi hr
            obtain ⟨v1_1, x39, m_8⟩ := s
            obtain ⟨rfl, g1, g39, g6, g37, g38⟩ := hi
            unfold g31_b1 at hr
            refine w_seq ?_
            refine w_ops ?_
            have hq := forceB_inv hr
            clear hr
            obtain ⟨c40, e40, hr⟩ := hq
            refine wo_step (v := (.b c40)) (s_pure (p_bin g39 g38 (b_lss.trans (cb e40)))) ?_
            refine wo_nil ?_
            refine nx_norm ?_
            refine w_seq ?_
            have hq := cond_inv hr
            clear hr
            rcases hq with ⟨rfl, hr⟩ | ⟨rfl, hr⟩
            · refine w_condT rfl ?_
              refine w_skip ?_
              refine nx_norm ?_
              refine w_seq ?_
              refine w_block ?_
              refine w_seq ?_
              refine w_ops ?_
              have hq := bindO_inv hr
              clear hr
              obtain ⟨v41, e41, hr⟩ := hq
              refine wo_step (v := v41) (s_pure (o_ixS g37 g39 e41)) ?_
              have hq := bindO_inv hr
              clear hr
              obtain ⟨v42, e42, hr⟩ := hq
              have hq := asI_inv hr
              clear hr
              obtain ⟨x42, rfl, hr⟩ := hq
              refine wo_step (v := (.i .i64 x42)) (s_ld rfl e42) ?_
              refine wo_step (v := (.i .i64 x42)) (s_pure (p_mv rfl)) ?_
              refine wo_nil ?_
              refine nx_norm ?_
              refine w_ops ?_
              refine wo_step (v := v1_1) (s_pure (p_mv g1)) ?_
              refine wo_step (v := (.i .i64 x42)) (s_pure (p_mv rfl)) ?_
              have hq := bindP_inv hr
              clear hr
              obtain ⟨v45, m_9, e45, hr⟩ := hq
              refine wo_step (v := v45) (s_call (mc rfl (mc rfl mn)) (callM_le hM.call e45)) ?_
              refine wo_step (v := v45) (s_pure (p_mv rfl)) ?_
              refine wo_nil ?_
              refine bk_norm ?_
              refine nx_norm ?_
              refine w_ops ?_
              have hq := forceI_inv hr
              clear hr
              obtain ⟨x46, e46, hr⟩ := hq
              refine wo_step (v := (.i .i64 x46)) (s_pure (p_bin g39 rfl (b_add.trans (ci e46)))) ?_
              refine wo_step (v := (.i .i64 x46)) (s_pure (p_mv rfl)) ?_
              refine wo_nil ?_
              cases hr
              exact ⟨_, _, rfl, rfl, rfl, gl rfl, gl rfl, gl g6, gl g37, gl g38⟩
            · refine w_condF rfl ?_
              refine w_exit ?_
              refine nx_exit ?_
              cases hr
              exact ⟨_, _, rfl, ne_norm_exit, rfl, rfl, gl g1, gl g6⟩
          · obtain ⟨v1_2, m_10⟩ := o_1
            rintro _ mm_1 t_3 ⟨rfl, rfl, g1, g6⟩
            refine bk_hit ?_
            refine nx_norm ?_
            refine w_seq ?_
            refine w_ops ?_
            refine wo_step (v := v1_2) (s_pure (p_mv g1)) ?_
            have hq := bindP_inv hr
            clear hr
            obtain ⟨v48, m_11, e48, hr⟩ := hq
            refine wo_step (v := v48) (s_call (mc rfl mn) (callM_le hM.call e48)) ?_
            have hq := bindO_inv hr
            clear hr
            obtain ⟨v49, e49, hr⟩ := hq
            have hq := asI_inv hr
            clear hr
            obtain ⟨x49, rfl, hr⟩ := hq
            refine wo_step (v := (.i .i64 x49)) (s_pure (o_ext rfl e49)) ?_
            have hq := bindO_inv hr
            clear hr
            obtain ⟨v50, e50, hr⟩ := hq
            have hq := asI_inv hr
            clear hr
            obtain ⟨x50, rfl, hr⟩ := hq
            refine wo_step (v := (.i .i64 x50)) (s_pure (o_ext rfl e50)) ?_
            have hq := bindP_inv hr
            clear hr
            obtain ⟨v51, m_12, e51, hr⟩ := hq
            refine wo_step (v := v51) (s_call (mc rfl (mc rfl mn)) (callM_le hM.call e51)) ?_
            have hq := bindP_inv hr
            clear hr
            obtain ⟨vn_3, m_13, en_3, hr⟩ := hq
            refine wo_stepN (s_st g6 rfl en_3) ?_
            refine wo_step (v := (.i .i64 0)) (s_pure (p_mv rfl)) ?_
            refine wo_nil ?_
            refine nx_norm ?_
            refine w_ret ?_
            have hq := bindO_inv hr
            clear hr
            obtain ⟨vr_3, er_3, hr⟩ := hq
            exact qf ret_ok (rc g6 er_3 (rt rfl rn)) hr

/- dibber/luck.Regret -/
abbrev g35_J0 (x0 : Int) (x1 : Int) (v2 : AVal) (v6 : AVal) (m_1 : Mm) (o : Bool) (m1 : Mm) (t1 : Tr) : Prop :=
  match o with
  | c21 => m_1 = m1 ∧ t1.get 21 = (.b c21) ∧ t1.get 0 = (.i .i64 x0) ∧ t1.get 1 = (.i .i64 x1) ∧ t1.get 2 = v2 ∧ t1.get 6 = v6
abbrev g35_J1 (x0 : Int) (x1 : Int) (v2 : AVal) (v6 : AVal) (m_1 : Mm) (o : Bool) (m1 : Mm) (t1 : Tr) : Prop :=
  match o with
  | c25 => m_1 = m1 ∧ t1.get 25 = (.b c25) ∧ t1.get 0 = (.i .i64 x0) ∧ t1.get 1 = (.i .i64 x1) ∧ t1.get 2 = v2 ∧ t1.get 6 = v6
abbrev g35_J2 (x0 : Int) (x1 : Int) (v2 : AVal) (v6 : AVal) (m_1 : Mm) (o : Bool) (m1 : Mm) (t1 : Tr) : Prop :=
  match o with
  | c29 => m_1 = m1 ∧ t1.get 29 = (.b c29) ∧ t1.get 0 = (.i .i64 x0) ∧ t1.get 1 = (.i .i64 x1) ∧ t1.get 2 = v2 ∧ t1.get 6 = v6
abbrev g35_J3 (x0 : Int) (x1 : Int) (v2 : AVal) (v6 : AVal) (o : Bool × Mm) (m1 : Mm) (t1 : Tr) : Prop :=
  match o with
  | (c36, m_2) => m_2 = m1 ∧ t1.get 36 = (.b c36) ∧ t1.get 0 = (.i .i64 x0) ∧ t1.get 1 = (.i .i64 x1) ∧ t1.get 2 = v2 ∧ t1.get 6 = v6
abbrev g35_I4 (x0 : Int) (v6 : AVal) (v39 : AVal) (v2 : AVal) (x41 : Int) (s : Int × Mm) (m1 : Mm) (t1 : Tr) : Prop :=
  match s with
  | (x42, m_6) => m_6 = m1 ∧ t1.get 42 = (.i .i64 x42) ∧ t1.get 0 = (.i .i64 x0) ∧ t1.get 6 = v6 ∧ t1.get 8 = v39 ∧ t1.get 40 = v2 ∧ t1.get 41 = (.i .i64 x41)
abbrev g35_J4 (x0 : Int) (v6 : AVal) (v39 : AVal) (v2 : AVal) (x41 : Int) (o : Mm) (e : AExit) (m1 : Mm) (t1 : Tr) : Prop :=
  match o with
  | mo => e = (.exit 0) ∧ mo = m1 ∧ t1.get 0 = (.i .i64 x0) ∧ t1.get 6 = v6 ∧ t1.get 8 = v39
abbrev g35_I5 (x0 : Int) (v6 : AVal) (v39 : AVal) (v2 : AVal) (x41 : Int) (x42 : Int) (v45 : AVal) (x47 : Int) (s : Int × Mm) (m1 : Mm) (t1 : Tr) : Prop :=
  match s with
  | (x48, m_7) => m_7 = m1 ∧ t1.get 48 = (.i .i64 x48) ∧ t1.get 0 = (.i .i64 x0) ∧ t1.get 6 = v6 ∧ t1.get 8 = v39 ∧ t1.get 40 = v2 ∧ t1.get 41 = (.i .i64 x41) ∧ t1.get 42 = (.i .i64 x42) ∧ t1.get 46 = v45 ∧ t1.get 47 = (.i .i64 x47)
abbrev g35_J5 (x0 : Int) (v6 : AVal) (v39 : AVal) (v2 : AVal) (x41 : Int) (x42 : Int) (v45 : AVal) (x47 : Int) (o : Mm) (e : AExit) (m1 : Mm) (t1 : Tr) : Prop :=
  match o with
  | mo => e = (.exit 2) ∧ mo = m1 ∧ t1.get 0 = (.i .i64 x0) ∧ t1.get 6 = v6 ∧ t1.get 8 = v39 ∧ t1.get 40 = v2 ∧ t1.get 41 = (.i .i64 x41) ∧ t1.get 42 = (.i .i64 x42)
def g35_b5 (M : Means) (ro : List ABlk) (x0 : Int) (v6 : AVal) (v39 : AVal) (v2 : AVal) (x41 : Int) (x42 : Int) (v45 : AVal) (x47 : Int) (x48 : Int) (m_7 : Mm) : Option ((Int × Mm) ⊕ (Mm)) :=
  forceB (ltI x48 x47) fun c49 =>
  cond c49 (
    bindO (evP .e (.ixS 1 (.c v45) (.c (.i .i64 x48)))) fun v51 =>
    bindO (ldM ro m_7 true 1 v51) fun v52 =>
    asI .i64 v52 fun x52 =>
    bindO (evP .e (.ixS 1 (.c v39) (.c (.i .i64 x48)))) fun v57 =>
    bindO (ldM ro m_7 true 1 v57) fun v58 =>
    asI .i64 v58 fun x58 =>
    forceI (wr .i64 (2 * x58)) fun x59 =>
    forceI (wr .i64 (x59 + x52)) fun x61 =>
    bindO (evP .e (.ixS 1 (.c v39) (.c (.i .i64 x48)))) fun v62 =>
    bindP (stepM ro m_7 (.st 1 (.c v62) (.c (.i .i64 x61)))) fun vn_1 m_8 =>
    forceI (wr .i64 (x48 + 1)) fun x63 =>
    some (.inl (x63, m_8))) (
    some (.inr m_7))
def g35_b4 (M : Means) (ro : List ABlk) (x0 : Int) (v6 : AVal) (v39 : AVal) (v2 : AVal) (x41 : Int) (x42 : Int) (m_6 : Mm) : Option ((Int × Mm) ⊕ (Mm)) :=
  forceB (ltI x42 x41) fun c43 =>
  cond c43 (
    bindO (evP .e (.ixS 1 (.c v2) (.c (.i .i64 x42)))) fun v44 =>
    bindO (ldM ro m_6 true 1 v44) fun v45 =>
    bindO (evP .e (.len false (.c v45))) fun v47 =>
    asI .i64 v47 fun x47 =>
    bindO (M.loop (S := Int × Mm) (R := Mm) (fun s => g35_b5 M ro x0 v6 v39 v2 x41 x42 v45 x47 s.1 s.2) (0, m_6)) fun m_9 =>
    forceI (wr .i64 (x42 + 1)) fun x64 =>
    some (.inl (x64, m_9))) (
    some (.inr m_6))
abbrev g35_I6 (x0 : Int) (v6 : AVal) (v39 : AVal) (x66 : Int) (s : Int × Int × Mm) (m1 : Mm) (t1 : Tr) : Prop :=
  match s with
  | (x14, x68, m_11) => m_11 = m1 ∧ t1.get 14 = (.i .i64 x14) ∧ t1.get 68 = (.i .i64 x68) ∧ t1.get 0 = (.i .i64 x0) ∧ t1.get 6 = v6 ∧ t1.get 8 = v39 ∧ t1.get 13 = (.i .i64 x66) ∧ t1.get 67 = (.i .i64 x66)
abbrev g35_J6 (x0 : Int) (v6 : AVal) (v39 : AVal) (x66 : Int) (o : (Int × Mm)) (e : AExit) (m1 : Mm) (t1 : Tr) : Prop :=
  match o with
  | (y14, mo) => e = (.exit 4) ∧ mo = m1 ∧ t1.get 14 = (.i .i64 y14) ∧ t1.get 0 = (.i .i64 x0) ∧ t1.get 6 = v6 ∧ t1.get 13 = (.i .i64 x66)
def g35_b6 (M : Means) (ro : List ABlk) (x0 : Int) (v6 : AVal) (v39 : AVal) (x66 : Int) (x14 : Int) (x68 : Int) (m_11 : Mm) : Option ((Int × Int × Mm) ⊕ ((Int × Mm))) :=
  forceB (ltI x68 x66) fun c69 =>
  cond c69 (
    bindP (callM M.call m_11 69 [v39, (.i .i64 x68)]) fun v74 m_12 =>
    asI .i64 v74 fun x74 =>
    forceI (wr .i64 (x14 + x74)) fun x75 =>
    forceI (wr .i64 (x68 + 1)) fun x76 =>
    some (.inl (x75, x76, m_12))) (
    some (.inr (x14, m_11)))
def g35 (M : Means) (ro : List ABlk) (x0 : Int) (x1 : Int) (v2 : AVal) (m0 : Mm) : Option (AVal × Heap × Nat × Nat) :=
  bindP (stepM ro m0 (.al 42 [(AVal.i IntKind.i64 0), (AVal.i IntKind.i64 0)])) fun v6 m_1 =>
  forceB (ltI x0 1) fun c17 =>
  bindO (cond c17 (
    some true) (
    forceB (ltI 10 x0) fun c20 =>
    some c20)) fun c21 =>
  bindO (cond c21 (
    some true) (
    forceB (ltI x1 1) fun c24 =>
    some c24)) fun c25 =>
  bindO (cond c25 (
    some true) (
    forceB (ltI 20 x1) fun c28 =>
    some c28)) fun c29 =>
  bindO (cond c29 (
    some (true, m_1)) (
    bindP (callM M.call m_1 68 [v2, (.i .i64 x0), (.i .i64 x1)]) fun v34 m_3 =>
    asB v34 fun c34 =>
    forceB (!c34) fun c35 =>
    some (c35, m_3))) fun ⟨c36, m_2⟩ =>
  cond c36 (
    bindO ((fillA [(AVal.i IntKind.i64 0), (AVal.i IntKind.i64 0)] []).map AVal.agg) fun v37 =>
    bindP (stepM ro m_2 (.st 2 (.c v6) (.c v37))) fun vn m_4 =>
    bindO (ldM ro m_4 false 2 v6) fun vr =>
    finM m0.h.length (tupA [vr, (.i .i64 2)]) m_4) (
    bindP (stepM ro m_2 (.mk 3 1 8 [(AVal.i IntKind.i64 0)] (.c (.i .i64 x1)) (.c (.i .i64 x1)))) fun v39 m_5 =>
    bindO (evP .e (.len false (.c v2))) fun v41 =>
    asI .i64 v41 fun x41 =>
    bindO (M.loop (S := Int × Mm) (R := Mm) (fun s => g35_b4 M ro x0 v6 v39 v2 x41 s.1 s.2) (0, m_5)) fun m_10 =>
    chk (!ltI x0 (.ofNat 0)) <|
    forceI (shlV .i64 1 x0) fun x66 =>
    bindO (M.loop (S := Int × Int × Mm) (R := (Int × Mm)) (fun s => g35_b6 M ro x0 v6 v39 x66 s.1 s.2.1 s.2.2) (0, 0, m_10)) fun ⟨x14_1, m_13⟩ =>
    forceI (wr .i64 (x0 * x66)) fun x79 =>
    forceI (wr .i64 (2 * x14_1)) fun x81 =>
    forceI (wr .i64 (x79 - x81)) fun x82 =>
    forceI (wr .i64 (2 * x66)) fun x84 =>
    bindP (callM M.call m_13 63 [(.i .i64 x82), (.i .i64 x84)]) fun v85 m_14 =>
    bindP (stepM ro m_14 (.st 2 (.c v6) (.c v85))) fun vn_2 m_15 =>
    bindO (ldM ro m_15 false 2 v6) fun vr_1 =>
    finM m0.h.length (tupA [vr_1, (.i .i64 0)]) m_15)

theorem g35_ok {ro : List ABlk} {O : Caller} {M : Means} (hM : M.Ok ⟨F, O⟩ ro) {x0 x1 v2 h r} (ho : O 35 [(.i .i64 x0), (.i .i64 x1), v2] h = none) (hr : g35 M ro x0 x1 v2 ⟨h, h.length, h.length⟩ = some r) : callX ⟨F, O⟩ ro 35 [(.i .i64 x0), (.i .i64 x1), v2] h = some r := by
  refine callX_of (F := ⟨F, O⟩) (fn := fn35) (g := g35 M ro x0 x1 v2) ho rfl rfl hr ?_
  clear ho
  clear hr
  intro m0 t0 ht hr
  have g0 : t0.get 0 = (.i .i64 x0) := ht 0
  have g1 : t0.get 1 = (.i .i64 x1) := ht 1
  have g2 : t0.get 2 = v2 := ht 2
  clear ht
  unfold g35 at hr
  refine w_seq ?_
  refine w_ops ?_
  have hq := bindP_inv hr
  clear hr
  obtain ⟨v6, m_1, e6, hr⟩ := hq
  refine wo_step (v := v6) (s_al e6) ?_
  refine wo_step (v := (.i .i64 0)) (s_pure (p_mv rfl)) ?_
  refine wo_nil ?_
  refine nx_norm ?_
  refine w_seq ?_
  refine w_seq ?_
  refine w_ops ?_
  refine wo_step (v := (.i .i64 x0)) (s_pure (p_mv g0)) ?_
  have hq := forceB_inv hr
  clear hr
  obtain ⟨c17, e17, hr⟩ := hq
  refine wo_step (v := (.b c17)) (s_pure (p_bin rfl rfl (b_lss.trans (cb e17)))) ?_
  refine wo_step (v := (.b c17)) (s_pure (p_mv rfl)) ?_
  have hq := bindO_inv hr
  clear hr
  obtain ⟨o, hr, hk⟩ := hq
  refine wo_join 3 (g35_J0 x0 x1 v2 v6 m_1 o) ?_ ?_
  · clear hk
    have hq := cond_inv hr
    clear hr
    rcases hq with ⟨rfl, hr⟩ | ⟨rfl, hr⟩
    · refine wo_skip (v := (.b true)) rfl rfl ?_
      refine wo_skip (v := (.b true)) rfl rfl ?_
      refine wo_step (v := (.b true)) (s_pure (p_pickT rfl rfl)) ?_
      refine wo_nil ?_
      cases hr
      exact ⟨_, _, rfl, rfl, gl rfl, gl g0, gl g1, gl g2, gl rfl⟩
    · refine wo_take (v := (.i .i64 x0)) rfl (s_pure (p_mv g0)) ?_
      have hq := forceB_inv hr
      clear hr
      obtain ⟨c20, e20, hr⟩ := hq
      refine wo_take (v := (.b c20)) rfl (s_pure (p_bin rfl rfl (b_gtr.trans (cb e20)))) ?_
      refine wo_step (v := (.b c20)) (s_pure (p_pickF rfl rfl)) ?_
      refine wo_nil ?_
      cases hr
      exact ⟨_, _, rfl, rfl, gl rfl, gl g0, gl g1, gl g2, gl rfl⟩
  · clear hr
    have hr := hk
    clear hk
    obtain ⟨c21, ho⟩ : ∃ z, z = o := ⟨_, rfl⟩
    subst ho
    rintro mm t_1 ⟨rfl, g21, g0, g1, g2, g6⟩
    refine wo_step (v := (.b c21)) (s_pure (p_mv g21)) ?_
    have hq := bindO_inv hr
    clear hr
    obtain ⟨o_1, hr, hk⟩ := hq
    refine wo_join 3 (g35_J1 x0 x1 v2 v6 m_1 o_1) ?_ ?_
    · clear hk
      have hq := cond_inv hr
      clear hr
      rcases hq with ⟨rfl, hr⟩ | ⟨rfl, hr⟩
      · refine wo_skip (v := (.b true)) rfl rfl ?_
        refine wo_skip (v := (.b true)) rfl rfl ?_
        refine wo_step (v := (.b true)) (s_pure (p_pickT rfl rfl)) ?_
        refine wo_nil ?_
        cases hr
        exact ⟨_, _, rfl, rfl, gl rfl, gl g0, gl g1, gl g2, gl g6⟩
      · refine wo_take (v := (.i .i64 x1)) rfl (s_pure (p_mv g1)) ?_
        have hq := forceB_inv hr
        clear hr
        obtain ⟨c24, e24, hr⟩ := hq
        refine wo_take (v := (.b c24)) rfl (s_pure (p_bin rfl rfl (b_lss.trans (cb e24)))) ?_
        refine wo_step (v := (.b c24)) (s_pure (p_pickF rfl rfl)) ?_
        refine wo_nil ?_
        cases hr
        exact ⟨_, _, rfl, rfl, gl rfl, gl g0, gl g1, gl g2, gl g6⟩
    · clear hr
      have hr := hk
      clear hk
      obtain ⟨c25, ho⟩ : ∃ z, z = o_1 := ⟨_, rfl⟩
      subst ho
      rintro mm_1 t_2 ⟨rfl, g25, g0, g1, g2, g6⟩
      refine wo_step (v := (.b c25)) (s_pure (p_mv g25)) ?_
      have hq := bindO_inv hr
      clear hr
      obtain ⟨o_2, hr, hk⟩ := hq
      refine wo_join 3 (g35_J2 x0 x1 v2 v6 m_1 o_2) ?_ ?_
      · clear hk
        have hq := cond_inv hr
        clear hr
        rcases hq with ⟨rfl, hr⟩ | ⟨rfl, hr⟩
        · refine wo_skip (v := (.b true)) rfl rfl ?_
          refine wo_skip (v := (.b true)) rfl rfl ?_
          refine wo_step (v := (.b true)) (s_pure (p_pickT rfl rfl)) ?_
          refine wo_nil ?_
          cases hr
          exact ⟨_, _, rfl, rfl, gl rfl, gl g0, gl g1, gl g2, gl g6⟩
        · refine wo_take (v := (.i .i64 x1)) rfl (s_pure (p_mv g1)) ?_
          have hq := forceB_inv hr
          clear hr
          obtain ⟨c28, e28, hr⟩ := hq
          refine wo_take (v := (.b c28)) rfl (s_pure (p_bin rfl rfl (b_gtr.trans (cb e28)))) ?_
          refine wo_step (v := (.b c28)) (s_pure (p_pickF rfl rfl)) ?_
          refine wo_nil ?_
          cases hr
          exact ⟨_, _, rfl, rfl, gl rfl, gl g0, gl g1, gl g2, gl g6⟩
      · clear hr
        have hr := hk
        clear hk
        obtain ⟨c29, ho⟩ : ∃ z, z = o_2 := ⟨_, rfl⟩
        subst ho
        rintro mm_2 t_3 ⟨rfl, g29, g0, g1, g2, g6⟩
        refine wo_step (v := (.b c29)) (s_pure (p_mv g29)) ?_
        have hq := bindO_inv hr
        clear hr
        obtain ⟨o_3, hr, hk⟩ := hq
        refine wo_join 6 (g35_J3 x0 x1 v2 v6 o_3) ?_ ?_
        · clear hk
          have hq := cond_inv hr
          clear hr
          rcases hq with ⟨rfl, hr⟩ | ⟨rfl, hr⟩
          · refine wo_skip (v := (.b true)) rfl rfl ?_
            refine wo_skip (v := (.b true)) rfl rfl ?_
            refine wo_skip (v := (.b true)) rfl rfl ?_
            refine wo_skip (v := (.b true)) rfl rfl ?_
            refine wo_skip (v := (.b true)) rfl rfl ?_
            refine wo_step (v := (.b true)) (s_pure (p_pickT rfl rfl)) ?_
            refine wo_nil ?_
            cases hr
            exact ⟨_, _, rfl, rfl, gl rfl, gl g0, gl g1, gl g2, gl g6⟩
          · refine wo_take (v := v2) rfl (s_pure (p_mv g2)) ?_
            refine wo_take (v := (.i .i64 x0)) rfl (s_pure (p_mv g0)) ?_
            refine wo_take (v := (.i .i64 x1)) rfl (s_pure (p_mv g1)) ?_
            have hq := bindP_inv hr
            clear hr
            obtain ⟨v34, m_3, e34, hr⟩ := hq
            have hq := asB_inv hr
            clear hr
            obtain ⟨c34, rfl, hr⟩ := hq
            refine wo_take (v := (.b c34)) rfl (s_call (mc rfl (mc rfl (mc rfl mn))) (callM_le hM.call e34)) ?_
            have hq := forceB_inv hr
            clear hr
            obtain ⟨c35, e35, hr⟩ := hq
            refine wo_take (v := (.b c35)) rfl (s_pure ((p_not rfl).trans (cb e35))) ?_
            refine wo_step (v := (.b c35)) (s_pure (p_pickF rfl rfl)) ?_
            refine wo_nil ?_
            cases hr
            exact ⟨_, _, rfl, rfl, gl rfl, gl g0, gl g1, gl g2, gl g6⟩
        · clear hr
          have hr := hk
          clear hk
          obtain ⟨c36, m_2⟩ := o_3
          rintro mm_3 t_4 ⟨rfl, g36, g0, g1, g2, g6⟩
          refine wo_nil ?_
          refine nx_norm ?_
          have hq := cond_inv hr
          clear hr
          rcases hq with ⟨rfl, hr⟩ | ⟨rfl, hr⟩
          · refine w_condT g36 ?_
            refine w_seq ?_
            refine w_ops ?_
            have hq := bindO_inv hr
            clear hr
            obtain ⟨v37, e37, hr⟩ := hq
            refine wo_step (v := v37) (s_pure (o_build qn e37)) ?_
            have hq := bindP_inv hr
            clear hr
            obtain ⟨vn, m_4, en, hr⟩ := hq
            refine wo_stepN (s_st g6 rfl en) ?_
            refine wo_step (v := (.i .i64 2)) (s_pure (p_mv rfl)) ?_
            refine wo_nil ?_
            refine nx_norm ?_
            refine w_ret ?_
            refine nx_ret ?_
            have hq := bindO_inv hr
            clear hr
            obtain ⟨vr, er, hr⟩ := hq
            exact qf ret_ok (rc g6 er (rt rfl rn)) hr
          · refine w_condF g36 ?_
            refine w_skip ?_
            refine nx_norm ?_
            refine w_seq ?_
            refine w_ops ?_
            refine wo_step (v := (.i .i64 x1)) (s_pure (p_mv g1)) ?_
            have hq := bindP_inv hr
            clear hr
            obtain ⟨v39, m_5, e39, hr⟩ := hq
            refine wo_step (v := v39) (s_mk rfl rfl e39) ?_
            refine wo_step (v := v39) (s_pure (p_mv rfl)) ?_
            refine wo_nil ?_
            refine nx_norm ?_
            refine w_seq ?_
            refine w_seq ?_
            refine w_ops ?_
            refine wo_step (v := v2) (s_pure (p_mv g2)) ?_
            have hq := bindO_inv hr
            clear hr
            obtain ⟨v41, e41, hr⟩ := hq
            have hq := asI_inv hr
            clear hr
            obtain ⟨x41, rfl, hr⟩ := hq
            refine wo_step (v := (.i .i64 x41)) (s_pure (o_len rfl e41)) ?_
            refine wo_step (v := (.i .i64 0)) (s_pure (p_mv rfl)) ?_
            refine wo_nil ?_
            refine nx_norm ?_
            refine w_block ?_
            have hq := bindO_inv hr
            clear hr
            obtain ⟨o_5, hl_2, hr⟩ := hq
            obtain ⟨n_2, hl_2⟩ := hM.loop _ _ _ hl_2
            refine jp_mono (w_loop _ (g35_I4 x0 v6 v39 v2 x41) (g35_J4 x0 v6 v39 v2 x41) ?_ n_2 _ _ _ _ hl_2 ⟨rfl, gl rfl, gl g0, gl g6, gl rfl, gl rfl, gl rfl⟩) ?_
            · clear hr hl_2
              intro s mm_9 t_5 o hi hr
              obtain ⟨x42, m_6⟩ := s
              obtain ⟨rfl, g42, g0, g6, g8, g40, g41⟩ := hi
              unfold g35_b4 at hr
              refine w_seq ?_
              refine w_ops ?_
              have hq := forceB_inv hr
              clear hr
              obtain ⟨c43, e43, hr⟩ := hq
              refine wo_step (v := (.b c43)) (s_pure (p_bin g42 g41 (b_lss.trans (cb e43)))) ?_
              refine wo_nil ?_
              refine nx_norm ?_
              refine w_seq ?_
              have hq := cond_inv hr
              clear hr
              rcases hq with ⟨rfl, hr⟩ | ⟨rfl, hr⟩
              · refine w_condT rfl ?_
                refine w_skip ?_
                refine nx_norm ?_
                refine w_seq ?_
                refine w_block ?_
                refine w_seq ?_
                refine w_ops ?_
                have hq := bindO_inv hr
                clear hr
                obtain ⟨v44, e44, hr⟩ := hq
                refine wo_step (v := v44) (s_pure (o_ixS g40 g42 e44)) ?_
                have hq := bindO_inv hr
                clear hr
                obtain ⟨v45, e45, hr⟩ := hq
                refine wo_step (v := v45) (s_ld rfl e45) ?_
                refine wo_step (v := v45) (s_pure (p_mv rfl)) ?_
                refine wo_nil ?_
                refine nx_norm ?_
                refine w_seq ?_
                refine w_ops ?_
                refine wo_step (v := v45) (s_pure (p_mv rfl)) ?_
                have hq := bindO_inv hr
                clear hr
                obtain ⟨v47, e47, hr⟩ := hq
                have hq := asI_inv hr
                clear hr
                obtain ⟨x47, rfl, hr⟩ := hq
                refine wo_step (v := (.i .i64 x47)) (s_pure (o_len rfl e47)) ?_
                refine wo_step (v := (.i .i64 0)) (s_pure (p_mv rfl)) ?_
                refine wo_nil ?_
                refine nx_norm ?_
                refine w_block ?_
                have hq := bindO_inv hr
                clear hr
                obtain ⟨o_4, hl, hr⟩ := hq
                obtain ⟨n, hl⟩ := hM.loop _ _ _ hl
                refine jp_mono (w_loop _ (g35_I5 x0 v6 v39 v2 x41 x42 v45 x47) (g35_J5 x0 v6 v39 v2 x41 x42 v45 x47) ?_ n _ _ _ _ hl ⟨rfl, gl rfl, gl g0, gl g6, gl g8, gl g40, gl g41, gl g42, gl rfl, gl rfl⟩) ?_
                · clear hr hl
                  intro s mm_5 t_6 o hi hr
                  obtain ⟨x48, m_7⟩ := s
                  obtain ⟨rfl, g48, g0, g6, g8, g40, g41, g42, g46, g47⟩ := hi
                  unfold g35_b5 at hr
                  refine w_seq ?_
                  refine w_ops ?_
                  have hq := forceB_inv hr
                  clear hr
                  obtain ⟨c49, e49, hr⟩ := hq
                  refine wo_step (v := (.b c49)) (s_pure (p_bin g48 g47 (b_lss.trans (cb e49)))) ?_
                  refine wo_nil ?_
                  refine nx_norm ?_
                  refine w_seq ?_
                  have hq := cond_inv hr
                  clear hr
                  rcases hq with ⟨rfl, hr⟩ | ⟨rfl, hr⟩
                  · refine w_condT rfl ?_
                    refine w_skip ?_
                    refine nx_norm ?_
                    refine w_seq ?_
                    refine w_block ?_
                    refine w_seq ?_
                    refine w_ops ?_
                    refine wo_step (v := (.i .i64 x48)) (s_pure (p_mv g48)) ?_
                    have hq := bindO_inv hr
                    clear hr
                    obtain ⟨v51, e51, hr⟩ := hq
                    refine wo_step (v := v51) (s_pure (o_ixS g46 g48 e51)) ?_
                    have hq := bindO_inv hr
                    clear hr
                    obtain ⟨v52, e52, hr⟩ := hq
                    have hq := asI_inv hr
                    clear hr
                    obtain ⟨x52, rfl, hr⟩ := hq
                    refine wo_step (v := (.i .i64 x52)) (s_ld rfl e52) ?_
                    refine wo_step (v := (.i .i64 x48)) (s_pure (p_mv rfl)) ?_
                    refine wo_step (v := (.i .i64 x52)) (s_pure (p_mv rfl)) ?_
                    refine wo_nil ?_
                    refine nx_norm ?_
                    refine w_ops ?_
                    refine wo_step (v := v39) (s_pure (p_mv g8)) ?_
                    refine wo_step (v := (.i .i64 x48)) (s_pure (p_mv rfl)) ?_
                    refine wo_step (v := v39) (s_pure (p_mv g8)) ?_
                    refine wo_step (v := (.i .i64 x48)) (s_pure (p_mv rfl)) ?_
                    have hq := bindO_inv hr
                    clear hr
                    obtain ⟨v57, e57, hr⟩ := hq
                    refine wo_step (v := v57) (s_pure (o_ixS rfl rfl e57)) ?_
                    have hq := bindO_inv hr
                    clear hr
                    obtain ⟨v58, e58, hr⟩ := hq
                    have hq := asI_inv hr
                    clear hr
                    obtain ⟨x58, rfl, hr⟩ := hq
                    refine wo_step (v := (.i .i64 x58)) (s_ld rfl e58) ?_
                    have hq := forceI_inv hr
                    clear hr
                    obtain ⟨x59, e59, hr⟩ := hq
                    refine wo_step (v := (.i .i64 x59)) (s_pure (p_bin rfl rfl (b_mul.trans (ci e59)))) ?_
                    refine wo_step (v := (.i .i64 x52)) (s_pure (p_mv rfl)) ?_
                    have hq := forceI_inv hr
                    clear hr
                    obtain ⟨x61, e61, hr⟩ := hq
                    refine wo_step (v := (.i .i64 x61)) (s_pure (p_bin rfl rfl (b_add.trans (ci e61)))) ?_
                    have hq := bindO_inv hr
                    clear hr
                    obtain ⟨v62, e62, hr⟩ := hq
                    refine wo_step (v := v62) (s_pure (o_ixS rfl rfl e62)) ?_
                    have hq := bindP_inv hr
                    clear hr
                    obtain ⟨vn_1, m_8, en_1, hr⟩ := hq
                    refine wo_stepN (s_st rfl rfl en_1) ?_
                    refine wo_nil ?_
                    refine bk_norm ?_
                    refine nx_norm ?_
                    refine w_ops ?_
                    have hq := forceI_inv hr
                    clear hr
                    obtain ⟨x63, e63, hr⟩ := hq
                    refine wo_step (v := (.i .i64 x63)) (s_pure (p_bin g48 rfl (b_add.trans (ci e63)))) ?_
                    refine wo_step (v := (.i .i64 x63)) (s_pure (p_mv rfl)) ?_
                    refine wo_nil ?_
                    cases hr
                    exact ⟨_, _, rfl, rfl, rfl, gl rfl, gl g0, gl g6, gl g8, gl g40, gl g41, gl g42, gl g46, gl g47⟩
                  · refine w_condF rfl ?_
                    refine w_exit ?_
                    refine nx_exit ?_
                    cases hr
                    exact ⟨_, _, rfl, ne_norm_exit, rfl, rfl, gl g0, gl g6, gl g8, gl g40, gl g41, gl g42⟩
                · obtain ⟨m_9, ho⟩ : ∃ z, z = o_4 := ⟨_, rfl⟩
                  subst ho
                  rintro _ mm_4 t_7 ⟨rfl, rfl, g0, g6, g8, g40, g41, g42⟩
                  refine bk_hit ?_
                  refine bk_norm ?_
                  refine nx_norm ?_
                  refine w_ops ?_
                  have hq := forceI_inv hr
                  clear hr
                  obtain ⟨x64, e64, hr⟩ := hq
                  refine wo_step (v := (.i .i64 x64)) (s_pure (p_bin g42 rfl (b_add.trans (ci e64)))) ?_
                  refine wo_step (v := (.i .i64 x64)) (s_pure (p_mv rfl)) ?_
                  refine wo_nil ?_
                  cases hr
                  exact ⟨_, _, rfl, rfl, rfl, gl rfl, gl g0, gl g6, gl g8, gl g40, gl g41⟩
              · refine w_condF rfl ?_
                refine w_exit ?_
                refine nx_exit ?_
                cases hr
                exact ⟨_, _, rfl, ne_norm_exit, rfl, rfl, gl g0, gl g6, gl g8⟩
            · obtain ⟨m_10, ho⟩ : ∃ z, z = o_5 := ⟨_, rfl⟩
              subst ho
              rintro _ mm_8 t_8 ⟨rfl, rfl, g0, g6, g8⟩
              refine bk_hit ?_
              refine nx_norm ?_
              refine w_seq ?_
              refine w_ops ?_
              refine wo_step (v := (.i .i64 x0)) (s_pure (p_mv g0)) ?_
              have hq := chk_inv hr
              clear hr
              obtain ⟨hc66, hr⟩ := hq
              have hq := forceI_inv hr
              clear hr
              obtain ⟨x66, e66, hr⟩ := hq
              refine wo_step (v := (.i .i64 x66)) (s_pure (p_bin rfl rfl ((b_shl hc66).trans (ci e66)))) ?_
              refine wo_step (v := (.i .i64 x66)) (s_pure (p_mv rfl)) ?_
              refine wo_nil ?_
              refine nx_norm ?_
              refine w_seq ?_
              refine w_ops ?_
              refine wo_step (v := (.i .i64 0)) (s_pure (p_mv rfl)) ?_
              refine wo_nil ?_
              refine nx_norm ?_
              refine w_seq ?_
              refine w_seq ?_
              refine w_ops ?_
              refine wo_step (v := (.i .i64 x66)) (s_pure (p_mv rfl)) ?_
              refine wo_step (v := (.i .i64 0)) (s_pure (p_mv rfl)) ?_
              refine wo_nil ?_
              refine nx_norm ?_
              refine w_block ?_
              have hq := bindO_inv hr
              clear hr
              obtain ⟨o_6, hl_1, hr⟩ := hq
              obtain ⟨n_1, hl_1⟩ := hM.loop _ _ _ hl_1
              refine jp_mono (w_loop _ (g35_I6 x0 v6 v39 x66) (g35_J6 x0 v6 v39 x66) ?_ n_1 _ _ _ _ hl_1 ⟨rfl, gl rfl, gl rfl, gl g0, gl g6, gl g8, gl rfl, gl rfl⟩) ?_
              · clear hr hl_1
                intro s mm_7 t_9 o hi hr
                obtain ⟨x14, x68, m_11⟩ := s
                obtain ⟨rfl, g14, g68, g0, g6, g8, g13, g67⟩ := hi
                unfold g35_b6 at hr
                refine w_seq ?_
                refine w_ops ?_
                have hq := forceB_inv hr
                clear hr
                obtain ⟨c69, e69, hr⟩ := hq
                refine wo_step (v := (.b c69)) (s_pure (p_bin g68 g67 (b_lss.trans (cb e69)))) ?_
                refine wo_nil ?_
                refine nx_norm ?_
                refine w_seq ?_
                have hq := cond_inv hr
                clear hr
                rcases hq with ⟨rfl, hr⟩ | ⟨rfl, hr⟩
                · refine w_condT rfl ?_
                  refine w_skip ?_
                  refine nx_norm ?_
                  refine w_seq ?_
                  refine w_block ?_
                  refine w_seq ?_
                  refine w_ops ?_
                  refine wo_step (v := (.i .i64 x68)) (s_pure (p_mv g68)) ?_
                  refine wo_step (v := (.i .i64 x68)) (s_pure (p_mv rfl)) ?_
                  refine wo_nil ?_
                  refine nx_norm ?_
                  refine w_ops ?_
                  refine wo_step (v := (.i .i64 x14)) (s_pure (p_mv g14)) ?_
                  refine wo_step (v := v39) (s_pure (p_mv g8)) ?_
                  refine wo_step (v := (.i .i64 x68)) (s_pure (p_mv rfl)) ?_
                  have hq := bindP_inv hr
                  clear hr
                  obtain ⟨v74, m_12, e74, hr⟩ := hq
                  have hq := asI_inv hr
                  clear hr
                  obtain ⟨x74, rfl, hr⟩ := hq
                  refine wo_step (v := (.i .i64 x74)) (s_call (mc rfl (mc rfl mn)) (callM_le hM.call e74)) ?_
                  have hq := forceI_inv hr
                  clear hr
                  obtain ⟨x75, e75, hr⟩ := hq
                  refine wo_step (v := (.i .i64 x75)) (s_pure (p_bin rfl rfl (b_add.trans (ci e75)))) ?_
                  refine wo_step (v := (.i .i64 x75)) (s_pure (p_mv rfl)) ?_
                  refine wo_nil ?_
                  refine bk_norm ?_
                  refine nx_norm ?_
                  refine w_ops ?_
                  have hq := forceI_inv hr
                  clear hr
                  obtain ⟨x76, e76, hr⟩ := hq
                  refine wo_step (v := (.i .i64 x76)) (s_pure (p_bin g68 rfl (b_add.trans (ci e76)))) ?_
                  refine wo_step (v := (.i .i64 x76)) (s_pure (p_mv rfl)) ?_
                  refine wo_nil ?_
                  cases hr
                  exact ⟨_, _, rfl, rfl, rfl, gl rfl, gl rfl, gl g0, gl g6, gl g8, gl g13, gl g67⟩
                · refine w_condF rfl ?_
                  refine w_exit ?_
                  refine nx_exit ?_
                  cases hr
                  exact ⟨_, _, rfl, ne_norm_exit, rfl, rfl, gl g14, gl g0, gl g6, gl g13⟩
              · obtain ⟨x14_1, m_13⟩ := o_6
                rintro _ mm_6 t_10 ⟨rfl, rfl, g14, g0, g6, g13⟩
                refine bk_hit ?_
                refine nx_norm ?_
                refine w_seq ?_
                refine w_ops ?_
                refine wo_step (v := (.i .i64 x0)) (s_pure (p_mv g0)) ?_
                refine wo_step (v := (.i .i64 x66)) (s_pure (p_mv g13)) ?_
                have hq := forceI_inv hr
                clear hr
                obtain ⟨x79, e79, hr⟩ := hq
                refine wo_step (v := (.i .i64 x79)) (s_pure (p_bin rfl rfl (b_mul.trans (ci e79)))) ?_
                refine wo_step (v := (.i .i64 x14_1)) (s_pure (p_mv g14)) ?_
                have hq := forceI_inv hr
                clear hr
                obtain ⟨x81, e81, hr⟩ := hq
                refine wo_step (v := (.i .i64 x81)) (s_pure (p_bin rfl rfl (b_mul.trans (ci e81)))) ?_
                have hq := forceI_inv hr
                clear hr
                obtain ⟨x82, e82, hr⟩ := hq
                refine wo_step (v := (.i .i64 x82)) (s_pure (p_bin rfl rfl (b_sub.trans (ci e82)))) ?_
                refine wo_step (v := (.i .i64 x66)) (s_pure (p_mv g13)) ?_
                have hq := forceI_inv hr
                clear hr
                obtain ⟨x84, e84, hr⟩ := hq
                refine wo_step (v := (.i .i64 x84)) (s_pure (p_bin rfl rfl (b_mul.trans (ci e84)))) ?_
                have hq := bindP_inv hr
                clear hr
                obtain ⟨v85, m_14, e85, hr⟩ := hq
                refine wo_step (v := v85) (s_call (mc rfl (mc rfl mn)) (callM_le hM.call e85)) ?_
                have hq := bindP_inv hr
                clear hr
                obtain ⟨vn_2, m_15, en_2, hr⟩ := hq
                refine wo_stepN (s_st g6 rfl en_2) ?_
                refine wo_step (v := (.i .i64 0)) (s_pure (p_mv rfl)) ?_
                refine wo_nil ?_
                refine nx_norm ?_
                refine w_ret ?_
                have hq := bindO_inv hr
                clear hr
                obtain ⟨vr_1, er_1, hr⟩ := hq
                exact qf ret_ok (rc g6 er_1 (rt rfl rn)) hr

/- dibber/dibberref05.Points -/
abbrev g43_J0 (v0 : AVal) (v1 : AVal) (x18 : Int) (m0 : Mm) (o : Bool) (m1 : Mm) (t1 : Tr) : Prop :=
  match o with
  | c24 => m0 = m1 ∧ t1.get 24 = (.b c24) ∧ t1.get 0 = v0 ∧ t1.get 1 = v1 ∧ t1.get 5 = (.i .i64 x18)
abbrev g43_I1 (v0 : AVal) (v1 : AVal) (x18 : Int) (m0 : Mm) (s : Int) (m1 : Mm) (t1 : Tr) : Prop :=
  match s with
  | x6 => m0 = m1 ∧ t1.get 6 = (.i .i64 x6) ∧ t1.get 0 = v0 ∧ t1.get 1 = v1 ∧ t1.get 5 = (.i .i64 x18)
abbrev g43_J1 (v0 : AVal) (v1 : AVal) (x18 : Int) (m0 : Mm) (o : (Unit ⊕ Int)) (e : AExit) (m1 : Mm) (t1 : Tr) : Prop :=
  match o with
  | (.inl _) => e = (.exit 0) ∧ m0 = m1 ∧ t1.get 0 = v0 ∧ t1.get 1 = v1
  | (.inr y4) => e = .ret ∧ m0 = m1 ∧ t1.get 4 = (.i .i64 y4)
abbrev g43_I2 (v0 : AVal) (v1 : AVal) (x18 : Int) (x6 : Int) (m0 : Mm) (s : Int) (m1 : Mm) (t1 : Tr) : Prop :=
  match s with
  | x7 => m0 = m1 ∧ t1.get 7 = (.i .i64 x7) ∧ t1.get 0 = v0 ∧ t1.get 1 = v1 ∧ t1.get 5 = (.i .i64 x18) ∧ t1.get 6 = (.i .i64 x6)
abbrev g43_J2 (v0 : AVal) (v1 : AVal) (x18 : Int) (x6 : Int) (m0 : Mm) (o : (Unit ⊕ Int)) (e : AExit) (m1 : Mm) (t1 : Tr) : Prop :=
  match o with
  | (.inl _) => e = (.exit 2) ∧ m0 = m1 ∧ t1.get 0 = v0 ∧ t1.get 1 = v1 ∧ t1.get 5 = (.i .i64 x18) ∧ t1.get 6 = (.i .i64 x6)
  | (.inr y4) => e = .ret ∧ m0 = m1 ∧ t1.get 4 = (.i .i64 y4)
abbrev g43_J3 (v0 : AVal) (v1 : AVal) (x18 : Int) (x6 : Int) (x7 : Int) (m0 : Mm) (o : Bool) (m1 : Mm) (t1 : Tr) : Prop :=
  match o with
  | c60 => m0 = m1 ∧ t1.get 60 = (.b c60) ∧ t1.get 0 = v0 ∧ t1.get 1 = v1 ∧ t1.get 5 = (.i .i64 x18) ∧ t1.get 6 = (.i .i64 x6) ∧ t1.get 7 = (.i .i64 x7)
def g43_b2 (M : Means) (ro : List ABlk) (v0 : AVal) (v1 : AVal) (x18 : Int) (x6 : Int) (m0 : Mm) (x7 : Int) : Option ((Int) ⊕ ((Unit ⊕ Int))) :=
  forceB (ltI x7 x18) fun c40 =>
  cond c40 (
    bindO (evP .e (.ixS 1 (.c v0) (.c (.i .i64 x6)))) fun v45 =>
    bindO (ldM ro m0 true 1 v45) fun v46 =>
    bindO (evP .e (.ixS 1 (.c v46) (.c (.i .i64 x7)))) fun v48 =>
    bindO (ldM ro m0 true 1 v48) fun v49 =>
    asI .i64 v49 fun x49 =>
    forceB (ltI x49 (-100)) fun c50 =>
    bindO (cond c50 (
      some true) (
      bindO (evP .e (.ixS 1 (.c v0) (.c (.i .i64 x6)))) fun v54 =>
      bindO (ldM ro m0 true 1 v54) fun v55 =>
      bindO (evP .e (.ixS 1 (.c v55) (.c (.i .i64 x7)))) fun v57 =>
      bindO (ldM ro m0 true 1 v57) fun v58 =>
      asI .i64 v58 fun x58 =>
      forceB (ltI 100 x58) fun c59 =>
      some c59)) fun c60 =>
    cond c60 (
      some (.inr (.inr 2))) (
      forceI (wr .i64 (x7 + 1)) fun x42 =>
      some (.inl x42))) (
    some (.inr (.inl ())))
def g43_b1 (M : Means) (ro : List ABlk) (v0 : AVal) (v1 : AVal) (x18 : Int) (m0 : Mm) (x6 : Int) : Option ((Int) ⊕ ((Unit ⊕ Int))) :=
  bindO (evP .e (.len false (.c v0))) fun v27 =>
  asI .i64 v27 fun x27 =>
  forceB (ltI x6 x27) fun c28 =>
  cond c28 (
    bindO (evP .e (.ixS 1 (.c v0) (.c (.i .i64 x6)))) fun v33 =>
    bindO (ldM ro m0 true 1 v33) fun v34 =>
    bindO (evP .e (.len false (.c v34))) fun v35 =>
    asI .i64 v35 fun x35 =>
    forceB (!eqI x35 x18) fun c37 =>
    cond c37 (
      some (.inr (.inr 2))) (
      bindO (M.loop (S := Int) (R := (Unit ⊕ Int)) (fun s => g43_b2 M ro v0 v1 x18 x6 m0 s) 0) fun o_2 => match o_2 with
      | (.inl _) =>
        forceI (wr .i64 (x6 + 1)) fun x30 =>
        some (.inl x30)
      | (.inr x4) =>
        some (.inr (.inr x4)))) (
    some (.inr (.inl ())))
abbrev g43_I4 (v1 : AVal) (m0 : Mm) (s : Int) (m1 : Mm) (t1 : Tr) : Prop :=
  match s with
  | x8 => m0 = m1 ∧ t1.get 8 = (.i .i64 x8) ∧ t1.get 1 = v1
abbrev g43_J4 (v1 : AVal) (m0 : Mm) (o : (Unit ⊕ Int)) (e : AExit) (m1 : Mm) (t1 : Tr) : Prop :=
  match o with
  | (.inl _) => e = (.exit 4) ∧ m0 = m1
  | (.inr y4) => e = .ret ∧ m0 = m1 ∧ t1.get 4 = (.i .i64 y4)
abbrev g43_J5 (v1 : AVal) (x8 : Int) (m0 : Mm) (o : Bool) (m1 : Mm) (t1 : Tr) : Prop :=
  match o with
  | c83 => m0 = m1 ∧ t1.get 83 = (.b c83) ∧ t1.get 1 = v1 ∧ t1.get 8 = (.i .i64 x8)
def g43_b4 (M : Means) (ro : List ABlk) (v1 : AVal) (m0 : Mm) (x8 : Int) : Option ((Int) ⊕ ((Unit ⊕ Int))) :=
  bindO (evP .e (.len false (.c v1))) fun v68 =>
  asI .i64 v68 fun x68 =>
  forceB (ltI x8 x68) fun c69 =>
  cond c69 (
    bindO (evP .e (.ixS 1 (.c v1) (.c (.i .i64 x8)))) fun v74 =>
    bindO (ldM ro m0 true 1 v74) fun v75 =>
    asI .i64 v75 fun x75 =>
    forceB (!eqI x75 1) fun c76 =>
    bindO (cond c76 (
      bindO (evP .e (.ixS 1 (.c v1) (.c (.i .i64 x8)))) fun v80 =>
      bindO (ldM ro m0 true 1 v80) fun v81 =>
      asI .i64 v81 fun x81 =>
      forceB (!eqI x81 (-1)) fun c82 =>
      some c82) (
      some false)) fun c83 =>
    cond c83 (
      some (.inr (.inr 2))) (
      forceI (wr .i64 (x8 + 1)) fun x71 =>
      some (.inl x71))) (
    some (.inr (.inl ())))
def g43 (M : Means) (ro : List ABlk) (v0 : AVal) (v1 : AVal) (m0 : Mm) : Option (AVal × Heap × Nat × Nat) :=
  bindO (evP .e (.len false (.c v0))) fun v10 =>
  asI .i64 v10 fun x10 =>
  forceB (ltI 50 x10) fun c11 =>
  cond c11 (
    finM m0.h.length (tupA [(.i .i64 3)]) m0) (
    bindO (evP .e (.len false (.c v0))) fun v13 =>
    asI .i64 v13 fun x13 =>
    forceB (eqI x13 0) fun c14 =>
    cond c14 (
      finM m0.h.length (tupA [(.i .i64 2)]) m0) (
      bindO (evP .e (.ixS 1 (.c v0) (.c (.i .i64 0)))) fun v16 =>
      bindO (ldM ro m0 true 1 v16) fun v17 =>
      bindO (evP .e (.len false (.c v17))) fun v18 =>
      asI .i64 v18 fun x18 =>
      forceB (ltI x18 1) fun c20 =>
      bindO (cond c20 (
        some true) (
        forceB (ltI 6 x18) fun c23 =>
        some c23)) fun c24 =>
      cond c24 (
        finM m0.h.length (tupA [(.i .i64 2)]) m0) (
        bindO (M.loop (S := Int) (R := (Unit ⊕ Int)) (fun s => g43_b1 M ro v0 v1 x18 m0 s) 0) fun o_3 => match o_3 with
        | (.inl _) =>
          bindO (evP .e (.len false (.c v1))) fun v62 =>
          asI .i64 v62 fun x62 =>
          bindO (evP .e (.len false (.c v0))) fun v64 =>
          asI .i64 v64 fun x64 =>
          forceB (!eqI x62 x64) fun c65 =>
          cond c65 (
            finM m0.h.length (tupA [(.i .i64 2)]) m0) (
            bindO (M.loop (S := Int) (R := (Unit ⊕ Int)) (fun s => g43_b4 M ro v1 m0 s) 0) fun o_5 => match o_5 with
            | (.inl _) =>
              finM m0.h.length (tupA [(.i .i64 0)]) m0
            | (.inr x4_1) =>
              finM m0.h.length (tupA [(.i .i64 x4_1)]) m0)
        | (.inr x4_2) =>
          finM m0.h.length (tupA [(.i .i64 x4_2)]) m0)))

theorem g43_ok {ro : List ABlk} {O : Caller} {M : Means} (hM : M.Ok ⟨F, O⟩ ro) {v0 v1 h r} (ho : O 43 [v0, v1] h = none) (hr : g43 M ro v0 v1 ⟨h, h.length, h.length⟩ = some r) : callX ⟨F, O⟩ ro 43 [v0, v1] h = some r := by
  refine callX_of (F := ⟨F, O⟩) (fn := fn43) (g := g43 M ro v0 v1) ho rfl rfl hr ?_
  clear ho
  clear hr
  intro m0 t0 ht hr
  have g0 : t0.get 0 = v0 := ht 0
  have g1 : t0.get 1 = v1 := ht 1
  clear ht
  unfold g43 at hr
  refine w_seq ?_
  refine w_ops ?_
  refine wo_step (v := (.i .i64 0)) (s_pure (p_mv rfl)) ?_
  refine wo_nil ?_
  refine nx_norm ?_
  refine w_seq ?_
  refine w_seq ?_
  refine w_ops ?_
  refine wo_step (v := v0) (s_pure (p_mv g0)) ?_
  have hq := bindO_inv hr
  clear hr
  obtain ⟨v10, e10, hr⟩ := hq
  have hq := asI_inv hr
  clear hr
  obtain ⟨x10, rfl, hr⟩ := hq
  refine wo_step (v := (.i .i64 x10)) (s_pure (o_len rfl e10)) ?_
  have hq := forceB_inv hr
  clear hr
  obtain ⟨c11, e11, hr⟩ := hq
  refine wo_step (v := (.b c11)) (s_pure (p_bin rfl rfl (b_gtr.trans (cb e11)))) ?_
  refine wo_nil ?_
  refine nx_norm ?_
  have hq := cond_inv hr
  clear hr
  rcases hq with ⟨rfl, hr⟩ | ⟨rfl, hr⟩
  · refine w_condT rfl ?_
    refine w_seq ?_
    refine w_ops ?_
    refine wo_step (v := (.i .i64 3)) (s_pure (p_mv rfl)) ?_
    refine wo_nil ?_
    refine nx_norm ?_
    refine w_ret ?_
    refine nx_ret ?_
    exact qf ret_ok (rt rfl rn) hr
  · refine w_condF rfl ?_
    refine w_skip ?_
    refine nx_norm ?_
    refine w_seq ?_
    refine w_seq ?_
    refine w_ops ?_
    refine wo_step (v := v0) (s_pure (p_mv g0)) ?_
    have hq := bindO_inv hr
    clear hr
    obtain ⟨v13, e13, hr⟩ := hq
    have hq := asI_inv hr
    clear hr
    obtain ⟨x13, rfl, hr⟩ := hq
    refine wo_step (v := (.i .i64 x13)) (s_pure (o_len rfl e13)) ?_
    have hq := forceB_inv hr
    clear hr
    obtain ⟨c14, e14, hr⟩ := hq
    refine wo_step (v := (.b c14)) (s_pure (p_bin rfl rfl (b_eql.trans (cb e14)))) ?_
    refine wo_nil ?_
    refine nx_norm ?_
    have hq := cond_inv hr
    clear hr
    rcases hq with ⟨rfl, hr⟩ | ⟨rfl, hr⟩
    · refine w_condT rfl ?_
      refine w_seq ?_
      refine w_ops ?_
      refine wo_step (v := (.i .i64 2)) (s_pure (p_mv rfl)) ?_
      refine wo_nil ?_
      refine nx_norm ?_
      refine w_ret ?_
      refine nx_ret ?_
      exact qf ret_ok (rt rfl rn) hr
    · refine w_condF rfl ?_
      refine w_skip ?_
      refine nx_norm ?_
      refine w_seq ?_
      refine w_ops ?_
      refine wo_step (v := v0) (s_pure (p_mv g0)) ?_
      have hq := bindO_inv hr
      clear hr
      obtain ⟨v16, e16, hr⟩ := hq
      refine wo_step (v := v16) (s_pure (o_ixS rfl rfl e16)) ?_
      have hq := bindO_inv hr
      clear hr
      obtain ⟨v17, e17, hr⟩ := hq
      refine wo_step (v := v17) (s_ld rfl e17) ?_
      have hq := bindO_inv hr
      clear hr
      obtain ⟨v18, e18, hr⟩ := hq
      have hq := asI_inv hr
      clear hr
      obtain ⟨x18, rfl, hr⟩ := hq
      refine wo_step (v := (.i .i64 x18)) (s_pure (o_len rfl e18)) ?_
      refine wo_step (v := (.i .i64 x18)) (s_pure (p_mv rfl)) ?_
      refine wo_nil ?_
      refine nx_norm ?_
      refine w_seq ?_
      refine w_seq ?_
      refine w_ops ?_
      refine wo_step (v := (.i .i64 x18)) (s_pure (p_mv rfl)) ?_
      have hq := forceB_inv hr
      clear hr
      obtain ⟨c20, e20, hr⟩ := hq
      refine wo_step (v := (.b c20)) (s_pure (p_bin rfl rfl (b_lss.trans (cb e20)))) ?_
      refine wo_step (v := (.b c20)) (s_pure (p_mv rfl)) ?_
      have hq := bindO_inv hr
      clear hr
      obtain ⟨o, hr, hk⟩ := hq
      refine wo_join 3 (g43_J0 v0 v1 x18 m0 o) ?_ ?_
      · clear hk
        have hq := cond_inv hr
        clear hr
        rcases hq with ⟨rfl, hr⟩ | ⟨rfl, hr⟩
        · refine wo_skip (v := (.b true)) rfl rfl ?_
          refine wo_skip (v := (.b true)) rfl rfl ?_
          refine wo_step (v := (.b true)) (s_pure (p_pickT rfl rfl)) ?_
          refine wo_nil ?_
          cases hr
          exact ⟨_, _, rfl, rfl, gl rfl, gl g0, gl g1, gl rfl⟩
        · refine wo_take (v := (.i .i64 x18)) rfl (s_pure (p_mv rfl)) ?_
          have hq := forceB_inv hr
          clear hr
          obtain ⟨c23, e23, hr⟩ := hq
          refine wo_take (v := (.b c23)) rfl (s_pure (p_bin rfl rfl (b_gtr.trans (cb e23)))) ?_
          refine wo_step (v := (.b c23)) (s_pure (p_pickF rfl rfl)) ?_
          refine wo_nil ?_
          cases hr
          exact ⟨_, _, rfl, rfl, gl rfl, gl g0, gl g1, gl rfl⟩
      · clear hr
        have hr := hk
        clear hk
        obtain ⟨c24, ho⟩ : ∃ z, z = o := ⟨_, rfl⟩
        subst ho
        rintro mm t_1 ⟨rfl, g24, g0, g1, g5⟩
        refine wo_nil ?_
        refine nx_norm ?_
        have hq := cond_inv hr
        clear hr
        rcases hq with ⟨rfl, hr⟩ | ⟨rfl, hr⟩
        · refine w_condT g24 ?_
          refine w_seq ?_
          refine w_ops ?_
          refine wo_step (v := (.i .i64 2)) (s_pure (p_mv rfl)) ?_
          refine wo_nil ?_
          refine nx_norm ?_
          refine w_ret ?_
          refine nx_ret ?_
          exact qf ret_ok (rt rfl rn) hr
        · refine w_condF g24 ?_
          refine w_skip ?_
          refine nx_norm ?_
          refine w_seq ?_
          refine w_seq ?_
          refine w_ops ?_
          refine wo_step (v := (.i .i64 0)) (s_pure (p_mv rfl)) ?_
          refine wo_nil ?_
          refine nx_norm ?_
          refine w_block ?_
          have hq := bindO_inv hr
          clear hr
          obtain ⟨o_3, hl_2, hr⟩ := hq
          obtain ⟨n_2, hl_2⟩ := hM.loop _ _ _ hl_2
          refine jp_mono (w_loop _ (g43_I1 v0 v1 x18 m0) (g43_J1 v0 v1 x18 m0) ?_ n_2 _ _ _ _ hl_2 ⟨rfl, gl rfl, gl g0, gl g1, gl g5⟩) ?_
          · clear hr hl_2
            intro s mm_11 t_2 o hi hr
            obtain ⟨x6, hs⟩ : ∃ z, z = s := ⟨_, rfl⟩
            subst hs
            obtain ⟨rfl, g6, g0, g1, g5⟩ := hi
            unfold g43_b1 at hr
            refine w_seq ?_
            refine w_seq ?_
            refine w_ops ?_
            refine wo_step (v := (.i .i64 x6)) (s_pure (p_mv g6)) ?_
            refine wo_step (v := v0) (s_pure (p_mv g0)) ?_
            have hq := bindO_inv hr
            clear hr
            obtain ⟨v27, e27, hr⟩ := hq
            have hq := asI_inv hr
            clear hr
            obtain ⟨x27, rfl, hr⟩ := hq
            refine wo_step (v := (.i .i64 x27)) (s_pure (o_len rfl e27)) ?_
            have hq := forceB_inv hr
            clear hr
            obtain ⟨c28, e28, hr⟩ := hq
            refine wo_step (v := (.b c28)) (s_pure (p_bin rfl rfl (b_lss.trans (cb e28)))) ?_
            refine wo_nil ?_
            refine nx_norm ?_
            have hq := cond_inv hr
            clear hr
            rcases hq with ⟨rfl, hr⟩ | ⟨rfl, hr⟩
            · refine w_condT rfl ?_
              refine w_skip ?_
              refine nx_norm ?_
              refine w_seq ?_
              refine w_block ?_
              refine w_seq ?_
              refine w_seq ?_
              refine w_ops ?_
              refine wo_step (v := v0) (s_pure (p_mv g0)) ?_
              refine wo_step (v := (.i .i64 x6)) (s_pure (p_mv g6)) ?_
              have hq := bindO_inv hr
              clear hr
              obtain ⟨v33, e33, hr⟩ := hq
              refine wo_step (v := v33) (s_pure (o_ixS rfl rfl e33)) ?_
              have hq := bindO_inv hr
              clear hr
              obtain ⟨v34, e34, hr⟩ := hq
              refine wo_step (v := v34) (s_ld rfl e34) ?_
              have hq := bindO_inv hr
              clear hr
              obtain ⟨v35, e35, hr⟩ := hq
              have hq := asI_inv hr
              clear hr
              obtain ⟨x35, rfl, hr⟩ := hq
              refine wo_step (v := (.i .i64 x35)) (s_pure (o_len rfl e35)) ?_
              refine wo_step (v := (.i .i64 x18)) (s_pure (p_mv g5)) ?_
              have hq := forceB_inv hr
              clear hr
              obtain ⟨c37, e37, hr⟩ := hq
              refine wo_step (v := (.b c37)) (s_pure (p_bin rfl rfl (b_neq.trans (cb e37)))) ?_
              refine wo_nil ?_
              refine nx_norm ?_
              have hq := cond_inv hr
              clear hr
              rcases hq with ⟨rfl, hr⟩ | ⟨rfl, hr⟩
              · refine w_condT rfl ?_
                refine w_seq ?_
                refine w_ops ?_
                refine wo_step (v := (.i .i64 2)) (s_pure (p_mv rfl)) ?_
                refine wo_nil ?_
                refine nx_norm ?_
                refine w_ret ?_
                refine nx_ret ?_
                refine bk_ret ?_
                refine nx_ret ?_
                cases hr
                exact ⟨_, _, rfl, ne_norm_ret, rfl, rfl, gl rfl⟩
              · refine w_condF rfl ?_
                refine w_skip ?_
                refine nx_norm ?_
                refine w_seq ?_
                refine w_ops ?_
                refine wo_step (v := (.i .i64 0)) (s_pure (p_mv rfl)) ?_
                refine wo_nil ?_
                refine nx_norm ?_
                refine w_block ?_
                have hq := bindO_inv hr
                clear hr
                obtain ⟨o_2, hl, hr⟩ := hq
                obtain ⟨n, hl⟩ := hM.loop _ _ _ hl
                refine jp_mono (w_loop _ (g43_I2 v0 v1 x18 x6 m0) (g43_J2 v0 v1 x18 x6 m0) ?_ n _ _ _ _ hl ⟨rfl, gl rfl, gl g0, gl g1, gl g5, gl g6⟩) ?_
                · clear hr hl
                  intro s mm_4 t_3 o hi hr
                  obtain ⟨x7, hs⟩ : ∃ z, z = s := ⟨_, rfl⟩
                  subst hs
                  obtain ⟨rfl, g7, g0, g1, g5, g6⟩ := hi
                  unfold g43_b2 at hr
                  refine w_seq ?_
                  refine w_seq ?_
                  refine w_ops ?_
                  refine wo_step (v := (.i .i64 x7)) (s_pure (p_mv g7)) ?_
                  refine wo_step (v := (.i .i64 x18)) (s_pure (p_mv g5)) ?_
                  have hq := forceB_inv hr
                  clear hr
                  obtain ⟨c40, e40, hr⟩ := hq
                  refine wo_step (v := (.b c40)) (s_pure (p_bin rfl rfl (b_lss.trans (cb e40)))) ?_
                  refine wo_nil ?_
                  refine nx_norm ?_
                  have hq := cond_inv hr
                  clear hr
                  rcases hq with ⟨rfl, hr⟩ | ⟨rfl, hr⟩
                  · refine w_condT rfl ?_
                    refine w_skip ?_
                    refine nx_norm ?_
                    refine w_seq ?_
                    refine w_block ?_
                    refine w_seq ?_
                    refine w_ops ?_
                    refine wo_step (v := v0) (s_pure (p_mv g0)) ?_
                    refine wo_step (v := (.i .i64 x6)) (s_pure (p_mv g6)) ?_
                    have hq := bindO_inv hr
                    clear hr
                    obtain ⟨v45, e45, hr⟩ := hq
                    refine wo_step (v := v45) (s_pure (o_ixS rfl rfl e45)) ?_
                    have hq := bindO_inv hr
                    clear hr
                    obtain ⟨v46, e46, hr⟩ := hq
                    refine wo_step (v := v46) (s_ld rfl e46) ?_
                    refine wo_step (v := (.i .i64 x7)) (s_pure (p_mv g7)) ?_
                    have hq := bindO_inv hr
                    clear hr
                    obtain ⟨v48, e48, hr⟩ := hq
                    refine wo_step (v := v48) (s_pure (o_ixS rfl rfl e48)) ?_
                    have hq := bindO_inv hr
                    clear hr
                    obtain ⟨v49, e49, hr⟩ := hq
                    have hq := asI_inv hr
                    clear hr
                    obtain ⟨x49, rfl, hr⟩ := hq
                    refine wo_step (v := (.i .i64 x49)) (s_ld rfl e49) ?_
                    have hq := forceB_inv hr
                    clear hr
                    obtain ⟨c50, e50, hr⟩ := hq
                    refine wo_step (v := (.b c50)) (s_pure (p_bin rfl rfl (b_lss.trans (cb e50)))) ?_
                    refine wo_step (v := (.b c50)) (s_pure (p_mv rfl)) ?_
                    have hq := bindO_inv hr
                    clear hr
                    obtain ⟨o_1, hr, hk⟩ := hq
                    refine wo_join 9 (g43_J3 v0 v1 x18 x6 x7 m0 o_1) ?_ ?_
                    · clear hk
                      have hq := cond_inv hr
                      clear hr
                      rcases hq with ⟨rfl, hr⟩ | ⟨rfl, hr⟩
                      · refine wo_skip (v := (.b true)) rfl rfl ?_
                        refine wo_skip (v := (.b true)) rfl rfl ?_
                        refine wo_skip (v := (.b true)) rfl rfl ?_
                        refine wo_skip (v := (.b true)) rfl rfl ?_
                        refine wo_skip (v := (.b true)) rfl rfl ?_
                        refine wo_skip (v := (.b true)) rfl rfl ?_
                        refine wo_skip (v := (.b true)) rfl rfl ?_
                        refine wo_skip (v := (.b true)) rfl rfl ?_
                        refine wo_step (v := (.b true)) (s_pure (p_pickT rfl rfl)) ?_
                        refine wo_nil ?_
                        cases hr
                        exact ⟨_, _, rfl, rfl, gl rfl, gl g0, gl g1, gl g5, gl g6, gl g7⟩
                      · refine wo_take (v := v0) rfl (s_pure (p_mv g0)) ?_
                        refine wo_take (v := (.i .i64 x6)) rfl (s_pure (p_mv g6)) ?_
                        have hq := bindO_inv hr
                        clear hr
                        obtain ⟨v54, e54, hr⟩ := hq
                        refine wo_take (v := v54) rfl (s_pure (o_ixS rfl rfl e54)) ?_
                        have hq := bindO_inv hr
                        clear hr
                        obtain ⟨v55, e55, hr⟩ := hq
                        refine wo_take (v := v55) rfl (s_ld rfl e55) ?_
                        refine wo_take (v := (.i .i64 x7)) rfl (s_pure (p_mv g7)) ?_
                        have hq := bindO_inv hr
                        clear hr
                        obtain ⟨v57, e57, hr⟩ := hq
                        refine wo_take (v := v57) rfl (s_pure (o_ixS rfl rfl e57)) ?_
                        have hq := bindO_inv hr
                        clear hr
                        obtain ⟨v58, e58, hr⟩ := hq
                        have hq := asI_inv hr
                        clear hr
                        obtain ⟨x58, rfl, hr⟩ := hq
                        refine wo_take (v := (.i .i64 x58)) rfl (s_ld rfl e58) ?_
                        have hq := forceB_inv hr
                        clear hr
                        obtain ⟨c59, e59, hr⟩ := hq
                        refine wo_take (v := (.b c59)) rfl (s_pure (p_bin rfl rfl (b_gtr.trans (cb e59)))) ?_
                        refine wo_step (v := (.b c59)) (s_pure (p_pickF rfl rfl)) ?_
                        refine wo_nil ?_
                        cases hr
                        exact ⟨_, _, rfl, rfl, gl rfl, gl g0, gl g1, gl g5, gl g6, gl g7⟩
                    · clear hr
                      have hr := hk
                      clear hk
                      obtain ⟨c60, ho⟩ : ∃ z, z = o_1 := ⟨_, rfl⟩
                      subst ho
                      rintro mm_1 t_4 ⟨rfl, g60, g0, g1, g5, g6, g7⟩
                      refine wo_nil ?_
                      refine nx_norm ?_
                      have hq := cond_inv hr
                      clear hr
                      rcases hq with ⟨rfl, hr⟩ | ⟨rfl, hr⟩
                      · refine w_condT g60 ?_
                        refine w_seq ?_
                        refine w_ops ?_
                        refine wo_step (v := (.i .i64 2)) (s_pure (p_mv rfl)) ?_
                        refine wo_nil ?_
                        refine nx_norm ?_
                        refine w_ret ?_
                        refine bk_ret ?_
                        refine nx_ret ?_
                        cases hr
                        exact ⟨_, _, rfl, ne_norm_ret, rfl, rfl, gl rfl⟩
                      · refine w_condF g60 ?_
                        refine w_skip ?_
                        refine bk_norm ?_
                        refine nx_norm ?_
                        refine w_ops ?_
                        refine wo_step (v := (.i .i64 x7)) (s_pure (p_mv g7)) ?_
                        have hq := forceI_inv hr
                        clear hr
                        obtain ⟨x42, e42, hr⟩ := hq
                        refine wo_step (v := (.i .i64 x42)) (s_pure (p_bin rfl rfl (b_add.trans (ci e42)))) ?_
                        refine wo_step (v := (.i .i64 x42)) (s_pure (p_mv rfl)) ?_
                        refine wo_nil ?_
                        cases hr
                        exact ⟨_, _, rfl, rfl, rfl, gl rfl, gl g0, gl g1, gl g5, gl g6⟩
                  · refine w_condF rfl ?_
                    refine w_exit ?_
                    refine nx_exit ?_
                    cases hr
                    exact ⟨_, _, rfl, ne_norm_exit, rfl, rfl, gl g0, gl g1, gl g5, gl g6⟩
                · rcases o_2 with o_2 | o_2
                  · rintro _ mm_2 t_5 ⟨rfl, rfl, g0, g1, g5, g6⟩
                    refine bk_hit ?_
                    refine bk_norm ?_
                    refine nx_norm ?_
                    refine w_ops ?_
                    refine wo_step (v := (.i .i64 x6)) (s_pure (p_mv g6)) ?_
                    have hq := forceI_inv hr
                    clear hr
                    obtain ⟨x30, e30, hr⟩ := hq
                    refine wo_step (v := (.i .i64 x30)) (s_pure (p_bin rfl rfl (b_add.trans (ci e30)))) ?_
                    refine wo_step (v := (.i .i64 x30)) (s_pure (p_mv rfl)) ?_
                    refine wo_nil ?_
                    cases hr
                    exact ⟨_, _, rfl, rfl, rfl, gl rfl, gl g0, gl g1, gl g5⟩
                  · obtain ⟨x4, ho⟩ : ∃ z, z = o_2 := ⟨_, rfl⟩
                    subst ho
                    rintro _ mm_3 t_6 ⟨rfl, rfl, g4⟩
                    refine bk_ret ?_
                    refine bk_ret ?_
                    refine nx_ret ?_
                    cases hr
                    exact ⟨_, _, rfl, ne_norm_ret, rfl, rfl, gl g4⟩
            · refine w_condF rfl ?_
              refine w_exit ?_
              refine nx_exit ?_
              cases hr
              exact ⟨_, _, rfl, ne_norm_exit, rfl, rfl, gl g0, gl g1⟩
          · rcases o_3 with o_3 | o_3
            · rintro _ mm_9 t_7 ⟨rfl, rfl, g0, g1⟩
              refine bk_hit ?_
              refine nx_norm ?_
              refine w_seq ?_
              refine w_seq ?_
              refine w_ops ?_
              refine wo_step (v := v1) (s_pure (p_mv g1)) ?_
              have hq := bindO_inv hr
              clear hr
              obtain ⟨v62, e62, hr⟩ := hq
              have hq := asI_inv hr
              clear hr
              obtain ⟨x62, rfl, hr⟩ := hq
              refine wo_step (v := (.i .i64 x62)) (s_pure (o_len rfl e62)) ?_
              refine wo_step (v := v0) (s_pure (p_mv g0)) ?_
              have hq := bindO_inv hr
              clear hr
              obtain ⟨v64, e64, hr⟩ := hq
              have hq := asI_inv hr
              clear hr
              obtain ⟨x64, rfl, hr⟩ := hq
              refine wo_step (v := (.i .i64 x64)) (s_pure (o_len rfl e64)) ?_
              have hq := forceB_inv hr
              clear hr
              obtain ⟨c65, e65, hr⟩ := hq
              refine wo_step (v := (.b c65)) (s_pure (p_bin rfl rfl (b_neq.trans (cb e65)))) ?_
              refine wo_nil ?_
              refine nx_norm ?_
              have hq := cond_inv hr
              clear hr
              rcases hq with ⟨rfl, hr⟩ | ⟨rfl, hr⟩
              · refine w_condT rfl ?_
                refine w_seq ?_
                refine w_ops ?_
                refine wo_step (v := (.i .i64 2)) (s_pure (p_mv rfl)) ?_
                refine wo_nil ?_
                refine nx_norm ?_
                refine w_ret ?_
                refine nx_ret ?_
                exact qf ret_ok (rt rfl rn) hr
              · refine w_condF rfl ?_
                refine w_skip ?_
                refine nx_norm ?_
                refine w_seq ?_
                refine w_seq ?_
                refine w_ops ?_
                refine wo_step (v := (.i .i64 0)) (s_pure (p_mv rfl)) ?_
                refine wo_nil ?_
                refine nx_norm ?_
                refine w_block ?_
                have hq := bindO_inv hr
                clear hr
                obtain ⟨o_5, hl_1, hr⟩ := hq
                obtain ⟨n_1, hl_1⟩ := hM.loop _ _ _ hl_1
                refine jp_mono (w_loop _ (g43_I4 v1 m0) (g43_J4 v1 m0) ?_ n_1 _ _ _ _ hl_1 ⟨rfl, gl rfl, gl g1⟩) ?_
                · clear hr hl_1
                  intro s mm_8 t_8 o hi hr
                  obtain ⟨x8, hs⟩ : ∃ z, z = s := ⟨_, rfl⟩
                  subst hs
                  obtain ⟨rfl, g8, g1⟩ := hi
                  unfold g43_b4 at hr
                  refine w_seq ?_
                  refine w_seq ?_
                  refine w_ops ?_
                  refine wo_step (v := (.i .i64 x8)) (s_pure (p_mv g8)) ?_
                  refine wo_step (v := v1) (s_pure (p_mv g1)) ?_
                  have hq := bindO_inv hr
                  clear hr
                  obtain ⟨v68, e68, hr⟩ := hq
                  have hq := asI_inv hr
                  clear hr
                  obtain ⟨x68, rfl, hr⟩ := hq
                  refine wo_step (v := (.i .i64 x68)) (s_pure (o_len rfl e68)) ?_
                  have hq := forceB_inv hr
                  clear hr
                  obtain ⟨c69, e69, hr⟩ := hq
                  refine wo_step (v := (.b c69)) (s_pure (p_bin rfl rfl (b_lss.trans (cb e69)))) ?_
                  refine wo_nil ?_
                  refine nx_norm ?_
                  have hq := cond_inv hr
                  clear hr
                  rcases hq with ⟨rfl, hr⟩ | ⟨rfl, hr⟩
                  · refine w_condT rfl ?_
                    refine w_skip ?_
                    refine nx_norm ?_
                    refine w_seq ?_
                    refine w_block ?_
                    refine w_seq ?_
                    refine w_ops ?_
                    refine wo_step (v := v1) (s_pure (p_mv g1)) ?_
                    refine wo_step (v := (.i .i64 x8)) (s_pure (p_mv g8)) ?_
                    have hq := bindO_inv hr
                    clear hr
                    obtain ⟨v74, e74, hr⟩ := hq
                    refine wo_step (v := v74) (s_pure (o_ixS rfl rfl e74)) ?_
                    have hq := bindO_inv hr
                    clear hr
                    obtain ⟨v75, e75, hr⟩ := hq
                    have hq := asI_inv hr
                    clear hr
                    obtain ⟨x75, rfl, hr⟩ := hq
                    refine wo_step (v := (.i .i64 x75)) (s_ld rfl e75) ?_
                    have hq := forceB_inv hr
                    clear hr
                    obtain ⟨c76, e76, hr⟩ := hq
                    refine wo_step (v := (.b c76)) (s_pure (p_bin rfl rfl (b_neq.trans (cb e76)))) ?_
                    refine wo_step (v := (.b c76)) (s_pure (p_mv rfl)) ?_
                    have hq := bindO_inv hr
                    clear hr
                    obtain ⟨o_4, hr, hk⟩ := hq
                    refine wo_join 6 (g43_J5 v1 x8 m0 o_4) ?_ ?_
                    · clear hk
                      have hq := cond_inv hr
                      clear hr
                      rcases hq with ⟨rfl, hr⟩ | ⟨rfl, hr⟩
                      · refine wo_take (v := v1) rfl (s_pure (p_mv g1)) ?_
                        refine wo_take (v := (.i .i64 x8)) rfl (s_pure (p_mv g8)) ?_
                        have hq := bindO_inv hr
                        clear hr
                        obtain ⟨v80, e80, hr⟩ := hq
                        refine wo_take (v := v80) rfl (s_pure (o_ixS rfl rfl e80)) ?_
                        have hq := bindO_inv hr
                        clear hr
                        obtain ⟨v81, e81, hr⟩ := hq
                        have hq := asI_inv hr
                        clear hr
                        obtain ⟨x81, rfl, hr⟩ := hq
                        refine wo_take (v := (.i .i64 x81)) rfl (s_ld rfl e81) ?_
                        have hq := forceB_inv hr
                        clear hr
                        obtain ⟨c82, e82, hr⟩ := hq
                        refine wo_take (v := (.b c82)) rfl (s_pure (p_bin rfl rfl (b_neq.trans (cb e82)))) ?_
                        refine wo_step (v := (.b c82)) (s_pure (p_pickT rfl rfl)) ?_
                        refine wo_nil ?_
                        cases hr
                        exact ⟨_, _, rfl, rfl, gl rfl, gl g1, gl g8⟩
                      · refine wo_skip (v := (.b false)) rfl rfl ?_
                        refine wo_skip (v := (.b false)) rfl rfl ?_
                        refine wo_skip (v := (.b false)) rfl rfl ?_
                        refine wo_skip (v := (.b false)) rfl rfl ?_
                        refine wo_skip (v := (.b false)) rfl rfl ?_
                        refine wo_step (v := (.b false)) (s_pure (p_pickF rfl rfl)) ?_
                        refine wo_nil ?_
                        cases hr
                        exact ⟨_, _, rfl, rfl, gl rfl, gl g1, gl g8⟩
                    · clear hr
                      have hr := hk
                      clear hk
                      obtain ⟨c83, ho⟩ : ∃ z, z = o_4 := ⟨_, rfl⟩
                      subst ho
                      rintro mm_5 t_9 ⟨rfl, g83, g1, g8⟩
                      refine wo_nil ?_
                      refine nx_norm ?_
                      have hq := cond_inv hr
                      clear hr
                      rcases hq with ⟨rfl, hr⟩ | ⟨rfl, hr⟩
                      · refine w_condT g83 ?_
                        refine w_seq ?_
                        refine w_ops ?_
                        refine wo_step (v := (.i .i64 2)) (s_pure (p_mv rfl)) ?_
                        refine wo_nil ?_
                        refine nx_norm ?_
                        refine w_ret ?_
                        refine bk_ret ?_
                        refine nx_ret ?_
                        cases hr
                        exact ⟨_, _, rfl, ne_norm_ret, rfl, rfl, gl rfl⟩
                      · refine w_condF g83 ?_
                        refine w_skip ?_
                        refine bk_norm ?_
                        refine nx_norm ?_
                        refine w_ops ?_
                        refine wo_step (v := (.i .i64 x8)) (s_pure (p_mv g8)) ?_
                        have hq := forceI_inv hr
                        clear hr
                        obtain ⟨x71, e71, hr⟩ := hq
                        refine wo_step (v := (.i .i64 x71)) (s_pure (p_bin rfl rfl (b_add.trans (ci e71)))) ?_
                        refine wo_step (v := (.i .i64 x71)) (s_pure (p_mv rfl)) ?_
                        refine wo_nil ?_
                        cases hr
                        exact ⟨_, _, rfl, rfl, rfl, gl rfl, gl g1⟩
                  · refine w_condF rfl ?_
                    refine w_exit ?_
                    refine nx_exit ?_
                    cases hr
                    exact ⟨_, _, rfl, ne_norm_exit, rfl, rfl⟩
                · rcases o_5 with o_5 | o_5
                  · rintro _ mm_6 t_10 ⟨rfl, rfl⟩
                    refine bk_hit ?_
                    refine nx_norm ?_
                    refine w_seq ?_
                    refine w_ops ?_
                    refine wo_step (v := (.i .i64 0)) (s_pure (p_mv rfl)) ?_
                    refine wo_nil ?_
                    refine nx_norm ?_
                    refine w_ret ?_
                    exact qf ret_ok (rt rfl rn) hr
                  · obtain ⟨x4_1, ho⟩ : ∃ z, z = o_5 := ⟨_, rfl⟩
                    subst ho
                    rintro _ mm_7 t_11 ⟨rfl, rfl, g4⟩
                    refine bk_ret ?_
                    refine nx_ret ?_
                    exact qf ret_ok (rt g4 rn) hr
            · obtain ⟨x4_2, ho⟩ : ∃ z, z = o_3 := ⟨_, rfl⟩
              subst ho
              rintro _ mm_10 t_12 ⟨rfl, rfl, g4⟩
              refine bk_ret ?_
              refine nx_ret ?_
              exact qf ret_ok (rt g4 rn) hr

/- dibber/luck.checkRecord -/
abbrev g49_J0 (x0 : Int) (v1 : AVal) (v2 : AVal) (m0 : Mm) (o : Bool) (m1 : Mm) (t1 : Tr) : Prop :=
  match o with
  | c12 => m0 = m1 ∧ t1.get 12 = (.b c12) ∧ t1.get 0 = (.i .i64 x0) ∧ t1.get 1 = v1 ∧ t1.get 2 = v2
abbrev g49_J1  (o : Bool × Mm) (m1 : Mm) (t1 : Tr) : Prop :=
  match o with
  | (c28, m_2) => m_2 = m1 ∧ t1.get 28 = (.b c28)
def g49 (M : Means) (ro : List ABlk) (x0 : Int) (v1 : AVal) (v2 : AVal) (m0 : Mm) : Option (AVal × Heap × Nat × Nat) :=
  forceB (ltI x0 1) fun c8 =>
  bindO (cond c8 (
    some true) (
    forceB (ltI 20 x0) fun c11 =>
    some c11)) fun c12 =>
  cond c12 (
    finM m0.h.length (tupA [(.i .i64 2)]) m0) (
    bindO (evP .e (.len false (.c v1))) fun v14 =>
    asI .i64 v14 fun x14 =>
    forceB (ltI 200 x14) fun c15 =>
    cond c15 (
      finM m0.h.length (tupA [(.i .i64 3)]) m0) (
      bindO (evP .e (.len false (.c v1))) fun v18 =>
      asI .i64 v18 fun x18 =>
      bindP (callM M.call m0 68 [v1, (.i .i64 x18), (.i .i64 x0)]) fun v20 m_1 =>
      asB v20 fun c20 =>
      forceB (!c20) fun c21 =>
      bindO (cond c21 (
        some (true, m_1)) (
        bindO (evP .e (.len false (.c v1))) fun v25 =>
        asI .i64 v25 fun x25 =>
        bindP (callM M.call m_1 61 [v2, (.i .i64 x25)]) fun v26 m_3 =>
        asB v26 fun c26 =>
        forceB (!c26) fun c27 =>
        some (c27, m_3))) fun ⟨c28, m_2⟩ =>
      cond c28 (
        finM m0.h.length (tupA [(.i .i64 2)]) m_2) (
        finM m0.h.length (tupA [(.i .i64 0)]) m_2)))

theorem g49_ok {ro : List ABlk} {O : Caller} {M : Means} (hM : M.Ok ⟨F, O⟩ ro) {x0 v1 v2 h r} (ho : O 49 [(.i .i64 x0), v1, v2] h = none) (hr : g49 M ro x0 v1 v2 ⟨h, h.length, h.length⟩ = some r) : callX ⟨F, O⟩ ro 49 [(.i .i64 x0), v1, v2] h = some r := by
  refine callX_of (F := ⟨F, O⟩) (fn := fn49) (g := g49 M ro x0 v1 v2) ho rfl rfl hr ?_
  clear ho
  clear hr
  intro m0 t0 ht hr
  have g0 : t0.get 0 = (.i .i64 x0) := ht 0
  have g1 : t0.get 1 = v1 := ht 1
  have g2 : t0.get 2 = v2 := ht 2
  clear ht
  unfold g49 at hr
  refine w_seq ?_
  refine w_ops ?_
  refine wo_step (v := (.i .i64 0)) (s_pure (p_mv rfl)) ?_
  refine wo_nil ?_
  refine nx_norm ?_
  refine w_seq ?_
  refine w_seq ?_
  refine w_ops ?_
  refine wo_step (v := (.i .i64 x0)) (s_pure (p_mv g0)) ?_
  have hq := forceB_inv hr
  clear hr
  obtain ⟨c8, e8, hr⟩ := hq
  refine wo_step (v := (.b c8)) (s_pure (p_bin rfl rfl (b_lss.trans (cb e8)))) ?_
  refine wo_step (v := (.b c8)) (s_pure (p_mv rfl)) ?_
  have hq := bindO_inv hr
  clear hr
  obtain ⟨o, hr, hk⟩ := hq
  refine wo_join 3 (g49_J0 x0 v1 v2 m0 o) ?_ ?_
  · clear hk
    have hq := cond_inv hr
    clear hr
    rcases hq with ⟨rfl, hr⟩ | ⟨rfl, hr⟩
    · refine wo_skip (v := (.b true)) rfl rfl ?_
      refine wo_skip (v := (.b true)) rfl rfl ?_
      refine wo_step (v := (.b true)) (s_pure (p_pickT rfl rfl)) ?_
      refine wo_nil ?_
      cases hr
      exact ⟨_, _, rfl, rfl, gl rfl, gl g0, gl g1, gl g2⟩
    · refine wo_take (v := (.i .i64 x0)) rfl (s_pure (p_mv g0)) ?_
      have hq := forceB_inv hr
      clear hr
      obtain ⟨c11, e11, hr⟩ := hq
      refine wo_take (v := (.b c11)) rfl (s_pure (p_bin rfl rfl (b_gtr.trans (cb e11)))) ?_
      refine wo_step (v := (.b c11)) (s_pure (p_pickF rfl rfl)) ?_
      refine wo_nil ?_
      cases hr
      exact ⟨_, _, rfl, rfl, gl rfl, gl g0, gl g1, gl g2⟩
  · clear hr
    have hr := hk
    clear hk
    obtain ⟨c12, ho⟩ : ∃ z, z = o := ⟨_, rfl⟩
    subst ho
    rintro mm t_1 ⟨rfl, g12, g0, g1, g2⟩
    refine wo_nil ?_
    refine nx_norm ?_
    have hq := cond_inv hr
    clear hr
    rcases hq with ⟨rfl, hr⟩ | ⟨rfl, hr⟩
    · refine w_condT g12 ?_
      refine w_seq ?_
      refine w_ops ?_
      refine wo_step (v := (.i .i64 2)) (s_pure (p_mv rfl)) ?_
      refine wo_nil ?_
      refine nx_norm ?_
      refine w_ret ?_
      refine nx_ret ?_
      exact qf ret_ok (rt rfl rn) hr
    · refine w_condF g12 ?_
      refine w_skip ?_
      refine nx_norm ?_
      refine w_seq ?_
      refine w_seq ?_
      refine w_ops ?_
      refine wo_step (v := v1) (s_pure (p_mv g1)) ?_
      have hq := bindO_inv hr
      clear hr
      obtain ⟨v14, e14, hr⟩ := hq
      have hq := asI_inv hr
      clear hr
      obtain ⟨x14, rfl, hr⟩ := hq
      refine wo_step (v := (.i .i64 x14)) (s_pure (o_len rfl e14)) ?_
      have hq := forceB_inv hr
      clear hr
      obtain ⟨c15, e15, hr⟩ := hq
      refine wo_step (v := (.b c15)) (s_pure (p_bin rfl rfl (b_gtr.trans (cb e15)))) ?_
      refine wo_nil ?_
      refine nx_norm ?_
      have hq := cond_inv hr
      clear hr
      rcases hq with ⟨rfl, hr⟩ | ⟨rfl, hr⟩
      · refine w_condT rfl ?_
        refine w_seq ?_
        refine w_ops ?_
        refine wo_step (v := (.i .i64 3)) (s_pure (p_mv rfl)) ?_
        refine wo_nil ?_
        refine nx_norm ?_
        refine w_ret ?_
        refine nx_ret ?_
        exact qf ret_ok (rt rfl rn) hr
      · refine w_condF rfl ?_
        refine w_skip ?_
        refine nx_norm ?_
        refine w_seq ?_
        refine w_seq ?_
        refine w_ops ?_
        refine wo_step (v := v1) (s_pure (p_mv g1)) ?_
        refine wo_step (v := v1) (s_pure (p_mv g1)) ?_
        have hq := bindO_inv hr
        clear hr
        obtain ⟨v18, e18, hr⟩ := hq
        have hq := asI_inv hr
        clear hr
        obtain ⟨x18, rfl, hr⟩ := hq
        refine wo_step (v := (.i .i64 x18)) (s_pure (o_len rfl e18)) ?_
        refine wo_step (v := (.i .i64 x0)) (s_pure (p_mv g0)) ?_
        have hq := bindP_inv hr
        clear hr
        obtain ⟨v20, m_1, e20, hr⟩ := hq
        have hq := asB_inv hr
        clear hr
        obtain ⟨c20, rfl, hr⟩ := hq
        refine wo_step (v := (.b c20)) (s_call (mc rfl (mc rfl (mc rfl mn))) (callM_le hM.call e20)) ?_
        have hq := forceB_inv hr
        clear hr
        obtain ⟨c21, e21, hr⟩ := hq
        refine wo_step (v := (.b c21)) (s_pure ((p_not rfl).trans (cb e21))) ?_
        refine wo_step (v := (.b c21)) (s_pure (p_mv rfl)) ?_
        have hq := bindO_inv hr
        clear hr
        obtain ⟨o_1, hr, hk⟩ := hq
        refine wo_join 6 (g49_J1  o_1) ?_ ?_
        · clear hk
          have hq := cond_inv hr
          clear hr
          rcases hq with ⟨rfl, hr⟩ | ⟨rfl, hr⟩
          · refine wo_skip (v := (.b true)) rfl rfl ?_
            refine wo_skip (v := (.b true)) rfl rfl ?_
            refine wo_skip (v := (.b true)) rfl rfl ?_
            refine wo_skip (v := (.b true)) rfl rfl ?_
            refine wo_skip (v := (.b true)) rfl rfl ?_
            refine wo_step (v := (.b true)) (s_pure (p_pickT rfl rfl)) ?_
            refine wo_nil ?_
            cases hr
            exact ⟨_, _, rfl, rfl, gl rfl⟩
          · refine wo_take (v := v2) rfl (s_pure (p_mv g2)) ?_
            refine wo_take (v := v1) rfl (s_pure (p_mv g1)) ?_
            have hq := bindO_inv hr
            clear hr
            obtain ⟨v25, e25, hr⟩ := hq
            have hq := asI_inv hr
            clear hr
            obtain ⟨x25, rfl, hr⟩ := hq
            refine wo_take (v := (.i .i64 x25)) rfl (s_pure (o_len rfl e25)) ?_
            have hq := bindP_inv hr
            clear hr
            obtain ⟨v26, m_3, e26, hr⟩ := hq
            have hq := asB_inv hr
            clear hr
            obtain ⟨c26, rfl, hr⟩ := hq
            refine wo_take (v := (.b c26)) rfl (s_call (mc rfl (mc rfl mn)) (callM_le hM.call e26)) ?_
            have hq := forceB_inv hr
            clear hr
            obtain ⟨c27, e27, hr⟩ := hq
            refine wo_take (v := (.b c27)) rfl (s_pure ((p_not rfl).trans (cb e27))) ?_
            refine wo_step (v := (.b c27)) (s_pure (p_pickF rfl rfl)) ?_
            refine wo_nil ?_
            cases hr
            exact ⟨_, _, rfl, rfl, gl rfl⟩
        · clear hr
          have hr := hk
          clear hk
          obtain ⟨c28, m_2⟩ := o_1
          rintro mm_1 t_2 ⟨rfl, g28⟩
          refine wo_nil ?_
          refine nx_norm ?_
          have hq := cond_inv hr
          clear hr
          rcases hq with ⟨rfl, hr⟩ | ⟨rfl, hr⟩
          · refine w_condT g28 ?_
            refine w_seq ?_
            refine w_ops ?_
            refine wo_step (v := (.i .i64 2)) (s_pure (p_mv rfl)) ?_
            refine wo_nil ?_
            refine nx_norm ?_
            refine w_ret ?_
            refine nx_ret ?_
            exact qf ret_ok (rt rfl rn) hr
          · refine w_condF g28 ?_
            refine w_skip ?_
            refine nx_norm ?_
            refine w_seq ?_
            refine w_ops ?_
            refine wo_step (v := (.i .i64 0)) (s_pure (p_mv rfl)) ?_
            refine wo_nil ?_
            refine nx_norm ?_
            refine w_ret ?_
            exact qf ret_ok (rt rfl rn) hr

/- dibber/luck.listen -/
abbrev g50_I0 (v0 : AVal) (v2 : AVal) (v12 : AVal) (v1 : AVal) (x14 : Int) (s : Int × Mm) (m1 : Mm) (t1 : Tr) : Prop :=
  match s with
  | (x15, m_2) => m_2 = m1 ∧ t1.get 15 = (.i .i64 x15) ∧ t1.get 0 = v0 ∧ t1.get 2 = v2 ∧ t1.get 7 = v12 ∧ t1.get 13 = v1 ∧ t1.get 14 = (.i .i64 x14)
abbrev g50_J0 (v0 : AVal) (v2 : AVal) (v12 : AVal) (v1 : AVal) (x14 : Int) (o : Mm) (e : AExit) (m1 : Mm) (t1 : Tr) : Prop :=
  match o with
  | mo => e = (.exit 0) ∧ mo = m1 ∧ t1.get 7 = v12
def g50_b0 (M : Means) (ro : List ABlk) (v0 : AVal) (v2 : AVal) (v12 : AVal) (v1 : AVal) (x14 : Int) (x15 : Int) (m_2 : Mm) : Option ((Int × Mm) ⊕ (Mm)) :=
  forceB (ltI x15 x14) fun c16 =>
  cond c16 (
    bindO (evP .e (.ixS 1 (.c v1) (.c (.i .i64 x15)))) fun v18 =>
    bindO (ldM ro m_2 true 1 v18) fun v19 =>
    bindP (calliM M.call m_2 [(71, (99, [])), (74, (103, [])), (75, (99, [(0, (1, false))])), (76, (105, []))] v0 [v19]) fun v24 m_3 =>
    asI .i64 v24 fun x24 =>
    bindO (evP .e (.ixS 1 (.c v12) (.c (.i .i64 x15)))) fun v25 =>
    bindP (stepM ro m_3 (.st 1 (.c v25) (.c (.i .i64 x24)))) fun vn m_4 =>
    bindO (evP .e (.ixS 1 (.c v12) (.c (.i .i64 x15)))) fun v30 =>
    bindO (evP .e (.ixS 1 (.c v2) (.c (.i .i64 x15)))) fun v34 =>
    bindO (some (AVal.bm "dibber/luck.learn" v0)) fun v36 =>
    bindO (evP .e (.nilm [("Error", [(8, (84, [])), (10, (86, [])), (11, (88, [])), (14, (90, [])), (19, (97, []))]), ("RuntimeError", [(8, (85, [])), (10, (87, [])), (11, (89, [])), (14, (91, [])), (19, (98, []))]), ("dibber/luck.foretell", [(71, (99, [])), (74, (103, [])), (75, (99, [(0, (1, false))])), (76, (105, []))]), ("dibber/luck.learn", [(71, (100, [])), (74, (104, [])), (75, (100, [(0, (1, false))])), (76, (100, [(0, (1, false))]))]), ("String", [(116, (106, []))])] (.c v36))) fun v37 =>
    bindO (ldA ro m_4.h true 1 v30) fun v31 =>
    asI .i64 v31 fun x31 =>
    bindO (ldA ro m_4.h true 1 v34) fun v35 =>
    asI .i64 v35 fun x35 =>
    bindP (calliM M.call m_4 [(71, (100, [])), (74, (104, [])), (75, (100, [(0, (1, false))])), (76, (100, [(0, (1, false))]))] v0 [v19, (.i .i64 x31), (.i .i64 x35)]) fun v39 m_5 =>
    forceI (wr .i64 (x15 + 1)) fun x40 =>
    some (.inl (x40, m_5))) (
    some (.inr m_2))
def g50 (M : Means) (ro : List ABlk) (v0 : AVal) (v1 : AVal) (v2 : AVal) (m0 : Mm) : Option (AVal × Heap × Nat × Nat) :=
  bindO (evP .e (.len false (.c v1))) fun v11 =>
  asI .i64 v11 fun x11 =>
  bindP (stepM ro m0 (.mk 3 1 8 [(AVal.i IntKind.i64 0)] (.c (.i .i64 x11)) (.c (.i .i64 x11)))) fun v12 m_1 =>
  bindO (evP .e (.len false (.c v1))) fun v14 =>
  asI .i64 v14 fun x14 =>
  bindO (M.loop (S := Int × Mm) (R := Mm) (fun s => g50_b0 M ro v0 v2 v12 v1 x14 s.1 s.2) (0, m_1)) fun m_6 =>
  finM m0.h.length (tupA [v12]) m_6

theorem g50_ok {ro : List ABlk} {O : Caller} {M : Means} (hM : M.Ok ⟨F, O⟩ ro) {v0 v1 v2 h r} (ho : O 50 [v0, v1, v2] h = none) (hr : g50 M ro v0 v1 v2 ⟨h, h.length, h.length⟩ = some r) : callX ⟨F, O⟩ ro 50 [v0, v1, v2] h = some r := by
  refine callX_of (F := ⟨F, O⟩) (fn := fn50) (g := g50 M ro v0 v1 v2) ho rfl rfl hr ?_
  clear ho
  clear hr
  intro m0 t0 ht hr
  have g0 : t0.get 0 = v0 := ht 0
  have g1 : t0.get 1 = v1 := ht 1
  have g2 : t0.get 2 = v2 := ht 2
  clear ht
  unfold g50 at hr
  refine w_seq ?_
  refine w_ops ?_
  refine wo_step (v := AVal.nsl) (s_pure (p_mv rfl)) ?_
  refine wo_nil ?_
  refine nx_norm ?_
  refine w_seq ?_
  refine w_ops ?_
  refine wo_step (v := v1) (s_pure (p_mv g1)) ?_
  have hq := bindO_inv hr
  clear hr
  obtain ⟨v11, e11, hr⟩ := hq
  have hq := asI_inv hr
  clear hr
  obtain ⟨x11, rfl, hr⟩ := hq
  refine wo_step (v := (.i .i64 x11)) (s_pure (o_len rfl e11)) ?_
  have hq := bindP_inv hr
  clear hr
  obtain ⟨v12, m_1, e12, hr⟩ := hq
  refine wo_step (v := v12) (s_mk rfl rfl e12) ?_
  refine wo_step (v := v12) (s_pure (p_mv rfl)) ?_
  refine wo_nil ?_
  refine nx_norm ?_
  refine w_seq ?_
  refine w_seq ?_
  refine w_ops ?_
  refine wo_step (v := v1) (s_pure (p_mv g1)) ?_
  have hq := bindO_inv hr
  clear hr
  obtain ⟨v14, e14, hr⟩ := hq
  have hq := asI_inv hr
  clear hr
  obtain ⟨x14, rfl, hr⟩ := hq
  refine wo_step (v := (.i .i64 x14)) (s_pure (o_len rfl e14)) ?_
  refine wo_step (v := (.i .i64 0)) (s_pure (p_mv rfl)) ?_
  refine wo_nil ?_
  refine nx_norm ?_
  refine w_block ?_
  have hq := bindO_inv hr
  clear hr
  obtain ⟨o, hl, hr⟩ := hq
  obtain ⟨n, hl⟩ := hM.loop _ _ _ hl
  refine jp_mono (w_loop _ (g50_I0 v0 v2 v12 v1 x14) (g50_J0 v0 v2 v12 v1 x14) ?_ n _ _ _ _ hl ⟨rfl, gl rfl, gl g0, gl g2, gl rfl, gl rfl, gl rfl⟩) ?_
  · clear hr hl
    intro s mm_1 t_1 o hi hr
    obtain ⟨x15, m_2⟩ := s
    obtain ⟨rfl, g15, g0, g2, g7, g13, g14⟩ := hi
    unfold g50_b0 at hr
    refine w_seq ?_
    refine w_ops ?_
    have hq := forceB_inv hr
    clear hr
    obtain ⟨c16, e16, hr⟩ := hq
    refine wo_step (v := (.b c16)) (s_pure (p_bin g15 g14 (b_lss.trans (cb e16)))) ?_
    refine wo_nil ?_
    refine nx_norm ?_
    refine w_seq ?_
    have hq := cond_inv hr
    clear hr
    rcases hq with ⟨rfl, hr⟩ | ⟨rfl, hr⟩
    · refine w_condT rfl ?_
      refine w_skip ?_
      refine nx_norm ?_
      refine w_seq ?_
      refine w_block ?_
      refine w_seq ?_
      refine w_ops ?_
      refine wo_step (v := (.i .i64 x15)) (s_pure (p_mv g15)) ?_
      have hq := bindO_inv hr
      clear hr
      obtain ⟨v18, e18, hr⟩ := hq
      refine wo_step (v := v18) (s_pure (o_ixS g13 g15 e18)) ?_
      have hq := bindO_inv hr
      clear hr
      obtain ⟨v19, e19, hr⟩ := hq
      refine wo_step (v := v19) (s_ld rfl e19) ?_
      refine wo_step (v := (.i .i64 x15)) (s_pure (p_mv rfl)) ?_
      refine wo_step (v := v19) (s_pure (p_mv rfl)) ?_
      refine wo_nil ?_
      refine nx_norm ?_
      refine w_seq ?_
      refine w_ops ?_
      refine wo_step (v := v12) (s_pure (p_mv g7)) ?_
      refine wo_step (v := (.i .i64 x15)) (s_pure (p_mv rfl)) ?_
      refine wo_step (v := v0) (s_pure (p_mv g0)) ?_
      refine wo_step (v := v19) (s_pure (p_mv rfl)) ?_
      have hq := bindP_inv hr
      clear hr
      obtain ⟨v24, m_3, e24, hr⟩ := hq
      have hq := asI_inv hr
      clear hr
      obtain ⟨x24, rfl, hr⟩ := hq
      refine wo_step (v := (.i .i64 x24)) (s_calli rfl (mc rfl mn) (calliM_le hM.call e24)) ?_
      have hq := bindO_inv hr
      clear hr
      obtain ⟨v25, e25, hr⟩ := hq
      refine wo_step (v := v25) (s_pure (o_ixS rfl rfl e25)) ?_
      have hq := bindP_inv hr
      clear hr
      obtain ⟨vn, m_4, en, hr⟩ := hq
      refine wo_stepN (s_st rfl rfl en) ?_
      refine wo_nil ?_
      refine nx_norm ?_
      refine w_seq ?_
      refine w_ops ?_
      refine wo_step (v := v0) (s_pure (p_mv g0)) ?_
      refine wo_step (v := v19) (s_pure (p_mv rfl)) ?_
      refine wo_step (v := v12) (s_pure (p_mv g7)) ?_
      refine wo_step (v := (.i .i64 x15)) (s_pure (p_mv rfl)) ?_
      have hq := bindO_inv hr
      clear hr
      obtain ⟨v30, e30, hr⟩ := hq
      refine wo_step (v := v30) (s_pure (o_ixS rfl rfl e30)) ?_
      refine wo_step (v := v2) (s_pure (p_mv g2)) ?_
      refine wo_step (v := (.i .i64 x15)) (s_pure (p_mv rfl)) ?_
      have hq := bindO_inv hr
      clear hr
      obtain ⟨v34, e34, hr⟩ := hq
      refine wo_step (v := v34) (s_pure (o_ixS rfl rfl e34)) ?_
      have hq := bindO_inv hr
      clear hr
      obtain ⟨v36, e36, hr⟩ := hq
      refine wo_step (v := v36) (s_pure (o_mkbm rfl e36)) ?_
      have hq := bindO_inv hr
      clear hr
      obtain ⟨v37, e37, hr⟩ := hq
      refine wo_step (v := v37) (s_pure (o_nilm rfl e37)) ?_
      refine wo_step (v := v0) (s_pure (p_mv rfl)) ?_
      refine wo_nil ?_
      refine nx_norm ?_
      refine w_seq ?_
      refine w_any ?_
      have hq := bindO_inv hr
      clear hr
      obtain ⟨v31, e31, hr⟩ := hq
      have hq := asI_inv hr
      clear hr
      obtain ⟨x31, rfl, hr⟩ := hq
      refine wa_step (v := (.i .i64 x31)) (a_ld rfl e31) ?_
      have hq := bindO_inv hr
      clear hr
      obtain ⟨v35, e35, hr⟩ := hq
      have hq := asI_inv hr
      clear hr
      obtain ⟨x35, rfl, hr⟩ := hq
      refine wa_step (v := (.i .i64 x35)) (a_ld rfl e35) ?_
      refine wa_nil ?_
      refine ⟨m_4, rfl, ?_⟩
      refine nx_norm ?_
      refine w_ops ?_
      have hq := bindP_inv hr
      clear hr
      obtain ⟨v39, m_5, e39, hr⟩ := hq
      refine wo_step (v := v39) (s_calli rfl (mc rfl (mc rfl (mc rfl mn))) (calliM_le hM.call e39)) ?_
      refine wo_nil ?_
      refine bk_norm ?_
      refine nx_norm ?_
      refine w_ops ?_
      have hq := forceI_inv hr
      clear hr
      obtain ⟨x40, e40, hr⟩ := hq
      refine wo_step (v := (.i .i64 x40)) (s_pure (p_bin g15 rfl (b_add.trans (ci e40)))) ?_
      refine wo_step (v := (.i .i64 x40)) (s_pure (p_mv rfl)) ?_
      refine wo_nil ?_
      cases hr
      exact ⟨_, _, rfl, rfl, rfl, gl rfl, gl g0, gl g2, gl g7, gl g13, gl g14⟩
    · refine w_condF rfl ?_
      refine w_exit ?_
      refine nx_exit ?_
      cases hr
      exact ⟨_, _, rfl, ne_norm_exit, rfl, rfl, gl g7⟩
  · obtain ⟨m_6, ho⟩ : ∃ z, z = o := ⟨_, rfl⟩
    subst ho
    rintro _ mm t_2 ⟨rfl, rfl, g7⟩
    refine bk_hit ?_
    refine nx_norm ?_
    refine w_seq ?_
    refine w_ops ?_
    refine wo_step (v := v12) (s_pure (p_mv g7)) ?_
    refine wo_step (v := v12) (s_pure (p_mv rfl)) ?_
    refine wo_nil ?_
    refine nx_norm ?_
    refine w_ret ?_
    exact qf ret_ok (rt rfl rn) hr

/- dibber/luck.checkPoints -/
abbrev g56_J0 (v0 : AVal) (v1 : AVal) (m0 : Mm) (o : Bool) (m1 : Mm) (t1 : Tr) : Prop :=
  match o with
  | c19 => m0 = m1 ∧ t1.get 19 = (.b c19) ∧ t1.get 0 = v0 ∧ t1.get 1 = v1
abbrev g56_I1 (v0 : AVal) (v1 : AVal) (x21 : Int) (s : Int × Mm) (m1 : Mm) (t1 : Tr) : Prop :=
  match s with
  | (x22, m_1) => m_1 = m1 ∧ t1.get 22 = (.i .i64 x22) ∧ t1.get 0 = v0 ∧ t1.get 1 = v1 ∧ t1.get 20 = v0 ∧ t1.get 21 = (.i .i64 x21)
abbrev g56_J1 (v0 : AVal) (v1 : AVal) (x21 : Int) (o : (Mm ⊕ (Int × Mm))) (e : AExit) (m1 : Mm) (t1 : Tr) : Prop :=
  match o with
  | (.inl mo) => e = (.exit 0) ∧ mo = m1
  | (.inr (y4, mo)) => e = .ret ∧ mo = m1 ∧ t1.get 4 = (.i .i64 y4)
abbrev g56_J2 (v0 : AVal) (v1 : AVal) (x22 : Int) (x21 : Int) (o : Bool × Mm) (m1 : Mm) (t1 : Tr) : Prop :=
  match o with
  | (c38, m_2) => m_2 = m1 ∧ t1.get 38 = (.b c38) ∧ t1.get 0 = v0 ∧ t1.get 1 = v1 ∧ t1.get 5 = (.i .i64 x22) ∧ t1.get 20 = v0 ∧ t1.get 21 = (.i .i64 x21) ∧ t1.get 22 = (.i .i64 x22)
abbrev g56_J3 (v0 : AVal) (v1 : AVal) (x21 : Int) (x22 : Int) (m_2 : Mm) (o : Bool) (m1 : Mm) (t1 : Tr) : Prop :=
  match o with
  | c50 => m_2 = m1 ∧ t1.get 50 = (.b c50) ∧ t1.get 0 = v0 ∧ t1.get 1 = v1 ∧ t1.get 20 = v0 ∧ t1.get 21 = (.i .i64 x21) ∧ t1.get 22 = (.i .i64 x22)
def g56_b1 (M : Means) (ro : List ABlk) (v0 : AVal) (v1 : AVal) (x21 : Int) (x22 : Int) (m_1 : Mm) : Option ((Int × Mm) ⊕ ((Mm ⊕ (Int × Mm)))) :=
  forceB (ltI x22 x21) fun c23 =>
  cond c23 (
    bindO (evP .e (.ixS 1 (.c v0) (.c (.i .i64 x22)))) fun v25 =>
    bindO (ldM ro m_1 true 1 v25) fun v26 =>
    bindO (evP .e (.len false (.c v26))) fun v28 =>
    asI .i64 v28 fun x28 =>
    bindO (evP .e (.ixS 1 (.c v0) (.c (.i .i64 0)))) fun v30 =>
    bindO (ldM ro m_1 true 1 v30) fun v31 =>
    bindO (evP .e (.len false (.c v31))) fun v32 =>
    asI .i64 v32 fun x32 =>
    forceB (!eqI x28 x32) fun c33 =>
    bindO (cond c33 (
      some (true, m_1)) (
      bindP (callM M.call m_1 74 [v26]) fun v36 m_3 =>
      asB v36 fun c36 =>
      forceB (!c36) fun c37 =>
      some (c37, m_3))) fun ⟨c38, m_2⟩ =>
    cond c38 (
      some (.inr (.inr (2, m_2)))) (
      bindO (evP .e (.ixS 1 (.c v1) (.c (.i .i64 x22)))) fun v41 =>
      bindO (ldM ro m_2 true 1 v41) fun v42 =>
      asI .i64 v42 fun x42 =>
      forceB (!eqI x42 1) fun c43 =>
      bindO (cond c43 (
        bindO (evP .e (.ixS 1 (.c v1) (.c (.i .i64 x22)))) fun v47 =>
        bindO (ldM ro m_2 true 1 v47) fun v48 =>
        asI .i64 v48 fun x48 =>
        forceB (!eqI x48 (-1)) fun c49 =>
        some c49) (
        some false)) fun c50 =>
      cond c50 (
        some (.inr (.inr (2, m_2)))) (
        forceI (wr .i64 (x22 + 1)) fun x51 =>
        some (.inl (x51, m_2))))) (
    some (.inr (.inl m_1)))
def g56 (M : Means) (ro : List ABlk) (v0 : AVal) (v1 : AVal) (m0 : Mm) : Option (AVal × Heap × Nat × Nat) :=
  bindO (evP .e (.len false (.c v0))) fun v8 =>
  asI .i64 v8 fun x8 =>
  forceB (ltI 50 x8) fun c9 =>
  cond c9 (
    finM m0.h.length (tupA [(.i .i64 3)]) m0) (
    bindO (evP .e (.len false (.c v0))) fun v11 =>
    asI .i64 v11 fun x11 =>
    forceB (eqI x11 0) fun c12 =>
    bindO (cond c12 (
      some true) (
      bindO (evP .e (.len false (.c v1))) fun v15 =>
      asI .i64 v15 fun x15 =>
      bindO (evP .e (.len false (.c v0))) fun v17 =>
      asI .i64 v17 fun x17 =>
      forceB (!eqI x15 x17) fun c18 =>
      some c18)) fun c19 =>
    cond c19 (
      finM m0.h.length (tupA [(.i .i64 2)]) m0) (
      bindO (evP .e (.len false (.c v0))) fun v21 =>
      asI .i64 v21 fun x21 =>
      bindO (M.loop (S := Int × Mm) (R := (Mm ⊕ (Int × Mm))) (fun s => g56_b1 M ro v0 v1 x21 s.1 s.2) (0, m0)) fun o_3 => match o_3 with
      | (.inl m_4) =>
        finM m0.h.length (tupA [(.i .i64 0)]) m_4
      | (.inr (x4, m_5)) =>
        finM m0.h.length (tupA [(.i .i64 x4)]) m_5))

theorem g56_ok {ro : List ABlk} {O : Caller} {M : Means} (hM : M.Ok ⟨F, O⟩ ro) {v0 v1 h r} (ho : O 56 [v0, v1] h = none) (hr : g56 M ro v0 v1 ⟨h, h.length, h.length⟩ = some r) : callX ⟨F, O⟩ ro 56 [v0, v1] h = some r := by
  refine callX_of (F := ⟨F, O⟩) (fn := fn56) (g := g56 M ro v0 v1) ho rfl rfl hr ?_
  clear ho
  clear hr
  intro m0 t0 ht hr
  have g0 : t0.get 0 = v0 := ht 0
  have g1 : t0.get 1 = v1 := ht 1
  clear ht
  unfold g56 at hr
  refine w_seq ?_
  refine w_ops ?_
  refine wo_step (v := (.i .i64 0)) (s_pure (p_mv rfl)) ?_
  refine wo_nil ?_
  refine nx_norm ?_
  refine w_seq ?_
  refine w_seq ?_
  refine w_ops ?_
  refine wo_step (v := v0) (s_pure (p_mv g0)) ?_
  have hq := bindO_inv hr
  clear hr
  obtain ⟨v8, e8, hr⟩ := hq
  have hq := asI_inv hr
  clear hr
  obtain ⟨x8, rfl, hr⟩ := hq
  refine wo_step (v := (.i .i64 x8)) (s_pure (o_len rfl e8)) ?_
  have hq := forceB_inv hr
  clear hr
  obtain ⟨c9, e9, hr⟩ := hq
  refine wo_step (v := (.b c9)) (s_pure (p_bin rfl rfl (b_gtr.trans (cb e9)))) ?_
  refine wo_nil ?_
  refine nx_norm ?_
  have hq := cond_inv hr
  clear hr
  rcases hq with ⟨rfl, hr⟩ | ⟨rfl, hr⟩
  · refine w_condT rfl ?_
    refine w_seq ?_
    refine w_ops ?_
    refine wo_step (v := (.i .i64 3)) (s_pure (p_mv rfl)) ?_
    refine wo_nil ?_
    refine nx_norm ?_
    refine w_ret ?_
    refine nx_ret ?_
    exact qf ret_ok (rt rfl rn) hr
  · refine w_condF rfl ?_
    refine w_skip ?_
    refine nx_norm ?_
    refine w_seq ?_
    refine w_seq ?_
    refine w_ops ?_
    refine wo_step (v := v0) (s_pure (p_mv g0)) ?_
    have hq := bindO_inv hr
    clear hr
    obtain ⟨v11, e11, hr⟩ := hq
    have hq := asI_inv hr
    clear hr
    obtain ⟨x11, rfl, hr⟩ := hq
    refine wo_step (v := (.i .i64 x11)) (s_pure (o_len rfl e11)) ?_
    have hq := forceB_inv hr
    clear hr
    obtain ⟨c12, e12, hr⟩ := hq
    refine wo_step (v := (.b c12)) (s_pure (p_bin rfl rfl (b_eql.trans (cb e12)))) ?_
    refine wo_step (v := (.b c12)) (s_pure (p_mv rfl)) ?_
    have hq := bindO_inv hr
    clear hr
    obtain ⟨o, hr, hk⟩ := hq
    refine wo_join 6 (g56_J0 v0 v1 m0 o) ?_ ?_
    · clear hk
      have hq := cond_inv hr
      clear hr
      rcases hq with ⟨rfl, hr⟩ | ⟨rfl, hr⟩
      · refine wo_skip (v := (.b true)) rfl rfl ?_
        refine wo_skip (v := (.b true)) rfl rfl ?_
        refine wo_skip (v := (.b true)) rfl rfl ?_
        refine wo_skip (v := (.b true)) rfl rfl ?_
        refine wo_skip (v := (.b true)) rfl rfl ?_
        refine wo_step (v := (.b true)) (s_pure (p_pickT rfl rfl)) ?_
        refine wo_nil ?_
        cases hr
        exact ⟨_, _, rfl, rfl, gl rfl, gl g0, gl g1⟩
      · refine wo_take (v := v1) rfl (s_pure (p_mv g1)) ?_
        have hq := bindO_inv hr
        clear hr
        obtain ⟨v15, e15, hr⟩ := hq
        have hq := asI_inv hr
        clear hr
        obtain ⟨x15, rfl, hr⟩ := hq
        refine wo_take (v := (.i .i64 x15)) rfl (s_pure (o_len rfl e15)) ?_
        refine wo_take (v := v0) rfl (s_pure (p_mv g0)) ?_
        have hq := bindO_inv hr
        clear hr
        obtain ⟨v17, e17, hr⟩ := hq
        have hq := asI_inv hr
        clear hr
        obtain ⟨x17, rfl, hr⟩ := hq
        refine wo_take (v := (.i .i64 x17)) rfl (s_pure (o_len rfl e17)) ?_
        have hq := forceB_inv hr
        clear hr
        obtain ⟨c18, e18, hr⟩ := hq
        refine wo_take (v := (.b c18)) rfl (s_pure (p_bin rfl rfl (b_neq.trans (cb e18)))) ?_
        refine wo_step (v := (.b c18)) (s_pure (p_pickF rfl rfl)) ?_
        refine wo_nil ?_
        cases hr
        exact ⟨_, _, rfl, rfl, gl rfl, gl g0, gl g1⟩
    · clear hr
      have hr := hk
      clear hk
      obtain ⟨c19, ho⟩ : ∃ z, z = o := ⟨_, rfl⟩
      subst ho
      rintro mm t_1 ⟨rfl, g19, g0, g1⟩
      refine wo_nil ?_
      refine nx_norm ?_
      have hq := cond_inv hr
      clear hr
      rcases hq with ⟨rfl, hr⟩ | ⟨rfl, hr⟩
      · refine w_condT g19 ?_
        refine w_seq ?_
        refine w_ops ?_
        refine wo_step (v := (.i .i64 2)) (s_pure (p_mv rfl)) ?_
        refine wo_nil ?_
        refine nx_norm ?_
        refine w_ret ?_
        refine nx_ret ?_
        exact qf ret_ok (rt rfl rn) hr
      · refine w_condF g19 ?_
        refine w_skip ?_
        refine nx_norm ?_
        refine w_seq ?_
        refine w_seq ?_
        refine w_ops ?_
        refine wo_step (v := v0) (s_pure (p_mv g0)) ?_
        have hq := bindO_inv hr
        clear hr
        obtain ⟨v21, e21, hr⟩ := hq
        have hq := asI_inv hr
        clear hr
        obtain ⟨x21, rfl, hr⟩ := hq
        refine wo_step (v := (.i .i64 x21)) (s_pure (o_len rfl e21)) ?_
        refine wo_step (v := (.i .i64 0)) (s_pure (p_mv rfl)) ?_
        refine wo_nil ?_
        refine nx_norm ?_
        refine w_block ?_
        have hq := bindO_inv hr
        clear hr
        obtain ⟨o_3, hl, hr⟩ := hq
        obtain ⟨n, hl⟩ := hM.loop _ _ _ hl
        refine jp_mono (w_loop _ (g56_I1 v0 v1 x21) (g56_J1 v0 v1 x21) ?_ n _ _ _ _ hl ⟨rfl, gl rfl, gl g0, gl g1, gl rfl, gl rfl⟩) ?_
        · clear hr hl
          intro s mm_5 t_2 o hi hr
          obtain ⟨x22, m_1⟩ := s
          obtain ⟨rfl, g22, g0, g1, g20, g21⟩ := hi
          unfold g56_b1 at hr
          refine w_seq ?_
          refine w_ops ?_
          have hq := forceB_inv hr
          clear hr
          obtain ⟨c23, e23, hr⟩ := hq
          refine wo_step (v := (.b c23)) (s_pure (p_bin g22 g21 (b_lss.trans (cb e23)))) ?_
          refine wo_nil ?_
          refine nx_norm ?_
          refine w_seq ?_
          have hq := cond_inv hr
          clear hr
          rcases hq with ⟨rfl, hr⟩ | ⟨rfl, hr⟩
          · refine w_condT rfl ?_
            refine w_skip ?_
            refine nx_norm ?_
            refine w_seq ?_
            refine w_block ?_
            refine w_seq ?_
            refine w_ops ?_
            refine wo_step (v := (.i .i64 x22)) (s_pure (p_mv g22)) ?_
            have hq := bindO_inv hr
            clear hr
            obtain ⟨v25, e25, hr⟩ := hq
            refine wo_step (v := v25) (s_pure (o_ixS g20 g22 e25)) ?_
            have hq := bindO_inv hr
            clear hr
            obtain ⟨v26, e26, hr⟩ := hq
            refine wo_step (v := v26) (s_ld rfl e26) ?_
            refine wo_step (v := (.i .i64 x22)) (s_pure (p_mv rfl)) ?_
            refine wo_step (v := v26) (s_pure (p_mv rfl)) ?_
            refine wo_nil ?_
            refine nx_norm ?_
            refine w_seq ?_
            refine w_seq ?_
            refine w_ops ?_
            refine wo_step (v := v26) (s_pure (p_mv rfl)) ?_
            have hq := bindO_inv hr
            clear hr
            obtain ⟨v28, e28, hr⟩ := hq
            have hq := asI_inv hr
            clear hr
            obtain ⟨x28, rfl, hr⟩ := hq
            refine wo_step (v := (.i .i64 x28)) (s_pure (o_len rfl e28)) ?_
            refine wo_step (v := v0) (s_pure (p_mv g0)) ?_
            have hq := bindO_inv hr
            clear hr
            obtain ⟨v30, e30, hr⟩ := hq
            refine wo_step (v := v30) (s_pure (o_ixS rfl rfl e30)) ?_
            have hq := bindO_inv hr
            clear hr
            obtain ⟨v31, e31, hr⟩ := hq
            refine wo_step (v := v31) (s_ld rfl e31) ?_
            have hq := bindO_inv hr
            clear hr
            obtain ⟨v32, e32, hr⟩ := hq
            have hq := asI_inv hr
            clear hr
            obtain ⟨x32, rfl, hr⟩ := hq
            refine wo_step (v := (.i .i64 x32)) (s_pure (o_len rfl e32)) ?_
            have hq := forceB_inv hr
            clear hr
            obtain ⟨c33, e33, hr⟩ := hq
            refine wo_step (v := (.b c33)) (s_pure (p_bin rfl rfl (b_neq.trans (cb e33)))) ?_
            refine wo_step (v := (.b c33)) (s_pure (p_mv rfl)) ?_
            have hq := bindO_inv hr
            clear hr
            obtain ⟨o_1, hr, hk⟩ := hq
            refine wo_join 4 (g56_J2 v0 v1 x22 x21 o_1) ?_ ?_
            · clear hk
              have hq := cond_inv hr
              clear hr
              rcases hq with ⟨rfl, hr⟩ | ⟨rfl, hr⟩
              · refine wo_skip (v := (.b true)) rfl rfl ?_
                refine wo_skip (v := (.b true)) rfl rfl ?_
                refine wo_skip (v := (.b true)) rfl rfl ?_
                refine wo_step (v := (.b true)) (s_pure (p_pickT rfl rfl)) ?_
                refine wo_nil ?_
                cases hr
                exact ⟨_, _, rfl, rfl, gl rfl, gl g0, gl g1, gl rfl, gl g20, gl g21, gl g22⟩
              · refine wo_take (v := v26) rfl (s_pure (p_mv rfl)) ?_
                have hq := bindP_inv hr
                clear hr
                obtain ⟨v36, m_3, e36, hr⟩ := hq
                have hq := asB_inv hr
                clear hr
                obtain ⟨c36, rfl, hr⟩ := hq
                refine wo_take (v := (.b c36)) rfl (s_call (mc rfl mn) (callM_le hM.call e36)) ?_
                have hq := forceB_inv hr
                clear hr
                obtain ⟨c37, e37, hr⟩ := hq
                refine wo_take (v := (.b c37)) rfl (s_pure ((p_not rfl).trans (cb e37))) ?_
                refine wo_step (v := (.b c37)) (s_pure (p_pickF rfl rfl)) ?_
                refine wo_nil ?_
                cases hr
                exact ⟨_, _, rfl, rfl, gl rfl, gl g0, gl g1, gl rfl, gl g20, gl g21, gl g22⟩
            · clear hr
              have hr := hk
              clear hk
              obtain ⟨c38, m_2⟩ := o_1
              rintro mm_1 t_3 ⟨rfl, g38, g0, g1, g5, g20, g21, g22⟩
              refine wo_nil ?_
              refine nx_norm ?_
              have hq := cond_inv hr
              clear hr
              rcases hq with ⟨rfl, hr⟩ | ⟨rfl, hr⟩
              · refine w_condT g38 ?_
                refine w_seq ?_
                refine w_ops ?_
                refine wo_step (v := (.i .i64 2)) (s_pure (p_mv rfl)) ?_
                refine wo_nil ?_
                refine nx_norm ?_
                refine w_ret ?_
                refine nx_ret ?_
                refine bk_ret ?_
                refine nx_ret ?_
                cases hr
                exact ⟨_, _, rfl, ne_norm_ret, rfl, rfl, gl rfl⟩
              · refine w_condF g38 ?_
                refine w_skip ?_
                refine nx_norm ?_
                refine w_seq ?_
                refine w_ops ?_
                refine wo_step (v := v1) (s_pure (p_mv g1)) ?_
                refine wo_step (v := (.i .i64 x22)) (s_pure (p_mv g5)) ?_
                have hq := bindO_inv hr
                clear hr
                obtain ⟨v41, e41, hr⟩ := hq
                refine wo_step (v := v41) (s_pure (o_ixS rfl rfl e41)) ?_
                have hq := bindO_inv hr
                clear hr
                obtain ⟨v42, e42, hr⟩ := hq
                have hq := asI_inv hr
                clear hr
                obtain ⟨x42, rfl, hr⟩ := hq
                refine wo_step (v := (.i .i64 x42)) (s_ld rfl e42) ?_
                have hq := forceB_inv hr
                clear hr
                obtain ⟨c43, e43, hr⟩ := hq
                refine wo_step (v := (.b c43)) (s_pure (p_bin rfl rfl (b_neq.trans (cb e43)))) ?_
                refine wo_step (v := (.b c43)) (s_pure (p_mv rfl)) ?_
                have hq := bindO_inv hr
                clear hr
                obtain ⟨o_2, hr, hk⟩ := hq
                refine wo_join 6 (g56_J3 v0 v1 x21 x22 m_2 o_2) ?_ ?_
                · clear hk
                  have hq := cond_inv hr
                  clear hr
                  rcases hq with ⟨rfl, hr⟩ | ⟨rfl, hr⟩
                  · refine wo_take (v := v1) rfl (s_pure (p_mv g1)) ?_
                    refine wo_take (v := (.i .i64 x22)) rfl (s_pure (p_mv g5)) ?_
                    have hq := bindO_inv hr
                    clear hr
                    obtain ⟨v47, e47, hr⟩ := hq
                    refine wo_take (v := v47) rfl (s_pure (o_ixS rfl rfl e47)) ?_
                    have hq := bindO_inv hr
                    clear hr
                    obtain ⟨v48, e48, hr⟩ := hq
                    have hq := asI_inv hr
                    clear hr
                    obtain ⟨x48, rfl, hr⟩ := hq
                    refine wo_take (v := (.i .i64 x48)) rfl (s_ld rfl e48) ?_
                    have hq := forceB_inv hr
                    clear hr
                    obtain ⟨c49, e49, hr⟩ := hq
                    refine wo_take (v := (.b c49)) rfl (s_pure (p_bin rfl rfl (b_neq.trans (cb e49)))) ?_
                    refine wo_step (v := (.b c49)) (s_pure (p_pickT rfl rfl)) ?_
                    refine wo_nil ?_
                    cases hr
                    exact ⟨_, _, rfl, rfl, gl rfl, gl g0, gl g1, gl g20, gl g21, gl g22⟩
                  · refine wo_skip (v := (.b false)) rfl rfl ?_
                    refine wo_skip (v := (.b false)) rfl rfl ?_
                    refine wo_skip (v := (.b false)) rfl rfl ?_
                    refine wo_skip (v := (.b false)) rfl rfl ?_
                    refine wo_skip (v := (.b false)) rfl rfl ?_
                    refine wo_step (v := (.b false)) (s_pure (p_pickF rfl rfl)) ?_
                    refine wo_nil ?_
                    cases hr
                    exact ⟨_, _, rfl, rfl, gl rfl, gl g0, gl g1, gl g20, gl g21, gl g22⟩
                · clear hr
                  have hr := hk
                  clear hk
                  obtain ⟨c50, ho⟩ : ∃ z, z = o_2 := ⟨_, rfl⟩
                  subst ho
                  rintro mm_2 t_4 ⟨rfl, g50, g0, g1, g20, g21, g22⟩
                  refine wo_nil ?_
                  refine nx_norm ?_
                  have hq := cond_inv hr
                  clear hr
                  rcases hq with ⟨rfl, hr⟩ | ⟨rfl, hr⟩
                  · refine w_condT g50 ?_
                    refine w_seq ?_
                    refine w_ops ?_
                    refine wo_step (v := (.i .i64 2)) (s_pure (p_mv rfl)) ?_
                    refine wo_nil ?_
                    refine nx_norm ?_
                    refine w_ret ?_
                    refine bk_ret ?_
                    refine nx_ret ?_
                    cases hr
                    exact ⟨_, _, rfl, ne_norm_ret, rfl, rfl, gl rfl⟩
                  · refine w_condF g50 ?_
                    refine w_skip ?_
                    refine bk_norm ?_
                    refine nx_norm ?_
                    refine w_ops ?_
                    have hq := forceI_inv hr
                    clear hr
                    obtain ⟨x51, e51, hr⟩ := hq
                    refine wo_step (v := (.i .i64 x51)) (s_pure (p_bin g22 rfl (b_add.trans (ci e51)))) ?_
                    refine wo_step (v := (.i .i64 x51)) (s_pure (p_mv rfl)) ?_
                    refine wo_nil ?_
                    cases hr
                    exact ⟨_, _, rfl, rfl, rfl, gl rfl, gl g0, gl g1, gl g20, gl g21⟩
          · refine w_condF rfl ?_
            refine w_exit ?_
            refine nx_exit ?_
            cases hr
            exact ⟨_, _, rfl, ne_norm_exit, rfl, rfl⟩
        · rcases o_3 with o_3 | o_3
          · obtain ⟨m_4, ho⟩ : ∃ z, z = o_3 := ⟨_, rfl⟩
            subst ho
            rintro _ mm_3 t_5 ⟨rfl, rfl⟩
            refine bk_hit ?_
            refine nx_norm ?_
            refine w_seq ?_
            refine w_ops ?_
            refine wo_step (v := (.i .i64 0)) (s_pure (p_mv rfl)) ?_
            refine wo_nil ?_
            refine nx_norm ?_
            refine w_ret ?_
            exact qf ret_ok (rt rfl rn) hr
          · obtain ⟨x4, m_5⟩ := o_3
            rintro _ mm_4 t_6 ⟨rfl, rfl, g4⟩
            refine bk_ret ?_
            refine nx_ret ?_
            exact qf ret_ok (rt g4 rn) hr

/- dibber/luck.visit -/
abbrev g57_I0 (v1 : AVal) (v2 : AVal) (v0 : AVal) (x13 : Int) (s : Int × Int × Mm) (m1 : Mm) (t1 : Tr) : Prop :=
  match s with
  | (x7, x14, m_1) => m_1 = m1 ∧ t1.get 7 = (.i .i64 x7) ∧ t1.get 14 = (.i .i64 x14) ∧ t1.get 1 = v1 ∧ t1.get 2 = v2 ∧ t1.get 12 = v0 ∧ t1.get 13 = (.i .i64 x13)
abbrev g57_J0 (v1 : AVal) (v2 : AVal) (v0 : AVal) (x13 : Int) (o : (Int × Mm)) (e : AExit) (m1 : Mm) (t1 : Tr) : Prop :=
  match o with
  | (y7, mo) => e = (.exit 0) ∧ mo = m1 ∧ t1.get 7 = (.i .i64 y7)
abbrev g57_J1 (v1 : AVal) (v2 : AVal) (v0 : AVal) (x13 : Int) (x14 : Int) (o : (Int × Mm)) (e : AExit) (m1 : Mm) (t1 : Tr) : Prop :=
  match o with
  | (y7, mo) => e = .norm ∧ mo = m1 ∧ t1.get 7 = (.i .i64 y7) ∧ t1.get 1 = v1 ∧ t1.get 2 = v2 ∧ t1.get 12 = v0 ∧ t1.get 13 = (.i .i64 x13) ∧ t1.get 14 = (.i .i64 x14)
abbrev g57_I2 (v1 : AVal) (v2 : AVal) (x29 : Int) (x14 : Int) (v0 : AVal) (x13 : Int) (v18 : AVal) (x31 : Int) (s : Int × Mm) (m1 : Mm) (t1 : Tr) : Prop :=
  match s with
  | (x32, m_2) => m_2 = m1 ∧ t1.get 32 = (.i .i64 x32) ∧ t1.get 1 = v1 ∧ t1.get 2 = v2 ∧ t1.get 7 = (.i .i64 x29) ∧ t1.get 8 = (.i .i64 x14) ∧ t1.get 12 = v0 ∧ t1.get 13 = (.i .i64 x13) ∧ t1.get 14 = (.i .i64 x14) ∧ t1.get 30 = v18 ∧ t1.get 31 = (.i .i64 x31)
abbrev g57_J2 (v1 : AVal) (v2 : AVal) (x29 : Int) (x14 : Int) (v0 : AVal) (x13 : Int) (v18 : AVal) (x31 : Int) (o : Mm) (e : AExit) (m1 : Mm) (t1 : Tr) : Prop :=
  match o with
  | mo => e = (.exit 2) ∧ mo = m1 ∧ t1.get 1 = v1 ∧ t1.get 2 = v2 ∧ t1.get 7 = (.i .i64 x29) ∧ t1.get 12 = v0 ∧ t1.get 13 = (.i .i64 x13) ∧ t1.get 14 = (.i .i64 x14)
def g57_b2 (M : Means) (ro : List ABlk) (v1 : AVal) (v2 : AVal) (x29 : Int) (x14 : Int) (v0 : AVal) (x13 : Int) (v18 : AVal) (x31 : Int) (x32 : Int) (m_2 : Mm) : Option ((Int × Mm) ⊕ (Mm)) :=
  forceB (ltI x32 x31) fun c33 =>
  cond c33 (
    bindO (evP .e (.ixS 1 (.c v18) (.c (.i .i64 x32)))) fun v35 =>
    bindO (ldM ro m_2 true 1 v35) fun v36 =>
    asI .i64 v36 fun x36 =>
    bindO (evP .e (.ixS 1 (.c v2) (.c (.i .i64 x32)))) fun v39 =>
    bindO (ldA ro m_2.h true 1 v39) fun v40 =>
    asI .i64 v40 fun x40 =>
    bindO (evP .e (.ixS 1 (.c v1) (.c (.i .i64 x14)))) fun v43 =>
    bindO (ldA ro m_2.h true 1 v43) fun v44 =>
    asI .i64 v44 fun x44 =>
    forceI (wr .i64 (x44 * x36)) fun x46 =>
    forceI (wr .i64 (x40 + x46)) fun x47 =>
    bindO (evP .e (.ixS 1 (.c v2) (.c (.i .i64 x32)))) fun v48 =>
    asP v48 fun qs =>
    bindO (writesM ro [] [(qs, AVal.cells (.i .i64 x47))] ⟨m_2.h, m_2.lw, m_2.lp⟩) fun m_3 =>
    forceI (wr .i64 (x32 + 1)) fun x49 =>
    some (.inl (x49, m_3))) (
    some (.inr m_2))
def g57_b0 (M : Means) (ro : List ABlk) (v1 : AVal) (v2 : AVal) (v0 : AVal) (x13 : Int) (x7 : Int) (x14 : Int) (m_1 : Mm) : Option ((Int × Int × Mm) ⊕ ((Int × Mm))) :=
  forceB (ltI x14 x13) fun c15 =>
  cond c15 (
    bindO (α := (Int × Mm)) (
      bindO (evP .e (.ixS 1 (.c v0) (.c (.i .i64 x14)))) fun v17 =>
      bindO (ldM ro m_1 true 1 v17) fun v18 =>
      bindO (evP .e (.ixS 1 (.c v1) (.c (.i .i64 x14)))) fun v21 =>
      bindO (ldA ro m_1.h true 1 v21) fun v22 =>
      asI .i64 v22 fun x22 =>
      bindO (callN M.call m_1.h 75 [v18, v2]) fun v25 =>
      asI .i64 v25 fun x25 =>
      forceI (wr .i64 (x22 * x25)) fun x26 =>
      forceB (ltI 0 x26) fun c27 =>
      cond c27 (
        some (x7, m_1)) (
        forceI (wr .i64 (x7 + 1)) fun x29 =>
        bindO (evP .e (.len false (.c v18))) fun v31 =>
        asI .i64 v31 fun x31 =>
        bindO (M.loop (S := Int × Mm) (R := Mm) (fun s => g57_b2 M ro v1 v2 x29 x14 v0 x13 v18 x31 s.1 s.2) (0, m_1)) fun m_4 =>
        some (x29, m_4))) fun ⟨x7_1, m_5⟩ =>
    forceI (wr .i64 (x14 + 1)) fun x50 =>
    some (.inl (x7_1, x50, m_5))) (
    some (.inr (x7, m_1)))
def g57 (M : Means) (ro : List ABlk) (v0 : AVal) (v1 : AVal) (v2 : AVal) (m0 : Mm) : Option (AVal × Heap × Nat × Nat) :=
  bindO (evP .e (.len false (.c v0))) fun v13 =>
  asI .i64 v13 fun x13 =>
  bindO (M.loop (S := Int × Int × Mm) (R := (Int × Mm)) (fun s => g57_b0 M ro v1 v2 v0 x13 s.1 s.2.1 s.2.2) (0, 0, m0)) fun ⟨x7_2, m_6⟩ =>
  finM m0.h.length (tupA [(.i .i64 x7_2)]) m_6

theorem g57_ok {ro : List ABlk} {O : Caller} {M : Means} (hM : M.Ok ⟨F, O⟩ ro) {v0 v1 v2 h r} (ho : O 57 [v0, v1, v2] h = none) (hr : g57 M ro v0 v1 v2 ⟨h, h.length, h.length⟩ = some r) : callX ⟨F, O⟩ ro 57 [v0, v1, v2] h = some r := by
  refine callX_of (F := ⟨F, O⟩) (fn := fn57) (g := g57 M ro v0 v1 v2) ho rfl rfl hr ?_
  clear ho
  clear hr
  intro m0 t0 ht hr
  have g0 : t0.get 0 = v0 := ht 0
  have g1 : t0.get 1 = v1 := ht 1
  have g2 : t0.get 2 = v2 := ht 2
  clear ht
  unfold g57 at hr
  refine w_seq ?_
  refine w_ops ?_
  refine wo_step (v := (.i .i64 0)) (s_pure (p_mv rfl)) ?_
  refine wo_nil ?_
  refine nx_norm ?_
  refine w_seq ?_
  refine w_ops ?_
  refine wo_step (v := (.i .i64 0)) (s_pure (p_mv rfl)) ?_
  refine wo_nil ?_
  refine nx_norm ?_
  refine w_seq ?_
  refine w_seq ?_
  refine w_ops ?_
  refine wo_step (v := v0) (s_pure (p_mv g0)) ?_
  have hq := bindO_inv hr
  clear hr
  obtain ⟨v13, e13, hr⟩ := hq
  have hq := asI_inv hr
  clear hr
  obtain ⟨x13, rfl, hr⟩ := hq
  refine wo_step (v := (.i .i64 x13)) (s_pure (o_len rfl e13)) ?_
  refine wo_step (v := (.i .i64 0)) (s_pure (p_mv rfl)) ?_
  refine wo_nil ?_
  refine nx_norm ?_
  refine w_block ?_
  have hq := bindO_inv hr
  clear hr
  obtain ⟨o_2, hl_1, hr⟩ := hq
  obtain ⟨n_1, hl_1⟩ := hM.loop _ _ _ hl_1
  refine jp_mono (w_loop _ (g57_I0 v1 v2 v0 x13) (g57_J0 v1 v2 v0 x13) ?_ n_1 _ _ _ _ hl_1 ⟨rfl, gl rfl, gl rfl, gl g1, gl g2, gl rfl, gl rfl⟩) ?_
  · clear hr hl_1
    intro s mm_4 t_1 o hi hr
    obtain ⟨x7, x14, m_1⟩ := s
    obtain ⟨rfl, g7, g14, g1, g2, g12, g13⟩ := hi
    unfold g57_b0 at hr
    refine w_seq ?_
    refine w_ops ?_
    have hq := forceB_inv hr
    clear hr
    obtain ⟨c15, e15, hr⟩ := hq
    refine wo_step (v := (.b c15)) (s_pure (p_bin g14 g13 (b_lss.trans (cb e15)))) ?_
    refine wo_nil ?_
    refine nx_norm ?_
    refine w_seq ?_
    have hq := cond_inv hr
    clear hr
    rcases hq with ⟨rfl, hr⟩ | ⟨rfl, hr⟩
    · refine w_condT rfl ?_
      refine w_skip ?_
      refine nx_norm ?_
      refine w_seq ?_
      have hq := bindO_inv hr
      clear hr
      obtain ⟨o, hr, hk⟩ := hq
      refine jp_mono (J := g57_J1 v1 v2 v0 x13 x14 o) ?_ ?_
      · clear hk
        refine w_block ?_
        refine w_seq ?_
        refine w_ops ?_
        refine wo_step (v := (.i .i64 x14)) (s_pure (p_mv g14)) ?_
        have hq := bindO_inv hr
        clear hr
        obtain ⟨v17, e17, hr⟩ := hq
        refine wo_step (v := v17) (s_pure (o_ixS g12 g14 e17)) ?_
        have hq := bindO_inv hr
        clear hr
        obtain ⟨v18, e18, hr⟩ := hq
        refine wo_step (v := v18) (s_ld rfl e18) ?_
        refine wo_step (v := (.i .i64 x14)) (s_pure (p_mv rfl)) ?_
        refine wo_step (v := v18) (s_pure (p_mv rfl)) ?_
        refine wo_nil ?_
        refine nx_norm ?_
        refine w_seq ?_
        refine w_seq ?_
        refine w_any ?_
        refine wa_step (v := v1) (a_pure (p_mv g1)) ?_
        refine wa_step (v := (.i .i64 x14)) (a_pure (p_mv rfl)) ?_
        have hq := bindO_inv hr
        clear hr
        obtain ⟨v21, e21, hr⟩ := hq
        refine wa_step (v := v21) (a_pure (o_ixS rfl rfl e21)) ?_
        have hq := bindO_inv hr
        clear hr
        obtain ⟨v22, e22, hr⟩ := hq
        have hq := asI_inv hr
        clear hr
        obtain ⟨x22, rfl, hr⟩ := hq
        refine wa_step (v := (.i .i64 x22)) (a_ld rfl e22) ?_
        refine wa_step (v := v18) (a_pure (p_mv rfl)) ?_
        refine wa_step (v := v2) (a_pure (p_mv g2)) ?_
        have hq := bindO_inv hr
        clear hr
        obtain ⟨v25, e25, hr⟩ := hq
        have hq := asI_inv hr
        clear hr
        obtain ⟨x25, rfl, hr⟩ := hq
        refine wa_step (v := (.i .i64 x25)) (a_call (mc rfl (mc rfl mn)) (callN_le hM.call e25)) ?_
        have hq := forceI_inv hr
        clear hr
        obtain ⟨x26, e26, hr⟩ := hq
        refine wa_step (v := (.i .i64 x26)) (a_pure (p_bin rfl rfl (b_mul.trans (ci e26)))) ?_
        have hq := forceB_inv hr
        clear hr
        obtain ⟨c27, e27, hr⟩ := hq
        refine wa_step (v := (.b c27)) (a_pure (p_bin rfl rfl (b_gtr.trans (cb e27)))) ?_
        refine wa_nil ?_
        refine ⟨m_1, rfl, ?_⟩
        refine nx_norm ?_
        have hq := cond_inv hr
        clear hr
        rcases hq with ⟨rfl, hr⟩ | ⟨rfl, hr⟩
        · refine w_condT rfl ?_
          refine w_exit ?_
          refine nx_exit ?_
          refine bk_hit ?_
          cases hr
          exact ⟨_, _, rfl, rfl, rfl, gl g7, gl g1, gl g2, gl g12, gl g13, gl g14⟩
        · refine w_condF rfl ?_
          refine w_skip ?_
          refine nx_norm ?_
          refine w_seq ?_
          refine w_ops ?_
          refine wo_step (v := (.i .i64 x7)) (s_pure (p_mv g7)) ?_
          have hq := forceI_inv hr
          clear hr
          obtain ⟨x29, e29, hr⟩ := hq
          refine wo_step (v := (.i .i64 x29)) (s_pure (p_bin rfl rfl (b_add.trans (ci e29)))) ?_
          refine wo_step (v := (.i .i64 x29)) (s_pure (p_mv rfl)) ?_
          refine wo_nil ?_
          refine nx_norm ?_
          refine w_seq ?_
          refine w_ops ?_
          refine wo_step (v := v18) (s_pure (p_mv rfl)) ?_
          have hq := bindO_inv hr
          clear hr
          obtain ⟨v31, e31, hr⟩ := hq
          have hq := asI_inv hr
          clear hr
          obtain ⟨x31, rfl, hr⟩ := hq
          refine wo_step (v := (.i .i64 x31)) (s_pure (o_len rfl e31)) ?_
          refine wo_step (v := (.i .i64 0)) (s_pure (p_mv rfl)) ?_
          refine wo_nil ?_
          refine nx_norm ?_
          refine w_block ?_
          have hq := bindO_inv hr
          clear hr
          obtain ⟨o_1, hl, hr⟩ := hq
          obtain ⟨n, hl⟩ := hM.loop _ _ _ hl
          refine jp_mono (w_loop _ (g57_I2 v1 v2 x29 x14 v0 x13 v18 x31) (g57_J2 v1 v2 x29 x14 v0 x13 v18 x31) ?_ n _ _ _ _ hl ⟨rfl, gl rfl, gl g1, gl g2, gl rfl, gl rfl, gl g12, gl g13, gl g14, gl rfl, gl rfl⟩) ?_
          · clear hr hl
            intro s mm_1 t_2 o hi hr
            obtain ⟨x32, m_2⟩ := s
            obtain ⟨rfl, g32, g1, g2, g7, g8, g12, g13, g14, g30, g31⟩ := hi
            unfold g57_b2 at hr
            refine w_seq ?_
            refine w_ops ?_
            have hq := forceB_inv hr
            clear hr
            obtain ⟨c33, e33, hr⟩ := hq
            refine wo_step (v := (.b c33)) (s_pure (p_bin g32 g31 (b_lss.trans (cb e33)))) ?_
            refine wo_nil ?_
            refine nx_norm ?_
            refine w_seq ?_
            have hq := cond_inv hr
            clear hr
            rcases hq with ⟨rfl, hr⟩ | ⟨rfl, hr⟩
            · refine w_condT rfl ?_
              refine w_skip ?_
              refine nx_norm ?_
              refine w_seq ?_
              refine w_block ?_
              refine w_seq ?_
              refine w_ops ?_
              refine wo_step (v := (.i .i64 x32)) (s_pure (p_mv g32)) ?_
              have hq := bindO_inv hr
              clear hr
              obtain ⟨v35, e35, hr⟩ := hq
              refine wo_step (v := v35) (s_pure (o_ixS g30 g32 e35)) ?_
              have hq := bindO_inv hr
              clear hr
              obtain ⟨v36, e36, hr⟩ := hq
              have hq := asI_inv hr
              clear hr
              obtain ⟨x36, rfl, hr⟩ := hq
              refine wo_step (v := (.i .i64 x36)) (s_ld rfl e36) ?_
              refine wo_step (v := (.i .i64 x32)) (s_pure (p_mv rfl)) ?_
              refine wo_step (v := (.i .i64 x36)) (s_pure (p_mv rfl)) ?_
              refine wo_nil ?_
              refine nx_norm ?_
              refine w_any ?_
              refine wa_step (v := v2) (a_pure (p_mv g2)) ?_
              refine wa_step (v := (.i .i64 x32)) (a_pure (p_mv rfl)) ?_
              have hq := bindO_inv hr
              clear hr
              obtain ⟨v39, e39, hr⟩ := hq
              refine wa_step (v := v39) (a_pure (o_ixS rfl rfl e39)) ?_
              have hq := bindO_inv hr
              clear hr
              obtain ⟨v40, e40, hr⟩ := hq
              have hq := asI_inv hr
              clear hr
              obtain ⟨x40, rfl, hr⟩ := hq
              refine wa_step (v := (.i .i64 x40)) (a_ld rfl e40) ?_
              refine wa_step (v := v1) (a_pure (p_mv g1)) ?_
              refine wa_step (v := (.i .i64 x14)) (a_pure (p_mv g8)) ?_
              have hq := bindO_inv hr
              clear hr
              obtain ⟨v43, e43, hr⟩ := hq
              refine wa_step (v := v43) (a_pure (o_ixS rfl rfl e43)) ?_
              have hq := bindO_inv hr
              clear hr
              obtain ⟨v44, e44, hr⟩ := hq
              have hq := asI_inv hr
              clear hr
              obtain ⟨x44, rfl, hr⟩ := hq
              refine wa_step (v := (.i .i64 x44)) (a_ld rfl e44) ?_
              refine wa_step (v := (.i .i64 x36)) (a_pure (p_mv rfl)) ?_
              have hq := forceI_inv hr
              clear hr
              obtain ⟨x46, e46, hr⟩ := hq
              refine wa_step (v := (.i .i64 x46)) (a_pure (p_bin rfl rfl (b_mul.trans (ci e46)))) ?_
              have hq := forceI_inv hr
              clear hr
              obtain ⟨x47, e47, hr⟩ := hq
              refine wa_step (v := (.i .i64 x47)) (a_pure (p_bin rfl rfl (b_add.trans (ci e47)))) ?_
              have hq := bindO_inv hr
              clear hr
              obtain ⟨v48, e48, hr⟩ := hq
              refine wa_step (v := v48) (a_pure (o_ixS rfl rfl e48)) ?_
              have hq := asP_inv hr
              clear hr
              obtain ⟨qs, eqs, hr⟩ := hq
              refine wa_stepN (a_st (Eq.trans (b := v48) rfl eqs) rfl rfl) ?_
              have hq := bindO_inv hr
              clear hr
              obtain ⟨m_3, ew, hr⟩ := hq
              refine wa_nil ?_
              refine ⟨m_3, ew, ?_⟩
              refine bk_norm ?_
              refine nx_norm ?_
              refine w_ops ?_
              have hq := forceI_inv hr
              clear hr
              obtain ⟨x49, e49, hr⟩ := hq
              refine wo_step (v := (.i .i64 x49)) (s_pure (p_bin g32 rfl (b_add.trans (ci e49)))) ?_
              refine wo_step (v := (.i .i64 x49)) (s_pure (p_mv rfl)) ?_
              refine wo_nil ?_
              cases hr
              exact ⟨_, _, rfl, rfl, rfl, gl rfl, gl g1, gl g2, gl g7, gl g8, gl g12, gl g13, gl g14, gl g30, gl g31⟩
            · refine w_condF rfl ?_
              refine w_exit ?_
              refine nx_exit ?_
              cases hr
              exact ⟨_, _, rfl, ne_norm_exit, rfl, rfl, gl g1, gl g2, gl g7, gl g12, gl g13, gl g14⟩
          · obtain ⟨m_4, ho⟩ : ∃ z, z = o_1 := ⟨_, rfl⟩
            subst ho
            rintro _ mm t_3 ⟨rfl, rfl, g1, g2, g7, g12, g13, g14⟩
            refine bk_hit ?_
            refine bk_norm ?_
            cases hr
            exact ⟨_, _, rfl, rfl, rfl, gl g7, gl g1, gl g2, gl g12, gl g13, gl g14⟩
      · have hr := hk
        clear hk
        obtain ⟨x7_1, m_5⟩ := o
        rintro _ mm_2 t_4 ⟨rfl, rfl, g7, g1, g2, g12, g13, g14⟩
        refine nx_norm ?_
        refine w_ops ?_
        have hq := forceI_inv hr
        clear hr
        obtain ⟨x50, e50, hr⟩ := hq
        refine wo_step (v := (.i .i64 x50)) (s_pure (p_bin g14 rfl (b_add.trans (ci e50)))) ?_
        refine wo_step (v := (.i .i64 x50)) (s_pure (p_mv rfl)) ?_
        refine wo_nil ?_
        cases hr
        exact ⟨_, _, rfl, rfl, rfl, gl g7, gl rfl, gl g1, gl g2, gl g12, gl g13⟩
    · refine w_condF rfl ?_
      refine w_exit ?_
      refine nx_exit ?_
      cases hr
      exact ⟨_, _, rfl, ne_norm_exit, rfl, rfl, gl g7⟩
  · obtain ⟨x7_2, m_6⟩ := o_2
    rintro _ mm_3 t_5 ⟨rfl, rfl, g7⟩
    refine bk_hit ?_
    refine nx_norm ?_
    refine w_seq ?_
    refine w_ops ?_
    refine wo_step (v := (.i .i64 x7_2)) (s_pure (p_mv g7)) ?_
    refine wo_step (v := (.i .i64 x7_2)) (s_pure (p_mv rfl)) ?_
    refine wo_nil ?_
    refine nx_norm ?_
    refine w_ret ?_
    exact qf ret_ok (rt rfl rn) hr

/- dibber/luck.isGoal -/
abbrev g58_J0 (x0 : Int) (v1 : AVal) (m0 : Mm) (o : Bool) (m1 : Mm) (t1 : Tr) : Prop :=
  match o with
  | c12 => m0 = m1 ∧ t1.get 12 = (.b c12) ∧ t1.get 0 = (.i .i64 x0) ∧ t1.get 1 = v1
abbrev g58_J1 (x0 : Int) (v1 : AVal) (m0 : Mm) (o : Bool) (m1 : Mm) (t1 : Tr) : Prop :=
  match o with
  | c19 => m0 = m1 ∧ t1.get 19 = (.b c19) ∧ t1.get 0 = (.i .i64 x0) ∧ t1.get 1 = v1
abbrev g58_I2 (x0 : Int) (v1 : AVal) (x21 : Int) (m0 : Mm) (s : Int) (m1 : Mm) (t1 : Tr) : Prop :=
  match s with
  | x22 => m0 = m1 ∧ t1.get 22 = (.i .i64 x22) ∧ t1.get 0 = (.i .i64 x0) ∧ t1.get 20 = v1 ∧ t1.get 21 = (.i .i64 x21)
abbrev g58_J2 (x0 : Int) (v1 : AVal) (x21 : Int) (m0 : Mm) (o : (Unit ⊕ Bool)) (e : AExit) (m1 : Mm) (t1 : Tr) : Prop :=
  match o with
  | (.inl _) => e = (.exit 0) ∧ m0 = m1
  | (.inr y4) => e = .ret ∧ m0 = m1 ∧ t1.get 4 = (.b y4)
abbrev g58_J3 (x0 : Int) (v1 : AVal) (x21 : Int) (x22 : Int) (m0 : Mm) (o : Bool) (m1 : Mm) (t1 : Tr) : Prop :=
  match o with
  | c33 => m0 = m1 ∧ t1.get 33 = (.b c33) ∧ t1.get 0 = (.i .i64 x0) ∧ t1.get 20 = v1 ∧ t1.get 21 = (.i .i64 x21) ∧ t1.get 22 = (.i .i64 x22)
def g58_b2 (M : Means) (ro : List ABlk) (x0 : Int) (v1 : AVal) (x21 : Int) (m0 : Mm) (x22 : Int) : Option ((Int) ⊕ ((Unit ⊕ Bool))) :=
  forceB (ltI x22 x21) fun c23 =>
  cond c23 (
    bindO (evP .e (.ixS 1 (.c v1) (.c (.i .i64 x22)))) fun v24 =>
    bindO (ldM ro m0 true 1 v24) fun v25 =>
    asI .i64 v25 fun x25 =>
    forceB (ltI x25 0) fun c27 =>
    bindO (cond c27 (
      some true) (
      forceI (wr .i64 (x0 * 60)) fun x31 =>
      forceB (ltI x31 x25) fun c32 =>
      some c32)) fun c33 =>
    cond c33 (
      some (.inr (.inr false))) (
      forceI (wr .i64 (x22 + 1)) fun x34 =>
      some (.inl x34))) (
    some (.inr (.inl ())))
def g58 (M : Means) (ro : List ABlk) (x0 : Int) (v1 : AVal) (m0 : Mm) : Option (AVal × Heap × Nat × Nat) :=
  forceB (ltI x0 1) fun c8 =>
  bindO (cond c8 (
    some true) (
    forceB (ltI 10 x0) fun c11 =>
    some c11)) fun c12 =>
  bindO (cond c12 (
    some true) (
    bindO (evP .e (.len false (.c v1))) fun v15 =>
    asI .i64 v15 fun x15 =>
    chk (!ltI x0 (.ofNat 0)) <|
    forceI (shlV .i64 1 x0) fun x17 =>
    forceB (!eqI x15 x17) fun c18 =>
    some c18)) fun c19 =>
  cond c19 (
    finM m0.h.length (tupA [(.b false)]) m0) (
    bindO (evP .e (.len false (.c v1))) fun v21 =>
    asI .i64 v21 fun x21 =>
    bindO (M.loop (S := Int) (R := (Unit ⊕ Bool)) (fun s => g58_b2 M ro x0 v1 x21 m0 s) 0) fun o_3 => match o_3 with
    | (.inl _) =>
      finM m0.h.length (tupA [(.b true)]) m0
    | (.inr c4) =>
      finM m0.h.length (tupA [(.b c4)]) m0)

theorem g58_ok {ro : List ABlk} {O : Caller} {M : Means} (hM : M.Ok ⟨F, O⟩ ro) {x0 v1 h r} (ho : O 58 [(.i .i64 x0), v1] h = none) (hr : g58 M ro x0 v1 ⟨h, h.length, h.length⟩ = some r) : callX ⟨F, O⟩ ro 58 [(.i .i64 x0), v1] h = some r := by
  refine callX_of (F := ⟨F, O⟩) (fn := fn58) (g := g58 M ro x0 v1) ho rfl rfl hr ?_
  clear ho
  clear hr
  intro m0 t0 ht hr
  have g0 : t0.get 0 = (.i .i64 x0) := ht 0
  have g1 : t0.get 1 = v1 := ht 1
  clear ht
  unfold g58 at hr
  refine w_seq ?_
  refine w_ops ?_
  refine wo_step (v := (.b false)) (s_pure (p_mv rfl)) ?_
  refine wo_nil ?_
  refine nx_norm ?_
  refine w_seq ?_
  refine w_seq ?_
  refine w_ops ?_
  refine wo_step (v := (.i .i64 x0)) (s_pure (p_mv g0)) ?_
  have hq := forceB_inv hr
  clear hr
  obtain ⟨c8, e8, hr⟩ := hq
  refine wo_step (v := (.b c8)) (s_pure (p_bin rfl rfl (b_lss.trans (cb e8)))) ?_
  refine wo_step (v := (.b c8)) (s_pure (p_mv rfl)) ?_
  have hq := bindO_inv hr
  clear hr
  obtain ⟨o, hr, hk⟩ := hq
  refine wo_join 3 (g58_J0 x0 v1 m0 o) ?_ ?_
  · clear hk
    have hq := cond_inv hr
    clear hr
    rcases hq with ⟨rfl, hr⟩ | ⟨rfl, hr⟩
    · refine wo_skip (v := (.b true)) rfl rfl ?_
      refine wo_skip (v := (.b true)) rfl rfl ?_
      refine wo_step (v := (.b true)) (s_pure (p_pickT rfl rfl)) ?_
      refine wo_nil ?_
      cases hr
      exact ⟨_, _, rfl, rfl, gl rfl, gl g0, gl g1⟩
    · refine wo_take (v := (.i .i64 x0)) rfl (s_pure (p_mv g0)) ?_
      have hq := forceB_inv hr
      clear hr
      obtain ⟨c11, e11, hr⟩ := hq
      refine wo_take (v := (.b c11)) rfl (s_pure (p_bin rfl rfl (b_gtr.trans (cb e11)))) ?_
      refine wo_step (v := (.b c11)) (s_pure (p_pickF rfl rfl)) ?_
      refine wo_nil ?_
      cases hr
      exact ⟨_, _, rfl, rfl, gl rfl, gl g0, gl g1⟩
  · clear hr
    have hr := hk
    clear hk
    obtain ⟨c12, ho⟩ : ∃ z, z = o := ⟨_, rfl⟩
    subst ho
    rintro mm t_1 ⟨rfl, g12, g0, g1⟩
    refine wo_step (v := (.b c12)) (s_pure (p_mv g12)) ?_
    have hq := bindO_inv hr
    clear hr
    obtain ⟨o_1, hr, hk⟩ := hq
    refine wo_join 6 (g58_J1 x0 v1 m0 o_1) ?_ ?_
    · clear hk
      have hq := cond_inv hr
      clear hr
      rcases hq with ⟨rfl, hr⟩ | ⟨rfl, hr⟩
      · refine wo_skip (v := (.b true)) rfl rfl ?_
        refine wo_skip (v := (.b true)) rfl rfl ?_
        refine wo_skip (v := (.b true)) rfl rfl ?_
        refine wo_skip (v := (.b true)) rfl rfl ?_
        refine wo_skip (v := (.b true)) rfl rfl ?_
        refine wo_step (v := (.b true)) (s_pure (p_pickT rfl rfl)) ?_
        refine wo_nil ?_
        cases hr
        exact ⟨_, _, rfl, rfl, gl rfl, gl g0, gl g1⟩
      · refine wo_take (v := v1) rfl (s_pure (p_mv g1)) ?_
        have hq := bindO_inv hr
        clear hr
        obtain ⟨v15, e15, hr⟩ := hq
        have hq := asI_inv hr
        clear hr
        obtain ⟨x15, rfl, hr⟩ := hq
        refine wo_take (v := (.i .i64 x15)) rfl (s_pure (o_len rfl e15)) ?_
        refine wo_take (v := (.i .i64 x0)) rfl (s_pure (p_mv g0)) ?_
        have hq := chk_inv hr
        clear hr
        obtain ⟨hc17, hr⟩ := hq
        have hq := forceI_inv hr
        clear hr
        obtain ⟨x17, e17, hr⟩ := hq
        refine wo_take (v := (.i .i64 x17)) rfl (s_pure (p_bin rfl rfl ((b_shl hc17).trans (ci e17)))) ?_
        have hq := forceB_inv hr
        clear hr
        obtain ⟨c18, e18, hr⟩ := hq
        refine wo_take (v := (.b c18)) rfl (s_pure (p_bin rfl rfl (b_neq.trans (cb e18)))) ?_
        refine wo_step (v := (.b c18)) (s_pure (p_pickF rfl rfl)) ?_
        refine wo_nil ?_
        cases hr
        exact ⟨_, _, rfl, rfl, gl rfl, gl g0, gl g1⟩
    · clear hr
      have hr := hk
      clear hk
      obtain ⟨c19, ho⟩ : ∃ z, z = o_1 := ⟨_, rfl⟩
      subst ho
      rintro mm_1 t_2 ⟨rfl, g19, g0, g1⟩
      refine wo_nil ?_
      refine nx_norm ?_
      have hq := cond_inv hr
      clear hr
      rcases hq with ⟨rfl, hr⟩ | ⟨rfl, hr⟩
      · refine w_condT g19 ?_
        refine w_seq ?_
        refine w_ops ?_
        refine wo_step (v := (.b false)) (s_pure (p_mv rfl)) ?_
        refine wo_nil ?_
        refine nx_norm ?_
        refine w_ret ?_
        refine nx_ret ?_
        exact qf ret_ok (rt rfl rn) hr
      · refine w_condF g19 ?_
        refine w_skip ?_
        refine nx_norm ?_
        refine w_seq ?_
        refine w_seq ?_
        refine w_ops ?_
        refine wo_step (v := v1) (s_pure (p_mv g1)) ?_
        have hq := bindO_inv hr
        clear hr
        obtain ⟨v21, e21, hr⟩ := hq
        have hq := asI_inv hr
        clear hr
        obtain ⟨x21, rfl, hr⟩ := hq
        refine wo_step (v := (.i .i64 x21)) (s_pure (o_len rfl e21)) ?_
        refine wo_step (v := (.i .i64 0)) (s_pure (p_mv rfl)) ?_
        refine wo_nil ?_
        refine nx_norm ?_
        refine w_block ?_
        have hq := bindO_inv hr
        clear hr
        obtain ⟨o_3, hl, hr⟩ := hq
        obtain ⟨n, hl⟩ := hM.loop _ _ _ hl
        refine jp_mono (w_loop _ (g58_I2 x0 v1 x21 m0) (g58_J2 x0 v1 x21 m0) ?_ n _ _ _ _ hl ⟨rfl, gl rfl, gl g0, gl rfl, gl rfl⟩) ?_
        · clear hr hl
          intro s mm_5 t_3 o hi hr
          obtain ⟨x22, hs⟩ : ∃ z, z = s := ⟨_, rfl⟩
          subst hs
          obtain ⟨rfl, g22, g0, g20, g21⟩ := hi
          unfold g58_b2 at hr
          refine w_seq ?_
          refine w_ops ?_
          have hq := forceB_inv hr
          clear hr
          obtain ⟨c23, e23, hr⟩ := hq
          refine wo_step (v := (.b c23)) (s_pure (p_bin g22 g21 (b_lss.trans (cb e23)))) ?_
          refine wo_nil ?_
          refine nx_norm ?_
          refine w_seq ?_
          have hq := cond_inv hr
          clear hr
          rcases hq with ⟨rfl, hr⟩ | ⟨rfl, hr⟩
          · refine w_condT rfl ?_
            refine w_skip ?_
            refine nx_norm ?_
            refine w_seq ?_
            refine w_block ?_
            refine w_seq ?_
            refine w_ops ?_
            have hq := bindO_inv hr
            clear hr
            obtain ⟨v24, e24, hr⟩ := hq
            refine wo_step (v := v24) (s_pure (o_ixS g20 g22 e24)) ?_
            have hq := bindO_inv hr
            clear hr
            obtain ⟨v25, e25, hr⟩ := hq
            have hq := asI_inv hr
            clear hr
            obtain ⟨x25, rfl, hr⟩ := hq
            refine wo_step (v := (.i .i64 x25)) (s_ld rfl e25) ?_
            refine wo_step (v := (.i .i64 x25)) (s_pure (p_mv rfl)) ?_
            refine wo_nil ?_
            refine nx_norm ?_
            refine w_seq ?_
            refine w_ops ?_
            refine wo_step (v := (.i .i64 x25)) (s_pure (p_mv rfl)) ?_
            have hq := forceB_inv hr
            clear hr
            obtain ⟨c27, e27, hr⟩ := hq
            refine wo_step (v := (.b c27)) (s_pure (p_bin rfl rfl (b_lss.trans (cb e27)))) ?_
            refine wo_step (v := (.b c27)) (s_pure (p_mv rfl)) ?_
            have hq := bindO_inv hr
            clear hr
            obtain ⟨o_2, hr, hk⟩ := hq
            refine wo_join 5 (g58_J3 x0 v1 x21 x22 m0 o_2) ?_ ?_
            · clear hk
              have hq := cond_inv hr
              clear hr
              rcases hq with ⟨rfl, hr⟩ | ⟨rfl, hr⟩
              · refine wo_skip (v := (.b true)) rfl rfl ?_
                refine wo_skip (v := (.b true)) rfl rfl ?_
                refine wo_skip (v := (.b true)) rfl rfl ?_
                refine wo_skip (v := (.b true)) rfl rfl ?_
                refine wo_step (v := (.b true)) (s_pure (p_pickT rfl rfl)) ?_
                refine wo_nil ?_
                cases hr
                exact ⟨_, _, rfl, rfl, gl rfl, gl g0, gl g20, gl g21, gl g22⟩
              · refine wo_take (v := (.i .i64 x25)) rfl (s_pure (p_mv rfl)) ?_
                refine wo_take (v := (.i .i64 x0)) rfl (s_pure (p_mv g0)) ?_
                have hq := forceI_inv hr
                clear hr
                obtain ⟨x31, e31, hr⟩ := hq
                refine wo_take (v := (.i .i64 x31)) rfl (s_pure (p_bin rfl rfl (b_mul.trans (ci e31)))) ?_
                have hq := forceB_inv hr
                clear hr
                obtain ⟨c32, e32, hr⟩ := hq
                refine wo_take (v := (.b c32)) rfl (s_pure (p_bin rfl rfl (b_gtr.trans (cb e32)))) ?_
                refine wo_step (v := (.b c32)) (s_pure (p_pickF rfl rfl)) ?_
                refine wo_nil ?_
                cases hr
                exact ⟨_, _, rfl, rfl, gl rfl, gl g0, gl g20, gl g21, gl g22⟩
            · clear hr
              have hr := hk
              clear hk
              obtain ⟨c33, ho⟩ : ∃ z, z = o_2 := ⟨_, rfl⟩
              subst ho
              rintro mm_2 t_4 ⟨rfl, g33, g0, g20, g21, g22⟩
              refine wo_nil ?_
              refine nx_norm ?_
              have hq := cond_inv hr
              clear hr
              rcases hq with ⟨rfl, hr⟩ | ⟨rfl, hr⟩
              · refine w_condT g33 ?_
                refine w_seq ?_
                refine w_ops ?_
                refine wo_step (v := (.b false)) (s_pure (p_mv rfl)) ?_
                refine wo_nil ?_
                refine nx_norm ?_
                refine w_ret ?_
                refine bk_ret ?_
                refine nx_ret ?_
                cases hr
                exact ⟨_, _, rfl, ne_norm_ret, rfl, rfl, gl rfl⟩
              · refine w_condF g33 ?_
                refine w_skip ?_
                refine bk_norm ?_
                refine nx_norm ?_
                refine w_ops ?_
                have hq := forceI_inv hr
                clear hr
                obtain ⟨x34, e34, hr⟩ := hq
                refine wo_step (v := (.i .i64 x34)) (s_pure (p_bin g22 rfl (b_add.trans (ci e34)))) ?_
                refine wo_step (v := (.i .i64 x34)) (s_pure (p_mv rfl)) ?_
                refine wo_nil ?_
                cases hr
                exact ⟨_, _, rfl, rfl, rfl, gl rfl, gl g0, gl g20, gl g21⟩
          · refine w_condF rfl ?_
            refine w_exit ?_
            refine nx_exit ?_
            cases hr
            exact ⟨_, _, rfl, ne_norm_exit, rfl, rfl⟩
        · rcases o_3 with o_3 | o_3
          · rintro _ mm_3 t_5 ⟨rfl, rfl⟩
            refine bk_hit ?_
            refine nx_norm ?_
            refine w_seq ?_
            refine w_ops ?_
            refine wo_step (v := (.b true)) (s_pure (p_mv rfl)) ?_
            refine wo_nil ?_
            refine nx_norm ?_
            refine w_ret ?_
            exact qf ret_ok (rt rfl rn) hr
          · obtain ⟨c4, ho⟩ : ∃ z, z = o_3 := ⟨_, rfl⟩
            subst ho
            rintro _ mm_4 t_6 ⟨rfl, rfl, g4⟩
            refine bk_ret ?_
            refine nx_ret ?_
            exact qf ret_ok (rt g4 rn) hr

/- dibber/luck.room -/

def g59 (M : Means) (ro : List ABlk) (v0 : AVal) (m0 : Mm) : Option (AVal × Heap × Nat × Nat) :=
  bindO (evP .e (.len false (.c v0))) fun v7 =>
  asI .i64 v7 fun x7 =>
  forceB (eqI x7 1) fun c8 =>
  cond c8 (
    bindO (evP .e (.ixS 1 (.c v0) (.c (.i .i64 0)))) fun v10 =>
    bindO (ldM ro m0 true 1 v10) fun v11 =>
    asI .i64 v11 fun x11 =>
    finM m0.h.length (tupA [(.i .i64 x11)]) m0) (
    bindP (callM M.call m0 62 [v0, (.i .i64 0)]) fun v13 m_1 =>
    bindP (callM M.call m_1 59 [v13]) fun v14 m_2 =>
    asI .i64 v14 fun x14 =>
    bindP (callM M.call m_2 62 [v0, (.i .i64 1)]) fun v16 m_3 =>
    bindP (callM M.call m_3 59 [v16]) fun v17 m_4 =>
    asI .i64 v17 fun x17 =>
    forceI (wr .i64 (x14 + x17)) fun x20 =>
    bindO (evP .e (.len false (.c v0))) fun v22 =>
    asI .i64 v22 fun x22 =>
    forceI (wr .i64 (60 * x22)) fun x23 =>
    forceI (wr .i64 (Int.tdiv x23 2)) fun x24 =>
    forceI (wr .i64 (x20 - x24)) fun x25 =>
    forceI (wr .i64 (2 * x14)) fun x28 =>
    forceI (wr .i64 (2 * x17)) fun x30 =>
    forceI (mxV false (mxV false x25 x28) x30) fun x31 =>
    finM m0.h.length (tupA [(.i .i64 x31)]) m_4)

theorem g59_ok {ro : List ABlk} {O : Caller} {M : Means} (hM : M.Ok ⟨F, O⟩ ro) {v0 h r} (ho : O 59 [v0] h = none) (hr : g59 M ro v0 ⟨h, h.length, h.length⟩ = some r) : callX ⟨F, O⟩ ro 59 [v0] h = some r := by
  refine callX_of (F := ⟨F, O⟩) (fn := fn59) (g := g59 M ro v0) ho rfl rfl hr ?_
  clear ho
  clear hr
  intro m0 t0 ht hr
  have g0 : t0.get 0 = v0 := ht 0
  clear ht
  unfold g59 at hr
  refine w_seq ?_
  refine w_ops ?_
  refine wo_step (v := (.i .i64 0)) (s_pure (p_mv rfl)) ?_
  refine wo_nil ?_
  refine nx_norm ?_
  refine w_seq ?_
  refine w_seq ?_
  refine w_ops ?_
  refine wo_step (v := v0) (s_pure (p_mv g0)) ?_
  have hq := bindO_inv hr
  clear hr
  obtain ⟨v7, e7, hr⟩ := hq
  have hq := asI_inv hr
  clear hr
  obtain ⟨x7, rfl, hr⟩ := hq
  refine wo_step (v := (.i .i64 x7)) (s_pure (o_len rfl e7)) ?_
  have hq := forceB_inv hr
  clear hr
  obtain ⟨c8, e8, hr⟩ := hq
  refine wo_step (v := (.b c8)) (s_pure (p_bin rfl rfl (b_eql.trans (cb e8)))) ?_
  refine wo_nil ?_
  refine nx_norm ?_
  have hq := cond_inv hr
  clear hr
  rcases hq with ⟨rfl, hr⟩ | ⟨rfl, hr⟩
  · refine w_condT rfl ?_
    refine w_seq ?_
    refine w_ops ?_
    refine wo_step (v := v0) (s_pure (p_mv g0)) ?_
    have hq := bindO_inv hr
    clear hr
    obtain ⟨v10, e10, hr⟩ := hq
    refine wo_step (v := v10) (s_pure (o_ixS rfl rfl e10)) ?_
    have hq := bindO_inv hr
    clear hr
    obtain ⟨v11, e11, hr⟩ := hq
    have hq := asI_inv hr
    clear hr
    obtain ⟨x11, rfl, hr⟩ := hq
    refine wo_step (v := (.i .i64 x11)) (s_ld rfl e11) ?_
    refine wo_step (v := (.i .i64 x11)) (s_pure (p_mv rfl)) ?_
    refine wo_nil ?_
    refine nx_norm ?_
    refine w_ret ?_
    refine nx_ret ?_
    exact qf ret_ok (rt rfl rn) hr
  · refine w_condF rfl ?_
    refine w_skip ?_
    refine nx_norm ?_
    refine w_seq ?_
    refine w_ops ?_
    refine wo_step (v := v0) (s_pure (p_mv g0)) ?_
    have hq := bindP_inv hr
    clear hr
    obtain ⟨v13, m_1, e13, hr⟩ := hq
    refine wo_step (v := v13) (s_call (mc rfl (mc rfl mn)) (callM_le hM.call e13)) ?_
    have hq := bindP_inv hr
    clear hr
    obtain ⟨v14, m_2, e14, hr⟩ := hq
    have hq := asI_inv hr
    clear hr
    obtain ⟨x14, rfl, hr⟩ := hq
    refine wo_step (v := (.i .i64 x14)) (s_call (mc rfl mn) (callM_le hM.call e14)) ?_
    refine wo_step (v := v0) (s_pure (p_mv g0)) ?_
    have hq := bindP_inv hr
    clear hr
    obtain ⟨v16, m_3, e16, hr⟩ := hq
    refine wo_step (v := v16) (s_call (mc rfl (mc rfl mn)) (callM_le hM.call e16)) ?_
    have hq := bindP_inv hr
    clear hr
    obtain ⟨v17, m_4, e17, hr⟩ := hq
    have hq := asI_inv hr
    clear hr
    obtain ⟨x17, rfl, hr⟩ := hq
    refine wo_step (v := (.i .i64 x17)) (s_call (mc rfl mn) (callM_le hM.call e17)) ?_
    refine wo_step (v := (.i .i64 x14)) (s_pure (p_mv rfl)) ?_
    refine wo_step (v := (.i .i64 x17)) (s_pure (p_mv rfl)) ?_
    refine wo_nil ?_
    refine nx_norm ?_
    refine w_seq ?_
    refine w_ops ?_
    refine wo_step (v := (.i .i64 x14)) (s_pure (p_mv rfl)) ?_
    refine wo_step (v := (.i .i64 x17)) (s_pure (p_mv rfl)) ?_
    have hq := forceI_inv hr
    clear hr
    obtain ⟨x20, e20, hr⟩ := hq
    refine wo_step (v := (.i .i64 x20)) (s_pure (p_bin rfl rfl (b_add.trans (ci e20)))) ?_
    refine wo_step (v := v0) (s_pure (p_mv g0)) ?_
    have hq := bindO_inv hr
    clear hr
    obtain ⟨v22, e22, hr⟩ := hq
    have hq := asI_inv hr
    clear hr
    obtain ⟨x22, rfl, hr⟩ := hq
    refine wo_step (v := (.i .i64 x22)) (s_pure (o_len rfl e22)) ?_
    have hq := forceI_inv hr
    clear hr
    obtain ⟨x23, e23, hr⟩ := hq
    refine wo_step (v := (.i .i64 x23)) (s_pure (p_bin rfl rfl (b_mul.trans (ci e23)))) ?_
    have hq := forceI_inv hr
    clear hr
    obtain ⟨x24, e24, hr⟩ := hq
    refine wo_step (v := (.i .i64 x24)) (s_pure (p_bin rfl rfl ((b_quo rfl).trans (ci e24)))) ?_
    have hq := forceI_inv hr
    clear hr
    obtain ⟨x25, e25, hr⟩ := hq
    refine wo_step (v := (.i .i64 x25)) (s_pure (p_bin rfl rfl (b_sub.trans (ci e25)))) ?_
    refine wo_step (v := (.i .i64 x25)) (s_pure (p_mv rfl)) ?_
    refine wo_nil ?_
    refine nx_norm ?_
    refine w_seq ?_
    refine w_ops ?_
    refine wo_step (v := (.i .i64 x25)) (s_pure (p_mv rfl)) ?_
    refine wo_step (v := (.i .i64 x14)) (s_pure (p_mv rfl)) ?_
    have hq := forceI_inv hr
    clear hr
    obtain ⟨x28, e28, hr⟩ := hq
    refine wo_step (v := (.i .i64 x28)) (s_pure (p_bin rfl rfl (b_mul.trans (ci e28)))) ?_
    refine wo_step (v := (.i .i64 x17)) (s_pure (p_mv rfl)) ?_
    have hq := forceI_inv hr
    clear hr
    obtain ⟨x30, e30, hr⟩ := hq
    refine wo_step (v := (.i .i64 x30)) (s_pure (p_bin rfl rfl (b_mul.trans (ci e30)))) ?_
    have hq := forceI_inv hr
    clear hr
    obtain ⟨x31, e31, hr⟩ := hq
    refine wo_step (v := (.i .i64 x31)) (s_pure ((p_mx3 rfl rfl rfl).trans (ci e31))) ?_
    refine wo_step (v := (.i .i64 x31)) (s_pure (p_mv rfl)) ?_
    refine wo_nil ?_
    refine nx_norm ?_
    refine w_ret ?_
    exact qf ret_ok (rt rfl rn) hr

end Go.Proofs.Ytnalgdobglfndaa.T

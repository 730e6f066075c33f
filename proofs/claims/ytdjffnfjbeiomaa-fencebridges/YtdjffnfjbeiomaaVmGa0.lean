/- Plain functions, and that the small machine answers as they do. -/
import Derived.Test.YtdjffnfjbeiomaaVmP
import Derived.Test.YtdjffnfjbeiomaaVmAE
open Go.Vm
set_option linter.unusedVariables false
namespace Go.Proofs.Ytdjffnfjbeiomaa.T
open Go
/- dibber/dibberlaw06.FenceBridges -/
abbrev g3_J0 (x0 : Int) (v1 : AVal) (m_5 : Mm) (o : Bool) (m1 : Mm) (t1 : Tr) : Prop :=
  match o with
  | c35 => m_5 = m1 ∧ t1.get 35 = (.b c35) ∧ t1.get 0 = (.i .i64 x0) ∧ t1.get 1 = v1
abbrev g3_J1 (m_7 : Mm) (o : Bool) (m1 : Mm) (t1 : Tr) : Prop :=
  match o with
  | c55 => m_7 = m1 ∧ t1.get 55 = (.b c55)
abbrev g3_J2  (o : Bool × Mm) (m1 : Mm) (t1 : Tr) : Prop :=
  match o with
  | (c58, m_8) => m_8 = m1 ∧ t1.get 58 = (.b c58)
def g3 (M : Means) (ro : List ABlk) (x0 : Int) (v1 : AVal) (m0 : Mm) : Option (AVal × Heap × Nat × Nat) :=
  bindP (callM M.call m0 4 [v1]) fun v12 m_1 =>
  asB v12 fun c12 =>
  forceB (!c12) fun c13 =>
  cond c13 (
    bindP (callM M.call m_1 5 []) fun v14 m_2 =>
    asB v14 fun c14 =>
    finM m0.h.length (tupA [(.b c14)]) m_2) (
    bindP (callM M.call m_1 6 [(.i .i64 x0), v1]) fun v18 m_3 =>
    bindO (evP .e (.ext 0 (.c v18))) fun v19 =>
    bindO (evP .e (.ext 1 (.c v18))) fun v20 =>
    asI .i64 v20 fun x20 =>
    bindP (callM M.call m_3 7 [(.i .i64 x0), v1]) fun v24 m_4 =>
    bindO (evP .e (.ext 0 (.c v24))) fun v25 =>
    bindO (evP .e (.ext 1 (.c v24))) fun v26 =>
    asI .i64 v26 fun x26 =>
    bindP (callM M.call m_4 8 [v19, v25]) fun v29 m_5 =>
    asB v29 fun c29 =>
    forceB (!c29) fun c30 =>
    bindO (cond c30 (
      some true) (
      forceB (!eqI x20 x26) fun c34 =>
      some c34)) fun c35 =>
    cond c35 (
      finM m0.h.length (tupA [(.b false)]) m_5) (
      bindP (callM M.call m_5 9 [(.i .i64 x0), v1]) fun v39 m_6 =>
      bindO (evP .e (.ext 0 (.c v39))) fun v40 =>
      asI .i64 v40 fun x40 =>
      bindO (evP .e (.ext 1 (.c v39))) fun v41 =>
      asI .i64 v41 fun x41 =>
      bindP (callM M.call m_6 10 [(.i .i64 x0), v1]) fun v45 m_7 =>
      bindO (evP .e (.ext 0 (.c v45))) fun v46 =>
      asI .i64 v46 fun x46 =>
      bindO (evP .e (.ext 1 (.c v45))) fun v47 =>
      asI .i64 v47 fun x47 =>
      forceB (eqI x40 x46) fun c50 =>
      bindO (cond c50 (
        forceB (eqI x41 x47) fun c54 =>
        some c54) (
        some false)) fun c55 =>
      bindO (cond c55 (
        bindP (callM M.call m_7 5 []) fun v57 m_9 =>
        asB v57 fun c57 =>
        some (c57, m_9)) (
        some (false, m_7))) fun ⟨c58, m_8⟩ =>
      finM m0.h.length (tupA [(.b c58)]) m_8))

theorem g3_ok {ro : List ABlk} {O : Caller} {M : Means} (hM : M.Ok ⟨F, O⟩ ro) {x0 v1 h r} (ho : O 3 [(.i .i64 x0), v1] h = none) (hr : g3 M ro x0 v1 ⟨h, h.length, h.length⟩ = some r) : callX ⟨F, O⟩ ro 3 [(.i .i64 x0), v1] h = some r := by
  refine callX_of (F := ⟨F, O⟩) (fn := fn3) (g := g3 M ro x0 v1) ho rfl rfl hr ?_
  clear ho
  clear hr
  intro m0 t0 ht hr
  have g0 : t0.get 0 = (.i .i64 x0) := ht 0
  have g1 : t0.get 1 = v1 := ht 1
  clear ht
  unfold g3 at hr
  refine w_seq ?_
  refine w_ops ?_
  refine wo_step (v := (.b false)) (s_pure (p_mv rfl)) ?_
  refine wo_nil ?_
  refine nx_norm ?_
  refine w_seq ?_
  refine w_seq ?_
  refine w_ops ?_
  refine wo_step (v := v1) (s_pure (p_mv g1)) ?_
  have hq := bindP_inv hr
  clear hr
  obtain ⟨v12, m_1, e12, hr⟩ := hq
  have hq := asB_inv hr
  clear hr
  obtain ⟨c12, rfl, hr⟩ := hq
  refine wo_step (v := (.b c12)) (s_call (mc rfl mn) (callM_le hM.call e12)) ?_
  have hq := forceB_inv hr
  clear hr
  obtain ⟨c13, e13, hr⟩ := hq
  refine wo_step (v := (.b c13)) (s_pure ((p_not rfl).trans (cb e13))) ?_
  refine wo_nil ?_
  refine nx_norm ?_
  have hq := cond_inv hr
  clear hr
  rcases hq with ⟨rfl, hr⟩ | ⟨rfl, hr⟩
  · refine w_condT rfl ?_
    refine w_seq ?_
    refine w_ops ?_
    have hq := bindP_inv hr
    clear hr
    obtain ⟨v14, m_2, e14, hr⟩ := hq
    have hq := asB_inv hr
    clear hr
    obtain ⟨c14, rfl, hr⟩ := hq
    refine wo_step (v := (.b c14)) (s_call mn (callM_le hM.call e14)) ?_
    refine wo_step (v := (.b c14)) (s_pure (p_mv rfl)) ?_
    refine wo_nil ?_
    refine nx_norm ?_
    refine w_ret ?_
    refine nx_ret ?_
    exact qf ret_ok (rt rfl rn) hr
  · refine w_condF rfl ?_
    refine w_skip ?_
    refine nx_norm ?_
    refine w_seq ?_
    refine w_ops ?_
    refine wo_step (v := (.i .i64 x0)) (s_pure (p_mv g0)) ?_
    refine wo_step (v := v1) (s_pure (p_mv g1)) ?_
    have hq := bindP_inv hr
    clear hr
    obtain ⟨v18, m_3, e18, hr⟩ := hq
    refine wo_step (v := v18) (s_call (mc rfl (mc rfl mn)) (callM_le hM.call e18)) ?_
    refine wo_step (v := v18) (s_pure (p_mv rfl)) ?_
    have hq := bindO_inv hr
    clear hr
    obtain ⟨v19, e19, hr⟩ := hq
    refine wo_step (v := v19) (s_pure (o_ext rfl e19)) ?_
    have hq := bindO_inv hr
    clear hr
    obtain ⟨v20, e20, hr⟩ := hq
    have hq := asI_inv hr
    clear hr
    obtain ⟨x20, rfl, hr⟩ := hq
    refine wo_step (v := (.i .i64 x20)) (s_pure (o_ext rfl e20)) ?_
    refine wo_step (v := v19) (s_pure (p_mv rfl)) ?_
    refine wo_step (v := (.i .i64 x20)) (s_pure (p_mv rfl)) ?_
    refine wo_nil ?_
    refine nx_norm ?_
    refine w_seq ?_
    refine w_ops ?_
    refine wo_step (v := (.i .i64 x0)) (s_pure (p_mv g0)) ?_
    refine wo_step (v := v1) (s_pure (p_mv g1)) ?_
    have hq := bindP_inv hr
    clear hr
    obtain ⟨v24, m_4, e24, hr⟩ := hq
    refine wo_step (v := v24) (s_call (mc rfl (mc rfl mn)) (callM_le hM.call e24)) ?_
    refine wo_step (v := v24) (s_pure (p_mv rfl)) ?_
    have hq := bindO_inv hr
    clear hr
    obtain ⟨v25, e25, hr⟩ := hq
    refine wo_step (v := v25) (s_pure (o_ext rfl e25)) ?_
    have hq := bindO_inv hr
    clear hr
    obtain ⟨v26, e26, hr⟩ := hq
    have hq := asI_inv hr
    clear hr
    obtain ⟨x26, rfl, hr⟩ := hq
    refine wo_step (v := (.i .i64 x26)) (s_pure (o_ext rfl e26)) ?_
    refine wo_step (v := v25) (s_pure (p_mv rfl)) ?_
    refine wo_step (v := (.i .i64 x26)) (s_pure (p_mv rfl)) ?_
    refine wo_nil ?_
    refine nx_norm ?_
    refine w_seq ?_
    refine w_seq ?_
    refine w_ops ?_
    refine wo_step (v := v19) (s_pure (p_mv rfl)) ?_
    refine wo_step (v := v25) (s_pure (p_mv rfl)) ?_
    have hq := bindP_inv hr
    clear hr
    obtain ⟨v29, m_5, e29, hr⟩ := hq
    have hq := asB_inv hr
    clear hr
    obtain ⟨c29, rfl, hr⟩ := hq
    refine wo_step (v := (.b c29)) (s_call (mc rfl (mc rfl mn)) (callM_le hM.call e29)) ?_
    have hq := forceB_inv hr
    clear hr
    obtain ⟨c30, e30, hr⟩ := hq
    refine wo_step (v := (.b c30)) (s_pure ((p_not rfl).trans (cb e30))) ?_
    refine wo_step (v := (.b c30)) (s_pure (p_mv rfl)) ?_
    have hq := bindO_inv hr
    clear hr
    obtain ⟨o, hr, hk⟩ := hq
    refine wo_join 4 (g3_J0 x0 v1 m_5 o) ?_ ?_
    · clear hk
      have hq := cond_inv hr
      clear hr
      rcases hq with ⟨rfl, hr⟩ | ⟨rfl, hr⟩
      · refine wo_skip (v := (.b true)) rfl rfl ?_
        refine wo_skip (v := (.b true)) rfl rfl ?_
        refine wo_skip (v := (.b true)) rfl rfl ?_
        refine wo_step (v := (.b true)) (s_pure (p_pickT rfl rfl)) ?_
        refine wo_nil ?_
        cases hr
        exact ⟨_, _, rfl, rfl, gl rfl, gl g0, gl g1⟩
      · refine wo_take (v := (.i .i64 x20)) rfl (s_pure (p_mv rfl)) ?_
        refine wo_take (v := (.i .i64 x26)) rfl (s_pure (p_mv rfl)) ?_
        have hq := forceB_inv hr
        clear hr
        obtain ⟨c34, e34, hr⟩ := hq
        refine wo_take (v := (.b c34)) rfl (s_pure (p_bin rfl rfl (b_neq.trans (cb e34)))) ?_
        refine wo_step (v := (.b c34)) (s_pure (p_pickF rfl rfl)) ?_
        refine wo_nil ?_
        cases hr
        exact ⟨_, _, rfl, rfl, gl rfl, gl g0, gl g1⟩
    · clear hr
      have hr := hk
      clear hk
      obtain ⟨c35, ho⟩ : ∃ z, z = o := ⟨_, rfl⟩
      subst ho
      rintro mm t_1 ⟨rfl, g35, g0, g1⟩
      refine wo_nil ?_
      refine nx_norm ?_
      have hq := cond_inv hr
      clear hr
      rcases hq with ⟨rfl, hr⟩ | ⟨rfl, hr⟩
      · refine w_condT g35 ?_
        refine w_seq ?_
        refine w_ops ?_
        refine wo_step (v := (.b false)) (s_pure (p_mv rfl)) ?_
        refine wo_nil ?_
        refine nx_norm ?_
        refine w_ret ?_
        refine nx_ret ?_
        exact qf ret_ok (rt rfl rn) hr
      · refine w_condF g35 ?_
        refine w_skip ?_
        refine nx_norm ?_
        refine w_seq ?_
        refine w_ops ?_
        refine wo_step (v := (.i .i64 x0)) (s_pure (p_mv g0)) ?_
        refine wo_step (v := v1) (s_pure (p_mv g1)) ?_
        have hq := bindP_inv hr
        clear hr
        obtain ⟨v39, m_6, e39, hr⟩ := hq
        refine wo_step (v := v39) (s_call (mc rfl (mc rfl mn)) (callM_le hM.call e39)) ?_
        refine wo_step (v := v39) (s_pure (p_mv rfl)) ?_
        have hq := bindO_inv hr
        clear hr
        obtain ⟨v40, e40, hr⟩ := hq
        have hq := asI_inv hr
        clear hr
        obtain ⟨x40, rfl, hr⟩ := hq
        refine wo_step (v := (.i .i64 x40)) (s_pure (o_ext rfl e40)) ?_
        have hq := bindO_inv hr
        clear hr
        obtain ⟨v41, e41, hr⟩ := hq
        have hq := asI_inv hr
        clear hr
        obtain ⟨x41, rfl, hr⟩ := hq
        refine wo_step (v := (.i .i64 x41)) (s_pure (o_ext rfl e41)) ?_
        refine wo_step (v := (.i .i64 x40)) (s_pure (p_mv rfl)) ?_
        refine wo_step (v := (.i .i64 x41)) (s_pure (p_mv rfl)) ?_
        refine wo_nil ?_
        refine nx_norm ?_
        refine w_seq ?_
        refine w_ops ?_
        refine wo_step (v := (.i .i64 x0)) (s_pure (p_mv g0)) ?_
        refine wo_step (v := v1) (s_pure (p_mv g1)) ?_
        have hq := bindP_inv hr
        clear hr
        obtain ⟨v45, m_7, e45, hr⟩ := hq
        refine wo_step (v := v45) (s_call (mc rfl (mc rfl mn)) (callM_le hM.call e45)) ?_
        refine wo_step (v := v45) (s_pure (p_mv rfl)) ?_
        have hq := bindO_inv hr
        clear hr
        obtain ⟨v46, e46, hr⟩ := hq
        have hq := asI_inv hr
        clear hr
        obtain ⟨x46, rfl, hr⟩ := hq
        refine wo_step (v := (.i .i64 x46)) (s_pure (o_ext rfl e46)) ?_
        have hq := bindO_inv hr
        clear hr
        obtain ⟨v47, e47, hr⟩ := hq
        have hq := asI_inv hr
        clear hr
        obtain ⟨x47, rfl, hr⟩ := hq
        refine wo_step (v := (.i .i64 x47)) (s_pure (o_ext rfl e47)) ?_
        refine wo_step (v := (.i .i64 x46)) (s_pure (p_mv rfl)) ?_
        refine wo_step (v := (.i .i64 x47)) (s_pure (p_mv rfl)) ?_
        refine wo_nil ?_
        refine nx_norm ?_
        refine w_seq ?_
        refine w_ops ?_
        refine wo_step (v := (.i .i64 x40)) (s_pure (p_mv rfl)) ?_
        refine wo_step (v := (.i .i64 x46)) (s_pure (p_mv rfl)) ?_
        have hq := forceB_inv hr
        clear hr
        obtain ⟨c50, e50, hr⟩ := hq
        refine wo_step (v := (.b c50)) (s_pure (p_bin rfl rfl (b_eql.trans (cb e50)))) ?_
        refine wo_step (v := (.b c50)) (s_pure (p_mv rfl)) ?_
        have hq := bindO_inv hr
        clear hr
        obtain ⟨o_1, hr, hk⟩ := hq
        refine wo_join 4 (g3_J1 m_7 o_1) ?_ ?_
        · clear hk
          have hq := cond_inv hr
          clear hr
          rcases hq with ⟨rfl, hr⟩ | ⟨rfl, hr⟩
          · refine wo_take (v := (.i .i64 x41)) rfl (s_pure (p_mv rfl)) ?_
            refine wo_take (v := (.i .i64 x47)) rfl (s_pure (p_mv rfl)) ?_
            have hq := forceB_inv hr
            clear hr
            obtain ⟨c54, e54, hr⟩ := hq
            refine wo_take (v := (.b c54)) rfl (s_pure (p_bin rfl rfl (b_eql.trans (cb e54)))) ?_
            refine wo_step (v := (.b c54)) (s_pure (p_pickT rfl rfl)) ?_
            refine wo_nil ?_
            cases hr
            exact ⟨_, _, rfl, rfl, gl rfl⟩
          · refine wo_skip (v := (.b false)) rfl rfl ?_
            refine wo_skip (v := (.b false)) rfl rfl ?_
            refine wo_skip (v := (.b false)) rfl rfl ?_
            refine wo_step (v := (.b false)) (s_pure (p_pickF rfl rfl)) ?_
            refine wo_nil ?_
            cases hr
            exact ⟨_, _, rfl, rfl, gl rfl⟩
        · clear hr
          have hr := hk
          clear hk
          obtain ⟨c55, ho⟩ : ∃ z, z = o_1 := ⟨_, rfl⟩
          subst ho
          rintro mm_1 t_2 ⟨rfl, g55⟩
          refine wo_step (v := (.b c55)) (s_pure (p_mv g55)) ?_
          have hq := bindO_inv hr
          clear hr
          obtain ⟨o_2, hr, hk⟩ := hq
          refine wo_join 2 (g3_J2  o_2) ?_ ?_
          · clear hk
            have hq := cond_inv hr
            clear hr
            rcases hq with ⟨rfl, hr⟩ | ⟨rfl, hr⟩
            · have hq := bindP_inv hr
              clear hr
              obtain ⟨v57, m_9, e57, hr⟩ := hq
              have hq := asB_inv hr
              clear hr
              obtain ⟨c57, rfl, hr⟩ := hq
              refine wo_take (v := (.b c57)) rfl (s_call mn (callM_le hM.call e57)) ?_
              refine wo_step (v := (.b c57)) (s_pure (p_pickT rfl rfl)) ?_
              refine wo_nil ?_
              cases hr
              exact ⟨_, _, rfl, rfl, gl rfl⟩
            · refine wo_skip (v := (.b false)) rfl rfl ?_
              refine wo_step (v := (.b false)) (s_pure (p_pickF rfl rfl)) ?_
              refine wo_nil ?_
              cases hr
              exact ⟨_, _, rfl, rfl, gl rfl⟩
          · clear hr
            have hr := hk
            clear hk
            obtain ⟨c58, m_8⟩ := o_2
            rintro mm_2 t_3 ⟨rfl, g58⟩
            refine wo_step (v := (.b c58)) (s_pure (p_mv g58)) ?_
            refine wo_nil ?_
            refine nx_norm ?_
            refine w_ret ?_
            exact qf ret_ok (rt rfl rn) hr

/- dibber/dibberlaw06.few -/

def g4 (M : Means) (ro : List ABlk) (v0 : AVal) (m0 : Mm) : Option (AVal × Heap × Nat × Nat) :=
  bindO (evP .e (.len false (.c v0))) fun v4 =>
  asI .i64 v4 fun x4 =>
  forceB (!ltI 40 x4) fun c5 =>
  finM m0.h.length (tupA [(.b c5)]) m0

theorem g4_ok {ro : List ABlk} {O : Caller} {M : Means} (hM : M.Ok ⟨F, O⟩ ro) {v0 h r} (ho : O 4 [v0] h = none) (hr : g4 M ro v0 ⟨h, h.length, h.length⟩ = some r) : callX ⟨F, O⟩ ro 4 [v0] h = some r := by
  refine callX_of (F := ⟨F, O⟩) (fn := fn4) (g := g4 M ro v0) ho rfl rfl hr ?_
  clear ho
  clear hr
  intro m0 t0 ht hr
  have g0 : t0.get 0 = v0 := ht 0
  clear ht
  unfold g4 at hr
  refine w_seq ?_
  refine w_ops ?_
  refine wo_step (v := (.b false)) (s_pure (p_mv rfl)) ?_
  refine wo_nil ?_
  refine nx_norm ?_
  refine w_seq ?_
  refine w_ops ?_
  refine wo_step (v := v0) (s_pure (p_mv g0)) ?_
  have hq := bindO_inv hr
  clear hr
  obtain ⟨v4, e4, hr⟩ := hq
  have hq := asI_inv hr
  clear hr
  obtain ⟨x4, rfl, hr⟩ := hq
  refine wo_step (v := (.i .i64 x4)) (s_pure (o_len rfl e4)) ?_
  have hq := forceB_inv hr
  clear hr
  obtain ⟨c5, e5, hr⟩ := hq
  refine wo_step (v := (.b c5)) (s_pure (p_bin rfl rfl (b_leq.trans (cb e5)))) ?_
  refine wo_step (v := (.b c5)) (s_pure (p_mv rfl)) ?_
  refine wo_nil ?_
  refine nx_norm ?_
  refine w_ret ?_
  exact qf ret_ok (rt rfl rn) hr

/- dibber/fence.Bridges -/
abbrev g6_I0 (v6 : AVal) (x20 : Int) (s : AVal × Int × Mm) (m1 : Mm) (t1 : Tr) : Prop :=
  match s with
  | (v8, x21, m_4) => m_4 = m1 ∧ t1.get 8 = v8 ∧ t1.get 21 = (.i .i64 x21) ∧ t1.get 6 = v6 ∧ t1.get 20 = (.i .i64 x20)
abbrev g6_J0 (v6 : AVal) (x20 : Int) (o : (AVal × Mm)) (e : AExit) (m1 : Mm) (t1 : Tr) : Prop :=
  match o with
  | (y8, mo) => e = (.exit 0) ∧ mo = m1 ∧ t1.get 8 = y8
abbrev g6_J1 (v6 : AVal) (x20 : Int) (x21 : Int) (o : (AVal × Mm)) (e : AExit) (m1 : Mm) (t1 : Tr) : Prop :=
  match o with
  | (y8, mo) => e = .norm ∧ mo = m1 ∧ t1.get 8 = y8 ∧ t1.get 6 = v6 ∧ t1.get 20 = (.i .i64 x20) ∧ t1.get 21 = (.i .i64 x21)
def g6_b0 (M : Means) (ro : List ABlk) (v6 : AVal) (x20 : Int) (v8 : AVal) (x21 : Int) (m_4 : Mm) : Option ((AVal × Int × Mm) ⊕ ((AVal × Mm))) :=
  forceB (ltI x21 x20) fun c22 =>
  cond c22 (
    bindO (ldM ro m_4 false 29 v6) fun v24 =>
    bindP (callM M.call m_4 18 [v24, (.i .i64 x21)]) fun v26 m_5 =>
    asB v26 fun c26 =>
    bindO (α := (AVal × Mm)) (
      cond c26 (
        bindP (stepM ro m_5 (.bsl 3 1 [(AVal.i IntKind.i64 0)] 1 [((0, 1), .c (.i .i64 x21))])) fun v29 m_6 =>
        bindP (stepM ro m_6 (.app 3 1 8 [(AVal.i IntKind.i64 0)] (.c v8) (.c v29))) fun v30 m_7 =>
        some (v30, m_7)) (
        some (v8, m_5))) fun ⟨v8_1, m_8⟩ =>
    forceI (wr .i64 (x21 + 1)) fun x31 =>
    some (.inl (v8_1, x31, m_8))) (
    some (.inr (v8, m_4)))
def g6 (M : Means) (ro : List ABlk) (x0 : Int) (v1 : AVal) (m0 : Mm) : Option (AVal × Heap × Nat × Nat) :=
  bindP (callM M.call m0 17 [(.i .i64 x0), v1]) fun v13 m_1 =>
  bindO (evP .e (.ext 0 (.c v13))) fun v14 =>
  bindO (evP .e (.ext 1 (.c v13))) fun v15 =>
  asI .i64 v15 fun x15 =>
  bindP (stepM ro m_1 (.al 49 [(AVal.i IntKind.i64 0), (AVal.i IntKind.i64 0), (AVal.i IntKind.i64 0), (AVal.i IntKind.i64 0), (AVal.i IntKind.i64 0), (AVal.i IntKind.i64 0), (AVal.i IntKind.i64 0), (AVal.i IntKind.i64 0), (AVal.i IntKind.i64 0), (AVal.i IntKind.i64 0), (AVal.i IntKind.i64 0), (AVal.i IntKind.i64 0), (AVal.i IntKind.i64 0), (AVal.i IntKind.i64 0), (AVal.i IntKind.i64 0), (AVal.i IntKind.i64 0), (AVal.i IntKind.i64 0), (AVal.i IntKind.i64 0), (AVal.i IntKind.i64 0), (AVal.i IntKind.i64 0), (AVal.i IntKind.i64 0), (AVal.i IntKind.i64 0), (AVal.i IntKind.i64 0), (AVal.i IntKind.i64 0), (AVal.i IntKind.i64 0), (AVal.i IntKind.i64 0), (AVal.i IntKind.i64 0), (AVal.i IntKind.i64 0), (AVal.i IntKind.i64 0)])) fun v6 m_2 =>
  bindP (stepM ro m_2 (.st 29 (.c v6) (.c v14))) fun vn m_3 =>
  forceB (!eqI x15 0) fun c17 =>
  cond c17 (
    finM m0.h.length (tupA [AVal.nsl, (.i .i64 x15)]) m_3) (
    bindO (evP .e (.faddr 0 (.c v6))) fun v19 =>
    bindO (ldM ro m_3 true 1 v19) fun v20 =>
    asI .i64 v20 fun x20 =>
    bindO (M.loop (S := AVal × Int × Mm) (R := (AVal × Mm)) (fun s => g6_b0 M ro v6 x20 s.1 s.2.1 s.2.2) (AVal.nsl, 0, m_3)) fun ⟨v8_2, m_9⟩ =>
    finM m0.h.length (tupA [v8_2, (.i .i64 0)]) m_9)

theorem g6_ok {ro : List ABlk} {O : Caller} {M : Means} (hM : M.Ok ⟨F, O⟩ ro) {x0 v1 h r} (ho : O 6 [(.i .i64 x0), v1] h = none) (hr : g6 M ro x0 v1 ⟨h, h.length, h.length⟩ = some r) : callX ⟨F, O⟩ ro 6 [(.i .i64 x0), v1] h = some r := by
  refine callX_of (F := ⟨F, O⟩) (fn := fn6) (g := g6 M ro x0 v1) ho rfl rfl hr ?_
  clear ho
  clear hr
  intro m0 t0 ht hr
  have g0 : t0.get 0 = (.i .i64 x0) := ht 0
  have g1 : t0.get 1 = v1 := ht 1
  clear ht
  unfold g6 at hr
  refine w_seq ?_
  refine w_ops ?_
  refine wo_step (v := AVal.nsl) (s_pure (p_mv rfl)) ?_
  refine wo_step (v := (.i .i64 0)) (s_pure (p_mv rfl)) ?_
  refine wo_nil ?_
  refine nx_norm ?_
  refine w_seq ?_
  refine w_ops ?_
  refine wo_step (v := (.i .i64 x0)) (s_pure (p_mv g0)) ?_
  refine wo_step (v := v1) (s_pure (p_mv g1)) ?_
  have hq := bindP_inv hr
  clear hr
  obtain ⟨v13, m_1, e13, hr⟩ := hq
  refine wo_step (v := v13) (s_call (mc rfl (mc rfl mn)) (callM_le hM.call e13)) ?_
  refine wo_step (v := v13) (s_pure (p_mv rfl)) ?_
  have hq := bindO_inv hr
  clear hr
  obtain ⟨v14, e14, hr⟩ := hq
  refine wo_step (v := v14) (s_pure (o_ext rfl e14)) ?_
  have hq := bindO_inv hr
  clear hr
  obtain ⟨v15, e15, hr⟩ := hq
  have hq := asI_inv hr
  clear hr
  obtain ⟨x15, rfl, hr⟩ := hq
  refine wo_step (v := (.i .i64 x15)) (s_pure (o_ext rfl e15)) ?_
  have hq := bindP_inv hr
  clear hr
  obtain ⟨v6, m_2, e6, hr⟩ := hq
  refine wo_step (v := v6) (s_al e6) ?_
  have hq := bindP_inv hr
  clear hr
  obtain ⟨vn, m_3, en, hr⟩ := hq
  refine wo_stepN (s_st rfl rfl en) ?_
  refine wo_step (v := (.i .i64 x15)) (s_pure (p_mv rfl)) ?_
  refine wo_nil ?_
  refine nx_norm ?_
  refine w_seq ?_
  refine w_seq ?_
  refine w_ops ?_
  refine wo_step (v := (.i .i64 x15)) (s_pure (p_mv rfl)) ?_
  have hq := forceB_inv hr
  clear hr
  obtain ⟨c17, e17, hr⟩ := hq
  refine wo_step (v := (.b c17)) (s_pure (p_bin rfl rfl (b_neq.trans (cb e17)))) ?_
  refine wo_nil ?_
  refine nx_norm ?_
  have hq := cond_inv hr
  clear hr
  rcases hq with ⟨rfl, hr⟩ | ⟨rfl, hr⟩
  · refine w_condT rfl ?_
    refine w_seq ?_
    refine w_ops ?_
    refine wo_step (v := (.i .i64 x15)) (s_pure (p_mv rfl)) ?_
    refine wo_step (v := AVal.nsl) (s_pure (p_mv rfl)) ?_
    refine wo_step (v := (.i .i64 x15)) (s_pure (p_mv rfl)) ?_
    refine wo_nil ?_
    refine nx_norm ?_
    refine w_ret ?_
    refine nx_ret ?_
    exact qf ret_ok (rt rfl (rt rfl rn)) hr
  · refine w_condF rfl ?_
    refine w_skip ?_
    refine nx_norm ?_
    refine w_seq ?_
    refine w_ops ?_
    refine wo_step (v := AVal.nsl) (s_pure (p_mv rfl)) ?_
    refine wo_nil ?_
    refine nx_norm ?_
    refine w_seq ?_
    refine w_seq ?_
    refine w_ops ?_
    have hq := bindO_inv hr
    clear hr
    obtain ⟨v19, e19, hr⟩ := hq
    refine wo_step (v := v19) (s_pure (o_faddr rfl e19)) ?_
    have hq := bindO_inv hr
    clear hr
    obtain ⟨v20, e20, hr⟩ := hq
    have hq := asI_inv hr
    clear hr
    obtain ⟨x20, rfl, hr⟩ := hq
    refine wo_step (v := (.i .i64 x20)) (s_ld rfl e20) ?_
    refine wo_step (v := (.i .i64 0)) (s_pure (p_mv rfl)) ?_
    refine wo_nil ?_
    refine nx_norm ?_
    refine w_block ?_
    have hq := bindO_inv hr
    clear hr
    obtain ⟨o_1, hl, hr⟩ := hq
    obtain ⟨n, hl⟩ := hM.loop _ _ _ hl
    refine jp_mono (w_loop _ (g6_I0 v6 x20) (g6_J0 v6 x20) ?_ n _ _ _ _ hl ⟨rfl, gl rfl, gl rfl, gl rfl, gl rfl⟩) ?_
    · clear hr hl
      intro s mm_2 t_1 o hi hr
      obtain ⟨v8, x21, m_4⟩ := s
      obtain ⟨rfl, g8, g21, g6, g20⟩ := hi
      unfold g6_b0 at hr
      refine w_seq ?_
      refine w_ops ?_
      have hq := forceB_inv hr
      clear hr
      obtain ⟨c22, e22, hr⟩ := hq
      refine wo_step (v := (.b c22)) (s_pure (p_bin g21 g20 (b_lss.trans (cb e22)))) ?_
      refine wo_nil ?_
      refine nx_norm ?_
      refine w_seq ?_
      have hq := cond_inv hr
      clear hr
      rcases hq with ⟨rfl, hr⟩ | ⟨rfl, hr⟩
      · refine w_condT rfl ?_
        refine w_skip ?_
        refine nx_norm ?_
        refine w_seq ?_
        refine w_block ?_
        refine w_seq ?_
        refine w_ops ?_
        refine wo_step (v := (.i .i64 x21)) (s_pure (p_mv g21)) ?_
        refine wo_step (v := (.i .i64 x21)) (s_pure (p_mv rfl)) ?_
        refine wo_nil ?_
        refine nx_norm ?_
        refine w_seq ?_
        refine w_ops ?_
        have hq := bindO_inv hr
        clear hr
        obtain ⟨v24, e24, hr⟩ := hq
        refine wo_step (v := v24) (s_ld g6 e24) ?_
        refine wo_step (v := (.i .i64 x21)) (s_pure (p_mv rfl)) ?_
        have hq := bindP_inv hr
        clear hr
        obtain ⟨v26, m_5, e26, hr⟩ := hq
        have hq := asB_inv hr
        clear hr
        obtain ⟨c26, rfl, hr⟩ := hq
        refine wo_step (v := (.b c26)) (s_call (mc rfl (mc rfl mn)) (callM_le hM.call e26)) ?_
        refine wo_nil ?_
        refine nx_norm ?_
        have hq := bindO_inv hr
        clear hr
        obtain ⟨o, hr, hk⟩ := hq
        refine jp_mono (J := g6_J1 v6 x20 x21 o) ?_ ?_
        · clear hk
          have hq := cond_inv hr
          clear hr
          rcases hq with ⟨rfl, hr⟩ | ⟨rfl, hr⟩
          · refine w_condT rfl ?_
            refine w_ops ?_
            refine wo_step (v := v8) (s_pure (p_mv g8)) ?_
            refine wo_step (v := (.i .i64 x21)) (s_pure (p_mv rfl)) ?_
            have hq := bindP_inv hr
            clear hr
            obtain ⟨v29, m_6, e29, hr⟩ := hq
            refine wo_step (v := v29) (s_bsl (qc rfl qn) e29) ?_
            have hq := bindP_inv hr
            clear hr
            obtain ⟨v30, m_7, e30, hr⟩ := hq
            refine wo_step (v := v30) (s_app rfl rfl e30) ?_
            refine wo_step (v := v30) (s_pure (p_mv rfl)) ?_
            refine wo_nil ?_
            cases hr
            exact ⟨_, _, rfl, rfl, rfl, gl rfl, gl g6, gl g20, gl g21⟩
          · refine w_condF rfl ?_
            refine w_skip ?_
            cases hr
            exact ⟨_, _, rfl, rfl, rfl, gl g8, gl g6, gl g20, gl g21⟩
        · clear hr
          have hr := hk
          clear hk
          obtain ⟨v8_1, m_8⟩ := o
          rintro _ mm t_2 ⟨rfl, rfl, g8, g6, g20, g21⟩
          refine bk_norm ?_
          refine nx_norm ?_
          refine w_ops ?_
          have hq := forceI_inv hr
          clear hr
          obtain ⟨x31, e31, hr⟩ := hq
          refine wo_step (v := (.i .i64 x31)) (s_pure (p_bin g21 rfl (b_add.trans (ci e31)))) ?_
          refine wo_step (v := (.i .i64 x31)) (s_pure (p_mv rfl)) ?_
          refine wo_nil ?_
          cases hr
          exact ⟨_, _, rfl, rfl, rfl, gl g8, gl rfl, gl g6, gl g20⟩
      · refine w_condF rfl ?_
        refine w_exit ?_
        refine nx_exit ?_
        cases hr
        exact ⟨_, _, rfl, ne_norm_exit, rfl, rfl, gl g8⟩
    · obtain ⟨v8_2, m_9⟩ := o_1
      rintro _ mm_1 t_3 ⟨rfl, rfl, g8⟩
      refine bk_hit ?_
      refine nx_norm ?_
      refine w_seq ?_
      refine w_ops ?_
      refine wo_step (v := v8_2) (s_pure (p_mv g8)) ?_
      refine wo_step (v := v8_2) (s_pure (p_mv rfl)) ?_
      refine wo_step (v := (.i .i64 0)) (s_pure (p_mv rfl)) ?_
      refine wo_nil ?_
      refine nx_norm ?_
      refine w_ret ?_
      exact qf ret_ok (rt rfl (rt rfl rn)) hr

/- dibber/dibberref06.Bridges -/
abbrev g7_I0 (x0 : Int) (v1 : AVal) (x19 : Int) (s : AVal × Int × Mm) (m1 : Mm) (t1 : Tr) : Prop :=
  match s with
  | (v8, x9, m_2) => m_2 = m1 ∧ t1.get 8 = v8 ∧ t1.get 9 = (.i .i64 x9) ∧ t1.get 0 = (.i .i64 x0) ∧ t1.get 1 = v1 ∧ t1.get 7 = (.i .i64 x19)
abbrev g7_J0 (x0 : Int) (v1 : AVal) (x19 : Int) (o : (AVal × Mm)) (e : AExit) (m1 : Mm) (t1 : Tr) : Prop :=
  match o with
  | (y8, mo) => e = (.exit 0) ∧ mo = m1 ∧ t1.get 8 = y8
abbrev g7_J1 (x0 : Int) (v1 : AVal) (x19 : Int) (x9 : Int) (o : (AVal × Mm)) (e : AExit) (m1 : Mm) (t1 : Tr) : Prop :=
  match o with
  | (y8, mo) => e = .norm ∧ mo = m1 ∧ t1.get 8 = y8 ∧ t1.get 0 = (.i .i64 x0) ∧ t1.get 1 = v1 ∧ t1.get 7 = (.i .i64 x19) ∧ t1.get 9 = (.i .i64 x9)
def g7_b0 (M : Means) (ro : List ABlk) (x0 : Int) (v1 : AVal) (x19 : Int) (v8 : AVal) (x9 : Int) (m_2 : Mm) : Option ((AVal × Int × Mm) ⊕ ((AVal × Mm))) :=
  bindO (evP .e (.len false (.c v1))) fun v22 =>
  asI .i64 v22 fun x22 =>
  forceB (ltI x9 x22) fun c23 =>
  cond c23 (
    chk (!ltI x9 (.ofNat 0)) <|
    forceI (shlV .i64 1 x9) fun x30 =>
    forceI (wr .i64 (x19 - x30)) fun x31 =>
    bindP (callM M.call m_2 20 [(.i .i64 x0), v1, (.i .i64 x31)]) fun v32 m_3 =>
    asI .i64 v32 fun x32 =>
    bindP (callM M.call m_3 20 [(.i .i64 x0), v1, (.i .i64 x19)]) fun v36 m_4 =>
    asI .i64 v36 fun x36 =>
    forceB (ltI x36 x32) fun c37 =>
    bindO (α := (AVal × Mm)) (
      cond c37 (
        bindP (stepM ro m_4 (.bsl 3 1 [(AVal.i IntKind.i64 0)] 1 [((0, 1), .c (.i .i64 x9))])) fun v40 m_5 =>
        bindP (stepM ro m_5 (.app 3 1 8 [(AVal.i IntKind.i64 0)] (.c v8) (.c v40))) fun v41 m_6 =>
        some (v41, m_6)) (
        some (v8, m_4))) fun ⟨v8_1, m_7⟩ =>
    forceI (wr .i64 (x9 + 1)) fun x25 =>
    some (.inl (v8_1, x25, m_7))) (
    some (.inr (v8, m_2)))
def g7 (M : Means) (ro : List ABlk) (x0 : Int) (v1 : AVal) (m0 : Mm) : Option (AVal × Heap × Nat × Nat) :=
  bindP (callM M.call m0 19 [(.i .i64 x0), v1]) fun v12 m_1 =>
  asI .i64 v12 fun x12 =>
  forceB (!eqI x12 0) fun c14 =>
  cond c14 (
    finM m0.h.length (tupA [AVal.nsl, (.i .i64 x12)]) m_1) (
    bindO (evP .e (.len false (.c v1))) fun v17 =>
    asI .i64 v17 fun x17 =>
    chk (!ltI x17 (.ofNat 0)) <|
    forceI (shlV .i64 1 x17) fun x18 =>
    forceI (wr .i64 (x18 - 1)) fun x19 =>
    bindO (M.loop (S := AVal × Int × Mm) (R := (AVal × Mm)) (fun s => g7_b0 M ro x0 v1 x19 s.1 s.2.1 s.2.2) (AVal.nsl, 0, m_1)) fun ⟨v8_2, m_8⟩ =>
    finM m0.h.length (tupA [v8_2, (.i .i64 0)]) m_8)

theorem g7_ok {ro : List ABlk} {O : Caller} {M : Means} (hM : M.Ok ⟨F, O⟩ ro) {x0 v1 h r} (ho : O 7 [(.i .i64 x0), v1] h = none) (hr : g7 M ro x0 v1 ⟨h, h.length, h.length⟩ = some r) : callX ⟨F, O⟩ ro 7 [(.i .i64 x0), v1] h = some r := by
  refine callX_of (F := ⟨F, O⟩) (fn := fn7) (g := g7 M ro x0 v1) ho rfl rfl hr ?_
  clear ho
  clear hr
  intro m0 t0 ht hr
  have g0 : t0.get 0 = (.i .i64 x0) := ht 0
  have g1 : t0.get 1 = v1 := ht 1
  clear ht
  unfold g7 at hr
  refine w_seq ?_
  refine w_ops ?_
  refine wo_step (v := AVal.nsl) (s_pure (p_mv rfl)) ?_
  refine wo_step (v := (.i .i64 0)) (s_pure (p_mv rfl)) ?_
  refine wo_nil ?_
  refine nx_norm ?_
  refine w_seq ?_
  refine w_ops ?_
  refine wo_step (v := (.i .i64 x0)) (s_pure (p_mv g0)) ?_
  refine wo_step (v := v1) (s_pure (p_mv g1)) ?_
  have hq := bindP_inv hr
  clear hr
  obtain ⟨v12, m_1, e12, hr⟩ := hq
  have hq := asI_inv hr
  clear hr
  obtain ⟨x12, rfl, hr⟩ := hq
  refine wo_step (v := (.i .i64 x12)) (s_call (mc rfl (mc rfl mn)) (callM_le hM.call e12)) ?_
  refine wo_step (v := (.i .i64 x12)) (s_pure (p_mv rfl)) ?_
  refine wo_nil ?_
  refine nx_norm ?_
  refine w_seq ?_
  refine w_seq ?_
  refine w_ops ?_
  refine wo_step (v := (.i .i64 x12)) (s_pure (p_mv rfl)) ?_
  have hq := forceB_inv hr
  clear hr
  obtain ⟨c14, e14, hr⟩ := hq
  refine wo_step (v := (.b c14)) (s_pure (p_bin rfl rfl (b_neq.trans (cb e14)))) ?_
  refine wo_nil ?_
  refine nx_norm ?_
  have hq := cond_inv hr
  clear hr
  rcases hq with ⟨rfl, hr⟩ | ⟨rfl, hr⟩
  · refine w_condT rfl ?_
    refine w_seq ?_
    refine w_ops ?_
    refine wo_step (v := (.i .i64 x12)) (s_pure (p_mv rfl)) ?_
    refine wo_step (v := AVal.nsl) (s_pure (p_mv rfl)) ?_
    refine wo_step (v := (.i .i64 x12)) (s_pure (p_mv rfl)) ?_
    refine wo_nil ?_
    refine nx_norm ?_
    refine w_ret ?_
    refine nx_ret ?_
    exact qf ret_ok (rt rfl (rt rfl rn)) hr
  · refine w_condF rfl ?_
    refine w_skip ?_
    refine nx_norm ?_
    refine w_seq ?_
    refine w_ops ?_
    refine wo_step (v := v1) (s_pure (p_mv g1)) ?_
    have hq := bindO_inv hr
    clear hr
    obtain ⟨v17, e17, hr⟩ := hq
    have hq := asI_inv hr
    clear hr
    obtain ⟨x17, rfl, hr⟩ := hq
    refine wo_step (v := (.i .i64 x17)) (s_pure (o_len rfl e17)) ?_
    have hq := chk_inv hr
    clear hr
    obtain ⟨hc18, hr⟩ := hq
    have hq := forceI_inv hr
    clear hr
    obtain ⟨x18, e18, hr⟩ := hq
    refine wo_step (v := (.i .i64 x18)) (s_pure (p_bin rfl rfl ((b_shl hc18).trans (ci e18)))) ?_
    have hq := forceI_inv hr
    clear hr
    obtain ⟨x19, e19, hr⟩ := hq
    refine wo_step (v := (.i .i64 x19)) (s_pure (p_bin rfl rfl (b_sub.trans (ci e19)))) ?_
    refine wo_step (v := (.i .i64 x19)) (s_pure (p_mv rfl)) ?_
    refine wo_nil ?_
    refine nx_norm ?_
    refine w_seq ?_
    refine w_ops ?_
    refine wo_step (v := AVal.nsl) (s_pure (p_mv rfl)) ?_
    refine wo_nil ?_
    refine nx_norm ?_
    refine w_seq ?_
    refine w_seq ?_
    refine w_ops ?_
    refine wo_step (v := (.i .i64 0)) (s_pure (p_mv rfl)) ?_
    refine wo_nil ?_
    refine nx_norm ?_
    refine w_block ?_
    have hq := bindO_inv hr
    clear hr
    obtain ⟨o_1, hl, hr⟩ := hq
    obtain ⟨n, hl⟩ := hM.loop _ _ _ hl
    refine jp_mono (w_loop _ (g7_I0 x0 v1 x19) (g7_J0 x0 v1 x19) ?_ n _ _ _ _ hl ⟨rfl, gl rfl, gl rfl, gl g0, gl g1, gl rfl⟩) ?_
    · clear hr hl
      intro s mm_2 t_1 o hi hr
      obtain ⟨v8, x9, m_2⟩ := s
      obtain ⟨rfl, g8, g9, g0, g1, g7⟩ := hi
      unfold g7_b0 at hr
      refine w_seq ?_
      refine w_seq ?_
      refine w_ops ?_
      refine wo_step (v := (.i .i64 x9)) (s_pure (p_mv g9)) ?_
      refine wo_step (v := v1) (s_pure (p_mv g1)) ?_
      have hq := bindO_inv hr
      clear hr
      obtain ⟨v22, e22, hr⟩ := hq
      have hq := asI_inv hr
      clear hr
      obtain ⟨x22, rfl, hr⟩ := hq
      refine wo_step (v := (.i .i64 x22)) (s_pure (o_len rfl e22)) ?_
      have hq := forceB_inv hr
      clear hr
      obtain ⟨c23, e23, hr⟩ := hq
      refine wo_step (v := (.b c23)) (s_pure (p_bin rfl rfl (b_lss.trans (cb e23)))) ?_
      refine wo_nil ?_
      refine nx_norm ?_
      have hq := cond_inv hr
      clear hr
      rcases hq with ⟨rfl, hr⟩ | ⟨rfl, hr⟩
      · refine w_condT rfl ?_
        refine w_skip ?_
        refine nx_norm ?_
        refine w_seq ?_
        refine w_block ?_
        refine w_seq ?_
        refine w_ops ?_
        refine wo_step (v := (.i .i64 x0)) (s_pure (p_mv g0)) ?_
        refine wo_step (v := v1) (s_pure (p_mv g1)) ?_
        refine wo_step (v := (.i .i64 x19)) (s_pure (p_mv g7)) ?_
        refine wo_step (v := (.i .i64 x9)) (s_pure (p_mv g9)) ?_
        have hq := chk_inv hr
        clear hr
        obtain ⟨hc30, hr⟩ := hq
        have hq := forceI_inv hr
        clear hr
        obtain ⟨x30, e30, hr⟩ := hq
        refine wo_step (v := (.i .i64 x30)) (s_pure (p_bin rfl rfl ((b_shl hc30).trans (ci e30)))) ?_
        have hq := forceI_inv hr
        clear hr
        obtain ⟨x31, e31, hr⟩ := hq
        refine wo_step (v := (.i .i64 x31)) (s_pure (p_bin rfl rfl (b_sub.trans (ci e31)))) ?_
        have hq := bindP_inv hr
        clear hr
        obtain ⟨v32, m_3, e32, hr⟩ := hq
        have hq := asI_inv hr
        clear hr
        obtain ⟨x32, rfl, hr⟩ := hq
        refine wo_step (v := (.i .i64 x32)) (s_call (mc rfl (mc rfl (mc rfl mn))) (callM_le hM.call e32)) ?_
        refine wo_step (v := (.i .i64 x0)) (s_pure (p_mv g0)) ?_
        refine wo_step (v := v1) (s_pure (p_mv g1)) ?_
        refine wo_step (v := (.i .i64 x19)) (s_pure (p_mv g7)) ?_
        have hq := bindP_inv hr
        clear hr
        obtain ⟨v36, m_4, e36, hr⟩ := hq
        have hq := asI_inv hr
        clear hr
        obtain ⟨x36, rfl, hr⟩ := hq
        refine wo_step (v := (.i .i64 x36)) (s_call (mc rfl (mc rfl (mc rfl mn))) (callM_le hM.call e36)) ?_
        have hq := forceB_inv hr
        clear hr
        obtain ⟨c37, e37, hr⟩ := hq
        refine wo_step (v := (.b c37)) (s_pure (p_bin rfl rfl (b_gtr.trans (cb e37)))) ?_
        refine wo_nil ?_
        refine nx_norm ?_
        have hq := bindO_inv hr
        clear hr
        obtain ⟨o, hr, hk⟩ := hq
        refine jp_mono (J := g7_J1 x0 v1 x19 x9 o) ?_ ?_
        · clear hk
          have hq := cond_inv hr
          clear hr
          rcases hq with ⟨rfl, hr⟩ | ⟨rfl, hr⟩
          · refine w_condT rfl ?_
            refine w_ops ?_
            refine wo_step (v := v8) (s_pure (p_mv g8)) ?_
            refine wo_step (v := (.i .i64 x9)) (s_pure (p_mv g9)) ?_
            have hq := bindP_inv hr
            clear hr
            obtain ⟨v40, m_5, e40, hr⟩ := hq
            refine wo_step (v := v40) (s_bsl (qc rfl qn) e40) ?_
            have hq := bindP_inv hr
            clear hr
            obtain ⟨v41, m_6, e41, hr⟩ := hq
            refine wo_step (v := v41) (s_app rfl rfl e41) ?_
            refine wo_step (v := v41) (s_pure (p_mv rfl)) ?_
            refine wo_nil ?_
            cases hr
            exact ⟨_, _, rfl, rfl, rfl, gl rfl, gl g0, gl g1, gl g7, gl g9⟩
          · refine w_condF rfl ?_
            refine w_skip ?_
            cases hr
            exact ⟨_, _, rfl, rfl, rfl, gl g8, gl g0, gl g1, gl g7, gl g9⟩
        · clear hr
          have hr := hk
          clear hk
          obtain ⟨v8_1, m_7⟩ := o
          rintro _ mm t_2 ⟨rfl, rfl, g8, g0, g1, g7, g9⟩
          refine bk_norm ?_
          refine nx_norm ?_
          refine w_ops ?_
          refine wo_step (v := (.i .i64 x9)) (s_pure (p_mv g9)) ?_
          have hq := forceI_inv hr
          clear hr
          obtain ⟨x25, e25, hr⟩ := hq
          refine wo_step (v := (.i .i64 x25)) (s_pure (p_bin rfl rfl (b_add.trans (ci e25)))) ?_
          refine wo_step (v := (.i .i64 x25)) (s_pure (p_mv rfl)) ?_
          refine wo_nil ?_
          cases hr
          exact ⟨_, _, rfl, rfl, rfl, gl g8, gl rfl, gl g0, gl g1, gl g7⟩
      · refine w_condF rfl ?_
        refine w_exit ?_
        refine nx_exit ?_
        cases hr
        exact ⟨_, _, rfl, ne_norm_exit, rfl, rfl, gl g8⟩
    · obtain ⟨v8_2, m_8⟩ := o_1
      rintro _ mm_1 t_3 ⟨rfl, rfl, g8⟩
      refine bk_hit ?_
      refine nx_norm ?_
      refine w_seq ?_
      refine w_ops ?_
      refine wo_step (v := v8_2) (s_pure (p_mv g8)) ?_
      refine wo_step (v := v8_2) (s_pure (p_mv rfl)) ?_
      refine wo_step (v := (.i .i64 0)) (s_pure (p_mv rfl)) ?_
      refine wo_nil ?_
      refine nx_norm ?_
      refine w_ret ?_
      exact qf ret_ok (rt rfl (rt rfl rn)) hr

/- dibber/dibberlaw06.same -/
abbrev g8_I0 (v0 : AVal) (v1 : AVal) (m0 : Mm) (s : Int) (m1 : Mm) (t1 : Tr) : Prop :=
  match s with
  | x5 => m0 = m1 ∧ t1.get 5 = (.i .i64 x5) ∧ t1.get 0 = v0 ∧ t1.get 1 = v1
abbrev g8_J0 (v0 : AVal) (v1 : AVal) (m0 : Mm) (o : (Unit ⊕ Bool)) (e : AExit) (m1 : Mm) (t1 : Tr) : Prop :=
  match o with
  | (.inl _) => e = (.exit 0) ∧ m0 = m1
  | (.inr y4) => e = .ret ∧ m0 = m1 ∧ t1.get 4 = (.b y4)
def g8_b0 (M : Means) (ro : List ABlk) (v0 : AVal) (v1 : AVal) (m0 : Mm) (x5 : Int) : Option ((Int) ⊕ ((Unit ⊕ Bool))) :=
  bindO (evP .e (.len false (.c v0))) fun v13 =>
  asI .i64 v13 fun x13 =>
  forceB (ltI x5 x13) fun c14 =>
  cond c14 (
    bindO (evP .e (.ixS 1 (.c v0) (.c (.i .i64 x5)))) fun v19 =>
    bindO (ldA ro m0.h true 1 v19) fun v20 =>
    asI .i64 v20 fun x20 =>
    bindO (evP .e (.ixS 1 (.c v1) (.c (.i .i64 x5)))) fun v23 =>
    bindO (ldA ro m0.h true 1 v23) fun v24 =>
    asI .i64 v24 fun x24 =>
    forceB (!eqI x20 x24) fun c25 =>
    cond c25 (
      some (.inr (.inr false))) (
      forceI (wr .i64 (x5 + 1)) fun x16 =>
      some (.inl x16))) (
    some (.inr (.inl ())))
def g8 (M : Means) (ro : List ABlk) (v0 : AVal) (v1 : AVal) (m0 : Mm) : Option (AVal × Heap × Nat × Nat) :=
  bindO (evP .e (.len false (.c v0))) fun v7 =>
  asI .i64 v7 fun x7 =>
  bindO (evP .e (.len false (.c v1))) fun v9 =>
  asI .i64 v9 fun x9 =>
  forceB (!eqI x7 x9) fun c10 =>
  cond c10 (
    finM m0.h.length (tupA [(.b false)]) m0) (
    bindO (M.loop (S := Int) (R := (Unit ⊕ Bool)) (fun s => g8_b0 M ro v0 v1 m0 s) 0) fun o => match o with
    | (.inl _) =>
      finM m0.h.length (tupA [(.b true)]) m0
    | (.inr c4) =>
      finM m0.h.length (tupA [(.b c4)]) m0)

theorem g8_ok {ro : List ABlk} {O : Caller} {M : Means} (hM : M.Ok ⟨F, O⟩ ro) {v0 v1 h r} (ho : O 8 [v0, v1] h = none) (hr : g8 M ro v0 v1 ⟨h, h.length, h.length⟩ = some r) : callX ⟨F, O⟩ ro 8 [v0, v1] h = some r := by
  refine callX_of (F := ⟨F, O⟩) (fn := fn8) (g := g8 M ro v0 v1) ho rfl rfl hr ?_
  clear ho
  clear hr
  intro m0 t0 ht hr
  have g0 : t0.get 0 = v0 := ht 0
  have g1 : t0.get 1 = v1 := ht 1
  clear ht
  unfold g8 at hr
  refine w_seq ?_
  refine w_ops ?_
  refine wo_step (v := (.b false)) (s_pure (p_mv rfl)) ?_
  refine wo_nil ?_
  refine nx_norm ?_
  refine w_seq ?_
  refine w_seq ?_
  refine w_ops ?_
  refine wo_step (v := v0) (s_pure (p_mv g0)) ?_
  have hq := bindO_inv hr
  clear hr
  obtain ⟨v7, e7, hr⟩ := hq
  have hq := asI_inv hr
  clear hr
  obtain ⟨x7, rfl, hr⟩ := hq
  refine wo_step (v := (.i .i64 x7)) (s_pure (o_len rfl e7)) ?_
  refine wo_step (v := v1) (s_pure (p_mv g1)) ?_
  have hq := bindO_inv hr
  clear hr
  obtain ⟨v9, e9, hr⟩ := hq
  have hq := asI_inv hr
  clear hr
  obtain ⟨x9, rfl, hr⟩ := hq
  refine wo_step (v := (.i .i64 x9)) (s_pure (o_len rfl e9)) ?_
  have hq := forceB_inv hr
  clear hr
  obtain ⟨c10, e10, hr⟩ := hq
  refine wo_step (v := (.b c10)) (s_pure (p_bin rfl rfl (b_neq.trans (cb e10)))) ?_
  refine wo_nil ?_
  refine nx_norm ?_
  have hq := cond_inv hr
  clear hr
  rcases hq with ⟨rfl, hr⟩ | ⟨rfl, hr⟩
  · refine w_condT rfl ?_
    refine w_seq ?_
    refine w_ops ?_
    refine wo_step (v := (.b false)) (s_pure (p_mv rfl)) ?_
    refine wo_nil ?_
    refine nx_norm ?_
    refine w_ret ?_
    refine nx_ret ?_
    exact qf ret_ok (rt rfl rn) hr
  · refine w_condF rfl ?_
    refine w_skip ?_
    refine nx_norm ?_
    refine w_seq ?_
    refine w_seq ?_
    refine w_ops ?_
    refine wo_step (v := (.i .i64 0)) (s_pure (p_mv rfl)) ?_
    refine wo_nil ?_
    refine nx_norm ?_
    refine w_block ?_
    have hq := bindO_inv hr
    clear hr
    obtain ⟨o, hl, hr⟩ := hq
    obtain ⟨n, hl⟩ := hM.loop _ _ _ hl
    refine jp_mono (w_loop _ (g8_I0 v0 v1 m0) (g8_J0 v0 v1 m0) ?_ n _ _ _ _ hl ⟨rfl, gl rfl, gl g0, gl g1⟩) ?_
    · clear hr hl
      intro s mm_2 t_1 o hi hr
      obtain ⟨x5, hs⟩ : ∃ z, z = s := ⟨_, rfl⟩
      subst hs
      obtain ⟨rfl, g5, g0, g1⟩ := hi
      unfold g8_b0 at hr
      refine w_seq ?_
      refine w_seq ?_
      refine w_ops ?_
      refine wo_step (v := (.i .i64 x5)) (s_pure (p_mv g5)) ?_
      refine wo_step (v := v0) (s_pure (p_mv g0)) ?_
      have hq := bindO_inv hr
      clear hr
      obtain ⟨v13, e13, hr⟩ := hq
      have hq := asI_inv hr
      clear hr
      obtain ⟨x13, rfl, hr⟩ := hq
      refine wo_step (v := (.i .i64 x13)) (s_pure (o_len rfl e13)) ?_
      have hq := forceB_inv hr
      clear hr
      obtain ⟨c14, e14, hr⟩ := hq
      refine wo_step (v := (.b c14)) (s_pure (p_bin rfl rfl (b_lss.trans (cb e14)))) ?_
      refine wo_nil ?_
      refine nx_norm ?_
      have hq := cond_inv hr
      clear hr
      rcases hq with ⟨rfl, hr⟩ | ⟨rfl, hr⟩
      · refine w_condT rfl ?_
        refine w_skip ?_
        refine nx_norm ?_
        refine w_seq ?_
        refine w_block ?_
        refine w_seq ?_
        refine w_any ?_
        refine wa_step (v := v0) (a_pure (p_mv g0)) ?_
        refine wa_step (v := (.i .i64 x5)) (a_pure (p_mv g5)) ?_
        have hq := bindO_inv hr
        clear hr
        obtain ⟨v19, e19, hr⟩ := hq
        refine wa_step (v := v19) (a_pure (o_ixS rfl rfl e19)) ?_
        have hq := bindO_inv hr
        clear hr
        obtain ⟨v20, e20, hr⟩ := hq
        have hq := asI_inv hr
        clear hr
        obtain ⟨x20, rfl, hr⟩ := hq
        refine wa_step (v := (.i .i64 x20)) (a_ld rfl e20) ?_
        refine wa_step (v := v1) (a_pure (p_mv g1)) ?_
        refine wa_step (v := (.i .i64 x5)) (a_pure (p_mv g5)) ?_
        have hq := bindO_inv hr
        clear hr
        obtain ⟨v23, e23, hr⟩ := hq
        refine wa_step (v := v23) (a_pure (o_ixS rfl rfl e23)) ?_
        have hq := bindO_inv hr
        clear hr
        obtain ⟨v24, e24, hr⟩ := hq
        have hq := asI_inv hr
        clear hr
        obtain ⟨x24, rfl, hr⟩ := hq
        refine wa_step (v := (.i .i64 x24)) (a_ld rfl e24) ?_
        have hq := forceB_inv hr
        clear hr
        obtain ⟨c25, e25, hr⟩ := hq
        refine wa_step (v := (.b c25)) (a_pure (p_bin rfl rfl (b_neq.trans (cb e25)))) ?_
        refine wa_nil ?_
        refine ⟨m0, rfl, ?_⟩
        refine nx_norm ?_
        have hq := cond_inv hr
        clear hr
        rcases hq with ⟨rfl, hr⟩ | ⟨rfl, hr⟩
        · refine w_condT rfl ?_
          refine w_seq ?_
          refine w_ops ?_
          refine wo_step (v := (.b false)) (s_pure (p_mv rfl)) ?_
          refine wo_nil ?_
          refine nx_norm ?_
          refine w_ret ?_
          refine bk_ret ?_
          refine nx_ret ?_
          cases hr
          exact ⟨_, _, rfl, ne_norm_ret, rfl, rfl, gl rfl⟩
        · refine w_condF rfl ?_
          refine w_skip ?_
          refine bk_norm ?_
          refine nx_norm ?_
          refine w_ops ?_
          refine wo_step (v := (.i .i64 x5)) (s_pure (p_mv g5)) ?_
          have hq := forceI_inv hr
          clear hr
          obtain ⟨x16, e16, hr⟩ := hq
          refine wo_step (v := (.i .i64 x16)) (s_pure (p_bin rfl rfl (b_add.trans (ci e16)))) ?_
          refine wo_step (v := (.i .i64 x16)) (s_pure (p_mv rfl)) ?_
          refine wo_nil ?_
          cases hr
          exact ⟨_, _, rfl, rfl, rfl, gl rfl, gl g0, gl g1⟩
      · refine w_condF rfl ?_
        refine w_exit ?_
        refine nx_exit ?_
        cases hr
        exact ⟨_, _, rfl, ne_norm_exit, rfl, rfl⟩
    · rcases o with o | o
      · rintro _ mm t_2 ⟨rfl, rfl⟩
        refine bk_hit ?_
        refine nx_norm ?_
        refine w_seq ?_
        refine w_ops ?_
        refine wo_step (v := (.b true)) (s_pure (p_mv rfl)) ?_
        refine wo_nil ?_
        refine nx_norm ?_
        refine w_ret ?_
        exact qf ret_ok (rt rfl rn) hr
      · obtain ⟨c4, ho⟩ : ∃ z, z = o := ⟨_, rfl⟩
        subst ho
        rintro _ mm_1 t_3 ⟨rfl, rfl, g4⟩
        refine bk_ret ?_
        refine nx_ret ?_
        exact qf ret_ok (rt g4 rn) hr

/- dibber/fence.Groups -/

def g9 (M : Means) (ro : List ABlk) (x0 : Int) (v1 : AVal) (m0 : Mm) : Option (AVal × Heap × Nat × Nat) :=
  bindP (callM M.call m0 17 [(.i .i64 x0), v1]) fun v11 m_1 =>
  bindO (evP .e (.ext 0 (.c v11))) fun v12 =>
  bindO (evP .e (.ext 1 (.c v11))) fun v13 =>
  asI .i64 v13 fun x13 =>
  bindP (stepM ro m_1 (.al 49 [(AVal.i IntKind.i64 0), (AVal.i IntKind.i64 0), (AVal.i IntKind.i64 0), (AVal.i IntKind.i64 0), (AVal.i IntKind.i64 0), (AVal.i IntKind.i64 0), (AVal.i IntKind.i64 0), (AVal.i IntKind.i64 0), (AVal.i IntKind.i64 0), (AVal.i IntKind.i64 0), (AVal.i IntKind.i64 0), (AVal.i IntKind.i64 0), (AVal.i IntKind.i64 0), (AVal.i IntKind.i64 0), (AVal.i IntKind.i64 0), (AVal.i IntKind.i64 0), (AVal.i IntKind.i64 0), (AVal.i IntKind.i64 0), (AVal.i IntKind.i64 0), (AVal.i IntKind.i64 0), (AVal.i IntKind.i64 0), (AVal.i IntKind.i64 0), (AVal.i IntKind.i64 0), (AVal.i IntKind.i64 0), (AVal.i IntKind.i64 0), (AVal.i IntKind.i64 0), (AVal.i IntKind.i64 0), (AVal.i IntKind.i64 0), (AVal.i IntKind.i64 0)])) fun v6 m_2 =>
  bindP (stepM ro m_2 (.st 29 (.c v6) (.c v12))) fun vn m_3 =>
  forceB (!eqI x13 0) fun c15 =>
  cond c15 (
    finM m0.h.length (tupA [(.i .i64 0), (.i .i64 x13)]) m_3) (
    bindO (ldM ro m_3 false 29 v6) fun v18 =>
    bindP (callM M.call m_3 21 [v18]) fun v19 m_4 =>
    asI .i64 v19 fun x19 =>
    forceI (wr .i64 (x0 - x19)) fun x20 =>
    finM m0.h.length (tupA [(.i .i64 x20), (.i .i64 0)]) m_4)

theorem g9_ok {ro : List ABlk} {O : Caller} {M : Means} (hM : M.Ok ⟨F, O⟩ ro) {x0 v1 h r} (ho : O 9 [(.i .i64 x0), v1] h = none) (hr : g9 M ro x0 v1 ⟨h, h.length, h.length⟩ = some r) : callX ⟨F, O⟩ ro 9 [(.i .i64 x0), v1] h = some r := by
  refine callX_of (F := ⟨F, O⟩) (fn := fn9) (g := g9 M ro x0 v1) ho rfl rfl hr ?_
  clear ho
  clear hr
  intro m0 t0 ht hr
  have g0 : t0.get 0 = (.i .i64 x0) := ht 0
  have g1 : t0.get 1 = v1 := ht 1
  clear ht
  unfold g9 at hr
  refine w_seq ?_
  refine w_ops ?_
  refine wo_step (v := (.i .i64 0)) (s_pure (p_mv rfl)) ?_
  refine wo_step (v := (.i .i64 0)) (s_pure (p_mv rfl)) ?_
  refine wo_nil ?_
  refine nx_norm ?_
  refine w_seq ?_
  refine w_ops ?_
  refine wo_step (v := (.i .i64 x0)) (s_pure (p_mv g0)) ?_
  refine wo_step (v := v1) (s_pure (p_mv g1)) ?_
  have hq := bindP_inv hr
  clear hr
  obtain ⟨v11, m_1, e11, hr⟩ := hq
  refine wo_step (v := v11) (s_call (mc rfl (mc rfl mn)) (callM_le hM.call e11)) ?_
  refine wo_step (v := v11) (s_pure (p_mv rfl)) ?_
  have hq := bindO_inv hr
  clear hr
  obtain ⟨v12, e12, hr⟩ := hq
  refine wo_step (v := v12) (s_pure (o_ext rfl e12)) ?_
  have hq := bindO_inv hr
  clear hr
  obtain ⟨v13, e13, hr⟩ := hq
  have hq := asI_inv hr
  clear hr
  obtain ⟨x13, rfl, hr⟩ := hq
  refine wo_step (v := (.i .i64 x13)) (s_pure (o_ext rfl e13)) ?_
  have hq := bindP_inv hr
  clear hr
  obtain ⟨v6, m_2, e6, hr⟩ := hq
  refine wo_step (v := v6) (s_al e6) ?_
  have hq := bindP_inv hr
  clear hr
  obtain ⟨vn, m_3, en, hr⟩ := hq
  refine wo_stepN (s_st rfl rfl en) ?_
  refine wo_step (v := (.i .i64 x13)) (s_pure (p_mv rfl)) ?_
  refine wo_nil ?_
  refine nx_norm ?_
  refine w_seq ?_
  refine w_seq ?_
  refine w_ops ?_
  refine wo_step (v := (.i .i64 x13)) (s_pure (p_mv rfl)) ?_
  have hq := forceB_inv hr
  clear hr
  obtain ⟨c15, e15, hr⟩ := hq
  refine wo_step (v := (.b c15)) (s_pure (p_bin rfl rfl (b_neq.trans (cb e15)))) ?_
  refine wo_nil ?_
  refine nx_norm ?_
  have hq := cond_inv hr
  clear hr
  rcases hq with ⟨rfl, hr⟩ | ⟨rfl, hr⟩
  · refine w_condT rfl ?_
    refine w_seq ?_
    refine w_ops ?_
    refine wo_step (v := (.i .i64 x13)) (s_pure (p_mv rfl)) ?_
    refine wo_step (v := (.i .i64 0)) (s_pure (p_mv rfl)) ?_
    refine wo_step (v := (.i .i64 x13)) (s_pure (p_mv rfl)) ?_
    refine wo_nil ?_
    refine nx_norm ?_
    refine w_ret ?_
    refine nx_ret ?_
    exact qf ret_ok (rt rfl (rt rfl rn)) hr
  · refine w_condF rfl ?_
    refine w_skip ?_
    refine nx_norm ?_
    refine w_seq ?_
    refine w_ops ?_
    refine wo_step (v := (.i .i64 x0)) (s_pure (p_mv g0)) ?_
    have hq := bindO_inv hr
    clear hr
    obtain ⟨v18, e18, hr⟩ := hq
    refine wo_step (v := v18) (s_ld rfl e18) ?_
    have hq := bindP_inv hr
    clear hr
    obtain ⟨v19, m_4, e19, hr⟩ := hq
    have hq := asI_inv hr
    clear hr
    obtain ⟨x19, rfl, hr⟩ := hq
    refine wo_step (v := (.i .i64 x19)) (s_call (mc rfl mn) (callM_le hM.call e19)) ?_
    have hq := forceI_inv hr
    clear hr
    obtain ⟨x20, e20, hr⟩ := hq
    refine wo_step (v := (.i .i64 x20)) (s_pure (p_bin rfl rfl (b_sub.trans (ci e20)))) ?_
    refine wo_step (v := (.i .i64 x20)) (s_pure (p_mv rfl)) ?_
    refine wo_step (v := (.i .i64 0)) (s_pure (p_mv rfl)) ?_
    refine wo_nil ?_
    refine nx_norm ?_
    refine w_ret ?_
    exact qf ret_ok (rt rfl (rt rfl rn)) hr

/- dibber/dibberref06.Groups -/

def g10 (M : Means) (ro : List ABlk) (x0 : Int) (v1 : AVal) (m0 : Mm) : Option (AVal × Heap × Nat × Nat) :=
  bindP (callM M.call m0 19 [(.i .i64 x0), v1]) fun v9 m_1 =>
  asI .i64 v9 fun x9 =>
  forceB (!eqI x9 0) fun c11 =>
  cond c11 (
    finM m0.h.length (tupA [(.i .i64 0), (.i .i64 x9)]) m_1) (
    bindO (evP .e (.len false (.c v1))) fun v16 =>
    asI .i64 v16 fun x16 =>
    chk (!ltI x16 (.ofNat 0)) <|
    forceI (shlV .i64 1 x16) fun x17 =>
    forceI (wr .i64 (x17 - 1)) fun x18 =>
    bindP (callM M.call m_1 20 [(.i .i64 x0), v1, (.i .i64 x18)]) fun v19 m_2 =>
    asI .i64 v19 fun x19 =>
    finM m0.h.length (tupA [(.i .i64 x19), (.i .i64 0)]) m_2)

theorem g10_ok {ro : List ABlk} {O : Caller} {M : Means} (hM : M.Ok ⟨F, O⟩ ro) {x0 v1 h r} (ho : O 10 [(.i .i64 x0), v1] h = none) (hr : g10 M ro x0 v1 ⟨h, h.length, h.length⟩ = some r) : callX ⟨F, O⟩ ro 10 [(.i .i64 x0), v1] h = some r := by
  refine callX_of (F := ⟨F, O⟩) (fn := fn10) (g := g10 M ro x0 v1) ho rfl rfl hr ?_
  clear ho
  clear hr
  intro m0 t0 ht hr
  have g0 : t0.get 0 = (.i .i64 x0) := ht 0
  have g1 : t0.get 1 = v1 := ht 1
  clear ht
  unfold g10 at hr
  refine w_seq ?_
  refine w_ops ?_
  refine wo_step (v := (.i .i64 0)) (s_pure (p_mv rfl)) ?_
  refine wo_step (v := (.i .i64 0)) (s_pure (p_mv rfl)) ?_
  refine wo_nil ?_
  refine nx_norm ?_
  refine w_seq ?_
  refine w_ops ?_
  refine wo_step (v := (.i .i64 x0)) (s_pure (p_mv g0)) ?_
  refine wo_step (v := v1) (s_pure (p_mv g1)) ?_
  have hq := bindP_inv hr
  clear hr
  obtain ⟨v9, m_1, e9, hr⟩ := hq
  have hq := asI_inv hr
  clear hr
  obtain ⟨x9, rfl, hr⟩ := hq
  refine wo_step (v := (.i .i64 x9)) (s_call (mc rfl (mc rfl mn)) (callM_le hM.call e9)) ?_
  refine wo_step (v := (.i .i64 x9)) (s_pure (p_mv rfl)) ?_
  refine wo_nil ?_
  refine nx_norm ?_
  refine w_seq ?_
  refine w_seq ?_
  refine w_ops ?_
  refine wo_step (v := (.i .i64 x9)) (s_pure (p_mv rfl)) ?_
  have hq := forceB_inv hr
  clear hr
  obtain ⟨c11, e11, hr⟩ := hq
  refine wo_step (v := (.b c11)) (s_pure (p_bin rfl rfl (b_neq.trans (cb e11)))) ?_
  refine wo_nil ?_
  refine nx_norm ?_
  have hq := cond_inv hr
  clear hr
  rcases hq with ⟨rfl, hr⟩ | ⟨rfl, hr⟩
  · refine w_condT rfl ?_
    refine w_seq ?_
    refine w_ops ?_
    refine wo_step (v := (.i .i64 x9)) (s_pure (p_mv rfl)) ?_
    refine wo_step (v := (.i .i64 0)) (s_pure (p_mv rfl)) ?_
    refine wo_step (v := (.i .i64 x9)) (s_pure (p_mv rfl)) ?_
    refine wo_nil ?_
    refine nx_norm ?_
    refine w_ret ?_
    refine nx_ret ?_
    exact qf ret_ok (rt rfl (rt rfl rn)) hr
  · refine w_condF rfl ?_
    refine w_skip ?_
    refine nx_norm ?_
    refine w_seq ?_
    refine w_ops ?_
    refine wo_step (v := (.i .i64 x0)) (s_pure (p_mv g0)) ?_
    refine wo_step (v := v1) (s_pure (p_mv g1)) ?_
    refine wo_step (v := v1) (s_pure (p_mv g1)) ?_
    have hq := bindO_inv hr
    clear hr
    obtain ⟨v16, e16, hr⟩ := hq
    have hq := asI_inv hr
    clear hr
    obtain ⟨x16, rfl, hr⟩ := hq
    refine wo_step (v := (.i .i64 x16)) (s_pure (o_len rfl e16)) ?_
    have hq := chk_inv hr
    clear hr
    obtain ⟨hc17, hr⟩ := hq
    have hq := forceI_inv hr
    clear hr
    obtain ⟨x17, e17, hr⟩ := hq
    refine wo_step (v := (.i .i64 x17)) (s_pure (p_bin rfl rfl ((b_shl hc17).trans (ci e17)))) ?_
    have hq := forceI_inv hr
    clear hr
    obtain ⟨x18, e18, hr⟩ := hq
    refine wo_step (v := (.i .i64 x18)) (s_pure (p_bin rfl rfl (b_sub.trans (ci e18)))) ?_
    have hq := bindP_inv hr
    clear hr
    obtain ⟨v19, m_2, e19, hr⟩ := hq
    have hq := asI_inv hr
    clear hr
    obtain ⟨x19, rfl, hr⟩ := hq
    refine wo_step (v := (.i .i64 x19)) (s_call (mc rfl (mc rfl (mc rfl mn))) (callM_le hM.call e19)) ?_
    refine wo_step (v := (.i .i64 x19)) (s_pure (p_mv rfl)) ?_
    refine wo_step (v := (.i .i64 0)) (s_pure (p_mv rfl)) ?_
    refine wo_nil ?_
    refine nx_norm ?_
    refine w_ret ?_
    exact qf ret_ok (rt rfl (rt rfl rn)) hr

/- dibber/fence.read -/
abbrev g17_J0 (x0 : Int) (v1 : AVal) (v4 : AVal) (m_1 : Mm) (o : Bool) (m1 : Mm) (t1 : Tr) : Prop :=
  match o with
  | c14 => m_1 = m1 ∧ t1.get 14 = (.b c14) ∧ t1.get 0 = (.i .i64 x0) ∧ t1.get 1 = v1 ∧ t1.get 4 = v4
abbrev g17_I1 (x0 : Int) (v1 : AVal) (v4 : AVal) (x21 : Int) (s : Int × Mm) (m1 : Mm) (t1 : Tr) : Prop :=
  match s with
  | (x22, m_4) => m_4 = m1 ∧ t1.get 22 = (.i .i64 x22) ∧ t1.get 0 = (.i .i64 x0) ∧ t1.get 1 = v1 ∧ t1.get 4 = v4 ∧ t1.get 20 = v1 ∧ t1.get 21 = (.i .i64 x21)
abbrev g17_J1 (x0 : Int) (v1 : AVal) (v4 : AVal) (x21 : Int) (o : (Mm ⊕ (Int × Mm))) (e : AExit) (m1 : Mm) (t1 : Tr) : Prop :=
  match o with
  | (.inl mo) => e = (.exit 0) ∧ mo = m1 ∧ t1.get 1 = v1 ∧ t1.get 4 = v4
  | (.inr (y5, mo)) => e = .ret ∧ mo = m1 ∧ t1.get 5 = (.i .i64 y5) ∧ t1.get 4 = v4
abbrev g17_J2 (x0 : Int) (v1 : AVal) (v4 : AVal) (v7 : AVal) (x21 : Int) (x22 : Int) (m_6 : Mm) (o : Bool) (m1 : Mm) (t1 : Tr) : Prop :=
  match o with
  | c34 => m_6 = m1 ∧ t1.get 34 = (.b c34) ∧ t1.get 0 = (.i .i64 x0) ∧ t1.get 1 = v1 ∧ t1.get 4 = v4 ∧ t1.get 7 = v7 ∧ t1.get 20 = v1 ∧ t1.get 21 = (.i .i64 x21) ∧ t1.get 22 = (.i .i64 x22)
abbrev g17_J3 (x0 : Int) (v1 : AVal) (v4 : AVal) (v7 : AVal) (x21 : Int) (x22 : Int) (m_6 : Mm) (o : Bool) (m1 : Mm) (t1 : Tr) : Prop :=
  match o with
  | c39 => m_6 = m1 ∧ t1.get 39 = (.b c39) ∧ t1.get 0 = (.i .i64 x0) ∧ t1.get 1 = v1 ∧ t1.get 4 = v4 ∧ t1.get 7 = v7 ∧ t1.get 20 = v1 ∧ t1.get 21 = (.i .i64 x21) ∧ t1.get 22 = (.i .i64 x22)
abbrev g17_J4 (x0 : Int) (v1 : AVal) (v4 : AVal) (x21 : Int) (x22 : Int) (m_6 : Mm) (o : Bool) (m1 : Mm) (t1 : Tr) : Prop :=
  match o with
  | c45 => m_6 = m1 ∧ t1.get 45 = (.b c45) ∧ t1.get 0 = (.i .i64 x0) ∧ t1.get 1 = v1 ∧ t1.get 4 = v4 ∧ t1.get 20 = v1 ∧ t1.get 21 = (.i .i64 x21) ∧ t1.get 22 = (.i .i64 x22)
def g17_b1 (M : Means) (ro : List ABlk) (x0 : Int) (v1 : AVal) (v4 : AVal) (x21 : Int) (x22 : Int) (m_4 : Mm) : Option ((Int × Mm) ⊕ ((Mm ⊕ (Int × Mm)))) :=
  forceB (ltI x22 x21) fun c23 =>
  cond c23 (
    bindO (evP .e (.ixS 2 (.c v1) (.c (.i .i64 x22)))) fun v24 =>
    bindO (ldM ro m_4 false 2 v24) fun v25 =>
    bindP (stepM ro m_4 (.al 45 [(AVal.i IntKind.i64 0), (AVal.i IntKind.i64 0)])) fun v7 m_5 =>
    bindP (stepM ro m_5 (.st 2 (.c v7) (.c v25))) fun vn_2 m_6 =>
    bindO (evP .e (.faddr 0 (.c v7))) fun v26 =>
    bindO (ldM ro m_6 true 1 v26) fun v27 =>
    asI .i64 v27 fun x27 =>
    forceB (ltI x27 0) fun c28 =>
    bindO (cond c28 (
      some true) (
      bindO (evP .e (.faddr 0 (.c v7))) fun v30 =>
      bindO (ldM ro m_6 true 1 v30) fun v31 =>
      asI .i64 v31 fun x31 =>
      forceB (!ltI x31 x0) fun c33 =>
      some c33)) fun c34 =>
    bindO (cond c34 (
      some true) (
      bindO (evP .e (.faddr 1 (.c v7))) fun v36 =>
      bindO (ldM ro m_6 true 1 v36) fun v37 =>
      asI .i64 v37 fun x37 =>
      forceB (ltI x37 0) fun c38 =>
      some c38)) fun c39 =>
    bindO (cond c39 (
      some true) (
      bindO (evP .e (.faddr 1 (.c v7))) fun v41 =>
      bindO (ldM ro m_6 true 1 v41) fun v42 =>
      asI .i64 v42 fun x42 =>
      forceB (!ltI x42 x0) fun c44 =>
      some c44)) fun c45 =>
    cond c45 (
      bindO ((fillA [(AVal.i IntKind.i64 0), (AVal.i IntKind.i64 0), (AVal.i IntKind.i64 0), (AVal.i IntKind.i64 0), (AVal.i IntKind.i64 0), (AVal.i IntKind.i64 0), (AVal.i IntKind.i64 0), (AVal.i IntKind.i64 0), (AVal.i IntKind.i64 0), (AVal.i IntKind.i64 0), (AVal.i IntKind.i64 0), (AVal.i IntKind.i64 0), (AVal.i IntKind.i64 0), (AVal.i IntKind.i64 0), (AVal.i IntKind.i64 0), (AVal.i IntKind.i64 0), (AVal.i IntKind.i64 0), (AVal.i IntKind.i64 0), (AVal.i IntKind.i64 0), (AVal.i IntKind.i64 0), (AVal.i IntKind.i64 0), (AVal.i IntKind.i64 0), (AVal.i IntKind.i64 0), (AVal.i IntKind.i64 0), (AVal.i IntKind.i64 0), (AVal.i IntKind.i64 0), (AVal.i IntKind.i64 0), (AVal.i IntKind.i64 0), (AVal.i IntKind.i64 0)] []).map AVal.agg) fun v46 =>
      bindP (stepM ro m_6 (.st 29 (.c v4) (.c v46))) fun vn_3 m_7 =>
      some (.inr (.inr (2, m_7)))) (
      forceI (wr .i64 (x22 + 1)) fun x47 =>
      some (.inl (x47, m_6)))) (
    some (.inr (.inl m_4)))
def g17 (M : Means) (ro : List ABlk) (x0 : Int) (v1 : AVal) (m0 : Mm) : Option (AVal × Heap × Nat × Nat) :=
  bindP (stepM ro m0 (.al 49 [(AVal.i IntKind.i64 0), (AVal.i IntKind.i64 0), (AVal.i IntKind.i64 0), (AVal.i IntKind.i64 0), (AVal.i IntKind.i64 0), (AVal.i IntKind.i64 0), (AVal.i IntKind.i64 0), (AVal.i IntKind.i64 0), (AVal.i IntKind.i64 0), (AVal.i IntKind.i64 0), (AVal.i IntKind.i64 0), (AVal.i IntKind.i64 0), (AVal.i IntKind.i64 0), (AVal.i IntKind.i64 0), (AVal.i IntKind.i64 0), (AVal.i IntKind.i64 0), (AVal.i IntKind.i64 0), (AVal.i IntKind.i64 0), (AVal.i IntKind.i64 0), (AVal.i IntKind.i64 0), (AVal.i IntKind.i64 0), (AVal.i IntKind.i64 0), (AVal.i IntKind.i64 0), (AVal.i IntKind.i64 0), (AVal.i IntKind.i64 0), (AVal.i IntKind.i64 0), (AVal.i IntKind.i64 0), (AVal.i IntKind.i64 0), (AVal.i IntKind.i64 0)])) fun v4 m_1 =>
  forceB (ltI x0 1) fun c10 =>
  bindO (cond c10 (
    some true) (
    forceB (ltI 8 x0) fun c13 =>
    some c13)) fun c14 =>
  cond c14 (
    bindO ((fillA [(AVal.i IntKind.i64 0), (AVal.i IntKind.i64 0), (AVal.i IntKind.i64 0), (AVal.i IntKind.i64 0), (AVal.i IntKind.i64 0), (AVal.i IntKind.i64 0), (AVal.i IntKind.i64 0), (AVal.i IntKind.i64 0), (AVal.i IntKind.i64 0), (AVal.i IntKind.i64 0), (AVal.i IntKind.i64 0), (AVal.i IntKind.i64 0), (AVal.i IntKind.i64 0), (AVal.i IntKind.i64 0), (AVal.i IntKind.i64 0), (AVal.i IntKind.i64 0), (AVal.i IntKind.i64 0), (AVal.i IntKind.i64 0), (AVal.i IntKind.i64 0), (AVal.i IntKind.i64 0), (AVal.i IntKind.i64 0), (AVal.i IntKind.i64 0), (AVal.i IntKind.i64 0), (AVal.i IntKind.i64 0), (AVal.i IntKind.i64 0), (AVal.i IntKind.i64 0), (AVal.i IntKind.i64 0), (AVal.i IntKind.i64 0), (AVal.i IntKind.i64 0)] []).map AVal.agg) fun v15 =>
    bindP (stepM ro m_1 (.st 29 (.c v4) (.c v15))) fun vn m_2 =>
    bindO (ldM ro m_2 false 29 v4) fun vr =>
    finM m0.h.length (tupA [vr, (.i .i64 2)]) m_2) (
    bindO (evP .e (.len false (.c v1))) fun v17 =>
    asI .i64 v17 fun x17 =>
    forceB (ltI 14 x17) fun c18 =>
    cond c18 (
      bindO ((fillA [(AVal.i IntKind.i64 0), (AVal.i IntKind.i64 0), (AVal.i IntKind.i64 0), (AVal.i IntKind.i64 0), (AVal.i IntKind.i64 0), (AVal.i IntKind.i64 0), (AVal.i IntKind.i64 0), (AVal.i IntKind.i64 0), (AVal.i IntKind.i64 0), (AVal.i IntKind.i64 0), (AVal.i IntKind.i64 0), (AVal.i IntKind.i64 0), (AVal.i IntKind.i64 0), (AVal.i IntKind.i64 0), (AVal.i IntKind.i64 0), (AVal.i IntKind.i64 0), (AVal.i IntKind.i64 0), (AVal.i IntKind.i64 0), (AVal.i IntKind.i64 0), (AVal.i IntKind.i64 0), (AVal.i IntKind.i64 0), (AVal.i IntKind.i64 0), (AVal.i IntKind.i64 0), (AVal.i IntKind.i64 0), (AVal.i IntKind.i64 0), (AVal.i IntKind.i64 0), (AVal.i IntKind.i64 0), (AVal.i IntKind.i64 0), (AVal.i IntKind.i64 0)] []).map AVal.agg) fun v19 =>
      bindP (stepM ro m_1 (.st 29 (.c v4) (.c v19))) fun vn_1 m_3 =>
      bindO (ldM ro m_3 false 29 v4) fun vr_1 =>
      finM m0.h.length (tupA [vr_1, (.i .i64 3)]) m_3) (
      bindO (evP .e (.len false (.c v1))) fun v21 =>
      asI .i64 v21 fun x21 =>
      bindO (M.loop (S := Int × Mm) (R := (Mm ⊕ (Int × Mm))) (fun s => g17_b1 M ro x0 v1 v4 x21 s.1 s.2) (0, m_1)) fun o_4 => match o_4 with
      | (.inl m_8) =>
        bindO (evP .e (.len false (.c v1))) fun v49 =>
        asI .i64 v49 fun x49 =>
        bindO ((fillA [(AVal.i IntKind.i64 0), (AVal.i IntKind.i64 0), (AVal.i IntKind.i64 0), (AVal.i IntKind.i64 0), (AVal.i IntKind.i64 0), (AVal.i IntKind.i64 0), (AVal.i IntKind.i64 0), (AVal.i IntKind.i64 0), (AVal.i IntKind.i64 0), (AVal.i IntKind.i64 0), (AVal.i IntKind.i64 0), (AVal.i IntKind.i64 0), (AVal.i IntKind.i64 0), (AVal.i IntKind.i64 0), (AVal.i IntKind.i64 0), (AVal.i IntKind.i64 0), (AVal.i IntKind.i64 0), (AVal.i IntKind.i64 0), (AVal.i IntKind.i64 0), (AVal.i IntKind.i64 0), (AVal.i IntKind.i64 0), (AVal.i IntKind.i64 0), (AVal.i IntKind.i64 0), (AVal.i IntKind.i64 0), (AVal.i IntKind.i64 0), (AVal.i IntKind.i64 0), (AVal.i IntKind.i64 0), (AVal.i IntKind.i64 0), (AVal.i IntKind.i64 0)] [((0, 1), (.i .i64 x49))]).map AVal.agg) fun v50 =>
        bindP (stepM ro m_8 (.al 49 [(AVal.i IntKind.i64 0), (AVal.i IntKind.i64 0), (AVal.i IntKind.i64 0), (AVal.i IntKind.i64 0), (AVal.i IntKind.i64 0), (AVal.i IntKind.i64 0), (AVal.i IntKind.i64 0), (AVal.i IntKind.i64 0), (AVal.i IntKind.i64 0), (AVal.i IntKind.i64 0), (AVal.i IntKind.i64 0), (AVal.i IntKind.i64 0), (AVal.i IntKind.i64 0), (AVal.i IntKind.i64 0), (AVal.i IntKind.i64 0), (AVal.i IntKind.i64 0), (AVal.i IntKind.i64 0), (AVal.i IntKind.i64 0), (AVal.i IntKind.i64 0), (AVal.i IntKind.i64 0), (AVal.i IntKind.i64 0), (AVal.i IntKind.i64 0), (AVal.i IntKind.i64 0), (AVal.i IntKind.i64 0), (AVal.i IntKind.i64 0), (AVal.i IntKind.i64 0), (AVal.i IntKind.i64 0), (AVal.i IntKind.i64 0), (AVal.i IntKind.i64 0)])) fun v8 m_9 =>
        bindP (stepM ro m_9 (.st 29 (.c v8) (.c v50))) fun vn_4 m_10 =>
        bindO (evP .e (.faddr 1 (.c v8))) fun v51 =>
        bindO (evP .e (.slA 14 2 (.c v51) none none)) fun v52 =>
        bindP (stepM ro m_10 (.cpy 2 (.c v52) (.c v1))) fun v54 m_11 =>
        asI .i64 v54 fun x54 =>
        bindO (ldM ro m_11 false 29 v8) fun v55 =>
        bindP (stepM ro m_11 (.st 29 (.c v4) (.c v55))) fun vn_5 m_12 =>
        bindO (ldM ro m_12 false 29 v4) fun vr_2 =>
        finM m0.h.length (tupA [vr_2, (.i .i64 0)]) m_12
      | (.inr (x5, m_13)) =>
        bindO (ldM ro m_13 false 29 v4) fun vr_3 =>
        finM m0.h.length (tupA [vr_3, (.i .i64 x5)]) m_13))

theorem g17_ok {ro : List ABlk} {O : Caller} {M : Means} (hM : M.Ok ⟨F, O⟩ ro) {x0 v1 h r} (ho : O 17 [(.i .i64 x0), v1] h = none) (hr : g17 M ro x0 v1 ⟨h, h.length, h.length⟩ = some r) : callX ⟨F, O⟩ ro 17 [(.i .i64 x0), v1] h = some r := by
  refine callX_of (F := ⟨F, O⟩) (fn := fn17) (g := g17 M ro x0 v1) ho rfl rfl hr ?_
  clear ho
  clear hr
  intro m0 t0 ht hr
  have g0 : t0.get 0 = (.i .i64 x0) := ht 0
  have g1 : t0.get 1 = v1 := ht 1
  clear ht
  unfold g17 at hr
  refine w_seq ?_
  refine w_ops ?_
  have hq := bindP_inv hr
  clear hr
  obtain ⟨v4, m_1, e4, hr⟩ := hq
  refine wo_step (v := v4) (s_al e4) ?_
  refine wo_step (v := (.i .i64 0)) (s_pure (p_mv rfl)) ?_
  refine wo_nil ?_
  refine nx_norm ?_
  refine w_seq ?_
  refine w_seq ?_
  refine w_ops ?_
  refine wo_step (v := (.i .i64 x0)) (s_pure (p_mv g0)) ?_
  have hq := forceB_inv hr
  clear hr
  obtain ⟨c10, e10, hr⟩ := hq
  refine wo_step (v := (.b c10)) (s_pure (p_bin rfl rfl (b_lss.trans (cb e10)))) ?_
  refine wo_step (v := (.b c10)) (s_pure (p_mv rfl)) ?_
  have hq := bindO_inv hr
  clear hr
  obtain ⟨o, hr, hk⟩ := hq
  refine wo_join 3 (g17_J0 x0 v1 v4 m_1 o) ?_ ?_
  · clear hk
    have hq := cond_inv hr
    clear hr
    rcases hq with ⟨rfl, hr⟩ | ⟨rfl, hr⟩
    · refine wo_skip (v := (.b true)) rfl rfl ?_
      refine wo_skip (v := (.b true)) rfl rfl ?_
      refine wo_step (v := (.b true)) (s_pure (p_pickT rfl rfl)) ?_
      refine wo_nil ?_
      cases hr
      exact ⟨_, _, rfl, rfl, gl rfl, gl g0, gl g1, gl rfl⟩
    · refine wo_take (v := (.i .i64 x0)) rfl (s_pure (p_mv g0)) ?_
      have hq := forceB_inv hr
      clear hr
      obtain ⟨c13, e13, hr⟩ := hq
      refine wo_take (v := (.b c13)) rfl (s_pure (p_bin rfl rfl (b_gtr.trans (cb e13)))) ?_
      refine wo_step (v := (.b c13)) (s_pure (p_pickF rfl rfl)) ?_
      refine wo_nil ?_
      cases hr
      exact ⟨_, _, rfl, rfl, gl rfl, gl g0, gl g1, gl rfl⟩
  · clear hr
    have hr := hk
    clear hk
    obtain ⟨c14, ho⟩ : ∃ z, z = o := ⟨_, rfl⟩
    subst ho
    rintro mm t_1 ⟨rfl, g14, g0, g1, g4⟩
    refine wo_nil ?_
    refine nx_norm ?_
    have hq := cond_inv hr
    clear hr
    rcases hq with ⟨rfl, hr⟩ | ⟨rfl, hr⟩
    · refine w_condT g14 ?_
      refine w_seq ?_
      refine w_ops ?_
      have hq := bindO_inv hr
      clear hr
      obtain ⟨v15, e15, hr⟩ := hq
      refine wo_step (v := v15) (s_pure (o_build qn e15)) ?_
      have hq := bindP_inv hr
      clear hr
      obtain ⟨vn, m_2, en, hr⟩ := hq
      refine wo_stepN (s_st g4 rfl en) ?_
      refine wo_step (v := (.i .i64 2)) (s_pure (p_mv rfl)) ?_
      refine wo_nil ?_
      refine nx_norm ?_
      refine w_ret ?_
      refine nx_ret ?_
      have hq := bindO_inv hr
      clear hr
      obtain ⟨vr, er, hr⟩ := hq
      exact qf ret_ok (rc g4 er (rt rfl rn)) hr
    · refine w_condF g14 ?_
      refine w_skip ?_
      refine nx_norm ?_
      refine w_seq ?_
      refine w_seq ?_
      refine w_ops ?_
      refine wo_step (v := v1) (s_pure (p_mv g1)) ?_
      have hq := bindO_inv hr
      clear hr
      obtain ⟨v17, e17, hr⟩ := hq
      have hq := asI_inv hr
      clear hr
      obtain ⟨x17, rfl, hr⟩ := hq
      refine wo_step (v := (.i .i64 x17)) (s_pure (o_len rfl e17)) ?_
      have hq := forceB_inv hr
      clear hr
      obtain ⟨c18, e18, hr⟩ := hq
      refine wo_step (v := (.b c18)) (s_pure (p_bin rfl rfl (b_gtr.trans (cb e18)))) ?_
      refine wo_nil ?_
      refine nx_norm ?_
      have hq := cond_inv hr
      clear hr
      rcases hq with ⟨rfl, hr⟩ | ⟨rfl, hr⟩
      · refine w_condT rfl ?_
        refine w_seq ?_
        refine w_ops ?_
        have hq := bindO_inv hr
        clear hr
        obtain ⟨v19, e19, hr⟩ := hq
        refine wo_step (v := v19) (s_pure (o_build qn e19)) ?_
        have hq := bindP_inv hr
        clear hr
        obtain ⟨vn_1, m_3, en_1, hr⟩ := hq
        refine wo_stepN (s_st g4 rfl en_1) ?_
        refine wo_step (v := (.i .i64 3)) (s_pure (p_mv rfl)) ?_
        refine wo_nil ?_
        refine nx_norm ?_
        refine w_ret ?_
        refine nx_ret ?_
        have hq := bindO_inv hr
        clear hr
        obtain ⟨vr_1, er_1, hr⟩ := hq
        exact qf ret_ok (rc g4 er_1 (rt rfl rn)) hr
      · refine w_condF rfl ?_
        refine w_skip ?_
        refine nx_norm ?_
        refine w_seq ?_
        refine w_seq ?_
        refine w_ops ?_
        refine wo_step (v := v1) (s_pure (p_mv g1)) ?_
        have hq := bindO_inv hr
        clear hr
        obtain ⟨v21, e21, hr⟩ := hq
        have hq := asI_inv hr
        clear hr
        obtain ⟨x21, rfl, hr⟩ := hq
        refine wo_step (v := (.i .i64 x21)) (s_pure (o_len rfl e21)) ?_
        refine wo_step (v := (.i .i64 0)) (s_pure (p_mv rfl)) ?_
        refine wo_nil ?_
        refine nx_norm ?_
        refine w_block ?_
        have hq := bindO_inv hr
        clear hr
        obtain ⟨o_4, hl, hr⟩ := hq
        obtain ⟨n, hl⟩ := hM.loop _ _ _ hl
        refine jp_mono (w_loop _ (g17_I1 x0 v1 v4 x21) (g17_J1 x0 v1 v4 x21) ?_ n _ _ _ _ hl ⟨rfl, gl rfl, gl g0, gl g1, gl g4, gl rfl, gl rfl⟩) ?_
        · clear hr hl
          intro s mm_6 t_2 o hi hr
          obtain ⟨x22, m_4⟩ := s
          obtain ⟨rfl, g22, g0, g1, g4, g20, g21⟩ := hi
          unfold g17_b1 at hr
          refine w_seq ?_
          refine w_ops ?_
          have hq := forceB_inv hr
          clear hr
          obtain ⟨c23, e23, hr⟩ := hq
          refine wo_step (v := (.b c23)) (s_pure (p_bin g22 g21 (b_lss.trans (cb e23)))) ?_
          refine wo_nil ?_
          refine nx_norm ?_
          refine w_seq ?_
          have hq := cond_inv hr
          clear hr
          rcases hq with ⟨rfl, hr⟩ | ⟨rfl, hr⟩
          · refine w_condT rfl ?_
            refine w_skip ?_
            refine nx_norm ?_
            refine w_seq ?_
            refine w_block ?_
            refine w_seq ?_
            refine w_ops ?_
            have hq := bindO_inv hr
            clear hr
            obtain ⟨v24, e24, hr⟩ := hq
            refine wo_step (v := v24) (s_pure (o_ixS g20 g22 e24)) ?_
            have hq := bindO_inv hr
            clear hr
            obtain ⟨v25, e25, hr⟩ := hq
            refine wo_step (v := v25) (s_ld rfl e25) ?_
            have hq := bindP_inv hr
            clear hr
            obtain ⟨v7, m_5, e7, hr⟩ := hq
            refine wo_step (v := v7) (s_al e7) ?_
            have hq := bindP_inv hr
            clear hr
            obtain ⟨vn_2, m_6, en_2, hr⟩ := hq
            refine wo_stepN (s_st rfl rfl en_2) ?_
            refine wo_nil ?_
            refine nx_norm ?_
            refine w_seq ?_
            refine w_ops ?_
            have hq := bindO_inv hr
            clear hr
            obtain ⟨v26, e26, hr⟩ := hq
            refine wo_step (v := v26) (s_pure (o_faddr rfl e26)) ?_
            have hq := bindO_inv hr
            clear hr
            obtain ⟨v27, e27, hr⟩ := hq
            have hq := asI_inv hr
            clear hr
            obtain ⟨x27, rfl, hr⟩ := hq
            refine wo_step (v := (.i .i64 x27)) (s_ld rfl e27) ?_
            have hq := forceB_inv hr
            clear hr
            obtain ⟨c28, e28, hr⟩ := hq
            refine wo_step (v := (.b c28)) (s_pure (p_bin rfl rfl (b_lss.trans (cb e28)))) ?_
            refine wo_step (v := (.b c28)) (s_pure (p_mv rfl)) ?_
            have hq := bindO_inv hr
            clear hr
            obtain ⟨o_1, hr, hk⟩ := hq
            refine wo_join 5 (g17_J2 x0 v1 v4 v7 x21 x22 m_6 o_1) ?_ ?_
            · clear hk
              have hq := cond_inv hr
              clear hr
              rcases hq with ⟨rfl, hr⟩ | ⟨rfl, hr⟩
              · refine wo_skip (v := (.b true)) rfl rfl ?_
                refine wo_skip (v := (.b true)) rfl rfl ?_
                refine wo_skip (v := (.b true)) rfl rfl ?_
                refine wo_skip (v := (.b true)) rfl rfl ?_
                refine wo_step (v := (.b true)) (s_pure (p_pickT rfl rfl)) ?_
                refine wo_nil ?_
                cases hr
                exact ⟨_, _, rfl, rfl, gl rfl, gl g0, gl g1, gl g4, gl rfl, gl g20, gl g21, gl g22⟩
              · have hq := bindO_inv hr
                clear hr
                obtain ⟨v30, e30, hr⟩ := hq
                refine wo_take (v := v30) rfl (s_pure (o_faddr rfl e30)) ?_
                have hq := bindO_inv hr
                clear hr
                obtain ⟨v31, e31, hr⟩ := hq
                have hq := asI_inv hr
                clear hr
                obtain ⟨x31, rfl, hr⟩ := hq
                refine wo_take (v := (.i .i64 x31)) rfl (s_ld rfl e31) ?_
                refine wo_take (v := (.i .i64 x0)) rfl (s_pure (p_mv g0)) ?_
                have hq := forceB_inv hr
                clear hr
                obtain ⟨c33, e33, hr⟩ := hq
                refine wo_take (v := (.b c33)) rfl (s_pure (p_bin rfl rfl (b_geq.trans (cb e33)))) ?_
                refine wo_step (v := (.b c33)) (s_pure (p_pickF rfl rfl)) ?_
                refine wo_nil ?_
                cases hr
                exact ⟨_, _, rfl, rfl, gl rfl, gl g0, gl g1, gl g4, gl rfl, gl g20, gl g21, gl g22⟩
            · clear hr
              have hr := hk
              clear hk
              obtain ⟨c34, ho⟩ : ∃ z, z = o_1 := ⟨_, rfl⟩
              subst ho
              rintro mm_1 t_3 ⟨rfl, g34, g0, g1, g4, g7, g20, g21, g22⟩
              refine wo_step (v := (.b c34)) (s_pure (p_mv g34)) ?_
              have hq := bindO_inv hr
              clear hr
              obtain ⟨o_2, hr, hk⟩ := hq
              refine wo_join 4 (g17_J3 x0 v1 v4 v7 x21 x22 m_6 o_2) ?_ ?_
              · clear hk
                have hq := cond_inv hr
                clear hr
                rcases hq with ⟨rfl, hr⟩ | ⟨rfl, hr⟩
                · refine wo_skip (v := (.b true)) rfl rfl ?_
                  refine wo_skip (v := (.b true)) rfl rfl ?_
                  refine wo_skip (v := (.b true)) rfl rfl ?_
                  refine wo_step (v := (.b true)) (s_pure (p_pickT rfl rfl)) ?_
                  refine wo_nil ?_
                  cases hr
                  exact ⟨_, _, rfl, rfl, gl rfl, gl g0, gl g1, gl g4, gl g7, gl g20, gl g21, gl g22⟩
                · have hq := bindO_inv hr
                  clear hr
                  obtain ⟨v36, e36, hr⟩ := hq
                  refine wo_take (v := v36) rfl (s_pure (o_faddr g7 e36)) ?_
                  have hq := bindO_inv hr
                  clear hr
                  obtain ⟨v37, e37, hr⟩ := hq
                  have hq := asI_inv hr
                  clear hr
                  obtain ⟨x37, rfl, hr⟩ := hq
                  refine wo_take (v := (.i .i64 x37)) rfl (s_ld rfl e37) ?_
                  have hq := forceB_inv hr
                  clear hr
                  obtain ⟨c38, e38, hr⟩ := hq
                  refine wo_take (v := (.b c38)) rfl (s_pure (p_bin rfl rfl (b_lss.trans (cb e38)))) ?_
                  refine wo_step (v := (.b c38)) (s_pure (p_pickF rfl rfl)) ?_
                  refine wo_nil ?_
                  cases hr
                  exact ⟨_, _, rfl, rfl, gl rfl, gl g0, gl g1, gl g4, gl g7, gl g20, gl g21, gl g22⟩
              · clear hr
                have hr := hk
                clear hk
                obtain ⟨c39, ho⟩ : ∃ z, z = o_2 := ⟨_, rfl⟩
                subst ho
                rintro mm_2 t_4 ⟨rfl, g39, g0, g1, g4, g7, g20, g21, g22⟩
                refine wo_step (v := (.b c39)) (s_pure (p_mv g39)) ?_
                have hq := bindO_inv hr
                clear hr
                obtain ⟨o_3, hr, hk⟩ := hq
                refine wo_join 5 (g17_J4 x0 v1 v4 x21 x22 m_6 o_3) ?_ ?_
                · clear hk
                  have hq := cond_inv hr
                  clear hr
                  rcases hq with ⟨rfl, hr⟩ | ⟨rfl, hr⟩
                  · refine wo_skip (v := (.b true)) rfl rfl ?_
                    refine wo_skip (v := (.b true)) rfl rfl ?_
                    refine wo_skip (v := (.b true)) rfl rfl ?_
                    refine wo_skip (v := (.b true)) rfl rfl ?_
                    refine wo_step (v := (.b true)) (s_pure (p_pickT rfl rfl)) ?_
                    refine wo_nil ?_
                    cases hr
                    exact ⟨_, _, rfl, rfl, gl rfl, gl g0, gl g1, gl g4, gl g20, gl g21, gl g22⟩
                  · have hq := bindO_inv hr
                    clear hr
                    obtain ⟨v41, e41, hr⟩ := hq
                    refine wo_take (v := v41) rfl (s_pure (o_faddr g7 e41)) ?_
                    have hq := bindO_inv hr
                    clear hr
                    obtain ⟨v42, e42, hr⟩ := hq
                    have hq := asI_inv hr
                    clear hr
                    obtain ⟨x42, rfl, hr⟩ := hq
                    refine wo_take (v := (.i .i64 x42)) rfl (s_ld rfl e42) ?_
                    refine wo_take (v := (.i .i64 x0)) rfl (s_pure (p_mv g0)) ?_
                    have hq := forceB_inv hr
                    clear hr
                    obtain ⟨c44, e44, hr⟩ := hq
                    refine wo_take (v := (.b c44)) rfl (s_pure (p_bin rfl rfl (b_geq.trans (cb e44)))) ?_
                    refine wo_step (v := (.b c44)) (s_pure (p_pickF rfl rfl)) ?_
                    refine wo_nil ?_
                    cases hr
                    exact ⟨_, _, rfl, rfl, gl rfl, gl g0, gl g1, gl g4, gl g20, gl g21, gl g22⟩
                · clear hr
                  have hr := hk
                  clear hk
                  obtain ⟨c45, ho⟩ : ∃ z, z = o_3 := ⟨_, rfl⟩
                  subst ho
                  rintro mm_3 t_5 ⟨rfl, g45, g0, g1, g4, g20, g21, g22⟩
                  refine wo_nil ?_
                  refine nx_norm ?_
                  have hq := cond_inv hr
                  clear hr
                  rcases hq with ⟨rfl, hr⟩ | ⟨rfl, hr⟩
                  · refine w_condT g45 ?_
                    refine w_seq ?_
                    refine w_ops ?_
                    have hq := bindO_inv hr
                    clear hr
                    obtain ⟨v46, e46, hr⟩ := hq
                    refine wo_step (v := v46) (s_pure (o_build qn e46)) ?_
                    have hq := bindP_inv hr
                    clear hr
                    obtain ⟨vn_3, m_7, en_3, hr⟩ := hq
                    refine wo_stepN (s_st g4 rfl en_3) ?_
                    refine wo_step (v := (.i .i64 2)) (s_pure (p_mv rfl)) ?_
                    refine wo_nil ?_
                    refine nx_norm ?_
                    refine w_ret ?_
                    refine bk_ret ?_
                    refine nx_ret ?_
                    cases hr
                    exact ⟨_, _, rfl, ne_norm_ret, rfl, rfl, gl rfl, gl g4⟩
                  · refine w_condF g45 ?_
                    refine w_skip ?_
                    refine bk_norm ?_
                    refine nx_norm ?_
                    refine w_ops ?_
                    have hq := forceI_inv hr
                    clear hr
                    obtain ⟨x47, e47, hr⟩ := hq
                    refine wo_step (v := (.i .i64 x47)) (s_pure (p_bin g22 rfl (b_add.trans (ci e47)))) ?_
                    refine wo_step (v := (.i .i64 x47)) (s_pure (p_mv rfl)) ?_
                    refine wo_nil ?_
                    cases hr
                    exact ⟨_, _, rfl, rfl, rfl, gl rfl, gl g0, gl g1, gl g4, gl g20, gl g21⟩
          · refine w_condF rfl ?_
            refine w_exit ?_
            refine nx_exit ?_
            cases hr
            exact ⟨_, _, rfl, ne_norm_exit, rfl, rfl, gl g1, gl g4⟩
        · rcases o_4 with o_4 | o_4
          · obtain ⟨m_8, ho⟩ : ∃ z, z = o_4 := ⟨_, rfl⟩
            subst ho
            rintro _ mm_4 t_6 ⟨rfl, rfl, g1, g4⟩
            refine bk_hit ?_
            refine nx_norm ?_
            refine w_seq ?_
            refine w_ops ?_
            refine wo_step (v := v1) (s_pure (p_mv g1)) ?_
            have hq := bindO_inv hr
            clear hr
            obtain ⟨v49, e49, hr⟩ := hq
            have hq := asI_inv hr
            clear hr
            obtain ⟨x49, rfl, hr⟩ := hq
            refine wo_step (v := (.i .i64 x49)) (s_pure (o_len rfl e49)) ?_
            have hq := bindO_inv hr
            clear hr
            obtain ⟨v50, e50, hr⟩ := hq
            refine wo_step (v := v50) (s_pure (o_build (qc rfl qn) e50)) ?_
            have hq := bindP_inv hr
            clear hr
            obtain ⟨v8, m_9, e8, hr⟩ := hq
            refine wo_step (v := v8) (s_al e8) ?_
            have hq := bindP_inv hr
            clear hr
            obtain ⟨vn_4, m_10, en_4, hr⟩ := hq
            refine wo_stepN (s_st rfl rfl en_4) ?_
            refine wo_nil ?_
            refine nx_norm ?_
            refine w_seq ?_
            refine w_ops ?_
            have hq := bindO_inv hr
            clear hr
            obtain ⟨v51, e51, hr⟩ := hq
            refine wo_step (v := v51) (s_pure (o_faddr rfl e51)) ?_
            have hq := bindO_inv hr
            clear hr
            obtain ⟨v52, e52, hr⟩ := hq
            refine wo_step (v := v52) (s_pure (o_slA rfl on on e52)) ?_
            refine wo_step (v := v1) (s_pure (p_mv g1)) ?_
            have hq := bindP_inv hr
            clear hr
            obtain ⟨v54, m_11, e54, hr⟩ := hq
            have hq := asI_inv hr
            clear hr
            obtain ⟨x54, rfl, hr⟩ := hq
            refine wo_step (v := (.i .i64 x54)) (s_cpy rfl rfl e54) ?_
            refine wo_nil ?_
            refine nx_norm ?_
            refine w_seq ?_
            refine w_ops ?_
            have hq := bindO_inv hr
            clear hr
            obtain ⟨v55, e55, hr⟩ := hq
            refine wo_step (v := v55) (s_ld rfl e55) ?_
            have hq := bindP_inv hr
            clear hr
            obtain ⟨vn_5, m_12, en_5, hr⟩ := hq
            refine wo_stepN (s_st g4 rfl en_5) ?_
            refine wo_step (v := (.i .i64 0)) (s_pure (p_mv rfl)) ?_
            refine wo_nil ?_
            refine nx_norm ?_
            refine w_ret ?_
            have hq := bindO_inv hr
            clear hr
            obtain ⟨vr_2, er_2, hr⟩ := hq
            exact qf ret_ok (rc g4 er_2 (rt rfl rn)) hr
          · obtain ⟨x5, m_13⟩ := o_4
            rintro _ mm_5 t_7 ⟨rfl, rfl, g5, g4⟩
            refine bk_ret ?_
            refine nx_ret ?_
            have hq := bindO_inv hr
            clear hr
            obtain ⟨vr_3, er_3, hr⟩ := hq
            exact qf ret_ok (rc g4 er_3 (rt g5 rn)) hr

/- (dibber/fence.garden).isBridge -/

def g18 (M : Means) (ro : List ABlk) (v0 : AVal) (x1 : Int) (m0 : Mm) : Option (AVal × Heap × Nat × Nat) :=
  bindP (stepM ro m0 (.bx 49 29 (.c v0))) fun v2 m_1 =>
  bindO (ldM ro m_1 false 29 v2) fun v6 =>
  bindP (callM M.call m_1 29 [v6, (.i .i64 x1)]) fun v8 m_2 =>
  bindP (callM M.call m_2 30 [v8]) fun v9 m_3 =>
  bindP (stepM ro m_3 (.al 56 [(AVal.i IntKind.i64 0), (AVal.i IntKind.i64 0), (AVal.i IntKind.i64 0), (AVal.i IntKind.i64 0), (AVal.i IntKind.i64 0), (AVal.i IntKind.i64 0), (AVal.i IntKind.i64 0), (AVal.i IntKind.i64 0)])) fun v5 m_4 =>
  bindP (stepM ro m_4 (.st 8 (.c v5) (.c v9))) fun vn m_5 =>
  bindO (evP .e (.faddr 1 (.c v2))) fun v11 =>
  bindO (evP .e (.ixA 14 2 (.c v11) (.c (.i .i64 x1)))) fun v12 =>
  bindO (evP .e (.faddr 0 (.c v12))) fun v13 =>
  bindO (ldA ro m_5.h true 1 v13) fun v14 =>
  asI .i64 v14 fun x14 =>
  bindO (evP .e (.ixA 8 1 (.c v5) (.c (.i .i64 x14)))) fun v15 =>
  bindO (ldA ro m_5.h true 1 v15) fun v16 =>
  asI .i64 v16 fun x16 =>
  bindO (evP .e (.faddr 1 (.c v2))) fun v18 =>
  bindO (evP .e (.ixA 14 2 (.c v18) (.c (.i .i64 x1)))) fun v19 =>
  bindO (evP .e (.faddr 1 (.c v19))) fun v20 =>
  bindO (ldA ro m_5.h true 1 v20) fun v21 =>
  asI .i64 v21 fun x21 =>
  bindO (evP .e (.ixA 8 1 (.c v5) (.c (.i .i64 x21)))) fun v22 =>
  bindO (ldA ro m_5.h true 1 v22) fun v23 =>
  asI .i64 v23 fun x23 =>
  forceB (!eqI x16 x23) fun c24 =>
  finM m0.h.length (tupA [(.b c24)]) m_5

theorem g18_ok {ro : List ABlk} {O : Caller} {M : Means} (hM : M.Ok ⟨F, O⟩ ro) {v0 x1 h r} (ho : O 18 [v0, (.i .i64 x1)] h = none) (hr : g18 M ro v0 x1 ⟨h, h.length, h.length⟩ = some r) : callX ⟨F, O⟩ ro 18 [v0, (.i .i64 x1)] h = some r := by
  refine callX_of (F := ⟨F, O⟩) (fn := fn18) (g := g18 M ro v0 x1) ho rfl rfl hr ?_
  clear ho
  clear hr
  intro m0 t0 ht hr
  have g0 : t0.get 0 = v0 := ht 0
  have g1 : t0.get 1 = (.i .i64 x1) := ht 1
  clear ht
  unfold g18 at hr
  refine w_seq ?_
  refine w_ops ?_
  have hq := bindP_inv hr
  clear hr
  obtain ⟨v2, m_1, e2, hr⟩ := hq
  refine wo_step (v := v2) (s_bx g0 e2) ?_
  refine wo_step (v := (.b false)) (s_pure (p_mv rfl)) ?_
  refine wo_nil ?_
  refine nx_norm ?_
  refine w_seq ?_
  refine w_ops ?_
  have hq := bindO_inv hr
  clear hr
  obtain ⟨v6, e6, hr⟩ := hq
  refine wo_step (v := v6) (s_ld rfl e6) ?_
  refine wo_step (v := (.i .i64 x1)) (s_pure (p_mv g1)) ?_
  have hq := bindP_inv hr
  clear hr
  obtain ⟨v8, m_2, e8, hr⟩ := hq
  refine wo_step (v := v8) (s_call (mc rfl (mc rfl mn)) (callM_le hM.call e8)) ?_
  have hq := bindP_inv hr
  clear hr
  obtain ⟨v9, m_3, e9, hr⟩ := hq
  refine wo_step (v := v9) (s_call (mc rfl mn) (callM_le hM.call e9)) ?_
  have hq := bindP_inv hr
  clear hr
  obtain ⟨v5, m_4, e5, hr⟩ := hq
  refine wo_step (v := v5) (s_al e5) ?_
  have hq := bindP_inv hr
  clear hr
  obtain ⟨vn, m_5, en, hr⟩ := hq
  refine wo_stepN (s_st rfl rfl en) ?_
  refine wo_nil ?_
  refine nx_norm ?_
  refine w_seq ?_
  refine w_any ?_
  refine wa_step (v := (.i .i64 x1)) (a_pure (p_mv g1)) ?_
  have hq := bindO_inv hr
  clear hr
  obtain ⟨v11, e11, hr⟩ := hq
  refine wa_step (v := v11) (a_pure (o_faddr rfl e11)) ?_
  have hq := bindO_inv hr
  clear hr
  obtain ⟨v12, e12, hr⟩ := hq
  refine wa_step (v := v12) (a_pure (o_ixA rfl rfl e12)) ?_
  have hq := bindO_inv hr
  clear hr
  obtain ⟨v13, e13, hr⟩ := hq
  refine wa_step (v := v13) (a_pure (o_faddr rfl e13)) ?_
  have hq := bindO_inv hr
  clear hr
  obtain ⟨v14, e14, hr⟩ := hq
  have hq := asI_inv hr
  clear hr
  obtain ⟨x14, rfl, hr⟩ := hq
  refine wa_step (v := (.i .i64 x14)) (a_ld rfl e14) ?_
  have hq := bindO_inv hr
  clear hr
  obtain ⟨v15, e15, hr⟩ := hq
  refine wa_step (v := v15) (a_pure (o_ixA rfl rfl e15)) ?_
  have hq := bindO_inv hr
  clear hr
  obtain ⟨v16, e16, hr⟩ := hq
  have hq := asI_inv hr
  clear hr
  obtain ⟨x16, rfl, hr⟩ := hq
  refine wa_step (v := (.i .i64 x16)) (a_ld rfl e16) ?_
  refine wa_step (v := (.i .i64 x1)) (a_pure (p_mv g1)) ?_
  have hq := bindO_inv hr
  clear hr
  obtain ⟨v18, e18, hr⟩ := hq
  refine wa_step (v := v18) (a_pure (o_faddr rfl e18)) ?_
  have hq := bindO_inv hr
  clear hr
  obtain ⟨v19, e19, hr⟩ := hq
  refine wa_step (v := v19) (a_pure (o_ixA rfl rfl e19)) ?_
  have hq := bindO_inv hr
  clear hr
  obtain ⟨v20, e20, hr⟩ := hq
  refine wa_step (v := v20) (a_pure (o_faddr rfl e20)) ?_
  have hq := bindO_inv hr
  clear hr
  obtain ⟨v21, e21, hr⟩ := hq
  have hq := asI_inv hr
  clear hr
  obtain ⟨x21, rfl, hr⟩ := hq
  refine wa_step (v := (.i .i64 x21)) (a_ld rfl e21) ?_
  have hq := bindO_inv hr
  clear hr
  obtain ⟨v22, e22, hr⟩ := hq
  refine wa_step (v := v22) (a_pure (o_ixA rfl rfl e22)) ?_
  have hq := bindO_inv hr
  clear hr
  obtain ⟨v23, e23, hr⟩ := hq
  have hq := asI_inv hr
  clear hr
  obtain ⟨x23, rfl, hr⟩ := hq
  refine wa_step (v := (.i .i64 x23)) (a_ld rfl e23) ?_
  have hq := forceB_inv hr
  clear hr
  obtain ⟨c24, e24, hr⟩ := hq
  refine wa_step (v := (.b c24)) (a_pure (p_bin rfl rfl (b_neq.trans (cb e24)))) ?_
  refine wa_step (v := (.b c24)) (a_pure (p_mv rfl)) ?_
  refine wa_nil ?_
  refine ⟨m_5, rfl, ?_⟩
  refine nx_norm ?_
  refine w_ret ?_
  exact qf ret_ok (rt rfl rn) hr

/- dibber/dibberref06.Garden -/
abbrev g19_J0 (x0 : Int) (v1 : AVal) (m0 : Mm) (o : Bool) (m1 : Mm) (t1 : Tr) : Prop :=
  match o with
  | c11 => m0 = m1 ∧ t1.get 11 = (.b c11) ∧ t1.get 0 = (.i .i64 x0) ∧ t1.get 1 = v1
abbrev g19_I1 (x0 : Int) (v1 : AVal) (m0 : Mm) (s : Int) (m1 : Mm) (t1 : Tr) : Prop :=
  match s with
  | x5 => m0 = m1 ∧ t1.get 5 = (.i .i64 x5) ∧ t1.get 0 = (.i .i64 x0) ∧ t1.get 1 = v1
abbrev g19_J1 (x0 : Int) (v1 : AVal) (m0 : Mm) (o : (Unit ⊕ Int)) (e : AExit) (m1 : Mm) (t1 : Tr) : Prop :=
  match o with
  | (.inl _) => e = (.exit 0) ∧ m0 = m1
  | (.inr y4) => e = .ret ∧ m0 = m1 ∧ t1.get 4 = (.i .i64 y4)
abbrev g19_J2 (x0 : Int) (v1 : AVal) (x5 : Int) (m0 : Mm) (o : Bool) (m1 : Mm) (t1 : Tr) : Prop :=
  match o with
  | c35 => m0 = m1 ∧ t1.get 35 = (.b c35) ∧ t1.get 0 = (.i .i64 x0) ∧ t1.get 1 = v1 ∧ t1.get 5 = (.i .i64 x5)
abbrev g19_J3 (x0 : Int) (v1 : AVal) (x5 : Int) (m0 : Mm) (o : Bool) (m1 : Mm) (t1 : Tr) : Prop :=
  match o with
  | c43 => m0 = m1 ∧ t1.get 43 = (.b c43) ∧ t1.get 0 = (.i .i64 x0) ∧ t1.get 1 = v1 ∧ t1.get 5 = (.i .i64 x5)
abbrev g19_J4 (x0 : Int) (v1 : AVal) (x5 : Int) (m0 : Mm) (o : Bool) (m1 : Mm) (t1 : Tr) : Prop :=
  match o with
  | c52 => m0 = m1 ∧ t1.get 52 = (.b c52) ∧ t1.get 0 = (.i .i64 x0) ∧ t1.get 1 = v1 ∧ t1.get 5 = (.i .i64 x5)
def g19_b1 (M : Means) (ro : List ABlk) (x0 : Int) (v1 : AVal) (m0 : Mm) (x5 : Int) : Option ((Int) ⊕ ((Unit ⊕ Int))) :=
  bindO (evP .e (.len false (.c v1))) fun v17 =>
  asI .i64 v17 fun x17 =>
  forceB (ltI x5 x17) fun c18 =>
  cond c18 (
    bindO (evP .e (.ixS 2 (.c v1) (.c (.i .i64 x5)))) fun v23 =>
    bindO (evP .e (.faddr 0 (.c v23))) fun v24 =>
    bindO (ldM ro m0 true 1 v24) fun v25 =>
    asI .i64 v25 fun x25 =>
    forceB (ltI x25 0) fun c26 =>
    bindO (cond c26 (
      some true) (
      bindO (evP .e (.ixS 2 (.c v1) (.c (.i .i64 x5)))) fun v30 =>
      bindO (evP .e (.faddr 0 (.c v30))) fun v31 =>
      bindO (ldM ro m0 true 1 v31) fun v32 =>
      asI .i64 v32 fun x32 =>
      forceB (!ltI x32 x0) fun c34 =>
      some c34)) fun c35 =>
    bindO (cond c35 (
      some true) (
      bindO (evP .e (.ixS 2 (.c v1) (.c (.i .i64 x5)))) fun v39 =>
      bindO (evP .e (.faddr 1 (.c v39))) fun v40 =>
      bindO (ldM ro m0 true 1 v40) fun v41 =>
      asI .i64 v41 fun x41 =>
      forceB (ltI x41 0) fun c42 =>
      some c42)) fun c43 =>
    bindO (cond c43 (
      some true) (
      bindO (evP .e (.ixS 2 (.c v1) (.c (.i .i64 x5)))) fun v47 =>
      bindO (evP .e (.faddr 1 (.c v47))) fun v48 =>
      bindO (ldM ro m0 true 1 v48) fun v49 =>
      asI .i64 v49 fun x49 =>
      forceB (!ltI x49 x0) fun c51 =>
      some c51)) fun c52 =>
    cond c52 (
      some (.inr (.inr 2))) (
      forceI (wr .i64 (x5 + 1)) fun x20 =>
      some (.inl x20))) (
    some (.inr (.inl ())))
def g19 (M : Means) (ro : List ABlk) (x0 : Int) (v1 : AVal) (m0 : Mm) : Option (AVal × Heap × Nat × Nat) :=
  forceB (ltI x0 1) fun c7 =>
  bindO (cond c7 (
    some true) (
    forceB (ltI 8 x0) fun c10 =>
    some c10)) fun c11 =>
  cond c11 (
    finM m0.h.length (tupA [(.i .i64 2)]) m0) (
    bindO (evP .e (.len false (.c v1))) fun v13 =>
    asI .i64 v13 fun x13 =>
    forceB (ltI 14 x13) fun c14 =>
    cond c14 (
      finM m0.h.length (tupA [(.i .i64 3)]) m0) (
      bindO (M.loop (S := Int) (R := (Unit ⊕ Int)) (fun s => g19_b1 M ro x0 v1 m0 s) 0) fun o_4 => match o_4 with
      | (.inl _) =>
        finM m0.h.length (tupA [(.i .i64 0)]) m0
      | (.inr x4) =>
        finM m0.h.length (tupA [(.i .i64 x4)]) m0))

theorem g19_ok {ro : List ABlk} {O : Caller} {M : Means} (hM : M.Ok ⟨F, O⟩ ro) {x0 v1 h r} (ho : O 19 [(.i .i64 x0), v1] h = none) (hr : g19 M ro x0 v1 ⟨h, h.length, h.length⟩ = some r) : callX ⟨F, O⟩ ro 19 [(.i .i64 x0), v1] h = some r := by
  refine callX_of (F := ⟨F, O⟩) (fn := fn19) (g := g19 M ro x0 v1) ho rfl rfl hr ?_
  clear ho
  clear hr
  intro m0 t0 ht hr
  have g0 : t0.get 0 = (.i .i64 x0) := ht 0
  have g1 : t0.get 1 = v1 := ht 1
  clear ht
  unfold g19 at hr
  refine w_seq ?_
  refine w_ops ?_
  refine wo_step (v := (.i .i64 0)) (s_pure (p_mv rfl)) ?_
  refine wo_nil ?_
  refine nx_norm ?_
  refine w_seq ?_
  refine w_seq ?_
  refine w_ops ?_
  refine wo_step (v := (.i .i64 x0)) (s_pure (p_mv g0)) ?_
  have hq := forceB_inv hr
  clear hr
  obtain ⟨c7, e7, hr⟩ := hq
  refine wo_step (v := (.b c7)) (s_pure (p_bin rfl rfl (b_lss.trans (cb e7)))) ?_
  refine wo_step (v := (.b c7)) (s_pure (p_mv rfl)) ?_
  have hq := bindO_inv hr
  clear hr
  obtain ⟨o, hr, hk⟩ := hq
  refine wo_join 3 (g19_J0 x0 v1 m0 o) ?_ ?_
  · clear hk
    have hq := cond_inv hr
    clear hr
    rcases hq with ⟨rfl, hr⟩ | ⟨rfl, hr⟩
    · refine wo_skip (v := (.b true)) rfl rfl ?_
      refine wo_skip (v := (.b true)) rfl rfl ?_
      refine wo_step (v := (.b true)) (s_pure (p_pickT rfl rfl)) ?_
      refine wo_nil ?_
      cases hr
      exact ⟨_, _, rfl, rfl, gl rfl, gl g0, gl g1⟩
    · refine wo_take (v := (.i .i64 x0)) rfl (s_pure (p_mv g0)) ?_
      have hq := forceB_inv hr
      clear hr
      obtain ⟨c10, e10, hr⟩ := hq
      refine wo_take (v := (.b c10)) rfl (s_pure (p_bin rfl rfl (b_gtr.trans (cb e10)))) ?_
      refine wo_step (v := (.b c10)) (s_pure (p_pickF rfl rfl)) ?_
      refine wo_nil ?_
      cases hr
      exact ⟨_, _, rfl, rfl, gl rfl, gl g0, gl g1⟩
  · clear hr
    have hr := hk
    clear hk
    obtain ⟨c11, ho⟩ : ∃ z, z = o := ⟨_, rfl⟩
    subst ho
    rintro mm t_1 ⟨rfl, g11, g0, g1⟩
    refine wo_nil ?_
    refine nx_norm ?_
    have hq := cond_inv hr
    clear hr
    rcases hq with ⟨rfl, hr⟩ | ⟨rfl, hr⟩
    · refine w_condT g11 ?_
      refine w_seq ?_
      refine w_ops ?_
      refine wo_step (v := (.i .i64 2)) (s_pure (p_mv rfl)) ?_
      refine wo_nil ?_
      refine nx_norm ?_
      refine w_ret ?_
      refine nx_ret ?_
      exact qf ret_ok (rt rfl rn) hr
    · refine w_condF g11 ?_
      refine w_skip ?_
      refine nx_norm ?_
      refine w_seq ?_
      refine w_seq ?_
      refine w_ops ?_
      refine wo_step (v := v1) (s_pure (p_mv g1)) ?_
      have hq := bindO_inv hr
      clear hr
      obtain ⟨v13, e13, hr⟩ := hq
      have hq := asI_inv hr
      clear hr
      obtain ⟨x13, rfl, hr⟩ := hq
      refine wo_step (v := (.i .i64 x13)) (s_pure (o_len rfl e13)) ?_
      have hq := forceB_inv hr
      clear hr
      obtain ⟨c14, e14, hr⟩ := hq
      refine wo_step (v := (.b c14)) (s_pure (p_bin rfl rfl (b_gtr.trans (cb e14)))) ?_
      refine wo_nil ?_
      refine nx_norm ?_
      have hq := cond_inv hr
      clear hr
      rcases hq with ⟨rfl, hr⟩ | ⟨rfl, hr⟩
      · refine w_condT rfl ?_
        refine w_seq ?_
        refine w_ops ?_
        refine wo_step (v := (.i .i64 3)) (s_pure (p_mv rfl)) ?_
        refine wo_nil ?_
        refine nx_norm ?_
        refine w_ret ?_
        refine nx_ret ?_
        exact qf ret_ok (rt rfl rn) hr
      · refine w_condF rfl ?_
        refine w_skip ?_
        refine nx_norm ?_
        refine w_seq ?_
        refine w_seq ?_
        refine w_ops ?_
        refine wo_step (v := (.i .i64 0)) (s_pure (p_mv rfl)) ?_
        refine wo_nil ?_
        refine nx_norm ?_
        refine w_block ?_
        have hq := bindO_inv hr
        clear hr
        obtain ⟨o_4, hl, hr⟩ := hq
        obtain ⟨n, hl⟩ := hM.loop _ _ _ hl
        refine jp_mono (w_loop _ (g19_I1 x0 v1 m0) (g19_J1 x0 v1 m0) ?_ n _ _ _ _ hl ⟨rfl, gl rfl, gl g0, gl g1⟩) ?_
        · clear hr hl
          intro s mm_6 t_2 o hi hr
          obtain ⟨x5, hs⟩ : ∃ z, z = s := ⟨_, rfl⟩
          subst hs
          obtain ⟨rfl, g5, g0, g1⟩ := hi
          unfold g19_b1 at hr
          refine w_seq ?_
          refine w_seq ?_
          refine w_ops ?_
          refine wo_step (v := (.i .i64 x5)) (s_pure (p_mv g5)) ?_
          refine wo_step (v := v1) (s_pure (p_mv g1)) ?_
          have hq := bindO_inv hr
          clear hr
          obtain ⟨v17, e17, hr⟩ := hq
          have hq := asI_inv hr
          clear hr
          obtain ⟨x17, rfl, hr⟩ := hq
          refine wo_step (v := (.i .i64 x17)) (s_pure (o_len rfl e17)) ?_
          have hq := forceB_inv hr
          clear hr
          obtain ⟨c18, e18, hr⟩ := hq
          refine wo_step (v := (.b c18)) (s_pure (p_bin rfl rfl (b_lss.trans (cb e18)))) ?_
          refine wo_nil ?_
          refine nx_norm ?_
          have hq := cond_inv hr
          clear hr
          rcases hq with ⟨rfl, hr⟩ | ⟨rfl, hr⟩
          · refine w_condT rfl ?_
            refine w_skip ?_
            refine nx_norm ?_
            refine w_seq ?_
            refine w_block ?_
            refine w_seq ?_
            refine w_ops ?_
            refine wo_step (v := v1) (s_pure (p_mv g1)) ?_
            refine wo_step (v := (.i .i64 x5)) (s_pure (p_mv g5)) ?_
            have hq := bindO_inv hr
            clear hr
            obtain ⟨v23, e23, hr⟩ := hq
            refine wo_step (v := v23) (s_pure (o_ixS rfl rfl e23)) ?_
            have hq := bindO_inv hr
            clear hr
            obtain ⟨v24, e24, hr⟩ := hq
            refine wo_step (v := v24) (s_pure (o_faddr rfl e24)) ?_
            have hq := bindO_inv hr
            clear hr
            obtain ⟨v25, e25, hr⟩ := hq
            have hq := asI_inv hr
            clear hr
            obtain ⟨x25, rfl, hr⟩ := hq
            refine wo_step (v := (.i .i64 x25)) (s_ld rfl e25) ?_
            have hq := forceB_inv hr
            clear hr
            obtain ⟨c26, e26, hr⟩ := hq
            refine wo_step (v := (.b c26)) (s_pure (p_bin rfl rfl (b_lss.trans (cb e26)))) ?_
            refine wo_step (v := (.b c26)) (s_pure (p_mv rfl)) ?_
            have hq := bindO_inv hr
            clear hr
            obtain ⟨o_1, hr, hk⟩ := hq
            refine wo_join 8 (g19_J2 x0 v1 x5 m0 o_1) ?_ ?_
            · clear hk
              have hq := cond_inv hr
              clear hr
              rcases hq with ⟨rfl, hr⟩ | ⟨rfl, hr⟩
              · refine wo_skip (v := (.b true)) rfl rfl ?_
                refine wo_skip (v := (.b true)) rfl rfl ?_
                refine wo_skip (v := (.b true)) rfl rfl ?_
                refine wo_skip (v := (.b true)) rfl rfl ?_
                refine wo_skip (v := (.b true)) rfl rfl ?_
                refine wo_skip (v := (.b true)) rfl rfl ?_
                refine wo_skip (v := (.b true)) rfl rfl ?_
                refine wo_step (v := (.b true)) (s_pure (p_pickT rfl rfl)) ?_
                refine wo_nil ?_
                cases hr
                exact ⟨_, _, rfl, rfl, gl rfl, gl g0, gl g1, gl g5⟩
              · refine wo_take (v := v1) rfl (s_pure (p_mv g1)) ?_
                refine wo_take (v := (.i .i64 x5)) rfl (s_pure (p_mv g5)) ?_
                have hq := bindO_inv hr
                clear hr
                obtain ⟨v30, e30, hr⟩ := hq
                refine wo_take (v := v30) rfl (s_pure (o_ixS rfl rfl e30)) ?_
                have hq := bindO_inv hr
                clear hr
                obtain ⟨v31, e31, hr⟩ := hq
                refine wo_take (v := v31) rfl (s_pure (o_faddr rfl e31)) ?_
                have hq := bindO_inv hr
                clear hr
                obtain ⟨v32, e32, hr⟩ := hq
                have hq := asI_inv hr
                clear hr
                obtain ⟨x32, rfl, hr⟩ := hq
                refine wo_take (v := (.i .i64 x32)) rfl (s_ld rfl e32) ?_
                refine wo_take (v := (.i .i64 x0)) rfl (s_pure (p_mv g0)) ?_
                have hq := forceB_inv hr
                clear hr
                obtain ⟨c34, e34, hr⟩ := hq
                refine wo_take (v := (.b c34)) rfl (s_pure (p_bin rfl rfl (b_geq.trans (cb e34)))) ?_
                refine wo_step (v := (.b c34)) (s_pure (p_pickF rfl rfl)) ?_
                refine wo_nil ?_
                cases hr
                exact ⟨_, _, rfl, rfl, gl rfl, gl g0, gl g1, gl g5⟩
            · clear hr
              have hr := hk
              clear hk
              obtain ⟨c35, ho⟩ : ∃ z, z = o_1 := ⟨_, rfl⟩
              subst ho
              rintro mm_1 t_3 ⟨rfl, g35, g0, g1, g5⟩
              refine wo_step (v := (.b c35)) (s_pure (p_mv g35)) ?_
              have hq := bindO_inv hr
              clear hr
              obtain ⟨o_2, hr, hk⟩ := hq
              refine wo_join 7 (g19_J3 x0 v1 x5 m0 o_2) ?_ ?_
              · clear hk
                have hq := cond_inv hr
                clear hr
                rcases hq with ⟨rfl, hr⟩ | ⟨rfl, hr⟩
                · refine wo_skip (v := (.b true)) rfl rfl ?_
                  refine wo_skip (v := (.b true)) rfl rfl ?_
                  refine wo_skip (v := (.b true)) rfl rfl ?_
                  refine wo_skip (v := (.b true)) rfl rfl ?_
                  refine wo_skip (v := (.b true)) rfl rfl ?_
                  refine wo_skip (v := (.b true)) rfl rfl ?_
                  refine wo_step (v := (.b true)) (s_pure (p_pickT rfl rfl)) ?_
                  refine wo_nil ?_
                  cases hr
                  exact ⟨_, _, rfl, rfl, gl rfl, gl g0, gl g1, gl g5⟩
                · refine wo_take (v := v1) rfl (s_pure (p_mv g1)) ?_
                  refine wo_take (v := (.i .i64 x5)) rfl (s_pure (p_mv g5)) ?_
                  have hq := bindO_inv hr
                  clear hr
                  obtain ⟨v39, e39, hr⟩ := hq
                  refine wo_take (v := v39) rfl (s_pure (o_ixS rfl rfl e39)) ?_
                  have hq := bindO_inv hr
                  clear hr
                  obtain ⟨v40, e40, hr⟩ := hq
                  refine wo_take (v := v40) rfl (s_pure (o_faddr rfl e40)) ?_
                  have hq := bindO_inv hr
                  clear hr
                  obtain ⟨v41, e41, hr⟩ := hq
                  have hq := asI_inv hr
                  clear hr
                  obtain ⟨x41, rfl, hr⟩ := hq
                  refine wo_take (v := (.i .i64 x41)) rfl (s_ld rfl e41) ?_
                  have hq := forceB_inv hr
                  clear hr
                  obtain ⟨c42, e42, hr⟩ := hq
                  refine wo_take (v := (.b c42)) rfl (s_pure (p_bin rfl rfl (b_lss.trans (cb e42)))) ?_
                  refine wo_step (v := (.b c42)) (s_pure (p_pickF rfl rfl)) ?_
                  refine wo_nil ?_
                  cases hr
                  exact ⟨_, _, rfl, rfl, gl rfl, gl g0, gl g1, gl g5⟩
              · clear hr
                have hr := hk
                clear hk
                obtain ⟨c43, ho⟩ : ∃ z, z = o_2 := ⟨_, rfl⟩
                subst ho
                rintro mm_2 t_4 ⟨rfl, g43, g0, g1, g5⟩
                refine wo_step (v := (.b c43)) (s_pure (p_mv g43)) ?_
                have hq := bindO_inv hr
                clear hr
                obtain ⟨o_3, hr, hk⟩ := hq
                refine wo_join 8 (g19_J4 x0 v1 x5 m0 o_3) ?_ ?_
                · clear hk
                  have hq := cond_inv hr
                  clear hr
                  rcases hq with ⟨rfl, hr⟩ | ⟨rfl, hr⟩
                  · refine wo_skip (v := (.b true)) rfl rfl ?_
                    refine wo_skip (v := (.b true)) rfl rfl ?_
                    refine wo_skip (v := (.b true)) rfl rfl ?_
                    refine wo_skip (v := (.b true)) rfl rfl ?_
                    refine wo_skip (v := (.b true)) rfl rfl ?_
                    refine wo_skip (v := (.b true)) rfl rfl ?_
                    refine wo_skip (v := (.b true)) rfl rfl ?_
                    refine wo_step (v := (.b true)) (s_pure (p_pickT rfl rfl)) ?_
                    refine wo_nil ?_
                    cases hr
                    exact ⟨_, _, rfl, rfl, gl rfl, gl g0, gl g1, gl g5⟩
                  · refine wo_take (v := v1) rfl (s_pure (p_mv g1)) ?_
                    refine wo_take (v := (.i .i64 x5)) rfl (s_pure (p_mv g5)) ?_
                    have hq := bindO_inv hr
                    clear hr
                    obtain ⟨v47, e47, hr⟩ := hq
                    refine wo_take (v := v47) rfl (s_pure (o_ixS rfl rfl e47)) ?_
                    have hq := bindO_inv hr
                    clear hr
                    obtain ⟨v48, e48, hr⟩ := hq
                    refine wo_take (v := v48) rfl (s_pure (o_faddr rfl e48)) ?_
                    have hq := bindO_inv hr
                    clear hr
                    obtain ⟨v49, e49, hr⟩ := hq
                    have hq := asI_inv hr
                    clear hr
                    obtain ⟨x49, rfl, hr⟩ := hq
                    refine wo_take (v := (.i .i64 x49)) rfl (s_ld rfl e49) ?_
                    refine wo_take (v := (.i .i64 x0)) rfl (s_pure (p_mv g0)) ?_
                    have hq := forceB_inv hr
                    clear hr
                    obtain ⟨c51, e51, hr⟩ := hq
                    refine wo_take (v := (.b c51)) rfl (s_pure (p_bin rfl rfl (b_geq.trans (cb e51)))) ?_
                    refine wo_step (v := (.b c51)) (s_pure (p_pickF rfl rfl)) ?_
                    refine wo_nil ?_
                    cases hr
                    exact ⟨_, _, rfl, rfl, gl rfl, gl g0, gl g1, gl g5⟩
                · clear hr
                  have hr := hk
                  clear hk
                  obtain ⟨c52, ho⟩ : ∃ z, z = o_3 := ⟨_, rfl⟩
                  subst ho
                  rintro mm_3 t_5 ⟨rfl, g52, g0, g1, g5⟩
                  refine wo_nil ?_
                  refine nx_norm ?_
                  have hq := cond_inv hr
                  clear hr
                  rcases hq with ⟨rfl, hr⟩ | ⟨rfl, hr⟩
                  · refine w_condT g52 ?_
                    refine w_seq ?_
                    refine w_ops ?_
                    refine wo_step (v := (.i .i64 2)) (s_pure (p_mv rfl)) ?_
                    refine wo_nil ?_
                    refine nx_norm ?_
                    refine w_ret ?_
                    refine bk_ret ?_
                    refine nx_ret ?_
                    cases hr
                    exact ⟨_, _, rfl, ne_norm_ret, rfl, rfl, gl rfl⟩
                  · refine w_condF g52 ?_
                    refine w_skip ?_
                    refine bk_norm ?_
                    refine nx_norm ?_
                    refine w_ops ?_
                    refine wo_step (v := (.i .i64 x5)) (s_pure (p_mv g5)) ?_
                    have hq := forceI_inv hr
                    clear hr
                    obtain ⟨x20, e20, hr⟩ := hq
                    refine wo_step (v := (.i .i64 x20)) (s_pure (p_bin rfl rfl (b_add.trans (ci e20)))) ?_
                    refine wo_step (v := (.i .i64 x20)) (s_pure (p_mv rfl)) ?_
                    refine wo_nil ?_
                    cases hr
                    exact ⟨_, _, rfl, rfl, rfl, gl rfl, gl g0, gl g1⟩
          · refine w_condF rfl ?_
            refine w_exit ?_
            refine nx_exit ?_
            cases hr
            exact ⟨_, _, rfl, ne_norm_exit, rfl, rfl⟩
        · rcases o_4 with o_4 | o_4
          · rintro _ mm_4 t_6 ⟨rfl, rfl⟩
            refine bk_hit ?_
            refine nx_norm ?_
            refine w_seq ?_
            refine w_ops ?_
            refine wo_step (v := (.i .i64 0)) (s_pure (p_mv rfl)) ?_
            refine wo_nil ?_
            refine nx_norm ?_
            refine w_ret ?_
            exact qf ret_ok (rt rfl rn) hr
          · obtain ⟨x4, ho⟩ : ∃ z, z = o_4 := ⟨_, rfl⟩
            subst ho
            rintro _ mm_5 t_7 ⟨rfl, rfl, g4⟩
            refine bk_ret ?_
            refine nx_ret ?_
            exact qf ret_ok (rt g4 rn) hr

/- dibber/dibberref06.groups -/
abbrev g20_I0 (x0 : Int) (v1 : AVal) (x2 : Int) (v15 : AVal) (s : Int × Mm) (m1 : Mm) (t1 : Tr) : Prop :=
  match s with
  | (x8, m_2) => m_2 = m1 ∧ t1.get 8 = (.i .i64 x8) ∧ t1.get 0 = (.i .i64 x0) ∧ t1.get 1 = v1 ∧ t1.get 2 = (.i .i64 x2) ∧ t1.get 7 = v15
abbrev g20_J0 (x0 : Int) (v1 : AVal) (x2 : Int) (v15 : AVal) (o : Mm) (e : AExit) (m1 : Mm) (t1 : Tr) : Prop :=
  match o with
  | mo => e = (.exit 0) ∧ mo = m1 ∧ t1.get 0 = (.i .i64 x0) ∧ t1.get 1 = v1 ∧ t1.get 2 = (.i .i64 x2) ∧ t1.get 7 = v15
def g20_b0 (M : Means) (ro : List ABlk) (x0 : Int) (v1 : AVal) (x2 : Int) (v15 : AVal) (x8 : Int) (m_2 : Mm) : Option ((Int × Mm) ⊕ (Mm)) :=
  forceB (ltI x8 x0) fun c18 =>
  cond c18 (
    bindO (evP .e (.ixS 1 (.c v15) (.c (.i .i64 x8)))) fun v24 =>
    bindP (stepM ro m_2 (.st 1 (.c v24) (.c (.i .i64 x8)))) fun vn m_3 =>
    forceI (wr .i64 (x8 + 1)) fun x20 =>
    some (.inl (x20, m_3))) (
    some (.inr m_2))
abbrev g20_I1 (x0 : Int) (v1 : AVal) (x2 : Int) (v15 : AVal) (s : Int × Int × Mm) (m1 : Mm) (t1 : Tr) : Prop :=
  match s with
  | (x9, x10, m_5) => m_5 = m1 ∧ t1.get 9 = (.i .i64 x9) ∧ t1.get 10 = (.i .i64 x10) ∧ t1.get 0 = (.i .i64 x0) ∧ t1.get 1 = v1 ∧ t1.get 2 = (.i .i64 x2) ∧ t1.get 7 = v15
abbrev g20_J1 (x0 : Int) (v1 : AVal) (x2 : Int) (v15 : AVal) (o : (Int × Mm)) (e : AExit) (m1 : Mm) (t1 : Tr) : Prop :=
  match o with
  | (y9, mo) => e = (.exit 2) ∧ mo = m1 ∧ t1.get 9 = (.i .i64 y9)
abbrev g20_J2 (x0 : Int) (v1 : AVal) (x2 : Int) (v15 : AVal) (x10 : Int) (o : (Int × Mm)) (e : AExit) (m1 : Mm) (t1 : Tr) : Prop :=
  match o with
  | (y9, mo) => e = .norm ∧ mo = m1 ∧ t1.get 9 = (.i .i64 y9) ∧ t1.get 0 = (.i .i64 x0) ∧ t1.get 1 = v1 ∧ t1.get 2 = (.i .i64 x2) ∧ t1.get 7 = v15 ∧ t1.get 10 = (.i .i64 x10)
abbrev g20_J3 (x0 : Int) (v1 : AVal) (x2 : Int) (v15 : AVal) (x9 : Int) (x10 : Int) (x39 : Int) (x47 : Int) (m_5 : Mm) (o : Bool) (m1 : Mm) (t1 : Tr) : Prop :=
  match o with
  | c57 => m_5 = m1 ∧ t1.get 57 = (.b c57) ∧ t1.get 0 = (.i .i64 x0) ∧ t1.get 1 = v1 ∧ t1.get 2 = (.i .i64 x2) ∧ t1.get 7 = v15 ∧ t1.get 9 = (.i .i64 x9) ∧ t1.get 10 = (.i .i64 x10) ∧ t1.get 11 = (.i .i64 x39) ∧ t1.get 12 = (.i .i64 x47)
abbrev g20_I4 (x0 : Int) (v1 : AVal) (x2 : Int) (v15 : AVal) (x59 : Int) (x10 : Int) (x39 : Int) (x47 : Int) (s : Int × Mm) (m1 : Mm) (t1 : Tr) : Prop :=
  match s with
  | (x13, m_6) => m_6 = m1 ∧ t1.get 13 = (.i .i64 x13) ∧ t1.get 0 = (.i .i64 x0) ∧ t1.get 1 = v1 ∧ t1.get 2 = (.i .i64 x2) ∧ t1.get 7 = v15 ∧ t1.get 9 = (.i .i64 x59) ∧ t1.get 10 = (.i .i64 x10) ∧ t1.get 11 = (.i .i64 x39) ∧ t1.get 12 = (.i .i64 x47)
abbrev g20_J4 (x0 : Int) (v1 : AVal) (x2 : Int) (v15 : AVal) (x59 : Int) (x10 : Int) (x39 : Int) (x47 : Int) (o : Mm) (e : AExit) (m1 : Mm) (t1 : Tr) : Prop :=
  match o with
  | mo => e = (.exit 4) ∧ mo = m1 ∧ t1.get 0 = (.i .i64 x0) ∧ t1.get 1 = v1 ∧ t1.get 2 = (.i .i64 x2) ∧ t1.get 7 = v15 ∧ t1.get 9 = (.i .i64 x59) ∧ t1.get 10 = (.i .i64 x10)
abbrev g20_J5 (x0 : Int) (v1 : AVal) (x2 : Int) (v15 : AVal) (x59 : Int) (x10 : Int) (x39 : Int) (x47 : Int) (x13 : Int) (o : Mm) (e : AExit) (m1 : Mm) (t1 : Tr) : Prop :=
  match o with
  | mo => e = .norm ∧ mo = m1 ∧ t1.get 0 = (.i .i64 x0) ∧ t1.get 1 = v1 ∧ t1.get 2 = (.i .i64 x2) ∧ t1.get 7 = v15 ∧ t1.get 9 = (.i .i64 x59) ∧ t1.get 10 = (.i .i64 x10) ∧ t1.get 11 = (.i .i64 x39) ∧ t1.get 12 = (.i .i64 x47) ∧ t1.get 13 = (.i .i64 x13)
def g20_b4 (M : Means) (ro : List ABlk) (x0 : Int) (v1 : AVal) (x2 : Int) (v15 : AVal) (x59 : Int) (x10 : Int) (x39 : Int) (x47 : Int) (x13 : Int) (m_6 : Mm) : Option ((Int × Mm) ⊕ (Mm)) :=
  forceB (ltI x13 x0) fun c62 =>
  cond c62 (
    bindO (evP .e (.ixS 1 (.c v15) (.c (.i .i64 x13)))) fun v67 =>
    bindO (ldM ro m_6 true 1 v67) fun v68 =>
    asI .i64 v68 fun x68 =>
    forceB (eqI x68 x39) fun c70 =>
    bindO (α := Mm) (
      cond c70 (
        bindO (evP .e (.ixS 1 (.c v15) (.c (.i .i64 x13)))) fun v74 =>
        bindP (stepM ro m_6 (.st 1 (.c v74) (.c (.i .i64 x47)))) fun vn_1 m_7 =>
        some m_7) (
        some m_6)) fun m_8 =>
    forceI (wr .i64 (x13 + 1)) fun x64 =>
    some (.inl (x64, m_8))) (
    some (.inr m_6))
def g20_b1 (M : Means) (ro : List ABlk) (x0 : Int) (v1 : AVal) (x2 : Int) (v15 : AVal) (x9 : Int) (x10 : Int) (m_5 : Mm) : Option ((Int × Int × Mm) ⊕ ((Int × Mm))) :=
  bindO (evP .e (.len false (.c v1))) fun v28 =>
  asI .i64 v28 fun x28 =>
  forceB (ltI x10 x28) fun c29 =>
  cond c29 (
    bindO (α := (Int × Mm)) (
      bindO (evP .e (.ixS 2 (.c v1) (.c (.i .i64 x10)))) fun v35 =>
      bindO (evP .e (.faddr 0 (.c v35))) fun v36 =>
      bindO (ldA ro m_5.h true 1 v36) fun v37 =>
      asI .i64 v37 fun x37 =>
      bindO (evP .e (.ixS 1 (.c v15) (.c (.i .i64 x37)))) fun v38 =>
      bindO (ldA ro m_5.h true 1 v38) fun v39 =>
      asI .i64 v39 fun x39 =>
      bindO (evP .e (.ixS 2 (.c v1) (.c (.i .i64 x10)))) fun v43 =>
      bindO (evP .e (.faddr 1 (.c v43))) fun v44 =>
      bindO (ldA ro m_5.h true 1 v44) fun v45 =>
      asI .i64 v45 fun x45 =>
      bindO (evP .e (.ixS 1 (.c v15) (.c (.i .i64 x45)))) fun v46 =>
      bindO (ldA ro m_5.h true 1 v46) fun v47 =>
      asI .i64 v47 fun x47 =>
      chk (!ltI x10 (.ofNat 0)) <|
      forceI (shrV .i64 x2 x10) fun x50 =>
      forceI (Int.tmod x50 2) fun x51 =>
      forceB (eqI x51 0) fun c52 =>
      bindO (cond c52 (
        some true) (
        forceB (eqI x39 x47) fun c56 =>
        some c56)) fun c57 =>
      cond c57 (
        some (x9, m_5)) (
        forceI (wr .i64 (x9 - 1)) fun x59 =>
        bindO (M.loop (S := Int × Mm) (R := Mm) (fun s => g20_b4 M ro x0 v1 x2 v15 x59 x10 x39 x47 s.1 s.2) (0, m_5)) fun m_9 =>
        some (x59, m_9))) fun ⟨x9_1, m_10⟩ =>
    forceI (wr .i64 (x10 + 1)) fun x31 =>
    some (.inl (x9_1, x31, m_10))) (
    some (.inr (x9, m_5)))
def g20 (M : Means) (ro : List ABlk) (x0 : Int) (v1 : AVal) (x2 : Int) (m0 : Mm) : Option (AVal × Heap × Nat × Nat) :=
  bindP (stepM ro m0 (.mk 3 1 8 [(AVal.i IntKind.i64 0)] (.c (.i .i64 x0)) (.c (.i .i64 x0)))) fun v15 m_1 =>
  bindO (M.loop (S := Int × Mm) (R := Mm) (fun s => g20_b0 M ro x0 v1 x2 v15 s.1 s.2) (0, m_1)) fun m_4 =>
  bindO (M.loop (S := Int × Int × Mm) (R := (Int × Mm)) (fun s => g20_b1 M ro x0 v1 x2 v15 s.1 s.2.1 s.2.2) (x0, 0, m_4)) fun ⟨x9_2, m_11⟩ =>
  finM m0.h.length (tupA [(.i .i64 x9_2)]) m_11

theorem g20_ok {ro : List ABlk} {O : Caller} {M : Means} (hM : M.Ok ⟨F, O⟩ ro) {x0 v1 x2 h r} (ho : O 20 [(.i .i64 x0), v1, (.i .i64 x2)] h = none) (hr : g20 M ro x0 v1 x2 ⟨h, h.length, h.length⟩ = some r) : callX ⟨F, O⟩ ro 20 [(.i .i64 x0), v1, (.i .i64 x2)] h = some r := by
  refine callX_of (F := ⟨F, O⟩) (fn := fn20) (g := g20 M ro x0 v1 x2) ho rfl rfl hr ?_
  clear ho
  clear hr
  intro m0 t0 ht hr
  have g0 : t0.get 0 = (.i .i64 x0) := ht 0
  have g1 : t0.get 1 = v1 := ht 1
  have g2 : t0.get 2 = (.i .i64 x2) := ht 2
  clear ht
  unfold g20 at hr
  refine w_seq ?_
  refine w_ops ?_
  refine wo_step (v := (.i .i64 0)) (s_pure (p_mv rfl)) ?_
  refine wo_nil ?_
  refine nx_norm ?_
  refine w_seq ?_
  refine w_ops ?_
  refine wo_step (v := (.i .i64 x0)) (s_pure (p_mv g0)) ?_
  have hq := bindP_inv hr
  clear hr
  obtain ⟨v15, m_1, e15, hr⟩ := hq
  refine wo_step (v := v15) (s_mk rfl rfl e15) ?_
  refine wo_step (v := v15) (s_pure (p_mv rfl)) ?_
  refine wo_nil ?_
  refine nx_norm ?_
  refine w_seq ?_
  refine w_seq ?_
  refine w_ops ?_
  refine wo_step (v := (.i .i64 0)) (s_pure (p_mv rfl)) ?_
  refine wo_nil ?_
  refine nx_norm ?_
  refine w_block ?_
  have hq := bindO_inv hr
  clear hr
  obtain ⟨o, hl_2, hr⟩ := hq
  obtain ⟨n_2, hl_2⟩ := hM.loop _ _ _ hl_2
  refine jp_mono (w_loop _ (g20_I0 x0 v1 x2 v15) (g20_J0 x0 v1 x2 v15) ?_ n_2 _ _ _ _ hl_2 ⟨rfl, gl rfl, gl g0, gl g1, gl g2, gl rfl⟩) ?_
  · clear hr hl_2
    intro s mm_8 t_1 o hi hr
    obtain ⟨x8, m_2⟩ := s
    obtain ⟨rfl, g8, g0, g1, g2, g7⟩ := hi
    unfold g20_b0 at hr
    refine w_seq ?_
    refine w_seq ?_
    refine w_ops ?_
    refine wo_step (v := (.i .i64 x8)) (s_pure (p_mv g8)) ?_
    refine wo_step (v := (.i .i64 x0)) (s_pure (p_mv g0)) ?_
    have hq := forceB_inv hr
    clear hr
    obtain ⟨c18, e18, hr⟩ := hq
    refine wo_step (v := (.b c18)) (s_pure (p_bin rfl rfl (b_lss.trans (cb e18)))) ?_
    refine wo_nil ?_
    refine nx_norm ?_
    have hq := cond_inv hr
    clear hr
    rcases hq with ⟨rfl, hr⟩ | ⟨rfl, hr⟩
    · refine w_condT rfl ?_
      refine w_skip ?_
      refine nx_norm ?_
      refine w_seq ?_
      refine w_block ?_
      refine w_ops ?_
      refine wo_step (v := v15) (s_pure (p_mv g7)) ?_
      refine wo_step (v := (.i .i64 x8)) (s_pure (p_mv g8)) ?_
      refine wo_step (v := (.i .i64 x8)) (s_pure (p_mv g8)) ?_
      have hq := bindO_inv hr
      clear hr
      obtain ⟨v24, e24, hr⟩ := hq
      refine wo_step (v := v24) (s_pure (o_ixS rfl rfl e24)) ?_
      have hq := bindP_inv hr
      clear hr
      obtain ⟨vn, m_3, en, hr⟩ := hq
      refine wo_stepN (s_st rfl rfl en) ?_
      refine wo_nil ?_
      refine bk_norm ?_
      refine nx_norm ?_
      refine w_ops ?_
      refine wo_step (v := (.i .i64 x8)) (s_pure (p_mv g8)) ?_
      have hq := forceI_inv hr
      clear hr
      obtain ⟨x20, e20, hr⟩ := hq
      refine wo_step (v := (.i .i64 x20)) (s_pure (p_bin rfl rfl (b_add.trans (ci e20)))) ?_
      refine wo_step (v := (.i .i64 x20)) (s_pure (p_mv rfl)) ?_
      refine wo_nil ?_
      cases hr
      exact ⟨_, _, rfl, rfl, rfl, gl rfl, gl g0, gl g1, gl g2, gl g7⟩
    · refine w_condF rfl ?_
      refine w_exit ?_
      refine nx_exit ?_
      cases hr
      exact ⟨_, _, rfl, ne_norm_exit, rfl, rfl, gl g0, gl g1, gl g2, gl g7⟩
  · obtain ⟨m_4, ho⟩ : ∃ z, z = o := ⟨_, rfl⟩
    subst ho
    rintro _ mm_7 t_2 ⟨rfl, rfl, g0, g1, g2, g7⟩
    refine bk_hit ?_
    refine nx_norm ?_
    refine w_seq ?_
    refine w_ops ?_
    refine wo_step (v := (.i .i64 x0)) (s_pure (p_mv g0)) ?_
    refine wo_step (v := (.i .i64 x0)) (s_pure (p_mv rfl)) ?_
    refine wo_nil ?_
    refine nx_norm ?_
    refine w_seq ?_
    refine w_seq ?_
    refine w_ops ?_
    refine wo_step (v := (.i .i64 0)) (s_pure (p_mv rfl)) ?_
    refine wo_nil ?_
    refine nx_norm ?_
    refine w_block ?_
    have hq := bindO_inv hr
    clear hr
    obtain ⟨o_5, hl_1, hr⟩ := hq
    obtain ⟨n_1, hl_1⟩ := hM.loop _ _ _ hl_1
    refine jp_mono (w_loop _ (g20_I1 x0 v1 x2 v15) (g20_J1 x0 v1 x2 v15) ?_ n_1 _ _ _ _ hl_1 ⟨rfl, gl rfl, gl rfl, gl g0, gl g1, gl g2, gl g7⟩) ?_
    · clear hr hl_1
      intro s mm_6 t_3 o hi hr
      obtain ⟨x9, x10, m_5⟩ := s
      obtain ⟨rfl, g9, g10, g0, g1, g2, g7⟩ := hi
      unfold g20_b1 at hr
      refine w_seq ?_
      refine w_seq ?_
      refine w_ops ?_
      refine wo_step (v := (.i .i64 x10)) (s_pure (p_mv g10)) ?_
      refine wo_step (v := v1) (s_pure (p_mv g1)) ?_
      have hq := bindO_inv hr
      clear hr
      obtain ⟨v28, e28, hr⟩ := hq
      have hq := asI_inv hr
      clear hr
      obtain ⟨x28, rfl, hr⟩ := hq
      refine wo_step (v := (.i .i64 x28)) (s_pure (o_len rfl e28)) ?_
      have hq := forceB_inv hr
      clear hr
      obtain ⟨c29, e29, hr⟩ := hq
      refine wo_step (v := (.b c29)) (s_pure (p_bin rfl rfl (b_lss.trans (cb e29)))) ?_
      refine wo_nil ?_
      refine nx_norm ?_
      have hq := cond_inv hr
      clear hr
      rcases hq with ⟨rfl, hr⟩ | ⟨rfl, hr⟩
      · refine w_condT rfl ?_
        refine w_skip ?_
        refine nx_norm ?_
        refine w_seq ?_
        have hq := bindO_inv hr
        clear hr
        obtain ⟨o_1, hr, hk⟩ := hq
        refine jp_mono (J := g20_J2 x0 v1 x2 v15 x10 o_1) ?_ ?_
        · clear hk
          refine w_block ?_
          refine w_seq ?_
          refine w_any ?_
          refine wa_step (v := v15) (a_pure (p_mv g7)) ?_
          refine wa_step (v := v1) (a_pure (p_mv g1)) ?_
          refine wa_step (v := (.i .i64 x10)) (a_pure (p_mv g10)) ?_
          have hq := bindO_inv hr
          clear hr
          obtain ⟨v35, e35, hr⟩ := hq
          refine wa_step (v := v35) (a_pure (o_ixS rfl rfl e35)) ?_
          have hq := bindO_inv hr
          clear hr
          obtain ⟨v36, e36, hr⟩ := hq
          refine wa_step (v := v36) (a_pure (o_faddr rfl e36)) ?_
          have hq := bindO_inv hr
          clear hr
          obtain ⟨v37, e37, hr⟩ := hq
          have hq := asI_inv hr
          clear hr
          obtain ⟨x37, rfl, hr⟩ := hq
          refine wa_step (v := (.i .i64 x37)) (a_ld rfl e37) ?_
          have hq := bindO_inv hr
          clear hr
          obtain ⟨v38, e38, hr⟩ := hq
          refine wa_step (v := v38) (a_pure (o_ixS rfl rfl e38)) ?_
          have hq := bindO_inv hr
          clear hr
          obtain ⟨v39, e39, hr⟩ := hq
          have hq := asI_inv hr
          clear hr
          obtain ⟨x39, rfl, hr⟩ := hq
          refine wa_step (v := (.i .i64 x39)) (a_ld rfl e39) ?_
          refine wa_step (v := v15) (a_pure (p_mv g7)) ?_
          refine wa_step (v := v1) (a_pure (p_mv g1)) ?_
          refine wa_step (v := (.i .i64 x10)) (a_pure (p_mv g10)) ?_
          have hq := bindO_inv hr
          clear hr
          obtain ⟨v43, e43, hr⟩ := hq
          refine wa_step (v := v43) (a_pure (o_ixS rfl rfl e43)) ?_
          have hq := bindO_inv hr
          clear hr
          obtain ⟨v44, e44, hr⟩ := hq
          refine wa_step (v := v44) (a_pure (o_faddr rfl e44)) ?_
          have hq := bindO_inv hr
          clear hr
          obtain ⟨v45, e45, hr⟩ := hq
          have hq := asI_inv hr
          clear hr
          obtain ⟨x45, rfl, hr⟩ := hq
          refine wa_step (v := (.i .i64 x45)) (a_ld rfl e45) ?_
          have hq := bindO_inv hr
          clear hr
          obtain ⟨v46, e46, hr⟩ := hq
          refine wa_step (v := v46) (a_pure (o_ixS rfl rfl e46)) ?_
          have hq := bindO_inv hr
          clear hr
          obtain ⟨v47, e47, hr⟩ := hq
          have hq := asI_inv hr
          clear hr
          obtain ⟨x47, rfl, hr⟩ := hq
          refine wa_step (v := (.i .i64 x47)) (a_ld rfl e47) ?_
          refine wa_step (v := (.i .i64 x39)) (a_pure (p_mv rfl)) ?_
          refine wa_step (v := (.i .i64 x47)) (a_pure (p_mv rfl)) ?_
          refine wa_nil ?_
          refine ⟨m_5, rfl, ?_⟩
          refine nx_norm ?_
          refine w_seq ?_
          refine w_seq ?_
          refine w_ops ?_
          refine wo_step (v := (.i .i64 x2)) (s_pure (p_mv g2)) ?_
          refine wo_step (v := (.i .i64 x10)) (s_pure (p_mv g10)) ?_
          have hq := chk_inv hr
          clear hr
          obtain ⟨hc50, hr⟩ := hq
          have hq := forceI_inv hr
          clear hr
          obtain ⟨x50, e50, hr⟩ := hq
          refine wo_step (v := (.i .i64 x50)) (s_pure (p_bin rfl rfl ((b_shr hc50).trans (ci e50)))) ?_
          have hq := forceI_inv hr
          clear hr
          obtain ⟨x51, e51, hr⟩ := hq
          refine wo_step (v := (.i .i64 x51)) (s_pure (p_bin rfl rfl ((b_rem rfl).trans (ci e51)))) ?_
          have hq := forceB_inv hr
          clear hr
          obtain ⟨c52, e52, hr⟩ := hq
          refine wo_step (v := (.b c52)) (s_pure (p_bin rfl rfl (b_eql.trans (cb e52)))) ?_
          refine wo_step (v := (.b c52)) (s_pure (p_mv rfl)) ?_
          have hq := bindO_inv hr
          clear hr
          obtain ⟨o_2, hr, hk⟩ := hq
          refine wo_join 4 (g20_J3 x0 v1 x2 v15 x9 x10 x39 x47 m_5 o_2) ?_ ?_
          · clear hk
            have hq := cond_inv hr
            clear hr
            rcases hq with ⟨rfl, hr⟩ | ⟨rfl, hr⟩
            · refine wo_skip (v := (.b true)) rfl rfl ?_
              refine wo_skip (v := (.b true)) rfl rfl ?_
              refine wo_skip (v := (.b true)) rfl rfl ?_
              refine wo_step (v := (.b true)) (s_pure (p_pickT rfl rfl)) ?_
              refine wo_nil ?_
              cases hr
              exact ⟨_, _, rfl, rfl, gl rfl, gl g0, gl g1, gl g2, gl g7, gl g9, gl g10, gl rfl, gl rfl⟩
            · refine wo_take (v := (.i .i64 x39)) rfl (s_pure (p_mv rfl)) ?_
              refine wo_take (v := (.i .i64 x47)) rfl (s_pure (p_mv rfl)) ?_
              have hq := forceB_inv hr
              clear hr
              obtain ⟨c56, e56, hr⟩ := hq
              refine wo_take (v := (.b c56)) rfl (s_pure (p_bin rfl rfl (b_eql.trans (cb e56)))) ?_
              refine wo_step (v := (.b c56)) (s_pure (p_pickF rfl rfl)) ?_
              refine wo_nil ?_
              cases hr
              exact ⟨_, _, rfl, rfl, gl rfl, gl g0, gl g1, gl g2, gl g7, gl g9, gl g10, gl rfl, gl rfl⟩
          · clear hr
            have hr := hk
            clear hk
            obtain ⟨c57, ho⟩ : ∃ z, z = o_2 := ⟨_, rfl⟩
            subst ho
            rintro mm t_4 ⟨rfl, g57, g0, g1, g2, g7, g9, g10, g11, g12⟩
            refine wo_nil ?_
            refine nx_norm ?_
            have hq := cond_inv hr
            clear hr
            rcases hq with ⟨rfl, hr⟩ | ⟨rfl, hr⟩
            · refine w_condT g57 ?_
              refine w_exit ?_
              refine nx_exit ?_
              refine bk_hit ?_
              cases hr
              exact ⟨_, _, rfl, rfl, rfl, gl g9, gl g0, gl g1, gl g2, gl g7, gl g10⟩
            · refine w_condF g57 ?_
              refine w_skip ?_
              refine nx_norm ?_
              refine w_seq ?_
              refine w_ops ?_
              refine wo_step (v := (.i .i64 x9)) (s_pure (p_mv g9)) ?_
              have hq := forceI_inv hr
              clear hr
              obtain ⟨x59, e59, hr⟩ := hq
              refine wo_step (v := (.i .i64 x59)) (s_pure (p_bin rfl rfl (b_sub.trans (ci e59)))) ?_
              refine wo_step (v := (.i .i64 x59)) (s_pure (p_mv rfl)) ?_
              refine wo_nil ?_
              refine nx_norm ?_
              refine w_seq ?_
              refine w_ops ?_
              refine wo_step (v := (.i .i64 0)) (s_pure (p_mv rfl)) ?_
              refine wo_nil ?_
              refine nx_norm ?_
              refine w_block ?_
              have hq := bindO_inv hr
              clear hr
              obtain ⟨o_4, hl, hr⟩ := hq
              obtain ⟨n, hl⟩ := hM.loop _ _ _ hl
              refine jp_mono (w_loop _ (g20_I4 x0 v1 x2 v15 x59 x10 x39 x47) (g20_J4 x0 v1 x2 v15 x59 x10 x39 x47) ?_ n _ _ _ _ hl ⟨rfl, gl rfl, gl g0, gl g1, gl g2, gl g7, gl rfl, gl g10, gl g11, gl g12⟩) ?_
              · clear hr hl
                intro s mm_3 t_5 o hi hr
                obtain ⟨x13, m_6⟩ := s
                obtain ⟨rfl, g13, g0, g1, g2, g7, g9, g10, g11, g12⟩ := hi
                unfold g20_b4 at hr
                refine w_seq ?_
                refine w_seq ?_
                refine w_ops ?_
                refine wo_step (v := (.i .i64 x13)) (s_pure (p_mv g13)) ?_
                refine wo_step (v := (.i .i64 x0)) (s_pure (p_mv g0)) ?_
                have hq := forceB_inv hr
                clear hr
                obtain ⟨c62, e62, hr⟩ := hq
                refine wo_step (v := (.b c62)) (s_pure (p_bin rfl rfl (b_lss.trans (cb e62)))) ?_
                refine wo_nil ?_
                refine nx_norm ?_
                have hq := cond_inv hr
                clear hr
                rcases hq with ⟨rfl, hr⟩ | ⟨rfl, hr⟩
                · refine w_condT rfl ?_
                  refine w_skip ?_
                  refine nx_norm ?_
                  refine w_seq ?_
                  refine w_block ?_
                  refine w_seq ?_
                  refine w_ops ?_
                  refine wo_step (v := v15) (s_pure (p_mv g7)) ?_
                  refine wo_step (v := (.i .i64 x13)) (s_pure (p_mv g13)) ?_
                  have hq := bindO_inv hr
                  clear hr
                  obtain ⟨v67, e67, hr⟩ := hq
                  refine wo_step (v := v67) (s_pure (o_ixS rfl rfl e67)) ?_
                  have hq := bindO_inv hr
                  clear hr
                  obtain ⟨v68, e68, hr⟩ := hq
                  have hq := asI_inv hr
                  clear hr
                  obtain ⟨x68, rfl, hr⟩ := hq
                  refine wo_step (v := (.i .i64 x68)) (s_ld rfl e68) ?_
                  refine wo_step (v := (.i .i64 x39)) (s_pure (p_mv g11)) ?_
                  have hq := forceB_inv hr
                  clear hr
                  obtain ⟨c70, e70, hr⟩ := hq
                  refine wo_step (v := (.b c70)) (s_pure (p_bin rfl rfl (b_eql.trans (cb e70)))) ?_
                  refine wo_nil ?_
                  refine nx_norm ?_
                  have hq := bindO_inv hr
                  clear hr
                  obtain ⟨o_3, hr, hk⟩ := hq
                  refine jp_mono (J := g20_J5 x0 v1 x2 v15 x59 x10 x39 x47 x13 o_3) ?_ ?_
                  · clear hk
                    have hq := cond_inv hr
                    clear hr
                    rcases hq with ⟨rfl, hr⟩ | ⟨rfl, hr⟩
                    · refine w_condT rfl ?_
                      refine w_ops ?_
                      refine wo_step (v := v15) (s_pure (p_mv g7)) ?_
                      refine wo_step (v := (.i .i64 x13)) (s_pure (p_mv g13)) ?_
                      refine wo_step (v := (.i .i64 x47)) (s_pure (p_mv g12)) ?_
                      have hq := bindO_inv hr
                      clear hr
                      obtain ⟨v74, e74, hr⟩ := hq
                      refine wo_step (v := v74) (s_pure (o_ixS rfl rfl e74)) ?_
                      have hq := bindP_inv hr
                      clear hr
                      obtain ⟨vn_1, m_7, en_1, hr⟩ := hq
                      refine wo_stepN (s_st rfl rfl en_1) ?_
                      refine wo_nil ?_
                      cases hr
                      exact ⟨_, _, rfl, rfl, rfl, gl g0, gl g1, gl g2, gl g7, gl g9, gl g10, gl g11, gl g12, gl g13⟩
                    · refine w_condF rfl ?_
                      refine w_skip ?_
                      cases hr
                      exact ⟨_, _, rfl, rfl, rfl, gl g0, gl g1, gl g2, gl g7, gl g9, gl g10, gl g11, gl g12, gl g13⟩
                  · clear hr
                    have hr := hk
                    clear hk
                    obtain ⟨m_8, ho⟩ : ∃ z, z = o_3 := ⟨_, rfl⟩
                    subst ho
                    rintro _ mm_1 t_6 ⟨rfl, rfl, g0, g1, g2, g7, g9, g10, g11, g12, g13⟩
                    refine bk_norm ?_
                    refine nx_norm ?_
                    refine w_ops ?_
                    refine wo_step (v := (.i .i64 x13)) (s_pure (p_mv g13)) ?_
                    have hq := forceI_inv hr
                    clear hr
                    obtain ⟨x64, e64, hr⟩ := hq
                    refine wo_step (v := (.i .i64 x64)) (s_pure (p_bin rfl rfl (b_add.trans (ci e64)))) ?_
                    refine wo_step (v := (.i .i64 x64)) (s_pure (p_mv rfl)) ?_
                    refine wo_nil ?_
                    cases hr
                    exact ⟨_, _, rfl, rfl, rfl, gl rfl, gl g0, gl g1, gl g2, gl g7, gl g9, gl g10, gl g11, gl g12⟩
                · refine w_condF rfl ?_
                  refine w_exit ?_
                  refine nx_exit ?_
                  cases hr
                  exact ⟨_, _, rfl, ne_norm_exit, rfl, rfl, gl g0, gl g1, gl g2, gl g7, gl g9, gl g10⟩
              · obtain ⟨m_9, ho⟩ : ∃ z, z = o_4 := ⟨_, rfl⟩
                subst ho
                rintro _ mm_2 t_7 ⟨rfl, rfl, g0, g1, g2, g7, g9, g10⟩
                refine bk_hit ?_
                refine bk_norm ?_
                cases hr
                exact ⟨_, _, rfl, rfl, rfl, gl g9, gl g0, gl g1, gl g2, gl g7, gl g10⟩
        · clear hr
          have hr := hk
          clear hk
          obtain ⟨x9_1, m_10⟩ := o_1
          rintro _ mm_4 t_8 ⟨rfl, rfl, g9, g0, g1, g2, g7, g10⟩
          refine nx_norm ?_
          refine w_ops ?_
          refine wo_step (v := (.i .i64 x10)) (s_pure (p_mv g10)) ?_
          have hq := forceI_inv hr
          clear hr
          obtain ⟨x31, e31, hr⟩ := hq
          refine wo_step (v := (.i .i64 x31)) (s_pure (p_bin rfl rfl (b_add.trans (ci e31)))) ?_
          refine wo_step (v := (.i .i64 x31)) (s_pure (p_mv rfl)) ?_
          refine wo_nil ?_
          cases hr
          exact ⟨_, _, rfl, rfl, rfl, gl g9, gl rfl, gl g0, gl g1, gl g2, gl g7⟩
      · refine w_condF rfl ?_
        refine w_exit ?_
        refine nx_exit ?_
        cases hr
        exact ⟨_, _, rfl, ne_norm_exit, rfl, rfl, gl g9⟩
    · obtain ⟨x9_2, m_11⟩ := o_5
      rintro _ mm_5 t_9 ⟨rfl, rfl, g9⟩
      refine bk_hit ?_
      refine nx_norm ?_
      refine w_seq ?_
      refine w_ops ?_
      refine wo_step (v := (.i .i64 x9_2)) (s_pure (p_mv g9)) ?_
      refine wo_step (v := (.i .i64 x9_2)) (s_pure (p_mv rfl)) ?_
      refine wo_nil ?_
      refine nx_norm ?_
      refine w_ret ?_
      exact qf ret_ok (rt rfl rn) hr

/- (dibber/fence.garden).joins -/
abbrev g21_I0 (v7 : AVal) (m_2 : Mm) (s : Int × Int) (m1 : Mm) (t1 : Tr) : Prop :=
  match s with
  | (x3, x8) => m_2 = m1 ∧ t1.get 3 = (.i .i64 x3) ∧ t1.get 8 = (.i .i64 x8) ∧ t1.get 7 = v7
abbrev g21_J0 (v7 : AVal) (m_2 : Mm) (o : Int) (e : AExit) (m1 : Mm) (t1 : Tr) : Prop :=
  match o with
  | y3 => e = (.exit 0) ∧ m_2 = m1 ∧ t1.get 3 = (.i .i64 y3)
abbrev g21_J1 (v7 : AVal) (x8 : Int) (m_2 : Mm) (o : Int) (e : AExit) (m1 : Mm) (t1 : Tr) : Prop :=
  match o with
  | y3 => e = .norm ∧ m_2 = m1 ∧ t1.get 3 = (.i .i64 y3) ∧ t1.get 7 = v7 ∧ t1.get 8 = (.i .i64 x8)
def g21_b0 (M : Means) (ro : List ABlk) (v7 : AVal) (m_2 : Mm) (x3 : Int) (x8 : Int) : Option ((Int × Int) ⊕ (Int)) :=
  forceB (ltI x8 8) fun c9 =>
  cond c9 (
    bindO (evP .e (.ixV 8 1 true (.c v7) (.c (.i .i64 x8)))) fun v11 =>
    asI .i64 v11 fun x11 =>
    forceB (!eqI x11 x8) fun c14 =>
    bindO (α := Int) (
      cond c14 (
        forceI (wr .i64 (x3 + 1)) fun x16 =>
        some x16) (
        some x3)) fun x3_1 =>
    forceI (wr .i64 (x8 + 1)) fun x17 =>
    some (.inl (x3_1, x17))) (
    some (.inr x3))
def g21 (M : Means) (ro : List ABlk) (v0 : AVal) (m0 : Mm) : Option (AVal × Heap × Nat × Nat) :=
  bindP (stepM ro m0 (.bx 49 29 (.c v0))) fun v1 m_1 =>
  bindO (ldM ro m_1 false 29 v1) fun v6 =>
  bindP (callM M.call m_1 30 [v6]) fun v7 m_2 =>
  bindO (M.loop (S := Int × Int) (R := Int) (fun s => g21_b0 M ro v7 m_2 s.1 s.2) (0, 0)) fun x3_2 =>
  finM m0.h.length (tupA [(.i .i64 x3_2)]) m_2

theorem g21_ok {ro : List ABlk} {O : Caller} {M : Means} (hM : M.Ok ⟨F, O⟩ ro) {v0 h r} (ho : O 21 [v0] h = none) (hr : g21 M ro v0 ⟨h, h.length, h.length⟩ = some r) : callX ⟨F, O⟩ ro 21 [v0] h = some r := by
  refine callX_of (F := ⟨F, O⟩) (fn := fn21) (g := g21 M ro v0) ho rfl rfl hr ?_
  clear ho
  clear hr
  intro m0 t0 ht hr
  have g0 : t0.get 0 = v0 := ht 0
  clear ht
  unfold g21 at hr
  refine w_seq ?_
  refine w_ops ?_
  have hq := bindP_inv hr
  clear hr
  obtain ⟨v1, m_1, e1, hr⟩ := hq
  refine wo_step (v := v1) (s_bx g0 e1) ?_
  refine wo_step (v := (.i .i64 0)) (s_pure (p_mv rfl)) ?_
  refine wo_nil ?_
  refine nx_norm ?_
  refine w_seq ?_
  refine w_ops ?_
  refine wo_step (v := (.i .i64 0)) (s_pure (p_mv rfl)) ?_
  refine wo_nil ?_
  refine nx_norm ?_
  refine w_seq ?_
  refine w_seq ?_
  refine w_ops ?_
  have hq := bindO_inv hr
  clear hr
  obtain ⟨v6, e6, hr⟩ := hq
  refine wo_step (v := v6) (s_ld rfl e6) ?_
  have hq := bindP_inv hr
  clear hr
  obtain ⟨v7, m_2, e7, hr⟩ := hq
  refine wo_step (v := v7) (s_call (mc rfl mn) (callM_le hM.call e7)) ?_
  refine wo_step (v := (.i .i64 0)) (s_pure (p_mv rfl)) ?_
  refine wo_nil ?_
  refine nx_norm ?_
  refine w_block ?_
  have hq := bindO_inv hr
  clear hr
  obtain ⟨o_1, hl, hr⟩ := hq
  obtain ⟨n, hl⟩ := hM.loop _ _ _ hl
  refine jp_mono (w_loop _ (g21_I0 v7 m_2) (g21_J0 v7 m_2) ?_ n _ _ _ _ hl ⟨rfl, gl rfl, gl rfl, gl rfl⟩) ?_
  · clear hr hl
    intro s mm_2 t_1 o hi hr
    obtain ⟨x3, x8⟩ := s
    obtain ⟨rfl, g3, g8, g7⟩ := hi
    unfold g21_b0 at hr
    refine w_seq ?_
    refine w_ops ?_
    have hq := forceB_inv hr
    clear hr
    obtain ⟨c9, e9, hr⟩ := hq
    refine wo_step (v := (.b c9)) (s_pure (p_bin g8 rfl (b_lss.trans (cb e9)))) ?_
    refine wo_nil ?_
    refine nx_norm ?_
    refine w_seq ?_
    have hq := cond_inv hr
    clear hr
    rcases hq with ⟨rfl, hr⟩ | ⟨rfl, hr⟩
    · refine w_condT rfl ?_
      refine w_skip ?_
      refine nx_norm ?_
      refine w_seq ?_
      refine w_block ?_
      refine w_seq ?_
      refine w_ops ?_
      refine wo_step (v := (.i .i64 x8)) (s_pure (p_mv g8)) ?_
      have hq := bindO_inv hr
      clear hr
      obtain ⟨v11, e11, hr⟩ := hq
      have hq := asI_inv hr
      clear hr
      obtain ⟨x11, rfl, hr⟩ := hq
      refine wo_step (v := (.i .i64 x11)) (s_pure (o_ixV g7 g8 e11)) ?_
      refine wo_step (v := (.i .i64 x8)) (s_pure (p_mv rfl)) ?_
      refine wo_step (v := (.i .i64 x11)) (s_pure (p_mv rfl)) ?_
      refine wo_nil ?_
      refine nx_norm ?_
      refine w_seq ?_
      refine w_ops ?_
      refine wo_step (v := (.i .i64 x11)) (s_pure (p_mv rfl)) ?_
      refine wo_step (v := (.i .i64 x8)) (s_pure (p_mv rfl)) ?_
      have hq := forceB_inv hr
      clear hr
      obtain ⟨c14, e14, hr⟩ := hq
      refine wo_step (v := (.b c14)) (s_pure (p_bin rfl rfl (b_neq.trans (cb e14)))) ?_
      refine wo_nil ?_
      refine nx_norm ?_
      have hq := bindO_inv hr
      clear hr
      obtain ⟨o, hr, hk⟩ := hq
      refine jp_mono (J := g21_J1 v7 x8 m_2 o) ?_ ?_
      · clear hk
        have hq := cond_inv hr
        clear hr
        rcases hq with ⟨rfl, hr⟩ | ⟨rfl, hr⟩
        · refine w_condT rfl ?_
          refine w_ops ?_
          refine wo_step (v := (.i .i64 x3)) (s_pure (p_mv g3)) ?_
          have hq := forceI_inv hr
          clear hr
          obtain ⟨x16, e16, hr⟩ := hq
          refine wo_step (v := (.i .i64 x16)) (s_pure (p_bin rfl rfl (b_add.trans (ci e16)))) ?_
          refine wo_step (v := (.i .i64 x16)) (s_pure (p_mv rfl)) ?_
          refine wo_nil ?_
          cases hr
          exact ⟨_, _, rfl, rfl, rfl, gl rfl, gl g7, gl g8⟩
        · refine w_condF rfl ?_
          refine w_skip ?_
          cases hr
          exact ⟨_, _, rfl, rfl, rfl, gl g3, gl g7, gl g8⟩
      · clear hr
        have hr := hk
        clear hk
        obtain ⟨x3_1, ho⟩ : ∃ z, z = o := ⟨_, rfl⟩
        subst ho
        rintro _ mm t_2 ⟨rfl, rfl, g3, g7, g8⟩
        refine bk_norm ?_
        refine nx_norm ?_
        refine w_ops ?_
        have hq := forceI_inv hr
        clear hr
        obtain ⟨x17, e17, hr⟩ := hq
        refine wo_step (v := (.i .i64 x17)) (s_pure (p_bin g8 rfl (b_add.trans (ci e17)))) ?_
        refine wo_step (v := (.i .i64 x17)) (s_pure (p_mv rfl)) ?_
        refine wo_nil ?_
        cases hr
        exact ⟨_, _, rfl, rfl, rfl, gl g3, gl rfl, gl g7⟩
    · refine w_condF rfl ?_
      refine w_exit ?_
      refine nx_exit ?_
      cases hr
      exact ⟨_, _, rfl, ne_norm_exit, rfl, rfl, gl g3⟩
  · obtain ⟨x3_2, ho⟩ : ∃ z, z = o_1 := ⟨_, rfl⟩
    subst ho
    rintro _ mm_1 t_3 ⟨rfl, rfl, g3⟩
    refine bk_hit ?_
    refine nx_norm ?_
    refine w_seq ?_
    refine w_ops ?_
    refine wo_step (v := (.i .i64 x3_2)) (s_pure (p_mv g3)) ?_
    refine wo_step (v := (.i .i64 x3_2)) (s_pure (p_mv rfl)) ?_
    refine wo_nil ?_
    refine nx_norm ?_
    refine w_ret ?_
    exact qf ret_ok (rt rfl rn) hr

/- (dibber/fence.garden).takenAway -/

def g29 (M : Means) (ro : List ABlk) (v0 : AVal) (x1 : Int) (m0 : Mm) : Option (AVal × Heap × Nat × Nat) :=
  bindP (stepM ro m0 (.bx 49 29 (.c v0))) fun v2 m_1 =>
  bindP (stepM ro m_1 (.al 49 [(AVal.i IntKind.i64 0), (AVal.i IntKind.i64 0), (AVal.i IntKind.i64 0), (AVal.i IntKind.i64 0), (AVal.i IntKind.i64 0), (AVal.i IntKind.i64 0), (AVal.i IntKind.i64 0), (AVal.i IntKind.i64 0), (AVal.i IntKind.i64 0), (AVal.i IntKind.i64 0), (AVal.i IntKind.i64 0), (AVal.i IntKind.i64 0), (AVal.i IntKind.i64 0), (AVal.i IntKind.i64 0), (AVal.i IntKind.i64 0), (AVal.i IntKind.i64 0), (AVal.i IntKind.i64 0), (AVal.i IntKind.i64 0), (AVal.i IntKind.i64 0), (AVal.i IntKind.i64 0), (AVal.i IntKind.i64 0), (AVal.i IntKind.i64 0), (AVal.i IntKind.i64 0), (AVal.i IntKind.i64 0), (AVal.i IntKind.i64 0), (AVal.i IntKind.i64 0), (AVal.i IntKind.i64 0), (AVal.i IntKind.i64 0), (AVal.i IntKind.i64 0)])) fun v4 m_2 =>
  bindO (evP .e (.faddr 1 (.c v2))) fun v5 =>
  bindO (evP .e (.slA 14 2 (.c v5) (some (.c (.i .i64 x1))) none)) fun v7 =>
  bindO (evP .e (.faddr 1 (.c v2))) fun v8 =>
  forceI (wr .i64 (x1 + 1)) fun x10 =>
  bindO (evP .e (.slA 14 2 (.c v8) (some (.c (.i .i64 x10))) none)) fun v11 =>
  bindP (stepM ro m_2 (.cpy 2 (.c v7) (.c v11))) fun v12 m_3 =>
  asI .i64 v12 fun x12 =>
  bindO (evP .e (.faddr 0 (.c v2))) fun v13 =>
  bindO (ldM ro m_3 true 1 v13) fun v14 =>
  asI .i64 v14 fun x14 =>
  forceI (wr .i64 (x14 - 1)) fun x15 =>
  bindO (evP .e (.faddr 0 (.c v2))) fun v16 =>
  bindP (stepM ro m_3 (.st 1 (.c v16) (.c (.i .i64 x15)))) fun vn m_4 =>
  bindO (evP .e (.faddr 0 (.c v2))) fun v17 =>
  bindO (ldM ro m_4 true 1 v17) fun v18 =>
  asI .i64 v18 fun x18 =>
  bindO ((fillA [(AVal.i IntKind.i64 0), (AVal.i IntKind.i64 0)] []).map AVal.agg) fun v19 =>
  bindO (evP .e (.faddr 1 (.c v2))) fun v20 =>
  bindO (evP .e (.ixA 14 2 (.c v20) (.c (.i .i64 x18)))) fun v21 =>
  bindP (stepM ro m_4 (.st 2 (.c v21) (.c v19))) fun vn_1 m_5 =>
  bindO (ldM ro m_5 false 29 v2) fun v22 =>
  bindP (stepM ro m_5 (.st 29 (.c v4) (.c v22))) fun vn_2 m_6 =>
  bindO (ldM ro m_6 false 29 v4) fun vr =>
  finM m0.h.length (tupA [vr]) m_6

theorem g29_ok {ro : List ABlk} {O : Caller} {M : Means} (hM : M.Ok ⟨F, O⟩ ro) {v0 x1 h r} (ho : O 29 [v0, (.i .i64 x1)] h = none) (hr : g29 M ro v0 x1 ⟨h, h.length, h.length⟩ = some r) : callX ⟨F, O⟩ ro 29 [v0, (.i .i64 x1)] h = some r := by
  refine callX_of (F := ⟨F, O⟩) (fn := fn29) (g := g29 M ro v0 x1) ho rfl rfl hr ?_
  clear ho
  clear hr
  intro m0 t0 ht hr
  have g0 : t0.get 0 = v0 := ht 0
  have g1 : t0.get 1 = (.i .i64 x1) := ht 1
  clear ht
  unfold g29 at hr
  refine w_seq ?_
  refine w_ops ?_
  have hq := bindP_inv hr
  clear hr
  obtain ⟨v2, m_1, e2, hr⟩ := hq
  refine wo_step (v := v2) (s_bx g0 e2) ?_
  have hq := bindP_inv hr
  clear hr
  obtain ⟨v4, m_2, e4, hr⟩ := hq
  refine wo_step (v := v4) (s_al e4) ?_
  refine wo_nil ?_
  refine nx_norm ?_
  refine w_seq ?_
  refine w_ops ?_
  have hq := bindO_inv hr
  clear hr
  obtain ⟨v5, e5, hr⟩ := hq
  refine wo_step (v := v5) (s_pure (o_faddr rfl e5)) ?_
  refine wo_step (v := (.i .i64 x1)) (s_pure (p_mv g1)) ?_
  have hq := bindO_inv hr
  clear hr
  obtain ⟨v7, e7, hr⟩ := hq
  refine wo_step (v := v7) (s_pure (o_slA rfl (os rfl) on e7)) ?_
  have hq := bindO_inv hr
  clear hr
  obtain ⟨v8, e8, hr⟩ := hq
  refine wo_step (v := v8) (s_pure (o_faddr rfl e8)) ?_
  refine wo_step (v := (.i .i64 x1)) (s_pure (p_mv g1)) ?_
  have hq := forceI_inv hr
  clear hr
  obtain ⟨x10, e10, hr⟩ := hq
  refine wo_step (v := (.i .i64 x10)) (s_pure (p_bin rfl rfl (b_add.trans (ci e10)))) ?_
  have hq := bindO_inv hr
  clear hr
  obtain ⟨v11, e11, hr⟩ := hq
  refine wo_step (v := v11) (s_pure (o_slA rfl (os rfl) on e11)) ?_
  have hq := bindP_inv hr
  clear hr
  obtain ⟨v12, m_3, e12, hr⟩ := hq
  have hq := asI_inv hr
  clear hr
  obtain ⟨x12, rfl, hr⟩ := hq
  refine wo_step (v := (.i .i64 x12)) (s_cpy rfl rfl e12) ?_
  refine wo_nil ?_
  refine nx_norm ?_
  refine w_seq ?_
  refine w_ops ?_
  have hq := bindO_inv hr
  clear hr
  obtain ⟨v13, e13, hr⟩ := hq
  refine wo_step (v := v13) (s_pure (o_faddr rfl e13)) ?_
  have hq := bindO_inv hr
  clear hr
  obtain ⟨v14, e14, hr⟩ := hq
  have hq := asI_inv hr
  clear hr
  obtain ⟨x14, rfl, hr⟩ := hq
  refine wo_step (v := (.i .i64 x14)) (s_ld rfl e14) ?_
  have hq := forceI_inv hr
  clear hr
  obtain ⟨x15, e15, hr⟩ := hq
  refine wo_step (v := (.i .i64 x15)) (s_pure (p_bin rfl rfl (b_sub.trans (ci e15)))) ?_
  have hq := bindO_inv hr
  clear hr
  obtain ⟨v16, e16, hr⟩ := hq
  refine wo_step (v := v16) (s_pure (o_faddr rfl e16)) ?_
  have hq := bindP_inv hr
  clear hr
  obtain ⟨vn, m_4, en, hr⟩ := hq
  refine wo_stepN (s_st rfl rfl en) ?_
  refine wo_nil ?_
  refine nx_norm ?_
  refine w_seq ?_
  refine w_ops ?_
  have hq := bindO_inv hr
  clear hr
  obtain ⟨v17, e17, hr⟩ := hq
  refine wo_step (v := v17) (s_pure (o_faddr rfl e17)) ?_
  have hq := bindO_inv hr
  clear hr
  obtain ⟨v18, e18, hr⟩ := hq
  have hq := asI_inv hr
  clear hr
  obtain ⟨x18, rfl, hr⟩ := hq
  refine wo_step (v := (.i .i64 x18)) (s_ld rfl e18) ?_
  have hq := bindO_inv hr
  clear hr
  obtain ⟨v19, e19, hr⟩ := hq
  refine wo_step (v := v19) (s_pure (o_build qn e19)) ?_
  have hq := bindO_inv hr
  clear hr
  obtain ⟨v20, e20, hr⟩ := hq
  refine wo_step (v := v20) (s_pure (o_faddr rfl e20)) ?_
  have hq := bindO_inv hr
  clear hr
  obtain ⟨v21, e21, hr⟩ := hq
  refine wo_step (v := v21) (s_pure (o_ixA rfl rfl e21)) ?_
  have hq := bindP_inv hr
  clear hr
  obtain ⟨vn_1, m_5, en_1, hr⟩ := hq
  refine wo_stepN (s_st rfl rfl en_1) ?_
  refine wo_nil ?_
  refine nx_norm ?_
  refine w_seq ?_
  refine w_ops ?_
  have hq := bindO_inv hr
  clear hr
  obtain ⟨v22, e22, hr⟩ := hq
  refine wo_step (v := v22) (s_ld rfl e22) ?_
  have hq := bindP_inv hr
  clear hr
  obtain ⟨vn_2, m_6, en_2, hr⟩ := hq
  refine wo_stepN (s_st rfl rfl en_2) ?_
  refine wo_nil ?_
  refine nx_norm ?_
  refine w_ret ?_
  have hq := bindO_inv hr
  clear hr
  obtain ⟨vr, er, hr⟩ := hq
  exact qf ret_ok (rc rfl er rn) hr

/- (dibber/fence.garden).groups -/
abbrev g30_I0 (v1 : AVal) (v2 : AVal) (v3 : AVal) (s : Int × Mm) (m1 : Mm) (t1 : Tr) : Prop :=
  match s with
  | (x11, m_4) => m_4 = m1 ∧ t1.get 11 = (.i .i64 x11) ∧ t1.get 1 = v1 ∧ t1.get 2 = v2 ∧ t1.get 3 = v3
abbrev g30_J0 (v1 : AVal) (v2 : AVal) (v3 : AVal) (o : Mm) (e : AExit) (m1 : Mm) (t1 : Tr) : Prop :=
  match o with
  | mo => e = (.exit 0) ∧ mo = m1 ∧ t1.get 1 = v1 ∧ t1.get 2 = v2 ∧ t1.get 3 = v3
def g30_b0 (M : Means) (ro : List ABlk) (v1 : AVal) (v2 : AVal) (v3 : AVal) (x11 : Int) (m_4 : Mm) : Option ((Int × Mm) ⊕ (Mm)) :=
  forceB (ltI x11 8) fun c12 =>
  cond c12 (
    bindO (evP .e (.ixA 8 1 (.c v3) (.c (.i .i64 x11)))) fun v16 =>
    bindP (stepM ro m_4 (.st 1 (.c v16) (.c (.i .i64 x11)))) fun vn m_5 =>
    forceI (wr .i64 (x11 + 1)) fun x17 =>
    some (.inl (x17, m_5))) (
    some (.inr m_4))
abbrev g30_I1 (v2 : AVal) (v3 : AVal) (v21 : AVal) (x22 : Int) (s : Int × Mm) (m1 : Mm) (t1 : Tr) : Prop :=
  match s with
  | (x23, m_7) => m_7 = m1 ∧ t1.get 23 = (.i .i64 x23) ∧ t1.get 2 = v2 ∧ t1.get 3 = v3 ∧ t1.get 21 = v21 ∧ t1.get 22 = (.i .i64 x22)
abbrev g30_J1 (v2 : AVal) (v3 : AVal) (v21 : AVal) (x22 : Int) (o : Mm) (e : AExit) (m1 : Mm) (t1 : Tr) : Prop :=
  match o with
  | mo => e = (.exit 2) ∧ mo = m1 ∧ t1.get 2 = v2 ∧ t1.get 3 = v3
abbrev g30_I2 (v2 : AVal) (v3 : AVal) (x30 : Int) (x34 : Int) (v21 : AVal) (x22 : Int) (x23 : Int) (v35 : AVal) (s : Int × Mm) (m1 : Mm) (t1 : Tr) : Prop :=
  match s with
  | (x36, m_10) => m_10 = m1 ∧ t1.get 36 = (.i .i64 x36) ∧ t1.get 2 = v2 ∧ t1.get 3 = v3 ∧ t1.get 7 = (.i .i64 x30) ∧ t1.get 8 = (.i .i64 x34) ∧ t1.get 21 = v21 ∧ t1.get 22 = (.i .i64 x22) ∧ t1.get 23 = (.i .i64 x23) ∧ t1.get 35 = v35
abbrev g30_J2 (v2 : AVal) (v3 : AVal) (x30 : Int) (x34 : Int) (v21 : AVal) (x22 : Int) (x23 : Int) (v35 : AVal) (o : Mm) (e : AExit) (m1 : Mm) (t1 : Tr) : Prop :=
  match o with
  | mo => e = (.exit 4) ∧ mo = m1 ∧ t1.get 2 = v2 ∧ t1.get 3 = v3 ∧ t1.get 21 = v21 ∧ t1.get 22 = (.i .i64 x22) ∧ t1.get 23 = (.i .i64 x23)
abbrev g30_J3 (v2 : AVal) (v3 : AVal) (x30 : Int) (x34 : Int) (v21 : AVal) (x22 : Int) (x23 : Int) (v35 : AVal) (x36 : Int) (o : Mm) (e : AExit) (m1 : Mm) (t1 : Tr) : Prop :=
  match o with
  | mo => e = .norm ∧ mo = m1 ∧ t1.get 2 = v2 ∧ t1.get 3 = v3 ∧ t1.get 7 = (.i .i64 x30) ∧ t1.get 8 = (.i .i64 x34) ∧ t1.get 21 = v21 ∧ t1.get 22 = (.i .i64 x22) ∧ t1.get 23 = (.i .i64 x23) ∧ t1.get 35 = v35 ∧ t1.get 36 = (.i .i64 x36)
def g30_b2 (M : Means) (ro : List ABlk) (v2 : AVal) (v3 : AVal) (x30 : Int) (x34 : Int) (v21 : AVal) (x22 : Int) (x23 : Int) (v35 : AVal) (x36 : Int) (m_10 : Mm) : Option ((Int × Mm) ⊕ (Mm)) :=
  forceB (ltI x36 8) fun c37 =>
  cond c37 (
    bindO (evP .e (.ixV 8 1 true (.c v35) (.c (.i .i64 x36)))) fun v39 =>
    asI .i64 v39 fun x39 =>
    forceB (eqI x39 x34) fun c42 =>
    bindO (α := Mm) (
      cond c42 (
        bindO (evP .e (.ixA 8 1 (.c v3) (.c (.i .i64 x36)))) fun v45 =>
        bindP (stepM ro m_10 (.st 1 (.c v45) (.c (.i .i64 x30)))) fun vn_2 m_11 =>
        some m_11) (
        some m_10)) fun m_12 =>
    forceI (wr .i64 (x36 + 1)) fun x46 =>
    some (.inl (x46, m_12))) (
    some (.inr m_10))
def g30_b1 (M : Means) (ro : List ABlk) (v2 : AVal) (v3 : AVal) (v21 : AVal) (x22 : Int) (x23 : Int) (m_7 : Mm) : Option ((Int × Mm) ⊕ (Mm)) :=
  forceB (ltI x23 x22) fun c24 =>
  cond c24 (
    bindO (evP .e (.ixS 2 (.c v21) (.c (.i .i64 x23)))) fun v25 =>
    bindO (ldM ro m_7 false 2 v25) fun v26 =>
    bindP (stepM ro m_7 (.al 45 [(AVal.i IntKind.i64 0), (AVal.i IntKind.i64 0)])) fun v6 m_8 =>
    bindP (stepM ro m_8 (.st 2 (.c v6) (.c v26))) fun vn_1 m_9 =>
    bindO (evP .e (.faddr 0 (.c v6))) fun v27 =>
    bindO (ldA ro m_9.h true 1 v27) fun v28 =>
    asI .i64 v28 fun x28 =>
    bindO (evP .e (.ixA 8 1 (.c v3) (.c (.i .i64 x28)))) fun v29 =>
    bindO (ldA ro m_9.h true 1 v29) fun v30 =>
    asI .i64 v30 fun x30 =>
    bindO (evP .e (.faddr 1 (.c v6))) fun v31 =>
    bindO (ldA ro m_9.h true 1 v31) fun v32 =>
    asI .i64 v32 fun x32 =>
    bindO (evP .e (.ixA 8 1 (.c v3) (.c (.i .i64 x32)))) fun v33 =>
    bindO (ldA ro m_9.h true 1 v33) fun v34 =>
    asI .i64 v34 fun x34 =>
    bindO (ldM ro m_9 false 8 v3) fun v35 =>
    bindO (M.loop (S := Int × Mm) (R := Mm) (fun s => g30_b2 M ro v2 v3 x30 x34 v21 x22 x23 v35 s.1 s.2) (0, m_9)) fun m_13 =>
    forceI (wr .i64 (x23 + 1)) fun x47 =>
    some (.inl (x47, m_13))) (
    some (.inr m_7))
def g30 (M : Means) (ro : List ABlk) (v0 : AVal) (m0 : Mm) : Option (AVal × Heap × Nat × Nat) :=
  bindP (stepM ro m0 (.bx 49 29 (.c v0))) fun v1 m_1 =>
  bindP (stepM ro m_1 (.al 56 [(AVal.i IntKind.i64 0), (AVal.i IntKind.i64 0), (AVal.i IntKind.i64 0), (AVal.i IntKind.i64 0), (AVal.i IntKind.i64 0), (AVal.i IntKind.i64 0), (AVal.i IntKind.i64 0), (AVal.i IntKind.i64 0)])) fun v2 m_2 =>
  bindP (stepM ro m_2 (.al 56 [(AVal.i IntKind.i64 0), (AVal.i IntKind.i64 0), (AVal.i IntKind.i64 0), (AVal.i IntKind.i64 0), (AVal.i IntKind.i64 0), (AVal.i IntKind.i64 0), (AVal.i IntKind.i64 0), (AVal.i IntKind.i64 0)])) fun v3 m_3 =>
  bindO (M.loop (S := Int × Mm) (R := Mm) (fun s => g30_b0 M ro v1 v2 v3 s.1 s.2) (0, m_3)) fun m_6 =>
  bindO (evP .e (.faddr 1 (.c v1))) fun v18 =>
  bindO (evP .e (.faddr 0 (.c v1))) fun v19 =>
  bindO (ldM ro m_6 true 1 v19) fun v20 =>
  asI .i64 v20 fun x20 =>
  bindO (evP .e (.slA 14 2 (.c v18) none (some (.c (.i .i64 x20))))) fun v21 =>
  bindO (evP .e (.len false (.c v21))) fun v22 =>
  asI .i64 v22 fun x22 =>
  bindO (M.loop (S := Int × Mm) (R := Mm) (fun s => g30_b1 M ro v2 v3 v21 x22 s.1 s.2) (0, m_6)) fun m_14 =>
  bindO (ldM ro m_14 false 8 v3) fun v48 =>
  bindP (stepM ro m_14 (.st 8 (.c v2) (.c v48))) fun vn_3 m_15 =>
  bindO (ldM ro m_15 false 8 v2) fun vr =>
  finM m0.h.length (tupA [vr]) m_15

theorem g30_ok {ro : List ABlk} {O : Caller} {M : Means} (hM : M.Ok ⟨F, O⟩ ro) {v0 h r} (ho : O 30 [v0] h = none) (hr : g30 M ro v0 ⟨h, h.length, h.length⟩ = some r) : callX ⟨F, O⟩ ro 30 [v0] h = some r := by
  refine callX_of (F := ⟨F, O⟩) (fn := fn30) (g := g30 M ro v0) ho rfl rfl hr ?_
  clear ho
  clear hr
  intro m0 t0 ht hr
  have g0 : t0.get 0 = v0 := ht 0
  clear ht
  unfold g30 at hr
  refine w_seq ?_
  refine w_ops ?_
  have hq := bindP_inv hr
  clear hr
  obtain ⟨v1, m_1, e1, hr⟩ := hq
  refine wo_step (v := v1) (s_bx g0 e1) ?_
  have hq := bindP_inv hr
  clear hr
  obtain ⟨v2, m_2, e2, hr⟩ := hq
  refine wo_step (v := v2) (s_al e2) ?_
  refine wo_nil ?_
  refine nx_norm ?_
  refine w_seq ?_
  refine w_ops ?_
  have hq := bindP_inv hr
  clear hr
  obtain ⟨v3, m_3, e3, hr⟩ := hq
  refine wo_step (v := v3) (s_al e3) ?_
  refine wo_nil ?_
  refine nx_norm ?_
  refine w_seq ?_
  refine w_seq ?_
  refine w_ops ?_
  refine wo_step (v := (.i .i64 0)) (s_pure (p_mv rfl)) ?_
  refine wo_nil ?_
  refine nx_norm ?_
  refine w_block ?_
  have hq := bindO_inv hr
  clear hr
  obtain ⟨o, hl_2, hr⟩ := hq
  obtain ⟨n_2, hl_2⟩ := hM.loop _ _ _ hl_2
  refine jp_mono (w_loop _ (g30_I0 v1 v2 v3) (g30_J0 v1 v2 v3) ?_ n_2 _ _ _ _ hl_2 ⟨rfl, gl rfl, gl rfl, gl rfl, gl rfl⟩) ?_
  · clear hr hl_2
    intro s mm_6 t_1 o hi hr
    obtain ⟨x11, m_4⟩ := s
    obtain ⟨rfl, g11, g1, g2, g3⟩ := hi
    unfold g30_b0 at hr
    refine w_seq ?_
    refine w_ops ?_
    have hq := forceB_inv hr
    clear hr
    obtain ⟨c12, e12, hr⟩ := hq
    refine wo_step (v := (.b c12)) (s_pure (p_bin g11 rfl (b_lss.trans (cb e12)))) ?_
    refine wo_nil ?_
    refine nx_norm ?_
    refine w_seq ?_
    have hq := cond_inv hr
    clear hr
    rcases hq with ⟨rfl, hr⟩ | ⟨rfl, hr⟩
    · refine w_condT rfl ?_
      refine w_skip ?_
      refine nx_norm ?_
      refine w_seq ?_
      refine w_block ?_
      refine w_seq ?_
      refine w_ops ?_
      refine wo_step (v := (.i .i64 x11)) (s_pure (p_mv g11)) ?_
      refine wo_step (v := (.i .i64 x11)) (s_pure (p_mv rfl)) ?_
      refine wo_nil ?_
      refine nx_norm ?_
      refine w_ops ?_
      refine wo_step (v := (.i .i64 x11)) (s_pure (p_mv rfl)) ?_
      refine wo_step (v := (.i .i64 x11)) (s_pure (p_mv rfl)) ?_
      have hq := bindO_inv hr
      clear hr
      obtain ⟨v16, e16, hr⟩ := hq
      refine wo_step (v := v16) (s_pure (o_ixA g3 rfl e16)) ?_
      have hq := bindP_inv hr
      clear hr
      obtain ⟨vn, m_5, en, hr⟩ := hq
      refine wo_stepN (s_st rfl rfl en) ?_
      refine wo_nil ?_
      refine bk_norm ?_
      refine nx_norm ?_
      refine w_ops ?_
      have hq := forceI_inv hr
      clear hr
      obtain ⟨x17, e17, hr⟩ := hq
      refine wo_step (v := (.i .i64 x17)) (s_pure (p_bin g11 rfl (b_add.trans (ci e17)))) ?_
      refine wo_step (v := (.i .i64 x17)) (s_pure (p_mv rfl)) ?_
      refine wo_nil ?_
      cases hr
      exact ⟨_, _, rfl, rfl, rfl, gl rfl, gl g1, gl g2, gl g3⟩
    · refine w_condF rfl ?_
      refine w_exit ?_
      refine nx_exit ?_
      cases hr
      exact ⟨_, _, rfl, ne_norm_exit, rfl, rfl, gl g1, gl g2, gl g3⟩
  · obtain ⟨m_6, ho⟩ : ∃ z, z = o := ⟨_, rfl⟩
    subst ho
    rintro _ mm_5 t_2 ⟨rfl, rfl, g1, g2, g3⟩
    refine bk_hit ?_
    refine nx_norm ?_
    refine w_seq ?_
    refine w_seq ?_
    refine w_ops ?_
    have hq := bindO_inv hr
    clear hr
    obtain ⟨v18, e18, hr⟩ := hq
    refine wo_step (v := v18) (s_pure (o_faddr g1 e18)) ?_
    have hq := bindO_inv hr
    clear hr
    obtain ⟨v19, e19, hr⟩ := hq
    refine wo_step (v := v19) (s_pure (o_faddr g1 e19)) ?_
    have hq := bindO_inv hr
    clear hr
    obtain ⟨v20, e20, hr⟩ := hq
    have hq := asI_inv hr
    clear hr
    obtain ⟨x20, rfl, hr⟩ := hq
    refine wo_step (v := (.i .i64 x20)) (s_ld rfl e20) ?_
    have hq := bindO_inv hr
    clear hr
    obtain ⟨v21, e21, hr⟩ := hq
    refine wo_step (v := v21) (s_pure (o_slA rfl on (os rfl) e21)) ?_
    have hq := bindO_inv hr
    clear hr
    obtain ⟨v22, e22, hr⟩ := hq
    have hq := asI_inv hr
    clear hr
    obtain ⟨x22, rfl, hr⟩ := hq
    refine wo_step (v := (.i .i64 x22)) (s_pure (o_len rfl e22)) ?_
    refine wo_step (v := (.i .i64 0)) (s_pure (p_mv rfl)) ?_
    refine wo_nil ?_
    refine nx_norm ?_
    refine w_block ?_
    have hq := bindO_inv hr
    clear hr
    obtain ⟨o_3, hl_1, hr⟩ := hq
    obtain ⟨n_1, hl_1⟩ := hM.loop _ _ _ hl_1
    refine jp_mono (w_loop _ (g30_I1 v2 v3 v21 x22) (g30_J1 v2 v3 v21 x22) ?_ n_1 _ _ _ _ hl_1 ⟨rfl, gl rfl, gl g2, gl g3, gl rfl, gl rfl⟩) ?_
    · clear hr hl_1
      intro s mm_4 t_3 o hi hr
      obtain ⟨x23, m_7⟩ := s
      obtain ⟨rfl, g23, g2, g3, g21, g22⟩ := hi
      unfold g30_b1 at hr
      refine w_seq ?_
      refine w_ops ?_
      have hq := forceB_inv hr
      clear hr
      obtain ⟨c24, e24, hr⟩ := hq
      refine wo_step (v := (.b c24)) (s_pure (p_bin g23 g22 (b_lss.trans (cb e24)))) ?_
      refine wo_nil ?_
      refine nx_norm ?_
      refine w_seq ?_
      have hq := cond_inv hr
      clear hr
      rcases hq with ⟨rfl, hr⟩ | ⟨rfl, hr⟩
      · refine w_condT rfl ?_
        refine w_skip ?_
        refine nx_norm ?_
        refine w_seq ?_
        refine w_block ?_
        refine w_seq ?_
        refine w_ops ?_
        have hq := bindO_inv hr
        clear hr
        obtain ⟨v25, e25, hr⟩ := hq
        refine wo_step (v := v25) (s_pure (o_ixS g21 g23 e25)) ?_
        have hq := bindO_inv hr
        clear hr
        obtain ⟨v26, e26, hr⟩ := hq
        refine wo_step (v := v26) (s_ld rfl e26) ?_
        have hq := bindP_inv hr
        clear hr
        obtain ⟨v6, m_8, e6, hr⟩ := hq
        refine wo_step (v := v6) (s_al e6) ?_
        have hq := bindP_inv hr
        clear hr
        obtain ⟨vn_1, m_9, en_1, hr⟩ := hq
        refine wo_stepN (s_st rfl rfl en_1) ?_
        refine wo_nil ?_
        refine nx_norm ?_
        refine w_seq ?_
        refine w_any ?_
        have hq := bindO_inv hr
        clear hr
        obtain ⟨v27, e27, hr⟩ := hq
        refine wa_step (v := v27) (a_pure (o_faddr rfl e27)) ?_
        have hq := bindO_inv hr
        clear hr
        obtain ⟨v28, e28, hr⟩ := hq
        have hq := asI_inv hr
        clear hr
        obtain ⟨x28, rfl, hr⟩ := hq
        refine wa_step (v := (.i .i64 x28)) (a_ld rfl e28) ?_
        have hq := bindO_inv hr
        clear hr
        obtain ⟨v29, e29, hr⟩ := hq
        refine wa_step (v := v29) (a_pure (o_ixA g3 rfl e29)) ?_
        have hq := bindO_inv hr
        clear hr
        obtain ⟨v30, e30, hr⟩ := hq
        have hq := asI_inv hr
        clear hr
        obtain ⟨x30, rfl, hr⟩ := hq
        refine wa_step (v := (.i .i64 x30)) (a_ld rfl e30) ?_
        have hq := bindO_inv hr
        clear hr
        obtain ⟨v31, e31, hr⟩ := hq
        refine wa_step (v := v31) (a_pure (o_faddr rfl e31)) ?_
        have hq := bindO_inv hr
        clear hr
        obtain ⟨v32, e32, hr⟩ := hq
        have hq := asI_inv hr
        clear hr
        obtain ⟨x32, rfl, hr⟩ := hq
        refine wa_step (v := (.i .i64 x32)) (a_ld rfl e32) ?_
        have hq := bindO_inv hr
        clear hr
        obtain ⟨v33, e33, hr⟩ := hq
        refine wa_step (v := v33) (a_pure (o_ixA g3 rfl e33)) ?_
        have hq := bindO_inv hr
        clear hr
        obtain ⟨v34, e34, hr⟩ := hq
        have hq := asI_inv hr
        clear hr
        obtain ⟨x34, rfl, hr⟩ := hq
        refine wa_step (v := (.i .i64 x34)) (a_ld rfl e34) ?_
        refine wa_step (v := (.i .i64 x30)) (a_pure (p_mv rfl)) ?_
        refine wa_step (v := (.i .i64 x34)) (a_pure (p_mv rfl)) ?_
        refine wa_nil ?_
        refine ⟨m_9, rfl, ?_⟩
        refine nx_norm ?_
        refine w_seq ?_
        refine w_ops ?_
        have hq := bindO_inv hr
        clear hr
        obtain ⟨v35, e35, hr⟩ := hq
        refine wo_step (v := v35) (s_ld g3 e35) ?_
        refine wo_step (v := (.i .i64 0)) (s_pure (p_mv rfl)) ?_
        refine wo_nil ?_
        refine nx_norm ?_
        refine w_block ?_
        have hq := bindO_inv hr
        clear hr
        obtain ⟨o_2, hl, hr⟩ := hq
        obtain ⟨n, hl⟩ := hM.loop _ _ _ hl
        refine jp_mono (w_loop _ (g30_I2 v2 v3 x30 x34 v21 x22 x23 v35) (g30_J2 v2 v3 x30 x34 v21 x22 x23 v35) ?_ n _ _ _ _ hl ⟨rfl, gl rfl, gl g2, gl g3, gl rfl, gl rfl, gl g21, gl g22, gl g23, gl rfl⟩) ?_
        · clear hr hl
          intro s mm_2 t_4 o hi hr
          obtain ⟨x36, m_10⟩ := s
          obtain ⟨rfl, g36, g2, g3, g7, g8, g21, g22, g23, g35⟩ := hi
          unfold g30_b2 at hr
          refine w_seq ?_
          refine w_ops ?_
          have hq := forceB_inv hr
          clear hr
          obtain ⟨c37, e37, hr⟩ := hq
          refine wo_step (v := (.b c37)) (s_pure (p_bin g36 rfl (b_lss.trans (cb e37)))) ?_
          refine wo_nil ?_
          refine nx_norm ?_
          refine w_seq ?_
          have hq := cond_inv hr
          clear hr
          rcases hq with ⟨rfl, hr⟩ | ⟨rfl, hr⟩
          · refine w_condT rfl ?_
            refine w_skip ?_
            refine nx_norm ?_
            refine w_seq ?_
            refine w_block ?_
            refine w_seq ?_
            refine w_ops ?_
            refine wo_step (v := (.i .i64 x36)) (s_pure (p_mv g36)) ?_
            have hq := bindO_inv hr
            clear hr
            obtain ⟨v39, e39, hr⟩ := hq
            have hq := asI_inv hr
            clear hr
            obtain ⟨x39, rfl, hr⟩ := hq
            refine wo_step (v := (.i .i64 x39)) (s_pure (o_ixV g35 g36 e39)) ?_
            refine wo_step (v := (.i .i64 x36)) (s_pure (p_mv rfl)) ?_
            refine wo_step (v := (.i .i64 x39)) (s_pure (p_mv rfl)) ?_
            refine wo_nil ?_
            refine nx_norm ?_
            refine w_seq ?_
            refine w_ops ?_
            refine wo_step (v := (.i .i64 x39)) (s_pure (p_mv rfl)) ?_
            refine wo_step (v := (.i .i64 x34)) (s_pure (p_mv g8)) ?_
            have hq := forceB_inv hr
            clear hr
            obtain ⟨c42, e42, hr⟩ := hq
            refine wo_step (v := (.b c42)) (s_pure (p_bin rfl rfl (b_eql.trans (cb e42)))) ?_
            refine wo_nil ?_
            refine nx_norm ?_
            have hq := bindO_inv hr
            clear hr
            obtain ⟨o_1, hr, hk⟩ := hq
            refine jp_mono (J := g30_J3 v2 v3 x30 x34 v21 x22 x23 v35 x36 o_1) ?_ ?_
            · clear hk
              have hq := cond_inv hr
              clear hr
              rcases hq with ⟨rfl, hr⟩ | ⟨rfl, hr⟩
              · refine w_condT rfl ?_
                refine w_ops ?_
                refine wo_step (v := (.i .i64 x36)) (s_pure (p_mv rfl)) ?_
                refine wo_step (v := (.i .i64 x30)) (s_pure (p_mv g7)) ?_
                have hq := bindO_inv hr
                clear hr
                obtain ⟨v45, e45, hr⟩ := hq
                refine wo_step (v := v45) (s_pure (o_ixA g3 rfl e45)) ?_
                have hq := bindP_inv hr
                clear hr
                obtain ⟨vn_2, m_11, en_2, hr⟩ := hq
                refine wo_stepN (s_st rfl rfl en_2) ?_
                refine wo_nil ?_
                cases hr
                exact ⟨_, _, rfl, rfl, rfl, gl g2, gl g3, gl g7, gl g8, gl g21, gl g22, gl g23, gl g35, gl g36⟩
              · refine w_condF rfl ?_
                refine w_skip ?_
                cases hr
                exact ⟨_, _, rfl, rfl, rfl, gl g2, gl g3, gl g7, gl g8, gl g21, gl g22, gl g23, gl g35, gl g36⟩
            · clear hr
              have hr := hk
              clear hk
              obtain ⟨m_12, ho⟩ : ∃ z, z = o_1 := ⟨_, rfl⟩
              subst ho
              rintro _ mm t_5 ⟨rfl, rfl, g2, g3, g7, g8, g21, g22, g23, g35, g36⟩
              refine bk_norm ?_
              refine nx_norm ?_
              refine w_ops ?_
              have hq := forceI_inv hr
              clear hr
              obtain ⟨x46, e46, hr⟩ := hq
              refine wo_step (v := (.i .i64 x46)) (s_pure (p_bin g36 rfl (b_add.trans (ci e46)))) ?_
              refine wo_step (v := (.i .i64 x46)) (s_pure (p_mv rfl)) ?_
              refine wo_nil ?_
              cases hr
              exact ⟨_, _, rfl, rfl, rfl, gl rfl, gl g2, gl g3, gl g7, gl g8, gl g21, gl g22, gl g23, gl g35⟩
          · refine w_condF rfl ?_
            refine w_exit ?_
            refine nx_exit ?_
            cases hr
            exact ⟨_, _, rfl, ne_norm_exit, rfl, rfl, gl g2, gl g3, gl g21, gl g22, gl g23⟩
        · obtain ⟨m_13, ho⟩ : ∃ z, z = o_2 := ⟨_, rfl⟩
          subst ho
          rintro _ mm_1 t_6 ⟨rfl, rfl, g2, g3, g21, g22, g23⟩
          refine bk_hit ?_
          refine bk_norm ?_
          refine nx_norm ?_
          refine w_ops ?_
          have hq := forceI_inv hr
          clear hr
          obtain ⟨x47, e47, hr⟩ := hq
          refine wo_step (v := (.i .i64 x47)) (s_pure (p_bin g23 rfl (b_add.trans (ci e47)))) ?_
          refine wo_step (v := (.i .i64 x47)) (s_pure (p_mv rfl)) ?_
          refine wo_nil ?_
          cases hr
          exact ⟨_, _, rfl, rfl, rfl, gl rfl, gl g2, gl g3, gl g21, gl g22⟩
      · refine w_condF rfl ?_
        refine w_exit ?_
        refine nx_exit ?_
        cases hr
        exact ⟨_, _, rfl, ne_norm_exit, rfl, rfl, gl g2, gl g3⟩
    · obtain ⟨m_14, ho⟩ : ∃ z, z = o_3 := ⟨_, rfl⟩
      subst ho
      rintro _ mm_3 t_7 ⟨rfl, rfl, g2, g3⟩
      refine bk_hit ?_
      refine nx_norm ?_
      refine w_seq ?_
      refine w_ops ?_
      have hq := bindO_inv hr
      clear hr
      obtain ⟨v48, e48, hr⟩ := hq
      refine wo_step (v := v48) (s_ld g3 e48) ?_
      have hq := bindP_inv hr
      clear hr
      obtain ⟨vn_3, m_15, en_3, hr⟩ := hq
      refine wo_stepN (s_st g2 rfl en_3) ?_
      refine wo_nil ?_
      refine nx_norm ?_
      refine w_ret ?_
      have hq := bindO_inv hr
      clear hr
      obtain ⟨vr, er, hr⟩ := hq
      exact qf ret_ok (rc g2 er rn) hr

end Go.Proofs.Ytdjffnfjbeiomaa.T

/- Plain functions, and that the small machine answers as they do. -/
import Derived.Test.YthdglempcfknhaaVmP
import Derived.Test.YthdglempcfknhaaVmAE
open Go.Vm
set_option linter.unusedVariables false
namespace Go.Proofs.Ythdglempcfknhaa.T
open Go
/- dibber/dibberlaw08.ShareCuts -/
abbrev g8_J0 (x0 : Int) (v1 : AVal) (o : Bool × Mm) (m1 : Mm) (t1 : Tr) : Prop :=
  match o with
  | (c16, m_1) => m_1 = m1 ∧ t1.get 16 = (.b c16) ∧ t1.get 0 = (.i .i64 x0) ∧ t1.get 1 = v1
abbrev g8_J1 (m_6 : Mm) (o : Bool) (m1 : Mm) (t1 : Tr) : Prop :=
  match o with
  | c37 => m_6 = m1 ∧ t1.get 37 = (.b c37)
abbrev g8_J2  (o : Bool × Mm) (m1 : Mm) (t1 : Tr) : Prop :=
  match o with
  | (c40, m_7) => m_7 = m1 ∧ t1.get 40 = (.b c40)
def g8 (M : Means) (ro : List ABlk) (x0 : Int) (v1 : AVal) (m0 : Mm) : Option (AVal × Heap × Nat × Nat) :=
  bindO (evP .e (.len false (.c v1))) fun v10 =>
  asI .i64 v10 fun x10 =>
  forceB (ltI 40 x10) fun c11 =>
  bindO (cond c11 (
    some (true, m0)) (
    bindP (callM M.call m0 14 [v1]) fun v14 m_2 =>
    asB v14 fun c14 =>
    forceB (!c14) fun c15 =>
    some (c15, m_2))) fun ⟨c16, m_1⟩ =>
  cond c16 (
    bindP (callM M.call m_1 15 []) fun v17 m_3 =>
    asB v17 fun c17 =>
    finM m0.h.length (tupA [(.b c17)]) m_3) (
    bindP (callM M.call m_1 37 [(.i .i64 x0), v1]) fun v21 m_4 =>
    bindO (evP .e (.ext 0 (.c v21))) fun v22 =>
    bindO (evP .e (.ext 1 (.c v21))) fun v23 =>
    asI .i64 v23 fun x23 =>
    bindP (callM M.call m_4 38 [(.i .i64 x0), v1]) fun v27 m_5 =>
    bindO (evP .e (.ext 0 (.c v27))) fun v28 =>
    bindO (evP .e (.ext 1 (.c v27))) fun v29 =>
    asI .i64 v29 fun x29 =>
    bindP (callM M.call m_5 20 [v22, v28]) fun v32 m_6 =>
    asB v32 fun c32 =>
    bindO (cond c32 (
      forceB (eqI x23 x29) fun c36 =>
      some c36) (
      some false)) fun c37 =>
    bindO (cond c37 (
      bindP (callM M.call m_6 15 []) fun v39 m_8 =>
      asB v39 fun c39 =>
      some (c39, m_8)) (
      some (false, m_6))) fun ⟨c40, m_7⟩ =>
    finM m0.h.length (tupA [(.b c40)]) m_7)

theorem g8_ok {ro : List ABlk} {O : Caller} {M : Means} (hM : M.Ok ⟨F, O⟩ ro) {x0 v1 h r} (ho : O 8 [(.i .i64 x0), v1] h = none) (hr : g8 M ro x0 v1 ⟨h, h.length, h.length⟩ = some r) : callX ⟨F, O⟩ ro 8 [(.i .i64 x0), v1] h = some r := by
  refine callX_of (F := ⟨F, O⟩) (fn := fn8) (g := g8 M ro x0 v1) ho rfl rfl hr ?_
  clear ho
  clear hr
  intro m0 t0 ht hr
  have g0 : t0.get 0 = (.i .i64 x0) := ht 0
  have g1 : t0.get 1 = v1 := ht 1
  clear ht
  unfold g8 at hr
  refine w_seq ?_
  refine w_ops ?_
  refine wo_step (v := (.b false)) (s_pure (p_mv rfl)) ?_
  refine wo_nil ?_
  refine nx_norm ?_
  refine w_seq ?_
  refine w_seq ?_
  refine w_ops ?_
  refine wo_step (v := v1) (s_pure (p_mv g1)) ?_
  have hq := bindO_inv hr
  clear hr
  obtain ⟨v10, e10, hr⟩ := hq
  have hq := asI_inv hr
  clear hr
  obtain ⟨x10, rfl, hr⟩ := hq
  refine wo_step (v := (.i .i64 x10)) (s_pure (o_len rfl e10)) ?_
  have hq := forceB_inv hr
  clear hr
  obtain ⟨c11, e11, hr⟩ := hq
  refine wo_step (v := (.b c11)) (s_pure (p_bin rfl rfl (b_gtr.trans (cb e11)))) ?_
  refine wo_step (v := (.b c11)) (s_pure (p_mv rfl)) ?_
  have hq := bindO_inv hr
  clear hr
  obtain ⟨o, hr, hk⟩ := hq
  refine wo_join 4 (g8_J0 x0 v1 o) ?_ ?_
  · clear hk
    have hq := cond_inv hr
    clear hr
    rcases hq with ⟨rfl, hr⟩ | ⟨rfl, hr⟩
    · refine wo_skip (v := (.b true)) rfl rfl ?_
      refine wo_skip (v := (.b true)) rfl rfl ?_
      refine wo_skip (v := (.b true)) rfl rfl ?_
      refine wo_step (v := (.b true)) (s_pure (p_pickT rfl rfl)) ?_
      refine wo_nil ?_
      cases hr
      exact ⟨_, _, rfl, rfl, gl rfl, gl g0, gl g1⟩
    · refine wo_take (v := v1) rfl (s_pure (p_mv g1)) ?_
      have hq := bindP_inv hr
      clear hr
      obtain ⟨v14, m_2, e14, hr⟩ := hq
      have hq := asB_inv hr
      clear hr
      obtain ⟨c14, rfl, hr⟩ := hq
      refine wo_take (v := (.b c14)) rfl (s_call (mc rfl mn) (callM_le hM.call e14)) ?_
      have hq := forceB_inv hr
      clear hr
      obtain ⟨c15, e15, hr⟩ := hq
      refine wo_take (v := (.b c15)) rfl (s_pure ((p_not rfl).trans (cb e15))) ?_
      refine wo_step (v := (.b c15)) (s_pure (p_pickF rfl rfl)) ?_
      refine wo_nil ?_
      cases hr
      exact ⟨_, _, rfl, rfl, gl rfl, gl g0, gl g1⟩
  · clear hr
    have hr := hk
    clear hk
    obtain ⟨c16, m_1⟩ := o
    rintro mm t_1 ⟨rfl, g16, g0, g1⟩
    refine wo_nil ?_
    refine nx_norm ?_
    have hq := cond_inv hr
    clear hr
    rcases hq with ⟨rfl, hr⟩ | ⟨rfl, hr⟩
    · refine w_condT g16 ?_
      refine w_seq ?_
      refine w_ops ?_
      have hq := bindP_inv hr
      clear hr
      obtain ⟨v17, m_3, e17, hr⟩ := hq
      have hq := asB_inv hr
      clear hr
      obtain ⟨c17, rfl, hr⟩ := hq
      refine wo_step (v := (.b c17)) (s_call mn (callM_le hM.call e17)) ?_
      refine wo_step (v := (.b c17)) (s_pure (p_mv rfl)) ?_
      refine wo_nil ?_
      refine nx_norm ?_
      refine w_ret ?_
      refine nx_ret ?_
      exact qf ret_ok (rt rfl rn) hr
    · refine w_condF g16 ?_
      refine w_skip ?_
      refine nx_norm ?_
      refine w_seq ?_
      refine w_ops ?_
      refine wo_step (v := (.i .i64 x0)) (s_pure (p_mv g0)) ?_
      refine wo_step (v := v1) (s_pure (p_mv g1)) ?_
      have hq := bindP_inv hr
      clear hr
      obtain ⟨v21, m_4, e21, hr⟩ := hq
      refine wo_step (v := v21) (s_call (mc rfl (mc rfl mn)) (callM_le hM.call e21)) ?_
      refine wo_step (v := v21) (s_pure (p_mv rfl)) ?_
      have hq := bindO_inv hr
      clear hr
      obtain ⟨v22, e22, hr⟩ := hq
      refine wo_step (v := v22) (s_pure (o_ext rfl e22)) ?_
      have hq := bindO_inv hr
      clear hr
      obtain ⟨v23, e23, hr⟩ := hq
      have hq := asI_inv hr
      clear hr
      obtain ⟨x23, rfl, hr⟩ := hq
      refine wo_step (v := (.i .i64 x23)) (s_pure (o_ext rfl e23)) ?_
      refine wo_step (v := v22) (s_pure (p_mv rfl)) ?_
      refine wo_step (v := (.i .i64 x23)) (s_pure (p_mv rfl)) ?_
      refine wo_nil ?_
      refine nx_norm ?_
      refine w_seq ?_
      refine w_ops ?_
      refine wo_step (v := (.i .i64 x0)) (s_pure (p_mv g0)) ?_
      refine wo_step (v := v1) (s_pure (p_mv g1)) ?_
      have hq := bindP_inv hr
      clear hr
      obtain ⟨v27, m_5, e27, hr⟩ := hq
      refine wo_step (v := v27) (s_call (mc rfl (mc rfl mn)) (callM_le hM.call e27)) ?_
      refine wo_step (v := v27) (s_pure (p_mv rfl)) ?_
      have hq := bindO_inv hr
      clear hr
      obtain ⟨v28, e28, hr⟩ := hq
      refine wo_step (v := v28) (s_pure (o_ext rfl e28)) ?_
      have hq := bindO_inv hr
      clear hr
      obtain ⟨v29, e29, hr⟩ := hq
      have hq := asI_inv hr
      clear hr
      obtain ⟨x29, rfl, hr⟩ := hq
      refine wo_step (v := (.i .i64 x29)) (s_pure (o_ext rfl e29)) ?_
      refine wo_step (v := v28) (s_pure (p_mv rfl)) ?_
      refine wo_step (v := (.i .i64 x29)) (s_pure (p_mv rfl)) ?_
      refine wo_nil ?_
      refine nx_norm ?_
      refine w_seq ?_
      refine w_ops ?_
      refine wo_step (v := v22) (s_pure (p_mv rfl)) ?_
      refine wo_step (v := v28) (s_pure (p_mv rfl)) ?_
      have hq := bindP_inv hr
      clear hr
      obtain ⟨v32, m_6, e32, hr⟩ := hq
      have hq := asB_inv hr
      clear hr
      obtain ⟨c32, rfl, hr⟩ := hq
      refine wo_step (v := (.b c32)) (s_call (mc rfl (mc rfl mn)) (callM_le hM.call e32)) ?_
      refine wo_step (v := (.b c32)) (s_pure (p_mv rfl)) ?_
      have hq := bindO_inv hr
      clear hr
      obtain ⟨o_1, hr, hk⟩ := hq
      refine wo_join 4 (g8_J1 m_6 o_1) ?_ ?_
      · clear hk
        have hq := cond_inv hr
        clear hr
        rcases hq with ⟨rfl, hr⟩ | ⟨rfl, hr⟩
        · refine wo_take (v := (.i .i64 x23)) rfl (s_pure (p_mv rfl)) ?_
          refine wo_take (v := (.i .i64 x29)) rfl (s_pure (p_mv rfl)) ?_
          have hq := forceB_inv hr
          clear hr
          obtain ⟨c36, e36, hr⟩ := hq
          refine wo_take (v := (.b c36)) rfl (s_pure (p_bin rfl rfl (b_eql.trans (cb e36)))) ?_
          refine wo_step (v := (.b c36)) (s_pure (p_pickT rfl rfl)) ?_
          refine wo_nil ?_
          cases hr
          exact ⟨_, _, rfl, rfl, gl rfl⟩
        · refine wo_skip (v := (.b false)) rfl rfl ?_
          refine wo_skip (v := (.b false)) rfl rfl ?_
          refine wo_skip (v := (.b false)) rfl rfl ?_
          refine wo_step (v := (.b false)) (s_pure (p_pickF rfl rfl)) ?_
          refine wo_nil ?_
          cases hr
          exact ⟨_, _, rfl, rfl, gl rfl⟩
      · clear hr
        have hr := hk
        clear hk
        obtain ⟨c37, ho⟩ : ∃ z, z = o_1 := ⟨_, rfl⟩
        subst ho
        rintro mm_1 t_2 ⟨rfl, g37⟩
        refine wo_step (v := (.b c37)) (s_pure (p_mv g37)) ?_
        have hq := bindO_inv hr
        clear hr
        obtain ⟨o_2, hr, hk⟩ := hq
        refine wo_join 2 (g8_J2  o_2) ?_ ?_
        · clear hk
          have hq := cond_inv hr
          clear hr
          rcases hq with ⟨rfl, hr⟩ | ⟨rfl, hr⟩
          · have hq := bindP_inv hr
            clear hr
            obtain ⟨v39, m_8, e39, hr⟩ := hq
            have hq := asB_inv hr
            clear hr
            obtain ⟨c39, rfl, hr⟩ := hq
            refine wo_take (v := (.b c39)) rfl (s_call mn (callM_le hM.call e39)) ?_
            refine wo_step (v := (.b c39)) (s_pure (p_pickT rfl rfl)) ?_
            refine wo_nil ?_
            cases hr
            exact ⟨_, _, rfl, rfl, gl rfl⟩
          · refine wo_skip (v := (.b false)) rfl rfl ?_
            refine wo_step (v := (.b false)) (s_pure (p_pickF rfl rfl)) ?_
            refine wo_nil ?_
            cases hr
            exact ⟨_, _, rfl, rfl, gl rfl⟩
        · clear hr
          have hr := hk
          clear hk
          obtain ⟨c40, m_7⟩ := o_2
          rintro mm_2 t_3 ⟨rfl, g40⟩
          refine wo_step (v := (.b c40)) (s_pure (p_mv g40)) ?_
          refine wo_nil ?_
          refine nx_norm ?_
          refine w_ret ?_
          exact qf ret_ok (rt rfl rn) hr

/- dibber/dibberlaw08.few -/
abbrev g14_I0 (v0 : AVal) (m0 : Mm) (s : Int) (m1 : Mm) (t1 : Tr) : Prop :=
  match s with
  | x3 => m0 = m1 ∧ t1.get 3 = (.i .i64 x3) ∧ t1.get 0 = v0
abbrev g14_J0 (v0 : AVal) (m0 : Mm) (o : (Unit ⊕ Bool)) (e : AExit) (m1 : Mm) (t1 : Tr) : Prop :=
  match o with
  | (.inl _) => e = (.exit 0) ∧ m0 = m1
  | (.inr y2) => e = .ret ∧ m0 = m1 ∧ t1.get 2 = (.b y2)
def g14_b0 (M : Means) (ro : List ABlk) (v0 : AVal) (m0 : Mm) (x3 : Int) : Option ((Int) ⊕ ((Unit ⊕ Bool))) :=
  bindO (evP .e (.len false (.c v0))) fun v6 =>
  asI .i64 v6 fun x6 =>
  forceB (ltI x3 x6) fun c7 =>
  cond c7 (
    bindO (evP .e (.ixS 1 (.c v0) (.c (.i .i64 x3)))) fun v12 =>
    bindO (ldM ro m0 true 1 v12) fun v13 =>
    bindO (evP .e (.len false (.c v13))) fun v14 =>
    asI .i64 v14 fun x14 =>
    forceB (ltI 100 x14) fun c15 =>
    cond c15 (
      some (.inr (.inr false))) (
      forceI (wr .i64 (x3 + 1)) fun x9 =>
      some (.inl x9))) (
    some (.inr (.inl ())))
def g14 (M : Means) (ro : List ABlk) (v0 : AVal) (m0 : Mm) : Option (AVal × Heap × Nat × Nat) :=
  bindO (M.loop (S := Int) (R := (Unit ⊕ Bool)) (fun s => g14_b0 M ro v0 m0 s) 0) fun o => match o with
  | (.inl _) =>
    finM m0.h.length (tupA [(.b true)]) m0
  | (.inr c2) =>
    finM m0.h.length (tupA [(.b c2)]) m0

theorem g14_ok {ro : List ABlk} {O : Caller} {M : Means} (hM : M.Ok ⟨F, O⟩ ro) {v0 h r} (ho : O 14 [v0] h = none) (hr : g14 M ro v0 ⟨h, h.length, h.length⟩ = some r) : callX ⟨F, O⟩ ro 14 [v0] h = some r := by
  refine callX_of (F := ⟨F, O⟩) (fn := fn14) (g := g14 M ro v0) ho rfl rfl hr ?_
  clear ho
  clear hr
  intro m0 t0 ht hr
  have g0 : t0.get 0 = v0 := ht 0
  clear ht
  unfold g14 at hr
  refine w_seq ?_
  refine w_ops ?_
  refine wo_step (v := (.b false)) (s_pure (p_mv rfl)) ?_
  refine wo_nil ?_
  refine nx_norm ?_
  refine w_seq ?_
  refine w_seq ?_
  refine w_ops ?_
  refine wo_step (v := (.i .i64 0)) (s_pure (p_mv rfl)) ?_
  refine wo_nil ?_
  refine nx_norm ?_
  refine w_block ?_
  have hq := bindO_inv hr
  clear hr
  obtain ⟨o, hl, hr⟩ := hq
  obtain ⟨n, hl⟩ := hM.loop _ _ _ hl
  refine jp_mono (w_loop _ (g14_I0 v0 m0) (g14_J0 v0 m0) ?_ n _ _ _ _ hl ⟨rfl, gl rfl, gl g0⟩) ?_
  · clear hr hl
    intro s mm_2 t_1 o hi hr
    obtain ⟨x3, hs⟩ : ∃ z, z = s := ⟨_, rfl⟩
    subst hs
    obtain ⟨rfl, g3, g0⟩ := hi
    unfold g14_b0 at hr
    refine w_seq ?_
    refine w_seq ?_
    refine w_ops ?_
    refine wo_step (v := (.i .i64 x3)) (s_pure (p_mv g3)) ?_
    refine wo_step (v := v0) (s_pure (p_mv g0)) ?_
    have hq := bindO_inv hr
    clear hr
    obtain ⟨v6, e6, hr⟩ := hq
    have hq := asI_inv hr
    clear hr
    obtain ⟨x6, rfl, hr⟩ := hq
    refine wo_step (v := (.i .i64 x6)) (s_pure (o_len rfl e6)) ?_
    have hq := forceB_inv hr
    clear hr
    obtain ⟨c7, e7, hr⟩ := hq
    refine wo_step (v := (.b c7)) (s_pure (p_bin rfl rfl (b_lss.trans (cb e7)))) ?_
    refine wo_nil ?_
    refine nx_norm ?_
    have hq := cond_inv hr
    clear hr
    rcases hq with ⟨rfl, hr⟩ | ⟨rfl, hr⟩
    · refine w_condT rfl ?_
      refine w_skip ?_
      refine nx_norm ?_
      refine w_seq ?_
      refine w_block ?_
      refine w_seq ?_
      refine w_ops ?_
      refine wo_step (v := v0) (s_pure (p_mv g0)) ?_
      refine wo_step (v := (.i .i64 x3)) (s_pure (p_mv g3)) ?_
      have hq := bindO_inv hr
      clear hr
      obtain ⟨v12, e12, hr⟩ := hq
      refine wo_step (v := v12) (s_pure (o_ixS rfl rfl e12)) ?_
      have hq := bindO_inv hr
      clear hr
      obtain ⟨v13, e13, hr⟩ := hq
      refine wo_step (v := v13) (s_ld rfl e13) ?_
      have hq := bindO_inv hr
      clear hr
      obtain ⟨v14, e14, hr⟩ := hq
      have hq := asI_inv hr
      clear hr
      obtain ⟨x14, rfl, hr⟩ := hq
      refine wo_step (v := (.i .i64 x14)) (s_pure (o_len rfl e14)) ?_
      have hq := forceB_inv hr
      clear hr
      obtain ⟨c15, e15, hr⟩ := hq
      refine wo_step (v := (.b c15)) (s_pure (p_bin rfl rfl (b_gtr.trans (cb e15)))) ?_
      refine wo_nil ?_
      refine nx_norm ?_
      have hq := cond_inv hr
      clear hr
      rcases hq with ⟨rfl, hr⟩ | ⟨rfl, hr⟩
      · refine w_condT rfl ?_
        refine w_seq ?_
        refine w_ops ?_
        refine wo_step (v := (.b false)) (s_pure (p_mv rfl)) ?_
        refine wo_nil ?_
        refine nx_norm ?_
        refine w_ret ?_
        refine bk_ret ?_
        refine nx_ret ?_
        cases hr
        exact ⟨_, _, rfl, ne_norm_ret, rfl, rfl, gl rfl⟩
      · refine w_condF rfl ?_
        refine w_skip ?_
        refine bk_norm ?_
        refine nx_norm ?_
        refine w_ops ?_
        refine wo_step (v := (.i .i64 x3)) (s_pure (p_mv g3)) ?_
        have hq := forceI_inv hr
        clear hr
        obtain ⟨x9, e9, hr⟩ := hq
        refine wo_step (v := (.i .i64 x9)) (s_pure (p_bin rfl rfl (b_add.trans (ci e9)))) ?_
        refine wo_step (v := (.i .i64 x9)) (s_pure (p_mv rfl)) ?_
        refine wo_nil ?_
        cases hr
        exact ⟨_, _, rfl, rfl, rfl, gl rfl, gl g0⟩
    · refine w_condF rfl ?_
      refine w_exit ?_
      refine nx_exit ?_
      cases hr
      exact ⟨_, _, rfl, ne_norm_exit, rfl, rfl⟩
  · rcases o with o | o
    · rintro _ mm t_2 ⟨rfl, rfl⟩
      refine bk_hit ?_
      refine nx_norm ?_
      refine w_seq ?_
      refine w_ops ?_
      refine wo_step (v := (.b true)) (s_pure (p_mv rfl)) ?_
      refine wo_nil ?_
      refine nx_norm ?_
      refine w_ret ?_
      exact qf ret_ok (rt rfl rn) hr
    · obtain ⟨c2, ho⟩ : ∃ z, z = o := ⟨_, rfl⟩
      subst ho
      rintro _ mm_1 t_3 ⟨rfl, rfl, g2⟩
      refine bk_ret ?_
      refine nx_ret ?_
      exact qf ret_ok (rt g2 rn) hr

/- dibber/dibberlaw08.same -/
abbrev g20_I0 (v0 : AVal) (v1 : AVal) (m0 : Mm) (s : Int) (m1 : Mm) (t1 : Tr) : Prop :=
  match s with
  | x5 => m0 = m1 ∧ t1.get 5 = (.i .i64 x5) ∧ t1.get 0 = v0 ∧ t1.get 1 = v1
abbrev g20_J0 (v0 : AVal) (v1 : AVal) (m0 : Mm) (o : (Unit ⊕ Bool)) (e : AExit) (m1 : Mm) (t1 : Tr) : Prop :=
  match o with
  | (.inl _) => e = (.exit 0) ∧ m0 = m1
  | (.inr y4) => e = .ret ∧ m0 = m1 ∧ t1.get 4 = (.b y4)
def g20_b0 (M : Means) (ro : List ABlk) (v0 : AVal) (v1 : AVal) (m0 : Mm) (x5 : Int) : Option ((Int) ⊕ ((Unit ⊕ Bool))) :=
  bindO (evP .e (.len false (.c v0))) fun v13 =>
  asI .i64 v13 fun x13 =>
  forceB (ltI x5 x13) fun c14 =>
  cond c14 (
    bindO (evP .e (.ixS 1 (.c v0) (.c (.i .i64 x5)))) fun v19 =>
    bindO (ldA ro m0.h true 1 v19) fun v20 =>
    asI .i64 v20 fun x20 =>
    bindO (evP .e (.ixS 1 (.c v1) (.c (.i .i64 x5)))) fun v23 =>
    bindO (ldA ro m0.h true 1 v23) fun v24 =>
    asI .i64 v24 fun x24 =>
    forceB (!eqI x20 x24) fun c25 =>
    cond c25 (
      some (.inr (.inr false))) (
      forceI (wr .i64 (x5 + 1)) fun x16 =>
      some (.inl x16))) (
    some (.inr (.inl ())))
def g20 (M : Means) (ro : List ABlk) (v0 : AVal) (v1 : AVal) (m0 : Mm) : Option (AVal × Heap × Nat × Nat) :=
  bindO (evP .e (.len false (.c v0))) fun v7 =>
  asI .i64 v7 fun x7 =>
  bindO (evP .e (.len false (.c v1))) fun v9 =>
  asI .i64 v9 fun x9 =>
  forceB (!eqI x7 x9) fun c10 =>
  cond c10 (
    finM m0.h.length (tupA [(.b false)]) m0) (
    bindO (M.loop (S := Int) (R := (Unit ⊕ Bool)) (fun s => g20_b0 M ro v0 v1 m0 s) 0) fun o => match o with
    | (.inl _) =>
      finM m0.h.length (tupA [(.b true)]) m0
    | (.inr c4) =>
      finM m0.h.length (tupA [(.b c4)]) m0)

theorem g20_ok {ro : List ABlk} {O : Caller} {M : Means} (hM : M.Ok ⟨F, O⟩ ro) {v0 v1 h r} (ho : O 20 [v0, v1] h = none) (hr : g20 M ro v0 v1 ⟨h, h.length, h.length⟩ = some r) : callX ⟨F, O⟩ ro 20 [v0, v1] h = some r := by
  refine callX_of (F := ⟨F, O⟩) (fn := fn20) (g := g20 M ro v0 v1) ho rfl rfl hr ?_
  clear ho
  clear hr
  intro m0 t0 ht hr
  have g0 : t0.get 0 = v0 := ht 0
  have g1 : t0.get 1 = v1 := ht 1
  clear ht
  unfold g20 at hr
  refine w_seq ?_
  refine w_ops ?_
  refine wo_step (v := (.b false)) (s_pure (p_mv rfl)) ?_
  refine wo_nil ?_
  refine nx_norm ?_
  refine w_seq ?_
  refine w_seq ?_
  refine w_ops ?_
  refine wo_step (v := v0) (s_pure (p_mv g0)) ?_
  have hq := bindO_inv hr
  clear hr
  obtain ⟨v7, e7, hr⟩ := hq
  have hq := asI_inv hr
  clear hr
  obtain ⟨x7, rfl, hr⟩ := hq
  refine wo_step (v := (.i .i64 x7)) (s_pure (o_len rfl e7)) ?_
  refine wo_step (v := v1) (s_pure (p_mv g1)) ?_
  have hq := bindO_inv hr
  clear hr
  obtain ⟨v9, e9, hr⟩ := hq
  have hq := asI_inv hr
  clear hr
  obtain ⟨x9, rfl, hr⟩ := hq
  refine wo_step (v := (.i .i64 x9)) (s_pure (o_len rfl e9)) ?_
  have hq := forceB_inv hr
  clear hr
  obtain ⟨c10, e10, hr⟩ := hq
  refine wo_step (v := (.b c10)) (s_pure (p_bin rfl rfl (b_neq.trans (cb e10)))) ?_
  refine wo_nil ?_
  refine nx_norm ?_
  have hq := cond_inv hr
  clear hr
  rcases hq with ⟨rfl, hr⟩ | ⟨rfl, hr⟩
  · refine w_condT rfl ?_
    refine w_seq ?_
    refine w_ops ?_
    refine wo_step (v := (.b false)) (s_pure (p_mv rfl)) ?_
    refine wo_nil ?_
    refine nx_norm ?_
    refine w_ret ?_
    refine nx_ret ?_
    exact qf ret_ok (rt rfl rn) hr
  · refine w_condF rfl ?_
    refine w_skip ?_
    refine nx_norm ?_
    refine w_seq ?_
    refine w_seq ?_
    refine w_ops ?_
    refine wo_step (v := (.i .i64 0)) (s_pure (p_mv rfl)) ?_
    refine wo_nil ?_
    refine nx_norm ?_
    refine w_block ?_
    have hq := bindO_inv hr
    clear hr
    obtain ⟨o, hl, hr⟩ := hq
    obtain ⟨n, hl⟩ := hM.loop _ _ _ hl
    refine jp_mono (w_loop _ (g20_I0 v0 v1 m0) (g20_J0 v0 v1 m0) ?_ n _ _ _ _ hl ⟨rfl, gl rfl, gl g0, gl g1⟩) ?_
    · clear hr hl
      intro s mm_2 t_1 o hi hr
      obtain ⟨x5, hs⟩ : ∃ z, z = s := ⟨_, rfl⟩
      subst hs
      obtain ⟨rfl, g5, g0, g1⟩ := hi
      unfold g20_b0 at hr
      refine w_seq ?_
      refine w_seq ?_
      refine w_ops ?_
      refine wo_step (v := (.i .i64 x5)) (s_pure (p_mv g5)) ?_
      refine wo_step (v := v0) (s_pure (p_mv g0)) ?_
      have hq := bindO_inv hr
      clear hr
      obtain ⟨v13, e13, hr⟩ := hq
      have hq := asI_inv hr
      clear hr
      obtain ⟨x13, rfl, hr⟩ := hq
      refine wo_step (v := (.i .i64 x13)) (s_pure (o_len rfl e13)) ?_
      have hq := forceB_inv hr
      clear hr
      obtain ⟨c14, e14, hr⟩ := hq
      refine wo_step (v := (.b c14)) (s_pure (p_bin rfl rfl (b_lss.trans (cb e14)))) ?_
      refine wo_nil ?_
      refine nx_norm ?_
      have hq := cond_inv hr
      clear hr
      rcases hq with ⟨rfl, hr⟩ | ⟨rfl, hr⟩
      · refine w_condT rfl ?_
        refine w_skip ?_
        refine nx_norm ?_
        refine w_seq ?_
        refine w_block ?_
        refine w_seq ?_
        refine w_any ?_
        refine wa_step (v := v0) (a_pure (p_mv g0)) ?_
        refine wa_step (v := (.i .i64 x5)) (a_pure (p_mv g5)) ?_
        have hq := bindO_inv hr
        clear hr
        obtain ⟨v19, e19, hr⟩ := hq
        refine wa_step (v := v19) (a_pure (o_ixS rfl rfl e19)) ?_
        have hq := bindO_inv hr
        clear hr
        obtain ⟨v20, e20, hr⟩ := hq
        have hq := asI_inv hr
        clear hr
        obtain ⟨x20, rfl, hr⟩ := hq
        refine wa_step (v := (.i .i64 x20)) (a_ld rfl e20) ?_
        refine wa_step (v := v1) (a_pure (p_mv g1)) ?_
        refine wa_step (v := (.i .i64 x5)) (a_pure (p_mv g5)) ?_
        have hq := bindO_inv hr
        clear hr
        obtain ⟨v23, e23, hr⟩ := hq
        refine wa_step (v := v23) (a_pure (o_ixS rfl rfl e23)) ?_
        have hq := bindO_inv hr
        clear hr
        obtain ⟨v24, e24, hr⟩ := hq
        have hq := asI_inv hr
        clear hr
        obtain ⟨x24, rfl, hr⟩ := hq
        refine wa_step (v := (.i .i64 x24)) (a_ld rfl e24) ?_
        have hq := forceB_inv hr
        clear hr
        obtain ⟨c25, e25, hr⟩ := hq
        refine wa_step (v := (.b c25)) (a_pure (p_bin rfl rfl (b_neq.trans (cb e25)))) ?_
        refine wa_nil ?_
        refine ⟨m0, rfl, ?_⟩
        refine nx_norm ?_
        have hq := cond_inv hr
        clear hr
        rcases hq with ⟨rfl, hr⟩ | ⟨rfl, hr⟩
        · refine w_condT rfl ?_
          refine w_seq ?_
          refine w_ops ?_
          refine wo_step (v := (.b false)) (s_pure (p_mv rfl)) ?_
          refine wo_nil ?_
          refine nx_norm ?_
          refine w_ret ?_
          refine bk_ret ?_
          refine nx_ret ?_
          cases hr
          exact ⟨_, _, rfl, ne_norm_ret, rfl, rfl, gl rfl⟩
        · refine w_condF rfl ?_
          refine w_skip ?_
          refine bk_norm ?_
          refine nx_norm ?_
          refine w_ops ?_
          refine wo_step (v := (.i .i64 x5)) (s_pure (p_mv g5)) ?_
          have hq := forceI_inv hr
          clear hr
          obtain ⟨x16, e16, hr⟩ := hq
          refine wo_step (v := (.i .i64 x16)) (s_pure (p_bin rfl rfl (b_add.trans (ci e16)))) ?_
          refine wo_step (v := (.i .i64 x16)) (s_pure (p_mv rfl)) ?_
          refine wo_nil ?_
          cases hr
          exact ⟨_, _, rfl, rfl, rfl, gl rfl, gl g0, gl g1⟩
      · refine w_condF rfl ?_
        refine w_exit ?_
        refine nx_exit ?_
        cases hr
        exact ⟨_, _, rfl, ne_norm_exit, rfl, rfl⟩
    · rcases o with o | o
      · rintro _ mm t_2 ⟨rfl, rfl⟩
        refine bk_hit ?_
        refine nx_norm ?_
        refine w_seq ?_
        refine w_ops ?_
        refine wo_step (v := (.b true)) (s_pure (p_mv rfl)) ?_
        refine wo_nil ?_
        refine nx_norm ?_
        refine w_ret ?_
        exact qf ret_ok (rt rfl rn) hr
      · obtain ⟨c4, ho⟩ : ∃ z, z = o := ⟨_, rfl⟩
        subst ho
        rintro _ mm_1 t_3 ⟨rfl, rfl, g4⟩
        refine bk_ret ?_
        refine nx_ret ?_
        exact qf ret_ok (rt g4 rn) hr

/- dibber/share.Cut -/
abbrev g37_I0 (x0 : Int) (v19 : AVal) (v1 : AVal) (x21 : Int) (s : Int × Mm) (m1 : Mm) (t1 : Tr) : Prop :=
  match s with
  | (x22, m_3) => m_3 = m1 ∧ t1.get 22 = (.i .i64 x22) ∧ t1.get 0 = (.i .i64 x0) ∧ t1.get 6 = v19 ∧ t1.get 20 = v1 ∧ t1.get 21 = (.i .i64 x21)
abbrev g37_J0 (x0 : Int) (v19 : AVal) (v1 : AVal) (x21 : Int) (o : (Mm ⊕ (AVal × Int × Mm))) (e : AExit) (m1 : Mm) (t1 : Tr) : Prop :=
  match o with
  | (.inl mo) => e = (.exit 0) ∧ mo = m1 ∧ t1.get 6 = v19
  | (.inr (y4, y5, mo)) => e = .ret ∧ mo = m1 ∧ t1.get 4 = y4 ∧ t1.get 5 = (.i .i64 y5)
abbrev g37_I1 (x0 : Int) (v19 : AVal) (v25 : AVal) (v1 : AVal) (x21 : Int) (x22 : Int) (v39 : AVal) (x40 : Int) (s : Int × Mm) (m1 : Mm) (t1 : Tr) : Prop :=
  match s with
  | (x41, m_10) => m_10 = m1 ∧ t1.get 41 = (.i .i64 x41) ∧ t1.get 0 = (.i .i64 x0) ∧ t1.get 6 = v19 ∧ t1.get 8 = v25 ∧ t1.get 20 = v1 ∧ t1.get 21 = (.i .i64 x21) ∧ t1.get 22 = (.i .i64 x22) ∧ t1.get 39 = v39 ∧ t1.get 40 = (.i .i64 x40)
abbrev g37_J1 (x0 : Int) (v19 : AVal) (v25 : AVal) (v1 : AVal) (x21 : Int) (x22 : Int) (v39 : AVal) (x40 : Int) (o : Mm) (e : AExit) (m1 : Mm) (t1 : Tr) : Prop :=
  match o with
  | mo => e = (.exit 2) ∧ mo = m1 ∧ t1.get 0 = (.i .i64 x0) ∧ t1.get 6 = v19 ∧ t1.get 20 = v1 ∧ t1.get 21 = (.i .i64 x21) ∧ t1.get 22 = (.i .i64 x22)
def g37_b1 (M : Means) (ro : List ABlk) (x0 : Int) (v19 : AVal) (v25 : AVal) (v1 : AVal) (x21 : Int) (x22 : Int) (v39 : AVal) (x40 : Int) (x41 : Int) (m_10 : Mm) : Option ((Int × Mm) ⊕ (Mm)) :=
  forceB (ltI x41 x40) fun c42 =>
  cond c42 (
    bindO (evP .e (.ixS 1 (.c v39) (.c (.i .i64 x41)))) fun v43 =>
    bindO (ldM ro m_10 true 1 v43) fun v44 =>
    asI .i64 v44 fun x44 =>
    bindO (evP .e (.ixS 1 (.c v19) (.c (.i .i64 x44)))) fun v47 =>
    bindO (ldA ro m_10.h true 1 v47) fun v48 =>
    asI .i64 v48 fun x48 =>
    bindO (evP .e (.ixS 1 (.c v25) (.c (.i .i64 2)))) fun v50 =>
    bindO (ldA ro m_10.h true 1 v50) fun v51 =>
    asI .i64 v51 fun x51 =>
    forceI (wr .i64 (x48 + x51)) fun x52 =>
    bindO (evP .e (.ixS 1 (.c v19) (.c (.i .i64 x44)))) fun v53 =>
    asP v53 fun qs =>
    bindO (writesM ro [] [(qs, AVal.cells (.i .i64 x52))] ⟨m_10.h, m_10.lw, m_10.lp⟩) fun m_11 =>
    forceI (wr .i64 (x41 + 1)) fun x54 =>
    some (.inl (x54, m_11))) (
    some (.inr m_10))
def g37_b0 (M : Means) (ro : List ABlk) (x0 : Int) (v19 : AVal) (v1 : AVal) (x21 : Int) (x22 : Int) (m_3 : Mm) : Option ((Int × Mm) ⊕ ((Mm ⊕ (AVal × Int × Mm)))) :=
  forceB (ltI x22 x21) fun c23 =>
  cond c23 (
    bindO (evP .e (.ixS 1 (.c v1) (.c (.i .i64 x22)))) fun v24 =>
    bindO (ldM ro m_3 true 1 v24) fun v25 =>
    bindP (callM M.call m_3 85 [(.i .i64 x0), v25]) fun v28 m_4 =>
    asB v28 fun c28 =>
    forceB (!c28) fun c29 =>
    cond c29 (
      some (.inr (.inr (AVal.nsl, 2, m_4)))) (
      bindO (some (Mm.base m_4)) fun m_5 =>
      bindO (evP .e (.ixS 1 (.c v25) (.c (.i .i64 0)))) fun v32 =>
      bindO (ldM ro m_5 true 1 v32) fun v33 =>
      asI .i64 v33 fun x33 =>
      bindO (evP .e (.ixS 1 (.c v25) (.c (.i .i64 1)))) fun v35 =>
      bindO (ldM ro m_5 true 1 v35) fun v36 =>
      asI .i64 v36 fun x36 =>
      bindP (callM M.call m_5 86 [(.i .i64 x33), (.i .i64 x36)]) fun v37 m_6 =>
      bindP (stepM ro m_6 (.bsl 53 1 [AVal.nfn] 1 [((0, 1), .c v37)])) fun v38 m_7 =>
      bindP (callM M.call m_7 45 [(.i .i64 x0), v38]) fun v39 m_8 =>
      bindO (evP .e (.len false (.c v39))) fun v40 =>
      asI .i64 v40 fun x40 =>
      bindO (some (Mm.join m_4 m_8)) fun m_9 =>
      bindO (M.loop (S := Int × Mm) (R := Mm) (fun s => g37_b1 M ro x0 v19 v25 v1 x21 x22 v39 x40 s.1 s.2) (0, m_9)) fun m_12 =>
      forceI (wr .i64 (x22 + 1)) fun x55 =>
      some (.inl (x55, m_12)))) (
    some (.inr (.inl m_3)))
def g37 (M : Means) (ro : List ABlk) (x0 : Int) (v1 : AVal) (m0 : Mm) : Option (AVal × Heap × Nat × Nat) :=
  bindP (callM M.call m0 84 [(.i .i64 x0)]) fun v12 m_1 =>
  asB v12 fun c12 =>
  forceB (!c12) fun c13 =>
  cond c13 (
    finM m0.h.length (tupA [AVal.nsl, (.i .i64 2)]) m_1) (
    bindO (evP .e (.len false (.c v1))) fun v15 =>
    asI .i64 v15 fun x15 =>
    forceB (ltI 20 x15) fun c16 =>
    cond c16 (
      finM m0.h.length (tupA [AVal.nsl, (.i .i64 3)]) m_1) (
      chk (!ltI x0 (.ofNat 0)) <|
      forceI (shlV .i64 1 x0) fun x18 =>
      bindP (stepM ro m_1 (.mk 3 1 8 [(AVal.i IntKind.i64 0)] (.c (.i .i64 x18)) (.c (.i .i64 x18)))) fun v19 m_2 =>
      bindO (evP .e (.len false (.c v1))) fun v21 =>
      asI .i64 v21 fun x21 =>
      bindO (M.loop (S := Int × Mm) (R := (Mm ⊕ (AVal × Int × Mm))) (fun s => g37_b0 M ro x0 v19 v1 x21 s.1 s.2) (0, m_2)) fun o_1 => match o_1 with
      | (.inl m_13) =>
        finM m0.h.length (tupA [v19, (.i .i64 0)]) m_13
      | (.inr (v4, x5, m_14)) =>
        finM m0.h.length (tupA [v4, (.i .i64 x5)]) m_14))

theorem g37_ok {ro : List ABlk} {O : Caller} {M : Means} (hM : M.Ok ⟨F, O⟩ ro) {x0 v1 h r} (ho : O 37 [(.i .i64 x0), v1] h = none) (hr : g37 M ro x0 v1 ⟨h, h.length, h.length⟩ = some r) : callX ⟨F, O⟩ ro 37 [(.i .i64 x0), v1] h = some r := by
  refine callX_of (F := ⟨F, O⟩) (fn := fn37) (g := g37 M ro x0 v1) ho rfl rfl hr ?_
  clear ho
  clear hr
  intro m0 t0 ht hr
  have g0 : t0.get 0 = (.i .i64 x0) := ht 0
  have g1 : t0.get 1 = v1 := ht 1
  clear ht
  unfold g37 at hr
  refine w_seq ?_
  refine w_ops ?_
  refine wo_step (v := AVal.nsl) (s_pure (p_mv rfl)) ?_
  refine wo_step (v := (.i .i64 0)) (s_pure (p_mv rfl)) ?_
  refine wo_nil ?_
  refine nx_norm ?_
  refine w_seq ?_
  refine w_seq ?_
  refine w_ops ?_
  refine wo_step (v := (.i .i64 x0)) (s_pure (p_mv g0)) ?_
  have hq := bindP_inv hr
  clear hr
  obtain ⟨v12, m_1, e12, hr⟩ := hq
  have hq := asB_inv hr
  clear hr
  obtain ⟨c12, rfl, hr⟩ := hq
  refine wo_step (v := (.b c12)) (s_call (mc rfl mn) (callM_le hM.call e12)) ?_
  have hq := forceB_inv hr
  clear hr
  obtain ⟨c13, e13, hr⟩ := hq
  refine wo_step (v := (.b c13)) (s_pure ((p_not rfl).trans (cb e13))) ?_
  refine wo_nil ?_
  refine nx_norm ?_
  have hq := cond_inv hr
  clear hr
  rcases hq with ⟨rfl, hr⟩ | ⟨rfl, hr⟩
  · refine w_condT rfl ?_
    refine w_seq ?_
    refine w_ops ?_
    refine wo_step (v := AVal.nsl) (s_pure (p_mv rfl)) ?_
    refine wo_step (v := (.i .i64 2)) (s_pure (p_mv rfl)) ?_
    refine wo_nil ?_
    refine nx_norm ?_
    refine w_ret ?_
    refine nx_ret ?_
    exact qf ret_ok (rt rfl (rt rfl rn)) hr
  · refine w_condF rfl ?_
    refine w_skip ?_
    refine nx_norm ?_
    refine w_seq ?_
    refine w_seq ?_
    refine w_ops ?_
    refine wo_step (v := v1) (s_pure (p_mv g1)) ?_
    have hq := bindO_inv hr
    clear hr
    obtain ⟨v15, e15, hr⟩ := hq
    have hq := asI_inv hr
    clear hr
    obtain ⟨x15, rfl, hr⟩ := hq
    refine wo_step (v := (.i .i64 x15)) (s_pure (o_len rfl e15)) ?_
    have hq := forceB_inv hr
    clear hr
    obtain ⟨c16, e16, hr⟩ := hq
    refine wo_step (v := (.b c16)) (s_pure (p_bin rfl rfl (b_gtr.trans (cb e16)))) ?_
    refine wo_nil ?_
    refine nx_norm ?_
    have hq := cond_inv hr
    clear hr
    rcases hq with ⟨rfl, hr⟩ | ⟨rfl, hr⟩
    · refine w_condT rfl ?_
      refine w_seq ?_
      refine w_ops ?_
      refine wo_step (v := AVal.nsl) (s_pure (p_mv rfl)) ?_
      refine wo_step (v := (.i .i64 3)) (s_pure (p_mv rfl)) ?_
      refine wo_nil ?_
      refine nx_norm ?_
      refine w_ret ?_
      refine nx_ret ?_
      exact qf ret_ok (rt rfl (rt rfl rn)) hr
    · refine w_condF rfl ?_
      refine w_skip ?_
      refine nx_norm ?_
      refine w_seq ?_
      refine w_ops ?_
      refine wo_step (v := (.i .i64 x0)) (s_pure (p_mv g0)) ?_
      have hq := chk_inv hr
      clear hr
      obtain ⟨hc18, hr⟩ := hq
      have hq := forceI_inv hr
      clear hr
      obtain ⟨x18, e18, hr⟩ := hq
      refine wo_step (v := (.i .i64 x18)) (s_pure (p_bin rfl rfl ((b_shl hc18).trans (ci e18)))) ?_
      have hq := bindP_inv hr
      clear hr
      obtain ⟨v19, m_2, e19, hr⟩ := hq
      refine wo_step (v := v19) (s_mk rfl rfl e19) ?_
      refine wo_step (v := v19) (s_pure (p_mv rfl)) ?_
      refine wo_nil ?_
      refine nx_norm ?_
      refine w_seq ?_
      refine w_seq ?_
      refine w_ops ?_
      refine wo_step (v := v1) (s_pure (p_mv g1)) ?_
      have hq := bindO_inv hr
      clear hr
      obtain ⟨v21, e21, hr⟩ := hq
      have hq := asI_inv hr
      clear hr
      obtain ⟨x21, rfl, hr⟩ := hq
      refine wo_step (v := (.i .i64 x21)) (s_pure (o_len rfl e21)) ?_
      refine wo_step (v := (.i .i64 0)) (s_pure (p_mv rfl)) ?_
      refine wo_nil ?_
      refine nx_norm ?_
      refine w_block ?_
      have hq := bindO_inv hr
      clear hr
      obtain ⟨o_1, hl_1, hr⟩ := hq
      obtain ⟨n_1, hl_1⟩ := hM.loop _ _ _ hl_1
      refine jp_mono (w_loop _ (g37_I0 x0 v19 v1 x21) (g37_J0 x0 v19 v1 x21) ?_ n_1 _ _ _ _ hl_1 ⟨rfl, gl rfl, gl g0, gl rfl, gl rfl, gl rfl⟩) ?_
      · clear hr hl_1
        intro s mm_4 t_1 o hi hr
        obtain ⟨x22, m_3⟩ := s
        obtain ⟨rfl, g22, g0, g6, g20, g21⟩ := hi
        unfold g37_b0 at hr
        refine w_seq ?_
        refine w_ops ?_
        have hq := forceB_inv hr
        clear hr
        obtain ⟨c23, e23, hr⟩ := hq
        refine wo_step (v := (.b c23)) (s_pure (p_bin g22 g21 (b_lss.trans (cb e23)))) ?_
        refine wo_nil ?_
        refine nx_norm ?_
        refine w_seq ?_
        have hq := cond_inv hr
        clear hr
        rcases hq with ⟨rfl, hr⟩ | ⟨rfl, hr⟩
        · refine w_condT rfl ?_
          refine w_skip ?_
          refine nx_norm ?_
          refine w_seq ?_
          refine w_block ?_
          refine w_seq ?_
          refine w_ops ?_
          have hq := bindO_inv hr
          clear hr
          obtain ⟨v24, e24, hr⟩ := hq
          refine wo_step (v := v24) (s_pure (o_ixS g20 g22 e24)) ?_
          have hq := bindO_inv hr
          clear hr
          obtain ⟨v25, e25, hr⟩ := hq
          refine wo_step (v := v25) (s_ld rfl e25) ?_
          refine wo_step (v := v25) (s_pure (p_mv rfl)) ?_
          refine wo_nil ?_
          refine nx_norm ?_
          refine w_seq ?_
          refine w_seq ?_
          refine w_ops ?_
          refine wo_step (v := (.i .i64 x0)) (s_pure (p_mv g0)) ?_
          refine wo_step (v := v25) (s_pure (p_mv rfl)) ?_
          have hq := bindP_inv hr
          clear hr
          obtain ⟨v28, m_4, e28, hr⟩ := hq
          have hq := asB_inv hr
          clear hr
          obtain ⟨c28, rfl, hr⟩ := hq
          refine wo_step (v := (.b c28)) (s_call (mc rfl (mc rfl mn)) (callM_le hM.call e28)) ?_
          have hq := forceB_inv hr
          clear hr
          obtain ⟨c29, e29, hr⟩ := hq
          refine wo_step (v := (.b c29)) (s_pure ((p_not rfl).trans (cb e29))) ?_
          refine wo_nil ?_
          refine nx_norm ?_
          have hq := cond_inv hr
          clear hr
          rcases hq with ⟨rfl, hr⟩ | ⟨rfl, hr⟩
          · refine w_condT rfl ?_
            refine w_seq ?_
            refine w_ops ?_
            refine wo_step (v := AVal.nsl) (s_pure (p_mv rfl)) ?_
            refine wo_step (v := (.i .i64 2)) (s_pure (p_mv rfl)) ?_
            refine wo_nil ?_
            refine nx_norm ?_
            refine w_ret ?_
            refine nx_ret ?_
            refine bk_ret ?_
            refine nx_ret ?_
            cases hr
            exact ⟨_, _, rfl, ne_norm_ret, rfl, rfl, gl rfl, gl rfl⟩
          · refine w_condF rfl ?_
            refine w_skip ?_
            refine nx_norm ?_
            refine w_seq ?_
            have hq := bindO_inv hr
            clear hr
            obtain ⟨m_5, ef, hr⟩ := hq
            refine w_flt (af := false) rfl ef ?_
            refine wf_step (v := (.i .i64 x0)) (f_P rfl (s_pure (p_mv g0))) ?_
            refine wf_step (v := v25) (f_P rfl (s_pure (p_mv rfl))) ?_
            have hq := bindO_inv hr
            clear hr
            obtain ⟨v32, e32, hr⟩ := hq
            refine wf_step (v := v32) (f_P rfl (s_pure (o_ixS rfl rfl e32))) ?_
            have hq := bindO_inv hr
            clear hr
            obtain ⟨v33, e33, hr⟩ := hq
            have hq := asI_inv hr
            clear hr
            obtain ⟨x33, rfl, hr⟩ := hq
            refine wf_step (v := (.i .i64 x33)) (f_P rfl (s_ld rfl e33)) ?_
            refine wf_step (v := v25) (f_P rfl (s_pure (p_mv rfl))) ?_
            have hq := bindO_inv hr
            clear hr
            obtain ⟨v35, e35, hr⟩ := hq
            refine wf_step (v := v35) (f_P rfl (s_pure (o_ixS rfl rfl e35))) ?_
            have hq := bindO_inv hr
            clear hr
            obtain ⟨v36, e36, hr⟩ := hq
            have hq := asI_inv hr
            clear hr
            obtain ⟨x36, rfl, hr⟩ := hq
            refine wf_step (v := (.i .i64 x36)) (f_P rfl (s_ld rfl e36)) ?_
            have hq := bindP_inv hr
            clear hr
            obtain ⟨v37, m_6, e37, hr⟩ := hq
            refine wf_step (v := v37) (f_N (s_call (mc rfl (mc rfl mn)) (callM_le hM.call e37))) ?_
            have hq := bindP_inv hr
            clear hr
            obtain ⟨v38, m_7, e38, hr⟩ := hq
            refine wf_step (v := v38) (f_N (s_bsl (qc rfl qn) e38)) ?_
            have hq := bindP_inv hr
            clear hr
            obtain ⟨v39, m_8, e39, hr⟩ := hq
            refine wf_step (v := v39) (f_N (s_call (mc rfl (mc rfl mn)) (callM_le hM.call e39))) ?_
            have hq := bindO_inv hr
            clear hr
            obtain ⟨v40, e40, hr⟩ := hq
            have hq := asI_inv hr
            clear hr
            obtain ⟨x40, rfl, hr⟩ := hq
            refine wf_step (v := (.i .i64 x40)) (f_P rfl (s_pure (o_len rfl e40))) ?_
            refine wf_step (v := (.i .i64 0)) (f_P rfl (s_pure (p_mv rfl))) ?_
            have hq := bindO_inv hr
            clear hr
            obtain ⟨m_9, ef_1, hr⟩ := hq
            refine wf_end ef_1 ?_
            refine nx_norm ?_
            refine w_block ?_
            have hq := bindO_inv hr
            clear hr
            obtain ⟨o, hl, hr⟩ := hq
            obtain ⟨n, hl⟩ := hM.loop _ _ _ hl
            refine jp_mono (w_loop _ (g37_I1 x0 v19 v25 v1 x21 x22 v39 x40) (g37_J1 x0 v19 v25 v1 x21 x22 v39 x40) ?_ n _ _ _ _ hl ⟨rfl, gl rfl, gl g0, gl g6, gl rfl, gl g20, gl g21, gl g22, gl rfl, gl rfl⟩) ?_
            · clear hr hl
              intro s mm_1 t_2 o hi hr
              obtain ⟨x41, m_10⟩ := s
              obtain ⟨rfl, g41, g0, g6, g8, g20, g21, g22, g39, g40⟩ := hi
              unfold g37_b1 at hr
              refine w_seq ?_
              refine w_ops ?_
              have hq := forceB_inv hr
              clear hr
              obtain ⟨c42, e42, hr⟩ := hq
              refine wo_step (v := (.b c42)) (s_pure (p_bin g41 g40 (b_lss.trans (cb e42)))) ?_
              refine wo_nil ?_
              refine nx_norm ?_
              refine w_seq ?_
              have hq := cond_inv hr
              clear hr
              rcases hq with ⟨rfl, hr⟩ | ⟨rfl, hr⟩
              · refine w_condT rfl ?_
                refine w_skip ?_
                refine nx_norm ?_
                refine w_seq ?_
                refine w_block ?_
                refine w_seq ?_
                refine w_ops ?_
                have hq := bindO_inv hr
                clear hr
                obtain ⟨v43, e43, hr⟩ := hq
                refine wo_step (v := v43) (s_pure (o_ixS g39 g41 e43)) ?_
                have hq := bindO_inv hr
                clear hr
                obtain ⟨v44, e44, hr⟩ := hq
                have hq := asI_inv hr
                clear hr
                obtain ⟨x44, rfl, hr⟩ := hq
                refine wo_step (v := (.i .i64 x44)) (s_ld rfl e44) ?_
                refine wo_step (v := (.i .i64 x44)) (s_pure (p_mv rfl)) ?_
                refine wo_nil ?_
                refine nx_norm ?_
                refine w_any ?_
                refine wa_step (v := v19) (a_pure (p_mv g6)) ?_
                refine wa_step (v := (.i .i64 x44)) (a_pure (p_mv rfl)) ?_
                have hq := bindO_inv hr
                clear hr
                obtain ⟨v47, e47, hr⟩ := hq
                refine wa_step (v := v47) (a_pure (o_ixS rfl rfl e47)) ?_
                have hq := bindO_inv hr
                clear hr
                obtain ⟨v48, e48, hr⟩ := hq
                have hq := asI_inv hr
                clear hr
                obtain ⟨x48, rfl, hr⟩ := hq
                refine wa_step (v := (.i .i64 x48)) (a_ld rfl e48) ?_
                refine wa_step (v := v25) (a_pure (p_mv g8)) ?_
                have hq := bindO_inv hr
                clear hr
                obtain ⟨v50, e50, hr⟩ := hq
                refine wa_step (v := v50) (a_pure (o_ixS rfl rfl e50)) ?_
                have hq := bindO_inv hr
                clear hr
                obtain ⟨v51, e51, hr⟩ := hq
                have hq := asI_inv hr
                clear hr
                obtain ⟨x51, rfl, hr⟩ := hq
                refine wa_step (v := (.i .i64 x51)) (a_ld rfl e51) ?_
                have hq := forceI_inv hr
                clear hr
                obtain ⟨x52, e52, hr⟩ := hq
                refine wa_step (v := (.i .i64 x52)) (a_pure (p_bin rfl rfl (b_add.trans (ci e52)))) ?_
                have hq := bindO_inv hr
                clear hr
                obtain ⟨v53, e53, hr⟩ := hq
                refine wa_step (v := v53) (a_pure (o_ixS rfl rfl e53)) ?_
                have hq := asP_inv hr
                clear hr
                obtain ⟨qs, eqs, hr⟩ := hq
                refine wa_stepN (a_st (Eq.trans (b := v53) rfl eqs) rfl rfl) ?_
                have hq := bindO_inv hr
                clear hr
                obtain ⟨m_11, ew, hr⟩ := hq
                refine wa_nil ?_
                refine ⟨m_11, ew, ?_⟩
                refine bk_norm ?_
                refine nx_norm ?_
                refine w_ops ?_
                have hq := forceI_inv hr
                clear hr
                obtain ⟨x54, e54, hr⟩ := hq
                refine wo_step (v := (.i .i64 x54)) (s_pure (p_bin g41 rfl (b_add.trans (ci e54)))) ?_
                refine wo_step (v := (.i .i64 x54)) (s_pure (p_mv rfl)) ?_
                refine wo_nil ?_
                cases hr
                exact ⟨_, _, rfl, rfl, rfl, gl rfl, gl g0, gl g6, gl g8, gl g20, gl g21, gl g22, gl g39, gl g40⟩
              · refine w_condF rfl ?_
                refine w_exit ?_
                refine nx_exit ?_
                cases hr
                exact ⟨_, _, rfl, ne_norm_exit, rfl, rfl, gl g0, gl g6, gl g20, gl g21, gl g22⟩
            · obtain ⟨m_12, ho⟩ : ∃ z, z = o := ⟨_, rfl⟩
              subst ho
              rintro _ mm t_3 ⟨rfl, rfl, g0, g6, g20, g21, g22⟩
              refine bk_hit ?_
              refine bk_norm ?_
              refine nx_norm ?_
              refine w_ops ?_
              have hq := forceI_inv hr
              clear hr
              obtain ⟨x55, e55, hr⟩ := hq
              refine wo_step (v := (.i .i64 x55)) (s_pure (p_bin g22 rfl (b_add.trans (ci e55)))) ?_
              refine wo_step (v := (.i .i64 x55)) (s_pure (p_mv rfl)) ?_
              refine wo_nil ?_
              cases hr
              exact ⟨_, _, rfl, rfl, rfl, gl rfl, gl g0, gl g6, gl g20, gl g21⟩
        · refine w_condF rfl ?_
          refine w_exit ?_
          refine nx_exit ?_
          cases hr
          exact ⟨_, _, rfl, ne_norm_exit, rfl, rfl, gl g6⟩
      · rcases o_1 with o_1 | o_1
        · obtain ⟨m_13, ho⟩ : ∃ z, z = o_1 := ⟨_, rfl⟩
          subst ho
          rintro _ mm_2 t_4 ⟨rfl, rfl, g6⟩
          refine bk_hit ?_
          refine nx_norm ?_
          refine w_seq ?_
          refine w_ops ?_
          refine wo_step (v := v19) (s_pure (p_mv g6)) ?_
          refine wo_step (v := v19) (s_pure (p_mv rfl)) ?_
          refine wo_step (v := (.i .i64 0)) (s_pure (p_mv rfl)) ?_
          refine wo_nil ?_
          refine nx_norm ?_
          refine w_ret ?_
          exact qf ret_ok (rt rfl (rt rfl rn)) hr
        · obtain ⟨v4, x5, m_14⟩ := o_1
          rintro _ mm_3 t_5 ⟨rfl, rfl, g4, g5⟩
          refine bk_ret ?_
          refine nx_ret ?_
          exact qf ret_ok (rt g4 (rt g5 rn)) hr

/- dibber/dibberref08.Cut -/
abbrev g38_J0 (x0 : Int) (v1 : AVal) (m0 : Mm) (o : Bool) (m1 : Mm) (t1 : Tr) : Prop :=
  match o with
  | c16 => m0 = m1 ∧ t1.get 16 = (.b c16) ∧ t1.get 0 = (.i .i64 x0) ∧ t1.get 1 = v1
abbrev g38_I1 (x0 : Int) (v1 : AVal) (m0 : Mm) (s : Int) (m1 : Mm) (t1 : Tr) : Prop :=
  match s with
  | x6 => m0 = m1 ∧ t1.get 6 = (.i .i64 x6) ∧ t1.get 0 = (.i .i64 x0) ∧ t1.get 1 = v1
abbrev g38_J1 (x0 : Int) (v1 : AVal) (m0 : Mm) (o : (Unit ⊕ (AVal × Int))) (e : AExit) (m1 : Mm) (t1 : Tr) : Prop :=
  match o with
  | (.inl _) => e = (.exit 0) ∧ m0 = m1 ∧ t1.get 0 = (.i .i64 x0) ∧ t1.get 1 = v1
  | (.inr (y4, y5)) => e = .ret ∧ m0 = m1 ∧ t1.get 4 = y4 ∧ t1.get 5 = (.i .i64 y5)
abbrev g38_J2 (x0 : Int) (v1 : AVal) (x6 : Int) (v29 : AVal) (m0 : Mm) (o : Bool) (m1 : Mm) (t1 : Tr) : Prop :=
  match o with
  | c38 => m0 = m1 ∧ t1.get 38 = (.b c38) ∧ t1.get 0 = (.i .i64 x0) ∧ t1.get 1 = v1 ∧ t1.get 6 = (.i .i64 x6) ∧ t1.get 7 = v29
abbrev g38_J3 (x0 : Int) (v1 : AVal) (x6 : Int) (v29 : AVal) (m0 : Mm) (o : Bool) (m1 : Mm) (t1 : Tr) : Prop :=
  match o with
  | c45 => m0 = m1 ∧ t1.get 45 = (.b c45) ∧ t1.get 0 = (.i .i64 x0) ∧ t1.get 1 = v1 ∧ t1.get 6 = (.i .i64 x6) ∧ t1.get 7 = v29
abbrev g38_J4 (x0 : Int) (v1 : AVal) (x6 : Int) (v29 : AVal) (m0 : Mm) (o : Bool) (m1 : Mm) (t1 : Tr) : Prop :=
  match o with
  | c51 => m0 = m1 ∧ t1.get 51 = (.b c51) ∧ t1.get 0 = (.i .i64 x0) ∧ t1.get 1 = v1 ∧ t1.get 6 = (.i .i64 x6) ∧ t1.get 7 = v29
abbrev g38_J5 (x0 : Int) (v1 : AVal) (x6 : Int) (v29 : AVal) (m0 : Mm) (o : Bool) (m1 : Mm) (t1 : Tr) : Prop :=
  match o with
  | c58 => m0 = m1 ∧ t1.get 58 = (.b c58) ∧ t1.get 0 = (.i .i64 x0) ∧ t1.get 1 = v1 ∧ t1.get 6 = (.i .i64 x6) ∧ t1.get 7 = v29
abbrev g38_J6 (x0 : Int) (v1 : AVal) (x6 : Int) (v29 : AVal) (m0 : Mm) (o : Bool) (m1 : Mm) (t1 : Tr) : Prop :=
  match o with
  | c67 => m0 = m1 ∧ t1.get 67 = (.b c67) ∧ t1.get 0 = (.i .i64 x0) ∧ t1.get 1 = v1 ∧ t1.get 6 = (.i .i64 x6) ∧ t1.get 7 = v29
abbrev g38_J7 (x0 : Int) (v1 : AVal) (x6 : Int) (v29 : AVal) (m0 : Mm) (o : Bool) (m1 : Mm) (t1 : Tr) : Prop :=
  match o with
  | c73 => m0 = m1 ∧ t1.get 73 = (.b c73) ∧ t1.get 0 = (.i .i64 x0) ∧ t1.get 1 = v1 ∧ t1.get 6 = (.i .i64 x6) ∧ t1.get 7 = v29
abbrev g38_J8 (x0 : Int) (v1 : AVal) (x6 : Int) (m0 : Mm) (o : Bool) (m1 : Mm) (t1 : Tr) : Prop :=
  match o with
  | c79 => m0 = m1 ∧ t1.get 79 = (.b c79) ∧ t1.get 0 = (.i .i64 x0) ∧ t1.get 1 = v1 ∧ t1.get 6 = (.i .i64 x6)
def g38_b1 (M : Means) (ro : List ABlk) (x0 : Int) (v1 : AVal) (m0 : Mm) (x6 : Int) : Option ((Int) ⊕ ((Unit ⊕ (AVal × Int)))) :=
  bindO (evP .e (.len false (.c v1))) fun v22 =>
  asI .i64 v22 fun x22 =>
  forceB (ltI x6 x22) fun c23 =>
  cond c23 (
    bindO (evP .e (.ixS 1 (.c v1) (.c (.i .i64 x6)))) fun v28 =>
    bindO (ldM ro m0 true 1 v28) fun v29 =>
    bindO (evP .e (.len false (.c v29))) fun v31 =>
    asI .i64 v31 fun x31 =>
    forceB (!eqI x31 3) fun c32 =>
    bindO (cond c32 (
      some true) (
      bindO (evP .e (.ixS 1 (.c v29) (.c (.i .i64 0)))) fun v35 =>
      bindO (ldA ro m0.h true 1 v35) fun v36 =>
      asI .i64 v36 fun x36 =>
      forceB (ltI x36 0) fun c37 =>
      some c37)) fun c38 =>
    bindO (cond c38 (
      some true) (
      bindO (evP .e (.ixS 1 (.c v29) (.c (.i .i64 0)))) fun v41 =>
      bindO (ldA ro m0.h true 1 v41) fun v42 =>
      asI .i64 v42 fun x42 =>
      forceB (!ltI x42 x0) fun c44 =>
      some c44)) fun c45 =>
    bindO (cond c45 (
      some true) (
      bindO (evP .e (.ixS 1 (.c v29) (.c (.i .i64 1)))) fun v48 =>
      bindO (ldA ro m0.h true 1 v48) fun v49 =>
      asI .i64 v49 fun x49 =>
      forceB (ltI x49 0) fun c50 =>
      some c50)) fun c51 =>
    bindO (cond c51 (
      some true) (
      bindO (evP .e (.ixS 1 (.c v29) (.c (.i .i64 1)))) fun v54 =>
      bindO (ldA ro m0.h true 1 v54) fun v55 =>
      asI .i64 v55 fun x55 =>
      forceB (!ltI x55 x0) fun c57 =>
      some c57)) fun c58 =>
    bindO (cond c58 (
      some true) (
      bindO (evP .e (.ixS 1 (.c v29) (.c (.i .i64 0)))) fun v61 =>
      bindO (ldA ro m0.h true 1 v61) fun v62 =>
      asI .i64 v62 fun x62 =>
      bindO (evP .e (.ixS 1 (.c v29) (.c (.i .i64 1)))) fun v64 =>
      bindO (ldA ro m0.h true 1 v64) fun v65 =>
      asI .i64 v65 fun x65 =>
      forceB (eqI x62 x65) fun c66 =>
      some c66)) fun c67 =>
    bindO (cond c67 (
      some true) (
      bindO (evP .e (.ixS 1 (.c v29) (.c (.i .i64 2)))) fun v70 =>
      bindO (ldA ro m0.h true 1 v70) fun v71 =>
      asI .i64 v71 fun x71 =>
      forceB (ltI x71 0) fun c72 =>
      some c72)) fun c73 =>
    bindO (cond c73 (
      some true) (
      bindO (evP .e (.ixS 1 (.c v29) (.c (.i .i64 2)))) fun v76 =>
      bindO (ldA ro m0.h true 1 v76) fun v77 =>
      asI .i64 v77 fun x77 =>
      forceB (ltI 1000 x77) fun c78 =>
      some c78)) fun c79 =>
    cond c79 (
      some (.inr (.inr (AVal.nsl, 2)))) (
      forceI (wr .i64 (x6 + 1)) fun x25 =>
      some (.inl x25))) (
    some (.inr (.inl ())))
abbrev g38_I9 (v1 : AVal) (v82 : AVal) (s : Int × Mm) (m1 : Mm) (t1 : Tr) : Prop :=
  match s with
  | (x9, m_2) => m_2 = m1 ∧ t1.get 9 = (.i .i64 x9) ∧ t1.get 1 = v1 ∧ t1.get 8 = v82
abbrev g38_J9 (v1 : AVal) (v82 : AVal) (o : Mm) (e : AExit) (m1 : Mm) (t1 : Tr) : Prop :=
  match o with
  | mo => e = (.exit 2) ∧ mo = m1 ∧ t1.get 8 = v82
abbrev g38_I10 (v1 : AVal) (v82 : AVal) (x9 : Int) (s : Int × Mm) (m1 : Mm) (t1 : Tr) : Prop :=
  match s with
  | (x10, m_3) => m_3 = m1 ∧ t1.get 10 = (.i .i64 x10) ∧ t1.get 1 = v1 ∧ t1.get 8 = v82 ∧ t1.get 9 = (.i .i64 x9)
abbrev g38_J10 (v1 : AVal) (v82 : AVal) (x9 : Int) (o : Mm) (e : AExit) (m1 : Mm) (t1 : Tr) : Prop :=
  match o with
  | mo => e = (.exit 4) ∧ mo = m1 ∧ t1.get 1 = v1 ∧ t1.get 8 = v82 ∧ t1.get 9 = (.i .i64 x9)
abbrev g38_J11 (v1 : AVal) (v82 : AVal) (x9 : Int) (x10 : Int) (o : Mm) (e : AExit) (m1 : Mm) (t1 : Tr) : Prop :=
  match o with
  | mo => e = .norm ∧ mo = m1 ∧ t1.get 1 = v1 ∧ t1.get 8 = v82 ∧ t1.get 9 = (.i .i64 x9) ∧ t1.get 10 = (.i .i64 x10)
def g38_b10 (M : Means) (ro : List ABlk) (v1 : AVal) (v82 : AVal) (x9 : Int) (x10 : Int) (m_3 : Mm) : Option ((Int × Mm) ⊕ (Mm)) :=
  bindO (evP .e (.len false (.c v1))) fun v91 =>
  asI .i64 v91 fun x91 =>
  forceB (ltI x10 x91) fun c92 =>
  cond c92 (
    bindO (evP .e (.ixS 1 (.c v1) (.c (.i .i64 x10)))) fun v98 =>
    bindO (ldA ro m_3.h true 1 v98) fun v99 =>
    bindO (evP .e (.ixS 1 (.c v99) (.c (.i .i64 0)))) fun v100 =>
    bindO (ldA ro m_3.h true 1 v100) fun v101 =>
    asI .i64 v101 fun x101 =>
    chk (!ltI x101 (.ofNat 0)) <|
    forceI (shrV .i64 x9 x101) fun x102 =>
    forceI (Int.tmod x102 2) fun x103 =>
    bindO (evP .e (.ixS 1 (.c v1) (.c (.i .i64 x10)))) fun v107 =>
    bindO (ldA ro m_3.h true 1 v107) fun v108 =>
    bindO (evP .e (.ixS 1 (.c v108) (.c (.i .i64 1)))) fun v109 =>
    bindO (ldA ro m_3.h true 1 v109) fun v110 =>
    asI .i64 v110 fun x110 =>
    chk (!ltI x110 (.ofNat 0)) <|
    forceI (shrV .i64 x9 x110) fun x111 =>
    forceI (Int.tmod x111 2) fun x112 =>
    forceB (!eqI x103 x112) fun c113 =>
    bindO (α := Mm) (
      cond c113 (
        bindO (evP .e (.ixS 1 (.c v82) (.c (.i .i64 x9)))) fun v116 =>
        bindO (ldA ro m_3.h true 1 v116) fun v117 =>
        asI .i64 v117 fun x117 =>
        bindO (evP .e (.ixS 1 (.c v1) (.c (.i .i64 x10)))) fun v120 =>
        bindO (ldA ro m_3.h true 1 v120) fun v121 =>
        bindO (evP .e (.ixS 1 (.c v121) (.c (.i .i64 2)))) fun v122 =>
        bindO (ldA ro m_3.h true 1 v122) fun v123 =>
        asI .i64 v123 fun x123 =>
        forceI (wr .i64 (x117 + x123)) fun x124 =>
        bindO (evP .e (.ixS 1 (.c v82) (.c (.i .i64 x9)))) fun v125 =>
        asP v125 fun qs =>
        bindO (writesM ro [] [(qs, AVal.cells (.i .i64 x124))] ⟨m_3.h, m_3.lw, m_3.lp⟩) fun m_4 =>
        some m_4) (
        some m_3)) fun m_5 =>
    forceI (wr .i64 (x10 + 1)) fun x94 =>
    some (.inl (x94, m_5))) (
    some (.inr m_3))
def g38_b9 (M : Means) (ro : List ABlk) (v1 : AVal) (v82 : AVal) (x9 : Int) (m_2 : Mm) : Option ((Int × Mm) ⊕ (Mm)) :=
  bindO (evP .e (.len false (.c v82))) fun v85 =>
  asI .i64 v85 fun x85 =>
  forceB (ltI x9 x85) fun c86 =>
  cond c86 (
    bindO (M.loop (S := Int × Mm) (R := Mm) (fun s => g38_b10 M ro v1 v82 x9 s.1 s.2) (0, m_2)) fun m_6 =>
    forceI (wr .i64 (x9 + 1)) fun x88 =>
    some (.inl (x88, m_6))) (
    some (.inr m_2))
def g38 (M : Means) (ro : List ABlk) (x0 : Int) (v1 : AVal) (m0 : Mm) : Option (AVal × Heap × Nat × Nat) :=
  forceB (ltI x0 1) fun c12 =>
  bindO (cond c12 (
    some true) (
    forceB (ltI 6 x0) fun c15 =>
    some c15)) fun c16 =>
  cond c16 (
    finM m0.h.length (tupA [AVal.nsl, (.i .i64 2)]) m0) (
    bindO (evP .e (.len false (.c v1))) fun v18 =>
    asI .i64 v18 fun x18 =>
    forceB (ltI 20 x18) fun c19 =>
    cond c19 (
      finM m0.h.length (tupA [AVal.nsl, (.i .i64 3)]) m0) (
      bindO (M.loop (S := Int) (R := (Unit ⊕ (AVal × Int))) (fun s => g38_b1 M ro x0 v1 m0 s) 0) fun o_8 => match o_8 with
      | (.inl _) =>
        chk (!ltI x0 (.ofNat 0)) <|
        forceI (shlV .i64 1 x0) fun x81 =>
        bindP (stepM ro m0 (.mk 3 1 8 [(AVal.i IntKind.i64 0)] (.c (.i .i64 x81)) (.c (.i .i64 x81)))) fun v82 m_1 =>
        bindO (M.loop (S := Int × Mm) (R := Mm) (fun s => g38_b9 M ro v1 v82 s.1 s.2) (0, m_1)) fun m_7 =>
        finM m0.h.length (tupA [v82, (.i .i64 0)]) m_7
      | (.inr (v4, x5)) =>
        finM m0.h.length (tupA [v4, (.i .i64 x5)]) m0))

theorem g38_ok {ro : List ABlk} {O : Caller} {M : Means} (hM : M.Ok ⟨F, O⟩ ro) {x0 v1 h r} (ho : O 38 [(.i .i64 x0), v1] h = none) (hr : g38 M ro x0 v1 ⟨h, h.length, h.length⟩ = some r) : callX ⟨F, O⟩ ro 38 [(.i .i64 x0), v1] h = some r := by
  refine callX_of (F := ⟨F, O⟩) (fn := fn38) (g := g38 M ro x0 v1) ho rfl rfl hr ?_
  clear ho
  clear hr
  intro m0 t0 ht hr
  have g0 : t0.get 0 = (.i .i64 x0) := ht 0
  have g1 : t0.get 1 = v1 := ht 1
  clear ht
  unfold g38 at hr
  refine w_seq ?_
  refine w_ops ?_
  refine wo_step (v := AVal.nsl) (s_pure (p_mv rfl)) ?_
  refine wo_step (v := (.i .i64 0)) (s_pure (p_mv rfl)) ?_
  refine wo_nil ?_
  refine nx_norm ?_
  refine w_seq ?_
  refine w_seq ?_
  refine w_ops ?_
  refine wo_step (v := (.i .i64 x0)) (s_pure (p_mv g0)) ?_
  have hq := forceB_inv hr
  clear hr
  obtain ⟨c12, e12, hr⟩ := hq
  refine wo_step (v := (.b c12)) (s_pure (p_bin rfl rfl (b_lss.trans (cb e12)))) ?_
  refine wo_step (v := (.b c12)) (s_pure (p_mv rfl)) ?_
  have hq := bindO_inv hr
  clear hr
  obtain ⟨o, hr, hk⟩ := hq
  refine wo_join 3 (g38_J0 x0 v1 m0 o) ?_ ?_
  · clear hk
    have hq := cond_inv hr
    clear hr
    rcases hq with ⟨rfl, hr⟩ | ⟨rfl, hr⟩
    · refine wo_skip (v := (.b true)) rfl rfl ?_
      refine wo_skip (v := (.b true)) rfl rfl ?_
      refine wo_step (v := (.b true)) (s_pure (p_pickT rfl rfl)) ?_
      refine wo_nil ?_
      cases hr
      exact ⟨_, _, rfl, rfl, gl rfl, gl g0, gl g1⟩
    · refine wo_take (v := (.i .i64 x0)) rfl (s_pure (p_mv g0)) ?_
      have hq := forceB_inv hr
      clear hr
      obtain ⟨c15, e15, hr⟩ := hq
      refine wo_take (v := (.b c15)) rfl (s_pure (p_bin rfl rfl (b_gtr.trans (cb e15)))) ?_
      refine wo_step (v := (.b c15)) (s_pure (p_pickF rfl rfl)) ?_
      refine wo_nil ?_
      cases hr
      exact ⟨_, _, rfl, rfl, gl rfl, gl g0, gl g1⟩
  · clear hr
    have hr := hk
    clear hk
    obtain ⟨c16, ho⟩ : ∃ z, z = o := ⟨_, rfl⟩
    subst ho
    rintro mm t_1 ⟨rfl, g16, g0, g1⟩
    refine wo_nil ?_
    refine nx_norm ?_
    have hq := cond_inv hr
    clear hr
    rcases hq with ⟨rfl, hr⟩ | ⟨rfl, hr⟩
    · refine w_condT g16 ?_
      refine w_seq ?_
      refine w_ops ?_
      refine wo_step (v := AVal.nsl) (s_pure (p_mv rfl)) ?_
      refine wo_step (v := (.i .i64 2)) (s_pure (p_mv rfl)) ?_
      refine wo_nil ?_
      refine nx_norm ?_
      refine w_ret ?_
      refine nx_ret ?_
      exact qf ret_ok (rt rfl (rt rfl rn)) hr
    · refine w_condF g16 ?_
      refine w_skip ?_
      refine nx_norm ?_
      refine w_seq ?_
      refine w_seq ?_
      refine w_ops ?_
      refine wo_step (v := v1) (s_pure (p_mv g1)) ?_
      have hq := bindO_inv hr
      clear hr
      obtain ⟨v18, e18, hr⟩ := hq
      have hq := asI_inv hr
      clear hr
      obtain ⟨x18, rfl, hr⟩ := hq
      refine wo_step (v := (.i .i64 x18)) (s_pure (o_len rfl e18)) ?_
      have hq := forceB_inv hr
      clear hr
      obtain ⟨c19, e19, hr⟩ := hq
      refine wo_step (v := (.b c19)) (s_pure (p_bin rfl rfl (b_gtr.trans (cb e19)))) ?_
      refine wo_nil ?_
      refine nx_norm ?_
      have hq := cond_inv hr
      clear hr
      rcases hq with ⟨rfl, hr⟩ | ⟨rfl, hr⟩
      · refine w_condT rfl ?_
        refine w_seq ?_
        refine w_ops ?_
        refine wo_step (v := AVal.nsl) (s_pure (p_mv rfl)) ?_
        refine wo_step (v := (.i .i64 3)) (s_pure (p_mv rfl)) ?_
        refine wo_nil ?_
        refine nx_norm ?_
        refine w_ret ?_
        refine nx_ret ?_
        exact qf ret_ok (rt rfl (rt rfl rn)) hr
      · refine w_condF rfl ?_
        refine w_skip ?_
        refine nx_norm ?_
        refine w_seq ?_
        refine w_seq ?_
        refine w_ops ?_
        refine wo_step (v := (.i .i64 0)) (s_pure (p_mv rfl)) ?_
        refine wo_nil ?_
        refine nx_norm ?_
        refine w_block ?_
        have hq := bindO_inv hr
        clear hr
        obtain ⟨o_8, hl_2, hr⟩ := hq
        obtain ⟨n_2, hl_2⟩ := hM.loop _ _ _ hl_2
        refine jp_mono (w_loop _ (g38_I1 x0 v1 m0) (g38_J1 x0 v1 m0) ?_ n_2 _ _ _ _ hl_2 ⟨rfl, gl rfl, gl g0, gl g1⟩) ?_
        · clear hr hl_2
          intro s mm_8 t_2 o hi hr
          obtain ⟨x6, hs⟩ : ∃ z, z = s := ⟨_, rfl⟩
          subst hs
          obtain ⟨rfl, g6, g0, g1⟩ := hi
          unfold g38_b1 at hr
          refine w_seq ?_
          refine w_seq ?_
          refine w_ops ?_
          refine wo_step (v := (.i .i64 x6)) (s_pure (p_mv g6)) ?_
          refine wo_step (v := v1) (s_pure (p_mv g1)) ?_
          have hq := bindO_inv hr
          clear hr
          obtain ⟨v22, e22, hr⟩ := hq
          have hq := asI_inv hr
          clear hr
          obtain ⟨x22, rfl, hr⟩ := hq
          refine wo_step (v := (.i .i64 x22)) (s_pure (o_len rfl e22)) ?_
          have hq := forceB_inv hr
          clear hr
          obtain ⟨c23, e23, hr⟩ := hq
          refine wo_step (v := (.b c23)) (s_pure (p_bin rfl rfl (b_lss.trans (cb e23)))) ?_
          refine wo_nil ?_
          refine nx_norm ?_
          have hq := cond_inv hr
          clear hr
          rcases hq with ⟨rfl, hr⟩ | ⟨rfl, hr⟩
          · refine w_condT rfl ?_
            refine w_skip ?_
            refine nx_norm ?_
            refine w_seq ?_
            refine w_block ?_
            refine w_seq ?_
            refine w_ops ?_
            refine wo_step (v := v1) (s_pure (p_mv g1)) ?_
            refine wo_step (v := (.i .i64 x6)) (s_pure (p_mv g6)) ?_
            have hq := bindO_inv hr
            clear hr
            obtain ⟨v28, e28, hr⟩ := hq
            refine wo_step (v := v28) (s_pure (o_ixS rfl rfl e28)) ?_
            have hq := bindO_inv hr
            clear hr
            obtain ⟨v29, e29, hr⟩ := hq
            refine wo_step (v := v29) (s_ld rfl e29) ?_
            refine wo_step (v := v29) (s_pure (p_mv rfl)) ?_
            refine wo_nil ?_
            refine nx_norm ?_
            refine w_seq ?_
            refine w_any ?_
            refine wa_step (v := v29) (a_pure (p_mv rfl)) ?_
            have hq := bindO_inv hr
            clear hr
            obtain ⟨v31, e31, hr⟩ := hq
            have hq := asI_inv hr
            clear hr
            obtain ⟨x31, rfl, hr⟩ := hq
            refine wa_step (v := (.i .i64 x31)) (a_pure (o_len rfl e31)) ?_
            have hq := forceB_inv hr
            clear hr
            obtain ⟨c32, e32, hr⟩ := hq
            refine wa_step (v := (.b c32)) (a_pure (p_bin rfl rfl (b_neq.trans (cb e32)))) ?_
            refine wa_step (v := (.b c32)) (a_pure (p_mv rfl)) ?_
            have hq := bindO_inv hr
            clear hr
            obtain ⟨o_1, hr, hk⟩ := hq
            refine wa_join 5 (JA (g38_J2 x0 v1 x6 v29 m0 o_1) m0 (m0.h) [] []) ?_ ?_
            · clear hk
              have hq := cond_inv hr
              clear hr
              rcases hq with ⟨rfl, hr⟩ | ⟨rfl, hr⟩
              · refine wa_skip (v := (.b true)) rfl rfl ?_
                refine wa_skip (v := (.b true)) rfl rfl ?_
                refine wa_skip (v := (.b true)) rfl rfl ?_
                refine wa_skip (v := (.b true)) rfl rfl ?_
                refine wa_step (v := (.b true)) (a_pure (p_pickT rfl rfl)) ?_
                refine wa_nil ?_
                cases hr
                exact ja_in ⟨rfl, gl rfl, gl g0, gl g1, gl g6, gl rfl⟩
              · refine wa_take (v := v29) rfl (a_pure (p_mv rfl)) ?_
                have hq := bindO_inv hr
                clear hr
                obtain ⟨v35, e35, hr⟩ := hq
                refine wa_take (v := v35) rfl (a_pure (o_ixS rfl rfl e35)) ?_
                have hq := bindO_inv hr
                clear hr
                obtain ⟨v36, e36, hr⟩ := hq
                have hq := asI_inv hr
                clear hr
                obtain ⟨x36, rfl, hr⟩ := hq
                refine wa_take (v := (.i .i64 x36)) rfl (a_ld rfl e36) ?_
                have hq := forceB_inv hr
                clear hr
                obtain ⟨c37, e37, hr⟩ := hq
                refine wa_take (v := (.b c37)) rfl (a_pure (p_bin rfl rfl (b_lss.trans (cb e37)))) ?_
                refine wa_step (v := (.b c37)) (a_pure (p_pickF rfl rfl)) ?_
                refine wa_nil ?_
                cases hr
                exact ja_in ⟨rfl, gl rfl, gl g0, gl g1, gl g6, gl rfl⟩
            · clear hr
              have hr := hk
              clear hk
              obtain ⟨c38, ho⟩ : ∃ z, z = o_1 := ⟨_, rfl⟩
              subst ho
              refine ja_out ?_
              rintro t_3 ⟨-, g38, g0, g1, g6, g7⟩
              refine wa_step (v := (.b c38)) (a_pure (p_mv g38)) ?_
              have hq := bindO_inv hr
              clear hr
              obtain ⟨o_2, hr, hk⟩ := hq
              refine wa_join 6 (JA (g38_J3 x0 v1 x6 v29 m0 o_2) m0 (m0.h) [] []) ?_ ?_
              · clear hk
                have hq := cond_inv hr
                clear hr
                rcases hq with ⟨rfl, hr⟩ | ⟨rfl, hr⟩
                · refine wa_skip (v := (.b true)) rfl rfl ?_
                  refine wa_skip (v := (.b true)) rfl rfl ?_
                  refine wa_skip (v := (.b true)) rfl rfl ?_
                  refine wa_skip (v := (.b true)) rfl rfl ?_
                  refine wa_skip (v := (.b true)) rfl rfl ?_
                  refine wa_step (v := (.b true)) (a_pure (p_pickT rfl rfl)) ?_
                  refine wa_nil ?_
                  cases hr
                  exact ja_in ⟨rfl, gl rfl, gl g0, gl g1, gl g6, gl g7⟩
                · refine wa_take (v := v29) rfl (a_pure (p_mv g7)) ?_
                  have hq := bindO_inv hr
                  clear hr
                  obtain ⟨v41, e41, hr⟩ := hq
                  refine wa_take (v := v41) rfl (a_pure (o_ixS rfl rfl e41)) ?_
                  have hq := bindO_inv hr
                  clear hr
                  obtain ⟨v42, e42, hr⟩ := hq
                  have hq := asI_inv hr
                  clear hr
                  obtain ⟨x42, rfl, hr⟩ := hq
                  refine wa_take (v := (.i .i64 x42)) rfl (a_ld rfl e42) ?_
                  refine wa_take (v := (.i .i64 x0)) rfl (a_pure (p_mv g0)) ?_
                  have hq := forceB_inv hr
                  clear hr
                  obtain ⟨c44, e44, hr⟩ := hq
                  refine wa_take (v := (.b c44)) rfl (a_pure (p_bin rfl rfl (b_geq.trans (cb e44)))) ?_
                  refine wa_step (v := (.b c44)) (a_pure (p_pickF rfl rfl)) ?_
                  refine wa_nil ?_
                  cases hr
                  exact ja_in ⟨rfl, gl rfl, gl g0, gl g1, gl g6, gl g7⟩
              · clear hr
                have hr := hk
                clear hk
                obtain ⟨c45, ho⟩ : ∃ z, z = o_2 := ⟨_, rfl⟩
                subst ho
                refine ja_out ?_
                rintro t_4 ⟨-, g45, g0, g1, g6, g7⟩
                refine wa_step (v := (.b c45)) (a_pure (p_mv g45)) ?_
                have hq := bindO_inv hr
                clear hr
                obtain ⟨o_3, hr, hk⟩ := hq
                refine wa_join 5 (JA (g38_J4 x0 v1 x6 v29 m0 o_3) m0 (m0.h) [] []) ?_ ?_
                · clear hk
                  have hq := cond_inv hr
                  clear hr
                  rcases hq with ⟨rfl, hr⟩ | ⟨rfl, hr⟩
                  · refine wa_skip (v := (.b true)) rfl rfl ?_
                    refine wa_skip (v := (.b true)) rfl rfl ?_
                    refine wa_skip (v := (.b true)) rfl rfl ?_
                    refine wa_skip (v := (.b true)) rfl rfl ?_
                    refine wa_step (v := (.b true)) (a_pure (p_pickT rfl rfl)) ?_
                    refine wa_nil ?_
                    cases hr
                    exact ja_in ⟨rfl, gl rfl, gl g0, gl g1, gl g6, gl g7⟩
                  · refine wa_take (v := v29) rfl (a_pure (p_mv g7)) ?_
                    have hq := bindO_inv hr
                    clear hr
                    obtain ⟨v48, e48, hr⟩ := hq
                    refine wa_take (v := v48) rfl (a_pure (o_ixS rfl rfl e48)) ?_
                    have hq := bindO_inv hr
                    clear hr
                    obtain ⟨v49, e49, hr⟩ := hq
                    have hq := asI_inv hr
                    clear hr
                    obtain ⟨x49, rfl, hr⟩ := hq
                    refine wa_take (v := (.i .i64 x49)) rfl (a_ld rfl e49) ?_
                    have hq := forceB_inv hr
                    clear hr
                    obtain ⟨c50, e50, hr⟩ := hq
                    refine wa_take (v := (.b c50)) rfl (a_pure (p_bin rfl rfl (b_lss.trans (cb e50)))) ?_
                    refine wa_step (v := (.b c50)) (a_pure (p_pickF rfl rfl)) ?_
                    refine wa_nil ?_
                    cases hr
                    exact ja_in ⟨rfl, gl rfl, gl g0, gl g1, gl g6, gl g7⟩
                · clear hr
                  have hr := hk
                  clear hk
                  obtain ⟨c51, ho⟩ : ∃ z, z = o_3 := ⟨_, rfl⟩
                  subst ho
                  refine ja_out ?_
                  rintro t_5 ⟨-, g51, g0, g1, g6, g7⟩
                  refine wa_step (v := (.b c51)) (a_pure (p_mv g51)) ?_
                  have hq := bindO_inv hr
                  clear hr
                  obtain ⟨o_4, hr, hk⟩ := hq
                  refine wa_join 6 (JA (g38_J5 x0 v1 x6 v29 m0 o_4) m0 (m0.h) [] []) ?_ ?_
                  · clear hk
                    have hq := cond_inv hr
                    clear hr
                    rcases hq with ⟨rfl, hr⟩ | ⟨rfl, hr⟩
                    · refine wa_skip (v := (.b true)) rfl rfl ?_
                      refine wa_skip (v := (.b true)) rfl rfl ?_
                      refine wa_skip (v := (.b true)) rfl rfl ?_
                      refine wa_skip (v := (.b true)) rfl rfl ?_
                      refine wa_skip (v := (.b true)) rfl rfl ?_
                      refine wa_step (v := (.b true)) (a_pure (p_pickT rfl rfl)) ?_
                      refine wa_nil ?_
                      cases hr
                      exact ja_in ⟨rfl, gl rfl, gl g0, gl g1, gl g6, gl g7⟩
                    · refine wa_take (v := v29) rfl (a_pure (p_mv g7)) ?_
                      have hq := bindO_inv hr
                      clear hr
                      obtain ⟨v54, e54, hr⟩ := hq
                      refine wa_take (v := v54) rfl (a_pure (o_ixS rfl rfl e54)) ?_
                      have hq := bindO_inv hr
                      clear hr
                      obtain ⟨v55, e55, hr⟩ := hq
                      have hq := asI_inv hr
                      clear hr
                      obtain ⟨x55, rfl, hr⟩ := hq
                      refine wa_take (v := (.i .i64 x55)) rfl (a_ld rfl e55) ?_
                      refine wa_take (v := (.i .i64 x0)) rfl (a_pure (p_mv g0)) ?_
                      have hq := forceB_inv hr
                      clear hr
                      obtain ⟨c57, e57, hr⟩ := hq
                      refine wa_take (v := (.b c57)) rfl (a_pure (p_bin rfl rfl (b_geq.trans (cb e57)))) ?_
                      refine wa_step (v := (.b c57)) (a_pure (p_pickF rfl rfl)) ?_
                      refine wa_nil ?_
                      cases hr
                      exact ja_in ⟨rfl, gl rfl, gl g0, gl g1, gl g6, gl g7⟩
                  · clear hr
                    have hr := hk
                    clear hk
                    obtain ⟨c58, ho⟩ : ∃ z, z = o_4 := ⟨_, rfl⟩
                    subst ho
                    refine ja_out ?_
                    rintro t_6 ⟨-, g58, g0, g1, g6, g7⟩
                    refine wa_step (v := (.b c58)) (a_pure (p_mv g58)) ?_
                    have hq := bindO_inv hr
                    clear hr
                    obtain ⟨o_5, hr, hk⟩ := hq
                    refine wa_join 8 (JA (g38_J6 x0 v1 x6 v29 m0 o_5) m0 (m0.h) [] []) ?_ ?_
                    · clear hk
                      have hq := cond_inv hr
                      clear hr
                      rcases hq with ⟨rfl, hr⟩ | ⟨rfl, hr⟩
                      · refine wa_skip (v := (.b true)) rfl rfl ?_
                        refine wa_skip (v := (.b true)) rfl rfl ?_
                        refine wa_skip (v := (.b true)) rfl rfl ?_
                        refine wa_skip (v := (.b true)) rfl rfl ?_
                        refine wa_skip (v := (.b true)) rfl rfl ?_
                        refine wa_skip (v := (.b true)) rfl rfl ?_
                        refine wa_skip (v := (.b true)) rfl rfl ?_
                        refine wa_step (v := (.b true)) (a_pure (p_pickT rfl rfl)) ?_
                        refine wa_nil ?_
                        cases hr
                        exact ja_in ⟨rfl, gl rfl, gl g0, gl g1, gl g6, gl g7⟩
                      · refine wa_take (v := v29) rfl (a_pure (p_mv g7)) ?_
                        have hq := bindO_inv hr
                        clear hr
                        obtain ⟨v61, e61, hr⟩ := hq
                        refine wa_take (v := v61) rfl (a_pure (o_ixS rfl rfl e61)) ?_
                        have hq := bindO_inv hr
                        clear hr
                        obtain ⟨v62, e62, hr⟩ := hq
                        have hq := asI_inv hr
                        clear hr
                        obtain ⟨x62, rfl, hr⟩ := hq
                        refine wa_take (v := (.i .i64 x62)) rfl (a_ld rfl e62) ?_
                        refine wa_take (v := v29) rfl (a_pure (p_mv g7)) ?_
                        have hq := bindO_inv hr
                        clear hr
                        obtain ⟨v64, e64, hr⟩ := hq
                        refine wa_take (v := v64) rfl (a_pure (o_ixS rfl rfl e64)) ?_
                        have hq := bindO_inv hr
                        clear hr
                        obtain ⟨v65, e65, hr⟩ := hq
                        have hq := asI_inv hr
                        clear hr
                        obtain ⟨x65, rfl, hr⟩ := hq
                        refine wa_take (v := (.i .i64 x65)) rfl (a_ld rfl e65) ?_
                        have hq := forceB_inv hr
                        clear hr
                        obtain ⟨c66, e66, hr⟩ := hq
                        refine wa_take (v := (.b c66)) rfl (a_pure (p_bin rfl rfl (b_eql.trans (cb e66)))) ?_
                        refine wa_step (v := (.b c66)) (a_pure (p_pickF rfl rfl)) ?_
                        refine wa_nil ?_
                        cases hr
                        exact ja_in ⟨rfl, gl rfl, gl g0, gl g1, gl g6, gl g7⟩
                    · clear hr
                      have hr := hk
                      clear hk
                      obtain ⟨c67, ho⟩ : ∃ z, z = o_5 := ⟨_, rfl⟩
                      subst ho
                      refine ja_out ?_
                      rintro t_7 ⟨-, g67, g0, g1, g6, g7⟩
                      refine wa_step (v := (.b c67)) (a_pure (p_mv g67)) ?_
                      have hq := bindO_inv hr
                      clear hr
                      obtain ⟨o_6, hr, hk⟩ := hq
                      refine wa_join 5 (JA (g38_J7 x0 v1 x6 v29 m0 o_6) m0 (m0.h) [] []) ?_ ?_
                      · clear hk
                        have hq := cond_inv hr
                        clear hr
                        rcases hq with ⟨rfl, hr⟩ | ⟨rfl, hr⟩
                        · refine wa_skip (v := (.b true)) rfl rfl ?_
                          refine wa_skip (v := (.b true)) rfl rfl ?_
                          refine wa_skip (v := (.b true)) rfl rfl ?_
                          refine wa_skip (v := (.b true)) rfl rfl ?_
                          refine wa_step (v := (.b true)) (a_pure (p_pickT rfl rfl)) ?_
                          refine wa_nil ?_
                          cases hr
                          exact ja_in ⟨rfl, gl rfl, gl g0, gl g1, gl g6, gl g7⟩
                        · refine wa_take (v := v29) rfl (a_pure (p_mv g7)) ?_
                          have hq := bindO_inv hr
                          clear hr
                          obtain ⟨v70, e70, hr⟩ := hq
                          refine wa_take (v := v70) rfl (a_pure (o_ixS rfl rfl e70)) ?_
                          have hq := bindO_inv hr
                          clear hr
                          obtain ⟨v71, e71, hr⟩ := hq
                          have hq := asI_inv hr
                          clear hr
                          obtain ⟨x71, rfl, hr⟩ := hq
                          refine wa_take (v := (.i .i64 x71)) rfl (a_ld rfl e71) ?_
                          have hq := forceB_inv hr
                          clear hr
                          obtain ⟨c72, e72, hr⟩ := hq
                          refine wa_take (v := (.b c72)) rfl (a_pure (p_bin rfl rfl (b_lss.trans (cb e72)))) ?_
                          refine wa_step (v := (.b c72)) (a_pure (p_pickF rfl rfl)) ?_
                          refine wa_nil ?_
                          cases hr
                          exact ja_in ⟨rfl, gl rfl, gl g0, gl g1, gl g6, gl g7⟩
                      · clear hr
                        have hr := hk
                        clear hk
                        obtain ⟨c73, ho⟩ : ∃ z, z = o_6 := ⟨_, rfl⟩
                        subst ho
                        refine ja_out ?_
                        rintro t_8 ⟨-, g73, g0, g1, g6, g7⟩
                        refine wa_step (v := (.b c73)) (a_pure (p_mv g73)) ?_
                        have hq := bindO_inv hr
                        clear hr
                        obtain ⟨o_7, hr, hk⟩ := hq
                        refine wa_join 5 (JA (g38_J8 x0 v1 x6 m0 o_7) m0 (m0.h) [] []) ?_ ?_
                        · clear hk
                          have hq := cond_inv hr
                          clear hr
                          rcases hq with ⟨rfl, hr⟩ | ⟨rfl, hr⟩
                          · refine wa_skip (v := (.b true)) rfl rfl ?_
                            refine wa_skip (v := (.b true)) rfl rfl ?_
                            refine wa_skip (v := (.b true)) rfl rfl ?_
                            refine wa_skip (v := (.b true)) rfl rfl ?_
                            refine wa_step (v := (.b true)) (a_pure (p_pickT rfl rfl)) ?_
                            refine wa_nil ?_
                            cases hr
                            exact ja_in ⟨rfl, gl rfl, gl g0, gl g1, gl g6⟩
                          · refine wa_take (v := v29) rfl (a_pure (p_mv g7)) ?_
                            have hq := bindO_inv hr
                            clear hr
                            obtain ⟨v76, e76, hr⟩ := hq
                            refine wa_take (v := v76) rfl (a_pure (o_ixS rfl rfl e76)) ?_
                            have hq := bindO_inv hr
                            clear hr
                            obtain ⟨v77, e77, hr⟩ := hq
                            have hq := asI_inv hr
                            clear hr
                            obtain ⟨x77, rfl, hr⟩ := hq
                            refine wa_take (v := (.i .i64 x77)) rfl (a_ld rfl e77) ?_
                            have hq := forceB_inv hr
                            clear hr
                            obtain ⟨c78, e78, hr⟩ := hq
                            refine wa_take (v := (.b c78)) rfl (a_pure (p_bin rfl rfl (b_gtr.trans (cb e78)))) ?_
                            refine wa_step (v := (.b c78)) (a_pure (p_pickF rfl rfl)) ?_
                            refine wa_nil ?_
                            cases hr
                            exact ja_in ⟨rfl, gl rfl, gl g0, gl g1, gl g6⟩
                        · clear hr
                          have hr := hk
                          clear hk
                          obtain ⟨c79, ho⟩ : ∃ z, z = o_7 := ⟨_, rfl⟩
                          subst ho
                          refine ja_out ?_
                          rintro t_9 ⟨-, g79, g0, g1, g6⟩
                          refine wa_nil ?_
                          refine ⟨m0, rfl, ?_⟩
                          refine nx_norm ?_
                          have hq := cond_inv hr
                          clear hr
                          rcases hq with ⟨rfl, hr⟩ | ⟨rfl, hr⟩
                          · refine w_condT g79 ?_
                            refine w_seq ?_
                            refine w_ops ?_
                            refine wo_step (v := AVal.nsl) (s_pure (p_mv rfl)) ?_
                            refine wo_step (v := (.i .i64 2)) (s_pure (p_mv rfl)) ?_
                            refine wo_nil ?_
                            refine nx_norm ?_
                            refine w_ret ?_
                            refine bk_ret ?_
                            refine nx_ret ?_
                            cases hr
                            exact ⟨_, _, rfl, ne_norm_ret, rfl, rfl, gl rfl, gl rfl⟩
                          · refine w_condF g79 ?_
                            refine w_skip ?_
                            refine bk_norm ?_
                            refine nx_norm ?_
                            refine w_ops ?_
                            refine wo_step (v := (.i .i64 x6)) (s_pure (p_mv g6)) ?_
                            have hq := forceI_inv hr
                            clear hr
                            obtain ⟨x25, e25, hr⟩ := hq
                            refine wo_step (v := (.i .i64 x25)) (s_pure (p_bin rfl rfl (b_add.trans (ci e25)))) ?_
                            refine wo_step (v := (.i .i64 x25)) (s_pure (p_mv rfl)) ?_
                            refine wo_nil ?_
                            cases hr
                            exact ⟨_, _, rfl, rfl, rfl, gl rfl, gl g0, gl g1⟩
          · refine w_condF rfl ?_
            refine w_exit ?_
            refine nx_exit ?_
            cases hr
            exact ⟨_, _, rfl, ne_norm_exit, rfl, rfl, gl g0, gl g1⟩
        · rcases o_8 with o_8 | o_8
          · rintro _ mm_6 t_10 ⟨rfl, rfl, g0, g1⟩
            refine bk_hit ?_
            refine nx_norm ?_
            refine w_seq ?_
            refine w_ops ?_
            refine wo_step (v := (.i .i64 x0)) (s_pure (p_mv g0)) ?_
            have hq := chk_inv hr
            clear hr
            obtain ⟨hc81, hr⟩ := hq
            have hq := forceI_inv hr
            clear hr
            obtain ⟨x81, e81, hr⟩ := hq
            refine wo_step (v := (.i .i64 x81)) (s_pure (p_bin rfl rfl ((b_shl hc81).trans (ci e81)))) ?_
            have hq := bindP_inv hr
            clear hr
            obtain ⟨v82, m_1, e82, hr⟩ := hq
            refine wo_step (v := v82) (s_mk rfl rfl e82) ?_
            refine wo_step (v := v82) (s_pure (p_mv rfl)) ?_
            refine wo_nil ?_
            refine nx_norm ?_
            refine w_seq ?_
            refine w_seq ?_
            refine w_ops ?_
            refine wo_step (v := (.i .i64 0)) (s_pure (p_mv rfl)) ?_
            refine wo_nil ?_
            refine nx_norm ?_
            refine w_block ?_
            have hq := bindO_inv hr
            clear hr
            obtain ⟨o_11, hl_1, hr⟩ := hq
            obtain ⟨n_1, hl_1⟩ := hM.loop _ _ _ hl_1
            refine jp_mono (w_loop _ (g38_I9 v1 v82) (g38_J9 v1 v82) ?_ n_1 _ _ _ _ hl_1 ⟨rfl, gl rfl, gl g1, gl rfl⟩) ?_
            · clear hr hl_1
              intro s mm_5 t_11 o hi hr
              obtain ⟨x9, m_2⟩ := s
              obtain ⟨rfl, g9, g1, g8⟩ := hi
              unfold g38_b9 at hr
              refine w_seq ?_
              refine w_seq ?_
              refine w_ops ?_
              refine wo_step (v := (.i .i64 x9)) (s_pure (p_mv g9)) ?_
              refine wo_step (v := v82) (s_pure (p_mv g8)) ?_
              have hq := bindO_inv hr
              clear hr
              obtain ⟨v85, e85, hr⟩ := hq
              have hq := asI_inv hr
              clear hr
              obtain ⟨x85, rfl, hr⟩ := hq
              refine wo_step (v := (.i .i64 x85)) (s_pure (o_len rfl e85)) ?_
              have hq := forceB_inv hr
              clear hr
              obtain ⟨c86, e86, hr⟩ := hq
              refine wo_step (v := (.b c86)) (s_pure (p_bin rfl rfl (b_lss.trans (cb e86)))) ?_
              refine wo_nil ?_
              refine nx_norm ?_
              have hq := cond_inv hr
              clear hr
              rcases hq with ⟨rfl, hr⟩ | ⟨rfl, hr⟩
              · refine w_condT rfl ?_
                refine w_skip ?_
                refine nx_norm ?_
                refine w_seq ?_
                refine w_block ?_
                refine w_seq ?_
                refine w_ops ?_
                refine wo_step (v := (.i .i64 0)) (s_pure (p_mv rfl)) ?_
                refine wo_nil ?_
                refine nx_norm ?_
                refine w_block ?_
                have hq := bindO_inv hr
                clear hr
                obtain ⟨o_10, hl, hr⟩ := hq
                obtain ⟨n, hl⟩ := hM.loop _ _ _ hl
                refine jp_mono (w_loop _ (g38_I10 v1 v82 x9) (g38_J10 v1 v82 x9) ?_ n _ _ _ _ hl ⟨rfl, gl rfl, gl g1, gl g8, gl g9⟩) ?_
                · clear hr hl
                  intro s mm_3 t_12 o hi hr
                  obtain ⟨x10, m_3⟩ := s
                  obtain ⟨rfl, g10, g1, g8, g9⟩ := hi
                  unfold g38_b10 at hr
                  refine w_seq ?_
                  refine w_seq ?_
                  refine w_ops ?_
                  refine wo_step (v := (.i .i64 x10)) (s_pure (p_mv g10)) ?_
                  refine wo_step (v := v1) (s_pure (p_mv g1)) ?_
                  have hq := bindO_inv hr
                  clear hr
                  obtain ⟨v91, e91, hr⟩ := hq
                  have hq := asI_inv hr
                  clear hr
                  obtain ⟨x91, rfl, hr⟩ := hq
                  refine wo_step (v := (.i .i64 x91)) (s_pure (o_len rfl e91)) ?_
                  have hq := forceB_inv hr
                  clear hr
                  obtain ⟨c92, e92, hr⟩ := hq
                  refine wo_step (v := (.b c92)) (s_pure (p_bin rfl rfl (b_lss.trans (cb e92)))) ?_
                  refine wo_nil ?_
                  refine nx_norm ?_
                  have hq := cond_inv hr
                  clear hr
                  rcases hq with ⟨rfl, hr⟩ | ⟨rfl, hr⟩
                  · refine w_condT rfl ?_
                    refine w_skip ?_
                    refine nx_norm ?_
                    refine w_seq ?_
                    refine w_block ?_
                    refine w_seq ?_
                    refine w_any ?_
                    refine wa_step (v := (.i .i64 x9)) (a_pure (p_mv g9)) ?_
                    refine wa_step (v := v1) (a_pure (p_mv g1)) ?_
                    refine wa_step (v := (.i .i64 x10)) (a_pure (p_mv g10)) ?_
                    have hq := bindO_inv hr
                    clear hr
                    obtain ⟨v98, e98, hr⟩ := hq
                    refine wa_step (v := v98) (a_pure (o_ixS rfl rfl e98)) ?_
                    have hq := bindO_inv hr
                    clear hr
                    obtain ⟨v99, e99, hr⟩ := hq
                    refine wa_step (v := v99) (a_ld rfl e99) ?_
                    have hq := bindO_inv hr
                    clear hr
                    obtain ⟨v100, e100, hr⟩ := hq
                    refine wa_step (v := v100) (a_pure (o_ixS rfl rfl e100)) ?_
                    have hq := bindO_inv hr
                    clear hr
                    obtain ⟨v101, e101, hr⟩ := hq
                    have hq := asI_inv hr
                    clear hr
                    obtain ⟨x101, rfl, hr⟩ := hq
                    refine wa_step (v := (.i .i64 x101)) (a_ld rfl e101) ?_
                    have hq := chk_inv hr
                    clear hr
                    obtain ⟨hc102, hr⟩ := hq
                    have hq := forceI_inv hr
                    clear hr
                    obtain ⟨x102, e102, hr⟩ := hq
                    refine wa_step (v := (.i .i64 x102)) (a_pure (p_bin rfl rfl ((b_shr hc102).trans (ci e102)))) ?_
                    have hq := forceI_inv hr
                    clear hr
                    obtain ⟨x103, e103, hr⟩ := hq
                    refine wa_step (v := (.i .i64 x103)) (a_pure (p_bin rfl rfl ((b_rem rfl).trans (ci e103)))) ?_
                    refine wa_step (v := (.i .i64 x9)) (a_pure (p_mv g9)) ?_
                    refine wa_step (v := v1) (a_pure (p_mv g1)) ?_
                    refine wa_step (v := (.i .i64 x10)) (a_pure (p_mv g10)) ?_
                    have hq := bindO_inv hr
                    clear hr
                    obtain ⟨v107, e107, hr⟩ := hq
                    refine wa_step (v := v107) (a_pure (o_ixS rfl rfl e107)) ?_
                    have hq := bindO_inv hr
                    clear hr
                    obtain ⟨v108, e108, hr⟩ := hq
                    refine wa_step (v := v108) (a_ld rfl e108) ?_
                    have hq := bindO_inv hr
                    clear hr
                    obtain ⟨v109, e109, hr⟩ := hq
                    refine wa_step (v := v109) (a_pure (o_ixS rfl rfl e109)) ?_
                    have hq := bindO_inv hr
                    clear hr
                    obtain ⟨v110, e110, hr⟩ := hq
                    have hq := asI_inv hr
                    clear hr
                    obtain ⟨x110, rfl, hr⟩ := hq
                    refine wa_step (v := (.i .i64 x110)) (a_ld rfl e110) ?_
                    have hq := chk_inv hr
                    clear hr
                    obtain ⟨hc111, hr⟩ := hq
                    have hq := forceI_inv hr
                    clear hr
                    obtain ⟨x111, e111, hr⟩ := hq
                    refine wa_step (v := (.i .i64 x111)) (a_pure (p_bin rfl rfl ((b_shr hc111).trans (ci e111)))) ?_
                    have hq := forceI_inv hr
                    clear hr
                    obtain ⟨x112, e112, hr⟩ := hq
                    refine wa_step (v := (.i .i64 x112)) (a_pure (p_bin rfl rfl ((b_rem rfl).trans (ci e112)))) ?_
                    have hq := forceB_inv hr
                    clear hr
                    obtain ⟨c113, e113, hr⟩ := hq
                    refine wa_step (v := (.b c113)) (a_pure (p_bin rfl rfl (b_neq.trans (cb e113)))) ?_
                    refine wa_nil ?_
                    refine ⟨m_3, rfl, ?_⟩
                    refine nx_norm ?_
                    have hq := bindO_inv hr
                    clear hr
                    obtain ⟨o_9, hr, hk⟩ := hq
                    refine jp_mono (J := g38_J11 v1 v82 x9 x10 o_9) ?_ ?_
                    · clear hk
                      have hq := cond_inv hr
                      clear hr
                      rcases hq with ⟨rfl, hr⟩ | ⟨rfl, hr⟩
                      · refine w_condT rfl ?_
                        refine w_any ?_
                        refine wa_step (v := v82) (a_pure (p_mv g8)) ?_
                        refine wa_step (v := (.i .i64 x9)) (a_pure (p_mv g9)) ?_
                        have hq := bindO_inv hr
                        clear hr
                        obtain ⟨v116, e116, hr⟩ := hq
                        refine wa_step (v := v116) (a_pure (o_ixS rfl rfl e116)) ?_
                        have hq := bindO_inv hr
                        clear hr
                        obtain ⟨v117, e117, hr⟩ := hq
                        have hq := asI_inv hr
                        clear hr
                        obtain ⟨x117, rfl, hr⟩ := hq
                        refine wa_step (v := (.i .i64 x117)) (a_ld rfl e117) ?_
                        refine wa_step (v := v1) (a_pure (p_mv g1)) ?_
                        refine wa_step (v := (.i .i64 x10)) (a_pure (p_mv g10)) ?_
                        have hq := bindO_inv hr
                        clear hr
                        obtain ⟨v120, e120, hr⟩ := hq
                        refine wa_step (v := v120) (a_pure (o_ixS rfl rfl e120)) ?_
                        have hq := bindO_inv hr
                        clear hr
                        obtain ⟨v121, e121, hr⟩ := hq
                        refine wa_step (v := v121) (a_ld rfl e121) ?_
                        have hq := bindO_inv hr
                        clear hr
                        obtain ⟨v122, e122, hr⟩ := hq
                        refine wa_step (v := v122) (a_pure (o_ixS rfl rfl e122)) ?_
                        have hq := bindO_inv hr
                        clear hr
                        obtain ⟨v123, e123, hr⟩ := hq
                        have hq := asI_inv hr
                        clear hr
                        obtain ⟨x123, rfl, hr⟩ := hq
                        refine wa_step (v := (.i .i64 x123)) (a_ld rfl e123) ?_
                        have hq := forceI_inv hr
                        clear hr
                        obtain ⟨x124, e124, hr⟩ := hq
                        refine wa_step (v := (.i .i64 x124)) (a_pure (p_bin rfl rfl (b_add.trans (ci e124)))) ?_
                        have hq := bindO_inv hr
                        clear hr
                        obtain ⟨v125, e125, hr⟩ := hq
                        refine wa_step (v := v125) (a_pure (o_ixS rfl rfl e125)) ?_
                        have hq := asP_inv hr
                        clear hr
                        obtain ⟨qs, eqs, hr⟩ := hq
                        refine wa_stepN (a_st (Eq.trans (b := v125) rfl eqs) rfl rfl) ?_
                        have hq := bindO_inv hr
                        clear hr
                        obtain ⟨m_4, ew, hr⟩ := hq
                        refine wa_nil ?_
                        refine ⟨m_4, ew, ?_⟩
                        cases hr
                        exact ⟨_, _, rfl, rfl, rfl, gl g1, gl g8, gl g9, gl g10⟩
                      · refine w_condF rfl ?_
                        refine w_skip ?_
                        cases hr
                        exact ⟨_, _, rfl, rfl, rfl, gl g1, gl g8, gl g9, gl g10⟩
                    · clear hr
                      have hr := hk
                      clear hk
                      obtain ⟨m_5, ho⟩ : ∃ z, z = o_9 := ⟨_, rfl⟩
                      subst ho
                      rintro _ mm_1 t_13 ⟨rfl, rfl, g1, g8, g9, g10⟩
                      refine bk_norm ?_
                      refine nx_norm ?_
                      refine w_ops ?_
                      refine wo_step (v := (.i .i64 x10)) (s_pure (p_mv g10)) ?_
                      have hq := forceI_inv hr
                      clear hr
                      obtain ⟨x94, e94, hr⟩ := hq
                      refine wo_step (v := (.i .i64 x94)) (s_pure (p_bin rfl rfl (b_add.trans (ci e94)))) ?_
                      refine wo_step (v := (.i .i64 x94)) (s_pure (p_mv rfl)) ?_
                      refine wo_nil ?_
                      cases hr
                      exact ⟨_, _, rfl, rfl, rfl, gl rfl, gl g1, gl g8, gl g9⟩
                  · refine w_condF rfl ?_
                    refine w_exit ?_
                    refine nx_exit ?_
                    cases hr
                    exact ⟨_, _, rfl, ne_norm_exit, rfl, rfl, gl g1, gl g8, gl g9⟩
                · obtain ⟨m_6, ho⟩ : ∃ z, z = o_10 := ⟨_, rfl⟩
                  subst ho
                  rintro _ mm_2 t_14 ⟨rfl, rfl, g1, g8, g9⟩
                  refine bk_hit ?_
                  refine bk_norm ?_
                  refine nx_norm ?_
                  refine w_ops ?_
                  refine wo_step (v := (.i .i64 x9)) (s_pure (p_mv g9)) ?_
                  have hq := forceI_inv hr
                  clear hr
                  obtain ⟨x88, e88, hr⟩ := hq
                  refine wo_step (v := (.i .i64 x88)) (s_pure (p_bin rfl rfl (b_add.trans (ci e88)))) ?_
                  refine wo_step (v := (.i .i64 x88)) (s_pure (p_mv rfl)) ?_
                  refine wo_nil ?_
                  cases hr
                  exact ⟨_, _, rfl, rfl, rfl, gl rfl, gl g1, gl g8⟩
              · refine w_condF rfl ?_
                refine w_exit ?_
                refine nx_exit ?_
                cases hr
                exact ⟨_, _, rfl, ne_norm_exit, rfl, rfl, gl g8⟩
            · obtain ⟨m_7, ho⟩ : ∃ z, z = o_11 := ⟨_, rfl⟩
              subst ho
              rintro _ mm_4 t_15 ⟨rfl, rfl, g8⟩
              refine bk_hit ?_
              refine nx_norm ?_
              refine w_seq ?_
              refine w_ops ?_
              refine wo_step (v := v82) (s_pure (p_mv g8)) ?_
              refine wo_step (v := v82) (s_pure (p_mv rfl)) ?_
              refine wo_step (v := (.i .i64 0)) (s_pure (p_mv rfl)) ?_
              refine wo_nil ?_
              refine nx_norm ?_
              refine w_ret ?_
              exact qf ret_ok (rt rfl (rt rfl rn)) hr
          · obtain ⟨v4, x5⟩ := o_8
            rintro _ mm_7 t_16 ⟨rfl, rfl, g4, g5⟩
            refine bk_ret ?_
            refine nx_ret ?_
            exact qf ret_ok (rt g4 (rt g5 rn)) hr

/- dibber/share.groups -/
abbrev g45_I0 (v1 : AVal) (x8 : Int) (s : AVal × Int × Mm) (m1 : Mm) (t1 : Tr) : Prop :=
  match s with
  | (v5, x9, m_1) => m_1 = m1 ∧ t1.get 5 = v5 ∧ t1.get 9 = (.i .i64 x9) ∧ t1.get 1 = v1 ∧ t1.get 8 = (.i .i64 x8)
abbrev g45_J0 (v1 : AVal) (x8 : Int) (o : (AVal × Mm)) (e : AExit) (m1 : Mm) (t1 : Tr) : Prop :=
  match o with
  | (y5, mo) => e = (.exit 0) ∧ mo = m1 ∧ t1.get 5 = y5
abbrev g45_J1 (v1 : AVal) (x8 : Int) (x9 : Int) (o : (AVal × Mm)) (e : AExit) (m1 : Mm) (t1 : Tr) : Prop :=
  match o with
  | (y5, mo) => e = .norm ∧ mo = m1 ∧ t1.get 5 = y5 ∧ t1.get 1 = v1 ∧ t1.get 8 = (.i .i64 x8) ∧ t1.get 9 = (.i .i64 x9)
def g45_b0 (M : Means) (ro : List ABlk) (v1 : AVal) (x8 : Int) (v5 : AVal) (x9 : Int) (m_1 : Mm) : Option ((AVal × Int × Mm) ⊕ ((AVal × Mm))) :=
  forceB (ltI x9 x8) fun c10 =>
  cond c10 (
    bindP (callM M.call m_1 88 [(.i .i64 x9), v1]) fun v14 m_2 =>
    asB v14 fun c14 =>
    bindO (α := (AVal × Mm)) (
      cond c14 (
        bindP (stepM ro m_2 (.bsl 3 1 [(AVal.i IntKind.i64 0)] 1 [((0, 1), .c (.i .i64 x9))])) fun v17 m_3 =>
        bindP (stepM ro m_3 (.app 3 1 8 [(AVal.i IntKind.i64 0)] (.c v5) (.c v17))) fun v18 m_4 =>
        some (v18, m_4)) (
        some (v5, m_2))) fun ⟨v5_1, m_5⟩ =>
    forceI (wr .i64 (x9 + 1)) fun x19 =>
    some (.inl (v5_1, x19, m_5))) (
    some (.inr (v5, m_1)))
def g45 (M : Means) (ro : List ABlk) (x0 : Int) (v1 : AVal) (m0 : Mm) : Option (AVal × Heap × Nat × Nat) :=
  chk (!ltI x0 (.ofNat 0)) <|
  forceI (shlV .i64 1 x0) fun x8 =>
  bindO (M.loop (S := AVal × Int × Mm) (R := (AVal × Mm)) (fun s => g45_b0 M ro v1 x8 s.1 s.2.1 s.2.2) (AVal.nsl, 0, m0)) fun ⟨v5_2, m_6⟩ =>
  finM m0.h.length (tupA [v5_2]) m_6

theorem g45_ok {ro : List ABlk} {O : Caller} {M : Means} (hM : M.Ok ⟨F, O⟩ ro) {x0 v1 h r} (ho : O 45 [(.i .i64 x0), v1] h = none) (hr : g45 M ro x0 v1 ⟨h, h.length, h.length⟩ = some r) : callX ⟨F, O⟩ ro 45 [(.i .i64 x0), v1] h = some r := by
  refine callX_of (F := ⟨F, O⟩) (fn := fn45) (g := g45 M ro x0 v1) ho rfl rfl hr ?_
  clear ho
  clear hr
  intro m0 t0 ht hr
  have g0 : t0.get 0 = (.i .i64 x0) := ht 0
  have g1 : t0.get 1 = v1 := ht 1
  clear ht
  unfold g45 at hr
  refine w_seq ?_
  refine w_ops ?_
  refine wo_step (v := AVal.nsl) (s_pure (p_mv rfl)) ?_
  refine wo_nil ?_
  refine nx_norm ?_
  refine w_seq ?_
  refine w_ops ?_
  refine wo_step (v := AVal.nsl) (s_pure (p_mv rfl)) ?_
  refine wo_nil ?_
  refine nx_norm ?_
  refine w_seq ?_
  refine w_seq ?_
  refine w_ops ?_
  refine wo_step (v := (.i .i64 x0)) (s_pure (p_mv g0)) ?_
  have hq := chk_inv hr
  clear hr
  obtain ⟨hc8, hr⟩ := hq
  have hq := forceI_inv hr
  clear hr
  obtain ⟨x8, e8, hr⟩ := hq
  refine wo_step (v := (.i .i64 x8)) (s_pure (p_bin rfl rfl ((b_shl hc8).trans (ci e8)))) ?_
  refine wo_step (v := (.i .i64 0)) (s_pure (p_mv rfl)) ?_
  refine wo_nil ?_
  refine nx_norm ?_
  refine w_block ?_
  have hq := bindO_inv hr
  clear hr
  obtain ⟨o_1, hl, hr⟩ := hq
  obtain ⟨n, hl⟩ := hM.loop _ _ _ hl
  refine jp_mono (w_loop _ (g45_I0 v1 x8) (g45_J0 v1 x8) ?_ n _ _ _ _ hl ⟨rfl, gl rfl, gl rfl, gl g1, gl rfl⟩) ?_
  · clear hr hl
    intro s mm_2 t_1 o hi hr
    obtain ⟨v5, x9, m_1⟩ := s
    obtain ⟨rfl, g5, g9, g1, g8⟩ := hi
    unfold g45_b0 at hr
    refine w_seq ?_
    refine w_ops ?_
    have hq := forceB_inv hr
    clear hr
    obtain ⟨c10, e10, hr⟩ := hq
    refine wo_step (v := (.b c10)) (s_pure (p_bin g9 g8 (b_lss.trans (cb e10)))) ?_
    refine wo_nil ?_
    refine nx_norm ?_
    refine w_seq ?_
    have hq := cond_inv hr
    clear hr
    rcases hq with ⟨rfl, hr⟩ | ⟨rfl, hr⟩
    · refine w_condT rfl ?_
      refine w_skip ?_
      refine nx_norm ?_
      refine w_seq ?_
      refine w_block ?_
      refine w_seq ?_
      refine w_ops ?_
      refine wo_step (v := (.i .i64 x9)) (s_pure (p_mv g9)) ?_
      refine wo_step (v := (.i .i64 x9)) (s_pure (p_mv rfl)) ?_
      refine wo_nil ?_
      refine nx_norm ?_
      refine w_seq ?_
      refine w_ops ?_
      refine wo_step (v := (.i .i64 x9)) (s_pure (p_mv rfl)) ?_
      refine wo_step (v := v1) (s_pure (p_mv g1)) ?_
      have hq := bindP_inv hr
      clear hr
      obtain ⟨v14, m_2, e14, hr⟩ := hq
      have hq := asB_inv hr
      clear hr
      obtain ⟨c14, rfl, hr⟩ := hq
      refine wo_step (v := (.b c14)) (s_call (mc rfl (mc rfl mn)) (callM_le hM.call e14)) ?_
      refine wo_nil ?_
      refine nx_norm ?_
      have hq := bindO_inv hr
      clear hr
      obtain ⟨o, hr, hk⟩ := hq
      refine jp_mono (J := g45_J1 v1 x8 x9 o) ?_ ?_
      · clear hk
        have hq := cond_inv hr
        clear hr
        rcases hq with ⟨rfl, hr⟩ | ⟨rfl, hr⟩
        · refine w_condT rfl ?_
          refine w_ops ?_
          refine wo_step (v := v5) (s_pure (p_mv g5)) ?_
          refine wo_step (v := (.i .i64 x9)) (s_pure (p_mv rfl)) ?_
          have hq := bindP_inv hr
          clear hr
          obtain ⟨v17, m_3, e17, hr⟩ := hq
          refine wo_step (v := v17) (s_bsl (qc rfl qn) e17) ?_
          have hq := bindP_inv hr
          clear hr
          obtain ⟨v18, m_4, e18, hr⟩ := hq
          refine wo_step (v := v18) (s_app rfl rfl e18) ?_
          refine wo_step (v := v18) (s_pure (p_mv rfl)) ?_
          refine wo_nil ?_
          cases hr
          exact ⟨_, _, rfl, rfl, rfl, gl rfl, gl g1, gl g8, gl g9⟩
        · refine w_condF rfl ?_
          refine w_skip ?_
          cases hr
          exact ⟨_, _, rfl, rfl, rfl, gl g5, gl g1, gl g8, gl g9⟩
      · clear hr
        have hr := hk
        clear hk
        obtain ⟨v5_1, m_5⟩ := o
        rintro _ mm t_2 ⟨rfl, rfl, g5, g1, g8, g9⟩
        refine bk_norm ?_
        refine nx_norm ?_
        refine w_ops ?_
        have hq := forceI_inv hr
        clear hr
        obtain ⟨x19, e19, hr⟩ := hq
        refine wo_step (v := (.i .i64 x19)) (s_pure (p_bin g9 rfl (b_add.trans (ci e19)))) ?_
        refine wo_step (v := (.i .i64 x19)) (s_pure (p_mv rfl)) ?_
        refine wo_nil ?_
        cases hr
        exact ⟨_, _, rfl, rfl, rfl, gl g5, gl rfl, gl g1, gl g8⟩
    · refine w_condF rfl ?_
      refine w_exit ?_
      refine nx_exit ?_
      cases hr
      exact ⟨_, _, rfl, ne_norm_exit, rfl, rfl, gl g5⟩
  · obtain ⟨v5_2, m_6⟩ := o_1
    rintro _ mm_1 t_3 ⟨rfl, rfl, g5⟩
    refine bk_hit ?_
    refine nx_norm ?_
    refine w_seq ?_
    refine w_ops ?_
    refine wo_step (v := v5_2) (s_pure (p_mv g5)) ?_
    refine wo_step (v := v5_2) (s_pure (p_mv rfl)) ?_
    refine wo_nil ?_
    refine nx_norm ?_
    refine w_ret ?_
    exact qf ret_ok (rt rfl rn) hr

/- dibber/share.has -/

def g60 (M : Means) (ro : List ABlk) (x0 : Int) (x1 : Int) (m0 : Mm) : Option (AVal × Heap × Nat × Nat) :=
  chk (!ltI x1 (.ofNat 0)) <|
  forceI (shrV .i64 x0 x1) fun x7 =>
  forceI (bitV .and .i64 x7 1) fun x8 =>
  forceB (eqI x8 1) fun c9 =>
  finM m0.h.length (tupA [(.b c9)]) m0

theorem g60_ok {ro : List ABlk} {O : Caller} {M : Means} (hM : M.Ok ⟨F, O⟩ ro) {x0 x1 h r} (ho : O 60 [(.i .i64 x0), (.i .i64 x1)] h = none) (hr : g60 M ro x0 x1 ⟨h, h.length, h.length⟩ = some r) : callX ⟨F, O⟩ ro 60 [(.i .i64 x0), (.i .i64 x1)] h = some r := by
  refine callX_of (F := ⟨F, O⟩) (fn := fn60) (g := g60 M ro x0 x1) ho rfl rfl hr ?_
  clear ho
  clear hr
  intro m0 t0 ht hr
  have g0 : t0.get 0 = (.i .i64 x0) := ht 0
  have g1 : t0.get 1 = (.i .i64 x1) := ht 1
  clear ht
  unfold g60 at hr
  refine w_seq ?_
  refine w_ops ?_
  refine wo_step (v := (.b false)) (s_pure (p_mv rfl)) ?_
  refine wo_nil ?_
  refine nx_norm ?_
  refine w_seq ?_
  refine w_ops ?_
  refine wo_step (v := (.i .i64 x0)) (s_pure (p_mv g0)) ?_
  refine wo_step (v := (.i .i64 x1)) (s_pure (p_mv g1)) ?_
  have hq := chk_inv hr
  clear hr
  obtain ⟨hc7, hr⟩ := hq
  have hq := forceI_inv hr
  clear hr
  obtain ⟨x7, e7, hr⟩ := hq
  refine wo_step (v := (.i .i64 x7)) (s_pure (p_bin rfl rfl ((b_shr hc7).trans (ci e7)))) ?_
  have hq := forceI_inv hr
  clear hr
  obtain ⟨x8, e8, hr⟩ := hq
  refine wo_step (v := (.i .i64 x8)) (s_pure (p_bin rfl rfl (b_and.trans (ci e8)))) ?_
  have hq := forceB_inv hr
  clear hr
  obtain ⟨c9, e9, hr⟩ := hq
  refine wo_step (v := (.b c9)) (s_pure (p_bin rfl rfl (b_eql.trans (cb e9)))) ?_
  refine wo_step (v := (.b c9)) (s_pure (p_mv rfl)) ?_
  refine wo_nil ?_
  refine nx_norm ?_
  refine w_ret ?_
  exact qf ret_ok (rt rfl rn) hr

/- dibber/share.isCount -/
abbrev g84_J0 (m0 : Mm) (o : Bool) (m1 : Mm) (t1 : Tr) : Prop :=
  match o with
  | c8 => m0 = m1 ∧ t1.get 8 = (.b c8)
def g84 (M : Means) (ro : List ABlk) (x0 : Int) (m0 : Mm) : Option (AVal × Heap × Nat × Nat) :=
  forceB (!ltI x0 1) fun c4 =>
  bindO (cond c4 (
    forceB (!ltI 6 x0) fun c7 =>
    some c7) (
    some false)) fun c8 =>
  finM m0.h.length (tupA [(.b c8)]) m0

theorem g84_ok {ro : List ABlk} {O : Caller} {M : Means} (hM : M.Ok ⟨F, O⟩ ro) {x0 h r} (ho : O 84 [(.i .i64 x0)] h = none) (hr : g84 M ro x0 ⟨h, h.length, h.length⟩ = some r) : callX ⟨F, O⟩ ro 84 [(.i .i64 x0)] h = some r := by
  refine callX_of (F := ⟨F, O⟩) (fn := fn84) (g := g84 M ro x0) ho rfl rfl hr ?_
  clear ho
  clear hr
  intro m0 t0 ht hr
  have g0 : t0.get 0 = (.i .i64 x0) := ht 0
  clear ht
  unfold g84 at hr
  refine w_seq ?_
  refine w_ops ?_
  refine wo_step (v := (.b false)) (s_pure (p_mv rfl)) ?_
  refine wo_nil ?_
  refine nx_norm ?_
  refine w_seq ?_
  refine w_ops ?_
  refine wo_step (v := (.i .i64 x0)) (s_pure (p_mv g0)) ?_
  have hq := forceB_inv hr
  clear hr
  obtain ⟨c4, e4, hr⟩ := hq
  refine wo_step (v := (.b c4)) (s_pure (p_bin rfl rfl (b_leq.trans (cb e4)))) ?_
  refine wo_step (v := (.b c4)) (s_pure (p_mv rfl)) ?_
  have hq := bindO_inv hr
  clear hr
  obtain ⟨o, hr, hk⟩ := hq
  refine wo_join 3 (g84_J0 m0 o) ?_ ?_
  · clear hk
    have hq := cond_inv hr
    clear hr
    rcases hq with ⟨rfl, hr⟩ | ⟨rfl, hr⟩
    · refine wo_take (v := (.i .i64 x0)) rfl (s_pure (p_mv g0)) ?_
      have hq := forceB_inv hr
      clear hr
      obtain ⟨c7, e7, hr⟩ := hq
      refine wo_take (v := (.b c7)) rfl (s_pure (p_bin rfl rfl (b_leq.trans (cb e7)))) ?_
      refine wo_step (v := (.b c7)) (s_pure (p_pickT rfl rfl)) ?_
      refine wo_nil ?_
      cases hr
      exact ⟨_, _, rfl, rfl, gl rfl⟩
    · refine wo_skip (v := (.b false)) rfl rfl ?_
      refine wo_skip (v := (.b false)) rfl rfl ?_
      refine wo_step (v := (.b false)) (s_pure (p_pickF rfl rfl)) ?_
      refine wo_nil ?_
      cases hr
      exact ⟨_, _, rfl, rfl, gl rfl⟩
  · clear hr
    have hr := hk
    clear hk
    obtain ⟨c8, ho⟩ : ∃ z, z = o := ⟨_, rfl⟩
    subst ho
    rintro mm t_1 ⟨rfl, g8⟩
    refine wo_step (v := (.b c8)) (s_pure (p_mv g8)) ?_
    refine wo_nil ?_
    refine nx_norm ?_
    refine w_ret ?_
    exact qf ret_ok (rt rfl rn) hr

/- dibber/share.isHedge -/
abbrev g85_J0 (x0 : Int) (v1 : AVal) (o : Bool × Mm) (m1 : Mm) (t1 : Tr) : Prop :=
  match o with
  | (c15, m_1) => m_1 = m1 ∧ t1.get 15 = (.b c15) ∧ t1.get 0 = (.i .i64 x0) ∧ t1.get 1 = v1
abbrev g85_J1 (v1 : AVal) (o : Bool × Mm) (m1 : Mm) (t1 : Tr) : Prop :=
  match o with
  | (c23, m_3) => m_3 = m1 ∧ t1.get 23 = (.b c23) ∧ t1.get 1 = v1
abbrev g85_J2 (v1 : AVal) (m_3 : Mm) (o : Bool) (m1 : Mm) (t1 : Tr) : Prop :=
  match o with
  | c36 => m_3 = m1 ∧ t1.get 36 = (.b c36) ∧ t1.get 1 = v1
abbrev g85_J3 (m_3 : Mm) (o : Bool) (m1 : Mm) (t1 : Tr) : Prop :=
  match o with
  | c42 => m_3 = m1 ∧ t1.get 42 = (.b c42)
def g85 (M : Means) (ro : List ABlk) (x0 : Int) (v1 : AVal) (m0 : Mm) : Option (AVal × Heap × Nat × Nat) :=
  bindO (evP .e (.len false (.c v1))) fun v6 =>
  asI .i64 v6 fun x6 =>
  forceB (!eqI x6 3) fun c7 =>
  bindO (cond c7 (
    some (true, m0)) (
    bindO (evP .e (.ixS 1 (.c v1) (.c (.i .i64 0)))) fun v11 =>
    bindO (ldM ro m0 true 1 v11) fun v12 =>
    asI .i64 v12 fun x12 =>
    bindP (callM M.call m0 91 [(.i .i64 x0), (.i .i64 x12)]) fun v13 m_2 =>
    asB v13 fun c13 =>
    forceB (!c13) fun c14 =>
    some (c14, m_2))) fun ⟨c15, m_1⟩ =>
  bindO (cond c15 (
    some (true, m_1)) (
    bindO (evP .e (.ixS 1 (.c v1) (.c (.i .i64 1)))) fun v19 =>
    bindO (ldM ro m_1 true 1 v19) fun v20 =>
    asI .i64 v20 fun x20 =>
    bindP (callM M.call m_1 91 [(.i .i64 x0), (.i .i64 x20)]) fun v21 m_4 =>
    asB v21 fun c21 =>
    forceB (!c21) fun c22 =>
    some (c22, m_4))) fun ⟨c23, m_3⟩ =>
  cond c23 (
    finM m0.h.length (tupA [(.b false)]) m_3) (
    bindO (evP .e (.ixS 1 (.c v1) (.c (.i .i64 0)))) fun v25 =>
    bindO (ldA ro m_3.h true 1 v25) fun v26 =>
    asI .i64 v26 fun x26 =>
    bindO (evP .e (.ixS 1 (.c v1) (.c (.i .i64 1)))) fun v28 =>
    bindO (ldA ro m_3.h true 1 v28) fun v29 =>
    asI .i64 v29 fun x29 =>
    forceB (!eqI x26 x29) fun c30 =>
    bindO (cond c30 (
      bindO (evP .e (.ixS 1 (.c v1) (.c (.i .i64 2)))) fun v33 =>
      bindO (ldA ro m_3.h true 1 v33) fun v34 =>
      asI .i64 v34 fun x34 =>
      forceB (!ltI x34 0) fun c35 =>
      some c35) (
      some false)) fun c36 =>
    bindO (cond c36 (
      bindO (evP .e (.ixS 1 (.c v1) (.c (.i .i64 2)))) fun v39 =>
      bindO (ldA ro m_3.h true 1 v39) fun v40 =>
      asI .i64 v40 fun x40 =>
      forceB (!ltI 1000 x40) fun c41 =>
      some c41) (
      some false)) fun c42 =>
    finM m0.h.length (tupA [(.b c42)]) m_3)

theorem g85_ok {ro : List ABlk} {O : Caller} {M : Means} (hM : M.Ok ⟨F, O⟩ ro) {x0 v1 h r} (ho : O 85 [(.i .i64 x0), v1] h = none) (hr : g85 M ro x0 v1 ⟨h, h.length, h.length⟩ = some r) : callX ⟨F, O⟩ ro 85 [(.i .i64 x0), v1] h = some r := by
  refine callX_of (F := ⟨F, O⟩) (fn := fn85) (g := g85 M ro x0 v1) ho rfl rfl hr ?_
  clear ho
  clear hr
  intro m0 t0 ht hr
  have g0 : t0.get 0 = (.i .i64 x0) := ht 0
  have g1 : t0.get 1 = v1 := ht 1
  clear ht
  unfold g85 at hr
  refine w_seq ?_
  refine w_ops ?_
  refine wo_step (v := (.b false)) (s_pure (p_mv rfl)) ?_
  refine wo_nil ?_
  refine nx_norm ?_
  refine w_seq ?_
  refine w_seq ?_
  refine w_ops ?_
  refine wo_step (v := v1) (s_pure (p_mv g1)) ?_
  have hq := bindO_inv hr
  clear hr
  obtain ⟨v6, e6, hr⟩ := hq
  have hq := asI_inv hr
  clear hr
  obtain ⟨x6, rfl, hr⟩ := hq
  refine wo_step (v := (.i .i64 x6)) (s_pure (o_len rfl e6)) ?_
  have hq := forceB_inv hr
  clear hr
  obtain ⟨c7, e7, hr⟩ := hq
  refine wo_step (v := (.b c7)) (s_pure (p_bin rfl rfl (b_neq.trans (cb e7)))) ?_
  refine wo_step (v := (.b c7)) (s_pure (p_mv rfl)) ?_
  have hq := bindO_inv hr
  clear hr
  obtain ⟨o, hr, hk⟩ := hq
  refine wo_join 7 (g85_J0 x0 v1 o) ?_ ?_
  · clear hk
    have hq := cond_inv hr
    clear hr
    rcases hq with ⟨rfl, hr⟩ | ⟨rfl, hr⟩
    · refine wo_skip (v := (.b true)) rfl rfl ?_
      refine wo_skip (v := (.b true)) rfl rfl ?_
      refine wo_skip (v := (.b true)) rfl rfl ?_
      refine wo_skip (v := (.b true)) rfl rfl ?_
      refine wo_skip (v := (.b true)) rfl rfl ?_
      refine wo_skip (v := (.b true)) rfl rfl ?_
      refine wo_step (v := (.b true)) (s_pure (p_pickT rfl rfl)) ?_
      refine wo_nil ?_
      cases hr
      exact ⟨_, _, rfl, rfl, gl rfl, gl g0, gl g1⟩
    · refine wo_take (v := (.i .i64 x0)) rfl (s_pure (p_mv g0)) ?_
      refine wo_take (v := v1) rfl (s_pure (p_mv g1)) ?_
      have hq := bindO_inv hr
      clear hr
      obtain ⟨v11, e11, hr⟩ := hq
      refine wo_take (v := v11) rfl (s_pure (o_ixS rfl rfl e11)) ?_
      have hq := bindO_inv hr
      clear hr
      obtain ⟨v12, e12, hr⟩ := hq
      have hq := asI_inv hr
      clear hr
      obtain ⟨x12, rfl, hr⟩ := hq
      refine wo_take (v := (.i .i64 x12)) rfl (s_ld rfl e12) ?_
      have hq := bindP_inv hr
      clear hr
      obtain ⟨v13, m_2, e13, hr⟩ := hq
      have hq := asB_inv hr
      clear hr
      obtain ⟨c13, rfl, hr⟩ := hq
      refine wo_take (v := (.b c13)) rfl (s_call (mc rfl (mc rfl mn)) (callM_le hM.call e13)) ?_
      have hq := forceB_inv hr
      clear hr
      obtain ⟨c14, e14, hr⟩ := hq
      refine wo_take (v := (.b c14)) rfl (s_pure ((p_not rfl).trans (cb e14))) ?_
      refine wo_step (v := (.b c14)) (s_pure (p_pickF rfl rfl)) ?_
      refine wo_nil ?_
      cases hr
      exact ⟨_, _, rfl, rfl, gl rfl, gl g0, gl g1⟩
  · clear hr
    have hr := hk
    clear hk
    obtain ⟨c15, m_1⟩ := o
    rintro mm t_1 ⟨rfl, g15, g0, g1⟩
    refine wo_step (v := (.b c15)) (s_pure (p_mv g15)) ?_
    have hq := bindO_inv hr
    clear hr
    obtain ⟨o_1, hr, hk⟩ := hq
    refine wo_join 7 (g85_J1 v1 o_1) ?_ ?_
    · clear hk
      have hq := cond_inv hr
      clear hr
      rcases hq with ⟨rfl, hr⟩ | ⟨rfl, hr⟩
      · refine wo_skip (v := (.b true)) rfl rfl ?_
        refine wo_skip (v := (.b true)) rfl rfl ?_
        refine wo_skip (v := (.b true)) rfl rfl ?_
        refine wo_skip (v := (.b true)) rfl rfl ?_
        refine wo_skip (v := (.b true)) rfl rfl ?_
        refine wo_skip (v := (.b true)) rfl rfl ?_
        refine wo_step (v := (.b true)) (s_pure (p_pickT rfl rfl)) ?_
        refine wo_nil ?_
        cases hr
        exact ⟨_, _, rfl, rfl, gl rfl, gl g1⟩
      · refine wo_take (v := (.i .i64 x0)) rfl (s_pure (p_mv g0)) ?_
        refine wo_take (v := v1) rfl (s_pure (p_mv g1)) ?_
        have hq := bindO_inv hr
        clear hr
        obtain ⟨v19, e19, hr⟩ := hq
        refine wo_take (v := v19) rfl (s_pure (o_ixS rfl rfl e19)) ?_
        have hq := bindO_inv hr
        clear hr
        obtain ⟨v20, e20, hr⟩ := hq
        have hq := asI_inv hr
        clear hr
        obtain ⟨x20, rfl, hr⟩ := hq
        refine wo_take (v := (.i .i64 x20)) rfl (s_ld rfl e20) ?_
        have hq := bindP_inv hr
        clear hr
        obtain ⟨v21, m_4, e21, hr⟩ := hq
        have hq := asB_inv hr
        clear hr
        obtain ⟨c21, rfl, hr⟩ := hq
        refine wo_take (v := (.b c21)) rfl (s_call (mc rfl (mc rfl mn)) (callM_le hM.call e21)) ?_
        have hq := forceB_inv hr
        clear hr
        obtain ⟨c22, e22, hr⟩ := hq
        refine wo_take (v := (.b c22)) rfl (s_pure ((p_not rfl).trans (cb e22))) ?_
        refine wo_step (v := (.b c22)) (s_pure (p_pickF rfl rfl)) ?_
        refine wo_nil ?_
        cases hr
        exact ⟨_, _, rfl, rfl, gl rfl, gl g1⟩
    · clear hr
      have hr := hk
      clear hk
      obtain ⟨c23, m_3⟩ := o_1
      rintro mm_1 t_2 ⟨rfl, g23, g1⟩
      refine wo_nil ?_
      refine nx_norm ?_
      have hq := cond_inv hr
      clear hr
      rcases hq with ⟨rfl, hr⟩ | ⟨rfl, hr⟩
      · refine w_condT g23 ?_
        refine w_seq ?_
        refine w_ops ?_
        refine wo_step (v := (.b false)) (s_pure (p_mv rfl)) ?_
        refine wo_nil ?_
        refine nx_norm ?_
        refine w_ret ?_
        refine nx_ret ?_
        exact qf ret_ok (rt rfl rn) hr
      · refine w_condF g23 ?_
        refine w_skip ?_
        refine nx_norm ?_
        refine w_seq ?_
        refine w_any ?_
        refine wa_step (v := v1) (a_pure (p_mv g1)) ?_
        have hq := bindO_inv hr
        clear hr
        obtain ⟨v25, e25, hr⟩ := hq
        refine wa_step (v := v25) (a_pure (o_ixS rfl rfl e25)) ?_
        have hq := bindO_inv hr
        clear hr
        obtain ⟨v26, e26, hr⟩ := hq
        have hq := asI_inv hr
        clear hr
        obtain ⟨x26, rfl, hr⟩ := hq
        refine wa_step (v := (.i .i64 x26)) (a_ld rfl e26) ?_
        refine wa_step (v := v1) (a_pure (p_mv g1)) ?_
        have hq := bindO_inv hr
        clear hr
        obtain ⟨v28, e28, hr⟩ := hq
        refine wa_step (v := v28) (a_pure (o_ixS rfl rfl e28)) ?_
        have hq := bindO_inv hr
        clear hr
        obtain ⟨v29, e29, hr⟩ := hq
        have hq := asI_inv hr
        clear hr
        obtain ⟨x29, rfl, hr⟩ := hq
        refine wa_step (v := (.i .i64 x29)) (a_ld rfl e29) ?_
        have hq := forceB_inv hr
        clear hr
        obtain ⟨c30, e30, hr⟩ := hq
        refine wa_step (v := (.b c30)) (a_pure (p_bin rfl rfl (b_neq.trans (cb e30)))) ?_
        refine wa_step (v := (.b c30)) (a_pure (p_mv rfl)) ?_
        have hq := bindO_inv hr
        clear hr
        obtain ⟨o_2, hr, hk⟩ := hq
        refine wa_join 5 (JA (g85_J2 v1 m_3 o_2) m_3 (m_3.h) [] []) ?_ ?_
        · clear hk
          have hq := cond_inv hr
          clear hr
          rcases hq with ⟨rfl, hr⟩ | ⟨rfl, hr⟩
          · refine wa_take (v := v1) rfl (a_pure (p_mv g1)) ?_
            have hq := bindO_inv hr
            clear hr
            obtain ⟨v33, e33, hr⟩ := hq
            refine wa_take (v := v33) rfl (a_pure (o_ixS rfl rfl e33)) ?_
            have hq := bindO_inv hr
            clear hr
            obtain ⟨v34, e34, hr⟩ := hq
            have hq := asI_inv hr
            clear hr
            obtain ⟨x34, rfl, hr⟩ := hq
            refine wa_take (v := (.i .i64 x34)) rfl (a_ld rfl e34) ?_
            have hq := forceB_inv hr
            clear hr
            obtain ⟨c35, e35, hr⟩ := hq
            refine wa_take (v := (.b c35)) rfl (a_pure (p_bin rfl rfl (b_leq.trans (cb e35)))) ?_
            refine wa_step (v := (.b c35)) (a_pure (p_pickT rfl rfl)) ?_
            refine wa_nil ?_
            cases hr
            exact ja_in ⟨rfl, gl rfl, gl g1⟩
          · refine wa_skip (v := (.b false)) rfl rfl ?_
            refine wa_skip (v := (.b false)) rfl rfl ?_
            refine wa_skip (v := (.b false)) rfl rfl ?_
            refine wa_skip (v := (.b false)) rfl rfl ?_
            refine wa_step (v := (.b false)) (a_pure (p_pickF rfl rfl)) ?_
            refine wa_nil ?_
            cases hr
            exact ja_in ⟨rfl, gl rfl, gl g1⟩
        · clear hr
          have hr := hk
          clear hk
          obtain ⟨c36, ho⟩ : ∃ z, z = o_2 := ⟨_, rfl⟩
          subst ho
          refine ja_out ?_
          rintro t_3 ⟨-, g36, g1⟩
          refine wa_step (v := (.b c36)) (a_pure (p_mv g36)) ?_
          have hq := bindO_inv hr
          clear hr
          obtain ⟨o_3, hr, hk⟩ := hq
          refine wa_join 5 (JA (g85_J3 m_3 o_3) m_3 (m_3.h) [] []) ?_ ?_
          · clear hk
            have hq := cond_inv hr
            clear hr
            rcases hq with ⟨rfl, hr⟩ | ⟨rfl, hr⟩
            · refine wa_take (v := v1) rfl (a_pure (p_mv g1)) ?_
              have hq := bindO_inv hr
              clear hr
              obtain ⟨v39, e39, hr⟩ := hq
              refine wa_take (v := v39) rfl (a_pure (o_ixS rfl rfl e39)) ?_
              have hq := bindO_inv hr
              clear hr
              obtain ⟨v40, e40, hr⟩ := hq
              have hq := asI_inv hr
              clear hr
              obtain ⟨x40, rfl, hr⟩ := hq
              refine wa_take (v := (.i .i64 x40)) rfl (a_ld rfl e40) ?_
              have hq := forceB_inv hr
              clear hr
              obtain ⟨c41, e41, hr⟩ := hq
              refine wa_take (v := (.b c41)) rfl (a_pure (p_bin rfl rfl (b_leq.trans (cb e41)))) ?_
              refine wa_step (v := (.b c41)) (a_pure (p_pickT rfl rfl)) ?_
              refine wa_nil ?_
              cases hr
              exact ja_in ⟨rfl, gl rfl⟩
            · refine wa_skip (v := (.b false)) rfl rfl ?_
              refine wa_skip (v := (.b false)) rfl rfl ?_
              refine wa_skip (v := (.b false)) rfl rfl ?_
              refine wa_skip (v := (.b false)) rfl rfl ?_
              refine wa_step (v := (.b false)) (a_pure (p_pickF rfl rfl)) ?_
              refine wa_nil ?_
              cases hr
              exact ja_in ⟨rfl, gl rfl⟩
          · clear hr
            have hr := hk
            clear hk
            obtain ⟨c42, ho⟩ : ∃ z, z = o_3 := ⟨_, rfl⟩
            subst ho
            refine ja_out ?_
            rintro t_4 ⟨-, g42⟩
            refine wa_step (v := (.b c42)) (a_pure (p_mv g42)) ?_
            refine wa_nil ?_
            refine ⟨m_3, rfl, ?_⟩
            refine nx_norm ?_
            refine w_ret ?_
            exact qf ret_ok (rt rfl rn) hr

/- dibber/share.parts -/

def g86 (M : Means) (ro : List ABlk) (x0 : Int) (x1 : Int) (m0 : Mm) : Option (AVal × Heap × Nat × Nat) :=
  bindP (stepM ro m0 (.bx 3 1 (.c (.i .i64 x0)))) fun v2 m_1 =>
  bindP (stepM ro m_1 (.bx 3 1 (.c (.i .i64 x1)))) fun v3 m_2 =>
  bindO (some (AVal.fn 102 [] [v2, v3])) fun v5 =>
  finM m0.h.length (tupA [v5]) m_2

theorem g86_ok {ro : List ABlk} {O : Caller} {M : Means} (hM : M.Ok ⟨F, O⟩ ro) {x0 x1 h r} (ho : O 86 [(.i .i64 x0), (.i .i64 x1)] h = none) (hr : g86 M ro x0 x1 ⟨h, h.length, h.length⟩ = some r) : callX ⟨F, O⟩ ro 86 [(.i .i64 x0), (.i .i64 x1)] h = some r := by
  refine callX_of (F := ⟨F, O⟩) (fn := fn86) (g := g86 M ro x0 x1) ho rfl rfl hr ?_
  clear ho
  clear hr
  intro m0 t0 ht hr
  have g0 : t0.get 0 = (.i .i64 x0) := ht 0
  have g1 : t0.get 1 = (.i .i64 x1) := ht 1
  clear ht
  unfold g86 at hr
  refine w_seq ?_
  refine w_ops ?_
  have hq := bindP_inv hr
  clear hr
  obtain ⟨v2, m_1, e2, hr⟩ := hq
  refine wo_step (v := v2) (s_bx g0 e2) ?_
  have hq := bindP_inv hr
  clear hr
  obtain ⟨v3, m_2, e3, hr⟩ := hq
  refine wo_step (v := v3) (s_bx g1 e3) ?_
  refine wo_step (v := AVal.nfn) (s_pure (p_mv rfl)) ?_
  refine wo_nil ?_
  refine nx_norm ?_
  refine w_seq ?_
  refine w_ops ?_
  have hq := bindO_inv hr
  clear hr
  obtain ⟨v5, e5, hr⟩ := hq
  refine wo_step (v := v5) (s_pure ((o_mkfn mn (mc rfl (mc rfl mn))).trans e5)) ?_
  refine wo_step (v := v5) (s_pure (p_mv rfl)) ?_
  refine wo_nil ?_
  refine nx_norm ?_
  refine w_ret ?_
  exact qf ret_ok (rt rfl rn) hr

/- dibber/share.passes -/
abbrev g88_I0 (x0 : Int) (v1 : AVal) (x8 : Int) (s : Int × Mm) (m1 : Mm) (t1 : Tr) : Prop :=
  match s with
  | (x9, m_1) => m_1 = m1 ∧ t1.get 9 = (.i .i64 x9) ∧ t1.get 0 = (.i .i64 x0) ∧ t1.get 7 = v1 ∧ t1.get 8 = (.i .i64 x8)
abbrev g88_J0 (x0 : Int) (v1 : AVal) (x8 : Int) (o : (Mm ⊕ (Bool × Mm))) (e : AExit) (m1 : Mm) (t1 : Tr) : Prop :=
  match o with
  | (.inl mo) => e = (.exit 0) ∧ mo = m1
  | (.inr (y4, mo)) => e = .ret ∧ mo = m1 ∧ t1.get 4 = (.b y4)
def g88_b0 (M : Means) (ro : List ABlk) (x0 : Int) (v1 : AVal) (x8 : Int) (x9 : Int) (m_1 : Mm) : Option ((Int × Mm) ⊕ ((Mm ⊕ (Bool × Mm)))) :=
  forceB (ltI x9 x8) fun c10 =>
  cond c10 (
    bindO (evP .e (.ixS 1 (.c v1) (.c (.i .i64 x9)))) fun v11 =>
    bindO (ldM ro m_1 true 1 v11) fun v12 =>
    bindP (callyM M.call M.round m_1 v12 [(.i .i64 x0)]) fun v15 m_2 =>
    asB v15 fun c15 =>
    forceB (!c15) fun c16 =>
    cond c16 (
      some (.inr (.inr (false, m_2)))) (
      forceI (wr .i64 (x9 + 1)) fun x17 =>
      some (.inl (x17, m_2)))) (
    some (.inr (.inl m_1)))
def g88 (M : Means) (ro : List ABlk) (x0 : Int) (v1 : AVal) (m0 : Mm) : Option (AVal × Heap × Nat × Nat) :=
  bindO (evP .e (.len false (.c v1))) fun v8 =>
  asI .i64 v8 fun x8 =>
  bindO (M.loop (S := Int × Mm) (R := (Mm ⊕ (Bool × Mm))) (fun s => g88_b0 M ro x0 v1 x8 s.1 s.2) (0, m0)) fun o => match o with
  | (.inl m_3) =>
    finM m0.h.length (tupA [(.b true)]) m_3
  | (.inr (c4, m_4)) =>
    finM m0.h.length (tupA [(.b c4)]) m_4

theorem g88_ok {ro : List ABlk} {O : Caller} {M : Means} (hM : M.Ok ⟨F, O⟩ ro) {x0 v1 h r} (ho : O 88 [(.i .i64 x0), v1] h = none) (hr : g88 M ro x0 v1 ⟨h, h.length, h.length⟩ = some r) : callX ⟨F, O⟩ ro 88 [(.i .i64 x0), v1] h = some r := by
  refine callX_of (F := ⟨F, O⟩) (fn := fn88) (g := g88 M ro x0 v1) ho rfl rfl hr ?_
  clear ho
  clear hr
  intro m0 t0 ht hr
  have g0 : t0.get 0 = (.i .i64 x0) := ht 0
  have g1 : t0.get 1 = v1 := ht 1
  clear ht
  unfold g88 at hr
  refine w_seq ?_
  refine w_ops ?_
  refine wo_step (v := (.b false)) (s_pure (p_mv rfl)) ?_
  refine wo_nil ?_
  refine nx_norm ?_
  refine w_seq ?_
  refine w_seq ?_
  refine w_ops ?_
  refine wo_step (v := v1) (s_pure (p_mv g1)) ?_
  have hq := bindO_inv hr
  clear hr
  obtain ⟨v8, e8, hr⟩ := hq
  have hq := asI_inv hr
  clear hr
  obtain ⟨x8, rfl, hr⟩ := hq
  refine wo_step (v := (.i .i64 x8)) (s_pure (o_len rfl e8)) ?_
  refine wo_step (v := (.i .i64 0)) (s_pure (p_mv rfl)) ?_
  refine wo_nil ?_
  refine nx_norm ?_
  refine w_block ?_
  have hq := bindO_inv hr
  clear hr
  obtain ⟨o, hl, hr⟩ := hq
  obtain ⟨n, hl⟩ := hM.loop _ _ _ hl
  refine jp_mono (w_loop _ (g88_I0 x0 v1 x8) (g88_J0 x0 v1 x8) ?_ n _ _ _ _ hl ⟨rfl, gl rfl, gl g0, gl rfl, gl rfl⟩) ?_
  · clear hr hl
    intro s mm_2 t_1 o hi hr
    obtain ⟨x9, m_1⟩ := s
    obtain ⟨rfl, g9, g0, g7, g8⟩ := hi
    unfold g88_b0 at hr
    refine w_seq ?_
    refine w_ops ?_
    have hq := forceB_inv hr
    clear hr
    obtain ⟨c10, e10, hr⟩ := hq
    refine wo_step (v := (.b c10)) (s_pure (p_bin g9 g8 (b_lss.trans (cb e10)))) ?_
    refine wo_nil ?_
    refine nx_norm ?_
    refine w_seq ?_
    have hq := cond_inv hr
    clear hr
    rcases hq with ⟨rfl, hr⟩ | ⟨rfl, hr⟩
    · refine w_condT rfl ?_
      refine w_skip ?_
      refine nx_norm ?_
      refine w_seq ?_
      refine w_block ?_
      refine w_seq ?_
      refine w_ops ?_
      have hq := bindO_inv hr
      clear hr
      obtain ⟨v11, e11, hr⟩ := hq
      refine wo_step (v := v11) (s_pure (o_ixS g7 g9 e11)) ?_
      have hq := bindO_inv hr
      clear hr
      obtain ⟨v12, e12, hr⟩ := hq
      refine wo_step (v := v12) (s_ld rfl e12) ?_
      refine wo_step (v := v12) (s_pure (p_mv rfl)) ?_
      refine wo_nil ?_
      refine nx_norm ?_
      refine w_seq ?_
      refine w_opsY ?_
      refine wy_step (v := v12) (y_C (s_pure (p_mv rfl))) ?_
      refine wy_step (v := (.i .i64 x0)) (y_C (s_pure (p_mv g0))) ?_
      have hq := bindP_inv hr
      clear hr
      obtain ⟨v15, m_2, e15, hr⟩ := hq
      have hq := asB_inv hr
      clear hr
      obtain ⟨c15, rfl, hr⟩ := hq
      refine wy_step (v := (.b c15)) (y_callv rfl (mc rfl mn) (callyM_le hM.call hM.round e15)) ?_
      have hq := forceB_inv hr
      clear hr
      obtain ⟨c16, e16, hr⟩ := hq
      refine wy_step (v := (.b c16)) (y_C (s_pure ((p_not rfl).trans (cb e16)))) ?_
      refine wy_nil ?_
      refine nx_norm ?_
      have hq := cond_inv hr
      clear hr
      rcases hq with ⟨rfl, hr⟩ | ⟨rfl, hr⟩
      · refine w_condT rfl ?_
        refine w_seq ?_
        refine w_ops ?_
        refine wo_step (v := (.b false)) (s_pure (p_mv rfl)) ?_
        refine wo_nil ?_
        refine nx_norm ?_
        refine w_ret ?_
        refine bk_ret ?_
        refine nx_ret ?_
        cases hr
        exact ⟨_, _, rfl, ne_norm_ret, rfl, rfl, gl rfl⟩
      · refine w_condF rfl ?_
        refine w_skip ?_
        refine bk_norm ?_
        refine nx_norm ?_
        refine w_ops ?_
        have hq := forceI_inv hr
        clear hr
        obtain ⟨x17, e17, hr⟩ := hq
        refine wo_step (v := (.i .i64 x17)) (s_pure (p_bin g9 rfl (b_add.trans (ci e17)))) ?_
        refine wo_step (v := (.i .i64 x17)) (s_pure (p_mv rfl)) ?_
        refine wo_nil ?_
        cases hr
        exact ⟨_, _, rfl, rfl, rfl, gl rfl, gl g0, gl g7, gl g8⟩
    · refine w_condF rfl ?_
      refine w_exit ?_
      refine nx_exit ?_
      cases hr
      exact ⟨_, _, rfl, ne_norm_exit, rfl, rfl⟩
  · rcases o with o | o
    · obtain ⟨m_3, ho⟩ : ∃ z, z = o := ⟨_, rfl⟩
      subst ho
      rintro _ mm t_2 ⟨rfl, rfl⟩
      refine bk_hit ?_
      refine nx_norm ?_
      refine w_seq ?_
      refine w_ops ?_
      refine wo_step (v := (.b true)) (s_pure (p_mv rfl)) ?_
      refine wo_nil ?_
      refine nx_norm ?_
      refine w_ret ?_
      exact qf ret_ok (rt rfl rn) hr
    · obtain ⟨c4, m_4⟩ := o
      rintro _ mm_1 t_3 ⟨rfl, rfl, g4⟩
      refine bk_ret ?_
      refine nx_ret ?_
      exact qf ret_ok (rt g4 rn) hr

/- dibber/share.isGardener -/
abbrev g91_J0 (m0 : Mm) (o : Bool) (m1 : Mm) (t1 : Tr) : Prop :=
  match o with
  | c11 => m0 = m1 ∧ t1.get 11 = (.b c11)
def g91 (M : Means) (ro : List ABlk) (x0 : Int) (x1 : Int) (m0 : Mm) : Option (AVal × Heap × Nat × Nat) :=
  forceB (!ltI x1 0) fun c6 =>
  bindO (cond c6 (
    forceB (ltI x1 x0) fun c10 =>
    some c10) (
    some false)) fun c11 =>
  finM m0.h.length (tupA [(.b c11)]) m0

theorem g91_ok {ro : List ABlk} {O : Caller} {M : Means} (hM : M.Ok ⟨F, O⟩ ro) {x0 x1 h r} (ho : O 91 [(.i .i64 x0), (.i .i64 x1)] h = none) (hr : g91 M ro x0 x1 ⟨h, h.length, h.length⟩ = some r) : callX ⟨F, O⟩ ro 91 [(.i .i64 x0), (.i .i64 x1)] h = some r := by
  refine callX_of (F := ⟨F, O⟩) (fn := fn91) (g := g91 M ro x0 x1) ho rfl rfl hr ?_
  clear ho
  clear hr
  intro m0 t0 ht hr
  have g0 : t0.get 0 = (.i .i64 x0) := ht 0
  have g1 : t0.get 1 = (.i .i64 x1) := ht 1
  clear ht
  unfold g91 at hr
  refine w_seq ?_
  refine w_ops ?_
  refine wo_step (v := (.b false)) (s_pure (p_mv rfl)) ?_
  refine wo_nil ?_
  refine nx_norm ?_
  refine w_seq ?_
  refine w_ops ?_
  refine wo_step (v := (.i .i64 x1)) (s_pure (p_mv g1)) ?_
  have hq := forceB_inv hr
  clear hr
  obtain ⟨c6, e6, hr⟩ := hq
  refine wo_step (v := (.b c6)) (s_pure (p_bin rfl rfl (b_leq.trans (cb e6)))) ?_
  refine wo_step (v := (.b c6)) (s_pure (p_mv rfl)) ?_
  have hq := bindO_inv hr
  clear hr
  obtain ⟨o, hr, hk⟩ := hq
  refine wo_join 4 (g91_J0 m0 o) ?_ ?_
  · clear hk
    have hq := cond_inv hr
    clear hr
    rcases hq with ⟨rfl, hr⟩ | ⟨rfl, hr⟩
    · refine wo_take (v := (.i .i64 x1)) rfl (s_pure (p_mv g1)) ?_
      refine wo_take (v := (.i .i64 x0)) rfl (s_pure (p_mv g0)) ?_
      have hq := forceB_inv hr
      clear hr
      obtain ⟨c10, e10, hr⟩ := hq
      refine wo_take (v := (.b c10)) rfl (s_pure (p_bin rfl rfl (b_lss.trans (cb e10)))) ?_
      refine wo_step (v := (.b c10)) (s_pure (p_pickT rfl rfl)) ?_
      refine wo_nil ?_
      cases hr
      exact ⟨_, _, rfl, rfl, gl rfl⟩
    · refine wo_skip (v := (.b false)) rfl rfl ?_
      refine wo_skip (v := (.b false)) rfl rfl ?_
      refine wo_skip (v := (.b false)) rfl rfl ?_
      refine wo_step (v := (.b false)) (s_pure (p_pickF rfl rfl)) ?_
      refine wo_nil ?_
      cases hr
      exact ⟨_, _, rfl, rfl, gl rfl⟩
  · clear hr
    have hr := hk
    clear hk
    obtain ⟨c11, ho⟩ : ∃ z, z = o := ⟨_, rfl⟩
    subst ho
    rintro mm t_1 ⟨rfl, g11⟩
    refine wo_step (v := (.b c11)) (s_pure (p_mv g11)) ?_
    refine wo_nil ?_
    refine nx_norm ?_
    refine w_ret ?_
    exact qf ret_ok (rt rfl rn) hr

/- dibber/share.parts-1 -/

def g102 (M : Means) (ro : List ABlk) (x0 : Int) (v1 : AVal) (v2 : AVal) (m0 : Mm) : Option (AVal × Heap × Nat × Nat) :=
  bindO (some (Mm.base m0)) fun m_1 =>
  bindO (ldM ro m_1 true 1 v1) fun v6 =>
  asI .i64 v6 fun x6 =>
  bindP (callM M.call m_1 60 [(.i .i64 x0), (.i .i64 x6)]) fun v7 m_2 =>
  asB v7 fun c7 =>
  chk (!Nat.blt m_2.lw m0.h.length) <|
  bindO (ldA ro m0.h true 1 v2) fun v9 =>
  asI .i64 v9 fun x9 =>
  bindP (callM M.call m_2 60 [(.i .i64 x0), (.i .i64 x9)]) fun v10 m_3 =>
  asB v10 fun c10 =>
  forceB (!(c7 == c10)) fun c11 =>
  bindO (some (Mm.join m0 m_3)) fun m_4 =>
  finM m0.h.length (tupA [(.b c11)]) m_4

theorem g102_ok {ro : List ABlk} {O : Caller} {M : Means} (hM : M.Ok ⟨F, O⟩ ro) {x0 v1 v2 h r} (ho : O 102 [(.i .i64 x0), v1, v2] h = none) (hr : g102 M ro x0 v1 v2 ⟨h, h.length, h.length⟩ = some r) : callX ⟨F, O⟩ ro 102 [(.i .i64 x0), v1, v2] h = some r := by
  refine callX_of (F := ⟨F, O⟩) (fn := fn102) (g := g102 M ro x0 v1 v2) ho rfl rfl hr ?_
  clear ho
  clear hr
  intro m0 t0 ht hr
  have g0 : t0.get 0 = (.i .i64 x0) := ht 0
  have g1 : t0.get 1 = v1 := ht 1
  have g2 : t0.get 2 = v2 := ht 2
  clear ht
  unfold g102 at hr
  refine w_seq ?_
  refine w_ops ?_
  refine wo_step (v := (.b false)) (s_pure (p_mv rfl)) ?_
  refine wo_nil ?_
  refine nx_norm ?_
  refine w_seq ?_
  have hq := bindO_inv hr
  clear hr
  obtain ⟨m_1, ef, hr⟩ := hq
  refine w_flt (af := true) rfl ef ?_
  refine wf_step (v := (.i .i64 x0)) (f_P rfl (s_pure (p_mv g0))) ?_
  have hq := bindO_inv hr
  clear hr
  obtain ⟨v6, e6, hr⟩ := hq
  have hq := asI_inv hr
  clear hr
  obtain ⟨x6, rfl, hr⟩ := hq
  refine wf_step (v := (.i .i64 x6)) (f_P rfl (s_ld g1 e6)) ?_
  have hq := bindP_inv hr
  clear hr
  obtain ⟨v7, m_2, e7, hr⟩ := hq
  have hq := asB_inv hr
  clear hr
  obtain ⟨c7, rfl, hr⟩ := hq
  have hq := chk_inv hr
  clear hr
  obtain ⟨hc7, hr⟩ := hq
  refine wf_step (v := (.b c7)) (f_M hc7 (s_call (mc rfl (mc rfl mn)) (callM_le hM.call e7))) ?_
  refine wf_step (v := (.i .i64 x0)) (f_P rfl (s_pure (p_mv g0))) ?_
  have hq := bindO_inv hr
  clear hr
  obtain ⟨v9, e9, hr⟩ := hq
  have hq := asI_inv hr
  clear hr
  obtain ⟨x9, rfl, hr⟩ := hq
  refine wf_step (v := (.i .i64 x9)) (f_ld g2 e9) ?_
  have hq := bindP_inv hr
  clear hr
  obtain ⟨v10, m_3, e10, hr⟩ := hq
  have hq := asB_inv hr
  clear hr
  obtain ⟨c10, rfl, hr⟩ := hq
  refine wf_step (v := (.b c10)) (f_F rfl (s_call (mc rfl (mc rfl mn)) (callM_le hM.call e10))) ?_
  have hq := forceB_inv hr
  clear hr
  obtain ⟨c11, e11, hr⟩ := hq
  refine wf_step (v := (.b c11)) (f_P rfl (s_pure ((p_beq rfl rfl).trans (cb e11)))) ?_
  refine wf_step (v := (.b c11)) (f_P rfl (s_pure (p_mv rfl))) ?_
  have hq := bindO_inv hr
  clear hr
  obtain ⟨m_4, ef_1, hr⟩ := hq
  refine wf_end ef_1 ?_
  refine nx_norm ?_
  refine w_ret ?_
  exact qf ret_ok (rt rfl rn) hr

end Go.Proofs.Ythdglempcfknhaa.T

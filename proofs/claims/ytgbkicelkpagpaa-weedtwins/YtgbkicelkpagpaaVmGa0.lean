/- Plain functions, and that the small machine answers as they do. -/
import Derived.Test.YtgbkicelkpagpaaVmP
import Derived.Test.YtgbkicelkpagpaaVmAE
open Go.Vm
set_option linter.unusedVariables false
namespace Go.Proofs.Ytgbkicelkpagpaa.W
open Go
/- dibber/dibberlaw02.WeedTwins -/
abbrev g6_J0 (x0 : Int) (m_2 : Mm) (o : Bool) (m1 : Mm) (t1 : Tr) : Prop :=
  match o with
  | c28 => m_2 = m1 ∧ t1.get 28 = (.b c28) ∧ t1.get 0 = (.i .i64 x0)
abbrev g6_J1 (x34 : Int) (x40 : Int) (m_4 : Mm) (o : Bool) (m1 : Mm) (t1 : Tr) : Prop :=
  match o with
  | c48 => m_4 = m1 ∧ t1.get 48 = (.b c48) ∧ t1.get 4 = (.i .i64 x34) ∧ t1.get 6 = (.i .i64 x40)
abbrev g6_J2 (m_4 : Mm) (o : Bool) (m1 : Mm) (t1 : Tr) : Prop :=
  match o with
  | c53 => m_4 = m1 ∧ t1.get 53 = (.b c53)
abbrev g6_J3  (o : Bool × Mm) (m1 : Mm) (t1 : Tr) : Prop :=
  match o with
  | (c56, m_5) => m_5 = m1 ∧ t1.get 56 = (.b c56)
def g6 (M : Means) (ro : List ABlk) (x0 : Int) (m0 : Mm) : Option (AVal × Heap × Nat × Nat) :=
  bindP (callM M.call m0 30 [(.i .i64 x0)]) fun v13 m_1 =>
  bindO (evP .e (.ext 0 (.c v13))) fun v14 =>
  asB v14 fun c14 =>
  bindO (evP .e (.ext 1 (.c v13))) fun v15 =>
  asI .i64 v15 fun x15 =>
  bindP (callM M.call m_1 31 [(.i .i64 x0)]) fun v18 m_2 =>
  bindO (evP .e (.ext 0 (.c v18))) fun v19 =>
  asB v19 fun c19 =>
  bindO (evP .e (.ext 1 (.c v18))) fun v20 =>
  asI .i64 v20 fun x20 =>
  forceB (!(c14 == c19)) fun c23 =>
  bindO (cond c23 (
    some true) (
    forceB (!eqI x15 x20) fun c27 =>
    some c27)) fun c28 =>
  cond c28 (
    finM m0.h.length (tupA [(.b false)]) m_2) (
    bindP (callM M.call m_2 32 [(.i .i64 x0)]) fun v31 m_3 =>
    bindO (evP .e (.ext 0 (.c v31))) fun v32 =>
    asS v32 fun s32 =>
    bindO (evP .e (.ext 1 (.c v31))) fun v33 =>
    asS v33 fun s33 =>
    bindO (evP .e (.ext 2 (.c v31))) fun v34 =>
    asI .i64 v34 fun x34 =>
    bindP (callM M.call m_3 33 [(.i .i64 x0)]) fun v37 m_4 =>
    bindO (evP .e (.ext 0 (.c v37))) fun v38 =>
    asS v38 fun s38 =>
    bindO (evP .e (.ext 1 (.c v37))) fun v39 =>
    asS v39 fun s39 =>
    bindO (evP .e (.ext 2 (.c v37))) fun v40 =>
    asI .i64 v40 fun x40 =>
    bindO (evP .e (.sbin BinOp.eql (.c (.s s32)) (.c (.s s38)))) fun v43 =>
    asB v43 fun c43 =>
    bindO (cond c43 (
      bindO (evP .e (.sbin BinOp.eql (.c (.s s33)) (.c (.s s39)))) fun v47 =>
      asB v47 fun c47 =>
      some c47) (
      some false)) fun c48 =>
    bindO (cond c48 (
      forceB (eqI x34 x40) fun c52 =>
      some c52) (
      some false)) fun c53 =>
    bindO (cond c53 (
      bindP (callM M.call m_4 15 []) fun v55 m_6 =>
      asB v55 fun c55 =>
      some (c55, m_6)) (
      some (false, m_4))) fun ⟨c56, m_5⟩ =>
    finM m0.h.length (tupA [(.b c56)]) m_5)

theorem g6_ok {ro : List ABlk} {O : Caller} {M : Means} (hM : M.Ok ⟨F, O⟩ ro) {x0 h r} (ho : O 6 [(.i .i64 x0)] h = none) (hr : g6 M ro x0 ⟨h, h.length, h.length⟩ = some r) : callX ⟨F, O⟩ ro 6 [(.i .i64 x0)] h = some r := by
  refine callX_of (F := ⟨F, O⟩) (fn := fn6) (g := g6 M ro x0) ho rfl rfl hr ?_
  clear ho
  clear hr
  intro m0 t0 ht hr
  have g0 : t0.get 0 = (.i .i64 x0) := ht 0
  clear ht
  unfold g6 at hr
  refine w_seq ?_
  refine w_ops ?_
  refine wo_step (v := (.b false)) (s_pure (p_mv rfl)) ?_
  refine wo_nil ?_
  refine nx_norm ?_
  refine w_seq ?_
  refine w_ops ?_
  refine wo_step (v := (.i .i64 x0)) (s_pure (p_mv g0)) ?_
  have hq := bindP_inv hr
  clear hr
  obtain ⟨v13, m_1, e13, hr⟩ := hq
  refine wo_step (v := v13) (s_call (mc rfl mn) (callM_le hM.call e13)) ?_
  refine wo_step (v := v13) (s_pure (p_mv rfl)) ?_
  have hq := bindO_inv hr
  clear hr
  obtain ⟨v14, e14, hr⟩ := hq
  have hq := asB_inv hr
  clear hr
  obtain ⟨c14, rfl, hr⟩ := hq
  refine wo_step (v := (.b c14)) (s_pure (o_ext rfl e14)) ?_
  have hq := bindO_inv hr
  clear hr
  obtain ⟨v15, e15, hr⟩ := hq
  have hq := asI_inv hr
  clear hr
  obtain ⟨x15, rfl, hr⟩ := hq
  refine wo_step (v := (.i .i64 x15)) (s_pure (o_ext rfl e15)) ?_
  refine wo_step (v := (.b c14)) (s_pure (p_mv rfl)) ?_
  refine wo_step (v := (.i .i64 x15)) (s_pure (p_mv rfl)) ?_
  refine wo_nil ?_
  refine nx_norm ?_
  refine w_seq ?_
  refine w_ops ?_
  refine wo_step (v := (.i .i64 x0)) (s_pure (p_mv g0)) ?_
  have hq := bindP_inv hr
  clear hr
  obtain ⟨v18, m_2, e18, hr⟩ := hq
  refine wo_step (v := v18) (s_call (mc rfl mn) (callM_le hM.call e18)) ?_
  refine wo_step (v := v18) (s_pure (p_mv rfl)) ?_
  have hq := bindO_inv hr
  clear hr
  obtain ⟨v19, e19, hr⟩ := hq
  have hq := asB_inv hr
  clear hr
  obtain ⟨c19, rfl, hr⟩ := hq
  refine wo_step (v := (.b c19)) (s_pure (o_ext rfl e19)) ?_
  have hq := bindO_inv hr
  clear hr
  obtain ⟨v20, e20, hr⟩ := hq
  have hq := asI_inv hr
  clear hr
  obtain ⟨x20, rfl, hr⟩ := hq
  refine wo_step (v := (.i .i64 x20)) (s_pure (o_ext rfl e20)) ?_
  refine wo_step (v := (.b c19)) (s_pure (p_mv rfl)) ?_
  refine wo_step (v := (.i .i64 x20)) (s_pure (p_mv rfl)) ?_
  refine wo_nil ?_
  refine nx_norm ?_
  refine w_seq ?_
  refine w_seq ?_
  refine w_ops ?_
  refine wo_step (v := (.b c14)) (s_pure (p_mv rfl)) ?_
  refine wo_step (v := (.b c19)) (s_pure (p_mv rfl)) ?_
  have hq := forceB_inv hr
  clear hr
  obtain ⟨c23, e23, hr⟩ := hq
  refine wo_step (v := (.b c23)) (s_pure ((p_beq rfl rfl).trans (cb e23))) ?_
  refine wo_step (v := (.b c23)) (s_pure (p_mv rfl)) ?_
  have hq := bindO_inv hr
  clear hr
  obtain ⟨o, hr, hk⟩ := hq
  refine wo_join 4 (g6_J0 x0 m_2 o) ?_ ?_
  · clear hk
    have hq := cond_inv hr
    clear hr
    rcases hq with ⟨rfl, hr⟩ | ⟨rfl, hr⟩
    · refine wo_skip (v := (.b true)) rfl rfl ?_
      refine wo_skip (v := (.b true)) rfl rfl ?_
      refine wo_skip (v := (.b true)) rfl rfl ?_
      refine wo_step (v := (.b true)) (s_pure (p_pickT rfl rfl)) ?_
      refine wo_nil ?_
      cases hr
      exact ⟨_, _, rfl, rfl, gl rfl, gl g0⟩
    · refine wo_take (v := (.i .i64 x15)) rfl (s_pure (p_mv rfl)) ?_
      refine wo_take (v := (.i .i64 x20)) rfl (s_pure (p_mv rfl)) ?_
      have hq := forceB_inv hr
      clear hr
      obtain ⟨c27, e27, hr⟩ := hq
      refine wo_take (v := (.b c27)) rfl (s_pure (p_bin rfl rfl (b_neq.trans (cb e27)))) ?_
      refine wo_step (v := (.b c27)) (s_pure (p_pickF rfl rfl)) ?_
      refine wo_nil ?_
      cases hr
      exact ⟨_, _, rfl, rfl, gl rfl, gl g0⟩
  · clear hr
    have hr := hk
    clear hk
    obtain ⟨c28, ho⟩ : ∃ z, z = o := ⟨_, rfl⟩
    subst ho
    rintro mm t_1 ⟨rfl, g28, g0⟩
    refine wo_nil ?_
    refine nx_norm ?_
    have hq := cond_inv hr
    clear hr
    rcases hq with ⟨rfl, hr⟩ | ⟨rfl, hr⟩
    · refine w_condT g28 ?_
      refine w_seq ?_
      refine w_ops ?_
      refine wo_step (v := (.b false)) (s_pure (p_mv rfl)) ?_
      refine wo_nil ?_
      refine nx_norm ?_
      refine w_ret ?_
      refine nx_ret ?_
      exact qf ret_ok (rt rfl rn) hr
    · refine w_condF g28 ?_
      refine w_skip ?_
      refine nx_norm ?_
      refine w_seq ?_
      refine w_ops ?_
      refine wo_step (v := (.i .i64 x0)) (s_pure (p_mv g0)) ?_
      have hq := bindP_inv hr
      clear hr
      obtain ⟨v31, m_3, e31, hr⟩ := hq
      refine wo_step (v := v31) (s_call (mc rfl mn) (callM_le hM.call e31)) ?_
      refine wo_step (v := v31) (s_pure (p_mv rfl)) ?_
      have hq := bindO_inv hr
      clear hr
      obtain ⟨v32, e32, hr⟩ := hq
      have hq := asS_inv hr
      clear hr
      obtain ⟨s32, rfl, hr⟩ := hq
      refine wo_step (v := (.s s32)) (s_pure (o_ext rfl e32)) ?_
      have hq := bindO_inv hr
      clear hr
      obtain ⟨v33, e33, hr⟩ := hq
      have hq := asS_inv hr
      clear hr
      obtain ⟨s33, rfl, hr⟩ := hq
      refine wo_step (v := (.s s33)) (s_pure (o_ext rfl e33)) ?_
      have hq := bindO_inv hr
      clear hr
      obtain ⟨v34, e34, hr⟩ := hq
      have hq := asI_inv hr
      clear hr
      obtain ⟨x34, rfl, hr⟩ := hq
      refine wo_step (v := (.i .i64 x34)) (s_pure (o_ext rfl e34)) ?_
      refine wo_step (v := (.s s32)) (s_pure (p_mv rfl)) ?_
      refine wo_step (v := (.s s33)) (s_pure (p_mv rfl)) ?_
      refine wo_step (v := (.i .i64 x34)) (s_pure (p_mv rfl)) ?_
      refine wo_nil ?_
      refine nx_norm ?_
      refine w_seq ?_
      refine w_ops ?_
      refine wo_step (v := (.i .i64 x0)) (s_pure (p_mv g0)) ?_
      have hq := bindP_inv hr
      clear hr
      obtain ⟨v37, m_4, e37, hr⟩ := hq
      refine wo_step (v := v37) (s_call (mc rfl mn) (callM_le hM.call e37)) ?_
      refine wo_step (v := v37) (s_pure (p_mv rfl)) ?_
      have hq := bindO_inv hr
      clear hr
      obtain ⟨v38, e38, hr⟩ := hq
      have hq := asS_inv hr
      clear hr
      obtain ⟨s38, rfl, hr⟩ := hq
      refine wo_step (v := (.s s38)) (s_pure (o_ext rfl e38)) ?_
      have hq := bindO_inv hr
      clear hr
      obtain ⟨v39, e39, hr⟩ := hq
      have hq := asS_inv hr
      clear hr
      obtain ⟨s39, rfl, hr⟩ := hq
      refine wo_step (v := (.s s39)) (s_pure (o_ext rfl e39)) ?_
      have hq := bindO_inv hr
      clear hr
      obtain ⟨v40, e40, hr⟩ := hq
      have hq := asI_inv hr
      clear hr
      obtain ⟨x40, rfl, hr⟩ := hq
      refine wo_step (v := (.i .i64 x40)) (s_pure (o_ext rfl e40)) ?_
      refine wo_step (v := (.s s38)) (s_pure (p_mv rfl)) ?_
      refine wo_step (v := (.s s39)) (s_pure (p_mv rfl)) ?_
      refine wo_step (v := (.i .i64 x40)) (s_pure (p_mv rfl)) ?_
      refine wo_nil ?_
      refine nx_norm ?_
      refine w_seq ?_
      refine w_ops ?_
      refine wo_step (v := (.s s32)) (s_pure (p_mv rfl)) ?_
      refine wo_step (v := (.s s38)) (s_pure (p_mv rfl)) ?_
      have hq := bindO_inv hr
      clear hr
      obtain ⟨v43, e43, hr⟩ := hq
      have hq := asB_inv hr
      clear hr
      obtain ⟨c43, rfl, hr⟩ := hq
      refine wo_step (v := (.b c43)) (s_pure (o_sbin rfl rfl e43)) ?_
      refine wo_step (v := (.b c43)) (s_pure (p_mv rfl)) ?_
      have hq := bindO_inv hr
      clear hr
      obtain ⟨o_1, hr, hk⟩ := hq
      refine wo_join 4 (g6_J1 x34 x40 m_4 o_1) ?_ ?_
      · clear hk
        have hq := cond_inv hr
        clear hr
        rcases hq with ⟨rfl, hr⟩ | ⟨rfl, hr⟩
        · refine wo_take (v := (.s s33)) rfl (s_pure (p_mv rfl)) ?_
          refine wo_take (v := (.s s39)) rfl (s_pure (p_mv rfl)) ?_
          have hq := bindO_inv hr
          clear hr
          obtain ⟨v47, e47, hr⟩ := hq
          have hq := asB_inv hr
          clear hr
          obtain ⟨c47, rfl, hr⟩ := hq
          refine wo_take (v := (.b c47)) rfl (s_pure (o_sbin rfl rfl e47)) ?_
          refine wo_step (v := (.b c47)) (s_pure (p_pickT rfl rfl)) ?_
          refine wo_nil ?_
          cases hr
          exact ⟨_, _, rfl, rfl, gl rfl, gl rfl, gl rfl⟩
        · refine wo_skip (v := (.b false)) rfl rfl ?_
          refine wo_skip (v := (.b false)) rfl rfl ?_
          refine wo_skip (v := (.b false)) rfl rfl ?_
          refine wo_step (v := (.b false)) (s_pure (p_pickF rfl rfl)) ?_
          refine wo_nil ?_
          cases hr
          exact ⟨_, _, rfl, rfl, gl rfl, gl rfl, gl rfl⟩
      · clear hr
        have hr := hk
        clear hk
        obtain ⟨c48, ho⟩ : ∃ z, z = o_1 := ⟨_, rfl⟩
        subst ho
        rintro mm_1 t_2 ⟨rfl, g48, g4, g6⟩
        refine wo_step (v := (.b c48)) (s_pure (p_mv g48)) ?_
        have hq := bindO_inv hr
        clear hr
        obtain ⟨o_2, hr, hk⟩ := hq
        refine wo_join 4 (g6_J2 m_4 o_2) ?_ ?_
        · clear hk
          have hq := cond_inv hr
          clear hr
          rcases hq with ⟨rfl, hr⟩ | ⟨rfl, hr⟩
          · refine wo_take (v := (.i .i64 x34)) rfl (s_pure (p_mv g4)) ?_
            refine wo_take (v := (.i .i64 x40)) rfl (s_pure (p_mv g6)) ?_
            have hq := forceB_inv hr
            clear hr
            obtain ⟨c52, e52, hr⟩ := hq
            refine wo_take (v := (.b c52)) rfl (s_pure (p_bin rfl rfl (b_eql.trans (cb e52)))) ?_
            refine wo_step (v := (.b c52)) (s_pure (p_pickT rfl rfl)) ?_
            refine wo_nil ?_
            cases hr
            exact ⟨_, _, rfl, rfl, gl rfl⟩
          · refine wo_skip (v := (.b false)) rfl rfl ?_
            refine wo_skip (v := (.b false)) rfl rfl ?_
            refine wo_skip (v := (.b false)) rfl rfl ?_
            refine wo_step (v := (.b false)) (s_pure (p_pickF rfl rfl)) ?_
            refine wo_nil ?_
            cases hr
            exact ⟨_, _, rfl, rfl, gl rfl⟩
        · clear hr
          have hr := hk
          clear hk
          obtain ⟨c53, ho⟩ : ∃ z, z = o_2 := ⟨_, rfl⟩
          subst ho
          rintro mm_2 t_3 ⟨rfl, g53⟩
          refine wo_step (v := (.b c53)) (s_pure (p_mv g53)) ?_
          have hq := bindO_inv hr
          clear hr
          obtain ⟨o_3, hr, hk⟩ := hq
          refine wo_join 2 (g6_J3  o_3) ?_ ?_
          · clear hk
            have hq := cond_inv hr
            clear hr
            rcases hq with ⟨rfl, hr⟩ | ⟨rfl, hr⟩
            · have hq := bindP_inv hr
              clear hr
              obtain ⟨v55, m_6, e55, hr⟩ := hq
              have hq := asB_inv hr
              clear hr
              obtain ⟨c55, rfl, hr⟩ := hq
              refine wo_take (v := (.b c55)) rfl (s_call mn (callM_le hM.call e55)) ?_
              refine wo_step (v := (.b c55)) (s_pure (p_pickT rfl rfl)) ?_
              refine wo_nil ?_
              cases hr
              exact ⟨_, _, rfl, rfl, gl rfl⟩
            · refine wo_skip (v := (.b false)) rfl rfl ?_
              refine wo_step (v := (.b false)) (s_pure (p_pickF rfl rfl)) ?_
              refine wo_nil ?_
              cases hr
              exact ⟨_, _, rfl, rfl, gl rfl⟩
          · clear hr
            have hr := hk
            clear hk
            obtain ⟨c56, m_5⟩ := o_3
            rintro mm_3 t_4 ⟨rfl, g56⟩
            refine wo_step (v := (.b c56)) (s_pure (p_mv g56)) ?_
            refine wo_nil ?_
            refine nx_norm ?_
            refine w_ret ?_
            exact qf ret_ok (rt rfl rn) hr

/- dibber/dibberlaw02.WeedMoore -/
abbrev g9_J0 (x11 : Int) (c15 : Bool) (c20 : Bool) (s25 : List UInt8) (x26 : Int) (m_3 : Mm) (o : Bool) (m1 : Mm) (t1 : Tr) : Prop :=
  match o with
  | c32 => m_3 = m1 ∧ t1.get 32 = (.b c32) ∧ t1.get 3 = (.i .i64 x11) ∧ t1.get 4 = (.b c15) ∧ t1.get 6 = (.b c20) ∧ t1.get 8 = (.s s25) ∧ t1.get 9 = (.i .i64 x26)
abbrev g9_J1 (x11 : Int) (c15 : Bool) (s25 : List UInt8) (x26 : Int) (m_3 : Mm) (o : Bool) (m1 : Mm) (t1 : Tr) : Prop :=
  match o with
  | c39 => m_3 = m1 ∧ t1.get 39 = (.b c39) ∧ t1.get 3 = (.i .i64 x11) ∧ t1.get 4 = (.b c15) ∧ t1.get 8 = (.s s25) ∧ t1.get 9 = (.i .i64 x26)
abbrev g9_J2 (x11 : Int) (c15 : Bool) (s25 : List UInt8) (x26 : Int) (m_3 : Mm) (o : Bool) (m1 : Mm) (t1 : Tr) : Prop :=
  match o with
  | c39_1 => m_3 = m1 ∧ t1.get 39 = (.b c39_1) ∧ t1.get 3 = (.i .i64 x11) ∧ t1.get 4 = (.b c15) ∧ t1.get 8 = (.s s25) ∧ t1.get 9 = (.i .i64 x26)
abbrev g9_J3 (x11 : Int) (c15 : Bool) (s25 : List UInt8) (x26 : Int) (m_3 : Mm) (o : Bool) (m1 : Mm) (t1 : Tr) : Prop :=
  match o with
  | c45 => m_3 = m1 ∧ t1.get 45 = (.b c45) ∧ t1.get 3 = (.i .i64 x11) ∧ t1.get 4 = (.b c15) ∧ t1.get 8 = (.s s25) ∧ t1.get 9 = (.i .i64 x26)
abbrev g9_J4 (x11 : Int) (c15 : Bool) (s25 : List UInt8) (m_3 : Mm) (o : Bool) (m1 : Mm) (t1 : Tr) : Prop :=
  match o with
  | c53 => m_3 = m1 ∧ t1.get 53 = (.b c53) ∧ t1.get 3 = (.i .i64 x11) ∧ t1.get 4 = (.b c15) ∧ t1.get 8 = (.s s25)
abbrev g9_J5 (x11 : Int) (c15 : Bool) (s25 : List UInt8) (m_3 : Mm) (o : Bool) (m1 : Mm) (t1 : Tr) : Prop :=
  match o with
  | c53_1 => m_3 = m1 ∧ t1.get 53 = (.b c53_1) ∧ t1.get 3 = (.i .i64 x11) ∧ t1.get 4 = (.b c15) ∧ t1.get 8 = (.s s25)
abbrev g9_J6  (o : Bool × Mm) (m1 : Mm) (t1 : Tr) : Prop :=
  match o with
  | (c59, m_4) => m_4 = m1 ∧ t1.get 59 = (.b c59)
abbrev g9_J7 (x11 : Int) (s25 : List UInt8) (m_6 : Mm) (o : Bool) (m1 : Mm) (t1 : Tr) : Prop :=
  match o with
  | c72 => m_6 = m1 ∧ t1.get 72 = (.b c72) ∧ t1.get 3 = (.i .i64 x11) ∧ t1.get 8 = (.s s25)
abbrev g9_J8  (o : (Mm ⊕ (Bool × Mm))) (e : AExit) (m1 : Mm) (t1 : Tr) : Prop :=
  match o with
  | (.inl mo) => e = .norm ∧ mo = m1
  | (.inr (y2, mo)) => e = .ret ∧ mo = m1 ∧ t1.get 2 = (.b y2)
abbrev g9_J9 (x11 : Int) (s25 : List UInt8) (m_8 : Mm) (o : Bool) (m1 : Mm) (t1 : Tr) : Prop :=
  match o with
  | c98 => m_8 = m1 ∧ t1.get 98 = (.b c98) ∧ t1.get 3 = (.i .i64 x11) ∧ t1.get 8 = (.s s25)
def g9 (M : Means) (ro : List ABlk) (x0 : Int) (m0 : Mm) : Option (AVal × Heap × Nat × Nat) :=
  forceI (wr .i64 x0) fun x11 =>
  bindP (callM M.call m0 28 [(.i .i64 x11)]) fun v14 m_1 =>
  bindO (evP .e (.ext 0 (.c v14))) fun v15 =>
  asB v15 fun c15 =>
  bindO (evP .e (.ext 1 (.c v14))) fun v16 =>
  asI .i64 v16 fun x16 =>
  bindP (callM M.call m_1 30 [(.i .i64 x11)]) fun v19 m_2 =>
  bindO (evP .e (.ext 0 (.c v19))) fun v20 =>
  asB v20 fun c20 =>
  bindO (evP .e (.ext 1 (.c v19))) fun v21 =>
  asI .i64 v21 fun x21 =>
  bindP (callM M.call m_2 26 [(.i .i64 x11), (.i .i64 20)]) fun v24 m_3 =>
  bindO (evP .e (.ext 0 (.c v24))) fun v25 =>
  asS v25 fun s25 =>
  bindO (evP .e (.ext 1 (.c v24))) fun v26 =>
  asI .i64 v26 fun x26 =>
  forceB (!eqI x16 0) fun c28 =>
  bindO (cond c28 (
    some true) (
    forceB (!eqI x21 0) fun c31 =>
    some c31)) fun c32 =>
  bindO (cond c32 (
    some true) (
    bindO (cond c20 (
      forceB (!c15) fun c37 =>
      some c37) (
      some false)) fun c39_1 =>
    some c39_1)) fun c39 =>
  bindO (cond c39 (
    some true) (
    forceB (eqI x26 10) fun c43 =>
    forceB (!(c15 == c43)) fun c44 =>
    some c44)) fun c45 =>
  bindO (cond c45 (
    some true) (
    forceB (!c15) fun c48 =>
    bindO (cond c48 (
      forceB (!eqI x26 0) fun c51 =>
      some c51) (
      some false)) fun c53_1 =>
    some c53_1)) fun c53 =>
  cond c53 (
    finM m0.h.length (tupA [(.b false)]) m_3) (
    cond c15 (
      bindO (evP .e (.sbin BinOp.eql (.c (.s s25)) (.c (AVal.s [])))) fun v56 =>
      asB v56 fun c56 =>
      bindO (cond c56 (
        bindP (callM M.call m_3 15 []) fun v58 m_5 =>
        asB v58 fun c58 =>
        some (c58, m_5)) (
        some (false, m_3))) fun ⟨c59, m_4⟩ =>
      finM m0.h.length (tupA [(.b c59)]) m_4) (
      bindP (callM M.call m_3 20 [(.i .i64 x11), (.s s25)]) fun v63 m_6 =>
      bindO (evP .e (.ext 0 (.c v63))) fun v64 =>
      asS v64 fun s64 =>
      bindO (evP .e (.ext 1 (.c v63))) fun v65 =>
      asI .i64 v65 fun x65 =>
      forceB (!eqI x65 10) fun c67 =>
      bindO (cond c67 (
        some true) (
        bindO (evP .e (.len true (.c (.s s25)))) fun v70 =>
        asI .i64 v70 fun x70 =>
        forceB (ltI 20 x70) fun c71 =>
        some c71)) fun c72 =>
      cond c72 (
        finM m0.h.length (tupA [(.b false)]) m_6) (
        bindO (evP .e (.len true (.c (.s s25)))) fun v74 =>
        asI .i64 v74 fun x74 =>
        forceB (ltI 1 x74) fun c75 =>
        bindO (α := (Mm ⊕ (Bool × Mm))) (
          cond c75 (
            bindO (evP .e (.slStr (.c (.s s25)) (some (.c (.i .i64 1))) none)) fun v79 =>
            asS v79 fun s79 =>
            bindP (callM M.call m_6 20 [(.i .i64 x11), (.s s79)]) fun v80 m_7 =>
            bindO (evP .e (.ext 0 (.c v80))) fun v81 =>
            asS v81 fun s81 =>
            bindO (evP .e (.ext 1 (.c v80))) fun v82 =>
            asI .i64 v82 fun x82 =>
            bindO (evP .e (.len true (.c (.s s25)))) fun v87 =>
            asI .i64 v87 fun x87 =>
            forceI (wr .i64 (x87 - 1)) fun x88 =>
            bindO (evP .e (.slStr (.c (.s s25)) none (some (.c (.i .i64 x88))))) fun v89 =>
            asS v89 fun s89 =>
            bindP (callM M.call m_7 20 [(.i .i64 x11), (.s s89)]) fun v90 m_8 =>
            bindO (evP .e (.ext 0 (.c v90))) fun v91 =>
            asS v91 fun s91 =>
            bindO (evP .e (.ext 1 (.c v90))) fun v92 =>
            asI .i64 v92 fun x92 =>
            forceB (!eqI x82 0) fun c94 =>
            bindO (cond c94 (
              some true) (
              forceB (!eqI x92 0) fun c97 =>
              some c97)) fun c98 =>
            cond c98 (
              some (.inr (false, m_8))) (
              bindO (evP .e (.len true (.c (.s s25)))) fun v102 =>
              asI .i64 v102 fun x102 =>
              forceI (wr .i64 (x102 - 1)) fun x103 =>
              bindP (callM M.call m_8 26 [(.i .i64 x11), (.i .i64 x103)]) fun v104 m_9 =>
              bindO (evP .e (.ext 0 (.c v104))) fun v105 =>
              asS v105 fun s105 =>
              bindO (evP .e (.ext 1 (.c v104))) fun v106 =>
              asI .i64 v106 fun x106 =>
              forceB (!eqI x106 10) fun c108 =>
              cond c108 (
                some (.inr (false, m_9))) (
                some (.inl m_9)))) (
            some (.inl m_6))) fun o_8 => match o_8 with
        | (.inl m_10) =>
          bindP (callM M.call m_10 15 []) fun v109 m_11 =>
          asB v109 fun c109 =>
          finM m0.h.length (tupA [(.b c109)]) m_11
        | (.inr (c2, m_12)) =>
          finM m0.h.length (tupA [(.b c2)]) m_12)))

theorem g9_ok {ro : List ABlk} {O : Caller} {M : Means} (hM : M.Ok ⟨F, O⟩ ro) {x0 h r} (ho : O 9 [(.i .u8 x0)] h = none) (hr : g9 M ro x0 ⟨h, h.length, h.length⟩ = some r) : callX ⟨F, O⟩ ro 9 [(.i .u8 x0)] h = some r := by
  refine callX_of (F := ⟨F, O⟩) (fn := fn9) (g := g9 M ro x0) ho rfl rfl hr ?_
  clear ho
  clear hr
  intro m0 t0 ht hr
  have g0 : t0.get 0 = (.i .u8 x0) := ht 0
  clear ht
  unfold g9 at hr
  refine w_seq ?_
  refine w_ops ?_
  refine wo_step (v := (.b false)) (s_pure (p_mv rfl)) ?_
  refine wo_nil ?_
  refine nx_norm ?_
  refine w_seq ?_
  refine w_ops ?_
  refine wo_step (v := (.i .u8 x0)) (s_pure (p_mv g0)) ?_
  have hq := forceI_inv hr
  clear hr
  obtain ⟨x11, e11, hr⟩ := hq
  refine wo_step (v := (.i .i64 x11)) (s_pure ((p_conv rfl).trans (ci e11))) ?_
  refine wo_step (v := (.i .i64 x11)) (s_pure (p_mv rfl)) ?_
  refine wo_nil ?_
  refine nx_norm ?_
  refine w_seq ?_
  refine w_ops ?_
  refine wo_step (v := (.i .i64 x11)) (s_pure (p_mv rfl)) ?_
  have hq := bindP_inv hr
  clear hr
  obtain ⟨v14, m_1, e14, hr⟩ := hq
  refine wo_step (v := v14) (s_call (mc rfl mn) (callM_le hM.call e14)) ?_
  refine wo_step (v := v14) (s_pure (p_mv rfl)) ?_
  have hq := bindO_inv hr
  clear hr
  obtain ⟨v15, e15, hr⟩ := hq
  have hq := asB_inv hr
  clear hr
  obtain ⟨c15, rfl, hr⟩ := hq
  refine wo_step (v := (.b c15)) (s_pure (o_ext rfl e15)) ?_
  have hq := bindO_inv hr
  clear hr
  obtain ⟨v16, e16, hr⟩ := hq
  have hq := asI_inv hr
  clear hr
  obtain ⟨x16, rfl, hr⟩ := hq
  refine wo_step (v := (.i .i64 x16)) (s_pure (o_ext rfl e16)) ?_
  refine wo_step (v := (.b c15)) (s_pure (p_mv rfl)) ?_
  refine wo_step (v := (.i .i64 x16)) (s_pure (p_mv rfl)) ?_
  refine wo_nil ?_
  refine nx_norm ?_
  refine w_seq ?_
  refine w_ops ?_
  refine wo_step (v := (.i .i64 x11)) (s_pure (p_mv rfl)) ?_
  have hq := bindP_inv hr
  clear hr
  obtain ⟨v19, m_2, e19, hr⟩ := hq
  refine wo_step (v := v19) (s_call (mc rfl mn) (callM_le hM.call e19)) ?_
  refine wo_step (v := v19) (s_pure (p_mv rfl)) ?_
  have hq := bindO_inv hr
  clear hr
  obtain ⟨v20, e20, hr⟩ := hq
  have hq := asB_inv hr
  clear hr
  obtain ⟨c20, rfl, hr⟩ := hq
  refine wo_step (v := (.b c20)) (s_pure (o_ext rfl e20)) ?_
  have hq := bindO_inv hr
  clear hr
  obtain ⟨v21, e21, hr⟩ := hq
  have hq := asI_inv hr
  clear hr
  obtain ⟨x21, rfl, hr⟩ := hq
  refine wo_step (v := (.i .i64 x21)) (s_pure (o_ext rfl e21)) ?_
  refine wo_step (v := (.b c20)) (s_pure (p_mv rfl)) ?_
  refine wo_step (v := (.i .i64 x21)) (s_pure (p_mv rfl)) ?_
  refine wo_nil ?_
  refine nx_norm ?_
  refine w_seq ?_
  refine w_ops ?_
  refine wo_step (v := (.i .i64 x11)) (s_pure (p_mv rfl)) ?_
  have hq := bindP_inv hr
  clear hr
  obtain ⟨v24, m_3, e24, hr⟩ := hq
  refine wo_step (v := v24) (s_call (mc rfl (mc rfl mn)) (callM_le hM.call e24)) ?_
  refine wo_step (v := v24) (s_pure (p_mv rfl)) ?_
  have hq := bindO_inv hr
  clear hr
  obtain ⟨v25, e25, hr⟩ := hq
  have hq := asS_inv hr
  clear hr
  obtain ⟨s25, rfl, hr⟩ := hq
  refine wo_step (v := (.s s25)) (s_pure (o_ext rfl e25)) ?_
  have hq := bindO_inv hr
  clear hr
  obtain ⟨v26, e26, hr⟩ := hq
  have hq := asI_inv hr
  clear hr
  obtain ⟨x26, rfl, hr⟩ := hq
  refine wo_step (v := (.i .i64 x26)) (s_pure (o_ext rfl e26)) ?_
  refine wo_step (v := (.s s25)) (s_pure (p_mv rfl)) ?_
  refine wo_step (v := (.i .i64 x26)) (s_pure (p_mv rfl)) ?_
  refine wo_nil ?_
  refine nx_norm ?_
  refine w_seq ?_
  refine w_seq ?_
  refine w_ops ?_
  refine wo_step (v := (.i .i64 x16)) (s_pure (p_mv rfl)) ?_
  have hq := forceB_inv hr
  clear hr
  obtain ⟨c28, e28, hr⟩ := hq
  refine wo_step (v := (.b c28)) (s_pure (p_bin rfl rfl (b_neq.trans (cb e28)))) ?_
  refine wo_step (v := (.b c28)) (s_pure (p_mv rfl)) ?_
  have hq := bindO_inv hr
  clear hr
  obtain ⟨o, hr, hk⟩ := hq
  refine wo_join 3 (g9_J0 x11 c15 c20 s25 x26 m_3 o) ?_ ?_
  · clear hk
    have hq := cond_inv hr
    clear hr
    rcases hq with ⟨rfl, hr⟩ | ⟨rfl, hr⟩
    · refine wo_skip (v := (.b true)) rfl rfl ?_
      refine wo_skip (v := (.b true)) rfl rfl ?_
      refine wo_step (v := (.b true)) (s_pure (p_pickT rfl rfl)) ?_
      refine wo_nil ?_
      cases hr
      exact ⟨_, _, rfl, rfl, gl rfl, gl rfl, gl rfl, gl rfl, gl rfl, gl rfl⟩
    · refine wo_take (v := (.i .i64 x21)) rfl (s_pure (p_mv rfl)) ?_
      have hq := forceB_inv hr
      clear hr
      obtain ⟨c31, e31, hr⟩ := hq
      refine wo_take (v := (.b c31)) rfl (s_pure (p_bin rfl rfl (b_neq.trans (cb e31)))) ?_
      refine wo_step (v := (.b c31)) (s_pure (p_pickF rfl rfl)) ?_
      refine wo_nil ?_
      cases hr
      exact ⟨_, _, rfl, rfl, gl rfl, gl rfl, gl rfl, gl rfl, gl rfl, gl rfl⟩
  · clear hr
    have hr := hk
    clear hk
    obtain ⟨c32, ho⟩ : ∃ z, z = o := ⟨_, rfl⟩
    subst ho
    rintro mm t_1 ⟨rfl, g32, g3, g4, g6, g8, g9⟩
    refine wo_step (v := (.b c32)) (s_pure (p_mv g32)) ?_
    have hq := bindO_inv hr
    clear hr
    obtain ⟨o_1, hr, hk⟩ := hq
    refine wo_join 6 (g9_J1 x11 c15 s25 x26 m_3 o_1) ?_ ?_
    · clear hk
      have hq := cond_inv hr
      clear hr
      rcases hq with ⟨rfl, hr⟩ | ⟨rfl, hr⟩
      · refine wo_skip (v := (.b true)) rfl rfl ?_
        refine wo_skip (v := (.b true)) rfl rfl ?_
        refine wo_skip (v := und) rfl rfl ?_
        refine wo_skip (v := und) rfl rfl ?_
        refine wo_skip (v := (.b true)) rfl rfl ?_
        refine wo_step (v := (.b true)) (s_pure (p_pickT rfl rfl)) ?_
        refine wo_nil ?_
        cases hr
        exact ⟨_, _, rfl, rfl, gl rfl, gl g3, gl g4, gl g8, gl g9⟩
      · refine wo_take (v := (.b c20)) rfl (s_pure (p_mv g6)) ?_
        refine wo_take (v := (.b c20)) rfl (s_pure (p_mv rfl)) ?_
        have hq := bindO_inv hr
        clear hr
        obtain ⟨o_2, hr, hk⟩ := hq
        refine wo_join 4 (g9_J2 x11 c15 s25 x26 m_3 o_2) ?_ ?_
        · clear hk
          have hq := cond_inv hr
          clear hr
          rcases hq with ⟨rfl, hr⟩ | ⟨rfl, hr⟩
          · refine wo_take (v := (.b c15)) rfl (s_pure (p_mv g4)) ?_
            have hq := forceB_inv hr
            clear hr
            obtain ⟨c37, e37, hr⟩ := hq
            refine wo_take (v := (.b c37)) rfl (s_pure ((p_not rfl).trans (cb e37))) ?_
            refine wo_take (v := (.b c37)) rfl (s_pure (p_pickT rfl rfl)) ?_
            refine wo_step (v := (.b c37)) (s_pure (p_pickF rfl rfl)) ?_
            refine wo_nil ?_
            cases hr
            exact ⟨_, _, rfl, rfl, gl rfl, gl g3, gl g4, gl g8, gl g9⟩
          · refine wo_skip (v := (.b false)) rfl rfl ?_
            refine wo_skip (v := (.b false)) rfl rfl ?_
            refine wo_take (v := (.b false)) rfl (s_pure (p_pickF rfl rfl)) ?_
            refine wo_step (v := (.b false)) (s_pure (p_pickF rfl rfl)) ?_
            refine wo_nil ?_
            cases hr
            exact ⟨_, _, rfl, rfl, gl rfl, gl g3, gl g4, gl g8, gl g9⟩
        · clear hr
          have hr := hk
          clear hk
          obtain ⟨c39_1, ho⟩ : ∃ z, z = o_2 := ⟨_, rfl⟩
          subst ho
          rintro mm_1 t_2 ⟨rfl, g39, g3, g4, g8, g9⟩
          refine wo_nil ?_
          cases hr
          exact ⟨_, _, rfl, rfl, gl g39, gl g3, gl g4, gl g8, gl g9⟩
    · clear hr
      have hr := hk
      clear hk
      obtain ⟨c39, ho⟩ : ∃ z, z = o_1 := ⟨_, rfl⟩
      subst ho
      rintro mm_2 t_3 ⟨rfl, g39, g3, g4, g8, g9⟩
      refine wo_step (v := (.b c39)) (s_pure (p_mv g39)) ?_
      have hq := bindO_inv hr
      clear hr
      obtain ⟨o_3, hr, hk⟩ := hq
      refine wo_join 5 (g9_J3 x11 c15 s25 x26 m_3 o_3) ?_ ?_
      · clear hk
        have hq := cond_inv hr
        clear hr
        rcases hq with ⟨rfl, hr⟩ | ⟨rfl, hr⟩
        · refine wo_skip (v := (.b true)) rfl rfl ?_
          refine wo_skip (v := (.b true)) rfl rfl ?_
          refine wo_skip (v := (.b true)) rfl rfl ?_
          refine wo_skip (v := (.b true)) rfl rfl ?_
          refine wo_step (v := (.b true)) (s_pure (p_pickT rfl rfl)) ?_
          refine wo_nil ?_
          cases hr
          exact ⟨_, _, rfl, rfl, gl rfl, gl g3, gl g4, gl g8, gl g9⟩
        · refine wo_take (v := (.b c15)) rfl (s_pure (p_mv g4)) ?_
          refine wo_take (v := (.i .i64 x26)) rfl (s_pure (p_mv g9)) ?_
          have hq := forceB_inv hr
          clear hr
          obtain ⟨c43, e43, hr⟩ := hq
          refine wo_take (v := (.b c43)) rfl (s_pure (p_bin rfl rfl (b_eql.trans (cb e43)))) ?_
          have hq := forceB_inv hr
          clear hr
          obtain ⟨c44, e44, hr⟩ := hq
          refine wo_take (v := (.b c44)) rfl (s_pure ((p_beq rfl rfl).trans (cb e44))) ?_
          refine wo_step (v := (.b c44)) (s_pure (p_pickF rfl rfl)) ?_
          refine wo_nil ?_
          cases hr
          exact ⟨_, _, rfl, rfl, gl rfl, gl g3, gl g4, gl g8, gl g9⟩
      · clear hr
        have hr := hk
        clear hk
        obtain ⟨c45, ho⟩ : ∃ z, z = o_3 := ⟨_, rfl⟩
        subst ho
        rintro mm_3 t_4 ⟨rfl, g45, g3, g4, g8, g9⟩
        refine wo_step (v := (.b c45)) (s_pure (p_mv g45)) ?_
        have hq := bindO_inv hr
        clear hr
        obtain ⟨o_4, hr, hk⟩ := hq
        refine wo_join 7 (g9_J4 x11 c15 s25 m_3 o_4) ?_ ?_
        · clear hk
          have hq := cond_inv hr
          clear hr
          rcases hq with ⟨rfl, hr⟩ | ⟨rfl, hr⟩
          · refine wo_skip (v := (.b true)) rfl rfl ?_
            refine wo_skip (v := (.b true)) rfl rfl ?_
            refine wo_skip (v := (.b true)) rfl rfl ?_
            refine wo_skip (v := und) rfl rfl ?_
            refine wo_skip (v := und) rfl rfl ?_
            refine wo_skip (v := (.b true)) rfl rfl ?_
            refine wo_step (v := (.b true)) (s_pure (p_pickT rfl rfl)) ?_
            refine wo_nil ?_
            cases hr
            exact ⟨_, _, rfl, rfl, gl rfl, gl g3, gl g4, gl g8⟩
          · refine wo_take (v := (.b c15)) rfl (s_pure (p_mv g4)) ?_
            have hq := forceB_inv hr
            clear hr
            obtain ⟨c48, e48, hr⟩ := hq
            refine wo_take (v := (.b c48)) rfl (s_pure ((p_not rfl).trans (cb e48))) ?_
            refine wo_take (v := (.b c48)) rfl (s_pure (p_mv rfl)) ?_
            have hq := bindO_inv hr
            clear hr
            obtain ⟨o_5, hr, hk⟩ := hq
            refine wo_join 4 (g9_J5 x11 c15 s25 m_3 o_5) ?_ ?_
            · clear hk
              have hq := cond_inv hr
              clear hr
              rcases hq with ⟨rfl, hr⟩ | ⟨rfl, hr⟩
              · refine wo_take (v := (.i .i64 x26)) rfl (s_pure (p_mv g9)) ?_
                have hq := forceB_inv hr
                clear hr
                obtain ⟨c51, e51, hr⟩ := hq
                refine wo_take (v := (.b c51)) rfl (s_pure (p_bin rfl rfl (b_neq.trans (cb e51)))) ?_
                refine wo_take (v := (.b c51)) rfl (s_pure (p_pickT rfl rfl)) ?_
                refine wo_step (v := (.b c51)) (s_pure (p_pickF rfl rfl)) ?_
                refine wo_nil ?_
                cases hr
                exact ⟨_, _, rfl, rfl, gl rfl, gl g3, gl g4, gl g8⟩
              · refine wo_skip (v := (.b false)) rfl rfl ?_
                refine wo_skip (v := (.b false)) rfl rfl ?_
                refine wo_take (v := (.b false)) rfl (s_pure (p_pickF rfl rfl)) ?_
                refine wo_step (v := (.b false)) (s_pure (p_pickF rfl rfl)) ?_
                refine wo_nil ?_
                cases hr
                exact ⟨_, _, rfl, rfl, gl rfl, gl g3, gl g4, gl g8⟩
            · clear hr
              have hr := hk
              clear hk
              obtain ⟨c53_1, ho⟩ : ∃ z, z = o_5 := ⟨_, rfl⟩
              subst ho
              rintro mm_4 t_5 ⟨rfl, g53, g3, g4, g8⟩
              refine wo_nil ?_
              cases hr
              exact ⟨_, _, rfl, rfl, gl g53, gl g3, gl g4, gl g8⟩
        · clear hr
          have hr := hk
          clear hk
          obtain ⟨c53, ho⟩ : ∃ z, z = o_4 := ⟨_, rfl⟩
          subst ho
          rintro mm_5 t_6 ⟨rfl, g53, g3, g4, g8⟩
          refine wo_nil ?_
          refine nx_norm ?_
          have hq := cond_inv hr
          clear hr
          rcases hq with ⟨rfl, hr⟩ | ⟨rfl, hr⟩
          · refine w_condT g53 ?_
            refine w_seq ?_
            refine w_ops ?_
            refine wo_step (v := (.b false)) (s_pure (p_mv rfl)) ?_
            refine wo_nil ?_
            refine nx_norm ?_
            refine w_ret ?_
            refine nx_ret ?_
            exact qf ret_ok (rt rfl rn) hr
          · refine w_condF g53 ?_
            refine w_skip ?_
            refine nx_norm ?_
            refine w_seq ?_
            refine w_seq ?_
            refine w_ops ?_
            refine wo_step (v := (.b c15)) (s_pure (p_mv g4)) ?_
            refine wo_nil ?_
            refine nx_norm ?_
            have hq := cond_inv hr
            clear hr
            rcases hq with ⟨rfl, hr⟩ | ⟨rfl, hr⟩
            · refine w_condT rfl ?_
              refine w_seq ?_
              refine w_ops ?_
              refine wo_step (v := (.s s25)) (s_pure (p_mv g8)) ?_
              have hq := bindO_inv hr
              clear hr
              obtain ⟨v56, e56, hr⟩ := hq
              have hq := asB_inv hr
              clear hr
              obtain ⟨c56, rfl, hr⟩ := hq
              refine wo_step (v := (.b c56)) (s_pure (o_sbin rfl rfl e56)) ?_
              refine wo_step (v := (.b c56)) (s_pure (p_mv rfl)) ?_
              have hq := bindO_inv hr
              clear hr
              obtain ⟨o_6, hr, hk⟩ := hq
              refine wo_join 2 (g9_J6  o_6) ?_ ?_
              · clear hk
                have hq := cond_inv hr
                clear hr
                rcases hq with ⟨rfl, hr⟩ | ⟨rfl, hr⟩
                · have hq := bindP_inv hr
                  clear hr
                  obtain ⟨v58, m_5, e58, hr⟩ := hq
                  have hq := asB_inv hr
                  clear hr
                  obtain ⟨c58, rfl, hr⟩ := hq
                  refine wo_take (v := (.b c58)) rfl (s_call mn (callM_le hM.call e58)) ?_
                  refine wo_step (v := (.b c58)) (s_pure (p_pickT rfl rfl)) ?_
                  refine wo_nil ?_
                  cases hr
                  exact ⟨_, _, rfl, rfl, gl rfl⟩
                · refine wo_skip (v := (.b false)) rfl rfl ?_
                  refine wo_step (v := (.b false)) (s_pure (p_pickF rfl rfl)) ?_
                  refine wo_nil ?_
                  cases hr
                  exact ⟨_, _, rfl, rfl, gl rfl⟩
              · clear hr
                have hr := hk
                clear hk
                obtain ⟨c59, m_4⟩ := o_6
                rintro mm_6 t_7 ⟨rfl, g59⟩
                refine wo_step (v := (.b c59)) (s_pure (p_mv g59)) ?_
                refine wo_nil ?_
                refine nx_norm ?_
                refine w_ret ?_
                refine nx_ret ?_
                exact qf ret_ok (rt rfl rn) hr
            · refine w_condF rfl ?_
              refine w_skip ?_
              refine nx_norm ?_
              refine w_seq ?_
              refine w_ops ?_
              refine wo_step (v := (.i .i64 x11)) (s_pure (p_mv g3)) ?_
              refine wo_step (v := (.s s25)) (s_pure (p_mv g8)) ?_
              have hq := bindP_inv hr
              clear hr
              obtain ⟨v63, m_6, e63, hr⟩ := hq
              refine wo_step (v := v63) (s_call (mc rfl (mc rfl mn)) (callM_le hM.call e63)) ?_
              refine wo_step (v := v63) (s_pure (p_mv rfl)) ?_
              have hq := bindO_inv hr
              clear hr
              obtain ⟨v64, e64, hr⟩ := hq
              have hq := asS_inv hr
              clear hr
              obtain ⟨s64, rfl, hr⟩ := hq
              refine wo_step (v := (.s s64)) (s_pure (o_ext rfl e64)) ?_
              have hq := bindO_inv hr
              clear hr
              obtain ⟨v65, e65, hr⟩ := hq
              have hq := asI_inv hr
              clear hr
              obtain ⟨x65, rfl, hr⟩ := hq
              refine wo_step (v := (.i .i64 x65)) (s_pure (o_ext rfl e65)) ?_
              refine wo_step (v := (.i .i64 x65)) (s_pure (p_mv rfl)) ?_
              refine wo_nil ?_
              refine nx_norm ?_
              refine w_seq ?_
              refine w_seq ?_
              refine w_ops ?_
              refine wo_step (v := (.i .i64 x65)) (s_pure (p_mv rfl)) ?_
              have hq := forceB_inv hr
              clear hr
              obtain ⟨c67, e67, hr⟩ := hq
              refine wo_step (v := (.b c67)) (s_pure (p_bin rfl rfl (b_neq.trans (cb e67)))) ?_
              refine wo_step (v := (.b c67)) (s_pure (p_mv rfl)) ?_
              have hq := bindO_inv hr
              clear hr
              obtain ⟨o_7, hr, hk⟩ := hq
              refine wo_join 4 (g9_J7 x11 s25 m_6 o_7) ?_ ?_
              · clear hk
                have hq := cond_inv hr
                clear hr
                rcases hq with ⟨rfl, hr⟩ | ⟨rfl, hr⟩
                · refine wo_skip (v := (.b true)) rfl rfl ?_
                  refine wo_skip (v := (.b true)) rfl rfl ?_
                  refine wo_skip (v := (.b true)) rfl rfl ?_
                  refine wo_step (v := (.b true)) (s_pure (p_pickT rfl rfl)) ?_
                  refine wo_nil ?_
                  cases hr
                  exact ⟨_, _, rfl, rfl, gl rfl, gl g3, gl g8⟩
                · refine wo_take (v := (.s s25)) rfl (s_pure (p_mv g8)) ?_
                  have hq := bindO_inv hr
                  clear hr
                  obtain ⟨v70, e70, hr⟩ := hq
                  have hq := asI_inv hr
                  clear hr
                  obtain ⟨x70, rfl, hr⟩ := hq
                  refine wo_take (v := (.i .i64 x70)) rfl (s_pure (o_len rfl e70)) ?_
                  have hq := forceB_inv hr
                  clear hr
                  obtain ⟨c71, e71, hr⟩ := hq
                  refine wo_take (v := (.b c71)) rfl (s_pure (p_bin rfl rfl (b_gtr.trans (cb e71)))) ?_
                  refine wo_step (v := (.b c71)) (s_pure (p_pickF rfl rfl)) ?_
                  refine wo_nil ?_
                  cases hr
                  exact ⟨_, _, rfl, rfl, gl rfl, gl g3, gl g8⟩
              · clear hr
                have hr := hk
                clear hk
                obtain ⟨c72, ho⟩ : ∃ z, z = o_7 := ⟨_, rfl⟩
                subst ho
                rintro mm_7 t_8 ⟨rfl, g72, g3, g8⟩
                refine wo_nil ?_
                refine nx_norm ?_
                have hq := cond_inv hr
                clear hr
                rcases hq with ⟨rfl, hr⟩ | ⟨rfl, hr⟩
                · refine w_condT g72 ?_
                  refine w_seq ?_
                  refine w_ops ?_
                  refine wo_step (v := (.b false)) (s_pure (p_mv rfl)) ?_
                  refine wo_nil ?_
                  refine nx_norm ?_
                  refine w_ret ?_
                  refine nx_ret ?_
                  exact qf ret_ok (rt rfl rn) hr
                · refine w_condF g72 ?_
                  refine w_skip ?_
                  refine nx_norm ?_
                  refine w_seq ?_
                  refine w_seq ?_
                  refine w_ops ?_
                  refine wo_step (v := (.s s25)) (s_pure (p_mv g8)) ?_
                  have hq := bindO_inv hr
                  clear hr
                  obtain ⟨v74, e74, hr⟩ := hq
                  have hq := asI_inv hr
                  clear hr
                  obtain ⟨x74, rfl, hr⟩ := hq
                  refine wo_step (v := (.i .i64 x74)) (s_pure (o_len rfl e74)) ?_
                  have hq := forceB_inv hr
                  clear hr
                  obtain ⟨c75, e75, hr⟩ := hq
                  refine wo_step (v := (.b c75)) (s_pure (p_bin rfl rfl (b_gtr.trans (cb e75)))) ?_
                  refine wo_nil ?_
                  refine nx_norm ?_
                  have hq := bindO_inv hr
                  clear hr
                  obtain ⟨o_8, hr, hk⟩ := hq
                  refine jp_mono (J := g9_J8  o_8) ?_ ?_
                  · clear hk
                    have hq := cond_inv hr
                    clear hr
                    rcases hq with ⟨rfl, hr⟩ | ⟨rfl, hr⟩
                    · refine w_condT rfl ?_
                      refine w_seq ?_
                      refine w_ops ?_
                      refine wo_step (v := (.i .i64 x11)) (s_pure (p_mv g3)) ?_
                      refine wo_step (v := (.s s25)) (s_pure (p_mv g8)) ?_
                      have hq := bindO_inv hr
                      clear hr
                      obtain ⟨v79, e79, hr⟩ := hq
                      have hq := asS_inv hr
                      clear hr
                      obtain ⟨s79, rfl, hr⟩ := hq
                      refine wo_step (v := (.s s79)) (s_pure (o_slStr rfl (os rfl) on e79)) ?_
                      have hq := bindP_inv hr
                      clear hr
                      obtain ⟨v80, m_7, e80, hr⟩ := hq
                      refine wo_step (v := v80) (s_call (mc rfl (mc rfl mn)) (callM_le hM.call e80)) ?_
                      refine wo_step (v := v80) (s_pure (p_mv rfl)) ?_
                      have hq := bindO_inv hr
                      clear hr
                      obtain ⟨v81, e81, hr⟩ := hq
                      have hq := asS_inv hr
                      clear hr
                      obtain ⟨s81, rfl, hr⟩ := hq
                      refine wo_step (v := (.s s81)) (s_pure (o_ext rfl e81)) ?_
                      have hq := bindO_inv hr
                      clear hr
                      obtain ⟨v82, e82, hr⟩ := hq
                      have hq := asI_inv hr
                      clear hr
                      obtain ⟨x82, rfl, hr⟩ := hq
                      refine wo_step (v := (.i .i64 x82)) (s_pure (o_ext rfl e82)) ?_
                      refine wo_step (v := (.i .i64 x82)) (s_pure (p_mv rfl)) ?_
                      refine wo_nil ?_
                      refine nx_norm ?_
                      refine w_seq ?_
                      refine w_ops ?_
                      refine wo_step (v := (.i .i64 x11)) (s_pure (p_mv g3)) ?_
                      refine wo_step (v := (.s s25)) (s_pure (p_mv g8)) ?_
                      refine wo_step (v := (.s s25)) (s_pure (p_mv g8)) ?_
                      have hq := bindO_inv hr
                      clear hr
                      obtain ⟨v87, e87, hr⟩ := hq
                      have hq := asI_inv hr
                      clear hr
                      obtain ⟨x87, rfl, hr⟩ := hq
                      refine wo_step (v := (.i .i64 x87)) (s_pure (o_len rfl e87)) ?_
                      have hq := forceI_inv hr
                      clear hr
                      obtain ⟨x88, e88, hr⟩ := hq
                      refine wo_step (v := (.i .i64 x88)) (s_pure (p_bin rfl rfl (b_sub.trans (ci e88)))) ?_
                      have hq := bindO_inv hr
                      clear hr
                      obtain ⟨v89, e89, hr⟩ := hq
                      have hq := asS_inv hr
                      clear hr
                      obtain ⟨s89, rfl, hr⟩ := hq
                      refine wo_step (v := (.s s89)) (s_pure (o_slStr rfl on (os rfl) e89)) ?_
                      have hq := bindP_inv hr
                      clear hr
                      obtain ⟨v90, m_8, e90, hr⟩ := hq
                      refine wo_step (v := v90) (s_call (mc rfl (mc rfl mn)) (callM_le hM.call e90)) ?_
                      refine wo_step (v := v90) (s_pure (p_mv rfl)) ?_
                      have hq := bindO_inv hr
                      clear hr
                      obtain ⟨v91, e91, hr⟩ := hq
                      have hq := asS_inv hr
                      clear hr
                      obtain ⟨s91, rfl, hr⟩ := hq
                      refine wo_step (v := (.s s91)) (s_pure (o_ext rfl e91)) ?_
                      have hq := bindO_inv hr
                      clear hr
                      obtain ⟨v92, e92, hr⟩ := hq
                      have hq := asI_inv hr
                      clear hr
                      obtain ⟨x92, rfl, hr⟩ := hq
                      refine wo_step (v := (.i .i64 x92)) (s_pure (o_ext rfl e92)) ?_
                      refine wo_step (v := (.i .i64 x92)) (s_pure (p_mv rfl)) ?_
                      refine wo_nil ?_
                      refine nx_norm ?_
                      refine w_seq ?_
                      refine w_seq ?_
                      refine w_ops ?_
                      refine wo_step (v := (.i .i64 x82)) (s_pure (p_mv rfl)) ?_
                      have hq := forceB_inv hr
                      clear hr
                      obtain ⟨c94, e94, hr⟩ := hq
                      refine wo_step (v := (.b c94)) (s_pure (p_bin rfl rfl (b_neq.trans (cb e94)))) ?_
                      refine wo_step (v := (.b c94)) (s_pure (p_mv rfl)) ?_
                      have hq := bindO_inv hr
                      clear hr
                      obtain ⟨o_9, hr, hk⟩ := hq
                      refine wo_join 3 (g9_J9 x11 s25 m_8 o_9) ?_ ?_
                      · clear hk
                        have hq := cond_inv hr
                        clear hr
                        rcases hq with ⟨rfl, hr⟩ | ⟨rfl, hr⟩
                        · refine wo_skip (v := (.b true)) rfl rfl ?_
                          refine wo_skip (v := (.b true)) rfl rfl ?_
                          refine wo_step (v := (.b true)) (s_pure (p_pickT rfl rfl)) ?_
                          refine wo_nil ?_
                          cases hr
                          exact ⟨_, _, rfl, rfl, gl rfl, gl g3, gl g8⟩
                        · refine wo_take (v := (.i .i64 x92)) rfl (s_pure (p_mv rfl)) ?_
                          have hq := forceB_inv hr
                          clear hr
                          obtain ⟨c97, e97, hr⟩ := hq
                          refine wo_take (v := (.b c97)) rfl (s_pure (p_bin rfl rfl (b_neq.trans (cb e97)))) ?_
                          refine wo_step (v := (.b c97)) (s_pure (p_pickF rfl rfl)) ?_
                          refine wo_nil ?_
                          cases hr
                          exact ⟨_, _, rfl, rfl, gl rfl, gl g3, gl g8⟩
                      · clear hr
                        have hr := hk
                        clear hk
                        obtain ⟨c98, ho⟩ : ∃ z, z = o_9 := ⟨_, rfl⟩
                        subst ho
                        rintro mm_8 t_9 ⟨rfl, g98, g3, g8⟩
                        refine wo_nil ?_
                        refine nx_norm ?_
                        have hq := cond_inv hr
                        clear hr
                        rcases hq with ⟨rfl, hr⟩ | ⟨rfl, hr⟩
                        · refine w_condT g98 ?_
                          refine w_seq ?_
                          refine w_ops ?_
                          refine wo_step (v := (.b false)) (s_pure (p_mv rfl)) ?_
                          refine wo_nil ?_
                          refine nx_norm ?_
                          refine w_ret ?_
                          refine nx_ret ?_
                          cases hr
                          exact ⟨_, _, rfl, rfl, rfl, gl rfl⟩
                        · refine w_condF g98 ?_
                          refine w_skip ?_
                          refine nx_norm ?_
                          refine w_seq ?_
                          refine w_ops ?_
                          refine wo_step (v := (.i .i64 x11)) (s_pure (p_mv g3)) ?_
                          refine wo_step (v := (.s s25)) (s_pure (p_mv g8)) ?_
                          have hq := bindO_inv hr
                          clear hr
                          obtain ⟨v102, e102, hr⟩ := hq
                          have hq := asI_inv hr
                          clear hr
                          obtain ⟨x102, rfl, hr⟩ := hq
                          refine wo_step (v := (.i .i64 x102)) (s_pure (o_len rfl e102)) ?_
                          have hq := forceI_inv hr
                          clear hr
                          obtain ⟨x103, e103, hr⟩ := hq
                          refine wo_step (v := (.i .i64 x103)) (s_pure (p_bin rfl rfl (b_sub.trans (ci e103)))) ?_
                          have hq := bindP_inv hr
                          clear hr
                          obtain ⟨v104, m_9, e104, hr⟩ := hq
                          refine wo_step (v := v104) (s_call (mc rfl (mc rfl mn)) (callM_le hM.call e104)) ?_
                          refine wo_step (v := v104) (s_pure (p_mv rfl)) ?_
                          have hq := bindO_inv hr
                          clear hr
                          obtain ⟨v105, e105, hr⟩ := hq
                          have hq := asS_inv hr
                          clear hr
                          obtain ⟨s105, rfl, hr⟩ := hq
                          refine wo_step (v := (.s s105)) (s_pure (o_ext rfl e105)) ?_
                          have hq := bindO_inv hr
                          clear hr
                          obtain ⟨v106, e106, hr⟩ := hq
                          have hq := asI_inv hr
                          clear hr
                          obtain ⟨x106, rfl, hr⟩ := hq
                          refine wo_step (v := (.i .i64 x106)) (s_pure (o_ext rfl e106)) ?_
                          refine wo_step (v := (.i .i64 x106)) (s_pure (p_mv rfl)) ?_
                          refine wo_nil ?_
                          refine nx_norm ?_
                          refine w_seq ?_
                          refine w_ops ?_
                          refine wo_step (v := (.i .i64 x106)) (s_pure (p_mv rfl)) ?_
                          have hq := forceB_inv hr
                          clear hr
                          obtain ⟨c108, e108, hr⟩ := hq
                          refine wo_step (v := (.b c108)) (s_pure (p_bin rfl rfl (b_neq.trans (cb e108)))) ?_
                          refine wo_nil ?_
                          refine nx_norm ?_
                          have hq := cond_inv hr
                          clear hr
                          rcases hq with ⟨rfl, hr⟩ | ⟨rfl, hr⟩
                          · refine w_condT rfl ?_
                            refine w_seq ?_
                            refine w_ops ?_
                            refine wo_step (v := (.b false)) (s_pure (p_mv rfl)) ?_
                            refine wo_nil ?_
                            refine nx_norm ?_
                            refine w_ret ?_
                            cases hr
                            exact ⟨_, _, rfl, rfl, rfl, gl rfl⟩
                          · refine w_condF rfl ?_
                            refine w_skip ?_
                            cases hr
                            exact ⟨_, _, rfl, rfl, rfl⟩
                    · refine w_condF rfl ?_
                      refine w_skip ?_
                      cases hr
                      exact ⟨_, _, rfl, rfl, rfl⟩
                  · have hr := hk
                    clear hk
                    rcases o_8 with o_8 | o_8
                    · obtain ⟨m_10, ho⟩ : ∃ z, z = o_8 := ⟨_, rfl⟩
                      subst ho
                      rintro _ mm_9 t_10 ⟨rfl, rfl⟩
                      refine nx_norm ?_
                      refine w_seq ?_
                      refine w_ops ?_
                      have hq := bindP_inv hr
                      clear hr
                      obtain ⟨v109, m_11, e109, hr⟩ := hq
                      have hq := asB_inv hr
                      clear hr
                      obtain ⟨c109, rfl, hr⟩ := hq
                      refine wo_step (v := (.b c109)) (s_call mn (callM_le hM.call e109)) ?_
                      refine wo_step (v := (.b c109)) (s_pure (p_mv rfl)) ?_
                      refine wo_nil ?_
                      refine nx_norm ?_
                      refine w_ret ?_
                      exact qf ret_ok (rt rfl rn) hr
                    · obtain ⟨c2, m_12⟩ := o_8
                      rintro _ mm_10 t_11 ⟨rfl, rfl, g2⟩
                      refine nx_ret ?_
                      exact qf ret_ok (rt g2 rn) hr

/- dibber/dibberlaw02.WeedMirrored -/
abbrev g13_J0 (s1 : List UInt8) (x2 : Int) (x34 : Int) (x38 : Int) (x39 : Int) (x46 : Int) (x53 : Int) (m_4 : Mm) (o : Bool) (m1 : Mm) (t1 : Tr) : Prop :=
  match o with
  | c60 => m_4 = m1 ∧ t1.get 60 = (.b c60) ∧ t1.get 1 = (.s s1) ∧ t1.get 2 = (.i .u8 x2) ∧ t1.get 7 = (.i .i64 x34) ∧ t1.get 8 = (.i .i64 x38) ∧ t1.get 9 = (.i .i64 x39) ∧ t1.get 11 = (.i .i64 x46) ∧ t1.get 14 = (.i .i64 x53)
abbrev g13_J1 (s1 : List UInt8) (x2 : Int) (x34 : Int) (x38 : Int) (x39 : Int) (x53 : Int) (m_4 : Mm) (o : Bool) (m1 : Mm) (t1 : Tr) : Prop :=
  match o with
  | c65 => m_4 = m1 ∧ t1.get 65 = (.b c65) ∧ t1.get 1 = (.s s1) ∧ t1.get 2 = (.i .u8 x2) ∧ t1.get 7 = (.i .i64 x34) ∧ t1.get 8 = (.i .i64 x38) ∧ t1.get 9 = (.i .i64 x39) ∧ t1.get 14 = (.i .i64 x53)
abbrev g13_J2 (s1 : List UInt8) (x2 : Int) (x34 : Int) (x38 : Int) (x39 : Int) (m_4 : Mm) (o : Bool) (m1 : Mm) (t1 : Tr) : Prop :=
  match o with
  | c70 => m_4 = m1 ∧ t1.get 70 = (.b c70) ∧ t1.get 1 = (.s s1) ∧ t1.get 2 = (.i .u8 x2) ∧ t1.get 7 = (.i .i64 x34) ∧ t1.get 8 = (.i .i64 x38) ∧ t1.get 9 = (.i .i64 x39)
abbrev g13_J3 (s1 : List UInt8) (x2 : Int) (x34 : Int) (x38 : Int) (x39 : Int) (c74 : Bool) (c79 : Bool) (c84 : Bool) (x85 : Int) (c89 : Bool) (x90 : Int) (c94 : Bool) (x95 : Int) (c99 : Bool) (x100 : Int) (m_10 : Mm) (o : Bool) (m1 : Mm) (t1 : Tr) : Prop :=
  match o with
  | c106 => m_10 = m1 ∧ t1.get 106 = (.b c106) ∧ t1.get 1 = (.s s1) ∧ t1.get 2 = (.i .u8 x2) ∧ t1.get 7 = (.i .i64 x34) ∧ t1.get 8 = (.i .i64 x38) ∧ t1.get 9 = (.i .i64 x39) ∧ t1.get 16 = (.b c74) ∧ t1.get 17 = (.b c79) ∧ t1.get 18 = (.b c84) ∧ t1.get 19 = (.i .i64 x85) ∧ t1.get 20 = (.b c89) ∧ t1.get 21 = (.i .i64 x90) ∧ t1.get 22 = (.b c94) ∧ t1.get 23 = (.i .i64 x95) ∧ t1.get 24 = (.b c99) ∧ t1.get 25 = (.i .i64 x100)
abbrev g13_J4 (s1 : List UInt8) (x2 : Int) (x34 : Int) (x38 : Int) (x39 : Int) (c74 : Bool) (c79 : Bool) (c84 : Bool) (c89 : Bool) (x90 : Int) (c94 : Bool) (x95 : Int) (c99 : Bool) (x100 : Int) (m_10 : Mm) (o : Bool) (m1 : Mm) (t1 : Tr) : Prop :=
  match o with
  | c110 => m_10 = m1 ∧ t1.get 110 = (.b c110) ∧ t1.get 1 = (.s s1) ∧ t1.get 2 = (.i .u8 x2) ∧ t1.get 7 = (.i .i64 x34) ∧ t1.get 8 = (.i .i64 x38) ∧ t1.get 9 = (.i .i64 x39) ∧ t1.get 16 = (.b c74) ∧ t1.get 17 = (.b c79) ∧ t1.get 18 = (.b c84) ∧ t1.get 20 = (.b c89) ∧ t1.get 21 = (.i .i64 x90) ∧ t1.get 22 = (.b c94) ∧ t1.get 23 = (.i .i64 x95) ∧ t1.get 24 = (.b c99) ∧ t1.get 25 = (.i .i64 x100)
abbrev g13_J5 (s1 : List UInt8) (x2 : Int) (x34 : Int) (x38 : Int) (x39 : Int) (c74 : Bool) (c79 : Bool) (c84 : Bool) (c89 : Bool) (c94 : Bool) (x95 : Int) (c99 : Bool) (x100 : Int) (m_10 : Mm) (o : Bool) (m1 : Mm) (t1 : Tr) : Prop :=
  match o with
  | c114 => m_10 = m1 ∧ t1.get 114 = (.b c114) ∧ t1.get 1 = (.s s1) ∧ t1.get 2 = (.i .u8 x2) ∧ t1.get 7 = (.i .i64 x34) ∧ t1.get 8 = (.i .i64 x38) ∧ t1.get 9 = (.i .i64 x39) ∧ t1.get 16 = (.b c74) ∧ t1.get 17 = (.b c79) ∧ t1.get 18 = (.b c84) ∧ t1.get 20 = (.b c89) ∧ t1.get 22 = (.b c94) ∧ t1.get 23 = (.i .i64 x95) ∧ t1.get 24 = (.b c99) ∧ t1.get 25 = (.i .i64 x100)
abbrev g13_J6 (s1 : List UInt8) (x2 : Int) (x34 : Int) (x38 : Int) (x39 : Int) (c74 : Bool) (c79 : Bool) (c84 : Bool) (c89 : Bool) (c94 : Bool) (c99 : Bool) (x100 : Int) (m_10 : Mm) (o : Bool) (m1 : Mm) (t1 : Tr) : Prop :=
  match o with
  | c118 => m_10 = m1 ∧ t1.get 118 = (.b c118) ∧ t1.get 1 = (.s s1) ∧ t1.get 2 = (.i .u8 x2) ∧ t1.get 7 = (.i .i64 x34) ∧ t1.get 8 = (.i .i64 x38) ∧ t1.get 9 = (.i .i64 x39) ∧ t1.get 16 = (.b c74) ∧ t1.get 17 = (.b c79) ∧ t1.get 18 = (.b c84) ∧ t1.get 20 = (.b c89) ∧ t1.get 22 = (.b c94) ∧ t1.get 24 = (.b c99) ∧ t1.get 25 = (.i .i64 x100)
abbrev g13_J7 (s1 : List UInt8) (x2 : Int) (x34 : Int) (x38 : Int) (x39 : Int) (c74 : Bool) (c79 : Bool) (c84 : Bool) (c89 : Bool) (c94 : Bool) (c99 : Bool) (m_10 : Mm) (o : Bool) (m1 : Mm) (t1 : Tr) : Prop :=
  match o with
  | c122 => m_10 = m1 ∧ t1.get 122 = (.b c122) ∧ t1.get 1 = (.s s1) ∧ t1.get 2 = (.i .u8 x2) ∧ t1.get 7 = (.i .i64 x34) ∧ t1.get 8 = (.i .i64 x38) ∧ t1.get 9 = (.i .i64 x39) ∧ t1.get 16 = (.b c74) ∧ t1.get 17 = (.b c79) ∧ t1.get 18 = (.b c84) ∧ t1.get 20 = (.b c89) ∧ t1.get 22 = (.b c94) ∧ t1.get 24 = (.b c99)
abbrev g13_J8 (s1 : List UInt8) (x2 : Int) (x34 : Int) (x38 : Int) (x39 : Int) (c74 : Bool) (c79 : Bool) (c84 : Bool) (c94 : Bool) (c99 : Bool) (m_10 : Mm) (o : Bool) (m1 : Mm) (t1 : Tr) : Prop :=
  match o with
  | c127 => m_10 = m1 ∧ t1.get 127 = (.b c127) ∧ t1.get 1 = (.s s1) ∧ t1.get 2 = (.i .u8 x2) ∧ t1.get 7 = (.i .i64 x34) ∧ t1.get 8 = (.i .i64 x38) ∧ t1.get 9 = (.i .i64 x39) ∧ t1.get 16 = (.b c74) ∧ t1.get 17 = (.b c79) ∧ t1.get 18 = (.b c84) ∧ t1.get 22 = (.b c94) ∧ t1.get 24 = (.b c99)
abbrev g13_J9 (s1 : List UInt8) (x2 : Int) (x34 : Int) (x38 : Int) (x39 : Int) (c74 : Bool) (c79 : Bool) (c84 : Bool) (c99 : Bool) (m_10 : Mm) (o : Bool) (m1 : Mm) (t1 : Tr) : Prop :=
  match o with
  | c132 => m_10 = m1 ∧ t1.get 132 = (.b c132) ∧ t1.get 1 = (.s s1) ∧ t1.get 2 = (.i .u8 x2) ∧ t1.get 7 = (.i .i64 x34) ∧ t1.get 8 = (.i .i64 x38) ∧ t1.get 9 = (.i .i64 x39) ∧ t1.get 16 = (.b c74) ∧ t1.get 17 = (.b c79) ∧ t1.get 18 = (.b c84) ∧ t1.get 24 = (.b c99)
abbrev g13_J10 (s1 : List UInt8) (x2 : Int) (x34 : Int) (x38 : Int) (x39 : Int) (c74 : Bool) (c79 : Bool) (m_10 : Mm) (o : Bool) (m1 : Mm) (t1 : Tr) : Prop :=
  match o with
  | c137 => m_10 = m1 ∧ t1.get 137 = (.b c137) ∧ t1.get 1 = (.s s1) ∧ t1.get 2 = (.i .u8 x2) ∧ t1.get 7 = (.i .i64 x34) ∧ t1.get 8 = (.i .i64 x38) ∧ t1.get 9 = (.i .i64 x39) ∧ t1.get 16 = (.b c74) ∧ t1.get 17 = (.b c79)
abbrev g13_J11 (s1 : List UInt8) (x2 : Int) (x34 : Int) (x38 : Int) (x39 : Int) (c74 : Bool) (c79 : Bool) (c141 : Bool) (c146 : Bool) (m_12 : Mm) (o : Bool) (m1 : Mm) (t1 : Tr) : Prop :=
  match o with
  | c153 => m_12 = m1 ∧ t1.get 153 = (.b c153) ∧ t1.get 1 = (.s s1) ∧ t1.get 2 = (.i .u8 x2) ∧ t1.get 7 = (.i .i64 x34) ∧ t1.get 8 = (.i .i64 x38) ∧ t1.get 9 = (.i .i64 x39) ∧ t1.get 16 = (.b c74) ∧ t1.get 17 = (.b c79) ∧ t1.get 20 = (.b c141) ∧ t1.get 22 = (.b c146)
abbrev g13_J12 (s1 : List UInt8) (x2 : Int) (x34 : Int) (x38 : Int) (x39 : Int) (c79 : Bool) (c146 : Bool) (m_12 : Mm) (o : Bool) (m1 : Mm) (t1 : Tr) : Prop :=
  match o with
  | c158 => m_12 = m1 ∧ t1.get 158 = (.b c158) ∧ t1.get 1 = (.s s1) ∧ t1.get 2 = (.i .u8 x2) ∧ t1.get 7 = (.i .i64 x34) ∧ t1.get 8 = (.i .i64 x38) ∧ t1.get 9 = (.i .i64 x39) ∧ t1.get 17 = (.b c79) ∧ t1.get 22 = (.b c146)
abbrev g13_J13 (s1 : List UInt8) (x2 : Int) (x34 : Int) (x38 : Int) (x39 : Int) (m_12 : Mm) (o : Bool) (m1 : Mm) (t1 : Tr) : Prop :=
  match o with
  | c163 => m_12 = m1 ∧ t1.get 163 = (.b c163) ∧ t1.get 1 = (.s s1) ∧ t1.get 2 = (.i .u8 x2) ∧ t1.get 7 = (.i .i64 x34) ∧ t1.get 8 = (.i .i64 x38) ∧ t1.get 9 = (.i .i64 x39)
abbrev g13_J14  (o : Bool × Mm) (m1 : Mm) (t1 : Tr) : Prop :=
  match o with
  | (c178, m_14) => m_14 = m1 ∧ t1.get 178 = (.b c178)
abbrev g13_J15 (s170 : List UInt8) (s186 : List UInt8) (s195 : List UInt8) (m_19 : Mm) (o : Bool) (m1 : Mm) (t1 : Tr) : Prop :=
  match o with
  | c202 => m_19 = m1 ∧ t1.get 202 = (.b c202) ∧ t1.get 26 = (.s s170) ∧ t1.get 27 = (.s s186) ∧ t1.get 28 = (.s s195)
abbrev g13_J16 (s170 : List UInt8) (s195 : List UInt8) (o : Bool × Mm) (m1 : Mm) (t1 : Tr) : Prop :=
  match o with
  | (c208, m_20) => m_20 = m1 ∧ t1.get 208 = (.b c208) ∧ t1.get 26 = (.s s170) ∧ t1.get 28 = (.s s195)
abbrev g13_J17  (o : Bool × Mm) (m1 : Mm) (t1 : Tr) : Prop :=
  match o with
  | (c214, m_22) => m_22 = m1 ∧ t1.get 214 = (.b c214)
abbrev g13_J18  (o : Bool × Mm) (m1 : Mm) (t1 : Tr) : Prop :=
  match o with
  | (c217, m_24) => m_24 = m1 ∧ t1.get 217 = (.b c217)
def g13 (M : Means) (ro : List ABlk) (x0 : Int) (s1 : List UInt8) (x2 : Int) (m0 : Mm) : Option (AVal × Heap × Nat × Nat) :=
  bindO (evP .e (.len true (.c (.s s1)))) fun v30 =>
  asI .i64 v30 fun x30 =>
  forceB (ltI 500 x30) fun c31 =>
  cond c31 (
    bindP (callM M.call m0 15 []) fun v32 m_1 =>
    asB v32 fun c32 =>
    finM m0.h.length (tupA [(.b c32)]) m_1) (
    forceI (wr .i64 x0) fun x34 =>
    bindP (callM M.call m0 36 [(.i .i64 x34)]) fun v37 m_2 =>
    bindO (evP .e (.ext 0 (.c v37))) fun v38 =>
    asI .i64 v38 fun x38 =>
    bindO (evP .e (.ext 1 (.c v37))) fun v39 =>
    asI .i64 v39 fun x39 =>
    bindO (evP .e (.ext 2 (.c v37))) fun v40 =>
    asI .i64 v40 fun x40 =>
    forceB (!eqI x40 0) fun c42 =>
    cond c42 (
      finM m0.h.length (tupA [(.b false)]) m_2) (
      bindP (callM M.call m_2 36 [(.i .i64 x38)]) fun v45 m_3 =>
      bindO (evP .e (.ext 0 (.c v45))) fun v46 =>
      asI .i64 v46 fun x46 =>
      bindO (evP .e (.ext 1 (.c v45))) fun v47 =>
      asI .i64 v47 fun x47 =>
      bindO (evP .e (.ext 2 (.c v45))) fun v48 =>
      asI .i64 v48 fun x48 =>
      bindP (callM M.call m_3 36 [(.i .i64 x39)]) fun v51 m_4 =>
      bindO (evP .e (.ext 0 (.c v51))) fun v52 =>
      asI .i64 v52 fun x52 =>
      bindO (evP .e (.ext 1 (.c v51))) fun v53 =>
      asI .i64 v53 fun x53 =>
      bindO (evP .e (.ext 2 (.c v51))) fun v54 =>
      asI .i64 v54 fun x54 =>
      forceB (!eqI x48 0) fun c56 =>
      bindO (cond c56 (
        some true) (
        forceB (!eqI x54 0) fun c59 =>
        some c59)) fun c60 =>
      bindO (cond c60 (
        some true) (
        forceB (!eqI x46 x34) fun c64 =>
        some c64)) fun c65 =>
      bindO (cond c65 (
        some true) (
        forceB (!eqI x53 x34) fun c69 =>
        some c69)) fun c70 =>
      cond c70 (
        finM m0.h.length (tupA [(.b false)]) m_4) (
        bindP (callM M.call m_4 28 [(.i .i64 x34)]) fun v73 m_5 =>
        bindO (evP .e (.ext 0 (.c v73))) fun v74 =>
        asB v74 fun c74 =>
        bindO (evP .e (.ext 1 (.c v73))) fun v75 =>
        asI .i64 v75 fun x75 =>
        bindP (callM M.call m_5 30 [(.i .i64 x34)]) fun v78 m_6 =>
        bindO (evP .e (.ext 0 (.c v78))) fun v79 =>
        asB v79 fun c79 =>
        bindO (evP .e (.ext 1 (.c v78))) fun v80 =>
        asI .i64 v80 fun x80 =>
        bindP (callM M.call m_6 38 [(.i .i64 x34)]) fun v83 m_7 =>
        bindO (evP .e (.ext 0 (.c v83))) fun v84 =>
        asB v84 fun c84 =>
        bindO (evP .e (.ext 1 (.c v83))) fun v85 =>
        asI .i64 v85 fun x85 =>
        bindP (callM M.call m_7 28 [(.i .i64 x38)]) fun v88 m_8 =>
        bindO (evP .e (.ext 0 (.c v88))) fun v89 =>
        asB v89 fun c89 =>
        bindO (evP .e (.ext 1 (.c v88))) fun v90 =>
        asI .i64 v90 fun x90 =>
        bindP (callM M.call m_8 30 [(.i .i64 x38)]) fun v93 m_9 =>
        bindO (evP .e (.ext 0 (.c v93))) fun v94 =>
        asB v94 fun c94 =>
        bindO (evP .e (.ext 1 (.c v93))) fun v95 =>
        asI .i64 v95 fun x95 =>
        bindP (callM M.call m_9 38 [(.i .i64 x38)]) fun v98 m_10 =>
        bindO (evP .e (.ext 0 (.c v98))) fun v99 =>
        asB v99 fun c99 =>
        bindO (evP .e (.ext 1 (.c v98))) fun v100 =>
        asI .i64 v100 fun x100 =>
        forceB (!eqI x75 0) fun c102 =>
        bindO (cond c102 (
          some true) (
          forceB (!eqI x80 0) fun c105 =>
          some c105)) fun c106 =>
        bindO (cond c106 (
          some true) (
          forceB (!eqI x85 0) fun c109 =>
          some c109)) fun c110 =>
        bindO (cond c110 (
          some true) (
          forceB (!eqI x90 0) fun c113 =>
          some c113)) fun c114 =>
        bindO (cond c114 (
          some true) (
          forceB (!eqI x95 0) fun c117 =>
          some c117)) fun c118 =>
        bindO (cond c118 (
          some true) (
          forceB (!eqI x100 0) fun c121 =>
          some c121)) fun c122 =>
        bindO (cond c122 (
          some true) (
          forceB (!(c74 == c89)) fun c126 =>
          some c126)) fun c127 =>
        bindO (cond c127 (
          some true) (
          forceB (!(c79 == c94)) fun c131 =>
          some c131)) fun c132 =>
        bindO (cond c132 (
          some true) (
          forceB (!(c84 == c99)) fun c136 =>
          some c136)) fun c137 =>
        cond c137 (
          finM m0.h.length (tupA [(.b false)]) m_10) (
          bindP (callM M.call m_10 28 [(.i .i64 x39)]) fun v140 m_11 =>
          bindO (evP .e (.ext 0 (.c v140))) fun v141 =>
          asB v141 fun c141 =>
          bindO (evP .e (.ext 1 (.c v140))) fun v142 =>
          asI .i64 v142 fun x142 =>
          bindP (callM M.call m_11 30 [(.i .i64 x39)]) fun v145 m_12 =>
          bindO (evP .e (.ext 0 (.c v145))) fun v146 =>
          asB v146 fun c146 =>
          bindO (evP .e (.ext 1 (.c v145))) fun v147 =>
          asI .i64 v147 fun x147 =>
          forceB (!eqI x142 0) fun c149 =>
          bindO (cond c149 (
            some true) (
            forceB (!eqI x147 0) fun c152 =>
            some c152)) fun c153 =>
          bindO (cond c153 (
            some true) (
            forceB (!(c74 == c141)) fun c157 =>
            some c157)) fun c158 =>
          bindO (cond c158 (
            some true) (
            forceB (!(c79 == c146)) fun c162 =>
            some c162)) fun c163 =>
          cond c163 (
            finM m0.h.length (tupA [(.b false)]) m_12) (
            forceI (wr .i64 x2) fun x168 =>
            bindP (callM M.call m_12 18 [(.i .i64 x34), (.s s1), (.i .i64 x168)]) fun v169 m_13 =>
            bindO (evP .e (.ext 0 (.c v169))) fun v170 =>
            asS v170 fun s170 =>
            bindO (evP .e (.ext 1 (.c v169))) fun v171 =>
            asI .i64 v171 fun x171 =>
            forceB (!eqI x171 0) fun c173 =>
            cond c173 (
              bindO (evP .e (.sbin BinOp.eql (.c (.s s170)) (.c (AVal.s [])))) fun v175 =>
              asB v175 fun c175 =>
              bindO (cond c175 (
                bindP (callM M.call m_13 15 []) fun v177 m_15 =>
                asB v177 fun c177 =>
                some (c177, m_15)) (
                some (false, m_13))) fun ⟨c178, m_14⟩ =>
              finM m0.h.length (tupA [(.b c178)]) m_14) (
              bindP (callM M.call m_13 41 [(.s s1)]) fun v182 m_16 =>
              asS v182 fun s182 =>
              forceI (wr .i64 x2) fun x184 =>
              bindP (callM M.call m_16 18 [(.i .i64 x38), (.s s182), (.i .i64 x184)]) fun v185 m_17 =>
              bindO (evP .e (.ext 0 (.c v185))) fun v186 =>
              asS v186 fun s186 =>
              bindO (evP .e (.ext 1 (.c v185))) fun v187 =>
              asI .i64 v187 fun x187 =>
              bindP (callM M.call m_17 42 [(.s s1)]) fun v191 m_18 =>
              asS v191 fun s191 =>
              forceI (wr .i64 x2) fun x193 =>
              bindP (callM M.call m_18 18 [(.i .i64 x39), (.s s191), (.i .i64 x193)]) fun v194 m_19 =>
              bindO (evP .e (.ext 0 (.c v194))) fun v195 =>
              asS v195 fun s195 =>
              bindO (evP .e (.ext 1 (.c v194))) fun v196 =>
              asI .i64 v196 fun x196 =>
              forceB (eqI x187 0) fun c198 =>
              bindO (cond c198 (
                forceB (eqI x196 0) fun c201 =>
                some c201) (
                some false)) fun c202 =>
              bindO (cond c202 (
                bindP (callM M.call m_19 41 [(.s s186)]) fun v205 m_21 =>
                asS v205 fun s205 =>
                bindO (evP .e (.sbin BinOp.eql (.c (.s s205)) (.c (.s s170)))) fun v207 =>
                asB v207 fun c207 =>
                some (c207, m_21)) (
                some (false, m_19))) fun ⟨c208, m_20⟩ =>
              bindO (cond c208 (
                bindP (callM M.call m_20 42 [(.s s195)]) fun v211 m_23 =>
                asS v211 fun s211 =>
                bindO (evP .e (.sbin BinOp.eql (.c (.s s211)) (.c (.s s170)))) fun v213 =>
                asB v213 fun c213 =>
                some (c213, m_23)) (
                some (false, m_20))) fun ⟨c214, m_22⟩ =>
              bindO (cond c214 (
                bindP (callM M.call m_22 15 []) fun v216 m_25 =>
                asB v216 fun c216 =>
                some (c216, m_25)) (
                some (false, m_22))) fun ⟨c217, m_24⟩ =>
              finM m0.h.length (tupA [(.b c217)]) m_24))))))

theorem g13_ok {ro : List ABlk} {O : Caller} {M : Means} (hM : M.Ok ⟨F, O⟩ ro) {x0 s1 x2 h r} (ho : O 13 [(.i .u8 x0), (.s s1), (.i .u8 x2)] h = none) (hr : g13 M ro x0 s1 x2 ⟨h, h.length, h.length⟩ = some r) : callX ⟨F, O⟩ ro 13 [(.i .u8 x0), (.s s1), (.i .u8 x2)] h = some r := by
  refine callX_of (F := ⟨F, O⟩) (fn := fn13) (g := g13 M ro x0 s1 x2) ho rfl rfl hr ?_
  clear ho
  clear hr
  intro m0 t0 ht hr
  have g0 : t0.get 0 = (.i .u8 x0) := ht 0
  have g1 : t0.get 1 = (.s s1) := ht 1
  have g2 : t0.get 2 = (.i .u8 x2) := ht 2
  clear ht
  unfold g13 at hr
  refine w_seq ?_
  refine w_ops ?_
  refine wo_step (v := (.b false)) (s_pure (p_mv rfl)) ?_
  refine wo_nil ?_
  refine nx_norm ?_
  refine w_seq ?_
  refine w_seq ?_
  refine w_ops ?_
  refine wo_step (v := (.s s1)) (s_pure (p_mv g1)) ?_
  have hq := bindO_inv hr
  clear hr
  obtain ⟨v30, e30, hr⟩ := hq
  have hq := asI_inv hr
  clear hr
  obtain ⟨x30, rfl, hr⟩ := hq
  refine wo_step (v := (.i .i64 x30)) (s_pure (o_len rfl e30)) ?_
  have hq := forceB_inv hr
  clear hr
  obtain ⟨c31, e31, hr⟩ := hq
  refine wo_step (v := (.b c31)) (s_pure (p_bin rfl rfl (b_gtr.trans (cb e31)))) ?_
  refine wo_nil ?_
  refine nx_norm ?_
  have hq := cond_inv hr
  clear hr
  rcases hq with ⟨rfl, hr⟩ | ⟨rfl, hr⟩
  · refine w_condT rfl ?_
    refine w_seq ?_
    refine w_ops ?_
    have hq := bindP_inv hr
    clear hr
    obtain ⟨v32, m_1, e32, hr⟩ := hq
    have hq := asB_inv hr
    clear hr
    obtain ⟨c32, rfl, hr⟩ := hq
    refine wo_step (v := (.b c32)) (s_call mn (callM_le hM.call e32)) ?_
    refine wo_step (v := (.b c32)) (s_pure (p_mv rfl)) ?_
    refine wo_nil ?_
    refine nx_norm ?_
    refine w_ret ?_
    refine nx_ret ?_
    exact qf ret_ok (rt rfl rn) hr
  · refine w_condF rfl ?_
    refine w_skip ?_
    refine nx_norm ?_
    refine w_seq ?_
    refine w_ops ?_
    refine wo_step (v := (.i .u8 x0)) (s_pure (p_mv g0)) ?_
    have hq := forceI_inv hr
    clear hr
    obtain ⟨x34, e34, hr⟩ := hq
    refine wo_step (v := (.i .i64 x34)) (s_pure ((p_conv rfl).trans (ci e34))) ?_
    refine wo_step (v := (.i .i64 x34)) (s_pure (p_mv rfl)) ?_
    refine wo_nil ?_
    refine nx_norm ?_
    refine w_seq ?_
    refine w_ops ?_
    refine wo_step (v := (.i .i64 x34)) (s_pure (p_mv rfl)) ?_
    have hq := bindP_inv hr
    clear hr
    obtain ⟨v37, m_2, e37, hr⟩ := hq
    refine wo_step (v := v37) (s_call (mc rfl mn) (callM_le hM.call e37)) ?_
    refine wo_step (v := v37) (s_pure (p_mv rfl)) ?_
    have hq := bindO_inv hr
    clear hr
    obtain ⟨v38, e38, hr⟩ := hq
    have hq := asI_inv hr
    clear hr
    obtain ⟨x38, rfl, hr⟩ := hq
    refine wo_step (v := (.i .i64 x38)) (s_pure (o_ext rfl e38)) ?_
    have hq := bindO_inv hr
    clear hr
    obtain ⟨v39, e39, hr⟩ := hq
    have hq := asI_inv hr
    clear hr
    obtain ⟨x39, rfl, hr⟩ := hq
    refine wo_step (v := (.i .i64 x39)) (s_pure (o_ext rfl e39)) ?_
    have hq := bindO_inv hr
    clear hr
    obtain ⟨v40, e40, hr⟩ := hq
    have hq := asI_inv hr
    clear hr
    obtain ⟨x40, rfl, hr⟩ := hq
    refine wo_step (v := (.i .i64 x40)) (s_pure (o_ext rfl e40)) ?_
    refine wo_step (v := (.i .i64 x38)) (s_pure (p_mv rfl)) ?_
    refine wo_step (v := (.i .i64 x39)) (s_pure (p_mv rfl)) ?_
    refine wo_step (v := (.i .i64 x40)) (s_pure (p_mv rfl)) ?_
    refine wo_nil ?_
    refine nx_norm ?_
    refine w_seq ?_
    refine w_seq ?_
    refine w_ops ?_
    refine wo_step (v := (.i .i64 x40)) (s_pure (p_mv rfl)) ?_
    have hq := forceB_inv hr
    clear hr
    obtain ⟨c42, e42, hr⟩ := hq
    refine wo_step (v := (.b c42)) (s_pure (p_bin rfl rfl (b_neq.trans (cb e42)))) ?_
    refine wo_nil ?_
    refine nx_norm ?_
    have hq := cond_inv hr
    clear hr
    rcases hq with ⟨rfl, hr⟩ | ⟨rfl, hr⟩
    · refine w_condT rfl ?_
      refine w_seq ?_
      refine w_ops ?_
      refine wo_step (v := (.b false)) (s_pure (p_mv rfl)) ?_
      refine wo_nil ?_
      refine nx_norm ?_
      refine w_ret ?_
      refine nx_ret ?_
      exact qf ret_ok (rt rfl rn) hr
    · refine w_condF rfl ?_
      refine w_skip ?_
      refine nx_norm ?_
      refine w_seq ?_
      refine w_ops ?_
      refine wo_step (v := (.i .i64 x38)) (s_pure (p_mv rfl)) ?_
      have hq := bindP_inv hr
      clear hr
      obtain ⟨v45, m_3, e45, hr⟩ := hq
      refine wo_step (v := v45) (s_call (mc rfl mn) (callM_le hM.call e45)) ?_
      refine wo_step (v := v45) (s_pure (p_mv rfl)) ?_
      have hq := bindO_inv hr
      clear hr
      obtain ⟨v46, e46, hr⟩ := hq
      have hq := asI_inv hr
      clear hr
      obtain ⟨x46, rfl, hr⟩ := hq
      refine wo_step (v := (.i .i64 x46)) (s_pure (o_ext rfl e46)) ?_
      have hq := bindO_inv hr
      clear hr
      obtain ⟨v47, e47, hr⟩ := hq
      have hq := asI_inv hr
      clear hr
      obtain ⟨x47, rfl, hr⟩ := hq
      refine wo_step (v := (.i .i64 x47)) (s_pure (o_ext rfl e47)) ?_
      have hq := bindO_inv hr
      clear hr
      obtain ⟨v48, e48, hr⟩ := hq
      have hq := asI_inv hr
      clear hr
      obtain ⟨x48, rfl, hr⟩ := hq
      refine wo_step (v := (.i .i64 x48)) (s_pure (o_ext rfl e48)) ?_
      refine wo_step (v := (.i .i64 x46)) (s_pure (p_mv rfl)) ?_
      refine wo_step (v := (.i .i64 x47)) (s_pure (p_mv rfl)) ?_
      refine wo_step (v := (.i .i64 x48)) (s_pure (p_mv rfl)) ?_
      refine wo_nil ?_
      refine nx_norm ?_
      refine w_seq ?_
      refine w_ops ?_
      refine wo_step (v := (.i .i64 x39)) (s_pure (p_mv rfl)) ?_
      have hq := bindP_inv hr
      clear hr
      obtain ⟨v51, m_4, e51, hr⟩ := hq
      refine wo_step (v := v51) (s_call (mc rfl mn) (callM_le hM.call e51)) ?_
      refine wo_step (v := v51) (s_pure (p_mv rfl)) ?_
      have hq := bindO_inv hr
      clear hr
      obtain ⟨v52, e52, hr⟩ := hq
      have hq := asI_inv hr
      clear hr
      obtain ⟨x52, rfl, hr⟩ := hq
      refine wo_step (v := (.i .i64 x52)) (s_pure (o_ext rfl e52)) ?_
      have hq := bindO_inv hr
      clear hr
      obtain ⟨v53, e53, hr⟩ := hq
      have hq := asI_inv hr
      clear hr
      obtain ⟨x53, rfl, hr⟩ := hq
      refine wo_step (v := (.i .i64 x53)) (s_pure (o_ext rfl e53)) ?_
      have hq := bindO_inv hr
      clear hr
      obtain ⟨v54, e54, hr⟩ := hq
      have hq := asI_inv hr
      clear hr
      obtain ⟨x54, rfl, hr⟩ := hq
      refine wo_step (v := (.i .i64 x54)) (s_pure (o_ext rfl e54)) ?_
      refine wo_step (v := (.i .i64 x52)) (s_pure (p_mv rfl)) ?_
      refine wo_step (v := (.i .i64 x53)) (s_pure (p_mv rfl)) ?_
      refine wo_step (v := (.i .i64 x54)) (s_pure (p_mv rfl)) ?_
      refine wo_nil ?_
      refine nx_norm ?_
      refine w_seq ?_
      refine w_seq ?_
      refine w_ops ?_
      refine wo_step (v := (.i .i64 x48)) (s_pure (p_mv rfl)) ?_
      have hq := forceB_inv hr
      clear hr
      obtain ⟨c56, e56, hr⟩ := hq
      refine wo_step (v := (.b c56)) (s_pure (p_bin rfl rfl (b_neq.trans (cb e56)))) ?_
      refine wo_step (v := (.b c56)) (s_pure (p_mv rfl)) ?_
      have hq := bindO_inv hr
      clear hr
      obtain ⟨o, hr, hk⟩ := hq
      refine wo_join 3 (g13_J0 s1 x2 x34 x38 x39 x46 x53 m_4 o) ?_ ?_
      · clear hk
        have hq := cond_inv hr
        clear hr
        rcases hq with ⟨rfl, hr⟩ | ⟨rfl, hr⟩
        · refine wo_skip (v := (.b true)) rfl rfl ?_
          refine wo_skip (v := (.b true)) rfl rfl ?_
          refine wo_step (v := (.b true)) (s_pure (p_pickT rfl rfl)) ?_
          refine wo_nil ?_
          cases hr
          exact ⟨_, _, rfl, rfl, gl rfl, gl g1, gl g2, gl rfl, gl rfl, gl rfl, gl rfl, gl rfl⟩
        · refine wo_take (v := (.i .i64 x54)) rfl (s_pure (p_mv rfl)) ?_
          have hq := forceB_inv hr
          clear hr
          obtain ⟨c59, e59, hr⟩ := hq
          refine wo_take (v := (.b c59)) rfl (s_pure (p_bin rfl rfl (b_neq.trans (cb e59)))) ?_
          refine wo_step (v := (.b c59)) (s_pure (p_pickF rfl rfl)) ?_
          refine wo_nil ?_
          cases hr
          exact ⟨_, _, rfl, rfl, gl rfl, gl g1, gl g2, gl rfl, gl rfl, gl rfl, gl rfl, gl rfl⟩
      · clear hr
        have hr := hk
        clear hk
        obtain ⟨c60, ho⟩ : ∃ z, z = o := ⟨_, rfl⟩
        subst ho
        rintro mm t_1 ⟨rfl, g60, g1, g2, g7, g8, g9, g11, g14⟩
        refine wo_step (v := (.b c60)) (s_pure (p_mv g60)) ?_
        have hq := bindO_inv hr
        clear hr
        obtain ⟨o_1, hr, hk⟩ := hq
        refine wo_join 4 (g13_J1 s1 x2 x34 x38 x39 x53 m_4 o_1) ?_ ?_
        · clear hk
          have hq := cond_inv hr
          clear hr
          rcases hq with ⟨rfl, hr⟩ | ⟨rfl, hr⟩
          · refine wo_skip (v := (.b true)) rfl rfl ?_
            refine wo_skip (v := (.b true)) rfl rfl ?_
            refine wo_skip (v := (.b true)) rfl rfl ?_
            refine wo_step (v := (.b true)) (s_pure (p_pickT rfl rfl)) ?_
            refine wo_nil ?_
            cases hr
            exact ⟨_, _, rfl, rfl, gl rfl, gl g1, gl g2, gl g7, gl g8, gl g9, gl g14⟩
          · refine wo_take (v := (.i .i64 x46)) rfl (s_pure (p_mv g11)) ?_
            refine wo_take (v := (.i .i64 x34)) rfl (s_pure (p_mv g7)) ?_
            have hq := forceB_inv hr
            clear hr
            obtain ⟨c64, e64, hr⟩ := hq
            refine wo_take (v := (.b c64)) rfl (s_pure (p_bin rfl rfl (b_neq.trans (cb e64)))) ?_
            refine wo_step (v := (.b c64)) (s_pure (p_pickF rfl rfl)) ?_
            refine wo_nil ?_
            cases hr
            exact ⟨_, _, rfl, rfl, gl rfl, gl g1, gl g2, gl g7, gl g8, gl g9, gl g14⟩
        · clear hr
          have hr := hk
          clear hk
          obtain ⟨c65, ho⟩ : ∃ z, z = o_1 := ⟨_, rfl⟩
          subst ho
          rintro mm_1 t_2 ⟨rfl, g65, g1, g2, g7, g8, g9, g14⟩
          refine wo_step (v := (.b c65)) (s_pure (p_mv g65)) ?_
          have hq := bindO_inv hr
          clear hr
          obtain ⟨o_2, hr, hk⟩ := hq
          refine wo_join 4 (g13_J2 s1 x2 x34 x38 x39 m_4 o_2) ?_ ?_
          · clear hk
            have hq := cond_inv hr
            clear hr
            rcases hq with ⟨rfl, hr⟩ | ⟨rfl, hr⟩
            · refine wo_skip (v := (.b true)) rfl rfl ?_
              refine wo_skip (v := (.b true)) rfl rfl ?_
              refine wo_skip (v := (.b true)) rfl rfl ?_
              refine wo_step (v := (.b true)) (s_pure (p_pickT rfl rfl)) ?_
              refine wo_nil ?_
              cases hr
              exact ⟨_, _, rfl, rfl, gl rfl, gl g1, gl g2, gl g7, gl g8, gl g9⟩
            · refine wo_take (v := (.i .i64 x53)) rfl (s_pure (p_mv g14)) ?_
              refine wo_take (v := (.i .i64 x34)) rfl (s_pure (p_mv g7)) ?_
              have hq := forceB_inv hr
              clear hr
              obtain ⟨c69, e69, hr⟩ := hq
              refine wo_take (v := (.b c69)) rfl (s_pure (p_bin rfl rfl (b_neq.trans (cb e69)))) ?_
              refine wo_step (v := (.b c69)) (s_pure (p_pickF rfl rfl)) ?_
              refine wo_nil ?_
              cases hr
              exact ⟨_, _, rfl, rfl, gl rfl, gl g1, gl g2, gl g7, gl g8, gl g9⟩
          · clear hr
            have hr := hk
            clear hk
            obtain ⟨c70, ho⟩ : ∃ z, z = o_2 := ⟨_, rfl⟩
            subst ho
            rintro mm_2 t_3 ⟨rfl, g70, g1, g2, g7, g8, g9⟩
            refine wo_nil ?_
            refine nx_norm ?_
            have hq := cond_inv hr
            clear hr
            rcases hq with ⟨rfl, hr⟩ | ⟨rfl, hr⟩
            · refine w_condT g70 ?_
              refine w_seq ?_
              refine w_ops ?_
              refine wo_step (v := (.b false)) (s_pure (p_mv rfl)) ?_
              refine wo_nil ?_
              refine nx_norm ?_
              refine w_ret ?_
              refine nx_ret ?_
              exact qf ret_ok (rt rfl rn) hr
            · refine w_condF g70 ?_
              refine w_skip ?_
              refine nx_norm ?_
              refine w_seq ?_
              refine w_ops ?_
              refine wo_step (v := (.i .i64 x34)) (s_pure (p_mv g7)) ?_
              have hq := bindP_inv hr
              clear hr
              obtain ⟨v73, m_5, e73, hr⟩ := hq
              refine wo_step (v := v73) (s_call (mc rfl mn) (callM_le hM.call e73)) ?_
              refine wo_step (v := v73) (s_pure (p_mv rfl)) ?_
              have hq := bindO_inv hr
              clear hr
              obtain ⟨v74, e74, hr⟩ := hq
              have hq := asB_inv hr
              clear hr
              obtain ⟨c74, rfl, hr⟩ := hq
              refine wo_step (v := (.b c74)) (s_pure (o_ext rfl e74)) ?_
              have hq := bindO_inv hr
              clear hr
              obtain ⟨v75, e75, hr⟩ := hq
              have hq := asI_inv hr
              clear hr
              obtain ⟨x75, rfl, hr⟩ := hq
              refine wo_step (v := (.i .i64 x75)) (s_pure (o_ext rfl e75)) ?_
              refine wo_step (v := (.b c74)) (s_pure (p_mv rfl)) ?_
              refine wo_step (v := (.i .i64 x75)) (s_pure (p_mv rfl)) ?_
              refine wo_nil ?_
              refine nx_norm ?_
              refine w_seq ?_
              refine w_ops ?_
              refine wo_step (v := (.i .i64 x34)) (s_pure (p_mv g7)) ?_
              have hq := bindP_inv hr
              clear hr
              obtain ⟨v78, m_6, e78, hr⟩ := hq
              refine wo_step (v := v78) (s_call (mc rfl mn) (callM_le hM.call e78)) ?_
              refine wo_step (v := v78) (s_pure (p_mv rfl)) ?_
              have hq := bindO_inv hr
              clear hr
              obtain ⟨v79, e79, hr⟩ := hq
              have hq := asB_inv hr
              clear hr
              obtain ⟨c79, rfl, hr⟩ := hq
              refine wo_step (v := (.b c79)) (s_pure (o_ext rfl e79)) ?_
              have hq := bindO_inv hr
              clear hr
              obtain ⟨v80, e80, hr⟩ := hq
              have hq := asI_inv hr
              clear hr
              obtain ⟨x80, rfl, hr⟩ := hq
              refine wo_step (v := (.i .i64 x80)) (s_pure (o_ext rfl e80)) ?_
              refine wo_step (v := (.b c79)) (s_pure (p_mv rfl)) ?_
              refine wo_step (v := (.i .i64 x80)) (s_pure (p_mv rfl)) ?_
              refine wo_nil ?_
              refine nx_norm ?_
              refine w_seq ?_
              refine w_ops ?_
              refine wo_step (v := (.i .i64 x34)) (s_pure (p_mv g7)) ?_
              have hq := bindP_inv hr
              clear hr
              obtain ⟨v83, m_7, e83, hr⟩ := hq
              refine wo_step (v := v83) (s_call (mc rfl mn) (callM_le hM.call e83)) ?_
              refine wo_step (v := v83) (s_pure (p_mv rfl)) ?_
              have hq := bindO_inv hr
              clear hr
              obtain ⟨v84, e84, hr⟩ := hq
              have hq := asB_inv hr
              clear hr
              obtain ⟨c84, rfl, hr⟩ := hq
              refine wo_step (v := (.b c84)) (s_pure (o_ext rfl e84)) ?_
              have hq := bindO_inv hr
              clear hr
              obtain ⟨v85, e85, hr⟩ := hq
              have hq := asI_inv hr
              clear hr
              obtain ⟨x85, rfl, hr⟩ := hq
              refine wo_step (v := (.i .i64 x85)) (s_pure (o_ext rfl e85)) ?_
              refine wo_step (v := (.b c84)) (s_pure (p_mv rfl)) ?_
              refine wo_step (v := (.i .i64 x85)) (s_pure (p_mv rfl)) ?_
              refine wo_nil ?_
              refine nx_norm ?_
              refine w_seq ?_
              refine w_ops ?_
              refine wo_step (v := (.i .i64 x38)) (s_pure (p_mv g8)) ?_
              have hq := bindP_inv hr
              clear hr
              obtain ⟨v88, m_8, e88, hr⟩ := hq
              refine wo_step (v := v88) (s_call (mc rfl mn) (callM_le hM.call e88)) ?_
              refine wo_step (v := v88) (s_pure (p_mv rfl)) ?_
              have hq := bindO_inv hr
              clear hr
              obtain ⟨v89, e89, hr⟩ := hq
              have hq := asB_inv hr
              clear hr
              obtain ⟨c89, rfl, hr⟩ := hq
              refine wo_step (v := (.b c89)) (s_pure (o_ext rfl e89)) ?_
              have hq := bindO_inv hr
              clear hr
              obtain ⟨v90, e90, hr⟩ := hq
              have hq := asI_inv hr
              clear hr
              obtain ⟨x90, rfl, hr⟩ := hq
              refine wo_step (v := (.i .i64 x90)) (s_pure (o_ext rfl e90)) ?_
              refine wo_step (v := (.b c89)) (s_pure (p_mv rfl)) ?_
              refine wo_step (v := (.i .i64 x90)) (s_pure (p_mv rfl)) ?_
              refine wo_nil ?_
              refine nx_norm ?_
              refine w_seq ?_
              refine w_ops ?_
              refine wo_step (v := (.i .i64 x38)) (s_pure (p_mv g8)) ?_
              have hq := bindP_inv hr
              clear hr
              obtain ⟨v93, m_9, e93, hr⟩ := hq
              refine wo_step (v := v93) (s_call (mc rfl mn) (callM_le hM.call e93)) ?_
              refine wo_step (v := v93) (s_pure (p_mv rfl)) ?_
              have hq := bindO_inv hr
              clear hr
              obtain ⟨v94, e94, hr⟩ := hq
              have hq := asB_inv hr
              clear hr
              obtain ⟨c94, rfl, hr⟩ := hq
              refine wo_step (v := (.b c94)) (s_pure (o_ext rfl e94)) ?_
              have hq := bindO_inv hr
              clear hr
              obtain ⟨v95, e95, hr⟩ := hq
              have hq := asI_inv hr
              clear hr
              obtain ⟨x95, rfl, hr⟩ := hq
              refine wo_step (v := (.i .i64 x95)) (s_pure (o_ext rfl e95)) ?_
              refine wo_step (v := (.b c94)) (s_pure (p_mv rfl)) ?_
              refine wo_step (v := (.i .i64 x95)) (s_pure (p_mv rfl)) ?_
              refine wo_nil ?_
              refine nx_norm ?_
              refine w_seq ?_
              refine w_ops ?_
              refine wo_step (v := (.i .i64 x38)) (s_pure (p_mv g8)) ?_
              have hq := bindP_inv hr
              clear hr
              obtain ⟨v98, m_10, e98, hr⟩ := hq
              refine wo_step (v := v98) (s_call (mc rfl mn) (callM_le hM.call e98)) ?_
              refine wo_step (v := v98) (s_pure (p_mv rfl)) ?_
              have hq := bindO_inv hr
              clear hr
              obtain ⟨v99, e99, hr⟩ := hq
              have hq := asB_inv hr
              clear hr
              obtain ⟨c99, rfl, hr⟩ := hq
              refine wo_step (v := (.b c99)) (s_pure (o_ext rfl e99)) ?_
              have hq := bindO_inv hr
              clear hr
              obtain ⟨v100, e100, hr⟩ := hq
              have hq := asI_inv hr
              clear hr
              obtain ⟨x100, rfl, hr⟩ := hq
              refine wo_step (v := (.i .i64 x100)) (s_pure (o_ext rfl e100)) ?_
              refine wo_step (v := (.b c99)) (s_pure (p_mv rfl)) ?_
              refine wo_step (v := (.i .i64 x100)) (s_pure (p_mv rfl)) ?_
              refine wo_nil ?_
              refine nx_norm ?_
              refine w_seq ?_
              refine w_seq ?_
              refine w_ops ?_
              refine wo_step (v := (.i .i64 x75)) (s_pure (p_mv rfl)) ?_
              have hq := forceB_inv hr
              clear hr
              obtain ⟨c102, e102, hr⟩ := hq
              refine wo_step (v := (.b c102)) (s_pure (p_bin rfl rfl (b_neq.trans (cb e102)))) ?_
              refine wo_step (v := (.b c102)) (s_pure (p_mv rfl)) ?_
              have hq := bindO_inv hr
              clear hr
              obtain ⟨o_3, hr, hk⟩ := hq
              refine wo_join 3 (g13_J3 s1 x2 x34 x38 x39 c74 c79 c84 x85 c89 x90 c94 x95 c99 x100 m_10 o_3) ?_ ?_
              · clear hk
                have hq := cond_inv hr
                clear hr
                rcases hq with ⟨rfl, hr⟩ | ⟨rfl, hr⟩
                · refine wo_skip (v := (.b true)) rfl rfl ?_
                  refine wo_skip (v := (.b true)) rfl rfl ?_
                  refine wo_step (v := (.b true)) (s_pure (p_pickT rfl rfl)) ?_
                  refine wo_nil ?_
                  cases hr
                  exact ⟨_, _, rfl, rfl, gl rfl, gl g1, gl g2, gl g7, gl g8, gl g9, gl rfl, gl rfl, gl rfl, gl rfl, gl rfl, gl rfl, gl rfl, gl rfl, gl rfl, gl rfl⟩
                · refine wo_take (v := (.i .i64 x80)) rfl (s_pure (p_mv rfl)) ?_
                  have hq := forceB_inv hr
                  clear hr
                  obtain ⟨c105, e105, hr⟩ := hq
                  refine wo_take (v := (.b c105)) rfl (s_pure (p_bin rfl rfl (b_neq.trans (cb e105)))) ?_
                  refine wo_step (v := (.b c105)) (s_pure (p_pickF rfl rfl)) ?_
                  refine wo_nil ?_
                  cases hr
                  exact ⟨_, _, rfl, rfl, gl rfl, gl g1, gl g2, gl g7, gl g8, gl g9, gl rfl, gl rfl, gl rfl, gl rfl, gl rfl, gl rfl, gl rfl, gl rfl, gl rfl, gl rfl⟩
              · clear hr
                have hr := hk
                clear hk
                obtain ⟨c106, ho⟩ : ∃ z, z = o_3 := ⟨_, rfl⟩
                subst ho
                rintro mm_3 t_4 ⟨rfl, g106, g1, g2, g7, g8, g9, g16, g17, g18, g19, g20, g21, g22, g23, g24, g25⟩
                refine wo_step (v := (.b c106)) (s_pure (p_mv g106)) ?_
                have hq := bindO_inv hr
                clear hr
                obtain ⟨o_4, hr, hk⟩ := hq
                refine wo_join 3 (g13_J4 s1 x2 x34 x38 x39 c74 c79 c84 c89 x90 c94 x95 c99 x100 m_10 o_4) ?_ ?_
                · clear hk
                  have hq := cond_inv hr
                  clear hr
                  rcases hq with ⟨rfl, hr⟩ | ⟨rfl, hr⟩
                  · refine wo_skip (v := (.b true)) rfl rfl ?_
                    refine wo_skip (v := (.b true)) rfl rfl ?_
                    refine wo_step (v := (.b true)) (s_pure (p_pickT rfl rfl)) ?_
                    refine wo_nil ?_
                    cases hr
                    exact ⟨_, _, rfl, rfl, gl rfl, gl g1, gl g2, gl g7, gl g8, gl g9, gl g16, gl g17, gl g18, gl g20, gl g21, gl g22, gl g23, gl g24, gl g25⟩
                  · refine wo_take (v := (.i .i64 x85)) rfl (s_pure (p_mv g19)) ?_
                    have hq := forceB_inv hr
                    clear hr
                    obtain ⟨c109, e109, hr⟩ := hq
                    refine wo_take (v := (.b c109)) rfl (s_pure (p_bin rfl rfl (b_neq.trans (cb e109)))) ?_
                    refine wo_step (v := (.b c109)) (s_pure (p_pickF rfl rfl)) ?_
                    refine wo_nil ?_
                    cases hr
                    exact ⟨_, _, rfl, rfl, gl rfl, gl g1, gl g2, gl g7, gl g8, gl g9, gl g16, gl g17, gl g18, gl g20, gl g21, gl g22, gl g23, gl g24, gl g25⟩
                · clear hr
                  have hr := hk
                  clear hk
                  obtain ⟨c110, ho⟩ : ∃ z, z = o_4 := ⟨_, rfl⟩
                  subst ho
                  rintro mm_4 t_5 ⟨rfl, g110, g1, g2, g7, g8, g9, g16, g17, g18, g20, g21, g22, g23, g24, g25⟩
                  refine wo_step (v := (.b c110)) (s_pure (p_mv g110)) ?_
                  have hq := bindO_inv hr
                  clear hr
                  obtain ⟨o_5, hr, hk⟩ := hq
                  refine wo_join 3 (g13_J5 s1 x2 x34 x38 x39 c74 c79 c84 c89 c94 x95 c99 x100 m_10 o_5) ?_ ?_
                  · clear hk
                    have hq := cond_inv hr
                    clear hr
                    rcases hq with ⟨rfl, hr⟩ | ⟨rfl, hr⟩
                    · refine wo_skip (v := (.b true)) rfl rfl ?_
                      refine wo_skip (v := (.b true)) rfl rfl ?_
                      refine wo_step (v := (.b true)) (s_pure (p_pickT rfl rfl)) ?_
                      refine wo_nil ?_
                      cases hr
                      exact ⟨_, _, rfl, rfl, gl rfl, gl g1, gl g2, gl g7, gl g8, gl g9, gl g16, gl g17, gl g18, gl g20, gl g22, gl g23, gl g24, gl g25⟩
                    · refine wo_take (v := (.i .i64 x90)) rfl (s_pure (p_mv g21)) ?_
                      have hq := forceB_inv hr
                      clear hr
                      obtain ⟨c113, e113, hr⟩ := hq
                      refine wo_take (v := (.b c113)) rfl (s_pure (p_bin rfl rfl (b_neq.trans (cb e113)))) ?_
                      refine wo_step (v := (.b c113)) (s_pure (p_pickF rfl rfl)) ?_
                      refine wo_nil ?_
                      cases hr
                      exact ⟨_, _, rfl, rfl, gl rfl, gl g1, gl g2, gl g7, gl g8, gl g9, gl g16, gl g17, gl g18, gl g20, gl g22, gl g23, gl g24, gl g25⟩
                  · clear hr
                    have hr := hk
                    clear hk
                    obtain ⟨c114, ho⟩ : ∃ z, z = o_5 := ⟨_, rfl⟩
                    subst ho
                    rintro mm_5 t_6 ⟨rfl, g114, g1, g2, g7, g8, g9, g16, g17, g18, g20, g22, g23, g24, g25⟩
                    refine wo_step (v := (.b c114)) (s_pure (p_mv g114)) ?_
                    have hq := bindO_inv hr
                    clear hr
                    obtain ⟨o_6, hr, hk⟩ := hq
                    refine wo_join 3 (g13_J6 s1 x2 x34 x38 x39 c74 c79 c84 c89 c94 c99 x100 m_10 o_6) ?_ ?_
                    · clear hk
                      have hq := cond_inv hr
                      clear hr
                      rcases hq with ⟨rfl, hr⟩ | ⟨rfl, hr⟩
                      · refine wo_skip (v := (.b true)) rfl rfl ?_
                        refine wo_skip (v := (.b true)) rfl rfl ?_
                        refine wo_step (v := (.b true)) (s_pure (p_pickT rfl rfl)) ?_
                        refine wo_nil ?_
                        cases hr
                        exact ⟨_, _, rfl, rfl, gl rfl, gl g1, gl g2, gl g7, gl g8, gl g9, gl g16, gl g17, gl g18, gl g20, gl g22, gl g24, gl g25⟩
                      · refine wo_take (v := (.i .i64 x95)) rfl (s_pure (p_mv g23)) ?_
                        have hq := forceB_inv hr
                        clear hr
                        obtain ⟨c117, e117, hr⟩ := hq
                        refine wo_take (v := (.b c117)) rfl (s_pure (p_bin rfl rfl (b_neq.trans (cb e117)))) ?_
                        refine wo_step (v := (.b c117)) (s_pure (p_pickF rfl rfl)) ?_
                        refine wo_nil ?_
                        cases hr
                        exact ⟨_, _, rfl, rfl, gl rfl, gl g1, gl g2, gl g7, gl g8, gl g9, gl g16, gl g17, gl g18, gl g20, gl g22, gl g24, gl g25⟩
                    · clear hr
                      have hr := hk
                      clear hk
                      obtain ⟨c118, ho⟩ : ∃ z, z = o_6 := ⟨_, rfl⟩
                      subst ho
                      rintro mm_6 t_7 ⟨rfl, g118, g1, g2, g7, g8, g9, g16, g17, g18, g20, g22, g24, g25⟩
                      refine wo_step (v := (.b c118)) (s_pure (p_mv g118)) ?_
                      have hq := bindO_inv hr
                      clear hr
                      obtain ⟨o_7, hr, hk⟩ := hq
                      refine wo_join 3 (g13_J7 s1 x2 x34 x38 x39 c74 c79 c84 c89 c94 c99 m_10 o_7) ?_ ?_
                      · clear hk
                        have hq := cond_inv hr
                        clear hr
                        rcases hq with ⟨rfl, hr⟩ | ⟨rfl, hr⟩
                        · refine wo_skip (v := (.b true)) rfl rfl ?_
                          refine wo_skip (v := (.b true)) rfl rfl ?_
                          refine wo_step (v := (.b true)) (s_pure (p_pickT rfl rfl)) ?_
                          refine wo_nil ?_
                          cases hr
                          exact ⟨_, _, rfl, rfl, gl rfl, gl g1, gl g2, gl g7, gl g8, gl g9, gl g16, gl g17, gl g18, gl g20, gl g22, gl g24⟩
                        · refine wo_take (v := (.i .i64 x100)) rfl (s_pure (p_mv g25)) ?_
                          have hq := forceB_inv hr
                          clear hr
                          obtain ⟨c121, e121, hr⟩ := hq
                          refine wo_take (v := (.b c121)) rfl (s_pure (p_bin rfl rfl (b_neq.trans (cb e121)))) ?_
                          refine wo_step (v := (.b c121)) (s_pure (p_pickF rfl rfl)) ?_
                          refine wo_nil ?_
                          cases hr
                          exact ⟨_, _, rfl, rfl, gl rfl, gl g1, gl g2, gl g7, gl g8, gl g9, gl g16, gl g17, gl g18, gl g20, gl g22, gl g24⟩
                      · clear hr
                        have hr := hk
                        clear hk
                        obtain ⟨c122, ho⟩ : ∃ z, z = o_7 := ⟨_, rfl⟩
                        subst ho
                        rintro mm_7 t_8 ⟨rfl, g122, g1, g2, g7, g8, g9, g16, g17, g18, g20, g22, g24⟩
                        refine wo_step (v := (.b c122)) (s_pure (p_mv g122)) ?_
                        have hq := bindO_inv hr
                        clear hr
                        obtain ⟨o_8, hr, hk⟩ := hq
                        refine wo_join 4 (g13_J8 s1 x2 x34 x38 x39 c74 c79 c84 c94 c99 m_10 o_8) ?_ ?_
                        · clear hk
                          have hq := cond_inv hr
                          clear hr
                          rcases hq with ⟨rfl, hr⟩ | ⟨rfl, hr⟩
                          · refine wo_skip (v := (.b true)) rfl rfl ?_
                            refine wo_skip (v := (.b true)) rfl rfl ?_
                            refine wo_skip (v := (.b true)) rfl rfl ?_
                            refine wo_step (v := (.b true)) (s_pure (p_pickT rfl rfl)) ?_
                            refine wo_nil ?_
                            cases hr
                            exact ⟨_, _, rfl, rfl, gl rfl, gl g1, gl g2, gl g7, gl g8, gl g9, gl g16, gl g17, gl g18, gl g22, gl g24⟩
                          · refine wo_take (v := (.b c74)) rfl (s_pure (p_mv g16)) ?_
                            refine wo_take (v := (.b c89)) rfl (s_pure (p_mv g20)) ?_
                            have hq := forceB_inv hr
                            clear hr
                            obtain ⟨c126, e126, hr⟩ := hq
                            refine wo_take (v := (.b c126)) rfl (s_pure ((p_beq rfl rfl).trans (cb e126))) ?_
                            refine wo_step (v := (.b c126)) (s_pure (p_pickF rfl rfl)) ?_
                            refine wo_nil ?_
                            cases hr
                            exact ⟨_, _, rfl, rfl, gl rfl, gl g1, gl g2, gl g7, gl g8, gl g9, gl g16, gl g17, gl g18, gl g22, gl g24⟩
                        · clear hr
                          have hr := hk
                          clear hk
                          obtain ⟨c127, ho⟩ : ∃ z, z = o_8 := ⟨_, rfl⟩
                          subst ho
                          rintro mm_8 t_9 ⟨rfl, g127, g1, g2, g7, g8, g9, g16, g17, g18, g22, g24⟩
                          refine wo_step (v := (.b c127)) (s_pure (p_mv g127)) ?_
                          have hq := bindO_inv hr
                          clear hr
                          obtain ⟨o_9, hr, hk⟩ := hq
                          refine wo_join 4 (g13_J9 s1 x2 x34 x38 x39 c74 c79 c84 c99 m_10 o_9) ?_ ?_
                          · clear hk
                            have hq := cond_inv hr
                            clear hr
                            rcases hq with ⟨rfl, hr⟩ | ⟨rfl, hr⟩
                            · refine wo_skip (v := (.b true)) rfl rfl ?_
                              refine wo_skip (v := (.b true)) rfl rfl ?_
                              refine wo_skip (v := (.b true)) rfl rfl ?_
                              refine wo_step (v := (.b true)) (s_pure (p_pickT rfl rfl)) ?_
                              refine wo_nil ?_
                              cases hr
                              exact ⟨_, _, rfl, rfl, gl rfl, gl g1, gl g2, gl g7, gl g8, gl g9, gl g16, gl g17, gl g18, gl g24⟩
                            · refine wo_take (v := (.b c79)) rfl (s_pure (p_mv g17)) ?_
                              refine wo_take (v := (.b c94)) rfl (s_pure (p_mv g22)) ?_
                              have hq := forceB_inv hr
                              clear hr
                              obtain ⟨c131, e131, hr⟩ := hq
                              refine wo_take (v := (.b c131)) rfl (s_pure ((p_beq rfl rfl).trans (cb e131))) ?_
                              refine wo_step (v := (.b c131)) (s_pure (p_pickF rfl rfl)) ?_
                              refine wo_nil ?_
                              cases hr
                              exact ⟨_, _, rfl, rfl, gl rfl, gl g1, gl g2, gl g7, gl g8, gl g9, gl g16, gl g17, gl g18, gl g24⟩
                          · clear hr
                            have hr := hk
                            clear hk
                            obtain ⟨c132, ho⟩ : ∃ z, z = o_9 := ⟨_, rfl⟩
                            subst ho
                            rintro mm_9 t_10 ⟨rfl, g132, g1, g2, g7, g8, g9, g16, g17, g18, g24⟩
                            refine wo_step (v := (.b c132)) (s_pure (p_mv g132)) ?_
                            have hq := bindO_inv hr
                            clear hr
                            obtain ⟨o_10, hr, hk⟩ := hq
                            refine wo_join 4 (g13_J10 s1 x2 x34 x38 x39 c74 c79 m_10 o_10) ?_ ?_
                            · clear hk
                              have hq := cond_inv hr
                              clear hr
                              rcases hq with ⟨rfl, hr⟩ | ⟨rfl, hr⟩
                              · refine wo_skip (v := (.b true)) rfl rfl ?_
                                refine wo_skip (v := (.b true)) rfl rfl ?_
                                refine wo_skip (v := (.b true)) rfl rfl ?_
                                refine wo_step (v := (.b true)) (s_pure (p_pickT rfl rfl)) ?_
                                refine wo_nil ?_
                                cases hr
                                exact ⟨_, _, rfl, rfl, gl rfl, gl g1, gl g2, gl g7, gl g8, gl g9, gl g16, gl g17⟩
                              · refine wo_take (v := (.b c84)) rfl (s_pure (p_mv g18)) ?_
                                refine wo_take (v := (.b c99)) rfl (s_pure (p_mv g24)) ?_
                                have hq := forceB_inv hr
                                clear hr
                                obtain ⟨c136, e136, hr⟩ := hq
                                refine wo_take (v := (.b c136)) rfl (s_pure ((p_beq rfl rfl).trans (cb e136))) ?_
                                refine wo_step (v := (.b c136)) (s_pure (p_pickF rfl rfl)) ?_
                                refine wo_nil ?_
                                cases hr
                                exact ⟨_, _, rfl, rfl, gl rfl, gl g1, gl g2, gl g7, gl g8, gl g9, gl g16, gl g17⟩
                            · clear hr
                              have hr := hk
                              clear hk
                              obtain ⟨c137, ho⟩ : ∃ z, z = o_10 := ⟨_, rfl⟩
                              subst ho
                              rintro mm_10 t_11 ⟨rfl, g137, g1, g2, g7, g8, g9, g16, g17⟩
                              refine wo_nil ?_
                              refine nx_norm ?_
                              have hq := cond_inv hr
                              clear hr
                              rcases hq with ⟨rfl, hr⟩ | ⟨rfl, hr⟩
                              · refine w_condT g137 ?_
                                refine w_seq ?_
                                refine w_ops ?_
                                refine wo_step (v := (.b false)) (s_pure (p_mv rfl)) ?_
                                refine wo_nil ?_
                                refine nx_norm ?_
                                refine w_ret ?_
                                refine nx_ret ?_
                                exact qf ret_ok (rt rfl rn) hr
                              · refine w_condF g137 ?_
                                refine w_skip ?_
                                refine nx_norm ?_
                                refine w_seq ?_
                                refine w_ops ?_
                                refine wo_step (v := (.i .i64 x39)) (s_pure (p_mv g9)) ?_
                                have hq := bindP_inv hr
                                clear hr
                                obtain ⟨v140, m_11, e140, hr⟩ := hq
                                refine wo_step (v := v140) (s_call (mc rfl mn) (callM_le hM.call e140)) ?_
                                refine wo_step (v := v140) (s_pure (p_mv rfl)) ?_
                                have hq := bindO_inv hr
                                clear hr
                                obtain ⟨v141, e141, hr⟩ := hq
                                have hq := asB_inv hr
                                clear hr
                                obtain ⟨c141, rfl, hr⟩ := hq
                                refine wo_step (v := (.b c141)) (s_pure (o_ext rfl e141)) ?_
                                have hq := bindO_inv hr
                                clear hr
                                obtain ⟨v142, e142, hr⟩ := hq
                                have hq := asI_inv hr
                                clear hr
                                obtain ⟨x142, rfl, hr⟩ := hq
                                refine wo_step (v := (.i .i64 x142)) (s_pure (o_ext rfl e142)) ?_
                                refine wo_step (v := (.b c141)) (s_pure (p_mv rfl)) ?_
                                refine wo_step (v := (.i .i64 x142)) (s_pure (p_mv rfl)) ?_
                                refine wo_nil ?_
                                refine nx_norm ?_
                                refine w_seq ?_
                                refine w_ops ?_
                                refine wo_step (v := (.i .i64 x39)) (s_pure (p_mv g9)) ?_
                                have hq := bindP_inv hr
                                clear hr
                                obtain ⟨v145, m_12, e145, hr⟩ := hq
                                refine wo_step (v := v145) (s_call (mc rfl mn) (callM_le hM.call e145)) ?_
                                refine wo_step (v := v145) (s_pure (p_mv rfl)) ?_
                                have hq := bindO_inv hr
                                clear hr
                                obtain ⟨v146, e146, hr⟩ := hq
                                have hq := asB_inv hr
                                clear hr
                                obtain ⟨c146, rfl, hr⟩ := hq
                                refine wo_step (v := (.b c146)) (s_pure (o_ext rfl e146)) ?_
                                have hq := bindO_inv hr
                                clear hr
                                obtain ⟨v147, e147, hr⟩ := hq
                                have hq := asI_inv hr
                                clear hr
                                obtain ⟨x147, rfl, hr⟩ := hq
                                refine wo_step (v := (.i .i64 x147)) (s_pure (o_ext rfl e147)) ?_
                                refine wo_step (v := (.b c146)) (s_pure (p_mv rfl)) ?_
                                refine wo_step (v := (.i .i64 x147)) (s_pure (p_mv rfl)) ?_
                                refine wo_nil ?_
                                refine nx_norm ?_
                                refine w_seq ?_
                                refine w_seq ?_
                                refine w_ops ?_
                                refine wo_step (v := (.i .i64 x142)) (s_pure (p_mv rfl)) ?_
                                have hq := forceB_inv hr
                                clear hr
                                obtain ⟨c149, e149, hr⟩ := hq
                                refine wo_step (v := (.b c149)) (s_pure (p_bin rfl rfl (b_neq.trans (cb e149)))) ?_
                                refine wo_step (v := (.b c149)) (s_pure (p_mv rfl)) ?_
                                have hq := bindO_inv hr
                                clear hr
                                obtain ⟨o_11, hr, hk⟩ := hq
                                refine wo_join 3 (g13_J11 s1 x2 x34 x38 x39 c74 c79 c141 c146 m_12 o_11) ?_ ?_
                                · clear hk
                                  have hq := cond_inv hr
                                  clear hr
                                  rcases hq with ⟨rfl, hr⟩ | ⟨rfl, hr⟩
                                  · refine wo_skip (v := (.b true)) rfl rfl ?_
                                    refine wo_skip (v := (.b true)) rfl rfl ?_
                                    refine wo_step (v := (.b true)) (s_pure (p_pickT rfl rfl)) ?_
                                    refine wo_nil ?_
                                    cases hr
                                    exact ⟨_, _, rfl, rfl, gl rfl, gl g1, gl g2, gl g7, gl g8, gl g9, gl g16, gl g17, gl rfl, gl rfl⟩
                                  · refine wo_take (v := (.i .i64 x147)) rfl (s_pure (p_mv rfl)) ?_
                                    have hq := forceB_inv hr
                                    clear hr
                                    obtain ⟨c152, e152, hr⟩ := hq
                                    refine wo_take (v := (.b c152)) rfl (s_pure (p_bin rfl rfl (b_neq.trans (cb e152)))) ?_
                                    refine wo_step (v := (.b c152)) (s_pure (p_pickF rfl rfl)) ?_
                                    refine wo_nil ?_
                                    cases hr
                                    exact ⟨_, _, rfl, rfl, gl rfl, gl g1, gl g2, gl g7, gl g8, gl g9, gl g16, gl g17, gl rfl, gl rfl⟩
                                · clear hr
                                  have hr := hk
                                  clear hk
                                  obtain ⟨c153, ho⟩ : ∃ z, z = o_11 := ⟨_, rfl⟩
                                  subst ho
                                  rintro mm_11 t_12 ⟨rfl, g153, g1, g2, g7, g8, g9, g16, g17, g20, g22⟩
                                  refine wo_step (v := (.b c153)) (s_pure (p_mv g153)) ?_
                                  have hq := bindO_inv hr
                                  clear hr
                                  obtain ⟨o_12, hr, hk⟩ := hq
                                  refine wo_join 4 (g13_J12 s1 x2 x34 x38 x39 c79 c146 m_12 o_12) ?_ ?_
                                  · clear hk
                                    have hq := cond_inv hr
                                    clear hr
                                    rcases hq with ⟨rfl, hr⟩ | ⟨rfl, hr⟩
                                    · refine wo_skip (v := (.b true)) rfl rfl ?_
                                      refine wo_skip (v := (.b true)) rfl rfl ?_
                                      refine wo_skip (v := (.b true)) rfl rfl ?_
                                      refine wo_step (v := (.b true)) (s_pure (p_pickT rfl rfl)) ?_
                                      refine wo_nil ?_
                                      cases hr
                                      exact ⟨_, _, rfl, rfl, gl rfl, gl g1, gl g2, gl g7, gl g8, gl g9, gl g17, gl g22⟩
                                    · refine wo_take (v := (.b c74)) rfl (s_pure (p_mv g16)) ?_
                                      refine wo_take (v := (.b c141)) rfl (s_pure (p_mv g20)) ?_
                                      have hq := forceB_inv hr
                                      clear hr
                                      obtain ⟨c157, e157, hr⟩ := hq
                                      refine wo_take (v := (.b c157)) rfl (s_pure ((p_beq rfl rfl).trans (cb e157))) ?_
                                      refine wo_step (v := (.b c157)) (s_pure (p_pickF rfl rfl)) ?_
                                      refine wo_nil ?_
                                      cases hr
                                      exact ⟨_, _, rfl, rfl, gl rfl, gl g1, gl g2, gl g7, gl g8, gl g9, gl g17, gl g22⟩
                                  · clear hr
                                    have hr := hk
                                    clear hk
                                    obtain ⟨c158, ho⟩ : ∃ z, z = o_12 := ⟨_, rfl⟩
                                    subst ho
                                    rintro mm_12 t_13 ⟨rfl, g158, g1, g2, g7, g8, g9, g17, g22⟩
                                    refine wo_step (v := (.b c158)) (s_pure (p_mv g158)) ?_
                                    have hq := bindO_inv hr
                                    clear hr
                                    obtain ⟨o_13, hr, hk⟩ := hq
                                    refine wo_join 4 (g13_J13 s1 x2 x34 x38 x39 m_12 o_13) ?_ ?_
                                    · clear hk
                                      have hq := cond_inv hr
                                      clear hr
                                      rcases hq with ⟨rfl, hr⟩ | ⟨rfl, hr⟩
                                      · refine wo_skip (v := (.b true)) rfl rfl ?_
                                        refine wo_skip (v := (.b true)) rfl rfl ?_
                                        refine wo_skip (v := (.b true)) rfl rfl ?_
                                        refine wo_step (v := (.b true)) (s_pure (p_pickT rfl rfl)) ?_
                                        refine wo_nil ?_
                                        cases hr
                                        exact ⟨_, _, rfl, rfl, gl rfl, gl g1, gl g2, gl g7, gl g8, gl g9⟩
                                      · refine wo_take (v := (.b c79)) rfl (s_pure (p_mv g17)) ?_
                                        refine wo_take (v := (.b c146)) rfl (s_pure (p_mv g22)) ?_
                                        have hq := forceB_inv hr
                                        clear hr
                                        obtain ⟨c162, e162, hr⟩ := hq
                                        refine wo_take (v := (.b c162)) rfl (s_pure ((p_beq rfl rfl).trans (cb e162))) ?_
                                        refine wo_step (v := (.b c162)) (s_pure (p_pickF rfl rfl)) ?_
                                        refine wo_nil ?_
                                        cases hr
                                        exact ⟨_, _, rfl, rfl, gl rfl, gl g1, gl g2, gl g7, gl g8, gl g9⟩
                                    · clear hr
                                      have hr := hk
                                      clear hk
                                      obtain ⟨c163, ho⟩ : ∃ z, z = o_13 := ⟨_, rfl⟩
                                      subst ho
                                      rintro mm_13 t_14 ⟨rfl, g163, g1, g2, g7, g8, g9⟩
                                      refine wo_nil ?_
                                      refine nx_norm ?_
                                      have hq := cond_inv hr
                                      clear hr
                                      rcases hq with ⟨rfl, hr⟩ | ⟨rfl, hr⟩
                                      · refine w_condT g163 ?_
                                        refine w_seq ?_
                                        refine w_ops ?_
                                        refine wo_step (v := (.b false)) (s_pure (p_mv rfl)) ?_
                                        refine wo_nil ?_
                                        refine nx_norm ?_
                                        refine w_ret ?_
                                        refine nx_ret ?_
                                        exact qf ret_ok (rt rfl rn) hr
                                      · refine w_condF g163 ?_
                                        refine w_skip ?_
                                        refine nx_norm ?_
                                        refine w_seq ?_
                                        refine w_ops ?_
                                        refine wo_step (v := (.i .i64 x34)) (s_pure (p_mv g7)) ?_
                                        refine wo_step (v := (.s s1)) (s_pure (p_mv g1)) ?_
                                        refine wo_step (v := (.i .u8 x2)) (s_pure (p_mv g2)) ?_
                                        have hq := forceI_inv hr
                                        clear hr
                                        obtain ⟨x168, e168, hr⟩ := hq
                                        refine wo_step (v := (.i .i64 x168)) (s_pure ((p_conv rfl).trans (ci e168))) ?_
                                        have hq := bindP_inv hr
                                        clear hr
                                        obtain ⟨v169, m_13, e169, hr⟩ := hq
                                        refine wo_step (v := v169) (s_call (mc rfl (mc rfl (mc rfl mn))) (callM_le hM.call e169)) ?_
                                        refine wo_step (v := v169) (s_pure (p_mv rfl)) ?_
                                        have hq := bindO_inv hr
                                        clear hr
                                        obtain ⟨v170, e170, hr⟩ := hq
                                        have hq := asS_inv hr
                                        clear hr
                                        obtain ⟨s170, rfl, hr⟩ := hq
                                        refine wo_step (v := (.s s170)) (s_pure (o_ext rfl e170)) ?_
                                        have hq := bindO_inv hr
                                        clear hr
                                        obtain ⟨v171, e171, hr⟩ := hq
                                        have hq := asI_inv hr
                                        clear hr
                                        obtain ⟨x171, rfl, hr⟩ := hq
                                        refine wo_step (v := (.i .i64 x171)) (s_pure (o_ext rfl e171)) ?_
                                        refine wo_step (v := (.s s170)) (s_pure (p_mv rfl)) ?_
                                        refine wo_step (v := (.i .i64 x171)) (s_pure (p_mv rfl)) ?_
                                        refine wo_nil ?_
                                        refine nx_norm ?_
                                        refine w_seq ?_
                                        refine w_seq ?_
                                        refine w_ops ?_
                                        refine wo_step (v := (.i .i64 x171)) (s_pure (p_mv rfl)) ?_
                                        have hq := forceB_inv hr
                                        clear hr
                                        obtain ⟨c173, e173, hr⟩ := hq
                                        refine wo_step (v := (.b c173)) (s_pure (p_bin rfl rfl (b_neq.trans (cb e173)))) ?_
                                        refine wo_nil ?_
                                        refine nx_norm ?_
                                        have hq := cond_inv hr
                                        clear hr
                                        rcases hq with ⟨rfl, hr⟩ | ⟨rfl, hr⟩
                                        · refine w_condT rfl ?_
                                          refine w_seq ?_
                                          refine w_ops ?_
                                          refine wo_step (v := (.s s170)) (s_pure (p_mv rfl)) ?_
                                          have hq := bindO_inv hr
                                          clear hr
                                          obtain ⟨v175, e175, hr⟩ := hq
                                          have hq := asB_inv hr
                                          clear hr
                                          obtain ⟨c175, rfl, hr⟩ := hq
                                          refine wo_step (v := (.b c175)) (s_pure (o_sbin rfl rfl e175)) ?_
                                          refine wo_step (v := (.b c175)) (s_pure (p_mv rfl)) ?_
                                          have hq := bindO_inv hr
                                          clear hr
                                          obtain ⟨o_14, hr, hk⟩ := hq
                                          refine wo_join 2 (g13_J14  o_14) ?_ ?_
                                          · clear hk
                                            have hq := cond_inv hr
                                            clear hr
                                            rcases hq with ⟨rfl, hr⟩ | ⟨rfl, hr⟩
                                            · have hq := bindP_inv hr
                                              clear hr
                                              obtain ⟨v177, m_15, e177, hr⟩ := hq
                                              have hq := asB_inv hr
                                              clear hr
                                              obtain ⟨c177, rfl, hr⟩ := hq
                                              refine wo_take (v := (.b c177)) rfl (s_call mn (callM_le hM.call e177)) ?_
                                              refine wo_step (v := (.b c177)) (s_pure (p_pickT rfl rfl)) ?_
                                              refine wo_nil ?_
                                              cases hr
                                              exact ⟨_, _, rfl, rfl, gl rfl⟩
                                            · refine wo_skip (v := (.b false)) rfl rfl ?_
                                              refine wo_step (v := (.b false)) (s_pure (p_pickF rfl rfl)) ?_
                                              refine wo_nil ?_
                                              cases hr
                                              exact ⟨_, _, rfl, rfl, gl rfl⟩
                                          · clear hr
                                            have hr := hk
                                            clear hk
                                            obtain ⟨c178, m_14⟩ := o_14
                                            rintro mm_14 t_15 ⟨rfl, g178⟩
                                            refine wo_step (v := (.b c178)) (s_pure (p_mv g178)) ?_
                                            refine wo_nil ?_
                                            refine nx_norm ?_
                                            refine w_ret ?_
                                            refine nx_ret ?_
                                            exact qf ret_ok (rt rfl rn) hr
                                        · refine w_condF rfl ?_
                                          refine w_skip ?_
                                          refine nx_norm ?_
                                          refine w_seq ?_
                                          refine w_ops ?_
                                          refine wo_step (v := (.i .i64 x38)) (s_pure (p_mv g8)) ?_
                                          refine wo_step (v := (.s s1)) (s_pure (p_mv g1)) ?_
                                          have hq := bindP_inv hr
                                          clear hr
                                          obtain ⟨v182, m_16, e182, hr⟩ := hq
                                          have hq := asS_inv hr
                                          clear hr
                                          obtain ⟨s182, rfl, hr⟩ := hq
                                          refine wo_step (v := (.s s182)) (s_call (mc rfl mn) (callM_le hM.call e182)) ?_
                                          refine wo_step (v := (.i .u8 x2)) (s_pure (p_mv g2)) ?_
                                          have hq := forceI_inv hr
                                          clear hr
                                          obtain ⟨x184, e184, hr⟩ := hq
                                          refine wo_step (v := (.i .i64 x184)) (s_pure ((p_conv rfl).trans (ci e184))) ?_
                                          have hq := bindP_inv hr
                                          clear hr
                                          obtain ⟨v185, m_17, e185, hr⟩ := hq
                                          refine wo_step (v := v185) (s_call (mc rfl (mc rfl (mc rfl mn))) (callM_le hM.call e185)) ?_
                                          refine wo_step (v := v185) (s_pure (p_mv rfl)) ?_
                                          have hq := bindO_inv hr
                                          clear hr
                                          obtain ⟨v186, e186, hr⟩ := hq
                                          have hq := asS_inv hr
                                          clear hr
                                          obtain ⟨s186, rfl, hr⟩ := hq
                                          refine wo_step (v := (.s s186)) (s_pure (o_ext rfl e186)) ?_
                                          have hq := bindO_inv hr
                                          clear hr
                                          obtain ⟨v187, e187, hr⟩ := hq
                                          have hq := asI_inv hr
                                          clear hr
                                          obtain ⟨x187, rfl, hr⟩ := hq
                                          refine wo_step (v := (.i .i64 x187)) (s_pure (o_ext rfl e187)) ?_
                                          refine wo_step (v := (.s s186)) (s_pure (p_mv rfl)) ?_
                                          refine wo_step (v := (.i .i64 x187)) (s_pure (p_mv rfl)) ?_
                                          refine wo_nil ?_
                                          refine nx_norm ?_
                                          refine w_seq ?_
                                          refine w_ops ?_
                                          refine wo_step (v := (.i .i64 x39)) (s_pure (p_mv g9)) ?_
                                          refine wo_step (v := (.s s1)) (s_pure (p_mv g1)) ?_
                                          have hq := bindP_inv hr
                                          clear hr
                                          obtain ⟨v191, m_18, e191, hr⟩ := hq
                                          have hq := asS_inv hr
                                          clear hr
                                          obtain ⟨s191, rfl, hr⟩ := hq
                                          refine wo_step (v := (.s s191)) (s_call (mc rfl mn) (callM_le hM.call e191)) ?_
                                          refine wo_step (v := (.i .u8 x2)) (s_pure (p_mv g2)) ?_
                                          have hq := forceI_inv hr
                                          clear hr
                                          obtain ⟨x193, e193, hr⟩ := hq
                                          refine wo_step (v := (.i .i64 x193)) (s_pure ((p_conv rfl).trans (ci e193))) ?_
                                          have hq := bindP_inv hr
                                          clear hr
                                          obtain ⟨v194, m_19, e194, hr⟩ := hq
                                          refine wo_step (v := v194) (s_call (mc rfl (mc rfl (mc rfl mn))) (callM_le hM.call e194)) ?_
                                          refine wo_step (v := v194) (s_pure (p_mv rfl)) ?_
                                          have hq := bindO_inv hr
                                          clear hr
                                          obtain ⟨v195, e195, hr⟩ := hq
                                          have hq := asS_inv hr
                                          clear hr
                                          obtain ⟨s195, rfl, hr⟩ := hq
                                          refine wo_step (v := (.s s195)) (s_pure (o_ext rfl e195)) ?_
                                          have hq := bindO_inv hr
                                          clear hr
                                          obtain ⟨v196, e196, hr⟩ := hq
                                          have hq := asI_inv hr
                                          clear hr
                                          obtain ⟨x196, rfl, hr⟩ := hq
                                          refine wo_step (v := (.i .i64 x196)) (s_pure (o_ext rfl e196)) ?_
                                          refine wo_step (v := (.s s195)) (s_pure (p_mv rfl)) ?_
                                          refine wo_step (v := (.i .i64 x196)) (s_pure (p_mv rfl)) ?_
                                          refine wo_nil ?_
                                          refine nx_norm ?_
                                          refine w_seq ?_
                                          refine w_ops ?_
                                          refine wo_step (v := (.i .i64 x187)) (s_pure (p_mv rfl)) ?_
                                          have hq := forceB_inv hr
                                          clear hr
                                          obtain ⟨c198, e198, hr⟩ := hq
                                          refine wo_step (v := (.b c198)) (s_pure (p_bin rfl rfl (b_eql.trans (cb e198)))) ?_
                                          refine wo_step (v := (.b c198)) (s_pure (p_mv rfl)) ?_
                                          have hq := bindO_inv hr
                                          clear hr
                                          obtain ⟨o_15, hr, hk⟩ := hq
                                          refine wo_join 3 (g13_J15 s170 s186 s195 m_19 o_15) ?_ ?_
                                          · clear hk
                                            have hq := cond_inv hr
                                            clear hr
                                            rcases hq with ⟨rfl, hr⟩ | ⟨rfl, hr⟩
                                            · refine wo_take (v := (.i .i64 x196)) rfl (s_pure (p_mv rfl)) ?_
                                              have hq := forceB_inv hr
                                              clear hr
                                              obtain ⟨c201, e201, hr⟩ := hq
                                              refine wo_take (v := (.b c201)) rfl (s_pure (p_bin rfl rfl (b_eql.trans (cb e201)))) ?_
                                              refine wo_step (v := (.b c201)) (s_pure (p_pickT rfl rfl)) ?_
                                              refine wo_nil ?_
                                              cases hr
                                              exact ⟨_, _, rfl, rfl, gl rfl, gl rfl, gl rfl, gl rfl⟩
                                            · refine wo_skip (v := (.b false)) rfl rfl ?_
                                              refine wo_skip (v := (.b false)) rfl rfl ?_
                                              refine wo_step (v := (.b false)) (s_pure (p_pickF rfl rfl)) ?_
                                              refine wo_nil ?_
                                              cases hr
                                              exact ⟨_, _, rfl, rfl, gl rfl, gl rfl, gl rfl, gl rfl⟩
                                          · clear hr
                                            have hr := hk
                                            clear hk
                                            obtain ⟨c202, ho⟩ : ∃ z, z = o_15 := ⟨_, rfl⟩
                                            subst ho
                                            rintro mm_15 t_16 ⟨rfl, g202, g26, g27, g28⟩
                                            refine wo_step (v := (.b c202)) (s_pure (p_mv g202)) ?_
                                            have hq := bindO_inv hr
                                            clear hr
                                            obtain ⟨o_16, hr, hk⟩ := hq
                                            refine wo_join 5 (g13_J16 s170 s195 o_16) ?_ ?_
                                            · clear hk
                                              have hq := cond_inv hr
                                              clear hr
                                              rcases hq with ⟨rfl, hr⟩ | ⟨rfl, hr⟩
                                              · refine wo_take (v := (.s s186)) rfl (s_pure (p_mv g27)) ?_
                                                have hq := bindP_inv hr
                                                clear hr
                                                obtain ⟨v205, m_21, e205, hr⟩ := hq
                                                have hq := asS_inv hr
                                                clear hr
                                                obtain ⟨s205, rfl, hr⟩ := hq
                                                refine wo_take (v := (.s s205)) rfl (s_call (mc rfl mn) (callM_le hM.call e205)) ?_
                                                refine wo_take (v := (.s s170)) rfl (s_pure (p_mv g26)) ?_
                                                have hq := bindO_inv hr
                                                clear hr
                                                obtain ⟨v207, e207, hr⟩ := hq
                                                have hq := asB_inv hr
                                                clear hr
                                                obtain ⟨c207, rfl, hr⟩ := hq
                                                refine wo_take (v := (.b c207)) rfl (s_pure (o_sbin rfl rfl e207)) ?_
                                                refine wo_step (v := (.b c207)) (s_pure (p_pickT rfl rfl)) ?_
                                                refine wo_nil ?_
                                                cases hr
                                                exact ⟨_, _, rfl, rfl, gl rfl, gl g26, gl g28⟩
                                              · refine wo_skip (v := (.b false)) rfl rfl ?_
                                                refine wo_skip (v := (.b false)) rfl rfl ?_
                                                refine wo_skip (v := (.b false)) rfl rfl ?_
                                                refine wo_skip (v := (.b false)) rfl rfl ?_
                                                refine wo_step (v := (.b false)) (s_pure (p_pickF rfl rfl)) ?_
                                                refine wo_nil ?_
                                                cases hr
                                                exact ⟨_, _, rfl, rfl, gl rfl, gl g26, gl g28⟩
                                            · clear hr
                                              have hr := hk
                                              clear hk
                                              obtain ⟨c208, m_20⟩ := o_16
                                              rintro mm_16 t_17 ⟨rfl, g208, g26, g28⟩
                                              refine wo_step (v := (.b c208)) (s_pure (p_mv g208)) ?_
                                              have hq := bindO_inv hr
                                              clear hr
                                              obtain ⟨o_17, hr, hk⟩ := hq
                                              refine wo_join 5 (g13_J17  o_17) ?_ ?_
                                              · clear hk
                                                have hq := cond_inv hr
                                                clear hr
                                                rcases hq with ⟨rfl, hr⟩ | ⟨rfl, hr⟩
                                                · refine wo_take (v := (.s s195)) rfl (s_pure (p_mv g28)) ?_
                                                  have hq := bindP_inv hr
                                                  clear hr
                                                  obtain ⟨v211, m_23, e211, hr⟩ := hq
                                                  have hq := asS_inv hr
                                                  clear hr
                                                  obtain ⟨s211, rfl, hr⟩ := hq
                                                  refine wo_take (v := (.s s211)) rfl (s_call (mc rfl mn) (callM_le hM.call e211)) ?_
                                                  refine wo_take (v := (.s s170)) rfl (s_pure (p_mv g26)) ?_
                                                  have hq := bindO_inv hr
                                                  clear hr
                                                  obtain ⟨v213, e213, hr⟩ := hq
                                                  have hq := asB_inv hr
                                                  clear hr
                                                  obtain ⟨c213, rfl, hr⟩ := hq
                                                  refine wo_take (v := (.b c213)) rfl (s_pure (o_sbin rfl rfl e213)) ?_
                                                  refine wo_step (v := (.b c213)) (s_pure (p_pickT rfl rfl)) ?_
                                                  refine wo_nil ?_
                                                  cases hr
                                                  exact ⟨_, _, rfl, rfl, gl rfl⟩
                                                · refine wo_skip (v := (.b false)) rfl rfl ?_
                                                  refine wo_skip (v := (.b false)) rfl rfl ?_
                                                  refine wo_skip (v := (.b false)) rfl rfl ?_
                                                  refine wo_skip (v := (.b false)) rfl rfl ?_
                                                  refine wo_step (v := (.b false)) (s_pure (p_pickF rfl rfl)) ?_
                                                  refine wo_nil ?_
                                                  cases hr
                                                  exact ⟨_, _, rfl, rfl, gl rfl⟩
                                              · clear hr
                                                have hr := hk
                                                clear hk
                                                obtain ⟨c214, m_22⟩ := o_17
                                                rintro mm_17 t_18 ⟨rfl, g214⟩
                                                refine wo_step (v := (.b c214)) (s_pure (p_mv g214)) ?_
                                                have hq := bindO_inv hr
                                                clear hr
                                                obtain ⟨o_18, hr, hk⟩ := hq
                                                refine wo_join 2 (g13_J18  o_18) ?_ ?_
                                                · clear hk
                                                  have hq := cond_inv hr
                                                  clear hr
                                                  rcases hq with ⟨rfl, hr⟩ | ⟨rfl, hr⟩
                                                  · have hq := bindP_inv hr
                                                    clear hr
                                                    obtain ⟨v216, m_25, e216, hr⟩ := hq
                                                    have hq := asB_inv hr
                                                    clear hr
                                                    obtain ⟨c216, rfl, hr⟩ := hq
                                                    refine wo_take (v := (.b c216)) rfl (s_call mn (callM_le hM.call e216)) ?_
                                                    refine wo_step (v := (.b c216)) (s_pure (p_pickT rfl rfl)) ?_
                                                    refine wo_nil ?_
                                                    cases hr
                                                    exact ⟨_, _, rfl, rfl, gl rfl⟩
                                                  · refine wo_skip (v := (.b false)) rfl rfl ?_
                                                    refine wo_step (v := (.b false)) (s_pure (p_pickF rfl rfl)) ?_
                                                    refine wo_nil ?_
                                                    cases hr
                                                    exact ⟨_, _, rfl, rfl, gl rfl⟩
                                                · clear hr
                                                  have hr := hk
                                                  clear hk
                                                  obtain ⟨c217, m_24⟩ := o_18
                                                  rintro mm_18 t_19 ⟨rfl, g217⟩
                                                  refine wo_step (v := (.b c217)) (s_pure (p_mv g217)) ?_
                                                  refine wo_nil ?_
                                                  refine nx_norm ?_
                                                  refine w_ret ?_
                                                  exact qf ret_ok (rt rfl rn) hr

/- dibber/dibberlaw02.alive -/
abbrev g15_J0 (s16 : List UInt8) (x17 : Int) (c20 : Bool) (x21 : Int) (x24 : Int) (x25 : Int) (x26 : Int) (m_4 : Mm) (o : Bool) (m1 : Mm) (t1 : Tr) : Prop :=
  match o with
  | c32 => m_4 = m1 ∧ t1.get 32 = (.b c32) ∧ t1.get 3 = (.s s16) ∧ t1.get 4 = (.i .i64 x17) ∧ t1.get 5 = (.b c20) ∧ t1.get 6 = (.i .i64 x21) ∧ t1.get 7 = (.i .i64 x24) ∧ t1.get 8 = (.i .i64 x25) ∧ t1.get 9 = (.i .i64 x26)
abbrev g15_J1 (s16 : List UInt8) (c20 : Bool) (x21 : Int) (x24 : Int) (x25 : Int) (x26 : Int) (m_4 : Mm) (o : Bool) (m1 : Mm) (t1 : Tr) : Prop :=
  match o with
  | c36 => m_4 = m1 ∧ t1.get 36 = (.b c36) ∧ t1.get 3 = (.s s16) ∧ t1.get 5 = (.b c20) ∧ t1.get 6 = (.i .i64 x21) ∧ t1.get 7 = (.i .i64 x24) ∧ t1.get 8 = (.i .i64 x25) ∧ t1.get 9 = (.i .i64 x26)
abbrev g15_J2 (c20 : Bool) (x21 : Int) (x24 : Int) (x25 : Int) (x26 : Int) (m_4 : Mm) (o : Bool) (m1 : Mm) (t1 : Tr) : Prop :=
  match o with
  | c40 => m_4 = m1 ∧ t1.get 40 = (.b c40) ∧ t1.get 5 = (.b c20) ∧ t1.get 6 = (.i .i64 x21) ∧ t1.get 7 = (.i .i64 x24) ∧ t1.get 8 = (.i .i64 x25) ∧ t1.get 9 = (.i .i64 x26)
abbrev g15_J3 (c20 : Bool) (x24 : Int) (x25 : Int) (x26 : Int) (m_4 : Mm) (o : Bool) (m1 : Mm) (t1 : Tr) : Prop :=
  match o with
  | c44 => m_4 = m1 ∧ t1.get 44 = (.b c44) ∧ t1.get 5 = (.b c20) ∧ t1.get 7 = (.i .i64 x24) ∧ t1.get 8 = (.i .i64 x25) ∧ t1.get 9 = (.i .i64 x26)
abbrev g15_J4 (x24 : Int) (x25 : Int) (x26 : Int) (m_4 : Mm) (o : Bool) (m1 : Mm) (t1 : Tr) : Prop :=
  match o with
  | c47 => m_4 = m1 ∧ t1.get 47 = (.b c47) ∧ t1.get 7 = (.i .i64 x24) ∧ t1.get 8 = (.i .i64 x25) ∧ t1.get 9 = (.i .i64 x26)
abbrev g15_J5 (x24 : Int) (x25 : Int) (m_4 : Mm) (o : Bool) (m1 : Mm) (t1 : Tr) : Prop :=
  match o with
  | c51 => m_4 = m1 ∧ t1.get 51 = (.b c51) ∧ t1.get 7 = (.i .i64 x24) ∧ t1.get 8 = (.i .i64 x25)
abbrev g15_J6 (x25 : Int) (m_4 : Mm) (o : Bool) (m1 : Mm) (t1 : Tr) : Prop :=
  match o with
  | c55 => m_4 = m1 ∧ t1.get 55 = (.b c55) ∧ t1.get 8 = (.i .i64 x25)
abbrev g15_J7 (m_4 : Mm) (o : Bool) (m1 : Mm) (t1 : Tr) : Prop :=
  match o with
  | c59 => m_4 = m1 ∧ t1.get 59 = (.b c59)
def g15 (M : Means) (ro : List ABlk)  (m0 : Mm) : Option (AVal × Heap × Nat × Nat) :=
  bindP (callM M.call m0 16 [(.i .i64 90), (AVal.s [48, 48, 49, 48, 48])]) fun v11 m_1 =>
  bindO (evP .e (.ext 0 (.c v11))) fun v12 =>
  asS v12 fun s12 =>
  bindO (evP .e (.ext 1 (.c v11))) fun v13 =>
  asI .i64 v13 fun x13 =>
  bindP (callM M.call m_1 26 [(.i .i64 110), (.i .i64 20)]) fun v15 m_2 =>
  bindO (evP .e (.ext 0 (.c v15))) fun v16 =>
  asS v16 fun s16 =>
  bindO (evP .e (.ext 1 (.c v15))) fun v17 =>
  asI .i64 v17 fun x17 =>
  bindP (callM M.call m_2 28 [(.i .i64 30)]) fun v19 m_3 =>
  bindO (evP .e (.ext 0 (.c v19))) fun v20 =>
  asB v20 fun c20 =>
  bindO (evP .e (.ext 1 (.c v19))) fun v21 =>
  asI .i64 v21 fun x21 =>
  bindP (callM M.call m_3 36 [(.i .i64 110)]) fun v23 m_4 =>
  bindO (evP .e (.ext 0 (.c v23))) fun v24 =>
  asI .i64 v24 fun x24 =>
  bindO (evP .e (.ext 1 (.c v23))) fun v25 =>
  asI .i64 v25 fun x25 =>
  bindO (evP .e (.ext 2 (.c v23))) fun v26 =>
  asI .i64 v26 fun x26 =>
  forceB (eqI x13 0) fun c28 =>
  bindO (cond c28 (
    bindO (evP .e (.sbin BinOp.eql (.c (.s s12)) (.c (AVal.s [49, 48, 49])))) fun v31 =>
    asB v31 fun c31 =>
    some c31) (
    some false)) fun c32 =>
  bindO (cond c32 (
    forceB (eqI x17 0) fun c35 =>
    some c35) (
    some false)) fun c36 =>
  bindO (cond c36 (
    bindO (evP .e (.sbin BinOp.eql (.c (.s s16)) (.c (AVal.s [48, 49, 48, 49, 48])))) fun v39 =>
    asB v39 fun c39 =>
    some c39) (
    some false)) fun c40 =>
  bindO (cond c40 (
    forceB (eqI x21 0) fun c43 =>
    some c43) (
    some false)) fun c44 =>
  bindO (cond c44 (
    some c20) (
    some false)) fun c47 =>
  bindO (cond c47 (
    forceB (eqI x26 0) fun c50 =>
    some c50) (
    some false)) fun c51 =>
  bindO (cond c51 (
    forceB (eqI x24 124) fun c54 =>
    some c54) (
    some false)) fun c55 =>
  bindO (cond c55 (
    forceB (eqI x25 137) fun c58 =>
    some c58) (
    some false)) fun c59 =>
  finM m0.h.length (tupA [(.b c59)]) m_4

theorem g15_ok {ro : List ABlk} {O : Caller} {M : Means} (hM : M.Ok ⟨F, O⟩ ro) {h r} (ho : O 15 [] h = none) (hr : g15 M ro  ⟨h, h.length, h.length⟩ = some r) : callX ⟨F, O⟩ ro 15 [] h = some r := by
  refine callX_of (F := ⟨F, O⟩) (fn := fn15) (g := g15 M ro ) ho rfl rfl hr ?_
  clear ho
  clear hr
  intro m0 t0 ht hr

  clear ht
  unfold g15 at hr
  refine w_seq ?_
  refine w_ops ?_
  refine wo_step (v := (.b false)) (s_pure (p_mv rfl)) ?_
  refine wo_nil ?_
  refine nx_norm ?_
  refine w_seq ?_
  refine w_ops ?_
  have hq := bindP_inv hr
  clear hr
  obtain ⟨v11, m_1, e11, hr⟩ := hq
  refine wo_step (v := v11) (s_call (mc rfl (mc rfl mn)) (callM_le hM.call e11)) ?_
  refine wo_step (v := v11) (s_pure (p_mv rfl)) ?_
  have hq := bindO_inv hr
  clear hr
  obtain ⟨v12, e12, hr⟩ := hq
  have hq := asS_inv hr
  clear hr
  obtain ⟨s12, rfl, hr⟩ := hq
  refine wo_step (v := (.s s12)) (s_pure (o_ext rfl e12)) ?_
  have hq := bindO_inv hr
  clear hr
  obtain ⟨v13, e13, hr⟩ := hq
  have hq := asI_inv hr
  clear hr
  obtain ⟨x13, rfl, hr⟩ := hq
  refine wo_step (v := (.i .i64 x13)) (s_pure (o_ext rfl e13)) ?_
  refine wo_step (v := (.s s12)) (s_pure (p_mv rfl)) ?_
  refine wo_step (v := (.i .i64 x13)) (s_pure (p_mv rfl)) ?_
  refine wo_nil ?_
  refine nx_norm ?_
  refine w_seq ?_
  refine w_ops ?_
  have hq := bindP_inv hr
  clear hr
  obtain ⟨v15, m_2, e15, hr⟩ := hq
  refine wo_step (v := v15) (s_call (mc rfl (mc rfl mn)) (callM_le hM.call e15)) ?_
  refine wo_step (v := v15) (s_pure (p_mv rfl)) ?_
  have hq := bindO_inv hr
  clear hr
  obtain ⟨v16, e16, hr⟩ := hq
  have hq := asS_inv hr
  clear hr
  obtain ⟨s16, rfl, hr⟩ := hq
  refine wo_step (v := (.s s16)) (s_pure (o_ext rfl e16)) ?_
  have hq := bindO_inv hr
  clear hr
  obtain ⟨v17, e17, hr⟩ := hq
  have hq := asI_inv hr
  clear hr
  obtain ⟨x17, rfl, hr⟩ := hq
  refine wo_step (v := (.i .i64 x17)) (s_pure (o_ext rfl e17)) ?_
  refine wo_step (v := (.s s16)) (s_pure (p_mv rfl)) ?_
  refine wo_step (v := (.i .i64 x17)) (s_pure (p_mv rfl)) ?_
  refine wo_nil ?_
  refine nx_norm ?_
  refine w_seq ?_
  refine w_ops ?_
  have hq := bindP_inv hr
  clear hr
  obtain ⟨v19, m_3, e19, hr⟩ := hq
  refine wo_step (v := v19) (s_call (mc rfl mn) (callM_le hM.call e19)) ?_
  refine wo_step (v := v19) (s_pure (p_mv rfl)) ?_
  have hq := bindO_inv hr
  clear hr
  obtain ⟨v20, e20, hr⟩ := hq
  have hq := asB_inv hr
  clear hr
  obtain ⟨c20, rfl, hr⟩ := hq
  refine wo_step (v := (.b c20)) (s_pure (o_ext rfl e20)) ?_
  have hq := bindO_inv hr
  clear hr
  obtain ⟨v21, e21, hr⟩ := hq
  have hq := asI_inv hr
  clear hr
  obtain ⟨x21, rfl, hr⟩ := hq
  refine wo_step (v := (.i .i64 x21)) (s_pure (o_ext rfl e21)) ?_
  refine wo_step (v := (.b c20)) (s_pure (p_mv rfl)) ?_
  refine wo_step (v := (.i .i64 x21)) (s_pure (p_mv rfl)) ?_
  refine wo_nil ?_
  refine nx_norm ?_
  refine w_seq ?_
  refine w_ops ?_
  have hq := bindP_inv hr
  clear hr
  obtain ⟨v23, m_4, e23, hr⟩ := hq
  refine wo_step (v := v23) (s_call (mc rfl mn) (callM_le hM.call e23)) ?_
  refine wo_step (v := v23) (s_pure (p_mv rfl)) ?_
  have hq := bindO_inv hr
  clear hr
  obtain ⟨v24, e24, hr⟩ := hq
  have hq := asI_inv hr
  clear hr
  obtain ⟨x24, rfl, hr⟩ := hq
  refine wo_step (v := (.i .i64 x24)) (s_pure (o_ext rfl e24)) ?_
  have hq := bindO_inv hr
  clear hr
  obtain ⟨v25, e25, hr⟩ := hq
  have hq := asI_inv hr
  clear hr
  obtain ⟨x25, rfl, hr⟩ := hq
  refine wo_step (v := (.i .i64 x25)) (s_pure (o_ext rfl e25)) ?_
  have hq := bindO_inv hr
  clear hr
  obtain ⟨v26, e26, hr⟩ := hq
  have hq := asI_inv hr
  clear hr
  obtain ⟨x26, rfl, hr⟩ := hq
  refine wo_step (v := (.i .i64 x26)) (s_pure (o_ext rfl e26)) ?_
  refine wo_step (v := (.i .i64 x24)) (s_pure (p_mv rfl)) ?_
  refine wo_step (v := (.i .i64 x25)) (s_pure (p_mv rfl)) ?_
  refine wo_step (v := (.i .i64 x26)) (s_pure (p_mv rfl)) ?_
  refine wo_nil ?_
  refine nx_norm ?_
  refine w_seq ?_
  refine w_ops ?_
  refine wo_step (v := (.i .i64 x13)) (s_pure (p_mv rfl)) ?_
  have hq := forceB_inv hr
  clear hr
  obtain ⟨c28, e28, hr⟩ := hq
  refine wo_step (v := (.b c28)) (s_pure (p_bin rfl rfl (b_eql.trans (cb e28)))) ?_
  refine wo_step (v := (.b c28)) (s_pure (p_mv rfl)) ?_
  have hq := bindO_inv hr
  clear hr
  obtain ⟨o, hr, hk⟩ := hq
  refine wo_join 3 (g15_J0 s16 x17 c20 x21 x24 x25 x26 m_4 o) ?_ ?_
  · clear hk
    have hq := cond_inv hr
    clear hr
    rcases hq with ⟨rfl, hr⟩ | ⟨rfl, hr⟩
    · refine wo_take (v := (.s s12)) rfl (s_pure (p_mv rfl)) ?_
      have hq := bindO_inv hr
      clear hr
      obtain ⟨v31, e31, hr⟩ := hq
      have hq := asB_inv hr
      clear hr
      obtain ⟨c31, rfl, hr⟩ := hq
      refine wo_take (v := (.b c31)) rfl (s_pure (o_sbin rfl rfl e31)) ?_
      refine wo_step (v := (.b c31)) (s_pure (p_pickT rfl rfl)) ?_
      refine wo_nil ?_
      cases hr
      exact ⟨_, _, rfl, rfl, gl rfl, gl rfl, gl rfl, gl rfl, gl rfl, gl rfl, gl rfl, gl rfl⟩
    · refine wo_skip (v := (.b false)) rfl rfl ?_
      refine wo_skip (v := (.b false)) rfl rfl ?_
      refine wo_step (v := (.b false)) (s_pure (p_pickF rfl rfl)) ?_
      refine wo_nil ?_
      cases hr
      exact ⟨_, _, rfl, rfl, gl rfl, gl rfl, gl rfl, gl rfl, gl rfl, gl rfl, gl rfl, gl rfl⟩
  · clear hr
    have hr := hk
    clear hk
    obtain ⟨c32, ho⟩ : ∃ z, z = o := ⟨_, rfl⟩
    subst ho
    rintro mm t_1 ⟨rfl, g32, g3, g4, g5, g6, g7, g8, g9⟩
    refine wo_step (v := (.b c32)) (s_pure (p_mv g32)) ?_
    have hq := bindO_inv hr
    clear hr
    obtain ⟨o_1, hr, hk⟩ := hq
    refine wo_join 3 (g15_J1 s16 c20 x21 x24 x25 x26 m_4 o_1) ?_ ?_
    · clear hk
      have hq := cond_inv hr
      clear hr
      rcases hq with ⟨rfl, hr⟩ | ⟨rfl, hr⟩
      · refine wo_take (v := (.i .i64 x17)) rfl (s_pure (p_mv g4)) ?_
        have hq := forceB_inv hr
        clear hr
        obtain ⟨c35, e35, hr⟩ := hq
        refine wo_take (v := (.b c35)) rfl (s_pure (p_bin rfl rfl (b_eql.trans (cb e35)))) ?_
        refine wo_step (v := (.b c35)) (s_pure (p_pickT rfl rfl)) ?_
        refine wo_nil ?_
        cases hr
        exact ⟨_, _, rfl, rfl, gl rfl, gl g3, gl g5, gl g6, gl g7, gl g8, gl g9⟩
      · refine wo_skip (v := (.b false)) rfl rfl ?_
        refine wo_skip (v := (.b false)) rfl rfl ?_
        refine wo_step (v := (.b false)) (s_pure (p_pickF rfl rfl)) ?_
        refine wo_nil ?_
        cases hr
        exact ⟨_, _, rfl, rfl, gl rfl, gl g3, gl g5, gl g6, gl g7, gl g8, gl g9⟩
    · clear hr
      have hr := hk
      clear hk
      obtain ⟨c36, ho⟩ : ∃ z, z = o_1 := ⟨_, rfl⟩
      subst ho
      rintro mm_1 t_2 ⟨rfl, g36, g3, g5, g6, g7, g8, g9⟩
      refine wo_step (v := (.b c36)) (s_pure (p_mv g36)) ?_
      have hq := bindO_inv hr
      clear hr
      obtain ⟨o_2, hr, hk⟩ := hq
      refine wo_join 3 (g15_J2 c20 x21 x24 x25 x26 m_4 o_2) ?_ ?_
      · clear hk
        have hq := cond_inv hr
        clear hr
        rcases hq with ⟨rfl, hr⟩ | ⟨rfl, hr⟩
        · refine wo_take (v := (.s s16)) rfl (s_pure (p_mv g3)) ?_
          have hq := bindO_inv hr
          clear hr
          obtain ⟨v39, e39, hr⟩ := hq
          have hq := asB_inv hr
          clear hr
          obtain ⟨c39, rfl, hr⟩ := hq
          refine wo_take (v := (.b c39)) rfl (s_pure (o_sbin rfl rfl e39)) ?_
          refine wo_step (v := (.b c39)) (s_pure (p_pickT rfl rfl)) ?_
          refine wo_nil ?_
          cases hr
          exact ⟨_, _, rfl, rfl, gl rfl, gl g5, gl g6, gl g7, gl g8, gl g9⟩
        · refine wo_skip (v := (.b false)) rfl rfl ?_
          refine wo_skip (v := (.b false)) rfl rfl ?_
          refine wo_step (v := (.b false)) (s_pure (p_pickF rfl rfl)) ?_
          refine wo_nil ?_
          cases hr
          exact ⟨_, _, rfl, rfl, gl rfl, gl g5, gl g6, gl g7, gl g8, gl g9⟩
      · clear hr
        have hr := hk
        clear hk
        obtain ⟨c40, ho⟩ : ∃ z, z = o_2 := ⟨_, rfl⟩
        subst ho
        rintro mm_2 t_3 ⟨rfl, g40, g5, g6, g7, g8, g9⟩
        refine wo_step (v := (.b c40)) (s_pure (p_mv g40)) ?_
        have hq := bindO_inv hr
        clear hr
        obtain ⟨o_3, hr, hk⟩ := hq
        refine wo_join 3 (g15_J3 c20 x24 x25 x26 m_4 o_3) ?_ ?_
        · clear hk
          have hq := cond_inv hr
          clear hr
          rcases hq with ⟨rfl, hr⟩ | ⟨rfl, hr⟩
          · refine wo_take (v := (.i .i64 x21)) rfl (s_pure (p_mv g6)) ?_
            have hq := forceB_inv hr
            clear hr
            obtain ⟨c43, e43, hr⟩ := hq
            refine wo_take (v := (.b c43)) rfl (s_pure (p_bin rfl rfl (b_eql.trans (cb e43)))) ?_
            refine wo_step (v := (.b c43)) (s_pure (p_pickT rfl rfl)) ?_
            refine wo_nil ?_
            cases hr
            exact ⟨_, _, rfl, rfl, gl rfl, gl g5, gl g7, gl g8, gl g9⟩
          · refine wo_skip (v := (.b false)) rfl rfl ?_
            refine wo_skip (v := (.b false)) rfl rfl ?_
            refine wo_step (v := (.b false)) (s_pure (p_pickF rfl rfl)) ?_
            refine wo_nil ?_
            cases hr
            exact ⟨_, _, rfl, rfl, gl rfl, gl g5, gl g7, gl g8, gl g9⟩
        · clear hr
          have hr := hk
          clear hk
          obtain ⟨c44, ho⟩ : ∃ z, z = o_3 := ⟨_, rfl⟩
          subst ho
          rintro mm_3 t_4 ⟨rfl, g44, g5, g7, g8, g9⟩
          refine wo_step (v := (.b c44)) (s_pure (p_mv g44)) ?_
          have hq := bindO_inv hr
          clear hr
          obtain ⟨o_4, hr, hk⟩ := hq
          refine wo_join 2 (g15_J4 x24 x25 x26 m_4 o_4) ?_ ?_
          · clear hk
            have hq := cond_inv hr
            clear hr
            rcases hq with ⟨rfl, hr⟩ | ⟨rfl, hr⟩
            · refine wo_take (v := (.b c20)) rfl (s_pure (p_mv g5)) ?_
              refine wo_step (v := (.b c20)) (s_pure (p_pickT rfl rfl)) ?_
              refine wo_nil ?_
              cases hr
              exact ⟨_, _, rfl, rfl, gl rfl, gl g7, gl g8, gl g9⟩
            · refine wo_skip (v := (.b false)) rfl rfl ?_
              refine wo_step (v := (.b false)) (s_pure (p_pickF rfl rfl)) ?_
              refine wo_nil ?_
              cases hr
              exact ⟨_, _, rfl, rfl, gl rfl, gl g7, gl g8, gl g9⟩
          · clear hr
            have hr := hk
            clear hk
            obtain ⟨c47, ho⟩ : ∃ z, z = o_4 := ⟨_, rfl⟩
            subst ho
            rintro mm_4 t_5 ⟨rfl, g47, g7, g8, g9⟩
            refine wo_step (v := (.b c47)) (s_pure (p_mv g47)) ?_
            have hq := bindO_inv hr
            clear hr
            obtain ⟨o_5, hr, hk⟩ := hq
            refine wo_join 3 (g15_J5 x24 x25 m_4 o_5) ?_ ?_
            · clear hk
              have hq := cond_inv hr
              clear hr
              rcases hq with ⟨rfl, hr⟩ | ⟨rfl, hr⟩
              · refine wo_take (v := (.i .i64 x26)) rfl (s_pure (p_mv g9)) ?_
                have hq := forceB_inv hr
                clear hr
                obtain ⟨c50, e50, hr⟩ := hq
                refine wo_take (v := (.b c50)) rfl (s_pure (p_bin rfl rfl (b_eql.trans (cb e50)))) ?_
                refine wo_step (v := (.b c50)) (s_pure (p_pickT rfl rfl)) ?_
                refine wo_nil ?_
                cases hr
                exact ⟨_, _, rfl, rfl, gl rfl, gl g7, gl g8⟩
              · refine wo_skip (v := (.b false)) rfl rfl ?_
                refine wo_skip (v := (.b false)) rfl rfl ?_
                refine wo_step (v := (.b false)) (s_pure (p_pickF rfl rfl)) ?_
                refine wo_nil ?_
                cases hr
                exact ⟨_, _, rfl, rfl, gl rfl, gl g7, gl g8⟩
            · clear hr
              have hr := hk
              clear hk
              obtain ⟨c51, ho⟩ : ∃ z, z = o_5 := ⟨_, rfl⟩
              subst ho
              rintro mm_5 t_6 ⟨rfl, g51, g7, g8⟩
              refine wo_step (v := (.b c51)) (s_pure (p_mv g51)) ?_
              have hq := bindO_inv hr
              clear hr
              obtain ⟨o_6, hr, hk⟩ := hq
              refine wo_join 3 (g15_J6 x25 m_4 o_6) ?_ ?_
              · clear hk
                have hq := cond_inv hr
                clear hr
                rcases hq with ⟨rfl, hr⟩ | ⟨rfl, hr⟩
                · refine wo_take (v := (.i .i64 x24)) rfl (s_pure (p_mv g7)) ?_
                  have hq := forceB_inv hr
                  clear hr
                  obtain ⟨c54, e54, hr⟩ := hq
                  refine wo_take (v := (.b c54)) rfl (s_pure (p_bin rfl rfl (b_eql.trans (cb e54)))) ?_
                  refine wo_step (v := (.b c54)) (s_pure (p_pickT rfl rfl)) ?_
                  refine wo_nil ?_
                  cases hr
                  exact ⟨_, _, rfl, rfl, gl rfl, gl g8⟩
                · refine wo_skip (v := (.b false)) rfl rfl ?_
                  refine wo_skip (v := (.b false)) rfl rfl ?_
                  refine wo_step (v := (.b false)) (s_pure (p_pickF rfl rfl)) ?_
                  refine wo_nil ?_
                  cases hr
                  exact ⟨_, _, rfl, rfl, gl rfl, gl g8⟩
              · clear hr
                have hr := hk
                clear hk
                obtain ⟨c55, ho⟩ : ∃ z, z = o_6 := ⟨_, rfl⟩
                subst ho
                rintro mm_6 t_7 ⟨rfl, g55, g8⟩
                refine wo_step (v := (.b c55)) (s_pure (p_mv g55)) ?_
                have hq := bindO_inv hr
                clear hr
                obtain ⟨o_7, hr, hk⟩ := hq
                refine wo_join 3 (g15_J7 m_4 o_7) ?_ ?_
                · clear hk
                  have hq := cond_inv hr
                  clear hr
                  rcases hq with ⟨rfl, hr⟩ | ⟨rfl, hr⟩
                  · refine wo_take (v := (.i .i64 x25)) rfl (s_pure (p_mv g8)) ?_
                    have hq := forceB_inv hr
                    clear hr
                    obtain ⟨c58, e58, hr⟩ := hq
                    refine wo_take (v := (.b c58)) rfl (s_pure (p_bin rfl rfl (b_eql.trans (cb e58)))) ?_
                    refine wo_step (v := (.b c58)) (s_pure (p_pickT rfl rfl)) ?_
                    refine wo_nil ?_
                    cases hr
                    exact ⟨_, _, rfl, rfl, gl rfl⟩
                  · refine wo_skip (v := (.b false)) rfl rfl ?_
                    refine wo_skip (v := (.b false)) rfl rfl ?_
                    refine wo_step (v := (.b false)) (s_pure (p_pickF rfl rfl)) ?_
                    refine wo_nil ?_
                    cases hr
                    exact ⟨_, _, rfl, rfl, gl rfl⟩
                · clear hr
                  have hr := hk
                  clear hk
                  obtain ⟨c59, ho⟩ : ∃ z, z = o_7 := ⟨_, rfl⟩
                  subst ho
                  rintro mm_7 t_8 ⟨rfl, g59⟩
                  refine wo_step (v := (.b c59)) (s_pure (p_mv g59)) ?_
                  refine wo_nil ?_
                  refine nx_norm ?_
                  refine w_ret ?_
                  exact qf ret_ok (rt rfl rn) hr

/- dibber/weed.Grow -/

def g16 (M : Means) (ro : List ABlk) (x0 : Int) (s1 : List UInt8) (m0 : Mm) : Option (AVal × Heap × Nat × Nat) :=
  bindP (callM M.call m0 45 [(.i .i64 x0), (.s s1)]) fun v11 m_1 =>
  bindO (evP .e (.ext 0 (.c v11))) fun v12 =>
  asI .u8 v12 fun x12 =>
  bindO (evP .e (.ext 1 (.c v11))) fun v13 =>
  asI .i64 v13 fun x13 =>
  forceB (!eqI x13 0) fun c15 =>
  cond c15 (
    finM m0.h.length (tupA [(AVal.s []), (.i .i64 x13)]) m_1) (
    bindO (evP .e (.len true (.c (.s s1)))) fun v18 =>
    asI .i64 v18 fun x18 =>
    forceB (ltI x18 3) fun c19 =>
    cond c19 (
      finM m0.h.length (tupA [(AVal.s []), (.i .i64 5)]) m_1) (
      bindP (callM M.call m_1 46 [(.i .u8 x12), (.s s1)]) fun v22 m_2 =>
      asS v22 fun s22 =>
      finM m0.h.length (tupA [(.s s22), (.i .i64 0)]) m_2))

theorem g16_ok {ro : List ABlk} {O : Caller} {M : Means} (hM : M.Ok ⟨F, O⟩ ro) {x0 s1 h r} (ho : O 16 [(.i .i64 x0), (.s s1)] h = none) (hr : g16 M ro x0 s1 ⟨h, h.length, h.length⟩ = some r) : callX ⟨F, O⟩ ro 16 [(.i .i64 x0), (.s s1)] h = some r := by
  refine callX_of (F := ⟨F, O⟩) (fn := fn16) (g := g16 M ro x0 s1) ho rfl rfl hr ?_
  clear ho
  clear hr
  intro m0 t0 ht hr
  have g0 : t0.get 0 = (.i .i64 x0) := ht 0
  have g1 : t0.get 1 = (.s s1) := ht 1
  clear ht
  unfold g16 at hr
  refine w_seq ?_
  refine w_ops ?_
  refine wo_step (v := (AVal.s [])) (s_pure (p_mv rfl)) ?_
  refine wo_step (v := (.i .i64 0)) (s_pure (p_mv rfl)) ?_
  refine wo_nil ?_
  refine nx_norm ?_
  refine w_seq ?_
  refine w_ops ?_
  refine wo_step (v := (.i .i64 x0)) (s_pure (p_mv g0)) ?_
  refine wo_step (v := (.s s1)) (s_pure (p_mv g1)) ?_
  have hq := bindP_inv hr
  clear hr
  obtain ⟨v11, m_1, e11, hr⟩ := hq
  refine wo_step (v := v11) (s_call (mc rfl (mc rfl mn)) (callM_le hM.call e11)) ?_
  refine wo_step (v := v11) (s_pure (p_mv rfl)) ?_
  have hq := bindO_inv hr
  clear hr
  obtain ⟨v12, e12, hr⟩ := hq
  have hq := asI_inv hr
  clear hr
  obtain ⟨x12, rfl, hr⟩ := hq
  refine wo_step (v := (.i .u8 x12)) (s_pure (o_ext rfl e12)) ?_
  have hq := bindO_inv hr
  clear hr
  obtain ⟨v13, e13, hr⟩ := hq
  have hq := asI_inv hr
  clear hr
  obtain ⟨x13, rfl, hr⟩ := hq
  refine wo_step (v := (.i .i64 x13)) (s_pure (o_ext rfl e13)) ?_
  refine wo_step (v := (.i .u8 x12)) (s_pure (p_mv rfl)) ?_
  refine wo_step (v := (.i .i64 x13)) (s_pure (p_mv rfl)) ?_
  refine wo_nil ?_
  refine nx_norm ?_
  refine w_seq ?_
  refine w_seq ?_
  refine w_ops ?_
  refine wo_step (v := (.i .i64 x13)) (s_pure (p_mv rfl)) ?_
  have hq := forceB_inv hr
  clear hr
  obtain ⟨c15, e15, hr⟩ := hq
  refine wo_step (v := (.b c15)) (s_pure (p_bin rfl rfl (b_neq.trans (cb e15)))) ?_
  refine wo_nil ?_
  refine nx_norm ?_
  have hq := cond_inv hr
  clear hr
  rcases hq with ⟨rfl, hr⟩ | ⟨rfl, hr⟩
  · refine w_condT rfl ?_
    refine w_seq ?_
    refine w_ops ?_
    refine wo_step (v := (.i .i64 x13)) (s_pure (p_mv rfl)) ?_
    refine wo_step (v := (AVal.s [])) (s_pure (p_mv rfl)) ?_
    refine wo_step (v := (.i .i64 x13)) (s_pure (p_mv rfl)) ?_
    refine wo_nil ?_
    refine nx_norm ?_
    refine w_ret ?_
    refine nx_ret ?_
    exact qf ret_ok (rt rfl (rt rfl rn)) hr
  · refine w_condF rfl ?_
    refine w_skip ?_
    refine nx_norm ?_
    refine w_seq ?_
    refine w_seq ?_
    refine w_ops ?_
    refine wo_step (v := (.s s1)) (s_pure (p_mv g1)) ?_
    have hq := bindO_inv hr
    clear hr
    obtain ⟨v18, e18, hr⟩ := hq
    have hq := asI_inv hr
    clear hr
    obtain ⟨x18, rfl, hr⟩ := hq
    refine wo_step (v := (.i .i64 x18)) (s_pure (o_len rfl e18)) ?_
    have hq := forceB_inv hr
    clear hr
    obtain ⟨c19, e19, hr⟩ := hq
    refine wo_step (v := (.b c19)) (s_pure (p_bin rfl rfl (b_lss.trans (cb e19)))) ?_
    refine wo_nil ?_
    refine nx_norm ?_
    have hq := cond_inv hr
    clear hr
    rcases hq with ⟨rfl, hr⟩ | ⟨rfl, hr⟩
    · refine w_condT rfl ?_
      refine w_seq ?_
      refine w_ops ?_
      refine wo_step (v := (AVal.s [])) (s_pure (p_mv rfl)) ?_
      refine wo_step (v := (.i .i64 5)) (s_pure (p_mv rfl)) ?_
      refine wo_nil ?_
      refine nx_norm ?_
      refine w_ret ?_
      refine nx_ret ?_
      exact qf ret_ok (rt rfl (rt rfl rn)) hr
    · refine w_condF rfl ?_
      refine w_skip ?_
      refine nx_norm ?_
      refine w_seq ?_
      refine w_ops ?_
      refine wo_step (v := (.i .u8 x12)) (s_pure (p_mv rfl)) ?_
      refine wo_step (v := (.s s1)) (s_pure (p_mv g1)) ?_
      have hq := bindP_inv hr
      clear hr
      obtain ⟨v22, m_2, e22, hr⟩ := hq
      have hq := asS_inv hr
      clear hr
      obtain ⟨s22, rfl, hr⟩ := hq
      refine wo_step (v := (.s s22)) (s_call (mc rfl (mc rfl mn)) (callM_le hM.call e22)) ?_
      refine wo_step (v := (.s s22)) (s_pure (p_mv rfl)) ?_
      refine wo_step (v := (.i .i64 0)) (s_pure (p_mv rfl)) ?_
      refine wo_nil ?_
      refine nx_norm ?_
      refine w_ret ?_
      exact qf ret_ok (rt rfl (rt rfl rn)) hr

/- dibber/weed.Ring -/
abbrev g18_J0 (s1 : List UInt8) (x2 : Int) (x14 : Int) (m_1 : Mm) (o : Bool) (m1 : Mm) (t1 : Tr) : Prop :=
  match o with
  | c24 => m_1 = m1 ∧ t1.get 24 = (.b c24) ∧ t1.get 1 = (.s s1) ∧ t1.get 2 = (.i .i64 x2) ∧ t1.get 8 = (.i .u8 x14)
abbrev g18_I1 (x14 : Int) (x2 : Int) (s : List UInt8 × Int × Mm) (m1 : Mm) (t1 : Tr) : Prop :=
  match s with
  | (s1_1, x26, m_2) => m_2 = m1 ∧ t1.get 1 = (.s s1_1) ∧ t1.get 26 = (.i .i64 x26) ∧ t1.get 8 = (.i .u8 x14) ∧ t1.get 25 = (.i .i64 x2)
abbrev g18_J1 (x14 : Int) (x2 : Int) (o : (List UInt8 × Mm)) (e : AExit) (m1 : Mm) (t1 : Tr) : Prop :=
  match o with
  | (y1, mo) => e = (.exit 0) ∧ mo = m1 ∧ t1.get 1 = (.s y1)
def g18_b1 (M : Means) (ro : List ABlk) (x14 : Int) (x2 : Int) (s1_1 : List UInt8) (x26 : Int) (m_2 : Mm) : Option ((List UInt8 × Int × Mm) ⊕ ((List UInt8 × Mm))) :=
  forceB (ltI x26 x2) fun c27 =>
  cond c27 (
    bindP (callM M.call m_2 51 [(.i .u8 x14), (.s s1_1)]) fun v30 m_3 =>
    asS v30 fun s30 =>
    forceI (wr .i64 (x26 + 1)) fun x31 =>
    some (.inl (s30, x31, m_3))) (
    some (.inr (s1_1, m_2)))
def g18 (M : Means) (ro : List ABlk) (x0 : Int) (s1 : List UInt8) (x2 : Int) (m0 : Mm) : Option (AVal × Heap × Nat × Nat) :=
  bindP (callM M.call m0 45 [(.i .i64 x0), (.s s1)]) fun v13 m_1 =>
  bindO (evP .e (.ext 0 (.c v13))) fun v14 =>
  asI .u8 v14 fun x14 =>
  bindO (evP .e (.ext 1 (.c v13))) fun v15 =>
  asI .i64 v15 fun x15 =>
  forceB (!eqI x15 0) fun c17 =>
  cond c17 (
    finM m0.h.length (tupA [(AVal.s []), (.i .i64 x15)]) m_1) (
    forceB (ltI x2 0) fun c20 =>
    bindO (cond c20 (
      some true) (
      forceB (ltI 1000 x2) fun c23 =>
      some c23)) fun c24 =>
    cond c24 (
      finM m0.h.length (tupA [(AVal.s []), (.i .i64 3)]) m_1) (
      bindO (M.loop (S := List UInt8 × Int × Mm) (R := (List UInt8 × Mm)) (fun s => g18_b1 M ro x14 x2 s.1 s.2.1 s.2.2) (s1, 0, m_1)) fun ⟨s1_2, m_4⟩ =>
      finM m0.h.length (tupA [(.s s1_2), (.i .i64 0)]) m_4))

theorem g18_ok {ro : List ABlk} {O : Caller} {M : Means} (hM : M.Ok ⟨F, O⟩ ro) {x0 s1 x2 h r} (ho : O 18 [(.i .i64 x0), (.s s1), (.i .i64 x2)] h = none) (hr : g18 M ro x0 s1 x2 ⟨h, h.length, h.length⟩ = some r) : callX ⟨F, O⟩ ro 18 [(.i .i64 x0), (.s s1), (.i .i64 x2)] h = some r := by
  refine callX_of (F := ⟨F, O⟩) (fn := fn18) (g := g18 M ro x0 s1 x2) ho rfl rfl hr ?_
  clear ho
  clear hr
  intro m0 t0 ht hr
  have g0 : t0.get 0 = (.i .i64 x0) := ht 0
  have g1 : t0.get 1 = (.s s1) := ht 1
  have g2 : t0.get 2 = (.i .i64 x2) := ht 2
  clear ht
  unfold g18 at hr
  refine w_seq ?_
  refine w_ops ?_
  refine wo_step (v := (AVal.s [])) (s_pure (p_mv rfl)) ?_
  refine wo_step (v := (.i .i64 0)) (s_pure (p_mv rfl)) ?_
  refine wo_nil ?_
  refine nx_norm ?_
  refine w_seq ?_
  refine w_ops ?_
  refine wo_step (v := (.i .i64 x0)) (s_pure (p_mv g0)) ?_
  refine wo_step (v := (.s s1)) (s_pure (p_mv g1)) ?_
  have hq := bindP_inv hr
  clear hr
  obtain ⟨v13, m_1, e13, hr⟩ := hq
  refine wo_step (v := v13) (s_call (mc rfl (mc rfl mn)) (callM_le hM.call e13)) ?_
  refine wo_step (v := v13) (s_pure (p_mv rfl)) ?_
  have hq := bindO_inv hr
  clear hr
  obtain ⟨v14, e14, hr⟩ := hq
  have hq := asI_inv hr
  clear hr
  obtain ⟨x14, rfl, hr⟩ := hq
  refine wo_step (v := (.i .u8 x14)) (s_pure (o_ext rfl e14)) ?_
  have hq := bindO_inv hr
  clear hr
  obtain ⟨v15, e15, hr⟩ := hq
  have hq := asI_inv hr
  clear hr
  obtain ⟨x15, rfl, hr⟩ := hq
  refine wo_step (v := (.i .i64 x15)) (s_pure (o_ext rfl e15)) ?_
  refine wo_step (v := (.i .u8 x14)) (s_pure (p_mv rfl)) ?_
  refine wo_step (v := (.i .i64 x15)) (s_pure (p_mv rfl)) ?_
  refine wo_nil ?_
  refine nx_norm ?_
  refine w_seq ?_
  refine w_seq ?_
  refine w_ops ?_
  refine wo_step (v := (.i .i64 x15)) (s_pure (p_mv rfl)) ?_
  have hq := forceB_inv hr
  clear hr
  obtain ⟨c17, e17, hr⟩ := hq
  refine wo_step (v := (.b c17)) (s_pure (p_bin rfl rfl (b_neq.trans (cb e17)))) ?_
  refine wo_nil ?_
  refine nx_norm ?_
  have hq := cond_inv hr
  clear hr
  rcases hq with ⟨rfl, hr⟩ | ⟨rfl, hr⟩
  · refine w_condT rfl ?_
    refine w_seq ?_
    refine w_ops ?_
    refine wo_step (v := (.i .i64 x15)) (s_pure (p_mv rfl)) ?_
    refine wo_step (v := (AVal.s [])) (s_pure (p_mv rfl)) ?_
    refine wo_step (v := (.i .i64 x15)) (s_pure (p_mv rfl)) ?_
    refine wo_nil ?_
    refine nx_norm ?_
    refine w_ret ?_
    refine nx_ret ?_
    exact qf ret_ok (rt rfl (rt rfl rn)) hr
  · refine w_condF rfl ?_
    refine w_skip ?_
    refine nx_norm ?_
    refine w_seq ?_
    refine w_seq ?_
    refine w_ops ?_
    refine wo_step (v := (.i .i64 x2)) (s_pure (p_mv g2)) ?_
    have hq := forceB_inv hr
    clear hr
    obtain ⟨c20, e20, hr⟩ := hq
    refine wo_step (v := (.b c20)) (s_pure (p_bin rfl rfl (b_lss.trans (cb e20)))) ?_
    refine wo_step (v := (.b c20)) (s_pure (p_mv rfl)) ?_
    have hq := bindO_inv hr
    clear hr
    obtain ⟨o, hr, hk⟩ := hq
    refine wo_join 3 (g18_J0 s1 x2 x14 m_1 o) ?_ ?_
    · clear hk
      have hq := cond_inv hr
      clear hr
      rcases hq with ⟨rfl, hr⟩ | ⟨rfl, hr⟩
      · refine wo_skip (v := (.b true)) rfl rfl ?_
        refine wo_skip (v := (.b true)) rfl rfl ?_
        refine wo_step (v := (.b true)) (s_pure (p_pickT rfl rfl)) ?_
        refine wo_nil ?_
        cases hr
        exact ⟨_, _, rfl, rfl, gl rfl, gl g1, gl g2, gl rfl⟩
      · refine wo_take (v := (.i .i64 x2)) rfl (s_pure (p_mv g2)) ?_
        have hq := forceB_inv hr
        clear hr
        obtain ⟨c23, e23, hr⟩ := hq
        refine wo_take (v := (.b c23)) rfl (s_pure (p_bin rfl rfl (b_gtr.trans (cb e23)))) ?_
        refine wo_step (v := (.b c23)) (s_pure (p_pickF rfl rfl)) ?_
        refine wo_nil ?_
        cases hr
        exact ⟨_, _, rfl, rfl, gl rfl, gl g1, gl g2, gl rfl⟩
    · clear hr
      have hr := hk
      clear hk
      obtain ⟨c24, ho⟩ : ∃ z, z = o := ⟨_, rfl⟩
      subst ho
      rintro mm t_1 ⟨rfl, g24, g1, g2, g8⟩
      refine wo_nil ?_
      refine nx_norm ?_
      have hq := cond_inv hr
      clear hr
      rcases hq with ⟨rfl, hr⟩ | ⟨rfl, hr⟩
      · refine w_condT g24 ?_
        refine w_seq ?_
        refine w_ops ?_
        refine wo_step (v := (AVal.s [])) (s_pure (p_mv rfl)) ?_
        refine wo_step (v := (.i .i64 3)) (s_pure (p_mv rfl)) ?_
        refine wo_nil ?_
        refine nx_norm ?_
        refine w_ret ?_
        refine nx_ret ?_
        exact qf ret_ok (rt rfl (rt rfl rn)) hr
      · refine w_condF g24 ?_
        refine w_skip ?_
        refine nx_norm ?_
        refine w_seq ?_
        refine w_seq ?_
        refine w_ops ?_
        refine wo_step (v := (.i .i64 x2)) (s_pure (p_mv g2)) ?_
        refine wo_step (v := (.i .i64 0)) (s_pure (p_mv rfl)) ?_
        refine wo_nil ?_
        refine nx_norm ?_
        refine w_block ?_
        have hq := bindO_inv hr
        clear hr
        obtain ⟨o_1, hl, hr⟩ := hq
        obtain ⟨n, hl⟩ := hM.loop _ _ _ hl
        refine jp_mono (w_loop _ (g18_I1 x14 x2) (g18_J1 x14 x2) ?_ n _ _ _ _ hl ⟨rfl, gl g1, gl rfl, gl g8, gl rfl⟩) ?_
        · clear hr hl
          intro s mm_2 t_2 o hi hr
          obtain ⟨s1_1, x26, m_2⟩ := s
          obtain ⟨rfl, g1, g26, g8, g25⟩ := hi
          unfold g18_b1 at hr
          refine w_seq ?_
          refine w_ops ?_
          have hq := forceB_inv hr
          clear hr
          obtain ⟨c27, e27, hr⟩ := hq
          refine wo_step (v := (.b c27)) (s_pure (p_bin g26 g25 (b_lss.trans (cb e27)))) ?_
          refine wo_nil ?_
          refine nx_norm ?_
          refine w_seq ?_
          have hq := cond_inv hr
          clear hr
          rcases hq with ⟨rfl, hr⟩ | ⟨rfl, hr⟩
          · refine w_condT rfl ?_
            refine w_skip ?_
            refine nx_norm ?_
            refine w_seq ?_
            refine w_block ?_
            refine w_ops ?_
            refine wo_step (v := (.i .u8 x14)) (s_pure (p_mv g8)) ?_
            refine wo_step (v := (.s s1_1)) (s_pure (p_mv g1)) ?_
            have hq := bindP_inv hr
            clear hr
            obtain ⟨v30, m_3, e30, hr⟩ := hq
            have hq := asS_inv hr
            clear hr
            obtain ⟨s30, rfl, hr⟩ := hq
            refine wo_step (v := (.s s30)) (s_call (mc rfl (mc rfl mn)) (callM_le hM.call e30)) ?_
            refine wo_step (v := (.s s30)) (s_pure (p_mv rfl)) ?_
            refine wo_nil ?_
            refine bk_norm ?_
            refine nx_norm ?_
            refine w_ops ?_
            have hq := forceI_inv hr
            clear hr
            obtain ⟨x31, e31, hr⟩ := hq
            refine wo_step (v := (.i .i64 x31)) (s_pure (p_bin g26 rfl (b_add.trans (ci e31)))) ?_
            refine wo_step (v := (.i .i64 x31)) (s_pure (p_mv rfl)) ?_
            refine wo_nil ?_
            cases hr
            exact ⟨_, _, rfl, rfl, rfl, gl rfl, gl rfl, gl g8, gl g25⟩
          · refine w_condF rfl ?_
            refine w_exit ?_
            refine nx_exit ?_
            cases hr
            exact ⟨_, _, rfl, ne_norm_exit, rfl, rfl, gl g1⟩
        · obtain ⟨s1_2, m_4⟩ := o_1
          rintro _ mm_1 t_3 ⟨rfl, rfl, g1⟩
          refine bk_hit ?_
          refine nx_norm ?_
          refine w_seq ?_
          refine w_ops ?_
          refine wo_step (v := (.s s1_2)) (s_pure (p_mv g1)) ?_
          refine wo_step (v := (.s s1_2)) (s_pure (p_mv rfl)) ?_
          refine wo_step (v := (.i .i64 0)) (s_pure (p_mv rfl)) ?_
          refine wo_nil ?_
          refine nx_norm ?_
          refine w_ret ?_
          exact qf ret_ok (rt rfl (rt rfl rn)) hr

/- dibber/weed.Back -/
abbrev g20_J0 (s1 : List UInt8) (x14 : Int) (x15 : Int) (m_1 : Mm) (o : Bool) (m1 : Mm) (t1 : Tr) : Prop :=
  match o with
  | c22 => m_1 = m1 ∧ t1.get 22 = (.b c22) ∧ t1.get 1 = (.s s1) ∧ t1.get 6 = (.i .u8 x14) ∧ t1.get 7 = (.i .i64 x15)
def g20 (M : Means) (ro : List ABlk) (x0 : Int) (s1 : List UInt8) (m0 : Mm) : Option (AVal × Heap × Nat × Nat) :=
  bindP (callM M.call m0 45 [(.i .i64 x0), (.s s1)]) fun v13 m_1 =>
  bindO (evP .e (.ext 0 (.c v13))) fun v14 =>
  asI .u8 v14 fun x14 =>
  bindO (evP .e (.ext 1 (.c v13))) fun v15 =>
  asI .i64 v15 fun x15 =>
  forceB (!eqI x15 2) fun c17 =>
  bindO (cond c17 (
    bindO (evP .e (.len true (.c (.s s1)))) fun v20 =>
    asI .i64 v20 fun x20 =>
    forceB (ltI 398 x20) fun c21 =>
    some c21) (
    some false)) fun c22 =>
  cond c22 (
    finM m0.h.length (tupA [(AVal.s []), (.i .i64 3)]) m_1) (
    forceB (!eqI x15 0) fun c24 =>
    cond c24 (
      finM m0.h.length (tupA [(AVal.s []), (.i .i64 x15)]) m_1) (
      bindP (callM M.call m_1 53 [(.i .u8 x14), (.s s1)]) fun v29 m_2 =>
      bindO (evP .e (.ext 0 (.c v29))) fun v30 =>
      asS v30 fun s30 =>
      bindO (evP .e (.ext 1 (.c v29))) fun v31 =>
      asB v31 fun c31 =>
      forceB (!c31) fun c33 =>
      cond c33 (
        finM m0.h.length (tupA [(AVal.s []), (.i .i64 10)]) m_2) (
        finM m0.h.length (tupA [(.s s30), (.i .i64 0)]) m_2)))

theorem g20_ok {ro : List ABlk} {O : Caller} {M : Means} (hM : M.Ok ⟨F, O⟩ ro) {x0 s1 h r} (ho : O 20 [(.i .i64 x0), (.s s1)] h = none) (hr : g20 M ro x0 s1 ⟨h, h.length, h.length⟩ = some r) : callX ⟨F, O⟩ ro 20 [(.i .i64 x0), (.s s1)] h = some r := by
  refine callX_of (F := ⟨F, O⟩) (fn := fn20) (g := g20 M ro x0 s1) ho rfl rfl hr ?_
  clear ho
  clear hr
  intro m0 t0 ht hr
  have g0 : t0.get 0 = (.i .i64 x0) := ht 0
  have g1 : t0.get 1 = (.s s1) := ht 1
  clear ht
  unfold g20 at hr
  refine w_seq ?_
  refine w_ops ?_
  refine wo_step (v := (AVal.s [])) (s_pure (p_mv rfl)) ?_
  refine wo_step (v := (.i .i64 0)) (s_pure (p_mv rfl)) ?_
  refine wo_nil ?_
  refine nx_norm ?_
  refine w_seq ?_
  refine w_ops ?_
  refine wo_step (v := (.i .i64 x0)) (s_pure (p_mv g0)) ?_
  refine wo_step (v := (.s s1)) (s_pure (p_mv g1)) ?_
  have hq := bindP_inv hr
  clear hr
  obtain ⟨v13, m_1, e13, hr⟩ := hq
  refine wo_step (v := v13) (s_call (mc rfl (mc rfl mn)) (callM_le hM.call e13)) ?_
  refine wo_step (v := v13) (s_pure (p_mv rfl)) ?_
  have hq := bindO_inv hr
  clear hr
  obtain ⟨v14, e14, hr⟩ := hq
  have hq := asI_inv hr
  clear hr
  obtain ⟨x14, rfl, hr⟩ := hq
  refine wo_step (v := (.i .u8 x14)) (s_pure (o_ext rfl e14)) ?_
  have hq := bindO_inv hr
  clear hr
  obtain ⟨v15, e15, hr⟩ := hq
  have hq := asI_inv hr
  clear hr
  obtain ⟨x15, rfl, hr⟩ := hq
  refine wo_step (v := (.i .i64 x15)) (s_pure (o_ext rfl e15)) ?_
  refine wo_step (v := (.i .u8 x14)) (s_pure (p_mv rfl)) ?_
  refine wo_step (v := (.i .i64 x15)) (s_pure (p_mv rfl)) ?_
  refine wo_nil ?_
  refine nx_norm ?_
  refine w_seq ?_
  refine w_seq ?_
  refine w_ops ?_
  refine wo_step (v := (.i .i64 x15)) (s_pure (p_mv rfl)) ?_
  have hq := forceB_inv hr
  clear hr
  obtain ⟨c17, e17, hr⟩ := hq
  refine wo_step (v := (.b c17)) (s_pure (p_bin rfl rfl (b_neq.trans (cb e17)))) ?_
  refine wo_step (v := (.b c17)) (s_pure (p_mv rfl)) ?_
  have hq := bindO_inv hr
  clear hr
  obtain ⟨o, hr, hk⟩ := hq
  refine wo_join 4 (g20_J0 s1 x14 x15 m_1 o) ?_ ?_
  · clear hk
    have hq := cond_inv hr
    clear hr
    rcases hq with ⟨rfl, hr⟩ | ⟨rfl, hr⟩
    · refine wo_take (v := (.s s1)) rfl (s_pure (p_mv g1)) ?_
      have hq := bindO_inv hr
      clear hr
      obtain ⟨v20, e20, hr⟩ := hq
      have hq := asI_inv hr
      clear hr
      obtain ⟨x20, rfl, hr⟩ := hq
      refine wo_take (v := (.i .i64 x20)) rfl (s_pure (o_len rfl e20)) ?_
      have hq := forceB_inv hr
      clear hr
      obtain ⟨c21, e21, hr⟩ := hq
      refine wo_take (v := (.b c21)) rfl (s_pure (p_bin rfl rfl (b_gtr.trans (cb e21)))) ?_
      refine wo_step (v := (.b c21)) (s_pure (p_pickT rfl rfl)) ?_
      refine wo_nil ?_
      cases hr
      exact ⟨_, _, rfl, rfl, gl rfl, gl g1, gl rfl, gl rfl⟩
    · refine wo_skip (v := (.b false)) rfl rfl ?_
      refine wo_skip (v := (.b false)) rfl rfl ?_
      refine wo_skip (v := (.b false)) rfl rfl ?_
      refine wo_step (v := (.b false)) (s_pure (p_pickF rfl rfl)) ?_
      refine wo_nil ?_
      cases hr
      exact ⟨_, _, rfl, rfl, gl rfl, gl g1, gl rfl, gl rfl⟩
  · clear hr
    have hr := hk
    clear hk
    obtain ⟨c22, ho⟩ : ∃ z, z = o := ⟨_, rfl⟩
    subst ho
    rintro mm t_1 ⟨rfl, g22, g1, g6, g7⟩
    refine wo_nil ?_
    refine nx_norm ?_
    have hq := cond_inv hr
    clear hr
    rcases hq with ⟨rfl, hr⟩ | ⟨rfl, hr⟩
    · refine w_condT g22 ?_
      refine w_seq ?_
      refine w_ops ?_
      refine wo_step (v := (AVal.s [])) (s_pure (p_mv rfl)) ?_
      refine wo_step (v := (.i .i64 3)) (s_pure (p_mv rfl)) ?_
      refine wo_nil ?_
      refine nx_norm ?_
      refine w_ret ?_
      refine nx_ret ?_
      exact qf ret_ok (rt rfl (rt rfl rn)) hr
    · refine w_condF g22 ?_
      refine w_skip ?_
      refine nx_norm ?_
      refine w_seq ?_
      refine w_seq ?_
      refine w_ops ?_
      refine wo_step (v := (.i .i64 x15)) (s_pure (p_mv g7)) ?_
      have hq := forceB_inv hr
      clear hr
      obtain ⟨c24, e24, hr⟩ := hq
      refine wo_step (v := (.b c24)) (s_pure (p_bin rfl rfl (b_neq.trans (cb e24)))) ?_
      refine wo_nil ?_
      refine nx_norm ?_
      have hq := cond_inv hr
      clear hr
      rcases hq with ⟨rfl, hr⟩ | ⟨rfl, hr⟩
      · refine w_condT rfl ?_
        refine w_seq ?_
        refine w_ops ?_
        refine wo_step (v := (.i .i64 x15)) (s_pure (p_mv g7)) ?_
        refine wo_step (v := (AVal.s [])) (s_pure (p_mv rfl)) ?_
        refine wo_step (v := (.i .i64 x15)) (s_pure (p_mv rfl)) ?_
        refine wo_nil ?_
        refine nx_norm ?_
        refine w_ret ?_
        refine nx_ret ?_
        exact qf ret_ok (rt rfl (rt rfl rn)) hr
      · refine w_condF rfl ?_
        refine w_skip ?_
        refine nx_norm ?_
        refine w_seq ?_
        refine w_ops ?_
        refine wo_step (v := (.i .u8 x14)) (s_pure (p_mv g6)) ?_
        refine wo_step (v := (.s s1)) (s_pure (p_mv g1)) ?_
        have hq := bindP_inv hr
        clear hr
        obtain ⟨v29, m_2, e29, hr⟩ := hq
        refine wo_step (v := v29) (s_call (mc rfl (mc rfl mn)) (callM_le hM.call e29)) ?_
        refine wo_step (v := v29) (s_pure (p_mv rfl)) ?_
        have hq := bindO_inv hr
        clear hr
        obtain ⟨v30, e30, hr⟩ := hq
        have hq := asS_inv hr
        clear hr
        obtain ⟨s30, rfl, hr⟩ := hq
        refine wo_step (v := (.s s30)) (s_pure (o_ext rfl e30)) ?_
        have hq := bindO_inv hr
        clear hr
        obtain ⟨v31, e31, hr⟩ := hq
        have hq := asB_inv hr
        clear hr
        obtain ⟨c31, rfl, hr⟩ := hq
        refine wo_step (v := (.b c31)) (s_pure (o_ext rfl e31)) ?_
        refine wo_step (v := (.s s30)) (s_pure (p_mv rfl)) ?_
        refine wo_step (v := (.b c31)) (s_pure (p_mv rfl)) ?_
        refine wo_nil ?_
        refine nx_norm ?_
        refine w_seq ?_
        refine w_seq ?_
        refine w_ops ?_
        refine wo_step (v := (.b c31)) (s_pure (p_mv rfl)) ?_
        have hq := forceB_inv hr
        clear hr
        obtain ⟨c33, e33, hr⟩ := hq
        refine wo_step (v := (.b c33)) (s_pure ((p_not rfl).trans (cb e33))) ?_
        refine wo_nil ?_
        refine nx_norm ?_
        have hq := cond_inv hr
        clear hr
        rcases hq with ⟨rfl, hr⟩ | ⟨rfl, hr⟩
        · refine w_condT rfl ?_
          refine w_seq ?_
          refine w_ops ?_
          refine wo_step (v := (AVal.s [])) (s_pure (p_mv rfl)) ?_
          refine wo_step (v := (.i .i64 10)) (s_pure (p_mv rfl)) ?_
          refine wo_nil ?_
          refine nx_norm ?_
          refine w_ret ?_
          refine nx_ret ?_
          exact qf ret_ok (rt rfl (rt rfl rn)) hr
        · refine w_condF rfl ?_
          refine w_skip ?_
          refine nx_norm ?_
          refine w_seq ?_
          refine w_ops ?_
          refine wo_step (v := (.s s30)) (s_pure (p_mv rfl)) ?_
          refine wo_step (v := (.s s30)) (s_pure (p_mv rfl)) ?_
          refine wo_step (v := (.i .i64 0)) (s_pure (p_mv rfl)) ?_
          refine wo_nil ?_
          refine nx_norm ?_
          refine w_ret ?_
          exact qf ret_ok (rt rfl (rt rfl rn)) hr

/- dibber/weed.Eden -/
abbrev g26_J0 (x1 : Int) (x12 : Int) (m_1 : Mm) (o : Bool) (m1 : Mm) (t1 : Tr) : Prop :=
  match o with
  | c22 => m_1 = m1 ∧ t1.get 22 = (.b c22) ∧ t1.get 1 = (.i .i64 x1) ∧ t1.get 6 = (.i .u8 x12)
abbrev g26_J1 (s24 : List UInt8) (m_2 : Mm) (o : Bool) (m1 : Mm) (t1 : Tr) : Prop :=
  match o with
  | c32 => m_2 = m1 ∧ t1.get 32 = (.b c32) ∧ t1.get 8 = (.s s24)
def g26 (M : Means) (ro : List ABlk) (x0 : Int) (x1 : Int) (m0 : Mm) : Option (AVal × Heap × Nat × Nat) :=
  bindP (callM M.call m0 61 [(.i .i64 x0)]) fun v11 m_1 =>
  bindO (evP .e (.ext 0 (.c v11))) fun v12 =>
  asI .u8 v12 fun x12 =>
  bindO (evP .e (.ext 1 (.c v11))) fun v13 =>
  asI .i64 v13 fun x13 =>
  forceB (!eqI x13 0) fun c15 =>
  cond c15 (
    finM m0.h.length (tupA [(AVal.s []), (.i .i64 x13)]) m_1) (
    forceB (ltI x1 1) fun c18 =>
    bindO (cond c18 (
      some true) (
      forceB (ltI 20 x1) fun c21 =>
      some c21)) fun c22 =>
    cond c22 (
      finM m0.h.length (tupA [(AVal.s []), (.i .i64 2)]) m_1) (
      bindP (callM M.call m_1 62 [(.i .u8 x12)]) fun v24 m_2 =>
      asS v24 fun s24 =>
      bindO (evP .e (.sbin BinOp.eql (.c (.s s24)) (.c (AVal.s [])))) fun v26 =>
      asB v26 fun c26 =>
      bindO (cond c26 (
        some true) (
        bindO (evP .e (.len true (.c (.s s24)))) fun v29 =>
        asI .i64 v29 fun x29 =>
        forceB (ltI x1 x29) fun c31 =>
        some c31)) fun c32 =>
      cond c32 (
        finM m0.h.length (tupA [(AVal.s []), (.i .i64 10)]) m_2) (
        finM m0.h.length (tupA [(.s s24), (.i .i64 0)]) m_2)))

theorem g26_ok {ro : List ABlk} {O : Caller} {M : Means} (hM : M.Ok ⟨F, O⟩ ro) {x0 x1 h r} (ho : O 26 [(.i .i64 x0), (.i .i64 x1)] h = none) (hr : g26 M ro x0 x1 ⟨h, h.length, h.length⟩ = some r) : callX ⟨F, O⟩ ro 26 [(.i .i64 x0), (.i .i64 x1)] h = some r := by
  refine callX_of (F := ⟨F, O⟩) (fn := fn26) (g := g26 M ro x0 x1) ho rfl rfl hr ?_
  clear ho
  clear hr
  intro m0 t0 ht hr
  have g0 : t0.get 0 = (.i .i64 x0) := ht 0
  have g1 : t0.get 1 = (.i .i64 x1) := ht 1
  clear ht
  unfold g26 at hr
  refine w_seq ?_
  refine w_ops ?_
  refine wo_step (v := (AVal.s [])) (s_pure (p_mv rfl)) ?_
  refine wo_step (v := (.i .i64 0)) (s_pure (p_mv rfl)) ?_
  refine wo_nil ?_
  refine nx_norm ?_
  refine w_seq ?_
  refine w_ops ?_
  refine wo_step (v := (.i .i64 x0)) (s_pure (p_mv g0)) ?_
  have hq := bindP_inv hr
  clear hr
  obtain ⟨v11, m_1, e11, hr⟩ := hq
  refine wo_step (v := v11) (s_call (mc rfl mn) (callM_le hM.call e11)) ?_
  refine wo_step (v := v11) (s_pure (p_mv rfl)) ?_
  have hq := bindO_inv hr
  clear hr
  obtain ⟨v12, e12, hr⟩ := hq
  have hq := asI_inv hr
  clear hr
  obtain ⟨x12, rfl, hr⟩ := hq
  refine wo_step (v := (.i .u8 x12)) (s_pure (o_ext rfl e12)) ?_
  have hq := bindO_inv hr
  clear hr
  obtain ⟨v13, e13, hr⟩ := hq
  have hq := asI_inv hr
  clear hr
  obtain ⟨x13, rfl, hr⟩ := hq
  refine wo_step (v := (.i .i64 x13)) (s_pure (o_ext rfl e13)) ?_
  refine wo_step (v := (.i .u8 x12)) (s_pure (p_mv rfl)) ?_
  refine wo_step (v := (.i .i64 x13)) (s_pure (p_mv rfl)) ?_
  refine wo_nil ?_
  refine nx_norm ?_
  refine w_seq ?_
  refine w_seq ?_
  refine w_ops ?_
  refine wo_step (v := (.i .i64 x13)) (s_pure (p_mv rfl)) ?_
  have hq := forceB_inv hr
  clear hr
  obtain ⟨c15, e15, hr⟩ := hq
  refine wo_step (v := (.b c15)) (s_pure (p_bin rfl rfl (b_neq.trans (cb e15)))) ?_
  refine wo_nil ?_
  refine nx_norm ?_
  have hq := cond_inv hr
  clear hr
  rcases hq with ⟨rfl, hr⟩ | ⟨rfl, hr⟩
  · refine w_condT rfl ?_
    refine w_seq ?_
    refine w_ops ?_
    refine wo_step (v := (.i .i64 x13)) (s_pure (p_mv rfl)) ?_
    refine wo_step (v := (AVal.s [])) (s_pure (p_mv rfl)) ?_
    refine wo_step (v := (.i .i64 x13)) (s_pure (p_mv rfl)) ?_
    refine wo_nil ?_
    refine nx_norm ?_
    refine w_ret ?_
    refine nx_ret ?_
    exact qf ret_ok (rt rfl (rt rfl rn)) hr
  · refine w_condF rfl ?_
    refine w_skip ?_
    refine nx_norm ?_
    refine w_seq ?_
    refine w_seq ?_
    refine w_ops ?_
    refine wo_step (v := (.i .i64 x1)) (s_pure (p_mv g1)) ?_
    have hq := forceB_inv hr
    clear hr
    obtain ⟨c18, e18, hr⟩ := hq
    refine wo_step (v := (.b c18)) (s_pure (p_bin rfl rfl (b_lss.trans (cb e18)))) ?_
    refine wo_step (v := (.b c18)) (s_pure (p_mv rfl)) ?_
    have hq := bindO_inv hr
    clear hr
    obtain ⟨o, hr, hk⟩ := hq
    refine wo_join 3 (g26_J0 x1 x12 m_1 o) ?_ ?_
    · clear hk
      have hq := cond_inv hr
      clear hr
      rcases hq with ⟨rfl, hr⟩ | ⟨rfl, hr⟩
      · refine wo_skip (v := (.b true)) rfl rfl ?_
        refine wo_skip (v := (.b true)) rfl rfl ?_
        refine wo_step (v := (.b true)) (s_pure (p_pickT rfl rfl)) ?_
        refine wo_nil ?_
        cases hr
        exact ⟨_, _, rfl, rfl, gl rfl, gl g1, gl rfl⟩
      · refine wo_take (v := (.i .i64 x1)) rfl (s_pure (p_mv g1)) ?_
        have hq := forceB_inv hr
        clear hr
        obtain ⟨c21, e21, hr⟩ := hq
        refine wo_take (v := (.b c21)) rfl (s_pure (p_bin rfl rfl (b_gtr.trans (cb e21)))) ?_
        refine wo_step (v := (.b c21)) (s_pure (p_pickF rfl rfl)) ?_
        refine wo_nil ?_
        cases hr
        exact ⟨_, _, rfl, rfl, gl rfl, gl g1, gl rfl⟩
    · clear hr
      have hr := hk
      clear hk
      obtain ⟨c22, ho⟩ : ∃ z, z = o := ⟨_, rfl⟩
      subst ho
      rintro mm t_1 ⟨rfl, g22, g1, g6⟩
      refine wo_nil ?_
      refine nx_norm ?_
      have hq := cond_inv hr
      clear hr
      rcases hq with ⟨rfl, hr⟩ | ⟨rfl, hr⟩
      · refine w_condT g22 ?_
        refine w_seq ?_
        refine w_ops ?_
        refine wo_step (v := (AVal.s [])) (s_pure (p_mv rfl)) ?_
        refine wo_step (v := (.i .i64 2)) (s_pure (p_mv rfl)) ?_
        refine wo_nil ?_
        refine nx_norm ?_
        refine w_ret ?_
        refine nx_ret ?_
        exact qf ret_ok (rt rfl (rt rfl rn)) hr
      · refine w_condF g22 ?_
        refine w_skip ?_
        refine nx_norm ?_
        refine w_seq ?_
        refine w_ops ?_
        refine wo_step (v := (.i .u8 x12)) (s_pure (p_mv g6)) ?_
        have hq := bindP_inv hr
        clear hr
        obtain ⟨v24, m_2, e24, hr⟩ := hq
        have hq := asS_inv hr
        clear hr
        obtain ⟨s24, rfl, hr⟩ := hq
        refine wo_step (v := (.s s24)) (s_call (mc rfl mn) (callM_le hM.call e24)) ?_
        refine wo_step (v := (.s s24)) (s_pure (p_mv rfl)) ?_
        refine wo_nil ?_
        refine nx_norm ?_
        refine w_seq ?_
        refine w_seq ?_
        refine w_ops ?_
        refine wo_step (v := (.s s24)) (s_pure (p_mv rfl)) ?_
        have hq := bindO_inv hr
        clear hr
        obtain ⟨v26, e26, hr⟩ := hq
        have hq := asB_inv hr
        clear hr
        obtain ⟨c26, rfl, hr⟩ := hq
        refine wo_step (v := (.b c26)) (s_pure (o_sbin rfl rfl e26)) ?_
        refine wo_step (v := (.b c26)) (s_pure (p_mv rfl)) ?_
        have hq := bindO_inv hr
        clear hr
        obtain ⟨o_1, hr, hk⟩ := hq
        refine wo_join 5 (g26_J1 s24 m_2 o_1) ?_ ?_
        · clear hk
          have hq := cond_inv hr
          clear hr
          rcases hq with ⟨rfl, hr⟩ | ⟨rfl, hr⟩
          · refine wo_skip (v := (.b true)) rfl rfl ?_
            refine wo_skip (v := (.b true)) rfl rfl ?_
            refine wo_skip (v := (.b true)) rfl rfl ?_
            refine wo_skip (v := (.b true)) rfl rfl ?_
            refine wo_step (v := (.b true)) (s_pure (p_pickT rfl rfl)) ?_
            refine wo_nil ?_
            cases hr
            exact ⟨_, _, rfl, rfl, gl rfl, gl rfl⟩
          · refine wo_take (v := (.s s24)) rfl (s_pure (p_mv rfl)) ?_
            have hq := bindO_inv hr
            clear hr
            obtain ⟨v29, e29, hr⟩ := hq
            have hq := asI_inv hr
            clear hr
            obtain ⟨x29, rfl, hr⟩ := hq
            refine wo_take (v := (.i .i64 x29)) rfl (s_pure (o_len rfl e29)) ?_
            refine wo_take (v := (.i .i64 x1)) rfl (s_pure (p_mv g1)) ?_
            have hq := forceB_inv hr
            clear hr
            obtain ⟨c31, e31, hr⟩ := hq
            refine wo_take (v := (.b c31)) rfl (s_pure (p_bin rfl rfl (b_gtr.trans (cb e31)))) ?_
            refine wo_step (v := (.b c31)) (s_pure (p_pickF rfl rfl)) ?_
            refine wo_nil ?_
            cases hr
            exact ⟨_, _, rfl, rfl, gl rfl, gl rfl⟩
        · clear hr
          have hr := hk
          clear hk
          obtain ⟨c32, ho⟩ : ∃ z, z = o_1 := ⟨_, rfl⟩
          subst ho
          rintro mm_1 t_2 ⟨rfl, g32, g8⟩
          refine wo_nil ?_
          refine nx_norm ?_
          have hq := cond_inv hr
          clear hr
          rcases hq with ⟨rfl, hr⟩ | ⟨rfl, hr⟩
          · refine w_condT g32 ?_
            refine w_seq ?_
            refine w_ops ?_
            refine wo_step (v := (AVal.s [])) (s_pure (p_mv rfl)) ?_
            refine wo_step (v := (.i .i64 10)) (s_pure (p_mv rfl)) ?_
            refine wo_nil ?_
            refine nx_norm ?_
            refine w_ret ?_
            refine nx_ret ?_
            exact qf ret_ok (rt rfl (rt rfl rn)) hr
          · refine w_condF g32 ?_
            refine w_skip ?_
            refine nx_norm ?_
            refine w_seq ?_
            refine w_ops ?_
            refine wo_step (v := (.s s24)) (s_pure (p_mv g8)) ?_
            refine wo_step (v := (.s s24)) (s_pure (p_mv rfl)) ?_
            refine wo_step (v := (.i .i64 0)) (s_pure (p_mv rfl)) ?_
            refine wo_nil ?_
            refine nx_norm ?_
            refine w_ret ?_
            exact qf ret_ok (rt rfl (rt rfl rn)) hr

/- dibber/weed.Onto -/

def g28 (M : Means) (ro : List ABlk) (x0 : Int) (m0 : Mm) : Option (AVal × Heap × Nat × Nat) :=
  bindP (callM M.call m0 61 [(.i .i64 x0)]) fun v8 m_1 =>
  bindO (evP .e (.ext 0 (.c v8))) fun v9 =>
  asI .u8 v9 fun x9 =>
  bindO (evP .e (.ext 1 (.c v8))) fun v10 =>
  asI .i64 v10 fun x10 =>
  forceB (!eqI x10 0) fun c12 =>
  cond c12 (
    finM m0.h.length (tupA [(.b false), (.i .i64 x10)]) m_1) (
    bindP (callM M.call m_1 62 [(.i .u8 x9)]) fun v15 m_2 =>
    asS v15 fun s15 =>
    bindO (evP .e (.sbin BinOp.eql (.c (.s s15)) (.c (AVal.s [])))) fun v16 =>
    asB v16 fun c16 =>
    finM m0.h.length (tupA [(.b c16), (.i .i64 0)]) m_2)

theorem g28_ok {ro : List ABlk} {O : Caller} {M : Means} (hM : M.Ok ⟨F, O⟩ ro) {x0 h r} (ho : O 28 [(.i .i64 x0)] h = none) (hr : g28 M ro x0 ⟨h, h.length, h.length⟩ = some r) : callX ⟨F, O⟩ ro 28 [(.i .i64 x0)] h = some r := by
  refine callX_of (F := ⟨F, O⟩) (fn := fn28) (g := g28 M ro x0) ho rfl rfl hr ?_
  clear ho
  clear hr
  intro m0 t0 ht hr
  have g0 : t0.get 0 = (.i .i64 x0) := ht 0
  clear ht
  unfold g28 at hr
  refine w_seq ?_
  refine w_ops ?_
  refine wo_step (v := (.b false)) (s_pure (p_mv rfl)) ?_
  refine wo_step (v := (.i .i64 0)) (s_pure (p_mv rfl)) ?_
  refine wo_nil ?_
  refine nx_norm ?_
  refine w_seq ?_
  refine w_ops ?_
  refine wo_step (v := (.i .i64 x0)) (s_pure (p_mv g0)) ?_
  have hq := bindP_inv hr
  clear hr
  obtain ⟨v8, m_1, e8, hr⟩ := hq
  refine wo_step (v := v8) (s_call (mc rfl mn) (callM_le hM.call e8)) ?_
  refine wo_step (v := v8) (s_pure (p_mv rfl)) ?_
  have hq := bindO_inv hr
  clear hr
  obtain ⟨v9, e9, hr⟩ := hq
  have hq := asI_inv hr
  clear hr
  obtain ⟨x9, rfl, hr⟩ := hq
  refine wo_step (v := (.i .u8 x9)) (s_pure (o_ext rfl e9)) ?_
  have hq := bindO_inv hr
  clear hr
  obtain ⟨v10, e10, hr⟩ := hq
  have hq := asI_inv hr
  clear hr
  obtain ⟨x10, rfl, hr⟩ := hq
  refine wo_step (v := (.i .i64 x10)) (s_pure (o_ext rfl e10)) ?_
  refine wo_step (v := (.i .u8 x9)) (s_pure (p_mv rfl)) ?_
  refine wo_step (v := (.i .i64 x10)) (s_pure (p_mv rfl)) ?_
  refine wo_nil ?_
  refine nx_norm ?_
  refine w_seq ?_
  refine w_seq ?_
  refine w_ops ?_
  refine wo_step (v := (.i .i64 x10)) (s_pure (p_mv rfl)) ?_
  have hq := forceB_inv hr
  clear hr
  obtain ⟨c12, e12, hr⟩ := hq
  refine wo_step (v := (.b c12)) (s_pure (p_bin rfl rfl (b_neq.trans (cb e12)))) ?_
  refine wo_nil ?_
  refine nx_norm ?_
  have hq := cond_inv hr
  clear hr
  rcases hq with ⟨rfl, hr⟩ | ⟨rfl, hr⟩
  · refine w_condT rfl ?_
    refine w_seq ?_
    refine w_ops ?_
    refine wo_step (v := (.i .i64 x10)) (s_pure (p_mv rfl)) ?_
    refine wo_step (v := (.b false)) (s_pure (p_mv rfl)) ?_
    refine wo_step (v := (.i .i64 x10)) (s_pure (p_mv rfl)) ?_
    refine wo_nil ?_
    refine nx_norm ?_
    refine w_ret ?_
    refine nx_ret ?_
    exact qf ret_ok (rt rfl (rt rfl rn)) hr
  · refine w_condF rfl ?_
    refine w_skip ?_
    refine nx_norm ?_
    refine w_seq ?_
    refine w_ops ?_
    refine wo_step (v := (.i .u8 x9)) (s_pure (p_mv rfl)) ?_
    have hq := bindP_inv hr
    clear hr
    obtain ⟨v15, m_2, e15, hr⟩ := hq
    have hq := asS_inv hr
    clear hr
    obtain ⟨s15, rfl, hr⟩ := hq
    refine wo_step (v := (.s s15)) (s_call (mc rfl mn) (callM_le hM.call e15)) ?_
    have hq := bindO_inv hr
    clear hr
    obtain ⟨v16, e16, hr⟩ := hq
    have hq := asB_inv hr
    clear hr
    obtain ⟨c16, rfl, hr⟩ := hq
    refine wo_step (v := (.b c16)) (s_pure (o_sbin rfl rfl e16)) ?_
    refine wo_step (v := (.b c16)) (s_pure (p_mv rfl)) ?_
    refine wo_step (v := (.i .i64 0)) (s_pure (p_mv rfl)) ?_
    refine wo_nil ?_
    refine nx_norm ?_
    refine w_ret ?_
    exact qf ret_ok (rt rfl (rt rfl rn)) hr

/- dibber/weed.OneToOne -/

def g30 (M : Means) (ro : List ABlk) (x0 : Int) (m0 : Mm) : Option (AVal × Heap × Nat × Nat) :=
  bindP (callM M.call m0 61 [(.i .i64 x0)]) fun v8 m_1 =>
  bindO (evP .e (.ext 0 (.c v8))) fun v9 =>
  asI .u8 v9 fun x9 =>
  bindO (evP .e (.ext 1 (.c v8))) fun v10 =>
  asI .i64 v10 fun x10 =>
  forceB (!eqI x10 0) fun c12 =>
  cond c12 (
    finM m0.h.length (tupA [(.b false), (.i .i64 x10)]) m_1) (
    bindP (callM M.call m_1 64 [(.i .u8 x9)]) fun v15 m_2 =>
    asB v15 fun c15 =>
    finM m0.h.length (tupA [(.b c15), (.i .i64 0)]) m_2)

theorem g30_ok {ro : List ABlk} {O : Caller} {M : Means} (hM : M.Ok ⟨F, O⟩ ro) {x0 h r} (ho : O 30 [(.i .i64 x0)] h = none) (hr : g30 M ro x0 ⟨h, h.length, h.length⟩ = some r) : callX ⟨F, O⟩ ro 30 [(.i .i64 x0)] h = some r := by
  refine callX_of (F := ⟨F, O⟩) (fn := fn30) (g := g30 M ro x0) ho rfl rfl hr ?_
  clear ho
  clear hr
  intro m0 t0 ht hr
  have g0 : t0.get 0 = (.i .i64 x0) := ht 0
  clear ht
  unfold g30 at hr
  refine w_seq ?_
  refine w_ops ?_
  refine wo_step (v := (.b false)) (s_pure (p_mv rfl)) ?_
  refine wo_step (v := (.i .i64 0)) (s_pure (p_mv rfl)) ?_
  refine wo_nil ?_
  refine nx_norm ?_
  refine w_seq ?_
  refine w_ops ?_
  refine wo_step (v := (.i .i64 x0)) (s_pure (p_mv g0)) ?_
  have hq := bindP_inv hr
  clear hr
  obtain ⟨v8, m_1, e8, hr⟩ := hq
  refine wo_step (v := v8) (s_call (mc rfl mn) (callM_le hM.call e8)) ?_
  refine wo_step (v := v8) (s_pure (p_mv rfl)) ?_
  have hq := bindO_inv hr
  clear hr
  obtain ⟨v9, e9, hr⟩ := hq
  have hq := asI_inv hr
  clear hr
  obtain ⟨x9, rfl, hr⟩ := hq
  refine wo_step (v := (.i .u8 x9)) (s_pure (o_ext rfl e9)) ?_
  have hq := bindO_inv hr
  clear hr
  obtain ⟨v10, e10, hr⟩ := hq
  have hq := asI_inv hr
  clear hr
  obtain ⟨x10, rfl, hr⟩ := hq
  refine wo_step (v := (.i .i64 x10)) (s_pure (o_ext rfl e10)) ?_
  refine wo_step (v := (.i .u8 x9)) (s_pure (p_mv rfl)) ?_
  refine wo_step (v := (.i .i64 x10)) (s_pure (p_mv rfl)) ?_
  refine wo_nil ?_
  refine nx_norm ?_
  refine w_seq ?_
  refine w_seq ?_
  refine w_ops ?_
  refine wo_step (v := (.i .i64 x10)) (s_pure (p_mv rfl)) ?_
  have hq := forceB_inv hr
  clear hr
  obtain ⟨c12, e12, hr⟩ := hq
  refine wo_step (v := (.b c12)) (s_pure (p_bin rfl rfl (b_neq.trans (cb e12)))) ?_
  refine wo_nil ?_
  refine nx_norm ?_
  have hq := cond_inv hr
  clear hr
  rcases hq with ⟨rfl, hr⟩ | ⟨rfl, hr⟩
  · refine w_condT rfl ?_
    refine w_seq ?_
    refine w_ops ?_
    refine wo_step (v := (.i .i64 x10)) (s_pure (p_mv rfl)) ?_
    refine wo_step (v := (.b false)) (s_pure (p_mv rfl)) ?_
    refine wo_step (v := (.i .i64 x10)) (s_pure (p_mv rfl)) ?_
    refine wo_nil ?_
    refine nx_norm ?_
    refine w_ret ?_
    refine nx_ret ?_
    exact qf ret_ok (rt rfl (rt rfl rn)) hr
  · refine w_condF rfl ?_
    refine w_skip ?_
    refine nx_norm ?_
    refine w_seq ?_
    refine w_ops ?_
    refine wo_step (v := (.i .u8 x9)) (s_pure (p_mv rfl)) ?_
    have hq := bindP_inv hr
    clear hr
    obtain ⟨v15, m_2, e15, hr⟩ := hq
    have hq := asB_inv hr
    clear hr
    obtain ⟨c15, rfl, hr⟩ := hq
    refine wo_step (v := (.b c15)) (s_call (mc rfl mn) (callM_le hM.call e15)) ?_
    refine wo_step (v := (.b c15)) (s_pure (p_mv rfl)) ?_
    refine wo_step (v := (.i .i64 0)) (s_pure (p_mv rfl)) ?_
    refine wo_nil ?_
    refine nx_norm ?_
    refine w_ret ?_
    exact qf ret_ok (rt rfl (rt rfl rn)) hr

/- dibber/dibberref02.OneToOne -/

def g31 (M : Means) (ro : List ABlk) (x0 : Int) (m0 : Mm) : Option (AVal × Heap × Nat × Nat) :=
  bindP (callM M.call m0 54 [(.i .i64 x0)]) fun v5 m_1 =>
  asB v5 fun c5 =>
  forceB (!c5) fun c6 =>
  cond c6 (
    finM m0.h.length (tupA [(.b false), (.i .i64 2)]) m_1) (
    bindP (callM M.call m_1 65 [(.i .i64 x0)]) fun v8 m_2 =>
    asB v8 fun c8 =>
    finM m0.h.length (tupA [(.b c8), (.i .i64 0)]) m_2)

theorem g31_ok {ro : List ABlk} {O : Caller} {M : Means} (hM : M.Ok ⟨F, O⟩ ro) {x0 h r} (ho : O 31 [(.i .i64 x0)] h = none) (hr : g31 M ro x0 ⟨h, h.length, h.length⟩ = some r) : callX ⟨F, O⟩ ro 31 [(.i .i64 x0)] h = some r := by
  refine callX_of (F := ⟨F, O⟩) (fn := fn31) (g := g31 M ro x0) ho rfl rfl hr ?_
  clear ho
  clear hr
  intro m0 t0 ht hr
  have g0 : t0.get 0 = (.i .i64 x0) := ht 0
  clear ht
  unfold g31 at hr
  refine w_seq ?_
  refine w_ops ?_
  refine wo_step (v := (.b false)) (s_pure (p_mv rfl)) ?_
  refine wo_step (v := (.i .i64 0)) (s_pure (p_mv rfl)) ?_
  refine wo_nil ?_
  refine nx_norm ?_
  refine w_seq ?_
  refine w_seq ?_
  refine w_ops ?_
  refine wo_step (v := (.i .i64 x0)) (s_pure (p_mv g0)) ?_
  have hq := bindP_inv hr
  clear hr
  obtain ⟨v5, m_1, e5, hr⟩ := hq
  have hq := asB_inv hr
  clear hr
  obtain ⟨c5, rfl, hr⟩ := hq
  refine wo_step (v := (.b c5)) (s_call (mc rfl mn) (callM_le hM.call e5)) ?_
  have hq := forceB_inv hr
  clear hr
  obtain ⟨c6, e6, hr⟩ := hq
  refine wo_step (v := (.b c6)) (s_pure ((p_not rfl).trans (cb e6))) ?_
  refine wo_nil ?_
  refine nx_norm ?_
  have hq := cond_inv hr
  clear hr
  rcases hq with ⟨rfl, hr⟩ | ⟨rfl, hr⟩
  · refine w_condT rfl ?_
    refine w_seq ?_
    refine w_ops ?_
    refine wo_step (v := (.b false)) (s_pure (p_mv rfl)) ?_
    refine wo_step (v := (.i .i64 2)) (s_pure (p_mv rfl)) ?_
    refine wo_nil ?_
    refine nx_norm ?_
    refine w_ret ?_
    refine nx_ret ?_
    exact qf ret_ok (rt rfl (rt rfl rn)) hr
  · refine w_condF rfl ?_
    refine w_skip ?_
    refine nx_norm ?_
    refine w_seq ?_
    refine w_ops ?_
    refine wo_step (v := (.i .i64 x0)) (s_pure (p_mv g0)) ?_
    have hq := bindP_inv hr
    clear hr
    obtain ⟨v8, m_2, e8, hr⟩ := hq
    have hq := asB_inv hr
    clear hr
    obtain ⟨c8, rfl, hr⟩ := hq
    refine wo_step (v := (.b c8)) (s_call (mc rfl mn) (callM_le hM.call e8)) ?_
    refine wo_step (v := (.b c8)) (s_pure (p_mv rfl)) ?_
    refine wo_step (v := (.i .i64 0)) (s_pure (p_mv rfl)) ?_
    refine wo_nil ?_
    refine nx_norm ?_
    refine w_ret ?_
    exact qf ret_ok (rt rfl (rt rfl rn)) hr

/- dibber/weed.Twins -/
abbrev g32_I0 (x14 : Int) (s : Int × Mm) (m1 : Mm) (t1 : Tr) : Prop :=
  match s with
  | (x7, m_3) => m_3 = m1 ∧ t1.get 7 = (.i .i64 x7) ∧ t1.get 5 = (.i .u8 x14)
abbrev g32_J0 (x14 : Int) (o : (List UInt8 × List UInt8 × Int × Mm)) (e : AExit) (m1 : Mm) (t1 : Tr) : Prop :=
  match o with
  | (y2, y3, y4, mo) => e = .ret ∧ mo = m1 ∧ t1.get 2 = (.s y2) ∧ t1.get 3 = (.s y3) ∧ t1.get 4 = (.i .i64 y4)
def g32_b0 (M : Means) (ro : List ABlk) (x14 : Int) (x7 : Int) (m_3 : Mm) : Option ((Int × Mm) ⊕ ((List UInt8 × List UInt8 × Int × Mm))) :=
  bindP (callM M.call m_3 66 [(.i .u8 x14), (.i .i64 x7)]) fun v26 m_4 =>
  bindO (evP .e (.ext 0 (.c v26))) fun v27 =>
  asS v27 fun s27 =>
  bindO (evP .e (.ext 1 (.c v26))) fun v28 =>
  asS v28 fun s28 =>
  bindO (evP .e (.ext 2 (.c v26))) fun v29 =>
  asB v29 fun c29 =>
  cond c29 (
    some (.inr (s27, s28, 0, m_4))) (
    forceI (wr .i64 (x7 + 1)) fun x22 =>
    some (.inl (x22, m_4)))
def g32 (M : Means) (ro : List ABlk) (x0 : Int) (m0 : Mm) : Option (AVal × Heap × Nat × Nat) :=
  bindP (callM M.call m0 61 [(.i .i64 x0)]) fun v13 m_1 =>
  bindO (evP .e (.ext 0 (.c v13))) fun v14 =>
  asI .u8 v14 fun x14 =>
  bindO (evP .e (.ext 1 (.c v13))) fun v15 =>
  asI .i64 v15 fun x15 =>
  forceB (!eqI x15 0) fun c17 =>
  cond c17 (
    finM m0.h.length (tupA [(AVal.s []), (AVal.s []), (.i .i64 x15)]) m_1) (
    bindP (callM M.call m_1 64 [(.i .u8 x14)]) fun v20 m_2 =>
    asB v20 fun c20 =>
    cond c20 (
      finM m0.h.length (tupA [(AVal.s []), (AVal.s []), (.i .i64 10)]) m_2) (
      bindO (M.loop (S := Int × Mm) (R := (List UInt8 × List UInt8 × Int × Mm)) (fun s => g32_b0 M ro x14 s.1 s.2) (1, m_2)) fun ⟨s2, s3, x4, m_5⟩ =>
      finM m0.h.length (tupA [(.s s2), (.s s3), (.i .i64 x4)]) m_5))

theorem g32_ok {ro : List ABlk} {O : Caller} {M : Means} (hM : M.Ok ⟨F, O⟩ ro) {x0 h r} (ho : O 32 [(.i .i64 x0)] h = none) (hr : g32 M ro x0 ⟨h, h.length, h.length⟩ = some r) : callX ⟨F, O⟩ ro 32 [(.i .i64 x0)] h = some r := by
  refine callX_of (F := ⟨F, O⟩) (fn := fn32) (g := g32 M ro x0) ho rfl rfl hr ?_
  clear ho
  clear hr
  intro m0 t0 ht hr
  have g0 : t0.get 0 = (.i .i64 x0) := ht 0
  clear ht
  unfold g32 at hr
  refine w_seq ?_
  refine w_ops ?_
  refine wo_step (v := (AVal.s [])) (s_pure (p_mv rfl)) ?_
  refine wo_step (v := (AVal.s [])) (s_pure (p_mv rfl)) ?_
  refine wo_step (v := (.i .i64 0)) (s_pure (p_mv rfl)) ?_
  refine wo_nil ?_
  refine nx_norm ?_
  refine w_seq ?_
  refine w_ops ?_
  refine wo_step (v := (.i .i64 x0)) (s_pure (p_mv g0)) ?_
  have hq := bindP_inv hr
  clear hr
  obtain ⟨v13, m_1, e13, hr⟩ := hq
  refine wo_step (v := v13) (s_call (mc rfl mn) (callM_le hM.call e13)) ?_
  refine wo_step (v := v13) (s_pure (p_mv rfl)) ?_
  have hq := bindO_inv hr
  clear hr
  obtain ⟨v14, e14, hr⟩ := hq
  have hq := asI_inv hr
  clear hr
  obtain ⟨x14, rfl, hr⟩ := hq
  refine wo_step (v := (.i .u8 x14)) (s_pure (o_ext rfl e14)) ?_
  have hq := bindO_inv hr
  clear hr
  obtain ⟨v15, e15, hr⟩ := hq
  have hq := asI_inv hr
  clear hr
  obtain ⟨x15, rfl, hr⟩ := hq
  refine wo_step (v := (.i .i64 x15)) (s_pure (o_ext rfl e15)) ?_
  refine wo_step (v := (.i .u8 x14)) (s_pure (p_mv rfl)) ?_
  refine wo_step (v := (.i .i64 x15)) (s_pure (p_mv rfl)) ?_
  refine wo_nil ?_
  refine nx_norm ?_
  refine w_seq ?_
  refine w_seq ?_
  refine w_ops ?_
  refine wo_step (v := (.i .i64 x15)) (s_pure (p_mv rfl)) ?_
  have hq := forceB_inv hr
  clear hr
  obtain ⟨c17, e17, hr⟩ := hq
  refine wo_step (v := (.b c17)) (s_pure (p_bin rfl rfl (b_neq.trans (cb e17)))) ?_
  refine wo_nil ?_
  refine nx_norm ?_
  have hq := cond_inv hr
  clear hr
  rcases hq with ⟨rfl, hr⟩ | ⟨rfl, hr⟩
  · refine w_condT rfl ?_
    refine w_seq ?_
    refine w_ops ?_
    refine wo_step (v := (.i .i64 x15)) (s_pure (p_mv rfl)) ?_
    refine wo_step (v := (AVal.s [])) (s_pure (p_mv rfl)) ?_
    refine wo_step (v := (AVal.s [])) (s_pure (p_mv rfl)) ?_
    refine wo_step (v := (.i .i64 x15)) (s_pure (p_mv rfl)) ?_
    refine wo_nil ?_
    refine nx_norm ?_
    refine w_ret ?_
    refine nx_ret ?_
    exact qf ret_ok (rt rfl (rt rfl (rt rfl rn))) hr
  · refine w_condF rfl ?_
    refine w_skip ?_
    refine nx_norm ?_
    refine w_seq ?_
    refine w_seq ?_
    refine w_ops ?_
    refine wo_step (v := (.i .u8 x14)) (s_pure (p_mv rfl)) ?_
    have hq := bindP_inv hr
    clear hr
    obtain ⟨v20, m_2, e20, hr⟩ := hq
    have hq := asB_inv hr
    clear hr
    obtain ⟨c20, rfl, hr⟩ := hq
    refine wo_step (v := (.b c20)) (s_call (mc rfl mn) (callM_le hM.call e20)) ?_
    refine wo_nil ?_
    refine nx_norm ?_
    have hq := cond_inv hr
    clear hr
    rcases hq with ⟨rfl, hr⟩ | ⟨rfl, hr⟩
    · refine w_condT rfl ?_
      refine w_seq ?_
      refine w_ops ?_
      refine wo_step (v := (AVal.s [])) (s_pure (p_mv rfl)) ?_
      refine wo_step (v := (AVal.s [])) (s_pure (p_mv rfl)) ?_
      refine wo_step (v := (.i .i64 10)) (s_pure (p_mv rfl)) ?_
      refine wo_nil ?_
      refine nx_norm ?_
      refine w_ret ?_
      refine nx_ret ?_
      exact qf ret_ok (rt rfl (rt rfl (rt rfl rn))) hr
    · refine w_condF rfl ?_
      refine w_skip ?_
      refine nx_norm ?_
      refine w_seq ?_
      refine w_ops ?_
      refine wo_step (v := (.i .i64 1)) (s_pure (p_mv rfl)) ?_
      refine wo_nil ?_
      refine nx_norm ?_
      refine w_block ?_
      have hq := bindO_inv hr
      clear hr
      obtain ⟨o, hl, hr⟩ := hq
      obtain ⟨n, hl⟩ := hM.loop _ _ _ hl
      refine jp_mono (w_loop _ (g32_I0 x14) (g32_J0 x14) ?_ n _ _ _ _ hl ⟨rfl, gl rfl, gl rfl⟩) ?_
      · clear hr hl
        intro s mm_1 t_1 o hi hr
        obtain ⟨x7, m_3⟩ := s
        obtain ⟨rfl, g7, g5⟩ := hi
        unfold g32_b0 at hr
        refine w_seq ?_
        refine w_block ?_
        refine w_seq ?_
        refine w_ops ?_
        refine wo_step (v := (.i .u8 x14)) (s_pure (p_mv g5)) ?_
        refine wo_step (v := (.i .i64 x7)) (s_pure (p_mv g7)) ?_
        have hq := bindP_inv hr
        clear hr
        obtain ⟨v26, m_4, e26, hr⟩ := hq
        refine wo_step (v := v26) (s_call (mc rfl (mc rfl mn)) (callM_le hM.call e26)) ?_
        refine wo_step (v := v26) (s_pure (p_mv rfl)) ?_
        have hq := bindO_inv hr
        clear hr
        obtain ⟨v27, e27, hr⟩ := hq
        have hq := asS_inv hr
        clear hr
        obtain ⟨s27, rfl, hr⟩ := hq
        refine wo_step (v := (.s s27)) (s_pure (o_ext rfl e27)) ?_
        have hq := bindO_inv hr
        clear hr
        obtain ⟨v28, e28, hr⟩ := hq
        have hq := asS_inv hr
        clear hr
        obtain ⟨s28, rfl, hr⟩ := hq
        refine wo_step (v := (.s s28)) (s_pure (o_ext rfl e28)) ?_
        have hq := bindO_inv hr
        clear hr
        obtain ⟨v29, e29, hr⟩ := hq
        have hq := asB_inv hr
        clear hr
        obtain ⟨c29, rfl, hr⟩ := hq
        refine wo_step (v := (.b c29)) (s_pure (o_ext rfl e29)) ?_
        refine wo_step (v := (.s s27)) (s_pure (p_mv rfl)) ?_
        refine wo_step (v := (.s s28)) (s_pure (p_mv rfl)) ?_
        refine wo_step (v := (.b c29)) (s_pure (p_mv rfl)) ?_
        refine wo_nil ?_
        refine nx_norm ?_
        refine w_seq ?_
        refine w_ops ?_
        refine wo_step (v := (.b c29)) (s_pure (p_mv rfl)) ?_
        refine wo_nil ?_
        refine nx_norm ?_
        have hq := cond_inv hr
        clear hr
        rcases hq with ⟨rfl, hr⟩ | ⟨rfl, hr⟩
        · refine w_condT rfl ?_
          refine w_seq ?_
          refine w_ops ?_
          refine wo_step (v := (.s s27)) (s_pure (p_mv rfl)) ?_
          refine wo_step (v := (.s s28)) (s_pure (p_mv rfl)) ?_
          refine wo_step (v := (.s s27)) (s_pure (p_mv rfl)) ?_
          refine wo_step (v := (.s s28)) (s_pure (p_mv rfl)) ?_
          refine wo_step (v := (.i .i64 0)) (s_pure (p_mv rfl)) ?_
          refine wo_nil ?_
          refine nx_norm ?_
          refine w_ret ?_
          refine bk_ret ?_
          refine nx_ret ?_
          cases hr
          exact ⟨_, _, rfl, ne_norm_ret, rfl, rfl, gl rfl, gl rfl, gl rfl⟩
        · refine w_condF rfl ?_
          refine w_skip ?_
          refine bk_norm ?_
          refine nx_norm ?_
          refine w_ops ?_
          refine wo_step (v := (.i .i64 x7)) (s_pure (p_mv g7)) ?_
          have hq := forceI_inv hr
          clear hr
          obtain ⟨x22, e22, hr⟩ := hq
          refine wo_step (v := (.i .i64 x22)) (s_pure (p_bin rfl rfl (b_add.trans (ci e22)))) ?_
          refine wo_step (v := (.i .i64 x22)) (s_pure (p_mv rfl)) ?_
          refine wo_nil ?_
          cases hr
          exact ⟨_, _, rfl, rfl, rfl, gl rfl, gl g5⟩
      · obtain ⟨s2, s3, x4, m_5⟩ := o
        rintro _ mm t_2 ⟨rfl, rfl, g2, g3, g4⟩
        refine bk_ret ?_
        exact qf ret_ok (rt g2 (rt g3 (rt g4 rn))) hr

/- dibber/dibberref02.Twins -/
abbrev g33_I0 (x0 : Int) (s : Int × Mm) (m1 : Mm) (t1 : Tr) : Prop :=
  match s with
  | (x5, m_3) => m_3 = m1 ∧ t1.get 5 = (.i .i64 x5) ∧ t1.get 0 = (.i .i64 x0)
abbrev g33_J0 (x0 : Int) (o : (List UInt8 × List UInt8 × Int × Mm)) (e : AExit) (m1 : Mm) (t1 : Tr) : Prop :=
  match o with
  | (y2, y3, y4, mo) => e = .ret ∧ mo = m1 ∧ t1.get 2 = (.s y2) ∧ t1.get 3 = (.s y3) ∧ t1.get 4 = (.i .i64 y4)
abbrev g33_I1 (x0 : Int) (x5 : Int) (v20 : AVal) (s : Int × Int × Int × Mm) (m1 : Mm) (t1 : Tr) : Prop :=
  match s with
  | (x7, x8, x9, m_5) => m_5 = m1 ∧ t1.get 7 = (.i .i64 x7) ∧ t1.get 8 = (.i .i64 x8) ∧ t1.get 9 = (.i .i64 x9) ∧ t1.get 0 = (.i .i64 x0) ∧ t1.get 5 = (.i .i64 x5) ∧ t1.get 6 = v20
abbrev g33_J1 (x0 : Int) (x5 : Int) (v20 : AVal) (o : (Int × Int × Mm)) (e : AExit) (m1 : Mm) (t1 : Tr) : Prop :=
  match o with
  | (y7, y8, mo) => e = (.exit 2) ∧ mo = m1 ∧ t1.get 7 = (.i .i64 y7) ∧ t1.get 8 = (.i .i64 y8) ∧ t1.get 0 = (.i .i64 x0) ∧ t1.get 5 = (.i .i64 x5)
abbrev g33_J2 (x0 : Int) (x5 : Int) (v20 : AVal) (x9 : Int) (o : (Int × Int × Mm)) (e : AExit) (m1 : Mm) (t1 : Tr) : Prop :=
  match o with
  | (y7, y8, mo) => e = .norm ∧ mo = m1 ∧ t1.get 7 = (.i .i64 y7) ∧ t1.get 8 = (.i .i64 y8) ∧ t1.get 0 = (.i .i64 x0) ∧ t1.get 5 = (.i .i64 x5) ∧ t1.get 6 = v20 ∧ t1.get 9 = (.i .i64 x9)
abbrev g33_J3 (x0 : Int) (x5 : Int) (v20 : AVal) (x7 : Int) (x8 : Int) (x9 : Int) (x32 : Int) (m_8 : Mm) (o : Bool) (m1 : Mm) (t1 : Tr) : Prop :=
  match o with
  | c53 => m_8 = m1 ∧ t1.get 53 = (.b c53) ∧ t1.get 0 = (.i .i64 x0) ∧ t1.get 5 = (.i .i64 x5) ∧ t1.get 6 = v20 ∧ t1.get 7 = (.i .i64 x7) ∧ t1.get 8 = (.i .i64 x8) ∧ t1.get 9 = (.i .i64 x9) ∧ t1.get 10 = (.i .i64 x32)
abbrev g33_J4 (x0 : Int) (x5 : Int) (v20 : AVal) (x9 : Int) (m_8 : Mm) (o : (Int × Int)) (e : AExit) (m1 : Mm) (t1 : Tr) : Prop :=
  match o with
  | (y7, y8) => e = .norm ∧ m_8 = m1 ∧ t1.get 7 = (.i .i64 y7) ∧ t1.get 8 = (.i .i64 y8) ∧ t1.get 0 = (.i .i64 x0) ∧ t1.get 5 = (.i .i64 x5) ∧ t1.get 6 = v20 ∧ t1.get 9 = (.i .i64 x9)
def g33_b1 (M : Means) (ro : List ABlk) (x0 : Int) (x5 : Int) (v20 : AVal) (x7 : Int) (x8 : Int) (x9 : Int) (m_5 : Mm) : Option ((Int × Int × Int × Mm) ⊕ ((Int × Int × Mm))) :=
  chk (!ltI x5 (.ofNat 0)) <|
  forceI (shlV .i64 1 x5) fun x23 =>
  forceB (ltI x9 x23) fun c24 =>
  cond c24 (
    bindP (callM M.call m_5 68 [(.i .i64 x9), (.i .i64 x5)]) fun v30 m_6 =>
    bindP (callM M.call m_6 52 [(.i .i64 x0), v30]) fun v31 m_7 =>
    bindP (callM M.call m_7 67 [v31]) fun v32 m_8 =>
    asI .i64 v32 fun x32 =>
    bindO (evP .e (.ixS 1 (.c v20) (.c (.i .i64 x32)))) fun v35 =>
    bindO (ldM ro m_8 true 1 v35) fun v36 =>
    asI .i64 v36 fun x36 =>
    forceB (eqI x36 0) fun c37 =>
    bindO (α := (Int × Int × Mm)) (
      cond c37 (
        forceI (wr .i64 (x9 + 1)) fun x41 =>
        bindO (evP .e (.ixS 1 (.c v20) (.c (.i .i64 x32)))) fun v42 =>
        bindP (stepM ro m_8 (.st 1 (.c v42) (.c (.i .i64 x41)))) fun vn m_9 =>
        some (x7, x8, m_9)) (
        forceB (ltI x7 0) fun c44 =>
        bindO (cond c44 (
          some true) (
          bindO (evP .e (.ixS 1 (.c v20) (.c (.i .i64 x32)))) fun v48 =>
          bindO (ldM ro m_8 true 1 v48) fun v49 =>
          asI .i64 v49 fun x49 =>
          forceI (wr .i64 (x49 - 1)) fun x50 =>
          forceB (ltI x50 x7) fun c52 =>
          some c52)) fun c53 =>
        bindO (α := (Int × Int)) (
          cond c53 (
            bindO (evP .e (.ixS 1 (.c v20) (.c (.i .i64 x32)))) fun v56 =>
            bindO (ldM ro m_8 true 1 v56) fun v57 =>
            asI .i64 v57 fun x57 =>
            forceI (wr .i64 (x57 - 1)) fun x58 =>
            some (x58, x9)) (
            some (x7, x8))) fun ⟨x7_1, x8_1⟩ =>
        some (x7_1, x8_1, m_8))) fun ⟨x7_2, x8_2, m_10⟩ =>
    forceI (wr .i64 (x9 + 1)) fun x26 =>
    some (.inl (x7_2, x8_2, x26, m_10))) (
    some (.inr (x7, x8, m_5)))
def g33_b0 (M : Means) (ro : List ABlk) (x0 : Int) (x5 : Int) (m_3 : Mm) : Option ((Int × Mm) ⊕ ((List UInt8 × List UInt8 × Int × Mm))) :=
  chk (!ltI x5 (.ofNat 0)) <|
  forceI (shlV .i64 1 x5) fun x19 =>
  bindP (stepM ro m_3 (.mk 3 1 8 [(AVal.i IntKind.i64 0)] (.c (.i .i64 x19)) (.c (.i .i64 x19)))) fun v20 m_4 =>
  bindO (M.loop (S := Int × Int × Int × Mm) (R := (Int × Int × Mm)) (fun s => g33_b1 M ro x0 x5 v20 s.1 s.2.1 s.2.2.1 s.2.2.2) ((-1), (-1), 0, m_4)) fun ⟨x7_3, x8_3, m_11⟩ =>
  forceB (!ltI x7_3 0) fun c61 =>
  cond c61 (
    bindP (callM M.call m_11 68 [(.i .i64 x7_3), (.i .i64 x5)]) fun v64 m_12 =>
    bindP (callM M.call m_12 50 [v64]) fun v65 m_13 =>
    asS v65 fun s65 =>
    bindP (callM M.call m_13 68 [(.i .i64 x8_3), (.i .i64 x5)]) fun v68 m_14 =>
    bindP (callM M.call m_14 50 [v68]) fun v69 m_15 =>
    asS v69 fun s69 =>
    some (.inr (s65, s69, 0, m_15))) (
    forceI (wr .i64 (x5 + 1)) fun x17 =>
    some (.inl (x17, m_11)))
def g33 (M : Means) (ro : List ABlk) (x0 : Int) (m0 : Mm) : Option (AVal × Heap × Nat × Nat) :=
  bindP (callM M.call m0 54 [(.i .i64 x0)]) fun v12 m_1 =>
  asB v12 fun c12 =>
  forceB (!c12) fun c13 =>
  cond c13 (
    finM m0.h.length (tupA [(AVal.s []), (AVal.s []), (.i .i64 2)]) m_1) (
    bindP (callM M.call m_1 65 [(.i .i64 x0)]) fun v15 m_2 =>
    asB v15 fun c15 =>
    cond c15 (
      finM m0.h.length (tupA [(AVal.s []), (AVal.s []), (.i .i64 10)]) m_2) (
      bindO (M.loop (S := Int × Mm) (R := (List UInt8 × List UInt8 × Int × Mm)) (fun s => g33_b0 M ro x0 s.1 s.2) (1, m_2)) fun ⟨s2, s3, x4, m_16⟩ =>
      finM m0.h.length (tupA [(.s s2), (.s s3), (.i .i64 x4)]) m_16))

theorem g33_ok {ro : List ABlk} {O : Caller} {M : Means} (hM : M.Ok ⟨F, O⟩ ro) {x0 h r} (ho : O 33 [(.i .i64 x0)] h = none) (hr : g33 M ro x0 ⟨h, h.length, h.length⟩ = some r) : callX ⟨F, O⟩ ro 33 [(.i .i64 x0)] h = some r := by
  refine callX_of (F := ⟨F, O⟩) (fn := fn33) (g := g33 M ro x0) ho rfl rfl hr ?_
  clear ho
  clear hr
  intro m0 t0 ht hr
  have g0 : t0.get 0 = (.i .i64 x0) := ht 0
  clear ht
  unfold g33 at hr
  refine w_seq ?_
  refine w_ops ?_
  refine wo_step (v := (AVal.s [])) (s_pure (p_mv rfl)) ?_
  refine wo_step (v := (AVal.s [])) (s_pure (p_mv rfl)) ?_
  refine wo_step (v := (.i .i64 0)) (s_pure (p_mv rfl)) ?_
  refine wo_nil ?_
  refine nx_norm ?_
  refine w_seq ?_
  refine w_seq ?_
  refine w_ops ?_
  refine wo_step (v := (.i .i64 x0)) (s_pure (p_mv g0)) ?_
  have hq := bindP_inv hr
  clear hr
  obtain ⟨v12, m_1, e12, hr⟩ := hq
  have hq := asB_inv hr
  clear hr
  obtain ⟨c12, rfl, hr⟩ := hq
  refine wo_step (v := (.b c12)) (s_call (mc rfl mn) (callM_le hM.call e12)) ?_
  have hq := forceB_inv hr
  clear hr
  obtain ⟨c13, e13, hr⟩ := hq
  refine wo_step (v := (.b c13)) (s_pure ((p_not rfl).trans (cb e13))) ?_
  refine wo_nil ?_
  refine nx_norm ?_
  have hq := cond_inv hr
  clear hr
  rcases hq with ⟨rfl, hr⟩ | ⟨rfl, hr⟩
  · refine w_condT rfl ?_
    refine w_seq ?_
    refine w_ops ?_
    refine wo_step (v := (AVal.s [])) (s_pure (p_mv rfl)) ?_
    refine wo_step (v := (AVal.s [])) (s_pure (p_mv rfl)) ?_
    refine wo_step (v := (.i .i64 2)) (s_pure (p_mv rfl)) ?_
    refine wo_nil ?_
    refine nx_norm ?_
    refine w_ret ?_
    refine nx_ret ?_
    exact qf ret_ok (rt rfl (rt rfl (rt rfl rn))) hr
  · refine w_condF rfl ?_
    refine w_skip ?_
    refine nx_norm ?_
    refine w_seq ?_
    refine w_seq ?_
    refine w_ops ?_
    refine wo_step (v := (.i .i64 x0)) (s_pure (p_mv g0)) ?_
    have hq := bindP_inv hr
    clear hr
    obtain ⟨v15, m_2, e15, hr⟩ := hq
    have hq := asB_inv hr
    clear hr
    obtain ⟨c15, rfl, hr⟩ := hq
    refine wo_step (v := (.b c15)) (s_call (mc rfl mn) (callM_le hM.call e15)) ?_
    refine wo_nil ?_
    refine nx_norm ?_
    have hq := cond_inv hr
    clear hr
    rcases hq with ⟨rfl, hr⟩ | ⟨rfl, hr⟩
    · refine w_condT rfl ?_
      refine w_seq ?_
      refine w_ops ?_
      refine wo_step (v := (AVal.s [])) (s_pure (p_mv rfl)) ?_
      refine wo_step (v := (AVal.s [])) (s_pure (p_mv rfl)) ?_
      refine wo_step (v := (.i .i64 10)) (s_pure (p_mv rfl)) ?_
      refine wo_nil ?_
      refine nx_norm ?_
      refine w_ret ?_
      refine nx_ret ?_
      exact qf ret_ok (rt rfl (rt rfl (rt rfl rn))) hr
    · refine w_condF rfl ?_
      refine w_skip ?_
      refine nx_norm ?_
      refine w_seq ?_
      refine w_ops ?_
      refine wo_step (v := (.i .i64 1)) (s_pure (p_mv rfl)) ?_
      refine wo_nil ?_
      refine nx_norm ?_
      refine w_block ?_
      have hq := bindO_inv hr
      clear hr
      obtain ⟨o_4, hl_1, hr⟩ := hq
      obtain ⟨n_1, hl_1⟩ := hM.loop _ _ _ hl_1
      refine jp_mono (w_loop _ (g33_I0 x0) (g33_J0 x0) ?_ n_1 _ _ _ _ hl_1 ⟨rfl, gl rfl, gl g0⟩) ?_
      · clear hr hl_1
        intro s mm_6 t_1 o hi hr
        obtain ⟨x5, m_3⟩ := s
        obtain ⟨rfl, g5, g0⟩ := hi
        unfold g33_b0 at hr
        refine w_seq ?_
        refine w_block ?_
        refine w_seq ?_
        refine w_ops ?_
        refine wo_step (v := (.i .i64 x5)) (s_pure (p_mv g5)) ?_
        have hq := chk_inv hr
        clear hr
        obtain ⟨hc19, hr⟩ := hq
        have hq := forceI_inv hr
        clear hr
        obtain ⟨x19, e19, hr⟩ := hq
        refine wo_step (v := (.i .i64 x19)) (s_pure (p_bin rfl rfl ((b_shl hc19).trans (ci e19)))) ?_
        have hq := bindP_inv hr
        clear hr
        obtain ⟨v20, m_4, e20, hr⟩ := hq
        refine wo_step (v := v20) (s_mk rfl rfl e20) ?_
        refine wo_step (v := v20) (s_pure (p_mv rfl)) ?_
        refine wo_nil ?_
        refine nx_norm ?_
        refine w_seq ?_
        refine w_ops ?_
        refine wo_step (v := (.i .i64 (-1))) (s_pure (p_mv rfl)) ?_
        refine wo_step (v := (.i .i64 (-1))) (s_pure (p_mv rfl)) ?_
        refine wo_nil ?_
        refine nx_norm ?_
        refine w_seq ?_
        refine w_seq ?_
        refine w_ops ?_
        refine wo_step (v := (.i .i64 0)) (s_pure (p_mv rfl)) ?_
        refine wo_nil ?_
        refine nx_norm ?_
        refine w_block ?_
        have hq := bindO_inv hr
        clear hr
        obtain ⟨o_3, hl, hr⟩ := hq
        obtain ⟨n, hl⟩ := hM.loop _ _ _ hl
        refine jp_mono (w_loop _ (g33_I1 x0 x5 v20) (g33_J1 x0 x5 v20) ?_ n _ _ _ _ hl ⟨rfl, gl rfl, gl rfl, gl rfl, gl g0, gl g5, gl rfl⟩) ?_
        · clear hr hl
          intro s mm_4 t_2 o hi hr
          obtain ⟨x7, x8, x9, m_5⟩ := s
          obtain ⟨rfl, g7, g8, g9, g0, g5, g6⟩ := hi
          unfold g33_b1 at hr
          refine w_seq ?_
          refine w_seq ?_
          refine w_ops ?_
          refine wo_step (v := (.i .i64 x9)) (s_pure (p_mv g9)) ?_
          refine wo_step (v := (.i .i64 x5)) (s_pure (p_mv g5)) ?_
          have hq := chk_inv hr
          clear hr
          obtain ⟨hc23, hr⟩ := hq
          have hq := forceI_inv hr
          clear hr
          obtain ⟨x23, e23, hr⟩ := hq
          refine wo_step (v := (.i .i64 x23)) (s_pure (p_bin rfl rfl ((b_shl hc23).trans (ci e23)))) ?_
          have hq := forceB_inv hr
          clear hr
          obtain ⟨c24, e24, hr⟩ := hq
          refine wo_step (v := (.b c24)) (s_pure (p_bin rfl rfl (b_lss.trans (cb e24)))) ?_
          refine wo_nil ?_
          refine nx_norm ?_
          have hq := cond_inv hr
          clear hr
          rcases hq with ⟨rfl, hr⟩ | ⟨rfl, hr⟩
          · refine w_condT rfl ?_
            refine w_skip ?_
            refine nx_norm ?_
            refine w_seq ?_
            refine w_block ?_
            refine w_seq ?_
            refine w_ops ?_
            refine wo_step (v := (.i .i64 x0)) (s_pure (p_mv g0)) ?_
            refine wo_step (v := (.i .i64 x9)) (s_pure (p_mv g9)) ?_
            refine wo_step (v := (.i .i64 x5)) (s_pure (p_mv g5)) ?_
            have hq := bindP_inv hr
            clear hr
            obtain ⟨v30, m_6, e30, hr⟩ := hq
            refine wo_step (v := v30) (s_call (mc rfl (mc rfl mn)) (callM_le hM.call e30)) ?_
            have hq := bindP_inv hr
            clear hr
            obtain ⟨v31, m_7, e31, hr⟩ := hq
            refine wo_step (v := v31) (s_call (mc rfl (mc rfl mn)) (callM_le hM.call e31)) ?_
            have hq := bindP_inv hr
            clear hr
            obtain ⟨v32, m_8, e32, hr⟩ := hq
            have hq := asI_inv hr
            clear hr
            obtain ⟨x32, rfl, hr⟩ := hq
            refine wo_step (v := (.i .i64 x32)) (s_call (mc rfl mn) (callM_le hM.call e32)) ?_
            refine wo_step (v := (.i .i64 x32)) (s_pure (p_mv rfl)) ?_
            refine wo_nil ?_
            refine nx_norm ?_
            refine w_seq ?_
            refine w_ops ?_
            refine wo_step (v := v20) (s_pure (p_mv g6)) ?_
            refine wo_step (v := (.i .i64 x32)) (s_pure (p_mv rfl)) ?_
            have hq := bindO_inv hr
            clear hr
            obtain ⟨v35, e35, hr⟩ := hq
            refine wo_step (v := v35) (s_pure (o_ixS rfl rfl e35)) ?_
            have hq := bindO_inv hr
            clear hr
            obtain ⟨v36, e36, hr⟩ := hq
            have hq := asI_inv hr
            clear hr
            obtain ⟨x36, rfl, hr⟩ := hq
            refine wo_step (v := (.i .i64 x36)) (s_ld rfl e36) ?_
            have hq := forceB_inv hr
            clear hr
            obtain ⟨c37, e37, hr⟩ := hq
            refine wo_step (v := (.b c37)) (s_pure (p_bin rfl rfl (b_eql.trans (cb e37)))) ?_
            refine wo_nil ?_
            refine nx_norm ?_
            have hq := bindO_inv hr
            clear hr
            obtain ⟨o, hr, hk⟩ := hq
            refine jp_mono (J := g33_J2 x0 x5 v20 x9 o) ?_ ?_
            · clear hk
              have hq := cond_inv hr
              clear hr
              rcases hq with ⟨rfl, hr⟩ | ⟨rfl, hr⟩
              · refine w_condT rfl ?_
                refine w_ops ?_
                refine wo_step (v := v20) (s_pure (p_mv g6)) ?_
                refine wo_step (v := (.i .i64 x32)) (s_pure (p_mv rfl)) ?_
                refine wo_step (v := (.i .i64 x9)) (s_pure (p_mv g9)) ?_
                have hq := forceI_inv hr
                clear hr
                obtain ⟨x41, e41, hr⟩ := hq
                refine wo_step (v := (.i .i64 x41)) (s_pure (p_bin rfl rfl (b_add.trans (ci e41)))) ?_
                have hq := bindO_inv hr
                clear hr
                obtain ⟨v42, e42, hr⟩ := hq
                refine wo_step (v := v42) (s_pure (o_ixS rfl rfl e42)) ?_
                have hq := bindP_inv hr
                clear hr
                obtain ⟨vn, m_9, en, hr⟩ := hq
                refine wo_stepN (s_st rfl rfl en) ?_
                refine wo_nil ?_
                cases hr
                exact ⟨_, _, rfl, rfl, rfl, gl g7, gl g8, gl g0, gl g5, gl g6, gl g9⟩
              · refine w_condF rfl ?_
                refine w_seq ?_
                refine w_ops ?_
                refine wo_step (v := (.i .i64 x7)) (s_pure (p_mv g7)) ?_
                have hq := forceB_inv hr
                clear hr
                obtain ⟨c44, e44, hr⟩ := hq
                refine wo_step (v := (.b c44)) (s_pure (p_bin rfl rfl (b_lss.trans (cb e44)))) ?_
                refine wo_step (v := (.b c44)) (s_pure (p_mv rfl)) ?_
                have hq := bindO_inv hr
                clear hr
                obtain ⟨o_1, hr, hk⟩ := hq
                refine wo_join 8 (g33_J3 x0 x5 v20 x7 x8 x9 x32 m_8 o_1) ?_ ?_
                · clear hk
                  have hq := cond_inv hr
                  clear hr
                  rcases hq with ⟨rfl, hr⟩ | ⟨rfl, hr⟩
                  · refine wo_skip (v := (.b true)) rfl rfl ?_
                    refine wo_skip (v := (.b true)) rfl rfl ?_
                    refine wo_skip (v := (.b true)) rfl rfl ?_
                    refine wo_skip (v := (.b true)) rfl rfl ?_
                    refine wo_skip (v := (.b true)) rfl rfl ?_
                    refine wo_skip (v := (.b true)) rfl rfl ?_
                    refine wo_skip (v := (.b true)) rfl rfl ?_
                    refine wo_step (v := (.b true)) (s_pure (p_pickT rfl rfl)) ?_
                    refine wo_nil ?_
                    cases hr
                    exact ⟨_, _, rfl, rfl, gl rfl, gl g0, gl g5, gl g6, gl g7, gl g8, gl g9, gl rfl⟩
                  · refine wo_take (v := v20) rfl (s_pure (p_mv g6)) ?_
                    refine wo_take (v := (.i .i64 x32)) rfl (s_pure (p_mv rfl)) ?_
                    have hq := bindO_inv hr
                    clear hr
                    obtain ⟨v48, e48, hr⟩ := hq
                    refine wo_take (v := v48) rfl (s_pure (o_ixS rfl rfl e48)) ?_
                    have hq := bindO_inv hr
                    clear hr
                    obtain ⟨v49, e49, hr⟩ := hq
                    have hq := asI_inv hr
                    clear hr
                    obtain ⟨x49, rfl, hr⟩ := hq
                    refine wo_take (v := (.i .i64 x49)) rfl (s_ld rfl e49) ?_
                    have hq := forceI_inv hr
                    clear hr
                    obtain ⟨x50, e50, hr⟩ := hq
                    refine wo_take (v := (.i .i64 x50)) rfl (s_pure (p_bin rfl rfl (b_sub.trans (ci e50)))) ?_
                    refine wo_take (v := (.i .i64 x7)) rfl (s_pure (p_mv g7)) ?_
                    have hq := forceB_inv hr
                    clear hr
                    obtain ⟨c52, e52, hr⟩ := hq
                    refine wo_take (v := (.b c52)) rfl (s_pure (p_bin rfl rfl (b_lss.trans (cb e52)))) ?_
                    refine wo_step (v := (.b c52)) (s_pure (p_pickF rfl rfl)) ?_
                    refine wo_nil ?_
                    cases hr
                    exact ⟨_, _, rfl, rfl, gl rfl, gl g0, gl g5, gl g6, gl g7, gl g8, gl g9, gl rfl⟩
                · clear hr
                  have hr := hk
                  clear hk
                  obtain ⟨c53, ho⟩ : ∃ z, z = o_1 := ⟨_, rfl⟩
                  subst ho
                  rintro mm t_3 ⟨rfl, g53, g0, g5, g6, g7, g8, g9, g10⟩
                  refine wo_nil ?_
                  refine nx_norm ?_
                  have hq := bindO_inv hr
                  clear hr
                  obtain ⟨o_2, hr, hk⟩ := hq
                  refine jp_mono (J := g33_J4 x0 x5 v20 x9 m_8 o_2) ?_ ?_
                  · clear hk
                    have hq := cond_inv hr
                    clear hr
                    rcases hq with ⟨rfl, hr⟩ | ⟨rfl, hr⟩
                    · refine w_condT g53 ?_
                      refine w_seq ?_
                      refine w_ops ?_
                      refine wo_step (v := v20) (s_pure (p_mv g6)) ?_
                      refine wo_step (v := (.i .i64 x32)) (s_pure (p_mv g10)) ?_
                      have hq := bindO_inv hr
                      clear hr
                      obtain ⟨v56, e56, hr⟩ := hq
                      refine wo_step (v := v56) (s_pure (o_ixS rfl rfl e56)) ?_
                      have hq := bindO_inv hr
                      clear hr
                      obtain ⟨v57, e57, hr⟩ := hq
                      have hq := asI_inv hr
                      clear hr
                      obtain ⟨x57, rfl, hr⟩ := hq
                      refine wo_step (v := (.i .i64 x57)) (s_ld rfl e57) ?_
                      have hq := forceI_inv hr
                      clear hr
                      obtain ⟨x58, e58, hr⟩ := hq
                      refine wo_step (v := (.i .i64 x58)) (s_pure (p_bin rfl rfl (b_sub.trans (ci e58)))) ?_
                      refine wo_step (v := (.i .i64 x58)) (s_pure (p_mv rfl)) ?_
                      refine wo_nil ?_
                      refine nx_norm ?_
                      refine w_ops ?_
                      refine wo_step (v := (.i .i64 x9)) (s_pure (p_mv g9)) ?_
                      refine wo_step (v := (.i .i64 x9)) (s_pure (p_mv rfl)) ?_
                      refine wo_nil ?_
                      cases hr
                      exact ⟨_, _, rfl, rfl, rfl, gl rfl, gl rfl, gl g0, gl g5, gl g6, gl g9⟩
                    · refine w_condF g53 ?_
                      refine w_skip ?_
                      cases hr
                      exact ⟨_, _, rfl, rfl, rfl, gl g7, gl g8, gl g0, gl g5, gl g6, gl g9⟩
                  · have hr := hk
                    clear hk
                    obtain ⟨x7_1, x8_1⟩ := o_2
                    rintro _ mm_1 t_4 ⟨rfl, rfl, g7, g8, g0, g5, g6, g9⟩
                    cases hr
                    exact ⟨_, _, rfl, rfl, rfl, gl g7, gl g8, gl g0, gl g5, gl g6, gl g9⟩
            · have hr := hk
              clear hk
              obtain ⟨x7_2, x8_2, m_10⟩ := o
              rintro _ mm_2 t_5 ⟨rfl, rfl, g7, g8, g0, g5, g6, g9⟩
              refine bk_norm ?_
              refine nx_norm ?_
              refine w_ops ?_
              refine wo_step (v := (.i .i64 x9)) (s_pure (p_mv g9)) ?_
              have hq := forceI_inv hr
              clear hr
              obtain ⟨x26, e26, hr⟩ := hq
              refine wo_step (v := (.i .i64 x26)) (s_pure (p_bin rfl rfl (b_add.trans (ci e26)))) ?_
              refine wo_step (v := (.i .i64 x26)) (s_pure (p_mv rfl)) ?_
              refine wo_nil ?_
              cases hr
              exact ⟨_, _, rfl, rfl, rfl, gl g7, gl g8, gl rfl, gl g0, gl g5, gl g6⟩
          · refine w_condF rfl ?_
            refine w_exit ?_
            refine nx_exit ?_
            cases hr
            exact ⟨_, _, rfl, ne_norm_exit, rfl, rfl, gl g7, gl g8, gl g0, gl g5⟩
        · obtain ⟨x7_3, x8_3, m_11⟩ := o_3
          rintro _ mm_3 t_6 ⟨rfl, rfl, g7, g8, g0, g5⟩
          refine bk_hit ?_
          refine nx_norm ?_
          refine w_seq ?_
          refine w_ops ?_
          refine wo_step (v := (.i .i64 x7_3)) (s_pure (p_mv g7)) ?_
          have hq := forceB_inv hr
          clear hr
          obtain ⟨c61, e61, hr⟩ := hq
          refine wo_step (v := (.b c61)) (s_pure (p_bin rfl rfl (b_geq.trans (cb e61)))) ?_
          refine wo_nil ?_
          refine nx_norm ?_
          have hq := cond_inv hr
          clear hr
          rcases hq with ⟨rfl, hr⟩ | ⟨rfl, hr⟩
          · refine w_condT rfl ?_
            refine w_seq ?_
            refine w_ops ?_
            refine wo_step (v := (.i .i64 x7_3)) (s_pure (p_mv g7)) ?_
            refine wo_step (v := (.i .i64 x5)) (s_pure (p_mv g5)) ?_
            have hq := bindP_inv hr
            clear hr
            obtain ⟨v64, m_12, e64, hr⟩ := hq
            refine wo_step (v := v64) (s_call (mc rfl (mc rfl mn)) (callM_le hM.call e64)) ?_
            have hq := bindP_inv hr
            clear hr
            obtain ⟨v65, m_13, e65, hr⟩ := hq
            have hq := asS_inv hr
            clear hr
            obtain ⟨s65, rfl, hr⟩ := hq
            refine wo_step (v := (.s s65)) (s_call (mc rfl mn) (callM_le hM.call e65)) ?_
            refine wo_step (v := (.i .i64 x8_3)) (s_pure (p_mv g8)) ?_
            refine wo_step (v := (.i .i64 x5)) (s_pure (p_mv g5)) ?_
            have hq := bindP_inv hr
            clear hr
            obtain ⟨v68, m_14, e68, hr⟩ := hq
            refine wo_step (v := v68) (s_call (mc rfl (mc rfl mn)) (callM_le hM.call e68)) ?_
            have hq := bindP_inv hr
            clear hr
            obtain ⟨v69, m_15, e69, hr⟩ := hq
            have hq := asS_inv hr
            clear hr
            obtain ⟨s69, rfl, hr⟩ := hq
            refine wo_step (v := (.s s69)) (s_call (mc rfl mn) (callM_le hM.call e69)) ?_
            refine wo_step (v := (.s s65)) (s_pure (p_mv rfl)) ?_
            refine wo_step (v := (.s s69)) (s_pure (p_mv rfl)) ?_
            refine wo_step (v := (.i .i64 0)) (s_pure (p_mv rfl)) ?_
            refine wo_nil ?_
            refine nx_norm ?_
            refine w_ret ?_
            refine bk_ret ?_
            refine nx_ret ?_
            cases hr
            exact ⟨_, _, rfl, ne_norm_ret, rfl, rfl, gl rfl, gl rfl, gl rfl⟩
          · refine w_condF rfl ?_
            refine w_skip ?_
            refine bk_norm ?_
            refine nx_norm ?_
            refine w_ops ?_
            refine wo_step (v := (.i .i64 x5)) (s_pure (p_mv g5)) ?_
            have hq := forceI_inv hr
            clear hr
            obtain ⟨x17, e17, hr⟩ := hq
            refine wo_step (v := (.i .i64 x17)) (s_pure (p_bin rfl rfl (b_add.trans (ci e17)))) ?_
            refine wo_step (v := (.i .i64 x17)) (s_pure (p_mv rfl)) ?_
            refine wo_nil ?_
            cases hr
            exact ⟨_, _, rfl, rfl, rfl, gl rfl, gl g0⟩
      · obtain ⟨s2, s3, x4, m_16⟩ := o_4
        rintro _ mm_5 t_7 ⟨rfl, rfl, g2, g3, g4⟩
        refine bk_ret ?_
        exact qf ret_ok (rt g2 (rt g3 (rt g4 rn))) hr

/- dibber/weed.Mirror -/

def g36 (M : Means) (ro : List ABlk) (x0 : Int) (m0 : Mm) : Option (AVal × Heap × Nat × Nat) :=
  bindP (callM M.call m0 61 [(.i .i64 x0)]) fun v11 m_1 =>
  bindO (evP .e (.ext 0 (.c v11))) fun v12 =>
  asI .u8 v12 fun x12 =>
  bindO (evP .e (.ext 1 (.c v11))) fun v13 =>
  asI .i64 v13 fun x13 =>
  forceB (!eqI x13 0) fun c15 =>
  cond c15 (
    finM m0.h.length (tupA [(.i .i64 0), (.i .i64 0), (.i .i64 x13)]) m_1) (
    bindP (callM M.call m_1 69 [(.i .u8 x12)]) fun v19 m_2 =>
    bindO (evP .e (.ext 0 (.c v19))) fun v20 =>
    asI .u8 v20 fun x20 =>
    bindO (evP .e (.ext 1 (.c v19))) fun v21 =>
    asI .u8 v21 fun x21 =>
    forceI (wr .i64 x20) fun x23 =>
    forceI (wr .i64 x21) fun x25 =>
    finM m0.h.length (tupA [(.i .i64 x23), (.i .i64 x25), (.i .i64 0)]) m_2)

theorem g36_ok {ro : List ABlk} {O : Caller} {M : Means} (hM : M.Ok ⟨F, O⟩ ro) {x0 h r} (ho : O 36 [(.i .i64 x0)] h = none) (hr : g36 M ro x0 ⟨h, h.length, h.length⟩ = some r) : callX ⟨F, O⟩ ro 36 [(.i .i64 x0)] h = some r := by
  refine callX_of (F := ⟨F, O⟩) (fn := fn36) (g := g36 M ro x0) ho rfl rfl hr ?_
  clear ho
  clear hr
  intro m0 t0 ht hr
  have g0 : t0.get 0 = (.i .i64 x0) := ht 0
  clear ht
  unfold g36 at hr
  refine w_seq ?_
  refine w_ops ?_
  refine wo_step (v := (.i .i64 0)) (s_pure (p_mv rfl)) ?_
  refine wo_step (v := (.i .i64 0)) (s_pure (p_mv rfl)) ?_
  refine wo_step (v := (.i .i64 0)) (s_pure (p_mv rfl)) ?_
  refine wo_nil ?_
  refine nx_norm ?_
  refine w_seq ?_
  refine w_ops ?_
  refine wo_step (v := (.i .i64 x0)) (s_pure (p_mv g0)) ?_
  have hq := bindP_inv hr
  clear hr
  obtain ⟨v11, m_1, e11, hr⟩ := hq
  refine wo_step (v := v11) (s_call (mc rfl mn) (callM_le hM.call e11)) ?_
  refine wo_step (v := v11) (s_pure (p_mv rfl)) ?_
  have hq := bindO_inv hr
  clear hr
  obtain ⟨v12, e12, hr⟩ := hq
  have hq := asI_inv hr
  clear hr
  obtain ⟨x12, rfl, hr⟩ := hq
  refine wo_step (v := (.i .u8 x12)) (s_pure (o_ext rfl e12)) ?_
  have hq := bindO_inv hr
  clear hr
  obtain ⟨v13, e13, hr⟩ := hq
  have hq := asI_inv hr
  clear hr
  obtain ⟨x13, rfl, hr⟩ := hq
  refine wo_step (v := (.i .i64 x13)) (s_pure (o_ext rfl e13)) ?_
  refine wo_step (v := (.i .u8 x12)) (s_pure (p_mv rfl)) ?_
  refine wo_step (v := (.i .i64 x13)) (s_pure (p_mv rfl)) ?_
  refine wo_nil ?_
  refine nx_norm ?_
  refine w_seq ?_
  refine w_seq ?_
  refine w_ops ?_
  refine wo_step (v := (.i .i64 x13)) (s_pure (p_mv rfl)) ?_
  have hq := forceB_inv hr
  clear hr
  obtain ⟨c15, e15, hr⟩ := hq
  refine wo_step (v := (.b c15)) (s_pure (p_bin rfl rfl (b_neq.trans (cb e15)))) ?_
  refine wo_nil ?_
  refine nx_norm ?_
  have hq := cond_inv hr
  clear hr
  rcases hq with ⟨rfl, hr⟩ | ⟨rfl, hr⟩
  · refine w_condT rfl ?_
    refine w_seq ?_
    refine w_ops ?_
    refine wo_step (v := (.i .i64 x13)) (s_pure (p_mv rfl)) ?_
    refine wo_step (v := (.i .i64 0)) (s_pure (p_mv rfl)) ?_
    refine wo_step (v := (.i .i64 0)) (s_pure (p_mv rfl)) ?_
    refine wo_step (v := (.i .i64 x13)) (s_pure (p_mv rfl)) ?_
    refine wo_nil ?_
    refine nx_norm ?_
    refine w_ret ?_
    refine nx_ret ?_
    exact qf ret_ok (rt rfl (rt rfl (rt rfl rn))) hr
  · refine w_condF rfl ?_
    refine w_skip ?_
    refine nx_norm ?_
    refine w_seq ?_
    refine w_ops ?_
    refine wo_step (v := (.i .u8 x12)) (s_pure (p_mv rfl)) ?_
    have hq := bindP_inv hr
    clear hr
    obtain ⟨v19, m_2, e19, hr⟩ := hq
    refine wo_step (v := v19) (s_call (mc rfl mn) (callM_le hM.call e19)) ?_
    refine wo_step (v := v19) (s_pure (p_mv rfl)) ?_
    have hq := bindO_inv hr
    clear hr
    obtain ⟨v20, e20, hr⟩ := hq
    have hq := asI_inv hr
    clear hr
    obtain ⟨x20, rfl, hr⟩ := hq
    refine wo_step (v := (.i .u8 x20)) (s_pure (o_ext rfl e20)) ?_
    have hq := bindO_inv hr
    clear hr
    obtain ⟨v21, e21, hr⟩ := hq
    have hq := asI_inv hr
    clear hr
    obtain ⟨x21, rfl, hr⟩ := hq
    refine wo_step (v := (.i .u8 x21)) (s_pure (o_ext rfl e21)) ?_
    refine wo_step (v := (.i .u8 x20)) (s_pure (p_mv rfl)) ?_
    refine wo_step (v := (.i .u8 x21)) (s_pure (p_mv rfl)) ?_
    refine wo_nil ?_
    refine nx_norm ?_
    refine w_seq ?_
    refine w_ops ?_
    refine wo_step (v := (.i .u8 x20)) (s_pure (p_mv rfl)) ?_
    have hq := forceI_inv hr
    clear hr
    obtain ⟨x23, e23, hr⟩ := hq
    refine wo_step (v := (.i .i64 x23)) (s_pure ((p_conv rfl).trans (ci e23))) ?_
    refine wo_step (v := (.i .u8 x21)) (s_pure (p_mv rfl)) ?_
    have hq := forceI_inv hr
    clear hr
    obtain ⟨x25, e25, hr⟩ := hq
    refine wo_step (v := (.i .i64 x25)) (s_pure ((p_conv rfl).trans (ci e25))) ?_
    refine wo_step (v := (.i .i64 x23)) (s_pure (p_mv rfl)) ?_
    refine wo_step (v := (.i .i64 x25)) (s_pure (p_mv rfl)) ?_
    refine wo_step (v := (.i .i64 0)) (s_pure (p_mv rfl)) ?_
    refine wo_nil ?_
    refine nx_norm ?_
    refine w_ret ?_
    exact qf ret_ok (rt rfl (rt rfl (rt rfl rn))) hr

/- dibber/weed.Additive -/

def g38 (M : Means) (ro : List ABlk) (x0 : Int) (m0 : Mm) : Option (AVal × Heap × Nat × Nat) :=
  bindP (callM M.call m0 61 [(.i .i64 x0)]) fun v8 m_1 =>
  bindO (evP .e (.ext 0 (.c v8))) fun v9 =>
  asI .u8 v9 fun x9 =>
  bindO (evP .e (.ext 1 (.c v8))) fun v10 =>
  asI .i64 v10 fun x10 =>
  forceB (!eqI x10 0) fun c12 =>
  cond c12 (
    finM m0.h.length (tupA [(.b false), (.i .i64 x10)]) m_1) (
    bindP (callM M.call m_1 70 [(.i .u8 x9)]) fun v15 m_2 =>
    asB v15 fun c15 =>
    finM m0.h.length (tupA [(.b c15), (.i .i64 0)]) m_2)

theorem g38_ok {ro : List ABlk} {O : Caller} {M : Means} (hM : M.Ok ⟨F, O⟩ ro) {x0 h r} (ho : O 38 [(.i .i64 x0)] h = none) (hr : g38 M ro x0 ⟨h, h.length, h.length⟩ = some r) : callX ⟨F, O⟩ ro 38 [(.i .i64 x0)] h = some r := by
  refine callX_of (F := ⟨F, O⟩) (fn := fn38) (g := g38 M ro x0) ho rfl rfl hr ?_
  clear ho
  clear hr
  intro m0 t0 ht hr
  have g0 : t0.get 0 = (.i .i64 x0) := ht 0
  clear ht
  unfold g38 at hr
  refine w_seq ?_
  refine w_ops ?_
  refine wo_step (v := (.b false)) (s_pure (p_mv rfl)) ?_
  refine wo_step (v := (.i .i64 0)) (s_pure (p_mv rfl)) ?_
  refine wo_nil ?_
  refine nx_norm ?_
  refine w_seq ?_
  refine w_ops ?_
  refine wo_step (v := (.i .i64 x0)) (s_pure (p_mv g0)) ?_
  have hq := bindP_inv hr
  clear hr
  obtain ⟨v8, m_1, e8, hr⟩ := hq
  refine wo_step (v := v8) (s_call (mc rfl mn) (callM_le hM.call e8)) ?_
  refine wo_step (v := v8) (s_pure (p_mv rfl)) ?_
  have hq := bindO_inv hr
  clear hr
  obtain ⟨v9, e9, hr⟩ := hq
  have hq := asI_inv hr
  clear hr
  obtain ⟨x9, rfl, hr⟩ := hq
  refine wo_step (v := (.i .u8 x9)) (s_pure (o_ext rfl e9)) ?_
  have hq := bindO_inv hr
  clear hr
  obtain ⟨v10, e10, hr⟩ := hq
  have hq := asI_inv hr
  clear hr
  obtain ⟨x10, rfl, hr⟩ := hq
  refine wo_step (v := (.i .i64 x10)) (s_pure (o_ext rfl e10)) ?_
  refine wo_step (v := (.i .u8 x9)) (s_pure (p_mv rfl)) ?_
  refine wo_step (v := (.i .i64 x10)) (s_pure (p_mv rfl)) ?_
  refine wo_nil ?_
  refine nx_norm ?_
  refine w_seq ?_
  refine w_seq ?_
  refine w_ops ?_
  refine wo_step (v := (.i .i64 x10)) (s_pure (p_mv rfl)) ?_
  have hq := forceB_inv hr
  clear hr
  obtain ⟨c12, e12, hr⟩ := hq
  refine wo_step (v := (.b c12)) (s_pure (p_bin rfl rfl (b_neq.trans (cb e12)))) ?_
  refine wo_nil ?_
  refine nx_norm ?_
  have hq := cond_inv hr
  clear hr
  rcases hq with ⟨rfl, hr⟩ | ⟨rfl, hr⟩
  · refine w_condT rfl ?_
    refine w_seq ?_
    refine w_ops ?_
    refine wo_step (v := (.i .i64 x10)) (s_pure (p_mv rfl)) ?_
    refine wo_step (v := (.b false)) (s_pure (p_mv rfl)) ?_
    refine wo_step (v := (.i .i64 x10)) (s_pure (p_mv rfl)) ?_
    refine wo_nil ?_
    refine nx_norm ?_
    refine w_ret ?_
    refine nx_ret ?_
    exact qf ret_ok (rt rfl (rt rfl rn)) hr
  · refine w_condF rfl ?_
    refine w_skip ?_
    refine nx_norm ?_
    refine w_seq ?_
    refine w_ops ?_
    refine wo_step (v := (.i .u8 x9)) (s_pure (p_mv rfl)) ?_
    have hq := bindP_inv hr
    clear hr
    obtain ⟨v15, m_2, e15, hr⟩ := hq
    have hq := asB_inv hr
    clear hr
    obtain ⟨c15, rfl, hr⟩ := hq
    refine wo_step (v := (.b c15)) (s_call (mc rfl mn) (callM_le hM.call e15)) ?_
    refine wo_step (v := (.b c15)) (s_pure (p_mv rfl)) ?_
    refine wo_step (v := (.i .i64 0)) (s_pure (p_mv rfl)) ?_
    refine wo_nil ?_
    refine nx_norm ?_
    refine w_ret ?_
    exact qf ret_ok (rt rfl (rt rfl rn)) hr

/- dibber/dibberlaw02.reversed -/
abbrev g41_I0 (s0 : List UInt8) (v7 : AVal) (s : Int × Mm) (m1 : Mm) (t1 : Tr) : Prop :=
  match s with
  | (x4, m_2) => m_2 = m1 ∧ t1.get 4 = (.i .i64 x4) ∧ t1.get 0 = (.s s0) ∧ t1.get 3 = v7
abbrev g41_J0 (s0 : List UInt8) (v7 : AVal) (o : Mm) (e : AExit) (m1 : Mm) (t1 : Tr) : Prop :=
  match o with
  | mo => e = (.exit 0) ∧ mo = m1 ∧ t1.get 3 = v7
def g41_b0 (M : Means) (ro : List ABlk) (s0 : List UInt8) (v7 : AVal) (x4 : Int) (m_2 : Mm) : Option ((Int × Mm) ⊕ (Mm)) :=
  bindO (evP .e (.len true (.c (.s s0)))) fun v10 =>
  asI .i64 v10 fun x10 =>
  forceB (ltI x4 x10) fun c11 =>
  cond c11 (
    bindO (evP .e (.len true (.c (.s s0)))) fun v16 =>
    asI .i64 v16 fun x16 =>
    forceI (wr .i64 (x16 - 1)) fun x17 =>
    forceI (wr .i64 (x17 - x4)) fun x19 =>
    bindO (evP .e (.ixStr (.c (.s s0)) (.c (.i .i64 x4)))) fun v22 =>
    asI .u8 v22 fun x22 =>
    bindO (evP .e (.ixS 1 (.c v7) (.c (.i .i64 x19)))) fun v23 =>
    bindP (stepM ro m_2 (.st 1 (.c v23) (.c (.i .u8 x22)))) fun vn m_3 =>
    forceI (wr .i64 (x4 + 1)) fun x13 =>
    some (.inl (x13, m_3))) (
    some (.inr m_2))
def g41 (M : Means) (ro : List ABlk) (s0 : List UInt8) (m0 : Mm) : Option (AVal × Heap × Nat × Nat) :=
  bindO (evP .e (.len true (.c (.s s0)))) fun v6 =>
  asI .i64 v6 fun x6 =>
  bindP (stepM ro m0 (.mk 5 1 1 [(AVal.i IntKind.u8 0)] (.c (.i .i64 x6)) (.c (.i .i64 x6)))) fun v7 m_1 =>
  bindO (M.loop (S := Int × Mm) (R := Mm) (fun s => g41_b0 M ro s0 v7 s.1 s.2) (0, m_1)) fun m_4 =>
  bindO (btsM ro m_4 v7) fun v25 =>
  asS v25 fun s25 =>
  finM m0.h.length (tupA [(.s s25)]) m_4

theorem g41_ok {ro : List ABlk} {O : Caller} {M : Means} (hM : M.Ok ⟨F, O⟩ ro) {s0 h r} (ho : O 41 [(.s s0)] h = none) (hr : g41 M ro s0 ⟨h, h.length, h.length⟩ = some r) : callX ⟨F, O⟩ ro 41 [(.s s0)] h = some r := by
  refine callX_of (F := ⟨F, O⟩) (fn := fn41) (g := g41 M ro s0) ho rfl rfl hr ?_
  clear ho
  clear hr
  intro m0 t0 ht hr
  have g0 : t0.get 0 = (.s s0) := ht 0
  clear ht
  unfold g41 at hr
  refine w_seq ?_
  refine w_ops ?_
  refine wo_step (v := (AVal.s [])) (s_pure (p_mv rfl)) ?_
  refine wo_nil ?_
  refine nx_norm ?_
  refine w_seq ?_
  refine w_ops ?_
  refine wo_step (v := (.s s0)) (s_pure (p_mv g0)) ?_
  have hq := bindO_inv hr
  clear hr
  obtain ⟨v6, e6, hr⟩ := hq
  have hq := asI_inv hr
  clear hr
  obtain ⟨x6, rfl, hr⟩ := hq
  refine wo_step (v := (.i .i64 x6)) (s_pure (o_len rfl e6)) ?_
  have hq := bindP_inv hr
  clear hr
  obtain ⟨v7, m_1, e7, hr⟩ := hq
  refine wo_step (v := v7) (s_mk rfl rfl e7) ?_
  refine wo_step (v := v7) (s_pure (p_mv rfl)) ?_
  refine wo_nil ?_
  refine nx_norm ?_
  refine w_seq ?_
  refine w_seq ?_
  refine w_ops ?_
  refine wo_step (v := (.i .i64 0)) (s_pure (p_mv rfl)) ?_
  refine wo_nil ?_
  refine nx_norm ?_
  refine w_block ?_
  have hq := bindO_inv hr
  clear hr
  obtain ⟨o, hl, hr⟩ := hq
  obtain ⟨n, hl⟩ := hM.loop _ _ _ hl
  refine jp_mono (w_loop _ (g41_I0 s0 v7) (g41_J0 s0 v7) ?_ n _ _ _ _ hl ⟨rfl, gl rfl, gl g0, gl rfl⟩) ?_
  · clear hr hl
    intro s mm_1 t_1 o hi hr
    obtain ⟨x4, m_2⟩ := s
    obtain ⟨rfl, g4, g0, g3⟩ := hi
    unfold g41_b0 at hr
    refine w_seq ?_
    refine w_seq ?_
    refine w_ops ?_
    refine wo_step (v := (.i .i64 x4)) (s_pure (p_mv g4)) ?_
    refine wo_step (v := (.s s0)) (s_pure (p_mv g0)) ?_
    have hq := bindO_inv hr
    clear hr
    obtain ⟨v10, e10, hr⟩ := hq
    have hq := asI_inv hr
    clear hr
    obtain ⟨x10, rfl, hr⟩ := hq
    refine wo_step (v := (.i .i64 x10)) (s_pure (o_len rfl e10)) ?_
    have hq := forceB_inv hr
    clear hr
    obtain ⟨c11, e11, hr⟩ := hq
    refine wo_step (v := (.b c11)) (s_pure (p_bin rfl rfl (b_lss.trans (cb e11)))) ?_
    refine wo_nil ?_
    refine nx_norm ?_
    have hq := cond_inv hr
    clear hr
    rcases hq with ⟨rfl, hr⟩ | ⟨rfl, hr⟩
    · refine w_condT rfl ?_
      refine w_skip ?_
      refine nx_norm ?_
      refine w_seq ?_
      refine w_block ?_
      refine w_ops ?_
      refine wo_step (v := v7) (s_pure (p_mv g3)) ?_
      refine wo_step (v := (.s s0)) (s_pure (p_mv g0)) ?_
      have hq := bindO_inv hr
      clear hr
      obtain ⟨v16, e16, hr⟩ := hq
      have hq := asI_inv hr
      clear hr
      obtain ⟨x16, rfl, hr⟩ := hq
      refine wo_step (v := (.i .i64 x16)) (s_pure (o_len rfl e16)) ?_
      have hq := forceI_inv hr
      clear hr
      obtain ⟨x17, e17, hr⟩ := hq
      refine wo_step (v := (.i .i64 x17)) (s_pure (p_bin rfl rfl (b_sub.trans (ci e17)))) ?_
      refine wo_step (v := (.i .i64 x4)) (s_pure (p_mv g4)) ?_
      have hq := forceI_inv hr
      clear hr
      obtain ⟨x19, e19, hr⟩ := hq
      refine wo_step (v := (.i .i64 x19)) (s_pure (p_bin rfl rfl (b_sub.trans (ci e19)))) ?_
      refine wo_step (v := (.s s0)) (s_pure (p_mv g0)) ?_
      refine wo_step (v := (.i .i64 x4)) (s_pure (p_mv g4)) ?_
      have hq := bindO_inv hr
      clear hr
      obtain ⟨v22, e22, hr⟩ := hq
      have hq := asI_inv hr
      clear hr
      obtain ⟨x22, rfl, hr⟩ := hq
      refine wo_step (v := (.i .u8 x22)) (s_pure (o_ixStr rfl rfl e22)) ?_
      have hq := bindO_inv hr
      clear hr
      obtain ⟨v23, e23, hr⟩ := hq
      refine wo_step (v := v23) (s_pure (o_ixS rfl rfl e23)) ?_
      have hq := bindP_inv hr
      clear hr
      obtain ⟨vn, m_3, en, hr⟩ := hq
      refine wo_stepN (s_st rfl rfl en) ?_
      refine wo_nil ?_
      refine bk_norm ?_
      refine nx_norm ?_
      refine w_ops ?_
      refine wo_step (v := (.i .i64 x4)) (s_pure (p_mv g4)) ?_
      have hq := forceI_inv hr
      clear hr
      obtain ⟨x13, e13, hr⟩ := hq
      refine wo_step (v := (.i .i64 x13)) (s_pure (p_bin rfl rfl (b_add.trans (ci e13)))) ?_
      refine wo_step (v := (.i .i64 x13)) (s_pure (p_mv rfl)) ?_
      refine wo_nil ?_
      cases hr
      exact ⟨_, _, rfl, rfl, rfl, gl rfl, gl g0, gl g3⟩
    · refine w_condF rfl ?_
      refine w_exit ?_
      refine nx_exit ?_
      cases hr
      exact ⟨_, _, rfl, ne_norm_exit, rfl, rfl, gl g3⟩
  · obtain ⟨m_4, ho⟩ : ∃ z, z = o := ⟨_, rfl⟩
    subst ho
    rintro _ mm t_2 ⟨rfl, rfl, g3⟩
    refine bk_hit ?_
    refine nx_norm ?_
    refine w_seq ?_
    refine w_ops ?_
    refine wo_step (v := v7) (s_pure (p_mv g3)) ?_
    have hq := bindO_inv hr
    clear hr
    obtain ⟨v25, e25, hr⟩ := hq
    have hq := asS_inv hr
    clear hr
    obtain ⟨s25, rfl, hr⟩ := hq
    refine wo_step (v := (.s s25)) (s_bts rfl e25) ?_
    refine wo_step (v := (.s s25)) (s_pure (p_mv rfl)) ?_
    refine wo_nil ?_
    refine nx_norm ?_
    refine w_ret ?_
    exact qf ret_ok (rt rfl rn) hr

/- dibber/dibberlaw02.other -/
abbrev g42_I0 (s0 : List UInt8) (v7 : AVal) (s : Int × Mm) (m1 : Mm) (t1 : Tr) : Prop :=
  match s with
  | (x4, m_2) => m_2 = m1 ∧ t1.get 4 = (.i .i64 x4) ∧ t1.get 0 = (.s s0) ∧ t1.get 3 = v7
abbrev g42_J0 (s0 : List UInt8) (v7 : AVal) (o : Mm) (e : AExit) (m1 : Mm) (t1 : Tr) : Prop :=
  match o with
  | mo => e = (.exit 0) ∧ mo = m1 ∧ t1.get 3 = v7
def g42_b0 (M : Means) (ro : List ABlk) (s0 : List UInt8) (v7 : AVal) (x4 : Int) (m_2 : Mm) : Option ((Int × Mm) ⊕ (Mm)) :=
  bindO (evP .e (.len true (.c (.s s0)))) fun v10 =>
  asI .i64 v10 fun x10 =>
  forceB (ltI x4 x10) fun c11 =>
  cond c11 (
    bindO (evP .e (.ixStr (.c (.s s0)) (.c (.i .i64 x4)))) fun v18 =>
    asI .u8 v18 fun x18 =>
    forceI (wr .u8 (97 - x18)) fun x19 =>
    bindO (evP .e (.ixS 1 (.c v7) (.c (.i .i64 x4)))) fun v20 =>
    bindP (stepM ro m_2 (.st 1 (.c v20) (.c (.i .u8 x19)))) fun vn m_3 =>
    forceI (wr .i64 (x4 + 1)) fun x13 =>
    some (.inl (x13, m_3))) (
    some (.inr m_2))
def g42 (M : Means) (ro : List ABlk) (s0 : List UInt8) (m0 : Mm) : Option (AVal × Heap × Nat × Nat) :=
  bindO (evP .e (.len true (.c (.s s0)))) fun v6 =>
  asI .i64 v6 fun x6 =>
  bindP (stepM ro m0 (.mk 5 1 1 [(AVal.i IntKind.u8 0)] (.c (.i .i64 x6)) (.c (.i .i64 x6)))) fun v7 m_1 =>
  bindO (M.loop (S := Int × Mm) (R := Mm) (fun s => g42_b0 M ro s0 v7 s.1 s.2) (0, m_1)) fun m_4 =>
  bindO (btsM ro m_4 v7) fun v22 =>
  asS v22 fun s22 =>
  finM m0.h.length (tupA [(.s s22)]) m_4

theorem g42_ok {ro : List ABlk} {O : Caller} {M : Means} (hM : M.Ok ⟨F, O⟩ ro) {s0 h r} (ho : O 42 [(.s s0)] h = none) (hr : g42 M ro s0 ⟨h, h.length, h.length⟩ = some r) : callX ⟨F, O⟩ ro 42 [(.s s0)] h = some r := by
  refine callX_of (F := ⟨F, O⟩) (fn := fn42) (g := g42 M ro s0) ho rfl rfl hr ?_
  clear ho
  clear hr
  intro m0 t0 ht hr
  have g0 : t0.get 0 = (.s s0) := ht 0
  clear ht
  unfold g42 at hr
  refine w_seq ?_
  refine w_ops ?_
  refine wo_step (v := (AVal.s [])) (s_pure (p_mv rfl)) ?_
  refine wo_nil ?_
  refine nx_norm ?_
  refine w_seq ?_
  refine w_ops ?_
  refine wo_step (v := (.s s0)) (s_pure (p_mv g0)) ?_
  have hq := bindO_inv hr
  clear hr
  obtain ⟨v6, e6, hr⟩ := hq
  have hq := asI_inv hr
  clear hr
  obtain ⟨x6, rfl, hr⟩ := hq
  refine wo_step (v := (.i .i64 x6)) (s_pure (o_len rfl e6)) ?_
  have hq := bindP_inv hr
  clear hr
  obtain ⟨v7, m_1, e7, hr⟩ := hq
  refine wo_step (v := v7) (s_mk rfl rfl e7) ?_
  refine wo_step (v := v7) (s_pure (p_mv rfl)) ?_
  refine wo_nil ?_
  refine nx_norm ?_
  refine w_seq ?_
  refine w_seq ?_
  refine w_ops ?_
  refine wo_step (v := (.i .i64 0)) (s_pure (p_mv rfl)) ?_
  refine wo_nil ?_
  refine nx_norm ?_
  refine w_block ?_
  have hq := bindO_inv hr
  clear hr
  obtain ⟨o, hl, hr⟩ := hq
  obtain ⟨n, hl⟩ := hM.loop _ _ _ hl
  refine jp_mono (w_loop _ (g42_I0 s0 v7) (g42_J0 s0 v7) ?_ n _ _ _ _ hl ⟨rfl, gl rfl, gl g0, gl rfl⟩) ?_
  · clear hr hl
    intro s mm_1 t_1 o hi hr
    obtain ⟨x4, m_2⟩ := s
    obtain ⟨rfl, g4, g0, g3⟩ := hi
    unfold g42_b0 at hr
    refine w_seq ?_
    refine w_seq ?_
    refine w_ops ?_
    refine wo_step (v := (.i .i64 x4)) (s_pure (p_mv g4)) ?_
    refine wo_step (v := (.s s0)) (s_pure (p_mv g0)) ?_
    have hq := bindO_inv hr
    clear hr
    obtain ⟨v10, e10, hr⟩ := hq
    have hq := asI_inv hr
    clear hr
    obtain ⟨x10, rfl, hr⟩ := hq
    refine wo_step (v := (.i .i64 x10)) (s_pure (o_len rfl e10)) ?_
    have hq := forceB_inv hr
    clear hr
    obtain ⟨c11, e11, hr⟩ := hq
    refine wo_step (v := (.b c11)) (s_pure (p_bin rfl rfl (b_lss.trans (cb e11)))) ?_
    refine wo_nil ?_
    refine nx_norm ?_
    have hq := cond_inv hr
    clear hr
    rcases hq with ⟨rfl, hr⟩ | ⟨rfl, hr⟩
    · refine w_condT rfl ?_
      refine w_skip ?_
      refine nx_norm ?_
      refine w_seq ?_
      refine w_block ?_
      refine w_ops ?_
      refine wo_step (v := v7) (s_pure (p_mv g3)) ?_
      refine wo_step (v := (.i .i64 x4)) (s_pure (p_mv g4)) ?_
      refine wo_step (v := (.s s0)) (s_pure (p_mv g0)) ?_
      refine wo_step (v := (.i .i64 x4)) (s_pure (p_mv g4)) ?_
      have hq := bindO_inv hr
      clear hr
      obtain ⟨v18, e18, hr⟩ := hq
      have hq := asI_inv hr
      clear hr
      obtain ⟨x18, rfl, hr⟩ := hq
      refine wo_step (v := (.i .u8 x18)) (s_pure (o_ixStr rfl rfl e18)) ?_
      have hq := forceI_inv hr
      clear hr
      obtain ⟨x19, e19, hr⟩ := hq
      refine wo_step (v := (.i .u8 x19)) (s_pure (p_bin rfl rfl (b_sub.trans (ci e19)))) ?_
      have hq := bindO_inv hr
      clear hr
      obtain ⟨v20, e20, hr⟩ := hq
      refine wo_step (v := v20) (s_pure (o_ixS rfl rfl e20)) ?_
      have hq := bindP_inv hr
      clear hr
      obtain ⟨vn, m_3, en, hr⟩ := hq
      refine wo_stepN (s_st rfl rfl en) ?_
      refine wo_nil ?_
      refine bk_norm ?_
      refine nx_norm ?_
      refine w_ops ?_
      refine wo_step (v := (.i .i64 x4)) (s_pure (p_mv g4)) ?_
      have hq := forceI_inv hr
      clear hr
      obtain ⟨x13, e13, hr⟩ := hq
      refine wo_step (v := (.i .i64 x13)) (s_pure (p_bin rfl rfl (b_add.trans (ci e13)))) ?_
      refine wo_step (v := (.i .i64 x13)) (s_pure (p_mv rfl)) ?_
      refine wo_nil ?_
      cases hr
      exact ⟨_, _, rfl, rfl, rfl, gl rfl, gl g0, gl g3⟩
    · refine w_condF rfl ?_
      refine w_exit ?_
      refine nx_exit ?_
      cases hr
      exact ⟨_, _, rfl, ne_norm_exit, rfl, rfl, gl g3⟩
  · obtain ⟨m_4, ho⟩ : ∃ z, z = o := ⟨_, rfl⟩
    subst ho
    rintro _ mm t_2 ⟨rfl, rfl, g3⟩
    refine bk_hit ?_
    refine nx_norm ?_
    refine w_seq ?_
    refine w_ops ?_
    refine wo_step (v := v7) (s_pure (p_mv g3)) ?_
    have hq := bindO_inv hr
    clear hr
    obtain ⟨v22, e22, hr⟩ := hq
    have hq := asS_inv hr
    clear hr
    obtain ⟨s22, rfl, hr⟩ := hq
    refine wo_step (v := (.s s22)) (s_bts rfl e22) ?_
    refine wo_step (v := (.s s22)) (s_pure (p_mv rfl)) ?_
    refine wo_nil ?_
    refine nx_norm ?_
    refine w_ret ?_
    exact qf ret_ok (rt rfl rn) hr

/- dibber/weed.read -/
abbrev g45_I0 (s1 : List UInt8) (x12 : Int) (x23 : Int) (m_1 : Mm) (s : Int) (m1 : Mm) (t1 : Tr) : Prop :=
  match s with
  | x24 => m_1 = m1 ∧ t1.get 24 = (.i .i64 x24) ∧ t1.get 1 = (.s s1) ∧ t1.get 6 = (.i .u8 x12) ∧ t1.get 23 = (.i .i64 x23)
abbrev g45_J0 (s1 : List UInt8) (x12 : Int) (x23 : Int) (m_1 : Mm) (o : (Unit ⊕ (Int × Int))) (e : AExit) (m1 : Mm) (t1 : Tr) : Prop :=
  match o with
  | (.inl _) => e = (.exit 0) ∧ m_1 = m1 ∧ t1.get 6 = (.i .u8 x12)
  | (.inr (y4, y5)) => e = .ret ∧ m_1 = m1 ∧ t1.get 4 = (.i .u8 y4) ∧ t1.get 5 = (.i .i64 y5)
abbrev g45_J1 (s1 : List UInt8) (x12 : Int) (x23 : Int) (x24 : Int) (m_1 : Mm) (o : Bool) (m1 : Mm) (t1 : Tr) : Prop :=
  match o with
  | c36 => m_1 = m1 ∧ t1.get 36 = (.b c36) ∧ t1.get 1 = (.s s1) ∧ t1.get 6 = (.i .u8 x12) ∧ t1.get 23 = (.i .i64 x23) ∧ t1.get 24 = (.i .i64 x24)
def g45_b0 (M : Means) (ro : List ABlk) (s1 : List UInt8) (x12 : Int) (x23 : Int) (m_1 : Mm) (x24 : Int) : Option ((Int) ⊕ ((Unit ⊕ (Int × Int)))) :=
  forceB (ltI x24 x23) fun c25 =>
  cond c25 (
    bindO (evP .e (.ixStr (.c (.s s1)) (.c (.i .i64 x24)))) fun v29 =>
    asI .u8 v29 fun x29 =>
    forceB (!eqI x29 48) fun c30 =>
    bindO (cond c30 (
      bindO (evP .e (.ixStr (.c (.s s1)) (.c (.i .i64 x24)))) fun v34 =>
      asI .u8 v34 fun x34 =>
      forceB (!eqI x34 49) fun c35 =>
      some c35) (
      some false)) fun c36 =>
    cond c36 (
      some (.inr (.inr (0, 5)))) (
      forceI (wr .i64 (x24 + 1)) fun x37 =>
      some (.inl x37))) (
    some (.inr (.inl ())))
def g45 (M : Means) (ro : List ABlk) (x0 : Int) (s1 : List UInt8) (m0 : Mm) : Option (AVal × Heap × Nat × Nat) :=
  bindP (callM M.call m0 61 [(.i .i64 x0)]) fun v11 m_1 =>
  bindO (evP .e (.ext 0 (.c v11))) fun v12 =>
  asI .u8 v12 fun x12 =>
  bindO (evP .e (.ext 1 (.c v11))) fun v13 =>
  asI .i64 v13 fun x13 =>
  forceB (!eqI x13 0) fun c15 =>
  cond c15 (
    finM m0.h.length (tupA [(.i .u8 0), (.i .i64 x13)]) m_1) (
    bindO (evP .e (.len true (.c (.s s1)))) fun v18 =>
    asI .i64 v18 fun x18 =>
    forceB (ltI 400 x18) fun c19 =>
    cond c19 (
      finM m0.h.length (tupA [(.i .u8 0), (.i .i64 3)]) m_1) (
      bindO (evP .e (.sbin BinOp.eql (.c (.s s1)) (.c (AVal.s [])))) fun v21 =>
      asB v21 fun c21 =>
      cond c21 (
        finM m0.h.length (tupA [(.i .u8 0), (.i .i64 5)]) m_1) (
        bindO (evP .e (.len true (.c (.s s1)))) fun v23 =>
        asI .i64 v23 fun x23 =>
        bindO (M.loop (S := Int) (R := (Unit ⊕ (Int × Int))) (fun s => g45_b0 M ro s1 x12 x23 m_1 s) 0) fun o_1 => match o_1 with
        | (.inl _) =>
          finM m0.h.length (tupA [(.i .u8 x12), (.i .i64 0)]) m_1
        | (.inr (x4, x5)) =>
          finM m0.h.length (tupA [(.i .u8 x4), (.i .i64 x5)]) m_1)))

theorem g45_ok {ro : List ABlk} {O : Caller} {M : Means} (hM : M.Ok ⟨F, O⟩ ro) {x0 s1 h r} (ho : O 45 [(.i .i64 x0), (.s s1)] h = none) (hr : g45 M ro x0 s1 ⟨h, h.length, h.length⟩ = some r) : callX ⟨F, O⟩ ro 45 [(.i .i64 x0), (.s s1)] h = some r := by
  refine callX_of (F := ⟨F, O⟩) (fn := fn45) (g := g45 M ro x0 s1) ho rfl rfl hr ?_
  clear ho
  clear hr
  intro m0 t0 ht hr
  have g0 : t0.get 0 = (.i .i64 x0) := ht 0
  have g1 : t0.get 1 = (.s s1) := ht 1
  clear ht
  unfold g45 at hr
  refine w_seq ?_
  refine w_ops ?_
  refine wo_step (v := (.i .u8 0)) (s_pure (p_mv rfl)) ?_
  refine wo_step (v := (.i .i64 0)) (s_pure (p_mv rfl)) ?_
  refine wo_nil ?_
  refine nx_norm ?_
  refine w_seq ?_
  refine w_ops ?_
  refine wo_step (v := (.i .i64 x0)) (s_pure (p_mv g0)) ?_
  have hq := bindP_inv hr
  clear hr
  obtain ⟨v11, m_1, e11, hr⟩ := hq
  refine wo_step (v := v11) (s_call (mc rfl mn) (callM_le hM.call e11)) ?_
  refine wo_step (v := v11) (s_pure (p_mv rfl)) ?_
  have hq := bindO_inv hr
  clear hr
  obtain ⟨v12, e12, hr⟩ := hq
  have hq := asI_inv hr
  clear hr
  obtain ⟨x12, rfl, hr⟩ := hq
  refine wo_step (v := (.i .u8 x12)) (s_pure (o_ext rfl e12)) ?_
  have hq := bindO_inv hr
  clear hr
  obtain ⟨v13, e13, hr⟩ := hq
  have hq := asI_inv hr
  clear hr
  obtain ⟨x13, rfl, hr⟩ := hq
  refine wo_step (v := (.i .i64 x13)) (s_pure (o_ext rfl e13)) ?_
  refine wo_step (v := (.i .u8 x12)) (s_pure (p_mv rfl)) ?_
  refine wo_step (v := (.i .i64 x13)) (s_pure (p_mv rfl)) ?_
  refine wo_nil ?_
  refine nx_norm ?_
  refine w_seq ?_
  refine w_seq ?_
  refine w_ops ?_
  refine wo_step (v := (.i .i64 x13)) (s_pure (p_mv rfl)) ?_
  have hq := forceB_inv hr
  clear hr
  obtain ⟨c15, e15, hr⟩ := hq
  refine wo_step (v := (.b c15)) (s_pure (p_bin rfl rfl (b_neq.trans (cb e15)))) ?_
  refine wo_nil ?_
  refine nx_norm ?_
  have hq := cond_inv hr
  clear hr
  rcases hq with ⟨rfl, hr⟩ | ⟨rfl, hr⟩
  · refine w_condT rfl ?_
    refine w_seq ?_
    refine w_ops ?_
    refine wo_step (v := (.i .i64 x13)) (s_pure (p_mv rfl)) ?_
    refine wo_step (v := (.i .u8 0)) (s_pure (p_mv rfl)) ?_
    refine wo_step (v := (.i .i64 x13)) (s_pure (p_mv rfl)) ?_
    refine wo_nil ?_
    refine nx_norm ?_
    refine w_ret ?_
    refine nx_ret ?_
    exact qf ret_ok (rt rfl (rt rfl rn)) hr
  · refine w_condF rfl ?_
    refine w_skip ?_
    refine nx_norm ?_
    refine w_seq ?_
    refine w_seq ?_
    refine w_ops ?_
    refine wo_step (v := (.s s1)) (s_pure (p_mv g1)) ?_
    have hq := bindO_inv hr
    clear hr
    obtain ⟨v18, e18, hr⟩ := hq
    have hq := asI_inv hr
    clear hr
    obtain ⟨x18, rfl, hr⟩ := hq
    refine wo_step (v := (.i .i64 x18)) (s_pure (o_len rfl e18)) ?_
    have hq := forceB_inv hr
    clear hr
    obtain ⟨c19, e19, hr⟩ := hq
    refine wo_step (v := (.b c19)) (s_pure (p_bin rfl rfl (b_gtr.trans (cb e19)))) ?_
    refine wo_nil ?_
    refine nx_norm ?_
    have hq := cond_inv hr
    clear hr
    rcases hq with ⟨rfl, hr⟩ | ⟨rfl, hr⟩
    · refine w_condT rfl ?_
      refine w_seq ?_
      refine w_ops ?_
      refine wo_step (v := (.i .u8 0)) (s_pure (p_mv rfl)) ?_
      refine wo_step (v := (.i .i64 3)) (s_pure (p_mv rfl)) ?_
      refine wo_nil ?_
      refine nx_norm ?_
      refine w_ret ?_
      refine nx_ret ?_
      exact qf ret_ok (rt rfl (rt rfl rn)) hr
    · refine w_condF rfl ?_
      refine w_skip ?_
      refine nx_norm ?_
      refine w_seq ?_
      refine w_seq ?_
      refine w_ops ?_
      refine wo_step (v := (.s s1)) (s_pure (p_mv g1)) ?_
      have hq := bindO_inv hr
      clear hr
      obtain ⟨v21, e21, hr⟩ := hq
      have hq := asB_inv hr
      clear hr
      obtain ⟨c21, rfl, hr⟩ := hq
      refine wo_step (v := (.b c21)) (s_pure (o_sbin rfl rfl e21)) ?_
      refine wo_nil ?_
      refine nx_norm ?_
      have hq := cond_inv hr
      clear hr
      rcases hq with ⟨rfl, hr⟩ | ⟨rfl, hr⟩
      · refine w_condT rfl ?_
        refine w_seq ?_
        refine w_ops ?_
        refine wo_step (v := (.i .u8 0)) (s_pure (p_mv rfl)) ?_
        refine wo_step (v := (.i .i64 5)) (s_pure (p_mv rfl)) ?_
        refine wo_nil ?_
        refine nx_norm ?_
        refine w_ret ?_
        refine nx_ret ?_
        exact qf ret_ok (rt rfl (rt rfl rn)) hr
      · refine w_condF rfl ?_
        refine w_skip ?_
        refine nx_norm ?_
        refine w_seq ?_
        refine w_seq ?_
        refine w_ops ?_
        refine wo_step (v := (.s s1)) (s_pure (p_mv g1)) ?_
        have hq := bindO_inv hr
        clear hr
        obtain ⟨v23, e23, hr⟩ := hq
        have hq := asI_inv hr
        clear hr
        obtain ⟨x23, rfl, hr⟩ := hq
        refine wo_step (v := (.i .i64 x23)) (s_pure (o_len rfl e23)) ?_
        refine wo_step (v := (.i .i64 0)) (s_pure (p_mv rfl)) ?_
        refine wo_nil ?_
        refine nx_norm ?_
        refine w_block ?_
        have hq := bindO_inv hr
        clear hr
        obtain ⟨o_1, hl, hr⟩ := hq
        obtain ⟨n, hl⟩ := hM.loop _ _ _ hl
        refine jp_mono (w_loop _ (g45_I0 s1 x12 x23 m_1) (g45_J0 s1 x12 x23 m_1) ?_ n _ _ _ _ hl ⟨rfl, gl rfl, gl g1, gl rfl, gl rfl⟩) ?_
        · clear hr hl
          intro s mm_3 t_1 o hi hr
          obtain ⟨x24, hs⟩ : ∃ z, z = s := ⟨_, rfl⟩
          subst hs
          obtain ⟨rfl, g24, g1, g6, g23⟩ := hi
          unfold g45_b0 at hr
          refine w_seq ?_
          refine w_ops ?_
          have hq := forceB_inv hr
          clear hr
          obtain ⟨c25, e25, hr⟩ := hq
          refine wo_step (v := (.b c25)) (s_pure (p_bin g24 g23 (b_lss.trans (cb e25)))) ?_
          refine wo_nil ?_
          refine nx_norm ?_
          refine w_seq ?_
          have hq := cond_inv hr
          clear hr
          rcases hq with ⟨rfl, hr⟩ | ⟨rfl, hr⟩
          · refine w_condT rfl ?_
            refine w_skip ?_
            refine nx_norm ?_
            refine w_seq ?_
            refine w_block ?_
            refine w_seq ?_
            refine w_ops ?_
            refine wo_step (v := (.i .i64 x24)) (s_pure (p_mv g24)) ?_
            refine wo_step (v := (.i .i64 x24)) (s_pure (p_mv rfl)) ?_
            refine wo_nil ?_
            refine nx_norm ?_
            refine w_seq ?_
            refine w_ops ?_
            refine wo_step (v := (.s s1)) (s_pure (p_mv g1)) ?_
            refine wo_step (v := (.i .i64 x24)) (s_pure (p_mv rfl)) ?_
            have hq := bindO_inv hr
            clear hr
            obtain ⟨v29, e29, hr⟩ := hq
            have hq := asI_inv hr
            clear hr
            obtain ⟨x29, rfl, hr⟩ := hq
            refine wo_step (v := (.i .u8 x29)) (s_pure (o_ixStr rfl rfl e29)) ?_
            have hq := forceB_inv hr
            clear hr
            obtain ⟨c30, e30, hr⟩ := hq
            refine wo_step (v := (.b c30)) (s_pure (p_bin rfl rfl (b_neq.trans (cb e30)))) ?_
            refine wo_step (v := (.b c30)) (s_pure (p_mv rfl)) ?_
            have hq := bindO_inv hr
            clear hr
            obtain ⟨o, hr, hk⟩ := hq
            refine wo_join 5 (g45_J1 s1 x12 x23 x24 m_1 o) ?_ ?_
            · clear hk
              have hq := cond_inv hr
              clear hr
              rcases hq with ⟨rfl, hr⟩ | ⟨rfl, hr⟩
              · refine wo_take (v := (.s s1)) rfl (s_pure (p_mv g1)) ?_
                refine wo_take (v := (.i .i64 x24)) rfl (s_pure (p_mv rfl)) ?_
                have hq := bindO_inv hr
                clear hr
                obtain ⟨v34, e34, hr⟩ := hq
                have hq := asI_inv hr
                clear hr
                obtain ⟨x34, rfl, hr⟩ := hq
                refine wo_take (v := (.i .u8 x34)) rfl (s_pure (o_ixStr rfl rfl e34)) ?_
                have hq := forceB_inv hr
                clear hr
                obtain ⟨c35, e35, hr⟩ := hq
                refine wo_take (v := (.b c35)) rfl (s_pure (p_bin rfl rfl (b_neq.trans (cb e35)))) ?_
                refine wo_step (v := (.b c35)) (s_pure (p_pickT rfl rfl)) ?_
                refine wo_nil ?_
                cases hr
                exact ⟨_, _, rfl, rfl, gl rfl, gl g1, gl g6, gl g23, gl g24⟩
              · refine wo_skip (v := (.b false)) rfl rfl ?_
                refine wo_skip (v := (.b false)) rfl rfl ?_
                refine wo_skip (v := (.b false)) rfl rfl ?_
                refine wo_skip (v := (.b false)) rfl rfl ?_
                refine wo_step (v := (.b false)) (s_pure (p_pickF rfl rfl)) ?_
                refine wo_nil ?_
                cases hr
                exact ⟨_, _, rfl, rfl, gl rfl, gl g1, gl g6, gl g23, gl g24⟩
            · clear hr
              have hr := hk
              clear hk
              obtain ⟨c36, ho⟩ : ∃ z, z = o := ⟨_, rfl⟩
              subst ho
              rintro mm t_2 ⟨rfl, g36, g1, g6, g23, g24⟩
              refine wo_nil ?_
              refine nx_norm ?_
              have hq := cond_inv hr
              clear hr
              rcases hq with ⟨rfl, hr⟩ | ⟨rfl, hr⟩
              · refine w_condT g36 ?_
                refine w_seq ?_
                refine w_ops ?_
                refine wo_step (v := (.i .u8 0)) (s_pure (p_mv rfl)) ?_
                refine wo_step (v := (.i .i64 5)) (s_pure (p_mv rfl)) ?_
                refine wo_nil ?_
                refine nx_norm ?_
                refine w_ret ?_
                refine bk_ret ?_
                refine nx_ret ?_
                cases hr
                exact ⟨_, _, rfl, ne_norm_ret, rfl, rfl, gl rfl, gl rfl⟩
              · refine w_condF g36 ?_
                refine w_skip ?_
                refine bk_norm ?_
                refine nx_norm ?_
                refine w_ops ?_
                have hq := forceI_inv hr
                clear hr
                obtain ⟨x37, e37, hr⟩ := hq
                refine wo_step (v := (.i .i64 x37)) (s_pure (p_bin g24 rfl (b_add.trans (ci e37)))) ?_
                refine wo_step (v := (.i .i64 x37)) (s_pure (p_mv rfl)) ?_
                refine wo_nil ?_
                cases hr
                exact ⟨_, _, rfl, rfl, rfl, gl rfl, gl g1, gl g6, gl g23⟩
          · refine w_condF rfl ?_
            refine w_exit ?_
            refine nx_exit ?_
            cases hr
            exact ⟨_, _, rfl, ne_norm_exit, rfl, rfl, gl g6⟩
        · rcases o_1 with o_1 | o_1
          · rintro _ mm_1 t_3 ⟨rfl, rfl, g6⟩
            refine bk_hit ?_
            refine nx_norm ?_
            refine w_seq ?_
            refine w_ops ?_
            refine wo_step (v := (.i .u8 x12)) (s_pure (p_mv g6)) ?_
            refine wo_step (v := (.i .u8 x12)) (s_pure (p_mv rfl)) ?_
            refine wo_step (v := (.i .i64 0)) (s_pure (p_mv rfl)) ?_
            refine wo_nil ?_
            refine nx_norm ?_
            refine w_ret ?_
            exact qf ret_ok (rt rfl (rt rfl rn)) hr
          · obtain ⟨x4, x5⟩ := o_1
            rintro _ mm_2 t_4 ⟨rfl, rfl, g4, g5⟩
            refine bk_ret ?_
            refine nx_ret ?_
            exact qf ret_ok (rt g4 (rt g5 rn)) hr

end Go.Proofs.Ytgbkicelkpagpaa.W

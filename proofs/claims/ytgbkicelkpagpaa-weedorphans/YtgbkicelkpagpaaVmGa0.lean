/- Plain functions, and that the small machine answers as they do. -/
import Derived.Test.YtgbkicelkpagpaaVmP
import Derived.Test.YtgbkicelkpagpaaVmAE
open Go.Vm
set_option linter.unusedVariables false
namespace Go.Proofs.Ytgbkicelkpagpaa.W
open Go
/- dibber/dibberlaw02.WeedOrphans -/
abbrev g5_J0 (x0 : Int) (m_2 : Mm) (o : Bool) (m1 : Mm) (t1 : Tr) : Prop :=
  match o with
  | c30 => m_2 = m1 ∧ t1.get 30 = (.b c30) ∧ t1.get 0 = (.i .i64 x0)
abbrev g5_J1 (m_4 : Mm) (o : Bool) (m1 : Mm) (t1 : Tr) : Prop :=
  match o with
  | c48 => m_4 = m1 ∧ t1.get 48 = (.b c48)
abbrev g5_J2  (o : Bool × Mm) (m1 : Mm) (t1 : Tr) : Prop :=
  match o with
  | (c51, m_5) => m_5 = m1 ∧ t1.get 51 = (.b c51)
def g5 (M : Means) (ro : List ABlk) (x0 : Int) (x1 : Int) (m0 : Mm) : Option (AVal × Heap × Nat × Nat) :=
  bindP (callM M.call m0 26 [(.i .i64 x0), (.i .i64 x1)]) fun v14 m_1 =>
  bindO (evP .e (.ext 0 (.c v14))) fun v15 =>
  asS v15 fun s15 =>
  bindO (evP .e (.ext 1 (.c v14))) fun v16 =>
  asI .i64 v16 fun x16 =>
  bindP (callM M.call m_1 27 [(.i .i64 x0), (.i .i64 x1)]) fun v20 m_2 =>
  bindO (evP .e (.ext 0 (.c v20))) fun v21 =>
  asS v21 fun s21 =>
  bindO (evP .e (.ext 1 (.c v20))) fun v22 =>
  asI .i64 v22 fun x22 =>
  bindO (evP .e (.sbin BinOp.neq (.c (.s s15)) (.c (.s s21)))) fun v25 =>
  asB v25 fun c25 =>
  bindO (cond c25 (
    some true) (
    forceB (!eqI x16 x22) fun c29 =>
    some c29)) fun c30 =>
  cond c30 (
    finM m0.h.length (tupA [(.b false)]) m_2) (
    bindP (callM M.call m_2 28 [(.i .i64 x0)]) fun v33 m_3 =>
    bindO (evP .e (.ext 0 (.c v33))) fun v34 =>
    asB v34 fun c34 =>
    bindO (evP .e (.ext 1 (.c v33))) fun v35 =>
    asI .i64 v35 fun x35 =>
    bindP (callM M.call m_3 29 [(.i .i64 x0)]) fun v38 m_4 =>
    bindO (evP .e (.ext 0 (.c v38))) fun v39 =>
    asB v39 fun c39 =>
    bindO (evP .e (.ext 1 (.c v38))) fun v40 =>
    asI .i64 v40 fun x40 =>
    forceB (c34 == c39) fun c43 =>
    bindO (cond c43 (
      forceB (eqI x35 x40) fun c47 =>
      some c47) (
      some false)) fun c48 =>
    bindO (cond c48 (
      bindP (callM M.call m_4 15 []) fun v50 m_6 =>
      asB v50 fun c50 =>
      some (c50, m_6)) (
      some (false, m_4))) fun ⟨c51, m_5⟩ =>
    finM m0.h.length (tupA [(.b c51)]) m_5)

theorem g5_ok {ro : List ABlk} {O : Caller} {M : Means} (hM : M.Ok ⟨F, O⟩ ro) {x0 x1 h r} (ho : O 5 [(.i .i64 x0), (.i .i64 x1)] h = none) (hr : g5 M ro x0 x1 ⟨h, h.length, h.length⟩ = some r) : callX ⟨F, O⟩ ro 5 [(.i .i64 x0), (.i .i64 x1)] h = some r := by
  refine callX_of (F := ⟨F, O⟩) (fn := fn5) (g := g5 M ro x0 x1) ho rfl rfl hr ?_
  clear ho
  clear hr
  intro m0 t0 ht hr
  have g0 : t0.get 0 = (.i .i64 x0) := ht 0
  have g1 : t0.get 1 = (.i .i64 x1) := ht 1
  clear ht
  unfold g5 at hr
  refine w_seq ?_
  refine w_ops ?_
  refine wo_step (v := (.b false)) (s_pure (p_mv rfl)) ?_
  refine wo_nil ?_
  refine nx_norm ?_
  refine w_seq ?_
  refine w_ops ?_
  refine wo_step (v := (.i .i64 x0)) (s_pure (p_mv g0)) ?_
  refine wo_step (v := (.i .i64 x1)) (s_pure (p_mv g1)) ?_
  have hq := bindP_inv hr
  clear hr
  obtain ⟨v14, m_1, e14, hr⟩ := hq
  refine wo_step (v := v14) (s_call (mc rfl (mc rfl mn)) (callM_le hM.call e14)) ?_
  refine wo_step (v := v14) (s_pure (p_mv rfl)) ?_
  have hq := bindO_inv hr
  clear hr
  obtain ⟨v15, e15, hr⟩ := hq
  have hq := asS_inv hr
  clear hr
  obtain ⟨s15, rfl, hr⟩ := hq
  refine wo_step (v := (.s s15)) (s_pure (o_ext rfl e15)) ?_
  have hq := bindO_inv hr
  clear hr
  obtain ⟨v16, e16, hr⟩ := hq
  have hq := asI_inv hr
  clear hr
  obtain ⟨x16, rfl, hr⟩ := hq
  refine wo_step (v := (.i .i64 x16)) (s_pure (o_ext rfl e16)) ?_
  refine wo_step (v := (.s s15)) (s_pure (p_mv rfl)) ?_
  refine wo_step (v := (.i .i64 x16)) (s_pure (p_mv rfl)) ?_
  refine wo_nil ?_
  refine nx_norm ?_
  refine w_seq ?_
  refine w_ops ?_
  refine wo_step (v := (.i .i64 x0)) (s_pure (p_mv g0)) ?_
  refine wo_step (v := (.i .i64 x1)) (s_pure (p_mv g1)) ?_
  have hq := bindP_inv hr
  clear hr
  obtain ⟨v20, m_2, e20, hr⟩ := hq
  refine wo_step (v := v20) (s_call (mc rfl (mc rfl mn)) (callM_le hM.call e20)) ?_
  refine wo_step (v := v20) (s_pure (p_mv rfl)) ?_
  have hq := bindO_inv hr
  clear hr
  obtain ⟨v21, e21, hr⟩ := hq
  have hq := asS_inv hr
  clear hr
  obtain ⟨s21, rfl, hr⟩ := hq
  refine wo_step (v := (.s s21)) (s_pure (o_ext rfl e21)) ?_
  have hq := bindO_inv hr
  clear hr
  obtain ⟨v22, e22, hr⟩ := hq
  have hq := asI_inv hr
  clear hr
  obtain ⟨x22, rfl, hr⟩ := hq
  refine wo_step (v := (.i .i64 x22)) (s_pure (o_ext rfl e22)) ?_
  refine wo_step (v := (.s s21)) (s_pure (p_mv rfl)) ?_
  refine wo_step (v := (.i .i64 x22)) (s_pure (p_mv rfl)) ?_
  refine wo_nil ?_
  refine nx_norm ?_
  refine w_seq ?_
  refine w_seq ?_
  refine w_ops ?_
  refine wo_step (v := (.s s15)) (s_pure (p_mv rfl)) ?_
  refine wo_step (v := (.s s21)) (s_pure (p_mv rfl)) ?_
  have hq := bindO_inv hr
  clear hr
  obtain ⟨v25, e25, hr⟩ := hq
  have hq := asB_inv hr
  clear hr
  obtain ⟨c25, rfl, hr⟩ := hq
  refine wo_step (v := (.b c25)) (s_pure (o_sbin rfl rfl e25)) ?_
  refine wo_step (v := (.b c25)) (s_pure (p_mv rfl)) ?_
  have hq := bindO_inv hr
  clear hr
  obtain ⟨o, hr, hk⟩ := hq
  refine wo_join 4 (g5_J0 x0 m_2 o) ?_ ?_
  · clear hk
    have hq := cond_inv hr
    clear hr
    rcases hq with ⟨rfl, hr⟩ | ⟨rfl, hr⟩
    · refine wo_skip (v := (.b true)) rfl rfl ?_
      refine wo_skip (v := (.b true)) rfl rfl ?_
      refine wo_skip (v := (.b true)) rfl rfl ?_
      refine wo_step (v := (.b true)) (s_pure (p_pickT rfl rfl)) ?_
      refine wo_nil ?_
      cases hr
      exact ⟨_, _, rfl, rfl, gl rfl, gl g0⟩
    · refine wo_take (v := (.i .i64 x16)) rfl (s_pure (p_mv rfl)) ?_
      refine wo_take (v := (.i .i64 x22)) rfl (s_pure (p_mv rfl)) ?_
      have hq := forceB_inv hr
      clear hr
      obtain ⟨c29, e29, hr⟩ := hq
      refine wo_take (v := (.b c29)) rfl (s_pure (p_bin rfl rfl (b_neq.trans (cb e29)))) ?_
      refine wo_step (v := (.b c29)) (s_pure (p_pickF rfl rfl)) ?_
      refine wo_nil ?_
      cases hr
      exact ⟨_, _, rfl, rfl, gl rfl, gl g0⟩
  · clear hr
    have hr := hk
    clear hk
    obtain ⟨c30, ho⟩ : ∃ z, z = o := ⟨_, rfl⟩
    subst ho
    rintro mm t_1 ⟨rfl, g30, g0⟩
    refine wo_nil ?_
    refine nx_norm ?_
    have hq := cond_inv hr
    clear hr
    rcases hq with ⟨rfl, hr⟩ | ⟨rfl, hr⟩
    · refine w_condT g30 ?_
      refine w_seq ?_
      refine w_ops ?_
      refine wo_step (v := (.b false)) (s_pure (p_mv rfl)) ?_
      refine wo_nil ?_
      refine nx_norm ?_
      refine w_ret ?_
      refine nx_ret ?_
      exact qf ret_ok (rt rfl rn) hr
    · refine w_condF g30 ?_
      refine w_skip ?_
      refine nx_norm ?_
      refine w_seq ?_
      refine w_ops ?_
      refine wo_step (v := (.i .i64 x0)) (s_pure (p_mv g0)) ?_
      have hq := bindP_inv hr
      clear hr
      obtain ⟨v33, m_3, e33, hr⟩ := hq
      refine wo_step (v := v33) (s_call (mc rfl mn) (callM_le hM.call e33)) ?_
      refine wo_step (v := v33) (s_pure (p_mv rfl)) ?_
      have hq := bindO_inv hr
      clear hr
      obtain ⟨v34, e34, hr⟩ := hq
      have hq := asB_inv hr
      clear hr
      obtain ⟨c34, rfl, hr⟩ := hq
      refine wo_step (v := (.b c34)) (s_pure (o_ext rfl e34)) ?_
      have hq := bindO_inv hr
      clear hr
      obtain ⟨v35, e35, hr⟩ := hq
      have hq := asI_inv hr
      clear hr
      obtain ⟨x35, rfl, hr⟩ := hq
      refine wo_step (v := (.i .i64 x35)) (s_pure (o_ext rfl e35)) ?_
      refine wo_step (v := (.b c34)) (s_pure (p_mv rfl)) ?_
      refine wo_step (v := (.i .i64 x35)) (s_pure (p_mv rfl)) ?_
      refine wo_nil ?_
      refine nx_norm ?_
      refine w_seq ?_
      refine w_ops ?_
      refine wo_step (v := (.i .i64 x0)) (s_pure (p_mv g0)) ?_
      have hq := bindP_inv hr
      clear hr
      obtain ⟨v38, m_4, e38, hr⟩ := hq
      refine wo_step (v := v38) (s_call (mc rfl mn) (callM_le hM.call e38)) ?_
      refine wo_step (v := v38) (s_pure (p_mv rfl)) ?_
      have hq := bindO_inv hr
      clear hr
      obtain ⟨v39, e39, hr⟩ := hq
      have hq := asB_inv hr
      clear hr
      obtain ⟨c39, rfl, hr⟩ := hq
      refine wo_step (v := (.b c39)) (s_pure (o_ext rfl e39)) ?_
      have hq := bindO_inv hr
      clear hr
      obtain ⟨v40, e40, hr⟩ := hq
      have hq := asI_inv hr
      clear hr
      obtain ⟨x40, rfl, hr⟩ := hq
      refine wo_step (v := (.i .i64 x40)) (s_pure (o_ext rfl e40)) ?_
      refine wo_step (v := (.b c39)) (s_pure (p_mv rfl)) ?_
      refine wo_step (v := (.i .i64 x40)) (s_pure (p_mv rfl)) ?_
      refine wo_nil ?_
      refine nx_norm ?_
      refine w_seq ?_
      refine w_ops ?_
      refine wo_step (v := (.b c34)) (s_pure (p_mv rfl)) ?_
      refine wo_step (v := (.b c39)) (s_pure (p_mv rfl)) ?_
      have hq := forceB_inv hr
      clear hr
      obtain ⟨c43, e43, hr⟩ := hq
      refine wo_step (v := (.b c43)) (s_pure ((p_beq rfl rfl).trans (cb e43))) ?_
      refine wo_step (v := (.b c43)) (s_pure (p_mv rfl)) ?_
      have hq := bindO_inv hr
      clear hr
      obtain ⟨o_1, hr, hk⟩ := hq
      refine wo_join 4 (g5_J1 m_4 o_1) ?_ ?_
      · clear hk
        have hq := cond_inv hr
        clear hr
        rcases hq with ⟨rfl, hr⟩ | ⟨rfl, hr⟩
        · refine wo_take (v := (.i .i64 x35)) rfl (s_pure (p_mv rfl)) ?_
          refine wo_take (v := (.i .i64 x40)) rfl (s_pure (p_mv rfl)) ?_
          have hq := forceB_inv hr
          clear hr
          obtain ⟨c47, e47, hr⟩ := hq
          refine wo_take (v := (.b c47)) rfl (s_pure (p_bin rfl rfl (b_eql.trans (cb e47)))) ?_
          refine wo_step (v := (.b c47)) (s_pure (p_pickT rfl rfl)) ?_
          refine wo_nil ?_
          cases hr
          exact ⟨_, _, rfl, rfl, gl rfl⟩
        · refine wo_skip (v := (.b false)) rfl rfl ?_
          refine wo_skip (v := (.b false)) rfl rfl ?_
          refine wo_skip (v := (.b false)) rfl rfl ?_
          refine wo_step (v := (.b false)) (s_pure (p_pickF rfl rfl)) ?_
          refine wo_nil ?_
          cases hr
          exact ⟨_, _, rfl, rfl, gl rfl⟩
      · clear hr
        have hr := hk
        clear hk
        obtain ⟨c48, ho⟩ : ∃ z, z = o_1 := ⟨_, rfl⟩
        subst ho
        rintro mm_1 t_2 ⟨rfl, g48⟩
        refine wo_step (v := (.b c48)) (s_pure (p_mv g48)) ?_
        have hq := bindO_inv hr
        clear hr
        obtain ⟨o_2, hr, hk⟩ := hq
        refine wo_join 2 (g5_J2  o_2) ?_ ?_
        · clear hk
          have hq := cond_inv hr
          clear hr
          rcases hq with ⟨rfl, hr⟩ | ⟨rfl, hr⟩
          · have hq := bindP_inv hr
            clear hr
            obtain ⟨v50, m_6, e50, hr⟩ := hq
            have hq := asB_inv hr
            clear hr
            obtain ⟨c50, rfl, hr⟩ := hq
            refine wo_take (v := (.b c50)) rfl (s_call mn (callM_le hM.call e50)) ?_
            refine wo_step (v := (.b c50)) (s_pure (p_pickT rfl rfl)) ?_
            refine wo_nil ?_
            cases hr
            exact ⟨_, _, rfl, rfl, gl rfl⟩
          · refine wo_skip (v := (.b false)) rfl rfl ?_
            refine wo_step (v := (.b false)) (s_pure (p_pickF rfl rfl)) ?_
            refine wo_nil ?_
            cases hr
            exact ⟨_, _, rfl, rfl, gl rfl⟩
        · clear hr
          have hr := hk
          clear hk
          obtain ⟨c51, m_5⟩ := o_2
          rintro mm_2 t_3 ⟨rfl, g51⟩
          refine wo_step (v := (.b c51)) (s_pure (p_mv g51)) ?_
          refine wo_nil ?_
          refine nx_norm ?_
          refine w_ret ?_
          exact qf ret_ok (rt rfl rn) hr

/- dibber/dibberlaw02.WeedMoore -/
abbrev g9_J0 (x11 : Int) (c15 : Bool) (c20 : Bool) (s25 : List UInt8) (x26 : Int) (m_3 : Mm) (o : Bool) (m1 : Mm) (t1 : Tr) : Prop :=
  match o with
  | c32 => m_3 = m1 ∧ t1.get 32 = (.b c32) ∧ t1.get 3 = (.i .i64 x11) ∧ t1.get 4 = (.b c15) ∧ t1.get 6 = (.b c20) ∧ t1.get 8 = (.s s25) ∧ t1.get 9 = (.i .i64 x26)
abbrev g9_J1 (x11 : Int) (c15 : Bool) (s25 : List UInt8) (x26 : Int) (m_3 : Mm) (o : Bool) (m1 : Mm) (t1 : Tr) : Prop :=
  match o with
  | c39 => m_3 = m1 ∧ t1.get 39 = (.b c39) ∧ t1.get 3 = (.i .i64 x11) ∧ t1.get 4 = (.b c15) ∧ t1.get 8 = (.s s25) ∧ t1.get 9 = (.i .i64 x26)
abbrev g9_J2 (x11 : Int) (c15 : Bool) (s25 : List UInt8) (x26 : Int) (m_3 : Mm) (o : Bool) (m1 : Mm) (t1 : Tr) : Prop :=
  match o with
  | c39_1 => m_3 = m1 ∧ t1.get 39 = (.b c39_1) ∧ t1.get 3 = (.i .i64 x11) ∧ t1.get 4 = (.b c15) ∧ t1.get 8 = (.s s25) ∧ t1.get 9 = (.i .i64 x26)
abbrev g9_J3 (x11 : Int) (c15 : Bool) (s25 : List UInt8) (x26 : Int) (m_3 : Mm) (o : Bool) (m1 : Mm) (t1 : Tr) : Prop :=
  match o with
  | c45 => m_3 = m1 ∧ t1.get 45 = (.b c45) ∧ t1.get 3 = (.i .i64 x11) ∧ t1.get 4 = (.b c15) ∧ t1.get 8 = (.s s25) ∧ t1.get 9 = (.i .i64 x26)
abbrev g9_J4 (x11 : Int) (c15 : Bool) (s25 : List UInt8) (m_3 : Mm) (o : Bool) (m1 : Mm) (t1 : Tr) : Prop :=
  match o with
  | c53 => m_3 = m1 ∧ t1.get 53 = (.b c53) ∧ t1.get 3 = (.i .i64 x11) ∧ t1.get 4 = (.b c15) ∧ t1.get 8 = (.s s25)
abbrev g9_J5 (x11 : Int) (c15 : Bool) (s25 : List UInt8) (m_3 : Mm) (o : Bool) (m1 : Mm) (t1 : Tr) : Prop :=
  match o with
  | c53_1 => m_3 = m1 ∧ t1.get 53 = (.b c53_1) ∧ t1.get 3 = (.i .i64 x11) ∧ t1.get 4 = (.b c15) ∧ t1.get 8 = (.s s25)
abbrev g9_J6  (o : Bool × Mm) (m1 : Mm) (t1 : Tr) : Prop :=
  match o with
  | (c59, m_4) => m_4 = m1 ∧ t1.get 59 = (.b c59)
abbrev g9_J7 (x11 : Int) (s25 : List UInt8) (m_6 : Mm) (o : Bool) (m1 : Mm) (t1 : Tr) : Prop :=
  match o with
  | c72 => m_6 = m1 ∧ t1.get 72 = (.b c72) ∧ t1.get 3 = (.i .i64 x11) ∧ t1.get 8 = (.s s25)
abbrev g9_J8  (o : (Mm ⊕ (Bool × Mm))) (e : AExit) (m1 : Mm) (t1 : Tr) : Prop :=
  match o with
  | (.inl mo) => e = .norm ∧ mo = m1
  | (.inr (y2, mo)) => e = .ret ∧ mo = m1 ∧ t1.get 2 = (.b y2)
abbrev g9_J9 (x11 : Int) (s25 : List UInt8) (m_8 : Mm) (o : Bool) (m1 : Mm) (t1 : Tr) : Prop :=
  match o with
  | c98 => m_8 = m1 ∧ t1.get 98 = (.b c98) ∧ t1.get 3 = (.i .i64 x11) ∧ t1.get 8 = (.s s25)
def g9 (M : Means) (ro : List ABlk) (x0 : Int) (m0 : Mm) : Option (AVal × Heap × Nat × Nat) :=
  forceI (wr .i64 x0) fun x11 =>
  bindP (callM M.call m0 28 [(.i .i64 x11)]) fun v14 m_1 =>
  bindO (evP .e (.ext 0 (.c v14))) fun v15 =>
  asB v15 fun c15 =>
  bindO (evP .e (.ext 1 (.c v14))) fun v16 =>
  asI .i64 v16 fun x16 =>
  bindP (callM M.call m_1 30 [(.i .i64 x11)]) fun v19 m_2 =>
  bindO (evP .e (.ext 0 (.c v19))) fun v20 =>
  asB v20 fun c20 =>
  bindO (evP .e (.ext 1 (.c v19))) fun v21 =>
  asI .i64 v21 fun x21 =>
  bindP (callM M.call m_2 26 [(.i .i64 x11), (.i .i64 20)]) fun v24 m_3 =>
  bindO (evP .e (.ext 0 (.c v24))) fun v25 =>
  asS v25 fun s25 =>
  bindO (evP .e (.ext 1 (.c v24))) fun v26 =>
  asI .i64 v26 fun x26 =>
  forceB (!eqI x16 0) fun c28 =>
  bindO (cond c28 (
    some true) (
    forceB (!eqI x21 0) fun c31 =>
    some c31)) fun c32 =>
  bindO (cond c32 (
    some true) (
    bindO (cond c20 (
      forceB (!c15) fun c37 =>
      some c37) (
      some false)) fun c39_1 =>
    some c39_1)) fun c39 =>
  bindO (cond c39 (
    some true) (
    forceB (eqI x26 10) fun c43 =>
    forceB (!(c15 == c43)) fun c44 =>
    some c44)) fun c45 =>
  bindO (cond c45 (
    some true) (
    forceB (!c15) fun c48 =>
    bindO (cond c48 (
      forceB (!eqI x26 0) fun c51 =>
      some c51) (
      some false)) fun c53_1 =>
    some c53_1)) fun c53 =>
  cond c53 (
    finM m0.h.length (tupA [(.b false)]) m_3) (
    cond c15 (
      bindO (evP .e (.sbin BinOp.eql (.c (.s s25)) (.c (AVal.s [])))) fun v56 =>
      asB v56 fun c56 =>
      bindO (cond c56 (
        bindP (callM M.call m_3 15 []) fun v58 m_5 =>
        asB v58 fun c58 =>
        some (c58, m_5)) (
        some (false, m_3))) fun ⟨c59, m_4⟩ =>
      finM m0.h.length (tupA [(.b c59)]) m_4) (
      bindP (callM M.call m_3 20 [(.i .i64 x11), (.s s25)]) fun v63 m_6 =>
      bindO (evP .e (.ext 0 (.c v63))) fun v64 =>
      asS v64 fun s64 =>
      bindO (evP .e (.ext 1 (.c v63))) fun v65 =>
      asI .i64 v65 fun x65 =>
      forceB (!eqI x65 10) fun c67 =>
      bindO (cond c67 (
        some true) (
        bindO (evP .e (.len true (.c (.s s25)))) fun v70 =>
        asI .i64 v70 fun x70 =>
        forceB (ltI 20 x70) fun c71 =>
        some c71)) fun c72 =>
      cond c72 (
        finM m0.h.length (tupA [(.b false)]) m_6) (
        bindO (evP .e (.len true (.c (.s s25)))) fun v74 =>
        asI .i64 v74 fun x74 =>
        forceB (ltI 1 x74) fun c75 =>
        bindO (α := (Mm ⊕ (Bool × Mm))) (
          cond c75 (
            bindO (evP .e (.slStr (.c (.s s25)) (some (.c (.i .i64 1))) none)) fun v79 =>
            asS v79 fun s79 =>
            bindP (callM M.call m_6 20 [(.i .i64 x11), (.s s79)]) fun v80 m_7 =>
            bindO (evP .e (.ext 0 (.c v80))) fun v81 =>
            asS v81 fun s81 =>
            bindO (evP .e (.ext 1 (.c v80))) fun v82 =>
            asI .i64 v82 fun x82 =>
            bindO (evP .e (.len true (.c (.s s25)))) fun v87 =>
            asI .i64 v87 fun x87 =>
            forceI (wr .i64 (x87 - 1)) fun x88 =>
            bindO (evP .e (.slStr (.c (.s s25)) none (some (.c (.i .i64 x88))))) fun v89 =>
            asS v89 fun s89 =>
            bindP (callM M.call m_7 20 [(.i .i64 x11), (.s s89)]) fun v90 m_8 =>
            bindO (evP .e (.ext 0 (.c v90))) fun v91 =>
            asS v91 fun s91 =>
            bindO (evP .e (.ext 1 (.c v90))) fun v92 =>
            asI .i64 v92 fun x92 =>
            forceB (!eqI x82 0) fun c94 =>
            bindO (cond c94 (
              some true) (
              forceB (!eqI x92 0) fun c97 =>
              some c97)) fun c98 =>
            cond c98 (
              some (.inr (false, m_8))) (
              bindO (evP .e (.len true (.c (.s s25)))) fun v102 =>
              asI .i64 v102 fun x102 =>
              forceI (wr .i64 (x102 - 1)) fun x103 =>
              bindP (callM M.call m_8 26 [(.i .i64 x11), (.i .i64 x103)]) fun v104 m_9 =>
              bindO (evP .e (.ext 0 (.c v104))) fun v105 =>
              asS v105 fun s105 =>
              bindO (evP .e (.ext 1 (.c v104))) fun v106 =>
              asI .i64 v106 fun x106 =>
              forceB (!eqI x106 10) fun c108 =>
              cond c108 (
                some (.inr (false, m_9))) (
                some (.inl m_9)))) (
            some (.inl m_6))) fun o_8 => match o_8 with
        | (.inl m_10) =>
          bindP (callM M.call m_10 15 []) fun v109 m_11 =>
          asB v109 fun c109 =>
          finM m0.h.length (tupA [(.b c109)]) m_11
        | (.inr (c2, m_12)) =>
          finM m0.h.length (tupA [(.b c2)]) m_12)))

theorem g9_ok {ro : List ABlk} {O : Caller} {M : Means} (hM : M.Ok ⟨F, O⟩ ro) {x0 h r} (ho : O 9 [(.i .u8 x0)] h = none) (hr : g9 M ro x0 ⟨h, h.length, h.length⟩ = some r) : callX ⟨F, O⟩ ro 9 [(.i .u8 x0)] h = some r := by
  refine callX_of (F := ⟨F, O⟩) (fn := fn9) (g := g9 M ro x0) ho rfl rfl hr ?_
  clear ho
  clear hr
  intro m0 t0 ht hr
  have g0 : t0.get 0 = (.i .u8 x0) := ht 0
  clear ht
  unfold g9 at hr
  refine w_seq ?_
  refine w_ops ?_
  refine wo_step (v := (.b false)) (s_pure (p_mv rfl)) ?_
  refine wo_nil ?_
  refine nx_norm ?_
  refine w_seq ?_
  refine w_ops ?_
  refine wo_step (v := (.i .u8 x0)) (s_pure (p_mv g0)) ?_
  have hq := forceI_inv hr
  clear hr
  obtain ⟨x11, e11, hr⟩ := hq
  refine wo_step (v := (.i .i64 x11)) (s_pure ((p_conv rfl).trans (ci e11))) ?_
  refine wo_step (v := (.i .i64 x11)) (s_pure (p_mv rfl)) ?_
  refine wo_nil ?_
  refine nx_norm ?_
  refine w_seq ?_
  refine w_ops ?_
  refine wo_step (v := (.i .i64 x11)) (s_pure (p_mv rfl)) ?_
  have hq := bindP_inv hr
  clear hr
  obtain ⟨v14, m_1, e14, hr⟩ := hq
  refine wo_step (v := v14) (s_call (mc rfl mn) (callM_le hM.call e14)) ?_
  refine wo_step (v := v14) (s_pure (p_mv rfl)) ?_
  have hq := bindO_inv hr
  clear hr
  obtain ⟨v15, e15, hr⟩ := hq
  have hq := asB_inv hr
  clear hr
  obtain ⟨c15, rfl, hr⟩ := hq
  refine wo_step (v := (.b c15)) (s_pure (o_ext rfl e15)) ?_
  have hq := bindO_inv hr
  clear hr
  obtain ⟨v16, e16, hr⟩ := hq
  have hq := asI_inv hr
  clear hr
  obtain ⟨x16, rfl, hr⟩ := hq
  refine wo_step (v := (.i .i64 x16)) (s_pure (o_ext rfl e16)) ?_
  refine wo_step (v := (.b c15)) (s_pure (p_mv rfl)) ?_
  refine wo_step (v := (.i .i64 x16)) (s_pure (p_mv rfl)) ?_
  refine wo_nil ?_
  refine nx_norm ?_
  refine w_seq ?_
  refine w_ops ?_
  refine wo_step (v := (.i .i64 x11)) (s_pure (p_mv rfl)) ?_
  have hq := bindP_inv hr
  clear hr
  obtain ⟨v19, m_2, e19, hr⟩ := hq
  refine wo_step (v := v19) (s_call (mc rfl mn) (callM_le hM.call e19)) ?_
  refine wo_step (v := v19) (s_pure (p_mv rfl)) ?_
  have hq := bindO_inv hr
  clear hr
  obtain ⟨v20, e20, hr⟩ := hq
  have hq := asB_inv hr
  clear hr
  obtain ⟨c20, rfl, hr⟩ := hq
  refine wo_step (v := (.b c20)) (s_pure (o_ext rfl e20)) ?_
  have hq := bindO_inv hr
  clear hr
  obtain ⟨v21, e21, hr⟩ := hq
  have hq := asI_inv hr
  clear hr
  obtain ⟨x21, rfl, hr⟩ := hq
  refine wo_step (v := (.i .i64 x21)) (s_pure (o_ext rfl e21)) ?_
  refine wo_step (v := (.b c20)) (s_pure (p_mv rfl)) ?_
  refine wo_step (v := (.i .i64 x21)) (s_pure (p_mv rfl)) ?_
  refine wo_nil ?_
  refine nx_norm ?_
  refine w_seq ?_
  refine w_ops ?_
  refine wo_step (v := (.i .i64 x11)) (s_pure (p_mv rfl)) ?_
  have hq := bindP_inv hr
  clear hr
  obtain ⟨v24, m_3, e24, hr⟩ := hq
  refine wo_step (v := v24) (s_call (mc rfl (mc rfl mn)) (callM_le hM.call e24)) ?_
  refine wo_step (v := v24) (s_pure (p_mv rfl)) ?_
  have hq := bindO_inv hr
  clear hr
  obtain ⟨v25, e25, hr⟩ := hq
  have hq := asS_inv hr
  clear hr
  obtain ⟨s25, rfl, hr⟩ := hq
  refine wo_step (v := (.s s25)) (s_pure (o_ext rfl e25)) ?_
  have hq := bindO_inv hr
  clear hr
  obtain ⟨v26, e26, hr⟩ := hq
  have hq := asI_inv hr
  clear hr
  obtain ⟨x26, rfl, hr⟩ := hq
  refine wo_step (v := (.i .i64 x26)) (s_pure (o_ext rfl e26)) ?_
  refine wo_step (v := (.s s25)) (s_pure (p_mv rfl)) ?_
  refine wo_step (v := (.i .i64 x26)) (s_pure (p_mv rfl)) ?_
  refine wo_nil ?_
  refine nx_norm ?_
  refine w_seq ?_
  refine w_seq ?_
  refine w_ops ?_
  refine wo_step (v := (.i .i64 x16)) (s_pure (p_mv rfl)) ?_
  have hq := forceB_inv hr
  clear hr
  obtain ⟨c28, e28, hr⟩ := hq
  refine wo_step (v := (.b c28)) (s_pure (p_bin rfl rfl (b_neq.trans (cb e28)))) ?_
  refine wo_step (v := (.b c28)) (s_pure (p_mv rfl)) ?_
  have hq := bindO_inv hr
  clear hr
  obtain ⟨o, hr, hk⟩ := hq
  refine wo_join 3 (g9_J0 x11 c15 c20 s25 x26 m_3 o) ?_ ?_
  · clear hk
    have hq := cond_inv hr
    clear hr
    rcases hq with ⟨rfl, hr⟩ | ⟨rfl, hr⟩
    · refine wo_skip (v := (.b true)) rfl rfl ?_
      refine wo_skip (v := (.b true)) rfl rfl ?_
      refine wo_step (v := (.b true)) (s_pure (p_pickT rfl rfl)) ?_
      refine wo_nil ?_
      cases hr
      exact ⟨_, _, rfl, rfl, gl rfl, gl rfl, gl rfl, gl rfl, gl rfl, gl rfl⟩
    · refine wo_take (v := (.i .i64 x21)) rfl (s_pure (p_mv rfl)) ?_
      have hq := forceB_inv hr
      clear hr
      obtain ⟨c31, e31, hr⟩ := hq
      refine wo_take (v := (.b c31)) rfl (s_pure (p_bin rfl rfl (b_neq.trans (cb e31)))) ?_
      refine wo_step (v := (.b c31)) (s_pure (p_pickF rfl rfl)) ?_
      refine wo_nil ?_
      cases hr
      exact ⟨_, _, rfl, rfl, gl rfl, gl rfl, gl rfl, gl rfl, gl rfl, gl rfl⟩
  · clear hr
    have hr := hk
    clear hk
    obtain ⟨c32, ho⟩ : ∃ z, z = o := ⟨_, rfl⟩
    subst ho
    rintro mm t_1 ⟨rfl, g32, g3, g4, g6, g8, g9⟩
    refine wo_step (v := (.b c32)) (s_pure (p_mv g32)) ?_
    have hq := bindO_inv hr
    clear hr
    obtain ⟨o_1, hr, hk⟩ := hq
    refine wo_join 6 (g9_J1 x11 c15 s25 x26 m_3 o_1) ?_ ?_
    · clear hk
      have hq := cond_inv hr
      clear hr
      rcases hq with ⟨rfl, hr⟩ | ⟨rfl, hr⟩
      · refine wo_skip (v := (.b true)) rfl rfl ?_
        refine wo_skip (v := (.b true)) rfl rfl ?_
        refine wo_skip (v := und) rfl rfl ?_
        refine wo_skip (v := und) rfl rfl ?_
        refine wo_skip (v := (.b true)) rfl rfl ?_
        refine wo_step (v := (.b true)) (s_pure (p_pickT rfl rfl)) ?_
        refine wo_nil ?_
        cases hr
        exact ⟨_, _, rfl, rfl, gl rfl, gl g3, gl g4, gl g8, gl g9⟩
      · refine wo_take (v := (.b c20)) rfl (s_pure (p_mv g6)) ?_
        refine wo_take (v := (.b c20)) rfl (s_pure (p_mv rfl)) ?_
        have hq := bindO_inv hr
        clear hr
        obtain ⟨o_2, hr, hk⟩ := hq
        refine wo_join 4 (g9_J2 x11 c15 s25 x26 m_3 o_2) ?_ ?_
        · clear hk
          have hq := cond_inv hr
          clear hr
          rcases hq with ⟨rfl, hr⟩ | ⟨rfl, hr⟩
          · refine wo_take (v := (.b c15)) rfl (s_pure (p_mv g4)) ?_
            have hq := forceB_inv hr
            clear hr
            obtain ⟨c37, e37, hr⟩ := hq
            refine wo_take (v := (.b c37)) rfl (s_pure ((p_not rfl).trans (cb e37))) ?_
            refine wo_take (v := (.b c37)) rfl (s_pure (p_pickT rfl rfl)) ?_
            refine wo_step (v := (.b c37)) (s_pure (p_pickF rfl rfl)) ?_
            refine wo_nil ?_
            cases hr
            exact ⟨_, _, rfl, rfl, gl rfl, gl g3, gl g4, gl g8, gl g9⟩
          · refine wo_skip (v := (.b false)) rfl rfl ?_
            refine wo_skip (v := (.b false)) rfl rfl ?_
            refine wo_take (v := (.b false)) rfl (s_pure (p_pickF rfl rfl)) ?_
            refine wo_step (v := (.b false)) (s_pure (p_pickF rfl rfl)) ?_
            refine wo_nil ?_
            cases hr
            exact ⟨_, _, rfl, rfl, gl rfl, gl g3, gl g4, gl g8, gl g9⟩
        · clear hr
          have hr := hk
          clear hk
          obtain ⟨c39_1, ho⟩ : ∃ z, z = o_2 := ⟨_, rfl⟩
          subst ho
          rintro mm_1 t_2 ⟨rfl, g39, g3, g4, g8, g9⟩
          refine wo_nil ?_
          cases hr
          exact ⟨_, _, rfl, rfl, gl g39, gl g3, gl g4, gl g8, gl g9⟩
    · clear hr
      have hr := hk
      clear hk
      obtain ⟨c39, ho⟩ : ∃ z, z = o_1 := ⟨_, rfl⟩
      subst ho
      rintro mm_2 t_3 ⟨rfl, g39, g3, g4, g8, g9⟩
      refine wo_step (v := (.b c39)) (s_pure (p_mv g39)) ?_
      have hq := bindO_inv hr
      clear hr
      obtain ⟨o_3, hr, hk⟩ := hq
      refine wo_join 5 (g9_J3 x11 c15 s25 x26 m_3 o_3) ?_ ?_
      · clear hk
        have hq := cond_inv hr
        clear hr
        rcases hq with ⟨rfl, hr⟩ | ⟨rfl, hr⟩
        · refine wo_skip (v := (.b true)) rfl rfl ?_
          refine wo_skip (v := (.b true)) rfl rfl ?_
          refine wo_skip (v := (.b true)) rfl rfl ?_
          refine wo_skip (v := (.b true)) rfl rfl ?_
          refine wo_step (v := (.b true)) (s_pure (p_pickT rfl rfl)) ?_
          refine wo_nil ?_
          cases hr
          exact ⟨_, _, rfl, rfl, gl rfl, gl g3, gl g4, gl g8, gl g9⟩
        · refine wo_take (v := (.b c15)) rfl (s_pure (p_mv g4)) ?_
          refine wo_take (v := (.i .i64 x26)) rfl (s_pure (p_mv g9)) ?_
          have hq := forceB_inv hr
          clear hr
          obtain ⟨c43, e43, hr⟩ := hq
          refine wo_take (v := (.b c43)) rfl (s_pure (p_bin rfl rfl (b_eql.trans (cb e43)))) ?_
          have hq := forceB_inv hr
          clear hr
          obtain ⟨c44, e44, hr⟩ := hq
          refine wo_take (v := (.b c44)) rfl (s_pure ((p_beq rfl rfl).trans (cb e44))) ?_
          refine wo_step (v := (.b c44)) (s_pure (p_pickF rfl rfl)) ?_
          refine wo_nil ?_
          cases hr
          exact ⟨_, _, rfl, rfl, gl rfl, gl g3, gl g4, gl g8, gl g9⟩
      · clear hr
        have hr := hk
        clear hk
        obtain ⟨c45, ho⟩ : ∃ z, z = o_3 := ⟨_, rfl⟩
        subst ho
        rintro mm_3 t_4 ⟨rfl, g45, g3, g4, g8, g9⟩
        refine wo_step (v := (.b c45)) (s_pure (p_mv g45)) ?_
        have hq := bindO_inv hr
        clear hr
        obtain ⟨o_4, hr, hk⟩ := hq
        refine wo_join 7 (g9_J4 x11 c15 s25 m_3 o_4) ?_ ?_
        · clear hk
          have hq := cond_inv hr
          clear hr
          rcases hq with ⟨rfl, hr⟩ | ⟨rfl, hr⟩
          · refine wo_skip (v := (.b true)) rfl rfl ?_
            refine wo_skip (v := (.b true)) rfl rfl ?_
            refine wo_skip (v := (.b true)) rfl rfl ?_
            refine wo_skip (v := und) rfl rfl ?_
            refine wo_skip (v := und) rfl rfl ?_
            refine wo_skip (v := (.b true)) rfl rfl ?_
            refine wo_step (v := (.b true)) (s_pure (p_pickT rfl rfl)) ?_
            refine wo_nil ?_
            cases hr
            exact ⟨_, _, rfl, rfl, gl rfl, gl g3, gl g4, gl g8⟩
          · refine wo_take (v := (.b c15)) rfl (s_pure (p_mv g4)) ?_
            have hq := forceB_inv hr
            clear hr
            obtain ⟨c48, e48, hr⟩ := hq
            refine wo_take (v := (.b c48)) rfl (s_pure ((p_not rfl).trans (cb e48))) ?_
            refine wo_take (v := (.b c48)) rfl (s_pure (p_mv rfl)) ?_
            have hq := bindO_inv hr
            clear hr
            obtain ⟨o_5, hr, hk⟩ := hq
            refine wo_join 4 (g9_J5 x11 c15 s25 m_3 o_5) ?_ ?_
            · clear hk
              have hq := cond_inv hr
              clear hr
              rcases hq with ⟨rfl, hr⟩ | ⟨rfl, hr⟩
              · refine wo_take (v := (.i .i64 x26)) rfl (s_pure (p_mv g9)) ?_
                have hq := forceB_inv hr
                clear hr
                obtain ⟨c51, e51, hr⟩ := hq
                refine wo_take (v := (.b c51)) rfl (s_pure (p_bin rfl rfl (b_neq.trans (cb e51)))) ?_
                refine wo_take (v := (.b c51)) rfl (s_pure (p_pickT rfl rfl)) ?_
                refine wo_step (v := (.b c51)) (s_pure (p_pickF rfl rfl)) ?_
                refine wo_nil ?_
                cases hr
                exact ⟨_, _, rfl, rfl, gl rfl, gl g3, gl g4, gl g8⟩
              · refine wo_skip (v := (.b false)) rfl rfl ?_
                refine wo_skip (v := (.b false)) rfl rfl ?_
                refine wo_take (v := (.b false)) rfl (s_pure (p_pickF rfl rfl)) ?_
                refine wo_step (v := (.b false)) (s_pure (p_pickF rfl rfl)) ?_
                refine wo_nil ?_
                cases hr
                exact ⟨_, _, rfl, rfl, gl rfl, gl g3, gl g4, gl g8⟩
            · clear hr
              have hr := hk
              clear hk
              obtain ⟨c53_1, ho⟩ : ∃ z, z = o_5 := ⟨_, rfl⟩
              subst ho
              rintro mm_4 t_5 ⟨rfl, g53, g3, g4, g8⟩
              refine wo_nil ?_
              cases hr
              exact ⟨_, _, rfl, rfl, gl g53, gl g3, gl g4, gl g8⟩
        · clear hr
          have hr := hk
          clear hk
          obtain ⟨c53, ho⟩ : ∃ z, z = o_4 := ⟨_, rfl⟩
          subst ho
          rintro mm_5 t_6 ⟨rfl, g53, g3, g4, g8⟩
          refine wo_nil ?_
          refine nx_norm ?_
          have hq := cond_inv hr
          clear hr
          rcases hq with ⟨rfl, hr⟩ | ⟨rfl, hr⟩
          · refine w_condT g53 ?_
            refine w_seq ?_
            refine w_ops ?_
            refine wo_step (v := (.b false)) (s_pure (p_mv rfl)) ?_
            refine wo_nil ?_
            refine nx_norm ?_
            refine w_ret ?_
            refine nx_ret ?_
            exact qf ret_ok (rt rfl rn) hr
          · refine w_condF g53 ?_
            refine w_skip ?_
            refine nx_norm ?_
            refine w_seq ?_
            refine w_seq ?_
            refine w_ops ?_
            refine wo_step (v := (.b c15)) (s_pure (p_mv g4)) ?_
            refine wo_nil ?_
            refine nx_norm ?_
            have hq := cond_inv hr
            clear hr
            rcases hq with ⟨rfl, hr⟩ | ⟨rfl, hr⟩
            · refine w_condT rfl ?_
              refine w_seq ?_
              refine w_ops ?_
              refine wo_step (v := (.s s25)) (s_pure (p_mv g8)) ?_
              have hq := bindO_inv hr
              clear hr
              obtain ⟨v56, e56, hr⟩ := hq
              have hq := asB_inv hr
              clear hr
              obtain ⟨c56, rfl, hr⟩ := hq
              refine wo_step (v := (.b c56)) (s_pure (o_sbin rfl rfl e56)) ?_
              refine wo_step (v := (.b c56)) (s_pure (p_mv rfl)) ?_
              have hq := bindO_inv hr
              clear hr
              obtain ⟨o_6, hr, hk⟩ := hq
              refine wo_join 2 (g9_J6  o_6) ?_ ?_
              · clear hk
                have hq := cond_inv hr
                clear hr
                rcases hq with ⟨rfl, hr⟩ | ⟨rfl, hr⟩
                · have hq := bindP_inv hr
                  clear hr
                  obtain ⟨v58, m_5, e58, hr⟩ := hq
                  have hq := asB_inv hr
                  clear hr
                  obtain ⟨c58, rfl, hr⟩ := hq
                  refine wo_take (v := (.b c58)) rfl (s_call mn (callM_le hM.call e58)) ?_
                  refine wo_step (v := (.b c58)) (s_pure (p_pickT rfl rfl)) ?_
                  refine wo_nil ?_
                  cases hr
                  exact ⟨_, _, rfl, rfl, gl rfl⟩
                · refine wo_skip (v := (.b false)) rfl rfl ?_
                  refine wo_step (v := (.b false)) (s_pure (p_pickF rfl rfl)) ?_
                  refine wo_nil ?_
                  cases hr
                  exact ⟨_, _, rfl, rfl, gl rfl⟩
              · clear hr
                have hr := hk
                clear hk
                obtain ⟨c59, m_4⟩ := o_6
                rintro mm_6 t_7 ⟨rfl, g59⟩
                refine wo_step (v := (.b c59)) (s_pure (p_mv g59)) ?_
                refine wo_nil ?_
                refine nx_norm ?_
                refine w_ret ?_
                refine nx_ret ?_
                exact qf ret_ok (rt rfl rn) hr
            · refine w_condF rfl ?_
              refine w_skip ?_
              refine nx_norm ?_
              refine w_seq ?_
              refine w_ops ?_
              refine wo_step (v := (.i .i64 x11)) (s_pure (p_mv g3)) ?_
              refine wo_step (v := (.s s25)) (s_pure (p_mv g8)) ?_
              have hq := bindP_inv hr
              clear hr
              obtain ⟨v63, m_6, e63, hr⟩ := hq
              refine wo_step (v := v63) (s_call (mc rfl (mc rfl mn)) (callM_le hM.call e63)) ?_
              refine wo_step (v := v63) (s_pure (p_mv rfl)) ?_
              have hq := bindO_inv hr
              clear hr
              obtain ⟨v64, e64, hr⟩ := hq
              have hq := asS_inv hr
              clear hr
              obtain ⟨s64, rfl, hr⟩ := hq
              refine wo_step (v := (.s s64)) (s_pure (o_ext rfl e64)) ?_
              have hq := bindO_inv hr
              clear hr
              obtain ⟨v65, e65, hr⟩ := hq
              have hq := asI_inv hr
              clear hr
              obtain ⟨x65, rfl, hr⟩ := hq
              refine wo_step (v := (.i .i64 x65)) (s_pure (o_ext rfl e65)) ?_
              refine wo_step (v := (.i .i64 x65)) (s_pure (p_mv rfl)) ?_
              refine wo_nil ?_
              refine nx_norm ?_
              refine w_seq ?_
              refine w_seq ?_
              refine w_ops ?_
              refine wo_step (v := (.i .i64 x65)) (s_pure (p_mv rfl)) ?_
              have hq := forceB_inv hr
              clear hr
              obtain ⟨c67, e67, hr⟩ := hq
              refine wo_step (v := (.b c67)) (s_pure (p_bin rfl rfl (b_neq.trans (cb e67)))) ?_
              refine wo_step (v := (.b c67)) (s_pure (p_mv rfl)) ?_
              have hq := bindO_inv hr
              clear hr
              obtain ⟨o_7, hr, hk⟩ := hq
              refine wo_join 4 (g9_J7 x11 s25 m_6 o_7) ?_ ?_
              · clear hk
                have hq := cond_inv hr
                clear hr
                rcases hq with ⟨rfl, hr⟩ | ⟨rfl, hr⟩
                · refine wo_skip (v := (.b true)) rfl rfl ?_
                  refine wo_skip (v := (.b true)) rfl rfl ?_
                  refine wo_skip (v := (.b true)) rfl rfl ?_
                  refine wo_step (v := (.b true)) (s_pure (p_pickT rfl rfl)) ?_
                  refine wo_nil ?_
                  cases hr
                  exact ⟨_, _, rfl, rfl, gl rfl, gl g3, gl g8⟩
                · refine wo_take (v := (.s s25)) rfl (s_pure (p_mv g8)) ?_
                  have hq := bindO_inv hr
                  clear hr
                  obtain ⟨v70, e70, hr⟩ := hq
                  have hq := asI_inv hr
                  clear hr
                  obtain ⟨x70, rfl, hr⟩ := hq
                  refine wo_take (v := (.i .i64 x70)) rfl (s_pure (o_len rfl e70)) ?_
                  have hq := forceB_inv hr
                  clear hr
                  obtain ⟨c71, e71, hr⟩ := hq
                  refine wo_take (v := (.b c71)) rfl (s_pure (p_bin rfl rfl (b_gtr.trans (cb e71)))) ?_
                  refine wo_step (v := (.b c71)) (s_pure (p_pickF rfl rfl)) ?_
                  refine wo_nil ?_
                  cases hr
                  exact ⟨_, _, rfl, rfl, gl rfl, gl g3, gl g8⟩
              · clear hr
                have hr := hk
                clear hk
                obtain ⟨c72, ho⟩ : ∃ z, z = o_7 := ⟨_, rfl⟩
                subst ho
                rintro mm_7 t_8 ⟨rfl, g72, g3, g8⟩
                refine wo_nil ?_
                refine nx_norm ?_
                have hq := cond_inv hr
                clear hr
                rcases hq with ⟨rfl, hr⟩ | ⟨rfl, hr⟩
                · refine w_condT g72 ?_
                  refine w_seq ?_
                  refine w_ops ?_
                  refine wo_step (v := (.b false)) (s_pure (p_mv rfl)) ?_
                  refine wo_nil ?_
                  refine nx_norm ?_
                  refine w_ret ?_
                  refine nx_ret ?_
                  exact qf ret_ok (rt rfl rn) hr
                · refine w_condF g72 ?_
                  refine w_skip ?_
                  refine nx_norm ?_
                  refine w_seq ?_
                  refine w_seq ?_
                  refine w_ops ?_
                  refine wo_step (v := (.s s25)) (s_pure (p_mv g8)) ?_
                  have hq := bindO_inv hr
                  clear hr
                  obtain ⟨v74, e74, hr⟩ := hq
                  have hq := asI_inv hr
                  clear hr
                  obtain ⟨x74, rfl, hr⟩ := hq
                  refine wo_step (v := (.i .i64 x74)) (s_pure (o_len rfl e74)) ?_
                  have hq := forceB_inv hr
                  clear hr
                  obtain ⟨c75, e75, hr⟩ := hq
                  refine wo_step (v := (.b c75)) (s_pure (p_bin rfl rfl (b_gtr.trans (cb e75)))) ?_
                  refine wo_nil ?_
                  refine nx_norm ?_
                  have hq := bindO_inv hr
                  clear hr
                  obtain ⟨o_8, hr, hk⟩ := hq
                  refine jp_mono (J := g9_J8  o_8) ?_ ?_
                  · clear hk
                    have hq := cond_inv hr
                    clear hr
                    rcases hq with ⟨rfl, hr⟩ | ⟨rfl, hr⟩
                    · refine w_condT rfl ?_
                      refine w_seq ?_
                      refine w_ops ?_
                      refine wo_step (v := (.i .i64 x11)) (s_pure (p_mv g3)) ?_
                      refine wo_step (v := (.s s25)) (s_pure (p_mv g8)) ?_
                      have hq := bindO_inv hr
                      clear hr
                      obtain ⟨v79, e79, hr⟩ := hq
                      have hq := asS_inv hr
                      clear hr
                      obtain ⟨s79, rfl, hr⟩ := hq
                      refine wo_step (v := (.s s79)) (s_pure (o_slStr rfl (os rfl) on e79)) ?_
                      have hq := bindP_inv hr
                      clear hr
                      obtain ⟨v80, m_7, e80, hr⟩ := hq
                      refine wo_step (v := v80) (s_call (mc rfl (mc rfl mn)) (callM_le hM.call e80)) ?_
                      refine wo_step (v := v80) (s_pure (p_mv rfl)) ?_
                      have hq := bindO_inv hr
                      clear hr
                      obtain ⟨v81, e81, hr⟩ := hq
                      have hq := asS_inv hr
                      clear hr
                      obtain ⟨s81, rfl, hr⟩ := hq
                      refine wo_step (v := (.s s81)) (s_pure (o_ext rfl e81)) ?_
                      have hq := bindO_inv hr
                      clear hr
                      obtain ⟨v82, e82, hr⟩ := hq
                      have hq := asI_inv hr
                      clear hr
                      obtain ⟨x82, rfl, hr⟩ := hq
                      refine wo_step (v := (.i .i64 x82)) (s_pure (o_ext rfl e82)) ?_
                      refine wo_step (v := (.i .i64 x82)) (s_pure (p_mv rfl)) ?_
                      refine wo_nil ?_
                      refine nx_norm ?_
                      refine w_seq ?_
                      refine w_ops ?_
                      refine wo_step (v := (.i .i64 x11)) (s_pure (p_mv g3)) ?_
                      refine wo_step (v := (.s s25)) (s_pure (p_mv g8)) ?_
                      refine wo_step (v := (.s s25)) (s_pure (p_mv g8)) ?_
                      have hq := bindO_inv hr
                      clear hr
                      obtain ⟨v87, e87, hr⟩ := hq
                      have hq := asI_inv hr
                      clear hr
                      obtain ⟨x87, rfl, hr⟩ := hq
                      refine wo_step (v := (.i .i64 x87)) (s_pure (o_len rfl e87)) ?_
                      have hq := forceI_inv hr
                      clear hr
                      obtain ⟨x88, e88, hr⟩ := hq
                      refine wo_step (v := (.i .i64 x88)) (s_pure (p_bin rfl rfl (b_sub.trans (ci e88)))) ?_
                      have hq := bindO_inv hr
                      clear hr
                      obtain ⟨v89, e89, hr⟩ := hq
                      have hq := asS_inv hr
                      clear hr
                      obtain ⟨s89, rfl, hr⟩ := hq
                      refine wo_step (v := (.s s89)) (s_pure (o_slStr rfl on (os rfl) e89)) ?_
                      have hq := bindP_inv hr
                      clear hr
                      obtain ⟨v90, m_8, e90, hr⟩ := hq
                      refine wo_step (v := v90) (s_call (mc rfl (mc rfl mn)) (callM_le hM.call e90)) ?_
                      refine wo_step (v := v90) (s_pure (p_mv rfl)) ?_
                      have hq := bindO_inv hr
                      clear hr
                      obtain ⟨v91, e91, hr⟩ := hq
                      have hq := asS_inv hr
                      clear hr
                      obtain ⟨s91, rfl, hr⟩ := hq
                      refine wo_step (v := (.s s91)) (s_pure (o_ext rfl e91)) ?_
                      have hq := bindO_inv hr
                      clear hr
                      obtain ⟨v92, e92, hr⟩ := hq
                      have hq := asI_inv hr
                      clear hr
                      obtain ⟨x92, rfl, hr⟩ := hq
                      refine wo_step (v := (.i .i64 x92)) (s_pure (o_ext rfl e92)) ?_
                      refine wo_step (v := (.i .i64 x92)) (s_pure (p_mv rfl)) ?_
                      refine wo_nil ?_
                      refine nx_norm ?_
                      refine w_seq ?_
                      refine w_seq ?_
                      refine w_ops ?_
                      refine wo_step (v := (.i .i64 x82)) (s_pure (p_mv rfl)) ?_
                      have hq := forceB_inv hr
                      clear hr
                      obtain ⟨c94, e94, hr⟩ := hq
                      refine wo_step (v := (.b c94)) (s_pure (p_bin rfl rfl (b_neq.trans (cb e94)))) ?_
                      refine wo_step (v := (.b c94)) (s_pure (p_mv rfl)) ?_
                      have hq := bindO_inv hr
                      clear hr
                      obtain ⟨o_9, hr, hk⟩ := hq
                      refine wo_join 3 (g9_J9 x11 s25 m_8 o_9) ?_ ?_
                      · clear hk
                        have hq := cond_inv hr
                        clear hr
                        rcases hq with ⟨rfl, hr⟩ | ⟨rfl, hr⟩
                        · refine wo_skip (v := (.b true)) rfl rfl ?_
                          refine wo_skip (v := (.b true)) rfl rfl ?_
                          refine wo_step (v := (.b true)) (s_pure (p_pickT rfl rfl)) ?_
                          refine wo_nil ?_
                          cases hr
                          exact ⟨_, _, rfl, rfl, gl rfl, gl g3, gl g8⟩
                        · refine wo_take (v := (.i .i64 x92)) rfl (s_pure (p_mv rfl)) ?_
                          have hq := forceB_inv hr
                          clear hr
                          obtain ⟨c97, e97, hr⟩ := hq
                          refine wo_take (v := (.b c97)) rfl (s_pure (p_bin rfl rfl (b_neq.trans (cb e97)))) ?_
                          refine wo_step (v := (.b c97)) (s_pure (p_pickF rfl rfl)) ?_
                          refine wo_nil ?_
                          cases hr
                          exact ⟨_, _, rfl, rfl, gl rfl, gl g3, gl g8⟩
                      · clear hr
                        have hr := hk
                        clear hk
                        obtain ⟨c98, ho⟩ : ∃ z, z = o_9 := ⟨_, rfl⟩
                        subst ho
                        rintro mm_8 t_9 ⟨rfl, g98, g3, g8⟩
                        refine wo_nil ?_
                        refine nx_norm ?_
                        have hq := cond_inv hr
                        clear hr
                        rcases hq with ⟨rfl, hr⟩ | ⟨rfl, hr⟩
                        · refine w_condT g98 ?_
                          refine w_seq ?_
                          refine w_ops ?_
                          refine wo_step (v := (.b false)) (s_pure (p_mv rfl)) ?_
                          refine wo_nil ?_
                          refine nx_norm ?_
                          refine w_ret ?_
                          refine nx_ret ?_
                          cases hr
                          exact ⟨_, _, rfl, rfl, rfl, gl rfl⟩
                        · refine w_condF g98 ?_
                          refine w_skip ?_
                          refine nx_norm ?_
                          refine w_seq ?_
                          refine w_ops ?_
                          refine wo_step (v := (.i .i64 x11)) (s_pure (p_mv g3)) ?_
                          refine wo_step (v := (.s s25)) (s_pure (p_mv g8)) ?_
                          have hq := bindO_inv hr
                          clear hr
                          obtain ⟨v102, e102, hr⟩ := hq
                          have hq := asI_inv hr
                          clear hr
                          obtain ⟨x102, rfl, hr⟩ := hq
                          refine wo_step (v := (.i .i64 x102)) (s_pure (o_len rfl e102)) ?_
                          have hq := forceI_inv hr
                          clear hr
                          obtain ⟨x103, e103, hr⟩ := hq
                          refine wo_step (v := (.i .i64 x103)) (s_pure (p_bin rfl rfl (b_sub.trans (ci e103)))) ?_
                          have hq := bindP_inv hr
                          clear hr
                          obtain ⟨v104, m_9, e104, hr⟩ := hq
                          refine wo_step (v := v104) (s_call (mc rfl (mc rfl mn)) (callM_le hM.call e104)) ?_
                          refine wo_step (v := v104) (s_pure (p_mv rfl)) ?_
                          have hq := bindO_inv hr
                          clear hr
                          obtain ⟨v105, e105, hr⟩ := hq
                          have hq := asS_inv hr
                          clear hr
                          obtain ⟨s105, rfl, hr⟩ := hq
                          refine wo_step (v := (.s s105)) (s_pure (o_ext rfl e105)) ?_
                          have hq := bindO_inv hr
                          clear hr
                          obtain ⟨v106, e106, hr⟩ := hq
                          have hq := asI_inv hr
                          clear hr
                          obtain ⟨x106, rfl, hr⟩ := hq
                          refine wo_step (v := (.i .i64 x106)) (s_pure (o_ext rfl e106)) ?_
                          refine wo_step (v := (.i .i64 x106)) (s_pure (p_mv rfl)) ?_
                          refine wo_nil ?_
                          refine nx_norm ?_
                          refine w_seq ?_
                          refine w_ops ?_
                          refine wo_step (v := (.i .i64 x106)) (s_pure (p_mv rfl)) ?_
                          have hq := forceB_inv hr
                          clear hr
                          obtain ⟨c108, e108, hr⟩ := hq
                          refine wo_step (v := (.b c108)) (s_pure (p_bin rfl rfl (b_neq.trans (cb e108)))) ?_
                          refine wo_nil ?_
                          refine nx_norm ?_
                          have hq := cond_inv hr
                          clear hr
                          rcases hq with ⟨rfl, hr⟩ | ⟨rfl, hr⟩
                          · refine w_condT rfl ?_
                            refine w_seq ?_
                            refine w_ops ?_
                            refine wo_step (v := (.b false)) (s_pure (p_mv rfl)) ?_
                            refine wo_nil ?_
                            refine nx_norm ?_
                            refine w_ret ?_
                            cases hr
                            exact ⟨_, _, rfl, rfl, rfl, gl rfl⟩
                          · refine w_condF rfl ?_
                            refine w_skip ?_
                            cases hr
                            exact ⟨_, _, rfl, rfl, rfl⟩
                    · refine w_condF rfl ?_
                      refine w_skip ?_
                      cases hr
                      exact ⟨_, _, rfl, rfl, rfl⟩
                  · have hr := hk
                    clear hk
                    rcases o_8 with o_8 | o_8
                    · obtain ⟨m_10, ho⟩ : ∃ z, z = o_8 := ⟨_, rfl⟩
                      subst ho
                      rintro _ mm_9 t_10 ⟨rfl, rfl⟩
                      refine nx_norm ?_
                      refine w_seq ?_
                      refine w_ops ?_
                      have hq := bindP_inv hr
                      clear hr
                      obtain ⟨v109, m_11, e109, hr⟩ := hq
                      have hq := asB_inv hr
                      clear hr
                      obtain ⟨c109, rfl, hr⟩ := hq
                      refine wo_step (v := (.b c109)) (s_call mn (callM_le hM.call e109)) ?_
                      refine wo_step (v := (.b c109)) (s_pure (p_mv rfl)) ?_
                      refine wo_nil ?_
                      refine nx_norm ?_
                      refine w_ret ?_
                      exact qf ret_ok (rt rfl rn) hr
                    · obtain ⟨c2, m_12⟩ := o_8
                      rintro _ mm_10 t_11 ⟨rfl, rfl, g2⟩
                      refine nx_ret ?_
                      exact qf ret_ok (rt g2 rn) hr

/- dibber/dibberlaw02.alive -/
abbrev g15_J0 (s16 : List UInt8) (x17 : Int) (c20 : Bool) (x21 : Int) (x24 : Int) (x25 : Int) (x26 : Int) (m_4 : Mm) (o : Bool) (m1 : Mm) (t1 : Tr) : Prop :=
  match o with
  | c32 => m_4 = m1 ∧ t1.get 32 = (.b c32) ∧ t1.get 3 = (.s s16) ∧ t1.get 4 = (.i .i64 x17) ∧ t1.get 5 = (.b c20) ∧ t1.get 6 = (.i .i64 x21) ∧ t1.get 7 = (.i .i64 x24) ∧ t1.get 8 = (.i .i64 x25) ∧ t1.get 9 = (.i .i64 x26)
abbrev g15_J1 (s16 : List UInt8) (c20 : Bool) (x21 : Int) (x24 : Int) (x25 : Int) (x26 : Int) (m_4 : Mm) (o : Bool) (m1 : Mm) (t1 : Tr) : Prop :=
  match o with
  | c36 => m_4 = m1 ∧ t1.get 36 = (.b c36) ∧ t1.get 3 = (.s s16) ∧ t1.get 5 = (.b c20) ∧ t1.get 6 = (.i .i64 x21) ∧ t1.get 7 = (.i .i64 x24) ∧ t1.get 8 = (.i .i64 x25) ∧ t1.get 9 = (.i .i64 x26)
abbrev g15_J2 (c20 : Bool) (x21 : Int) (x24 : Int) (x25 : Int) (x26 : Int) (m_4 : Mm) (o : Bool) (m1 : Mm) (t1 : Tr) : Prop :=
  match o with
  | c40 => m_4 = m1 ∧ t1.get 40 = (.b c40) ∧ t1.get 5 = (.b c20) ∧ t1.get 6 = (.i .i64 x21) ∧ t1.get 7 = (.i .i64 x24) ∧ t1.get 8 = (.i .i64 x25) ∧ t1.get 9 = (.i .i64 x26)
abbrev g15_J3 (c20 : Bool) (x24 : Int) (x25 : Int) (x26 : Int) (m_4 : Mm) (o : Bool) (m1 : Mm) (t1 : Tr) : Prop :=
  match o with
  | c44 => m_4 = m1 ∧ t1.get 44 = (.b c44) ∧ t1.get 5 = (.b c20) ∧ t1.get 7 = (.i .i64 x24) ∧ t1.get 8 = (.i .i64 x25) ∧ t1.get 9 = (.i .i64 x26)
abbrev g15_J4 (x24 : Int) (x25 : Int) (x26 : Int) (m_4 : Mm) (o : Bool) (m1 : Mm) (t1 : Tr) : Prop :=
  match o with
  | c47 => m_4 = m1 ∧ t1.get 47 = (.b c47) ∧ t1.get 7 = (.i .i64 x24) ∧ t1.get 8 = (.i .i64 x25) ∧ t1.get 9 = (.i .i64 x26)
abbrev g15_J5 (x24 : Int) (x25 : Int) (m_4 : Mm) (o : Bool) (m1 : Mm) (t1 : Tr) : Prop :=
  match o with
  | c51 => m_4 = m1 ∧ t1.get 51 = (.b c51) ∧ t1.get 7 = (.i .i64 x24) ∧ t1.get 8 = (.i .i64 x25)
abbrev g15_J6 (x25 : Int) (m_4 : Mm) (o : Bool) (m1 : Mm) (t1 : Tr) : Prop :=
  match o with
  | c55 => m_4 = m1 ∧ t1.get 55 = (.b c55) ∧ t1.get 8 = (.i .i64 x25)
abbrev g15_J7 (m_4 : Mm) (o : Bool) (m1 : Mm) (t1 : Tr) : Prop :=
  match o with
  | c59 => m_4 = m1 ∧ t1.get 59 = (.b c59)
def g15 (M : Means) (ro : List ABlk)  (m0 : Mm) : Option (AVal × Heap × Nat × Nat) :=
  bindP (callM M.call m0 16 [(.i .i64 90), (AVal.s [48, 48, 49, 48, 48])]) fun v11 m_1 =>
  bindO (evP .e (.ext 0 (.c v11))) fun v12 =>
  asS v12 fun s12 =>
  bindO (evP .e (.ext 1 (.c v11))) fun v13 =>
  asI .i64 v13 fun x13 =>
  bindP (callM M.call m_1 26 [(.i .i64 110), (.i .i64 20)]) fun v15 m_2 =>
  bindO (evP .e (.ext 0 (.c v15))) fun v16 =>
  asS v16 fun s16 =>
  bindO (evP .e (.ext 1 (.c v15))) fun v17 =>
  asI .i64 v17 fun x17 =>
  bindP (callM M.call m_2 28 [(.i .i64 30)]) fun v19 m_3 =>
  bindO (evP .e (.ext 0 (.c v19))) fun v20 =>
  asB v20 fun c20 =>
  bindO (evP .e (.ext 1 (.c v19))) fun v21 =>
  asI .i64 v21 fun x21 =>
  bindP (callM M.call m_3 36 [(.i .i64 110)]) fun v23 m_4 =>
  bindO (evP .e (.ext 0 (.c v23))) fun v24 =>
  asI .i64 v24 fun x24 =>
  bindO (evP .e (.ext 1 (.c v23))) fun v25 =>
  asI .i64 v25 fun x25 =>
  bindO (evP .e (.ext 2 (.c v23))) fun v26 =>
  asI .i64 v26 fun x26 =>
  forceB (eqI x13 0) fun c28 =>
  bindO (cond c28 (
    bindO (evP .e (.sbin BinOp.eql (.c (.s s12)) (.c (AVal.s [49, 48, 49])))) fun v31 =>
    asB v31 fun c31 =>
    some c31) (
    some false)) fun c32 =>
  bindO (cond c32 (
    forceB (eqI x17 0) fun c35 =>
    some c35) (
    some false)) fun c36 =>
  bindO (cond c36 (
    bindO (evP .e (.sbin BinOp.eql (.c (.s s16)) (.c (AVal.s [48, 49, 48, 49, 48])))) fun v39 =>
    asB v39 fun c39 =>
    some c39) (
    some false)) fun c40 =>
  bindO (cond c40 (
    forceB (eqI x21 0) fun c43 =>
    some c43) (
    some false)) fun c44 =>
  bindO (cond c44 (
    some c20) (
    some false)) fun c47 =>
  bindO (cond c47 (
    forceB (eqI x26 0) fun c50 =>
    some c50) (
    some false)) fun c51 =>
  bindO (cond c51 (
    forceB (eqI x24 124) fun c54 =>
    some c54) (
    some false)) fun c55 =>
  bindO (cond c55 (
    forceB (eqI x25 137) fun c58 =>
    some c58) (
    some false)) fun c59 =>
  finM m0.h.length (tupA [(.b c59)]) m_4

theorem g15_ok {ro : List ABlk} {O : Caller} {M : Means} (hM : M.Ok ⟨F, O⟩ ro) {h r} (ho : O 15 [] h = none) (hr : g15 M ro  ⟨h, h.length, h.length⟩ = some r) : callX ⟨F, O⟩ ro 15 [] h = some r := by
  refine callX_of (F := ⟨F, O⟩) (fn := fn15) (g := g15 M ro ) ho rfl rfl hr ?_
  clear ho
  clear hr
  intro m0 t0 ht hr

  clear ht
  unfold g15 at hr
  refine w_seq ?_
  refine w_ops ?_
  refine wo_step (v := (.b false)) (s_pure (p_mv rfl)) ?_
  refine wo_nil ?_
  refine nx_norm ?_
  refine w_seq ?_
  refine w_ops ?_
  have hq := bindP_inv hr
  clear hr
  obtain ⟨v11, m_1, e11, hr⟩ := hq
  refine wo_step (v := v11) (s_call (mc rfl (mc rfl mn)) (callM_le hM.call e11)) ?_
  refine wo_step (v := v11) (s_pure (p_mv rfl)) ?_
  have hq := bindO_inv hr
  clear hr
  obtain ⟨v12, e12, hr⟩ := hq
  have hq := asS_inv hr
  clear hr
  obtain ⟨s12, rfl, hr⟩ := hq
  refine wo_step (v := (.s s12)) (s_pure (o_ext rfl e12)) ?_
  have hq := bindO_inv hr
  clear hr
  obtain ⟨v13, e13, hr⟩ := hq
  have hq := asI_inv hr
  clear hr
  obtain ⟨x13, rfl, hr⟩ := hq
  refine wo_step (v := (.i .i64 x13)) (s_pure (o_ext rfl e13)) ?_
  refine wo_step (v := (.s s12)) (s_pure (p_mv rfl)) ?_
  refine wo_step (v := (.i .i64 x13)) (s_pure (p_mv rfl)) ?_
  refine wo_nil ?_
  refine nx_norm ?_
  refine w_seq ?_
  refine w_ops ?_
  have hq := bindP_inv hr
  clear hr
  obtain ⟨v15, m_2, e15, hr⟩ := hq
  refine wo_step (v := v15) (s_call (mc rfl (mc rfl mn)) (callM_le hM.call e15)) ?_
  refine wo_step (v := v15) (s_pure (p_mv rfl)) ?_
  have hq := bindO_inv hr
  clear hr
  obtain ⟨v16, e16, hr⟩ := hq
  have hq := asS_inv hr
  clear hr
  obtain ⟨s16, rfl, hr⟩ := hq
  refine wo_step (v := (.s s16)) (s_pure (o_ext rfl e16)) ?_
  have hq := bindO_inv hr
  clear hr
  obtain ⟨v17, e17, hr⟩ := hq
  have hq := asI_inv hr
  clear hr
  obtain ⟨x17, rfl, hr⟩ := hq
  refine wo_step (v := (.i .i64 x17)) (s_pure (o_ext rfl e17)) ?_
  refine wo_step (v := (.s s16)) (s_pure (p_mv rfl)) ?_
  refine wo_step (v := (.i .i64 x17)) (s_pure (p_mv rfl)) ?_
  refine wo_nil ?_
  refine nx_norm ?_
  refine w_seq ?_
  refine w_ops ?_
  have hq := bindP_inv hr
  clear hr
  obtain ⟨v19, m_3, e19, hr⟩ := hq
  refine wo_step (v := v19) (s_call (mc rfl mn) (callM_le hM.call e19)) ?_
  refine wo_step (v := v19) (s_pure (p_mv rfl)) ?_
  have hq := bindO_inv hr
  clear hr
  obtain ⟨v20, e20, hr⟩ := hq
  have hq := asB_inv hr
  clear hr
  obtain ⟨c20, rfl, hr⟩ := hq
  refine wo_step (v := (.b c20)) (s_pure (o_ext rfl e20)) ?_
  have hq := bindO_inv hr
  clear hr
  obtain ⟨v21, e21, hr⟩ := hq
  have hq := asI_inv hr
  clear hr
  obtain ⟨x21, rfl, hr⟩ := hq
  refine wo_step (v := (.i .i64 x21)) (s_pure (o_ext rfl e21)) ?_
  refine wo_step (v := (.b c20)) (s_pure (p_mv rfl)) ?_
  refine wo_step (v := (.i .i64 x21)) (s_pure (p_mv rfl)) ?_
  refine wo_nil ?_
  refine nx_norm ?_
  refine w_seq ?_
  refine w_ops ?_
  have hq := bindP_inv hr
  clear hr
  obtain ⟨v23, m_4, e23, hr⟩ := hq
  refine wo_step (v := v23) (s_call (mc rfl mn) (callM_le hM.call e23)) ?_
  refine wo_step (v := v23) (s_pure (p_mv rfl)) ?_
  have hq := bindO_inv hr
  clear hr
  obtain ⟨v24, e24, hr⟩ := hq
  have hq := asI_inv hr
  clear hr
  obtain ⟨x24, rfl, hr⟩ := hq
  refine wo_step (v := (.i .i64 x24)) (s_pure (o_ext rfl e24)) ?_
  have hq := bindO_inv hr
  clear hr
  obtain ⟨v25, e25, hr⟩ := hq
  have hq := asI_inv hr
  clear hr
  obtain ⟨x25, rfl, hr⟩ := hq
  refine wo_step (v := (.i .i64 x25)) (s_pure (o_ext rfl e25)) ?_
  have hq := bindO_inv hr
  clear hr
  obtain ⟨v26, e26, hr⟩ := hq
  have hq := asI_inv hr
  clear hr
  obtain ⟨x26, rfl, hr⟩ := hq
  refine wo_step (v := (.i .i64 x26)) (s_pure (o_ext rfl e26)) ?_
  refine wo_step (v := (.i .i64 x24)) (s_pure (p_mv rfl)) ?_
  refine wo_step (v := (.i .i64 x25)) (s_pure (p_mv rfl)) ?_
  refine wo_step (v := (.i .i64 x26)) (s_pure (p_mv rfl)) ?_
  refine wo_nil ?_
  refine nx_norm ?_
  refine w_seq ?_
  refine w_ops ?_
  refine wo_step (v := (.i .i64 x13)) (s_pure (p_mv rfl)) ?_
  have hq := forceB_inv hr
  clear hr
  obtain ⟨c28, e28, hr⟩ := hq
  refine wo_step (v := (.b c28)) (s_pure (p_bin rfl rfl (b_eql.trans (cb e28)))) ?_
  refine wo_step (v := (.b c28)) (s_pure (p_mv rfl)) ?_
  have hq := bindO_inv hr
  clear hr
  obtain ⟨o, hr, hk⟩ := hq
  refine wo_join 3 (g15_J0 s16 x17 c20 x21 x24 x25 x26 m_4 o) ?_ ?_
  · clear hk
    have hq := cond_inv hr
    clear hr
    rcases hq with ⟨rfl, hr⟩ | ⟨rfl, hr⟩
    · refine wo_take (v := (.s s12)) rfl (s_pure (p_mv rfl)) ?_
      have hq := bindO_inv hr
      clear hr
      obtain ⟨v31, e31, hr⟩ := hq
      have hq := asB_inv hr
      clear hr
      obtain ⟨c31, rfl, hr⟩ := hq
      refine wo_take (v := (.b c31)) rfl (s_pure (o_sbin rfl rfl e31)) ?_
      refine wo_step (v := (.b c31)) (s_pure (p_pickT rfl rfl)) ?_
      refine wo_nil ?_
      cases hr
      exact ⟨_, _, rfl, rfl, gl rfl, gl rfl, gl rfl, gl rfl, gl rfl, gl rfl, gl rfl, gl rfl⟩
    · refine wo_skip (v := (.b false)) rfl rfl ?_
      refine wo_skip (v := (.b false)) rfl rfl ?_
      refine wo_step (v := (.b false)) (s_pure (p_pickF rfl rfl)) ?_
      refine wo_nil ?_
      cases hr
      exact ⟨_, _, rfl, rfl, gl rfl, gl rfl, gl rfl, gl rfl, gl rfl, gl rfl, gl rfl, gl rfl⟩
  · clear hr
    have hr := hk
    clear hk
    obtain ⟨c32, ho⟩ : ∃ z, z = o := ⟨_, rfl⟩
    subst ho
    rintro mm t_1 ⟨rfl, g32, g3, g4, g5, g6, g7, g8, g9⟩
    refine wo_step (v := (.b c32)) (s_pure (p_mv g32)) ?_
    have hq := bindO_inv hr
    clear hr
    obtain ⟨o_1, hr, hk⟩ := hq
    refine wo_join 3 (g15_J1 s16 c20 x21 x24 x25 x26 m_4 o_1) ?_ ?_
    · clear hk
      have hq := cond_inv hr
      clear hr
      rcases hq with ⟨rfl, hr⟩ | ⟨rfl, hr⟩
      · refine wo_take (v := (.i .i64 x17)) rfl (s_pure (p_mv g4)) ?_
        have hq := forceB_inv hr
        clear hr
        obtain ⟨c35, e35, hr⟩ := hq
        refine wo_take (v := (.b c35)) rfl (s_pure (p_bin rfl rfl (b_eql.trans (cb e35)))) ?_
        refine wo_step (v := (.b c35)) (s_pure (p_pickT rfl rfl)) ?_
        refine wo_nil ?_
        cases hr
        exact ⟨_, _, rfl, rfl, gl rfl, gl g3, gl g5, gl g6, gl g7, gl g8, gl g9⟩
      · refine wo_skip (v := (.b false)) rfl rfl ?_
        refine wo_skip (v := (.b false)) rfl rfl ?_
        refine wo_step (v := (.b false)) (s_pure (p_pickF rfl rfl)) ?_
        refine wo_nil ?_
        cases hr
        exact ⟨_, _, rfl, rfl, gl rfl, gl g3, gl g5, gl g6, gl g7, gl g8, gl g9⟩
    · clear hr
      have hr := hk
      clear hk
      obtain ⟨c36, ho⟩ : ∃ z, z = o_1 := ⟨_, rfl⟩
      subst ho
      rintro mm_1 t_2 ⟨rfl, g36, g3, g5, g6, g7, g8, g9⟩
      refine wo_step (v := (.b c36)) (s_pure (p_mv g36)) ?_
      have hq := bindO_inv hr
      clear hr
      obtain ⟨o_2, hr, hk⟩ := hq
      refine wo_join 3 (g15_J2 c20 x21 x24 x25 x26 m_4 o_2) ?_ ?_
      · clear hk
        have hq := cond_inv hr
        clear hr
        rcases hq with ⟨rfl, hr⟩ | ⟨rfl, hr⟩
        · refine wo_take (v := (.s s16)) rfl (s_pure (p_mv g3)) ?_
          have hq := bindO_inv hr
          clear hr
          obtain ⟨v39, e39, hr⟩ := hq
          have hq := asB_inv hr
          clear hr
          obtain ⟨c39, rfl, hr⟩ := hq
          refine wo_take (v := (.b c39)) rfl (s_pure (o_sbin rfl rfl e39)) ?_
          refine wo_step (v := (.b c39)) (s_pure (p_pickT rfl rfl)) ?_
          refine wo_nil ?_
          cases hr
          exact ⟨_, _, rfl, rfl, gl rfl, gl g5, gl g6, gl g7, gl g8, gl g9⟩
        · refine wo_skip (v := (.b false)) rfl rfl ?_
          refine wo_skip (v := (.b false)) rfl rfl ?_
          refine wo_step (v := (.b false)) (s_pure (p_pickF rfl rfl)) ?_
          refine wo_nil ?_
          cases hr
          exact ⟨_, _, rfl, rfl, gl rfl, gl g5, gl g6, gl g7, gl g8, gl g9⟩
      · clear hr
        have hr := hk
        clear hk
        obtain ⟨c40, ho⟩ : ∃ z, z = o_2 := ⟨_, rfl⟩
        subst ho
        rintro mm_2 t_3 ⟨rfl, g40, g5, g6, g7, g8, g9⟩
        refine wo_step (v := (.b c40)) (s_pure (p_mv g40)) ?_
        have hq := bindO_inv hr
        clear hr
        obtain ⟨o_3, hr, hk⟩ := hq
        refine wo_join 3 (g15_J3 c20 x24 x25 x26 m_4 o_3) ?_ ?_
        · clear hk
          have hq := cond_inv hr
          clear hr
          rcases hq with ⟨rfl, hr⟩ | ⟨rfl, hr⟩
          · refine wo_take (v := (.i .i64 x21)) rfl (s_pure (p_mv g6)) ?_
            have hq := forceB_inv hr
            clear hr
            obtain ⟨c43, e43, hr⟩ := hq
            refine wo_take (v := (.b c43)) rfl (s_pure (p_bin rfl rfl (b_eql.trans (cb e43)))) ?_
            refine wo_step (v := (.b c43)) (s_pure (p_pickT rfl rfl)) ?_
            refine wo_nil ?_
            cases hr
            exact ⟨_, _, rfl, rfl, gl rfl, gl g5, gl g7, gl g8, gl g9⟩
          · refine wo_skip (v := (.b false)) rfl rfl ?_
            refine wo_skip (v := (.b false)) rfl rfl ?_
            refine wo_step (v := (.b false)) (s_pure (p_pickF rfl rfl)) ?_
            refine wo_nil ?_
            cases hr
            exact ⟨_, _, rfl, rfl, gl rfl, gl g5, gl g7, gl g8, gl g9⟩
        · clear hr
          have hr := hk
          clear hk
          obtain ⟨c44, ho⟩ : ∃ z, z = o_3 := ⟨_, rfl⟩
          subst ho
          rintro mm_3 t_4 ⟨rfl, g44, g5, g7, g8, g9⟩
          refine wo_step (v := (.b c44)) (s_pure (p_mv g44)) ?_
          have hq := bindO_inv hr
          clear hr
          obtain ⟨o_4, hr, hk⟩ := hq
          refine wo_join 2 (g15_J4 x24 x25 x26 m_4 o_4) ?_ ?_
          · clear hk
            have hq := cond_inv hr
            clear hr
            rcases hq with ⟨rfl, hr⟩ | ⟨rfl, hr⟩
            · refine wo_take (v := (.b c20)) rfl (s_pure (p_mv g5)) ?_
              refine wo_step (v := (.b c20)) (s_pure (p_pickT rfl rfl)) ?_
              refine wo_nil ?_
              cases hr
              exact ⟨_, _, rfl, rfl, gl rfl, gl g7, gl g8, gl g9⟩
            · refine wo_skip (v := (.b false)) rfl rfl ?_
              refine wo_step (v := (.b false)) (s_pure (p_pickF rfl rfl)) ?_
              refine wo_nil ?_
              cases hr
              exact ⟨_, _, rfl, rfl, gl rfl, gl g7, gl g8, gl g9⟩
          · clear hr
            have hr := hk
            clear hk
            obtain ⟨c47, ho⟩ : ∃ z, z = o_4 := ⟨_, rfl⟩
            subst ho
            rintro mm_4 t_5 ⟨rfl, g47, g7, g8, g9⟩
            refine wo_step (v := (.b c47)) (s_pure (p_mv g47)) ?_
            have hq := bindO_inv hr
            clear hr
            obtain ⟨o_5, hr, hk⟩ := hq
            refine wo_join 3 (g15_J5 x24 x25 m_4 o_5) ?_ ?_
            · clear hk
              have hq := cond_inv hr
              clear hr
              rcases hq with ⟨rfl, hr⟩ | ⟨rfl, hr⟩
              · refine wo_take (v := (.i .i64 x26)) rfl (s_pure (p_mv g9)) ?_
                have hq := forceB_inv hr
                clear hr
                obtain ⟨c50, e50, hr⟩ := hq
                refine wo_take (v := (.b c50)) rfl (s_pure (p_bin rfl rfl (b_eql.trans (cb e50)))) ?_
                refine wo_step (v := (.b c50)) (s_pure (p_pickT rfl rfl)) ?_
                refine wo_nil ?_
                cases hr
                exact ⟨_, _, rfl, rfl, gl rfl, gl g7, gl g8⟩
              · refine wo_skip (v := (.b false)) rfl rfl ?_
                refine wo_skip (v := (.b false)) rfl rfl ?_
                refine wo_step (v := (.b false)) (s_pure (p_pickF rfl rfl)) ?_
                refine wo_nil ?_
                cases hr
                exact ⟨_, _, rfl, rfl, gl rfl, gl g7, gl g8⟩
            · clear hr
              have hr := hk
              clear hk
              obtain ⟨c51, ho⟩ : ∃ z, z = o_5 := ⟨_, rfl⟩
              subst ho
              rintro mm_5 t_6 ⟨rfl, g51, g7, g8⟩
              refine wo_step (v := (.b c51)) (s_pure (p_mv g51)) ?_
              have hq := bindO_inv hr
              clear hr
              obtain ⟨o_6, hr, hk⟩ := hq
              refine wo_join 3 (g15_J6 x25 m_4 o_6) ?_ ?_
              · clear hk
                have hq := cond_inv hr
                clear hr
                rcases hq with ⟨rfl, hr⟩ | ⟨rfl, hr⟩
                · refine wo_take (v := (.i .i64 x24)) rfl (s_pure (p_mv g7)) ?_
                  have hq := forceB_inv hr
                  clear hr
                  obtain ⟨c54, e54, hr⟩ := hq
                  refine wo_take (v := (.b c54)) rfl (s_pure (p_bin rfl rfl (b_eql.trans (cb e54)))) ?_
                  refine wo_step (v := (.b c54)) (s_pure (p_pickT rfl rfl)) ?_
                  refine wo_nil ?_
                  cases hr
                  exact ⟨_, _, rfl, rfl, gl rfl, gl g8⟩
                · refine wo_skip (v := (.b false)) rfl rfl ?_
                  refine wo_skip (v := (.b false)) rfl rfl ?_
                  refine wo_step (v := (.b false)) (s_pure (p_pickF rfl rfl)) ?_
                  refine wo_nil ?_
                  cases hr
                  exact ⟨_, _, rfl, rfl, gl rfl, gl g8⟩
              · clear hr
                have hr := hk
                clear hk
                obtain ⟨c55, ho⟩ : ∃ z, z = o_6 := ⟨_, rfl⟩
                subst ho
                rintro mm_6 t_7 ⟨rfl, g55, g8⟩
                refine wo_step (v := (.b c55)) (s_pure (p_mv g55)) ?_
                have hq := bindO_inv hr
                clear hr
                obtain ⟨o_7, hr, hk⟩ := hq
                refine wo_join 3 (g15_J7 m_4 o_7) ?_ ?_
                · clear hk
                  have hq := cond_inv hr
                  clear hr
                  rcases hq with ⟨rfl, hr⟩ | ⟨rfl, hr⟩
                  · refine wo_take (v := (.i .i64 x25)) rfl (s_pure (p_mv g8)) ?_
                    have hq := forceB_inv hr
                    clear hr
                    obtain ⟨c58, e58, hr⟩ := hq
                    refine wo_take (v := (.b c58)) rfl (s_pure (p_bin rfl rfl (b_eql.trans (cb e58)))) ?_
                    refine wo_step (v := (.b c58)) (s_pure (p_pickT rfl rfl)) ?_
                    refine wo_nil ?_
                    cases hr
                    exact ⟨_, _, rfl, rfl, gl rfl⟩
                  · refine wo_skip (v := (.b false)) rfl rfl ?_
                    refine wo_skip (v := (.b false)) rfl rfl ?_
                    refine wo_step (v := (.b false)) (s_pure (p_pickF rfl rfl)) ?_
                    refine wo_nil ?_
                    cases hr
                    exact ⟨_, _, rfl, rfl, gl rfl⟩
                · clear hr
                  have hr := hk
                  clear hk
                  obtain ⟨c59, ho⟩ : ∃ z, z = o_7 := ⟨_, rfl⟩
                  subst ho
                  rintro mm_7 t_8 ⟨rfl, g59⟩
                  refine wo_step (v := (.b c59)) (s_pure (p_mv g59)) ?_
                  refine wo_nil ?_
                  refine nx_norm ?_
                  refine w_ret ?_
                  exact qf ret_ok (rt rfl rn) hr

/- dibber/weed.Grow -/

def g16 (M : Means) (ro : List ABlk) (x0 : Int) (s1 : List UInt8) (m0 : Mm) : Option (AVal × Heap × Nat × Nat) :=
  bindP (callM M.call m0 45 [(.i .i64 x0), (.s s1)]) fun v11 m_1 =>
  bindO (evP .e (.ext 0 (.c v11))) fun v12 =>
  asI .u8 v12 fun x12 =>
  bindO (evP .e (.ext 1 (.c v11))) fun v13 =>
  asI .i64 v13 fun x13 =>
  forceB (!eqI x13 0) fun c15 =>
  cond c15 (
    finM m0.h.length (tupA [(AVal.s []), (.i .i64 x13)]) m_1) (
    bindO (evP .e (.len true (.c (.s s1)))) fun v18 =>
    asI .i64 v18 fun x18 =>
    forceB (ltI x18 3) fun c19 =>
    cond c19 (
      finM m0.h.length (tupA [(AVal.s []), (.i .i64 5)]) m_1) (
      bindP (callM M.call m_1 46 [(.i .u8 x12), (.s s1)]) fun v22 m_2 =>
      asS v22 fun s22 =>
      finM m0.h.length (tupA [(.s s22), (.i .i64 0)]) m_2))

theorem g16_ok {ro : List ABlk} {O : Caller} {M : Means} (hM : M.Ok ⟨F, O⟩ ro) {x0 s1 h r} (ho : O 16 [(.i .i64 x0), (.s s1)] h = none) (hr : g16 M ro x0 s1 ⟨h, h.length, h.length⟩ = some r) : callX ⟨F, O⟩ ro 16 [(.i .i64 x0), (.s s1)] h = some r := by
  refine callX_of (F := ⟨F, O⟩) (fn := fn16) (g := g16 M ro x0 s1) ho rfl rfl hr ?_
  clear ho
  clear hr
  intro m0 t0 ht hr
  have g0 : t0.get 0 = (.i .i64 x0) := ht 0
  have g1 : t0.get 1 = (.s s1) := ht 1
  clear ht
  unfold g16 at hr
  refine w_seq ?_
  refine w_ops ?_
  refine wo_step (v := (AVal.s [])) (s_pure (p_mv rfl)) ?_
  refine wo_step (v := (.i .i64 0)) (s_pure (p_mv rfl)) ?_
  refine wo_nil ?_
  refine nx_norm ?_
  refine w_seq ?_
  refine w_ops ?_
  refine wo_step (v := (.i .i64 x0)) (s_pure (p_mv g0)) ?_
  refine wo_step (v := (.s s1)) (s_pure (p_mv g1)) ?_
  have hq := bindP_inv hr
  clear hr
  obtain ⟨v11, m_1, e11, hr⟩ := hq
  refine wo_step (v := v11) (s_call (mc rfl (mc rfl mn)) (callM_le hM.call e11)) ?_
  refine wo_step (v := v11) (s_pure (p_mv rfl)) ?_
  have hq := bindO_inv hr
  clear hr
  obtain ⟨v12, e12, hr⟩ := hq
  have hq := asI_inv hr
  clear hr
  obtain ⟨x12, rfl, hr⟩ := hq
  refine wo_step (v := (.i .u8 x12)) (s_pure (o_ext rfl e12)) ?_
  have hq := bindO_inv hr
  clear hr
  obtain ⟨v13, e13, hr⟩ := hq
  have hq := asI_inv hr
  clear hr
  obtain ⟨x13, rfl, hr⟩ := hq
  refine wo_step (v := (.i .i64 x13)) (s_pure (o_ext rfl e13)) ?_
  refine wo_step (v := (.i .u8 x12)) (s_pure (p_mv rfl)) ?_
  refine wo_step (v := (.i .i64 x13)) (s_pure (p_mv rfl)) ?_
  refine wo_nil ?_
  refine nx_norm ?_
  refine w_seq ?_
  refine w_seq ?_
  refine w_ops ?_
  refine wo_step (v := (.i .i64 x13)) (s_pure (p_mv rfl)) ?_
  have hq := forceB_inv hr
  clear hr
  obtain ⟨c15, e15, hr⟩ := hq
  refine wo_step (v := (.b c15)) (s_pure (p_bin rfl rfl (b_neq.trans (cb e15)))) ?_
  refine wo_nil ?_
  refine nx_norm ?_
  have hq := cond_inv hr
  clear hr
  rcases hq with ⟨rfl, hr⟩ | ⟨rfl, hr⟩
  · refine w_condT rfl ?_
    refine w_seq ?_
    refine w_ops ?_
    refine wo_step (v := (.i .i64 x13)) (s_pure (p_mv rfl)) ?_
    refine wo_step (v := (AVal.s [])) (s_pure (p_mv rfl)) ?_
    refine wo_step (v := (.i .i64 x13)) (s_pure (p_mv rfl)) ?_
    refine wo_nil ?_
    refine nx_norm ?_
    refine w_ret ?_
    refine nx_ret ?_
    exact qf ret_ok (rt rfl (rt rfl rn)) hr
  · refine w_condF rfl ?_
    refine w_skip ?_
    refine nx_norm ?_
    refine w_seq ?_
    refine w_seq ?_
    refine w_ops ?_
    refine wo_step (v := (.s s1)) (s_pure (p_mv g1)) ?_
    have hq := bindO_inv hr
    clear hr
    obtain ⟨v18, e18, hr⟩ := hq
    have hq := asI_inv hr
    clear hr
    obtain ⟨x18, rfl, hr⟩ := hq
    refine wo_step (v := (.i .i64 x18)) (s_pure (o_len rfl e18)) ?_
    have hq := forceB_inv hr
    clear hr
    obtain ⟨c19, e19, hr⟩ := hq
    refine wo_step (v := (.b c19)) (s_pure (p_bin rfl rfl (b_lss.trans (cb e19)))) ?_
    refine wo_nil ?_
    refine nx_norm ?_
    have hq := cond_inv hr
    clear hr
    rcases hq with ⟨rfl, hr⟩ | ⟨rfl, hr⟩
    · refine w_condT rfl ?_
      refine w_seq ?_
      refine w_ops ?_
      refine wo_step (v := (AVal.s [])) (s_pure (p_mv rfl)) ?_
      refine wo_step (v := (.i .i64 5)) (s_pure (p_mv rfl)) ?_
      refine wo_nil ?_
      refine nx_norm ?_
      refine w_ret ?_
      refine nx_ret ?_
      exact qf ret_ok (rt rfl (rt rfl rn)) hr
    · refine w_condF rfl ?_
      refine w_skip ?_
      refine nx_norm ?_
      refine w_seq ?_
      refine w_ops ?_
      refine wo_step (v := (.i .u8 x12)) (s_pure (p_mv rfl)) ?_
      refine wo_step (v := (.s s1)) (s_pure (p_mv g1)) ?_
      have hq := bindP_inv hr
      clear hr
      obtain ⟨v22, m_2, e22, hr⟩ := hq
      have hq := asS_inv hr
      clear hr
      obtain ⟨s22, rfl, hr⟩ := hq
      refine wo_step (v := (.s s22)) (s_call (mc rfl (mc rfl mn)) (callM_le hM.call e22)) ?_
      refine wo_step (v := (.s s22)) (s_pure (p_mv rfl)) ?_
      refine wo_step (v := (.i .i64 0)) (s_pure (p_mv rfl)) ?_
      refine wo_nil ?_
      refine nx_norm ?_
      refine w_ret ?_
      exact qf ret_ok (rt rfl (rt rfl rn)) hr

/- dibber/weed.Back -/
abbrev g20_J0 (s1 : List UInt8) (x14 : Int) (x15 : Int) (m_1 : Mm) (o : Bool) (m1 : Mm) (t1 : Tr) : Prop :=
  match o with
  | c22 => m_1 = m1 ∧ t1.get 22 = (.b c22) ∧ t1.get 1 = (.s s1) ∧ t1.get 6 = (.i .u8 x14) ∧ t1.get 7 = (.i .i64 x15)
def g20 (M : Means) (ro : List ABlk) (x0 : Int) (s1 : List UInt8) (m0 : Mm) : Option (AVal × Heap × Nat × Nat) :=
  bindP (callM M.call m0 45 [(.i .i64 x0), (.s s1)]) fun v13 m_1 =>
  bindO (evP .e (.ext 0 (.c v13))) fun v14 =>
  asI .u8 v14 fun x14 =>
  bindO (evP .e (.ext 1 (.c v13))) fun v15 =>
  asI .i64 v15 fun x15 =>
  forceB (!eqI x15 2) fun c17 =>
  bindO (cond c17 (
    bindO (evP .e (.len true (.c (.s s1)))) fun v20 =>
    asI .i64 v20 fun x20 =>
    forceB (ltI 398 x20) fun c21 =>
    some c21) (
    some false)) fun c22 =>
  cond c22 (
    finM m0.h.length (tupA [(AVal.s []), (.i .i64 3)]) m_1) (
    forceB (!eqI x15 0) fun c24 =>
    cond c24 (
      finM m0.h.length (tupA [(AVal.s []), (.i .i64 x15)]) m_1) (
      bindP (callM M.call m_1 53 [(.i .u8 x14), (.s s1)]) fun v29 m_2 =>
      bindO (evP .e (.ext 0 (.c v29))) fun v30 =>
      asS v30 fun s30 =>
      bindO (evP .e (.ext 1 (.c v29))) fun v31 =>
      asB v31 fun c31 =>
      forceB (!c31) fun c33 =>
      cond c33 (
        finM m0.h.length (tupA [(AVal.s []), (.i .i64 10)]) m_2) (
        finM m0.h.length (tupA [(.s s30), (.i .i64 0)]) m_2)))

theorem g20_ok {ro : List ABlk} {O : Caller} {M : Means} (hM : M.Ok ⟨F, O⟩ ro) {x0 s1 h r} (ho : O 20 [(.i .i64 x0), (.s s1)] h = none) (hr : g20 M ro x0 s1 ⟨h, h.length, h.length⟩ = some r) : callX ⟨F, O⟩ ro 20 [(.i .i64 x0), (.s s1)] h = some r := by
  refine callX_of (F := ⟨F, O⟩) (fn := fn20) (g := g20 M ro x0 s1) ho rfl rfl hr ?_
  clear ho
  clear hr
  intro m0 t0 ht hr
  have g0 : t0.get 0 = (.i .i64 x0) := ht 0
  have g1 : t0.get 1 = (.s s1) := ht 1
  clear ht
  unfold g20 at hr
  refine w_seq ?_
  refine w_ops ?_
  refine wo_step (v := (AVal.s [])) (s_pure (p_mv rfl)) ?_
  refine wo_step (v := (.i .i64 0)) (s_pure (p_mv rfl)) ?_
  refine wo_nil ?_
  refine nx_norm ?_
  refine w_seq ?_
  refine w_ops ?_
  refine wo_step (v := (.i .i64 x0)) (s_pure (p_mv g0)) ?_
  refine wo_step (v := (.s s1)) (s_pure (p_mv g1)) ?_
  have hq := bindP_inv hr
  clear hr
  obtain ⟨v13, m_1, e13, hr⟩ := hq
  refine wo_step (v := v13) (s_call (mc rfl (mc rfl mn)) (callM_le hM.call e13)) ?_
  refine wo_step (v := v13) (s_pure (p_mv rfl)) ?_
  have hq := bindO_inv hr
  clear hr
  obtain ⟨v14, e14, hr⟩ := hq
  have hq := asI_inv hr
  clear hr
  obtain ⟨x14, rfl, hr⟩ := hq
  refine wo_step (v := (.i .u8 x14)) (s_pure (o_ext rfl e14)) ?_
  have hq := bindO_inv hr
  clear hr
  obtain ⟨v15, e15, hr⟩ := hq
  have hq := asI_inv hr
  clear hr
  obtain ⟨x15, rfl, hr⟩ := hq
  refine wo_step (v := (.i .i64 x15)) (s_pure (o_ext rfl e15)) ?_
  refine wo_step (v := (.i .u8 x14)) (s_pure (p_mv rfl)) ?_
  refine wo_step (v := (.i .i64 x15)) (s_pure (p_mv rfl)) ?_
  refine wo_nil ?_
  refine nx_norm ?_
  refine w_seq ?_
  refine w_seq ?_
  refine w_ops ?_
  refine wo_step (v := (.i .i64 x15)) (s_pure (p_mv rfl)) ?_
  have hq := forceB_inv hr
  clear hr
  obtain ⟨c17, e17, hr⟩ := hq
  refine wo_step (v := (.b c17)) (s_pure (p_bin rfl rfl (b_neq.trans (cb e17)))) ?_
  refine wo_step (v := (.b c17)) (s_pure (p_mv rfl)) ?_
  have hq := bindO_inv hr
  clear hr
  obtain ⟨o, hr, hk⟩ := hq
  refine wo_join 4 (g20_J0 s1 x14 x15 m_1 o) ?_ ?_
  · clear hk
    have hq := cond_inv hr
    clear hr
    rcases hq with ⟨rfl, hr⟩ | ⟨rfl, hr⟩
    · refine wo_take (v := (.s s1)) rfl (s_pure (p_mv g1)) ?_
      have hq := bindO_inv hr
      clear hr
      obtain ⟨v20, e20, hr⟩ := hq
      have hq := asI_inv hr
      clear hr
      obtain ⟨x20, rfl, hr⟩ := hq
      refine wo_take (v := (.i .i64 x20)) rfl (s_pure (o_len rfl e20)) ?_
      have hq := forceB_inv hr
      clear hr
      obtain ⟨c21, e21, hr⟩ := hq
      refine wo_take (v := (.b c21)) rfl (s_pure (p_bin rfl rfl (b_gtr.trans (cb e21)))) ?_
      refine wo_step (v := (.b c21)) (s_pure (p_pickT rfl rfl)) ?_
      refine wo_nil ?_
      cases hr
      exact ⟨_, _, rfl, rfl, gl rfl, gl g1, gl rfl, gl rfl⟩
    · refine wo_skip (v := (.b false)) rfl rfl ?_
      refine wo_skip (v := (.b false)) rfl rfl ?_
      refine wo_skip (v := (.b false)) rfl rfl ?_
      refine wo_step (v := (.b false)) (s_pure (p_pickF rfl rfl)) ?_
      refine wo_nil ?_
      cases hr
      exact ⟨_, _, rfl, rfl, gl rfl, gl g1, gl rfl, gl rfl⟩
  · clear hr
    have hr := hk
    clear hk
    obtain ⟨c22, ho⟩ : ∃ z, z = o := ⟨_, rfl⟩
    subst ho
    rintro mm t_1 ⟨rfl, g22, g1, g6, g7⟩
    refine wo_nil ?_
    refine nx_norm ?_
    have hq := cond_inv hr
    clear hr
    rcases hq with ⟨rfl, hr⟩ | ⟨rfl, hr⟩
    · refine w_condT g22 ?_
      refine w_seq ?_
      refine w_ops ?_
      refine wo_step (v := (AVal.s [])) (s_pure (p_mv rfl)) ?_
      refine wo_step (v := (.i .i64 3)) (s_pure (p_mv rfl)) ?_
      refine wo_nil ?_
      refine nx_norm ?_
      refine w_ret ?_
      refine nx_ret ?_
      exact qf ret_ok (rt rfl (rt rfl rn)) hr
    · refine w_condF g22 ?_
      refine w_skip ?_
      refine nx_norm ?_
      refine w_seq ?_
      refine w_seq ?_
      refine w_ops ?_
      refine wo_step (v := (.i .i64 x15)) (s_pure (p_mv g7)) ?_
      have hq := forceB_inv hr
      clear hr
      obtain ⟨c24, e24, hr⟩ := hq
      refine wo_step (v := (.b c24)) (s_pure (p_bin rfl rfl (b_neq.trans (cb e24)))) ?_
      refine wo_nil ?_
      refine nx_norm ?_
      have hq := cond_inv hr
      clear hr
      rcases hq with ⟨rfl, hr⟩ | ⟨rfl, hr⟩
      · refine w_condT rfl ?_
        refine w_seq ?_
        refine w_ops ?_
        refine wo_step (v := (.i .i64 x15)) (s_pure (p_mv g7)) ?_
        refine wo_step (v := (AVal.s [])) (s_pure (p_mv rfl)) ?_
        refine wo_step (v := (.i .i64 x15)) (s_pure (p_mv rfl)) ?_
        refine wo_nil ?_
        refine nx_norm ?_
        refine w_ret ?_
        refine nx_ret ?_
        exact qf ret_ok (rt rfl (rt rfl rn)) hr
      · refine w_condF rfl ?_
        refine w_skip ?_
        refine nx_norm ?_
        refine w_seq ?_
        refine w_ops ?_
        refine wo_step (v := (.i .u8 x14)) (s_pure (p_mv g6)) ?_
        refine wo_step (v := (.s s1)) (s_pure (p_mv g1)) ?_
        have hq := bindP_inv hr
        clear hr
        obtain ⟨v29, m_2, e29, hr⟩ := hq
        refine wo_step (v := v29) (s_call (mc rfl (mc rfl mn)) (callM_le hM.call e29)) ?_
        refine wo_step (v := v29) (s_pure (p_mv rfl)) ?_
        have hq := bindO_inv hr
        clear hr
        obtain ⟨v30, e30, hr⟩ := hq
        have hq := asS_inv hr
        clear hr
        obtain ⟨s30, rfl, hr⟩ := hq
        refine wo_step (v := (.s s30)) (s_pure (o_ext rfl e30)) ?_
        have hq := bindO_inv hr
        clear hr
        obtain ⟨v31, e31, hr⟩ := hq
        have hq := asB_inv hr
        clear hr
        obtain ⟨c31, rfl, hr⟩ := hq
        refine wo_step (v := (.b c31)) (s_pure (o_ext rfl e31)) ?_
        refine wo_step (v := (.s s30)) (s_pure (p_mv rfl)) ?_
        refine wo_step (v := (.b c31)) (s_pure (p_mv rfl)) ?_
        refine wo_nil ?_
        refine nx_norm ?_
        refine w_seq ?_
        refine w_seq ?_
        refine w_ops ?_
        refine wo_step (v := (.b c31)) (s_pure (p_mv rfl)) ?_
        have hq := forceB_inv hr
        clear hr
        obtain ⟨c33, e33, hr⟩ := hq
        refine wo_step (v := (.b c33)) (s_pure ((p_not rfl).trans (cb e33))) ?_
        refine wo_nil ?_
        refine nx_norm ?_
        have hq := cond_inv hr
        clear hr
        rcases hq with ⟨rfl, hr⟩ | ⟨rfl, hr⟩
        · refine w_condT rfl ?_
          refine w_seq ?_
          refine w_ops ?_
          refine wo_step (v := (AVal.s [])) (s_pure (p_mv rfl)) ?_
          refine wo_step (v := (.i .i64 10)) (s_pure (p_mv rfl)) ?_
          refine wo_nil ?_
          refine nx_norm ?_
          refine w_ret ?_
          refine nx_ret ?_
          exact qf ret_ok (rt rfl (rt rfl rn)) hr
        · refine w_condF rfl ?_
          refine w_skip ?_
          refine nx_norm ?_
          refine w_seq ?_
          refine w_ops ?_
          refine wo_step (v := (.s s30)) (s_pure (p_mv rfl)) ?_
          refine wo_step (v := (.s s30)) (s_pure (p_mv rfl)) ?_
          refine wo_step (v := (.i .i64 0)) (s_pure (p_mv rfl)) ?_
          refine wo_nil ?_
          refine nx_norm ?_
          refine w_ret ?_
          exact qf ret_ok (rt rfl (rt rfl rn)) hr

/- dibber/weed.Eden -/
abbrev g26_J0 (x1 : Int) (x12 : Int) (m_1 : Mm) (o : Bool) (m1 : Mm) (t1 : Tr) : Prop :=
  match o with
  | c22 => m_1 = m1 ∧ t1.get 22 = (.b c22) ∧ t1.get 1 = (.i .i64 x1) ∧ t1.get 6 = (.i .u8 x12)
abbrev g26_J1 (s24 : List UInt8) (m_2 : Mm) (o : Bool) (m1 : Mm) (t1 : Tr) : Prop :=
  match o with
  | c32 => m_2 = m1 ∧ t1.get 32 = (.b c32) ∧ t1.get 8 = (.s s24)
def g26 (M : Means) (ro : List ABlk) (x0 : Int) (x1 : Int) (m0 : Mm) : Option (AVal × Heap × Nat × Nat) :=
  bindP (callM M.call m0 61 [(.i .i64 x0)]) fun v11 m_1 =>
  bindO (evP .e (.ext 0 (.c v11))) fun v12 =>
  asI .u8 v12 fun x12 =>
  bindO (evP .e (.ext 1 (.c v11))) fun v13 =>
  asI .i64 v13 fun x13 =>
  forceB (!eqI x13 0) fun c15 =>
  cond c15 (
    finM m0.h.length (tupA [(AVal.s []), (.i .i64 x13)]) m_1) (
    forceB (ltI x1 1) fun c18 =>
    bindO (cond c18 (
      some true) (
      forceB (ltI 20 x1) fun c21 =>
      some c21)) fun c22 =>
    cond c22 (
      finM m0.h.length (tupA [(AVal.s []), (.i .i64 2)]) m_1) (
      bindP (callM M.call m_1 62 [(.i .u8 x12)]) fun v24 m_2 =>
      asS v24 fun s24 =>
      bindO (evP .e (.sbin BinOp.eql (.c (.s s24)) (.c (AVal.s [])))) fun v26 =>
      asB v26 fun c26 =>
      bindO (cond c26 (
        some true) (
        bindO (evP .e (.len true (.c (.s s24)))) fun v29 =>
        asI .i64 v29 fun x29 =>
        forceB (ltI x1 x29) fun c31 =>
        some c31)) fun c32 =>
      cond c32 (
        finM m0.h.length (tupA [(AVal.s []), (.i .i64 10)]) m_2) (
        finM m0.h.length (tupA [(.s s24), (.i .i64 0)]) m_2)))

theorem g26_ok {ro : List ABlk} {O : Caller} {M : Means} (hM : M.Ok ⟨F, O⟩ ro) {x0 x1 h r} (ho : O 26 [(.i .i64 x0), (.i .i64 x1)] h = none) (hr : g26 M ro x0 x1 ⟨h, h.length, h.length⟩ = some r) : callX ⟨F, O⟩ ro 26 [(.i .i64 x0), (.i .i64 x1)] h = some r := by
  refine callX_of (F := ⟨F, O⟩) (fn := fn26) (g := g26 M ro x0 x1) ho rfl rfl hr ?_
  clear ho
  clear hr
  intro m0 t0 ht hr
  have g0 : t0.get 0 = (.i .i64 x0) := ht 0
  have g1 : t0.get 1 = (.i .i64 x1) := ht 1
  clear ht
  unfold g26 at hr
  refine w_seq ?_
  refine w_ops ?_
  refine wo_step (v := (AVal.s [])) (s_pure (p_mv rfl)) ?_
  refine wo_step (v := (.i .i64 0)) (s_pure (p_mv rfl)) ?_
  refine wo_nil ?_
  refine nx_norm ?_
  refine w_seq ?_
  refine w_ops ?_
  refine wo_step (v := (.i .i64 x0)) (s_pure (p_mv g0)) ?_
  have hq := bindP_inv hr
  clear hr
  obtain ⟨v11, m_1, e11, hr⟩ := hq
  refine wo_step (v := v11) (s_call (mc rfl mn) (callM_le hM.call e11)) ?_
  refine wo_step (v := v11) (s_pure (p_mv rfl)) ?_
  have hq := bindO_inv hr
  clear hr
  obtain ⟨v12, e12, hr⟩ := hq
  have hq := asI_inv hr
  clear hr
  obtain ⟨x12, rfl, hr⟩ := hq
  refine wo_step (v := (.i .u8 x12)) (s_pure (o_ext rfl e12)) ?_
  have hq := bindO_inv hr
  clear hr
  obtain ⟨v13, e13, hr⟩ := hq
  have hq := asI_inv hr
  clear hr
  obtain ⟨x13, rfl, hr⟩ := hq
  refine wo_step (v := (.i .i64 x13)) (s_pure (o_ext rfl e13)) ?_
  refine wo_step (v := (.i .u8 x12)) (s_pure (p_mv rfl)) ?_
  refine wo_step (v := (.i .i64 x13)) (s_pure (p_mv rfl)) ?_
  refine wo_nil ?_
  refine nx_norm ?_
  refine w_seq ?_
  refine w_seq ?_
  refine w_ops ?_
  refine wo_step (v := (.i .i64 x13)) (s_pure (p_mv rfl)) ?_
  have hq := forceB_inv hr
  clear hr
  obtain ⟨c15, e15, hr⟩ := hq
  refine wo_step (v := (.b c15)) (s_pure (p_bin rfl rfl (b_neq.trans (cb e15)))) ?_
  refine wo_nil ?_
  refine nx_norm ?_
  have hq := cond_inv hr
  clear hr
  rcases hq with ⟨rfl, hr⟩ | ⟨rfl, hr⟩
  · refine w_condT rfl ?_
    refine w_seq ?_
    refine w_ops ?_
    refine wo_step (v := (.i .i64 x13)) (s_pure (p_mv rfl)) ?_
    refine wo_step (v := (AVal.s [])) (s_pure (p_mv rfl)) ?_
    refine wo_step (v := (.i .i64 x13)) (s_pure (p_mv rfl)) ?_
    refine wo_nil ?_
    refine nx_norm ?_
    refine w_ret ?_
    refine nx_ret ?_
    exact qf ret_ok (rt rfl (rt rfl rn)) hr
  · refine w_condF rfl ?_
    refine w_skip ?_
    refine nx_norm ?_
    refine w_seq ?_
    refine w_seq ?_
    refine w_ops ?_
    refine wo_step (v := (.i .i64 x1)) (s_pure (p_mv g1)) ?_
    have hq := forceB_inv hr
    clear hr
    obtain ⟨c18, e18, hr⟩ := hq
    refine wo_step (v := (.b c18)) (s_pure (p_bin rfl rfl (b_lss.trans (cb e18)))) ?_
    refine wo_step (v := (.b c18)) (s_pure (p_mv rfl)) ?_
    have hq := bindO_inv hr
    clear hr
    obtain ⟨o, hr, hk⟩ := hq
    refine wo_join 3 (g26_J0 x1 x12 m_1 o) ?_ ?_
    · clear hk
      have hq := cond_inv hr
      clear hr
      rcases hq with ⟨rfl, hr⟩ | ⟨rfl, hr⟩
      · refine wo_skip (v := (.b true)) rfl rfl ?_
        refine wo_skip (v := (.b true)) rfl rfl ?_
        refine wo_step (v := (.b true)) (s_pure (p_pickT rfl rfl)) ?_
        refine wo_nil ?_
        cases hr
        exact ⟨_, _, rfl, rfl, gl rfl, gl g1, gl rfl⟩
      · refine wo_take (v := (.i .i64 x1)) rfl (s_pure (p_mv g1)) ?_
        have hq := forceB_inv hr
        clear hr
        obtain ⟨c21, e21, hr⟩ := hq
        refine wo_take (v := (.b c21)) rfl (s_pure (p_bin rfl rfl (b_gtr.trans (cb e21)))) ?_
        refine wo_step (v := (.b c21)) (s_pure (p_pickF rfl rfl)) ?_
        refine wo_nil ?_
        cases hr
        exact ⟨_, _, rfl, rfl, gl rfl, gl g1, gl rfl⟩
    · clear hr
      have hr := hk
      clear hk
      obtain ⟨c22, ho⟩ : ∃ z, z = o := ⟨_, rfl⟩
      subst ho
      rintro mm t_1 ⟨rfl, g22, g1, g6⟩
      refine wo_nil ?_
      refine nx_norm ?_
      have hq := cond_inv hr
      clear hr
      rcases hq with ⟨rfl, hr⟩ | ⟨rfl, hr⟩
      · refine w_condT g22 ?_
        refine w_seq ?_
        refine w_ops ?_
        refine wo_step (v := (AVal.s [])) (s_pure (p_mv rfl)) ?_
        refine wo_step (v := (.i .i64 2)) (s_pure (p_mv rfl)) ?_
        refine wo_nil ?_
        refine nx_norm ?_
        refine w_ret ?_
        refine nx_ret ?_
        exact qf ret_ok (rt rfl (rt rfl rn)) hr
      · refine w_condF g22 ?_
        refine w_skip ?_
        refine nx_norm ?_
        refine w_seq ?_
        refine w_ops ?_
        refine wo_step (v := (.i .u8 x12)) (s_pure (p_mv g6)) ?_
        have hq := bindP_inv hr
        clear hr
        obtain ⟨v24, m_2, e24, hr⟩ := hq
        have hq := asS_inv hr
        clear hr
        obtain ⟨s24, rfl, hr⟩ := hq
        refine wo_step (v := (.s s24)) (s_call (mc rfl mn) (callM_le hM.call e24)) ?_
        refine wo_step (v := (.s s24)) (s_pure (p_mv rfl)) ?_
        refine wo_nil ?_
        refine nx_norm ?_
        refine w_seq ?_
        refine w_seq ?_
        refine w_ops ?_
        refine wo_step (v := (.s s24)) (s_pure (p_mv rfl)) ?_
        have hq := bindO_inv hr
        clear hr
        obtain ⟨v26, e26, hr⟩ := hq
        have hq := asB_inv hr
        clear hr
        obtain ⟨c26, rfl, hr⟩ := hq
        refine wo_step (v := (.b c26)) (s_pure (o_sbin rfl rfl e26)) ?_
        refine wo_step (v := (.b c26)) (s_pure (p_mv rfl)) ?_
        have hq := bindO_inv hr
        clear hr
        obtain ⟨o_1, hr, hk⟩ := hq
        refine wo_join 5 (g26_J1 s24 m_2 o_1) ?_ ?_
        · clear hk
          have hq := cond_inv hr
          clear hr
          rcases hq with ⟨rfl, hr⟩ | ⟨rfl, hr⟩
          · refine wo_skip (v := (.b true)) rfl rfl ?_
            refine wo_skip (v := (.b true)) rfl rfl ?_
            refine wo_skip (v := (.b true)) rfl rfl ?_
            refine wo_skip (v := (.b true)) rfl rfl ?_
            refine wo_step (v := (.b true)) (s_pure (p_pickT rfl rfl)) ?_
            refine wo_nil ?_
            cases hr
            exact ⟨_, _, rfl, rfl, gl rfl, gl rfl⟩
          · refine wo_take (v := (.s s24)) rfl (s_pure (p_mv rfl)) ?_
            have hq := bindO_inv hr
            clear hr
            obtain ⟨v29, e29, hr⟩ := hq
            have hq := asI_inv hr
            clear hr
            obtain ⟨x29, rfl, hr⟩ := hq
            refine wo_take (v := (.i .i64 x29)) rfl (s_pure (o_len rfl e29)) ?_
            refine wo_take (v := (.i .i64 x1)) rfl (s_pure (p_mv g1)) ?_
            have hq := forceB_inv hr
            clear hr
            obtain ⟨c31, e31, hr⟩ := hq
            refine wo_take (v := (.b c31)) rfl (s_pure (p_bin rfl rfl (b_gtr.trans (cb e31)))) ?_
            refine wo_step (v := (.b c31)) (s_pure (p_pickF rfl rfl)) ?_
            refine wo_nil ?_
            cases hr
            exact ⟨_, _, rfl, rfl, gl rfl, gl rfl⟩
        · clear hr
          have hr := hk
          clear hk
          obtain ⟨c32, ho⟩ : ∃ z, z = o_1 := ⟨_, rfl⟩
          subst ho
          rintro mm_1 t_2 ⟨rfl, g32, g8⟩
          refine wo_nil ?_
          refine nx_norm ?_
          have hq := cond_inv hr
          clear hr
          rcases hq with ⟨rfl, hr⟩ | ⟨rfl, hr⟩
          · refine w_condT g32 ?_
            refine w_seq ?_
            refine w_ops ?_
            refine wo_step (v := (AVal.s [])) (s_pure (p_mv rfl)) ?_
            refine wo_step (v := (.i .i64 10)) (s_pure (p_mv rfl)) ?_
            refine wo_nil ?_
            refine nx_norm ?_
            refine w_ret ?_
            refine nx_ret ?_
            exact qf ret_ok (rt rfl (rt rfl rn)) hr
          · refine w_condF g32 ?_
            refine w_skip ?_
            refine nx_norm ?_
            refine w_seq ?_
            refine w_ops ?_
            refine wo_step (v := (.s s24)) (s_pure (p_mv g8)) ?_
            refine wo_step (v := (.s s24)) (s_pure (p_mv rfl)) ?_
            refine wo_step (v := (.i .i64 0)) (s_pure (p_mv rfl)) ?_
            refine wo_nil ?_
            refine nx_norm ?_
            refine w_ret ?_
            exact qf ret_ok (rt rfl (rt rfl rn)) hr

/- dibber/dibberref02.Eden -/
abbrev g27_J0 (x0 : Int) (x1 : Int) (m_1 : Mm) (o : Bool) (m1 : Mm) (t1 : Tr) : Prop :=
  match o with
  | c14 => m_1 = m1 ∧ t1.get 14 = (.b c14) ∧ t1.get 0 = (.i .i64 x0) ∧ t1.get 1 = (.i .i64 x1)
abbrev g27_J1 (x0 : Int) (x1 : Int) (m_1 : Mm) (o : Bool) (m1 : Mm) (t1 : Tr) : Prop :=
  match o with
  | c18 => m_1 = m1 ∧ t1.get 18 = (.b c18) ∧ t1.get 0 = (.i .i64 x0) ∧ t1.get 1 = (.i .i64 x1)
abbrev g27_J2 (s22 : List UInt8) (m_2 : Mm) (o : Bool) (m1 : Mm) (t1 : Tr) : Prop :=
  match o with
  | c31 => m_2 = m1 ∧ t1.get 31 = (.b c31) ∧ t1.get 6 = (.s s22)
def g27 (M : Means) (ro : List ABlk) (x0 : Int) (x1 : Int) (m0 : Mm) : Option (AVal × Heap × Nat × Nat) :=
  bindP (callM M.call m0 54 [(.i .i64 x0)]) fun v9 m_1 =>
  asB v9 fun c9 =>
  forceB (!c9) fun c10 =>
  bindO (cond c10 (
    some true) (
    forceB (ltI x1 1) fun c13 =>
    some c13)) fun c14 =>
  bindO (cond c14 (
    some true) (
    forceB (ltI 20 x1) fun c17 =>
    some c17)) fun c18 =>
  cond c18 (
    finM m0.h.length (tupA [(AVal.s []), (.i .i64 2)]) m_1) (
    bindP (callM M.call m_1 63 [(.i .i64 x0)]) fun v21 m_2 =>
    bindO (evP .e (.ext 0 (.c v21))) fun v22 =>
    asS v22 fun s22 =>
    bindO (evP .e (.ext 1 (.c v21))) fun v23 =>
    asB v23 fun c23 =>
    forceB (!c23) fun c25 =>
    bindO (cond c25 (
      some true) (
      bindO (evP .e (.len true (.c (.s s22)))) fun v28 =>
      asI .i64 v28 fun x28 =>
      forceB (ltI x1 x28) fun c30 =>
      some c30)) fun c31 =>
    cond c31 (
      finM m0.h.length (tupA [(AVal.s []), (.i .i64 10)]) m_2) (
      finM m0.h.length (tupA [(.s s22), (.i .i64 0)]) m_2))

theorem g27_ok {ro : List ABlk} {O : Caller} {M : Means} (hM : M.Ok ⟨F, O⟩ ro) {x0 x1 h r} (ho : O 27 [(.i .i64 x0), (.i .i64 x1)] h = none) (hr : g27 M ro x0 x1 ⟨h, h.length, h.length⟩ = some r) : callX ⟨F, O⟩ ro 27 [(.i .i64 x0), (.i .i64 x1)] h = some r := by
  refine callX_of (F := ⟨F, O⟩) (fn := fn27) (g := g27 M ro x0 x1) ho rfl rfl hr ?_
  clear ho
  clear hr
  intro m0 t0 ht hr
  have g0 : t0.get 0 = (.i .i64 x0) := ht 0
  have g1 : t0.get 1 = (.i .i64 x1) := ht 1
  clear ht
  unfold g27 at hr
  refine w_seq ?_
  refine w_ops ?_
  refine wo_step (v := (AVal.s [])) (s_pure (p_mv rfl)) ?_
  refine wo_step (v := (.i .i64 0)) (s_pure (p_mv rfl)) ?_
  refine wo_nil ?_
  refine nx_norm ?_
  refine w_seq ?_
  refine w_seq ?_
  refine w_ops ?_
  refine wo_step (v := (.i .i64 x0)) (s_pure (p_mv g0)) ?_
  have hq := bindP_inv hr
  clear hr
  obtain ⟨v9, m_1, e9, hr⟩ := hq
  have hq := asB_inv hr
  clear hr
  obtain ⟨c9, rfl, hr⟩ := hq
  refine wo_step (v := (.b c9)) (s_call (mc rfl mn) (callM_le hM.call e9)) ?_
  have hq := forceB_inv hr
  clear hr
  obtain ⟨c10, e10, hr⟩ := hq
  refine wo_step (v := (.b c10)) (s_pure ((p_not rfl).trans (cb e10))) ?_
  refine wo_step (v := (.b c10)) (s_pure (p_mv rfl)) ?_
  have hq := bindO_inv hr
  clear hr
  obtain ⟨o, hr, hk⟩ := hq
  refine wo_join 3 (g27_J0 x0 x1 m_1 o) ?_ ?_
  · clear hk
    have hq := cond_inv hr
    clear hr
    rcases hq with ⟨rfl, hr⟩ | ⟨rfl, hr⟩
    · refine wo_skip (v := (.b true)) rfl rfl ?_
      refine wo_skip (v := (.b true)) rfl rfl ?_
      refine wo_step (v := (.b true)) (s_pure (p_pickT rfl rfl)) ?_
      refine wo_nil ?_
      cases hr
      exact ⟨_, _, rfl, rfl, gl rfl, gl g0, gl g1⟩
    · refine wo_take (v := (.i .i64 x1)) rfl (s_pure (p_mv g1)) ?_
      have hq := forceB_inv hr
      clear hr
      obtain ⟨c13, e13, hr⟩ := hq
      refine wo_take (v := (.b c13)) rfl (s_pure (p_bin rfl rfl (b_lss.trans (cb e13)))) ?_
      refine wo_step (v := (.b c13)) (s_pure (p_pickF rfl rfl)) ?_
      refine wo_nil ?_
      cases hr
      exact ⟨_, _, rfl, rfl, gl rfl, gl g0, gl g1⟩
  · clear hr
    have hr := hk
    clear hk
    obtain ⟨c14, ho⟩ : ∃ z, z = o := ⟨_, rfl⟩
    subst ho
    rintro mm t_1 ⟨rfl, g14, g0, g1⟩
    refine wo_step (v := (.b c14)) (s_pure (p_mv g14)) ?_
    have hq := bindO_inv hr
    clear hr
    obtain ⟨o_1, hr, hk⟩ := hq
    refine wo_join 3 (g27_J1 x0 x1 m_1 o_1) ?_ ?_
    · clear hk
      have hq := cond_inv hr
      clear hr
      rcases hq with ⟨rfl, hr⟩ | ⟨rfl, hr⟩
      · refine wo_skip (v := (.b true)) rfl rfl ?_
        refine wo_skip (v := (.b true)) rfl rfl ?_
        refine wo_step (v := (.b true)) (s_pure (p_pickT rfl rfl)) ?_
        refine wo_nil ?_
        cases hr
        exact ⟨_, _, rfl, rfl, gl rfl, gl g0, gl g1⟩
      · refine wo_take (v := (.i .i64 x1)) rfl (s_pure (p_mv g1)) ?_
        have hq := forceB_inv hr
        clear hr
        obtain ⟨c17, e17, hr⟩ := hq
        refine wo_take (v := (.b c17)) rfl (s_pure (p_bin rfl rfl (b_gtr.trans (cb e17)))) ?_
        refine wo_step (v := (.b c17)) (s_pure (p_pickF rfl rfl)) ?_
        refine wo_nil ?_
        cases hr
        exact ⟨_, _, rfl, rfl, gl rfl, gl g0, gl g1⟩
    · clear hr
      have hr := hk
      clear hk
      obtain ⟨c18, ho⟩ : ∃ z, z = o_1 := ⟨_, rfl⟩
      subst ho
      rintro mm_1 t_2 ⟨rfl, g18, g0, g1⟩
      refine wo_nil ?_
      refine nx_norm ?_
      have hq := cond_inv hr
      clear hr
      rcases hq with ⟨rfl, hr⟩ | ⟨rfl, hr⟩
      · refine w_condT g18 ?_
        refine w_seq ?_
        refine w_ops ?_
        refine wo_step (v := (AVal.s [])) (s_pure (p_mv rfl)) ?_
        refine wo_step (v := (.i .i64 2)) (s_pure (p_mv rfl)) ?_
        refine wo_nil ?_
        refine nx_norm ?_
        refine w_ret ?_
        refine nx_ret ?_
        exact qf ret_ok (rt rfl (rt rfl rn)) hr
      · refine w_condF g18 ?_
        refine w_skip ?_
        refine nx_norm ?_
        refine w_seq ?_
        refine w_ops ?_
        refine wo_step (v := (.i .i64 x0)) (s_pure (p_mv g0)) ?_
        have hq := bindP_inv hr
        clear hr
        obtain ⟨v21, m_2, e21, hr⟩ := hq
        refine wo_step (v := v21) (s_call (mc rfl mn) (callM_le hM.call e21)) ?_
        refine wo_step (v := v21) (s_pure (p_mv rfl)) ?_
        have hq := bindO_inv hr
        clear hr
        obtain ⟨v22, e22, hr⟩ := hq
        have hq := asS_inv hr
        clear hr
        obtain ⟨s22, rfl, hr⟩ := hq
        refine wo_step (v := (.s s22)) (s_pure (o_ext rfl e22)) ?_
        have hq := bindO_inv hr
        clear hr
        obtain ⟨v23, e23, hr⟩ := hq
        have hq := asB_inv hr
        clear hr
        obtain ⟨c23, rfl, hr⟩ := hq
        refine wo_step (v := (.b c23)) (s_pure (o_ext rfl e23)) ?_
        refine wo_step (v := (.s s22)) (s_pure (p_mv rfl)) ?_
        refine wo_step (v := (.b c23)) (s_pure (p_mv rfl)) ?_
        refine wo_nil ?_
        refine nx_norm ?_
        refine w_seq ?_
        refine w_seq ?_
        refine w_ops ?_
        refine wo_step (v := (.b c23)) (s_pure (p_mv rfl)) ?_
        have hq := forceB_inv hr
        clear hr
        obtain ⟨c25, e25, hr⟩ := hq
        refine wo_step (v := (.b c25)) (s_pure ((p_not rfl).trans (cb e25))) ?_
        refine wo_step (v := (.b c25)) (s_pure (p_mv rfl)) ?_
        have hq := bindO_inv hr
        clear hr
        obtain ⟨o_2, hr, hk⟩ := hq
        refine wo_join 5 (g27_J2 s22 m_2 o_2) ?_ ?_
        · clear hk
          have hq := cond_inv hr
          clear hr
          rcases hq with ⟨rfl, hr⟩ | ⟨rfl, hr⟩
          · refine wo_skip (v := (.b true)) rfl rfl ?_
            refine wo_skip (v := (.b true)) rfl rfl ?_
            refine wo_skip (v := (.b true)) rfl rfl ?_
            refine wo_skip (v := (.b true)) rfl rfl ?_
            refine wo_step (v := (.b true)) (s_pure (p_pickT rfl rfl)) ?_
            refine wo_nil ?_
            cases hr
            exact ⟨_, _, rfl, rfl, gl rfl, gl rfl⟩
          · refine wo_take (v := (.s s22)) rfl (s_pure (p_mv rfl)) ?_
            have hq := bindO_inv hr
            clear hr
            obtain ⟨v28, e28, hr⟩ := hq
            have hq := asI_inv hr
            clear hr
            obtain ⟨x28, rfl, hr⟩ := hq
            refine wo_take (v := (.i .i64 x28)) rfl (s_pure (o_len rfl e28)) ?_
            refine wo_take (v := (.i .i64 x1)) rfl (s_pure (p_mv g1)) ?_
            have hq := forceB_inv hr
            clear hr
            obtain ⟨c30, e30, hr⟩ := hq
            refine wo_take (v := (.b c30)) rfl (s_pure (p_bin rfl rfl (b_gtr.trans (cb e30)))) ?_
            refine wo_step (v := (.b c30)) (s_pure (p_pickF rfl rfl)) ?_
            refine wo_nil ?_
            cases hr
            exact ⟨_, _, rfl, rfl, gl rfl, gl rfl⟩
        · clear hr
          have hr := hk
          clear hk
          obtain ⟨c31, ho⟩ : ∃ z, z = o_2 := ⟨_, rfl⟩
          subst ho
          rintro mm_2 t_3 ⟨rfl, g31, g6⟩
          refine wo_nil ?_
          refine nx_norm ?_
          have hq := cond_inv hr
          clear hr
          rcases hq with ⟨rfl, hr⟩ | ⟨rfl, hr⟩
          · refine w_condT g31 ?_
            refine w_seq ?_
            refine w_ops ?_
            refine wo_step (v := (AVal.s [])) (s_pure (p_mv rfl)) ?_
            refine wo_step (v := (.i .i64 10)) (s_pure (p_mv rfl)) ?_
            refine wo_nil ?_
            refine nx_norm ?_
            refine w_ret ?_
            refine nx_ret ?_
            exact qf ret_ok (rt rfl (rt rfl rn)) hr
          · refine w_condF g31 ?_
            refine w_skip ?_
            refine nx_norm ?_
            refine w_seq ?_
            refine w_ops ?_
            refine wo_step (v := (.s s22)) (s_pure (p_mv g6)) ?_
            refine wo_step (v := (.s s22)) (s_pure (p_mv rfl)) ?_
            refine wo_step (v := (.i .i64 0)) (s_pure (p_mv rfl)) ?_
            refine wo_nil ?_
            refine nx_norm ?_
            refine w_ret ?_
            exact qf ret_ok (rt rfl (rt rfl rn)) hr

/- dibber/weed.Onto -/

def g28 (M : Means) (ro : List ABlk) (x0 : Int) (m0 : Mm) : Option (AVal × Heap × Nat × Nat) :=
  bindP (callM M.call m0 61 [(.i .i64 x0)]) fun v8 m_1 =>
  bindO (evP .e (.ext 0 (.c v8))) fun v9 =>
  asI .u8 v9 fun x9 =>
  bindO (evP .e (.ext 1 (.c v8))) fun v10 =>
  asI .i64 v10 fun x10 =>
  forceB (!eqI x10 0) fun c12 =>
  cond c12 (
    finM m0.h.length (tupA [(.b false), (.i .i64 x10)]) m_1) (
    bindP (callM M.call m_1 62 [(.i .u8 x9)]) fun v15 m_2 =>
    asS v15 fun s15 =>
    bindO (evP .e (.sbin BinOp.eql (.c (.s s15)) (.c (AVal.s [])))) fun v16 =>
    asB v16 fun c16 =>
    finM m0.h.length (tupA [(.b c16), (.i .i64 0)]) m_2)

theorem g28_ok {ro : List ABlk} {O : Caller} {M : Means} (hM : M.Ok ⟨F, O⟩ ro) {x0 h r} (ho : O 28 [(.i .i64 x0)] h = none) (hr : g28 M ro x0 ⟨h, h.length, h.length⟩ = some r) : callX ⟨F, O⟩ ro 28 [(.i .i64 x0)] h = some r := by
  refine callX_of (F := ⟨F, O⟩) (fn := fn28) (g := g28 M ro x0) ho rfl rfl hr ?_
  clear ho
  clear hr
  intro m0 t0 ht hr
  have g0 : t0.get 0 = (.i .i64 x0) := ht 0
  clear ht
  unfold g28 at hr
  refine w_seq ?_
  refine w_ops ?_
  refine wo_step (v := (.b false)) (s_pure (p_mv rfl)) ?_
  refine wo_step (v := (.i .i64 0)) (s_pure (p_mv rfl)) ?_
  refine wo_nil ?_
  refine nx_norm ?_
  refine w_seq ?_
  refine w_ops ?_
  refine wo_step (v := (.i .i64 x0)) (s_pure (p_mv g0)) ?_
  have hq := bindP_inv hr
  clear hr
  obtain ⟨v8, m_1, e8, hr⟩ := hq
  refine wo_step (v := v8) (s_call (mc rfl mn) (callM_le hM.call e8)) ?_
  refine wo_step (v := v8) (s_pure (p_mv rfl)) ?_
  have hq := bindO_inv hr
  clear hr
  obtain ⟨v9, e9, hr⟩ := hq
  have hq := asI_inv hr
  clear hr
  obtain ⟨x9, rfl, hr⟩ := hq
  refine wo_step (v := (.i .u8 x9)) (s_pure (o_ext rfl e9)) ?_
  have hq := bindO_inv hr
  clear hr
  obtain ⟨v10, e10, hr⟩ := hq
  have hq := asI_inv hr
  clear hr
  obtain ⟨x10, rfl, hr⟩ := hq
  refine wo_step (v := (.i .i64 x10)) (s_pure (o_ext rfl e10)) ?_
  refine wo_step (v := (.i .u8 x9)) (s_pure (p_mv rfl)) ?_
  refine wo_step (v := (.i .i64 x10)) (s_pure (p_mv rfl)) ?_
  refine wo_nil ?_
  refine nx_norm ?_
  refine w_seq ?_
  refine w_seq ?_
  refine w_ops ?_
  refine wo_step (v := (.i .i64 x10)) (s_pure (p_mv rfl)) ?_
  have hq := forceB_inv hr
  clear hr
  obtain ⟨c12, e12, hr⟩ := hq
  refine wo_step (v := (.b c12)) (s_pure (p_bin rfl rfl (b_neq.trans (cb e12)))) ?_
  refine wo_nil ?_
  refine nx_norm ?_
  have hq := cond_inv hr
  clear hr
  rcases hq with ⟨rfl, hr⟩ | ⟨rfl, hr⟩
  · refine w_condT rfl ?_
    refine w_seq ?_
    refine w_ops ?_
    refine wo_step (v := (.i .i64 x10)) (s_pure (p_mv rfl)) ?_
    refine wo_step (v := (.b false)) (s_pure (p_mv rfl)) ?_
    refine wo_step (v := (.i .i64 x10)) (s_pure (p_mv rfl)) ?_
    refine wo_nil ?_
    refine nx_norm ?_
    refine w_ret ?_
    refine nx_ret ?_
    exact qf ret_ok (rt rfl (rt rfl rn)) hr
  · refine w_condF rfl ?_
    refine w_skip ?_
    refine nx_norm ?_
    refine w_seq ?_
    refine w_ops ?_
    refine wo_step (v := (.i .u8 x9)) (s_pure (p_mv rfl)) ?_
    have hq := bindP_inv hr
    clear hr
    obtain ⟨v15, m_2, e15, hr⟩ := hq
    have hq := asS_inv hr
    clear hr
    obtain ⟨s15, rfl, hr⟩ := hq
    refine wo_step (v := (.s s15)) (s_call (mc rfl mn) (callM_le hM.call e15)) ?_
    have hq := bindO_inv hr
    clear hr
    obtain ⟨v16, e16, hr⟩ := hq
    have hq := asB_inv hr
    clear hr
    obtain ⟨c16, rfl, hr⟩ := hq
    refine wo_step (v := (.b c16)) (s_pure (o_sbin rfl rfl e16)) ?_
    refine wo_step (v := (.b c16)) (s_pure (p_mv rfl)) ?_
    refine wo_step (v := (.i .i64 0)) (s_pure (p_mv rfl)) ?_
    refine wo_nil ?_
    refine nx_norm ?_
    refine w_ret ?_
    exact qf ret_ok (rt rfl (rt rfl rn)) hr

/- dibber/dibberref02.Onto -/

def g29 (M : Means) (ro : List ABlk) (x0 : Int) (m0 : Mm) : Option (AVal × Heap × Nat × Nat) :=
  bindP (callM M.call m0 54 [(.i .i64 x0)]) fun v7 m_1 =>
  asB v7 fun c7 =>
  forceB (!c7) fun c8 =>
  cond c8 (
    finM m0.h.length (tupA [(.b false), (.i .i64 2)]) m_1) (
    bindP (callM M.call m_1 63 [(.i .i64 x0)]) fun v11 m_2 =>
    bindO (evP .e (.ext 0 (.c v11))) fun v12 =>
    asS v12 fun s12 =>
    bindO (evP .e (.ext 1 (.c v11))) fun v13 =>
    asB v13 fun c13 =>
    forceB (!c13) fun c15 =>
    finM m0.h.length (tupA [(.b c15), (.i .i64 0)]) m_2)

theorem g29_ok {ro : List ABlk} {O : Caller} {M : Means} (hM : M.Ok ⟨F, O⟩ ro) {x0 h r} (ho : O 29 [(.i .i64 x0)] h = none) (hr : g29 M ro x0 ⟨h, h.length, h.length⟩ = some r) : callX ⟨F, O⟩ ro 29 [(.i .i64 x0)] h = some r := by
  refine callX_of (F := ⟨F, O⟩) (fn := fn29) (g := g29 M ro x0) ho rfl rfl hr ?_
  clear ho
  clear hr
  intro m0 t0 ht hr
  have g0 : t0.get 0 = (.i .i64 x0) := ht 0
  clear ht
  unfold g29 at hr
  refine w_seq ?_
  refine w_ops ?_
  refine wo_step (v := (.b false)) (s_pure (p_mv rfl)) ?_
  refine wo_step (v := (.i .i64 0)) (s_pure (p_mv rfl)) ?_
  refine wo_nil ?_
  refine nx_norm ?_
  refine w_seq ?_
  refine w_seq ?_
  refine w_ops ?_
  refine wo_step (v := (.i .i64 x0)) (s_pure (p_mv g0)) ?_
  have hq := bindP_inv hr
  clear hr
  obtain ⟨v7, m_1, e7, hr⟩ := hq
  have hq := asB_inv hr
  clear hr
  obtain ⟨c7, rfl, hr⟩ := hq
  refine wo_step (v := (.b c7)) (s_call (mc rfl mn) (callM_le hM.call e7)) ?_
  have hq := forceB_inv hr
  clear hr
  obtain ⟨c8, e8, hr⟩ := hq
  refine wo_step (v := (.b c8)) (s_pure ((p_not rfl).trans (cb e8))) ?_
  refine wo_nil ?_
  refine nx_norm ?_
  have hq := cond_inv hr
  clear hr
  rcases hq with ⟨rfl, hr⟩ | ⟨rfl, hr⟩
  · refine w_condT rfl ?_
    refine w_seq ?_
    refine w_ops ?_
    refine wo_step (v := (.b false)) (s_pure (p_mv rfl)) ?_
    refine wo_step (v := (.i .i64 2)) (s_pure (p_mv rfl)) ?_
    refine wo_nil ?_
    refine nx_norm ?_
    refine w_ret ?_
    refine nx_ret ?_
    exact qf ret_ok (rt rfl (rt rfl rn)) hr
  · refine w_condF rfl ?_
    refine w_skip ?_
    refine nx_norm ?_
    refine w_seq ?_
    refine w_ops ?_
    refine wo_step (v := (.i .i64 x0)) (s_pure (p_mv g0)) ?_
    have hq := bindP_inv hr
    clear hr
    obtain ⟨v11, m_2, e11, hr⟩ := hq
    refine wo_step (v := v11) (s_call (mc rfl mn) (callM_le hM.call e11)) ?_
    refine wo_step (v := v11) (s_pure (p_mv rfl)) ?_
    have hq := bindO_inv hr
    clear hr
    obtain ⟨v12, e12, hr⟩ := hq
    have hq := asS_inv hr
    clear hr
    obtain ⟨s12, rfl, hr⟩ := hq
    refine wo_step (v := (.s s12)) (s_pure (o_ext rfl e12)) ?_
    have hq := bindO_inv hr
    clear hr
    obtain ⟨v13, e13, hr⟩ := hq
    have hq := asB_inv hr
    clear hr
    obtain ⟨c13, rfl, hr⟩ := hq
    refine wo_step (v := (.b c13)) (s_pure (o_ext rfl e13)) ?_
    refine wo_step (v := (.s s12)) (s_pure (p_mv rfl)) ?_
    refine wo_step (v := (.b c13)) (s_pure (p_mv rfl)) ?_
    refine wo_nil ?_
    refine nx_norm ?_
    refine w_seq ?_
    refine w_ops ?_
    refine wo_step (v := (.b c13)) (s_pure (p_mv rfl)) ?_
    have hq := forceB_inv hr
    clear hr
    obtain ⟨c15, e15, hr⟩ := hq
    refine wo_step (v := (.b c15)) (s_pure ((p_not rfl).trans (cb e15))) ?_
    refine wo_step (v := (.b c15)) (s_pure (p_mv rfl)) ?_
    refine wo_step (v := (.i .i64 0)) (s_pure (p_mv rfl)) ?_
    refine wo_nil ?_
    refine nx_norm ?_
    refine w_ret ?_
    exact qf ret_ok (rt rfl (rt rfl rn)) hr

/- dibber/weed.OneToOne -/

def g30 (M : Means) (ro : List ABlk) (x0 : Int) (m0 : Mm) : Option (AVal × Heap × Nat × Nat) :=
  bindP (callM M.call m0 61 [(.i .i64 x0)]) fun v8 m_1 =>
  bindO (evP .e (.ext 0 (.c v8))) fun v9 =>
  asI .u8 v9 fun x9 =>
  bindO (evP .e (.ext 1 (.c v8))) fun v10 =>
  asI .i64 v10 fun x10 =>
  forceB (!eqI x10 0) fun c12 =>
  cond c12 (
    finM m0.h.length (tupA [(.b false), (.i .i64 x10)]) m_1) (
    bindP (callM M.call m_1 64 [(.i .u8 x9)]) fun v15 m_2 =>
    asB v15 fun c15 =>
    finM m0.h.length (tupA [(.b c15), (.i .i64 0)]) m_2)

theorem g30_ok {ro : List ABlk} {O : Caller} {M : Means} (hM : M.Ok ⟨F, O⟩ ro) {x0 h r} (ho : O 30 [(.i .i64 x0)] h = none) (hr : g30 M ro x0 ⟨h, h.length, h.length⟩ = some r) : callX ⟨F, O⟩ ro 30 [(.i .i64 x0)] h = some r := by
  refine callX_of (F := ⟨F, O⟩) (fn := fn30) (g := g30 M ro x0) ho rfl rfl hr ?_
  clear ho
  clear hr
  intro m0 t0 ht hr
  have g0 : t0.get 0 = (.i .i64 x0) := ht 0
  clear ht
  unfold g30 at hr
  refine w_seq ?_
  refine w_ops ?_
  refine wo_step (v := (.b false)) (s_pure (p_mv rfl)) ?_
  refine wo_step (v := (.i .i64 0)) (s_pure (p_mv rfl)) ?_
  refine wo_nil ?_
  refine nx_norm ?_
  refine w_seq ?_
  refine w_ops ?_
  refine wo_step (v := (.i .i64 x0)) (s_pure (p_mv g0)) ?_
  have hq := bindP_inv hr
  clear hr
  obtain ⟨v8, m_1, e8, hr⟩ := hq
  refine wo_step (v := v8) (s_call (mc rfl mn) (callM_le hM.call e8)) ?_
  refine wo_step (v := v8) (s_pure (p_mv rfl)) ?_
  have hq := bindO_inv hr
  clear hr
  obtain ⟨v9, e9, hr⟩ := hq
  have hq := asI_inv hr
  clear hr
  obtain ⟨x9, rfl, hr⟩ := hq
  refine wo_step (v := (.i .u8 x9)) (s_pure (o_ext rfl e9)) ?_
  have hq := bindO_inv hr
  clear hr
  obtain ⟨v10, e10, hr⟩ := hq
  have hq := asI_inv hr
  clear hr
  obtain ⟨x10, rfl, hr⟩ := hq
  refine wo_step (v := (.i .i64 x10)) (s_pure (o_ext rfl e10)) ?_
  refine wo_step (v := (.i .u8 x9)) (s_pure (p_mv rfl)) ?_
  refine wo_step (v := (.i .i64 x10)) (s_pure (p_mv rfl)) ?_
  refine wo_nil ?_
  refine nx_norm ?_
  refine w_seq ?_
  refine w_seq ?_
  refine w_ops ?_
  refine wo_step (v := (.i .i64 x10)) (s_pure (p_mv rfl)) ?_
  have hq := forceB_inv hr
  clear hr
  obtain ⟨c12, e12, hr⟩ := hq
  refine wo_step (v := (.b c12)) (s_pure (p_bin rfl rfl (b_neq.trans (cb e12)))) ?_
  refine wo_nil ?_
  refine nx_norm ?_
  have hq := cond_inv hr
  clear hr
  rcases hq with ⟨rfl, hr⟩ | ⟨rfl, hr⟩
  · refine w_condT rfl ?_
    refine w_seq ?_
    refine w_ops ?_
    refine wo_step (v := (.i .i64 x10)) (s_pure (p_mv rfl)) ?_
    refine wo_step (v := (.b false)) (s_pure (p_mv rfl)) ?_
    refine wo_step (v := (.i .i64 x10)) (s_pure (p_mv rfl)) ?_
    refine wo_nil ?_
    refine nx_norm ?_
    refine w_ret ?_
    refine nx_ret ?_
    exact qf ret_ok (rt rfl (rt rfl rn)) hr
  · refine w_condF rfl ?_
    refine w_skip ?_
    refine nx_norm ?_
    refine w_seq ?_
    refine w_ops ?_
    refine wo_step (v := (.i .u8 x9)) (s_pure (p_mv rfl)) ?_
    have hq := bindP_inv hr
    clear hr
    obtain ⟨v15, m_2, e15, hr⟩ := hq
    have hq := asB_inv hr
    clear hr
    obtain ⟨c15, rfl, hr⟩ := hq
    refine wo_step (v := (.b c15)) (s_call (mc rfl mn) (callM_le hM.call e15)) ?_
    refine wo_step (v := (.b c15)) (s_pure (p_mv rfl)) ?_
    refine wo_step (v := (.i .i64 0)) (s_pure (p_mv rfl)) ?_
    refine wo_nil ?_
    refine nx_norm ?_
    refine w_ret ?_
    exact qf ret_ok (rt rfl (rt rfl rn)) hr

/- dibber/weed.Mirror -/

def g36 (M : Means) (ro : List ABlk) (x0 : Int) (m0 : Mm) : Option (AVal × Heap × Nat × Nat) :=
  bindP (callM M.call m0 61 [(.i .i64 x0)]) fun v11 m_1 =>
  bindO (evP .e (.ext 0 (.c v11))) fun v12 =>
  asI .u8 v12 fun x12 =>
  bindO (evP .e (.ext 1 (.c v11))) fun v13 =>
  asI .i64 v13 fun x13 =>
  forceB (!eqI x13 0) fun c15 =>
  cond c15 (
    finM m0.h.length (tupA [(.i .i64 0), (.i .i64 0), (.i .i64 x13)]) m_1) (
    bindP (callM M.call m_1 69 [(.i .u8 x12)]) fun v19 m_2 =>
    bindO (evP .e (.ext 0 (.c v19))) fun v20 =>
    asI .u8 v20 fun x20 =>
    bindO (evP .e (.ext 1 (.c v19))) fun v21 =>
    asI .u8 v21 fun x21 =>
    forceI (wr .i64 x20) fun x23 =>
    forceI (wr .i64 x21) fun x25 =>
    finM m0.h.length (tupA [(.i .i64 x23), (.i .i64 x25), (.i .i64 0)]) m_2)

theorem g36_ok {ro : List ABlk} {O : Caller} {M : Means} (hM : M.Ok ⟨F, O⟩ ro) {x0 h r} (ho : O 36 [(.i .i64 x0)] h = none) (hr : g36 M ro x0 ⟨h, h.length, h.length⟩ = some r) : callX ⟨F, O⟩ ro 36 [(.i .i64 x0)] h = some r := by
  refine callX_of (F := ⟨F, O⟩) (fn := fn36) (g := g36 M ro x0) ho rfl rfl hr ?_
  clear ho
  clear hr
  intro m0 t0 ht hr
  have g0 : t0.get 0 = (.i .i64 x0) := ht 0
  clear ht
  unfold g36 at hr
  refine w_seq ?_
  refine w_ops ?_
  refine wo_step (v := (.i .i64 0)) (s_pure (p_mv rfl)) ?_
  refine wo_step (v := (.i .i64 0)) (s_pure (p_mv rfl)) ?_
  refine wo_step (v := (.i .i64 0)) (s_pure (p_mv rfl)) ?_
  refine wo_nil ?_
  refine nx_norm ?_
  refine w_seq ?_
  refine w_ops ?_
  refine wo_step (v := (.i .i64 x0)) (s_pure (p_mv g0)) ?_
  have hq := bindP_inv hr
  clear hr
  obtain ⟨v11, m_1, e11, hr⟩ := hq
  refine wo_step (v := v11) (s_call (mc rfl mn) (callM_le hM.call e11)) ?_
  refine wo_step (v := v11) (s_pure (p_mv rfl)) ?_
  have hq := bindO_inv hr
  clear hr
  obtain ⟨v12, e12, hr⟩ := hq
  have hq := asI_inv hr
  clear hr
  obtain ⟨x12, rfl, hr⟩ := hq
  refine wo_step (v := (.i .u8 x12)) (s_pure (o_ext rfl e12)) ?_
  have hq := bindO_inv hr
  clear hr
  obtain ⟨v13, e13, hr⟩ := hq
  have hq := asI_inv hr
  clear hr
  obtain ⟨x13, rfl, hr⟩ := hq
  refine wo_step (v := (.i .i64 x13)) (s_pure (o_ext rfl e13)) ?_
  refine wo_step (v := (.i .u8 x12)) (s_pure (p_mv rfl)) ?_
  refine wo_step (v := (.i .i64 x13)) (s_pure (p_mv rfl)) ?_
  refine wo_nil ?_
  refine nx_norm ?_
  refine w_seq ?_
  refine w_seq ?_
  refine w_ops ?_
  refine wo_step (v := (.i .i64 x13)) (s_pure (p_mv rfl)) ?_
  have hq := forceB_inv hr
  clear hr
  obtain ⟨c15, e15, hr⟩ := hq
  refine wo_step (v := (.b c15)) (s_pure (p_bin rfl rfl (b_neq.trans (cb e15)))) ?_
  refine wo_nil ?_
  refine nx_norm ?_
  have hq := cond_inv hr
  clear hr
  rcases hq with ⟨rfl, hr⟩ | ⟨rfl, hr⟩
  · refine w_condT rfl ?_
    refine w_seq ?_
    refine w_ops ?_
    refine wo_step (v := (.i .i64 x13)) (s_pure (p_mv rfl)) ?_
    refine wo_step (v := (.i .i64 0)) (s_pure (p_mv rfl)) ?_
    refine wo_step (v := (.i .i64 0)) (s_pure (p_mv rfl)) ?_
    refine wo_step (v := (.i .i64 x13)) (s_pure (p_mv rfl)) ?_
    refine wo_nil ?_
    refine nx_norm ?_
    refine w_ret ?_
    refine nx_ret ?_
    exact qf ret_ok (rt rfl (rt rfl (rt rfl rn))) hr
  · refine w_condF rfl ?_
    refine w_skip ?_
    refine nx_norm ?_
    refine w_seq ?_
    refine w_ops ?_
    refine wo_step (v := (.i .u8 x12)) (s_pure (p_mv rfl)) ?_
    have hq := bindP_inv hr
    clear hr
    obtain ⟨v19, m_2, e19, hr⟩ := hq
    refine wo_step (v := v19) (s_call (mc rfl mn) (callM_le hM.call e19)) ?_
    refine wo_step (v := v19) (s_pure (p_mv rfl)) ?_
    have hq := bindO_inv hr
    clear hr
    obtain ⟨v20, e20, hr⟩ := hq
    have hq := asI_inv hr
    clear hr
    obtain ⟨x20, rfl, hr⟩ := hq
    refine wo_step (v := (.i .u8 x20)) (s_pure (o_ext rfl e20)) ?_
    have hq := bindO_inv hr
    clear hr
    obtain ⟨v21, e21, hr⟩ := hq
    have hq := asI_inv hr
    clear hr
    obtain ⟨x21, rfl, hr⟩ := hq
    refine wo_step (v := (.i .u8 x21)) (s_pure (o_ext rfl e21)) ?_
    refine wo_step (v := (.i .u8 x20)) (s_pure (p_mv rfl)) ?_
    refine wo_step (v := (.i .u8 x21)) (s_pure (p_mv rfl)) ?_
    refine wo_nil ?_
    refine nx_norm ?_
    refine w_seq ?_
    refine w_ops ?_
    refine wo_step (v := (.i .u8 x20)) (s_pure (p_mv rfl)) ?_
    have hq := forceI_inv hr
    clear hr
    obtain ⟨x23, e23, hr⟩ := hq
    refine wo_step (v := (.i .i64 x23)) (s_pure ((p_conv rfl).trans (ci e23))) ?_
    refine wo_step (v := (.i .u8 x21)) (s_pure (p_mv rfl)) ?_
    have hq := forceI_inv hr
    clear hr
    obtain ⟨x25, e25, hr⟩ := hq
    refine wo_step (v := (.i .i64 x25)) (s_pure ((p_conv rfl).trans (ci e25))) ?_
    refine wo_step (v := (.i .i64 x23)) (s_pure (p_mv rfl)) ?_
    refine wo_step (v := (.i .i64 x25)) (s_pure (p_mv rfl)) ?_
    refine wo_step (v := (.i .i64 0)) (s_pure (p_mv rfl)) ?_
    refine wo_nil ?_
    refine nx_norm ?_
    refine w_ret ?_
    exact qf ret_ok (rt rfl (rt rfl (rt rfl rn))) hr

/- dibber/weed.read -/
abbrev g45_I0 (s1 : List UInt8) (x12 : Int) (x23 : Int) (m_1 : Mm) (s : Int) (m1 : Mm) (t1 : Tr) : Prop :=
  match s with
  | x24 => m_1 = m1 ∧ t1.get 24 = (.i .i64 x24) ∧ t1.get 1 = (.s s1) ∧ t1.get 6 = (.i .u8 x12) ∧ t1.get 23 = (.i .i64 x23)
abbrev g45_J0 (s1 : List UInt8) (x12 : Int) (x23 : Int) (m_1 : Mm) (o : (Unit ⊕ (Int × Int))) (e : AExit) (m1 : Mm) (t1 : Tr) : Prop :=
  match o with
  | (.inl _) => e = (.exit 0) ∧ m_1 = m1 ∧ t1.get 6 = (.i .u8 x12)
  | (.inr (y4, y5)) => e = .ret ∧ m_1 = m1 ∧ t1.get 4 = (.i .u8 y4) ∧ t1.get 5 = (.i .i64 y5)
abbrev g45_J1 (s1 : List UInt8) (x12 : Int) (x23 : Int) (x24 : Int) (m_1 : Mm) (o : Bool) (m1 : Mm) (t1 : Tr) : Prop :=
  match o with
  | c36 => m_1 = m1 ∧ t1.get 36 = (.b c36) ∧ t1.get 1 = (.s s1) ∧ t1.get 6 = (.i .u8 x12) ∧ t1.get 23 = (.i .i64 x23) ∧ t1.get 24 = (.i .i64 x24)
def g45_b0 (M : Means) (ro : List ABlk) (s1 : List UInt8) (x12 : Int) (x23 : Int) (m_1 : Mm) (x24 : Int) : Option ((Int) ⊕ ((Unit ⊕ (Int × Int)))) :=
  forceB (ltI x24 x23) fun c25 =>
  cond c25 (
    bindO (evP .e (.ixStr (.c (.s s1)) (.c (.i .i64 x24)))) fun v29 =>
    asI .u8 v29 fun x29 =>
    forceB (!eqI x29 48) fun c30 =>
    bindO (cond c30 (
      bindO (evP .e (.ixStr (.c (.s s1)) (.c (.i .i64 x24)))) fun v34 =>
      asI .u8 v34 fun x34 =>
      forceB (!eqI x34 49) fun c35 =>
      some c35) (
      some false)) fun c36 =>
    cond c36 (
      some (.inr (.inr (0, 5)))) (
      forceI (wr .i64 (x24 + 1)) fun x37 =>
      some (.inl x37))) (
    some (.inr (.inl ())))
def g45 (M : Means) (ro : List ABlk) (x0 : Int) (s1 : List UInt8) (m0 : Mm) : Option (AVal × Heap × Nat × Nat) :=
  bindP (callM M.call m0 61 [(.i .i64 x0)]) fun v11 m_1 =>
  bindO (evP .e (.ext 0 (.c v11))) fun v12 =>
  asI .u8 v12 fun x12 =>
  bindO (evP .e (.ext 1 (.c v11))) fun v13 =>
  asI .i64 v13 fun x13 =>
  forceB (!eqI x13 0) fun c15 =>
  cond c15 (
    finM m0.h.length (tupA [(.i .u8 0), (.i .i64 x13)]) m_1) (
    bindO (evP .e (.len true (.c (.s s1)))) fun v18 =>
    asI .i64 v18 fun x18 =>
    forceB (ltI 400 x18) fun c19 =>
    cond c19 (
      finM m0.h.length (tupA [(.i .u8 0), (.i .i64 3)]) m_1) (
      bindO (evP .e (.sbin BinOp.eql (.c (.s s1)) (.c (AVal.s [])))) fun v21 =>
      asB v21 fun c21 =>
      cond c21 (
        finM m0.h.length (tupA [(.i .u8 0), (.i .i64 5)]) m_1) (
        bindO (evP .e (.len true (.c (.s s1)))) fun v23 =>
        asI .i64 v23 fun x23 =>
        bindO (M.loop (S := Int) (R := (Unit ⊕ (Int × Int))) (fun s => g45_b0 M ro s1 x12 x23 m_1 s) 0) fun o_1 => match o_1 with
        | (.inl _) =>
          finM m0.h.length (tupA [(.i .u8 x12), (.i .i64 0)]) m_1
        | (.inr (x4, x5)) =>
          finM m0.h.length (tupA [(.i .u8 x4), (.i .i64 x5)]) m_1)))

theorem g45_ok {ro : List ABlk} {O : Caller} {M : Means} (hM : M.Ok ⟨F, O⟩ ro) {x0 s1 h r} (ho : O 45 [(.i .i64 x0), (.s s1)] h = none) (hr : g45 M ro x0 s1 ⟨h, h.length, h.length⟩ = some r) : callX ⟨F, O⟩ ro 45 [(.i .i64 x0), (.s s1)] h = some r := by
  refine callX_of (F := ⟨F, O⟩) (fn := fn45) (g := g45 M ro x0 s1) ho rfl rfl hr ?_
  clear ho
  clear hr
  intro m0 t0 ht hr
  have g0 : t0.get 0 = (.i .i64 x0) := ht 0
  have g1 : t0.get 1 = (.s s1) := ht 1
  clear ht
  unfold g45 at hr
  refine w_seq ?_
  refine w_ops ?_
  refine wo_step (v := (.i .u8 0)) (s_pure (p_mv rfl)) ?_
  refine wo_step (v := (.i .i64 0)) (s_pure (p_mv rfl)) ?_
  refine wo_nil ?_
  refine nx_norm ?_
  refine w_seq ?_
  refine w_ops ?_
  refine wo_step (v := (.i .i64 x0)) (s_pure (p_mv g0)) ?_
  have hq := bindP_inv hr
  clear hr
  obtain ⟨v11, m_1, e11, hr⟩ := hq
  refine wo_step (v := v11) (s_call (mc rfl mn) (callM_le hM.call e11)) ?_
  refine wo_step (v := v11) (s_pure (p_mv rfl)) ?_
  have hq := bindO_inv hr
  clear hr
  obtain ⟨v12, e12, hr⟩ := hq
  have hq := asI_inv hr
  clear hr
  obtain ⟨x12, rfl, hr⟩ := hq
  refine wo_step (v := (.i .u8 x12)) (s_pure (o_ext rfl e12)) ?_
  have hq := bindO_inv hr
  clear hr
  obtain ⟨v13, e13, hr⟩ := hq
  have hq := asI_inv hr
  clear hr
  obtain ⟨x13, rfl, hr⟩ := hq
  refine wo_step (v := (.i .i64 x13)) (s_pure (o_ext rfl e13)) ?_
  refine wo_step (v := (.i .u8 x12)) (s_pure (p_mv rfl)) ?_
  refine wo_step (v := (.i .i64 x13)) (s_pure (p_mv rfl)) ?_
  refine wo_nil ?_
  refine nx_norm ?_
  refine w_seq ?_
  refine w_seq ?_
  refine w_ops ?_
  refine wo_step (v := (.i .i64 x13)) (s_pure (p_mv rfl)) ?_
  have hq := forceB_inv hr
  clear hr
  obtain ⟨c15, e15, hr⟩ := hq
  refine wo_step (v := (.b c15)) (s_pure (p_bin rfl rfl (b_neq.trans (cb e15)))) ?_
  refine wo_nil ?_
  refine nx_norm ?_
  have hq := cond_inv hr
  clear hr
  rcases hq with ⟨rfl, hr⟩ | ⟨rfl, hr⟩
  · refine w_condT rfl ?_
    refine w_seq ?_
    refine w_ops ?_
    refine wo_step (v := (.i .i64 x13)) (s_pure (p_mv rfl)) ?_
    refine wo_step (v := (.i .u8 0)) (s_pure (p_mv rfl)) ?_
    refine wo_step (v := (.i .i64 x13)) (s_pure (p_mv rfl)) ?_
    refine wo_nil ?_
    refine nx_norm ?_
    refine w_ret ?_
    refine nx_ret ?_
    exact qf ret_ok (rt rfl (rt rfl rn)) hr
  · refine w_condF rfl ?_
    refine w_skip ?_
    refine nx_norm ?_
    refine w_seq ?_
    refine w_seq ?_
    refine w_ops ?_
    refine wo_step (v := (.s s1)) (s_pure (p_mv g1)) ?_
    have hq := bindO_inv hr
    clear hr
    obtain ⟨v18, e18, hr⟩ := hq
    have hq := asI_inv hr
    clear hr
    obtain ⟨x18, rfl, hr⟩ := hq
    refine wo_step (v := (.i .i64 x18)) (s_pure (o_len rfl e18)) ?_
    have hq := forceB_inv hr
    clear hr
    obtain ⟨c19, e19, hr⟩ := hq
    refine wo_step (v := (.b c19)) (s_pure (p_bin rfl rfl (b_gtr.trans (cb e19)))) ?_
    refine wo_nil ?_
    refine nx_norm ?_
    have hq := cond_inv hr
    clear hr
    rcases hq with ⟨rfl, hr⟩ | ⟨rfl, hr⟩
    · refine w_condT rfl ?_
      refine w_seq ?_
      refine w_ops ?_
      refine wo_step (v := (.i .u8 0)) (s_pure (p_mv rfl)) ?_
      refine wo_step (v := (.i .i64 3)) (s_pure (p_mv rfl)) ?_
      refine wo_nil ?_
      refine nx_norm ?_
      refine w_ret ?_
      refine nx_ret ?_
      exact qf ret_ok (rt rfl (rt rfl rn)) hr
    · refine w_condF rfl ?_
      refine w_skip ?_
      refine nx_norm ?_
      refine w_seq ?_
      refine w_seq ?_
      refine w_ops ?_
      refine wo_step (v := (.s s1)) (s_pure (p_mv g1)) ?_
      have hq := bindO_inv hr
      clear hr
      obtain ⟨v21, e21, hr⟩ := hq
      have hq := asB_inv hr
      clear hr
      obtain ⟨c21, rfl, hr⟩ := hq
      refine wo_step (v := (.b c21)) (s_pure (o_sbin rfl rfl e21)) ?_
      refine wo_nil ?_
      refine nx_norm ?_
      have hq := cond_inv hr
      clear hr
      rcases hq with ⟨rfl, hr⟩ | ⟨rfl, hr⟩
      · refine w_condT rfl ?_
        refine w_seq ?_
        refine w_ops ?_
        refine wo_step (v := (.i .u8 0)) (s_pure (p_mv rfl)) ?_
        refine wo_step (v := (.i .i64 5)) (s_pure (p_mv rfl)) ?_
        refine wo_nil ?_
        refine nx_norm ?_
        refine w_ret ?_
        refine nx_ret ?_
        exact qf ret_ok (rt rfl (rt rfl rn)) hr
      · refine w_condF rfl ?_
        refine w_skip ?_
        refine nx_norm ?_
        refine w_seq ?_
        refine w_seq ?_
        refine w_ops ?_
        refine wo_step (v := (.s s1)) (s_pure (p_mv g1)) ?_
        have hq := bindO_inv hr
        clear hr
        obtain ⟨v23, e23, hr⟩ := hq
        have hq := asI_inv hr
        clear hr
        obtain ⟨x23, rfl, hr⟩ := hq
        refine wo_step (v := (.i .i64 x23)) (s_pure (o_len rfl e23)) ?_
        refine wo_step (v := (.i .i64 0)) (s_pure (p_mv rfl)) ?_
        refine wo_nil ?_
        refine nx_norm ?_
        refine w_block ?_
        have hq := bindO_inv hr
        clear hr
        obtain ⟨o_1, hl, hr⟩ := hq
        obtain ⟨n, hl⟩ := hM.loop _ _ _ hl
        refine jp_mono (w_loop _ (g45_I0 s1 x12 x23 m_1) (g45_J0 s1 x12 x23 m_1) ?_ n _ _ _ _ hl ⟨rfl, gl rfl, gl g1, gl rfl, gl rfl⟩) ?_
        · clear hr hl
          intro s mm_3 t_1 o hi hr
          obtain ⟨x24, hs⟩ : ∃ z, z = s := ⟨_, rfl⟩
          subst hs
          obtain ⟨rfl, g24, g1, g6, g23⟩ := hi
          unfold g45_b0 at hr
          refine w_seq ?_
          refine w_ops ?_
          have hq := forceB_inv hr
          clear hr
          obtain ⟨c25, e25, hr⟩ := hq
          refine wo_step (v := (.b c25)) (s_pure (p_bin g24 g23 (b_lss.trans (cb e25)))) ?_
          refine wo_nil ?_
          refine nx_norm ?_
          refine w_seq ?_
          have hq := cond_inv hr
          clear hr
          rcases hq with ⟨rfl, hr⟩ | ⟨rfl, hr⟩
          · refine w_condT rfl ?_
            refine w_skip ?_
            refine nx_norm ?_
            refine w_seq ?_
            refine w_block ?_
            refine w_seq ?_
            refine w_ops ?_
            refine wo_step (v := (.i .i64 x24)) (s_pure (p_mv g24)) ?_
            refine wo_step (v := (.i .i64 x24)) (s_pure (p_mv rfl)) ?_
            refine wo_nil ?_
            refine nx_norm ?_
            refine w_seq ?_
            refine w_ops ?_
            refine wo_step (v := (.s s1)) (s_pure (p_mv g1)) ?_
            refine wo_step (v := (.i .i64 x24)) (s_pure (p_mv rfl)) ?_
            have hq := bindO_inv hr
            clear hr
            obtain ⟨v29, e29, hr⟩ := hq
            have hq := asI_inv hr
            clear hr
            obtain ⟨x29, rfl, hr⟩ := hq
            refine wo_step (v := (.i .u8 x29)) (s_pure (o_ixStr rfl rfl e29)) ?_
            have hq := forceB_inv hr
            clear hr
            obtain ⟨c30, e30, hr⟩ := hq
            refine wo_step (v := (.b c30)) (s_pure (p_bin rfl rfl (b_neq.trans (cb e30)))) ?_
            refine wo_step (v := (.b c30)) (s_pure (p_mv rfl)) ?_
            have hq := bindO_inv hr
            clear hr
            obtain ⟨o, hr, hk⟩ := hq
            refine wo_join 5 (g45_J1 s1 x12 x23 x24 m_1 o) ?_ ?_
            · clear hk
              have hq := cond_inv hr
              clear hr
              rcases hq with ⟨rfl, hr⟩ | ⟨rfl, hr⟩
              · refine wo_take (v := (.s s1)) rfl (s_pure (p_mv g1)) ?_
                refine wo_take (v := (.i .i64 x24)) rfl (s_pure (p_mv rfl)) ?_
                have hq := bindO_inv hr
                clear hr
                obtain ⟨v34, e34, hr⟩ := hq
                have hq := asI_inv hr
                clear hr
                obtain ⟨x34, rfl, hr⟩ := hq
                refine wo_take (v := (.i .u8 x34)) rfl (s_pure (o_ixStr rfl rfl e34)) ?_
                have hq := forceB_inv hr
                clear hr
                obtain ⟨c35, e35, hr⟩ := hq
                refine wo_take (v := (.b c35)) rfl (s_pure (p_bin rfl rfl (b_neq.trans (cb e35)))) ?_
                refine wo_step (v := (.b c35)) (s_pure (p_pickT rfl rfl)) ?_
                refine wo_nil ?_
                cases hr
                exact ⟨_, _, rfl, rfl, gl rfl, gl g1, gl g6, gl g23, gl g24⟩
              · refine wo_skip (v := (.b false)) rfl rfl ?_
                refine wo_skip (v := (.b false)) rfl rfl ?_
                refine wo_skip (v := (.b false)) rfl rfl ?_
                refine wo_skip (v := (.b false)) rfl rfl ?_
                refine wo_step (v := (.b false)) (s_pure (p_pickF rfl rfl)) ?_
                refine wo_nil ?_
                cases hr
                exact ⟨_, _, rfl, rfl, gl rfl, gl g1, gl g6, gl g23, gl g24⟩
            · clear hr
              have hr := hk
              clear hk
              obtain ⟨c36, ho⟩ : ∃ z, z = o := ⟨_, rfl⟩
              subst ho
              rintro mm t_2 ⟨rfl, g36, g1, g6, g23, g24⟩
              refine wo_nil ?_
              refine nx_norm ?_
              have hq := cond_inv hr
              clear hr
              rcases hq with ⟨rfl, hr⟩ | ⟨rfl, hr⟩
              · refine w_condT g36 ?_
                refine w_seq ?_
                refine w_ops ?_
                refine wo_step (v := (.i .u8 0)) (s_pure (p_mv rfl)) ?_
                refine wo_step (v := (.i .i64 5)) (s_pure (p_mv rfl)) ?_
                refine wo_nil ?_
                refine nx_norm ?_
                refine w_ret ?_
                refine bk_ret ?_
                refine nx_ret ?_
                cases hr
                exact ⟨_, _, rfl, ne_norm_ret, rfl, rfl, gl rfl, gl rfl⟩
              · refine w_condF g36 ?_
                refine w_skip ?_
                refine bk_norm ?_
                refine nx_norm ?_
                refine w_ops ?_
                have hq := forceI_inv hr
                clear hr
                obtain ⟨x37, e37, hr⟩ := hq
                refine wo_step (v := (.i .i64 x37)) (s_pure (p_bin g24 rfl (b_add.trans (ci e37)))) ?_
                refine wo_step (v := (.i .i64 x37)) (s_pure (p_mv rfl)) ?_
                refine wo_nil ?_
                cases hr
                exact ⟨_, _, rfl, rfl, rfl, gl rfl, gl g1, gl g6, gl g23⟩
          · refine w_condF rfl ?_
            refine w_exit ?_
            refine nx_exit ?_
            cases hr
            exact ⟨_, _, rfl, ne_norm_exit, rfl, rfl, gl g6⟩
        · rcases o_1 with o_1 | o_1
          · rintro _ mm_1 t_3 ⟨rfl, rfl, g6⟩
            refine bk_hit ?_
            refine nx_norm ?_
            refine w_seq ?_
            refine w_ops ?_
            refine wo_step (v := (.i .u8 x12)) (s_pure (p_mv g6)) ?_
            refine wo_step (v := (.i .u8 x12)) (s_pure (p_mv rfl)) ?_
            refine wo_step (v := (.i .i64 0)) (s_pure (p_mv rfl)) ?_
            refine wo_nil ?_
            refine nx_norm ?_
            refine w_ret ?_
            exact qf ret_ok (rt rfl (rt rfl rn)) hr
          · obtain ⟨x4, x5⟩ := o_1
            rintro _ mm_2 t_4 ⟨rfl, rfl, g4, g5⟩
            refine bk_ret ?_
            refine nx_ret ?_
            exact qf ret_ok (rt g4 (rt g5 rn)) hr

/- (dibber/weed.rule).grow -/
abbrev g46_I0 (x0 : Int) (s1 : List UInt8) (v10 : AVal) (x12 : Int) (s : Int × Mm) (m1 : Mm) (t1 : Tr) : Prop :=
  match s with
  | (x13, m_2) => m_2 = m1 ∧ t1.get 13 = (.i .i64 x13) ∧ t1.get 0 = (.i .u8 x0) ∧ t1.get 1 = (.s s1) ∧ t1.get 5 = v10 ∧ t1.get 12 = (.i .i64 x12)
abbrev g46_J0 (x0 : Int) (s1 : List UInt8) (v10 : AVal) (x12 : Int) (o : Mm) (e : AExit) (m1 : Mm) (t1 : Tr) : Prop :=
  match o with
  | mo => e = (.exit 0) ∧ mo = m1 ∧ t1.get 5 = v10
def g46_b0 (M : Means) (ro : List ABlk) (x0 : Int) (s1 : List UInt8) (v10 : AVal) (x12 : Int) (x13 : Int) (m_2 : Mm) : Option ((Int × Mm) ⊕ (Mm)) :=
  forceB (ltI x13 x12) fun c14 =>
  cond c14 (
    bindO (evP .e (.ixStr (.c (.s s1)) (.c (.i .i64 x13)))) fun v21 =>
    asI .u8 v21 fun x21 =>
    forceI (wr .i64 (x13 + 1)) fun x26 =>
    bindO (evP .e (.ixStr (.c (.s s1)) (.c (.i .i64 x26)))) fun v27 =>
    asI .u8 v27 fun x27 =>
    forceI (wr .i64 (x13 + 2)) fun x33 =>
    bindO (evP .e (.ixStr (.c (.s s1)) (.c (.i .i64 x33)))) fun v34 =>
    asI .u8 v34 fun x34 =>
    bindP (callM M.call m_2 73 [(.i .u8 x21)]) fun v22 m_3 =>
    asI .i64 v22 fun x22 =>
    forceI (wr .i64 (4 * x22)) fun x23 =>
    bindP (callM M.call m_3 73 [(.i .u8 x27)]) fun v28 m_4 =>
    asI .i64 v28 fun x28 =>
    forceI (wr .i64 (2 * x28)) fun x29 =>
    forceI (wr .i64 (x23 + x29)) fun x30 =>
    bindP (callM M.call m_4 73 [(.i .u8 x34)]) fun v35 m_5 =>
    asI .i64 v35 fun x35 =>
    forceI (wr .i64 (x30 + x35)) fun x36 =>
    bindP (callM M.call m_5 72 [(.i .u8 x0), (.i .i64 x36)]) fun v37 m_6 =>
    asI .i64 v37 fun x37 =>
    bindP (callM M.call m_6 71 [(.i .i64 x37)]) fun v38 m_7 =>
    asI .u8 v38 fun x38 =>
    bindO (evP .e (.ixS 1 (.c v10) (.c (.i .i64 x13)))) fun v39 =>
    bindP (stepM ro m_7 (.st 1 (.c v39) (.c (.i .u8 x38)))) fun vn m_8 =>
    forceI (wr .i64 (x13 + 1)) fun x40 =>
    some (.inl (x40, m_8))) (
    some (.inr m_2))
def g46 (M : Means) (ro : List ABlk) (x0 : Int) (s1 : List UInt8) (m0 : Mm) : Option (AVal × Heap × Nat × Nat) :=
  bindO (evP .e (.len true (.c (.s s1)))) fun v8 =>
  asI .i64 v8 fun x8 =>
  forceI (wr .i64 (x8 - 2)) fun x9 =>
  bindP (stepM ro m0 (.mk 5 1 1 [(AVal.i IntKind.u8 0)] (.c (.i .i64 x9)) (.c (.i .i64 x9)))) fun v10 m_1 =>
  bindO (evP .e (.len false (.c v10))) fun v12 =>
  asI .i64 v12 fun x12 =>
  bindO (M.loop (S := Int × Mm) (R := Mm) (fun s => g46_b0 M ro x0 s1 v10 x12 s.1 s.2) (0, m_1)) fun m_9 =>
  bindO (btsM ro m_9 v10) fun v42 =>
  asS v42 fun s42 =>
  finM m0.h.length (tupA [(.s s42)]) m_9

theorem g46_ok {ro : List ABlk} {O : Caller} {M : Means} (hM : M.Ok ⟨F, O⟩ ro) {x0 s1 h r} (ho : O 46 [(.i .u8 x0), (.s s1)] h = none) (hr : g46 M ro x0 s1 ⟨h, h.length, h.length⟩ = some r) : callX ⟨F, O⟩ ro 46 [(.i .u8 x0), (.s s1)] h = some r := by
  refine callX_of (F := ⟨F, O⟩) (fn := fn46) (g := g46 M ro x0 s1) ho rfl rfl hr ?_
  clear ho
  clear hr
  intro m0 t0 ht hr
  have g0 : t0.get 0 = (.i .u8 x0) := ht 0
  have g1 : t0.get 1 = (.s s1) := ht 1
  clear ht
  unfold g46 at hr
  refine w_seq ?_
  refine w_ops ?_
  refine wo_step (v := (AVal.s [])) (s_pure (p_mv rfl)) ?_
  refine wo_nil ?_
  refine nx_norm ?_
  refine w_seq ?_
  refine w_ops ?_
  refine wo_step (v := (.s s1)) (s_pure (p_mv g1)) ?_
  have hq := bindO_inv hr
  clear hr
  obtain ⟨v8, e8, hr⟩ := hq
  have hq := asI_inv hr
  clear hr
  obtain ⟨x8, rfl, hr⟩ := hq
  refine wo_step (v := (.i .i64 x8)) (s_pure (o_len rfl e8)) ?_
  have hq := forceI_inv hr
  clear hr
  obtain ⟨x9, e9, hr⟩ := hq
  refine wo_step (v := (.i .i64 x9)) (s_pure (p_bin rfl rfl (b_sub.trans (ci e9)))) ?_
  have hq := bindP_inv hr
  clear hr
  obtain ⟨v10, m_1, e10, hr⟩ := hq
  refine wo_step (v := v10) (s_mk rfl rfl e10) ?_
  refine wo_step (v := v10) (s_pure (p_mv rfl)) ?_
  refine wo_nil ?_
  refine nx_norm ?_
  refine w_seq ?_
  refine w_seq ?_
  refine w_ops ?_
  refine wo_step (v := v10) (s_pure (p_mv rfl)) ?_
  have hq := bindO_inv hr
  clear hr
  obtain ⟨v12, e12, hr⟩ := hq
  have hq := asI_inv hr
  clear hr
  obtain ⟨x12, rfl, hr⟩ := hq
  refine wo_step (v := (.i .i64 x12)) (s_pure (o_len rfl e12)) ?_
  refine wo_step (v := (.i .i64 0)) (s_pure (p_mv rfl)) ?_
  refine wo_nil ?_
  refine nx_norm ?_
  refine w_block ?_
  have hq := bindO_inv hr
  clear hr
  obtain ⟨o, hl, hr⟩ := hq
  obtain ⟨n, hl⟩ := hM.loop _ _ _ hl
  refine jp_mono (w_loop _ (g46_I0 x0 s1 v10 x12) (g46_J0 x0 s1 v10 x12) ?_ n _ _ _ _ hl ⟨rfl, gl rfl, gl g0, gl g1, gl rfl, gl rfl⟩) ?_
  · clear hr hl
    intro s mm_1 t_1 o hi hr
    obtain ⟨x13, m_2⟩ := s
    obtain ⟨rfl, g13, g0, g1, g5, g12⟩ := hi
    unfold g46_b0 at hr
    refine w_seq ?_
    refine w_ops ?_
    have hq := forceB_inv hr
    clear hr
    obtain ⟨c14, e14, hr⟩ := hq
    refine wo_step (v := (.b c14)) (s_pure (p_bin g13 g12 (b_lss.trans (cb e14)))) ?_
    refine wo_nil ?_
    refine nx_norm ?_
    refine w_seq ?_
    have hq := cond_inv hr
    clear hr
    rcases hq with ⟨rfl, hr⟩ | ⟨rfl, hr⟩
    · refine w_condT rfl ?_
      refine w_skip ?_
      refine nx_norm ?_
      refine w_seq ?_
      refine w_block ?_
      refine w_seq ?_
      refine w_ops ?_
      refine wo_step (v := (.i .i64 x13)) (s_pure (p_mv g13)) ?_
      refine wo_step (v := (.i .i64 x13)) (s_pure (p_mv rfl)) ?_
      refine wo_nil ?_
      refine nx_norm ?_
      refine w_ops ?_
      refine wo_step (v := v10) (s_pure (p_mv g5)) ?_
      refine wo_step (v := (.i .i64 x13)) (s_pure (p_mv rfl)) ?_
      refine wo_step (v := (.i .u8 x0)) (s_pure (p_mv g0)) ?_
      refine wo_step (v := (.s s1)) (s_pure (p_mv g1)) ?_
      refine wo_step (v := (.i .i64 x13)) (s_pure (p_mv rfl)) ?_
      have hq := bindO_inv hr
      clear hr
      obtain ⟨v21, e21, hr⟩ := hq
      have hq := asI_inv hr
      clear hr
      obtain ⟨x21, rfl, hr⟩ := hq
      refine wo_step (v := (.i .u8 x21)) (s_pure (o_ixStr rfl rfl e21)) ?_
      refine wo_step (v := (.s s1)) (s_pure (p_mv g1)) ?_
      refine wo_step (v := (.i .i64 x13)) (s_pure (p_mv rfl)) ?_
      have hq := forceI_inv hr
      clear hr
      obtain ⟨x26, e26, hr⟩ := hq
      refine wo_step (v := (.i .i64 x26)) (s_pure (p_bin rfl rfl (b_add.trans (ci e26)))) ?_
      have hq := bindO_inv hr
      clear hr
      obtain ⟨v27, e27, hr⟩ := hq
      have hq := asI_inv hr
      clear hr
      obtain ⟨x27, rfl, hr⟩ := hq
      refine wo_step (v := (.i .u8 x27)) (s_pure (o_ixStr rfl rfl e27)) ?_
      refine wo_step (v := (.s s1)) (s_pure (p_mv g1)) ?_
      refine wo_step (v := (.i .i64 x13)) (s_pure (p_mv rfl)) ?_
      have hq := forceI_inv hr
      clear hr
      obtain ⟨x33, e33, hr⟩ := hq
      refine wo_step (v := (.i .i64 x33)) (s_pure (p_bin rfl rfl (b_add.trans (ci e33)))) ?_
      have hq := bindO_inv hr
      clear hr
      obtain ⟨v34, e34, hr⟩ := hq
      have hq := asI_inv hr
      clear hr
      obtain ⟨x34, rfl, hr⟩ := hq
      refine wo_step (v := (.i .u8 x34)) (s_pure (o_ixStr rfl rfl e34)) ?_
      have hq := bindP_inv hr
      clear hr
      obtain ⟨v22, m_3, e22, hr⟩ := hq
      have hq := asI_inv hr
      clear hr
      obtain ⟨x22, rfl, hr⟩ := hq
      refine wo_step (v := (.i .i64 x22)) (s_call (mc rfl mn) (callM_le hM.call e22)) ?_
      have hq := forceI_inv hr
      clear hr
      obtain ⟨x23, e23, hr⟩ := hq
      refine wo_step (v := (.i .i64 x23)) (s_pure (p_bin rfl rfl (b_mul.trans (ci e23)))) ?_
      have hq := bindP_inv hr
      clear hr
      obtain ⟨v28, m_4, e28, hr⟩ := hq
      have hq := asI_inv hr
      clear hr
      obtain ⟨x28, rfl, hr⟩ := hq
      refine wo_step (v := (.i .i64 x28)) (s_call (mc rfl mn) (callM_le hM.call e28)) ?_
      have hq := forceI_inv hr
      clear hr
      obtain ⟨x29, e29, hr⟩ := hq
      refine wo_step (v := (.i .i64 x29)) (s_pure (p_bin rfl rfl (b_mul.trans (ci e29)))) ?_
      have hq := forceI_inv hr
      clear hr
      obtain ⟨x30, e30, hr⟩ := hq
      refine wo_step (v := (.i .i64 x30)) (s_pure (p_bin rfl rfl (b_add.trans (ci e30)))) ?_
      have hq := bindP_inv hr
      clear hr
      obtain ⟨v35, m_5, e35, hr⟩ := hq
      have hq := asI_inv hr
      clear hr
      obtain ⟨x35, rfl, hr⟩ := hq
      refine wo_step (v := (.i .i64 x35)) (s_call (mc rfl mn) (callM_le hM.call e35)) ?_
      have hq := forceI_inv hr
      clear hr
      obtain ⟨x36, e36, hr⟩ := hq
      refine wo_step (v := (.i .i64 x36)) (s_pure (p_bin rfl rfl (b_add.trans (ci e36)))) ?_
      have hq := bindP_inv hr
      clear hr
      obtain ⟨v37, m_6, e37, hr⟩ := hq
      have hq := asI_inv hr
      clear hr
      obtain ⟨x37, rfl, hr⟩ := hq
      refine wo_step (v := (.i .i64 x37)) (s_call (mc rfl (mc rfl mn)) (callM_le hM.call e37)) ?_
      have hq := bindP_inv hr
      clear hr
      obtain ⟨v38, m_7, e38, hr⟩ := hq
      have hq := asI_inv hr
      clear hr
      obtain ⟨x38, rfl, hr⟩ := hq
      refine wo_step (v := (.i .u8 x38)) (s_call (mc rfl mn) (callM_le hM.call e38)) ?_
      have hq := bindO_inv hr
      clear hr
      obtain ⟨v39, e39, hr⟩ := hq
      refine wo_step (v := v39) (s_pure (o_ixS rfl rfl e39)) ?_
      have hq := bindP_inv hr
      clear hr
      obtain ⟨vn, m_8, en, hr⟩ := hq
      refine wo_stepN (s_st rfl rfl en) ?_
      refine wo_nil ?_
      refine bk_norm ?_
      refine nx_norm ?_
      refine w_ops ?_
      have hq := forceI_inv hr
      clear hr
      obtain ⟨x40, e40, hr⟩ := hq
      refine wo_step (v := (.i .i64 x40)) (s_pure (p_bin g13 rfl (b_add.trans (ci e40)))) ?_
      refine wo_step (v := (.i .i64 x40)) (s_pure (p_mv rfl)) ?_
      refine wo_nil ?_
      cases hr
      exact ⟨_, _, rfl, rfl, rfl, gl rfl, gl g0, gl g1, gl g5, gl g12⟩
    · refine w_condF rfl ?_
      refine w_exit ?_
      refine nx_exit ?_
      cases hr
      exact ⟨_, _, rfl, ne_norm_exit, rfl, rfl, gl g5⟩
  · obtain ⟨m_9, ho⟩ : ∃ z, z = o := ⟨_, rfl⟩
    subst ho
    rintro _ mm t_2 ⟨rfl, rfl, g5⟩
    refine bk_hit ?_
    refine nx_norm ?_
    refine w_seq ?_
    refine w_ops ?_
    refine wo_step (v := v10) (s_pure (p_mv g5)) ?_
    have hq := bindO_inv hr
    clear hr
    obtain ⟨v42, e42, hr⟩ := hq
    have hq := asS_inv hr
    clear hr
    obtain ⟨s42, rfl, hr⟩ := hq
    refine wo_step (v := (.s s42)) (s_bts rfl e42) ?_
    refine wo_step (v := (.s s42)) (s_pure (p_mv rfl)) ?_
    refine wo_nil ?_
    refine nx_norm ?_
    refine w_ret ?_
    exact qf ret_ok (rt rfl rn) hr

/- dibber/dibberref02.becomes -/

def g49 (M : Means) (ro : List ABlk) (x0 : Int) (x1 : Int) (x2 : Int) (x3 : Int) (m0 : Mm) : Option (AVal × Heap × Nat × Nat) :=
  forceI (wr .i64 (4 * x1)) fun x11 =>
  forceI (wr .i64 (2 * x2)) fun x13 =>
  forceI (wr .i64 (x11 + x13)) fun x14 =>
  forceI (wr .i64 (x14 + x3)) fun x16 =>
  chk (!ltI x16 (.ofNat 0)) <|
  forceI (shrV .i64 x0 x16) fun x17 =>
  forceI (Int.tmod x17 2) fun x18 =>
  finM m0.h.length (tupA [(.i .i64 x18)]) m0

theorem g49_ok {ro : List ABlk} {O : Caller} {M : Means} (hM : M.Ok ⟨F, O⟩ ro) {x0 x1 x2 x3 h r} (ho : O 49 [(.i .i64 x0), (.i .i64 x1), (.i .i64 x2), (.i .i64 x3)] h = none) (hr : g49 M ro x0 x1 x2 x3 ⟨h, h.length, h.length⟩ = some r) : callX ⟨F, O⟩ ro 49 [(.i .i64 x0), (.i .i64 x1), (.i .i64 x2), (.i .i64 x3)] h = some r := by
  refine callX_of (F := ⟨F, O⟩) (fn := fn49) (g := g49 M ro x0 x1 x2 x3) ho rfl rfl hr ?_
  clear ho
  clear hr
  intro m0 t0 ht hr
  have g0 : t0.get 0 = (.i .i64 x0) := ht 0
  have g1 : t0.get 1 = (.i .i64 x1) := ht 1
  have g2 : t0.get 2 = (.i .i64 x2) := ht 2
  have g3 : t0.get 3 = (.i .i64 x3) := ht 3
  clear ht
  unfold g49 at hr
  refine w_seq ?_
  refine w_ops ?_
  refine wo_step (v := (.i .i64 0)) (s_pure (p_mv rfl)) ?_
  refine wo_nil ?_
  refine nx_norm ?_
  refine w_seq ?_
  refine w_ops ?_
  refine wo_step (v := (.i .i64 x0)) (s_pure (p_mv g0)) ?_
  refine wo_step (v := (.i .i64 x1)) (s_pure (p_mv g1)) ?_
  have hq := forceI_inv hr
  clear hr
  obtain ⟨x11, e11, hr⟩ := hq
  refine wo_step (v := (.i .i64 x11)) (s_pure (p_bin rfl rfl (b_mul.trans (ci e11)))) ?_
  refine wo_step (v := (.i .i64 x2)) (s_pure (p_mv g2)) ?_
  have hq := forceI_inv hr
  clear hr
  obtain ⟨x13, e13, hr⟩ := hq
  refine wo_step (v := (.i .i64 x13)) (s_pure (p_bin rfl rfl (b_mul.trans (ci e13)))) ?_
  have hq := forceI_inv hr
  clear hr
  obtain ⟨x14, e14, hr⟩ := hq
  refine wo_step (v := (.i .i64 x14)) (s_pure (p_bin rfl rfl (b_add.trans (ci e14)))) ?_
  refine wo_step (v := (.i .i64 x3)) (s_pure (p_mv g3)) ?_
  have hq := forceI_inv hr
  clear hr
  obtain ⟨x16, e16, hr⟩ := hq
  refine wo_step (v := (.i .i64 x16)) (s_pure (p_bin rfl rfl (b_add.trans (ci e16)))) ?_
  have hq := chk_inv hr
  clear hr
  obtain ⟨hc17, hr⟩ := hq
  have hq := forceI_inv hr
  clear hr
  obtain ⟨x17, e17, hr⟩ := hq
  refine wo_step (v := (.i .i64 x17)) (s_pure (p_bin rfl rfl ((b_shr hc17).trans (ci e17)))) ?_
  have hq := forceI_inv hr
  clear hr
  obtain ⟨x18, e18, hr⟩ := hq
  refine wo_step (v := (.i .i64 x18)) (s_pure (p_bin rfl rfl ((b_rem rfl).trans (ci e18)))) ?_
  refine wo_step (v := (.i .i64 x18)) (s_pure (p_mv rfl)) ?_
  refine wo_nil ?_
  refine nx_norm ?_
  refine w_ret ?_
  exact qf ret_ok (rt rfl rn) hr

/- (dibber/weed.rule).back -/
abbrev g53_I0 (x0 : Int) (s1 : List UInt8) (v15 : AVal) (s : Int × Mm) (m1 : Mm) (t1 : Tr) : Prop :=
  match s with
  | (x7, m_3) => m_3 = m1 ∧ t1.get 7 = (.i .i64 x7) ∧ t1.get 0 = (.i .u8 x0) ∧ t1.get 1 = (.s s1) ∧ t1.get 6 = v15
abbrev g53_J0 (x0 : Int) (s1 : List UInt8) (v15 : AVal) (o : Mm) (e : AExit) (m1 : Mm) (t1 : Tr) : Prop :=
  match o with
  | mo => e = (.exit 0) ∧ mo = m1 ∧ t1.get 0 = (.i .u8 x0) ∧ t1.get 1 = (.s s1) ∧ t1.get 6 = v15
def g53_b0 (M : Means) (ro : List ABlk) (x0 : Int) (s1 : List UInt8) (v15 : AVal) (x7 : Int) (m_3 : Mm) : Option ((Int × Mm) ⊕ (Mm)) :=
  forceB (!ltI x7 0) fun c24 =>
  cond c24 (
    forceI (wr .i64 (x7 + 1)) fun x32 =>
    bindO (evP .e (.ixS 1 (.c v15) (.c (.i .i64 x32)))) fun v33 =>
    bindO (ldA ro m_3.h true 1 v33) fun v34 =>
    asI .u8 v34 fun x34 =>
    bindO (evP .e (.ixStr (.c (.s s1)) (.c (.i .i64 x7)))) fun v37 =>
    asI .u8 v37 fun x37 =>
    bindO (callN M.call m_3.h 73 [(.i .u8 x37)]) fun v38 =>
    asI .i64 v38 fun x38 =>
    bindO (callN M.call m_3.h 74 [(.i .u8 x0), (.i .u8 x34), (.i .i64 x38)]) fun v39 =>
    asI .u8 v39 fun x39 =>
    bindO (evP .e (.ixS 1 (.c v15) (.c (.i .i64 x7)))) fun v40 =>
    asP v40 fun qs =>
    bindO (writesM ro [] [(qs, AVal.cells (.i .u8 x39))] ⟨m_3.h, m_3.lw, m_3.lp⟩) fun m_4 =>
    forceI (wr .i64 (x7 - 1)) fun x26 =>
    some (.inl (x26, m_4))) (
    some (.inr m_3))
abbrev g53_I1 (x0 : Int) (s1 : List UInt8) (v15 : AVal) (x57 : Int) (s : Int × AVal × Int × Mm) (m1 : Mm) (t1 : Tr) : Prop :=
  match s with
  | (x8, v9, x58, m_10) => m_10 = m1 ∧ t1.get 8 = (.i .i64 x8) ∧ t1.get 9 = v9 ∧ t1.get 58 = (.i .i64 x58) ∧ t1.get 0 = (.i .u8 x0) ∧ t1.get 1 = (.s s1) ∧ t1.get 6 = v15 ∧ t1.get 57 = (.i .i64 x57)
abbrev g53_J1 (x0 : Int) (s1 : List UInt8) (v15 : AVal) (x57 : Int) (o : (AVal × Mm)) (e : AExit) (m1 : Mm) (t1 : Tr) : Prop :=
  match o with
  | (y9, mo) => e = (.exit 2) ∧ mo = m1 ∧ t1.get 9 = y9
abbrev g53_J2 (x0 : Int) (s1 : List UInt8) (v15 : AVal) (v9 : AVal) (x62 : Int) (x57 : Int) (x58 : Int) (o : Bool × Mm) (m1 : Mm) (t1 : Tr) : Prop :=
  match o with
  | (c81, m_13) => m_13 = m1 ∧ t1.get 81 = (.b c81) ∧ t1.get 0 = (.i .u8 x0) ∧ t1.get 1 = (.s s1) ∧ t1.get 6 = v15 ∧ t1.get 9 = v9 ∧ t1.get 11 = (.i .i64 x62) ∧ t1.get 57 = (.i .i64 x57) ∧ t1.get 58 = (.i .i64 x58)
abbrev g53_J3 (x0 : Int) (s1 : List UInt8) (v15 : AVal) (v9 : AVal) (x57 : Int) (x58 : Int) (m_13 : Mm) (o : Int) (e : AExit) (m1 : Mm) (t1 : Tr) : Prop :=
  match o with
  | y11 => e = .norm ∧ m_13 = m1 ∧ t1.get 11 = (.i .i64 y11) ∧ t1.get 0 = (.i .u8 x0) ∧ t1.get 1 = (.s s1) ∧ t1.get 6 = v15 ∧ t1.get 9 = v9 ∧ t1.get 57 = (.i .i64 x57) ∧ t1.get 58 = (.i .i64 x58)
def g53_b1 (M : Means) (ro : List ABlk) (x0 : Int) (s1 : List UInt8) (v15 : AVal) (x57 : Int) (x8 : Int) (v9 : AVal) (x58 : Int) (m_10 : Mm) : Option ((Int × AVal × Int × Mm) ⊕ ((AVal × Mm))) :=
  forceB (ltI x58 x57) fun c59 =>
  cond c59 (
    forceI (wr .i64 (2 * x8)) fun x62 =>
    bindO (evP .e (.ixStr (.c (.s s1)) (.c (.i .i64 x58)))) fun v68 =>
    asI .u8 v68 fun x68 =>
    bindP (callM M.call m_10 72 [(.i .u8 x0), (.i .i64 x62)]) fun v65 m_11 =>
    asI .i64 v65 fun x65 =>
    bindP (callM M.call m_11 73 [(.i .u8 x68)]) fun v69 m_12 =>
    asI .i64 v69 fun x69 =>
    forceB (!eqI x65 x69) fun c70 =>
    bindO (cond c70 (
      some (true, m_12)) (
      forceI (wr .i64 (x58 + 1)) fun x74 =>
      bindO (evP .e (.ixS 1 (.c v15) (.c (.i .i64 x74)))) fun v75 =>
      forceI (bitV .and .i64 x62 3) fun x78 =>
      bindO (ldM ro m_12 true 1 v75) fun v76 =>
      asI .u8 v76 fun x76 =>
      bindP (callM M.call m_12 76 [(.i .u8 x76), (.i .i64 x78)]) fun v79 m_14 =>
      asB v79 fun c79 =>
      forceB (!c79) fun c80 =>
      some (c80, m_14))) fun ⟨c81, m_13⟩ =>
    bindO (α := Int) (
      cond c81 (
        forceI (wr .i64 (x62 + 1)) fun x83 =>
        some x83) (
        some x62)) fun x11 =>
    forceI (bitV .and .i64 x11 3) fun x85 =>
    forceI (bitV .and .i64 x11 1) fun x88 =>
    bindP (callM M.call m_13 71 [(.i .i64 x88)]) fun v89 m_15 =>
    asI .u8 v89 fun x89 =>
    bindP (stepM ro m_15 (.bsl 5 1 [(AVal.i IntKind.u8 0)] 1 [((0, 1), .c (.i .u8 x89))])) fun v90 m_16 =>
    bindP (stepM ro m_16 (.app 5 1 1 [(AVal.i IntKind.u8 0)] (.c v9) (.c v90))) fun v91 m_17 =>
    forceI (wr .i64 (x58 + 1)) fun x92 =>
    some (.inl (x85, v91, x92, m_17))) (
    some (.inr (v9, m_10)))
def g53 (M : Means) (ro : List ABlk) (x0 : Int) (s1 : List UInt8) (m0 : Mm) : Option (AVal × Heap × Nat × Nat) :=
  bindO (evP .e (.len true (.c (.s s1)))) fun v13 =>
  asI .i64 v13 fun x13 =>
  forceI (wr .i64 (x13 + 1)) fun x14 =>
  bindP (stepM ro m0 (.mk 82 1 1 [(AVal.i IntKind.u8 0)] (.c (.i .i64 x14)) (.c (.i .i64 x14)))) fun v15 m_1 =>
  bindO (evP .e (.len true (.c (.s s1)))) fun v18 =>
  asI .i64 v18 fun x18 =>
  bindO (evP .e (.ixS 1 (.c v15) (.c (.i .i64 x18)))) fun v19 =>
  bindP (stepM ro m_1 (.st 1 (.c v19) (.c (.i .u8 15)))) fun vn m_2 =>
  bindO (evP .e (.len true (.c (.s s1)))) fun v21 =>
  asI .i64 v21 fun x21 =>
  forceI (wr .i64 (x21 - 1)) fun x22 =>
  bindO (M.loop (S := Int × Mm) (R := Mm) (fun s => g53_b0 M ro x0 s1 v15 s.1 s.2) (x22, m_2)) fun m_5 =>
  bindO (evP .e (.ixS 1 (.c v15) (.c (.i .i64 0)))) fun v42 =>
  bindO (ldM ro m_5 true 1 v42) fun v43 =>
  asI .u8 v43 fun x43 =>
  forceB (eqI x43 0) fun c44 =>
  cond c44 (
    finM m0.h.length (tupA [(AVal.s []), (.b false)]) m_5) (
    bindO (evP .e (.ixS 1 (.c v15) (.c (.i .i64 0)))) fun v46 =>
    bindO (ldM ro m_5 true 1 v46) fun v47 =>
    asI .u8 v47 fun x47 =>
    bindP (callM M.call m_5 75 [(.i .u8 x47)]) fun v48 m_6 =>
    asI .i64 v48 fun x48 =>
    forceI (shrV .i64 x48 1) fun x50 =>
    bindP (callM M.call m_6 71 [(.i .i64 x50)]) fun v51 m_7 =>
    asI .u8 v51 fun x51 =>
    forceI (bitV .and .i64 x48 1) fun x53 =>
    bindP (callM M.call m_7 71 [(.i .i64 x53)]) fun v54 m_8 =>
    asI .u8 v54 fun x54 =>
    bindP (stepM ro m_8 (.bsl 5 1 [(AVal.i IntKind.u8 0)] 2 [((0, 1), .c (.i .u8 x51)), ((1, 1), .c (.i .u8 x54))])) fun v55 m_9 =>
    bindO (evP .e (.len true (.c (.s s1)))) fun v57 =>
    asI .i64 v57 fun x57 =>
    bindO (M.loop (S := Int × AVal × Int × Mm) (R := (AVal × Mm)) (fun s => g53_b1 M ro x0 s1 v15 x57 s.1 s.2.1 s.2.2.1 s.2.2.2) (x48, v55, 0, m_9)) fun ⟨v9_1, m_18⟩ =>
    bindO (btsM ro m_18 v9_1) fun v94 =>
    asS v94 fun s94 =>
    finM m0.h.length (tupA [(.s s94), (.b true)]) m_18)

theorem g53_ok {ro : List ABlk} {O : Caller} {M : Means} (hM : M.Ok ⟨F, O⟩ ro) {x0 s1 h r} (ho : O 53 [(.i .u8 x0), (.s s1)] h = none) (hr : g53 M ro x0 s1 ⟨h, h.length, h.length⟩ = some r) : callX ⟨F, O⟩ ro 53 [(.i .u8 x0), (.s s1)] h = some r := by
  refine callX_of (F := ⟨F, O⟩) (fn := fn53) (g := g53 M ro x0 s1) ho rfl rfl hr ?_
  clear ho
  clear hr
  intro m0 t0 ht hr
  have g0 : t0.get 0 = (.i .u8 x0) := ht 0
  have g1 : t0.get 1 = (.s s1) := ht 1
  clear ht
  unfold g53 at hr
  refine w_seq ?_
  refine w_ops ?_
  refine wo_step (v := (AVal.s [])) (s_pure (p_mv rfl)) ?_
  refine wo_step (v := (.b false)) (s_pure (p_mv rfl)) ?_
  refine wo_nil ?_
  refine nx_norm ?_
  refine w_seq ?_
  refine w_ops ?_
  refine wo_step (v := (.s s1)) (s_pure (p_mv g1)) ?_
  have hq := bindO_inv hr
  clear hr
  obtain ⟨v13, e13, hr⟩ := hq
  have hq := asI_inv hr
  clear hr
  obtain ⟨x13, rfl, hr⟩ := hq
  refine wo_step (v := (.i .i64 x13)) (s_pure (o_len rfl e13)) ?_
  have hq := forceI_inv hr
  clear hr
  obtain ⟨x14, e14, hr⟩ := hq
  refine wo_step (v := (.i .i64 x14)) (s_pure (p_bin rfl rfl (b_add.trans (ci e14)))) ?_
  have hq := bindP_inv hr
  clear hr
  obtain ⟨v15, m_1, e15, hr⟩ := hq
  refine wo_step (v := v15) (s_mk rfl rfl e15) ?_
  refine wo_step (v := v15) (s_pure (p_mv rfl)) ?_
  refine wo_nil ?_
  refine nx_norm ?_
  refine w_seq ?_
  refine w_ops ?_
  refine wo_step (v := v15) (s_pure (p_mv rfl)) ?_
  refine wo_step (v := (.s s1)) (s_pure (p_mv g1)) ?_
  have hq := bindO_inv hr
  clear hr
  obtain ⟨v18, e18, hr⟩ := hq
  have hq := asI_inv hr
  clear hr
  obtain ⟨x18, rfl, hr⟩ := hq
  refine wo_step (v := (.i .i64 x18)) (s_pure (o_len rfl e18)) ?_
  have hq := bindO_inv hr
  clear hr
  obtain ⟨v19, e19, hr⟩ := hq
  refine wo_step (v := v19) (s_pure (o_ixS rfl rfl e19)) ?_
  have hq := bindP_inv hr
  clear hr
  obtain ⟨vn, m_2, en, hr⟩ := hq
  refine wo_stepN (s_st rfl rfl en) ?_
  refine wo_nil ?_
  refine nx_norm ?_
  refine w_seq ?_
  refine w_seq ?_
  refine w_ops ?_
  refine wo_step (v := (.s s1)) (s_pure (p_mv g1)) ?_
  have hq := bindO_inv hr
  clear hr
  obtain ⟨v21, e21, hr⟩ := hq
  have hq := asI_inv hr
  clear hr
  obtain ⟨x21, rfl, hr⟩ := hq
  refine wo_step (v := (.i .i64 x21)) (s_pure (o_len rfl e21)) ?_
  have hq := forceI_inv hr
  clear hr
  obtain ⟨x22, e22, hr⟩ := hq
  refine wo_step (v := (.i .i64 x22)) (s_pure (p_bin rfl rfl (b_sub.trans (ci e22)))) ?_
  refine wo_step (v := (.i .i64 x22)) (s_pure (p_mv rfl)) ?_
  refine wo_nil ?_
  refine nx_norm ?_
  refine w_block ?_
  have hq := bindO_inv hr
  clear hr
  obtain ⟨o, hl_1, hr⟩ := hq
  obtain ⟨n_1, hl_1⟩ := hM.loop _ _ _ hl_1
  refine jp_mono (w_loop _ (g53_I0 x0 s1 v15) (g53_J0 x0 s1 v15) ?_ n_1 _ _ _ _ hl_1 ⟨rfl, gl rfl, gl g0, gl g1, gl rfl⟩) ?_
  · clear hr hl_1
    intro s mm_5 t_1 o hi hr
    obtain ⟨x7, m_3⟩ := s
    obtain ⟨rfl, g7, g0, g1, g6⟩ := hi
    unfold g53_b0 at hr
    refine w_seq ?_
    refine w_seq ?_
    refine w_ops ?_
    refine wo_step (v := (.i .i64 x7)) (s_pure (p_mv g7)) ?_
    have hq := forceB_inv hr
    clear hr
    obtain ⟨c24, e24, hr⟩ := hq
    refine wo_step (v := (.b c24)) (s_pure (p_bin rfl rfl (b_geq.trans (cb e24)))) ?_
    refine wo_nil ?_
    refine nx_norm ?_
    have hq := cond_inv hr
    clear hr
    rcases hq with ⟨rfl, hr⟩ | ⟨rfl, hr⟩
    · refine w_condT rfl ?_
      refine w_skip ?_
      refine nx_norm ?_
      refine w_seq ?_
      refine w_block ?_
      refine w_any ?_
      refine wa_step (v := v15) (a_pure (p_mv g6)) ?_
      refine wa_step (v := (.i .i64 x7)) (a_pure (p_mv g7)) ?_
      refine wa_step (v := (.i .u8 x0)) (a_pure (p_mv g0)) ?_
      refine wa_step (v := v15) (a_pure (p_mv g6)) ?_
      refine wa_step (v := (.i .i64 x7)) (a_pure (p_mv g7)) ?_
      have hq := forceI_inv hr
      clear hr
      obtain ⟨x32, e32, hr⟩ := hq
      refine wa_step (v := (.i .i64 x32)) (a_pure (p_bin rfl rfl (b_add.trans (ci e32)))) ?_
      have hq := bindO_inv hr
      clear hr
      obtain ⟨v33, e33, hr⟩ := hq
      refine wa_step (v := v33) (a_pure (o_ixS rfl rfl e33)) ?_
      have hq := bindO_inv hr
      clear hr
      obtain ⟨v34, e34, hr⟩ := hq
      have hq := asI_inv hr
      clear hr
      obtain ⟨x34, rfl, hr⟩ := hq
      refine wa_step (v := (.i .u8 x34)) (a_ld rfl e34) ?_
      refine wa_step (v := (.s s1)) (a_pure (p_mv g1)) ?_
      refine wa_step (v := (.i .i64 x7)) (a_pure (p_mv g7)) ?_
      have hq := bindO_inv hr
      clear hr
      obtain ⟨v37, e37, hr⟩ := hq
      have hq := asI_inv hr
      clear hr
      obtain ⟨x37, rfl, hr⟩ := hq
      refine wa_step (v := (.i .u8 x37)) (a_pure (o_ixStr rfl rfl e37)) ?_
      have hq := bindO_inv hr
      clear hr
      obtain ⟨v38, e38, hr⟩ := hq
      have hq := asI_inv hr
      clear hr
      obtain ⟨x38, rfl, hr⟩ := hq
      refine wa_step (v := (.i .i64 x38)) (a_call (mc rfl mn) (callN_le hM.call e38)) ?_
      have hq := bindO_inv hr
      clear hr
      obtain ⟨v39, e39, hr⟩ := hq
      have hq := asI_inv hr
      clear hr
      obtain ⟨x39, rfl, hr⟩ := hq
      refine wa_step (v := (.i .u8 x39)) (a_call (mc rfl (mc rfl (mc rfl mn))) (callN_le hM.call e39)) ?_
      have hq := bindO_inv hr
      clear hr
      obtain ⟨v40, e40, hr⟩ := hq
      refine wa_step (v := v40) (a_pure (o_ixS rfl rfl e40)) ?_
      have hq := asP_inv hr
      clear hr
      obtain ⟨qs, eqs, hr⟩ := hq
      refine wa_stepN (a_st (Eq.trans (b := v40) rfl eqs) rfl rfl) ?_
      have hq := bindO_inv hr
      clear hr
      obtain ⟨m_4, ew, hr⟩ := hq
      refine wa_nil ?_
      refine ⟨m_4, ew, ?_⟩
      refine bk_norm ?_
      refine nx_norm ?_
      refine w_ops ?_
      refine wo_step (v := (.i .i64 x7)) (s_pure (p_mv g7)) ?_
      have hq := forceI_inv hr
      clear hr
      obtain ⟨x26, e26, hr⟩ := hq
      refine wo_step (v := (.i .i64 x26)) (s_pure (p_bin rfl rfl (b_sub.trans (ci e26)))) ?_
      refine wo_step (v := (.i .i64 x26)) (s_pure (p_mv rfl)) ?_
      refine wo_nil ?_
      cases hr
      exact ⟨_, _, rfl, rfl, rfl, gl rfl, gl g0, gl g1, gl g6⟩
    · refine w_condF rfl ?_
      refine w_exit ?_
      refine nx_exit ?_
      cases hr
      exact ⟨_, _, rfl, ne_norm_exit, rfl, rfl, gl g0, gl g1, gl g6⟩
  · obtain ⟨m_5, ho⟩ : ∃ z, z = o := ⟨_, rfl⟩
    subst ho
    rintro _ mm_4 t_2 ⟨rfl, rfl, g0, g1, g6⟩
    refine bk_hit ?_
    refine nx_norm ?_
    refine w_seq ?_
    refine w_seq ?_
    refine w_ops ?_
    refine wo_step (v := v15) (s_pure (p_mv g6)) ?_
    have hq := bindO_inv hr
    clear hr
    obtain ⟨v42, e42, hr⟩ := hq
    refine wo_step (v := v42) (s_pure (o_ixS rfl rfl e42)) ?_
    have hq := bindO_inv hr
    clear hr
    obtain ⟨v43, e43, hr⟩ := hq
    have hq := asI_inv hr
    clear hr
    obtain ⟨x43, rfl, hr⟩ := hq
    refine wo_step (v := (.i .u8 x43)) (s_ld rfl e43) ?_
    have hq := forceB_inv hr
    clear hr
    obtain ⟨c44, e44, hr⟩ := hq
    refine wo_step (v := (.b c44)) (s_pure (p_bin rfl rfl (b_eql.trans (cb e44)))) ?_
    refine wo_nil ?_
    refine nx_norm ?_
    have hq := cond_inv hr
    clear hr
    rcases hq with ⟨rfl, hr⟩ | ⟨rfl, hr⟩
    · refine w_condT rfl ?_
      refine w_seq ?_
      refine w_ops ?_
      refine wo_step (v := (AVal.s [])) (s_pure (p_mv rfl)) ?_
      refine wo_step (v := (.b false)) (s_pure (p_mv rfl)) ?_
      refine wo_nil ?_
      refine nx_norm ?_
      refine w_ret ?_
      refine nx_ret ?_
      exact qf ret_ok (rt rfl (rt rfl rn)) hr
    · refine w_condF rfl ?_
      refine w_skip ?_
      refine nx_norm ?_
      refine w_seq ?_
      refine w_ops ?_
      refine wo_step (v := v15) (s_pure (p_mv g6)) ?_
      have hq := bindO_inv hr
      clear hr
      obtain ⟨v46, e46, hr⟩ := hq
      refine wo_step (v := v46) (s_pure (o_ixS rfl rfl e46)) ?_
      have hq := bindO_inv hr
      clear hr
      obtain ⟨v47, e47, hr⟩ := hq
      have hq := asI_inv hr
      clear hr
      obtain ⟨x47, rfl, hr⟩ := hq
      refine wo_step (v := (.i .u8 x47)) (s_ld rfl e47) ?_
      have hq := bindP_inv hr
      clear hr
      obtain ⟨v48, m_6, e48, hr⟩ := hq
      have hq := asI_inv hr
      clear hr
      obtain ⟨x48, rfl, hr⟩ := hq
      refine wo_step (v := (.i .i64 x48)) (s_call (mc rfl mn) (callM_le hM.call e48)) ?_
      refine wo_step (v := (.i .i64 x48)) (s_pure (p_mv rfl)) ?_
      refine wo_nil ?_
      refine nx_norm ?_
      refine w_seq ?_
      refine w_ops ?_
      refine wo_step (v := (.i .i64 x48)) (s_pure (p_mv rfl)) ?_
      have hq := forceI_inv hr
      clear hr
      obtain ⟨x50, e50, hr⟩ := hq
      refine wo_step (v := (.i .i64 x50)) (s_pure (p_bin rfl rfl ((b_shr rfl).trans (ci e50)))) ?_
      have hq := bindP_inv hr
      clear hr
      obtain ⟨v51, m_7, e51, hr⟩ := hq
      have hq := asI_inv hr
      clear hr
      obtain ⟨x51, rfl, hr⟩ := hq
      refine wo_step (v := (.i .u8 x51)) (s_call (mc rfl mn) (callM_le hM.call e51)) ?_
      refine wo_step (v := (.i .i64 x48)) (s_pure (p_mv rfl)) ?_
      have hq := forceI_inv hr
      clear hr
      obtain ⟨x53, e53, hr⟩ := hq
      refine wo_step (v := (.i .i64 x53)) (s_pure (p_bin rfl rfl (b_and.trans (ci e53)))) ?_
      have hq := bindP_inv hr
      clear hr
      obtain ⟨v54, m_8, e54, hr⟩ := hq
      have hq := asI_inv hr
      clear hr
      obtain ⟨x54, rfl, hr⟩ := hq
      refine wo_step (v := (.i .u8 x54)) (s_call (mc rfl mn) (callM_le hM.call e54)) ?_
      have hq := bindP_inv hr
      clear hr
      obtain ⟨v55, m_9, e55, hr⟩ := hq
      refine wo_step (v := v55) (s_bsl (qc rfl (qc rfl qn)) e55) ?_
      refine wo_step (v := v55) (s_pure (p_mv rfl)) ?_
      refine wo_nil ?_
      refine nx_norm ?_
      refine w_seq ?_
      refine w_seq ?_
      refine w_ops ?_
      refine wo_step (v := (.s s1)) (s_pure (p_mv g1)) ?_
      have hq := bindO_inv hr
      clear hr
      obtain ⟨v57, e57, hr⟩ := hq
      have hq := asI_inv hr
      clear hr
      obtain ⟨x57, rfl, hr⟩ := hq
      refine wo_step (v := (.i .i64 x57)) (s_pure (o_len rfl e57)) ?_
      refine wo_step (v := (.i .i64 0)) (s_pure (p_mv rfl)) ?_
      refine wo_nil ?_
      refine nx_norm ?_
      refine w_block ?_
      have hq := bindO_inv hr
      clear hr
      obtain ⟨o_3, hl, hr⟩ := hq
      obtain ⟨n, hl⟩ := hM.loop _ _ _ hl
      refine jp_mono (w_loop _ (g53_I1 x0 s1 v15 x57) (g53_J1 x0 s1 v15 x57) ?_ n _ _ _ _ hl ⟨rfl, gl rfl, gl rfl, gl rfl, gl g0, gl g1, gl g6, gl rfl⟩) ?_
      · clear hr hl
        intro s mm_3 t_3 o hi hr
        obtain ⟨x8, v9, x58, m_10⟩ := s
        obtain ⟨rfl, g8, g9, g58, g0, g1, g6, g57⟩ := hi
        unfold g53_b1 at hr
        refine w_seq ?_
        refine w_ops ?_
        have hq := forceB_inv hr
        clear hr
        obtain ⟨c59, e59, hr⟩ := hq
        refine wo_step (v := (.b c59)) (s_pure (p_bin g58 g57 (b_lss.trans (cb e59)))) ?_
        refine wo_nil ?_
        refine nx_norm ?_
        refine w_seq ?_
        have hq := cond_inv hr
        clear hr
        rcases hq with ⟨rfl, hr⟩ | ⟨rfl, hr⟩
        · refine w_condT rfl ?_
          refine w_skip ?_
          refine nx_norm ?_
          refine w_seq ?_
          refine w_block ?_
          refine w_seq ?_
          refine w_ops ?_
          refine wo_step (v := (.i .i64 x58)) (s_pure (p_mv g58)) ?_
          refine wo_step (v := (.i .i64 x58)) (s_pure (p_mv rfl)) ?_
          refine wo_nil ?_
          refine nx_norm ?_
          refine w_seq ?_
          refine w_ops ?_
          refine wo_step (v := (.i .i64 x8)) (s_pure (p_mv g8)) ?_
          have hq := forceI_inv hr
          clear hr
          obtain ⟨x62, e62, hr⟩ := hq
          refine wo_step (v := (.i .i64 x62)) (s_pure (p_bin rfl rfl (b_mul.trans (ci e62)))) ?_
          refine wo_step (v := (.i .i64 x62)) (s_pure (p_mv rfl)) ?_
          refine wo_nil ?_
          refine nx_norm ?_
          refine w_seq ?_
          refine w_seq ?_
          refine w_ops ?_
          refine wo_step (v := (.i .u8 x0)) (s_pure (p_mv g0)) ?_
          refine wo_step (v := (.i .i64 x62)) (s_pure (p_mv rfl)) ?_
          refine wo_step (v := (.s s1)) (s_pure (p_mv g1)) ?_
          refine wo_step (v := (.i .i64 x58)) (s_pure (p_mv rfl)) ?_
          have hq := bindO_inv hr
          clear hr
          obtain ⟨v68, e68, hr⟩ := hq
          have hq := asI_inv hr
          clear hr
          obtain ⟨x68, rfl, hr⟩ := hq
          refine wo_step (v := (.i .u8 x68)) (s_pure (o_ixStr rfl rfl e68)) ?_
          have hq := bindP_inv hr
          clear hr
          obtain ⟨v65, m_11, e65, hr⟩ := hq
          have hq := asI_inv hr
          clear hr
          obtain ⟨x65, rfl, hr⟩ := hq
          refine wo_step (v := (.i .i64 x65)) (s_call (mc rfl (mc rfl mn)) (callM_le hM.call e65)) ?_
          have hq := bindP_inv hr
          clear hr
          obtain ⟨v69, m_12, e69, hr⟩ := hq
          have hq := asI_inv hr
          clear hr
          obtain ⟨x69, rfl, hr⟩ := hq
          refine wo_step (v := (.i .i64 x69)) (s_call (mc rfl mn) (callM_le hM.call e69)) ?_
          have hq := forceB_inv hr
          clear hr
          obtain ⟨c70, e70, hr⟩ := hq
          refine wo_step (v := (.b c70)) (s_pure (p_bin rfl rfl (b_neq.trans (cb e70)))) ?_
          refine wo_step (v := (.b c70)) (s_pure (p_mv rfl)) ?_
          have hq := bindO_inv hr
          clear hr
          obtain ⟨o_1, hr, hk⟩ := hq
          refine wo_join 10 (g53_J2 x0 s1 v15 v9 x62 x57 x58 o_1) ?_ ?_
          · clear hk
            have hq := cond_inv hr
            clear hr
            rcases hq with ⟨rfl, hr⟩ | ⟨rfl, hr⟩
            · refine wo_skip (v := (.b true)) rfl rfl ?_
              refine wo_skip (v := (.b true)) rfl rfl ?_
              refine wo_skip (v := (.b true)) rfl rfl ?_
              refine wo_skip (v := (.b true)) rfl rfl ?_
              refine wo_skip (v := (.b true)) rfl rfl ?_
              refine wo_skip (v := (.b true)) rfl rfl ?_
              refine wo_skip (v := (.b true)) rfl rfl ?_
              refine wo_skip (v := (.b true)) rfl rfl ?_
              refine wo_skip (v := (.b true)) rfl rfl ?_
              refine wo_step (v := (.b true)) (s_pure (p_pickT rfl rfl)) ?_
              refine wo_nil ?_
              cases hr
              exact ⟨_, _, rfl, rfl, gl rfl, gl g0, gl g1, gl g6, gl g9, gl rfl, gl g57, gl g58⟩
            · refine wo_take (v := v15) rfl (s_pure (p_mv g6)) ?_
              refine wo_take (v := (.i .i64 x58)) rfl (s_pure (p_mv rfl)) ?_
              have hq := forceI_inv hr
              clear hr
              obtain ⟨x74, e74, hr⟩ := hq
              refine wo_take (v := (.i .i64 x74)) rfl (s_pure (p_bin rfl rfl (b_add.trans (ci e74)))) ?_
              have hq := bindO_inv hr
              clear hr
              obtain ⟨v75, e75, hr⟩ := hq
              refine wo_take (v := v75) rfl (s_pure (o_ixS rfl rfl e75)) ?_
              refine wo_take (v := (.i .i64 x62)) rfl (s_pure (p_mv rfl)) ?_
              have hq := forceI_inv hr
              clear hr
              obtain ⟨x78, e78, hr⟩ := hq
              refine wo_take (v := (.i .i64 x78)) rfl (s_pure (p_bin rfl rfl (b_and.trans (ci e78)))) ?_
              have hq := bindO_inv hr
              clear hr
              obtain ⟨v76, e76, hr⟩ := hq
              have hq := asI_inv hr
              clear hr
              obtain ⟨x76, rfl, hr⟩ := hq
              refine wo_take (v := (.i .u8 x76)) rfl (s_ld rfl e76) ?_
              have hq := bindP_inv hr
              clear hr
              obtain ⟨v79, m_14, e79, hr⟩ := hq
              have hq := asB_inv hr
              clear hr
              obtain ⟨c79, rfl, hr⟩ := hq
              refine wo_take (v := (.b c79)) rfl (s_call (mc rfl (mc rfl mn)) (callM_le hM.call e79)) ?_
              have hq := forceB_inv hr
              clear hr
              obtain ⟨c80, e80, hr⟩ := hq
              refine wo_take (v := (.b c80)) rfl (s_pure ((p_not rfl).trans (cb e80))) ?_
              refine wo_step (v := (.b c80)) (s_pure (p_pickF rfl rfl)) ?_
              refine wo_nil ?_
              cases hr
              exact ⟨_, _, rfl, rfl, gl rfl, gl g0, gl g1, gl g6, gl g9, gl rfl, gl g57, gl g58⟩
          · clear hr
            have hr := hk
            clear hk
            obtain ⟨c81, m_13⟩ := o_1
            rintro mm t_4 ⟨rfl, g81, g0, g1, g6, g9, g11, g57, g58⟩
            refine wo_nil ?_
            refine nx_norm ?_
            have hq := bindO_inv hr
            clear hr
            obtain ⟨o_2, hr, hk⟩ := hq
            refine jp_mono (J := g53_J3 x0 s1 v15 v9 x57 x58 m_13 o_2) ?_ ?_
            · clear hk
              have hq := cond_inv hr
              clear hr
              rcases hq with ⟨rfl, hr⟩ | ⟨rfl, hr⟩
              · refine w_condT g81 ?_
                refine w_ops ?_
                refine wo_step (v := (.i .i64 x62)) (s_pure (p_mv g11)) ?_
                have hq := forceI_inv hr
                clear hr
                obtain ⟨x83, e83, hr⟩ := hq
                refine wo_step (v := (.i .i64 x83)) (s_pure (p_bin rfl rfl (b_add.trans (ci e83)))) ?_
                refine wo_step (v := (.i .i64 x83)) (s_pure (p_mv rfl)) ?_
                refine wo_nil ?_
                cases hr
                exact ⟨_, _, rfl, rfl, rfl, gl rfl, gl g0, gl g1, gl g6, gl g9, gl g57, gl g58⟩
              · refine w_condF g81 ?_
                refine w_skip ?_
                cases hr
                exact ⟨_, _, rfl, rfl, rfl, gl g11, gl g0, gl g1, gl g6, gl g9, gl g57, gl g58⟩
            · have hr := hk
              clear hk
              obtain ⟨x11, ho⟩ : ∃ z, z = o_2 := ⟨_, rfl⟩
              subst ho
              rintro _ mm_1 t_5 ⟨rfl, rfl, g11, g0, g1, g6, g9, g57, g58⟩
              refine nx_norm ?_
              refine w_seq ?_
              refine w_ops ?_
              refine wo_step (v := (.i .i64 x11)) (s_pure (p_mv g11)) ?_
              have hq := forceI_inv hr
              clear hr
              obtain ⟨x85, e85, hr⟩ := hq
              refine wo_step (v := (.i .i64 x85)) (s_pure (p_bin rfl rfl (b_and.trans (ci e85)))) ?_
              refine wo_step (v := (.i .i64 x85)) (s_pure (p_mv rfl)) ?_
              refine wo_nil ?_
              refine nx_norm ?_
              refine w_ops ?_
              refine wo_step (v := v9) (s_pure (p_mv g9)) ?_
              refine wo_step (v := (.i .i64 x11)) (s_pure (p_mv g11)) ?_
              have hq := forceI_inv hr
              clear hr
              obtain ⟨x88, e88, hr⟩ := hq
              refine wo_step (v := (.i .i64 x88)) (s_pure (p_bin rfl rfl (b_and.trans (ci e88)))) ?_
              have hq := bindP_inv hr
              clear hr
              obtain ⟨v89, m_15, e89, hr⟩ := hq
              have hq := asI_inv hr
              clear hr
              obtain ⟨x89, rfl, hr⟩ := hq
              refine wo_step (v := (.i .u8 x89)) (s_call (mc rfl mn) (callM_le hM.call e89)) ?_
              have hq := bindP_inv hr
              clear hr
              obtain ⟨v90, m_16, e90, hr⟩ := hq
              refine wo_step (v := v90) (s_bsl (qc rfl qn) e90) ?_
              have hq := bindP_inv hr
              clear hr
              obtain ⟨v91, m_17, e91, hr⟩ := hq
              refine wo_step (v := v91) (s_app rfl rfl e91) ?_
              refine wo_step (v := v91) (s_pure (p_mv rfl)) ?_
              refine wo_nil ?_
              refine bk_norm ?_
              refine nx_norm ?_
              refine w_ops ?_
              have hq := forceI_inv hr
              clear hr
              obtain ⟨x92, e92, hr⟩ := hq
              refine wo_step (v := (.i .i64 x92)) (s_pure (p_bin g58 rfl (b_add.trans (ci e92)))) ?_
              refine wo_step (v := (.i .i64 x92)) (s_pure (p_mv rfl)) ?_
              refine wo_nil ?_
              cases hr
              exact ⟨_, _, rfl, rfl, rfl, gl rfl, gl rfl, gl rfl, gl g0, gl g1, gl g6, gl g57⟩
        · refine w_condF rfl ?_
          refine w_exit ?_
          refine nx_exit ?_
          cases hr
          exact ⟨_, _, rfl, ne_norm_exit, rfl, rfl, gl g9⟩
      · obtain ⟨v9_1, m_18⟩ := o_3
        rintro _ mm_2 t_6 ⟨rfl, rfl, g9⟩
        refine bk_hit ?_
        refine nx_norm ?_
        refine w_seq ?_
        refine w_ops ?_
        refine wo_step (v := v9_1) (s_pure (p_mv g9)) ?_
        have hq := bindO_inv hr
        clear hr
        obtain ⟨v94, e94, hr⟩ := hq
        have hq := asS_inv hr
        clear hr
        obtain ⟨s94, rfl, hr⟩ := hq
        refine wo_step (v := (.s s94)) (s_bts rfl e94) ?_
        refine wo_step (v := (.s s94)) (s_pure (p_mv rfl)) ?_
        refine wo_step (v := (.b true)) (s_pure (p_mv rfl)) ?_
        refine wo_nil ?_
        refine nx_norm ?_
        refine w_ret ?_
        exact qf ret_ok (rt rfl (rt rfl rn)) hr

/- dibber/dibberref02.Rule -/
abbrev g54_J0 (m0 : Mm) (o : Bool) (m1 : Mm) (t1 : Tr) : Prop :=
  match o with
  | c8 => m0 = m1 ∧ t1.get 8 = (.b c8)
def g54 (M : Means) (ro : List ABlk) (x0 : Int) (m0 : Mm) : Option (AVal × Heap × Nat × Nat) :=
  forceB (!ltI x0 0) fun c4 =>
  bindO (cond c4 (
    forceB (!ltI 255 x0) fun c7 =>
    some c7) (
    some false)) fun c8 =>
  finM m0.h.length (tupA [(.b c8)]) m0

theorem g54_ok {ro : List ABlk} {O : Caller} {M : Means} (hM : M.Ok ⟨F, O⟩ ro) {x0 h r} (ho : O 54 [(.i .i64 x0)] h = none) (hr : g54 M ro x0 ⟨h, h.length, h.length⟩ = some r) : callX ⟨F, O⟩ ro 54 [(.i .i64 x0)] h = some r := by
  refine callX_of (F := ⟨F, O⟩) (fn := fn54) (g := g54 M ro x0) ho rfl rfl hr ?_
  clear ho
  clear hr
  intro m0 t0 ht hr
  have g0 : t0.get 0 = (.i .i64 x0) := ht 0
  clear ht
  unfold g54 at hr
  refine w_seq ?_
  refine w_ops ?_
  refine wo_step (v := (.b false)) (s_pure (p_mv rfl)) ?_
  refine wo_nil ?_
  refine nx_norm ?_
  refine w_seq ?_
  refine w_ops ?_
  refine wo_step (v := (.i .i64 x0)) (s_pure (p_mv g0)) ?_
  have hq := forceB_inv hr
  clear hr
  obtain ⟨c4, e4, hr⟩ := hq
  refine wo_step (v := (.b c4)) (s_pure (p_bin rfl rfl (b_geq.trans (cb e4)))) ?_
  refine wo_step (v := (.b c4)) (s_pure (p_mv rfl)) ?_
  have hq := bindO_inv hr
  clear hr
  obtain ⟨o, hr, hk⟩ := hq
  refine wo_join 3 (g54_J0 m0 o) ?_ ?_
  · clear hk
    have hq := cond_inv hr
    clear hr
    rcases hq with ⟨rfl, hr⟩ | ⟨rfl, hr⟩
    · refine wo_take (v := (.i .i64 x0)) rfl (s_pure (p_mv g0)) ?_
      have hq := forceB_inv hr
      clear hr
      obtain ⟨c7, e7, hr⟩ := hq
      refine wo_take (v := (.b c7)) rfl (s_pure (p_bin rfl rfl (b_leq.trans (cb e7)))) ?_
      refine wo_step (v := (.b c7)) (s_pure (p_pickT rfl rfl)) ?_
      refine wo_nil ?_
      cases hr
      exact ⟨_, _, rfl, rfl, gl rfl⟩
    · refine wo_skip (v := (.b false)) rfl rfl ?_
      refine wo_skip (v := (.b false)) rfl rfl ?_
      refine wo_step (v := (.b false)) (s_pure (p_pickF rfl rfl)) ?_
      refine wo_nil ?_
      cases hr
      exact ⟨_, _, rfl, rfl, gl rfl⟩
  · clear hr
    have hr := hk
    clear hk
    obtain ⟨c8, ho⟩ : ∃ z, z = o := ⟨_, rfl⟩
    subst ho
    rintro mm t_1 ⟨rfl, g8⟩
    refine wo_step (v := (.b c8)) (s_pure (p_mv g8)) ?_
    refine wo_nil ?_
    refine nx_norm ?_
    refine w_ret ?_
    exact qf ret_ok (rt rfl rn) hr

/- dibber/dibberref02.sum -/
abbrev g58_I0 (v0 : AVal) (m0 : Mm) (s : Int × Int) (m1 : Mm) (t1 : Tr) : Prop :=
  match s with
  | (x3, x4) => m0 = m1 ∧ t1.get 3 = (.i .i64 x3) ∧ t1.get 4 = (.i .i64 x4) ∧ t1.get 0 = v0
abbrev g58_J0 (v0 : AVal) (m0 : Mm) (o : Int) (e : AExit) (m1 : Mm) (t1 : Tr) : Prop :=
  match o with
  | y3 => e = (.exit 0) ∧ m0 = m1 ∧ t1.get 3 = (.i .i64 y3)
def g58_b0 (M : Means) (ro : List ABlk) (v0 : AVal) (m0 : Mm) (x3 : Int) (x4 : Int) : Option ((Int × Int) ⊕ (Int)) :=
  bindO (evP .e (.len false (.c v0))) fun v7 =>
  asI .i64 v7 fun x7 =>
  forceB (ltI x4 x7) fun c8 =>
  cond c8 (
    bindO (evP .e (.ixS 1 (.c v0) (.c (.i .i64 x4)))) fun v14 =>
    bindO (ldM ro m0 true 1 v14) fun v15 =>
    asI .i64 v15 fun x15 =>
    forceI (wr .i64 (x3 + x15)) fun x16 =>
    forceI (wr .i64 (x4 + 1)) fun x10 =>
    some (.inl (x16, x10))) (
    some (.inr x3))
def g58 (M : Means) (ro : List ABlk) (v0 : AVal) (m0 : Mm) : Option (AVal × Heap × Nat × Nat) :=
  bindO (M.loop (S := Int × Int) (R := Int) (fun s => g58_b0 M ro v0 m0 s.1 s.2) (0, 0)) fun x3_1 =>
  finM m0.h.length (tupA [(.i .i64 x3_1)]) m0

theorem g58_ok {ro : List ABlk} {O : Caller} {M : Means} (hM : M.Ok ⟨F, O⟩ ro) {v0 h r} (ho : O 58 [v0] h = none) (hr : g58 M ro v0 ⟨h, h.length, h.length⟩ = some r) : callX ⟨F, O⟩ ro 58 [v0] h = some r := by
  refine callX_of (F := ⟨F, O⟩) (fn := fn58) (g := g58 M ro v0) ho rfl rfl hr ?_
  clear ho
  clear hr
  intro m0 t0 ht hr
  have g0 : t0.get 0 = v0 := ht 0
  clear ht
  unfold g58 at hr
  refine w_seq ?_
  refine w_ops ?_
  refine wo_step (v := (.i .i64 0)) (s_pure (p_mv rfl)) ?_
  refine wo_nil ?_
  refine nx_norm ?_
  refine w_seq ?_
  refine w_ops ?_
  refine wo_step (v := (.i .i64 0)) (s_pure (p_mv rfl)) ?_
  refine wo_nil ?_
  refine nx_norm ?_
  refine w_seq ?_
  refine w_seq ?_
  refine w_ops ?_
  refine wo_step (v := (.i .i64 0)) (s_pure (p_mv rfl)) ?_
  refine wo_nil ?_
  refine nx_norm ?_
  refine w_block ?_
  have hq := bindO_inv hr
  clear hr
  obtain ⟨o, hl, hr⟩ := hq
  obtain ⟨n, hl⟩ := hM.loop _ _ _ hl
  refine jp_mono (w_loop _ (g58_I0 v0 m0) (g58_J0 v0 m0) ?_ n _ _ _ _ hl ⟨rfl, gl rfl, gl rfl, gl g0⟩) ?_
  · clear hr hl
    intro s mm_1 t_1 o hi hr
    obtain ⟨x3, x4⟩ := s
    obtain ⟨rfl, g3, g4, g0⟩ := hi
    unfold g58_b0 at hr
    refine w_seq ?_
    refine w_seq ?_
    refine w_ops ?_
    refine wo_step (v := (.i .i64 x4)) (s_pure (p_mv g4)) ?_
    refine wo_step (v := v0) (s_pure (p_mv g0)) ?_
    have hq := bindO_inv hr
    clear hr
    obtain ⟨v7, e7, hr⟩ := hq
    have hq := asI_inv hr
    clear hr
    obtain ⟨x7, rfl, hr⟩ := hq
    refine wo_step (v := (.i .i64 x7)) (s_pure (o_len rfl e7)) ?_
    have hq := forceB_inv hr
    clear hr
    obtain ⟨c8, e8, hr⟩ := hq
    refine wo_step (v := (.b c8)) (s_pure (p_bin rfl rfl (b_lss.trans (cb e8)))) ?_
    refine wo_nil ?_
    refine nx_norm ?_
    have hq := cond_inv hr
    clear hr
    rcases hq with ⟨rfl, hr⟩ | ⟨rfl, hr⟩
    · refine w_condT rfl ?_
      refine w_skip ?_
      refine nx_norm ?_
      refine w_seq ?_
      refine w_block ?_
      refine w_ops ?_
      refine wo_step (v := (.i .i64 x3)) (s_pure (p_mv g3)) ?_
      refine wo_step (v := v0) (s_pure (p_mv g0)) ?_
      refine wo_step (v := (.i .i64 x4)) (s_pure (p_mv g4)) ?_
      have hq := bindO_inv hr
      clear hr
      obtain ⟨v14, e14, hr⟩ := hq
      refine wo_step (v := v14) (s_pure (o_ixS rfl rfl e14)) ?_
      have hq := bindO_inv hr
      clear hr
      obtain ⟨v15, e15, hr⟩ := hq
      have hq := asI_inv hr
      clear hr
      obtain ⟨x15, rfl, hr⟩ := hq
      refine wo_step (v := (.i .i64 x15)) (s_ld rfl e15) ?_
      have hq := forceI_inv hr
      clear hr
      obtain ⟨x16, e16, hr⟩ := hq
      refine wo_step (v := (.i .i64 x16)) (s_pure (p_bin rfl rfl (b_add.trans (ci e16)))) ?_
      refine wo_step (v := (.i .i64 x16)) (s_pure (p_mv rfl)) ?_
      refine wo_nil ?_
      refine bk_norm ?_
      refine nx_norm ?_
      refine w_ops ?_
      refine wo_step (v := (.i .i64 x4)) (s_pure (p_mv g4)) ?_
      have hq := forceI_inv hr
      clear hr
      obtain ⟨x10, e10, hr⟩ := hq
      refine wo_step (v := (.i .i64 x10)) (s_pure (p_bin rfl rfl (b_add.trans (ci e10)))) ?_
      refine wo_step (v := (.i .i64 x10)) (s_pure (p_mv rfl)) ?_
      refine wo_nil ?_
      cases hr
      exact ⟨_, _, rfl, rfl, rfl, gl rfl, gl rfl, gl g0⟩
    · refine w_condF rfl ?_
      refine w_exit ?_
      refine nx_exit ?_
      cases hr
      exact ⟨_, _, rfl, ne_norm_exit, rfl, rfl, gl g3⟩
  · obtain ⟨x3_1, ho⟩ : ∃ z, z = o := ⟨_, rfl⟩
    subst ho
    rintro _ mm t_2 ⟨rfl, rfl, g3⟩
    refine bk_hit ?_
    refine nx_norm ?_
    refine w_seq ?_
    refine w_ops ?_
    refine wo_step (v := (.i .i64 x3_1)) (s_pure (p_mv g3)) ?_
    refine wo_step (v := (.i .i64 x3_1)) (s_pure (p_mv rfl)) ?_
    refine wo_nil ?_
    refine nx_norm ?_
    refine w_ret ?_
    exact qf ret_ok (rt rfl rn) hr

/- dibber/dibberref02.ways -/
abbrev g59_I0 (x0 : Int) (v1 : AVal) (s : AVal × Int × Mm) (m1 : Mm) (t1 : Tr) : Prop :=
  match s with
  | (v7, x8, m_1) => m_1 = m1 ∧ t1.get 7 = v7 ∧ t1.get 8 = (.i .i64 x8) ∧ t1.get 0 = (.i .i64 x0) ∧ t1.get 1 = v1
abbrev g59_J0 (x0 : Int) (v1 : AVal) (o : (AVal × Mm)) (e : AExit) (m1 : Mm) (t1 : Tr) : Prop :=
  match o with
  | (y7, mo) => e = (.exit 0) ∧ mo = m1 ∧ t1.get 7 = y7
abbrev g59_I1 (x0 : Int) (v1 : AVal) (v7 : AVal) (x8 : Int) (v19 : AVal) (s : Int × Mm) (m1 : Mm) (t1 : Tr) : Prop :=
  match s with
  | (x10, m_3) => m_3 = m1 ∧ t1.get 10 = (.i .i64 x10) ∧ t1.get 0 = (.i .i64 x0) ∧ t1.get 1 = v1 ∧ t1.get 7 = v7 ∧ t1.get 8 = (.i .i64 x8) ∧ t1.get 9 = v19
abbrev g59_J1 (x0 : Int) (v1 : AVal) (v7 : AVal) (x8 : Int) (v19 : AVal) (o : Mm) (e : AExit) (m1 : Mm) (t1 : Tr) : Prop :=
  match o with
  | mo => e = (.exit 2) ∧ mo = m1 ∧ t1.get 0 = (.i .i64 x0) ∧ t1.get 1 = v1 ∧ t1.get 8 = (.i .i64 x8) ∧ t1.get 9 = v19
abbrev g59_I2 (x0 : Int) (v1 : AVal) (v7 : AVal) (x8 : Int) (v19 : AVal) (x10 : Int) (s : Int × Mm) (m1 : Mm) (t1 : Tr) : Prop :=
  match s with
  | (x11, m_4) => m_4 = m1 ∧ t1.get 11 = (.i .i64 x11) ∧ t1.get 0 = (.i .i64 x0) ∧ t1.get 1 = v1 ∧ t1.get 7 = v7 ∧ t1.get 8 = (.i .i64 x8) ∧ t1.get 9 = v19 ∧ t1.get 10 = (.i .i64 x10)
abbrev g59_J2 (x0 : Int) (v1 : AVal) (v7 : AVal) (x8 : Int) (v19 : AVal) (x10 : Int) (o : Mm) (e : AExit) (m1 : Mm) (t1 : Tr) : Prop :=
  match o with
  | mo => e = (.exit 4) ∧ mo = m1 ∧ t1.get 0 = (.i .i64 x0) ∧ t1.get 1 = v1 ∧ t1.get 7 = v7 ∧ t1.get 8 = (.i .i64 x8) ∧ t1.get 9 = v19 ∧ t1.get 10 = (.i .i64 x10)
abbrev g59_J3 (x0 : Int) (v1 : AVal) (v7 : AVal) (x8 : Int) (v19 : AVal) (x10 : Int) (x11 : Int) (o : Mm) (e : AExit) (m1 : Mm) (t1 : Tr) : Prop :=
  match o with
  | mo => e = .norm ∧ mo = m1 ∧ t1.get 0 = (.i .i64 x0) ∧ t1.get 1 = v1 ∧ t1.get 7 = v7 ∧ t1.get 8 = (.i .i64 x8) ∧ t1.get 9 = v19 ∧ t1.get 10 = (.i .i64 x10) ∧ t1.get 11 = (.i .i64 x11)
def g59_b2 (M : Means) (ro : List ABlk) (x0 : Int) (v1 : AVal) (v7 : AVal) (x8 : Int) (v19 : AVal) (x10 : Int) (x11 : Int) (m_4 : Mm) : Option ((Int × Mm) ⊕ (Mm)) :=
  forceB (ltI x11 2) fun c25 =>
  cond c25 (
    forceI (wr .i64 (Int.tdiv x10 2)) fun x30 =>
    forceI (Int.tmod x10 2) fun x32 =>
    bindO (callN M.call m_4.h 49 [(.i .i64 x0), (.i .i64 x30), (.i .i64 x32), (.i .i64 x11)]) fun v34 =>
    asI .i64 v34 fun x34 =>
    bindO (evP .e (.ixS 1 (.c v1) (.c (.i .i64 x8)))) fun v37 =>
    bindO (ldA ro m_4.h true 1 v37) fun v38 =>
    asI .i64 v38 fun x38 =>
    forceB (eqI x34 x38) fun c39 =>
    bindO (α := Mm) (
      cond c39 (
        forceI (Int.tmod x10 2) fun x42 =>
        forceI (wr .i64 (x42 * 2)) fun x43 =>
        forceI (wr .i64 (x43 + x11)) fun x45 =>
        bindO (evP .e (.ixS 1 (.c v19) (.c (.i .i64 x45)))) fun v46 =>
        bindO (ldA ro m_4.h true 1 v46) fun v47 =>
        asI .i64 v47 fun x47 =>
        bindO (evP .e (.ixS 1 (.c v7) (.c (.i .i64 x10)))) fun v50 =>
        bindO (ldA ro m_4.h true 1 v50) fun v51 =>
        asI .i64 v51 fun x51 =>
        forceI (wr .i64 (x47 + x51)) fun x52 =>
        bindO (evP .e (.ixS 1 (.c v19) (.c (.i .i64 x45)))) fun v53 =>
        asP v53 fun qs =>
        bindO (writesM ro [] [(qs, AVal.cells (.i .i64 x52))] ⟨m_4.h, m_4.lw, m_4.lp⟩) fun m_5 =>
        some m_5) (
        some m_4)) fun m_6 =>
    forceI (wr .i64 (x11 + 1)) fun x27 =>
    some (.inl (x27, m_6))) (
    some (.inr m_4))
def g59_b1 (M : Means) (ro : List ABlk) (x0 : Int) (v1 : AVal) (v7 : AVal) (x8 : Int) (v19 : AVal) (x10 : Int) (m_3 : Mm) : Option ((Int × Mm) ⊕ (Mm)) :=
  forceB (ltI x10 4) fun c21 =>
  cond c21 (
    bindO (M.loop (S := Int × Mm) (R := Mm) (fun s => g59_b2 M ro x0 v1 v7 x8 v19 x10 s.1 s.2) (0, m_3)) fun m_7 =>
    forceI (wr .i64 (x10 + 1)) fun x23 =>
    some (.inl (x23, m_7))) (
    some (.inr m_3))
def g59_b0 (M : Means) (ro : List ABlk) (x0 : Int) (v1 : AVal) (v7 : AVal) (x8 : Int) (m_1 : Mm) : Option ((AVal × Int × Mm) ⊕ ((AVal × Mm))) :=
  bindO (evP .e (.len false (.c v1))) fun v15 =>
  asI .i64 v15 fun x15 =>
  forceB (ltI x8 x15) fun c16 =>
  cond c16 (
    bindP (stepM ro m_1 (.mk 3 1 8 [(AVal.i IntKind.i64 0)] (.c (.i .i64 4)) (.c (.i .i64 4)))) fun v19 m_2 =>
    bindO (M.loop (S := Int × Mm) (R := Mm) (fun s => g59_b1 M ro x0 v1 v7 x8 v19 s.1 s.2) (0, m_2)) fun m_8 =>
    forceI (wr .i64 (x8 + 1)) fun x18 =>
    some (.inl (v19, x18, m_8))) (
    some (.inr (v7, m_1)))
def g59 (M : Means) (ro : List ABlk) (x0 : Int) (v1 : AVal) (v2 : AVal) (m0 : Mm) : Option (AVal × Heap × Nat × Nat) :=
  bindO (M.loop (S := AVal × Int × Mm) (R := (AVal × Mm)) (fun s => g59_b0 M ro x0 v1 s.1 s.2.1 s.2.2) (v2, 0, m0)) fun ⟨v7_1, m_9⟩ =>
  finM m0.h.length (tupA [v7_1]) m_9

theorem g59_ok {ro : List ABlk} {O : Caller} {M : Means} (hM : M.Ok ⟨F, O⟩ ro) {x0 v1 v2 h r} (ho : O 59 [(.i .i64 x0), v1, v2] h = none) (hr : g59 M ro x0 v1 v2 ⟨h, h.length, h.length⟩ = some r) : callX ⟨F, O⟩ ro 59 [(.i .i64 x0), v1, v2] h = some r := by
  refine callX_of (F := ⟨F, O⟩) (fn := fn59) (g := g59 M ro x0 v1 v2) ho rfl rfl hr ?_
  clear ho
  clear hr
  intro m0 t0 ht hr
  have g0 : t0.get 0 = (.i .i64 x0) := ht 0
  have g1 : t0.get 1 = v1 := ht 1
  have g2 : t0.get 2 = v2 := ht 2
  clear ht
  unfold g59 at hr
  refine w_seq ?_
  refine w_ops ?_
  refine wo_step (v := AVal.nsl) (s_pure (p_mv rfl)) ?_
  refine wo_nil ?_
  refine nx_norm ?_
  refine w_seq ?_
  refine w_ops ?_
  refine wo_step (v := v2) (s_pure (p_mv g2)) ?_
  refine wo_step (v := v2) (s_pure (p_mv rfl)) ?_
  refine wo_nil ?_
  refine nx_norm ?_
  refine w_seq ?_
  refine w_seq ?_
  refine w_ops ?_
  refine wo_step (v := (.i .i64 0)) (s_pure (p_mv rfl)) ?_
  refine wo_nil ?_
  refine nx_norm ?_
  refine w_block ?_
  have hq := bindO_inv hr
  clear hr
  obtain ⟨o_3, hl_2, hr⟩ := hq
  obtain ⟨n_2, hl_2⟩ := hM.loop _ _ _ hl_2
  refine jp_mono (w_loop _ (g59_I0 x0 v1) (g59_J0 x0 v1) ?_ n_2 _ _ _ _ hl_2 ⟨rfl, gl rfl, gl rfl, gl g0, gl g1⟩) ?_
  · clear hr hl_2
    intro s mm_6 t_1 o hi hr
    obtain ⟨v7, x8, m_1⟩ := s
    obtain ⟨rfl, g7, g8, g0, g1⟩ := hi
    unfold g59_b0 at hr
    refine w_seq ?_
    refine w_seq ?_
    refine w_ops ?_
    refine wo_step (v := (.i .i64 x8)) (s_pure (p_mv g8)) ?_
    refine wo_step (v := v1) (s_pure (p_mv g1)) ?_
    have hq := bindO_inv hr
    clear hr
    obtain ⟨v15, e15, hr⟩ := hq
    have hq := asI_inv hr
    clear hr
    obtain ⟨x15, rfl, hr⟩ := hq
    refine wo_step (v := (.i .i64 x15)) (s_pure (o_len rfl e15)) ?_
    have hq := forceB_inv hr
    clear hr
    obtain ⟨c16, e16, hr⟩ := hq
    refine wo_step (v := (.b c16)) (s_pure (p_bin rfl rfl (b_lss.trans (cb e16)))) ?_
    refine wo_nil ?_
    refine nx_norm ?_
    have hq := cond_inv hr
    clear hr
    rcases hq with ⟨rfl, hr⟩ | ⟨rfl, hr⟩
    · refine w_condT rfl ?_
      refine w_skip ?_
      refine nx_norm ?_
      refine w_seq ?_
      refine w_block ?_
      refine w_seq ?_
      refine w_ops ?_
      have hq := bindP_inv hr
      clear hr
      obtain ⟨v19, m_2, e19, hr⟩ := hq
      refine wo_step (v := v19) (s_mk rfl rfl e19) ?_
      refine wo_step (v := v19) (s_pure (p_mv rfl)) ?_
      refine wo_nil ?_
      refine nx_norm ?_
      refine w_seq ?_
      refine w_seq ?_
      refine w_ops ?_
      refine wo_step (v := (.i .i64 0)) (s_pure (p_mv rfl)) ?_
      refine wo_nil ?_
      refine nx_norm ?_
      refine w_block ?_
      have hq := bindO_inv hr
      clear hr
      obtain ⟨o_2, hl_1, hr⟩ := hq
      obtain ⟨n_1, hl_1⟩ := hM.loop _ _ _ hl_1
      refine jp_mono (w_loop _ (g59_I1 x0 v1 v7 x8 v19) (g59_J1 x0 v1 v7 x8 v19) ?_ n_1 _ _ _ _ hl_1 ⟨rfl, gl rfl, gl g0, gl g1, gl g7, gl g8, gl rfl⟩) ?_
      · clear hr hl_1
        intro s mm_4 t_2 o hi hr
        obtain ⟨x10, m_3⟩ := s
        obtain ⟨rfl, g10, g0, g1, g7, g8, g9⟩ := hi
        unfold g59_b1 at hr
        refine w_seq ?_
        refine w_seq ?_
        refine w_ops ?_
        refine wo_step (v := (.i .i64 x10)) (s_pure (p_mv g10)) ?_
        have hq := forceB_inv hr
        clear hr
        obtain ⟨c21, e21, hr⟩ := hq
        refine wo_step (v := (.b c21)) (s_pure (p_bin rfl rfl (b_lss.trans (cb e21)))) ?_
        refine wo_nil ?_
        refine nx_norm ?_
        have hq := cond_inv hr
        clear hr
        rcases hq with ⟨rfl, hr⟩ | ⟨rfl, hr⟩
        · refine w_condT rfl ?_
          refine w_skip ?_
          refine nx_norm ?_
          refine w_seq ?_
          refine w_block ?_
          refine w_seq ?_
          refine w_ops ?_
          refine wo_step (v := (.i .i64 0)) (s_pure (p_mv rfl)) ?_
          refine wo_nil ?_
          refine nx_norm ?_
          refine w_block ?_
          have hq := bindO_inv hr
          clear hr
          obtain ⟨o_1, hl, hr⟩ := hq
          obtain ⟨n, hl⟩ := hM.loop _ _ _ hl
          refine jp_mono (w_loop _ (g59_I2 x0 v1 v7 x8 v19 x10) (g59_J2 x0 v1 v7 x8 v19 x10) ?_ n _ _ _ _ hl ⟨rfl, gl rfl, gl g0, gl g1, gl g7, gl g8, gl g9, gl g10⟩) ?_
          · clear hr hl
            intro s mm_2 t_3 o hi hr
            obtain ⟨x11, m_4⟩ := s
            obtain ⟨rfl, g11, g0, g1, g7, g8, g9, g10⟩ := hi
            unfold g59_b2 at hr
            refine w_seq ?_
            refine w_seq ?_
            refine w_ops ?_
            refine wo_step (v := (.i .i64 x11)) (s_pure (p_mv g11)) ?_
            have hq := forceB_inv hr
            clear hr
            obtain ⟨c25, e25, hr⟩ := hq
            refine wo_step (v := (.b c25)) (s_pure (p_bin rfl rfl (b_lss.trans (cb e25)))) ?_
            refine wo_nil ?_
            refine nx_norm ?_
            have hq := cond_inv hr
            clear hr
            rcases hq with ⟨rfl, hr⟩ | ⟨rfl, hr⟩
            · refine w_condT rfl ?_
              refine w_skip ?_
              refine nx_norm ?_
              refine w_seq ?_
              refine w_block ?_
              refine w_seq ?_
              refine w_any ?_
              refine wa_step (v := (.i .i64 x0)) (a_pure (p_mv g0)) ?_
              refine wa_step (v := (.i .i64 x10)) (a_pure (p_mv g10)) ?_
              have hq := forceI_inv hr
              clear hr
              obtain ⟨x30, e30, hr⟩ := hq
              refine wa_step (v := (.i .i64 x30)) (a_pure (p_bin rfl rfl ((b_quo rfl).trans (ci e30)))) ?_
              refine wa_step (v := (.i .i64 x10)) (a_pure (p_mv g10)) ?_
              have hq := forceI_inv hr
              clear hr
              obtain ⟨x32, e32, hr⟩ := hq
              refine wa_step (v := (.i .i64 x32)) (a_pure (p_bin rfl rfl ((b_rem rfl).trans (ci e32)))) ?_
              refine wa_step (v := (.i .i64 x11)) (a_pure (p_mv g11)) ?_
              have hq := bindO_inv hr
              clear hr
              obtain ⟨v34, e34, hr⟩ := hq
              have hq := asI_inv hr
              clear hr
              obtain ⟨x34, rfl, hr⟩ := hq
              refine wa_step (v := (.i .i64 x34)) (a_call (mc rfl (mc rfl (mc rfl (mc rfl mn)))) (callN_le hM.call e34)) ?_
              refine wa_step (v := v1) (a_pure (p_mv g1)) ?_
              refine wa_step (v := (.i .i64 x8)) (a_pure (p_mv g8)) ?_
              have hq := bindO_inv hr
              clear hr
              obtain ⟨v37, e37, hr⟩ := hq
              refine wa_step (v := v37) (a_pure (o_ixS rfl rfl e37)) ?_
              have hq := bindO_inv hr
              clear hr
              obtain ⟨v38, e38, hr⟩ := hq
              have hq := asI_inv hr
              clear hr
              obtain ⟨x38, rfl, hr⟩ := hq
              refine wa_step (v := (.i .i64 x38)) (a_ld rfl e38) ?_
              have hq := forceB_inv hr
              clear hr
              obtain ⟨c39, e39, hr⟩ := hq
              refine wa_step (v := (.b c39)) (a_pure (p_bin rfl rfl (b_eql.trans (cb e39)))) ?_
              refine wa_nil ?_
              refine ⟨m_4, rfl, ?_⟩
              refine nx_norm ?_
              have hq := bindO_inv hr
              clear hr
              obtain ⟨o, hr, hk⟩ := hq
              refine jp_mono (J := g59_J3 x0 v1 v7 x8 v19 x10 x11 o) ?_ ?_
              · clear hk
                have hq := cond_inv hr
                clear hr
                rcases hq with ⟨rfl, hr⟩ | ⟨rfl, hr⟩
                · refine w_condT rfl ?_
                  refine w_any ?_
                  refine wa_step (v := v19) (a_pure (p_mv g9)) ?_
                  refine wa_step (v := (.i .i64 x10)) (a_pure (p_mv g10)) ?_
                  have hq := forceI_inv hr
                  clear hr
                  obtain ⟨x42, e42, hr⟩ := hq
                  refine wa_step (v := (.i .i64 x42)) (a_pure (p_bin rfl rfl ((b_rem rfl).trans (ci e42)))) ?_
                  have hq := forceI_inv hr
                  clear hr
                  obtain ⟨x43, e43, hr⟩ := hq
                  refine wa_step (v := (.i .i64 x43)) (a_pure (p_bin rfl rfl (b_mul.trans (ci e43)))) ?_
                  refine wa_step (v := (.i .i64 x11)) (a_pure (p_mv g11)) ?_
                  have hq := forceI_inv hr
                  clear hr
                  obtain ⟨x45, e45, hr⟩ := hq
                  refine wa_step (v := (.i .i64 x45)) (a_pure (p_bin rfl rfl (b_add.trans (ci e45)))) ?_
                  have hq := bindO_inv hr
                  clear hr
                  obtain ⟨v46, e46, hr⟩ := hq
                  refine wa_step (v := v46) (a_pure (o_ixS rfl rfl e46)) ?_
                  have hq := bindO_inv hr
                  clear hr
                  obtain ⟨v47, e47, hr⟩ := hq
                  have hq := asI_inv hr
                  clear hr
                  obtain ⟨x47, rfl, hr⟩ := hq
                  refine wa_step (v := (.i .i64 x47)) (a_ld rfl e47) ?_
                  refine wa_step (v := v7) (a_pure (p_mv g7)) ?_
                  refine wa_step (v := (.i .i64 x10)) (a_pure (p_mv g10)) ?_
                  have hq := bindO_inv hr
                  clear hr
                  obtain ⟨v50, e50, hr⟩ := hq
                  refine wa_step (v := v50) (a_pure (o_ixS rfl rfl e50)) ?_
                  have hq := bindO_inv hr
                  clear hr
                  obtain ⟨v51, e51, hr⟩ := hq
                  have hq := asI_inv hr
                  clear hr
                  obtain ⟨x51, rfl, hr⟩ := hq
                  refine wa_step (v := (.i .i64 x51)) (a_ld rfl e51) ?_
                  have hq := forceI_inv hr
                  clear hr
                  obtain ⟨x52, e52, hr⟩ := hq
                  refine wa_step (v := (.i .i64 x52)) (a_pure (p_bin rfl rfl (b_add.trans (ci e52)))) ?_
                  have hq := bindO_inv hr
                  clear hr
                  obtain ⟨v53, e53, hr⟩ := hq
                  refine wa_step (v := v53) (a_pure (o_ixS rfl rfl e53)) ?_
                  have hq := asP_inv hr
                  clear hr
                  obtain ⟨qs, eqs, hr⟩ := hq
                  refine wa_stepN (a_st (Eq.trans (b := v53) rfl eqs) rfl rfl) ?_
                  have hq := bindO_inv hr
                  clear hr
                  obtain ⟨m_5, ew, hr⟩ := hq
                  refine wa_nil ?_
                  refine ⟨m_5, ew, ?_⟩
                  cases hr
                  exact ⟨_, _, rfl, rfl, rfl, gl g0, gl g1, gl g7, gl g8, gl g9, gl g10, gl g11⟩
                · refine w_condF rfl ?_
                  refine w_skip ?_
                  cases hr
                  exact ⟨_, _, rfl, rfl, rfl, gl g0, gl g1, gl g7, gl g8, gl g9, gl g10, gl g11⟩
              · have hr := hk
                clear hk
                obtain ⟨m_6, ho⟩ : ∃ z, z = o := ⟨_, rfl⟩
                subst ho
                rintro _ mm t_4 ⟨rfl, rfl, g0, g1, g7, g8, g9, g10, g11⟩
                refine bk_norm ?_
                refine nx_norm ?_
                refine w_ops ?_
                refine wo_step (v := (.i .i64 x11)) (s_pure (p_mv g11)) ?_
                have hq := forceI_inv hr
                clear hr
                obtain ⟨x27, e27, hr⟩ := hq
                refine wo_step (v := (.i .i64 x27)) (s_pure (p_bin rfl rfl (b_add.trans (ci e27)))) ?_
                refine wo_step (v := (.i .i64 x27)) (s_pure (p_mv rfl)) ?_
                refine wo_nil ?_
                cases hr
                exact ⟨_, _, rfl, rfl, rfl, gl rfl, gl g0, gl g1, gl g7, gl g8, gl g9, gl g10⟩
            · refine w_condF rfl ?_
              refine w_exit ?_
              refine nx_exit ?_
              cases hr
              exact ⟨_, _, rfl, ne_norm_exit, rfl, rfl, gl g0, gl g1, gl g7, gl g8, gl g9, gl g10⟩
          · obtain ⟨m_7, ho⟩ : ∃ z, z = o_1 := ⟨_, rfl⟩
            subst ho
            rintro _ mm_1 t_5 ⟨rfl, rfl, g0, g1, g7, g8, g9, g10⟩
            refine bk_hit ?_
            refine bk_norm ?_
            refine nx_norm ?_
            refine w_ops ?_
            refine wo_step (v := (.i .i64 x10)) (s_pure (p_mv g10)) ?_
            have hq := forceI_inv hr
            clear hr
            obtain ⟨x23, e23, hr⟩ := hq
            refine wo_step (v := (.i .i64 x23)) (s_pure (p_bin rfl rfl (b_add.trans (ci e23)))) ?_
            refine wo_step (v := (.i .i64 x23)) (s_pure (p_mv rfl)) ?_
            refine wo_nil ?_
            cases hr
            exact ⟨_, _, rfl, rfl, rfl, gl rfl, gl g0, gl g1, gl g7, gl g8, gl g9⟩
        · refine w_condF rfl ?_
          refine w_exit ?_
          refine nx_exit ?_
          cases hr
          exact ⟨_, _, rfl, ne_norm_exit, rfl, rfl, gl g0, gl g1, gl g8, gl g9⟩
      · obtain ⟨m_8, ho⟩ : ∃ z, z = o_2 := ⟨_, rfl⟩
        subst ho
        rintro _ mm_3 t_6 ⟨rfl, rfl, g0, g1, g8, g9⟩
        refine bk_hit ?_
        refine nx_norm ?_
        refine w_ops ?_
        refine wo_step (v := v19) (s_pure (p_mv g9)) ?_
        refine wo_step (v := v19) (s_pure (p_mv rfl)) ?_
        refine wo_nil ?_
        refine bk_norm ?_
        refine nx_norm ?_
        refine w_ops ?_
        refine wo_step (v := (.i .i64 x8)) (s_pure (p_mv g8)) ?_
        have hq := forceI_inv hr
        clear hr
        obtain ⟨x18, e18, hr⟩ := hq
        refine wo_step (v := (.i .i64 x18)) (s_pure (p_bin rfl rfl (b_add.trans (ci e18)))) ?_
        refine wo_step (v := (.i .i64 x18)) (s_pure (p_mv rfl)) ?_
        refine wo_nil ?_
        cases hr
        exact ⟨_, _, rfl, rfl, rfl, gl rfl, gl rfl, gl g0, gl g1⟩
    · refine w_condF rfl ?_
      refine w_exit ?_
      refine nx_exit ?_
      cases hr
      exact ⟨_, _, rfl, ne_norm_exit, rfl, rfl, gl g7⟩
  · obtain ⟨v7_1, m_9⟩ := o_3
    rintro _ mm_5 t_7 ⟨rfl, rfl, g7⟩
    refine bk_hit ?_
    refine nx_norm ?_
    refine w_seq ?_
    refine w_ops ?_
    refine wo_step (v := v7_1) (s_pure (p_mv g7)) ?_
    refine wo_step (v := v7_1) (s_pure (p_mv rfl)) ?_
    refine wo_nil ?_
    refine nx_norm ?_
    refine w_ret ?_
    exact qf ret_ok (rt rfl rn) hr

/- dibber/weed.readRule -/
abbrev g61_J0 (x0 : Int) (m0 : Mm) (o : Bool) (m1 : Mm) (t1 : Tr) : Prop :=
  match o with
  | c9 => m0 = m1 ∧ t1.get 9 = (.b c9) ∧ t1.get 0 = (.i .i64 x0)
def g61 (M : Means) (ro : List ABlk) (x0 : Int) (m0 : Mm) : Option (AVal × Heap × Nat × Nat) :=
  forceB (ltI x0 0) fun c5 =>
  bindO (cond c5 (
    some true) (
    forceB (ltI 255 x0) fun c8 =>
    some c8)) fun c9 =>
  cond c9 (
    finM m0.h.length (tupA [(.i .u8 0), (.i .i64 2)]) m0) (
    forceI (wr .u8 x0) fun x11 =>
    finM m0.h.length (tupA [(.i .u8 x11), (.i .i64 0)]) m0)

theorem g61_ok {ro : List ABlk} {O : Caller} {M : Means} (hM : M.Ok ⟨F, O⟩ ro) {x0 h r} (ho : O 61 [(.i .i64 x0)] h = none) (hr : g61 M ro x0 ⟨h, h.length, h.length⟩ = some r) : callX ⟨F, O⟩ ro 61 [(.i .i64 x0)] h = some r := by
  refine callX_of (F := ⟨F, O⟩) (fn := fn61) (g := g61 M ro x0) ho rfl rfl hr ?_
  clear ho
  clear hr
  intro m0 t0 ht hr
  have g0 : t0.get 0 = (.i .i64 x0) := ht 0
  clear ht
  unfold g61 at hr
  refine w_seq ?_
  refine w_ops ?_
  refine wo_step (v := (.i .u8 0)) (s_pure (p_mv rfl)) ?_
  refine wo_step (v := (.i .i64 0)) (s_pure (p_mv rfl)) ?_
  refine wo_nil ?_
  refine nx_norm ?_
  refine w_seq ?_
  refine w_seq ?_
  refine w_ops ?_
  refine wo_step (v := (.i .i64 x0)) (s_pure (p_mv g0)) ?_
  have hq := forceB_inv hr
  clear hr
  obtain ⟨c5, e5, hr⟩ := hq
  refine wo_step (v := (.b c5)) (s_pure (p_bin rfl rfl (b_lss.trans (cb e5)))) ?_
  refine wo_step (v := (.b c5)) (s_pure (p_mv rfl)) ?_
  have hq := bindO_inv hr
  clear hr
  obtain ⟨o, hr, hk⟩ := hq
  refine wo_join 3 (g61_J0 x0 m0 o) ?_ ?_
  · clear hk
    have hq := cond_inv hr
    clear hr
    rcases hq with ⟨rfl, hr⟩ | ⟨rfl, hr⟩
    · refine wo_skip (v := (.b true)) rfl rfl ?_
      refine wo_skip (v := (.b true)) rfl rfl ?_
      refine wo_step (v := (.b true)) (s_pure (p_pickT rfl rfl)) ?_
      refine wo_nil ?_
      cases hr
      exact ⟨_, _, rfl, rfl, gl rfl, gl g0⟩
    · refine wo_take (v := (.i .i64 x0)) rfl (s_pure (p_mv g0)) ?_
      have hq := forceB_inv hr
      clear hr
      obtain ⟨c8, e8, hr⟩ := hq
      refine wo_take (v := (.b c8)) rfl (s_pure (p_bin rfl rfl (b_gtr.trans (cb e8)))) ?_
      refine wo_step (v := (.b c8)) (s_pure (p_pickF rfl rfl)) ?_
      refine wo_nil ?_
      cases hr
      exact ⟨_, _, rfl, rfl, gl rfl, gl g0⟩
  · clear hr
    have hr := hk
    clear hk
    obtain ⟨c9, ho⟩ : ∃ z, z = o := ⟨_, rfl⟩
    subst ho
    rintro mm t_1 ⟨rfl, g9, g0⟩
    refine wo_nil ?_
    refine nx_norm ?_
    have hq := cond_inv hr
    clear hr
    rcases hq with ⟨rfl, hr⟩ | ⟨rfl, hr⟩
    · refine w_condT g9 ?_
      refine w_seq ?_
      refine w_ops ?_
      refine wo_step (v := (.i .u8 0)) (s_pure (p_mv rfl)) ?_
      refine wo_step (v := (.i .i64 2)) (s_pure (p_mv rfl)) ?_
      refine wo_nil ?_
      refine nx_norm ?_
      refine w_ret ?_
      refine nx_ret ?_
      exact qf ret_ok (rt rfl (rt rfl rn)) hr
    · refine w_condF g9 ?_
      refine w_skip ?_
      refine nx_norm ?_
      refine w_seq ?_
      refine w_ops ?_
      refine wo_step (v := (.i .i64 x0)) (s_pure (p_mv g0)) ?_
      have hq := forceI_inv hr
      clear hr
      obtain ⟨x11, e11, hr⟩ := hq
      refine wo_step (v := (.i .u8 x11)) (s_pure ((p_conv rfl).trans (ci e11))) ?_
      refine wo_step (v := (.i .u8 x11)) (s_pure (p_mv rfl)) ?_
      refine wo_step (v := (.i .i64 0)) (s_pure (p_mv rfl)) ?_
      refine wo_nil ?_
      refine nx_norm ?_
      refine w_ret ?_
      exact qf ret_ok (rt rfl (rt rfl rn)) hr

/- (dibber/weed.rule).orphan -/
abbrev g62_I0 (x0 : Int) (v3 : AVal) (s : AVal × Int × Mm) (m1 : Mm) (t1 : Tr) : Prop :=
  match s with
  | (v4, x5, m_4) => m_4 = m1 ∧ t1.get 4 = v4 ∧ t1.get 5 = (.i .i64 x5) ∧ t1.get 0 = (.i .u8 x0) ∧ t1.get 3 = v3
abbrev g62_J0 (x0 : Int) (v3 : AVal) (o : (Mm ⊕ (List UInt8 × Mm))) (e : AExit) (m1 : Mm) (t1 : Tr) : Prop :=
  match o with
  | (.inl mo) => e = (.exit 0) ∧ mo = m1
  | (.inr (y2, mo)) => e = .ret ∧ mo = m1 ∧ t1.get 2 = (.s y2)
abbrev g62_I1 (x0 : Int) (v3 : AVal) (x5 : Int) (s : AVal × Int × Mm) (m1 : Mm) (t1 : Tr) : Prop :=
  match s with
  | (v4_1, x17, m_5) => m_5 = m1 ∧ t1.get 4 = v4_1 ∧ t1.get 17 = (.i .i64 x17) ∧ t1.get 0 = (.i .u8 x0) ∧ t1.get 3 = v3 ∧ t1.get 5 = (.i .i64 x5)
abbrev g62_J1 (x0 : Int) (v3 : AVal) (x5 : Int) (o : ((AVal × Mm) ⊕ (List UInt8 × Mm))) (e : AExit) (m1 : Mm) (t1 : Tr) : Prop :=
  match o with
  | (.inl (y4, mo)) => e = (.exit 2) ∧ mo = m1 ∧ t1.get 4 = y4 ∧ t1.get 0 = (.i .u8 x0) ∧ t1.get 3 = v3 ∧ t1.get 5 = (.i .i64 x5)
  | (.inr (y2, mo)) => e = .ret ∧ mo = m1 ∧ t1.get 2 = (.s y2)
abbrev g62_J2 (x0 : Int) (v3 : AVal) (x5 : Int) (x17 : Int) (o : (AVal × Mm)) (e : AExit) (m1 : Mm) (t1 : Tr) : Prop :=
  match o with
  | (y4, mo) => e = .norm ∧ mo = m1 ∧ t1.get 4 = y4 ∧ t1.get 0 = (.i .u8 x0) ∧ t1.get 3 = v3 ∧ t1.get 5 = (.i .i64 x5) ∧ t1.get 17 = (.i .i64 x17)
def g62_b1 (M : Means) (ro : List ABlk) (x0 : Int) (v3 : AVal) (x5 : Int) (v4_1 : AVal) (x17 : Int) (m_5 : Mm) : Option ((AVal × Int × Mm) ⊕ (((AVal × Mm) ⊕ (List UInt8 × Mm)))) :=
  forceB (ltI x17 2) fun c18 =>
  cond c18 (
    bindO (evP .e (.ixS 2 (.c v4_1) (.c (.i .i64 x5)))) fun v23 =>
    bindO (evP .e (.faddr 0 (.c v23))) fun v24 =>
    bindO (ldA ro m_5.h true 1 v24) fun v25 =>
    asI .u8 v25 fun x25 =>
    bindO (callN M.call m_5.h 78 [(.i .u8 x0), (.i .u8 x25), (.i .i64 x17)]) fun v27 =>
    asI .u8 v27 fun x27 =>
    bindO (evP .e (.ixS 2 (.c v4_1) (.c (.i .i64 x5)))) fun v30 =>
    bindO (evP .e (.faddr 1 (.c v30))) fun v31 =>
    bindO (ldA ro m_5.h true 1 v31) fun v32 =>
    asS v32 fun s32 =>
    bindO (callN M.call m_5.h 71 [(.i .i64 x17)]) fun v34 =>
    asI .u8 v34 fun x34 =>
    bindO (evP .e (.chr (.c (.i .u8 x34)))) fun v35 =>
    asS v35 fun s35 =>
    bindO (evP .e (.sbin BinOp.add (.c (.s s32)) (.c (.s s35)))) fun v36 =>
    asS v36 fun s36 =>
    bindO ((fillA [(AVal.i IntKind.u8 0), (AVal.s [])] [((0, 1), (.i .u8 x27)), ((1, 1), (.s s36))]).map AVal.agg) fun v37 =>
    bindO (some (AVal.p (some ⟨false, List.length m_5.h, 0⟩))) fun v7 =>
    asP v7 fun qs =>
    chk (Nat.beq (AVal.cells v37).length 2) <|
    bindO (writesM ro [] [(qs, AVal.cells v37)] ⟨(m_5.h ++ [some (blkOf 88 [(AVal.i IntKind.u8 0), (AVal.s [])])]), m_5.lw, m_5.lp⟩) fun m_6 =>
    bindO (evP .e (.faddr 0 (.c v7))) fun v38 =>
    bindO (ldM ro m_6 true 1 v38) fun v39 =>
    asI .u8 v39 fun x39 =>
    forceB (eqI x39 0) fun c40 =>
    cond c40 (
      bindO (evP .e (.faddr 1 (.c v7))) fun v41 =>
      bindO (ldM ro m_6 true 1 v41) fun v42 =>
      asS v42 fun s42 =>
      some (.inr (.inr (s42, m_6)))) (
      bindO (evP .e (.faddr 0 (.c v7))) fun v43 =>
      bindO (ldM ro m_6 true 1 v43) fun v44 =>
      asI .u8 v44 fun x44 =>
      bindO (evP .e (.ixA 16 1 (.c v3) (.c (.i .u8 x44)))) fun v45 =>
      bindO (ldM ro m_6 true 1 v45) fun v46 =>
      asB v46 fun c46 =>
      forceB (!c46) fun c47 =>
      bindO (α := (AVal × Mm)) (
        cond c47 (
          bindO (evP .e (.faddr 0 (.c v7))) fun v48 =>
          bindO (ldM ro m_6 true 1 v48) fun v49 =>
          asI .u8 v49 fun x49 =>
          bindO (evP .e (.ixA 16 1 (.c v3) (.c (.i .u8 x49)))) fun v50 =>
          bindP (stepM ro m_6 (.st 1 (.c v50) (.c (.b true)))) fun vn_1 m_7 =>
          bindO (ldM ro m_7 false 2 v7) fun v52 =>
          bindP (stepM ro m_7 (.bsl 88 2 [(AVal.i IntKind.u8 0), (AVal.s [])] 1 [((0, 2), .c v52)])) fun v53 m_8 =>
          bindP (stepM ro m_8 (.app 88 2 24 [(AVal.i IntKind.u8 0), (AVal.s [])] (.c v4_1) (.c v53))) fun v54 m_9 =>
          some (v54, m_9)) (
          some (v4_1, m_6))) fun ⟨v4_2, m_10⟩ =>
      forceI (wr .i64 (x17 + 1)) fun x55 =>
      some (.inl (v4_2, x55, m_10)))) (
    some (.inr (.inl (v4_1, m_5))))
def g62_b0 (M : Means) (ro : List ABlk) (x0 : Int) (v3 : AVal) (v4 : AVal) (x5 : Int) (m_4 : Mm) : Option ((AVal × Int × Mm) ⊕ ((Mm ⊕ (List UInt8 × Mm)))) :=
  bindO (evP .e (.len false (.c v4))) fun v13 =>
  asI .i64 v13 fun x13 =>
  forceB (ltI x5 x13) fun c14 =>
  cond c14 (
    bindO (M.loop (S := AVal × Int × Mm) (R := ((AVal × Mm) ⊕ (List UInt8 × Mm))) (fun s => g62_b1 M ro x0 v3 x5 s.1 s.2.1 s.2.2) (v4, 0, m_4)) fun o_1 => match o_1 with
    | (.inl (v4_3, m_11)) =>
      forceI (wr .i64 (x5 + 1)) fun x16 =>
      some (.inl (v4_3, x16, m_11))
    | (.inr (s2, m_12)) =>
      some (.inr (.inr (s2, m_12)))) (
    some (.inr (.inl m_4)))
def g62 (M : Means) (ro : List ABlk) (x0 : Int) (m0 : Mm) : Option (AVal × Heap × Nat × Nat) :=
  bindO ((fillA [(AVal.b false), (AVal.b false), (AVal.b false), (AVal.b false), (AVal.b false), (AVal.b false), (AVal.b false), (AVal.b false), (AVal.b false), (AVal.b false), (AVal.b false), (AVal.b false), (AVal.b false), (AVal.b false), (AVal.b false), (AVal.b false)] [((15, 1), (.b true))]).map AVal.agg) fun v8 =>
  bindP (stepM ro m0 (.al 86 [(AVal.b false), (AVal.b false), (AVal.b false), (AVal.b false), (AVal.b false), (AVal.b false), (AVal.b false), (AVal.b false), (AVal.b false), (AVal.b false), (AVal.b false), (AVal.b false), (AVal.b false), (AVal.b false), (AVal.b false), (AVal.b false)])) fun v3 m_1 =>
  bindP (stepM ro m_1 (.st 16 (.c v3) (.c v8))) fun vn m_2 =>
  bindO ((fillA [(AVal.i IntKind.u8 0), (AVal.s [])] [((0, 1), (.i .u8 15)), ((1, 1), (AVal.s []))]).map AVal.agg) fun v9 =>
  bindP (stepM ro m_2 (.bsl 88 2 [(AVal.i IntKind.u8 0), (AVal.s [])] 1 [((0, 2), .c v9)])) fun v10 m_3 =>
  bindO (M.loop (S := AVal × Int × Mm) (R := (Mm ⊕ (List UInt8 × Mm))) (fun s => g62_b0 M ro x0 v3 s.1 s.2.1 s.2.2) (v10, 0, m_3)) fun o_2 => match o_2 with
  | (.inl m_13) =>
    finM m0.h.length (tupA [(AVal.s [])]) m_13
  | (.inr (s2_1, m_14)) =>
    finM m0.h.length (tupA [(.s s2_1)]) m_14

theorem g62_ok {ro : List ABlk} {O : Caller} {M : Means} (hM : M.Ok ⟨F, O⟩ ro) {x0 h r} (ho : O 62 [(.i .u8 x0)] h = none) (hr : g62 M ro x0 ⟨h, h.length, h.length⟩ = some r) : callX ⟨F, O⟩ ro 62 [(.i .u8 x0)] h = some r := by
  refine callX_of (F := ⟨F, O⟩) (fn := fn62) (g := g62 M ro x0) ho rfl rfl hr ?_
  clear ho
  clear hr
  intro m0 t0 ht hr
  have g0 : t0.get 0 = (.i .u8 x0) := ht 0
  clear ht
  unfold g62 at hr
  refine w_seq ?_
  refine w_ops ?_
  refine wo_step (v := (AVal.s [])) (s_pure (p_mv rfl)) ?_
  refine wo_nil ?_
  refine nx_norm ?_
  refine w_seq ?_
  refine w_ops ?_
  have hq := bindO_inv hr
  clear hr
  obtain ⟨v8, e8, hr⟩ := hq
  refine wo_step (v := v8) (s_pure (o_build (qc rfl qn) e8)) ?_
  have hq := bindP_inv hr
  clear hr
  obtain ⟨v3, m_1, e3, hr⟩ := hq
  refine wo_step (v := v3) (s_al e3) ?_
  have hq := bindP_inv hr
  clear hr
  obtain ⟨vn, m_2, en, hr⟩ := hq
  refine wo_stepN (s_st rfl rfl en) ?_
  refine wo_nil ?_
  refine nx_norm ?_
  refine w_seq ?_
  refine w_ops ?_
  have hq := bindO_inv hr
  clear hr
  obtain ⟨v9, e9, hr⟩ := hq
  refine wo_step (v := v9) (s_pure (o_build (qc rfl (qc rfl qn)) e9)) ?_
  have hq := bindP_inv hr
  clear hr
  obtain ⟨v10, m_3, e10, hr⟩ := hq
  refine wo_step (v := v10) (s_bsl (qc rfl qn) e10) ?_
  refine wo_step (v := v10) (s_pure (p_mv rfl)) ?_
  refine wo_nil ?_
  refine nx_norm ?_
  refine w_seq ?_
  refine w_seq ?_
  refine w_ops ?_
  refine wo_step (v := (.i .i64 0)) (s_pure (p_mv rfl)) ?_
  refine wo_nil ?_
  refine nx_norm ?_
  refine w_block ?_
  have hq := bindO_inv hr
  clear hr
  obtain ⟨o_2, hl_1, hr⟩ := hq
  obtain ⟨n_1, hl_1⟩ := hM.loop _ _ _ hl_1
  refine jp_mono (w_loop _ (g62_I0 x0 v3) (g62_J0 x0 v3) ?_ n_1 _ _ _ _ hl_1 ⟨rfl, gl rfl, gl rfl, gl g0, gl rfl⟩) ?_
  · clear hr hl_1
    intro s mm_6 t_1 o hi hr
    obtain ⟨v4, x5, m_4⟩ := s
    obtain ⟨rfl, g4, g5, g0, g3⟩ := hi
    unfold g62_b0 at hr
    refine w_seq ?_
    refine w_seq ?_
    refine w_ops ?_
    refine wo_step (v := (.i .i64 x5)) (s_pure (p_mv g5)) ?_
    refine wo_step (v := v4) (s_pure (p_mv g4)) ?_
    have hq := bindO_inv hr
    clear hr
    obtain ⟨v13, e13, hr⟩ := hq
    have hq := asI_inv hr
    clear hr
    obtain ⟨x13, rfl, hr⟩ := hq
    refine wo_step (v := (.i .i64 x13)) (s_pure (o_len rfl e13)) ?_
    have hq := forceB_inv hr
    clear hr
    obtain ⟨c14, e14, hr⟩ := hq
    refine wo_step (v := (.b c14)) (s_pure (p_bin rfl rfl (b_lss.trans (cb e14)))) ?_
    refine wo_nil ?_
    refine nx_norm ?_
    have hq := cond_inv hr
    clear hr
    rcases hq with ⟨rfl, hr⟩ | ⟨rfl, hr⟩
    · refine w_condT rfl ?_
      refine w_skip ?_
      refine nx_norm ?_
      refine w_seq ?_
      refine w_block ?_
      refine w_seq ?_
      refine w_ops ?_
      refine wo_step (v := (.i .i64 0)) (s_pure (p_mv rfl)) ?_
      refine wo_nil ?_
      refine nx_norm ?_
      refine w_block ?_
      have hq := bindO_inv hr
      clear hr
      obtain ⟨o_1, hl, hr⟩ := hq
      obtain ⟨n, hl⟩ := hM.loop _ _ _ hl
      refine jp_mono (w_loop _ (g62_I1 x0 v3 x5) (g62_J1 x0 v3 x5) ?_ n _ _ _ _ hl ⟨rfl, gl g4, gl rfl, gl g0, gl g3, gl g5⟩) ?_
      · clear hr hl
        intro s mm_3 t_2 o hi hr
        obtain ⟨v4_1, x17, m_5⟩ := s
        obtain ⟨rfl, g4, g17, g0, g3, g5⟩ := hi
        unfold g62_b1 at hr
        refine w_seq ?_
        refine w_ops ?_
        have hq := forceB_inv hr
        clear hr
        obtain ⟨c18, e18, hr⟩ := hq
        refine wo_step (v := (.b c18)) (s_pure (p_bin g17 rfl (b_lss.trans (cb e18)))) ?_
        refine wo_nil ?_
        refine nx_norm ?_
        refine w_seq ?_
        have hq := cond_inv hr
        clear hr
        rcases hq with ⟨rfl, hr⟩ | ⟨rfl, hr⟩
        · refine w_condT rfl ?_
          refine w_skip ?_
          refine nx_norm ?_
          refine w_seq ?_
          refine w_block ?_
          refine w_seq ?_
          refine w_ops ?_
          refine wo_step (v := (.i .i64 x17)) (s_pure (p_mv g17)) ?_
          refine wo_step (v := (.i .i64 x17)) (s_pure (p_mv rfl)) ?_
          refine wo_nil ?_
          refine nx_norm ?_
          refine w_seq ?_
          refine w_any ?_
          refine wa_step (v := (.i .u8 x0)) (a_pure (p_mv g0)) ?_
          refine wa_step (v := v4_1) (a_pure (p_mv g4)) ?_
          refine wa_step (v := (.i .i64 x5)) (a_pure (p_mv g5)) ?_
          have hq := bindO_inv hr
          clear hr
          obtain ⟨v23, e23, hr⟩ := hq
          refine wa_step (v := v23) (a_pure (o_ixS rfl rfl e23)) ?_
          have hq := bindO_inv hr
          clear hr
          obtain ⟨v24, e24, hr⟩ := hq
          refine wa_step (v := v24) (a_pure (o_faddr rfl e24)) ?_
          have hq := bindO_inv hr
          clear hr
          obtain ⟨v25, e25, hr⟩ := hq
          have hq := asI_inv hr
          clear hr
          obtain ⟨x25, rfl, hr⟩ := hq
          refine wa_step (v := (.i .u8 x25)) (a_ld rfl e25) ?_
          refine wa_step (v := (.i .i64 x17)) (a_pure (p_mv rfl)) ?_
          have hq := bindO_inv hr
          clear hr
          obtain ⟨v27, e27, hr⟩ := hq
          have hq := asI_inv hr
          clear hr
          obtain ⟨x27, rfl, hr⟩ := hq
          refine wa_step (v := (.i .u8 x27)) (a_call (mc rfl (mc rfl (mc rfl mn))) (callN_le hM.call e27)) ?_
          refine wa_step (v := v4_1) (a_pure (p_mv g4)) ?_
          refine wa_step (v := (.i .i64 x5)) (a_pure (p_mv g5)) ?_
          have hq := bindO_inv hr
          clear hr
          obtain ⟨v30, e30, hr⟩ := hq
          refine wa_step (v := v30) (a_pure (o_ixS rfl rfl e30)) ?_
          have hq := bindO_inv hr
          clear hr
          obtain ⟨v31, e31, hr⟩ := hq
          refine wa_step (v := v31) (a_pure (o_faddr rfl e31)) ?_
          have hq := bindO_inv hr
          clear hr
          obtain ⟨v32, e32, hr⟩ := hq
          have hq := asS_inv hr
          clear hr
          obtain ⟨s32, rfl, hr⟩ := hq
          refine wa_step (v := (.s s32)) (a_ld rfl e32) ?_
          refine wa_step (v := (.i .i64 x17)) (a_pure (p_mv rfl)) ?_
          have hq := bindO_inv hr
          clear hr
          obtain ⟨v34, e34, hr⟩ := hq
          have hq := asI_inv hr
          clear hr
          obtain ⟨x34, rfl, hr⟩ := hq
          refine wa_step (v := (.i .u8 x34)) (a_call (mc rfl mn) (callN_le hM.call e34)) ?_
          have hq := bindO_inv hr
          clear hr
          obtain ⟨v35, e35, hr⟩ := hq
          have hq := asS_inv hr
          clear hr
          obtain ⟨s35, rfl, hr⟩ := hq
          refine wa_step (v := (.s s35)) (a_pure (o_chr rfl e35)) ?_
          have hq := bindO_inv hr
          clear hr
          obtain ⟨v36, e36, hr⟩ := hq
          have hq := asS_inv hr
          clear hr
          obtain ⟨s36, rfl, hr⟩ := hq
          refine wa_step (v := (.s s36)) (a_pure (o_sbin rfl rfl e36)) ?_
          have hq := bindO_inv hr
          clear hr
          obtain ⟨v37, e37, hr⟩ := hq
          refine wa_step (v := v37) (a_pure (o_build (qc rfl (qc rfl qn)) e37)) ?_
          have hq := bindO_inv hr
          clear hr
          obtain ⟨v7, e7, hr⟩ := hq
          refine wa_step (v := v7) (a_al' e7) ?_
          have hq := asP_inv hr
          clear hr
          obtain ⟨qs, eqs, hr⟩ := hq
          have hq := chk_inv hr
          clear hr
          obtain ⟨hcs, hr⟩ := hq
          refine wa_stepN (a_st (Eq.trans (b := v7) rfl eqs) rfl hcs) ?_
          have hq := bindO_inv hr
          clear hr
          obtain ⟨m_6, ew, hr⟩ := hq
          refine wa_nil ?_
          refine ⟨m_6, ew, ?_⟩
          refine nx_norm ?_
          refine w_seq ?_
          refine w_seq ?_
          refine w_ops ?_
          have hq := bindO_inv hr
          clear hr
          obtain ⟨v38, e38, hr⟩ := hq
          refine wo_step (v := v38) (s_pure (o_faddr rfl e38)) ?_
          have hq := bindO_inv hr
          clear hr
          obtain ⟨v39, e39, hr⟩ := hq
          have hq := asI_inv hr
          clear hr
          obtain ⟨x39, rfl, hr⟩ := hq
          refine wo_step (v := (.i .u8 x39)) (s_ld rfl e39) ?_
          have hq := forceB_inv hr
          clear hr
          obtain ⟨c40, e40, hr⟩ := hq
          refine wo_step (v := (.b c40)) (s_pure (p_bin rfl rfl (b_eql.trans (cb e40)))) ?_
          refine wo_nil ?_
          refine nx_norm ?_
          have hq := cond_inv hr
          clear hr
          rcases hq with ⟨rfl, hr⟩ | ⟨rfl, hr⟩
          · refine w_condT rfl ?_
            refine w_seq ?_
            refine w_ops ?_
            have hq := bindO_inv hr
            clear hr
            obtain ⟨v41, e41, hr⟩ := hq
            refine wo_step (v := v41) (s_pure (o_faddr rfl e41)) ?_
            have hq := bindO_inv hr
            clear hr
            obtain ⟨v42, e42, hr⟩ := hq
            have hq := asS_inv hr
            clear hr
            obtain ⟨s42, rfl, hr⟩ := hq
            refine wo_step (v := (.s s42)) (s_ld rfl e42) ?_
            refine wo_step (v := (.s s42)) (s_pure (p_mv rfl)) ?_
            refine wo_nil ?_
            refine nx_norm ?_
            refine w_ret ?_
            refine nx_ret ?_
            refine bk_ret ?_
            refine nx_ret ?_
            cases hr
            exact ⟨_, _, rfl, ne_norm_ret, rfl, rfl, gl rfl⟩
          · refine w_condF rfl ?_
            refine w_skip ?_
            refine nx_norm ?_
            refine w_seq ?_
            refine w_ops ?_
            have hq := bindO_inv hr
            clear hr
            obtain ⟨v43, e43, hr⟩ := hq
            refine wo_step (v := v43) (s_pure (o_faddr rfl e43)) ?_
            have hq := bindO_inv hr
            clear hr
            obtain ⟨v44, e44, hr⟩ := hq
            have hq := asI_inv hr
            clear hr
            obtain ⟨x44, rfl, hr⟩ := hq
            refine wo_step (v := (.i .u8 x44)) (s_ld rfl e44) ?_
            have hq := bindO_inv hr
            clear hr
            obtain ⟨v45, e45, hr⟩ := hq
            refine wo_step (v := v45) (s_pure (o_ixA g3 rfl e45)) ?_
            have hq := bindO_inv hr
            clear hr
            obtain ⟨v46, e46, hr⟩ := hq
            have hq := asB_inv hr
            clear hr
            obtain ⟨c46, rfl, hr⟩ := hq
            refine wo_step (v := (.b c46)) (s_ld rfl e46) ?_
            have hq := forceB_inv hr
            clear hr
            obtain ⟨c47, e47, hr⟩ := hq
            refine wo_step (v := (.b c47)) (s_pure ((p_not rfl).trans (cb e47))) ?_
            refine wo_nil ?_
            refine nx_norm ?_
            have hq := bindO_inv hr
            clear hr
            obtain ⟨o, hr, hk⟩ := hq
            refine jp_mono (J := g62_J2 x0 v3 x5 x17 o) ?_ ?_
            · clear hk
              have hq := cond_inv hr
              clear hr
              rcases hq with ⟨rfl, hr⟩ | ⟨rfl, hr⟩
              · refine w_condT rfl ?_
                refine w_seq ?_
                refine w_ops ?_
                have hq := bindO_inv hr
                clear hr
                obtain ⟨v48, e48, hr⟩ := hq
                refine wo_step (v := v48) (s_pure (o_faddr rfl e48)) ?_
                have hq := bindO_inv hr
                clear hr
                obtain ⟨v49, e49, hr⟩ := hq
                have hq := asI_inv hr
                clear hr
                obtain ⟨x49, rfl, hr⟩ := hq
                refine wo_step (v := (.i .u8 x49)) (s_ld rfl e49) ?_
                have hq := bindO_inv hr
                clear hr
                obtain ⟨v50, e50, hr⟩ := hq
                refine wo_step (v := v50) (s_pure (o_ixA g3 rfl e50)) ?_
                have hq := bindP_inv hr
                clear hr
                obtain ⟨vn_1, m_7, en_1, hr⟩ := hq
                refine wo_stepN (s_st rfl rfl en_1) ?_
                refine wo_nil ?_
                refine nx_norm ?_
                refine w_ops ?_
                refine wo_step (v := v4_1) (s_pure (p_mv g4)) ?_
                have hq := bindO_inv hr
                clear hr
                obtain ⟨v52, e52, hr⟩ := hq
                refine wo_step (v := v52) (s_ld rfl e52) ?_
                have hq := bindP_inv hr
                clear hr
                obtain ⟨v53, m_8, e53, hr⟩ := hq
                refine wo_step (v := v53) (s_bsl (qc rfl qn) e53) ?_
                have hq := bindP_inv hr
                clear hr
                obtain ⟨v54, m_9, e54, hr⟩ := hq
                refine wo_step (v := v54) (s_app rfl rfl e54) ?_
                refine wo_step (v := v54) (s_pure (p_mv rfl)) ?_
                refine wo_nil ?_
                cases hr
                exact ⟨_, _, rfl, rfl, rfl, gl rfl, gl g0, gl g3, gl g5, gl g17⟩
              · refine w_condF rfl ?_
                refine w_skip ?_
                cases hr
                exact ⟨_, _, rfl, rfl, rfl, gl g4, gl g0, gl g3, gl g5, gl g17⟩
            · have hr := hk
              clear hk
              obtain ⟨v4_2, m_10⟩ := o
              rintro _ mm t_3 ⟨rfl, rfl, g4, g0, g3, g5, g17⟩
              refine bk_norm ?_
              refine nx_norm ?_
              refine w_ops ?_
              have hq := forceI_inv hr
              clear hr
              obtain ⟨x55, e55, hr⟩ := hq
              refine wo_step (v := (.i .i64 x55)) (s_pure (p_bin g17 rfl (b_add.trans (ci e55)))) ?_
              refine wo_step (v := (.i .i64 x55)) (s_pure (p_mv rfl)) ?_
              refine wo_nil ?_
              cases hr
              exact ⟨_, _, rfl, rfl, rfl, gl g4, gl rfl, gl g0, gl g3, gl g5⟩
        · refine w_condF rfl ?_
          refine w_exit ?_
          refine nx_exit ?_
          cases hr
          exact ⟨_, _, rfl, ne_norm_exit, rfl, rfl, gl g4, gl g0, gl g3, gl g5⟩
      · rcases o_1 with o_1 | o_1
        · obtain ⟨v4_3, m_11⟩ := o_1
          rintro _ mm_1 t_4 ⟨rfl, rfl, g4, g0, g3, g5⟩
          refine bk_hit ?_
          refine bk_norm ?_
          refine nx_norm ?_
          refine w_ops ?_
          refine wo_step (v := (.i .i64 x5)) (s_pure (p_mv g5)) ?_
          have hq := forceI_inv hr
          clear hr
          obtain ⟨x16, e16, hr⟩ := hq
          refine wo_step (v := (.i .i64 x16)) (s_pure (p_bin rfl rfl (b_add.trans (ci e16)))) ?_
          refine wo_step (v := (.i .i64 x16)) (s_pure (p_mv rfl)) ?_
          refine wo_nil ?_
          cases hr
          exact ⟨_, _, rfl, rfl, rfl, gl g4, gl rfl, gl g0, gl g3⟩
        · obtain ⟨s2, m_12⟩ := o_1
          rintro _ mm_2 t_5 ⟨rfl, rfl, g2⟩
          refine bk_ret ?_
          refine bk_ret ?_
          refine nx_ret ?_
          cases hr
          exact ⟨_, _, rfl, ne_norm_ret, rfl, rfl, gl g2⟩
    · refine w_condF rfl ?_
      refine w_exit ?_
      refine nx_exit ?_
      cases hr
      exact ⟨_, _, rfl, ne_norm_exit, rfl, rfl⟩
  · rcases o_2 with o_2 | o_2
    · obtain ⟨m_13, ho⟩ : ∃ z, z = o_2 := ⟨_, rfl⟩
      subst ho
      rintro _ mm_4 t_6 ⟨rfl, rfl⟩
      refine bk_hit ?_
      refine nx_norm ?_
      refine w_seq ?_
      refine w_ops ?_
      refine wo_step (v := (AVal.s [])) (s_pure (p_mv rfl)) ?_
      refine wo_nil ?_
      refine nx_norm ?_
      refine w_ret ?_
      exact qf ret_ok (rt rfl rn) hr
    · obtain ⟨s2_1, m_14⟩ := o_2
      rintro _ mm_5 t_7 ⟨rfl, rfl, g2⟩
      refine bk_ret ?_
      refine nx_ret ?_
      exact qf ret_ok (rt g2 rn) hr

/- dibber/dibberref02.orphan -/
abbrev g63_I0 (x0 : Int) (s : AVal × AVal × Int × Mm) (m1 : Mm) (t1 : Tr) : Prop :=
  match s with
  | (v4, v5, x6, m_4) => m_4 = m1 ∧ t1.get 4 = v4 ∧ t1.get 5 = v5 ∧ t1.get 6 = (.i .i64 x6) ∧ t1.get 0 = (.i .i64 x0)
abbrev g63_J0 (x0 : Int) (o : (Mm ⊕ (List UInt8 × Bool × Mm))) (e : AExit) (m1 : Mm) (t1 : Tr) : Prop :=
  match o with
  | (.inl mo) => e = (.exit 0) ∧ mo = m1
  | (.inr (y2, y3, mo)) => e = .ret ∧ mo = m1 ∧ t1.get 2 = (.s y2) ∧ t1.get 3 = (.b y3)
abbrev g63_I1 (x0 : Int) (x6 : Int) (s : AVal × AVal × Int × Mm) (m1 : Mm) (t1 : Tr) : Prop :=
  match s with
  | (v4_1, v5_1, x7, m_5) => m_5 = m1 ∧ t1.get 4 = v4_1 ∧ t1.get 5 = v5_1 ∧ t1.get 7 = (.i .i64 x7) ∧ t1.get 0 = (.i .i64 x0) ∧ t1.get 6 = (.i .i64 x6)
abbrev g63_J1 (x0 : Int) (x6 : Int) (o : ((AVal × AVal × Mm) ⊕ (List UInt8 × Bool × Mm))) (e : AExit) (m1 : Mm) (t1 : Tr) : Prop :=
  match o with
  | (.inl (y4, y5, mo)) => e = (.exit 2) ∧ mo = m1 ∧ t1.get 4 = y4 ∧ t1.get 5 = y5 ∧ t1.get 0 = (.i .i64 x0) ∧ t1.get 6 = (.i .i64 x6)
  | (.inr (y2, y3, mo)) => e = .ret ∧ mo = m1 ∧ t1.get 2 = (.s y2) ∧ t1.get 3 = (.b y3)
abbrev g63_I2 (x0 : Int) (v4_1 : AVal) (v5_1 : AVal) (x6 : Int) (x7 : Int) (v35 : AVal) (s44 : List UInt8) (m_9 : Mm) (s : Bool × Int) (m1 : Mm) (t1 : Tr) : Prop :=
  match s with
  | (c10, x11) => m_9 = m1 ∧ t1.get 10 = (.b c10) ∧ t1.get 11 = (.i .i64 x11) ∧ t1.get 0 = (.i .i64 x0) ∧ t1.get 4 = v4_1 ∧ t1.get 5 = v5_1 ∧ t1.get 6 = (.i .i64 x6) ∧ t1.get 7 = (.i .i64 x7) ∧ t1.get 8 = v35 ∧ t1.get 9 = (.s s44)
abbrev g63_J2 (x0 : Int) (v4_1 : AVal) (v5_1 : AVal) (x6 : Int) (x7 : Int) (v35 : AVal) (s44 : List UInt8) (m_9 : Mm) (o : Bool) (e : AExit) (m1 : Mm) (t1 : Tr) : Prop :=
  match o with
  | y10 => e = (.exit 4) ∧ m_9 = m1 ∧ t1.get 10 = (.b y10) ∧ t1.get 0 = (.i .i64 x0) ∧ t1.get 4 = v4_1 ∧ t1.get 5 = v5_1 ∧ t1.get 6 = (.i .i64 x6) ∧ t1.get 7 = (.i .i64 x7) ∧ t1.get 8 = v35 ∧ t1.get 9 = (.s s44)
abbrev g63_I3 (x0 : Int) (v4_1 : AVal) (v5_1 : AVal) (x6 : Int) (x7 : Int) (v35 : AVal) (s44 : List UInt8) (c10 : Bool) (x11 : Int) (m_9 : Mm) (s : Bool × Int) (m1 : Mm) (t1 : Tr) : Prop :=
  match s with
  | (c12, x13) => m_9 = m1 ∧ t1.get 12 = (.b c12) ∧ t1.get 13 = (.i .i64 x13) ∧ t1.get 0 = (.i .i64 x0) ∧ t1.get 4 = v4_1 ∧ t1.get 5 = v5_1 ∧ t1.get 6 = (.i .i64 x6) ∧ t1.get 7 = (.i .i64 x7) ∧ t1.get 8 = v35 ∧ t1.get 9 = (.s s44) ∧ t1.get 10 = (.b c10) ∧ t1.get 11 = (.i .i64 x11)
abbrev g63_J3 (x0 : Int) (v4_1 : AVal) (v5_1 : AVal) (x6 : Int) (x7 : Int) (v35 : AVal) (s44 : List UInt8) (c10 : Bool) (x11 : Int) (m_9 : Mm) (o : Bool) (e : AExit) (m1 : Mm) (t1 : Tr) : Prop :=
  match o with
  | y12 => e = (.exit 6) ∧ m_9 = m1 ∧ t1.get 12 = (.b y12) ∧ t1.get 0 = (.i .i64 x0) ∧ t1.get 4 = v4_1 ∧ t1.get 5 = v5_1 ∧ t1.get 6 = (.i .i64 x6) ∧ t1.get 7 = (.i .i64 x7) ∧ t1.get 8 = v35 ∧ t1.get 9 = (.s s44) ∧ t1.get 10 = (.b c10) ∧ t1.get 11 = (.i .i64 x11)
abbrev g63_J4 (x0 : Int) (v4_1 : AVal) (v5_1 : AVal) (x6 : Int) (x7 : Int) (v35 : AVal) (s44 : List UInt8) (c10 : Bool) (x11 : Int) (x13 : Int) (m_9 : Mm) (o : Bool) (m1 : Mm) (t1 : Tr) : Prop :=
  match o with
  | c73 => m_9 = m1 ∧ t1.get 73 = (.b c73) ∧ t1.get 0 = (.i .i64 x0) ∧ t1.get 4 = v4_1 ∧ t1.get 5 = v5_1 ∧ t1.get 6 = (.i .i64 x6) ∧ t1.get 7 = (.i .i64 x7) ∧ t1.get 8 = v35 ∧ t1.get 9 = (.s s44) ∧ t1.get 10 = (.b c10) ∧ t1.get 11 = (.i .i64 x11) ∧ t1.get 13 = (.i .i64 x13)
def g63_b3 (M : Means) (ro : List ABlk) (x0 : Int) (v4_1 : AVal) (v5_1 : AVal) (x6 : Int) (x7 : Int) (v35 : AVal) (s44 : List UInt8) (c10 : Bool) (x11 : Int) (m_9 : Mm) (c12 : Bool) (x13 : Int) : Option ((Bool × Int) ⊕ (Bool)) :=
  forceB (ltI x13 4) fun c56 =>
  cond c56 (
    bindO (cond c12 (
      bindO (evP .e (.ixS 1 (.c v4_1) (.c (.i .i64 x11)))) fun v63 =>
      bindO (ldA ro m_9.h true 1 v63) fun v64 =>
      bindO (evP .e (.ixS 1 (.c v64) (.c (.i .i64 x13)))) fun v66 =>
      bindO (ldA ro m_9.h true 1 v66) fun v67 =>
      asI .i64 v67 fun x67 =>
      bindO (evP .e (.ixS 1 (.c v35) (.c (.i .i64 x13)))) fun v70 =>
      bindO (ldA ro m_9.h true 1 v70) fun v71 =>
      asI .i64 v71 fun x71 =>
      forceB (eqI x67 x71) fun c72 =>
      some c72) (
      some false)) fun c73 =>
    forceI (wr .i64 (x13 + 1)) fun x58 =>
    some (.inl (c73, x58))) (
    some (.inr c12))
abbrev g63_J5 (x0 : Int) (v4_1 : AVal) (v5_1 : AVal) (x6 : Int) (x7 : Int) (v35 : AVal) (s44 : List UInt8) (x11 : Int) (m_9 : Mm) (o : Bool) (m1 : Mm) (t1 : Tr) : Prop :=
  match o with
  | c78 => m_9 = m1 ∧ t1.get 78 = (.b c78) ∧ t1.get 0 = (.i .i64 x0) ∧ t1.get 4 = v4_1 ∧ t1.get 5 = v5_1 ∧ t1.get 6 = (.i .i64 x6) ∧ t1.get 7 = (.i .i64 x7) ∧ t1.get 8 = v35 ∧ t1.get 9 = (.s s44) ∧ t1.get 11 = (.i .i64 x11)
def g63_b2 (M : Means) (ro : List ABlk) (x0 : Int) (v4_1 : AVal) (v5_1 : AVal) (x6 : Int) (x7 : Int) (v35 : AVal) (s44 : List UInt8) (m_9 : Mm) (c10 : Bool) (x11 : Int) : Option ((Bool × Int) ⊕ (Bool)) :=
  bindO (evP .e (.len false (.c v4_1))) fun v51 =>
  asI .i64 v51 fun x51 =>
  forceB (ltI x11 x51) fun c52 =>
  cond c52 (
    bindO (M.loop (S := Bool × Int) (R := Bool) (fun s => g63_b3 M ro x0 v4_1 v5_1 x6 x7 v35 s44 c10 x11 m_9 s.1 s.2) (true, 0)) fun c12_1 =>
    bindO (cond c10 (
      forceB (!c12_1) fun c77 =>
      some c77) (
      some false)) fun c78 =>
    forceI (wr .i64 (x11 + 1)) fun x54 =>
    some (.inl (c78, x54))) (
    some (.inr c10))
abbrev g63_J6 (x0 : Int) (x6 : Int) (x7 : Int) (o : (AVal × AVal × Mm)) (e : AExit) (m1 : Mm) (t1 : Tr) : Prop :=
  match o with
  | (y4, y5, mo) => e = .norm ∧ mo = m1 ∧ t1.get 4 = y4 ∧ t1.get 5 = y5 ∧ t1.get 0 = (.i .i64 x0) ∧ t1.get 6 = (.i .i64 x6) ∧ t1.get 7 = (.i .i64 x7)
def g63_b1 (M : Means) (ro : List ABlk) (x0 : Int) (x6 : Int) (v4_1 : AVal) (v5_1 : AVal) (x7 : Int) (m_5 : Mm) : Option ((AVal × AVal × Int × Mm) ⊕ (((AVal × AVal × Mm) ⊕ (List UInt8 × Bool × Mm)))) :=
  forceB (ltI x7 2) fun c24 =>
  cond c24 (
    bindP (stepM ro m_5 (.bsl 3 1 [(AVal.i IntKind.i64 0)] 1 [((0, 1), .c (.i .i64 x7))])) fun v29 m_6 =>
    bindO (evP .e (.ixS 1 (.c v4_1) (.c (.i .i64 x6)))) fun v32 =>
    bindO (ldM ro m_6 true 1 v32) fun v33 =>
    bindP (callM M.call m_6 59 [(.i .i64 x0), v29, v33]) fun v34 m_7 =>
    bindP (callM M.call m_7 77 [v34]) fun v35 m_8 =>
    bindO (evP .e (.ixS 1 (.c v5_1) (.c (.i .i64 x6)))) fun v38 =>
    forceI (wr .i64 (x7 + 1)) fun x42 =>
    bindO (evP .e (.slStr (.c (AVal.s [48, 49])) (some (.c (.i .i64 x7))) (some (.c (.i .i64 x42))))) fun v43 =>
    asS v43 fun s43 =>
    bindO (ldM ro m_8 true 1 v38) fun v39 =>
    asS v39 fun s39 =>
    bindO (evP .e (.sbin BinOp.add (.c (.s s39)) (.c (.s s43)))) fun v44 =>
    asS v44 fun s44 =>
    bindP (callM M.call m_8 58 [v35]) fun v46 m_9 =>
    asI .i64 v46 fun x46 =>
    forceB (eqI x46 0) fun c47 =>
    cond c47 (
      some (.inr (.inr (s44, true, m_9)))) (
      bindO (M.loop (S := Bool × Int) (R := Bool) (fun s => g63_b2 M ro x0 v4_1 v5_1 x6 x7 v35 s44 m_9 s.1 s.2) (true, 0)) fun c10_1 =>
      bindO (α := (AVal × AVal × Mm)) (
        cond c10_1 (
          bindP (stepM ro m_9 (.bsl 55 1 [AVal.nsl] 1 [((0, 1), .c v35)])) fun v82 m_10 =>
          bindP (stepM ro m_10 (.app 55 1 24 [AVal.nsl] (.c v4_1) (.c v82))) fun v83 m_11 =>
          bindP (stepM ro m_11 (.bsl 9 1 [(AVal.s [])] 1 [((0, 1), .c (.s s44))])) fun v86 m_12 =>
          bindP (stepM ro m_12 (.app 9 1 16 [(AVal.s [])] (.c v5_1) (.c v86))) fun v87 m_13 =>
          some (v83, v87, m_13)) (
          some (v4_1, v5_1, m_9))) fun ⟨v4_2, v5_2, m_14⟩ =>
      forceI (wr .i64 (x7 + 1)) fun x26 =>
      some (.inl (v4_2, v5_2, x26, m_14)))) (
    some (.inr (.inl (v4_1, v5_1, m_5))))
def g63_b0 (M : Means) (ro : List ABlk) (x0 : Int) (v4 : AVal) (v5 : AVal) (x6 : Int) (m_4 : Mm) : Option ((AVal × AVal × Int × Mm) ⊕ ((Mm ⊕ (List UInt8 × Bool × Mm)))) :=
  bindO (evP .e (.len false (.c v4))) fun v19 =>
  asI .i64 v19 fun x19 =>
  forceB (ltI x6 x19) fun c20 =>
  cond c20 (
    bindO (M.loop (S := AVal × AVal × Int × Mm) (R := ((AVal × AVal × Mm) ⊕ (List UInt8 × Bool × Mm))) (fun s => g63_b1 M ro x0 x6 s.1 s.2.1 s.2.2.1 s.2.2.2) (v4, v5, 0, m_4)) fun o_5 => match o_5 with
    | (.inl (v4_3, v5_3, m_15)) =>
      forceI (wr .i64 (x6 + 1)) fun x22 =>
      some (.inl (v4_3, v5_3, x22, m_15))
    | (.inr (s2, c3, m_16)) =>
      some (.inr (.inr (s2, c3, m_16)))) (
    some (.inr (.inl m_4)))
def g63 (M : Means) (ro : List ABlk) (x0 : Int) (m0 : Mm) : Option (AVal × Heap × Nat × Nat) :=
  bindP (stepM ro m0 (.bsl 3 1 [(AVal.i IntKind.i64 0)] 4 [((0, 1), .c (.i .i64 1)), ((1, 1), .c (.i .i64 1)), ((2, 1), .c (.i .i64 1)), ((3, 1), .c (.i .i64 1))])) fun v14 m_1 =>
  bindP (stepM ro m_1 (.bsl 55 1 [AVal.nsl] 1 [((0, 1), .c v14)])) fun v15 m_2 =>
  bindP (stepM ro m_2 (.bsl 9 1 [(AVal.s [])] 1 [((0, 1), .c (AVal.s []))])) fun v16 m_3 =>
  bindO (M.loop (S := AVal × AVal × Int × Mm) (R := (Mm ⊕ (List UInt8 × Bool × Mm))) (fun s => g63_b0 M ro x0 s.1 s.2.1 s.2.2.1 s.2.2.2) (v15, v16, 0, m_3)) fun o_6 => match o_6 with
  | (.inl m_17) =>
    finM m0.h.length (tupA [(AVal.s []), (.b false)]) m_17
  | (.inr (s2_1, c3_1, m_18)) =>
    finM m0.h.length (tupA [(.s s2_1), (.b c3_1)]) m_18

theorem g63_ok {ro : List ABlk} {O : Caller} {M : Means} (hM : M.Ok ⟨F, O⟩ ro) {x0 h r} (ho : O 63 [(.i .i64 x0)] h = none) (hr : g63 M ro x0 ⟨h, h.length, h.length⟩ = some r) : callX ⟨F, O⟩ ro 63 [(.i .i64 x0)] h = some r := by
  refine callX_of (F := ⟨F, O⟩) (fn := fn63) (g := g63 M ro x0) ho rfl rfl hr ?_
  clear ho
  clear hr
  intro m0 t0 ht hr
  have g0 : t0.get 0 = (.i .i64 x0) := ht 0
  clear ht
  unfold g63 at hr
  refine w_seq ?_
  refine w_ops ?_
  refine wo_step (v := (AVal.s [])) (s_pure (p_mv rfl)) ?_
  refine wo_step (v := (.b false)) (s_pure (p_mv rfl)) ?_
  refine wo_nil ?_
  refine nx_norm ?_
  refine w_seq ?_
  refine w_ops ?_
  have hq := bindP_inv hr
  clear hr
  obtain ⟨v14, m_1, e14, hr⟩ := hq
  refine wo_step (v := v14) (s_bsl (qc rfl (qc rfl (qc rfl (qc rfl qn)))) e14) ?_
  have hq := bindP_inv hr
  clear hr
  obtain ⟨v15, m_2, e15, hr⟩ := hq
  refine wo_step (v := v15) (s_bsl (qc rfl qn) e15) ?_
  refine wo_step (v := v15) (s_pure (p_mv rfl)) ?_
  refine wo_nil ?_
  refine nx_norm ?_
  refine w_seq ?_
  refine w_ops ?_
  have hq := bindP_inv hr
  clear hr
  obtain ⟨v16, m_3, e16, hr⟩ := hq
  refine wo_step (v := v16) (s_bsl (qc rfl qn) e16) ?_
  refine wo_step (v := v16) (s_pure (p_mv rfl)) ?_
  refine wo_nil ?_
  refine nx_norm ?_
  refine w_seq ?_
  refine w_seq ?_
  refine w_ops ?_
  refine wo_step (v := (.i .i64 0)) (s_pure (p_mv rfl)) ?_
  refine wo_nil ?_
  refine nx_norm ?_
  refine w_block ?_
  have hq := bindO_inv hr
  clear hr
  obtain ⟨o_6, hl_3, hr⟩ := hq
  obtain ⟨n_3, hl_3⟩ := hM.loop _ _ _ hl_3
  refine jp_mono (w_loop _ (g63_I0 x0) (g63_J0 x0) ?_ n_3 _ _ _ _ hl_3 ⟨rfl, gl rfl, gl rfl, gl rfl, gl g0⟩) ?_
  · clear hr hl_3
    intro s mm_11 t_1 o hi hr
    obtain ⟨v4, v5, x6, m_4⟩ := s
    obtain ⟨rfl, g4, g5, g6, g0⟩ := hi
    unfold g63_b0 at hr
    refine w_seq ?_
    refine w_seq ?_
    refine w_ops ?_
    refine wo_step (v := (.i .i64 x6)) (s_pure (p_mv g6)) ?_
    refine wo_step (v := v4) (s_pure (p_mv g4)) ?_
    have hq := bindO_inv hr
    clear hr
    obtain ⟨v19, e19, hr⟩ := hq
    have hq := asI_inv hr
    clear hr
    obtain ⟨x19, rfl, hr⟩ := hq
    refine wo_step (v := (.i .i64 x19)) (s_pure (o_len rfl e19)) ?_
    have hq := forceB_inv hr
    clear hr
    obtain ⟨c20, e20, hr⟩ := hq
    refine wo_step (v := (.b c20)) (s_pure (p_bin rfl rfl (b_lss.trans (cb e20)))) ?_
    refine wo_nil ?_
    refine nx_norm ?_
    have hq := cond_inv hr
    clear hr
    rcases hq with ⟨rfl, hr⟩ | ⟨rfl, hr⟩
    · refine w_condT rfl ?_
      refine w_skip ?_
      refine nx_norm ?_
      refine w_seq ?_
      refine w_block ?_
      refine w_seq ?_
      refine w_ops ?_
      refine wo_step (v := (.i .i64 0)) (s_pure (p_mv rfl)) ?_
      refine wo_nil ?_
      refine nx_norm ?_
      refine w_block ?_
      have hq := bindO_inv hr
      clear hr
      obtain ⟨o_5, hl_2, hr⟩ := hq
      obtain ⟨n_2, hl_2⟩ := hM.loop _ _ _ hl_2
      refine jp_mono (w_loop _ (g63_I1 x0 x6) (g63_J1 x0 x6) ?_ n_2 _ _ _ _ hl_2 ⟨rfl, gl g4, gl g5, gl rfl, gl g0, gl g6⟩) ?_
      · clear hr hl_2
        intro s mm_8 t_2 o hi hr
        obtain ⟨v4_1, v5_1, x7, m_5⟩ := s
        obtain ⟨rfl, g4, g5, g7, g0, g6⟩ := hi
        unfold g63_b1 at hr
        refine w_seq ?_
        refine w_seq ?_
        refine w_ops ?_
        refine wo_step (v := (.i .i64 x7)) (s_pure (p_mv g7)) ?_
        have hq := forceB_inv hr
        clear hr
        obtain ⟨c24, e24, hr⟩ := hq
        refine wo_step (v := (.b c24)) (s_pure (p_bin rfl rfl (b_lss.trans (cb e24)))) ?_
        refine wo_nil ?_
        refine nx_norm ?_
        have hq := cond_inv hr
        clear hr
        rcases hq with ⟨rfl, hr⟩ | ⟨rfl, hr⟩
        · refine w_condT rfl ?_
          refine w_skip ?_
          refine nx_norm ?_
          refine w_seq ?_
          refine w_block ?_
          refine w_seq ?_
          refine w_ops ?_
          refine wo_step (v := (.i .i64 x0)) (s_pure (p_mv g0)) ?_
          refine wo_step (v := (.i .i64 x7)) (s_pure (p_mv g7)) ?_
          have hq := bindP_inv hr
          clear hr
          obtain ⟨v29, m_6, e29, hr⟩ := hq
          refine wo_step (v := v29) (s_bsl (qc rfl qn) e29) ?_
          refine wo_step (v := v4_1) (s_pure (p_mv g4)) ?_
          refine wo_step (v := (.i .i64 x6)) (s_pure (p_mv g6)) ?_
          have hq := bindO_inv hr
          clear hr
          obtain ⟨v32, e32, hr⟩ := hq
          refine wo_step (v := v32) (s_pure (o_ixS rfl rfl e32)) ?_
          have hq := bindO_inv hr
          clear hr
          obtain ⟨v33, e33, hr⟩ := hq
          refine wo_step (v := v33) (s_ld rfl e33) ?_
          have hq := bindP_inv hr
          clear hr
          obtain ⟨v34, m_7, e34, hr⟩ := hq
          refine wo_step (v := v34) (s_call (mc rfl (mc rfl (mc rfl mn))) (callM_le hM.call e34)) ?_
          have hq := bindP_inv hr
          clear hr
          obtain ⟨v35, m_8, e35, hr⟩ := hq
          refine wo_step (v := v35) (s_call (mc rfl mn) (callM_le hM.call e35)) ?_
          refine wo_step (v := v35) (s_pure (p_mv rfl)) ?_
          refine wo_nil ?_
          refine nx_norm ?_
          refine w_seq ?_
          refine w_ops ?_
          refine wo_step (v := v5_1) (s_pure (p_mv g5)) ?_
          refine wo_step (v := (.i .i64 x6)) (s_pure (p_mv g6)) ?_
          have hq := bindO_inv hr
          clear hr
          obtain ⟨v38, e38, hr⟩ := hq
          refine wo_step (v := v38) (s_pure (o_ixS rfl rfl e38)) ?_
          refine wo_step (v := (.i .i64 x7)) (s_pure (p_mv g7)) ?_
          refine wo_step (v := (.i .i64 x7)) (s_pure (p_mv g7)) ?_
          have hq := forceI_inv hr
          clear hr
          obtain ⟨x42, e42, hr⟩ := hq
          refine wo_step (v := (.i .i64 x42)) (s_pure (p_bin rfl rfl (b_add.trans (ci e42)))) ?_
          have hq := bindO_inv hr
          clear hr
          obtain ⟨v43, e43, hr⟩ := hq
          have hq := asS_inv hr
          clear hr
          obtain ⟨s43, rfl, hr⟩ := hq
          refine wo_step (v := (.s s43)) (s_pure (o_slStr rfl (os rfl) (os rfl) e43)) ?_
          have hq := bindO_inv hr
          clear hr
          obtain ⟨v39, e39, hr⟩ := hq
          have hq := asS_inv hr
          clear hr
          obtain ⟨s39, rfl, hr⟩ := hq
          refine wo_step (v := (.s s39)) (s_ld rfl e39) ?_
          have hq := bindO_inv hr
          clear hr
          obtain ⟨v44, e44, hr⟩ := hq
          have hq := asS_inv hr
          clear hr
          obtain ⟨s44, rfl, hr⟩ := hq
          refine wo_step (v := (.s s44)) (s_pure (o_sbin rfl rfl e44)) ?_
          refine wo_step (v := (.s s44)) (s_pure (p_mv rfl)) ?_
          refine wo_nil ?_
          refine nx_norm ?_
          refine w_seq ?_
          refine w_seq ?_
          refine w_ops ?_
          refine wo_step (v := v35) (s_pure (p_mv rfl)) ?_
          have hq := bindP_inv hr
          clear hr
          obtain ⟨v46, m_9, e46, hr⟩ := hq
          have hq := asI_inv hr
          clear hr
          obtain ⟨x46, rfl, hr⟩ := hq
          refine wo_step (v := (.i .i64 x46)) (s_call (mc rfl mn) (callM_le hM.call e46)) ?_
          have hq := forceB_inv hr
          clear hr
          obtain ⟨c47, e47, hr⟩ := hq
          refine wo_step (v := (.b c47)) (s_pure (p_bin rfl rfl (b_eql.trans (cb e47)))) ?_
          refine wo_nil ?_
          refine nx_norm ?_
          have hq := cond_inv hr
          clear hr
          rcases hq with ⟨rfl, hr⟩ | ⟨rfl, hr⟩
          · refine w_condT rfl ?_
            refine w_seq ?_
            refine w_ops ?_
            refine wo_step (v := (.s s44)) (s_pure (p_mv rfl)) ?_
            refine wo_step (v := (.s s44)) (s_pure (p_mv rfl)) ?_
            refine wo_step (v := (.b true)) (s_pure (p_mv rfl)) ?_
            refine wo_nil ?_
            refine nx_norm ?_
            refine w_ret ?_
            refine nx_ret ?_
            refine bk_ret ?_
            refine nx_ret ?_
            cases hr
            exact ⟨_, _, rfl, ne_norm_ret, rfl, rfl, gl rfl, gl rfl⟩
          · refine w_condF rfl ?_
            refine w_skip ?_
            refine nx_norm ?_
            refine w_seq ?_
            refine w_ops ?_
            refine wo_step (v := (.b true)) (s_pure (p_mv rfl)) ?_
            refine wo_nil ?_
            refine nx_norm ?_
            refine w_seq ?_
            refine w_seq ?_
            refine w_ops ?_
            refine wo_step (v := (.i .i64 0)) (s_pure (p_mv rfl)) ?_
            refine wo_nil ?_
            refine nx_norm ?_
            refine w_block ?_
            have hq := bindO_inv hr
            clear hr
            obtain ⟨o_3, hl_1, hr⟩ := hq
            obtain ⟨n_1, hl_1⟩ := hM.loop _ _ _ hl_1
            refine jp_mono (w_loop _ (g63_I2 x0 v4_1 v5_1 x6 x7 v35 s44 m_9) (g63_J2 x0 v4_1 v5_1 x6 x7 v35 s44 m_9) ?_ n_1 _ _ _ _ hl_1 ⟨rfl, gl rfl, gl rfl, gl g0, gl g4, gl g5, gl g6, gl g7, gl rfl, gl rfl⟩) ?_
            · clear hr hl_1
              intro s mm_5 t_3 o hi hr
              obtain ⟨c10, x11⟩ := s
              obtain ⟨rfl, g10, g11, g0, g4, g5, g6, g7, g8, g9⟩ := hi
              unfold g63_b2 at hr
              refine w_seq ?_
              refine w_seq ?_
              refine w_ops ?_
              refine wo_step (v := (.i .i64 x11)) (s_pure (p_mv g11)) ?_
              refine wo_step (v := v4_1) (s_pure (p_mv g4)) ?_
              have hq := bindO_inv hr
              clear hr
              obtain ⟨v51, e51, hr⟩ := hq
              have hq := asI_inv hr
              clear hr
              obtain ⟨x51, rfl, hr⟩ := hq
              refine wo_step (v := (.i .i64 x51)) (s_pure (o_len rfl e51)) ?_
              have hq := forceB_inv hr
              clear hr
              obtain ⟨c52, e52, hr⟩ := hq
              refine wo_step (v := (.b c52)) (s_pure (p_bin rfl rfl (b_lss.trans (cb e52)))) ?_
              refine wo_nil ?_
              refine nx_norm ?_
              have hq := cond_inv hr
              clear hr
              rcases hq with ⟨rfl, hr⟩ | ⟨rfl, hr⟩
              · refine w_condT rfl ?_
                refine w_skip ?_
                refine nx_norm ?_
                refine w_seq ?_
                refine w_block ?_
                refine w_seq ?_
                refine w_ops ?_
                refine wo_step (v := (.b true)) (s_pure (p_mv rfl)) ?_
                refine wo_nil ?_
                refine nx_norm ?_
                refine w_seq ?_
                refine w_seq ?_
                refine w_ops ?_
                refine wo_step (v := (.i .i64 0)) (s_pure (p_mv rfl)) ?_
                refine wo_nil ?_
                refine nx_norm ?_
                refine w_block ?_
                have hq := bindO_inv hr
                clear hr
                obtain ⟨o_1, hl, hr⟩ := hq
                obtain ⟨n, hl⟩ := hM.loop _ _ _ hl
                refine jp_mono (w_loop _ (g63_I3 x0 v4_1 v5_1 x6 x7 v35 s44 c10 x11 m_9) (g63_J3 x0 v4_1 v5_1 x6 x7 v35 s44 c10 x11 m_9) ?_ n _ _ _ _ hl ⟨rfl, gl rfl, gl rfl, gl g0, gl g4, gl g5, gl g6, gl g7, gl g8, gl g9, gl g10, gl g11⟩) ?_
                · clear hr hl
                  intro s mm_2 t_4 o hi hr
                  obtain ⟨c12, x13⟩ := s
                  obtain ⟨rfl, g12, g13, g0, g4, g5, g6, g7, g8, g9, g10, g11⟩ := hi
                  unfold g63_b3 at hr
                  refine w_seq ?_
                  refine w_seq ?_
                  refine w_ops ?_
                  refine wo_step (v := (.i .i64 x13)) (s_pure (p_mv g13)) ?_
                  have hq := forceB_inv hr
                  clear hr
                  obtain ⟨c56, e56, hr⟩ := hq
                  refine wo_step (v := (.b c56)) (s_pure (p_bin rfl rfl (b_lss.trans (cb e56)))) ?_
                  refine wo_nil ?_
                  refine nx_norm ?_
                  have hq := cond_inv hr
                  clear hr
                  rcases hq with ⟨rfl, hr⟩ | ⟨rfl, hr⟩
                  · refine w_condT rfl ?_
                    refine w_skip ?_
                    refine nx_norm ?_
                    refine w_seq ?_
                    refine w_block ?_
                    refine w_any ?_
                    refine wa_step (v := (.b c12)) (a_pure (p_mv g12)) ?_
                    refine wa_step (v := (.b c12)) (a_pure (p_mv rfl)) ?_
                    have hq := bindO_inv hr
                    clear hr
                    obtain ⟨o, hr, hk⟩ := hq
                    refine wa_join 13 (JA (g63_J4 x0 v4_1 v5_1 x6 x7 v35 s44 c10 x11 x13 m_9 o) m_9 (m_9.h) [] []) ?_ ?_
                    · clear hk
                      have hq := cond_inv hr
                      clear hr
                      rcases hq with ⟨rfl, hr⟩ | ⟨rfl, hr⟩
                      · refine wa_take (v := v4_1) rfl (a_pure (p_mv g4)) ?_
                        refine wa_take (v := (.i .i64 x11)) rfl (a_pure (p_mv g11)) ?_
                        have hq := bindO_inv hr
                        clear hr
                        obtain ⟨v63, e63, hr⟩ := hq
                        refine wa_take (v := v63) rfl (a_pure (o_ixS rfl rfl e63)) ?_
                        have hq := bindO_inv hr
                        clear hr
                        obtain ⟨v64, e64, hr⟩ := hq
                        refine wa_take (v := v64) rfl (a_ld rfl e64) ?_
                        refine wa_take (v := (.i .i64 x13)) rfl (a_pure (p_mv g13)) ?_
                        have hq := bindO_inv hr
                        clear hr
                        obtain ⟨v66, e66, hr⟩ := hq
                        refine wa_take (v := v66) rfl (a_pure (o_ixS rfl rfl e66)) ?_
                        have hq := bindO_inv hr
                        clear hr
                        obtain ⟨v67, e67, hr⟩ := hq
                        have hq := asI_inv hr
                        clear hr
                        obtain ⟨x67, rfl, hr⟩ := hq
                        refine wa_take (v := (.i .i64 x67)) rfl (a_ld rfl e67) ?_
                        refine wa_take (v := v35) rfl (a_pure (p_mv g8)) ?_
                        refine wa_take (v := (.i .i64 x13)) rfl (a_pure (p_mv g13)) ?_
                        have hq := bindO_inv hr
                        clear hr
                        obtain ⟨v70, e70, hr⟩ := hq
                        refine wa_take (v := v70) rfl (a_pure (o_ixS rfl rfl e70)) ?_
                        have hq := bindO_inv hr
                        clear hr
                        obtain ⟨v71, e71, hr⟩ := hq
                        have hq := asI_inv hr
                        clear hr
                        obtain ⟨x71, rfl, hr⟩ := hq
                        refine wa_take (v := (.i .i64 x71)) rfl (a_ld rfl e71) ?_
                        have hq := forceB_inv hr
                        clear hr
                        obtain ⟨c72, e72, hr⟩ := hq
                        refine wa_take (v := (.b c72)) rfl (a_pure (p_bin rfl rfl (b_eql.trans (cb e72)))) ?_
                        refine wa_step (v := (.b c72)) (a_pure (p_pickT rfl rfl)) ?_
                        refine wa_nil ?_
                        cases hr
                        exact ja_in ⟨rfl, gl rfl, gl g0, gl g4, gl g5, gl g6, gl g7, gl g8, gl g9, gl g10, gl g11, gl g13⟩
                      · refine wa_skip (v := (.b false)) rfl rfl ?_
                        refine wa_skip (v := (.b false)) rfl rfl ?_
                        refine wa_skip (v := (.b false)) rfl rfl ?_
                        refine wa_skip (v := (.b false)) rfl rfl ?_
                        refine wa_skip (v := (.b false)) rfl rfl ?_
                        refine wa_skip (v := (.b false)) rfl rfl ?_
                        refine wa_skip (v := (.b false)) rfl rfl ?_
                        refine wa_skip (v := (.b false)) rfl rfl ?_
                        refine wa_skip (v := (.b false)) rfl rfl ?_
                        refine wa_skip (v := (.b false)) rfl rfl ?_
                        refine wa_skip (v := (.b false)) rfl rfl ?_
                        refine wa_skip (v := (.b false)) rfl rfl ?_
                        refine wa_step (v := (.b false)) (a_pure (p_pickF rfl rfl)) ?_
                        refine wa_nil ?_
                        cases hr
                        exact ja_in ⟨rfl, gl rfl, gl g0, gl g4, gl g5, gl g6, gl g7, gl g8, gl g9, gl g10, gl g11, gl g13⟩
                    · clear hr
                      have hr := hk
                      clear hk
                      obtain ⟨c73, ho⟩ : ∃ z, z = o := ⟨_, rfl⟩
                      subst ho
                      refine ja_out ?_
                      rintro t_5 ⟨-, g73, g0, g4, g5, g6, g7, g8, g9, g10, g11, g13⟩
                      refine wa_step (v := (.b c73)) (a_pure (p_mv g73)) ?_
                      refine wa_nil ?_
                      refine ⟨m_9, rfl, ?_⟩
                      refine bk_norm ?_
                      refine nx_norm ?_
                      refine w_ops ?_
                      refine wo_step (v := (.i .i64 x13)) (s_pure (p_mv g13)) ?_
                      have hq := forceI_inv hr
                      clear hr
                      obtain ⟨x58, e58, hr⟩ := hq
                      refine wo_step (v := (.i .i64 x58)) (s_pure (p_bin rfl rfl (b_add.trans (ci e58)))) ?_
                      refine wo_step (v := (.i .i64 x58)) (s_pure (p_mv rfl)) ?_
                      refine wo_nil ?_
                      cases hr
                      exact ⟨_, _, rfl, rfl, rfl, gl rfl, gl rfl, gl g0, gl g4, gl g5, gl g6, gl g7, gl g8, gl g9, gl g10, gl g11⟩
                  · refine w_condF rfl ?_
                    refine w_exit ?_
                    refine nx_exit ?_
                    cases hr
                    exact ⟨_, _, rfl, ne_norm_exit, rfl, rfl, gl g12, gl g0, gl g4, gl g5, gl g6, gl g7, gl g8, gl g9, gl g10, gl g11⟩
                · obtain ⟨c12_1, ho⟩ : ∃ z, z = o_1 := ⟨_, rfl⟩
                  subst ho
                  rintro _ mm_1 t_6 ⟨rfl, rfl, g12, g0, g4, g5, g6, g7, g8, g9, g10, g11⟩
                  refine bk_hit ?_
                  refine nx_norm ?_
                  refine w_ops ?_
                  refine wo_step (v := (.b c10)) (s_pure (p_mv g10)) ?_
                  refine wo_step (v := (.b c10)) (s_pure (p_mv rfl)) ?_
                  have hq := bindO_inv hr
                  clear hr
                  obtain ⟨o_2, hr, hk⟩ := hq
                  refine wo_join 3 (g63_J5 x0 v4_1 v5_1 x6 x7 v35 s44 x11 m_9 o_2) ?_ ?_
                  · clear hk
                    have hq := cond_inv hr
                    clear hr
                    rcases hq with ⟨rfl, hr⟩ | ⟨rfl, hr⟩
                    · refine wo_take (v := (.b c12_1)) rfl (s_pure (p_mv g12)) ?_
                      have hq := forceB_inv hr
                      clear hr
                      obtain ⟨c77, e77, hr⟩ := hq
                      refine wo_take (v := (.b c77)) rfl (s_pure ((p_not rfl).trans (cb e77))) ?_
                      refine wo_step (v := (.b c77)) (s_pure (p_pickT rfl rfl)) ?_
                      refine wo_nil ?_
                      cases hr
                      exact ⟨_, _, rfl, rfl, gl rfl, gl g0, gl g4, gl g5, gl g6, gl g7, gl g8, gl g9, gl g11⟩
                    · refine wo_skip (v := (.b false)) rfl rfl ?_
                      refine wo_skip (v := (.b false)) rfl rfl ?_
                      refine wo_step (v := (.b false)) (s_pure (p_pickF rfl rfl)) ?_
                      refine wo_nil ?_
                      cases hr
                      exact ⟨_, _, rfl, rfl, gl rfl, gl g0, gl g4, gl g5, gl g6, gl g7, gl g8, gl g9, gl g11⟩
                  · clear hr
                    have hr := hk
                    clear hk
                    obtain ⟨c78, ho⟩ : ∃ z, z = o_2 := ⟨_, rfl⟩
                    subst ho
                    rintro mm t_7 ⟨rfl, g78, g0, g4, g5, g6, g7, g8, g9, g11⟩
                    refine wo_step (v := (.b c78)) (s_pure (p_mv g78)) ?_
                    refine wo_nil ?_
                    refine bk_norm ?_
                    refine nx_norm ?_
                    refine w_ops ?_
                    refine wo_step (v := (.i .i64 x11)) (s_pure (p_mv g11)) ?_
                    have hq := forceI_inv hr
                    clear hr
                    obtain ⟨x54, e54, hr⟩ := hq
                    refine wo_step (v := (.i .i64 x54)) (s_pure (p_bin rfl rfl (b_add.trans (ci e54)))) ?_
                    refine wo_step (v := (.i .i64 x54)) (s_pure (p_mv rfl)) ?_
                    refine wo_nil ?_
                    cases hr
                    exact ⟨_, _, rfl, rfl, rfl, gl rfl, gl rfl, gl g0, gl g4, gl g5, gl g6, gl g7, gl g8, gl g9⟩
              · refine w_condF rfl ?_
                refine w_exit ?_
                refine nx_exit ?_
                cases hr
                exact ⟨_, _, rfl, ne_norm_exit, rfl, rfl, gl g10, gl g0, gl g4, gl g5, gl g6, gl g7, gl g8, gl g9⟩
            · obtain ⟨c10_1, ho⟩ : ∃ z, z = o_3 := ⟨_, rfl⟩
              subst ho
              rintro _ mm_4 t_8 ⟨rfl, rfl, g10, g0, g4, g5, g6, g7, g8, g9⟩
              refine bk_hit ?_
              refine nx_norm ?_
              refine w_seq ?_
              refine w_ops ?_
              refine wo_step (v := (.b c10_1)) (s_pure (p_mv g10)) ?_
              refine wo_nil ?_
              refine nx_norm ?_
              have hq := bindO_inv hr
              clear hr
              obtain ⟨o_4, hr, hk⟩ := hq
              refine jp_mono (J := g63_J6 x0 x6 x7 o_4) ?_ ?_
              · clear hk
                have hq := cond_inv hr
                clear hr
                rcases hq with ⟨rfl, hr⟩ | ⟨rfl, hr⟩
                · refine w_condT rfl ?_
                  refine w_seq ?_
                  refine w_ops ?_
                  refine wo_step (v := v4_1) (s_pure (p_mv g4)) ?_
                  refine wo_step (v := v35) (s_pure (p_mv g8)) ?_
                  have hq := bindP_inv hr
                  clear hr
                  obtain ⟨v82, m_10, e82, hr⟩ := hq
                  refine wo_step (v := v82) (s_bsl (qc rfl qn) e82) ?_
                  have hq := bindP_inv hr
                  clear hr
                  obtain ⟨v83, m_11, e83, hr⟩ := hq
                  refine wo_step (v := v83) (s_app rfl rfl e83) ?_
                  refine wo_step (v := v83) (s_pure (p_mv rfl)) ?_
                  refine wo_nil ?_
                  refine nx_norm ?_
                  refine w_ops ?_
                  refine wo_step (v := v5_1) (s_pure (p_mv g5)) ?_
                  refine wo_step (v := (.s s44)) (s_pure (p_mv g9)) ?_
                  have hq := bindP_inv hr
                  clear hr
                  obtain ⟨v86, m_12, e86, hr⟩ := hq
                  refine wo_step (v := v86) (s_bsl (qc rfl qn) e86) ?_
                  have hq := bindP_inv hr
                  clear hr
                  obtain ⟨v87, m_13, e87, hr⟩ := hq
                  refine wo_step (v := v87) (s_app rfl rfl e87) ?_
                  refine wo_step (v := v87) (s_pure (p_mv rfl)) ?_
                  refine wo_nil ?_
                  cases hr
                  exact ⟨_, _, rfl, rfl, rfl, gl rfl, gl rfl, gl g0, gl g6, gl g7⟩
                · refine w_condF rfl ?_
                  refine w_skip ?_
                  cases hr
                  exact ⟨_, _, rfl, rfl, rfl, gl g4, gl g5, gl g0, gl g6, gl g7⟩
              · have hr := hk
                clear hk
                obtain ⟨v4_2, v5_2, m_14⟩ := o_4
                rintro _ mm_3 t_9 ⟨rfl, rfl, g4, g5, g0, g6, g7⟩
                refine bk_norm ?_
                refine nx_norm ?_
                refine w_ops ?_
                refine wo_step (v := (.i .i64 x7)) (s_pure (p_mv g7)) ?_
                have hq := forceI_inv hr
                clear hr
                obtain ⟨x26, e26, hr⟩ := hq
                refine wo_step (v := (.i .i64 x26)) (s_pure (p_bin rfl rfl (b_add.trans (ci e26)))) ?_
                refine wo_step (v := (.i .i64 x26)) (s_pure (p_mv rfl)) ?_
                refine wo_nil ?_
                cases hr
                exact ⟨_, _, rfl, rfl, rfl, gl g4, gl g5, gl rfl, gl g0, gl g6⟩
        · refine w_condF rfl ?_
          refine w_exit ?_
          refine nx_exit ?_
          cases hr
          exact ⟨_, _, rfl, ne_norm_exit, rfl, rfl, gl g4, gl g5, gl g0, gl g6⟩
      · rcases o_5 with o_5 | o_5
        · obtain ⟨v4_3, v5_3, m_15⟩ := o_5
          rintro _ mm_6 t_10 ⟨rfl, rfl, g4, g5, g0, g6⟩
          refine bk_hit ?_
          refine bk_norm ?_
          refine nx_norm ?_
          refine w_ops ?_
          refine wo_step (v := (.i .i64 x6)) (s_pure (p_mv g6)) ?_
          have hq := forceI_inv hr
          clear hr
          obtain ⟨x22, e22, hr⟩ := hq
          refine wo_step (v := (.i .i64 x22)) (s_pure (p_bin rfl rfl (b_add.trans (ci e22)))) ?_
          refine wo_step (v := (.i .i64 x22)) (s_pure (p_mv rfl)) ?_
          refine wo_nil ?_
          cases hr
          exact ⟨_, _, rfl, rfl, rfl, gl g4, gl g5, gl rfl, gl g0⟩
        · obtain ⟨s2, c3, m_16⟩ := o_5
          rintro _ mm_7 t_11 ⟨rfl, rfl, g2, g3⟩
          refine bk_ret ?_
          refine bk_ret ?_
          refine nx_ret ?_
          cases hr
          exact ⟨_, _, rfl, ne_norm_ret, rfl, rfl, gl g2, gl g3⟩
    · refine w_condF rfl ?_
      refine w_exit ?_
      refine nx_exit ?_
      cases hr
      exact ⟨_, _, rfl, ne_norm_exit, rfl, rfl⟩
  · rcases o_6 with o_6 | o_6
    · obtain ⟨m_17, ho⟩ : ∃ z, z = o_6 := ⟨_, rfl⟩
      subst ho
      rintro _ mm_9 t_12 ⟨rfl, rfl⟩
      refine bk_hit ?_
      refine nx_norm ?_
      refine w_seq ?_
      refine w_ops ?_
      refine wo_step (v := (AVal.s [])) (s_pure (p_mv rfl)) ?_
      refine wo_step (v := (.b false)) (s_pure (p_mv rfl)) ?_
      refine wo_nil ?_
      refine nx_norm ?_
      refine w_ret ?_
      exact qf ret_ok (rt rfl (rt rfl rn)) hr
    · obtain ⟨s2_1, c3_1, m_18⟩ := o_6
      rintro _ mm_10 t_13 ⟨rfl, rfl, g2, g3⟩
      refine bk_ret ?_
      refine nx_ret ?_
      exact qf ret_ok (rt g2 (rt g3 rn)) hr

/- (dibber/weed.rule).oneToOne -/
abbrev g64_I0 (x0 : Int) (s : Int × Int × Mm) (m1 : Mm) (t1 : Tr) : Prop :=
  match s with
  | (x3, x4, m_2) => m_2 = m1 ∧ t1.get 3 = (.i .u16 x3) ∧ t1.get 4 = (.i .u16 x4) ∧ t1.get 0 = (.i .u8 x0)
abbrev g64_J0 (x0 : Int) (o : (Int × Mm)) (e : AExit) (m1 : Mm) (t1 : Tr) : Prop :=
  match o with
  | (y3, mo) => e = (.exit 0) ∧ mo = m1 ∧ t1.get 3 = (.i .u16 y3)
def g64_b0 (M : Means) (ro : List ABlk) (x0 : Int) (x3 : Int) (x4 : Int) (m_2 : Mm) : Option ((Int × Int × Mm) ⊕ ((Int × Mm))) :=
  forceB (!eqI x4 x3) fun c10 =>
  cond c10 (
    bindP (callM M.call m_2 79 [(.i .u8 x0), (.i .u16 x4)]) fun v13 m_3 =>
    asI .u16 v13 fun x13 =>
    some (.inl (x4, x13, m_3))) (
    some (.inr (x3, m_2)))
def g64 (M : Means) (ro : List ABlk) (x0 : Int) (m0 : Mm) : Option (AVal × Heap × Nat × Nat) :=
  bindP (callM M.call m0 79 [(.i .u8 x0), (.i .u16 65535)]) fun v7 m_1 =>
  asI .u16 v7 fun x7 =>
  bindO (M.loop (S := Int × Int × Mm) (R := (Int × Mm)) (fun s => g64_b0 M ro x0 s.1 s.2.1 s.2.2) (65535, x7, m_1)) fun ⟨x3_1, m_4⟩ =>
  forceB (eqI x3_1 33825) fun c16 =>
  finM m0.h.length (tupA [(.b c16)]) m_4

theorem g64_ok {ro : List ABlk} {O : Caller} {M : Means} (hM : M.Ok ⟨F, O⟩ ro) {x0 h r} (ho : O 64 [(.i .u8 x0)] h = none) (hr : g64 M ro x0 ⟨h, h.length, h.length⟩ = some r) : callX ⟨F, O⟩ ro 64 [(.i .u8 x0)] h = some r := by
  refine callX_of (F := ⟨F, O⟩) (fn := fn64) (g := g64 M ro x0) ho rfl rfl hr ?_
  clear ho
  clear hr
  intro m0 t0 ht hr
  have g0 : t0.get 0 = (.i .u8 x0) := ht 0
  clear ht
  unfold g64 at hr
  refine w_seq ?_
  refine w_ops ?_
  refine wo_step (v := (.b false)) (s_pure (p_mv rfl)) ?_
  refine wo_nil ?_
  refine nx_norm ?_
  refine w_seq ?_
  refine w_ops ?_
  refine wo_step (v := (.i .u16 65535)) (s_pure (p_mv rfl)) ?_
  refine wo_nil ?_
  refine nx_norm ?_
  refine w_seq ?_
  refine w_seq ?_
  refine w_ops ?_
  refine wo_step (v := (.i .u8 x0)) (s_pure (p_mv g0)) ?_
  refine wo_step (v := (.i .u16 65535)) (s_pure (p_mv rfl)) ?_
  have hq := bindP_inv hr
  clear hr
  obtain ⟨v7, m_1, e7, hr⟩ := hq
  have hq := asI_inv hr
  clear hr
  obtain ⟨x7, rfl, hr⟩ := hq
  refine wo_step (v := (.i .u16 x7)) (s_call (mc rfl (mc rfl mn)) (callM_le hM.call e7)) ?_
  refine wo_step (v := (.i .u16 x7)) (s_pure (p_mv rfl)) ?_
  refine wo_nil ?_
  refine nx_norm ?_
  refine w_block ?_
  have hq := bindO_inv hr
  clear hr
  obtain ⟨o, hl, hr⟩ := hq
  obtain ⟨n, hl⟩ := hM.loop _ _ _ hl
  refine jp_mono (w_loop _ (g64_I0 x0) (g64_J0 x0) ?_ n _ _ _ _ hl ⟨rfl, gl rfl, gl rfl, gl g0⟩) ?_
  · clear hr hl
    intro s mm_1 t_1 o hi hr
    obtain ⟨x3, x4, m_2⟩ := s
    obtain ⟨rfl, g3, g4, g0⟩ := hi
    unfold g64_b0 at hr
    refine w_seq ?_
    refine w_seq ?_
    refine w_ops ?_
    refine wo_step (v := (.i .u16 x4)) (s_pure (p_mv g4)) ?_
    refine wo_step (v := (.i .u16 x3)) (s_pure (p_mv g3)) ?_
    have hq := forceB_inv hr
    clear hr
    obtain ⟨c10, e10, hr⟩ := hq
    refine wo_step (v := (.b c10)) (s_pure (p_bin rfl rfl (b_neq.trans (cb e10)))) ?_
    refine wo_nil ?_
    refine nx_norm ?_
    have hq := cond_inv hr
    clear hr
    rcases hq with ⟨rfl, hr⟩ | ⟨rfl, hr⟩
    · refine w_condT rfl ?_
      refine w_skip ?_
      refine nx_norm ?_
      refine w_seq ?_
      refine w_block ?_
      refine w_ops ?_
      refine wo_step (v := (.i .u16 x4)) (s_pure (p_mv g4)) ?_
      refine wo_step (v := (.i .u16 x4)) (s_pure (p_mv rfl)) ?_
      refine wo_nil ?_
      refine bk_norm ?_
      refine nx_norm ?_
      refine w_ops ?_
      refine wo_step (v := (.i .u8 x0)) (s_pure (p_mv g0)) ?_
      refine wo_step (v := (.i .u16 x4)) (s_pure (p_mv rfl)) ?_
      have hq := bindP_inv hr
      clear hr
      obtain ⟨v13, m_3, e13, hr⟩ := hq
      have hq := asI_inv hr
      clear hr
      obtain ⟨x13, rfl, hr⟩ := hq
      refine wo_step (v := (.i .u16 x13)) (s_call (mc rfl (mc rfl mn)) (callM_le hM.call e13)) ?_
      refine wo_step (v := (.i .u16 x13)) (s_pure (p_mv rfl)) ?_
      refine wo_nil ?_
      cases hr
      exact ⟨_, _, rfl, rfl, rfl, gl rfl, gl rfl, gl g0⟩
    · refine w_condF rfl ?_
      refine w_exit ?_
      refine nx_exit ?_
      cases hr
      exact ⟨_, _, rfl, ne_norm_exit, rfl, rfl, gl g3⟩
  · obtain ⟨x3_1, m_4⟩ := o
    rintro _ mm t_2 ⟨rfl, rfl, g3⟩
    refine bk_hit ?_
    refine nx_norm ?_
    refine w_seq ?_
    refine w_ops ?_
    refine wo_step (v := (.i .u16 x3_1)) (s_pure (p_mv g3)) ?_
    have hq := forceB_inv hr
    clear hr
    obtain ⟨c16, e16, hr⟩ := hq
    refine wo_step (v := (.b c16)) (s_pure (p_bin rfl rfl (b_eql.trans (cb e16)))) ?_
    refine wo_step (v := (.b c16)) (s_pure (p_mv rfl)) ?_
    refine wo_nil ?_
    refine nx_norm ?_
    refine w_ret ?_
    exact qf ret_ok (rt rfl rn) hr

/- dibber/weed.mirrors -/

def g69 (M : Means) (ro : List ABlk) (x0 : Int) (m0 : Mm) : Option (AVal × Heap × Nat × Nat) :=
  bindP (callM M.call m0 82 [(.i .u8 x0), (AVal.fn 83 [] [])]) fun v5 m_1 =>
  asI .u8 v5 fun x5 =>
  bindP (callM M.call m_1 82 [(.i .u8 x0), (AVal.fn 84 [] [])]) fun v7 m_2 =>
  asI .u8 v7 fun x7 =>
  finM m0.h.length (tupA [(.i .u8 x5), (.i .u8 x7)]) m_2

theorem g69_ok {ro : List ABlk} {O : Caller} {M : Means} (hM : M.Ok ⟨F, O⟩ ro) {x0 h r} (ho : O 69 [(.i .u8 x0)] h = none) (hr : g69 M ro x0 ⟨h, h.length, h.length⟩ = some r) : callX ⟨F, O⟩ ro 69 [(.i .u8 x0)] h = some r := by
  refine callX_of (F := ⟨F, O⟩) (fn := fn69) (g := g69 M ro x0) ho rfl rfl hr ?_
  clear ho
  clear hr
  intro m0 t0 ht hr
  have g0 : t0.get 0 = (.i .u8 x0) := ht 0
  clear ht
  unfold g69 at hr
  refine w_seq ?_
  refine w_ops ?_
  refine wo_step (v := (.i .u8 0)) (s_pure (p_mv rfl)) ?_
  refine wo_step (v := (.i .u8 0)) (s_pure (p_mv rfl)) ?_
  refine wo_nil ?_
  refine nx_norm ?_
  refine w_seq ?_
  refine w_ops ?_
  refine wo_step (v := (.i .u8 x0)) (s_pure (p_mv g0)) ?_
  have hq := bindP_inv hr
  clear hr
  obtain ⟨v5, m_1, e5, hr⟩ := hq
  have hq := asI_inv hr
  clear hr
  obtain ⟨x5, rfl, hr⟩ := hq
  refine wo_step (v := (.i .u8 x5)) (s_call (mc rfl (mc rfl mn)) (callM_le hM.call e5)) ?_
  refine wo_step (v := (.i .u8 x0)) (s_pure (p_mv g0)) ?_
  have hq := bindP_inv hr
  clear hr
  obtain ⟨v7, m_2, e7, hr⟩ := hq
  have hq := asI_inv hr
  clear hr
  obtain ⟨x7, rfl, hr⟩ := hq
  refine wo_step (v := (.i .u8 x7)) (s_call (mc rfl (mc rfl mn)) (callM_le hM.call e7)) ?_
  refine wo_step (v := (.i .u8 x5)) (s_pure (p_mv rfl)) ?_
  refine wo_step (v := (.i .u8 x7)) (s_pure (p_mv rfl)) ?_
  refine wo_nil ?_
  refine nx_norm ?_
  refine w_ret ?_
  exact qf ret_ok (rt rfl (rt rfl rn)) hr

/- dibber/weed.plot -/

def g71 (M : Means) (ro : List ABlk) (x0 : Int) (m0 : Mm) : Option (AVal × Heap × Nat × Nat) :=
  forceI (wr .u8 x0) fun x4 =>
  forceI (wr .u8 (48 + x4)) fun x5 =>
  finM m0.h.length (tupA [(.i .u8 x5)]) m0

theorem g71_ok {ro : List ABlk} {O : Caller} {M : Means} (hM : M.Ok ⟨F, O⟩ ro) {x0 h r} (ho : O 71 [(.i .i64 x0)] h = none) (hr : g71 M ro x0 ⟨h, h.length, h.length⟩ = some r) : callX ⟨F, O⟩ ro 71 [(.i .i64 x0)] h = some r := by
  refine callX_of (F := ⟨F, O⟩) (fn := fn71) (g := g71 M ro x0) ho rfl rfl hr ?_
  clear ho
  clear hr
  intro m0 t0 ht hr
  have g0 : t0.get 0 = (.i .i64 x0) := ht 0
  clear ht
  unfold g71 at hr
  refine w_seq ?_
  refine w_ops ?_
  refine wo_step (v := (.i .u8 0)) (s_pure (p_mv rfl)) ?_
  refine wo_nil ?_
  refine nx_norm ?_
  refine w_seq ?_
  refine w_ops ?_
  refine wo_step (v := (.i .i64 x0)) (s_pure (p_mv g0)) ?_
  have hq := forceI_inv hr
  clear hr
  obtain ⟨x4, e4, hr⟩ := hq
  refine wo_step (v := (.i .u8 x4)) (s_pure ((p_conv rfl).trans (ci e4))) ?_
  have hq := forceI_inv hr
  clear hr
  obtain ⟨x5, e5, hr⟩ := hq
  refine wo_step (v := (.i .u8 x5)) (s_pure (p_bin rfl rfl (b_add.trans (ci e5)))) ?_
  refine wo_step (v := (.i .u8 x5)) (s_pure (p_mv rfl)) ?_
  refine wo_nil ?_
  refine nx_norm ?_
  refine w_ret ?_
  exact qf ret_ok (rt rfl rn) hr

/- (dibber/weed.rule).next -/

def g72 (M : Means) (ro : List ABlk) (x0 : Int) (x1 : Int) (m0 : Mm) : Option (AVal × Heap × Nat × Nat) :=
  chk (!ltI x1 (.ofNat 0)) <|
  forceI (shrV .u8 x0 x1) fun x7 =>
  forceI (wr .i64 x7) fun x8 =>
  forceI (bitV .and .i64 x8 1) fun x9 =>
  finM m0.h.length (tupA [(.i .i64 x9)]) m0

theorem g72_ok {ro : List ABlk} {O : Caller} {M : Means} (hM : M.Ok ⟨F, O⟩ ro) {x0 x1 h r} (ho : O 72 [(.i .u8 x0), (.i .i64 x1)] h = none) (hr : g72 M ro x0 x1 ⟨h, h.length, h.length⟩ = some r) : callX ⟨F, O⟩ ro 72 [(.i .u8 x0), (.i .i64 x1)] h = some r := by
  refine callX_of (F := ⟨F, O⟩) (fn := fn72) (g := g72 M ro x0 x1) ho rfl rfl hr ?_
  clear ho
  clear hr
  intro m0 t0 ht hr
  have g0 : t0.get 0 = (.i .u8 x0) := ht 0
  have g1 : t0.get 1 = (.i .i64 x1) := ht 1
  clear ht
  unfold g72 at hr
  refine w_seq ?_
  refine w_ops ?_
  refine wo_step (v := (.i .i64 0)) (s_pure (p_mv rfl)) ?_
  refine wo_nil ?_
  refine nx_norm ?_
  refine w_seq ?_
  refine w_ops ?_
  refine wo_step (v := (.i .u8 x0)) (s_pure (p_mv g0)) ?_
  refine wo_step (v := (.i .i64 x1)) (s_pure (p_mv g1)) ?_
  have hq := chk_inv hr
  clear hr
  obtain ⟨hc7, hr⟩ := hq
  have hq := forceI_inv hr
  clear hr
  obtain ⟨x7, e7, hr⟩ := hq
  refine wo_step (v := (.i .u8 x7)) (s_pure (p_bin rfl rfl ((b_shr hc7).trans (ci e7)))) ?_
  have hq := forceI_inv hr
  clear hr
  obtain ⟨x8, e8, hr⟩ := hq
  refine wo_step (v := (.i .i64 x8)) (s_pure ((p_conv rfl).trans (ci e8))) ?_
  have hq := forceI_inv hr
  clear hr
  obtain ⟨x9, e9, hr⟩ := hq
  refine wo_step (v := (.i .i64 x9)) (s_pure (p_bin rfl rfl (b_and.trans (ci e9)))) ?_
  refine wo_step (v := (.i .i64 x9)) (s_pure (p_mv rfl)) ?_
  refine wo_nil ?_
  refine nx_norm ?_
  refine w_ret ?_
  exact qf ret_ok (rt rfl rn) hr

/- dibber/weed.bit -/

def g73 (M : Means) (ro : List ABlk) (x0 : Int) (m0 : Mm) : Option (AVal × Heap × Nat × Nat) :=
  forceI (wr .u8 (x0 - 48)) fun x4 =>
  forceI (wr .i64 x4) fun x5 =>
  finM m0.h.length (tupA [(.i .i64 x5)]) m0

theorem g73_ok {ro : List ABlk} {O : Caller} {M : Means} (hM : M.Ok ⟨F, O⟩ ro) {x0 h r} (ho : O 73 [(.i .u8 x0)] h = none) (hr : g73 M ro x0 ⟨h, h.length, h.length⟩ = some r) : callX ⟨F, O⟩ ro 73 [(.i .u8 x0)] h = some r := by
  refine callX_of (F := ⟨F, O⟩) (fn := fn73) (g := g73 M ro x0) ho rfl rfl hr ?_
  clear ho
  clear hr
  intro m0 t0 ht hr
  have g0 : t0.get 0 = (.i .u8 x0) := ht 0
  clear ht
  unfold g73 at hr
  refine w_seq ?_
  refine w_ops ?_
  refine wo_step (v := (.i .i64 0)) (s_pure (p_mv rfl)) ?_
  refine wo_nil ?_
  refine nx_norm ?_
  refine w_seq ?_
  refine w_ops ?_
  refine wo_step (v := (.i .u8 x0)) (s_pure (p_mv g0)) ?_
  have hq := forceI_inv hr
  clear hr
  obtain ⟨x4, e4, hr⟩ := hq
  refine wo_step (v := (.i .u8 x4)) (s_pure (p_bin rfl rfl (b_sub.trans (ci e4)))) ?_
  have hq := forceI_inv hr
  clear hr
  obtain ⟨x5, e5, hr⟩ := hq
  refine wo_step (v := (.i .i64 x5)) (s_pure ((p_conv rfl).trans (ci e5))) ?_
  refine wo_step (v := (.i .i64 x5)) (s_pure (p_mv rfl)) ?_
  refine wo_nil ?_
  refine nx_norm ?_
  refine w_ret ?_
  exact qf ret_ok (rt rfl rn) hr

end Go.Proofs.Ytgbkicelkpagpaa.W

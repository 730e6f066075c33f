/- Plain functions, and that the small machine answers as they do. -/
import Derived.Test.YtjjinlljdfaipaaVmP
import Derived.Test.YtjjinlljdfaipaaVmAE
open Go.Vm
set_option linter.unusedVariables false
namespace Go.Proofs.Ytjjinlljdfaipaa.W
open Go
/- dibber/dibberlaw02.WeedMoore -/
abbrev g9_J0 (x11 : Int) (c15 : Bool) (c20 : Bool) (s25 : List UInt8) (x26 : Int) (m_3 : Mm) (o : Bool) (m1 : Mm) (t1 : Tr) : Prop :=
  match o with
  | c32 => m_3 = m1 ∧ t1.get 32 = (.b c32) ∧ t1.get 3 = (.i .i64 x11) ∧ t1.get 4 = (.b c15) ∧ t1.get 6 = (.b c20) ∧ t1.get 8 = (.s s25) ∧ t1.get 9 = (.i .i64 x26)
abbrev g9_J1 (x11 : Int) (c15 : Bool) (s25 : List UInt8) (x26 : Int) (m_3 : Mm) (o : Bool) (m1 : Mm) (t1 : Tr) : Prop :=
  match o with
  | c39 => m_3 = m1 ∧ t1.get 39 = (.b c39) ∧ t1.get 3 = (.i .i64 x11) ∧ t1.get 4 = (.b c15) ∧ t1.get 8 = (.s s25) ∧ t1.get 9 = (.i .i64 x26)
abbrev g9_J2 (x11 : Int) (c15 : Bool) (s25 : List UInt8) (x26 : Int) (m_3 : Mm) (o : Bool) (m1 : Mm) (t1 : Tr) : Prop :=
  match o with
  | c39_1 => m_3 = m1 ∧ t1.get 39 = (.b c39_1) ∧ t1.get 3 = (.i .i64 x11) ∧ t1.get 4 = (.b c15) ∧ t1.get 8 = (.s s25) ∧ t1.get 9 = (.i .i64 x26)
abbrev g9_J3 (x11 : Int) (c15 : Bool) (s25 : List UInt8) (x26 : Int) (m_3 : Mm) (o : Bool) (m1 : Mm) (t1 : Tr) : Prop :=
  match o with
  | c45 => m_3 = m1 ∧ t1.get 45 = (.b c45) ∧ t1.get 3 = (.i .i64 x11) ∧ t1.get 4 = (.b c15) ∧ t1.get 8 = (.s s25) ∧ t1.get 9 = (.i .i64 x26)
abbrev g9_J4 (x11 : Int) (c15 : Bool) (s25 : List UInt8) (m_3 : Mm) (o : Bool) (m1 : Mm) (t1 : Tr) : Prop :=
  match o with
  | c53 => m_3 = m1 ∧ t1.get 53 = (.b c53) ∧ t1.get 3 = (.i .i64 x11) ∧ t1.get 4 = (.b c15) ∧ t1.get 8 = (.s s25)
abbrev g9_J5 (x11 : Int) (c15 : Bool) (s25 : List UInt8) (m_3 : Mm) (o : Bool) (m1 : Mm) (t1 : Tr) : Prop :=
  match o with
  | c53_1 => m_3 = m1 ∧ t1.get 53 = (.b c53_1) ∧ t1.get 3 = (.i .i64 x11) ∧ t1.get 4 = (.b c15) ∧ t1.get 8 = (.s s25)
abbrev g9_J6  (o : Bool × Mm) (m1 : Mm) (t1 : Tr) : Prop :=
  match o with
  | (c59, m_4) => m_4 = m1 ∧ t1.get 59 = (.b c59)
abbrev g9_J7 (x11 : Int) (s25 : List UInt8) (m_6 : Mm) (o : Bool) (m1 : Mm) (t1 : Tr) : Prop :=
  match o with
  | c72 => m_6 = m1 ∧ t1.get 72 = (.b c72) ∧ t1.get 3 = (.i .i64 x11) ∧ t1.get 8 = (.s s25)
abbrev g9_J8  (o : (Mm ⊕ (Bool × Mm))) (e : AExit) (m1 : Mm) (t1 : Tr) : Prop :=
  match o with
  | (.inl mo) => e = .norm ∧ mo = m1
  | (.inr (y2, mo)) => e = .ret ∧ mo = m1 ∧ t1.get 2 = (.b y2)
abbrev g9_J9 (x11 : Int) (s25 : List UInt8) (m_8 : Mm) (o : Bool) (m1 : Mm) (t1 : Tr) : Prop :=
  match o with
  | c98 => m_8 = m1 ∧ t1.get 98 = (.b c98) ∧ t1.get 3 = (.i .i64 x11) ∧ t1.get 8 = (.s s25)
def g9 (M : Means) (ro : List ABlk) (x0 : Int) (m0 : Mm) : Option (AVal × Heap × Nat × Nat) :=
  forceI (wr .i64 x0) fun x11 =>
  bindP (callM M.call m0 28 [(.i .i64 x11)]) fun v14 m_1 =>
  bindO (evP .e (.ext 0 (.c v14))) fun v15 =>
  asB v15 fun c15 =>
  bindO (evP .e (.ext 1 (.c v14))) fun v16 =>
  asI .i64 v16 fun x16 =>
  bindP (callM M.call m_1 30 [(.i .i64 x11)]) fun v19 m_2 =>
  bindO (evP .e (.ext 0 (.c v19))) fun v20 =>
  asB v20 fun c20 =>
  bindO (evP .e (.ext 1 (.c v19))) fun v21 =>
  asI .i64 v21 fun x21 =>
  bindP (callM M.call m_2 26 [(.i .i64 x11), (.i .i64 20)]) fun v24 m_3 =>
  bindO (evP .e (.ext 0 (.c v24))) fun v25 =>
  asS v25 fun s25 =>
  bindO (evP .e (.ext 1 (.c v24))) fun v26 =>
  asI .i64 v26 fun x26 =>
  forceB (!eqI x16 0) fun c28 =>
  bindO (cond c28 (
    some true) (
    forceB (!eqI x21 0) fun c31 =>
    some c31)) fun c32 =>
  bindO (cond c32 (
    some true) (
    bindO (cond c20 (
      forceB (!c15) fun c37 =>
      some c37) (
      some false)) fun c39_1 =>
    some c39_1)) fun c39 =>
  bindO (cond c39 (
    some true) (
    forceB (eqI x26 10) fun c43 =>
    forceB (!(c15 == c43)) fun c44 =>
    some c44)) fun c45 =>
  bindO (cond c45 (
    some true) (
    forceB (!c15) fun c48 =>
    bindO (cond c48 (
      forceB (!eqI x26 0) fun c51 =>
      some c51) (
      some false)) fun c53_1 =>
    some c53_1)) fun c53 =>
  cond c53 (
    finM m0.h.length (tupA [(.b false)]) m_3) (
    cond c15 (
      bindO (evP .e (.sbin BinOp.eql (.c (.s s25)) (.c (AVal.s [])))) fun v56 =>
      asB v56 fun c56 =>
      bindO (cond c56 (
        bindP (callM M.call m_3 15 []) fun v58 m_5 =>
        asB v58 fun c58 =>
        some (c58, m_5)) (
        some (false, m_3))) fun ⟨c59, m_4⟩ =>
      finM m0.h.length (tupA [(.b c59)]) m_4) (
      bindP (callM M.call m_3 20 [(.i .i64 x11), (.s s25)]) fun v63 m_6 =>
      bindO (evP .e (.ext 0 (.c v63))) fun v64 =>
      asS v64 fun s64 =>
      bindO (evP .e (.ext 1 (.c v63))) fun v65 =>
      asI .i64 v65 fun x65 =>
      forceB (!eqI x65 10) fun c67 =>
      bindO (cond c67 (
        some true) (
        bindO (evP .e (.len true (.c (.s s25)))) fun v70 =>
        asI .i64 v70 fun x70 =>
        forceB (ltI 20 x70) fun c71 =>
        some c71)) fun c72 =>
      cond c72 (
        finM m0.h.length (tupA [(.b false)]) m_6) (
        bindO (evP .e (.len true (.c (.s s25)))) fun v74 =>
        asI .i64 v74 fun x74 =>
        forceB (ltI 1 x74) fun c75 =>
        bindO (α := (Mm ⊕ (Bool × Mm))) (
          cond c75 (
            bindO (evP .e (.slStr (.c (.s s25)) (some (.c (.i .i64 1))) none)) fun v79 =>
            asS v79 fun s79 =>
            bindP (callM M.call m_6 20 [(.i .i64 x11), (.s s79)]) fun v80 m_7 =>
            bindO (evP .e (.ext 0 (.c v80))) fun v81 =>
            asS v81 fun s81 =>
            bindO (evP .e (.ext 1 (.c v80))) fun v82 =>
            asI .i64 v82 fun x82 =>
            bindO (evP .e (.len true (.c (.s s25)))) fun v87 =>
            asI .i64 v87 fun x87 =>
            forceI (wr .i64 (x87 - 1)) fun x88 =>
            bindO (evP .e (.slStr (.c (.s s25)) none (some (.c (.i .i64 x88))))) fun v89 =>
            asS v89 fun s89 =>
            bindP (callM M.call m_7 20 [(.i .i64 x11), (.s s89)]) fun v90 m_8 =>
            bindO (evP .e (.ext 0 (.c v90))) fun v91 =>
            asS v91 fun s91 =>
            bindO (evP .e (.ext 1 (.c v90))) fun v92 =>
            asI .i64 v92 fun x92 =>
            forceB (!eqI x82 0) fun c94 =>
            bindO (cond c94 (
              some true) (
              forceB (!eqI x92 0) fun c97 =>
              some c97)) fun c98 =>
            cond c98 (
              some (.inr (false, m_8))) (
              bindO (evP .e (.len true (.c (.s s25)))) fun v102 =>
              asI .i64 v102 fun x102 =>
              forceI (wr .i64 (x102 - 1)) fun x103 =>
              bindP (callM M.call m_8 26 [(.i .i64 x11), (.i .i64 x103)]) fun v104 m_9 =>
              bindO (evP .e (.ext 0 (.c v104))) fun v105 =>
              asS v105 fun s105 =>
              bindO (evP .e (.ext 1 (.c v104))) fun v106 =>
              asI .i64 v106 fun x106 =>
              forceB (!eqI x106 10) fun c108 =>
              cond c108 (
                some (.inr (false, m_9))) (
                some (.inl m_9)))) (
            some (.inl m_6))) fun o_8 => match o_8 with
        | (.inl m_10) =>
          bindP (callM M.call m_10 15 []) fun v109 m_11 =>
          asB v109 fun c109 =>
          finM m0.h.length (tupA [(.b c109)]) m_11
        | (.inr (c2, m_12)) =>
          finM m0.h.length (tupA [(.b c2)]) m_12)))

theorem g9_ok {ro : List ABlk} {O : Caller} {M : Means} (hM : M.Ok ⟨F, O⟩ ro) {x0 h r} (ho : O 9 [(.i .u8 x0)] h = none) (hr : g9 M ro x0 ⟨h, h.length, h.length⟩ = some r) : callX ⟨F, O⟩ ro 9 [(.i .u8 x0)] h = some r := by
  refine callX_of (F := ⟨F, O⟩) (fn := fn9) (g := g9 M ro x0) ho rfl rfl hr ?_
  clear ho
  clear hr
  intro m0 t0 ht hr
  have g0 : t0.get 0 = (.i .u8 x0) := ht 0
  clear ht
  unfold g9 at hr
  refine w_seq ?_
  refine w_ops ?_
  refine wo_step (v := (.b false)) (s_pure (p_mv rfl)) ?_
  refine wo_nil ?_
  refine nx_norm ?_
  refine w_seq ?_
  refine w_ops ?_
  refine wo_step (v := (.i .u8 x0)) (s_pure (p_mv g0)) ?_
  have hq := forceI_inv hr
  clear hr
  obtain ⟨x11, e11, hr⟩ := hq
  refine wo_step (v := (.i .i64 x11)) (s_pure ((p_conv rfl).trans (ci e11))) ?_
  refine wo_step (v := (.i .i64 x11)) (s_pure (p_mv rfl)) ?_
  refine wo_nil ?_
  refine nx_norm ?_
  refine w_seq ?_
  refine w_ops ?_
  refine wo_step (v := (.i .i64 x11)) (s_pure (p_mv rfl)) ?_
  have hq := bindP_inv hr
  clear hr
  obtain ⟨v14, m_1, e14, hr⟩ := hq
  refine wo_step (v := v14) (s_call (mc rfl mn) (callM_le hM.call e14)) ?_
  refine wo_step (v := v14) (s_pure (p_mv rfl)) ?_
  have hq := bindO_inv hr
  clear hr
  obtain ⟨v15, e15, hr⟩ := hq
  have hq := asB_inv hr
  clear hr
  obtain ⟨c15, rfl, hr⟩ := hq
  refine wo_step (v := (.b c15)) (s_pure (o_ext rfl e15)) ?_
  have hq := bindO_inv hr
  clear hr
  obtain ⟨v16, e16, hr⟩ := hq
  have hq := asI_inv hr
  clear hr
  obtain ⟨x16, rfl, hr⟩ := hq
  refine wo_step (v := (.i .i64 x16)) (s_pure (o_ext rfl e16)) ?_
  refine wo_step (v := (.b c15)) (s_pure (p_mv rfl)) ?_
  refine wo_step (v := (.i .i64 x16)) (s_pure (p_mv rfl)) ?_
  refine wo_nil ?_
  refine nx_norm ?_
  refine w_seq ?_
  refine w_ops ?_
  refine wo_step (v := (.i .i64 x11)) (s_pure (p_mv rfl)) ?_
  have hq := bindP_inv hr
  clear hr
  obtain ⟨v19, m_2, e19, hr⟩ := hq
  refine wo_step (v := v19) (s_call (mc rfl mn) (callM_le hM.call e19)) ?_
  refine wo_step (v := v19) (s_pure (p_mv rfl)) ?_
  have hq := bindO_inv hr
  clear hr
  obtain ⟨v20, e20, hr⟩ := hq
  have hq := asB_inv hr
  clear hr
  obtain ⟨c20, rfl, hr⟩ := hq
  refine wo_step (v := (.b c20)) (s_pure (o_ext rfl e20)) ?_
  have hq := bindO_inv hr
  clear hr
  obtain ⟨v21, e21, hr⟩ := hq
  have hq := asI_inv hr
  clear hr
  obtain ⟨x21, rfl, hr⟩ := hq
  refine wo_step (v := (.i .i64 x21)) (s_pure (o_ext rfl e21)) ?_
  refine wo_step (v := (.b c20)) (s_pure (p_mv rfl)) ?_
  refine wo_step (v := (.i .i64 x21)) (s_pure (p_mv rfl)) ?_
  refine wo_nil ?_
  refine nx_norm ?_
  refine w_seq ?_
  refine w_ops ?_
  refine wo_step (v := (.i .i64 x11)) (s_pure (p_mv rfl)) ?_
  have hq := bindP_inv hr
  clear hr
  obtain ⟨v24, m_3, e24, hr⟩ := hq
  refine wo_step (v := v24) (s_call (mc rfl (mc rfl mn)) (callM_le hM.call e24)) ?_
  refine wo_step (v := v24) (s_pure (p_mv rfl)) ?_
  have hq := bindO_inv hr
  clear hr
  obtain ⟨v25, e25, hr⟩ := hq
  have hq := asS_inv hr
  clear hr
  obtain ⟨s25, rfl, hr⟩ := hq
  refine wo_step (v := (.s s25)) (s_pure (o_ext rfl e25)) ?_
  have hq := bindO_inv hr
  clear hr
  obtain ⟨v26, e26, hr⟩ := hq
  have hq := asI_inv hr
  clear hr
  obtain ⟨x26, rfl, hr⟩ := hq
  refine wo_step (v := (.i .i64 x26)) (s_pure (o_ext rfl e26)) ?_
  refine wo_step (v := (.s s25)) (s_pure (p_mv rfl)) ?_
  refine wo_step (v := (.i .i64 x26)) (s_pure (p_mv rfl)) ?_
  refine wo_nil ?_
  refine nx_norm ?_
  refine w_seq ?_
  refine w_seq ?_
  refine w_ops ?_
  refine wo_step (v := (.i .i64 x16)) (s_pure (p_mv rfl)) ?_
  have hq := forceB_inv hr
  clear hr
  obtain ⟨c28, e28, hr⟩ := hq
  refine wo_step (v := (.b c28)) (s_pure (p_bin rfl rfl (b_neq.trans (cb e28)))) ?_
  refine wo_step (v := (.b c28)) (s_pure (p_mv rfl)) ?_
  have hq := bindO_inv hr
  clear hr
  obtain ⟨o, hr, hk⟩ := hq
  refine wo_join 3 (g9_J0 x11 c15 c20 s25 x26 m_3 o) ?_ ?_
  · clear hk
    have hq := cond_inv hr
    clear hr
    rcases hq with ⟨rfl, hr⟩ | ⟨rfl, hr⟩
    · refine wo_skip (v := (.b true)) rfl rfl ?_
      refine wo_skip (v := (.b true)) rfl rfl ?_
      refine wo_step (v := (.b true)) (s_pure (p_pickT rfl rfl)) ?_
      refine wo_nil ?_
      cases hr
      exact ⟨_, _, rfl, rfl, gl rfl, gl rfl, gl rfl, gl rfl, gl rfl, gl rfl⟩
    · refine wo_take (v := (.i .i64 x21)) rfl (s_pure (p_mv rfl)) ?_
      have hq := forceB_inv hr
      clear hr
      obtain ⟨c31, e31, hr⟩ := hq
      refine wo_take (v := (.b c31)) rfl (s_pure (p_bin rfl rfl (b_neq.trans (cb e31)))) ?_
      refine wo_step (v := (.b c31)) (s_pure (p_pickF rfl rfl)) ?_
      refine wo_nil ?_
      cases hr
      exact ⟨_, _, rfl, rfl, gl rfl, gl rfl, gl rfl, gl rfl, gl rfl, gl rfl⟩
  · clear hr
    have hr := hk
    clear hk
    obtain ⟨c32, ho⟩ : ∃ z, z = o := ⟨_, rfl⟩
    subst ho
    rintro mm t_1 ⟨rfl, g32, g3, g4, g6, g8, g9⟩
    refine wo_step (v := (.b c32)) (s_pure (p_mv g32)) ?_
    have hq := bindO_inv hr
    clear hr
    obtain ⟨o_1, hr, hk⟩ := hq
    refine wo_join 6 (g9_J1 x11 c15 s25 x26 m_3 o_1) ?_ ?_
    · clear hk
      have hq := cond_inv hr
      clear hr
      rcases hq with ⟨rfl, hr⟩ | ⟨rfl, hr⟩
      · refine wo_skip (v := (.b true)) rfl rfl ?_
        refine wo_skip (v := (.b true)) rfl rfl ?_
        refine wo_skip (v := und) rfl rfl ?_
        refine wo_skip (v := und) rfl rfl ?_
        refine wo_skip (v := (.b true)) rfl rfl ?_
        refine wo_step (v := (.b true)) (s_pure (p_pickT rfl rfl)) ?_
        refine wo_nil ?_
        cases hr
        exact ⟨_, _, rfl, rfl, gl rfl, gl g3, gl g4, gl g8, gl g9⟩
      · refine wo_take (v := (.b c20)) rfl (s_pure (p_mv g6)) ?_
        refine wo_take (v := (.b c20)) rfl (s_pure (p_mv rfl)) ?_
        have hq := bindO_inv hr
        clear hr
        obtain ⟨o_2, hr, hk⟩ := hq
        refine wo_join 4 (g9_J2 x11 c15 s25 x26 m_3 o_2) ?_ ?_
        · clear hk
          have hq := cond_inv hr
          clear hr
          rcases hq with ⟨rfl, hr⟩ | ⟨rfl, hr⟩
          · refine wo_take (v := (.b c15)) rfl (s_pure (p_mv g4)) ?_
            have hq := forceB_inv hr
            clear hr
            obtain ⟨c37, e37, hr⟩ := hq
            refine wo_take (v := (.b c37)) rfl (s_pure ((p_not rfl).trans (cb e37))) ?_
            refine wo_take (v := (.b c37)) rfl (s_pure (p_pickT rfl rfl)) ?_
            refine wo_step (v := (.b c37)) (s_pure (p_pickF rfl rfl)) ?_
            refine wo_nil ?_
            cases hr
            exact ⟨_, _, rfl, rfl, gl rfl, gl g3, gl g4, gl g8, gl g9⟩
          · refine wo_skip (v := (.b false)) rfl rfl ?_
            refine wo_skip (v := (.b false)) rfl rfl ?_
            refine wo_take (v := (.b false)) rfl (s_pure (p_pickF rfl rfl)) ?_
            refine wo_step (v := (.b false)) (s_pure (p_pickF rfl rfl)) ?_
            refine wo_nil ?_
            cases hr
            exact ⟨_, _, rfl, rfl, gl rfl, gl g3, gl g4, gl g8, gl g9⟩
        · clear hr
          have hr := hk
          clear hk
          obtain ⟨c39_1, ho⟩ : ∃ z, z = o_2 := ⟨_, rfl⟩
          subst ho
          rintro mm_1 t_2 ⟨rfl, g39, g3, g4, g8, g9⟩
          refine wo_nil ?_
          cases hr
          exact ⟨_, _, rfl, rfl, gl g39, gl g3, gl g4, gl g8, gl g9⟩
    · clear hr
      have hr := hk
      clear hk
      obtain ⟨c39, ho⟩ : ∃ z, z = o_1 := ⟨_, rfl⟩
      subst ho
      rintro mm_2 t_3 ⟨rfl, g39, g3, g4, g8, g9⟩
      refine wo_step (v := (.b c39)) (s_pure (p_mv g39)) ?_
      have hq := bindO_inv hr
      clear hr
      obtain ⟨o_3, hr, hk⟩ := hq
      refine wo_join 5 (g9_J3 x11 c15 s25 x26 m_3 o_3) ?_ ?_
      · clear hk
        have hq := cond_inv hr
        clear hr
        rcases hq with ⟨rfl, hr⟩ | ⟨rfl, hr⟩
        · refine wo_skip (v := (.b true)) rfl rfl ?_
          refine wo_skip (v := (.b true)) rfl rfl ?_
          refine wo_skip (v := (.b true)) rfl rfl ?_
          refine wo_skip (v := (.b true)) rfl rfl ?_
          refine wo_step (v := (.b true)) (s_pure (p_pickT rfl rfl)) ?_
          refine wo_nil ?_
          cases hr
          exact ⟨_, _, rfl, rfl, gl rfl, gl g3, gl g4, gl g8, gl g9⟩
        · refine wo_take (v := (.b c15)) rfl (s_pure (p_mv g4)) ?_
          refine wo_take (v := (.i .i64 x26)) rfl (s_pure (p_mv g9)) ?_
          have hq := forceB_inv hr
          clear hr
          obtain ⟨c43, e43, hr⟩ := hq
          refine wo_take (v := (.b c43)) rfl (s_pure (p_bin rfl rfl (b_eql.trans (cb e43)))) ?_
          have hq := forceB_inv hr
          clear hr
          obtain ⟨c44, e44, hr⟩ := hq
          refine wo_take (v := (.b c44)) rfl (s_pure ((p_beq rfl rfl).trans (cb e44))) ?_
          refine wo_step (v := (.b c44)) (s_pure (p_pickF rfl rfl)) ?_
          refine wo_nil ?_
          cases hr
          exact ⟨_, _, rfl, rfl, gl rfl, gl g3, gl g4, gl g8, gl g9⟩
      · clear hr
        have hr := hk
        clear hk
        obtain ⟨c45, ho⟩ : ∃ z, z = o_3 := ⟨_, rfl⟩
        subst ho
        rintro mm_3 t_4 ⟨rfl, g45, g3, g4, g8, g9⟩
        refine wo_step (v := (.b c45)) (s_pure (p_mv g45)) ?_
        have hq := bindO_inv hr
        clear hr
        obtain ⟨o_4, hr, hk⟩ := hq
        refine wo_join 7 (g9_J4 x11 c15 s25 m_3 o_4) ?_ ?_
        · clear hk
          have hq := cond_inv hr
          clear hr
          rcases hq with ⟨rfl, hr⟩ | ⟨rfl, hr⟩
          · refine wo_skip (v := (.b true)) rfl rfl ?_
            refine wo_skip (v := (.b true)) rfl rfl ?_
            refine wo_skip (v := (.b true)) rfl rfl ?_
            refine wo_skip (v := und) rfl rfl ?_
            refine wo_skip (v := und) rfl rfl ?_
            refine wo_skip (v := (.b true)) rfl rfl ?_
            refine wo_step (v := (.b true)) (s_pure (p_pickT rfl rfl)) ?_
            refine wo_nil ?_
            cases hr
            exact ⟨_, _, rfl, rfl, gl rfl, gl g3, gl g4, gl g8⟩
          · refine wo_take (v := (.b c15)) rfl (s_pure (p_mv g4)) ?_
            have hq := forceB_inv hr
            clear hr
            obtain ⟨c48, e48, hr⟩ := hq
            refine wo_take (v := (.b c48)) rfl (s_pure ((p_not rfl).trans (cb e48))) ?_
            refine wo_take (v := (.b c48)) rfl (s_pure (p_mv rfl)) ?_
            have hq := bindO_inv hr
            clear hr
            obtain ⟨o_5, hr, hk⟩ := hq
            refine wo_join 4 (g9_J5 x11 c15 s25 m_3 o_5) ?_ ?_
            · clear hk
              have hq := cond_inv hr
              clear hr
              rcases hq with ⟨rfl, hr⟩ | ⟨rfl, hr⟩
              · refine wo_take (v := (.i .i64 x26)) rfl (s_pure (p_mv g9)) ?_
                have hq := forceB_inv hr
                clear hr
                obtain ⟨c51, e51, hr⟩ := hq
                refine wo_take (v := (.b c51)) rfl (s_pure (p_bin rfl rfl (b_neq.trans (cb e51)))) ?_
                refine wo_take (v := (.b c51)) rfl (s_pure (p_pickT rfl rfl)) ?_
                refine wo_step (v := (.b c51)) (s_pure (p_pickF rfl rfl)) ?_
                refine wo_nil ?_
                cases hr
                exact ⟨_, _, rfl, rfl, gl rfl, gl g3, gl g4, gl g8⟩
              · refine wo_skip (v := (.b false)) rfl rfl ?_
                refine wo_skip (v := (.b false)) rfl rfl ?_
                refine wo_take (v := (.b false)) rfl (s_pure (p_pickF rfl rfl)) ?_
                refine wo_step (v := (.b false)) (s_pure (p_pickF rfl rfl)) ?_
                refine wo_nil ?_
                cases hr
                exact ⟨_, _, rfl, rfl, gl rfl, gl g3, gl g4, gl g8⟩
            · clear hr
              have hr := hk
              clear hk
              obtain ⟨c53_1, ho⟩ : ∃ z, z = o_5 := ⟨_, rfl⟩
              subst ho
              rintro mm_4 t_5 ⟨rfl, g53, g3, g4, g8⟩
              refine wo_nil ?_
              cases hr
              exact ⟨_, _, rfl, rfl, gl g53, gl g3, gl g4, gl g8⟩
        · clear hr
          have hr := hk
          clear hk
          obtain ⟨c53, ho⟩ : ∃ z, z = o_4 := ⟨_, rfl⟩
          subst ho
          rintro mm_5 t_6 ⟨rfl, g53, g3, g4, g8⟩
          refine wo_nil ?_
          refine nx_norm ?_
          have hq := cond_inv hr
          clear hr
          rcases hq with ⟨rfl, hr⟩ | ⟨rfl, hr⟩
          · refine w_condT g53 ?_
            refine w_seq ?_
            refine w_ops ?_
            refine wo_step (v := (.b false)) (s_pure (p_mv rfl)) ?_
            refine wo_nil ?_
            refine nx_norm ?_
            refine w_ret ?_
            refine nx_ret ?_
            exact qf ret_ok (rt rfl rn) hr
          · refine w_condF g53 ?_
            refine w_skip ?_
            refine nx_norm ?_
            refine w_seq ?_
            refine w_seq ?_
            refine w_ops ?_
            refine wo_step (v := (.b c15)) (s_pure (p_mv g4)) ?_
            refine wo_nil ?_
            refine nx_norm ?_
            have hq := cond_inv hr
            clear hr
            rcases hq with ⟨rfl, hr⟩ | ⟨rfl, hr⟩
            · refine w_condT rfl ?_
              refine w_seq ?_
              refine w_ops ?_
              refine wo_step (v := (.s s25)) (s_pure (p_mv g8)) ?_
              have hq := bindO_inv hr
              clear hr
              obtain ⟨v56, e56, hr⟩ := hq
              have hq := asB_inv hr
              clear hr
              obtain ⟨c56, rfl, hr⟩ := hq
              refine wo_step (v := (.b c56)) (s_pure (o_sbin rfl rfl e56)) ?_
              refine wo_step (v := (.b c56)) (s_pure (p_mv rfl)) ?_
              have hq := bindO_inv hr
              clear hr
              obtain ⟨o_6, hr, hk⟩ := hq
              refine wo_join 2 (g9_J6  o_6) ?_ ?_
              · clear hk
                have hq := cond_inv hr
                clear hr
                rcases hq with ⟨rfl, hr⟩ | ⟨rfl, hr⟩
                · have hq := bindP_inv hr
                  clear hr
                  obtain ⟨v58, m_5, e58, hr⟩ := hq
                  have hq := asB_inv hr
                  clear hr
                  obtain ⟨c58, rfl, hr⟩ := hq
                  refine wo_take (v := (.b c58)) rfl (s_call mn (callM_le hM.call e58)) ?_
                  refine wo_step (v := (.b c58)) (s_pure (p_pickT rfl rfl)) ?_
                  refine wo_nil ?_
                  cases hr
                  exact ⟨_, _, rfl, rfl, gl rfl⟩
                · refine wo_skip (v := (.b false)) rfl rfl ?_
                  refine wo_step (v := (.b false)) (s_pure (p_pickF rfl rfl)) ?_
                  refine wo_nil ?_
                  cases hr
                  exact ⟨_, _, rfl, rfl, gl rfl⟩
              · clear hr
                have hr := hk
                clear hk
                obtain ⟨c59, m_4⟩ := o_6
                rintro mm_6 t_7 ⟨rfl, g59⟩
                refine wo_step (v := (.b c59)) (s_pure (p_mv g59)) ?_
                refine wo_nil ?_
                refine nx_norm ?_
                refine w_ret ?_
                refine nx_ret ?_
                exact qf ret_ok (rt rfl rn) hr
            · refine w_condF rfl ?_
              refine w_skip ?_
              refine nx_norm ?_
              refine w_seq ?_
              refine w_ops ?_
              refine wo_step (v := (.i .i64 x11)) (s_pure (p_mv g3)) ?_
              refine wo_step (v := (.s s25)) (s_pure (p_mv g8)) ?_
              have hq := bindP_inv hr
              clear hr
              obtain ⟨v63, m_6, e63, hr⟩ := hq
              refine wo_step (v := v63) (s_call (mc rfl (mc rfl mn)) (callM_le hM.call e63)) ?_
              refine wo_step (v := v63) (s_pure (p_mv rfl)) ?_
              have hq := bindO_inv hr
              clear hr
              obtain ⟨v64, e64, hr⟩ := hq
              have hq := asS_inv hr
              clear hr
              obtain ⟨s64, rfl, hr⟩ := hq
              refine wo_step (v := (.s s64)) (s_pure (o_ext rfl e64)) ?_
              have hq := bindO_inv hr
              clear hr
              obtain ⟨v65, e65, hr⟩ := hq
              have hq := asI_inv hr
              clear hr
              obtain ⟨x65, rfl, hr⟩ := hq
              refine wo_step (v := (.i .i64 x65)) (s_pure (o_ext rfl e65)) ?_
              refine wo_step (v := (.i .i64 x65)) (s_pure (p_mv rfl)) ?_
              refine wo_nil ?_
              refine nx_norm ?_
              refine w_seq ?_
              refine w_seq ?_
              refine w_ops ?_
              refine wo_step (v := (.i .i64 x65)) (s_pure (p_mv rfl)) ?_
              have hq := forceB_inv hr
              clear hr
              obtain ⟨c67, e67, hr⟩ := hq
              refine wo_step (v := (.b c67)) (s_pure (p_bin rfl rfl (b_neq.trans (cb e67)))) ?_
              refine wo_step (v := (.b c67)) (s_pure (p_mv rfl)) ?_
              have hq := bindO_inv hr
              clear hr
              obtain ⟨o_7, hr, hk⟩ := hq
              refine wo_join 4 (g9_J7 x11 s25 m_6 o_7) ?_ ?_
              · clear hk
                have hq := cond_inv hr
                clear hr
                rcases hq with ⟨rfl, hr⟩ | ⟨rfl, hr⟩
                · refine wo_skip (v := (.b true)) rfl rfl ?_
                  refine wo_skip (v := (.b true)) rfl rfl ?_
                  refine wo_skip (v := (.b true)) rfl rfl ?_
                  refine wo_step (v := (.b true)) (s_pure (p_pickT rfl rfl)) ?_
                  refine wo_nil ?_
                  cases hr
                  exact ⟨_, _, rfl, rfl, gl rfl, gl g3, gl g8⟩
                · refine wo_take (v := (.s s25)) rfl (s_pure (p_mv g8)) ?_
                  have hq := bindO_inv hr
                  clear hr
                  obtain ⟨v70, e70, hr⟩ := hq
                  have hq := asI_inv hr
                  clear hr
                  obtain ⟨x70, rfl, hr⟩ := hq
                  refine wo_take (v := (.i .i64 x70)) rfl (s_pure (o_len rfl e70)) ?_
                  have hq := forceB_inv hr
                  clear hr
                  obtain ⟨c71, e71, hr⟩ := hq
                  refine wo_take (v := (.b c71)) rfl (s_pure (p_bin rfl rfl (b_gtr.trans (cb e71)))) ?_
                  refine wo_step (v := (.b c71)) (s_pure (p_pickF rfl rfl)) ?_
                  refine wo_nil ?_
                  cases hr
                  exact ⟨_, _, rfl, rfl, gl rfl, gl g3, gl g8⟩
              · clear hr
                have hr := hk
                clear hk
                obtain ⟨c72, ho⟩ : ∃ z, z = o_7 := ⟨_, rfl⟩
                subst ho
                rintro mm_7 t_8 ⟨rfl, g72, g3, g8⟩
                refine wo_nil ?_
                refine nx_norm ?_
                have hq := cond_inv hr
                clear hr
                rcases hq with ⟨rfl, hr⟩ | ⟨rfl, hr⟩
                · refine w_condT g72 ?_
                  refine w_seq ?_
                  refine w_ops ?_
                  refine wo_step (v := (.b false)) (s_pure (p_mv rfl)) ?_
                  refine wo_nil ?_
                  refine nx_norm ?_
                  refine w_ret ?_
                  refine nx_ret ?_
                  exact qf ret_ok (rt rfl rn) hr
                · refine w_condF g72 ?_
                  refine w_skip ?_
                  refine nx_norm ?_
                  refine w_seq ?_
                  refine w_seq ?_
                  refine w_ops ?_
                  refine wo_step (v := (.s s25)) (s_pure (p_mv g8)) ?_
                  have hq := bindO_inv hr
                  clear hr
                  obtain ⟨v74, e74, hr⟩ := hq
                  have hq := asI_inv hr
                  clear hr
                  obtain ⟨x74, rfl, hr⟩ := hq
                  refine wo_step (v := (.i .i64 x74)) (s_pure (o_len rfl e74)) ?_
                  have hq := forceB_inv hr
                  clear hr
                  obtain ⟨c75, e75, hr⟩ := hq
                  refine wo_step (v := (.b c75)) (s_pure (p_bin rfl rfl (b_gtr.trans (cb e75)))) ?_
                  refine wo_nil ?_
                  refine nx_norm ?_
                  have hq := bindO_inv hr
                  clear hr
                  obtain ⟨o_8, hr, hk⟩ := hq
                  refine jp_mono (J := g9_J8  o_8) ?_ ?_
                  · clear hk
                    have hq := cond_inv hr
                    clear hr
                    rcases hq with ⟨rfl, hr⟩ | ⟨rfl, hr⟩
                    · refine w_condT rfl ?_
                      refine w_seq ?_
                      refine w_ops ?_
                      refine wo_step (v := (.i .i64 x11)) (s_pure (p_mv g3)) ?_
                      refine wo_step (v := (.s s25)) (s_pure (p_mv g8)) ?_
                      have hq := bindO_inv hr
                      clear hr
                      obtain ⟨v79, e79, hr⟩ := hq
                      have hq := asS_inv hr
                      clear hr
                      obtain ⟨s79, rfl, hr⟩ := hq
                      refine wo_step (v := (.s s79)) (s_pure (o_slStr rfl (os rfl) on e79)) ?_
                      have hq := bindP_inv hr
                      clear hr
                      obtain ⟨v80, m_7, e80, hr⟩ := hq
                      refine wo_step (v := v80) (s_call (mc rfl (mc rfl mn)) (callM_le hM.call e80)) ?_
                      refine wo_step (v := v80) (s_pure (p_mv rfl)) ?_
                      have hq := bindO_inv hr
                      clear hr
                      obtain ⟨v81, e81, hr⟩ := hq
                      have hq := asS_inv hr
                      clear hr
                      obtain ⟨s81, rfl, hr⟩ := hq
                      refine wo_step (v := (.s s81)) (s_pure (o_ext rfl e81)) ?_
                      have hq := bindO_inv hr
                      clear hr
                      obtain ⟨v82, e82, hr⟩ := hq
                      have hq := asI_inv hr
                      clear hr
                      obtain ⟨x82, rfl, hr⟩ := hq
                      refine wo_step (v := (.i .i64 x82)) (s_pure (o_ext rfl e82)) ?_
                      refine wo_step (v := (.i .i64 x82)) (s_pure (p_mv rfl)) ?_
                      refine wo_nil ?_
                      refine nx_norm ?_
                      refine w_seq ?_
                      refine w_ops ?_
                      refine wo_step (v := (.i .i64 x11)) (s_pure (p_mv g3)) ?_
                      refine wo_step (v := (.s s25)) (s_pure (p_mv g8)) ?_
                      refine wo_step (v := (.s s25)) (s_pure (p_mv g8)) ?_
                      have hq := bindO_inv hr
                      clear hr
                      obtain ⟨v87, e87, hr⟩ := hq
                      have hq := asI_inv hr
                      clear hr
                      obtain ⟨x87, rfl, hr⟩ := hq
                      refine wo_step (v := (.i .i64 x87)) (s_pure (o_len rfl e87)) ?_
                      have hq := forceI_inv hr
                      clear hr
                      obtain ⟨x88, e88, hr⟩ := hq
                      refine wo_step (v := (.i .i64 x88)) (s_pure (p_bin rfl rfl (b_sub.trans (ci e88)))) ?_
                      have hq := bindO_inv hr
                      clear hr
                      obtain ⟨v89, e89, hr⟩ := hq
                      have hq := asS_inv hr
                      clear hr
                      obtain ⟨s89, rfl, hr⟩ := hq
                      refine wo_step (v := (.s s89)) (s_pure (o_slStr rfl on (os rfl) e89)) ?_
                      have hq := bindP_inv hr
                      clear hr
                      obtain ⟨v90, m_8, e90, hr⟩ := hq
                      refine wo_step (v := v90) (s_call (mc rfl (mc rfl mn)) (callM_le hM.call e90)) ?_
                      refine wo_step (v := v90) (s_pure (p_mv rfl)) ?_
                      have hq := bindO_inv hr
                      clear hr
                      obtain ⟨v91, e91, hr⟩ := hq
                      have hq := asS_inv hr
                      clear hr
                      obtain ⟨s91, rfl, hr⟩ := hq
                      refine wo_step (v := (.s s91)) (s_pure (o_ext rfl e91)) ?_
                      have hq := bindO_inv hr
                      clear hr
                      obtain ⟨v92, e92, hr⟩ := hq
                      have hq := asI_inv hr
                      clear hr
                      obtain ⟨x92, rfl, hr⟩ := hq
                      refine wo_step (v := (.i .i64 x92)) (s_pure (o_ext rfl e92)) ?_
                      refine wo_step (v := (.i .i64 x92)) (s_pure (p_mv rfl)) ?_
                      refine wo_nil ?_
                      refine nx_norm ?_
                      refine w_seq ?_
                      refine w_seq ?_
                      refine w_ops ?_
                      refine wo_step (v := (.i .i64 x82)) (s_pure (p_mv rfl)) ?_
                      have hq := forceB_inv hr
                      clear hr
                      obtain ⟨c94, e94, hr⟩ := hq
                      refine wo_step (v := (.b c94)) (s_pure (p_bin rfl rfl (b_neq.trans (cb e94)))) ?_
                      refine wo_step (v := (.b c94)) (s_pure (p_mv rfl)) ?_
                      have hq := bindO_inv hr
                      clear hr
                      obtain ⟨o_9, hr, hk⟩ := hq
                      refine wo_join 3 (g9_J9 x11 s25 m_8 o_9) ?_ ?_
                      · clear hk
                        have hq := cond_inv hr
                        clear hr
                        rcases hq with ⟨rfl, hr⟩ | ⟨rfl, hr⟩
                        · refine wo_skip (v := (.b true)) rfl rfl ?_
                          refine wo_skip (v := (.b true)) rfl rfl ?_
                          refine wo_step (v := (.b true)) (s_pure (p_pickT rfl rfl)) ?_
                          refine wo_nil ?_
                          cases hr
                          exact ⟨_, _, rfl, rfl, gl rfl, gl g3, gl g8⟩
                        · refine wo_take (v := (.i .i64 x92)) rfl (s_pure (p_mv rfl)) ?_
                          have hq := forceB_inv hr
                          clear hr
                          obtain ⟨c97, e97, hr⟩ := hq
                          refine wo_take (v := (.b c97)) rfl (s_pure (p_bin rfl rfl (b_neq.trans (cb e97)))) ?_
                          refine wo_step (v := (.b c97)) (s_pure (p_pickF rfl rfl)) ?_
                          refine wo_nil ?_
                          cases hr
                          exact ⟨_, _, rfl, rfl, gl rfl, gl g3, gl g8⟩
                      · clear hr
                        have hr := hk
                        clear hk
                        obtain ⟨c98, ho⟩ : ∃ z, z = o_9 := ⟨_, rfl⟩
                        subst ho
                        rintro mm_8 t_9 ⟨rfl, g98, g3, g8⟩
                        refine wo_nil ?_
                        refine nx_norm ?_
                        have hq := cond_inv hr
                        clear hr
                        rcases hq with ⟨rfl, hr⟩ | ⟨rfl, hr⟩
                        · refine w_condT g98 ?_
                          refine w_seq ?_
                          refine w_ops ?_
                          refine wo_step (v := (.b false)) (s_pure (p_mv rfl)) ?_
                          refine wo_nil ?_
                          refine nx_norm ?_
                          refine w_ret ?_
                          refine nx_ret ?_
                          cases hr
                          exact ⟨_, _, rfl, rfl, rfl, gl rfl⟩
                        · refine w_condF g98 ?_
                          refine w_skip ?_
                          refine nx_norm ?_
                          refine w_seq ?_
                          refine w_ops ?_
                          refine wo_step (v := (.i .i64 x11)) (s_pure (p_mv g3)) ?_
                          refine wo_step (v := (.s s25)) (s_pure (p_mv g8)) ?_
                          have hq := bindO_inv hr
                          clear hr
                          obtain ⟨v102, e102, hr⟩ := hq
                          have hq := asI_inv hr
                          clear hr
                          obtain ⟨x102, rfl, hr⟩ := hq
                          refine wo_step (v := (.i .i64 x102)) (s_pure (o_len rfl e102)) ?_
                          have hq := forceI_inv hr
                          clear hr
                          obtain ⟨x103, e103, hr⟩ := hq
                          refine wo_step (v := (.i .i64 x103)) (s_pure (p_bin rfl rfl (b_sub.trans (ci e103)))) ?_
                          have hq := bindP_inv hr
                          clear hr
                          obtain ⟨v104, m_9, e104, hr⟩ := hq
                          refine wo_step (v := v104) (s_call (mc rfl (mc rfl mn)) (callM_le hM.call e104)) ?_
                          refine wo_step (v := v104) (s_pure (p_mv rfl)) ?_
                          have hq := bindO_inv hr
                          clear hr
                          obtain ⟨v105, e105, hr⟩ := hq
                          have hq := asS_inv hr
                          clear hr
                          obtain ⟨s105, rfl, hr⟩ := hq
                          refine wo_step (v := (.s s105)) (s_pure (o_ext rfl e105)) ?_
                          have hq := bindO_inv hr
                          clear hr
                          obtain ⟨v106, e106, hr⟩ := hq
                          have hq := asI_inv hr
                          clear hr
                          obtain ⟨x106, rfl, hr⟩ := hq
                          refine wo_step (v := (.i .i64 x106)) (s_pure (o_ext rfl e106)) ?_
                          refine wo_step (v := (.i .i64 x106)) (s_pure (p_mv rfl)) ?_
                          refine wo_nil ?_
                          refine nx_norm ?_
                          refine w_seq ?_
                          refine w_ops ?_
                          refine wo_step (v := (.i .i64 x106)) (s_pure (p_mv rfl)) ?_
                          have hq := forceB_inv hr
                          clear hr
                          obtain ⟨c108, e108, hr⟩ := hq
                          refine wo_step (v := (.b c108)) (s_pure (p_bin rfl rfl (b_neq.trans (cb e108)))) ?_
                          refine wo_nil ?_
                          refine nx_norm ?_
                          have hq := cond_inv hr
                          clear hr
                          rcases hq with ⟨rfl, hr⟩ | ⟨rfl, hr⟩
                          · refine w_condT rfl ?_
                            refine w_seq ?_
                            refine w_ops ?_
                            refine wo_step (v := (.b false)) (s_pure (p_mv rfl)) ?_
                            refine wo_nil ?_
                            refine nx_norm ?_
                            refine w_ret ?_
                            cases hr
                            exact ⟨_, _, rfl, rfl, rfl, gl rfl⟩
                          · refine w_condF rfl ?_
                            refine w_skip ?_
                            cases hr
                            exact ⟨_, _, rfl, rfl, rfl⟩
                    · refine w_condF rfl ?_
                      refine w_skip ?_
                      cases hr
                      exact ⟨_, _, rfl, rfl, rfl⟩
                  · have hr := hk
                    clear hk
                    rcases o_8 with o_8 | o_8
                    · obtain ⟨m_10, ho⟩ : ∃ z, z = o_8 := ⟨_, rfl⟩
                      subst ho
                      rintro _ mm_9 t_10 ⟨rfl, rfl⟩
                      refine nx_norm ?_
                      refine w_seq ?_
                      refine w_ops ?_
                      have hq := bindP_inv hr
                      clear hr
                      obtain ⟨v109, m_11, e109, hr⟩ := hq
                      have hq := asB_inv hr
                      clear hr
                      obtain ⟨c109, rfl, hr⟩ := hq
                      refine wo_step (v := (.b c109)) (s_call mn (callM_le hM.call e109)) ?_
                      refine wo_step (v := (.b c109)) (s_pure (p_mv rfl)) ?_
                      refine wo_nil ?_
                      refine nx_norm ?_
                      refine w_ret ?_
                      exact qf ret_ok (rt rfl rn) hr
                    · obtain ⟨c2, m_12⟩ := o_8
                      rintro _ mm_10 t_11 ⟨rfl, rfl, g2⟩
                      refine nx_ret ?_
                      exact qf ret_ok (rt g2 rn) hr

/- dibber/dibberlaw02.WeedAdds -/
abbrev g14_J0 (s1 : List UInt8) (x2 : Int) (x23 : Int) (c27 : Bool) (m_1 : Mm) (o : Bool) (m1 : Mm) (t1 : Tr) : Prop :=
  match o with
  | c64 => m_1 = m1 ∧ t1.get 64 = (.b c64) ∧ t1.get 1 = (.s s1) ∧ t1.get 2 = (.i .u64 x2) ∧ t1.get 7 = (.i .i64 x23) ∧ t1.get 8 = (.b c27)
abbrev g14_J1 (s1 : List UInt8) (x2 : Int) (x23 : Int) (c27 : Bool) (m_1 : Mm) (o : Bool) (m1 : Mm) (t1 : Tr) : Prop :=
  match o with
  | c64_1 => m_1 = m1 ∧ t1.get 64 = (.b c64_1) ∧ t1.get 1 = (.s s1) ∧ t1.get 2 = (.i .u64 x2) ∧ t1.get 7 = (.i .i64 x23) ∧ t1.get 8 = (.b c27)
abbrev g14_J2 (s1 : List UInt8) (x2 : Int) (x23 : Int) (c27 : Bool) (m_1 : Mm) (o : Bool) (m1 : Mm) (t1 : Tr) : Prop :=
  match o with
  | c64_2 => m_1 = m1 ∧ t1.get 64 = (.b c64_2) ∧ t1.get 1 = (.s s1) ∧ t1.get 2 = (.i .u64 x2) ∧ t1.get 7 = (.i .i64 x23) ∧ t1.get 8 = (.b c27)
abbrev g14_J3 (s1 : List UInt8) (x2 : Int) (x23 : Int) (c27 : Bool) (m_1 : Mm) (o : Bool) (m1 : Mm) (t1 : Tr) : Prop :=
  match o with
  | c64_3 => m_1 = m1 ∧ t1.get 64 = (.b c64_3) ∧ t1.get 1 = (.s s1) ∧ t1.get 2 = (.i .u64 x2) ∧ t1.get 7 = (.i .i64 x23) ∧ t1.get 8 = (.b c27)
abbrev g14_J4 (s1 : List UInt8) (x2 : Int) (x23 : Int) (c27 : Bool) (m_1 : Mm) (o : Bool) (m1 : Mm) (t1 : Tr) : Prop :=
  match o with
  | c64_4 => m_1 = m1 ∧ t1.get 64 = (.b c64_4) ∧ t1.get 1 = (.s s1) ∧ t1.get 2 = (.i .u64 x2) ∧ t1.get 7 = (.i .i64 x23) ∧ t1.get 8 = (.b c27)
abbrev g14_J5 (s1 : List UInt8) (x2 : Int) (x23 : Int) (c27 : Bool) (m_1 : Mm) (o : Bool) (m1 : Mm) (t1 : Tr) : Prop :=
  match o with
  | c64_5 => m_1 = m1 ∧ t1.get 64 = (.b c64_5) ∧ t1.get 1 = (.s s1) ∧ t1.get 2 = (.i .u64 x2) ∧ t1.get 7 = (.i .i64 x23) ∧ t1.get 8 = (.b c27)
abbrev g14_J6 (s1 : List UInt8) (x2 : Int) (x23 : Int) (c27 : Bool) (m_1 : Mm) (o : Bool) (m1 : Mm) (t1 : Tr) : Prop :=
  match o with
  | c64_6 => m_1 = m1 ∧ t1.get 64 = (.b c64_6) ∧ t1.get 1 = (.s s1) ∧ t1.get 2 = (.i .u64 x2) ∧ t1.get 7 = (.i .i64 x23) ∧ t1.get 8 = (.b c27)
abbrev g14_J7 (s1 : List UInt8) (x2 : Int) (x23 : Int) (c27 : Bool) (m_1 : Mm) (o : Bool) (m1 : Mm) (t1 : Tr) : Prop :=
  match o with
  | c64_7 => m_1 = m1 ∧ t1.get 64 = (.b c64_7) ∧ t1.get 1 = (.s s1) ∧ t1.get 2 = (.i .u64 x2) ∧ t1.get 7 = (.i .i64 x23) ∧ t1.get 8 = (.b c27)
abbrev g14_J8 (s1 : List UInt8) (x2 : Int) (x23 : Int) (o : Bool × Mm) (m1 : Mm) (t1 : Tr) : Prop :=
  match o with
  | (c71, m_2) => m_2 = m1 ∧ t1.get 71 = (.b c71) ∧ t1.get 1 = (.s s1) ∧ t1.get 2 = (.i .u64 x2) ∧ t1.get 7 = (.i .i64 x23)
abbrev g14_I9 (s1 : List UInt8) (x2 : Int) (x23 : Int) (x74 : Int) (v76 : AVal) (s : Int × Mm) (m1 : Mm) (t1 : Tr) : Prop :=
  match s with
  | (x12, m_6) => m_6 = m1 ∧ t1.get 12 = (.i .i64 x12) ∧ t1.get 1 = (.s s1) ∧ t1.get 2 = (.i .u64 x2) ∧ t1.get 7 = (.i .i64 x23) ∧ t1.get 10 = (.i .i64 x74) ∧ t1.get 11 = v76
abbrev g14_J9 (s1 : List UInt8) (x2 : Int) (x23 : Int) (x74 : Int) (v76 : AVal) (o : Mm) (e : AExit) (m1 : Mm) (t1 : Tr) : Prop :=
  match o with
  | mo => e = (.exit 0) ∧ mo = m1 ∧ t1.get 1 = (.s s1) ∧ t1.get 7 = (.i .i64 x23) ∧ t1.get 10 = (.i .i64 x74) ∧ t1.get 11 = v76
def g14_b9 (M : Means) (ro : List ABlk) (s1 : List UInt8) (x2 : Int) (x23 : Int) (x74 : Int) (v76 : AVal) (x12 : Int) (m_6 : Mm) : Option ((Int × Mm) ⊕ (Mm)) :=
  forceB (ltI x12 x74) fun c79 =>
  cond c79 (
    chk (!ltI x12 (.ofNat 0)) <|
    forceI (shrV .u64 x2 x12) fun x86 =>
    forceI (Int.tmod x86 2) fun x87 =>
    bindO (evP .e (.ixStr (.c (AVal.s [48, 49])) (.c (.i .u64 x87)))) fun v88 =>
    asI .u8 v88 fun x88 =>
    bindO (evP .e (.ixS 1 (.c v76) (.c (.i .i64 x12)))) fun v89 =>
    bindP (stepM ro m_6 (.st 1 (.c v89) (.c (.i .u8 x88)))) fun vn m_7 =>
    forceI (wr .i64 (x12 + 1)) fun x81 =>
    some (.inl (x81, m_7))) (
    some (.inr m_6))
abbrev g14_J10 (x74 : Int) (s94 : List UInt8) (s101 : List UInt8) (s110 : List UInt8) (x111 : Int) (x116 : Int) (x117 : Int) (x123 : Int) (x124 : Int) (m_15 : Mm) (o : Bool) (m1 : Mm) (t1 : Tr) : Prop :=
  match o with
  | c130 => m_15 = m1 ∧ t1.get 130 = (.b c130) ∧ t1.get 10 = (.i .i64 x74) ∧ t1.get 13 = (.s s94) ∧ t1.get 14 = (.s s101) ∧ t1.get 16 = (.s s110) ∧ t1.get 17 = (.i .i64 x111) ∧ t1.get 18 = (.i .i64 x116) ∧ t1.get 19 = (.i .i64 x117) ∧ t1.get 20 = (.i .i64 x123) ∧ t1.get 21 = (.i .i64 x124)
abbrev g14_J11 (x74 : Int) (s94 : List UInt8) (s101 : List UInt8) (s110 : List UInt8) (x116 : Int) (x117 : Int) (x123 : Int) (x124 : Int) (m_15 : Mm) (o : Bool) (m1 : Mm) (t1 : Tr) : Prop :=
  match o with
  | c134 => m_15 = m1 ∧ t1.get 134 = (.b c134) ∧ t1.get 10 = (.i .i64 x74) ∧ t1.get 13 = (.s s94) ∧ t1.get 14 = (.s s101) ∧ t1.get 16 = (.s s110) ∧ t1.get 18 = (.i .i64 x116) ∧ t1.get 19 = (.i .i64 x117) ∧ t1.get 20 = (.i .i64 x123) ∧ t1.get 21 = (.i .i64 x124)
abbrev g14_J12 (x74 : Int) (s94 : List UInt8) (s101 : List UInt8) (s110 : List UInt8) (x116 : Int) (x123 : Int) (x124 : Int) (m_15 : Mm) (o : Bool) (m1 : Mm) (t1 : Tr) : Prop :=
  match o with
  | c138 => m_15 = m1 ∧ t1.get 138 = (.b c138) ∧ t1.get 10 = (.i .i64 x74) ∧ t1.get 13 = (.s s94) ∧ t1.get 14 = (.s s101) ∧ t1.get 16 = (.s s110) ∧ t1.get 18 = (.i .i64 x116) ∧ t1.get 20 = (.i .i64 x123) ∧ t1.get 21 = (.i .i64 x124)
abbrev g14_J13 (x74 : Int) (s94 : List UInt8) (s101 : List UInt8) (s110 : List UInt8) (x116 : Int) (x123 : Int) (m_15 : Mm) (o : Bool) (m1 : Mm) (t1 : Tr) : Prop :=
  match o with
  | c142 => m_15 = m1 ∧ t1.get 142 = (.b c142) ∧ t1.get 10 = (.i .i64 x74) ∧ t1.get 13 = (.s s94) ∧ t1.get 14 = (.s s101) ∧ t1.get 16 = (.s s110) ∧ t1.get 18 = (.i .i64 x116) ∧ t1.get 20 = (.i .i64 x123)
abbrev g14_J14 (x74 : Int) (s94 : List UInt8) (s101 : List UInt8) (s110 : List UInt8) (x116 : Int) (x123 : Int) (m_15 : Mm) (o : Bool) (m1 : Mm) (t1 : Tr) : Prop :=
  match o with
  | c148 => m_15 = m1 ∧ t1.get 148 = (.b c148) ∧ t1.get 10 = (.i .i64 x74) ∧ t1.get 13 = (.s s94) ∧ t1.get 14 = (.s s101) ∧ t1.get 16 = (.s s110) ∧ t1.get 18 = (.i .i64 x116) ∧ t1.get 20 = (.i .i64 x123)
abbrev g14_J15 (s94 : List UInt8) (s101 : List UInt8) (s110 : List UInt8) (x116 : Int) (x123 : Int) (m_15 : Mm) (o : Bool) (m1 : Mm) (t1 : Tr) : Prop :=
  match o with
  | c154 => m_15 = m1 ∧ t1.get 154 = (.b c154) ∧ t1.get 13 = (.s s94) ∧ t1.get 14 = (.s s101) ∧ t1.get 16 = (.s s110) ∧ t1.get 18 = (.i .i64 x116) ∧ t1.get 20 = (.i .i64 x123)
abbrev g14_J16 (x116 : Int) (x123 : Int) (o : Bool × Mm) (m1 : Mm) (t1 : Tr) : Prop :=
  match o with
  | (c161, m_16) => m_16 = m1 ∧ t1.get 161 = (.b c161) ∧ t1.get 18 = (.i .i64 x116) ∧ t1.get 20 = (.i .i64 x123)
abbrev g14_J17 (m_16 : Mm) (o : Bool) (m1 : Mm) (t1 : Tr) : Prop :=
  match o with
  | c170 => m_16 = m1 ∧ t1.get 170 = (.b c170)
abbrev g14_J18 (m_16 : Mm) (o : Bool) (m1 : Mm) (t1 : Tr) : Prop :=
  match o with
  | c170_1 => m_16 = m1 ∧ t1.get 170 = (.b c170_1)
abbrev g14_J19  (o : Bool × Mm) (m1 : Mm) (t1 : Tr) : Prop :=
  match o with
  | (c173, m_18) => m_18 = m1 ∧ t1.get 173 = (.b c173)
def g14 (M : Means) (ro : List ABlk) (x0 : Int) (s1 : List UInt8) (x2 : Int) (m0 : Mm) : Option (AVal × Heap × Nat × Nat) :=
  forceI (wr .i64 x0) fun x23 =>
  bindP (callM M.call m0 38 [(.i .i64 x23)]) fun v26 m_1 =>
  bindO (evP .e (.ext 0 (.c v26))) fun v27 =>
  asB v27 fun c27 =>
  bindO (evP .e (.ext 1 (.c v26))) fun v28 =>
  asI .i64 v28 fun x28 =>
  forceB (!eqI x28 0) fun c30 =>
  bindO (cond c30 (
    some true) (
    forceB (eqI x23 0) fun c34 =>
    bindO (cond c34 (
      forceB (!(c27 == true)) fun c63 =>
      some c63) (
      forceB (eqI x23 60) fun c37 =>
      bindO (cond c37 (
        forceB (!(c27 == true)) fun c63_1 =>
        some c63_1) (
        forceB (eqI x23 90) fun c41 =>
        bindO (cond c41 (
          forceB (!(c27 == true)) fun c63_2 =>
          some c63_2) (
          forceB (eqI x23 102) fun c45 =>
          bindO (cond c45 (
            forceB (!(c27 == true)) fun c63_3 =>
            some c63_3) (
            forceB (eqI x23 150) fun c49 =>
            bindO (cond c49 (
              forceB (!(c27 == true)) fun c63_4 =>
              some c63_4) (
              forceB (eqI x23 170) fun c53 =>
              bindO (cond c53 (
                forceB (!(c27 == true)) fun c63_5 =>
                some c63_5) (
                forceB (eqI x23 204) fun c57 =>
                bindO (cond c57 (
                  forceB (!(c27 == true)) fun c63_6 =>
                  some c63_6) (
                  forceB (eqI x23 240) fun c61 =>
                  forceB (!(c27 == c61)) fun c63_7 =>
                  some c63_7)) fun c64_7 =>
                some c64_7)) fun c64_6 =>
              some c64_6)) fun c64_5 =>
            some c64_5)) fun c64_4 =>
          some c64_4)) fun c64_3 =>
        some c64_3)) fun c64_2 =>
      some c64_2)) fun c64_1 =>
    some c64_1)) fun c64 =>
  cond c64 (
    finM m0.h.length (tupA [(.b false)]) m_1) (
    forceB (!c27) fun c66 =>
    bindO (cond c66 (
      some (true, m_1)) (
      bindP (callM M.call m_1 43 [(.s s1), (.i .i64 50)]) fun v69 m_3 =>
      asI .i64 v69 fun x69 =>
      forceB (!eqI x69 0) fun c70 =>
      some (c70, m_3))) fun ⟨c71, m_2⟩ =>
    cond c71 (
      bindP (callM M.call m_2 15 []) fun v72 m_4 =>
      asB v72 fun c72 =>
      finM m0.h.length (tupA [(.b c72)]) m_4) (
      bindO (evP .e (.len true (.c (.s s1)))) fun v74 =>
      asI .i64 v74 fun x74 =>
      bindP (stepM ro m_2 (.mk 5 1 1 [(AVal.i IntKind.u8 0)] (.c (.i .i64 x74)) (.c (.i .i64 x74)))) fun v76 m_5 =>
      bindO (M.loop (S := Int × Mm) (R := Mm) (fun s => g14_b9 M ro s1 x2 x23 x74 v76 s.1 s.2) (0, m_5)) fun m_8 =>
      bindP (callM M.call m_8 18 [(.i .i64 x23), (.s s1), (.i .i64 1)]) fun v93 m_9 =>
      bindO (evP .e (.ext 0 (.c v93))) fun v94 =>
      asS v94 fun s94 =>
      bindO (evP .e (.ext 1 (.c v93))) fun v95 =>
      asI .i64 v95 fun x95 =>
      bindO (btsM ro m_9 v76) fun v99 =>
      asS v99 fun s99 =>
      bindP (callM M.call m_9 18 [(.i .i64 x23), (.s s99), (.i .i64 1)]) fun v100 m_10 =>
      bindO (evP .e (.ext 0 (.c v100))) fun v101 =>
      asS v101 fun s101 =>
      bindO (evP .e (.ext 1 (.c v100))) fun v102 =>
      asI .i64 v102 fun x102 =>
      bindO (btsM ro m_10 v76) fun v107 =>
      asS v107 fun s107 =>
      bindP (callM M.call m_10 44 [(.s s1), (.s s107)]) fun v108 m_11 =>
      asS v108 fun s108 =>
      bindP (callM M.call m_11 18 [(.i .i64 x23), (.s s108), (.i .i64 1)]) fun v109 m_12 =>
      bindO (evP .e (.ext 0 (.c v109))) fun v110 =>
      asS v110 fun s110 =>
      bindO (evP .e (.ext 1 (.c v109))) fun v111 =>
      asI .i64 v111 fun x111 =>
      bindP (callM M.call m_12 22 [(.i .i64 x23), (.s s1)]) fun v115 m_13 =>
      bindO (evP .e (.ext 0 (.c v115))) fun v116 =>
      asI .i64 v116 fun x116 =>
      bindO (evP .e (.ext 1 (.c v115))) fun v117 =>
      asI .i64 v117 fun x117 =>
      bindP (callM M.call m_13 40 [(.i .i64 0), (.i .i64 x74)]) fun v121 m_14 =>
      asS v121 fun s121 =>
      bindP (callM M.call m_14 22 [(.i .i64 x23), (.s s121)]) fun v122 m_15 =>
      bindO (evP .e (.ext 0 (.c v122))) fun v123 =>
      asI .i64 v123 fun x123 =>
      bindO (evP .e (.ext 1 (.c v122))) fun v124 =>
      asI .i64 v124 fun x124 =>
      forceB (eqI x95 0) fun c126 =>
      bindO (cond c126 (
        forceB (eqI x102 0) fun c129 =>
        some c129) (
        some false)) fun c130 =>
      bindO (cond c130 (
        forceB (eqI x111 0) fun c133 =>
        some c133) (
        some false)) fun c134 =>
      bindO (cond c134 (
        forceB (eqI x117 0) fun c137 =>
        some c137) (
        some false)) fun c138 =>
      bindO (cond c138 (
        forceB (eqI x124 0) fun c141 =>
        some c141) (
        some false)) fun c142 =>
      bindO (cond c142 (
        bindO (evP .e (.len true (.c (.s s94)))) fun v145 =>
        asI .i64 v145 fun x145 =>
        forceB (eqI x145 x74) fun c147 =>
        some c147) (
        some false)) fun c148 =>
      bindO (cond c148 (
        bindO (evP .e (.len true (.c (.s s101)))) fun v151 =>
        asI .i64 v151 fun x151 =>
        forceB (eqI x151 x74) fun c153 =>
        some c153) (
        some false)) fun c154 =>
      bindO (cond c154 (
        bindP (callM M.call m_15 44 [(.s s94), (.s s101)]) fun v159 m_17 =>
        asS v159 fun s159 =>
        bindO (evP .e (.sbin BinOp.eql (.c (.s s110)) (.c (.s s159)))) fun v160 =>
        asB v160 fun c160 =>
        some (c160, m_17)) (
        some (false, m_15))) fun ⟨c161, m_16⟩ =>
      bindO (cond c161 (
        forceB (eqI x116 0) fun c164 =>
        bindO (cond c164 (
          some true) (
          forceB (eqI x116 x123) fun c168 =>
          some c168)) fun c170_1 =>
        some c170_1) (
        some false)) fun c170 =>
      bindO (cond c170 (
        bindP (callM M.call m_16 15 []) fun v172 m_19 =>
        asB v172 fun c172 =>
        some (c172, m_19)) (
        some (false, m_16))) fun ⟨c173, m_18⟩ =>
      finM m0.h.length (tupA [(.b c173)]) m_18))

theorem g14_ok {ro : List ABlk} {O : Caller} {M : Means} (hM : M.Ok ⟨F, O⟩ ro) {x0 s1 x2 h r} (ho : O 14 [(.i .u8 x0), (.s s1), (.i .u64 x2)] h = none) (hr : g14 M ro x0 s1 x2 ⟨h, h.length, h.length⟩ = some r) : callX ⟨F, O⟩ ro 14 [(.i .u8 x0), (.s s1), (.i .u64 x2)] h = some r := by
  refine callX_of (F := ⟨F, O⟩) (fn := fn14) (g := g14 M ro x0 s1 x2) ho rfl rfl hr ?_
  clear ho
  clear hr
  intro m0 t0 ht hr
  have g0 : t0.get 0 = (.i .u8 x0) := ht 0
  have g1 : t0.get 1 = (.s s1) := ht 1
  have g2 : t0.get 2 = (.i .u64 x2) := ht 2
  clear ht
  unfold g14 at hr
  refine w_seq ?_
  refine w_ops ?_
  refine wo_step (v := (.b false)) (s_pure (p_mv rfl)) ?_
  refine wo_nil ?_
  refine nx_norm ?_
  refine w_seq ?_
  refine w_ops ?_
  refine wo_step (v := (.i .u8 x0)) (s_pure (p_mv g0)) ?_
  have hq := forceI_inv hr
  clear hr
  obtain ⟨x23, e23, hr⟩ := hq
  refine wo_step (v := (.i .i64 x23)) (s_pure ((p_conv rfl).trans (ci e23))) ?_
  refine wo_step (v := (.i .i64 x23)) (s_pure (p_mv rfl)) ?_
  refine wo_nil ?_
  refine nx_norm ?_
  refine w_seq ?_
  refine w_ops ?_
  refine wo_step (v := (.i .i64 x23)) (s_pure (p_mv rfl)) ?_
  have hq := bindP_inv hr
  clear hr
  obtain ⟨v26, m_1, e26, hr⟩ := hq
  refine wo_step (v := v26) (s_call (mc rfl mn) (callM_le hM.call e26)) ?_
  refine wo_step (v := v26) (s_pure (p_mv rfl)) ?_
  have hq := bindO_inv hr
  clear hr
  obtain ⟨v27, e27, hr⟩ := hq
  have hq := asB_inv hr
  clear hr
  obtain ⟨c27, rfl, hr⟩ := hq
  refine wo_step (v := (.b c27)) (s_pure (o_ext rfl e27)) ?_
  have hq := bindO_inv hr
  clear hr
  obtain ⟨v28, e28, hr⟩ := hq
  have hq := asI_inv hr
  clear hr
  obtain ⟨x28, rfl, hr⟩ := hq
  refine wo_step (v := (.i .i64 x28)) (s_pure (o_ext rfl e28)) ?_
  refine wo_step (v := (.b c27)) (s_pure (p_mv rfl)) ?_
  refine wo_step (v := (.i .i64 x28)) (s_pure (p_mv rfl)) ?_
  refine wo_nil ?_
  refine nx_norm ?_
  refine w_seq ?_
  refine w_seq ?_
  refine w_ops ?_
  refine wo_step (v := (.i .i64 x28)) (s_pure (p_mv rfl)) ?_
  have hq := forceB_inv hr
  clear hr
  obtain ⟨c30, e30, hr⟩ := hq
  refine wo_step (v := (.b c30)) (s_pure (p_bin rfl rfl (b_neq.trans (cb e30)))) ?_
  refine wo_step (v := (.b c30)) (s_pure (p_mv rfl)) ?_
  have hq := bindO_inv hr
  clear hr
  obtain ⟨o, hr, hk⟩ := hq
  refine wo_join 33 (g14_J0 s1 x2 x23 c27 m_1 o) ?_ ?_
  · clear hk
    have hq := cond_inv hr
    clear hr
    rcases hq with ⟨rfl, hr⟩ | ⟨rfl, hr⟩
    · refine wo_skip (v := (.b true)) rfl rfl ?_
      refine wo_skip (v := (.b true)) rfl rfl ?_
      refine wo_skip (v := (.b true)) rfl rfl ?_
      refine wo_skip (v := (.b true)) rfl rfl ?_
      refine wo_skip (v := und) rfl rfl ?_
      refine wo_skip (v := und) rfl rfl ?_
      refine wo_skip (v := (.b true)) rfl rfl ?_
      refine wo_skip (v := (.b true)) rfl rfl ?_
      refine wo_skip (v := und) rfl rfl ?_
      refine wo_skip (v := und) rfl rfl ?_
      refine wo_skip (v := (.b true)) rfl rfl ?_
      refine wo_skip (v := (.b true)) rfl rfl ?_
      refine wo_skip (v := und) rfl rfl ?_
      refine wo_skip (v := und) rfl rfl ?_
      refine wo_skip (v := (.b true)) rfl rfl ?_
      refine wo_skip (v := (.b true)) rfl rfl ?_
      refine wo_skip (v := und) rfl rfl ?_
      refine wo_skip (v := und) rfl rfl ?_
      refine wo_skip (v := (.b true)) rfl rfl ?_
      refine wo_skip (v := (.b true)) rfl rfl ?_
      refine wo_skip (v := und) rfl rfl ?_
      refine wo_skip (v := und) rfl rfl ?_
      refine wo_skip (v := (.b true)) rfl rfl ?_
      refine wo_skip (v := (.b true)) rfl rfl ?_
      refine wo_skip (v := und) rfl rfl ?_
      refine wo_skip (v := und) rfl rfl ?_
      refine wo_skip (v := (.b true)) rfl rfl ?_
      refine wo_skip (v := (.b true)) rfl rfl ?_
      refine wo_skip (v := und) rfl rfl ?_
      refine wo_skip (v := und) rfl rfl ?_
      refine wo_skip (v := (.b true)) rfl rfl ?_
      refine wo_skip (v := (.b true)) rfl rfl ?_
      refine wo_step (v := (.b true)) (s_pure (p_pickT rfl rfl)) ?_
      refine wo_nil ?_
      cases hr
      exact ⟨_, _, rfl, rfl, gl rfl, gl g1, gl g2, gl rfl, gl rfl⟩
    · refine wo_take (v := (.b c27)) rfl (s_pure (p_mv rfl)) ?_
      refine wo_take (v := (.i .i64 x23)) rfl (s_pure (p_mv rfl)) ?_
      have hq := forceB_inv hr
      clear hr
      obtain ⟨c34, e34, hr⟩ := hq
      refine wo_take (v := (.b c34)) rfl (s_pure (p_bin rfl rfl (b_eql.trans (cb e34)))) ?_
      refine wo_take (v := (.b c34)) rfl (s_pure (p_mv rfl)) ?_
      have hq := bindO_inv hr
      clear hr
      obtain ⟨o_1, hr, hk⟩ := hq
      refine wo_join 29 (g14_J1 s1 x2 x23 c27 m_1 o_1) ?_ ?_
      · clear hk
        have hq := cond_inv hr
        clear hr
        rcases hq with ⟨rfl, hr⟩ | ⟨rfl, hr⟩
        · refine wo_skip (v := (.b true)) rfl rfl ?_
          refine wo_skip (v := (.b true)) rfl rfl ?_
          refine wo_take (v := (.b true)) rfl (s_pure (p_pickT rfl rfl)) ?_
          refine wo_take (v := (.b true)) rfl (s_pure (p_mv rfl)) ?_
          refine wo_skip (v := (.b true)) rfl rfl ?_
          refine wo_skip (v := (.b true)) rfl rfl ?_
          refine wo_take (v := (.b true)) rfl (s_pure (p_pickT rfl rfl)) ?_
          refine wo_take (v := (.b true)) rfl (s_pure (p_mv rfl)) ?_
          refine wo_skip (v := (.b true)) rfl rfl ?_
          refine wo_skip (v := (.b true)) rfl rfl ?_
          refine wo_take (v := (.b true)) rfl (s_pure (p_pickT rfl rfl)) ?_
          refine wo_take (v := (.b true)) rfl (s_pure (p_mv rfl)) ?_
          refine wo_skip (v := (.b true)) rfl rfl ?_
          refine wo_skip (v := (.b true)) rfl rfl ?_
          refine wo_take (v := (.b true)) rfl (s_pure (p_pickT rfl rfl)) ?_
          refine wo_take (v := (.b true)) rfl (s_pure (p_mv rfl)) ?_
          refine wo_skip (v := (.b true)) rfl rfl ?_
          refine wo_skip (v := (.b true)) rfl rfl ?_
          refine wo_take (v := (.b true)) rfl (s_pure (p_pickT rfl rfl)) ?_
          refine wo_take (v := (.b true)) rfl (s_pure (p_mv rfl)) ?_
          refine wo_skip (v := (.b true)) rfl rfl ?_
          refine wo_skip (v := (.b true)) rfl rfl ?_
          refine wo_take (v := (.b true)) rfl (s_pure (p_pickT rfl rfl)) ?_
          refine wo_take (v := (.b true)) rfl (s_pure (p_mv rfl)) ?_
          refine wo_skip (v := (.b true)) rfl rfl ?_
          refine wo_skip (v := (.b true)) rfl rfl ?_
          refine wo_take (v := (.b true)) rfl (s_pure (p_pickT rfl rfl)) ?_
          have hq := forceB_inv hr
          clear hr
          obtain ⟨c63, e63, hr⟩ := hq
          refine wo_take (v := (.b c63)) rfl (s_pure ((p_beq rfl rfl).trans (cb e63))) ?_
          refine wo_step (v := (.b c63)) (s_pure (p_pickF rfl rfl)) ?_
          refine wo_nil ?_
          cases hr
          exact ⟨_, _, rfl, rfl, gl rfl, gl g1, gl g2, gl rfl, gl rfl⟩
        · refine wo_take (v := (.i .i64 x23)) rfl (s_pure (p_mv rfl)) ?_
          have hq := forceB_inv hr
          clear hr
          obtain ⟨c37, e37, hr⟩ := hq
          refine wo_take (v := (.b c37)) rfl (s_pure (p_bin rfl rfl (b_eql.trans (cb e37)))) ?_
          refine wo_take (v := (.b c37)) rfl (s_pure (p_pickF rfl rfl)) ?_
          refine wo_take (v := (.b c37)) rfl (s_pure (p_mv rfl)) ?_
          have hq := bindO_inv hr
          clear hr
          obtain ⟨o_2, hr, hk⟩ := hq
          refine wo_join 25 (g14_J2 s1 x2 x23 c27 m_1 o_2) ?_ ?_
          · clear hk
            have hq := cond_inv hr
            clear hr
            rcases hq with ⟨rfl, hr⟩ | ⟨rfl, hr⟩
            · refine wo_skip (v := (.b true)) rfl rfl ?_
              refine wo_skip (v := (.b true)) rfl rfl ?_
              refine wo_take (v := (.b true)) rfl (s_pure (p_pickT rfl rfl)) ?_
              refine wo_take (v := (.b true)) rfl (s_pure (p_mv rfl)) ?_
              refine wo_skip (v := (.b true)) rfl rfl ?_
              refine wo_skip (v := (.b true)) rfl rfl ?_
              refine wo_take (v := (.b true)) rfl (s_pure (p_pickT rfl rfl)) ?_
              refine wo_take (v := (.b true)) rfl (s_pure (p_mv rfl)) ?_
              refine wo_skip (v := (.b true)) rfl rfl ?_
              refine wo_skip (v := (.b true)) rfl rfl ?_
              refine wo_take (v := (.b true)) rfl (s_pure (p_pickT rfl rfl)) ?_
              refine wo_take (v := (.b true)) rfl (s_pure (p_mv rfl)) ?_
              refine wo_skip (v := (.b true)) rfl rfl ?_
              refine wo_skip (v := (.b true)) rfl rfl ?_
              refine wo_take (v := (.b true)) rfl (s_pure (p_pickT rfl rfl)) ?_
              refine wo_take (v := (.b true)) rfl (s_pure (p_mv rfl)) ?_
              refine wo_skip (v := (.b true)) rfl rfl ?_
              refine wo_skip (v := (.b true)) rfl rfl ?_
              refine wo_take (v := (.b true)) rfl (s_pure (p_pickT rfl rfl)) ?_
              refine wo_take (v := (.b true)) rfl (s_pure (p_mv rfl)) ?_
              refine wo_skip (v := (.b true)) rfl rfl ?_
              refine wo_skip (v := (.b true)) rfl rfl ?_
              refine wo_take (v := (.b true)) rfl (s_pure (p_pickT rfl rfl)) ?_
              have hq := forceB_inv hr
              clear hr
              obtain ⟨c63_1, e63_1, hr⟩ := hq
              refine wo_take (v := (.b c63_1)) rfl (s_pure ((p_beq rfl rfl).trans (cb e63_1))) ?_
              refine wo_step (v := (.b c63_1)) (s_pure (p_pickF rfl rfl)) ?_
              refine wo_nil ?_
              cases hr
              exact ⟨_, _, rfl, rfl, gl rfl, gl g1, gl g2, gl rfl, gl rfl⟩
            · refine wo_take (v := (.i .i64 x23)) rfl (s_pure (p_mv rfl)) ?_
              have hq := forceB_inv hr
              clear hr
              obtain ⟨c41, e41, hr⟩ := hq
              refine wo_take (v := (.b c41)) rfl (s_pure (p_bin rfl rfl (b_eql.trans (cb e41)))) ?_
              refine wo_take (v := (.b c41)) rfl (s_pure (p_pickF rfl rfl)) ?_
              refine wo_take (v := (.b c41)) rfl (s_pure (p_mv rfl)) ?_
              have hq := bindO_inv hr
              clear hr
              obtain ⟨o_3, hr, hk⟩ := hq
              refine wo_join 21 (g14_J3 s1 x2 x23 c27 m_1 o_3) ?_ ?_
              · clear hk
                have hq := cond_inv hr
                clear hr
                rcases hq with ⟨rfl, hr⟩ | ⟨rfl, hr⟩
                · refine wo_skip (v := (.b true)) rfl rfl ?_
                  refine wo_skip (v := (.b true)) rfl rfl ?_
                  refine wo_take (v := (.b true)) rfl (s_pure (p_pickT rfl rfl)) ?_
                  refine wo_take (v := (.b true)) rfl (s_pure (p_mv rfl)) ?_
                  refine wo_skip (v := (.b true)) rfl rfl ?_
                  refine wo_skip (v := (.b true)) rfl rfl ?_
                  refine wo_take (v := (.b true)) rfl (s_pure (p_pickT rfl rfl)) ?_
                  refine wo_take (v := (.b true)) rfl (s_pure (p_mv rfl)) ?_
                  refine wo_skip (v := (.b true)) rfl rfl ?_
                  refine wo_skip (v := (.b true)) rfl rfl ?_
                  refine wo_take (v := (.b true)) rfl (s_pure (p_pickT rfl rfl)) ?_
                  refine wo_take (v := (.b true)) rfl (s_pure (p_mv rfl)) ?_
                  refine wo_skip (v := (.b true)) rfl rfl ?_
                  refine wo_skip (v := (.b true)) rfl rfl ?_
                  refine wo_take (v := (.b true)) rfl (s_pure (p_pickT rfl rfl)) ?_
                  refine wo_take (v := (.b true)) rfl (s_pure (p_mv rfl)) ?_
                  refine wo_skip (v := (.b true)) rfl rfl ?_
                  refine wo_skip (v := (.b true)) rfl rfl ?_
                  refine wo_take (v := (.b true)) rfl (s_pure (p_pickT rfl rfl)) ?_
                  have hq := forceB_inv hr
                  clear hr
                  obtain ⟨c63_2, e63_2, hr⟩ := hq
                  refine wo_take (v := (.b c63_2)) rfl (s_pure ((p_beq rfl rfl).trans (cb e63_2))) ?_
                  refine wo_step (v := (.b c63_2)) (s_pure (p_pickF rfl rfl)) ?_
                  refine wo_nil ?_
                  cases hr
                  exact ⟨_, _, rfl, rfl, gl rfl, gl g1, gl g2, gl rfl, gl rfl⟩
                · refine wo_take (v := (.i .i64 x23)) rfl (s_pure (p_mv rfl)) ?_
                  have hq := forceB_inv hr
                  clear hr
                  obtain ⟨c45, e45, hr⟩ := hq
                  refine wo_take (v := (.b c45)) rfl (s_pure (p_bin rfl rfl (b_eql.trans (cb e45)))) ?_
                  refine wo_take (v := (.b c45)) rfl (s_pure (p_pickF rfl rfl)) ?_
                  refine wo_take (v := (.b c45)) rfl (s_pure (p_mv rfl)) ?_
                  have hq := bindO_inv hr
                  clear hr
                  obtain ⟨o_4, hr, hk⟩ := hq
                  refine wo_join 17 (g14_J4 s1 x2 x23 c27 m_1 o_4) ?_ ?_
                  · clear hk
                    have hq := cond_inv hr
                    clear hr
                    rcases hq with ⟨rfl, hr⟩ | ⟨rfl, hr⟩
                    · refine wo_skip (v := (.b true)) rfl rfl ?_
                      refine wo_skip (v := (.b true)) rfl rfl ?_
                      refine wo_take (v := (.b true)) rfl (s_pure (p_pickT rfl rfl)) ?_
                      refine wo_take (v := (.b true)) rfl (s_pure (p_mv rfl)) ?_
                      refine wo_skip (v := (.b true)) rfl rfl ?_
                      refine wo_skip (v := (.b true)) rfl rfl ?_
                      refine wo_take (v := (.b true)) rfl (s_pure (p_pickT rfl rfl)) ?_
                      refine wo_take (v := (.b true)) rfl (s_pure (p_mv rfl)) ?_
                      refine wo_skip (v := (.b true)) rfl rfl ?_
                      refine wo_skip (v := (.b true)) rfl rfl ?_
                      refine wo_take (v := (.b true)) rfl (s_pure (p_pickT rfl rfl)) ?_
                      refine wo_take (v := (.b true)) rfl (s_pure (p_mv rfl)) ?_
                      refine wo_skip (v := (.b true)) rfl rfl ?_
                      refine wo_skip (v := (.b true)) rfl rfl ?_
                      refine wo_take (v := (.b true)) rfl (s_pure (p_pickT rfl rfl)) ?_
                      have hq := forceB_inv hr
                      clear hr
                      obtain ⟨c63_3, e63_3, hr⟩ := hq
                      refine wo_take (v := (.b c63_3)) rfl (s_pure ((p_beq rfl rfl).trans (cb e63_3))) ?_
                      refine wo_step (v := (.b c63_3)) (s_pure (p_pickF rfl rfl)) ?_
                      refine wo_nil ?_
                      cases hr
                      exact ⟨_, _, rfl, rfl, gl rfl, gl g1, gl g2, gl rfl, gl rfl⟩
                    · refine wo_take (v := (.i .i64 x23)) rfl (s_pure (p_mv rfl)) ?_
                      have hq := forceB_inv hr
                      clear hr
                      obtain ⟨c49, e49, hr⟩ := hq
                      refine wo_take (v := (.b c49)) rfl (s_pure (p_bin rfl rfl (b_eql.trans (cb e49)))) ?_
                      refine wo_take (v := (.b c49)) rfl (s_pure (p_pickF rfl rfl)) ?_
                      refine wo_take (v := (.b c49)) rfl (s_pure (p_mv rfl)) ?_
                      have hq := bindO_inv hr
                      clear hr
                      obtain ⟨o_5, hr, hk⟩ := hq
                      refine wo_join 13 (g14_J5 s1 x2 x23 c27 m_1 o_5) ?_ ?_
                      · clear hk
                        have hq := cond_inv hr
                        clear hr
                        rcases hq with ⟨rfl, hr⟩ | ⟨rfl, hr⟩
                        · refine wo_skip (v := (.b true)) rfl rfl ?_
                          refine wo_skip (v := (.b true)) rfl rfl ?_
                          refine wo_take (v := (.b true)) rfl (s_pure (p_pickT rfl rfl)) ?_
                          refine wo_take (v := (.b true)) rfl (s_pure (p_mv rfl)) ?_
                          refine wo_skip (v := (.b true)) rfl rfl ?_
                          refine wo_skip (v := (.b true)) rfl rfl ?_
                          refine wo_take (v := (.b true)) rfl (s_pure (p_pickT rfl rfl)) ?_
                          refine wo_take (v := (.b true)) rfl (s_pure (p_mv rfl)) ?_
                          refine wo_skip (v := (.b true)) rfl rfl ?_
                          refine wo_skip (v := (.b true)) rfl rfl ?_
                          refine wo_take (v := (.b true)) rfl (s_pure (p_pickT rfl rfl)) ?_
                          have hq := forceB_inv hr
                          clear hr
                          obtain ⟨c63_4, e63_4, hr⟩ := hq
                          refine wo_take (v := (.b c63_4)) rfl (s_pure ((p_beq rfl rfl).trans (cb e63_4))) ?_
                          refine wo_step (v := (.b c63_4)) (s_pure (p_pickF rfl rfl)) ?_
                          refine wo_nil ?_
                          cases hr
                          exact ⟨_, _, rfl, rfl, gl rfl, gl g1, gl g2, gl rfl, gl rfl⟩
                        · refine wo_take (v := (.i .i64 x23)) rfl (s_pure (p_mv rfl)) ?_
                          have hq := forceB_inv hr
                          clear hr
                          obtain ⟨c53, e53, hr⟩ := hq
                          refine wo_take (v := (.b c53)) rfl (s_pure (p_bin rfl rfl (b_eql.trans (cb e53)))) ?_
                          refine wo_take (v := (.b c53)) rfl (s_pure (p_pickF rfl rfl)) ?_
                          refine wo_take (v := (.b c53)) rfl (s_pure (p_mv rfl)) ?_
                          have hq := bindO_inv hr
                          clear hr
                          obtain ⟨o_6, hr, hk⟩ := hq
                          refine wo_join 9 (g14_J6 s1 x2 x23 c27 m_1 o_6) ?_ ?_
                          · clear hk
                            have hq := cond_inv hr
                            clear hr
                            rcases hq with ⟨rfl, hr⟩ | ⟨rfl, hr⟩
                            · refine wo_skip (v := (.b true)) rfl rfl ?_
                              refine wo_skip (v := (.b true)) rfl rfl ?_
                              refine wo_take (v := (.b true)) rfl (s_pure (p_pickT rfl rfl)) ?_
                              refine wo_take (v := (.b true)) rfl (s_pure (p_mv rfl)) ?_
                              refine wo_skip (v := (.b true)) rfl rfl ?_
                              refine wo_skip (v := (.b true)) rfl rfl ?_
                              refine wo_take (v := (.b true)) rfl (s_pure (p_pickT rfl rfl)) ?_
                              have hq := forceB_inv hr
                              clear hr
                              obtain ⟨c63_5, e63_5, hr⟩ := hq
                              refine wo_take (v := (.b c63_5)) rfl (s_pure ((p_beq rfl rfl).trans (cb e63_5))) ?_
                              refine wo_step (v := (.b c63_5)) (s_pure (p_pickF rfl rfl)) ?_
                              refine wo_nil ?_
                              cases hr
                              exact ⟨_, _, rfl, rfl, gl rfl, gl g1, gl g2, gl rfl, gl rfl⟩
                            · refine wo_take (v := (.i .i64 x23)) rfl (s_pure (p_mv rfl)) ?_
                              have hq := forceB_inv hr
                              clear hr
                              obtain ⟨c57, e57, hr⟩ := hq
                              refine wo_take (v := (.b c57)) rfl (s_pure (p_bin rfl rfl (b_eql.trans (cb e57)))) ?_
                              refine wo_take (v := (.b c57)) rfl (s_pure (p_pickF rfl rfl)) ?_
                              refine wo_take (v := (.b c57)) rfl (s_pure (p_mv rfl)) ?_
                              have hq := bindO_inv hr
                              clear hr
                              obtain ⟨o_7, hr, hk⟩ := hq
                              refine wo_join 5 (g14_J7 s1 x2 x23 c27 m_1 o_7) ?_ ?_
                              · clear hk
                                have hq := cond_inv hr
                                clear hr
                                rcases hq with ⟨rfl, hr⟩ | ⟨rfl, hr⟩
                                · refine wo_skip (v := (.b true)) rfl rfl ?_
                                  refine wo_skip (v := (.b true)) rfl rfl ?_
                                  refine wo_take (v := (.b true)) rfl (s_pure (p_pickT rfl rfl)) ?_
                                  have hq := forceB_inv hr
                                  clear hr
                                  obtain ⟨c63_6, e63_6, hr⟩ := hq
                                  refine wo_take (v := (.b c63_6)) rfl (s_pure ((p_beq rfl rfl).trans (cb e63_6))) ?_
                                  refine wo_step (v := (.b c63_6)) (s_pure (p_pickF rfl rfl)) ?_
                                  refine wo_nil ?_
                                  cases hr
                                  exact ⟨_, _, rfl, rfl, gl rfl, gl g1, gl g2, gl rfl, gl rfl⟩
                                · refine wo_take (v := (.i .i64 x23)) rfl (s_pure (p_mv rfl)) ?_
                                  have hq := forceB_inv hr
                                  clear hr
                                  obtain ⟨c61, e61, hr⟩ := hq
                                  refine wo_take (v := (.b c61)) rfl (s_pure (p_bin rfl rfl (b_eql.trans (cb e61)))) ?_
                                  refine wo_take (v := (.b c61)) rfl (s_pure (p_pickF rfl rfl)) ?_
                                  have hq := forceB_inv hr
                                  clear hr
                                  obtain ⟨c63_7, e63_7, hr⟩ := hq
                                  refine wo_take (v := (.b c63_7)) rfl (s_pure ((p_beq rfl rfl).trans (cb e63_7))) ?_
                                  refine wo_step (v := (.b c63_7)) (s_pure (p_pickF rfl rfl)) ?_
                                  refine wo_nil ?_
                                  cases hr
                                  exact ⟨_, _, rfl, rfl, gl rfl, gl g1, gl g2, gl rfl, gl rfl⟩
                              · clear hr
                                have hr := hk
                                clear hk
                                obtain ⟨c64_7, ho⟩ : ∃ z, z = o_7 := ⟨_, rfl⟩
                                subst ho
                                rintro mm t_1 ⟨rfl, g64, g1, g2, g7, g8⟩
                                refine wo_nil ?_
                                cases hr
                                exact ⟨_, _, rfl, rfl, gl g64, gl g1, gl g2, gl g7, gl g8⟩
                          · clear hr
                            have hr := hk
                            clear hk
                            obtain ⟨c64_6, ho⟩ : ∃ z, z = o_6 := ⟨_, rfl⟩
                            subst ho
                            rintro mm_1 t_2 ⟨rfl, g64, g1, g2, g7, g8⟩
                            refine wo_nil ?_
                            cases hr
                            exact ⟨_, _, rfl, rfl, gl g64, gl g1, gl g2, gl g7, gl g8⟩
                      · clear hr
                        have hr := hk
                        clear hk
                        obtain ⟨c64_5, ho⟩ : ∃ z, z = o_5 := ⟨_, rfl⟩
                        subst ho
                        rintro mm_2 t_3 ⟨rfl, g64, g1, g2, g7, g8⟩
                        refine wo_nil ?_
                        cases hr
                        exact ⟨_, _, rfl, rfl, gl g64, gl g1, gl g2, gl g7, gl g8⟩
                  · clear hr
                    have hr := hk
                    clear hk
                    obtain ⟨c64_4, ho⟩ : ∃ z, z = o_4 := ⟨_, rfl⟩
                    subst ho
                    rintro mm_3 t_4 ⟨rfl, g64, g1, g2, g7, g8⟩
                    refine wo_nil ?_
                    cases hr
                    exact ⟨_, _, rfl, rfl, gl g64, gl g1, gl g2, gl g7, gl g8⟩
              · clear hr
                have hr := hk
                clear hk
                obtain ⟨c64_3, ho⟩ : ∃ z, z = o_3 := ⟨_, rfl⟩
                subst ho
                rintro mm_4 t_5 ⟨rfl, g64, g1, g2, g7, g8⟩
                refine wo_nil ?_
                cases hr
                exact ⟨_, _, rfl, rfl, gl g64, gl g1, gl g2, gl g7, gl g8⟩
          · clear hr
            have hr := hk
            clear hk
            obtain ⟨c64_2, ho⟩ : ∃ z, z = o_2 := ⟨_, rfl⟩
            subst ho
            rintro mm_5 t_6 ⟨rfl, g64, g1, g2, g7, g8⟩
            refine wo_nil ?_
            cases hr
            exact ⟨_, _, rfl, rfl, gl g64, gl g1, gl g2, gl g7, gl g8⟩
      · clear hr
        have hr := hk
        clear hk
        obtain ⟨c64_1, ho⟩ : ∃ z, z = o_1 := ⟨_, rfl⟩
        subst ho
        rintro mm_6 t_7 ⟨rfl, g64, g1, g2, g7, g8⟩
        refine wo_nil ?_
        cases hr
        exact ⟨_, _, rfl, rfl, gl g64, gl g1, gl g2, gl g7, gl g8⟩
  · clear hr
    have hr := hk
    clear hk
    obtain ⟨c64, ho⟩ : ∃ z, z = o := ⟨_, rfl⟩
    subst ho
    rintro mm_7 t_8 ⟨rfl, g64, g1, g2, g7, g8⟩
    refine wo_nil ?_
    refine nx_norm ?_
    have hq := cond_inv hr
    clear hr
    rcases hq with ⟨rfl, hr⟩ | ⟨rfl, hr⟩
    · refine w_condT g64 ?_
      refine w_seq ?_
      refine w_ops ?_
      refine wo_step (v := (.b false)) (s_pure (p_mv rfl)) ?_
      refine wo_nil ?_
      refine nx_norm ?_
      refine w_ret ?_
      refine nx_ret ?_
      exact qf ret_ok (rt rfl rn) hr
    · refine w_condF g64 ?_
      refine w_skip ?_
      refine nx_norm ?_
      refine w_seq ?_
      refine w_seq ?_
      refine w_ops ?_
      refine wo_step (v := (.b c27)) (s_pure (p_mv g8)) ?_
      have hq := forceB_inv hr
      clear hr
      obtain ⟨c66, e66, hr⟩ := hq
      refine wo_step (v := (.b c66)) (s_pure ((p_not rfl).trans (cb e66))) ?_
      refine wo_step (v := (.b c66)) (s_pure (p_mv rfl)) ?_
      have hq := bindO_inv hr
      clear hr
      obtain ⟨o_8, hr, hk⟩ := hq
      refine wo_join 4 (g14_J8 s1 x2 x23 o_8) ?_ ?_
      · clear hk
        have hq := cond_inv hr
        clear hr
        rcases hq with ⟨rfl, hr⟩ | ⟨rfl, hr⟩
        · refine wo_skip (v := (.b true)) rfl rfl ?_
          refine wo_skip (v := (.b true)) rfl rfl ?_
          refine wo_skip (v := (.b true)) rfl rfl ?_
          refine wo_step (v := (.b true)) (s_pure (p_pickT rfl rfl)) ?_
          refine wo_nil ?_
          cases hr
          exact ⟨_, _, rfl, rfl, gl rfl, gl g1, gl g2, gl g7⟩
        · refine wo_take (v := (.s s1)) rfl (s_pure (p_mv g1)) ?_
          have hq := bindP_inv hr
          clear hr
          obtain ⟨v69, m_3, e69, hr⟩ := hq
          have hq := asI_inv hr
          clear hr
          obtain ⟨x69, rfl, hr⟩ := hq
          refine wo_take (v := (.i .i64 x69)) rfl (s_call (mc rfl (mc rfl mn)) (callM_le hM.call e69)) ?_
          have hq := forceB_inv hr
          clear hr
          obtain ⟨c70, e70, hr⟩ := hq
          refine wo_take (v := (.b c70)) rfl (s_pure (p_bin rfl rfl (b_neq.trans (cb e70)))) ?_
          refine wo_step (v := (.b c70)) (s_pure (p_pickF rfl rfl)) ?_
          refine wo_nil ?_
          cases hr
          exact ⟨_, _, rfl, rfl, gl rfl, gl g1, gl g2, gl g7⟩
      · clear hr
        have hr := hk
        clear hk
        obtain ⟨c71, m_2⟩ := o_8
        rintro mm_8 t_9 ⟨rfl, g71, g1, g2, g7⟩
        refine wo_nil ?_
        refine nx_norm ?_
        have hq := cond_inv hr
        clear hr
        rcases hq with ⟨rfl, hr⟩ | ⟨rfl, hr⟩
        · refine w_condT g71 ?_
          refine w_seq ?_
          refine w_ops ?_
          have hq := bindP_inv hr
          clear hr
          obtain ⟨v72, m_4, e72, hr⟩ := hq
          have hq := asB_inv hr
          clear hr
          obtain ⟨c72, rfl, hr⟩ := hq
          refine wo_step (v := (.b c72)) (s_call mn (callM_le hM.call e72)) ?_
          refine wo_step (v := (.b c72)) (s_pure (p_mv rfl)) ?_
          refine wo_nil ?_
          refine nx_norm ?_
          refine w_ret ?_
          refine nx_ret ?_
          exact qf ret_ok (rt rfl rn) hr
        · refine w_condF g71 ?_
          refine w_skip ?_
          refine nx_norm ?_
          refine w_seq ?_
          refine w_ops ?_
          refine wo_step (v := (.s s1)) (s_pure (p_mv g1)) ?_
          have hq := bindO_inv hr
          clear hr
          obtain ⟨v74, e74, hr⟩ := hq
          have hq := asI_inv hr
          clear hr
          obtain ⟨x74, rfl, hr⟩ := hq
          refine wo_step (v := (.i .i64 x74)) (s_pure (o_len rfl e74)) ?_
          refine wo_step (v := (.i .i64 x74)) (s_pure (p_mv rfl)) ?_
          refine wo_nil ?_
          refine nx_norm ?_
          refine w_seq ?_
          refine w_ops ?_
          refine wo_step (v := (.i .i64 x74)) (s_pure (p_mv rfl)) ?_
          have hq := bindP_inv hr
          clear hr
          obtain ⟨v76, m_5, e76, hr⟩ := hq
          refine wo_step (v := v76) (s_mk rfl rfl e76) ?_
          refine wo_step (v := v76) (s_pure (p_mv rfl)) ?_
          refine wo_nil ?_
          refine nx_norm ?_
          refine w_seq ?_
          refine w_seq ?_
          refine w_ops ?_
          refine wo_step (v := (.i .i64 0)) (s_pure (p_mv rfl)) ?_
          refine wo_nil ?_
          refine nx_norm ?_
          refine w_block ?_
          have hq := bindO_inv hr
          clear hr
          obtain ⟨o_9, hl, hr⟩ := hq
          obtain ⟨n, hl⟩ := hM.loop _ _ _ hl
          refine jp_mono (w_loop _ (g14_I9 s1 x2 x23 x74 v76) (g14_J9 s1 x2 x23 x74 v76) ?_ n _ _ _ _ hl ⟨rfl, gl rfl, gl g1, gl g2, gl g7, gl rfl, gl rfl⟩) ?_
          · clear hr hl
            intro s mm_20 t_10 o hi hr
            obtain ⟨x12, m_6⟩ := s
            obtain ⟨rfl, g12, g1, g2, g7, g10, g11⟩ := hi
            unfold g14_b9 at hr
            refine w_seq ?_
            refine w_seq ?_
            refine w_ops ?_
            refine wo_step (v := (.i .i64 x12)) (s_pure (p_mv g12)) ?_
            refine wo_step (v := (.i .i64 x74)) (s_pure (p_mv g10)) ?_
            have hq := forceB_inv hr
            clear hr
            obtain ⟨c79, e79, hr⟩ := hq
            refine wo_step (v := (.b c79)) (s_pure (p_bin rfl rfl (b_lss.trans (cb e79)))) ?_
            refine wo_nil ?_
            refine nx_norm ?_
            have hq := cond_inv hr
            clear hr
            rcases hq with ⟨rfl, hr⟩ | ⟨rfl, hr⟩
            · refine w_condT rfl ?_
              refine w_skip ?_
              refine nx_norm ?_
              refine w_seq ?_
              refine w_block ?_
              refine w_ops ?_
              refine wo_step (v := v76) (s_pure (p_mv g11)) ?_
              refine wo_step (v := (.i .i64 x12)) (s_pure (p_mv g12)) ?_
              refine wo_step (v := (.i .u64 x2)) (s_pure (p_mv g2)) ?_
              refine wo_step (v := (.i .i64 x12)) (s_pure (p_mv g12)) ?_
              have hq := chk_inv hr
              clear hr
              obtain ⟨hc86, hr⟩ := hq
              have hq := forceI_inv hr
              clear hr
              obtain ⟨x86, e86, hr⟩ := hq
              refine wo_step (v := (.i .u64 x86)) (s_pure (p_bin rfl rfl ((b_shr hc86).trans (ci e86)))) ?_
              have hq := forceI_inv hr
              clear hr
              obtain ⟨x87, e87, hr⟩ := hq
              refine wo_step (v := (.i .u64 x87)) (s_pure (p_bin rfl rfl ((b_rem rfl).trans (ci e87)))) ?_
              have hq := bindO_inv hr
              clear hr
              obtain ⟨v88, e88, hr⟩ := hq
              have hq := asI_inv hr
              clear hr
              obtain ⟨x88, rfl, hr⟩ := hq
              refine wo_step (v := (.i .u8 x88)) (s_pure (o_ixStr rfl rfl e88)) ?_
              have hq := bindO_inv hr
              clear hr
              obtain ⟨v89, e89, hr⟩ := hq
              refine wo_step (v := v89) (s_pure (o_ixS rfl rfl e89)) ?_
              have hq := bindP_inv hr
              clear hr
              obtain ⟨vn, m_7, en, hr⟩ := hq
              refine wo_stepN (s_st rfl rfl en) ?_
              refine wo_nil ?_
              refine bk_norm ?_
              refine nx_norm ?_
              refine w_ops ?_
              refine wo_step (v := (.i .i64 x12)) (s_pure (p_mv g12)) ?_
              have hq := forceI_inv hr
              clear hr
              obtain ⟨x81, e81, hr⟩ := hq
              refine wo_step (v := (.i .i64 x81)) (s_pure (p_bin rfl rfl (b_add.trans (ci e81)))) ?_
              refine wo_step (v := (.i .i64 x81)) (s_pure (p_mv rfl)) ?_
              refine wo_nil ?_
              cases hr
              exact ⟨_, _, rfl, rfl, rfl, gl rfl, gl g1, gl g2, gl g7, gl g10, gl g11⟩
            · refine w_condF rfl ?_
              refine w_exit ?_
              refine nx_exit ?_
              cases hr
              exact ⟨_, _, rfl, ne_norm_exit, rfl, rfl, gl g1, gl g7, gl g10, gl g11⟩
          · obtain ⟨m_8, ho⟩ : ∃ z, z = o_9 := ⟨_, rfl⟩
            subst ho
            rintro _ mm_19 t_11 ⟨rfl, rfl, g1, g7, g10, g11⟩
            refine bk_hit ?_
            refine nx_norm ?_
            refine w_seq ?_
            refine w_ops ?_
            refine wo_step (v := (.i .i64 x23)) (s_pure (p_mv g7)) ?_
            refine wo_step (v := (.s s1)) (s_pure (p_mv g1)) ?_
            have hq := bindP_inv hr
            clear hr
            obtain ⟨v93, m_9, e93, hr⟩ := hq
            refine wo_step (v := v93) (s_call (mc rfl (mc rfl (mc rfl mn))) (callM_le hM.call e93)) ?_
            refine wo_step (v := v93) (s_pure (p_mv rfl)) ?_
            have hq := bindO_inv hr
            clear hr
            obtain ⟨v94, e94, hr⟩ := hq
            have hq := asS_inv hr
            clear hr
            obtain ⟨s94, rfl, hr⟩ := hq
            refine wo_step (v := (.s s94)) (s_pure (o_ext rfl e94)) ?_
            have hq := bindO_inv hr
            clear hr
            obtain ⟨v95, e95, hr⟩ := hq
            have hq := asI_inv hr
            clear hr
            obtain ⟨x95, rfl, hr⟩ := hq
            refine wo_step (v := (.i .i64 x95)) (s_pure (o_ext rfl e95)) ?_
            refine wo_step (v := (.s s94)) (s_pure (p_mv rfl)) ?_
            refine wo_step (v := (.i .i64 x95)) (s_pure (p_mv rfl)) ?_
            refine wo_nil ?_
            refine nx_norm ?_
            refine w_seq ?_
            refine w_ops ?_
            refine wo_step (v := (.i .i64 x23)) (s_pure (p_mv g7)) ?_
            refine wo_step (v := v76) (s_pure (p_mv g11)) ?_
            have hq := bindO_inv hr
            clear hr
            obtain ⟨v99, e99, hr⟩ := hq
            have hq := asS_inv hr
            clear hr
            obtain ⟨s99, rfl, hr⟩ := hq
            refine wo_step (v := (.s s99)) (s_bts rfl e99) ?_
            have hq := bindP_inv hr
            clear hr
            obtain ⟨v100, m_10, e100, hr⟩ := hq
            refine wo_step (v := v100) (s_call (mc rfl (mc rfl (mc rfl mn))) (callM_le hM.call e100)) ?_
            refine wo_step (v := v100) (s_pure (p_mv rfl)) ?_
            have hq := bindO_inv hr
            clear hr
            obtain ⟨v101, e101, hr⟩ := hq
            have hq := asS_inv hr
            clear hr
            obtain ⟨s101, rfl, hr⟩ := hq
            refine wo_step (v := (.s s101)) (s_pure (o_ext rfl e101)) ?_
            have hq := bindO_inv hr
            clear hr
            obtain ⟨v102, e102, hr⟩ := hq
            have hq := asI_inv hr
            clear hr
            obtain ⟨x102, rfl, hr⟩ := hq
            refine wo_step (v := (.i .i64 x102)) (s_pure (o_ext rfl e102)) ?_
            refine wo_step (v := (.s s101)) (s_pure (p_mv rfl)) ?_
            refine wo_step (v := (.i .i64 x102)) (s_pure (p_mv rfl)) ?_
            refine wo_nil ?_
            refine nx_norm ?_
            refine w_seq ?_
            refine w_ops ?_
            refine wo_step (v := (.i .i64 x23)) (s_pure (p_mv g7)) ?_
            refine wo_step (v := (.s s1)) (s_pure (p_mv g1)) ?_
            refine wo_step (v := v76) (s_pure (p_mv g11)) ?_
            have hq := bindO_inv hr
            clear hr
            obtain ⟨v107, e107, hr⟩ := hq
            have hq := asS_inv hr
            clear hr
            obtain ⟨s107, rfl, hr⟩ := hq
            refine wo_step (v := (.s s107)) (s_bts rfl e107) ?_
            have hq := bindP_inv hr
            clear hr
            obtain ⟨v108, m_11, e108, hr⟩ := hq
            have hq := asS_inv hr
            clear hr
            obtain ⟨s108, rfl, hr⟩ := hq
            refine wo_step (v := (.s s108)) (s_call (mc rfl (mc rfl mn)) (callM_le hM.call e108)) ?_
            have hq := bindP_inv hr
            clear hr
            obtain ⟨v109, m_12, e109, hr⟩ := hq
            refine wo_step (v := v109) (s_call (mc rfl (mc rfl (mc rfl mn))) (callM_le hM.call e109)) ?_
            refine wo_step (v := v109) (s_pure (p_mv rfl)) ?_
            have hq := bindO_inv hr
            clear hr
            obtain ⟨v110, e110, hr⟩ := hq
            have hq := asS_inv hr
            clear hr
            obtain ⟨s110, rfl, hr⟩ := hq
            refine wo_step (v := (.s s110)) (s_pure (o_ext rfl e110)) ?_
            have hq := bindO_inv hr
            clear hr
            obtain ⟨v111, e111, hr⟩ := hq
            have hq := asI_inv hr
            clear hr
            obtain ⟨x111, rfl, hr⟩ := hq
            refine wo_step (v := (.i .i64 x111)) (s_pure (o_ext rfl e111)) ?_
            refine wo_step (v := (.s s110)) (s_pure (p_mv rfl)) ?_
            refine wo_step (v := (.i .i64 x111)) (s_pure (p_mv rfl)) ?_
            refine wo_nil ?_
            refine nx_norm ?_
            refine w_seq ?_
            refine w_ops ?_
            refine wo_step (v := (.i .i64 x23)) (s_pure (p_mv g7)) ?_
            refine wo_step (v := (.s s1)) (s_pure (p_mv g1)) ?_
            have hq := bindP_inv hr
            clear hr
            obtain ⟨v115, m_13, e115, hr⟩ := hq
            refine wo_step (v := v115) (s_call (mc rfl (mc rfl mn)) (callM_le hM.call e115)) ?_
            refine wo_step (v := v115) (s_pure (p_mv rfl)) ?_
            have hq := bindO_inv hr
            clear hr
            obtain ⟨v116, e116, hr⟩ := hq
            have hq := asI_inv hr
            clear hr
            obtain ⟨x116, rfl, hr⟩ := hq
            refine wo_step (v := (.i .i64 x116)) (s_pure (o_ext rfl e116)) ?_
            have hq := bindO_inv hr
            clear hr
            obtain ⟨v117, e117, hr⟩ := hq
            have hq := asI_inv hr
            clear hr
            obtain ⟨x117, rfl, hr⟩ := hq
            refine wo_step (v := (.i .i64 x117)) (s_pure (o_ext rfl e117)) ?_
            refine wo_step (v := (.i .i64 x116)) (s_pure (p_mv rfl)) ?_
            refine wo_step (v := (.i .i64 x117)) (s_pure (p_mv rfl)) ?_
            refine wo_nil ?_
            refine nx_norm ?_
            refine w_seq ?_
            refine w_ops ?_
            refine wo_step (v := (.i .i64 x23)) (s_pure (p_mv g7)) ?_
            refine wo_step (v := (.i .i64 x74)) (s_pure (p_mv g10)) ?_
            have hq := bindP_inv hr
            clear hr
            obtain ⟨v121, m_14, e121, hr⟩ := hq
            have hq := asS_inv hr
            clear hr
            obtain ⟨s121, rfl, hr⟩ := hq
            refine wo_step (v := (.s s121)) (s_call (mc rfl (mc rfl mn)) (callM_le hM.call e121)) ?_
            have hq := bindP_inv hr
            clear hr
            obtain ⟨v122, m_15, e122, hr⟩ := hq
            refine wo_step (v := v122) (s_call (mc rfl (mc rfl mn)) (callM_le hM.call e122)) ?_
            refine wo_step (v := v122) (s_pure (p_mv rfl)) ?_
            have hq := bindO_inv hr
            clear hr
            obtain ⟨v123, e123, hr⟩ := hq
            have hq := asI_inv hr
            clear hr
            obtain ⟨x123, rfl, hr⟩ := hq
            refine wo_step (v := (.i .i64 x123)) (s_pure (o_ext rfl e123)) ?_
            have hq := bindO_inv hr
            clear hr
            obtain ⟨v124, e124, hr⟩ := hq
            have hq := asI_inv hr
            clear hr
            obtain ⟨x124, rfl, hr⟩ := hq
            refine wo_step (v := (.i .i64 x124)) (s_pure (o_ext rfl e124)) ?_
            refine wo_step (v := (.i .i64 x123)) (s_pure (p_mv rfl)) ?_
            refine wo_step (v := (.i .i64 x124)) (s_pure (p_mv rfl)) ?_
            refine wo_nil ?_
            refine nx_norm ?_
            refine w_seq ?_
            refine w_ops ?_
            refine wo_step (v := (.i .i64 x95)) (s_pure (p_mv rfl)) ?_
            have hq := forceB_inv hr
            clear hr
            obtain ⟨c126, e126, hr⟩ := hq
            refine wo_step (v := (.b c126)) (s_pure (p_bin rfl rfl (b_eql.trans (cb e126)))) ?_
            refine wo_step (v := (.b c126)) (s_pure (p_mv rfl)) ?_
            have hq := bindO_inv hr
            clear hr
            obtain ⟨o_10, hr, hk⟩ := hq
            refine wo_join 3 (g14_J10 x74 s94 s101 s110 x111 x116 x117 x123 x124 m_15 o_10) ?_ ?_
            · clear hk
              have hq := cond_inv hr
              clear hr
              rcases hq with ⟨rfl, hr⟩ | ⟨rfl, hr⟩
              · refine wo_take (v := (.i .i64 x102)) rfl (s_pure (p_mv rfl)) ?_
                have hq := forceB_inv hr
                clear hr
                obtain ⟨c129, e129, hr⟩ := hq
                refine wo_take (v := (.b c129)) rfl (s_pure (p_bin rfl rfl (b_eql.trans (cb e129)))) ?_
                refine wo_step (v := (.b c129)) (s_pure (p_pickT rfl rfl)) ?_
                refine wo_nil ?_
                cases hr
                exact ⟨_, _, rfl, rfl, gl rfl, gl g10, gl rfl, gl rfl, gl rfl, gl rfl, gl rfl, gl rfl, gl rfl, gl rfl⟩
              · refine wo_skip (v := (.b false)) rfl rfl ?_
                refine wo_skip (v := (.b false)) rfl rfl ?_
                refine wo_step (v := (.b false)) (s_pure (p_pickF rfl rfl)) ?_
                refine wo_nil ?_
                cases hr
                exact ⟨_, _, rfl, rfl, gl rfl, gl g10, gl rfl, gl rfl, gl rfl, gl rfl, gl rfl, gl rfl, gl rfl, gl rfl⟩
            · clear hr
              have hr := hk
              clear hk
              obtain ⟨c130, ho⟩ : ∃ z, z = o_10 := ⟨_, rfl⟩
              subst ho
              rintro mm_9 t_12 ⟨rfl, g130, g10, g13, g14, g16, g17, g18, g19, g20, g21⟩
              refine wo_step (v := (.b c130)) (s_pure (p_mv g130)) ?_
              have hq := bindO_inv hr
              clear hr
              obtain ⟨o_11, hr, hk⟩ := hq
              refine wo_join 3 (g14_J11 x74 s94 s101 s110 x116 x117 x123 x124 m_15 o_11) ?_ ?_
              · clear hk
                have hq := cond_inv hr
                clear hr
                rcases hq with ⟨rfl, hr⟩ | ⟨rfl, hr⟩
                · refine wo_take (v := (.i .i64 x111)) rfl (s_pure (p_mv g17)) ?_
                  have hq := forceB_inv hr
                  clear hr
                  obtain ⟨c133, e133, hr⟩ := hq
                  refine wo_take (v := (.b c133)) rfl (s_pure (p_bin rfl rfl (b_eql.trans (cb e133)))) ?_
                  refine wo_step (v := (.b c133)) (s_pure (p_pickT rfl rfl)) ?_
                  refine wo_nil ?_
                  cases hr
                  exact ⟨_, _, rfl, rfl, gl rfl, gl g10, gl g13, gl g14, gl g16, gl g18, gl g19, gl g20, gl g21⟩
                · refine wo_skip (v := (.b false)) rfl rfl ?_
                  refine wo_skip (v := (.b false)) rfl rfl ?_
                  refine wo_step (v := (.b false)) (s_pure (p_pickF rfl rfl)) ?_
                  refine wo_nil ?_
                  cases hr
                  exact ⟨_, _, rfl, rfl, gl rfl, gl g10, gl g13, gl g14, gl g16, gl g18, gl g19, gl g20, gl g21⟩
              · clear hr
                have hr := hk
                clear hk
                obtain ⟨c134, ho⟩ : ∃ z, z = o_11 := ⟨_, rfl⟩
                subst ho
                rintro mm_10 t_13 ⟨rfl, g134, g10, g13, g14, g16, g18, g19, g20, g21⟩
                refine wo_step (v := (.b c134)) (s_pure (p_mv g134)) ?_
                have hq := bindO_inv hr
                clear hr
                obtain ⟨o_12, hr, hk⟩ := hq
                refine wo_join 3 (g14_J12 x74 s94 s101 s110 x116 x123 x124 m_15 o_12) ?_ ?_
                · clear hk
                  have hq := cond_inv hr
                  clear hr
                  rcases hq with ⟨rfl, hr⟩ | ⟨rfl, hr⟩
                  · refine wo_take (v := (.i .i64 x117)) rfl (s_pure (p_mv g19)) ?_
                    have hq := forceB_inv hr
                    clear hr
                    obtain ⟨c137, e137, hr⟩ := hq
                    refine wo_take (v := (.b c137)) rfl (s_pure (p_bin rfl rfl (b_eql.trans (cb e137)))) ?_
                    refine wo_step (v := (.b c137)) (s_pure (p_pickT rfl rfl)) ?_
                    refine wo_nil ?_
                    cases hr
                    exact ⟨_, _, rfl, rfl, gl rfl, gl g10, gl g13, gl g14, gl g16, gl g18, gl g20, gl g21⟩
                  · refine wo_skip (v := (.b false)) rfl rfl ?_
                    refine wo_skip (v := (.b false)) rfl rfl ?_
                    refine wo_step (v := (.b false)) (s_pure (p_pickF rfl rfl)) ?_
                    refine wo_nil ?_
                    cases hr
                    exact ⟨_, _, rfl, rfl, gl rfl, gl g10, gl g13, gl g14, gl g16, gl g18, gl g20, gl g21⟩
                · clear hr
                  have hr := hk
                  clear hk
                  obtain ⟨c138, ho⟩ : ∃ z, z = o_12 := ⟨_, rfl⟩
                  subst ho
                  rintro mm_11 t_14 ⟨rfl, g138, g10, g13, g14, g16, g18, g20, g21⟩
                  refine wo_step (v := (.b c138)) (s_pure (p_mv g138)) ?_
                  have hq := bindO_inv hr
                  clear hr
                  obtain ⟨o_13, hr, hk⟩ := hq
                  refine wo_join 3 (g14_J13 x74 s94 s101 s110 x116 x123 m_15 o_13) ?_ ?_
                  · clear hk
                    have hq := cond_inv hr
                    clear hr
                    rcases hq with ⟨rfl, hr⟩ | ⟨rfl, hr⟩
                    · refine wo_take (v := (.i .i64 x124)) rfl (s_pure (p_mv g21)) ?_
                      have hq := forceB_inv hr
                      clear hr
                      obtain ⟨c141, e141, hr⟩ := hq
                      refine wo_take (v := (.b c141)) rfl (s_pure (p_bin rfl rfl (b_eql.trans (cb e141)))) ?_
                      refine wo_step (v := (.b c141)) (s_pure (p_pickT rfl rfl)) ?_
                      refine wo_nil ?_
                      cases hr
                      exact ⟨_, _, rfl, rfl, gl rfl, gl g10, gl g13, gl g14, gl g16, gl g18, gl g20⟩
                    · refine wo_skip (v := (.b false)) rfl rfl ?_
                      refine wo_skip (v := (.b false)) rfl rfl ?_
                      refine wo_step (v := (.b false)) (s_pure (p_pickF rfl rfl)) ?_
                      refine wo_nil ?_
                      cases hr
                      exact ⟨_, _, rfl, rfl, gl rfl, gl g10, gl g13, gl g14, gl g16, gl g18, gl g20⟩
                  · clear hr
                    have hr := hk
                    clear hk
                    obtain ⟨c142, ho⟩ : ∃ z, z = o_13 := ⟨_, rfl⟩
                    subst ho
                    rintro mm_12 t_15 ⟨rfl, g142, g10, g13, g14, g16, g18, g20⟩
                    refine wo_step (v := (.b c142)) (s_pure (p_mv g142)) ?_
                    have hq := bindO_inv hr
                    clear hr
                    obtain ⟨o_14, hr, hk⟩ := hq
                    refine wo_join 5 (g14_J14 x74 s94 s101 s110 x116 x123 m_15 o_14) ?_ ?_
                    · clear hk
                      have hq := cond_inv hr
                      clear hr
                      rcases hq with ⟨rfl, hr⟩ | ⟨rfl, hr⟩
                      · refine wo_take (v := (.s s94)) rfl (s_pure (p_mv g13)) ?_
                        have hq := bindO_inv hr
                        clear hr
                        obtain ⟨v145, e145, hr⟩ := hq
                        have hq := asI_inv hr
                        clear hr
                        obtain ⟨x145, rfl, hr⟩ := hq
                        refine wo_take (v := (.i .i64 x145)) rfl (s_pure (o_len rfl e145)) ?_
                        refine wo_take (v := (.i .i64 x74)) rfl (s_pure (p_mv g10)) ?_
                        have hq := forceB_inv hr
                        clear hr
                        obtain ⟨c147, e147, hr⟩ := hq
                        refine wo_take (v := (.b c147)) rfl (s_pure (p_bin rfl rfl (b_eql.trans (cb e147)))) ?_
                        refine wo_step (v := (.b c147)) (s_pure (p_pickT rfl rfl)) ?_
                        refine wo_nil ?_
                        cases hr
                        exact ⟨_, _, rfl, rfl, gl rfl, gl g10, gl g13, gl g14, gl g16, gl g18, gl g20⟩
                      · refine wo_skip (v := (.b false)) rfl rfl ?_
                        refine wo_skip (v := (.b false)) rfl rfl ?_
                        refine wo_skip (v := (.b false)) rfl rfl ?_
                        refine wo_skip (v := (.b false)) rfl rfl ?_
                        refine wo_step (v := (.b false)) (s_pure (p_pickF rfl rfl)) ?_
                        refine wo_nil ?_
                        cases hr
                        exact ⟨_, _, rfl, rfl, gl rfl, gl g10, gl g13, gl g14, gl g16, gl g18, gl g20⟩
                    · clear hr
                      have hr := hk
                      clear hk
                      obtain ⟨c148, ho⟩ : ∃ z, z = o_14 := ⟨_, rfl⟩
                      subst ho
                      rintro mm_13 t_16 ⟨rfl, g148, g10, g13, g14, g16, g18, g20⟩
                      refine wo_step (v := (.b c148)) (s_pure (p_mv g148)) ?_
                      have hq := bindO_inv hr
                      clear hr
                      obtain ⟨o_15, hr, hk⟩ := hq
                      refine wo_join 5 (g14_J15 s94 s101 s110 x116 x123 m_15 o_15) ?_ ?_
                      · clear hk
                        have hq := cond_inv hr
                        clear hr
                        rcases hq with ⟨rfl, hr⟩ | ⟨rfl, hr⟩
                        · refine wo_take (v := (.s s101)) rfl (s_pure (p_mv g14)) ?_
                          have hq := bindO_inv hr
                          clear hr
                          obtain ⟨v151, e151, hr⟩ := hq
                          have hq := asI_inv hr
                          clear hr
                          obtain ⟨x151, rfl, hr⟩ := hq
                          refine wo_take (v := (.i .i64 x151)) rfl (s_pure (o_len rfl e151)) ?_
                          refine wo_take (v := (.i .i64 x74)) rfl (s_pure (p_mv g10)) ?_
                          have hq := forceB_inv hr
                          clear hr
                          obtain ⟨c153, e153, hr⟩ := hq
                          refine wo_take (v := (.b c153)) rfl (s_pure (p_bin rfl rfl (b_eql.trans (cb e153)))) ?_
                          refine wo_step (v := (.b c153)) (s_pure (p_pickT rfl rfl)) ?_
                          refine wo_nil ?_
                          cases hr
                          exact ⟨_, _, rfl, rfl, gl rfl, gl g13, gl g14, gl g16, gl g18, gl g20⟩
                        · refine wo_skip (v := (.b false)) rfl rfl ?_
                          refine wo_skip (v := (.b false)) rfl rfl ?_
                          refine wo_skip (v := (.b false)) rfl rfl ?_
                          refine wo_skip (v := (.b false)) rfl rfl ?_
                          refine wo_step (v := (.b false)) (s_pure (p_pickF rfl rfl)) ?_
                          refine wo_nil ?_
                          cases hr
                          exact ⟨_, _, rfl, rfl, gl rfl, gl g13, gl g14, gl g16, gl g18, gl g20⟩
                      · clear hr
                        have hr := hk
                        clear hk
                        obtain ⟨c154, ho⟩ : ∃ z, z = o_15 := ⟨_, rfl⟩
                        subst ho
                        rintro mm_14 t_17 ⟨rfl, g154, g13, g14, g16, g18, g20⟩
                        refine wo_step (v := (.b c154)) (s_pure (p_mv g154)) ?_
                        have hq := bindO_inv hr
                        clear hr
                        obtain ⟨o_16, hr, hk⟩ := hq
                        refine wo_join 6 (g14_J16 x116 x123 o_16) ?_ ?_
                        · clear hk
                          have hq := cond_inv hr
                          clear hr
                          rcases hq with ⟨rfl, hr⟩ | ⟨rfl, hr⟩
                          · refine wo_take (v := (.s s110)) rfl (s_pure (p_mv g16)) ?_
                            refine wo_take (v := (.s s94)) rfl (s_pure (p_mv g13)) ?_
                            refine wo_take (v := (.s s101)) rfl (s_pure (p_mv g14)) ?_
                            have hq := bindP_inv hr
                            clear hr
                            obtain ⟨v159, m_17, e159, hr⟩ := hq
                            have hq := asS_inv hr
                            clear hr
                            obtain ⟨s159, rfl, hr⟩ := hq
                            refine wo_take (v := (.s s159)) rfl (s_call (mc rfl (mc rfl mn)) (callM_le hM.call e159)) ?_
                            have hq := bindO_inv hr
                            clear hr
                            obtain ⟨v160, e160, hr⟩ := hq
                            have hq := asB_inv hr
                            clear hr
                            obtain ⟨c160, rfl, hr⟩ := hq
                            refine wo_take (v := (.b c160)) rfl (s_pure (o_sbin rfl rfl e160)) ?_
                            refine wo_step (v := (.b c160)) (s_pure (p_pickT rfl rfl)) ?_
                            refine wo_nil ?_
                            cases hr
                            exact ⟨_, _, rfl, rfl, gl rfl, gl g18, gl g20⟩
                          · refine wo_skip (v := (.b false)) rfl rfl ?_
                            refine wo_skip (v := (.b false)) rfl rfl ?_
                            refine wo_skip (v := (.b false)) rfl rfl ?_
                            refine wo_skip (v := (.b false)) rfl rfl ?_
                            refine wo_skip (v := (.b false)) rfl rfl ?_
                            refine wo_step (v := (.b false)) (s_pure (p_pickF rfl rfl)) ?_
                            refine wo_nil ?_
                            cases hr
                            exact ⟨_, _, rfl, rfl, gl rfl, gl g18, gl g20⟩
                        · clear hr
                          have hr := hk
                          clear hk
                          obtain ⟨c161, m_16⟩ := o_16
                          rintro mm_15 t_18 ⟨rfl, g161, g18, g20⟩
                          refine wo_step (v := (.b c161)) (s_pure (p_mv g161)) ?_
                          have hq := bindO_inv hr
                          clear hr
                          obtain ⟨o_17, hr, hk⟩ := hq
                          refine wo_join 8 (g14_J17 m_16 o_17) ?_ ?_
                          · clear hk
                            have hq := cond_inv hr
                            clear hr
                            rcases hq with ⟨rfl, hr⟩ | ⟨rfl, hr⟩
                            · refine wo_take (v := (.i .i64 x116)) rfl (s_pure (p_mv g18)) ?_
                              have hq := forceB_inv hr
                              clear hr
                              obtain ⟨c164, e164, hr⟩ := hq
                              refine wo_take (v := (.b c164)) rfl (s_pure (p_bin rfl rfl (b_eql.trans (cb e164)))) ?_
                              refine wo_take (v := (.b c164)) rfl (s_pure (p_mv rfl)) ?_
                              have hq := bindO_inv hr
                              clear hr
                              obtain ⟨o_18, hr, hk⟩ := hq
                              refine wo_join 5 (g14_J18 m_16 o_18) ?_ ?_
                              · clear hk
                                have hq := cond_inv hr
                                clear hr
                                rcases hq with ⟨rfl, hr⟩ | ⟨rfl, hr⟩
                                · refine wo_skip (v := (.b true)) rfl rfl ?_
                                  refine wo_skip (v := (.b true)) rfl rfl ?_
                                  refine wo_skip (v := (.b true)) rfl rfl ?_
                                  refine wo_take (v := (.b true)) rfl (s_pure (p_pickT rfl rfl)) ?_
                                  refine wo_step (v := (.b true)) (s_pure (p_pickT rfl rfl)) ?_
                                  refine wo_nil ?_
                                  cases hr
                                  exact ⟨_, _, rfl, rfl, gl rfl⟩
                                · refine wo_take (v := (.i .i64 x116)) rfl (s_pure (p_mv g18)) ?_
                                  refine wo_take (v := (.i .i64 x123)) rfl (s_pure (p_mv g20)) ?_
                                  have hq := forceB_inv hr
                                  clear hr
                                  obtain ⟨c168, e168, hr⟩ := hq
                                  refine wo_take (v := (.b c168)) rfl (s_pure (p_bin rfl rfl (b_eql.trans (cb e168)))) ?_
                                  refine wo_take (v := (.b c168)) rfl (s_pure (p_pickF rfl rfl)) ?_
                                  refine wo_step (v := (.b c168)) (s_pure (p_pickT rfl rfl)) ?_
                                  refine wo_nil ?_
                                  cases hr
                                  exact ⟨_, _, rfl, rfl, gl rfl⟩
                              · clear hr
                                have hr := hk
                                clear hk
                                obtain ⟨c170_1, ho⟩ : ∃ z, z = o_18 := ⟨_, rfl⟩
                                subst ho
                                rintro mm_16 t_19 ⟨rfl, g170⟩
                                refine wo_nil ?_
                                cases hr
                                exact ⟨_, _, rfl, rfl, gl g170⟩
                            · refine wo_skip (v := (.b false)) rfl rfl ?_
                              refine wo_skip (v := (.b false)) rfl rfl ?_
                              refine wo_skip (v := (.b false)) rfl rfl ?_
                              refine wo_skip (v := und) rfl rfl ?_
                              refine wo_skip (v := und) rfl rfl ?_
                              refine wo_skip (v := und) rfl rfl ?_
                              refine wo_skip (v := (.b false)) rfl rfl ?_
                              refine wo_step (v := (.b false)) (s_pure (p_pickF rfl rfl)) ?_
                              refine wo_nil ?_
                              cases hr
                              exact ⟨_, _, rfl, rfl, gl rfl⟩
                          · clear hr
                            have hr := hk
                            clear hk
                            obtain ⟨c170, ho⟩ : ∃ z, z = o_17 := ⟨_, rfl⟩
                            subst ho
                            rintro mm_17 t_20 ⟨rfl, g170⟩
                            refine wo_step (v := (.b c170)) (s_pure (p_mv g170)) ?_
                            have hq := bindO_inv hr
                            clear hr
                            obtain ⟨o_19, hr, hk⟩ := hq
                            refine wo_join 2 (g14_J19  o_19) ?_ ?_
                            · clear hk
                              have hq := cond_inv hr
                              clear hr
                              rcases hq with ⟨rfl, hr⟩ | ⟨rfl, hr⟩
                              · have hq := bindP_inv hr
                                clear hr
                                obtain ⟨v172, m_19, e172, hr⟩ := hq
                                have hq := asB_inv hr
                                clear hr
                                obtain ⟨c172, rfl, hr⟩ := hq
                                refine wo_take (v := (.b c172)) rfl (s_call mn (callM_le hM.call e172)) ?_
                                refine wo_step (v := (.b c172)) (s_pure (p_pickT rfl rfl)) ?_
                                refine wo_nil ?_
                                cases hr
                                exact ⟨_, _, rfl, rfl, gl rfl⟩
                              · refine wo_skip (v := (.b false)) rfl rfl ?_
                                refine wo_step (v := (.b false)) (s_pure (p_pickF rfl rfl)) ?_
                                refine wo_nil ?_
                                cases hr
                                exact ⟨_, _, rfl, rfl, gl rfl⟩
                            · clear hr
                              have hr := hk
                              clear hk
                              obtain ⟨c173, m_18⟩ := o_19
                              rintro mm_18 t_21 ⟨rfl, g173⟩
                              refine wo_step (v := (.b c173)) (s_pure (p_mv g173)) ?_
                              refine wo_nil ?_
                              refine nx_norm ?_
                              refine w_ret ?_
                              exact qf ret_ok (rt rfl rn) hr

/- dibber/dibberlaw02.alive -/
abbrev g15_J0 (s16 : List UInt8) (x17 : Int) (c20 : Bool) (x21 : Int) (x24 : Int) (x25 : Int) (x26 : Int) (m_4 : Mm) (o : Bool) (m1 : Mm) (t1 : Tr) : Prop :=
  match o with
  | c32 => m_4 = m1 ∧ t1.get 32 = (.b c32) ∧ t1.get 3 = (.s s16) ∧ t1.get 4 = (.i .i64 x17) ∧ t1.get 5 = (.b c20) ∧ t1.get 6 = (.i .i64 x21) ∧ t1.get 7 = (.i .i64 x24) ∧ t1.get 8 = (.i .i64 x25) ∧ t1.get 9 = (.i .i64 x26)
abbrev g15_J1 (s16 : List UInt8) (c20 : Bool) (x21 : Int) (x24 : Int) (x25 : Int) (x26 : Int) (m_4 : Mm) (o : Bool) (m1 : Mm) (t1 : Tr) : Prop :=
  match o with
  | c36 => m_4 = m1 ∧ t1.get 36 = (.b c36) ∧ t1.get 3 = (.s s16) ∧ t1.get 5 = (.b c20) ∧ t1.get 6 = (.i .i64 x21) ∧ t1.get 7 = (.i .i64 x24) ∧ t1.get 8 = (.i .i64 x25) ∧ t1.get 9 = (.i .i64 x26)
abbrev g15_J2 (c20 : Bool) (x21 : Int) (x24 : Int) (x25 : Int) (x26 : Int) (m_4 : Mm) (o : Bool) (m1 : Mm) (t1 : Tr) : Prop :=
  match o with
  | c40 => m_4 = m1 ∧ t1.get 40 = (.b c40) ∧ t1.get 5 = (.b c20) ∧ t1.get 6 = (.i .i64 x21) ∧ t1.get 7 = (.i .i64 x24) ∧ t1.get 8 = (.i .i64 x25) ∧ t1.get 9 = (.i .i64 x26)
abbrev g15_J3 (c20 : Bool) (x24 : Int) (x25 : Int) (x26 : Int) (m_4 : Mm) (o : Bool) (m1 : Mm) (t1 : Tr) : Prop :=
  match o with
  | c44 => m_4 = m1 ∧ t1.get 44 = (.b c44) ∧ t1.get 5 = (.b c20) ∧ t1.get 7 = (.i .i64 x24) ∧ t1.get 8 = (.i .i64 x25) ∧ t1.get 9 = (.i .i64 x26)
abbrev g15_J4 (x24 : Int) (x25 : Int) (x26 : Int) (m_4 : Mm) (o : Bool) (m1 : Mm) (t1 : Tr) : Prop :=
  match o with
  | c47 => m_4 = m1 ∧ t1.get 47 = (.b c47) ∧ t1.get 7 = (.i .i64 x24) ∧ t1.get 8 = (.i .i64 x25) ∧ t1.get 9 = (.i .i64 x26)
abbrev g15_J5 (x24 : Int) (x25 : Int) (m_4 : Mm) (o : Bool) (m1 : Mm) (t1 : Tr) : Prop :=
  match o with
  | c51 => m_4 = m1 ∧ t1.get 51 = (.b c51) ∧ t1.get 7 = (.i .i64 x24) ∧ t1.get 8 = (.i .i64 x25)
abbrev g15_J6 (x25 : Int) (m_4 : Mm) (o : Bool) (m1 : Mm) (t1 : Tr) : Prop :=
  match o with
  | c55 => m_4 = m1 ∧ t1.get 55 = (.b c55) ∧ t1.get 8 = (.i .i64 x25)
abbrev g15_J7 (m_4 : Mm) (o : Bool) (m1 : Mm) (t1 : Tr) : Prop :=
  match o with
  | c59 => m_4 = m1 ∧ t1.get 59 = (.b c59)
def g15 (M : Means) (ro : List ABlk)  (m0 : Mm) : Option (AVal × Heap × Nat × Nat) :=
  bindP (callM M.call m0 16 [(.i .i64 90), (AVal.s [48, 48, 49, 48, 48])]) fun v11 m_1 =>
  bindO (evP .e (.ext 0 (.c v11))) fun v12 =>
  asS v12 fun s12 =>
  bindO (evP .e (.ext 1 (.c v11))) fun v13 =>
  asI .i64 v13 fun x13 =>
  bindP (callM M.call m_1 26 [(.i .i64 110), (.i .i64 20)]) fun v15 m_2 =>
  bindO (evP .e (.ext 0 (.c v15))) fun v16 =>
  asS v16 fun s16 =>
  bindO (evP .e (.ext 1 (.c v15))) fun v17 =>
  asI .i64 v17 fun x17 =>
  bindP (callM M.call m_2 28 [(.i .i64 30)]) fun v19 m_3 =>
  bindO (evP .e (.ext 0 (.c v19))) fun v20 =>
  asB v20 fun c20 =>
  bindO (evP .e (.ext 1 (.c v19))) fun v21 =>
  asI .i64 v21 fun x21 =>
  bindP (callM M.call m_3 36 [(.i .i64 110)]) fun v23 m_4 =>
  bindO (evP .e (.ext 0 (.c v23))) fun v24 =>
  asI .i64 v24 fun x24 =>
  bindO (evP .e (.ext 1 (.c v23))) fun v25 =>
  asI .i64 v25 fun x25 =>
  bindO (evP .e (.ext 2 (.c v23))) fun v26 =>
  asI .i64 v26 fun x26 =>
  forceB (eqI x13 0) fun c28 =>
  bindO (cond c28 (
    bindO (evP .e (.sbin BinOp.eql (.c (.s s12)) (.c (AVal.s [49, 48, 49])))) fun v31 =>
    asB v31 fun c31 =>
    some c31) (
    some false)) fun c32 =>
  bindO (cond c32 (
    forceB (eqI x17 0) fun c35 =>
    some c35) (
    some false)) fun c36 =>
  bindO (cond c36 (
    bindO (evP .e (.sbin BinOp.eql (.c (.s s16)) (.c (AVal.s [48, 49, 48, 49, 48])))) fun v39 =>
    asB v39 fun c39 =>
    some c39) (
    some false)) fun c40 =>
  bindO (cond c40 (
    forceB (eqI x21 0) fun c43 =>
    some c43) (
    some false)) fun c44 =>
  bindO (cond c44 (
    some c20) (
    some false)) fun c47 =>
  bindO (cond c47 (
    forceB (eqI x26 0) fun c50 =>
    some c50) (
    some false)) fun c51 =>
  bindO (cond c51 (
    forceB (eqI x24 124) fun c54 =>
    some c54) (
    some false)) fun c55 =>
  bindO (cond c55 (
    forceB (eqI x25 137) fun c58 =>
    some c58) (
    some false)) fun c59 =>
  finM m0.h.length (tupA [(.b c59)]) m_4

theorem g15_ok {ro : List ABlk} {O : Caller} {M : Means} (hM : M.Ok ⟨F, O⟩ ro) {h r} (ho : O 15 [] h = none) (hr : g15 M ro  ⟨h, h.length, h.length⟩ = some r) : callX ⟨F, O⟩ ro 15 [] h = some r := by
  refine callX_of (F := ⟨F, O⟩) (fn := fn15) (g := g15 M ro ) ho rfl rfl hr ?_
  clear ho
  clear hr
  intro m0 t0 ht hr

  clear ht
  unfold g15 at hr
  refine w_seq ?_
  refine w_ops ?_
  refine wo_step (v := (.b false)) (s_pure (p_mv rfl)) ?_
  refine wo_nil ?_
  refine nx_norm ?_
  refine w_seq ?_
  refine w_ops ?_
  have hq := bindP_inv hr
  clear hr
  obtain ⟨v11, m_1, e11, hr⟩ := hq
  refine wo_step (v := v11) (s_call (mc rfl (mc rfl mn)) (callM_le hM.call e11)) ?_
  refine wo_step (v := v11) (s_pure (p_mv rfl)) ?_
  have hq := bindO_inv hr
  clear hr
  obtain ⟨v12, e12, hr⟩ := hq
  have hq := asS_inv hr
  clear hr
  obtain ⟨s12, rfl, hr⟩ := hq
  refine wo_step (v := (.s s12)) (s_pure (o_ext rfl e12)) ?_
  have hq := bindO_inv hr
  clear hr
  obtain ⟨v13, e13, hr⟩ := hq
  have hq := asI_inv hr
  clear hr
  obtain ⟨x13, rfl, hr⟩ := hq
  refine wo_step (v := (.i .i64 x13)) (s_pure (o_ext rfl e13)) ?_
  refine wo_step (v := (.s s12)) (s_pure (p_mv rfl)) ?_
  refine wo_step (v := (.i .i64 x13)) (s_pure (p_mv rfl)) ?_
  refine wo_nil ?_
  refine nx_norm ?_
  refine w_seq ?_
  refine w_ops ?_
  have hq := bindP_inv hr
  clear hr
  obtain ⟨v15, m_2, e15, hr⟩ := hq
  refine wo_step (v := v15) (s_call (mc rfl (mc rfl mn)) (callM_le hM.call e15)) ?_
  refine wo_step (v := v15) (s_pure (p_mv rfl)) ?_
  have hq := bindO_inv hr
  clear hr
  obtain ⟨v16, e16, hr⟩ := hq
  have hq := asS_inv hr
  clear hr
  obtain ⟨s16, rfl, hr⟩ := hq
  refine wo_step (v := (.s s16)) (s_pure (o_ext rfl e16)) ?_
  have hq := bindO_inv hr
  clear hr
  obtain ⟨v17, e17, hr⟩ := hq
  have hq := asI_inv hr
  clear hr
  obtain ⟨x17, rfl, hr⟩ := hq
  refine wo_step (v := (.i .i64 x17)) (s_pure (o_ext rfl e17)) ?_
  refine wo_step (v := (.s s16)) (s_pure (p_mv rfl)) ?_
  refine wo_step (v := (.i .i64 x17)) (s_pure (p_mv rfl)) ?_
  refine wo_nil ?_
  refine nx_norm ?_
  refine w_seq ?_
  refine w_ops ?_
  have hq := bindP_inv hr
  clear hr
  obtain ⟨v19, m_3, e19, hr⟩ := hq
  refine wo_step (v := v19) (s_call (mc rfl mn) (callM_le hM.call e19)) ?_
  refine wo_step (v := v19) (s_pure (p_mv rfl)) ?_
  have hq := bindO_inv hr
  clear hr
  obtain ⟨v20, e20, hr⟩ := hq
  have hq := asB_inv hr
  clear hr
  obtain ⟨c20, rfl, hr⟩ := hq
  refine wo_step (v := (.b c20)) (s_pure (o_ext rfl e20)) ?_
  have hq := bindO_inv hr
  clear hr
  obtain ⟨v21, e21, hr⟩ := hq
  have hq := asI_inv hr
  clear hr
  obtain ⟨x21, rfl, hr⟩ := hq
  refine wo_step (v := (.i .i64 x21)) (s_pure (o_ext rfl e21)) ?_
  refine wo_step (v := (.b c20)) (s_pure (p_mv rfl)) ?_
  refine wo_step (v := (.i .i64 x21)) (s_pure (p_mv rfl)) ?_
  refine wo_nil ?_
  refine nx_norm ?_
  refine w_seq ?_
  refine w_ops ?_
  have hq := bindP_inv hr
  clear hr
  obtain ⟨v23, m_4, e23, hr⟩ := hq
  refine wo_step (v := v23) (s_call (mc rfl mn) (callM_le hM.call e23)) ?_
  refine wo_step (v := v23) (s_pure (p_mv rfl)) ?_
  have hq := bindO_inv hr
  clear hr
  obtain ⟨v24, e24, hr⟩ := hq
  have hq := asI_inv hr
  clear hr
  obtain ⟨x24, rfl, hr⟩ := hq
  refine wo_step (v := (.i .i64 x24)) (s_pure (o_ext rfl e24)) ?_
  have hq := bindO_inv hr
  clear hr
  obtain ⟨v25, e25, hr⟩ := hq
  have hq := asI_inv hr
  clear hr
  obtain ⟨x25, rfl, hr⟩ := hq
  refine wo_step (v := (.i .i64 x25)) (s_pure (o_ext rfl e25)) ?_
  have hq := bindO_inv hr
  clear hr
  obtain ⟨v26, e26, hr⟩ := hq
  have hq := asI_inv hr
  clear hr
  obtain ⟨x26, rfl, hr⟩ := hq
  refine wo_step (v := (.i .i64 x26)) (s_pure (o_ext rfl e26)) ?_
  refine wo_step (v := (.i .i64 x24)) (s_pure (p_mv rfl)) ?_
  refine wo_step (v := (.i .i64 x25)) (s_pure (p_mv rfl)) ?_
  refine wo_step (v := (.i .i64 x26)) (s_pure (p_mv rfl)) ?_
  refine wo_nil ?_
  refine nx_norm ?_
  refine w_seq ?_
  refine w_ops ?_
  refine wo_step (v := (.i .i64 x13)) (s_pure (p_mv rfl)) ?_
  have hq := forceB_inv hr
  clear hr
  obtain ⟨c28, e28, hr⟩ := hq
  refine wo_step (v := (.b c28)) (s_pure (p_bin rfl rfl (b_eql.trans (cb e28)))) ?_
  refine wo_step (v := (.b c28)) (s_pure (p_mv rfl)) ?_
  have hq := bindO_inv hr
  clear hr
  obtain ⟨o, hr, hk⟩ := hq
  refine wo_join 3 (g15_J0 s16 x17 c20 x21 x24 x25 x26 m_4 o) ?_ ?_
  · clear hk
    have hq := cond_inv hr
    clear hr
    rcases hq with ⟨rfl, hr⟩ | ⟨rfl, hr⟩
    · refine wo_take (v := (.s s12)) rfl (s_pure (p_mv rfl)) ?_
      have hq := bindO_inv hr
      clear hr
      obtain ⟨v31, e31, hr⟩ := hq
      have hq := asB_inv hr
      clear hr
      obtain ⟨c31, rfl, hr⟩ := hq
      refine wo_take (v := (.b c31)) rfl (s_pure (o_sbin rfl rfl e31)) ?_
      refine wo_step (v := (.b c31)) (s_pure (p_pickT rfl rfl)) ?_
      refine wo_nil ?_
      cases hr
      exact ⟨_, _, rfl, rfl, gl rfl, gl rfl, gl rfl, gl rfl, gl rfl, gl rfl, gl rfl, gl rfl⟩
    · refine wo_skip (v := (.b false)) rfl rfl ?_
      refine wo_skip (v := (.b false)) rfl rfl ?_
      refine wo_step (v := (.b false)) (s_pure (p_pickF rfl rfl)) ?_
      refine wo_nil ?_
      cases hr
      exact ⟨_, _, rfl, rfl, gl rfl, gl rfl, gl rfl, gl rfl, gl rfl, gl rfl, gl rfl, gl rfl⟩
  · clear hr
    have hr := hk
    clear hk
    obtain ⟨c32, ho⟩ : ∃ z, z = o := ⟨_, rfl⟩
    subst ho
    rintro mm t_1 ⟨rfl, g32, g3, g4, g5, g6, g7, g8, g9⟩
    refine wo_step (v := (.b c32)) (s_pure (p_mv g32)) ?_
    have hq := bindO_inv hr
    clear hr
    obtain ⟨o_1, hr, hk⟩ := hq
    refine wo_join 3 (g15_J1 s16 c20 x21 x24 x25 x26 m_4 o_1) ?_ ?_
    · clear hk
      have hq := cond_inv hr
      clear hr
      rcases hq with ⟨rfl, hr⟩ | ⟨rfl, hr⟩
      · refine wo_take (v := (.i .i64 x17)) rfl (s_pure (p_mv g4)) ?_
        have hq := forceB_inv hr
        clear hr
        obtain ⟨c35, e35, hr⟩ := hq
        refine wo_take (v := (.b c35)) rfl (s_pure (p_bin rfl rfl (b_eql.trans (cb e35)))) ?_
        refine wo_step (v := (.b c35)) (s_pure (p_pickT rfl rfl)) ?_
        refine wo_nil ?_
        cases hr
        exact ⟨_, _, rfl, rfl, gl rfl, gl g3, gl g5, gl g6, gl g7, gl g8, gl g9⟩
      · refine wo_skip (v := (.b false)) rfl rfl ?_
        refine wo_skip (v := (.b false)) rfl rfl ?_
        refine wo_step (v := (.b false)) (s_pure (p_pickF rfl rfl)) ?_
        refine wo_nil ?_
        cases hr
        exact ⟨_, _, rfl, rfl, gl rfl, gl g3, gl g5, gl g6, gl g7, gl g8, gl g9⟩
    · clear hr
      have hr := hk
      clear hk
      obtain ⟨c36, ho⟩ : ∃ z, z = o_1 := ⟨_, rfl⟩
      subst ho
      rintro mm_1 t_2 ⟨rfl, g36, g3, g5, g6, g7, g8, g9⟩
      refine wo_step (v := (.b c36)) (s_pure (p_mv g36)) ?_
      have hq := bindO_inv hr
      clear hr
      obtain ⟨o_2, hr, hk⟩ := hq
      refine wo_join 3 (g15_J2 c20 x21 x24 x25 x26 m_4 o_2) ?_ ?_
      · clear hk
        have hq := cond_inv hr
        clear hr
        rcases hq with ⟨rfl, hr⟩ | ⟨rfl, hr⟩
        · refine wo_take (v := (.s s16)) rfl (s_pure (p_mv g3)) ?_
          have hq := bindO_inv hr
          clear hr
          obtain ⟨v39, e39, hr⟩ := hq
          have hq := asB_inv hr
          clear hr
          obtain ⟨c39, rfl, hr⟩ := hq
          refine wo_take (v := (.b c39)) rfl (s_pure (o_sbin rfl rfl e39)) ?_
          refine wo_step (v := (.b c39)) (s_pure (p_pickT rfl rfl)) ?_
          refine wo_nil ?_
          cases hr
          exact ⟨_, _, rfl, rfl, gl rfl, gl g5, gl g6, gl g7, gl g8, gl g9⟩
        · refine wo_skip (v := (.b false)) rfl rfl ?_
          refine wo_skip (v := (.b false)) rfl rfl ?_
          refine wo_step (v := (.b false)) (s_pure (p_pickF rfl rfl)) ?_
          refine wo_nil ?_
          cases hr
          exact ⟨_, _, rfl, rfl, gl rfl, gl g5, gl g6, gl g7, gl g8, gl g9⟩
      · clear hr
        have hr := hk
        clear hk
        obtain ⟨c40, ho⟩ : ∃ z, z = o_2 := ⟨_, rfl⟩
        subst ho
        rintro mm_2 t_3 ⟨rfl, g40, g5, g6, g7, g8, g9⟩
        refine wo_step (v := (.b c40)) (s_pure (p_mv g40)) ?_
        have hq := bindO_inv hr
        clear hr
        obtain ⟨o_3, hr, hk⟩ := hq
        refine wo_join 3 (g15_J3 c20 x24 x25 x26 m_4 o_3) ?_ ?_
        · clear hk
          have hq := cond_inv hr
          clear hr
          rcases hq with ⟨rfl, hr⟩ | ⟨rfl, hr⟩
          · refine wo_take (v := (.i .i64 x21)) rfl (s_pure (p_mv g6)) ?_
            have hq := forceB_inv hr
            clear hr
            obtain ⟨c43, e43, hr⟩ := hq
            refine wo_take (v := (.b c43)) rfl (s_pure (p_bin rfl rfl (b_eql.trans (cb e43)))) ?_
            refine wo_step (v := (.b c43)) (s_pure (p_pickT rfl rfl)) ?_
            refine wo_nil ?_
            cases hr
            exact ⟨_, _, rfl, rfl, gl rfl, gl g5, gl g7, gl g8, gl g9⟩
          · refine wo_skip (v := (.b false)) rfl rfl ?_
            refine wo_skip (v := (.b false)) rfl rfl ?_
            refine wo_step (v := (.b false)) (s_pure (p_pickF rfl rfl)) ?_
            refine wo_nil ?_
            cases hr
            exact ⟨_, _, rfl, rfl, gl rfl, gl g5, gl g7, gl g8, gl g9⟩
        · clear hr
          have hr := hk
          clear hk
          obtain ⟨c44, ho⟩ : ∃ z, z = o_3 := ⟨_, rfl⟩
          subst ho
          rintro mm_3 t_4 ⟨rfl, g44, g5, g7, g8, g9⟩
          refine wo_step (v := (.b c44)) (s_pure (p_mv g44)) ?_
          have hq := bindO_inv hr
          clear hr
          obtain ⟨o_4, hr, hk⟩ := hq
          refine wo_join 2 (g15_J4 x24 x25 x26 m_4 o_4) ?_ ?_
          · clear hk
            have hq := cond_inv hr
            clear hr
            rcases hq with ⟨rfl, hr⟩ | ⟨rfl, hr⟩
            · refine wo_take (v := (.b c20)) rfl (s_pure (p_mv g5)) ?_
              refine wo_step (v := (.b c20)) (s_pure (p_pickT rfl rfl)) ?_
              refine wo_nil ?_
              cases hr
              exact ⟨_, _, rfl, rfl, gl rfl, gl g7, gl g8, gl g9⟩
            · refine wo_skip (v := (.b false)) rfl rfl ?_
              refine wo_step (v := (.b false)) (s_pure (p_pickF rfl rfl)) ?_
              refine wo_nil ?_
              cases hr
              exact ⟨_, _, rfl, rfl, gl rfl, gl g7, gl g8, gl g9⟩
          · clear hr
            have hr := hk
            clear hk
            obtain ⟨c47, ho⟩ : ∃ z, z = o_4 := ⟨_, rfl⟩
            subst ho
            rintro mm_4 t_5 ⟨rfl, g47, g7, g8, g9⟩
            refine wo_step (v := (.b c47)) (s_pure (p_mv g47)) ?_
            have hq := bindO_inv hr
            clear hr
            obtain ⟨o_5, hr, hk⟩ := hq
            refine wo_join 3 (g15_J5 x24 x25 m_4 o_5) ?_ ?_
            · clear hk
              have hq := cond_inv hr
              clear hr
              rcases hq with ⟨rfl, hr⟩ | ⟨rfl, hr⟩
              · refine wo_take (v := (.i .i64 x26)) rfl (s_pure (p_mv g9)) ?_
                have hq := forceB_inv hr
                clear hr
                obtain ⟨c50, e50, hr⟩ := hq
                refine wo_take (v := (.b c50)) rfl (s_pure (p_bin rfl rfl (b_eql.trans (cb e50)))) ?_
                refine wo_step (v := (.b c50)) (s_pure (p_pickT rfl rfl)) ?_
                refine wo_nil ?_
                cases hr
                exact ⟨_, _, rfl, rfl, gl rfl, gl g7, gl g8⟩
              · refine wo_skip (v := (.b false)) rfl rfl ?_
                refine wo_skip (v := (.b false)) rfl rfl ?_
                refine wo_step (v := (.b false)) (s_pure (p_pickF rfl rfl)) ?_
                refine wo_nil ?_
                cases hr
                exact ⟨_, _, rfl, rfl, gl rfl, gl g7, gl g8⟩
            · clear hr
              have hr := hk
              clear hk
              obtain ⟨c51, ho⟩ : ∃ z, z = o_5 := ⟨_, rfl⟩
              subst ho
              rintro mm_5 t_6 ⟨rfl, g51, g7, g8⟩
              refine wo_step (v := (.b c51)) (s_pure (p_mv g51)) ?_
              have hq := bindO_inv hr
              clear hr
              obtain ⟨o_6, hr, hk⟩ := hq
              refine wo_join 3 (g15_J6 x25 m_4 o_6) ?_ ?_
              · clear hk
                have hq := cond_inv hr
                clear hr
                rcases hq with ⟨rfl, hr⟩ | ⟨rfl, hr⟩
                · refine wo_take (v := (.i .i64 x24)) rfl (s_pure (p_mv g7)) ?_
                  have hq := forceB_inv hr
                  clear hr
                  obtain ⟨c54, e54, hr⟩ := hq
                  refine wo_take (v := (.b c54)) rfl (s_pure (p_bin rfl rfl (b_eql.trans (cb e54)))) ?_
                  refine wo_step (v := (.b c54)) (s_pure (p_pickT rfl rfl)) ?_
                  refine wo_nil ?_
                  cases hr
                  exact ⟨_, _, rfl, rfl, gl rfl, gl g8⟩
                · refine wo_skip (v := (.b false)) rfl rfl ?_
                  refine wo_skip (v := (.b false)) rfl rfl ?_
                  refine wo_step (v := (.b false)) (s_pure (p_pickF rfl rfl)) ?_
                  refine wo_nil ?_
                  cases hr
                  exact ⟨_, _, rfl, rfl, gl rfl, gl g8⟩
              · clear hr
                have hr := hk
                clear hk
                obtain ⟨c55, ho⟩ : ∃ z, z = o_6 := ⟨_, rfl⟩
                subst ho
                rintro mm_6 t_7 ⟨rfl, g55, g8⟩
                refine wo_step (v := (.b c55)) (s_pure (p_mv g55)) ?_
                have hq := bindO_inv hr
                clear hr
                obtain ⟨o_7, hr, hk⟩ := hq
                refine wo_join 3 (g15_J7 m_4 o_7) ?_ ?_
                · clear hk
                  have hq := cond_inv hr
                  clear hr
                  rcases hq with ⟨rfl, hr⟩ | ⟨rfl, hr⟩
                  · refine wo_take (v := (.i .i64 x25)) rfl (s_pure (p_mv g8)) ?_
                    have hq := forceB_inv hr
                    clear hr
                    obtain ⟨c58, e58, hr⟩ := hq
                    refine wo_take (v := (.b c58)) rfl (s_pure (p_bin rfl rfl (b_eql.trans (cb e58)))) ?_
                    refine wo_step (v := (.b c58)) (s_pure (p_pickT rfl rfl)) ?_
                    refine wo_nil ?_
                    cases hr
                    exact ⟨_, _, rfl, rfl, gl rfl⟩
                  · refine wo_skip (v := (.b false)) rfl rfl ?_
                    refine wo_skip (v := (.b false)) rfl rfl ?_
                    refine wo_step (v := (.b false)) (s_pure (p_pickF rfl rfl)) ?_
                    refine wo_nil ?_
                    cases hr
                    exact ⟨_, _, rfl, rfl, gl rfl⟩
                · clear hr
                  have hr := hk
                  clear hk
                  obtain ⟨c59, ho⟩ : ∃ z, z = o_7 := ⟨_, rfl⟩
                  subst ho
                  rintro mm_7 t_8 ⟨rfl, g59⟩
                  refine wo_step (v := (.b c59)) (s_pure (p_mv g59)) ?_
                  refine wo_nil ?_
                  refine nx_norm ?_
                  refine w_ret ?_
                  exact qf ret_ok (rt rfl rn) hr

/- dibber/weed.Grow -/

def g16 (M : Means) (ro : List ABlk) (x0 : Int) (s1 : List UInt8) (m0 : Mm) : Option (AVal × Heap × Nat × Nat) :=
  bindP (callM M.call m0 45 [(.i .i64 x0), (.s s1)]) fun v11 m_1 =>
  bindO (evP .e (.ext 0 (.c v11))) fun v12 =>
  asI .u8 v12 fun x12 =>
  bindO (evP .e (.ext 1 (.c v11))) fun v13 =>
  asI .i64 v13 fun x13 =>
  forceB (!eqI x13 0) fun c15 =>
  cond c15 (
    finM m0.h.length (tupA [(AVal.s []), (.i .i64 x13)]) m_1) (
    bindO (evP .e (.len true (.c (.s s1)))) fun v18 =>
    asI .i64 v18 fun x18 =>
    forceB (ltI x18 3) fun c19 =>
    cond c19 (
      finM m0.h.length (tupA [(AVal.s []), (.i .i64 5)]) m_1) (
      bindP (callM M.call m_1 46 [(.i .u8 x12), (.s s1)]) fun v22 m_2 =>
      asS v22 fun s22 =>
      finM m0.h.length (tupA [(.s s22), (.i .i64 0)]) m_2))

theorem g16_ok {ro : List ABlk} {O : Caller} {M : Means} (hM : M.Ok ⟨F, O⟩ ro) {x0 s1 h r} (ho : O 16 [(.i .i64 x0), (.s s1)] h = none) (hr : g16 M ro x0 s1 ⟨h, h.length, h.length⟩ = some r) : callX ⟨F, O⟩ ro 16 [(.i .i64 x0), (.s s1)] h = some r := by
  refine callX_of (F := ⟨F, O⟩) (fn := fn16) (g := g16 M ro x0 s1) ho rfl rfl hr ?_
  clear ho
  clear hr
  intro m0 t0 ht hr
  have g0 : t0.get 0 = (.i .i64 x0) := ht 0
  have g1 : t0.get 1 = (.s s1) := ht 1
  clear ht
  unfold g16 at hr
  refine w_seq ?_
  refine w_ops ?_
  refine wo_step (v := (AVal.s [])) (s_pure (p_mv rfl)) ?_
  refine wo_step (v := (.i .i64 0)) (s_pure (p_mv rfl)) ?_
  refine wo_nil ?_
  refine nx_norm ?_
  refine w_seq ?_
  refine w_ops ?_
  refine wo_step (v := (.i .i64 x0)) (s_pure (p_mv g0)) ?_
  refine wo_step (v := (.s s1)) (s_pure (p_mv g1)) ?_
  have hq := bindP_inv hr
  clear hr
  obtain ⟨v11, m_1, e11, hr⟩ := hq
  refine wo_step (v := v11) (s_call (mc rfl (mc rfl mn)) (callM_le hM.call e11)) ?_
  refine wo_step (v := v11) (s_pure (p_mv rfl)) ?_
  have hq := bindO_inv hr
  clear hr
  obtain ⟨v12, e12, hr⟩ := hq
  have hq := asI_inv hr
  clear hr
  obtain ⟨x12, rfl, hr⟩ := hq
  refine wo_step (v := (.i .u8 x12)) (s_pure (o_ext rfl e12)) ?_
  have hq := bindO_inv hr
  clear hr
  obtain ⟨v13, e13, hr⟩ := hq
  have hq := asI_inv hr
  clear hr
  obtain ⟨x13, rfl, hr⟩ := hq
  refine wo_step (v := (.i .i64 x13)) (s_pure (o_ext rfl e13)) ?_
  refine wo_step (v := (.i .u8 x12)) (s_pure (p_mv rfl)) ?_
  refine wo_step (v := (.i .i64 x13)) (s_pure (p_mv rfl)) ?_
  refine wo_nil ?_
  refine nx_norm ?_
  refine w_seq ?_
  refine w_seq ?_
  refine w_ops ?_
  refine wo_step (v := (.i .i64 x13)) (s_pure (p_mv rfl)) ?_
  have hq := forceB_inv hr
  clear hr
  obtain ⟨c15, e15, hr⟩ := hq
  refine wo_step (v := (.b c15)) (s_pure (p_bin rfl rfl (b_neq.trans (cb e15)))) ?_
  refine wo_nil ?_
  refine nx_norm ?_
  have hq := cond_inv hr
  clear hr
  rcases hq with ⟨rfl, hr⟩ | ⟨rfl, hr⟩
  · refine w_condT rfl ?_
    refine w_seq ?_
    refine w_ops ?_
    refine wo_step (v := (.i .i64 x13)) (s_pure (p_mv rfl)) ?_
    refine wo_step (v := (AVal.s [])) (s_pure (p_mv rfl)) ?_
    refine wo_step (v := (.i .i64 x13)) (s_pure (p_mv rfl)) ?_
    refine wo_nil ?_
    refine nx_norm ?_
    refine w_ret ?_
    refine nx_ret ?_
    exact qf ret_ok (rt rfl (rt rfl rn)) hr
  · refine w_condF rfl ?_
    refine w_skip ?_
    refine nx_norm ?_
    refine w_seq ?_
    refine w_seq ?_
    refine w_ops ?_
    refine wo_step (v := (.s s1)) (s_pure (p_mv g1)) ?_
    have hq := bindO_inv hr
    clear hr
    obtain ⟨v18, e18, hr⟩ := hq
    have hq := asI_inv hr
    clear hr
    obtain ⟨x18, rfl, hr⟩ := hq
    refine wo_step (v := (.i .i64 x18)) (s_pure (o_len rfl e18)) ?_
    have hq := forceB_inv hr
    clear hr
    obtain ⟨c19, e19, hr⟩ := hq
    refine wo_step (v := (.b c19)) (s_pure (p_bin rfl rfl (b_lss.trans (cb e19)))) ?_
    refine wo_nil ?_
    refine nx_norm ?_
    have hq := cond_inv hr
    clear hr
    rcases hq with ⟨rfl, hr⟩ | ⟨rfl, hr⟩
    · refine w_condT rfl ?_
      refine w_seq ?_
      refine w_ops ?_
      refine wo_step (v := (AVal.s [])) (s_pure (p_mv rfl)) ?_
      refine wo_step (v := (.i .i64 5)) (s_pure (p_mv rfl)) ?_
      refine wo_nil ?_
      refine nx_norm ?_
      refine w_ret ?_
      refine nx_ret ?_
      exact qf ret_ok (rt rfl (rt rfl rn)) hr
    · refine w_condF rfl ?_
      refine w_skip ?_
      refine nx_norm ?_
      refine w_seq ?_
      refine w_ops ?_
      refine wo_step (v := (.i .u8 x12)) (s_pure (p_mv rfl)) ?_
      refine wo_step (v := (.s s1)) (s_pure (p_mv g1)) ?_
      have hq := bindP_inv hr
      clear hr
      obtain ⟨v22, m_2, e22, hr⟩ := hq
      have hq := asS_inv hr
      clear hr
      obtain ⟨s22, rfl, hr⟩ := hq
      refine wo_step (v := (.s s22)) (s_call (mc rfl (mc rfl mn)) (callM_le hM.call e22)) ?_
      refine wo_step (v := (.s s22)) (s_pure (p_mv rfl)) ?_
      refine wo_step (v := (.i .i64 0)) (s_pure (p_mv rfl)) ?_
      refine wo_nil ?_
      refine nx_norm ?_
      refine w_ret ?_
      exact qf ret_ok (rt rfl (rt rfl rn)) hr

/- dibber/weed.Ring -/
abbrev g18_J0 (s1 : List UInt8) (x2 : Int) (x14 : Int) (m_1 : Mm) (o : Bool) (m1 : Mm) (t1 : Tr) : Prop :=
  match o with
  | c24 => m_1 = m1 ∧ t1.get 24 = (.b c24) ∧ t1.get 1 = (.s s1) ∧ t1.get 2 = (.i .i64 x2) ∧ t1.get 8 = (.i .u8 x14)
abbrev g18_I1 (x14 : Int) (x2 : Int) (s : List UInt8 × Int × Mm) (m1 : Mm) (t1 : Tr) : Prop :=
  match s with
  | (s1_1, x26, m_2) => m_2 = m1 ∧ t1.get 1 = (.s s1_1) ∧ t1.get 26 = (.i .i64 x26) ∧ t1.get 8 = (.i .u8 x14) ∧ t1.get 25 = (.i .i64 x2)
abbrev g18_J1 (x14 : Int) (x2 : Int) (o : (List UInt8 × Mm)) (e : AExit) (m1 : Mm) (t1 : Tr) : Prop :=
  match o with
  | (y1, mo) => e = (.exit 0) ∧ mo = m1 ∧ t1.get 1 = (.s y1)
def g18_b1 (M : Means) (ro : List ABlk) (x14 : Int) (x2 : Int) (s1_1 : List UInt8) (x26 : Int) (m_2 : Mm) : Option ((List UInt8 × Int × Mm) ⊕ ((List UInt8 × Mm))) :=
  forceB (ltI x26 x2) fun c27 =>
  cond c27 (
    bindP (callM M.call m_2 51 [(.i .u8 x14), (.s s1_1)]) fun v30 m_3 =>
    asS v30 fun s30 =>
    forceI (wr .i64 (x26 + 1)) fun x31 =>
    some (.inl (s30, x31, m_3))) (
    some (.inr (s1_1, m_2)))
def g18 (M : Means) (ro : List ABlk) (x0 : Int) (s1 : List UInt8) (x2 : Int) (m0 : Mm) : Option (AVal × Heap × Nat × Nat) :=
  bindP (callM M.call m0 45 [(.i .i64 x0), (.s s1)]) fun v13 m_1 =>
  bindO (evP .e (.ext 0 (.c v13))) fun v14 =>
  asI .u8 v14 fun x14 =>
  bindO (evP .e (.ext 1 (.c v13))) fun v15 =>
  asI .i64 v15 fun x15 =>
  forceB (!eqI x15 0) fun c17 =>
  cond c17 (
    finM m0.h.length (tupA [(AVal.s []), (.i .i64 x15)]) m_1) (
    forceB (ltI x2 0) fun c20 =>
    bindO (cond c20 (
      some true) (
      forceB (ltI 1000 x2) fun c23 =>
      some c23)) fun c24 =>
    cond c24 (
      finM m0.h.length (tupA [(AVal.s []), (.i .i64 3)]) m_1) (
      bindO (M.loop (S := List UInt8 × Int × Mm) (R := (List UInt8 × Mm)) (fun s => g18_b1 M ro x14 x2 s.1 s.2.1 s.2.2) (s1, 0, m_1)) fun ⟨s1_2, m_4⟩ =>
      finM m0.h.length (tupA [(.s s1_2), (.i .i64 0)]) m_4))

theorem g18_ok {ro : List ABlk} {O : Caller} {M : Means} (hM : M.Ok ⟨F, O⟩ ro) {x0 s1 x2 h r} (ho : O 18 [(.i .i64 x0), (.s s1), (.i .i64 x2)] h = none) (hr : g18 M ro x0 s1 x2 ⟨h, h.length, h.length⟩ = some r) : callX ⟨F, O⟩ ro 18 [(.i .i64 x0), (.s s1), (.i .i64 x2)] h = some r := by
  refine callX_of (F := ⟨F, O⟩) (fn := fn18) (g := g18 M ro x0 s1 x2) ho rfl rfl hr ?_
  clear ho
  clear hr
  intro m0 t0 ht hr
  have g0 : t0.get 0 = (.i .i64 x0) := ht 0
  have g1 : t0.get 1 = (.s s1) := ht 1
  have g2 : t0.get 2 = (.i .i64 x2) := ht 2
  clear ht
  unfold g18 at hr
  refine w_seq ?_
  refine w_ops ?_
  refine wo_step (v := (AVal.s [])) (s_pure (p_mv rfl)) ?_
  refine wo_step (v := (.i .i64 0)) (s_pure (p_mv rfl)) ?_
  refine wo_nil ?_
  refine nx_norm ?_
  refine w_seq ?_
  refine w_ops ?_
  refine wo_step (v := (.i .i64 x0)) (s_pure (p_mv g0)) ?_
  refine wo_step (v := (.s s1)) (s_pure (p_mv g1)) ?_
  have hq := bindP_inv hr
  clear hr
  obtain ⟨v13, m_1, e13, hr⟩ := hq
  refine wo_step (v := v13) (s_call (mc rfl (mc rfl mn)) (callM_le hM.call e13)) ?_
  refine wo_step (v := v13) (s_pure (p_mv rfl)) ?_
  have hq := bindO_inv hr
  clear hr
  obtain ⟨v14, e14, hr⟩ := hq
  have hq := asI_inv hr
  clear hr
  obtain ⟨x14, rfl, hr⟩ := hq
  refine wo_step (v := (.i .u8 x14)) (s_pure (o_ext rfl e14)) ?_
  have hq := bindO_inv hr
  clear hr
  obtain ⟨v15, e15, hr⟩ := hq
  have hq := asI_inv hr
  clear hr
  obtain ⟨x15, rfl, hr⟩ := hq
  refine wo_step (v := (.i .i64 x15)) (s_pure (o_ext rfl e15)) ?_
  refine wo_step (v := (.i .u8 x14)) (s_pure (p_mv rfl)) ?_
  refine wo_step (v := (.i .i64 x15)) (s_pure (p_mv rfl)) ?_
  refine wo_nil ?_
  refine nx_norm ?_
  refine w_seq ?_
  refine w_seq ?_
  refine w_ops ?_
  refine wo_step (v := (.i .i64 x15)) (s_pure (p_mv rfl)) ?_
  have hq := forceB_inv hr
  clear hr
  obtain ⟨c17, e17, hr⟩ := hq
  refine wo_step (v := (.b c17)) (s_pure (p_bin rfl rfl (b_neq.trans (cb e17)))) ?_
  refine wo_nil ?_
  refine nx_norm ?_
  have hq := cond_inv hr
  clear hr
  rcases hq with ⟨rfl, hr⟩ | ⟨rfl, hr⟩
  · refine w_condT rfl ?_
    refine w_seq ?_
    refine w_ops ?_
    refine wo_step (v := (.i .i64 x15)) (s_pure (p_mv rfl)) ?_
    refine wo_step (v := (AVal.s [])) (s_pure (p_mv rfl)) ?_
    refine wo_step (v := (.i .i64 x15)) (s_pure (p_mv rfl)) ?_
    refine wo_nil ?_
    refine nx_norm ?_
    refine w_ret ?_
    refine nx_ret ?_
    exact qf ret_ok (rt rfl (rt rfl rn)) hr
  · refine w_condF rfl ?_
    refine w_skip ?_
    refine nx_norm ?_
    refine w_seq ?_
    refine w_seq ?_
    refine w_ops ?_
    refine wo_step (v := (.i .i64 x2)) (s_pure (p_mv g2)) ?_
    have hq := forceB_inv hr
    clear hr
    obtain ⟨c20, e20, hr⟩ := hq
    refine wo_step (v := (.b c20)) (s_pure (p_bin rfl rfl (b_lss.trans (cb e20)))) ?_
    refine wo_step (v := (.b c20)) (s_pure (p_mv rfl)) ?_
    have hq := bindO_inv hr
    clear hr
    obtain ⟨o, hr, hk⟩ := hq
    refine wo_join 3 (g18_J0 s1 x2 x14 m_1 o) ?_ ?_
    · clear hk
      have hq := cond_inv hr
      clear hr
      rcases hq with ⟨rfl, hr⟩ | ⟨rfl, hr⟩
      · refine wo_skip (v := (.b true)) rfl rfl ?_
        refine wo_skip (v := (.b true)) rfl rfl ?_
        refine wo_step (v := (.b true)) (s_pure (p_pickT rfl rfl)) ?_
        refine wo_nil ?_
        cases hr
        exact ⟨_, _, rfl, rfl, gl rfl, gl g1, gl g2, gl rfl⟩
      · refine wo_take (v := (.i .i64 x2)) rfl (s_pure (p_mv g2)) ?_
        have hq := forceB_inv hr
        clear hr
        obtain ⟨c23, e23, hr⟩ := hq
        refine wo_take (v := (.b c23)) rfl (s_pure (p_bin rfl rfl (b_gtr.trans (cb e23)))) ?_
        refine wo_step (v := (.b c23)) (s_pure (p_pickF rfl rfl)) ?_
        refine wo_nil ?_
        cases hr
        exact ⟨_, _, rfl, rfl, gl rfl, gl g1, gl g2, gl rfl⟩
    · clear hr
      have hr := hk
      clear hk
      obtain ⟨c24, ho⟩ : ∃ z, z = o := ⟨_, rfl⟩
      subst ho
      rintro mm t_1 ⟨rfl, g24, g1, g2, g8⟩
      refine wo_nil ?_
      refine nx_norm ?_
      have hq := cond_inv hr
      clear hr
      rcases hq with ⟨rfl, hr⟩ | ⟨rfl, hr⟩
      · refine w_condT g24 ?_
        refine w_seq ?_
        refine w_ops ?_
        refine wo_step (v := (AVal.s [])) (s_pure (p_mv rfl)) ?_
        refine wo_step (v := (.i .i64 3)) (s_pure (p_mv rfl)) ?_
        refine wo_nil ?_
        refine nx_norm ?_
        refine w_ret ?_
        refine nx_ret ?_
        exact qf ret_ok (rt rfl (rt rfl rn)) hr
      · refine w_condF g24 ?_
        refine w_skip ?_
        refine nx_norm ?_
        refine w_seq ?_
        refine w_seq ?_
        refine w_ops ?_
        refine wo_step (v := (.i .i64 x2)) (s_pure (p_mv g2)) ?_
        refine wo_step (v := (.i .i64 0)) (s_pure (p_mv rfl)) ?_
        refine wo_nil ?_
        refine nx_norm ?_
        refine w_block ?_
        have hq := bindO_inv hr
        clear hr
        obtain ⟨o_1, hl, hr⟩ := hq
        obtain ⟨n, hl⟩ := hM.loop _ _ _ hl
        refine jp_mono (w_loop _ (g18_I1 x14 x2) (g18_J1 x14 x2) ?_ n _ _ _ _ hl ⟨rfl, gl g1, gl rfl, gl g8, gl rfl⟩) ?_
        · clear hr hl
          intro s mm_2 t_2 o hi hr
          obtain ⟨s1_1, x26, m_2⟩ := s
          obtain ⟨rfl, g1, g26, g8, g25⟩ := hi
          unfold g18_b1 at hr
          refine w_seq ?_
          refine w_ops ?_
          have hq := forceB_inv hr
          clear hr
          obtain ⟨c27, e27, hr⟩ := hq
          refine wo_step (v := (.b c27)) (s_pure (p_bin g26 g25 (b_lss.trans (cb e27)))) ?_
          refine wo_nil ?_
          refine nx_norm ?_
          refine w_seq ?_
          have hq := cond_inv hr
          clear hr
          rcases hq with ⟨rfl, hr⟩ | ⟨rfl, hr⟩
          · refine w_condT rfl ?_
            refine w_skip ?_
            refine nx_norm ?_
            refine w_seq ?_
            refine w_block ?_
            refine w_ops ?_
            refine wo_step (v := (.i .u8 x14)) (s_pure (p_mv g8)) ?_
            refine wo_step (v := (.s s1_1)) (s_pure (p_mv g1)) ?_
            have hq := bindP_inv hr
            clear hr
            obtain ⟨v30, m_3, e30, hr⟩ := hq
            have hq := asS_inv hr
            clear hr
            obtain ⟨s30, rfl, hr⟩ := hq
            refine wo_step (v := (.s s30)) (s_call (mc rfl (mc rfl mn)) (callM_le hM.call e30)) ?_
            refine wo_step (v := (.s s30)) (s_pure (p_mv rfl)) ?_
            refine wo_nil ?_
            refine bk_norm ?_
            refine nx_norm ?_
            refine w_ops ?_
            have hq := forceI_inv hr
            clear hr
            obtain ⟨x31, e31, hr⟩ := hq
            refine wo_step (v := (.i .i64 x31)) (s_pure (p_bin g26 rfl (b_add.trans (ci e31)))) ?_
            refine wo_step (v := (.i .i64 x31)) (s_pure (p_mv rfl)) ?_
            refine wo_nil ?_
            cases hr
            exact ⟨_, _, rfl, rfl, rfl, gl rfl, gl rfl, gl g8, gl g25⟩
          · refine w_condF rfl ?_
            refine w_exit ?_
            refine nx_exit ?_
            cases hr
            exact ⟨_, _, rfl, ne_norm_exit, rfl, rfl, gl g1⟩
        · obtain ⟨s1_2, m_4⟩ := o_1
          rintro _ mm_1 t_3 ⟨rfl, rfl, g1⟩
          refine bk_hit ?_
          refine nx_norm ?_
          refine w_seq ?_
          refine w_ops ?_
          refine wo_step (v := (.s s1_2)) (s_pure (p_mv g1)) ?_
          refine wo_step (v := (.s s1_2)) (s_pure (p_mv rfl)) ?_
          refine wo_step (v := (.i .i64 0)) (s_pure (p_mv rfl)) ?_
          refine wo_nil ?_
          refine nx_norm ?_
          refine w_ret ?_
          exact qf ret_ok (rt rfl (rt rfl rn)) hr

/- dibber/weed.Back -/
abbrev g20_J0 (s1 : List UInt8) (x14 : Int) (x15 : Int) (m_1 : Mm) (o : Bool) (m1 : Mm) (t1 : Tr) : Prop :=
  match o with
  | c22 => m_1 = m1 ∧ t1.get 22 = (.b c22) ∧ t1.get 1 = (.s s1) ∧ t1.get 6 = (.i .u8 x14) ∧ t1.get 7 = (.i .i64 x15)
def g20 (M : Means) (ro : List ABlk) (x0 : Int) (s1 : List UInt8) (m0 : Mm) : Option (AVal × Heap × Nat × Nat) :=
  bindP (callM M.call m0 45 [(.i .i64 x0), (.s s1)]) fun v13 m_1 =>
  bindO (evP .e (.ext 0 (.c v13))) fun v14 =>
  asI .u8 v14 fun x14 =>
  bindO (evP .e (.ext 1 (.c v13))) fun v15 =>
  asI .i64 v15 fun x15 =>
  forceB (!eqI x15 2) fun c17 =>
  bindO (cond c17 (
    bindO (evP .e (.len true (.c (.s s1)))) fun v20 =>
    asI .i64 v20 fun x20 =>
    forceB (ltI 398 x20) fun c21 =>
    some c21) (
    some false)) fun c22 =>
  cond c22 (
    finM m0.h.length (tupA [(AVal.s []), (.i .i64 3)]) m_1) (
    forceB (!eqI x15 0) fun c24 =>
    cond c24 (
      finM m0.h.length (tupA [(AVal.s []), (.i .i64 x15)]) m_1) (
      bindP (callM M.call m_1 53 [(.i .u8 x14), (.s s1)]) fun v29 m_2 =>
      bindO (evP .e (.ext 0 (.c v29))) fun v30 =>
      asS v30 fun s30 =>
      bindO (evP .e (.ext 1 (.c v29))) fun v31 =>
      asB v31 fun c31 =>
      forceB (!c31) fun c33 =>
      cond c33 (
        finM m0.h.length (tupA [(AVal.s []), (.i .i64 10)]) m_2) (
        finM m0.h.length (tupA [(.s s30), (.i .i64 0)]) m_2)))

theorem g20_ok {ro : List ABlk} {O : Caller} {M : Means} (hM : M.Ok ⟨F, O⟩ ro) {x0 s1 h r} (ho : O 20 [(.i .i64 x0), (.s s1)] h = none) (hr : g20 M ro x0 s1 ⟨h, h.length, h.length⟩ = some r) : callX ⟨F, O⟩ ro 20 [(.i .i64 x0), (.s s1)] h = some r := by
  refine callX_of (F := ⟨F, O⟩) (fn := fn20) (g := g20 M ro x0 s1) ho rfl rfl hr ?_
  clear ho
  clear hr
  intro m0 t0 ht hr
  have g0 : t0.get 0 = (.i .i64 x0) := ht 0
  have g1 : t0.get 1 = (.s s1) := ht 1
  clear ht
  unfold g20 at hr
  refine w_seq ?_
  refine w_ops ?_
  refine wo_step (v := (AVal.s [])) (s_pure (p_mv rfl)) ?_
  refine wo_step (v := (.i .i64 0)) (s_pure (p_mv rfl)) ?_
  refine wo_nil ?_
  refine nx_norm ?_
  refine w_seq ?_
  refine w_ops ?_
  refine wo_step (v := (.i .i64 x0)) (s_pure (p_mv g0)) ?_
  refine wo_step (v := (.s s1)) (s_pure (p_mv g1)) ?_
  have hq := bindP_inv hr
  clear hr
  obtain ⟨v13, m_1, e13, hr⟩ := hq
  refine wo_step (v := v13) (s_call (mc rfl (mc rfl mn)) (callM_le hM.call e13)) ?_
  refine wo_step (v := v13) (s_pure (p_mv rfl)) ?_
  have hq := bindO_inv hr
  clear hr
  obtain ⟨v14, e14, hr⟩ := hq
  have hq := asI_inv hr
  clear hr
  obtain ⟨x14, rfl, hr⟩ := hq
  refine wo_step (v := (.i .u8 x14)) (s_pure (o_ext rfl e14)) ?_
  have hq := bindO_inv hr
  clear hr
  obtain ⟨v15, e15, hr⟩ := hq
  have hq := asI_inv hr
  clear hr
  obtain ⟨x15, rfl, hr⟩ := hq
  refine wo_step (v := (.i .i64 x15)) (s_pure (o_ext rfl e15)) ?_
  refine wo_step (v := (.i .u8 x14)) (s_pure (p_mv rfl)) ?_
  refine wo_step (v := (.i .i64 x15)) (s_pure (p_mv rfl)) ?_
  refine wo_nil ?_
  refine nx_norm ?_
  refine w_seq ?_
  refine w_seq ?_
  refine w_ops ?_
  refine wo_step (v := (.i .i64 x15)) (s_pure (p_mv rfl)) ?_
  have hq := forceB_inv hr
  clear hr
  obtain ⟨c17, e17, hr⟩ := hq
  refine wo_step (v := (.b c17)) (s_pure (p_bin rfl rfl (b_neq.trans (cb e17)))) ?_
  refine wo_step (v := (.b c17)) (s_pure (p_mv rfl)) ?_
  have hq := bindO_inv hr
  clear hr
  obtain ⟨o, hr, hk⟩ := hq
  refine wo_join 4 (g20_J0 s1 x14 x15 m_1 o) ?_ ?_
  · clear hk
    have hq := cond_inv hr
    clear hr
    rcases hq with ⟨rfl, hr⟩ | ⟨rfl, hr⟩
    · refine wo_take (v := (.s s1)) rfl (s_pure (p_mv g1)) ?_
      have hq := bindO_inv hr
      clear hr
      obtain ⟨v20, e20, hr⟩ := hq
      have hq := asI_inv hr
      clear hr
      obtain ⟨x20, rfl, hr⟩ := hq
      refine wo_take (v := (.i .i64 x20)) rfl (s_pure (o_len rfl e20)) ?_
      have hq := forceB_inv hr
      clear hr
      obtain ⟨c21, e21, hr⟩ := hq
      refine wo_take (v := (.b c21)) rfl (s_pure (p_bin rfl rfl (b_gtr.trans (cb e21)))) ?_
      refine wo_step (v := (.b c21)) (s_pure (p_pickT rfl rfl)) ?_
      refine wo_nil ?_
      cases hr
      exact ⟨_, _, rfl, rfl, gl rfl, gl g1, gl rfl, gl rfl⟩
    · refine wo_skip (v := (.b false)) rfl rfl ?_
      refine wo_skip (v := (.b false)) rfl rfl ?_
      refine wo_skip (v := (.b false)) rfl rfl ?_
      refine wo_step (v := (.b false)) (s_pure (p_pickF rfl rfl)) ?_
      refine wo_nil ?_
      cases hr
      exact ⟨_, _, rfl, rfl, gl rfl, gl g1, gl rfl, gl rfl⟩
  · clear hr
    have hr := hk
    clear hk
    obtain ⟨c22, ho⟩ : ∃ z, z = o := ⟨_, rfl⟩
    subst ho
    rintro mm t_1 ⟨rfl, g22, g1, g6, g7⟩
    refine wo_nil ?_
    refine nx_norm ?_
    have hq := cond_inv hr
    clear hr
    rcases hq with ⟨rfl, hr⟩ | ⟨rfl, hr⟩
    · refine w_condT g22 ?_
      refine w_seq ?_
      refine w_ops ?_
      refine wo_step (v := (AVal.s [])) (s_pure (p_mv rfl)) ?_
      refine wo_step (v := (.i .i64 3)) (s_pure (p_mv rfl)) ?_
      refine wo_nil ?_
      refine nx_norm ?_
      refine w_ret ?_
      refine nx_ret ?_
      exact qf ret_ok (rt rfl (rt rfl rn)) hr
    · refine w_condF g22 ?_
      refine w_skip ?_
      refine nx_norm ?_
      refine w_seq ?_
      refine w_seq ?_
      refine w_ops ?_
      refine wo_step (v := (.i .i64 x15)) (s_pure (p_mv g7)) ?_
      have hq := forceB_inv hr
      clear hr
      obtain ⟨c24, e24, hr⟩ := hq
      refine wo_step (v := (.b c24)) (s_pure (p_bin rfl rfl (b_neq.trans (cb e24)))) ?_
      refine wo_nil ?_
      refine nx_norm ?_
      have hq := cond_inv hr
      clear hr
      rcases hq with ⟨rfl, hr⟩ | ⟨rfl, hr⟩
      · refine w_condT rfl ?_
        refine w_seq ?_
        refine w_ops ?_
        refine wo_step (v := (.i .i64 x15)) (s_pure (p_mv g7)) ?_
        refine wo_step (v := (AVal.s [])) (s_pure (p_mv rfl)) ?_
        refine wo_step (v := (.i .i64 x15)) (s_pure (p_mv rfl)) ?_
        refine wo_nil ?_
        refine nx_norm ?_
        refine w_ret ?_
        refine nx_ret ?_
        exact qf ret_ok (rt rfl (rt rfl rn)) hr
      · refine w_condF rfl ?_
        refine w_skip ?_
        refine nx_norm ?_
        refine w_seq ?_
        refine w_ops ?_
        refine wo_step (v := (.i .u8 x14)) (s_pure (p_mv g6)) ?_
        refine wo_step (v := (.s s1)) (s_pure (p_mv g1)) ?_
        have hq := bindP_inv hr
        clear hr
        obtain ⟨v29, m_2, e29, hr⟩ := hq
        refine wo_step (v := v29) (s_call (mc rfl (mc rfl mn)) (callM_le hM.call e29)) ?_
        refine wo_step (v := v29) (s_pure (p_mv rfl)) ?_
        have hq := bindO_inv hr
        clear hr
        obtain ⟨v30, e30, hr⟩ := hq
        have hq := asS_inv hr
        clear hr
        obtain ⟨s30, rfl, hr⟩ := hq
        refine wo_step (v := (.s s30)) (s_pure (o_ext rfl e30)) ?_
        have hq := bindO_inv hr
        clear hr
        obtain ⟨v31, e31, hr⟩ := hq
        have hq := asB_inv hr
        clear hr
        obtain ⟨c31, rfl, hr⟩ := hq
        refine wo_step (v := (.b c31)) (s_pure (o_ext rfl e31)) ?_
        refine wo_step (v := (.s s30)) (s_pure (p_mv rfl)) ?_
        refine wo_step (v := (.b c31)) (s_pure (p_mv rfl)) ?_
        refine wo_nil ?_
        refine nx_norm ?_
        refine w_seq ?_
        refine w_seq ?_
        refine w_ops ?_
        refine wo_step (v := (.b c31)) (s_pure (p_mv rfl)) ?_
        have hq := forceB_inv hr
        clear hr
        obtain ⟨c33, e33, hr⟩ := hq
        refine wo_step (v := (.b c33)) (s_pure ((p_not rfl).trans (cb e33))) ?_
        refine wo_nil ?_
        refine nx_norm ?_
        have hq := cond_inv hr
        clear hr
        rcases hq with ⟨rfl, hr⟩ | ⟨rfl, hr⟩
        · refine w_condT rfl ?_
          refine w_seq ?_
          refine w_ops ?_
          refine wo_step (v := (AVal.s [])) (s_pure (p_mv rfl)) ?_
          refine wo_step (v := (.i .i64 10)) (s_pure (p_mv rfl)) ?_
          refine wo_nil ?_
          refine nx_norm ?_
          refine w_ret ?_
          refine nx_ret ?_
          exact qf ret_ok (rt rfl (rt rfl rn)) hr
        · refine w_condF rfl ?_
          refine w_skip ?_
          refine nx_norm ?_
          refine w_seq ?_
          refine w_ops ?_
          refine wo_step (v := (.s s30)) (s_pure (p_mv rfl)) ?_
          refine wo_step (v := (.s s30)) (s_pure (p_mv rfl)) ?_
          refine wo_step (v := (.i .i64 0)) (s_pure (p_mv rfl)) ?_
          refine wo_nil ?_
          refine nx_norm ?_
          refine w_ret ?_
          exact qf ret_ok (rt rfl (rt rfl rn)) hr

/- dibber/weed.Ways -/
abbrev g22_I0 (v23 : AVal) (m_2 : Mm) (s : Int × Int) (m1 : Mm) (t1 : Tr) : Prop :=
  match s with
  | (x8, x24) => m_2 = m1 ∧ t1.get 8 = (.i .i64 x8) ∧ t1.get 24 = (.i .i64 x24) ∧ t1.get 23 = v23
abbrev g22_J0 (v23 : AVal) (m_2 : Mm) (o : Int) (e : AExit) (m1 : Mm) (t1 : Tr) : Prop :=
  match o with
  | y8 => e = (.exit 0) ∧ m_2 = m1 ∧ t1.get 8 = (.i .i64 y8)
def g22_b0 (M : Means) (ro : List ABlk) (v23 : AVal) (m_2 : Mm) (x8 : Int) (x24 : Int) : Option ((Int × Int) ⊕ (Int)) :=
  forceB (ltI x24 4) fun c25 =>
  cond c25 (
    bindO (evP .e (.ixV 4 1 true (.c v23) (.c (.i .i64 x24)))) fun v26 =>
    asI .i64 v26 fun x26 =>
    forceI (wr .i64 (x8 + x26)) fun x29 =>
    forceI (wr .i64 (x24 + 1)) fun x30 =>
    some (.inl (x29, x30))) (
    some (.inr x8))
def g22 (M : Means) (ro : List ABlk) (x0 : Int) (s1 : List UInt8) (m0 : Mm) : Option (AVal × Heap × Nat × Nat) :=
  bindP (callM M.call m0 56 [(.i .i64 x0), (.s s1)]) fun v14 m_1 =>
  bindO (evP .e (.ext 0 (.c v14))) fun v15 =>
  asI .u8 v15 fun x15 =>
  bindO (evP .e (.ext 1 (.c v14))) fun v16 =>
  asI .i64 v16 fun x16 =>
  forceB (!eqI x16 0) fun c18 =>
  cond c18 (
    finM m0.h.length (tupA [(.i .i64 0), (.i .i64 x16)]) m_1) (
    bindO ((fillA [(AVal.i IntKind.i64 0), (AVal.i IntKind.i64 0), (AVal.i IntKind.i64 0), (AVal.i IntKind.i64 0)] [((0, 1), (.i .i64 1)), ((1, 1), (.i .i64 1)), ((2, 1), (.i .i64 1)), ((3, 1), (.i .i64 1))]).map AVal.agg) fun v22 =>
    bindP (callM M.call m_1 57 [(.i .u8 x15), (.s s1), v22]) fun v23 m_2 =>
    bindO (M.loop (S := Int × Int) (R := Int) (fun s => g22_b0 M ro v23 m_2 s.1 s.2) (0, 0)) fun x8_1 =>
    finM m0.h.length (tupA [(.i .i64 x8_1), (.i .i64 0)]) m_2)

theorem g22_ok {ro : List ABlk} {O : Caller} {M : Means} (hM : M.Ok ⟨F, O⟩ ro) {x0 s1 h r} (ho : O 22 [(.i .i64 x0), (.s s1)] h = none) (hr : g22 M ro x0 s1 ⟨h, h.length, h.length⟩ = some r) : callX ⟨F, O⟩ ro 22 [(.i .i64 x0), (.s s1)] h = some r := by
  refine callX_of (F := ⟨F, O⟩) (fn := fn22) (g := g22 M ro x0 s1) ho rfl rfl hr ?_
  clear ho
  clear hr
  intro m0 t0 ht hr
  have g0 : t0.get 0 = (.i .i64 x0) := ht 0
  have g1 : t0.get 1 = (.s s1) := ht 1
  clear ht
  unfold g22 at hr
  refine w_seq ?_
  refine w_ops ?_
  refine wo_step (v := (.i .i64 0)) (s_pure (p_mv rfl)) ?_
  refine wo_step (v := (.i .i64 0)) (s_pure (p_mv rfl)) ?_
  refine wo_nil ?_
  refine nx_norm ?_
  refine w_seq ?_
  refine w_ops ?_
  refine wo_step (v := (.i .i64 x0)) (s_pure (p_mv g0)) ?_
  refine wo_step (v := (.s s1)) (s_pure (p_mv g1)) ?_
  have hq := bindP_inv hr
  clear hr
  obtain ⟨v14, m_1, e14, hr⟩ := hq
  refine wo_step (v := v14) (s_call (mc rfl (mc rfl mn)) (callM_le hM.call e14)) ?_
  refine wo_step (v := v14) (s_pure (p_mv rfl)) ?_
  have hq := bindO_inv hr
  clear hr
  obtain ⟨v15, e15, hr⟩ := hq
  have hq := asI_inv hr
  clear hr
  obtain ⟨x15, rfl, hr⟩ := hq
  refine wo_step (v := (.i .u8 x15)) (s_pure (o_ext rfl e15)) ?_
  have hq := bindO_inv hr
  clear hr
  obtain ⟨v16, e16, hr⟩ := hq
  have hq := asI_inv hr
  clear hr
  obtain ⟨x16, rfl, hr⟩ := hq
  refine wo_step (v := (.i .i64 x16)) (s_pure (o_ext rfl e16)) ?_
  refine wo_step (v := (.i .u8 x15)) (s_pure (p_mv rfl)) ?_
  refine wo_step (v := (.i .i64 x16)) (s_pure (p_mv rfl)) ?_
  refine wo_nil ?_
  refine nx_norm ?_
  refine w_seq ?_
  refine w_seq ?_
  refine w_ops ?_
  refine wo_step (v := (.i .i64 x16)) (s_pure (p_mv rfl)) ?_
  have hq := forceB_inv hr
  clear hr
  obtain ⟨c18, e18, hr⟩ := hq
  refine wo_step (v := (.b c18)) (s_pure (p_bin rfl rfl (b_neq.trans (cb e18)))) ?_
  refine wo_nil ?_
  refine nx_norm ?_
  have hq := cond_inv hr
  clear hr
  rcases hq with ⟨rfl, hr⟩ | ⟨rfl, hr⟩
  · refine w_condT rfl ?_
    refine w_seq ?_
    refine w_ops ?_
    refine wo_step (v := (.i .i64 x16)) (s_pure (p_mv rfl)) ?_
    refine wo_step (v := (.i .i64 0)) (s_pure (p_mv rfl)) ?_
    refine wo_step (v := (.i .i64 x16)) (s_pure (p_mv rfl)) ?_
    refine wo_nil ?_
    refine nx_norm ?_
    refine w_ret ?_
    refine nx_ret ?_
    exact qf ret_ok (rt rfl (rt rfl rn)) hr
  · refine w_condF rfl ?_
    refine w_skip ?_
    refine nx_norm ?_
    refine w_seq ?_
    refine w_ops ?_
    refine wo_step (v := (.i .i64 0)) (s_pure (p_mv rfl)) ?_
    refine wo_nil ?_
    refine nx_norm ?_
    refine w_seq ?_
    refine w_seq ?_
    refine w_ops ?_
    refine wo_step (v := (.i .u8 x15)) (s_pure (p_mv rfl)) ?_
    refine wo_step (v := (.s s1)) (s_pure (p_mv g1)) ?_
    have hq := bindO_inv hr
    clear hr
    obtain ⟨v22, e22, hr⟩ := hq
    refine wo_step (v := v22) (s_pure (o_build (qc rfl (qc rfl (qc rfl (qc rfl qn)))) e22)) ?_
    have hq := bindP_inv hr
    clear hr
    obtain ⟨v23, m_2, e23, hr⟩ := hq
    refine wo_step (v := v23) (s_call (mc rfl (mc rfl (mc rfl mn))) (callM_le hM.call e23)) ?_
    refine wo_step (v := (.i .i64 0)) (s_pure (p_mv rfl)) ?_
    refine wo_nil ?_
    refine nx_norm ?_
    refine w_block ?_
    have hq := bindO_inv hr
    clear hr
    obtain ⟨o, hl, hr⟩ := hq
    obtain ⟨n, hl⟩ := hM.loop _ _ _ hl
    refine jp_mono (w_loop _ (g22_I0 v23 m_2) (g22_J0 v23 m_2) ?_ n _ _ _ _ hl ⟨rfl, gl rfl, gl rfl, gl rfl⟩) ?_
    · clear hr hl
      intro s mm_1 t_1 o hi hr
      obtain ⟨x8, x24⟩ := s
      obtain ⟨rfl, g8, g24, g23⟩ := hi
      unfold g22_b0 at hr
      refine w_seq ?_
      refine w_ops ?_
      have hq := forceB_inv hr
      clear hr
      obtain ⟨c25, e25, hr⟩ := hq
      refine wo_step (v := (.b c25)) (s_pure (p_bin g24 rfl (b_lss.trans (cb e25)))) ?_
      refine wo_nil ?_
      refine nx_norm ?_
      refine w_seq ?_
      have hq := cond_inv hr
      clear hr
      rcases hq with ⟨rfl, hr⟩ | ⟨rfl, hr⟩
      · refine w_condT rfl ?_
        refine w_skip ?_
        refine nx_norm ?_
        refine w_seq ?_
        refine w_block ?_
        refine w_seq ?_
        refine w_ops ?_
        have hq := bindO_inv hr
        clear hr
        obtain ⟨v26, e26, hr⟩ := hq
        have hq := asI_inv hr
        clear hr
        obtain ⟨x26, rfl, hr⟩ := hq
        refine wo_step (v := (.i .i64 x26)) (s_pure (o_ixV g23 g24 e26)) ?_
        refine wo_step (v := (.i .i64 x26)) (s_pure (p_mv rfl)) ?_
        refine wo_nil ?_
        refine nx_norm ?_
        refine w_ops ?_
        refine wo_step (v := (.i .i64 x8)) (s_pure (p_mv g8)) ?_
        refine wo_step (v := (.i .i64 x26)) (s_pure (p_mv rfl)) ?_
        have hq := forceI_inv hr
        clear hr
        obtain ⟨x29, e29, hr⟩ := hq
        refine wo_step (v := (.i .i64 x29)) (s_pure (p_bin rfl rfl (b_add.trans (ci e29)))) ?_
        refine wo_step (v := (.i .i64 x29)) (s_pure (p_mv rfl)) ?_
        refine wo_nil ?_
        refine bk_norm ?_
        refine nx_norm ?_
        refine w_ops ?_
        have hq := forceI_inv hr
        clear hr
        obtain ⟨x30, e30, hr⟩ := hq
        refine wo_step (v := (.i .i64 x30)) (s_pure (p_bin g24 rfl (b_add.trans (ci e30)))) ?_
        refine wo_step (v := (.i .i64 x30)) (s_pure (p_mv rfl)) ?_
        refine wo_nil ?_
        cases hr
        exact ⟨_, _, rfl, rfl, rfl, gl rfl, gl rfl, gl g23⟩
      · refine w_condF rfl ?_
        refine w_exit ?_
        refine nx_exit ?_
        cases hr
        exact ⟨_, _, rfl, ne_norm_exit, rfl, rfl, gl g8⟩
    · obtain ⟨x8_1, ho⟩ : ∃ z, z = o := ⟨_, rfl⟩
      subst ho
      rintro _ mm t_2 ⟨rfl, rfl, g8⟩
      refine bk_hit ?_
      refine nx_norm ?_
      refine w_seq ?_
      refine w_ops ?_
      refine wo_step (v := (.i .i64 x8_1)) (s_pure (p_mv g8)) ?_
      refine wo_step (v := (.i .i64 x8_1)) (s_pure (p_mv rfl)) ?_
      refine wo_step (v := (.i .i64 0)) (s_pure (p_mv rfl)) ?_
      refine wo_nil ?_
      refine nx_norm ?_
      refine w_ret ?_
      exact qf ret_ok (rt rfl (rt rfl rn)) hr

/- dibber/weed.Eden -/
abbrev g26_J0 (x1 : Int) (x12 : Int) (m_1 : Mm) (o : Bool) (m1 : Mm) (t1 : Tr) : Prop :=
  match o with
  | c22 => m_1 = m1 ∧ t1.get 22 = (.b c22) ∧ t1.get 1 = (.i .i64 x1) ∧ t1.get 6 = (.i .u8 x12)
abbrev g26_J1 (s24 : List UInt8) (m_2 : Mm) (o : Bool) (m1 : Mm) (t1 : Tr) : Prop :=
  match o with
  | c32 => m_2 = m1 ∧ t1.get 32 = (.b c32) ∧ t1.get 8 = (.s s24)
def g26 (M : Means) (ro : List ABlk) (x0 : Int) (x1 : Int) (m0 : Mm) : Option (AVal × Heap × Nat × Nat) :=
  bindP (callM M.call m0 61 [(.i .i64 x0)]) fun v11 m_1 =>
  bindO (evP .e (.ext 0 (.c v11))) fun v12 =>
  asI .u8 v12 fun x12 =>
  bindO (evP .e (.ext 1 (.c v11))) fun v13 =>
  asI .i64 v13 fun x13 =>
  forceB (!eqI x13 0) fun c15 =>
  cond c15 (
    finM m0.h.length (tupA [(AVal.s []), (.i .i64 x13)]) m_1) (
    forceB (ltI x1 1) fun c18 =>
    bindO (cond c18 (
      some true) (
      forceB (ltI 20 x1) fun c21 =>
      some c21)) fun c22 =>
    cond c22 (
      finM m0.h.length (tupA [(AVal.s []), (.i .i64 2)]) m_1) (
      bindP (callM M.call m_1 62 [(.i .u8 x12)]) fun v24 m_2 =>
      asS v24 fun s24 =>
      bindO (evP .e (.sbin BinOp.eql (.c (.s s24)) (.c (AVal.s [])))) fun v26 =>
      asB v26 fun c26 =>
      bindO (cond c26 (
        some true) (
        bindO (evP .e (.len true (.c (.s s24)))) fun v29 =>
        asI .i64 v29 fun x29 =>
        forceB (ltI x1 x29) fun c31 =>
        some c31)) fun c32 =>
      cond c32 (
        finM m0.h.length (tupA [(AVal.s []), (.i .i64 10)]) m_2) (
        finM m0.h.length (tupA [(.s s24), (.i .i64 0)]) m_2)))

theorem g26_ok {ro : List ABlk} {O : Caller} {M : Means} (hM : M.Ok ⟨F, O⟩ ro) {x0 x1 h r} (ho : O 26 [(.i .i64 x0), (.i .i64 x1)] h = none) (hr : g26 M ro x0 x1 ⟨h, h.length, h.length⟩ = some r) : callX ⟨F, O⟩ ro 26 [(.i .i64 x0), (.i .i64 x1)] h = some r := by
  refine callX_of (F := ⟨F, O⟩) (fn := fn26) (g := g26 M ro x0 x1) ho rfl rfl hr ?_
  clear ho
  clear hr
  intro m0 t0 ht hr
  have g0 : t0.get 0 = (.i .i64 x0) := ht 0
  have g1 : t0.get 1 = (.i .i64 x1) := ht 1
  clear ht
  unfold g26 at hr
  refine w_seq ?_
  refine w_ops ?_
  refine wo_step (v := (AVal.s [])) (s_pure (p_mv rfl)) ?_
  refine wo_step (v := (.i .i64 0)) (s_pure (p_mv rfl)) ?_
  refine wo_nil ?_
  refine nx_norm ?_
  refine w_seq ?_
  refine w_ops ?_
  refine wo_step (v := (.i .i64 x0)) (s_pure (p_mv g0)) ?_
  have hq := bindP_inv hr
  clear hr
  obtain ⟨v11, m_1, e11, hr⟩ := hq
  refine wo_step (v := v11) (s_call (mc rfl mn) (callM_le hM.call e11)) ?_
  refine wo_step (v := v11) (s_pure (p_mv rfl)) ?_
  have hq := bindO_inv hr
  clear hr
  obtain ⟨v12, e12, hr⟩ := hq
  have hq := asI_inv hr
  clear hr
  obtain ⟨x12, rfl, hr⟩ := hq
  refine wo_step (v := (.i .u8 x12)) (s_pure (o_ext rfl e12)) ?_
  have hq := bindO_inv hr
  clear hr
  obtain ⟨v13, e13, hr⟩ := hq
  have hq := asI_inv hr
  clear hr
  obtain ⟨x13, rfl, hr⟩ := hq
  refine wo_step (v := (.i .i64 x13)) (s_pure (o_ext rfl e13)) ?_
  refine wo_step (v := (.i .u8 x12)) (s_pure (p_mv rfl)) ?_
  refine wo_step (v := (.i .i64 x13)) (s_pure (p_mv rfl)) ?_
  refine wo_nil ?_
  refine nx_norm ?_
  refine w_seq ?_
  refine w_seq ?_
  refine w_ops ?_
  refine wo_step (v := (.i .i64 x13)) (s_pure (p_mv rfl)) ?_
  have hq := forceB_inv hr
  clear hr
  obtain ⟨c15, e15, hr⟩ := hq
  refine wo_step (v := (.b c15)) (s_pure (p_bin rfl rfl (b_neq.trans (cb e15)))) ?_
  refine wo_nil ?_
  refine nx_norm ?_
  have hq := cond_inv hr
  clear hr
  rcases hq with ⟨rfl, hr⟩ | ⟨rfl, hr⟩
  · refine w_condT rfl ?_
    refine w_seq ?_
    refine w_ops ?_
    refine wo_step (v := (.i .i64 x13)) (s_pure (p_mv rfl)) ?_
    refine wo_step (v := (AVal.s [])) (s_pure (p_mv rfl)) ?_
    refine wo_step (v := (.i .i64 x13)) (s_pure (p_mv rfl)) ?_
    refine wo_nil ?_
    refine nx_norm ?_
    refine w_ret ?_
    refine nx_ret ?_
    exact qf ret_ok (rt rfl (rt rfl rn)) hr
  · refine w_condF rfl ?_
    refine w_skip ?_
    refine nx_norm ?_
    refine w_seq ?_
    refine w_seq ?_
    refine w_ops ?_
    refine wo_step (v := (.i .i64 x1)) (s_pure (p_mv g1)) ?_
    have hq := forceB_inv hr
    clear hr
    obtain ⟨c18, e18, hr⟩ := hq
    refine wo_step (v := (.b c18)) (s_pure (p_bin rfl rfl (b_lss.trans (cb e18)))) ?_
    refine wo_step (v := (.b c18)) (s_pure (p_mv rfl)) ?_
    have hq := bindO_inv hr
    clear hr
    obtain ⟨o, hr, hk⟩ := hq
    refine wo_join 3 (g26_J0 x1 x12 m_1 o) ?_ ?_
    · clear hk
      have hq := cond_inv hr
      clear hr
      rcases hq with ⟨rfl, hr⟩ | ⟨rfl, hr⟩
      · refine wo_skip (v := (.b true)) rfl rfl ?_
        refine wo_skip (v := (.b true)) rfl rfl ?_
        refine wo_step (v := (.b true)) (s_pure (p_pickT rfl rfl)) ?_
        refine wo_nil ?_
        cases hr
        exact ⟨_, _, rfl, rfl, gl rfl, gl g1, gl rfl⟩
      · refine wo_take (v := (.i .i64 x1)) rfl (s_pure (p_mv g1)) ?_
        have hq := forceB_inv hr
        clear hr
        obtain ⟨c21, e21, hr⟩ := hq
        refine wo_take (v := (.b c21)) rfl (s_pure (p_bin rfl rfl (b_gtr.trans (cb e21)))) ?_
        refine wo_step (v := (.b c21)) (s_pure (p_pickF rfl rfl)) ?_
        refine wo_nil ?_
        cases hr
        exact ⟨_, _, rfl, rfl, gl rfl, gl g1, gl rfl⟩
    · clear hr
      have hr := hk
      clear hk
      obtain ⟨c22, ho⟩ : ∃ z, z = o := ⟨_, rfl⟩
      subst ho
      rintro mm t_1 ⟨rfl, g22, g1, g6⟩
      refine wo_nil ?_
      refine nx_norm ?_
      have hq := cond_inv hr
      clear hr
      rcases hq with ⟨rfl, hr⟩ | ⟨rfl, hr⟩
      · refine w_condT g22 ?_
        refine w_seq ?_
        refine w_ops ?_
        refine wo_step (v := (AVal.s [])) (s_pure (p_mv rfl)) ?_
        refine wo_step (v := (.i .i64 2)) (s_pure (p_mv rfl)) ?_
        refine wo_nil ?_
        refine nx_norm ?_
        refine w_ret ?_
        refine nx_ret ?_
        exact qf ret_ok (rt rfl (rt rfl rn)) hr
      · refine w_condF g22 ?_
        refine w_skip ?_
        refine nx_norm ?_
        refine w_seq ?_
        refine w_ops ?_
        refine wo_step (v := (.i .u8 x12)) (s_pure (p_mv g6)) ?_
        have hq := bindP_inv hr
        clear hr
        obtain ⟨v24, m_2, e24, hr⟩ := hq
        have hq := asS_inv hr
        clear hr
        obtain ⟨s24, rfl, hr⟩ := hq
        refine wo_step (v := (.s s24)) (s_call (mc rfl mn) (callM_le hM.call e24)) ?_
        refine wo_step (v := (.s s24)) (s_pure (p_mv rfl)) ?_
        refine wo_nil ?_
        refine nx_norm ?_
        refine w_seq ?_
        refine w_seq ?_
        refine w_ops ?_
        refine wo_step (v := (.s s24)) (s_pure (p_mv rfl)) ?_
        have hq := bindO_inv hr
        clear hr
        obtain ⟨v26, e26, hr⟩ := hq
        have hq := asB_inv hr
        clear hr
        obtain ⟨c26, rfl, hr⟩ := hq
        refine wo_step (v := (.b c26)) (s_pure (o_sbin rfl rfl e26)) ?_
        refine wo_step (v := (.b c26)) (s_pure (p_mv rfl)) ?_
        have hq := bindO_inv hr
        clear hr
        obtain ⟨o_1, hr, hk⟩ := hq
        refine wo_join 5 (g26_J1 s24 m_2 o_1) ?_ ?_
        · clear hk
          have hq := cond_inv hr
          clear hr
          rcases hq with ⟨rfl, hr⟩ | ⟨rfl, hr⟩
          · refine wo_skip (v := (.b true)) rfl rfl ?_
            refine wo_skip (v := (.b true)) rfl rfl ?_
            refine wo_skip (v := (.b true)) rfl rfl ?_
            refine wo_skip (v := (.b true)) rfl rfl ?_
            refine wo_step (v := (.b true)) (s_pure (p_pickT rfl rfl)) ?_
            refine wo_nil ?_
            cases hr
            exact ⟨_, _, rfl, rfl, gl rfl, gl rfl⟩
          · refine wo_take (v := (.s s24)) rfl (s_pure (p_mv rfl)) ?_
            have hq := bindO_inv hr
            clear hr
            obtain ⟨v29, e29, hr⟩ := hq
            have hq := asI_inv hr
            clear hr
            obtain ⟨x29, rfl, hr⟩ := hq
            refine wo_take (v := (.i .i64 x29)) rfl (s_pure (o_len rfl e29)) ?_
            refine wo_take (v := (.i .i64 x1)) rfl (s_pure (p_mv g1)) ?_
            have hq := forceB_inv hr
            clear hr
            obtain ⟨c31, e31, hr⟩ := hq
            refine wo_take (v := (.b c31)) rfl (s_pure (p_bin rfl rfl (b_gtr.trans (cb e31)))) ?_
            refine wo_step (v := (.b c31)) (s_pure (p_pickF rfl rfl)) ?_
            refine wo_nil ?_
            cases hr
            exact ⟨_, _, rfl, rfl, gl rfl, gl rfl⟩
        · clear hr
          have hr := hk
          clear hk
          obtain ⟨c32, ho⟩ : ∃ z, z = o_1 := ⟨_, rfl⟩
          subst ho
          rintro mm_1 t_2 ⟨rfl, g32, g8⟩
          refine wo_nil ?_
          refine nx_norm ?_
          have hq := cond_inv hr
          clear hr
          rcases hq with ⟨rfl, hr⟩ | ⟨rfl, hr⟩
          · refine w_condT g32 ?_
            refine w_seq ?_
            refine w_ops ?_
            refine wo_step (v := (AVal.s [])) (s_pure (p_mv rfl)) ?_
            refine wo_step (v := (.i .i64 10)) (s_pure (p_mv rfl)) ?_
            refine wo_nil ?_
            refine nx_norm ?_
            refine w_ret ?_
            refine nx_ret ?_
            exact qf ret_ok (rt rfl (rt rfl rn)) hr
          · refine w_condF g32 ?_
            refine w_skip ?_
            refine nx_norm ?_
            refine w_seq ?_
            refine w_ops ?_
            refine wo_step (v := (.s s24)) (s_pure (p_mv g8)) ?_
            refine wo_step (v := (.s s24)) (s_pure (p_mv rfl)) ?_
            refine wo_step (v := (.i .i64 0)) (s_pure (p_mv rfl)) ?_
            refine wo_nil ?_
            refine nx_norm ?_
            refine w_ret ?_
            exact qf ret_ok (rt rfl (rt rfl rn)) hr

/- dibber/weed.Onto -/

def g28 (M : Means) (ro : List ABlk) (x0 : Int) (m0 : Mm) : Option (AVal × Heap × Nat × Nat) :=
  bindP (callM M.call m0 61 [(.i .i64 x0)]) fun v8 m_1 =>
  bindO (evP .e (.ext 0 (.c v8))) fun v9 =>
  asI .u8 v9 fun x9 =>
  bindO (evP .e (.ext 1 (.c v8))) fun v10 =>
  asI .i64 v10 fun x10 =>
  forceB (!eqI x10 0) fun c12 =>
  cond c12 (
    finM m0.h.length (tupA [(.b false), (.i .i64 x10)]) m_1) (
    bindP (callM M.call m_1 62 [(.i .u8 x9)]) fun v15 m_2 =>
    asS v15 fun s15 =>
    bindO (evP .e (.sbin BinOp.eql (.c (.s s15)) (.c (AVal.s [])))) fun v16 =>
    asB v16 fun c16 =>
    finM m0.h.length (tupA [(.b c16), (.i .i64 0)]) m_2)

theorem g28_ok {ro : List ABlk} {O : Caller} {M : Means} (hM : M.Ok ⟨F, O⟩ ro) {x0 h r} (ho : O 28 [(.i .i64 x0)] h = none) (hr : g28 M ro x0 ⟨h, h.length, h.length⟩ = some r) : callX ⟨F, O⟩ ro 28 [(.i .i64 x0)] h = some r := by
  refine callX_of (F := ⟨F, O⟩) (fn := fn28) (g := g28 M ro x0) ho rfl rfl hr ?_
  clear ho
  clear hr
  intro m0 t0 ht hr
  have g0 : t0.get 0 = (.i .i64 x0) := ht 0
  clear ht
  unfold g28 at hr
  refine w_seq ?_
  refine w_ops ?_
  refine wo_step (v := (.b false)) (s_pure (p_mv rfl)) ?_
  refine wo_step (v := (.i .i64 0)) (s_pure (p_mv rfl)) ?_
  refine wo_nil ?_
  refine nx_norm ?_
  refine w_seq ?_
  refine w_ops ?_
  refine wo_step (v := (.i .i64 x0)) (s_pure (p_mv g0)) ?_
  have hq := bindP_inv hr
  clear hr
  obtain ⟨v8, m_1, e8, hr⟩ := hq
  refine wo_step (v := v8) (s_call (mc rfl mn) (callM_le hM.call e8)) ?_
  refine wo_step (v := v8) (s_pure (p_mv rfl)) ?_
  have hq := bindO_inv hr
  clear hr
  obtain ⟨v9, e9, hr⟩ := hq
  have hq := asI_inv hr
  clear hr
  obtain ⟨x9, rfl, hr⟩ := hq
  refine wo_step (v := (.i .u8 x9)) (s_pure (o_ext rfl e9)) ?_
  have hq := bindO_inv hr
  clear hr
  obtain ⟨v10, e10, hr⟩ := hq
  have hq := asI_inv hr
  clear hr
  obtain ⟨x10, rfl, hr⟩ := hq
  refine wo_step (v := (.i .i64 x10)) (s_pure (o_ext rfl e10)) ?_
  refine wo_step (v := (.i .u8 x9)) (s_pure (p_mv rfl)) ?_
  refine wo_step (v := (.i .i64 x10)) (s_pure (p_mv rfl)) ?_
  refine wo_nil ?_
  refine nx_norm ?_
  refine w_seq ?_
  refine w_seq ?_
  refine w_ops ?_
  refine wo_step (v := (.i .i64 x10)) (s_pure (p_mv rfl)) ?_
  have hq := forceB_inv hr
  clear hr
  obtain ⟨c12, e12, hr⟩ := hq
  refine wo_step (v := (.b c12)) (s_pure (p_bin rfl rfl (b_neq.trans (cb e12)))) ?_
  refine wo_nil ?_
  refine nx_norm ?_
  have hq := cond_inv hr
  clear hr
  rcases hq with ⟨rfl, hr⟩ | ⟨rfl, hr⟩
  · refine w_condT rfl ?_
    refine w_seq ?_
    refine w_ops ?_
    refine wo_step (v := (.i .i64 x10)) (s_pure (p_mv rfl)) ?_
    refine wo_step (v := (.b false)) (s_pure (p_mv rfl)) ?_
    refine wo_step (v := (.i .i64 x10)) (s_pure (p_mv rfl)) ?_
    refine wo_nil ?_
    refine nx_norm ?_
    refine w_ret ?_
    refine nx_ret ?_
    exact qf ret_ok (rt rfl (rt rfl rn)) hr
  · refine w_condF rfl ?_
    refine w_skip ?_
    refine nx_norm ?_
    refine w_seq ?_
    refine w_ops ?_
    refine wo_step (v := (.i .u8 x9)) (s_pure (p_mv rfl)) ?_
    have hq := bindP_inv hr
    clear hr
    obtain ⟨v15, m_2, e15, hr⟩ := hq
    have hq := asS_inv hr
    clear hr
    obtain ⟨s15, rfl, hr⟩ := hq
    refine wo_step (v := (.s s15)) (s_call (mc rfl mn) (callM_le hM.call e15)) ?_
    have hq := bindO_inv hr
    clear hr
    obtain ⟨v16, e16, hr⟩ := hq
    have hq := asB_inv hr
    clear hr
    obtain ⟨c16, rfl, hr⟩ := hq
    refine wo_step (v := (.b c16)) (s_pure (o_sbin rfl rfl e16)) ?_
    refine wo_step (v := (.b c16)) (s_pure (p_mv rfl)) ?_
    refine wo_step (v := (.i .i64 0)) (s_pure (p_mv rfl)) ?_
    refine wo_nil ?_
    refine nx_norm ?_
    refine w_ret ?_
    exact qf ret_ok (rt rfl (rt rfl rn)) hr

/- dibber/weed.OneToOne -/

def g30 (M : Means) (ro : List ABlk) (x0 : Int) (m0 : Mm) : Option (AVal × Heap × Nat × Nat) :=
  bindP (callM M.call m0 61 [(.i .i64 x0)]) fun v8 m_1 =>
  bindO (evP .e (.ext 0 (.c v8))) fun v9 =>
  asI .u8 v9 fun x9 =>
  bindO (evP .e (.ext 1 (.c v8))) fun v10 =>
  asI .i64 v10 fun x10 =>
  forceB (!eqI x10 0) fun c12 =>
  cond c12 (
    finM m0.h.length (tupA [(.b false), (.i .i64 x10)]) m_1) (
    bindP (callM M.call m_1 64 [(.i .u8 x9)]) fun v15 m_2 =>
    asB v15 fun c15 =>
    finM m0.h.length (tupA [(.b c15), (.i .i64 0)]) m_2)

theorem g30_ok {ro : List ABlk} {O : Caller} {M : Means} (hM : M.Ok ⟨F, O⟩ ro) {x0 h r} (ho : O 30 [(.i .i64 x0)] h = none) (hr : g30 M ro x0 ⟨h, h.length, h.length⟩ = some r) : callX ⟨F, O⟩ ro 30 [(.i .i64 x0)] h = some r := by
  refine callX_of (F := ⟨F, O⟩) (fn := fn30) (g := g30 M ro x0) ho rfl rfl hr ?_
  clear ho
  clear hr
  intro m0 t0 ht hr
  have g0 : t0.get 0 = (.i .i64 x0) := ht 0
  clear ht
  unfold g30 at hr
  refine w_seq ?_
  refine w_ops ?_
  refine wo_step (v := (.b false)) (s_pure (p_mv rfl)) ?_
  refine wo_step (v := (.i .i64 0)) (s_pure (p_mv rfl)) ?_
  refine wo_nil ?_
  refine nx_norm ?_
  refine w_seq ?_
  refine w_ops ?_
  refine wo_step (v := (.i .i64 x0)) (s_pure (p_mv g0)) ?_
  have hq := bindP_inv hr
  clear hr
  obtain ⟨v8, m_1, e8, hr⟩ := hq
  refine wo_step (v := v8) (s_call (mc rfl mn) (callM_le hM.call e8)) ?_
  refine wo_step (v := v8) (s_pure (p_mv rfl)) ?_
  have hq := bindO_inv hr
  clear hr
  obtain ⟨v9, e9, hr⟩ := hq
  have hq := asI_inv hr
  clear hr
  obtain ⟨x9, rfl, hr⟩ := hq
  refine wo_step (v := (.i .u8 x9)) (s_pure (o_ext rfl e9)) ?_
  have hq := bindO_inv hr
  clear hr
  obtain ⟨v10, e10, hr⟩ := hq
  have hq := asI_inv hr
  clear hr
  obtain ⟨x10, rfl, hr⟩ := hq
  refine wo_step (v := (.i .i64 x10)) (s_pure (o_ext rfl e10)) ?_
  refine wo_step (v := (.i .u8 x9)) (s_pure (p_mv rfl)) ?_
  refine wo_step (v := (.i .i64 x10)) (s_pure (p_mv rfl)) ?_
  refine wo_nil ?_
  refine nx_norm ?_
  refine w_seq ?_
  refine w_seq ?_
  refine w_ops ?_
  refine wo_step (v := (.i .i64 x10)) (s_pure (p_mv rfl)) ?_
  have hq := forceB_inv hr
  clear hr
  obtain ⟨c12, e12, hr⟩ := hq
  refine wo_step (v := (.b c12)) (s_pure (p_bin rfl rfl (b_neq.trans (cb e12)))) ?_
  refine wo_nil ?_
  refine nx_norm ?_
  have hq := cond_inv hr
  clear hr
  rcases hq with ⟨rfl, hr⟩ | ⟨rfl, hr⟩
  · refine w_condT rfl ?_
    refine w_seq ?_
    refine w_ops ?_
    refine wo_step (v := (.i .i64 x10)) (s_pure (p_mv rfl)) ?_
    refine wo_step (v := (.b false)) (s_pure (p_mv rfl)) ?_
    refine wo_step (v := (.i .i64 x10)) (s_pure (p_mv rfl)) ?_
    refine wo_nil ?_
    refine nx_norm ?_
    refine w_ret ?_
    refine nx_ret ?_
    exact qf ret_ok (rt rfl (rt rfl rn)) hr
  · refine w_condF rfl ?_
    refine w_skip ?_
    refine nx_norm ?_
    refine w_seq ?_
    refine w_ops ?_
    refine wo_step (v := (.i .u8 x9)) (s_pure (p_mv rfl)) ?_
    have hq := bindP_inv hr
    clear hr
    obtain ⟨v15, m_2, e15, hr⟩ := hq
    have hq := asB_inv hr
    clear hr
    obtain ⟨c15, rfl, hr⟩ := hq
    refine wo_step (v := (.b c15)) (s_call (mc rfl mn) (callM_le hM.call e15)) ?_
    refine wo_step (v := (.b c15)) (s_pure (p_mv rfl)) ?_
    refine wo_step (v := (.i .i64 0)) (s_pure (p_mv rfl)) ?_
    refine wo_nil ?_
    refine nx_norm ?_
    refine w_ret ?_
    exact qf ret_ok (rt rfl (rt rfl rn)) hr

/- dibber/weed.Mirror -/

def g36 (M : Means) (ro : List ABlk) (x0 : Int) (m0 : Mm) : Option (AVal × Heap × Nat × Nat) :=
  bindP (callM M.call m0 61 [(.i .i64 x0)]) fun v11 m_1 =>
  bindO (evP .e (.ext 0 (.c v11))) fun v12 =>
  asI .u8 v12 fun x12 =>
  bindO (evP .e (.ext 1 (.c v11))) fun v13 =>
  asI .i64 v13 fun x13 =>
  forceB (!eqI x13 0) fun c15 =>
  cond c15 (
    finM m0.h.length (tupA [(.i .i64 0), (.i .i64 0), (.i .i64 x13)]) m_1) (
    bindP (callM M.call m_1 69 [(.i .u8 x12)]) fun v19 m_2 =>
    bindO (evP .e (.ext 0 (.c v19))) fun v20 =>
    asI .u8 v20 fun x20 =>
    bindO (evP .e (.ext 1 (.c v19))) fun v21 =>
    asI .u8 v21 fun x21 =>
    forceI (wr .i64 x20) fun x23 =>
    forceI (wr .i64 x21) fun x25 =>
    finM m0.h.length (tupA [(.i .i64 x23), (.i .i64 x25), (.i .i64 0)]) m_2)

theorem g36_ok {ro : List ABlk} {O : Caller} {M : Means} (hM : M.Ok ⟨F, O⟩ ro) {x0 h r} (ho : O 36 [(.i .i64 x0)] h = none) (hr : g36 M ro x0 ⟨h, h.length, h.length⟩ = some r) : callX ⟨F, O⟩ ro 36 [(.i .i64 x0)] h = some r := by
  refine callX_of (F := ⟨F, O⟩) (fn := fn36) (g := g36 M ro x0) ho rfl rfl hr ?_
  clear ho
  clear hr
  intro m0 t0 ht hr
  have g0 : t0.get 0 = (.i .i64 x0) := ht 0
  clear ht
  unfold g36 at hr
  refine w_seq ?_
  refine w_ops ?_
  refine wo_step (v := (.i .i64 0)) (s_pure (p_mv rfl)) ?_
  refine wo_step (v := (.i .i64 0)) (s_pure (p_mv rfl)) ?_
  refine wo_step (v := (.i .i64 0)) (s_pure (p_mv rfl)) ?_
  refine wo_nil ?_
  refine nx_norm ?_
  refine w_seq ?_
  refine w_ops ?_
  refine wo_step (v := (.i .i64 x0)) (s_pure (p_mv g0)) ?_
  have hq := bindP_inv hr
  clear hr
  obtain ⟨v11, m_1, e11, hr⟩ := hq
  refine wo_step (v := v11) (s_call (mc rfl mn) (callM_le hM.call e11)) ?_
  refine wo_step (v := v11) (s_pure (p_mv rfl)) ?_
  have hq := bindO_inv hr
  clear hr
  obtain ⟨v12, e12, hr⟩ := hq
  have hq := asI_inv hr
  clear hr
  obtain ⟨x12, rfl, hr⟩ := hq
  refine wo_step (v := (.i .u8 x12)) (s_pure (o_ext rfl e12)) ?_
  have hq := bindO_inv hr
  clear hr
  obtain ⟨v13, e13, hr⟩ := hq
  have hq := asI_inv hr
  clear hr
  obtain ⟨x13, rfl, hr⟩ := hq
  refine wo_step (v := (.i .i64 x13)) (s_pure (o_ext rfl e13)) ?_
  refine wo_step (v := (.i .u8 x12)) (s_pure (p_mv rfl)) ?_
  refine wo_step (v := (.i .i64 x13)) (s_pure (p_mv rfl)) ?_
  refine wo_nil ?_
  refine nx_norm ?_
  refine w_seq ?_
  refine w_seq ?_
  refine w_ops ?_
  refine wo_step (v := (.i .i64 x13)) (s_pure (p_mv rfl)) ?_
  have hq := forceB_inv hr
  clear hr
  obtain ⟨c15, e15, hr⟩ := hq
  refine wo_step (v := (.b c15)) (s_pure (p_bin rfl rfl (b_neq.trans (cb e15)))) ?_
  refine wo_nil ?_
  refine nx_norm ?_
  have hq := cond_inv hr
  clear hr
  rcases hq with ⟨rfl, hr⟩ | ⟨rfl, hr⟩
  · refine w_condT rfl ?_
    refine w_seq ?_
    refine w_ops ?_
    refine wo_step (v := (.i .i64 x13)) (s_pure (p_mv rfl)) ?_
    refine wo_step (v := (.i .i64 0)) (s_pure (p_mv rfl)) ?_
    refine wo_step (v := (.i .i64 0)) (s_pure (p_mv rfl)) ?_
    refine wo_step (v := (.i .i64 x13)) (s_pure (p_mv rfl)) ?_
    refine wo_nil ?_
    refine nx_norm ?_
    refine w_ret ?_
    refine nx_ret ?_
    exact qf ret_ok (rt rfl (rt rfl (rt rfl rn))) hr
  · refine w_condF rfl ?_
    refine w_skip ?_
    refine nx_norm ?_
    refine w_seq ?_
    refine w_ops ?_
    refine wo_step (v := (.i .u8 x12)) (s_pure (p_mv rfl)) ?_
    have hq := bindP_inv hr
    clear hr
    obtain ⟨v19, m_2, e19, hr⟩ := hq
    refine wo_step (v := v19) (s_call (mc rfl mn) (callM_le hM.call e19)) ?_
    refine wo_step (v := v19) (s_pure (p_mv rfl)) ?_
    have hq := bindO_inv hr
    clear hr
    obtain ⟨v20, e20, hr⟩ := hq
    have hq := asI_inv hr
    clear hr
    obtain ⟨x20, rfl, hr⟩ := hq
    refine wo_step (v := (.i .u8 x20)) (s_pure (o_ext rfl e20)) ?_
    have hq := bindO_inv hr
    clear hr
    obtain ⟨v21, e21, hr⟩ := hq
    have hq := asI_inv hr
    clear hr
    obtain ⟨x21, rfl, hr⟩ := hq
    refine wo_step (v := (.i .u8 x21)) (s_pure (o_ext rfl e21)) ?_
    refine wo_step (v := (.i .u8 x20)) (s_pure (p_mv rfl)) ?_
    refine wo_step (v := (.i .u8 x21)) (s_pure (p_mv rfl)) ?_
    refine wo_nil ?_
    refine nx_norm ?_
    refine w_seq ?_
    refine w_ops ?_
    refine wo_step (v := (.i .u8 x20)) (s_pure (p_mv rfl)) ?_
    have hq := forceI_inv hr
    clear hr
    obtain ⟨x23, e23, hr⟩ := hq
    refine wo_step (v := (.i .i64 x23)) (s_pure ((p_conv rfl).trans (ci e23))) ?_
    refine wo_step (v := (.i .u8 x21)) (s_pure (p_mv rfl)) ?_
    have hq := forceI_inv hr
    clear hr
    obtain ⟨x25, e25, hr⟩ := hq
    refine wo_step (v := (.i .i64 x25)) (s_pure ((p_conv rfl).trans (ci e25))) ?_
    refine wo_step (v := (.i .i64 x23)) (s_pure (p_mv rfl)) ?_
    refine wo_step (v := (.i .i64 x25)) (s_pure (p_mv rfl)) ?_
    refine wo_step (v := (.i .i64 0)) (s_pure (p_mv rfl)) ?_
    refine wo_nil ?_
    refine nx_norm ?_
    refine w_ret ?_
    exact qf ret_ok (rt rfl (rt rfl (rt rfl rn))) hr

/- dibber/weed.Additive -/

def g38 (M : Means) (ro : List ABlk) (x0 : Int) (m0 : Mm) : Option (AVal × Heap × Nat × Nat) :=
  bindP (callM M.call m0 61 [(.i .i64 x0)]) fun v8 m_1 =>
  bindO (evP .e (.ext 0 (.c v8))) fun v9 =>
  asI .u8 v9 fun x9 =>
  bindO (evP .e (.ext 1 (.c v8))) fun v10 =>
  asI .i64 v10 fun x10 =>
  forceB (!eqI x10 0) fun c12 =>
  cond c12 (
    finM m0.h.length (tupA [(.b false), (.i .i64 x10)]) m_1) (
    bindP (callM M.call m_1 70 [(.i .u8 x9)]) fun v15 m_2 =>
    asB v15 fun c15 =>
    finM m0.h.length (tupA [(.b c15), (.i .i64 0)]) m_2)

theorem g38_ok {ro : List ABlk} {O : Caller} {M : Means} (hM : M.Ok ⟨F, O⟩ ro) {x0 h r} (ho : O 38 [(.i .i64 x0)] h = none) (hr : g38 M ro x0 ⟨h, h.length, h.length⟩ = some r) : callX ⟨F, O⟩ ro 38 [(.i .i64 x0)] h = some r := by
  refine callX_of (F := ⟨F, O⟩) (fn := fn38) (g := g38 M ro x0) ho rfl rfl hr ?_
  clear ho
  clear hr
  intro m0 t0 ht hr
  have g0 : t0.get 0 = (.i .i64 x0) := ht 0
  clear ht
  unfold g38 at hr
  refine w_seq ?_
  refine w_ops ?_
  refine wo_step (v := (.b false)) (s_pure (p_mv rfl)) ?_
  refine wo_step (v := (.i .i64 0)) (s_pure (p_mv rfl)) ?_
  refine wo_nil ?_
  refine nx_norm ?_
  refine w_seq ?_
  refine w_ops ?_
  refine wo_step (v := (.i .i64 x0)) (s_pure (p_mv g0)) ?_
  have hq := bindP_inv hr
  clear hr
  obtain ⟨v8, m_1, e8, hr⟩ := hq
  refine wo_step (v := v8) (s_call (mc rfl mn) (callM_le hM.call e8)) ?_
  refine wo_step (v := v8) (s_pure (p_mv rfl)) ?_
  have hq := bindO_inv hr
  clear hr
  obtain ⟨v9, e9, hr⟩ := hq
  have hq := asI_inv hr
  clear hr
  obtain ⟨x9, rfl, hr⟩ := hq
  refine wo_step (v := (.i .u8 x9)) (s_pure (o_ext rfl e9)) ?_
  have hq := bindO_inv hr
  clear hr
  obtain ⟨v10, e10, hr⟩ := hq
  have hq := asI_inv hr
  clear hr
  obtain ⟨x10, rfl, hr⟩ := hq
  refine wo_step (v := (.i .i64 x10)) (s_pure (o_ext rfl e10)) ?_
  refine wo_step (v := (.i .u8 x9)) (s_pure (p_mv rfl)) ?_
  refine wo_step (v := (.i .i64 x10)) (s_pure (p_mv rfl)) ?_
  refine wo_nil ?_
  refine nx_norm ?_
  refine w_seq ?_
  refine w_seq ?_
  refine w_ops ?_
  refine wo_step (v := (.i .i64 x10)) (s_pure (p_mv rfl)) ?_
  have hq := forceB_inv hr
  clear hr
  obtain ⟨c12, e12, hr⟩ := hq
  refine wo_step (v := (.b c12)) (s_pure (p_bin rfl rfl (b_neq.trans (cb e12)))) ?_
  refine wo_nil ?_
  refine nx_norm ?_
  have hq := cond_inv hr
  clear hr
  rcases hq with ⟨rfl, hr⟩ | ⟨rfl, hr⟩
  · refine w_condT rfl ?_
    refine w_seq ?_
    refine w_ops ?_
    refine wo_step (v := (.i .i64 x10)) (s_pure (p_mv rfl)) ?_
    refine wo_step (v := (.b false)) (s_pure (p_mv rfl)) ?_
    refine wo_step (v := (.i .i64 x10)) (s_pure (p_mv rfl)) ?_
    refine wo_nil ?_
    refine nx_norm ?_
    refine w_ret ?_
    refine nx_ret ?_
    exact qf ret_ok (rt rfl (rt rfl rn)) hr
  · refine w_condF rfl ?_
    refine w_skip ?_
    refine nx_norm ?_
    refine w_seq ?_
    refine w_ops ?_
    refine wo_step (v := (.i .u8 x9)) (s_pure (p_mv rfl)) ?_
    have hq := bindP_inv hr
    clear hr
    obtain ⟨v15, m_2, e15, hr⟩ := hq
    have hq := asB_inv hr
    clear hr
    obtain ⟨c15, rfl, hr⟩ := hq
    refine wo_step (v := (.b c15)) (s_call (mc rfl mn) (callM_le hM.call e15)) ?_
    refine wo_step (v := (.b c15)) (s_pure (p_mv rfl)) ?_
    refine wo_step (v := (.i .i64 0)) (s_pure (p_mv rfl)) ?_
    refine wo_nil ?_
    refine nx_norm ?_
    refine w_ret ?_
    exact qf ret_ok (rt rfl (rt rfl rn)) hr

/- dibber/dibberlaw02.plots -/
abbrev g40_I0 (x0 : Int) (x1 : Int) (v8 : AVal) (s : Int × Mm) (m1 : Mm) (t1 : Tr) : Prop :=
  match s with
  | (x6, m_2) => m_2 = m1 ∧ t1.get 6 = (.i .i64 x6) ∧ t1.get 0 = (.i .i64 x0) ∧ t1.get 1 = (.i .i64 x1) ∧ t1.get 5 = v8
abbrev g40_J0 (x0 : Int) (x1 : Int) (v8 : AVal) (o : Mm) (e : AExit) (m1 : Mm) (t1 : Tr) : Prop :=
  match o with
  | mo => e = (.exit 0) ∧ mo = m1 ∧ t1.get 5 = v8
def g40_b0 (M : Means) (ro : List ABlk) (x0 : Int) (x1 : Int) (v8 : AVal) (x6 : Int) (m_2 : Mm) : Option ((Int × Mm) ⊕ (Mm)) :=
  forceB (ltI x6 x1) fun c11 =>
  cond c11 (
    forceI (wr .i64 (x1 - 1)) fun x18 =>
    forceI (wr .i64 (x18 - x6)) fun x20 =>
    chk (!ltI x20 (.ofNat 0)) <|
    forceI (shrV .i64 x0 x20) fun x21 =>
    forceI (Int.tmod x21 2) fun x22 =>
    bindO (evP .e (.ixStr (.c (AVal.s [48, 49])) (.c (.i .i64 x22)))) fun v23 =>
    asI .u8 v23 fun x23 =>
    bindO (evP .e (.ixS 1 (.c v8) (.c (.i .i64 x6)))) fun v24 =>
    bindP (stepM ro m_2 (.st 1 (.c v24) (.c (.i .u8 x23)))) fun vn m_3 =>
    forceI (wr .i64 (x6 + 1)) fun x13 =>
    some (.inl (x13, m_3))) (
    some (.inr m_2))
def g40 (M : Means) (ro : List ABlk) (x0 : Int) (x1 : Int) (m0 : Mm) : Option (AVal × Heap × Nat × Nat) :=
  bindP (stepM ro m0 (.mk 5 1 1 [(AVal.i IntKind.u8 0)] (.c (.i .i64 x1)) (.c (.i .i64 x1)))) fun v8 m_1 =>
  bindO (M.loop (S := Int × Mm) (R := Mm) (fun s => g40_b0 M ro x0 x1 v8 s.1 s.2) (0, m_1)) fun m_4 =>
  bindO (btsM ro m_4 v8) fun v26 =>
  asS v26 fun s26 =>
  finM m0.h.length (tupA [(.s s26)]) m_4

theorem g40_ok {ro : List ABlk} {O : Caller} {M : Means} (hM : M.Ok ⟨F, O⟩ ro) {x0 x1 h r} (ho : O 40 [(.i .i64 x0), (.i .i64 x1)] h = none) (hr : g40 M ro x0 x1 ⟨h, h.length, h.length⟩ = some r) : callX ⟨F, O⟩ ro 40 [(.i .i64 x0), (.i .i64 x1)] h = some r := by
  refine callX_of (F := ⟨F, O⟩) (fn := fn40) (g := g40 M ro x0 x1) ho rfl rfl hr ?_
  clear ho
  clear hr
  intro m0 t0 ht hr
  have g0 : t0.get 0 = (.i .i64 x0) := ht 0
  have g1 : t0.get 1 = (.i .i64 x1) := ht 1
  clear ht
  unfold g40 at hr
  refine w_seq ?_
  refine w_ops ?_
  refine wo_step (v := (AVal.s [])) (s_pure (p_mv rfl)) ?_
  refine wo_nil ?_
  refine nx_norm ?_
  refine w_seq ?_
  refine w_ops ?_
  refine wo_step (v := (.i .i64 x1)) (s_pure (p_mv g1)) ?_
  have hq := bindP_inv hr
  clear hr
  obtain ⟨v8, m_1, e8, hr⟩ := hq
  refine wo_step (v := v8) (s_mk rfl rfl e8) ?_
  refine wo_step (v := v8) (s_pure (p_mv rfl)) ?_
  refine wo_nil ?_
  refine nx_norm ?_
  refine w_seq ?_
  refine w_seq ?_
  refine w_ops ?_
  refine wo_step (v := (.i .i64 0)) (s_pure (p_mv rfl)) ?_
  refine wo_nil ?_
  refine nx_norm ?_
  refine w_block ?_
  have hq := bindO_inv hr
  clear hr
  obtain ⟨o, hl, hr⟩ := hq
  obtain ⟨n, hl⟩ := hM.loop _ _ _ hl
  refine jp_mono (w_loop _ (g40_I0 x0 x1 v8) (g40_J0 x0 x1 v8) ?_ n _ _ _ _ hl ⟨rfl, gl rfl, gl g0, gl g1, gl rfl⟩) ?_
  · clear hr hl
    intro s mm_1 t_1 o hi hr
    obtain ⟨x6, m_2⟩ := s
    obtain ⟨rfl, g6, g0, g1, g5⟩ := hi
    unfold g40_b0 at hr
    refine w_seq ?_
    refine w_seq ?_
    refine w_ops ?_
    refine wo_step (v := (.i .i64 x6)) (s_pure (p_mv g6)) ?_
    refine wo_step (v := (.i .i64 x1)) (s_pure (p_mv g1)) ?_
    have hq := forceB_inv hr
    clear hr
    obtain ⟨c11, e11, hr⟩ := hq
    refine wo_step (v := (.b c11)) (s_pure (p_bin rfl rfl (b_lss.trans (cb e11)))) ?_
    refine wo_nil ?_
    refine nx_norm ?_
    have hq := cond_inv hr
    clear hr
    rcases hq with ⟨rfl, hr⟩ | ⟨rfl, hr⟩
    · refine w_condT rfl ?_
      refine w_skip ?_
      refine nx_norm ?_
      refine w_seq ?_
      refine w_block ?_
      refine w_ops ?_
      refine wo_step (v := v8) (s_pure (p_mv g5)) ?_
      refine wo_step (v := (.i .i64 x6)) (s_pure (p_mv g6)) ?_
      refine wo_step (v := (.i .i64 x0)) (s_pure (p_mv g0)) ?_
      refine wo_step (v := (.i .i64 x1)) (s_pure (p_mv g1)) ?_
      have hq := forceI_inv hr
      clear hr
      obtain ⟨x18, e18, hr⟩ := hq
      refine wo_step (v := (.i .i64 x18)) (s_pure (p_bin rfl rfl (b_sub.trans (ci e18)))) ?_
      refine wo_step (v := (.i .i64 x6)) (s_pure (p_mv g6)) ?_
      have hq := forceI_inv hr
      clear hr
      obtain ⟨x20, e20, hr⟩ := hq
      refine wo_step (v := (.i .i64 x20)) (s_pure (p_bin rfl rfl (b_sub.trans (ci e20)))) ?_
      have hq := chk_inv hr
      clear hr
      obtain ⟨hc21, hr⟩ := hq
      have hq := forceI_inv hr
      clear hr
      obtain ⟨x21, e21, hr⟩ := hq
      refine wo_step (v := (.i .i64 x21)) (s_pure (p_bin rfl rfl ((b_shr hc21).trans (ci e21)))) ?_
      have hq := forceI_inv hr
      clear hr
      obtain ⟨x22, e22, hr⟩ := hq
      refine wo_step (v := (.i .i64 x22)) (s_pure (p_bin rfl rfl ((b_rem rfl).trans (ci e22)))) ?_
      have hq := bindO_inv hr
      clear hr
      obtain ⟨v23, e23, hr⟩ := hq
      have hq := asI_inv hr
      clear hr
      obtain ⟨x23, rfl, hr⟩ := hq
      refine wo_step (v := (.i .u8 x23)) (s_pure (o_ixStr rfl rfl e23)) ?_
      have hq := bindO_inv hr
      clear hr
      obtain ⟨v24, e24, hr⟩ := hq
      refine wo_step (v := v24) (s_pure (o_ixS rfl rfl e24)) ?_
      have hq := bindP_inv hr
      clear hr
      obtain ⟨vn, m_3, en, hr⟩ := hq
      refine wo_stepN (s_st rfl rfl en) ?_
      refine wo_nil ?_
      refine bk_norm ?_
      refine nx_norm ?_
      refine w_ops ?_
      refine wo_step (v := (.i .i64 x6)) (s_pure (p_mv g6)) ?_
      have hq := forceI_inv hr
      clear hr
      obtain ⟨x13, e13, hr⟩ := hq
      refine wo_step (v := (.i .i64 x13)) (s_pure (p_bin rfl rfl (b_add.trans (ci e13)))) ?_
      refine wo_step (v := (.i .i64 x13)) (s_pure (p_mv rfl)) ?_
      refine wo_nil ?_
      cases hr
      exact ⟨_, _, rfl, rfl, rfl, gl rfl, gl g0, gl g1, gl g5⟩
    · refine w_condF rfl ?_
      refine w_exit ?_
      refine nx_exit ?_
      cases hr
      exact ⟨_, _, rfl, ne_norm_exit, rfl, rfl, gl g5⟩
  · obtain ⟨m_4, ho⟩ : ∃ z, z = o := ⟨_, rfl⟩
    subst ho
    rintro _ mm t_2 ⟨rfl, rfl, g5⟩
    refine bk_hit ?_
    refine nx_norm ?_
    refine w_seq ?_
    refine w_ops ?_
    refine wo_step (v := v8) (s_pure (p_mv g5)) ?_
    have hq := bindO_inv hr
    clear hr
    obtain ⟨v26, e26, hr⟩ := hq
    have hq := asS_inv hr
    clear hr
    obtain ⟨s26, rfl, hr⟩ := hq
    refine wo_step (v := (.s s26)) (s_bts rfl e26) ?_
    refine wo_step (v := (.s s26)) (s_pure (p_mv rfl)) ?_
    refine wo_nil ?_
    refine nx_norm ?_
    refine w_ret ?_
    exact qf ret_ok (rt rfl rn) hr

/- dibber/dibberref02.Row -/
abbrev g43_I0 (s0 : List UInt8) (m0 : Mm) (s : Int) (m1 : Mm) (t1 : Tr) : Prop :=
  match s with
  | x5 => m0 = m1 ∧ t1.get 5 = (.i .i64 x5) ∧ t1.get 0 = (.s s0)
abbrev g43_J0 (s0 : List UInt8) (m0 : Mm) (o : (Unit ⊕ Int)) (e : AExit) (m1 : Mm) (t1 : Tr) : Prop :=
  match o with
  | (.inl _) => e = (.exit 0) ∧ m0 = m1
  | (.inr y4) => e = .ret ∧ m0 = m1 ∧ t1.get 4 = (.i .i64 y4)
abbrev g43_J1 (s0 : List UInt8) (x5 : Int) (m0 : Mm) (o : Bool) (m1 : Mm) (t1 : Tr) : Prop :=
  match o with
  | c28 => m0 = m1 ∧ t1.get 28 = (.b c28) ∧ t1.get 0 = (.s s0) ∧ t1.get 5 = (.i .i64 x5)
def g43_b0 (M : Means) (ro : List ABlk) (s0 : List UInt8) (m0 : Mm) (x5 : Int) : Option ((Int) ⊕ ((Unit ⊕ Int))) :=
  bindO (evP .e (.len true (.c (.s s0)))) fun v15 =>
  asI .i64 v15 fun x15 =>
  forceB (ltI x5 x15) fun c16 =>
  cond c16 (
    bindO (evP .e (.ixStr (.c (.s s0)) (.c (.i .i64 x5)))) fun v21 =>
    asI .u8 v21 fun x21 =>
    forceB (!eqI x21 48) fun c22 =>
    bindO (cond c22 (
      bindO (evP .e (.ixStr (.c (.s s0)) (.c (.i .i64 x5)))) fun v26 =>
      asI .u8 v26 fun x26 =>
      forceB (!eqI x26 49) fun c27 =>
      some c27) (
      some false)) fun c28 =>
    cond c28 (
      some (.inr (.inr 5))) (
      forceI (wr .i64 (x5 + 1)) fun x18 =>
      some (.inl x18))) (
    some (.inr (.inl ())))
def g43 (M : Means) (ro : List ABlk) (s0 : List UInt8) (x1 : Int) (m0 : Mm) : Option (AVal × Heap × Nat × Nat) :=
  bindO (evP .e (.len true (.c (.s s0)))) fun v7 =>
  asI .i64 v7 fun x7 =>
  forceB (ltI x1 x7) fun c9 =>
  cond c9 (
    finM m0.h.length (tupA [(.i .i64 3)]) m0) (
    bindO (evP .e (.len true (.c (.s s0)))) fun v11 =>
    asI .i64 v11 fun x11 =>
    forceB (eqI x11 0) fun c12 =>
    cond c12 (
      finM m0.h.length (tupA [(.i .i64 5)]) m0) (
      bindO (M.loop (S := Int) (R := (Unit ⊕ Int)) (fun s => g43_b0 M ro s0 m0 s) 0) fun o_1 => match o_1 with
      | (.inl _) =>
        finM m0.h.length (tupA [(.i .i64 0)]) m0
      | (.inr x4) =>
        finM m0.h.length (tupA [(.i .i64 x4)]) m0))

theorem g43_ok {ro : List ABlk} {O : Caller} {M : Means} (hM : M.Ok ⟨F, O⟩ ro) {s0 x1 h r} (ho : O 43 [(.s s0), (.i .i64 x1)] h = none) (hr : g43 M ro s0 x1 ⟨h, h.length, h.length⟩ = some r) : callX ⟨F, O⟩ ro 43 [(.s s0), (.i .i64 x1)] h = some r := by
  refine callX_of (F := ⟨F, O⟩) (fn := fn43) (g := g43 M ro s0 x1) ho rfl rfl hr ?_
  clear ho
  clear hr
  intro m0 t0 ht hr
  have g0 : t0.get 0 = (.s s0) := ht 0
  have g1 : t0.get 1 = (.i .i64 x1) := ht 1
  clear ht
  unfold g43 at hr
  refine w_seq ?_
  refine w_ops ?_
  refine wo_step (v := (.i .i64 0)) (s_pure (p_mv rfl)) ?_
  refine wo_nil ?_
  refine nx_norm ?_
  refine w_seq ?_
  refine w_seq ?_
  refine w_ops ?_
  refine wo_step (v := (.s s0)) (s_pure (p_mv g0)) ?_
  have hq := bindO_inv hr
  clear hr
  obtain ⟨v7, e7, hr⟩ := hq
  have hq := asI_inv hr
  clear hr
  obtain ⟨x7, rfl, hr⟩ := hq
  refine wo_step (v := (.i .i64 x7)) (s_pure (o_len rfl e7)) ?_
  refine wo_step (v := (.i .i64 x1)) (s_pure (p_mv g1)) ?_
  have hq := forceB_inv hr
  clear hr
  obtain ⟨c9, e9, hr⟩ := hq
  refine wo_step (v := (.b c9)) (s_pure (p_bin rfl rfl (b_gtr.trans (cb e9)))) ?_
  refine wo_nil ?_
  refine nx_norm ?_
  have hq := cond_inv hr
  clear hr
  rcases hq with ⟨rfl, hr⟩ | ⟨rfl, hr⟩
  · refine w_condT rfl ?_
    refine w_seq ?_
    refine w_ops ?_
    refine wo_step (v := (.i .i64 3)) (s_pure (p_mv rfl)) ?_
    refine wo_nil ?_
    refine nx_norm ?_
    refine w_ret ?_
    refine nx_ret ?_
    exact qf ret_ok (rt rfl rn) hr
  · refine w_condF rfl ?_
    refine w_skip ?_
    refine nx_norm ?_
    refine w_seq ?_
    refine w_seq ?_
    refine w_ops ?_
    refine wo_step (v := (.s s0)) (s_pure (p_mv g0)) ?_
    have hq := bindO_inv hr
    clear hr
    obtain ⟨v11, e11, hr⟩ := hq
    have hq := asI_inv hr
    clear hr
    obtain ⟨x11, rfl, hr⟩ := hq
    refine wo_step (v := (.i .i64 x11)) (s_pure (o_len rfl e11)) ?_
    have hq := forceB_inv hr
    clear hr
    obtain ⟨c12, e12, hr⟩ := hq
    refine wo_step (v := (.b c12)) (s_pure (p_bin rfl rfl (b_eql.trans (cb e12)))) ?_
    refine wo_nil ?_
    refine nx_norm ?_
    have hq := cond_inv hr
    clear hr
    rcases hq with ⟨rfl, hr⟩ | ⟨rfl, hr⟩
    · refine w_condT rfl ?_
      refine w_seq ?_
      refine w_ops ?_
      refine wo_step (v := (.i .i64 5)) (s_pure (p_mv rfl)) ?_
      refine wo_nil ?_
      refine nx_norm ?_
      refine w_ret ?_
      refine nx_ret ?_
      exact qf ret_ok (rt rfl rn) hr
    · refine w_condF rfl ?_
      refine w_skip ?_
      refine nx_norm ?_
      refine w_seq ?_
      refine w_seq ?_
      refine w_ops ?_
      refine wo_step (v := (.i .i64 0)) (s_pure (p_mv rfl)) ?_
      refine wo_nil ?_
      refine nx_norm ?_
      refine w_block ?_
      have hq := bindO_inv hr
      clear hr
      obtain ⟨o_1, hl, hr⟩ := hq
      obtain ⟨n, hl⟩ := hM.loop _ _ _ hl
      refine jp_mono (w_loop _ (g43_I0 s0 m0) (g43_J0 s0 m0) ?_ n _ _ _ _ hl ⟨rfl, gl rfl, gl g0⟩) ?_
      · clear hr hl
        intro s mm_3 t_1 o hi hr
        obtain ⟨x5, hs⟩ : ∃ z, z = s := ⟨_, rfl⟩
        subst hs
        obtain ⟨rfl, g5, g0⟩ := hi
        unfold g43_b0 at hr
        refine w_seq ?_
        refine w_seq ?_
        refine w_ops ?_
        refine wo_step (v := (.i .i64 x5)) (s_pure (p_mv g5)) ?_
        refine wo_step (v := (.s s0)) (s_pure (p_mv g0)) ?_
        have hq := bindO_inv hr
        clear hr
        obtain ⟨v15, e15, hr⟩ := hq
        have hq := asI_inv hr
        clear hr
        obtain ⟨x15, rfl, hr⟩ := hq
        refine wo_step (v := (.i .i64 x15)) (s_pure (o_len rfl e15)) ?_
        have hq := forceB_inv hr
        clear hr
        obtain ⟨c16, e16, hr⟩ := hq
        refine wo_step (v := (.b c16)) (s_pure (p_bin rfl rfl (b_lss.trans (cb e16)))) ?_
        refine wo_nil ?_
        refine nx_norm ?_
        have hq := cond_inv hr
        clear hr
        rcases hq with ⟨rfl, hr⟩ | ⟨rfl, hr⟩
        · refine w_condT rfl ?_
          refine w_skip ?_
          refine nx_norm ?_
          refine w_seq ?_
          refine w_block ?_
          refine w_seq ?_
          refine w_ops ?_
          refine wo_step (v := (.s s0)) (s_pure (p_mv g0)) ?_
          refine wo_step (v := (.i .i64 x5)) (s_pure (p_mv g5)) ?_
          have hq := bindO_inv hr
          clear hr
          obtain ⟨v21, e21, hr⟩ := hq
          have hq := asI_inv hr
          clear hr
          obtain ⟨x21, rfl, hr⟩ := hq
          refine wo_step (v := (.i .u8 x21)) (s_pure (o_ixStr rfl rfl e21)) ?_
          have hq := forceB_inv hr
          clear hr
          obtain ⟨c22, e22, hr⟩ := hq
          refine wo_step (v := (.b c22)) (s_pure (p_bin rfl rfl (b_neq.trans (cb e22)))) ?_
          refine wo_step (v := (.b c22)) (s_pure (p_mv rfl)) ?_
          have hq := bindO_inv hr
          clear hr
          obtain ⟨o, hr, hk⟩ := hq
          refine wo_join 5 (g43_J1 s0 x5 m0 o) ?_ ?_
          · clear hk
            have hq := cond_inv hr
            clear hr
            rcases hq with ⟨rfl, hr⟩ | ⟨rfl, hr⟩
            · refine wo_take (v := (.s s0)) rfl (s_pure (p_mv g0)) ?_
              refine wo_take (v := (.i .i64 x5)) rfl (s_pure (p_mv g5)) ?_
              have hq := bindO_inv hr
              clear hr
              obtain ⟨v26, e26, hr⟩ := hq
              have hq := asI_inv hr
              clear hr
              obtain ⟨x26, rfl, hr⟩ := hq
              refine wo_take (v := (.i .u8 x26)) rfl (s_pure (o_ixStr rfl rfl e26)) ?_
              have hq := forceB_inv hr
              clear hr
              obtain ⟨c27, e27, hr⟩ := hq
              refine wo_take (v := (.b c27)) rfl (s_pure (p_bin rfl rfl (b_neq.trans (cb e27)))) ?_
              refine wo_step (v := (.b c27)) (s_pure (p_pickT rfl rfl)) ?_
              refine wo_nil ?_
              cases hr
              exact ⟨_, _, rfl, rfl, gl rfl, gl g0, gl g5⟩
            · refine wo_skip (v := (.b false)) rfl rfl ?_
              refine wo_skip (v := (.b false)) rfl rfl ?_
              refine wo_skip (v := (.b false)) rfl rfl ?_
              refine wo_skip (v := (.b false)) rfl rfl ?_
              refine wo_step (v := (.b false)) (s_pure (p_pickF rfl rfl)) ?_
              refine wo_nil ?_
              cases hr
              exact ⟨_, _, rfl, rfl, gl rfl, gl g0, gl g5⟩
          · clear hr
            have hr := hk
            clear hk
            obtain ⟨c28, ho⟩ : ∃ z, z = o := ⟨_, rfl⟩
            subst ho
            rintro mm t_2 ⟨rfl, g28, g0, g5⟩
            refine wo_nil ?_
            refine nx_norm ?_
            have hq := cond_inv hr
            clear hr
            rcases hq with ⟨rfl, hr⟩ | ⟨rfl, hr⟩
            · refine w_condT g28 ?_
              refine w_seq ?_
              refine w_ops ?_
              refine wo_step (v := (.i .i64 5)) (s_pure (p_mv rfl)) ?_
              refine wo_nil ?_
              refine nx_norm ?_
              refine w_ret ?_
              refine bk_ret ?_
              refine nx_ret ?_
              cases hr
              exact ⟨_, _, rfl, ne_norm_ret, rfl, rfl, gl rfl⟩
            · refine w_condF g28 ?_
              refine w_skip ?_
              refine bk_norm ?_
              refine nx_norm ?_
              refine w_ops ?_
              refine wo_step (v := (.i .i64 x5)) (s_pure (p_mv g5)) ?_
              have hq := forceI_inv hr
              clear hr
              obtain ⟨x18, e18, hr⟩ := hq
              refine wo_step (v := (.i .i64 x18)) (s_pure (p_bin rfl rfl (b_add.trans (ci e18)))) ?_
              refine wo_step (v := (.i .i64 x18)) (s_pure (p_mv rfl)) ?_
              refine wo_nil ?_
              cases hr
              exact ⟨_, _, rfl, rfl, rfl, gl rfl, gl g0⟩
        · refine w_condF rfl ?_
          refine w_exit ?_
          refine nx_exit ?_
          cases hr
          exact ⟨_, _, rfl, ne_norm_exit, rfl, rfl⟩
      · rcases o_1 with o_1 | o_1
        · rintro _ mm_1 t_3 ⟨rfl, rfl⟩
          refine bk_hit ?_
          refine nx_norm ?_
          refine w_seq ?_
          refine w_ops ?_
          refine wo_step (v := (.i .i64 0)) (s_pure (p_mv rfl)) ?_
          refine wo_nil ?_
          refine nx_norm ?_
          refine w_ret ?_
          exact qf ret_ok (rt rfl rn) hr
        · obtain ⟨x4, ho⟩ : ∃ z, z = o_1 := ⟨_, rfl⟩
          subst ho
          rintro _ mm_2 t_4 ⟨rfl, rfl, g4⟩
          refine bk_ret ?_
          refine nx_ret ?_
          exact qf ret_ok (rt g4 rn) hr

/- dibber/dibberlaw02.added -/
abbrev g44_I0 (s0 : List UInt8) (s1 : List UInt8) (v9 : AVal) (s : Int × Mm) (m1 : Mm) (t1 : Tr) : Prop :=
  match s with
  | (x6, m_2) => m_2 = m1 ∧ t1.get 6 = (.i .i64 x6) ∧ t1.get 0 = (.s s0) ∧ t1.get 1 = (.s s1) ∧ t1.get 5 = v9
abbrev g44_J0 (s0 : List UInt8) (s1 : List UInt8) (v9 : AVal) (o : Mm) (e : AExit) (m1 : Mm) (t1 : Tr) : Prop :=
  match o with
  | mo => e = (.exit 0) ∧ mo = m1 ∧ t1.get 5 = v9
def g44_b0 (M : Means) (ro : List ABlk) (s0 : List UInt8) (s1 : List UInt8) (v9 : AVal) (x6 : Int) (m_2 : Mm) : Option ((Int × Mm) ⊕ (Mm)) :=
  bindO (evP .e (.len true (.c (.s s0)))) fun v12 =>
  asI .i64 v12 fun x12 =>
  forceB (ltI x6 x12) fun c13 =>
  cond c13 (
    bindO (evP .e (.ixStr (.c (.s s0)) (.c (.i .i64 x6)))) fun v20 =>
    asI .u8 v20 fun x20 =>
    forceI (wr .u8 (x20 - 48)) fun x21 =>
    forceI (wr .u8 (48 + x21)) fun x22 =>
    bindO (evP .e (.ixStr (.c (.s s1)) (.c (.i .i64 x6)))) fun v25 =>
    asI .u8 v25 fun x25 =>
    forceI (wr .u8 (x25 - 48)) fun x26 =>
    forceI (bitV .xor .u8 x22 x26) fun x27 =>
    bindO (evP .e (.ixS 1 (.c v9) (.c (.i .i64 x6)))) fun v28 =>
    bindP (stepM ro m_2 (.st 1 (.c v28) (.c (.i .u8 x27)))) fun vn m_3 =>
    forceI (wr .i64 (x6 + 1)) fun x15 =>
    some (.inl (x15, m_3))) (
    some (.inr m_2))
def g44 (M : Means) (ro : List ABlk) (s0 : List UInt8) (s1 : List UInt8) (m0 : Mm) : Option (AVal × Heap × Nat × Nat) :=
  bindO (evP .e (.len true (.c (.s s0)))) fun v8 =>
  asI .i64 v8 fun x8 =>
  bindP (stepM ro m0 (.mk 5 1 1 [(AVal.i IntKind.u8 0)] (.c (.i .i64 x8)) (.c (.i .i64 x8)))) fun v9 m_1 =>
  bindO (M.loop (S := Int × Mm) (R := Mm) (fun s => g44_b0 M ro s0 s1 v9 s.1 s.2) (0, m_1)) fun m_4 =>
  bindO (btsM ro m_4 v9) fun v30 =>
  asS v30 fun s30 =>
  finM m0.h.length (tupA [(.s s30)]) m_4

theorem g44_ok {ro : List ABlk} {O : Caller} {M : Means} (hM : M.Ok ⟨F, O⟩ ro) {s0 s1 h r} (ho : O 44 [(.s s0), (.s s1)] h = none) (hr : g44 M ro s0 s1 ⟨h, h.length, h.length⟩ = some r) : callX ⟨F, O⟩ ro 44 [(.s s0), (.s s1)] h = some r := by
  refine callX_of (F := ⟨F, O⟩) (fn := fn44) (g := g44 M ro s0 s1) ho rfl rfl hr ?_
  clear ho
  clear hr
  intro m0 t0 ht hr
  have g0 : t0.get 0 = (.s s0) := ht 0
  have g1 : t0.get 1 = (.s s1) := ht 1
  clear ht
  unfold g44 at hr
  refine w_seq ?_
  refine w_ops ?_
  refine wo_step (v := (AVal.s [])) (s_pure (p_mv rfl)) ?_
  refine wo_nil ?_
  refine nx_norm ?_
  refine w_seq ?_
  refine w_ops ?_
  refine wo_step (v := (.s s0)) (s_pure (p_mv g0)) ?_
  have hq := bindO_inv hr
  clear hr
  obtain ⟨v8, e8, hr⟩ := hq
  have hq := asI_inv hr
  clear hr
  obtain ⟨x8, rfl, hr⟩ := hq
  refine wo_step (v := (.i .i64 x8)) (s_pure (o_len rfl e8)) ?_
  have hq := bindP_inv hr
  clear hr
  obtain ⟨v9, m_1, e9, hr⟩ := hq
  refine wo_step (v := v9) (s_mk rfl rfl e9) ?_
  refine wo_step (v := v9) (s_pure (p_mv rfl)) ?_
  refine wo_nil ?_
  refine nx_norm ?_
  refine w_seq ?_
  refine w_seq ?_
  refine w_ops ?_
  refine wo_step (v := (.i .i64 0)) (s_pure (p_mv rfl)) ?_
  refine wo_nil ?_
  refine nx_norm ?_
  refine w_block ?_
  have hq := bindO_inv hr
  clear hr
  obtain ⟨o, hl, hr⟩ := hq
  obtain ⟨n, hl⟩ := hM.loop _ _ _ hl
  refine jp_mono (w_loop _ (g44_I0 s0 s1 v9) (g44_J0 s0 s1 v9) ?_ n _ _ _ _ hl ⟨rfl, gl rfl, gl g0, gl g1, gl rfl⟩) ?_
  · clear hr hl
    intro s mm_1 t_1 o hi hr
    obtain ⟨x6, m_2⟩ := s
    obtain ⟨rfl, g6, g0, g1, g5⟩ := hi
    unfold g44_b0 at hr
    refine w_seq ?_
    refine w_seq ?_
    refine w_ops ?_
    refine wo_step (v := (.i .i64 x6)) (s_pure (p_mv g6)) ?_
    refine wo_step (v := (.s s0)) (s_pure (p_mv g0)) ?_
    have hq := bindO_inv hr
    clear hr
    obtain ⟨v12, e12, hr⟩ := hq
    have hq := asI_inv hr
    clear hr
    obtain ⟨x12, rfl, hr⟩ := hq
    refine wo_step (v := (.i .i64 x12)) (s_pure (o_len rfl e12)) ?_
    have hq := forceB_inv hr
    clear hr
    obtain ⟨c13, e13, hr⟩ := hq
    refine wo_step (v := (.b c13)) (s_pure (p_bin rfl rfl (b_lss.trans (cb e13)))) ?_
    refine wo_nil ?_
    refine nx_norm ?_
    have hq := cond_inv hr
    clear hr
    rcases hq with ⟨rfl, hr⟩ | ⟨rfl, hr⟩
    · refine w_condT rfl ?_
      refine w_skip ?_
      refine nx_norm ?_
      refine w_seq ?_
      refine w_block ?_
      refine w_ops ?_
      refine wo_step (v := v9) (s_pure (p_mv g5)) ?_
      refine wo_step (v := (.i .i64 x6)) (s_pure (p_mv g6)) ?_
      refine wo_step (v := (.s s0)) (s_pure (p_mv g0)) ?_
      refine wo_step (v := (.i .i64 x6)) (s_pure (p_mv g6)) ?_
      have hq := bindO_inv hr
      clear hr
      obtain ⟨v20, e20, hr⟩ := hq
      have hq := asI_inv hr
      clear hr
      obtain ⟨x20, rfl, hr⟩ := hq
      refine wo_step (v := (.i .u8 x20)) (s_pure (o_ixStr rfl rfl e20)) ?_
      have hq := forceI_inv hr
      clear hr
      obtain ⟨x21, e21, hr⟩ := hq
      refine wo_step (v := (.i .u8 x21)) (s_pure (p_bin rfl rfl (b_sub.trans (ci e21)))) ?_
      have hq := forceI_inv hr
      clear hr
      obtain ⟨x22, e22, hr⟩ := hq
      refine wo_step (v := (.i .u8 x22)) (s_pure (p_bin rfl rfl (b_add.trans (ci e22)))) ?_
      refine wo_step (v := (.s s1)) (s_pure (p_mv g1)) ?_
      refine wo_step (v := (.i .i64 x6)) (s_pure (p_mv g6)) ?_
      have hq := bindO_inv hr
      clear hr
      obtain ⟨v25, e25, hr⟩ := hq
      have hq := asI_inv hr
      clear hr
      obtain ⟨x25, rfl, hr⟩ := hq
      refine wo_step (v := (.i .u8 x25)) (s_pure (o_ixStr rfl rfl e25)) ?_
      have hq := forceI_inv hr
      clear hr
      obtain ⟨x26, e26, hr⟩ := hq
      refine wo_step (v := (.i .u8 x26)) (s_pure (p_bin rfl rfl (b_sub.trans (ci e26)))) ?_
      have hq := forceI_inv hr
      clear hr
      obtain ⟨x27, e27, hr⟩ := hq
      refine wo_step (v := (.i .u8 x27)) (s_pure (p_bin rfl rfl (b_xor.trans (ci e27)))) ?_
      have hq := bindO_inv hr
      clear hr
      obtain ⟨v28, e28, hr⟩ := hq
      refine wo_step (v := v28) (s_pure (o_ixS rfl rfl e28)) ?_
      have hq := bindP_inv hr
      clear hr
      obtain ⟨vn, m_3, en, hr⟩ := hq
      refine wo_stepN (s_st rfl rfl en) ?_
      refine wo_nil ?_
      refine bk_norm ?_
      refine nx_norm ?_
      refine w_ops ?_
      refine wo_step (v := (.i .i64 x6)) (s_pure (p_mv g6)) ?_
      have hq := forceI_inv hr
      clear hr
      obtain ⟨x15, e15, hr⟩ := hq
      refine wo_step (v := (.i .i64 x15)) (s_pure (p_bin rfl rfl (b_add.trans (ci e15)))) ?_
      refine wo_step (v := (.i .i64 x15)) (s_pure (p_mv rfl)) ?_
      refine wo_nil ?_
      cases hr
      exact ⟨_, _, rfl, rfl, rfl, gl rfl, gl g0, gl g1, gl g5⟩
    · refine w_condF rfl ?_
      refine w_exit ?_
      refine nx_exit ?_
      cases hr
      exact ⟨_, _, rfl, ne_norm_exit, rfl, rfl, gl g5⟩
  · obtain ⟨m_4, ho⟩ : ∃ z, z = o := ⟨_, rfl⟩
    subst ho
    rintro _ mm t_2 ⟨rfl, rfl, g5⟩
    refine bk_hit ?_
    refine nx_norm ?_
    refine w_seq ?_
    refine w_ops ?_
    refine wo_step (v := v9) (s_pure (p_mv g5)) ?_
    have hq := bindO_inv hr
    clear hr
    obtain ⟨v30, e30, hr⟩ := hq
    have hq := asS_inv hr
    clear hr
    obtain ⟨s30, rfl, hr⟩ := hq
    refine wo_step (v := (.s s30)) (s_bts rfl e30) ?_
    refine wo_step (v := (.s s30)) (s_pure (p_mv rfl)) ?_
    refine wo_nil ?_
    refine nx_norm ?_
    refine w_ret ?_
    exact qf ret_ok (rt rfl rn) hr

/- dibber/weed.read -/
abbrev g45_I0 (s1 : List UInt8) (x12 : Int) (x23 : Int) (m_1 : Mm) (s : Int) (m1 : Mm) (t1 : Tr) : Prop :=
  match s with
  | x24 => m_1 = m1 ∧ t1.get 24 = (.i .i64 x24) ∧ t1.get 1 = (.s s1) ∧ t1.get 6 = (.i .u8 x12) ∧ t1.get 23 = (.i .i64 x23)
abbrev g45_J0 (s1 : List UInt8) (x12 : Int) (x23 : Int) (m_1 : Mm) (o : (Unit ⊕ (Int × Int))) (e : AExit) (m1 : Mm) (t1 : Tr) : Prop :=
  match o with
  | (.inl _) => e = (.exit 0) ∧ m_1 = m1 ∧ t1.get 6 = (.i .u8 x12)
  | (.inr (y4, y5)) => e = .ret ∧ m_1 = m1 ∧ t1.get 4 = (.i .u8 y4) ∧ t1.get 5 = (.i .i64 y5)
abbrev g45_J1 (s1 : List UInt8) (x12 : Int) (x23 : Int) (x24 : Int) (m_1 : Mm) (o : Bool) (m1 : Mm) (t1 : Tr) : Prop :=
  match o with
  | c36 => m_1 = m1 ∧ t1.get 36 = (.b c36) ∧ t1.get 1 = (.s s1) ∧ t1.get 6 = (.i .u8 x12) ∧ t1.get 23 = (.i .i64 x23) ∧ t1.get 24 = (.i .i64 x24)
def g45_b0 (M : Means) (ro : List ABlk) (s1 : List UInt8) (x12 : Int) (x23 : Int) (m_1 : Mm) (x24 : Int) : Option ((Int) ⊕ ((Unit ⊕ (Int × Int)))) :=
  forceB (ltI x24 x23) fun c25 =>
  cond c25 (
    bindO (evP .e (.ixStr (.c (.s s1)) (.c (.i .i64 x24)))) fun v29 =>
    asI .u8 v29 fun x29 =>
    forceB (!eqI x29 48) fun c30 =>
    bindO (cond c30 (
      bindO (evP .e (.ixStr (.c (.s s1)) (.c (.i .i64 x24)))) fun v34 =>
      asI .u8 v34 fun x34 =>
      forceB (!eqI x34 49) fun c35 =>
      some c35) (
      some false)) fun c36 =>
    cond c36 (
      some (.inr (.inr (0, 5)))) (
      forceI (wr .i64 (x24 + 1)) fun x37 =>
      some (.inl x37))) (
    some (.inr (.inl ())))
def g45 (M : Means) (ro : List ABlk) (x0 : Int) (s1 : List UInt8) (m0 : Mm) : Option (AVal × Heap × Nat × Nat) :=
  bindP (callM M.call m0 61 [(.i .i64 x0)]) fun v11 m_1 =>
  bindO (evP .e (.ext 0 (.c v11))) fun v12 =>
  asI .u8 v12 fun x12 =>
  bindO (evP .e (.ext 1 (.c v11))) fun v13 =>
  asI .i64 v13 fun x13 =>
  forceB (!eqI x13 0) fun c15 =>
  cond c15 (
    finM m0.h.length (tupA [(.i .u8 0), (.i .i64 x13)]) m_1) (
    bindO (evP .e (.len true (.c (.s s1)))) fun v18 =>
    asI .i64 v18 fun x18 =>
    forceB (ltI 400 x18) fun c19 =>
    cond c19 (
      finM m0.h.length (tupA [(.i .u8 0), (.i .i64 3)]) m_1) (
      bindO (evP .e (.sbin BinOp.eql (.c (.s s1)) (.c (AVal.s [])))) fun v21 =>
      asB v21 fun c21 =>
      cond c21 (
        finM m0.h.length (tupA [(.i .u8 0), (.i .i64 5)]) m_1) (
        bindO (evP .e (.len true (.c (.s s1)))) fun v23 =>
        asI .i64 v23 fun x23 =>
        bindO (M.loop (S := Int) (R := (Unit ⊕ (Int × Int))) (fun s => g45_b0 M ro s1 x12 x23 m_1 s) 0) fun o_1 => match o_1 with
        | (.inl _) =>
          finM m0.h.length (tupA [(.i .u8 x12), (.i .i64 0)]) m_1
        | (.inr (x4, x5)) =>
          finM m0.h.length (tupA [(.i .u8 x4), (.i .i64 x5)]) m_1)))

theorem g45_ok {ro : List ABlk} {O : Caller} {M : Means} (hM : M.Ok ⟨F, O⟩ ro) {x0 s1 h r} (ho : O 45 [(.i .i64 x0), (.s s1)] h = none) (hr : g45 M ro x0 s1 ⟨h, h.length, h.length⟩ = some r) : callX ⟨F, O⟩ ro 45 [(.i .i64 x0), (.s s1)] h = some r := by
  refine callX_of (F := ⟨F, O⟩) (fn := fn45) (g := g45 M ro x0 s1) ho rfl rfl hr ?_
  clear ho
  clear hr
  intro m0 t0 ht hr
  have g0 : t0.get 0 = (.i .i64 x0) := ht 0
  have g1 : t0.get 1 = (.s s1) := ht 1
  clear ht
  unfold g45 at hr
  refine w_seq ?_
  refine w_ops ?_
  refine wo_step (v := (.i .u8 0)) (s_pure (p_mv rfl)) ?_
  refine wo_step (v := (.i .i64 0)) (s_pure (p_mv rfl)) ?_
  refine wo_nil ?_
  refine nx_norm ?_
  refine w_seq ?_
  refine w_ops ?_
  refine wo_step (v := (.i .i64 x0)) (s_pure (p_mv g0)) ?_
  have hq := bindP_inv hr
  clear hr
  obtain ⟨v11, m_1, e11, hr⟩ := hq
  refine wo_step (v := v11) (s_call (mc rfl mn) (callM_le hM.call e11)) ?_
  refine wo_step (v := v11) (s_pure (p_mv rfl)) ?_
  have hq := bindO_inv hr
  clear hr
  obtain ⟨v12, e12, hr⟩ := hq
  have hq := asI_inv hr
  clear hr
  obtain ⟨x12, rfl, hr⟩ := hq
  refine wo_step (v := (.i .u8 x12)) (s_pure (o_ext rfl e12)) ?_
  have hq := bindO_inv hr
  clear hr
  obtain ⟨v13, e13, hr⟩ := hq
  have hq := asI_inv hr
  clear hr
  obtain ⟨x13, rfl, hr⟩ := hq
  refine wo_step (v := (.i .i64 x13)) (s_pure (o_ext rfl e13)) ?_
  refine wo_step (v := (.i .u8 x12)) (s_pure (p_mv rfl)) ?_
  refine wo_step (v := (.i .i64 x13)) (s_pure (p_mv rfl)) ?_
  refine wo_nil ?_
  refine nx_norm ?_
  refine w_seq ?_
  refine w_seq ?_
  refine w_ops ?_
  refine wo_step (v := (.i .i64 x13)) (s_pure (p_mv rfl)) ?_
  have hq := forceB_inv hr
  clear hr
  obtain ⟨c15, e15, hr⟩ := hq
  refine wo_step (v := (.b c15)) (s_pure (p_bin rfl rfl (b_neq.trans (cb e15)))) ?_
  refine wo_nil ?_
  refine nx_norm ?_
  have hq := cond_inv hr
  clear hr
  rcases hq with ⟨rfl, hr⟩ | ⟨rfl, hr⟩
  · refine w_condT rfl ?_
    refine w_seq ?_
    refine w_ops ?_
    refine wo_step (v := (.i .i64 x13)) (s_pure (p_mv rfl)) ?_
    refine wo_step (v := (.i .u8 0)) (s_pure (p_mv rfl)) ?_
    refine wo_step (v := (.i .i64 x13)) (s_pure (p_mv rfl)) ?_
    refine wo_nil ?_
    refine nx_norm ?_
    refine w_ret ?_
    refine nx_ret ?_
    exact qf ret_ok (rt rfl (rt rfl rn)) hr
  · refine w_condF rfl ?_
    refine w_skip ?_
    refine nx_norm ?_
    refine w_seq ?_
    refine w_seq ?_
    refine w_ops ?_
    refine wo_step (v := (.s s1)) (s_pure (p_mv g1)) ?_
    have hq := bindO_inv hr
    clear hr
    obtain ⟨v18, e18, hr⟩ := hq
    have hq := asI_inv hr
    clear hr
    obtain ⟨x18, rfl, hr⟩ := hq
    refine wo_step (v := (.i .i64 x18)) (s_pure (o_len rfl e18)) ?_
    have hq := forceB_inv hr
    clear hr
    obtain ⟨c19, e19, hr⟩ := hq
    refine wo_step (v := (.b c19)) (s_pure (p_bin rfl rfl (b_gtr.trans (cb e19)))) ?_
    refine wo_nil ?_
    refine nx_norm ?_
    have hq := cond_inv hr
    clear hr
    rcases hq with ⟨rfl, hr⟩ | ⟨rfl, hr⟩
    · refine w_condT rfl ?_
      refine w_seq ?_
      refine w_ops ?_
      refine wo_step (v := (.i .u8 0)) (s_pure (p_mv rfl)) ?_
      refine wo_step (v := (.i .i64 3)) (s_pure (p_mv rfl)) ?_
      refine wo_nil ?_
      refine nx_norm ?_
      refine w_ret ?_
      refine nx_ret ?_
      exact qf ret_ok (rt rfl (rt rfl rn)) hr
    · refine w_condF rfl ?_
      refine w_skip ?_
      refine nx_norm ?_
      refine w_seq ?_
      refine w_seq ?_
      refine w_ops ?_
      refine wo_step (v := (.s s1)) (s_pure (p_mv g1)) ?_
      have hq := bindO_inv hr
      clear hr
      obtain ⟨v21, e21, hr⟩ := hq
      have hq := asB_inv hr
      clear hr
      obtain ⟨c21, rfl, hr⟩ := hq
      refine wo_step (v := (.b c21)) (s_pure (o_sbin rfl rfl e21)) ?_
      refine wo_nil ?_
      refine nx_norm ?_
      have hq := cond_inv hr
      clear hr
      rcases hq with ⟨rfl, hr⟩ | ⟨rfl, hr⟩
      · refine w_condT rfl ?_
        refine w_seq ?_
        refine w_ops ?_
        refine wo_step (v := (.i .u8 0)) (s_pure (p_mv rfl)) ?_
        refine wo_step (v := (.i .i64 5)) (s_pure (p_mv rfl)) ?_
        refine wo_nil ?_
        refine nx_norm ?_
        refine w_ret ?_
        refine nx_ret ?_
        exact qf ret_ok (rt rfl (rt rfl rn)) hr
      · refine w_condF rfl ?_
        refine w_skip ?_
        refine nx_norm ?_
        refine w_seq ?_
        refine w_seq ?_
        refine w_ops ?_
        refine wo_step (v := (.s s1)) (s_pure (p_mv g1)) ?_
        have hq := bindO_inv hr
        clear hr
        obtain ⟨v23, e23, hr⟩ := hq
        have hq := asI_inv hr
        clear hr
        obtain ⟨x23, rfl, hr⟩ := hq
        refine wo_step (v := (.i .i64 x23)) (s_pure (o_len rfl e23)) ?_
        refine wo_step (v := (.i .i64 0)) (s_pure (p_mv rfl)) ?_
        refine wo_nil ?_
        refine nx_norm ?_
        refine w_block ?_
        have hq := bindO_inv hr
        clear hr
        obtain ⟨o_1, hl, hr⟩ := hq
        obtain ⟨n, hl⟩ := hM.loop _ _ _ hl
        refine jp_mono (w_loop _ (g45_I0 s1 x12 x23 m_1) (g45_J0 s1 x12 x23 m_1) ?_ n _ _ _ _ hl ⟨rfl, gl rfl, gl g1, gl rfl, gl rfl⟩) ?_
        · clear hr hl
          intro s mm_3 t_1 o hi hr
          obtain ⟨x24, hs⟩ : ∃ z, z = s := ⟨_, rfl⟩
          subst hs
          obtain ⟨rfl, g24, g1, g6, g23⟩ := hi
          unfold g45_b0 at hr
          refine w_seq ?_
          refine w_ops ?_
          have hq := forceB_inv hr
          clear hr
          obtain ⟨c25, e25, hr⟩ := hq
          refine wo_step (v := (.b c25)) (s_pure (p_bin g24 g23 (b_lss.trans (cb e25)))) ?_
          refine wo_nil ?_
          refine nx_norm ?_
          refine w_seq ?_
          have hq := cond_inv hr
          clear hr
          rcases hq with ⟨rfl, hr⟩ | ⟨rfl, hr⟩
          · refine w_condT rfl ?_
            refine w_skip ?_
            refine nx_norm ?_
            refine w_seq ?_
            refine w_block ?_
            refine w_seq ?_
            refine w_ops ?_
            refine wo_step (v := (.i .i64 x24)) (s_pure (p_mv g24)) ?_
            refine wo_step (v := (.i .i64 x24)) (s_pure (p_mv rfl)) ?_
            refine wo_nil ?_
            refine nx_norm ?_
            refine w_seq ?_
            refine w_ops ?_
            refine wo_step (v := (.s s1)) (s_pure (p_mv g1)) ?_
            refine wo_step (v := (.i .i64 x24)) (s_pure (p_mv rfl)) ?_
            have hq := bindO_inv hr
            clear hr
            obtain ⟨v29, e29, hr⟩ := hq
            have hq := asI_inv hr
            clear hr
            obtain ⟨x29, rfl, hr⟩ := hq
            refine wo_step (v := (.i .u8 x29)) (s_pure (o_ixStr rfl rfl e29)) ?_
            have hq := forceB_inv hr
            clear hr
            obtain ⟨c30, e30, hr⟩ := hq
            refine wo_step (v := (.b c30)) (s_pure (p_bin rfl rfl (b_neq.trans (cb e30)))) ?_
            refine wo_step (v := (.b c30)) (s_pure (p_mv rfl)) ?_
            have hq := bindO_inv hr
            clear hr
            obtain ⟨o, hr, hk⟩ := hq
            refine wo_join 5 (g45_J1 s1 x12 x23 x24 m_1 o) ?_ ?_
            · clear hk
              have hq := cond_inv hr
              clear hr
              rcases hq with ⟨rfl, hr⟩ | ⟨rfl, hr⟩
              · refine wo_take (v := (.s s1)) rfl (s_pure (p_mv g1)) ?_
                refine wo_take (v := (.i .i64 x24)) rfl (s_pure (p_mv rfl)) ?_
                have hq := bindO_inv hr
                clear hr
                obtain ⟨v34, e34, hr⟩ := hq
                have hq := asI_inv hr
                clear hr
                obtain ⟨x34, rfl, hr⟩ := hq
                refine wo_take (v := (.i .u8 x34)) rfl (s_pure (o_ixStr rfl rfl e34)) ?_
                have hq := forceB_inv hr
                clear hr
                obtain ⟨c35, e35, hr⟩ := hq
                refine wo_take (v := (.b c35)) rfl (s_pure (p_bin rfl rfl (b_neq.trans (cb e35)))) ?_
                refine wo_step (v := (.b c35)) (s_pure (p_pickT rfl rfl)) ?_
                refine wo_nil ?_
                cases hr
                exact ⟨_, _, rfl, rfl, gl rfl, gl g1, gl g6, gl g23, gl g24⟩
              · refine wo_skip (v := (.b false)) rfl rfl ?_
                refine wo_skip (v := (.b false)) rfl rfl ?_
                refine wo_skip (v := (.b false)) rfl rfl ?_
                refine wo_skip (v := (.b false)) rfl rfl ?_
                refine wo_step (v := (.b false)) (s_pure (p_pickF rfl rfl)) ?_
                refine wo_nil ?_
                cases hr
                exact ⟨_, _, rfl, rfl, gl rfl, gl g1, gl g6, gl g23, gl g24⟩
            · clear hr
              have hr := hk
              clear hk
              obtain ⟨c36, ho⟩ : ∃ z, z = o := ⟨_, rfl⟩
              subst ho
              rintro mm t_2 ⟨rfl, g36, g1, g6, g23, g24⟩
              refine wo_nil ?_
              refine nx_norm ?_
              have hq := cond_inv hr
              clear hr
              rcases hq with ⟨rfl, hr⟩ | ⟨rfl, hr⟩
              · refine w_condT g36 ?_
                refine w_seq ?_
                refine w_ops ?_
                refine wo_step (v := (.i .u8 0)) (s_pure (p_mv rfl)) ?_
                refine wo_step (v := (.i .i64 5)) (s_pure (p_mv rfl)) ?_
                refine wo_nil ?_
                refine nx_norm ?_
                refine w_ret ?_
                refine bk_ret ?_
                refine nx_ret ?_
                cases hr
                exact ⟨_, _, rfl, ne_norm_ret, rfl, rfl, gl rfl, gl rfl⟩
              · refine w_condF g36 ?_
                refine w_skip ?_
                refine bk_norm ?_
                refine nx_norm ?_
                refine w_ops ?_
                have hq := forceI_inv hr
                clear hr
                obtain ⟨x37, e37, hr⟩ := hq
                refine wo_step (v := (.i .i64 x37)) (s_pure (p_bin g24 rfl (b_add.trans (ci e37)))) ?_
                refine wo_step (v := (.i .i64 x37)) (s_pure (p_mv rfl)) ?_
                refine wo_nil ?_
                cases hr
                exact ⟨_, _, rfl, rfl, rfl, gl rfl, gl g1, gl g6, gl g23⟩
          · refine w_condF rfl ?_
            refine w_exit ?_
            refine nx_exit ?_
            cases hr
            exact ⟨_, _, rfl, ne_norm_exit, rfl, rfl, gl g6⟩
        · rcases o_1 with o_1 | o_1
          · rintro _ mm_1 t_3 ⟨rfl, rfl, g6⟩
            refine bk_hit ?_
            refine nx_norm ?_
            refine w_seq ?_
            refine w_ops ?_
            refine wo_step (v := (.i .u8 x12)) (s_pure (p_mv g6)) ?_
            refine wo_step (v := (.i .u8 x12)) (s_pure (p_mv rfl)) ?_
            refine wo_step (v := (.i .i64 0)) (s_pure (p_mv rfl)) ?_
            refine wo_nil ?_
            refine nx_norm ?_
            refine w_ret ?_
            exact qf ret_ok (rt rfl (rt rfl rn)) hr
          · obtain ⟨x4, x5⟩ := o_1
            rintro _ mm_2 t_4 ⟨rfl, rfl, g4, g5⟩
            refine bk_ret ?_
            refine nx_ret ?_
            exact qf ret_ok (rt g4 (rt g5 rn)) hr

/- (dibber/weed.rule).grow -/
abbrev g46_I0 (x0 : Int) (s1 : List UInt8) (v10 : AVal) (x12 : Int) (s : Int × Mm) (m1 : Mm) (t1 : Tr) : Prop :=
  match s with
  | (x13, m_2) => m_2 = m1 ∧ t1.get 13 = (.i .i64 x13) ∧ t1.get 0 = (.i .u8 x0) ∧ t1.get 1 = (.s s1) ∧ t1.get 5 = v10 ∧ t1.get 12 = (.i .i64 x12)
abbrev g46_J0 (x0 : Int) (s1 : List UInt8) (v10 : AVal) (x12 : Int) (o : Mm) (e : AExit) (m1 : Mm) (t1 : Tr) : Prop :=
  match o with
  | mo => e = (.exit 0) ∧ mo = m1 ∧ t1.get 5 = v10
def g46_b0 (M : Means) (ro : List ABlk) (x0 : Int) (s1 : List UInt8) (v10 : AVal) (x12 : Int) (x13 : Int) (m_2 : Mm) : Option ((Int × Mm) ⊕ (Mm)) :=
  forceB (ltI x13 x12) fun c14 =>
  cond c14 (
    bindO (evP .e (.ixStr (.c (.s s1)) (.c (.i .i64 x13)))) fun v21 =>
    asI .u8 v21 fun x21 =>
    forceI (wr .i64 (x13 + 1)) fun x26 =>
    bindO (evP .e (.ixStr (.c (.s s1)) (.c (.i .i64 x26)))) fun v27 =>
    asI .u8 v27 fun x27 =>
    forceI (wr .i64 (x13 + 2)) fun x33 =>
    bindO (evP .e (.ixStr (.c (.s s1)) (.c (.i .i64 x33)))) fun v34 =>
    asI .u8 v34 fun x34 =>
    bindP (callM M.call m_2 73 [(.i .u8 x21)]) fun v22 m_3 =>
    asI .i64 v22 fun x22 =>
    forceI (wr .i64 (4 * x22)) fun x23 =>
    bindP (callM M.call m_3 73 [(.i .u8 x27)]) fun v28 m_4 =>
    asI .i64 v28 fun x28 =>
    forceI (wr .i64 (2 * x28)) fun x29 =>
    forceI (wr .i64 (x23 + x29)) fun x30 =>
    bindP (callM M.call m_4 73 [(.i .u8 x34)]) fun v35 m_5 =>
    asI .i64 v35 fun x35 =>
    forceI (wr .i64 (x30 + x35)) fun x36 =>
    bindP (callM M.call m_5 72 [(.i .u8 x0), (.i .i64 x36)]) fun v37 m_6 =>
    asI .i64 v37 fun x37 =>
    bindP (callM M.call m_6 71 [(.i .i64 x37)]) fun v38 m_7 =>
    asI .u8 v38 fun x38 =>
    bindO (evP .e (.ixS 1 (.c v10) (.c (.i .i64 x13)))) fun v39 =>
    bindP (stepM ro m_7 (.st 1 (.c v39) (.c (.i .u8 x38)))) fun vn m_8 =>
    forceI (wr .i64 (x13 + 1)) fun x40 =>
    some (.inl (x40, m_8))) (
    some (.inr m_2))
def g46 (M : Means) (ro : List ABlk) (x0 : Int) (s1 : List UInt8) (m0 : Mm) : Option (AVal × Heap × Nat × Nat) :=
  bindO (evP .e (.len true (.c (.s s1)))) fun v8 =>
  asI .i64 v8 fun x8 =>
  forceI (wr .i64 (x8 - 2)) fun x9 =>
  bindP (stepM ro m0 (.mk 5 1 1 [(AVal.i IntKind.u8 0)] (.c (.i .i64 x9)) (.c (.i .i64 x9)))) fun v10 m_1 =>
  bindO (evP .e (.len false (.c v10))) fun v12 =>
  asI .i64 v12 fun x12 =>
  bindO (M.loop (S := Int × Mm) (R := Mm) (fun s => g46_b0 M ro x0 s1 v10 x12 s.1 s.2) (0, m_1)) fun m_9 =>
  bindO (btsM ro m_9 v10) fun v42 =>
  asS v42 fun s42 =>
  finM m0.h.length (tupA [(.s s42)]) m_9

theorem g46_ok {ro : List ABlk} {O : Caller} {M : Means} (hM : M.Ok ⟨F, O⟩ ro) {x0 s1 h r} (ho : O 46 [(.i .u8 x0), (.s s1)] h = none) (hr : g46 M ro x0 s1 ⟨h, h.length, h.length⟩ = some r) : callX ⟨F, O⟩ ro 46 [(.i .u8 x0), (.s s1)] h = some r := by
  refine callX_of (F := ⟨F, O⟩) (fn := fn46) (g := g46 M ro x0 s1) ho rfl rfl hr ?_
  clear ho
  clear hr
  intro m0 t0 ht hr
  have g0 : t0.get 0 = (.i .u8 x0) := ht 0
  have g1 : t0.get 1 = (.s s1) := ht 1
  clear ht
  unfold g46 at hr
  refine w_seq ?_
  refine w_ops ?_
  refine wo_step (v := (AVal.s [])) (s_pure (p_mv rfl)) ?_
  refine wo_nil ?_
  refine nx_norm ?_
  refine w_seq ?_
  refine w_ops ?_
  refine wo_step (v := (.s s1)) (s_pure (p_mv g1)) ?_
  have hq := bindO_inv hr
  clear hr
  obtain ⟨v8, e8, hr⟩ := hq
  have hq := asI_inv hr
  clear hr
  obtain ⟨x8, rfl, hr⟩ := hq
  refine wo_step (v := (.i .i64 x8)) (s_pure (o_len rfl e8)) ?_
  have hq := forceI_inv hr
  clear hr
  obtain ⟨x9, e9, hr⟩ := hq
  refine wo_step (v := (.i .i64 x9)) (s_pure (p_bin rfl rfl (b_sub.trans (ci e9)))) ?_
  have hq := bindP_inv hr
  clear hr
  obtain ⟨v10, m_1, e10, hr⟩ := hq
  refine wo_step (v := v10) (s_mk rfl rfl e10) ?_
  refine wo_step (v := v10) (s_pure (p_mv rfl)) ?_
  refine wo_nil ?_
  refine nx_norm ?_
  refine w_seq ?_
  refine w_seq ?_
  refine w_ops ?_
  refine wo_step (v := v10) (s_pure (p_mv rfl)) ?_
  have hq := bindO_inv hr
  clear hr
  obtain ⟨v12, e12, hr⟩ := hq
  have hq := asI_inv hr
  clear hr
  obtain ⟨x12, rfl, hr⟩ := hq
  refine wo_step (v := (.i .i64 x12)) (s_pure (o_len rfl e12)) ?_
  refine wo_step (v := (.i .i64 0)) (s_pure (p_mv rfl)) ?_
  refine wo_nil ?_
  refine nx_norm ?_
  refine w_block ?_
  have hq := bindO_inv hr
  clear hr
  obtain ⟨o, hl, hr⟩ := hq
  obtain ⟨n, hl⟩ := hM.loop _ _ _ hl
  refine jp_mono (w_loop _ (g46_I0 x0 s1 v10 x12) (g46_J0 x0 s1 v10 x12) ?_ n _ _ _ _ hl ⟨rfl, gl rfl, gl g0, gl g1, gl rfl, gl rfl⟩) ?_
  · clear hr hl
    intro s mm_1 t_1 o hi hr
    obtain ⟨x13, m_2⟩ := s
    obtain ⟨rfl, g13, g0, g1, g5, g12⟩ := hi
    unfold g46_b0 at hr
    refine w_seq ?_
    refine w_ops ?_
    have hq := forceB_inv hr
    clear hr
    obtain ⟨c14, e14, hr⟩ := hq
    refine wo_step (v := (.b c14)) (s_pure (p_bin g13 g12 (b_lss.trans (cb e14)))) ?_
    refine wo_nil ?_
    refine nx_norm ?_
    refine w_seq ?_
    have hq := cond_inv hr
    clear hr
    rcases hq with ⟨rfl, hr⟩ | ⟨rfl, hr⟩
    · refine w_condT rfl ?_
      refine w_skip ?_
      refine nx_norm ?_
      refine w_seq ?_
      refine w_block ?_
      refine w_seq ?_
      refine w_ops ?_
      refine wo_step (v := (.i .i64 x13)) (s_pure (p_mv g13)) ?_
      refine wo_step (v := (.i .i64 x13)) (s_pure (p_mv rfl)) ?_
      refine wo_nil ?_
      refine nx_norm ?_
      refine w_ops ?_
      refine wo_step (v := v10) (s_pure (p_mv g5)) ?_
      refine wo_step (v := (.i .i64 x13)) (s_pure (p_mv rfl)) ?_
      refine wo_step (v := (.i .u8 x0)) (s_pure (p_mv g0)) ?_
      refine wo_step (v := (.s s1)) (s_pure (p_mv g1)) ?_
      refine wo_step (v := (.i .i64 x13)) (s_pure (p_mv rfl)) ?_
      have hq := bindO_inv hr
      clear hr
      obtain ⟨v21, e21, hr⟩ := hq
      have hq := asI_inv hr
      clear hr
      obtain ⟨x21, rfl, hr⟩ := hq
      refine wo_step (v := (.i .u8 x21)) (s_pure (o_ixStr rfl rfl e21)) ?_
      refine wo_step (v := (.s s1)) (s_pure (p_mv g1)) ?_
      refine wo_step (v := (.i .i64 x13)) (s_pure (p_mv rfl)) ?_
      have hq := forceI_inv hr
      clear hr
      obtain ⟨x26, e26, hr⟩ := hq
      refine wo_step (v := (.i .i64 x26)) (s_pure (p_bin rfl rfl (b_add.trans (ci e26)))) ?_
      have hq := bindO_inv hr
      clear hr
      obtain ⟨v27, e27, hr⟩ := hq
      have hq := asI_inv hr
      clear hr
      obtain ⟨x27, rfl, hr⟩ := hq
      refine wo_step (v := (.i .u8 x27)) (s_pure (o_ixStr rfl rfl e27)) ?_
      refine wo_step (v := (.s s1)) (s_pure (p_mv g1)) ?_
      refine wo_step (v := (.i .i64 x13)) (s_pure (p_mv rfl)) ?_
      have hq := forceI_inv hr
      clear hr
      obtain ⟨x33, e33, hr⟩ := hq
      refine wo_step (v := (.i .i64 x33)) (s_pure (p_bin rfl rfl (b_add.trans (ci e33)))) ?_
      have hq := bindO_inv hr
      clear hr
      obtain ⟨v34, e34, hr⟩ := hq
      have hq := asI_inv hr
      clear hr
      obtain ⟨x34, rfl, hr⟩ := hq
      refine wo_step (v := (.i .u8 x34)) (s_pure (o_ixStr rfl rfl e34)) ?_
      have hq := bindP_inv hr
      clear hr
      obtain ⟨v22, m_3, e22, hr⟩ := hq
      have hq := asI_inv hr
      clear hr
      obtain ⟨x22, rfl, hr⟩ := hq
      refine wo_step (v := (.i .i64 x22)) (s_call (mc rfl mn) (callM_le hM.call e22)) ?_
      have hq := forceI_inv hr
      clear hr
      obtain ⟨x23, e23, hr⟩ := hq
      refine wo_step (v := (.i .i64 x23)) (s_pure (p_bin rfl rfl (b_mul.trans (ci e23)))) ?_
      have hq := bindP_inv hr
      clear hr
      obtain ⟨v28, m_4, e28, hr⟩ := hq
      have hq := asI_inv hr
      clear hr
      obtain ⟨x28, rfl, hr⟩ := hq
      refine wo_step (v := (.i .i64 x28)) (s_call (mc rfl mn) (callM_le hM.call e28)) ?_
      have hq := forceI_inv hr
      clear hr
      obtain ⟨x29, e29, hr⟩ := hq
      refine wo_step (v := (.i .i64 x29)) (s_pure (p_bin rfl rfl (b_mul.trans (ci e29)))) ?_
      have hq := forceI_inv hr
      clear hr
      obtain ⟨x30, e30, hr⟩ := hq
      refine wo_step (v := (.i .i64 x30)) (s_pure (p_bin rfl rfl (b_add.trans (ci e30)))) ?_
      have hq := bindP_inv hr
      clear hr
      obtain ⟨v35, m_5, e35, hr⟩ := hq
      have hq := asI_inv hr
      clear hr
      obtain ⟨x35, rfl, hr⟩ := hq
      refine wo_step (v := (.i .i64 x35)) (s_call (mc rfl mn) (callM_le hM.call e35)) ?_
      have hq := forceI_inv hr
      clear hr
      obtain ⟨x36, e36, hr⟩ := hq
      refine wo_step (v := (.i .i64 x36)) (s_pure (p_bin rfl rfl (b_add.trans (ci e36)))) ?_
      have hq := bindP_inv hr
      clear hr
      obtain ⟨v37, m_6, e37, hr⟩ := hq
      have hq := asI_inv hr
      clear hr
      obtain ⟨x37, rfl, hr⟩ := hq
      refine wo_step (v := (.i .i64 x37)) (s_call (mc rfl (mc rfl mn)) (callM_le hM.call e37)) ?_
      have hq := bindP_inv hr
      clear hr
      obtain ⟨v38, m_7, e38, hr⟩ := hq
      have hq := asI_inv hr
      clear hr
      obtain ⟨x38, rfl, hr⟩ := hq
      refine wo_step (v := (.i .u8 x38)) (s_call (mc rfl mn) (callM_le hM.call e38)) ?_
      have hq := bindO_inv hr
      clear hr
      obtain ⟨v39, e39, hr⟩ := hq
      refine wo_step (v := v39) (s_pure (o_ixS rfl rfl e39)) ?_
      have hq := bindP_inv hr
      clear hr
      obtain ⟨vn, m_8, en, hr⟩ := hq
      refine wo_stepN (s_st rfl rfl en) ?_
      refine wo_nil ?_
      refine bk_norm ?_
      refine nx_norm ?_
      refine w_ops ?_
      have hq := forceI_inv hr
      clear hr
      obtain ⟨x40, e40, hr⟩ := hq
      refine wo_step (v := (.i .i64 x40)) (s_pure (p_bin g13 rfl (b_add.trans (ci e40)))) ?_
      refine wo_step (v := (.i .i64 x40)) (s_pure (p_mv rfl)) ?_
      refine wo_nil ?_
      cases hr
      exact ⟨_, _, rfl, rfl, rfl, gl rfl, gl g0, gl g1, gl g5, gl g12⟩
    · refine w_condF rfl ?_
      refine w_exit ?_
      refine nx_exit ?_
      cases hr
      exact ⟨_, _, rfl, ne_norm_exit, rfl, rfl, gl g5⟩
  · obtain ⟨m_9, ho⟩ : ∃ z, z = o := ⟨_, rfl⟩
    subst ho
    rintro _ mm t_2 ⟨rfl, rfl, g5⟩
    refine bk_hit ?_
    refine nx_norm ?_
    refine w_seq ?_
    refine w_ops ?_
    refine wo_step (v := v10) (s_pure (p_mv g5)) ?_
    have hq := bindO_inv hr
    clear hr
    obtain ⟨v42, e42, hr⟩ := hq
    have hq := asS_inv hr
    clear hr
    obtain ⟨s42, rfl, hr⟩ := hq
    refine wo_step (v := (.s s42)) (s_bts rfl e42) ?_
    refine wo_step (v := (.s s42)) (s_pure (p_mv rfl)) ?_
    refine wo_nil ?_
    refine nx_norm ?_
    refine w_ret ?_
    exact qf ret_ok (rt rfl rn) hr

/- (dibber/weed.rule).ring -/

def g51 (M : Means) (ro : List ABlk) (x0 : Int) (s1 : List UInt8) (m0 : Mm) : Option (AVal × Heap × Nat × Nat) :=
  bindO (evP .e (.len true (.c (.s s1)))) fun v8 =>
  asI .i64 v8 fun x8 =>
  forceI (wr .i64 (x8 - 1)) fun x9 =>
  bindO (evP .e (.slStr (.c (.s s1)) (some (.c (.i .i64 x9))) none)) fun v10 =>
  asS v10 fun s10 =>
  bindO (evP .e (.sbin BinOp.add (.c (.s s10)) (.c (.s s1)))) fun v12 =>
  asS v12 fun s12 =>
  bindO (evP .e (.slStr (.c (.s s1)) none (some (.c (.i .i64 1))))) fun v14 =>
  asS v14 fun s14 =>
  bindO (evP .e (.sbin BinOp.add (.c (.s s12)) (.c (.s s14)))) fun v15 =>
  asS v15 fun s15 =>
  bindP (callM M.call m0 46 [(.i .u8 x0), (.s s15)]) fun v16 m_1 =>
  asS v16 fun s16 =>
  finM m0.h.length (tupA [(.s s16)]) m_1

theorem g51_ok {ro : List ABlk} {O : Caller} {M : Means} (hM : M.Ok ⟨F, O⟩ ro) {x0 s1 h r} (ho : O 51 [(.i .u8 x0), (.s s1)] h = none) (hr : g51 M ro x0 s1 ⟨h, h.length, h.length⟩ = some r) : callX ⟨F, O⟩ ro 51 [(.i .u8 x0), (.s s1)] h = some r := by
  refine callX_of (F := ⟨F, O⟩) (fn := fn51) (g := g51 M ro x0 s1) ho rfl rfl hr ?_
  clear ho
  clear hr
  intro m0 t0 ht hr
  have g0 : t0.get 0 = (.i .u8 x0) := ht 0
  have g1 : t0.get 1 = (.s s1) := ht 1
  clear ht
  unfold g51 at hr
  refine w_seq ?_
  refine w_ops ?_
  refine wo_step (v := (AVal.s [])) (s_pure (p_mv rfl)) ?_
  refine wo_nil ?_
  refine nx_norm ?_
  refine w_seq ?_
  refine w_ops ?_
  refine wo_step (v := (.i .u8 x0)) (s_pure (p_mv g0)) ?_
  refine wo_step (v := (.s s1)) (s_pure (p_mv g1)) ?_
  refine wo_step (v := (.s s1)) (s_pure (p_mv g1)) ?_
  have hq := bindO_inv hr
  clear hr
  obtain ⟨v8, e8, hr⟩ := hq
  have hq := asI_inv hr
  clear hr
  obtain ⟨x8, rfl, hr⟩ := hq
  refine wo_step (v := (.i .i64 x8)) (s_pure (o_len rfl e8)) ?_
  have hq := forceI_inv hr
  clear hr
  obtain ⟨x9, e9, hr⟩ := hq
  refine wo_step (v := (.i .i64 x9)) (s_pure (p_bin rfl rfl (b_sub.trans (ci e9)))) ?_
  have hq := bindO_inv hr
  clear hr
  obtain ⟨v10, e10, hr⟩ := hq
  have hq := asS_inv hr
  clear hr
  obtain ⟨s10, rfl, hr⟩ := hq
  refine wo_step (v := (.s s10)) (s_pure (o_slStr rfl (os rfl) on e10)) ?_
  refine wo_step (v := (.s s1)) (s_pure (p_mv g1)) ?_
  have hq := bindO_inv hr
  clear hr
  obtain ⟨v12, e12, hr⟩ := hq
  have hq := asS_inv hr
  clear hr
  obtain ⟨s12, rfl, hr⟩ := hq
  refine wo_step (v := (.s s12)) (s_pure (o_sbin rfl rfl e12)) ?_
  refine wo_step (v := (.s s1)) (s_pure (p_mv g1)) ?_
  have hq := bindO_inv hr
  clear hr
  obtain ⟨v14, e14, hr⟩ := hq
  have hq := asS_inv hr
  clear hr
  obtain ⟨s14, rfl, hr⟩ := hq
  refine wo_step (v := (.s s14)) (s_pure (o_slStr rfl on (os rfl) e14)) ?_
  have hq := bindO_inv hr
  clear hr
  obtain ⟨v15, e15, hr⟩ := hq
  have hq := asS_inv hr
  clear hr
  obtain ⟨s15, rfl, hr⟩ := hq
  refine wo_step (v := (.s s15)) (s_pure (o_sbin rfl rfl e15)) ?_
  have hq := bindP_inv hr
  clear hr
  obtain ⟨v16, m_1, e16, hr⟩ := hq
  have hq := asS_inv hr
  clear hr
  obtain ⟨s16, rfl, hr⟩ := hq
  refine wo_step (v := (.s s16)) (s_call (mc rfl (mc rfl mn)) (callM_le hM.call e16)) ?_
  refine wo_step (v := (.s s16)) (s_pure (p_mv rfl)) ?_
  refine wo_nil ?_
  refine nx_norm ?_
  refine w_ret ?_
  exact qf ret_ok (rt rfl rn) hr

/- (dibber/weed.rule).back -/
abbrev g53_I0 (x0 : Int) (s1 : List UInt8) (v15 : AVal) (s : Int × Mm) (m1 : Mm) (t1 : Tr) : Prop :=
  match s with
  | (x7, m_3) => m_3 = m1 ∧ t1.get 7 = (.i .i64 x7) ∧ t1.get 0 = (.i .u8 x0) ∧ t1.get 1 = (.s s1) ∧ t1.get 6 = v15
abbrev g53_J0 (x0 : Int) (s1 : List UInt8) (v15 : AVal) (o : Mm) (e : AExit) (m1 : Mm) (t1 : Tr) : Prop :=
  match o with
  | mo => e = (.exit 0) ∧ mo = m1 ∧ t1.get 0 = (.i .u8 x0) ∧ t1.get 1 = (.s s1) ∧ t1.get 6 = v15
def g53_b0 (M : Means) (ro : List ABlk) (x0 : Int) (s1 : List UInt8) (v15 : AVal) (x7 : Int) (m_3 : Mm) : Option ((Int × Mm) ⊕ (Mm)) :=
  forceB (!ltI x7 0) fun c24 =>
  cond c24 (
    forceI (wr .i64 (x7 + 1)) fun x32 =>
    bindO (evP .e (.ixS 1 (.c v15) (.c (.i .i64 x32)))) fun v33 =>
    bindO (ldA ro m_3.h true 1 v33) fun v34 =>
    asI .u8 v34 fun x34 =>
    bindO (evP .e (.ixStr (.c (.s s1)) (.c (.i .i64 x7)))) fun v37 =>
    asI .u8 v37 fun x37 =>
    bindO (callN M.call m_3.h 73 [(.i .u8 x37)]) fun v38 =>
    asI .i64 v38 fun x38 =>
    bindO (callN M.call m_3.h 74 [(.i .u8 x0), (.i .u8 x34), (.i .i64 x38)]) fun v39 =>
    asI .u8 v39 fun x39 =>
    bindO (evP .e (.ixS 1 (.c v15) (.c (.i .i64 x7)))) fun v40 =>
    asP v40 fun qs =>
    bindO (writesM ro [] [(qs, AVal.cells (.i .u8 x39))] ⟨m_3.h, m_3.lw, m_3.lp⟩) fun m_4 =>
    forceI (wr .i64 (x7 - 1)) fun x26 =>
    some (.inl (x26, m_4))) (
    some (.inr m_3))
abbrev g53_I1 (x0 : Int) (s1 : List UInt8) (v15 : AVal) (x57 : Int) (s : Int × AVal × Int × Mm) (m1 : Mm) (t1 : Tr) : Prop :=
  match s with
  | (x8, v9, x58, m_10) => m_10 = m1 ∧ t1.get 8 = (.i .i64 x8) ∧ t1.get 9 = v9 ∧ t1.get 58 = (.i .i64 x58) ∧ t1.get 0 = (.i .u8 x0) ∧ t1.get 1 = (.s s1) ∧ t1.get 6 = v15 ∧ t1.get 57 = (.i .i64 x57)
abbrev g53_J1 (x0 : Int) (s1 : List UInt8) (v15 : AVal) (x57 : Int) (o : (AVal × Mm)) (e : AExit) (m1 : Mm) (t1 : Tr) : Prop :=
  match o with
  | (y9, mo) => e = (.exit 2) ∧ mo = m1 ∧ t1.get 9 = y9
abbrev g53_J2 (x0 : Int) (s1 : List UInt8) (v15 : AVal) (v9 : AVal) (x62 : Int) (x57 : Int) (x58 : Int) (o : Bool × Mm) (m1 : Mm) (t1 : Tr) : Prop :=
  match o with
  | (c81, m_13) => m_13 = m1 ∧ t1.get 81 = (.b c81) ∧ t1.get 0 = (.i .u8 x0) ∧ t1.get 1 = (.s s1) ∧ t1.get 6 = v15 ∧ t1.get 9 = v9 ∧ t1.get 11 = (.i .i64 x62) ∧ t1.get 57 = (.i .i64 x57) ∧ t1.get 58 = (.i .i64 x58)
abbrev g53_J3 (x0 : Int) (s1 : List UInt8) (v15 : AVal) (v9 : AVal) (x57 : Int) (x58 : Int) (m_13 : Mm) (o : Int) (e : AExit) (m1 : Mm) (t1 : Tr) : Prop :=
  match o with
  | y11 => e = .norm ∧ m_13 = m1 ∧ t1.get 11 = (.i .i64 y11) ∧ t1.get 0 = (.i .u8 x0) ∧ t1.get 1 = (.s s1) ∧ t1.get 6 = v15 ∧ t1.get 9 = v9 ∧ t1.get 57 = (.i .i64 x57) ∧ t1.get 58 = (.i .i64 x58)
def g53_b1 (M : Means) (ro : List ABlk) (x0 : Int) (s1 : List UInt8) (v15 : AVal) (x57 : Int) (x8 : Int) (v9 : AVal) (x58 : Int) (m_10 : Mm) : Option ((Int × AVal × Int × Mm) ⊕ ((AVal × Mm))) :=
  forceB (ltI x58 x57) fun c59 =>
  cond c59 (
    forceI (wr .i64 (2 * x8)) fun x62 =>
    bindO (evP .e (.ixStr (.c (.s s1)) (.c (.i .i64 x58)))) fun v68 =>
    asI .u8 v68 fun x68 =>
    bindP (callM M.call m_10 72 [(.i .u8 x0), (.i .i64 x62)]) fun v65 m_11 =>
    asI .i64 v65 fun x65 =>
    bindP (callM M.call m_11 73 [(.i .u8 x68)]) fun v69 m_12 =>
    asI .i64 v69 fun x69 =>
    forceB (!eqI x65 x69) fun c70 =>
    bindO (cond c70 (
      some (true, m_12)) (
      forceI (wr .i64 (x58 + 1)) fun x74 =>
      bindO (evP .e (.ixS 1 (.c v15) (.c (.i .i64 x74)))) fun v75 =>
      forceI (bitV .and .i64 x62 3) fun x78 =>
      bindO (ldM ro m_12 true 1 v75) fun v76 =>
      asI .u8 v76 fun x76 =>
      bindP (callM M.call m_12 76 [(.i .u8 x76), (.i .i64 x78)]) fun v79 m_14 =>
      asB v79 fun c79 =>
      forceB (!c79) fun c80 =>
      some (c80, m_14))) fun ⟨c81, m_13⟩ =>
    bindO (α := Int) (
      cond c81 (
        forceI (wr .i64 (x62 + 1)) fun x83 =>
        some x83) (
        some x62)) fun x11 =>
    forceI (bitV .and .i64 x11 3) fun x85 =>
    forceI (bitV .and .i64 x11 1) fun x88 =>
    bindP (callM M.call m_13 71 [(.i .i64 x88)]) fun v89 m_15 =>
    asI .u8 v89 fun x89 =>
    bindP (stepM ro m_15 (.bsl 5 1 [(AVal.i IntKind.u8 0)] 1 [((0, 1), .c (.i .u8 x89))])) fun v90 m_16 =>
    bindP (stepM ro m_16 (.app 5 1 1 [(AVal.i IntKind.u8 0)] (.c v9) (.c v90))) fun v91 m_17 =>
    forceI (wr .i64 (x58 + 1)) fun x92 =>
    some (.inl (x85, v91, x92, m_17))) (
    some (.inr (v9, m_10)))
def g53 (M : Means) (ro : List ABlk) (x0 : Int) (s1 : List UInt8) (m0 : Mm) : Option (AVal × Heap × Nat × Nat) :=
  bindO (evP .e (.len true (.c (.s s1)))) fun v13 =>
  asI .i64 v13 fun x13 =>
  forceI (wr .i64 (x13 + 1)) fun x14 =>
  bindP (stepM ro m0 (.mk 82 1 1 [(AVal.i IntKind.u8 0)] (.c (.i .i64 x14)) (.c (.i .i64 x14)))) fun v15 m_1 =>
  bindO (evP .e (.len true (.c (.s s1)))) fun v18 =>
  asI .i64 v18 fun x18 =>
  bindO (evP .e (.ixS 1 (.c v15) (.c (.i .i64 x18)))) fun v19 =>
  bindP (stepM ro m_1 (.st 1 (.c v19) (.c (.i .u8 15)))) fun vn m_2 =>
  bindO (evP .e (.len true (.c (.s s1)))) fun v21 =>
  asI .i64 v21 fun x21 =>
  forceI (wr .i64 (x21 - 1)) fun x22 =>
  bindO (M.loop (S := Int × Mm) (R := Mm) (fun s => g53_b0 M ro x0 s1 v15 s.1 s.2) (x22, m_2)) fun m_5 =>
  bindO (evP .e (.ixS 1 (.c v15) (.c (.i .i64 0)))) fun v42 =>
  bindO (ldM ro m_5 true 1 v42) fun v43 =>
  asI .u8 v43 fun x43 =>
  forceB (eqI x43 0) fun c44 =>
  cond c44 (
    finM m0.h.length (tupA [(AVal.s []), (.b false)]) m_5) (
    bindO (evP .e (.ixS 1 (.c v15) (.c (.i .i64 0)))) fun v46 =>
    bindO (ldM ro m_5 true 1 v46) fun v47 =>
    asI .u8 v47 fun x47 =>
    bindP (callM M.call m_5 75 [(.i .u8 x47)]) fun v48 m_6 =>
    asI .i64 v48 fun x48 =>
    forceI (shrV .i64 x48 1) fun x50 =>
    bindP (callM M.call m_6 71 [(.i .i64 x50)]) fun v51 m_7 =>
    asI .u8 v51 fun x51 =>
    forceI (bitV .and .i64 x48 1) fun x53 =>
    bindP (callM M.call m_7 71 [(.i .i64 x53)]) fun v54 m_8 =>
    asI .u8 v54 fun x54 =>
    bindP (stepM ro m_8 (.bsl 5 1 [(AVal.i IntKind.u8 0)] 2 [((0, 1), .c (.i .u8 x51)), ((1, 1), .c (.i .u8 x54))])) fun v55 m_9 =>
    bindO (evP .e (.len true (.c (.s s1)))) fun v57 =>
    asI .i64 v57 fun x57 =>
    bindO (M.loop (S := Int × AVal × Int × Mm) (R := (AVal × Mm)) (fun s => g53_b1 M ro x0 s1 v15 x57 s.1 s.2.1 s.2.2.1 s.2.2.2) (x48, v55, 0, m_9)) fun ⟨v9_1, m_18⟩ =>
    bindO (btsM ro m_18 v9_1) fun v94 =>
    asS v94 fun s94 =>
    finM m0.h.length (tupA [(.s s94), (.b true)]) m_18)

theorem g53_ok {ro : List ABlk} {O : Caller} {M : Means} (hM : M.Ok ⟨F, O⟩ ro) {x0 s1 h r} (ho : O 53 [(.i .u8 x0), (.s s1)] h = none) (hr : g53 M ro x0 s1 ⟨h, h.length, h.length⟩ = some r) : callX ⟨F, O⟩ ro 53 [(.i .u8 x0), (.s s1)] h = some r := by
  refine callX_of (F := ⟨F, O⟩) (fn := fn53) (g := g53 M ro x0 s1) ho rfl rfl hr ?_
  clear ho
  clear hr
  intro m0 t0 ht hr
  have g0 : t0.get 0 = (.i .u8 x0) := ht 0
  have g1 : t0.get 1 = (.s s1) := ht 1
  clear ht
  unfold g53 at hr
  refine w_seq ?_
  refine w_ops ?_
  refine wo_step (v := (AVal.s [])) (s_pure (p_mv rfl)) ?_
  refine wo_step (v := (.b false)) (s_pure (p_mv rfl)) ?_
  refine wo_nil ?_
  refine nx_norm ?_
  refine w_seq ?_
  refine w_ops ?_
  refine wo_step (v := (.s s1)) (s_pure (p_mv g1)) ?_
  have hq := bindO_inv hr
  clear hr
  obtain ⟨v13, e13, hr⟩ := hq
  have hq := asI_inv hr
  clear hr
  obtain ⟨x13, rfl, hr⟩ := hq
  refine wo_step (v := (.i .i64 x13)) (s_pure (o_len rfl e13)) ?_
  have hq := forceI_inv hr
  clear hr
  obtain ⟨x14, e14, hr⟩ := hq
  refine wo_step (v := (.i .i64 x14)) (s_pure (p_bin rfl rfl (b_add.trans (ci e14)))) ?_
  have hq := bindP_inv hr
  clear hr
  obtain ⟨v15, m_1, e15, hr⟩ := hq
  refine wo_step (v := v15) (s_mk rfl rfl e15) ?_
  refine wo_step (v := v15) (s_pure (p_mv rfl)) ?_
  refine wo_nil ?_
  refine nx_norm ?_
  refine w_seq ?_
  refine w_ops ?_
  refine wo_step (v := v15) (s_pure (p_mv rfl)) ?_
  refine wo_step (v := (.s s1)) (s_pure (p_mv g1)) ?_
  have hq := bindO_inv hr
  clear hr
  obtain ⟨v18, e18, hr⟩ := hq
  have hq := asI_inv hr
  clear hr
  obtain ⟨x18, rfl, hr⟩ := hq
  refine wo_step (v := (.i .i64 x18)) (s_pure (o_len rfl e18)) ?_
  have hq := bindO_inv hr
  clear hr
  obtain ⟨v19, e19, hr⟩ := hq
  refine wo_step (v := v19) (s_pure (o_ixS rfl rfl e19)) ?_
  have hq := bindP_inv hr
  clear hr
  obtain ⟨vn, m_2, en, hr⟩ := hq
  refine wo_stepN (s_st rfl rfl en) ?_
  refine wo_nil ?_
  refine nx_norm ?_
  refine w_seq ?_
  refine w_seq ?_
  refine w_ops ?_
  refine wo_step (v := (.s s1)) (s_pure (p_mv g1)) ?_
  have hq := bindO_inv hr
  clear hr
  obtain ⟨v21, e21, hr⟩ := hq
  have hq := asI_inv hr
  clear hr
  obtain ⟨x21, rfl, hr⟩ := hq
  refine wo_step (v := (.i .i64 x21)) (s_pure (o_len rfl e21)) ?_
  have hq := forceI_inv hr
  clear hr
  obtain ⟨x22, e22, hr⟩ := hq
  refine wo_step (v := (.i .i64 x22)) (s_pure (p_bin rfl rfl (b_sub.trans (ci e22)))) ?_
  refine wo_step (v := (.i .i64 x22)) (s_pure (p_mv rfl)) ?_
  refine wo_nil ?_
  refine nx_norm ?_
  refine w_block ?_
  have hq := bindO_inv hr
  clear hr
  obtain ⟨o, hl_1, hr⟩ := hq
  obtain ⟨n_1, hl_1⟩ := hM.loop _ _ _ hl_1
  refine jp_mono (w_loop _ (g53_I0 x0 s1 v15) (g53_J0 x0 s1 v15) ?_ n_1 _ _ _ _ hl_1 ⟨rfl, gl rfl, gl g0, gl g1, gl rfl⟩) ?_
  · clear hr hl_1
    intro s mm_5 t_1 o hi hr
    obtain ⟨x7, m_3⟩ := s
    obtain ⟨rfl, g7, g0, g1, g6⟩ := hi
    unfold g53_b0 at hr
    refine w_seq ?_
    refine w_seq ?_
    refine w_ops ?_
    refine wo_step (v := (.i .i64 x7)) (s_pure (p_mv g7)) ?_
    have hq := forceB_inv hr
    clear hr
    obtain ⟨c24, e24, hr⟩ := hq
    refine wo_step (v := (.b c24)) (s_pure (p_bin rfl rfl (b_geq.trans (cb e24)))) ?_
    refine wo_nil ?_
    refine nx_norm ?_
    have hq := cond_inv hr
    clear hr
    rcases hq with ⟨rfl, hr⟩ | ⟨rfl, hr⟩
    · refine w_condT rfl ?_
      refine w_skip ?_
      refine nx_norm ?_
      refine w_seq ?_
      refine w_block ?_
      refine w_any ?_
      refine wa_step (v := v15) (a_pure (p_mv g6)) ?_
      refine wa_step (v := (.i .i64 x7)) (a_pure (p_mv g7)) ?_
      refine wa_step (v := (.i .u8 x0)) (a_pure (p_mv g0)) ?_
      refine wa_step (v := v15) (a_pure (p_mv g6)) ?_
      refine wa_step (v := (.i .i64 x7)) (a_pure (p_mv g7)) ?_
      have hq := forceI_inv hr
      clear hr
      obtain ⟨x32, e32, hr⟩ := hq
      refine wa_step (v := (.i .i64 x32)) (a_pure (p_bin rfl rfl (b_add.trans (ci e32)))) ?_
      have hq := bindO_inv hr
      clear hr
      obtain ⟨v33, e33, hr⟩ := hq
      refine wa_step (v := v33) (a_pure (o_ixS rfl rfl e33)) ?_
      have hq := bindO_inv hr
      clear hr
      obtain ⟨v34, e34, hr⟩ := hq
      have hq := asI_inv hr
      clear hr
      obtain ⟨x34, rfl, hr⟩ := hq
      refine wa_step (v := (.i .u8 x34)) (a_ld rfl e34) ?_
      refine wa_step (v := (.s s1)) (a_pure (p_mv g1)) ?_
      refine wa_step (v := (.i .i64 x7)) (a_pure (p_mv g7)) ?_
      have hq := bindO_inv hr
      clear hr
      obtain ⟨v37, e37, hr⟩ := hq
      have hq := asI_inv hr
      clear hr
      obtain ⟨x37, rfl, hr⟩ := hq
      refine wa_step (v := (.i .u8 x37)) (a_pure (o_ixStr rfl rfl e37)) ?_
      have hq := bindO_inv hr
      clear hr
      obtain ⟨v38, e38, hr⟩ := hq
      have hq := asI_inv hr
      clear hr
      obtain ⟨x38, rfl, hr⟩ := hq
      refine wa_step (v := (.i .i64 x38)) (a_call (mc rfl mn) (callN_le hM.call e38)) ?_
      have hq := bindO_inv hr
      clear hr
      obtain ⟨v39, e39, hr⟩ := hq
      have hq := asI_inv hr
      clear hr
      obtain ⟨x39, rfl, hr⟩ := hq
      refine wa_step (v := (.i .u8 x39)) (a_call (mc rfl (mc rfl (mc rfl mn))) (callN_le hM.call e39)) ?_
      have hq := bindO_inv hr
      clear hr
      obtain ⟨v40, e40, hr⟩ := hq
      refine wa_step (v := v40) (a_pure (o_ixS rfl rfl e40)) ?_
      have hq := asP_inv hr
      clear hr
      obtain ⟨qs, eqs, hr⟩ := hq
      refine wa_stepN (a_st (Eq.trans (b := v40) rfl eqs) rfl rfl) ?_
      have hq := bindO_inv hr
      clear hr
      obtain ⟨m_4, ew, hr⟩ := hq
      refine wa_nil ?_
      refine ⟨m_4, ew, ?_⟩
      refine bk_norm ?_
      refine nx_norm ?_
      refine w_ops ?_
      refine wo_step (v := (.i .i64 x7)) (s_pure (p_mv g7)) ?_
      have hq := forceI_inv hr
      clear hr
      obtain ⟨x26, e26, hr⟩ := hq
      refine wo_step (v := (.i .i64 x26)) (s_pure (p_bin rfl rfl (b_sub.trans (ci e26)))) ?_
      refine wo_step (v := (.i .i64 x26)) (s_pure (p_mv rfl)) ?_
      refine wo_nil ?_
      cases hr
      exact ⟨_, _, rfl, rfl, rfl, gl rfl, gl g0, gl g1, gl g6⟩
    · refine w_condF rfl ?_
      refine w_exit ?_
      refine nx_exit ?_
      cases hr
      exact ⟨_, _, rfl, ne_norm_exit, rfl, rfl, gl g0, gl g1, gl g6⟩
  · obtain ⟨m_5, ho⟩ : ∃ z, z = o := ⟨_, rfl⟩
    subst ho
    rintro _ mm_4 t_2 ⟨rfl, rfl, g0, g1, g6⟩
    refine bk_hit ?_
    refine nx_norm ?_
    refine w_seq ?_
    refine w_seq ?_
    refine w_ops ?_
    refine wo_step (v := v15) (s_pure (p_mv g6)) ?_
    have hq := bindO_inv hr
    clear hr
    obtain ⟨v42, e42, hr⟩ := hq
    refine wo_step (v := v42) (s_pure (o_ixS rfl rfl e42)) ?_
    have hq := bindO_inv hr
    clear hr
    obtain ⟨v43, e43, hr⟩ := hq
    have hq := asI_inv hr
    clear hr
    obtain ⟨x43, rfl, hr⟩ := hq
    refine wo_step (v := (.i .u8 x43)) (s_ld rfl e43) ?_
    have hq := forceB_inv hr
    clear hr
    obtain ⟨c44, e44, hr⟩ := hq
    refine wo_step (v := (.b c44)) (s_pure (p_bin rfl rfl (b_eql.trans (cb e44)))) ?_
    refine wo_nil ?_
    refine nx_norm ?_
    have hq := cond_inv hr
    clear hr
    rcases hq with ⟨rfl, hr⟩ | ⟨rfl, hr⟩
    · refine w_condT rfl ?_
      refine w_seq ?_
      refine w_ops ?_
      refine wo_step (v := (AVal.s [])) (s_pure (p_mv rfl)) ?_
      refine wo_step (v := (.b false)) (s_pure (p_mv rfl)) ?_
      refine wo_nil ?_
      refine nx_norm ?_
      refine w_ret ?_
      refine nx_ret ?_
      exact qf ret_ok (rt rfl (rt rfl rn)) hr
    · refine w_condF rfl ?_
      refine w_skip ?_
      refine nx_norm ?_
      refine w_seq ?_
      refine w_ops ?_
      refine wo_step (v := v15) (s_pure (p_mv g6)) ?_
      have hq := bindO_inv hr
      clear hr
      obtain ⟨v46, e46, hr⟩ := hq
      refine wo_step (v := v46) (s_pure (o_ixS rfl rfl e46)) ?_
      have hq := bindO_inv hr
      clear hr
      obtain ⟨v47, e47, hr⟩ := hq
      have hq := asI_inv hr
      clear hr
      obtain ⟨x47, rfl, hr⟩ := hq
      refine wo_step (v := (.i .u8 x47)) (s_ld rfl e47) ?_
      have hq := bindP_inv hr
      clear hr
      obtain ⟨v48, m_6, e48, hr⟩ := hq
      have hq := asI_inv hr
      clear hr
      obtain ⟨x48, rfl, hr⟩ := hq
      refine wo_step (v := (.i .i64 x48)) (s_call (mc rfl mn) (callM_le hM.call e48)) ?_
      refine wo_step (v := (.i .i64 x48)) (s_pure (p_mv rfl)) ?_
      refine wo_nil ?_
      refine nx_norm ?_
      refine w_seq ?_
      refine w_ops ?_
      refine wo_step (v := (.i .i64 x48)) (s_pure (p_mv rfl)) ?_
      have hq := forceI_inv hr
      clear hr
      obtain ⟨x50, e50, hr⟩ := hq
      refine wo_step (v := (.i .i64 x50)) (s_pure (p_bin rfl rfl ((b_shr rfl).trans (ci e50)))) ?_
      have hq := bindP_inv hr
      clear hr
      obtain ⟨v51, m_7, e51, hr⟩ := hq
      have hq := asI_inv hr
      clear hr
      obtain ⟨x51, rfl, hr⟩ := hq
      refine wo_step (v := (.i .u8 x51)) (s_call (mc rfl mn) (callM_le hM.call e51)) ?_
      refine wo_step (v := (.i .i64 x48)) (s_pure (p_mv rfl)) ?_
      have hq := forceI_inv hr
      clear hr
      obtain ⟨x53, e53, hr⟩ := hq
      refine wo_step (v := (.i .i64 x53)) (s_pure (p_bin rfl rfl (b_and.trans (ci e53)))) ?_
      have hq := bindP_inv hr
      clear hr
      obtain ⟨v54, m_8, e54, hr⟩ := hq
      have hq := asI_inv hr
      clear hr
      obtain ⟨x54, rfl, hr⟩ := hq
      refine wo_step (v := (.i .u8 x54)) (s_call (mc rfl mn) (callM_le hM.call e54)) ?_
      have hq := bindP_inv hr
      clear hr
      obtain ⟨v55, m_9, e55, hr⟩ := hq
      refine wo_step (v := v55) (s_bsl (qc rfl (qc rfl qn)) e55) ?_
      refine wo_step (v := v55) (s_pure (p_mv rfl)) ?_
      refine wo_nil ?_
      refine nx_norm ?_
      refine w_seq ?_
      refine w_seq ?_
      refine w_ops ?_
      refine wo_step (v := (.s s1)) (s_pure (p_mv g1)) ?_
      have hq := bindO_inv hr
      clear hr
      obtain ⟨v57, e57, hr⟩ := hq
      have hq := asI_inv hr
      clear hr
      obtain ⟨x57, rfl, hr⟩ := hq
      refine wo_step (v := (.i .i64 x57)) (s_pure (o_len rfl e57)) ?_
      refine wo_step (v := (.i .i64 0)) (s_pure (p_mv rfl)) ?_
      refine wo_nil ?_
      refine nx_norm ?_
      refine w_block ?_
      have hq := bindO_inv hr
      clear hr
      obtain ⟨o_3, hl, hr⟩ := hq
      obtain ⟨n, hl⟩ := hM.loop _ _ _ hl
      refine jp_mono (w_loop _ (g53_I1 x0 s1 v15 x57) (g53_J1 x0 s1 v15 x57) ?_ n _ _ _ _ hl ⟨rfl, gl rfl, gl rfl, gl rfl, gl g0, gl g1, gl g6, gl rfl⟩) ?_
      · clear hr hl
        intro s mm_3 t_3 o hi hr
        obtain ⟨x8, v9, x58, m_10⟩ := s
        obtain ⟨rfl, g8, g9, g58, g0, g1, g6, g57⟩ := hi
        unfold g53_b1 at hr
        refine w_seq ?_
        refine w_ops ?_
        have hq := forceB_inv hr
        clear hr
        obtain ⟨c59, e59, hr⟩ := hq
        refine wo_step (v := (.b c59)) (s_pure (p_bin g58 g57 (b_lss.trans (cb e59)))) ?_
        refine wo_nil ?_
        refine nx_norm ?_
        refine w_seq ?_
        have hq := cond_inv hr
        clear hr
        rcases hq with ⟨rfl, hr⟩ | ⟨rfl, hr⟩
        · refine w_condT rfl ?_
          refine w_skip ?_
          refine nx_norm ?_
          refine w_seq ?_
          refine w_block ?_
          refine w_seq ?_
          refine w_ops ?_
          refine wo_step (v := (.i .i64 x58)) (s_pure (p_mv g58)) ?_
          refine wo_step (v := (.i .i64 x58)) (s_pure (p_mv rfl)) ?_
          refine wo_nil ?_
          refine nx_norm ?_
          refine w_seq ?_
          refine w_ops ?_
          refine wo_step (v := (.i .i64 x8)) (s_pure (p_mv g8)) ?_
          have hq := forceI_inv hr
          clear hr
          obtain ⟨x62, e62, hr⟩ := hq
          refine wo_step (v := (.i .i64 x62)) (s_pure (p_bin rfl rfl (b_mul.trans (ci e62)))) ?_
          refine wo_step (v := (.i .i64 x62)) (s_pure (p_mv rfl)) ?_
          refine wo_nil ?_
          refine nx_norm ?_
          refine w_seq ?_
          refine w_seq ?_
          refine w_ops ?_
          refine wo_step (v := (.i .u8 x0)) (s_pure (p_mv g0)) ?_
          refine wo_step (v := (.i .i64 x62)) (s_pure (p_mv rfl)) ?_
          refine wo_step (v := (.s s1)) (s_pure (p_mv g1)) ?_
          refine wo_step (v := (.i .i64 x58)) (s_pure (p_mv rfl)) ?_
          have hq := bindO_inv hr
          clear hr
          obtain ⟨v68, e68, hr⟩ := hq
          have hq := asI_inv hr
          clear hr
          obtain ⟨x68, rfl, hr⟩ := hq
          refine wo_step (v := (.i .u8 x68)) (s_pure (o_ixStr rfl rfl e68)) ?_
          have hq := bindP_inv hr
          clear hr
          obtain ⟨v65, m_11, e65, hr⟩ := hq
          have hq := asI_inv hr
          clear hr
          obtain ⟨x65, rfl, hr⟩ := hq
          refine wo_step (v := (.i .i64 x65)) (s_call (mc rfl (mc rfl mn)) (callM_le hM.call e65)) ?_
          have hq := bindP_inv hr
          clear hr
          obtain ⟨v69, m_12, e69, hr⟩ := hq
          have hq := asI_inv hr
          clear hr
          obtain ⟨x69, rfl, hr⟩ := hq
          refine wo_step (v := (.i .i64 x69)) (s_call (mc rfl mn) (callM_le hM.call e69)) ?_
          have hq := forceB_inv hr
          clear hr
          obtain ⟨c70, e70, hr⟩ := hq
          refine wo_step (v := (.b c70)) (s_pure (p_bin rfl rfl (b_neq.trans (cb e70)))) ?_
          refine wo_step (v := (.b c70)) (s_pure (p_mv rfl)) ?_
          have hq := bindO_inv hr
          clear hr
          obtain ⟨o_1, hr, hk⟩ := hq
          refine wo_join 10 (g53_J2 x0 s1 v15 v9 x62 x57 x58 o_1) ?_ ?_
          · clear hk
            have hq := cond_inv hr
            clear hr
            rcases hq with ⟨rfl, hr⟩ | ⟨rfl, hr⟩
            · refine wo_skip (v := (.b true)) rfl rfl ?_
              refine wo_skip (v := (.b true)) rfl rfl ?_
              refine wo_skip (v := (.b true)) rfl rfl ?_
              refine wo_skip (v := (.b true)) rfl rfl ?_
              refine wo_skip (v := (.b true)) rfl rfl ?_
              refine wo_skip (v := (.b true)) rfl rfl ?_
              refine wo_skip (v := (.b true)) rfl rfl ?_
              refine wo_skip (v := (.b true)) rfl rfl ?_
              refine wo_skip (v := (.b true)) rfl rfl ?_
              refine wo_step (v := (.b true)) (s_pure (p_pickT rfl rfl)) ?_
              refine wo_nil ?_
              cases hr
              exact ⟨_, _, rfl, rfl, gl rfl, gl g0, gl g1, gl g6, gl g9, gl rfl, gl g57, gl g58⟩
            · refine wo_take (v := v15) rfl (s_pure (p_mv g6)) ?_
              refine wo_take (v := (.i .i64 x58)) rfl (s_pure (p_mv rfl)) ?_
              have hq := forceI_inv hr
              clear hr
              obtain ⟨x74, e74, hr⟩ := hq
              refine wo_take (v := (.i .i64 x74)) rfl (s_pure (p_bin rfl rfl (b_add.trans (ci e74)))) ?_
              have hq := bindO_inv hr
              clear hr
              obtain ⟨v75, e75, hr⟩ := hq
              refine wo_take (v := v75) rfl (s_pure (o_ixS rfl rfl e75)) ?_
              refine wo_take (v := (.i .i64 x62)) rfl (s_pure (p_mv rfl)) ?_
              have hq := forceI_inv hr
              clear hr
              obtain ⟨x78, e78, hr⟩ := hq
              refine wo_take (v := (.i .i64 x78)) rfl (s_pure (p_bin rfl rfl (b_and.trans (ci e78)))) ?_
              have hq := bindO_inv hr
              clear hr
              obtain ⟨v76, e76, hr⟩ := hq
              have hq := asI_inv hr
              clear hr
              obtain ⟨x76, rfl, hr⟩ := hq
              refine wo_take (v := (.i .u8 x76)) rfl (s_ld rfl e76) ?_
              have hq := bindP_inv hr
              clear hr
              obtain ⟨v79, m_14, e79, hr⟩ := hq
              have hq := asB_inv hr
              clear hr
              obtain ⟨c79, rfl, hr⟩ := hq
              refine wo_take (v := (.b c79)) rfl (s_call (mc rfl (mc rfl mn)) (callM_le hM.call e79)) ?_
              have hq := forceB_inv hr
              clear hr
              obtain ⟨c80, e80, hr⟩ := hq
              refine wo_take (v := (.b c80)) rfl (s_pure ((p_not rfl).trans (cb e80))) ?_
              refine wo_step (v := (.b c80)) (s_pure (p_pickF rfl rfl)) ?_
              refine wo_nil ?_
              cases hr
              exact ⟨_, _, rfl, rfl, gl rfl, gl g0, gl g1, gl g6, gl g9, gl rfl, gl g57, gl g58⟩
          · clear hr
            have hr := hk
            clear hk
            obtain ⟨c81, m_13⟩ := o_1
            rintro mm t_4 ⟨rfl, g81, g0, g1, g6, g9, g11, g57, g58⟩
            refine wo_nil ?_
            refine nx_norm ?_
            have hq := bindO_inv hr
            clear hr
            obtain ⟨o_2, hr, hk⟩ := hq
            refine jp_mono (J := g53_J3 x0 s1 v15 v9 x57 x58 m_13 o_2) ?_ ?_
            · clear hk
              have hq := cond_inv hr
              clear hr
              rcases hq with ⟨rfl, hr⟩ | ⟨rfl, hr⟩
              · refine w_condT g81 ?_
                refine w_ops ?_
                refine wo_step (v := (.i .i64 x62)) (s_pure (p_mv g11)) ?_
                have hq := forceI_inv hr
                clear hr
                obtain ⟨x83, e83, hr⟩ := hq
                refine wo_step (v := (.i .i64 x83)) (s_pure (p_bin rfl rfl (b_add.trans (ci e83)))) ?_
                refine wo_step (v := (.i .i64 x83)) (s_pure (p_mv rfl)) ?_
                refine wo_nil ?_
                cases hr
                exact ⟨_, _, rfl, rfl, rfl, gl rfl, gl g0, gl g1, gl g6, gl g9, gl g57, gl g58⟩
              · refine w_condF g81 ?_
                refine w_skip ?_
                cases hr
                exact ⟨_, _, rfl, rfl, rfl, gl g11, gl g0, gl g1, gl g6, gl g9, gl g57, gl g58⟩
            · have hr := hk
              clear hk
              obtain ⟨x11, ho⟩ : ∃ z, z = o_2 := ⟨_, rfl⟩
              subst ho
              rintro _ mm_1 t_5 ⟨rfl, rfl, g11, g0, g1, g6, g9, g57, g58⟩
              refine nx_norm ?_
              refine w_seq ?_
              refine w_ops ?_
              refine wo_step (v := (.i .i64 x11)) (s_pure (p_mv g11)) ?_
              have hq := forceI_inv hr
              clear hr
              obtain ⟨x85, e85, hr⟩ := hq
              refine wo_step (v := (.i .i64 x85)) (s_pure (p_bin rfl rfl (b_and.trans (ci e85)))) ?_
              refine wo_step (v := (.i .i64 x85)) (s_pure (p_mv rfl)) ?_
              refine wo_nil ?_
              refine nx_norm ?_
              refine w_ops ?_
              refine wo_step (v := v9) (s_pure (p_mv g9)) ?_
              refine wo_step (v := (.i .i64 x11)) (s_pure (p_mv g11)) ?_
              have hq := forceI_inv hr
              clear hr
              obtain ⟨x88, e88, hr⟩ := hq
              refine wo_step (v := (.i .i64 x88)) (s_pure (p_bin rfl rfl (b_and.trans (ci e88)))) ?_
              have hq := bindP_inv hr
              clear hr
              obtain ⟨v89, m_15, e89, hr⟩ := hq
              have hq := asI_inv hr
              clear hr
              obtain ⟨x89, rfl, hr⟩ := hq
              refine wo_step (v := (.i .u8 x89)) (s_call (mc rfl mn) (callM_le hM.call e89)) ?_
              have hq := bindP_inv hr
              clear hr
              obtain ⟨v90, m_16, e90, hr⟩ := hq
              refine wo_step (v := v90) (s_bsl (qc rfl qn) e90) ?_
              have hq := bindP_inv hr
              clear hr
              obtain ⟨v91, m_17, e91, hr⟩ := hq
              refine wo_step (v := v91) (s_app rfl rfl e91) ?_
              refine wo_step (v := v91) (s_pure (p_mv rfl)) ?_
              refine wo_nil ?_
              refine bk_norm ?_
              refine nx_norm ?_
              refine w_ops ?_
              have hq := forceI_inv hr
              clear hr
              obtain ⟨x92, e92, hr⟩ := hq
              refine wo_step (v := (.i .i64 x92)) (s_pure (p_bin g58 rfl (b_add.trans (ci e92)))) ?_
              refine wo_step (v := (.i .i64 x92)) (s_pure (p_mv rfl)) ?_
              refine wo_nil ?_
              cases hr
              exact ⟨_, _, rfl, rfl, rfl, gl rfl, gl rfl, gl rfl, gl g0, gl g1, gl g6, gl g57⟩
        · refine w_condF rfl ?_
          refine w_exit ?_
          refine nx_exit ?_
          cases hr
          exact ⟨_, _, rfl, ne_norm_exit, rfl, rfl, gl g9⟩
      · obtain ⟨v9_1, m_18⟩ := o_3
        rintro _ mm_2 t_6 ⟨rfl, rfl, g9⟩
        refine bk_hit ?_
        refine nx_norm ?_
        refine w_seq ?_
        refine w_ops ?_
        refine wo_step (v := v9_1) (s_pure (p_mv g9)) ?_
        have hq := bindO_inv hr
        clear hr
        obtain ⟨v94, e94, hr⟩ := hq
        have hq := asS_inv hr
        clear hr
        obtain ⟨s94, rfl, hr⟩ := hq
        refine wo_step (v := (.s s94)) (s_bts rfl e94) ?_
        refine wo_step (v := (.s s94)) (s_pure (p_mv rfl)) ?_
        refine wo_step (v := (.b true)) (s_pure (p_mv rfl)) ?_
        refine wo_nil ?_
        refine nx_norm ?_
        refine w_ret ?_
        exact qf ret_ok (rt rfl (rt rfl rn)) hr

/- dibber/weed.readShort -/
abbrev g56_J0 (x12 : Int) (x13 : Int) (m_1 : Mm) (o : Bool) (m1 : Mm) (t1 : Tr) : Prop :=
  match o with
  | c20 => m_1 = m1 ∧ t1.get 20 = (.b c20) ∧ t1.get 6 = (.i .u8 x12) ∧ t1.get 7 = (.i .i64 x13)
def g56 (M : Means) (ro : List ABlk) (x0 : Int) (s1 : List UInt8) (m0 : Mm) : Option (AVal × Heap × Nat × Nat) :=
  bindP (callM M.call m0 45 [(.i .i64 x0), (.s s1)]) fun v11 m_1 =>
  bindO (evP .e (.ext 0 (.c v11))) fun v12 =>
  asI .u8 v12 fun x12 =>
  bindO (evP .e (.ext 1 (.c v11))) fun v13 =>
  asI .i64 v13 fun x13 =>
  forceB (eqI x13 0) fun c15 =>
  bindO (cond c15 (
    bindO (evP .e (.len true (.c (.s s1)))) fun v18 =>
    asI .i64 v18 fun x18 =>
    forceB (ltI 50 x18) fun c19 =>
    some c19) (
    some false)) fun c20 =>
  cond c20 (
    finM m0.h.length (tupA [(.i .u8 0), (.i .i64 2)]) m_1) (
    finM m0.h.length (tupA [(.i .u8 x12), (.i .i64 x13)]) m_1)

theorem g56_ok {ro : List ABlk} {O : Caller} {M : Means} (hM : M.Ok ⟨F, O⟩ ro) {x0 s1 h r} (ho : O 56 [(.i .i64 x0), (.s s1)] h = none) (hr : g56 M ro x0 s1 ⟨h, h.length, h.length⟩ = some r) : callX ⟨F, O⟩ ro 56 [(.i .i64 x0), (.s s1)] h = some r := by
  refine callX_of (F := ⟨F, O⟩) (fn := fn56) (g := g56 M ro x0 s1) ho rfl rfl hr ?_
  clear ho
  clear hr
  intro m0 t0 ht hr
  have g0 : t0.get 0 = (.i .i64 x0) := ht 0
  have g1 : t0.get 1 = (.s s1) := ht 1
  clear ht
  unfold g56 at hr
  refine w_seq ?_
  refine w_ops ?_
  refine wo_step (v := (.i .u8 0)) (s_pure (p_mv rfl)) ?_
  refine wo_step (v := (.i .i64 0)) (s_pure (p_mv rfl)) ?_
  refine wo_nil ?_
  refine nx_norm ?_
  refine w_seq ?_
  refine w_ops ?_
  refine wo_step (v := (.i .i64 x0)) (s_pure (p_mv g0)) ?_
  refine wo_step (v := (.s s1)) (s_pure (p_mv g1)) ?_
  have hq := bindP_inv hr
  clear hr
  obtain ⟨v11, m_1, e11, hr⟩ := hq
  refine wo_step (v := v11) (s_call (mc rfl (mc rfl mn)) (callM_le hM.call e11)) ?_
  refine wo_step (v := v11) (s_pure (p_mv rfl)) ?_
  have hq := bindO_inv hr
  clear hr
  obtain ⟨v12, e12, hr⟩ := hq
  have hq := asI_inv hr
  clear hr
  obtain ⟨x12, rfl, hr⟩ := hq
  refine wo_step (v := (.i .u8 x12)) (s_pure (o_ext rfl e12)) ?_
  have hq := bindO_inv hr
  clear hr
  obtain ⟨v13, e13, hr⟩ := hq
  have hq := asI_inv hr
  clear hr
  obtain ⟨x13, rfl, hr⟩ := hq
  refine wo_step (v := (.i .i64 x13)) (s_pure (o_ext rfl e13)) ?_
  refine wo_step (v := (.i .u8 x12)) (s_pure (p_mv rfl)) ?_
  refine wo_step (v := (.i .i64 x13)) (s_pure (p_mv rfl)) ?_
  refine wo_nil ?_
  refine nx_norm ?_
  refine w_seq ?_
  refine w_seq ?_
  refine w_ops ?_
  refine wo_step (v := (.i .i64 x13)) (s_pure (p_mv rfl)) ?_
  have hq := forceB_inv hr
  clear hr
  obtain ⟨c15, e15, hr⟩ := hq
  refine wo_step (v := (.b c15)) (s_pure (p_bin rfl rfl (b_eql.trans (cb e15)))) ?_
  refine wo_step (v := (.b c15)) (s_pure (p_mv rfl)) ?_
  have hq := bindO_inv hr
  clear hr
  obtain ⟨o, hr, hk⟩ := hq
  refine wo_join 4 (g56_J0 x12 x13 m_1 o) ?_ ?_
  · clear hk
    have hq := cond_inv hr
    clear hr
    rcases hq with ⟨rfl, hr⟩ | ⟨rfl, hr⟩
    · refine wo_take (v := (.s s1)) rfl (s_pure (p_mv g1)) ?_
      have hq := bindO_inv hr
      clear hr
      obtain ⟨v18, e18, hr⟩ := hq
      have hq := asI_inv hr
      clear hr
      obtain ⟨x18, rfl, hr⟩ := hq
      refine wo_take (v := (.i .i64 x18)) rfl (s_pure (o_len rfl e18)) ?_
      have hq := forceB_inv hr
      clear hr
      obtain ⟨c19, e19, hr⟩ := hq
      refine wo_take (v := (.b c19)) rfl (s_pure (p_bin rfl rfl (b_gtr.trans (cb e19)))) ?_
      refine wo_step (v := (.b c19)) (s_pure (p_pickT rfl rfl)) ?_
      refine wo_nil ?_
      cases hr
      exact ⟨_, _, rfl, rfl, gl rfl, gl rfl, gl rfl⟩
    · refine wo_skip (v := (.b false)) rfl rfl ?_
      refine wo_skip (v := (.b false)) rfl rfl ?_
      refine wo_skip (v := (.b false)) rfl rfl ?_
      refine wo_step (v := (.b false)) (s_pure (p_pickF rfl rfl)) ?_
      refine wo_nil ?_
      cases hr
      exact ⟨_, _, rfl, rfl, gl rfl, gl rfl, gl rfl⟩
  · clear hr
    have hr := hk
    clear hk
    obtain ⟨c20, ho⟩ : ∃ z, z = o := ⟨_, rfl⟩
    subst ho
    rintro mm t_1 ⟨rfl, g20, g6, g7⟩
    refine wo_nil ?_
    refine nx_norm ?_
    have hq := cond_inv hr
    clear hr
    rcases hq with ⟨rfl, hr⟩ | ⟨rfl, hr⟩
    · refine w_condT g20 ?_
      refine w_seq ?_
      refine w_ops ?_
      refine wo_step (v := (.i .u8 0)) (s_pure (p_mv rfl)) ?_
      refine wo_step (v := (.i .i64 2)) (s_pure (p_mv rfl)) ?_
      refine wo_nil ?_
      refine nx_norm ?_
      refine w_ret ?_
      refine nx_ret ?_
      exact qf ret_ok (rt rfl (rt rfl rn)) hr
    · refine w_condF g20 ?_
      refine w_skip ?_
      refine nx_norm ?_
      refine w_seq ?_
      refine w_ops ?_
      refine wo_step (v := (.i .u8 x12)) (s_pure (p_mv g6)) ?_
      refine wo_step (v := (.i .i64 x13)) (s_pure (p_mv g7)) ?_
      refine wo_step (v := (.i .u8 x12)) (s_pure (p_mv rfl)) ?_
      refine wo_step (v := (.i .i64 x13)) (s_pure (p_mv rfl)) ?_
      refine wo_nil ?_
      refine nx_norm ?_
      refine w_ret ?_
      exact qf ret_ok (rt rfl (rt rfl rn)) hr

end Go.Proofs.Ytjjinlljdfaipaa.W

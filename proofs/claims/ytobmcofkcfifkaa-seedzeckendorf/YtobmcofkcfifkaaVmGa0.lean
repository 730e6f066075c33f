/- Plain functions, and that the small machine answers as they do. -/
import Derived.Test.YtobmcofkcfifkaaVmP
import Derived.Test.YtobmcofkcfifkaaVmAE
open Go.Vm
set_option linter.unusedVariables false
namespace Go.Proofs.Ytobmcofkcfifkaa.T
open Go
/- dibber/dibberlaw09.SeedZeckendorf -/
abbrev g10_J0 (s2 : List UInt8) (x22 : Int) (x24 : Int) (s28 : List UInt8) (s33 : List UInt8) (x38 : Int) (x39 : Int) (m_6 : Mm) (o : Bool) (m1 : Mm) (t1 : Tr) : Prop :=
  match o with
  | c45 => m_6 = m1 ∧ t1.get 45 = (.b c45) ∧ t1.get 2 = (.s s2) ∧ t1.get 7 = (.i .i64 x22) ∧ t1.get 8 = (.i .i64 x24) ∧ t1.get 9 = (.s s28) ∧ t1.get 11 = (.s s33) ∧ t1.get 13 = (.i .i64 x38) ∧ t1.get 14 = (.i .i64 x39)
abbrev g10_J1 (s2 : List UInt8) (x22 : Int) (x24 : Int) (s28 : List UInt8) (s33 : List UInt8) (x38 : Int) (m_6 : Mm) (o : Bool) (m1 : Mm) (t1 : Tr) : Prop :=
  match o with
  | c49 => m_6 = m1 ∧ t1.get 49 = (.b c49) ∧ t1.get 2 = (.s s2) ∧ t1.get 7 = (.i .i64 x22) ∧ t1.get 8 = (.i .i64 x24) ∧ t1.get 9 = (.s s28) ∧ t1.get 11 = (.s s33) ∧ t1.get 13 = (.i .i64 x38)
abbrev g10_J2 (s2 : List UInt8) (x22 : Int) (x24 : Int) (s28 : List UInt8) (s33 : List UInt8) (m_6 : Mm) (o : Bool) (m1 : Mm) (t1 : Tr) : Prop :=
  match o with
  | c54 => m_6 = m1 ∧ t1.get 54 = (.b c54) ∧ t1.get 2 = (.s s2) ∧ t1.get 7 = (.i .i64 x22) ∧ t1.get 8 = (.i .i64 x24) ∧ t1.get 9 = (.s s28) ∧ t1.get 11 = (.s s33)
abbrev g10_J3 (s2 : List UInt8) (x22 : Int) (x24 : Int) (s28 : List UInt8) (s33 : List UInt8) (o : Bool × Mm) (m1 : Mm) (t1 : Tr) : Prop :=
  match o with
  | (c59, m_7) => m_7 = m1 ∧ t1.get 59 = (.b c59) ∧ t1.get 2 = (.s s2) ∧ t1.get 7 = (.i .i64 x22) ∧ t1.get 8 = (.i .i64 x24) ∧ t1.get 9 = (.s s28) ∧ t1.get 11 = (.s s33)
abbrev g10_J4 (s2 : List UInt8) (c62 : Bool) (m_7 : Mm) (o : Bool) (m1 : Mm) (t1 : Tr) : Prop :=
  match o with
  | c79 => m_7 = m1 ∧ t1.get 79 = (.b c79) ∧ t1.get 2 = (.s s2) ∧ t1.get 62 = (.b c62)
abbrev g10_J5 (s2 : List UInt8) (c62 : Bool) (m_7 : Mm) (o : Bool) (m1 : Mm) (t1 : Tr) : Prop :=
  match o with
  | c79_1 => m_7 = m1 ∧ t1.get 79 = (.b c79_1) ∧ t1.get 2 = (.s s2) ∧ t1.get 62 = (.b c62)
abbrev g10_J6  (o : Bool × Mm) (m1 : Mm) (t1 : Tr) : Prop :=
  match o with
  | (c97, m_10) => m_10 = m1 ∧ t1.get 97 = (.b c97)
abbrev g10_J7  (o : Bool × Mm) (m1 : Mm) (t1 : Tr) : Prop :=
  match o with
  | (c100, m_12) => m_12 = m1 ∧ t1.get 100 = (.b c100)
abbrev g10_J8 (m_14 : Mm) (o : Bool) (m1 : Mm) (t1 : Tr) : Prop :=
  match o with
  | c112 => m_14 = m1 ∧ t1.get 112 = (.b c112)
abbrev g10_J9  (o : Bool × Mm) (m1 : Mm) (t1 : Tr) : Prop :=
  match o with
  | (c115, m_15) => m_15 = m1 ∧ t1.get 115 = (.b c115)
def g10 (M : Means) (ro : List ABlk) (x0 : Int) (x1 : Int) (s2 : List UInt8) (m0 : Mm) : Option (AVal × Heap × Nat × Nat) :=
  bindO (evP .e (.len true (.c (.s s2)))) fun v18 =>
  asI .i64 v18 fun x18 =>
  forceB (ltI 300 x18) fun c19 =>
  cond c19 (
    bindP (callM M.call m0 18 []) fun v20 m_1 =>
    asB v20 fun c20 =>
    finM m0.h.length (tupA [(.b c20)]) m_1) (
    bindP (callM M.call m0 45 [(.i .u64 x0)]) fun v22 m_2 =>
    asI .i64 v22 fun x22 =>
    bindP (callM M.call m_2 45 [(.i .u64 x1)]) fun v24 m_3 =>
    asI .i64 v24 fun x24 =>
    bindP (callM M.call m_3 19 [(.i .i64 x22)]) fun v27 m_4 =>
    bindO (evP .e (.ext 0 (.c v27))) fun v28 =>
    asS v28 fun s28 =>
    bindO (evP .e (.ext 1 (.c v27))) fun v29 =>
    asI .i64 v29 fun x29 =>
    bindP (callM M.call m_4 19 [(.i .i64 x24)]) fun v32 m_5 =>
    bindO (evP .e (.ext 0 (.c v32))) fun v33 =>
    asS v33 fun s33 =>
    bindO (evP .e (.ext 1 (.c v32))) fun v34 =>
    asI .i64 v34 fun x34 =>
    bindP (callM M.call m_5 21 [(.s s28)]) fun v37 m_6 =>
    bindO (evP .e (.ext 0 (.c v37))) fun v38 =>
    asI .i64 v38 fun x38 =>
    bindO (evP .e (.ext 1 (.c v37))) fun v39 =>
    asI .i64 v39 fun x39 =>
    forceB (!eqI x29 0) fun c41 =>
    bindO (cond c41 (
      some true) (
      forceB (!eqI x34 0) fun c44 =>
      some c44)) fun c45 =>
    bindO (cond c45 (
      some true) (
      forceB (!eqI x39 0) fun c48 =>
      some c48)) fun c49 =>
    bindO (cond c49 (
      some true) (
      forceB (!eqI x38 x22) fun c53 =>
      some c53)) fun c54 =>
    bindO (cond c54 (
      some (true, m_6)) (
      bindP (callM M.call m_6 46 [(.s s28)]) fun v57 m_8 =>
      asB v57 fun c57 =>
      forceB (!c57) fun c58 =>
      some (c58, m_8))) fun ⟨c59, m_7⟩ =>
    cond c59 (
      finM m0.h.length (tupA [(.b false)]) m_7) (
      forceB (ltI x22 x24) fun c62 =>
      bindO (evP .e (.len true (.c (.s s28)))) fun v64 =>
      asI .i64 v64 fun x64 =>
      bindO (evP .e (.len true (.c (.s s33)))) fun v66 =>
      asI .i64 v66 fun x66 =>
      forceB (ltI x64 x66) fun c67 =>
      bindO (cond c67 (
        some true) (
        bindO (evP .e (.len true (.c (.s s28)))) fun v70 =>
        asI .i64 v70 fun x70 =>
        bindO (evP .e (.len true (.c (.s s33)))) fun v72 =>
        asI .i64 v72 fun x72 =>
        forceB (eqI x70 x72) fun c73 =>
        bindO (cond c73 (
          bindO (evP .e (.sbin BinOp.lss (.c (.s s28)) (.c (.s s33)))) fun v77 =>
          asB v77 fun c77 =>
          some c77) (
          some false)) fun c79_1 =>
        some c79_1)) fun c79 =>
      forceB (!(c62 == c79)) fun c80 =>
      cond c80 (
        finM m0.h.length (tupA [(.b false)]) m_7) (
        bindP (callM M.call m_7 21 [(.s s2)]) fun v83 m_9 =>
        bindO (evP .e (.ext 0 (.c v83))) fun v84 =>
        asI .i64 v84 fun x84 =>
        bindO (evP .e (.ext 1 (.c v83))) fun v85 =>
        asI .i64 v85 fun x85 =>
        forceB (!eqI x85 0) fun c87 =>
        cond c87 (
          forceB (eqI x84 0) fun c89 =>
          bindO (cond c89 (
            forceB (eqI x85 5) fun c92 =>
            bindP (callM M.call m_9 46 [(.s s2)]) fun v94 m_11 =>
            asB v94 fun c94 =>
            forceB (!c94) fun c95 =>
            forceB (c92 == c95) fun c96 =>
            some (c96, m_11)) (
            some (false, m_9))) fun ⟨c97, m_10⟩ =>
          bindO (cond c97 (
            bindP (callM M.call m_10 18 []) fun v99 m_13 =>
            asB v99 fun c99 =>
            some (c99, m_13)) (
            some (false, m_10))) fun ⟨c100, m_12⟩ =>
          finM m0.h.length (tupA [(.b c100)]) m_12) (
          bindP (callM M.call m_9 19 [(.i .i64 x84)]) fun v103 m_14 =>
          bindO (evP .e (.ext 0 (.c v103))) fun v104 =>
          asS v104 fun s104 =>
          bindO (evP .e (.ext 1 (.c v103))) fun v105 =>
          asI .i64 v105 fun x105 =>
          forceB (eqI x105 0) fun c107 =>
          bindO (cond c107 (
            bindO (evP .e (.sbin BinOp.eql (.c (.s s104)) (.c (.s s2)))) fun v111 =>
            asB v111 fun c111 =>
            some c111) (
            some false)) fun c112 =>
          bindO (cond c112 (
            bindP (callM M.call m_14 18 []) fun v114 m_16 =>
            asB v114 fun c114 =>
            some (c114, m_16)) (
            some (false, m_14))) fun ⟨c115, m_15⟩ =>
          finM m0.h.length (tupA [(.b c115)]) m_15))))

theorem g10_ok {ro : List ABlk} {O : Caller} {M : Means} (hM : M.Ok ⟨F, O⟩ ro) {x0 x1 s2 h r} (ho : O 10 [(.i .u64 x0), (.i .u64 x1), (.s s2)] h = none) (hr : g10 M ro x0 x1 s2 ⟨h, h.length, h.length⟩ = some r) : callX ⟨F, O⟩ ro 10 [(.i .u64 x0), (.i .u64 x1), (.s s2)] h = some r := by
  refine callX_of (F := ⟨F, O⟩) (fn := fn10) (g := g10 M ro x0 x1 s2) ho rfl rfl hr ?_
  clear ho
  clear hr
  intro m0 t0 ht hr
  have g0 : t0.get 0 = (.i .u64 x0) := ht 0
  have g1 : t0.get 1 = (.i .u64 x1) := ht 1
  have g2 : t0.get 2 = (.s s2) := ht 2
  clear ht
  unfold g10 at hr
  refine w_seq ?_
  refine w_ops ?_
  refine wo_step (v := (.b false)) (s_pure (p_mv rfl)) ?_
  refine wo_nil ?_
  refine nx_norm ?_
  refine w_seq ?_
  refine w_seq ?_
  refine w_ops ?_
  refine wo_step (v := (.s s2)) (s_pure (p_mv g2)) ?_
  have hq := bindO_inv hr
  clear hr
  obtain ⟨v18, e18, hr⟩ := hq
  have hq := asI_inv hr
  clear hr
  obtain ⟨x18, rfl, hr⟩ := hq
  refine wo_step (v := (.i .i64 x18)) (s_pure (o_len rfl e18)) ?_
  have hq := forceB_inv hr
  clear hr
  obtain ⟨c19, e19, hr⟩ := hq
  refine wo_step (v := (.b c19)) (s_pure (p_bin rfl rfl (b_gtr.trans (cb e19)))) ?_
  refine wo_nil ?_
  refine nx_norm ?_
  have hq := cond_inv hr
  clear hr
  rcases hq with ⟨rfl, hr⟩ | ⟨rfl, hr⟩
  · refine w_condT rfl ?_
    refine w_seq ?_
    refine w_ops ?_
    have hq := bindP_inv hr
    clear hr
    obtain ⟨v20, m_1, e20, hr⟩ := hq
    have hq := asB_inv hr
    clear hr
    obtain ⟨c20, rfl, hr⟩ := hq
    refine wo_step (v := (.b c20)) (s_call mn (callM_le hM.call e20)) ?_
    refine wo_step (v := (.b c20)) (s_pure (p_mv rfl)) ?_
    refine wo_nil ?_
    refine nx_norm ?_
    refine w_ret ?_
    refine nx_ret ?_
    exact qf ret_ok (rt rfl rn) hr
  · refine w_condF rfl ?_
    refine w_skip ?_
    refine nx_norm ?_
    refine w_seq ?_
    refine w_ops ?_
    refine wo_step (v := (.i .u64 x0)) (s_pure (p_mv g0)) ?_
    have hq := bindP_inv hr
    clear hr
    obtain ⟨v22, m_2, e22, hr⟩ := hq
    have hq := asI_inv hr
    clear hr
    obtain ⟨x22, rfl, hr⟩ := hq
    refine wo_step (v := (.i .i64 x22)) (s_call (mc rfl mn) (callM_le hM.call e22)) ?_
    refine wo_step (v := (.i .u64 x1)) (s_pure (p_mv g1)) ?_
    have hq := bindP_inv hr
    clear hr
    obtain ⟨v24, m_3, e24, hr⟩ := hq
    have hq := asI_inv hr
    clear hr
    obtain ⟨x24, rfl, hr⟩ := hq
    refine wo_step (v := (.i .i64 x24)) (s_call (mc rfl mn) (callM_le hM.call e24)) ?_
    refine wo_step (v := (.i .i64 x22)) (s_pure (p_mv rfl)) ?_
    refine wo_step (v := (.i .i64 x24)) (s_pure (p_mv rfl)) ?_
    refine wo_nil ?_
    refine nx_norm ?_
    refine w_seq ?_
    refine w_ops ?_
    refine wo_step (v := (.i .i64 x22)) (s_pure (p_mv rfl)) ?_
    have hq := bindP_inv hr
    clear hr
    obtain ⟨v27, m_4, e27, hr⟩ := hq
    refine wo_step (v := v27) (s_call (mc rfl mn) (callM_le hM.call e27)) ?_
    refine wo_step (v := v27) (s_pure (p_mv rfl)) ?_
    have hq := bindO_inv hr
    clear hr
    obtain ⟨v28, e28, hr⟩ := hq
    have hq := asS_inv hr
    clear hr
    obtain ⟨s28, rfl, hr⟩ := hq
    refine wo_step (v := (.s s28)) (s_pure (o_ext rfl e28)) ?_
    have hq := bindO_inv hr
    clear hr
    obtain ⟨v29, e29, hr⟩ := hq
    have hq := asI_inv hr
    clear hr
    obtain ⟨x29, rfl, hr⟩ := hq
    refine wo_step (v := (.i .i64 x29)) (s_pure (o_ext rfl e29)) ?_
    refine wo_step (v := (.s s28)) (s_pure (p_mv rfl)) ?_
    refine wo_step (v := (.i .i64 x29)) (s_pure (p_mv rfl)) ?_
    refine wo_nil ?_
    refine nx_norm ?_
    refine w_seq ?_
    refine w_ops ?_
    refine wo_step (v := (.i .i64 x24)) (s_pure (p_mv rfl)) ?_
    have hq := bindP_inv hr
    clear hr
    obtain ⟨v32, m_5, e32, hr⟩ := hq
    refine wo_step (v := v32) (s_call (mc rfl mn) (callM_le hM.call e32)) ?_
    refine wo_step (v := v32) (s_pure (p_mv rfl)) ?_
    have hq := bindO_inv hr
    clear hr
    obtain ⟨v33, e33, hr⟩ := hq
    have hq := asS_inv hr
    clear hr
    obtain ⟨s33, rfl, hr⟩ := hq
    refine wo_step (v := (.s s33)) (s_pure (o_ext rfl e33)) ?_
    have hq := bindO_inv hr
    clear hr
    obtain ⟨v34, e34, hr⟩ := hq
    have hq := asI_inv hr
    clear hr
    obtain ⟨x34, rfl, hr⟩ := hq
    refine wo_step (v := (.i .i64 x34)) (s_pure (o_ext rfl e34)) ?_
    refine wo_step (v := (.s s33)) (s_pure (p_mv rfl)) ?_
    refine wo_step (v := (.i .i64 x34)) (s_pure (p_mv rfl)) ?_
    refine wo_nil ?_
    refine nx_norm ?_
    refine w_seq ?_
    refine w_ops ?_
    refine wo_step (v := (.s s28)) (s_pure (p_mv rfl)) ?_
    have hq := bindP_inv hr
    clear hr
    obtain ⟨v37, m_6, e37, hr⟩ := hq
    refine wo_step (v := v37) (s_call (mc rfl mn) (callM_le hM.call e37)) ?_
    refine wo_step (v := v37) (s_pure (p_mv rfl)) ?_
    have hq := bindO_inv hr
    clear hr
    obtain ⟨v38, e38, hr⟩ := hq
    have hq := asI_inv hr
    clear hr
    obtain ⟨x38, rfl, hr⟩ := hq
    refine wo_step (v := (.i .i64 x38)) (s_pure (o_ext rfl e38)) ?_
    have hq := bindO_inv hr
    clear hr
    obtain ⟨v39, e39, hr⟩ := hq
    have hq := asI_inv hr
    clear hr
    obtain ⟨x39, rfl, hr⟩ := hq
    refine wo_step (v := (.i .i64 x39)) (s_pure (o_ext rfl e39)) ?_
    refine wo_step (v := (.i .i64 x38)) (s_pure (p_mv rfl)) ?_
    refine wo_step (v := (.i .i64 x39)) (s_pure (p_mv rfl)) ?_
    refine wo_nil ?_
    refine nx_norm ?_
    refine w_seq ?_
    refine w_seq ?_
    refine w_ops ?_
    refine wo_step (v := (.i .i64 x29)) (s_pure (p_mv rfl)) ?_
    have hq := forceB_inv hr
    clear hr
    obtain ⟨c41, e41, hr⟩ := hq
    refine wo_step (v := (.b c41)) (s_pure (p_bin rfl rfl (b_neq.trans (cb e41)))) ?_
    refine wo_step (v := (.b c41)) (s_pure (p_mv rfl)) ?_
    have hq := bindO_inv hr
    clear hr
    obtain ⟨o, hr, hk⟩ := hq
    refine wo_join 3 (g10_J0 s2 x22 x24 s28 s33 x38 x39 m_6 o) ?_ ?_
    · clear hk
      have hq := cond_inv hr
      clear hr
      rcases hq with ⟨rfl, hr⟩ | ⟨rfl, hr⟩
      · refine wo_skip (v := (.b true)) rfl rfl ?_
        refine wo_skip (v := (.b true)) rfl rfl ?_
        refine wo_step (v := (.b true)) (s_pure (p_pickT rfl rfl)) ?_
        refine wo_nil ?_
        cases hr
        exact ⟨_, _, rfl, rfl, gl rfl, gl g2, gl rfl, gl rfl, gl rfl, gl rfl, gl rfl, gl rfl⟩
      · refine wo_take (v := (.i .i64 x34)) rfl (s_pure (p_mv rfl)) ?_
        have hq := forceB_inv hr
        clear hr
        obtain ⟨c44, e44, hr⟩ := hq
        refine wo_take (v := (.b c44)) rfl (s_pure (p_bin rfl rfl (b_neq.trans (cb e44)))) ?_
        refine wo_step (v := (.b c44)) (s_pure (p_pickF rfl rfl)) ?_
        refine wo_nil ?_
        cases hr
        exact ⟨_, _, rfl, rfl, gl rfl, gl g2, gl rfl, gl rfl, gl rfl, gl rfl, gl rfl, gl rfl⟩
    · clear hr
      have hr := hk
      clear hk
      obtain ⟨c45, ho⟩ : ∃ z, z = o := ⟨_, rfl⟩
      subst ho
      rintro mm t_1 ⟨rfl, g45, g2, g7, g8, g9, g11, g13, g14⟩
      refine wo_step (v := (.b c45)) (s_pure (p_mv g45)) ?_
      have hq := bindO_inv hr
      clear hr
      obtain ⟨o_1, hr, hk⟩ := hq
      refine wo_join 3 (g10_J1 s2 x22 x24 s28 s33 x38 m_6 o_1) ?_ ?_
      · clear hk
        have hq := cond_inv hr
        clear hr
        rcases hq with ⟨rfl, hr⟩ | ⟨rfl, hr⟩
        · refine wo_skip (v := (.b true)) rfl rfl ?_
          refine wo_skip (v := (.b true)) rfl rfl ?_
          refine wo_step (v := (.b true)) (s_pure (p_pickT rfl rfl)) ?_
          refine wo_nil ?_
          cases hr
          exact ⟨_, _, rfl, rfl, gl rfl, gl g2, gl g7, gl g8, gl g9, gl g11, gl g13⟩
        · refine wo_take (v := (.i .i64 x39)) rfl (s_pure (p_mv g14)) ?_
          have hq := forceB_inv hr
          clear hr
          obtain ⟨c48, e48, hr⟩ := hq
          refine wo_take (v := (.b c48)) rfl (s_pure (p_bin rfl rfl (b_neq.trans (cb e48)))) ?_
          refine wo_step (v := (.b c48)) (s_pure (p_pickF rfl rfl)) ?_
          refine wo_nil ?_
          cases hr
          exact ⟨_, _, rfl, rfl, gl rfl, gl g2, gl g7, gl g8, gl g9, gl g11, gl g13⟩
      · clear hr
        have hr := hk
        clear hk
        obtain ⟨c49, ho⟩ : ∃ z, z = o_1 := ⟨_, rfl⟩
        subst ho
        rintro mm_1 t_2 ⟨rfl, g49, g2, g7, g8, g9, g11, g13⟩
        refine wo_step (v := (.b c49)) (s_pure (p_mv g49)) ?_
        have hq := bindO_inv hr
        clear hr
        obtain ⟨o_2, hr, hk⟩ := hq
        refine wo_join 4 (g10_J2 s2 x22 x24 s28 s33 m_6 o_2) ?_ ?_
        · clear hk
          have hq := cond_inv hr
          clear hr
          rcases hq with ⟨rfl, hr⟩ | ⟨rfl, hr⟩
          · refine wo_skip (v := (.b true)) rfl rfl ?_
            refine wo_skip (v := (.b true)) rfl rfl ?_
            refine wo_skip (v := (.b true)) rfl rfl ?_
            refine wo_step (v := (.b true)) (s_pure (p_pickT rfl rfl)) ?_
            refine wo_nil ?_
            cases hr
            exact ⟨_, _, rfl, rfl, gl rfl, gl g2, gl g7, gl g8, gl g9, gl g11⟩
          · refine wo_take (v := (.i .i64 x38)) rfl (s_pure (p_mv g13)) ?_
            refine wo_take (v := (.i .i64 x22)) rfl (s_pure (p_mv g7)) ?_
            have hq := forceB_inv hr
            clear hr
            obtain ⟨c53, e53, hr⟩ := hq
            refine wo_take (v := (.b c53)) rfl (s_pure (p_bin rfl rfl (b_neq.trans (cb e53)))) ?_
            refine wo_step (v := (.b c53)) (s_pure (p_pickF rfl rfl)) ?_
            refine wo_nil ?_
            cases hr
            exact ⟨_, _, rfl, rfl, gl rfl, gl g2, gl g7, gl g8, gl g9, gl g11⟩
        · clear hr
          have hr := hk
          clear hk
          obtain ⟨c54, ho⟩ : ∃ z, z = o_2 := ⟨_, rfl⟩
          subst ho
          rintro mm_2 t_3 ⟨rfl, g54, g2, g7, g8, g9, g11⟩
          refine wo_step (v := (.b c54)) (s_pure (p_mv g54)) ?_
          have hq := bindO_inv hr
          clear hr
          obtain ⟨o_3, hr, hk⟩ := hq
          refine wo_join 4 (g10_J3 s2 x22 x24 s28 s33 o_3) ?_ ?_
          · clear hk
            have hq := cond_inv hr
            clear hr
            rcases hq with ⟨rfl, hr⟩ | ⟨rfl, hr⟩
            · refine wo_skip (v := (.b true)) rfl rfl ?_
              refine wo_skip (v := (.b true)) rfl rfl ?_
              refine wo_skip (v := (.b true)) rfl rfl ?_
              refine wo_step (v := (.b true)) (s_pure (p_pickT rfl rfl)) ?_
              refine wo_nil ?_
              cases hr
              exact ⟨_, _, rfl, rfl, gl rfl, gl g2, gl g7, gl g8, gl g9, gl g11⟩
            · refine wo_take (v := (.s s28)) rfl (s_pure (p_mv g9)) ?_
              have hq := bindP_inv hr
              clear hr
              obtain ⟨v57, m_8, e57, hr⟩ := hq
              have hq := asB_inv hr
              clear hr
              obtain ⟨c57, rfl, hr⟩ := hq
              refine wo_take (v := (.b c57)) rfl (s_call (mc rfl mn) (callM_le hM.call e57)) ?_
              have hq := forceB_inv hr
              clear hr
              obtain ⟨c58, e58, hr⟩ := hq
              refine wo_take (v := (.b c58)) rfl (s_pure ((p_not rfl).trans (cb e58))) ?_
              refine wo_step (v := (.b c58)) (s_pure (p_pickF rfl rfl)) ?_
              refine wo_nil ?_
              cases hr
              exact ⟨_, _, rfl, rfl, gl rfl, gl g2, gl g7, gl g8, gl g9, gl g11⟩
          · clear hr
            have hr := hk
            clear hk
            obtain ⟨c59, m_7⟩ := o_3
            rintro mm_3 t_4 ⟨rfl, g59, g2, g7, g8, g9, g11⟩
            refine wo_nil ?_
            refine nx_norm ?_
            have hq := cond_inv hr
            clear hr
            rcases hq with ⟨rfl, hr⟩ | ⟨rfl, hr⟩
            · refine w_condT g59 ?_
              refine w_seq ?_
              refine w_ops ?_
              refine wo_step (v := (.b false)) (s_pure (p_mv rfl)) ?_
              refine wo_nil ?_
              refine nx_norm ?_
              refine w_ret ?_
              refine nx_ret ?_
              exact qf ret_ok (rt rfl rn) hr
            · refine w_condF g59 ?_
              refine w_skip ?_
              refine nx_norm ?_
              refine w_seq ?_
              refine w_seq ?_
              refine w_ops ?_
              refine wo_step (v := (.i .i64 x22)) (s_pure (p_mv g7)) ?_
              refine wo_step (v := (.i .i64 x24)) (s_pure (p_mv g8)) ?_
              have hq := forceB_inv hr
              clear hr
              obtain ⟨c62, e62, hr⟩ := hq
              refine wo_step (v := (.b c62)) (s_pure (p_bin rfl rfl (b_lss.trans (cb e62)))) ?_
              refine wo_step (v := (.s s28)) (s_pure (p_mv g9)) ?_
              have hq := bindO_inv hr
              clear hr
              obtain ⟨v64, e64, hr⟩ := hq
              have hq := asI_inv hr
              clear hr
              obtain ⟨x64, rfl, hr⟩ := hq
              refine wo_step (v := (.i .i64 x64)) (s_pure (o_len rfl e64)) ?_
              refine wo_step (v := (.s s33)) (s_pure (p_mv g11)) ?_
              have hq := bindO_inv hr
              clear hr
              obtain ⟨v66, e66, hr⟩ := hq
              have hq := asI_inv hr
              clear hr
              obtain ⟨x66, rfl, hr⟩ := hq
              refine wo_step (v := (.i .i64 x66)) (s_pure (o_len rfl e66)) ?_
              have hq := forceB_inv hr
              clear hr
              obtain ⟨c67, e67, hr⟩ := hq
              refine wo_step (v := (.b c67)) (s_pure (p_bin rfl rfl (b_lss.trans (cb e67)))) ?_
              refine wo_step (v := (.b c67)) (s_pure (p_mv rfl)) ?_
              have hq := bindO_inv hr
              clear hr
              obtain ⟨o_4, hr, hk⟩ := hq
              refine wo_join 11 (g10_J4 s2 c62 m_7 o_4) ?_ ?_
              · clear hk
                have hq := cond_inv hr
                clear hr
                rcases hq with ⟨rfl, hr⟩ | ⟨rfl, hr⟩
                · refine wo_skip (v := (.b true)) rfl rfl ?_
                  refine wo_skip (v := (.b true)) rfl rfl ?_
                  refine wo_skip (v := (.b true)) rfl rfl ?_
                  refine wo_skip (v := (.b true)) rfl rfl ?_
                  refine wo_skip (v := (.b true)) rfl rfl ?_
                  refine wo_skip (v := (.b true)) rfl rfl ?_
                  refine wo_skip (v := und) rfl rfl ?_
                  refine wo_skip (v := und) rfl rfl ?_
                  refine wo_skip (v := und) rfl rfl ?_
                  refine wo_skip (v := (.b true)) rfl rfl ?_
                  refine wo_step (v := (.b true)) (s_pure (p_pickT rfl rfl)) ?_
                  refine wo_nil ?_
                  cases hr
                  exact ⟨_, _, rfl, rfl, gl rfl, gl g2, gl rfl⟩
                · refine wo_take (v := (.s s28)) rfl (s_pure (p_mv g9)) ?_
                  have hq := bindO_inv hr
                  clear hr
                  obtain ⟨v70, e70, hr⟩ := hq
                  have hq := asI_inv hr
                  clear hr
                  obtain ⟨x70, rfl, hr⟩ := hq
                  refine wo_take (v := (.i .i64 x70)) rfl (s_pure (o_len rfl e70)) ?_
                  refine wo_take (v := (.s s33)) rfl (s_pure (p_mv g11)) ?_
                  have hq := bindO_inv hr
                  clear hr
                  obtain ⟨v72, e72, hr⟩ := hq
                  have hq := asI_inv hr
                  clear hr
                  obtain ⟨x72, rfl, hr⟩ := hq
                  refine wo_take (v := (.i .i64 x72)) rfl (s_pure (o_len rfl e72)) ?_
                  have hq := forceB_inv hr
                  clear hr
                  obtain ⟨c73, e73, hr⟩ := hq
                  refine wo_take (v := (.b c73)) rfl (s_pure (p_bin rfl rfl (b_eql.trans (cb e73)))) ?_
                  refine wo_take (v := (.b c73)) rfl (s_pure (p_mv rfl)) ?_
                  have hq := bindO_inv hr
                  clear hr
                  obtain ⟨o_5, hr, hk⟩ := hq
                  refine wo_join 5 (g10_J5 s2 c62 m_7 o_5) ?_ ?_
                  · clear hk
                    have hq := cond_inv hr
                    clear hr
                    rcases hq with ⟨rfl, hr⟩ | ⟨rfl, hr⟩
                    · refine wo_take (v := (.s s28)) rfl (s_pure (p_mv g9)) ?_
                      refine wo_take (v := (.s s33)) rfl (s_pure (p_mv g11)) ?_
                      have hq := bindO_inv hr
                      clear hr
                      obtain ⟨v77, e77, hr⟩ := hq
                      have hq := asB_inv hr
                      clear hr
                      obtain ⟨c77, rfl, hr⟩ := hq
                      refine wo_take (v := (.b c77)) rfl (s_pure (o_sbin rfl rfl e77)) ?_
                      refine wo_take (v := (.b c77)) rfl (s_pure (p_pickT rfl rfl)) ?_
                      refine wo_step (v := (.b c77)) (s_pure (p_pickF rfl rfl)) ?_
                      refine wo_nil ?_
                      cases hr
                      exact ⟨_, _, rfl, rfl, gl rfl, gl g2, gl rfl⟩
                    · refine wo_skip (v := (.b false)) rfl rfl ?_
                      refine wo_skip (v := (.b false)) rfl rfl ?_
                      refine wo_skip (v := (.b false)) rfl rfl ?_
                      refine wo_take (v := (.b false)) rfl (s_pure (p_pickF rfl rfl)) ?_
                      refine wo_step (v := (.b false)) (s_pure (p_pickF rfl rfl)) ?_
                      refine wo_nil ?_
                      cases hr
                      exact ⟨_, _, rfl, rfl, gl rfl, gl g2, gl rfl⟩
                  · clear hr
                    have hr := hk
                    clear hk
                    obtain ⟨c79_1, ho⟩ : ∃ z, z = o_5 := ⟨_, rfl⟩
                    subst ho
                    rintro mm_4 t_5 ⟨rfl, g79, g2, g62⟩
                    refine wo_nil ?_
                    cases hr
                    exact ⟨_, _, rfl, rfl, gl g79, gl g2, gl g62⟩
              · clear hr
                have hr := hk
                clear hk
                obtain ⟨c79, ho⟩ : ∃ z, z = o_4 := ⟨_, rfl⟩
                subst ho
                rintro mm_5 t_6 ⟨rfl, g79, g2, g62⟩
                have hq := forceB_inv hr
                clear hr
                obtain ⟨c80, e80, hr⟩ := hq
                refine wo_step (v := (.b c80)) (s_pure (Eq.trans (p_beq g62 g79) (cb e80))) ?_
                refine wo_nil ?_
                refine nx_norm ?_
                have hq := cond_inv hr
                clear hr
                rcases hq with ⟨rfl, hr⟩ | ⟨rfl, hr⟩
                · refine w_condT rfl ?_
                  refine w_seq ?_
                  refine w_ops ?_
                  refine wo_step (v := (.b false)) (s_pure (p_mv rfl)) ?_
                  refine wo_nil ?_
                  refine nx_norm ?_
                  refine w_ret ?_
                  refine nx_ret ?_
                  exact qf ret_ok (rt rfl rn) hr
                · refine w_condF rfl ?_
                  refine w_skip ?_
                  refine nx_norm ?_
                  refine w_seq ?_
                  refine w_ops ?_
                  refine wo_step (v := (.s s2)) (s_pure (p_mv g2)) ?_
                  have hq := bindP_inv hr
                  clear hr
                  obtain ⟨v83, m_9, e83, hr⟩ := hq
                  refine wo_step (v := v83) (s_call (mc rfl mn) (callM_le hM.call e83)) ?_
                  refine wo_step (v := v83) (s_pure (p_mv rfl)) ?_
                  have hq := bindO_inv hr
                  clear hr
                  obtain ⟨v84, e84, hr⟩ := hq
                  have hq := asI_inv hr
                  clear hr
                  obtain ⟨x84, rfl, hr⟩ := hq
                  refine wo_step (v := (.i .i64 x84)) (s_pure (o_ext rfl e84)) ?_
                  have hq := bindO_inv hr
                  clear hr
                  obtain ⟨v85, e85, hr⟩ := hq
                  have hq := asI_inv hr
                  clear hr
                  obtain ⟨x85, rfl, hr⟩ := hq
                  refine wo_step (v := (.i .i64 x85)) (s_pure (o_ext rfl e85)) ?_
                  refine wo_step (v := (.i .i64 x84)) (s_pure (p_mv rfl)) ?_
                  refine wo_step (v := (.i .i64 x85)) (s_pure (p_mv rfl)) ?_
                  refine wo_nil ?_
                  refine nx_norm ?_
                  refine w_seq ?_
                  refine w_seq ?_
                  refine w_ops ?_
                  refine wo_step (v := (.i .i64 x85)) (s_pure (p_mv rfl)) ?_
                  have hq := forceB_inv hr
                  clear hr
                  obtain ⟨c87, e87, hr⟩ := hq
                  refine wo_step (v := (.b c87)) (s_pure (p_bin rfl rfl (b_neq.trans (cb e87)))) ?_
                  refine wo_nil ?_
                  refine nx_norm ?_
                  have hq := cond_inv hr
                  clear hr
                  rcases hq with ⟨rfl, hr⟩ | ⟨rfl, hr⟩
                  · refine w_condT rfl ?_
                    refine w_seq ?_
                    refine w_ops ?_
                    refine wo_step (v := (.i .i64 x84)) (s_pure (p_mv rfl)) ?_
                    have hq := forceB_inv hr
                    clear hr
                    obtain ⟨c89, e89, hr⟩ := hq
                    refine wo_step (v := (.b c89)) (s_pure (p_bin rfl rfl (b_eql.trans (cb e89)))) ?_
                    refine wo_step (v := (.b c89)) (s_pure (p_mv rfl)) ?_
                    have hq := bindO_inv hr
                    clear hr
                    obtain ⟨o_6, hr, hk⟩ := hq
                    refine wo_join 7 (g10_J6  o_6) ?_ ?_
                    · clear hk
                      have hq := cond_inv hr
                      clear hr
                      rcases hq with ⟨rfl, hr⟩ | ⟨rfl, hr⟩
                      · refine wo_take (v := (.i .i64 x85)) rfl (s_pure (p_mv rfl)) ?_
                        have hq := forceB_inv hr
                        clear hr
                        obtain ⟨c92, e92, hr⟩ := hq
                        refine wo_take (v := (.b c92)) rfl (s_pure (p_bin rfl rfl (b_eql.trans (cb e92)))) ?_
                        refine wo_take (v := (.s s2)) rfl (s_pure (p_mv g2)) ?_
                        have hq := bindP_inv hr
                        clear hr
                        obtain ⟨v94, m_11, e94, hr⟩ := hq
                        have hq := asB_inv hr
                        clear hr
                        obtain ⟨c94, rfl, hr⟩ := hq
                        refine wo_take (v := (.b c94)) rfl (s_call (mc rfl mn) (callM_le hM.call e94)) ?_
                        have hq := forceB_inv hr
                        clear hr
                        obtain ⟨c95, e95, hr⟩ := hq
                        refine wo_take (v := (.b c95)) rfl (s_pure ((p_not rfl).trans (cb e95))) ?_
                        have hq := forceB_inv hr
                        clear hr
                        obtain ⟨c96, e96, hr⟩ := hq
                        refine wo_take (v := (.b c96)) rfl (s_pure (Eq.trans (p_beq rfl rfl) (cb e96))) ?_
                        refine wo_step (v := (.b c96)) (s_pure (p_pickT rfl rfl)) ?_
                        refine wo_nil ?_
                        cases hr
                        exact ⟨_, _, rfl, rfl, gl rfl⟩
                      · refine wo_skip (v := (.b false)) rfl rfl ?_
                        refine wo_skip (v := (.b false)) rfl rfl ?_
                        refine wo_skip (v := (.b false)) rfl rfl ?_
                        refine wo_skip (v := (.b false)) rfl rfl ?_
                        refine wo_skip (v := (.b false)) rfl rfl ?_
                        refine wo_skip (v := (.b false)) rfl rfl ?_
                        refine wo_step (v := (.b false)) (s_pure (p_pickF rfl rfl)) ?_
                        refine wo_nil ?_
                        cases hr
                        exact ⟨_, _, rfl, rfl, gl rfl⟩
                    · clear hr
                      have hr := hk
                      clear hk
                      obtain ⟨c97, m_10⟩ := o_6
                      rintro mm_6 t_7 ⟨rfl, g97⟩
                      refine wo_step (v := (.b c97)) (s_pure (p_mv g97)) ?_
                      have hq := bindO_inv hr
                      clear hr
                      obtain ⟨o_7, hr, hk⟩ := hq
                      refine wo_join 2 (g10_J7  o_7) ?_ ?_
                      · clear hk
                        have hq := cond_inv hr
                        clear hr
                        rcases hq with ⟨rfl, hr⟩ | ⟨rfl, hr⟩
                        · have hq := bindP_inv hr
                          clear hr
                          obtain ⟨v99, m_13, e99, hr⟩ := hq
                          have hq := asB_inv hr
                          clear hr
                          obtain ⟨c99, rfl, hr⟩ := hq
                          refine wo_take (v := (.b c99)) rfl (s_call mn (callM_le hM.call e99)) ?_
                          refine wo_step (v := (.b c99)) (s_pure (p_pickT rfl rfl)) ?_
                          refine wo_nil ?_
                          cases hr
                          exact ⟨_, _, rfl, rfl, gl rfl⟩
                        · refine wo_skip (v := (.b false)) rfl rfl ?_
                          refine wo_step (v := (.b false)) (s_pure (p_pickF rfl rfl)) ?_
                          refine wo_nil ?_
                          cases hr
                          exact ⟨_, _, rfl, rfl, gl rfl⟩
                      · clear hr
                        have hr := hk
                        clear hk
                        obtain ⟨c100, m_12⟩ := o_7
                        rintro mm_7 t_8 ⟨rfl, g100⟩
                        refine wo_step (v := (.b c100)) (s_pure (p_mv g100)) ?_
                        refine wo_nil ?_
                        refine nx_norm ?_
                        refine w_ret ?_
                        refine nx_ret ?_
                        exact qf ret_ok (rt rfl rn) hr
                  · refine w_condF rfl ?_
                    refine w_skip ?_
                    refine nx_norm ?_
                    refine w_seq ?_
                    refine w_ops ?_
                    refine wo_step (v := (.i .i64 x84)) (s_pure (p_mv rfl)) ?_
                    have hq := bindP_inv hr
                    clear hr
                    obtain ⟨v103, m_14, e103, hr⟩ := hq
                    refine wo_step (v := v103) (s_call (mc rfl mn) (callM_le hM.call e103)) ?_
                    refine wo_step (v := v103) (s_pure (p_mv rfl)) ?_
                    have hq := bindO_inv hr
                    clear hr
                    obtain ⟨v104, e104, hr⟩ := hq
                    have hq := asS_inv hr
                    clear hr
                    obtain ⟨s104, rfl, hr⟩ := hq
                    refine wo_step (v := (.s s104)) (s_pure (o_ext rfl e104)) ?_
                    have hq := bindO_inv hr
                    clear hr
                    obtain ⟨v105, e105, hr⟩ := hq
                    have hq := asI_inv hr
                    clear hr
                    obtain ⟨x105, rfl, hr⟩ := hq
                    refine wo_step (v := (.i .i64 x105)) (s_pure (o_ext rfl e105)) ?_
                    refine wo_step (v := (.s s104)) (s_pure (p_mv rfl)) ?_
                    refine wo_step (v := (.i .i64 x105)) (s_pure (p_mv rfl)) ?_
                    refine wo_nil ?_
                    refine nx_norm ?_
                    refine w_seq ?_
                    refine w_ops ?_
                    refine wo_step (v := (.i .i64 x105)) (s_pure (p_mv rfl)) ?_
                    have hq := forceB_inv hr
                    clear hr
                    obtain ⟨c107, e107, hr⟩ := hq
                    refine wo_step (v := (.b c107)) (s_pure (p_bin rfl rfl (b_eql.trans (cb e107)))) ?_
                    refine wo_step (v := (.b c107)) (s_pure (p_mv rfl)) ?_
                    have hq := bindO_inv hr
                    clear hr
                    obtain ⟨o_8, hr, hk⟩ := hq
                    refine wo_join 4 (g10_J8 m_14 o_8) ?_ ?_
                    · clear hk
                      have hq := cond_inv hr
                      clear hr
                      rcases hq with ⟨rfl, hr⟩ | ⟨rfl, hr⟩
                      · refine wo_take (v := (.s s104)) rfl (s_pure (p_mv rfl)) ?_
                        refine wo_take (v := (.s s2)) rfl (s_pure (p_mv g2)) ?_
                        have hq := bindO_inv hr
                        clear hr
                        obtain ⟨v111, e111, hr⟩ := hq
                        have hq := asB_inv hr
                        clear hr
                        obtain ⟨c111, rfl, hr⟩ := hq
                        refine wo_take (v := (.b c111)) rfl (s_pure (o_sbin rfl rfl e111)) ?_
                        refine wo_step (v := (.b c111)) (s_pure (p_pickT rfl rfl)) ?_
                        refine wo_nil ?_
                        cases hr
                        exact ⟨_, _, rfl, rfl, gl rfl⟩
                      · refine wo_skip (v := (.b false)) rfl rfl ?_
                        refine wo_skip (v := (.b false)) rfl rfl ?_
                        refine wo_skip (v := (.b false)) rfl rfl ?_
                        refine wo_step (v := (.b false)) (s_pure (p_pickF rfl rfl)) ?_
                        refine wo_nil ?_
                        cases hr
                        exact ⟨_, _, rfl, rfl, gl rfl⟩
                    · clear hr
                      have hr := hk
                      clear hk
                      obtain ⟨c112, ho⟩ : ∃ z, z = o_8 := ⟨_, rfl⟩
                      subst ho
                      rintro mm_8 t_9 ⟨rfl, g112⟩
                      refine wo_step (v := (.b c112)) (s_pure (p_mv g112)) ?_
                      have hq := bindO_inv hr
                      clear hr
                      obtain ⟨o_9, hr, hk⟩ := hq
                      refine wo_join 2 (g10_J9  o_9) ?_ ?_
                      · clear hk
                        have hq := cond_inv hr
                        clear hr
                        rcases hq with ⟨rfl, hr⟩ | ⟨rfl, hr⟩
                        · have hq := bindP_inv hr
                          clear hr
                          obtain ⟨v114, m_16, e114, hr⟩ := hq
                          have hq := asB_inv hr
                          clear hr
                          obtain ⟨c114, rfl, hr⟩ := hq
                          refine wo_take (v := (.b c114)) rfl (s_call mn (callM_le hM.call e114)) ?_
                          refine wo_step (v := (.b c114)) (s_pure (p_pickT rfl rfl)) ?_
                          refine wo_nil ?_
                          cases hr
                          exact ⟨_, _, rfl, rfl, gl rfl⟩
                        · refine wo_skip (v := (.b false)) rfl rfl ?_
                          refine wo_step (v := (.b false)) (s_pure (p_pickF rfl rfl)) ?_
                          refine wo_nil ?_
                          cases hr
                          exact ⟨_, _, rfl, rfl, gl rfl⟩
                      · clear hr
                        have hr := hk
                        clear hk
                        obtain ⟨c115, m_15⟩ := o_9
                        rintro mm_9 t_10 ⟨rfl, g115⟩
                        refine wo_step (v := (.b c115)) (s_pure (p_mv g115)) ?_
                        refine wo_nil ?_
                        refine nx_norm ?_
                        refine w_ret ?_
                        exact qf ret_ok (rt rfl rn) hr

/- dibber/seed.Write -/

def g19 (M : Means) (ro : List ABlk) (x0 : Int) (m0 : Mm) : Option (AVal × Heap × Nat × Nat) :=
  bindP (stepM ro m0 (.bsl 3 1 [(AVal.i IntKind.i64 0)] 1 [((0, 1), .c (.i .i64 x0))])) fun v5 m_1 =>
  bindP (callM M.call m_1 51 [v5]) fun v6 m_2 =>
  asB v6 fun c6 =>
  forceB (!c6) fun c7 =>
  cond c7 (
    finM m0.h.length (tupA [(.s []), (.i .i64 4)]) m_2) (
    bindP (callM M.call m_2 52 [(.i .i64 x0)]) fun v9 m_3 =>
    asS v9 fun s9 =>
    finM m0.h.length (tupA [(.s s9), (.i .i64 0)]) m_3)

theorem g19_ok {ro : List ABlk} {O : Caller} {M : Means} (hM : M.Ok ⟨F, O⟩ ro) {x0 h r} (ho : O 19 [(.i .i64 x0)] h = none) (hr : g19 M ro x0 ⟨h, h.length, h.length⟩ = some r) : callX ⟨F, O⟩ ro 19 [(.i .i64 x0)] h = some r := by
  refine callX_of (F := ⟨F, O⟩) (fn := fn19) (g := g19 M ro x0) ho rfl rfl hr ?_
  clear ho
  clear hr
  intro m0 t0 ht hr
  have g0 : t0.get 0 = (.i .i64 x0) := ht 0
  clear ht
  unfold g19 at hr
  refine w_seq ?_
  refine w_ops ?_
  refine wo_step (v := (AVal.s [])) (s_pure (p_mv rfl)) ?_
  refine wo_step (v := (.i .i64 0)) (s_pure (p_mv rfl)) ?_
  refine wo_nil ?_
  refine nx_norm ?_
  refine w_seq ?_
  refine w_seq ?_
  refine w_ops ?_
  refine wo_step (v := (.i .i64 x0)) (s_pure (p_mv g0)) ?_
  have hq := bindP_inv hr
  clear hr
  obtain ⟨v5, m_1, e5, hr⟩ := hq
  refine wo_step (v := v5) (s_bsl (qc rfl qn) e5) ?_
  have hq := bindP_inv hr
  clear hr
  obtain ⟨v6, m_2, e6, hr⟩ := hq
  have hq := asB_inv hr
  clear hr
  obtain ⟨c6, rfl, hr⟩ := hq
  refine wo_step (v := (.b c6)) (s_call (mc rfl mn) (callM_le hM.call e6)) ?_
  have hq := forceB_inv hr
  clear hr
  obtain ⟨c7, e7, hr⟩ := hq
  refine wo_step (v := (.b c7)) (s_pure ((p_not rfl).trans (cb e7))) ?_
  refine wo_nil ?_
  refine nx_norm ?_
  have hq := cond_inv hr
  clear hr
  rcases hq with ⟨rfl, hr⟩ | ⟨rfl, hr⟩
  · refine w_condT rfl ?_
    refine w_seq ?_
    refine w_ops ?_
    refine wo_step (v := (AVal.s [])) (s_pure (p_mv rfl)) ?_
    refine wo_step (v := (.i .i64 4)) (s_pure (p_mv rfl)) ?_
    refine wo_nil ?_
    refine nx_norm ?_
    refine w_ret ?_
    refine nx_ret ?_
    exact qf ret_ok (rt rfl (rt rfl rn)) hr
  · refine w_condF rfl ?_
    refine w_skip ?_
    refine nx_norm ?_
    refine w_seq ?_
    refine w_ops ?_
    refine wo_step (v := (.i .i64 x0)) (s_pure (p_mv g0)) ?_
    have hq := bindP_inv hr
    clear hr
    obtain ⟨v9, m_3, e9, hr⟩ := hq
    have hq := asS_inv hr
    clear hr
    obtain ⟨s9, rfl, hr⟩ := hq
    refine wo_step (v := (.s s9)) (s_call (mc rfl mn) (callM_le hM.call e9)) ?_
    refine wo_step (v := (.s s9)) (s_pure (p_mv rfl)) ?_
    refine wo_step (v := (.i .i64 0)) (s_pure (p_mv rfl)) ?_
    refine wo_nil ?_
    refine nx_norm ?_
    refine w_ret ?_
    exact qf ret_ok (rt rfl (rt rfl rn)) hr

/- dibber/seed.Read -/

def g21 (M : Means) (ro : List ABlk) (s0 : List UInt8) (m0 : Mm) : Option (AVal × Heap × Nat × Nat) :=
  bindP (callM M.call m0 55 [(.s s0)]) fun v6 m_1 =>
  asB v6 fun c6 =>
  forceB (!c6) fun c7 =>
  cond c7 (
    finM m0.h.length (tupA [(.i .i64 0), (.i .i64 5)]) m_1) (
    bindP (callM M.call m_1 56 [(.s s0)]) fun v9 m_2 =>
    asI .i64 v9 fun x9 =>
    forceB (ltI 1152921504606846976 x9) fun c11 =>
    cond c11 (
      finM m0.h.length (tupA [(.i .i64 0), (.i .i64 4)]) m_2) (
      finM m0.h.length (tupA [(.i .i64 x9), (.i .i64 0)]) m_2))

theorem g21_ok {ro : List ABlk} {O : Caller} {M : Means} (hM : M.Ok ⟨F, O⟩ ro) {s0 h r} (ho : O 21 [(.s s0)] h = none) (hr : g21 M ro s0 ⟨h, h.length, h.length⟩ = some r) : callX ⟨F, O⟩ ro 21 [(.s s0)] h = some r := by
  refine callX_of (F := ⟨F, O⟩) (fn := fn21) (g := g21 M ro s0) ho rfl rfl hr ?_
  clear ho
  clear hr
  intro m0 t0 ht hr
  have g0 : t0.get 0 = (.s s0) := ht 0
  clear ht
  unfold g21 at hr
  refine w_seq ?_
  refine w_ops ?_
  refine wo_step (v := (.i .i64 0)) (s_pure (p_mv rfl)) ?_
  refine wo_step (v := (.i .i64 0)) (s_pure (p_mv rfl)) ?_
  refine wo_nil ?_
  refine nx_norm ?_
  refine w_seq ?_
  refine w_seq ?_
  refine w_ops ?_
  refine wo_step (v := (.s s0)) (s_pure (p_mv g0)) ?_
  have hq := bindP_inv hr
  clear hr
  obtain ⟨v6, m_1, e6, hr⟩ := hq
  have hq := asB_inv hr
  clear hr
  obtain ⟨c6, rfl, hr⟩ := hq
  refine wo_step (v := (.b c6)) (s_call (mc rfl mn) (callM_le hM.call e6)) ?_
  have hq := forceB_inv hr
  clear hr
  obtain ⟨c7, e7, hr⟩ := hq
  refine wo_step (v := (.b c7)) (s_pure ((p_not rfl).trans (cb e7))) ?_
  refine wo_nil ?_
  refine nx_norm ?_
  have hq := cond_inv hr
  clear hr
  rcases hq with ⟨rfl, hr⟩ | ⟨rfl, hr⟩
  · refine w_condT rfl ?_
    refine w_seq ?_
    refine w_ops ?_
    refine wo_step (v := (.i .i64 0)) (s_pure (p_mv rfl)) ?_
    refine wo_step (v := (.i .i64 5)) (s_pure (p_mv rfl)) ?_
    refine wo_nil ?_
    refine nx_norm ?_
    refine w_ret ?_
    refine nx_ret ?_
    exact qf ret_ok (rt rfl (rt rfl rn)) hr
  · refine w_condF rfl ?_
    refine w_skip ?_
    refine nx_norm ?_
    refine w_seq ?_
    refine w_ops ?_
    refine wo_step (v := (.s s0)) (s_pure (p_mv g0)) ?_
    have hq := bindP_inv hr
    clear hr
    obtain ⟨v9, m_2, e9, hr⟩ := hq
    have hq := asI_inv hr
    clear hr
    obtain ⟨x9, rfl, hr⟩ := hq
    refine wo_step (v := (.i .i64 x9)) (s_call (mc rfl mn) (callM_le hM.call e9)) ?_
    refine wo_step (v := (.i .i64 x9)) (s_pure (p_mv rfl)) ?_
    refine wo_nil ?_
    refine nx_norm ?_
    refine w_seq ?_
    refine w_seq ?_
    refine w_ops ?_
    refine wo_step (v := (.i .i64 x9)) (s_pure (p_mv rfl)) ?_
    have hq := forceB_inv hr
    clear hr
    obtain ⟨c11, e11, hr⟩ := hq
    refine wo_step (v := (.b c11)) (s_pure (p_bin rfl rfl (b_gtr.trans (cb e11)))) ?_
    refine wo_nil ?_
    refine nx_norm ?_
    have hq := cond_inv hr
    clear hr
    rcases hq with ⟨rfl, hr⟩ | ⟨rfl, hr⟩
    · refine w_condT rfl ?_
      refine w_seq ?_
      refine w_ops ?_
      refine wo_step (v := (.i .i64 0)) (s_pure (p_mv rfl)) ?_
      refine wo_step (v := (.i .i64 4)) (s_pure (p_mv rfl)) ?_
      refine wo_nil ?_
      refine nx_norm ?_
      refine w_ret ?_
      refine nx_ret ?_
      exact qf ret_ok (rt rfl (rt rfl rn)) hr
    · refine w_condF rfl ?_
      refine w_skip ?_
      refine nx_norm ?_
      refine w_seq ?_
      refine w_ops ?_
      refine wo_step (v := (.i .i64 x9)) (s_pure (p_mv rfl)) ?_
      refine wo_step (v := (.i .i64 x9)) (s_pure (p_mv rfl)) ?_
      refine wo_step (v := (.i .i64 0)) (s_pure (p_mv rfl)) ?_
      refine wo_nil ?_
      refine nx_norm ?_
      refine w_ret ?_
      exact qf ret_ok (rt rfl (rt rfl rn)) hr

/- dibber/dibberlaw09.number -/

def g45 (M : Means) (ro : List ABlk) (x0 : Int) (m0 : Mm) : Option (AVal × Heap × Nat × Nat) :=
  forceI (Int.tmod x0 1152921504606846977) fun x4 =>
  forceI (wr .i64 x4) fun x5 =>
  finM m0.h.length (tupA [(.i .i64 x5)]) m0

theorem g45_ok {ro : List ABlk} {O : Caller} {M : Means} (hM : M.Ok ⟨F, O⟩ ro) {x0 h r} (ho : O 45 [(.i .u64 x0)] h = none) (hr : g45 M ro x0 ⟨h, h.length, h.length⟩ = some r) : callX ⟨F, O⟩ ro 45 [(.i .u64 x0)] h = some r := by
  refine callX_of (F := ⟨F, O⟩) (fn := fn45) (g := g45 M ro x0) ho rfl rfl hr ?_
  clear ho
  clear hr
  intro m0 t0 ht hr
  have g0 : t0.get 0 = (.i .u64 x0) := ht 0
  clear ht
  unfold g45 at hr
  refine w_seq ?_
  refine w_ops ?_
  refine wo_step (v := (.i .i64 0)) (s_pure (p_mv rfl)) ?_
  refine wo_nil ?_
  refine nx_norm ?_
  refine w_seq ?_
  refine w_ops ?_
  refine wo_step (v := (.i .u64 x0)) (s_pure (p_mv g0)) ?_
  have hq := forceI_inv hr
  clear hr
  obtain ⟨x4, e4, hr⟩ := hq
  refine wo_step (v := (.i .u64 x4)) (s_pure (p_bin rfl rfl ((b_rem rfl).trans (ci e4)))) ?_
  have hq := forceI_inv hr
  clear hr
  obtain ⟨x5, e5, hr⟩ := hq
  refine wo_step (v := (.i .i64 x5)) (s_pure ((p_conv rfl).trans (ci e5))) ?_
  refine wo_step (v := (.i .i64 x5)) (s_pure (p_mv rfl)) ?_
  refine wo_nil ?_
  refine nx_norm ?_
  refine w_ret ?_
  exact qf ret_ok (rt rfl rn) hr

/- dibber/dibberref09.IsWord -/
abbrev g46_J0 (s0 : List UInt8) (m0 : Mm) (o : Bool) (m1 : Mm) (t1 : Tr) : Prop :=
  match o with
  | c13 => m0 = m1 ∧ t1.get 13 = (.b c13) ∧ t1.get 0 = (.s s0)
abbrev g46_I1 (s0 : List UInt8) (m0 : Mm) (s : Int) (m1 : Mm) (t1 : Tr) : Prop :=
  match s with
  | x3 => m0 = m1 ∧ t1.get 3 = (.i .i64 x3) ∧ t1.get 0 = (.s s0)
abbrev g46_J1 (s0 : List UInt8) (m0 : Mm) (o : (Unit ⊕ Bool)) (e : AExit) (m1 : Mm) (t1 : Tr) : Prop :=
  match o with
  | (.inl _) => e = (.exit 0) ∧ m0 = m1
  | (.inr y2) => e = .ret ∧ m0 = m1 ∧ t1.get 2 = (.b y2)
abbrev g46_J2 (s0 : List UInt8) (x3 : Int) (m0 : Mm) (o : Bool) (m1 : Mm) (t1 : Tr) : Prop :=
  match o with
  | c29 => m0 = m1 ∧ t1.get 29 = (.b c29) ∧ t1.get 0 = (.s s0) ∧ t1.get 3 = (.i .i64 x3)
abbrev g46_J3 (s0 : List UInt8) (x3 : Int) (m0 : Mm) (o : Bool) (m1 : Mm) (t1 : Tr) : Prop :=
  match o with
  | c46 => m0 = m1 ∧ t1.get 46 = (.b c46) ∧ t1.get 0 = (.s s0) ∧ t1.get 3 = (.i .i64 x3)
abbrev g46_J4 (s0 : List UInt8) (x3 : Int) (m0 : Mm) (o : Bool) (m1 : Mm) (t1 : Tr) : Prop :=
  match o with
  | c46_1 => m0 = m1 ∧ t1.get 46 = (.b c46_1) ∧ t1.get 0 = (.s s0) ∧ t1.get 3 = (.i .i64 x3)
abbrev g46_J5 (s0 : List UInt8) (x3 : Int) (m0 : Mm) (o : Bool) (m1 : Mm) (t1 : Tr) : Prop :=
  match o with
  | c46_2 => m0 = m1 ∧ t1.get 46 = (.b c46_2) ∧ t1.get 0 = (.s s0) ∧ t1.get 3 = (.i .i64 x3)
def g46_b1 (M : Means) (ro : List ABlk) (s0 : List UInt8) (m0 : Mm) (x3 : Int) : Option ((Int) ⊕ ((Unit ⊕ Bool))) :=
  bindO (evP .e (.len true (.c (.s s0)))) fun v16 =>
  asI .i64 v16 fun x16 =>
  forceB (ltI x3 x16) fun c17 =>
  cond c17 (
    bindO (evP .e (.ixStr (.c (.s s0)) (.c (.i .i64 x3)))) fun v22 =>
    asI .u8 v22 fun x22 =>
    forceB (!eqI x22 48) fun c23 =>
    bindO (cond c23 (
      bindO (evP .e (.ixStr (.c (.s s0)) (.c (.i .i64 x3)))) fun v27 =>
      asI .u8 v27 fun x27 =>
      forceB (!eqI x27 49) fun c28 =>
      some c28) (
      some false)) fun c29 =>
    bindO (cond c29 (
      some true) (
      forceB (ltI 0 x3) fun c32 =>
      bindO (cond c32 (
        bindO (evP .e (.ixStr (.c (.s s0)) (.c (.i .i64 x3)))) fun v36 =>
        asI .u8 v36 fun x36 =>
        forceB (eqI x36 49) fun c37 =>
        bindO (cond c37 (
          forceI (wr .i64 (x3 - 1)) fun x42 =>
          bindO (evP .e (.ixStr (.c (.s s0)) (.c (.i .i64 x42)))) fun v43 =>
          asI .u8 v43 fun x43 =>
          forceB (eqI x43 49) fun c44 =>
          some c44) (
          some false)) fun c46_2 =>
        some c46_2) (
        some false)) fun c46_1 =>
      some c46_1)) fun c46 =>
    cond c46 (
      some (.inr (.inr false))) (
      forceI (wr .i64 (x3 + 1)) fun x19 =>
      some (.inl x19))) (
    some (.inr (.inl ())))
def g46 (M : Means) (ro : List ABlk) (s0 : List UInt8) (m0 : Mm) : Option (AVal × Heap × Nat × Nat) :=
  bindO (evP .e (.sbin BinOp.eql (.c (.s s0)) (.c (AVal.s [48])))) fun v5 =>
  asB v5 fun c5 =>
  cond c5 (
    finM m0.h.length (tupA [(.b true)]) m0) (
    bindO (evP .e (.len true (.c (.s s0)))) fun v7 =>
    asI .i64 v7 fun x7 =>
    forceB (eqI x7 0) fun c8 =>
    bindO (cond c8 (
      some true) (
      bindO (evP .e (.ixStr (.c (.s s0)) (.c (.i .i64 0)))) fun v11 =>
      asI .u8 v11 fun x11 =>
      forceB (!eqI x11 49) fun c12 =>
      some c12)) fun c13 =>
    cond c13 (
      finM m0.h.length (tupA [(.b false)]) m0) (
      bindO (M.loop (S := Int) (R := (Unit ⊕ Bool)) (fun s => g46_b1 M ro s0 m0 s) 0) fun o_5 => match o_5 with
      | (.inl _) =>
        finM m0.h.length (tupA [(.b true)]) m0
      | (.inr c2) =>
        finM m0.h.length (tupA [(.b c2)]) m0))

theorem g46_ok {ro : List ABlk} {O : Caller} {M : Means} (hM : M.Ok ⟨F, O⟩ ro) {s0 h r} (ho : O 46 [(.s s0)] h = none) (hr : g46 M ro s0 ⟨h, h.length, h.length⟩ = some r) : callX ⟨F, O⟩ ro 46 [(.s s0)] h = some r := by
  refine callX_of (F := ⟨F, O⟩) (fn := fn46) (g := g46 M ro s0) ho rfl rfl hr ?_
  clear ho
  clear hr
  intro m0 t0 ht hr
  have g0 : t0.get 0 = (.s s0) := ht 0
  clear ht
  unfold g46 at hr
  refine w_seq ?_
  refine w_ops ?_
  refine wo_step (v := (.b false)) (s_pure (p_mv rfl)) ?_
  refine wo_nil ?_
  refine nx_norm ?_
  refine w_seq ?_
  refine w_seq ?_
  refine w_ops ?_
  refine wo_step (v := (.s s0)) (s_pure (p_mv g0)) ?_
  have hq := bindO_inv hr
  clear hr
  obtain ⟨v5, e5, hr⟩ := hq
  have hq := asB_inv hr
  clear hr
  obtain ⟨c5, rfl, hr⟩ := hq
  refine wo_step (v := (.b c5)) (s_pure (o_sbin rfl rfl e5)) ?_
  refine wo_nil ?_
  refine nx_norm ?_
  have hq := cond_inv hr
  clear hr
  rcases hq with ⟨rfl, hr⟩ | ⟨rfl, hr⟩
  · refine w_condT rfl ?_
    refine w_seq ?_
    refine w_ops ?_
    refine wo_step (v := (.b true)) (s_pure (p_mv rfl)) ?_
    refine wo_nil ?_
    refine nx_norm ?_
    refine w_ret ?_
    refine nx_ret ?_
    exact qf ret_ok (rt rfl rn) hr
  · refine w_condF rfl ?_
    refine w_skip ?_
    refine nx_norm ?_
    refine w_seq ?_
    refine w_seq ?_
    refine w_ops ?_
    refine wo_step (v := (.s s0)) (s_pure (p_mv g0)) ?_
    have hq := bindO_inv hr
    clear hr
    obtain ⟨v7, e7, hr⟩ := hq
    have hq := asI_inv hr
    clear hr
    obtain ⟨x7, rfl, hr⟩ := hq
    refine wo_step (v := (.i .i64 x7)) (s_pure (o_len rfl e7)) ?_
    have hq := forceB_inv hr
    clear hr
    obtain ⟨c8, e8, hr⟩ := hq
    refine wo_step (v := (.b c8)) (s_pure (p_bin rfl rfl (b_eql.trans (cb e8)))) ?_
    refine wo_step (v := (.b c8)) (s_pure (p_mv rfl)) ?_
    have hq := bindO_inv hr
    clear hr
    obtain ⟨o, hr, hk⟩ := hq
    refine wo_join 4 (g46_J0 s0 m0 o) ?_ ?_
    · clear hk
      have hq := cond_inv hr
      clear hr
      rcases hq with ⟨rfl, hr⟩ | ⟨rfl, hr⟩
      · refine wo_skip (v := (.b true)) rfl rfl ?_
        refine wo_skip (v := (.b true)) rfl rfl ?_
        refine wo_skip (v := (.b true)) rfl rfl ?_
        refine wo_step (v := (.b true)) (s_pure (p_pickT rfl rfl)) ?_
        refine wo_nil ?_
        cases hr
        exact ⟨_, _, rfl, rfl, gl rfl, gl g0⟩
      · refine wo_take (v := (.s s0)) rfl (s_pure (p_mv g0)) ?_
        have hq := bindO_inv hr
        clear hr
        obtain ⟨v11, e11, hr⟩ := hq
        have hq := asI_inv hr
        clear hr
        obtain ⟨x11, rfl, hr⟩ := hq
        refine wo_take (v := (.i .u8 x11)) rfl (s_pure (o_ixStr rfl rfl e11)) ?_
        have hq := forceB_inv hr
        clear hr
        obtain ⟨c12, e12, hr⟩ := hq
        refine wo_take (v := (.b c12)) rfl (s_pure (p_bin rfl rfl (b_neq.trans (cb e12)))) ?_
        refine wo_step (v := (.b c12)) (s_pure (p_pickF rfl rfl)) ?_
        refine wo_nil ?_
        cases hr
        exact ⟨_, _, rfl, rfl, gl rfl, gl g0⟩
    · clear hr
      have hr := hk
      clear hk
      obtain ⟨c13, ho⟩ : ∃ z, z = o := ⟨_, rfl⟩
      subst ho
      rintro mm t_1 ⟨rfl, g13, g0⟩
      refine wo_nil ?_
      refine nx_norm ?_
      have hq := cond_inv hr
      clear hr
      rcases hq with ⟨rfl, hr⟩ | ⟨rfl, hr⟩
      · refine w_condT g13 ?_
        refine w_seq ?_
        refine w_ops ?_
        refine wo_step (v := (.b false)) (s_pure (p_mv rfl)) ?_
        refine wo_nil ?_
        refine nx_norm ?_
        refine w_ret ?_
        refine nx_ret ?_
        exact qf ret_ok (rt rfl rn) hr
      · refine w_condF g13 ?_
        refine w_skip ?_
        refine nx_norm ?_
        refine w_seq ?_
        refine w_seq ?_
        refine w_ops ?_
        refine wo_step (v := (.i .i64 0)) (s_pure (p_mv rfl)) ?_
        refine wo_nil ?_
        refine nx_norm ?_
        refine w_block ?_
        have hq := bindO_inv hr
        clear hr
        obtain ⟨o_5, hl, hr⟩ := hq
        obtain ⟨n, hl⟩ := hM.loop _ _ _ hl
        refine jp_mono (w_loop _ (g46_I1 s0 m0) (g46_J1 s0 m0) ?_ n _ _ _ _ hl ⟨rfl, gl rfl, gl g0⟩) ?_
        · clear hr hl
          intro s mm_7 t_2 o hi hr
          obtain ⟨x3, hs⟩ : ∃ z, z = s := ⟨_, rfl⟩
          subst hs
          obtain ⟨rfl, g3, g0⟩ := hi
          unfold g46_b1 at hr
          refine w_seq ?_
          refine w_seq ?_
          refine w_ops ?_
          refine wo_step (v := (.i .i64 x3)) (s_pure (p_mv g3)) ?_
          refine wo_step (v := (.s s0)) (s_pure (p_mv g0)) ?_
          have hq := bindO_inv hr
          clear hr
          obtain ⟨v16, e16, hr⟩ := hq
          have hq := asI_inv hr
          clear hr
          obtain ⟨x16, rfl, hr⟩ := hq
          refine wo_step (v := (.i .i64 x16)) (s_pure (o_len rfl e16)) ?_
          have hq := forceB_inv hr
          clear hr
          obtain ⟨c17, e17, hr⟩ := hq
          refine wo_step (v := (.b c17)) (s_pure (p_bin rfl rfl (b_lss.trans (cb e17)))) ?_
          refine wo_nil ?_
          refine nx_norm ?_
          have hq := cond_inv hr
          clear hr
          rcases hq with ⟨rfl, hr⟩ | ⟨rfl, hr⟩
          · refine w_condT rfl ?_
            refine w_skip ?_
            refine nx_norm ?_
            refine w_seq ?_
            refine w_block ?_
            refine w_seq ?_
            refine w_ops ?_
            refine wo_step (v := (.s s0)) (s_pure (p_mv g0)) ?_
            refine wo_step (v := (.i .i64 x3)) (s_pure (p_mv g3)) ?_
            have hq := bindO_inv hr
            clear hr
            obtain ⟨v22, e22, hr⟩ := hq
            have hq := asI_inv hr
            clear hr
            obtain ⟨x22, rfl, hr⟩ := hq
            refine wo_step (v := (.i .u8 x22)) (s_pure (o_ixStr rfl rfl e22)) ?_
            have hq := forceB_inv hr
            clear hr
            obtain ⟨c23, e23, hr⟩ := hq
            refine wo_step (v := (.b c23)) (s_pure (p_bin rfl rfl (b_neq.trans (cb e23)))) ?_
            refine wo_step (v := (.b c23)) (s_pure (p_mv rfl)) ?_
            have hq := bindO_inv hr
            clear hr
            obtain ⟨o_1, hr, hk⟩ := hq
            refine wo_join 5 (g46_J2 s0 x3 m0 o_1) ?_ ?_
            · clear hk
              have hq := cond_inv hr
              clear hr
              rcases hq with ⟨rfl, hr⟩ | ⟨rfl, hr⟩
              · refine wo_take (v := (.s s0)) rfl (s_pure (p_mv g0)) ?_
                refine wo_take (v := (.i .i64 x3)) rfl (s_pure (p_mv g3)) ?_
                have hq := bindO_inv hr
                clear hr
                obtain ⟨v27, e27, hr⟩ := hq
                have hq := asI_inv hr
                clear hr
                obtain ⟨x27, rfl, hr⟩ := hq
                refine wo_take (v := (.i .u8 x27)) rfl (s_pure (o_ixStr rfl rfl e27)) ?_
                have hq := forceB_inv hr
                clear hr
                obtain ⟨c28, e28, hr⟩ := hq
                refine wo_take (v := (.b c28)) rfl (s_pure (p_bin rfl rfl (b_neq.trans (cb e28)))) ?_
                refine wo_step (v := (.b c28)) (s_pure (p_pickT rfl rfl)) ?_
                refine wo_nil ?_
                cases hr
                exact ⟨_, _, rfl, rfl, gl rfl, gl g0, gl g3⟩
              · refine wo_skip (v := (.b false)) rfl rfl ?_
                refine wo_skip (v := (.b false)) rfl rfl ?_
                refine wo_skip (v := (.b false)) rfl rfl ?_
                refine wo_skip (v := (.b false)) rfl rfl ?_
                refine wo_step (v := (.b false)) (s_pure (p_pickF rfl rfl)) ?_
                refine wo_nil ?_
                cases hr
                exact ⟨_, _, rfl, rfl, gl rfl, gl g0, gl g3⟩
            · clear hr
              have hr := hk
              clear hk
              obtain ⟨c29, ho⟩ : ∃ z, z = o_1 := ⟨_, rfl⟩
              subst ho
              rintro mm_1 t_3 ⟨rfl, g29, g0, g3⟩
              refine wo_step (v := (.b c29)) (s_pure (p_mv g29)) ?_
              have hq := bindO_inv hr
              clear hr
              obtain ⟨o_2, hr, hk⟩ := hq
              refine wo_join 16 (g46_J3 s0 x3 m0 o_2) ?_ ?_
              · clear hk
                have hq := cond_inv hr
                clear hr
                rcases hq with ⟨rfl, hr⟩ | ⟨rfl, hr⟩
                · refine wo_skip (v := (.b true)) rfl rfl ?_
                  refine wo_skip (v := (.b true)) rfl rfl ?_
                  refine wo_skip (v := (.b true)) rfl rfl ?_
                  refine wo_skip (v := und) rfl rfl ?_
                  refine wo_skip (v := und) rfl rfl ?_
                  refine wo_skip (v := und) rfl rfl ?_
                  refine wo_skip (v := und) rfl rfl ?_
                  refine wo_skip (v := (.b true)) rfl rfl ?_
                  refine wo_skip (v := (.b true)) rfl rfl ?_
                  refine wo_skip (v := und) rfl rfl ?_
                  refine wo_skip (v := und) rfl rfl ?_
                  refine wo_skip (v := und) rfl rfl ?_
                  refine wo_skip (v := und) rfl rfl ?_
                  refine wo_skip (v := und) rfl rfl ?_
                  refine wo_skip (v := (.b true)) rfl rfl ?_
                  refine wo_step (v := (.b true)) (s_pure (p_pickT rfl rfl)) ?_
                  refine wo_nil ?_
                  cases hr
                  exact ⟨_, _, rfl, rfl, gl rfl, gl g0, gl g3⟩
                · refine wo_take (v := (.i .i64 x3)) rfl (s_pure (p_mv g3)) ?_
                  have hq := forceB_inv hr
                  clear hr
                  obtain ⟨c32, e32, hr⟩ := hq
                  refine wo_take (v := (.b c32)) rfl (s_pure (p_bin rfl rfl (b_gtr.trans (cb e32)))) ?_
                  refine wo_take (v := (.b c32)) rfl (s_pure (p_mv rfl)) ?_
                  have hq := bindO_inv hr
                  clear hr
                  obtain ⟨o_3, hr, hk⟩ := hq
                  refine wo_join 13 (g46_J4 s0 x3 m0 o_3) ?_ ?_
                  · clear hk
                    have hq := cond_inv hr
                    clear hr
                    rcases hq with ⟨rfl, hr⟩ | ⟨rfl, hr⟩
                    · refine wo_take (v := (.s s0)) rfl (s_pure (p_mv g0)) ?_
                      refine wo_take (v := (.i .i64 x3)) rfl (s_pure (p_mv g3)) ?_
                      have hq := bindO_inv hr
                      clear hr
                      obtain ⟨v36, e36, hr⟩ := hq
                      have hq := asI_inv hr
                      clear hr
                      obtain ⟨x36, rfl, hr⟩ := hq
                      refine wo_take (v := (.i .u8 x36)) rfl (s_pure (o_ixStr rfl rfl e36)) ?_
                      have hq := forceB_inv hr
                      clear hr
                      obtain ⟨c37, e37, hr⟩ := hq
                      refine wo_take (v := (.b c37)) rfl (s_pure (p_bin rfl rfl (b_eql.trans (cb e37)))) ?_
                      refine wo_take (v := (.b c37)) rfl (s_pure (p_pickT rfl rfl)) ?_
                      refine wo_take (v := (.b c37)) rfl (s_pure (p_mv rfl)) ?_
                      have hq := bindO_inv hr
                      clear hr
                      obtain ⟨o_4, hr, hk⟩ := hq
                      refine wo_join 7 (g46_J5 s0 x3 m0 o_4) ?_ ?_
                      · clear hk
                        have hq := cond_inv hr
                        clear hr
                        rcases hq with ⟨rfl, hr⟩ | ⟨rfl, hr⟩
                        · refine wo_take (v := (.s s0)) rfl (s_pure (p_mv g0)) ?_
                          refine wo_take (v := (.i .i64 x3)) rfl (s_pure (p_mv g3)) ?_
                          have hq := forceI_inv hr
                          clear hr
                          obtain ⟨x42, e42, hr⟩ := hq
                          refine wo_take (v := (.i .i64 x42)) rfl (s_pure (p_bin rfl rfl (b_sub.trans (ci e42)))) ?_
                          have hq := bindO_inv hr
                          clear hr
                          obtain ⟨v43, e43, hr⟩ := hq
                          have hq := asI_inv hr
                          clear hr
                          obtain ⟨x43, rfl, hr⟩ := hq
                          refine wo_take (v := (.i .u8 x43)) rfl (s_pure (o_ixStr rfl rfl e43)) ?_
                          have hq := forceB_inv hr
                          clear hr
                          obtain ⟨c44, e44, hr⟩ := hq
                          refine wo_take (v := (.b c44)) rfl (s_pure (p_bin rfl rfl (b_eql.trans (cb e44)))) ?_
                          refine wo_take (v := (.b c44)) rfl (s_pure (p_pickT rfl rfl)) ?_
                          refine wo_step (v := (.b c44)) (s_pure (p_pickF rfl rfl)) ?_
                          refine wo_nil ?_
                          cases hr
                          exact ⟨_, _, rfl, rfl, gl rfl, gl g0, gl g3⟩
                        · refine wo_skip (v := (.b false)) rfl rfl ?_
                          refine wo_skip (v := (.b false)) rfl rfl ?_
                          refine wo_skip (v := (.b false)) rfl rfl ?_
                          refine wo_skip (v := (.b false)) rfl rfl ?_
                          refine wo_skip (v := (.b false)) rfl rfl ?_
                          refine wo_take (v := (.b false)) rfl (s_pure (p_pickF rfl rfl)) ?_
                          refine wo_step (v := (.b false)) (s_pure (p_pickF rfl rfl)) ?_
                          refine wo_nil ?_
                          cases hr
                          exact ⟨_, _, rfl, rfl, gl rfl, gl g0, gl g3⟩
                      · clear hr
                        have hr := hk
                        clear hk
                        obtain ⟨c46_2, ho⟩ : ∃ z, z = o_4 := ⟨_, rfl⟩
                        subst ho
                        rintro mm_2 t_4 ⟨rfl, g46, g0, g3⟩
                        refine wo_nil ?_
                        cases hr
                        exact ⟨_, _, rfl, rfl, gl g46, gl g0, gl g3⟩
                    · refine wo_skip (v := (.b false)) rfl rfl ?_
                      refine wo_skip (v := (.b false)) rfl rfl ?_
                      refine wo_skip (v := (.b false)) rfl rfl ?_
                      refine wo_skip (v := (.b false)) rfl rfl ?_
                      refine wo_take (v := (.b false)) rfl (s_pure (p_pickF rfl rfl)) ?_
                      refine wo_take (v := (.b false)) rfl (s_pure (p_mv rfl)) ?_
                      refine wo_skip (v := (.b false)) rfl rfl ?_
                      refine wo_skip (v := (.b false)) rfl rfl ?_
                      refine wo_skip (v := (.b false)) rfl rfl ?_
                      refine wo_skip (v := (.b false)) rfl rfl ?_
                      refine wo_skip (v := (.b false)) rfl rfl ?_
                      refine wo_take (v := (.b false)) rfl (s_pure (p_pickF rfl rfl)) ?_
                      refine wo_step (v := (.b false)) (s_pure (p_pickF rfl rfl)) ?_
                      refine wo_nil ?_
                      cases hr
                      exact ⟨_, _, rfl, rfl, gl rfl, gl g0, gl g3⟩
                  · clear hr
                    have hr := hk
                    clear hk
                    obtain ⟨c46_1, ho⟩ : ∃ z, z = o_3 := ⟨_, rfl⟩
                    subst ho
                    rintro mm_3 t_5 ⟨rfl, g46, g0, g3⟩
                    refine wo_nil ?_
                    cases hr
                    exact ⟨_, _, rfl, rfl, gl g46, gl g0, gl g3⟩
              · clear hr
                have hr := hk
                clear hk
                obtain ⟨c46, ho⟩ : ∃ z, z = o_2 := ⟨_, rfl⟩
                subst ho
                rintro mm_4 t_6 ⟨rfl, g46, g0, g3⟩
                refine wo_nil ?_
                refine nx_norm ?_
                have hq := cond_inv hr
                clear hr
                rcases hq with ⟨rfl, hr⟩ | ⟨rfl, hr⟩
                · refine w_condT g46 ?_
                  refine w_seq ?_
                  refine w_ops ?_
                  refine wo_step (v := (.b false)) (s_pure (p_mv rfl)) ?_
                  refine wo_nil ?_
                  refine nx_norm ?_
                  refine w_ret ?_
                  refine bk_ret ?_
                  refine nx_ret ?_
                  cases hr
                  exact ⟨_, _, rfl, ne_norm_ret, rfl, rfl, gl rfl⟩
                · refine w_condF g46 ?_
                  refine w_skip ?_
                  refine bk_norm ?_
                  refine nx_norm ?_
                  refine w_ops ?_
                  refine wo_step (v := (.i .i64 x3)) (s_pure (p_mv g3)) ?_
                  have hq := forceI_inv hr
                  clear hr
                  obtain ⟨x19, e19, hr⟩ := hq
                  refine wo_step (v := (.i .i64 x19)) (s_pure (p_bin rfl rfl (b_add.trans (ci e19)))) ?_
                  refine wo_step (v := (.i .i64 x19)) (s_pure (p_mv rfl)) ?_
                  refine wo_nil ?_
                  cases hr
                  exact ⟨_, _, rfl, rfl, rfl, gl rfl, gl g0⟩
          · refine w_condF rfl ?_
            refine w_exit ?_
            refine nx_exit ?_
            cases hr
            exact ⟨_, _, rfl, ne_norm_exit, rfl, rfl⟩
        · rcases o_5 with o_5 | o_5
          · rintro _ mm_5 t_7 ⟨rfl, rfl⟩
            refine bk_hit ?_
            refine nx_norm ?_
            refine w_seq ?_
            refine w_ops ?_
            refine wo_step (v := (.b true)) (s_pure (p_mv rfl)) ?_
            refine wo_nil ?_
            refine nx_norm ?_
            refine w_ret ?_
            exact qf ret_ok (rt rfl rn) hr
          · obtain ⟨c2, ho⟩ : ∃ z, z = o_5 := ⟨_, rfl⟩
            subst ho
            rintro _ mm_6 t_8 ⟨rfl, rfl, g2⟩
            refine bk_ret ?_
            refine nx_ret ?_
            exact qf ret_ok (rt g2 rn) hr

/- dibber/seed.areNumbers -/
abbrev g51_I0 (v0 : AVal) (x6 : Int) (m0 : Mm) (s : Int) (m1 : Mm) (t1 : Tr) : Prop :=
  match s with
  | x7 => m0 = m1 ∧ t1.get 7 = (.i .i64 x7) ∧ t1.get 5 = v0 ∧ t1.get 6 = (.i .i64 x6)
abbrev g51_J0 (v0 : AVal) (x6 : Int) (m0 : Mm) (o : (Unit ⊕ Bool)) (e : AExit) (m1 : Mm) (t1 : Tr) : Prop :=
  match o with
  | (.inl _) => e = (.exit 0) ∧ m0 = m1
  | (.inr y2) => e = .ret ∧ m0 = m1 ∧ t1.get 2 = (.b y2)
abbrev g51_J1 (v0 : AVal) (x6 : Int) (x7 : Int) (m0 : Mm) (o : Bool) (m1 : Mm) (t1 : Tr) : Prop :=
  match o with
  | c16 => m0 = m1 ∧ t1.get 16 = (.b c16) ∧ t1.get 5 = v0 ∧ t1.get 6 = (.i .i64 x6) ∧ t1.get 7 = (.i .i64 x7)
def g51_b0 (M : Means) (ro : List ABlk) (v0 : AVal) (x6 : Int) (m0 : Mm) (x7 : Int) : Option ((Int) ⊕ ((Unit ⊕ Bool))) :=
  forceB (ltI x7 x6) fun c8 =>
  cond c8 (
    bindO (evP .e (.ixS 1 (.c v0) (.c (.i .i64 x7)))) fun v9 =>
    bindO (ldM ro m0 true 1 v9) fun v10 =>
    asI .i64 v10 fun x10 =>
    forceB (ltI x10 0) fun c12 =>
    bindO (cond c12 (
      some true) (
      forceB (ltI 1152921504606846976 x10) fun c15 =>
      some c15)) fun c16 =>
    cond c16 (
      some (.inr (.inr false))) (
      forceI (wr .i64 (x7 + 1)) fun x17 =>
      some (.inl x17))) (
    some (.inr (.inl ())))
def g51 (M : Means) (ro : List ABlk) (v0 : AVal) (m0 : Mm) : Option (AVal × Heap × Nat × Nat) :=
  bindO (evP .e (.len false (.c v0))) fun v6 =>
  asI .i64 v6 fun x6 =>
  bindO (M.loop (S := Int) (R := (Unit ⊕ Bool)) (fun s => g51_b0 M ro v0 x6 m0 s) 0) fun o_1 => match o_1 with
  | (.inl _) =>
    finM m0.h.length (tupA [(.b true)]) m0
  | (.inr c2) =>
    finM m0.h.length (tupA [(.b c2)]) m0

theorem g51_ok {ro : List ABlk} {O : Caller} {M : Means} (hM : M.Ok ⟨F, O⟩ ro) {v0 h r} (ho : O 51 [v0] h = none) (hr : g51 M ro v0 ⟨h, h.length, h.length⟩ = some r) : callX ⟨F, O⟩ ro 51 [v0] h = some r := by
  refine callX_of (F := ⟨F, O⟩) (fn := fn51) (g := g51 M ro v0) ho rfl rfl hr ?_
  clear ho
  clear hr
  intro m0 t0 ht hr
  have g0 : t0.get 0 = v0 := ht 0
  clear ht
  unfold g51 at hr
  refine w_seq ?_
  refine w_ops ?_
  refine wo_step (v := (.b false)) (s_pure (p_mv rfl)) ?_
  refine wo_nil ?_
  refine nx_norm ?_
  refine w_seq ?_
  refine w_seq ?_
  refine w_ops ?_
  refine wo_step (v := v0) (s_pure (p_mv g0)) ?_
  have hq := bindO_inv hr
  clear hr
  obtain ⟨v6, e6, hr⟩ := hq
  have hq := asI_inv hr
  clear hr
  obtain ⟨x6, rfl, hr⟩ := hq
  refine wo_step (v := (.i .i64 x6)) (s_pure (o_len rfl e6)) ?_
  refine wo_step (v := (.i .i64 0)) (s_pure (p_mv rfl)) ?_
  refine wo_nil ?_
  refine nx_norm ?_
  refine w_block ?_
  have hq := bindO_inv hr
  clear hr
  obtain ⟨o_1, hl, hr⟩ := hq
  obtain ⟨n, hl⟩ := hM.loop _ _ _ hl
  refine jp_mono (w_loop _ (g51_I0 v0 x6 m0) (g51_J0 v0 x6 m0) ?_ n _ _ _ _ hl ⟨rfl, gl rfl, gl rfl, gl rfl⟩) ?_
  · clear hr hl
    intro s mm_3 t_1 o hi hr
    obtain ⟨x7, hs⟩ : ∃ z, z = s := ⟨_, rfl⟩
    subst hs
    obtain ⟨rfl, g7, g5, g6⟩ := hi
    unfold g51_b0 at hr
    refine w_seq ?_
    refine w_ops ?_
    have hq := forceB_inv hr
    clear hr
    obtain ⟨c8, e8, hr⟩ := hq
    refine wo_step (v := (.b c8)) (s_pure (p_bin g7 g6 (b_lss.trans (cb e8)))) ?_
    refine wo_nil ?_
    refine nx_norm ?_
    refine w_seq ?_
    have hq := cond_inv hr
    clear hr
    rcases hq with ⟨rfl, hr⟩ | ⟨rfl, hr⟩
    · refine w_condT rfl ?_
      refine w_skip ?_
      refine nx_norm ?_
      refine w_seq ?_
      refine w_block ?_
      refine w_seq ?_
      refine w_ops ?_
      have hq := bindO_inv hr
      clear hr
      obtain ⟨v9, e9, hr⟩ := hq
      refine wo_step (v := v9) (s_pure (o_ixS g5 g7 e9)) ?_
      have hq := bindO_inv hr
      clear hr
      obtain ⟨v10, e10, hr⟩ := hq
      have hq := asI_inv hr
      clear hr
      obtain ⟨x10, rfl, hr⟩ := hq
      refine wo_step (v := (.i .i64 x10)) (s_ld rfl e10) ?_
      refine wo_step (v := (.i .i64 x10)) (s_pure (p_mv rfl)) ?_
      refine wo_nil ?_
      refine nx_norm ?_
      refine w_seq ?_
      refine w_ops ?_
      refine wo_step (v := (.i .i64 x10)) (s_pure (p_mv rfl)) ?_
      have hq := forceB_inv hr
      clear hr
      obtain ⟨c12, e12, hr⟩ := hq
      refine wo_step (v := (.b c12)) (s_pure (p_bin rfl rfl (b_lss.trans (cb e12)))) ?_
      refine wo_step (v := (.b c12)) (s_pure (p_mv rfl)) ?_
      have hq := bindO_inv hr
      clear hr
      obtain ⟨o, hr, hk⟩ := hq
      refine wo_join 3 (g51_J1 v0 x6 x7 m0 o) ?_ ?_
      · clear hk
        have hq := cond_inv hr
        clear hr
        rcases hq with ⟨rfl, hr⟩ | ⟨rfl, hr⟩
        · refine wo_skip (v := (.b true)) rfl rfl ?_
          refine wo_skip (v := (.b true)) rfl rfl ?_
          refine wo_step (v := (.b true)) (s_pure (p_pickT rfl rfl)) ?_
          refine wo_nil ?_
          cases hr
          exact ⟨_, _, rfl, rfl, gl rfl, gl g5, gl g6, gl g7⟩
        · refine wo_take (v := (.i .i64 x10)) rfl (s_pure (p_mv rfl)) ?_
          have hq := forceB_inv hr
          clear hr
          obtain ⟨c15, e15, hr⟩ := hq
          refine wo_take (v := (.b c15)) rfl (s_pure (p_bin rfl rfl (b_gtr.trans (cb e15)))) ?_
          refine wo_step (v := (.b c15)) (s_pure (p_pickF rfl rfl)) ?_
          refine wo_nil ?_
          cases hr
          exact ⟨_, _, rfl, rfl, gl rfl, gl g5, gl g6, gl g7⟩
      · clear hr
        have hr := hk
        clear hk
        obtain ⟨c16, ho⟩ : ∃ z, z = o := ⟨_, rfl⟩
        subst ho
        rintro mm t_2 ⟨rfl, g16, g5, g6, g7⟩
        refine wo_nil ?_
        refine nx_norm ?_
        have hq := cond_inv hr
        clear hr
        rcases hq with ⟨rfl, hr⟩ | ⟨rfl, hr⟩
        · refine w_condT g16 ?_
          refine w_seq ?_
          refine w_ops ?_
          refine wo_step (v := (.b false)) (s_pure (p_mv rfl)) ?_
          refine wo_nil ?_
          refine nx_norm ?_
          refine w_ret ?_
          refine bk_ret ?_
          refine nx_ret ?_
          cases hr
          exact ⟨_, _, rfl, ne_norm_ret, rfl, rfl, gl rfl⟩
        · refine w_condF g16 ?_
          refine w_skip ?_
          refine bk_norm ?_
          refine nx_norm ?_
          refine w_ops ?_
          have hq := forceI_inv hr
          clear hr
          obtain ⟨x17, e17, hr⟩ := hq
          refine wo_step (v := (.i .i64 x17)) (s_pure (p_bin g7 rfl (b_add.trans (ci e17)))) ?_
          refine wo_step (v := (.i .i64 x17)) (s_pure (p_mv rfl)) ?_
          refine wo_nil ?_
          cases hr
          exact ⟨_, _, rfl, rfl, rfl, gl rfl, gl g5, gl g6⟩
    · refine w_condF rfl ?_
      refine w_exit ?_
      refine nx_exit ?_
      cases hr
      exact ⟨_, _, rfl, ne_norm_exit, rfl, rfl⟩
  · rcases o_1 with o_1 | o_1
    · rintro _ mm_1 t_3 ⟨rfl, rfl⟩
      refine bk_hit ?_
      refine nx_norm ?_
      refine w_seq ?_
      refine w_ops ?_
      refine wo_step (v := (.b true)) (s_pure (p_mv rfl)) ?_
      refine wo_nil ?_
      refine nx_norm ?_
      refine w_ret ?_
      exact qf ret_ok (rt rfl rn) hr
    · obtain ⟨c2, ho⟩ : ∃ z, z = o_1 := ⟨_, rfl⟩
      subst ho
      rintro _ mm_2 t_4 ⟨rfl, rfl, g2⟩
      refine bk_ret ?_
      refine nx_ret ?_
      exact qf ret_ok (rt g2 rn) hr

/- dibber/seed.written -/
abbrev g52_I0 (x14 : Int) (v20 : AVal) (v11 : AVal) (x22 : Int) (s : Int × Mm) (m1 : Mm) (t1 : Tr) : Prop :=
  match s with
  | (x23, m_5) => m_5 = m1 ∧ t1.get 23 = (.i .i64 x23) ∧ t1.get 4 = (.i .i64 x14) ∧ t1.get 5 = v20 ∧ t1.get 21 = v11 ∧ t1.get 22 = (.i .i64 x22)
abbrev g52_J0 (x14 : Int) (v20 : AVal) (v11 : AVal) (x22 : Int) (o : Mm) (e : AExit) (m1 : Mm) (t1 : Tr) : Prop :=
  match o with
  | mo => e = (.exit 0) ∧ mo = m1 ∧ t1.get 5 = v20
def g52_b0 (M : Means) (ro : List ABlk) (x14 : Int) (v20 : AVal) (v11 : AVal) (x22 : Int) (x23 : Int) (m_5 : Mm) : Option ((Int × Mm) ⊕ (Mm)) :=
  forceB (ltI x23 x22) fun c24 =>
  cond c24 (
    bindO (evP .e (.ixS 1 (.c v11) (.c (.i .i64 x23)))) fun v25 =>
    bindO (ldM ro m_5 true 1 v25) fun v26 =>
    asI .i64 v26 fun x26 =>
    forceI (wr .i64 (x14 - x26)) fun x30 =>
    bindO (evP .e (.ixS 1 (.c v20) (.c (.i .i64 x30)))) fun v31 =>
    bindP (stepM ro m_5 (.st 1 (.c v31) (.c (.i .u8 49)))) fun vn m_6 =>
    forceI (wr .i64 (x23 + 1)) fun x32 =>
    some (.inl (x32, m_6))) (
    some (.inr m_5))
def g52 (M : Means) (ro : List ABlk) (x0 : Int) (m0 : Mm) : Option (AVal × Heap × Nat × Nat) :=
  forceB (eqI x0 0) fun c9 =>
  cond c9 (
    finM m0.h.length (tupA [(.s [48])]) m0) (
    bindP (callM M.call m0 60 [(.i .i64 x0)]) fun v11 m_1 =>
    bindO (evP .e (.ixS 1 (.c v11) (.c (.i .i64 0)))) fun v13 =>
    bindO (ldM ro m_1 true 1 v13) fun v14 =>
    asI .i64 v14 fun x14 =>
    bindP (stepM ro m_1 (.bsl 5 1 [(AVal.i IntKind.u8 0)] 1 [((0, 1), .c (.i .u8 48))])) fun v15 m_2 =>
    bindP (stepM ro m_2 (.mks (.c v15))) fun v16 m_3 =>
    forceI (wr .i64 (x14 - 2)) fun x18 =>
    forceI (wr .i64 (x18 + 1)) fun x19 =>
    bindP (callM M.call m_3 73 [v16, (.i .i64 x19)]) fun v20 m_4 =>
    bindO (evP .e (.len false (.c v11))) fun v22 =>
    asI .i64 v22 fun x22 =>
    bindO (M.loop (S := Int × Mm) (R := Mm) (fun s => g52_b0 M ro x14 v20 v11 x22 s.1 s.2) (0, m_4)) fun m_7 =>
    bindO (btsM ro m_7 v20) fun v34 =>
    asS v34 fun s34 =>
    finM m0.h.length (tupA [(.s s34)]) m_7)

theorem g52_ok {ro : List ABlk} {O : Caller} {M : Means} (hM : M.Ok ⟨F, O⟩ ro) {x0 h r} (ho : O 52 [(.i .i64 x0)] h = none) (hr : g52 M ro x0 ⟨h, h.length, h.length⟩ = some r) : callX ⟨F, O⟩ ro 52 [(.i .i64 x0)] h = some r := by
  refine callX_of (F := ⟨F, O⟩) (fn := fn52) (g := g52 M ro x0) ho rfl rfl hr ?_
  clear ho
  clear hr
  intro m0 t0 ht hr
  have g0 : t0.get 0 = (.i .i64 x0) := ht 0
  clear ht
  unfold g52 at hr
  refine w_seq ?_
  refine w_ops ?_
  refine wo_step (v := (AVal.s [])) (s_pure (p_mv rfl)) ?_
  refine wo_nil ?_
  refine nx_norm ?_
  refine w_seq ?_
  refine w_seq ?_
  refine w_ops ?_
  refine wo_step (v := (.i .i64 x0)) (s_pure (p_mv g0)) ?_
  have hq := forceB_inv hr
  clear hr
  obtain ⟨c9, e9, hr⟩ := hq
  refine wo_step (v := (.b c9)) (s_pure (p_bin rfl rfl (b_eql.trans (cb e9)))) ?_
  refine wo_nil ?_
  refine nx_norm ?_
  have hq := cond_inv hr
  clear hr
  rcases hq with ⟨rfl, hr⟩ | ⟨rfl, hr⟩
  · refine w_condT rfl ?_
    refine w_seq ?_
    refine w_ops ?_
    refine wo_step (v := (AVal.s [48])) (s_pure (p_mv rfl)) ?_
    refine wo_nil ?_
    refine nx_norm ?_
    refine w_ret ?_
    refine nx_ret ?_
    exact qf ret_ok (rt rfl rn) hr
  · refine w_condF rfl ?_
    refine w_skip ?_
    refine nx_norm ?_
    refine w_seq ?_
    refine w_ops ?_
    refine wo_step (v := (.i .i64 x0)) (s_pure (p_mv g0)) ?_
    have hq := bindP_inv hr
    clear hr
    obtain ⟨v11, m_1, e11, hr⟩ := hq
    refine wo_step (v := v11) (s_call (mc rfl mn) (callM_le hM.call e11)) ?_
    refine wo_step (v := v11) (s_pure (p_mv rfl)) ?_
    refine wo_nil ?_
    refine nx_norm ?_
    refine w_seq ?_
    refine w_ops ?_
    refine wo_step (v := v11) (s_pure (p_mv rfl)) ?_
    have hq := bindO_inv hr
    clear hr
    obtain ⟨v13, e13, hr⟩ := hq
    refine wo_step (v := v13) (s_pure (o_ixS rfl rfl e13)) ?_
    have hq := bindO_inv hr
    clear hr
    obtain ⟨v14, e14, hr⟩ := hq
    have hq := asI_inv hr
    clear hr
    obtain ⟨x14, rfl, hr⟩ := hq
    refine wo_step (v := (.i .i64 x14)) (s_ld rfl e14) ?_
    refine wo_step (v := (.i .i64 x14)) (s_pure (p_mv rfl)) ?_
    refine wo_nil ?_
    refine nx_norm ?_
    refine w_seq ?_
    refine w_ops ?_
    have hq := bindP_inv hr
    clear hr
    obtain ⟨v15, m_2, e15, hr⟩ := hq
    refine wo_step (v := v15) (s_bsl (qc rfl qn) e15) ?_
    have hq := bindP_inv hr
    clear hr
    obtain ⟨v16, m_3, e16, hr⟩ := hq
    refine wo_step (v := v16) (s_mks rfl e16) ?_
    refine wo_step (v := (.i .i64 x14)) (s_pure (p_mv rfl)) ?_
    have hq := forceI_inv hr
    clear hr
    obtain ⟨x18, e18, hr⟩ := hq
    refine wo_step (v := (.i .i64 x18)) (s_pure (p_bin rfl rfl (b_sub.trans (ci e18)))) ?_
    have hq := forceI_inv hr
    clear hr
    obtain ⟨x19, e19, hr⟩ := hq
    refine wo_step (v := (.i .i64 x19)) (s_pure (p_bin rfl rfl (b_add.trans (ci e19)))) ?_
    have hq := bindP_inv hr
    clear hr
    obtain ⟨v20, m_4, e20, hr⟩ := hq
    refine wo_step (v := v20) (s_call (mc rfl (mc rfl mn)) (callM_le hM.call e20)) ?_
    refine wo_step (v := v20) (s_pure (p_mv rfl)) ?_
    refine wo_nil ?_
    refine nx_norm ?_
    refine w_seq ?_
    refine w_seq ?_
    refine w_ops ?_
    refine wo_step (v := v11) (s_pure (p_mv rfl)) ?_
    have hq := bindO_inv hr
    clear hr
    obtain ⟨v22, e22, hr⟩ := hq
    have hq := asI_inv hr
    clear hr
    obtain ⟨x22, rfl, hr⟩ := hq
    refine wo_step (v := (.i .i64 x22)) (s_pure (o_len rfl e22)) ?_
    refine wo_step (v := (.i .i64 0)) (s_pure (p_mv rfl)) ?_
    refine wo_nil ?_
    refine nx_norm ?_
    refine w_block ?_
    have hq := bindO_inv hr
    clear hr
    obtain ⟨o, hl, hr⟩ := hq
    obtain ⟨n, hl⟩ := hM.loop _ _ _ hl
    refine jp_mono (w_loop _ (g52_I0 x14 v20 v11 x22) (g52_J0 x14 v20 v11 x22) ?_ n _ _ _ _ hl ⟨rfl, gl rfl, gl rfl, gl rfl, gl rfl, gl rfl⟩) ?_
    · clear hr hl
      intro s mm_1 t_1 o hi hr
      obtain ⟨x23, m_5⟩ := s
      obtain ⟨rfl, g23, g4, g5, g21, g22⟩ := hi
      unfold g52_b0 at hr
      refine w_seq ?_
      refine w_ops ?_
      have hq := forceB_inv hr
      clear hr
      obtain ⟨c24, e24, hr⟩ := hq
      refine wo_step (v := (.b c24)) (s_pure (p_bin g23 g22 (b_lss.trans (cb e24)))) ?_
      refine wo_nil ?_
      refine nx_norm ?_
      refine w_seq ?_
      have hq := cond_inv hr
      clear hr
      rcases hq with ⟨rfl, hr⟩ | ⟨rfl, hr⟩
      · refine w_condT rfl ?_
        refine w_skip ?_
        refine nx_norm ?_
        refine w_seq ?_
        refine w_block ?_
        refine w_seq ?_
        refine w_ops ?_
        have hq := bindO_inv hr
        clear hr
        obtain ⟨v25, e25, hr⟩ := hq
        refine wo_step (v := v25) (s_pure (o_ixS g21 g23 e25)) ?_
        have hq := bindO_inv hr
        clear hr
        obtain ⟨v26, e26, hr⟩ := hq
        have hq := asI_inv hr
        clear hr
        obtain ⟨x26, rfl, hr⟩ := hq
        refine wo_step (v := (.i .i64 x26)) (s_ld rfl e26) ?_
        refine wo_step (v := (.i .i64 x26)) (s_pure (p_mv rfl)) ?_
        refine wo_nil ?_
        refine nx_norm ?_
        refine w_ops ?_
        refine wo_step (v := v20) (s_pure (p_mv g5)) ?_
        refine wo_step (v := (.i .i64 x14)) (s_pure (p_mv g4)) ?_
        refine wo_step (v := (.i .i64 x26)) (s_pure (p_mv rfl)) ?_
        have hq := forceI_inv hr
        clear hr
        obtain ⟨x30, e30, hr⟩ := hq
        refine wo_step (v := (.i .i64 x30)) (s_pure (p_bin rfl rfl (b_sub.trans (ci e30)))) ?_
        have hq := bindO_inv hr
        clear hr
        obtain ⟨v31, e31, hr⟩ := hq
        refine wo_step (v := v31) (s_pure (o_ixS rfl rfl e31)) ?_
        have hq := bindP_inv hr
        clear hr
        obtain ⟨vn, m_6, en, hr⟩ := hq
        refine wo_stepN (s_st rfl rfl en) ?_
        refine wo_nil ?_
        refine bk_norm ?_
        refine nx_norm ?_
        refine w_ops ?_
        have hq := forceI_inv hr
        clear hr
        obtain ⟨x32, e32, hr⟩ := hq
        refine wo_step (v := (.i .i64 x32)) (s_pure (p_bin g23 rfl (b_add.trans (ci e32)))) ?_
        refine wo_step (v := (.i .i64 x32)) (s_pure (p_mv rfl)) ?_
        refine wo_nil ?_
        cases hr
        exact ⟨_, _, rfl, rfl, rfl, gl rfl, gl g4, gl g5, gl g21, gl g22⟩
      · refine w_condF rfl ?_
        refine w_exit ?_
        refine nx_exit ?_
        cases hr
        exact ⟨_, _, rfl, ne_norm_exit, rfl, rfl, gl g5⟩
    · obtain ⟨m_7, ho⟩ : ∃ z, z = o := ⟨_, rfl⟩
      subst ho
      rintro _ mm t_2 ⟨rfl, rfl, g5⟩
      refine bk_hit ?_
      refine nx_norm ?_
      refine w_seq ?_
      refine w_ops ?_
      refine wo_step (v := v20) (s_pure (p_mv g5)) ?_
      have hq := bindO_inv hr
      clear hr
      obtain ⟨v34, e34, hr⟩ := hq
      have hq := asS_inv hr
      clear hr
      obtain ⟨s34, rfl, hr⟩ := hq
      refine wo_step (v := (.s s34)) (s_bts rfl e34) ?_
      refine wo_step (v := (.s s34)) (s_pure (p_mv rfl)) ?_
      refine wo_nil ?_
      refine nx_norm ?_
      refine w_ret ?_
      exact qf ret_ok (rt rfl rn) hr

/- dibber/seed.isWord -/
abbrev g55_I0 (s0 : List UInt8) (v7 : AVal) (s : Int × Mm) (m1 : Mm) (t1 : Tr) : Prop :=
  match s with
  | (x3, m_2) => m_2 = m1 ∧ t1.get 3 = (.i .i32 x3) ∧ t1.get 0 = (.s s0) ∧ t1.get 7 = v7
abbrev g55_J0 (s0 : List UInt8) (v7 : AVal) (o : (Mm ⊕ (Bool × Mm))) (e : AExit) (m1 : Mm) (t1 : Tr) : Prop :=
  match o with
  | (.inl mo) => e = (.exit 0) ∧ mo = m1 ∧ t1.get 0 = (.s s0)
  | (.inr (y2, mo)) => e = .ret ∧ mo = m1 ∧ t1.get 2 = (.b y2)
abbrev g55_J1 (s0 : List UInt8) (x3 : Int) (x10 : Int) (v7 : AVal) (m_3 : Mm) (o : Bool) (m1 : Mm) (t1 : Tr) : Prop :=
  match o with
  | c16 => m_3 = m1 ∧ t1.get 16 = (.b c16) ∧ t1.get 0 = (.s s0) ∧ t1.get 3 = (.i .i32 x3) ∧ t1.get 5 = (.i .i32 x10) ∧ t1.get 7 = v7
abbrev g55_J2 (s0 : List UInt8) (x10 : Int) (v7 : AVal) (m_3 : Mm) (o : Bool) (m1 : Mm) (t1 : Tr) : Prop :=
  match o with
  | c24 => m_3 = m1 ∧ t1.get 24 = (.b c24) ∧ t1.get 0 = (.s s0) ∧ t1.get 5 = (.i .i32 x10) ∧ t1.get 7 = v7
abbrev g55_J3 (s0 : List UInt8) (x10 : Int) (v7 : AVal) (m_3 : Mm) (o : Bool) (m1 : Mm) (t1 : Tr) : Prop :=
  match o with
  | c24_1 => m_3 = m1 ∧ t1.get 24 = (.b c24_1) ∧ t1.get 0 = (.s s0) ∧ t1.get 5 = (.i .i32 x10) ∧ t1.get 7 = v7
def g55_b0 (M : Means) (ro : List ABlk) (s0 : List UInt8) (v7 : AVal) (x3 : Int) (m_2 : Mm) : Option ((Int × Mm) ⊕ ((Mm ⊕ (Bool × Mm)))) :=
  bindP (stepM ro m_2 (.nxs (.c v7))) fun v8 m_3 =>
  bindO (evP .e (.ext 0 (.c v8))) fun v9 =>
  asB v9 fun c9 =>
  cond c9 (
    bindO (evP .e (.ext 2 (.c v8))) fun v10 =>
    asI .i32 v10 fun x10 =>
    forceB (!eqI x10 48) fun c12 =>
    bindO (cond c12 (
      forceB (!eqI x10 49) fun c15 =>
      some c15) (
      some false)) fun c16 =>
    bindO (cond c16 (
      some true) (
      forceB (eqI x10 49) fun c19 =>
      bindO (cond c19 (
        forceB (eqI x3 49) fun c22 =>
        some c22) (
        some false)) fun c24_1 =>
      some c24_1)) fun c24 =>
    cond c24 (
      some (.inr (.inr (false, m_3)))) (
      some (.inl (x10, m_3)))) (
    some (.inr (.inl m_3)))
abbrev g55_J4  (o : Bool × Mm) (m1 : Mm) (t1 : Tr) : Prop :=
  match o with
  | (c31, m_5) => m_5 = m1 ∧ t1.get 31 = (.b c31)
def g55 (M : Means) (ro : List ABlk) (s0 : List UInt8) (m0 : Mm) : Option (AVal × Heap × Nat × Nat) :=
  bindP (stepM ro m0 (.rgs (.c (.s s0)))) fun v7 m_1 =>
  bindO (M.loop (S := Int × Mm) (R := (Mm ⊕ (Bool × Mm))) (fun s => g55_b0 M ro s0 v7 s.1 s.2) (48, m_1)) fun o_3 => match o_3 with
  | (.inl m_4) =>
    bindO (evP .e (.sbin BinOp.eql (.c (.s s0)) (.c (AVal.s [48])))) fun v27 =>
    asB v27 fun c27 =>
    bindO (cond c27 (
      some (true, m_4)) (
      bindP (callM M.call m_4 74 [(.s s0), (AVal.s [49])]) fun v30 m_6 =>
      asB v30 fun c30 =>
      some (c30, m_6))) fun ⟨c31, m_5⟩ =>
    finM m0.h.length (tupA [(.b c31)]) m_5
  | (.inr (c2, m_7)) =>
    finM m0.h.length (tupA [(.b c2)]) m_7

theorem g55_ok {ro : List ABlk} {O : Caller} {M : Means} (hM : M.Ok ⟨F, O⟩ ro) {s0 h r} (ho : O 55 [(.s s0)] h = none) (hr : g55 M ro s0 ⟨h, h.length, h.length⟩ = some r) : callX ⟨F, O⟩ ro 55 [(.s s0)] h = some r := by
  refine callX_of (F := ⟨F, O⟩) (fn := fn55) (g := g55 M ro s0) ho rfl rfl hr ?_
  clear ho
  clear hr
  intro m0 t0 ht hr
  have g0 : t0.get 0 = (.s s0) := ht 0
  clear ht
  unfold g55 at hr
  refine w_seq ?_
  refine w_ops ?_
  refine wo_step (v := (.b false)) (s_pure (p_mv rfl)) ?_
  refine wo_nil ?_
  refine nx_norm ?_
  refine w_seq ?_
  refine w_ops ?_
  refine wo_step (v := (.i .i32 48)) (s_pure (p_mv rfl)) ?_
  refine wo_nil ?_
  refine nx_norm ?_
  refine w_seq ?_
  refine w_seq ?_
  refine w_ops ?_
  refine wo_step (v := (.s s0)) (s_pure (p_mv g0)) ?_
  have hq := bindP_inv hr
  clear hr
  obtain ⟨v7, m_1, e7, hr⟩ := hq
  refine wo_step (v := v7) (s_rgs rfl e7) ?_
  refine wo_nil ?_
  refine nx_norm ?_
  refine w_block ?_
  have hq := bindO_inv hr
  clear hr
  obtain ⟨o_3, hl, hr⟩ := hq
  obtain ⟨n, hl⟩ := hM.loop _ _ _ hl
  refine jp_mono (w_loop _ (g55_I0 s0 v7) (g55_J0 s0 v7) ?_ n _ _ _ _ hl ⟨rfl, gl rfl, gl g0, gl rfl⟩) ?_
  · clear hr hl
    intro s mm_6 t_1 o hi hr
    obtain ⟨x3, m_2⟩ := s
    obtain ⟨rfl, g3, g0, g7⟩ := hi
    unfold g55_b0 at hr
    refine w_seq ?_
    refine w_ops ?_
    have hq := bindP_inv hr
    clear hr
    obtain ⟨v8, m_3, e8, hr⟩ := hq
    refine wo_step (v := v8) (s_nxs g7 e8) ?_
    have hq := bindO_inv hr
    clear hr
    obtain ⟨v9, e9, hr⟩ := hq
    have hq := asB_inv hr
    clear hr
    obtain ⟨c9, rfl, hr⟩ := hq
    refine wo_step (v := (.b c9)) (s_pure (o_ext rfl e9)) ?_
    refine wo_nil ?_
    refine nx_norm ?_
    refine w_seq ?_
    have hq := cond_inv hr
    clear hr
    rcases hq with ⟨rfl, hr⟩ | ⟨rfl, hr⟩
    · refine w_condT rfl ?_
      refine w_skip ?_
      refine nx_norm ?_
      refine w_block ?_
      refine w_seq ?_
      refine w_ops ?_
      have hq := bindO_inv hr
      clear hr
      obtain ⟨v10, e10, hr⟩ := hq
      have hq := asI_inv hr
      clear hr
      obtain ⟨x10, rfl, hr⟩ := hq
      refine wo_step (v := (.i .i32 x10)) (s_pure (o_ext rfl e10)) ?_
      refine wo_step (v := (.i .i32 x10)) (s_pure (p_mv rfl)) ?_
      refine wo_nil ?_
      refine nx_norm ?_
      refine w_seq ?_
      refine w_seq ?_
      refine w_ops ?_
      refine wo_step (v := (.i .i32 x10)) (s_pure (p_mv rfl)) ?_
      have hq := forceB_inv hr
      clear hr
      obtain ⟨c12, e12, hr⟩ := hq
      refine wo_step (v := (.b c12)) (s_pure (p_bin rfl rfl (b_neq.trans (cb e12)))) ?_
      refine wo_step (v := (.b c12)) (s_pure (p_mv rfl)) ?_
      have hq := bindO_inv hr
      clear hr
      obtain ⟨o, hr, hk⟩ := hq
      refine wo_join 3 (g55_J1 s0 x3 x10 v7 m_3 o) ?_ ?_
      · clear hk
        have hq := cond_inv hr
        clear hr
        rcases hq with ⟨rfl, hr⟩ | ⟨rfl, hr⟩
        · refine wo_take (v := (.i .i32 x10)) rfl (s_pure (p_mv rfl)) ?_
          have hq := forceB_inv hr
          clear hr
          obtain ⟨c15, e15, hr⟩ := hq
          refine wo_take (v := (.b c15)) rfl (s_pure (p_bin rfl rfl (b_neq.trans (cb e15)))) ?_
          refine wo_step (v := (.b c15)) (s_pure (p_pickT rfl rfl)) ?_
          refine wo_nil ?_
          cases hr
          exact ⟨_, _, rfl, rfl, gl rfl, gl g0, gl g3, gl rfl, gl g7⟩
        · refine wo_skip (v := (.b false)) rfl rfl ?_
          refine wo_skip (v := (.b false)) rfl rfl ?_
          refine wo_step (v := (.b false)) (s_pure (p_pickF rfl rfl)) ?_
          refine wo_nil ?_
          cases hr
          exact ⟨_, _, rfl, rfl, gl rfl, gl g0, gl g3, gl rfl, gl g7⟩
      · clear hr
        have hr := hk
        clear hk
        obtain ⟨c16, ho⟩ : ∃ z, z = o := ⟨_, rfl⟩
        subst ho
        rintro mm t_2 ⟨rfl, g16, g0, g3, g5, g7⟩
        refine wo_step (v := (.b c16)) (s_pure (p_mv g16)) ?_
        have hq := bindO_inv hr
        clear hr
        obtain ⟨o_1, hr, hk⟩ := hq
        refine wo_join 7 (g55_J2 s0 x10 v7 m_3 o_1) ?_ ?_
        · clear hk
          have hq := cond_inv hr
          clear hr
          rcases hq with ⟨rfl, hr⟩ | ⟨rfl, hr⟩
          · refine wo_skip (v := (.b true)) rfl rfl ?_
            refine wo_skip (v := (.b true)) rfl rfl ?_
            refine wo_skip (v := (.b true)) rfl rfl ?_
            refine wo_skip (v := und) rfl rfl ?_
            refine wo_skip (v := und) rfl rfl ?_
            refine wo_skip (v := (.b true)) rfl rfl ?_
            refine wo_step (v := (.b true)) (s_pure (p_pickT rfl rfl)) ?_
            refine wo_nil ?_
            cases hr
            exact ⟨_, _, rfl, rfl, gl rfl, gl g0, gl g5, gl g7⟩
          · refine wo_take (v := (.i .i32 x10)) rfl (s_pure (p_mv g5)) ?_
            have hq := forceB_inv hr
            clear hr
            obtain ⟨c19, e19, hr⟩ := hq
            refine wo_take (v := (.b c19)) rfl (s_pure (p_bin rfl rfl (b_eql.trans (cb e19)))) ?_
            refine wo_take (v := (.b c19)) rfl (s_pure (p_mv rfl)) ?_
            have hq := bindO_inv hr
            clear hr
            obtain ⟨o_2, hr, hk⟩ := hq
            refine wo_join 4 (g55_J3 s0 x10 v7 m_3 o_2) ?_ ?_
            · clear hk
              have hq := cond_inv hr
              clear hr
              rcases hq with ⟨rfl, hr⟩ | ⟨rfl, hr⟩
              · refine wo_take (v := (.i .i32 x3)) rfl (s_pure (p_mv g3)) ?_
                have hq := forceB_inv hr
                clear hr
                obtain ⟨c22, e22, hr⟩ := hq
                refine wo_take (v := (.b c22)) rfl (s_pure (p_bin rfl rfl (b_eql.trans (cb e22)))) ?_
                refine wo_take (v := (.b c22)) rfl (s_pure (p_pickT rfl rfl)) ?_
                refine wo_step (v := (.b c22)) (s_pure (p_pickF rfl rfl)) ?_
                refine wo_nil ?_
                cases hr
                exact ⟨_, _, rfl, rfl, gl rfl, gl g0, gl g5, gl g7⟩
              · refine wo_skip (v := (.b false)) rfl rfl ?_
                refine wo_skip (v := (.b false)) rfl rfl ?_
                refine wo_take (v := (.b false)) rfl (s_pure (p_pickF rfl rfl)) ?_
                refine wo_step (v := (.b false)) (s_pure (p_pickF rfl rfl)) ?_
                refine wo_nil ?_
                cases hr
                exact ⟨_, _, rfl, rfl, gl rfl, gl g0, gl g5, gl g7⟩
            · clear hr
              have hr := hk
              clear hk
              obtain ⟨c24_1, ho⟩ : ∃ z, z = o_2 := ⟨_, rfl⟩
              subst ho
              rintro mm_1 t_3 ⟨rfl, g24, g0, g5, g7⟩
              refine wo_nil ?_
              cases hr
              exact ⟨_, _, rfl, rfl, gl g24, gl g0, gl g5, gl g7⟩
        · clear hr
          have hr := hk
          clear hk
          obtain ⟨c24, ho⟩ : ∃ z, z = o_1 := ⟨_, rfl⟩
          subst ho
          rintro mm_2 t_4 ⟨rfl, g24, g0, g5, g7⟩
          refine wo_nil ?_
          refine nx_norm ?_
          have hq := cond_inv hr
          clear hr
          rcases hq with ⟨rfl, hr⟩ | ⟨rfl, hr⟩
          · refine w_condT g24 ?_
            refine w_seq ?_
            refine w_ops ?_
            refine wo_step (v := (.b false)) (s_pure (p_mv rfl)) ?_
            refine wo_nil ?_
            refine nx_norm ?_
            refine w_ret ?_
            refine nx_ret ?_
            refine bk_ret ?_
            cases hr
            exact ⟨_, _, rfl, ne_norm_ret, rfl, rfl, gl rfl⟩
          · refine w_condF g24 ?_
            refine w_skip ?_
            refine nx_norm ?_
            refine w_ops ?_
            refine wo_step (v := (.i .i32 x10)) (s_pure (p_mv g5)) ?_
            refine wo_step (v := (.i .i32 x10)) (s_pure (p_mv rfl)) ?_
            refine wo_nil ?_
            refine bk_norm ?_
            cases hr
            exact ⟨_, _, rfl, rfl, rfl, gl rfl, gl g0, gl g7⟩
    · refine w_condF rfl ?_
      refine w_exit ?_
      refine nx_exit ?_
      cases hr
      exact ⟨_, _, rfl, ne_norm_exit, rfl, rfl, gl g0⟩
  · rcases o_3 with o_3 | o_3
    · obtain ⟨m_4, ho⟩ : ∃ z, z = o_3 := ⟨_, rfl⟩
      subst ho
      rintro _ mm_4 t_5 ⟨rfl, rfl, g0⟩
      refine bk_hit ?_
      refine nx_norm ?_
      refine w_seq ?_
      refine w_ops ?_
      refine wo_step (v := (.s s0)) (s_pure (p_mv g0)) ?_
      have hq := bindO_inv hr
      clear hr
      obtain ⟨v27, e27, hr⟩ := hq
      have hq := asB_inv hr
      clear hr
      obtain ⟨c27, rfl, hr⟩ := hq
      refine wo_step (v := (.b c27)) (s_pure (o_sbin rfl rfl e27)) ?_
      refine wo_step (v := (.b c27)) (s_pure (p_mv rfl)) ?_
      have hq := bindO_inv hr
      clear hr
      obtain ⟨o_4, hr, hk⟩ := hq
      refine wo_join 3 (g55_J4  o_4) ?_ ?_
      · clear hk
        have hq := cond_inv hr
        clear hr
        rcases hq with ⟨rfl, hr⟩ | ⟨rfl, hr⟩
        · refine wo_skip (v := (.b true)) rfl rfl ?_
          refine wo_skip (v := (.b true)) rfl rfl ?_
          refine wo_step (v := (.b true)) (s_pure (p_pickT rfl rfl)) ?_
          refine wo_nil ?_
          cases hr
          exact ⟨_, _, rfl, rfl, gl rfl⟩
        · refine wo_take (v := (.s s0)) rfl (s_pure (p_mv g0)) ?_
          have hq := bindP_inv hr
          clear hr
          obtain ⟨v30, m_6, e30, hr⟩ := hq
          have hq := asB_inv hr
          clear hr
          obtain ⟨c30, rfl, hr⟩ := hq
          refine wo_take (v := (.b c30)) rfl (s_call (mc rfl (mc rfl mn)) (callM_le hM.call e30)) ?_
          refine wo_step (v := (.b c30)) (s_pure (p_pickF rfl rfl)) ?_
          refine wo_nil ?_
          cases hr
          exact ⟨_, _, rfl, rfl, gl rfl⟩
      · clear hr
        have hr := hk
        clear hk
        obtain ⟨c31, m_5⟩ := o_4
        rintro mm_3 t_6 ⟨rfl, g31⟩
        refine wo_step (v := (.b c31)) (s_pure (p_mv g31)) ?_
        refine wo_nil ?_
        refine nx_norm ?_
        refine w_ret ?_
        exact qf ret_ok (rt rfl rn) hr
    · obtain ⟨c2, m_7⟩ := o_3
      rintro _ mm_5 t_7 ⟨rfl, rfl, g2⟩
      refine bk_ret ?_
      refine nx_ret ?_
      exact qf ret_ok (rt g2 rn) hr

/- dibber/seed.counted -/
abbrev g56_I0 (s0 : List UInt8) (v8 : AVal) (s : Int × Mm) (m1 : Mm) (t1 : Tr) : Prop :=
  match s with
  | (x3, m_2) => m_2 = m1 ∧ t1.get 3 = (.i .i64 x3) ∧ t1.get 0 = (.s s0) ∧ t1.get 8 = v8
abbrev g56_J0 (s0 : List UInt8) (v8 : AVal) (o : (Int × Mm)) (e : AExit) (m1 : Mm) (t1 : Tr) : Prop :=
  match o with
  | (y3, mo) => e = (.exit 0) ∧ mo = m1 ∧ t1.get 3 = (.i .i64 y3)
abbrev g56_I1 (s0 : List UInt8) (x19 : Int) (v8 : AVal) (x21 : Int) (m_4 : Mm) (s : Int × Int) (m1 : Mm) (t1 : Tr) : Prop :=
  match s with
  | (x3_1, x22) => m_4 = m1 ∧ t1.get 3 = (.i .i64 x3_1) ∧ t1.get 22 = (.i .i32 x22) ∧ t1.get 0 = (.s s0) ∧ t1.get 6 = (.i .i64 x19) ∧ t1.get 8 = v8 ∧ t1.get 21 = (.i .i32 x21)
abbrev g56_J1 (s0 : List UInt8) (x19 : Int) (v8 : AVal) (x21 : Int) (m_4 : Mm) (o : Int) (e : AExit) (m1 : Mm) (t1 : Tr) : Prop :=
  match o with
  | y3 => e = (.exit 2) ∧ m_4 = m1 ∧ t1.get 3 = (.i .i64 y3) ∧ t1.get 0 = (.s s0) ∧ t1.get 8 = v8
def g56_b1 (M : Means) (ro : List ABlk) (s0 : List UInt8) (x19 : Int) (v8 : AVal) (x21 : Int) (m_4 : Mm) (x3_1 : Int) (x22 : Int) : Option ((Int × Int) ⊕ (Int)) :=
  forceB (ltI x22 x21) fun c23 =>
  cond c23 (
    forceI (wr .i64 (x3_1 + x19)) fun x26 =>
    forceI (mxV false x26 1152921504606846977) fun x27 =>
    forceI (wr .i32 (x22 + 1)) fun x28 =>
    some (.inl (x27, x28))) (
    some (.inr x3_1))
def g56_b0 (M : Means) (ro : List ABlk) (s0 : List UInt8) (v8 : AVal) (x3 : Int) (m_2 : Mm) : Option ((Int × Mm) ⊕ ((Int × Mm))) :=
  bindP (stepM ro m_2 (.nxs (.c v8))) fun v9 m_3 =>
  bindO (evP .e (.ext 0 (.c v9))) fun v10 =>
  asB v10 fun c10 =>
  cond c10 (
    bindO (evP .e (.ext 1 (.c v9))) fun v11 =>
    asI .i64 v11 fun x11 =>
    bindO (evP .e (.ext 2 (.c v9))) fun v12 =>
    asI .i32 v12 fun x12 =>
    bindO (evP .e (.len true (.c (.s s0)))) fun v14 =>
    asI .i64 v14 fun x14 =>
    forceI (wr .i64 (x14 - 1)) fun x15 =>
    forceI (wr .i64 (x15 - x11)) fun x17 =>
    forceI (wr .i64 (x17 + 2)) fun x18 =>
    bindP (callM M.call m_3 71 [(.i .i64 x18)]) fun v19 m_4 =>
    asI .i64 v19 fun x19 =>
    forceI (wr .i32 (x12 - 48)) fun x21 =>
    bindO (M.loop (S := Int × Int) (R := Int) (fun s => g56_b1 M ro s0 x19 v8 x21 m_4 s.1 s.2) (x3, 0)) fun x3_2 =>
    some (.inl (x3_2, m_4))) (
    some (.inr (x3, m_3)))
def g56 (M : Means) (ro : List ABlk) (s0 : List UInt8) (m0 : Mm) : Option (AVal × Heap × Nat × Nat) :=
  bindP (stepM ro m0 (.rgs (.c (.s s0)))) fun v8 m_1 =>
  bindO (M.loop (S := Int × Mm) (R := (Int × Mm)) (fun s => g56_b0 M ro s0 v8 s.1 s.2) (0, m_1)) fun ⟨x3_3, m_5⟩ =>
  finM m0.h.length (tupA [(.i .i64 x3_3)]) m_5

theorem g56_ok {ro : List ABlk} {O : Caller} {M : Means} (hM : M.Ok ⟨F, O⟩ ro) {s0 h r} (ho : O 56 [(.s s0)] h = none) (hr : g56 M ro s0 ⟨h, h.length, h.length⟩ = some r) : callX ⟨F, O⟩ ro 56 [(.s s0)] h = some r := by
  refine callX_of (F := ⟨F, O⟩) (fn := fn56) (g := g56 M ro s0) ho rfl rfl hr ?_
  clear ho
  clear hr
  intro m0 t0 ht hr
  have g0 : t0.get 0 = (.s s0) := ht 0
  clear ht
  unfold g56 at hr
  refine w_seq ?_
  refine w_ops ?_
  refine wo_step (v := (.i .i64 0)) (s_pure (p_mv rfl)) ?_
  refine wo_nil ?_
  refine nx_norm ?_
  refine w_seq ?_
  refine w_ops ?_
  refine wo_step (v := (.i .i64 0)) (s_pure (p_mv rfl)) ?_
  refine wo_nil ?_
  refine nx_norm ?_
  refine w_seq ?_
  refine w_seq ?_
  refine w_ops ?_
  refine wo_step (v := (.s s0)) (s_pure (p_mv g0)) ?_
  have hq := bindP_inv hr
  clear hr
  obtain ⟨v8, m_1, e8, hr⟩ := hq
  refine wo_step (v := v8) (s_rgs rfl e8) ?_
  refine wo_nil ?_
  refine nx_norm ?_
  refine w_block ?_
  have hq := bindO_inv hr
  clear hr
  obtain ⟨o_1, hl_1, hr⟩ := hq
  obtain ⟨n_1, hl_1⟩ := hM.loop _ _ _ hl_1
  refine jp_mono (w_loop _ (g56_I0 s0 v8) (g56_J0 s0 v8) ?_ n_1 _ _ _ _ hl_1 ⟨rfl, gl rfl, gl g0, gl rfl⟩) ?_
  · clear hr hl_1
    intro s mm_3 t_1 o hi hr
    obtain ⟨x3, m_2⟩ := s
    obtain ⟨rfl, g3, g0, g8⟩ := hi
    unfold g56_b0 at hr
    refine w_seq ?_
    refine w_ops ?_
    have hq := bindP_inv hr
    clear hr
    obtain ⟨v9, m_3, e9, hr⟩ := hq
    refine wo_step (v := v9) (s_nxs g8 e9) ?_
    have hq := bindO_inv hr
    clear hr
    obtain ⟨v10, e10, hr⟩ := hq
    have hq := asB_inv hr
    clear hr
    obtain ⟨c10, rfl, hr⟩ := hq
    refine wo_step (v := (.b c10)) (s_pure (o_ext rfl e10)) ?_
    refine wo_nil ?_
    refine nx_norm ?_
    refine w_seq ?_
    have hq := cond_inv hr
    clear hr
    rcases hq with ⟨rfl, hr⟩ | ⟨rfl, hr⟩
    · refine w_condT rfl ?_
      refine w_skip ?_
      refine nx_norm ?_
      refine w_block ?_
      refine w_seq ?_
      refine w_ops ?_
      have hq := bindO_inv hr
      clear hr
      obtain ⟨v11, e11, hr⟩ := hq
      have hq := asI_inv hr
      clear hr
      obtain ⟨x11, rfl, hr⟩ := hq
      refine wo_step (v := (.i .i64 x11)) (s_pure (o_ext rfl e11)) ?_
      have hq := bindO_inv hr
      clear hr
      obtain ⟨v12, e12, hr⟩ := hq
      have hq := asI_inv hr
      clear hr
      obtain ⟨x12, rfl, hr⟩ := hq
      refine wo_step (v := (.i .i32 x12)) (s_pure (o_ext rfl e12)) ?_
      refine wo_step (v := (.i .i64 x11)) (s_pure (p_mv rfl)) ?_
      refine wo_step (v := (.i .i32 x12)) (s_pure (p_mv rfl)) ?_
      refine wo_nil ?_
      refine nx_norm ?_
      refine w_seq ?_
      refine w_ops ?_
      refine wo_step (v := (.s s0)) (s_pure (p_mv g0)) ?_
      have hq := bindO_inv hr
      clear hr
      obtain ⟨v14, e14, hr⟩ := hq
      have hq := asI_inv hr
      clear hr
      obtain ⟨x14, rfl, hr⟩ := hq
      refine wo_step (v := (.i .i64 x14)) (s_pure (o_len rfl e14)) ?_
      have hq := forceI_inv hr
      clear hr
      obtain ⟨x15, e15, hr⟩ := hq
      refine wo_step (v := (.i .i64 x15)) (s_pure (p_bin rfl rfl (b_sub.trans (ci e15)))) ?_
      refine wo_step (v := (.i .i64 x11)) (s_pure (p_mv rfl)) ?_
      have hq := forceI_inv hr
      clear hr
      obtain ⟨x17, e17, hr⟩ := hq
      refine wo_step (v := (.i .i64 x17)) (s_pure (p_bin rfl rfl (b_sub.trans (ci e17)))) ?_
      have hq := forceI_inv hr
      clear hr
      obtain ⟨x18, e18, hr⟩ := hq
      refine wo_step (v := (.i .i64 x18)) (s_pure (p_bin rfl rfl (b_add.trans (ci e18)))) ?_
      have hq := bindP_inv hr
      clear hr
      obtain ⟨v19, m_4, e19, hr⟩ := hq
      have hq := asI_inv hr
      clear hr
      obtain ⟨x19, rfl, hr⟩ := hq
      refine wo_step (v := (.i .i64 x19)) (s_call (mc rfl mn) (callM_le hM.call e19)) ?_
      refine wo_step (v := (.i .i64 x19)) (s_pure (p_mv rfl)) ?_
      refine wo_nil ?_
      refine nx_norm ?_
      refine w_seq ?_
      refine w_ops ?_
      refine wo_step (v := (.i .i32 x12)) (s_pure (p_mv rfl)) ?_
      have hq := forceI_inv hr
      clear hr
      obtain ⟨x21, e21, hr⟩ := hq
      refine wo_step (v := (.i .i32 x21)) (s_pure (p_bin rfl rfl (b_sub.trans (ci e21)))) ?_
      refine wo_step (v := (.i .i32 0)) (s_pure (p_mv rfl)) ?_
      refine wo_nil ?_
      refine nx_norm ?_
      refine w_block ?_
      have hq := bindO_inv hr
      clear hr
      obtain ⟨o, hl, hr⟩ := hq
      obtain ⟨n, hl⟩ := hM.loop _ _ _ hl
      refine jp_mono (w_loop _ (g56_I1 s0 x19 v8 x21 m_4) (g56_J1 s0 x19 v8 x21 m_4) ?_ n _ _ _ _ hl ⟨rfl, gl g3, gl rfl, gl g0, gl rfl, gl g8, gl rfl⟩) ?_
      · clear hr hl
        intro s mm_1 t_2 o hi hr
        obtain ⟨x3_1, x22⟩ := s
        obtain ⟨rfl, g3, g22, g0, g6, g8, g21⟩ := hi
        unfold g56_b1 at hr
        refine w_seq ?_
        refine w_ops ?_
        have hq := forceB_inv hr
        clear hr
        obtain ⟨c23, e23, hr⟩ := hq
        refine wo_step (v := (.b c23)) (s_pure (p_bin g22 g21 (b_lss.trans (cb e23)))) ?_
        refine wo_nil ?_
        refine nx_norm ?_
        refine w_seq ?_
        have hq := cond_inv hr
        clear hr
        rcases hq with ⟨rfl, hr⟩ | ⟨rfl, hr⟩
        · refine w_condT rfl ?_
          refine w_skip ?_
          refine nx_norm ?_
          refine w_seq ?_
          refine w_block ?_
          refine w_ops ?_
          refine wo_step (v := (.i .i64 x3_1)) (s_pure (p_mv g3)) ?_
          refine wo_step (v := (.i .i64 x19)) (s_pure (p_mv g6)) ?_
          have hq := forceI_inv hr
          clear hr
          obtain ⟨x26, e26, hr⟩ := hq
          refine wo_step (v := (.i .i64 x26)) (s_pure (p_bin rfl rfl (b_add.trans (ci e26)))) ?_
          have hq := forceI_inv hr
          clear hr
          obtain ⟨x27, e27, hr⟩ := hq
          refine wo_step (v := (.i .i64 x27)) (s_pure ((p_mx rfl rfl).trans (ci e27))) ?_
          refine wo_step (v := (.i .i64 x27)) (s_pure (p_mv rfl)) ?_
          refine wo_nil ?_
          refine bk_norm ?_
          refine nx_norm ?_
          refine w_ops ?_
          have hq := forceI_inv hr
          clear hr
          obtain ⟨x28, e28, hr⟩ := hq
          refine wo_step (v := (.i .i32 x28)) (s_pure (p_bin g22 rfl (b_add.trans (ci e28)))) ?_
          refine wo_step (v := (.i .i32 x28)) (s_pure (p_mv rfl)) ?_
          refine wo_nil ?_
          cases hr
          exact ⟨_, _, rfl, rfl, rfl, gl rfl, gl rfl, gl g0, gl g6, gl g8, gl g21⟩
        · refine w_condF rfl ?_
          refine w_exit ?_
          refine nx_exit ?_
          cases hr
          exact ⟨_, _, rfl, ne_norm_exit, rfl, rfl, gl g3, gl g0, gl g8⟩
      · obtain ⟨x3_2, ho⟩ : ∃ z, z = o := ⟨_, rfl⟩
        subst ho
        rintro _ mm t_3 ⟨rfl, rfl, g3, g0, g8⟩
        refine bk_hit ?_
        refine bk_norm ?_
        cases hr
        exact ⟨_, _, rfl, rfl, rfl, gl g3, gl g0, gl g8⟩
    · refine w_condF rfl ?_
      refine w_exit ?_
      refine nx_exit ?_
      cases hr
      exact ⟨_, _, rfl, ne_norm_exit, rfl, rfl, gl g3⟩
  · obtain ⟨x3_3, m_5⟩ := o_1
    rintro _ mm_2 t_4 ⟨rfl, rfl, g3⟩
    refine bk_hit ?_
    refine nx_norm ?_
    refine w_seq ?_
    refine w_ops ?_
    refine wo_step (v := (.i .i64 x3_3)) (s_pure (p_mv g3)) ?_
    refine wo_step (v := (.i .i64 x3_3)) (s_pure (p_mv rfl)) ?_
    refine wo_nil ?_
    refine nx_norm ?_
    refine w_ret ?_
    exact qf ret_ok (rt rfl rn) hr

/- dibber/seed.parts -/
abbrev g60_I0  (s : Int × AVal × Int × Int × Int × Mm) (m1 : Mm) (t1 : Tr) : Prop :=
  match s with
  | (x0_1, v3, x4, x5, x6, m_3) => m_3 = m1 ∧ t1.get 0 = (.i .i64 x0_1) ∧ t1.get 3 = v3 ∧ t1.get 4 = (.i .i64 x4) ∧ t1.get 5 = (.i .i64 x5) ∧ t1.get 6 = (.i .i64 x6)
abbrev g60_J0  (o : (AVal × Mm)) (e : AExit) (m1 : Mm) (t1 : Tr) : Prop :=
  match o with
  | (y3, mo) => e = (.exit 0) ∧ mo = m1 ∧ t1.get 3 = y3
abbrev g60_J1 (x4 : Int) (x5 : Int) (x6 : Int) (o : (Int × AVal × Mm)) (e : AExit) (m1 : Mm) (t1 : Tr) : Prop :=
  match o with
  | (y0, y3, mo) => e = .norm ∧ mo = m1 ∧ t1.get 0 = (.i .i64 y0) ∧ t1.get 3 = y3 ∧ t1.get 4 = (.i .i64 x4) ∧ t1.get 5 = (.i .i64 x5) ∧ t1.get 6 = (.i .i64 x6)
def g60_b0 (M : Means) (ro : List ABlk)  (x0_1 : Int) (v3 : AVal) (x4 : Int) (x5 : Int) (x6 : Int) (m_3 : Mm) : Option ((Int × AVal × Int × Int × Int × Mm) ⊕ ((AVal × Mm))) :=
  forceB (ltI 0 x0_1) fun c10 =>
  cond c10 (
    forceB (!ltI x0_1 x4) fun c15 =>
    bindO (α := (Int × AVal × Mm)) (
      cond c15 (
        bindP (stepM ro m_3 (.bsl 3 1 [(AVal.i IntKind.i64 0)] 1 [((0, 1), .c (.i .i64 x6))])) fun v18 m_4 =>
        bindP (stepM ro m_4 (.app 3 1 8 [(AVal.i IntKind.i64 0)] (.c v3) (.c v18))) fun v19 m_5 =>
        forceI (wr .i64 (x0_1 - x4)) fun x22 =>
        some (x22, v19, m_5)) (
        some (x0_1, v3, m_3))) fun ⟨x0_2, v3_1, m_6⟩ =>
    forceI (wr .i64 (x4 - x5)) fun x26 =>
    forceI (wr .i64 (x6 - 1)) fun x12 =>
    some (.inl (x0_2, v3_1, x5, x26, x12, m_6))) (
    some (.inr (v3, m_3)))
def g60 (M : Means) (ro : List ABlk) (x0 : Int) (m0 : Mm) : Option (AVal × Heap × Nat × Nat) :=
  bindP (callM M.call m0 71 [(.i .i64 88)]) fun v7 m_1 =>
  asI .i64 v7 fun x7 =>
  bindP (callM M.call m_1 71 [(.i .i64 87)]) fun v8 m_2 =>
  asI .i64 v8 fun x8 =>
  bindO (M.loop (S := Int × AVal × Int × Int × Int × Mm) (R := (AVal × Mm)) (fun s => g60_b0 M ro  s.1 s.2.1 s.2.2.1 s.2.2.2.1 s.2.2.2.2.1 s.2.2.2.2.2) (x0, AVal.nsl, x7, x8, 88, m_2)) fun ⟨v3_2, m_7⟩ =>
  finM m0.h.length (tupA [v3_2]) m_7

theorem g60_ok {ro : List ABlk} {O : Caller} {M : Means} (hM : M.Ok ⟨F, O⟩ ro) {x0 h r} (ho : O 60 [(.i .i64 x0)] h = none) (hr : g60 M ro x0 ⟨h, h.length, h.length⟩ = some r) : callX ⟨F, O⟩ ro 60 [(.i .i64 x0)] h = some r := by
  refine callX_of (F := ⟨F, O⟩) (fn := fn60) (g := g60 M ro x0) ho rfl rfl hr ?_
  clear ho
  clear hr
  intro m0 t0 ht hr
  have g0 : t0.get 0 = (.i .i64 x0) := ht 0
  clear ht
  unfold g60 at hr
  refine w_seq ?_
  refine w_ops ?_
  refine wo_step (v := AVal.nsl) (s_pure (p_mv rfl)) ?_
  refine wo_nil ?_
  refine nx_norm ?_
  refine w_seq ?_
  refine w_ops ?_
  refine wo_step (v := AVal.nsl) (s_pure (p_mv rfl)) ?_
  refine wo_nil ?_
  refine nx_norm ?_
  refine w_seq ?_
  refine w_ops ?_
  have hq := bindP_inv hr
  clear hr
  obtain ⟨v7, m_1, e7, hr⟩ := hq
  have hq := asI_inv hr
  clear hr
  obtain ⟨x7, rfl, hr⟩ := hq
  refine wo_step (v := (.i .i64 x7)) (s_call (mc rfl mn) (callM_le hM.call e7)) ?_
  have hq := bindP_inv hr
  clear hr
  obtain ⟨v8, m_2, e8, hr⟩ := hq
  have hq := asI_inv hr
  clear hr
  obtain ⟨x8, rfl, hr⟩ := hq
  refine wo_step (v := (.i .i64 x8)) (s_call (mc rfl mn) (callM_le hM.call e8)) ?_
  refine wo_step (v := (.i .i64 x7)) (s_pure (p_mv rfl)) ?_
  refine wo_step (v := (.i .i64 x8)) (s_pure (p_mv rfl)) ?_
  refine wo_nil ?_
  refine nx_norm ?_
  refine w_seq ?_
  refine w_seq ?_
  refine w_ops ?_
  refine wo_step (v := (.i .i64 88)) (s_pure (p_mv rfl)) ?_
  refine wo_nil ?_
  refine nx_norm ?_
  refine w_block ?_
  have hq := bindO_inv hr
  clear hr
  obtain ⟨o_1, hl, hr⟩ := hq
  obtain ⟨n, hl⟩ := hM.loop _ _ _ hl
  refine jp_mono (w_loop _ (g60_I0 ) (g60_J0 ) ?_ n _ _ _ _ hl ⟨rfl, gl g0, gl rfl, gl rfl, gl rfl, gl rfl⟩) ?_
  · clear hr hl
    intro s mm_2 t_1 o hi hr
    obtain ⟨x0_1, v3, x4, x5, x6, m_3⟩ := s
    obtain ⟨rfl, g0, g3, g4, g5, g6⟩ := hi
    unfold g60_b0 at hr
    refine w_seq ?_
    refine w_seq ?_
    refine w_ops ?_
    refine wo_step (v := (.i .i64 x0_1)) (s_pure (p_mv g0)) ?_
    have hq := forceB_inv hr
    clear hr
    obtain ⟨c10, e10, hr⟩ := hq
    refine wo_step (v := (.b c10)) (s_pure (p_bin rfl rfl (b_gtr.trans (cb e10)))) ?_
    refine wo_nil ?_
    refine nx_norm ?_
    have hq := cond_inv hr
    clear hr
    rcases hq with ⟨rfl, hr⟩ | ⟨rfl, hr⟩
    · refine w_condT rfl ?_
      refine w_skip ?_
      refine nx_norm ?_
      refine w_seq ?_
      refine w_block ?_
      refine w_seq ?_
      refine w_seq ?_
      refine w_ops ?_
      refine wo_step (v := (.i .i64 x4)) (s_pure (p_mv g4)) ?_
      refine wo_step (v := (.i .i64 x0_1)) (s_pure (p_mv g0)) ?_
      have hq := forceB_inv hr
      clear hr
      obtain ⟨c15, e15, hr⟩ := hq
      refine wo_step (v := (.b c15)) (s_pure (p_bin rfl rfl (b_leq.trans (cb e15)))) ?_
      refine wo_nil ?_
      refine nx_norm ?_
      have hq := bindO_inv hr
      clear hr
      obtain ⟨o, hr, hk⟩ := hq
      refine jp_mono (J := g60_J1 x4 x5 x6 o) ?_ ?_
      · clear hk
        have hq := cond_inv hr
        clear hr
        rcases hq with ⟨rfl, hr⟩ | ⟨rfl, hr⟩
        · refine w_condT rfl ?_
          refine w_seq ?_
          refine w_ops ?_
          refine wo_step (v := v3) (s_pure (p_mv g3)) ?_
          refine wo_step (v := (.i .i64 x6)) (s_pure (p_mv g6)) ?_
          have hq := bindP_inv hr
          clear hr
          obtain ⟨v18, m_4, e18, hr⟩ := hq
          refine wo_step (v := v18) (s_bsl (qc rfl qn) e18) ?_
          have hq := bindP_inv hr
          clear hr
          obtain ⟨v19, m_5, e19, hr⟩ := hq
          refine wo_step (v := v19) (s_app rfl rfl e19) ?_
          refine wo_step (v := v19) (s_pure (p_mv rfl)) ?_
          refine wo_nil ?_
          refine nx_norm ?_
          refine w_ops ?_
          refine wo_step (v := (.i .i64 x0_1)) (s_pure (p_mv g0)) ?_
          refine wo_step (v := (.i .i64 x4)) (s_pure (p_mv g4)) ?_
          have hq := forceI_inv hr
          clear hr
          obtain ⟨x22, e22, hr⟩ := hq
          refine wo_step (v := (.i .i64 x22)) (s_pure (p_bin rfl rfl (b_sub.trans (ci e22)))) ?_
          refine wo_step (v := (.i .i64 x22)) (s_pure (p_mv rfl)) ?_
          refine wo_nil ?_
          cases hr
          exact ⟨_, _, rfl, rfl, rfl, gl rfl, gl rfl, gl g4, gl g5, gl g6⟩
        · refine w_condF rfl ?_
          refine w_skip ?_
          cases hr
          exact ⟨_, _, rfl, rfl, rfl, gl g0, gl g3, gl g4, gl g5, gl g6⟩
      · clear hr
        have hr := hk
        clear hk
        obtain ⟨x0_2, v3_1, m_6⟩ := o
        rintro _ mm t_2 ⟨rfl, rfl, g0, g3, g4, g5, g6⟩
        refine nx_norm ?_
        refine w_ops ?_
        refine wo_step (v := (.i .i64 x5)) (s_pure (p_mv g5)) ?_
        refine wo_step (v := (.i .i64 x4)) (s_pure (p_mv g4)) ?_
        refine wo_step (v := (.i .i64 x5)) (s_pure (p_mv g5)) ?_
        have hq := forceI_inv hr
        clear hr
        obtain ⟨x26, e26, hr⟩ := hq
        refine wo_step (v := (.i .i64 x26)) (s_pure (p_bin rfl rfl (b_sub.trans (ci e26)))) ?_
        refine wo_step (v := (.i .i64 x5)) (s_pure (p_mv rfl)) ?_
        refine wo_step (v := (.i .i64 x26)) (s_pure (p_mv rfl)) ?_
        refine wo_nil ?_
        refine bk_norm ?_
        refine nx_norm ?_
        refine w_ops ?_
        refine wo_step (v := (.i .i64 x6)) (s_pure (p_mv g6)) ?_
        have hq := forceI_inv hr
        clear hr
        obtain ⟨x12, e12, hr⟩ := hq
        refine wo_step (v := (.i .i64 x12)) (s_pure (p_bin rfl rfl (b_sub.trans (ci e12)))) ?_
        refine wo_step (v := (.i .i64 x12)) (s_pure (p_mv rfl)) ?_
        refine wo_nil ?_
        cases hr
        exact ⟨_, _, rfl, rfl, rfl, gl g0, gl g3, gl rfl, gl rfl, gl rfl⟩
    · refine w_condF rfl ?_
      refine w_exit ?_
      refine nx_exit ?_
      cases hr
      exact ⟨_, _, rfl, ne_norm_exit, rfl, rfl, gl g3⟩
  · obtain ⟨v3_2, m_7⟩ := o_1
    rintro _ mm_1 t_3 ⟨rfl, rfl, g3⟩
    refine bk_hit ?_
    refine nx_norm ?_
    refine w_seq ?_
    refine w_ops ?_
    refine wo_step (v := v3_2) (s_pure (p_mv g3)) ?_
    refine wo_step (v := v3_2) (s_pure (p_mv rfl)) ?_
    refine wo_nil ?_
    refine nx_norm ?_
    refine w_ret ?_
    exact qf ret_ok (rt rfl rn) hr

/- dibber/seed.fibonacci -/
abbrev g71_I0 (x0 : Int) (x6 : Int) (m0 : Mm) (s : Int × Int × Int) (m1 : Mm) (t1 : Tr) : Prop :=
  match s with
  | (x3, x4, x7) => m0 = m1 ∧ t1.get 3 = (.i .i64 x3) ∧ t1.get 4 = (.i .i64 x4) ∧ t1.get 7 = (.i .i64 x7) ∧ t1.get 0 = (.i .i64 x0) ∧ t1.get 6 = (.i .i64 x6)
abbrev g71_J0 (x0 : Int) (x6 : Int) (m0 : Mm) (o : (Int × Int)) (e : AExit) (m1 : Mm) (t1 : Tr) : Prop :=
  match o with
  | (y3, y4) => e = (.exit 0) ∧ m0 = m1 ∧ t1.get 3 = (.i .i64 y3) ∧ t1.get 4 = (.i .i64 y4) ∧ t1.get 0 = (.i .i64 x0)
def g71_b0 (M : Means) (ro : List ABlk) (x0 : Int) (x6 : Int) (m0 : Mm) (x3 : Int) (x4 : Int) (x7 : Int) : Option ((Int × Int × Int) ⊕ ((Int × Int))) :=
  forceB (ltI x7 x6) fun c8 =>
  cond c8 (
    forceI (wr .i64 (x3 + x4)) fun x12 =>
    forceI (mxV false x12 1152921504606846977) fun x13 =>
    forceI (wr .i64 (x7 + 1)) fun x14 =>
    some (.inl (x4, x13, x14))) (
    some (.inr (x3, x4)))
abbrev g71_I1 (x16 : Int) (m0 : Mm) (s : Int × Int × Int) (m1 : Mm) (t1 : Tr) : Prop :=
  match s with
  | (x3_2, x4_2, x17) => m0 = m1 ∧ t1.get 3 = (.i .i64 x3_2) ∧ t1.get 4 = (.i .i64 x4_2) ∧ t1.get 17 = (.i .i64 x17) ∧ t1.get 16 = (.i .i64 x16)
abbrev g71_J1 (x16 : Int) (m0 : Mm) (o : Int) (e : AExit) (m1 : Mm) (t1 : Tr) : Prop :=
  match o with
  | y3 => e = (.exit 2) ∧ m0 = m1 ∧ t1.get 3 = (.i .i64 y3)
def g71_b1 (M : Means) (ro : List ABlk) (x16 : Int) (m0 : Mm) (x3_2 : Int) (x4_2 : Int) (x17 : Int) : Option ((Int × Int × Int) ⊕ (Int)) :=
  forceB (ltI x17 x16) fun c18 =>
  cond c18 (
    forceI (wr .i64 (x4_2 - x3_2)) fun x21 =>
    forceI (wr .i64 (x17 + 1)) fun x23 =>
    some (.inl (x21, x3_2, x23))) (
    some (.inr x3_2))
def g71 (M : Means) (ro : List ABlk) (x0 : Int) (m0 : Mm) : Option (AVal × Heap × Nat × Nat) :=
  forceI (mxV false x0 89) fun x6 =>
  bindO (M.loop (S := Int × Int × Int) (R := (Int × Int)) (fun s => g71_b0 M ro x0 x6 m0 s.1 s.2.1 s.2.2) (0, 1, 0)) fun ⟨x3_1, x4_1⟩ =>
  forceI (wr .i64 (0 - x0)) fun x16 =>
  bindO (M.loop (S := Int × Int × Int) (R := Int) (fun s => g71_b1 M ro x16 m0 s.1 s.2.1 s.2.2) (x3_1, x4_1, 0)) fun x3_3 =>
  finM m0.h.length (tupA [(.i .i64 x3_3)]) m0

theorem g71_ok {ro : List ABlk} {O : Caller} {M : Means} (hM : M.Ok ⟨F, O⟩ ro) {x0 h r} (ho : O 71 [(.i .i64 x0)] h = none) (hr : g71 M ro x0 ⟨h, h.length, h.length⟩ = some r) : callX ⟨F, O⟩ ro 71 [(.i .i64 x0)] h = some r := by
  refine callX_of (F := ⟨F, O⟩) (fn := fn71) (g := g71 M ro x0) ho rfl rfl hr ?_
  clear ho
  clear hr
  intro m0 t0 ht hr
  have g0 : t0.get 0 = (.i .i64 x0) := ht 0
  clear ht
  unfold g71 at hr
  refine w_seq ?_
  refine w_ops ?_
  refine wo_step (v := (.i .i64 0)) (s_pure (p_mv rfl)) ?_
  refine wo_nil ?_
  refine nx_norm ?_
  refine w_seq ?_
  refine w_ops ?_
  refine wo_step (v := (.i .i64 0)) (s_pure (p_mv rfl)) ?_
  refine wo_step (v := (.i .i64 1)) (s_pure (p_mv rfl)) ?_
  refine wo_nil ?_
  refine nx_norm ?_
  refine w_seq ?_
  refine w_seq ?_
  refine w_ops ?_
  refine wo_step (v := (.i .i64 x0)) (s_pure (p_mv g0)) ?_
  have hq := forceI_inv hr
  clear hr
  obtain ⟨x6, e6, hr⟩ := hq
  refine wo_step (v := (.i .i64 x6)) (s_pure ((p_mx rfl rfl).trans (ci e6))) ?_
  refine wo_step (v := (.i .i64 0)) (s_pure (p_mv rfl)) ?_
  refine wo_nil ?_
  refine nx_norm ?_
  refine w_block ?_
  have hq := bindO_inv hr
  clear hr
  obtain ⟨o, hl_1, hr⟩ := hq
  obtain ⟨n_1, hl_1⟩ := hM.loop _ _ _ hl_1
  refine jp_mono (w_loop _ (g71_I0 x0 x6 m0) (g71_J0 x0 x6 m0) ?_ n_1 _ _ _ _ hl_1 ⟨rfl, gl rfl, gl rfl, gl rfl, gl g0, gl rfl⟩) ?_
  · clear hr hl_1
    intro s mm_3 t_1 o hi hr
    obtain ⟨x3, x4, x7⟩ := s
    obtain ⟨rfl, g3, g4, g7, g0, g6⟩ := hi
    unfold g71_b0 at hr
    refine w_seq ?_
    refine w_ops ?_
    have hq := forceB_inv hr
    clear hr
    obtain ⟨c8, e8, hr⟩ := hq
    refine wo_step (v := (.b c8)) (s_pure (p_bin g7 g6 (b_lss.trans (cb e8)))) ?_
    refine wo_nil ?_
    refine nx_norm ?_
    refine w_seq ?_
    have hq := cond_inv hr
    clear hr
    rcases hq with ⟨rfl, hr⟩ | ⟨rfl, hr⟩
    · refine w_condT rfl ?_
      refine w_skip ?_
      refine nx_norm ?_
      refine w_seq ?_
      refine w_block ?_
      refine w_ops ?_
      refine wo_step (v := (.i .i64 x4)) (s_pure (p_mv g4)) ?_
      refine wo_step (v := (.i .i64 x3)) (s_pure (p_mv g3)) ?_
      refine wo_step (v := (.i .i64 x4)) (s_pure (p_mv g4)) ?_
      have hq := forceI_inv hr
      clear hr
      obtain ⟨x12, e12, hr⟩ := hq
      refine wo_step (v := (.i .i64 x12)) (s_pure (p_bin rfl rfl (b_add.trans (ci e12)))) ?_
      have hq := forceI_inv hr
      clear hr
      obtain ⟨x13, e13, hr⟩ := hq
      refine wo_step (v := (.i .i64 x13)) (s_pure ((p_mx rfl rfl).trans (ci e13))) ?_
      refine wo_step (v := (.i .i64 x4)) (s_pure (p_mv rfl)) ?_
      refine wo_step (v := (.i .i64 x13)) (s_pure (p_mv rfl)) ?_
      refine wo_nil ?_
      refine bk_norm ?_
      refine nx_norm ?_
      refine w_ops ?_
      have hq := forceI_inv hr
      clear hr
      obtain ⟨x14, e14, hr⟩ := hq
      refine wo_step (v := (.i .i64 x14)) (s_pure (p_bin g7 rfl (b_add.trans (ci e14)))) ?_
      refine wo_step (v := (.i .i64 x14)) (s_pure (p_mv rfl)) ?_
      refine wo_nil ?_
      cases hr
      exact ⟨_, _, rfl, rfl, rfl, gl rfl, gl rfl, gl rfl, gl g0, gl g6⟩
    · refine w_condF rfl ?_
      refine w_exit ?_
      refine nx_exit ?_
      cases hr
      exact ⟨_, _, rfl, ne_norm_exit, rfl, rfl, gl g3, gl g4, gl g0⟩
  · obtain ⟨x3_1, x4_1⟩ := o
    rintro _ mm_2 t_2 ⟨rfl, rfl, g3, g4, g0⟩
    refine bk_hit ?_
    refine nx_norm ?_
    refine w_seq ?_
    refine w_seq ?_
    refine w_ops ?_
    refine wo_step (v := (.i .i64 x0)) (s_pure (p_mv g0)) ?_
    have hq := forceI_inv hr
    clear hr
    obtain ⟨x16, e16, hr⟩ := hq
    refine wo_step (v := (.i .i64 x16)) (s_pure ((p_neg rfl).trans (ci e16))) ?_
    refine wo_step (v := (.i .i64 0)) (s_pure (p_mv rfl)) ?_
    refine wo_nil ?_
    refine nx_norm ?_
    refine w_block ?_
    have hq := bindO_inv hr
    clear hr
    obtain ⟨o_1, hl, hr⟩ := hq
    obtain ⟨n, hl⟩ := hM.loop _ _ _ hl
    refine jp_mono (w_loop _ (g71_I1 x16 m0) (g71_J1 x16 m0) ?_ n _ _ _ _ hl ⟨rfl, gl g3, gl g4, gl rfl, gl rfl⟩) ?_
    · clear hr hl
      intro s mm_1 t_3 o hi hr
      obtain ⟨x3_2, x4_2, x17⟩ := s
      obtain ⟨rfl, g3, g4, g17, g16⟩ := hi
      unfold g71_b1 at hr
      refine w_seq ?_
      refine w_ops ?_
      have hq := forceB_inv hr
      clear hr
      obtain ⟨c18, e18, hr⟩ := hq
      refine wo_step (v := (.b c18)) (s_pure (p_bin g17 g16 (b_lss.trans (cb e18)))) ?_
      refine wo_nil ?_
      refine nx_norm ?_
      refine w_seq ?_
      have hq := cond_inv hr
      clear hr
      rcases hq with ⟨rfl, hr⟩ | ⟨rfl, hr⟩
      · refine w_condT rfl ?_
        refine w_skip ?_
        refine nx_norm ?_
        refine w_seq ?_
        refine w_block ?_
        refine w_ops ?_
        refine wo_step (v := (.i .i64 x4_2)) (s_pure (p_mv g4)) ?_
        refine wo_step (v := (.i .i64 x3_2)) (s_pure (p_mv g3)) ?_
        have hq := forceI_inv hr
        clear hr
        obtain ⟨x21, e21, hr⟩ := hq
        refine wo_step (v := (.i .i64 x21)) (s_pure (p_bin rfl rfl (b_sub.trans (ci e21)))) ?_
        refine wo_step (v := (.i .i64 x3_2)) (s_pure (p_mv g3)) ?_
        refine wo_step (v := (.i .i64 x21)) (s_pure (p_mv rfl)) ?_
        refine wo_step (v := (.i .i64 x3_2)) (s_pure (p_mv rfl)) ?_
        refine wo_nil ?_
        refine bk_norm ?_
        refine nx_norm ?_
        refine w_ops ?_
        have hq := forceI_inv hr
        clear hr
        obtain ⟨x23, e23, hr⟩ := hq
        refine wo_step (v := (.i .i64 x23)) (s_pure (p_bin g17 rfl (b_add.trans (ci e23)))) ?_
        refine wo_step (v := (.i .i64 x23)) (s_pure (p_mv rfl)) ?_
        refine wo_nil ?_
        cases hr
        exact ⟨_, _, rfl, rfl, rfl, gl rfl, gl rfl, gl rfl, gl g16⟩
      · refine w_condF rfl ?_
        refine w_exit ?_
        refine nx_exit ?_
        cases hr
        exact ⟨_, _, rfl, ne_norm_exit, rfl, rfl, gl g3⟩
    · obtain ⟨x3_3, ho⟩ : ∃ z, z = o_1 := ⟨_, rfl⟩
      subst ho
      rintro _ mm t_4 ⟨rfl, rfl, g3⟩
      refine bk_hit ?_
      refine nx_norm ?_
      refine w_seq ?_
      refine w_ops ?_
      refine wo_step (v := (.i .i64 x3_3)) (s_pure (p_mv g3)) ?_
      refine wo_step (v := (.i .i64 x3_3)) (s_pure (p_mv rfl)) ?_
      refine wo_nil ?_
      refine nx_norm ?_
      refine w_ret ?_
      exact qf ret_ok (rt rfl rn) hr

/- bytes.Repeat -/
abbrev g73_J0 (v0 : AVal) (x26 : Int) (m_2 : Mm) (o : Bool) (m1 : Mm) (t1 : Tr) : Prop :=
  match o with
  | c32 => m_2 = m1 ∧ t1.get 32 = (.b c32) ∧ t1.get 0 = v0 ∧ t1.get 6 = (.i .u64 x26)
abbrev g73_J1 (v0 : AVal) (x35 : Int) (m_2 : Mm) (o : Int) (e : AExit) (m1 : Mm) (t1 : Tr) : Prop :=
  match o with
  | y8 => e = .norm ∧ m_2 = m1 ∧ t1.get 8 = (.i .i64 y8) ∧ t1.get 0 = v0 ∧ t1.get 7 = (.i .i64 x35)
abbrev g73_J2 (v0 : AVal) (x35 : Int) (m_2 : Mm) (o : Int) (e : AExit) (m1 : Mm) (t1 : Tr) : Prop :=
  match o with
  | y8 => e = .norm ∧ m_2 = m1 ∧ t1.get 8 = (.i .i64 y8) ∧ t1.get 0 = v0 ∧ t1.get 7 = (.i .i64 x35)
abbrev g73_I3 (x35 : Int) (x8_1 : Int) (v57 : AVal) (s : Int × Mm) (m1 : Mm) (t1 : Tr) : Prop :=
  match s with
  | (x10, m_6) => m_6 = m1 ∧ t1.get 10 = (.i .i64 x10) ∧ t1.get 7 = (.i .i64 x35) ∧ t1.get 8 = (.i .i64 x8_1) ∧ t1.get 9 = v57
abbrev g73_J3 (x35 : Int) (x8_1 : Int) (v57 : AVal) (o : Mm) (e : AExit) (m1 : Mm) (t1 : Tr) : Prop :=
  match o with
  | mo => e = (.exit 0) ∧ mo = m1 ∧ t1.get 9 = v57
def g73_b3 (M : Means) (ro : List ABlk) (x35 : Int) (x8_1 : Int) (v57 : AVal) (x10 : Int) (m_6 : Mm) : Option ((Int × Mm) ⊕ (Mm)) :=
  forceB (ltI x10 x35) fun c63 =>
  cond c63 (
    forceI (mxV false x10 x8_1) fun x66 =>
    bindO (evP .e (.slS 1 (.c v57) (some (.c (.i .i64 x10))) none none)) fun v70 =>
    bindO (evP .e (.slS 1 (.c v57) none (some (.c (.i .i64 x66))) none)) fun v73 =>
    bindP (stepM ro m_6 (.cpy 1 (.c v70) (.c v73))) fun v74 m_7 =>
    asI .i64 v74 fun x74 =>
    forceI (wr .i64 (x10 + x74)) fun x75 =>
    some (.inl (x75, m_7))) (
    some (.inr m_6))
def g73 (M : Means) (ro : List ABlk) (v0 : AVal) (x1 : Int) (m0 : Mm) : Option (AVal × Heap × Nat × Nat) :=
  forceB (eqI x1 0) fun c13 =>
  cond c13 (
    bindP (stepM ro m0 (.bsl 5 1 [(AVal.i IntKind.u8 0)] 0 [])) fun v14 m_1 =>
    finM m0.h.length (tupA [v14]) m_1) (
    forceB (ltI x1 0) fun c16 =>
    cond c16 (
      none) (
      bindO (evP .e (.len false (.c v0))) fun v20 =>
      asI .i64 v20 fun x20 =>
      forceI (wr .u64 x20) fun x21 =>
      forceI (wr .u64 x1) fun x23 =>
      bindP (callM M.call m0 78 [(.i .u64 x21), (.i .u64 x23)]) fun v24 m_2 =>
      bindO (evP .e (.ext 0 (.c v24))) fun v25 =>
      asI .u64 v25 fun x25 =>
      bindO (evP .e (.ext 1 (.c v24))) fun v26 =>
      asI .u64 v26 fun x26 =>
      forceB (ltI 0 x25) fun c28 =>
      bindO (cond c28 (
        some true) (
        forceB (ltI 9223372036854775807 x26) fun c31 =>
        some c31)) fun c32 =>
      cond c32 (
        none) (
        forceI (wr .i64 x26) fun x35 =>
        bindO (evP .e (.len false (.c v0))) fun v37 =>
        asI .i64 v37 fun x37 =>
        forceB (eqI x37 0) fun c38 =>
        cond c38 (
          bindP (stepM ro m_2 (.bsl 5 1 [(AVal.i IntKind.u8 0)] 0 [])) fun v39 m_3 =>
          finM m0.h.length (tupA [v39]) m_3) (
          forceB (ltI 8192 x35) fun c42 =>
          bindO (α := Int) (
            cond c42 (
              bindO (evP .e (.len false (.c v0))) fun v44 =>
              asI .i64 v44 fun x44 =>
              chk (!eqI x44 (.ofNat 0)) <|
              forceI (wr .i64 (Int.tdiv 8192 x44)) fun x45 =>
              bindO (evP .e (.len false (.c v0))) fun v47 =>
              asI .i64 v47 fun x47 =>
              forceI (wr .i64 (x45 * x47)) fun x48 =>
              forceB (eqI x48 0) fun c50 =>
              bindO (α := Int) (
                cond c50 (
                  bindO (evP .e (.len false (.c v0))) fun v52 =>
                  asI .i64 v52 fun x52 =>
                  some x52) (
                  some x48)) fun x8 =>
              some x8) (
              some x35)) fun x8_1 =>
          bindP (stepM ro m_2 (.mnz 5 (.c (.i .i64 x35)))) fun v54 m_4 =>
          bindO (evP .e (.slS 1 (.c v54) none (some (.c (.i .i64 x35))) (some (.c (.i .i64 x35))))) fun v57 =>
          bindP (stepM ro m_4 (.cpy 1 (.c v57) (.c v0))) fun v60 m_5 =>
          asI .i64 v60 fun x60 =>
          bindO (M.loop (S := Int × Mm) (R := Mm) (fun s => g73_b3 M ro x35 x8_1 v57 s.1 s.2) (x60, m_5)) fun m_8 =>
          finM m0.h.length (tupA [v57]) m_8))))

theorem g73_ok {ro : List ABlk} {O : Caller} {M : Means} (hM : M.Ok ⟨F, O⟩ ro) {v0 x1 h r} (ho : O 73 [v0, (.i .i64 x1)] h = none) (hr : g73 M ro v0 x1 ⟨h, h.length, h.length⟩ = some r) : callX ⟨F, O⟩ ro 73 [v0, (.i .i64 x1)] h = some r := by
  refine callX_of (F := ⟨F, O⟩) (fn := fn73) (g := g73 M ro v0 x1) ho rfl rfl hr ?_
  clear ho
  clear hr
  intro m0 t0 ht hr
  have g0 : t0.get 0 = v0 := ht 0
  have g1 : t0.get 1 = (.i .i64 x1) := ht 1
  clear ht
  unfold g73 at hr
  refine w_seq ?_
  refine w_ops ?_
  refine wo_step (v := AVal.nsl) (s_pure (p_mv rfl)) ?_
  refine wo_nil ?_
  refine nx_norm ?_
  refine w_seq ?_
  refine w_seq ?_
  refine w_ops ?_
  refine wo_step (v := (.i .i64 x1)) (s_pure (p_mv g1)) ?_
  have hq := forceB_inv hr
  clear hr
  obtain ⟨c13, e13, hr⟩ := hq
  refine wo_step (v := (.b c13)) (s_pure (p_bin rfl rfl (b_eql.trans (cb e13)))) ?_
  refine wo_nil ?_
  refine nx_norm ?_
  have hq := cond_inv hr
  clear hr
  rcases hq with ⟨rfl, hr⟩ | ⟨rfl, hr⟩
  · refine w_condT rfl ?_
    refine w_seq ?_
    refine w_ops ?_
    have hq := bindP_inv hr
    clear hr
    obtain ⟨v14, m_1, e14, hr⟩ := hq
    refine wo_step (v := v14) (s_bsl qn e14) ?_
    refine wo_step (v := v14) (s_pure (p_mv rfl)) ?_
    refine wo_nil ?_
    refine nx_norm ?_
    refine w_ret ?_
    refine nx_ret ?_
    exact qf ret_ok (rt rfl rn) hr
  · refine w_condF rfl ?_
    refine w_skip ?_
    refine nx_norm ?_
    refine w_seq ?_
    refine w_seq ?_
    refine w_ops ?_
    refine wo_step (v := (.i .i64 x1)) (s_pure (p_mv g1)) ?_
    have hq := forceB_inv hr
    clear hr
    obtain ⟨c16, e16, hr⟩ := hq
    refine wo_step (v := (.b c16)) (s_pure (p_bin rfl rfl (b_lss.trans (cb e16)))) ?_
    refine wo_nil ?_
    refine nx_norm ?_
    have hq := cond_inv hr
    clear hr
    rcases hq with ⟨rfl, hr⟩ | ⟨rfl, hr⟩
    · refine w_condT rfl ?_
      cases hr
    · refine w_condF rfl ?_
      refine w_skip ?_
      refine nx_norm ?_
      refine w_seq ?_
      refine w_ops ?_
      refine wo_step (v := v0) (s_pure (p_mv g0)) ?_
      have hq := bindO_inv hr
      clear hr
      obtain ⟨v20, e20, hr⟩ := hq
      have hq := asI_inv hr
      clear hr
      obtain ⟨x20, rfl, hr⟩ := hq
      refine wo_step (v := (.i .i64 x20)) (s_pure (o_len rfl e20)) ?_
      have hq := forceI_inv hr
      clear hr
      obtain ⟨x21, e21, hr⟩ := hq
      refine wo_step (v := (.i .u64 x21)) (s_pure ((p_conv rfl).trans (ci e21))) ?_
      refine wo_step (v := (.i .i64 x1)) (s_pure (p_mv g1)) ?_
      have hq := forceI_inv hr
      clear hr
      obtain ⟨x23, e23, hr⟩ := hq
      refine wo_step (v := (.i .u64 x23)) (s_pure ((p_conv rfl).trans (ci e23))) ?_
      have hq := bindP_inv hr
      clear hr
      obtain ⟨v24, m_2, e24, hr⟩ := hq
      refine wo_step (v := v24) (s_call (mc rfl (mc rfl mn)) (callM_le hM.call e24)) ?_
      refine wo_step (v := v24) (s_pure (p_mv rfl)) ?_
      have hq := bindO_inv hr
      clear hr
      obtain ⟨v25, e25, hr⟩ := hq
      have hq := asI_inv hr
      clear hr
      obtain ⟨x25, rfl, hr⟩ := hq
      refine wo_step (v := (.i .u64 x25)) (s_pure (o_ext rfl e25)) ?_
      have hq := bindO_inv hr
      clear hr
      obtain ⟨v26, e26, hr⟩ := hq
      have hq := asI_inv hr
      clear hr
      obtain ⟨x26, rfl, hr⟩ := hq
      refine wo_step (v := (.i .u64 x26)) (s_pure (o_ext rfl e26)) ?_
      refine wo_step (v := (.i .u64 x25)) (s_pure (p_mv rfl)) ?_
      refine wo_step (v := (.i .u64 x26)) (s_pure (p_mv rfl)) ?_
      refine wo_nil ?_
      refine nx_norm ?_
      refine w_seq ?_
      refine w_seq ?_
      refine w_ops ?_
      refine wo_step (v := (.i .u64 x25)) (s_pure (p_mv rfl)) ?_
      have hq := forceB_inv hr
      clear hr
      obtain ⟨c28, e28, hr⟩ := hq
      refine wo_step (v := (.b c28)) (s_pure (p_bin rfl rfl (b_gtr.trans (cb e28)))) ?_
      refine wo_step (v := (.b c28)) (s_pure (p_mv rfl)) ?_
      have hq := bindO_inv hr
      clear hr
      obtain ⟨o, hr, hk⟩ := hq
      refine wo_join 3 (g73_J0 v0 x26 m_2 o) ?_ ?_
      · clear hk
        have hq := cond_inv hr
        clear hr
        rcases hq with ⟨rfl, hr⟩ | ⟨rfl, hr⟩
        · refine wo_skip (v := (.b true)) rfl rfl ?_
          refine wo_skip (v := (.b true)) rfl rfl ?_
          refine wo_step (v := (.b true)) (s_pure (p_pickT rfl rfl)) ?_
          refine wo_nil ?_
          cases hr
          exact ⟨_, _, rfl, rfl, gl rfl, gl g0, gl rfl⟩
        · refine wo_take (v := (.i .u64 x26)) rfl (s_pure (p_mv rfl)) ?_
          have hq := forceB_inv hr
          clear hr
          obtain ⟨c31, e31, hr⟩ := hq
          refine wo_take (v := (.b c31)) rfl (s_pure (p_bin rfl rfl (b_gtr.trans (cb e31)))) ?_
          refine wo_step (v := (.b c31)) (s_pure (p_pickF rfl rfl)) ?_
          refine wo_nil ?_
          cases hr
          exact ⟨_, _, rfl, rfl, gl rfl, gl g0, gl rfl⟩
      · clear hr
        have hr := hk
        clear hk
        obtain ⟨c32, ho⟩ : ∃ z, z = o := ⟨_, rfl⟩
        subst ho
        rintro mm t_1 ⟨rfl, g32, g0, g6⟩
        refine wo_nil ?_
        refine nx_norm ?_
        have hq := cond_inv hr
        clear hr
        rcases hq with ⟨rfl, hr⟩ | ⟨rfl, hr⟩
        · refine w_condT g32 ?_
          cases hr
        · refine w_condF g32 ?_
          refine w_skip ?_
          refine nx_norm ?_
          refine w_seq ?_
          refine w_ops ?_
          refine wo_step (v := (.i .u64 x26)) (s_pure (p_mv g6)) ?_
          have hq := forceI_inv hr
          clear hr
          obtain ⟨x35, e35, hr⟩ := hq
          refine wo_step (v := (.i .i64 x35)) (s_pure ((p_conv rfl).trans (ci e35))) ?_
          refine wo_step (v := (.i .i64 x35)) (s_pure (p_mv rfl)) ?_
          refine wo_nil ?_
          refine nx_norm ?_
          refine w_seq ?_
          refine w_seq ?_
          refine w_ops ?_
          refine wo_step (v := v0) (s_pure (p_mv g0)) ?_
          have hq := bindO_inv hr
          clear hr
          obtain ⟨v37, e37, hr⟩ := hq
          have hq := asI_inv hr
          clear hr
          obtain ⟨x37, rfl, hr⟩ := hq
          refine wo_step (v := (.i .i64 x37)) (s_pure (o_len rfl e37)) ?_
          have hq := forceB_inv hr
          clear hr
          obtain ⟨c38, e38, hr⟩ := hq
          refine wo_step (v := (.b c38)) (s_pure (p_bin rfl rfl (b_eql.trans (cb e38)))) ?_
          refine wo_nil ?_
          refine nx_norm ?_
          have hq := cond_inv hr
          clear hr
          rcases hq with ⟨rfl, hr⟩ | ⟨rfl, hr⟩
          · refine w_condT rfl ?_
            refine w_seq ?_
            refine w_ops ?_
            have hq := bindP_inv hr
            clear hr
            obtain ⟨v39, m_3, e39, hr⟩ := hq
            refine wo_step (v := v39) (s_bsl qn e39) ?_
            refine wo_step (v := v39) (s_pure (p_mv rfl)) ?_
            refine wo_nil ?_
            refine nx_norm ?_
            refine w_ret ?_
            refine nx_ret ?_
            exact qf ret_ok (rt rfl rn) hr
          · refine w_condF rfl ?_
            refine w_skip ?_
            refine nx_norm ?_
            refine w_seq ?_
            refine w_ops ?_
            refine wo_step (v := (.i .i64 x35)) (s_pure (p_mv rfl)) ?_
            refine wo_step (v := (.i .i64 x35)) (s_pure (p_mv rfl)) ?_
            refine wo_nil ?_
            refine nx_norm ?_
            refine w_seq ?_
            refine w_seq ?_
            refine w_ops ?_
            refine wo_step (v := (.i .i64 x35)) (s_pure (p_mv rfl)) ?_
            have hq := forceB_inv hr
            clear hr
            obtain ⟨c42, e42, hr⟩ := hq
            refine wo_step (v := (.b c42)) (s_pure (p_bin rfl rfl (b_gtr.trans (cb e42)))) ?_
            refine wo_nil ?_
            refine nx_norm ?_
            have hq := bindO_inv hr
            clear hr
            obtain ⟨o_1, hr, hk⟩ := hq
            refine jp_mono (J := g73_J1 v0 x35 m_2 o_1) ?_ ?_
            · clear hk
              have hq := cond_inv hr
              clear hr
              rcases hq with ⟨rfl, hr⟩ | ⟨rfl, hr⟩
              · refine w_condT rfl ?_
                refine w_seq ?_
                refine w_ops ?_
                refine wo_step (v := v0) (s_pure (p_mv g0)) ?_
                have hq := bindO_inv hr
                clear hr
                obtain ⟨v44, e44, hr⟩ := hq
                have hq := asI_inv hr
                clear hr
                obtain ⟨x44, rfl, hr⟩ := hq
                refine wo_step (v := (.i .i64 x44)) (s_pure (o_len rfl e44)) ?_
                have hq := chk_inv hr
                clear hr
                obtain ⟨hc45, hr⟩ := hq
                have hq := forceI_inv hr
                clear hr
                obtain ⟨x45, e45, hr⟩ := hq
                refine wo_step (v := (.i .i64 x45)) (s_pure (p_bin rfl rfl ((b_quo hc45).trans (ci e45)))) ?_
                refine wo_step (v := v0) (s_pure (p_mv g0)) ?_
                have hq := bindO_inv hr
                clear hr
                obtain ⟨v47, e47, hr⟩ := hq
                have hq := asI_inv hr
                clear hr
                obtain ⟨x47, rfl, hr⟩ := hq
                refine wo_step (v := (.i .i64 x47)) (s_pure (o_len rfl e47)) ?_
                have hq := forceI_inv hr
                clear hr
                obtain ⟨x48, e48, hr⟩ := hq
                refine wo_step (v := (.i .i64 x48)) (s_pure (p_bin rfl rfl (b_mul.trans (ci e48)))) ?_
                refine wo_step (v := (.i .i64 x48)) (s_pure (p_mv rfl)) ?_
                refine wo_nil ?_
                refine nx_norm ?_
                refine w_seq ?_
                refine w_ops ?_
                refine wo_step (v := (.i .i64 x48)) (s_pure (p_mv rfl)) ?_
                have hq := forceB_inv hr
                clear hr
                obtain ⟨c50, e50, hr⟩ := hq
                refine wo_step (v := (.b c50)) (s_pure (p_bin rfl rfl (b_eql.trans (cb e50)))) ?_
                refine wo_nil ?_
                refine nx_norm ?_
                have hq := bindO_inv hr
                clear hr
                obtain ⟨o_2, hr, hk⟩ := hq
                refine jp_mono (J := g73_J2 v0 x35 m_2 o_2) ?_ ?_
                · clear hk
                  have hq := cond_inv hr
                  clear hr
                  rcases hq with ⟨rfl, hr⟩ | ⟨rfl, hr⟩
                  · refine w_condT rfl ?_
                    refine w_ops ?_
                    refine wo_step (v := v0) (s_pure (p_mv g0)) ?_
                    have hq := bindO_inv hr
                    clear hr
                    obtain ⟨v52, e52, hr⟩ := hq
                    have hq := asI_inv hr
                    clear hr
                    obtain ⟨x52, rfl, hr⟩ := hq
                    refine wo_step (v := (.i .i64 x52)) (s_pure (o_len rfl e52)) ?_
                    refine wo_step (v := (.i .i64 x52)) (s_pure (p_mv rfl)) ?_
                    refine wo_nil ?_
                    cases hr
                    exact ⟨_, _, rfl, rfl, rfl, gl rfl, gl g0, gl rfl⟩
                  · refine w_condF rfl ?_
                    refine w_skip ?_
                    cases hr
                    exact ⟨_, _, rfl, rfl, rfl, gl rfl, gl g0, gl rfl⟩
                · clear hr
                  have hr := hk
                  clear hk
                  obtain ⟨x8, ho⟩ : ∃ z, z = o_2 := ⟨_, rfl⟩
                  subst ho
                  rintro _ mm_1 t_2 ⟨rfl, rfl, g8, g0, g7⟩
                  cases hr
                  exact ⟨_, _, rfl, rfl, rfl, gl g8, gl g0, gl g7⟩
              · refine w_condF rfl ?_
                refine w_skip ?_
                cases hr
                exact ⟨_, _, rfl, rfl, rfl, gl rfl, gl g0, gl rfl⟩
            · clear hr
              have hr := hk
              clear hk
              obtain ⟨x8_1, ho⟩ : ∃ z, z = o_1 := ⟨_, rfl⟩
              subst ho
              rintro _ mm_4 t_3 ⟨rfl, rfl, g8, g0, g7⟩
              refine nx_norm ?_
              refine w_seq ?_
              refine w_ops ?_
              refine wo_step (v := (.i .i64 x35)) (s_pure (p_mv g7)) ?_
              have hq := bindP_inv hr
              clear hr
              obtain ⟨v54, m_4, e54, hr⟩ := hq
              refine wo_step (v := v54) (s_mnz rfl e54) ?_
              refine wo_step (v := (.i .i64 x35)) (s_pure (p_mv g7)) ?_
              refine wo_step (v := (.i .i64 x35)) (s_pure (p_mv g7)) ?_
              have hq := bindO_inv hr
              clear hr
              obtain ⟨v57, e57, hr⟩ := hq
              refine wo_step (v := v57) (s_pure (o_slS rfl on (os rfl) (os rfl) e57)) ?_
              refine wo_step (v := v57) (s_pure (p_mv rfl)) ?_
              refine wo_nil ?_
              refine nx_norm ?_
              refine w_seq ?_
              refine w_ops ?_
              refine wo_step (v := v57) (s_pure (p_mv rfl)) ?_
              refine wo_step (v := v0) (s_pure (p_mv g0)) ?_
              have hq := bindP_inv hr
              clear hr
              obtain ⟨v60, m_5, e60, hr⟩ := hq
              have hq := asI_inv hr
              clear hr
              obtain ⟨x60, rfl, hr⟩ := hq
              refine wo_step (v := (.i .i64 x60)) (s_cpy rfl rfl e60) ?_
              refine wo_step (v := (.i .i64 x60)) (s_pure (p_mv rfl)) ?_
              refine wo_nil ?_
              refine nx_norm ?_
              refine w_seq ?_
              refine w_block ?_
              have hq := bindO_inv hr
              clear hr
              obtain ⟨o_3, hl, hr⟩ := hq
              obtain ⟨n, hl⟩ := hM.loop _ _ _ hl
              refine jp_mono (w_loop _ (g73_I3 x35 x8_1 v57) (g73_J3 x35 x8_1 v57) ?_ n _ _ _ _ hl ⟨rfl, gl rfl, gl g7, gl g8, gl rfl⟩) ?_
              · clear hr hl
                intro s mm_3 t_4 o hi hr
                obtain ⟨x10, m_6⟩ := s
                obtain ⟨rfl, g10, g7, g8, g9⟩ := hi
                unfold g73_b3 at hr
                refine w_seq ?_
                refine w_seq ?_
                refine w_ops ?_
                refine wo_step (v := (.i .i64 x10)) (s_pure (p_mv g10)) ?_
                refine wo_step (v := (.i .i64 x35)) (s_pure (p_mv g7)) ?_
                have hq := forceB_inv hr
                clear hr
                obtain ⟨c63, e63, hr⟩ := hq
                refine wo_step (v := (.b c63)) (s_pure (p_bin rfl rfl (b_lss.trans (cb e63)))) ?_
                refine wo_nil ?_
                refine nx_norm ?_
                have hq := cond_inv hr
                clear hr
                rcases hq with ⟨rfl, hr⟩ | ⟨rfl, hr⟩
                · refine w_condT rfl ?_
                  refine w_skip ?_
                  refine nx_norm ?_
                  refine w_block ?_
                  refine w_seq ?_
                  refine w_ops ?_
                  refine wo_step (v := (.i .i64 x10)) (s_pure (p_mv g10)) ?_
                  refine wo_step (v := (.i .i64 x8_1)) (s_pure (p_mv g8)) ?_
                  have hq := forceI_inv hr
                  clear hr
                  obtain ⟨x66, e66, hr⟩ := hq
                  refine wo_step (v := (.i .i64 x66)) (s_pure ((p_mx rfl rfl).trans (ci e66))) ?_
                  refine wo_step (v := (.i .i64 x66)) (s_pure (p_mv rfl)) ?_
                  refine wo_nil ?_
                  refine nx_norm ?_
                  refine w_ops ?_
                  refine wo_step (v := (.i .i64 x10)) (s_pure (p_mv g10)) ?_
                  refine wo_step (v := v57) (s_pure (p_mv g9)) ?_
                  refine wo_step (v := (.i .i64 x10)) (s_pure (p_mv g10)) ?_
                  have hq := bindO_inv hr
                  clear hr
                  obtain ⟨v70, e70, hr⟩ := hq
                  refine wo_step (v := v70) (s_pure (o_slS rfl (os rfl) on on e70)) ?_
                  refine wo_step (v := v57) (s_pure (p_mv g9)) ?_
                  refine wo_step (v := (.i .i64 x66)) (s_pure (p_mv rfl)) ?_
                  have hq := bindO_inv hr
                  clear hr
                  obtain ⟨v73, e73, hr⟩ := hq
                  refine wo_step (v := v73) (s_pure (o_slS rfl on (os rfl) on e73)) ?_
                  have hq := bindP_inv hr
                  clear hr
                  obtain ⟨v74, m_7, e74, hr⟩ := hq
                  have hq := asI_inv hr
                  clear hr
                  obtain ⟨x74, rfl, hr⟩ := hq
                  refine wo_step (v := (.i .i64 x74)) (s_cpy rfl rfl e74) ?_
                  have hq := forceI_inv hr
                  clear hr
                  obtain ⟨x75, e75, hr⟩ := hq
                  refine wo_step (v := (.i .i64 x75)) (s_pure (p_bin rfl rfl (b_add.trans (ci e75)))) ?_
                  refine wo_step (v := (.i .i64 x75)) (s_pure (p_mv rfl)) ?_
                  refine wo_nil ?_
                  refine bk_norm ?_
                  cases hr
                  exact ⟨_, _, rfl, rfl, rfl, gl rfl, gl g7, gl g8, gl g9⟩
                · refine w_condF rfl ?_
                  refine w_exit ?_
                  refine nx_exit ?_
                  cases hr
                  exact ⟨_, _, rfl, ne_norm_exit, rfl, rfl, gl g9⟩
              · obtain ⟨m_8, ho⟩ : ∃ z, z = o_3 := ⟨_, rfl⟩
                subst ho
                rintro _ mm_2 t_5 ⟨rfl, rfl, g9⟩
                refine bk_hit ?_
                refine nx_norm ?_
                refine w_seq ?_
                refine w_ops ?_
                refine wo_step (v := v57) (s_pure (p_mv g9)) ?_
                refine wo_step (v := v57) (s_pure (p_mv rfl)) ?_
                refine wo_nil ?_
                refine nx_norm ?_
                refine w_ret ?_
                exact qf ret_ok (rt rfl rn) hr

/- strings.HasPrefix -/

def g74 (M : Means) (ro : List ABlk) (s0 : List UInt8) (s1 : List UInt8) (m0 : Mm) : Option (AVal × Heap × Nat × Nat) :=
  bindP (callM M.call m0 80 [(.s s0), (.s s1)]) fun v7 m_1 =>
  asB v7 fun c7 =>
  finM m0.h.length (tupA [(.b c7)]) m_1

theorem g74_ok {ro : List ABlk} {O : Caller} {M : Means} (hM : M.Ok ⟨F, O⟩ ro) {s0 s1 h r} (ho : O 74 [(.s s0), (.s s1)] h = none) (hr : g74 M ro s0 s1 ⟨h, h.length, h.length⟩ = some r) : callX ⟨F, O⟩ ro 74 [(.s s0), (.s s1)] h = some r := by
  refine callX_of (F := ⟨F, O⟩) (fn := fn74) (g := g74 M ro s0 s1) ho rfl rfl hr ?_
  clear ho
  clear hr
  intro m0 t0 ht hr
  have g0 : t0.get 0 = (.s s0) := ht 0
  have g1 : t0.get 1 = (.s s1) := ht 1
  clear ht
  unfold g74 at hr
  refine w_seq ?_
  refine w_ops ?_
  refine wo_step (v := (.b false)) (s_pure (p_mv rfl)) ?_
  refine wo_nil ?_
  refine nx_norm ?_
  refine w_seq ?_
  refine w_ops ?_
  refine wo_step (v := (.s s0)) (s_pure (p_mv g0)) ?_
  refine wo_step (v := (.s s1)) (s_pure (p_mv g1)) ?_
  have hq := bindP_inv hr
  clear hr
  obtain ⟨v7, m_1, e7, hr⟩ := hq
  have hq := asB_inv hr
  clear hr
  obtain ⟨c7, rfl, hr⟩ := hq
  refine wo_step (v := (.b c7)) (s_call (mc rfl (mc rfl mn)) (callM_le hM.call e7)) ?_
  refine wo_step (v := (.b c7)) (s_pure (p_mv rfl)) ?_
  refine wo_nil ?_
  refine nx_norm ?_
  refine w_ret ?_
  exact qf ret_ok (rt rfl rn) hr

/- math/bits.Mul -/

def g78 (M : Means) (ro : List ABlk) (x0 : Int) (x1 : Int) (m0 : Mm) : Option (AVal × Heap × Nat × Nat) :=
  bindP (callM M.call m0 86 [(.i .u64 x0), (.i .u64 x1)]) fun v25 m_1 =>
  bindO (evP .e (.ext 0 (.c v25))) fun v26 =>
  asI .u64 v26 fun x26 =>
  bindO (evP .e (.ext 1 (.c v25))) fun v27 =>
  asI .u64 v27 fun x27 =>
  finM m0.h.length (tupA [(.i .u64 x26), (.i .u64 x27)]) m_1

theorem g78_ok {ro : List ABlk} {O : Caller} {M : Means} (hM : M.Ok ⟨F, O⟩ ro) {x0 x1 h r} (ho : O 78 [(.i .u64 x0), (.i .u64 x1)] h = none) (hr : g78 M ro x0 x1 ⟨h, h.length, h.length⟩ = some r) : callX ⟨F, O⟩ ro 78 [(.i .u64 x0), (.i .u64 x1)] h = some r := by
  refine callX_of (F := ⟨F, O⟩) (fn := fn78) (g := g78 M ro x0 x1) ho rfl rfl hr ?_
  clear ho
  clear hr
  intro m0 t0 ht hr
  have g0 : t0.get 0 = (.i .u64 x0) := ht 0
  have g1 : t0.get 1 = (.i .u64 x1) := ht 1
  clear ht
  unfold g78 at hr
  refine w_seq ?_
  refine w_ops ?_
  refine wo_step (v := (.i .u64 0)) (s_pure (p_mv rfl)) ?_
  refine wo_step (v := (.i .u64 0)) (s_pure (p_mv rfl)) ?_
  refine wo_nil ?_
  refine nx_norm ?_
  refine w_seq ?_
  refine w_condF rfl ?_
  refine w_skip ?_
  refine nx_norm ?_
  refine w_seq ?_
  refine w_ops ?_
  refine wo_step (v := (.i .u64 x0)) (s_pure (p_mv g0)) ?_
  refine wo_step (v := (.i .u64 x1)) (s_pure (p_mv g1)) ?_
  have hq := bindP_inv hr
  clear hr
  obtain ⟨v25, m_1, e25, hr⟩ := hq
  refine wo_step (v := v25) (s_call (mc rfl (mc rfl mn)) (callM_le hM.call e25)) ?_
  refine wo_step (v := v25) (s_pure (p_mv rfl)) ?_
  have hq := bindO_inv hr
  clear hr
  obtain ⟨v26, e26, hr⟩ := hq
  have hq := asI_inv hr
  clear hr
  obtain ⟨x26, rfl, hr⟩ := hq
  refine wo_step (v := (.i .u64 x26)) (s_pure (o_ext rfl e26)) ?_
  have hq := bindO_inv hr
  clear hr
  obtain ⟨v27, e27, hr⟩ := hq
  have hq := asI_inv hr
  clear hr
  obtain ⟨x27, rfl, hr⟩ := hq
  refine wo_step (v := (.i .u64 x27)) (s_pure (o_ext rfl e27)) ?_
  refine wo_step (v := (.i .u64 x26)) (s_pure (p_mv rfl)) ?_
  refine wo_step (v := (.i .u64 x27)) (s_pure (p_mv rfl)) ?_
  refine wo_nil ?_
  refine nx_norm ?_
  refine w_seq ?_
  refine w_ops ?_
  refine wo_step (v := (.i .u64 x26)) (s_pure (p_mv rfl)) ?_
  refine wo_step (v := (.i .u64 x27)) (s_pure (p_mv rfl)) ?_
  refine wo_step (v := (.i .u64 x26)) (s_pure (p_mv rfl)) ?_
  refine wo_step (v := (.i .u64 x27)) (s_pure (p_mv rfl)) ?_
  refine wo_nil ?_
  refine nx_norm ?_
  refine w_ret ?_
  exact qf ret_ok (rt rfl (rt rfl rn)) hr

/- internal/stringslite.HasPrefix -/
abbrev g80_J0 (m0 : Mm) (o : Bool) (m1 : Mm) (t1 : Tr) : Prop :=
  match o with
  | c17 => m0 = m1 ∧ t1.get 17 = (.b c17)
def g80 (M : Means) (ro : List ABlk) (s0 : List UInt8) (s1 : List UInt8) (m0 : Mm) : Option (AVal × Heap × Nat × Nat) :=
  bindO (evP .e (.len true (.c (.s s0)))) fun v6 =>
  asI .i64 v6 fun x6 =>
  bindO (evP .e (.len true (.c (.s s1)))) fun v8 =>
  asI .i64 v8 fun x8 =>
  forceB (!ltI x6 x8) fun c9 =>
  bindO (cond c9 (
    bindO (evP .e (.len true (.c (.s s1)))) fun v13 =>
    asI .i64 v13 fun x13 =>
    bindO (evP .e (.slStr (.c (.s s0)) none (some (.c (.i .i64 x13))))) fun v14 =>
    asS v14 fun s14 =>
    bindO (evP .e (.sbin BinOp.eql (.c (.s s14)) (.c (.s s1)))) fun v16 =>
    asB v16 fun c16 =>
    some c16) (
    some false)) fun c17 =>
  finM m0.h.length (tupA [(.b c17)]) m0

theorem g80_ok {ro : List ABlk} {O : Caller} {M : Means} (hM : M.Ok ⟨F, O⟩ ro) {s0 s1 h r} (ho : O 80 [(.s s0), (.s s1)] h = none) (hr : g80 M ro s0 s1 ⟨h, h.length, h.length⟩ = some r) : callX ⟨F, O⟩ ro 80 [(.s s0), (.s s1)] h = some r := by
  refine callX_of (F := ⟨F, O⟩) (fn := fn80) (g := g80 M ro s0 s1) ho rfl rfl hr ?_
  clear ho
  clear hr
  intro m0 t0 ht hr
  have g0 : t0.get 0 = (.s s0) := ht 0
  have g1 : t0.get 1 = (.s s1) := ht 1
  clear ht
  unfold g80 at hr
  refine w_seq ?_
  refine w_ops ?_
  refine wo_step (v := (.b false)) (s_pure (p_mv rfl)) ?_
  refine wo_nil ?_
  refine nx_norm ?_
  refine w_seq ?_
  refine w_ops ?_
  refine wo_step (v := (.s s0)) (s_pure (p_mv g0)) ?_
  have hq := bindO_inv hr
  clear hr
  obtain ⟨v6, e6, hr⟩ := hq
  have hq := asI_inv hr
  clear hr
  obtain ⟨x6, rfl, hr⟩ := hq
  refine wo_step (v := (.i .i64 x6)) (s_pure (o_len rfl e6)) ?_
  refine wo_step (v := (.s s1)) (s_pure (p_mv g1)) ?_
  have hq := bindO_inv hr
  clear hr
  obtain ⟨v8, e8, hr⟩ := hq
  have hq := asI_inv hr
  clear hr
  obtain ⟨x8, rfl, hr⟩ := hq
  refine wo_step (v := (.i .i64 x8)) (s_pure (o_len rfl e8)) ?_
  have hq := forceB_inv hr
  clear hr
  obtain ⟨c9, e9, hr⟩ := hq
  refine wo_step (v := (.b c9)) (s_pure (p_bin rfl rfl (b_geq.trans (cb e9)))) ?_
  refine wo_step (v := (.b c9)) (s_pure (p_mv rfl)) ?_
  have hq := bindO_inv hr
  clear hr
  obtain ⟨o, hr, hk⟩ := hq
  refine wo_join 7 (g80_J0 m0 o) ?_ ?_
  · clear hk
    have hq := cond_inv hr
    clear hr
    rcases hq with ⟨rfl, hr⟩ | ⟨rfl, hr⟩
    · refine wo_take (v := (.s s0)) rfl (s_pure (p_mv g0)) ?_
      refine wo_take (v := (.s s1)) rfl (s_pure (p_mv g1)) ?_
      have hq := bindO_inv hr
      clear hr
      obtain ⟨v13, e13, hr⟩ := hq
      have hq := asI_inv hr
      clear hr
      obtain ⟨x13, rfl, hr⟩ := hq
      refine wo_take (v := (.i .i64 x13)) rfl (s_pure (o_len rfl e13)) ?_
      have hq := bindO_inv hr
      clear hr
      obtain ⟨v14, e14, hr⟩ := hq
      have hq := asS_inv hr
      clear hr
      obtain ⟨s14, rfl, hr⟩ := hq
      refine wo_take (v := (.s s14)) rfl (s_pure (o_slStr rfl on (os rfl) e14)) ?_
      refine wo_take (v := (.s s1)) rfl (s_pure (p_mv g1)) ?_
      have hq := bindO_inv hr
      clear hr
      obtain ⟨v16, e16, hr⟩ := hq
      have hq := asB_inv hr
      clear hr
      obtain ⟨c16, rfl, hr⟩ := hq
      refine wo_take (v := (.b c16)) rfl (s_pure (o_sbin rfl rfl e16)) ?_
      refine wo_step (v := (.b c16)) (s_pure (p_pickT rfl rfl)) ?_
      refine wo_nil ?_
      cases hr
      exact ⟨_, _, rfl, rfl, gl rfl⟩
    · refine wo_skip (v := (.b false)) rfl rfl ?_
      refine wo_skip (v := (.b false)) rfl rfl ?_
      refine wo_skip (v := (.b false)) rfl rfl ?_
      refine wo_skip (v := (.b false)) rfl rfl ?_
      refine wo_skip (v := (.b false)) rfl rfl ?_
      refine wo_skip (v := (.b false)) rfl rfl ?_
      refine wo_step (v := (.b false)) (s_pure (p_pickF rfl rfl)) ?_
      refine wo_nil ?_
      cases hr
      exact ⟨_, _, rfl, rfl, gl rfl⟩
  · clear hr
    have hr := hk
    clear hk
    obtain ⟨c17, ho⟩ : ∃ z, z = o := ⟨_, rfl⟩
    subst ho
    rintro mm t_1 ⟨rfl, g17⟩
    refine wo_step (v := (.b c17)) (s_pure (p_mv g17)) ?_
    refine wo_nil ?_
    refine nx_norm ?_
    refine w_ret ?_
    exact qf ret_ok (rt rfl rn) hr

/- math/bits.Mul64 -/

def g86 (M : Means) (ro : List ABlk) (x0 : Int) (x1 : Int) (m0 : Mm) : Option (AVal × Heap × Nat × Nat) :=
  forceI (bitV .and .u64 x0 4294967295) fun x15 =>
  forceI (shrV .u64 x0 32) fun x17 =>
  forceI (bitV .and .u64 x1 4294967295) fun x19 =>
  forceI (shrV .u64 x1 32) fun x21 =>
  forceI (wr .u64 (x15 * x19)) fun x24 =>
  forceI (wr .u64 (x17 * x19)) fun x27 =>
  forceI (shrV .u64 x24 32) fun x29 =>
  forceI (wr .u64 (x27 + x29)) fun x30 =>
  forceI (bitV .and .u64 x30 4294967295) fun x32 =>
  forceI (shrV .u64 x30 32) fun x34 =>
  forceI (wr .u64 (x15 * x21)) fun x38 =>
  forceI (wr .u64 (x32 + x38)) fun x39 =>
  forceI (wr .u64 (x17 * x21)) fun x42 =>
  forceI (wr .u64 (x42 + x34)) fun x44 =>
  forceI (shrV .u64 x39 32) fun x46 =>
  forceI (wr .u64 (x44 + x46)) fun x47 =>
  forceI (wr .u64 (x0 * x1)) fun x50 =>
  finM m0.h.length (tupA [(.i .u64 x47), (.i .u64 x50)]) m0

theorem g86_ok {ro : List ABlk} {O : Caller} {M : Means} (hM : M.Ok ⟨F, O⟩ ro) {x0 x1 h r} (ho : O 86 [(.i .u64 x0), (.i .u64 x1)] h = none) (hr : g86 M ro x0 x1 ⟨h, h.length, h.length⟩ = some r) : callX ⟨F, O⟩ ro 86 [(.i .u64 x0), (.i .u64 x1)] h = some r := by
  refine callX_of (F := ⟨F, O⟩) (fn := fn86) (g := g86 M ro x0 x1) ho rfl rfl hr ?_
  clear ho
  clear hr
  intro m0 t0 ht hr
  have g0 : t0.get 0 = (.i .u64 x0) := ht 0
  have g1 : t0.get 1 = (.i .u64 x1) := ht 1
  clear ht
  unfold g86 at hr
  refine w_seq ?_
  refine w_ops ?_
  refine wo_step (v := (.i .u64 0)) (s_pure (p_mv rfl)) ?_
  refine wo_step (v := (.i .u64 0)) (s_pure (p_mv rfl)) ?_
  refine wo_nil ?_
  refine nx_norm ?_
  refine w_seq ?_
  refine w_ops ?_
  refine wo_step (v := (.i .u64 x0)) (s_pure (p_mv g0)) ?_
  have hq := forceI_inv hr
  clear hr
  obtain ⟨x15, e15, hr⟩ := hq
  refine wo_step (v := (.i .u64 x15)) (s_pure (p_bin rfl rfl (b_and.trans (ci e15)))) ?_
  refine wo_step (v := (.i .u64 x15)) (s_pure (p_mv rfl)) ?_
  refine wo_nil ?_
  refine nx_norm ?_
  refine w_seq ?_
  refine w_ops ?_
  refine wo_step (v := (.i .u64 x0)) (s_pure (p_mv g0)) ?_
  have hq := forceI_inv hr
  clear hr
  obtain ⟨x17, e17, hr⟩ := hq
  refine wo_step (v := (.i .u64 x17)) (s_pure (p_bin rfl rfl ((b_shr rfl).trans (ci e17)))) ?_
  refine wo_step (v := (.i .u64 x17)) (s_pure (p_mv rfl)) ?_
  refine wo_nil ?_
  refine nx_norm ?_
  refine w_seq ?_
  refine w_ops ?_
  refine wo_step (v := (.i .u64 x1)) (s_pure (p_mv g1)) ?_
  have hq := forceI_inv hr
  clear hr
  obtain ⟨x19, e19, hr⟩ := hq
  refine wo_step (v := (.i .u64 x19)) (s_pure (p_bin rfl rfl (b_and.trans (ci e19)))) ?_
  refine wo_step (v := (.i .u64 x19)) (s_pure (p_mv rfl)) ?_
  refine wo_nil ?_
  refine nx_norm ?_
  refine w_seq ?_
  refine w_ops ?_
  refine wo_step (v := (.i .u64 x1)) (s_pure (p_mv g1)) ?_
  have hq := forceI_inv hr
  clear hr
  obtain ⟨x21, e21, hr⟩ := hq
  refine wo_step (v := (.i .u64 x21)) (s_pure (p_bin rfl rfl ((b_shr rfl).trans (ci e21)))) ?_
  refine wo_step (v := (.i .u64 x21)) (s_pure (p_mv rfl)) ?_
  refine wo_nil ?_
  refine nx_norm ?_
  refine w_seq ?_
  refine w_ops ?_
  refine wo_step (v := (.i .u64 x15)) (s_pure (p_mv rfl)) ?_
  refine wo_step (v := (.i .u64 x19)) (s_pure (p_mv rfl)) ?_
  have hq := forceI_inv hr
  clear hr
  obtain ⟨x24, e24, hr⟩ := hq
  refine wo_step (v := (.i .u64 x24)) (s_pure (p_bin rfl rfl (b_mul.trans (ci e24)))) ?_
  refine wo_step (v := (.i .u64 x24)) (s_pure (p_mv rfl)) ?_
  refine wo_nil ?_
  refine nx_norm ?_
  refine w_seq ?_
  refine w_ops ?_
  refine wo_step (v := (.i .u64 x17)) (s_pure (p_mv rfl)) ?_
  refine wo_step (v := (.i .u64 x19)) (s_pure (p_mv rfl)) ?_
  have hq := forceI_inv hr
  clear hr
  obtain ⟨x27, e27, hr⟩ := hq
  refine wo_step (v := (.i .u64 x27)) (s_pure (p_bin rfl rfl (b_mul.trans (ci e27)))) ?_
  refine wo_step (v := (.i .u64 x24)) (s_pure (p_mv rfl)) ?_
  have hq := forceI_inv hr
  clear hr
  obtain ⟨x29, e29, hr⟩ := hq
  refine wo_step (v := (.i .u64 x29)) (s_pure (p_bin rfl rfl ((b_shr rfl).trans (ci e29)))) ?_
  have hq := forceI_inv hr
  clear hr
  obtain ⟨x30, e30, hr⟩ := hq
  refine wo_step (v := (.i .u64 x30)) (s_pure (p_bin rfl rfl (b_add.trans (ci e30)))) ?_
  refine wo_step (v := (.i .u64 x30)) (s_pure (p_mv rfl)) ?_
  refine wo_nil ?_
  refine nx_norm ?_
  refine w_seq ?_
  refine w_ops ?_
  refine wo_step (v := (.i .u64 x30)) (s_pure (p_mv rfl)) ?_
  have hq := forceI_inv hr
  clear hr
  obtain ⟨x32, e32, hr⟩ := hq
  refine wo_step (v := (.i .u64 x32)) (s_pure (p_bin rfl rfl (b_and.trans (ci e32)))) ?_
  refine wo_step (v := (.i .u64 x32)) (s_pure (p_mv rfl)) ?_
  refine wo_nil ?_
  refine nx_norm ?_
  refine w_seq ?_
  refine w_ops ?_
  refine wo_step (v := (.i .u64 x30)) (s_pure (p_mv rfl)) ?_
  have hq := forceI_inv hr
  clear hr
  obtain ⟨x34, e34, hr⟩ := hq
  refine wo_step (v := (.i .u64 x34)) (s_pure (p_bin rfl rfl ((b_shr rfl).trans (ci e34)))) ?_
  refine wo_step (v := (.i .u64 x34)) (s_pure (p_mv rfl)) ?_
  refine wo_nil ?_
  refine nx_norm ?_
  refine w_seq ?_
  refine w_ops ?_
  refine wo_step (v := (.i .u64 x32)) (s_pure (p_mv rfl)) ?_
  refine wo_step (v := (.i .u64 x15)) (s_pure (p_mv rfl)) ?_
  refine wo_step (v := (.i .u64 x21)) (s_pure (p_mv rfl)) ?_
  have hq := forceI_inv hr
  clear hr
  obtain ⟨x38, e38, hr⟩ := hq
  refine wo_step (v := (.i .u64 x38)) (s_pure (p_bin rfl rfl (b_mul.trans (ci e38)))) ?_
  have hq := forceI_inv hr
  clear hr
  obtain ⟨x39, e39, hr⟩ := hq
  refine wo_step (v := (.i .u64 x39)) (s_pure (p_bin rfl rfl (b_add.trans (ci e39)))) ?_
  refine wo_step (v := (.i .u64 x39)) (s_pure (p_mv rfl)) ?_
  refine wo_nil ?_
  refine nx_norm ?_
  refine w_seq ?_
  refine w_ops ?_
  refine wo_step (v := (.i .u64 x17)) (s_pure (p_mv rfl)) ?_
  refine wo_step (v := (.i .u64 x21)) (s_pure (p_mv rfl)) ?_
  have hq := forceI_inv hr
  clear hr
  obtain ⟨x42, e42, hr⟩ := hq
  refine wo_step (v := (.i .u64 x42)) (s_pure (p_bin rfl rfl (b_mul.trans (ci e42)))) ?_
  refine wo_step (v := (.i .u64 x34)) (s_pure (p_mv rfl)) ?_
  have hq := forceI_inv hr
  clear hr
  obtain ⟨x44, e44, hr⟩ := hq
  refine wo_step (v := (.i .u64 x44)) (s_pure (p_bin rfl rfl (b_add.trans (ci e44)))) ?_
  refine wo_step (v := (.i .u64 x39)) (s_pure (p_mv rfl)) ?_
  have hq := forceI_inv hr
  clear hr
  obtain ⟨x46, e46, hr⟩ := hq
  refine wo_step (v := (.i .u64 x46)) (s_pure (p_bin rfl rfl ((b_shr rfl).trans (ci e46)))) ?_
  have hq := forceI_inv hr
  clear hr
  obtain ⟨x47, e47, hr⟩ := hq
  refine wo_step (v := (.i .u64 x47)) (s_pure (p_bin rfl rfl (b_add.trans (ci e47)))) ?_
  refine wo_step (v := (.i .u64 x47)) (s_pure (p_mv rfl)) ?_
  refine wo_nil ?_
  refine nx_norm ?_
  refine w_seq ?_
  refine w_ops ?_
  refine wo_step (v := (.i .u64 x0)) (s_pure (p_mv g0)) ?_
  refine wo_step (v := (.i .u64 x1)) (s_pure (p_mv g1)) ?_
  have hq := forceI_inv hr
  clear hr
  obtain ⟨x50, e50, hr⟩ := hq
  refine wo_step (v := (.i .u64 x50)) (s_pure (p_bin rfl rfl (b_mul.trans (ci e50)))) ?_
  refine wo_step (v := (.i .u64 x50)) (s_pure (p_mv rfl)) ?_
  refine wo_nil ?_
  refine nx_norm ?_
  refine w_ret ?_
  exact qf ret_ok (rt rfl (rt rfl rn)) hr

end Go.Proofs.Ytobmcofkcfifkaa.T

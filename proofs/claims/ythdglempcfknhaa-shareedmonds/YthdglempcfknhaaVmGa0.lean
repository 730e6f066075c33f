/- Plain functions, and that the small machine answers as they do. -/
import Derived.Test.YthdglempcfknhaaVmP
import Derived.Test.YthdglempcfknhaaVmAE
open Go.Vm
set_option linter.unusedVariables false
namespace Go.Proofs.Ythdglempcfknhaa.T
open Go
/- dibber/dibberlaw08.ShareEdmonds -/
abbrev g10_J0 (x31 : Int) (v39 : AVal) (m_6 : Mm) (o : Bool) (m1 : Mm) (t1 : Tr) : Prop :=
  match o with
  | c51 => m_6 = m1 ∧ t1.get 51 = (.b c51) ∧ t1.get 9 = (.i .i64 x31) ∧ t1.get 13 = v39
abbrev g10_J1 (m_6 : Mm) (o : Bool) (m1 : Mm) (t1 : Tr) : Prop :=
  match o with
  | c58 => m_6 = m1 ∧ t1.get 58 = (.b c58)
abbrev g10_J2  (o : Bool × Mm) (m1 : Mm) (t1 : Tr) : Prop :=
  match o with
  | (c61, m_7) => m_7 = m1 ∧ t1.get 61 = (.b c61)
abbrev g10_J3 (x0 : Int) (v1 : AVal) (v2 : AVal) (x3 : Int) (x31 : Int) (v39 : AVal) (x67 : Int) (c68 : Bool) (x69 : Int) (m_9 : Mm) (o : Bool) (m1 : Mm) (t1 : Tr) : Prop :=
  match o with
  | c75 => m_9 = m1 ∧ t1.get 75 = (.b c75) ∧ t1.get 0 = (.i .i64 x0) ∧ t1.get 1 = v1 ∧ t1.get 2 = v2 ∧ t1.get 3 = (.i .u8 x3) ∧ t1.get 9 = (.i .i64 x31) ∧ t1.get 13 = v39 ∧ t1.get 15 = (.i .i64 x67) ∧ t1.get 16 = (.b c68) ∧ t1.get 17 = (.i .i64 x69)
abbrev g10_J4 (x0 : Int) (v1 : AVal) (v2 : AVal) (x3 : Int) (x31 : Int) (v39 : AVal) (x67 : Int) (c68 : Bool) (m_9 : Mm) (o : Bool) (m1 : Mm) (t1 : Tr) : Prop :=
  match o with
  | c79 => m_9 = m1 ∧ t1.get 79 = (.b c79) ∧ t1.get 0 = (.i .i64 x0) ∧ t1.get 1 = v1 ∧ t1.get 2 = v2 ∧ t1.get 3 = (.i .u8 x3) ∧ t1.get 9 = (.i .i64 x31) ∧ t1.get 13 = v39 ∧ t1.get 15 = (.i .i64 x67) ∧ t1.get 16 = (.b c68)
abbrev g10_J5 (x0 : Int) (v1 : AVal) (v2 : AVal) (x3 : Int) (x31 : Int) (v39 : AVal) (x67 : Int) (m_9 : Mm) (o : Bool) (m1 : Mm) (t1 : Tr) : Prop :=
  match o with
  | c83 => m_9 = m1 ∧ t1.get 83 = (.b c83) ∧ t1.get 0 = (.i .i64 x0) ∧ t1.get 1 = v1 ∧ t1.get 2 = v2 ∧ t1.get 3 = (.i .u8 x3) ∧ t1.get 9 = (.i .i64 x31) ∧ t1.get 13 = v39 ∧ t1.get 15 = (.i .i64 x67)
abbrev g10_J6 (x0 : Int) (v1 : AVal) (v2 : AVal) (x3 : Int) (x31 : Int) (v39 : AVal) (m_9 : Mm) (o : Bool) (m1 : Mm) (t1 : Tr) : Prop :=
  match o with
  | c88 => m_9 = m1 ∧ t1.get 88 = (.b c88) ∧ t1.get 0 = (.i .i64 x0) ∧ t1.get 1 = v1 ∧ t1.get 2 = v2 ∧ t1.get 3 = (.i .u8 x3) ∧ t1.get 9 = (.i .i64 x31) ∧ t1.get 13 = v39
abbrev g10_J7 (v1 : AVal) (v2 : AVal) (x3 : Int) (x31 : Int) (v39 : AVal) (x94 : Int) (m_10 : Mm) (o : Bool) (m1 : Mm) (t1 : Tr) : Prop :=
  match o with
  | c102 => m_10 = m1 ∧ t1.get 102 = (.b c102) ∧ t1.get 1 = v1 ∧ t1.get 2 = v2 ∧ t1.get 3 = (.i .u8 x3) ∧ t1.get 9 = (.i .i64 x31) ∧ t1.get 13 = v39 ∧ t1.get 18 = (.i .i64 x94)
abbrev g10_J8  (o : Bool × Mm) (m1 : Mm) (t1 : Tr) : Prop :=
  match o with
  | (c107, m_11) => m_11 = m1 ∧ t1.get 107 = (.b c107)
abbrev g10_J9 (v2 : AVal) (x31 : Int) (v39 : AVal) (x94 : Int) (m_10 : Mm) (o : Bool) (m1 : Mm) (t1 : Tr) : Prop :=
  match o with
  | c122 => m_10 = m1 ∧ t1.get 122 = (.b c122) ∧ t1.get 2 = v2 ∧ t1.get 9 = (.i .i64 x31) ∧ t1.get 13 = v39 ∧ t1.get 18 = (.i .i64 x94)
abbrev g10_J10  (o : Bool × Mm) (m1 : Mm) (t1 : Tr) : Prop :=
  match o with
  | (c133, m_13) => m_13 = m1 ∧ t1.get 133 = (.b c133)
abbrev g10_J11  (o : Bool × Mm) (m1 : Mm) (t1 : Tr) : Prop :=
  match o with
  | (c133_1, m_14) => m_14 = m1 ∧ t1.get 133 = (.b c133_1)
abbrev g10_J12  (o : Bool × Mm) (m1 : Mm) (t1 : Tr) : Prop :=
  match o with
  | (c136, m_16) => m_16 = m1 ∧ t1.get 136 = (.b c136)
def g10 (M : Means) (ro : List ABlk) (x0 : Int) (v1 : AVal) (v2 : AVal) (x3 : Int) (m0 : Mm) : Option (AVal × Heap × Nat × Nat) :=
  bindP (stepM ro m0 (.bsl 22 1 [AVal.nsl] 2 [((0, 1), .c v1), ((1, 1), .c v2)])) fun v23 m_1 =>
  bindP (callM M.call m_1 14 [v23]) fun v24 m_2 =>
  asB v24 fun c24 =>
  forceB (!c24) fun c25 =>
  cond c25 (
    bindP (callM M.call m_2 15 []) fun v26 m_3 =>
    asB v26 fun c26 =>
    finM m0.h.length (tupA [(.b c26)]) m_3) (
    bindP (callM M.call m_2 29 [(.i .i64 x0), v1]) fun v30 m_4 =>
    bindO (evP .e (.ext 0 (.c v30))) fun v31 =>
    asI .i64 v31 fun x31 =>
    bindO (evP .e (.ext 1 (.c v30))) fun v32 =>
    asI .i64 v32 fun x32 =>
    bindO (evP .e (.ext 2 (.c v30))) fun v33 =>
    asI .i64 v33 fun x33 =>
    bindO (evP .e (.ext 3 (.c v30))) fun v34 =>
    asI .i64 v34 fun x34 =>
    bindP (callM M.call m_4 31 [(.i .i64 x0), v1]) fun v38 m_5 =>
    bindO (evP .e (.ext 0 (.c v38))) fun v39 =>
    bindO (evP .e (.ext 1 (.c v38))) fun v40 =>
    asI .i64 v40 fun x40 =>
    bindP (callM M.call m_5 39 [(.i .i64 x0), v1]) fun v43 m_6 =>
    asB v43 fun c43 =>
    forceB (!c43) fun c44 =>
    cond c44 (
      forceB (eqI x34 x40) fun c47 =>
      bindO (cond c47 (
        forceB (!eqI x34 0) fun c50 =>
        some c50) (
        some false)) fun c51 =>
      bindO (cond c51 (
        bindO (evP .e (.len false (.c v39))) fun v55 =>
        asI .i64 v55 fun x55 =>
        forceI (wr .i64 (x31 + x55)) fun x56 =>
        forceB (eqI x56 0) fun c57 =>
        some c57) (
        some false)) fun c58 =>
      bindO (cond c58 (
        bindP (callM M.call m_6 15 []) fun v60 m_8 =>
        asB v60 fun c60 =>
        some (c60, m_8)) (
        some (false, m_6))) fun ⟨c61, m_7⟩ =>
      finM m0.h.length (tupA [(.b c61)]) m_7) (
      bindP (callM M.call m_6 27 [(.i .i64 x0), v1, v39]) fun v66 m_9 =>
      bindO (evP .e (.ext 0 (.c v66))) fun v67 =>
      asI .i64 v67 fun x67 =>
      bindO (evP .e (.ext 1 (.c v66))) fun v68 =>
      asB v68 fun c68 =>
      bindO (evP .e (.ext 2 (.c v66))) fun v69 =>
      asI .i64 v69 fun x69 =>
      forceB (!eqI x34 0) fun c71 =>
      bindO (cond c71 (
        some true) (
        forceB (!eqI x40 0) fun c74 =>
        some c74)) fun c75 =>
      bindO (cond c75 (
        some true) (
        forceB (!eqI x69 0) fun c78 =>
        some c78)) fun c79 =>
      bindO (cond c79 (
        some true) (
        forceB (!c68) fun c82 =>
        some c82)) fun c83 =>
      bindO (cond c83 (
        some true) (
        forceB (!eqI x67 x31) fun c87 =>
        some c87)) fun c88 =>
      cond c88 (
        finM m0.h.length (tupA [(.b false)]) m_9) (
        bindP (callM M.call m_9 27 [(.i .i64 x0), v1, v2]) fun v93 m_10 =>
        bindO (evP .e (.ext 0 (.c v93))) fun v94 =>
        asI .i64 v94 fun x94 =>
        bindO (evP .e (.ext 1 (.c v93))) fun v95 =>
        asB v95 fun c95 =>
        bindO (evP .e (.ext 2 (.c v93))) fun v96 =>
        asI .i64 v96 fun x96 =>
        forceB (!eqI x96 0) fun c98 =>
        bindO (cond c98 (
          some true) (
          forceB (!c95) fun c101 =>
          some c101)) fun c102 =>
        cond c102 (
          forceB (eqI x94 0) fun c104 =>
          bindO (cond c104 (
            bindP (callM M.call m_10 15 []) fun v106 m_12 =>
            asB v106 fun c106 =>
            some (c106, m_12)) (
            some (false, m_10))) fun ⟨c107, m_11⟩ =>
          finM m0.h.length (tupA [(.b c107)]) m_11) (
          forceI (wr .i64 x3) fun x111 =>
          bindO (evP .e (.len false (.c v1))) fun v113 =>
          asI .i64 v113 fun x113 =>
          chk (!eqI x113 (.ofNat 0)) <|
          forceI (Int.tmod x111 x113) fun x114 =>
          bindO (evP .e (.ixS 1 (.c v1) (.c (.i .i64 x114)))) fun v115 =>
          bindO (ldM ro m_10 true 1 v115) fun v116 =>
          asI .i64 v116 fun x116 =>
          forceB (!ltI x116 x94) fun c117 =>
          bindO (cond c117 (
            forceB (!ltI x31 x94) fun c121 =>
            some c121) (
            some false)) fun c122 =>
          bindO (cond c122 (
            forceB (ltI x94 x31) fun c126 =>
            bindO (cond c126 (
              some (true, m_10)) (
              bindP (callM M.call m_10 42 [v2, v39]) fun v130 m_15 =>
              asB v130 fun c130 =>
              forceB (!c130) fun c131 =>
              some (c131, m_15))) fun ⟨c133_1, m_14⟩ =>
            some (c133_1, m_14)) (
            some (false, m_10))) fun ⟨c133, m_13⟩ =>
          bindO (cond c133 (
            bindP (callM M.call m_13 15 []) fun v135 m_17 =>
            asB v135 fun c135 =>
            some (c135, m_17)) (
            some (false, m_13))) fun ⟨c136, m_16⟩ =>
          finM m0.h.length (tupA [(.b c136)]) m_16))))

theorem g10_ok {ro : List ABlk} {O : Caller} {M : Means} (hM : M.Ok ⟨F, O⟩ ro) {x0 v1 v2 x3 h r} (ho : O 10 [(.i .i64 x0), v1, v2, (.i .u8 x3)] h = none) (hr : g10 M ro x0 v1 v2 x3 ⟨h, h.length, h.length⟩ = some r) : callX ⟨F, O⟩ ro 10 [(.i .i64 x0), v1, v2, (.i .u8 x3)] h = some r := by
  refine callX_of (F := ⟨F, O⟩) (fn := fn10) (g := g10 M ro x0 v1 v2 x3) ho rfl rfl hr ?_
  clear ho
  clear hr
  intro m0 t0 ht hr
  have g0 : t0.get 0 = (.i .i64 x0) := ht 0
  have g1 : t0.get 1 = v1 := ht 1
  have g2 : t0.get 2 = v2 := ht 2
  have g3 : t0.get 3 = (.i .u8 x3) := ht 3
  clear ht
  unfold g10 at hr
  refine w_seq ?_
  refine w_ops ?_
  refine wo_step (v := (.b false)) (s_pure (p_mv rfl)) ?_
  refine wo_nil ?_
  refine nx_norm ?_
  refine w_seq ?_
  refine w_seq ?_
  refine w_ops ?_
  refine wo_step (v := v1) (s_pure (p_mv g1)) ?_
  refine wo_step (v := v2) (s_pure (p_mv g2)) ?_
  have hq := bindP_inv hr
  clear hr
  obtain ⟨v23, m_1, e23, hr⟩ := hq
  refine wo_step (v := v23) (s_bsl (qc rfl (qc rfl qn)) e23) ?_
  have hq := bindP_inv hr
  clear hr
  obtain ⟨v24, m_2, e24, hr⟩ := hq
  have hq := asB_inv hr
  clear hr
  obtain ⟨c24, rfl, hr⟩ := hq
  refine wo_step (v := (.b c24)) (s_call (mc rfl mn) (callM_le hM.call e24)) ?_
  have hq := forceB_inv hr
  clear hr
  obtain ⟨c25, e25, hr⟩ := hq
  refine wo_step (v := (.b c25)) (s_pure ((p_not rfl).trans (cb e25))) ?_
  refine wo_nil ?_
  refine nx_norm ?_
  have hq := cond_inv hr
  clear hr
  rcases hq with ⟨rfl, hr⟩ | ⟨rfl, hr⟩
  · refine w_condT rfl ?_
    refine w_seq ?_
    refine w_ops ?_
    have hq := bindP_inv hr
    clear hr
    obtain ⟨v26, m_3, e26, hr⟩ := hq
    have hq := asB_inv hr
    clear hr
    obtain ⟨c26, rfl, hr⟩ := hq
    refine wo_step (v := (.b c26)) (s_call mn (callM_le hM.call e26)) ?_
    refine wo_step (v := (.b c26)) (s_pure (p_mv rfl)) ?_
    refine wo_nil ?_
    refine nx_norm ?_
    refine w_ret ?_
    refine nx_ret ?_
    exact qf ret_ok (rt rfl rn) hr
  · refine w_condF rfl ?_
    refine w_skip ?_
    refine nx_norm ?_
    refine w_seq ?_
    refine w_ops ?_
    refine wo_step (v := (.i .i64 x0)) (s_pure (p_mv g0)) ?_
    refine wo_step (v := v1) (s_pure (p_mv g1)) ?_
    have hq := bindP_inv hr
    clear hr
    obtain ⟨v30, m_4, e30, hr⟩ := hq
    refine wo_step (v := v30) (s_call (mc rfl (mc rfl mn)) (callM_le hM.call e30)) ?_
    refine wo_step (v := v30) (s_pure (p_mv rfl)) ?_
    have hq := bindO_inv hr
    clear hr
    obtain ⟨v31, e31, hr⟩ := hq
    have hq := asI_inv hr
    clear hr
    obtain ⟨x31, rfl, hr⟩ := hq
    refine wo_step (v := (.i .i64 x31)) (s_pure (o_ext rfl e31)) ?_
    have hq := bindO_inv hr
    clear hr
    obtain ⟨v32, e32, hr⟩ := hq
    have hq := asI_inv hr
    clear hr
    obtain ⟨x32, rfl, hr⟩ := hq
    refine wo_step (v := (.i .i64 x32)) (s_pure (o_ext rfl e32)) ?_
    have hq := bindO_inv hr
    clear hr
    obtain ⟨v33, e33, hr⟩ := hq
    have hq := asI_inv hr
    clear hr
    obtain ⟨x33, rfl, hr⟩ := hq
    refine wo_step (v := (.i .i64 x33)) (s_pure (o_ext rfl e33)) ?_
    have hq := bindO_inv hr
    clear hr
    obtain ⟨v34, e34, hr⟩ := hq
    have hq := asI_inv hr
    clear hr
    obtain ⟨x34, rfl, hr⟩ := hq
    refine wo_step (v := (.i .i64 x34)) (s_pure (o_ext rfl e34)) ?_
    refine wo_step (v := (.i .i64 x31)) (s_pure (p_mv rfl)) ?_
    refine wo_step (v := (.i .i64 x32)) (s_pure (p_mv rfl)) ?_
    refine wo_step (v := (.i .i64 x33)) (s_pure (p_mv rfl)) ?_
    refine wo_step (v := (.i .i64 x34)) (s_pure (p_mv rfl)) ?_
    refine wo_nil ?_
    refine nx_norm ?_
    refine w_seq ?_
    refine w_ops ?_
    refine wo_step (v := (.i .i64 x0)) (s_pure (p_mv g0)) ?_
    refine wo_step (v := v1) (s_pure (p_mv g1)) ?_
    have hq := bindP_inv hr
    clear hr
    obtain ⟨v38, m_5, e38, hr⟩ := hq
    refine wo_step (v := v38) (s_call (mc rfl (mc rfl mn)) (callM_le hM.call e38)) ?_
    refine wo_step (v := v38) (s_pure (p_mv rfl)) ?_
    have hq := bindO_inv hr
    clear hr
    obtain ⟨v39, e39, hr⟩ := hq
    refine wo_step (v := v39) (s_pure (o_ext rfl e39)) ?_
    have hq := bindO_inv hr
    clear hr
    obtain ⟨v40, e40, hr⟩ := hq
    have hq := asI_inv hr
    clear hr
    obtain ⟨x40, rfl, hr⟩ := hq
    refine wo_step (v := (.i .i64 x40)) (s_pure (o_ext rfl e40)) ?_
    refine wo_step (v := v39) (s_pure (p_mv rfl)) ?_
    refine wo_step (v := (.i .i64 x40)) (s_pure (p_mv rfl)) ?_
    refine wo_nil ?_
    refine nx_norm ?_
    refine w_seq ?_
    refine w_seq ?_
    refine w_ops ?_
    refine wo_step (v := (.i .i64 x0)) (s_pure (p_mv g0)) ?_
    refine wo_step (v := v1) (s_pure (p_mv g1)) ?_
    have hq := bindP_inv hr
    clear hr
    obtain ⟨v43, m_6, e43, hr⟩ := hq
    have hq := asB_inv hr
    clear hr
    obtain ⟨c43, rfl, hr⟩ := hq
    refine wo_step (v := (.b c43)) (s_call (mc rfl (mc rfl mn)) (callM_le hM.call e43)) ?_
    have hq := forceB_inv hr
    clear hr
    obtain ⟨c44, e44, hr⟩ := hq
    refine wo_step (v := (.b c44)) (s_pure ((p_not rfl).trans (cb e44))) ?_
    refine wo_nil ?_
    refine nx_norm ?_
    have hq := cond_inv hr
    clear hr
    rcases hq with ⟨rfl, hr⟩ | ⟨rfl, hr⟩
    · refine w_condT rfl ?_
      refine w_seq ?_
      refine w_ops ?_
      refine wo_step (v := (.i .i64 x34)) (s_pure (p_mv rfl)) ?_
      refine wo_step (v := (.i .i64 x40)) (s_pure (p_mv rfl)) ?_
      have hq := forceB_inv hr
      clear hr
      obtain ⟨c47, e47, hr⟩ := hq
      refine wo_step (v := (.b c47)) (s_pure (p_bin rfl rfl (b_eql.trans (cb e47)))) ?_
      refine wo_step (v := (.b c47)) (s_pure (p_mv rfl)) ?_
      have hq := bindO_inv hr
      clear hr
      obtain ⟨o, hr, hk⟩ := hq
      refine wo_join 3 (g10_J0 x31 v39 m_6 o) ?_ ?_
      · clear hk
        have hq := cond_inv hr
        clear hr
        rcases hq with ⟨rfl, hr⟩ | ⟨rfl, hr⟩
        · refine wo_take (v := (.i .i64 x34)) rfl (s_pure (p_mv rfl)) ?_
          have hq := forceB_inv hr
          clear hr
          obtain ⟨c50, e50, hr⟩ := hq
          refine wo_take (v := (.b c50)) rfl (s_pure (p_bin rfl rfl (b_neq.trans (cb e50)))) ?_
          refine wo_step (v := (.b c50)) (s_pure (p_pickT rfl rfl)) ?_
          refine wo_nil ?_
          cases hr
          exact ⟨_, _, rfl, rfl, gl rfl, gl rfl, gl rfl⟩
        · refine wo_skip (v := (.b false)) rfl rfl ?_
          refine wo_skip (v := (.b false)) rfl rfl ?_
          refine wo_step (v := (.b false)) (s_pure (p_pickF rfl rfl)) ?_
          refine wo_nil ?_
          cases hr
          exact ⟨_, _, rfl, rfl, gl rfl, gl rfl, gl rfl⟩
      · clear hr
        have hr := hk
        clear hk
        obtain ⟨c51, ho⟩ : ∃ z, z = o := ⟨_, rfl⟩
        subst ho
        rintro mm t_1 ⟨rfl, g51, g9, g13⟩
        refine wo_step (v := (.b c51)) (s_pure (p_mv g51)) ?_
        have hq := bindO_inv hr
        clear hr
        obtain ⟨o_1, hr, hk⟩ := hq
        refine wo_join 6 (g10_J1 m_6 o_1) ?_ ?_
        · clear hk
          have hq := cond_inv hr
          clear hr
          rcases hq with ⟨rfl, hr⟩ | ⟨rfl, hr⟩
          · refine wo_take (v := (.i .i64 x31)) rfl (s_pure (p_mv g9)) ?_
            refine wo_take (v := v39) rfl (s_pure (p_mv g13)) ?_
            have hq := bindO_inv hr
            clear hr
            obtain ⟨v55, e55, hr⟩ := hq
            have hq := asI_inv hr
            clear hr
            obtain ⟨x55, rfl, hr⟩ := hq
            refine wo_take (v := (.i .i64 x55)) rfl (s_pure (o_len rfl e55)) ?_
            have hq := forceI_inv hr
            clear hr
            obtain ⟨x56, e56, hr⟩ := hq
            refine wo_take (v := (.i .i64 x56)) rfl (s_pure (p_bin rfl rfl (b_add.trans (ci e56)))) ?_
            have hq := forceB_inv hr
            clear hr
            obtain ⟨c57, e57, hr⟩ := hq
            refine wo_take (v := (.b c57)) rfl (s_pure (p_bin rfl rfl (b_eql.trans (cb e57)))) ?_
            refine wo_step (v := (.b c57)) (s_pure (p_pickT rfl rfl)) ?_
            refine wo_nil ?_
            cases hr
            exact ⟨_, _, rfl, rfl, gl rfl⟩
          · refine wo_skip (v := (.b false)) rfl rfl ?_
            refine wo_skip (v := (.b false)) rfl rfl ?_
            refine wo_skip (v := (.b false)) rfl rfl ?_
            refine wo_skip (v := (.b false)) rfl rfl ?_
            refine wo_skip (v := (.b false)) rfl rfl ?_
            refine wo_step (v := (.b false)) (s_pure (p_pickF rfl rfl)) ?_
            refine wo_nil ?_
            cases hr
            exact ⟨_, _, rfl, rfl, gl rfl⟩
        · clear hr
          have hr := hk
          clear hk
          obtain ⟨c58, ho⟩ : ∃ z, z = o_1 := ⟨_, rfl⟩
          subst ho
          rintro mm_1 t_2 ⟨rfl, g58⟩
          refine wo_step (v := (.b c58)) (s_pure (p_mv g58)) ?_
          have hq := bindO_inv hr
          clear hr
          obtain ⟨o_2, hr, hk⟩ := hq
          refine wo_join 2 (g10_J2  o_2) ?_ ?_
          · clear hk
            have hq := cond_inv hr
            clear hr
            rcases hq with ⟨rfl, hr⟩ | ⟨rfl, hr⟩
            · have hq := bindP_inv hr
              clear hr
              obtain ⟨v60, m_8, e60, hr⟩ := hq
              have hq := asB_inv hr
              clear hr
              obtain ⟨c60, rfl, hr⟩ := hq
              refine wo_take (v := (.b c60)) rfl (s_call mn (callM_le hM.call e60)) ?_
              refine wo_step (v := (.b c60)) (s_pure (p_pickT rfl rfl)) ?_
              refine wo_nil ?_
              cases hr
              exact ⟨_, _, rfl, rfl, gl rfl⟩
            · refine wo_skip (v := (.b false)) rfl rfl ?_
              refine wo_step (v := (.b false)) (s_pure (p_pickF rfl rfl)) ?_
              refine wo_nil ?_
              cases hr
              exact ⟨_, _, rfl, rfl, gl rfl⟩
          · clear hr
            have hr := hk
            clear hk
            obtain ⟨c61, m_7⟩ := o_2
            rintro mm_2 t_3 ⟨rfl, g61⟩
            refine wo_step (v := (.b c61)) (s_pure (p_mv g61)) ?_
            refine wo_nil ?_
            refine nx_norm ?_
            refine w_ret ?_
            refine nx_ret ?_
            exact qf ret_ok (rt rfl rn) hr
    · refine w_condF rfl ?_
      refine w_skip ?_
      refine nx_norm ?_
      refine w_seq ?_
      refine w_ops ?_
      refine wo_step (v := (.i .i64 x0)) (s_pure (p_mv g0)) ?_
      refine wo_step (v := v1) (s_pure (p_mv g1)) ?_
      refine wo_step (v := v39) (s_pure (p_mv rfl)) ?_
      have hq := bindP_inv hr
      clear hr
      obtain ⟨v66, m_9, e66, hr⟩ := hq
      refine wo_step (v := v66) (s_call (mc rfl (mc rfl (mc rfl mn))) (callM_le hM.call e66)) ?_
      refine wo_step (v := v66) (s_pure (p_mv rfl)) ?_
      have hq := bindO_inv hr
      clear hr
      obtain ⟨v67, e67, hr⟩ := hq
      have hq := asI_inv hr
      clear hr
      obtain ⟨x67, rfl, hr⟩ := hq
      refine wo_step (v := (.i .i64 x67)) (s_pure (o_ext rfl e67)) ?_
      have hq := bindO_inv hr
      clear hr
      obtain ⟨v68, e68, hr⟩ := hq
      have hq := asB_inv hr
      clear hr
      obtain ⟨c68, rfl, hr⟩ := hq
      refine wo_step (v := (.b c68)) (s_pure (o_ext rfl e68)) ?_
      have hq := bindO_inv hr
      clear hr
      obtain ⟨v69, e69, hr⟩ := hq
      have hq := asI_inv hr
      clear hr
      obtain ⟨x69, rfl, hr⟩ := hq
      refine wo_step (v := (.i .i64 x69)) (s_pure (o_ext rfl e69)) ?_
      refine wo_step (v := (.i .i64 x67)) (s_pure (p_mv rfl)) ?_
      refine wo_step (v := (.b c68)) (s_pure (p_mv rfl)) ?_
      refine wo_step (v := (.i .i64 x69)) (s_pure (p_mv rfl)) ?_
      refine wo_nil ?_
      refine nx_norm ?_
      refine w_seq ?_
      refine w_seq ?_
      refine w_ops ?_
      refine wo_step (v := (.i .i64 x34)) (s_pure (p_mv rfl)) ?_
      have hq := forceB_inv hr
      clear hr
      obtain ⟨c71, e71, hr⟩ := hq
      refine wo_step (v := (.b c71)) (s_pure (p_bin rfl rfl (b_neq.trans (cb e71)))) ?_
      refine wo_step (v := (.b c71)) (s_pure (p_mv rfl)) ?_
      have hq := bindO_inv hr
      clear hr
      obtain ⟨o_3, hr, hk⟩ := hq
      refine wo_join 3 (g10_J3 x0 v1 v2 x3 x31 v39 x67 c68 x69 m_9 o_3) ?_ ?_
      · clear hk
        have hq := cond_inv hr
        clear hr
        rcases hq with ⟨rfl, hr⟩ | ⟨rfl, hr⟩
        · refine wo_skip (v := (.b true)) rfl rfl ?_
          refine wo_skip (v := (.b true)) rfl rfl ?_
          refine wo_step (v := (.b true)) (s_pure (p_pickT rfl rfl)) ?_
          refine wo_nil ?_
          cases hr
          exact ⟨_, _, rfl, rfl, gl rfl, gl g0, gl g1, gl g2, gl g3, gl rfl, gl rfl, gl rfl, gl rfl, gl rfl⟩
        · refine wo_take (v := (.i .i64 x40)) rfl (s_pure (p_mv rfl)) ?_
          have hq := forceB_inv hr
          clear hr
          obtain ⟨c74, e74, hr⟩ := hq
          refine wo_take (v := (.b c74)) rfl (s_pure (p_bin rfl rfl (b_neq.trans (cb e74)))) ?_
          refine wo_step (v := (.b c74)) (s_pure (p_pickF rfl rfl)) ?_
          refine wo_nil ?_
          cases hr
          exact ⟨_, _, rfl, rfl, gl rfl, gl g0, gl g1, gl g2, gl g3, gl rfl, gl rfl, gl rfl, gl rfl, gl rfl⟩
      · clear hr
        have hr := hk
        clear hk
        obtain ⟨c75, ho⟩ : ∃ z, z = o_3 := ⟨_, rfl⟩
        subst ho
        rintro mm_3 t_4 ⟨rfl, g75, g0, g1, g2, g3, g9, g13, g15, g16, g17⟩
        refine wo_step (v := (.b c75)) (s_pure (p_mv g75)) ?_
        have hq := bindO_inv hr
        clear hr
        obtain ⟨o_4, hr, hk⟩ := hq
        refine wo_join 3 (g10_J4 x0 v1 v2 x3 x31 v39 x67 c68 m_9 o_4) ?_ ?_
        · clear hk
          have hq := cond_inv hr
          clear hr
          rcases hq with ⟨rfl, hr⟩ | ⟨rfl, hr⟩
          · refine wo_skip (v := (.b true)) rfl rfl ?_
            refine wo_skip (v := (.b true)) rfl rfl ?_
            refine wo_step (v := (.b true)) (s_pure (p_pickT rfl rfl)) ?_
            refine wo_nil ?_
            cases hr
            exact ⟨_, _, rfl, rfl, gl rfl, gl g0, gl g1, gl g2, gl g3, gl g9, gl g13, gl g15, gl g16⟩
          · refine wo_take (v := (.i .i64 x69)) rfl (s_pure (p_mv g17)) ?_
            have hq := forceB_inv hr
            clear hr
            obtain ⟨c78, e78, hr⟩ := hq
            refine wo_take (v := (.b c78)) rfl (s_pure (p_bin rfl rfl (b_neq.trans (cb e78)))) ?_
            refine wo_step (v := (.b c78)) (s_pure (p_pickF rfl rfl)) ?_
            refine wo_nil ?_
            cases hr
            exact ⟨_, _, rfl, rfl, gl rfl, gl g0, gl g1, gl g2, gl g3, gl g9, gl g13, gl g15, gl g16⟩
        · clear hr
          have hr := hk
          clear hk
          obtain ⟨c79, ho⟩ : ∃ z, z = o_4 := ⟨_, rfl⟩
          subst ho
          rintro mm_4 t_5 ⟨rfl, g79, g0, g1, g2, g3, g9, g13, g15, g16⟩
          refine wo_step (v := (.b c79)) (s_pure (p_mv g79)) ?_
          have hq := bindO_inv hr
          clear hr
          obtain ⟨o_5, hr, hk⟩ := hq
          refine wo_join 3 (g10_J5 x0 v1 v2 x3 x31 v39 x67 m_9 o_5) ?_ ?_
          · clear hk
            have hq := cond_inv hr
            clear hr
            rcases hq with ⟨rfl, hr⟩ | ⟨rfl, hr⟩
            · refine wo_skip (v := (.b true)) rfl rfl ?_
              refine wo_skip (v := (.b true)) rfl rfl ?_
              refine wo_step (v := (.b true)) (s_pure (p_pickT rfl rfl)) ?_
              refine wo_nil ?_
              cases hr
              exact ⟨_, _, rfl, rfl, gl rfl, gl g0, gl g1, gl g2, gl g3, gl g9, gl g13, gl g15⟩
            · refine wo_take (v := (.b c68)) rfl (s_pure (p_mv g16)) ?_
              have hq := forceB_inv hr
              clear hr
              obtain ⟨c82, e82, hr⟩ := hq
              refine wo_take (v := (.b c82)) rfl (s_pure ((p_not rfl).trans (cb e82))) ?_
              refine wo_step (v := (.b c82)) (s_pure (p_pickF rfl rfl)) ?_
              refine wo_nil ?_
              cases hr
              exact ⟨_, _, rfl, rfl, gl rfl, gl g0, gl g1, gl g2, gl g3, gl g9, gl g13, gl g15⟩
          · clear hr
            have hr := hk
            clear hk
            obtain ⟨c83, ho⟩ : ∃ z, z = o_5 := ⟨_, rfl⟩
            subst ho
            rintro mm_5 t_6 ⟨rfl, g83, g0, g1, g2, g3, g9, g13, g15⟩
            refine wo_step (v := (.b c83)) (s_pure (p_mv g83)) ?_
            have hq := bindO_inv hr
            clear hr
            obtain ⟨o_6, hr, hk⟩ := hq
            refine wo_join 4 (g10_J6 x0 v1 v2 x3 x31 v39 m_9 o_6) ?_ ?_
            · clear hk
              have hq := cond_inv hr
              clear hr
              rcases hq with ⟨rfl, hr⟩ | ⟨rfl, hr⟩
              · refine wo_skip (v := (.b true)) rfl rfl ?_
                refine wo_skip (v := (.b true)) rfl rfl ?_
                refine wo_skip (v := (.b true)) rfl rfl ?_
                refine wo_step (v := (.b true)) (s_pure (p_pickT rfl rfl)) ?_
                refine wo_nil ?_
                cases hr
                exact ⟨_, _, rfl, rfl, gl rfl, gl g0, gl g1, gl g2, gl g3, gl g9, gl g13⟩
              · refine wo_take (v := (.i .i64 x67)) rfl (s_pure (p_mv g15)) ?_
                refine wo_take (v := (.i .i64 x31)) rfl (s_pure (p_mv g9)) ?_
                have hq := forceB_inv hr
                clear hr
                obtain ⟨c87, e87, hr⟩ := hq
                refine wo_take (v := (.b c87)) rfl (s_pure (p_bin rfl rfl (b_neq.trans (cb e87)))) ?_
                refine wo_step (v := (.b c87)) (s_pure (p_pickF rfl rfl)) ?_
                refine wo_nil ?_
                cases hr
                exact ⟨_, _, rfl, rfl, gl rfl, gl g0, gl g1, gl g2, gl g3, gl g9, gl g13⟩
            · clear hr
              have hr := hk
              clear hk
              obtain ⟨c88, ho⟩ : ∃ z, z = o_6 := ⟨_, rfl⟩
              subst ho
              rintro mm_6 t_7 ⟨rfl, g88, g0, g1, g2, g3, g9, g13⟩
              refine wo_nil ?_
              refine nx_norm ?_
              have hq := cond_inv hr
              clear hr
              rcases hq with ⟨rfl, hr⟩ | ⟨rfl, hr⟩
              · refine w_condT g88 ?_
                refine w_seq ?_
                refine w_ops ?_
                refine wo_step (v := (.b false)) (s_pure (p_mv rfl)) ?_
                refine wo_nil ?_
                refine nx_norm ?_
                refine w_ret ?_
                refine nx_ret ?_
                exact qf ret_ok (rt rfl rn) hr
              · refine w_condF g88 ?_
                refine w_skip ?_
                refine nx_norm ?_
                refine w_seq ?_
                refine w_ops ?_
                refine wo_step (v := (.i .i64 x0)) (s_pure (p_mv g0)) ?_
                refine wo_step (v := v1) (s_pure (p_mv g1)) ?_
                refine wo_step (v := v2) (s_pure (p_mv g2)) ?_
                have hq := bindP_inv hr
                clear hr
                obtain ⟨v93, m_10, e93, hr⟩ := hq
                refine wo_step (v := v93) (s_call (mc rfl (mc rfl (mc rfl mn))) (callM_le hM.call e93)) ?_
                refine wo_step (v := v93) (s_pure (p_mv rfl)) ?_
                have hq := bindO_inv hr
                clear hr
                obtain ⟨v94, e94, hr⟩ := hq
                have hq := asI_inv hr
                clear hr
                obtain ⟨x94, rfl, hr⟩ := hq
                refine wo_step (v := (.i .i64 x94)) (s_pure (o_ext rfl e94)) ?_
                have hq := bindO_inv hr
                clear hr
                obtain ⟨v95, e95, hr⟩ := hq
                have hq := asB_inv hr
                clear hr
                obtain ⟨c95, rfl, hr⟩ := hq
                refine wo_step (v := (.b c95)) (s_pure (o_ext rfl e95)) ?_
                have hq := bindO_inv hr
                clear hr
                obtain ⟨v96, e96, hr⟩ := hq
                have hq := asI_inv hr
                clear hr
                obtain ⟨x96, rfl, hr⟩ := hq
                refine wo_step (v := (.i .i64 x96)) (s_pure (o_ext rfl e96)) ?_
                refine wo_step (v := (.i .i64 x94)) (s_pure (p_mv rfl)) ?_
                refine wo_step (v := (.b c95)) (s_pure (p_mv rfl)) ?_
                refine wo_step (v := (.i .i64 x96)) (s_pure (p_mv rfl)) ?_
                refine wo_nil ?_
                refine nx_norm ?_
                refine w_seq ?_
                refine w_seq ?_
                refine w_ops ?_
                refine wo_step (v := (.i .i64 x96)) (s_pure (p_mv rfl)) ?_
                have hq := forceB_inv hr
                clear hr
                obtain ⟨c98, e98, hr⟩ := hq
                refine wo_step (v := (.b c98)) (s_pure (p_bin rfl rfl (b_neq.trans (cb e98)))) ?_
                refine wo_step (v := (.b c98)) (s_pure (p_mv rfl)) ?_
                have hq := bindO_inv hr
                clear hr
                obtain ⟨o_7, hr, hk⟩ := hq
                refine wo_join 3 (g10_J7 v1 v2 x3 x31 v39 x94 m_10 o_7) ?_ ?_
                · clear hk
                  have hq := cond_inv hr
                  clear hr
                  rcases hq with ⟨rfl, hr⟩ | ⟨rfl, hr⟩
                  · refine wo_skip (v := (.b true)) rfl rfl ?_
                    refine wo_skip (v := (.b true)) rfl rfl ?_
                    refine wo_step (v := (.b true)) (s_pure (p_pickT rfl rfl)) ?_
                    refine wo_nil ?_
                    cases hr
                    exact ⟨_, _, rfl, rfl, gl rfl, gl g1, gl g2, gl g3, gl g9, gl g13, gl rfl⟩
                  · refine wo_take (v := (.b c95)) rfl (s_pure (p_mv rfl)) ?_
                    have hq := forceB_inv hr
                    clear hr
                    obtain ⟨c101, e101, hr⟩ := hq
                    refine wo_take (v := (.b c101)) rfl (s_pure ((p_not rfl).trans (cb e101))) ?_
                    refine wo_step (v := (.b c101)) (s_pure (p_pickF rfl rfl)) ?_
                    refine wo_nil ?_
                    cases hr
                    exact ⟨_, _, rfl, rfl, gl rfl, gl g1, gl g2, gl g3, gl g9, gl g13, gl rfl⟩
                · clear hr
                  have hr := hk
                  clear hk
                  obtain ⟨c102, ho⟩ : ∃ z, z = o_7 := ⟨_, rfl⟩
                  subst ho
                  rintro mm_7 t_8 ⟨rfl, g102, g1, g2, g3, g9, g13, g18⟩
                  refine wo_nil ?_
                  refine nx_norm ?_
                  have hq := cond_inv hr
                  clear hr
                  rcases hq with ⟨rfl, hr⟩ | ⟨rfl, hr⟩
                  · refine w_condT g102 ?_
                    refine w_seq ?_
                    refine w_ops ?_
                    refine wo_step (v := (.i .i64 x94)) (s_pure (p_mv g18)) ?_
                    have hq := forceB_inv hr
                    clear hr
                    obtain ⟨c104, e104, hr⟩ := hq
                    refine wo_step (v := (.b c104)) (s_pure (p_bin rfl rfl (b_eql.trans (cb e104)))) ?_
                    refine wo_step (v := (.b c104)) (s_pure (p_mv rfl)) ?_
                    have hq := bindO_inv hr
                    clear hr
                    obtain ⟨o_8, hr, hk⟩ := hq
                    refine wo_join 2 (g10_J8  o_8) ?_ ?_
                    · clear hk
                      have hq := cond_inv hr
                      clear hr
                      rcases hq with ⟨rfl, hr⟩ | ⟨rfl, hr⟩
                      · have hq := bindP_inv hr
                        clear hr
                        obtain ⟨v106, m_12, e106, hr⟩ := hq
                        have hq := asB_inv hr
                        clear hr
                        obtain ⟨c106, rfl, hr⟩ := hq
                        refine wo_take (v := (.b c106)) rfl (s_call mn (callM_le hM.call e106)) ?_
                        refine wo_step (v := (.b c106)) (s_pure (p_pickT rfl rfl)) ?_
                        refine wo_nil ?_
                        cases hr
                        exact ⟨_, _, rfl, rfl, gl rfl⟩
                      · refine wo_skip (v := (.b false)) rfl rfl ?_
                        refine wo_step (v := (.b false)) (s_pure (p_pickF rfl rfl)) ?_
                        refine wo_nil ?_
                        cases hr
                        exact ⟨_, _, rfl, rfl, gl rfl⟩
                    · clear hr
                      have hr := hk
                      clear hk
                      obtain ⟨c107, m_11⟩ := o_8
                      rintro mm_8 t_9 ⟨rfl, g107⟩
                      refine wo_step (v := (.b c107)) (s_pure (p_mv g107)) ?_
                      refine wo_nil ?_
                      refine nx_norm ?_
                      refine w_ret ?_
                      refine nx_ret ?_
                      exact qf ret_ok (rt rfl rn) hr
                  · refine w_condF g102 ?_
                    refine w_skip ?_
                    refine nx_norm ?_
                    refine w_seq ?_
                    refine w_ops ?_
                    refine wo_step (v := (.i .i64 x94)) (s_pure (p_mv g18)) ?_
                    refine wo_step (v := v1) (s_pure (p_mv g1)) ?_
                    refine wo_step (v := (.i .u8 x3)) (s_pure (p_mv g3)) ?_
                    have hq := forceI_inv hr
                    clear hr
                    obtain ⟨x111, e111, hr⟩ := hq
                    refine wo_step (v := (.i .i64 x111)) (s_pure ((p_conv rfl).trans (ci e111))) ?_
                    refine wo_step (v := v1) (s_pure (p_mv g1)) ?_
                    have hq := bindO_inv hr
                    clear hr
                    obtain ⟨v113, e113, hr⟩ := hq
                    have hq := asI_inv hr
                    clear hr
                    obtain ⟨x113, rfl, hr⟩ := hq
                    refine wo_step (v := (.i .i64 x113)) (s_pure (o_len rfl e113)) ?_
                    have hq := chk_inv hr
                    clear hr
                    obtain ⟨hc114, hr⟩ := hq
                    have hq := forceI_inv hr
                    clear hr
                    obtain ⟨x114, e114, hr⟩ := hq
                    refine wo_step (v := (.i .i64 x114)) (s_pure (p_bin rfl rfl ((b_rem hc114).trans (ci e114)))) ?_
                    have hq := bindO_inv hr
                    clear hr
                    obtain ⟨v115, e115, hr⟩ := hq
                    refine wo_step (v := v115) (s_pure (o_ixS rfl rfl e115)) ?_
                    have hq := bindO_inv hr
                    clear hr
                    obtain ⟨v116, e116, hr⟩ := hq
                    have hq := asI_inv hr
                    clear hr
                    obtain ⟨x116, rfl, hr⟩ := hq
                    refine wo_step (v := (.i .i64 x116)) (s_ld rfl e116) ?_
                    have hq := forceB_inv hr
                    clear hr
                    obtain ⟨c117, e117, hr⟩ := hq
                    refine wo_step (v := (.b c117)) (s_pure (p_bin rfl rfl (b_leq.trans (cb e117)))) ?_
                    refine wo_step (v := (.b c117)) (s_pure (p_mv rfl)) ?_
                    have hq := bindO_inv hr
                    clear hr
                    obtain ⟨o_9, hr, hk⟩ := hq
                    refine wo_join 4 (g10_J9 v2 x31 v39 x94 m_10 o_9) ?_ ?_
                    · clear hk
                      have hq := cond_inv hr
                      clear hr
                      rcases hq with ⟨rfl, hr⟩ | ⟨rfl, hr⟩
                      · refine wo_take (v := (.i .i64 x94)) rfl (s_pure (p_mv g18)) ?_
                        refine wo_take (v := (.i .i64 x31)) rfl (s_pure (p_mv g9)) ?_
                        have hq := forceB_inv hr
                        clear hr
                        obtain ⟨c121, e121, hr⟩ := hq
                        refine wo_take (v := (.b c121)) rfl (s_pure (p_bin rfl rfl (b_leq.trans (cb e121)))) ?_
                        refine wo_step (v := (.b c121)) (s_pure (p_pickT rfl rfl)) ?_
                        refine wo_nil ?_
                        cases hr
                        exact ⟨_, _, rfl, rfl, gl rfl, gl g2, gl g9, gl g13, gl g18⟩
                      · refine wo_skip (v := (.b false)) rfl rfl ?_
                        refine wo_skip (v := (.b false)) rfl rfl ?_
                        refine wo_skip (v := (.b false)) rfl rfl ?_
                        refine wo_step (v := (.b false)) (s_pure (p_pickF rfl rfl)) ?_
                        refine wo_nil ?_
                        cases hr
                        exact ⟨_, _, rfl, rfl, gl rfl, gl g2, gl g9, gl g13, gl g18⟩
                    · clear hr
                      have hr := hk
                      clear hk
                      obtain ⟨c122, ho⟩ : ∃ z, z = o_9 := ⟨_, rfl⟩
                      subst ho
                      rintro mm_9 t_10 ⟨rfl, g122, g2, g9, g13, g18⟩
                      refine wo_step (v := (.b c122)) (s_pure (p_mv g122)) ?_
                      have hq := bindO_inv hr
                      clear hr
                      obtain ⟨o_10, hr, hk⟩ := hq
                      refine wo_join 10 (g10_J10  o_10) ?_ ?_
                      · clear hk
                        have hq := cond_inv hr
                        clear hr
                        rcases hq with ⟨rfl, hr⟩ | ⟨rfl, hr⟩
                        · refine wo_take (v := (.i .i64 x94)) rfl (s_pure (p_mv g18)) ?_
                          refine wo_take (v := (.i .i64 x31)) rfl (s_pure (p_mv g9)) ?_
                          have hq := forceB_inv hr
                          clear hr
                          obtain ⟨c126, e126, hr⟩ := hq
                          refine wo_take (v := (.b c126)) rfl (s_pure (p_bin rfl rfl (b_lss.trans (cb e126)))) ?_
                          refine wo_take (v := (.b c126)) rfl (s_pure (p_mv rfl)) ?_
                          have hq := bindO_inv hr
                          clear hr
                          obtain ⟨o_11, hr, hk⟩ := hq
                          refine wo_join 6 (g10_J11  o_11) ?_ ?_
                          · clear hk
                            have hq := cond_inv hr
                            clear hr
                            rcases hq with ⟨rfl, hr⟩ | ⟨rfl, hr⟩
                            · refine wo_skip (v := (.b true)) rfl rfl ?_
                              refine wo_skip (v := (.b true)) rfl rfl ?_
                              refine wo_skip (v := (.b true)) rfl rfl ?_
                              refine wo_skip (v := (.b true)) rfl rfl ?_
                              refine wo_take (v := (.b true)) rfl (s_pure (p_pickT rfl rfl)) ?_
                              refine wo_step (v := (.b true)) (s_pure (p_pickT rfl rfl)) ?_
                              refine wo_nil ?_
                              cases hr
                              exact ⟨_, _, rfl, rfl, gl rfl⟩
                            · refine wo_take (v := v2) rfl (s_pure (p_mv g2)) ?_
                              refine wo_take (v := v39) rfl (s_pure (p_mv g13)) ?_
                              have hq := bindP_inv hr
                              clear hr
                              obtain ⟨v130, m_15, e130, hr⟩ := hq
                              have hq := asB_inv hr
                              clear hr
                              obtain ⟨c130, rfl, hr⟩ := hq
                              refine wo_take (v := (.b c130)) rfl (s_call (mc rfl (mc rfl mn)) (callM_le hM.call e130)) ?_
                              have hq := forceB_inv hr
                              clear hr
                              obtain ⟨c131, e131, hr⟩ := hq
                              refine wo_take (v := (.b c131)) rfl (s_pure ((p_not rfl).trans (cb e131))) ?_
                              refine wo_take (v := (.b c131)) rfl (s_pure (p_pickF rfl rfl)) ?_
                              refine wo_step (v := (.b c131)) (s_pure (p_pickT rfl rfl)) ?_
                              refine wo_nil ?_
                              cases hr
                              exact ⟨_, _, rfl, rfl, gl rfl⟩
                          · clear hr
                            have hr := hk
                            clear hk
                            obtain ⟨c133_1, m_14⟩ := o_11
                            rintro mm_10 t_11 ⟨rfl, g133⟩
                            refine wo_nil ?_
                            cases hr
                            exact ⟨_, _, rfl, rfl, gl g133⟩
                        · refine wo_skip (v := (.b false)) rfl rfl ?_
                          refine wo_skip (v := (.b false)) rfl rfl ?_
                          refine wo_skip (v := (.b false)) rfl rfl ?_
                          refine wo_skip (v := (.b false)) rfl rfl ?_
                          refine wo_skip (v := und) rfl rfl ?_
                          refine wo_skip (v := und) rfl rfl ?_
                          refine wo_skip (v := und) rfl rfl ?_
                          refine wo_skip (v := und) rfl rfl ?_
                          refine wo_skip (v := (.b false)) rfl rfl ?_
                          refine wo_step (v := (.b false)) (s_pure (p_pickF rfl rfl)) ?_
                          refine wo_nil ?_
                          cases hr
                          exact ⟨_, _, rfl, rfl, gl rfl⟩
                      · clear hr
                        have hr := hk
                        clear hk
                        obtain ⟨c133, m_13⟩ := o_10
                        rintro mm_11 t_12 ⟨rfl, g133⟩
                        refine wo_step (v := (.b c133)) (s_pure (p_mv g133)) ?_
                        have hq := bindO_inv hr
                        clear hr
                        obtain ⟨o_12, hr, hk⟩ := hq
                        refine wo_join 2 (g10_J12  o_12) ?_ ?_
                        · clear hk
                          have hq := cond_inv hr
                          clear hr
                          rcases hq with ⟨rfl, hr⟩ | ⟨rfl, hr⟩
                          · have hq := bindP_inv hr
                            clear hr
                            obtain ⟨v135, m_17, e135, hr⟩ := hq
                            have hq := asB_inv hr
                            clear hr
                            obtain ⟨c135, rfl, hr⟩ := hq
                            refine wo_take (v := (.b c135)) rfl (s_call mn (callM_le hM.call e135)) ?_
                            refine wo_step (v := (.b c135)) (s_pure (p_pickT rfl rfl)) ?_
                            refine wo_nil ?_
                            cases hr
                            exact ⟨_, _, rfl, rfl, gl rfl⟩
                          · refine wo_skip (v := (.b false)) rfl rfl ?_
                            refine wo_step (v := (.b false)) (s_pure (p_pickF rfl rfl)) ?_
                            refine wo_nil ?_
                            cases hr
                            exact ⟨_, _, rfl, rfl, gl rfl⟩
                        · clear hr
                          have hr := hk
                          clear hk
                          obtain ⟨c136, m_16⟩ := o_12
                          rintro mm_12 t_13 ⟨rfl, g136⟩
                          refine wo_step (v := (.b c136)) (s_pure (p_mv g136)) ?_
                          refine wo_nil ?_
                          refine nx_norm ?_
                          refine w_ret ?_
                          exact qf ret_ok (rt rfl rn) hr

/- dibber/dibberlaw08.few -/
abbrev g14_I0 (v0 : AVal) (m0 : Mm) (s : Int) (m1 : Mm) (t1 : Tr) : Prop :=
  match s with
  | x3 => m0 = m1 ∧ t1.get 3 = (.i .i64 x3) ∧ t1.get 0 = v0
abbrev g14_J0 (v0 : AVal) (m0 : Mm) (o : (Unit ⊕ Bool)) (e : AExit) (m1 : Mm) (t1 : Tr) : Prop :=
  match o with
  | (.inl _) => e = (.exit 0) ∧ m0 = m1
  | (.inr y2) => e = .ret ∧ m0 = m1 ∧ t1.get 2 = (.b y2)
def g14_b0 (M : Means) (ro : List ABlk) (v0 : AVal) (m0 : Mm) (x3 : Int) : Option ((Int) ⊕ ((Unit ⊕ Bool))) :=
  bindO (evP .e (.len false (.c v0))) fun v6 =>
  asI .i64 v6 fun x6 =>
  forceB (ltI x3 x6) fun c7 =>
  cond c7 (
    bindO (evP .e (.ixS 1 (.c v0) (.c (.i .i64 x3)))) fun v12 =>
    bindO (ldM ro m0 true 1 v12) fun v13 =>
    bindO (evP .e (.len false (.c v13))) fun v14 =>
    asI .i64 v14 fun x14 =>
    forceB (ltI 100 x14) fun c15 =>
    cond c15 (
      some (.inr (.inr false))) (
      forceI (wr .i64 (x3 + 1)) fun x9 =>
      some (.inl x9))) (
    some (.inr (.inl ())))
def g14 (M : Means) (ro : List ABlk) (v0 : AVal) (m0 : Mm) : Option (AVal × Heap × Nat × Nat) :=
  bindO (M.loop (S := Int) (R := (Unit ⊕ Bool)) (fun s => g14_b0 M ro v0 m0 s) 0) fun o => match o with
  | (.inl _) =>
    finM m0.h.length (tupA [(.b true)]) m0
  | (.inr c2) =>
    finM m0.h.length (tupA [(.b c2)]) m0

theorem g14_ok {ro : List ABlk} {O : Caller} {M : Means} (hM : M.Ok ⟨F, O⟩ ro) {v0 h r} (ho : O 14 [v0] h = none) (hr : g14 M ro v0 ⟨h, h.length, h.length⟩ = some r) : callX ⟨F, O⟩ ro 14 [v0] h = some r := by
  refine callX_of (F := ⟨F, O⟩) (fn := fn14) (g := g14 M ro v0) ho rfl rfl hr ?_
  clear ho
  clear hr
  intro m0 t0 ht hr
  have g0 : t0.get 0 = v0 := ht 0
  clear ht
  unfold g14 at hr
  refine w_seq ?_
  refine w_ops ?_
  refine wo_step (v := (.b false)) (s_pure (p_mv rfl)) ?_
  refine wo_nil ?_
  refine nx_norm ?_
  refine w_seq ?_
  refine w_seq ?_
  refine w_ops ?_
  refine wo_step (v := (.i .i64 0)) (s_pure (p_mv rfl)) ?_
  refine wo_nil ?_
  refine nx_norm ?_
  refine w_block ?_
  have hq := bindO_inv hr
  clear hr
  obtain ⟨o, hl, hr⟩ := hq
  obtain ⟨n, hl⟩ := hM.loop _ _ _ hl
  refine jp_mono (w_loop _ (g14_I0 v0 m0) (g14_J0 v0 m0) ?_ n _ _ _ _ hl ⟨rfl, gl rfl, gl g0⟩) ?_
  · clear hr hl
    intro s mm_2 t_1 o hi hr
    obtain ⟨x3, hs⟩ : ∃ z, z = s := ⟨_, rfl⟩
    subst hs
    obtain ⟨rfl, g3, g0⟩ := hi
    unfold g14_b0 at hr
    refine w_seq ?_
    refine w_seq ?_
    refine w_ops ?_
    refine wo_step (v := (.i .i64 x3)) (s_pure (p_mv g3)) ?_
    refine wo_step (v := v0) (s_pure (p_mv g0)) ?_
    have hq := bindO_inv hr
    clear hr
    obtain ⟨v6, e6, hr⟩ := hq
    have hq := asI_inv hr
    clear hr
    obtain ⟨x6, rfl, hr⟩ := hq
    refine wo_step (v := (.i .i64 x6)) (s_pure (o_len rfl e6)) ?_
    have hq := forceB_inv hr
    clear hr
    obtain ⟨c7, e7, hr⟩ := hq
    refine wo_step (v := (.b c7)) (s_pure (p_bin rfl rfl (b_lss.trans (cb e7)))) ?_
    refine wo_nil ?_
    refine nx_norm ?_
    have hq := cond_inv hr
    clear hr
    rcases hq with ⟨rfl, hr⟩ | ⟨rfl, hr⟩
    · refine w_condT rfl ?_
      refine w_skip ?_
      refine nx_norm ?_
      refine w_seq ?_
      refine w_block ?_
      refine w_seq ?_
      refine w_ops ?_
      refine wo_step (v := v0) (s_pure (p_mv g0)) ?_
      refine wo_step (v := (.i .i64 x3)) (s_pure (p_mv g3)) ?_
      have hq := bindO_inv hr
      clear hr
      obtain ⟨v12, e12, hr⟩ := hq
      refine wo_step (v := v12) (s_pure (o_ixS rfl rfl e12)) ?_
      have hq := bindO_inv hr
      clear hr
      obtain ⟨v13, e13, hr⟩ := hq
      refine wo_step (v := v13) (s_ld rfl e13) ?_
      have hq := bindO_inv hr
      clear hr
      obtain ⟨v14, e14, hr⟩ := hq
      have hq := asI_inv hr
      clear hr
      obtain ⟨x14, rfl, hr⟩ := hq
      refine wo_step (v := (.i .i64 x14)) (s_pure (o_len rfl e14)) ?_
      have hq := forceB_inv hr
      clear hr
      obtain ⟨c15, e15, hr⟩ := hq
      refine wo_step (v := (.b c15)) (s_pure (p_bin rfl rfl (b_gtr.trans (cb e15)))) ?_
      refine wo_nil ?_
      refine nx_norm ?_
      have hq := cond_inv hr
      clear hr
      rcases hq with ⟨rfl, hr⟩ | ⟨rfl, hr⟩
      · refine w_condT rfl ?_
        refine w_seq ?_
        refine w_ops ?_
        refine wo_step (v := (.b false)) (s_pure (p_mv rfl)) ?_
        refine wo_nil ?_
        refine nx_norm ?_
        refine w_ret ?_
        refine bk_ret ?_
        refine nx_ret ?_
        cases hr
        exact ⟨_, _, rfl, ne_norm_ret, rfl, rfl, gl rfl⟩
      · refine w_condF rfl ?_
        refine w_skip ?_
        refine bk_norm ?_
        refine nx_norm ?_
        refine w_ops ?_
        refine wo_step (v := (.i .i64 x3)) (s_pure (p_mv g3)) ?_
        have hq := forceI_inv hr
        clear hr
        obtain ⟨x9, e9, hr⟩ := hq
        refine wo_step (v := (.i .i64 x9)) (s_pure (p_bin rfl rfl (b_add.trans (ci e9)))) ?_
        refine wo_step (v := (.i .i64 x9)) (s_pure (p_mv rfl)) ?_
        refine wo_nil ?_
        cases hr
        exact ⟨_, _, rfl, rfl, rfl, gl rfl, gl g0⟩
    · refine w_condF rfl ?_
      refine w_exit ?_
      refine nx_exit ?_
      cases hr
      exact ⟨_, _, rfl, ne_norm_exit, rfl, rfl⟩
  · rcases o with o | o
    · rintro _ mm t_2 ⟨rfl, rfl⟩
      refine bk_hit ?_
      refine nx_norm ?_
      refine w_seq ?_
      refine w_ops ?_
      refine wo_step (v := (.b true)) (s_pure (p_mv rfl)) ?_
      refine wo_nil ?_
      refine nx_norm ?_
      refine w_ret ?_
      exact qf ret_ok (rt rfl rn) hr
    · obtain ⟨c2, ho⟩ : ∃ z, z = o := ⟨_, rfl⟩
      subst ho
      rintro _ mm_1 t_3 ⟨rfl, rfl, g2⟩
      refine bk_ret ?_
      refine nx_ret ?_
      exact qf ret_ok (rt g2 rn) hr

/- dibber/share.Check -/
abbrev g16_I0 (x0 : Int) (v1 : AVal) (v15 : AVal) (x16 : Int) (s : Int × Mm) (m1 : Mm) (t1 : Tr) : Prop :=
  match s with
  | (x17, m_3) => m_3 = m1 ∧ t1.get 17 = (.i .i64 x17) ∧ t1.get 0 = (.i .i64 x0) ∧ t1.get 1 = v1 ∧ t1.get 15 = v15 ∧ t1.get 16 = (.i .i64 x16)
abbrev g16_J0 (x0 : Int) (v1 : AVal) (v15 : AVal) (x16 : Int) (o : (Mm ⊕ (Int × Int × Int × Mm))) (e : AExit) (m1 : Mm) (t1 : Tr) : Prop :=
  match o with
  | (.inl mo) => e = (.exit 0) ∧ mo = m1
  | (.inr (y4, y5, y6, mo)) => e = .ret ∧ mo = m1 ∧ t1.get 4 = (.i .i64 y4) ∧ t1.get 5 = (.i .i64 y5) ∧ t1.get 6 = (.i .i64 y6)
def g16_b0 (M : Means) (ro : List ABlk) (x0 : Int) (v1 : AVal) (v15 : AVal) (x16 : Int) (x17 : Int) (m_3 : Mm) : Option ((Int × Mm) ⊕ ((Mm ⊕ (Int × Int × Int × Mm)))) :=
  forceB (ltI x17 x16) fun c18 =>
  cond c18 (
    bindO (evP .e (.ixS 1 (.c v15) (.c (.i .i64 x17)))) fun v19 =>
    bindO (ldM ro m_3 true 1 v19) fun v20 =>
    asI .i64 v20 fun x20 =>
    bindP (callM M.call m_3 46 [(.i .i64 x20)]) fun v23 m_4 =>
    bindP (callM M.call m_4 47 [v1, (.i .i64 x20)]) fun v26 m_5 =>
    bindP (stepM ro m_5 (.bsl 53 1 [AVal.nfn] 2 [((0, 1), .c v23), ((1, 1), .c v26)])) fun v27 m_6 =>
    bindP (callM M.call m_6 45 [(.i .i64 x0), v27]) fun v28 m_7 =>
    bindO (evP .e (.len false (.c v28))) fun v30 =>
    asI .i64 v30 fun x30 =>
    forceB (ltI 0 x30) fun c31 =>
    cond c31 (
      bindO (evP .e (.ixS 1 (.c v28) (.c (.i .i64 0)))) fun v34 =>
      bindO (ldM ro m_7 true 1 v34) fun v35 =>
      asI .i64 v35 fun x35 =>
      some (.inr (.inr (x20, x35, 0, m_7)))) (
      forceI (wr .i64 (x17 + 1)) fun x36 =>
      some (.inl (x36, m_7)))) (
    some (.inr (.inl m_3)))
def g16 (M : Means) (ro : List ABlk) (x0 : Int) (v1 : AVal) (m0 : Mm) : Option (AVal × Heap × Nat × Nat) :=
  bindP (callM M.call m0 44 [(.i .i64 x0), v1]) fun v12 m_1 =>
  asB v12 fun c12 =>
  forceB (!c12) fun c13 =>
  cond c13 (
    finM m0.h.length (tupA [(.i .i64 0), (.i .i64 0), (.i .i64 2)]) m_1) (
    bindP (callM M.call m_1 45 [(.i .i64 x0), AVal.nsl]) fun v15 m_2 =>
    bindO (evP .e (.len false (.c v15))) fun v16 =>
    asI .i64 v16 fun x16 =>
    bindO (M.loop (S := Int × Mm) (R := (Mm ⊕ (Int × Int × Int × Mm))) (fun s => g16_b0 M ro x0 v1 v15 x16 s.1 s.2) (0, m_2)) fun o => match o with
    | (.inl m_8) =>
      finM m0.h.length (tupA [(.i .i64 0), (.i .i64 0), (.i .i64 10)]) m_8
    | (.inr (x4, x5, x6, m_9)) =>
      finM m0.h.length (tupA [(.i .i64 x4), (.i .i64 x5), (.i .i64 x6)]) m_9)

theorem g16_ok {ro : List ABlk} {O : Caller} {M : Means} (hM : M.Ok ⟨F, O⟩ ro) {x0 v1 h r} (ho : O 16 [(.i .i64 x0), v1] h = none) (hr : g16 M ro x0 v1 ⟨h, h.length, h.length⟩ = some r) : callX ⟨F, O⟩ ro 16 [(.i .i64 x0), v1] h = some r := by
  refine callX_of (F := ⟨F, O⟩) (fn := fn16) (g := g16 M ro x0 v1) ho rfl rfl hr ?_
  clear ho
  clear hr
  intro m0 t0 ht hr
  have g0 : t0.get 0 = (.i .i64 x0) := ht 0
  have g1 : t0.get 1 = v1 := ht 1
  clear ht
  unfold g16 at hr
  refine w_seq ?_
  refine w_ops ?_
  refine wo_step (v := (.i .i64 0)) (s_pure (p_mv rfl)) ?_
  refine wo_step (v := (.i .i64 0)) (s_pure (p_mv rfl)) ?_
  refine wo_step (v := (.i .i64 0)) (s_pure (p_mv rfl)) ?_
  refine wo_nil ?_
  refine nx_norm ?_
  refine w_seq ?_
  refine w_seq ?_
  refine w_ops ?_
  refine wo_step (v := (.i .i64 x0)) (s_pure (p_mv g0)) ?_
  refine wo_step (v := v1) (s_pure (p_mv g1)) ?_
  have hq := bindP_inv hr
  clear hr
  obtain ⟨v12, m_1, e12, hr⟩ := hq
  have hq := asB_inv hr
  clear hr
  obtain ⟨c12, rfl, hr⟩ := hq
  refine wo_step (v := (.b c12)) (s_call (mc rfl (mc rfl mn)) (callM_le hM.call e12)) ?_
  have hq := forceB_inv hr
  clear hr
  obtain ⟨c13, e13, hr⟩ := hq
  refine wo_step (v := (.b c13)) (s_pure ((p_not rfl).trans (cb e13))) ?_
  refine wo_nil ?_
  refine nx_norm ?_
  have hq := cond_inv hr
  clear hr
  rcases hq with ⟨rfl, hr⟩ | ⟨rfl, hr⟩
  · refine w_condT rfl ?_
    refine w_seq ?_
    refine w_ops ?_
    refine wo_step (v := (.i .i64 0)) (s_pure (p_mv rfl)) ?_
    refine wo_step (v := (.i .i64 0)) (s_pure (p_mv rfl)) ?_
    refine wo_step (v := (.i .i64 2)) (s_pure (p_mv rfl)) ?_
    refine wo_nil ?_
    refine nx_norm ?_
    refine w_ret ?_
    refine nx_ret ?_
    exact qf ret_ok (rt rfl (rt rfl (rt rfl rn))) hr
  · refine w_condF rfl ?_
    refine w_skip ?_
    refine nx_norm ?_
    refine w_seq ?_
    refine w_seq ?_
    refine w_ops ?_
    refine wo_step (v := (.i .i64 x0)) (s_pure (p_mv g0)) ?_
    have hq := bindP_inv hr
    clear hr
    obtain ⟨v15, m_2, e15, hr⟩ := hq
    refine wo_step (v := v15) (s_call (mc rfl (mc rfl mn)) (callM_le hM.call e15)) ?_
    have hq := bindO_inv hr
    clear hr
    obtain ⟨v16, e16, hr⟩ := hq
    have hq := asI_inv hr
    clear hr
    obtain ⟨x16, rfl, hr⟩ := hq
    refine wo_step (v := (.i .i64 x16)) (s_pure (o_len rfl e16)) ?_
    refine wo_step (v := (.i .i64 0)) (s_pure (p_mv rfl)) ?_
    refine wo_nil ?_
    refine nx_norm ?_
    refine w_block ?_
    have hq := bindO_inv hr
    clear hr
    obtain ⟨o, hl, hr⟩ := hq
    obtain ⟨n, hl⟩ := hM.loop _ _ _ hl
    refine jp_mono (w_loop _ (g16_I0 x0 v1 v15 x16) (g16_J0 x0 v1 v15 x16) ?_ n _ _ _ _ hl ⟨rfl, gl rfl, gl g0, gl g1, gl rfl, gl rfl⟩) ?_
    · clear hr hl
      intro s mm_2 t_1 o hi hr
      obtain ⟨x17, m_3⟩ := s
      obtain ⟨rfl, g17, g0, g1, g15, g16⟩ := hi
      unfold g16_b0 at hr
      refine w_seq ?_
      refine w_ops ?_
      have hq := forceB_inv hr
      clear hr
      obtain ⟨c18, e18, hr⟩ := hq
      refine wo_step (v := (.b c18)) (s_pure (p_bin g17 g16 (b_lss.trans (cb e18)))) ?_
      refine wo_nil ?_
      refine nx_norm ?_
      refine w_seq ?_
      have hq := cond_inv hr
      clear hr
      rcases hq with ⟨rfl, hr⟩ | ⟨rfl, hr⟩
      · refine w_condT rfl ?_
        refine w_skip ?_
        refine nx_norm ?_
        refine w_seq ?_
        refine w_block ?_
        refine w_seq ?_
        refine w_ops ?_
        have hq := bindO_inv hr
        clear hr
        obtain ⟨v19, e19, hr⟩ := hq
        refine wo_step (v := v19) (s_pure (o_ixS g15 g17 e19)) ?_
        have hq := bindO_inv hr
        clear hr
        obtain ⟨v20, e20, hr⟩ := hq
        have hq := asI_inv hr
        clear hr
        obtain ⟨x20, rfl, hr⟩ := hq
        refine wo_step (v := (.i .i64 x20)) (s_ld rfl e20) ?_
        refine wo_step (v := (.i .i64 x20)) (s_pure (p_mv rfl)) ?_
        refine wo_nil ?_
        refine nx_norm ?_
        refine w_seq ?_
        refine w_ops ?_
        refine wo_step (v := (.i .i64 x0)) (s_pure (p_mv g0)) ?_
        refine wo_step (v := (.i .i64 x20)) (s_pure (p_mv rfl)) ?_
        have hq := bindP_inv hr
        clear hr
        obtain ⟨v23, m_4, e23, hr⟩ := hq
        refine wo_step (v := v23) (s_call (mc rfl mn) (callM_le hM.call e23)) ?_
        refine wo_step (v := v1) (s_pure (p_mv g1)) ?_
        refine wo_step (v := (.i .i64 x20)) (s_pure (p_mv rfl)) ?_
        have hq := bindP_inv hr
        clear hr
        obtain ⟨v26, m_5, e26, hr⟩ := hq
        refine wo_step (v := v26) (s_call (mc rfl (mc rfl mn)) (callM_le hM.call e26)) ?_
        have hq := bindP_inv hr
        clear hr
        obtain ⟨v27, m_6, e27, hr⟩ := hq
        refine wo_step (v := v27) (s_bsl (qc rfl (qc rfl qn)) e27) ?_
        have hq := bindP_inv hr
        clear hr
        obtain ⟨v28, m_7, e28, hr⟩ := hq
        refine wo_step (v := v28) (s_call (mc rfl (mc rfl mn)) (callM_le hM.call e28)) ?_
        refine wo_step (v := v28) (s_pure (p_mv rfl)) ?_
        refine wo_nil ?_
        refine nx_norm ?_
        refine w_seq ?_
        refine w_ops ?_
        refine wo_step (v := v28) (s_pure (p_mv rfl)) ?_
        have hq := bindO_inv hr
        clear hr
        obtain ⟨v30, e30, hr⟩ := hq
        have hq := asI_inv hr
        clear hr
        obtain ⟨x30, rfl, hr⟩ := hq
        refine wo_step (v := (.i .i64 x30)) (s_pure (o_len rfl e30)) ?_
        have hq := forceB_inv hr
        clear hr
        obtain ⟨c31, e31, hr⟩ := hq
        refine wo_step (v := (.b c31)) (s_pure (p_bin rfl rfl (b_gtr.trans (cb e31)))) ?_
        refine wo_nil ?_
        refine nx_norm ?_
        have hq := cond_inv hr
        clear hr
        rcases hq with ⟨rfl, hr⟩ | ⟨rfl, hr⟩
        · refine w_condT rfl ?_
          refine w_seq ?_
          refine w_ops ?_
          refine wo_step (v := (.i .i64 x20)) (s_pure (p_mv rfl)) ?_
          refine wo_step (v := v28) (s_pure (p_mv rfl)) ?_
          have hq := bindO_inv hr
          clear hr
          obtain ⟨v34, e34, hr⟩ := hq
          refine wo_step (v := v34) (s_pure (o_ixS rfl rfl e34)) ?_
          refine wo_step (v := (.i .i64 x20)) (s_pure (p_mv rfl)) ?_
          have hq := bindO_inv hr
          clear hr
          obtain ⟨v35, e35, hr⟩ := hq
          have hq := asI_inv hr
          clear hr
          obtain ⟨x35, rfl, hr⟩ := hq
          refine wo_step (v := (.i .i64 x35)) (s_ld rfl e35) ?_
          refine wo_step (v := (.i .i64 x35)) (s_pure (p_mv rfl)) ?_
          refine wo_step (v := (.i .i64 0)) (s_pure (p_mv rfl)) ?_
          refine wo_nil ?_
          refine nx_norm ?_
          refine w_ret ?_
          refine bk_ret ?_
          refine nx_ret ?_
          cases hr
          exact ⟨_, _, rfl, ne_norm_ret, rfl, rfl, gl rfl, gl rfl, gl rfl⟩
        · refine w_condF rfl ?_
          refine w_skip ?_
          refine bk_norm ?_
          refine nx_norm ?_
          refine w_ops ?_
          have hq := forceI_inv hr
          clear hr
          obtain ⟨x36, e36, hr⟩ := hq
          refine wo_step (v := (.i .i64 x36)) (s_pure (p_bin g17 rfl (b_add.trans (ci e36)))) ?_
          refine wo_step (v := (.i .i64 x36)) (s_pure (p_mv rfl)) ?_
          refine wo_nil ?_
          cases hr
          exact ⟨_, _, rfl, rfl, rfl, gl rfl, gl g0, gl g1, gl g15, gl g16⟩
      · refine w_condF rfl ?_
        refine w_exit ?_
        refine nx_exit ?_
        cases hr
        exact ⟨_, _, rfl, ne_norm_exit, rfl, rfl⟩
    · rcases o with o | o
      · obtain ⟨m_8, ho⟩ : ∃ z, z = o := ⟨_, rfl⟩
        subst ho
        rintro _ mm t_2 ⟨rfl, rfl⟩
        refine bk_hit ?_
        refine nx_norm ?_
        refine w_seq ?_
        refine w_ops ?_
        refine wo_step (v := (.i .i64 0)) (s_pure (p_mv rfl)) ?_
        refine wo_step (v := (.i .i64 0)) (s_pure (p_mv rfl)) ?_
        refine wo_step (v := (.i .i64 10)) (s_pure (p_mv rfl)) ?_
        refine wo_nil ?_
        refine nx_norm ?_
        refine w_ret ?_
        exact qf ret_ok (rt rfl (rt rfl (rt rfl rn))) hr
      · obtain ⟨x4, x5, x6, m_9⟩ := o
        rintro _ mm_1 t_3 ⟨rfl, rfl, g4, g5, g6⟩
        refine bk_ret ?_
        refine nx_ret ?_
        exact qf ret_ok (rt g4 (rt g5 (rt g6 rn))) hr

/- dibber/dibberref08.Check -/

def g17 (M : Means) (ro : List ABlk) (x0 : Int) (v1 : AVal) (m0 : Mm) : Option (AVal × Heap × Nat × Nat) :=
  bindP (callM M.call m0 48 [(.i .i64 x0), v1]) fun v12 m_1 =>
  asB v12 fun c12 =>
  forceB (!c12) fun c13 =>
  cond c13 (
    finM m0.h.length (tupA [(.i .i64 0), (.i .i64 0), (.i .i64 2)]) m_1) (
    bindP (callM M.call m_1 49 [v1]) fun v16 m_2 =>
    bindO (evP .e (.ext 0 (.c v16))) fun v17 =>
    asI .i64 v17 fun x17 =>
    bindO (evP .e (.ext 1 (.c v16))) fun v18 =>
    asI .i64 v18 fun x18 =>
    bindO (evP .e (.ext 2 (.c v16))) fun v19 =>
    asB v19 fun c19 =>
    forceB (!c19) fun c21 =>
    cond c21 (
      finM m0.h.length (tupA [(.i .i64 0), (.i .i64 0), (.i .i64 10)]) m_2) (
      finM m0.h.length (tupA [(.i .i64 x17), (.i .i64 x18), (.i .i64 0)]) m_2))

theorem g17_ok {ro : List ABlk} {O : Caller} {M : Means} (hM : M.Ok ⟨F, O⟩ ro) {x0 v1 h r} (ho : O 17 [(.i .i64 x0), v1] h = none) (hr : g17 M ro x0 v1 ⟨h, h.length, h.length⟩ = some r) : callX ⟨F, O⟩ ro 17 [(.i .i64 x0), v1] h = some r := by
  refine callX_of (F := ⟨F, O⟩) (fn := fn17) (g := g17 M ro x0 v1) ho rfl rfl hr ?_
  clear ho
  clear hr
  intro m0 t0 ht hr
  have g0 : t0.get 0 = (.i .i64 x0) := ht 0
  have g1 : t0.get 1 = v1 := ht 1
  clear ht
  unfold g17 at hr
  refine w_seq ?_
  refine w_ops ?_
  refine wo_step (v := (.i .i64 0)) (s_pure (p_mv rfl)) ?_
  refine wo_step (v := (.i .i64 0)) (s_pure (p_mv rfl)) ?_
  refine wo_step (v := (.i .i64 0)) (s_pure (p_mv rfl)) ?_
  refine wo_nil ?_
  refine nx_norm ?_
  refine w_seq ?_
  refine w_seq ?_
  refine w_ops ?_
  refine wo_step (v := (.i .i64 x0)) (s_pure (p_mv g0)) ?_
  refine wo_step (v := v1) (s_pure (p_mv g1)) ?_
  have hq := bindP_inv hr
  clear hr
  obtain ⟨v12, m_1, e12, hr⟩ := hq
  have hq := asB_inv hr
  clear hr
  obtain ⟨c12, rfl, hr⟩ := hq
  refine wo_step (v := (.b c12)) (s_call (mc rfl (mc rfl mn)) (callM_le hM.call e12)) ?_
  have hq := forceB_inv hr
  clear hr
  obtain ⟨c13, e13, hr⟩ := hq
  refine wo_step (v := (.b c13)) (s_pure ((p_not rfl).trans (cb e13))) ?_
  refine wo_nil ?_
  refine nx_norm ?_
  have hq := cond_inv hr
  clear hr
  rcases hq with ⟨rfl, hr⟩ | ⟨rfl, hr⟩
  · refine w_condT rfl ?_
    refine w_seq ?_
    refine w_ops ?_
    refine wo_step (v := (.i .i64 0)) (s_pure (p_mv rfl)) ?_
    refine wo_step (v := (.i .i64 0)) (s_pure (p_mv rfl)) ?_
    refine wo_step (v := (.i .i64 2)) (s_pure (p_mv rfl)) ?_
    refine wo_nil ?_
    refine nx_norm ?_
    refine w_ret ?_
    refine nx_ret ?_
    exact qf ret_ok (rt rfl (rt rfl (rt rfl rn))) hr
  · refine w_condF rfl ?_
    refine w_skip ?_
    refine nx_norm ?_
    refine w_seq ?_
    refine w_ops ?_
    refine wo_step (v := v1) (s_pure (p_mv g1)) ?_
    have hq := bindP_inv hr
    clear hr
    obtain ⟨v16, m_2, e16, hr⟩ := hq
    refine wo_step (v := v16) (s_call (mc rfl mn) (callM_le hM.call e16)) ?_
    refine wo_step (v := v16) (s_pure (p_mv rfl)) ?_
    have hq := bindO_inv hr
    clear hr
    obtain ⟨v17, e17, hr⟩ := hq
    have hq := asI_inv hr
    clear hr
    obtain ⟨x17, rfl, hr⟩ := hq
    refine wo_step (v := (.i .i64 x17)) (s_pure (o_ext rfl e17)) ?_
    have hq := bindO_inv hr
    clear hr
    obtain ⟨v18, e18, hr⟩ := hq
    have hq := asI_inv hr
    clear hr
    obtain ⟨x18, rfl, hr⟩ := hq
    refine wo_step (v := (.i .i64 x18)) (s_pure (o_ext rfl e18)) ?_
    have hq := bindO_inv hr
    clear hr
    obtain ⟨v19, e19, hr⟩ := hq
    have hq := asB_inv hr
    clear hr
    obtain ⟨c19, rfl, hr⟩ := hq
    refine wo_step (v := (.b c19)) (s_pure (o_ext rfl e19)) ?_
    refine wo_step (v := (.i .i64 x17)) (s_pure (p_mv rfl)) ?_
    refine wo_step (v := (.i .i64 x18)) (s_pure (p_mv rfl)) ?_
    refine wo_step (v := (.b c19)) (s_pure (p_mv rfl)) ?_
    refine wo_nil ?_
    refine nx_norm ?_
    refine w_seq ?_
    refine w_seq ?_
    refine w_ops ?_
    refine wo_step (v := (.b c19)) (s_pure (p_mv rfl)) ?_
    have hq := forceB_inv hr
    clear hr
    obtain ⟨c21, e21, hr⟩ := hq
    refine wo_step (v := (.b c21)) (s_pure ((p_not rfl).trans (cb e21))) ?_
    refine wo_nil ?_
    refine nx_norm ?_
    have hq := cond_inv hr
    clear hr
    rcases hq with ⟨rfl, hr⟩ | ⟨rfl, hr⟩
    · refine w_condT rfl ?_
      refine w_seq ?_
      refine w_ops ?_
      refine wo_step (v := (.i .i64 0)) (s_pure (p_mv rfl)) ?_
      refine wo_step (v := (.i .i64 0)) (s_pure (p_mv rfl)) ?_
      refine wo_step (v := (.i .i64 10)) (s_pure (p_mv rfl)) ?_
      refine wo_nil ?_
      refine nx_norm ?_
      refine w_ret ?_
      refine nx_ret ?_
      exact qf ret_ok (rt rfl (rt rfl (rt rfl rn))) hr
    · refine w_condF rfl ?_
      refine w_skip ?_
      refine nx_norm ?_
      refine w_seq ?_
      refine w_ops ?_
      refine wo_step (v := (.i .i64 x17)) (s_pure (p_mv rfl)) ?_
      refine wo_step (v := (.i .i64 x18)) (s_pure (p_mv rfl)) ?_
      refine wo_step (v := (.i .i64 x17)) (s_pure (p_mv rfl)) ?_
      refine wo_step (v := (.i .i64 x18)) (s_pure (p_mv rfl)) ?_
      refine wo_step (v := (.i .i64 0)) (s_pure (p_mv rfl)) ?_
      refine wo_nil ?_
      refine nx_norm ?_
      refine w_ret ?_
      exact qf ret_ok (rt rfl (rt rfl (rt rfl rn))) hr

/- dibber/share.Fair -/
abbrev g25_J0 (x0 : Int) (v1 : AVal) (v2 : AVal) (o : Bool × Mm) (m1 : Mm) (t1 : Tr) : Prop :=
  match o with
  | (c20, m_2) => m_2 = m1 ∧ t1.get 20 = (.b c20) ∧ t1.get 0 = (.i .i64 x0) ∧ t1.get 1 = v1 ∧ t1.get 2 = v2
def g25 (M : Means) (ro : List ABlk) (x0 : Int) (v1 : AVal) (v2 : AVal) (m0 : Mm) : Option (AVal × Heap × Nat × Nat) :=
  bindP (callM M.call m0 44 [(.i .i64 x0), v1]) fun v13 m_1 =>
  asB v13 fun c13 =>
  forceB (!c13) fun c14 =>
  bindO (cond c14 (
    some (true, m_1)) (
    bindP (callM M.call m_1 65 [(.i .i64 x0), v2]) fun v18 m_3 =>
    asB v18 fun c18 =>
    forceB (!c18) fun c19 =>
    some (c19, m_3))) fun ⟨c20, m_2⟩ =>
  cond c20 (
    finM m0.h.length (tupA [(.i .i64 0), (.b false), (.i .i64 2)]) m_2) (
    bindP (callM M.call m_2 66 [v1, v2]) fun v24 m_4 =>
    bindP (stepM ro m_4 (.bsl 53 1 [AVal.nfn] 1 [((0, 1), .c v24)])) fun v25 m_5 =>
    bindP (callM M.call m_5 45 [(.i .i64 x0), v25]) fun v26 m_6 =>
    bindO (evP .e (.len false (.c v26))) fun v28 =>
    asI .i64 v28 fun x28 =>
    forceB (ltI 0 x28) fun c29 =>
    cond c29 (
      bindO (evP .e (.ixS 1 (.c v26) (.c (.i .i64 0)))) fun v31 =>
      bindO (ldM ro m_6 true 1 v31) fun v32 =>
      asI .i64 v32 fun x32 =>
      finM m0.h.length (tupA [(.i .i64 x32), (.b false), (.i .i64 0)]) m_6) (
      chk (!ltI x0 (.ofNat 0)) <|
      forceI (shlV .i64 1 x0) fun x34 =>
      forceI (wr .i64 (x34 - 1)) fun x35 =>
      bindO (some (Mm.base m_6)) fun m_7 =>
      bindP (callM M.call m_7 67 [v2, (.i .i64 x35)]) fun v39 m_8 =>
      asI .i64 v39 fun x39 =>
      chk (!Nat.blt m_8.lw m_6.h.length) <|
      bindO (evP .e (.ixS 1 (.c v1) (.c (.i .i64 x35)))) fun v42 =>
      bindO (ldA ro m_6.h true 1 v42) fun v43 =>
      asI .i64 v43 fun x43 =>
      forceB (eqI x39 x43) fun c44 =>
      bindO (some (Mm.join m_6 m_8)) fun m_9 =>
      finM m0.h.length (tupA [(.i .i64 x35), (.b c44), (.i .i64 0)]) m_9))

theorem g25_ok {ro : List ABlk} {O : Caller} {M : Means} (hM : M.Ok ⟨F, O⟩ ro) {x0 v1 v2 h r} (ho : O 25 [(.i .i64 x0), v1, v2] h = none) (hr : g25 M ro x0 v1 v2 ⟨h, h.length, h.length⟩ = some r) : callX ⟨F, O⟩ ro 25 [(.i .i64 x0), v1, v2] h = some r := by
  refine callX_of (F := ⟨F, O⟩) (fn := fn25) (g := g25 M ro x0 v1 v2) ho rfl rfl hr ?_
  clear ho
  clear hr
  intro m0 t0 ht hr
  have g0 : t0.get 0 = (.i .i64 x0) := ht 0
  have g1 : t0.get 1 = v1 := ht 1
  have g2 : t0.get 2 = v2 := ht 2
  clear ht
  unfold g25 at hr
  refine w_seq ?_
  refine w_ops ?_
  refine wo_step (v := (.i .i64 0)) (s_pure (p_mv rfl)) ?_
  refine wo_step (v := (.b false)) (s_pure (p_mv rfl)) ?_
  refine wo_step (v := (.i .i64 0)) (s_pure (p_mv rfl)) ?_
  refine wo_nil ?_
  refine nx_norm ?_
  refine w_seq ?_
  refine w_seq ?_
  refine w_ops ?_
  refine wo_step (v := (.i .i64 x0)) (s_pure (p_mv g0)) ?_
  refine wo_step (v := v1) (s_pure (p_mv g1)) ?_
  have hq := bindP_inv hr
  clear hr
  obtain ⟨v13, m_1, e13, hr⟩ := hq
  have hq := asB_inv hr
  clear hr
  obtain ⟨c13, rfl, hr⟩ := hq
  refine wo_step (v := (.b c13)) (s_call (mc rfl (mc rfl mn)) (callM_le hM.call e13)) ?_
  have hq := forceB_inv hr
  clear hr
  obtain ⟨c14, e14, hr⟩ := hq
  refine wo_step (v := (.b c14)) (s_pure ((p_not rfl).trans (cb e14))) ?_
  refine wo_step (v := (.b c14)) (s_pure (p_mv rfl)) ?_
  have hq := bindO_inv hr
  clear hr
  obtain ⟨o, hr, hk⟩ := hq
  refine wo_join 5 (g25_J0 x0 v1 v2 o) ?_ ?_
  · clear hk
    have hq := cond_inv hr
    clear hr
    rcases hq with ⟨rfl, hr⟩ | ⟨rfl, hr⟩
    · refine wo_skip (v := (.b true)) rfl rfl ?_
      refine wo_skip (v := (.b true)) rfl rfl ?_
      refine wo_skip (v := (.b true)) rfl rfl ?_
      refine wo_skip (v := (.b true)) rfl rfl ?_
      refine wo_step (v := (.b true)) (s_pure (p_pickT rfl rfl)) ?_
      refine wo_nil ?_
      cases hr
      exact ⟨_, _, rfl, rfl, gl rfl, gl g0, gl g1, gl g2⟩
    · refine wo_take (v := (.i .i64 x0)) rfl (s_pure (p_mv g0)) ?_
      refine wo_take (v := v2) rfl (s_pure (p_mv g2)) ?_
      have hq := bindP_inv hr
      clear hr
      obtain ⟨v18, m_3, e18, hr⟩ := hq
      have hq := asB_inv hr
      clear hr
      obtain ⟨c18, rfl, hr⟩ := hq
      refine wo_take (v := (.b c18)) rfl (s_call (mc rfl (mc rfl mn)) (callM_le hM.call e18)) ?_
      have hq := forceB_inv hr
      clear hr
      obtain ⟨c19, e19, hr⟩ := hq
      refine wo_take (v := (.b c19)) rfl (s_pure ((p_not rfl).trans (cb e19))) ?_
      refine wo_step (v := (.b c19)) (s_pure (p_pickF rfl rfl)) ?_
      refine wo_nil ?_
      cases hr
      exact ⟨_, _, rfl, rfl, gl rfl, gl g0, gl g1, gl g2⟩
  · clear hr
    have hr := hk
    clear hk
    obtain ⟨c20, m_2⟩ := o
    rintro mm t_1 ⟨rfl, g20, g0, g1, g2⟩
    refine wo_nil ?_
    refine nx_norm ?_
    have hq := cond_inv hr
    clear hr
    rcases hq with ⟨rfl, hr⟩ | ⟨rfl, hr⟩
    · refine w_condT g20 ?_
      refine w_seq ?_
      refine w_ops ?_
      refine wo_step (v := (.i .i64 0)) (s_pure (p_mv rfl)) ?_
      refine wo_step (v := (.b false)) (s_pure (p_mv rfl)) ?_
      refine wo_step (v := (.i .i64 2)) (s_pure (p_mv rfl)) ?_
      refine wo_nil ?_
      refine nx_norm ?_
      refine w_ret ?_
      refine nx_ret ?_
      exact qf ret_ok (rt rfl (rt rfl (rt rfl rn))) hr
    · refine w_condF g20 ?_
      refine w_skip ?_
      refine nx_norm ?_
      refine w_seq ?_
      refine w_seq ?_
      refine w_ops ?_
      refine wo_step (v := (.i .i64 x0)) (s_pure (p_mv g0)) ?_
      refine wo_step (v := v1) (s_pure (p_mv g1)) ?_
      refine wo_step (v := v2) (s_pure (p_mv g2)) ?_
      have hq := bindP_inv hr
      clear hr
      obtain ⟨v24, m_4, e24, hr⟩ := hq
      refine wo_step (v := v24) (s_call (mc rfl (mc rfl mn)) (callM_le hM.call e24)) ?_
      have hq := bindP_inv hr
      clear hr
      obtain ⟨v25, m_5, e25, hr⟩ := hq
      refine wo_step (v := v25) (s_bsl (qc rfl qn) e25) ?_
      have hq := bindP_inv hr
      clear hr
      obtain ⟨v26, m_6, e26, hr⟩ := hq
      refine wo_step (v := v26) (s_call (mc rfl (mc rfl mn)) (callM_le hM.call e26)) ?_
      refine wo_step (v := v26) (s_pure (p_mv rfl)) ?_
      refine wo_nil ?_
      refine nx_norm ?_
      refine w_seq ?_
      refine w_ops ?_
      refine wo_step (v := v26) (s_pure (p_mv rfl)) ?_
      have hq := bindO_inv hr
      clear hr
      obtain ⟨v28, e28, hr⟩ := hq
      have hq := asI_inv hr
      clear hr
      obtain ⟨x28, rfl, hr⟩ := hq
      refine wo_step (v := (.i .i64 x28)) (s_pure (o_len rfl e28)) ?_
      have hq := forceB_inv hr
      clear hr
      obtain ⟨c29, e29, hr⟩ := hq
      refine wo_step (v := (.b c29)) (s_pure (p_bin rfl rfl (b_gtr.trans (cb e29)))) ?_
      refine wo_nil ?_
      refine nx_norm ?_
      have hq := cond_inv hr
      clear hr
      rcases hq with ⟨rfl, hr⟩ | ⟨rfl, hr⟩
      · refine w_condT rfl ?_
        refine w_seq ?_
        refine w_ops ?_
        refine wo_step (v := v26) (s_pure (p_mv rfl)) ?_
        have hq := bindO_inv hr
        clear hr
        obtain ⟨v31, e31, hr⟩ := hq
        refine wo_step (v := v31) (s_pure (o_ixS rfl rfl e31)) ?_
        have hq := bindO_inv hr
        clear hr
        obtain ⟨v32, e32, hr⟩ := hq
        have hq := asI_inv hr
        clear hr
        obtain ⟨x32, rfl, hr⟩ := hq
        refine wo_step (v := (.i .i64 x32)) (s_ld rfl e32) ?_
        refine wo_step (v := (.i .i64 x32)) (s_pure (p_mv rfl)) ?_
        refine wo_step (v := (.b false)) (s_pure (p_mv rfl)) ?_
        refine wo_step (v := (.i .i64 0)) (s_pure (p_mv rfl)) ?_
        refine wo_nil ?_
        refine nx_norm ?_
        refine w_ret ?_
        refine nx_ret ?_
        exact qf ret_ok (rt rfl (rt rfl (rt rfl rn))) hr
      · refine w_condF rfl ?_
        refine w_skip ?_
        refine nx_norm ?_
        refine w_seq ?_
        refine w_ops ?_
        refine wo_step (v := (.i .i64 x0)) (s_pure (p_mv g0)) ?_
        have hq := chk_inv hr
        clear hr
        obtain ⟨hc34, hr⟩ := hq
        have hq := forceI_inv hr
        clear hr
        obtain ⟨x34, e34, hr⟩ := hq
        refine wo_step (v := (.i .i64 x34)) (s_pure (p_bin rfl rfl ((b_shl hc34).trans (ci e34)))) ?_
        have hq := forceI_inv hr
        clear hr
        obtain ⟨x35, e35, hr⟩ := hq
        refine wo_step (v := (.i .i64 x35)) (s_pure (p_bin rfl rfl (b_sub.trans (ci e35)))) ?_
        refine wo_step (v := (.i .i64 x35)) (s_pure (p_mv rfl)) ?_
        refine wo_nil ?_
        refine nx_norm ?_
        refine w_seq ?_
        have hq := bindO_inv hr
        clear hr
        obtain ⟨m_7, ef, hr⟩ := hq
        refine w_flt (af := true) rfl ef ?_
        refine wf_step (v := (.i .i64 x35)) (f_P rfl (s_pure (p_mv rfl))) ?_
        refine wf_step (v := v2) (f_P rfl (s_pure (p_mv g2))) ?_
        refine wf_step (v := (.i .i64 x35)) (f_P rfl (s_pure (p_mv rfl))) ?_
        have hq := bindP_inv hr
        clear hr
        obtain ⟨v39, m_8, e39, hr⟩ := hq
        have hq := asI_inv hr
        clear hr
        obtain ⟨x39, rfl, hr⟩ := hq
        have hq := chk_inv hr
        clear hr
        obtain ⟨hc39, hr⟩ := hq
        refine wf_step (v := (.i .i64 x39)) (f_M hc39 (s_call (mc rfl (mc rfl mn)) (callM_le hM.call e39))) ?_
        refine wf_step (v := v1) (f_P rfl (s_pure (p_mv g1))) ?_
        refine wf_step (v := (.i .i64 x35)) (f_P rfl (s_pure (p_mv rfl))) ?_
        have hq := bindO_inv hr
        clear hr
        obtain ⟨v42, e42, hr⟩ := hq
        refine wf_step (v := v42) (f_P rfl (s_pure (o_ixS rfl rfl e42))) ?_
        have hq := bindO_inv hr
        clear hr
        obtain ⟨v43, e43, hr⟩ := hq
        have hq := asI_inv hr
        clear hr
        obtain ⟨x43, rfl, hr⟩ := hq
        refine wf_step (v := (.i .i64 x43)) (f_ld rfl e43) ?_
        have hq := forceB_inv hr
        clear hr
        obtain ⟨c44, e44, hr⟩ := hq
        refine wf_step (v := (.b c44)) (f_P rfl (s_pure (p_bin rfl rfl (b_eql.trans (cb e44))))) ?_
        refine wf_step (v := (.i .i64 x35)) (f_P rfl (s_pure (p_mv rfl))) ?_
        refine wf_step (v := (.b c44)) (f_P rfl (s_pure (p_mv rfl))) ?_
        refine wf_step (v := (.i .i64 0)) (f_P rfl (s_pure (p_mv rfl))) ?_
        have hq := bindO_inv hr
        clear hr
        obtain ⟨m_9, ef_1, hr⟩ := hq
        refine wf_end ef_1 ?_
        refine nx_norm ?_
        refine w_ret ?_
        exact qf ret_ok (rt rfl (rt rfl (rt rfl rn))) hr

/- dibber/share.Proves -/
abbrev g27_J0 (v2 : AVal) (x29 : Int) (m_2 : Mm) (o : Bool) (m1 : Mm) (t1 : Tr) : Prop :=
  match o with
  | c35 => m_2 = m1 ∧ t1.get 35 = (.b c35) ∧ t1.get 2 = v2 ∧ t1.get 12 = (.i .i64 x29)
abbrev g27_I1 (v2 : AVal) (x38 : Int) (m_2 : Mm) (s : Int × Int) (m1 : Mm) (t1 : Tr) : Prop :=
  match s with
  | (x13, x39) => m_2 = m1 ∧ t1.get 13 = (.i .i64 x13) ∧ t1.get 39 = (.i .i64 x39) ∧ t1.get 37 = v2 ∧ t1.get 38 = (.i .i64 x38)
abbrev g27_J1 (v2 : AVal) (x38 : Int) (m_2 : Mm) (o : Int) (e : AExit) (m1 : Mm) (t1 : Tr) : Prop :=
  match o with
  | y13 => e = (.exit 0) ∧ m_2 = m1 ∧ t1.get 13 = (.i .i64 y13)
def g27_b1 (M : Means) (ro : List ABlk) (v2 : AVal) (x38 : Int) (m_2 : Mm) (x13 : Int) (x39 : Int) : Option ((Int × Int) ⊕ (Int)) :=
  forceB (ltI x39 x38) fun c40 =>
  cond c40 (
    bindO (evP .e (.ixS 1 (.c v2) (.c (.i .i64 x39)))) fun v41 =>
    bindO (ldM ro m_2 true 1 v41) fun v42 =>
    asI .i64 v42 fun x42 =>
    forceI (mxV false x42 0) fun x45 =>
    forceI (wr .i64 (x13 + x45)) fun x46 =>
    forceI (wr .i64 (x39 + 1)) fun x47 =>
    some (.inl (x46, x47))) (
    some (.inr x13))
def g27 (M : Means) (ro : List ABlk) (x0 : Int) (v1 : AVal) (v2 : AVal) (m0 : Mm) : Option (AVal × Heap × Nat × Nat) :=
  bindP (callM M.call m0 51 [(.i .i64 x0), v1]) fun v18 m_1 =>
  asI .i64 v18 fun x18 =>
  forceB (!eqI x18 0) fun c20 =>
  cond c20 (
    finM m0.h.length (tupA [(.i .i64 0), (.b false), (.i .i64 x18)]) m_1) (
    bindP (callM M.call m_1 25 [(.i .i64 x0), v1, v2]) fun v26 m_2 =>
    bindO (evP .e (.ext 0 (.c v26))) fun v27 =>
    asI .i64 v27 fun x27 =>
    bindO (evP .e (.ext 1 (.c v26))) fun v28 =>
    asB v28 fun c28 =>
    bindO (evP .e (.ext 2 (.c v26))) fun v29 =>
    asI .i64 v29 fun x29 =>
    forceB (!eqI x29 0) fun c31 =>
    bindO (cond c31 (
      some true) (
      forceB (!c28) fun c34 =>
      some c34)) fun c35 =>
    cond c35 (
      finM m0.h.length (tupA [(.i .i64 0), (.b false), (.i .i64 x29)]) m_2) (
      bindO (evP .e (.len false (.c v2))) fun v38 =>
      asI .i64 v38 fun x38 =>
      bindO (M.loop (S := Int × Int) (R := Int) (fun s => g27_b1 M ro v2 x38 m_2 s.1 s.2) (0, 0)) fun x13_1 =>
      finM m0.h.length (tupA [(.i .i64 x13_1), (.b true), (.i .i64 0)]) m_2))

theorem g27_ok {ro : List ABlk} {O : Caller} {M : Means} (hM : M.Ok ⟨F, O⟩ ro) {x0 v1 v2 h r} (ho : O 27 [(.i .i64 x0), v1, v2] h = none) (hr : g27 M ro x0 v1 v2 ⟨h, h.length, h.length⟩ = some r) : callX ⟨F, O⟩ ro 27 [(.i .i64 x0), v1, v2] h = some r := by
  refine callX_of (F := ⟨F, O⟩) (fn := fn27) (g := g27 M ro x0 v1 v2) ho rfl rfl hr ?_
  clear ho
  clear hr
  intro m0 t0 ht hr
  have g0 : t0.get 0 = (.i .i64 x0) := ht 0
  have g1 : t0.get 1 = v1 := ht 1
  have g2 : t0.get 2 = v2 := ht 2
  clear ht
  unfold g27 at hr
  refine w_seq ?_
  refine w_ops ?_
  refine wo_step (v := (.i .i64 0)) (s_pure (p_mv rfl)) ?_
  refine wo_step (v := (.b false)) (s_pure (p_mv rfl)) ?_
  refine wo_step (v := (.i .i64 0)) (s_pure (p_mv rfl)) ?_
  refine wo_nil ?_
  refine nx_norm ?_
  refine w_seq ?_
  refine w_seq ?_
  refine w_ops ?_
  refine wo_step (v := (.i .i64 x0)) (s_pure (p_mv g0)) ?_
  refine wo_step (v := v1) (s_pure (p_mv g1)) ?_
  have hq := bindP_inv hr
  clear hr
  obtain ⟨v18, m_1, e18, hr⟩ := hq
  have hq := asI_inv hr
  clear hr
  obtain ⟨x18, rfl, hr⟩ := hq
  refine wo_step (v := (.i .i64 x18)) (s_call (mc rfl (mc rfl mn)) (callM_le hM.call e18)) ?_
  refine wo_step (v := (.i .i64 x18)) (s_pure (p_mv rfl)) ?_
  refine wo_nil ?_
  refine nx_norm ?_
  refine w_seq ?_
  refine w_ops ?_
  refine wo_step (v := (.i .i64 x18)) (s_pure (p_mv rfl)) ?_
  have hq := forceB_inv hr
  clear hr
  obtain ⟨c20, e20, hr⟩ := hq
  refine wo_step (v := (.b c20)) (s_pure (p_bin rfl rfl (b_neq.trans (cb e20)))) ?_
  refine wo_nil ?_
  refine nx_norm ?_
  have hq := cond_inv hr
  clear hr
  rcases hq with ⟨rfl, hr⟩ | ⟨rfl, hr⟩
  · refine w_condT rfl ?_
    refine w_seq ?_
    refine w_ops ?_
    refine wo_step (v := (.i .i64 x18)) (s_pure (p_mv rfl)) ?_
    refine wo_step (v := (.i .i64 0)) (s_pure (p_mv rfl)) ?_
    refine wo_step (v := (.b false)) (s_pure (p_mv rfl)) ?_
    refine wo_step (v := (.i .i64 x18)) (s_pure (p_mv rfl)) ?_
    refine wo_nil ?_
    refine nx_norm ?_
    refine w_ret ?_
    refine nx_ret ?_
    exact qf ret_ok (rt rfl (rt rfl (rt rfl rn))) hr
  · refine w_condF rfl ?_
    refine w_skip ?_
    refine nx_norm ?_
    refine w_seq ?_
    refine w_ops ?_
    refine wo_step (v := (.i .i64 x0)) (s_pure (p_mv g0)) ?_
    refine wo_step (v := v1) (s_pure (p_mv g1)) ?_
    refine wo_step (v := v2) (s_pure (p_mv g2)) ?_
    have hq := bindP_inv hr
    clear hr
    obtain ⟨v26, m_2, e26, hr⟩ := hq
    refine wo_step (v := v26) (s_call (mc rfl (mc rfl (mc rfl mn))) (callM_le hM.call e26)) ?_
    refine wo_step (v := v26) (s_pure (p_mv rfl)) ?_
    have hq := bindO_inv hr
    clear hr
    obtain ⟨v27, e27, hr⟩ := hq
    have hq := asI_inv hr
    clear hr
    obtain ⟨x27, rfl, hr⟩ := hq
    refine wo_step (v := (.i .i64 x27)) (s_pure (o_ext rfl e27)) ?_
    have hq := bindO_inv hr
    clear hr
    obtain ⟨v28, e28, hr⟩ := hq
    have hq := asB_inv hr
    clear hr
    obtain ⟨c28, rfl, hr⟩ := hq
    refine wo_step (v := (.b c28)) (s_pure (o_ext rfl e28)) ?_
    have hq := bindO_inv hr
    clear hr
    obtain ⟨v29, e29, hr⟩ := hq
    have hq := asI_inv hr
    clear hr
    obtain ⟨x29, rfl, hr⟩ := hq
    refine wo_step (v := (.i .i64 x29)) (s_pure (o_ext rfl e29)) ?_
    refine wo_step (v := (.i .i64 x27)) (s_pure (p_mv rfl)) ?_
    refine wo_step (v := (.b c28)) (s_pure (p_mv rfl)) ?_
    refine wo_step (v := (.i .i64 x29)) (s_pure (p_mv rfl)) ?_
    refine wo_nil ?_
    refine nx_norm ?_
    refine w_seq ?_
    refine w_seq ?_
    refine w_ops ?_
    refine wo_step (v := (.i .i64 x29)) (s_pure (p_mv rfl)) ?_
    have hq := forceB_inv hr
    clear hr
    obtain ⟨c31, e31, hr⟩ := hq
    refine wo_step (v := (.b c31)) (s_pure (p_bin rfl rfl (b_neq.trans (cb e31)))) ?_
    refine wo_step (v := (.b c31)) (s_pure (p_mv rfl)) ?_
    have hq := bindO_inv hr
    clear hr
    obtain ⟨o, hr, hk⟩ := hq
    refine wo_join 3 (g27_J0 v2 x29 m_2 o) ?_ ?_
    · clear hk
      have hq := cond_inv hr
      clear hr
      rcases hq with ⟨rfl, hr⟩ | ⟨rfl, hr⟩
      · refine wo_skip (v := (.b true)) rfl rfl ?_
        refine wo_skip (v := (.b true)) rfl rfl ?_
        refine wo_step (v := (.b true)) (s_pure (p_pickT rfl rfl)) ?_
        refine wo_nil ?_
        cases hr
        exact ⟨_, _, rfl, rfl, gl rfl, gl g2, gl rfl⟩
      · refine wo_take (v := (.b c28)) rfl (s_pure (p_mv rfl)) ?_
        have hq := forceB_inv hr
        clear hr
        obtain ⟨c34, e34, hr⟩ := hq
        refine wo_take (v := (.b c34)) rfl (s_pure ((p_not rfl).trans (cb e34))) ?_
        refine wo_step (v := (.b c34)) (s_pure (p_pickF rfl rfl)) ?_
        refine wo_nil ?_
        cases hr
        exact ⟨_, _, rfl, rfl, gl rfl, gl g2, gl rfl⟩
    · clear hr
      have hr := hk
      clear hk
      obtain ⟨c35, ho⟩ : ∃ z, z = o := ⟨_, rfl⟩
      subst ho
      rintro mm t_1 ⟨rfl, g35, g2, g12⟩
      refine wo_nil ?_
      refine nx_norm ?_
      have hq := cond_inv hr
      clear hr
      rcases hq with ⟨rfl, hr⟩ | ⟨rfl, hr⟩
      · refine w_condT g35 ?_
        refine w_seq ?_
        refine w_ops ?_
        refine wo_step (v := (.i .i64 x29)) (s_pure (p_mv g12)) ?_
        refine wo_step (v := (.i .i64 0)) (s_pure (p_mv rfl)) ?_
        refine wo_step (v := (.b false)) (s_pure (p_mv rfl)) ?_
        refine wo_step (v := (.i .i64 x29)) (s_pure (p_mv rfl)) ?_
        refine wo_nil ?_
        refine nx_norm ?_
        refine w_ret ?_
        refine nx_ret ?_
        exact qf ret_ok (rt rfl (rt rfl (rt rfl rn))) hr
      · refine w_condF g35 ?_
        refine w_skip ?_
        refine nx_norm ?_
        refine w_seq ?_
        refine w_ops ?_
        refine wo_step (v := (.i .i64 0)) (s_pure (p_mv rfl)) ?_
        refine wo_nil ?_
        refine nx_norm ?_
        refine w_seq ?_
        refine w_seq ?_
        refine w_ops ?_
        refine wo_step (v := v2) (s_pure (p_mv g2)) ?_
        have hq := bindO_inv hr
        clear hr
        obtain ⟨v38, e38, hr⟩ := hq
        have hq := asI_inv hr
        clear hr
        obtain ⟨x38, rfl, hr⟩ := hq
        refine wo_step (v := (.i .i64 x38)) (s_pure (o_len rfl e38)) ?_
        refine wo_step (v := (.i .i64 0)) (s_pure (p_mv rfl)) ?_
        refine wo_nil ?_
        refine nx_norm ?_
        refine w_block ?_
        have hq := bindO_inv hr
        clear hr
        obtain ⟨o_1, hl, hr⟩ := hq
        obtain ⟨n, hl⟩ := hM.loop _ _ _ hl
        refine jp_mono (w_loop _ (g27_I1 v2 x38 m_2) (g27_J1 v2 x38 m_2) ?_ n _ _ _ _ hl ⟨rfl, gl rfl, gl rfl, gl rfl, gl rfl⟩) ?_
        · clear hr hl
          intro s mm_2 t_2 o hi hr
          obtain ⟨x13, x39⟩ := s
          obtain ⟨rfl, g13, g39, g37, g38⟩ := hi
          unfold g27_b1 at hr
          refine w_seq ?_
          refine w_ops ?_
          have hq := forceB_inv hr
          clear hr
          obtain ⟨c40, e40, hr⟩ := hq
          refine wo_step (v := (.b c40)) (s_pure (p_bin g39 g38 (b_lss.trans (cb e40)))) ?_
          refine wo_nil ?_
          refine nx_norm ?_
          refine w_seq ?_
          have hq := cond_inv hr
          clear hr
          rcases hq with ⟨rfl, hr⟩ | ⟨rfl, hr⟩
          · refine w_condT rfl ?_
            refine w_skip ?_
            refine nx_norm ?_
            refine w_seq ?_
            refine w_block ?_
            refine w_seq ?_
            refine w_ops ?_
            have hq := bindO_inv hr
            clear hr
            obtain ⟨v41, e41, hr⟩ := hq
            refine wo_step (v := v41) (s_pure (o_ixS g37 g39 e41)) ?_
            have hq := bindO_inv hr
            clear hr
            obtain ⟨v42, e42, hr⟩ := hq
            have hq := asI_inv hr
            clear hr
            obtain ⟨x42, rfl, hr⟩ := hq
            refine wo_step (v := (.i .i64 x42)) (s_ld rfl e42) ?_
            refine wo_step (v := (.i .i64 x42)) (s_pure (p_mv rfl)) ?_
            refine wo_nil ?_
            refine nx_norm ?_
            refine w_ops ?_
            refine wo_step (v := (.i .i64 x13)) (s_pure (p_mv g13)) ?_
            refine wo_step (v := (.i .i64 x42)) (s_pure (p_mv rfl)) ?_
            have hq := forceI_inv hr
            clear hr
            obtain ⟨x45, e45, hr⟩ := hq
            refine wo_step (v := (.i .i64 x45)) (s_pure ((p_mx rfl rfl).trans (ci e45))) ?_
            have hq := forceI_inv hr
            clear hr
            obtain ⟨x46, e46, hr⟩ := hq
            refine wo_step (v := (.i .i64 x46)) (s_pure (p_bin rfl rfl (b_add.trans (ci e46)))) ?_
            refine wo_step (v := (.i .i64 x46)) (s_pure (p_mv rfl)) ?_
            refine wo_nil ?_
            refine bk_norm ?_
            refine nx_norm ?_
            refine w_ops ?_
            have hq := forceI_inv hr
            clear hr
            obtain ⟨x47, e47, hr⟩ := hq
            refine wo_step (v := (.i .i64 x47)) (s_pure (p_bin g39 rfl (b_add.trans (ci e47)))) ?_
            refine wo_step (v := (.i .i64 x47)) (s_pure (p_mv rfl)) ?_
            refine wo_nil ?_
            cases hr
            exact ⟨_, _, rfl, rfl, rfl, gl rfl, gl rfl, gl g37, gl g38⟩
          · refine w_condF rfl ?_
            refine w_exit ?_
            refine nx_exit ?_
            cases hr
            exact ⟨_, _, rfl, ne_norm_exit, rfl, rfl, gl g13⟩
        · obtain ⟨x13_1, ho⟩ : ∃ z, z = o_1 := ⟨_, rfl⟩
          subst ho
          rintro _ mm_1 t_3 ⟨rfl, rfl, g13⟩
          refine bk_hit ?_
          refine nx_norm ?_
          refine w_seq ?_
          refine w_ops ?_
          refine wo_step (v := (.i .i64 x13_1)) (s_pure (p_mv g13)) ?_
          refine wo_step (v := (.i .i64 x13_1)) (s_pure (p_mv rfl)) ?_
          refine wo_step (v := (.b true)) (s_pure (p_mv rfl)) ?_
          refine wo_step (v := (.i .i64 0)) (s_pure (p_mv rfl)) ?_
          refine wo_nil ?_
          refine nx_norm ?_
          refine w_ret ?_
          exact qf ret_ok (rt rfl (rt rfl (rt rfl rn))) hr

/- dibber/share.Least -/

def g29 (M : Means) (ro : List ABlk) (x0 : Int) (v1 : AVal) (m0 : Mm) : Option (AVal × Heap × Nat × Nat) :=
  bindP (callM M.call m0 51 [(.i .i64 x0), v1]) fun v13 m_1 =>
  asI .i64 v13 fun x13 =>
  forceB (!eqI x13 0) fun c15 =>
  cond c15 (
    finM m0.h.length (tupA [(.i .i64 0), (.i .i64 0), (.i .i64 0), (.i .i64 x13)]) m_1) (
    bindP (callM M.call m_1 45 [(.i .i64 x0), AVal.nsl]) fun v19 m_2 =>
    bindP (callM M.call m_2 70 [v1, v19]) fun v20 m_3 =>
    asI .i64 v20 fun x20 =>
    bindP (callM M.call m_3 71 [v1, (.i .i64 x20)]) fun v24 m_4 =>
    bindP (stepM ro m_4 (.bsl 53 1 [AVal.nfn] 1 [((0, 1), .c v24)])) fun v25 m_5 =>
    bindP (callM M.call m_5 45 [(.i .i64 x0), v25]) fun v26 m_6 =>
    bindO (evP .e (.ixS 1 (.c v26) (.c (.i .i64 0)))) fun v29 =>
    bindO (ldA ro m_6.h true 1 v29) fun v30 =>
    asI .i64 v30 fun x30 =>
    bindO (evP .e (.len false (.c v26))) fun v33 =>
    asI .i64 v33 fun x33 =>
    forceI (wr .i64 (x33 - 1)) fun x34 =>
    bindO (evP .e (.ixS 1 (.c v26) (.c (.i .i64 x34)))) fun v35 =>
    bindO (ldA ro m_6.h true 1 v35) fun v36 =>
    asI .i64 v36 fun x36 =>
    finM m0.h.length (tupA [(.i .i64 x20), (.i .i64 x30), (.i .i64 x36), (.i .i64 0)]) m_6)

theorem g29_ok {ro : List ABlk} {O : Caller} {M : Means} (hM : M.Ok ⟨F, O⟩ ro) {x0 v1 h r} (ho : O 29 [(.i .i64 x0), v1] h = none) (hr : g29 M ro x0 v1 ⟨h, h.length, h.length⟩ = some r) : callX ⟨F, O⟩ ro 29 [(.i .i64 x0), v1] h = some r := by
  refine callX_of (F := ⟨F, O⟩) (fn := fn29) (g := g29 M ro x0 v1) ho rfl rfl hr ?_
  clear ho
  clear hr
  intro m0 t0 ht hr
  have g0 : t0.get 0 = (.i .i64 x0) := ht 0
  have g1 : t0.get 1 = v1 := ht 1
  clear ht
  unfold g29 at hr
  refine w_seq ?_
  refine w_ops ?_
  refine wo_step (v := (.i .i64 0)) (s_pure (p_mv rfl)) ?_
  refine wo_step (v := (.i .i64 0)) (s_pure (p_mv rfl)) ?_
  refine wo_step (v := (.i .i64 0)) (s_pure (p_mv rfl)) ?_
  refine wo_step (v := (.i .i64 0)) (s_pure (p_mv rfl)) ?_
  refine wo_nil ?_
  refine nx_norm ?_
  refine w_seq ?_
  refine w_seq ?_
  refine w_ops ?_
  refine wo_step (v := (.i .i64 x0)) (s_pure (p_mv g0)) ?_
  refine wo_step (v := v1) (s_pure (p_mv g1)) ?_
  have hq := bindP_inv hr
  clear hr
  obtain ⟨v13, m_1, e13, hr⟩ := hq
  have hq := asI_inv hr
  clear hr
  obtain ⟨x13, rfl, hr⟩ := hq
  refine wo_step (v := (.i .i64 x13)) (s_call (mc rfl (mc rfl mn)) (callM_le hM.call e13)) ?_
  refine wo_step (v := (.i .i64 x13)) (s_pure (p_mv rfl)) ?_
  refine wo_nil ?_
  refine nx_norm ?_
  refine w_seq ?_
  refine w_ops ?_
  refine wo_step (v := (.i .i64 x13)) (s_pure (p_mv rfl)) ?_
  have hq := forceB_inv hr
  clear hr
  obtain ⟨c15, e15, hr⟩ := hq
  refine wo_step (v := (.b c15)) (s_pure (p_bin rfl rfl (b_neq.trans (cb e15)))) ?_
  refine wo_nil ?_
  refine nx_norm ?_
  have hq := cond_inv hr
  clear hr
  rcases hq with ⟨rfl, hr⟩ | ⟨rfl, hr⟩
  · refine w_condT rfl ?_
    refine w_seq ?_
    refine w_ops ?_
    refine wo_step (v := (.i .i64 x13)) (s_pure (p_mv rfl)) ?_
    refine wo_step (v := (.i .i64 0)) (s_pure (p_mv rfl)) ?_
    refine wo_step (v := (.i .i64 0)) (s_pure (p_mv rfl)) ?_
    refine wo_step (v := (.i .i64 0)) (s_pure (p_mv rfl)) ?_
    refine wo_step (v := (.i .i64 x13)) (s_pure (p_mv rfl)) ?_
    refine wo_nil ?_
    refine nx_norm ?_
    refine w_ret ?_
    refine nx_ret ?_
    exact qf ret_ok (rt rfl (rt rfl (rt rfl (rt rfl rn)))) hr
  · refine w_condF rfl ?_
    refine w_skip ?_
    refine nx_norm ?_
    refine w_seq ?_
    refine w_ops ?_
    refine wo_step (v := v1) (s_pure (p_mv g1)) ?_
    refine wo_step (v := (.i .i64 x0)) (s_pure (p_mv g0)) ?_
    have hq := bindP_inv hr
    clear hr
    obtain ⟨v19, m_2, e19, hr⟩ := hq
    refine wo_step (v := v19) (s_call (mc rfl (mc rfl mn)) (callM_le hM.call e19)) ?_
    have hq := bindP_inv hr
    clear hr
    obtain ⟨v20, m_3, e20, hr⟩ := hq
    have hq := asI_inv hr
    clear hr
    obtain ⟨x20, rfl, hr⟩ := hq
    refine wo_step (v := (.i .i64 x20)) (s_call (mc rfl (mc rfl mn)) (callM_le hM.call e20)) ?_
    refine wo_step (v := (.i .i64 x20)) (s_pure (p_mv rfl)) ?_
    refine wo_nil ?_
    refine nx_norm ?_
    refine w_seq ?_
    refine w_ops ?_
    refine wo_step (v := (.i .i64 x0)) (s_pure (p_mv g0)) ?_
    refine wo_step (v := v1) (s_pure (p_mv g1)) ?_
    refine wo_step (v := (.i .i64 x20)) (s_pure (p_mv rfl)) ?_
    have hq := bindP_inv hr
    clear hr
    obtain ⟨v24, m_4, e24, hr⟩ := hq
    refine wo_step (v := v24) (s_call (mc rfl (mc rfl mn)) (callM_le hM.call e24)) ?_
    have hq := bindP_inv hr
    clear hr
    obtain ⟨v25, m_5, e25, hr⟩ := hq
    refine wo_step (v := v25) (s_bsl (qc rfl qn) e25) ?_
    have hq := bindP_inv hr
    clear hr
    obtain ⟨v26, m_6, e26, hr⟩ := hq
    refine wo_step (v := v26) (s_call (mc rfl (mc rfl mn)) (callM_le hM.call e26)) ?_
    refine wo_step (v := v26) (s_pure (p_mv rfl)) ?_
    refine wo_nil ?_
    refine nx_norm ?_
    refine w_seq ?_
    refine w_any ?_
    refine wa_step (v := (.i .i64 x20)) (a_pure (p_mv rfl)) ?_
    refine wa_step (v := v26) (a_pure (p_mv rfl)) ?_
    have hq := bindO_inv hr
    clear hr
    obtain ⟨v29, e29, hr⟩ := hq
    refine wa_step (v := v29) (a_pure (o_ixS rfl rfl e29)) ?_
    have hq := bindO_inv hr
    clear hr
    obtain ⟨v30, e30, hr⟩ := hq
    have hq := asI_inv hr
    clear hr
    obtain ⟨x30, rfl, hr⟩ := hq
    refine wa_step (v := (.i .i64 x30)) (a_ld rfl e30) ?_
    refine wa_step (v := v26) (a_pure (p_mv rfl)) ?_
    refine wa_step (v := v26) (a_pure (p_mv rfl)) ?_
    have hq := bindO_inv hr
    clear hr
    obtain ⟨v33, e33, hr⟩ := hq
    have hq := asI_inv hr
    clear hr
    obtain ⟨x33, rfl, hr⟩ := hq
    refine wa_step (v := (.i .i64 x33)) (a_pure (o_len rfl e33)) ?_
    have hq := forceI_inv hr
    clear hr
    obtain ⟨x34, e34, hr⟩ := hq
    refine wa_step (v := (.i .i64 x34)) (a_pure (p_bin rfl rfl (b_sub.trans (ci e34)))) ?_
    have hq := bindO_inv hr
    clear hr
    obtain ⟨v35, e35, hr⟩ := hq
    refine wa_step (v := v35) (a_pure (o_ixS rfl rfl e35)) ?_
    have hq := bindO_inv hr
    clear hr
    obtain ⟨v36, e36, hr⟩ := hq
    have hq := asI_inv hr
    clear hr
    obtain ⟨x36, rfl, hr⟩ := hq
    refine wa_step (v := (.i .i64 x36)) (a_ld rfl e36) ?_
    refine wa_step (v := (.i .i64 x20)) (a_pure (p_mv rfl)) ?_
    refine wa_step (v := (.i .i64 x30)) (a_pure (p_mv rfl)) ?_
    refine wa_step (v := (.i .i64 x36)) (a_pure (p_mv rfl)) ?_
    refine wa_step (v := (.i .i64 0)) (a_pure (p_mv rfl)) ?_
    refine wa_nil ?_
    refine ⟨m_6, rfl, ?_⟩
    refine nx_norm ?_
    refine w_ret ?_
    exact qf ret_ok (rt rfl (rt rfl (rt rfl (rt rfl rn)))) hr

/- dibber/share.Proof -/
abbrev g31_I0 (x0 : Int) (v1 : AVal) (x19 : Int) (v27 : AVal) (x29 : Int) (s : Int × Mm) (m1 : Mm) (t1 : Tr) : Prop :=
  match s with
  | (x30, m_3) => m_3 = m1 ∧ t1.get 30 = (.i .i64 x30) ∧ t1.get 0 = (.i .i64 x0) ∧ t1.get 1 = v1 ∧ t1.get 7 = (.i .i64 x19) ∧ t1.get 10 = v27 ∧ t1.get 29 = (.i .i64 x29)
abbrev g31_J0 (x0 : Int) (v1 : AVal) (x19 : Int) (v27 : AVal) (x29 : Int) (o : Mm) (e : AExit) (m1 : Mm) (t1 : Tr) : Prop :=
  match o with
  | mo => e = (.exit 0) ∧ mo = m1 ∧ t1.get 0 = (.i .i64 x0) ∧ t1.get 10 = v27
def g31_b0 (M : Means) (ro : List ABlk) (x0 : Int) (v1 : AVal) (x19 : Int) (v27 : AVal) (x29 : Int) (x30 : Int) (m_3 : Mm) : Option ((Int × Mm) ⊕ (Mm)) :=
  forceB (ltI x30 x29) fun c31 =>
  cond c31 (
    forceI (bitV .and .i64 x30 x19) fun x37 =>
    bindP (callM M.call m_3 73 [(.i .i64 x37)]) fun v38 m_4 =>
    bindP (stepM ro m_4 (.bsl 53 1 [AVal.nfn] 1 [((0, 1), .c v38)])) fun v39 m_5 =>
    bindP (callM M.call m_5 45 [(.i .i64 x0), v39]) fun v40 m_6 =>
    bindP (callM M.call m_6 70 [v1, v40]) fun v41 m_7 =>
    asI .i64 v41 fun x41 =>
    forceI (bitV .or .i64 x30 x19) fun x46 =>
    bindP (callM M.call m_7 74 [(.i .i64 x46)]) fun v47 m_8 =>
    bindP (stepM ro m_8 (.bsl 53 1 [AVal.nfn] 1 [((0, 1), .c v47)])) fun v48 m_9 =>
    bindP (callM M.call m_9 45 [(.i .i64 x0), v48]) fun v49 m_10 =>
    bindP (callM M.call m_10 70 [v1, v49]) fun v50 m_11 =>
    asI .i64 v50 fun x50 =>
    forceI (wr .i64 (x41 + x50)) fun x55 =>
    bindO (evP .e (.ixS 1 (.c v1) (.c (.i .i64 x19)))) fun v58 =>
    bindO (ldM ro m_11 true 1 v58) fun v59 =>
    asI .i64 v59 fun x59 =>
    forceI (wr .i64 (x55 - x59)) fun x60 =>
    bindO (evP .e (.ixS 1 (.c v27) (.c (.i .i64 x30)))) fun v61 =>
    bindP (stepM ro m_11 (.st 1 (.c v61) (.c (.i .i64 x60)))) fun vn m_12 =>
    forceI (wr .i64 (x30 + 1)) fun x62 =>
    some (.inl (x62, m_12))) (
    some (.inr m_3))
def g31 (M : Means) (ro : List ABlk) (x0 : Int) (v1 : AVal) (m0 : Mm) : Option (AVal × Heap × Nat × Nat) :=
  bindP (callM M.call m0 29 [(.i .i64 x0), v1]) fun v17 m_1 =>
  bindO (evP .e (.ext 0 (.c v17))) fun v18 =>
  asI .i64 v18 fun x18 =>
  bindO (evP .e (.ext 1 (.c v17))) fun v19 =>
  asI .i64 v19 fun x19 =>
  bindO (evP .e (.ext 2 (.c v17))) fun v20 =>
  asI .i64 v20 fun x20 =>
  bindO (evP .e (.ext 3 (.c v17))) fun v21 =>
  asI .i64 v21 fun x21 =>
  forceB (!eqI x21 0) fun c23 =>
  cond c23 (
    finM m0.h.length (tupA [AVal.nsl, (.i .i64 x21)]) m_1) (
    bindO (evP .e (.len false (.c v1))) fun v26 =>
    asI .i64 v26 fun x26 =>
    bindP (stepM ro m_1 (.mk 3 1 8 [(AVal.i IntKind.i64 0)] (.c (.i .i64 x26)) (.c (.i .i64 x26)))) fun v27 m_2 =>
    bindO (evP .e (.len false (.c v27))) fun v29 =>
    asI .i64 v29 fun x29 =>
    bindO (M.loop (S := Int × Mm) (R := Mm) (fun s => g31_b0 M ro x0 v1 x19 v27 x29 s.1 s.2) (0, m_2)) fun m_13 =>
    bindP (callM M.call m_13 75 [(.i .i64 x0)]) fun v65 m_14 =>
    bindP (callM M.call m_14 53 [v27, v65]) fun v66 m_15 =>
    finM m0.h.length (tupA [v66, (.i .i64 0)]) m_15)

theorem g31_ok {ro : List ABlk} {O : Caller} {M : Means} (hM : M.Ok ⟨F, O⟩ ro) {x0 v1 h r} (ho : O 31 [(.i .i64 x0), v1] h = none) (hr : g31 M ro x0 v1 ⟨h, h.length, h.length⟩ = some r) : callX ⟨F, O⟩ ro 31 [(.i .i64 x0), v1] h = some r := by
  refine callX_of (F := ⟨F, O⟩) (fn := fn31) (g := g31 M ro x0 v1) ho rfl rfl hr ?_
  clear ho
  clear hr
  intro m0 t0 ht hr
  have g0 : t0.get 0 = (.i .i64 x0) := ht 0
  have g1 : t0.get 1 = v1 := ht 1
  clear ht
  unfold g31 at hr
  refine w_seq ?_
  refine w_ops ?_
  refine wo_step (v := AVal.nsl) (s_pure (p_mv rfl)) ?_
  refine wo_step (v := (.i .i64 0)) (s_pure (p_mv rfl)) ?_
  refine wo_nil ?_
  refine nx_norm ?_
  refine w_seq ?_
  refine w_ops ?_
  refine wo_step (v := (.i .i64 x0)) (s_pure (p_mv g0)) ?_
  refine wo_step (v := v1) (s_pure (p_mv g1)) ?_
  have hq := bindP_inv hr
  clear hr
  obtain ⟨v17, m_1, e17, hr⟩ := hq
  refine wo_step (v := v17) (s_call (mc rfl (mc rfl mn)) (callM_le hM.call e17)) ?_
  refine wo_step (v := v17) (s_pure (p_mv rfl)) ?_
  have hq := bindO_inv hr
  clear hr
  obtain ⟨v18, e18, hr⟩ := hq
  have hq := asI_inv hr
  clear hr
  obtain ⟨x18, rfl, hr⟩ := hq
  refine wo_step (v := (.i .i64 x18)) (s_pure (o_ext rfl e18)) ?_
  have hq := bindO_inv hr
  clear hr
  obtain ⟨v19, e19, hr⟩ := hq
  have hq := asI_inv hr
  clear hr
  obtain ⟨x19, rfl, hr⟩ := hq
  refine wo_step (v := (.i .i64 x19)) (s_pure (o_ext rfl e19)) ?_
  have hq := bindO_inv hr
  clear hr
  obtain ⟨v20, e20, hr⟩ := hq
  have hq := asI_inv hr
  clear hr
  obtain ⟨x20, rfl, hr⟩ := hq
  refine wo_step (v := (.i .i64 x20)) (s_pure (o_ext rfl e20)) ?_
  have hq := bindO_inv hr
  clear hr
  obtain ⟨v21, e21, hr⟩ := hq
  have hq := asI_inv hr
  clear hr
  obtain ⟨x21, rfl, hr⟩ := hq
  refine wo_step (v := (.i .i64 x21)) (s_pure (o_ext rfl e21)) ?_
  refine wo_step (v := (.i .i64 x18)) (s_pure (p_mv rfl)) ?_
  refine wo_step (v := (.i .i64 x19)) (s_pure (p_mv rfl)) ?_
  refine wo_step (v := (.i .i64 x20)) (s_pure (p_mv rfl)) ?_
  refine wo_step (v := (.i .i64 x21)) (s_pure (p_mv rfl)) ?_
  refine wo_nil ?_
  refine nx_norm ?_
  refine w_seq ?_
  refine w_seq ?_
  refine w_ops ?_
  refine wo_step (v := (.i .i64 x21)) (s_pure (p_mv rfl)) ?_
  have hq := forceB_inv hr
  clear hr
  obtain ⟨c23, e23, hr⟩ := hq
  refine wo_step (v := (.b c23)) (s_pure (p_bin rfl rfl (b_neq.trans (cb e23)))) ?_
  refine wo_nil ?_
  refine nx_norm ?_
  have hq := cond_inv hr
  clear hr
  rcases hq with ⟨rfl, hr⟩ | ⟨rfl, hr⟩
  · refine w_condT rfl ?_
    refine w_seq ?_
    refine w_ops ?_
    refine wo_step (v := (.i .i64 x21)) (s_pure (p_mv rfl)) ?_
    refine wo_step (v := AVal.nsl) (s_pure (p_mv rfl)) ?_
    refine wo_step (v := (.i .i64 x21)) (s_pure (p_mv rfl)) ?_
    refine wo_nil ?_
    refine nx_norm ?_
    refine w_ret ?_
    refine nx_ret ?_
    exact qf ret_ok (rt rfl (rt rfl rn)) hr
  · refine w_condF rfl ?_
    refine w_skip ?_
    refine nx_norm ?_
    refine w_seq ?_
    refine w_ops ?_
    refine wo_step (v := v1) (s_pure (p_mv g1)) ?_
    have hq := bindO_inv hr
    clear hr
    obtain ⟨v26, e26, hr⟩ := hq
    have hq := asI_inv hr
    clear hr
    obtain ⟨x26, rfl, hr⟩ := hq
    refine wo_step (v := (.i .i64 x26)) (s_pure (o_len rfl e26)) ?_
    have hq := bindP_inv hr
    clear hr
    obtain ⟨v27, m_2, e27, hr⟩ := hq
    refine wo_step (v := v27) (s_mk rfl rfl e27) ?_
    refine wo_step (v := v27) (s_pure (p_mv rfl)) ?_
    refine wo_nil ?_
    refine nx_norm ?_
    refine w_seq ?_
    refine w_seq ?_
    refine w_ops ?_
    refine wo_step (v := v27) (s_pure (p_mv rfl)) ?_
    have hq := bindO_inv hr
    clear hr
    obtain ⟨v29, e29, hr⟩ := hq
    have hq := asI_inv hr
    clear hr
    obtain ⟨x29, rfl, hr⟩ := hq
    refine wo_step (v := (.i .i64 x29)) (s_pure (o_len rfl e29)) ?_
    refine wo_step (v := (.i .i64 0)) (s_pure (p_mv rfl)) ?_
    refine wo_nil ?_
    refine nx_norm ?_
    refine w_block ?_
    have hq := bindO_inv hr
    clear hr
    obtain ⟨o, hl, hr⟩ := hq
    obtain ⟨n, hl⟩ := hM.loop _ _ _ hl
    refine jp_mono (w_loop _ (g31_I0 x0 v1 x19 v27 x29) (g31_J0 x0 v1 x19 v27 x29) ?_ n _ _ _ _ hl ⟨rfl, gl rfl, gl g0, gl g1, gl rfl, gl rfl, gl rfl⟩) ?_
    · clear hr hl
      intro s mm_1 t_1 o hi hr
      obtain ⟨x30, m_3⟩ := s
      obtain ⟨rfl, g30, g0, g1, g7, g10, g29⟩ := hi
      unfold g31_b0 at hr
      refine w_seq ?_
      refine w_ops ?_
      have hq := forceB_inv hr
      clear hr
      obtain ⟨c31, e31, hr⟩ := hq
      refine wo_step (v := (.b c31)) (s_pure (p_bin g30 g29 (b_lss.trans (cb e31)))) ?_
      refine wo_nil ?_
      refine nx_norm ?_
      refine w_seq ?_
      have hq := cond_inv hr
      clear hr
      rcases hq with ⟨rfl, hr⟩ | ⟨rfl, hr⟩
      · refine w_condT rfl ?_
        refine w_skip ?_
        refine nx_norm ?_
        refine w_seq ?_
        refine w_block ?_
        refine w_seq ?_
        refine w_ops ?_
        refine wo_step (v := (.i .i64 x30)) (s_pure (p_mv g30)) ?_
        refine wo_step (v := (.i .i64 x30)) (s_pure (p_mv rfl)) ?_
        refine wo_nil ?_
        refine nx_norm ?_
        refine w_seq ?_
        refine w_ops ?_
        refine wo_step (v := v1) (s_pure (p_mv g1)) ?_
        refine wo_step (v := (.i .i64 x0)) (s_pure (p_mv g0)) ?_
        refine wo_step (v := (.i .i64 x30)) (s_pure (p_mv rfl)) ?_
        refine wo_step (v := (.i .i64 x19)) (s_pure (p_mv g7)) ?_
        have hq := forceI_inv hr
        clear hr
        obtain ⟨x37, e37, hr⟩ := hq
        refine wo_step (v := (.i .i64 x37)) (s_pure (p_bin rfl rfl (b_and.trans (ci e37)))) ?_
        have hq := bindP_inv hr
        clear hr
        obtain ⟨v38, m_4, e38, hr⟩ := hq
        refine wo_step (v := v38) (s_call (mc rfl mn) (callM_le hM.call e38)) ?_
        have hq := bindP_inv hr
        clear hr
        obtain ⟨v39, m_5, e39, hr⟩ := hq
        refine wo_step (v := v39) (s_bsl (qc rfl qn) e39) ?_
        have hq := bindP_inv hr
        clear hr
        obtain ⟨v40, m_6, e40, hr⟩ := hq
        refine wo_step (v := v40) (s_call (mc rfl (mc rfl mn)) (callM_le hM.call e40)) ?_
        have hq := bindP_inv hr
        clear hr
        obtain ⟨v41, m_7, e41, hr⟩ := hq
        have hq := asI_inv hr
        clear hr
        obtain ⟨x41, rfl, hr⟩ := hq
        refine wo_step (v := (.i .i64 x41)) (s_call (mc rfl (mc rfl mn)) (callM_le hM.call e41)) ?_
        refine wo_step (v := (.i .i64 x41)) (s_pure (p_mv rfl)) ?_
        refine wo_nil ?_
        refine nx_norm ?_
        refine w_seq ?_
        refine w_ops ?_
        refine wo_step (v := v1) (s_pure (p_mv g1)) ?_
        refine wo_step (v := (.i .i64 x0)) (s_pure (p_mv g0)) ?_
        refine wo_step (v := (.i .i64 x30)) (s_pure (p_mv rfl)) ?_
        refine wo_step (v := (.i .i64 x19)) (s_pure (p_mv g7)) ?_
        have hq := forceI_inv hr
        clear hr
        obtain ⟨x46, e46, hr⟩ := hq
        refine wo_step (v := (.i .i64 x46)) (s_pure (p_bin rfl rfl (b_or.trans (ci e46)))) ?_
        have hq := bindP_inv hr
        clear hr
        obtain ⟨v47, m_8, e47, hr⟩ := hq
        refine wo_step (v := v47) (s_call (mc rfl mn) (callM_le hM.call e47)) ?_
        have hq := bindP_inv hr
        clear hr
        obtain ⟨v48, m_9, e48, hr⟩ := hq
        refine wo_step (v := v48) (s_bsl (qc rfl qn) e48) ?_
        have hq := bindP_inv hr
        clear hr
        obtain ⟨v49, m_10, e49, hr⟩ := hq
        refine wo_step (v := v49) (s_call (mc rfl (mc rfl mn)) (callM_le hM.call e49)) ?_
        have hq := bindP_inv hr
        clear hr
        obtain ⟨v50, m_11, e50, hr⟩ := hq
        have hq := asI_inv hr
        clear hr
        obtain ⟨x50, rfl, hr⟩ := hq
        refine wo_step (v := (.i .i64 x50)) (s_call (mc rfl (mc rfl mn)) (callM_le hM.call e50)) ?_
        refine wo_step (v := (.i .i64 x50)) (s_pure (p_mv rfl)) ?_
        refine wo_nil ?_
        refine nx_norm ?_
        refine w_ops ?_
        refine wo_step (v := v27) (s_pure (p_mv g10)) ?_
        refine wo_step (v := (.i .i64 x30)) (s_pure (p_mv rfl)) ?_
        refine wo_step (v := (.i .i64 x41)) (s_pure (p_mv rfl)) ?_
        refine wo_step (v := (.i .i64 x50)) (s_pure (p_mv rfl)) ?_
        have hq := forceI_inv hr
        clear hr
        obtain ⟨x55, e55, hr⟩ := hq
        refine wo_step (v := (.i .i64 x55)) (s_pure (p_bin rfl rfl (b_add.trans (ci e55)))) ?_
        refine wo_step (v := v1) (s_pure (p_mv g1)) ?_
        refine wo_step (v := (.i .i64 x19)) (s_pure (p_mv g7)) ?_
        have hq := bindO_inv hr
        clear hr
        obtain ⟨v58, e58, hr⟩ := hq
        refine wo_step (v := v58) (s_pure (o_ixS rfl rfl e58)) ?_
        have hq := bindO_inv hr
        clear hr
        obtain ⟨v59, e59, hr⟩ := hq
        have hq := asI_inv hr
        clear hr
        obtain ⟨x59, rfl, hr⟩ := hq
        refine wo_step (v := (.i .i64 x59)) (s_ld rfl e59) ?_
        have hq := forceI_inv hr
        clear hr
        obtain ⟨x60, e60, hr⟩ := hq
        refine wo_step (v := (.i .i64 x60)) (s_pure (p_bin rfl rfl (b_sub.trans (ci e60)))) ?_
        have hq := bindO_inv hr
        clear hr
        obtain ⟨v61, e61, hr⟩ := hq
        refine wo_step (v := v61) (s_pure (o_ixS rfl rfl e61)) ?_
        have hq := bindP_inv hr
        clear hr
        obtain ⟨vn, m_12, en, hr⟩ := hq
        refine wo_stepN (s_st rfl rfl en) ?_
        refine wo_nil ?_
        refine bk_norm ?_
        refine nx_norm ?_
        refine w_ops ?_
        have hq := forceI_inv hr
        clear hr
        obtain ⟨x62, e62, hr⟩ := hq
        refine wo_step (v := (.i .i64 x62)) (s_pure (p_bin g30 rfl (b_add.trans (ci e62)))) ?_
        refine wo_step (v := (.i .i64 x62)) (s_pure (p_mv rfl)) ?_
        refine wo_nil ?_
        cases hr
        exact ⟨_, _, rfl, rfl, rfl, gl rfl, gl g0, gl g1, gl g7, gl g10, gl g29⟩
      · refine w_condF rfl ?_
        refine w_exit ?_
        refine nx_exit ?_
        cases hr
        exact ⟨_, _, rfl, ne_norm_exit, rfl, rfl, gl g0, gl g10⟩
    · obtain ⟨m_13, ho⟩ : ∃ z, z = o := ⟨_, rfl⟩
      subst ho
      rintro _ mm t_2 ⟨rfl, rfl, g0, g10⟩
      refine bk_hit ?_
      refine nx_norm ?_
      refine w_seq ?_
      refine w_ops ?_
      refine wo_step (v := v27) (s_pure (p_mv g10)) ?_
      refine wo_step (v := (.i .i64 x0)) (s_pure (p_mv g0)) ?_
      have hq := bindP_inv hr
      clear hr
      obtain ⟨v65, m_14, e65, hr⟩ := hq
      refine wo_step (v := v65) (s_call (mc rfl mn) (callM_le hM.call e65)) ?_
      have hq := bindP_inv hr
      clear hr
      obtain ⟨v66, m_15, e66, hr⟩ := hq
      refine wo_step (v := v66) (s_call (mc rfl (mc rfl mn)) (callM_le hM.call e66)) ?_
      refine wo_step (v := v66) (s_pure (p_mv rfl)) ?_
      refine wo_step (v := (.i .i64 0)) (s_pure (p_mv rfl)) ?_
      refine wo_nil ?_
      refine nx_norm ?_
      refine w_ret ?_
      exact qf ret_ok (rt rfl (rt rfl rn)) hr

/- dibber/dibberlaw08.submodular -/

def g39 (M : Means) (ro : List ABlk) (x0 : Int) (v1 : AVal) (m0 : Mm) : Option (AVal × Heap × Nat × Nat) :=
  bindP (callM M.call m0 17 [(.i .i64 x0), v1]) fun v11 m_1 =>
  bindO (evP .e (.ext 0 (.c v11))) fun v12 =>
  asI .i64 v12 fun x12 =>
  bindO (evP .e (.ext 1 (.c v11))) fun v13 =>
  asI .i64 v13 fun x13 =>
  bindO (evP .e (.ext 2 (.c v11))) fun v14 =>
  asI .i64 v14 fun x14 =>
  forceB (eqI x14 10) fun c16 =>
  finM m0.h.length (tupA [(.b c16)]) m_1

theorem g39_ok {ro : List ABlk} {O : Caller} {M : Means} (hM : M.Ok ⟨F, O⟩ ro) {x0 v1 h r} (ho : O 39 [(.i .i64 x0), v1] h = none) (hr : g39 M ro x0 v1 ⟨h, h.length, h.length⟩ = some r) : callX ⟨F, O⟩ ro 39 [(.i .i64 x0), v1] h = some r := by
  refine callX_of (F := ⟨F, O⟩) (fn := fn39) (g := g39 M ro x0 v1) ho rfl rfl hr ?_
  clear ho
  clear hr
  intro m0 t0 ht hr
  have g0 : t0.get 0 = (.i .i64 x0) := ht 0
  have g1 : t0.get 1 = v1 := ht 1
  clear ht
  unfold g39 at hr
  refine w_seq ?_
  refine w_ops ?_
  refine wo_step (v := (.b false)) (s_pure (p_mv rfl)) ?_
  refine wo_nil ?_
  refine nx_norm ?_
  refine w_seq ?_
  refine w_ops ?_
  refine wo_step (v := (.i .i64 x0)) (s_pure (p_mv g0)) ?_
  refine wo_step (v := v1) (s_pure (p_mv g1)) ?_
  have hq := bindP_inv hr
  clear hr
  obtain ⟨v11, m_1, e11, hr⟩ := hq
  refine wo_step (v := v11) (s_call (mc rfl (mc rfl mn)) (callM_le hM.call e11)) ?_
  refine wo_step (v := v11) (s_pure (p_mv rfl)) ?_
  have hq := bindO_inv hr
  clear hr
  obtain ⟨v12, e12, hr⟩ := hq
  have hq := asI_inv hr
  clear hr
  obtain ⟨x12, rfl, hr⟩ := hq
  refine wo_step (v := (.i .i64 x12)) (s_pure (o_ext rfl e12)) ?_
  have hq := bindO_inv hr
  clear hr
  obtain ⟨v13, e13, hr⟩ := hq
  have hq := asI_inv hr
  clear hr
  obtain ⟨x13, rfl, hr⟩ := hq
  refine wo_step (v := (.i .i64 x13)) (s_pure (o_ext rfl e13)) ?_
  have hq := bindO_inv hr
  clear hr
  obtain ⟨v14, e14, hr⟩ := hq
  have hq := asI_inv hr
  clear hr
  obtain ⟨x14, rfl, hr⟩ := hq
  refine wo_step (v := (.i .i64 x14)) (s_pure (o_ext rfl e14)) ?_
  refine wo_step (v := (.i .i64 x12)) (s_pure (p_mv rfl)) ?_
  refine wo_step (v := (.i .i64 x13)) (s_pure (p_mv rfl)) ?_
  refine wo_step (v := (.i .i64 x14)) (s_pure (p_mv rfl)) ?_
  refine wo_nil ?_
  refine nx_norm ?_
  refine w_seq ?_
  refine w_ops ?_
  refine wo_step (v := (.i .i64 x14)) (s_pure (p_mv rfl)) ?_
  have hq := forceB_inv hr
  clear hr
  obtain ⟨c16, e16, hr⟩ := hq
  refine wo_step (v := (.b c16)) (s_pure (p_bin rfl rfl (b_eql.trans (cb e16)))) ?_
  refine wo_step (v := (.b c16)) (s_pure (p_mv rfl)) ?_
  refine wo_nil ?_
  refine nx_norm ?_
  refine w_ret ?_
  exact qf ret_ok (rt rfl rn) hr

/- dibber/dibberlaw08.before -/
abbrev g42_I0 (v0 : AVal) (v1 : AVal) (m0 : Mm) (s : Int) (m1 : Mm) (t1 : Tr) : Prop :=
  match s with
  | x5 => m0 = m1 ∧ t1.get 5 = (.i .i64 x5) ∧ t1.get 0 = v0 ∧ t1.get 1 = v1
abbrev g42_J0 (v0 : AVal) (v1 : AVal) (m0 : Mm) (o : (Unit ⊕ Bool)) (e : AExit) (m1 : Mm) (t1 : Tr) : Prop :=
  match o with
  | (.inl _) => e = (.exit 0) ∧ m0 = m1
  | (.inr y4) => e = .ret ∧ m0 = m1 ∧ t1.get 4 = (.b y4)
abbrev g42_J1 (v0 : AVal) (v1 : AVal) (x5 : Int) (m0 : Mm) (o : Bool) (m1 : Mm) (t1 : Tr) : Prop :=
  match o with
  | c15 => m0 = m1 ∧ t1.get 15 = (.b c15) ∧ t1.get 0 = v0 ∧ t1.get 1 = v1 ∧ t1.get 5 = (.i .i64 x5)
def g42_b0 (M : Means) (ro : List ABlk) (v0 : AVal) (v1 : AVal) (m0 : Mm) (x5 : Int) : Option ((Int) ⊕ ((Unit ⊕ Bool))) :=
  bindO (evP .e (.len false (.c v0))) fun v8 =>
  asI .i64 v8 fun x8 =>
  forceB (ltI x5 x8) fun c9 =>
  bindO (cond c9 (
    bindO (evP .e (.len false (.c v1))) fun v13 =>
    asI .i64 v13 fun x13 =>
    forceB (ltI x5 x13) fun c14 =>
    some c14) (
    some false)) fun c15 =>
  cond c15 (
    bindO (evP .e (.ixS 1 (.c v0) (.c (.i .i64 x5)))) fun v20 =>
    bindO (ldA ro m0.h true 1 v20) fun v21 =>
    asI .i64 v21 fun x21 =>
    bindO (evP .e (.ixS 1 (.c v1) (.c (.i .i64 x5)))) fun v24 =>
    bindO (ldA ro m0.h true 1 v24) fun v25 =>
    asI .i64 v25 fun x25 =>
    forceB (!eqI x21 x25) fun c26 =>
    cond c26 (
      bindO (evP .e (.ixS 1 (.c v0) (.c (.i .i64 x5)))) fun v29 =>
      bindO (ldA ro m0.h true 1 v29) fun v30 =>
      asI .i64 v30 fun x30 =>
      bindO (evP .e (.ixS 1 (.c v1) (.c (.i .i64 x5)))) fun v33 =>
      bindO (ldA ro m0.h true 1 v33) fun v34 =>
      asI .i64 v34 fun x34 =>
      forceB (ltI x30 x34) fun c35 =>
      some (.inr (.inr c35))) (
      forceI (wr .i64 (x5 + 1)) fun x17 =>
      some (.inl x17))) (
    some (.inr (.inl ())))
def g42 (M : Means) (ro : List ABlk) (v0 : AVal) (v1 : AVal) (m0 : Mm) : Option (AVal × Heap × Nat × Nat) :=
  bindO (M.loop (S := Int) (R := (Unit ⊕ Bool)) (fun s => g42_b0 M ro v0 v1 m0 s) 0) fun o_1 => match o_1 with
  | (.inl _) =>
    finM m0.h.length (tupA [(.b false)]) m0
  | (.inr c4) =>
    finM m0.h.length (tupA [(.b c4)]) m0

theorem g42_ok {ro : List ABlk} {O : Caller} {M : Means} (hM : M.Ok ⟨F, O⟩ ro) {v0 v1 h r} (ho : O 42 [v0, v1] h = none) (hr : g42 M ro v0 v1 ⟨h, h.length, h.length⟩ = some r) : callX ⟨F, O⟩ ro 42 [v0, v1] h = some r := by
  refine callX_of (F := ⟨F, O⟩) (fn := fn42) (g := g42 M ro v0 v1) ho rfl rfl hr ?_
  clear ho
  clear hr
  intro m0 t0 ht hr
  have g0 : t0.get 0 = v0 := ht 0
  have g1 : t0.get 1 = v1 := ht 1
  clear ht
  unfold g42 at hr
  refine w_seq ?_
  refine w_ops ?_
  refine wo_step (v := (.b false)) (s_pure (p_mv rfl)) ?_
  refine wo_nil ?_
  refine nx_norm ?_
  refine w_seq ?_
  refine w_seq ?_
  refine w_ops ?_
  refine wo_step (v := (.i .i64 0)) (s_pure (p_mv rfl)) ?_
  refine wo_nil ?_
  refine nx_norm ?_
  refine w_block ?_
  have hq := bindO_inv hr
  clear hr
  obtain ⟨o_1, hl, hr⟩ := hq
  obtain ⟨n, hl⟩ := hM.loop _ _ _ hl
  refine jp_mono (w_loop _ (g42_I0 v0 v1 m0) (g42_J0 v0 v1 m0) ?_ n _ _ _ _ hl ⟨rfl, gl rfl, gl g0, gl g1⟩) ?_
  · clear hr hl
    intro s mm_3 t_1 o hi hr
    obtain ⟨x5, hs⟩ : ∃ z, z = s := ⟨_, rfl⟩
    subst hs
    obtain ⟨rfl, g5, g0, g1⟩ := hi
    unfold g42_b0 at hr
    refine w_seq ?_
    refine w_seq ?_
    refine w_ops ?_
    refine wo_step (v := (.i .i64 x5)) (s_pure (p_mv g5)) ?_
    refine wo_step (v := v0) (s_pure (p_mv g0)) ?_
    have hq := bindO_inv hr
    clear hr
    obtain ⟨v8, e8, hr⟩ := hq
    have hq := asI_inv hr
    clear hr
    obtain ⟨x8, rfl, hr⟩ := hq
    refine wo_step (v := (.i .i64 x8)) (s_pure (o_len rfl e8)) ?_
    have hq := forceB_inv hr
    clear hr
    obtain ⟨c9, e9, hr⟩ := hq
    refine wo_step (v := (.b c9)) (s_pure (p_bin rfl rfl (b_lss.trans (cb e9)))) ?_
    refine wo_step (v := (.b c9)) (s_pure (p_mv rfl)) ?_
    have hq := bindO_inv hr
    clear hr
    obtain ⟨o, hr, hk⟩ := hq
    refine wo_join 5 (g42_J1 v0 v1 x5 m0 o) ?_ ?_
    · clear hk
      have hq := cond_inv hr
      clear hr
      rcases hq with ⟨rfl, hr⟩ | ⟨rfl, hr⟩
      · refine wo_take (v := (.i .i64 x5)) rfl (s_pure (p_mv g5)) ?_
        refine wo_take (v := v1) rfl (s_pure (p_mv g1)) ?_
        have hq := bindO_inv hr
        clear hr
        obtain ⟨v13, e13, hr⟩ := hq
        have hq := asI_inv hr
        clear hr
        obtain ⟨x13, rfl, hr⟩ := hq
        refine wo_take (v := (.i .i64 x13)) rfl (s_pure (o_len rfl e13)) ?_
        have hq := forceB_inv hr
        clear hr
        obtain ⟨c14, e14, hr⟩ := hq
        refine wo_take (v := (.b c14)) rfl (s_pure (p_bin rfl rfl (b_lss.trans (cb e14)))) ?_
        refine wo_step (v := (.b c14)) (s_pure (p_pickT rfl rfl)) ?_
        refine wo_nil ?_
        cases hr
        exact ⟨_, _, rfl, rfl, gl rfl, gl g0, gl g1, gl g5⟩
      · refine wo_skip (v := (.b false)) rfl rfl ?_
        refine wo_skip (v := (.b false)) rfl rfl ?_
        refine wo_skip (v := (.b false)) rfl rfl ?_
        refine wo_skip (v := (.b false)) rfl rfl ?_
        refine wo_step (v := (.b false)) (s_pure (p_pickF rfl rfl)) ?_
        refine wo_nil ?_
        cases hr
        exact ⟨_, _, rfl, rfl, gl rfl, gl g0, gl g1, gl g5⟩
    · clear hr
      have hr := hk
      clear hk
      obtain ⟨c15, ho⟩ : ∃ z, z = o := ⟨_, rfl⟩
      subst ho
      rintro mm t_2 ⟨rfl, g15, g0, g1, g5⟩
      refine wo_nil ?_
      refine nx_norm ?_
      have hq := cond_inv hr
      clear hr
      rcases hq with ⟨rfl, hr⟩ | ⟨rfl, hr⟩
      · refine w_condT g15 ?_
        refine w_skip ?_
        refine nx_norm ?_
        refine w_seq ?_
        refine w_block ?_
        refine w_seq ?_
        refine w_any ?_
        refine wa_step (v := v0) (a_pure (p_mv g0)) ?_
        refine wa_step (v := (.i .i64 x5)) (a_pure (p_mv g5)) ?_
        have hq := bindO_inv hr
        clear hr
        obtain ⟨v20, e20, hr⟩ := hq
        refine wa_step (v := v20) (a_pure (o_ixS rfl rfl e20)) ?_
        have hq := bindO_inv hr
        clear hr
        obtain ⟨v21, e21, hr⟩ := hq
        have hq := asI_inv hr
        clear hr
        obtain ⟨x21, rfl, hr⟩ := hq
        refine wa_step (v := (.i .i64 x21)) (a_ld rfl e21) ?_
        refine wa_step (v := v1) (a_pure (p_mv g1)) ?_
        refine wa_step (v := (.i .i64 x5)) (a_pure (p_mv g5)) ?_
        have hq := bindO_inv hr
        clear hr
        obtain ⟨v24, e24, hr⟩ := hq
        refine wa_step (v := v24) (a_pure (o_ixS rfl rfl e24)) ?_
        have hq := bindO_inv hr
        clear hr
        obtain ⟨v25, e25, hr⟩ := hq
        have hq := asI_inv hr
        clear hr
        obtain ⟨x25, rfl, hr⟩ := hq
        refine wa_step (v := (.i .i64 x25)) (a_ld rfl e25) ?_
        have hq := forceB_inv hr
        clear hr
        obtain ⟨c26, e26, hr⟩ := hq
        refine wa_step (v := (.b c26)) (a_pure (p_bin rfl rfl (b_neq.trans (cb e26)))) ?_
        refine wa_nil ?_
        refine ⟨m0, rfl, ?_⟩
        refine nx_norm ?_
        have hq := cond_inv hr
        clear hr
        rcases hq with ⟨rfl, hr⟩ | ⟨rfl, hr⟩
        · refine w_condT rfl ?_
          refine w_seq ?_
          refine w_any ?_
          refine wa_step (v := v0) (a_pure (p_mv g0)) ?_
          refine wa_step (v := (.i .i64 x5)) (a_pure (p_mv g5)) ?_
          have hq := bindO_inv hr
          clear hr
          obtain ⟨v29, e29, hr⟩ := hq
          refine wa_step (v := v29) (a_pure (o_ixS rfl rfl e29)) ?_
          have hq := bindO_inv hr
          clear hr
          obtain ⟨v30, e30, hr⟩ := hq
          have hq := asI_inv hr
          clear hr
          obtain ⟨x30, rfl, hr⟩ := hq
          refine wa_step (v := (.i .i64 x30)) (a_ld rfl e30) ?_
          refine wa_step (v := v1) (a_pure (p_mv g1)) ?_
          refine wa_step (v := (.i .i64 x5)) (a_pure (p_mv g5)) ?_
          have hq := bindO_inv hr
          clear hr
          obtain ⟨v33, e33, hr⟩ := hq
          refine wa_step (v := v33) (a_pure (o_ixS rfl rfl e33)) ?_
          have hq := bindO_inv hr
          clear hr
          obtain ⟨v34, e34, hr⟩ := hq
          have hq := asI_inv hr
          clear hr
          obtain ⟨x34, rfl, hr⟩ := hq
          refine wa_step (v := (.i .i64 x34)) (a_ld rfl e34) ?_
          have hq := forceB_inv hr
          clear hr
          obtain ⟨c35, e35, hr⟩ := hq
          refine wa_step (v := (.b c35)) (a_pure (p_bin rfl rfl (b_lss.trans (cb e35)))) ?_
          refine wa_step (v := (.b c35)) (a_pure (p_mv rfl)) ?_
          refine wa_nil ?_
          refine ⟨m0, rfl, ?_⟩
          refine nx_norm ?_
          refine w_ret ?_
          refine bk_ret ?_
          refine nx_ret ?_
          cases hr
          exact ⟨_, _, rfl, ne_norm_ret, rfl, rfl, gl rfl⟩
        · refine w_condF rfl ?_
          refine w_skip ?_
          refine bk_norm ?_
          refine nx_norm ?_
          refine w_ops ?_
          refine wo_step (v := (.i .i64 x5)) (s_pure (p_mv g5)) ?_
          have hq := forceI_inv hr
          clear hr
          obtain ⟨x17, e17, hr⟩ := hq
          refine wo_step (v := (.i .i64 x17)) (s_pure (p_bin rfl rfl (b_add.trans (ci e17)))) ?_
          refine wo_step (v := (.i .i64 x17)) (s_pure (p_mv rfl)) ?_
          refine wo_nil ?_
          cases hr
          exact ⟨_, _, rfl, rfl, rfl, gl rfl, gl g0, gl g1⟩
      · refine w_condF g15 ?_
        refine w_exit ?_
        refine nx_exit ?_
        cases hr
        exact ⟨_, _, rfl, ne_norm_exit, rfl, rfl⟩
  · rcases o_1 with o_1 | o_1
    · rintro _ mm_1 t_3 ⟨rfl, rfl⟩
      refine bk_hit ?_
      refine nx_norm ?_
      refine w_seq ?_
      refine w_ops ?_
      refine wo_step (v := (.b false)) (s_pure (p_mv rfl)) ?_
      refine wo_nil ?_
      refine nx_norm ?_
      refine w_ret ?_
      exact qf ret_ok (rt rfl rn) hr
    · obtain ⟨c4, ho⟩ : ∃ z, z = o_1 := ⟨_, rfl⟩
      subst ho
      rintro _ mm_2 t_4 ⟨rfl, rfl, g4⟩
      refine bk_ret ?_
      refine nx_ret ?_
      exact qf ret_ok (rt g4 rn) hr

/- dibber/share.isCost -/
abbrev g44_J0 (v1 : AVal) (m_1 : Mm) (o : Bool) (m1 : Mm) (t1 : Tr) : Prop :=
  match o with
  | c13 => m_1 = m1 ∧ t1.get 13 = (.b c13) ∧ t1.get 1 = v1
abbrev g44_J1 (v1 : AVal) (m_1 : Mm) (o : Bool) (m1 : Mm) (t1 : Tr) : Prop :=
  match o with
  | c19 => m_1 = m1 ∧ t1.get 19 = (.b c19) ∧ t1.get 1 = v1
abbrev g44_J2  (o : Bool × Mm) (m1 : Mm) (t1 : Tr) : Prop :=
  match o with
  | (c23, m_2) => m_2 = m1 ∧ t1.get 23 = (.b c23)
def g44 (M : Means) (ro : List ABlk) (x0 : Int) (v1 : AVal) (m0 : Mm) : Option (AVal × Heap × Nat × Nat) :=
  bindP (callM M.call m0 84 [(.i .i64 x0)]) fun v6 m_1 =>
  asB v6 fun c6 =>
  bindO (cond c6 (
    bindO (evP .e (.len false (.c v1))) fun v9 =>
    asI .i64 v9 fun x9 =>
    chk (!ltI x0 (.ofNat 0)) <|
    forceI (shlV .i64 1 x0) fun x11 =>
    forceB (eqI x9 x11) fun c12 =>
    some c12) (
    some false)) fun c13 =>
  bindO (cond c13 (
    bindO (evP .e (.ixS 1 (.c v1) (.c (.i .i64 0)))) fun v16 =>
    bindO (ldM ro m_1 true 1 v16) fun v17 =>
    asI .i64 v17 fun x17 =>
    forceB (eqI x17 0) fun c18 =>
    some c18) (
    some false)) fun c19 =>
  bindO (cond c19 (
    bindP (callM M.call m_1 87 [v1, (.i .i64 1000000)]) fun v22 m_3 =>
    asB v22 fun c22 =>
    some (c22, m_3)) (
    some (false, m_1))) fun ⟨c23, m_2⟩ =>
  finM m0.h.length (tupA [(.b c23)]) m_2

theorem g44_ok {ro : List ABlk} {O : Caller} {M : Means} (hM : M.Ok ⟨F, O⟩ ro) {x0 v1 h r} (ho : O 44 [(.i .i64 x0), v1] h = none) (hr : g44 M ro x0 v1 ⟨h, h.length, h.length⟩ = some r) : callX ⟨F, O⟩ ro 44 [(.i .i64 x0), v1] h = some r := by
  refine callX_of (F := ⟨F, O⟩) (fn := fn44) (g := g44 M ro x0 v1) ho rfl rfl hr ?_
  clear ho
  clear hr
  intro m0 t0 ht hr
  have g0 : t0.get 0 = (.i .i64 x0) := ht 0
  have g1 : t0.get 1 = v1 := ht 1
  clear ht
  unfold g44 at hr
  refine w_seq ?_
  refine w_ops ?_
  refine wo_step (v := (.b false)) (s_pure (p_mv rfl)) ?_
  refine wo_nil ?_
  refine nx_norm ?_
  refine w_seq ?_
  refine w_ops ?_
  refine wo_step (v := (.i .i64 x0)) (s_pure (p_mv g0)) ?_
  have hq := bindP_inv hr
  clear hr
  obtain ⟨v6, m_1, e6, hr⟩ := hq
  have hq := asB_inv hr
  clear hr
  obtain ⟨c6, rfl, hr⟩ := hq
  refine wo_step (v := (.b c6)) (s_call (mc rfl mn) (callM_le hM.call e6)) ?_
  refine wo_step (v := (.b c6)) (s_pure (p_mv rfl)) ?_
  have hq := bindO_inv hr
  clear hr
  obtain ⟨o, hr, hk⟩ := hq
  refine wo_join 6 (g44_J0 v1 m_1 o) ?_ ?_
  · clear hk
    have hq := cond_inv hr
    clear hr
    rcases hq with ⟨rfl, hr⟩ | ⟨rfl, hr⟩
    · refine wo_take (v := v1) rfl (s_pure (p_mv g1)) ?_
      have hq := bindO_inv hr
      clear hr
      obtain ⟨v9, e9, hr⟩ := hq
      have hq := asI_inv hr
      clear hr
      obtain ⟨x9, rfl, hr⟩ := hq
      refine wo_take (v := (.i .i64 x9)) rfl (s_pure (o_len rfl e9)) ?_
      refine wo_take (v := (.i .i64 x0)) rfl (s_pure (p_mv g0)) ?_
      have hq := chk_inv hr
      clear hr
      obtain ⟨hc11, hr⟩ := hq
      have hq := forceI_inv hr
      clear hr
      obtain ⟨x11, e11, hr⟩ := hq
      refine wo_take (v := (.i .i64 x11)) rfl (s_pure (p_bin rfl rfl ((b_shl hc11).trans (ci e11)))) ?_
      have hq := forceB_inv hr
      clear hr
      obtain ⟨c12, e12, hr⟩ := hq
      refine wo_take (v := (.b c12)) rfl (s_pure (p_bin rfl rfl (b_eql.trans (cb e12)))) ?_
      refine wo_step (v := (.b c12)) (s_pure (p_pickT rfl rfl)) ?_
      refine wo_nil ?_
      cases hr
      exact ⟨_, _, rfl, rfl, gl rfl, gl g1⟩
    · refine wo_skip (v := (.b false)) rfl rfl ?_
      refine wo_skip (v := (.b false)) rfl rfl ?_
      refine wo_skip (v := (.b false)) rfl rfl ?_
      refine wo_skip (v := (.b false)) rfl rfl ?_
      refine wo_skip (v := (.b false)) rfl rfl ?_
      refine wo_step (v := (.b false)) (s_pure (p_pickF rfl rfl)) ?_
      refine wo_nil ?_
      cases hr
      exact ⟨_, _, rfl, rfl, gl rfl, gl g1⟩
  · clear hr
    have hr := hk
    clear hk
    obtain ⟨c13, ho⟩ : ∃ z, z = o := ⟨_, rfl⟩
    subst ho
    rintro mm t_1 ⟨rfl, g13, g1⟩
    refine wo_step (v := (.b c13)) (s_pure (p_mv g13)) ?_
    have hq := bindO_inv hr
    clear hr
    obtain ⟨o_1, hr, hk⟩ := hq
    refine wo_join 5 (g44_J1 v1 m_1 o_1) ?_ ?_
    · clear hk
      have hq := cond_inv hr
      clear hr
      rcases hq with ⟨rfl, hr⟩ | ⟨rfl, hr⟩
      · refine wo_take (v := v1) rfl (s_pure (p_mv g1)) ?_
        have hq := bindO_inv hr
        clear hr
        obtain ⟨v16, e16, hr⟩ := hq
        refine wo_take (v := v16) rfl (s_pure (o_ixS rfl rfl e16)) ?_
        have hq := bindO_inv hr
        clear hr
        obtain ⟨v17, e17, hr⟩ := hq
        have hq := asI_inv hr
        clear hr
        obtain ⟨x17, rfl, hr⟩ := hq
        refine wo_take (v := (.i .i64 x17)) rfl (s_ld rfl e17) ?_
        have hq := forceB_inv hr
        clear hr
        obtain ⟨c18, e18, hr⟩ := hq
        refine wo_take (v := (.b c18)) rfl (s_pure (p_bin rfl rfl (b_eql.trans (cb e18)))) ?_
        refine wo_step (v := (.b c18)) (s_pure (p_pickT rfl rfl)) ?_
        refine wo_nil ?_
        cases hr
        exact ⟨_, _, rfl, rfl, gl rfl, gl g1⟩
      · refine wo_skip (v := (.b false)) rfl rfl ?_
        refine wo_skip (v := (.b false)) rfl rfl ?_
        refine wo_skip (v := (.b false)) rfl rfl ?_
        refine wo_skip (v := (.b false)) rfl rfl ?_
        refine wo_step (v := (.b false)) (s_pure (p_pickF rfl rfl)) ?_
        refine wo_nil ?_
        cases hr
        exact ⟨_, _, rfl, rfl, gl rfl, gl g1⟩
    · clear hr
      have hr := hk
      clear hk
      obtain ⟨c19, ho⟩ : ∃ z, z = o_1 := ⟨_, rfl⟩
      subst ho
      rintro mm_1 t_2 ⟨rfl, g19, g1⟩
      refine wo_step (v := (.b c19)) (s_pure (p_mv g19)) ?_
      have hq := bindO_inv hr
      clear hr
      obtain ⟨o_2, hr, hk⟩ := hq
      refine wo_join 3 (g44_J2  o_2) ?_ ?_
      · clear hk
        have hq := cond_inv hr
        clear hr
        rcases hq with ⟨rfl, hr⟩ | ⟨rfl, hr⟩
        · refine wo_take (v := v1) rfl (s_pure (p_mv g1)) ?_
          have hq := bindP_inv hr
          clear hr
          obtain ⟨v22, m_3, e22, hr⟩ := hq
          have hq := asB_inv hr
          clear hr
          obtain ⟨c22, rfl, hr⟩ := hq
          refine wo_take (v := (.b c22)) rfl (s_call (mc rfl (mc rfl mn)) (callM_le hM.call e22)) ?_
          refine wo_step (v := (.b c22)) (s_pure (p_pickT rfl rfl)) ?_
          refine wo_nil ?_
          cases hr
          exact ⟨_, _, rfl, rfl, gl rfl⟩
        · refine wo_skip (v := (.b false)) rfl rfl ?_
          refine wo_skip (v := (.b false)) rfl rfl ?_
          refine wo_step (v := (.b false)) (s_pure (p_pickF rfl rfl)) ?_
          refine wo_nil ?_
          cases hr
          exact ⟨_, _, rfl, rfl, gl rfl⟩
      · clear hr
        have hr := hk
        clear hk
        obtain ⟨c23, m_2⟩ := o_2
        rintro mm_2 t_3 ⟨rfl, g23⟩
        refine wo_step (v := (.b c23)) (s_pure (p_mv g23)) ?_
        refine wo_nil ?_
        refine nx_norm ?_
        refine w_ret ?_
        exact qf ret_ok (rt rfl rn) hr

/- dibber/share.groups -/
abbrev g45_I0 (v1 : AVal) (x8 : Int) (s : AVal × Int × Mm) (m1 : Mm) (t1 : Tr) : Prop :=
  match s with
  | (v5, x9, m_1) => m_1 = m1 ∧ t1.get 5 = v5 ∧ t1.get 9 = (.i .i64 x9) ∧ t1.get 1 = v1 ∧ t1.get 8 = (.i .i64 x8)
abbrev g45_J0 (v1 : AVal) (x8 : Int) (o : (AVal × Mm)) (e : AExit) (m1 : Mm) (t1 : Tr) : Prop :=
  match o with
  | (y5, mo) => e = (.exit 0) ∧ mo = m1 ∧ t1.get 5 = y5
abbrev g45_J1 (v1 : AVal) (x8 : Int) (x9 : Int) (o : (AVal × Mm)) (e : AExit) (m1 : Mm) (t1 : Tr) : Prop :=
  match o with
  | (y5, mo) => e = .norm ∧ mo = m1 ∧ t1.get 5 = y5 ∧ t1.get 1 = v1 ∧ t1.get 8 = (.i .i64 x8) ∧ t1.get 9 = (.i .i64 x9)
def g45_b0 (M : Means) (ro : List ABlk) (v1 : AVal) (x8 : Int) (v5 : AVal) (x9 : Int) (m_1 : Mm) : Option ((AVal × Int × Mm) ⊕ ((AVal × Mm))) :=
  forceB (ltI x9 x8) fun c10 =>
  cond c10 (
    bindP (callM M.call m_1 88 [(.i .i64 x9), v1]) fun v14 m_2 =>
    asB v14 fun c14 =>
    bindO (α := (AVal × Mm)) (
      cond c14 (
        bindP (stepM ro m_2 (.bsl 3 1 [(AVal.i IntKind.i64 0)] 1 [((0, 1), .c (.i .i64 x9))])) fun v17 m_3 =>
        bindP (stepM ro m_3 (.app 3 1 8 [(AVal.i IntKind.i64 0)] (.c v5) (.c v17))) fun v18 m_4 =>
        some (v18, m_4)) (
        some (v5, m_2))) fun ⟨v5_1, m_5⟩ =>
    forceI (wr .i64 (x9 + 1)) fun x19 =>
    some (.inl (v5_1, x19, m_5))) (
    some (.inr (v5, m_1)))
def g45 (M : Means) (ro : List ABlk) (x0 : Int) (v1 : AVal) (m0 : Mm) : Option (AVal × Heap × Nat × Nat) :=
  chk (!ltI x0 (.ofNat 0)) <|
  forceI (shlV .i64 1 x0) fun x8 =>
  bindO (M.loop (S := AVal × Int × Mm) (R := (AVal × Mm)) (fun s => g45_b0 M ro v1 x8 s.1 s.2.1 s.2.2) (AVal.nsl, 0, m0)) fun ⟨v5_2, m_6⟩ =>
  finM m0.h.length (tupA [v5_2]) m_6

theorem g45_ok {ro : List ABlk} {O : Caller} {M : Means} (hM : M.Ok ⟨F, O⟩ ro) {x0 v1 h r} (ho : O 45 [(.i .i64 x0), v1] h = none) (hr : g45 M ro x0 v1 ⟨h, h.length, h.length⟩ = some r) : callX ⟨F, O⟩ ro 45 [(.i .i64 x0), v1] h = some r := by
  refine callX_of (F := ⟨F, O⟩) (fn := fn45) (g := g45 M ro x0 v1) ho rfl rfl hr ?_
  clear ho
  clear hr
  intro m0 t0 ht hr
  have g0 : t0.get 0 = (.i .i64 x0) := ht 0
  have g1 : t0.get 1 = v1 := ht 1
  clear ht
  unfold g45 at hr
  refine w_seq ?_
  refine w_ops ?_
  refine wo_step (v := AVal.nsl) (s_pure (p_mv rfl)) ?_
  refine wo_nil ?_
  refine nx_norm ?_
  refine w_seq ?_
  refine w_ops ?_
  refine wo_step (v := AVal.nsl) (s_pure (p_mv rfl)) ?_
  refine wo_nil ?_
  refine nx_norm ?_
  refine w_seq ?_
  refine w_seq ?_
  refine w_ops ?_
  refine wo_step (v := (.i .i64 x0)) (s_pure (p_mv g0)) ?_
  have hq := chk_inv hr
  clear hr
  obtain ⟨hc8, hr⟩ := hq
  have hq := forceI_inv hr
  clear hr
  obtain ⟨x8, e8, hr⟩ := hq
  refine wo_step (v := (.i .i64 x8)) (s_pure (p_bin rfl rfl ((b_shl hc8).trans (ci e8)))) ?_
  refine wo_step (v := (.i .i64 0)) (s_pure (p_mv rfl)) ?_
  refine wo_nil ?_
  refine nx_norm ?_
  refine w_block ?_
  have hq := bindO_inv hr
  clear hr
  obtain ⟨o_1, hl, hr⟩ := hq
  obtain ⟨n, hl⟩ := hM.loop _ _ _ hl
  refine jp_mono (w_loop _ (g45_I0 v1 x8) (g45_J0 v1 x8) ?_ n _ _ _ _ hl ⟨rfl, gl rfl, gl rfl, gl g1, gl rfl⟩) ?_
  · clear hr hl
    intro s mm_2 t_1 o hi hr
    obtain ⟨v5, x9, m_1⟩ := s
    obtain ⟨rfl, g5, g9, g1, g8⟩ := hi
    unfold g45_b0 at hr
    refine w_seq ?_
    refine w_ops ?_
    have hq := forceB_inv hr
    clear hr
    obtain ⟨c10, e10, hr⟩ := hq
    refine wo_step (v := (.b c10)) (s_pure (p_bin g9 g8 (b_lss.trans (cb e10)))) ?_
    refine wo_nil ?_
    refine nx_norm ?_
    refine w_seq ?_
    have hq := cond_inv hr
    clear hr
    rcases hq with ⟨rfl, hr⟩ | ⟨rfl, hr⟩
    · refine w_condT rfl ?_
      refine w_skip ?_
      refine nx_norm ?_
      refine w_seq ?_
      refine w_block ?_
      refine w_seq ?_
      refine w_ops ?_
      refine wo_step (v := (.i .i64 x9)) (s_pure (p_mv g9)) ?_
      refine wo_step (v := (.i .i64 x9)) (s_pure (p_mv rfl)) ?_
      refine wo_nil ?_
      refine nx_norm ?_
      refine w_seq ?_
      refine w_ops ?_
      refine wo_step (v := (.i .i64 x9)) (s_pure (p_mv rfl)) ?_
      refine wo_step (v := v1) (s_pure (p_mv g1)) ?_
      have hq := bindP_inv hr
      clear hr
      obtain ⟨v14, m_2, e14, hr⟩ := hq
      have hq := asB_inv hr
      clear hr
      obtain ⟨c14, rfl, hr⟩ := hq
      refine wo_step (v := (.b c14)) (s_call (mc rfl (mc rfl mn)) (callM_le hM.call e14)) ?_
      refine wo_nil ?_
      refine nx_norm ?_
      have hq := bindO_inv hr
      clear hr
      obtain ⟨o, hr, hk⟩ := hq
      refine jp_mono (J := g45_J1 v1 x8 x9 o) ?_ ?_
      · clear hk
        have hq := cond_inv hr
        clear hr
        rcases hq with ⟨rfl, hr⟩ | ⟨rfl, hr⟩
        · refine w_condT rfl ?_
          refine w_ops ?_
          refine wo_step (v := v5) (s_pure (p_mv g5)) ?_
          refine wo_step (v := (.i .i64 x9)) (s_pure (p_mv rfl)) ?_
          have hq := bindP_inv hr
          clear hr
          obtain ⟨v17, m_3, e17, hr⟩ := hq
          refine wo_step (v := v17) (s_bsl (qc rfl qn) e17) ?_
          have hq := bindP_inv hr
          clear hr
          obtain ⟨v18, m_4, e18, hr⟩ := hq
          refine wo_step (v := v18) (s_app rfl rfl e18) ?_
          refine wo_step (v := v18) (s_pure (p_mv rfl)) ?_
          refine wo_nil ?_
          cases hr
          exact ⟨_, _, rfl, rfl, rfl, gl rfl, gl g1, gl g8, gl g9⟩
        · refine w_condF rfl ?_
          refine w_skip ?_
          cases hr
          exact ⟨_, _, rfl, rfl, rfl, gl g5, gl g1, gl g8, gl g9⟩
      · clear hr
        have hr := hk
        clear hk
        obtain ⟨v5_1, m_5⟩ := o
        rintro _ mm t_2 ⟨rfl, rfl, g5, g1, g8, g9⟩
        refine bk_norm ?_
        refine nx_norm ?_
        refine w_ops ?_
        have hq := forceI_inv hr
        clear hr
        obtain ⟨x19, e19, hr⟩ := hq
        refine wo_step (v := (.i .i64 x19)) (s_pure (p_bin g9 rfl (b_add.trans (ci e19)))) ?_
        refine wo_step (v := (.i .i64 x19)) (s_pure (p_mv rfl)) ?_
        refine wo_nil ?_
        cases hr
        exact ⟨_, _, rfl, rfl, rfl, gl g5, gl rfl, gl g1, gl g8⟩
    · refine w_condF rfl ?_
      refine w_exit ?_
      refine nx_exit ?_
      cases hr
      exact ⟨_, _, rfl, ne_norm_exit, rfl, rfl, gl g5⟩
  · obtain ⟨v5_2, m_6⟩ := o_1
    rintro _ mm_1 t_3 ⟨rfl, rfl, g5⟩
    refine bk_hit ?_
    refine nx_norm ?_
    refine w_seq ?_
    refine w_ops ?_
    refine wo_step (v := v5_2) (s_pure (p_mv g5)) ?_
    refine wo_step (v := v5_2) (s_pure (p_mv rfl)) ?_
    refine wo_nil ?_
    refine nx_norm ?_
    refine w_ret ?_
    exact qf ret_ok (rt rfl rn) hr

/- dibber/share.above -/

def g46 (M : Means) (ro : List ABlk) (x0 : Int) (m0 : Mm) : Option (AVal × Heap × Nat × Nat) :=
  bindP (stepM ro m0 (.bx 3 1 (.c (.i .i64 x0)))) fun v1 m_1 =>
  bindO (some (AVal.fn 89 [] [v1])) fun v3 =>
  finM m0.h.length (tupA [v3]) m_1

theorem g46_ok {ro : List ABlk} {O : Caller} {M : Means} (hM : M.Ok ⟨F, O⟩ ro) {x0 h r} (ho : O 46 [(.i .i64 x0)] h = none) (hr : g46 M ro x0 ⟨h, h.length, h.length⟩ = some r) : callX ⟨F, O⟩ ro 46 [(.i .i64 x0)] h = some r := by
  refine callX_of (F := ⟨F, O⟩) (fn := fn46) (g := g46 M ro x0) ho rfl rfl hr ?_
  clear ho
  clear hr
  intro m0 t0 ht hr
  have g0 : t0.get 0 = (.i .i64 x0) := ht 0
  clear ht
  unfold g46 at hr
  refine w_seq ?_
  refine w_ops ?_
  have hq := bindP_inv hr
  clear hr
  obtain ⟨v1, m_1, e1, hr⟩ := hq
  refine wo_step (v := v1) (s_bx g0 e1) ?_
  refine wo_step (v := AVal.nfn) (s_pure (p_mv rfl)) ?_
  refine wo_nil ?_
  refine nx_norm ?_
  refine w_seq ?_
  refine w_ops ?_
  have hq := bindO_inv hr
  clear hr
  obtain ⟨v3, e3, hr⟩ := hq
  refine wo_step (v := v3) (s_pure ((o_mkfn mn (mc rfl mn)).trans e3)) ?_
  refine wo_step (v := v3) (s_pure (p_mv rfl)) ?_
  refine wo_nil ?_
  refine nx_norm ?_
  refine w_ret ?_
  exact qf ret_ok (rt rfl rn) hr

/- dibber/share.breaks -/

def g47 (M : Means) (ro : List ABlk) (v0 : AVal) (x1 : Int) (m0 : Mm) : Option (AVal × Heap × Nat × Nat) :=
  bindP (stepM ro m0 (.bx 22 1 (.c v0))) fun v2 m_1 =>
  bindP (stepM ro m_1 (.bx 3 1 (.c (.i .i64 x1)))) fun v3 m_2 =>
  bindO (some (AVal.fn 90 [] [v2, v3])) fun v5 =>
  finM m0.h.length (tupA [v5]) m_2

theorem g47_ok {ro : List ABlk} {O : Caller} {M : Means} (hM : M.Ok ⟨F, O⟩ ro) {v0 x1 h r} (ho : O 47 [v0, (.i .i64 x1)] h = none) (hr : g47 M ro v0 x1 ⟨h, h.length, h.length⟩ = some r) : callX ⟨F, O⟩ ro 47 [v0, (.i .i64 x1)] h = some r := by
  refine callX_of (F := ⟨F, O⟩) (fn := fn47) (g := g47 M ro v0 x1) ho rfl rfl hr ?_
  clear ho
  clear hr
  intro m0 t0 ht hr
  have g0 : t0.get 0 = v0 := ht 0
  have g1 : t0.get 1 = (.i .i64 x1) := ht 1
  clear ht
  unfold g47 at hr
  refine w_seq ?_
  refine w_ops ?_
  have hq := bindP_inv hr
  clear hr
  obtain ⟨v2, m_1, e2, hr⟩ := hq
  refine wo_step (v := v2) (s_bx g0 e2) ?_
  have hq := bindP_inv hr
  clear hr
  obtain ⟨v3, m_2, e3, hr⟩ := hq
  refine wo_step (v := v3) (s_bx g1 e3) ?_
  refine wo_step (v := AVal.nfn) (s_pure (p_mv rfl)) ?_
  refine wo_nil ?_
  refine nx_norm ?_
  refine w_seq ?_
  refine w_ops ?_
  have hq := bindO_inv hr
  clear hr
  obtain ⟨v5, e5, hr⟩ := hq
  refine wo_step (v := v5) (s_pure ((o_mkfn mn (mc rfl (mc rfl mn))).trans e5)) ?_
  refine wo_step (v := v5) (s_pure (p_mv rfl)) ?_
  refine wo_nil ?_
  refine nx_norm ?_
  refine w_ret ?_
  exact qf ret_ok (rt rfl rn) hr

/- dibber/dibberref08.Cost -/
abbrev g48_J0 (x0 : Int) (v1 : AVal) (m0 : Mm) (o : Bool) (m1 : Mm) (t1 : Tr) : Prop :=
  match o with
  | c11 => m0 = m1 ∧ t1.get 11 = (.b c11) ∧ t1.get 0 = (.i .i64 x0) ∧ t1.get 1 = v1
abbrev g48_J1 (v1 : AVal) (m0 : Mm) (o : Bool) (m1 : Mm) (t1 : Tr) : Prop :=
  match o with
  | c18 => m0 = m1 ∧ t1.get 18 = (.b c18) ∧ t1.get 1 = v1
abbrev g48_J2 (v1 : AVal) (m0 : Mm) (o : Bool) (m1 : Mm) (t1 : Tr) : Prop :=
  match o with
  | c24 => m0 = m1 ∧ t1.get 24 = (.b c24) ∧ t1.get 1 = v1
abbrev g48_I3 (v1 : AVal) (m0 : Mm) (s : Int) (m1 : Mm) (t1 : Tr) : Prop :=
  match s with
  | x5 => m0 = m1 ∧ t1.get 5 = (.i .i64 x5) ∧ t1.get 1 = v1
abbrev g48_J3 (v1 : AVal) (m0 : Mm) (o : (Unit ⊕ Bool)) (e : AExit) (m1 : Mm) (t1 : Tr) : Prop :=
  match o with
  | (.inl _) => e = (.exit 0) ∧ m0 = m1
  | (.inr y4) => e = .ret ∧ m0 = m1 ∧ t1.get 4 = (.b y4)
abbrev g48_J4 (v1 : AVal) (x5 : Int) (m0 : Mm) (o : Bool) (m1 : Mm) (t1 : Tr) : Prop :=
  match o with
  | c42 => m0 = m1 ∧ t1.get 42 = (.b c42) ∧ t1.get 1 = v1 ∧ t1.get 5 = (.i .i64 x5)
def g48_b3 (M : Means) (ro : List ABlk) (v1 : AVal) (m0 : Mm) (x5 : Int) : Option ((Int) ⊕ ((Unit ⊕ Bool))) :=
  bindO (evP .e (.len false (.c v1))) fun v27 =>
  asI .i64 v27 fun x27 =>
  forceB (ltI x5 x27) fun c28 =>
  cond c28 (
    bindO (evP .e (.ixS 1 (.c v1) (.c (.i .i64 x5)))) fun v33 =>
    bindO (ldM ro m0 true 1 v33) fun v34 =>
    asI .i64 v34 fun x34 =>
    forceB (ltI x34 (-1000000)) fun c35 =>
    bindO (cond c35 (
      some true) (
      bindO (evP .e (.ixS 1 (.c v1) (.c (.i .i64 x5)))) fun v39 =>
      bindO (ldM ro m0 true 1 v39) fun v40 =>
      asI .i64 v40 fun x40 =>
      forceB (ltI 1000000 x40) fun c41 =>
      some c41)) fun c42 =>
    cond c42 (
      some (.inr (.inr false))) (
      forceI (wr .i64 (x5 + 1)) fun x30 =>
      some (.inl x30))) (
    some (.inr (.inl ())))
def g48 (M : Means) (ro : List ABlk) (x0 : Int) (v1 : AVal) (m0 : Mm) : Option (AVal × Heap × Nat × Nat) :=
  forceB (ltI x0 1) fun c7 =>
  bindO (cond c7 (
    some true) (
    forceB (ltI 6 x0) fun c10 =>
    some c10)) fun c11 =>
  bindO (cond c11 (
    some true) (
    bindO (evP .e (.len false (.c v1))) fun v14 =>
    asI .i64 v14 fun x14 =>
    chk (!ltI x0 (.ofNat 0)) <|
    forceI (shlV .i64 1 x0) fun x16 =>
    forceB (!eqI x14 x16) fun c17 =>
    some c17)) fun c18 =>
  bindO (cond c18 (
    some true) (
    bindO (evP .e (.ixS 1 (.c v1) (.c (.i .i64 0)))) fun v21 =>
    bindO (ldM ro m0 true 1 v21) fun v22 =>
    asI .i64 v22 fun x22 =>
    forceB (!eqI x22 0) fun c23 =>
    some c23)) fun c24 =>
  cond c24 (
    finM m0.h.length (tupA [(.b false)]) m0) (
    bindO (M.loop (S := Int) (R := (Unit ⊕ Bool)) (fun s => g48_b3 M ro v1 m0 s) 0) fun o_4 => match o_4 with
    | (.inl _) =>
      finM m0.h.length (tupA [(.b true)]) m0
    | (.inr c4) =>
      finM m0.h.length (tupA [(.b c4)]) m0)

theorem g48_ok {ro : List ABlk} {O : Caller} {M : Means} (hM : M.Ok ⟨F, O⟩ ro) {x0 v1 h r} (ho : O 48 [(.i .i64 x0), v1] h = none) (hr : g48 M ro x0 v1 ⟨h, h.length, h.length⟩ = some r) : callX ⟨F, O⟩ ro 48 [(.i .i64 x0), v1] h = some r := by
  refine callX_of (F := ⟨F, O⟩) (fn := fn48) (g := g48 M ro x0 v1) ho rfl rfl hr ?_
  clear ho
  clear hr
  intro m0 t0 ht hr
  have g0 : t0.get 0 = (.i .i64 x0) := ht 0
  have g1 : t0.get 1 = v1 := ht 1
  clear ht
  unfold g48 at hr
  refine w_seq ?_
  refine w_ops ?_
  refine wo_step (v := (.b false)) (s_pure (p_mv rfl)) ?_
  refine wo_nil ?_
  refine nx_norm ?_
  refine w_seq ?_
  refine w_seq ?_
  refine w_ops ?_
  refine wo_step (v := (.i .i64 x0)) (s_pure (p_mv g0)) ?_
  have hq := forceB_inv hr
  clear hr
  obtain ⟨c7, e7, hr⟩ := hq
  refine wo_step (v := (.b c7)) (s_pure (p_bin rfl rfl (b_lss.trans (cb e7)))) ?_
  refine wo_step (v := (.b c7)) (s_pure (p_mv rfl)) ?_
  have hq := bindO_inv hr
  clear hr
  obtain ⟨o, hr, hk⟩ := hq
  refine wo_join 3 (g48_J0 x0 v1 m0 o) ?_ ?_
  · clear hk
    have hq := cond_inv hr
    clear hr
    rcases hq with ⟨rfl, hr⟩ | ⟨rfl, hr⟩
    · refine wo_skip (v := (.b true)) rfl rfl ?_
      refine wo_skip (v := (.b true)) rfl rfl ?_
      refine wo_step (v := (.b true)) (s_pure (p_pickT rfl rfl)) ?_
      refine wo_nil ?_
      cases hr
      exact ⟨_, _, rfl, rfl, gl rfl, gl g0, gl g1⟩
    · refine wo_take (v := (.i .i64 x0)) rfl (s_pure (p_mv g0)) ?_
      have hq := forceB_inv hr
      clear hr
      obtain ⟨c10, e10, hr⟩ := hq
      refine wo_take (v := (.b c10)) rfl (s_pure (p_bin rfl rfl (b_gtr.trans (cb e10)))) ?_
      refine wo_step (v := (.b c10)) (s_pure (p_pickF rfl rfl)) ?_
      refine wo_nil ?_
      cases hr
      exact ⟨_, _, rfl, rfl, gl rfl, gl g0, gl g1⟩
  · clear hr
    have hr := hk
    clear hk
    obtain ⟨c11, ho⟩ : ∃ z, z = o := ⟨_, rfl⟩
    subst ho
    rintro mm t_1 ⟨rfl, g11, g0, g1⟩
    refine wo_step (v := (.b c11)) (s_pure (p_mv g11)) ?_
    have hq := bindO_inv hr
    clear hr
    obtain ⟨o_1, hr, hk⟩ := hq
    refine wo_join 6 (g48_J1 v1 m0 o_1) ?_ ?_
    · clear hk
      have hq := cond_inv hr
      clear hr
      rcases hq with ⟨rfl, hr⟩ | ⟨rfl, hr⟩
      · refine wo_skip (v := (.b true)) rfl rfl ?_
        refine wo_skip (v := (.b true)) rfl rfl ?_
        refine wo_skip (v := (.b true)) rfl rfl ?_
        refine wo_skip (v := (.b true)) rfl rfl ?_
        refine wo_skip (v := (.b true)) rfl rfl ?_
        refine wo_step (v := (.b true)) (s_pure (p_pickT rfl rfl)) ?_
        refine wo_nil ?_
        cases hr
        exact ⟨_, _, rfl, rfl, gl rfl, gl g1⟩
      · refine wo_take (v := v1) rfl (s_pure (p_mv g1)) ?_
        have hq := bindO_inv hr
        clear hr
        obtain ⟨v14, e14, hr⟩ := hq
        have hq := asI_inv hr
        clear hr
        obtain ⟨x14, rfl, hr⟩ := hq
        refine wo_take (v := (.i .i64 x14)) rfl (s_pure (o_len rfl e14)) ?_
        refine wo_take (v := (.i .i64 x0)) rfl (s_pure (p_mv g0)) ?_
        have hq := chk_inv hr
        clear hr
        obtain ⟨hc16, hr⟩ := hq
        have hq := forceI_inv hr
        clear hr
        obtain ⟨x16, e16, hr⟩ := hq
        refine wo_take (v := (.i .i64 x16)) rfl (s_pure (p_bin rfl rfl ((b_shl hc16).trans (ci e16)))) ?_
        have hq := forceB_inv hr
        clear hr
        obtain ⟨c17, e17, hr⟩ := hq
        refine wo_take (v := (.b c17)) rfl (s_pure (p_bin rfl rfl (b_neq.trans (cb e17)))) ?_
        refine wo_step (v := (.b c17)) (s_pure (p_pickF rfl rfl)) ?_
        refine wo_nil ?_
        cases hr
        exact ⟨_, _, rfl, rfl, gl rfl, gl g1⟩
    · clear hr
      have hr := hk
      clear hk
      obtain ⟨c18, ho⟩ : ∃ z, z = o_1 := ⟨_, rfl⟩
      subst ho
      rintro mm_1 t_2 ⟨rfl, g18, g1⟩
      refine wo_step (v := (.b c18)) (s_pure (p_mv g18)) ?_
      have hq := bindO_inv hr
      clear hr
      obtain ⟨o_2, hr, hk⟩ := hq
      refine wo_join 5 (g48_J2 v1 m0 o_2) ?_ ?_
      · clear hk
        have hq := cond_inv hr
        clear hr
        rcases hq with ⟨rfl, hr⟩ | ⟨rfl, hr⟩
        · refine wo_skip (v := (.b true)) rfl rfl ?_
          refine wo_skip (v := (.b true)) rfl rfl ?_
          refine wo_skip (v := (.b true)) rfl rfl ?_
          refine wo_skip (v := (.b true)) rfl rfl ?_
          refine wo_step (v := (.b true)) (s_pure (p_pickT rfl rfl)) ?_
          refine wo_nil ?_
          cases hr
          exact ⟨_, _, rfl, rfl, gl rfl, gl g1⟩
        · refine wo_take (v := v1) rfl (s_pure (p_mv g1)) ?_
          have hq := bindO_inv hr
          clear hr
          obtain ⟨v21, e21, hr⟩ := hq
          refine wo_take (v := v21) rfl (s_pure (o_ixS rfl rfl e21)) ?_
          have hq := bindO_inv hr
          clear hr
          obtain ⟨v22, e22, hr⟩ := hq
          have hq := asI_inv hr
          clear hr
          obtain ⟨x22, rfl, hr⟩ := hq
          refine wo_take (v := (.i .i64 x22)) rfl (s_ld rfl e22) ?_
          have hq := forceB_inv hr
          clear hr
          obtain ⟨c23, e23, hr⟩ := hq
          refine wo_take (v := (.b c23)) rfl (s_pure (p_bin rfl rfl (b_neq.trans (cb e23)))) ?_
          refine wo_step (v := (.b c23)) (s_pure (p_pickF rfl rfl)) ?_
          refine wo_nil ?_
          cases hr
          exact ⟨_, _, rfl, rfl, gl rfl, gl g1⟩
      · clear hr
        have hr := hk
        clear hk
        obtain ⟨c24, ho⟩ : ∃ z, z = o_2 := ⟨_, rfl⟩
        subst ho
        rintro mm_2 t_3 ⟨rfl, g24, g1⟩
        refine wo_nil ?_
        refine nx_norm ?_
        have hq := cond_inv hr
        clear hr
        rcases hq with ⟨rfl, hr⟩ | ⟨rfl, hr⟩
        · refine w_condT g24 ?_
          refine w_seq ?_
          refine w_ops ?_
          refine wo_step (v := (.b false)) (s_pure (p_mv rfl)) ?_
          refine wo_nil ?_
          refine nx_norm ?_
          refine w_ret ?_
          refine nx_ret ?_
          exact qf ret_ok (rt rfl rn) hr
        · refine w_condF g24 ?_
          refine w_skip ?_
          refine nx_norm ?_
          refine w_seq ?_
          refine w_seq ?_
          refine w_ops ?_
          refine wo_step (v := (.i .i64 0)) (s_pure (p_mv rfl)) ?_
          refine wo_nil ?_
          refine nx_norm ?_
          refine w_block ?_
          have hq := bindO_inv hr
          clear hr
          obtain ⟨o_4, hl, hr⟩ := hq
          obtain ⟨n, hl⟩ := hM.loop _ _ _ hl
          refine jp_mono (w_loop _ (g48_I3 v1 m0) (g48_J3 v1 m0) ?_ n _ _ _ _ hl ⟨rfl, gl rfl, gl g1⟩) ?_
          · clear hr hl
            intro s mm_6 t_4 o hi hr
            obtain ⟨x5, hs⟩ : ∃ z, z = s := ⟨_, rfl⟩
            subst hs
            obtain ⟨rfl, g5, g1⟩ := hi
            unfold g48_b3 at hr
            refine w_seq ?_
            refine w_seq ?_
            refine w_ops ?_
            refine wo_step (v := (.i .i64 x5)) (s_pure (p_mv g5)) ?_
            refine wo_step (v := v1) (s_pure (p_mv g1)) ?_
            have hq := bindO_inv hr
            clear hr
            obtain ⟨v27, e27, hr⟩ := hq
            have hq := asI_inv hr
            clear hr
            obtain ⟨x27, rfl, hr⟩ := hq
            refine wo_step (v := (.i .i64 x27)) (s_pure (o_len rfl e27)) ?_
            have hq := forceB_inv hr
            clear hr
            obtain ⟨c28, e28, hr⟩ := hq
            refine wo_step (v := (.b c28)) (s_pure (p_bin rfl rfl (b_lss.trans (cb e28)))) ?_
            refine wo_nil ?_
            refine nx_norm ?_
            have hq := cond_inv hr
            clear hr
            rcases hq with ⟨rfl, hr⟩ | ⟨rfl, hr⟩
            · refine w_condT rfl ?_
              refine w_skip ?_
              refine nx_norm ?_
              refine w_seq ?_
              refine w_block ?_
              refine w_seq ?_
              refine w_ops ?_
              refine wo_step (v := v1) (s_pure (p_mv g1)) ?_
              refine wo_step (v := (.i .i64 x5)) (s_pure (p_mv g5)) ?_
              have hq := bindO_inv hr
              clear hr
              obtain ⟨v33, e33, hr⟩ := hq
              refine wo_step (v := v33) (s_pure (o_ixS rfl rfl e33)) ?_
              have hq := bindO_inv hr
              clear hr
              obtain ⟨v34, e34, hr⟩ := hq
              have hq := asI_inv hr
              clear hr
              obtain ⟨x34, rfl, hr⟩ := hq
              refine wo_step (v := (.i .i64 x34)) (s_ld rfl e34) ?_
              have hq := forceB_inv hr
              clear hr
              obtain ⟨c35, e35, hr⟩ := hq
              refine wo_step (v := (.b c35)) (s_pure (p_bin rfl rfl (b_lss.trans (cb e35)))) ?_
              refine wo_step (v := (.b c35)) (s_pure (p_mv rfl)) ?_
              have hq := bindO_inv hr
              clear hr
              obtain ⟨o_3, hr, hk⟩ := hq
              refine wo_join 6 (g48_J4 v1 x5 m0 o_3) ?_ ?_
              · clear hk
                have hq := cond_inv hr
                clear hr
                rcases hq with ⟨rfl, hr⟩ | ⟨rfl, hr⟩
                · refine wo_skip (v := (.b true)) rfl rfl ?_
                  refine wo_skip (v := (.b true)) rfl rfl ?_
                  refine wo_skip (v := (.b true)) rfl rfl ?_
                  refine wo_skip (v := (.b true)) rfl rfl ?_
                  refine wo_skip (v := (.b true)) rfl rfl ?_
                  refine wo_step (v := (.b true)) (s_pure (p_pickT rfl rfl)) ?_
                  refine wo_nil ?_
                  cases hr
                  exact ⟨_, _, rfl, rfl, gl rfl, gl g1, gl g5⟩
                · refine wo_take (v := v1) rfl (s_pure (p_mv g1)) ?_
                  refine wo_take (v := (.i .i64 x5)) rfl (s_pure (p_mv g5)) ?_
                  have hq := bindO_inv hr
                  clear hr
                  obtain ⟨v39, e39, hr⟩ := hq
                  refine wo_take (v := v39) rfl (s_pure (o_ixS rfl rfl e39)) ?_
                  have hq := bindO_inv hr
                  clear hr
                  obtain ⟨v40, e40, hr⟩ := hq
                  have hq := asI_inv hr
                  clear hr
                  obtain ⟨x40, rfl, hr⟩ := hq
                  refine wo_take (v := (.i .i64 x40)) rfl (s_ld rfl e40) ?_
                  have hq := forceB_inv hr
                  clear hr
                  obtain ⟨c41, e41, hr⟩ := hq
                  refine wo_take (v := (.b c41)) rfl (s_pure (p_bin rfl rfl (b_gtr.trans (cb e41)))) ?_
                  refine wo_step (v := (.b c41)) (s_pure (p_pickF rfl rfl)) ?_
                  refine wo_nil ?_
                  cases hr
                  exact ⟨_, _, rfl, rfl, gl rfl, gl g1, gl g5⟩
              · clear hr
                have hr := hk
                clear hk
                obtain ⟨c42, ho⟩ : ∃ z, z = o_3 := ⟨_, rfl⟩
                subst ho
                rintro mm_3 t_5 ⟨rfl, g42, g1, g5⟩
                refine wo_nil ?_
                refine nx_norm ?_
                have hq := cond_inv hr
                clear hr
                rcases hq with ⟨rfl, hr⟩ | ⟨rfl, hr⟩
                · refine w_condT g42 ?_
                  refine w_seq ?_
                  refine w_ops ?_
                  refine wo_step (v := (.b false)) (s_pure (p_mv rfl)) ?_
                  refine wo_nil ?_
                  refine nx_norm ?_
                  refine w_ret ?_
                  refine bk_ret ?_
                  refine nx_ret ?_
                  cases hr
                  exact ⟨_, _, rfl, ne_norm_ret, rfl, rfl, gl rfl⟩
                · refine w_condF g42 ?_
                  refine w_skip ?_
                  refine bk_norm ?_
                  refine nx_norm ?_
                  refine w_ops ?_
                  refine wo_step (v := (.i .i64 x5)) (s_pure (p_mv g5)) ?_
                  have hq := forceI_inv hr
                  clear hr
                  obtain ⟨x30, e30, hr⟩ := hq
                  refine wo_step (v := (.i .i64 x30)) (s_pure (p_bin rfl rfl (b_add.trans (ci e30)))) ?_
                  refine wo_step (v := (.i .i64 x30)) (s_pure (p_mv rfl)) ?_
                  refine wo_nil ?_
                  cases hr
                  exact ⟨_, _, rfl, rfl, rfl, gl rfl, gl g1⟩
            · refine w_condF rfl ?_
              refine w_exit ?_
              refine nx_exit ?_
              cases hr
              exact ⟨_, _, rfl, ne_norm_exit, rfl, rfl⟩
          · rcases o_4 with o_4 | o_4
            · rintro _ mm_4 t_6 ⟨rfl, rfl⟩
              refine bk_hit ?_
              refine nx_norm ?_
              refine w_seq ?_
              refine w_ops ?_
              refine wo_step (v := (.b true)) (s_pure (p_mv rfl)) ?_
              refine wo_nil ?_
              refine nx_norm ?_
              refine w_ret ?_
              exact qf ret_ok (rt rfl rn) hr
            · obtain ⟨c4, ho⟩ : ∃ z, z = o_4 := ⟨_, rfl⟩
              subst ho
              rintro _ mm_5 t_7 ⟨rfl, rfl, g4⟩
              refine bk_ret ?_
              refine nx_ret ?_
              exact qf ret_ok (rt g4 rn) hr

/- dibber/dibberref08.broken -/
abbrev g49_I0 (v0 : AVal) (m0 : Mm) (s : Int) (m1 : Mm) (t1 : Tr) : Prop :=
  match s with
  | x5 => m0 = m1 ∧ t1.get 5 = (.i .i64 x5) ∧ t1.get 0 = v0
abbrev g49_J0 (v0 : AVal) (m0 : Mm) (o : (Unit ⊕ (Int × Int × Bool))) (e : AExit) (m1 : Mm) (t1 : Tr) : Prop :=
  match o with
  | (.inl _) => e = (.exit 0) ∧ m0 = m1
  | (.inr (y2, y3, y4)) => e = .ret ∧ m0 = m1 ∧ t1.get 2 = (.i .i64 y2) ∧ t1.get 3 = (.i .i64 y3) ∧ t1.get 4 = (.b y4)
abbrev g49_I1 (v0 : AVal) (x5 : Int) (m0 : Mm) (s : Int) (m1 : Mm) (t1 : Tr) : Prop :=
  match s with
  | x6 => m0 = m1 ∧ t1.get 6 = (.i .i64 x6) ∧ t1.get 0 = v0 ∧ t1.get 5 = (.i .i64 x5)
abbrev g49_J1 (v0 : AVal) (x5 : Int) (m0 : Mm) (o : (Unit ⊕ (Int × Int × Bool))) (e : AExit) (m1 : Mm) (t1 : Tr) : Prop :=
  match o with
  | (.inl _) => e = (.exit 2) ∧ m0 = m1 ∧ t1.get 0 = v0 ∧ t1.get 5 = (.i .i64 x5)
  | (.inr (y2, y3, y4)) => e = .ret ∧ m0 = m1 ∧ t1.get 2 = (.i .i64 y2) ∧ t1.get 3 = (.i .i64 y3) ∧ t1.get 4 = (.b y4)
def g49_b1 (M : Means) (ro : List ABlk) (v0 : AVal) (x5 : Int) (m0 : Mm) (x6 : Int) : Option ((Int) ⊕ ((Unit ⊕ (Int × Int × Bool)))) :=
  bindO (evP .e (.len false (.c v0))) fun v17 =>
  asI .i64 v17 fun x17 =>
  forceB (ltI x6 x17) fun c18 =>
  cond c18 (
    bindO (evP .e (.ixS 1 (.c v0) (.c (.i .i64 x5)))) fun v23 =>
    bindO (ldA ro m0.h true 1 v23) fun v24 =>
    asI .i64 v24 fun x24 =>
    bindO (evP .e (.ixS 1 (.c v0) (.c (.i .i64 x6)))) fun v27 =>
    bindO (ldA ro m0.h true 1 v27) fun v28 =>
    asI .i64 v28 fun x28 =>
    forceI (wr .i64 (x24 + x28)) fun x29 =>
    forceI (bitV .or .i64 x5 x6) fun x33 =>
    bindO (evP .e (.ixS 1 (.c v0) (.c (.i .i64 x33)))) fun v34 =>
    bindO (ldA ro m0.h true 1 v34) fun v35 =>
    asI .i64 v35 fun x35 =>
    forceI (bitV .and .i64 x5 x6) fun x39 =>
    bindO (evP .e (.ixS 1 (.c v0) (.c (.i .i64 x39)))) fun v40 =>
    bindO (ldA ro m0.h true 1 v40) fun v41 =>
    asI .i64 v41 fun x41 =>
    forceI (wr .i64 (x35 + x41)) fun x42 =>
    forceB (ltI x29 x42) fun c43 =>
    cond c43 (
      some (.inr (.inr (x5, x6, true)))) (
      forceI (wr .i64 (x6 + 1)) fun x20 =>
      some (.inl x20))) (
    some (.inr (.inl ())))
def g49_b0 (M : Means) (ro : List ABlk) (v0 : AVal) (m0 : Mm) (x5 : Int) : Option ((Int) ⊕ ((Unit ⊕ (Int × Int × Bool)))) :=
  bindO (evP .e (.len false (.c v0))) fun v9 =>
  asI .i64 v9 fun x9 =>
  forceB (ltI x5 x9) fun c10 =>
  cond c10 (
    forceI (wr .i64 (x5 + 1)) fun x14 =>
    bindO (M.loop (S := Int) (R := (Unit ⊕ (Int × Int × Bool))) (fun s => g49_b1 M ro v0 x5 m0 s) x14) fun o => match o with
    | (.inl _) =>
      forceI (wr .i64 (x5 + 1)) fun x12 =>
      some (.inl x12)
    | (.inr (x2, x3, c4)) =>
      some (.inr (.inr (x2, x3, c4)))) (
    some (.inr (.inl ())))
def g49 (M : Means) (ro : List ABlk) (v0 : AVal) (m0 : Mm) : Option (AVal × Heap × Nat × Nat) :=
  bindO (M.loop (S := Int) (R := (Unit ⊕ (Int × Int × Bool))) (fun s => g49_b0 M ro v0 m0 s) 0) fun o_1 => match o_1 with
  | (.inl _) =>
    finM m0.h.length (tupA [(.i .i64 0), (.i .i64 0), (.b false)]) m0
  | (.inr (x2_1, x3_1, c4_1)) =>
    finM m0.h.length (tupA [(.i .i64 x2_1), (.i .i64 x3_1), (.b c4_1)]) m0

theorem g49_ok {ro : List ABlk} {O : Caller} {M : Means} (hM : M.Ok ⟨F, O⟩ ro) {v0 h r} (ho : O 49 [v0] h = none) (hr : g49 M ro v0 ⟨h, h.length, h.length⟩ = some r) : callX ⟨F, O⟩ ro 49 [v0] h = some r := by
  refine callX_of (F := ⟨F, O⟩) (fn := fn49) (g := g49 M ro v0) ho rfl rfl hr ?_
  clear ho
  clear hr
  intro m0 t0 ht hr
  have g0 : t0.get 0 = v0 := ht 0
  clear ht
  unfold g49 at hr
  refine w_seq ?_
  refine w_ops ?_
  refine wo_step (v := (.i .i64 0)) (s_pure (p_mv rfl)) ?_
  refine wo_step (v := (.i .i64 0)) (s_pure (p_mv rfl)) ?_
  refine wo_step (v := (.b false)) (s_pure (p_mv rfl)) ?_
  refine wo_nil ?_
  refine nx_norm ?_
  refine w_seq ?_
  refine w_seq ?_
  refine w_ops ?_
  refine wo_step (v := (.i .i64 0)) (s_pure (p_mv rfl)) ?_
  refine wo_nil ?_
  refine nx_norm ?_
  refine w_block ?_
  have hq := bindO_inv hr
  clear hr
  obtain ⟨o_1, hl_1, hr⟩ := hq
  obtain ⟨n_1, hl_1⟩ := hM.loop _ _ _ hl_1
  refine jp_mono (w_loop _ (g49_I0 v0 m0) (g49_J0 v0 m0) ?_ n_1 _ _ _ _ hl_1 ⟨rfl, gl rfl, gl g0⟩) ?_
  · clear hr hl_1
    intro s mm_5 t_1 o hi hr
    obtain ⟨x5, hs⟩ : ∃ z, z = s := ⟨_, rfl⟩
    subst hs
    obtain ⟨rfl, g5, g0⟩ := hi
    unfold g49_b0 at hr
    refine w_seq ?_
    refine w_seq ?_
    refine w_ops ?_
    refine wo_step (v := (.i .i64 x5)) (s_pure (p_mv g5)) ?_
    refine wo_step (v := v0) (s_pure (p_mv g0)) ?_
    have hq := bindO_inv hr
    clear hr
    obtain ⟨v9, e9, hr⟩ := hq
    have hq := asI_inv hr
    clear hr
    obtain ⟨x9, rfl, hr⟩ := hq
    refine wo_step (v := (.i .i64 x9)) (s_pure (o_len rfl e9)) ?_
    have hq := forceB_inv hr
    clear hr
    obtain ⟨c10, e10, hr⟩ := hq
    refine wo_step (v := (.b c10)) (s_pure (p_bin rfl rfl (b_lss.trans (cb e10)))) ?_
    refine wo_nil ?_
    refine nx_norm ?_
    have hq := cond_inv hr
    clear hr
    rcases hq with ⟨rfl, hr⟩ | ⟨rfl, hr⟩
    · refine w_condT rfl ?_
      refine w_skip ?_
      refine nx_norm ?_
      refine w_seq ?_
      refine w_block ?_
      refine w_seq ?_
      refine w_ops ?_
      refine wo_step (v := (.i .i64 x5)) (s_pure (p_mv g5)) ?_
      have hq := forceI_inv hr
      clear hr
      obtain ⟨x14, e14, hr⟩ := hq
      refine wo_step (v := (.i .i64 x14)) (s_pure (p_bin rfl rfl (b_add.trans (ci e14)))) ?_
      refine wo_step (v := (.i .i64 x14)) (s_pure (p_mv rfl)) ?_
      refine wo_nil ?_
      refine nx_norm ?_
      refine w_block ?_
      have hq := bindO_inv hr
      clear hr
      obtain ⟨o, hl, hr⟩ := hq
      obtain ⟨n, hl⟩ := hM.loop _ _ _ hl
      refine jp_mono (w_loop _ (g49_I1 v0 x5 m0) (g49_J1 v0 x5 m0) ?_ n _ _ _ _ hl ⟨rfl, gl rfl, gl g0, gl g5⟩) ?_
      · clear hr hl
        intro s mm_2 t_2 o hi hr
        obtain ⟨x6, hs⟩ : ∃ z, z = s := ⟨_, rfl⟩
        subst hs
        obtain ⟨rfl, g6, g0, g5⟩ := hi
        unfold g49_b1 at hr
        refine w_seq ?_
        refine w_seq ?_
        refine w_ops ?_
        refine wo_step (v := (.i .i64 x6)) (s_pure (p_mv g6)) ?_
        refine wo_step (v := v0) (s_pure (p_mv g0)) ?_
        have hq := bindO_inv hr
        clear hr
        obtain ⟨v17, e17, hr⟩ := hq
        have hq := asI_inv hr
        clear hr
        obtain ⟨x17, rfl, hr⟩ := hq
        refine wo_step (v := (.i .i64 x17)) (s_pure (o_len rfl e17)) ?_
        have hq := forceB_inv hr
        clear hr
        obtain ⟨c18, e18, hr⟩ := hq
        refine wo_step (v := (.b c18)) (s_pure (p_bin rfl rfl (b_lss.trans (cb e18)))) ?_
        refine wo_nil ?_
        refine nx_norm ?_
        have hq := cond_inv hr
        clear hr
        rcases hq with ⟨rfl, hr⟩ | ⟨rfl, hr⟩
        · refine w_condT rfl ?_
          refine w_skip ?_
          refine nx_norm ?_
          refine w_seq ?_
          refine w_block ?_
          refine w_seq ?_
          refine w_any ?_
          refine wa_step (v := v0) (a_pure (p_mv g0)) ?_
          refine wa_step (v := (.i .i64 x5)) (a_pure (p_mv g5)) ?_
          have hq := bindO_inv hr
          clear hr
          obtain ⟨v23, e23, hr⟩ := hq
          refine wa_step (v := v23) (a_pure (o_ixS rfl rfl e23)) ?_
          have hq := bindO_inv hr
          clear hr
          obtain ⟨v24, e24, hr⟩ := hq
          have hq := asI_inv hr
          clear hr
          obtain ⟨x24, rfl, hr⟩ := hq
          refine wa_step (v := (.i .i64 x24)) (a_ld rfl e24) ?_
          refine wa_step (v := v0) (a_pure (p_mv g0)) ?_
          refine wa_step (v := (.i .i64 x6)) (a_pure (p_mv g6)) ?_
          have hq := bindO_inv hr
          clear hr
          obtain ⟨v27, e27, hr⟩ := hq
          refine wa_step (v := v27) (a_pure (o_ixS rfl rfl e27)) ?_
          have hq := bindO_inv hr
          clear hr
          obtain ⟨v28, e28, hr⟩ := hq
          have hq := asI_inv hr
          clear hr
          obtain ⟨x28, rfl, hr⟩ := hq
          refine wa_step (v := (.i .i64 x28)) (a_ld rfl e28) ?_
          have hq := forceI_inv hr
          clear hr
          obtain ⟨x29, e29, hr⟩ := hq
          refine wa_step (v := (.i .i64 x29)) (a_pure (p_bin rfl rfl (b_add.trans (ci e29)))) ?_
          refine wa_step (v := v0) (a_pure (p_mv g0)) ?_
          refine wa_step (v := (.i .i64 x5)) (a_pure (p_mv g5)) ?_
          refine wa_step (v := (.i .i64 x6)) (a_pure (p_mv g6)) ?_
          have hq := forceI_inv hr
          clear hr
          obtain ⟨x33, e33, hr⟩ := hq
          refine wa_step (v := (.i .i64 x33)) (a_pure (p_bin rfl rfl (b_or.trans (ci e33)))) ?_
          have hq := bindO_inv hr
          clear hr
          obtain ⟨v34, e34, hr⟩ := hq
          refine wa_step (v := v34) (a_pure (o_ixS rfl rfl e34)) ?_
          have hq := bindO_inv hr
          clear hr
          obtain ⟨v35, e35, hr⟩ := hq
          have hq := asI_inv hr
          clear hr
          obtain ⟨x35, rfl, hr⟩ := hq
          refine wa_step (v := (.i .i64 x35)) (a_ld rfl e35) ?_
          refine wa_step (v := v0) (a_pure (p_mv g0)) ?_
          refine wa_step (v := (.i .i64 x5)) (a_pure (p_mv g5)) ?_
          refine wa_step (v := (.i .i64 x6)) (a_pure (p_mv g6)) ?_
          have hq := forceI_inv hr
          clear hr
          obtain ⟨x39, e39, hr⟩ := hq
          refine wa_step (v := (.i .i64 x39)) (a_pure (p_bin rfl rfl (b_and.trans (ci e39)))) ?_
          have hq := bindO_inv hr
          clear hr
          obtain ⟨v40, e40, hr⟩ := hq
          refine wa_step (v := v40) (a_pure (o_ixS rfl rfl e40)) ?_
          have hq := bindO_inv hr
          clear hr
          obtain ⟨v41, e41, hr⟩ := hq
          have hq := asI_inv hr
          clear hr
          obtain ⟨x41, rfl, hr⟩ := hq
          refine wa_step (v := (.i .i64 x41)) (a_ld rfl e41) ?_
          have hq := forceI_inv hr
          clear hr
          obtain ⟨x42, e42, hr⟩ := hq
          refine wa_step (v := (.i .i64 x42)) (a_pure (p_bin rfl rfl (b_add.trans (ci e42)))) ?_
          have hq := forceB_inv hr
          clear hr
          obtain ⟨c43, e43, hr⟩ := hq
          refine wa_step (v := (.b c43)) (a_pure (p_bin rfl rfl (b_lss.trans (cb e43)))) ?_
          refine wa_nil ?_
          refine ⟨m0, rfl, ?_⟩
          refine nx_norm ?_
          have hq := cond_inv hr
          clear hr
          rcases hq with ⟨rfl, hr⟩ | ⟨rfl, hr⟩
          · refine w_condT rfl ?_
            refine w_seq ?_
            refine w_ops ?_
            refine wo_step (v := (.i .i64 x5)) (s_pure (p_mv g5)) ?_
            refine wo_step (v := (.i .i64 x6)) (s_pure (p_mv g6)) ?_
            refine wo_step (v := (.i .i64 x5)) (s_pure (p_mv rfl)) ?_
            refine wo_step (v := (.i .i64 x6)) (s_pure (p_mv rfl)) ?_
            refine wo_step (v := (.b true)) (s_pure (p_mv rfl)) ?_
            refine wo_nil ?_
            refine nx_norm ?_
            refine w_ret ?_
            refine bk_ret ?_
            refine nx_ret ?_
            cases hr
            exact ⟨_, _, rfl, ne_norm_ret, rfl, rfl, gl rfl, gl rfl, gl rfl⟩
          · refine w_condF rfl ?_
            refine w_skip ?_
            refine bk_norm ?_
            refine nx_norm ?_
            refine w_ops ?_
            refine wo_step (v := (.i .i64 x6)) (s_pure (p_mv g6)) ?_
            have hq := forceI_inv hr
            clear hr
            obtain ⟨x20, e20, hr⟩ := hq
            refine wo_step (v := (.i .i64 x20)) (s_pure (p_bin rfl rfl (b_add.trans (ci e20)))) ?_
            refine wo_step (v := (.i .i64 x20)) (s_pure (p_mv rfl)) ?_
            refine wo_nil ?_
            cases hr
            exact ⟨_, _, rfl, rfl, rfl, gl rfl, gl g0, gl g5⟩
        · refine w_condF rfl ?_
          refine w_exit ?_
          refine nx_exit ?_
          cases hr
          exact ⟨_, _, rfl, ne_norm_exit, rfl, rfl, gl g0, gl g5⟩
      · rcases o with o | o
        · rintro _ mm t_3 ⟨rfl, rfl, g0, g5⟩
          refine bk_hit ?_
          refine bk_norm ?_
          refine nx_norm ?_
          refine w_ops ?_
          refine wo_step (v := (.i .i64 x5)) (s_pure (p_mv g5)) ?_
          have hq := forceI_inv hr
          clear hr
          obtain ⟨x12, e12, hr⟩ := hq
          refine wo_step (v := (.i .i64 x12)) (s_pure (p_bin rfl rfl (b_add.trans (ci e12)))) ?_
          refine wo_step (v := (.i .i64 x12)) (s_pure (p_mv rfl)) ?_
          refine wo_nil ?_
          cases hr
          exact ⟨_, _, rfl, rfl, rfl, gl rfl, gl g0⟩
        · obtain ⟨x2, x3, c4⟩ := o
          rintro _ mm_1 t_4 ⟨rfl, rfl, g2, g3, g4⟩
          refine bk_ret ?_
          refine bk_ret ?_
          refine nx_ret ?_
          cases hr
          exact ⟨_, _, rfl, ne_norm_ret, rfl, rfl, gl g2, gl g3, gl g4⟩
    · refine w_condF rfl ?_
      refine w_exit ?_
      refine nx_exit ?_
      cases hr
      exact ⟨_, _, rfl, ne_norm_exit, rfl, rfl⟩
  · rcases o_1 with o_1 | o_1
    · rintro _ mm_3 t_5 ⟨rfl, rfl⟩
      refine bk_hit ?_
      refine nx_norm ?_
      refine w_seq ?_
      refine w_ops ?_
      refine wo_step (v := (.i .i64 0)) (s_pure (p_mv rfl)) ?_
      refine wo_step (v := (.i .i64 0)) (s_pure (p_mv rfl)) ?_
      refine wo_step (v := (.b false)) (s_pure (p_mv rfl)) ?_
      refine wo_nil ?_
      refine nx_norm ?_
      refine w_ret ?_
      exact qf ret_ok (rt rfl (rt rfl (rt rfl rn))) hr
    · obtain ⟨x2_1, x3_1, c4_1⟩ := o_1
      rintro _ mm_4 t_6 ⟨rfl, rfl, g2, g3, g4⟩
      refine bk_ret ?_
      refine nx_ret ?_
      exact qf ret_ok (rt g2 (rt g3 (rt g4 rn))) hr

/- dibber/share.within -/
abbrev g50_J0 (m0 : Mm) (o : Bool) (m1 : Mm) (t1 : Tr) : Prop :=
  match o with
  | c13 => m0 = m1 ∧ t1.get 13 = (.b c13)
def g50 (M : Means) (ro : List ABlk) (x0 : Int) (x1 : Int) (m0 : Mm) : Option (AVal × Heap × Nat × Nat) :=
  forceI (wr .i64 (0 - x1)) fun x6 =>
  forceB (!ltI x0 x6) fun c8 =>
  bindO (cond c8 (
    forceB (!ltI x1 x0) fun c12 =>
    some c12) (
    some false)) fun c13 =>
  finM m0.h.length (tupA [(.b c13)]) m0

theorem g50_ok {ro : List ABlk} {O : Caller} {M : Means} (hM : M.Ok ⟨F, O⟩ ro) {x0 x1 h r} (ho : O 50 [(.i .i64 x0), (.i .i64 x1)] h = none) (hr : g50 M ro x0 x1 ⟨h, h.length, h.length⟩ = some r) : callX ⟨F, O⟩ ro 50 [(.i .i64 x0), (.i .i64 x1)] h = some r := by
  refine callX_of (F := ⟨F, O⟩) (fn := fn50) (g := g50 M ro x0 x1) ho rfl rfl hr ?_
  clear ho
  clear hr
  intro m0 t0 ht hr
  have g0 : t0.get 0 = (.i .i64 x0) := ht 0
  have g1 : t0.get 1 = (.i .i64 x1) := ht 1
  clear ht
  unfold g50 at hr
  refine w_seq ?_
  refine w_ops ?_
  refine wo_step (v := (.b false)) (s_pure (p_mv rfl)) ?_
  refine wo_nil ?_
  refine nx_norm ?_
  refine w_seq ?_
  refine w_ops ?_
  refine wo_step (v := (.i .i64 x1)) (s_pure (p_mv g1)) ?_
  have hq := forceI_inv hr
  clear hr
  obtain ⟨x6, e6, hr⟩ := hq
  refine wo_step (v := (.i .i64 x6)) (s_pure ((p_neg rfl).trans (ci e6))) ?_
  refine wo_step (v := (.i .i64 x0)) (s_pure (p_mv g0)) ?_
  have hq := forceB_inv hr
  clear hr
  obtain ⟨c8, e8, hr⟩ := hq
  refine wo_step (v := (.b c8)) (s_pure (p_bin rfl rfl (b_leq.trans (cb e8)))) ?_
  refine wo_step (v := (.b c8)) (s_pure (p_mv rfl)) ?_
  have hq := bindO_inv hr
  clear hr
  obtain ⟨o, hr, hk⟩ := hq
  refine wo_join 4 (g50_J0 m0 o) ?_ ?_
  · clear hk
    have hq := cond_inv hr
    clear hr
    rcases hq with ⟨rfl, hr⟩ | ⟨rfl, hr⟩
    · refine wo_take (v := (.i .i64 x0)) rfl (s_pure (p_mv g0)) ?_
      refine wo_take (v := (.i .i64 x1)) rfl (s_pure (p_mv g1)) ?_
      have hq := forceB_inv hr
      clear hr
      obtain ⟨c12, e12, hr⟩ := hq
      refine wo_take (v := (.b c12)) rfl (s_pure (p_bin rfl rfl (b_leq.trans (cb e12)))) ?_
      refine wo_step (v := (.b c12)) (s_pure (p_pickT rfl rfl)) ?_
      refine wo_nil ?_
      cases hr
      exact ⟨_, _, rfl, rfl, gl rfl⟩
    · refine wo_skip (v := (.b false)) rfl rfl ?_
      refine wo_skip (v := (.b false)) rfl rfl ?_
      refine wo_skip (v := (.b false)) rfl rfl ?_
      refine wo_step (v := (.b false)) (s_pure (p_pickF rfl rfl)) ?_
      refine wo_nil ?_
      cases hr
      exact ⟨_, _, rfl, rfl, gl rfl⟩
  · clear hr
    have hr := hk
    clear hk
    obtain ⟨c13, ho⟩ : ∃ z, z = o := ⟨_, rfl⟩
    subst ho
    rintro mm t_1 ⟨rfl, g13⟩
    refine wo_step (v := (.b c13)) (s_pure (p_mv g13)) ?_
    refine wo_nil ?_
    refine nx_norm ?_
    refine w_ret ?_
    exact qf ret_ok (rt rfl rn) hr

/- dibber/share.fault -/

def g51 (M : Means) (ro : List ABlk) (x0 : Int) (v1 : AVal) (m0 : Mm) : Option (AVal × Heap × Nat × Nat) :=
  bindP (callM M.call m0 16 [(.i .i64 x0), v1]) fun v11 m_1 =>
  bindO (evP .e (.ext 0 (.c v11))) fun v12 =>
  asI .i64 v12 fun x12 =>
  bindO (evP .e (.ext 1 (.c v11))) fun v13 =>
  asI .i64 v13 fun x13 =>
  bindO (evP .e (.ext 2 (.c v11))) fun v14 =>
  asI .i64 v14 fun x14 =>
  forceB (eqI x14 0) fun c18 =>
  cond c18 (
    finM m0.h.length (tupA [(.i .i64 5)]) m_1) (
    forceB (eqI x14 10) fun c20 =>
    cond c20 (
      finM m0.h.length (tupA [(.i .i64 0)]) m_1) (
      finM m0.h.length (tupA [(.i .i64 x14)]) m_1))

theorem g51_ok {ro : List ABlk} {O : Caller} {M : Means} (hM : M.Ok ⟨F, O⟩ ro) {x0 v1 h r} (ho : O 51 [(.i .i64 x0), v1] h = none) (hr : g51 M ro x0 v1 ⟨h, h.length, h.length⟩ = some r) : callX ⟨F, O⟩ ro 51 [(.i .i64 x0), v1] h = some r := by
  refine callX_of (F := ⟨F, O⟩) (fn := fn51) (g := g51 M ro x0 v1) ho rfl rfl hr ?_
  clear ho
  clear hr
  intro m0 t0 ht hr
  have g0 : t0.get 0 = (.i .i64 x0) := ht 0
  have g1 : t0.get 1 = v1 := ht 1
  clear ht
  unfold g51 at hr
  refine w_seq ?_
  refine w_ops ?_
  refine wo_step (v := (.i .i64 0)) (s_pure (p_mv rfl)) ?_
  refine wo_nil ?_
  refine nx_norm ?_
  refine w_seq ?_
  refine w_ops ?_
  refine wo_step (v := (.i .i64 x0)) (s_pure (p_mv g0)) ?_
  refine wo_step (v := v1) (s_pure (p_mv g1)) ?_
  have hq := bindP_inv hr
  clear hr
  obtain ⟨v11, m_1, e11, hr⟩ := hq
  refine wo_step (v := v11) (s_call (mc rfl (mc rfl mn)) (callM_le hM.call e11)) ?_
  refine wo_step (v := v11) (s_pure (p_mv rfl)) ?_
  have hq := bindO_inv hr
  clear hr
  obtain ⟨v12, e12, hr⟩ := hq
  have hq := asI_inv hr
  clear hr
  obtain ⟨x12, rfl, hr⟩ := hq
  refine wo_step (v := (.i .i64 x12)) (s_pure (o_ext rfl e12)) ?_
  have hq := bindO_inv hr
  clear hr
  obtain ⟨v13, e13, hr⟩ := hq
  have hq := asI_inv hr
  clear hr
  obtain ⟨x13, rfl, hr⟩ := hq
  refine wo_step (v := (.i .i64 x13)) (s_pure (o_ext rfl e13)) ?_
  have hq := bindO_inv hr
  clear hr
  obtain ⟨v14, e14, hr⟩ := hq
  have hq := asI_inv hr
  clear hr
  obtain ⟨x14, rfl, hr⟩ := hq
  refine wo_step (v := (.i .i64 x14)) (s_pure (o_ext rfl e14)) ?_
  refine wo_step (v := (.i .i64 x12)) (s_pure (p_mv rfl)) ?_
  refine wo_step (v := (.i .i64 x13)) (s_pure (p_mv rfl)) ?_
  refine wo_step (v := (.i .i64 x14)) (s_pure (p_mv rfl)) ?_
  refine wo_nil ?_
  refine nx_norm ?_
  refine w_seq ?_
  refine w_ops ?_
  refine wo_step (v := (.i .i64 x14)) (s_pure (p_mv rfl)) ?_
  refine wo_nil ?_
  refine nx_norm ?_
  refine w_block ?_
  refine w_seq ?_
  refine w_ops ?_
  have hq := forceB_inv hr
  clear hr
  obtain ⟨c18, e18, hr⟩ := hq
  refine wo_step (v := (.b c18)) (s_pure (p_bin rfl rfl (b_eql.trans (cb e18)))) ?_
  refine wo_step (v := (.b c18)) (s_pure (p_mv rfl)) ?_
  refine wo_nil ?_
  refine nx_norm ?_
  have hq := cond_inv hr
  clear hr
  rcases hq with ⟨rfl, hr⟩ | ⟨rfl, hr⟩
  · refine w_condT rfl ?_
    refine w_seq ?_
    refine w_ops ?_
    refine wo_step (v := (.i .i64 5)) (s_pure (p_mv rfl)) ?_
    refine wo_nil ?_
    refine nx_norm ?_
    refine w_ret ?_
    refine bk_ret ?_
    exact qf ret_ok (rt rfl rn) hr
  · refine w_condF rfl ?_
    refine w_seq ?_
    refine w_ops ?_
    have hq := forceB_inv hr
    clear hr
    obtain ⟨c20, e20, hr⟩ := hq
    refine wo_step (v := (.b c20)) (s_pure (p_bin rfl rfl (b_eql.trans (cb e20)))) ?_
    refine wo_step (v := (.b c20)) (s_pure (p_mv rfl)) ?_
    refine wo_nil ?_
    refine nx_norm ?_
    have hq := cond_inv hr
    clear hr
    rcases hq with ⟨rfl, hr⟩ | ⟨rfl, hr⟩
    · refine w_condT rfl ?_
      refine w_seq ?_
      refine w_ops ?_
      refine wo_step (v := (.i .i64 0)) (s_pure (p_mv rfl)) ?_
      refine wo_nil ?_
      refine nx_norm ?_
      refine w_ret ?_
      refine bk_ret ?_
      exact qf ret_ok (rt rfl rn) hr
    · refine w_condF rfl ?_
      refine w_seq ?_
      refine w_ops ?_
      refine wo_step (v := (.i .i64 x14)) (s_pure (p_mv rfl)) ?_
      refine wo_step (v := (.i .i64 x14)) (s_pure (p_mv rfl)) ?_
      refine wo_nil ?_
      refine nx_norm ?_
      refine w_ret ?_
      refine bk_ret ?_
      exact qf ret_ok (rt rfl rn) hr

/- dibber/share.greedy -/
abbrev g53_I0 (v0 : AVal) (v12 : AVal) (v1 : AVal) (x14 : Int) (s : Int × Int × Mm) (m1 : Mm) (t1 : Tr) : Prop :=
  match s with
  | (x6, x15, m_2) => m_2 = m1 ∧ t1.get 6 = (.i .i64 x6) ∧ t1.get 15 = (.i .i64 x15) ∧ t1.get 0 = v0 ∧ t1.get 5 = v12 ∧ t1.get 13 = v1 ∧ t1.get 14 = (.i .i64 x14)
abbrev g53_J0 (v0 : AVal) (v12 : AVal) (v1 : AVal) (x14 : Int) (o : Mm) (e : AExit) (m1 : Mm) (t1 : Tr) : Prop :=
  match o with
  | mo => e = (.exit 0) ∧ mo = m1 ∧ t1.get 5 = v12
def g53_b0 (M : Means) (ro : List ABlk) (v0 : AVal) (v12 : AVal) (v1 : AVal) (x14 : Int) (x6 : Int) (x15 : Int) (m_2 : Mm) : Option ((Int × Int × Mm) ⊕ (Mm)) :=
  forceB (ltI x15 x14) fun c16 =>
  cond c16 (
    bindO (evP .e (.ixS 1 (.c v1) (.c (.i .i64 x15)))) fun v17 =>
    bindO (ldM ro m_2 true 1 v17) fun v18 =>
    asI .i64 v18 fun x18 =>
    bindO (evP .e (.ixS 1 (.c v0) (.c (.i .i64 x6)))) fun v21 =>
    bindO (ldM ro m_2 true 1 v21) fun v22 =>
    asI .i64 v22 fun x22 =>
    chk (!ltI x18 (.ofNat 0)) <|
    forceI (shlV .i64 1 x18) fun x25 =>
    forceI (bitV .or .i64 x6 x25) fun x26 =>
    bindO (evP .e (.ixS 1 (.c v0) (.c (.i .i64 x26)))) fun v31 =>
    bindO (ldM ro m_2 true 1 v31) fun v32 =>
    asI .i64 v32 fun x32 =>
    forceI (wr .i64 (x32 - x22)) fun x34 =>
    bindO (evP .e (.ixS 1 (.c v12) (.c (.i .i64 x18)))) fun v35 =>
    bindP (stepM ro m_2 (.st 1 (.c v35) (.c (.i .i64 x34)))) fun vn m_3 =>
    forceI (wr .i64 (x15 + 1)) fun x36 =>
    some (.inl (x26, x36, m_3))) (
    some (.inr m_2))
def g53 (M : Means) (ro : List ABlk) (v0 : AVal) (v1 : AVal) (m0 : Mm) : Option (AVal × Heap × Nat × Nat) :=
  bindO (evP .e (.len false (.c v1))) fun v11 =>
  asI .i64 v11 fun x11 =>
  bindP (stepM ro m0 (.mk 3 1 8 [(AVal.i IntKind.i64 0)] (.c (.i .i64 x11)) (.c (.i .i64 x11)))) fun v12 m_1 =>
  bindO (evP .e (.len false (.c v1))) fun v14 =>
  asI .i64 v14 fun x14 =>
  bindO (M.loop (S := Int × Int × Mm) (R := Mm) (fun s => g53_b0 M ro v0 v12 v1 x14 s.1 s.2.1 s.2.2) (0, 0, m_1)) fun m_4 =>
  finM m0.h.length (tupA [v12]) m_4

theorem g53_ok {ro : List ABlk} {O : Caller} {M : Means} (hM : M.Ok ⟨F, O⟩ ro) {v0 v1 h r} (ho : O 53 [v0, v1] h = none) (hr : g53 M ro v0 v1 ⟨h, h.length, h.length⟩ = some r) : callX ⟨F, O⟩ ro 53 [v0, v1] h = some r := by
  refine callX_of (F := ⟨F, O⟩) (fn := fn53) (g := g53 M ro v0 v1) ho rfl rfl hr ?_
  clear ho
  clear hr
  intro m0 t0 ht hr
  have g0 : t0.get 0 = v0 := ht 0
  have g1 : t0.get 1 = v1 := ht 1
  clear ht
  unfold g53 at hr
  refine w_seq ?_
  refine w_ops ?_
  refine wo_step (v := AVal.nsl) (s_pure (p_mv rfl)) ?_
  refine wo_nil ?_
  refine nx_norm ?_
  refine w_seq ?_
  refine w_ops ?_
  refine wo_step (v := v1) (s_pure (p_mv g1)) ?_
  have hq := bindO_inv hr
  clear hr
  obtain ⟨v11, e11, hr⟩ := hq
  have hq := asI_inv hr
  clear hr
  obtain ⟨x11, rfl, hr⟩ := hq
  refine wo_step (v := (.i .i64 x11)) (s_pure (o_len rfl e11)) ?_
  have hq := bindP_inv hr
  clear hr
  obtain ⟨v12, m_1, e12, hr⟩ := hq
  refine wo_step (v := v12) (s_mk rfl rfl e12) ?_
  refine wo_step (v := v12) (s_pure (p_mv rfl)) ?_
  refine wo_nil ?_
  refine nx_norm ?_
  refine w_seq ?_
  refine w_ops ?_
  refine wo_step (v := (.i .i64 0)) (s_pure (p_mv rfl)) ?_
  refine wo_nil ?_
  refine nx_norm ?_
  refine w_seq ?_
  refine w_seq ?_
  refine w_ops ?_
  refine wo_step (v := v1) (s_pure (p_mv g1)) ?_
  have hq := bindO_inv hr
  clear hr
  obtain ⟨v14, e14, hr⟩ := hq
  have hq := asI_inv hr
  clear hr
  obtain ⟨x14, rfl, hr⟩ := hq
  refine wo_step (v := (.i .i64 x14)) (s_pure (o_len rfl e14)) ?_
  refine wo_step (v := (.i .i64 0)) (s_pure (p_mv rfl)) ?_
  refine wo_nil ?_
  refine nx_norm ?_
  refine w_block ?_
  have hq := bindO_inv hr
  clear hr
  obtain ⟨o, hl, hr⟩ := hq
  obtain ⟨n, hl⟩ := hM.loop _ _ _ hl
  refine jp_mono (w_loop _ (g53_I0 v0 v12 v1 x14) (g53_J0 v0 v12 v1 x14) ?_ n _ _ _ _ hl ⟨rfl, gl rfl, gl rfl, gl g0, gl rfl, gl rfl, gl rfl⟩) ?_
  · clear hr hl
    intro s mm_1 t_1 o hi hr
    obtain ⟨x6, x15, m_2⟩ := s
    obtain ⟨rfl, g6, g15, g0, g5, g13, g14⟩ := hi
    unfold g53_b0 at hr
    refine w_seq ?_
    refine w_ops ?_
    have hq := forceB_inv hr
    clear hr
    obtain ⟨c16, e16, hr⟩ := hq
    refine wo_step (v := (.b c16)) (s_pure (p_bin g15 g14 (b_lss.trans (cb e16)))) ?_
    refine wo_nil ?_
    refine nx_norm ?_
    refine w_seq ?_
    have hq := cond_inv hr
    clear hr
    rcases hq with ⟨rfl, hr⟩ | ⟨rfl, hr⟩
    · refine w_condT rfl ?_
      refine w_skip ?_
      refine nx_norm ?_
      refine w_seq ?_
      refine w_block ?_
      refine w_seq ?_
      refine w_ops ?_
      have hq := bindO_inv hr
      clear hr
      obtain ⟨v17, e17, hr⟩ := hq
      refine wo_step (v := v17) (s_pure (o_ixS g13 g15 e17)) ?_
      have hq := bindO_inv hr
      clear hr
      obtain ⟨v18, e18, hr⟩ := hq
      have hq := asI_inv hr
      clear hr
      obtain ⟨x18, rfl, hr⟩ := hq
      refine wo_step (v := (.i .i64 x18)) (s_ld rfl e18) ?_
      refine wo_step (v := (.i .i64 x18)) (s_pure (p_mv rfl)) ?_
      refine wo_nil ?_
      refine nx_norm ?_
      refine w_seq ?_
      refine w_ops ?_
      refine wo_step (v := v0) (s_pure (p_mv g0)) ?_
      refine wo_step (v := (.i .i64 x6)) (s_pure (p_mv g6)) ?_
      have hq := bindO_inv hr
      clear hr
      obtain ⟨v21, e21, hr⟩ := hq
      refine wo_step (v := v21) (s_pure (o_ixS rfl rfl e21)) ?_
      have hq := bindO_inv hr
      clear hr
      obtain ⟨v22, e22, hr⟩ := hq
      have hq := asI_inv hr
      clear hr
      obtain ⟨x22, rfl, hr⟩ := hq
      refine wo_step (v := (.i .i64 x22)) (s_ld rfl e22) ?_
      refine wo_step (v := (.i .i64 x22)) (s_pure (p_mv rfl)) ?_
      refine wo_nil ?_
      refine nx_norm ?_
      refine w_seq ?_
      refine w_ops ?_
      refine wo_step (v := (.i .i64 x6)) (s_pure (p_mv g6)) ?_
      refine wo_step (v := (.i .i64 x18)) (s_pure (p_mv rfl)) ?_
      have hq := chk_inv hr
      clear hr
      obtain ⟨hc25, hr⟩ := hq
      have hq := forceI_inv hr
      clear hr
      obtain ⟨x25, e25, hr⟩ := hq
      refine wo_step (v := (.i .i64 x25)) (s_pure (p_bin rfl rfl ((b_shl hc25).trans (ci e25)))) ?_
      have hq := forceI_inv hr
      clear hr
      obtain ⟨x26, e26, hr⟩ := hq
      refine wo_step (v := (.i .i64 x26)) (s_pure (p_bin rfl rfl (b_or.trans (ci e26)))) ?_
      refine wo_step (v := (.i .i64 x26)) (s_pure (p_mv rfl)) ?_
      refine wo_nil ?_
      refine nx_norm ?_
      refine w_ops ?_
      refine wo_step (v := v12) (s_pure (p_mv g5)) ?_
      refine wo_step (v := (.i .i64 x18)) (s_pure (p_mv rfl)) ?_
      refine wo_step (v := v0) (s_pure (p_mv g0)) ?_
      refine wo_step (v := (.i .i64 x26)) (s_pure (p_mv rfl)) ?_
      have hq := bindO_inv hr
      clear hr
      obtain ⟨v31, e31, hr⟩ := hq
      refine wo_step (v := v31) (s_pure (o_ixS rfl rfl e31)) ?_
      have hq := bindO_inv hr
      clear hr
      obtain ⟨v32, e32, hr⟩ := hq
      have hq := asI_inv hr
      clear hr
      obtain ⟨x32, rfl, hr⟩ := hq
      refine wo_step (v := (.i .i64 x32)) (s_ld rfl e32) ?_
      refine wo_step (v := (.i .i64 x22)) (s_pure (p_mv rfl)) ?_
      have hq := forceI_inv hr
      clear hr
      obtain ⟨x34, e34, hr⟩ := hq
      refine wo_step (v := (.i .i64 x34)) (s_pure (p_bin rfl rfl (b_sub.trans (ci e34)))) ?_
      have hq := bindO_inv hr
      clear hr
      obtain ⟨v35, e35, hr⟩ := hq
      refine wo_step (v := v35) (s_pure (o_ixS rfl rfl e35)) ?_
      have hq := bindP_inv hr
      clear hr
      obtain ⟨vn, m_3, en, hr⟩ := hq
      refine wo_stepN (s_st rfl rfl en) ?_
      refine wo_nil ?_
      refine bk_norm ?_
      refine nx_norm ?_
      refine w_ops ?_
      have hq := forceI_inv hr
      clear hr
      obtain ⟨x36, e36, hr⟩ := hq
      refine wo_step (v := (.i .i64 x36)) (s_pure (p_bin g15 rfl (b_add.trans (ci e36)))) ?_
      refine wo_step (v := (.i .i64 x36)) (s_pure (p_mv rfl)) ?_
      refine wo_nil ?_
      cases hr
      exact ⟨_, _, rfl, rfl, rfl, gl rfl, gl rfl, gl g0, gl g5, gl g13, gl g14⟩
    · refine w_condF rfl ?_
      refine w_exit ?_
      refine nx_exit ?_
      cases hr
      exact ⟨_, _, rfl, ne_norm_exit, rfl, rfl, gl g5⟩
  · obtain ⟨m_4, ho⟩ : ∃ z, z = o := ⟨_, rfl⟩
    subst ho
    rintro _ mm t_2 ⟨rfl, rfl, g5⟩
    refine bk_hit ?_
    refine nx_norm ?_
    refine w_seq ?_
    refine w_ops ?_
    refine wo_step (v := v12) (s_pure (p_mv g5)) ?_
    refine wo_step (v := v12) (s_pure (p_mv rfl)) ?_
    refine wo_nil ?_
    refine nx_norm ?_
    refine w_ret ?_
    exact qf ret_ok (rt rfl rn) hr

/- dibber/share.has -/

def g60 (M : Means) (ro : List ABlk) (x0 : Int) (x1 : Int) (m0 : Mm) : Option (AVal × Heap × Nat × Nat) :=
  chk (!ltI x1 (.ofNat 0)) <|
  forceI (shrV .i64 x0 x1) fun x7 =>
  forceI (bitV .and .i64 x7 1) fun x8 =>
  forceB (eqI x8 1) fun c9 =>
  finM m0.h.length (tupA [(.b c9)]) m0

theorem g60_ok {ro : List ABlk} {O : Caller} {M : Means} (hM : M.Ok ⟨F, O⟩ ro) {x0 x1 h r} (ho : O 60 [(.i .i64 x0), (.i .i64 x1)] h = none) (hr : g60 M ro x0 x1 ⟨h, h.length, h.length⟩ = some r) : callX ⟨F, O⟩ ro 60 [(.i .i64 x0), (.i .i64 x1)] h = some r := by
  refine callX_of (F := ⟨F, O⟩) (fn := fn60) (g := g60 M ro x0 x1) ho rfl rfl hr ?_
  clear ho
  clear hr
  intro m0 t0 ht hr
  have g0 : t0.get 0 = (.i .i64 x0) := ht 0
  have g1 : t0.get 1 = (.i .i64 x1) := ht 1
  clear ht
  unfold g60 at hr
  refine w_seq ?_
  refine w_ops ?_
  refine wo_step (v := (.b false)) (s_pure (p_mv rfl)) ?_
  refine wo_nil ?_
  refine nx_norm ?_
  refine w_seq ?_
  refine w_ops ?_
  refine wo_step (v := (.i .i64 x0)) (s_pure (p_mv g0)) ?_
  refine wo_step (v := (.i .i64 x1)) (s_pure (p_mv g1)) ?_
  have hq := chk_inv hr
  clear hr
  obtain ⟨hc7, hr⟩ := hq
  have hq := forceI_inv hr
  clear hr
  obtain ⟨x7, e7, hr⟩ := hq
  refine wo_step (v := (.i .i64 x7)) (s_pure (p_bin rfl rfl ((b_shr hc7).trans (ci e7)))) ?_
  have hq := forceI_inv hr
  clear hr
  obtain ⟨x8, e8, hr⟩ := hq
  refine wo_step (v := (.i .i64 x8)) (s_pure (p_bin rfl rfl (b_and.trans (ci e8)))) ?_
  have hq := forceB_inv hr
  clear hr
  obtain ⟨c9, e9, hr⟩ := hq
  refine wo_step (v := (.b c9)) (s_pure (p_bin rfl rfl (b_eql.trans (cb e9)))) ?_
  refine wo_step (v := (.b c9)) (s_pure (p_mv rfl)) ?_
  refine wo_nil ?_
  refine nx_norm ?_
  refine w_ret ?_
  exact qf ret_ok (rt rfl rn) hr

/- dibber/share.isSharing -/
abbrev g65_J0  (o : Bool × Mm) (m1 : Mm) (t1 : Tr) : Prop :=
  match o with
  | (c12, m_1) => m_1 = m1 ∧ t1.get 12 = (.b c12)
def g65 (M : Means) (ro : List ABlk) (x0 : Int) (v1 : AVal) (m0 : Mm) : Option (AVal × Heap × Nat × Nat) :=
  bindO (evP .e (.len false (.c v1))) fun v6 =>
  asI .i64 v6 fun x6 =>
  forceB (eqI x6 x0) fun c8 =>
  bindO (cond c8 (
    bindP (callM M.call m0 87 [v1, (.i .i64 6000000)]) fun v11 m_2 =>
    asB v11 fun c11 =>
    some (c11, m_2)) (
    some (false, m0))) fun ⟨c12, m_1⟩ =>
  finM m0.h.length (tupA [(.b c12)]) m_1

theorem g65_ok {ro : List ABlk} {O : Caller} {M : Means} (hM : M.Ok ⟨F, O⟩ ro) {x0 v1 h r} (ho : O 65 [(.i .i64 x0), v1] h = none) (hr : g65 M ro x0 v1 ⟨h, h.length, h.length⟩ = some r) : callX ⟨F, O⟩ ro 65 [(.i .i64 x0), v1] h = some r := by
  refine callX_of (F := ⟨F, O⟩) (fn := fn65) (g := g65 M ro x0 v1) ho rfl rfl hr ?_
  clear ho
  clear hr
  intro m0 t0 ht hr
  have g0 : t0.get 0 = (.i .i64 x0) := ht 0
  have g1 : t0.get 1 = v1 := ht 1
  clear ht
  unfold g65 at hr
  refine w_seq ?_
  refine w_ops ?_
  refine wo_step (v := (.b false)) (s_pure (p_mv rfl)) ?_
  refine wo_nil ?_
  refine nx_norm ?_
  refine w_seq ?_
  refine w_ops ?_
  refine wo_step (v := v1) (s_pure (p_mv g1)) ?_
  have hq := bindO_inv hr
  clear hr
  obtain ⟨v6, e6, hr⟩ := hq
  have hq := asI_inv hr
  clear hr
  obtain ⟨x6, rfl, hr⟩ := hq
  refine wo_step (v := (.i .i64 x6)) (s_pure (o_len rfl e6)) ?_
  refine wo_step (v := (.i .i64 x0)) (s_pure (p_mv g0)) ?_
  have hq := forceB_inv hr
  clear hr
  obtain ⟨c8, e8, hr⟩ := hq
  refine wo_step (v := (.b c8)) (s_pure (p_bin rfl rfl (b_eql.trans (cb e8)))) ?_
  refine wo_step (v := (.b c8)) (s_pure (p_mv rfl)) ?_
  have hq := bindO_inv hr
  clear hr
  obtain ⟨o, hr, hk⟩ := hq
  refine wo_join 3 (g65_J0  o) ?_ ?_
  · clear hk
    have hq := cond_inv hr
    clear hr
    rcases hq with ⟨rfl, hr⟩ | ⟨rfl, hr⟩
    · refine wo_take (v := v1) rfl (s_pure (p_mv g1)) ?_
      have hq := bindP_inv hr
      clear hr
      obtain ⟨v11, m_2, e11, hr⟩ := hq
      have hq := asB_inv hr
      clear hr
      obtain ⟨c11, rfl, hr⟩ := hq
      refine wo_take (v := (.b c11)) rfl (s_call (mc rfl (mc rfl mn)) (callM_le hM.call e11)) ?_
      refine wo_step (v := (.b c11)) (s_pure (p_pickT rfl rfl)) ?_
      refine wo_nil ?_
      cases hr
      exact ⟨_, _, rfl, rfl, gl rfl⟩
    · refine wo_skip (v := (.b false)) rfl rfl ?_
      refine wo_skip (v := (.b false)) rfl rfl ?_
      refine wo_step (v := (.b false)) (s_pure (p_pickF rfl rfl)) ?_
      refine wo_nil ?_
      cases hr
      exact ⟨_, _, rfl, rfl, gl rfl⟩
  · clear hr
    have hr := hk
    clear hk
    obtain ⟨c12, m_1⟩ := o
    rintro mm t_1 ⟨rfl, g12⟩
    refine wo_step (v := (.b c12)) (s_pure (p_mv g12)) ?_
    refine wo_nil ?_
    refine nx_norm ?_
    refine w_ret ?_
    exact qf ret_ok (rt rfl rn) hr

/- dibber/share.paysMore -/

def g66 (M : Means) (ro : List ABlk) (v0 : AVal) (v1 : AVal) (m0 : Mm) : Option (AVal × Heap × Nat × Nat) :=
  bindP (stepM ro m0 (.bx 22 1 (.c v0))) fun v2 m_1 =>
  bindP (stepM ro m_1 (.bx 22 1 (.c v1))) fun v3 m_2 =>
  bindO (some (AVal.fn 95 [] [v3, v2])) fun v5 =>
  finM m0.h.length (tupA [v5]) m_2

theorem g66_ok {ro : List ABlk} {O : Caller} {M : Means} (hM : M.Ok ⟨F, O⟩ ro) {v0 v1 h r} (ho : O 66 [v0, v1] h = none) (hr : g66 M ro v0 v1 ⟨h, h.length, h.length⟩ = some r) : callX ⟨F, O⟩ ro 66 [v0, v1] h = some r := by
  refine callX_of (F := ⟨F, O⟩) (fn := fn66) (g := g66 M ro v0 v1) ho rfl rfl hr ?_
  clear ho
  clear hr
  intro m0 t0 ht hr
  have g0 : t0.get 0 = v0 := ht 0
  have g1 : t0.get 1 = v1 := ht 1
  clear ht
  unfold g66 at hr
  refine w_seq ?_
  refine w_ops ?_
  have hq := bindP_inv hr
  clear hr
  obtain ⟨v2, m_1, e2, hr⟩ := hq
  refine wo_step (v := v2) (s_bx g0 e2) ?_
  have hq := bindP_inv hr
  clear hr
  obtain ⟨v3, m_2, e3, hr⟩ := hq
  refine wo_step (v := v3) (s_bx g1 e3) ?_
  refine wo_step (v := AVal.nfn) (s_pure (p_mv rfl)) ?_
  refine wo_nil ?_
  refine nx_norm ?_
  refine w_seq ?_
  refine w_ops ?_
  have hq := bindO_inv hr
  clear hr
  obtain ⟨v5, e5, hr⟩ := hq
  refine wo_step (v := v5) (s_pure ((o_mkfn mn (mc rfl (mc rfl mn))).trans e5)) ?_
  refine wo_step (v := v5) (s_pure (p_mv rfl)) ?_
  refine wo_nil ?_
  refine nx_norm ?_
  refine w_ret ?_
  exact qf ret_ok (rt rfl rn) hr

/- dibber/share.total -/
abbrev g67_I0 (x1 : Int) (v0 : AVal) (x9 : Int) (s : Int × Int × Mm) (m1 : Mm) (t1 : Tr) : Prop :=
  match s with
  | (x5, x10, m_1) => m_1 = m1 ∧ t1.get 5 = (.i .i64 x5) ∧ t1.get 10 = (.i .i64 x10) ∧ t1.get 1 = (.i .i64 x1) ∧ t1.get 8 = v0 ∧ t1.get 9 = (.i .i64 x9)
abbrev g67_J0 (x1 : Int) (v0 : AVal) (x9 : Int) (o : (Int × Mm)) (e : AExit) (m1 : Mm) (t1 : Tr) : Prop :=
  match o with
  | (y5, mo) => e = (.exit 0) ∧ mo = m1 ∧ t1.get 5 = (.i .i64 y5)
abbrev g67_J1 (x1 : Int) (v0 : AVal) (x9 : Int) (x10 : Int) (m_2 : Mm) (o : Int) (e : AExit) (m1 : Mm) (t1 : Tr) : Prop :=
  match o with
  | y5 => e = .norm ∧ m_2 = m1 ∧ t1.get 5 = (.i .i64 y5) ∧ t1.get 1 = (.i .i64 x1) ∧ t1.get 8 = v0 ∧ t1.get 9 = (.i .i64 x9) ∧ t1.get 10 = (.i .i64 x10)
def g67_b0 (M : Means) (ro : List ABlk) (x1 : Int) (v0 : AVal) (x9 : Int) (x5 : Int) (x10 : Int) (m_1 : Mm) : Option ((Int × Int × Mm) ⊕ ((Int × Mm))) :=
  forceB (ltI x10 x9) fun c11 =>
  cond c11 (
    bindO (evP .e (.ixS 1 (.c v0) (.c (.i .i64 x10)))) fun v13 =>
    bindO (ldM ro m_1 true 1 v13) fun v14 =>
    asI .i64 v14 fun x14 =>
    bindP (callM M.call m_1 60 [(.i .i64 x1), (.i .i64 x10)]) fun v17 m_2 =>
    asB v17 fun c17 =>
    bindO (α := Int) (
      cond c17 (
        forceI (wr .i64 (x5 + x14)) fun x20 =>
        some x20) (
        some x5)) fun x5_1 =>
    forceI (wr .i64 (x10 + 1)) fun x21 =>
    some (.inl (x5_1, x21, m_2))) (
    some (.inr (x5, m_1)))
def g67 (M : Means) (ro : List ABlk) (v0 : AVal) (x1 : Int) (m0 : Mm) : Option (AVal × Heap × Nat × Nat) :=
  bindO (evP .e (.len false (.c v0))) fun v9 =>
  asI .i64 v9 fun x9 =>
  bindO (M.loop (S := Int × Int × Mm) (R := (Int × Mm)) (fun s => g67_b0 M ro x1 v0 x9 s.1 s.2.1 s.2.2) (0, 0, m0)) fun ⟨x5_2, m_3⟩ =>
  finM m0.h.length (tupA [(.i .i64 x5_2)]) m_3

theorem g67_ok {ro : List ABlk} {O : Caller} {M : Means} (hM : M.Ok ⟨F, O⟩ ro) {v0 x1 h r} (ho : O 67 [v0, (.i .i64 x1)] h = none) (hr : g67 M ro v0 x1 ⟨h, h.length, h.length⟩ = some r) : callX ⟨F, O⟩ ro 67 [v0, (.i .i64 x1)] h = some r := by
  refine callX_of (F := ⟨F, O⟩) (fn := fn67) (g := g67 M ro v0 x1) ho rfl rfl hr ?_
  clear ho
  clear hr
  intro m0 t0 ht hr
  have g0 : t0.get 0 = v0 := ht 0
  have g1 : t0.get 1 = (.i .i64 x1) := ht 1
  clear ht
  unfold g67 at hr
  refine w_seq ?_
  refine w_ops ?_
  refine wo_step (v := (.i .i64 0)) (s_pure (p_mv rfl)) ?_
  refine wo_nil ?_
  refine nx_norm ?_
  refine w_seq ?_
  refine w_ops ?_
  refine wo_step (v := (.i .i64 0)) (s_pure (p_mv rfl)) ?_
  refine wo_nil ?_
  refine nx_norm ?_
  refine w_seq ?_
  refine w_seq ?_
  refine w_ops ?_
  refine wo_step (v := v0) (s_pure (p_mv g0)) ?_
  have hq := bindO_inv hr
  clear hr
  obtain ⟨v9, e9, hr⟩ := hq
  have hq := asI_inv hr
  clear hr
  obtain ⟨x9, rfl, hr⟩ := hq
  refine wo_step (v := (.i .i64 x9)) (s_pure (o_len rfl e9)) ?_
  refine wo_step (v := (.i .i64 0)) (s_pure (p_mv rfl)) ?_
  refine wo_nil ?_
  refine nx_norm ?_
  refine w_block ?_
  have hq := bindO_inv hr
  clear hr
  obtain ⟨o_1, hl, hr⟩ := hq
  obtain ⟨n, hl⟩ := hM.loop _ _ _ hl
  refine jp_mono (w_loop _ (g67_I0 x1 v0 x9) (g67_J0 x1 v0 x9) ?_ n _ _ _ _ hl ⟨rfl, gl rfl, gl rfl, gl g1, gl rfl, gl rfl⟩) ?_
  · clear hr hl
    intro s mm_2 t_1 o hi hr
    obtain ⟨x5, x10, m_1⟩ := s
    obtain ⟨rfl, g5, g10, g1, g8, g9⟩ := hi
    unfold g67_b0 at hr
    refine w_seq ?_
    refine w_ops ?_
    have hq := forceB_inv hr
    clear hr
    obtain ⟨c11, e11, hr⟩ := hq
    refine wo_step (v := (.b c11)) (s_pure (p_bin g10 g9 (b_lss.trans (cb e11)))) ?_
    refine wo_nil ?_
    refine nx_norm ?_
    refine w_seq ?_
    have hq := cond_inv hr
    clear hr
    rcases hq with ⟨rfl, hr⟩ | ⟨rfl, hr⟩
    · refine w_condT rfl ?_
      refine w_skip ?_
      refine nx_norm ?_
      refine w_seq ?_
      refine w_block ?_
      refine w_seq ?_
      refine w_ops ?_
      refine wo_step (v := (.i .i64 x10)) (s_pure (p_mv g10)) ?_
      have hq := bindO_inv hr
      clear hr
      obtain ⟨v13, e13, hr⟩ := hq
      refine wo_step (v := v13) (s_pure (o_ixS g8 g10 e13)) ?_
      have hq := bindO_inv hr
      clear hr
      obtain ⟨v14, e14, hr⟩ := hq
      have hq := asI_inv hr
      clear hr
      obtain ⟨x14, rfl, hr⟩ := hq
      refine wo_step (v := (.i .i64 x14)) (s_ld rfl e14) ?_
      refine wo_step (v := (.i .i64 x10)) (s_pure (p_mv rfl)) ?_
      refine wo_step (v := (.i .i64 x14)) (s_pure (p_mv rfl)) ?_
      refine wo_nil ?_
      refine nx_norm ?_
      refine w_seq ?_
      refine w_ops ?_
      refine wo_step (v := (.i .i64 x1)) (s_pure (p_mv g1)) ?_
      refine wo_step (v := (.i .i64 x10)) (s_pure (p_mv rfl)) ?_
      have hq := bindP_inv hr
      clear hr
      obtain ⟨v17, m_2, e17, hr⟩ := hq
      have hq := asB_inv hr
      clear hr
      obtain ⟨c17, rfl, hr⟩ := hq
      refine wo_step (v := (.b c17)) (s_call (mc rfl (mc rfl mn)) (callM_le hM.call e17)) ?_
      refine wo_nil ?_
      refine nx_norm ?_
      have hq := bindO_inv hr
      clear hr
      obtain ⟨o, hr, hk⟩ := hq
      refine jp_mono (J := g67_J1 x1 v0 x9 x10 m_2 o) ?_ ?_
      · clear hk
        have hq := cond_inv hr
        clear hr
        rcases hq with ⟨rfl, hr⟩ | ⟨rfl, hr⟩
        · refine w_condT rfl ?_
          refine w_ops ?_
          refine wo_step (v := (.i .i64 x5)) (s_pure (p_mv g5)) ?_
          refine wo_step (v := (.i .i64 x14)) (s_pure (p_mv rfl)) ?_
          have hq := forceI_inv hr
          clear hr
          obtain ⟨x20, e20, hr⟩ := hq
          refine wo_step (v := (.i .i64 x20)) (s_pure (p_bin rfl rfl (b_add.trans (ci e20)))) ?_
          refine wo_step (v := (.i .i64 x20)) (s_pure (p_mv rfl)) ?_
          refine wo_nil ?_
          cases hr
          exact ⟨_, _, rfl, rfl, rfl, gl rfl, gl g1, gl g8, gl g9, gl g10⟩
        · refine w_condF rfl ?_
          refine w_skip ?_
          cases hr
          exact ⟨_, _, rfl, rfl, rfl, gl g5, gl g1, gl g8, gl g9, gl g10⟩
      · clear hr
        have hr := hk
        clear hk
        obtain ⟨x5_1, ho⟩ : ∃ z, z = o := ⟨_, rfl⟩
        subst ho
        rintro _ mm t_2 ⟨rfl, rfl, g5, g1, g8, g9, g10⟩
        refine bk_norm ?_
        refine nx_norm ?_
        refine w_ops ?_
        have hq := forceI_inv hr
        clear hr
        obtain ⟨x21, e21, hr⟩ := hq
        refine wo_step (v := (.i .i64 x21)) (s_pure (p_bin g10 rfl (b_add.trans (ci e21)))) ?_
        refine wo_step (v := (.i .i64 x21)) (s_pure (p_mv rfl)) ?_
        refine wo_nil ?_
        cases hr
        exact ⟨_, _, rfl, rfl, rfl, gl g5, gl rfl, gl g1, gl g8, gl g9⟩
    · refine w_condF rfl ?_
      refine w_exit ?_
      refine nx_exit ?_
      cases hr
      exact ⟨_, _, rfl, ne_norm_exit, rfl, rfl, gl g5⟩
  · obtain ⟨x5_2, m_3⟩ := o_1
    rintro _ mm_1 t_3 ⟨rfl, rfl, g5⟩
    refine bk_hit ?_
    refine nx_norm ?_
    refine w_seq ?_
    refine w_ops ?_
    refine wo_step (v := (.i .i64 x5_2)) (s_pure (p_mv g5)) ?_
    refine wo_step (v := (.i .i64 x5_2)) (s_pure (p_mv rfl)) ?_
    refine wo_nil ?_
    refine nx_norm ?_
    refine w_ret ?_
    exact qf ret_ok (rt rfl rn) hr

/- dibber/share.cheapest -/
abbrev g70_I0 (v0 : AVal) (v1 : AVal) (x15 : Int) (m0 : Mm) (s : Int × Int) (m1 : Mm) (t1 : Tr) : Prop :=
  match s with
  | (x5, x16) => m0 = m1 ∧ t1.get 5 = (.i .i64 x5) ∧ t1.get 16 = (.i .i64 x16) ∧ t1.get 0 = v0 ∧ t1.get 14 = v1 ∧ t1.get 15 = (.i .i64 x15)
abbrev g70_J0 (v0 : AVal) (v1 : AVal) (x15 : Int) (m0 : Mm) (o : Int) (e : AExit) (m1 : Mm) (t1 : Tr) : Prop :=
  match o with
  | y5 => e = (.exit 0) ∧ m0 = m1 ∧ t1.get 5 = (.i .i64 y5)
def g70_b0 (M : Means) (ro : List ABlk) (v0 : AVal) (v1 : AVal) (x15 : Int) (m0 : Mm) (x5 : Int) (x16 : Int) : Option ((Int × Int) ⊕ (Int)) :=
  forceB (ltI x16 x15) fun c17 =>
  cond c17 (
    bindO (evP .e (.ixS 1 (.c v1) (.c (.i .i64 x16)))) fun v18 =>
    bindO (ldM ro m0 true 1 v18) fun v19 =>
    asI .i64 v19 fun x19 =>
    bindO (evP .e (.ixS 1 (.c v0) (.c (.i .i64 x19)))) fun v23 =>
    bindO (ldM ro m0 true 1 v23) fun v24 =>
    asI .i64 v24 fun x24 =>
    forceI (mxV false x5 x24) fun x25 =>
    forceI (wr .i64 (x16 + 1)) fun x26 =>
    some (.inl (x25, x26))) (
    some (.inr x5))
def g70 (M : Means) (ro : List ABlk) (v0 : AVal) (v1 : AVal) (m0 : Mm) : Option (AVal × Heap × Nat × Nat) :=
  bindO (evP .e (.ixS 1 (.c v1) (.c (.i .i64 0)))) fun v10 =>
  bindO (ldM ro m0 true 1 v10) fun v11 =>
  asI .i64 v11 fun x11 =>
  bindO (evP .e (.ixS 1 (.c v0) (.c (.i .i64 x11)))) fun v12 =>
  bindO (ldM ro m0 true 1 v12) fun v13 =>
  asI .i64 v13 fun x13 =>
  bindO (evP .e (.len false (.c v1))) fun v15 =>
  asI .i64 v15 fun x15 =>
  bindO (M.loop (S := Int × Int) (R := Int) (fun s => g70_b0 M ro v0 v1 x15 m0 s.1 s.2) (x13, 0)) fun x5_1 =>
  finM m0.h.length (tupA [(.i .i64 x5_1)]) m0

theorem g70_ok {ro : List ABlk} {O : Caller} {M : Means} (hM : M.Ok ⟨F, O⟩ ro) {v0 v1 h r} (ho : O 70 [v0, v1] h = none) (hr : g70 M ro v0 v1 ⟨h, h.length, h.length⟩ = some r) : callX ⟨F, O⟩ ro 70 [v0, v1] h = some r := by
  refine callX_of (F := ⟨F, O⟩) (fn := fn70) (g := g70 M ro v0 v1) ho rfl rfl hr ?_
  clear ho
  clear hr
  intro m0 t0 ht hr
  have g0 : t0.get 0 = v0 := ht 0
  have g1 : t0.get 1 = v1 := ht 1
  clear ht
  unfold g70 at hr
  refine w_seq ?_
  refine w_ops ?_
  refine wo_step (v := (.i .i64 0)) (s_pure (p_mv rfl)) ?_
  refine wo_nil ?_
  refine nx_norm ?_
  refine w_seq ?_
  refine w_ops ?_
  refine wo_step (v := v0) (s_pure (p_mv g0)) ?_
  refine wo_step (v := v1) (s_pure (p_mv g1)) ?_
  have hq := bindO_inv hr
  clear hr
  obtain ⟨v10, e10, hr⟩ := hq
  refine wo_step (v := v10) (s_pure (o_ixS rfl rfl e10)) ?_
  have hq := bindO_inv hr
  clear hr
  obtain ⟨v11, e11, hr⟩ := hq
  have hq := asI_inv hr
  clear hr
  obtain ⟨x11, rfl, hr⟩ := hq
  refine wo_step (v := (.i .i64 x11)) (s_ld rfl e11) ?_
  have hq := bindO_inv hr
  clear hr
  obtain ⟨v12, e12, hr⟩ := hq
  refine wo_step (v := v12) (s_pure (o_ixS rfl rfl e12)) ?_
  have hq := bindO_inv hr
  clear hr
  obtain ⟨v13, e13, hr⟩ := hq
  have hq := asI_inv hr
  clear hr
  obtain ⟨x13, rfl, hr⟩ := hq
  refine wo_step (v := (.i .i64 x13)) (s_ld rfl e13) ?_
  refine wo_step (v := (.i .i64 x13)) (s_pure (p_mv rfl)) ?_
  refine wo_nil ?_
  refine nx_norm ?_
  refine w_seq ?_
  refine w_seq ?_
  refine w_ops ?_
  refine wo_step (v := v1) (s_pure (p_mv g1)) ?_
  have hq := bindO_inv hr
  clear hr
  obtain ⟨v15, e15, hr⟩ := hq
  have hq := asI_inv hr
  clear hr
  obtain ⟨x15, rfl, hr⟩ := hq
  refine wo_step (v := (.i .i64 x15)) (s_pure (o_len rfl e15)) ?_
  refine wo_step (v := (.i .i64 0)) (s_pure (p_mv rfl)) ?_
  refine wo_nil ?_
  refine nx_norm ?_
  refine w_block ?_
  have hq := bindO_inv hr
  clear hr
  obtain ⟨o, hl, hr⟩ := hq
  obtain ⟨n, hl⟩ := hM.loop _ _ _ hl
  refine jp_mono (w_loop _ (g70_I0 v0 v1 x15 m0) (g70_J0 v0 v1 x15 m0) ?_ n _ _ _ _ hl ⟨rfl, gl rfl, gl rfl, gl g0, gl rfl, gl rfl⟩) ?_
  · clear hr hl
    intro s mm_1 t_1 o hi hr
    obtain ⟨x5, x16⟩ := s
    obtain ⟨rfl, g5, g16, g0, g14, g15⟩ := hi
    unfold g70_b0 at hr
    refine w_seq ?_
    refine w_ops ?_
    have hq := forceB_inv hr
    clear hr
    obtain ⟨c17, e17, hr⟩ := hq
    refine wo_step (v := (.b c17)) (s_pure (p_bin g16 g15 (b_lss.trans (cb e17)))) ?_
    refine wo_nil ?_
    refine nx_norm ?_
    refine w_seq ?_
    have hq := cond_inv hr
    clear hr
    rcases hq with ⟨rfl, hr⟩ | ⟨rfl, hr⟩
    · refine w_condT rfl ?_
      refine w_skip ?_
      refine nx_norm ?_
      refine w_seq ?_
      refine w_block ?_
      refine w_seq ?_
      refine w_ops ?_
      have hq := bindO_inv hr
      clear hr
      obtain ⟨v18, e18, hr⟩ := hq
      refine wo_step (v := v18) (s_pure (o_ixS g14 g16 e18)) ?_
      have hq := bindO_inv hr
      clear hr
      obtain ⟨v19, e19, hr⟩ := hq
      have hq := asI_inv hr
      clear hr
      obtain ⟨x19, rfl, hr⟩ := hq
      refine wo_step (v := (.i .i64 x19)) (s_ld rfl e19) ?_
      refine wo_step (v := (.i .i64 x19)) (s_pure (p_mv rfl)) ?_
      refine wo_nil ?_
      refine nx_norm ?_
      refine w_ops ?_
      refine wo_step (v := (.i .i64 x5)) (s_pure (p_mv g5)) ?_
      refine wo_step (v := v0) (s_pure (p_mv g0)) ?_
      refine wo_step (v := (.i .i64 x19)) (s_pure (p_mv rfl)) ?_
      have hq := bindO_inv hr
      clear hr
      obtain ⟨v23, e23, hr⟩ := hq
      refine wo_step (v := v23) (s_pure (o_ixS rfl rfl e23)) ?_
      have hq := bindO_inv hr
      clear hr
      obtain ⟨v24, e24, hr⟩ := hq
      have hq := asI_inv hr
      clear hr
      obtain ⟨x24, rfl, hr⟩ := hq
      refine wo_step (v := (.i .i64 x24)) (s_ld rfl e24) ?_
      have hq := forceI_inv hr
      clear hr
      obtain ⟨x25, e25, hr⟩ := hq
      refine wo_step (v := (.i .i64 x25)) (s_pure ((p_mx rfl rfl).trans (ci e25))) ?_
      refine wo_step (v := (.i .i64 x25)) (s_pure (p_mv rfl)) ?_
      refine wo_nil ?_
      refine bk_norm ?_
      refine nx_norm ?_
      refine w_ops ?_
      have hq := forceI_inv hr
      clear hr
      obtain ⟨x26, e26, hr⟩ := hq
      refine wo_step (v := (.i .i64 x26)) (s_pure (p_bin g16 rfl (b_add.trans (ci e26)))) ?_
      refine wo_step (v := (.i .i64 x26)) (s_pure (p_mv rfl)) ?_
      refine wo_nil ?_
      cases hr
      exact ⟨_, _, rfl, rfl, rfl, gl rfl, gl rfl, gl g0, gl g14, gl g15⟩
    · refine w_condF rfl ?_
      refine w_exit ?_
      refine nx_exit ?_
      cases hr
      exact ⟨_, _, rfl, ne_norm_exit, rfl, rfl, gl g5⟩
  · obtain ⟨x5_1, ho⟩ : ∃ z, z = o := ⟨_, rfl⟩
    subst ho
    rintro _ mm t_2 ⟨rfl, rfl, g5⟩
    refine bk_hit ?_
    refine nx_norm ?_
    refine w_seq ?_
    refine w_ops ?_
    refine wo_step (v := (.i .i64 x5_1)) (s_pure (p_mv g5)) ?_
    refine wo_step (v := (.i .i64 x5_1)) (s_pure (p_mv rfl)) ?_
    refine wo_nil ?_
    refine nx_norm ?_
    refine w_ret ?_
    exact qf ret_ok (rt rfl rn) hr

/- dibber/share.costs -/

def g71 (M : Means) (ro : List ABlk) (v0 : AVal) (x1 : Int) (m0 : Mm) : Option (AVal × Heap × Nat × Nat) :=
  bindP (stepM ro m0 (.bx 22 1 (.c v0))) fun v2 m_1 =>
  bindP (stepM ro m_1 (.bx 3 1 (.c (.i .i64 x1)))) fun v3 m_2 =>
  bindO (some (AVal.fn 97 [] [v2, v3])) fun v5 =>
  finM m0.h.length (tupA [v5]) m_2

theorem g71_ok {ro : List ABlk} {O : Caller} {M : Means} (hM : M.Ok ⟨F, O⟩ ro) {v0 x1 h r} (ho : O 71 [v0, (.i .i64 x1)] h = none) (hr : g71 M ro v0 x1 ⟨h, h.length, h.length⟩ = some r) : callX ⟨F, O⟩ ro 71 [v0, (.i .i64 x1)] h = some r := by
  refine callX_of (F := ⟨F, O⟩) (fn := fn71) (g := g71 M ro v0 x1) ho rfl rfl hr ?_
  clear ho
  clear hr
  intro m0 t0 ht hr
  have g0 : t0.get 0 = v0 := ht 0
  have g1 : t0.get 1 = (.i .i64 x1) := ht 1
  clear ht
  unfold g71 at hr
  refine w_seq ?_
  refine w_ops ?_
  have hq := bindP_inv hr
  clear hr
  obtain ⟨v2, m_1, e2, hr⟩ := hq
  refine wo_step (v := v2) (s_bx g0 e2) ?_
  have hq := bindP_inv hr
  clear hr
  obtain ⟨v3, m_2, e3, hr⟩ := hq
  refine wo_step (v := v3) (s_bx g1 e3) ?_
  refine wo_step (v := AVal.nfn) (s_pure (p_mv rfl)) ?_
  refine wo_nil ?_
  refine nx_norm ?_
  refine w_seq ?_
  refine w_ops ?_
  have hq := bindO_inv hr
  clear hr
  obtain ⟨v5, e5, hr⟩ := hq
  refine wo_step (v := v5) (s_pure ((o_mkfn mn (mc rfl (mc rfl mn))).trans e5)) ?_
  refine wo_step (v := v5) (s_pure (p_mv rfl)) ?_
  refine wo_nil ?_
  refine nx_norm ?_
  refine w_ret ?_
  exact qf ret_ok (rt rfl rn) hr

/- dibber/share.inside -/

def g73 (M : Means) (ro : List ABlk) (x0 : Int) (m0 : Mm) : Option (AVal × Heap × Nat × Nat) :=
  bindP (stepM ro m0 (.bx 3 1 (.c (.i .i64 x0)))) fun v1 m_1 =>
  bindO (some (AVal.fn 98 [] [v1])) fun v3 =>
  finM m0.h.length (tupA [v3]) m_1

theorem g73_ok {ro : List ABlk} {O : Caller} {M : Means} (hM : M.Ok ⟨F, O⟩ ro) {x0 h r} (ho : O 73 [(.i .i64 x0)] h = none) (hr : g73 M ro x0 ⟨h, h.length, h.length⟩ = some r) : callX ⟨F, O⟩ ro 73 [(.i .i64 x0)] h = some r := by
  refine callX_of (F := ⟨F, O⟩) (fn := fn73) (g := g73 M ro x0) ho rfl rfl hr ?_
  clear ho
  clear hr
  intro m0 t0 ht hr
  have g0 : t0.get 0 = (.i .i64 x0) := ht 0
  clear ht
  unfold g73 at hr
  refine w_seq ?_
  refine w_ops ?_
  have hq := bindP_inv hr
  clear hr
  obtain ⟨v1, m_1, e1, hr⟩ := hq
  refine wo_step (v := v1) (s_bx g0 e1) ?_
  refine wo_step (v := AVal.nfn) (s_pure (p_mv rfl)) ?_
  refine wo_nil ?_
  refine nx_norm ?_
  refine w_seq ?_
  refine w_ops ?_
  have hq := bindO_inv hr
  clear hr
  obtain ⟨v3, e3, hr⟩ := hq
  refine wo_step (v := v3) (s_pure ((o_mkfn mn (mc rfl mn)).trans e3)) ?_
  refine wo_step (v := v3) (s_pure (p_mv rfl)) ?_
  refine wo_nil ?_
  refine nx_norm ?_
  refine w_ret ?_
  exact qf ret_ok (rt rfl rn) hr

/- dibber/share.around -/

def g74 (M : Means) (ro : List ABlk) (x0 : Int) (m0 : Mm) : Option (AVal × Heap × Nat × Nat) :=
  bindP (stepM ro m0 (.bx 3 1 (.c (.i .i64 x0)))) fun v1 m_1 =>
  bindO (some (AVal.fn 99 [] [v1])) fun v3 =>
  finM m0.h.length (tupA [v3]) m_1

theorem g74_ok {ro : List ABlk} {O : Caller} {M : Means} (hM : M.Ok ⟨F, O⟩ ro) {x0 h r} (ho : O 74 [(.i .i64 x0)] h = none) (hr : g74 M ro x0 ⟨h, h.length, h.length⟩ = some r) : callX ⟨F, O⟩ ro 74 [(.i .i64 x0)] h = some r := by
  refine callX_of (F := ⟨F, O⟩) (fn := fn74) (g := g74 M ro x0) ho rfl rfl hr ?_
  clear ho
  clear hr
  intro m0 t0 ht hr
  have g0 : t0.get 0 = (.i .i64 x0) := ht 0
  clear ht
  unfold g74 at hr
  refine w_seq ?_
  refine w_ops ?_
  have hq := bindP_inv hr
  clear hr
  obtain ⟨v1, m_1, e1, hr⟩ := hq
  refine wo_step (v := v1) (s_bx g0 e1) ?_
  refine wo_step (v := AVal.nfn) (s_pure (p_mv rfl)) ?_
  refine wo_nil ?_
  refine nx_norm ?_
  refine w_seq ?_
  refine w_ops ?_
  have hq := bindO_inv hr
  clear hr
  obtain ⟨v3, e3, hr⟩ := hq
  refine wo_step (v := v3) (s_pure ((o_mkfn mn (mc rfl mn)).trans e3)) ?_
  refine wo_step (v := v3) (s_pure (p_mv rfl)) ?_
  refine wo_nil ?_
  refine nx_norm ?_
  refine w_ret ?_
  exact qf ret_ok (rt rfl rn) hr

/- dibber/share.lastFirst -/
abbrev g75_I0 (x0 : Int) (v6 : AVal) (x8 : Int) (s : Int × Mm) (m1 : Mm) (t1 : Tr) : Prop :=
  match s with
  | (x9, m_2) => m_2 = m1 ∧ t1.get 9 = (.i .i64 x9) ∧ t1.get 0 = (.i .i64 x0) ∧ t1.get 3 = v6 ∧ t1.get 8 = (.i .i64 x8)
abbrev g75_J0 (x0 : Int) (v6 : AVal) (x8 : Int) (o : Mm) (e : AExit) (m1 : Mm) (t1 : Tr) : Prop :=
  match o with
  | mo => e = (.exit 0) ∧ mo = m1 ∧ t1.get 3 = v6
def g75_b0 (M : Means) (ro : List ABlk) (x0 : Int) (v6 : AVal) (x8 : Int) (x9 : Int) (m_2 : Mm) : Option ((Int × Mm) ⊕ (Mm)) :=
  forceB (ltI x9 x8) fun c10 =>
  cond c10 (
    forceI (wr .i64 (x0 - 1)) fun x15 =>
    forceI (wr .i64 (x15 - x9)) fun x17 =>
    bindO (evP .e (.ixS 1 (.c v6) (.c (.i .i64 x9)))) fun v18 =>
    bindP (stepM ro m_2 (.st 1 (.c v18) (.c (.i .i64 x17)))) fun vn m_3 =>
    forceI (wr .i64 (x9 + 1)) fun x19 =>
    some (.inl (x19, m_3))) (
    some (.inr m_2))
def g75 (M : Means) (ro : List ABlk) (x0 : Int) (m0 : Mm) : Option (AVal × Heap × Nat × Nat) :=
  bindP (stepM ro m0 (.mk 3 1 8 [(AVal.i IntKind.i64 0)] (.c (.i .i64 x0)) (.c (.i .i64 x0)))) fun v6 m_1 =>
  bindO (evP .e (.len false (.c v6))) fun v8 =>
  asI .i64 v8 fun x8 =>
  bindO (M.loop (S := Int × Mm) (R := Mm) (fun s => g75_b0 M ro x0 v6 x8 s.1 s.2) (0, m_1)) fun m_4 =>
  finM m0.h.length (tupA [v6]) m_4

theorem g75_ok {ro : List ABlk} {O : Caller} {M : Means} (hM : M.Ok ⟨F, O⟩ ro) {x0 h r} (ho : O 75 [(.i .i64 x0)] h = none) (hr : g75 M ro x0 ⟨h, h.length, h.length⟩ = some r) : callX ⟨F, O⟩ ro 75 [(.i .i64 x0)] h = some r := by
  refine callX_of (F := ⟨F, O⟩) (fn := fn75) (g := g75 M ro x0) ho rfl rfl hr ?_
  clear ho
  clear hr
  intro m0 t0 ht hr
  have g0 : t0.get 0 = (.i .i64 x0) := ht 0
  clear ht
  unfold g75 at hr
  refine w_seq ?_
  refine w_ops ?_
  refine wo_step (v := AVal.nsl) (s_pure (p_mv rfl)) ?_
  refine wo_nil ?_
  refine nx_norm ?_
  refine w_seq ?_
  refine w_ops ?_
  refine wo_step (v := (.i .i64 x0)) (s_pure (p_mv g0)) ?_
  have hq := bindP_inv hr
  clear hr
  obtain ⟨v6, m_1, e6, hr⟩ := hq
  refine wo_step (v := v6) (s_mk rfl rfl e6) ?_
  refine wo_step (v := v6) (s_pure (p_mv rfl)) ?_
  refine wo_nil ?_
  refine nx_norm ?_
  refine w_seq ?_
  refine w_seq ?_
  refine w_ops ?_
  refine wo_step (v := v6) (s_pure (p_mv rfl)) ?_
  have hq := bindO_inv hr
  clear hr
  obtain ⟨v8, e8, hr⟩ := hq
  have hq := asI_inv hr
  clear hr
  obtain ⟨x8, rfl, hr⟩ := hq
  refine wo_step (v := (.i .i64 x8)) (s_pure (o_len rfl e8)) ?_
  refine wo_step (v := (.i .i64 0)) (s_pure (p_mv rfl)) ?_
  refine wo_nil ?_
  refine nx_norm ?_
  refine w_block ?_
  have hq := bindO_inv hr
  clear hr
  obtain ⟨o, hl, hr⟩ := hq
  obtain ⟨n, hl⟩ := hM.loop _ _ _ hl
  refine jp_mono (w_loop _ (g75_I0 x0 v6 x8) (g75_J0 x0 v6 x8) ?_ n _ _ _ _ hl ⟨rfl, gl rfl, gl g0, gl rfl, gl rfl⟩) ?_
  · clear hr hl
    intro s mm_1 t_1 o hi hr
    obtain ⟨x9, m_2⟩ := s
    obtain ⟨rfl, g9, g0, g3, g8⟩ := hi
    unfold g75_b0 at hr
    refine w_seq ?_
    refine w_ops ?_
    have hq := forceB_inv hr
    clear hr
    obtain ⟨c10, e10, hr⟩ := hq
    refine wo_step (v := (.b c10)) (s_pure (p_bin g9 g8 (b_lss.trans (cb e10)))) ?_
    refine wo_nil ?_
    refine nx_norm ?_
    refine w_seq ?_
    have hq := cond_inv hr
    clear hr
    rcases hq with ⟨rfl, hr⟩ | ⟨rfl, hr⟩
    · refine w_condT rfl ?_
      refine w_skip ?_
      refine nx_norm ?_
      refine w_seq ?_
      refine w_block ?_
      refine w_seq ?_
      refine w_ops ?_
      refine wo_step (v := (.i .i64 x9)) (s_pure (p_mv g9)) ?_
      refine wo_step (v := (.i .i64 x9)) (s_pure (p_mv rfl)) ?_
      refine wo_nil ?_
      refine nx_norm ?_
      refine w_ops ?_
      refine wo_step (v := v6) (s_pure (p_mv g3)) ?_
      refine wo_step (v := (.i .i64 x9)) (s_pure (p_mv rfl)) ?_
      refine wo_step (v := (.i .i64 x0)) (s_pure (p_mv g0)) ?_
      have hq := forceI_inv hr
      clear hr
      obtain ⟨x15, e15, hr⟩ := hq
      refine wo_step (v := (.i .i64 x15)) (s_pure (p_bin rfl rfl (b_sub.trans (ci e15)))) ?_
      refine wo_step (v := (.i .i64 x9)) (s_pure (p_mv rfl)) ?_
      have hq := forceI_inv hr
      clear hr
      obtain ⟨x17, e17, hr⟩ := hq
      refine wo_step (v := (.i .i64 x17)) (s_pure (p_bin rfl rfl (b_sub.trans (ci e17)))) ?_
      have hq := bindO_inv hr
      clear hr
      obtain ⟨v18, e18, hr⟩ := hq
      refine wo_step (v := v18) (s_pure (o_ixS rfl rfl e18)) ?_
      have hq := bindP_inv hr
      clear hr
      obtain ⟨vn, m_3, en, hr⟩ := hq
      refine wo_stepN (s_st rfl rfl en) ?_
      refine wo_nil ?_
      refine bk_norm ?_
      refine nx_norm ?_
      refine w_ops ?_
      have hq := forceI_inv hr
      clear hr
      obtain ⟨x19, e19, hr⟩ := hq
      refine wo_step (v := (.i .i64 x19)) (s_pure (p_bin g9 rfl (b_add.trans (ci e19)))) ?_
      refine wo_step (v := (.i .i64 x19)) (s_pure (p_mv rfl)) ?_
      refine wo_nil ?_
      cases hr
      exact ⟨_, _, rfl, rfl, rfl, gl rfl, gl g0, gl g3, gl g8⟩
    · refine w_condF rfl ?_
      refine w_exit ?_
      refine nx_exit ?_
      cases hr
      exact ⟨_, _, rfl, ne_norm_exit, rfl, rfl, gl g3⟩
  · obtain ⟨m_4, ho⟩ : ∃ z, z = o := ⟨_, rfl⟩
    subst ho
    rintro _ mm t_2 ⟨rfl, rfl, g3⟩
    refine bk_hit ?_
    refine nx_norm ?_
    refine w_seq ?_
    refine w_ops ?_
    refine wo_step (v := v6) (s_pure (p_mv g3)) ?_
    refine wo_step (v := v6) (s_pure (p_mv rfl)) ?_
    refine wo_nil ?_
    refine nx_norm ?_
    refine w_ret ?_
    exact qf ret_ok (rt rfl rn) hr

/- dibber/share.isCount -/
abbrev g84_J0 (m0 : Mm) (o : Bool) (m1 : Mm) (t1 : Tr) : Prop :=
  match o with
  | c8 => m0 = m1 ∧ t1.get 8 = (.b c8)
def g84 (M : Means) (ro : List ABlk) (x0 : Int) (m0 : Mm) : Option (AVal × Heap × Nat × Nat) :=
  forceB (!ltI x0 1) fun c4 =>
  bindO (cond c4 (
    forceB (!ltI 6 x0) fun c7 =>
    some c7) (
    some false)) fun c8 =>
  finM m0.h.length (tupA [(.b c8)]) m0

theorem g84_ok {ro : List ABlk} {O : Caller} {M : Means} (hM : M.Ok ⟨F, O⟩ ro) {x0 h r} (ho : O 84 [(.i .i64 x0)] h = none) (hr : g84 M ro x0 ⟨h, h.length, h.length⟩ = some r) : callX ⟨F, O⟩ ro 84 [(.i .i64 x0)] h = some r := by
  refine callX_of (F := ⟨F, O⟩) (fn := fn84) (g := g84 M ro x0) ho rfl rfl hr ?_
  clear ho
  clear hr
  intro m0 t0 ht hr
  have g0 : t0.get 0 = (.i .i64 x0) := ht 0
  clear ht
  unfold g84 at hr
  refine w_seq ?_
  refine w_ops ?_
  refine wo_step (v := (.b false)) (s_pure (p_mv rfl)) ?_
  refine wo_nil ?_
  refine nx_norm ?_
  refine w_seq ?_
  refine w_ops ?_
  refine wo_step (v := (.i .i64 x0)) (s_pure (p_mv g0)) ?_
  have hq := forceB_inv hr
  clear hr
  obtain ⟨c4, e4, hr⟩ := hq
  refine wo_step (v := (.b c4)) (s_pure (p_bin rfl rfl (b_leq.trans (cb e4)))) ?_
  refine wo_step (v := (.b c4)) (s_pure (p_mv rfl)) ?_
  have hq := bindO_inv hr
  clear hr
  obtain ⟨o, hr, hk⟩ := hq
  refine wo_join 3 (g84_J0 m0 o) ?_ ?_
  · clear hk
    have hq := cond_inv hr
    clear hr
    rcases hq with ⟨rfl, hr⟩ | ⟨rfl, hr⟩
    · refine wo_take (v := (.i .i64 x0)) rfl (s_pure (p_mv g0)) ?_
      have hq := forceB_inv hr
      clear hr
      obtain ⟨c7, e7, hr⟩ := hq
      refine wo_take (v := (.b c7)) rfl (s_pure (p_bin rfl rfl (b_leq.trans (cb e7)))) ?_
      refine wo_step (v := (.b c7)) (s_pure (p_pickT rfl rfl)) ?_
      refine wo_nil ?_
      cases hr
      exact ⟨_, _, rfl, rfl, gl rfl⟩
    · refine wo_skip (v := (.b false)) rfl rfl ?_
      refine wo_skip (v := (.b false)) rfl rfl ?_
      refine wo_step (v := (.b false)) (s_pure (p_pickF rfl rfl)) ?_
      refine wo_nil ?_
      cases hr
      exact ⟨_, _, rfl, rfl, gl rfl⟩
  · clear hr
    have hr := hk
    clear hk
    obtain ⟨c8, ho⟩ : ∃ z, z = o := ⟨_, rfl⟩
    subst ho
    rintro mm t_1 ⟨rfl, g8⟩
    refine wo_step (v := (.b c8)) (s_pure (p_mv g8)) ?_
    refine wo_nil ?_
    refine nx_norm ?_
    refine w_ret ?_
    exact qf ret_ok (rt rfl rn) hr

/- dibber/share.allWithin -/
abbrev g87_I0 (x1 : Int) (v0 : AVal) (x8 : Int) (s : Int × Mm) (m1 : Mm) (t1 : Tr) : Prop :=
  match s with
  | (x9, m_1) => m_1 = m1 ∧ t1.get 9 = (.i .i64 x9) ∧ t1.get 1 = (.i .i64 x1) ∧ t1.get 7 = v0 ∧ t1.get 8 = (.i .i64 x8)
abbrev g87_J0 (x1 : Int) (v0 : AVal) (x8 : Int) (o : (Mm ⊕ (Bool × Mm))) (e : AExit) (m1 : Mm) (t1 : Tr) : Prop :=
  match o with
  | (.inl mo) => e = (.exit 0) ∧ mo = m1
  | (.inr (y4, mo)) => e = .ret ∧ mo = m1 ∧ t1.get 4 = (.b y4)
def g87_b0 (M : Means) (ro : List ABlk) (x1 : Int) (v0 : AVal) (x8 : Int) (x9 : Int) (m_1 : Mm) : Option ((Int × Mm) ⊕ ((Mm ⊕ (Bool × Mm)))) :=
  forceB (ltI x9 x8) fun c10 =>
  cond c10 (
    bindO (evP .e (.ixS 1 (.c v0) (.c (.i .i64 x9)))) fun v11 =>
    bindO (ldM ro m_1 true 1 v11) fun v12 =>
    asI .i64 v12 fun x12 =>
    bindP (callM M.call m_1 50 [(.i .i64 x12), (.i .i64 x1)]) fun v15 m_2 =>
    asB v15 fun c15 =>
    forceB (!c15) fun c16 =>
    cond c16 (
      some (.inr (.inr (false, m_2)))) (
      forceI (wr .i64 (x9 + 1)) fun x17 =>
      some (.inl (x17, m_2)))) (
    some (.inr (.inl m_1)))
def g87 (M : Means) (ro : List ABlk) (v0 : AVal) (x1 : Int) (m0 : Mm) : Option (AVal × Heap × Nat × Nat) :=
  bindO (evP .e (.len false (.c v0))) fun v8 =>
  asI .i64 v8 fun x8 =>
  bindO (M.loop (S := Int × Mm) (R := (Mm ⊕ (Bool × Mm))) (fun s => g87_b0 M ro x1 v0 x8 s.1 s.2) (0, m0)) fun o => match o with
  | (.inl m_3) =>
    finM m0.h.length (tupA [(.b true)]) m_3
  | (.inr (c4, m_4)) =>
    finM m0.h.length (tupA [(.b c4)]) m_4

theorem g87_ok {ro : List ABlk} {O : Caller} {M : Means} (hM : M.Ok ⟨F, O⟩ ro) {v0 x1 h r} (ho : O 87 [v0, (.i .i64 x1)] h = none) (hr : g87 M ro v0 x1 ⟨h, h.length, h.length⟩ = some r) : callX ⟨F, O⟩ ro 87 [v0, (.i .i64 x1)] h = some r := by
  refine callX_of (F := ⟨F, O⟩) (fn := fn87) (g := g87 M ro v0 x1) ho rfl rfl hr ?_
  clear ho
  clear hr
  intro m0 t0 ht hr
  have g0 : t0.get 0 = v0 := ht 0
  have g1 : t0.get 1 = (.i .i64 x1) := ht 1
  clear ht
  unfold g87 at hr
  refine w_seq ?_
  refine w_ops ?_
  refine wo_step (v := (.b false)) (s_pure (p_mv rfl)) ?_
  refine wo_nil ?_
  refine nx_norm ?_
  refine w_seq ?_
  refine w_seq ?_
  refine w_ops ?_
  refine wo_step (v := v0) (s_pure (p_mv g0)) ?_
  have hq := bindO_inv hr
  clear hr
  obtain ⟨v8, e8, hr⟩ := hq
  have hq := asI_inv hr
  clear hr
  obtain ⟨x8, rfl, hr⟩ := hq
  refine wo_step (v := (.i .i64 x8)) (s_pure (o_len rfl e8)) ?_
  refine wo_step (v := (.i .i64 0)) (s_pure (p_mv rfl)) ?_
  refine wo_nil ?_
  refine nx_norm ?_
  refine w_block ?_
  have hq := bindO_inv hr
  clear hr
  obtain ⟨o, hl, hr⟩ := hq
  obtain ⟨n, hl⟩ := hM.loop _ _ _ hl
  refine jp_mono (w_loop _ (g87_I0 x1 v0 x8) (g87_J0 x1 v0 x8) ?_ n _ _ _ _ hl ⟨rfl, gl rfl, gl g1, gl rfl, gl rfl⟩) ?_
  · clear hr hl
    intro s mm_2 t_1 o hi hr
    obtain ⟨x9, m_1⟩ := s
    obtain ⟨rfl, g9, g1, g7, g8⟩ := hi
    unfold g87_b0 at hr
    refine w_seq ?_
    refine w_ops ?_
    have hq := forceB_inv hr
    clear hr
    obtain ⟨c10, e10, hr⟩ := hq
    refine wo_step (v := (.b c10)) (s_pure (p_bin g9 g8 (b_lss.trans (cb e10)))) ?_
    refine wo_nil ?_
    refine nx_norm ?_
    refine w_seq ?_
    have hq := cond_inv hr
    clear hr
    rcases hq with ⟨rfl, hr⟩ | ⟨rfl, hr⟩
    · refine w_condT rfl ?_
      refine w_skip ?_
      refine nx_norm ?_
      refine w_seq ?_
      refine w_block ?_
      refine w_seq ?_
      refine w_ops ?_
      have hq := bindO_inv hr
      clear hr
      obtain ⟨v11, e11, hr⟩ := hq
      refine wo_step (v := v11) (s_pure (o_ixS g7 g9 e11)) ?_
      have hq := bindO_inv hr
      clear hr
      obtain ⟨v12, e12, hr⟩ := hq
      have hq := asI_inv hr
      clear hr
      obtain ⟨x12, rfl, hr⟩ := hq
      refine wo_step (v := (.i .i64 x12)) (s_ld rfl e12) ?_
      refine wo_step (v := (.i .i64 x12)) (s_pure (p_mv rfl)) ?_
      refine wo_nil ?_
      refine nx_norm ?_
      refine w_seq ?_
      refine w_ops ?_
      refine wo_step (v := (.i .i64 x12)) (s_pure (p_mv rfl)) ?_
      refine wo_step (v := (.i .i64 x1)) (s_pure (p_mv g1)) ?_
      have hq := bindP_inv hr
      clear hr
      obtain ⟨v15, m_2, e15, hr⟩ := hq
      have hq := asB_inv hr
      clear hr
      obtain ⟨c15, rfl, hr⟩ := hq
      refine wo_step (v := (.b c15)) (s_call (mc rfl (mc rfl mn)) (callM_le hM.call e15)) ?_
      have hq := forceB_inv hr
      clear hr
      obtain ⟨c16, e16, hr⟩ := hq
      refine wo_step (v := (.b c16)) (s_pure ((p_not rfl).trans (cb e16))) ?_
      refine wo_nil ?_
      refine nx_norm ?_
      have hq := cond_inv hr
      clear hr
      rcases hq with ⟨rfl, hr⟩ | ⟨rfl, hr⟩
      · refine w_condT rfl ?_
        refine w_seq ?_
        refine w_ops ?_
        refine wo_step (v := (.b false)) (s_pure (p_mv rfl)) ?_
        refine wo_nil ?_
        refine nx_norm ?_
        refine w_ret ?_
        refine bk_ret ?_
        refine nx_ret ?_
        cases hr
        exact ⟨_, _, rfl, ne_norm_ret, rfl, rfl, gl rfl⟩
      · refine w_condF rfl ?_
        refine w_skip ?_
        refine bk_norm ?_
        refine nx_norm ?_
        refine w_ops ?_
        have hq := forceI_inv hr
        clear hr
        obtain ⟨x17, e17, hr⟩ := hq
        refine wo_step (v := (.i .i64 x17)) (s_pure (p_bin g9 rfl (b_add.trans (ci e17)))) ?_
        refine wo_step (v := (.i .i64 x17)) (s_pure (p_mv rfl)) ?_
        refine wo_nil ?_
        cases hr
        exact ⟨_, _, rfl, rfl, rfl, gl rfl, gl g1, gl g7, gl g8⟩
    · refine w_condF rfl ?_
      refine w_exit ?_
      refine nx_exit ?_
      cases hr
      exact ⟨_, _, rfl, ne_norm_exit, rfl, rfl⟩
  · rcases o with o | o
    · obtain ⟨m_3, ho⟩ : ∃ z, z = o := ⟨_, rfl⟩
      subst ho
      rintro _ mm t_2 ⟨rfl, rfl⟩
      refine bk_hit ?_
      refine nx_norm ?_
      refine w_seq ?_
      refine w_ops ?_
      refine wo_step (v := (.b true)) (s_pure (p_mv rfl)) ?_
      refine wo_nil ?_
      refine nx_norm ?_
      refine w_ret ?_
      exact qf ret_ok (rt rfl rn) hr
    · obtain ⟨c4, m_4⟩ := o
      rintro _ mm_1 t_3 ⟨rfl, rfl, g4⟩
      refine bk_ret ?_
      refine nx_ret ?_
      exact qf ret_ok (rt g4 rn) hr

/- dibber/share.passes -/
abbrev g88_I0 (x0 : Int) (v1 : AVal) (x8 : Int) (s : Int × Mm) (m1 : Mm) (t1 : Tr) : Prop :=
  match s with
  | (x9, m_1) => m_1 = m1 ∧ t1.get 9 = (.i .i64 x9) ∧ t1.get 0 = (.i .i64 x0) ∧ t1.get 7 = v1 ∧ t1.get 8 = (.i .i64 x8)
abbrev g88_J0 (x0 : Int) (v1 : AVal) (x8 : Int) (o : (Mm ⊕ (Bool × Mm))) (e : AExit) (m1 : Mm) (t1 : Tr) : Prop :=
  match o with
  | (.inl mo) => e = (.exit 0) ∧ mo = m1
  | (.inr (y4, mo)) => e = .ret ∧ mo = m1 ∧ t1.get 4 = (.b y4)
def g88_b0 (M : Means) (ro : List ABlk) (x0 : Int) (v1 : AVal) (x8 : Int) (x9 : Int) (m_1 : Mm) : Option ((Int × Mm) ⊕ ((Mm ⊕ (Bool × Mm)))) :=
  forceB (ltI x9 x8) fun c10 =>
  cond c10 (
    bindO (evP .e (.ixS 1 (.c v1) (.c (.i .i64 x9)))) fun v11 =>
    bindO (ldM ro m_1 true 1 v11) fun v12 =>
    bindP (callyM M.call M.round m_1 v12 [(.i .i64 x0)]) fun v15 m_2 =>
    asB v15 fun c15 =>
    forceB (!c15) fun c16 =>
    cond c16 (
      some (.inr (.inr (false, m_2)))) (
      forceI (wr .i64 (x9 + 1)) fun x17 =>
      some (.inl (x17, m_2)))) (
    some (.inr (.inl m_1)))
def g88 (M : Means) (ro : List ABlk) (x0 : Int) (v1 : AVal) (m0 : Mm) : Option (AVal × Heap × Nat × Nat) :=
  bindO (evP .e (.len false (.c v1))) fun v8 =>
  asI .i64 v8 fun x8 =>
  bindO (M.loop (S := Int × Mm) (R := (Mm ⊕ (Bool × Mm))) (fun s => g88_b0 M ro x0 v1 x8 s.1 s.2) (0, m0)) fun o => match o with
  | (.inl m_3) =>
    finM m0.h.length (tupA [(.b true)]) m_3
  | (.inr (c4, m_4)) =>
    finM m0.h.length (tupA [(.b c4)]) m_4

theorem g88_ok {ro : List ABlk} {O : Caller} {M : Means} (hM : M.Ok ⟨F, O⟩ ro) {x0 v1 h r} (ho : O 88 [(.i .i64 x0), v1] h = none) (hr : g88 M ro x0 v1 ⟨h, h.length, h.length⟩ = some r) : callX ⟨F, O⟩ ro 88 [(.i .i64 x0), v1] h = some r := by
  refine callX_of (F := ⟨F, O⟩) (fn := fn88) (g := g88 M ro x0 v1) ho rfl rfl hr ?_
  clear ho
  clear hr
  intro m0 t0 ht hr
  have g0 : t0.get 0 = (.i .i64 x0) := ht 0
  have g1 : t0.get 1 = v1 := ht 1
  clear ht
  unfold g88 at hr
  refine w_seq ?_
  refine w_ops ?_
  refine wo_step (v := (.b false)) (s_pure (p_mv rfl)) ?_
  refine wo_nil ?_
  refine nx_norm ?_
  refine w_seq ?_
  refine w_seq ?_
  refine w_ops ?_
  refine wo_step (v := v1) (s_pure (p_mv g1)) ?_
  have hq := bindO_inv hr
  clear hr
  obtain ⟨v8, e8, hr⟩ := hq
  have hq := asI_inv hr
  clear hr
  obtain ⟨x8, rfl, hr⟩ := hq
  refine wo_step (v := (.i .i64 x8)) (s_pure (o_len rfl e8)) ?_
  refine wo_step (v := (.i .i64 0)) (s_pure (p_mv rfl)) ?_
  refine wo_nil ?_
  refine nx_norm ?_
  refine w_block ?_
  have hq := bindO_inv hr
  clear hr
  obtain ⟨o, hl, hr⟩ := hq
  obtain ⟨n, hl⟩ := hM.loop _ _ _ hl
  refine jp_mono (w_loop _ (g88_I0 x0 v1 x8) (g88_J0 x0 v1 x8) ?_ n _ _ _ _ hl ⟨rfl, gl rfl, gl g0, gl rfl, gl rfl⟩) ?_
  · clear hr hl
    intro s mm_2 t_1 o hi hr
    obtain ⟨x9, m_1⟩ := s
    obtain ⟨rfl, g9, g0, g7, g8⟩ := hi
    unfold g88_b0 at hr
    refine w_seq ?_
    refine w_ops ?_
    have hq := forceB_inv hr
    clear hr
    obtain ⟨c10, e10, hr⟩ := hq
    refine wo_step (v := (.b c10)) (s_pure (p_bin g9 g8 (b_lss.trans (cb e10)))) ?_
    refine wo_nil ?_
    refine nx_norm ?_
    refine w_seq ?_
    have hq := cond_inv hr
    clear hr
    rcases hq with ⟨rfl, hr⟩ | ⟨rfl, hr⟩
    · refine w_condT rfl ?_
      refine w_skip ?_
      refine nx_norm ?_
      refine w_seq ?_
      refine w_block ?_
      refine w_seq ?_
      refine w_ops ?_
      have hq := bindO_inv hr
      clear hr
      obtain ⟨v11, e11, hr⟩ := hq
      refine wo_step (v := v11) (s_pure (o_ixS g7 g9 e11)) ?_
      have hq := bindO_inv hr
      clear hr
      obtain ⟨v12, e12, hr⟩ := hq
      refine wo_step (v := v12) (s_ld rfl e12) ?_
      refine wo_step (v := v12) (s_pure (p_mv rfl)) ?_
      refine wo_nil ?_
      refine nx_norm ?_
      refine w_seq ?_
      refine w_opsY ?_
      refine wy_step (v := v12) (y_C (s_pure (p_mv rfl))) ?_
      refine wy_step (v := (.i .i64 x0)) (y_C (s_pure (p_mv g0))) ?_
      have hq := bindP_inv hr
      clear hr
      obtain ⟨v15, m_2, e15, hr⟩ := hq
      have hq := asB_inv hr
      clear hr
      obtain ⟨c15, rfl, hr⟩ := hq
      refine wy_step (v := (.b c15)) (y_callv rfl (mc rfl mn) (callyM_le hM.call hM.round e15)) ?_
      have hq := forceB_inv hr
      clear hr
      obtain ⟨c16, e16, hr⟩ := hq
      refine wy_step (v := (.b c16)) (y_C (s_pure ((p_not rfl).trans (cb e16)))) ?_
      refine wy_nil ?_
      refine nx_norm ?_
      have hq := cond_inv hr
      clear hr
      rcases hq with ⟨rfl, hr⟩ | ⟨rfl, hr⟩
      · refine w_condT rfl ?_
        refine w_seq ?_
        refine w_ops ?_
        refine wo_step (v := (.b false)) (s_pure (p_mv rfl)) ?_
        refine wo_nil ?_
        refine nx_norm ?_
        refine w_ret ?_
        refine bk_ret ?_
        refine nx_ret ?_
        cases hr
        exact ⟨_, _, rfl, ne_norm_ret, rfl, rfl, gl rfl⟩
      · refine w_condF rfl ?_
        refine w_skip ?_
        refine bk_norm ?_
        refine nx_norm ?_
        refine w_ops ?_
        have hq := forceI_inv hr
        clear hr
        obtain ⟨x17, e17, hr⟩ := hq
        refine wo_step (v := (.i .i64 x17)) (s_pure (p_bin g9 rfl (b_add.trans (ci e17)))) ?_
        refine wo_step (v := (.i .i64 x17)) (s_pure (p_mv rfl)) ?_
        refine wo_nil ?_
        cases hr
        exact ⟨_, _, rfl, rfl, rfl, gl rfl, gl g0, gl g7, gl g8⟩
    · refine w_condF rfl ?_
      refine w_exit ?_
      refine nx_exit ?_
      cases hr
      exact ⟨_, _, rfl, ne_norm_exit, rfl, rfl⟩
  · rcases o with o | o
    · obtain ⟨m_3, ho⟩ : ∃ z, z = o := ⟨_, rfl⟩
      subst ho
      rintro _ mm t_2 ⟨rfl, rfl⟩
      refine bk_hit ?_
      refine nx_norm ?_
      refine w_seq ?_
      refine w_ops ?_
      refine wo_step (v := (.b true)) (s_pure (p_mv rfl)) ?_
      refine wo_nil ?_
      refine nx_norm ?_
      refine w_ret ?_
      exact qf ret_ok (rt rfl rn) hr
    · obtain ⟨c4, m_4⟩ := o
      rintro _ mm_1 t_3 ⟨rfl, rfl, g4⟩
      refine bk_ret ?_
      refine nx_ret ?_
      exact qf ret_ok (rt g4 rn) hr

/- dibber/share.above-1 -/

def g89 (M : Means) (ro : List ABlk) (x0 : Int) (v1 : AVal) (m0 : Mm) : Option (AVal × Heap × Nat × Nat) :=
  bindO (ldM ro m0 true 1 v1) fun v5 =>
  asI .i64 v5 fun x5 =>
  forceB (ltI x5 x0) fun c6 =>
  finM m0.h.length (tupA [(.b c6)]) m0

theorem g89_ok {ro : List ABlk} {O : Caller} {M : Means} (hM : M.Ok ⟨F, O⟩ ro) {x0 v1 h r} (ho : O 89 [(.i .i64 x0), v1] h = none) (hr : g89 M ro x0 v1 ⟨h, h.length, h.length⟩ = some r) : callX ⟨F, O⟩ ro 89 [(.i .i64 x0), v1] h = some r := by
  refine callX_of (F := ⟨F, O⟩) (fn := fn89) (g := g89 M ro x0 v1) ho rfl rfl hr ?_
  clear ho
  clear hr
  intro m0 t0 ht hr
  have g0 : t0.get 0 = (.i .i64 x0) := ht 0
  have g1 : t0.get 1 = v1 := ht 1
  clear ht
  unfold g89 at hr
  refine w_seq ?_
  refine w_ops ?_
  refine wo_step (v := (.b false)) (s_pure (p_mv rfl)) ?_
  refine wo_nil ?_
  refine nx_norm ?_
  refine w_seq ?_
  refine w_ops ?_
  refine wo_step (v := (.i .i64 x0)) (s_pure (p_mv g0)) ?_
  have hq := bindO_inv hr
  clear hr
  obtain ⟨v5, e5, hr⟩ := hq
  have hq := asI_inv hr
  clear hr
  obtain ⟨x5, rfl, hr⟩ := hq
  refine wo_step (v := (.i .i64 x5)) (s_ld g1 e5) ?_
  have hq := forceB_inv hr
  clear hr
  obtain ⟨c6, e6, hr⟩ := hq
  refine wo_step (v := (.b c6)) (s_pure (p_bin rfl rfl (b_gtr.trans (cb e6)))) ?_
  refine wo_step (v := (.b c6)) (s_pure (p_mv rfl)) ?_
  refine wo_nil ?_
  refine nx_norm ?_
  refine w_ret ?_
  exact qf ret_ok (rt rfl rn) hr

/- dibber/share.breaks-1 -/

def g90 (M : Means) (ro : List ABlk) (x0 : Int) (v1 : AVal) (v2 : AVal) (m0 : Mm) : Option (AVal × Heap × Nat × Nat) :=
  bindO (ldA ro m0.h true 1 v1) fun v5 =>
  bindO (ldA ro m0.h true 1 v2) fun v6 =>
  asI .i64 v6 fun x6 =>
  bindO (evP .e (.ixS 1 (.c v5) (.c (.i .i64 x6)))) fun v7 =>
  bindO (ldA ro m0.h true 1 v7) fun v8 =>
  asI .i64 v8 fun x8 =>
  bindO (ldA ro m0.h true 1 v1) fun v9 =>
  bindO (evP .e (.ixS 1 (.c v9) (.c (.i .i64 x0)))) fun v11 =>
  bindO (ldA ro m0.h true 1 v11) fun v12 =>
  asI .i64 v12 fun x12 =>
  forceI (wr .i64 (x8 + x12)) fun x13 =>
  bindO (ldA ro m0.h true 1 v1) fun v14 =>
  bindO (ldA ro m0.h true 1 v2) fun v15 =>
  asI .i64 v15 fun x15 =>
  forceI (bitV .or .i64 x15 x0) fun x17 =>
  bindO (evP .e (.ixS 1 (.c v14) (.c (.i .i64 x17)))) fun v18 =>
  bindO (ldA ro m0.h true 1 v18) fun v19 =>
  asI .i64 v19 fun x19 =>
  bindO (ldA ro m0.h true 1 v1) fun v20 =>
  bindO (ldA ro m0.h true 1 v2) fun v21 =>
  asI .i64 v21 fun x21 =>
  forceI (bitV .and .i64 x21 x0) fun x23 =>
  bindO (evP .e (.ixS 1 (.c v20) (.c (.i .i64 x23)))) fun v24 =>
  bindO (ldA ro m0.h true 1 v24) fun v25 =>
  asI .i64 v25 fun x25 =>
  forceI (wr .i64 (x19 + x25)) fun x26 =>
  forceB (ltI x13 x26) fun c27 =>
  finM m0.h.length (tupA [(.b c27)]) m0

theorem g90_ok {ro : List ABlk} {O : Caller} {M : Means} (hM : M.Ok ⟨F, O⟩ ro) {x0 v1 v2 h r} (ho : O 90 [(.i .i64 x0), v1, v2] h = none) (hr : g90 M ro x0 v1 v2 ⟨h, h.length, h.length⟩ = some r) : callX ⟨F, O⟩ ro 90 [(.i .i64 x0), v1, v2] h = some r := by
  refine callX_of (F := ⟨F, O⟩) (fn := fn90) (g := g90 M ro x0 v1 v2) ho rfl rfl hr ?_
  clear ho
  clear hr
  intro m0 t0 ht hr
  have g0 : t0.get 0 = (.i .i64 x0) := ht 0
  have g1 : t0.get 1 = v1 := ht 1
  have g2 : t0.get 2 = v2 := ht 2
  clear ht
  unfold g90 at hr
  refine w_seq ?_
  refine w_ops ?_
  refine wo_step (v := (.b false)) (s_pure (p_mv rfl)) ?_
  refine wo_nil ?_
  refine nx_norm ?_
  refine w_seq ?_
  refine w_any ?_
  have hq := bindO_inv hr
  clear hr
  obtain ⟨v5, e5, hr⟩ := hq
  refine wa_step (v := v5) (a_ld g1 e5) ?_
  have hq := bindO_inv hr
  clear hr
  obtain ⟨v6, e6, hr⟩ := hq
  have hq := asI_inv hr
  clear hr
  obtain ⟨x6, rfl, hr⟩ := hq
  refine wa_step (v := (.i .i64 x6)) (a_ld g2 e6) ?_
  have hq := bindO_inv hr
  clear hr
  obtain ⟨v7, e7, hr⟩ := hq
  refine wa_step (v := v7) (a_pure (o_ixS rfl rfl e7)) ?_
  have hq := bindO_inv hr
  clear hr
  obtain ⟨v8, e8, hr⟩ := hq
  have hq := asI_inv hr
  clear hr
  obtain ⟨x8, rfl, hr⟩ := hq
  refine wa_step (v := (.i .i64 x8)) (a_ld rfl e8) ?_
  have hq := bindO_inv hr
  clear hr
  obtain ⟨v9, e9, hr⟩ := hq
  refine wa_step (v := v9) (a_ld g1 e9) ?_
  refine wa_step (v := (.i .i64 x0)) (a_pure (p_mv g0)) ?_
  have hq := bindO_inv hr
  clear hr
  obtain ⟨v11, e11, hr⟩ := hq
  refine wa_step (v := v11) (a_pure (o_ixS rfl rfl e11)) ?_
  have hq := bindO_inv hr
  clear hr
  obtain ⟨v12, e12, hr⟩ := hq
  have hq := asI_inv hr
  clear hr
  obtain ⟨x12, rfl, hr⟩ := hq
  refine wa_step (v := (.i .i64 x12)) (a_ld rfl e12) ?_
  have hq := forceI_inv hr
  clear hr
  obtain ⟨x13, e13, hr⟩ := hq
  refine wa_step (v := (.i .i64 x13)) (a_pure (p_bin rfl rfl (b_add.trans (ci e13)))) ?_
  have hq := bindO_inv hr
  clear hr
  obtain ⟨v14, e14, hr⟩ := hq
  refine wa_step (v := v14) (a_ld g1 e14) ?_
  have hq := bindO_inv hr
  clear hr
  obtain ⟨v15, e15, hr⟩ := hq
  have hq := asI_inv hr
  clear hr
  obtain ⟨x15, rfl, hr⟩ := hq
  refine wa_step (v := (.i .i64 x15)) (a_ld g2 e15) ?_
  refine wa_step (v := (.i .i64 x0)) (a_pure (p_mv g0)) ?_
  have hq := forceI_inv hr
  clear hr
  obtain ⟨x17, e17, hr⟩ := hq
  refine wa_step (v := (.i .i64 x17)) (a_pure (p_bin rfl rfl (b_or.trans (ci e17)))) ?_
  have hq := bindO_inv hr
  clear hr
  obtain ⟨v18, e18, hr⟩ := hq
  refine wa_step (v := v18) (a_pure (o_ixS rfl rfl e18)) ?_
  have hq := bindO_inv hr
  clear hr
  obtain ⟨v19, e19, hr⟩ := hq
  have hq := asI_inv hr
  clear hr
  obtain ⟨x19, rfl, hr⟩ := hq
  refine wa_step (v := (.i .i64 x19)) (a_ld rfl e19) ?_
  have hq := bindO_inv hr
  clear hr
  obtain ⟨v20, e20, hr⟩ := hq
  refine wa_step (v := v20) (a_ld g1 e20) ?_
  have hq := bindO_inv hr
  clear hr
  obtain ⟨v21, e21, hr⟩ := hq
  have hq := asI_inv hr
  clear hr
  obtain ⟨x21, rfl, hr⟩ := hq
  refine wa_step (v := (.i .i64 x21)) (a_ld g2 e21) ?_
  refine wa_step (v := (.i .i64 x0)) (a_pure (p_mv g0)) ?_
  have hq := forceI_inv hr
  clear hr
  obtain ⟨x23, e23, hr⟩ := hq
  refine wa_step (v := (.i .i64 x23)) (a_pure (p_bin rfl rfl (b_and.trans (ci e23)))) ?_
  have hq := bindO_inv hr
  clear hr
  obtain ⟨v24, e24, hr⟩ := hq
  refine wa_step (v := v24) (a_pure (o_ixS rfl rfl e24)) ?_
  have hq := bindO_inv hr
  clear hr
  obtain ⟨v25, e25, hr⟩ := hq
  have hq := asI_inv hr
  clear hr
  obtain ⟨x25, rfl, hr⟩ := hq
  refine wa_step (v := (.i .i64 x25)) (a_ld rfl e25) ?_
  have hq := forceI_inv hr
  clear hr
  obtain ⟨x26, e26, hr⟩ := hq
  refine wa_step (v := (.i .i64 x26)) (a_pure (p_bin rfl rfl (b_add.trans (ci e26)))) ?_
  have hq := forceB_inv hr
  clear hr
  obtain ⟨c27, e27, hr⟩ := hq
  refine wa_step (v := (.b c27)) (a_pure (p_bin rfl rfl (b_lss.trans (cb e27)))) ?_
  refine wa_step (v := (.b c27)) (a_pure (p_mv rfl)) ?_
  refine wa_nil ?_
  refine ⟨m0, rfl, ?_⟩
  refine nx_norm ?_
  refine w_ret ?_
  exact qf ret_ok (rt rfl rn) hr

/- dibber/share.paysMore-1 -/

def g95 (M : Means) (ro : List ABlk) (x0 : Int) (v1 : AVal) (v2 : AVal) (m0 : Mm) : Option (AVal × Heap × Nat × Nat) :=
  bindO (some (Mm.base m0)) fun m_1 =>
  bindO (ldM ro m_1 true 1 v1) fun v5 =>
  bindP (callM M.call m_1 67 [v5, (.i .i64 x0)]) fun v7 m_2 =>
  asI .i64 v7 fun x7 =>
  chk (!Nat.blt m_2.lw m0.h.length) <|
  bindO (ldA ro m0.h true 1 v2) fun v8 =>
  bindO (evP .e (.ixS 1 (.c v8) (.c (.i .i64 x0)))) fun v10 =>
  bindO (ldA ro m0.h true 1 v10) fun v11 =>
  asI .i64 v11 fun x11 =>
  forceB (ltI x11 x7) fun c12 =>
  bindO (some (Mm.join m0 m_2)) fun m_3 =>
  finM m0.h.length (tupA [(.b c12)]) m_3

theorem g95_ok {ro : List ABlk} {O : Caller} {M : Means} (hM : M.Ok ⟨F, O⟩ ro) {x0 v1 v2 h r} (ho : O 95 [(.i .i64 x0), v1, v2] h = none) (hr : g95 M ro x0 v1 v2 ⟨h, h.length, h.length⟩ = some r) : callX ⟨F, O⟩ ro 95 [(.i .i64 x0), v1, v2] h = some r := by
  refine callX_of (F := ⟨F, O⟩) (fn := fn95) (g := g95 M ro x0 v1 v2) ho rfl rfl hr ?_
  clear ho
  clear hr
  intro m0 t0 ht hr
  have g0 : t0.get 0 = (.i .i64 x0) := ht 0
  have g1 : t0.get 1 = v1 := ht 1
  have g2 : t0.get 2 = v2 := ht 2
  clear ht
  unfold g95 at hr
  refine w_seq ?_
  refine w_ops ?_
  refine wo_step (v := (.b false)) (s_pure (p_mv rfl)) ?_
  refine wo_nil ?_
  refine nx_norm ?_
  refine w_seq ?_
  have hq := bindO_inv hr
  clear hr
  obtain ⟨m_1, ef, hr⟩ := hq
  refine w_flt (af := true) rfl ef ?_
  have hq := bindO_inv hr
  clear hr
  obtain ⟨v5, e5, hr⟩ := hq
  refine wf_step (v := v5) (f_P rfl (s_ld g1 e5)) ?_
  refine wf_step (v := (.i .i64 x0)) (f_P rfl (s_pure (p_mv g0))) ?_
  have hq := bindP_inv hr
  clear hr
  obtain ⟨v7, m_2, e7, hr⟩ := hq
  have hq := asI_inv hr
  clear hr
  obtain ⟨x7, rfl, hr⟩ := hq
  have hq := chk_inv hr
  clear hr
  obtain ⟨hc7, hr⟩ := hq
  refine wf_step (v := (.i .i64 x7)) (f_M hc7 (s_call (mc rfl (mc rfl mn)) (callM_le hM.call e7))) ?_
  have hq := bindO_inv hr
  clear hr
  obtain ⟨v8, e8, hr⟩ := hq
  refine wf_step (v := v8) (f_ld g2 e8) ?_
  refine wf_step (v := (.i .i64 x0)) (f_P rfl (s_pure (p_mv g0))) ?_
  have hq := bindO_inv hr
  clear hr
  obtain ⟨v10, e10, hr⟩ := hq
  refine wf_step (v := v10) (f_P rfl (s_pure (o_ixS rfl rfl e10))) ?_
  have hq := bindO_inv hr
  clear hr
  obtain ⟨v11, e11, hr⟩ := hq
  have hq := asI_inv hr
  clear hr
  obtain ⟨x11, rfl, hr⟩ := hq
  refine wf_step (v := (.i .i64 x11)) (f_ld rfl e11) ?_
  have hq := forceB_inv hr
  clear hr
  obtain ⟨c12, e12, hr⟩ := hq
  refine wf_step (v := (.b c12)) (f_P rfl (s_pure (p_bin rfl rfl (b_gtr.trans (cb e12))))) ?_
  refine wf_step (v := (.b c12)) (f_P rfl (s_pure (p_mv rfl))) ?_
  have hq := bindO_inv hr
  clear hr
  obtain ⟨m_3, ef_1, hr⟩ := hq
  refine wf_end ef_1 ?_
  refine nx_norm ?_
  refine w_ret ?_
  exact qf ret_ok (rt rfl rn) hr

/- dibber/share.costs-1 -/

def g97 (M : Means) (ro : List ABlk) (x0 : Int) (v1 : AVal) (v2 : AVal) (m0 : Mm) : Option (AVal × Heap × Nat × Nat) :=
  bindO (ldA ro m0.h true 1 v1) fun v5 =>
  bindO (evP .e (.ixS 1 (.c v5) (.c (.i .i64 x0)))) fun v7 =>
  bindO (ldA ro m0.h true 1 v7) fun v8 =>
  asI .i64 v8 fun x8 =>
  bindO (ldA ro m0.h true 1 v2) fun v9 =>
  asI .i64 v9 fun x9 =>
  forceB (eqI x8 x9) fun c10 =>
  finM m0.h.length (tupA [(.b c10)]) m0

theorem g97_ok {ro : List ABlk} {O : Caller} {M : Means} (hM : M.Ok ⟨F, O⟩ ro) {x0 v1 v2 h r} (ho : O 97 [(.i .i64 x0), v1, v2] h = none) (hr : g97 M ro x0 v1 v2 ⟨h, h.length, h.length⟩ = some r) : callX ⟨F, O⟩ ro 97 [(.i .i64 x0), v1, v2] h = some r := by
  refine callX_of (F := ⟨F, O⟩) (fn := fn97) (g := g97 M ro x0 v1 v2) ho rfl rfl hr ?_
  clear ho
  clear hr
  intro m0 t0 ht hr
  have g0 : t0.get 0 = (.i .i64 x0) := ht 0
  have g1 : t0.get 1 = v1 := ht 1
  have g2 : t0.get 2 = v2 := ht 2
  clear ht
  unfold g97 at hr
  refine w_seq ?_
  refine w_ops ?_
  refine wo_step (v := (.b false)) (s_pure (p_mv rfl)) ?_
  refine wo_nil ?_
  refine nx_norm ?_
  refine w_seq ?_
  refine w_any ?_
  have hq := bindO_inv hr
  clear hr
  obtain ⟨v5, e5, hr⟩ := hq
  refine wa_step (v := v5) (a_ld g1 e5) ?_
  refine wa_step (v := (.i .i64 x0)) (a_pure (p_mv g0)) ?_
  have hq := bindO_inv hr
  clear hr
  obtain ⟨v7, e7, hr⟩ := hq
  refine wa_step (v := v7) (a_pure (o_ixS rfl rfl e7)) ?_
  have hq := bindO_inv hr
  clear hr
  obtain ⟨v8, e8, hr⟩ := hq
  have hq := asI_inv hr
  clear hr
  obtain ⟨x8, rfl, hr⟩ := hq
  refine wa_step (v := (.i .i64 x8)) (a_ld rfl e8) ?_
  have hq := bindO_inv hr
  clear hr
  obtain ⟨v9, e9, hr⟩ := hq
  have hq := asI_inv hr
  clear hr
  obtain ⟨x9, rfl, hr⟩ := hq
  refine wa_step (v := (.i .i64 x9)) (a_ld g2 e9) ?_
  have hq := forceB_inv hr
  clear hr
  obtain ⟨c10, e10, hr⟩ := hq
  refine wa_step (v := (.b c10)) (a_pure (p_bin rfl rfl (b_eql.trans (cb e10)))) ?_
  refine wa_step (v := (.b c10)) (a_pure (p_mv rfl)) ?_
  refine wa_nil ?_
  refine ⟨m0, rfl, ?_⟩
  refine nx_norm ?_
  refine w_ret ?_
  exact qf ret_ok (rt rfl rn) hr

/- dibber/share.inside-1 -/

def g98 (M : Means) (ro : List ABlk) (x0 : Int) (v1 : AVal) (m0 : Mm) : Option (AVal × Heap × Nat × Nat) :=
  bindO (ldM ro m0 true 1 v1) fun v5 =>
  asI .i64 v5 fun x5 =>
  forceI (bitV .andNot .i64 x0 x5) fun x6 =>
  forceB (eqI x6 0) fun c7 =>
  finM m0.h.length (tupA [(.b c7)]) m0

theorem g98_ok {ro : List ABlk} {O : Caller} {M : Means} (hM : M.Ok ⟨F, O⟩ ro) {x0 v1 h r} (ho : O 98 [(.i .i64 x0), v1] h = none) (hr : g98 M ro x0 v1 ⟨h, h.length, h.length⟩ = some r) : callX ⟨F, O⟩ ro 98 [(.i .i64 x0), v1] h = some r := by
  refine callX_of (F := ⟨F, O⟩) (fn := fn98) (g := g98 M ro x0 v1) ho rfl rfl hr ?_
  clear ho
  clear hr
  intro m0 t0 ht hr
  have g0 : t0.get 0 = (.i .i64 x0) := ht 0
  have g1 : t0.get 1 = v1 := ht 1
  clear ht
  unfold g98 at hr
  refine w_seq ?_
  refine w_ops ?_
  refine wo_step (v := (.b false)) (s_pure (p_mv rfl)) ?_
  refine wo_nil ?_
  refine nx_norm ?_
  refine w_seq ?_
  refine w_ops ?_
  refine wo_step (v := (.i .i64 x0)) (s_pure (p_mv g0)) ?_
  have hq := bindO_inv hr
  clear hr
  obtain ⟨v5, e5, hr⟩ := hq
  have hq := asI_inv hr
  clear hr
  obtain ⟨x5, rfl, hr⟩ := hq
  refine wo_step (v := (.i .i64 x5)) (s_ld g1 e5) ?_
  have hq := forceI_inv hr
  clear hr
  obtain ⟨x6, e6, hr⟩ := hq
  refine wo_step (v := (.i .i64 x6)) (s_pure (p_bin rfl rfl (b_andNot.trans (ci e6)))) ?_
  have hq := forceB_inv hr
  clear hr
  obtain ⟨c7, e7, hr⟩ := hq
  refine wo_step (v := (.b c7)) (s_pure (p_bin rfl rfl (b_eql.trans (cb e7)))) ?_
  refine wo_step (v := (.b c7)) (s_pure (p_mv rfl)) ?_
  refine wo_nil ?_
  refine nx_norm ?_
  refine w_ret ?_
  exact qf ret_ok (rt rfl rn) hr

/- dibber/share.around-1 -/

def g99 (M : Means) (ro : List ABlk) (x0 : Int) (v1 : AVal) (m0 : Mm) : Option (AVal × Heap × Nat × Nat) :=
  bindO (ldM ro m0 true 1 v1) fun v4 =>
  asI .i64 v4 fun x4 =>
  forceI (bitV .andNot .i64 x4 x0) fun x6 =>
  forceB (eqI x6 0) fun c7 =>
  finM m0.h.length (tupA [(.b c7)]) m0

theorem g99_ok {ro : List ABlk} {O : Caller} {M : Means} (hM : M.Ok ⟨F, O⟩ ro) {x0 v1 h r} (ho : O 99 [(.i .i64 x0), v1] h = none) (hr : g99 M ro x0 v1 ⟨h, h.length, h.length⟩ = some r) : callX ⟨F, O⟩ ro 99 [(.i .i64 x0), v1] h = some r := by
  refine callX_of (F := ⟨F, O⟩) (fn := fn99) (g := g99 M ro x0 v1) ho rfl rfl hr ?_
  clear ho
  clear hr
  intro m0 t0 ht hr
  have g0 : t0.get 0 = (.i .i64 x0) := ht 0
  have g1 : t0.get 1 = v1 := ht 1
  clear ht
  unfold g99 at hr
  refine w_seq ?_
  refine w_ops ?_
  refine wo_step (v := (.b false)) (s_pure (p_mv rfl)) ?_
  refine wo_nil ?_
  refine nx_norm ?_
  refine w_seq ?_
  refine w_ops ?_
  have hq := bindO_inv hr
  clear hr
  obtain ⟨v4, e4, hr⟩ := hq
  have hq := asI_inv hr
  clear hr
  obtain ⟨x4, rfl, hr⟩ := hq
  refine wo_step (v := (.i .i64 x4)) (s_ld g1 e4) ?_
  refine wo_step (v := (.i .i64 x0)) (s_pure (p_mv g0)) ?_
  have hq := forceI_inv hr
  clear hr
  obtain ⟨x6, e6, hr⟩ := hq
  refine wo_step (v := (.i .i64 x6)) (s_pure (p_bin rfl rfl (b_andNot.trans (ci e6)))) ?_
  have hq := forceB_inv hr
  clear hr
  obtain ⟨c7, e7, hr⟩ := hq
  refine wo_step (v := (.b c7)) (s_pure (p_bin rfl rfl (b_eql.trans (cb e7)))) ?_
  refine wo_step (v := (.b c7)) (s_pure (p_mv rfl)) ?_
  refine wo_nil ?_
  refine nx_norm ?_
  refine w_ret ?_
  exact qf ret_ok (rt rfl rn) hr

end Go.Proofs.Ythdglempcfknhaa.T

/- Plain functions, and that the small machine answers as they do. -/
import Derived.Test.YthdglempcfknhaaVmP
import Derived.Test.YthdglempcfknhaaVmAE
open Go.Vm
set_option linter.unusedVariables false
namespace Go.Proofs.Ythdglempcfknhaa.T
open Go
/- dibber/dibberlaw08.ShareHedges -/
abbrev g13_J0 (x0 : Int) (v1 : AVal) (v2 : AVal) (o : Bool × Mm) (m1 : Mm) (t1 : Tr) : Prop :=
  match o with
  | (c22, m_1) => m_1 = m1 ∧ t1.get 22 = (.b c22) ∧ t1.get 0 = (.i .i64 x0) ∧ t1.get 1 = v1 ∧ t1.get 2 = v2
abbrev g13_J1 (x0 : Int) (v1 : AVal) (v2 : AVal) (o : Bool × Mm) (m1 : Mm) (t1 : Tr) : Prop :=
  match o with
  | (c28, m_3) => m_3 = m1 ∧ t1.get 28 = (.b c28) ∧ t1.get 0 = (.i .i64 x0) ∧ t1.get 1 = v1 ∧ t1.get 2 = v2
abbrev g13_J2  (o : Bool × Mm) (m1 : Mm) (t1 : Tr) : Prop :=
  match o with
  | (c43, m_8) => m_8 = m1 ∧ t1.get 43 = (.b c43)
abbrev g13_J3 (x0 : Int) (v2 : AVal) (v34 : AVal) (m_7 : Mm) (o : Bool) (m1 : Mm) (t1 : Tr) : Prop :=
  match o with
  | c49 => m_7 = m1 ∧ t1.get 49 = (.b c49) ∧ t1.get 0 = (.i .i64 x0) ∧ t1.get 2 = v2 ∧ t1.get 7 = v34
abbrev g13_J4 (x0 : Int) (v2 : AVal) (v34 : AVal) (m_10 : Mm) (o : Bool) (m1 : Mm) (t1 : Tr) : Prop :=
  match o with
  | c65 => m_10 = m1 ∧ t1.get 65 = (.b c65) ∧ t1.get 0 = (.i .i64 x0) ∧ t1.get 2 = v2 ∧ t1.get 7 = v34
abbrev g13_I5 (x0 : Int) (v2 : AVal) (v34 : AVal) (x68 : Int) (m_10 : Mm) (s : Int) (m1 : Mm) (t1 : Tr) : Prop :=
  match s with
  | x13 => m_10 = m1 ∧ t1.get 13 = (.i .i64 x13) ∧ t1.get 0 = (.i .i64 x0) ∧ t1.get 2 = v2 ∧ t1.get 7 = v34 ∧ t1.get 12 = (.i .i64 x68)
abbrev g13_J5 (x0 : Int) (v2 : AVal) (v34 : AVal) (x68 : Int) (m_10 : Mm) (o : (Unit ⊕ Bool)) (e : AExit) (m1 : Mm) (t1 : Tr) : Prop :=
  match o with
  | (.inl _) => e = (.exit 0) ∧ m_10 = m1 ∧ t1.get 0 = (.i .i64 x0) ∧ t1.get 2 = v2 ∧ t1.get 7 = v34 ∧ t1.get 12 = (.i .i64 x68)
  | (.inr y6) => e = .ret ∧ m_10 = m1 ∧ t1.get 6 = (.b y6)
abbrev g13_J6 (x0 : Int) (v2 : AVal) (v34 : AVal) (x68 : Int) (x13 : Int) (m_10 : Mm) (o : Bool) (m1 : Mm) (t1 : Tr) : Prop :=
  match o with
  | c92 => m_10 = m1 ∧ t1.get 92 = (.b c92) ∧ t1.get 0 = (.i .i64 x0) ∧ t1.get 2 = v2 ∧ t1.get 7 = v34 ∧ t1.get 12 = (.i .i64 x68) ∧ t1.get 13 = (.i .i64 x13)
def g13_b5 (M : Means) (ro : List ABlk) (x0 : Int) (v2 : AVal) (v34 : AVal) (x68 : Int) (m_10 : Mm) (x13 : Int) : Option ((Int) ⊕ ((Unit ⊕ Bool))) :=
  bindO (evP .e (.len false (.c v34))) fun v71 =>
  asI .i64 v71 fun x71 =>
  forceB (ltI x13 x71) fun c72 =>
  cond c72 (
    bindO (evP .e (.ixS 1 (.c v34) (.c (.i .i64 x13)))) fun v77 =>
    bindO (ldA ro m_10.h true 1 v77) fun v78 =>
    asI .i64 v78 fun x78 =>
    forceI (wr .i64 (x68 - x13)) fun x82 =>
    bindO (evP .e (.ixS 1 (.c v34) (.c (.i .i64 x82)))) fun v83 =>
    bindO (ldA ro m_10.h true 1 v83) fun v84 =>
    asI .i64 v84 fun x84 =>
    forceB (!eqI x78 x84) fun c85 =>
    bindO (cond c85 (
      some true) (
      bindO (evP .e (.ixS 1 (.c v34) (.c (.i .i64 x13)))) fun v89 =>
      bindO (ldA ro m_10.h true 1 v89) fun v90 =>
      asI .i64 v90 fun x90 =>
      forceB (ltI x90 0) fun c91 =>
      some c91)) fun c92 =>
    cond c92 (
      some (.inr (.inr false))) (
      forceI (wr .i64 (x13 + 1)) fun x74 =>
      some (.inl x74))) (
    some (.inr (.inl ())))
abbrev g13_J7 (x0 : Int) (v2 : AVal) (v34 : AVal) (x68 : Int) (o : Bool × Mm) (m1 : Mm) (t1 : Tr) : Prop :=
  match o with
  | (c103, m_11) => m_11 = m1 ∧ t1.get 103 = (.b c103) ∧ t1.get 0 = (.i .i64 x0) ∧ t1.get 2 = v2 ∧ t1.get 7 = v34 ∧ t1.get 12 = (.i .i64 x68)
abbrev g13_J8  (o : Bool × Mm) (m1 : Mm) (t1 : Tr) : Prop :=
  match o with
  | (c111, m_13) => m_13 = m1 ∧ t1.get 111 = (.b c111)
abbrev g13_J9 (m_15 : Mm) (o : Bool) (m1 : Mm) (t1 : Tr) : Prop :=
  match o with
  | c127 => m_15 = m1 ∧ t1.get 127 = (.b c127)
abbrev g13_J10  (o : Bool × Mm) (m1 : Mm) (t1 : Tr) : Prop :=
  match o with
  | (c130, m_16) => m_16 = m1 ∧ t1.get 130 = (.b c130)
abbrev g13_J11  (o : Bool × Mm) (m1 : Mm) (t1 : Tr) : Prop :=
  match o with
  | (c142, m_19) => m_19 = m1 ∧ t1.get 142 = (.b c142)
def g13 (M : Means) (ro : List ABlk) (x0 : Int) (v1 : AVal) (v2 : AVal) (m0 : Mm) : Option (AVal × Heap × Nat × Nat) :=
  bindO (evP .e (.len false (.c v1))) fun v16 =>
  asI .i64 v16 fun x16 =>
  forceB (ltI 40 x16) fun c17 =>
  bindO (cond c17 (
    some (true, m0)) (
    bindP (callM M.call m0 14 [v1]) fun v20 m_2 =>
    asB v20 fun c20 =>
    forceB (!c20) fun c21 =>
    some (c21, m_2))) fun ⟨c22, m_1⟩ =>
  bindO (cond c22 (
    some (true, m_1)) (
    bindP (stepM ro m_1 (.bsl 22 1 [AVal.nsl] 1 [((0, 1), .c v2)])) fun v25 m_4 =>
    bindP (callM M.call m_4 14 [v25]) fun v26 m_5 =>
    asB v26 fun c26 =>
    forceB (!c26) fun c27 =>
    some (c27, m_5))) fun ⟨c28, m_3⟩ =>
  cond c28 (
    bindP (callM M.call m_3 15 []) fun v29 m_6 =>
    asB v29 fun c29 =>
    finM m0.h.length (tupA [(.b c29)]) m_6) (
    bindP (callM M.call m_3 37 [(.i .i64 x0), v1]) fun v33 m_7 =>
    bindO (evP .e (.ext 0 (.c v33))) fun v34 =>
    bindO (evP .e (.ext 1 (.c v33))) fun v35 =>
    asI .i64 v35 fun x35 =>
    forceB (!eqI x35 0) fun c37 =>
    cond c37 (
      bindO (evP .e (.len false (.c v34))) fun v39 =>
      asI .i64 v39 fun x39 =>
      forceB (eqI x39 0) fun c40 =>
      bindO (cond c40 (
        bindP (callM M.call m_7 15 []) fun v42 m_9 =>
        asB v42 fun c42 =>
        some (c42, m_9)) (
        some (false, m_7))) fun ⟨c43, m_8⟩ =>
      finM m0.h.length (tupA [(.b c43)]) m_8) (
      forceB (ltI x0 1) fun c45 =>
      bindO (cond c45 (
        some true) (
        forceB (ltI 6 x0) fun c48 =>
        some c48)) fun c49 =>
      cond c49 (
        finM m0.h.length (tupA [(.b false)]) m_7) (
        bindP (callM M.call m_7 16 [(.i .i64 x0), v34]) fun v53 m_10 =>
        bindO (evP .e (.ext 0 (.c v53))) fun v54 =>
        asI .i64 v54 fun x54 =>
        bindO (evP .e (.ext 1 (.c v53))) fun v55 =>
        asI .i64 v55 fun x55 =>
        bindO (evP .e (.ext 2 (.c v53))) fun v56 =>
        asI .i64 v56 fun x56 =>
        forceB (!eqI x56 10) fun c58 =>
        bindO (cond c58 (
          some true) (
          bindO (evP .e (.len false (.c v34))) fun v61 =>
          asI .i64 v61 fun x61 =>
          chk (!ltI x0 (.ofNat 0)) <|
          forceI (shlV .i64 1 x0) fun x63 =>
          forceB (!eqI x61 x63) fun c64 =>
          some c64)) fun c65 =>
        cond c65 (
          finM m0.h.length (tupA [(.b false)]) m_10) (
          bindO (evP .e (.len false (.c v34))) fun v67 =>
          asI .i64 v67 fun x67 =>
          forceI (wr .i64 (x67 - 1)) fun x68 =>
          bindO (M.loop (S := Int) (R := (Unit ⊕ Bool)) (fun s => g13_b5 M ro x0 v2 v34 x68 m_10 s) 0) fun o_6 => match o_6 with
          | (.inl _) =>
            bindO (evP .e (.ixS 1 (.c v34) (.c (.i .i64 x68)))) fun v95 =>
            bindO (ldM ro m_10 true 1 v95) fun v96 =>
            asI .i64 v96 fun x96 =>
            forceB (!eqI x96 0) fun c97 =>
            bindO (cond c97 (
              some (true, m_10)) (
              bindP (callM M.call m_10 39 [(.i .i64 x0), v2]) fun v101 m_12 =>
              asB v101 fun c101 =>
              forceB (!c101) fun c102 =>
              some (c102, m_12))) fun ⟨c103, m_11⟩ =>
            cond c103 (
              bindO (evP .e (.ixS 1 (.c v34) (.c (.i .i64 x68)))) fun v106 =>
              bindO (ldM ro m_11 true 1 v106) fun v107 =>
              asI .i64 v107 fun x107 =>
              forceB (eqI x107 0) fun c108 =>
              bindO (cond c108 (
                bindP (callM M.call m_11 15 []) fun v110 m_14 =>
                asB v110 fun c110 =>
                some (c110, m_14)) (
                some (false, m_11))) fun ⟨c111, m_13⟩ =>
              finM m0.h.length (tupA [(.b c111)]) m_13) (
              bindP (callM M.call m_11 18 [(.i .i64 x0), v34, v2]) fun v116 m_15 =>
              bindO (evP .e (.ext 0 (.c v116))) fun v117 =>
              bindO (evP .e (.ext 1 (.c v116))) fun v118 =>
              asI .i64 v118 fun x118 =>
              forceB (!eqI x118 0) fun c120 =>
              cond c120 (
                forceB (eqI x118 4) fun c122 =>
                bindO (cond c122 (
                  bindO (evP .e (.len false (.c v117))) fun v125 =>
                  asI .i64 v125 fun x125 =>
                  forceB (eqI x125 0) fun c126 =>
                  some c126) (
                  some false)) fun c127 =>
                bindO (cond c127 (
                  bindP (callM M.call m_15 15 []) fun v129 m_17 =>
                  asB v129 fun c129 =>
                  some (c129, m_17)) (
                  some (false, m_15))) fun ⟨c130, m_16⟩ =>
                finM m0.h.length (tupA [(.b c130)]) m_16) (
                bindP (callM M.call m_15 16 [(.i .i64 x0), v117]) fun v134 m_18 =>
                bindO (evP .e (.ext 0 (.c v134))) fun v135 =>
                asI .i64 v135 fun x135 =>
                bindO (evP .e (.ext 1 (.c v134))) fun v136 =>
                asI .i64 v136 fun x136 =>
                bindO (evP .e (.ext 2 (.c v134))) fun v137 =>
                asI .i64 v137 fun x137 =>
                forceB (eqI x137 10) fun c139 =>
                bindO (cond c139 (
                  bindP (callM M.call m_18 15 []) fun v141 m_20 =>
                  asB v141 fun c141 =>
                  some (c141, m_20)) (
                  some (false, m_18))) fun ⟨c142, m_19⟩ =>
                finM m0.h.length (tupA [(.b c142)]) m_19))
          | (.inr c6) =>
            finM m0.h.length (tupA [(.b c6)]) m_10))))

theorem g13_ok {ro : List ABlk} {O : Caller} {M : Means} (hM : M.Ok ⟨F, O⟩ ro) {x0 v1 v2 h r} (ho : O 13 [(.i .i64 x0), v1, v2] h = none) (hr : g13 M ro x0 v1 v2 ⟨h, h.length, h.length⟩ = some r) : callX ⟨F, O⟩ ro 13 [(.i .i64 x0), v1, v2] h = some r := by
  refine callX_of (F := ⟨F, O⟩) (fn := fn13) (g := g13 M ro x0 v1 v2) ho rfl rfl hr ?_
  clear ho
  clear hr
  intro m0 t0 ht hr
  have g0 : t0.get 0 = (.i .i64 x0) := ht 0
  have g1 : t0.get 1 = v1 := ht 1
  have g2 : t0.get 2 = v2 := ht 2
  clear ht
  unfold g13 at hr
  refine w_seq ?_
  refine w_ops ?_
  refine wo_step (v := (.b false)) (s_pure (p_mv rfl)) ?_
  refine wo_nil ?_
  refine nx_norm ?_
  refine w_seq ?_
  refine w_seq ?_
  refine w_ops ?_
  refine wo_step (v := v1) (s_pure (p_mv g1)) ?_
  have hq := bindO_inv hr
  clear hr
  obtain ⟨v16, e16, hr⟩ := hq
  have hq := asI_inv hr
  clear hr
  obtain ⟨x16, rfl, hr⟩ := hq
  refine wo_step (v := (.i .i64 x16)) (s_pure (o_len rfl e16)) ?_
  have hq := forceB_inv hr
  clear hr
  obtain ⟨c17, e17, hr⟩ := hq
  refine wo_step (v := (.b c17)) (s_pure (p_bin rfl rfl (b_gtr.trans (cb e17)))) ?_
  refine wo_step (v := (.b c17)) (s_pure (p_mv rfl)) ?_
  have hq := bindO_inv hr
  clear hr
  obtain ⟨o, hr, hk⟩ := hq
  refine wo_join 4 (g13_J0 x0 v1 v2 o) ?_ ?_
  · clear hk
    have hq := cond_inv hr
    clear hr
    rcases hq with ⟨rfl, hr⟩ | ⟨rfl, hr⟩
    · refine wo_skip (v := (.b true)) rfl rfl ?_
      refine wo_skip (v := (.b true)) rfl rfl ?_
      refine wo_skip (v := (.b true)) rfl rfl ?_
      refine wo_step (v := (.b true)) (s_pure (p_pickT rfl rfl)) ?_
      refine wo_nil ?_
      cases hr
      exact ⟨_, _, rfl, rfl, gl rfl, gl g0, gl g1, gl g2⟩
    · refine wo_take (v := v1) rfl (s_pure (p_mv g1)) ?_
      have hq := bindP_inv hr
      clear hr
      obtain ⟨v20, m_2, e20, hr⟩ := hq
      have hq := asB_inv hr
      clear hr
      obtain ⟨c20, rfl, hr⟩ := hq
      refine wo_take (v := (.b c20)) rfl (s_call (mc rfl mn) (callM_le hM.call e20)) ?_
      have hq := forceB_inv hr
      clear hr
      obtain ⟨c21, e21, hr⟩ := hq
      refine wo_take (v := (.b c21)) rfl (s_pure ((p_not rfl).trans (cb e21))) ?_
      refine wo_step (v := (.b c21)) (s_pure (p_pickF rfl rfl)) ?_
      refine wo_nil ?_
      cases hr
      exact ⟨_, _, rfl, rfl, gl rfl, gl g0, gl g1, gl g2⟩
  · clear hr
    have hr := hk
    clear hk
    obtain ⟨c22, m_1⟩ := o
    rintro mm t_1 ⟨rfl, g22, g0, g1, g2⟩
    refine wo_step (v := (.b c22)) (s_pure (p_mv g22)) ?_
    have hq := bindO_inv hr
    clear hr
    obtain ⟨o_1, hr, hk⟩ := hq
    refine wo_join 5 (g13_J1 x0 v1 v2 o_1) ?_ ?_
    · clear hk
      have hq := cond_inv hr
      clear hr
      rcases hq with ⟨rfl, hr⟩ | ⟨rfl, hr⟩
      · refine wo_skip (v := (.b true)) rfl rfl ?_
        refine wo_skip (v := (.b true)) rfl rfl ?_
        refine wo_skip (v := (.b true)) rfl rfl ?_
        refine wo_skip (v := (.b true)) rfl rfl ?_
        refine wo_step (v := (.b true)) (s_pure (p_pickT rfl rfl)) ?_
        refine wo_nil ?_
        cases hr
        exact ⟨_, _, rfl, rfl, gl rfl, gl g0, gl g1, gl g2⟩
      · refine wo_take (v := v2) rfl (s_pure (p_mv g2)) ?_
        have hq := bindP_inv hr
        clear hr
        obtain ⟨v25, m_4, e25, hr⟩ := hq
        refine wo_take (v := v25) rfl (s_bsl (qc rfl qn) e25) ?_
        have hq := bindP_inv hr
        clear hr
        obtain ⟨v26, m_5, e26, hr⟩ := hq
        have hq := asB_inv hr
        clear hr
        obtain ⟨c26, rfl, hr⟩ := hq
        refine wo_take (v := (.b c26)) rfl (s_call (mc rfl mn) (callM_le hM.call e26)) ?_
        have hq := forceB_inv hr
        clear hr
        obtain ⟨c27, e27, hr⟩ := hq
        refine wo_take (v := (.b c27)) rfl (s_pure ((p_not rfl).trans (cb e27))) ?_
        refine wo_step (v := (.b c27)) (s_pure (p_pickF rfl rfl)) ?_
        refine wo_nil ?_
        cases hr
        exact ⟨_, _, rfl, rfl, gl rfl, gl g0, gl g1, gl g2⟩
    · clear hr
      have hr := hk
      clear hk
      obtain ⟨c28, m_3⟩ := o_1
      rintro mm_1 t_2 ⟨rfl, g28, g0, g1, g2⟩
      refine wo_nil ?_
      refine nx_norm ?_
      have hq := cond_inv hr
      clear hr
      rcases hq with ⟨rfl, hr⟩ | ⟨rfl, hr⟩
      · refine w_condT g28 ?_
        refine w_seq ?_
        refine w_ops ?_
        have hq := bindP_inv hr
        clear hr
        obtain ⟨v29, m_6, e29, hr⟩ := hq
        have hq := asB_inv hr
        clear hr
        obtain ⟨c29, rfl, hr⟩ := hq
        refine wo_step (v := (.b c29)) (s_call mn (callM_le hM.call e29)) ?_
        refine wo_step (v := (.b c29)) (s_pure (p_mv rfl)) ?_
        refine wo_nil ?_
        refine nx_norm ?_
        refine w_ret ?_
        refine nx_ret ?_
        exact qf ret_ok (rt rfl rn) hr
      · refine w_condF g28 ?_
        refine w_skip ?_
        refine nx_norm ?_
        refine w_seq ?_
        refine w_ops ?_
        refine wo_step (v := (.i .i64 x0)) (s_pure (p_mv g0)) ?_
        refine wo_step (v := v1) (s_pure (p_mv g1)) ?_
        have hq := bindP_inv hr
        clear hr
        obtain ⟨v33, m_7, e33, hr⟩ := hq
        refine wo_step (v := v33) (s_call (mc rfl (mc rfl mn)) (callM_le hM.call e33)) ?_
        refine wo_step (v := v33) (s_pure (p_mv rfl)) ?_
        have hq := bindO_inv hr
        clear hr
        obtain ⟨v34, e34, hr⟩ := hq
        refine wo_step (v := v34) (s_pure (o_ext rfl e34)) ?_
        have hq := bindO_inv hr
        clear hr
        obtain ⟨v35, e35, hr⟩ := hq
        have hq := asI_inv hr
        clear hr
        obtain ⟨x35, rfl, hr⟩ := hq
        refine wo_step (v := (.i .i64 x35)) (s_pure (o_ext rfl e35)) ?_
        refine wo_step (v := v34) (s_pure (p_mv rfl)) ?_
        refine wo_step (v := (.i .i64 x35)) (s_pure (p_mv rfl)) ?_
        refine wo_nil ?_
        refine nx_norm ?_
        refine w_seq ?_
        refine w_seq ?_
        refine w_ops ?_
        refine wo_step (v := (.i .i64 x35)) (s_pure (p_mv rfl)) ?_
        have hq := forceB_inv hr
        clear hr
        obtain ⟨c37, e37, hr⟩ := hq
        refine wo_step (v := (.b c37)) (s_pure (p_bin rfl rfl (b_neq.trans (cb e37)))) ?_
        refine wo_nil ?_
        refine nx_norm ?_
        have hq := cond_inv hr
        clear hr
        rcases hq with ⟨rfl, hr⟩ | ⟨rfl, hr⟩
        · refine w_condT rfl ?_
          refine w_seq ?_
          refine w_ops ?_
          refine wo_step (v := v34) (s_pure (p_mv rfl)) ?_
          have hq := bindO_inv hr
          clear hr
          obtain ⟨v39, e39, hr⟩ := hq
          have hq := asI_inv hr
          clear hr
          obtain ⟨x39, rfl, hr⟩ := hq
          refine wo_step (v := (.i .i64 x39)) (s_pure (o_len rfl e39)) ?_
          have hq := forceB_inv hr
          clear hr
          obtain ⟨c40, e40, hr⟩ := hq
          refine wo_step (v := (.b c40)) (s_pure (p_bin rfl rfl (b_eql.trans (cb e40)))) ?_
          refine wo_step (v := (.b c40)) (s_pure (p_mv rfl)) ?_
          have hq := bindO_inv hr
          clear hr
          obtain ⟨o_2, hr, hk⟩ := hq
          refine wo_join 2 (g13_J2  o_2) ?_ ?_
          · clear hk
            have hq := cond_inv hr
            clear hr
            rcases hq with ⟨rfl, hr⟩ | ⟨rfl, hr⟩
            · have hq := bindP_inv hr
              clear hr
              obtain ⟨v42, m_9, e42, hr⟩ := hq
              have hq := asB_inv hr
              clear hr
              obtain ⟨c42, rfl, hr⟩ := hq
              refine wo_take (v := (.b c42)) rfl (s_call mn (callM_le hM.call e42)) ?_
              refine wo_step (v := (.b c42)) (s_pure (p_pickT rfl rfl)) ?_
              refine wo_nil ?_
              cases hr
              exact ⟨_, _, rfl, rfl, gl rfl⟩
            · refine wo_skip (v := (.b false)) rfl rfl ?_
              refine wo_step (v := (.b false)) (s_pure (p_pickF rfl rfl)) ?_
              refine wo_nil ?_
              cases hr
              exact ⟨_, _, rfl, rfl, gl rfl⟩
          · clear hr
            have hr := hk
            clear hk
            obtain ⟨c43, m_8⟩ := o_2
            rintro mm_2 t_3 ⟨rfl, g43⟩
            refine wo_step (v := (.b c43)) (s_pure (p_mv g43)) ?_
            refine wo_nil ?_
            refine nx_norm ?_
            refine w_ret ?_
            refine nx_ret ?_
            exact qf ret_ok (rt rfl rn) hr
        · refine w_condF rfl ?_
          refine w_skip ?_
          refine nx_norm ?_
          refine w_seq ?_
          refine w_seq ?_
          refine w_ops ?_
          refine wo_step (v := (.i .i64 x0)) (s_pure (p_mv g0)) ?_
          have hq := forceB_inv hr
          clear hr
          obtain ⟨c45, e45, hr⟩ := hq
          refine wo_step (v := (.b c45)) (s_pure (p_bin rfl rfl (b_lss.trans (cb e45)))) ?_
          refine wo_step (v := (.b c45)) (s_pure (p_mv rfl)) ?_
          have hq := bindO_inv hr
          clear hr
          obtain ⟨o_3, hr, hk⟩ := hq
          refine wo_join 3 (g13_J3 x0 v2 v34 m_7 o_3) ?_ ?_
          · clear hk
            have hq := cond_inv hr
            clear hr
            rcases hq with ⟨rfl, hr⟩ | ⟨rfl, hr⟩
            · refine wo_skip (v := (.b true)) rfl rfl ?_
              refine wo_skip (v := (.b true)) rfl rfl ?_
              refine wo_step (v := (.b true)) (s_pure (p_pickT rfl rfl)) ?_
              refine wo_nil ?_
              cases hr
              exact ⟨_, _, rfl, rfl, gl rfl, gl g0, gl g2, gl rfl⟩
            · refine wo_take (v := (.i .i64 x0)) rfl (s_pure (p_mv g0)) ?_
              have hq := forceB_inv hr
              clear hr
              obtain ⟨c48, e48, hr⟩ := hq
              refine wo_take (v := (.b c48)) rfl (s_pure (p_bin rfl rfl (b_gtr.trans (cb e48)))) ?_
              refine wo_step (v := (.b c48)) (s_pure (p_pickF rfl rfl)) ?_
              refine wo_nil ?_
              cases hr
              exact ⟨_, _, rfl, rfl, gl rfl, gl g0, gl g2, gl rfl⟩
          · clear hr
            have hr := hk
            clear hk
            obtain ⟨c49, ho⟩ : ∃ z, z = o_3 := ⟨_, rfl⟩
            subst ho
            rintro mm_3 t_4 ⟨rfl, g49, g0, g2, g7⟩
            refine wo_nil ?_
            refine nx_norm ?_
            have hq := cond_inv hr
            clear hr
            rcases hq with ⟨rfl, hr⟩ | ⟨rfl, hr⟩
            · refine w_condT g49 ?_
              refine w_seq ?_
              refine w_ops ?_
              refine wo_step (v := (.b false)) (s_pure (p_mv rfl)) ?_
              refine wo_nil ?_
              refine nx_norm ?_
              refine w_ret ?_
              refine nx_ret ?_
              exact qf ret_ok (rt rfl rn) hr
            · refine w_condF g49 ?_
              refine w_skip ?_
              refine nx_norm ?_
              refine w_seq ?_
              refine w_ops ?_
              refine wo_step (v := (.i .i64 x0)) (s_pure (p_mv g0)) ?_
              refine wo_step (v := v34) (s_pure (p_mv g7)) ?_
              have hq := bindP_inv hr
              clear hr
              obtain ⟨v53, m_10, e53, hr⟩ := hq
              refine wo_step (v := v53) (s_call (mc rfl (mc rfl mn)) (callM_le hM.call e53)) ?_
              refine wo_step (v := v53) (s_pure (p_mv rfl)) ?_
              have hq := bindO_inv hr
              clear hr
              obtain ⟨v54, e54, hr⟩ := hq
              have hq := asI_inv hr
              clear hr
              obtain ⟨x54, rfl, hr⟩ := hq
              refine wo_step (v := (.i .i64 x54)) (s_pure (o_ext rfl e54)) ?_
              have hq := bindO_inv hr
              clear hr
              obtain ⟨v55, e55, hr⟩ := hq
              have hq := asI_inv hr
              clear hr
              obtain ⟨x55, rfl, hr⟩ := hq
              refine wo_step (v := (.i .i64 x55)) (s_pure (o_ext rfl e55)) ?_
              have hq := bindO_inv hr
              clear hr
              obtain ⟨v56, e56, hr⟩ := hq
              have hq := asI_inv hr
              clear hr
              obtain ⟨x56, rfl, hr⟩ := hq
              refine wo_step (v := (.i .i64 x56)) (s_pure (o_ext rfl e56)) ?_
              refine wo_step (v := (.i .i64 x54)) (s_pure (p_mv rfl)) ?_
              refine wo_step (v := (.i .i64 x55)) (s_pure (p_mv rfl)) ?_
              refine wo_step (v := (.i .i64 x56)) (s_pure (p_mv rfl)) ?_
              refine wo_nil ?_
              refine nx_norm ?_
              refine w_seq ?_
              refine w_seq ?_
              refine w_ops ?_
              refine wo_step (v := (.i .i64 x56)) (s_pure (p_mv rfl)) ?_
              have hq := forceB_inv hr
              clear hr
              obtain ⟨c58, e58, hr⟩ := hq
              refine wo_step (v := (.b c58)) (s_pure (p_bin rfl rfl (b_neq.trans (cb e58)))) ?_
              refine wo_step (v := (.b c58)) (s_pure (p_mv rfl)) ?_
              have hq := bindO_inv hr
              clear hr
              obtain ⟨o_4, hr, hk⟩ := hq
              refine wo_join 6 (g13_J4 x0 v2 v34 m_10 o_4) ?_ ?_
              · clear hk
                have hq := cond_inv hr
                clear hr
                rcases hq with ⟨rfl, hr⟩ | ⟨rfl, hr⟩
                · refine wo_skip (v := (.b true)) rfl rfl ?_
                  refine wo_skip (v := (.b true)) rfl rfl ?_
                  refine wo_skip (v := (.b true)) rfl rfl ?_
                  refine wo_skip (v := (.b true)) rfl rfl ?_
                  refine wo_skip (v := (.b true)) rfl rfl ?_
                  refine wo_step (v := (.b true)) (s_pure (p_pickT rfl rfl)) ?_
                  refine wo_nil ?_
                  cases hr
                  exact ⟨_, _, rfl, rfl, gl rfl, gl g0, gl g2, gl g7⟩
                · refine wo_take (v := v34) rfl (s_pure (p_mv g7)) ?_
                  have hq := bindO_inv hr
                  clear hr
                  obtain ⟨v61, e61, hr⟩ := hq
                  have hq := asI_inv hr
                  clear hr
                  obtain ⟨x61, rfl, hr⟩ := hq
                  refine wo_take (v := (.i .i64 x61)) rfl (s_pure (o_len rfl e61)) ?_
                  refine wo_take (v := (.i .i64 x0)) rfl (s_pure (p_mv g0)) ?_
                  have hq := chk_inv hr
                  clear hr
                  obtain ⟨hc63, hr⟩ := hq
                  have hq := forceI_inv hr
                  clear hr
                  obtain ⟨x63, e63, hr⟩ := hq
                  refine wo_take (v := (.i .i64 x63)) rfl (s_pure (p_bin rfl rfl ((b_shl hc63).trans (ci e63)))) ?_
                  have hq := forceB_inv hr
                  clear hr
                  obtain ⟨c64, e64, hr⟩ := hq
                  refine wo_take (v := (.b c64)) rfl (s_pure (p_bin rfl rfl (b_neq.trans (cb e64)))) ?_
                  refine wo_step (v := (.b c64)) (s_pure (p_pickF rfl rfl)) ?_
                  refine wo_nil ?_
                  cases hr
                  exact ⟨_, _, rfl, rfl, gl rfl, gl g0, gl g2, gl g7⟩
              · clear hr
                have hr := hk
                clear hk
                obtain ⟨c65, ho⟩ : ∃ z, z = o_4 := ⟨_, rfl⟩
                subst ho
                rintro mm_4 t_5 ⟨rfl, g65, g0, g2, g7⟩
                refine wo_nil ?_
                refine nx_norm ?_
                have hq := cond_inv hr
                clear hr
                rcases hq with ⟨rfl, hr⟩ | ⟨rfl, hr⟩
                · refine w_condT g65 ?_
                  refine w_seq ?_
                  refine w_ops ?_
                  refine wo_step (v := (.b false)) (s_pure (p_mv rfl)) ?_
                  refine wo_nil ?_
                  refine nx_norm ?_
                  refine w_ret ?_
                  refine nx_ret ?_
                  exact qf ret_ok (rt rfl rn) hr
                · refine w_condF g65 ?_
                  refine w_skip ?_
                  refine nx_norm ?_
                  refine w_seq ?_
                  refine w_ops ?_
                  refine wo_step (v := v34) (s_pure (p_mv g7)) ?_
                  have hq := bindO_inv hr
                  clear hr
                  obtain ⟨v67, e67, hr⟩ := hq
                  have hq := asI_inv hr
                  clear hr
                  obtain ⟨x67, rfl, hr⟩ := hq
                  refine wo_step (v := (.i .i64 x67)) (s_pure (o_len rfl e67)) ?_
                  have hq := forceI_inv hr
                  clear hr
                  obtain ⟨x68, e68, hr⟩ := hq
                  refine wo_step (v := (.i .i64 x68)) (s_pure (p_bin rfl rfl (b_sub.trans (ci e68)))) ?_
                  refine wo_step (v := (.i .i64 x68)) (s_pure (p_mv rfl)) ?_
                  refine wo_nil ?_
                  refine nx_norm ?_
                  refine w_seq ?_
                  refine w_seq ?_
                  refine w_ops ?_
                  refine wo_step (v := (.i .i64 0)) (s_pure (p_mv rfl)) ?_
                  refine wo_nil ?_
                  refine nx_norm ?_
                  refine w_block ?_
                  have hq := bindO_inv hr
                  clear hr
                  obtain ⟨o_6, hl, hr⟩ := hq
                  obtain ⟨n, hl⟩ := hM.loop _ _ _ hl
                  refine jp_mono (w_loop _ (g13_I5 x0 v2 v34 x68 m_10) (g13_J5 x0 v2 v34 x68 m_10) ?_ n _ _ _ _ hl ⟨rfl, gl rfl, gl g0, gl g2, gl g7, gl rfl⟩) ?_
                  · clear hr hl
                    intro s mm_12 t_6 o hi hr
                    obtain ⟨x13, hs⟩ : ∃ z, z = s := ⟨_, rfl⟩
                    subst hs
                    obtain ⟨rfl, g13, g0, g2, g7, g12⟩ := hi
                    unfold g13_b5 at hr
                    refine w_seq ?_
                    refine w_seq ?_
                    refine w_ops ?_
                    refine wo_step (v := (.i .i64 x13)) (s_pure (p_mv g13)) ?_
                    refine wo_step (v := v34) (s_pure (p_mv g7)) ?_
                    have hq := bindO_inv hr
                    clear hr
                    obtain ⟨v71, e71, hr⟩ := hq
                    have hq := asI_inv hr
                    clear hr
                    obtain ⟨x71, rfl, hr⟩ := hq
                    refine wo_step (v := (.i .i64 x71)) (s_pure (o_len rfl e71)) ?_
                    have hq := forceB_inv hr
                    clear hr
                    obtain ⟨c72, e72, hr⟩ := hq
                    refine wo_step (v := (.b c72)) (s_pure (p_bin rfl rfl (b_lss.trans (cb e72)))) ?_
                    refine wo_nil ?_
                    refine nx_norm ?_
                    have hq := cond_inv hr
                    clear hr
                    rcases hq with ⟨rfl, hr⟩ | ⟨rfl, hr⟩
                    · refine w_condT rfl ?_
                      refine w_skip ?_
                      refine nx_norm ?_
                      refine w_seq ?_
                      refine w_block ?_
                      refine w_seq ?_
                      refine w_any ?_
                      refine wa_step (v := v34) (a_pure (p_mv g7)) ?_
                      refine wa_step (v := (.i .i64 x13)) (a_pure (p_mv g13)) ?_
                      have hq := bindO_inv hr
                      clear hr
                      obtain ⟨v77, e77, hr⟩ := hq
                      refine wa_step (v := v77) (a_pure (o_ixS rfl rfl e77)) ?_
                      have hq := bindO_inv hr
                      clear hr
                      obtain ⟨v78, e78, hr⟩ := hq
                      have hq := asI_inv hr
                      clear hr
                      obtain ⟨x78, rfl, hr⟩ := hq
                      refine wa_step (v := (.i .i64 x78)) (a_ld rfl e78) ?_
                      refine wa_step (v := v34) (a_pure (p_mv g7)) ?_
                      refine wa_step (v := (.i .i64 x68)) (a_pure (p_mv g12)) ?_
                      refine wa_step (v := (.i .i64 x13)) (a_pure (p_mv g13)) ?_
                      have hq := forceI_inv hr
                      clear hr
                      obtain ⟨x82, e82, hr⟩ := hq
                      refine wa_step (v := (.i .i64 x82)) (a_pure (p_bin rfl rfl (b_sub.trans (ci e82)))) ?_
                      have hq := bindO_inv hr
                      clear hr
                      obtain ⟨v83, e83, hr⟩ := hq
                      refine wa_step (v := v83) (a_pure (o_ixS rfl rfl e83)) ?_
                      have hq := bindO_inv hr
                      clear hr
                      obtain ⟨v84, e84, hr⟩ := hq
                      have hq := asI_inv hr
                      clear hr
                      obtain ⟨x84, rfl, hr⟩ := hq
                      refine wa_step (v := (.i .i64 x84)) (a_ld rfl e84) ?_
                      have hq := forceB_inv hr
                      clear hr
                      obtain ⟨c85, e85, hr⟩ := hq
                      refine wa_step (v := (.b c85)) (a_pure (p_bin rfl rfl (b_neq.trans (cb e85)))) ?_
                      refine wa_step (v := (.b c85)) (a_pure (p_mv rfl)) ?_
                      have hq := bindO_inv hr
                      clear hr
                      obtain ⟨o_5, hr, hk⟩ := hq
                      refine wa_join 6 (JA (g13_J6 x0 v2 v34 x68 x13 m_10 o_5) m_10 (m_10.h) [] []) ?_ ?_
                      · clear hk
                        have hq := cond_inv hr
                        clear hr
                        rcases hq with ⟨rfl, hr⟩ | ⟨rfl, hr⟩
                        · refine wa_skip (v := (.b true)) rfl rfl ?_
                          refine wa_skip (v := (.b true)) rfl rfl ?_
                          refine wa_skip (v := (.b true)) rfl rfl ?_
                          refine wa_skip (v := (.b true)) rfl rfl ?_
                          refine wa_skip (v := (.b true)) rfl rfl ?_
                          refine wa_step (v := (.b true)) (a_pure (p_pickT rfl rfl)) ?_
                          refine wa_nil ?_
                          cases hr
                          exact ja_in ⟨rfl, gl rfl, gl g0, gl g2, gl g7, gl g12, gl g13⟩
                        · refine wa_take (v := v34) rfl (a_pure (p_mv g7)) ?_
                          refine wa_take (v := (.i .i64 x13)) rfl (a_pure (p_mv g13)) ?_
                          have hq := bindO_inv hr
                          clear hr
                          obtain ⟨v89, e89, hr⟩ := hq
                          refine wa_take (v := v89) rfl (a_pure (o_ixS rfl rfl e89)) ?_
                          have hq := bindO_inv hr
                          clear hr
                          obtain ⟨v90, e90, hr⟩ := hq
                          have hq := asI_inv hr
                          clear hr
                          obtain ⟨x90, rfl, hr⟩ := hq
                          refine wa_take (v := (.i .i64 x90)) rfl (a_ld rfl e90) ?_
                          have hq := forceB_inv hr
                          clear hr
                          obtain ⟨c91, e91, hr⟩ := hq
                          refine wa_take (v := (.b c91)) rfl (a_pure (p_bin rfl rfl (b_lss.trans (cb e91)))) ?_
                          refine wa_step (v := (.b c91)) (a_pure (p_pickF rfl rfl)) ?_
                          refine wa_nil ?_
                          cases hr
                          exact ja_in ⟨rfl, gl rfl, gl g0, gl g2, gl g7, gl g12, gl g13⟩
                      · clear hr
                        have hr := hk
                        clear hk
                        obtain ⟨c92, ho⟩ : ∃ z, z = o_5 := ⟨_, rfl⟩
                        subst ho
                        refine ja_out ?_
                        rintro t_7 ⟨-, g92, g0, g2, g7, g12, g13⟩
                        refine wa_nil ?_
                        refine ⟨m_10, rfl, ?_⟩
                        refine nx_norm ?_
                        have hq := cond_inv hr
                        clear hr
                        rcases hq with ⟨rfl, hr⟩ | ⟨rfl, hr⟩
                        · refine w_condT g92 ?_
                          refine w_seq ?_
                          refine w_ops ?_
                          refine wo_step (v := (.b false)) (s_pure (p_mv rfl)) ?_
                          refine wo_nil ?_
                          refine nx_norm ?_
                          refine w_ret ?_
                          refine bk_ret ?_
                          refine nx_ret ?_
                          cases hr
                          exact ⟨_, _, rfl, ne_norm_ret, rfl, rfl, gl rfl⟩
                        · refine w_condF g92 ?_
                          refine w_skip ?_
                          refine bk_norm ?_
                          refine nx_norm ?_
                          refine w_ops ?_
                          refine wo_step (v := (.i .i64 x13)) (s_pure (p_mv g13)) ?_
                          have hq := forceI_inv hr
                          clear hr
                          obtain ⟨x74, e74, hr⟩ := hq
                          refine wo_step (v := (.i .i64 x74)) (s_pure (p_bin rfl rfl (b_add.trans (ci e74)))) ?_
                          refine wo_step (v := (.i .i64 x74)) (s_pure (p_mv rfl)) ?_
                          refine wo_nil ?_
                          cases hr
                          exact ⟨_, _, rfl, rfl, rfl, gl rfl, gl g0, gl g2, gl g7, gl g12⟩
                    · refine w_condF rfl ?_
                      refine w_exit ?_
                      refine nx_exit ?_
                      cases hr
                      exact ⟨_, _, rfl, ne_norm_exit, rfl, rfl, gl g0, gl g2, gl g7, gl g12⟩
                  · rcases o_6 with o_6 | o_6
                    · rintro _ mm_10 t_8 ⟨rfl, rfl, g0, g2, g7, g12⟩
                      refine bk_hit ?_
                      refine nx_norm ?_
                      refine w_seq ?_
                      refine w_seq ?_
                      refine w_ops ?_
                      refine wo_step (v := v34) (s_pure (p_mv g7)) ?_
                      refine wo_step (v := (.i .i64 x68)) (s_pure (p_mv g12)) ?_
                      have hq := bindO_inv hr
                      clear hr
                      obtain ⟨v95, e95, hr⟩ := hq
                      refine wo_step (v := v95) (s_pure (o_ixS rfl rfl e95)) ?_
                      have hq := bindO_inv hr
                      clear hr
                      obtain ⟨v96, e96, hr⟩ := hq
                      have hq := asI_inv hr
                      clear hr
                      obtain ⟨x96, rfl, hr⟩ := hq
                      refine wo_step (v := (.i .i64 x96)) (s_ld rfl e96) ?_
                      have hq := forceB_inv hr
                      clear hr
                      obtain ⟨c97, e97, hr⟩ := hq
                      refine wo_step (v := (.b c97)) (s_pure (p_bin rfl rfl (b_neq.trans (cb e97)))) ?_
                      refine wo_step (v := (.b c97)) (s_pure (p_mv rfl)) ?_
                      have hq := bindO_inv hr
                      clear hr
                      obtain ⟨o_7, hr, hk⟩ := hq
                      refine wo_join 5 (g13_J7 x0 v2 v34 x68 o_7) ?_ ?_
                      · clear hk
                        have hq := cond_inv hr
                        clear hr
                        rcases hq with ⟨rfl, hr⟩ | ⟨rfl, hr⟩
                        · refine wo_skip (v := (.b true)) rfl rfl ?_
                          refine wo_skip (v := (.b true)) rfl rfl ?_
                          refine wo_skip (v := (.b true)) rfl rfl ?_
                          refine wo_skip (v := (.b true)) rfl rfl ?_
                          refine wo_step (v := (.b true)) (s_pure (p_pickT rfl rfl)) ?_
                          refine wo_nil ?_
                          cases hr
                          exact ⟨_, _, rfl, rfl, gl rfl, gl g0, gl g2, gl g7, gl g12⟩
                        · refine wo_take (v := (.i .i64 x0)) rfl (s_pure (p_mv g0)) ?_
                          refine wo_take (v := v2) rfl (s_pure (p_mv g2)) ?_
                          have hq := bindP_inv hr
                          clear hr
                          obtain ⟨v101, m_12, e101, hr⟩ := hq
                          have hq := asB_inv hr
                          clear hr
                          obtain ⟨c101, rfl, hr⟩ := hq
                          refine wo_take (v := (.b c101)) rfl (s_call (mc rfl (mc rfl mn)) (callM_le hM.call e101)) ?_
                          have hq := forceB_inv hr
                          clear hr
                          obtain ⟨c102, e102, hr⟩ := hq
                          refine wo_take (v := (.b c102)) rfl (s_pure ((p_not rfl).trans (cb e102))) ?_
                          refine wo_step (v := (.b c102)) (s_pure (p_pickF rfl rfl)) ?_
                          refine wo_nil ?_
                          cases hr
                          exact ⟨_, _, rfl, rfl, gl rfl, gl g0, gl g2, gl g7, gl g12⟩
                      · clear hr
                        have hr := hk
                        clear hk
                        obtain ⟨c103, m_11⟩ := o_7
                        rintro mm_5 t_9 ⟨rfl, g103, g0, g2, g7, g12⟩
                        refine wo_nil ?_
                        refine nx_norm ?_
                        have hq := cond_inv hr
                        clear hr
                        rcases hq with ⟨rfl, hr⟩ | ⟨rfl, hr⟩
                        · refine w_condT g103 ?_
                          refine w_seq ?_
                          refine w_ops ?_
                          refine wo_step (v := v34) (s_pure (p_mv g7)) ?_
                          refine wo_step (v := (.i .i64 x68)) (s_pure (p_mv g12)) ?_
                          have hq := bindO_inv hr
                          clear hr
                          obtain ⟨v106, e106, hr⟩ := hq
                          refine wo_step (v := v106) (s_pure (o_ixS rfl rfl e106)) ?_
                          have hq := bindO_inv hr
                          clear hr
                          obtain ⟨v107, e107, hr⟩ := hq
                          have hq := asI_inv hr
                          clear hr
                          obtain ⟨x107, rfl, hr⟩ := hq
                          refine wo_step (v := (.i .i64 x107)) (s_ld rfl e107) ?_
                          have hq := forceB_inv hr
                          clear hr
                          obtain ⟨c108, e108, hr⟩ := hq
                          refine wo_step (v := (.b c108)) (s_pure (p_bin rfl rfl (b_eql.trans (cb e108)))) ?_
                          refine wo_step (v := (.b c108)) (s_pure (p_mv rfl)) ?_
                          have hq := bindO_inv hr
                          clear hr
                          obtain ⟨o_8, hr, hk⟩ := hq
                          refine wo_join 2 (g13_J8  o_8) ?_ ?_
                          · clear hk
                            have hq := cond_inv hr
                            clear hr
                            rcases hq with ⟨rfl, hr⟩ | ⟨rfl, hr⟩
                            · have hq := bindP_inv hr
                              clear hr
                              obtain ⟨v110, m_14, e110, hr⟩ := hq
                              have hq := asB_inv hr
                              clear hr
                              obtain ⟨c110, rfl, hr⟩ := hq
                              refine wo_take (v := (.b c110)) rfl (s_call mn (callM_le hM.call e110)) ?_
                              refine wo_step (v := (.b c110)) (s_pure (p_pickT rfl rfl)) ?_
                              refine wo_nil ?_
                              cases hr
                              exact ⟨_, _, rfl, rfl, gl rfl⟩
                            · refine wo_skip (v := (.b false)) rfl rfl ?_
                              refine wo_step (v := (.b false)) (s_pure (p_pickF rfl rfl)) ?_
                              refine wo_nil ?_
                              cases hr
                              exact ⟨_, _, rfl, rfl, gl rfl⟩
                          · clear hr
                            have hr := hk
                            clear hk
                            obtain ⟨c111, m_13⟩ := o_8
                            rintro mm_6 t_10 ⟨rfl, g111⟩
                            refine wo_step (v := (.b c111)) (s_pure (p_mv g111)) ?_
                            refine wo_nil ?_
                            refine nx_norm ?_
                            refine w_ret ?_
                            refine nx_ret ?_
                            exact qf ret_ok (rt rfl rn) hr
                        · refine w_condF g103 ?_
                          refine w_skip ?_
                          refine nx_norm ?_
                          refine w_seq ?_
                          refine w_ops ?_
                          refine wo_step (v := (.i .i64 x0)) (s_pure (p_mv g0)) ?_
                          refine wo_step (v := v34) (s_pure (p_mv g7)) ?_
                          refine wo_step (v := v2) (s_pure (p_mv g2)) ?_
                          have hq := bindP_inv hr
                          clear hr
                          obtain ⟨v116, m_15, e116, hr⟩ := hq
                          refine wo_step (v := v116) (s_call (mc rfl (mc rfl (mc rfl mn))) (callM_le hM.call e116)) ?_
                          refine wo_step (v := v116) (s_pure (p_mv rfl)) ?_
                          have hq := bindO_inv hr
                          clear hr
                          obtain ⟨v117, e117, hr⟩ := hq
                          refine wo_step (v := v117) (s_pure (o_ext rfl e117)) ?_
                          have hq := bindO_inv hr
                          clear hr
                          obtain ⟨v118, e118, hr⟩ := hq
                          have hq := asI_inv hr
                          clear hr
                          obtain ⟨x118, rfl, hr⟩ := hq
                          refine wo_step (v := (.i .i64 x118)) (s_pure (o_ext rfl e118)) ?_
                          refine wo_step (v := v117) (s_pure (p_mv rfl)) ?_
                          refine wo_step (v := (.i .i64 x118)) (s_pure (p_mv rfl)) ?_
                          refine wo_nil ?_
                          refine nx_norm ?_
                          refine w_seq ?_
                          refine w_seq ?_
                          refine w_ops ?_
                          refine wo_step (v := (.i .i64 x118)) (s_pure (p_mv rfl)) ?_
                          have hq := forceB_inv hr
                          clear hr
                          obtain ⟨c120, e120, hr⟩ := hq
                          refine wo_step (v := (.b c120)) (s_pure (p_bin rfl rfl (b_neq.trans (cb e120)))) ?_
                          refine wo_nil ?_
                          refine nx_norm ?_
                          have hq := cond_inv hr
                          clear hr
                          rcases hq with ⟨rfl, hr⟩ | ⟨rfl, hr⟩
                          · refine w_condT rfl ?_
                            refine w_seq ?_
                            refine w_ops ?_
                            refine wo_step (v := (.i .i64 x118)) (s_pure (p_mv rfl)) ?_
                            have hq := forceB_inv hr
                            clear hr
                            obtain ⟨c122, e122, hr⟩ := hq
                            refine wo_step (v := (.b c122)) (s_pure (p_bin rfl rfl (b_eql.trans (cb e122)))) ?_
                            refine wo_step (v := (.b c122)) (s_pure (p_mv rfl)) ?_
                            have hq := bindO_inv hr
                            clear hr
                            obtain ⟨o_9, hr, hk⟩ := hq
                            refine wo_join 4 (g13_J9 m_15 o_9) ?_ ?_
                            · clear hk
                              have hq := cond_inv hr
                              clear hr
                              rcases hq with ⟨rfl, hr⟩ | ⟨rfl, hr⟩
                              · refine wo_take (v := v117) rfl (s_pure (p_mv rfl)) ?_
                                have hq := bindO_inv hr
                                clear hr
                                obtain ⟨v125, e125, hr⟩ := hq
                                have hq := asI_inv hr
                                clear hr
                                obtain ⟨x125, rfl, hr⟩ := hq
                                refine wo_take (v := (.i .i64 x125)) rfl (s_pure (o_len rfl e125)) ?_
                                have hq := forceB_inv hr
                                clear hr
                                obtain ⟨c126, e126, hr⟩ := hq
                                refine wo_take (v := (.b c126)) rfl (s_pure (p_bin rfl rfl (b_eql.trans (cb e126)))) ?_
                                refine wo_step (v := (.b c126)) (s_pure (p_pickT rfl rfl)) ?_
                                refine wo_nil ?_
                                cases hr
                                exact ⟨_, _, rfl, rfl, gl rfl⟩
                              · refine wo_skip (v := (.b false)) rfl rfl ?_
                                refine wo_skip (v := (.b false)) rfl rfl ?_
                                refine wo_skip (v := (.b false)) rfl rfl ?_
                                refine wo_step (v := (.b false)) (s_pure (p_pickF rfl rfl)) ?_
                                refine wo_nil ?_
                                cases hr
                                exact ⟨_, _, rfl, rfl, gl rfl⟩
                            · clear hr
                              have hr := hk
                              clear hk
                              obtain ⟨c127, ho⟩ : ∃ z, z = o_9 := ⟨_, rfl⟩
                              subst ho
                              rintro mm_7 t_11 ⟨rfl, g127⟩
                              refine wo_step (v := (.b c127)) (s_pure (p_mv g127)) ?_
                              have hq := bindO_inv hr
                              clear hr
                              obtain ⟨o_10, hr, hk⟩ := hq
                              refine wo_join 2 (g13_J10  o_10) ?_ ?_
                              · clear hk
                                have hq := cond_inv hr
                                clear hr
                                rcases hq with ⟨rfl, hr⟩ | ⟨rfl, hr⟩
                                · have hq := bindP_inv hr
                                  clear hr
                                  obtain ⟨v129, m_17, e129, hr⟩ := hq
                                  have hq := asB_inv hr
                                  clear hr
                                  obtain ⟨c129, rfl, hr⟩ := hq
                                  refine wo_take (v := (.b c129)) rfl (s_call mn (callM_le hM.call e129)) ?_
                                  refine wo_step (v := (.b c129)) (s_pure (p_pickT rfl rfl)) ?_
                                  refine wo_nil ?_
                                  cases hr
                                  exact ⟨_, _, rfl, rfl, gl rfl⟩
                                · refine wo_skip (v := (.b false)) rfl rfl ?_
                                  refine wo_step (v := (.b false)) (s_pure (p_pickF rfl rfl)) ?_
                                  refine wo_nil ?_
                                  cases hr
                                  exact ⟨_, _, rfl, rfl, gl rfl⟩
                              · clear hr
                                have hr := hk
                                clear hk
                                obtain ⟨c130, m_16⟩ := o_10
                                rintro mm_8 t_12 ⟨rfl, g130⟩
                                refine wo_step (v := (.b c130)) (s_pure (p_mv g130)) ?_
                                refine wo_nil ?_
                                refine nx_norm ?_
                                refine w_ret ?_
                                refine nx_ret ?_
                                exact qf ret_ok (rt rfl rn) hr
                          · refine w_condF rfl ?_
                            refine w_skip ?_
                            refine nx_norm ?_
                            refine w_seq ?_
                            refine w_ops ?_
                            refine wo_step (v := (.i .i64 x0)) (s_pure (p_mv g0)) ?_
                            refine wo_step (v := v117) (s_pure (p_mv rfl)) ?_
                            have hq := bindP_inv hr
                            clear hr
                            obtain ⟨v134, m_18, e134, hr⟩ := hq
                            refine wo_step (v := v134) (s_call (mc rfl (mc rfl mn)) (callM_le hM.call e134)) ?_
                            refine wo_step (v := v134) (s_pure (p_mv rfl)) ?_
                            have hq := bindO_inv hr
                            clear hr
                            obtain ⟨v135, e135, hr⟩ := hq
                            have hq := asI_inv hr
                            clear hr
                            obtain ⟨x135, rfl, hr⟩ := hq
                            refine wo_step (v := (.i .i64 x135)) (s_pure (o_ext rfl e135)) ?_
                            have hq := bindO_inv hr
                            clear hr
                            obtain ⟨v136, e136, hr⟩ := hq
                            have hq := asI_inv hr
                            clear hr
                            obtain ⟨x136, rfl, hr⟩ := hq
                            refine wo_step (v := (.i .i64 x136)) (s_pure (o_ext rfl e136)) ?_
                            have hq := bindO_inv hr
                            clear hr
                            obtain ⟨v137, e137, hr⟩ := hq
                            have hq := asI_inv hr
                            clear hr
                            obtain ⟨x137, rfl, hr⟩ := hq
                            refine wo_step (v := (.i .i64 x137)) (s_pure (o_ext rfl e137)) ?_
                            refine wo_step (v := (.i .i64 x137)) (s_pure (p_mv rfl)) ?_
                            refine wo_nil ?_
                            refine nx_norm ?_
                            refine w_seq ?_
                            refine w_ops ?_
                            refine wo_step (v := (.i .i64 x137)) (s_pure (p_mv rfl)) ?_
                            have hq := forceB_inv hr
                            clear hr
                            obtain ⟨c139, e139, hr⟩ := hq
                            refine wo_step (v := (.b c139)) (s_pure (p_bin rfl rfl (b_eql.trans (cb e139)))) ?_
                            refine wo_step (v := (.b c139)) (s_pure (p_mv rfl)) ?_
                            have hq := bindO_inv hr
                            clear hr
                            obtain ⟨o_11, hr, hk⟩ := hq
                            refine wo_join 2 (g13_J11  o_11) ?_ ?_
                            · clear hk
                              have hq := cond_inv hr
                              clear hr
                              rcases hq with ⟨rfl, hr⟩ | ⟨rfl, hr⟩
                              · have hq := bindP_inv hr
                                clear hr
                                obtain ⟨v141, m_20, e141, hr⟩ := hq
                                have hq := asB_inv hr
                                clear hr
                                obtain ⟨c141, rfl, hr⟩ := hq
                                refine wo_take (v := (.b c141)) rfl (s_call mn (callM_le hM.call e141)) ?_
                                refine wo_step (v := (.b c141)) (s_pure (p_pickT rfl rfl)) ?_
                                refine wo_nil ?_
                                cases hr
                                exact ⟨_, _, rfl, rfl, gl rfl⟩
                              · refine wo_skip (v := (.b false)) rfl rfl ?_
                                refine wo_step (v := (.b false)) (s_pure (p_pickF rfl rfl)) ?_
                                refine wo_nil ?_
                                cases hr
                                exact ⟨_, _, rfl, rfl, gl rfl⟩
                            · clear hr
                              have hr := hk
                              clear hk
                              obtain ⟨c142, m_19⟩ := o_11
                              rintro mm_9 t_13 ⟨rfl, g142⟩
                              refine wo_step (v := (.b c142)) (s_pure (p_mv g142)) ?_
                              refine wo_nil ?_
                              refine nx_norm ?_
                              refine w_ret ?_
                              exact qf ret_ok (rt rfl rn) hr
                    · obtain ⟨c6, ho⟩ : ∃ z, z = o_6 := ⟨_, rfl⟩
                      subst ho
                      rintro _ mm_11 t_14 ⟨rfl, rfl, g6⟩
                      refine bk_ret ?_
                      refine nx_ret ?_
                      exact qf ret_ok (rt g6 rn) hr

/- dibber/dibberlaw08.few -/
abbrev g14_I0 (v0 : AVal) (m0 : Mm) (s : Int) (m1 : Mm) (t1 : Tr) : Prop :=
  match s with
  | x3 => m0 = m1 ∧ t1.get 3 = (.i .i64 x3) ∧ t1.get 0 = v0
abbrev g14_J0 (v0 : AVal) (m0 : Mm) (o : (Unit ⊕ Bool)) (e : AExit) (m1 : Mm) (t1 : Tr) : Prop :=
  match o with
  | (.inl _) => e = (.exit 0) ∧ m0 = m1
  | (.inr y2) => e = .ret ∧ m0 = m1 ∧ t1.get 2 = (.b y2)
def g14_b0 (M : Means) (ro : List ABlk) (v0 : AVal) (m0 : Mm) (x3 : Int) : Option ((Int) ⊕ ((Unit ⊕ Bool))) :=
  bindO (evP .e (.len false (.c v0))) fun v6 =>
  asI .i64 v6 fun x6 =>
  forceB (ltI x3 x6) fun c7 =>
  cond c7 (
    bindO (evP .e (.ixS 1 (.c v0) (.c (.i .i64 x3)))) fun v12 =>
    bindO (ldM ro m0 true 1 v12) fun v13 =>
    bindO (evP .e (.len false (.c v13))) fun v14 =>
    asI .i64 v14 fun x14 =>
    forceB (ltI 100 x14) fun c15 =>
    cond c15 (
      some (.inr (.inr false))) (
      forceI (wr .i64 (x3 + 1)) fun x9 =>
      some (.inl x9))) (
    some (.inr (.inl ())))
def g14 (M : Means) (ro : List ABlk) (v0 : AVal) (m0 : Mm) : Option (AVal × Heap × Nat × Nat) :=
  bindO (M.loop (S := Int) (R := (Unit ⊕ Bool)) (fun s => g14_b0 M ro v0 m0 s) 0) fun o => match o with
  | (.inl _) =>
    finM m0.h.length (tupA [(.b true)]) m0
  | (.inr c2) =>
    finM m0.h.length (tupA [(.b c2)]) m0

theorem g14_ok {ro : List ABlk} {O : Caller} {M : Means} (hM : M.Ok ⟨F, O⟩ ro) {v0 h r} (ho : O 14 [v0] h = none) (hr : g14 M ro v0 ⟨h, h.length, h.length⟩ = some r) : callX ⟨F, O⟩ ro 14 [v0] h = some r := by
  refine callX_of (F := ⟨F, O⟩) (fn := fn14) (g := g14 M ro v0) ho rfl rfl hr ?_
  clear ho
  clear hr
  intro m0 t0 ht hr
  have g0 : t0.get 0 = v0 := ht 0
  clear ht
  unfold g14 at hr
  refine w_seq ?_
  refine w_ops ?_
  refine wo_step (v := (.b false)) (s_pure (p_mv rfl)) ?_
  refine wo_nil ?_
  refine nx_norm ?_
  refine w_seq ?_
  refine w_seq ?_
  refine w_ops ?_
  refine wo_step (v := (.i .i64 0)) (s_pure (p_mv rfl)) ?_
  refine wo_nil ?_
  refine nx_norm ?_
  refine w_block ?_
  have hq := bindO_inv hr
  clear hr
  obtain ⟨o, hl, hr⟩ := hq
  obtain ⟨n, hl⟩ := hM.loop _ _ _ hl
  refine jp_mono (w_loop _ (g14_I0 v0 m0) (g14_J0 v0 m0) ?_ n _ _ _ _ hl ⟨rfl, gl rfl, gl g0⟩) ?_
  · clear hr hl
    intro s mm_2 t_1 o hi hr
    obtain ⟨x3, hs⟩ : ∃ z, z = s := ⟨_, rfl⟩
    subst hs
    obtain ⟨rfl, g3, g0⟩ := hi
    unfold g14_b0 at hr
    refine w_seq ?_
    refine w_seq ?_
    refine w_ops ?_
    refine wo_step (v := (.i .i64 x3)) (s_pure (p_mv g3)) ?_
    refine wo_step (v := v0) (s_pure (p_mv g0)) ?_
    have hq := bindO_inv hr
    clear hr
    obtain ⟨v6, e6, hr⟩ := hq
    have hq := asI_inv hr
    clear hr
    obtain ⟨x6, rfl, hr⟩ := hq
    refine wo_step (v := (.i .i64 x6)) (s_pure (o_len rfl e6)) ?_
    have hq := forceB_inv hr
    clear hr
    obtain ⟨c7, e7, hr⟩ := hq
    refine wo_step (v := (.b c7)) (s_pure (p_bin rfl rfl (b_lss.trans (cb e7)))) ?_
    refine wo_nil ?_
    refine nx_norm ?_
    have hq := cond_inv hr
    clear hr
    rcases hq with ⟨rfl, hr⟩ | ⟨rfl, hr⟩
    · refine w_condT rfl ?_
      refine w_skip ?_
      refine nx_norm ?_
      refine w_seq ?_
      refine w_block ?_
      refine w_seq ?_
      refine w_ops ?_
      refine wo_step (v := v0) (s_pure (p_mv g0)) ?_
      refine wo_step (v := (.i .i64 x3)) (s_pure (p_mv g3)) ?_
      have hq := bindO_inv hr
      clear hr
      obtain ⟨v12, e12, hr⟩ := hq
      refine wo_step (v := v12) (s_pure (o_ixS rfl rfl e12)) ?_
      have hq := bindO_inv hr
      clear hr
      obtain ⟨v13, e13, hr⟩ := hq
      refine wo_step (v := v13) (s_ld rfl e13) ?_
      have hq := bindO_inv hr
      clear hr
      obtain ⟨v14, e14, hr⟩ := hq
      have hq := asI_inv hr
      clear hr
      obtain ⟨x14, rfl, hr⟩ := hq
      refine wo_step (v := (.i .i64 x14)) (s_pure (o_len rfl e14)) ?_
      have hq := forceB_inv hr
      clear hr
      obtain ⟨c15, e15, hr⟩ := hq
      refine wo_step (v := (.b c15)) (s_pure (p_bin rfl rfl (b_gtr.trans (cb e15)))) ?_
      refine wo_nil ?_
      refine nx_norm ?_
      have hq := cond_inv hr
      clear hr
      rcases hq with ⟨rfl, hr⟩ | ⟨rfl, hr⟩
      · refine w_condT rfl ?_
        refine w_seq ?_
        refine w_ops ?_
        refine wo_step (v := (.b false)) (s_pure (p_mv rfl)) ?_
        refine wo_nil ?_
        refine nx_norm ?_
        refine w_ret ?_
        refine bk_ret ?_
        refine nx_ret ?_
        cases hr
        exact ⟨_, _, rfl, ne_norm_ret, rfl, rfl, gl rfl⟩
      · refine w_condF rfl ?_
        refine w_skip ?_
        refine bk_norm ?_
        refine nx_norm ?_
        refine w_ops ?_
        refine wo_step (v := (.i .i64 x3)) (s_pure (p_mv g3)) ?_
        have hq := forceI_inv hr
        clear hr
        obtain ⟨x9, e9, hr⟩ := hq
        refine wo_step (v := (.i .i64 x9)) (s_pure (p_bin rfl rfl (b_add.trans (ci e9)))) ?_
        refine wo_step (v := (.i .i64 x9)) (s_pure (p_mv rfl)) ?_
        refine wo_nil ?_
        cases hr
        exact ⟨_, _, rfl, rfl, rfl, gl rfl, gl g0⟩
    · refine w_condF rfl ?_
      refine w_exit ?_
      refine nx_exit ?_
      cases hr
      exact ⟨_, _, rfl, ne_norm_exit, rfl, rfl⟩
  · rcases o with o | o
    · rintro _ mm t_2 ⟨rfl, rfl⟩
      refine bk_hit ?_
      refine nx_norm ?_
      refine w_seq ?_
      refine w_ops ?_
      refine wo_step (v := (.b true)) (s_pure (p_mv rfl)) ?_
      refine wo_nil ?_
      refine nx_norm ?_
      refine w_ret ?_
      exact qf ret_ok (rt rfl rn) hr
    · obtain ⟨c2, ho⟩ : ∃ z, z = o := ⟨_, rfl⟩
      subst ho
      rintro _ mm_1 t_3 ⟨rfl, rfl, g2⟩
      refine bk_ret ?_
      refine nx_ret ?_
      exact qf ret_ok (rt g2 rn) hr

/- dibber/share.Check -/
abbrev g16_I0 (x0 : Int) (v1 : AVal) (v15 : AVal) (x16 : Int) (s : Int × Mm) (m1 : Mm) (t1 : Tr) : Prop :=
  match s with
  | (x17, m_3) => m_3 = m1 ∧ t1.get 17 = (.i .i64 x17) ∧ t1.get 0 = (.i .i64 x0) ∧ t1.get 1 = v1 ∧ t1.get 15 = v15 ∧ t1.get 16 = (.i .i64 x16)
abbrev g16_J0 (x0 : Int) (v1 : AVal) (v15 : AVal) (x16 : Int) (o : (Mm ⊕ (Int × Int × Int × Mm))) (e : AExit) (m1 : Mm) (t1 : Tr) : Prop :=
  match o with
  | (.inl mo) => e = (.exit 0) ∧ mo = m1
  | (.inr (y4, y5, y6, mo)) => e = .ret ∧ mo = m1 ∧ t1.get 4 = (.i .i64 y4) ∧ t1.get 5 = (.i .i64 y5) ∧ t1.get 6 = (.i .i64 y6)
def g16_b0 (M : Means) (ro : List ABlk) (x0 : Int) (v1 : AVal) (v15 : AVal) (x16 : Int) (x17 : Int) (m_3 : Mm) : Option ((Int × Mm) ⊕ ((Mm ⊕ (Int × Int × Int × Mm)))) :=
  forceB (ltI x17 x16) fun c18 =>
  cond c18 (
    bindO (evP .e (.ixS 1 (.c v15) (.c (.i .i64 x17)))) fun v19 =>
    bindO (ldM ro m_3 true 1 v19) fun v20 =>
    asI .i64 v20 fun x20 =>
    bindP (callM M.call m_3 46 [(.i .i64 x20)]) fun v23 m_4 =>
    bindP (callM M.call m_4 47 [v1, (.i .i64 x20)]) fun v26 m_5 =>
    bindP (stepM ro m_5 (.bsl 53 1 [AVal.nfn] 2 [((0, 1), .c v23), ((1, 1), .c v26)])) fun v27 m_6 =>
    bindP (callM M.call m_6 45 [(.i .i64 x0), v27]) fun v28 m_7 =>
    bindO (evP .e (.len false (.c v28))) fun v30 =>
    asI .i64 v30 fun x30 =>
    forceB (ltI 0 x30) fun c31 =>
    cond c31 (
      bindO (evP .e (.ixS 1 (.c v28) (.c (.i .i64 0)))) fun v34 =>
      bindO (ldM ro m_7 true 1 v34) fun v35 =>
      asI .i64 v35 fun x35 =>
      some (.inr (.inr (x20, x35, 0, m_7)))) (
      forceI (wr .i64 (x17 + 1)) fun x36 =>
      some (.inl (x36, m_7)))) (
    some (.inr (.inl m_3)))
def g16 (M : Means) (ro : List ABlk) (x0 : Int) (v1 : AVal) (m0 : Mm) : Option (AVal × Heap × Nat × Nat) :=
  bindP (callM M.call m0 44 [(.i .i64 x0), v1]) fun v12 m_1 =>
  asB v12 fun c12 =>
  forceB (!c12) fun c13 =>
  cond c13 (
    finM m0.h.length (tupA [(.i .i64 0), (.i .i64 0), (.i .i64 2)]) m_1) (
    bindP (callM M.call m_1 45 [(.i .i64 x0), AVal.nsl]) fun v15 m_2 =>
    bindO (evP .e (.len false (.c v15))) fun v16 =>
    asI .i64 v16 fun x16 =>
    bindO (M.loop (S := Int × Mm) (R := (Mm ⊕ (Int × Int × Int × Mm))) (fun s => g16_b0 M ro x0 v1 v15 x16 s.1 s.2) (0, m_2)) fun o => match o with
    | (.inl m_8) =>
      finM m0.h.length (tupA [(.i .i64 0), (.i .i64 0), (.i .i64 10)]) m_8
    | (.inr (x4, x5, x6, m_9)) =>
      finM m0.h.length (tupA [(.i .i64 x4), (.i .i64 x5), (.i .i64 x6)]) m_9)

theorem g16_ok {ro : List ABlk} {O : Caller} {M : Means} (hM : M.Ok ⟨F, O⟩ ro) {x0 v1 h r} (ho : O 16 [(.i .i64 x0), v1] h = none) (hr : g16 M ro x0 v1 ⟨h, h.length, h.length⟩ = some r) : callX ⟨F, O⟩ ro 16 [(.i .i64 x0), v1] h = some r := by
  refine callX_of (F := ⟨F, O⟩) (fn := fn16) (g := g16 M ro x0 v1) ho rfl rfl hr ?_
  clear ho
  clear hr
  intro m0 t0 ht hr
  have g0 : t0.get 0 = (.i .i64 x0) := ht 0
  have g1 : t0.get 1 = v1 := ht 1
  clear ht
  unfold g16 at hr
  refine w_seq ?_
  refine w_ops ?_
  refine wo_step (v := (.i .i64 0)) (s_pure (p_mv rfl)) ?_
  refine wo_step (v := (.i .i64 0)) (s_pure (p_mv rfl)) ?_
  refine wo_step (v := (.i .i64 0)) (s_pure (p_mv rfl)) ?_
  refine wo_nil ?_
  refine nx_norm ?_
  refine w_seq ?_
  refine w_seq ?_
  refine w_ops ?_
  refine wo_step (v := (.i .i64 x0)) (s_pure (p_mv g0)) ?_
  refine wo_step (v := v1) (s_pure (p_mv g1)) ?_
  have hq := bindP_inv hr
  clear hr
  obtain ⟨v12, m_1, e12, hr⟩ := hq
  have hq := asB_inv hr
  clear hr
  obtain ⟨c12, rfl, hr⟩ := hq
  refine wo_step (v := (.b c12)) (s_call (mc rfl (mc rfl mn)) (callM_le hM.call e12)) ?_
  have hq := forceB_inv hr
  clear hr
  obtain ⟨c13, e13, hr⟩ := hq
  refine wo_step (v := (.b c13)) (s_pure ((p_not rfl).trans (cb e13))) ?_
  refine wo_nil ?_
  refine nx_norm ?_
  have hq := cond_inv hr
  clear hr
  rcases hq with ⟨rfl, hr⟩ | ⟨rfl, hr⟩
  · refine w_condT rfl ?_
    refine w_seq ?_
    refine w_ops ?_
    refine wo_step (v := (.i .i64 0)) (s_pure (p_mv rfl)) ?_
    refine wo_step (v := (.i .i64 0)) (s_pure (p_mv rfl)) ?_
    refine wo_step (v := (.i .i64 2)) (s_pure (p_mv rfl)) ?_
    refine wo_nil ?_
    refine nx_norm ?_
    refine w_ret ?_
    refine nx_ret ?_
    exact qf ret_ok (rt rfl (rt rfl (rt rfl rn))) hr
  · refine w_condF rfl ?_
    refine w_skip ?_
    refine nx_norm ?_
    refine w_seq ?_
    refine w_seq ?_
    refine w_ops ?_
    refine wo_step (v := (.i .i64 x0)) (s_pure (p_mv g0)) ?_
    have hq := bindP_inv hr
    clear hr
    obtain ⟨v15, m_2, e15, hr⟩ := hq
    refine wo_step (v := v15) (s_call (mc rfl (mc rfl mn)) (callM_le hM.call e15)) ?_
    have hq := bindO_inv hr
    clear hr
    obtain ⟨v16, e16, hr⟩ := hq
    have hq := asI_inv hr
    clear hr
    obtain ⟨x16, rfl, hr⟩ := hq
    refine wo_step (v := (.i .i64 x16)) (s_pure (o_len rfl e16)) ?_
    refine wo_step (v := (.i .i64 0)) (s_pure (p_mv rfl)) ?_
    refine wo_nil ?_
    refine nx_norm ?_
    refine w_block ?_
    have hq := bindO_inv hr
    clear hr
    obtain ⟨o, hl, hr⟩ := hq
    obtain ⟨n, hl⟩ := hM.loop _ _ _ hl
    refine jp_mono (w_loop _ (g16_I0 x0 v1 v15 x16) (g16_J0 x0 v1 v15 x16) ?_ n _ _ _ _ hl ⟨rfl, gl rfl, gl g0, gl g1, gl rfl, gl rfl⟩) ?_
    · clear hr hl
      intro s mm_2 t_1 o hi hr
      obtain ⟨x17, m_3⟩ := s
      obtain ⟨rfl, g17, g0, g1, g15, g16⟩ := hi
      unfold g16_b0 at hr
      refine w_seq ?_
      refine w_ops ?_
      have hq := forceB_inv hr
      clear hr
      obtain ⟨c18, e18, hr⟩ := hq
      refine wo_step (v := (.b c18)) (s_pure (p_bin g17 g16 (b_lss.trans (cb e18)))) ?_
      refine wo_nil ?_
      refine nx_norm ?_
      refine w_seq ?_
      have hq := cond_inv hr
      clear hr
      rcases hq with ⟨rfl, hr⟩ | ⟨rfl, hr⟩
      · refine w_condT rfl ?_
        refine w_skip ?_
        refine nx_norm ?_
        refine w_seq ?_
        refine w_block ?_
        refine w_seq ?_
        refine w_ops ?_
        have hq := bindO_inv hr
        clear hr
        obtain ⟨v19, e19, hr⟩ := hq
        refine wo_step (v := v19) (s_pure (o_ixS g15 g17 e19)) ?_
        have hq := bindO_inv hr
        clear hr
        obtain ⟨v20, e20, hr⟩ := hq
        have hq := asI_inv hr
        clear hr
        obtain ⟨x20, rfl, hr⟩ := hq
        refine wo_step (v := (.i .i64 x20)) (s_ld rfl e20) ?_
        refine wo_step (v := (.i .i64 x20)) (s_pure (p_mv rfl)) ?_
        refine wo_nil ?_
        refine nx_norm ?_
        refine w_seq ?_
        refine w_ops ?_
        refine wo_step (v := (.i .i64 x0)) (s_pure (p_mv g0)) ?_
        refine wo_step (v := (.i .i64 x20)) (s_pure (p_mv rfl)) ?_
        have hq := bindP_inv hr
        clear hr
        obtain ⟨v23, m_4, e23, hr⟩ := hq
        refine wo_step (v := v23) (s_call (mc rfl mn) (callM_le hM.call e23)) ?_
        refine wo_step (v := v1) (s_pure (p_mv g1)) ?_
        refine wo_step (v := (.i .i64 x20)) (s_pure (p_mv rfl)) ?_
        have hq := bindP_inv hr
        clear hr
        obtain ⟨v26, m_5, e26, hr⟩ := hq
        refine wo_step (v := v26) (s_call (mc rfl (mc rfl mn)) (callM_le hM.call e26)) ?_
        have hq := bindP_inv hr
        clear hr
        obtain ⟨v27, m_6, e27, hr⟩ := hq
        refine wo_step (v := v27) (s_bsl (qc rfl (qc rfl qn)) e27) ?_
        have hq := bindP_inv hr
        clear hr
        obtain ⟨v28, m_7, e28, hr⟩ := hq
        refine wo_step (v := v28) (s_call (mc rfl (mc rfl mn)) (callM_le hM.call e28)) ?_
        refine wo_step (v := v28) (s_pure (p_mv rfl)) ?_
        refine wo_nil ?_
        refine nx_norm ?_
        refine w_seq ?_
        refine w_ops ?_
        refine wo_step (v := v28) (s_pure (p_mv rfl)) ?_
        have hq := bindO_inv hr
        clear hr
        obtain ⟨v30, e30, hr⟩ := hq
        have hq := asI_inv hr
        clear hr
        obtain ⟨x30, rfl, hr⟩ := hq
        refine wo_step (v := (.i .i64 x30)) (s_pure (o_len rfl e30)) ?_
        have hq := forceB_inv hr
        clear hr
        obtain ⟨c31, e31, hr⟩ := hq
        refine wo_step (v := (.b c31)) (s_pure (p_bin rfl rfl (b_gtr.trans (cb e31)))) ?_
        refine wo_nil ?_
        refine nx_norm ?_
        have hq := cond_inv hr
        clear hr
        rcases hq with ⟨rfl, hr⟩ | ⟨rfl, hr⟩
        · refine w_condT rfl ?_
          refine w_seq ?_
          refine w_ops ?_
          refine wo_step (v := (.i .i64 x20)) (s_pure (p_mv rfl)) ?_
          refine wo_step (v := v28) (s_pure (p_mv rfl)) ?_
          have hq := bindO_inv hr
          clear hr
          obtain ⟨v34, e34, hr⟩ := hq
          refine wo_step (v := v34) (s_pure (o_ixS rfl rfl e34)) ?_
          refine wo_step (v := (.i .i64 x20)) (s_pure (p_mv rfl)) ?_
          have hq := bindO_inv hr
          clear hr
          obtain ⟨v35, e35, hr⟩ := hq
          have hq := asI_inv hr
          clear hr
          obtain ⟨x35, rfl, hr⟩ := hq
          refine wo_step (v := (.i .i64 x35)) (s_ld rfl e35) ?_
          refine wo_step (v := (.i .i64 x35)) (s_pure (p_mv rfl)) ?_
          refine wo_step (v := (.i .i64 0)) (s_pure (p_mv rfl)) ?_
          refine wo_nil ?_
          refine nx_norm ?_
          refine w_ret ?_
          refine bk_ret ?_
          refine nx_ret ?_
          cases hr
          exact ⟨_, _, rfl, ne_norm_ret, rfl, rfl, gl rfl, gl rfl, gl rfl⟩
        · refine w_condF rfl ?_
          refine w_skip ?_
          refine bk_norm ?_
          refine nx_norm ?_
          refine w_ops ?_
          have hq := forceI_inv hr
          clear hr
          obtain ⟨x36, e36, hr⟩ := hq
          refine wo_step (v := (.i .i64 x36)) (s_pure (p_bin g17 rfl (b_add.trans (ci e36)))) ?_
          refine wo_step (v := (.i .i64 x36)) (s_pure (p_mv rfl)) ?_
          refine wo_nil ?_
          cases hr
          exact ⟨_, _, rfl, rfl, rfl, gl rfl, gl g0, gl g1, gl g15, gl g16⟩
      · refine w_condF rfl ?_
        refine w_exit ?_
        refine nx_exit ?_
        cases hr
        exact ⟨_, _, rfl, ne_norm_exit, rfl, rfl⟩
    · rcases o with o | o
      · obtain ⟨m_8, ho⟩ : ∃ z, z = o := ⟨_, rfl⟩
        subst ho
        rintro _ mm t_2 ⟨rfl, rfl⟩
        refine bk_hit ?_
        refine nx_norm ?_
        refine w_seq ?_
        refine w_ops ?_
        refine wo_step (v := (.i .i64 0)) (s_pure (p_mv rfl)) ?_
        refine wo_step (v := (.i .i64 0)) (s_pure (p_mv rfl)) ?_
        refine wo_step (v := (.i .i64 10)) (s_pure (p_mv rfl)) ?_
        refine wo_nil ?_
        refine nx_norm ?_
        refine w_ret ?_
        exact qf ret_ok (rt rfl (rt rfl (rt rfl rn))) hr
      · obtain ⟨x4, x5, x6, m_9⟩ := o
        rintro _ mm_1 t_3 ⟨rfl, rfl, g4, g5, g6⟩
        refine bk_ret ?_
        refine nx_ret ?_
        exact qf ret_ok (rt g4 (rt g5 (rt g6 rn))) hr

/- dibber/dibberref08.Check -/

def g17 (M : Means) (ro : List ABlk) (x0 : Int) (v1 : AVal) (m0 : Mm) : Option (AVal × Heap × Nat × Nat) :=
  bindP (callM M.call m0 48 [(.i .i64 x0), v1]) fun v12 m_1 =>
  asB v12 fun c12 =>
  forceB (!c12) fun c13 =>
  cond c13 (
    finM m0.h.length (tupA [(.i .i64 0), (.i .i64 0), (.i .i64 2)]) m_1) (
    bindP (callM M.call m_1 49 [v1]) fun v16 m_2 =>
    bindO (evP .e (.ext 0 (.c v16))) fun v17 =>
    asI .i64 v17 fun x17 =>
    bindO (evP .e (.ext 1 (.c v16))) fun v18 =>
    asI .i64 v18 fun x18 =>
    bindO (evP .e (.ext 2 (.c v16))) fun v19 =>
    asB v19 fun c19 =>
    forceB (!c19) fun c21 =>
    cond c21 (
      finM m0.h.length (tupA [(.i .i64 0), (.i .i64 0), (.i .i64 10)]) m_2) (
      finM m0.h.length (tupA [(.i .i64 x17), (.i .i64 x18), (.i .i64 0)]) m_2))

theorem g17_ok {ro : List ABlk} {O : Caller} {M : Means} (hM : M.Ok ⟨F, O⟩ ro) {x0 v1 h r} (ho : O 17 [(.i .i64 x0), v1] h = none) (hr : g17 M ro x0 v1 ⟨h, h.length, h.length⟩ = some r) : callX ⟨F, O⟩ ro 17 [(.i .i64 x0), v1] h = some r := by
  refine callX_of (F := ⟨F, O⟩) (fn := fn17) (g := g17 M ro x0 v1) ho rfl rfl hr ?_
  clear ho
  clear hr
  intro m0 t0 ht hr
  have g0 : t0.get 0 = (.i .i64 x0) := ht 0
  have g1 : t0.get 1 = v1 := ht 1
  clear ht
  unfold g17 at hr
  refine w_seq ?_
  refine w_ops ?_
  refine wo_step (v := (.i .i64 0)) (s_pure (p_mv rfl)) ?_
  refine wo_step (v := (.i .i64 0)) (s_pure (p_mv rfl)) ?_
  refine wo_step (v := (.i .i64 0)) (s_pure (p_mv rfl)) ?_
  refine wo_nil ?_
  refine nx_norm ?_
  refine w_seq ?_
  refine w_seq ?_
  refine w_ops ?_
  refine wo_step (v := (.i .i64 x0)) (s_pure (p_mv g0)) ?_
  refine wo_step (v := v1) (s_pure (p_mv g1)) ?_
  have hq := bindP_inv hr
  clear hr
  obtain ⟨v12, m_1, e12, hr⟩ := hq
  have hq := asB_inv hr
  clear hr
  obtain ⟨c12, rfl, hr⟩ := hq
  refine wo_step (v := (.b c12)) (s_call (mc rfl (mc rfl mn)) (callM_le hM.call e12)) ?_
  have hq := forceB_inv hr
  clear hr
  obtain ⟨c13, e13, hr⟩ := hq
  refine wo_step (v := (.b c13)) (s_pure ((p_not rfl).trans (cb e13))) ?_
  refine wo_nil ?_
  refine nx_norm ?_
  have hq := cond_inv hr
  clear hr
  rcases hq with ⟨rfl, hr⟩ | ⟨rfl, hr⟩
  · refine w_condT rfl ?_
    refine w_seq ?_
    refine w_ops ?_
    refine wo_step (v := (.i .i64 0)) (s_pure (p_mv rfl)) ?_
    refine wo_step (v := (.i .i64 0)) (s_pure (p_mv rfl)) ?_
    refine wo_step (v := (.i .i64 2)) (s_pure (p_mv rfl)) ?_
    refine wo_nil ?_
    refine nx_norm ?_
    refine w_ret ?_
    refine nx_ret ?_
    exact qf ret_ok (rt rfl (rt rfl (rt rfl rn))) hr
  · refine w_condF rfl ?_
    refine w_skip ?_
    refine nx_norm ?_
    refine w_seq ?_
    refine w_ops ?_
    refine wo_step (v := v1) (s_pure (p_mv g1)) ?_
    have hq := bindP_inv hr
    clear hr
    obtain ⟨v16, m_2, e16, hr⟩ := hq
    refine wo_step (v := v16) (s_call (mc rfl mn) (callM_le hM.call e16)) ?_
    refine wo_step (v := v16) (s_pure (p_mv rfl)) ?_
    have hq := bindO_inv hr
    clear hr
    obtain ⟨v17, e17, hr⟩ := hq
    have hq := asI_inv hr
    clear hr
    obtain ⟨x17, rfl, hr⟩ := hq
    refine wo_step (v := (.i .i64 x17)) (s_pure (o_ext rfl e17)) ?_
    have hq := bindO_inv hr
    clear hr
    obtain ⟨v18, e18, hr⟩ := hq
    have hq := asI_inv hr
    clear hr
    obtain ⟨x18, rfl, hr⟩ := hq
    refine wo_step (v := (.i .i64 x18)) (s_pure (o_ext rfl e18)) ?_
    have hq := bindO_inv hr
    clear hr
    obtain ⟨v19, e19, hr⟩ := hq
    have hq := asB_inv hr
    clear hr
    obtain ⟨c19, rfl, hr⟩ := hq
    refine wo_step (v := (.b c19)) (s_pure (o_ext rfl e19)) ?_
    refine wo_step (v := (.i .i64 x17)) (s_pure (p_mv rfl)) ?_
    refine wo_step (v := (.i .i64 x18)) (s_pure (p_mv rfl)) ?_
    refine wo_step (v := (.b c19)) (s_pure (p_mv rfl)) ?_
    refine wo_nil ?_
    refine nx_norm ?_
    refine w_seq ?_
    refine w_seq ?_
    refine w_ops ?_
    refine wo_step (v := (.b c19)) (s_pure (p_mv rfl)) ?_
    have hq := forceB_inv hr
    clear hr
    obtain ⟨c21, e21, hr⟩ := hq
    refine wo_step (v := (.b c21)) (s_pure ((p_not rfl).trans (cb e21))) ?_
    refine wo_nil ?_
    refine nx_norm ?_
    have hq := cond_inv hr
    clear hr
    rcases hq with ⟨rfl, hr⟩ | ⟨rfl, hr⟩
    · refine w_condT rfl ?_
      refine w_seq ?_
      refine w_ops ?_
      refine wo_step (v := (.i .i64 0)) (s_pure (p_mv rfl)) ?_
      refine wo_step (v := (.i .i64 0)) (s_pure (p_mv rfl)) ?_
      refine wo_step (v := (.i .i64 10)) (s_pure (p_mv rfl)) ?_
      refine wo_nil ?_
      refine nx_norm ?_
      refine w_ret ?_
      refine nx_ret ?_
      exact qf ret_ok (rt rfl (rt rfl (rt rfl rn))) hr
    · refine w_condF rfl ?_
      refine w_skip ?_
      refine nx_norm ?_
      refine w_seq ?_
      refine w_ops ?_
      refine wo_step (v := (.i .i64 x17)) (s_pure (p_mv rfl)) ?_
      refine wo_step (v := (.i .i64 x18)) (s_pure (p_mv rfl)) ?_
      refine wo_step (v := (.i .i64 x17)) (s_pure (p_mv rfl)) ?_
      refine wo_step (v := (.i .i64 x18)) (s_pure (p_mv rfl)) ?_
      refine wo_step (v := (.i .i64 0)) (s_pure (p_mv rfl)) ?_
      refine wo_nil ?_
      refine nx_norm ?_
      refine w_ret ?_
      exact qf ret_ok (rt rfl (rt rfl (rt rfl rn))) hr

/- dibber/share.Sum -/
abbrev g18_J0 (v1 : AVal) (v2 : AVal) (o : Bool × Mm) (m1 : Mm) (t1 : Tr) : Prop :=
  match o with
  | (c19, m_2) => m_2 = m1 ∧ t1.get 19 = (.b c19) ∧ t1.get 1 = v1 ∧ t1.get 2 = v2
abbrev g18_I1 (v1 : AVal) (v2 : AVal) (v22 : AVal) (x24 : Int) (s : Int × Mm) (m1 : Mm) (t1 : Tr) : Prop :=
  match s with
  | (x25, m_5) => m_5 = m1 ∧ t1.get 25 = (.i .i64 x25) ∧ t1.get 1 = v1 ∧ t1.get 2 = v2 ∧ t1.get 8 = v22 ∧ t1.get 24 = (.i .i64 x24)
abbrev g18_J1 (v1 : AVal) (v2 : AVal) (v22 : AVal) (x24 : Int) (o : (Mm ⊕ (AVal × Int × Mm))) (e : AExit) (m1 : Mm) (t1 : Tr) : Prop :=
  match o with
  | (.inl mo) => e = (.exit 0) ∧ mo = m1 ∧ t1.get 8 = v22
  | (.inr (y6, y7, mo)) => e = .ret ∧ mo = m1 ∧ t1.get 6 = y6 ∧ t1.get 7 = (.i .i64 y7)
def g18_b1 (M : Means) (ro : List ABlk) (v1 : AVal) (v2 : AVal) (v22 : AVal) (x24 : Int) (x25 : Int) (m_5 : Mm) : Option ((Int × Mm) ⊕ ((Mm ⊕ (AVal × Int × Mm)))) :=
  forceB (ltI x25 x24) fun c26 =>
  cond c26 (
    bindO (evP .e (.ixS 1 (.c v1) (.c (.i .i64 x25)))) fun v32 =>
    bindO (ldA ro m_5.h true 1 v32) fun v33 =>
    asI .i64 v33 fun x33 =>
    bindO (evP .e (.ixS 1 (.c v2) (.c (.i .i64 x25)))) fun v36 =>
    bindO (ldA ro m_5.h true 1 v36) fun v37 =>
    asI .i64 v37 fun x37 =>
    forceI (wr .i64 (x33 + x37)) fun x38 =>
    bindO (evP .e (.ixS 1 (.c v22) (.c (.i .i64 x25)))) fun v39 =>
    asP v39 fun qs =>
    bindO (writesM ro [] [(qs, AVal.cells (.i .i64 x38))] ⟨m_5.h, m_5.lw, m_5.lp⟩) fun m_6 =>
    bindO (evP .e (.ixS 1 (.c v22) (.c (.i .i64 x25)))) fun v42 =>
    bindO (ldM ro m_6 true 1 v42) fun v43 =>
    asI .i64 v43 fun x43 =>
    bindP (callM M.call m_6 50 [(.i .i64 x43), (.i .i64 1000000)]) fun v44 m_7 =>
    asB v44 fun c44 =>
    forceB (!c44) fun c45 =>
    cond c45 (
      some (.inr (.inr (AVal.nsl, 4, m_7)))) (
      forceI (wr .i64 (x25 + 1)) fun x46 =>
      some (.inl (x46, m_7)))) (
    some (.inr (.inl m_5)))
def g18 (M : Means) (ro : List ABlk) (x0 : Int) (v1 : AVal) (v2 : AVal) (m0 : Mm) : Option (AVal × Heap × Nat × Nat) :=
  bindP (callM M.call m0 44 [(.i .i64 x0), v1]) fun v12 m_1 =>
  asB v12 fun c12 =>
  forceB (!c12) fun c13 =>
  bindO (cond c13 (
    some (true, m_1)) (
    bindP (callM M.call m_1 44 [(.i .i64 x0), v2]) fun v17 m_3 =>
    asB v17 fun c17 =>
    forceB (!c17) fun c18 =>
    some (c18, m_3))) fun ⟨c19, m_2⟩ =>
  cond c19 (
    finM m0.h.length (tupA [AVal.nsl, (.i .i64 2)]) m_2) (
    bindO (evP .e (.len false (.c v1))) fun v21 =>
    asI .i64 v21 fun x21 =>
    bindP (stepM ro m_2 (.mk 3 1 8 [(AVal.i IntKind.i64 0)] (.c (.i .i64 x21)) (.c (.i .i64 x21)))) fun v22 m_4 =>
    bindO (evP .e (.len false (.c v22))) fun v24 =>
    asI .i64 v24 fun x24 =>
    bindO (M.loop (S := Int × Mm) (R := (Mm ⊕ (AVal × Int × Mm))) (fun s => g18_b1 M ro v1 v2 v22 x24 s.1 s.2) (0, m_4)) fun o_1 => match o_1 with
    | (.inl m_8) =>
      finM m0.h.length (tupA [v22, (.i .i64 0)]) m_8
    | (.inr (v6, x7, m_9)) =>
      finM m0.h.length (tupA [v6, (.i .i64 x7)]) m_9)

theorem g18_ok {ro : List ABlk} {O : Caller} {M : Means} (hM : M.Ok ⟨F, O⟩ ro) {x0 v1 v2 h r} (ho : O 18 [(.i .i64 x0), v1, v2] h = none) (hr : g18 M ro x0 v1 v2 ⟨h, h.length, h.length⟩ = some r) : callX ⟨F, O⟩ ro 18 [(.i .i64 x0), v1, v2] h = some r := by
  refine callX_of (F := ⟨F, O⟩) (fn := fn18) (g := g18 M ro x0 v1 v2) ho rfl rfl hr ?_
  clear ho
  clear hr
  intro m0 t0 ht hr
  have g0 : t0.get 0 = (.i .i64 x0) := ht 0
  have g1 : t0.get 1 = v1 := ht 1
  have g2 : t0.get 2 = v2 := ht 2
  clear ht
  unfold g18 at hr
  refine w_seq ?_
  refine w_ops ?_
  refine wo_step (v := AVal.nsl) (s_pure (p_mv rfl)) ?_
  refine wo_step (v := (.i .i64 0)) (s_pure (p_mv rfl)) ?_
  refine wo_nil ?_
  refine nx_norm ?_
  refine w_seq ?_
  refine w_seq ?_
  refine w_ops ?_
  refine wo_step (v := (.i .i64 x0)) (s_pure (p_mv g0)) ?_
  refine wo_step (v := v1) (s_pure (p_mv g1)) ?_
  have hq := bindP_inv hr
  clear hr
  obtain ⟨v12, m_1, e12, hr⟩ := hq
  have hq := asB_inv hr
  clear hr
  obtain ⟨c12, rfl, hr⟩ := hq
  refine wo_step (v := (.b c12)) (s_call (mc rfl (mc rfl mn)) (callM_le hM.call e12)) ?_
  have hq := forceB_inv hr
  clear hr
  obtain ⟨c13, e13, hr⟩ := hq
  refine wo_step (v := (.b c13)) (s_pure ((p_not rfl).trans (cb e13))) ?_
  refine wo_step (v := (.b c13)) (s_pure (p_mv rfl)) ?_
  have hq := bindO_inv hr
  clear hr
  obtain ⟨o, hr, hk⟩ := hq
  refine wo_join 5 (g18_J0 v1 v2 o) ?_ ?_
  · clear hk
    have hq := cond_inv hr
    clear hr
    rcases hq with ⟨rfl, hr⟩ | ⟨rfl, hr⟩
    · refine wo_skip (v := (.b true)) rfl rfl ?_
      refine wo_skip (v := (.b true)) rfl rfl ?_
      refine wo_skip (v := (.b true)) rfl rfl ?_
      refine wo_skip (v := (.b true)) rfl rfl ?_
      refine wo_step (v := (.b true)) (s_pure (p_pickT rfl rfl)) ?_
      refine wo_nil ?_
      cases hr
      exact ⟨_, _, rfl, rfl, gl rfl, gl g1, gl g2⟩
    · refine wo_take (v := (.i .i64 x0)) rfl (s_pure (p_mv g0)) ?_
      refine wo_take (v := v2) rfl (s_pure (p_mv g2)) ?_
      have hq := bindP_inv hr
      clear hr
      obtain ⟨v17, m_3, e17, hr⟩ := hq
      have hq := asB_inv hr
      clear hr
      obtain ⟨c17, rfl, hr⟩ := hq
      refine wo_take (v := (.b c17)) rfl (s_call (mc rfl (mc rfl mn)) (callM_le hM.call e17)) ?_
      have hq := forceB_inv hr
      clear hr
      obtain ⟨c18, e18, hr⟩ := hq
      refine wo_take (v := (.b c18)) rfl (s_pure ((p_not rfl).trans (cb e18))) ?_
      refine wo_step (v := (.b c18)) (s_pure (p_pickF rfl rfl)) ?_
      refine wo_nil ?_
      cases hr
      exact ⟨_, _, rfl, rfl, gl rfl, gl g1, gl g2⟩
  · clear hr
    have hr := hk
    clear hk
    obtain ⟨c19, m_2⟩ := o
    rintro mm t_1 ⟨rfl, g19, g1, g2⟩
    refine wo_nil ?_
    refine nx_norm ?_
    have hq := cond_inv hr
    clear hr
    rcases hq with ⟨rfl, hr⟩ | ⟨rfl, hr⟩
    · refine w_condT g19 ?_
      refine w_seq ?_
      refine w_ops ?_
      refine wo_step (v := AVal.nsl) (s_pure (p_mv rfl)) ?_
      refine wo_step (v := (.i .i64 2)) (s_pure (p_mv rfl)) ?_
      refine wo_nil ?_
      refine nx_norm ?_
      refine w_ret ?_
      refine nx_ret ?_
      exact qf ret_ok (rt rfl (rt rfl rn)) hr
    · refine w_condF g19 ?_
      refine w_skip ?_
      refine nx_norm ?_
      refine w_seq ?_
      refine w_ops ?_
      refine wo_step (v := v1) (s_pure (p_mv g1)) ?_
      have hq := bindO_inv hr
      clear hr
      obtain ⟨v21, e21, hr⟩ := hq
      have hq := asI_inv hr
      clear hr
      obtain ⟨x21, rfl, hr⟩ := hq
      refine wo_step (v := (.i .i64 x21)) (s_pure (o_len rfl e21)) ?_
      have hq := bindP_inv hr
      clear hr
      obtain ⟨v22, m_4, e22, hr⟩ := hq
      refine wo_step (v := v22) (s_mk rfl rfl e22) ?_
      refine wo_step (v := v22) (s_pure (p_mv rfl)) ?_
      refine wo_nil ?_
      refine nx_norm ?_
      refine w_seq ?_
      refine w_seq ?_
      refine w_ops ?_
      refine wo_step (v := v22) (s_pure (p_mv rfl)) ?_
      have hq := bindO_inv hr
      clear hr
      obtain ⟨v24, e24, hr⟩ := hq
      have hq := asI_inv hr
      clear hr
      obtain ⟨x24, rfl, hr⟩ := hq
      refine wo_step (v := (.i .i64 x24)) (s_pure (o_len rfl e24)) ?_
      refine wo_step (v := (.i .i64 0)) (s_pure (p_mv rfl)) ?_
      refine wo_nil ?_
      refine nx_norm ?_
      refine w_block ?_
      have hq := bindO_inv hr
      clear hr
      obtain ⟨o_1, hl, hr⟩ := hq
      obtain ⟨n, hl⟩ := hM.loop _ _ _ hl
      refine jp_mono (w_loop _ (g18_I1 v1 v2 v22 x24) (g18_J1 v1 v2 v22 x24) ?_ n _ _ _ _ hl ⟨rfl, gl rfl, gl g1, gl g2, gl rfl, gl rfl⟩) ?_
      · clear hr hl
        intro s mm_3 t_2 o hi hr
        obtain ⟨x25, m_5⟩ := s
        obtain ⟨rfl, g25, g1, g2, g8, g24⟩ := hi
        unfold g18_b1 at hr
        refine w_seq ?_
        refine w_ops ?_
        have hq := forceB_inv hr
        clear hr
        obtain ⟨c26, e26, hr⟩ := hq
        refine wo_step (v := (.b c26)) (s_pure (p_bin g25 g24 (b_lss.trans (cb e26)))) ?_
        refine wo_nil ?_
        refine nx_norm ?_
        refine w_seq ?_
        have hq := cond_inv hr
        clear hr
        rcases hq with ⟨rfl, hr⟩ | ⟨rfl, hr⟩
        · refine w_condT rfl ?_
          refine w_skip ?_
          refine nx_norm ?_
          refine w_seq ?_
          refine w_block ?_
          refine w_seq ?_
          refine w_ops ?_
          refine wo_step (v := (.i .i64 x25)) (s_pure (p_mv g25)) ?_
          refine wo_step (v := (.i .i64 x25)) (s_pure (p_mv rfl)) ?_
          refine wo_nil ?_
          refine nx_norm ?_
          refine w_seq ?_
          refine w_any ?_
          refine wa_step (v := v22) (a_pure (p_mv g8)) ?_
          refine wa_step (v := (.i .i64 x25)) (a_pure (p_mv rfl)) ?_
          refine wa_step (v := v1) (a_pure (p_mv g1)) ?_
          refine wa_step (v := (.i .i64 x25)) (a_pure (p_mv rfl)) ?_
          have hq := bindO_inv hr
          clear hr
          obtain ⟨v32, e32, hr⟩ := hq
          refine wa_step (v := v32) (a_pure (o_ixS rfl rfl e32)) ?_
          have hq := bindO_inv hr
          clear hr
          obtain ⟨v33, e33, hr⟩ := hq
          have hq := asI_inv hr
          clear hr
          obtain ⟨x33, rfl, hr⟩ := hq
          refine wa_step (v := (.i .i64 x33)) (a_ld rfl e33) ?_
          refine wa_step (v := v2) (a_pure (p_mv g2)) ?_
          refine wa_step (v := (.i .i64 x25)) (a_pure (p_mv rfl)) ?_
          have hq := bindO_inv hr
          clear hr
          obtain ⟨v36, e36, hr⟩ := hq
          refine wa_step (v := v36) (a_pure (o_ixS rfl rfl e36)) ?_
          have hq := bindO_inv hr
          clear hr
          obtain ⟨v37, e37, hr⟩ := hq
          have hq := asI_inv hr
          clear hr
          obtain ⟨x37, rfl, hr⟩ := hq
          refine wa_step (v := (.i .i64 x37)) (a_ld rfl e37) ?_
          have hq := forceI_inv hr
          clear hr
          obtain ⟨x38, e38, hr⟩ := hq
          refine wa_step (v := (.i .i64 x38)) (a_pure (p_bin rfl rfl (b_add.trans (ci e38)))) ?_
          have hq := bindO_inv hr
          clear hr
          obtain ⟨v39, e39, hr⟩ := hq
          refine wa_step (v := v39) (a_pure (o_ixS rfl rfl e39)) ?_
          have hq := asP_inv hr
          clear hr
          obtain ⟨qs, eqs, hr⟩ := hq
          refine wa_stepN (a_st (Eq.trans (b := v39) rfl eqs) rfl rfl) ?_
          have hq := bindO_inv hr
          clear hr
          obtain ⟨m_6, ew, hr⟩ := hq
          refine wa_nil ?_
          refine ⟨m_6, ew, ?_⟩
          refine nx_norm ?_
          refine w_seq ?_
          refine w_ops ?_
          refine wo_step (v := v22) (s_pure (p_mv g8)) ?_
          refine wo_step (v := (.i .i64 x25)) (s_pure (p_mv rfl)) ?_
          have hq := bindO_inv hr
          clear hr
          obtain ⟨v42, e42, hr⟩ := hq
          refine wo_step (v := v42) (s_pure (o_ixS rfl rfl e42)) ?_
          have hq := bindO_inv hr
          clear hr
          obtain ⟨v43, e43, hr⟩ := hq
          have hq := asI_inv hr
          clear hr
          obtain ⟨x43, rfl, hr⟩ := hq
          refine wo_step (v := (.i .i64 x43)) (s_ld rfl e43) ?_
          have hq := bindP_inv hr
          clear hr
          obtain ⟨v44, m_7, e44, hr⟩ := hq
          have hq := asB_inv hr
          clear hr
          obtain ⟨c44, rfl, hr⟩ := hq
          refine wo_step (v := (.b c44)) (s_call (mc rfl (mc rfl mn)) (callM_le hM.call e44)) ?_
          have hq := forceB_inv hr
          clear hr
          obtain ⟨c45, e45, hr⟩ := hq
          refine wo_step (v := (.b c45)) (s_pure ((p_not rfl).trans (cb e45))) ?_
          refine wo_nil ?_
          refine nx_norm ?_
          have hq := cond_inv hr
          clear hr
          rcases hq with ⟨rfl, hr⟩ | ⟨rfl, hr⟩
          · refine w_condT rfl ?_
            refine w_seq ?_
            refine w_ops ?_
            refine wo_step (v := AVal.nsl) (s_pure (p_mv rfl)) ?_
            refine wo_step (v := (.i .i64 4)) (s_pure (p_mv rfl)) ?_
            refine wo_nil ?_
            refine nx_norm ?_
            refine w_ret ?_
            refine bk_ret ?_
            refine nx_ret ?_
            cases hr
            exact ⟨_, _, rfl, ne_norm_ret, rfl, rfl, gl rfl, gl rfl⟩
          · refine w_condF rfl ?_
            refine w_skip ?_
            refine bk_norm ?_
            refine nx_norm ?_
            refine w_ops ?_
            have hq := forceI_inv hr
            clear hr
            obtain ⟨x46, e46, hr⟩ := hq
            refine wo_step (v := (.i .i64 x46)) (s_pure (p_bin g25 rfl (b_add.trans (ci e46)))) ?_
            refine wo_step (v := (.i .i64 x46)) (s_pure (p_mv rfl)) ?_
            refine wo_nil ?_
            cases hr
            exact ⟨_, _, rfl, rfl, rfl, gl rfl, gl g1, gl g2, gl g8, gl g24⟩
        · refine w_condF rfl ?_
          refine w_exit ?_
          refine nx_exit ?_
          cases hr
          exact ⟨_, _, rfl, ne_norm_exit, rfl, rfl, gl g8⟩
      · rcases o_1 with o_1 | o_1
        · obtain ⟨m_8, ho⟩ : ∃ z, z = o_1 := ⟨_, rfl⟩
          subst ho
          rintro _ mm_1 t_3 ⟨rfl, rfl, g8⟩
          refine bk_hit ?_
          refine nx_norm ?_
          refine w_seq ?_
          refine w_ops ?_
          refine wo_step (v := v22) (s_pure (p_mv g8)) ?_
          refine wo_step (v := v22) (s_pure (p_mv rfl)) ?_
          refine wo_step (v := (.i .i64 0)) (s_pure (p_mv rfl)) ?_
          refine wo_nil ?_
          refine nx_norm ?_
          refine w_ret ?_
          exact qf ret_ok (rt rfl (rt rfl rn)) hr
        · obtain ⟨v6, x7, m_9⟩ := o_1
          rintro _ mm_2 t_4 ⟨rfl, rfl, g6, g7⟩
          refine bk_ret ?_
          refine nx_ret ?_
          exact qf ret_ok (rt g6 (rt g7 rn)) hr

/- dibber/share.Cut -/
abbrev g37_I0 (x0 : Int) (v19 : AVal) (v1 : AVal) (x21 : Int) (s : Int × Mm) (m1 : Mm) (t1 : Tr) : Prop :=
  match s with
  | (x22, m_3) => m_3 = m1 ∧ t1.get 22 = (.i .i64 x22) ∧ t1.get 0 = (.i .i64 x0) ∧ t1.get 6 = v19 ∧ t1.get 20 = v1 ∧ t1.get 21 = (.i .i64 x21)
abbrev g37_J0 (x0 : Int) (v19 : AVal) (v1 : AVal) (x21 : Int) (o : (Mm ⊕ (AVal × Int × Mm))) (e : AExit) (m1 : Mm) (t1 : Tr) : Prop :=
  match o with
  | (.inl mo) => e = (.exit 0) ∧ mo = m1 ∧ t1.get 6 = v19
  | (.inr (y4, y5, mo)) => e = .ret ∧ mo = m1 ∧ t1.get 4 = y4 ∧ t1.get 5 = (.i .i64 y5)
abbrev g37_I1 (x0 : Int) (v19 : AVal) (v25 : AVal) (v1 : AVal) (x21 : Int) (x22 : Int) (v39 : AVal) (x40 : Int) (s : Int × Mm) (m1 : Mm) (t1 : Tr) : Prop :=
  match s with
  | (x41, m_10) => m_10 = m1 ∧ t1.get 41 = (.i .i64 x41) ∧ t1.get 0 = (.i .i64 x0) ∧ t1.get 6 = v19 ∧ t1.get 8 = v25 ∧ t1.get 20 = v1 ∧ t1.get 21 = (.i .i64 x21) ∧ t1.get 22 = (.i .i64 x22) ∧ t1.get 39 = v39 ∧ t1.get 40 = (.i .i64 x40)
abbrev g37_J1 (x0 : Int) (v19 : AVal) (v25 : AVal) (v1 : AVal) (x21 : Int) (x22 : Int) (v39 : AVal) (x40 : Int) (o : Mm) (e : AExit) (m1 : Mm) (t1 : Tr) : Prop :=
  match o with
  | mo => e = (.exit 2) ∧ mo = m1 ∧ t1.get 0 = (.i .i64 x0) ∧ t1.get 6 = v19 ∧ t1.get 20 = v1 ∧ t1.get 21 = (.i .i64 x21) ∧ t1.get 22 = (.i .i64 x22)
def g37_b1 (M : Means) (ro : List ABlk) (x0 : Int) (v19 : AVal) (v25 : AVal) (v1 : AVal) (x21 : Int) (x22 : Int) (v39 : AVal) (x40 : Int) (x41 : Int) (m_10 : Mm) : Option ((Int × Mm) ⊕ (Mm)) :=
  forceB (ltI x41 x40) fun c42 =>
  cond c42 (
    bindO (evP .e (.ixS 1 (.c v39) (.c (.i .i64 x41)))) fun v43 =>
    bindO (ldM ro m_10 true 1 v43) fun v44 =>
    asI .i64 v44 fun x44 =>
    bindO (evP .e (.ixS 1 (.c v19) (.c (.i .i64 x44)))) fun v47 =>
    bindO (ldA ro m_10.h true 1 v47) fun v48 =>
    asI .i64 v48 fun x48 =>
    bindO (evP .e (.ixS 1 (.c v25) (.c (.i .i64 2)))) fun v50 =>
    bindO (ldA ro m_10.h true 1 v50) fun v51 =>
    asI .i64 v51 fun x51 =>
    forceI (wr .i64 (x48 + x51)) fun x52 =>
    bindO (evP .e (.ixS 1 (.c v19) (.c (.i .i64 x44)))) fun v53 =>
    asP v53 fun qs =>
    bindO (writesM ro [] [(qs, AVal.cells (.i .i64 x52))] ⟨m_10.h, m_10.lw, m_10.lp⟩) fun m_11 =>
    forceI (wr .i64 (x41 + 1)) fun x54 =>
    some (.inl (x54, m_11))) (
    some (.inr m_10))
def g37_b0 (M : Means) (ro : List ABlk) (x0 : Int) (v19 : AVal) (v1 : AVal) (x21 : Int) (x22 : Int) (m_3 : Mm) : Option ((Int × Mm) ⊕ ((Mm ⊕ (AVal × Int × Mm)))) :=
  forceB (ltI x22 x21) fun c23 =>
  cond c23 (
    bindO (evP .e (.ixS 1 (.c v1) (.c (.i .i64 x22)))) fun v24 =>
    bindO (ldM ro m_3 true 1 v24) fun v25 =>
    bindP (callM M.call m_3 85 [(.i .i64 x0), v25]) fun v28 m_4 =>
    asB v28 fun c28 =>
    forceB (!c28) fun c29 =>
    cond c29 (
      some (.inr (.inr (AVal.nsl, 2, m_4)))) (
      bindO (some (Mm.base m_4)) fun m_5 =>
      bindO (evP .e (.ixS 1 (.c v25) (.c (.i .i64 0)))) fun v32 =>
      bindO (ldM ro m_5 true 1 v32) fun v33 =>
      asI .i64 v33 fun x33 =>
      bindO (evP .e (.ixS 1 (.c v25) (.c (.i .i64 1)))) fun v35 =>
      bindO (ldM ro m_5 true 1 v35) fun v36 =>
      asI .i64 v36 fun x36 =>
      bindP (callM M.call m_5 86 [(.i .i64 x33), (.i .i64 x36)]) fun v37 m_6 =>
      bindP (stepM ro m_6 (.bsl 53 1 [AVal.nfn] 1 [((0, 1), .c v37)])) fun v38 m_7 =>
      bindP (callM M.call m_7 45 [(.i .i64 x0), v38]) fun v39 m_8 =>
      bindO (evP .e (.len false (.c v39))) fun v40 =>
      asI .i64 v40 fun x40 =>
      bindO (some (Mm.join m_4 m_8)) fun m_9 =>
      bindO (M.loop (S := Int × Mm) (R := Mm) (fun s => g37_b1 M ro x0 v19 v25 v1 x21 x22 v39 x40 s.1 s.2) (0, m_9)) fun m_12 =>
      forceI (wr .i64 (x22 + 1)) fun x55 =>
      some (.inl (x55, m_12)))) (
    some (.inr (.inl m_3)))
def g37 (M : Means) (ro : List ABlk) (x0 : Int) (v1 : AVal) (m0 : Mm) : Option (AVal × Heap × Nat × Nat) :=
  bindP (callM M.call m0 84 [(.i .i64 x0)]) fun v12 m_1 =>
  asB v12 fun c12 =>
  forceB (!c12) fun c13 =>
  cond c13 (
    finM m0.h.length (tupA [AVal.nsl, (.i .i64 2)]) m_1) (
    bindO (evP .e (.len false (.c v1))) fun v15 =>
    asI .i64 v15 fun x15 =>
    forceB (ltI 20 x15) fun c16 =>
    cond c16 (
      finM m0.h.length (tupA [AVal.nsl, (.i .i64 3)]) m_1) (
      chk (!ltI x0 (.ofNat 0)) <|
      forceI (shlV .i64 1 x0) fun x18 =>
      bindP (stepM ro m_1 (.mk 3 1 8 [(AVal.i IntKind.i64 0)] (.c (.i .i64 x18)) (.c (.i .i64 x18)))) fun v19 m_2 =>
      bindO (evP .e (.len false (.c v1))) fun v21 =>
      asI .i64 v21 fun x21 =>
      bindO (M.loop (S := Int × Mm) (R := (Mm ⊕ (AVal × Int × Mm))) (fun s => g37_b0 M ro x0 v19 v1 x21 s.1 s.2) (0, m_2)) fun o_1 => match o_1 with
      | (.inl m_13) =>
        finM m0.h.length (tupA [v19, (.i .i64 0)]) m_13
      | (.inr (v4, x5, m_14)) =>
        finM m0.h.length (tupA [v4, (.i .i64 x5)]) m_14))

theorem g37_ok {ro : List ABlk} {O : Caller} {M : Means} (hM : M.Ok ⟨F, O⟩ ro) {x0 v1 h r} (ho : O 37 [(.i .i64 x0), v1] h = none) (hr : g37 M ro x0 v1 ⟨h, h.length, h.length⟩ = some r) : callX ⟨F, O⟩ ro 37 [(.i .i64 x0), v1] h = some r := by
  refine callX_of (F := ⟨F, O⟩) (fn := fn37) (g := g37 M ro x0 v1) ho rfl rfl hr ?_
  clear ho
  clear hr
  intro m0 t0 ht hr
  have g0 : t0.get 0 = (.i .i64 x0) := ht 0
  have g1 : t0.get 1 = v1 := ht 1
  clear ht
  unfold g37 at hr
  refine w_seq ?_
  refine w_ops ?_
  refine wo_step (v := AVal.nsl) (s_pure (p_mv rfl)) ?_
  refine wo_step (v := (.i .i64 0)) (s_pure (p_mv rfl)) ?_
  refine wo_nil ?_
  refine nx_norm ?_
  refine w_seq ?_
  refine w_seq ?_
  refine w_ops ?_
  refine wo_step (v := (.i .i64 x0)) (s_pure (p_mv g0)) ?_
  have hq := bindP_inv hr
  clear hr
  obtain ⟨v12, m_1, e12, hr⟩ := hq
  have hq := asB_inv hr
  clear hr
  obtain ⟨c12, rfl, hr⟩ := hq
  refine wo_step (v := (.b c12)) (s_call (mc rfl mn) (callM_le hM.call e12)) ?_
  have hq := forceB_inv hr
  clear hr
  obtain ⟨c13, e13, hr⟩ := hq
  refine wo_step (v := (.b c13)) (s_pure ((p_not rfl).trans (cb e13))) ?_
  refine wo_nil ?_
  refine nx_norm ?_
  have hq := cond_inv hr
  clear hr
  rcases hq with ⟨rfl, hr⟩ | ⟨rfl, hr⟩
  · refine w_condT rfl ?_
    refine w_seq ?_
    refine w_ops ?_
    refine wo_step (v := AVal.nsl) (s_pure (p_mv rfl)) ?_
    refine wo_step (v := (.i .i64 2)) (s_pure (p_mv rfl)) ?_
    refine wo_nil ?_
    refine nx_norm ?_
    refine w_ret ?_
    refine nx_ret ?_
    exact qf ret_ok (rt rfl (rt rfl rn)) hr
  · refine w_condF rfl ?_
    refine w_skip ?_
    refine nx_norm ?_
    refine w_seq ?_
    refine w_seq ?_
    refine w_ops ?_
    refine wo_step (v := v1) (s_pure (p_mv g1)) ?_
    have hq := bindO_inv hr
    clear hr
    obtain ⟨v15, e15, hr⟩ := hq
    have hq := asI_inv hr
    clear hr
    obtain ⟨x15, rfl, hr⟩ := hq
    refine wo_step (v := (.i .i64 x15)) (s_pure (o_len rfl e15)) ?_
    have hq := forceB_inv hr
    clear hr
    obtain ⟨c16, e16, hr⟩ := hq
    refine wo_step (v := (.b c16)) (s_pure (p_bin rfl rfl (b_gtr.trans (cb e16)))) ?_
    refine wo_nil ?_
    refine nx_norm ?_
    have hq := cond_inv hr
    clear hr
    rcases hq with ⟨rfl, hr⟩ | ⟨rfl, hr⟩
    · refine w_condT rfl ?_
      refine w_seq ?_
      refine w_ops ?_
      refine wo_step (v := AVal.nsl) (s_pure (p_mv rfl)) ?_
      refine wo_step (v := (.i .i64 3)) (s_pure (p_mv rfl)) ?_
      refine wo_nil ?_
      refine nx_norm ?_
      refine w_ret ?_
      refine nx_ret ?_
      exact qf ret_ok (rt rfl (rt rfl rn)) hr
    · refine w_condF rfl ?_
      refine w_skip ?_
      refine nx_norm ?_
      refine w_seq ?_
      refine w_ops ?_
      refine wo_step (v := (.i .i64 x0)) (s_pure (p_mv g0)) ?_
      have hq := chk_inv hr
      clear hr
      obtain ⟨hc18, hr⟩ := hq
      have hq := forceI_inv hr
      clear hr
      obtain ⟨x18, e18, hr⟩ := hq
      refine wo_step (v := (.i .i64 x18)) (s_pure (p_bin rfl rfl ((b_shl hc18).trans (ci e18)))) ?_
      have hq := bindP_inv hr
      clear hr
      obtain ⟨v19, m_2, e19, hr⟩ := hq
      refine wo_step (v := v19) (s_mk rfl rfl e19) ?_
      refine wo_step (v := v19) (s_pure (p_mv rfl)) ?_
      refine wo_nil ?_
      refine nx_norm ?_
      refine w_seq ?_
      refine w_seq ?_
      refine w_ops ?_
      refine wo_step (v := v1) (s_pure (p_mv g1)) ?_
      have hq := bindO_inv hr
      clear hr
      obtain ⟨v21, e21, hr⟩ := hq
      have hq := asI_inv hr
      clear hr
      obtain ⟨x21, rfl, hr⟩ := hq
      refine wo_step (v := (.i .i64 x21)) (s_pure (o_len rfl e21)) ?_
      refine wo_step (v := (.i .i64 0)) (s_pure (p_mv rfl)) ?_
      refine wo_nil ?_
      refine nx_norm ?_
      refine w_block ?_
      have hq := bindO_inv hr
      clear hr
      obtain ⟨o_1, hl_1, hr⟩ := hq
      obtain ⟨n_1, hl_1⟩ := hM.loop _ _ _ hl_1
      refine jp_mono (w_loop _ (g37_I0 x0 v19 v1 x21) (g37_J0 x0 v19 v1 x21) ?_ n_1 _ _ _ _ hl_1 ⟨rfl, gl rfl, gl g0, gl rfl, gl rfl, gl rfl⟩) ?_
      · clear hr hl_1
        intro s mm_4 t_1 o hi hr
        obtain ⟨x22, m_3⟩ := s
        obtain ⟨rfl, g22, g0, g6, g20, g21⟩ := hi
        unfold g37_b0 at hr
        refine w_seq ?_
        refine w_ops ?_
        have hq := forceB_inv hr
        clear hr
        obtain ⟨c23, e23, hr⟩ := hq
        refine wo_step (v := (.b c23)) (s_pure (p_bin g22 g21 (b_lss.trans (cb e23)))) ?_
        refine wo_nil ?_
        refine nx_norm ?_
        refine w_seq ?_
        have hq := cond_inv hr
        clear hr
        rcases hq with ⟨rfl, hr⟩ | ⟨rfl, hr⟩
        · refine w_condT rfl ?_
          refine w_skip ?_
          refine nx_norm ?_
          refine w_seq ?_
          refine w_block ?_
          refine w_seq ?_
          refine w_ops ?_
          have hq := bindO_inv hr
          clear hr
          obtain ⟨v24, e24, hr⟩ := hq
          refine wo_step (v := v24) (s_pure (o_ixS g20 g22 e24)) ?_
          have hq := bindO_inv hr
          clear hr
          obtain ⟨v25, e25, hr⟩ := hq
          refine wo_step (v := v25) (s_ld rfl e25) ?_
          refine wo_step (v := v25) (s_pure (p_mv rfl)) ?_
          refine wo_nil ?_
          refine nx_norm ?_
          refine w_seq ?_
          refine w_seq ?_
          refine w_ops ?_
          refine wo_step (v := (.i .i64 x0)) (s_pure (p_mv g0)) ?_
          refine wo_step (v := v25) (s_pure (p_mv rfl)) ?_
          have hq := bindP_inv hr
          clear hr
          obtain ⟨v28, m_4, e28, hr⟩ := hq
          have hq := asB_inv hr
          clear hr
          obtain ⟨c28, rfl, hr⟩ := hq
          refine wo_step (v := (.b c28)) (s_call (mc rfl (mc rfl mn)) (callM_le hM.call e28)) ?_
          have hq := forceB_inv hr
          clear hr
          obtain ⟨c29, e29, hr⟩ := hq
          refine wo_step (v := (.b c29)) (s_pure ((p_not rfl).trans (cb e29))) ?_
          refine wo_nil ?_
          refine nx_norm ?_
          have hq := cond_inv hr
          clear hr
          rcases hq with ⟨rfl, hr⟩ | ⟨rfl, hr⟩
          · refine w_condT rfl ?_
            refine w_seq ?_
            refine w_ops ?_
            refine wo_step (v := AVal.nsl) (s_pure (p_mv rfl)) ?_
            refine wo_step (v := (.i .i64 2)) (s_pure (p_mv rfl)) ?_
            refine wo_nil ?_
            refine nx_norm ?_
            refine w_ret ?_
            refine nx_ret ?_
            refine bk_ret ?_
            refine nx_ret ?_
            cases hr
            exact ⟨_, _, rfl, ne_norm_ret, rfl, rfl, gl rfl, gl rfl⟩
          · refine w_condF rfl ?_
            refine w_skip ?_
            refine nx_norm ?_
            refine w_seq ?_
            have hq := bindO_inv hr
            clear hr
            obtain ⟨m_5, ef, hr⟩ := hq
            refine w_flt (af := false) rfl ef ?_
            refine wf_step (v := (.i .i64 x0)) (f_P rfl (s_pure (p_mv g0))) ?_
            refine wf_step (v := v25) (f_P rfl (s_pure (p_mv rfl))) ?_
            have hq := bindO_inv hr
            clear hr
            obtain ⟨v32, e32, hr⟩ := hq
            refine wf_step (v := v32) (f_P rfl (s_pure (o_ixS rfl rfl e32))) ?_
            have hq := bindO_inv hr
            clear hr
            obtain ⟨v33, e33, hr⟩ := hq
            have hq := asI_inv hr
            clear hr
            obtain ⟨x33, rfl, hr⟩ := hq
            refine wf_step (v := (.i .i64 x33)) (f_P rfl (s_ld rfl e33)) ?_
            refine wf_step (v := v25) (f_P rfl (s_pure (p_mv rfl))) ?_
            have hq := bindO_inv hr
            clear hr
            obtain ⟨v35, e35, hr⟩ := hq
            refine wf_step (v := v35) (f_P rfl (s_pure (o_ixS rfl rfl e35))) ?_
            have hq := bindO_inv hr
            clear hr
            obtain ⟨v36, e36, hr⟩ := hq
            have hq := asI_inv hr
            clear hr
            obtain ⟨x36, rfl, hr⟩ := hq
            refine wf_step (v := (.i .i64 x36)) (f_P rfl (s_ld rfl e36)) ?_
            have hq := bindP_inv hr
            clear hr
            obtain ⟨v37, m_6, e37, hr⟩ := hq
            refine wf_step (v := v37) (f_N (s_call (mc rfl (mc rfl mn)) (callM_le hM.call e37))) ?_
            have hq := bindP_inv hr
            clear hr
            obtain ⟨v38, m_7, e38, hr⟩ := hq
            refine wf_step (v := v38) (f_N (s_bsl (qc rfl qn) e38)) ?_
            have hq := bindP_inv hr
            clear hr
            obtain ⟨v39, m_8, e39, hr⟩ := hq
            refine wf_step (v := v39) (f_N (s_call (mc rfl (mc rfl mn)) (callM_le hM.call e39))) ?_
            have hq := bindO_inv hr
            clear hr
            obtain ⟨v40, e40, hr⟩ := hq
            have hq := asI_inv hr
            clear hr
            obtain ⟨x40, rfl, hr⟩ := hq
            refine wf_step (v := (.i .i64 x40)) (f_P rfl (s_pure (o_len rfl e40))) ?_
            refine wf_step (v := (.i .i64 0)) (f_P rfl (s_pure (p_mv rfl))) ?_
            have hq := bindO_inv hr
            clear hr
            obtain ⟨m_9, ef_1, hr⟩ := hq
            refine wf_end ef_1 ?_
            refine nx_norm ?_
            refine w_block ?_
            have hq := bindO_inv hr
            clear hr
            obtain ⟨o, hl, hr⟩ := hq
            obtain ⟨n, hl⟩ := hM.loop _ _ _ hl
            refine jp_mono (w_loop _ (g37_I1 x0 v19 v25 v1 x21 x22 v39 x40) (g37_J1 x0 v19 v25 v1 x21 x22 v39 x40) ?_ n _ _ _ _ hl ⟨rfl, gl rfl, gl g0, gl g6, gl rfl, gl g20, gl g21, gl g22, gl rfl, gl rfl⟩) ?_
            · clear hr hl
              intro s mm_1 t_2 o hi hr
              obtain ⟨x41, m_10⟩ := s
              obtain ⟨rfl, g41, g0, g6, g8, g20, g21, g22, g39, g40⟩ := hi
              unfold g37_b1 at hr
              refine w_seq ?_
              refine w_ops ?_
              have hq := forceB_inv hr
              clear hr
              obtain ⟨c42, e42, hr⟩ := hq
              refine wo_step (v := (.b c42)) (s_pure (p_bin g41 g40 (b_lss.trans (cb e42)))) ?_
              refine wo_nil ?_
              refine nx_norm ?_
              refine w_seq ?_
              have hq := cond_inv hr
              clear hr
              rcases hq with ⟨rfl, hr⟩ | ⟨rfl, hr⟩
              · refine w_condT rfl ?_
                refine w_skip ?_
                refine nx_norm ?_
                refine w_seq ?_
                refine w_block ?_
                refine w_seq ?_
                refine w_ops ?_
                have hq := bindO_inv hr
                clear hr
                obtain ⟨v43, e43, hr⟩ := hq
                refine wo_step (v := v43) (s_pure (o_ixS g39 g41 e43)) ?_
                have hq := bindO_inv hr
                clear hr
                obtain ⟨v44, e44, hr⟩ := hq
                have hq := asI_inv hr
                clear hr
                obtain ⟨x44, rfl, hr⟩ := hq
                refine wo_step (v := (.i .i64 x44)) (s_ld rfl e44) ?_
                refine wo_step (v := (.i .i64 x44)) (s_pure (p_mv rfl)) ?_
                refine wo_nil ?_
                refine nx_norm ?_
                refine w_any ?_
                refine wa_step (v := v19) (a_pure (p_mv g6)) ?_
                refine wa_step (v := (.i .i64 x44)) (a_pure (p_mv rfl)) ?_
                have hq := bindO_inv hr
                clear hr
                obtain ⟨v47, e47, hr⟩ := hq
                refine wa_step (v := v47) (a_pure (o_ixS rfl rfl e47)) ?_
                have hq := bindO_inv hr
                clear hr
                obtain ⟨v48, e48, hr⟩ := hq
                have hq := asI_inv hr
                clear hr
                obtain ⟨x48, rfl, hr⟩ := hq
                refine wa_step (v := (.i .i64 x48)) (a_ld rfl e48) ?_
                refine wa_step (v := v25) (a_pure (p_mv g8)) ?_
                have hq := bindO_inv hr
                clear hr
                obtain ⟨v50, e50, hr⟩ := hq
                refine wa_step (v := v50) (a_pure (o_ixS rfl rfl e50)) ?_
                have hq := bindO_inv hr
                clear hr
                obtain ⟨v51, e51, hr⟩ := hq
                have hq := asI_inv hr
                clear hr
                obtain ⟨x51, rfl, hr⟩ := hq
                refine wa_step (v := (.i .i64 x51)) (a_ld rfl e51) ?_
                have hq := forceI_inv hr
                clear hr
                obtain ⟨x52, e52, hr⟩ := hq
                refine wa_step (v := (.i .i64 x52)) (a_pure (p_bin rfl rfl (b_add.trans (ci e52)))) ?_
                have hq := bindO_inv hr
                clear hr
                obtain ⟨v53, e53, hr⟩ := hq
                refine wa_step (v := v53) (a_pure (o_ixS rfl rfl e53)) ?_
                have hq := asP_inv hr
                clear hr
                obtain ⟨qs, eqs, hr⟩ := hq
                refine wa_stepN (a_st (Eq.trans (b := v53) rfl eqs) rfl rfl) ?_
                have hq := bindO_inv hr
                clear hr
                obtain ⟨m_11, ew, hr⟩ := hq
                refine wa_nil ?_
                refine ⟨m_11, ew, ?_⟩
                refine bk_norm ?_
                refine nx_norm ?_
                refine w_ops ?_
                have hq := forceI_inv hr
                clear hr
                obtain ⟨x54, e54, hr⟩ := hq
                refine wo_step (v := (.i .i64 x54)) (s_pure (p_bin g41 rfl (b_add.trans (ci e54)))) ?_
                refine wo_step (v := (.i .i64 x54)) (s_pure (p_mv rfl)) ?_
                refine wo_nil ?_
                cases hr
                exact ⟨_, _, rfl, rfl, rfl, gl rfl, gl g0, gl g6, gl g8, gl g20, gl g21, gl g22, gl g39, gl g40⟩
              · refine w_condF rfl ?_
                refine w_exit ?_
                refine nx_exit ?_
                cases hr
                exact ⟨_, _, rfl, ne_norm_exit, rfl, rfl, gl g0, gl g6, gl g20, gl g21, gl g22⟩
            · obtain ⟨m_12, ho⟩ : ∃ z, z = o := ⟨_, rfl⟩
              subst ho
              rintro _ mm t_3 ⟨rfl, rfl, g0, g6, g20, g21, g22⟩
              refine bk_hit ?_
              refine bk_norm ?_
              refine nx_norm ?_
              refine w_ops ?_
              have hq := forceI_inv hr
              clear hr
              obtain ⟨x55, e55, hr⟩ := hq
              refine wo_step (v := (.i .i64 x55)) (s_pure (p_bin g22 rfl (b_add.trans (ci e55)))) ?_
              refine wo_step (v := (.i .i64 x55)) (s_pure (p_mv rfl)) ?_
              refine wo_nil ?_
              cases hr
              exact ⟨_, _, rfl, rfl, rfl, gl rfl, gl g0, gl g6, gl g20, gl g21⟩
        · refine w_condF rfl ?_
          refine w_exit ?_
          refine nx_exit ?_
          cases hr
          exact ⟨_, _, rfl, ne_norm_exit, rfl, rfl, gl g6⟩
      · rcases o_1 with o_1 | o_1
        · obtain ⟨m_13, ho⟩ : ∃ z, z = o_1 := ⟨_, rfl⟩
          subst ho
          rintro _ mm_2 t_4 ⟨rfl, rfl, g6⟩
          refine bk_hit ?_
          refine nx_norm ?_
          refine w_seq ?_
          refine w_ops ?_
          refine wo_step (v := v19) (s_pure (p_mv g6)) ?_
          refine wo_step (v := v19) (s_pure (p_mv rfl)) ?_
          refine wo_step (v := (.i .i64 0)) (s_pure (p_mv rfl)) ?_
          refine wo_nil ?_
          refine nx_norm ?_
          refine w_ret ?_
          exact qf ret_ok (rt rfl (rt rfl rn)) hr
        · obtain ⟨v4, x5, m_14⟩ := o_1
          rintro _ mm_3 t_5 ⟨rfl, rfl, g4, g5⟩
          refine bk_ret ?_
          refine nx_ret ?_
          exact qf ret_ok (rt g4 (rt g5 rn)) hr

/- dibber/dibberlaw08.submodular -/

def g39 (M : Means) (ro : List ABlk) (x0 : Int) (v1 : AVal) (m0 : Mm) : Option (AVal × Heap × Nat × Nat) :=
  bindP (callM M.call m0 17 [(.i .i64 x0), v1]) fun v11 m_1 =>
  bindO (evP .e (.ext 0 (.c v11))) fun v12 =>
  asI .i64 v12 fun x12 =>
  bindO (evP .e (.ext 1 (.c v11))) fun v13 =>
  asI .i64 v13 fun x13 =>
  bindO (evP .e (.ext 2 (.c v11))) fun v14 =>
  asI .i64 v14 fun x14 =>
  forceB (eqI x14 10) fun c16 =>
  finM m0.h.length (tupA [(.b c16)]) m_1

theorem g39_ok {ro : List ABlk} {O : Caller} {M : Means} (hM : M.Ok ⟨F, O⟩ ro) {x0 v1 h r} (ho : O 39 [(.i .i64 x0), v1] h = none) (hr : g39 M ro x0 v1 ⟨h, h.length, h.length⟩ = some r) : callX ⟨F, O⟩ ro 39 [(.i .i64 x0), v1] h = some r := by
  refine callX_of (F := ⟨F, O⟩) (fn := fn39) (g := g39 M ro x0 v1) ho rfl rfl hr ?_
  clear ho
  clear hr
  intro m0 t0 ht hr
  have g0 : t0.get 0 = (.i .i64 x0) := ht 0
  have g1 : t0.get 1 = v1 := ht 1
  clear ht
  unfold g39 at hr
  refine w_seq ?_
  refine w_ops ?_
  refine wo_step (v := (.b false)) (s_pure (p_mv rfl)) ?_
  refine wo_nil ?_
  refine nx_norm ?_
  refine w_seq ?_
  refine w_ops ?_
  refine wo_step (v := (.i .i64 x0)) (s_pure (p_mv g0)) ?_
  refine wo_step (v := v1) (s_pure (p_mv g1)) ?_
  have hq := bindP_inv hr
  clear hr
  obtain ⟨v11, m_1, e11, hr⟩ := hq
  refine wo_step (v := v11) (s_call (mc rfl (mc rfl mn)) (callM_le hM.call e11)) ?_
  refine wo_step (v := v11) (s_pure (p_mv rfl)) ?_
  have hq := bindO_inv hr
  clear hr
  obtain ⟨v12, e12, hr⟩ := hq
  have hq := asI_inv hr
  clear hr
  obtain ⟨x12, rfl, hr⟩ := hq
  refine wo_step (v := (.i .i64 x12)) (s_pure (o_ext rfl e12)) ?_
  have hq := bindO_inv hr
  clear hr
  obtain ⟨v13, e13, hr⟩ := hq
  have hq := asI_inv hr
  clear hr
  obtain ⟨x13, rfl, hr⟩ := hq
  refine wo_step (v := (.i .i64 x13)) (s_pure (o_ext rfl e13)) ?_
  have hq := bindO_inv hr
  clear hr
  obtain ⟨v14, e14, hr⟩ := hq
  have hq := asI_inv hr
  clear hr
  obtain ⟨x14, rfl, hr⟩ := hq
  refine wo_step (v := (.i .i64 x14)) (s_pure (o_ext rfl e14)) ?_
  refine wo_step (v := (.i .i64 x12)) (s_pure (p_mv rfl)) ?_
  refine wo_step (v := (.i .i64 x13)) (s_pure (p_mv rfl)) ?_
  refine wo_step (v := (.i .i64 x14)) (s_pure (p_mv rfl)) ?_
  refine wo_nil ?_
  refine nx_norm ?_
  refine w_seq ?_
  refine w_ops ?_
  refine wo_step (v := (.i .i64 x14)) (s_pure (p_mv rfl)) ?_
  have hq := forceB_inv hr
  clear hr
  obtain ⟨c16, e16, hr⟩ := hq
  refine wo_step (v := (.b c16)) (s_pure (p_bin rfl rfl (b_eql.trans (cb e16)))) ?_
  refine wo_step (v := (.b c16)) (s_pure (p_mv rfl)) ?_
  refine wo_nil ?_
  refine nx_norm ?_
  refine w_ret ?_
  exact qf ret_ok (rt rfl rn) hr

/- dibber/share.isCost -/
abbrev g44_J0 (v1 : AVal) (m_1 : Mm) (o : Bool) (m1 : Mm) (t1 : Tr) : Prop :=
  match o with
  | c13 => m_1 = m1 ∧ t1.get 13 = (.b c13) ∧ t1.get 1 = v1
abbrev g44_J1 (v1 : AVal) (m_1 : Mm) (o : Bool) (m1 : Mm) (t1 : Tr) : Prop :=
  match o with
  | c19 => m_1 = m1 ∧ t1.get 19 = (.b c19) ∧ t1.get 1 = v1
abbrev g44_J2  (o : Bool × Mm) (m1 : Mm) (t1 : Tr) : Prop :=
  match o with
  | (c23, m_2) => m_2 = m1 ∧ t1.get 23 = (.b c23)
def g44 (M : Means) (ro : List ABlk) (x0 : Int) (v1 : AVal) (m0 : Mm) : Option (AVal × Heap × Nat × Nat) :=
  bindP (callM M.call m0 84 [(.i .i64 x0)]) fun v6 m_1 =>
  asB v6 fun c6 =>
  bindO (cond c6 (
    bindO (evP .e (.len false (.c v1))) fun v9 =>
    asI .i64 v9 fun x9 =>
    chk (!ltI x0 (.ofNat 0)) <|
    forceI (shlV .i64 1 x0) fun x11 =>
    forceB (eqI x9 x11) fun c12 =>
    some c12) (
    some false)) fun c13 =>
  bindO (cond c13 (
    bindO (evP .e (.ixS 1 (.c v1) (.c (.i .i64 0)))) fun v16 =>
    bindO (ldM ro m_1 true 1 v16) fun v17 =>
    asI .i64 v17 fun x17 =>
    forceB (eqI x17 0) fun c18 =>
    some c18) (
    some false)) fun c19 =>
  bindO (cond c19 (
    bindP (callM M.call m_1 87 [v1, (.i .i64 1000000)]) fun v22 m_3 =>
    asB v22 fun c22 =>
    some (c22, m_3)) (
    some (false, m_1))) fun ⟨c23, m_2⟩ =>
  finM m0.h.length (tupA [(.b c23)]) m_2

theorem g44_ok {ro : List ABlk} {O : Caller} {M : Means} (hM : M.Ok ⟨F, O⟩ ro) {x0 v1 h r} (ho : O 44 [(.i .i64 x0), v1] h = none) (hr : g44 M ro x0 v1 ⟨h, h.length, h.length⟩ = some r) : callX ⟨F, O⟩ ro 44 [(.i .i64 x0), v1] h = some r := by
  refine callX_of (F := ⟨F, O⟩) (fn := fn44) (g := g44 M ro x0 v1) ho rfl rfl hr ?_
  clear ho
  clear hr
  intro m0 t0 ht hr
  have g0 : t0.get 0 = (.i .i64 x0) := ht 0
  have g1 : t0.get 1 = v1 := ht 1
  clear ht
  unfold g44 at hr
  refine w_seq ?_
  refine w_ops ?_
  refine wo_step (v := (.b false)) (s_pure (p_mv rfl)) ?_
  refine wo_nil ?_
  refine nx_norm ?_
  refine w_seq ?_
  refine w_ops ?_
  refine wo_step (v := (.i .i64 x0)) (s_pure (p_mv g0)) ?_
  have hq := bindP_inv hr
  clear hr
  obtain ⟨v6, m_1, e6, hr⟩ := hq
  have hq := asB_inv hr
  clear hr
  obtain ⟨c6, rfl, hr⟩ := hq
  refine wo_step (v := (.b c6)) (s_call (mc rfl mn) (callM_le hM.call e6)) ?_
  refine wo_step (v := (.b c6)) (s_pure (p_mv rfl)) ?_
  have hq := bindO_inv hr
  clear hr
  obtain ⟨o, hr, hk⟩ := hq
  refine wo_join 6 (g44_J0 v1 m_1 o) ?_ ?_
  · clear hk
    have hq := cond_inv hr
    clear hr
    rcases hq with ⟨rfl, hr⟩ | ⟨rfl, hr⟩
    · refine wo_take (v := v1) rfl (s_pure (p_mv g1)) ?_
      have hq := bindO_inv hr
      clear hr
      obtain ⟨v9, e9, hr⟩ := hq
      have hq := asI_inv hr
      clear hr
      obtain ⟨x9, rfl, hr⟩ := hq
      refine wo_take (v := (.i .i64 x9)) rfl (s_pure (o_len rfl e9)) ?_
      refine wo_take (v := (.i .i64 x0)) rfl (s_pure (p_mv g0)) ?_
      have hq := chk_inv hr
      clear hr
      obtain ⟨hc11, hr⟩ := hq
      have hq := forceI_inv hr
      clear hr
      obtain ⟨x11, e11, hr⟩ := hq
      refine wo_take (v := (.i .i64 x11)) rfl (s_pure (p_bin rfl rfl ((b_shl hc11).trans (ci e11)))) ?_
      have hq := forceB_inv hr
      clear hr
      obtain ⟨c12, e12, hr⟩ := hq
      refine wo_take (v := (.b c12)) rfl (s_pure (p_bin rfl rfl (b_eql.trans (cb e12)))) ?_
      refine wo_step (v := (.b c12)) (s_pure (p_pickT rfl rfl)) ?_
      refine wo_nil ?_
      cases hr
      exact ⟨_, _, rfl, rfl, gl rfl, gl g1⟩
    · refine wo_skip (v := (.b false)) rfl rfl ?_
      refine wo_skip (v := (.b false)) rfl rfl ?_
      refine wo_skip (v := (.b false)) rfl rfl ?_
      refine wo_skip (v := (.b false)) rfl rfl ?_
      refine wo_skip (v := (.b false)) rfl rfl ?_
      refine wo_step (v := (.b false)) (s_pure (p_pickF rfl rfl)) ?_
      refine wo_nil ?_
      cases hr
      exact ⟨_, _, rfl, rfl, gl rfl, gl g1⟩
  · clear hr
    have hr := hk
    clear hk
    obtain ⟨c13, ho⟩ : ∃ z, z = o := ⟨_, rfl⟩
    subst ho
    rintro mm t_1 ⟨rfl, g13, g1⟩
    refine wo_step (v := (.b c13)) (s_pure (p_mv g13)) ?_
    have hq := bindO_inv hr
    clear hr
    obtain ⟨o_1, hr, hk⟩ := hq
    refine wo_join 5 (g44_J1 v1 m_1 o_1) ?_ ?_
    · clear hk
      have hq := cond_inv hr
      clear hr
      rcases hq with ⟨rfl, hr⟩ | ⟨rfl, hr⟩
      · refine wo_take (v := v1) rfl (s_pure (p_mv g1)) ?_
        have hq := bindO_inv hr
        clear hr
        obtain ⟨v16, e16, hr⟩ := hq
        refine wo_take (v := v16) rfl (s_pure (o_ixS rfl rfl e16)) ?_
        have hq := bindO_inv hr
        clear hr
        obtain ⟨v17, e17, hr⟩ := hq
        have hq := asI_inv hr
        clear hr
        obtain ⟨x17, rfl, hr⟩ := hq
        refine wo_take (v := (.i .i64 x17)) rfl (s_ld rfl e17) ?_
        have hq := forceB_inv hr
        clear hr
        obtain ⟨c18, e18, hr⟩ := hq
        refine wo_take (v := (.b c18)) rfl (s_pure (p_bin rfl rfl (b_eql.trans (cb e18)))) ?_
        refine wo_step (v := (.b c18)) (s_pure (p_pickT rfl rfl)) ?_
        refine wo_nil ?_
        cases hr
        exact ⟨_, _, rfl, rfl, gl rfl, gl g1⟩
      · refine wo_skip (v := (.b false)) rfl rfl ?_
        refine wo_skip (v := (.b false)) rfl rfl ?_
        refine wo_skip (v := (.b false)) rfl rfl ?_
        refine wo_skip (v := (.b false)) rfl rfl ?_
        refine wo_step (v := (.b false)) (s_pure (p_pickF rfl rfl)) ?_
        refine wo_nil ?_
        cases hr
        exact ⟨_, _, rfl, rfl, gl rfl, gl g1⟩
    · clear hr
      have hr := hk
      clear hk
      obtain ⟨c19, ho⟩ : ∃ z, z = o_1 := ⟨_, rfl⟩
      subst ho
      rintro mm_1 t_2 ⟨rfl, g19, g1⟩
      refine wo_step (v := (.b c19)) (s_pure (p_mv g19)) ?_
      have hq := bindO_inv hr
      clear hr
      obtain ⟨o_2, hr, hk⟩ := hq
      refine wo_join 3 (g44_J2  o_2) ?_ ?_
      · clear hk
        have hq := cond_inv hr
        clear hr
        rcases hq with ⟨rfl, hr⟩ | ⟨rfl, hr⟩
        · refine wo_take (v := v1) rfl (s_pure (p_mv g1)) ?_
          have hq := bindP_inv hr
          clear hr
          obtain ⟨v22, m_3, e22, hr⟩ := hq
          have hq := asB_inv hr
          clear hr
          obtain ⟨c22, rfl, hr⟩ := hq
          refine wo_take (v := (.b c22)) rfl (s_call (mc rfl (mc rfl mn)) (callM_le hM.call e22)) ?_
          refine wo_step (v := (.b c22)) (s_pure (p_pickT rfl rfl)) ?_
          refine wo_nil ?_
          cases hr
          exact ⟨_, _, rfl, rfl, gl rfl⟩
        · refine wo_skip (v := (.b false)) rfl rfl ?_
          refine wo_skip (v := (.b false)) rfl rfl ?_
          refine wo_step (v := (.b false)) (s_pure (p_pickF rfl rfl)) ?_
          refine wo_nil ?_
          cases hr
          exact ⟨_, _, rfl, rfl, gl rfl⟩
      · clear hr
        have hr := hk
        clear hk
        obtain ⟨c23, m_2⟩ := o_2
        rintro mm_2 t_3 ⟨rfl, g23⟩
        refine wo_step (v := (.b c23)) (s_pure (p_mv g23)) ?_
        refine wo_nil ?_
        refine nx_norm ?_
        refine w_ret ?_
        exact qf ret_ok (rt rfl rn) hr

/- dibber/share.groups -/
abbrev g45_I0 (v1 : AVal) (x8 : Int) (s : AVal × Int × Mm) (m1 : Mm) (t1 : Tr) : Prop :=
  match s with
  | (v5, x9, m_1) => m_1 = m1 ∧ t1.get 5 = v5 ∧ t1.get 9 = (.i .i64 x9) ∧ t1.get 1 = v1 ∧ t1.get 8 = (.i .i64 x8)
abbrev g45_J0 (v1 : AVal) (x8 : Int) (o : (AVal × Mm)) (e : AExit) (m1 : Mm) (t1 : Tr) : Prop :=
  match o with
  | (y5, mo) => e = (.exit 0) ∧ mo = m1 ∧ t1.get 5 = y5
abbrev g45_J1 (v1 : AVal) (x8 : Int) (x9 : Int) (o : (AVal × Mm)) (e : AExit) (m1 : Mm) (t1 : Tr) : Prop :=
  match o with
  | (y5, mo) => e = .norm ∧ mo = m1 ∧ t1.get 5 = y5 ∧ t1.get 1 = v1 ∧ t1.get 8 = (.i .i64 x8) ∧ t1.get 9 = (.i .i64 x9)
def g45_b0 (M : Means) (ro : List ABlk) (v1 : AVal) (x8 : Int) (v5 : AVal) (x9 : Int) (m_1 : Mm) : Option ((AVal × Int × Mm) ⊕ ((AVal × Mm))) :=
  forceB (ltI x9 x8) fun c10 =>
  cond c10 (
    bindP (callM M.call m_1 88 [(.i .i64 x9), v1]) fun v14 m_2 =>
    asB v14 fun c14 =>
    bindO (α := (AVal × Mm)) (
      cond c14 (
        bindP (stepM ro m_2 (.bsl 3 1 [(AVal.i IntKind.i64 0)] 1 [((0, 1), .c (.i .i64 x9))])) fun v17 m_3 =>
        bindP (stepM ro m_3 (.app 3 1 8 [(AVal.i IntKind.i64 0)] (.c v5) (.c v17))) fun v18 m_4 =>
        some (v18, m_4)) (
        some (v5, m_2))) fun ⟨v5_1, m_5⟩ =>
    forceI (wr .i64 (x9 + 1)) fun x19 =>
    some (.inl (v5_1, x19, m_5))) (
    some (.inr (v5, m_1)))
def g45 (M : Means) (ro : List ABlk) (x0 : Int) (v1 : AVal) (m0 : Mm) : Option (AVal × Heap × Nat × Nat) :=
  chk (!ltI x0 (.ofNat 0)) <|
  forceI (shlV .i64 1 x0) fun x8 =>
  bindO (M.loop (S := AVal × Int × Mm) (R := (AVal × Mm)) (fun s => g45_b0 M ro v1 x8 s.1 s.2.1 s.2.2) (AVal.nsl, 0, m0)) fun ⟨v5_2, m_6⟩ =>
  finM m0.h.length (tupA [v5_2]) m_6

theorem g45_ok {ro : List ABlk} {O : Caller} {M : Means} (hM : M.Ok ⟨F, O⟩ ro) {x0 v1 h r} (ho : O 45 [(.i .i64 x0), v1] h = none) (hr : g45 M ro x0 v1 ⟨h, h.length, h.length⟩ = some r) : callX ⟨F, O⟩ ro 45 [(.i .i64 x0), v1] h = some r := by
  refine callX_of (F := ⟨F, O⟩) (fn := fn45) (g := g45 M ro x0 v1) ho rfl rfl hr ?_
  clear ho
  clear hr
  intro m0 t0 ht hr
  have g0 : t0.get 0 = (.i .i64 x0) := ht 0
  have g1 : t0.get 1 = v1 := ht 1
  clear ht
  unfold g45 at hr
  refine w_seq ?_
  refine w_ops ?_
  refine wo_step (v := AVal.nsl) (s_pure (p_mv rfl)) ?_
  refine wo_nil ?_
  refine nx_norm ?_
  refine w_seq ?_
  refine w_ops ?_
  refine wo_step (v := AVal.nsl) (s_pure (p_mv rfl)) ?_
  refine wo_nil ?_
  refine nx_norm ?_
  refine w_seq ?_
  refine w_seq ?_
  refine w_ops ?_
  refine wo_step (v := (.i .i64 x0)) (s_pure (p_mv g0)) ?_
  have hq := chk_inv hr
  clear hr
  obtain ⟨hc8, hr⟩ := hq
  have hq := forceI_inv hr
  clear hr
  obtain ⟨x8, e8, hr⟩ := hq
  refine wo_step (v := (.i .i64 x8)) (s_pure (p_bin rfl rfl ((b_shl hc8).trans (ci e8)))) ?_
  refine wo_step (v := (.i .i64 0)) (s_pure (p_mv rfl)) ?_
  refine wo_nil ?_
  refine nx_norm ?_
  refine w_block ?_
  have hq := bindO_inv hr
  clear hr
  obtain ⟨o_1, hl, hr⟩ := hq
  obtain ⟨n, hl⟩ := hM.loop _ _ _ hl
  refine jp_mono (w_loop _ (g45_I0 v1 x8) (g45_J0 v1 x8) ?_ n _ _ _ _ hl ⟨rfl, gl rfl, gl rfl, gl g1, gl rfl⟩) ?_
  · clear hr hl
    intro s mm_2 t_1 o hi hr
    obtain ⟨v5, x9, m_1⟩ := s
    obtain ⟨rfl, g5, g9, g1, g8⟩ := hi
    unfold g45_b0 at hr
    refine w_seq ?_
    refine w_ops ?_
    have hq := forceB_inv hr
    clear hr
    obtain ⟨c10, e10, hr⟩ := hq
    refine wo_step (v := (.b c10)) (s_pure (p_bin g9 g8 (b_lss.trans (cb e10)))) ?_
    refine wo_nil ?_
    refine nx_norm ?_
    refine w_seq ?_
    have hq := cond_inv hr
    clear hr
    rcases hq with ⟨rfl, hr⟩ | ⟨rfl, hr⟩
    · refine w_condT rfl ?_
      refine w_skip ?_
      refine nx_norm ?_
      refine w_seq ?_
      refine w_block ?_
      refine w_seq ?_
      refine w_ops ?_
      refine wo_step (v := (.i .i64 x9)) (s_pure (p_mv g9)) ?_
      refine wo_step (v := (.i .i64 x9)) (s_pure (p_mv rfl)) ?_
      refine wo_nil ?_
      refine nx_norm ?_
      refine w_seq ?_
      refine w_ops ?_
      refine wo_step (v := (.i .i64 x9)) (s_pure (p_mv rfl)) ?_
      refine wo_step (v := v1) (s_pure (p_mv g1)) ?_
      have hq := bindP_inv hr
      clear hr
      obtain ⟨v14, m_2, e14, hr⟩ := hq
      have hq := asB_inv hr
      clear hr
      obtain ⟨c14, rfl, hr⟩ := hq
      refine wo_step (v := (.b c14)) (s_call (mc rfl (mc rfl mn)) (callM_le hM.call e14)) ?_
      refine wo_nil ?_
      refine nx_norm ?_
      have hq := bindO_inv hr
      clear hr
      obtain ⟨o, hr, hk⟩ := hq
      refine jp_mono (J := g45_J1 v1 x8 x9 o) ?_ ?_
      · clear hk
        have hq := cond_inv hr
        clear hr
        rcases hq with ⟨rfl, hr⟩ | ⟨rfl, hr⟩
        · refine w_condT rfl ?_
          refine w_ops ?_
          refine wo_step (v := v5) (s_pure (p_mv g5)) ?_
          refine wo_step (v := (.i .i64 x9)) (s_pure (p_mv rfl)) ?_
          have hq := bindP_inv hr
          clear hr
          obtain ⟨v17, m_3, e17, hr⟩ := hq
          refine wo_step (v := v17) (s_bsl (qc rfl qn) e17) ?_
          have hq := bindP_inv hr
          clear hr
          obtain ⟨v18, m_4, e18, hr⟩ := hq
          refine wo_step (v := v18) (s_app rfl rfl e18) ?_
          refine wo_step (v := v18) (s_pure (p_mv rfl)) ?_
          refine wo_nil ?_
          cases hr
          exact ⟨_, _, rfl, rfl, rfl, gl rfl, gl g1, gl g8, gl g9⟩
        · refine w_condF rfl ?_
          refine w_skip ?_
          cases hr
          exact ⟨_, _, rfl, rfl, rfl, gl g5, gl g1, gl g8, gl g9⟩
      · clear hr
        have hr := hk
        clear hk
        obtain ⟨v5_1, m_5⟩ := o
        rintro _ mm t_2 ⟨rfl, rfl, g5, g1, g8, g9⟩
        refine bk_norm ?_
        refine nx_norm ?_
        refine w_ops ?_
        have hq := forceI_inv hr
        clear hr
        obtain ⟨x19, e19, hr⟩ := hq
        refine wo_step (v := (.i .i64 x19)) (s_pure (p_bin g9 rfl (b_add.trans (ci e19)))) ?_
        refine wo_step (v := (.i .i64 x19)) (s_pure (p_mv rfl)) ?_
        refine wo_nil ?_
        cases hr
        exact ⟨_, _, rfl, rfl, rfl, gl g5, gl rfl, gl g1, gl g8⟩
    · refine w_condF rfl ?_
      refine w_exit ?_
      refine nx_exit ?_
      cases hr
      exact ⟨_, _, rfl, ne_norm_exit, rfl, rfl, gl g5⟩
  · obtain ⟨v5_2, m_6⟩ := o_1
    rintro _ mm_1 t_3 ⟨rfl, rfl, g5⟩
    refine bk_hit ?_
    refine nx_norm ?_
    refine w_seq ?_
    refine w_ops ?_
    refine wo_step (v := v5_2) (s_pure (p_mv g5)) ?_
    refine wo_step (v := v5_2) (s_pure (p_mv rfl)) ?_
    refine wo_nil ?_
    refine nx_norm ?_
    refine w_ret ?_
    exact qf ret_ok (rt rfl rn) hr

/- dibber/share.above -/

def g46 (M : Means) (ro : List ABlk) (x0 : Int) (m0 : Mm) : Option (AVal × Heap × Nat × Nat) :=
  bindP (stepM ro m0 (.bx 3 1 (.c (.i .i64 x0)))) fun v1 m_1 =>
  bindO (some (AVal.fn 89 [] [v1])) fun v3 =>
  finM m0.h.length (tupA [v3]) m_1

theorem g46_ok {ro : List ABlk} {O : Caller} {M : Means} (hM : M.Ok ⟨F, O⟩ ro) {x0 h r} (ho : O 46 [(.i .i64 x0)] h = none) (hr : g46 M ro x0 ⟨h, h.length, h.length⟩ = some r) : callX ⟨F, O⟩ ro 46 [(.i .i64 x0)] h = some r := by
  refine callX_of (F := ⟨F, O⟩) (fn := fn46) (g := g46 M ro x0) ho rfl rfl hr ?_
  clear ho
  clear hr
  intro m0 t0 ht hr
  have g0 : t0.get 0 = (.i .i64 x0) := ht 0
  clear ht
  unfold g46 at hr
  refine w_seq ?_
  refine w_ops ?_
  have hq := bindP_inv hr
  clear hr
  obtain ⟨v1, m_1, e1, hr⟩ := hq
  refine wo_step (v := v1) (s_bx g0 e1) ?_
  refine wo_step (v := AVal.nfn) (s_pure (p_mv rfl)) ?_
  refine wo_nil ?_
  refine nx_norm ?_
  refine w_seq ?_
  refine w_ops ?_
  have hq := bindO_inv hr
  clear hr
  obtain ⟨v3, e3, hr⟩ := hq
  refine wo_step (v := v3) (s_pure ((o_mkfn mn (mc rfl mn)).trans e3)) ?_
  refine wo_step (v := v3) (s_pure (p_mv rfl)) ?_
  refine wo_nil ?_
  refine nx_norm ?_
  refine w_ret ?_
  exact qf ret_ok (rt rfl rn) hr

/- dibber/share.breaks -/

def g47 (M : Means) (ro : List ABlk) (v0 : AVal) (x1 : Int) (m0 : Mm) : Option (AVal × Heap × Nat × Nat) :=
  bindP (stepM ro m0 (.bx 22 1 (.c v0))) fun v2 m_1 =>
  bindP (stepM ro m_1 (.bx 3 1 (.c (.i .i64 x1)))) fun v3 m_2 =>
  bindO (some (AVal.fn 90 [] [v2, v3])) fun v5 =>
  finM m0.h.length (tupA [v5]) m_2

theorem g47_ok {ro : List ABlk} {O : Caller} {M : Means} (hM : M.Ok ⟨F, O⟩ ro) {v0 x1 h r} (ho : O 47 [v0, (.i .i64 x1)] h = none) (hr : g47 M ro v0 x1 ⟨h, h.length, h.length⟩ = some r) : callX ⟨F, O⟩ ro 47 [v0, (.i .i64 x1)] h = some r := by
  refine callX_of (F := ⟨F, O⟩) (fn := fn47) (g := g47 M ro v0 x1) ho rfl rfl hr ?_
  clear ho
  clear hr
  intro m0 t0 ht hr
  have g0 : t0.get 0 = v0 := ht 0
  have g1 : t0.get 1 = (.i .i64 x1) := ht 1
  clear ht
  unfold g47 at hr
  refine w_seq ?_
  refine w_ops ?_
  have hq := bindP_inv hr
  clear hr
  obtain ⟨v2, m_1, e2, hr⟩ := hq
  refine wo_step (v := v2) (s_bx g0 e2) ?_
  have hq := bindP_inv hr
  clear hr
  obtain ⟨v3, m_2, e3, hr⟩ := hq
  refine wo_step (v := v3) (s_bx g1 e3) ?_
  refine wo_step (v := AVal.nfn) (s_pure (p_mv rfl)) ?_
  refine wo_nil ?_
  refine nx_norm ?_
  refine w_seq ?_
  refine w_ops ?_
  have hq := bindO_inv hr
  clear hr
  obtain ⟨v5, e5, hr⟩ := hq
  refine wo_step (v := v5) (s_pure ((o_mkfn mn (mc rfl (mc rfl mn))).trans e5)) ?_
  refine wo_step (v := v5) (s_pure (p_mv rfl)) ?_
  refine wo_nil ?_
  refine nx_norm ?_
  refine w_ret ?_
  exact qf ret_ok (rt rfl rn) hr

/- dibber/dibberref08.Cost -/
abbrev g48_J0 (x0 : Int) (v1 : AVal) (m0 : Mm) (o : Bool) (m1 : Mm) (t1 : Tr) : Prop :=
  match o with
  | c11 => m0 = m1 ∧ t1.get 11 = (.b c11) ∧ t1.get 0 = (.i .i64 x0) ∧ t1.get 1 = v1
abbrev g48_J1 (v1 : AVal) (m0 : Mm) (o : Bool) (m1 : Mm) (t1 : Tr) : Prop :=
  match o with
  | c18 => m0 = m1 ∧ t1.get 18 = (.b c18) ∧ t1.get 1 = v1
abbrev g48_J2 (v1 : AVal) (m0 : Mm) (o : Bool) (m1 : Mm) (t1 : Tr) : Prop :=
  match o with
  | c24 => m0 = m1 ∧ t1.get 24 = (.b c24) ∧ t1.get 1 = v1
abbrev g48_I3 (v1 : AVal) (m0 : Mm) (s : Int) (m1 : Mm) (t1 : Tr) : Prop :=
  match s with
  | x5 => m0 = m1 ∧ t1.get 5 = (.i .i64 x5) ∧ t1.get 1 = v1
abbrev g48_J3 (v1 : AVal) (m0 : Mm) (o : (Unit ⊕ Bool)) (e : AExit) (m1 : Mm) (t1 : Tr) : Prop :=
  match o with
  | (.inl _) => e = (.exit 0) ∧ m0 = m1
  | (.inr y4) => e = .ret ∧ m0 = m1 ∧ t1.get 4 = (.b y4)
abbrev g48_J4 (v1 : AVal) (x5 : Int) (m0 : Mm) (o : Bool) (m1 : Mm) (t1 : Tr) : Prop :=
  match o with
  | c42 => m0 = m1 ∧ t1.get 42 = (.b c42) ∧ t1.get 1 = v1 ∧ t1.get 5 = (.i .i64 x5)
def g48_b3 (M : Means) (ro : List ABlk) (v1 : AVal) (m0 : Mm) (x5 : Int) : Option ((Int) ⊕ ((Unit ⊕ Bool))) :=
  bindO (evP .e (.len false (.c v1))) fun v27 =>
  asI .i64 v27 fun x27 =>
  forceB (ltI x5 x27) fun c28 =>
  cond c28 (
    bindO (evP .e (.ixS 1 (.c v1) (.c (.i .i64 x5)))) fun v33 =>
    bindO (ldM ro m0 true 1 v33) fun v34 =>
    asI .i64 v34 fun x34 =>
    forceB (ltI x34 (-1000000)) fun c35 =>
    bindO (cond c35 (
      some true) (
      bindO (evP .e (.ixS 1 (.c v1) (.c (.i .i64 x5)))) fun v39 =>
      bindO (ldM ro m0 true 1 v39) fun v40 =>
      asI .i64 v40 fun x40 =>
      forceB (ltI 1000000 x40) fun c41 =>
      some c41)) fun c42 =>
    cond c42 (
      some (.inr (.inr false))) (
      forceI (wr .i64 (x5 + 1)) fun x30 =>
      some (.inl x30))) (
    some (.inr (.inl ())))
def g48 (M : Means) (ro : List ABlk) (x0 : Int) (v1 : AVal) (m0 : Mm) : Option (AVal × Heap × Nat × Nat) :=
  forceB (ltI x0 1) fun c7 =>
  bindO (cond c7 (
    some true) (
    forceB (ltI 6 x0) fun c10 =>
    some c10)) fun c11 =>
  bindO (cond c11 (
    some true) (
    bindO (evP .e (.len false (.c v1))) fun v14 =>
    asI .i64 v14 fun x14 =>
    chk (!ltI x0 (.ofNat 0)) <|
    forceI (shlV .i64 1 x0) fun x16 =>
    forceB (!eqI x14 x16) fun c17 =>
    some c17)) fun c18 =>
  bindO (cond c18 (
    some true) (
    bindO (evP .e (.ixS 1 (.c v1) (.c (.i .i64 0)))) fun v21 =>
    bindO (ldM ro m0 true 1 v21) fun v22 =>
    asI .i64 v22 fun x22 =>
    forceB (!eqI x22 0) fun c23 =>
    some c23)) fun c24 =>
  cond c24 (
    finM m0.h.length (tupA [(.b false)]) m0) (
    bindO (M.loop (S := Int) (R := (Unit ⊕ Bool)) (fun s => g48_b3 M ro v1 m0 s) 0) fun o_4 => match o_4 with
    | (.inl _) =>
      finM m0.h.length (tupA [(.b true)]) m0
    | (.inr c4) =>
      finM m0.h.length (tupA [(.b c4)]) m0)

theorem g48_ok {ro : List ABlk} {O : Caller} {M : Means} (hM : M.Ok ⟨F, O⟩ ro) {x0 v1 h r} (ho : O 48 [(.i .i64 x0), v1] h = none) (hr : g48 M ro x0 v1 ⟨h, h.length, h.length⟩ = some r) : callX ⟨F, O⟩ ro 48 [(.i .i64 x0), v1] h = some r := by
  refine callX_of (F := ⟨F, O⟩) (fn := fn48) (g := g48 M ro x0 v1) ho rfl rfl hr ?_
  clear ho
  clear hr
  intro m0 t0 ht hr
  have g0 : t0.get 0 = (.i .i64 x0) := ht 0
  have g1 : t0.get 1 = v1 := ht 1
  clear ht
  unfold g48 at hr
  refine w_seq ?_
  refine w_ops ?_
  refine wo_step (v := (.b false)) (s_pure (p_mv rfl)) ?_
  refine wo_nil ?_
  refine nx_norm ?_
  refine w_seq ?_
  refine w_seq ?_
  refine w_ops ?_
  refine wo_step (v := (.i .i64 x0)) (s_pure (p_mv g0)) ?_
  have hq := forceB_inv hr
  clear hr
  obtain ⟨c7, e7, hr⟩ := hq
  refine wo_step (v := (.b c7)) (s_pure (p_bin rfl rfl (b_lss.trans (cb e7)))) ?_
  refine wo_step (v := (.b c7)) (s_pure (p_mv rfl)) ?_
  have hq := bindO_inv hr
  clear hr
  obtain ⟨o, hr, hk⟩ := hq
  refine wo_join 3 (g48_J0 x0 v1 m0 o) ?_ ?_
  · clear hk
    have hq := cond_inv hr
    clear hr
    rcases hq with ⟨rfl, hr⟩ | ⟨rfl, hr⟩
    · refine wo_skip (v := (.b true)) rfl rfl ?_
      refine wo_skip (v := (.b true)) rfl rfl ?_
      refine wo_step (v := (.b true)) (s_pure (p_pickT rfl rfl)) ?_
      refine wo_nil ?_
      cases hr
      exact ⟨_, _, rfl, rfl, gl rfl, gl g0, gl g1⟩
    · refine wo_take (v := (.i .i64 x0)) rfl (s_pure (p_mv g0)) ?_
      have hq := forceB_inv hr
      clear hr
      obtain ⟨c10, e10, hr⟩ := hq
      refine wo_take (v := (.b c10)) rfl (s_pure (p_bin rfl rfl (b_gtr.trans (cb e10)))) ?_
      refine wo_step (v := (.b c10)) (s_pure (p_pickF rfl rfl)) ?_
      refine wo_nil ?_
      cases hr
      exact ⟨_, _, rfl, rfl, gl rfl, gl g0, gl g1⟩
  · clear hr
    have hr := hk
    clear hk
    obtain ⟨c11, ho⟩ : ∃ z, z = o := ⟨_, rfl⟩
    subst ho
    rintro mm t_1 ⟨rfl, g11, g0, g1⟩
    refine wo_step (v := (.b c11)) (s_pure (p_mv g11)) ?_
    have hq := bindO_inv hr
    clear hr
    obtain ⟨o_1, hr, hk⟩ := hq
    refine wo_join 6 (g48_J1 v1 m0 o_1) ?_ ?_
    · clear hk
      have hq := cond_inv hr
      clear hr
      rcases hq with ⟨rfl, hr⟩ | ⟨rfl, hr⟩
      · refine wo_skip (v := (.b true)) rfl rfl ?_
        refine wo_skip (v := (.b true)) rfl rfl ?_
        refine wo_skip (v := (.b true)) rfl rfl ?_
        refine wo_skip (v := (.b true)) rfl rfl ?_
        refine wo_skip (v := (.b true)) rfl rfl ?_
        refine wo_step (v := (.b true)) (s_pure (p_pickT rfl rfl)) ?_
        refine wo_nil ?_
        cases hr
        exact ⟨_, _, rfl, rfl, gl rfl, gl g1⟩
      · refine wo_take (v := v1) rfl (s_pure (p_mv g1)) ?_
        have hq := bindO_inv hr
        clear hr
        obtain ⟨v14, e14, hr⟩ := hq
        have hq := asI_inv hr
        clear hr
        obtain ⟨x14, rfl, hr⟩ := hq
        refine wo_take (v := (.i .i64 x14)) rfl (s_pure (o_len rfl e14)) ?_
        refine wo_take (v := (.i .i64 x0)) rfl (s_pure (p_mv g0)) ?_
        have hq := chk_inv hr
        clear hr
        obtain ⟨hc16, hr⟩ := hq
        have hq := forceI_inv hr
        clear hr
        obtain ⟨x16, e16, hr⟩ := hq
        refine wo_take (v := (.i .i64 x16)) rfl (s_pure (p_bin rfl rfl ((b_shl hc16).trans (ci e16)))) ?_
        have hq := forceB_inv hr
        clear hr
        obtain ⟨c17, e17, hr⟩ := hq
        refine wo_take (v := (.b c17)) rfl (s_pure (p_bin rfl rfl (b_neq.trans (cb e17)))) ?_
        refine wo_step (v := (.b c17)) (s_pure (p_pickF rfl rfl)) ?_
        refine wo_nil ?_
        cases hr
        exact ⟨_, _, rfl, rfl, gl rfl, gl g1⟩
    · clear hr
      have hr := hk
      clear hk
      obtain ⟨c18, ho⟩ : ∃ z, z = o_1 := ⟨_, rfl⟩
      subst ho
      rintro mm_1 t_2 ⟨rfl, g18, g1⟩
      refine wo_step (v := (.b c18)) (s_pure (p_mv g18)) ?_
      have hq := bindO_inv hr
      clear hr
      obtain ⟨o_2, hr, hk⟩ := hq
      refine wo_join 5 (g48_J2 v1 m0 o_2) ?_ ?_
      · clear hk
        have hq := cond_inv hr
        clear hr
        rcases hq with ⟨rfl, hr⟩ | ⟨rfl, hr⟩
        · refine wo_skip (v := (.b true)) rfl rfl ?_
          refine wo_skip (v := (.b true)) rfl rfl ?_
          refine wo_skip (v := (.b true)) rfl rfl ?_
          refine wo_skip (v := (.b true)) rfl rfl ?_
          refine wo_step (v := (.b true)) (s_pure (p_pickT rfl rfl)) ?_
          refine wo_nil ?_
          cases hr
          exact ⟨_, _, rfl, rfl, gl rfl, gl g1⟩
        · refine wo_take (v := v1) rfl (s_pure (p_mv g1)) ?_
          have hq := bindO_inv hr
          clear hr
          obtain ⟨v21, e21, hr⟩ := hq
          refine wo_take (v := v21) rfl (s_pure (o_ixS rfl rfl e21)) ?_
          have hq := bindO_inv hr
          clear hr
          obtain ⟨v22, e22, hr⟩ := hq
          have hq := asI_inv hr
          clear hr
          obtain ⟨x22, rfl, hr⟩ := hq
          refine wo_take (v := (.i .i64 x22)) rfl (s_ld rfl e22) ?_
          have hq := forceB_inv hr
          clear hr
          obtain ⟨c23, e23, hr⟩ := hq
          refine wo_take (v := (.b c23)) rfl (s_pure (p_bin rfl rfl (b_neq.trans (cb e23)))) ?_
          refine wo_step (v := (.b c23)) (s_pure (p_pickF rfl rfl)) ?_
          refine wo_nil ?_
          cases hr
          exact ⟨_, _, rfl, rfl, gl rfl, gl g1⟩
      · clear hr
        have hr := hk
        clear hk
        obtain ⟨c24, ho⟩ : ∃ z, z = o_2 := ⟨_, rfl⟩
        subst ho
        rintro mm_2 t_3 ⟨rfl, g24, g1⟩
        refine wo_nil ?_
        refine nx_norm ?_
        have hq := cond_inv hr
        clear hr
        rcases hq with ⟨rfl, hr⟩ | ⟨rfl, hr⟩
        · refine w_condT g24 ?_
          refine w_seq ?_
          refine w_ops ?_
          refine wo_step (v := (.b false)) (s_pure (p_mv rfl)) ?_
          refine wo_nil ?_
          refine nx_norm ?_
          refine w_ret ?_
          refine nx_ret ?_
          exact qf ret_ok (rt rfl rn) hr
        · refine w_condF g24 ?_
          refine w_skip ?_
          refine nx_norm ?_
          refine w_seq ?_
          refine w_seq ?_
          refine w_ops ?_
          refine wo_step (v := (.i .i64 0)) (s_pure (p_mv rfl)) ?_
          refine wo_nil ?_
          refine nx_norm ?_
          refine w_block ?_
          have hq := bindO_inv hr
          clear hr
          obtain ⟨o_4, hl, hr⟩ := hq
          obtain ⟨n, hl⟩ := hM.loop _ _ _ hl
          refine jp_mono (w_loop _ (g48_I3 v1 m0) (g48_J3 v1 m0) ?_ n _ _ _ _ hl ⟨rfl, gl rfl, gl g1⟩) ?_
          · clear hr hl
            intro s mm_6 t_4 o hi hr
            obtain ⟨x5, hs⟩ : ∃ z, z = s := ⟨_, rfl⟩
            subst hs
            obtain ⟨rfl, g5, g1⟩ := hi
            unfold g48_b3 at hr
            refine w_seq ?_
            refine w_seq ?_
            refine w_ops ?_
            refine wo_step (v := (.i .i64 x5)) (s_pure (p_mv g5)) ?_
            refine wo_step (v := v1) (s_pure (p_mv g1)) ?_
            have hq := bindO_inv hr
            clear hr
            obtain ⟨v27, e27, hr⟩ := hq
            have hq := asI_inv hr
            clear hr
            obtain ⟨x27, rfl, hr⟩ := hq
            refine wo_step (v := (.i .i64 x27)) (s_pure (o_len rfl e27)) ?_
            have hq := forceB_inv hr
            clear hr
            obtain ⟨c28, e28, hr⟩ := hq
            refine wo_step (v := (.b c28)) (s_pure (p_bin rfl rfl (b_lss.trans (cb e28)))) ?_
            refine wo_nil ?_
            refine nx_norm ?_
            have hq := cond_inv hr
            clear hr
            rcases hq with ⟨rfl, hr⟩ | ⟨rfl, hr⟩
            · refine w_condT rfl ?_
              refine w_skip ?_
              refine nx_norm ?_
              refine w_seq ?_
              refine w_block ?_
              refine w_seq ?_
              refine w_ops ?_
              refine wo_step (v := v1) (s_pure (p_mv g1)) ?_
              refine wo_step (v := (.i .i64 x5)) (s_pure (p_mv g5)) ?_
              have hq := bindO_inv hr
              clear hr
              obtain ⟨v33, e33, hr⟩ := hq
              refine wo_step (v := v33) (s_pure (o_ixS rfl rfl e33)) ?_
              have hq := bindO_inv hr
              clear hr
              obtain ⟨v34, e34, hr⟩ := hq
              have hq := asI_inv hr
              clear hr
              obtain ⟨x34, rfl, hr⟩ := hq
              refine wo_step (v := (.i .i64 x34)) (s_ld rfl e34) ?_
              have hq := forceB_inv hr
              clear hr
              obtain ⟨c35, e35, hr⟩ := hq
              refine wo_step (v := (.b c35)) (s_pure (p_bin rfl rfl (b_lss.trans (cb e35)))) ?_
              refine wo_step (v := (.b c35)) (s_pure (p_mv rfl)) ?_
              have hq := bindO_inv hr
              clear hr
              obtain ⟨o_3, hr, hk⟩ := hq
              refine wo_join 6 (g48_J4 v1 x5 m0 o_3) ?_ ?_
              · clear hk
                have hq := cond_inv hr
                clear hr
                rcases hq with ⟨rfl, hr⟩ | ⟨rfl, hr⟩
                · refine wo_skip (v := (.b true)) rfl rfl ?_
                  refine wo_skip (v := (.b true)) rfl rfl ?_
                  refine wo_skip (v := (.b true)) rfl rfl ?_
                  refine wo_skip (v := (.b true)) rfl rfl ?_
                  refine wo_skip (v := (.b true)) rfl rfl ?_
                  refine wo_step (v := (.b true)) (s_pure (p_pickT rfl rfl)) ?_
                  refine wo_nil ?_
                  cases hr
                  exact ⟨_, _, rfl, rfl, gl rfl, gl g1, gl g5⟩
                · refine wo_take (v := v1) rfl (s_pure (p_mv g1)) ?_
                  refine wo_take (v := (.i .i64 x5)) rfl (s_pure (p_mv g5)) ?_
                  have hq := bindO_inv hr
                  clear hr
                  obtain ⟨v39, e39, hr⟩ := hq
                  refine wo_take (v := v39) rfl (s_pure (o_ixS rfl rfl e39)) ?_
                  have hq := bindO_inv hr
                  clear hr
                  obtain ⟨v40, e40, hr⟩ := hq
                  have hq := asI_inv hr
                  clear hr
                  obtain ⟨x40, rfl, hr⟩ := hq
                  refine wo_take (v := (.i .i64 x40)) rfl (s_ld rfl e40) ?_
                  have hq := forceB_inv hr
                  clear hr
                  obtain ⟨c41, e41, hr⟩ := hq
                  refine wo_take (v := (.b c41)) rfl (s_pure (p_bin rfl rfl (b_gtr.trans (cb e41)))) ?_
                  refine wo_step (v := (.b c41)) (s_pure (p_pickF rfl rfl)) ?_
                  refine wo_nil ?_
                  cases hr
                  exact ⟨_, _, rfl, rfl, gl rfl, gl g1, gl g5⟩
              · clear hr
                have hr := hk
                clear hk
                obtain ⟨c42, ho⟩ : ∃ z, z = o_3 := ⟨_, rfl⟩
                subst ho
                rintro mm_3 t_5 ⟨rfl, g42, g1, g5⟩
                refine wo_nil ?_
                refine nx_norm ?_
                have hq := cond_inv hr
                clear hr
                rcases hq with ⟨rfl, hr⟩ | ⟨rfl, hr⟩
                · refine w_condT g42 ?_
                  refine w_seq ?_
                  refine w_ops ?_
                  refine wo_step (v := (.b false)) (s_pure (p_mv rfl)) ?_
                  refine wo_nil ?_
                  refine nx_norm ?_
                  refine w_ret ?_
                  refine bk_ret ?_
                  refine nx_ret ?_
                  cases hr
                  exact ⟨_, _, rfl, ne_norm_ret, rfl, rfl, gl rfl⟩
                · refine w_condF g42 ?_
                  refine w_skip ?_
                  refine bk_norm ?_
                  refine nx_norm ?_
                  refine w_ops ?_
                  refine wo_step (v := (.i .i64 x5)) (s_pure (p_mv g5)) ?_
                  have hq := forceI_inv hr
                  clear hr
                  obtain ⟨x30, e30, hr⟩ := hq
                  refine wo_step (v := (.i .i64 x30)) (s_pure (p_bin rfl rfl (b_add.trans (ci e30)))) ?_
                  refine wo_step (v := (.i .i64 x30)) (s_pure (p_mv rfl)) ?_
                  refine wo_nil ?_
                  cases hr
                  exact ⟨_, _, rfl, rfl, rfl, gl rfl, gl g1⟩
            · refine w_condF rfl ?_
              refine w_exit ?_
              refine nx_exit ?_
              cases hr
              exact ⟨_, _, rfl, ne_norm_exit, rfl, rfl⟩
          · rcases o_4 with o_4 | o_4
            · rintro _ mm_4 t_6 ⟨rfl, rfl⟩
              refine bk_hit ?_
              refine nx_norm ?_
              refine w_seq ?_
              refine w_ops ?_
              refine wo_step (v := (.b true)) (s_pure (p_mv rfl)) ?_
              refine wo_nil ?_
              refine nx_norm ?_
              refine w_ret ?_
              exact qf ret_ok (rt rfl rn) hr
            · obtain ⟨c4, ho⟩ : ∃ z, z = o_4 := ⟨_, rfl⟩
              subst ho
              rintro _ mm_5 t_7 ⟨rfl, rfl, g4⟩
              refine bk_ret ?_
              refine nx_ret ?_
              exact qf ret_ok (rt g4 rn) hr

/- dibber/dibberref08.broken -/
abbrev g49_I0 (v0 : AVal) (m0 : Mm) (s : Int) (m1 : Mm) (t1 : Tr) : Prop :=
  match s with
  | x5 => m0 = m1 ∧ t1.get 5 = (.i .i64 x5) ∧ t1.get 0 = v0
abbrev g49_J0 (v0 : AVal) (m0 : Mm) (o : (Unit ⊕ (Int × Int × Bool))) (e : AExit) (m1 : Mm) (t1 : Tr) : Prop :=
  match o with
  | (.inl _) => e = (.exit 0) ∧ m0 = m1
  | (.inr (y2, y3, y4)) => e = .ret ∧ m0 = m1 ∧ t1.get 2 = (.i .i64 y2) ∧ t1.get 3 = (.i .i64 y3) ∧ t1.get 4 = (.b y4)
abbrev g49_I1 (v0 : AVal) (x5 : Int) (m0 : Mm) (s : Int) (m1 : Mm) (t1 : Tr) : Prop :=
  match s with
  | x6 => m0 = m1 ∧ t1.get 6 = (.i .i64 x6) ∧ t1.get 0 = v0 ∧ t1.get 5 = (.i .i64 x5)
abbrev g49_J1 (v0 : AVal) (x5 : Int) (m0 : Mm) (o : (Unit ⊕ (Int × Int × Bool))) (e : AExit) (m1 : Mm) (t1 : Tr) : Prop :=
  match o with
  | (.inl _) => e = (.exit 2) ∧ m0 = m1 ∧ t1.get 0 = v0 ∧ t1.get 5 = (.i .i64 x5)
  | (.inr (y2, y3, y4)) => e = .ret ∧ m0 = m1 ∧ t1.get 2 = (.i .i64 y2) ∧ t1.get 3 = (.i .i64 y3) ∧ t1.get 4 = (.b y4)
def g49_b1 (M : Means) (ro : List ABlk) (v0 : AVal) (x5 : Int) (m0 : Mm) (x6 : Int) : Option ((Int) ⊕ ((Unit ⊕ (Int × Int × Bool)))) :=
  bindO (evP .e (.len false (.c v0))) fun v17 =>
  asI .i64 v17 fun x17 =>
  forceB (ltI x6 x17) fun c18 =>
  cond c18 (
    bindO (evP .e (.ixS 1 (.c v0) (.c (.i .i64 x5)))) fun v23 =>
    bindO (ldA ro m0.h true 1 v23) fun v24 =>
    asI .i64 v24 fun x24 =>
    bindO (evP .e (.ixS 1 (.c v0) (.c (.i .i64 x6)))) fun v27 =>
    bindO (ldA ro m0.h true 1 v27) fun v28 =>
    asI .i64 v28 fun x28 =>
    forceI (wr .i64 (x24 + x28)) fun x29 =>
    forceI (bitV .or .i64 x5 x6) fun x33 =>
    bindO (evP .e (.ixS 1 (.c v0) (.c (.i .i64 x33)))) fun v34 =>
    bindO (ldA ro m0.h true 1 v34) fun v35 =>
    asI .i64 v35 fun x35 =>
    forceI (bitV .and .i64 x5 x6) fun x39 =>
    bindO (evP .e (.ixS 1 (.c v0) (.c (.i .i64 x39)))) fun v40 =>
    bindO (ldA ro m0.h true 1 v40) fun v41 =>
    asI .i64 v41 fun x41 =>
    forceI (wr .i64 (x35 + x41)) fun x42 =>
    forceB (ltI x29 x42) fun c43 =>
    cond c43 (
      some (.inr (.inr (x5, x6, true)))) (
      forceI (wr .i64 (x6 + 1)) fun x20 =>
      some (.inl x20))) (
    some (.inr (.inl ())))
def g49_b0 (M : Means) (ro : List ABlk) (v0 : AVal) (m0 : Mm) (x5 : Int) : Option ((Int) ⊕ ((Unit ⊕ (Int × Int × Bool)))) :=
  bindO (evP .e (.len false (.c v0))) fun v9 =>
  asI .i64 v9 fun x9 =>
  forceB (ltI x5 x9) fun c10 =>
  cond c10 (
    forceI (wr .i64 (x5 + 1)) fun x14 =>
    bindO (M.loop (S := Int) (R := (Unit ⊕ (Int × Int × Bool))) (fun s => g49_b1 M ro v0 x5 m0 s) x14) fun o => match o with
    | (.inl _) =>
      forceI (wr .i64 (x5 + 1)) fun x12 =>
      some (.inl x12)
    | (.inr (x2, x3, c4)) =>
      some (.inr (.inr (x2, x3, c4)))) (
    some (.inr (.inl ())))
def g49 (M : Means) (ro : List ABlk) (v0 : AVal) (m0 : Mm) : Option (AVal × Heap × Nat × Nat) :=
  bindO (M.loop (S := Int) (R := (Unit ⊕ (Int × Int × Bool))) (fun s => g49_b0 M ro v0 m0 s) 0) fun o_1 => match o_1 with
  | (.inl _) =>
    finM m0.h.length (tupA [(.i .i64 0), (.i .i64 0), (.b false)]) m0
  | (.inr (x2_1, x3_1, c4_1)) =>
    finM m0.h.length (tupA [(.i .i64 x2_1), (.i .i64 x3_1), (.b c4_1)]) m0

theorem g49_ok {ro : List ABlk} {O : Caller} {M : Means} (hM : M.Ok ⟨F, O⟩ ro) {v0 h r} (ho : O 49 [v0] h = none) (hr : g49 M ro v0 ⟨h, h.length, h.length⟩ = some r) : callX ⟨F, O⟩ ro 49 [v0] h = some r := by
  refine callX_of (F := ⟨F, O⟩) (fn := fn49) (g := g49 M ro v0) ho rfl rfl hr ?_
  clear ho
  clear hr
  intro m0 t0 ht hr
  have g0 : t0.get 0 = v0 := ht 0
  clear ht
  unfold g49 at hr
  refine w_seq ?_
  refine w_ops ?_
  refine wo_step (v := (.i .i64 0)) (s_pure (p_mv rfl)) ?_
  refine wo_step (v := (.i .i64 0)) (s_pure (p_mv rfl)) ?_
  refine wo_step (v := (.b false)) (s_pure (p_mv rfl)) ?_
  refine wo_nil ?_
  refine nx_norm ?_
  refine w_seq ?_
  refine w_seq ?_
  refine w_ops ?_
  refine wo_step (v := (.i .i64 0)) (s_pure (p_mv rfl)) ?_
  refine wo_nil ?_
  refine nx_norm ?_
  refine w_block ?_
  have hq := bindO_inv hr
  clear hr
  obtain ⟨o_1, hl_1, hr⟩ := hq
  obtain ⟨n_1, hl_1⟩ := hM.loop _ _ _ hl_1
  refine jp_mono (w_loop _ (g49_I0 v0 m0) (g49_J0 v0 m0) ?_ n_1 _ _ _ _ hl_1 ⟨rfl, gl rfl, gl g0⟩) ?_
  · clear hr hl_1
    intro s mm_5 t_1 o hi hr
    obtain ⟨x5, hs⟩ : ∃ z, z = s := ⟨_, rfl⟩
    subst hs
    obtain ⟨rfl, g5, g0⟩ := hi
    unfold g49_b0 at hr
    refine w_seq ?_
    refine w_seq ?_
    refine w_ops ?_
    refine wo_step (v := (.i .i64 x5)) (s_pure (p_mv g5)) ?_
    refine wo_step (v := v0) (s_pure (p_mv g0)) ?_
    have hq := bindO_inv hr
    clear hr
    obtain ⟨v9, e9, hr⟩ := hq
    have hq := asI_inv hr
    clear hr
    obtain ⟨x9, rfl, hr⟩ := hq
    refine wo_step (v := (.i .i64 x9)) (s_pure (o_len rfl e9)) ?_
    have hq := forceB_inv hr
    clear hr
    obtain ⟨c10, e10, hr⟩ := hq
    refine wo_step (v := (.b c10)) (s_pure (p_bin rfl rfl (b_lss.trans (cb e10)))) ?_
    refine wo_nil ?_
    refine nx_norm ?_
    have hq := cond_inv hr
    clear hr
    rcases hq with ⟨rfl, hr⟩ | ⟨rfl, hr⟩
    · refine w_condT rfl ?_
      refine w_skip ?_
      refine nx_norm ?_
      refine w_seq ?_
      refine w_block ?_
      refine w_seq ?_
      refine w_ops ?_
      refine wo_step (v := (.i .i64 x5)) (s_pure (p_mv g5)) ?_
      have hq := forceI_inv hr
      clear hr
      obtain ⟨x14, e14, hr⟩ := hq
      refine wo_step (v := (.i .i64 x14)) (s_pure (p_bin rfl rfl (b_add.trans (ci e14)))) ?_
      refine wo_step (v := (.i .i64 x14)) (s_pure (p_mv rfl)) ?_
      refine wo_nil ?_
      refine nx_norm ?_
      refine w_block ?_
      have hq := bindO_inv hr
      clear hr
      obtain ⟨o, hl, hr⟩ := hq
      obtain ⟨n, hl⟩ := hM.loop _ _ _ hl
      refine jp_mono (w_loop _ (g49_I1 v0 x5 m0) (g49_J1 v0 x5 m0) ?_ n _ _ _ _ hl ⟨rfl, gl rfl, gl g0, gl g5⟩) ?_
      · clear hr hl
        intro s mm_2 t_2 o hi hr
        obtain ⟨x6, hs⟩ : ∃ z, z = s := ⟨_, rfl⟩
        subst hs
        obtain ⟨rfl, g6, g0, g5⟩ := hi
        unfold g49_b1 at hr
        refine w_seq ?_
        refine w_seq ?_
        refine w_ops ?_
        refine wo_step (v := (.i .i64 x6)) (s_pure (p_mv g6)) ?_
        refine wo_step (v := v0) (s_pure (p_mv g0)) ?_
        have hq := bindO_inv hr
        clear hr
        obtain ⟨v17, e17, hr⟩ := hq
        have hq := asI_inv hr
        clear hr
        obtain ⟨x17, rfl, hr⟩ := hq
        refine wo_step (v := (.i .i64 x17)) (s_pure (o_len rfl e17)) ?_
        have hq := forceB_inv hr
        clear hr
        obtain ⟨c18, e18, hr⟩ := hq
        refine wo_step (v := (.b c18)) (s_pure (p_bin rfl rfl (b_lss.trans (cb e18)))) ?_
        refine wo_nil ?_
        refine nx_norm ?_
        have hq := cond_inv hr
        clear hr
        rcases hq with ⟨rfl, hr⟩ | ⟨rfl, hr⟩
        · refine w_condT rfl ?_
          refine w_skip ?_
          refine nx_norm ?_
          refine w_seq ?_
          refine w_block ?_
          refine w_seq ?_
          refine w_any ?_
          refine wa_step (v := v0) (a_pure (p_mv g0)) ?_
          refine wa_step (v := (.i .i64 x5)) (a_pure (p_mv g5)) ?_
          have hq := bindO_inv hr
          clear hr
          obtain ⟨v23, e23, hr⟩ := hq
          refine wa_step (v := v23) (a_pure (o_ixS rfl rfl e23)) ?_
          have hq := bindO_inv hr
          clear hr
          obtain ⟨v24, e24, hr⟩ := hq
          have hq := asI_inv hr
          clear hr
          obtain ⟨x24, rfl, hr⟩ := hq
          refine wa_step (v := (.i .i64 x24)) (a_ld rfl e24) ?_
          refine wa_step (v := v0) (a_pure (p_mv g0)) ?_
          refine wa_step (v := (.i .i64 x6)) (a_pure (p_mv g6)) ?_
          have hq := bindO_inv hr
          clear hr
          obtain ⟨v27, e27, hr⟩ := hq
          refine wa_step (v := v27) (a_pure (o_ixS rfl rfl e27)) ?_
          have hq := bindO_inv hr
          clear hr
          obtain ⟨v28, e28, hr⟩ := hq
          have hq := asI_inv hr
          clear hr
          obtain ⟨x28, rfl, hr⟩ := hq
          refine wa_step (v := (.i .i64 x28)) (a_ld rfl e28) ?_
          have hq := forceI_inv hr
          clear hr
          obtain ⟨x29, e29, hr⟩ := hq
          refine wa_step (v := (.i .i64 x29)) (a_pure (p_bin rfl rfl (b_add.trans (ci e29)))) ?_
          refine wa_step (v := v0) (a_pure (p_mv g0)) ?_
          refine wa_step (v := (.i .i64 x5)) (a_pure (p_mv g5)) ?_
          refine wa_step (v := (.i .i64 x6)) (a_pure (p_mv g6)) ?_
          have hq := forceI_inv hr
          clear hr
          obtain ⟨x33, e33, hr⟩ := hq
          refine wa_step (v := (.i .i64 x33)) (a_pure (p_bin rfl rfl (b_or.trans (ci e33)))) ?_
          have hq := bindO_inv hr
          clear hr
          obtain ⟨v34, e34, hr⟩ := hq
          refine wa_step (v := v34) (a_pure (o_ixS rfl rfl e34)) ?_
          have hq := bindO_inv hr
          clear hr
          obtain ⟨v35, e35, hr⟩ := hq
          have hq := asI_inv hr
          clear hr
          obtain ⟨x35, rfl, hr⟩ := hq
          refine wa_step (v := (.i .i64 x35)) (a_ld rfl e35) ?_
          refine wa_step (v := v0) (a_pure (p_mv g0)) ?_
          refine wa_step (v := (.i .i64 x5)) (a_pure (p_mv g5)) ?_
          refine wa_step (v := (.i .i64 x6)) (a_pure (p_mv g6)) ?_
          have hq := forceI_inv hr
          clear hr
          obtain ⟨x39, e39, hr⟩ := hq
          refine wa_step (v := (.i .i64 x39)) (a_pure (p_bin rfl rfl (b_and.trans (ci e39)))) ?_
          have hq := bindO_inv hr
          clear hr
          obtain ⟨v40, e40, hr⟩ := hq
          refine wa_step (v := v40) (a_pure (o_ixS rfl rfl e40)) ?_
          have hq := bindO_inv hr
          clear hr
          obtain ⟨v41, e41, hr⟩ := hq
          have hq := asI_inv hr
          clear hr
          obtain ⟨x41, rfl, hr⟩ := hq
          refine wa_step (v := (.i .i64 x41)) (a_ld rfl e41) ?_
          have hq := forceI_inv hr
          clear hr
          obtain ⟨x42, e42, hr⟩ := hq
          refine wa_step (v := (.i .i64 x42)) (a_pure (p_bin rfl rfl (b_add.trans (ci e42)))) ?_
          have hq := forceB_inv hr
          clear hr
          obtain ⟨c43, e43, hr⟩ := hq
          refine wa_step (v := (.b c43)) (a_pure (p_bin rfl rfl (b_lss.trans (cb e43)))) ?_
          refine wa_nil ?_
          refine ⟨m0, rfl, ?_⟩
          refine nx_norm ?_
          have hq := cond_inv hr
          clear hr
          rcases hq with ⟨rfl, hr⟩ | ⟨rfl, hr⟩
          · refine w_condT rfl ?_
            refine w_seq ?_
            refine w_ops ?_
            refine wo_step (v := (.i .i64 x5)) (s_pure (p_mv g5)) ?_
            refine wo_step (v := (.i .i64 x6)) (s_pure (p_mv g6)) ?_
            refine wo_step (v := (.i .i64 x5)) (s_pure (p_mv rfl)) ?_
            refine wo_step (v := (.i .i64 x6)) (s_pure (p_mv rfl)) ?_
            refine wo_step (v := (.b true)) (s_pure (p_mv rfl)) ?_
            refine wo_nil ?_
            refine nx_norm ?_
            refine w_ret ?_
            refine bk_ret ?_
            refine nx_ret ?_
            cases hr
            exact ⟨_, _, rfl, ne_norm_ret, rfl, rfl, gl rfl, gl rfl, gl rfl⟩
          · refine w_condF rfl ?_
            refine w_skip ?_
            refine bk_norm ?_
            refine nx_norm ?_
            refine w_ops ?_
            refine wo_step (v := (.i .i64 x6)) (s_pure (p_mv g6)) ?_
            have hq := forceI_inv hr
            clear hr
            obtain ⟨x20, e20, hr⟩ := hq
            refine wo_step (v := (.i .i64 x20)) (s_pure (p_bin rfl rfl (b_add.trans (ci e20)))) ?_
            refine wo_step (v := (.i .i64 x20)) (s_pure (p_mv rfl)) ?_
            refine wo_nil ?_
            cases hr
            exact ⟨_, _, rfl, rfl, rfl, gl rfl, gl g0, gl g5⟩
        · refine w_condF rfl ?_
          refine w_exit ?_
          refine nx_exit ?_
          cases hr
          exact ⟨_, _, rfl, ne_norm_exit, rfl, rfl, gl g0, gl g5⟩
      · rcases o with o | o
        · rintro _ mm t_3 ⟨rfl, rfl, g0, g5⟩
          refine bk_hit ?_
          refine bk_norm ?_
          refine nx_norm ?_
          refine w_ops ?_
          refine wo_step (v := (.i .i64 x5)) (s_pure (p_mv g5)) ?_
          have hq := forceI_inv hr
          clear hr
          obtain ⟨x12, e12, hr⟩ := hq
          refine wo_step (v := (.i .i64 x12)) (s_pure (p_bin rfl rfl (b_add.trans (ci e12)))) ?_
          refine wo_step (v := (.i .i64 x12)) (s_pure (p_mv rfl)) ?_
          refine wo_nil ?_
          cases hr
          exact ⟨_, _, rfl, rfl, rfl, gl rfl, gl g0⟩
        · obtain ⟨x2, x3, c4⟩ := o
          rintro _ mm_1 t_4 ⟨rfl, rfl, g2, g3, g4⟩
          refine bk_ret ?_
          refine bk_ret ?_
          refine nx_ret ?_
          cases hr
          exact ⟨_, _, rfl, ne_norm_ret, rfl, rfl, gl g2, gl g3, gl g4⟩
    · refine w_condF rfl ?_
      refine w_exit ?_
      refine nx_exit ?_
      cases hr
      exact ⟨_, _, rfl, ne_norm_exit, rfl, rfl⟩
  · rcases o_1 with o_1 | o_1
    · rintro _ mm_3 t_5 ⟨rfl, rfl⟩
      refine bk_hit ?_
      refine nx_norm ?_
      refine w_seq ?_
      refine w_ops ?_
      refine wo_step (v := (.i .i64 0)) (s_pure (p_mv rfl)) ?_
      refine wo_step (v := (.i .i64 0)) (s_pure (p_mv rfl)) ?_
      refine wo_step (v := (.b false)) (s_pure (p_mv rfl)) ?_
      refine wo_nil ?_
      refine nx_norm ?_
      refine w_ret ?_
      exact qf ret_ok (rt rfl (rt rfl (rt rfl rn))) hr
    · obtain ⟨x2_1, x3_1, c4_1⟩ := o_1
      rintro _ mm_4 t_6 ⟨rfl, rfl, g2, g3, g4⟩
      refine bk_ret ?_
      refine nx_ret ?_
      exact qf ret_ok (rt g2 (rt g3 (rt g4 rn))) hr

/- dibber/share.within -/
abbrev g50_J0 (m0 : Mm) (o : Bool) (m1 : Mm) (t1 : Tr) : Prop :=
  match o with
  | c13 => m0 = m1 ∧ t1.get 13 = (.b c13)
def g50 (M : Means) (ro : List ABlk) (x0 : Int) (x1 : Int) (m0 : Mm) : Option (AVal × Heap × Nat × Nat) :=
  forceI (wr .i64 (0 - x1)) fun x6 =>
  forceB (!ltI x0 x6) fun c8 =>
  bindO (cond c8 (
    forceB (!ltI x1 x0) fun c12 =>
    some c12) (
    some false)) fun c13 =>
  finM m0.h.length (tupA [(.b c13)]) m0

theorem g50_ok {ro : List ABlk} {O : Caller} {M : Means} (hM : M.Ok ⟨F, O⟩ ro) {x0 x1 h r} (ho : O 50 [(.i .i64 x0), (.i .i64 x1)] h = none) (hr : g50 M ro x0 x1 ⟨h, h.length, h.length⟩ = some r) : callX ⟨F, O⟩ ro 50 [(.i .i64 x0), (.i .i64 x1)] h = some r := by
  refine callX_of (F := ⟨F, O⟩) (fn := fn50) (g := g50 M ro x0 x1) ho rfl rfl hr ?_
  clear ho
  clear hr
  intro m0 t0 ht hr
  have g0 : t0.get 0 = (.i .i64 x0) := ht 0
  have g1 : t0.get 1 = (.i .i64 x1) := ht 1
  clear ht
  unfold g50 at hr
  refine w_seq ?_
  refine w_ops ?_
  refine wo_step (v := (.b false)) (s_pure (p_mv rfl)) ?_
  refine wo_nil ?_
  refine nx_norm ?_
  refine w_seq ?_
  refine w_ops ?_
  refine wo_step (v := (.i .i64 x1)) (s_pure (p_mv g1)) ?_
  have hq := forceI_inv hr
  clear hr
  obtain ⟨x6, e6, hr⟩ := hq
  refine wo_step (v := (.i .i64 x6)) (s_pure ((p_neg rfl).trans (ci e6))) ?_
  refine wo_step (v := (.i .i64 x0)) (s_pure (p_mv g0)) ?_
  have hq := forceB_inv hr
  clear hr
  obtain ⟨c8, e8, hr⟩ := hq
  refine wo_step (v := (.b c8)) (s_pure (p_bin rfl rfl (b_leq.trans (cb e8)))) ?_
  refine wo_step (v := (.b c8)) (s_pure (p_mv rfl)) ?_
  have hq := bindO_inv hr
  clear hr
  obtain ⟨o, hr, hk⟩ := hq
  refine wo_join 4 (g50_J0 m0 o) ?_ ?_
  · clear hk
    have hq := cond_inv hr
    clear hr
    rcases hq with ⟨rfl, hr⟩ | ⟨rfl, hr⟩
    · refine wo_take (v := (.i .i64 x0)) rfl (s_pure (p_mv g0)) ?_
      refine wo_take (v := (.i .i64 x1)) rfl (s_pure (p_mv g1)) ?_
      have hq := forceB_inv hr
      clear hr
      obtain ⟨c12, e12, hr⟩ := hq
      refine wo_take (v := (.b c12)) rfl (s_pure (p_bin rfl rfl (b_leq.trans (cb e12)))) ?_
      refine wo_step (v := (.b c12)) (s_pure (p_pickT rfl rfl)) ?_
      refine wo_nil ?_
      cases hr
      exact ⟨_, _, rfl, rfl, gl rfl⟩
    · refine wo_skip (v := (.b false)) rfl rfl ?_
      refine wo_skip (v := (.b false)) rfl rfl ?_
      refine wo_skip (v := (.b false)) rfl rfl ?_
      refine wo_step (v := (.b false)) (s_pure (p_pickF rfl rfl)) ?_
      refine wo_nil ?_
      cases hr
      exact ⟨_, _, rfl, rfl, gl rfl⟩
  · clear hr
    have hr := hk
    clear hk
    obtain ⟨c13, ho⟩ : ∃ z, z = o := ⟨_, rfl⟩
    subst ho
    rintro mm t_1 ⟨rfl, g13⟩
    refine wo_step (v := (.b c13)) (s_pure (p_mv g13)) ?_
    refine wo_nil ?_
    refine nx_norm ?_
    refine w_ret ?_
    exact qf ret_ok (rt rfl rn) hr

/- dibber/share.has -/

def g60 (M : Means) (ro : List ABlk) (x0 : Int) (x1 : Int) (m0 : Mm) : Option (AVal × Heap × Nat × Nat) :=
  chk (!ltI x1 (.ofNat 0)) <|
  forceI (shrV .i64 x0 x1) fun x7 =>
  forceI (bitV .and .i64 x7 1) fun x8 =>
  forceB (eqI x8 1) fun c9 =>
  finM m0.h.length (tupA [(.b c9)]) m0

theorem g60_ok {ro : List ABlk} {O : Caller} {M : Means} (hM : M.Ok ⟨F, O⟩ ro) {x0 x1 h r} (ho : O 60 [(.i .i64 x0), (.i .i64 x1)] h = none) (hr : g60 M ro x0 x1 ⟨h, h.length, h.length⟩ = some r) : callX ⟨F, O⟩ ro 60 [(.i .i64 x0), (.i .i64 x1)] h = some r := by
  refine callX_of (F := ⟨F, O⟩) (fn := fn60) (g := g60 M ro x0 x1) ho rfl rfl hr ?_
  clear ho
  clear hr
  intro m0 t0 ht hr
  have g0 : t0.get 0 = (.i .i64 x0) := ht 0
  have g1 : t0.get 1 = (.i .i64 x1) := ht 1
  clear ht
  unfold g60 at hr
  refine w_seq ?_
  refine w_ops ?_
  refine wo_step (v := (.b false)) (s_pure (p_mv rfl)) ?_
  refine wo_nil ?_
  refine nx_norm ?_
  refine w_seq ?_
  refine w_ops ?_
  refine wo_step (v := (.i .i64 x0)) (s_pure (p_mv g0)) ?_
  refine wo_step (v := (.i .i64 x1)) (s_pure (p_mv g1)) ?_
  have hq := chk_inv hr
  clear hr
  obtain ⟨hc7, hr⟩ := hq
  have hq := forceI_inv hr
  clear hr
  obtain ⟨x7, e7, hr⟩ := hq
  refine wo_step (v := (.i .i64 x7)) (s_pure (p_bin rfl rfl ((b_shr hc7).trans (ci e7)))) ?_
  have hq := forceI_inv hr
  clear hr
  obtain ⟨x8, e8, hr⟩ := hq
  refine wo_step (v := (.i .i64 x8)) (s_pure (p_bin rfl rfl (b_and.trans (ci e8)))) ?_
  have hq := forceB_inv hr
  clear hr
  obtain ⟨c9, e9, hr⟩ := hq
  refine wo_step (v := (.b c9)) (s_pure (p_bin rfl rfl (b_eql.trans (cb e9)))) ?_
  refine wo_step (v := (.b c9)) (s_pure (p_mv rfl)) ?_
  refine wo_nil ?_
  refine nx_norm ?_
  refine w_ret ?_
  exact qf ret_ok (rt rfl rn) hr

/- dibber/share.isCount -/
abbrev g84_J0 (m0 : Mm) (o : Bool) (m1 : Mm) (t1 : Tr) : Prop :=
  match o with
  | c8 => m0 = m1 ∧ t1.get 8 = (.b c8)
def g84 (M : Means) (ro : List ABlk) (x0 : Int) (m0 : Mm) : Option (AVal × Heap × Nat × Nat) :=
  forceB (!ltI x0 1) fun c4 =>
  bindO (cond c4 (
    forceB (!ltI 6 x0) fun c7 =>
    some c7) (
    some false)) fun c8 =>
  finM m0.h.length (tupA [(.b c8)]) m0

theorem g84_ok {ro : List ABlk} {O : Caller} {M : Means} (hM : M.Ok ⟨F, O⟩ ro) {x0 h r} (ho : O 84 [(.i .i64 x0)] h = none) (hr : g84 M ro x0 ⟨h, h.length, h.length⟩ = some r) : callX ⟨F, O⟩ ro 84 [(.i .i64 x0)] h = some r := by
  refine callX_of (F := ⟨F, O⟩) (fn := fn84) (g := g84 M ro x0) ho rfl rfl hr ?_
  clear ho
  clear hr
  intro m0 t0 ht hr
  have g0 : t0.get 0 = (.i .i64 x0) := ht 0
  clear ht
  unfold g84 at hr
  refine w_seq ?_
  refine w_ops ?_
  refine wo_step (v := (.b false)) (s_pure (p_mv rfl)) ?_
  refine wo_nil ?_
  refine nx_norm ?_
  refine w_seq ?_
  refine w_ops ?_
  refine wo_step (v := (.i .i64 x0)) (s_pure (p_mv g0)) ?_
  have hq := forceB_inv hr
  clear hr
  obtain ⟨c4, e4, hr⟩ := hq
  refine wo_step (v := (.b c4)) (s_pure (p_bin rfl rfl (b_leq.trans (cb e4)))) ?_
  refine wo_step (v := (.b c4)) (s_pure (p_mv rfl)) ?_
  have hq := bindO_inv hr
  clear hr
  obtain ⟨o, hr, hk⟩ := hq
  refine wo_join 3 (g84_J0 m0 o) ?_ ?_
  · clear hk
    have hq := cond_inv hr
    clear hr
    rcases hq with ⟨rfl, hr⟩ | ⟨rfl, hr⟩
    · refine wo_take (v := (.i .i64 x0)) rfl (s_pure (p_mv g0)) ?_
      have hq := forceB_inv hr
      clear hr
      obtain ⟨c7, e7, hr⟩ := hq
      refine wo_take (v := (.b c7)) rfl (s_pure (p_bin rfl rfl (b_leq.trans (cb e7)))) ?_
      refine wo_step (v := (.b c7)) (s_pure (p_pickT rfl rfl)) ?_
      refine wo_nil ?_
      cases hr
      exact ⟨_, _, rfl, rfl, gl rfl⟩
    · refine wo_skip (v := (.b false)) rfl rfl ?_
      refine wo_skip (v := (.b false)) rfl rfl ?_
      refine wo_step (v := (.b false)) (s_pure (p_pickF rfl rfl)) ?_
      refine wo_nil ?_
      cases hr
      exact ⟨_, _, rfl, rfl, gl rfl⟩
  · clear hr
    have hr := hk
    clear hk
    obtain ⟨c8, ho⟩ : ∃ z, z = o := ⟨_, rfl⟩
    subst ho
    rintro mm t_1 ⟨rfl, g8⟩
    refine wo_step (v := (.b c8)) (s_pure (p_mv g8)) ?_
    refine wo_nil ?_
    refine nx_norm ?_
    refine w_ret ?_
    exact qf ret_ok (rt rfl rn) hr

/- dibber/share.isHedge -/
abbrev g85_J0 (x0 : Int) (v1 : AVal) (o : Bool × Mm) (m1 : Mm) (t1 : Tr) : Prop :=
  match o with
  | (c15, m_1) => m_1 = m1 ∧ t1.get 15 = (.b c15) ∧ t1.get 0 = (.i .i64 x0) ∧ t1.get 1 = v1
abbrev g85_J1 (v1 : AVal) (o : Bool × Mm) (m1 : Mm) (t1 : Tr) : Prop :=
  match o with
  | (c23, m_3) => m_3 = m1 ∧ t1.get 23 = (.b c23) ∧ t1.get 1 = v1
abbrev g85_J2 (v1 : AVal) (m_3 : Mm) (o : Bool) (m1 : Mm) (t1 : Tr) : Prop :=
  match o with
  | c36 => m_3 = m1 ∧ t1.get 36 = (.b c36) ∧ t1.get 1 = v1
abbrev g85_J3 (m_3 : Mm) (o : Bool) (m1 : Mm) (t1 : Tr) : Prop :=
  match o with
  | c42 => m_3 = m1 ∧ t1.get 42 = (.b c42)
def g85 (M : Means) (ro : List ABlk) (x0 : Int) (v1 : AVal) (m0 : Mm) : Option (AVal × Heap × Nat × Nat) :=
  bindO (evP .e (.len false (.c v1))) fun v6 =>
  asI .i64 v6 fun x6 =>
  forceB (!eqI x6 3) fun c7 =>
  bindO (cond c7 (
    some (true, m0)) (
    bindO (evP .e (.ixS 1 (.c v1) (.c (.i .i64 0)))) fun v11 =>
    bindO (ldM ro m0 true 1 v11) fun v12 =>
    asI .i64 v12 fun x12 =>
    bindP (callM M.call m0 91 [(.i .i64 x0), (.i .i64 x12)]) fun v13 m_2 =>
    asB v13 fun c13 =>
    forceB (!c13) fun c14 =>
    some (c14, m_2))) fun ⟨c15, m_1⟩ =>
  bindO (cond c15 (
    some (true, m_1)) (
    bindO (evP .e (.ixS 1 (.c v1) (.c (.i .i64 1)))) fun v19 =>
    bindO (ldM ro m_1 true 1 v19) fun v20 =>
    asI .i64 v20 fun x20 =>
    bindP (callM M.call m_1 91 [(.i .i64 x0), (.i .i64 x20)]) fun v21 m_4 =>
    asB v21 fun c21 =>
    forceB (!c21) fun c22 =>
    some (c22, m_4))) fun ⟨c23, m_3⟩ =>
  cond c23 (
    finM m0.h.length (tupA [(.b false)]) m_3) (
    bindO (evP .e (.ixS 1 (.c v1) (.c (.i .i64 0)))) fun v25 =>
    bindO (ldA ro m_3.h true 1 v25) fun v26 =>
    asI .i64 v26 fun x26 =>
    bindO (evP .e (.ixS 1 (.c v1) (.c (.i .i64 1)))) fun v28 =>
    bindO (ldA ro m_3.h true 1 v28) fun v29 =>
    asI .i64 v29 fun x29 =>
    forceB (!eqI x26 x29) fun c30 =>
    bindO (cond c30 (
      bindO (evP .e (.ixS 1 (.c v1) (.c (.i .i64 2)))) fun v33 =>
      bindO (ldA ro m_3.h true 1 v33) fun v34 =>
      asI .i64 v34 fun x34 =>
      forceB (!ltI x34 0) fun c35 =>
      some c35) (
      some false)) fun c36 =>
    bindO (cond c36 (
      bindO (evP .e (.ixS 1 (.c v1) (.c (.i .i64 2)))) fun v39 =>
      bindO (ldA ro m_3.h true 1 v39) fun v40 =>
      asI .i64 v40 fun x40 =>
      forceB (!ltI 1000 x40) fun c41 =>
      some c41) (
      some false)) fun c42 =>
    finM m0.h.length (tupA [(.b c42)]) m_3)

theorem g85_ok {ro : List ABlk} {O : Caller} {M : Means} (hM : M.Ok ⟨F, O⟩ ro) {x0 v1 h r} (ho : O 85 [(.i .i64 x0), v1] h = none) (hr : g85 M ro x0 v1 ⟨h, h.length, h.length⟩ = some r) : callX ⟨F, O⟩ ro 85 [(.i .i64 x0), v1] h = some r := by
  refine callX_of (F := ⟨F, O⟩) (fn := fn85) (g := g85 M ro x0 v1) ho rfl rfl hr ?_
  clear ho
  clear hr
  intro m0 t0 ht hr
  have g0 : t0.get 0 = (.i .i64 x0) := ht 0
  have g1 : t0.get 1 = v1 := ht 1
  clear ht
  unfold g85 at hr
  refine w_seq ?_
  refine w_ops ?_
  refine wo_step (v := (.b false)) (s_pure (p_mv rfl)) ?_
  refine wo_nil ?_
  refine nx_norm ?_
  refine w_seq ?_
  refine w_seq ?_
  refine w_ops ?_
  refine wo_step (v := v1) (s_pure (p_mv g1)) ?_
  have hq := bindO_inv hr
  clear hr
  obtain ⟨v6, e6, hr⟩ := hq
  have hq := asI_inv hr
  clear hr
  obtain ⟨x6, rfl, hr⟩ := hq
  refine wo_step (v := (.i .i64 x6)) (s_pure (o_len rfl e6)) ?_
  have hq := forceB_inv hr
  clear hr
  obtain ⟨c7, e7, hr⟩ := hq
  refine wo_step (v := (.b c7)) (s_pure (p_bin rfl rfl (b_neq.trans (cb e7)))) ?_
  refine wo_step (v := (.b c7)) (s_pure (p_mv rfl)) ?_
  have hq := bindO_inv hr
  clear hr
  obtain ⟨o, hr, hk⟩ := hq
  refine wo_join 7 (g85_J0 x0 v1 o) ?_ ?_
  · clear hk
    have hq := cond_inv hr
    clear hr
    rcases hq with ⟨rfl, hr⟩ | ⟨rfl, hr⟩
    · refine wo_skip (v := (.b true)) rfl rfl ?_
      refine wo_skip (v := (.b true)) rfl rfl ?_
      refine wo_skip (v := (.b true)) rfl rfl ?_
      refine wo_skip (v := (.b true)) rfl rfl ?_
      refine wo_skip (v := (.b true)) rfl rfl ?_
      refine wo_skip (v := (.b true)) rfl rfl ?_
      refine wo_step (v := (.b true)) (s_pure (p_pickT rfl rfl)) ?_
      refine wo_nil ?_
      cases hr
      exact ⟨_, _, rfl, rfl, gl rfl, gl g0, gl g1⟩
    · refine wo_take (v := (.i .i64 x0)) rfl (s_pure (p_mv g0)) ?_
      refine wo_take (v := v1) rfl (s_pure (p_mv g1)) ?_
      have hq := bindO_inv hr
      clear hr
      obtain ⟨v11, e11, hr⟩ := hq
      refine wo_take (v := v11) rfl (s_pure (o_ixS rfl rfl e11)) ?_
      have hq := bindO_inv hr
      clear hr
      obtain ⟨v12, e12, hr⟩ := hq
      have hq := asI_inv hr
      clear hr
      obtain ⟨x12, rfl, hr⟩ := hq
      refine wo_take (v := (.i .i64 x12)) rfl (s_ld rfl e12) ?_
      have hq := bindP_inv hr
      clear hr
      obtain ⟨v13, m_2, e13, hr⟩ := hq
      have hq := asB_inv hr
      clear hr
      obtain ⟨c13, rfl, hr⟩ := hq
      refine wo_take (v := (.b c13)) rfl (s_call (mc rfl (mc rfl mn)) (callM_le hM.call e13)) ?_
      have hq := forceB_inv hr
      clear hr
      obtain ⟨c14, e14, hr⟩ := hq
      refine wo_take (v := (.b c14)) rfl (s_pure ((p_not rfl).trans (cb e14))) ?_
      refine wo_step (v := (.b c14)) (s_pure (p_pickF rfl rfl)) ?_
      refine wo_nil ?_
      cases hr
      exact ⟨_, _, rfl, rfl, gl rfl, gl g0, gl g1⟩
  · clear hr
    have hr := hk
    clear hk
    obtain ⟨c15, m_1⟩ := o
    rintro mm t_1 ⟨rfl, g15, g0, g1⟩
    refine wo_step (v := (.b c15)) (s_pure (p_mv g15)) ?_
    have hq := bindO_inv hr
    clear hr
    obtain ⟨o_1, hr, hk⟩ := hq
    refine wo_join 7 (g85_J1 v1 o_1) ?_ ?_
    · clear hk
      have hq := cond_inv hr
      clear hr
      rcases hq with ⟨rfl, hr⟩ | ⟨rfl, hr⟩
      · refine wo_skip (v := (.b true)) rfl rfl ?_
        refine wo_skip (v := (.b true)) rfl rfl ?_
        refine wo_skip (v := (.b true)) rfl rfl ?_
        refine wo_skip (v := (.b true)) rfl rfl ?_
        refine wo_skip (v := (.b true)) rfl rfl ?_
        refine wo_skip (v := (.b true)) rfl rfl ?_
        refine wo_step (v := (.b true)) (s_pure (p_pickT rfl rfl)) ?_
        refine wo_nil ?_
        cases hr
        exact ⟨_, _, rfl, rfl, gl rfl, gl g1⟩
      · refine wo_take (v := (.i .i64 x0)) rfl (s_pure (p_mv g0)) ?_
        refine wo_take (v := v1) rfl (s_pure (p_mv g1)) ?_
        have hq := bindO_inv hr
        clear hr
        obtain ⟨v19, e19, hr⟩ := hq
        refine wo_take (v := v19) rfl (s_pure (o_ixS rfl rfl e19)) ?_
        have hq := bindO_inv hr
        clear hr
        obtain ⟨v20, e20, hr⟩ := hq
        have hq := asI_inv hr
        clear hr
        obtain ⟨x20, rfl, hr⟩ := hq
        refine wo_take (v := (.i .i64 x20)) rfl (s_ld rfl e20) ?_
        have hq := bindP_inv hr
        clear hr
        obtain ⟨v21, m_4, e21, hr⟩ := hq
        have hq := asB_inv hr
        clear hr
        obtain ⟨c21, rfl, hr⟩ := hq
        refine wo_take (v := (.b c21)) rfl (s_call (mc rfl (mc rfl mn)) (callM_le hM.call e21)) ?_
        have hq := forceB_inv hr
        clear hr
        obtain ⟨c22, e22, hr⟩ := hq
        refine wo_take (v := (.b c22)) rfl (s_pure ((p_not rfl).trans (cb e22))) ?_
        refine wo_step (v := (.b c22)) (s_pure (p_pickF rfl rfl)) ?_
        refine wo_nil ?_
        cases hr
        exact ⟨_, _, rfl, rfl, gl rfl, gl g1⟩
    · clear hr
      have hr := hk
      clear hk
      obtain ⟨c23, m_3⟩ := o_1
      rintro mm_1 t_2 ⟨rfl, g23, g1⟩
      refine wo_nil ?_
      refine nx_norm ?_
      have hq := cond_inv hr
      clear hr
      rcases hq with ⟨rfl, hr⟩ | ⟨rfl, hr⟩
      · refine w_condT g23 ?_
        refine w_seq ?_
        refine w_ops ?_
        refine wo_step (v := (.b false)) (s_pure (p_mv rfl)) ?_
        refine wo_nil ?_
        refine nx_norm ?_
        refine w_ret ?_
        refine nx_ret ?_
        exact qf ret_ok (rt rfl rn) hr
      · refine w_condF g23 ?_
        refine w_skip ?_
        refine nx_norm ?_
        refine w_seq ?_
        refine w_any ?_
        refine wa_step (v := v1) (a_pure (p_mv g1)) ?_
        have hq := bindO_inv hr
        clear hr
        obtain ⟨v25, e25, hr⟩ := hq
        refine wa_step (v := v25) (a_pure (o_ixS rfl rfl e25)) ?_
        have hq := bindO_inv hr
        clear hr
        obtain ⟨v26, e26, hr⟩ := hq
        have hq := asI_inv hr
        clear hr
        obtain ⟨x26, rfl, hr⟩ := hq
        refine wa_step (v := (.i .i64 x26)) (a_ld rfl e26) ?_
        refine wa_step (v := v1) (a_pure (p_mv g1)) ?_
        have hq := bindO_inv hr
        clear hr
        obtain ⟨v28, e28, hr⟩ := hq
        refine wa_step (v := v28) (a_pure (o_ixS rfl rfl e28)) ?_
        have hq := bindO_inv hr
        clear hr
        obtain ⟨v29, e29, hr⟩ := hq
        have hq := asI_inv hr
        clear hr
        obtain ⟨x29, rfl, hr⟩ := hq
        refine wa_step (v := (.i .i64 x29)) (a_ld rfl e29) ?_
        have hq := forceB_inv hr
        clear hr
        obtain ⟨c30, e30, hr⟩ := hq
        refine wa_step (v := (.b c30)) (a_pure (p_bin rfl rfl (b_neq.trans (cb e30)))) ?_
        refine wa_step (v := (.b c30)) (a_pure (p_mv rfl)) ?_
        have hq := bindO_inv hr
        clear hr
        obtain ⟨o_2, hr, hk⟩ := hq
        refine wa_join 5 (JA (g85_J2 v1 m_3 o_2) m_3 (m_3.h) [] []) ?_ ?_
        · clear hk
          have hq := cond_inv hr
          clear hr
          rcases hq with ⟨rfl, hr⟩ | ⟨rfl, hr⟩
          · refine wa_take (v := v1) rfl (a_pure (p_mv g1)) ?_
            have hq := bindO_inv hr
            clear hr
            obtain ⟨v33, e33, hr⟩ := hq
            refine wa_take (v := v33) rfl (a_pure (o_ixS rfl rfl e33)) ?_
            have hq := bindO_inv hr
            clear hr
            obtain ⟨v34, e34, hr⟩ := hq
            have hq := asI_inv hr
            clear hr
            obtain ⟨x34, rfl, hr⟩ := hq
            refine wa_take (v := (.i .i64 x34)) rfl (a_ld rfl e34) ?_
            have hq := forceB_inv hr
            clear hr
            obtain ⟨c35, e35, hr⟩ := hq
            refine wa_take (v := (.b c35)) rfl (a_pure (p_bin rfl rfl (b_leq.trans (cb e35)))) ?_
            refine wa_step (v := (.b c35)) (a_pure (p_pickT rfl rfl)) ?_
            refine wa_nil ?_
            cases hr
            exact ja_in ⟨rfl, gl rfl, gl g1⟩
          · refine wa_skip (v := (.b false)) rfl rfl ?_
            refine wa_skip (v := (.b false)) rfl rfl ?_
            refine wa_skip (v := (.b false)) rfl rfl ?_
            refine wa_skip (v := (.b false)) rfl rfl ?_
            refine wa_step (v := (.b false)) (a_pure (p_pickF rfl rfl)) ?_
            refine wa_nil ?_
            cases hr
            exact ja_in ⟨rfl, gl rfl, gl g1⟩
        · clear hr
          have hr := hk
          clear hk
          obtain ⟨c36, ho⟩ : ∃ z, z = o_2 := ⟨_, rfl⟩
          subst ho
          refine ja_out ?_
          rintro t_3 ⟨-, g36, g1⟩
          refine wa_step (v := (.b c36)) (a_pure (p_mv g36)) ?_
          have hq := bindO_inv hr
          clear hr
          obtain ⟨o_3, hr, hk⟩ := hq
          refine wa_join 5 (JA (g85_J3 m_3 o_3) m_3 (m_3.h) [] []) ?_ ?_
          · clear hk
            have hq := cond_inv hr
            clear hr
            rcases hq with ⟨rfl, hr⟩ | ⟨rfl, hr⟩
            · refine wa_take (v := v1) rfl (a_pure (p_mv g1)) ?_
              have hq := bindO_inv hr
              clear hr
              obtain ⟨v39, e39, hr⟩ := hq
              refine wa_take (v := v39) rfl (a_pure (o_ixS rfl rfl e39)) ?_
              have hq := bindO_inv hr
              clear hr
              obtain ⟨v40, e40, hr⟩ := hq
              have hq := asI_inv hr
              clear hr
              obtain ⟨x40, rfl, hr⟩ := hq
              refine wa_take (v := (.i .i64 x40)) rfl (a_ld rfl e40) ?_
              have hq := forceB_inv hr
              clear hr
              obtain ⟨c41, e41, hr⟩ := hq
              refine wa_take (v := (.b c41)) rfl (a_pure (p_bin rfl rfl (b_leq.trans (cb e41)))) ?_
              refine wa_step (v := (.b c41)) (a_pure (p_pickT rfl rfl)) ?_
              refine wa_nil ?_
              cases hr
              exact ja_in ⟨rfl, gl rfl⟩
            · refine wa_skip (v := (.b false)) rfl rfl ?_
              refine wa_skip (v := (.b false)) rfl rfl ?_
              refine wa_skip (v := (.b false)) rfl rfl ?_
              refine wa_skip (v := (.b false)) rfl rfl ?_
              refine wa_step (v := (.b false)) (a_pure (p_pickF rfl rfl)) ?_
              refine wa_nil ?_
              cases hr
              exact ja_in ⟨rfl, gl rfl⟩
          · clear hr
            have hr := hk
            clear hk
            obtain ⟨c42, ho⟩ : ∃ z, z = o_3 := ⟨_, rfl⟩
            subst ho
            refine ja_out ?_
            rintro t_4 ⟨-, g42⟩
            refine wa_step (v := (.b c42)) (a_pure (p_mv g42)) ?_
            refine wa_nil ?_
            refine ⟨m_3, rfl, ?_⟩
            refine nx_norm ?_
            refine w_ret ?_
            exact qf ret_ok (rt rfl rn) hr

/- dibber/share.parts -/

def g86 (M : Means) (ro : List ABlk) (x0 : Int) (x1 : Int) (m0 : Mm) : Option (AVal × Heap × Nat × Nat) :=
  bindP (stepM ro m0 (.bx 3 1 (.c (.i .i64 x0)))) fun v2 m_1 =>
  bindP (stepM ro m_1 (.bx 3 1 (.c (.i .i64 x1)))) fun v3 m_2 =>
  bindO (some (AVal.fn 102 [] [v2, v3])) fun v5 =>
  finM m0.h.length (tupA [v5]) m_2

theorem g86_ok {ro : List ABlk} {O : Caller} {M : Means} (hM : M.Ok ⟨F, O⟩ ro) {x0 x1 h r} (ho : O 86 [(.i .i64 x0), (.i .i64 x1)] h = none) (hr : g86 M ro x0 x1 ⟨h, h.length, h.length⟩ = some r) : callX ⟨F, O⟩ ro 86 [(.i .i64 x0), (.i .i64 x1)] h = some r := by
  refine callX_of (F := ⟨F, O⟩) (fn := fn86) (g := g86 M ro x0 x1) ho rfl rfl hr ?_
  clear ho
  clear hr
  intro m0 t0 ht hr
  have g0 : t0.get 0 = (.i .i64 x0) := ht 0
  have g1 : t0.get 1 = (.i .i64 x1) := ht 1
  clear ht
  unfold g86 at hr
  refine w_seq ?_
  refine w_ops ?_
  have hq := bindP_inv hr
  clear hr
  obtain ⟨v2, m_1, e2, hr⟩ := hq
  refine wo_step (v := v2) (s_bx g0 e2) ?_
  have hq := bindP_inv hr
  clear hr
  obtain ⟨v3, m_2, e3, hr⟩ := hq
  refine wo_step (v := v3) (s_bx g1 e3) ?_
  refine wo_step (v := AVal.nfn) (s_pure (p_mv rfl)) ?_
  refine wo_nil ?_
  refine nx_norm ?_
  refine w_seq ?_
  refine w_ops ?_
  have hq := bindO_inv hr
  clear hr
  obtain ⟨v5, e5, hr⟩ := hq
  refine wo_step (v := v5) (s_pure ((o_mkfn mn (mc rfl (mc rfl mn))).trans e5)) ?_
  refine wo_step (v := v5) (s_pure (p_mv rfl)) ?_
  refine wo_nil ?_
  refine nx_norm ?_
  refine w_ret ?_
  exact qf ret_ok (rt rfl rn) hr

/- dibber/share.allWithin -/
abbrev g87_I0 (x1 : Int) (v0 : AVal) (x8 : Int) (s : Int × Mm) (m1 : Mm) (t1 : Tr) : Prop :=
  match s with
  | (x9, m_1) => m_1 = m1 ∧ t1.get 9 = (.i .i64 x9) ∧ t1.get 1 = (.i .i64 x1) ∧ t1.get 7 = v0 ∧ t1.get 8 = (.i .i64 x8)
abbrev g87_J0 (x1 : Int) (v0 : AVal) (x8 : Int) (o : (Mm ⊕ (Bool × Mm))) (e : AExit) (m1 : Mm) (t1 : Tr) : Prop :=
  match o with
  | (.inl mo) => e = (.exit 0) ∧ mo = m1
  | (.inr (y4, mo)) => e = .ret ∧ mo = m1 ∧ t1.get 4 = (.b y4)
def g87_b0 (M : Means) (ro : List ABlk) (x1 : Int) (v0 : AVal) (x8 : Int) (x9 : Int) (m_1 : Mm) : Option ((Int × Mm) ⊕ ((Mm ⊕ (Bool × Mm)))) :=
  forceB (ltI x9 x8) fun c10 =>
  cond c10 (
    bindO (evP .e (.ixS 1 (.c v0) (.c (.i .i64 x9)))) fun v11 =>
    bindO (ldM ro m_1 true 1 v11) fun v12 =>
    asI .i64 v12 fun x12 =>
    bindP (callM M.call m_1 50 [(.i .i64 x12), (.i .i64 x1)]) fun v15 m_2 =>
    asB v15 fun c15 =>
    forceB (!c15) fun c16 =>
    cond c16 (
      some (.inr (.inr (false, m_2)))) (
      forceI (wr .i64 (x9 + 1)) fun x17 =>
      some (.inl (x17, m_2)))) (
    some (.inr (.inl m_1)))
def g87 (M : Means) (ro : List ABlk) (v0 : AVal) (x1 : Int) (m0 : Mm) : Option (AVal × Heap × Nat × Nat) :=
  bindO (evP .e (.len false (.c v0))) fun v8 =>
  asI .i64 v8 fun x8 =>
  bindO (M.loop (S := Int × Mm) (R := (Mm ⊕ (Bool × Mm))) (fun s => g87_b0 M ro x1 v0 x8 s.1 s.2) (0, m0)) fun o => match o with
  | (.inl m_3) =>
    finM m0.h.length (tupA [(.b true)]) m_3
  | (.inr (c4, m_4)) =>
    finM m0.h.length (tupA [(.b c4)]) m_4

theorem g87_ok {ro : List ABlk} {O : Caller} {M : Means} (hM : M.Ok ⟨F, O⟩ ro) {v0 x1 h r} (ho : O 87 [v0, (.i .i64 x1)] h = none) (hr : g87 M ro v0 x1 ⟨h, h.length, h.length⟩ = some r) : callX ⟨F, O⟩ ro 87 [v0, (.i .i64 x1)] h = some r := by
  refine callX_of (F := ⟨F, O⟩) (fn := fn87) (g := g87 M ro v0 x1) ho rfl rfl hr ?_
  clear ho
  clear hr
  intro m0 t0 ht hr
  have g0 : t0.get 0 = v0 := ht 0
  have g1 : t0.get 1 = (.i .i64 x1) := ht 1
  clear ht
  unfold g87 at hr
  refine w_seq ?_
  refine w_ops ?_
  refine wo_step (v := (.b false)) (s_pure (p_mv rfl)) ?_
  refine wo_nil ?_
  refine nx_norm ?_
  refine w_seq ?_
  refine w_seq ?_
  refine w_ops ?_
  refine wo_step (v := v0) (s_pure (p_mv g0)) ?_
  have hq := bindO_inv hr
  clear hr
  obtain ⟨v8, e8, hr⟩ := hq
  have hq := asI_inv hr
  clear hr
  obtain ⟨x8, rfl, hr⟩ := hq
  refine wo_step (v := (.i .i64 x8)) (s_pure (o_len rfl e8)) ?_
  refine wo_step (v := (.i .i64 0)) (s_pure (p_mv rfl)) ?_
  refine wo_nil ?_
  refine nx_norm ?_
  refine w_block ?_
  have hq := bindO_inv hr
  clear hr
  obtain ⟨o, hl, hr⟩ := hq
  obtain ⟨n, hl⟩ := hM.loop _ _ _ hl
  refine jp_mono (w_loop _ (g87_I0 x1 v0 x8) (g87_J0 x1 v0 x8) ?_ n _ _ _ _ hl ⟨rfl, gl rfl, gl g1, gl rfl, gl rfl⟩) ?_
  · clear hr hl
    intro s mm_2 t_1 o hi hr
    obtain ⟨x9, m_1⟩ := s
    obtain ⟨rfl, g9, g1, g7, g8⟩ := hi
    unfold g87_b0 at hr
    refine w_seq ?_
    refine w_ops ?_
    have hq := forceB_inv hr
    clear hr
    obtain ⟨c10, e10, hr⟩ := hq
    refine wo_step (v := (.b c10)) (s_pure (p_bin g9 g8 (b_lss.trans (cb e10)))) ?_
    refine wo_nil ?_
    refine nx_norm ?_
    refine w_seq ?_
    have hq := cond_inv hr
    clear hr
    rcases hq with ⟨rfl, hr⟩ | ⟨rfl, hr⟩
    · refine w_condT rfl ?_
      refine w_skip ?_
      refine nx_norm ?_
      refine w_seq ?_
      refine w_block ?_
      refine w_seq ?_
      refine w_ops ?_
      have hq := bindO_inv hr
      clear hr
      obtain ⟨v11, e11, hr⟩ := hq
      refine wo_step (v := v11) (s_pure (o_ixS g7 g9 e11)) ?_
      have hq := bindO_inv hr
      clear hr
      obtain ⟨v12, e12, hr⟩ := hq
      have hq := asI_inv hr
      clear hr
      obtain ⟨x12, rfl, hr⟩ := hq
      refine wo_step (v := (.i .i64 x12)) (s_ld rfl e12) ?_
      refine wo_step (v := (.i .i64 x12)) (s_pure (p_mv rfl)) ?_
      refine wo_nil ?_
      refine nx_norm ?_
      refine w_seq ?_
      refine w_ops ?_
      refine wo_step (v := (.i .i64 x12)) (s_pure (p_mv rfl)) ?_
      refine wo_step (v := (.i .i64 x1)) (s_pure (p_mv g1)) ?_
      have hq := bindP_inv hr
      clear hr
      obtain ⟨v15, m_2, e15, hr⟩ := hq
      have hq := asB_inv hr
      clear hr
      obtain ⟨c15, rfl, hr⟩ := hq
      refine wo_step (v := (.b c15)) (s_call (mc rfl (mc rfl mn)) (callM_le hM.call e15)) ?_
      have hq := forceB_inv hr
      clear hr
      obtain ⟨c16, e16, hr⟩ := hq
      refine wo_step (v := (.b c16)) (s_pure ((p_not rfl).trans (cb e16))) ?_
      refine wo_nil ?_
      refine nx_norm ?_
      have hq := cond_inv hr
      clear hr
      rcases hq with ⟨rfl, hr⟩ | ⟨rfl, hr⟩
      · refine w_condT rfl ?_
        refine w_seq ?_
        refine w_ops ?_
        refine wo_step (v := (.b false)) (s_pure (p_mv rfl)) ?_
        refine wo_nil ?_
        refine nx_norm ?_
        refine w_ret ?_
        refine bk_ret ?_
        refine nx_ret ?_
        cases hr
        exact ⟨_, _, rfl, ne_norm_ret, rfl, rfl, gl rfl⟩
      · refine w_condF rfl ?_
        refine w_skip ?_
        refine bk_norm ?_
        refine nx_norm ?_
        refine w_ops ?_
        have hq := forceI_inv hr
        clear hr
        obtain ⟨x17, e17, hr⟩ := hq
        refine wo_step (v := (.i .i64 x17)) (s_pure (p_bin g9 rfl (b_add.trans (ci e17)))) ?_
        refine wo_step (v := (.i .i64 x17)) (s_pure (p_mv rfl)) ?_
        refine wo_nil ?_
        cases hr
        exact ⟨_, _, rfl, rfl, rfl, gl rfl, gl g1, gl g7, gl g8⟩
    · refine w_condF rfl ?_
      refine w_exit ?_
      refine nx_exit ?_
      cases hr
      exact ⟨_, _, rfl, ne_norm_exit, rfl, rfl⟩
  · rcases o with o | o
    · obtain ⟨m_3, ho⟩ : ∃ z, z = o := ⟨_, rfl⟩
      subst ho
      rintro _ mm t_2 ⟨rfl, rfl⟩
      refine bk_hit ?_
      refine nx_norm ?_
      refine w_seq ?_
      refine w_ops ?_
      refine wo_step (v := (.b true)) (s_pure (p_mv rfl)) ?_
      refine wo_nil ?_
      refine nx_norm ?_
      refine w_ret ?_
      exact qf ret_ok (rt rfl rn) hr
    · obtain ⟨c4, m_4⟩ := o
      rintro _ mm_1 t_3 ⟨rfl, rfl, g4⟩
      refine bk_ret ?_
      refine nx_ret ?_
      exact qf ret_ok (rt g4 rn) hr

/- dibber/share.passes -/
abbrev g88_I0 (x0 : Int) (v1 : AVal) (x8 : Int) (s : Int × Mm) (m1 : Mm) (t1 : Tr) : Prop :=
  match s with
  | (x9, m_1) => m_1 = m1 ∧ t1.get 9 = (.i .i64 x9) ∧ t1.get 0 = (.i .i64 x0) ∧ t1.get 7 = v1 ∧ t1.get 8 = (.i .i64 x8)
abbrev g88_J0 (x0 : Int) (v1 : AVal) (x8 : Int) (o : (Mm ⊕ (Bool × Mm))) (e : AExit) (m1 : Mm) (t1 : Tr) : Prop :=
  match o with
  | (.inl mo) => e = (.exit 0) ∧ mo = m1
  | (.inr (y4, mo)) => e = .ret ∧ mo = m1 ∧ t1.get 4 = (.b y4)
def g88_b0 (M : Means) (ro : List ABlk) (x0 : Int) (v1 : AVal) (x8 : Int) (x9 : Int) (m_1 : Mm) : Option ((Int × Mm) ⊕ ((Mm ⊕ (Bool × Mm)))) :=
  forceB (ltI x9 x8) fun c10 =>
  cond c10 (
    bindO (evP .e (.ixS 1 (.c v1) (.c (.i .i64 x9)))) fun v11 =>
    bindO (ldM ro m_1 true 1 v11) fun v12 =>
    bindP (callyM M.call M.round m_1 v12 [(.i .i64 x0)]) fun v15 m_2 =>
    asB v15 fun c15 =>
    forceB (!c15) fun c16 =>
    cond c16 (
      some (.inr (.inr (false, m_2)))) (
      forceI (wr .i64 (x9 + 1)) fun x17 =>
      some (.inl (x17, m_2)))) (
    some (.inr (.inl m_1)))
def g88 (M : Means) (ro : List ABlk) (x0 : Int) (v1 : AVal) (m0 : Mm) : Option (AVal × Heap × Nat × Nat) :=
  bindO (evP .e (.len false (.c v1))) fun v8 =>
  asI .i64 v8 fun x8 =>
  bindO (M.loop (S := Int × Mm) (R := (Mm ⊕ (Bool × Mm))) (fun s => g88_b0 M ro x0 v1 x8 s.1 s.2) (0, m0)) fun o => match o with
  | (.inl m_3) =>
    finM m0.h.length (tupA [(.b true)]) m_3
  | (.inr (c4, m_4)) =>
    finM m0.h.length (tupA [(.b c4)]) m_4

theorem g88_ok {ro : List ABlk} {O : Caller} {M : Means} (hM : M.Ok ⟨F, O⟩ ro) {x0 v1 h r} (ho : O 88 [(.i .i64 x0), v1] h = none) (hr : g88 M ro x0 v1 ⟨h, h.length, h.length⟩ = some r) : callX ⟨F, O⟩ ro 88 [(.i .i64 x0), v1] h = some r := by
  refine callX_of (F := ⟨F, O⟩) (fn := fn88) (g := g88 M ro x0 v1) ho rfl rfl hr ?_
  clear ho
  clear hr
  intro m0 t0 ht hr
  have g0 : t0.get 0 = (.i .i64 x0) := ht 0
  have g1 : t0.get 1 = v1 := ht 1
  clear ht
  unfold g88 at hr
  refine w_seq ?_
  refine w_ops ?_
  refine wo_step (v := (.b false)) (s_pure (p_mv rfl)) ?_
  refine wo_nil ?_
  refine nx_norm ?_
  refine w_seq ?_
  refine w_seq ?_
  refine w_ops ?_
  refine wo_step (v := v1) (s_pure (p_mv g1)) ?_
  have hq := bindO_inv hr
  clear hr
  obtain ⟨v8, e8, hr⟩ := hq
  have hq := asI_inv hr
  clear hr
  obtain ⟨x8, rfl, hr⟩ := hq
  refine wo_step (v := (.i .i64 x8)) (s_pure (o_len rfl e8)) ?_
  refine wo_step (v := (.i .i64 0)) (s_pure (p_mv rfl)) ?_
  refine wo_nil ?_
  refine nx_norm ?_
  refine w_block ?_
  have hq := bindO_inv hr
  clear hr
  obtain ⟨o, hl, hr⟩ := hq
  obtain ⟨n, hl⟩ := hM.loop _ _ _ hl
  refine jp_mono (w_loop _ (g88_I0 x0 v1 x8) (g88_J0 x0 v1 x8) ?_ n _ _ _ _ hl ⟨rfl, gl rfl, gl g0, gl rfl, gl rfl⟩) ?_
  · clear hr hl
    intro s mm_2 t_1 o hi hr
    obtain ⟨x9, m_1⟩ := s
    obtain ⟨rfl, g9, g0, g7, g8⟩ := hi
    unfold g88_b0 at hr
    refine w_seq ?_
    refine w_ops ?_
    have hq := forceB_inv hr
    clear hr
    obtain ⟨c10, e10, hr⟩ := hq
    refine wo_step (v := (.b c10)) (s_pure (p_bin g9 g8 (b_lss.trans (cb e10)))) ?_
    refine wo_nil ?_
    refine nx_norm ?_
    refine w_seq ?_
    have hq := cond_inv hr
    clear hr
    rcases hq with ⟨rfl, hr⟩ | ⟨rfl, hr⟩
    · refine w_condT rfl ?_
      refine w_skip ?_
      refine nx_norm ?_
      refine w_seq ?_
      refine w_block ?_
      refine w_seq ?_
      refine w_ops ?_
      have hq := bindO_inv hr
      clear hr
      obtain ⟨v11, e11, hr⟩ := hq
      refine wo_step (v := v11) (s_pure (o_ixS g7 g9 e11)) ?_
      have hq := bindO_inv hr
      clear hr
      obtain ⟨v12, e12, hr⟩ := hq
      refine wo_step (v := v12) (s_ld rfl e12) ?_
      refine wo_step (v := v12) (s_pure (p_mv rfl)) ?_
      refine wo_nil ?_
      refine nx_norm ?_
      refine w_seq ?_
      refine w_opsY ?_
      refine wy_step (v := v12) (y_C (s_pure (p_mv rfl))) ?_
      refine wy_step (v := (.i .i64 x0)) (y_C (s_pure (p_mv g0))) ?_
      have hq := bindP_inv hr
      clear hr
      obtain ⟨v15, m_2, e15, hr⟩ := hq
      have hq := asB_inv hr
      clear hr
      obtain ⟨c15, rfl, hr⟩ := hq
      refine wy_step (v := (.b c15)) (y_callv rfl (mc rfl mn) (callyM_le hM.call hM.round e15)) ?_
      have hq := forceB_inv hr
      clear hr
      obtain ⟨c16, e16, hr⟩ := hq
      refine wy_step (v := (.b c16)) (y_C (s_pure ((p_not rfl).trans (cb e16)))) ?_
      refine wy_nil ?_
      refine nx_norm ?_
      have hq := cond_inv hr
      clear hr
      rcases hq with ⟨rfl, hr⟩ | ⟨rfl, hr⟩
      · refine w_condT rfl ?_
        refine w_seq ?_
        refine w_ops ?_
        refine wo_step (v := (.b false)) (s_pure (p_mv rfl)) ?_
        refine wo_nil ?_
        refine nx_norm ?_
        refine w_ret ?_
        refine bk_ret ?_
        refine nx_ret ?_
        cases hr
        exact ⟨_, _, rfl, ne_norm_ret, rfl, rfl, gl rfl⟩
      · refine w_condF rfl ?_
        refine w_skip ?_
        refine bk_norm ?_
        refine nx_norm ?_
        refine w_ops ?_
        have hq := forceI_inv hr
        clear hr
        obtain ⟨x17, e17, hr⟩ := hq
        refine wo_step (v := (.i .i64 x17)) (s_pure (p_bin g9 rfl (b_add.trans (ci e17)))) ?_
        refine wo_step (v := (.i .i64 x17)) (s_pure (p_mv rfl)) ?_
        refine wo_nil ?_
        cases hr
        exact ⟨_, _, rfl, rfl, rfl, gl rfl, gl g0, gl g7, gl g8⟩
    · refine w_condF rfl ?_
      refine w_exit ?_
      refine nx_exit ?_
      cases hr
      exact ⟨_, _, rfl, ne_norm_exit, rfl, rfl⟩
  · rcases o with o | o
    · obtain ⟨m_3, ho⟩ : ∃ z, z = o := ⟨_, rfl⟩
      subst ho
      rintro _ mm t_2 ⟨rfl, rfl⟩
      refine bk_hit ?_
      refine nx_norm ?_
      refine w_seq ?_
      refine w_ops ?_
      refine wo_step (v := (.b true)) (s_pure (p_mv rfl)) ?_
      refine wo_nil ?_
      refine nx_norm ?_
      refine w_ret ?_
      exact qf ret_ok (rt rfl rn) hr
    · obtain ⟨c4, m_4⟩ := o
      rintro _ mm_1 t_3 ⟨rfl, rfl, g4⟩
      refine bk_ret ?_
      refine nx_ret ?_
      exact qf ret_ok (rt g4 rn) hr

/- dibber/share.above-1 -/

def g89 (M : Means) (ro : List ABlk) (x0 : Int) (v1 : AVal) (m0 : Mm) : Option (AVal × Heap × Nat × Nat) :=
  bindO (ldM ro m0 true 1 v1) fun v5 =>
  asI .i64 v5 fun x5 =>
  forceB (ltI x5 x0) fun c6 =>
  finM m0.h.length (tupA [(.b c6)]) m0

theorem g89_ok {ro : List ABlk} {O : Caller} {M : Means} (hM : M.Ok ⟨F, O⟩ ro) {x0 v1 h r} (ho : O 89 [(.i .i64 x0), v1] h = none) (hr : g89 M ro x0 v1 ⟨h, h.length, h.length⟩ = some r) : callX ⟨F, O⟩ ro 89 [(.i .i64 x0), v1] h = some r := by
  refine callX_of (F := ⟨F, O⟩) (fn := fn89) (g := g89 M ro x0 v1) ho rfl rfl hr ?_
  clear ho
  clear hr
  intro m0 t0 ht hr
  have g0 : t0.get 0 = (.i .i64 x0) := ht 0
  have g1 : t0.get 1 = v1 := ht 1
  clear ht
  unfold g89 at hr
  refine w_seq ?_
  refine w_ops ?_
  refine wo_step (v := (.b false)) (s_pure (p_mv rfl)) ?_
  refine wo_nil ?_
  refine nx_norm ?_
  refine w_seq ?_
  refine w_ops ?_
  refine wo_step (v := (.i .i64 x0)) (s_pure (p_mv g0)) ?_
  have hq := bindO_inv hr
  clear hr
  obtain ⟨v5, e5, hr⟩ := hq
  have hq := asI_inv hr
  clear hr
  obtain ⟨x5, rfl, hr⟩ := hq
  refine wo_step (v := (.i .i64 x5)) (s_ld g1 e5) ?_
  have hq := forceB_inv hr
  clear hr
  obtain ⟨c6, e6, hr⟩ := hq
  refine wo_step (v := (.b c6)) (s_pure (p_bin rfl rfl (b_gtr.trans (cb e6)))) ?_
  refine wo_step (v := (.b c6)) (s_pure (p_mv rfl)) ?_
  refine wo_nil ?_
  refine nx_norm ?_
  refine w_ret ?_
  exact qf ret_ok (rt rfl rn) hr

/- dibber/share.breaks-1 -/

def g90 (M : Means) (ro : List ABlk) (x0 : Int) (v1 : AVal) (v2 : AVal) (m0 : Mm) : Option (AVal × Heap × Nat × Nat) :=
  bindO (ldA ro m0.h true 1 v1) fun v5 =>
  bindO (ldA ro m0.h true 1 v2) fun v6 =>
  asI .i64 v6 fun x6 =>
  bindO (evP .e (.ixS 1 (.c v5) (.c (.i .i64 x6)))) fun v7 =>
  bindO (ldA ro m0.h true 1 v7) fun v8 =>
  asI .i64 v8 fun x8 =>
  bindO (ldA ro m0.h true 1 v1) fun v9 =>
  bindO (evP .e (.ixS 1 (.c v9) (.c (.i .i64 x0)))) fun v11 =>
  bindO (ldA ro m0.h true 1 v11) fun v12 =>
  asI .i64 v12 fun x12 =>
  forceI (wr .i64 (x8 + x12)) fun x13 =>
  bindO (ldA ro m0.h true 1 v1) fun v14 =>
  bindO (ldA ro m0.h true 1 v2) fun v15 =>
  asI .i64 v15 fun x15 =>
  forceI (bitV .or .i64 x15 x0) fun x17 =>
  bindO (evP .e (.ixS 1 (.c v14) (.c (.i .i64 x17)))) fun v18 =>
  bindO (ldA ro m0.h true 1 v18) fun v19 =>
  asI .i64 v19 fun x19 =>
  bindO (ldA ro m0.h true 1 v1) fun v20 =>
  bindO (ldA ro m0.h true 1 v2) fun v21 =>
  asI .i64 v21 fun x21 =>
  forceI (bitV .and .i64 x21 x0) fun x23 =>
  bindO (evP .e (.ixS 1 (.c v20) (.c (.i .i64 x23)))) fun v24 =>
  bindO (ldA ro m0.h true 1 v24) fun v25 =>
  asI .i64 v25 fun x25 =>
  forceI (wr .i64 (x19 + x25)) fun x26 =>
  forceB (ltI x13 x26) fun c27 =>
  finM m0.h.length (tupA [(.b c27)]) m0

theorem g90_ok {ro : List ABlk} {O : Caller} {M : Means} (hM : M.Ok ⟨F, O⟩ ro) {x0 v1 v2 h r} (ho : O 90 [(.i .i64 x0), v1, v2] h = none) (hr : g90 M ro x0 v1 v2 ⟨h, h.length, h.length⟩ = some r) : callX ⟨F, O⟩ ro 90 [(.i .i64 x0), v1, v2] h = some r := by
  refine callX_of (F := ⟨F, O⟩) (fn := fn90) (g := g90 M ro x0 v1 v2) ho rfl rfl hr ?_
  clear ho
  clear hr
  intro m0 t0 ht hr
  have g0 : t0.get 0 = (.i .i64 x0) := ht 0
  have g1 : t0.get 1 = v1 := ht 1
  have g2 : t0.get 2 = v2 := ht 2
  clear ht
  unfold g90 at hr
  refine w_seq ?_
  refine w_ops ?_
  refine wo_step (v := (.b false)) (s_pure (p_mv rfl)) ?_
  refine wo_nil ?_
  refine nx_norm ?_
  refine w_seq ?_
  refine w_any ?_
  have hq := bindO_inv hr
  clear hr
  obtain ⟨v5, e5, hr⟩ := hq
  refine wa_step (v := v5) (a_ld g1 e5) ?_
  have hq := bindO_inv hr
  clear hr
  obtain ⟨v6, e6, hr⟩ := hq
  have hq := asI_inv hr
  clear hr
  obtain ⟨x6, rfl, hr⟩ := hq
  refine wa_step (v := (.i .i64 x6)) (a_ld g2 e6) ?_
  have hq := bindO_inv hr
  clear hr
  obtain ⟨v7, e7, hr⟩ := hq
  refine wa_step (v := v7) (a_pure (o_ixS rfl rfl e7)) ?_
  have hq := bindO_inv hr
  clear hr
  obtain ⟨v8, e8, hr⟩ := hq
  have hq := asI_inv hr
  clear hr
  obtain ⟨x8, rfl, hr⟩ := hq
  refine wa_step (v := (.i .i64 x8)) (a_ld rfl e8) ?_
  have hq := bindO_inv hr
  clear hr
  obtain ⟨v9, e9, hr⟩ := hq
  refine wa_step (v := v9) (a_ld g1 e9) ?_
  refine wa_step (v := (.i .i64 x0)) (a_pure (p_mv g0)) ?_
  have hq := bindO_inv hr
  clear hr
  obtain ⟨v11, e11, hr⟩ := hq
  refine wa_step (v := v11) (a_pure (o_ixS rfl rfl e11)) ?_
  have hq := bindO_inv hr
  clear hr
  obtain ⟨v12, e12, hr⟩ := hq
  have hq := asI_inv hr
  clear hr
  obtain ⟨x12, rfl, hr⟩ := hq
  refine wa_step (v := (.i .i64 x12)) (a_ld rfl e12) ?_
  have hq := forceI_inv hr
  clear hr
  obtain ⟨x13, e13, hr⟩ := hq
  refine wa_step (v := (.i .i64 x13)) (a_pure (p_bin rfl rfl (b_add.trans (ci e13)))) ?_
  have hq := bindO_inv hr
  clear hr
  obtain ⟨v14, e14, hr⟩ := hq
  refine wa_step (v := v14) (a_ld g1 e14) ?_
  have hq := bindO_inv hr
  clear hr
  obtain ⟨v15, e15, hr⟩ := hq
  have hq := asI_inv hr
  clear hr
  obtain ⟨x15, rfl, hr⟩ := hq
  refine wa_step (v := (.i .i64 x15)) (a_ld g2 e15) ?_
  refine wa_step (v := (.i .i64 x0)) (a_pure (p_mv g0)) ?_
  have hq := forceI_inv hr
  clear hr
  obtain ⟨x17, e17, hr⟩ := hq
  refine wa_step (v := (.i .i64 x17)) (a_pure (p_bin rfl rfl (b_or.trans (ci e17)))) ?_
  have hq := bindO_inv hr
  clear hr
  obtain ⟨v18, e18, hr⟩ := hq
  refine wa_step (v := v18) (a_pure (o_ixS rfl rfl e18)) ?_
  have hq := bindO_inv hr
  clear hr
  obtain ⟨v19, e19, hr⟩ := hq
  have hq := asI_inv hr
  clear hr
  obtain ⟨x19, rfl, hr⟩ := hq
  refine wa_step (v := (.i .i64 x19)) (a_ld rfl e19) ?_
  have hq := bindO_inv hr
  clear hr
  obtain ⟨v20, e20, hr⟩ := hq
  refine wa_step (v := v20) (a_ld g1 e20) ?_
  have hq := bindO_inv hr
  clear hr
  obtain ⟨v21, e21, hr⟩ := hq
  have hq := asI_inv hr
  clear hr
  obtain ⟨x21, rfl, hr⟩ := hq
  refine wa_step (v := (.i .i64 x21)) (a_ld g2 e21) ?_
  refine wa_step (v := (.i .i64 x0)) (a_pure (p_mv g0)) ?_
  have hq := forceI_inv hr
  clear hr
  obtain ⟨x23, e23, hr⟩ := hq
  refine wa_step (v := (.i .i64 x23)) (a_pure (p_bin rfl rfl (b_and.trans (ci e23)))) ?_
  have hq := bindO_inv hr
  clear hr
  obtain ⟨v24, e24, hr⟩ := hq
  refine wa_step (v := v24) (a_pure (o_ixS rfl rfl e24)) ?_
  have hq := bindO_inv hr
  clear hr
  obtain ⟨v25, e25, hr⟩ := hq
  have hq := asI_inv hr
  clear hr
  obtain ⟨x25, rfl, hr⟩ := hq
  refine wa_step (v := (.i .i64 x25)) (a_ld rfl e25) ?_
  have hq := forceI_inv hr
  clear hr
  obtain ⟨x26, e26, hr⟩ := hq
  refine wa_step (v := (.i .i64 x26)) (a_pure (p_bin rfl rfl (b_add.trans (ci e26)))) ?_
  have hq := forceB_inv hr
  clear hr
  obtain ⟨c27, e27, hr⟩ := hq
  refine wa_step (v := (.b c27)) (a_pure (p_bin rfl rfl (b_lss.trans (cb e27)))) ?_
  refine wa_step (v := (.b c27)) (a_pure (p_mv rfl)) ?_
  refine wa_nil ?_
  refine ⟨m0, rfl, ?_⟩
  refine nx_norm ?_
  refine w_ret ?_
  exact qf ret_ok (rt rfl rn) hr

/- dibber/share.isGardener -/
abbrev g91_J0 (m0 : Mm) (o : Bool) (m1 : Mm) (t1 : Tr) : Prop :=
  match o with
  | c11 => m0 = m1 ∧ t1.get 11 = (.b c11)
def g91 (M : Means) (ro : List ABlk) (x0 : Int) (x1 : Int) (m0 : Mm) : Option (AVal × Heap × Nat × Nat) :=
  forceB (!ltI x1 0) fun c6 =>
  bindO (cond c6 (
    forceB (ltI x1 x0) fun c10 =>
    some c10) (
    some false)) fun c11 =>
  finM m0.h.length (tupA [(.b c11)]) m0

theorem g91_ok {ro : List ABlk} {O : Caller} {M : Means} (hM : M.Ok ⟨F, O⟩ ro) {x0 x1 h r} (ho : O 91 [(.i .i64 x0), (.i .i64 x1)] h = none) (hr : g91 M ro x0 x1 ⟨h, h.length, h.length⟩ = some r) : callX ⟨F, O⟩ ro 91 [(.i .i64 x0), (.i .i64 x1)] h = some r := by
  refine callX_of (F := ⟨F, O⟩) (fn := fn91) (g := g91 M ro x0 x1) ho rfl rfl hr ?_
  clear ho
  clear hr
  intro m0 t0 ht hr
  have g0 : t0.get 0 = (.i .i64 x0) := ht 0
  have g1 : t0.get 1 = (.i .i64 x1) := ht 1
  clear ht
  unfold g91 at hr
  refine w_seq ?_
  refine w_ops ?_
  refine wo_step (v := (.b false)) (s_pure (p_mv rfl)) ?_
  refine wo_nil ?_
  refine nx_norm ?_
  refine w_seq ?_
  refine w_ops ?_
  refine wo_step (v := (.i .i64 x1)) (s_pure (p_mv g1)) ?_
  have hq := forceB_inv hr
  clear hr
  obtain ⟨c6, e6, hr⟩ := hq
  refine wo_step (v := (.b c6)) (s_pure (p_bin rfl rfl (b_leq.trans (cb e6)))) ?_
  refine wo_step (v := (.b c6)) (s_pure (p_mv rfl)) ?_
  have hq := bindO_inv hr
  clear hr
  obtain ⟨o, hr, hk⟩ := hq
  refine wo_join 4 (g91_J0 m0 o) ?_ ?_
  · clear hk
    have hq := cond_inv hr
    clear hr
    rcases hq with ⟨rfl, hr⟩ | ⟨rfl, hr⟩
    · refine wo_take (v := (.i .i64 x1)) rfl (s_pure (p_mv g1)) ?_
      refine wo_take (v := (.i .i64 x0)) rfl (s_pure (p_mv g0)) ?_
      have hq := forceB_inv hr
      clear hr
      obtain ⟨c10, e10, hr⟩ := hq
      refine wo_take (v := (.b c10)) rfl (s_pure (p_bin rfl rfl (b_lss.trans (cb e10)))) ?_
      refine wo_step (v := (.b c10)) (s_pure (p_pickT rfl rfl)) ?_
      refine wo_nil ?_
      cases hr
      exact ⟨_, _, rfl, rfl, gl rfl⟩
    · refine wo_skip (v := (.b false)) rfl rfl ?_
      refine wo_skip (v := (.b false)) rfl rfl ?_
      refine wo_skip (v := (.b false)) rfl rfl ?_
      refine wo_step (v := (.b false)) (s_pure (p_pickF rfl rfl)) ?_
      refine wo_nil ?_
      cases hr
      exact ⟨_, _, rfl, rfl, gl rfl⟩
  · clear hr
    have hr := hk
    clear hk
    obtain ⟨c11, ho⟩ : ∃ z, z = o := ⟨_, rfl⟩
    subst ho
    rintro mm t_1 ⟨rfl, g11⟩
    refine wo_step (v := (.b c11)) (s_pure (p_mv g11)) ?_
    refine wo_nil ?_
    refine nx_norm ?_
    refine w_ret ?_
    exact qf ret_ok (rt rfl rn) hr

/- dibber/share.parts-1 -/

def g102 (M : Means) (ro : List ABlk) (x0 : Int) (v1 : AVal) (v2 : AVal) (m0 : Mm) : Option (AVal × Heap × Nat × Nat) :=
  bindO (some (Mm.base m0)) fun m_1 =>
  bindO (ldM ro m_1 true 1 v1) fun v6 =>
  asI .i64 v6 fun x6 =>
  bindP (callM M.call m_1 60 [(.i .i64 x0), (.i .i64 x6)]) fun v7 m_2 =>
  asB v7 fun c7 =>
  chk (!Nat.blt m_2.lw m0.h.length) <|
  bindO (ldA ro m0.h true 1 v2) fun v9 =>
  asI .i64 v9 fun x9 =>
  bindP (callM M.call m_2 60 [(.i .i64 x0), (.i .i64 x9)]) fun v10 m_3 =>
  asB v10 fun c10 =>
  forceB (!(c7 == c10)) fun c11 =>
  bindO (some (Mm.join m0 m_3)) fun m_4 =>
  finM m0.h.length (tupA [(.b c11)]) m_4

theorem g102_ok {ro : List ABlk} {O : Caller} {M : Means} (hM : M.Ok ⟨F, O⟩ ro) {x0 v1 v2 h r} (ho : O 102 [(.i .i64 x0), v1, v2] h = none) (hr : g102 M ro x0 v1 v2 ⟨h, h.length, h.length⟩ = some r) : callX ⟨F, O⟩ ro 102 [(.i .i64 x0), v1, v2] h = some r := by
  refine callX_of (F := ⟨F, O⟩) (fn := fn102) (g := g102 M ro x0 v1 v2) ho rfl rfl hr ?_
  clear ho
  clear hr
  intro m0 t0 ht hr
  have g0 : t0.get 0 = (.i .i64 x0) := ht 0
  have g1 : t0.get 1 = v1 := ht 1
  have g2 : t0.get 2 = v2 := ht 2
  clear ht
  unfold g102 at hr
  refine w_seq ?_
  refine w_ops ?_
  refine wo_step (v := (.b false)) (s_pure (p_mv rfl)) ?_
  refine wo_nil ?_
  refine nx_norm ?_
  refine w_seq ?_
  have hq := bindO_inv hr
  clear hr
  obtain ⟨m_1, ef, hr⟩ := hq
  refine w_flt (af := true) rfl ef ?_
  refine wf_step (v := (.i .i64 x0)) (f_P rfl (s_pure (p_mv g0))) ?_
  have hq := bindO_inv hr
  clear hr
  obtain ⟨v6, e6, hr⟩ := hq
  have hq := asI_inv hr
  clear hr
  obtain ⟨x6, rfl, hr⟩ := hq
  refine wf_step (v := (.i .i64 x6)) (f_P rfl (s_ld g1 e6)) ?_
  have hq := bindP_inv hr
  clear hr
  obtain ⟨v7, m_2, e7, hr⟩ := hq
  have hq := asB_inv hr
  clear hr
  obtain ⟨c7, rfl, hr⟩ := hq
  have hq := chk_inv hr
  clear hr
  obtain ⟨hc7, hr⟩ := hq
  refine wf_step (v := (.b c7)) (f_M hc7 (s_call (mc rfl (mc rfl mn)) (callM_le hM.call e7))) ?_
  refine wf_step (v := (.i .i64 x0)) (f_P rfl (s_pure (p_mv g0))) ?_
  have hq := bindO_inv hr
  clear hr
  obtain ⟨v9, e9, hr⟩ := hq
  have hq := asI_inv hr
  clear hr
  obtain ⟨x9, rfl, hr⟩ := hq
  refine wf_step (v := (.i .i64 x9)) (f_ld g2 e9) ?_
  have hq := bindP_inv hr
  clear hr
  obtain ⟨v10, m_3, e10, hr⟩ := hq
  have hq := asB_inv hr
  clear hr
  obtain ⟨c10, rfl, hr⟩ := hq
  refine wf_step (v := (.b c10)) (f_F rfl (s_call (mc rfl (mc rfl mn)) (callM_le hM.call e10))) ?_
  have hq := forceB_inv hr
  clear hr
  obtain ⟨c11, e11, hr⟩ := hq
  refine wf_step (v := (.b c11)) (f_P rfl (s_pure ((p_beq rfl rfl).trans (cb e11)))) ?_
  refine wf_step (v := (.b c11)) (f_P rfl (s_pure (p_mv rfl))) ?_
  have hq := bindO_inv hr
  clear hr
  obtain ⟨m_4, ef_1, hr⟩ := hq
  refine wf_end ef_1 ?_
  refine nx_norm ?_
  refine w_ret ?_
  exact qf ret_ok (rt rfl rn) hr

end Go.Proofs.Ythdglempcfknhaa.T

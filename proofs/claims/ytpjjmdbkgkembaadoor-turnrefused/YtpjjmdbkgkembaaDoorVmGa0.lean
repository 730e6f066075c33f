/- Plain functions, and that the small machine answers as they do. -/
import Derived.Test.YtpjjmdbkgkembaaDoorVmP
import Derived.Test.YtpjjmdbkgkembaaDoorVmAE
open Go.Vm
set_option linter.unusedVariables false
namespace Go.Proofs.YtpjjmdbkgkembaaDoor.T
open Go
/- dibber/dibberlaw04.TurnRefused -/
abbrev g9_J0 (x0 : Int) (x1 : Int) (v2 : AVal) (v29 : AVal) (x30 : Int) (c37 : Bool) (x38 : Int) (x44 : Int) (x45 : Int) (o : Bool × Mm) (m1 : Mm) (t1 : Tr) : Prop :=
  match o with
  | (c54, m_6) => m_6 = m1 ∧ t1.get 54 = (.b c54) ∧ t1.get 0 = (.i .i64 x0) ∧ t1.get 1 = (.i .i64 x1) ∧ t1.get 2 = v2 ∧ t1.get 9 = v29 ∧ t1.get 10 = (.i .i64 x30) ∧ t1.get 11 = (.b c37) ∧ t1.get 12 = (.i .i64 x38) ∧ t1.get 13 = (.i .i64 x44) ∧ t1.get 14 = (.i .i64 x45)
abbrev g9_J1 (v29 : AVal) (c37 : Bool) (x38 : Int) (x44 : Int) (x45 : Int) (m_8 : Mm) (o : Bool) (m1 : Mm) (t1 : Tr) : Prop :=
  match o with
  | c65 => m_8 = m1 ∧ t1.get 65 = (.b c65) ∧ t1.get 9 = v29 ∧ t1.get 11 = (.b c37) ∧ t1.get 12 = (.i .i64 x38) ∧ t1.get 13 = (.i .i64 x44) ∧ t1.get 14 = (.i .i64 x45)
abbrev g9_J2 (v29 : AVal) (c37 : Bool) (x44 : Int) (m_8 : Mm) (o : Bool) (m1 : Mm) (t1 : Tr) : Prop :=
  match o with
  | c70 => m_8 = m1 ∧ t1.get 70 = (.b c70) ∧ t1.get 9 = v29 ∧ t1.get 11 = (.b c37) ∧ t1.get 13 = (.i .i64 x44)
abbrev g9_J3 (v29 : AVal) (x44 : Int) (m_8 : Mm) (o : Bool) (m1 : Mm) (t1 : Tr) : Prop :=
  match o with
  | c74 => m_8 = m1 ∧ t1.get 74 = (.b c74) ∧ t1.get 9 = v29 ∧ t1.get 13 = (.i .i64 x44)
abbrev g9_J4 (m_8 : Mm) (o : Bool) (m1 : Mm) (t1 : Tr) : Prop :=
  match o with
  | c81 => m_8 = m1 ∧ t1.get 81 = (.b c81)
abbrev g9_J5  (o : Bool × Mm) (m1 : Mm) (t1 : Tr) : Prop :=
  match o with
  | (c84, m_9) => m_9 = m1 ∧ t1.get 84 = (.b c84)
abbrev g9_J6 (x0 : Int) (x1 : Int) (v2 : AVal) (x30 : Int) (c37 : Bool) (x44 : Int) (x45 : Int) (m_6 : Mm) (o : Bool) (m1 : Mm) (t1 : Tr) : Prop :=
  match o with
  | c90 => m_6 = m1 ∧ t1.get 90 = (.b c90) ∧ t1.get 0 = (.i .i64 x0) ∧ t1.get 1 = (.i .i64 x1) ∧ t1.get 2 = v2 ∧ t1.get 10 = (.i .i64 x30) ∧ t1.get 11 = (.b c37) ∧ t1.get 13 = (.i .i64 x44) ∧ t1.get 14 = (.i .i64 x45)
abbrev g9_J7 (x0 : Int) (x1 : Int) (v2 : AVal) (x30 : Int) (c37 : Bool) (x44 : Int) (x45 : Int) (m_6 : Mm) (o : Bool) (m1 : Mm) (t1 : Tr) : Prop :=
  match o with
  | c97 => m_6 = m1 ∧ t1.get 97 = (.b c97) ∧ t1.get 0 = (.i .i64 x0) ∧ t1.get 1 = (.i .i64 x1) ∧ t1.get 2 = v2 ∧ t1.get 10 = (.i .i64 x30) ∧ t1.get 11 = (.b c37) ∧ t1.get 13 = (.i .i64 x44) ∧ t1.get 14 = (.i .i64 x45)
abbrev g9_J8 (x0 : Int) (x1 : Int) (v2 : AVal) (x30 : Int) (c37 : Bool) (x44 : Int) (x45 : Int) (m_6 : Mm) (o : Bool) (m1 : Mm) (t1 : Tr) : Prop :=
  match o with
  | c97_1 => m_6 = m1 ∧ t1.get 97 = (.b c97_1) ∧ t1.get 0 = (.i .i64 x0) ∧ t1.get 1 = (.i .i64 x1) ∧ t1.get 2 = v2 ∧ t1.get 10 = (.i .i64 x30) ∧ t1.get 11 = (.b c37) ∧ t1.get 13 = (.i .i64 x44) ∧ t1.get 14 = (.i .i64 x45)
abbrev g9_J9 (x0 : Int) (x1 : Int) (v2 : AVal) (x30 : Int) (c37 : Bool) (x44 : Int) (m_6 : Mm) (o : Bool) (m1 : Mm) (t1 : Tr) : Prop :=
  match o with
  | c101 => m_6 = m1 ∧ t1.get 101 = (.b c101) ∧ t1.get 0 = (.i .i64 x0) ∧ t1.get 1 = (.i .i64 x1) ∧ t1.get 2 = v2 ∧ t1.get 10 = (.i .i64 x30) ∧ t1.get 11 = (.b c37) ∧ t1.get 13 = (.i .i64 x44)
abbrev g9_J10 (x0 : Int) (x1 : Int) (v2 : AVal) (x30 : Int) (c37 : Bool) (x44 : Int) (m_6 : Mm) (o : Bool) (m1 : Mm) (t1 : Tr) : Prop :=
  match o with
  | c105 => m_6 = m1 ∧ t1.get 105 = (.b c105) ∧ t1.get 0 = (.i .i64 x0) ∧ t1.get 1 = (.i .i64 x1) ∧ t1.get 2 = v2 ∧ t1.get 10 = (.i .i64 x30) ∧ t1.get 11 = (.b c37) ∧ t1.get 13 = (.i .i64 x44)
abbrev g9_J11 (x0 : Int) (x1 : Int) (v2 : AVal) (x30 : Int) (c37 : Bool) (x44 : Int) (m_6 : Mm) (o : Bool) (m1 : Mm) (t1 : Tr) : Prop :=
  match o with
  | c113 => m_6 = m1 ∧ t1.get 113 = (.b c113) ∧ t1.get 0 = (.i .i64 x0) ∧ t1.get 1 = (.i .i64 x1) ∧ t1.get 2 = v2 ∧ t1.get 10 = (.i .i64 x30) ∧ t1.get 11 = (.b c37) ∧ t1.get 13 = (.i .i64 x44)
abbrev g9_J12 (x0 : Int) (x1 : Int) (v2 : AVal) (x30 : Int) (c37 : Bool) (x44 : Int) (m_6 : Mm) (o : Bool) (m1 : Mm) (t1 : Tr) : Prop :=
  match o with
  | c113_1 => m_6 = m1 ∧ t1.get 113 = (.b c113_1) ∧ t1.get 0 = (.i .i64 x0) ∧ t1.get 1 = (.i .i64 x1) ∧ t1.get 2 = v2 ∧ t1.get 10 = (.i .i64 x30) ∧ t1.get 11 = (.b c37) ∧ t1.get 13 = (.i .i64 x44)
abbrev g9_J13 (x0 : Int) (x1 : Int) (v2 : AVal) (x30 : Int) (c37 : Bool) (x44 : Int) (m_6 : Mm) (o : Bool) (m1 : Mm) (t1 : Tr) : Prop :=
  match o with
  | c120 => m_6 = m1 ∧ t1.get 120 = (.b c120) ∧ t1.get 0 = (.i .i64 x0) ∧ t1.get 1 = (.i .i64 x1) ∧ t1.get 2 = v2 ∧ t1.get 10 = (.i .i64 x30) ∧ t1.get 11 = (.b c37) ∧ t1.get 13 = (.i .i64 x44)
abbrev g9_J14 (x30 : Int) (m_13 : Mm) (o : Bool) (m1 : Mm) (t1 : Tr) : Prop :=
  match o with
  | c143 => m_13 = m1 ∧ t1.get 143 = (.b c143) ∧ t1.get 10 = (.i .i64 x30)
abbrev g9_J15 (m_13 : Mm) (o : Bool) (m1 : Mm) (t1 : Tr) : Prop :=
  match o with
  | c147 => m_13 = m1 ∧ t1.get 147 = (.b c147)
abbrev g9_J16  (o : Bool × Mm) (m1 : Mm) (t1 : Tr) : Prop :=
  match o with
  | (c150, m_14) => m_14 = m1 ∧ t1.get 150 = (.b c150)
abbrev g9_J17 (x1 : Int) (v2 : AVal) (x30 : Int) (x44 : Int) (m_12 : Mm) (o : Bool) (m1 : Mm) (t1 : Tr) : Prop :=
  match o with
  | c156 => m_12 = m1 ∧ t1.get 156 = (.b c156) ∧ t1.get 1 = (.i .i64 x1) ∧ t1.get 2 = v2 ∧ t1.get 10 = (.i .i64 x30) ∧ t1.get 13 = (.i .i64 x44)
abbrev g9_J18  (o : Bool × Mm) (m1 : Mm) (t1 : Tr) : Prop :=
  match o with
  | (c170, m_16) => m_16 = m1 ∧ t1.get 170 = (.b c170)
abbrev g9_J19  (o : Bool × Mm) (m1 : Mm) (t1 : Tr) : Prop :=
  match o with
  | (c170_1, m_17) => m_17 = m1 ∧ t1.get 170 = (.b c170_1)
abbrev g9_J20 (m_18 : Mm) (o : Bool) (m1 : Mm) (t1 : Tr) : Prop :=
  match o with
  | c170_2 => m_18 = m1 ∧ t1.get 170 = (.b c170_2)
abbrev g9_J21  (o : Bool × Mm) (m1 : Mm) (t1 : Tr) : Prop :=
  match o with
  | (c173, m_19) => m_19 = m1 ∧ t1.get 173 = (.b c173)
def g9 (M : Means) (ro : List ABlk) (x0 : Int) (x1 : Int) (v2 : AVal) (v3 : AVal) (m0 : Mm) : Option (AVal × Heap × Nat × Nat) :=
  bindP (callM M.call m0 15 [v2, v3, AVal.nsl]) fun v21 m_1 =>
  asB v21 fun c21 =>
  forceB (!c21) fun c22 =>
  cond c22 (
    bindP (callM M.call m_1 16 []) fun v23 m_2 =>
    asB v23 fun c23 =>
    finM m0.h.length (tupA [(.b c23)]) m_2) (
    bindP (callM M.call m_1 17 [(.i .i64 x0), (.i .i64 x1), v2]) fun v28 m_3 =>
    bindO (evP .e (.ext 0 (.c v28))) fun v29 =>
    bindO (evP .e (.ext 1 (.c v28))) fun v30 =>
    asI .i64 v30 fun x30 =>
    bindP (callM M.call m_3 30 [(.i .i64 x0), (.i .i64 x1), v2, v3]) fun v36 m_4 =>
    bindO (evP .e (.ext 0 (.c v36))) fun v37 =>
    asB v37 fun c37 =>
    bindO (evP .e (.ext 1 (.c v36))) fun v38 =>
    asI .i64 v38 fun x38 =>
    bindP (callM M.call m_4 36 [(.i .i64 x0), (.i .i64 x1), v2]) fun v43 m_5 =>
    bindO (evP .e (.ext 0 (.c v43))) fun v44 =>
    asI .i64 v44 fun x44 =>
    bindO (evP .e (.ext 1 (.c v43))) fun v45 =>
    asI .i64 v45 fun x45 =>
    forceB (!eqI x38 0) fun c47 =>
    bindO (cond c47 (
      some (true, m_5)) (
      bindP (callM M.call m_5 20 [(.i .i64 x0), (.i .i64 x1), v2]) fun v52 m_7 =>
      asI .i64 v52 fun x52 =>
      forceB (!eqI x52 0) fun c53 =>
      some (c53, m_7))) fun ⟨c54, m_6⟩ =>
    cond c54 (
      bindP (callM M.call m_6 20 [(.i .i64 x0), (.i .i64 x1), v2]) fun v59 m_8 =>
      asI .i64 v59 fun x59 =>
      forceB (eqI x38 x59) fun c60 =>
      bindO (cond c60 (
        forceB (eqI x30 x38) fun c64 =>
        some c64) (
        some false)) fun c65 =>
      bindO (cond c65 (
        forceB (eqI x45 x38) fun c69 =>
        some c69) (
        some false)) fun c70 =>
      bindO (cond c70 (
        forceB (!c37) fun c73 =>
        some c73) (
        some false)) fun c74 =>
      bindO (cond c74 (
        bindO (evP .e (.len false (.c v29))) fun v77 =>
        asI .i64 v77 fun x77 =>
        forceI (wr .i64 (x77 + x44)) fun x79 =>
        forceB (eqI x79 0) fun c80 =>
        some c80) (
        some false)) fun c81 =>
      bindO (cond c81 (
        bindP (callM M.call m_8 16 []) fun v83 m_10 =>
        asB v83 fun c83 =>
        some (c83, m_10)) (
        some (false, m_8))) fun ⟨c84, m_9⟩ =>
      finM m0.h.length (tupA [(.b c84)]) m_9) (
      forceB (!eqI x30 0) fun c86 =>
      bindO (cond c86 (
        forceB (!eqI x30 10) fun c89 =>
        some c89) (
        some false)) fun c90 =>
      bindO (cond c90 (
        some true) (
        bindO (cond c37 (
          forceB (eqI x30 0) fun c95 =>
          some c95) (
          some false)) fun c97_1 =>
        some c97_1)) fun c97 =>
      bindO (cond c97 (
        some true) (
        forceB (!eqI x45 0) fun c100 =>
        some c100)) fun c101 =>
      bindO (cond c101 (
        some true) (
        forceB (ltI x44 0) fun c104 =>
        some c104)) fun c105 =>
      bindO (cond c105 (
        some true) (
        forceB (eqI x44 0) fun c108 =>
        bindO (cond c108 (
          forceB (!eqI x30 0) fun c111 =>
          some c111) (
          some false)) fun c113_1 =>
        some c113_1)) fun c113 =>
      cond c113 (
        finM m0.h.length (tupA [(.b false)]) m_6) (
        forceB (ltI 4 x1) fun c115 =>
        bindO (cond c115 (
          bindO (evP .e (.len false (.c v2))) fun v118 =>
          asI .i64 v118 fun x118 =>
          forceB (ltI 10 x118) fun c119 =>
          some c119) (
          some false)) fun c120 =>
        cond c120 (
          bindP (callM M.call m_6 16 []) fun v121 m_11 =>
          asB v121 fun c121 =>
          finM m0.h.length (tupA [(.b c121)]) m_11) (
          bindP (callM M.call m_6 32 [(.i .i64 x0), (.i .i64 x1), v2]) fun v126 m_12 =>
          bindO (evP .e (.ext 0 (.c v126))) fun v127 =>
          bindO (evP .e (.ext 1 (.c v126))) fun v128 =>
          asI .i64 v128 fun x128 =>
          forceB (eqI x128 0) fun c130 =>
          cond c130 (
            bindP (callM M.call m_12 30 [(.i .i64 x0), (.i .i64 x1), v2, v127]) fun v136 m_13 =>
            bindO (evP .e (.ext 0 (.c v136))) fun v137 =>
            asB v137 fun c137 =>
            bindO (evP .e (.ext 1 (.c v136))) fun v138 =>
            asI .i64 v138 fun x138 =>
            forceB (eqI x138 0) fun c140 =>
            bindO (cond c140 (
              some c137) (
              some false)) fun c143 =>
            bindO (cond c143 (
              forceB (eqI x30 10) fun c146 =>
              some c146) (
              some false)) fun c147 =>
            bindO (cond c147 (
              bindP (callM M.call m_13 16 []) fun v149 m_15 =>
              asB v149 fun c149 =>
              some (c149, m_15)) (
              some (false, m_13))) fun ⟨c150, m_14⟩ =>
            finM m0.h.length (tupA [(.b c150)]) m_14) (
            forceB (eqI x128 10) fun c152 =>
            bindO (cond c152 (
              forceB (!c37) fun c155 =>
              some c155) (
              some false)) fun c156 =>
            bindO (cond c156 (
              forceB (!eqI x44 1) fun c159 =>
              bindO (cond c159 (
                some (true, m_12)) (
                bindP (callM M.call m_12 38 [(.i .i64 x1), v2]) fun v163 m_18 =>
                asI .i64 v163 fun x163 =>
                forceB (ltI 1 x163) fun c164 =>
                bindO (cond c164 (
                  some true) (
                  forceB (eqI x30 0) fun c168 =>
                  some c168)) fun c170_2 =>
                some (c170_2, m_18))) fun ⟨c170_1, m_17⟩ =>
              some (c170_1, m_17)) (
              some (false, m_12))) fun ⟨c170, m_16⟩ =>
            bindO (cond c170 (
              bindP (callM M.call m_16 16 []) fun v172 m_20 =>
              asB v172 fun c172 =>
              some (c172, m_20)) (
              some (false, m_16))) fun ⟨c173, m_19⟩ =>
            finM m0.h.length (tupA [(.b c173)]) m_19)))))

theorem g9_ok {ro : List ABlk} {O : Caller} {M : Means} (hM : M.Ok ⟨F, O⟩ ro) {x0 x1 v2 v3 h r} (ho : O 9 [(.i .i64 x0), (.i .i64 x1), v2, v3] h = none) (hr : g9 M ro x0 x1 v2 v3 ⟨h, h.length, h.length⟩ = some r) : callX ⟨F, O⟩ ro 9 [(.i .i64 x0), (.i .i64 x1), v2, v3] h = some r := by
  refine callX_of (F := ⟨F, O⟩) (fn := fn9) (g := g9 M ro x0 x1 v2 v3) ho rfl rfl hr ?_
  clear ho
  clear hr
  intro m0 t0 ht hr
  have g0 : t0.get 0 = (.i .i64 x0) := ht 0
  have g1 : t0.get 1 = (.i .i64 x1) := ht 1
  have g2 : t0.get 2 = v2 := ht 2
  have g3 : t0.get 3 = v3 := ht 3
  clear ht
  unfold g9 at hr
  refine w_seq ?_
  refine w_ops ?_
  refine wo_step (v := (.b false)) (s_pure (p_mv rfl)) ?_
  refine wo_nil ?_
  refine nx_norm ?_
  refine w_seq ?_
  refine w_seq ?_
  refine w_ops ?_
  refine wo_step (v := v2) (s_pure (p_mv g2)) ?_
  refine wo_step (v := v3) (s_pure (p_mv g3)) ?_
  have hq := bindP_inv hr
  clear hr
  obtain ⟨v21, m_1, e21, hr⟩ := hq
  have hq := asB_inv hr
  clear hr
  obtain ⟨c21, rfl, hr⟩ := hq
  refine wo_step (v := (.b c21)) (s_call (mc rfl (mc rfl (mc rfl mn))) (callM_le hM.call e21)) ?_
  have hq := forceB_inv hr
  clear hr
  obtain ⟨c22, e22, hr⟩ := hq
  refine wo_step (v := (.b c22)) (s_pure ((p_not rfl).trans (cb e22))) ?_
  refine wo_nil ?_
  refine nx_norm ?_
  have hq := cond_inv hr
  clear hr
  rcases hq with ⟨rfl, hr⟩ | ⟨rfl, hr⟩
  · refine w_condT rfl ?_
    refine w_seq ?_
    refine w_ops ?_
    have hq := bindP_inv hr
    clear hr
    obtain ⟨v23, m_2, e23, hr⟩ := hq
    have hq := asB_inv hr
    clear hr
    obtain ⟨c23, rfl, hr⟩ := hq
    refine wo_step (v := (.b c23)) (s_call mn (callM_le hM.call e23)) ?_
    refine wo_step (v := (.b c23)) (s_pure (p_mv rfl)) ?_
    refine wo_nil ?_
    refine nx_norm ?_
    refine w_ret ?_
    refine nx_ret ?_
    exact qf ret_ok (rt rfl rn) hr
  · refine w_condF rfl ?_
    refine w_skip ?_
    refine nx_norm ?_
    refine w_seq ?_
    refine w_ops ?_
    refine wo_step (v := (.i .i64 x0)) (s_pure (p_mv g0)) ?_
    refine wo_step (v := (.i .i64 x1)) (s_pure (p_mv g1)) ?_
    refine wo_step (v := v2) (s_pure (p_mv g2)) ?_
    have hq := bindP_inv hr
    clear hr
    obtain ⟨v28, m_3, e28, hr⟩ := hq
    refine wo_step (v := v28) (s_call (mc rfl (mc rfl (mc rfl mn))) (callM_le hM.call e28)) ?_
    refine wo_step (v := v28) (s_pure (p_mv rfl)) ?_
    have hq := bindO_inv hr
    clear hr
    obtain ⟨v29, e29, hr⟩ := hq
    refine wo_step (v := v29) (s_pure (o_ext rfl e29)) ?_
    have hq := bindO_inv hr
    clear hr
    obtain ⟨v30, e30, hr⟩ := hq
    have hq := asI_inv hr
    clear hr
    obtain ⟨x30, rfl, hr⟩ := hq
    refine wo_step (v := (.i .i64 x30)) (s_pure (o_ext rfl e30)) ?_
    refine wo_step (v := v29) (s_pure (p_mv rfl)) ?_
    refine wo_step (v := (.i .i64 x30)) (s_pure (p_mv rfl)) ?_
    refine wo_nil ?_
    refine nx_norm ?_
    refine w_seq ?_
    refine w_ops ?_
    refine wo_step (v := (.i .i64 x0)) (s_pure (p_mv g0)) ?_
    refine wo_step (v := (.i .i64 x1)) (s_pure (p_mv g1)) ?_
    refine wo_step (v := v2) (s_pure (p_mv g2)) ?_
    refine wo_step (v := v3) (s_pure (p_mv g3)) ?_
    have hq := bindP_inv hr
    clear hr
    obtain ⟨v36, m_4, e36, hr⟩ := hq
    refine wo_step (v := v36) (s_call (mc rfl (mc rfl (mc rfl (mc rfl mn)))) (callM_le hM.call e36)) ?_
    refine wo_step (v := v36) (s_pure (p_mv rfl)) ?_
    have hq := bindO_inv hr
    clear hr
    obtain ⟨v37, e37, hr⟩ := hq
    have hq := asB_inv hr
    clear hr
    obtain ⟨c37, rfl, hr⟩ := hq
    refine wo_step (v := (.b c37)) (s_pure (o_ext rfl e37)) ?_
    have hq := bindO_inv hr
    clear hr
    obtain ⟨v38, e38, hr⟩ := hq
    have hq := asI_inv hr
    clear hr
    obtain ⟨x38, rfl, hr⟩ := hq
    refine wo_step (v := (.i .i64 x38)) (s_pure (o_ext rfl e38)) ?_
    refine wo_step (v := (.b c37)) (s_pure (p_mv rfl)) ?_
    refine wo_step (v := (.i .i64 x38)) (s_pure (p_mv rfl)) ?_
    refine wo_nil ?_
    refine nx_norm ?_
    refine w_seq ?_
    refine w_ops ?_
    refine wo_step (v := (.i .i64 x0)) (s_pure (p_mv g0)) ?_
    refine wo_step (v := (.i .i64 x1)) (s_pure (p_mv g1)) ?_
    refine wo_step (v := v2) (s_pure (p_mv g2)) ?_
    have hq := bindP_inv hr
    clear hr
    obtain ⟨v43, m_5, e43, hr⟩ := hq
    refine wo_step (v := v43) (s_call (mc rfl (mc rfl (mc rfl mn))) (callM_le hM.call e43)) ?_
    refine wo_step (v := v43) (s_pure (p_mv rfl)) ?_
    have hq := bindO_inv hr
    clear hr
    obtain ⟨v44, e44, hr⟩ := hq
    have hq := asI_inv hr
    clear hr
    obtain ⟨x44, rfl, hr⟩ := hq
    refine wo_step (v := (.i .i64 x44)) (s_pure (o_ext rfl e44)) ?_
    have hq := bindO_inv hr
    clear hr
    obtain ⟨v45, e45, hr⟩ := hq
    have hq := asI_inv hr
    clear hr
    obtain ⟨x45, rfl, hr⟩ := hq
    refine wo_step (v := (.i .i64 x45)) (s_pure (o_ext rfl e45)) ?_
    refine wo_step (v := (.i .i64 x44)) (s_pure (p_mv rfl)) ?_
    refine wo_step (v := (.i .i64 x45)) (s_pure (p_mv rfl)) ?_
    refine wo_nil ?_
    refine nx_norm ?_
    refine w_seq ?_
    refine w_seq ?_
    refine w_ops ?_
    refine wo_step (v := (.i .i64 x38)) (s_pure (p_mv rfl)) ?_
    have hq := forceB_inv hr
    clear hr
    obtain ⟨c47, e47, hr⟩ := hq
    refine wo_step (v := (.b c47)) (s_pure (p_bin rfl rfl (b_neq.trans (cb e47)))) ?_
    refine wo_step (v := (.b c47)) (s_pure (p_mv rfl)) ?_
    have hq := bindO_inv hr
    clear hr
    obtain ⟨o, hr, hk⟩ := hq
    refine wo_join 6 (g9_J0 x0 x1 v2 v29 x30 c37 x38 x44 x45 o) ?_ ?_
    · clear hk
      have hq := cond_inv hr
      clear hr
      rcases hq with ⟨rfl, hr⟩ | ⟨rfl, hr⟩
      · refine wo_skip (v := (.b true)) rfl rfl ?_
        refine wo_skip (v := (.b true)) rfl rfl ?_
        refine wo_skip (v := (.b true)) rfl rfl ?_
        refine wo_skip (v := (.b true)) rfl rfl ?_
        refine wo_skip (v := (.b true)) rfl rfl ?_
        refine wo_step (v := (.b true)) (s_pure (p_pickT rfl rfl)) ?_
        refine wo_nil ?_
        cases hr
        exact ⟨_, _, rfl, rfl, gl rfl, gl g0, gl g1, gl g2, gl rfl, gl rfl, gl rfl, gl rfl, gl rfl, gl rfl⟩
      · refine wo_take (v := (.i .i64 x0)) rfl (s_pure (p_mv g0)) ?_
        refine wo_take (v := (.i .i64 x1)) rfl (s_pure (p_mv g1)) ?_
        refine wo_take (v := v2) rfl (s_pure (p_mv g2)) ?_
        have hq := bindP_inv hr
        clear hr
        obtain ⟨v52, m_7, e52, hr⟩ := hq
        have hq := asI_inv hr
        clear hr
        obtain ⟨x52, rfl, hr⟩ := hq
        refine wo_take (v := (.i .i64 x52)) rfl (s_call (mc rfl (mc rfl (mc rfl mn))) (callM_le hM.call e52)) ?_
        have hq := forceB_inv hr
        clear hr
        obtain ⟨c53, e53, hr⟩ := hq
        refine wo_take (v := (.b c53)) rfl (s_pure (p_bin rfl rfl (b_neq.trans (cb e53)))) ?_
        refine wo_step (v := (.b c53)) (s_pure (p_pickF rfl rfl)) ?_
        refine wo_nil ?_
        cases hr
        exact ⟨_, _, rfl, rfl, gl rfl, gl g0, gl g1, gl g2, gl rfl, gl rfl, gl rfl, gl rfl, gl rfl, gl rfl⟩
    · clear hr
      have hr := hk
      clear hk
      obtain ⟨c54, m_6⟩ := o
      rintro mm t_1 ⟨rfl, g54, g0, g1, g2, g9, g10, g11, g12, g13, g14⟩
      refine wo_nil ?_
      refine nx_norm ?_
      have hq := cond_inv hr
      clear hr
      rcases hq with ⟨rfl, hr⟩ | ⟨rfl, hr⟩
      · refine w_condT g54 ?_
        refine w_seq ?_
        refine w_ops ?_
        refine wo_step (v := (.i .i64 x38)) (s_pure (p_mv g12)) ?_
        refine wo_step (v := (.i .i64 x0)) (s_pure (p_mv g0)) ?_
        refine wo_step (v := (.i .i64 x1)) (s_pure (p_mv g1)) ?_
        refine wo_step (v := v2) (s_pure (p_mv g2)) ?_
        have hq := bindP_inv hr
        clear hr
        obtain ⟨v59, m_8, e59, hr⟩ := hq
        have hq := asI_inv hr
        clear hr
        obtain ⟨x59, rfl, hr⟩ := hq
        refine wo_step (v := (.i .i64 x59)) (s_call (mc rfl (mc rfl (mc rfl mn))) (callM_le hM.call e59)) ?_
        have hq := forceB_inv hr
        clear hr
        obtain ⟨c60, e60, hr⟩ := hq
        refine wo_step (v := (.b c60)) (s_pure (p_bin rfl rfl (b_eql.trans (cb e60)))) ?_
        refine wo_step (v := (.b c60)) (s_pure (p_mv rfl)) ?_
        have hq := bindO_inv hr
        clear hr
        obtain ⟨o_1, hr, hk⟩ := hq
        refine wo_join 4 (g9_J1 v29 c37 x38 x44 x45 m_8 o_1) ?_ ?_
        · clear hk
          have hq := cond_inv hr
          clear hr
          rcases hq with ⟨rfl, hr⟩ | ⟨rfl, hr⟩
          · refine wo_take (v := (.i .i64 x30)) rfl (s_pure (p_mv g10)) ?_
            refine wo_take (v := (.i .i64 x38)) rfl (s_pure (p_mv g12)) ?_
            have hq := forceB_inv hr
            clear hr
            obtain ⟨c64, e64, hr⟩ := hq
            refine wo_take (v := (.b c64)) rfl (s_pure (p_bin rfl rfl (b_eql.trans (cb e64)))) ?_
            refine wo_step (v := (.b c64)) (s_pure (p_pickT rfl rfl)) ?_
            refine wo_nil ?_
            cases hr
            exact ⟨_, _, rfl, rfl, gl rfl, gl g9, gl g11, gl g12, gl g13, gl g14⟩
          · refine wo_skip (v := (.b false)) rfl rfl ?_
            refine wo_skip (v := (.b false)) rfl rfl ?_
            refine wo_skip (v := (.b false)) rfl rfl ?_
            refine wo_step (v := (.b false)) (s_pure (p_pickF rfl rfl)) ?_
            refine wo_nil ?_
            cases hr
            exact ⟨_, _, rfl, rfl, gl rfl, gl g9, gl g11, gl g12, gl g13, gl g14⟩
        · clear hr
          have hr := hk
          clear hk
          obtain ⟨c65, ho⟩ : ∃ z, z = o_1 := ⟨_, rfl⟩
          subst ho
          rintro mm_1 t_2 ⟨rfl, g65, g9, g11, g12, g13, g14⟩
          refine wo_step (v := (.b c65)) (s_pure (p_mv g65)) ?_
          have hq := bindO_inv hr
          clear hr
          obtain ⟨o_2, hr, hk⟩ := hq
          refine wo_join 4 (g9_J2 v29 c37 x44 m_8 o_2) ?_ ?_
          · clear hk
            have hq := cond_inv hr
            clear hr
            rcases hq with ⟨rfl, hr⟩ | ⟨rfl, hr⟩
            · refine wo_take (v := (.i .i64 x45)) rfl (s_pure (p_mv g14)) ?_
              refine wo_take (v := (.i .i64 x38)) rfl (s_pure (p_mv g12)) ?_
              have hq := forceB_inv hr
              clear hr
              obtain ⟨c69, e69, hr⟩ := hq
              refine wo_take (v := (.b c69)) rfl (s_pure (p_bin rfl rfl (b_eql.trans (cb e69)))) ?_
              refine wo_step (v := (.b c69)) (s_pure (p_pickT rfl rfl)) ?_
              refine wo_nil ?_
              cases hr
              exact ⟨_, _, rfl, rfl, gl rfl, gl g9, gl g11, gl g13⟩
            · refine wo_skip (v := (.b false)) rfl rfl ?_
              refine wo_skip (v := (.b false)) rfl rfl ?_
              refine wo_skip (v := (.b false)) rfl rfl ?_
              refine wo_step (v := (.b false)) (s_pure (p_pickF rfl rfl)) ?_
              refine wo_nil ?_
              cases hr
              exact ⟨_, _, rfl, rfl, gl rfl, gl g9, gl g11, gl g13⟩
          · clear hr
            have hr := hk
            clear hk
            obtain ⟨c70, ho⟩ : ∃ z, z = o_2 := ⟨_, rfl⟩
            subst ho
            rintro mm_2 t_3 ⟨rfl, g70, g9, g11, g13⟩
            refine wo_step (v := (.b c70)) (s_pure (p_mv g70)) ?_
            have hq := bindO_inv hr
            clear hr
            obtain ⟨o_3, hr, hk⟩ := hq
            refine wo_join 3 (g9_J3 v29 x44 m_8 o_3) ?_ ?_
            · clear hk
              have hq := cond_inv hr
              clear hr
              rcases hq with ⟨rfl, hr⟩ | ⟨rfl, hr⟩
              · refine wo_take (v := (.b c37)) rfl (s_pure (p_mv g11)) ?_
                have hq := forceB_inv hr
                clear hr
                obtain ⟨c73, e73, hr⟩ := hq
                refine wo_take (v := (.b c73)) rfl (s_pure ((p_not rfl).trans (cb e73))) ?_
                refine wo_step (v := (.b c73)) (s_pure (p_pickT rfl rfl)) ?_
                refine wo_nil ?_
                cases hr
                exact ⟨_, _, rfl, rfl, gl rfl, gl g9, gl g13⟩
              · refine wo_skip (v := (.b false)) rfl rfl ?_
                refine wo_skip (v := (.b false)) rfl rfl ?_
                refine wo_step (v := (.b false)) (s_pure (p_pickF rfl rfl)) ?_
                refine wo_nil ?_
                cases hr
                exact ⟨_, _, rfl, rfl, gl rfl, gl g9, gl g13⟩
            · clear hr
              have hr := hk
              clear hk
              obtain ⟨c74, ho⟩ : ∃ z, z = o_3 := ⟨_, rfl⟩
              subst ho
              rintro mm_3 t_4 ⟨rfl, g74, g9, g13⟩
              refine wo_step (v := (.b c74)) (s_pure (p_mv g74)) ?_
              have hq := bindO_inv hr
              clear hr
              obtain ⟨o_4, hr, hk⟩ := hq
              refine wo_join 6 (g9_J4 m_8 o_4) ?_ ?_
              · clear hk
                have hq := cond_inv hr
                clear hr
                rcases hq with ⟨rfl, hr⟩ | ⟨rfl, hr⟩
                · refine wo_take (v := v29) rfl (s_pure (p_mv g9)) ?_
                  have hq := bindO_inv hr
                  clear hr
                  obtain ⟨v77, e77, hr⟩ := hq
                  have hq := asI_inv hr
                  clear hr
                  obtain ⟨x77, rfl, hr⟩ := hq
                  refine wo_take (v := (.i .i64 x77)) rfl (s_pure (o_len rfl e77)) ?_
                  refine wo_take (v := (.i .i64 x44)) rfl (s_pure (p_mv g13)) ?_
                  have hq := forceI_inv hr
                  clear hr
                  obtain ⟨x79, e79, hr⟩ := hq
                  refine wo_take (v := (.i .i64 x79)) rfl (s_pure (p_bin rfl rfl (b_add.trans (ci e79)))) ?_
                  have hq := forceB_inv hr
                  clear hr
                  obtain ⟨c80, e80, hr⟩ := hq
                  refine wo_take (v := (.b c80)) rfl (s_pure (p_bin rfl rfl (b_eql.trans (cb e80)))) ?_
                  refine wo_step (v := (.b c80)) (s_pure (p_pickT rfl rfl)) ?_
                  refine wo_nil ?_
                  cases hr
                  exact ⟨_, _, rfl, rfl, gl rfl⟩
                · refine wo_skip (v := (.b false)) rfl rfl ?_
                  refine wo_skip (v := (.b false)) rfl rfl ?_
                  refine wo_skip (v := (.b false)) rfl rfl ?_
                  refine wo_skip (v := (.b false)) rfl rfl ?_
                  refine wo_skip (v := (.b false)) rfl rfl ?_
                  refine wo_step (v := (.b false)) (s_pure (p_pickF rfl rfl)) ?_
                  refine wo_nil ?_
                  cases hr
                  exact ⟨_, _, rfl, rfl, gl rfl⟩
              · clear hr
                have hr := hk
                clear hk
                obtain ⟨c81, ho⟩ : ∃ z, z = o_4 := ⟨_, rfl⟩
                subst ho
                rintro mm_4 t_5 ⟨rfl, g81⟩
                refine wo_step (v := (.b c81)) (s_pure (p_mv g81)) ?_
                have hq := bindO_inv hr
                clear hr
                obtain ⟨o_5, hr, hk⟩ := hq
                refine wo_join 2 (g9_J5  o_5) ?_ ?_
                · clear hk
                  have hq := cond_inv hr
                  clear hr
                  rcases hq with ⟨rfl, hr⟩ | ⟨rfl, hr⟩
                  · have hq := bindP_inv hr
                    clear hr
                    obtain ⟨v83, m_10, e83, hr⟩ := hq
                    have hq := asB_inv hr
                    clear hr
                    obtain ⟨c83, rfl, hr⟩ := hq
                    refine wo_take (v := (.b c83)) rfl (s_call mn (callM_le hM.call e83)) ?_
                    refine wo_step (v := (.b c83)) (s_pure (p_pickT rfl rfl)) ?_
                    refine wo_nil ?_
                    cases hr
                    exact ⟨_, _, rfl, rfl, gl rfl⟩
                  · refine wo_skip (v := (.b false)) rfl rfl ?_
                    refine wo_step (v := (.b false)) (s_pure (p_pickF rfl rfl)) ?_
                    refine wo_nil ?_
                    cases hr
                    exact ⟨_, _, rfl, rfl, gl rfl⟩
                · clear hr
                  have hr := hk
                  clear hk
                  obtain ⟨c84, m_9⟩ := o_5
                  rintro mm_5 t_6 ⟨rfl, g84⟩
                  refine wo_step (v := (.b c84)) (s_pure (p_mv g84)) ?_
                  refine wo_nil ?_
                  refine nx_norm ?_
                  refine w_ret ?_
                  refine nx_ret ?_
                  exact qf ret_ok (rt rfl rn) hr
      · refine w_condF g54 ?_
        refine w_skip ?_
        refine nx_norm ?_
        refine w_seq ?_
        refine w_seq ?_
        refine w_ops ?_
        refine wo_step (v := (.i .i64 x30)) (s_pure (p_mv g10)) ?_
        have hq := forceB_inv hr
        clear hr
        obtain ⟨c86, e86, hr⟩ := hq
        refine wo_step (v := (.b c86)) (s_pure (p_bin rfl rfl (b_neq.trans (cb e86)))) ?_
        refine wo_step (v := (.b c86)) (s_pure (p_mv rfl)) ?_
        have hq := bindO_inv hr
        clear hr
        obtain ⟨o_6, hr, hk⟩ := hq
        refine wo_join 3 (g9_J6 x0 x1 v2 x30 c37 x44 x45 m_6 o_6) ?_ ?_
        · clear hk
          have hq := cond_inv hr
          clear hr
          rcases hq with ⟨rfl, hr⟩ | ⟨rfl, hr⟩
          · refine wo_take (v := (.i .i64 x30)) rfl (s_pure (p_mv g10)) ?_
            have hq := forceB_inv hr
            clear hr
            obtain ⟨c89, e89, hr⟩ := hq
            refine wo_take (v := (.b c89)) rfl (s_pure (p_bin rfl rfl (b_neq.trans (cb e89)))) ?_
            refine wo_step (v := (.b c89)) (s_pure (p_pickT rfl rfl)) ?_
            refine wo_nil ?_
            cases hr
            exact ⟨_, _, rfl, rfl, gl rfl, gl g0, gl g1, gl g2, gl g10, gl g11, gl g13, gl g14⟩
          · refine wo_skip (v := (.b false)) rfl rfl ?_
            refine wo_skip (v := (.b false)) rfl rfl ?_
            refine wo_step (v := (.b false)) (s_pure (p_pickF rfl rfl)) ?_
            refine wo_nil ?_
            cases hr
            exact ⟨_, _, rfl, rfl, gl rfl, gl g0, gl g1, gl g2, gl g10, gl g11, gl g13, gl g14⟩
        · clear hr
          have hr := hk
          clear hk
          obtain ⟨c90, ho⟩ : ∃ z, z = o_6 := ⟨_, rfl⟩
          subst ho
          rintro mm_6 t_7 ⟨rfl, g90, g0, g1, g2, g10, g11, g13, g14⟩
          refine wo_step (v := (.b c90)) (s_pure (p_mv g90)) ?_
          have hq := bindO_inv hr
          clear hr
          obtain ⟨o_7, hr, hk⟩ := hq
          refine wo_join 6 (g9_J7 x0 x1 v2 x30 c37 x44 x45 m_6 o_7) ?_ ?_
          · clear hk
            have hq := cond_inv hr
            clear hr
            rcases hq with ⟨rfl, hr⟩ | ⟨rfl, hr⟩
            · refine wo_skip (v := (.b true)) rfl rfl ?_
              refine wo_skip (v := (.b true)) rfl rfl ?_
              refine wo_skip (v := und) rfl rfl ?_
              refine wo_skip (v := und) rfl rfl ?_
              refine wo_skip (v := (.b true)) rfl rfl ?_
              refine wo_step (v := (.b true)) (s_pure (p_pickT rfl rfl)) ?_
              refine wo_nil ?_
              cases hr
              exact ⟨_, _, rfl, rfl, gl rfl, gl g0, gl g1, gl g2, gl g10, gl g11, gl g13, gl g14⟩
            · refine wo_take (v := (.b c37)) rfl (s_pure (p_mv g11)) ?_
              refine wo_take (v := (.b c37)) rfl (s_pure (p_mv rfl)) ?_
              have hq := bindO_inv hr
              clear hr
              obtain ⟨o_8, hr, hk⟩ := hq
              refine wo_join 4 (g9_J8 x0 x1 v2 x30 c37 x44 x45 m_6 o_8) ?_ ?_
              · clear hk
                have hq := cond_inv hr
                clear hr
                rcases hq with ⟨rfl, hr⟩ | ⟨rfl, hr⟩
                · refine wo_take (v := (.i .i64 x30)) rfl (s_pure (p_mv g10)) ?_
                  have hq := forceB_inv hr
                  clear hr
                  obtain ⟨c95, e95, hr⟩ := hq
                  refine wo_take (v := (.b c95)) rfl (s_pure (p_bin rfl rfl (b_eql.trans (cb e95)))) ?_
                  refine wo_take (v := (.b c95)) rfl (s_pure (p_pickT rfl rfl)) ?_
                  refine wo_step (v := (.b c95)) (s_pure (p_pickF rfl rfl)) ?_
                  refine wo_nil ?_
                  cases hr
                  exact ⟨_, _, rfl, rfl, gl rfl, gl g0, gl g1, gl g2, gl g10, gl g11, gl g13, gl g14⟩
                · refine wo_skip (v := (.b false)) rfl rfl ?_
                  refine wo_skip (v := (.b false)) rfl rfl ?_
                  refine wo_take (v := (.b false)) rfl (s_pure (p_pickF rfl rfl)) ?_
                  refine wo_step (v := (.b false)) (s_pure (p_pickF rfl rfl)) ?_
                  refine wo_nil ?_
                  cases hr
                  exact ⟨_, _, rfl, rfl, gl rfl, gl g0, gl g1, gl g2, gl g10, gl g11, gl g13, gl g14⟩
              · clear hr
                have hr := hk
                clear hk
                obtain ⟨c97_1, ho⟩ : ∃ z, z = o_8 := ⟨_, rfl⟩
                subst ho
                rintro mm_7 t_8 ⟨rfl, g97, g0, g1, g2, g10, g11, g13, g14⟩
                refine wo_nil ?_
                cases hr
                exact ⟨_, _, rfl, rfl, gl g97, gl g0, gl g1, gl g2, gl g10, gl g11, gl g13, gl g14⟩
          · clear hr
            have hr := hk
            clear hk
            obtain ⟨c97, ho⟩ : ∃ z, z = o_7 := ⟨_, rfl⟩
            subst ho
            rintro mm_8 t_9 ⟨rfl, g97, g0, g1, g2, g10, g11, g13, g14⟩
            refine wo_step (v := (.b c97)) (s_pure (p_mv g97)) ?_
            have hq := bindO_inv hr
            clear hr
            obtain ⟨o_9, hr, hk⟩ := hq
            refine wo_join 3 (g9_J9 x0 x1 v2 x30 c37 x44 m_6 o_9) ?_ ?_
            · clear hk
              have hq := cond_inv hr
              clear hr
              rcases hq with ⟨rfl, hr⟩ | ⟨rfl, hr⟩
              · refine wo_skip (v := (.b true)) rfl rfl ?_
                refine wo_skip (v := (.b true)) rfl rfl ?_
                refine wo_step (v := (.b true)) (s_pure (p_pickT rfl rfl)) ?_
                refine wo_nil ?_
                cases hr
                exact ⟨_, _, rfl, rfl, gl rfl, gl g0, gl g1, gl g2, gl g10, gl g11, gl g13⟩
              · refine wo_take (v := (.i .i64 x45)) rfl (s_pure (p_mv g14)) ?_
                have hq := forceB_inv hr
                clear hr
                obtain ⟨c100, e100, hr⟩ := hq
                refine wo_take (v := (.b c100)) rfl (s_pure (p_bin rfl rfl (b_neq.trans (cb e100)))) ?_
                refine wo_step (v := (.b c100)) (s_pure (p_pickF rfl rfl)) ?_
                refine wo_nil ?_
                cases hr
                exact ⟨_, _, rfl, rfl, gl rfl, gl g0, gl g1, gl g2, gl g10, gl g11, gl g13⟩
            · clear hr
              have hr := hk
              clear hk
              obtain ⟨c101, ho⟩ : ∃ z, z = o_9 := ⟨_, rfl⟩
              subst ho
              rintro mm_9 t_10 ⟨rfl, g101, g0, g1, g2, g10, g11, g13⟩
              refine wo_step (v := (.b c101)) (s_pure (p_mv g101)) ?_
              have hq := bindO_inv hr
              clear hr
              obtain ⟨o_10, hr, hk⟩ := hq
              refine wo_join 3 (g9_J10 x0 x1 v2 x30 c37 x44 m_6 o_10) ?_ ?_
              · clear hk
                have hq := cond_inv hr
                clear hr
                rcases hq with ⟨rfl, hr⟩ | ⟨rfl, hr⟩
                · refine wo_skip (v := (.b true)) rfl rfl ?_
                  refine wo_skip (v := (.b true)) rfl rfl ?_
                  refine wo_step (v := (.b true)) (s_pure (p_pickT rfl rfl)) ?_
                  refine wo_nil ?_
                  cases hr
                  exact ⟨_, _, rfl, rfl, gl rfl, gl g0, gl g1, gl g2, gl g10, gl g11, gl g13⟩
                · refine wo_take (v := (.i .i64 x44)) rfl (s_pure (p_mv g13)) ?_
                  have hq := forceB_inv hr
                  clear hr
                  obtain ⟨c104, e104, hr⟩ := hq
                  refine wo_take (v := (.b c104)) rfl (s_pure (p_bin rfl rfl (b_lss.trans (cb e104)))) ?_
                  refine wo_step (v := (.b c104)) (s_pure (p_pickF rfl rfl)) ?_
                  refine wo_nil ?_
                  cases hr
                  exact ⟨_, _, rfl, rfl, gl rfl, gl g0, gl g1, gl g2, gl g10, gl g11, gl g13⟩
              · clear hr
                have hr := hk
                clear hk
                obtain ⟨c105, ho⟩ : ∃ z, z = o_10 := ⟨_, rfl⟩
                subst ho
                rintro mm_10 t_11 ⟨rfl, g105, g0, g1, g2, g10, g11, g13⟩
                refine wo_step (v := (.b c105)) (s_pure (p_mv g105)) ?_
                have hq := bindO_inv hr
                clear hr
                obtain ⟨o_11, hr, hk⟩ := hq
                refine wo_join 7 (g9_J11 x0 x1 v2 x30 c37 x44 m_6 o_11) ?_ ?_
                · clear hk
                  have hq := cond_inv hr
                  clear hr
                  rcases hq with ⟨rfl, hr⟩ | ⟨rfl, hr⟩
                  · refine wo_skip (v := (.b true)) rfl rfl ?_
                    refine wo_skip (v := (.b true)) rfl rfl ?_
                    refine wo_skip (v := (.b true)) rfl rfl ?_
                    refine wo_skip (v := und) rfl rfl ?_
                    refine wo_skip (v := und) rfl rfl ?_
                    refine wo_skip (v := (.b true)) rfl rfl ?_
                    refine wo_step (v := (.b true)) (s_pure (p_pickT rfl rfl)) ?_
                    refine wo_nil ?_
                    cases hr
                    exact ⟨_, _, rfl, rfl, gl rfl, gl g0, gl g1, gl g2, gl g10, gl g11, gl g13⟩
                  · refine wo_take (v := (.i .i64 x44)) rfl (s_pure (p_mv g13)) ?_
                    have hq := forceB_inv hr
                    clear hr
                    obtain ⟨c108, e108, hr⟩ := hq
                    refine wo_take (v := (.b c108)) rfl (s_pure (p_bin rfl rfl (b_eql.trans (cb e108)))) ?_
                    refine wo_take (v := (.b c108)) rfl (s_pure (p_mv rfl)) ?_
                    have hq := bindO_inv hr
                    clear hr
                    obtain ⟨o_12, hr, hk⟩ := hq
                    refine wo_join 4 (g9_J12 x0 x1 v2 x30 c37 x44 m_6 o_12) ?_ ?_
                    · clear hk
                      have hq := cond_inv hr
                      clear hr
                      rcases hq with ⟨rfl, hr⟩ | ⟨rfl, hr⟩
                      · refine wo_take (v := (.i .i64 x30)) rfl (s_pure (p_mv g10)) ?_
                        have hq := forceB_inv hr
                        clear hr
                        obtain ⟨c111, e111, hr⟩ := hq
                        refine wo_take (v := (.b c111)) rfl (s_pure (p_bin rfl rfl (b_neq.trans (cb e111)))) ?_
                        refine wo_take (v := (.b c111)) rfl (s_pure (p_pickT rfl rfl)) ?_
                        refine wo_step (v := (.b c111)) (s_pure (p_pickF rfl rfl)) ?_
                        refine wo_nil ?_
                        cases hr
                        exact ⟨_, _, rfl, rfl, gl rfl, gl g0, gl g1, gl g2, gl g10, gl g11, gl g13⟩
                      · refine wo_skip (v := (.b false)) rfl rfl ?_
                        refine wo_skip (v := (.b false)) rfl rfl ?_
                        refine wo_take (v := (.b false)) rfl (s_pure (p_pickF rfl rfl)) ?_
                        refine wo_step (v := (.b false)) (s_pure (p_pickF rfl rfl)) ?_
                        refine wo_nil ?_
                        cases hr
                        exact ⟨_, _, rfl, rfl, gl rfl, gl g0, gl g1, gl g2, gl g10, gl g11, gl g13⟩
                    · clear hr
                      have hr := hk
                      clear hk
                      obtain ⟨c113_1, ho⟩ : ∃ z, z = o_12 := ⟨_, rfl⟩
                      subst ho
                      rintro mm_11 t_12 ⟨rfl, g113, g0, g1, g2, g10, g11, g13⟩
                      refine wo_nil ?_
                      cases hr
                      exact ⟨_, _, rfl, rfl, gl g113, gl g0, gl g1, gl g2, gl g10, gl g11, gl g13⟩
                · clear hr
                  have hr := hk
                  clear hk
                  obtain ⟨c113, ho⟩ : ∃ z, z = o_11 := ⟨_, rfl⟩
                  subst ho
                  rintro mm_12 t_13 ⟨rfl, g113, g0, g1, g2, g10, g11, g13⟩
                  refine wo_nil ?_
                  refine nx_norm ?_
                  have hq := cond_inv hr
                  clear hr
                  rcases hq with ⟨rfl, hr⟩ | ⟨rfl, hr⟩
                  · refine w_condT g113 ?_
                    refine w_seq ?_
                    refine w_ops ?_
                    refine wo_step (v := (.b false)) (s_pure (p_mv rfl)) ?_
                    refine wo_nil ?_
                    refine nx_norm ?_
                    refine w_ret ?_
                    refine nx_ret ?_
                    exact qf ret_ok (rt rfl rn) hr
                  · refine w_condF g113 ?_
                    refine w_skip ?_
                    refine nx_norm ?_
                    refine w_seq ?_
                    refine w_seq ?_
                    refine w_ops ?_
                    refine wo_step (v := (.i .i64 x1)) (s_pure (p_mv g1)) ?_
                    have hq := forceB_inv hr
                    clear hr
                    obtain ⟨c115, e115, hr⟩ := hq
                    refine wo_step (v := (.b c115)) (s_pure (p_bin rfl rfl (b_gtr.trans (cb e115)))) ?_
                    refine wo_step (v := (.b c115)) (s_pure (p_mv rfl)) ?_
                    have hq := bindO_inv hr
                    clear hr
                    obtain ⟨o_13, hr, hk⟩ := hq
                    refine wo_join 4 (g9_J13 x0 x1 v2 x30 c37 x44 m_6 o_13) ?_ ?_
                    · clear hk
                      have hq := cond_inv hr
                      clear hr
                      rcases hq with ⟨rfl, hr⟩ | ⟨rfl, hr⟩
                      · refine wo_take (v := v2) rfl (s_pure (p_mv g2)) ?_
                        have hq := bindO_inv hr
                        clear hr
                        obtain ⟨v118, e118, hr⟩ := hq
                        have hq := asI_inv hr
                        clear hr
                        obtain ⟨x118, rfl, hr⟩ := hq
                        refine wo_take (v := (.i .i64 x118)) rfl (s_pure (o_len rfl e118)) ?_
                        have hq := forceB_inv hr
                        clear hr
                        obtain ⟨c119, e119, hr⟩ := hq
                        refine wo_take (v := (.b c119)) rfl (s_pure (p_bin rfl rfl (b_gtr.trans (cb e119)))) ?_
                        refine wo_step (v := (.b c119)) (s_pure (p_pickT rfl rfl)) ?_
                        refine wo_nil ?_
                        cases hr
                        exact ⟨_, _, rfl, rfl, gl rfl, gl g0, gl g1, gl g2, gl g10, gl g11, gl g13⟩
                      · refine wo_skip (v := (.b false)) rfl rfl ?_
                        refine wo_skip (v := (.b false)) rfl rfl ?_
                        refine wo_skip (v := (.b false)) rfl rfl ?_
                        refine wo_step (v := (.b false)) (s_pure (p_pickF rfl rfl)) ?_
                        refine wo_nil ?_
                        cases hr
                        exact ⟨_, _, rfl, rfl, gl rfl, gl g0, gl g1, gl g2, gl g10, gl g11, gl g13⟩
                    · clear hr
                      have hr := hk
                      clear hk
                      obtain ⟨c120, ho⟩ : ∃ z, z = o_13 := ⟨_, rfl⟩
                      subst ho
                      rintro mm_13 t_14 ⟨rfl, g120, g0, g1, g2, g10, g11, g13⟩
                      refine wo_nil ?_
                      refine nx_norm ?_
                      have hq := cond_inv hr
                      clear hr
                      rcases hq with ⟨rfl, hr⟩ | ⟨rfl, hr⟩
                      · refine w_condT g120 ?_
                        refine w_seq ?_
                        refine w_ops ?_
                        have hq := bindP_inv hr
                        clear hr
                        obtain ⟨v121, m_11, e121, hr⟩ := hq
                        have hq := asB_inv hr
                        clear hr
                        obtain ⟨c121, rfl, hr⟩ := hq
                        refine wo_step (v := (.b c121)) (s_call mn (callM_le hM.call e121)) ?_
                        refine wo_step (v := (.b c121)) (s_pure (p_mv rfl)) ?_
                        refine wo_nil ?_
                        refine nx_norm ?_
                        refine w_ret ?_
                        refine nx_ret ?_
                        exact qf ret_ok (rt rfl rn) hr
                      · refine w_condF g120 ?_
                        refine w_skip ?_
                        refine nx_norm ?_
                        refine w_seq ?_
                        refine w_ops ?_
                        refine wo_step (v := (.i .i64 x0)) (s_pure (p_mv g0)) ?_
                        refine wo_step (v := (.i .i64 x1)) (s_pure (p_mv g1)) ?_
                        refine wo_step (v := v2) (s_pure (p_mv g2)) ?_
                        have hq := bindP_inv hr
                        clear hr
                        obtain ⟨v126, m_12, e126, hr⟩ := hq
                        refine wo_step (v := v126) (s_call (mc rfl (mc rfl (mc rfl mn))) (callM_le hM.call e126)) ?_
                        refine wo_step (v := v126) (s_pure (p_mv rfl)) ?_
                        have hq := bindO_inv hr
                        clear hr
                        obtain ⟨v127, e127, hr⟩ := hq
                        refine wo_step (v := v127) (s_pure (o_ext rfl e127)) ?_
                        have hq := bindO_inv hr
                        clear hr
                        obtain ⟨v128, e128, hr⟩ := hq
                        have hq := asI_inv hr
                        clear hr
                        obtain ⟨x128, rfl, hr⟩ := hq
                        refine wo_step (v := (.i .i64 x128)) (s_pure (o_ext rfl e128)) ?_
                        refine wo_step (v := v127) (s_pure (p_mv rfl)) ?_
                        refine wo_step (v := (.i .i64 x128)) (s_pure (p_mv rfl)) ?_
                        refine wo_nil ?_
                        refine nx_norm ?_
                        refine w_seq ?_
                        refine w_seq ?_
                        refine w_ops ?_
                        refine wo_step (v := (.i .i64 x128)) (s_pure (p_mv rfl)) ?_
                        have hq := forceB_inv hr
                        clear hr
                        obtain ⟨c130, e130, hr⟩ := hq
                        refine wo_step (v := (.b c130)) (s_pure (p_bin rfl rfl (b_eql.trans (cb e130)))) ?_
                        refine wo_nil ?_
                        refine nx_norm ?_
                        have hq := cond_inv hr
                        clear hr
                        rcases hq with ⟨rfl, hr⟩ | ⟨rfl, hr⟩
                        · refine w_condT rfl ?_
                          refine w_seq ?_
                          refine w_ops ?_
                          refine wo_step (v := (.i .i64 x0)) (s_pure (p_mv g0)) ?_
                          refine wo_step (v := (.i .i64 x1)) (s_pure (p_mv g1)) ?_
                          refine wo_step (v := v2) (s_pure (p_mv g2)) ?_
                          refine wo_step (v := v127) (s_pure (p_mv rfl)) ?_
                          have hq := bindP_inv hr
                          clear hr
                          obtain ⟨v136, m_13, e136, hr⟩ := hq
                          refine wo_step (v := v136) (s_call (mc rfl (mc rfl (mc rfl (mc rfl mn)))) (callM_le hM.call e136)) ?_
                          refine wo_step (v := v136) (s_pure (p_mv rfl)) ?_
                          have hq := bindO_inv hr
                          clear hr
                          obtain ⟨v137, e137, hr⟩ := hq
                          have hq := asB_inv hr
                          clear hr
                          obtain ⟨c137, rfl, hr⟩ := hq
                          refine wo_step (v := (.b c137)) (s_pure (o_ext rfl e137)) ?_
                          have hq := bindO_inv hr
                          clear hr
                          obtain ⟨v138, e138, hr⟩ := hq
                          have hq := asI_inv hr
                          clear hr
                          obtain ⟨x138, rfl, hr⟩ := hq
                          refine wo_step (v := (.i .i64 x138)) (s_pure (o_ext rfl e138)) ?_
                          refine wo_step (v := (.b c137)) (s_pure (p_mv rfl)) ?_
                          refine wo_step (v := (.i .i64 x138)) (s_pure (p_mv rfl)) ?_
                          refine wo_nil ?_
                          refine nx_norm ?_
                          refine w_seq ?_
                          refine w_ops ?_
                          refine wo_step (v := (.i .i64 x138)) (s_pure (p_mv rfl)) ?_
                          have hq := forceB_inv hr
                          clear hr
                          obtain ⟨c140, e140, hr⟩ := hq
                          refine wo_step (v := (.b c140)) (s_pure (p_bin rfl rfl (b_eql.trans (cb e140)))) ?_
                          refine wo_step (v := (.b c140)) (s_pure (p_mv rfl)) ?_
                          have hq := bindO_inv hr
                          clear hr
                          obtain ⟨o_14, hr, hk⟩ := hq
                          refine wo_join 2 (g9_J14 x30 m_13 o_14) ?_ ?_
                          · clear hk
                            have hq := cond_inv hr
                            clear hr
                            rcases hq with ⟨rfl, hr⟩ | ⟨rfl, hr⟩
                            · refine wo_take (v := (.b c137)) rfl (s_pure (p_mv rfl)) ?_
                              refine wo_step (v := (.b c137)) (s_pure (p_pickT rfl rfl)) ?_
                              refine wo_nil ?_
                              cases hr
                              exact ⟨_, _, rfl, rfl, gl rfl, gl g10⟩
                            · refine wo_skip (v := (.b false)) rfl rfl ?_
                              refine wo_step (v := (.b false)) (s_pure (p_pickF rfl rfl)) ?_
                              refine wo_nil ?_
                              cases hr
                              exact ⟨_, _, rfl, rfl, gl rfl, gl g10⟩
                          · clear hr
                            have hr := hk
                            clear hk
                            obtain ⟨c143, ho⟩ : ∃ z, z = o_14 := ⟨_, rfl⟩
                            subst ho
                            rintro mm_14 t_15 ⟨rfl, g143, g10⟩
                            refine wo_step (v := (.b c143)) (s_pure (p_mv g143)) ?_
                            have hq := bindO_inv hr
                            clear hr
                            obtain ⟨o_15, hr, hk⟩ := hq
                            refine wo_join 3 (g9_J15 m_13 o_15) ?_ ?_
                            · clear hk
                              have hq := cond_inv hr
                              clear hr
                              rcases hq with ⟨rfl, hr⟩ | ⟨rfl, hr⟩
                              · refine wo_take (v := (.i .i64 x30)) rfl (s_pure (p_mv g10)) ?_
                                have hq := forceB_inv hr
                                clear hr
                                obtain ⟨c146, e146, hr⟩ := hq
                                refine wo_take (v := (.b c146)) rfl (s_pure (p_bin rfl rfl (b_eql.trans (cb e146)))) ?_
                                refine wo_step (v := (.b c146)) (s_pure (p_pickT rfl rfl)) ?_
                                refine wo_nil ?_
                                cases hr
                                exact ⟨_, _, rfl, rfl, gl rfl⟩
                              · refine wo_skip (v := (.b false)) rfl rfl ?_
                                refine wo_skip (v := (.b false)) rfl rfl ?_
                                refine wo_step (v := (.b false)) (s_pure (p_pickF rfl rfl)) ?_
                                refine wo_nil ?_
                                cases hr
                                exact ⟨_, _, rfl, rfl, gl rfl⟩
                            · clear hr
                              have hr := hk
                              clear hk
                              obtain ⟨c147, ho⟩ : ∃ z, z = o_15 := ⟨_, rfl⟩
                              subst ho
                              rintro mm_15 t_16 ⟨rfl, g147⟩
                              refine wo_step (v := (.b c147)) (s_pure (p_mv g147)) ?_
                              have hq := bindO_inv hr
                              clear hr
                              obtain ⟨o_16, hr, hk⟩ := hq
                              refine wo_join 2 (g9_J16  o_16) ?_ ?_
                              · clear hk
                                have hq := cond_inv hr
                                clear hr
                                rcases hq with ⟨rfl, hr⟩ | ⟨rfl, hr⟩
                                · have hq := bindP_inv hr
                                  clear hr
                                  obtain ⟨v149, m_15, e149, hr⟩ := hq
                                  have hq := asB_inv hr
                                  clear hr
                                  obtain ⟨c149, rfl, hr⟩ := hq
                                  refine wo_take (v := (.b c149)) rfl (s_call mn (callM_le hM.call e149)) ?_
                                  refine wo_step (v := (.b c149)) (s_pure (p_pickT rfl rfl)) ?_
                                  refine wo_nil ?_
                                  cases hr
                                  exact ⟨_, _, rfl, rfl, gl rfl⟩
                                · refine wo_skip (v := (.b false)) rfl rfl ?_
                                  refine wo_step (v := (.b false)) (s_pure (p_pickF rfl rfl)) ?_
                                  refine wo_nil ?_
                                  cases hr
                                  exact ⟨_, _, rfl, rfl, gl rfl⟩
                              · clear hr
                                have hr := hk
                                clear hk
                                obtain ⟨c150, m_14⟩ := o_16
                                rintro mm_16 t_17 ⟨rfl, g150⟩
                                refine wo_step (v := (.b c150)) (s_pure (p_mv g150)) ?_
                                refine wo_nil ?_
                                refine nx_norm ?_
                                refine w_ret ?_
                                refine nx_ret ?_
                                exact qf ret_ok (rt rfl rn) hr
                        · refine w_condF rfl ?_
                          refine w_skip ?_
                          refine nx_norm ?_
                          refine w_seq ?_
                          refine w_ops ?_
                          refine wo_step (v := (.i .i64 x128)) (s_pure (p_mv rfl)) ?_
                          have hq := forceB_inv hr
                          clear hr
                          obtain ⟨c152, e152, hr⟩ := hq
                          refine wo_step (v := (.b c152)) (s_pure (p_bin rfl rfl (b_eql.trans (cb e152)))) ?_
                          refine wo_step (v := (.b c152)) (s_pure (p_mv rfl)) ?_
                          have hq := bindO_inv hr
                          clear hr
                          obtain ⟨o_17, hr, hk⟩ := hq
                          refine wo_join 3 (g9_J17 x1 v2 x30 x44 m_12 o_17) ?_ ?_
                          · clear hk
                            have hq := cond_inv hr
                            clear hr
                            rcases hq with ⟨rfl, hr⟩ | ⟨rfl, hr⟩
                            · refine wo_take (v := (.b c37)) rfl (s_pure (p_mv g11)) ?_
                              have hq := forceB_inv hr
                              clear hr
                              obtain ⟨c155, e155, hr⟩ := hq
                              refine wo_take (v := (.b c155)) rfl (s_pure ((p_not rfl).trans (cb e155))) ?_
                              refine wo_step (v := (.b c155)) (s_pure (p_pickT rfl rfl)) ?_
                              refine wo_nil ?_
                              cases hr
                              exact ⟨_, _, rfl, rfl, gl rfl, gl g1, gl g2, gl g10, gl g13⟩
                            · refine wo_skip (v := (.b false)) rfl rfl ?_
                              refine wo_skip (v := (.b false)) rfl rfl ?_
                              refine wo_step (v := (.b false)) (s_pure (p_pickF rfl rfl)) ?_
                              refine wo_nil ?_
                              cases hr
                              exact ⟨_, _, rfl, rfl, gl rfl, gl g1, gl g2, gl g10, gl g13⟩
                          · clear hr
                            have hr := hk
                            clear hk
                            obtain ⟨c156, ho⟩ : ∃ z, z = o_17 := ⟨_, rfl⟩
                            subst ho
                            rintro mm_17 t_18 ⟨rfl, g156, g1, g2, g10, g13⟩
                            refine wo_step (v := (.b c156)) (s_pure (p_mv g156)) ?_
                            have hq := bindO_inv hr
                            clear hr
                            obtain ⟨o_18, hr, hk⟩ := hq
                            refine wo_join 13 (g9_J18  o_18) ?_ ?_
                            · clear hk
                              have hq := cond_inv hr
                              clear hr
                              rcases hq with ⟨rfl, hr⟩ | ⟨rfl, hr⟩
                              · refine wo_take (v := (.i .i64 x44)) rfl (s_pure (p_mv g13)) ?_
                                have hq := forceB_inv hr
                                clear hr
                                obtain ⟨c159, e159, hr⟩ := hq
                                refine wo_take (v := (.b c159)) rfl (s_pure (p_bin rfl rfl (b_neq.trans (cb e159)))) ?_
                                refine wo_take (v := (.b c159)) rfl (s_pure (p_mv rfl)) ?_
                                have hq := bindO_inv hr
                                clear hr
                                obtain ⟨o_19, hr, hk⟩ := hq
                                refine wo_join 10 (g9_J19  o_19) ?_ ?_
                                · clear hk
                                  have hq := cond_inv hr
                                  clear hr
                                  rcases hq with ⟨rfl, hr⟩ | ⟨rfl, hr⟩
                                  · refine wo_skip (v := (.b true)) rfl rfl ?_
                                    refine wo_skip (v := (.b true)) rfl rfl ?_
                                    refine wo_skip (v := (.b true)) rfl rfl ?_
                                    refine wo_skip (v := (.b true)) rfl rfl ?_
                                    refine wo_take (v := (.b true)) rfl (s_pure (p_pickT rfl rfl)) ?_
                                    refine wo_take (v := (.b true)) rfl (s_pure (p_mv rfl)) ?_
                                    refine wo_skip (v := (.b true)) rfl rfl ?_
                                    refine wo_skip (v := (.b true)) rfl rfl ?_
                                    refine wo_take (v := (.b true)) rfl (s_pure (p_pickT rfl rfl)) ?_
                                    refine wo_step (v := (.b true)) (s_pure (p_pickT rfl rfl)) ?_
                                    refine wo_nil ?_
                                    cases hr
                                    exact ⟨_, _, rfl, rfl, gl rfl⟩
                                  · refine wo_take (v := (.i .i64 x1)) rfl (s_pure (p_mv g1)) ?_
                                    refine wo_take (v := v2) rfl (s_pure (p_mv g2)) ?_
                                    have hq := bindP_inv hr
                                    clear hr
                                    obtain ⟨v163, m_18, e163, hr⟩ := hq
                                    have hq := asI_inv hr
                                    clear hr
                                    obtain ⟨x163, rfl, hr⟩ := hq
                                    refine wo_take (v := (.i .i64 x163)) rfl (s_call (mc rfl (mc rfl mn)) (callM_le hM.call e163)) ?_
                                    have hq := forceB_inv hr
                                    clear hr
                                    obtain ⟨c164, e164, hr⟩ := hq
                                    refine wo_take (v := (.b c164)) rfl (s_pure (p_bin rfl rfl (b_gtr.trans (cb e164)))) ?_
                                    refine wo_take (v := (.b c164)) rfl (s_pure (p_pickF rfl rfl)) ?_
                                    refine wo_take (v := (.b c164)) rfl (s_pure (p_mv rfl)) ?_
                                    have hq := bindO_inv hr
                                    clear hr
                                    obtain ⟨o_20, hr, hk⟩ := hq
                                    refine wo_join 4 (g9_J20 m_18 o_20) ?_ ?_
                                    · clear hk
                                      have hq := cond_inv hr
                                      clear hr
                                      rcases hq with ⟨rfl, hr⟩ | ⟨rfl, hr⟩
                                      · refine wo_skip (v := (.b true)) rfl rfl ?_
                                        refine wo_skip (v := (.b true)) rfl rfl ?_
                                        refine wo_take (v := (.b true)) rfl (s_pure (p_pickT rfl rfl)) ?_
                                        refine wo_step (v := (.b true)) (s_pure (p_pickT rfl rfl)) ?_
                                        refine wo_nil ?_
                                        cases hr
                                        exact ⟨_, _, rfl, rfl, gl rfl⟩
                                      · refine wo_take (v := (.i .i64 x30)) rfl (s_pure (p_mv g10)) ?_
                                        have hq := forceB_inv hr
                                        clear hr
                                        obtain ⟨c168, e168, hr⟩ := hq
                                        refine wo_take (v := (.b c168)) rfl (s_pure (p_bin rfl rfl (b_eql.trans (cb e168)))) ?_
                                        refine wo_take (v := (.b c168)) rfl (s_pure (p_pickF rfl rfl)) ?_
                                        refine wo_step (v := (.b c168)) (s_pure (p_pickT rfl rfl)) ?_
                                        refine wo_nil ?_
                                        cases hr
                                        exact ⟨_, _, rfl, rfl, gl rfl⟩
                                    · clear hr
                                      have hr := hk
                                      clear hk
                                      obtain ⟨c170_2, ho⟩ : ∃ z, z = o_20 := ⟨_, rfl⟩
                                      subst ho
                                      rintro mm_18 t_19 ⟨rfl, g170⟩
                                      refine wo_nil ?_
                                      cases hr
                                      exact ⟨_, _, rfl, rfl, gl g170⟩
                                · clear hr
                                  have hr := hk
                                  clear hk
                                  obtain ⟨c170_1, m_17⟩ := o_19
                                  rintro mm_19 t_20 ⟨rfl, g170⟩
                                  refine wo_nil ?_
                                  cases hr
                                  exact ⟨_, _, rfl, rfl, gl g170⟩
                              · refine wo_skip (v := (.b false)) rfl rfl ?_
                                refine wo_skip (v := (.b false)) rfl rfl ?_
                                refine wo_skip (v := (.b false)) rfl rfl ?_
                                refine wo_skip (v := und) rfl rfl ?_
                                refine wo_skip (v := und) rfl rfl ?_
                                refine wo_skip (v := und) rfl rfl ?_
                                refine wo_skip (v := und) rfl rfl ?_
                                refine wo_skip (v := (.b false)) rfl rfl ?_
                                refine wo_skip (v := (.b false)) rfl rfl ?_
                                refine wo_skip (v := und) rfl rfl ?_
                                refine wo_skip (v := und) rfl rfl ?_
                                refine wo_skip (v := (.b false)) rfl rfl ?_
                                refine wo_step (v := (.b false)) (s_pure (p_pickF rfl rfl)) ?_
                                refine wo_nil ?_
                                cases hr
                                exact ⟨_, _, rfl, rfl, gl rfl⟩
                            · clear hr
                              have hr := hk
                              clear hk
                              obtain ⟨c170, m_16⟩ := o_18
                              rintro mm_20 t_21 ⟨rfl, g170⟩
                              refine wo_step (v := (.b c170)) (s_pure (p_mv g170)) ?_
                              have hq := bindO_inv hr
                              clear hr
                              obtain ⟨o_21, hr, hk⟩ := hq
                              refine wo_join 2 (g9_J21  o_21) ?_ ?_
                              · clear hk
                                have hq := cond_inv hr
                                clear hr
                                rcases hq with ⟨rfl, hr⟩ | ⟨rfl, hr⟩
                                · have hq := bindP_inv hr
                                  clear hr
                                  obtain ⟨v172, m_20, e172, hr⟩ := hq
                                  have hq := asB_inv hr
                                  clear hr
                                  obtain ⟨c172, rfl, hr⟩ := hq
                                  refine wo_take (v := (.b c172)) rfl (s_call mn (callM_le hM.call e172)) ?_
                                  refine wo_step (v := (.b c172)) (s_pure (p_pickT rfl rfl)) ?_
                                  refine wo_nil ?_
                                  cases hr
                                  exact ⟨_, _, rfl, rfl, gl rfl⟩
                                · refine wo_skip (v := (.b false)) rfl rfl ?_
                                  refine wo_step (v := (.b false)) (s_pure (p_pickF rfl rfl)) ?_
                                  refine wo_nil ?_
                                  cases hr
                                  exact ⟨_, _, rfl, rfl, gl rfl⟩
                              · clear hr
                                have hr := hk
                                clear hk
                                obtain ⟨c173, m_19⟩ := o_21
                                rintro mm_21 t_22 ⟨rfl, g173⟩
                                refine wo_step (v := (.b c173)) (s_pure (p_mv g173)) ?_
                                refine wo_nil ?_
                                refine nx_norm ?_
                                refine w_ret ?_
                                exact qf ret_ok (rt rfl rn) hr

/- dibber/dibberlaw04.few -/
abbrev g15_J0 (v2 : AVal) (m0 : Mm) (o : Bool) (m1 : Mm) (t1 : Tr) : Prop :=
  match o with
  | c14 => m0 = m1 ∧ t1.get 14 = (.b c14) ∧ t1.get 2 = v2
abbrev g15_J1 (m0 : Mm) (o : Bool) (m1 : Mm) (t1 : Tr) : Prop :=
  match o with
  | c19 => m0 = m1 ∧ t1.get 19 = (.b c19)
def g15 (M : Means) (ro : List ABlk) (v0 : AVal) (v1 : AVal) (v2 : AVal) (m0 : Mm) : Option (AVal × Heap × Nat × Nat) :=
  bindO (evP .e (.len false (.c v0))) fun v8 =>
  asI .i64 v8 fun x8 =>
  forceB (!ltI 40 x8) fun c9 =>
  bindO (cond c9 (
    bindO (evP .e (.len false (.c v1))) fun v12 =>
    asI .i64 v12 fun x12 =>
    forceB (!ltI 40 x12) fun c13 =>
    some c13) (
    some false)) fun c14 =>
  bindO (cond c14 (
    bindO (evP .e (.len false (.c v2))) fun v17 =>
    asI .i64 v17 fun x17 =>
    forceB (!ltI 40 x17) fun c18 =>
    some c18) (
    some false)) fun c19 =>
  finM m0.h.length (tupA [(.b c19)]) m0

theorem g15_ok {ro : List ABlk} {O : Caller} {M : Means} (hM : M.Ok ⟨F, O⟩ ro) {v0 v1 v2 h r} (ho : O 15 [v0, v1, v2] h = none) (hr : g15 M ro v0 v1 v2 ⟨h, h.length, h.length⟩ = some r) : callX ⟨F, O⟩ ro 15 [v0, v1, v2] h = some r := by
  refine callX_of (F := ⟨F, O⟩) (fn := fn15) (g := g15 M ro v0 v1 v2) ho rfl rfl hr ?_
  clear ho
  clear hr
  intro m0 t0 ht hr
  have g0 : t0.get 0 = v0 := ht 0
  have g1 : t0.get 1 = v1 := ht 1
  have g2 : t0.get 2 = v2 := ht 2
  clear ht
  unfold g15 at hr
  refine w_seq ?_
  refine w_ops ?_
  refine wo_step (v := (.b false)) (s_pure (p_mv rfl)) ?_
  refine wo_nil ?_
  refine nx_norm ?_
  refine w_seq ?_
  refine w_ops ?_
  refine wo_step (v := v0) (s_pure (p_mv g0)) ?_
  have hq := bindO_inv hr
  clear hr
  obtain ⟨v8, e8, hr⟩ := hq
  have hq := asI_inv hr
  clear hr
  obtain ⟨x8, rfl, hr⟩ := hq
  refine wo_step (v := (.i .i64 x8)) (s_pure (o_len rfl e8)) ?_
  have hq := forceB_inv hr
  clear hr
  obtain ⟨c9, e9, hr⟩ := hq
  refine wo_step (v := (.b c9)) (s_pure (p_bin rfl rfl (b_leq.trans (cb e9)))) ?_
  refine wo_step (v := (.b c9)) (s_pure (p_mv rfl)) ?_
  have hq := bindO_inv hr
  clear hr
  obtain ⟨o, hr, hk⟩ := hq
  refine wo_join 4 (g15_J0 v2 m0 o) ?_ ?_
  · clear hk
    have hq := cond_inv hr
    clear hr
    rcases hq with ⟨rfl, hr⟩ | ⟨rfl, hr⟩
    · refine wo_take (v := v1) rfl (s_pure (p_mv g1)) ?_
      have hq := bindO_inv hr
      clear hr
      obtain ⟨v12, e12, hr⟩ := hq
      have hq := asI_inv hr
      clear hr
      obtain ⟨x12, rfl, hr⟩ := hq
      refine wo_take (v := (.i .i64 x12)) rfl (s_pure (o_len rfl e12)) ?_
      have hq := forceB_inv hr
      clear hr
      obtain ⟨c13, e13, hr⟩ := hq
      refine wo_take (v := (.b c13)) rfl (s_pure (p_bin rfl rfl (b_leq.trans (cb e13)))) ?_
      refine wo_step (v := (.b c13)) (s_pure (p_pickT rfl rfl)) ?_
      refine wo_nil ?_
      cases hr
      exact ⟨_, _, rfl, rfl, gl rfl, gl g2⟩
    · refine wo_skip (v := (.b false)) rfl rfl ?_
      refine wo_skip (v := (.b false)) rfl rfl ?_
      refine wo_skip (v := (.b false)) rfl rfl ?_
      refine wo_step (v := (.b false)) (s_pure (p_pickF rfl rfl)) ?_
      refine wo_nil ?_
      cases hr
      exact ⟨_, _, rfl, rfl, gl rfl, gl g2⟩
  · clear hr
    have hr := hk
    clear hk
    obtain ⟨c14, ho⟩ : ∃ z, z = o := ⟨_, rfl⟩
    subst ho
    rintro mm t_1 ⟨rfl, g14, g2⟩
    refine wo_step (v := (.b c14)) (s_pure (p_mv g14)) ?_
    have hq := bindO_inv hr
    clear hr
    obtain ⟨o_1, hr, hk⟩ := hq
    refine wo_join 4 (g15_J1 m0 o_1) ?_ ?_
    · clear hk
      have hq := cond_inv hr
      clear hr
      rcases hq with ⟨rfl, hr⟩ | ⟨rfl, hr⟩
      · refine wo_take (v := v2) rfl (s_pure (p_mv g2)) ?_
        have hq := bindO_inv hr
        clear hr
        obtain ⟨v17, e17, hr⟩ := hq
        have hq := asI_inv hr
        clear hr
        obtain ⟨x17, rfl, hr⟩ := hq
        refine wo_take (v := (.i .i64 x17)) rfl (s_pure (o_len rfl e17)) ?_
        have hq := forceB_inv hr
        clear hr
        obtain ⟨c18, e18, hr⟩ := hq
        refine wo_take (v := (.b c18)) rfl (s_pure (p_bin rfl rfl (b_leq.trans (cb e18)))) ?_
        refine wo_step (v := (.b c18)) (s_pure (p_pickT rfl rfl)) ?_
        refine wo_nil ?_
        cases hr
        exact ⟨_, _, rfl, rfl, gl rfl⟩
      · refine wo_skip (v := (.b false)) rfl rfl ?_
        refine wo_skip (v := (.b false)) rfl rfl ?_
        refine wo_skip (v := (.b false)) rfl rfl ?_
        refine wo_step (v := (.b false)) (s_pure (p_pickF rfl rfl)) ?_
        refine wo_nil ?_
        cases hr
        exact ⟨_, _, rfl, rfl, gl rfl⟩
    · clear hr
      have hr := hk
      clear hk
      obtain ⟨c19, ho⟩ : ∃ z, z = o_1 := ⟨_, rfl⟩
      subst ho
      rintro mm_1 t_2 ⟨rfl, g19⟩
      refine wo_step (v := (.b c19)) (s_pure (p_mv g19)) ?_
      refine wo_nil ?_
      refine nx_norm ?_
      refine w_ret ?_
      exact qf ret_ok (rt rfl rn) hr

/- dibber/turn.Plan -/
abbrev k17a0 : ACode := (.ops [(.mk (some 10) none (.pure (.mv (.t 23))))])
abbrev k17c0 : ACode := (.block 1 (.seq (.ops [(.mk (some 24) none (.pure (.mv (.t 10)))), (.mk none none (.st 1 (.t 6) (.t 24))), (.mk none none (.st 1 (.t 7) (.c (.i .i64 0))))]) .ret))
abbrev g17_P0 (v6 : AVal) (v7 : AVal) (t1 : Tr) : Prop := True ∧ t1.get 6 = v6 ∧ t1.get 7 = v7
def g17_r0 (M : Means) (ro : List ABlk) (v6 : AVal) (v7 : AVal) (b : Nat) (v23 : AVal) (m0 : Mm) : Option (AVal × Heap × Nat × Nat) :=
  bindO (rndB b m0) fun m_9 =>
  bindP (stepM ro m_9 (.st 1 (.c v6) (.c v23))) fun vn_3 m_10 =>
  bindP (stepM ro m_10 (.st 1 (.c v7) (.c (.i .i64 0)))) fun vn_4 m_11 =>
  rndE m0.h.length b .ret m_11
noncomputable def g17 (M : Means) (ro : List ABlk) (x0 : Int) (x1 : Int) (v2 : AVal) (m0 : Mm) : Option (AVal × Heap × Nat × Nat) :=
  bindP (stepM ro m0 (.al 25 [AVal.nsl])) fun v6 m_1 =>
  bindP (stepM ro m_1 (.al 26 [(AVal.i IntKind.i64 0)])) fun v7 m_2 =>
  bindP (callM M.call m_2 43 [(.i .i64 x0), (.i .i64 x1), v2]) fun v15 m_3 =>
  bindO (evP .e (.ext 0 (.c v15))) fun v16 =>
  bindO (evP .e (.ext 1 (.c v15))) fun v17 =>
  asI .i64 v17 fun x17 =>
  bindP (stepM ro m_3 (.al 55 [(AVal.i IntKind.i64 0), (AVal.i IntKind.i64 0), AVal.nsl])) fun v8 m_4 =>
  bindP (stepM ro m_4 (.st 3 (.c v8) (.c v16))) fun vn m_5 =>
  forceB (!eqI x17 0) fun c19 =>
  cond c19 (
    bindP (stepM ro m_5 (.st 1 (.c v6) (.c AVal.nsl))) fun vn_1 m_6 =>
    bindP (stepM ro m_6 (.st 1 (.c v7) (.c (.i .i64 x17)))) fun vn_2 m_7 =>
    bindO (ldM ro m_7 true 1 v6) fun vr =>
    bindO (ldM ro m_7 true 1 v7) fun vr_1 =>
    finM m0.h.length (tupA [vr, vr_1]) m_7) (
    bindO (ldM ro m_5 false 3 v8) fun v21 =>
    bindP (callM M.call m_5 44 [v21]) fun v22 m_8 =>
    bindO (rngP M.call (g17_P0 v6 v7) [23] k17a0 k17c0 v22 m_8) fun ⟨ex, m_12⟩ => onE ex (
      bindP (stepM ro m_12 (.st 1 (.c v6) (.c AVal.nsl))) fun vn_5 m_13 =>
      bindP (stepM ro m_13 (.st 1 (.c v7) (.c (.i .i64 10)))) fun vn_6 m_14 =>
      bindO (ldM ro m_14 true 1 v6) fun vr_2 =>
      bindO (ldM ro m_14 true 1 v7) fun vr_3 =>
      finM m0.h.length (tupA [vr_2, vr_3]) m_14) (
      bindO (ldM ro m_12 true 1 v6) fun vr_4 =>
      bindO (ldM ro m_12 true 1 v7) fun vr_5 =>
      finM m0.h.length (tupA [vr_4, vr_5]) m_12) (fun ix =>
      none))

theorem g17_r0_ok {ro : List ABlk} {O : Caller} {M : Means} (hM : M.Ok ⟨F, O⟩ ro) {v6} {v7} {v23} {b h r bk t p} (hb : lget h b = some (some bk)) (hg : bk.g = some (.lp ⟨t, [23], k17a0, k17c0⟩ .ready p)) (hP : g17_P0 v6 v7 t) (hr : g17_r0 M ro v6 v7 b v23 ⟨h, h.length, h.length⟩ = some r) : roundX ⟨F, O⟩ ro b [v23] h = some r := by
  refine roundX_on (F := ⟨F, O⟩) (g := g17_r0 M ro v6 v7 b v23) hb hg rfl hr ?_
  clear hb hg hr
  intro m0 t0 ht hr
  obtain ⟨-, g6, g7⟩ := hP
  have g23 : t0.get 23 = v23 := by rw [ht]; simp [putPs, get_set]
  have g6 : t0.get 6 = v6 := by rw [ht]; simp only [putPs, get_set]; simpa using g6
  have g7 : t0.get 7 = v7 := by rw [ht]; simp only [putPs, get_set]; simpa using g7
  clear ht
  unfold g17_r0 at hr
  show W _ _ k17a0 _ _
  unfold k17a0
  refine w_ops ?_
  refine wo_step (v := v23) (s_pure (p_mv g23)) ?_
  refine wo_nil ?_
  have hq := bindO_inv hr
  clear hr
  obtain ⟨m_9, eb, hr⟩ := hq
  refine qb eb ?_
  unfold k17c0
  refine w_block ?_
  refine w_seq ?_
  refine w_ops ?_
  refine wo_step (v := v23) (s_pure (p_mv rfl)) ?_
  have hq := bindP_inv hr
  clear hr
  obtain ⟨vn_3, m_10, en_3, hr⟩ := hq
  refine wo_stepN (s_st g6 rfl en_3) ?_
  have hq := bindP_inv hr
  clear hr
  obtain ⟨vn_4, m_11, en_4, hr⟩ := hq
  refine wo_stepN (s_st g7 rfl en_4) ?_
  refine wo_nil ?_
  refine nx_norm ?_
  refine w_ret ?_
  refine bk_ret ?_
  exact hr

theorem g17_ok {ro : List ABlk} {O : Caller} {M : Means} (hM : M.Ok ⟨F, O⟩ ro) {x0 x1 v2 h r} (ho : O 17 [(.i .i64 x0), (.i .i64 x1), v2] h = none) (hr : g17 M ro x0 x1 v2 ⟨h, h.length, h.length⟩ = some r) : callX ⟨F, O⟩ ro 17 [(.i .i64 x0), (.i .i64 x1), v2] h = some r := by
  refine callX_of (F := ⟨F, O⟩) (fn := fn17) (g := g17 M ro x0 x1 v2) ho rfl rfl hr ?_
  clear ho
  clear hr
  intro m0 t0 ht hr
  have g0 : t0.get 0 = (.i .i64 x0) := ht 0
  have g1 : t0.get 1 = (.i .i64 x1) := ht 1
  have g2 : t0.get 2 = v2 := ht 2
  clear ht
  unfold g17 at hr
  refine w_seq ?_
  refine w_ops ?_
  have hq := bindP_inv hr
  clear hr
  obtain ⟨v6, m_1, e6, hr⟩ := hq
  refine wo_step (v := v6) (s_al e6) ?_
  have hq := bindP_inv hr
  clear hr
  obtain ⟨v7, m_2, e7, hr⟩ := hq
  refine wo_step (v := v7) (s_al e7) ?_
  refine wo_nil ?_
  refine nx_norm ?_
  refine w_seq ?_
  refine w_ops ?_
  refine wo_step (v := (.i .i64 x0)) (s_pure (p_mv g0)) ?_
  refine wo_step (v := (.i .i64 x1)) (s_pure (p_mv g1)) ?_
  refine wo_step (v := v2) (s_pure (p_mv g2)) ?_
  have hq := bindP_inv hr
  clear hr
  obtain ⟨v15, m_3, e15, hr⟩ := hq
  refine wo_step (v := v15) (s_call (mc rfl (mc rfl (mc rfl mn))) (callM_le hM.call e15)) ?_
  refine wo_step (v := v15) (s_pure (p_mv rfl)) ?_
  have hq := bindO_inv hr
  clear hr
  obtain ⟨v16, e16, hr⟩ := hq
  refine wo_step (v := v16) (s_pure (o_ext rfl e16)) ?_
  have hq := bindO_inv hr
  clear hr
  obtain ⟨v17, e17, hr⟩ := hq
  have hq := asI_inv hr
  clear hr
  obtain ⟨x17, rfl, hr⟩ := hq
  refine wo_step (v := (.i .i64 x17)) (s_pure (o_ext rfl e17)) ?_
  have hq := bindP_inv hr
  clear hr
  obtain ⟨v8, m_4, e8, hr⟩ := hq
  refine wo_step (v := v8) (s_al e8) ?_
  have hq := bindP_inv hr
  clear hr
  obtain ⟨vn, m_5, en, hr⟩ := hq
  refine wo_stepN (s_st rfl rfl en) ?_
  refine wo_step (v := (.i .i64 x17)) (s_pure (p_mv rfl)) ?_
  refine wo_nil ?_
  refine nx_norm ?_
  refine w_seq ?_
  refine w_seq ?_
  refine w_ops ?_
  refine wo_step (v := (.i .i64 x17)) (s_pure (p_mv rfl)) ?_
  have hq := forceB_inv hr
  clear hr
  obtain ⟨c19, e19, hr⟩ := hq
  refine wo_step (v := (.b c19)) (s_pure (p_bin rfl rfl (b_neq.trans (cb e19)))) ?_
  refine wo_nil ?_
  refine nx_norm ?_
  have hq := cond_inv hr
  clear hr
  rcases hq with ⟨rfl, hr⟩ | ⟨rfl, hr⟩
  · refine w_condT rfl ?_
    refine w_seq ?_
    refine w_ops ?_
    refine wo_step (v := (.i .i64 x17)) (s_pure (p_mv rfl)) ?_
    have hq := bindP_inv hr
    clear hr
    obtain ⟨vn_1, m_6, en_1, hr⟩ := hq
    refine wo_stepN (s_st rfl rfl en_1) ?_
    have hq := bindP_inv hr
    clear hr
    obtain ⟨vn_2, m_7, en_2, hr⟩ := hq
    refine wo_stepN (s_st rfl rfl en_2) ?_
    refine wo_nil ?_
    refine nx_norm ?_
    refine w_ret ?_
    refine nx_ret ?_
    have hq := bindO_inv hr
    clear hr
    obtain ⟨vr, er, hr⟩ := hq
    have hq := bindO_inv hr
    clear hr
    obtain ⟨vr_1, er_1, hr⟩ := hq
    exact qf ret_ok (rc rfl er (rc rfl er_1 rn)) hr
  · refine w_condF rfl ?_
    refine w_skip ?_
    refine nx_norm ?_
    refine w_seq ?_
    refine w_seq ?_
    refine w_ops ?_
    have hq := bindO_inv hr
    clear hr
    obtain ⟨v21, e21, hr⟩ := hq
    refine wo_step (v := v21) (s_ld rfl e21) ?_
    have hq := bindP_inv hr
    clear hr
    obtain ⟨v22, m_8, e22, hr⟩ := hq
    refine wo_step (v := v22) (s_call (mc rfl mn) (callM_le hM.call e22)) ?_
    refine wo_nil ?_
    refine nx_norm ?_
    refine w_block ?_
    have hq := bindO_inv hr
    clear hr
    obtain ⟨⟨ex, m_12⟩, er_2, hr⟩ := hq
    refine w_rng hM.call rfl er_2 ⟨trivial, gl rfl, gl rfl⟩ ?_
    have hq := onE_inv hr
    clear hr
    rcases hq with ⟨rfl, hr⟩ | ⟨rfl, hr⟩ | ⟨ix, rfl, hr⟩
    · refine bk_norm ?_
      refine nx_norm ?_
      refine w_seq ?_
      refine w_ops ?_
      have hq := bindP_inv hr
      clear hr
      obtain ⟨vn_5, m_13, en_5, hr⟩ := hq
      refine wo_stepN (s_st rfl rfl en_5) ?_
      have hq := bindP_inv hr
      clear hr
      obtain ⟨vn_6, m_14, en_6, hr⟩ := hq
      refine wo_stepN (s_st rfl rfl en_6) ?_
      refine wo_nil ?_
      refine nx_norm ?_
      refine w_ret ?_
      have hq := bindO_inv hr
      clear hr
      obtain ⟨vr_2, er_3, hr⟩ := hq
      have hq := bindO_inv hr
      clear hr
      obtain ⟨vr_3, er_4, hr⟩ := hq
      exact qf ret_ok (rc rfl er_3 (rc rfl er_4 rn)) hr
    · refine bk_ret ?_
      refine nx_ret ?_
      have hq := bindO_inv hr
      clear hr
      obtain ⟨vr_4, er_5, hr⟩ := hq
      have hq := bindO_inv hr
      clear hr
      obtain ⟨vr_5, er_6, hr⟩ := hq
      exact qf ret_ok (rc rfl er_5 (rc rfl er_6 rn)) hr
    · cases hr

/- dibber/dibberref04.Spans -/
abbrev g20_J0 (x0 : Int) (x1 : Int) (v2 : AVal) (m0 : Mm) (o : Bool) (m1 : Mm) (t1 : Tr) : Prop :=
  match o with
  | c14 => m0 = m1 ∧ t1.get 14 = (.b c14) ∧ t1.get 0 = (.i .i64 x0) ∧ t1.get 1 = (.i .i64 x1) ∧ t1.get 2 = v2
abbrev g20_J1 (x0 : Int) (x1 : Int) (v2 : AVal) (m0 : Mm) (o : Bool) (m1 : Mm) (t1 : Tr) : Prop :=
  match o with
  | c18 => m0 = m1 ∧ t1.get 18 = (.b c18) ∧ t1.get 0 = (.i .i64 x0) ∧ t1.get 1 = (.i .i64 x1) ∧ t1.get 2 = v2
abbrev g20_J2 (x0 : Int) (x1 : Int) (v2 : AVal) (m0 : Mm) (o : Bool) (m1 : Mm) (t1 : Tr) : Prop :=
  match o with
  | c22 => m0 = m1 ∧ t1.get 22 = (.b c22) ∧ t1.get 0 = (.i .i64 x0) ∧ t1.get 1 = (.i .i64 x1) ∧ t1.get 2 = v2
abbrev g20_I3 (x0 : Int) (x1 : Int) (v2 : AVal) (s : Int × Mm) (m1 : Mm) (t1 : Tr) : Prop :=
  match s with
  | (x7, m_1) => m_1 = m1 ∧ t1.get 7 = (.i .i64 x7) ∧ t1.get 0 = (.i .i64 x0) ∧ t1.get 1 = (.i .i64 x1) ∧ t1.get 2 = v2
abbrev g20_J3 (x0 : Int) (x1 : Int) (v2 : AVal) (o : (Mm ⊕ (Int × Mm))) (e : AExit) (m1 : Mm) (t1 : Tr) : Prop :=
  match o with
  | (.inl mo) => e = (.exit 0) ∧ mo = m1
  | (.inr (y6, mo)) => e = .ret ∧ mo = m1 ∧ t1.get 6 = (.i .i64 y6)
abbrev g20_J4 (x0 : Int) (x1 : Int) (v2 : AVal) (x7 : Int) (v8 : AVal) (m_3 : Mm) (o : Bool) (m1 : Mm) (t1 : Tr) : Prop :=
  match o with
  | c44 => m_3 = m1 ∧ t1.get 44 = (.b c44) ∧ t1.get 0 = (.i .i64 x0) ∧ t1.get 1 = (.i .i64 x1) ∧ t1.get 2 = v2 ∧ t1.get 7 = (.i .i64 x7) ∧ t1.get 8 = v8
abbrev g20_J5 (x0 : Int) (x1 : Int) (v2 : AVal) (x7 : Int) (v8 : AVal) (m_3 : Mm) (o : Bool) (m1 : Mm) (t1 : Tr) : Prop :=
  match o with
  | c49 => m_3 = m1 ∧ t1.get 49 = (.b c49) ∧ t1.get 0 = (.i .i64 x0) ∧ t1.get 1 = (.i .i64 x1) ∧ t1.get 2 = v2 ∧ t1.get 7 = (.i .i64 x7) ∧ t1.get 8 = v8
abbrev g20_J6 (x0 : Int) (x1 : Int) (v2 : AVal) (x7 : Int) (v8 : AVal) (m_3 : Mm) (o : Bool) (m1 : Mm) (t1 : Tr) : Prop :=
  match o with
  | c55 => m_3 = m1 ∧ t1.get 55 = (.b c55) ∧ t1.get 0 = (.i .i64 x0) ∧ t1.get 1 = (.i .i64 x1) ∧ t1.get 2 = v2 ∧ t1.get 7 = (.i .i64 x7) ∧ t1.get 8 = v8
abbrev g20_J7 (x0 : Int) (x1 : Int) (v2 : AVal) (x7 : Int) (v8 : AVal) (m_3 : Mm) (o : Bool) (m1 : Mm) (t1 : Tr) : Prop :=
  match o with
  | c62 => m_3 = m1 ∧ t1.get 62 = (.b c62) ∧ t1.get 0 = (.i .i64 x0) ∧ t1.get 1 = (.i .i64 x1) ∧ t1.get 2 = v2 ∧ t1.get 7 = (.i .i64 x7) ∧ t1.get 8 = v8
abbrev g20_J8 (x0 : Int) (x1 : Int) (v2 : AVal) (x7 : Int) (v8 : AVal) (m_3 : Mm) (o : Bool) (m1 : Mm) (t1 : Tr) : Prop :=
  match o with
  | c67 => m_3 = m1 ∧ t1.get 67 = (.b c67) ∧ t1.get 0 = (.i .i64 x0) ∧ t1.get 1 = (.i .i64 x1) ∧ t1.get 2 = v2 ∧ t1.get 7 = (.i .i64 x7) ∧ t1.get 8 = v8
abbrev g20_J9 (x0 : Int) (x1 : Int) (v2 : AVal) (x7 : Int) (v8 : AVal) (m_3 : Mm) (o : Bool) (m1 : Mm) (t1 : Tr) : Prop :=
  match o with
  | c72 => m_3 = m1 ∧ t1.get 72 = (.b c72) ∧ t1.get 0 = (.i .i64 x0) ∧ t1.get 1 = (.i .i64 x1) ∧ t1.get 2 = v2 ∧ t1.get 7 = (.i .i64 x7) ∧ t1.get 8 = v8
abbrev g20_J10 (x0 : Int) (x1 : Int) (v2 : AVal) (x7 : Int) (v8 : AVal) (m_3 : Mm) (o : Bool) (m1 : Mm) (t1 : Tr) : Prop :=
  match o with
  | c79 => m_3 = m1 ∧ t1.get 79 = (.b c79) ∧ t1.get 0 = (.i .i64 x0) ∧ t1.get 1 = (.i .i64 x1) ∧ t1.get 2 = v2 ∧ t1.get 7 = (.i .i64 x7) ∧ t1.get 8 = v8
abbrev g20_J11 (x0 : Int) (x1 : Int) (v2 : AVal) (x7 : Int) (m_3 : Mm) (o : Bool) (m1 : Mm) (t1 : Tr) : Prop :=
  match o with
  | c89 => m_3 = m1 ∧ t1.get 89 = (.b c89) ∧ t1.get 0 = (.i .i64 x0) ∧ t1.get 1 = (.i .i64 x1) ∧ t1.get 2 = v2 ∧ t1.get 7 = (.i .i64 x7)
def g20_b3 (M : Means) (ro : List ABlk) (x0 : Int) (x1 : Int) (v2 : AVal) (x7 : Int) (m_1 : Mm) : Option ((Int × Mm) ⊕ ((Mm ⊕ (Int × Mm)))) :=
  bindO (evP .e (.len false (.c v2))) fun v28 =>
  asI .i64 v28 fun x28 =>
  forceB (ltI x7 x28) fun c29 =>
  cond c29 (
    bindO (evP .e (.ixS 4 (.c v2) (.c (.i .i64 x7)))) fun v34 =>
    bindO (ldM ro m_1 false 4 v34) fun v35 =>
    bindP (stepM ro m_1 (.al 31 [(AVal.i IntKind.i64 0), (AVal.i IntKind.i64 0), (AVal.i IntKind.i64 0), (AVal.i IntKind.i64 0)])) fun v8 m_2 =>
    bindP (stepM ro m_2 (.st 4 (.c v8) (.c v35))) fun vn m_3 =>
    bindO (evP .e (.faddr 0 (.c v8))) fun v36 =>
    bindO (ldM ro m_3 true 1 v36) fun v37 =>
    asI .i64 v37 fun x37 =>
    forceB (ltI x37 0) fun c38 =>
    bindO (cond c38 (
      some true) (
      bindO (evP .e (.faddr 0 (.c v8))) fun v40 =>
      bindO (ldM ro m_3 true 1 v40) fun v41 =>
      asI .i64 v41 fun x41 =>
      forceB (!ltI x41 x1) fun c43 =>
      some c43)) fun c44 =>
    bindO (cond c44 (
      some true) (
      bindO (evP .e (.faddr 1 (.c v8))) fun v46 =>
      bindO (ldM ro m_3 true 1 v46) fun v47 =>
      asI .i64 v47 fun x47 =>
      forceB (ltI x47 0) fun c48 =>
      some c48)) fun c49 =>
    bindO (cond c49 (
      some true) (
      bindO (evP .e (.faddr 1 (.c v8))) fun v51 =>
      bindO (ldM ro m_3 true 1 v51) fun v52 =>
      asI .i64 v52 fun x52 =>
      forceB (!ltI x52 x1) fun c54 =>
      some c54)) fun c55 =>
    bindO (cond c55 (
      some true) (
      bindO (evP .e (.faddr 0 (.c v8))) fun v57 =>
      bindO (ldM ro m_3 true 1 v57) fun v58 =>
      asI .i64 v58 fun x58 =>
      bindO (evP .e (.faddr 1 (.c v8))) fun v59 =>
      bindO (ldM ro m_3 true 1 v59) fun v60 =>
      asI .i64 v60 fun x60 =>
      forceB (eqI x58 x60) fun c61 =>
      some c61)) fun c62 =>
    bindO (cond c62 (
      some true) (
      bindO (evP .e (.faddr 2 (.c v8))) fun v64 =>
      bindO (ldM ro m_3 true 1 v64) fun v65 =>
      asI .i64 v65 fun x65 =>
      forceB (ltI x65 (-600)) fun c66 =>
      some c66)) fun c67 =>
    bindO (cond c67 (
      some true) (
      bindO (evP .e (.faddr 2 (.c v8))) fun v69 =>
      bindO (ldM ro m_3 true 1 v69) fun v70 =>
      asI .i64 v70 fun x70 =>
      forceB (ltI 600 x70) fun c71 =>
      some c71)) fun c72 =>
    bindO (cond c72 (
      some true) (
      bindO (evP .e (.faddr 3 (.c v8))) fun v74 =>
      bindO (ldM ro m_3 true 1 v74) fun v75 =>
      asI .i64 v75 fun x75 =>
      bindO (evP .e (.faddr 2 (.c v8))) fun v76 =>
      bindO (ldM ro m_3 true 1 v76) fun v77 =>
      asI .i64 v77 fun x77 =>
      forceB (ltI x75 x77) fun c78 =>
      some c78)) fun c79 =>
    bindO (cond c79 (
      some true) (
      bindO (evP .e (.faddr 3 (.c v8))) fun v81 =>
      bindO (ldM ro m_3 true 1 v81) fun v82 =>
      asI .i64 v82 fun x82 =>
      bindO (evP .e (.faddr 2 (.c v8))) fun v83 =>
      bindO (ldM ro m_3 true 1 v83) fun v84 =>
      asI .i64 v84 fun x84 =>
      forceI (wr .i64 (x84 + x0)) fun x86 =>
      forceI (wr .i64 (x86 - 1)) fun x87 =>
      forceB (ltI x87 x82) fun c88 =>
      some c88)) fun c89 =>
    cond c89 (
      some (.inr (.inr (2, m_3)))) (
      forceI (wr .i64 (x7 + 1)) fun x31 =>
      some (.inl (x31, m_3)))) (
    some (.inr (.inl m_1)))
def g20 (M : Means) (ro : List ABlk) (x0 : Int) (x1 : Int) (v2 : AVal) (m0 : Mm) : Option (AVal × Heap × Nat × Nat) :=
  forceB (ltI x0 1) fun c10 =>
  bindO (cond c10 (
    some true) (
    forceB (ltI 24 x0) fun c13 =>
    some c13)) fun c14 =>
  bindO (cond c14 (
    some true) (
    forceB (ltI x1 1) fun c17 =>
    some c17)) fun c18 =>
  bindO (cond c18 (
    some true) (
    forceB (ltI 6 x1) fun c21 =>
    some c21)) fun c22 =>
  cond c22 (
    finM m0.h.length (tupA [(.i .i64 2)]) m0) (
    bindO (evP .e (.len false (.c v2))) fun v24 =>
    asI .i64 v24 fun x24 =>
    forceB (ltI 20 x24) fun c25 =>
    cond c25 (
      finM m0.h.length (tupA [(.i .i64 3)]) m0) (
      bindO (M.loop (S := Int × Mm) (R := (Mm ⊕ (Int × Mm))) (fun s => g20_b3 M ro x0 x1 v2 s.1 s.2) (0, m0)) fun o_11 => match o_11 with
      | (.inl m_4) =>
        finM m0.h.length (tupA [(.i .i64 0)]) m_4
      | (.inr (x6, m_5)) =>
        finM m0.h.length (tupA [(.i .i64 x6)]) m_5))

theorem g20_ok {ro : List ABlk} {O : Caller} {M : Means} (hM : M.Ok ⟨F, O⟩ ro) {x0 x1 v2 h r} (ho : O 20 [(.i .i64 x0), (.i .i64 x1), v2] h = none) (hr : g20 M ro x0 x1 v2 ⟨h, h.length, h.length⟩ = some r) : callX ⟨F, O⟩ ro 20 [(.i .i64 x0), (.i .i64 x1), v2] h = some r := by
  refine callX_of (F := ⟨F, O⟩) (fn := fn20) (g := g20 M ro x0 x1 v2) ho rfl rfl hr ?_
  clear ho
  clear hr
  intro m0 t0 ht hr
  have g0 : t0.get 0 = (.i .i64 x0) := ht 0
  have g1 : t0.get 1 = (.i .i64 x1) := ht 1
  have g2 : t0.get 2 = v2 := ht 2
  clear ht
  unfold g20 at hr
  refine w_seq ?_
  refine w_ops ?_
  refine wo_step (v := (.i .i64 0)) (s_pure (p_mv rfl)) ?_
  refine wo_nil ?_
  refine nx_norm ?_
  refine w_seq ?_
  refine w_seq ?_
  refine w_ops ?_
  refine wo_step (v := (.i .i64 x0)) (s_pure (p_mv g0)) ?_
  have hq := forceB_inv hr
  clear hr
  obtain ⟨c10, e10, hr⟩ := hq
  refine wo_step (v := (.b c10)) (s_pure (p_bin rfl rfl (b_lss.trans (cb e10)))) ?_
  refine wo_step (v := (.b c10)) (s_pure (p_mv rfl)) ?_
  have hq := bindO_inv hr
  clear hr
  obtain ⟨o, hr, hk⟩ := hq
  refine wo_join 3 (g20_J0 x0 x1 v2 m0 o) ?_ ?_
  · clear hk
    have hq := cond_inv hr
    clear hr
    rcases hq with ⟨rfl, hr⟩ | ⟨rfl, hr⟩
    · refine wo_skip (v := (.b true)) rfl rfl ?_
      refine wo_skip (v := (.b true)) rfl rfl ?_
      refine wo_step (v := (.b true)) (s_pure (p_pickT rfl rfl)) ?_
      refine wo_nil ?_
      cases hr
      exact ⟨_, _, rfl, rfl, gl rfl, gl g0, gl g1, gl g2⟩
    · refine wo_take (v := (.i .i64 x0)) rfl (s_pure (p_mv g0)) ?_
      have hq := forceB_inv hr
      clear hr
      obtain ⟨c13, e13, hr⟩ := hq
      refine wo_take (v := (.b c13)) rfl (s_pure (p_bin rfl rfl (b_gtr.trans (cb e13)))) ?_
      refine wo_step (v := (.b c13)) (s_pure (p_pickF rfl rfl)) ?_
      refine wo_nil ?_
      cases hr
      exact ⟨_, _, rfl, rfl, gl rfl, gl g0, gl g1, gl g2⟩
  · clear hr
    have hr := hk
    clear hk
    obtain ⟨c14, ho⟩ : ∃ z, z = o := ⟨_, rfl⟩
    subst ho
    rintro mm t_1 ⟨rfl, g14, g0, g1, g2⟩
    refine wo_step (v := (.b c14)) (s_pure (p_mv g14)) ?_
    have hq := bindO_inv hr
    clear hr
    obtain ⟨o_1, hr, hk⟩ := hq
    refine wo_join 3 (g20_J1 x0 x1 v2 m0 o_1) ?_ ?_
    · clear hk
      have hq := cond_inv hr
      clear hr
      rcases hq with ⟨rfl, hr⟩ | ⟨rfl, hr⟩
      · refine wo_skip (v := (.b true)) rfl rfl ?_
        refine wo_skip (v := (.b true)) rfl rfl ?_
        refine wo_step (v := (.b true)) (s_pure (p_pickT rfl rfl)) ?_
        refine wo_nil ?_
        cases hr
        exact ⟨_, _, rfl, rfl, gl rfl, gl g0, gl g1, gl g2⟩
      · refine wo_take (v := (.i .i64 x1)) rfl (s_pure (p_mv g1)) ?_
        have hq := forceB_inv hr
        clear hr
        obtain ⟨c17, e17, hr⟩ := hq
        refine wo_take (v := (.b c17)) rfl (s_pure (p_bin rfl rfl (b_lss.trans (cb e17)))) ?_
        refine wo_step (v := (.b c17)) (s_pure (p_pickF rfl rfl)) ?_
        refine wo_nil ?_
        cases hr
        exact ⟨_, _, rfl, rfl, gl rfl, gl g0, gl g1, gl g2⟩
    · clear hr
      have hr := hk
      clear hk
      obtain ⟨c18, ho⟩ : ∃ z, z = o_1 := ⟨_, rfl⟩
      subst ho
      rintro mm_1 t_2 ⟨rfl, g18, g0, g1, g2⟩
      refine wo_step (v := (.b c18)) (s_pure (p_mv g18)) ?_
      have hq := bindO_inv hr
      clear hr
      obtain ⟨o_2, hr, hk⟩ := hq
      refine wo_join 3 (g20_J2 x0 x1 v2 m0 o_2) ?_ ?_
      · clear hk
        have hq := cond_inv hr
        clear hr
        rcases hq with ⟨rfl, hr⟩ | ⟨rfl, hr⟩
        · refine wo_skip (v := (.b true)) rfl rfl ?_
          refine wo_skip (v := (.b true)) rfl rfl ?_
          refine wo_step (v := (.b true)) (s_pure (p_pickT rfl rfl)) ?_
          refine wo_nil ?_
          cases hr
          exact ⟨_, _, rfl, rfl, gl rfl, gl g0, gl g1, gl g2⟩
        · refine wo_take (v := (.i .i64 x1)) rfl (s_pure (p_mv g1)) ?_
          have hq := forceB_inv hr
          clear hr
          obtain ⟨c21, e21, hr⟩ := hq
          refine wo_take (v := (.b c21)) rfl (s_pure (p_bin rfl rfl (b_gtr.trans (cb e21)))) ?_
          refine wo_step (v := (.b c21)) (s_pure (p_pickF rfl rfl)) ?_
          refine wo_nil ?_
          cases hr
          exact ⟨_, _, rfl, rfl, gl rfl, gl g0, gl g1, gl g2⟩
      · clear hr
        have hr := hk
        clear hk
        obtain ⟨c22, ho⟩ : ∃ z, z = o_2 := ⟨_, rfl⟩
        subst ho
        rintro mm_2 t_3 ⟨rfl, g22, g0, g1, g2⟩
        refine wo_nil ?_
        refine nx_norm ?_
        have hq := cond_inv hr
        clear hr
        rcases hq with ⟨rfl, hr⟩ | ⟨rfl, hr⟩
        · refine w_condT g22 ?_
          refine w_seq ?_
          refine w_ops ?_
          refine wo_step (v := (.i .i64 2)) (s_pure (p_mv rfl)) ?_
          refine wo_nil ?_
          refine nx_norm ?_
          refine w_ret ?_
          refine nx_ret ?_
          exact qf ret_ok (rt rfl rn) hr
        · refine w_condF g22 ?_
          refine w_skip ?_
          refine nx_norm ?_
          refine w_seq ?_
          refine w_seq ?_
          refine w_ops ?_
          refine wo_step (v := v2) (s_pure (p_mv g2)) ?_
          have hq := bindO_inv hr
          clear hr
          obtain ⟨v24, e24, hr⟩ := hq
          have hq := asI_inv hr
          clear hr
          obtain ⟨x24, rfl, hr⟩ := hq
          refine wo_step (v := (.i .i64 x24)) (s_pure (o_len rfl e24)) ?_
          have hq := forceB_inv hr
          clear hr
          obtain ⟨c25, e25, hr⟩ := hq
          refine wo_step (v := (.b c25)) (s_pure (p_bin rfl rfl (b_gtr.trans (cb e25)))) ?_
          refine wo_nil ?_
          refine nx_norm ?_
          have hq := cond_inv hr
          clear hr
          rcases hq with ⟨rfl, hr⟩ | ⟨rfl, hr⟩
          · refine w_condT rfl ?_
            refine w_seq ?_
            refine w_ops ?_
            refine wo_step (v := (.i .i64 3)) (s_pure (p_mv rfl)) ?_
            refine wo_nil ?_
            refine nx_norm ?_
            refine w_ret ?_
            refine nx_ret ?_
            exact qf ret_ok (rt rfl rn) hr
          · refine w_condF rfl ?_
            refine w_skip ?_
            refine nx_norm ?_
            refine w_seq ?_
            refine w_seq ?_
            refine w_ops ?_
            refine wo_step (v := (.i .i64 0)) (s_pure (p_mv rfl)) ?_
            refine wo_nil ?_
            refine nx_norm ?_
            refine w_block ?_
            have hq := bindO_inv hr
            clear hr
            obtain ⟨o_11, hl, hr⟩ := hq
            obtain ⟨n, hl⟩ := hM.loop _ _ _ hl
            refine jp_mono (w_loop _ (g20_I3 x0 x1 v2) (g20_J3 x0 x1 v2) ?_ n _ _ _ _ hl ⟨rfl, gl rfl, gl g0, gl g1, gl g2⟩) ?_
            · clear hr hl
              intro s mm_13 t_4 o hi hr
              obtain ⟨x7, m_1⟩ := s
              obtain ⟨rfl, g7, g0, g1, g2⟩ := hi
              unfold g20_b3 at hr
              refine w_seq ?_
              refine w_seq ?_
              refine w_ops ?_
              refine wo_step (v := (.i .i64 x7)) (s_pure (p_mv g7)) ?_
              refine wo_step (v := v2) (s_pure (p_mv g2)) ?_
              have hq := bindO_inv hr
              clear hr
              obtain ⟨v28, e28, hr⟩ := hq
              have hq := asI_inv hr
              clear hr
              obtain ⟨x28, rfl, hr⟩ := hq
              refine wo_step (v := (.i .i64 x28)) (s_pure (o_len rfl e28)) ?_
              have hq := forceB_inv hr
              clear hr
              obtain ⟨c29, e29, hr⟩ := hq
              refine wo_step (v := (.b c29)) (s_pure (p_bin rfl rfl (b_lss.trans (cb e29)))) ?_
              refine wo_nil ?_
              refine nx_norm ?_
              have hq := cond_inv hr
              clear hr
              rcases hq with ⟨rfl, hr⟩ | ⟨rfl, hr⟩
              · refine w_condT rfl ?_
                refine w_skip ?_
                refine nx_norm ?_
                refine w_seq ?_
                refine w_block ?_
                refine w_seq ?_
                refine w_ops ?_
                refine wo_step (v := v2) (s_pure (p_mv g2)) ?_
                refine wo_step (v := (.i .i64 x7)) (s_pure (p_mv g7)) ?_
                have hq := bindO_inv hr
                clear hr
                obtain ⟨v34, e34, hr⟩ := hq
                refine wo_step (v := v34) (s_pure (o_ixS rfl rfl e34)) ?_
                have hq := bindO_inv hr
                clear hr
                obtain ⟨v35, e35, hr⟩ := hq
                refine wo_step (v := v35) (s_ld rfl e35) ?_
                have hq := bindP_inv hr
                clear hr
                obtain ⟨v8, m_2, e8, hr⟩ := hq
                refine wo_step (v := v8) (s_al e8) ?_
                have hq := bindP_inv hr
                clear hr
                obtain ⟨vn, m_3, en, hr⟩ := hq
                refine wo_stepN (s_st rfl rfl en) ?_
                refine wo_nil ?_
                refine nx_norm ?_
                refine w_seq ?_
                refine w_ops ?_
                have hq := bindO_inv hr
                clear hr
                obtain ⟨v36, e36, hr⟩ := hq
                refine wo_step (v := v36) (s_pure (o_faddr rfl e36)) ?_
                have hq := bindO_inv hr
                clear hr
                obtain ⟨v37, e37, hr⟩ := hq
                have hq := asI_inv hr
                clear hr
                obtain ⟨x37, rfl, hr⟩ := hq
                refine wo_step (v := (.i .i64 x37)) (s_ld rfl e37) ?_
                have hq := forceB_inv hr
                clear hr
                obtain ⟨c38, e38, hr⟩ := hq
                refine wo_step (v := (.b c38)) (s_pure (p_bin rfl rfl (b_lss.trans (cb e38)))) ?_
                refine wo_step (v := (.b c38)) (s_pure (p_mv rfl)) ?_
                have hq := bindO_inv hr
                clear hr
                obtain ⟨o_3, hr, hk⟩ := hq
                refine wo_join 5 (g20_J4 x0 x1 v2 x7 v8 m_3 o_3) ?_ ?_
                · clear hk
                  have hq := cond_inv hr
                  clear hr
                  rcases hq with ⟨rfl, hr⟩ | ⟨rfl, hr⟩
                  · refine wo_skip (v := (.b true)) rfl rfl ?_
                    refine wo_skip (v := (.b true)) rfl rfl ?_
                    refine wo_skip (v := (.b true)) rfl rfl ?_
                    refine wo_skip (v := (.b true)) rfl rfl ?_
                    refine wo_step (v := (.b true)) (s_pure (p_pickT rfl rfl)) ?_
                    refine wo_nil ?_
                    cases hr
                    exact ⟨_, _, rfl, rfl, gl rfl, gl g0, gl g1, gl g2, gl g7, gl rfl⟩
                  · have hq := bindO_inv hr
                    clear hr
                    obtain ⟨v40, e40, hr⟩ := hq
                    refine wo_take (v := v40) rfl (s_pure (o_faddr rfl e40)) ?_
                    have hq := bindO_inv hr
                    clear hr
                    obtain ⟨v41, e41, hr⟩ := hq
                    have hq := asI_inv hr
                    clear hr
                    obtain ⟨x41, rfl, hr⟩ := hq
                    refine wo_take (v := (.i .i64 x41)) rfl (s_ld rfl e41) ?_
                    refine wo_take (v := (.i .i64 x1)) rfl (s_pure (p_mv g1)) ?_
                    have hq := forceB_inv hr
                    clear hr
                    obtain ⟨c43, e43, hr⟩ := hq
                    refine wo_take (v := (.b c43)) rfl (s_pure (p_bin rfl rfl (b_geq.trans (cb e43)))) ?_
                    refine wo_step (v := (.b c43)) (s_pure (p_pickF rfl rfl)) ?_
                    refine wo_nil ?_
                    cases hr
                    exact ⟨_, _, rfl, rfl, gl rfl, gl g0, gl g1, gl g2, gl g7, gl rfl⟩
                · clear hr
                  have hr := hk
                  clear hk
                  obtain ⟨c44, ho⟩ : ∃ z, z = o_3 := ⟨_, rfl⟩
                  subst ho
                  rintro mm_3 t_5 ⟨rfl, g44, g0, g1, g2, g7, g8⟩
                  refine wo_step (v := (.b c44)) (s_pure (p_mv g44)) ?_
                  have hq := bindO_inv hr
                  clear hr
                  obtain ⟨o_4, hr, hk⟩ := hq
                  refine wo_join 4 (g20_J5 x0 x1 v2 x7 v8 m_3 o_4) ?_ ?_
                  · clear hk
                    have hq := cond_inv hr
                    clear hr
                    rcases hq with ⟨rfl, hr⟩ | ⟨rfl, hr⟩
                    · refine wo_skip (v := (.b true)) rfl rfl ?_
                      refine wo_skip (v := (.b true)) rfl rfl ?_
                      refine wo_skip (v := (.b true)) rfl rfl ?_
                      refine wo_step (v := (.b true)) (s_pure (p_pickT rfl rfl)) ?_
                      refine wo_nil ?_
                      cases hr
                      exact ⟨_, _, rfl, rfl, gl rfl, gl g0, gl g1, gl g2, gl g7, gl g8⟩
                    · have hq := bindO_inv hr
                      clear hr
                      obtain ⟨v46, e46, hr⟩ := hq
                      refine wo_take (v := v46) rfl (s_pure (o_faddr g8 e46)) ?_
                      have hq := bindO_inv hr
                      clear hr
                      obtain ⟨v47, e47, hr⟩ := hq
                      have hq := asI_inv hr
                      clear hr
                      obtain ⟨x47, rfl, hr⟩ := hq
                      refine wo_take (v := (.i .i64 x47)) rfl (s_ld rfl e47) ?_
                      have hq := forceB_inv hr
                      clear hr
                      obtain ⟨c48, e48, hr⟩ := hq
                      refine wo_take (v := (.b c48)) rfl (s_pure (p_bin rfl rfl (b_lss.trans (cb e48)))) ?_
                      refine wo_step (v := (.b c48)) (s_pure (p_pickF rfl rfl)) ?_
                      refine wo_nil ?_
                      cases hr
                      exact ⟨_, _, rfl, rfl, gl rfl, gl g0, gl g1, gl g2, gl g7, gl g8⟩
                  · clear hr
                    have hr := hk
                    clear hk
                    obtain ⟨c49, ho⟩ : ∃ z, z = o_4 := ⟨_, rfl⟩
                    subst ho
                    rintro mm_4 t_6 ⟨rfl, g49, g0, g1, g2, g7, g8⟩
                    refine wo_step (v := (.b c49)) (s_pure (p_mv g49)) ?_
                    have hq := bindO_inv hr
                    clear hr
                    obtain ⟨o_5, hr, hk⟩ := hq
                    refine wo_join 5 (g20_J6 x0 x1 v2 x7 v8 m_3 o_5) ?_ ?_
                    · clear hk
                      have hq := cond_inv hr
                      clear hr
                      rcases hq with ⟨rfl, hr⟩ | ⟨rfl, hr⟩
                      · refine wo_skip (v := (.b true)) rfl rfl ?_
                        refine wo_skip (v := (.b true)) rfl rfl ?_
                        refine wo_skip (v := (.b true)) rfl rfl ?_
                        refine wo_skip (v := (.b true)) rfl rfl ?_
                        refine wo_step (v := (.b true)) (s_pure (p_pickT rfl rfl)) ?_
                        refine wo_nil ?_
                        cases hr
                        exact ⟨_, _, rfl, rfl, gl rfl, gl g0, gl g1, gl g2, gl g7, gl g8⟩
                      · have hq := bindO_inv hr
                        clear hr
                        obtain ⟨v51, e51, hr⟩ := hq
                        refine wo_take (v := v51) rfl (s_pure (o_faddr g8 e51)) ?_
                        have hq := bindO_inv hr
                        clear hr
                        obtain ⟨v52, e52, hr⟩ := hq
                        have hq := asI_inv hr
                        clear hr
                        obtain ⟨x52, rfl, hr⟩ := hq
                        refine wo_take (v := (.i .i64 x52)) rfl (s_ld rfl e52) ?_
                        refine wo_take (v := (.i .i64 x1)) rfl (s_pure (p_mv g1)) ?_
                        have hq := forceB_inv hr
                        clear hr
                        obtain ⟨c54, e54, hr⟩ := hq
                        refine wo_take (v := (.b c54)) rfl (s_pure (p_bin rfl rfl (b_geq.trans (cb e54)))) ?_
                        refine wo_step (v := (.b c54)) (s_pure (p_pickF rfl rfl)) ?_
                        refine wo_nil ?_
                        cases hr
                        exact ⟨_, _, rfl, rfl, gl rfl, gl g0, gl g1, gl g2, gl g7, gl g8⟩
                    · clear hr
                      have hr := hk
                      clear hk
                      obtain ⟨c55, ho⟩ : ∃ z, z = o_5 := ⟨_, rfl⟩
                      subst ho
                      rintro mm_5 t_7 ⟨rfl, g55, g0, g1, g2, g7, g8⟩
                      refine wo_step (v := (.b c55)) (s_pure (p_mv g55)) ?_
                      have hq := bindO_inv hr
                      clear hr
                      obtain ⟨o_6, hr, hk⟩ := hq
                      refine wo_join 6 (g20_J7 x0 x1 v2 x7 v8 m_3 o_6) ?_ ?_
                      · clear hk
                        have hq := cond_inv hr
                        clear hr
                        rcases hq with ⟨rfl, hr⟩ | ⟨rfl, hr⟩
                        · refine wo_skip (v := (.b true)) rfl rfl ?_
                          refine wo_skip (v := (.b true)) rfl rfl ?_
                          refine wo_skip (v := (.b true)) rfl rfl ?_
                          refine wo_skip (v := (.b true)) rfl rfl ?_
                          refine wo_skip (v := (.b true)) rfl rfl ?_
                          refine wo_step (v := (.b true)) (s_pure (p_pickT rfl rfl)) ?_
                          refine wo_nil ?_
                          cases hr
                          exact ⟨_, _, rfl, rfl, gl rfl, gl g0, gl g1, gl g2, gl g7, gl g8⟩
                        · have hq := bindO_inv hr
                          clear hr
                          obtain ⟨v57, e57, hr⟩ := hq
                          refine wo_take (v := v57) rfl (s_pure (o_faddr g8 e57)) ?_
                          have hq := bindO_inv hr
                          clear hr
                          obtain ⟨v58, e58, hr⟩ := hq
                          have hq := asI_inv hr
                          clear hr
                          obtain ⟨x58, rfl, hr⟩ := hq
                          refine wo_take (v := (.i .i64 x58)) rfl (s_ld rfl e58) ?_
                          have hq := bindO_inv hr
                          clear hr
                          obtain ⟨v59, e59, hr⟩ := hq
                          refine wo_take (v := v59) rfl (s_pure (o_faddr g8 e59)) ?_
                          have hq := bindO_inv hr
                          clear hr
                          obtain ⟨v60, e60, hr⟩ := hq
                          have hq := asI_inv hr
                          clear hr
                          obtain ⟨x60, rfl, hr⟩ := hq
                          refine wo_take (v := (.i .i64 x60)) rfl (s_ld rfl e60) ?_
                          have hq := forceB_inv hr
                          clear hr
                          obtain ⟨c61, e61, hr⟩ := hq
                          refine wo_take (v := (.b c61)) rfl (s_pure (p_bin rfl rfl (b_eql.trans (cb e61)))) ?_
                          refine wo_step (v := (.b c61)) (s_pure (p_pickF rfl rfl)) ?_
                          refine wo_nil ?_
                          cases hr
                          exact ⟨_, _, rfl, rfl, gl rfl, gl g0, gl g1, gl g2, gl g7, gl g8⟩
                      · clear hr
                        have hr := hk
                        clear hk
                        obtain ⟨c62, ho⟩ : ∃ z, z = o_6 := ⟨_, rfl⟩
                        subst ho
                        rintro mm_6 t_8 ⟨rfl, g62, g0, g1, g2, g7, g8⟩
                        refine wo_step (v := (.b c62)) (s_pure (p_mv g62)) ?_
                        have hq := bindO_inv hr
                        clear hr
                        obtain ⟨o_7, hr, hk⟩ := hq
                        refine wo_join 4 (g20_J8 x0 x1 v2 x7 v8 m_3 o_7) ?_ ?_
                        · clear hk
                          have hq := cond_inv hr
                          clear hr
                          rcases hq with ⟨rfl, hr⟩ | ⟨rfl, hr⟩
                          · refine wo_skip (v := (.b true)) rfl rfl ?_
                            refine wo_skip (v := (.b true)) rfl rfl ?_
                            refine wo_skip (v := (.b true)) rfl rfl ?_
                            refine wo_step (v := (.b true)) (s_pure (p_pickT rfl rfl)) ?_
                            refine wo_nil ?_
                            cases hr
                            exact ⟨_, _, rfl, rfl, gl rfl, gl g0, gl g1, gl g2, gl g7, gl g8⟩
                          · have hq := bindO_inv hr
                            clear hr
                            obtain ⟨v64, e64, hr⟩ := hq
                            refine wo_take (v := v64) rfl (s_pure (o_faddr g8 e64)) ?_
                            have hq := bindO_inv hr
                            clear hr
                            obtain ⟨v65, e65, hr⟩ := hq
                            have hq := asI_inv hr
                            clear hr
                            obtain ⟨x65, rfl, hr⟩ := hq
                            refine wo_take (v := (.i .i64 x65)) rfl (s_ld rfl e65) ?_
                            have hq := forceB_inv hr
                            clear hr
                            obtain ⟨c66, e66, hr⟩ := hq
                            refine wo_take (v := (.b c66)) rfl (s_pure (p_bin rfl rfl (b_lss.trans (cb e66)))) ?_
                            refine wo_step (v := (.b c66)) (s_pure (p_pickF rfl rfl)) ?_
                            refine wo_nil ?_
                            cases hr
                            exact ⟨_, _, rfl, rfl, gl rfl, gl g0, gl g1, gl g2, gl g7, gl g8⟩
                        · clear hr
                          have hr := hk
                          clear hk
                          obtain ⟨c67, ho⟩ : ∃ z, z = o_7 := ⟨_, rfl⟩
                          subst ho
                          rintro mm_7 t_9 ⟨rfl, g67, g0, g1, g2, g7, g8⟩
                          refine wo_step (v := (.b c67)) (s_pure (p_mv g67)) ?_
                          have hq := bindO_inv hr
                          clear hr
                          obtain ⟨o_8, hr, hk⟩ := hq
                          refine wo_join 4 (g20_J9 x0 x1 v2 x7 v8 m_3 o_8) ?_ ?_
                          · clear hk
                            have hq := cond_inv hr
                            clear hr
                            rcases hq with ⟨rfl, hr⟩ | ⟨rfl, hr⟩
                            · refine wo_skip (v := (.b true)) rfl rfl ?_
                              refine wo_skip (v := (.b true)) rfl rfl ?_
                              refine wo_skip (v := (.b true)) rfl rfl ?_
                              refine wo_step (v := (.b true)) (s_pure (p_pickT rfl rfl)) ?_
                              refine wo_nil ?_
                              cases hr
                              exact ⟨_, _, rfl, rfl, gl rfl, gl g0, gl g1, gl g2, gl g7, gl g8⟩
                            · have hq := bindO_inv hr
                              clear hr
                              obtain ⟨v69, e69, hr⟩ := hq
                              refine wo_take (v := v69) rfl (s_pure (o_faddr g8 e69)) ?_
                              have hq := bindO_inv hr
                              clear hr
                              obtain ⟨v70, e70, hr⟩ := hq
                              have hq := asI_inv hr
                              clear hr
                              obtain ⟨x70, rfl, hr⟩ := hq
                              refine wo_take (v := (.i .i64 x70)) rfl (s_ld rfl e70) ?_
                              have hq := forceB_inv hr
                              clear hr
                              obtain ⟨c71, e71, hr⟩ := hq
                              refine wo_take (v := (.b c71)) rfl (s_pure (p_bin rfl rfl (b_gtr.trans (cb e71)))) ?_
                              refine wo_step (v := (.b c71)) (s_pure (p_pickF rfl rfl)) ?_
                              refine wo_nil ?_
                              cases hr
                              exact ⟨_, _, rfl, rfl, gl rfl, gl g0, gl g1, gl g2, gl g7, gl g8⟩
                          · clear hr
                            have hr := hk
                            clear hk
                            obtain ⟨c72, ho⟩ : ∃ z, z = o_8 := ⟨_, rfl⟩
                            subst ho
                            rintro mm_8 t_10 ⟨rfl, g72, g0, g1, g2, g7, g8⟩
                            refine wo_step (v := (.b c72)) (s_pure (p_mv g72)) ?_
                            have hq := bindO_inv hr
                            clear hr
                            obtain ⟨o_9, hr, hk⟩ := hq
                            refine wo_join 6 (g20_J10 x0 x1 v2 x7 v8 m_3 o_9) ?_ ?_
                            · clear hk
                              have hq := cond_inv hr
                              clear hr
                              rcases hq with ⟨rfl, hr⟩ | ⟨rfl, hr⟩
                              · refine wo_skip (v := (.b true)) rfl rfl ?_
                                refine wo_skip (v := (.b true)) rfl rfl ?_
                                refine wo_skip (v := (.b true)) rfl rfl ?_
                                refine wo_skip (v := (.b true)) rfl rfl ?_
                                refine wo_skip (v := (.b true)) rfl rfl ?_
                                refine wo_step (v := (.b true)) (s_pure (p_pickT rfl rfl)) ?_
                                refine wo_nil ?_
                                cases hr
                                exact ⟨_, _, rfl, rfl, gl rfl, gl g0, gl g1, gl g2, gl g7, gl g8⟩
                              · have hq := bindO_inv hr
                                clear hr
                                obtain ⟨v74, e74, hr⟩ := hq
                                refine wo_take (v := v74) rfl (s_pure (o_faddr g8 e74)) ?_
                                have hq := bindO_inv hr
                                clear hr
                                obtain ⟨v75, e75, hr⟩ := hq
                                have hq := asI_inv hr
                                clear hr
                                obtain ⟨x75, rfl, hr⟩ := hq
                                refine wo_take (v := (.i .i64 x75)) rfl (s_ld rfl e75) ?_
                                have hq := bindO_inv hr
                                clear hr
                                obtain ⟨v76, e76, hr⟩ := hq
                                refine wo_take (v := v76) rfl (s_pure (o_faddr g8 e76)) ?_
                                have hq := bindO_inv hr
                                clear hr
                                obtain ⟨v77, e77, hr⟩ := hq
                                have hq := asI_inv hr
                                clear hr
                                obtain ⟨x77, rfl, hr⟩ := hq
                                refine wo_take (v := (.i .i64 x77)) rfl (s_ld rfl e77) ?_
                                have hq := forceB_inv hr
                                clear hr
                                obtain ⟨c78, e78, hr⟩ := hq
                                refine wo_take (v := (.b c78)) rfl (s_pure (p_bin rfl rfl (b_lss.trans (cb e78)))) ?_
                                refine wo_step (v := (.b c78)) (s_pure (p_pickF rfl rfl)) ?_
                                refine wo_nil ?_
                                cases hr
                                exact ⟨_, _, rfl, rfl, gl rfl, gl g0, gl g1, gl g2, gl g7, gl g8⟩
                            · clear hr
                              have hr := hk
                              clear hk
                              obtain ⟨c79, ho⟩ : ∃ z, z = o_9 := ⟨_, rfl⟩
                              subst ho
                              rintro mm_9 t_11 ⟨rfl, g79, g0, g1, g2, g7, g8⟩
                              refine wo_step (v := (.b c79)) (s_pure (p_mv g79)) ?_
                              have hq := bindO_inv hr
                              clear hr
                              obtain ⟨o_10, hr, hk⟩ := hq
                              refine wo_join 9 (g20_J11 x0 x1 v2 x7 m_3 o_10) ?_ ?_
                              · clear hk
                                have hq := cond_inv hr
                                clear hr
                                rcases hq with ⟨rfl, hr⟩ | ⟨rfl, hr⟩
                                · refine wo_skip (v := (.b true)) rfl rfl ?_
                                  refine wo_skip (v := (.b true)) rfl rfl ?_
                                  refine wo_skip (v := (.b true)) rfl rfl ?_
                                  refine wo_skip (v := (.b true)) rfl rfl ?_
                                  refine wo_skip (v := (.b true)) rfl rfl ?_
                                  refine wo_skip (v := (.b true)) rfl rfl ?_
                                  refine wo_skip (v := (.b true)) rfl rfl ?_
                                  refine wo_skip (v := (.b true)) rfl rfl ?_
                                  refine wo_step (v := (.b true)) (s_pure (p_pickT rfl rfl)) ?_
                                  refine wo_nil ?_
                                  cases hr
                                  exact ⟨_, _, rfl, rfl, gl rfl, gl g0, gl g1, gl g2, gl g7⟩
                                · have hq := bindO_inv hr
                                  clear hr
                                  obtain ⟨v81, e81, hr⟩ := hq
                                  refine wo_take (v := v81) rfl (s_pure (o_faddr g8 e81)) ?_
                                  have hq := bindO_inv hr
                                  clear hr
                                  obtain ⟨v82, e82, hr⟩ := hq
                                  have hq := asI_inv hr
                                  clear hr
                                  obtain ⟨x82, rfl, hr⟩ := hq
                                  refine wo_take (v := (.i .i64 x82)) rfl (s_ld rfl e82) ?_
                                  have hq := bindO_inv hr
                                  clear hr
                                  obtain ⟨v83, e83, hr⟩ := hq
                                  refine wo_take (v := v83) rfl (s_pure (o_faddr g8 e83)) ?_
                                  have hq := bindO_inv hr
                                  clear hr
                                  obtain ⟨v84, e84, hr⟩ := hq
                                  have hq := asI_inv hr
                                  clear hr
                                  obtain ⟨x84, rfl, hr⟩ := hq
                                  refine wo_take (v := (.i .i64 x84)) rfl (s_ld rfl e84) ?_
                                  refine wo_take (v := (.i .i64 x0)) rfl (s_pure (p_mv g0)) ?_
                                  have hq := forceI_inv hr
                                  clear hr
                                  obtain ⟨x86, e86, hr⟩ := hq
                                  refine wo_take (v := (.i .i64 x86)) rfl (s_pure (p_bin rfl rfl (b_add.trans (ci e86)))) ?_
                                  have hq := forceI_inv hr
                                  clear hr
                                  obtain ⟨x87, e87, hr⟩ := hq
                                  refine wo_take (v := (.i .i64 x87)) rfl (s_pure (p_bin rfl rfl (b_sub.trans (ci e87)))) ?_
                                  have hq := forceB_inv hr
                                  clear hr
                                  obtain ⟨c88, e88, hr⟩ := hq
                                  refine wo_take (v := (.b c88)) rfl (s_pure (p_bin rfl rfl (b_gtr.trans (cb e88)))) ?_
                                  refine wo_step (v := (.b c88)) (s_pure (p_pickF rfl rfl)) ?_
                                  refine wo_nil ?_
                                  cases hr
                                  exact ⟨_, _, rfl, rfl, gl rfl, gl g0, gl g1, gl g2, gl g7⟩
                              · clear hr
                                have hr := hk
                                clear hk
                                obtain ⟨c89, ho⟩ : ∃ z, z = o_10 := ⟨_, rfl⟩
                                subst ho
                                rintro mm_10 t_12 ⟨rfl, g89, g0, g1, g2, g7⟩
                                refine wo_nil ?_
                                refine nx_norm ?_
                                have hq := cond_inv hr
                                clear hr
                                rcases hq with ⟨rfl, hr⟩ | ⟨rfl, hr⟩
                                · refine w_condT g89 ?_
                                  refine w_seq ?_
                                  refine w_ops ?_
                                  refine wo_step (v := (.i .i64 2)) (s_pure (p_mv rfl)) ?_
                                  refine wo_nil ?_
                                  refine nx_norm ?_
                                  refine w_ret ?_
                                  refine bk_ret ?_
                                  refine nx_ret ?_
                                  cases hr
                                  exact ⟨_, _, rfl, ne_norm_ret, rfl, rfl, gl rfl⟩
                                · refine w_condF g89 ?_
                                  refine w_skip ?_
                                  refine bk_norm ?_
                                  refine nx_norm ?_
                                  refine w_ops ?_
                                  refine wo_step (v := (.i .i64 x7)) (s_pure (p_mv g7)) ?_
                                  have hq := forceI_inv hr
                                  clear hr
                                  obtain ⟨x31, e31, hr⟩ := hq
                                  refine wo_step (v := (.i .i64 x31)) (s_pure (p_bin rfl rfl (b_add.trans (ci e31)))) ?_
                                  refine wo_step (v := (.i .i64 x31)) (s_pure (p_mv rfl)) ?_
                                  refine wo_nil ?_
                                  cases hr
                                  exact ⟨_, _, rfl, rfl, rfl, gl rfl, gl g0, gl g1, gl g2⟩
              · refine w_condF rfl ?_
                refine w_exit ?_
                refine nx_exit ?_
                cases hr
                exact ⟨_, _, rfl, ne_norm_exit, rfl, rfl⟩
            · rcases o_11 with o_11 | o_11
              · obtain ⟨m_4, ho⟩ : ∃ z, z = o_11 := ⟨_, rfl⟩
                subst ho
                rintro _ mm_11 t_13 ⟨rfl, rfl⟩
                refine bk_hit ?_
                refine nx_norm ?_
                refine w_seq ?_
                refine w_ops ?_
                refine wo_step (v := (.i .i64 0)) (s_pure (p_mv rfl)) ?_
                refine wo_nil ?_
                refine nx_norm ?_
                refine w_ret ?_
                exact qf ret_ok (rt rfl rn) hr
              · obtain ⟨x6, m_5⟩ := o_11
                rintro _ mm_12 t_14 ⟨rfl, rfl, g6⟩
                refine bk_ret ?_
                refine nx_ret ?_
                exact qf ret_ok (rt g6 rn) hr

/- dibber/turn.Refuses -/
abbrev g30_I0 (v10 : AVal) (c33 : Bool) (v32 : AVal) (x35 : Int) (s : Int × Int × Int × Mm) (m1 : Mm) (t1 : Tr) : Prop :=
  match s with
  | (x12, x13, x36, m_5) => m_5 = m1 ∧ t1.get 12 = (.i .i64 x12) ∧ t1.get 13 = (.i .i64 x13) ∧ t1.get 36 = (.i .i64 x36) ∧ t1.get 10 = v10 ∧ t1.get 15 = (.b c33) ∧ t1.get 34 = v32 ∧ t1.get 35 = (.i .i64 x35)
abbrev g30_J0 (v10 : AVal) (c33 : Bool) (v32 : AVal) (x35 : Int) (o : (Int × Int × Mm)) (e : AExit) (m1 : Mm) (t1 : Tr) : Prop :=
  match o with
  | (y12, y13, mo) => e = (.exit 0) ∧ mo = m1 ∧ t1.get 12 = (.i .i64 y12) ∧ t1.get 13 = (.i .i64 y13) ∧ t1.get 10 = v10 ∧ t1.get 15 = (.b c33)
def g30_b0 (M : Means) (ro : List ABlk) (v10 : AVal) (c33 : Bool) (v32 : AVal) (x35 : Int) (x12 : Int) (x13 : Int) (x36 : Int) (m_5 : Mm) : Option ((Int × Int × Int × Mm) ⊕ ((Int × Int × Mm))) :=
  forceB (ltI x36 x35) fun c37 =>
  cond c37 (
    bindO (evP .e (.ixS 4 (.c v32) (.c (.i .i64 x36)))) fun v38 =>
    bindO (ldM ro m_5 false 4 v38) fun v39 =>
    bindP (stepM ro m_5 (.al 31 [(AVal.i IntKind.i64 0), (AVal.i IntKind.i64 0), (AVal.i IntKind.i64 0), (AVal.i IntKind.i64 0)])) fun v17 m_6 =>
    bindP (stepM ro m_6 (.st 4 (.c v17) (.c v39))) fun vn_1 m_7 =>
    bindO (evP .e (.faddr 2 (.c v17))) fun v41 =>
    bindO (ldM ro m_7 true 1 v41) fun v42 =>
    asI .i64 v42 fun x42 =>
    forceI (wr .i64 (x12 + x42)) fun x43 =>
    bindO (evP .e (.faddr 3 (.c v17))) fun v45 =>
    bindO (ldM ro m_7 true 1 v45) fun v46 =>
    asI .i64 v46 fun x46 =>
    forceI (wr .i64 (x13 + x46)) fun x47 =>
    forceI (wr .i64 (x36 + 1)) fun x48 =>
    some (.inl (x43, x47, x48, m_7))) (
    some (.inr (x12, x13, m_5)))
abbrev g30_J1  (o : Bool × Mm) (m1 : Mm) (t1 : Tr) : Prop :=
  match o with
  | (c55, m_9) => m_9 = m1 ∧ t1.get 55 = (.b c55)
def g30 (M : Means) (ro : List ABlk) (x0 : Int) (x1 : Int) (v2 : AVal) (v3 : AVal) (m0 : Mm) : Option (AVal × Heap × Nat × Nat) :=
  bindP (callM M.call m0 43 [(.i .i64 x0), (.i .i64 x1), v2]) fun v22 m_1 =>
  bindO (evP .e (.ext 0 (.c v22))) fun v23 =>
  bindO (evP .e (.ext 1 (.c v22))) fun v24 =>
  asI .i64 v24 fun x24 =>
  bindP (stepM ro m_1 (.al 55 [(AVal.i IntKind.i64 0), (AVal.i IntKind.i64 0), AVal.nsl])) fun v10 m_2 =>
  bindP (stepM ro m_2 (.st 3 (.c v10) (.c v23))) fun vn m_3 =>
  forceB (!eqI x24 0) fun c26 =>
  cond c26 (
    finM m0.h.length (tupA [(.b false), (.i .i64 x24)]) m_3) (
    bindO (ldM ro m_3 false 3 v10) fun v29 =>
    bindP (callM M.call m_3 54 [v29, v3]) fun v31 m_4 =>
    bindO (evP .e (.ext 0 (.c v31))) fun v32 =>
    bindO (evP .e (.ext 1 (.c v31))) fun v33 =>
    asB v33 fun c33 =>
    bindO (evP .e (.len false (.c v32))) fun v35 =>
    asI .i64 v35 fun x35 =>
    bindO (M.loop (S := Int × Int × Int × Mm) (R := (Int × Int × Mm)) (fun s => g30_b0 M ro v10 c33 v32 x35 s.1 s.2.1 s.2.2.1 s.2.2.2) (0, 0, 0, m_4)) fun ⟨x12_1, x13_1, m_8⟩ =>
    bindO (cond c33 (
      bindO (ldM ro m_8 false 3 v10) fun v51 =>
      bindP (callM M.call m_8 55 [v51, (.i .i64 x12_1), (.i .i64 x13_1)]) fun v54 m_10 =>
      asB v54 fun c54 =>
      some (c54, m_10)) (
      some (false, m_8))) fun ⟨c55, m_9⟩ =>
    finM m0.h.length (tupA [(.b c55), (.i .i64 0)]) m_9)

theorem g30_ok {ro : List ABlk} {O : Caller} {M : Means} (hM : M.Ok ⟨F, O⟩ ro) {x0 x1 v2 v3 h r} (ho : O 30 [(.i .i64 x0), (.i .i64 x1), v2, v3] h = none) (hr : g30 M ro x0 x1 v2 v3 ⟨h, h.length, h.length⟩ = some r) : callX ⟨F, O⟩ ro 30 [(.i .i64 x0), (.i .i64 x1), v2, v3] h = some r := by
  refine callX_of (F := ⟨F, O⟩) (fn := fn30) (g := g30 M ro x0 x1 v2 v3) ho rfl rfl hr ?_
  clear ho
  clear hr
  intro m0 t0 ht hr
  have g0 : t0.get 0 = (.i .i64 x0) := ht 0
  have g1 : t0.get 1 = (.i .i64 x1) := ht 1
  have g2 : t0.get 2 = v2 := ht 2
  have g3 : t0.get 3 = v3 := ht 3
  clear ht
  unfold g30 at hr
  refine w_seq ?_
  refine w_ops ?_
  refine wo_step (v := (.b false)) (s_pure (p_mv rfl)) ?_
  refine wo_step (v := (.i .i64 0)) (s_pure (p_mv rfl)) ?_
  refine wo_nil ?_
  refine nx_norm ?_
  refine w_seq ?_
  refine w_ops ?_
  refine wo_step (v := (.i .i64 x0)) (s_pure (p_mv g0)) ?_
  refine wo_step (v := (.i .i64 x1)) (s_pure (p_mv g1)) ?_
  refine wo_step (v := v2) (s_pure (p_mv g2)) ?_
  have hq := bindP_inv hr
  clear hr
  obtain ⟨v22, m_1, e22, hr⟩ := hq
  refine wo_step (v := v22) (s_call (mc rfl (mc rfl (mc rfl mn))) (callM_le hM.call e22)) ?_
  refine wo_step (v := v22) (s_pure (p_mv rfl)) ?_
  have hq := bindO_inv hr
  clear hr
  obtain ⟨v23, e23, hr⟩ := hq
  refine wo_step (v := v23) (s_pure (o_ext rfl e23)) ?_
  have hq := bindO_inv hr
  clear hr
  obtain ⟨v24, e24, hr⟩ := hq
  have hq := asI_inv hr
  clear hr
  obtain ⟨x24, rfl, hr⟩ := hq
  refine wo_step (v := (.i .i64 x24)) (s_pure (o_ext rfl e24)) ?_
  have hq := bindP_inv hr
  clear hr
  obtain ⟨v10, m_2, e10, hr⟩ := hq
  refine wo_step (v := v10) (s_al e10) ?_
  have hq := bindP_inv hr
  clear hr
  obtain ⟨vn, m_3, en, hr⟩ := hq
  refine wo_stepN (s_st rfl rfl en) ?_
  refine wo_step (v := (.i .i64 x24)) (s_pure (p_mv rfl)) ?_
  refine wo_nil ?_
  refine nx_norm ?_
  refine w_seq ?_
  refine w_seq ?_
  refine w_ops ?_
  refine wo_step (v := (.i .i64 x24)) (s_pure (p_mv rfl)) ?_
  have hq := forceB_inv hr
  clear hr
  obtain ⟨c26, e26, hr⟩ := hq
  refine wo_step (v := (.b c26)) (s_pure (p_bin rfl rfl (b_neq.trans (cb e26)))) ?_
  refine wo_nil ?_
  refine nx_norm ?_
  have hq := cond_inv hr
  clear hr
  rcases hq with ⟨rfl, hr⟩ | ⟨rfl, hr⟩
  · refine w_condT rfl ?_
    refine w_seq ?_
    refine w_ops ?_
    refine wo_step (v := (.i .i64 x24)) (s_pure (p_mv rfl)) ?_
    refine wo_step (v := (.b false)) (s_pure (p_mv rfl)) ?_
    refine wo_step (v := (.i .i64 x24)) (s_pure (p_mv rfl)) ?_
    refine wo_nil ?_
    refine nx_norm ?_
    refine w_ret ?_
    refine nx_ret ?_
    exact qf ret_ok (rt rfl (rt rfl rn)) hr
  · refine w_condF rfl ?_
    refine w_skip ?_
    refine nx_norm ?_
    refine w_seq ?_
    refine w_ops ?_
    refine wo_step (v := (.i .i64 0)) (s_pure (p_mv rfl)) ?_
    refine wo_step (v := (.i .i64 0)) (s_pure (p_mv rfl)) ?_
    refine wo_nil ?_
    refine nx_norm ?_
    refine w_seq ?_
    refine w_ops ?_
    have hq := bindO_inv hr
    clear hr
    obtain ⟨v29, e29, hr⟩ := hq
    refine wo_step (v := v29) (s_ld rfl e29) ?_
    refine wo_step (v := v3) (s_pure (p_mv g3)) ?_
    have hq := bindP_inv hr
    clear hr
    obtain ⟨v31, m_4, e31, hr⟩ := hq
    refine wo_step (v := v31) (s_call (mc rfl (mc rfl mn)) (callM_le hM.call e31)) ?_
    refine wo_step (v := v31) (s_pure (p_mv rfl)) ?_
    have hq := bindO_inv hr
    clear hr
    obtain ⟨v32, e32, hr⟩ := hq
    refine wo_step (v := v32) (s_pure (o_ext rfl e32)) ?_
    have hq := bindO_inv hr
    clear hr
    obtain ⟨v33, e33, hr⟩ := hq
    have hq := asB_inv hr
    clear hr
    obtain ⟨c33, rfl, hr⟩ := hq
    refine wo_step (v := (.b c33)) (s_pure (o_ext rfl e33)) ?_
    refine wo_step (v := v32) (s_pure (p_mv rfl)) ?_
    refine wo_step (v := (.b c33)) (s_pure (p_mv rfl)) ?_
    refine wo_nil ?_
    refine nx_norm ?_
    refine w_seq ?_
    refine w_seq ?_
    refine w_ops ?_
    refine wo_step (v := v32) (s_pure (p_mv rfl)) ?_
    have hq := bindO_inv hr
    clear hr
    obtain ⟨v35, e35, hr⟩ := hq
    have hq := asI_inv hr
    clear hr
    obtain ⟨x35, rfl, hr⟩ := hq
    refine wo_step (v := (.i .i64 x35)) (s_pure (o_len rfl e35)) ?_
    refine wo_step (v := (.i .i64 0)) (s_pure (p_mv rfl)) ?_
    refine wo_nil ?_
    refine nx_norm ?_
    refine w_block ?_
    have hq := bindO_inv hr
    clear hr
    obtain ⟨o, hl, hr⟩ := hq
    obtain ⟨n, hl⟩ := hM.loop _ _ _ hl
    refine jp_mono (w_loop _ (g30_I0 v10 c33 v32 x35) (g30_J0 v10 c33 v32 x35) ?_ n _ _ _ _ hl ⟨rfl, gl rfl, gl rfl, gl rfl, gl rfl, gl rfl, gl rfl, gl rfl⟩) ?_
    · clear hr hl
      intro s mm_2 t_1 o hi hr
      obtain ⟨x12, x13, x36, m_5⟩ := s
      obtain ⟨rfl, g12, g13, g36, g10, g15, g34, g35⟩ := hi
      unfold g30_b0 at hr
      refine w_seq ?_
      refine w_ops ?_
      have hq := forceB_inv hr
      clear hr
      obtain ⟨c37, e37, hr⟩ := hq
      refine wo_step (v := (.b c37)) (s_pure (p_bin g36 g35 (b_lss.trans (cb e37)))) ?_
      refine wo_nil ?_
      refine nx_norm ?_
      refine w_seq ?_
      have hq := cond_inv hr
      clear hr
      rcases hq with ⟨rfl, hr⟩ | ⟨rfl, hr⟩
      · refine w_condT rfl ?_
        refine w_skip ?_
        refine nx_norm ?_
        refine w_seq ?_
        refine w_block ?_
        refine w_seq ?_
        refine w_ops ?_
        have hq := bindO_inv hr
        clear hr
        obtain ⟨v38, e38, hr⟩ := hq
        refine wo_step (v := v38) (s_pure (o_ixS g34 g36 e38)) ?_
        have hq := bindO_inv hr
        clear hr
        obtain ⟨v39, e39, hr⟩ := hq
        refine wo_step (v := v39) (s_ld rfl e39) ?_
        have hq := bindP_inv hr
        clear hr
        obtain ⟨v17, m_6, e17, hr⟩ := hq
        refine wo_step (v := v17) (s_al e17) ?_
        have hq := bindP_inv hr
        clear hr
        obtain ⟨vn_1, m_7, en_1, hr⟩ := hq
        refine wo_stepN (s_st rfl rfl en_1) ?_
        refine wo_nil ?_
        refine nx_norm ?_
        refine w_seq ?_
        refine w_ops ?_
        refine wo_step (v := (.i .i64 x12)) (s_pure (p_mv g12)) ?_
        have hq := bindO_inv hr
        clear hr
        obtain ⟨v41, e41, hr⟩ := hq
        refine wo_step (v := v41) (s_pure (o_faddr rfl e41)) ?_
        have hq := bindO_inv hr
        clear hr
        obtain ⟨v42, e42, hr⟩ := hq
        have hq := asI_inv hr
        clear hr
        obtain ⟨x42, rfl, hr⟩ := hq
        refine wo_step (v := (.i .i64 x42)) (s_ld rfl e42) ?_
        have hq := forceI_inv hr
        clear hr
        obtain ⟨x43, e43, hr⟩ := hq
        refine wo_step (v := (.i .i64 x43)) (s_pure (p_bin rfl rfl (b_add.trans (ci e43)))) ?_
        refine wo_step (v := (.i .i64 x43)) (s_pure (p_mv rfl)) ?_
        refine wo_nil ?_
        refine nx_norm ?_
        refine w_ops ?_
        refine wo_step (v := (.i .i64 x13)) (s_pure (p_mv g13)) ?_
        have hq := bindO_inv hr
        clear hr
        obtain ⟨v45, e45, hr⟩ := hq
        refine wo_step (v := v45) (s_pure (o_faddr rfl e45)) ?_
        have hq := bindO_inv hr
        clear hr
        obtain ⟨v46, e46, hr⟩ := hq
        have hq := asI_inv hr
        clear hr
        obtain ⟨x46, rfl, hr⟩ := hq
        refine wo_step (v := (.i .i64 x46)) (s_ld rfl e46) ?_
        have hq := forceI_inv hr
        clear hr
        obtain ⟨x47, e47, hr⟩ := hq
        refine wo_step (v := (.i .i64 x47)) (s_pure (p_bin rfl rfl (b_add.trans (ci e47)))) ?_
        refine wo_step (v := (.i .i64 x47)) (s_pure (p_mv rfl)) ?_
        refine wo_nil ?_
        refine bk_norm ?_
        refine nx_norm ?_
        refine w_ops ?_
        have hq := forceI_inv hr
        clear hr
        obtain ⟨x48, e48, hr⟩ := hq
        refine wo_step (v := (.i .i64 x48)) (s_pure (p_bin g36 rfl (b_add.trans (ci e48)))) ?_
        refine wo_step (v := (.i .i64 x48)) (s_pure (p_mv rfl)) ?_
        refine wo_nil ?_
        cases hr
        exact ⟨_, _, rfl, rfl, rfl, gl rfl, gl rfl, gl rfl, gl g10, gl g15, gl g34, gl g35⟩
      · refine w_condF rfl ?_
        refine w_exit ?_
        refine nx_exit ?_
        cases hr
        exact ⟨_, _, rfl, ne_norm_exit, rfl, rfl, gl g12, gl g13, gl g10, gl g15⟩
    · obtain ⟨x12_1, x13_1, m_8⟩ := o
      rintro _ mm_1 t_2 ⟨rfl, rfl, g12, g13, g10, g15⟩
      refine bk_hit ?_
      refine nx_norm ?_
      refine w_seq ?_
      refine w_ops ?_
      refine wo_step (v := (.b c33)) (s_pure (p_mv g15)) ?_
      refine wo_step (v := (.b c33)) (s_pure (p_mv rfl)) ?_
      have hq := bindO_inv hr
      clear hr
      obtain ⟨o_1, hr, hk⟩ := hq
      refine wo_join 5 (g30_J1  o_1) ?_ ?_
      · clear hk
        have hq := cond_inv hr
        clear hr
        rcases hq with ⟨rfl, hr⟩ | ⟨rfl, hr⟩
        · have hq := bindO_inv hr
          clear hr
          obtain ⟨v51, e51, hr⟩ := hq
          refine wo_take (v := v51) rfl (s_ld g10 e51) ?_
          refine wo_take (v := (.i .i64 x12_1)) rfl (s_pure (p_mv g12)) ?_
          refine wo_take (v := (.i .i64 x13_1)) rfl (s_pure (p_mv g13)) ?_
          have hq := bindP_inv hr
          clear hr
          obtain ⟨v54, m_10, e54, hr⟩ := hq
          have hq := asB_inv hr
          clear hr
          obtain ⟨c54, rfl, hr⟩ := hq
          refine wo_take (v := (.b c54)) rfl (s_call (mc rfl (mc rfl (mc rfl mn))) (callM_le hM.call e54)) ?_
          refine wo_step (v := (.b c54)) (s_pure (p_pickT rfl rfl)) ?_
          refine wo_nil ?_
          cases hr
          exact ⟨_, _, rfl, rfl, gl rfl⟩
        · refine wo_skip (v := (.b false)) rfl rfl ?_
          refine wo_skip (v := (.b false)) rfl rfl ?_
          refine wo_skip (v := (.b false)) rfl rfl ?_
          refine wo_skip (v := (.b false)) rfl rfl ?_
          refine wo_step (v := (.b false)) (s_pure (p_pickF rfl rfl)) ?_
          refine wo_nil ?_
          cases hr
          exact ⟨_, _, rfl, rfl, gl rfl⟩
      · clear hr
        have hr := hk
        clear hk
        obtain ⟨c55, m_9⟩ := o_1
        rintro mm t_3 ⟨rfl, g55⟩
        refine wo_step (v := (.b c55)) (s_pure (p_mv g55)) ?_
        refine wo_step (v := (.i .i64 0)) (s_pure (p_mv rfl)) ?_
        refine wo_nil ?_
        refine nx_norm ?_
        refine w_ret ?_
        exact qf ret_ok (rt rfl (rt rfl rn)) hr

/- dibber/turn.Ring -/
abbrev g32_I0 (x1 : Int) (v8 : AVal) (s : Int × Mm) (m1 : Mm) (t1 : Tr) : Prop :=
  match s with
  | (x10, m_4) => m_4 = m1 ∧ t1.get 10 = (.i .i64 x10) ∧ t1.get 1 = (.i .i64 x1) ∧ t1.get 8 = v8
abbrev g32_J0 (x1 : Int) (v8 : AVal) (o : (Mm ⊕ (AVal × Int × Mm))) (e : AExit) (m1 : Mm) (t1 : Tr) : Prop :=
  match o with
  | (.inl mo) => e = (.exit 0) ∧ mo = m1
  | (.inr (y6, y7, mo)) => e = .ret ∧ mo = m1 ∧ t1.get 6 = y6 ∧ t1.get 7 = (.i .i64 y7)
def g32_b0 (M : Means) (ro : List ABlk) (x1 : Int) (v8 : AVal) (x10 : Int) (m_4 : Mm) : Option ((Int × Mm) ⊕ ((Mm ⊕ (AVal × Int × Mm)))) :=
  forceB (!ltI x1 x10) fun c24 =>
  cond c24 (
    bindO (ldM ro m_4 false 3 v8) fun v27 =>
    bindP (callM M.call m_4 57 [v27, (.i .i64 x10)]) fun v29 m_5 =>
    bindO (evP .e (.nilcmp true (.c v29))) fun v31 =>
    asB v31 fun c31 =>
    cond c31 (
      some (.inr (.inr (v29, 0, m_5)))) (
      forceI (wr .i64 (x10 + 1)) fun x26 =>
      some (.inl (x26, m_5)))) (
    some (.inr (.inl m_4)))
def g32 (M : Means) (ro : List ABlk) (x0 : Int) (x1 : Int) (v2 : AVal) (m0 : Mm) : Option (AVal × Heap × Nat × Nat) :=
  bindP (callM M.call m0 43 [(.i .i64 x0), (.i .i64 x1), v2]) fun v16 m_1 =>
  bindO (evP .e (.ext 0 (.c v16))) fun v17 =>
  bindO (evP .e (.ext 1 (.c v16))) fun v18 =>
  asI .i64 v18 fun x18 =>
  bindP (stepM ro m_1 (.al 55 [(AVal.i IntKind.i64 0), (AVal.i IntKind.i64 0), AVal.nsl])) fun v8 m_2 =>
  bindP (stepM ro m_2 (.st 3 (.c v8) (.c v17))) fun vn m_3 =>
  forceB (!eqI x18 0) fun c20 =>
  cond c20 (
    finM m0.h.length (tupA [AVal.nsl, (.i .i64 x18)]) m_3) (
    bindO (M.loop (S := Int × Mm) (R := (Mm ⊕ (AVal × Int × Mm))) (fun s => g32_b0 M ro x1 v8 s.1 s.2) (2, m_3)) fun o => match o with
    | (.inl m_6) =>
      finM m0.h.length (tupA [AVal.nsl, (.i .i64 10)]) m_6
    | (.inr (v6, x7, m_7)) =>
      finM m0.h.length (tupA [v6, (.i .i64 x7)]) m_7)

theorem g32_ok {ro : List ABlk} {O : Caller} {M : Means} (hM : M.Ok ⟨F, O⟩ ro) {x0 x1 v2 h r} (ho : O 32 [(.i .i64 x0), (.i .i64 x1), v2] h = none) (hr : g32 M ro x0 x1 v2 ⟨h, h.length, h.length⟩ = some r) : callX ⟨F, O⟩ ro 32 [(.i .i64 x0), (.i .i64 x1), v2] h = some r := by
  refine callX_of (F := ⟨F, O⟩) (fn := fn32) (g := g32 M ro x0 x1 v2) ho rfl rfl hr ?_
  clear ho
  clear hr
  intro m0 t0 ht hr
  have g0 : t0.get 0 = (.i .i64 x0) := ht 0
  have g1 : t0.get 1 = (.i .i64 x1) := ht 1
  have g2 : t0.get 2 = v2 := ht 2
  clear ht
  unfold g32 at hr
  refine w_seq ?_
  refine w_ops ?_
  refine wo_step (v := AVal.nsl) (s_pure (p_mv rfl)) ?_
  refine wo_step (v := (.i .i64 0)) (s_pure (p_mv rfl)) ?_
  refine wo_nil ?_
  refine nx_norm ?_
  refine w_seq ?_
  refine w_ops ?_
  refine wo_step (v := (.i .i64 x0)) (s_pure (p_mv g0)) ?_
  refine wo_step (v := (.i .i64 x1)) (s_pure (p_mv g1)) ?_
  refine wo_step (v := v2) (s_pure (p_mv g2)) ?_
  have hq := bindP_inv hr
  clear hr
  obtain ⟨v16, m_1, e16, hr⟩ := hq
  refine wo_step (v := v16) (s_call (mc rfl (mc rfl (mc rfl mn))) (callM_le hM.call e16)) ?_
  refine wo_step (v := v16) (s_pure (p_mv rfl)) ?_
  have hq := bindO_inv hr
  clear hr
  obtain ⟨v17, e17, hr⟩ := hq
  refine wo_step (v := v17) (s_pure (o_ext rfl e17)) ?_
  have hq := bindO_inv hr
  clear hr
  obtain ⟨v18, e18, hr⟩ := hq
  have hq := asI_inv hr
  clear hr
  obtain ⟨x18, rfl, hr⟩ := hq
  refine wo_step (v := (.i .i64 x18)) (s_pure (o_ext rfl e18)) ?_
  have hq := bindP_inv hr
  clear hr
  obtain ⟨v8, m_2, e8, hr⟩ := hq
  refine wo_step (v := v8) (s_al e8) ?_
  have hq := bindP_inv hr
  clear hr
  obtain ⟨vn, m_3, en, hr⟩ := hq
  refine wo_stepN (s_st rfl rfl en) ?_
  refine wo_step (v := (.i .i64 x18)) (s_pure (p_mv rfl)) ?_
  refine wo_nil ?_
  refine nx_norm ?_
  refine w_seq ?_
  refine w_seq ?_
  refine w_ops ?_
  refine wo_step (v := (.i .i64 x18)) (s_pure (p_mv rfl)) ?_
  have hq := forceB_inv hr
  clear hr
  obtain ⟨c20, e20, hr⟩ := hq
  refine wo_step (v := (.b c20)) (s_pure (p_bin rfl rfl (b_neq.trans (cb e20)))) ?_
  refine wo_nil ?_
  refine nx_norm ?_
  have hq := cond_inv hr
  clear hr
  rcases hq with ⟨rfl, hr⟩ | ⟨rfl, hr⟩
  · refine w_condT rfl ?_
    refine w_seq ?_
    refine w_ops ?_
    refine wo_step (v := (.i .i64 x18)) (s_pure (p_mv rfl)) ?_
    refine wo_step (v := AVal.nsl) (s_pure (p_mv rfl)) ?_
    refine wo_step (v := (.i .i64 x18)) (s_pure (p_mv rfl)) ?_
    refine wo_nil ?_
    refine nx_norm ?_
    refine w_ret ?_
    refine nx_ret ?_
    exact qf ret_ok (rt rfl (rt rfl rn)) hr
  · refine w_condF rfl ?_
    refine w_skip ?_
    refine nx_norm ?_
    refine w_seq ?_
    refine w_seq ?_
    refine w_ops ?_
    refine wo_step (v := (.i .i64 2)) (s_pure (p_mv rfl)) ?_
    refine wo_nil ?_
    refine nx_norm ?_
    refine w_block ?_
    have hq := bindO_inv hr
    clear hr
    obtain ⟨o, hl, hr⟩ := hq
    obtain ⟨n, hl⟩ := hM.loop _ _ _ hl
    refine jp_mono (w_loop _ (g32_I0 x1 v8) (g32_J0 x1 v8) ?_ n _ _ _ _ hl ⟨rfl, gl rfl, gl g1, gl rfl⟩) ?_
    · clear hr hl
      intro s mm_2 t_1 o hi hr
      obtain ⟨x10, m_4⟩ := s
      obtain ⟨rfl, g10, g1, g8⟩ := hi
      unfold g32_b0 at hr
      refine w_seq ?_
      refine w_seq ?_
      refine w_ops ?_
      refine wo_step (v := (.i .i64 x10)) (s_pure (p_mv g10)) ?_
      refine wo_step (v := (.i .i64 x1)) (s_pure (p_mv g1)) ?_
      have hq := forceB_inv hr
      clear hr
      obtain ⟨c24, e24, hr⟩ := hq
      refine wo_step (v := (.b c24)) (s_pure (p_bin rfl rfl (b_leq.trans (cb e24)))) ?_
      refine wo_nil ?_
      refine nx_norm ?_
      have hq := cond_inv hr
      clear hr
      rcases hq with ⟨rfl, hr⟩ | ⟨rfl, hr⟩
      · refine w_condT rfl ?_
        refine w_skip ?_
        refine nx_norm ?_
        refine w_seq ?_
        refine w_block ?_
        refine w_seq ?_
        refine w_ops ?_
        have hq := bindO_inv hr
        clear hr
        obtain ⟨v27, e27, hr⟩ := hq
        refine wo_step (v := v27) (s_ld g8 e27) ?_
        refine wo_step (v := (.i .i64 x10)) (s_pure (p_mv g10)) ?_
        have hq := bindP_inv hr
        clear hr
        obtain ⟨v29, m_5, e29, hr⟩ := hq
        refine wo_step (v := v29) (s_call (mc rfl (mc rfl mn)) (callM_le hM.call e29)) ?_
        refine wo_step (v := v29) (s_pure (p_mv rfl)) ?_
        refine wo_nil ?_
        refine nx_norm ?_
        refine w_seq ?_
        refine w_ops ?_
        refine wo_step (v := v29) (s_pure (p_mv rfl)) ?_
        have hq := bindO_inv hr
        clear hr
        obtain ⟨v31, e31, hr⟩ := hq
        have hq := asB_inv hr
        clear hr
        obtain ⟨c31, rfl, hr⟩ := hq
        refine wo_step (v := (.b c31)) (s_pure (o_nilcmp rfl e31)) ?_
        refine wo_nil ?_
        refine nx_norm ?_
        have hq := cond_inv hr
        clear hr
        rcases hq with ⟨rfl, hr⟩ | ⟨rfl, hr⟩
        · refine w_condT rfl ?_
          refine w_seq ?_
          refine w_ops ?_
          refine wo_step (v := v29) (s_pure (p_mv rfl)) ?_
          refine wo_step (v := v29) (s_pure (p_mv rfl)) ?_
          refine wo_step (v := (.i .i64 0)) (s_pure (p_mv rfl)) ?_
          refine wo_nil ?_
          refine nx_norm ?_
          refine w_ret ?_
          refine bk_ret ?_
          refine nx_ret ?_
          cases hr
          exact ⟨_, _, rfl, ne_norm_ret, rfl, rfl, gl rfl, gl rfl⟩
        · refine w_condF rfl ?_
          refine w_skip ?_
          refine bk_norm ?_
          refine nx_norm ?_
          refine w_ops ?_
          refine wo_step (v := (.i .i64 x10)) (s_pure (p_mv g10)) ?_
          have hq := forceI_inv hr
          clear hr
          obtain ⟨x26, e26, hr⟩ := hq
          refine wo_step (v := (.i .i64 x26)) (s_pure (p_bin rfl rfl (b_add.trans (ci e26)))) ?_
          refine wo_step (v := (.i .i64 x26)) (s_pure (p_mv rfl)) ?_
          refine wo_nil ?_
          cases hr
          exact ⟨_, _, rfl, rfl, rfl, gl rfl, gl g1, gl g8⟩
      · refine w_condF rfl ?_
        refine w_exit ?_
        refine nx_exit ?_
        cases hr
        exact ⟨_, _, rfl, ne_norm_exit, rfl, rfl⟩
    · rcases o with o | o
      · obtain ⟨m_6, ho⟩ : ∃ z, z = o := ⟨_, rfl⟩
        subst ho
        rintro _ mm t_2 ⟨rfl, rfl⟩
        refine bk_hit ?_
        refine nx_norm ?_
        refine w_seq ?_
        refine w_ops ?_
        refine wo_step (v := AVal.nsl) (s_pure (p_mv rfl)) ?_
        refine wo_step (v := (.i .i64 10)) (s_pure (p_mv rfl)) ?_
        refine wo_nil ?_
        refine nx_norm ?_
        refine w_ret ?_
        exact qf ret_ok (rt rfl (rt rfl rn)) hr
      · obtain ⟨v6, x7, m_7⟩ := o
        rintro _ mm_1 t_3 ⟨rfl, rfl, g6, g7⟩
        refine bk_ret ?_
        refine nx_ret ?_
        exact qf ret_ok (rt g6 (rt g7 rn)) hr

/- dibber/turn.Free -/
abbrev g36_I0 (v2 : AVal) (v30 : AVal) (x32 : Int) (s : Int × Mm) (m1 : Mm) (t1 : Tr) : Prop :=
  match s with
  | (x33, m_5) => m_5 = m1 ∧ t1.get 33 = (.i .i64 x33) ∧ t1.get 2 = v2 ∧ t1.get 10 = v30 ∧ t1.get 32 = (.i .i64 x32)
abbrev g36_J0 (v2 : AVal) (v30 : AVal) (x32 : Int) (o : Mm) (e : AExit) (m1 : Mm) (t1 : Tr) : Prop :=
  match o with
  | mo => e = (.exit 0) ∧ mo = m1 ∧ t1.get 2 = v2 ∧ t1.get 10 = v30
def g36_b0 (M : Means) (ro : List ABlk) (v2 : AVal) (v30 : AVal) (x32 : Int) (x33 : Int) (m_5 : Mm) : Option ((Int × Mm) ⊕ (Mm)) :=
  forceB (ltI x33 x32) fun c34 =>
  cond c34 (
    bindO (evP .e (.ixS 1 (.c v30) (.c (.i .i64 x33)))) fun v39 =>
    bindP (stepM ro m_5 (.st 1 (.c v39) (.c (.i .i64 x33)))) fun vn_1 m_6 =>
    forceI (wr .i64 (x33 + 1)) fun x40 =>
    some (.inl (x40, m_6))) (
    some (.inr m_5))
abbrev g36_I1 (v30 : AVal) (v2 : AVal) (x42 : Int) (s : Int × Int × Mm) (m1 : Mm) (t1 : Tr) : Prop :=
  match s with
  | (x12, x43, m_8) => m_8 = m1 ∧ t1.get 12 = (.i .i64 x12) ∧ t1.get 43 = (.i .i64 x43) ∧ t1.get 10 = v30 ∧ t1.get 41 = v2 ∧ t1.get 42 = (.i .i64 x42)
abbrev g36_J1 (v30 : AVal) (v2 : AVal) (x42 : Int) (o : (Int × Mm)) (e : AExit) (m1 : Mm) (t1 : Tr) : Prop :=
  match o with
  | (y12, mo) => e = (.exit 2) ∧ mo = m1 ∧ t1.get 12 = (.i .i64 y12)
abbrev g36_J2 (v30 : AVal) (x51 : Int) (x56 : Int) (v2 : AVal) (x42 : Int) (x43 : Int) (m_10 : Mm) (o : Int) (e : AExit) (m1 : Mm) (t1 : Tr) : Prop :=
  match o with
  | y12 => e = .norm ∧ m_10 = m1 ∧ t1.get 12 = (.i .i64 y12) ∧ t1.get 10 = v30 ∧ t1.get 15 = (.i .i64 x51) ∧ t1.get 16 = (.i .i64 x56) ∧ t1.get 41 = v2 ∧ t1.get 42 = (.i .i64 x42) ∧ t1.get 43 = (.i .i64 x43)
abbrev g36_I3 (v30 : AVal) (x12_1 : Int) (x51 : Int) (x56 : Int) (v2 : AVal) (x42 : Int) (x43 : Int) (x63 : Int) (s : Int × Mm) (m1 : Mm) (t1 : Tr) : Prop :=
  match s with
  | (x64, m_11) => m_11 = m1 ∧ t1.get 64 = (.i .i64 x64) ∧ t1.get 10 = v30 ∧ t1.get 12 = (.i .i64 x12_1) ∧ t1.get 15 = (.i .i64 x51) ∧ t1.get 16 = (.i .i64 x56) ∧ t1.get 41 = v2 ∧ t1.get 42 = (.i .i64 x42) ∧ t1.get 43 = (.i .i64 x43) ∧ t1.get 63 = (.i .i64 x63)
abbrev g36_J3 (v30 : AVal) (x12_1 : Int) (x51 : Int) (x56 : Int) (v2 : AVal) (x42 : Int) (x43 : Int) (x63 : Int) (o : Mm) (e : AExit) (m1 : Mm) (t1 : Tr) : Prop :=
  match o with
  | mo => e = (.exit 4) ∧ mo = m1 ∧ t1.get 10 = v30 ∧ t1.get 12 = (.i .i64 x12_1) ∧ t1.get 41 = v2 ∧ t1.get 42 = (.i .i64 x42) ∧ t1.get 43 = (.i .i64 x43)
abbrev g36_J4 (v30 : AVal) (x12_1 : Int) (x51 : Int) (x56 : Int) (v2 : AVal) (x42 : Int) (x43 : Int) (x63 : Int) (x64 : Int) (o : Mm) (e : AExit) (m1 : Mm) (t1 : Tr) : Prop :=
  match o with
  | mo => e = .norm ∧ mo = m1 ∧ t1.get 10 = v30 ∧ t1.get 12 = (.i .i64 x12_1) ∧ t1.get 15 = (.i .i64 x51) ∧ t1.get 16 = (.i .i64 x56) ∧ t1.get 41 = v2 ∧ t1.get 42 = (.i .i64 x42) ∧ t1.get 43 = (.i .i64 x43) ∧ t1.get 63 = (.i .i64 x63) ∧ t1.get 64 = (.i .i64 x64)
def g36_b3 (M : Means) (ro : List ABlk) (v30 : AVal) (x12_1 : Int) (x51 : Int) (x56 : Int) (v2 : AVal) (x42 : Int) (x43 : Int) (x63 : Int) (x64 : Int) (m_11 : Mm) : Option ((Int × Mm) ⊕ (Mm)) :=
  forceB (ltI x64 x63) fun c65 =>
  cond c65 (
    bindO (evP .e (.ixS 1 (.c v30) (.c (.i .i64 x64)))) fun v69 =>
    bindO (ldM ro m_11 true 1 v69) fun v70 =>
    asI .i64 v70 fun x70 =>
    forceB (eqI x70 x56) fun c72 =>
    bindO (α := Mm) (
      cond c72 (
        bindO (evP .e (.ixS 1 (.c v30) (.c (.i .i64 x64)))) fun v76 =>
        bindP (stepM ro m_11 (.st 1 (.c v76) (.c (.i .i64 x51)))) fun vn_3 m_12 =>
        some m_12) (
        some m_11)) fun m_13 =>
    forceI (wr .i64 (x64 + 1)) fun x77 =>
    some (.inl (x77, m_13))) (
    some (.inr m_11))
def g36_b1 (M : Means) (ro : List ABlk) (v30 : AVal) (v2 : AVal) (x42 : Int) (x12 : Int) (x43 : Int) (m_8 : Mm) : Option ((Int × Int × Mm) ⊕ ((Int × Mm))) :=
  forceB (ltI x43 x42) fun c44 =>
  cond c44 (
    bindO (evP .e (.ixS 4 (.c v2) (.c (.i .i64 x43)))) fun v45 =>
    bindO (ldM ro m_8 false 4 v45) fun v46 =>
    bindP (stepM ro m_8 (.al 31 [(AVal.i IntKind.i64 0), (AVal.i IntKind.i64 0), (AVal.i IntKind.i64 0), (AVal.i IntKind.i64 0)])) fun v14 m_9 =>
    bindP (stepM ro m_9 (.st 4 (.c v14) (.c v46))) fun vn_2 m_10 =>
    bindO (evP .e (.faddr 1 (.c v14))) fun v48 =>
    bindO (ldA ro m_10.h true 1 v48) fun v49 =>
    asI .i64 v49 fun x49 =>
    bindO (evP .e (.ixS 1 (.c v30) (.c (.i .i64 x49)))) fun v50 =>
    bindO (ldA ro m_10.h true 1 v50) fun v51 =>
    asI .i64 v51 fun x51 =>
    bindO (evP .e (.faddr 0 (.c v14))) fun v53 =>
    bindO (ldA ro m_10.h true 1 v53) fun v54 =>
    asI .i64 v54 fun x54 =>
    bindO (evP .e (.ixS 1 (.c v30) (.c (.i .i64 x54)))) fun v55 =>
    bindO (ldA ro m_10.h true 1 v55) fun v56 =>
    asI .i64 v56 fun x56 =>
    forceB (eqI x51 x56) fun c59 =>
    bindO (α := Int) (
      cond c59 (
        forceI (wr .i64 (x12 + 1)) fun x61 =>
        some x61) (
        some x12)) fun x12_1 =>
    bindO (evP .e (.len false (.c v30))) fun v63 =>
    asI .i64 v63 fun x63 =>
    bindO (M.loop (S := Int × Mm) (R := Mm) (fun s => g36_b3 M ro v30 x12_1 x51 x56 v2 x42 x43 x63 s.1 s.2) (0, m_10)) fun m_14 =>
    forceI (wr .i64 (x43 + 1)) fun x78 =>
    some (.inl (x12_1, x78, m_14))) (
    some (.inr (x12, m_8)))
def g36 (M : Means) (ro : List ABlk) (x0 : Int) (x1 : Int) (v2 : AVal) (m0 : Mm) : Option (AVal × Heap × Nat × Nat) :=
  bindP (callM M.call m0 43 [(.i .i64 x0), (.i .i64 x1), v2]) fun v22 m_1 =>
  bindO (evP .e (.ext 0 (.c v22))) fun v23 =>
  bindO (evP .e (.ext 1 (.c v22))) fun v24 =>
  asI .i64 v24 fun x24 =>
  bindP (stepM ro m_1 (.al 55 [(AVal.i IntKind.i64 0), (AVal.i IntKind.i64 0), AVal.nsl])) fun v8 m_2 =>
  bindP (stepM ro m_2 (.st 3 (.c v8) (.c v23))) fun vn m_3 =>
  forceB (!eqI x24 0) fun c26 =>
  cond c26 (
    finM m0.h.length (tupA [(.i .i64 0), (.i .i64 x24)]) m_3) (
    bindO (evP .e (.faddr 1 (.c v8))) fun v28 =>
    bindO (ldM ro m_3 true 1 v28) fun v29 =>
    asI .i64 v29 fun x29 =>
    bindP (stepM ro m_3 (.mk 3 1 8 [(AVal.i IntKind.i64 0)] (.c (.i .i64 x29)) (.c (.i .i64 x29)))) fun v30 m_4 =>
    bindO (evP .e (.len false (.c v30))) fun v32 =>
    asI .i64 v32 fun x32 =>
    bindO (M.loop (S := Int × Mm) (R := Mm) (fun s => g36_b0 M ro v2 v30 x32 s.1 s.2) (0, m_4)) fun m_7 =>
    bindO (evP .e (.len false (.c v2))) fun v42 =>
    asI .i64 v42 fun x42 =>
    bindO (M.loop (S := Int × Int × Mm) (R := (Int × Mm)) (fun s => g36_b1 M ro v30 v2 x42 s.1 s.2.1 s.2.2) (0, 0, m_7)) fun ⟨x12_2, m_15⟩ =>
    finM m0.h.length (tupA [(.i .i64 x12_2), (.i .i64 0)]) m_15)

theorem g36_ok {ro : List ABlk} {O : Caller} {M : Means} (hM : M.Ok ⟨F, O⟩ ro) {x0 x1 v2 h r} (ho : O 36 [(.i .i64 x0), (.i .i64 x1), v2] h = none) (hr : g36 M ro x0 x1 v2 ⟨h, h.length, h.length⟩ = some r) : callX ⟨F, O⟩ ro 36 [(.i .i64 x0), (.i .i64 x1), v2] h = some r := by
  refine callX_of (F := ⟨F, O⟩) (fn := fn36) (g := g36 M ro x0 x1 v2) ho rfl rfl hr ?_
  clear ho
  clear hr
  intro m0 t0 ht hr
  have g0 : t0.get 0 = (.i .i64 x0) := ht 0
  have g1 : t0.get 1 = (.i .i64 x1) := ht 1
  have g2 : t0.get 2 = v2 := ht 2
  clear ht
  unfold g36 at hr
  refine w_seq ?_
  refine w_ops ?_
  refine wo_step (v := (.i .i64 0)) (s_pure (p_mv rfl)) ?_
  refine wo_step (v := (.i .i64 0)) (s_pure (p_mv rfl)) ?_
  refine wo_nil ?_
  refine nx_norm ?_
  refine w_seq ?_
  refine w_ops ?_
  refine wo_step (v := (.i .i64 x0)) (s_pure (p_mv g0)) ?_
  refine wo_step (v := (.i .i64 x1)) (s_pure (p_mv g1)) ?_
  refine wo_step (v := v2) (s_pure (p_mv g2)) ?_
  have hq := bindP_inv hr
  clear hr
  obtain ⟨v22, m_1, e22, hr⟩ := hq
  refine wo_step (v := v22) (s_call (mc rfl (mc rfl (mc rfl mn))) (callM_le hM.call e22)) ?_
  refine wo_step (v := v22) (s_pure (p_mv rfl)) ?_
  have hq := bindO_inv hr
  clear hr
  obtain ⟨v23, e23, hr⟩ := hq
  refine wo_step (v := v23) (s_pure (o_ext rfl e23)) ?_
  have hq := bindO_inv hr
  clear hr
  obtain ⟨v24, e24, hr⟩ := hq
  have hq := asI_inv hr
  clear hr
  obtain ⟨x24, rfl, hr⟩ := hq
  refine wo_step (v := (.i .i64 x24)) (s_pure (o_ext rfl e24)) ?_
  have hq := bindP_inv hr
  clear hr
  obtain ⟨v8, m_2, e8, hr⟩ := hq
  refine wo_step (v := v8) (s_al e8) ?_
  have hq := bindP_inv hr
  clear hr
  obtain ⟨vn, m_3, en, hr⟩ := hq
  refine wo_stepN (s_st rfl rfl en) ?_
  refine wo_step (v := (.i .i64 x24)) (s_pure (p_mv rfl)) ?_
  refine wo_nil ?_
  refine nx_norm ?_
  refine w_seq ?_
  refine w_seq ?_
  refine w_ops ?_
  refine wo_step (v := (.i .i64 x24)) (s_pure (p_mv rfl)) ?_
  have hq := forceB_inv hr
  clear hr
  obtain ⟨c26, e26, hr⟩ := hq
  refine wo_step (v := (.b c26)) (s_pure (p_bin rfl rfl (b_neq.trans (cb e26)))) ?_
  refine wo_nil ?_
  refine nx_norm ?_
  have hq := cond_inv hr
  clear hr
  rcases hq with ⟨rfl, hr⟩ | ⟨rfl, hr⟩
  · refine w_condT rfl ?_
    refine w_seq ?_
    refine w_ops ?_
    refine wo_step (v := (.i .i64 x24)) (s_pure (p_mv rfl)) ?_
    refine wo_step (v := (.i .i64 0)) (s_pure (p_mv rfl)) ?_
    refine wo_step (v := (.i .i64 x24)) (s_pure (p_mv rfl)) ?_
    refine wo_nil ?_
    refine nx_norm ?_
    refine w_ret ?_
    refine nx_ret ?_
    exact qf ret_ok (rt rfl (rt rfl rn)) hr
  · refine w_condF rfl ?_
    refine w_skip ?_
    refine nx_norm ?_
    refine w_seq ?_
    refine w_ops ?_
    have hq := bindO_inv hr
    clear hr
    obtain ⟨v28, e28, hr⟩ := hq
    refine wo_step (v := v28) (s_pure (o_faddr rfl e28)) ?_
    have hq := bindO_inv hr
    clear hr
    obtain ⟨v29, e29, hr⟩ := hq
    have hq := asI_inv hr
    clear hr
    obtain ⟨x29, rfl, hr⟩ := hq
    refine wo_step (v := (.i .i64 x29)) (s_ld rfl e29) ?_
    have hq := bindP_inv hr
    clear hr
    obtain ⟨v30, m_4, e30, hr⟩ := hq
    refine wo_step (v := v30) (s_mk rfl rfl e30) ?_
    refine wo_step (v := v30) (s_pure (p_mv rfl)) ?_
    refine wo_nil ?_
    refine nx_norm ?_
    refine w_seq ?_
    refine w_seq ?_
    refine w_ops ?_
    refine wo_step (v := v30) (s_pure (p_mv rfl)) ?_
    have hq := bindO_inv hr
    clear hr
    obtain ⟨v32, e32, hr⟩ := hq
    have hq := asI_inv hr
    clear hr
    obtain ⟨x32, rfl, hr⟩ := hq
    refine wo_step (v := (.i .i64 x32)) (s_pure (o_len rfl e32)) ?_
    refine wo_step (v := (.i .i64 0)) (s_pure (p_mv rfl)) ?_
    refine wo_nil ?_
    refine nx_norm ?_
    refine w_block ?_
    have hq := bindO_inv hr
    clear hr
    obtain ⟨o, hl_2, hr⟩ := hq
    obtain ⟨n_2, hl_2⟩ := hM.loop _ _ _ hl_2
    refine jp_mono (w_loop _ (g36_I0 v2 v30 x32) (g36_J0 v2 v30 x32) ?_ n_2 _ _ _ _ hl_2 ⟨rfl, gl rfl, gl g2, gl rfl, gl rfl⟩) ?_
    · clear hr hl_2
      intro s mm_7 t_1 o hi hr
      obtain ⟨x33, m_5⟩ := s
      obtain ⟨rfl, g33, g2, g10, g32⟩ := hi
      unfold g36_b0 at hr
      refine w_seq ?_
      refine w_ops ?_
      have hq := forceB_inv hr
      clear hr
      obtain ⟨c34, e34, hr⟩ := hq
      refine wo_step (v := (.b c34)) (s_pure (p_bin g33 g32 (b_lss.trans (cb e34)))) ?_
      refine wo_nil ?_
      refine nx_norm ?_
      refine w_seq ?_
      have hq := cond_inv hr
      clear hr
      rcases hq with ⟨rfl, hr⟩ | ⟨rfl, hr⟩
      · refine w_condT rfl ?_
        refine w_skip ?_
        refine nx_norm ?_
        refine w_seq ?_
        refine w_block ?_
        refine w_seq ?_
        refine w_ops ?_
        refine wo_step (v := (.i .i64 x33)) (s_pure (p_mv g33)) ?_
        refine wo_step (v := (.i .i64 x33)) (s_pure (p_mv rfl)) ?_
        refine wo_nil ?_
        refine nx_norm ?_
        refine w_ops ?_
        refine wo_step (v := v30) (s_pure (p_mv g10)) ?_
        refine wo_step (v := (.i .i64 x33)) (s_pure (p_mv rfl)) ?_
        refine wo_step (v := (.i .i64 x33)) (s_pure (p_mv rfl)) ?_
        have hq := bindO_inv hr
        clear hr
        obtain ⟨v39, e39, hr⟩ := hq
        refine wo_step (v := v39) (s_pure (o_ixS rfl rfl e39)) ?_
        have hq := bindP_inv hr
        clear hr
        obtain ⟨vn_1, m_6, en_1, hr⟩ := hq
        refine wo_stepN (s_st rfl rfl en_1) ?_
        refine wo_nil ?_
        refine bk_norm ?_
        refine nx_norm ?_
        refine w_ops ?_
        have hq := forceI_inv hr
        clear hr
        obtain ⟨x40, e40, hr⟩ := hq
        refine wo_step (v := (.i .i64 x40)) (s_pure (p_bin g33 rfl (b_add.trans (ci e40)))) ?_
        refine wo_step (v := (.i .i64 x40)) (s_pure (p_mv rfl)) ?_
        refine wo_nil ?_
        cases hr
        exact ⟨_, _, rfl, rfl, rfl, gl rfl, gl g2, gl g10, gl g32⟩
      · refine w_condF rfl ?_
        refine w_exit ?_
        refine nx_exit ?_
        cases hr
        exact ⟨_, _, rfl, ne_norm_exit, rfl, rfl, gl g2, gl g10⟩
    · obtain ⟨m_7, ho⟩ : ∃ z, z = o := ⟨_, rfl⟩
      subst ho
      rintro _ mm_6 t_2 ⟨rfl, rfl, g2, g10⟩
      refine bk_hit ?_
      refine nx_norm ?_
      refine w_seq ?_
      refine w_ops ?_
      refine wo_step (v := (.i .i64 0)) (s_pure (p_mv rfl)) ?_
      refine wo_nil ?_
      refine nx_norm ?_
      refine w_seq ?_
      refine w_seq ?_
      refine w_ops ?_
      refine wo_step (v := v2) (s_pure (p_mv g2)) ?_
      have hq := bindO_inv hr
      clear hr
      obtain ⟨v42, e42, hr⟩ := hq
      have hq := asI_inv hr
      clear hr
      obtain ⟨x42, rfl, hr⟩ := hq
      refine wo_step (v := (.i .i64 x42)) (s_pure (o_len rfl e42)) ?_
      refine wo_step (v := (.i .i64 0)) (s_pure (p_mv rfl)) ?_
      refine wo_nil ?_
      refine nx_norm ?_
      refine w_block ?_
      have hq := bindO_inv hr
      clear hr
      obtain ⟨o_4, hl_1, hr⟩ := hq
      obtain ⟨n_1, hl_1⟩ := hM.loop _ _ _ hl_1
      refine jp_mono (w_loop _ (g36_I1 v30 v2 x42) (g36_J1 v30 v2 x42) ?_ n_1 _ _ _ _ hl_1 ⟨rfl, gl rfl, gl rfl, gl g10, gl rfl, gl rfl⟩) ?_
      · clear hr hl_1
        intro s mm_5 t_3 o hi hr
        obtain ⟨x12, x43, m_8⟩ := s
        obtain ⟨rfl, g12, g43, g10, g41, g42⟩ := hi
        unfold g36_b1 at hr
        refine w_seq ?_
        refine w_ops ?_
        have hq := forceB_inv hr
        clear hr
        obtain ⟨c44, e44, hr⟩ := hq
        refine wo_step (v := (.b c44)) (s_pure (p_bin g43 g42 (b_lss.trans (cb e44)))) ?_
        refine wo_nil ?_
        refine nx_norm ?_
        refine w_seq ?_
        have hq := cond_inv hr
        clear hr
        rcases hq with ⟨rfl, hr⟩ | ⟨rfl, hr⟩
        · refine w_condT rfl ?_
          refine w_skip ?_
          refine nx_norm ?_
          refine w_seq ?_
          refine w_block ?_
          refine w_seq ?_
          refine w_ops ?_
          have hq := bindO_inv hr
          clear hr
          obtain ⟨v45, e45, hr⟩ := hq
          refine wo_step (v := v45) (s_pure (o_ixS g41 g43 e45)) ?_
          have hq := bindO_inv hr
          clear hr
          obtain ⟨v46, e46, hr⟩ := hq
          refine wo_step (v := v46) (s_ld rfl e46) ?_
          have hq := bindP_inv hr
          clear hr
          obtain ⟨v14, m_9, e14, hr⟩ := hq
          refine wo_step (v := v14) (s_al e14) ?_
          have hq := bindP_inv hr
          clear hr
          obtain ⟨vn_2, m_10, en_2, hr⟩ := hq
          refine wo_stepN (s_st rfl rfl en_2) ?_
          refine wo_nil ?_
          refine nx_norm ?_
          refine w_seq ?_
          refine w_any ?_
          refine wa_step (v := v30) (a_pure (p_mv g10)) ?_
          have hq := bindO_inv hr
          clear hr
          obtain ⟨v48, e48, hr⟩ := hq
          refine wa_step (v := v48) (a_pure (o_faddr rfl e48)) ?_
          have hq := bindO_inv hr
          clear hr
          obtain ⟨v49, e49, hr⟩ := hq
          have hq := asI_inv hr
          clear hr
          obtain ⟨x49, rfl, hr⟩ := hq
          refine wa_step (v := (.i .i64 x49)) (a_ld rfl e49) ?_
          have hq := bindO_inv hr
          clear hr
          obtain ⟨v50, e50, hr⟩ := hq
          refine wa_step (v := v50) (a_pure (o_ixS rfl rfl e50)) ?_
          have hq := bindO_inv hr
          clear hr
          obtain ⟨v51, e51, hr⟩ := hq
          have hq := asI_inv hr
          clear hr
          obtain ⟨x51, rfl, hr⟩ := hq
          refine wa_step (v := (.i .i64 x51)) (a_ld rfl e51) ?_
          refine wa_step (v := v30) (a_pure (p_mv g10)) ?_
          have hq := bindO_inv hr
          clear hr
          obtain ⟨v53, e53, hr⟩ := hq
          refine wa_step (v := v53) (a_pure (o_faddr rfl e53)) ?_
          have hq := bindO_inv hr
          clear hr
          obtain ⟨v54, e54, hr⟩ := hq
          have hq := asI_inv hr
          clear hr
          obtain ⟨x54, rfl, hr⟩ := hq
          refine wa_step (v := (.i .i64 x54)) (a_ld rfl e54) ?_
          have hq := bindO_inv hr
          clear hr
          obtain ⟨v55, e55, hr⟩ := hq
          refine wa_step (v := v55) (a_pure (o_ixS rfl rfl e55)) ?_
          have hq := bindO_inv hr
          clear hr
          obtain ⟨v56, e56, hr⟩ := hq
          have hq := asI_inv hr
          clear hr
          obtain ⟨x56, rfl, hr⟩ := hq
          refine wa_step (v := (.i .i64 x56)) (a_ld rfl e56) ?_
          refine wa_step (v := (.i .i64 x51)) (a_pure (p_mv rfl)) ?_
          refine wa_step (v := (.i .i64 x56)) (a_pure (p_mv rfl)) ?_
          refine wa_nil ?_
          refine ⟨m_10, rfl, ?_⟩
          refine nx_norm ?_
          refine w_seq ?_
          refine w_seq ?_
          refine w_ops ?_
          refine wo_step (v := (.i .i64 x51)) (s_pure (p_mv rfl)) ?_
          refine wo_step (v := (.i .i64 x56)) (s_pure (p_mv rfl)) ?_
          have hq := forceB_inv hr
          clear hr
          obtain ⟨c59, e59, hr⟩ := hq
          refine wo_step (v := (.b c59)) (s_pure (p_bin rfl rfl (b_eql.trans (cb e59)))) ?_
          refine wo_nil ?_
          refine nx_norm ?_
          have hq := bindO_inv hr
          clear hr
          obtain ⟨o_1, hr, hk⟩ := hq
          refine jp_mono (J := g36_J2 v30 x51 x56 v2 x42 x43 m_10 o_1) ?_ ?_
          · clear hk
            have hq := cond_inv hr
            clear hr
            rcases hq with ⟨rfl, hr⟩ | ⟨rfl, hr⟩
            · refine w_condT rfl ?_
              refine w_ops ?_
              refine wo_step (v := (.i .i64 x12)) (s_pure (p_mv g12)) ?_
              have hq := forceI_inv hr
              clear hr
              obtain ⟨x61, e61, hr⟩ := hq
              refine wo_step (v := (.i .i64 x61)) (s_pure (p_bin rfl rfl (b_add.trans (ci e61)))) ?_
              refine wo_step (v := (.i .i64 x61)) (s_pure (p_mv rfl)) ?_
              refine wo_nil ?_
              cases hr
              exact ⟨_, _, rfl, rfl, rfl, gl rfl, gl g10, gl rfl, gl rfl, gl g41, gl g42, gl g43⟩
            · refine w_condF rfl ?_
              refine w_skip ?_
              cases hr
              exact ⟨_, _, rfl, rfl, rfl, gl g12, gl g10, gl rfl, gl rfl, gl g41, gl g42, gl g43⟩
          · have hr := hk
            clear hk
            obtain ⟨x12_1, ho⟩ : ∃ z, z = o_1 := ⟨_, rfl⟩
            subst ho
            rintro _ mm_3 t_4 ⟨rfl, rfl, g12, g10, g15, g16, g41, g42, g43⟩
            refine nx_norm ?_
            refine w_seq ?_
            refine w_ops ?_
            refine wo_step (v := v30) (s_pure (p_mv g10)) ?_
            have hq := bindO_inv hr
            clear hr
            obtain ⟨v63, e63, hr⟩ := hq
            have hq := asI_inv hr
            clear hr
            obtain ⟨x63, rfl, hr⟩ := hq
            refine wo_step (v := (.i .i64 x63)) (s_pure (o_len rfl e63)) ?_
            refine wo_step (v := (.i .i64 0)) (s_pure (p_mv rfl)) ?_
            refine wo_nil ?_
            refine nx_norm ?_
            refine w_block ?_
            have hq := bindO_inv hr
            clear hr
            obtain ⟨o_3, hl, hr⟩ := hq
            obtain ⟨n, hl⟩ := hM.loop _ _ _ hl
            refine jp_mono (w_loop _ (g36_I3 v30 x12_1 x51 x56 v2 x42 x43 x63) (g36_J3 v30 x12_1 x51 x56 v2 x42 x43 x63) ?_ n _ _ _ _ hl ⟨rfl, gl rfl, gl g10, gl g12, gl g15, gl g16, gl g41, gl g42, gl g43, gl rfl⟩) ?_
            · clear hr hl
              intro s mm_2 t_5 o hi hr
              obtain ⟨x64, m_11⟩ := s
              obtain ⟨rfl, g64, g10, g12, g15, g16, g41, g42, g43, g63⟩ := hi
              unfold g36_b3 at hr
              refine w_seq ?_
              refine w_ops ?_
              have hq := forceB_inv hr
              clear hr
              obtain ⟨c65, e65, hr⟩ := hq
              refine wo_step (v := (.b c65)) (s_pure (p_bin g64 g63 (b_lss.trans (cb e65)))) ?_
              refine wo_nil ?_
              refine nx_norm ?_
              refine w_seq ?_
              have hq := cond_inv hr
              clear hr
              rcases hq with ⟨rfl, hr⟩ | ⟨rfl, hr⟩
              · refine w_condT rfl ?_
                refine w_skip ?_
                refine nx_norm ?_
                refine w_seq ?_
                refine w_block ?_
                refine w_seq ?_
                refine w_ops ?_
                refine wo_step (v := (.i .i64 x64)) (s_pure (p_mv g64)) ?_
                refine wo_step (v := (.i .i64 x64)) (s_pure (p_mv rfl)) ?_
                refine wo_nil ?_
                refine nx_norm ?_
                refine w_seq ?_
                refine w_ops ?_
                refine wo_step (v := v30) (s_pure (p_mv g10)) ?_
                refine wo_step (v := (.i .i64 x64)) (s_pure (p_mv rfl)) ?_
                have hq := bindO_inv hr
                clear hr
                obtain ⟨v69, e69, hr⟩ := hq
                refine wo_step (v := v69) (s_pure (o_ixS rfl rfl e69)) ?_
                have hq := bindO_inv hr
                clear hr
                obtain ⟨v70, e70, hr⟩ := hq
                have hq := asI_inv hr
                clear hr
                obtain ⟨x70, rfl, hr⟩ := hq
                refine wo_step (v := (.i .i64 x70)) (s_ld rfl e70) ?_
                refine wo_step (v := (.i .i64 x56)) (s_pure (p_mv g16)) ?_
                have hq := forceB_inv hr
                clear hr
                obtain ⟨c72, e72, hr⟩ := hq
                refine wo_step (v := (.b c72)) (s_pure (p_bin rfl rfl (b_eql.trans (cb e72)))) ?_
                refine wo_nil ?_
                refine nx_norm ?_
                have hq := bindO_inv hr
                clear hr
                obtain ⟨o_2, hr, hk⟩ := hq
                refine jp_mono (J := g36_J4 v30 x12_1 x51 x56 v2 x42 x43 x63 x64 o_2) ?_ ?_
                · clear hk
                  have hq := cond_inv hr
                  clear hr
                  rcases hq with ⟨rfl, hr⟩ | ⟨rfl, hr⟩
                  · refine w_condT rfl ?_
                    refine w_ops ?_
                    refine wo_step (v := v30) (s_pure (p_mv g10)) ?_
                    refine wo_step (v := (.i .i64 x64)) (s_pure (p_mv rfl)) ?_
                    refine wo_step (v := (.i .i64 x51)) (s_pure (p_mv g15)) ?_
                    have hq := bindO_inv hr
                    clear hr
                    obtain ⟨v76, e76, hr⟩ := hq
                    refine wo_step (v := v76) (s_pure (o_ixS rfl rfl e76)) ?_
                    have hq := bindP_inv hr
                    clear hr
                    obtain ⟨vn_3, m_12, en_3, hr⟩ := hq
                    refine wo_stepN (s_st rfl rfl en_3) ?_
                    refine wo_nil ?_
                    cases hr
                    exact ⟨_, _, rfl, rfl, rfl, gl g10, gl g12, gl g15, gl g16, gl g41, gl g42, gl g43, gl g63, gl g64⟩
                  · refine w_condF rfl ?_
                    refine w_skip ?_
                    cases hr
                    exact ⟨_, _, rfl, rfl, rfl, gl g10, gl g12, gl g15, gl g16, gl g41, gl g42, gl g43, gl g63, gl g64⟩
                · have hr := hk
                  clear hk
                  obtain ⟨m_13, ho⟩ : ∃ z, z = o_2 := ⟨_, rfl⟩
                  subst ho
                  rintro _ mm t_6 ⟨rfl, rfl, g10, g12, g15, g16, g41, g42, g43, g63, g64⟩
                  refine bk_norm ?_
                  refine nx_norm ?_
                  refine w_ops ?_
                  have hq := forceI_inv hr
                  clear hr
                  obtain ⟨x77, e77, hr⟩ := hq
                  refine wo_step (v := (.i .i64 x77)) (s_pure (p_bin g64 rfl (b_add.trans (ci e77)))) ?_
                  refine wo_step (v := (.i .i64 x77)) (s_pure (p_mv rfl)) ?_
                  refine wo_nil ?_
                  cases hr
                  exact ⟨_, _, rfl, rfl, rfl, gl rfl, gl g10, gl g12, gl g15, gl g16, gl g41, gl g42, gl g43, gl g63⟩
              · refine w_condF rfl ?_
                refine w_exit ?_
                refine nx_exit ?_
                cases hr
                exact ⟨_, _, rfl, ne_norm_exit, rfl, rfl, gl g10, gl g12, gl g41, gl g42, gl g43⟩
            · obtain ⟨m_14, ho⟩ : ∃ z, z = o_3 := ⟨_, rfl⟩
              subst ho
              rintro _ mm_1 t_7 ⟨rfl, rfl, g10, g12, g41, g42, g43⟩
              refine bk_hit ?_
              refine bk_norm ?_
              refine nx_norm ?_
              refine w_ops ?_
              have hq := forceI_inv hr
              clear hr
              obtain ⟨x78, e78, hr⟩ := hq
              refine wo_step (v := (.i .i64 x78)) (s_pure (p_bin g43 rfl (b_add.trans (ci e78)))) ?_
              refine wo_step (v := (.i .i64 x78)) (s_pure (p_mv rfl)) ?_
              refine wo_nil ?_
              cases hr
              exact ⟨_, _, rfl, rfl, rfl, gl g12, gl rfl, gl g10, gl g41, gl g42⟩
        · refine w_condF rfl ?_
          refine w_exit ?_
          refine nx_exit ?_
          cases hr
          exact ⟨_, _, rfl, ne_norm_exit, rfl, rfl, gl g12⟩
      · obtain ⟨x12_2, m_15⟩ := o_4
        rintro _ mm_4 t_8 ⟨rfl, rfl, g12⟩
        refine bk_hit ?_
        refine nx_norm ?_
        refine w_seq ?_
        refine w_ops ?_
        refine wo_step (v := (.i .i64 x12_2)) (s_pure (p_mv g12)) ?_
        refine wo_step (v := (.i .i64 x12_2)) (s_pure (p_mv rfl)) ?_
        refine wo_step (v := (.i .i64 0)) (s_pure (p_mv rfl)) ?_
        refine wo_nil ?_
        refine nx_norm ?_
        refine w_ret ?_
        exact qf ret_ok (rt rfl (rt rfl rn)) hr

/- dibber/dibberref04.Groups -/
abbrev g38_I0 (x0 : Int) (v1 : AVal) (v13 : AVal) (s : Int × Mm) (m1 : Mm) (t1 : Tr) : Prop :=
  match s with
  | (x6, m_2) => m_2 = m1 ∧ t1.get 6 = (.i .i64 x6) ∧ t1.get 0 = (.i .i64 x0) ∧ t1.get 1 = v1 ∧ t1.get 5 = v13
abbrev g38_J0 (x0 : Int) (v1 : AVal) (v13 : AVal) (o : Mm) (e : AExit) (m1 : Mm) (t1 : Tr) : Prop :=
  match o with
  | mo => e = (.exit 0) ∧ mo = m1 ∧ t1.get 0 = (.i .i64 x0) ∧ t1.get 1 = v1 ∧ t1.get 5 = v13
def g38_b0 (M : Means) (ro : List ABlk) (x0 : Int) (v1 : AVal) (v13 : AVal) (x6 : Int) (m_2 : Mm) : Option ((Int × Mm) ⊕ (Mm)) :=
  forceB (ltI x6 x0) fun c16 =>
  cond c16 (
    bindO (evP .e (.ixS 1 (.c v13) (.c (.i .i64 x6)))) fun v22 =>
    bindP (stepM ro m_2 (.st 1 (.c v22) (.c (.i .i64 x6)))) fun vn m_3 =>
    forceI (wr .i64 (x6 + 1)) fun x18 =>
    some (.inl (x18, m_3))) (
    some (.inr m_2))
abbrev g38_I1 (x0 : Int) (v1 : AVal) (v13 : AVal) (s : Int × Int × Mm) (m1 : Mm) (t1 : Tr) : Prop :=
  match s with
  | (x7, x8, m_5) => m_5 = m1 ∧ t1.get 7 = (.i .i64 x7) ∧ t1.get 8 = (.i .i64 x8) ∧ t1.get 0 = (.i .i64 x0) ∧ t1.get 1 = v1 ∧ t1.get 5 = v13
abbrev g38_J1 (x0 : Int) (v1 : AVal) (v13 : AVal) (o : (Int × Mm)) (e : AExit) (m1 : Mm) (t1 : Tr) : Prop :=
  match o with
  | (y7, mo) => e = (.exit 2) ∧ mo = m1 ∧ t1.get 7 = (.i .i64 y7)
abbrev g38_J2 (x0 : Int) (v1 : AVal) (v13 : AVal) (x8 : Int) (o : (Int × Mm)) (e : AExit) (m1 : Mm) (t1 : Tr) : Prop :=
  match o with
  | (y7, mo) => e = .norm ∧ mo = m1 ∧ t1.get 7 = (.i .i64 y7) ∧ t1.get 0 = (.i .i64 x0) ∧ t1.get 1 = v1 ∧ t1.get 5 = v13 ∧ t1.get 8 = (.i .i64 x8)
abbrev g38_I3 (x0 : Int) (v1 : AVal) (v13 : AVal) (x50 : Int) (x8 : Int) (x37 : Int) (x45 : Int) (s : Int × Mm) (m1 : Mm) (t1 : Tr) : Prop :=
  match s with
  | (x11, m_6) => m_6 = m1 ∧ t1.get 11 = (.i .i64 x11) ∧ t1.get 0 = (.i .i64 x0) ∧ t1.get 1 = v1 ∧ t1.get 5 = v13 ∧ t1.get 7 = (.i .i64 x50) ∧ t1.get 8 = (.i .i64 x8) ∧ t1.get 9 = (.i .i64 x37) ∧ t1.get 10 = (.i .i64 x45)
abbrev g38_J3 (x0 : Int) (v1 : AVal) (v13 : AVal) (x50 : Int) (x8 : Int) (x37 : Int) (x45 : Int) (o : Mm) (e : AExit) (m1 : Mm) (t1 : Tr) : Prop :=
  match o with
  | mo => e = (.exit 4) ∧ mo = m1 ∧ t1.get 0 = (.i .i64 x0) ∧ t1.get 1 = v1 ∧ t1.get 5 = v13 ∧ t1.get 7 = (.i .i64 x50) ∧ t1.get 8 = (.i .i64 x8)
abbrev g38_J4 (x0 : Int) (v1 : AVal) (v13 : AVal) (x50 : Int) (x8 : Int) (x37 : Int) (x45 : Int) (x11 : Int) (o : Mm) (e : AExit) (m1 : Mm) (t1 : Tr) : Prop :=
  match o with
  | mo => e = .norm ∧ mo = m1 ∧ t1.get 0 = (.i .i64 x0) ∧ t1.get 1 = v1 ∧ t1.get 5 = v13 ∧ t1.get 7 = (.i .i64 x50) ∧ t1.get 8 = (.i .i64 x8) ∧ t1.get 9 = (.i .i64 x37) ∧ t1.get 10 = (.i .i64 x45) ∧ t1.get 11 = (.i .i64 x11)
def g38_b3 (M : Means) (ro : List ABlk) (x0 : Int) (v1 : AVal) (v13 : AVal) (x50 : Int) (x8 : Int) (x37 : Int) (x45 : Int) (x11 : Int) (m_6 : Mm) : Option ((Int × Mm) ⊕ (Mm)) :=
  forceB (ltI x11 x0) fun c53 =>
  cond c53 (
    bindO (evP .e (.ixS 1 (.c v13) (.c (.i .i64 x11)))) fun v58 =>
    bindO (ldM ro m_6 true 1 v58) fun v59 =>
    asI .i64 v59 fun x59 =>
    forceB (eqI x59 x37) fun c61 =>
    bindO (α := Mm) (
      cond c61 (
        bindO (evP .e (.ixS 1 (.c v13) (.c (.i .i64 x11)))) fun v65 =>
        bindP (stepM ro m_6 (.st 1 (.c v65) (.c (.i .i64 x45)))) fun vn_1 m_7 =>
        some m_7) (
        some m_6)) fun m_8 =>
    forceI (wr .i64 (x11 + 1)) fun x55 =>
    some (.inl (x55, m_8))) (
    some (.inr m_6))
def g38_b1 (M : Means) (ro : List ABlk) (x0 : Int) (v1 : AVal) (v13 : AVal) (x7 : Int) (x8 : Int) (m_5 : Mm) : Option ((Int × Int × Mm) ⊕ ((Int × Mm))) :=
  bindO (evP .e (.len false (.c v1))) fun v26 =>
  asI .i64 v26 fun x26 =>
  forceB (ltI x8 x26) fun c27 =>
  cond c27 (
    bindO (α := (Int × Mm)) (
      bindO (evP .e (.ixS 4 (.c v1) (.c (.i .i64 x8)))) fun v33 =>
      bindO (evP .e (.faddr 0 (.c v33))) fun v34 =>
      bindO (ldA ro m_5.h true 1 v34) fun v35 =>
      asI .i64 v35 fun x35 =>
      bindO (evP .e (.ixS 1 (.c v13) (.c (.i .i64 x35)))) fun v36 =>
      bindO (ldA ro m_5.h true 1 v36) fun v37 =>
      asI .i64 v37 fun x37 =>
      bindO (evP .e (.ixS 4 (.c v1) (.c (.i .i64 x8)))) fun v41 =>
      bindO (evP .e (.faddr 1 (.c v41))) fun v42 =>
      bindO (ldA ro m_5.h true 1 v42) fun v43 =>
      asI .i64 v43 fun x43 =>
      bindO (evP .e (.ixS 1 (.c v13) (.c (.i .i64 x43)))) fun v44 =>
      bindO (ldA ro m_5.h true 1 v44) fun v45 =>
      asI .i64 v45 fun x45 =>
      forceB (eqI x37 x45) fun c48 =>
      cond c48 (
        some (x7, m_5)) (
        forceI (wr .i64 (x7 - 1)) fun x50 =>
        bindO (M.loop (S := Int × Mm) (R := Mm) (fun s => g38_b3 M ro x0 v1 v13 x50 x8 x37 x45 s.1 s.2) (0, m_5)) fun m_9 =>
        some (x50, m_9))) fun ⟨x7_1, m_10⟩ =>
    forceI (wr .i64 (x8 + 1)) fun x29 =>
    some (.inl (x7_1, x29, m_10))) (
    some (.inr (x7, m_5)))
def g38 (M : Means) (ro : List ABlk) (x0 : Int) (v1 : AVal) (m0 : Mm) : Option (AVal × Heap × Nat × Nat) :=
  bindP (stepM ro m0 (.mk 3 1 8 [(AVal.i IntKind.i64 0)] (.c (.i .i64 x0)) (.c (.i .i64 x0)))) fun v13 m_1 =>
  bindO (M.loop (S := Int × Mm) (R := Mm) (fun s => g38_b0 M ro x0 v1 v13 s.1 s.2) (0, m_1)) fun m_4 =>
  bindO (M.loop (S := Int × Int × Mm) (R := (Int × Mm)) (fun s => g38_b1 M ro x0 v1 v13 s.1 s.2.1 s.2.2) (x0, 0, m_4)) fun ⟨x7_2, m_11⟩ =>
  finM m0.h.length (tupA [(.i .i64 x7_2)]) m_11

theorem g38_ok {ro : List ABlk} {O : Caller} {M : Means} (hM : M.Ok ⟨F, O⟩ ro) {x0 v1 h r} (ho : O 38 [(.i .i64 x0), v1] h = none) (hr : g38 M ro x0 v1 ⟨h, h.length, h.length⟩ = some r) : callX ⟨F, O⟩ ro 38 [(.i .i64 x0), v1] h = some r := by
  refine callX_of (F := ⟨F, O⟩) (fn := fn38) (g := g38 M ro x0 v1) ho rfl rfl hr ?_
  clear ho
  clear hr
  intro m0 t0 ht hr
  have g0 : t0.get 0 = (.i .i64 x0) := ht 0
  have g1 : t0.get 1 = v1 := ht 1
  clear ht
  unfold g38 at hr
  refine w_seq ?_
  refine w_ops ?_
  refine wo_step (v := (.i .i64 0)) (s_pure (p_mv rfl)) ?_
  refine wo_nil ?_
  refine nx_norm ?_
  refine w_seq ?_
  refine w_ops ?_
  refine wo_step (v := (.i .i64 x0)) (s_pure (p_mv g0)) ?_
  have hq := bindP_inv hr
  clear hr
  obtain ⟨v13, m_1, e13, hr⟩ := hq
  refine wo_step (v := v13) (s_mk rfl rfl e13) ?_
  refine wo_step (v := v13) (s_pure (p_mv rfl)) ?_
  refine wo_nil ?_
  refine nx_norm ?_
  refine w_seq ?_
  refine w_seq ?_
  refine w_ops ?_
  refine wo_step (v := (.i .i64 0)) (s_pure (p_mv rfl)) ?_
  refine wo_nil ?_
  refine nx_norm ?_
  refine w_block ?_
  have hq := bindO_inv hr
  clear hr
  obtain ⟨o, hl_2, hr⟩ := hq
  obtain ⟨n_2, hl_2⟩ := hM.loop _ _ _ hl_2
  refine jp_mono (w_loop _ (g38_I0 x0 v1 v13) (g38_J0 x0 v1 v13) ?_ n_2 _ _ _ _ hl_2 ⟨rfl, gl rfl, gl g0, gl g1, gl rfl⟩) ?_
  · clear hr hl_2
    intro s mm_7 t_1 o hi hr
    obtain ⟨x6, m_2⟩ := s
    obtain ⟨rfl, g6, g0, g1, g5⟩ := hi
    unfold g38_b0 at hr
    refine w_seq ?_
    refine w_seq ?_
    refine w_ops ?_
    refine wo_step (v := (.i .i64 x6)) (s_pure (p_mv g6)) ?_
    refine wo_step (v := (.i .i64 x0)) (s_pure (p_mv g0)) ?_
    have hq := forceB_inv hr
    clear hr
    obtain ⟨c16, e16, hr⟩ := hq
    refine wo_step (v := (.b c16)) (s_pure (p_bin rfl rfl (b_lss.trans (cb e16)))) ?_
    refine wo_nil ?_
    refine nx_norm ?_
    have hq := cond_inv hr
    clear hr
    rcases hq with ⟨rfl, hr⟩ | ⟨rfl, hr⟩
    · refine w_condT rfl ?_
      refine w_skip ?_
      refine nx_norm ?_
      refine w_seq ?_
      refine w_block ?_
      refine w_ops ?_
      refine wo_step (v := v13) (s_pure (p_mv g5)) ?_
      refine wo_step (v := (.i .i64 x6)) (s_pure (p_mv g6)) ?_
      refine wo_step (v := (.i .i64 x6)) (s_pure (p_mv g6)) ?_
      have hq := bindO_inv hr
      clear hr
      obtain ⟨v22, e22, hr⟩ := hq
      refine wo_step (v := v22) (s_pure (o_ixS rfl rfl e22)) ?_
      have hq := bindP_inv hr
      clear hr
      obtain ⟨vn, m_3, en, hr⟩ := hq
      refine wo_stepN (s_st rfl rfl en) ?_
      refine wo_nil ?_
      refine bk_norm ?_
      refine nx_norm ?_
      refine w_ops ?_
      refine wo_step (v := (.i .i64 x6)) (s_pure (p_mv g6)) ?_
      have hq := forceI_inv hr
      clear hr
      obtain ⟨x18, e18, hr⟩ := hq
      refine wo_step (v := (.i .i64 x18)) (s_pure (p_bin rfl rfl (b_add.trans (ci e18)))) ?_
      refine wo_step (v := (.i .i64 x18)) (s_pure (p_mv rfl)) ?_
      refine wo_nil ?_
      cases hr
      exact ⟨_, _, rfl, rfl, rfl, gl rfl, gl g0, gl g1, gl g5⟩
    · refine w_condF rfl ?_
      refine w_exit ?_
      refine nx_exit ?_
      cases hr
      exact ⟨_, _, rfl, ne_norm_exit, rfl, rfl, gl g0, gl g1, gl g5⟩
  · obtain ⟨m_4, ho⟩ : ∃ z, z = o := ⟨_, rfl⟩
    subst ho
    rintro _ mm_6 t_2 ⟨rfl, rfl, g0, g1, g5⟩
    refine bk_hit ?_
    refine nx_norm ?_
    refine w_seq ?_
    refine w_ops ?_
    refine wo_step (v := (.i .i64 x0)) (s_pure (p_mv g0)) ?_
    refine wo_step (v := (.i .i64 x0)) (s_pure (p_mv rfl)) ?_
    refine wo_nil ?_
    refine nx_norm ?_
    refine w_seq ?_
    refine w_seq ?_
    refine w_ops ?_
    refine wo_step (v := (.i .i64 0)) (s_pure (p_mv rfl)) ?_
    refine wo_nil ?_
    refine nx_norm ?_
    refine w_block ?_
    have hq := bindO_inv hr
    clear hr
    obtain ⟨o_4, hl_1, hr⟩ := hq
    obtain ⟨n_1, hl_1⟩ := hM.loop _ _ _ hl_1
    refine jp_mono (w_loop _ (g38_I1 x0 v1 v13) (g38_J1 x0 v1 v13) ?_ n_1 _ _ _ _ hl_1 ⟨rfl, gl rfl, gl rfl, gl g0, gl g1, gl g5⟩) ?_
    · clear hr hl_1
      intro s mm_5 t_3 o hi hr
      obtain ⟨x7, x8, m_5⟩ := s
      obtain ⟨rfl, g7, g8, g0, g1, g5⟩ := hi
      unfold g38_b1 at hr
      refine w_seq ?_
      refine w_seq ?_
      refine w_ops ?_
      refine wo_step (v := (.i .i64 x8)) (s_pure (p_mv g8)) ?_
      refine wo_step (v := v1) (s_pure (p_mv g1)) ?_
      have hq := bindO_inv hr
      clear hr
      obtain ⟨v26, e26, hr⟩ := hq
      have hq := asI_inv hr
      clear hr
      obtain ⟨x26, rfl, hr⟩ := hq
      refine wo_step (v := (.i .i64 x26)) (s_pure (o_len rfl e26)) ?_
      have hq := forceB_inv hr
      clear hr
      obtain ⟨c27, e27, hr⟩ := hq
      refine wo_step (v := (.b c27)) (s_pure (p_bin rfl rfl (b_lss.trans (cb e27)))) ?_
      refine wo_nil ?_
      refine nx_norm ?_
      have hq := cond_inv hr
      clear hr
      rcases hq with ⟨rfl, hr⟩ | ⟨rfl, hr⟩
      · refine w_condT rfl ?_
        refine w_skip ?_
        refine nx_norm ?_
        refine w_seq ?_
        have hq := bindO_inv hr
        clear hr
        obtain ⟨o_1, hr, hk⟩ := hq
        refine jp_mono (J := g38_J2 x0 v1 v13 x8 o_1) ?_ ?_
        · clear hk
          refine w_block ?_
          refine w_seq ?_
          refine w_any ?_
          refine wa_step (v := v13) (a_pure (p_mv g5)) ?_
          refine wa_step (v := v1) (a_pure (p_mv g1)) ?_
          refine wa_step (v := (.i .i64 x8)) (a_pure (p_mv g8)) ?_
          have hq := bindO_inv hr
          clear hr
          obtain ⟨v33, e33, hr⟩ := hq
          refine wa_step (v := v33) (a_pure (o_ixS rfl rfl e33)) ?_
          have hq := bindO_inv hr
          clear hr
          obtain ⟨v34, e34, hr⟩ := hq
          refine wa_step (v := v34) (a_pure (o_faddr rfl e34)) ?_
          have hq := bindO_inv hr
          clear hr
          obtain ⟨v35, e35, hr⟩ := hq
          have hq := asI_inv hr
          clear hr
          obtain ⟨x35, rfl, hr⟩ := hq
          refine wa_step (v := (.i .i64 x35)) (a_ld rfl e35) ?_
          have hq := bindO_inv hr
          clear hr
          obtain ⟨v36, e36, hr⟩ := hq
          refine wa_step (v := v36) (a_pure (o_ixS rfl rfl e36)) ?_
          have hq := bindO_inv hr
          clear hr
          obtain ⟨v37, e37, hr⟩ := hq
          have hq := asI_inv hr
          clear hr
          obtain ⟨x37, rfl, hr⟩ := hq
          refine wa_step (v := (.i .i64 x37)) (a_ld rfl e37) ?_
          refine wa_step (v := v13) (a_pure (p_mv g5)) ?_
          refine wa_step (v := v1) (a_pure (p_mv g1)) ?_
          refine wa_step (v := (.i .i64 x8)) (a_pure (p_mv g8)) ?_
          have hq := bindO_inv hr
          clear hr
          obtain ⟨v41, e41, hr⟩ := hq
          refine wa_step (v := v41) (a_pure (o_ixS rfl rfl e41)) ?_
          have hq := bindO_inv hr
          clear hr
          obtain ⟨v42, e42, hr⟩ := hq
          refine wa_step (v := v42) (a_pure (o_faddr rfl e42)) ?_
          have hq := bindO_inv hr
          clear hr
          obtain ⟨v43, e43, hr⟩ := hq
          have hq := asI_inv hr
          clear hr
          obtain ⟨x43, rfl, hr⟩ := hq
          refine wa_step (v := (.i .i64 x43)) (a_ld rfl e43) ?_
          have hq := bindO_inv hr
          clear hr
          obtain ⟨v44, e44, hr⟩ := hq
          refine wa_step (v := v44) (a_pure (o_ixS rfl rfl e44)) ?_
          have hq := bindO_inv hr
          clear hr
          obtain ⟨v45, e45, hr⟩ := hq
          have hq := asI_inv hr
          clear hr
          obtain ⟨x45, rfl, hr⟩ := hq
          refine wa_step (v := (.i .i64 x45)) (a_ld rfl e45) ?_
          refine wa_step (v := (.i .i64 x37)) (a_pure (p_mv rfl)) ?_
          refine wa_step (v := (.i .i64 x45)) (a_pure (p_mv rfl)) ?_
          refine wa_nil ?_
          refine ⟨m_5, rfl, ?_⟩
          refine nx_norm ?_
          refine w_seq ?_
          refine w_seq ?_
          refine w_ops ?_
          refine wo_step (v := (.i .i64 x37)) (s_pure (p_mv rfl)) ?_
          refine wo_step (v := (.i .i64 x45)) (s_pure (p_mv rfl)) ?_
          have hq := forceB_inv hr
          clear hr
          obtain ⟨c48, e48, hr⟩ := hq
          refine wo_step (v := (.b c48)) (s_pure (p_bin rfl rfl (b_eql.trans (cb e48)))) ?_
          refine wo_nil ?_
          refine nx_norm ?_
          have hq := cond_inv hr
          clear hr
          rcases hq with ⟨rfl, hr⟩ | ⟨rfl, hr⟩
          · refine w_condT rfl ?_
            refine w_exit ?_
            refine nx_exit ?_
            refine bk_hit ?_
            cases hr
            exact ⟨_, _, rfl, rfl, rfl, gl g7, gl g0, gl g1, gl g5, gl g8⟩
          · refine w_condF rfl ?_
            refine w_skip ?_
            refine nx_norm ?_
            refine w_seq ?_
            refine w_ops ?_
            refine wo_step (v := (.i .i64 x7)) (s_pure (p_mv g7)) ?_
            have hq := forceI_inv hr
            clear hr
            obtain ⟨x50, e50, hr⟩ := hq
            refine wo_step (v := (.i .i64 x50)) (s_pure (p_bin rfl rfl (b_sub.trans (ci e50)))) ?_
            refine wo_step (v := (.i .i64 x50)) (s_pure (p_mv rfl)) ?_
            refine wo_nil ?_
            refine nx_norm ?_
            refine w_seq ?_
            refine w_ops ?_
            refine wo_step (v := (.i .i64 0)) (s_pure (p_mv rfl)) ?_
            refine wo_nil ?_
            refine nx_norm ?_
            refine w_block ?_
            have hq := bindO_inv hr
            clear hr
            obtain ⟨o_3, hl, hr⟩ := hq
            obtain ⟨n, hl⟩ := hM.loop _ _ _ hl
            refine jp_mono (w_loop _ (g38_I3 x0 v1 v13 x50 x8 x37 x45) (g38_J3 x0 v1 v13 x50 x8 x37 x45) ?_ n _ _ _ _ hl ⟨rfl, gl rfl, gl g0, gl g1, gl g5, gl rfl, gl g8, gl rfl, gl rfl⟩) ?_
            · clear hr hl
              intro s mm_2 t_4 o hi hr
              obtain ⟨x11, m_6⟩ := s
              obtain ⟨rfl, g11, g0, g1, g5, g7, g8, g9, g10⟩ := hi
              unfold g38_b3 at hr
              refine w_seq ?_
              refine w_seq ?_
              refine w_ops ?_
              refine wo_step (v := (.i .i64 x11)) (s_pure (p_mv g11)) ?_
              refine wo_step (v := (.i .i64 x0)) (s_pure (p_mv g0)) ?_
              have hq := forceB_inv hr
              clear hr
              obtain ⟨c53, e53, hr⟩ := hq
              refine wo_step (v := (.b c53)) (s_pure (p_bin rfl rfl (b_lss.trans (cb e53)))) ?_
              refine wo_nil ?_
              refine nx_norm ?_
              have hq := cond_inv hr
              clear hr
              rcases hq with ⟨rfl, hr⟩ | ⟨rfl, hr⟩
              · refine w_condT rfl ?_
                refine w_skip ?_
                refine nx_norm ?_
                refine w_seq ?_
                refine w_block ?_
                refine w_seq ?_
                refine w_ops ?_
                refine wo_step (v := v13) (s_pure (p_mv g5)) ?_
                refine wo_step (v := (.i .i64 x11)) (s_pure (p_mv g11)) ?_
                have hq := bindO_inv hr
                clear hr
                obtain ⟨v58, e58, hr⟩ := hq
                refine wo_step (v := v58) (s_pure (o_ixS rfl rfl e58)) ?_
                have hq := bindO_inv hr
                clear hr
                obtain ⟨v59, e59, hr⟩ := hq
                have hq := asI_inv hr
                clear hr
                obtain ⟨x59, rfl, hr⟩ := hq
                refine wo_step (v := (.i .i64 x59)) (s_ld rfl e59) ?_
                refine wo_step (v := (.i .i64 x37)) (s_pure (p_mv g9)) ?_
                have hq := forceB_inv hr
                clear hr
                obtain ⟨c61, e61, hr⟩ := hq
                refine wo_step (v := (.b c61)) (s_pure (p_bin rfl rfl (b_eql.trans (cb e61)))) ?_
                refine wo_nil ?_
                refine nx_norm ?_
                have hq := bindO_inv hr
                clear hr
                obtain ⟨o_2, hr, hk⟩ := hq
                refine jp_mono (J := g38_J4 x0 v1 v13 x50 x8 x37 x45 x11 o_2) ?_ ?_
                · clear hk
                  have hq := cond_inv hr
                  clear hr
                  rcases hq with ⟨rfl, hr⟩ | ⟨rfl, hr⟩
                  · refine w_condT rfl ?_
                    refine w_ops ?_
                    refine wo_step (v := v13) (s_pure (p_mv g5)) ?_
                    refine wo_step (v := (.i .i64 x11)) (s_pure (p_mv g11)) ?_
                    refine wo_step (v := (.i .i64 x45)) (s_pure (p_mv g10)) ?_
                    have hq := bindO_inv hr
                    clear hr
                    obtain ⟨v65, e65, hr⟩ := hq
                    refine wo_step (v := v65) (s_pure (o_ixS rfl rfl e65)) ?_
                    have hq := bindP_inv hr
                    clear hr
                    obtain ⟨vn_1, m_7, en_1, hr⟩ := hq
                    refine wo_stepN (s_st rfl rfl en_1) ?_
                    refine wo_nil ?_
                    cases hr
                    exact ⟨_, _, rfl, rfl, rfl, gl g0, gl g1, gl g5, gl g7, gl g8, gl g9, gl g10, gl g11⟩
                  · refine w_condF rfl ?_
                    refine w_skip ?_
                    cases hr
                    exact ⟨_, _, rfl, rfl, rfl, gl g0, gl g1, gl g5, gl g7, gl g8, gl g9, gl g10, gl g11⟩
                · have hr := hk
                  clear hk
                  obtain ⟨m_8, ho⟩ : ∃ z, z = o_2 := ⟨_, rfl⟩
                  subst ho
                  rintro _ mm t_5 ⟨rfl, rfl, g0, g1, g5, g7, g8, g9, g10, g11⟩
                  refine bk_norm ?_
                  refine nx_norm ?_
                  refine w_ops ?_
                  refine wo_step (v := (.i .i64 x11)) (s_pure (p_mv g11)) ?_
                  have hq := forceI_inv hr
                  clear hr
                  obtain ⟨x55, e55, hr⟩ := hq
                  refine wo_step (v := (.i .i64 x55)) (s_pure (p_bin rfl rfl (b_add.trans (ci e55)))) ?_
                  refine wo_step (v := (.i .i64 x55)) (s_pure (p_mv rfl)) ?_
                  refine wo_nil ?_
                  cases hr
                  exact ⟨_, _, rfl, rfl, rfl, gl rfl, gl g0, gl g1, gl g5, gl g7, gl g8, gl g9, gl g10⟩
              · refine w_condF rfl ?_
                refine w_exit ?_
                refine nx_exit ?_
                cases hr
                exact ⟨_, _, rfl, ne_norm_exit, rfl, rfl, gl g0, gl g1, gl g5, gl g7, gl g8⟩
            · obtain ⟨m_9, ho⟩ : ∃ z, z = o_3 := ⟨_, rfl⟩
              subst ho
              rintro _ mm_1 t_6 ⟨rfl, rfl, g0, g1, g5, g7, g8⟩
              refine bk_hit ?_
              refine bk_norm ?_
              cases hr
              exact ⟨_, _, rfl, rfl, rfl, gl g7, gl g0, gl g1, gl g5, gl g8⟩
        · have hr := hk
          clear hk
          obtain ⟨x7_1, m_10⟩ := o_1
          rintro _ mm_3 t_7 ⟨rfl, rfl, g7, g0, g1, g5, g8⟩
          refine nx_norm ?_
          refine w_ops ?_
          refine wo_step (v := (.i .i64 x8)) (s_pure (p_mv g8)) ?_
          have hq := forceI_inv hr
          clear hr
          obtain ⟨x29, e29, hr⟩ := hq
          refine wo_step (v := (.i .i64 x29)) (s_pure (p_bin rfl rfl (b_add.trans (ci e29)))) ?_
          refine wo_step (v := (.i .i64 x29)) (s_pure (p_mv rfl)) ?_
          refine wo_nil ?_
          cases hr
          exact ⟨_, _, rfl, rfl, rfl, gl g7, gl rfl, gl g0, gl g1, gl g5⟩
      · refine w_condF rfl ?_
        refine w_exit ?_
        refine nx_exit ?_
        cases hr
        exact ⟨_, _, rfl, ne_norm_exit, rfl, rfl, gl g7⟩
    · obtain ⟨x7_2, m_11⟩ := o_4
      rintro _ mm_4 t_8 ⟨rfl, rfl, g7⟩
      refine bk_hit ?_
      refine nx_norm ?_
      refine w_seq ?_
      refine w_ops ?_
      refine wo_step (v := (.i .i64 x7_2)) (s_pure (p_mv g7)) ?_
      refine wo_step (v := (.i .i64 x7_2)) (s_pure (p_mv rfl)) ?_
      refine wo_nil ?_
      refine nx_norm ?_
      refine w_ret ?_
      exact qf ret_ok (rt rfl rn) hr

/- dibber/turn.read -/
abbrev g43_J0 (x0 : Int) (x1 : Int) (v2 : AVal) (v6 : AVal) (m_1 : Mm) (o : Bool) (m1 : Mm) (t1 : Tr) : Prop :=
  match o with
  | c16 => m_1 = m1 ∧ t1.get 16 = (.b c16) ∧ t1.get 0 = (.i .i64 x0) ∧ t1.get 1 = (.i .i64 x1) ∧ t1.get 2 = v2 ∧ t1.get 6 = v6
abbrev g43_J1 (x0 : Int) (x1 : Int) (v2 : AVal) (v6 : AVal) (m_1 : Mm) (o : Bool) (m1 : Mm) (t1 : Tr) : Prop :=
  match o with
  | c20 => m_1 = m1 ∧ t1.get 20 = (.b c20) ∧ t1.get 0 = (.i .i64 x0) ∧ t1.get 1 = (.i .i64 x1) ∧ t1.get 2 = v2 ∧ t1.get 6 = v6
abbrev g43_J2 (x0 : Int) (x1 : Int) (v2 : AVal) (v6 : AVal) (m_1 : Mm) (o : Bool) (m1 : Mm) (t1 : Tr) : Prop :=
  match o with
  | c24 => m_1 = m1 ∧ t1.get 24 = (.b c24) ∧ t1.get 0 = (.i .i64 x0) ∧ t1.get 1 = (.i .i64 x1) ∧ t1.get 2 = v2 ∧ t1.get 6 = v6
abbrev g43_I3 (v6 : AVal) (v8 : AVal) (v2 : AVal) (x35 : Int) (s : Int × Mm) (m1 : Mm) (t1 : Tr) : Prop :=
  match s with
  | (x36, m_6) => m_6 = m1 ∧ t1.get 36 = (.i .i64 x36) ∧ t1.get 6 = v6 ∧ t1.get 8 = v8 ∧ t1.get 34 = v2 ∧ t1.get 35 = (.i .i64 x35)
abbrev g43_J3 (v6 : AVal) (v8 : AVal) (v2 : AVal) (x35 : Int) (o : (Mm ⊕ (Int × Mm))) (e : AExit) (m1 : Mm) (t1 : Tr) : Prop :=
  match o with
  | (.inl mo) => e = (.exit 0) ∧ mo = m1 ∧ t1.get 6 = v6 ∧ t1.get 8 = v8
  | (.inr (y7, mo)) => e = .ret ∧ mo = m1 ∧ t1.get 7 = (.i .i64 y7) ∧ t1.get 6 = v6
def g43_b3 (M : Means) (ro : List ABlk) (v6 : AVal) (v8 : AVal) (v2 : AVal) (x35 : Int) (x36 : Int) (m_6 : Mm) : Option ((Int × Mm) ⊕ ((Mm ⊕ (Int × Mm)))) :=
  forceB (ltI x36 x35) fun c37 =>
  cond c37 (
    bindO (evP .e (.ixS 4 (.c v2) (.c (.i .i64 x36)))) fun v38 =>
    bindO (ldM ro m_6 false 4 v38) fun v39 =>
    bindP (stepM ro m_6 (.al 31 [(AVal.i IntKind.i64 0), (AVal.i IntKind.i64 0), (AVal.i IntKind.i64 0), (AVal.i IntKind.i64 0)])) fun v10 m_7 =>
    bindP (stepM ro m_7 (.st 4 (.c v10) (.c v39))) fun vn_3 m_8 =>
    bindO (ldM ro m_8 false 3 v8) fun v40 =>
    bindO (ldM ro m_8 false 4 v10) fun v41 =>
    bindP (callM M.call m_8 60 [v40, v41]) fun v42 m_9 =>
    asB v42 fun c42 =>
    forceB (!c42) fun c43 =>
    cond c43 (
      bindO ((fillA [(AVal.i IntKind.i64 0), (AVal.i IntKind.i64 0), AVal.nsl] []).map AVal.agg) fun v44 =>
      bindP (stepM ro m_9 (.st 3 (.c v6) (.c v44))) fun vn_4 m_10 =>
      some (.inr (.inr (2, m_10)))) (
      forceI (wr .i64 (x36 + 1)) fun x45 =>
      some (.inl (x45, m_9)))) (
    some (.inr (.inl m_6)))
def g43 (M : Means) (ro : List ABlk) (x0 : Int) (x1 : Int) (v2 : AVal) (m0 : Mm) : Option (AVal × Heap × Nat × Nat) :=
  bindP (stepM ro m0 (.al 55 [(AVal.i IntKind.i64 0), (AVal.i IntKind.i64 0), AVal.nsl])) fun v6 m_1 =>
  forceB (ltI x0 1) fun c12 =>
  bindO (cond c12 (
    some true) (
    forceB (ltI 24 x0) fun c15 =>
    some c15)) fun c16 =>
  bindO (cond c16 (
    some true) (
    forceB (ltI x1 1) fun c19 =>
    some c19)) fun c20 =>
  bindO (cond c20 (
    some true) (
    forceB (ltI 6 x1) fun c23 =>
    some c23)) fun c24 =>
  cond c24 (
    bindO ((fillA [(AVal.i IntKind.i64 0), (AVal.i IntKind.i64 0), AVal.nsl] []).map AVal.agg) fun v25 =>
    bindP (stepM ro m_1 (.st 3 (.c v6) (.c v25))) fun vn m_2 =>
    bindO (ldM ro m_2 false 3 v6) fun vr =>
    finM m0.h.length (tupA [vr, (.i .i64 2)]) m_2) (
    bindO (evP .e (.len false (.c v2))) fun v27 =>
    asI .i64 v27 fun x27 =>
    forceB (ltI 20 x27) fun c28 =>
    cond c28 (
      bindO ((fillA [(AVal.i IntKind.i64 0), (AVal.i IntKind.i64 0), AVal.nsl] []).map AVal.agg) fun v29 =>
      bindP (stepM ro m_1 (.st 3 (.c v6) (.c v29))) fun vn_1 m_3 =>
      bindO (ldM ro m_3 false 3 v6) fun vr_1 =>
      finM m0.h.length (tupA [vr_1, (.i .i64 3)]) m_3) (
      bindO ((fillA [(AVal.i IntKind.i64 0), (AVal.i IntKind.i64 0), AVal.nsl] [((0, 1), (.i .i64 x0)), ((1, 1), (.i .i64 x1)), ((2, 1), v2)]).map AVal.agg) fun v33 =>
      bindP (stepM ro m_1 (.al 55 [(AVal.i IntKind.i64 0), (AVal.i IntKind.i64 0), AVal.nsl])) fun v8 m_4 =>
      bindP (stepM ro m_4 (.st 3 (.c v8) (.c v33))) fun vn_2 m_5 =>
      bindO (evP .e (.len false (.c v2))) fun v35 =>
      asI .i64 v35 fun x35 =>
      bindO (M.loop (S := Int × Mm) (R := (Mm ⊕ (Int × Mm))) (fun s => g43_b3 M ro v6 v8 v2 x35 s.1 s.2) (0, m_5)) fun o_3 => match o_3 with
      | (.inl m_11) =>
        bindO (ldM ro m_11 false 3 v8) fun v46 =>
        bindP (stepM ro m_11 (.st 3 (.c v6) (.c v46))) fun vn_5 m_12 =>
        bindO (ldM ro m_12 false 3 v6) fun vr_2 =>
        finM m0.h.length (tupA [vr_2, (.i .i64 0)]) m_12
      | (.inr (x7, m_13)) =>
        bindO (ldM ro m_13 false 3 v6) fun vr_3 =>
        finM m0.h.length (tupA [vr_3, (.i .i64 x7)]) m_13))

theorem g43_ok {ro : List ABlk} {O : Caller} {M : Means} (hM : M.Ok ⟨F, O⟩ ro) {x0 x1 v2 h r} (ho : O 43 [(.i .i64 x0), (.i .i64 x1), v2] h = none) (hr : g43 M ro x0 x1 v2 ⟨h, h.length, h.length⟩ = some r) : callX ⟨F, O⟩ ro 43 [(.i .i64 x0), (.i .i64 x1), v2] h = some r := by
  refine callX_of (F := ⟨F, O⟩) (fn := fn43) (g := g43 M ro x0 x1 v2) ho rfl rfl hr ?_
  clear ho
  clear hr
  intro m0 t0 ht hr
  have g0 : t0.get 0 = (.i .i64 x0) := ht 0
  have g1 : t0.get 1 = (.i .i64 x1) := ht 1
  have g2 : t0.get 2 = v2 := ht 2
  clear ht
  unfold g43 at hr
  refine w_seq ?_
  refine w_ops ?_
  have hq := bindP_inv hr
  clear hr
  obtain ⟨v6, m_1, e6, hr⟩ := hq
  refine wo_step (v := v6) (s_al e6) ?_
  refine wo_step (v := (.i .i64 0)) (s_pure (p_mv rfl)) ?_
  refine wo_nil ?_
  refine nx_norm ?_
  refine w_seq ?_
  refine w_seq ?_
  refine w_ops ?_
  refine wo_step (v := (.i .i64 x0)) (s_pure (p_mv g0)) ?_
  have hq := forceB_inv hr
  clear hr
  obtain ⟨c12, e12, hr⟩ := hq
  refine wo_step (v := (.b c12)) (s_pure (p_bin rfl rfl (b_lss.trans (cb e12)))) ?_
  refine wo_step (v := (.b c12)) (s_pure (p_mv rfl)) ?_
  have hq := bindO_inv hr
  clear hr
  obtain ⟨o, hr, hk⟩ := hq
  refine wo_join 3 (g43_J0 x0 x1 v2 v6 m_1 o) ?_ ?_
  · clear hk
    have hq := cond_inv hr
    clear hr
    rcases hq with ⟨rfl, hr⟩ | ⟨rfl, hr⟩
    · refine wo_skip (v := (.b true)) rfl rfl ?_
      refine wo_skip (v := (.b true)) rfl rfl ?_
      refine wo_step (v := (.b true)) (s_pure (p_pickT rfl rfl)) ?_
      refine wo_nil ?_
      cases hr
      exact ⟨_, _, rfl, rfl, gl rfl, gl g0, gl g1, gl g2, gl rfl⟩
    · refine wo_take (v := (.i .i64 x0)) rfl (s_pure (p_mv g0)) ?_
      have hq := forceB_inv hr
      clear hr
      obtain ⟨c15, e15, hr⟩ := hq
      refine wo_take (v := (.b c15)) rfl (s_pure (p_bin rfl rfl (b_gtr.trans (cb e15)))) ?_
      refine wo_step (v := (.b c15)) (s_pure (p_pickF rfl rfl)) ?_
      refine wo_nil ?_
      cases hr
      exact ⟨_, _, rfl, rfl, gl rfl, gl g0, gl g1, gl g2, gl rfl⟩
  · clear hr
    have hr := hk
    clear hk
    obtain ⟨c16, ho⟩ : ∃ z, z = o := ⟨_, rfl⟩
    subst ho
    rintro mm t_1 ⟨rfl, g16, g0, g1, g2, g6⟩
    refine wo_step (v := (.b c16)) (s_pure (p_mv g16)) ?_
    have hq := bindO_inv hr
    clear hr
    obtain ⟨o_1, hr, hk⟩ := hq
    refine wo_join 3 (g43_J1 x0 x1 v2 v6 m_1 o_1) ?_ ?_
    · clear hk
      have hq := cond_inv hr
      clear hr
      rcases hq with ⟨rfl, hr⟩ | ⟨rfl, hr⟩
      · refine wo_skip (v := (.b true)) rfl rfl ?_
        refine wo_skip (v := (.b true)) rfl rfl ?_
        refine wo_step (v := (.b true)) (s_pure (p_pickT rfl rfl)) ?_
        refine wo_nil ?_
        cases hr
        exact ⟨_, _, rfl, rfl, gl rfl, gl g0, gl g1, gl g2, gl g6⟩
      · refine wo_take (v := (.i .i64 x1)) rfl (s_pure (p_mv g1)) ?_
        have hq := forceB_inv hr
        clear hr
        obtain ⟨c19, e19, hr⟩ := hq
        refine wo_take (v := (.b c19)) rfl (s_pure (p_bin rfl rfl (b_lss.trans (cb e19)))) ?_
        refine wo_step (v := (.b c19)) (s_pure (p_pickF rfl rfl)) ?_
        refine wo_nil ?_
        cases hr
        exact ⟨_, _, rfl, rfl, gl rfl, gl g0, gl g1, gl g2, gl g6⟩
    · clear hr
      have hr := hk
      clear hk
      obtain ⟨c20, ho⟩ : ∃ z, z = o_1 := ⟨_, rfl⟩
      subst ho
      rintro mm_1 t_2 ⟨rfl, g20, g0, g1, g2, g6⟩
      refine wo_step (v := (.b c20)) (s_pure (p_mv g20)) ?_
      have hq := bindO_inv hr
      clear hr
      obtain ⟨o_2, hr, hk⟩ := hq
      refine wo_join 3 (g43_J2 x0 x1 v2 v6 m_1 o_2) ?_ ?_
      · clear hk
        have hq := cond_inv hr
        clear hr
        rcases hq with ⟨rfl, hr⟩ | ⟨rfl, hr⟩
        · refine wo_skip (v := (.b true)) rfl rfl ?_
          refine wo_skip (v := (.b true)) rfl rfl ?_
          refine wo_step (v := (.b true)) (s_pure (p_pickT rfl rfl)) ?_
          refine wo_nil ?_
          cases hr
          exact ⟨_, _, rfl, rfl, gl rfl, gl g0, gl g1, gl g2, gl g6⟩
        · refine wo_take (v := (.i .i64 x1)) rfl (s_pure (p_mv g1)) ?_
          have hq := forceB_inv hr
          clear hr
          obtain ⟨c23, e23, hr⟩ := hq
          refine wo_take (v := (.b c23)) rfl (s_pure (p_bin rfl rfl (b_gtr.trans (cb e23)))) ?_
          refine wo_step (v := (.b c23)) (s_pure (p_pickF rfl rfl)) ?_
          refine wo_nil ?_
          cases hr
          exact ⟨_, _, rfl, rfl, gl rfl, gl g0, gl g1, gl g2, gl g6⟩
      · clear hr
        have hr := hk
        clear hk
        obtain ⟨c24, ho⟩ : ∃ z, z = o_2 := ⟨_, rfl⟩
        subst ho
        rintro mm_2 t_3 ⟨rfl, g24, g0, g1, g2, g6⟩
        refine wo_nil ?_
        refine nx_norm ?_
        have hq := cond_inv hr
        clear hr
        rcases hq with ⟨rfl, hr⟩ | ⟨rfl, hr⟩
        · refine w_condT g24 ?_
          refine w_seq ?_
          refine w_ops ?_
          have hq := bindO_inv hr
          clear hr
          obtain ⟨v25, e25, hr⟩ := hq
          refine wo_step (v := v25) (s_pure (o_build qn e25)) ?_
          have hq := bindP_inv hr
          clear hr
          obtain ⟨vn, m_2, en, hr⟩ := hq
          refine wo_stepN (s_st g6 rfl en) ?_
          refine wo_step (v := (.i .i64 2)) (s_pure (p_mv rfl)) ?_
          refine wo_nil ?_
          refine nx_norm ?_
          refine w_ret ?_
          refine nx_ret ?_
          have hq := bindO_inv hr
          clear hr
          obtain ⟨vr, er, hr⟩ := hq
          exact qf ret_ok (rc g6 er (rt rfl rn)) hr
        · refine w_condF g24 ?_
          refine w_skip ?_
          refine nx_norm ?_
          refine w_seq ?_
          refine w_seq ?_
          refine w_ops ?_
          refine wo_step (v := v2) (s_pure (p_mv g2)) ?_
          have hq := bindO_inv hr
          clear hr
          obtain ⟨v27, e27, hr⟩ := hq
          have hq := asI_inv hr
          clear hr
          obtain ⟨x27, rfl, hr⟩ := hq
          refine wo_step (v := (.i .i64 x27)) (s_pure (o_len rfl e27)) ?_
          have hq := forceB_inv hr
          clear hr
          obtain ⟨c28, e28, hr⟩ := hq
          refine wo_step (v := (.b c28)) (s_pure (p_bin rfl rfl (b_gtr.trans (cb e28)))) ?_
          refine wo_nil ?_
          refine nx_norm ?_
          have hq := cond_inv hr
          clear hr
          rcases hq with ⟨rfl, hr⟩ | ⟨rfl, hr⟩
          · refine w_condT rfl ?_
            refine w_seq ?_
            refine w_ops ?_
            have hq := bindO_inv hr
            clear hr
            obtain ⟨v29, e29, hr⟩ := hq
            refine wo_step (v := v29) (s_pure (o_build qn e29)) ?_
            have hq := bindP_inv hr
            clear hr
            obtain ⟨vn_1, m_3, en_1, hr⟩ := hq
            refine wo_stepN (s_st g6 rfl en_1) ?_
            refine wo_step (v := (.i .i64 3)) (s_pure (p_mv rfl)) ?_
            refine wo_nil ?_
            refine nx_norm ?_
            refine w_ret ?_
            refine nx_ret ?_
            have hq := bindO_inv hr
            clear hr
            obtain ⟨vr_1, er_1, hr⟩ := hq
            exact qf ret_ok (rc g6 er_1 (rt rfl rn)) hr
          · refine w_condF rfl ?_
            refine w_skip ?_
            refine nx_norm ?_
            refine w_seq ?_
            refine w_ops ?_
            refine wo_step (v := (.i .i64 x0)) (s_pure (p_mv g0)) ?_
            refine wo_step (v := (.i .i64 x1)) (s_pure (p_mv g1)) ?_
            refine wo_step (v := v2) (s_pure (p_mv g2)) ?_
            have hq := bindO_inv hr
            clear hr
            obtain ⟨v33, e33, hr⟩ := hq
            refine wo_step (v := v33) (s_pure (o_build (qc rfl (qc rfl (qc rfl qn))) e33)) ?_
            have hq := bindP_inv hr
            clear hr
            obtain ⟨v8, m_4, e8, hr⟩ := hq
            refine wo_step (v := v8) (s_al e8) ?_
            have hq := bindP_inv hr
            clear hr
            obtain ⟨vn_2, m_5, en_2, hr⟩ := hq
            refine wo_stepN (s_st rfl rfl en_2) ?_
            refine wo_nil ?_
            refine nx_norm ?_
            refine w_seq ?_
            refine w_seq ?_
            refine w_ops ?_
            refine wo_step (v := v2) (s_pure (p_mv g2)) ?_
            have hq := bindO_inv hr
            clear hr
            obtain ⟨v35, e35, hr⟩ := hq
            have hq := asI_inv hr
            clear hr
            obtain ⟨x35, rfl, hr⟩ := hq
            refine wo_step (v := (.i .i64 x35)) (s_pure (o_len rfl e35)) ?_
            refine wo_step (v := (.i .i64 0)) (s_pure (p_mv rfl)) ?_
            refine wo_nil ?_
            refine nx_norm ?_
            refine w_block ?_
            have hq := bindO_inv hr
            clear hr
            obtain ⟨o_3, hl, hr⟩ := hq
            obtain ⟨n, hl⟩ := hM.loop _ _ _ hl
            refine jp_mono (w_loop _ (g43_I3 v6 v8 v2 x35) (g43_J3 v6 v8 v2 x35) ?_ n _ _ _ _ hl ⟨rfl, gl rfl, gl g6, gl rfl, gl rfl, gl rfl⟩) ?_
            · clear hr hl
              intro s mm_5 t_4 o hi hr
              obtain ⟨x36, m_6⟩ := s
              obtain ⟨rfl, g36, g6, g8, g34, g35⟩ := hi
              unfold g43_b3 at hr
              refine w_seq ?_
              refine w_ops ?_
              have hq := forceB_inv hr
              clear hr
              obtain ⟨c37, e37, hr⟩ := hq
              refine wo_step (v := (.b c37)) (s_pure (p_bin g36 g35 (b_lss.trans (cb e37)))) ?_
              refine wo_nil ?_
              refine nx_norm ?_
              refine w_seq ?_
              have hq := cond_inv hr
              clear hr
              rcases hq with ⟨rfl, hr⟩ | ⟨rfl, hr⟩
              · refine w_condT rfl ?_
                refine w_skip ?_
                refine nx_norm ?_
                refine w_seq ?_
                refine w_block ?_
                refine w_seq ?_
                refine w_ops ?_
                have hq := bindO_inv hr
                clear hr
                obtain ⟨v38, e38, hr⟩ := hq
                refine wo_step (v := v38) (s_pure (o_ixS g34 g36 e38)) ?_
                have hq := bindO_inv hr
                clear hr
                obtain ⟨v39, e39, hr⟩ := hq
                refine wo_step (v := v39) (s_ld rfl e39) ?_
                have hq := bindP_inv hr
                clear hr
                obtain ⟨v10, m_7, e10, hr⟩ := hq
                refine wo_step (v := v10) (s_al e10) ?_
                have hq := bindP_inv hr
                clear hr
                obtain ⟨vn_3, m_8, en_3, hr⟩ := hq
                refine wo_stepN (s_st rfl rfl en_3) ?_
                refine wo_nil ?_
                refine nx_norm ?_
                refine w_seq ?_
                refine w_ops ?_
                have hq := bindO_inv hr
                clear hr
                obtain ⟨v40, e40, hr⟩ := hq
                refine wo_step (v := v40) (s_ld g8 e40) ?_
                have hq := bindO_inv hr
                clear hr
                obtain ⟨v41, e41, hr⟩ := hq
                refine wo_step (v := v41) (s_ld rfl e41) ?_
                have hq := bindP_inv hr
                clear hr
                obtain ⟨v42, m_9, e42, hr⟩ := hq
                have hq := asB_inv hr
                clear hr
                obtain ⟨c42, rfl, hr⟩ := hq
                refine wo_step (v := (.b c42)) (s_call (mc rfl (mc rfl mn)) (callM_le hM.call e42)) ?_
                have hq := forceB_inv hr
                clear hr
                obtain ⟨c43, e43, hr⟩ := hq
                refine wo_step (v := (.b c43)) (s_pure ((p_not rfl).trans (cb e43))) ?_
                refine wo_nil ?_
                refine nx_norm ?_
                have hq := cond_inv hr
                clear hr
                rcases hq with ⟨rfl, hr⟩ | ⟨rfl, hr⟩
                · refine w_condT rfl ?_
                  refine w_seq ?_
                  refine w_ops ?_
                  have hq := bindO_inv hr
                  clear hr
                  obtain ⟨v44, e44, hr⟩ := hq
                  refine wo_step (v := v44) (s_pure (o_build qn e44)) ?_
                  have hq := bindP_inv hr
                  clear hr
                  obtain ⟨vn_4, m_10, en_4, hr⟩ := hq
                  refine wo_stepN (s_st g6 rfl en_4) ?_
                  refine wo_step (v := (.i .i64 2)) (s_pure (p_mv rfl)) ?_
                  refine wo_nil ?_
                  refine nx_norm ?_
                  refine w_ret ?_
                  refine bk_ret ?_
                  refine nx_ret ?_
                  cases hr
                  exact ⟨_, _, rfl, ne_norm_ret, rfl, rfl, gl rfl, gl g6⟩
                · refine w_condF rfl ?_
                  refine w_skip ?_
                  refine bk_norm ?_
                  refine nx_norm ?_
                  refine w_ops ?_
                  have hq := forceI_inv hr
                  clear hr
                  obtain ⟨x45, e45, hr⟩ := hq
                  refine wo_step (v := (.i .i64 x45)) (s_pure (p_bin g36 rfl (b_add.trans (ci e45)))) ?_
                  refine wo_step (v := (.i .i64 x45)) (s_pure (p_mv rfl)) ?_
                  refine wo_nil ?_
                  cases hr
                  exact ⟨_, _, rfl, rfl, rfl, gl rfl, gl g6, gl g8, gl g34, gl g35⟩
              · refine w_condF rfl ?_
                refine w_exit ?_
                refine nx_exit ?_
                cases hr
                exact ⟨_, _, rfl, ne_norm_exit, rfl, rfl, gl g6, gl g8⟩
            · rcases o_3 with o_3 | o_3
              · obtain ⟨m_11, ho⟩ : ∃ z, z = o_3 := ⟨_, rfl⟩
                subst ho
                rintro _ mm_3 t_5 ⟨rfl, rfl, g6, g8⟩
                refine bk_hit ?_
                refine nx_norm ?_
                refine w_seq ?_
                refine w_ops ?_
                have hq := bindO_inv hr
                clear hr
                obtain ⟨v46, e46, hr⟩ := hq
                refine wo_step (v := v46) (s_ld g8 e46) ?_
                have hq := bindP_inv hr
                clear hr
                obtain ⟨vn_5, m_12, en_5, hr⟩ := hq
                refine wo_stepN (s_st g6 rfl en_5) ?_
                refine wo_step (v := (.i .i64 0)) (s_pure (p_mv rfl)) ?_
                refine wo_nil ?_
                refine nx_norm ?_
                refine w_ret ?_
                have hq := bindO_inv hr
                clear hr
                obtain ⟨vr_2, er_2, hr⟩ := hq
                exact qf ret_ok (rc g6 er_2 (rt rfl rn)) hr
              · obtain ⟨x7, m_13⟩ := o_3
                rintro _ mm_4 t_6 ⟨rfl, rfl, g7, g6⟩
                refine bk_ret ?_
                refine nx_ret ?_
                have hq := bindO_inv hr
                clear hr
                obtain ⟨vr_3, er_3, hr⟩ := hq
                exact qf ret_ok (rc g6 er_3 (rt g7 rn)) hr

/- (dibber/turn.demands).plans -/

def g44 (M : Means) (ro : List ABlk) (v0 : AVal) (m0 : Mm) : Option (AVal × Heap × Nat × Nat) :=
  bindP (stepM ro m0 (.bx 55 3 (.c v0))) fun v1 m_1 =>
  bindO (some (AVal.fn 61 [] [v1])) fun v3 =>
  finM m0.h.length (tupA [v3]) m_1

theorem g44_ok {ro : List ABlk} {O : Caller} {M : Means} (hM : M.Ok ⟨F, O⟩ ro) {v0 h r} (ho : O 44 [v0] h = none) (hr : g44 M ro v0 ⟨h, h.length, h.length⟩ = some r) : callX ⟨F, O⟩ ro 44 [v0] h = some r := by
  refine callX_of (F := ⟨F, O⟩) (fn := fn44) (g := g44 M ro v0) ho rfl rfl hr ?_
  clear ho
  clear hr
  intro m0 t0 ht hr
  have g0 : t0.get 0 = v0 := ht 0
  clear ht
  unfold g44 at hr
  refine w_seq ?_
  refine w_ops ?_
  have hq := bindP_inv hr
  clear hr
  obtain ⟨v1, m_1, e1, hr⟩ := hq
  refine wo_step (v := v1) (s_bx g0 e1) ?_
  refine wo_step (v := AVal.nfn) (s_pure (p_mv rfl)) ?_
  refine wo_nil ?_
  refine nx_norm ?_
  refine w_seq ?_
  refine w_ops ?_
  have hq := bindO_inv hr
  clear hr
  obtain ⟨v3, e3, hr⟩ := hq
  refine wo_step (v := v3) (s_pure ((o_mkfn mn (mc rfl mn)).trans e3)) ?_
  refine wo_step (v := v3) (s_pure (p_mv rfl)) ?_
  refine wo_nil ?_
  refine nx_norm ?_
  refine w_ret ?_
  exact qf ret_ok (rt rfl rn) hr

/- (dibber/turn.demands).ring -/
abbrev g54_I0 (v2 : AVal) (v6 : AVal) (v1 : AVal) (x13 : Int) (s : AVal × Int × Mm) (m1 : Mm) (t1 : Tr) : Prop :=
  match s with
  | (v7, x14, m_3) => m_3 = m1 ∧ t1.get 7 = v7 ∧ t1.get 14 = (.i .i64 x14) ∧ t1.get 2 = v2 ∧ t1.get 6 = v6 ∧ t1.get 12 = v1 ∧ t1.get 13 = (.i .i64 x13)
abbrev g54_J0 (v2 : AVal) (v6 : AVal) (v1 : AVal) (x13 : Int) (o : ((AVal × Mm) ⊕ (AVal × Bool × Mm))) (e : AExit) (m1 : Mm) (t1 : Tr) : Prop :=
  match o with
  | (.inl (y7, mo)) => e = (.exit 0) ∧ mo = m1 ∧ t1.get 7 = y7
  | (.inr (y4, y5, mo)) => e = .ret ∧ mo = m1 ∧ t1.get 4 = y4 ∧ t1.get 5 = (.b y5)
abbrev g54_J1 (v2 : AVal) (v6 : AVal) (v7 : AVal) (x14 : Int) (v10 : AVal) (v1 : AVal) (x13 : Int) (m_6 : Mm) (o : Bool) (m1 : Mm) (t1 : Tr) : Prop :=
  match o with
  | c32 => m_6 = m1 ∧ t1.get 32 = (.b c32) ∧ t1.get 2 = v2 ∧ t1.get 6 = v6 ∧ t1.get 7 = v7 ∧ t1.get 8 = (.i .i64 x14) ∧ t1.get 10 = v10 ∧ t1.get 12 = v1 ∧ t1.get 13 = (.i .i64 x13) ∧ t1.get 14 = (.i .i64 x14)
abbrev g54_J2 (v2 : AVal) (v6 : AVal) (v7 : AVal) (v10 : AVal) (v1 : AVal) (x13 : Int) (x14 : Int) (m_6 : Mm) (o : Bool) (m1 : Mm) (t1 : Tr) : Prop :=
  match o with
  | c47 => m_6 = m1 ∧ t1.get 47 = (.b c47) ∧ t1.get 2 = v2 ∧ t1.get 6 = v6 ∧ t1.get 7 = v7 ∧ t1.get 10 = v10 ∧ t1.get 12 = v1 ∧ t1.get 13 = (.i .i64 x13) ∧ t1.get 14 = (.i .i64 x14)
abbrev g54_J3 (v2 : AVal) (v6 : AVal) (v7 : AVal) (v10 : AVal) (v1 : AVal) (x13 : Int) (x14 : Int) (m_6 : Mm) (o : Bool) (m1 : Mm) (t1 : Tr) : Prop :=
  match o with
  | c47_1 => m_6 = m1 ∧ t1.get 47 = (.b c47_1) ∧ t1.get 2 = v2 ∧ t1.get 6 = v6 ∧ t1.get 7 = v7 ∧ t1.get 10 = v10 ∧ t1.get 12 = v1 ∧ t1.get 13 = (.i .i64 x13) ∧ t1.get 14 = (.i .i64 x14)
def g54_b0 (M : Means) (ro : List ABlk) (v2 : AVal) (v6 : AVal) (v1 : AVal) (x13 : Int) (v7 : AVal) (x14 : Int) (m_3 : Mm) : Option ((AVal × Int × Mm) ⊕ (((AVal × Mm) ⊕ (AVal × Bool × Mm)))) :=
  forceB (ltI x14 x13) fun c15 =>
  cond c15 (
    bindO (evP .e (.ixS 1 (.c v1) (.c (.i .i64 x14)))) fun v17 =>
    bindO (ldM ro m_3 true 1 v17) fun v18 =>
    asI .i64 v18 fun x18 =>
    bindO (ldM ro m_3 false 3 v2) fun v20 =>
    bindP (callM M.call m_3 74 [v20, (.i .i64 x18)]) fun v22 m_4 =>
    bindO (evP .e (.ext 0 (.c v22))) fun v23 =>
    bindO (evP .e (.ext 1 (.c v22))) fun v24 =>
    asB v24 fun c24 =>
    bindP (stepM ro m_4 (.al 31 [(AVal.i IntKind.i64 0), (AVal.i IntKind.i64 0), (AVal.i IntKind.i64 0), (AVal.i IntKind.i64 0)])) fun v10 m_5 =>
    bindP (stepM ro m_5 (.st 4 (.c v10) (.c v23))) fun vn m_6 =>
    forceB (!c24) fun c26 =>
    bindO (cond c26 (
      some true) (
      bindO (evP .e (.faddr 1 (.c v10))) fun v28 =>
      bindO (ldA ro m_6.h true 1 v28) fun v29 =>
      asI .i64 v29 fun x29 =>
      bindO (evP .e (.ixA 6 1 (.c v6) (.c (.i .i64 x29)))) fun v30 =>
      bindO (ldA ro m_6.h true 1 v30) fun v31 =>
      asB v31 fun c31 =>
      some c31)) fun c32 =>
    bindO (cond c32 (
      some true) (
      forceB (ltI 0 x14) fun c35 =>
      bindO (cond c35 (
        bindO (evP .e (.faddr 0 (.c v10))) fun v37 =>
        bindO (ldA ro m_6.h true 1 v37) fun v38 =>
        asI .i64 v38 fun x38 =>
        forceI (wr .i64 (x14 - 1)) fun x41 =>
        bindO (evP .e (.ixS 4 (.c v7) (.c (.i .i64 x41)))) fun v42 =>
        bindO (evP .e (.faddr 1 (.c v42))) fun v43 =>
        bindO (ldA ro m_6.h true 1 v43) fun v44 =>
        asI .i64 v44 fun x44 =>
        forceB (!eqI x38 x44) fun c45 =>
        some c45) (
        some false)) fun c47_1 =>
      some c47_1)) fun c47 =>
    cond c47 (
      some (.inr (.inr (AVal.nsl, false, m_6)))) (
      bindO (evP .e (.faddr 1 (.c v10))) fun v48 =>
      bindO (ldM ro m_6 true 1 v48) fun v49 =>
      asI .i64 v49 fun x49 =>
      bindO (evP .e (.ixA 6 1 (.c v6) (.c (.i .i64 x49)))) fun v50 =>
      bindP (stepM ro m_6 (.st 1 (.c v50) (.c (.b true)))) fun vn_1 m_7 =>
      bindO (ldM ro m_7 false 4 v10) fun v52 =>
      bindP (stepM ro m_7 (.bsl 31 4 [(AVal.i IntKind.i64 0), (AVal.i IntKind.i64 0), (AVal.i IntKind.i64 0), (AVal.i IntKind.i64 0)] 1 [((0, 4), .c v52)])) fun v53 m_8 =>
      bindP (stepM ro m_8 (.app 31 4 32 [(AVal.i IntKind.i64 0), (AVal.i IntKind.i64 0), (AVal.i IntKind.i64 0), (AVal.i IntKind.i64 0)] (.c v7) (.c v53))) fun v54 m_9 =>
      forceI (wr .i64 (x14 + 1)) fun x55 =>
      some (.inl (v54, x55, m_9)))) (
    some (.inr (.inl (v7, m_3))))
abbrev g54_J4 (v7_1 : AVal) (m_10 : Mm) (o : Bool) (m1 : Mm) (t1 : Tr) : Prop :=
  match o with
  | c72 => m_10 = m1 ∧ t1.get 72 = (.b c72) ∧ t1.get 7 = v7_1
def g54 (M : Means) (ro : List ABlk) (v0 : AVal) (v1 : AVal) (m0 : Mm) : Option (AVal × Heap × Nat × Nat) :=
  bindP (stepM ro m0 (.bx 55 3 (.c v0))) fun v2 m_1 =>
  bindP (stepM ro m_1 (.al 96 [(AVal.b false), (AVal.b false), (AVal.b false), (AVal.b false), (AVal.b false), (AVal.b false)])) fun v6 m_2 =>
  bindO (evP .e (.len false (.c v1))) fun v13 =>
  asI .i64 v13 fun x13 =>
  bindO (M.loop (S := AVal × Int × Mm) (R := ((AVal × Mm) ⊕ (AVal × Bool × Mm))) (fun s => g54_b0 M ro v2 v6 v1 x13 s.1 s.2.1 s.2.2) (AVal.nsl, 0, m_2)) fun o_3 => match o_3 with
  | (.inl (v7_1, m_10)) =>
    bindO (evP .e (.len false (.c v7_1))) fun v57 =>
    asI .i64 v57 fun x57 =>
    forceB (ltI x57 2) fun c58 =>
    bindO (cond c58 (
      some true) (
      bindO (evP .e (.len false (.c v7_1))) fun v62 =>
      asI .i64 v62 fun x62 =>
      forceI (wr .i64 (x62 - 1)) fun x63 =>
      bindO (evP .e (.ixS 4 (.c v7_1) (.c (.i .i64 x63)))) fun v64 =>
      bindO (evP .e (.faddr 1 (.c v64))) fun v65 =>
      bindO (ldA ro m_10.h true 1 v65) fun v66 =>
      asI .i64 v66 fun x66 =>
      bindO (evP .e (.ixS 4 (.c v7_1) (.c (.i .i64 0)))) fun v68 =>
      bindO (evP .e (.faddr 0 (.c v68))) fun v69 =>
      bindO (ldA ro m_10.h true 1 v69) fun v70 =>
      asI .i64 v70 fun x70 =>
      forceB (!eqI x66 x70) fun c71 =>
      some c71)) fun c72 =>
    cond c72 (
      finM m0.h.length (tupA [AVal.nsl, (.b false)]) m_10) (
      finM m0.h.length (tupA [v7_1, (.b true)]) m_10)
  | (.inr (v4, c5, m_11)) =>
    finM m0.h.length (tupA [v4, (.b c5)]) m_11

theorem g54_ok {ro : List ABlk} {O : Caller} {M : Means} (hM : M.Ok ⟨F, O⟩ ro) {v0 v1 h r} (ho : O 54 [v0, v1] h = none) (hr : g54 M ro v0 v1 ⟨h, h.length, h.length⟩ = some r) : callX ⟨F, O⟩ ro 54 [v0, v1] h = some r := by
  refine callX_of (F := ⟨F, O⟩) (fn := fn54) (g := g54 M ro v0 v1) ho rfl rfl hr ?_
  clear ho
  clear hr
  intro m0 t0 ht hr
  have g0 : t0.get 0 = v0 := ht 0
  have g1 : t0.get 1 = v1 := ht 1
  clear ht
  unfold g54 at hr
  refine w_seq ?_
  refine w_ops ?_
  have hq := bindP_inv hr
  clear hr
  obtain ⟨v2, m_1, e2, hr⟩ := hq
  refine wo_step (v := v2) (s_bx g0 e2) ?_
  refine wo_step (v := AVal.nsl) (s_pure (p_mv rfl)) ?_
  refine wo_step (v := (.b false)) (s_pure (p_mv rfl)) ?_
  refine wo_nil ?_
  refine nx_norm ?_
  refine w_seq ?_
  refine w_ops ?_
  have hq := bindP_inv hr
  clear hr
  obtain ⟨v6, m_2, e6, hr⟩ := hq
  refine wo_step (v := v6) (s_al e6) ?_
  refine wo_nil ?_
  refine nx_norm ?_
  refine w_seq ?_
  refine w_ops ?_
  refine wo_step (v := AVal.nsl) (s_pure (p_mv rfl)) ?_
  refine wo_nil ?_
  refine nx_norm ?_
  refine w_seq ?_
  refine w_seq ?_
  refine w_ops ?_
  refine wo_step (v := v1) (s_pure (p_mv g1)) ?_
  have hq := bindO_inv hr
  clear hr
  obtain ⟨v13, e13, hr⟩ := hq
  have hq := asI_inv hr
  clear hr
  obtain ⟨x13, rfl, hr⟩ := hq
  refine wo_step (v := (.i .i64 x13)) (s_pure (o_len rfl e13)) ?_
  refine wo_step (v := (.i .i64 0)) (s_pure (p_mv rfl)) ?_
  refine wo_nil ?_
  refine nx_norm ?_
  refine w_block ?_
  have hq := bindO_inv hr
  clear hr
  obtain ⟨o_3, hl, hr⟩ := hq
  obtain ⟨n, hl⟩ := hM.loop _ _ _ hl
  refine jp_mono (w_loop _ (g54_I0 v2 v6 v1 x13) (g54_J0 v2 v6 v1 x13) ?_ n _ _ _ _ hl ⟨rfl, gl rfl, gl rfl, gl rfl, gl rfl, gl rfl, gl rfl⟩) ?_
  · clear hr hl
    intro s mm_2 t_1 o hi hr
    obtain ⟨v7, x14, m_3⟩ := s
    obtain ⟨rfl, g7, g14, g2, g6, g12, g13⟩ := hi
    unfold g54_b0 at hr
    refine w_seq ?_
    refine w_ops ?_
    have hq := forceB_inv hr
    clear hr
    obtain ⟨c15, e15, hr⟩ := hq
    refine wo_step (v := (.b c15)) (s_pure (p_bin g14 g13 (b_lss.trans (cb e15)))) ?_
    refine wo_nil ?_
    refine nx_norm ?_
    refine w_seq ?_
    have hq := cond_inv hr
    clear hr
    rcases hq with ⟨rfl, hr⟩ | ⟨rfl, hr⟩
    · refine w_condT rfl ?_
      refine w_skip ?_
      refine nx_norm ?_
      refine w_seq ?_
      refine w_block ?_
      refine w_seq ?_
      refine w_ops ?_
      refine wo_step (v := (.i .i64 x14)) (s_pure (p_mv g14)) ?_
      have hq := bindO_inv hr
      clear hr
      obtain ⟨v17, e17, hr⟩ := hq
      refine wo_step (v := v17) (s_pure (o_ixS g12 g14 e17)) ?_
      have hq := bindO_inv hr
      clear hr
      obtain ⟨v18, e18, hr⟩ := hq
      have hq := asI_inv hr
      clear hr
      obtain ⟨x18, rfl, hr⟩ := hq
      refine wo_step (v := (.i .i64 x18)) (s_ld rfl e18) ?_
      refine wo_step (v := (.i .i64 x14)) (s_pure (p_mv rfl)) ?_
      refine wo_step (v := (.i .i64 x18)) (s_pure (p_mv rfl)) ?_
      refine wo_nil ?_
      refine nx_norm ?_
      refine w_seq ?_
      refine w_ops ?_
      have hq := bindO_inv hr
      clear hr
      obtain ⟨v20, e20, hr⟩ := hq
      refine wo_step (v := v20) (s_ld g2 e20) ?_
      refine wo_step (v := (.i .i64 x18)) (s_pure (p_mv rfl)) ?_
      have hq := bindP_inv hr
      clear hr
      obtain ⟨v22, m_4, e22, hr⟩ := hq
      refine wo_step (v := v22) (s_call (mc rfl (mc rfl mn)) (callM_le hM.call e22)) ?_
      refine wo_step (v := v22) (s_pure (p_mv rfl)) ?_
      have hq := bindO_inv hr
      clear hr
      obtain ⟨v23, e23, hr⟩ := hq
      refine wo_step (v := v23) (s_pure (o_ext rfl e23)) ?_
      have hq := bindO_inv hr
      clear hr
      obtain ⟨v24, e24, hr⟩ := hq
      have hq := asB_inv hr
      clear hr
      obtain ⟨c24, rfl, hr⟩ := hq
      refine wo_step (v := (.b c24)) (s_pure (o_ext rfl e24)) ?_
      have hq := bindP_inv hr
      clear hr
      obtain ⟨v10, m_5, e10, hr⟩ := hq
      refine wo_step (v := v10) (s_al e10) ?_
      have hq := bindP_inv hr
      clear hr
      obtain ⟨vn, m_6, en, hr⟩ := hq
      refine wo_stepN (s_st rfl rfl en) ?_
      refine wo_step (v := (.b c24)) (s_pure (p_mv rfl)) ?_
      refine wo_nil ?_
      refine nx_norm ?_
      refine w_seq ?_
      refine w_seq ?_
      refine w_any ?_
      refine wa_step (v := (.b c24)) (a_pure (p_mv rfl)) ?_
      have hq := forceB_inv hr
      clear hr
      obtain ⟨c26, e26, hr⟩ := hq
      refine wa_step (v := (.b c26)) (a_pure ((p_not rfl).trans (cb e26))) ?_
      refine wa_step (v := (.b c26)) (a_pure (p_mv rfl)) ?_
      have hq := bindO_inv hr
      clear hr
      obtain ⟨o, hr, hk⟩ := hq
      refine wa_join 5 (JA (g54_J1 v2 v6 v7 x14 v10 v1 x13 m_6 o) m_6 (m_6.h) [] []) ?_ ?_
      · clear hk
        have hq := cond_inv hr
        clear hr
        rcases hq with ⟨rfl, hr⟩ | ⟨rfl, hr⟩
        · refine wa_skip (v := (.b true)) rfl rfl ?_
          refine wa_skip (v := (.b true)) rfl rfl ?_
          refine wa_skip (v := (.b true)) rfl rfl ?_
          refine wa_skip (v := (.b true)) rfl rfl ?_
          refine wa_step (v := (.b true)) (a_pure (p_pickT rfl rfl)) ?_
          refine wa_nil ?_
          cases hr
          exact ja_in ⟨rfl, gl rfl, gl g2, gl g6, gl g7, gl rfl, gl rfl, gl g12, gl g13, gl g14⟩
        · have hq := bindO_inv hr
          clear hr
          obtain ⟨v28, e28, hr⟩ := hq
          refine wa_take (v := v28) rfl (a_pure (o_faddr rfl e28)) ?_
          have hq := bindO_inv hr
          clear hr
          obtain ⟨v29, e29, hr⟩ := hq
          have hq := asI_inv hr
          clear hr
          obtain ⟨x29, rfl, hr⟩ := hq
          refine wa_take (v := (.i .i64 x29)) rfl (a_ld rfl e29) ?_
          have hq := bindO_inv hr
          clear hr
          obtain ⟨v30, e30, hr⟩ := hq
          refine wa_take (v := v30) rfl (a_pure (o_ixA g6 rfl e30)) ?_
          have hq := bindO_inv hr
          clear hr
          obtain ⟨v31, e31, hr⟩ := hq
          have hq := asB_inv hr
          clear hr
          obtain ⟨c31, rfl, hr⟩ := hq
          refine wa_take (v := (.b c31)) rfl (a_ld rfl e31) ?_
          refine wa_step (v := (.b c31)) (a_pure (p_pickF rfl rfl)) ?_
          refine wa_nil ?_
          cases hr
          exact ja_in ⟨rfl, gl rfl, gl g2, gl g6, gl g7, gl rfl, gl rfl, gl g12, gl g13, gl g14⟩
      · clear hr
        have hr := hk
        clear hk
        obtain ⟨c32, ho⟩ : ∃ z, z = o := ⟨_, rfl⟩
        subst ho
        refine ja_out ?_
        rintro t_2 ⟨-, g32, g2, g6, g7, g8, g10, g12, g13, g14⟩
        refine wa_step (v := (.b c32)) (a_pure (p_mv g32)) ?_
        have hq := bindO_inv hr
        clear hr
        obtain ⟨o_1, hr, hk⟩ := hq
        refine wa_join 14 (JA (g54_J2 v2 v6 v7 v10 v1 x13 x14 m_6 o_1) m_6 (m_6.h) [] []) ?_ ?_
        · clear hk
          have hq := cond_inv hr
          clear hr
          rcases hq with ⟨rfl, hr⟩ | ⟨rfl, hr⟩
          · refine wa_skip (v := (.b true)) rfl rfl ?_
            refine wa_skip (v := (.b true)) rfl rfl ?_
            refine wa_skip (v := (.b true)) rfl rfl ?_
            refine wa_skip (v := und) rfl rfl ?_
            refine wa_skip (v := und) rfl rfl ?_
            refine wa_skip (v := und) rfl rfl ?_
            refine wa_skip (v := und) rfl rfl ?_
            refine wa_skip (v := und) rfl rfl ?_
            refine wa_skip (v := und) rfl rfl ?_
            refine wa_skip (v := und) rfl rfl ?_
            refine wa_skip (v := und) rfl rfl ?_
            refine wa_skip (v := und) rfl rfl ?_
            refine wa_skip (v := (.b true)) rfl rfl ?_
            refine wa_step (v := (.b true)) (a_pure (p_pickT rfl rfl)) ?_
            refine wa_nil ?_
            cases hr
            exact ja_in ⟨rfl, gl rfl, gl g2, gl g6, gl g7, gl g10, gl g12, gl g13, gl g14⟩
          · refine wa_take (v := (.i .i64 x14)) rfl (a_pure (p_mv g8)) ?_
            have hq := forceB_inv hr
            clear hr
            obtain ⟨c35, e35, hr⟩ := hq
            refine wa_take (v := (.b c35)) rfl (a_pure (p_bin rfl rfl (b_gtr.trans (cb e35)))) ?_
            refine wa_take (v := (.b c35)) rfl (a_pure (p_mv rfl)) ?_
            have hq := bindO_inv hr
            clear hr
            obtain ⟨o_2, hr, hk⟩ := hq
            refine wa_join 11 (JA (g54_J3 v2 v6 v7 v10 v1 x13 x14 m_6 o_2) m_6 (m_6.h) [] []) ?_ ?_
            · clear hk
              have hq := cond_inv hr
              clear hr
              rcases hq with ⟨rfl, hr⟩ | ⟨rfl, hr⟩
              · have hq := bindO_inv hr
                clear hr
                obtain ⟨v37, e37, hr⟩ := hq
                refine wa_take (v := v37) rfl (a_pure (o_faddr g10 e37)) ?_
                have hq := bindO_inv hr
                clear hr
                obtain ⟨v38, e38, hr⟩ := hq
                have hq := asI_inv hr
                clear hr
                obtain ⟨x38, rfl, hr⟩ := hq
                refine wa_take (v := (.i .i64 x38)) rfl (a_ld rfl e38) ?_
                refine wa_take (v := v7) rfl (a_pure (p_mv g7)) ?_
                refine wa_take (v := (.i .i64 x14)) rfl (a_pure (p_mv g8)) ?_
                have hq := forceI_inv hr
                clear hr
                obtain ⟨x41, e41, hr⟩ := hq
                refine wa_take (v := (.i .i64 x41)) rfl (a_pure (p_bin rfl rfl (b_sub.trans (ci e41)))) ?_
                have hq := bindO_inv hr
                clear hr
                obtain ⟨v42, e42, hr⟩ := hq
                refine wa_take (v := v42) rfl (a_pure (o_ixS rfl rfl e42)) ?_
                have hq := bindO_inv hr
                clear hr
                obtain ⟨v43, e43, hr⟩ := hq
                refine wa_take (v := v43) rfl (a_pure (o_faddr rfl e43)) ?_
                have hq := bindO_inv hr
                clear hr
                obtain ⟨v44, e44, hr⟩ := hq
                have hq := asI_inv hr
                clear hr
                obtain ⟨x44, rfl, hr⟩ := hq
                refine wa_take (v := (.i .i64 x44)) rfl (a_ld rfl e44) ?_
                have hq := forceB_inv hr
                clear hr
                obtain ⟨c45, e45, hr⟩ := hq
                refine wa_take (v := (.b c45)) rfl (a_pure (p_bin rfl rfl (b_neq.trans (cb e45)))) ?_
                refine wa_take (v := (.b c45)) rfl (a_pure (p_pickT rfl rfl)) ?_
                refine wa_step (v := (.b c45)) (a_pure (p_pickF rfl rfl)) ?_
                refine wa_nil ?_
                cases hr
                exact ja_in ⟨rfl, gl rfl, gl g2, gl g6, gl g7, gl g10, gl g12, gl g13, gl g14⟩
              · refine wa_skip (v := (.b false)) rfl rfl ?_
                refine wa_skip (v := (.b false)) rfl rfl ?_
                refine wa_skip (v := (.b false)) rfl rfl ?_
                refine wa_skip (v := (.b false)) rfl rfl ?_
                refine wa_skip (v := (.b false)) rfl rfl ?_
                refine wa_skip (v := (.b false)) rfl rfl ?_
                refine wa_skip (v := (.b false)) rfl rfl ?_
                refine wa_skip (v := (.b false)) rfl rfl ?_
                refine wa_skip (v := (.b false)) rfl rfl ?_
                refine wa_take (v := (.b false)) rfl (a_pure (p_pickF rfl rfl)) ?_
                refine wa_step (v := (.b false)) (a_pure (p_pickF rfl rfl)) ?_
                refine wa_nil ?_
                cases hr
                exact ja_in ⟨rfl, gl rfl, gl g2, gl g6, gl g7, gl g10, gl g12, gl g13, gl g14⟩
            · clear hr
              have hr := hk
              clear hk
              obtain ⟨c47_1, ho⟩ : ∃ z, z = o_2 := ⟨_, rfl⟩
              subst ho
              refine ja_out ?_
              rintro t_3 ⟨-, g47, g2, g6, g7, g10, g12, g13, g14⟩
              refine wa_nil ?_
              cases hr
              exact ja_in ⟨rfl, gl g47, gl g2, gl g6, gl g7, gl g10, gl g12, gl g13, gl g14⟩
        · clear hr
          have hr := hk
          clear hk
          obtain ⟨c47, ho⟩ : ∃ z, z = o_1 := ⟨_, rfl⟩
          subst ho
          refine ja_out ?_
          rintro t_4 ⟨-, g47, g2, g6, g7, g10, g12, g13, g14⟩
          refine wa_nil ?_
          refine ⟨m_6, rfl, ?_⟩
          refine nx_norm ?_
          have hq := cond_inv hr
          clear hr
          rcases hq with ⟨rfl, hr⟩ | ⟨rfl, hr⟩
          · refine w_condT g47 ?_
            refine w_seq ?_
            refine w_ops ?_
            refine wo_step (v := AVal.nsl) (s_pure (p_mv rfl)) ?_
            refine wo_step (v := (.b false)) (s_pure (p_mv rfl)) ?_
            refine wo_nil ?_
            refine nx_norm ?_
            refine w_ret ?_
            refine nx_ret ?_
            refine bk_ret ?_
            refine nx_ret ?_
            cases hr
            exact ⟨_, _, rfl, ne_norm_ret, rfl, rfl, gl rfl, gl rfl⟩
          · refine w_condF g47 ?_
            refine w_skip ?_
            refine nx_norm ?_
            refine w_seq ?_
            refine w_ops ?_
            have hq := bindO_inv hr
            clear hr
            obtain ⟨v48, e48, hr⟩ := hq
            refine wo_step (v := v48) (s_pure (o_faddr g10 e48)) ?_
            have hq := bindO_inv hr
            clear hr
            obtain ⟨v49, e49, hr⟩ := hq
            have hq := asI_inv hr
            clear hr
            obtain ⟨x49, rfl, hr⟩ := hq
            refine wo_step (v := (.i .i64 x49)) (s_ld rfl e49) ?_
            have hq := bindO_inv hr
            clear hr
            obtain ⟨v50, e50, hr⟩ := hq
            refine wo_step (v := v50) (s_pure (o_ixA g6 rfl e50)) ?_
            have hq := bindP_inv hr
            clear hr
            obtain ⟨vn_1, m_7, en_1, hr⟩ := hq
            refine wo_stepN (s_st rfl rfl en_1) ?_
            refine wo_nil ?_
            refine nx_norm ?_
            refine w_ops ?_
            refine wo_step (v := v7) (s_pure (p_mv g7)) ?_
            have hq := bindO_inv hr
            clear hr
            obtain ⟨v52, e52, hr⟩ := hq
            refine wo_step (v := v52) (s_ld g10 e52) ?_
            have hq := bindP_inv hr
            clear hr
            obtain ⟨v53, m_8, e53, hr⟩ := hq
            refine wo_step (v := v53) (s_bsl (qc rfl qn) e53) ?_
            have hq := bindP_inv hr
            clear hr
            obtain ⟨v54, m_9, e54, hr⟩ := hq
            refine wo_step (v := v54) (s_app rfl rfl e54) ?_
            refine wo_step (v := v54) (s_pure (p_mv rfl)) ?_
            refine wo_nil ?_
            refine bk_norm ?_
            refine nx_norm ?_
            refine w_ops ?_
            have hq := forceI_inv hr
            clear hr
            obtain ⟨x55, e55, hr⟩ := hq
            refine wo_step (v := (.i .i64 x55)) (s_pure (p_bin g14 rfl (b_add.trans (ci e55)))) ?_
            refine wo_step (v := (.i .i64 x55)) (s_pure (p_mv rfl)) ?_
            refine wo_nil ?_
            cases hr
            exact ⟨_, _, rfl, rfl, rfl, gl rfl, gl rfl, gl g2, gl g6, gl g12, gl g13⟩
    · refine w_condF rfl ?_
      refine w_exit ?_
      refine nx_exit ?_
      cases hr
      exact ⟨_, _, rfl, ne_norm_exit, rfl, rfl, gl g7⟩
  · rcases o_3 with o_3 | o_3
    · obtain ⟨v7_1, m_10⟩ := o_3
      rintro _ mm t_5 ⟨rfl, rfl, g7⟩
      refine bk_hit ?_
      refine nx_norm ?_
      refine w_seq ?_
      refine w_seq ?_
      refine w_any ?_
      refine wa_step (v := v7_1) (a_pure (p_mv g7)) ?_
      have hq := bindO_inv hr
      clear hr
      obtain ⟨v57, e57, hr⟩ := hq
      have hq := asI_inv hr
      clear hr
      obtain ⟨x57, rfl, hr⟩ := hq
      refine wa_step (v := (.i .i64 x57)) (a_pure (o_len rfl e57)) ?_
      have hq := forceB_inv hr
      clear hr
      obtain ⟨c58, e58, hr⟩ := hq
      refine wa_step (v := (.b c58)) (a_pure (p_bin rfl rfl (b_lss.trans (cb e58)))) ?_
      refine wa_step (v := (.b c58)) (a_pure (p_mv rfl)) ?_
      have hq := bindO_inv hr
      clear hr
      obtain ⟨o_4, hr, hk⟩ := hq
      refine wa_join 13 (JA (g54_J4 v7_1 m_10 o_4) m_10 (m_10.h) [] []) ?_ ?_
      · clear hk
        have hq := cond_inv hr
        clear hr
        rcases hq with ⟨rfl, hr⟩ | ⟨rfl, hr⟩
        · refine wa_skip (v := (.b true)) rfl rfl ?_
          refine wa_skip (v := (.b true)) rfl rfl ?_
          refine wa_skip (v := (.b true)) rfl rfl ?_
          refine wa_skip (v := (.b true)) rfl rfl ?_
          refine wa_skip (v := (.b true)) rfl rfl ?_
          refine wa_skip (v := (.b true)) rfl rfl ?_
          refine wa_skip (v := (.b true)) rfl rfl ?_
          refine wa_skip (v := (.b true)) rfl rfl ?_
          refine wa_skip (v := (.b true)) rfl rfl ?_
          refine wa_skip (v := (.b true)) rfl rfl ?_
          refine wa_skip (v := (.b true)) rfl rfl ?_
          refine wa_skip (v := (.b true)) rfl rfl ?_
          refine wa_step (v := (.b true)) (a_pure (p_pickT rfl rfl)) ?_
          refine wa_nil ?_
          cases hr
          exact ja_in ⟨rfl, gl rfl, gl g7⟩
        · refine wa_take (v := v7_1) rfl (a_pure (p_mv g7)) ?_
          refine wa_take (v := v7_1) rfl (a_pure (p_mv g7)) ?_
          have hq := bindO_inv hr
          clear hr
          obtain ⟨v62, e62, hr⟩ := hq
          have hq := asI_inv hr
          clear hr
          obtain ⟨x62, rfl, hr⟩ := hq
          refine wa_take (v := (.i .i64 x62)) rfl (a_pure (o_len rfl e62)) ?_
          have hq := forceI_inv hr
          clear hr
          obtain ⟨x63, e63, hr⟩ := hq
          refine wa_take (v := (.i .i64 x63)) rfl (a_pure (p_bin rfl rfl (b_sub.trans (ci e63)))) ?_
          have hq := bindO_inv hr
          clear hr
          obtain ⟨v64, e64, hr⟩ := hq
          refine wa_take (v := v64) rfl (a_pure (o_ixS rfl rfl e64)) ?_
          have hq := bindO_inv hr
          clear hr
          obtain ⟨v65, e65, hr⟩ := hq
          refine wa_take (v := v65) rfl (a_pure (o_faddr rfl e65)) ?_
          have hq := bindO_inv hr
          clear hr
          obtain ⟨v66, e66, hr⟩ := hq
          have hq := asI_inv hr
          clear hr
          obtain ⟨x66, rfl, hr⟩ := hq
          refine wa_take (v := (.i .i64 x66)) rfl (a_ld rfl e66) ?_
          refine wa_take (v := v7_1) rfl (a_pure (p_mv g7)) ?_
          have hq := bindO_inv hr
          clear hr
          obtain ⟨v68, e68, hr⟩ := hq
          refine wa_take (v := v68) rfl (a_pure (o_ixS rfl rfl e68)) ?_
          have hq := bindO_inv hr
          clear hr
          obtain ⟨v69, e69, hr⟩ := hq
          refine wa_take (v := v69) rfl (a_pure (o_faddr rfl e69)) ?_
          have hq := bindO_inv hr
          clear hr
          obtain ⟨v70, e70, hr⟩ := hq
          have hq := asI_inv hr
          clear hr
          obtain ⟨x70, rfl, hr⟩ := hq
          refine wa_take (v := (.i .i64 x70)) rfl (a_ld rfl e70) ?_
          have hq := forceB_inv hr
          clear hr
          obtain ⟨c71, e71, hr⟩ := hq
          refine wa_take (v := (.b c71)) rfl (a_pure (p_bin rfl rfl (b_neq.trans (cb e71)))) ?_
          refine wa_step (v := (.b c71)) (a_pure (p_pickF rfl rfl)) ?_
          refine wa_nil ?_
          cases hr
          exact ja_in ⟨rfl, gl rfl, gl g7⟩
      · clear hr
        have hr := hk
        clear hk
        obtain ⟨c72, ho⟩ : ∃ z, z = o_4 := ⟨_, rfl⟩
        subst ho
        refine ja_out ?_
        rintro t_6 ⟨-, g72, g7⟩
        refine wa_nil ?_
        refine ⟨m_10, rfl, ?_⟩
        refine nx_norm ?_
        have hq := cond_inv hr
        clear hr
        rcases hq with ⟨rfl, hr⟩ | ⟨rfl, hr⟩
        · refine w_condT g72 ?_
          refine w_seq ?_
          refine w_ops ?_
          refine wo_step (v := AVal.nsl) (s_pure (p_mv rfl)) ?_
          refine wo_step (v := (.b false)) (s_pure (p_mv rfl)) ?_
          refine wo_nil ?_
          refine nx_norm ?_
          refine w_ret ?_
          refine nx_ret ?_
          exact qf ret_ok (rt rfl (rt rfl rn)) hr
        · refine w_condF g72 ?_
          refine w_skip ?_
          refine nx_norm ?_
          refine w_seq ?_
          refine w_ops ?_
          refine wo_step (v := v7_1) (s_pure (p_mv g7)) ?_
          refine wo_step (v := v7_1) (s_pure (p_mv rfl)) ?_
          refine wo_step (v := (.b true)) (s_pure (p_mv rfl)) ?_
          refine wo_nil ?_
          refine nx_norm ?_
          refine w_ret ?_
          exact qf ret_ok (rt rfl (rt rfl rn)) hr
    · obtain ⟨v4, c5, m_11⟩ := o_3
      rintro _ mm_1 t_7 ⟨rfl, rfl, g4, g5⟩
      refine bk_ret ?_
      refine nx_ret ?_
      exact qf ret_ok (rt g4 (rt g5 rn)) hr

/- (dibber/turn.demands).refuse -/

def g55 (M : Means) (ro : List ABlk) (v0 : AVal) (x1 : Int) (x2 : Int) (m0 : Mm) : Option (AVal × Heap × Nat × Nat) :=
  bindP (stepM ro m0 (.bx 55 3 (.c v0))) fun v3 m_1 =>
  bindO (ldM ro m_1 false 3 v3) fun v8 =>
  bindP (callM M.call m_1 70 [v8, (.i .i64 x2)]) fun v10 m_2 =>
  asI .i64 v10 fun x10 =>
  forceI (wr .i64 (x2 - x10)) fun x11 =>
  forceB (ltI x11 x1) fun c13 =>
  finM m0.h.length (tupA [(.b c13)]) m_2

theorem g55_ok {ro : List ABlk} {O : Caller} {M : Means} (hM : M.Ok ⟨F, O⟩ ro) {v0 x1 x2 h r} (ho : O 55 [v0, (.i .i64 x1), (.i .i64 x2)] h = none) (hr : g55 M ro v0 x1 x2 ⟨h, h.length, h.length⟩ = some r) : callX ⟨F, O⟩ ro 55 [v0, (.i .i64 x1), (.i .i64 x2)] h = some r := by
  refine callX_of (F := ⟨F, O⟩) (fn := fn55) (g := g55 M ro v0 x1 x2) ho rfl rfl hr ?_
  clear ho
  clear hr
  intro m0 t0 ht hr
  have g0 : t0.get 0 = v0 := ht 0
  have g1 : t0.get 1 = (.i .i64 x1) := ht 1
  have g2 : t0.get 2 = (.i .i64 x2) := ht 2
  clear ht
  unfold g55 at hr
  refine w_seq ?_
  refine w_ops ?_
  have hq := bindP_inv hr
  clear hr
  obtain ⟨v3, m_1, e3, hr⟩ := hq
  refine wo_step (v := v3) (s_bx g0 e3) ?_
  refine wo_step (v := (.b false)) (s_pure (p_mv rfl)) ?_
  refine wo_nil ?_
  refine nx_norm ?_
  refine w_seq ?_
  refine w_ops ?_
  refine wo_step (v := (.i .i64 x2)) (s_pure (p_mv g2)) ?_
  have hq := bindO_inv hr
  clear hr
  obtain ⟨v8, e8, hr⟩ := hq
  refine wo_step (v := v8) (s_ld rfl e8) ?_
  refine wo_step (v := (.i .i64 x2)) (s_pure (p_mv g2)) ?_
  have hq := bindP_inv hr
  clear hr
  obtain ⟨v10, m_2, e10, hr⟩ := hq
  have hq := asI_inv hr
  clear hr
  obtain ⟨x10, rfl, hr⟩ := hq
  refine wo_step (v := (.i .i64 x10)) (s_call (mc rfl (mc rfl mn)) (callM_le hM.call e10)) ?_
  have hq := forceI_inv hr
  clear hr
  obtain ⟨x11, e11, hr⟩ := hq
  refine wo_step (v := (.i .i64 x11)) (s_pure (p_bin rfl rfl (b_sub.trans (ci e11)))) ?_
  refine wo_step (v := (.i .i64 x1)) (s_pure (p_mv g1)) ?_
  have hq := forceB_inv hr
  clear hr
  obtain ⟨c13, e13, hr⟩ := hq
  refine wo_step (v := (.b c13)) (s_pure (p_bin rfl rfl (b_lss.trans (cb e13)))) ?_
  refine wo_step (v := (.b c13)) (s_pure (p_mv rfl)) ?_
  refine wo_nil ?_
  refine nx_norm ?_
  refine w_ret ?_
  exact qf ret_ok (rt rfl rn) hr

/- (dibber/turn.demands).refusing -/
abbrev g57_I0 (v5 : AVal) (v6 : AVal) (v7 : AVal) (v8 : AVal) (v13 : AVal) (x14 : Int) (s : Int × Mm) (m1 : Mm) (t1 : Tr) : Prop :=
  match s with
  | (x15, m_9) => m_9 = m1 ∧ t1.get 15 = (.i .i64 x15) ∧ t1.get 5 = v5 ∧ t1.get 6 = v6 ∧ t1.get 7 = v7 ∧ t1.get 8 = v8 ∧ t1.get 13 = v13 ∧ t1.get 14 = (.i .i64 x14)
abbrev g57_J0 (v5 : AVal) (v6 : AVal) (v7 : AVal) (v8 : AVal) (v13 : AVal) (x14 : Int) (o : (Mm ⊕ (AVal × Mm))) (e : AExit) (m1 : Mm) (t1 : Tr) : Prop :=
  match o with
  | (.inl mo) => e = (.exit 0) ∧ mo = m1
  | (.inr (y4, mo)) => e = .ret ∧ mo = m1 ∧ t1.get 4 = y4
def g57_b0 (M : Means) (ro : List ABlk) (v5 : AVal) (v6 : AVal) (v7 : AVal) (v8 : AVal) (v13 : AVal) (x14 : Int) (x15 : Int) (m_9 : Mm) : Option ((Int × Mm) ⊕ ((Mm ⊕ (AVal × Mm)))) :=
  forceB (ltI x15 x14) fun c16 =>
  cond c16 (
    bindO (evP .e (.ixS 4 (.c v13) (.c (.i .i64 x15)))) fun v18 =>
    bindO (ldM ro m_9 false 4 v18) fun v19 =>
    bindP (stepM ro m_9 (.al 31 [(AVal.i IntKind.i64 0), (AVal.i IntKind.i64 0), (AVal.i IntKind.i64 0), (AVal.i IntKind.i64 0)])) fun v10 m_10 =>
    bindP (stepM ro m_10 (.st 4 (.c v10) (.c v19))) fun vn_2 m_11 =>
    bindO (evP .e (.faddr 0 (.c v10))) fun v20 =>
    bindO (ldM ro m_11 true 1 v20) fun v21 =>
    asI .i64 v21 fun x21 =>
    bindP (stepM ro m_11 (.st 1 (.c v7) (.c (.i .i64 x21)))) fun vn_3 m_12 =>
    bindO (ldM ro m_12 true 1 v7) fun v22 =>
    asI .i64 v22 fun x22 =>
    bindO (evP .e (.ixA 6 1 (.c v5) (.c (.i .i64 x22)))) fun v23 =>
    bindP (stepM ro m_12 (.st 1 (.c v23) (.c (.b true)))) fun vn_4 m_13 =>
    bindO (ldM ro m_13 true 1 v6) fun v24 =>
    bindO (evP .e (.slS 1 (.c v24) none (some (.c (.i .i64 0))) none)) fun v25 =>
    forceI (wr .i64 (x15 + 1)) fun x27 =>
    bindP (stepM ro m_13 (.bsl 3 1 [(AVal.i IntKind.i64 0)] 1 [((0, 1), .c (.i .i64 x27))])) fun v28 m_14 =>
    bindP (stepM ro m_14 (.app 3 1 8 [(AVal.i IntKind.i64 0)] (.c v25) (.c v28))) fun v29 m_15 =>
    bindP (stepM ro m_15 (.st 1 (.c v6) (.c v29))) fun vn_5 m_16 =>
    bindO (ldM ro m_16 true 1 v8) fun v30 =>
    bindO (evP .e (.faddr 1 (.c v10))) fun v31 =>
    bindO (ldM ro m_16 true 1 v31) fun v32 =>
    asI .i64 v32 fun x32 =>
    bindO (evP .e (.faddr 2 (.c v10))) fun v33 =>
    bindO (ldM ro m_16 true 1 v33) fun v34 =>
    asI .i64 v34 fun x34 =>
    bindO (evP .e (.faddr 3 (.c v10))) fun v35 =>
    bindO (ldM ro m_16 true 1 v35) fun v36 =>
    asI .i64 v36 fun x36 =>
    bindP (callyM M.call M.round m_16 v30 [(.i .i64 x32), (.i .i64 x34), (.i .i64 x36)]) fun v37 m_17 =>
    asB v37 fun c37 =>
    cond c37 (
      bindO (ldM ro m_17 true 1 v6) fun v38 =>
      some (.inr (.inr (v38, m_17)))) (
      bindO (ldM ro m_17 true 1 v7) fun v39 =>
      asI .i64 v39 fun x39 =>
      bindO (evP .e (.ixA 6 1 (.c v5) (.c (.i .i64 x39)))) fun v40 =>
      bindP (stepM ro m_17 (.st 1 (.c v40) (.c (.b false)))) fun vn_6 m_18 =>
      forceI (wr .i64 (x15 + 1)) fun x41 =>
      some (.inl (x41, m_18)))) (
    some (.inr (.inl m_9)))
def g57 (M : Means) (ro : List ABlk) (v0 : AVal) (x1 : Int) (m0 : Mm) : Option (AVal × Heap × Nat × Nat) :=
  bindP (stepM ro m0 (.bx 55 3 (.c v0))) fun v2 m_1 =>
  bindP (stepM ro m_1 (.bx 3 1 (.c (.i .i64 x1)))) fun v3 m_2 =>
  bindP (stepM ro m_2 (.al 96 [(AVal.b false), (AVal.b false), (AVal.b false), (AVal.b false), (AVal.b false), (AVal.b false)])) fun v5 m_3 =>
  bindP (stepM ro m_3 (.al 25 [AVal.nsl])) fun v6 m_4 =>
  bindP (stepM ro m_4 (.al 3 [(AVal.i IntKind.i64 0)])) fun v7 m_5 =>
  bindP (stepM ro m_5 (.st 1 (.c v7) (.c (.i .i64 0)))) fun vn m_6 =>
  bindP (stepM ro m_6 (.al 74 [AVal.nfn])) fun v8 m_7 =>
  bindO (some (AVal.fn 75 [] [v6, v3, v7, v2, v5, v8])) fun v11 =>
  bindP (stepM ro m_7 (.st 1 (.c v8) (.c v11))) fun vn_1 m_8 =>
  bindO (evP .e (.faddr 2 (.c v2))) fun v12 =>
  bindO (ldM ro m_8 true 1 v12) fun v13 =>
  bindO (evP .e (.len false (.c v13))) fun v14 =>
  asI .i64 v14 fun x14 =>
  bindO (M.loop (S := Int × Mm) (R := (Mm ⊕ (AVal × Mm))) (fun s => g57_b0 M ro v5 v6 v7 v8 v13 x14 s.1 s.2) (0, m_8)) fun o => match o with
  | (.inl m_19) =>
    finM m0.h.length (tupA [AVal.nsl]) m_19
  | (.inr (v4, m_20)) =>
    finM m0.h.length (tupA [v4]) m_20

theorem g57_ok {ro : List ABlk} {O : Caller} {M : Means} (hM : M.Ok ⟨F, O⟩ ro) {v0 x1 h r} (ho : O 57 [v0, (.i .i64 x1)] h = none) (hr : g57 M ro v0 x1 ⟨h, h.length, h.length⟩ = some r) : callX ⟨F, O⟩ ro 57 [v0, (.i .i64 x1)] h = some r := by
  refine callX_of (F := ⟨F, O⟩) (fn := fn57) (g := g57 M ro v0 x1) ho rfl rfl hr ?_
  clear ho
  clear hr
  intro m0 t0 ht hr
  have g0 : t0.get 0 = v0 := ht 0
  have g1 : t0.get 1 = (.i .i64 x1) := ht 1
  clear ht
  unfold g57 at hr
  refine w_seq ?_
  refine w_ops ?_
  have hq := bindP_inv hr
  clear hr
  obtain ⟨v2, m_1, e2, hr⟩ := hq
  refine wo_step (v := v2) (s_bx g0 e2) ?_
  have hq := bindP_inv hr
  clear hr
  obtain ⟨v3, m_2, e3, hr⟩ := hq
  refine wo_step (v := v3) (s_bx g1 e3) ?_
  refine wo_step (v := AVal.nsl) (s_pure (p_mv rfl)) ?_
  refine wo_nil ?_
  refine nx_norm ?_
  refine w_seq ?_
  refine w_ops ?_
  have hq := bindP_inv hr
  clear hr
  obtain ⟨v5, m_3, e5, hr⟩ := hq
  refine wo_step (v := v5) (s_al e5) ?_
  refine wo_nil ?_
  refine nx_norm ?_
  refine w_seq ?_
  refine w_ops ?_
  have hq := bindP_inv hr
  clear hr
  obtain ⟨v6, m_4, e6, hr⟩ := hq
  refine wo_step (v := v6) (s_al e6) ?_
  refine wo_nil ?_
  refine nx_norm ?_
  refine w_seq ?_
  refine w_ops ?_
  have hq := bindP_inv hr
  clear hr
  obtain ⟨v7, m_5, e7, hr⟩ := hq
  refine wo_step (v := v7) (s_al e7) ?_
  have hq := bindP_inv hr
  clear hr
  obtain ⟨vn, m_6, en, hr⟩ := hq
  refine wo_stepN (s_st rfl rfl en) ?_
  refine wo_nil ?_
  refine nx_norm ?_
  refine w_seq ?_
  refine w_ops ?_
  have hq := bindP_inv hr
  clear hr
  obtain ⟨v8, m_7, e8, hr⟩ := hq
  refine wo_step (v := v8) (s_al e8) ?_
  refine wo_nil ?_
  refine nx_norm ?_
  refine w_seq ?_
  refine w_ops ?_
  have hq := bindO_inv hr
  clear hr
  obtain ⟨v11, e11, hr⟩ := hq
  refine wo_step (v := v11) (s_pure ((o_mkfn mn (mc rfl (mc rfl (mc rfl (mc rfl (mc rfl (mc rfl mn))))))).trans e11)) ?_
  have hq := bindP_inv hr
  clear hr
  obtain ⟨vn_1, m_8, en_1, hr⟩ := hq
  refine wo_stepN (s_st rfl rfl en_1) ?_
  refine wo_nil ?_
  refine nx_norm ?_
  refine w_seq ?_
  refine w_seq ?_
  refine w_ops ?_
  have hq := bindO_inv hr
  clear hr
  obtain ⟨v12, e12, hr⟩ := hq
  refine wo_step (v := v12) (s_pure (o_faddr rfl e12)) ?_
  have hq := bindO_inv hr
  clear hr
  obtain ⟨v13, e13, hr⟩ := hq
  refine wo_step (v := v13) (s_ld rfl e13) ?_
  have hq := bindO_inv hr
  clear hr
  obtain ⟨v14, e14, hr⟩ := hq
  have hq := asI_inv hr
  clear hr
  obtain ⟨x14, rfl, hr⟩ := hq
  refine wo_step (v := (.i .i64 x14)) (s_pure (o_len rfl e14)) ?_
  refine wo_step (v := (.i .i64 0)) (s_pure (p_mv rfl)) ?_
  refine wo_nil ?_
  refine nx_norm ?_
  refine w_block ?_
  have hq := bindO_inv hr
  clear hr
  obtain ⟨o, hl, hr⟩ := hq
  obtain ⟨n, hl⟩ := hM.loop _ _ _ hl
  refine jp_mono (w_loop _ (g57_I0 v5 v6 v7 v8 v13 x14) (g57_J0 v5 v6 v7 v8 v13 x14) ?_ n _ _ _ _ hl ⟨rfl, gl rfl, gl rfl, gl rfl, gl rfl, gl rfl, gl rfl, gl rfl⟩) ?_
  · clear hr hl
    intro s mm_2 t_1 o hi hr
    obtain ⟨x15, m_9⟩ := s
    obtain ⟨rfl, g15, g5, g6, g7, g8, g13, g14⟩ := hi
    unfold g57_b0 at hr
    refine w_seq ?_
    refine w_ops ?_
    have hq := forceB_inv hr
    clear hr
    obtain ⟨c16, e16, hr⟩ := hq
    refine wo_step (v := (.b c16)) (s_pure (p_bin g15 g14 (b_lss.trans (cb e16)))) ?_
    refine wo_nil ?_
    refine nx_norm ?_
    refine w_seq ?_
    have hq := cond_inv hr
    clear hr
    rcases hq with ⟨rfl, hr⟩ | ⟨rfl, hr⟩
    · refine w_condT rfl ?_
      refine w_skip ?_
      refine nx_norm ?_
      refine w_seq ?_
      refine w_block ?_
      refine w_seq ?_
      refine w_ops ?_
      refine wo_step (v := (.i .i64 x15)) (s_pure (p_mv g15)) ?_
      have hq := bindO_inv hr
      clear hr
      obtain ⟨v18, e18, hr⟩ := hq
      refine wo_step (v := v18) (s_pure (o_ixS g13 g15 e18)) ?_
      have hq := bindO_inv hr
      clear hr
      obtain ⟨v19, e19, hr⟩ := hq
      refine wo_step (v := v19) (s_ld rfl e19) ?_
      have hq := bindP_inv hr
      clear hr
      obtain ⟨v10, m_10, e10, hr⟩ := hq
      refine wo_step (v := v10) (s_al e10) ?_
      refine wo_step (v := (.i .i64 x15)) (s_pure (p_mv rfl)) ?_
      have hq := bindP_inv hr
      clear hr
      obtain ⟨vn_2, m_11, en_2, hr⟩ := hq
      refine wo_stepN (s_st rfl rfl en_2) ?_
      refine wo_nil ?_
      refine nx_norm ?_
      refine w_seq ?_
      refine w_ops ?_
      have hq := bindO_inv hr
      clear hr
      obtain ⟨v20, e20, hr⟩ := hq
      refine wo_step (v := v20) (s_pure (o_faddr rfl e20)) ?_
      have hq := bindO_inv hr
      clear hr
      obtain ⟨v21, e21, hr⟩ := hq
      have hq := asI_inv hr
      clear hr
      obtain ⟨x21, rfl, hr⟩ := hq
      refine wo_step (v := (.i .i64 x21)) (s_ld rfl e21) ?_
      have hq := bindP_inv hr
      clear hr
      obtain ⟨vn_3, m_12, en_3, hr⟩ := hq
      refine wo_stepN (s_st g7 rfl en_3) ?_
      refine wo_nil ?_
      refine nx_norm ?_
      refine w_seq ?_
      refine w_ops ?_
      have hq := bindO_inv hr
      clear hr
      obtain ⟨v22, e22, hr⟩ := hq
      have hq := asI_inv hr
      clear hr
      obtain ⟨x22, rfl, hr⟩ := hq
      refine wo_step (v := (.i .i64 x22)) (s_ld g7 e22) ?_
      have hq := bindO_inv hr
      clear hr
      obtain ⟨v23, e23, hr⟩ := hq
      refine wo_step (v := v23) (s_pure (o_ixA g5 rfl e23)) ?_
      have hq := bindP_inv hr
      clear hr
      obtain ⟨vn_4, m_13, en_4, hr⟩ := hq
      refine wo_stepN (s_st rfl rfl en_4) ?_
      refine wo_nil ?_
      refine nx_norm ?_
      refine w_seq ?_
      refine w_ops ?_
      have hq := bindO_inv hr
      clear hr
      obtain ⟨v24, e24, hr⟩ := hq
      refine wo_step (v := v24) (s_ld g6 e24) ?_
      have hq := bindO_inv hr
      clear hr
      obtain ⟨v25, e25, hr⟩ := hq
      refine wo_step (v := v25) (s_pure (o_slS rfl on (os rfl) on e25)) ?_
      refine wo_step (v := (.i .i64 x15)) (s_pure (p_mv rfl)) ?_
      have hq := forceI_inv hr
      clear hr
      obtain ⟨x27, e27, hr⟩ := hq
      refine wo_step (v := (.i .i64 x27)) (s_pure (p_bin rfl rfl (b_add.trans (ci e27)))) ?_
      have hq := bindP_inv hr
      clear hr
      obtain ⟨v28, m_14, e28, hr⟩ := hq
      refine wo_step (v := v28) (s_bsl (qc rfl qn) e28) ?_
      have hq := bindP_inv hr
      clear hr
      obtain ⟨v29, m_15, e29, hr⟩ := hq
      refine wo_step (v := v29) (s_app rfl rfl e29) ?_
      have hq := bindP_inv hr
      clear hr
      obtain ⟨vn_5, m_16, en_5, hr⟩ := hq
      refine wo_stepN (s_st g6 rfl en_5) ?_
      refine wo_nil ?_
      refine nx_norm ?_
      refine w_seq ?_
      refine w_seq ?_
      refine w_opsY ?_
      have hq := bindO_inv hr
      clear hr
      obtain ⟨v30, e30, hr⟩ := hq
      refine wy_step (v := v30) (y_C (s_ld g8 e30)) ?_
      have hq := bindO_inv hr
      clear hr
      obtain ⟨v31, e31, hr⟩ := hq
      refine wy_step (v := v31) (y_C (s_pure (o_faddr rfl e31))) ?_
      have hq := bindO_inv hr
      clear hr
      obtain ⟨v32, e32, hr⟩ := hq
      have hq := asI_inv hr
      clear hr
      obtain ⟨x32, rfl, hr⟩ := hq
      refine wy_step (v := (.i .i64 x32)) (y_C (s_ld rfl e32)) ?_
      have hq := bindO_inv hr
      clear hr
      obtain ⟨v33, e33, hr⟩ := hq
      refine wy_step (v := v33) (y_C (s_pure (o_faddr rfl e33))) ?_
      have hq := bindO_inv hr
      clear hr
      obtain ⟨v34, e34, hr⟩ := hq
      have hq := asI_inv hr
      clear hr
      obtain ⟨x34, rfl, hr⟩ := hq
      refine wy_step (v := (.i .i64 x34)) (y_C (s_ld rfl e34)) ?_
      have hq := bindO_inv hr
      clear hr
      obtain ⟨v35, e35, hr⟩ := hq
      refine wy_step (v := v35) (y_C (s_pure (o_faddr rfl e35))) ?_
      have hq := bindO_inv hr
      clear hr
      obtain ⟨v36, e36, hr⟩ := hq
      have hq := asI_inv hr
      clear hr
      obtain ⟨x36, rfl, hr⟩ := hq
      refine wy_step (v := (.i .i64 x36)) (y_C (s_ld rfl e36)) ?_
      have hq := bindP_inv hr
      clear hr
      obtain ⟨v37, m_17, e37, hr⟩ := hq
      have hq := asB_inv hr
      clear hr
      obtain ⟨c37, rfl, hr⟩ := hq
      refine wy_step (v := (.b c37)) (y_callv rfl (mc rfl (mc rfl (mc rfl mn))) (callyM_le hM.call hM.round e37)) ?_
      refine wy_nil ?_
      refine nx_norm ?_
      have hq := cond_inv hr
      clear hr
      rcases hq with ⟨rfl, hr⟩ | ⟨rfl, hr⟩
      · refine w_condT rfl ?_
        refine w_seq ?_
        refine w_ops ?_
        have hq := bindO_inv hr
        clear hr
        obtain ⟨v38, e38, hr⟩ := hq
        refine wo_step (v := v38) (s_ld g6 e38) ?_
        refine wo_step (v := v38) (s_pure (p_mv rfl)) ?_
        refine wo_nil ?_
        refine nx_norm ?_
        refine w_ret ?_
        refine nx_ret ?_
        refine bk_ret ?_
        refine nx_ret ?_
        cases hr
        exact ⟨_, _, rfl, ne_norm_ret, rfl, rfl, gl rfl⟩
      · refine w_condF rfl ?_
        refine w_skip ?_
        refine nx_norm ?_
        refine w_ops ?_
        have hq := bindO_inv hr
        clear hr
        obtain ⟨v39, e39, hr⟩ := hq
        have hq := asI_inv hr
        clear hr
        obtain ⟨x39, rfl, hr⟩ := hq
        refine wo_step (v := (.i .i64 x39)) (s_ld g7 e39) ?_
        have hq := bindO_inv hr
        clear hr
        obtain ⟨v40, e40, hr⟩ := hq
        refine wo_step (v := v40) (s_pure (o_ixA g5 rfl e40)) ?_
        have hq := bindP_inv hr
        clear hr
        obtain ⟨vn_6, m_18, en_6, hr⟩ := hq
        refine wo_stepN (s_st rfl rfl en_6) ?_
        refine wo_nil ?_
        refine bk_norm ?_
        refine nx_norm ?_
        refine w_ops ?_
        have hq := forceI_inv hr
        clear hr
        obtain ⟨x41, e41, hr⟩ := hq
        refine wo_step (v := (.i .i64 x41)) (s_pure (p_bin g15 rfl (b_add.trans (ci e41)))) ?_
        refine wo_step (v := (.i .i64 x41)) (s_pure (p_mv rfl)) ?_
        refine wo_nil ?_
        cases hr
        exact ⟨_, _, rfl, rfl, rfl, gl rfl, gl g5, gl g6, gl g7, gl g8, gl g13, gl g14⟩
    · refine w_condF rfl ?_
      refine w_exit ?_
      refine nx_exit ?_
      cases hr
      exact ⟨_, _, rfl, ne_norm_exit, rfl, rfl⟩
  · rcases o with o | o
    · obtain ⟨m_19, ho⟩ : ∃ z, z = o := ⟨_, rfl⟩
      subst ho
      rintro _ mm t_2 ⟨rfl, rfl⟩
      refine bk_hit ?_
      refine nx_norm ?_
      refine w_seq ?_
      refine w_ops ?_
      refine wo_step (v := AVal.nsl) (s_pure (p_mv rfl)) ?_
      refine wo_nil ?_
      refine nx_norm ?_
      refine w_ret ?_
      exact qf ret_ok (rt rfl rn) hr
    · obtain ⟨v4, m_20⟩ := o
      rintro _ mm_1 t_3 ⟨rfl, rfl, g4⟩
      refine bk_ret ?_
      refine nx_ret ?_
      exact qf ret_ok (rt g4 rn) hr

/- (dibber/turn.demands).allows -/
abbrev g60_J0 (v2 : AVal) (v3 : AVal) (m_2 : Mm) (o : Bool) (m1 : Mm) (t1 : Tr) : Prop :=
  match o with
  | c17 => m_2 = m1 ∧ t1.get 17 = (.b c17) ∧ t1.get 2 = v2 ∧ t1.get 3 = v3
abbrev g60_J1 (v2 : AVal) (v3 : AVal) (m_2 : Mm) (o : Bool) (m1 : Mm) (t1 : Tr) : Prop :=
  match o with
  | c27 => m_2 = m1 ∧ t1.get 27 = (.b c27) ∧ t1.get 2 = v2 ∧ t1.get 3 = v3
abbrev g60_J2 (v2 : AVal) (v3 : AVal) (m_2 : Mm) (o : Bool) (m1 : Mm) (t1 : Tr) : Prop :=
  match o with
  | c35 => m_2 = m1 ∧ t1.get 35 = (.b c35) ∧ t1.get 2 = v2 ∧ t1.get 3 = v3
abbrev g60_J3 (m_2 : Mm) (o : Bool) (m1 : Mm) (t1 : Tr) : Prop :=
  match o with
  | c51 => m_2 = m1 ∧ t1.get 51 = (.b c51)
def g60 (M : Means) (ro : List ABlk) (v0 : AVal) (v1 : AVal) (m0 : Mm) : Option (AVal × Heap × Nat × Nat) :=
  bindP (stepM ro m0 (.bx 55 3 (.c v0))) fun v2 m_1 =>
  bindP (stepM ro m_1 (.bx 31 4 (.c v1))) fun v3 m_2 =>
  bindO (evP .e (.faddr 0 (.c v3))) fun v5 =>
  bindO (ldM ro m_2 true 1 v5) fun v6 =>
  asI .i64 v6 fun x6 =>
  bindO (evP .e (.faddr 1 (.c v3))) fun v7 =>
  bindO (ldM ro m_2 true 1 v7) fun v8 =>
  asI .i64 v8 fun x8 =>
  forceB (eqI x6 x8) fun c9 =>
  bindO (cond c9 (
    some true) (
    bindO (evP .e (.faddr 0 (.c v3))) fun v11 =>
    bindO (ldM ro m_2 true 1 v11) fun v12 =>
    asI .i64 v12 fun x12 =>
    bindO (evP .e (.faddr 1 (.c v3))) fun v13 =>
    bindO (ldM ro m_2 true 1 v13) fun v14 =>
    asI .i64 v14 fun x14 =>
    forceI (mxV false x12 x14) fun x15 =>
    forceB (ltI x15 0) fun c16 =>
    some c16)) fun c17 =>
  bindO (cond c17 (
    some true) (
    bindO (evP .e (.faddr 0 (.c v3))) fun v19 =>
    bindO (ldM ro m_2 true 1 v19) fun v20 =>
    asI .i64 v20 fun x20 =>
    bindO (evP .e (.faddr 1 (.c v3))) fun v21 =>
    bindO (ldM ro m_2 true 1 v21) fun v22 =>
    asI .i64 v22 fun x22 =>
    forceI (mxV true x20 x22) fun x23 =>
    bindO (evP .e (.faddr 1 (.c v2))) fun v24 =>
    bindO (ldM ro m_2 true 1 v24) fun v25 =>
    asI .i64 v25 fun x25 =>
    forceB (!ltI x23 x25) fun c26 =>
    some c26)) fun c27 =>
  cond c27 (
    finM m0.h.length (tupA [(.b false)]) m_2) (
    bindO (evP .e (.faddr 2 (.c v3))) fun v28 =>
    bindO (ldM ro m_2 true 1 v28) fun v29 =>
    asI .i64 v29 fun x29 =>
    forceB (ltI x29 (-600)) fun c30 =>
    bindO (cond c30 (
      some true) (
      bindO (evP .e (.faddr 2 (.c v3))) fun v32 =>
      bindO (ldM ro m_2 true 1 v32) fun v33 =>
      asI .i64 v33 fun x33 =>
      forceB (ltI 600 x33) fun c34 =>
      some c34)) fun c35 =>
    cond c35 (
      finM m0.h.length (tupA [(.b false)]) m_2) (
      bindO (evP .e (.faddr 3 (.c v3))) fun v36 =>
      bindO (ldM ro m_2 true 1 v36) fun v37 =>
      asI .i64 v37 fun x37 =>
      bindO (evP .e (.faddr 2 (.c v3))) fun v38 =>
      bindO (ldM ro m_2 true 1 v38) fun v39 =>
      asI .i64 v39 fun x39 =>
      forceB (!ltI x37 x39) fun c40 =>
      bindO (cond c40 (
        bindO (evP .e (.faddr 3 (.c v3))) fun v42 =>
        bindO (ldM ro m_2 true 1 v42) fun v43 =>
        asI .i64 v43 fun x43 =>
        bindO (evP .e (.faddr 2 (.c v3))) fun v44 =>
        bindO (ldM ro m_2 true 1 v44) fun v45 =>
        asI .i64 v45 fun x45 =>
        bindO (evP .e (.faddr 0 (.c v2))) fun v46 =>
        bindO (ldM ro m_2 true 1 v46) fun v47 =>
        asI .i64 v47 fun x47 =>
        forceI (wr .i64 (x45 + x47)) fun x48 =>
        forceI (wr .i64 (x48 - 1)) fun x49 =>
        forceB (!ltI x49 x43) fun c50 =>
        some c50) (
        some false)) fun c51 =>
      finM m0.h.length (tupA [(.b c51)]) m_2))

theorem g60_ok {ro : List ABlk} {O : Caller} {M : Means} (hM : M.Ok ⟨F, O⟩ ro) {v0 v1 h r} (ho : O 60 [v0, v1] h = none) (hr : g60 M ro v0 v1 ⟨h, h.length, h.length⟩ = some r) : callX ⟨F, O⟩ ro 60 [v0, v1] h = some r := by
  refine callX_of (F := ⟨F, O⟩) (fn := fn60) (g := g60 M ro v0 v1) ho rfl rfl hr ?_
  clear ho
  clear hr
  intro m0 t0 ht hr
  have g0 : t0.get 0 = v0 := ht 0
  have g1 : t0.get 1 = v1 := ht 1
  clear ht
  unfold g60 at hr
  refine w_seq ?_
  refine w_ops ?_
  have hq := bindP_inv hr
  clear hr
  obtain ⟨v2, m_1, e2, hr⟩ := hq
  refine wo_step (v := v2) (s_bx g0 e2) ?_
  have hq := bindP_inv hr
  clear hr
  obtain ⟨v3, m_2, e3, hr⟩ := hq
  refine wo_step (v := v3) (s_bx g1 e3) ?_
  refine wo_step (v := (.b false)) (s_pure (p_mv rfl)) ?_
  refine wo_nil ?_
  refine nx_norm ?_
  refine w_seq ?_
  refine w_seq ?_
  refine w_ops ?_
  have hq := bindO_inv hr
  clear hr
  obtain ⟨v5, e5, hr⟩ := hq
  refine wo_step (v := v5) (s_pure (o_faddr rfl e5)) ?_
  have hq := bindO_inv hr
  clear hr
  obtain ⟨v6, e6, hr⟩ := hq
  have hq := asI_inv hr
  clear hr
  obtain ⟨x6, rfl, hr⟩ := hq
  refine wo_step (v := (.i .i64 x6)) (s_ld rfl e6) ?_
  have hq := bindO_inv hr
  clear hr
  obtain ⟨v7, e7, hr⟩ := hq
  refine wo_step (v := v7) (s_pure (o_faddr rfl e7)) ?_
  have hq := bindO_inv hr
  clear hr
  obtain ⟨v8, e8, hr⟩ := hq
  have hq := asI_inv hr
  clear hr
  obtain ⟨x8, rfl, hr⟩ := hq
  refine wo_step (v := (.i .i64 x8)) (s_ld rfl e8) ?_
  have hq := forceB_inv hr
  clear hr
  obtain ⟨c9, e9, hr⟩ := hq
  refine wo_step (v := (.b c9)) (s_pure (p_bin rfl rfl (b_eql.trans (cb e9)))) ?_
  refine wo_step (v := (.b c9)) (s_pure (p_mv rfl)) ?_
  have hq := bindO_inv hr
  clear hr
  obtain ⟨o, hr, hk⟩ := hq
  refine wo_join 7 (g60_J0 v2 v3 m_2 o) ?_ ?_
  · clear hk
    have hq := cond_inv hr
    clear hr
    rcases hq with ⟨rfl, hr⟩ | ⟨rfl, hr⟩
    · refine wo_skip (v := (.b true)) rfl rfl ?_
      refine wo_skip (v := (.b true)) rfl rfl ?_
      refine wo_skip (v := (.b true)) rfl rfl ?_
      refine wo_skip (v := (.b true)) rfl rfl ?_
      refine wo_skip (v := (.b true)) rfl rfl ?_
      refine wo_skip (v := (.b true)) rfl rfl ?_
      refine wo_step (v := (.b true)) (s_pure (p_pickT rfl rfl)) ?_
      refine wo_nil ?_
      cases hr
      exact ⟨_, _, rfl, rfl, gl rfl, gl rfl, gl rfl⟩
    · have hq := bindO_inv hr
      clear hr
      obtain ⟨v11, e11, hr⟩ := hq
      refine wo_take (v := v11) rfl (s_pure (o_faddr rfl e11)) ?_
      have hq := bindO_inv hr
      clear hr
      obtain ⟨v12, e12, hr⟩ := hq
      have hq := asI_inv hr
      clear hr
      obtain ⟨x12, rfl, hr⟩ := hq
      refine wo_take (v := (.i .i64 x12)) rfl (s_ld rfl e12) ?_
      have hq := bindO_inv hr
      clear hr
      obtain ⟨v13, e13, hr⟩ := hq
      refine wo_take (v := v13) rfl (s_pure (o_faddr rfl e13)) ?_
      have hq := bindO_inv hr
      clear hr
      obtain ⟨v14, e14, hr⟩ := hq
      have hq := asI_inv hr
      clear hr
      obtain ⟨x14, rfl, hr⟩ := hq
      refine wo_take (v := (.i .i64 x14)) rfl (s_ld rfl e14) ?_
      have hq := forceI_inv hr
      clear hr
      obtain ⟨x15, e15, hr⟩ := hq
      refine wo_take (v := (.i .i64 x15)) rfl (s_pure ((p_mx rfl rfl).trans (ci e15))) ?_
      have hq := forceB_inv hr
      clear hr
      obtain ⟨c16, e16, hr⟩ := hq
      refine wo_take (v := (.b c16)) rfl (s_pure (p_bin rfl rfl (b_lss.trans (cb e16)))) ?_
      refine wo_step (v := (.b c16)) (s_pure (p_pickF rfl rfl)) ?_
      refine wo_nil ?_
      cases hr
      exact ⟨_, _, rfl, rfl, gl rfl, gl rfl, gl rfl⟩
  · clear hr
    have hr := hk
    clear hk
    obtain ⟨c17, ho⟩ : ∃ z, z = o := ⟨_, rfl⟩
    subst ho
    rintro mm t_1 ⟨rfl, g17, g2, g3⟩
    refine wo_step (v := (.b c17)) (s_pure (p_mv g17)) ?_
    have hq := bindO_inv hr
    clear hr
    obtain ⟨o_1, hr, hk⟩ := hq
    refine wo_join 9 (g60_J1 v2 v3 m_2 o_1) ?_ ?_
    · clear hk
      have hq := cond_inv hr
      clear hr
      rcases hq with ⟨rfl, hr⟩ | ⟨rfl, hr⟩
      · refine wo_skip (v := (.b true)) rfl rfl ?_
        refine wo_skip (v := (.b true)) rfl rfl ?_
        refine wo_skip (v := (.b true)) rfl rfl ?_
        refine wo_skip (v := (.b true)) rfl rfl ?_
        refine wo_skip (v := (.b true)) rfl rfl ?_
        refine wo_skip (v := (.b true)) rfl rfl ?_
        refine wo_skip (v := (.b true)) rfl rfl ?_
        refine wo_skip (v := (.b true)) rfl rfl ?_
        refine wo_step (v := (.b true)) (s_pure (p_pickT rfl rfl)) ?_
        refine wo_nil ?_
        cases hr
        exact ⟨_, _, rfl, rfl, gl rfl, gl g2, gl g3⟩
      · have hq := bindO_inv hr
        clear hr
        obtain ⟨v19, e19, hr⟩ := hq
        refine wo_take (v := v19) rfl (s_pure (o_faddr g3 e19)) ?_
        have hq := bindO_inv hr
        clear hr
        obtain ⟨v20, e20, hr⟩ := hq
        have hq := asI_inv hr
        clear hr
        obtain ⟨x20, rfl, hr⟩ := hq
        refine wo_take (v := (.i .i64 x20)) rfl (s_ld rfl e20) ?_
        have hq := bindO_inv hr
        clear hr
        obtain ⟨v21, e21, hr⟩ := hq
        refine wo_take (v := v21) rfl (s_pure (o_faddr g3 e21)) ?_
        have hq := bindO_inv hr
        clear hr
        obtain ⟨v22, e22, hr⟩ := hq
        have hq := asI_inv hr
        clear hr
        obtain ⟨x22, rfl, hr⟩ := hq
        refine wo_take (v := (.i .i64 x22)) rfl (s_ld rfl e22) ?_
        have hq := forceI_inv hr
        clear hr
        obtain ⟨x23, e23, hr⟩ := hq
        refine wo_take (v := (.i .i64 x23)) rfl (s_pure ((p_mx rfl rfl).trans (ci e23))) ?_
        have hq := bindO_inv hr
        clear hr
        obtain ⟨v24, e24, hr⟩ := hq
        refine wo_take (v := v24) rfl (s_pure (o_faddr g2 e24)) ?_
        have hq := bindO_inv hr
        clear hr
        obtain ⟨v25, e25, hr⟩ := hq
        have hq := asI_inv hr
        clear hr
        obtain ⟨x25, rfl, hr⟩ := hq
        refine wo_take (v := (.i .i64 x25)) rfl (s_ld rfl e25) ?_
        have hq := forceB_inv hr
        clear hr
        obtain ⟨c26, e26, hr⟩ := hq
        refine wo_take (v := (.b c26)) rfl (s_pure (p_bin rfl rfl (b_geq.trans (cb e26)))) ?_
        refine wo_step (v := (.b c26)) (s_pure (p_pickF rfl rfl)) ?_
        refine wo_nil ?_
        cases hr
        exact ⟨_, _, rfl, rfl, gl rfl, gl g2, gl g3⟩
    · clear hr
      have hr := hk
      clear hk
      obtain ⟨c27, ho⟩ : ∃ z, z = o_1 := ⟨_, rfl⟩
      subst ho
      rintro mm_1 t_2 ⟨rfl, g27, g2, g3⟩
      refine wo_nil ?_
      refine nx_norm ?_
      have hq := cond_inv hr
      clear hr
      rcases hq with ⟨rfl, hr⟩ | ⟨rfl, hr⟩
      · refine w_condT g27 ?_
        refine w_seq ?_
        refine w_ops ?_
        refine wo_step (v := (.b false)) (s_pure (p_mv rfl)) ?_
        refine wo_nil ?_
        refine nx_norm ?_
        refine w_ret ?_
        refine nx_ret ?_
        exact qf ret_ok (rt rfl rn) hr
      · refine w_condF g27 ?_
        refine w_skip ?_
        refine nx_norm ?_
        refine w_seq ?_
        refine w_seq ?_
        refine w_ops ?_
        have hq := bindO_inv hr
        clear hr
        obtain ⟨v28, e28, hr⟩ := hq
        refine wo_step (v := v28) (s_pure (o_faddr g3 e28)) ?_
        have hq := bindO_inv hr
        clear hr
        obtain ⟨v29, e29, hr⟩ := hq
        have hq := asI_inv hr
        clear hr
        obtain ⟨x29, rfl, hr⟩ := hq
        refine wo_step (v := (.i .i64 x29)) (s_ld rfl e29) ?_
        have hq := forceB_inv hr
        clear hr
        obtain ⟨c30, e30, hr⟩ := hq
        refine wo_step (v := (.b c30)) (s_pure (p_bin rfl rfl (b_lss.trans (cb e30)))) ?_
        refine wo_step (v := (.b c30)) (s_pure (p_mv rfl)) ?_
        have hq := bindO_inv hr
        clear hr
        obtain ⟨o_2, hr, hk⟩ := hq
        refine wo_join 4 (g60_J2 v2 v3 m_2 o_2) ?_ ?_
        · clear hk
          have hq := cond_inv hr
          clear hr
          rcases hq with ⟨rfl, hr⟩ | ⟨rfl, hr⟩
          · refine wo_skip (v := (.b true)) rfl rfl ?_
            refine wo_skip (v := (.b true)) rfl rfl ?_
            refine wo_skip (v := (.b true)) rfl rfl ?_
            refine wo_step (v := (.b true)) (s_pure (p_pickT rfl rfl)) ?_
            refine wo_nil ?_
            cases hr
            exact ⟨_, _, rfl, rfl, gl rfl, gl g2, gl g3⟩
          · have hq := bindO_inv hr
            clear hr
            obtain ⟨v32, e32, hr⟩ := hq
            refine wo_take (v := v32) rfl (s_pure (o_faddr g3 e32)) ?_
            have hq := bindO_inv hr
            clear hr
            obtain ⟨v33, e33, hr⟩ := hq
            have hq := asI_inv hr
            clear hr
            obtain ⟨x33, rfl, hr⟩ := hq
            refine wo_take (v := (.i .i64 x33)) rfl (s_ld rfl e33) ?_
            have hq := forceB_inv hr
            clear hr
            obtain ⟨c34, e34, hr⟩ := hq
            refine wo_take (v := (.b c34)) rfl (s_pure (p_bin rfl rfl (b_gtr.trans (cb e34)))) ?_
            refine wo_step (v := (.b c34)) (s_pure (p_pickF rfl rfl)) ?_
            refine wo_nil ?_
            cases hr
            exact ⟨_, _, rfl, rfl, gl rfl, gl g2, gl g3⟩
        · clear hr
          have hr := hk
          clear hk
          obtain ⟨c35, ho⟩ : ∃ z, z = o_2 := ⟨_, rfl⟩
          subst ho
          rintro mm_2 t_3 ⟨rfl, g35, g2, g3⟩
          refine wo_nil ?_
          refine nx_norm ?_
          have hq := cond_inv hr
          clear hr
          rcases hq with ⟨rfl, hr⟩ | ⟨rfl, hr⟩
          · refine w_condT g35 ?_
            refine w_seq ?_
            refine w_ops ?_
            refine wo_step (v := (.b false)) (s_pure (p_mv rfl)) ?_
            refine wo_nil ?_
            refine nx_norm ?_
            refine w_ret ?_
            refine nx_ret ?_
            exact qf ret_ok (rt rfl rn) hr
          · refine w_condF g35 ?_
            refine w_skip ?_
            refine nx_norm ?_
            refine w_seq ?_
            refine w_ops ?_
            have hq := bindO_inv hr
            clear hr
            obtain ⟨v36, e36, hr⟩ := hq
            refine wo_step (v := v36) (s_pure (o_faddr g3 e36)) ?_
            have hq := bindO_inv hr
            clear hr
            obtain ⟨v37, e37, hr⟩ := hq
            have hq := asI_inv hr
            clear hr
            obtain ⟨x37, rfl, hr⟩ := hq
            refine wo_step (v := (.i .i64 x37)) (s_ld rfl e37) ?_
            have hq := bindO_inv hr
            clear hr
            obtain ⟨v38, e38, hr⟩ := hq
            refine wo_step (v := v38) (s_pure (o_faddr g3 e38)) ?_
            have hq := bindO_inv hr
            clear hr
            obtain ⟨v39, e39, hr⟩ := hq
            have hq := asI_inv hr
            clear hr
            obtain ⟨x39, rfl, hr⟩ := hq
            refine wo_step (v := (.i .i64 x39)) (s_ld rfl e39) ?_
            have hq := forceB_inv hr
            clear hr
            obtain ⟨c40, e40, hr⟩ := hq
            refine wo_step (v := (.b c40)) (s_pure (p_bin rfl rfl (b_geq.trans (cb e40)))) ?_
            refine wo_step (v := (.b c40)) (s_pure (p_mv rfl)) ?_
            have hq := bindO_inv hr
            clear hr
            obtain ⟨o_3, hr, hk⟩ := hq
            refine wo_join 10 (g60_J3 m_2 o_3) ?_ ?_
            · clear hk
              have hq := cond_inv hr
              clear hr
              rcases hq with ⟨rfl, hr⟩ | ⟨rfl, hr⟩
              · have hq := bindO_inv hr
                clear hr
                obtain ⟨v42, e42, hr⟩ := hq
                refine wo_take (v := v42) rfl (s_pure (o_faddr g3 e42)) ?_
                have hq := bindO_inv hr
                clear hr
                obtain ⟨v43, e43, hr⟩ := hq
                have hq := asI_inv hr
                clear hr
                obtain ⟨x43, rfl, hr⟩ := hq
                refine wo_take (v := (.i .i64 x43)) rfl (s_ld rfl e43) ?_
                have hq := bindO_inv hr
                clear hr
                obtain ⟨v44, e44, hr⟩ := hq
                refine wo_take (v := v44) rfl (s_pure (o_faddr g3 e44)) ?_
                have hq := bindO_inv hr
                clear hr
                obtain ⟨v45, e45, hr⟩ := hq
                have hq := asI_inv hr
                clear hr
                obtain ⟨x45, rfl, hr⟩ := hq
                refine wo_take (v := (.i .i64 x45)) rfl (s_ld rfl e45) ?_
                have hq := bindO_inv hr
                clear hr
                obtain ⟨v46, e46, hr⟩ := hq
                refine wo_take (v := v46) rfl (s_pure (o_faddr g2 e46)) ?_
                have hq := bindO_inv hr
                clear hr
                obtain ⟨v47, e47, hr⟩ := hq
                have hq := asI_inv hr
                clear hr
                obtain ⟨x47, rfl, hr⟩ := hq
                refine wo_take (v := (.i .i64 x47)) rfl (s_ld rfl e47) ?_
                have hq := forceI_inv hr
                clear hr
                obtain ⟨x48, e48, hr⟩ := hq
                refine wo_take (v := (.i .i64 x48)) rfl (s_pure (p_bin rfl rfl (b_add.trans (ci e48)))) ?_
                have hq := forceI_inv hr
                clear hr
                obtain ⟨x49, e49, hr⟩ := hq
                refine wo_take (v := (.i .i64 x49)) rfl (s_pure (p_bin rfl rfl (b_sub.trans (ci e49)))) ?_
                have hq := forceB_inv hr
                clear hr
                obtain ⟨c50, e50, hr⟩ := hq
                refine wo_take (v := (.b c50)) rfl (s_pure (p_bin rfl rfl (b_leq.trans (cb e50)))) ?_
                refine wo_step (v := (.b c50)) (s_pure (p_pickT rfl rfl)) ?_
                refine wo_nil ?_
                cases hr
                exact ⟨_, _, rfl, rfl, gl rfl⟩
              · refine wo_skip (v := (.b false)) rfl rfl ?_
                refine wo_skip (v := (.b false)) rfl rfl ?_
                refine wo_skip (v := (.b false)) rfl rfl ?_
                refine wo_skip (v := (.b false)) rfl rfl ?_
                refine wo_skip (v := (.b false)) rfl rfl ?_
                refine wo_skip (v := (.b false)) rfl rfl ?_
                refine wo_skip (v := (.b false)) rfl rfl ?_
                refine wo_skip (v := (.b false)) rfl rfl ?_
                refine wo_skip (v := (.b false)) rfl rfl ?_
                refine wo_step (v := (.b false)) (s_pure (p_pickF rfl rfl)) ?_
                refine wo_nil ?_
                cases hr
                exact ⟨_, _, rfl, rfl, gl rfl⟩
            · clear hr
              have hr := hk
              clear hk
              obtain ⟨c51, ho⟩ : ∃ z, z = o_3 := ⟨_, rfl⟩
              subst ho
              rintro mm_3 t_4 ⟨rfl, g51⟩
              refine wo_step (v := (.b c51)) (s_pure (p_mv g51)) ?_
              refine wo_nil ?_
              refine nx_norm ?_
              refine w_ret ?_
              exact qf ret_ok (rt rfl rn) hr

end Go.Proofs.YtpjjmdbkgkembaaDoor.T

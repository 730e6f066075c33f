/- Plain functions, and that the small machine answers as they do. -/
import Derived.Test.YtddnpchfjdgigaaDoorVmP
import Derived.Test.YtddnpchfjdgigaaDoorVmAE
open Go.Vm
set_option linter.unusedVariables false
namespace Go.Proofs.YtddnpchfjdgigaaDoor.T
open Go
/- dibber/dibberlaw04.TurnTurned -/
abbrev g13_J0 (x0 : Int) (x1 : Int) (v2 : AVal) (v3 : AVal) (o : Bool × Mm) (m1 : Mm) (t1 : Tr) : Prop :=
  match o with
  | (c30, m_2) => m_2 = m1 ∧ t1.get 30 = (.b c30) ∧ t1.get 0 = (.i .i64 x0) ∧ t1.get 1 = (.i .i64 x1) ∧ t1.get 2 = v2 ∧ t1.get 3 = v3
abbrev g13_J1 (x0 : Int) (x1 : Int) (v2 : AVal) (v3 : AVal) (o : Bool × Mm) (m1 : Mm) (t1 : Tr) : Prop :=
  match o with
  | (c37, m_4) => m_4 = m1 ∧ t1.get 37 = (.b c37) ∧ t1.get 0 = (.i .i64 x0) ∧ t1.get 1 = (.i .i64 x1) ∧ t1.get 2 = v2 ∧ t1.get 3 = v3
abbrev g13_I2 (x0 : Int) (x1 : Int) (v2 : AVal) (v3 : AVal) (s : AVal × Int × Mm) (m1 : Mm) (t1 : Tr) : Prop :=
  match s with
  | (v9, x10, m_7) => m_7 = m1 ∧ t1.get 9 = v9 ∧ t1.get 10 = (.i .i64 x10) ∧ t1.get 0 = (.i .i64 x0) ∧ t1.get 1 = (.i .i64 x1) ∧ t1.get 2 = v2 ∧ t1.get 3 = v3
abbrev g13_J2 (x0 : Int) (x1 : Int) (v2 : AVal) (v3 : AVal) (o : (AVal × Mm)) (e : AExit) (m1 : Mm) (t1 : Tr) : Prop :=
  match o with
  | (y9, mo) => e = (.exit 0) ∧ mo = m1 ∧ t1.get 9 = y9 ∧ t1.get 0 = (.i .i64 x0) ∧ t1.get 1 = (.i .i64 x1) ∧ t1.get 2 = v2 ∧ t1.get 3 = v3
def g13_b2 (M : Means) (ro : List ABlk) (x0 : Int) (x1 : Int) (v2 : AVal) (v3 : AVal) (v9 : AVal) (x10 : Int) (m_7 : Mm) : Option ((AVal × Int × Mm) ⊕ ((AVal × Mm))) :=
  bindO (evP .e (.len false (.c v2))) fun v41 =>
  asI .i64 v41 fun x41 =>
  forceB (ltI x10 x41) fun c42 =>
  cond c42 (
    bindO (some (Mm.base m_7)) fun m_8 =>
    bindO (evP .e (.ixS 4 (.c v2) (.c (.i .i64 x10)))) fun v48 =>
    bindO (evP .e (.faddr 1 (.c v48))) fun v49 =>
    bindO (ldM ro m_8 true 1 v49) fun v50 =>
    asI .i64 v50 fun x50 =>
    bindO (evP .e (.ixS 4 (.c v2) (.c (.i .i64 x10)))) fun v53 =>
    bindO (evP .e (.faddr 0 (.c v53))) fun v54 =>
    bindO (ldM ro m_8 true 1 v54) fun v55 =>
    asI .i64 v55 fun x55 =>
    bindO (evP .e (.ixS 4 (.c v2) (.c (.i .i64 x10)))) fun v58 =>
    bindO (evP .e (.faddr 3 (.c v58))) fun v59 =>
    bindO (ldM ro m_8 true 1 v59) fun v60 =>
    asI .i64 v60 fun x60 =>
    forceI (wr .i64 (0 - x60)) fun x61 =>
    bindO (evP .e (.ixS 4 (.c v2) (.c (.i .i64 x10)))) fun v64 =>
    bindO (evP .e (.faddr 2 (.c v64))) fun v65 =>
    bindO (ldM ro m_8 true 1 v65) fun v66 =>
    asI .i64 v66 fun x66 =>
    forceI (wr .i64 (0 - x66)) fun x67 =>
    bindO ((fillA [(AVal.i IntKind.i64 0), (AVal.i IntKind.i64 0), (AVal.i IntKind.i64 0), (AVal.i IntKind.i64 0)] [((0, 1), (.i .i64 x50)), ((1, 1), (.i .i64 x55)), ((2, 1), (.i .i64 x61)), ((3, 1), (.i .i64 x67))]).map AVal.agg) fun v68 =>
    bindP (stepM ro m_8 (.bsl 31 4 [(AVal.i IntKind.i64 0), (AVal.i IntKind.i64 0), (AVal.i IntKind.i64 0), (AVal.i IntKind.i64 0)] 1 [((0, 4), .c v68)])) fun v69 m_9 =>
    bindP (stepM ro m_9 (.app 31 4 32 [(AVal.i IntKind.i64 0), (AVal.i IntKind.i64 0), (AVal.i IntKind.i64 0), (AVal.i IntKind.i64 0)] (.c v9) (.c v69))) fun v70 m_10 =>
    bindO (some (Mm.join m_7 m_10)) fun m_11 =>
    forceI (wr .i64 (x10 + 1)) fun x44 =>
    some (.inl (v70, x44, m_11))) (
    some (.inr (v9, m_7)))
abbrev g13_I3 (x0 : Int) (x1 : Int) (v2 : AVal) (v3 : AVal) (v9_1 : AVal) (s : AVal × Int × Mm) (m1 : Mm) (t1 : Tr) : Prop :=
  match s with
  | (v11, x12, m_15) => m_15 = m1 ∧ t1.get 11 = v11 ∧ t1.get 12 = (.i .i64 x12) ∧ t1.get 0 = (.i .i64 x0) ∧ t1.get 1 = (.i .i64 x1) ∧ t1.get 2 = v2 ∧ t1.get 3 = v3 ∧ t1.get 9 = v9_1
abbrev g13_J3 (x0 : Int) (x1 : Int) (v2 : AVal) (v3 : AVal) (v9_1 : AVal) (o : ((AVal × Mm) ⊕ (Bool × Mm))) (e : AExit) (m1 : Mm) (t1 : Tr) : Prop :=
  match o with
  | (.inl (y11, mo)) => e = (.exit 2) ∧ mo = m1 ∧ t1.get 11 = y11 ∧ t1.get 0 = (.i .i64 x0) ∧ t1.get 1 = (.i .i64 x1) ∧ t1.get 2 = v2 ∧ t1.get 3 = v3 ∧ t1.get 9 = v9_1
  | (.inr (y8, mo)) => e = .ret ∧ mo = m1 ∧ t1.get 8 = (.b y8)
abbrev g13_J4 (x0 : Int) (x1 : Int) (v2 : AVal) (v3 : AVal) (v9_1 : AVal) (v11 : AVal) (x12 : Int) (m_15 : Mm) (o : Bool) (m1 : Mm) (t1 : Tr) : Prop :=
  match o with
  | c94 => m_15 = m1 ∧ t1.get 94 = (.b c94) ∧ t1.get 0 = (.i .i64 x0) ∧ t1.get 1 = (.i .i64 x1) ∧ t1.get 2 = v2 ∧ t1.get 3 = v3 ∧ t1.get 9 = v9_1 ∧ t1.get 11 = v11 ∧ t1.get 12 = (.i .i64 x12)
def g13_b3 (M : Means) (ro : List ABlk) (x0 : Int) (x1 : Int) (v2 : AVal) (v3 : AVal) (v9_1 : AVal) (v11 : AVal) (x12 : Int) (m_15 : Mm) : Option ((AVal × Int × Mm) ⊕ (((AVal × Mm) ⊕ (Bool × Mm)))) :=
  bindO (evP .e (.len false (.c v3))) fun v79 =>
  asI .i64 v79 fun x79 =>
  forceB (ltI x12 x79) fun c80 =>
  cond c80 (
    bindO (evP .e (.ixS 1 (.c v3) (.c (.i .i64 x12)))) fun v85 =>
    bindO (ldM ro m_15 true 1 v85) fun v86 =>
    asI .i64 v86 fun x86 =>
    forceB (ltI x86 (-20)) fun c87 =>
    bindO (cond c87 (
      some true) (
      bindO (evP .e (.ixS 1 (.c v3) (.c (.i .i64 x12)))) fun v91 =>
      bindO (ldM ro m_15 true 1 v91) fun v92 =>
      asI .i64 v92 fun x92 =>
      forceB (ltI 20 x92) fun c93 =>
      some c93)) fun c94 =>
    cond c94 (
      bindP (callM M.call m_15 16 []) fun v95 m_16 =>
      asB v95 fun c95 =>
      some (.inr (.inr (c95, m_16)))) (
      bindO (evP .e (.ixS 1 (.c v3) (.c (.i .i64 x12)))) fun v99 =>
      bindO (ldM ro m_15 true 1 v99) fun v100 =>
      asI .i64 v100 fun x100 =>
      forceI (wr .i64 (0 - x100)) fun x101 =>
      bindP (stepM ro m_15 (.bsl 3 1 [(AVal.i IntKind.i64 0)] 1 [((0, 1), .c (.i .i64 x101))])) fun v102 m_17 =>
      bindP (stepM ro m_17 (.app 3 1 8 [(AVal.i IntKind.i64 0)] (.c v11) (.c v102))) fun v103 m_18 =>
      forceI (wr .i64 (x12 + 1)) fun x82 =>
      some (.inl (v103, x82, m_18)))) (
    some (.inr (.inl (v11, m_15))))
abbrev g13_J5 (x109 : Int) (x116 : Int) (c124 : Bool) (x125 : Int) (c132 : Bool) (x133 : Int) (m_23 : Mm) (o : Bool) (m1 : Mm) (t1 : Tr) : Prop :=
  match o with
  | c139 => m_23 = m1 ∧ t1.get 139 = (.b c139) ∧ t1.get 13 = (.i .i64 x109) ∧ t1.get 15 = (.i .i64 x116) ∧ t1.get 17 = (.b c124) ∧ t1.get 18 = (.i .i64 x125) ∧ t1.get 19 = (.b c132) ∧ t1.get 20 = (.i .i64 x133)
abbrev g13_J6 (x109 : Int) (x116 : Int) (c124 : Bool) (c132 : Bool) (x133 : Int) (m_23 : Mm) (o : Bool) (m1 : Mm) (t1 : Tr) : Prop :=
  match o with
  | c143 => m_23 = m1 ∧ t1.get 143 = (.b c143) ∧ t1.get 13 = (.i .i64 x109) ∧ t1.get 15 = (.i .i64 x116) ∧ t1.get 17 = (.b c124) ∧ t1.get 19 = (.b c132) ∧ t1.get 20 = (.i .i64 x133)
abbrev g13_J7 (x109 : Int) (x116 : Int) (c124 : Bool) (c132 : Bool) (m_23 : Mm) (o : Bool) (m1 : Mm) (t1 : Tr) : Prop :=
  match o with
  | c147 => m_23 = m1 ∧ t1.get 147 = (.b c147) ∧ t1.get 13 = (.i .i64 x109) ∧ t1.get 15 = (.i .i64 x116) ∧ t1.get 17 = (.b c124) ∧ t1.get 19 = (.b c132)
abbrev g13_J8 (c124 : Bool) (c132 : Bool) (m_23 : Mm) (o : Bool) (m1 : Mm) (t1 : Tr) : Prop :=
  match o with
  | c152 => m_23 = m1 ∧ t1.get 152 = (.b c152) ∧ t1.get 17 = (.b c124) ∧ t1.get 19 = (.b c132)
abbrev g13_J9 (m_23 : Mm) (o : Bool) (m1 : Mm) (t1 : Tr) : Prop :=
  match o with
  | c157 => m_23 = m1 ∧ t1.get 157 = (.b c157)
abbrev g13_J10  (o : Bool × Mm) (m1 : Mm) (t1 : Tr) : Prop :=
  match o with
  | (c160, m_24) => m_24 = m1 ∧ t1.get 160 = (.b c160)
def g13 (M : Means) (ro : List ABlk) (x0 : Int) (x1 : Int) (v2 : AVal) (v3 : AVal) (m0 : Mm) : Option (AVal × Heap × Nat × Nat) :=
  bindP (callM M.call m0 15 [v2, v3, AVal.nsl]) fun v23 m_1 =>
  asB v23 fun c23 =>
  forceB (!c23) fun c24 =>
  bindO (cond c24 (
    some (true, m_1)) (
    bindP (callM M.call m_1 21 [(.i .i64 x0), (.i .i64 x1)]) fun v28 m_3 =>
    asB v28 fun c28 =>
    forceB (!c28) fun c29 =>
    some (c29, m_3))) fun ⟨c30, m_2⟩ =>
  bindO (cond c30 (
    some (true, m_2)) (
    bindP (callM M.call m_2 20 [(.i .i64 x0), (.i .i64 x1), v2]) fun v35 m_5 =>
    asI .i64 v35 fun x35 =>
    forceB (!eqI x35 0) fun c36 =>
    some (c36, m_5))) fun ⟨c37, m_4⟩ =>
  cond c37 (
    bindP (callM M.call m_4 16 []) fun v38 m_6 =>
    asB v38 fun c38 =>
    finM m0.h.length (tupA [(.b c38)]) m_6) (
    bindO (M.loop (S := AVal × Int × Mm) (R := (AVal × Mm)) (fun s => g13_b2 M ro x0 x1 v2 v3 s.1 s.2.1 s.2.2) (AVal.nsl, 0, m_4)) fun ⟨v9_1, m_12⟩ =>
    bindP (callM M.call m_12 20 [(.i .i64 x0), (.i .i64 x1), v9_1]) fun v74 m_13 =>
    asI .i64 v74 fun x74 =>
    forceB (!eqI x74 0) fun c75 =>
    cond c75 (
      bindP (callM M.call m_13 16 []) fun v76 m_14 =>
      asB v76 fun c76 =>
      finM m0.h.length (tupA [(.b c76)]) m_14) (
      bindO (M.loop (S := AVal × Int × Mm) (R := ((AVal × Mm) ⊕ (Bool × Mm))) (fun s => g13_b3 M ro x0 x1 v2 v3 v9_1 s.1 s.2.1 s.2.2) (AVal.nsl, 0, m_13)) fun o_4 => match o_4 with
      | (.inl (v11_1, m_19)) =>
        bindP (callM M.call m_19 22 [(.i .i64 x0), (.i .i64 x1), v2]) fun v108 m_20 =>
        bindO (evP .e (.ext 0 (.c v108))) fun v109 =>
        asI .i64 v109 fun x109 =>
        bindO (evP .e (.ext 1 (.c v108))) fun v110 =>
        asI .i64 v110 fun x110 =>
        bindP (callM M.call m_20 22 [(.i .i64 x0), (.i .i64 x1), v9_1]) fun v115 m_21 =>
        bindO (evP .e (.ext 0 (.c v115))) fun v116 =>
        asI .i64 v116 fun x116 =>
        bindO (evP .e (.ext 1 (.c v115))) fun v117 =>
        asI .i64 v117 fun x117 =>
        bindP (callM M.call m_21 30 [(.i .i64 x0), (.i .i64 x1), v2, v3]) fun v123 m_22 =>
        bindO (evP .e (.ext 0 (.c v123))) fun v124 =>
        asB v124 fun c124 =>
        bindO (evP .e (.ext 1 (.c v123))) fun v125 =>
        asI .i64 v125 fun x125 =>
        bindP (callM M.call m_22 30 [(.i .i64 x0), (.i .i64 x1), v9_1, v11_1]) fun v131 m_23 =>
        bindO (evP .e (.ext 0 (.c v131))) fun v132 =>
        asB v132 fun c132 =>
        bindO (evP .e (.ext 1 (.c v131))) fun v133 =>
        asI .i64 v133 fun x133 =>
        forceB (eqI x110 0) fun c135 =>
        bindO (cond c135 (
          forceB (eqI x117 0) fun c138 =>
          some c138) (
          some false)) fun c139 =>
        bindO (cond c139 (
          forceB (eqI x125 0) fun c142 =>
          some c142) (
          some false)) fun c143 =>
        bindO (cond c143 (
          forceB (eqI x133 0) fun c146 =>
          some c146) (
          some false)) fun c147 =>
        bindO (cond c147 (
          forceB (eqI x109 x116) fun c151 =>
          some c151) (
          some false)) fun c152 =>
        bindO (cond c152 (
          forceB (c124 == c132) fun c156 =>
          some c156) (
          some false)) fun c157 =>
        bindO (cond c157 (
          bindP (callM M.call m_23 16 []) fun v159 m_25 =>
          asB v159 fun c159 =>
          some (c159, m_25)) (
          some (false, m_23))) fun ⟨c160, m_24⟩ =>
        finM m0.h.length (tupA [(.b c160)]) m_24
      | (.inr (c8, m_26)) =>
        finM m0.h.length (tupA [(.b c8)]) m_26))

theorem g13_ok {ro : List ABlk} {O : Caller} {M : Means} (hM : M.Ok ⟨F, O⟩ ro) {x0 x1 v2 v3 h r} (ho : O 13 [(.i .i64 x0), (.i .i64 x1), v2, v3] h = none) (hr : g13 M ro x0 x1 v2 v3 ⟨h, h.length, h.length⟩ = some r) : callX ⟨F, O⟩ ro 13 [(.i .i64 x0), (.i .i64 x1), v2, v3] h = some r := by
  refine callX_of (F := ⟨F, O⟩) (fn := fn13) (g := g13 M ro x0 x1 v2 v3) ho rfl rfl hr ?_
  clear ho
  clear hr
  intro m0 t0 ht hr
  have g0 : t0.get 0 = (.i .i64 x0) := ht 0
  have g1 : t0.get 1 = (.i .i64 x1) := ht 1
  have g2 : t0.get 2 = v2 := ht 2
  have g3 : t0.get 3 = v3 := ht 3
  clear ht
  unfold g13 at hr
  refine w_seq ?_
  refine w_ops ?_
  refine wo_step (v := (.b false)) (s_pure (p_mv rfl)) ?_
  refine wo_nil ?_
  refine nx_norm ?_
  refine w_seq ?_
  refine w_seq ?_
  refine w_ops ?_
  refine wo_step (v := v2) (s_pure (p_mv g2)) ?_
  refine wo_step (v := v3) (s_pure (p_mv g3)) ?_
  have hq := bindP_inv hr
  clear hr
  obtain ⟨v23, m_1, e23, hr⟩ := hq
  have hq := asB_inv hr
  clear hr
  obtain ⟨c23, rfl, hr⟩ := hq
  refine wo_step (v := (.b c23)) (s_call (mc rfl (mc rfl (mc rfl mn))) (callM_le hM.call e23)) ?_
  have hq := forceB_inv hr
  clear hr
  obtain ⟨c24, e24, hr⟩ := hq
  refine wo_step (v := (.b c24)) (s_pure ((p_not rfl).trans (cb e24))) ?_
  refine wo_step (v := (.b c24)) (s_pure (p_mv rfl)) ?_
  have hq := bindO_inv hr
  clear hr
  obtain ⟨o, hr, hk⟩ := hq
  refine wo_join 5 (g13_J0 x0 x1 v2 v3 o) ?_ ?_
  · clear hk
    have hq := cond_inv hr
    clear hr
    rcases hq with ⟨rfl, hr⟩ | ⟨rfl, hr⟩
    · refine wo_skip (v := (.b true)) rfl rfl ?_
      refine wo_skip (v := (.b true)) rfl rfl ?_
      refine wo_skip (v := (.b true)) rfl rfl ?_
      refine wo_skip (v := (.b true)) rfl rfl ?_
      refine wo_step (v := (.b true)) (s_pure (p_pickT rfl rfl)) ?_
      refine wo_nil ?_
      cases hr
      exact ⟨_, _, rfl, rfl, gl rfl, gl g0, gl g1, gl g2, gl g3⟩
    · refine wo_take (v := (.i .i64 x0)) rfl (s_pure (p_mv g0)) ?_
      refine wo_take (v := (.i .i64 x1)) rfl (s_pure (p_mv g1)) ?_
      have hq := bindP_inv hr
      clear hr
      obtain ⟨v28, m_3, e28, hr⟩ := hq
      have hq := asB_inv hr
      clear hr
      obtain ⟨c28, rfl, hr⟩ := hq
      refine wo_take (v := (.b c28)) rfl (s_call (mc rfl (mc rfl mn)) (callM_le hM.call e28)) ?_
      have hq := forceB_inv hr
      clear hr
      obtain ⟨c29, e29, hr⟩ := hq
      refine wo_take (v := (.b c29)) rfl (s_pure ((p_not rfl).trans (cb e29))) ?_
      refine wo_step (v := (.b c29)) (s_pure (p_pickF rfl rfl)) ?_
      refine wo_nil ?_
      cases hr
      exact ⟨_, _, rfl, rfl, gl rfl, gl g0, gl g1, gl g2, gl g3⟩
  · clear hr
    have hr := hk
    clear hk
    obtain ⟨c30, m_2⟩ := o
    rintro mm t_1 ⟨rfl, g30, g0, g1, g2, g3⟩
    refine wo_step (v := (.b c30)) (s_pure (p_mv g30)) ?_
    have hq := bindO_inv hr
    clear hr
    obtain ⟨o_1, hr, hk⟩ := hq
    refine wo_join 6 (g13_J1 x0 x1 v2 v3 o_1) ?_ ?_
    · clear hk
      have hq := cond_inv hr
      clear hr
      rcases hq with ⟨rfl, hr⟩ | ⟨rfl, hr⟩
      · refine wo_skip (v := (.b true)) rfl rfl ?_
        refine wo_skip (v := (.b true)) rfl rfl ?_
        refine wo_skip (v := (.b true)) rfl rfl ?_
        refine wo_skip (v := (.b true)) rfl rfl ?_
        refine wo_skip (v := (.b true)) rfl rfl ?_
        refine wo_step (v := (.b true)) (s_pure (p_pickT rfl rfl)) ?_
        refine wo_nil ?_
        cases hr
        exact ⟨_, _, rfl, rfl, gl rfl, gl g0, gl g1, gl g2, gl g3⟩
      · refine wo_take (v := (.i .i64 x0)) rfl (s_pure (p_mv g0)) ?_
        refine wo_take (v := (.i .i64 x1)) rfl (s_pure (p_mv g1)) ?_
        refine wo_take (v := v2) rfl (s_pure (p_mv g2)) ?_
        have hq := bindP_inv hr
        clear hr
        obtain ⟨v35, m_5, e35, hr⟩ := hq
        have hq := asI_inv hr
        clear hr
        obtain ⟨x35, rfl, hr⟩ := hq
        refine wo_take (v := (.i .i64 x35)) rfl (s_call (mc rfl (mc rfl (mc rfl mn))) (callM_le hM.call e35)) ?_
        have hq := forceB_inv hr
        clear hr
        obtain ⟨c36, e36, hr⟩ := hq
        refine wo_take (v := (.b c36)) rfl (s_pure (p_bin rfl rfl (b_neq.trans (cb e36)))) ?_
        refine wo_step (v := (.b c36)) (s_pure (p_pickF rfl rfl)) ?_
        refine wo_nil ?_
        cases hr
        exact ⟨_, _, rfl, rfl, gl rfl, gl g0, gl g1, gl g2, gl g3⟩
    · clear hr
      have hr := hk
      clear hk
      obtain ⟨c37, m_4⟩ := o_1
      rintro mm_1 t_2 ⟨rfl, g37, g0, g1, g2, g3⟩
      refine wo_nil ?_
      refine nx_norm ?_
      have hq := cond_inv hr
      clear hr
      rcases hq with ⟨rfl, hr⟩ | ⟨rfl, hr⟩
      · refine w_condT g37 ?_
        refine w_seq ?_
        refine w_ops ?_
        have hq := bindP_inv hr
        clear hr
        obtain ⟨v38, m_6, e38, hr⟩ := hq
        have hq := asB_inv hr
        clear hr
        obtain ⟨c38, rfl, hr⟩ := hq
        refine wo_step (v := (.b c38)) (s_call mn (callM_le hM.call e38)) ?_
        refine wo_step (v := (.b c38)) (s_pure (p_mv rfl)) ?_
        refine wo_nil ?_
        refine nx_norm ?_
        refine w_ret ?_
        refine nx_ret ?_
        exact qf ret_ok (rt rfl rn) hr
      · refine w_condF g37 ?_
        refine w_skip ?_
        refine nx_norm ?_
        refine w_seq ?_
        refine w_ops ?_
        refine wo_step (v := AVal.nsl) (s_pure (p_mv rfl)) ?_
        refine wo_nil ?_
        refine nx_norm ?_
        refine w_seq ?_
        refine w_seq ?_
        refine w_ops ?_
        refine wo_step (v := (.i .i64 0)) (s_pure (p_mv rfl)) ?_
        refine wo_nil ?_
        refine nx_norm ?_
        refine w_block ?_
        have hq := bindO_inv hr
        clear hr
        obtain ⟨o_2, hl_1, hr⟩ := hq
        obtain ⟨n_1, hl_1⟩ := hM.loop _ _ _ hl_1
        refine jp_mono (w_loop _ (g13_I2 x0 x1 v2 v3) (g13_J2 x0 x1 v2 v3) ?_ n_1 _ _ _ _ hl_1 ⟨rfl, gl rfl, gl rfl, gl g0, gl g1, gl g2, gl g3⟩) ?_
        · clear hr hl_1
          intro s mm_13 t_3 o hi hr
          obtain ⟨v9, x10, m_7⟩ := s
          obtain ⟨rfl, g9, g10, g0, g1, g2, g3⟩ := hi
          unfold g13_b2 at hr
          refine w_seq ?_
          refine w_seq ?_
          refine w_ops ?_
          refine wo_step (v := (.i .i64 x10)) (s_pure (p_mv g10)) ?_
          refine wo_step (v := v2) (s_pure (p_mv g2)) ?_
          have hq := bindO_inv hr
          clear hr
          obtain ⟨v41, e41, hr⟩ := hq
          have hq := asI_inv hr
          clear hr
          obtain ⟨x41, rfl, hr⟩ := hq
          refine wo_step (v := (.i .i64 x41)) (s_pure (o_len rfl e41)) ?_
          have hq := forceB_inv hr
          clear hr
          obtain ⟨c42, e42, hr⟩ := hq
          refine wo_step (v := (.b c42)) (s_pure (p_bin rfl rfl (b_lss.trans (cb e42)))) ?_
          refine wo_nil ?_
          refine nx_norm ?_
          have hq := cond_inv hr
          clear hr
          rcases hq with ⟨rfl, hr⟩ | ⟨rfl, hr⟩
          · refine w_condT rfl ?_
            refine w_skip ?_
            refine nx_norm ?_
            refine w_seq ?_
            refine w_block ?_
            have hq := bindO_inv hr
            clear hr
            obtain ⟨m_8, ef, hr⟩ := hq
            refine w_flt (af := false) rfl ef ?_
            refine wf_step (v := v9) (f_P rfl (s_pure (p_mv g9))) ?_
            refine wf_step (v := v2) (f_P rfl (s_pure (p_mv g2))) ?_
            refine wf_step (v := (.i .i64 x10)) (f_P rfl (s_pure (p_mv g10))) ?_
            have hq := bindO_inv hr
            clear hr
            obtain ⟨v48, e48, hr⟩ := hq
            refine wf_step (v := v48) (f_P rfl (s_pure (o_ixS rfl rfl e48))) ?_
            have hq := bindO_inv hr
            clear hr
            obtain ⟨v49, e49, hr⟩ := hq
            refine wf_step (v := v49) (f_P rfl (s_pure (o_faddr rfl e49))) ?_
            have hq := bindO_inv hr
            clear hr
            obtain ⟨v50, e50, hr⟩ := hq
            have hq := asI_inv hr
            clear hr
            obtain ⟨x50, rfl, hr⟩ := hq
            refine wf_step (v := (.i .i64 x50)) (f_P rfl (s_ld rfl e50)) ?_
            refine wf_step (v := v2) (f_P rfl (s_pure (p_mv g2))) ?_
            refine wf_step (v := (.i .i64 x10)) (f_P rfl (s_pure (p_mv g10))) ?_
            have hq := bindO_inv hr
            clear hr
            obtain ⟨v53, e53, hr⟩ := hq
            refine wf_step (v := v53) (f_P rfl (s_pure (o_ixS rfl rfl e53))) ?_
            have hq := bindO_inv hr
            clear hr
            obtain ⟨v54, e54, hr⟩ := hq
            refine wf_step (v := v54) (f_P rfl (s_pure (o_faddr rfl e54))) ?_
            have hq := bindO_inv hr
            clear hr
            obtain ⟨v55, e55, hr⟩ := hq
            have hq := asI_inv hr
            clear hr
            obtain ⟨x55, rfl, hr⟩ := hq
            refine wf_step (v := (.i .i64 x55)) (f_P rfl (s_ld rfl e55)) ?_
            refine wf_step (v := v2) (f_P rfl (s_pure (p_mv g2))) ?_
            refine wf_step (v := (.i .i64 x10)) (f_P rfl (s_pure (p_mv g10))) ?_
            have hq := bindO_inv hr
            clear hr
            obtain ⟨v58, e58, hr⟩ := hq
            refine wf_step (v := v58) (f_P rfl (s_pure (o_ixS rfl rfl e58))) ?_
            have hq := bindO_inv hr
            clear hr
            obtain ⟨v59, e59, hr⟩ := hq
            refine wf_step (v := v59) (f_P rfl (s_pure (o_faddr rfl e59))) ?_
            have hq := bindO_inv hr
            clear hr
            obtain ⟨v60, e60, hr⟩ := hq
            have hq := asI_inv hr
            clear hr
            obtain ⟨x60, rfl, hr⟩ := hq
            refine wf_step (v := (.i .i64 x60)) (f_P rfl (s_ld rfl e60)) ?_
            have hq := forceI_inv hr
            clear hr
            obtain ⟨x61, e61, hr⟩ := hq
            refine wf_step (v := (.i .i64 x61)) (f_P rfl (s_pure ((p_neg rfl).trans (ci e61)))) ?_
            refine wf_step (v := v2) (f_P rfl (s_pure (p_mv g2))) ?_
            refine wf_step (v := (.i .i64 x10)) (f_P rfl (s_pure (p_mv g10))) ?_
            have hq := bindO_inv hr
            clear hr
            obtain ⟨v64, e64, hr⟩ := hq
            refine wf_step (v := v64) (f_P rfl (s_pure (o_ixS rfl rfl e64))) ?_
            have hq := bindO_inv hr
            clear hr
            obtain ⟨v65, e65, hr⟩ := hq
            refine wf_step (v := v65) (f_P rfl (s_pure (o_faddr rfl e65))) ?_
            have hq := bindO_inv hr
            clear hr
            obtain ⟨v66, e66, hr⟩ := hq
            have hq := asI_inv hr
            clear hr
            obtain ⟨x66, rfl, hr⟩ := hq
            refine wf_step (v := (.i .i64 x66)) (f_P rfl (s_ld rfl e66)) ?_
            have hq := forceI_inv hr
            clear hr
            obtain ⟨x67, e67, hr⟩ := hq
            refine wf_step (v := (.i .i64 x67)) (f_P rfl (s_pure ((p_neg rfl).trans (ci e67)))) ?_
            have hq := bindO_inv hr
            clear hr
            obtain ⟨v68, e68, hr⟩ := hq
            refine wf_step (v := v68) (f_P rfl (s_pure (o_build (qc rfl (qc rfl (qc rfl (qc rfl qn)))) e68))) ?_
            have hq := bindP_inv hr
            clear hr
            obtain ⟨v69, m_9, e69, hr⟩ := hq
            refine wf_step (v := v69) (f_N (s_bsl (qc rfl qn) e69)) ?_
            have hq := bindP_inv hr
            clear hr
            obtain ⟨v70, m_10, e70, hr⟩ := hq
            refine wf_step (v := v70) (f_N (s_app rfl rfl e70)) ?_
            refine wf_step (v := v70) (f_P rfl (s_pure (p_mv rfl))) ?_
            have hq := bindO_inv hr
            clear hr
            obtain ⟨m_11, ef_1, hr⟩ := hq
            refine wf_end ef_1 ?_
            refine bk_norm ?_
            refine nx_norm ?_
            refine w_ops ?_
            refine wo_step (v := (.i .i64 x10)) (s_pure (p_mv g10)) ?_
            have hq := forceI_inv hr
            clear hr
            obtain ⟨x44, e44, hr⟩ := hq
            refine wo_step (v := (.i .i64 x44)) (s_pure (p_bin rfl rfl (b_add.trans (ci e44)))) ?_
            refine wo_step (v := (.i .i64 x44)) (s_pure (p_mv rfl)) ?_
            refine wo_nil ?_
            cases hr
            exact ⟨_, _, rfl, rfl, rfl, gl rfl, gl rfl, gl g0, gl g1, gl g2, gl g3⟩
          · refine w_condF rfl ?_
            refine w_exit ?_
            refine nx_exit ?_
            cases hr
            exact ⟨_, _, rfl, ne_norm_exit, rfl, rfl, gl g9, gl g0, gl g1, gl g2, gl g3⟩
        · obtain ⟨v9_1, m_12⟩ := o_2
          rintro _ mm_12 t_4 ⟨rfl, rfl, g9, g0, g1, g2, g3⟩
          refine bk_hit ?_
          refine nx_norm ?_
          refine w_seq ?_
          refine w_seq ?_
          refine w_ops ?_
          refine wo_step (v := (.i .i64 x0)) (s_pure (p_mv g0)) ?_
          refine wo_step (v := (.i .i64 x1)) (s_pure (p_mv g1)) ?_
          refine wo_step (v := v9_1) (s_pure (p_mv g9)) ?_
          have hq := bindP_inv hr
          clear hr
          obtain ⟨v74, m_13, e74, hr⟩ := hq
          have hq := asI_inv hr
          clear hr
          obtain ⟨x74, rfl, hr⟩ := hq
          refine wo_step (v := (.i .i64 x74)) (s_call (mc rfl (mc rfl (mc rfl mn))) (callM_le hM.call e74)) ?_
          have hq := forceB_inv hr
          clear hr
          obtain ⟨c75, e75, hr⟩ := hq
          refine wo_step (v := (.b c75)) (s_pure (p_bin rfl rfl (b_neq.trans (cb e75)))) ?_
          refine wo_nil ?_
          refine nx_norm ?_
          have hq := cond_inv hr
          clear hr
          rcases hq with ⟨rfl, hr⟩ | ⟨rfl, hr⟩
          · refine w_condT rfl ?_
            refine w_seq ?_
            refine w_ops ?_
            have hq := bindP_inv hr
            clear hr
            obtain ⟨v76, m_14, e76, hr⟩ := hq
            have hq := asB_inv hr
            clear hr
            obtain ⟨c76, rfl, hr⟩ := hq
            refine wo_step (v := (.b c76)) (s_call mn (callM_le hM.call e76)) ?_
            refine wo_step (v := (.b c76)) (s_pure (p_mv rfl)) ?_
            refine wo_nil ?_
            refine nx_norm ?_
            refine w_ret ?_
            refine nx_ret ?_
            exact qf ret_ok (rt rfl rn) hr
          · refine w_condF rfl ?_
            refine w_skip ?_
            refine nx_norm ?_
            refine w_seq ?_
            refine w_ops ?_
            refine wo_step (v := AVal.nsl) (s_pure (p_mv rfl)) ?_
            refine wo_nil ?_
            refine nx_norm ?_
            refine w_seq ?_
            refine w_seq ?_
            refine w_ops ?_
            refine wo_step (v := (.i .i64 0)) (s_pure (p_mv rfl)) ?_
            refine wo_nil ?_
            refine nx_norm ?_
            refine w_block ?_
            have hq := bindO_inv hr
            clear hr
            obtain ⟨o_4, hl, hr⟩ := hq
            obtain ⟨n, hl⟩ := hM.loop _ _ _ hl
            refine jp_mono (w_loop _ (g13_I3 x0 x1 v2 v3 v9_1) (g13_J3 x0 x1 v2 v3 v9_1) ?_ n _ _ _ _ hl ⟨rfl, gl rfl, gl rfl, gl g0, gl g1, gl g2, gl g3, gl g9⟩) ?_
            · clear hr hl
              intro s mm_11 t_5 o hi hr
              obtain ⟨v11, x12, m_15⟩ := s
              obtain ⟨rfl, g11, g12, g0, g1, g2, g3, g9⟩ := hi
              unfold g13_b3 at hr
              refine w_seq ?_
              refine w_seq ?_
              refine w_ops ?_
              refine wo_step (v := (.i .i64 x12)) (s_pure (p_mv g12)) ?_
              refine wo_step (v := v3) (s_pure (p_mv g3)) ?_
              have hq := bindO_inv hr
              clear hr
              obtain ⟨v79, e79, hr⟩ := hq
              have hq := asI_inv hr
              clear hr
              obtain ⟨x79, rfl, hr⟩ := hq
              refine wo_step (v := (.i .i64 x79)) (s_pure (o_len rfl e79)) ?_
              have hq := forceB_inv hr
              clear hr
              obtain ⟨c80, e80, hr⟩ := hq
              refine wo_step (v := (.b c80)) (s_pure (p_bin rfl rfl (b_lss.trans (cb e80)))) ?_
              refine wo_nil ?_
              refine nx_norm ?_
              have hq := cond_inv hr
              clear hr
              rcases hq with ⟨rfl, hr⟩ | ⟨rfl, hr⟩
              · refine w_condT rfl ?_
                refine w_skip ?_
                refine nx_norm ?_
                refine w_seq ?_
                refine w_block ?_
                refine w_seq ?_
                refine w_seq ?_
                refine w_ops ?_
                refine wo_step (v := v3) (s_pure (p_mv g3)) ?_
                refine wo_step (v := (.i .i64 x12)) (s_pure (p_mv g12)) ?_
                have hq := bindO_inv hr
                clear hr
                obtain ⟨v85, e85, hr⟩ := hq
                refine wo_step (v := v85) (s_pure (o_ixS rfl rfl e85)) ?_
                have hq := bindO_inv hr
                clear hr
                obtain ⟨v86, e86, hr⟩ := hq
                have hq := asI_inv hr
                clear hr
                obtain ⟨x86, rfl, hr⟩ := hq
                refine wo_step (v := (.i .i64 x86)) (s_ld rfl e86) ?_
                have hq := forceB_inv hr
                clear hr
                obtain ⟨c87, e87, hr⟩ := hq
                refine wo_step (v := (.b c87)) (s_pure (p_bin rfl rfl (b_lss.trans (cb e87)))) ?_
                refine wo_step (v := (.b c87)) (s_pure (p_mv rfl)) ?_
                have hq := bindO_inv hr
                clear hr
                obtain ⟨o_3, hr, hk⟩ := hq
                refine wo_join 6 (g13_J4 x0 x1 v2 v3 v9_1 v11 x12 m_15 o_3) ?_ ?_
                · clear hk
                  have hq := cond_inv hr
                  clear hr
                  rcases hq with ⟨rfl, hr⟩ | ⟨rfl, hr⟩
                  · refine wo_skip (v := (.b true)) rfl rfl ?_
                    refine wo_skip (v := (.b true)) rfl rfl ?_
                    refine wo_skip (v := (.b true)) rfl rfl ?_
                    refine wo_skip (v := (.b true)) rfl rfl ?_
                    refine wo_skip (v := (.b true)) rfl rfl ?_
                    refine wo_step (v := (.b true)) (s_pure (p_pickT rfl rfl)) ?_
                    refine wo_nil ?_
                    cases hr
                    exact ⟨_, _, rfl, rfl, gl rfl, gl g0, gl g1, gl g2, gl g3, gl g9, gl g11, gl g12⟩
                  · refine wo_take (v := v3) rfl (s_pure (p_mv g3)) ?_
                    refine wo_take (v := (.i .i64 x12)) rfl (s_pure (p_mv g12)) ?_
                    have hq := bindO_inv hr
                    clear hr
                    obtain ⟨v91, e91, hr⟩ := hq
                    refine wo_take (v := v91) rfl (s_pure (o_ixS rfl rfl e91)) ?_
                    have hq := bindO_inv hr
                    clear hr
                    obtain ⟨v92, e92, hr⟩ := hq
                    have hq := asI_inv hr
                    clear hr
                    obtain ⟨x92, rfl, hr⟩ := hq
                    refine wo_take (v := (.i .i64 x92)) rfl (s_ld rfl e92) ?_
                    have hq := forceB_inv hr
                    clear hr
                    obtain ⟨c93, e93, hr⟩ := hq
                    refine wo_take (v := (.b c93)) rfl (s_pure (p_bin rfl rfl (b_gtr.trans (cb e93)))) ?_
                    refine wo_step (v := (.b c93)) (s_pure (p_pickF rfl rfl)) ?_
                    refine wo_nil ?_
                    cases hr
                    exact ⟨_, _, rfl, rfl, gl rfl, gl g0, gl g1, gl g2, gl g3, gl g9, gl g11, gl g12⟩
                · clear hr
                  have hr := hk
                  clear hk
                  obtain ⟨c94, ho⟩ : ∃ z, z = o_3 := ⟨_, rfl⟩
                  subst ho
                  rintro mm_2 t_6 ⟨rfl, g94, g0, g1, g2, g3, g9, g11, g12⟩
                  refine wo_nil ?_
                  refine nx_norm ?_
                  have hq := cond_inv hr
                  clear hr
                  rcases hq with ⟨rfl, hr⟩ | ⟨rfl, hr⟩
                  · refine w_condT g94 ?_
                    refine w_seq ?_
                    refine w_ops ?_
                    have hq := bindP_inv hr
                    clear hr
                    obtain ⟨v95, m_16, e95, hr⟩ := hq
                    have hq := asB_inv hr
                    clear hr
                    obtain ⟨c95, rfl, hr⟩ := hq
                    refine wo_step (v := (.b c95)) (s_call mn (callM_le hM.call e95)) ?_
                    refine wo_step (v := (.b c95)) (s_pure (p_mv rfl)) ?_
                    refine wo_nil ?_
                    refine nx_norm ?_
                    refine w_ret ?_
                    refine nx_ret ?_
                    refine bk_ret ?_
                    refine nx_ret ?_
                    cases hr
                    exact ⟨_, _, rfl, ne_norm_ret, rfl, rfl, gl rfl⟩
                  · refine w_condF g94 ?_
                    refine w_skip ?_
                    refine nx_norm ?_
                    refine w_ops ?_
                    refine wo_step (v := v11) (s_pure (p_mv g11)) ?_
                    refine wo_step (v := v3) (s_pure (p_mv g3)) ?_
                    refine wo_step (v := (.i .i64 x12)) (s_pure (p_mv g12)) ?_
                    have hq := bindO_inv hr
                    clear hr
                    obtain ⟨v99, e99, hr⟩ := hq
                    refine wo_step (v := v99) (s_pure (o_ixS rfl rfl e99)) ?_
                    have hq := bindO_inv hr
                    clear hr
                    obtain ⟨v100, e100, hr⟩ := hq
                    have hq := asI_inv hr
                    clear hr
                    obtain ⟨x100, rfl, hr⟩ := hq
                    refine wo_step (v := (.i .i64 x100)) (s_ld rfl e100) ?_
                    have hq := forceI_inv hr
                    clear hr
                    obtain ⟨x101, e101, hr⟩ := hq
                    refine wo_step (v := (.i .i64 x101)) (s_pure ((p_neg rfl).trans (ci e101))) ?_
                    have hq := bindP_inv hr
                    clear hr
                    obtain ⟨v102, m_17, e102, hr⟩ := hq
                    refine wo_step (v := v102) (s_bsl (qc rfl qn) e102) ?_
                    have hq := bindP_inv hr
                    clear hr
                    obtain ⟨v103, m_18, e103, hr⟩ := hq
                    refine wo_step (v := v103) (s_app rfl rfl e103) ?_
                    refine wo_step (v := v103) (s_pure (p_mv rfl)) ?_
                    refine wo_nil ?_
                    refine bk_norm ?_
                    refine nx_norm ?_
                    refine w_ops ?_
                    refine wo_step (v := (.i .i64 x12)) (s_pure (p_mv g12)) ?_
                    have hq := forceI_inv hr
                    clear hr
                    obtain ⟨x82, e82, hr⟩ := hq
                    refine wo_step (v := (.i .i64 x82)) (s_pure (p_bin rfl rfl (b_add.trans (ci e82)))) ?_
                    refine wo_step (v := (.i .i64 x82)) (s_pure (p_mv rfl)) ?_
                    refine wo_nil ?_
                    cases hr
                    exact ⟨_, _, rfl, rfl, rfl, gl rfl, gl rfl, gl g0, gl g1, gl g2, gl g3, gl g9⟩
              · refine w_condF rfl ?_
                refine w_exit ?_
                refine nx_exit ?_
                cases hr
                exact ⟨_, _, rfl, ne_norm_exit, rfl, rfl, gl g11, gl g0, gl g1, gl g2, gl g3, gl g9⟩
            · rcases o_4 with o_4 | o_4
              · obtain ⟨v11_1, m_19⟩ := o_4
                rintro _ mm_9 t_7 ⟨rfl, rfl, g11, g0, g1, g2, g3, g9⟩
                refine bk_hit ?_
                refine nx_norm ?_
                refine w_seq ?_
                refine w_ops ?_
                refine wo_step (v := (.i .i64 x0)) (s_pure (p_mv g0)) ?_
                refine wo_step (v := (.i .i64 x1)) (s_pure (p_mv g1)) ?_
                refine wo_step (v := v2) (s_pure (p_mv g2)) ?_
                have hq := bindP_inv hr
                clear hr
                obtain ⟨v108, m_20, e108, hr⟩ := hq
                refine wo_step (v := v108) (s_call (mc rfl (mc rfl (mc rfl mn))) (callM_le hM.call e108)) ?_
                refine wo_step (v := v108) (s_pure (p_mv rfl)) ?_
                have hq := bindO_inv hr
                clear hr
                obtain ⟨v109, e109, hr⟩ := hq
                have hq := asI_inv hr
                clear hr
                obtain ⟨x109, rfl, hr⟩ := hq
                refine wo_step (v := (.i .i64 x109)) (s_pure (o_ext rfl e109)) ?_
                have hq := bindO_inv hr
                clear hr
                obtain ⟨v110, e110, hr⟩ := hq
                have hq := asI_inv hr
                clear hr
                obtain ⟨x110, rfl, hr⟩ := hq
                refine wo_step (v := (.i .i64 x110)) (s_pure (o_ext rfl e110)) ?_
                refine wo_step (v := (.i .i64 x109)) (s_pure (p_mv rfl)) ?_
                refine wo_step (v := (.i .i64 x110)) (s_pure (p_mv rfl)) ?_
                refine wo_nil ?_
                refine nx_norm ?_
                refine w_seq ?_
                refine w_ops ?_
                refine wo_step (v := (.i .i64 x0)) (s_pure (p_mv g0)) ?_
                refine wo_step (v := (.i .i64 x1)) (s_pure (p_mv g1)) ?_
                refine wo_step (v := v9_1) (s_pure (p_mv g9)) ?_
                have hq := bindP_inv hr
                clear hr
                obtain ⟨v115, m_21, e115, hr⟩ := hq
                refine wo_step (v := v115) (s_call (mc rfl (mc rfl (mc rfl mn))) (callM_le hM.call e115)) ?_
                refine wo_step (v := v115) (s_pure (p_mv rfl)) ?_
                have hq := bindO_inv hr
                clear hr
                obtain ⟨v116, e116, hr⟩ := hq
                have hq := asI_inv hr
                clear hr
                obtain ⟨x116, rfl, hr⟩ := hq
                refine wo_step (v := (.i .i64 x116)) (s_pure (o_ext rfl e116)) ?_
                have hq := bindO_inv hr
                clear hr
                obtain ⟨v117, e117, hr⟩ := hq
                have hq := asI_inv hr
                clear hr
                obtain ⟨x117, rfl, hr⟩ := hq
                refine wo_step (v := (.i .i64 x117)) (s_pure (o_ext rfl e117)) ?_
                refine wo_step (v := (.i .i64 x116)) (s_pure (p_mv rfl)) ?_
                refine wo_step (v := (.i .i64 x117)) (s_pure (p_mv rfl)) ?_
                refine wo_nil ?_
                refine nx_norm ?_
                refine w_seq ?_
                refine w_ops ?_
                refine wo_step (v := (.i .i64 x0)) (s_pure (p_mv g0)) ?_
                refine wo_step (v := (.i .i64 x1)) (s_pure (p_mv g1)) ?_
                refine wo_step (v := v2) (s_pure (p_mv g2)) ?_
                refine wo_step (v := v3) (s_pure (p_mv g3)) ?_
                have hq := bindP_inv hr
                clear hr
                obtain ⟨v123, m_22, e123, hr⟩ := hq
                refine wo_step (v := v123) (s_call (mc rfl (mc rfl (mc rfl (mc rfl mn)))) (callM_le hM.call e123)) ?_
                refine wo_step (v := v123) (s_pure (p_mv rfl)) ?_
                have hq := bindO_inv hr
                clear hr
                obtain ⟨v124, e124, hr⟩ := hq
                have hq := asB_inv hr
                clear hr
                obtain ⟨c124, rfl, hr⟩ := hq
                refine wo_step (v := (.b c124)) (s_pure (o_ext rfl e124)) ?_
                have hq := bindO_inv hr
                clear hr
                obtain ⟨v125, e125, hr⟩ := hq
                have hq := asI_inv hr
                clear hr
                obtain ⟨x125, rfl, hr⟩ := hq
                refine wo_step (v := (.i .i64 x125)) (s_pure (o_ext rfl e125)) ?_
                refine wo_step (v := (.b c124)) (s_pure (p_mv rfl)) ?_
                refine wo_step (v := (.i .i64 x125)) (s_pure (p_mv rfl)) ?_
                refine wo_nil ?_
                refine nx_norm ?_
                refine w_seq ?_
                refine w_ops ?_
                refine wo_step (v := (.i .i64 x0)) (s_pure (p_mv g0)) ?_
                refine wo_step (v := (.i .i64 x1)) (s_pure (p_mv g1)) ?_
                refine wo_step (v := v9_1) (s_pure (p_mv g9)) ?_
                refine wo_step (v := v11_1) (s_pure (p_mv g11)) ?_
                have hq := bindP_inv hr
                clear hr
                obtain ⟨v131, m_23, e131, hr⟩ := hq
                refine wo_step (v := v131) (s_call (mc rfl (mc rfl (mc rfl (mc rfl mn)))) (callM_le hM.call e131)) ?_
                refine wo_step (v := v131) (s_pure (p_mv rfl)) ?_
                have hq := bindO_inv hr
                clear hr
                obtain ⟨v132, e132, hr⟩ := hq
                have hq := asB_inv hr
                clear hr
                obtain ⟨c132, rfl, hr⟩ := hq
                refine wo_step (v := (.b c132)) (s_pure (o_ext rfl e132)) ?_
                have hq := bindO_inv hr
                clear hr
                obtain ⟨v133, e133, hr⟩ := hq
                have hq := asI_inv hr
                clear hr
                obtain ⟨x133, rfl, hr⟩ := hq
                refine wo_step (v := (.i .i64 x133)) (s_pure (o_ext rfl e133)) ?_
                refine wo_step (v := (.b c132)) (s_pure (p_mv rfl)) ?_
                refine wo_step (v := (.i .i64 x133)) (s_pure (p_mv rfl)) ?_
                refine wo_nil ?_
                refine nx_norm ?_
                refine w_seq ?_
                refine w_ops ?_
                refine wo_step (v := (.i .i64 x110)) (s_pure (p_mv rfl)) ?_
                have hq := forceB_inv hr
                clear hr
                obtain ⟨c135, e135, hr⟩ := hq
                refine wo_step (v := (.b c135)) (s_pure (p_bin rfl rfl (b_eql.trans (cb e135)))) ?_
                refine wo_step (v := (.b c135)) (s_pure (p_mv rfl)) ?_
                have hq := bindO_inv hr
                clear hr
                obtain ⟨o_5, hr, hk⟩ := hq
                refine wo_join 3 (g13_J5 x109 x116 c124 x125 c132 x133 m_23 o_5) ?_ ?_
                · clear hk
                  have hq := cond_inv hr
                  clear hr
                  rcases hq with ⟨rfl, hr⟩ | ⟨rfl, hr⟩
                  · refine wo_take (v := (.i .i64 x117)) rfl (s_pure (p_mv rfl)) ?_
                    have hq := forceB_inv hr
                    clear hr
                    obtain ⟨c138, e138, hr⟩ := hq
                    refine wo_take (v := (.b c138)) rfl (s_pure (p_bin rfl rfl (b_eql.trans (cb e138)))) ?_
                    refine wo_step (v := (.b c138)) (s_pure (p_pickT rfl rfl)) ?_
                    refine wo_nil ?_
                    cases hr
                    exact ⟨_, _, rfl, rfl, gl rfl, gl rfl, gl rfl, gl rfl, gl rfl, gl rfl, gl rfl⟩
                  · refine wo_skip (v := (.b false)) rfl rfl ?_
                    refine wo_skip (v := (.b false)) rfl rfl ?_
                    refine wo_step (v := (.b false)) (s_pure (p_pickF rfl rfl)) ?_
                    refine wo_nil ?_
                    cases hr
                    exact ⟨_, _, rfl, rfl, gl rfl, gl rfl, gl rfl, gl rfl, gl rfl, gl rfl, gl rfl⟩
                · clear hr
                  have hr := hk
                  clear hk
                  obtain ⟨c139, ho⟩ : ∃ z, z = o_5 := ⟨_, rfl⟩
                  subst ho
                  rintro mm_3 t_8 ⟨rfl, g139, g13, g15, g17, g18, g19, g20⟩
                  refine wo_step (v := (.b c139)) (s_pure (p_mv g139)) ?_
                  have hq := bindO_inv hr
                  clear hr
                  obtain ⟨o_6, hr, hk⟩ := hq
                  refine wo_join 3 (g13_J6 x109 x116 c124 c132 x133 m_23 o_6) ?_ ?_
                  · clear hk
                    have hq := cond_inv hr
                    clear hr
                    rcases hq with ⟨rfl, hr⟩ | ⟨rfl, hr⟩
                    · refine wo_take (v := (.i .i64 x125)) rfl (s_pure (p_mv g18)) ?_
                      have hq := forceB_inv hr
                      clear hr
                      obtain ⟨c142, e142, hr⟩ := hq
                      refine wo_take (v := (.b c142)) rfl (s_pure (p_bin rfl rfl (b_eql.trans (cb e142)))) ?_
                      refine wo_step (v := (.b c142)) (s_pure (p_pickT rfl rfl)) ?_
                      refine wo_nil ?_
                      cases hr
                      exact ⟨_, _, rfl, rfl, gl rfl, gl g13, gl g15, gl g17, gl g19, gl g20⟩
                    · refine wo_skip (v := (.b false)) rfl rfl ?_
                      refine wo_skip (v := (.b false)) rfl rfl ?_
                      refine wo_step (v := (.b false)) (s_pure (p_pickF rfl rfl)) ?_
                      refine wo_nil ?_
                      cases hr
                      exact ⟨_, _, rfl, rfl, gl rfl, gl g13, gl g15, gl g17, gl g19, gl g20⟩
                  · clear hr
                    have hr := hk
                    clear hk
                    obtain ⟨c143, ho⟩ : ∃ z, z = o_6 := ⟨_, rfl⟩
                    subst ho
                    rintro mm_4 t_9 ⟨rfl, g143, g13, g15, g17, g19, g20⟩
                    refine wo_step (v := (.b c143)) (s_pure (p_mv g143)) ?_
                    have hq := bindO_inv hr
                    clear hr
                    obtain ⟨o_7, hr, hk⟩ := hq
                    refine wo_join 3 (g13_J7 x109 x116 c124 c132 m_23 o_7) ?_ ?_
                    · clear hk
                      have hq := cond_inv hr
                      clear hr
                      rcases hq with ⟨rfl, hr⟩ | ⟨rfl, hr⟩
                      · refine wo_take (v := (.i .i64 x133)) rfl (s_pure (p_mv g20)) ?_
                        have hq := forceB_inv hr
                        clear hr
                        obtain ⟨c146, e146, hr⟩ := hq
                        refine wo_take (v := (.b c146)) rfl (s_pure (p_bin rfl rfl (b_eql.trans (cb e146)))) ?_
                        refine wo_step (v := (.b c146)) (s_pure (p_pickT rfl rfl)) ?_
                        refine wo_nil ?_
                        cases hr
                        exact ⟨_, _, rfl, rfl, gl rfl, gl g13, gl g15, gl g17, gl g19⟩
                      · refine wo_skip (v := (.b false)) rfl rfl ?_
                        refine wo_skip (v := (.b false)) rfl rfl ?_
                        refine wo_step (v := (.b false)) (s_pure (p_pickF rfl rfl)) ?_
                        refine wo_nil ?_
                        cases hr
                        exact ⟨_, _, rfl, rfl, gl rfl, gl g13, gl g15, gl g17, gl g19⟩
                    · clear hr
                      have hr := hk
                      clear hk
                      obtain ⟨c147, ho⟩ : ∃ z, z = o_7 := ⟨_, rfl⟩
                      subst ho
                      rintro mm_5 t_10 ⟨rfl, g147, g13, g15, g17, g19⟩
                      refine wo_step (v := (.b c147)) (s_pure (p_mv g147)) ?_
                      have hq := bindO_inv hr
                      clear hr
                      obtain ⟨o_8, hr, hk⟩ := hq
                      refine wo_join 4 (g13_J8 c124 c132 m_23 o_8) ?_ ?_
                      · clear hk
                        have hq := cond_inv hr
                        clear hr
                        rcases hq with ⟨rfl, hr⟩ | ⟨rfl, hr⟩
                        · refine wo_take (v := (.i .i64 x109)) rfl (s_pure (p_mv g13)) ?_
                          refine wo_take (v := (.i .i64 x116)) rfl (s_pure (p_mv g15)) ?_
                          have hq := forceB_inv hr
                          clear hr
                          obtain ⟨c151, e151, hr⟩ := hq
                          refine wo_take (v := (.b c151)) rfl (s_pure (p_bin rfl rfl (b_eql.trans (cb e151)))) ?_
                          refine wo_step (v := (.b c151)) (s_pure (p_pickT rfl rfl)) ?_
                          refine wo_nil ?_
                          cases hr
                          exact ⟨_, _, rfl, rfl, gl rfl, gl g17, gl g19⟩
                        · refine wo_skip (v := (.b false)) rfl rfl ?_
                          refine wo_skip (v := (.b false)) rfl rfl ?_
                          refine wo_skip (v := (.b false)) rfl rfl ?_
                          refine wo_step (v := (.b false)) (s_pure (p_pickF rfl rfl)) ?_
                          refine wo_nil ?_
                          cases hr
                          exact ⟨_, _, rfl, rfl, gl rfl, gl g17, gl g19⟩
                      · clear hr
                        have hr := hk
                        clear hk
                        obtain ⟨c152, ho⟩ : ∃ z, z = o_8 := ⟨_, rfl⟩
                        subst ho
                        rintro mm_6 t_11 ⟨rfl, g152, g17, g19⟩
                        refine wo_step (v := (.b c152)) (s_pure (p_mv g152)) ?_
                        have hq := bindO_inv hr
                        clear hr
                        obtain ⟨o_9, hr, hk⟩ := hq
                        refine wo_join 4 (g13_J9 m_23 o_9) ?_ ?_
                        · clear hk
                          have hq := cond_inv hr
                          clear hr
                          rcases hq with ⟨rfl, hr⟩ | ⟨rfl, hr⟩
                          · refine wo_take (v := (.b c124)) rfl (s_pure (p_mv g17)) ?_
                            refine wo_take (v := (.b c132)) rfl (s_pure (p_mv g19)) ?_
                            have hq := forceB_inv hr
                            clear hr
                            obtain ⟨c156, e156, hr⟩ := hq
                            refine wo_take (v := (.b c156)) rfl (s_pure ((p_beq rfl rfl).trans (cb e156))) ?_
                            refine wo_step (v := (.b c156)) (s_pure (p_pickT rfl rfl)) ?_
                            refine wo_nil ?_
                            cases hr
                            exact ⟨_, _, rfl, rfl, gl rfl⟩
                          · refine wo_skip (v := (.b false)) rfl rfl ?_
                            refine wo_skip (v := (.b false)) rfl rfl ?_
                            refine wo_skip (v := (.b false)) rfl rfl ?_
                            refine wo_step (v := (.b false)) (s_pure (p_pickF rfl rfl)) ?_
                            refine wo_nil ?_
                            cases hr
                            exact ⟨_, _, rfl, rfl, gl rfl⟩
                        · clear hr
                          have hr := hk
                          clear hk
                          obtain ⟨c157, ho⟩ : ∃ z, z = o_9 := ⟨_, rfl⟩
                          subst ho
                          rintro mm_7 t_12 ⟨rfl, g157⟩
                          refine wo_step (v := (.b c157)) (s_pure (p_mv g157)) ?_
                          have hq := bindO_inv hr
                          clear hr
                          obtain ⟨o_10, hr, hk⟩ := hq
                          refine wo_join 2 (g13_J10  o_10) ?_ ?_
                          · clear hk
                            have hq := cond_inv hr
                            clear hr
                            rcases hq with ⟨rfl, hr⟩ | ⟨rfl, hr⟩
                            · have hq := bindP_inv hr
                              clear hr
                              obtain ⟨v159, m_25, e159, hr⟩ := hq
                              have hq := asB_inv hr
                              clear hr
                              obtain ⟨c159, rfl, hr⟩ := hq
                              refine wo_take (v := (.b c159)) rfl (s_call mn (callM_le hM.call e159)) ?_
                              refine wo_step (v := (.b c159)) (s_pure (p_pickT rfl rfl)) ?_
                              refine wo_nil ?_
                              cases hr
                              exact ⟨_, _, rfl, rfl, gl rfl⟩
                            · refine wo_skip (v := (.b false)) rfl rfl ?_
                              refine wo_step (v := (.b false)) (s_pure (p_pickF rfl rfl)) ?_
                              refine wo_nil ?_
                              cases hr
                              exact ⟨_, _, rfl, rfl, gl rfl⟩
                          · clear hr
                            have hr := hk
                            clear hk
                            obtain ⟨c160, m_24⟩ := o_10
                            rintro mm_8 t_13 ⟨rfl, g160⟩
                            refine wo_step (v := (.b c160)) (s_pure (p_mv g160)) ?_
                            refine wo_nil ?_
                            refine nx_norm ?_
                            refine w_ret ?_
                            exact qf ret_ok (rt rfl rn) hr
              · obtain ⟨c8, m_26⟩ := o_4
                rintro _ mm_10 t_14 ⟨rfl, rfl, g8⟩
                refine bk_ret ?_
                refine nx_ret ?_
                exact qf ret_ok (rt g8 rn) hr

/- dibber/dibberlaw04.few -/
abbrev g15_J0 (v2 : AVal) (m0 : Mm) (o : Bool) (m1 : Mm) (t1 : Tr) : Prop :=
  match o with
  | c14 => m0 = m1 ∧ t1.get 14 = (.b c14) ∧ t1.get 2 = v2
abbrev g15_J1 (m0 : Mm) (o : Bool) (m1 : Mm) (t1 : Tr) : Prop :=
  match o with
  | c19 => m0 = m1 ∧ t1.get 19 = (.b c19)
def g15 (M : Means) (ro : List ABlk) (v0 : AVal) (v1 : AVal) (v2 : AVal) (m0 : Mm) : Option (AVal × Heap × Nat × Nat) :=
  bindO (evP .e (.len false (.c v0))) fun v8 =>
  asI .i64 v8 fun x8 =>
  forceB (!ltI 40 x8) fun c9 =>
  bindO (cond c9 (
    bindO (evP .e (.len false (.c v1))) fun v12 =>
    asI .i64 v12 fun x12 =>
    forceB (!ltI 40 x12) fun c13 =>
    some c13) (
    some false)) fun c14 =>
  bindO (cond c14 (
    bindO (evP .e (.len false (.c v2))) fun v17 =>
    asI .i64 v17 fun x17 =>
    forceB (!ltI 40 x17) fun c18 =>
    some c18) (
    some false)) fun c19 =>
  finM m0.h.length (tupA [(.b c19)]) m0

theorem g15_ok {ro : List ABlk} {O : Caller} {M : Means} (hM : M.Ok ⟨F, O⟩ ro) {v0 v1 v2 h r} (ho : O 15 [v0, v1, v2] h = none) (hr : g15 M ro v0 v1 v2 ⟨h, h.length, h.length⟩ = some r) : callX ⟨F, O⟩ ro 15 [v0, v1, v2] h = some r := by
  refine callX_of (F := ⟨F, O⟩) (fn := fn15) (g := g15 M ro v0 v1 v2) ho rfl rfl hr ?_
  clear ho
  clear hr
  intro m0 t0 ht hr
  have g0 : t0.get 0 = v0 := ht 0
  have g1 : t0.get 1 = v1 := ht 1
  have g2 : t0.get 2 = v2 := ht 2
  clear ht
  unfold g15 at hr
  refine w_seq ?_
  refine w_ops ?_
  refine wo_step (v := (.b false)) (s_pure (p_mv rfl)) ?_
  refine wo_nil ?_
  refine nx_norm ?_
  refine w_seq ?_
  refine w_ops ?_
  refine wo_step (v := v0) (s_pure (p_mv g0)) ?_
  have hq := bindO_inv hr
  clear hr
  obtain ⟨v8, e8, hr⟩ := hq
  have hq := asI_inv hr
  clear hr
  obtain ⟨x8, rfl, hr⟩ := hq
  refine wo_step (v := (.i .i64 x8)) (s_pure (o_len rfl e8)) ?_
  have hq := forceB_inv hr
  clear hr
  obtain ⟨c9, e9, hr⟩ := hq
  refine wo_step (v := (.b c9)) (s_pure (p_bin rfl rfl (b_leq.trans (cb e9)))) ?_
  refine wo_step (v := (.b c9)) (s_pure (p_mv rfl)) ?_
  have hq := bindO_inv hr
  clear hr
  obtain ⟨o, hr, hk⟩ := hq
  refine wo_join 4 (g15_J0 v2 m0 o) ?_ ?_
  · clear hk
    have hq := cond_inv hr
    clear hr
    rcases hq with ⟨rfl, hr⟩ | ⟨rfl, hr⟩
    · refine wo_take (v := v1) rfl (s_pure (p_mv g1)) ?_
      have hq := bindO_inv hr
      clear hr
      obtain ⟨v12, e12, hr⟩ := hq
      have hq := asI_inv hr
      clear hr
      obtain ⟨x12, rfl, hr⟩ := hq
      refine wo_take (v := (.i .i64 x12)) rfl (s_pure (o_len rfl e12)) ?_
      have hq := forceB_inv hr
      clear hr
      obtain ⟨c13, e13, hr⟩ := hq
      refine wo_take (v := (.b c13)) rfl (s_pure (p_bin rfl rfl (b_leq.trans (cb e13)))) ?_
      refine wo_step (v := (.b c13)) (s_pure (p_pickT rfl rfl)) ?_
      refine wo_nil ?_
      cases hr
      exact ⟨_, _, rfl, rfl, gl rfl, gl g2⟩
    · refine wo_skip (v := (.b false)) rfl rfl ?_
      refine wo_skip (v := (.b false)) rfl rfl ?_
      refine wo_skip (v := (.b false)) rfl rfl ?_
      refine wo_step (v := (.b false)) (s_pure (p_pickF rfl rfl)) ?_
      refine wo_nil ?_
      cases hr
      exact ⟨_, _, rfl, rfl, gl rfl, gl g2⟩
  · clear hr
    have hr := hk
    clear hk
    obtain ⟨c14, ho⟩ : ∃ z, z = o := ⟨_, rfl⟩
    subst ho
    rintro mm t_1 ⟨rfl, g14, g2⟩
    refine wo_step (v := (.b c14)) (s_pure (p_mv g14)) ?_
    have hq := bindO_inv hr
    clear hr
    obtain ⟨o_1, hr, hk⟩ := hq
    refine wo_join 4 (g15_J1 m0 o_1) ?_ ?_
    · clear hk
      have hq := cond_inv hr
      clear hr
      rcases hq with ⟨rfl, hr⟩ | ⟨rfl, hr⟩
      · refine wo_take (v := v2) rfl (s_pure (p_mv g2)) ?_
        have hq := bindO_inv hr
        clear hr
        obtain ⟨v17, e17, hr⟩ := hq
        have hq := asI_inv hr
        clear hr
        obtain ⟨x17, rfl, hr⟩ := hq
        refine wo_take (v := (.i .i64 x17)) rfl (s_pure (o_len rfl e17)) ?_
        have hq := forceB_inv hr
        clear hr
        obtain ⟨c18, e18, hr⟩ := hq
        refine wo_take (v := (.b c18)) rfl (s_pure (p_bin rfl rfl (b_leq.trans (cb e18)))) ?_
        refine wo_step (v := (.b c18)) (s_pure (p_pickT rfl rfl)) ?_
        refine wo_nil ?_
        cases hr
        exact ⟨_, _, rfl, rfl, gl rfl⟩
      · refine wo_skip (v := (.b false)) rfl rfl ?_
        refine wo_skip (v := (.b false)) rfl rfl ?_
        refine wo_skip (v := (.b false)) rfl rfl ?_
        refine wo_step (v := (.b false)) (s_pure (p_pickF rfl rfl)) ?_
        refine wo_nil ?_
        cases hr
        exact ⟨_, _, rfl, rfl, gl rfl⟩
    · clear hr
      have hr := hk
      clear hk
      obtain ⟨c19, ho⟩ : ∃ z, z = o_1 := ⟨_, rfl⟩
      subst ho
      rintro mm_1 t_2 ⟨rfl, g19⟩
      refine wo_step (v := (.b c19)) (s_pure (p_mv g19)) ?_
      refine wo_nil ?_
      refine nx_norm ?_
      refine w_ret ?_
      exact qf ret_ok (rt rfl rn) hr

/- dibber/dibberref04.Spans -/
abbrev g20_J0 (x0 : Int) (x1 : Int) (v2 : AVal) (m0 : Mm) (o : Bool) (m1 : Mm) (t1 : Tr) : Prop :=
  match o with
  | c14 => m0 = m1 ∧ t1.get 14 = (.b c14) ∧ t1.get 0 = (.i .i64 x0) ∧ t1.get 1 = (.i .i64 x1) ∧ t1.get 2 = v2
abbrev g20_J1 (x0 : Int) (x1 : Int) (v2 : AVal) (m0 : Mm) (o : Bool) (m1 : Mm) (t1 : Tr) : Prop :=
  match o with
  | c18 => m0 = m1 ∧ t1.get 18 = (.b c18) ∧ t1.get 0 = (.i .i64 x0) ∧ t1.get 1 = (.i .i64 x1) ∧ t1.get 2 = v2
abbrev g20_J2 (x0 : Int) (x1 : Int) (v2 : AVal) (m0 : Mm) (o : Bool) (m1 : Mm) (t1 : Tr) : Prop :=
  match o with
  | c22 => m0 = m1 ∧ t1.get 22 = (.b c22) ∧ t1.get 0 = (.i .i64 x0) ∧ t1.get 1 = (.i .i64 x1) ∧ t1.get 2 = v2
abbrev g20_I3 (x0 : Int) (x1 : Int) (v2 : AVal) (s : Int × Mm) (m1 : Mm) (t1 : Tr) : Prop :=
  match s with
  | (x7, m_1) => m_1 = m1 ∧ t1.get 7 = (.i .i64 x7) ∧ t1.get 0 = (.i .i64 x0) ∧ t1.get 1 = (.i .i64 x1) ∧ t1.get 2 = v2
abbrev g20_J3 (x0 : Int) (x1 : Int) (v2 : AVal) (o : (Mm ⊕ (Int × Mm))) (e : AExit) (m1 : Mm) (t1 : Tr) : Prop :=
  match o with
  | (.inl mo) => e = (.exit 0) ∧ mo = m1
  | (.inr (y6, mo)) => e = .ret ∧ mo = m1 ∧ t1.get 6 = (.i .i64 y6)
abbrev g20_J4 (x0 : Int) (x1 : Int) (v2 : AVal) (x7 : Int) (v8 : AVal) (m_3 : Mm) (o : Bool) (m1 : Mm) (t1 : Tr) : Prop :=
  match o with
  | c44 => m_3 = m1 ∧ t1.get 44 = (.b c44) ∧ t1.get 0 = (.i .i64 x0) ∧ t1.get 1 = (.i .i64 x1) ∧ t1.get 2 = v2 ∧ t1.get 7 = (.i .i64 x7) ∧ t1.get 8 = v8
abbrev g20_J5 (x0 : Int) (x1 : Int) (v2 : AVal) (x7 : Int) (v8 : AVal) (m_3 : Mm) (o : Bool) (m1 : Mm) (t1 : Tr) : Prop :=
  match o with
  | c49 => m_3 = m1 ∧ t1.get 49 = (.b c49) ∧ t1.get 0 = (.i .i64 x0) ∧ t1.get 1 = (.i .i64 x1) ∧ t1.get 2 = v2 ∧ t1.get 7 = (.i .i64 x7) ∧ t1.get 8 = v8
abbrev g20_J6 (x0 : Int) (x1 : Int) (v2 : AVal) (x7 : Int) (v8 : AVal) (m_3 : Mm) (o : Bool) (m1 : Mm) (t1 : Tr) : Prop :=
  match o with
  | c55 => m_3 = m1 ∧ t1.get 55 = (.b c55) ∧ t1.get 0 = (.i .i64 x0) ∧ t1.get 1 = (.i .i64 x1) ∧ t1.get 2 = v2 ∧ t1.get 7 = (.i .i64 x7) ∧ t1.get 8 = v8
abbrev g20_J7 (x0 : Int) (x1 : Int) (v2 : AVal) (x7 : Int) (v8 : AVal) (m_3 : Mm) (o : Bool) (m1 : Mm) (t1 : Tr) : Prop :=
  match o with
  | c62 => m_3 = m1 ∧ t1.get 62 = (.b c62) ∧ t1.get 0 = (.i .i64 x0) ∧ t1.get 1 = (.i .i64 x1) ∧ t1.get 2 = v2 ∧ t1.get 7 = (.i .i64 x7) ∧ t1.get 8 = v8
abbrev g20_J8 (x0 : Int) (x1 : Int) (v2 : AVal) (x7 : Int) (v8 : AVal) (m_3 : Mm) (o : Bool) (m1 : Mm) (t1 : Tr) : Prop :=
  match o with
  | c67 => m_3 = m1 ∧ t1.get 67 = (.b c67) ∧ t1.get 0 = (.i .i64 x0) ∧ t1.get 1 = (.i .i64 x1) ∧ t1.get 2 = v2 ∧ t1.get 7 = (.i .i64 x7) ∧ t1.get 8 = v8
abbrev g20_J9 (x0 : Int) (x1 : Int) (v2 : AVal) (x7 : Int) (v8 : AVal) (m_3 : Mm) (o : Bool) (m1 : Mm) (t1 : Tr) : Prop :=
  match o with
  | c72 => m_3 = m1 ∧ t1.get 72 = (.b c72) ∧ t1.get 0 = (.i .i64 x0) ∧ t1.get 1 = (.i .i64 x1) ∧ t1.get 2 = v2 ∧ t1.get 7 = (.i .i64 x7) ∧ t1.get 8 = v8
abbrev g20_J10 (x0 : Int) (x1 : Int) (v2 : AVal) (x7 : Int) (v8 : AVal) (m_3 : Mm) (o : Bool) (m1 : Mm) (t1 : Tr) : Prop :=
  match o with
  | c79 => m_3 = m1 ∧ t1.get 79 = (.b c79) ∧ t1.get 0 = (.i .i64 x0) ∧ t1.get 1 = (.i .i64 x1) ∧ t1.get 2 = v2 ∧ t1.get 7 = (.i .i64 x7) ∧ t1.get 8 = v8
abbrev g20_J11 (x0 : Int) (x1 : Int) (v2 : AVal) (x7 : Int) (m_3 : Mm) (o : Bool) (m1 : Mm) (t1 : Tr) : Prop :=
  match o with
  | c89 => m_3 = m1 ∧ t1.get 89 = (.b c89) ∧ t1.get 0 = (.i .i64 x0) ∧ t1.get 1 = (.i .i64 x1) ∧ t1.get 2 = v2 ∧ t1.get 7 = (.i .i64 x7)
def g20_b3 (M : Means) (ro : List ABlk) (x0 : Int) (x1 : Int) (v2 : AVal) (x7 : Int) (m_1 : Mm) : Option ((Int × Mm) ⊕ ((Mm ⊕ (Int × Mm)))) :=
  bindO (evP .e (.len false (.c v2))) fun v28 =>
  asI .i64 v28 fun x28 =>
  forceB (ltI x7 x28) fun c29 =>
  cond c29 (
    bindO (evP .e (.ixS 4 (.c v2) (.c (.i .i64 x7)))) fun v34 =>
    bindO (ldM ro m_1 false 4 v34) fun v35 =>
    bindP (stepM ro m_1 (.al 31 [(AVal.i IntKind.i64 0), (AVal.i IntKind.i64 0), (AVal.i IntKind.i64 0), (AVal.i IntKind.i64 0)])) fun v8 m_2 =>
    bindP (stepM ro m_2 (.st 4 (.c v8) (.c v35))) fun vn m_3 =>
    bindO (evP .e (.faddr 0 (.c v8))) fun v36 =>
    bindO (ldM ro m_3 true 1 v36) fun v37 =>
    asI .i64 v37 fun x37 =>
    forceB (ltI x37 0) fun c38 =>
    bindO (cond c38 (
      some true) (
      bindO (evP .e (.faddr 0 (.c v8))) fun v40 =>
      bindO (ldM ro m_3 true 1 v40) fun v41 =>
      asI .i64 v41 fun x41 =>
      forceB (!ltI x41 x1) fun c43 =>
      some c43)) fun c44 =>
    bindO (cond c44 (
      some true) (
      bindO (evP .e (.faddr 1 (.c v8))) fun v46 =>
      bindO (ldM ro m_3 true 1 v46) fun v47 =>
      asI .i64 v47 fun x47 =>
      forceB (ltI x47 0) fun c48 =>
      some c48)) fun c49 =>
    bindO (cond c49 (
      some true) (
      bindO (evP .e (.faddr 1 (.c v8))) fun v51 =>
      bindO (ldM ro m_3 true 1 v51) fun v52 =>
      asI .i64 v52 fun x52 =>
      forceB (!ltI x52 x1) fun c54 =>
      some c54)) fun c55 =>
    bindO (cond c55 (
      some true) (
      bindO (evP .e (.faddr 0 (.c v8))) fun v57 =>
      bindO (ldM ro m_3 true 1 v57) fun v58 =>
      asI .i64 v58 fun x58 =>
      bindO (evP .e (.faddr 1 (.c v8))) fun v59 =>
      bindO (ldM ro m_3 true 1 v59) fun v60 =>
      asI .i64 v60 fun x60 =>
      forceB (eqI x58 x60) fun c61 =>
      some c61)) fun c62 =>
    bindO (cond c62 (
      some true) (
      bindO (evP .e (.faddr 2 (.c v8))) fun v64 =>
      bindO (ldM ro m_3 true 1 v64) fun v65 =>
      asI .i64 v65 fun x65 =>
      forceB (ltI x65 (-600)) fun c66 =>
      some c66)) fun c67 =>
    bindO (cond c67 (
      some true) (
      bindO (evP .e (.faddr 2 (.c v8))) fun v69 =>
      bindO (ldM ro m_3 true 1 v69) fun v70 =>
      asI .i64 v70 fun x70 =>
      forceB (ltI 600 x70) fun c71 =>
      some c71)) fun c72 =>
    bindO (cond c72 (
      some true) (
      bindO (evP .e (.faddr 3 (.c v8))) fun v74 =>
      bindO (ldM ro m_3 true 1 v74) fun v75 =>
      asI .i64 v75 fun x75 =>
      bindO (evP .e (.faddr 2 (.c v8))) fun v76 =>
      bindO (ldM ro m_3 true 1 v76) fun v77 =>
      asI .i64 v77 fun x77 =>
      forceB (ltI x75 x77) fun c78 =>
      some c78)) fun c79 =>
    bindO (cond c79 (
      some true) (
      bindO (evP .e (.faddr 3 (.c v8))) fun v81 =>
      bindO (ldM ro m_3 true 1 v81) fun v82 =>
      asI .i64 v82 fun x82 =>
      bindO (evP .e (.faddr 2 (.c v8))) fun v83 =>
      bindO (ldM ro m_3 true 1 v83) fun v84 =>
      asI .i64 v84 fun x84 =>
      forceI (wr .i64 (x84 + x0)) fun x86 =>
      forceI (wr .i64 (x86 - 1)) fun x87 =>
      forceB (ltI x87 x82) fun c88 =>
      some c88)) fun c89 =>
    cond c89 (
      some (.inr (.inr (2, m_3)))) (
      forceI (wr .i64 (x7 + 1)) fun x31 =>
      some (.inl (x31, m_3)))) (
    some (.inr (.inl m_1)))
def g20 (M : Means) (ro : List ABlk) (x0 : Int) (x1 : Int) (v2 : AVal) (m0 : Mm) : Option (AVal × Heap × Nat × Nat) :=
  forceB (ltI x0 1) fun c10 =>
  bindO (cond c10 (
    some true) (
    forceB (ltI 24 x0) fun c13 =>
    some c13)) fun c14 =>
  bindO (cond c14 (
    some true) (
    forceB (ltI x1 1) fun c17 =>
    some c17)) fun c18 =>
  bindO (cond c18 (
    some true) (
    forceB (ltI 6 x1) fun c21 =>
    some c21)) fun c22 =>
  cond c22 (
    finM m0.h.length (tupA [(.i .i64 2)]) m0) (
    bindO (evP .e (.len false (.c v2))) fun v24 =>
    asI .i64 v24 fun x24 =>
    forceB (ltI 20 x24) fun c25 =>
    cond c25 (
      finM m0.h.length (tupA [(.i .i64 3)]) m0) (
      bindO (M.loop (S := Int × Mm) (R := (Mm ⊕ (Int × Mm))) (fun s => g20_b3 M ro x0 x1 v2 s.1 s.2) (0, m0)) fun o_11 => match o_11 with
      | (.inl m_4) =>
        finM m0.h.length (tupA [(.i .i64 0)]) m_4
      | (.inr (x6, m_5)) =>
        finM m0.h.length (tupA [(.i .i64 x6)]) m_5))

theorem g20_ok {ro : List ABlk} {O : Caller} {M : Means} (hM : M.Ok ⟨F, O⟩ ro) {x0 x1 v2 h r} (ho : O 20 [(.i .i64 x0), (.i .i64 x1), v2] h = none) (hr : g20 M ro x0 x1 v2 ⟨h, h.length, h.length⟩ = some r) : callX ⟨F, O⟩ ro 20 [(.i .i64 x0), (.i .i64 x1), v2] h = some r := by
  refine callX_of (F := ⟨F, O⟩) (fn := fn20) (g := g20 M ro x0 x1 v2) ho rfl rfl hr ?_
  clear ho
  clear hr
  intro m0 t0 ht hr
  have g0 : t0.get 0 = (.i .i64 x0) := ht 0
  have g1 : t0.get 1 = (.i .i64 x1) := ht 1
  have g2 : t0.get 2 = v2 := ht 2
  clear ht
  unfold g20 at hr
  refine w_seq ?_
  refine w_ops ?_
  refine wo_step (v := (.i .i64 0)) (s_pure (p_mv rfl)) ?_
  refine wo_nil ?_
  refine nx_norm ?_
  refine w_seq ?_
  refine w_seq ?_
  refine w_ops ?_
  refine wo_step (v := (.i .i64 x0)) (s_pure (p_mv g0)) ?_
  have hq := forceB_inv hr
  clear hr
  obtain ⟨c10, e10, hr⟩ := hq
  refine wo_step (v := (.b c10)) (s_pure (p_bin rfl rfl (b_lss.trans (cb e10)))) ?_
  refine wo_step (v := (.b c10)) (s_pure (p_mv rfl)) ?_
  have hq := bindO_inv hr
  clear hr
  obtain ⟨o, hr, hk⟩ := hq
  refine wo_join 3 (g20_J0 x0 x1 v2 m0 o) ?_ ?_
  · clear hk
    have hq := cond_inv hr
    clear hr
    rcases hq with ⟨rfl, hr⟩ | ⟨rfl, hr⟩
    · refine wo_skip (v := (.b true)) rfl rfl ?_
      refine wo_skip (v := (.b true)) rfl rfl ?_
      refine wo_step (v := (.b true)) (s_pure (p_pickT rfl rfl)) ?_
      refine wo_nil ?_
      cases hr
      exact ⟨_, _, rfl, rfl, gl rfl, gl g0, gl g1, gl g2⟩
    · refine wo_take (v := (.i .i64 x0)) rfl (s_pure (p_mv g0)) ?_
      have hq := forceB_inv hr
      clear hr
      obtain ⟨c13, e13, hr⟩ := hq
      refine wo_take (v := (.b c13)) rfl (s_pure (p_bin rfl rfl (b_gtr.trans (cb e13)))) ?_
      refine wo_step (v := (.b c13)) (s_pure (p_pickF rfl rfl)) ?_
      refine wo_nil ?_
      cases hr
      exact ⟨_, _, rfl, rfl, gl rfl, gl g0, gl g1, gl g2⟩
  · clear hr
    have hr := hk
    clear hk
    obtain ⟨c14, ho⟩ : ∃ z, z = o := ⟨_, rfl⟩
    subst ho
    rintro mm t_1 ⟨rfl, g14, g0, g1, g2⟩
    refine wo_step (v := (.b c14)) (s_pure (p_mv g14)) ?_
    have hq := bindO_inv hr
    clear hr
    obtain ⟨o_1, hr, hk⟩ := hq
    refine wo_join 3 (g20_J1 x0 x1 v2 m0 o_1) ?_ ?_
    · clear hk
      have hq := cond_inv hr
      clear hr
      rcases hq with ⟨rfl, hr⟩ | ⟨rfl, hr⟩
      · refine wo_skip (v := (.b true)) rfl rfl ?_
        refine wo_skip (v := (.b true)) rfl rfl ?_
        refine wo_step (v := (.b true)) (s_pure (p_pickT rfl rfl)) ?_
        refine wo_nil ?_
        cases hr
        exact ⟨_, _, rfl, rfl, gl rfl, gl g0, gl g1, gl g2⟩
      · refine wo_take (v := (.i .i64 x1)) rfl (s_pure (p_mv g1)) ?_
        have hq := forceB_inv hr
        clear hr
        obtain ⟨c17, e17, hr⟩ := hq
        refine wo_take (v := (.b c17)) rfl (s_pure (p_bin rfl rfl (b_lss.trans (cb e17)))) ?_
        refine wo_step (v := (.b c17)) (s_pure (p_pickF rfl rfl)) ?_
        refine wo_nil ?_
        cases hr
        exact ⟨_, _, rfl, rfl, gl rfl, gl g0, gl g1, gl g2⟩
    · clear hr
      have hr := hk
      clear hk
      obtain ⟨c18, ho⟩ : ∃ z, z = o_1 := ⟨_, rfl⟩
      subst ho
      rintro mm_1 t_2 ⟨rfl, g18, g0, g1, g2⟩
      refine wo_step (v := (.b c18)) (s_pure (p_mv g18)) ?_
      have hq := bindO_inv hr
      clear hr
      obtain ⟨o_2, hr, hk⟩ := hq
      refine wo_join 3 (g20_J2 x0 x1 v2 m0 o_2) ?_ ?_
      · clear hk
        have hq := cond_inv hr
        clear hr
        rcases hq with ⟨rfl, hr⟩ | ⟨rfl, hr⟩
        · refine wo_skip (v := (.b true)) rfl rfl ?_
          refine wo_skip (v := (.b true)) rfl rfl ?_
          refine wo_step (v := (.b true)) (s_pure (p_pickT rfl rfl)) ?_
          refine wo_nil ?_
          cases hr
          exact ⟨_, _, rfl, rfl, gl rfl, gl g0, gl g1, gl g2⟩
        · refine wo_take (v := (.i .i64 x1)) rfl (s_pure (p_mv g1)) ?_
          have hq := forceB_inv hr
          clear hr
          obtain ⟨c21, e21, hr⟩ := hq
          refine wo_take (v := (.b c21)) rfl (s_pure (p_bin rfl rfl (b_gtr.trans (cb e21)))) ?_
          refine wo_step (v := (.b c21)) (s_pure (p_pickF rfl rfl)) ?_
          refine wo_nil ?_
          cases hr
          exact ⟨_, _, rfl, rfl, gl rfl, gl g0, gl g1, gl g2⟩
      · clear hr
        have hr := hk
        clear hk
        obtain ⟨c22, ho⟩ : ∃ z, z = o_2 := ⟨_, rfl⟩
        subst ho
        rintro mm_2 t_3 ⟨rfl, g22, g0, g1, g2⟩
        refine wo_nil ?_
        refine nx_norm ?_
        have hq := cond_inv hr
        clear hr
        rcases hq with ⟨rfl, hr⟩ | ⟨rfl, hr⟩
        · refine w_condT g22 ?_
          refine w_seq ?_
          refine w_ops ?_
          refine wo_step (v := (.i .i64 2)) (s_pure (p_mv rfl)) ?_
          refine wo_nil ?_
          refine nx_norm ?_
          refine w_ret ?_
          refine nx_ret ?_
          exact qf ret_ok (rt rfl rn) hr
        · refine w_condF g22 ?_
          refine w_skip ?_
          refine nx_norm ?_
          refine w_seq ?_
          refine w_seq ?_
          refine w_ops ?_
          refine wo_step (v := v2) (s_pure (p_mv g2)) ?_
          have hq := bindO_inv hr
          clear hr
          obtain ⟨v24, e24, hr⟩ := hq
          have hq := asI_inv hr
          clear hr
          obtain ⟨x24, rfl, hr⟩ := hq
          refine wo_step (v := (.i .i64 x24)) (s_pure (o_len rfl e24)) ?_
          have hq := forceB_inv hr
          clear hr
          obtain ⟨c25, e25, hr⟩ := hq
          refine wo_step (v := (.b c25)) (s_pure (p_bin rfl rfl (b_gtr.trans (cb e25)))) ?_
          refine wo_nil ?_
          refine nx_norm ?_
          have hq := cond_inv hr
          clear hr
          rcases hq with ⟨rfl, hr⟩ | ⟨rfl, hr⟩
          · refine w_condT rfl ?_
            refine w_seq ?_
            refine w_ops ?_
            refine wo_step (v := (.i .i64 3)) (s_pure (p_mv rfl)) ?_
            refine wo_nil ?_
            refine nx_norm ?_
            refine w_ret ?_
            refine nx_ret ?_
            exact qf ret_ok (rt rfl rn) hr
          · refine w_condF rfl ?_
            refine w_skip ?_
            refine nx_norm ?_
            refine w_seq ?_
            refine w_seq ?_
            refine w_ops ?_
            refine wo_step (v := (.i .i64 0)) (s_pure (p_mv rfl)) ?_
            refine wo_nil ?_
            refine nx_norm ?_
            refine w_block ?_
            have hq := bindO_inv hr
            clear hr
            obtain ⟨o_11, hl, hr⟩ := hq
            obtain ⟨n, hl⟩ := hM.loop _ _ _ hl
            refine jp_mono (w_loop _ (g20_I3 x0 x1 v2) (g20_J3 x0 x1 v2) ?_ n _ _ _ _ hl ⟨rfl, gl rfl, gl g0, gl g1, gl g2⟩) ?_
            · clear hr hl
              intro s mm_13 t_4 o hi hr
              obtain ⟨x7, m_1⟩ := s
              obtain ⟨rfl, g7, g0, g1, g2⟩ := hi
              unfold g20_b3 at hr
              refine w_seq ?_
              refine w_seq ?_
              refine w_ops ?_
              refine wo_step (v := (.i .i64 x7)) (s_pure (p_mv g7)) ?_
              refine wo_step (v := v2) (s_pure (p_mv g2)) ?_
              have hq := bindO_inv hr
              clear hr
              obtain ⟨v28, e28, hr⟩ := hq
              have hq := asI_inv hr
              clear hr
              obtain ⟨x28, rfl, hr⟩ := hq
              refine wo_step (v := (.i .i64 x28)) (s_pure (o_len rfl e28)) ?_
              have hq := forceB_inv hr
              clear hr
              obtain ⟨c29, e29, hr⟩ := hq
              refine wo_step (v := (.b c29)) (s_pure (p_bin rfl rfl (b_lss.trans (cb e29)))) ?_
              refine wo_nil ?_
              refine nx_norm ?_
              have hq := cond_inv hr
              clear hr
              rcases hq with ⟨rfl, hr⟩ | ⟨rfl, hr⟩
              · refine w_condT rfl ?_
                refine w_skip ?_
                refine nx_norm ?_
                refine w_seq ?_
                refine w_block ?_
                refine w_seq ?_
                refine w_ops ?_
                refine wo_step (v := v2) (s_pure (p_mv g2)) ?_
                refine wo_step (v := (.i .i64 x7)) (s_pure (p_mv g7)) ?_
                have hq := bindO_inv hr
                clear hr
                obtain ⟨v34, e34, hr⟩ := hq
                refine wo_step (v := v34) (s_pure (o_ixS rfl rfl e34)) ?_
                have hq := bindO_inv hr
                clear hr
                obtain ⟨v35, e35, hr⟩ := hq
                refine wo_step (v := v35) (s_ld rfl e35) ?_
                have hq := bindP_inv hr
                clear hr
                obtain ⟨v8, m_2, e8, hr⟩ := hq
                refine wo_step (v := v8) (s_al e8) ?_
                have hq := bindP_inv hr
                clear hr
                obtain ⟨vn, m_3, en, hr⟩ := hq
                refine wo_stepN (s_st rfl rfl en) ?_
                refine wo_nil ?_
                refine nx_norm ?_
                refine w_seq ?_
                refine w_ops ?_
                have hq := bindO_inv hr
                clear hr
                obtain ⟨v36, e36, hr⟩ := hq
                refine wo_step (v := v36) (s_pure (o_faddr rfl e36)) ?_
                have hq := bindO_inv hr
                clear hr
                obtain ⟨v37, e37, hr⟩ := hq
                have hq := asI_inv hr
                clear hr
                obtain ⟨x37, rfl, hr⟩ := hq
                refine wo_step (v := (.i .i64 x37)) (s_ld rfl e37) ?_
                have hq := forceB_inv hr
                clear hr
                obtain ⟨c38, e38, hr⟩ := hq
                refine wo_step (v := (.b c38)) (s_pure (p_bin rfl rfl (b_lss.trans (cb e38)))) ?_
                refine wo_step (v := (.b c38)) (s_pure (p_mv rfl)) ?_
                have hq := bindO_inv hr
                clear hr
                obtain ⟨o_3, hr, hk⟩ := hq
                refine wo_join 5 (g20_J4 x0 x1 v2 x7 v8 m_3 o_3) ?_ ?_
                · clear hk
                  have hq := cond_inv hr
                  clear hr
                  rcases hq with ⟨rfl, hr⟩ | ⟨rfl, hr⟩
                  · refine wo_skip (v := (.b true)) rfl rfl ?_
                    refine wo_skip (v := (.b true)) rfl rfl ?_
                    refine wo_skip (v := (.b true)) rfl rfl ?_
                    refine wo_skip (v := (.b true)) rfl rfl ?_
                    refine wo_step (v := (.b true)) (s_pure (p_pickT rfl rfl)) ?_
                    refine wo_nil ?_
                    cases hr
                    exact ⟨_, _, rfl, rfl, gl rfl, gl g0, gl g1, gl g2, gl g7, gl rfl⟩
                  · have hq := bindO_inv hr
                    clear hr
                    obtain ⟨v40, e40, hr⟩ := hq
                    refine wo_take (v := v40) rfl (s_pure (o_faddr rfl e40)) ?_
                    have hq := bindO_inv hr
                    clear hr
                    obtain ⟨v41, e41, hr⟩ := hq
                    have hq := asI_inv hr
                    clear hr
                    obtain ⟨x41, rfl, hr⟩ := hq
                    refine wo_take (v := (.i .i64 x41)) rfl (s_ld rfl e41) ?_
                    refine wo_take (v := (.i .i64 x1)) rfl (s_pure (p_mv g1)) ?_
                    have hq := forceB_inv hr
                    clear hr
                    obtain ⟨c43, e43, hr⟩ := hq
                    refine wo_take (v := (.b c43)) rfl (s_pure (p_bin rfl rfl (b_geq.trans (cb e43)))) ?_
                    refine wo_step (v := (.b c43)) (s_pure (p_pickF rfl rfl)) ?_
                    refine wo_nil ?_
                    cases hr
                    exact ⟨_, _, rfl, rfl, gl rfl, gl g0, gl g1, gl g2, gl g7, gl rfl⟩
                · clear hr
                  have hr := hk
                  clear hk
                  obtain ⟨c44, ho⟩ : ∃ z, z = o_3 := ⟨_, rfl⟩
                  subst ho
                  rintro mm_3 t_5 ⟨rfl, g44, g0, g1, g2, g7, g8⟩
                  refine wo_step (v := (.b c44)) (s_pure (p_mv g44)) ?_
                  have hq := bindO_inv hr
                  clear hr
                  obtain ⟨o_4, hr, hk⟩ := hq
                  refine wo_join 4 (g20_J5 x0 x1 v2 x7 v8 m_3 o_4) ?_ ?_
                  · clear hk
                    have hq := cond_inv hr
                    clear hr
                    rcases hq with ⟨rfl, hr⟩ | ⟨rfl, hr⟩
                    · refine wo_skip (v := (.b true)) rfl rfl ?_
                      refine wo_skip (v := (.b true)) rfl rfl ?_
                      refine wo_skip (v := (.b true)) rfl rfl ?_
                      refine wo_step (v := (.b true)) (s_pure (p_pickT rfl rfl)) ?_
                      refine wo_nil ?_
                      cases hr
                      exact ⟨_, _, rfl, rfl, gl rfl, gl g0, gl g1, gl g2, gl g7, gl g8⟩
                    · have hq := bindO_inv hr
                      clear hr
                      obtain ⟨v46, e46, hr⟩ := hq
                      refine wo_take (v := v46) rfl (s_pure (o_faddr g8 e46)) ?_
                      have hq := bindO_inv hr
                      clear hr
                      obtain ⟨v47, e47, hr⟩ := hq
                      have hq := asI_inv hr
                      clear hr
                      obtain ⟨x47, rfl, hr⟩ := hq
                      refine wo_take (v := (.i .i64 x47)) rfl (s_ld rfl e47) ?_
                      have hq := forceB_inv hr
                      clear hr
                      obtain ⟨c48, e48, hr⟩ := hq
                      refine wo_take (v := (.b c48)) rfl (s_pure (p_bin rfl rfl (b_lss.trans (cb e48)))) ?_
                      refine wo_step (v := (.b c48)) (s_pure (p_pickF rfl rfl)) ?_
                      refine wo_nil ?_
                      cases hr
                      exact ⟨_, _, rfl, rfl, gl rfl, gl g0, gl g1, gl g2, gl g7, gl g8⟩
                  · clear hr
                    have hr := hk
                    clear hk
                    obtain ⟨c49, ho⟩ : ∃ z, z = o_4 := ⟨_, rfl⟩
                    subst ho
                    rintro mm_4 t_6 ⟨rfl, g49, g0, g1, g2, g7, g8⟩
                    refine wo_step (v := (.b c49)) (s_pure (p_mv g49)) ?_
                    have hq := bindO_inv hr
                    clear hr
                    obtain ⟨o_5, hr, hk⟩ := hq
                    refine wo_join 5 (g20_J6 x0 x1 v2 x7 v8 m_3 o_5) ?_ ?_
                    · clear hk
                      have hq := cond_inv hr
                      clear hr
                      rcases hq with ⟨rfl, hr⟩ | ⟨rfl, hr⟩
                      · refine wo_skip (v := (.b true)) rfl rfl ?_
                        refine wo_skip (v := (.b true)) rfl rfl ?_
                        refine wo_skip (v := (.b true)) rfl rfl ?_
                        refine wo_skip (v := (.b true)) rfl rfl ?_
                        refine wo_step (v := (.b true)) (s_pure (p_pickT rfl rfl)) ?_
                        refine wo_nil ?_
                        cases hr
                        exact ⟨_, _, rfl, rfl, gl rfl, gl g0, gl g1, gl g2, gl g7, gl g8⟩
                      · have hq := bindO_inv hr
                        clear hr
                        obtain ⟨v51, e51, hr⟩ := hq
                        refine wo_take (v := v51) rfl (s_pure (o_faddr g8 e51)) ?_
                        have hq := bindO_inv hr
                        clear hr
                        obtain ⟨v52, e52, hr⟩ := hq
                        have hq := asI_inv hr
                        clear hr
                        obtain ⟨x52, rfl, hr⟩ := hq
                        refine wo_take (v := (.i .i64 x52)) rfl (s_ld rfl e52) ?_
                        refine wo_take (v := (.i .i64 x1)) rfl (s_pure (p_mv g1)) ?_
                        have hq := forceB_inv hr
                        clear hr
                        obtain ⟨c54, e54, hr⟩ := hq
                        refine wo_take (v := (.b c54)) rfl (s_pure (p_bin rfl rfl (b_geq.trans (cb e54)))) ?_
                        refine wo_step (v := (.b c54)) (s_pure (p_pickF rfl rfl)) ?_
                        refine wo_nil ?_
                        cases hr
                        exact ⟨_, _, rfl, rfl, gl rfl, gl g0, gl g1, gl g2, gl g7, gl g8⟩
                    · clear hr
                      have hr := hk
                      clear hk
                      obtain ⟨c55, ho⟩ : ∃ z, z = o_5 := ⟨_, rfl⟩
                      subst ho
                      rintro mm_5 t_7 ⟨rfl, g55, g0, g1, g2, g7, g8⟩
                      refine wo_step (v := (.b c55)) (s_pure (p_mv g55)) ?_
                      have hq := bindO_inv hr
                      clear hr
                      obtain ⟨o_6, hr, hk⟩ := hq
                      refine wo_join 6 (g20_J7 x0 x1 v2 x7 v8 m_3 o_6) ?_ ?_
                      · clear hk
                        have hq := cond_inv hr
                        clear hr
                        rcases hq with ⟨rfl, hr⟩ | ⟨rfl, hr⟩
                        · refine wo_skip (v := (.b true)) rfl rfl ?_
                          refine wo_skip (v := (.b true)) rfl rfl ?_
                          refine wo_skip (v := (.b true)) rfl rfl ?_
                          refine wo_skip (v := (.b true)) rfl rfl ?_
                          refine wo_skip (v := (.b true)) rfl rfl ?_
                          refine wo_step (v := (.b true)) (s_pure (p_pickT rfl rfl)) ?_
                          refine wo_nil ?_
                          cases hr
                          exact ⟨_, _, rfl, rfl, gl rfl, gl g0, gl g1, gl g2, gl g7, gl g8⟩
                        · have hq := bindO_inv hr
                          clear hr
                          obtain ⟨v57, e57, hr⟩ := hq
                          refine wo_take (v := v57) rfl (s_pure (o_faddr g8 e57)) ?_
                          have hq := bindO_inv hr
                          clear hr
                          obtain ⟨v58, e58, hr⟩ := hq
                          have hq := asI_inv hr
                          clear hr
                          obtain ⟨x58, rfl, hr⟩ := hq
                          refine wo_take (v := (.i .i64 x58)) rfl (s_ld rfl e58) ?_
                          have hq := bindO_inv hr
                          clear hr
                          obtain ⟨v59, e59, hr⟩ := hq
                          refine wo_take (v := v59) rfl (s_pure (o_faddr g8 e59)) ?_
                          have hq := bindO_inv hr
                          clear hr
                          obtain ⟨v60, e60, hr⟩ := hq
                          have hq := asI_inv hr
                          clear hr
                          obtain ⟨x60, rfl, hr⟩ := hq
                          refine wo_take (v := (.i .i64 x60)) rfl (s_ld rfl e60) ?_
                          have hq := forceB_inv hr
                          clear hr
                          obtain ⟨c61, e61, hr⟩ := hq
                          refine wo_take (v := (.b c61)) rfl (s_pure (p_bin rfl rfl (b_eql.trans (cb e61)))) ?_
                          refine wo_step (v := (.b c61)) (s_pure (p_pickF rfl rfl)) ?_
                          refine wo_nil ?_
                          cases hr
                          exact ⟨_, _, rfl, rfl, gl rfl, gl g0, gl g1, gl g2, gl g7, gl g8⟩
                      · clear hr
                        have hr := hk
                        clear hk
                        obtain ⟨c62, ho⟩ : ∃ z, z = o_6 := ⟨_, rfl⟩
                        subst ho
                        rintro mm_6 t_8 ⟨rfl, g62, g0, g1, g2, g7, g8⟩
                        refine wo_step (v := (.b c62)) (s_pure (p_mv g62)) ?_
                        have hq := bindO_inv hr
                        clear hr
                        obtain ⟨o_7, hr, hk⟩ := hq
                        refine wo_join 4 (g20_J8 x0 x1 v2 x7 v8 m_3 o_7) ?_ ?_
                        · clear hk
                          have hq := cond_inv hr
                          clear hr
                          rcases hq with ⟨rfl, hr⟩ | ⟨rfl, hr⟩
                          · refine wo_skip (v := (.b true)) rfl rfl ?_
                            refine wo_skip (v := (.b true)) rfl rfl ?_
                            refine wo_skip (v := (.b true)) rfl rfl ?_
                            refine wo_step (v := (.b true)) (s_pure (p_pickT rfl rfl)) ?_
                            refine wo_nil ?_
                            cases hr
                            exact ⟨_, _, rfl, rfl, gl rfl, gl g0, gl g1, gl g2, gl g7, gl g8⟩
                          · have hq := bindO_inv hr
                            clear hr
                            obtain ⟨v64, e64, hr⟩ := hq
                            refine wo_take (v := v64) rfl (s_pure (o_faddr g8 e64)) ?_
                            have hq := bindO_inv hr
                            clear hr
                            obtain ⟨v65, e65, hr⟩ := hq
                            have hq := asI_inv hr
                            clear hr
                            obtain ⟨x65, rfl, hr⟩ := hq
                            refine wo_take (v := (.i .i64 x65)) rfl (s_ld rfl e65) ?_
                            have hq := forceB_inv hr
                            clear hr
                            obtain ⟨c66, e66, hr⟩ := hq
                            refine wo_take (v := (.b c66)) rfl (s_pure (p_bin rfl rfl (b_lss.trans (cb e66)))) ?_
                            refine wo_step (v := (.b c66)) (s_pure (p_pickF rfl rfl)) ?_
                            refine wo_nil ?_
                            cases hr
                            exact ⟨_, _, rfl, rfl, gl rfl, gl g0, gl g1, gl g2, gl g7, gl g8⟩
                        · clear hr
                          have hr := hk
                          clear hk
                          obtain ⟨c67, ho⟩ : ∃ z, z = o_7 := ⟨_, rfl⟩
                          subst ho
                          rintro mm_7 t_9 ⟨rfl, g67, g0, g1, g2, g7, g8⟩
                          refine wo_step (v := (.b c67)) (s_pure (p_mv g67)) ?_
                          have hq := bindO_inv hr
                          clear hr
                          obtain ⟨o_8, hr, hk⟩ := hq
                          refine wo_join 4 (g20_J9 x0 x1 v2 x7 v8 m_3 o_8) ?_ ?_
                          · clear hk
                            have hq := cond_inv hr
                            clear hr
                            rcases hq with ⟨rfl, hr⟩ | ⟨rfl, hr⟩
                            · refine wo_skip (v := (.b true)) rfl rfl ?_
                              refine wo_skip (v := (.b true)) rfl rfl ?_
                              refine wo_skip (v := (.b true)) rfl rfl ?_
                              refine wo_step (v := (.b true)) (s_pure (p_pickT rfl rfl)) ?_
                              refine wo_nil ?_
                              cases hr
                              exact ⟨_, _, rfl, rfl, gl rfl, gl g0, gl g1, gl g2, gl g7, gl g8⟩
                            · have hq := bindO_inv hr
                              clear hr
                              obtain ⟨v69, e69, hr⟩ := hq
                              refine wo_take (v := v69) rfl (s_pure (o_faddr g8 e69)) ?_
                              have hq := bindO_inv hr
                              clear hr
                              obtain ⟨v70, e70, hr⟩ := hq
                              have hq := asI_inv hr
                              clear hr
                              obtain ⟨x70, rfl, hr⟩ := hq
                              refine wo_take (v := (.i .i64 x70)) rfl (s_ld rfl e70) ?_
                              have hq := forceB_inv hr
                              clear hr
                              obtain ⟨c71, e71, hr⟩ := hq
                              refine wo_take (v := (.b c71)) rfl (s_pure (p_bin rfl rfl (b_gtr.trans (cb e71)))) ?_
                              refine wo_step (v := (.b c71)) (s_pure (p_pickF rfl rfl)) ?_
                              refine wo_nil ?_
                              cases hr
                              exact ⟨_, _, rfl, rfl, gl rfl, gl g0, gl g1, gl g2, gl g7, gl g8⟩
                          · clear hr
                            have hr := hk
                            clear hk
                            obtain ⟨c72, ho⟩ : ∃ z, z = o_8 := ⟨_, rfl⟩
                            subst ho
                            rintro mm_8 t_10 ⟨rfl, g72, g0, g1, g2, g7, g8⟩
                            refine wo_step (v := (.b c72)) (s_pure (p_mv g72)) ?_
                            have hq := bindO_inv hr
                            clear hr
                            obtain ⟨o_9, hr, hk⟩ := hq
                            refine wo_join 6 (g20_J10 x0 x1 v2 x7 v8 m_3 o_9) ?_ ?_
                            · clear hk
                              have hq := cond_inv hr
                              clear hr
                              rcases hq with ⟨rfl, hr⟩ | ⟨rfl, hr⟩
                              · refine wo_skip (v := (.b true)) rfl rfl ?_
                                refine wo_skip (v := (.b true)) rfl rfl ?_
                                refine wo_skip (v := (.b true)) rfl rfl ?_
                                refine wo_skip (v := (.b true)) rfl rfl ?_
                                refine wo_skip (v := (.b true)) rfl rfl ?_
                                refine wo_step (v := (.b true)) (s_pure (p_pickT rfl rfl)) ?_
                                refine wo_nil ?_
                                cases hr
                                exact ⟨_, _, rfl, rfl, gl rfl, gl g0, gl g1, gl g2, gl g7, gl g8⟩
                              · have hq := bindO_inv hr
                                clear hr
                                obtain ⟨v74, e74, hr⟩ := hq
                                refine wo_take (v := v74) rfl (s_pure (o_faddr g8 e74)) ?_
                                have hq := bindO_inv hr
                                clear hr
                                obtain ⟨v75, e75, hr⟩ := hq
                                have hq := asI_inv hr
                                clear hr
                                obtain ⟨x75, rfl, hr⟩ := hq
                                refine wo_take (v := (.i .i64 x75)) rfl (s_ld rfl e75) ?_
                                have hq := bindO_inv hr
                                clear hr
                                obtain ⟨v76, e76, hr⟩ := hq
                                refine wo_take (v := v76) rfl (s_pure (o_faddr g8 e76)) ?_
                                have hq := bindO_inv hr
                                clear hr
                                obtain ⟨v77, e77, hr⟩ := hq
                                have hq := asI_inv hr
                                clear hr
                                obtain ⟨x77, rfl, hr⟩ := hq
                                refine wo_take (v := (.i .i64 x77)) rfl (s_ld rfl e77) ?_
                                have hq := forceB_inv hr
                                clear hr
                                obtain ⟨c78, e78, hr⟩ := hq
                                refine wo_take (v := (.b c78)) rfl (s_pure (p_bin rfl rfl (b_lss.trans (cb e78)))) ?_
                                refine wo_step (v := (.b c78)) (s_pure (p_pickF rfl rfl)) ?_
                                refine wo_nil ?_
                                cases hr
                                exact ⟨_, _, rfl, rfl, gl rfl, gl g0, gl g1, gl g2, gl g7, gl g8⟩
                            · clear hr
                              have hr := hk
                              clear hk
                              obtain ⟨c79, ho⟩ : ∃ z, z = o_9 := ⟨_, rfl⟩
                              subst ho
                              rintro mm_9 t_11 ⟨rfl, g79, g0, g1, g2, g7, g8⟩
                              refine wo_step (v := (.b c79)) (s_pure (p_mv g79)) ?_
                              have hq := bindO_inv hr
                              clear hr
                              obtain ⟨o_10, hr, hk⟩ := hq
                              refine wo_join 9 (g20_J11 x0 x1 v2 x7 m_3 o_10) ?_ ?_
                              · clear hk
                                have hq := cond_inv hr
                                clear hr
                                rcases hq with ⟨rfl, hr⟩ | ⟨rfl, hr⟩
                                · refine wo_skip (v := (.b true)) rfl rfl ?_
                                  refine wo_skip (v := (.b true)) rfl rfl ?_
                                  refine wo_skip (v := (.b true)) rfl rfl ?_
                                  refine wo_skip (v := (.b true)) rfl rfl ?_
                                  refine wo_skip (v := (.b true)) rfl rfl ?_
                                  refine wo_skip (v := (.b true)) rfl rfl ?_
                                  refine wo_skip (v := (.b true)) rfl rfl ?_
                                  refine wo_skip (v := (.b true)) rfl rfl ?_
                                  refine wo_step (v := (.b true)) (s_pure (p_pickT rfl rfl)) ?_
                                  refine wo_nil ?_
                                  cases hr
                                  exact ⟨_, _, rfl, rfl, gl rfl, gl g0, gl g1, gl g2, gl g7⟩
                                · have hq := bindO_inv hr
                                  clear hr
                                  obtain ⟨v81, e81, hr⟩ := hq
                                  refine wo_take (v := v81) rfl (s_pure (o_faddr g8 e81)) ?_
                                  have hq := bindO_inv hr
                                  clear hr
                                  obtain ⟨v82, e82, hr⟩ := hq
                                  have hq := asI_inv hr
                                  clear hr
                                  obtain ⟨x82, rfl, hr⟩ := hq
                                  refine wo_take (v := (.i .i64 x82)) rfl (s_ld rfl e82) ?_
                                  have hq := bindO_inv hr
                                  clear hr
                                  obtain ⟨v83, e83, hr⟩ := hq
                                  refine wo_take (v := v83) rfl (s_pure (o_faddr g8 e83)) ?_
                                  have hq := bindO_inv hr
                                  clear hr
                                  obtain ⟨v84, e84, hr⟩ := hq
                                  have hq := asI_inv hr
                                  clear hr
                                  obtain ⟨x84, rfl, hr⟩ := hq
                                  refine wo_take (v := (.i .i64 x84)) rfl (s_ld rfl e84) ?_
                                  refine wo_take (v := (.i .i64 x0)) rfl (s_pure (p_mv g0)) ?_
                                  have hq := forceI_inv hr
                                  clear hr
                                  obtain ⟨x86, e86, hr⟩ := hq
                                  refine wo_take (v := (.i .i64 x86)) rfl (s_pure (p_bin rfl rfl (b_add.trans (ci e86)))) ?_
                                  have hq := forceI_inv hr
                                  clear hr
                                  obtain ⟨x87, e87, hr⟩ := hq
                                  refine wo_take (v := (.i .i64 x87)) rfl (s_pure (p_bin rfl rfl (b_sub.trans (ci e87)))) ?_
                                  have hq := forceB_inv hr
                                  clear hr
                                  obtain ⟨c88, e88, hr⟩ := hq
                                  refine wo_take (v := (.b c88)) rfl (s_pure (p_bin rfl rfl (b_gtr.trans (cb e88)))) ?_
                                  refine wo_step (v := (.b c88)) (s_pure (p_pickF rfl rfl)) ?_
                                  refine wo_nil ?_
                                  cases hr
                                  exact ⟨_, _, rfl, rfl, gl rfl, gl g0, gl g1, gl g2, gl g7⟩
                              · clear hr
                                have hr := hk
                                clear hk
                                obtain ⟨c89, ho⟩ : ∃ z, z = o_10 := ⟨_, rfl⟩
                                subst ho
                                rintro mm_10 t_12 ⟨rfl, g89, g0, g1, g2, g7⟩
                                refine wo_nil ?_
                                refine nx_norm ?_
                                have hq := cond_inv hr
                                clear hr
                                rcases hq with ⟨rfl, hr⟩ | ⟨rfl, hr⟩
                                · refine w_condT g89 ?_
                                  refine w_seq ?_
                                  refine w_ops ?_
                                  refine wo_step (v := (.i .i64 2)) (s_pure (p_mv rfl)) ?_
                                  refine wo_nil ?_
                                  refine nx_norm ?_
                                  refine w_ret ?_
                                  refine bk_ret ?_
                                  refine nx_ret ?_
                                  cases hr
                                  exact ⟨_, _, rfl, ne_norm_ret, rfl, rfl, gl rfl⟩
                                · refine w_condF g89 ?_
                                  refine w_skip ?_
                                  refine bk_norm ?_
                                  refine nx_norm ?_
                                  refine w_ops ?_
                                  refine wo_step (v := (.i .i64 x7)) (s_pure (p_mv g7)) ?_
                                  have hq := forceI_inv hr
                                  clear hr
                                  obtain ⟨x31, e31, hr⟩ := hq
                                  refine wo_step (v := (.i .i64 x31)) (s_pure (p_bin rfl rfl (b_add.trans (ci e31)))) ?_
                                  refine wo_step (v := (.i .i64 x31)) (s_pure (p_mv rfl)) ?_
                                  refine wo_nil ?_
                                  cases hr
                                  exact ⟨_, _, rfl, rfl, rfl, gl rfl, gl g0, gl g1, gl g2⟩
              · refine w_condF rfl ?_
                refine w_exit ?_
                refine nx_exit ?_
                cases hr
                exact ⟨_, _, rfl, ne_norm_exit, rfl, rfl⟩
            · rcases o_11 with o_11 | o_11
              · obtain ⟨m_4, ho⟩ : ∃ z, z = o_11 := ⟨_, rfl⟩
                subst ho
                rintro _ mm_11 t_13 ⟨rfl, rfl⟩
                refine bk_hit ?_
                refine nx_norm ?_
                refine w_seq ?_
                refine w_ops ?_
                refine wo_step (v := (.i .i64 0)) (s_pure (p_mv rfl)) ?_
                refine wo_nil ?_
                refine nx_norm ?_
                refine w_ret ?_
                exact qf ret_ok (rt rfl rn) hr
              · obtain ⟨x6, m_5⟩ := o_11
                rintro _ mm_12 t_14 ⟨rfl, rfl, g6⟩
                refine bk_ret ?_
                refine nx_ret ?_
                exact qf ret_ok (rt g6 rn) hr

/- dibber/dibberlaw04.mild -/
abbrev g21_I0 (x0 : Int) (x1 : Int) (m0 : Mm) (s : Int × Int) (m1 : Mm) (t1 : Tr) : Prop :=
  match s with
  | (x5, x6) => m0 = m1 ∧ t1.get 5 = (.i .i64 x5) ∧ t1.get 6 = (.i .i64 x6) ∧ t1.get 0 = (.i .i64 x0) ∧ t1.get 1 = (.i .i64 x1)
abbrev g21_J0 (x0 : Int) (x1 : Int) (m0 : Mm) (o : Int) (e : AExit) (m1 : Mm) (t1 : Tr) : Prop :=
  match o with
  | y5 => e = (.exit 0) ∧ m0 = m1 ∧ t1.get 5 = (.i .i64 y5)
abbrev g21_J1 (x0 : Int) (x1 : Int) (x5 : Int) (x6 : Int) (m0 : Mm) (o : Bool) (m1 : Mm) (t1 : Tr) : Prop :=
  match o with
  | c14 => m0 = m1 ∧ t1.get 14 = (.b c14) ∧ t1.get 0 = (.i .i64 x0) ∧ t1.get 1 = (.i .i64 x1) ∧ t1.get 5 = (.i .i64 x5) ∧ t1.get 6 = (.i .i64 x6)
def g21_b0 (M : Means) (ro : List ABlk) (x0 : Int) (x1 : Int) (m0 : Mm) (x5 : Int) (x6 : Int) : Option ((Int × Int) ⊕ (Int)) :=
  forceI (mxV false x1 20) fun x9 =>
  forceB (ltI x6 x9) fun c10 =>
  bindO (cond c10 (
    forceB (!ltI 10000 x5) fun c13 =>
    some c13) (
    some false)) fun c14 =>
  cond c14 (
    forceI (mxV false x0 100) fun x19 =>
    forceI (mxV true 1 x19) fun x20 =>
    forceI (wr .i64 (x5 * x20)) fun x21 =>
    forceI (wr .i64 (x6 + 1)) fun x16 =>
    some (.inl (x21, x16))) (
    some (.inr x5))
def g21 (M : Means) (ro : List ABlk) (x0 : Int) (x1 : Int) (m0 : Mm) : Option (AVal × Heap × Nat × Nat) :=
  bindO (M.loop (S := Int × Int) (R := Int) (fun s => g21_b0 M ro x0 x1 m0 s.1 s.2) (1, 1)) fun x5_1 =>
  forceB (!ltI 10000 x5_1) fun c23 =>
  finM m0.h.length (tupA [(.b c23)]) m0

theorem g21_ok {ro : List ABlk} {O : Caller} {M : Means} (hM : M.Ok ⟨F, O⟩ ro) {x0 x1 h r} (ho : O 21 [(.i .i64 x0), (.i .i64 x1)] h = none) (hr : g21 M ro x0 x1 ⟨h, h.length, h.length⟩ = some r) : callX ⟨F, O⟩ ro 21 [(.i .i64 x0), (.i .i64 x1)] h = some r := by
  refine callX_of (F := ⟨F, O⟩) (fn := fn21) (g := g21 M ro x0 x1) ho rfl rfl hr ?_
  clear ho
  clear hr
  intro m0 t0 ht hr
  have g0 : t0.get 0 = (.i .i64 x0) := ht 0
  have g1 : t0.get 1 = (.i .i64 x1) := ht 1
  clear ht
  unfold g21 at hr
  refine w_seq ?_
  refine w_ops ?_
  refine wo_step (v := (.b false)) (s_pure (p_mv rfl)) ?_
  refine wo_nil ?_
  refine nx_norm ?_
  refine w_seq ?_
  refine w_ops ?_
  refine wo_step (v := (.i .i64 1)) (s_pure (p_mv rfl)) ?_
  refine wo_nil ?_
  refine nx_norm ?_
  refine w_seq ?_
  refine w_seq ?_
  refine w_ops ?_
  refine wo_step (v := (.i .i64 1)) (s_pure (p_mv rfl)) ?_
  refine wo_nil ?_
  refine nx_norm ?_
  refine w_block ?_
  have hq := bindO_inv hr
  clear hr
  obtain ⟨o_1, hl, hr⟩ := hq
  obtain ⟨n, hl⟩ := hM.loop _ _ _ hl
  refine jp_mono (w_loop _ (g21_I0 x0 x1 m0) (g21_J0 x0 x1 m0) ?_ n _ _ _ _ hl ⟨rfl, gl rfl, gl rfl, gl g0, gl g1⟩) ?_
  · clear hr hl
    intro s mm_2 t_1 o hi hr
    obtain ⟨x5, x6⟩ := s
    obtain ⟨rfl, g5, g6, g0, g1⟩ := hi
    unfold g21_b0 at hr
    refine w_seq ?_
    refine w_seq ?_
    refine w_ops ?_
    refine wo_step (v := (.i .i64 x6)) (s_pure (p_mv g6)) ?_
    refine wo_step (v := (.i .i64 x1)) (s_pure (p_mv g1)) ?_
    have hq := forceI_inv hr
    clear hr
    obtain ⟨x9, e9, hr⟩ := hq
    refine wo_step (v := (.i .i64 x9)) (s_pure ((p_mx rfl rfl).trans (ci e9))) ?_
    have hq := forceB_inv hr
    clear hr
    obtain ⟨c10, e10, hr⟩ := hq
    refine wo_step (v := (.b c10)) (s_pure (p_bin rfl rfl (b_lss.trans (cb e10)))) ?_
    refine wo_step (v := (.b c10)) (s_pure (p_mv rfl)) ?_
    have hq := bindO_inv hr
    clear hr
    obtain ⟨o, hr, hk⟩ := hq
    refine wo_join 3 (g21_J1 x0 x1 x5 x6 m0 o) ?_ ?_
    · clear hk
      have hq := cond_inv hr
      clear hr
      rcases hq with ⟨rfl, hr⟩ | ⟨rfl, hr⟩
      · refine wo_take (v := (.i .i64 x5)) rfl (s_pure (p_mv g5)) ?_
        have hq := forceB_inv hr
        clear hr
        obtain ⟨c13, e13, hr⟩ := hq
        refine wo_take (v := (.b c13)) rfl (s_pure (p_bin rfl rfl (b_leq.trans (cb e13)))) ?_
        refine wo_step (v := (.b c13)) (s_pure (p_pickT rfl rfl)) ?_
        refine wo_nil ?_
        cases hr
        exact ⟨_, _, rfl, rfl, gl rfl, gl g0, gl g1, gl g5, gl g6⟩
      · refine wo_skip (v := (.b false)) rfl rfl ?_
        refine wo_skip (v := (.b false)) rfl rfl ?_
        refine wo_step (v := (.b false)) (s_pure (p_pickF rfl rfl)) ?_
        refine wo_nil ?_
        cases hr
        exact ⟨_, _, rfl, rfl, gl rfl, gl g0, gl g1, gl g5, gl g6⟩
    · clear hr
      have hr := hk
      clear hk
      obtain ⟨c14, ho⟩ : ∃ z, z = o := ⟨_, rfl⟩
      subst ho
      rintro mm t_2 ⟨rfl, g14, g0, g1, g5, g6⟩
      refine wo_nil ?_
      refine nx_norm ?_
      have hq := cond_inv hr
      clear hr
      rcases hq with ⟨rfl, hr⟩ | ⟨rfl, hr⟩
      · refine w_condT g14 ?_
        refine w_skip ?_
        refine nx_norm ?_
        refine w_seq ?_
        refine w_block ?_
        refine w_ops ?_
        refine wo_step (v := (.i .i64 x5)) (s_pure (p_mv g5)) ?_
        refine wo_step (v := (.i .i64 x0)) (s_pure (p_mv g0)) ?_
        have hq := forceI_inv hr
        clear hr
        obtain ⟨x19, e19, hr⟩ := hq
        refine wo_step (v := (.i .i64 x19)) (s_pure ((p_mx rfl rfl).trans (ci e19))) ?_
        have hq := forceI_inv hr
        clear hr
        obtain ⟨x20, e20, hr⟩ := hq
        refine wo_step (v := (.i .i64 x20)) (s_pure ((p_mx rfl rfl).trans (ci e20))) ?_
        have hq := forceI_inv hr
        clear hr
        obtain ⟨x21, e21, hr⟩ := hq
        refine wo_step (v := (.i .i64 x21)) (s_pure (p_bin rfl rfl (b_mul.trans (ci e21)))) ?_
        refine wo_step (v := (.i .i64 x21)) (s_pure (p_mv rfl)) ?_
        refine wo_nil ?_
        refine bk_norm ?_
        refine nx_norm ?_
        refine w_ops ?_
        refine wo_step (v := (.i .i64 x6)) (s_pure (p_mv g6)) ?_
        have hq := forceI_inv hr
        clear hr
        obtain ⟨x16, e16, hr⟩ := hq
        refine wo_step (v := (.i .i64 x16)) (s_pure (p_bin rfl rfl (b_add.trans (ci e16)))) ?_
        refine wo_step (v := (.i .i64 x16)) (s_pure (p_mv rfl)) ?_
        refine wo_nil ?_
        cases hr
        exact ⟨_, _, rfl, rfl, rfl, gl rfl, gl rfl, gl g0, gl g1⟩
      · refine w_condF g14 ?_
        refine w_exit ?_
        refine nx_exit ?_
        cases hr
        exact ⟨_, _, rfl, ne_norm_exit, rfl, rfl, gl g5⟩
  · obtain ⟨x5_1, ho⟩ : ∃ z, z = o_1 := ⟨_, rfl⟩
    subst ho
    rintro _ mm_1 t_3 ⟨rfl, rfl, g5⟩
    refine bk_hit ?_
    refine nx_norm ?_
    refine w_seq ?_
    refine w_ops ?_
    refine wo_step (v := (.i .i64 x5_1)) (s_pure (p_mv g5)) ?_
    have hq := forceB_inv hr
    clear hr
    obtain ⟨c23, e23, hr⟩ := hq
    refine wo_step (v := (.b c23)) (s_pure (p_bin rfl rfl (b_leq.trans (cb e23)))) ?_
    refine wo_step (v := (.b c23)) (s_pure (p_mv rfl)) ?_
    refine wo_nil ?_
    refine nx_norm ?_
    refine w_ret ?_
    exact qf ret_ok (rt rfl rn) hr

/- dibber/turn.Plans -/
abbrev k22a0 : ACode := .skip
abbrev k22c0 : ACode := (.block 1 (.seq (.seq (.ops [(.mk (some 24) none (.ld true 1 (.t 10))), (.mk (some 25) none (.pure (.bin .eql (.t 24) (.c (.i .i64 1000000)))))]) (.cond (.t 25) (.seq (.ops [(.mk none none (.st 1 (.t 6) (.c (.i .i64 0)))), (.mk none none (.st 1 (.t 7) (.c (.i .i64 8))))]) .ret) .skip)) (.ops [(.mk (some 26) none (.ld true 1 (.t 10))), (.mk (some 27) none (.pure (.bin .add (.t 26) (.c (.i .i64 1))))), (.mk none none (.st 1 (.t 10) (.t 27)))])))
abbrev g22_P0 (v6 : AVal) (v7 : AVal) (v10 : AVal) (t1 : Tr) : Prop := True ∧ t1.get 6 = v6 ∧ t1.get 7 = v7 ∧ t1.get 10 = v10
def g22_r0 (M : Means) (ro : List ABlk) (v6 : AVal) (v7 : AVal) (v10 : AVal) (b : Nat) (v23 : AVal) (m0 : Mm) : Option (AVal × Heap × Nat × Nat) :=
  bindO (rndB b m0) fun m_11 =>
  bindO (ldM ro m_11 true 1 v10) fun v24 =>
  asI .i64 v24 fun x24 =>
  forceB (eqI x24 1000000) fun c25 =>
  cond c25 (
    bindP (stepM ro m_11 (.st 1 (.c v6) (.c (.i .i64 0)))) fun vn_4 m_12 =>
    bindP (stepM ro m_12 (.st 1 (.c v7) (.c (.i .i64 8)))) fun vn_5 m_13 =>
    rndE m0.h.length b .ret m_13) (
    bindO (ldM ro m_11 true 1 v10) fun v26 =>
    asI .i64 v26 fun x26 =>
    forceI (wr .i64 (x26 + 1)) fun x27 =>
    bindP (stepM ro m_11 (.st 1 (.c v10) (.c (.i .i64 x27)))) fun vn_6 m_14 =>
    rndE m0.h.length b .norm m_14)
noncomputable def g22 (M : Means) (ro : List ABlk) (x0 : Int) (x1 : Int) (v2 : AVal) (m0 : Mm) : Option (AVal × Heap × Nat × Nat) :=
  bindP (stepM ro m0 (.al 3 [(AVal.i IntKind.i64 0)])) fun v6 m_1 =>
  bindP (stepM ro m_1 (.al 26 [(AVal.i IntKind.i64 0)])) fun v7 m_2 =>
  bindP (callM M.call m_2 43 [(.i .i64 x0), (.i .i64 x1), v2]) fun v15 m_3 =>
  bindO (evP .e (.ext 0 (.c v15))) fun v16 =>
  bindO (evP .e (.ext 1 (.c v15))) fun v17 =>
  asI .i64 v17 fun x17 =>
  bindP (stepM ro m_3 (.al 55 [(AVal.i IntKind.i64 0), (AVal.i IntKind.i64 0), AVal.nsl])) fun v8 m_4 =>
  bindP (stepM ro m_4 (.st 3 (.c v8) (.c v16))) fun vn m_5 =>
  forceB (!eqI x17 0) fun c19 =>
  cond c19 (
    bindP (stepM ro m_5 (.st 1 (.c v6) (.c (.i .i64 0)))) fun vn_1 m_6 =>
    bindP (stepM ro m_6 (.st 1 (.c v7) (.c (.i .i64 x17)))) fun vn_2 m_7 =>
    bindO (ldM ro m_7 true 1 v6) fun vr =>
    bindO (ldM ro m_7 true 1 v7) fun vr_1 =>
    finM m0.h.length (tupA [vr, vr_1]) m_7) (
    bindP (stepM ro m_5 (.al 3 [(AVal.i IntKind.i64 0)])) fun v10 m_8 =>
    bindP (stepM ro m_8 (.st 1 (.c v10) (.c (.i .i64 0)))) fun vn_3 m_9 =>
    bindO (ldM ro m_9 false 3 v8) fun v21 =>
    bindP (callM M.call m_9 44 [v21]) fun v22 m_10 =>
    bindO (rngP M.call (g22_P0 v6 v7 v10) [23] k22a0 k22c0 v22 m_10) fun ⟨ex, m_15⟩ => onE ex (
      bindO (ldM ro m_15 true 1 v10) fun v28 =>
      asI .i64 v28 fun x28 =>
      bindP (stepM ro m_15 (.st 1 (.c v6) (.c (.i .i64 x28)))) fun vn_7 m_16 =>
      bindP (stepM ro m_16 (.st 1 (.c v7) (.c (.i .i64 0)))) fun vn_8 m_17 =>
      bindO (ldM ro m_17 true 1 v6) fun vr_2 =>
      bindO (ldM ro m_17 true 1 v7) fun vr_3 =>
      finM m0.h.length (tupA [vr_2, vr_3]) m_17) (
      bindO (ldM ro m_15 true 1 v6) fun vr_4 =>
      bindO (ldM ro m_15 true 1 v7) fun vr_5 =>
      finM m0.h.length (tupA [vr_4, vr_5]) m_15) (fun ix =>
      none))

theorem g22_r0_ok {ro : List ABlk} {O : Caller} {M : Means} (hM : M.Ok ⟨F, O⟩ ro) {v6} {v7} {v10} {v23} {b h r bk t p} (hb : lget h b = some (some bk)) (hg : bk.g = some (.lp ⟨t, [23], k22a0, k22c0⟩ .ready p)) (hP : g22_P0 v6 v7 v10 t) (hr : g22_r0 M ro v6 v7 v10 b v23 ⟨h, h.length, h.length⟩ = some r) : roundX ⟨F, O⟩ ro b [v23] h = some r := by
  refine roundX_on (F := ⟨F, O⟩) (g := g22_r0 M ro v6 v7 v10 b v23) hb hg rfl hr ?_
  clear hb hg hr
  intro m0 t0 ht hr
  obtain ⟨-, g6, g7, g10⟩ := hP
  have g23 : t0.get 23 = v23 := by rw [ht]; simp [putPs, get_set]
  have g6 : t0.get 6 = v6 := by rw [ht]; simp only [putPs, get_set]; simpa using g6
  have g7 : t0.get 7 = v7 := by rw [ht]; simp only [putPs, get_set]; simpa using g7
  have g10 : t0.get 10 = v10 := by rw [ht]; simp only [putPs, get_set]; simpa using g10
  clear ht
  unfold g22_r0 at hr
  show W _ _ k22a0 _ _
  unfold k22a0
  refine w_skip ?_
  have hq := bindO_inv hr
  clear hr
  obtain ⟨m_11, eb, hr⟩ := hq
  refine qb eb ?_
  unfold k22c0
  refine w_block ?_
  refine w_seq ?_
  refine w_seq ?_
  refine w_ops ?_
  have hq := bindO_inv hr
  clear hr
  obtain ⟨v24, e24, hr⟩ := hq
  have hq := asI_inv hr
  clear hr
  obtain ⟨x24, rfl, hr⟩ := hq
  refine wo_step (v := (.i .i64 x24)) (s_ld g10 e24) ?_
  have hq := forceB_inv hr
  clear hr
  obtain ⟨c25, e25, hr⟩ := hq
  refine wo_step (v := (.b c25)) (s_pure (p_bin rfl rfl (b_eql.trans (cb e25)))) ?_
  refine wo_nil ?_
  refine nx_norm ?_
  have hq := cond_inv hr
  clear hr
  rcases hq with ⟨rfl, hr⟩ | ⟨rfl, hr⟩
  · refine w_condT rfl ?_
    refine w_seq ?_
    refine w_ops ?_
    have hq := bindP_inv hr
    clear hr
    obtain ⟨vn_4, m_12, en_4, hr⟩ := hq
    refine wo_stepN (s_st g6 rfl en_4) ?_
    have hq := bindP_inv hr
    clear hr
    obtain ⟨vn_5, m_13, en_5, hr⟩ := hq
    refine wo_stepN (s_st g7 rfl en_5) ?_
    refine wo_nil ?_
    refine nx_norm ?_
    refine w_ret ?_
    refine nx_ret ?_
    refine bk_ret ?_
    exact hr
  · refine w_condF rfl ?_
    refine w_skip ?_
    refine nx_norm ?_
    refine w_ops ?_
    have hq := bindO_inv hr
    clear hr
    obtain ⟨v26, e26, hr⟩ := hq
    have hq := asI_inv hr
    clear hr
    obtain ⟨x26, rfl, hr⟩ := hq
    refine wo_step (v := (.i .i64 x26)) (s_ld g10 e26) ?_
    have hq := forceI_inv hr
    clear hr
    obtain ⟨x27, e27, hr⟩ := hq
    refine wo_step (v := (.i .i64 x27)) (s_pure (p_bin rfl rfl (b_add.trans (ci e27)))) ?_
    have hq := bindP_inv hr
    clear hr
    obtain ⟨vn_6, m_14, en_6, hr⟩ := hq
    refine wo_stepN (s_st g10 rfl en_6) ?_
    refine wo_nil ?_
    refine bk_norm ?_
    exact hr

theorem g22_ok {ro : List ABlk} {O : Caller} {M : Means} (hM : M.Ok ⟨F, O⟩ ro) {x0 x1 v2 h r} (ho : O 22 [(.i .i64 x0), (.i .i64 x1), v2] h = none) (hr : g22 M ro x0 x1 v2 ⟨h, h.length, h.length⟩ = some r) : callX ⟨F, O⟩ ro 22 [(.i .i64 x0), (.i .i64 x1), v2] h = some r := by
  refine callX_of (F := ⟨F, O⟩) (fn := fn22) (g := g22 M ro x0 x1 v2) ho rfl rfl hr ?_
  clear ho
  clear hr
  intro m0 t0 ht hr
  have g0 : t0.get 0 = (.i .i64 x0) := ht 0
  have g1 : t0.get 1 = (.i .i64 x1) := ht 1
  have g2 : t0.get 2 = v2 := ht 2
  clear ht
  unfold g22 at hr
  refine w_seq ?_
  refine w_ops ?_
  have hq := bindP_inv hr
  clear hr
  obtain ⟨v6, m_1, e6, hr⟩ := hq
  refine wo_step (v := v6) (s_al e6) ?_
  have hq := bindP_inv hr
  clear hr
  obtain ⟨v7, m_2, e7, hr⟩ := hq
  refine wo_step (v := v7) (s_al e7) ?_
  refine wo_nil ?_
  refine nx_norm ?_
  refine w_seq ?_
  refine w_ops ?_
  refine wo_step (v := (.i .i64 x0)) (s_pure (p_mv g0)) ?_
  refine wo_step (v := (.i .i64 x1)) (s_pure (p_mv g1)) ?_
  refine wo_step (v := v2) (s_pure (p_mv g2)) ?_
  have hq := bindP_inv hr
  clear hr
  obtain ⟨v15, m_3, e15, hr⟩ := hq
  refine wo_step (v := v15) (s_call (mc rfl (mc rfl (mc rfl mn))) (callM_le hM.call e15)) ?_
  refine wo_step (v := v15) (s_pure (p_mv rfl)) ?_
  have hq := bindO_inv hr
  clear hr
  obtain ⟨v16, e16, hr⟩ := hq
  refine wo_step (v := v16) (s_pure (o_ext rfl e16)) ?_
  have hq := bindO_inv hr
  clear hr
  obtain ⟨v17, e17, hr⟩ := hq
  have hq := asI_inv hr
  clear hr
  obtain ⟨x17, rfl, hr⟩ := hq
  refine wo_step (v := (.i .i64 x17)) (s_pure (o_ext rfl e17)) ?_
  have hq := bindP_inv hr
  clear hr
  obtain ⟨v8, m_4, e8, hr⟩ := hq
  refine wo_step (v := v8) (s_al e8) ?_
  have hq := bindP_inv hr
  clear hr
  obtain ⟨vn, m_5, en, hr⟩ := hq
  refine wo_stepN (s_st rfl rfl en) ?_
  refine wo_step (v := (.i .i64 x17)) (s_pure (p_mv rfl)) ?_
  refine wo_nil ?_
  refine nx_norm ?_
  refine w_seq ?_
  refine w_seq ?_
  refine w_ops ?_
  refine wo_step (v := (.i .i64 x17)) (s_pure (p_mv rfl)) ?_
  have hq := forceB_inv hr
  clear hr
  obtain ⟨c19, e19, hr⟩ := hq
  refine wo_step (v := (.b c19)) (s_pure (p_bin rfl rfl (b_neq.trans (cb e19)))) ?_
  refine wo_nil ?_
  refine nx_norm ?_
  have hq := cond_inv hr
  clear hr
  rcases hq with ⟨rfl, hr⟩ | ⟨rfl, hr⟩
  · refine w_condT rfl ?_
    refine w_seq ?_
    refine w_ops ?_
    refine wo_step (v := (.i .i64 x17)) (s_pure (p_mv rfl)) ?_
    have hq := bindP_inv hr
    clear hr
    obtain ⟨vn_1, m_6, en_1, hr⟩ := hq
    refine wo_stepN (s_st rfl rfl en_1) ?_
    have hq := bindP_inv hr
    clear hr
    obtain ⟨vn_2, m_7, en_2, hr⟩ := hq
    refine wo_stepN (s_st rfl rfl en_2) ?_
    refine wo_nil ?_
    refine nx_norm ?_
    refine w_ret ?_
    refine nx_ret ?_
    have hq := bindO_inv hr
    clear hr
    obtain ⟨vr, er, hr⟩ := hq
    have hq := bindO_inv hr
    clear hr
    obtain ⟨vr_1, er_1, hr⟩ := hq
    exact qf ret_ok (rc rfl er (rc rfl er_1 rn)) hr
  · refine w_condF rfl ?_
    refine w_skip ?_
    refine nx_norm ?_
    refine w_seq ?_
    refine w_ops ?_
    have hq := bindP_inv hr
    clear hr
    obtain ⟨v10, m_8, e10, hr⟩ := hq
    refine wo_step (v := v10) (s_al e10) ?_
    have hq := bindP_inv hr
    clear hr
    obtain ⟨vn_3, m_9, en_3, hr⟩ := hq
    refine wo_stepN (s_st rfl rfl en_3) ?_
    refine wo_nil ?_
    refine nx_norm ?_
    refine w_seq ?_
    refine w_seq ?_
    refine w_ops ?_
    have hq := bindO_inv hr
    clear hr
    obtain ⟨v21, e21, hr⟩ := hq
    refine wo_step (v := v21) (s_ld rfl e21) ?_
    have hq := bindP_inv hr
    clear hr
    obtain ⟨v22, m_10, e22, hr⟩ := hq
    refine wo_step (v := v22) (s_call (mc rfl mn) (callM_le hM.call e22)) ?_
    refine wo_nil ?_
    refine nx_norm ?_
    refine w_block ?_
    have hq := bindO_inv hr
    clear hr
    obtain ⟨⟨ex, m_15⟩, er_2, hr⟩ := hq
    refine w_rng hM.call rfl er_2 ⟨trivial, gl rfl, gl rfl, gl rfl⟩ ?_
    have hq := onE_inv hr
    clear hr
    rcases hq with ⟨rfl, hr⟩ | ⟨rfl, hr⟩ | ⟨ix, rfl, hr⟩
    · refine bk_norm ?_
      refine nx_norm ?_
      refine w_seq ?_
      refine w_ops ?_
      have hq := bindO_inv hr
      clear hr
      obtain ⟨v28, e28, hr⟩ := hq
      have hq := asI_inv hr
      clear hr
      obtain ⟨x28, rfl, hr⟩ := hq
      refine wo_step (v := (.i .i64 x28)) (s_ld rfl e28) ?_
      have hq := bindP_inv hr
      clear hr
      obtain ⟨vn_7, m_16, en_7, hr⟩ := hq
      refine wo_stepN (s_st rfl rfl en_7) ?_
      have hq := bindP_inv hr
      clear hr
      obtain ⟨vn_8, m_17, en_8, hr⟩ := hq
      refine wo_stepN (s_st rfl rfl en_8) ?_
      refine wo_nil ?_
      refine nx_norm ?_
      refine w_ret ?_
      have hq := bindO_inv hr
      clear hr
      obtain ⟨vr_2, er_3, hr⟩ := hq
      have hq := bindO_inv hr
      clear hr
      obtain ⟨vr_3, er_4, hr⟩ := hq
      exact qf ret_ok (rc rfl er_3 (rc rfl er_4 rn)) hr
    · refine bk_ret ?_
      refine nx_ret ?_
      have hq := bindO_inv hr
      clear hr
      obtain ⟨vr_4, er_5, hr⟩ := hq
      have hq := bindO_inv hr
      clear hr
      obtain ⟨vr_5, er_6, hr⟩ := hq
      exact qf ret_ok (rc rfl er_5 (rc rfl er_6 rn)) hr
    · cases hr

/- dibber/turn.Refuses -/
abbrev g30_I0 (v10 : AVal) (c33 : Bool) (v32 : AVal) (x35 : Int) (s : Int × Int × Int × Mm) (m1 : Mm) (t1 : Tr) : Prop :=
  match s with
  | (x12, x13, x36, m_5) => m_5 = m1 ∧ t1.get 12 = (.i .i64 x12) ∧ t1.get 13 = (.i .i64 x13) ∧ t1.get 36 = (.i .i64 x36) ∧ t1.get 10 = v10 ∧ t1.get 15 = (.b c33) ∧ t1.get 34 = v32 ∧ t1.get 35 = (.i .i64 x35)
abbrev g30_J0 (v10 : AVal) (c33 : Bool) (v32 : AVal) (x35 : Int) (o : (Int × Int × Mm)) (e : AExit) (m1 : Mm) (t1 : Tr) : Prop :=
  match o with
  | (y12, y13, mo) => e = (.exit 0) ∧ mo = m1 ∧ t1.get 12 = (.i .i64 y12) ∧ t1.get 13 = (.i .i64 y13) ∧ t1.get 10 = v10 ∧ t1.get 15 = (.b c33)
def g30_b0 (M : Means) (ro : List ABlk) (v10 : AVal) (c33 : Bool) (v32 : AVal) (x35 : Int) (x12 : Int) (x13 : Int) (x36 : Int) (m_5 : Mm) : Option ((Int × Int × Int × Mm) ⊕ ((Int × Int × Mm))) :=
  forceB (ltI x36 x35) fun c37 =>
  cond c37 (
    bindO (evP .e (.ixS 4 (.c v32) (.c (.i .i64 x36)))) fun v38 =>
    bindO (ldM ro m_5 false 4 v38) fun v39 =>
    bindP (stepM ro m_5 (.al 31 [(AVal.i IntKind.i64 0), (AVal.i IntKind.i64 0), (AVal.i IntKind.i64 0), (AVal.i IntKind.i64 0)])) fun v17 m_6 =>
    bindP (stepM ro m_6 (.st 4 (.c v17) (.c v39))) fun vn_1 m_7 =>
    bindO (evP .e (.faddr 2 (.c v17))) fun v41 =>
    bindO (ldM ro m_7 true 1 v41) fun v42 =>
    asI .i64 v42 fun x42 =>
    forceI (wr .i64 (x12 + x42)) fun x43 =>
    bindO (evP .e (.faddr 3 (.c v17))) fun v45 =>
    bindO (ldM ro m_7 true 1 v45) fun v46 =>
    asI .i64 v46 fun x46 =>
    forceI (wr .i64 (x13 + x46)) fun x47 =>
    forceI (wr .i64 (x36 + 1)) fun x48 =>
    some (.inl (x43, x47, x48, m_7))) (
    some (.inr (x12, x13, m_5)))
abbrev g30_J1  (o : Bool × Mm) (m1 : Mm) (t1 : Tr) : Prop :=
  match o with
  | (c55, m_9) => m_9 = m1 ∧ t1.get 55 = (.b c55)
def g30 (M : Means) (ro : List ABlk) (x0 : Int) (x1 : Int) (v2 : AVal) (v3 : AVal) (m0 : Mm) : Option (AVal × Heap × Nat × Nat) :=
  bindP (callM M.call m0 43 [(.i .i64 x0), (.i .i64 x1), v2]) fun v22 m_1 =>
  bindO (evP .e (.ext 0 (.c v22))) fun v23 =>
  bindO (evP .e (.ext 1 (.c v22))) fun v24 =>
  asI .i64 v24 fun x24 =>
  bindP (stepM ro m_1 (.al 55 [(AVal.i IntKind.i64 0), (AVal.i IntKind.i64 0), AVal.nsl])) fun v10 m_2 =>
  bindP (stepM ro m_2 (.st 3 (.c v10) (.c v23))) fun vn m_3 =>
  forceB (!eqI x24 0) fun c26 =>
  cond c26 (
    finM m0.h.length (tupA [(.b false), (.i .i64 x24)]) m_3) (
    bindO (ldM ro m_3 false 3 v10) fun v29 =>
    bindP (callM M.call m_3 54 [v29, v3]) fun v31 m_4 =>
    bindO (evP .e (.ext 0 (.c v31))) fun v32 =>
    bindO (evP .e (.ext 1 (.c v31))) fun v33 =>
    asB v33 fun c33 =>
    bindO (evP .e (.len false (.c v32))) fun v35 =>
    asI .i64 v35 fun x35 =>
    bindO (M.loop (S := Int × Int × Int × Mm) (R := (Int × Int × Mm)) (fun s => g30_b0 M ro v10 c33 v32 x35 s.1 s.2.1 s.2.2.1 s.2.2.2) (0, 0, 0, m_4)) fun ⟨x12_1, x13_1, m_8⟩ =>
    bindO (cond c33 (
      bindO (ldM ro m_8 false 3 v10) fun v51 =>
      bindP (callM M.call m_8 55 [v51, (.i .i64 x12_1), (.i .i64 x13_1)]) fun v54 m_10 =>
      asB v54 fun c54 =>
      some (c54, m_10)) (
      some (false, m_8))) fun ⟨c55, m_9⟩ =>
    finM m0.h.length (tupA [(.b c55), (.i .i64 0)]) m_9)

theorem g30_ok {ro : List ABlk} {O : Caller} {M : Means} (hM : M.Ok ⟨F, O⟩ ro) {x0 x1 v2 v3 h r} (ho : O 30 [(.i .i64 x0), (.i .i64 x1), v2, v3] h = none) (hr : g30 M ro x0 x1 v2 v3 ⟨h, h.length, h.length⟩ = some r) : callX ⟨F, O⟩ ro 30 [(.i .i64 x0), (.i .i64 x1), v2, v3] h = some r := by
  refine callX_of (F := ⟨F, O⟩) (fn := fn30) (g := g30 M ro x0 x1 v2 v3) ho rfl rfl hr ?_
  clear ho
  clear hr
  intro m0 t0 ht hr
  have g0 : t0.get 0 = (.i .i64 x0) := ht 0
  have g1 : t0.get 1 = (.i .i64 x1) := ht 1
  have g2 : t0.get 2 = v2 := ht 2
  have g3 : t0.get 3 = v3 := ht 3
  clear ht
  unfold g30 at hr
  refine w_seq ?_
  refine w_ops ?_
  refine wo_step (v := (.b false)) (s_pure (p_mv rfl)) ?_
  refine wo_step (v := (.i .i64 0)) (s_pure (p_mv rfl)) ?_
  refine wo_nil ?_
  refine nx_norm ?_
  refine w_seq ?_
  refine w_ops ?_
  refine wo_step (v := (.i .i64 x0)) (s_pure (p_mv g0)) ?_
  refine wo_step (v := (.i .i64 x1)) (s_pure (p_mv g1)) ?_
  refine wo_step (v := v2) (s_pure (p_mv g2)) ?_
  have hq := bindP_inv hr
  clear hr
  obtain ⟨v22, m_1, e22, hr⟩ := hq
  refine wo_step (v := v22) (s_call (mc rfl (mc rfl (mc rfl mn))) (callM_le hM.call e22)) ?_
  refine wo_step (v := v22) (s_pure (p_mv rfl)) ?_
  have hq := bindO_inv hr
  clear hr
  obtain ⟨v23, e23, hr⟩ := hq
  refine wo_step (v := v23) (s_pure (o_ext rfl e23)) ?_
  have hq := bindO_inv hr
  clear hr
  obtain ⟨v24, e24, hr⟩ := hq
  have hq := asI_inv hr
  clear hr
  obtain ⟨x24, rfl, hr⟩ := hq
  refine wo_step (v := (.i .i64 x24)) (s_pure (o_ext rfl e24)) ?_
  have hq := bindP_inv hr
  clear hr
  obtain ⟨v10, m_2, e10, hr⟩ := hq
  refine wo_step (v := v10) (s_al e10) ?_
  have hq := bindP_inv hr
  clear hr
  obtain ⟨vn, m_3, en, hr⟩ := hq
  refine wo_stepN (s_st rfl rfl en) ?_
  refine wo_step (v := (.i .i64 x24)) (s_pure (p_mv rfl)) ?_
  refine wo_nil ?_
  refine nx_norm ?_
  refine w_seq ?_
  refine w_seq ?_
  refine w_ops ?_
  refine wo_step (v := (.i .i64 x24)) (s_pure (p_mv rfl)) ?_
  have hq := forceB_inv hr
  clear hr
  obtain ⟨c26, e26, hr⟩ := hq
  refine wo_step (v := (.b c26)) (s_pure (p_bin rfl rfl (b_neq.trans (cb e26)))) ?_
  refine wo_nil ?_
  refine nx_norm ?_
  have hq := cond_inv hr
  clear hr
  rcases hq with ⟨rfl, hr⟩ | ⟨rfl, hr⟩
  · refine w_condT rfl ?_
    refine w_seq ?_
    refine w_ops ?_
    refine wo_step (v := (.i .i64 x24)) (s_pure (p_mv rfl)) ?_
    refine wo_step (v := (.b false)) (s_pure (p_mv rfl)) ?_
    refine wo_step (v := (.i .i64 x24)) (s_pure (p_mv rfl)) ?_
    refine wo_nil ?_
    refine nx_norm ?_
    refine w_ret ?_
    refine nx_ret ?_
    exact qf ret_ok (rt rfl (rt rfl rn)) hr
  · refine w_condF rfl ?_
    refine w_skip ?_
    refine nx_norm ?_
    refine w_seq ?_
    refine w_ops ?_
    refine wo_step (v := (.i .i64 0)) (s_pure (p_mv rfl)) ?_
    refine wo_step (v := (.i .i64 0)) (s_pure (p_mv rfl)) ?_
    refine wo_nil ?_
    refine nx_norm ?_
    refine w_seq ?_
    refine w_ops ?_
    have hq := bindO_inv hr
    clear hr
    obtain ⟨v29, e29, hr⟩ := hq
    refine wo_step (v := v29) (s_ld rfl e29) ?_
    refine wo_step (v := v3) (s_pure (p_mv g3)) ?_
    have hq := bindP_inv hr
    clear hr
    obtain ⟨v31, m_4, e31, hr⟩ := hq
    refine wo_step (v := v31) (s_call (mc rfl (mc rfl mn)) (callM_le hM.call e31)) ?_
    refine wo_step (v := v31) (s_pure (p_mv rfl)) ?_
    have hq := bindO_inv hr
    clear hr
    obtain ⟨v32, e32, hr⟩ := hq
    refine wo_step (v := v32) (s_pure (o_ext rfl e32)) ?_
    have hq := bindO_inv hr
    clear hr
    obtain ⟨v33, e33, hr⟩ := hq
    have hq := asB_inv hr
    clear hr
    obtain ⟨c33, rfl, hr⟩ := hq
    refine wo_step (v := (.b c33)) (s_pure (o_ext rfl e33)) ?_
    refine wo_step (v := v32) (s_pure (p_mv rfl)) ?_
    refine wo_step (v := (.b c33)) (s_pure (p_mv rfl)) ?_
    refine wo_nil ?_
    refine nx_norm ?_
    refine w_seq ?_
    refine w_seq ?_
    refine w_ops ?_
    refine wo_step (v := v32) (s_pure (p_mv rfl)) ?_
    have hq := bindO_inv hr
    clear hr
    obtain ⟨v35, e35, hr⟩ := hq
    have hq := asI_inv hr
    clear hr
    obtain ⟨x35, rfl, hr⟩ := hq
    refine wo_step (v := (.i .i64 x35)) (s_pure (o_len rfl e35)) ?_
    refine wo_step (v := (.i .i64 0)) (s_pure (p_mv rfl)) ?_
    refine wo_nil ?_
    refine nx_norm ?_
    refine w_block ?_
    have hq := bindO_inv hr
    clear hr
    obtain ⟨o, hl, hr⟩ := hq
    obtain ⟨n, hl⟩ := hM.loop _ _ _ hl
    refine jp_mono (w_loop _ (g30_I0 v10 c33 v32 x35) (g30_J0 v10 c33 v32 x35) ?_ n _ _ _ _ hl ⟨rfl, gl rfl, gl rfl, gl rfl, gl rfl, gl rfl, gl rfl, gl rfl⟩) ?_
    · clear hr hl
      intro s mm_2 t_1 o hi hr
      obtain ⟨x12, x13, x36, m_5⟩ := s
      obtain ⟨rfl, g12, g13, g36, g10, g15, g34, g35⟩ := hi
      unfold g30_b0 at hr
      refine w_seq ?_
      refine w_ops ?_
      have hq := forceB_inv hr
      clear hr
      obtain ⟨c37, e37, hr⟩ := hq
      refine wo_step (v := (.b c37)) (s_pure (p_bin g36 g35 (b_lss.trans (cb e37)))) ?_
      refine wo_nil ?_
      refine nx_norm ?_
      refine w_seq ?_
      have hq := cond_inv hr
      clear hr
      rcases hq with ⟨rfl, hr⟩ | ⟨rfl, hr⟩
      · refine w_condT rfl ?_
        refine w_skip ?_
        refine nx_norm ?_
        refine w_seq ?_
        refine w_block ?_
        refine w_seq ?_
        refine w_ops ?_
        have hq := bindO_inv hr
        clear hr
        obtain ⟨v38, e38, hr⟩ := hq
        refine wo_step (v := v38) (s_pure (o_ixS g34 g36 e38)) ?_
        have hq := bindO_inv hr
        clear hr
        obtain ⟨v39, e39, hr⟩ := hq
        refine wo_step (v := v39) (s_ld rfl e39) ?_
        have hq := bindP_inv hr
        clear hr
        obtain ⟨v17, m_6, e17, hr⟩ := hq
        refine wo_step (v := v17) (s_al e17) ?_
        have hq := bindP_inv hr
        clear hr
        obtain ⟨vn_1, m_7, en_1, hr⟩ := hq
        refine wo_stepN (s_st rfl rfl en_1) ?_
        refine wo_nil ?_
        refine nx_norm ?_
        refine w_seq ?_
        refine w_ops ?_
        refine wo_step (v := (.i .i64 x12)) (s_pure (p_mv g12)) ?_
        have hq := bindO_inv hr
        clear hr
        obtain ⟨v41, e41, hr⟩ := hq
        refine wo_step (v := v41) (s_pure (o_faddr rfl e41)) ?_
        have hq := bindO_inv hr
        clear hr
        obtain ⟨v42, e42, hr⟩ := hq
        have hq := asI_inv hr
        clear hr
        obtain ⟨x42, rfl, hr⟩ := hq
        refine wo_step (v := (.i .i64 x42)) (s_ld rfl e42) ?_
        have hq := forceI_inv hr
        clear hr
        obtain ⟨x43, e43, hr⟩ := hq
        refine wo_step (v := (.i .i64 x43)) (s_pure (p_bin rfl rfl (b_add.trans (ci e43)))) ?_
        refine wo_step (v := (.i .i64 x43)) (s_pure (p_mv rfl)) ?_
        refine wo_nil ?_
        refine nx_norm ?_
        refine w_ops ?_
        refine wo_step (v := (.i .i64 x13)) (s_pure (p_mv g13)) ?_
        have hq := bindO_inv hr
        clear hr
        obtain ⟨v45, e45, hr⟩ := hq
        refine wo_step (v := v45) (s_pure (o_faddr rfl e45)) ?_
        have hq := bindO_inv hr
        clear hr
        obtain ⟨v46, e46, hr⟩ := hq
        have hq := asI_inv hr
        clear hr
        obtain ⟨x46, rfl, hr⟩ := hq
        refine wo_step (v := (.i .i64 x46)) (s_ld rfl e46) ?_
        have hq := forceI_inv hr
        clear hr
        obtain ⟨x47, e47, hr⟩ := hq
        refine wo_step (v := (.i .i64 x47)) (s_pure (p_bin rfl rfl (b_add.trans (ci e47)))) ?_
        refine wo_step (v := (.i .i64 x47)) (s_pure (p_mv rfl)) ?_
        refine wo_nil ?_
        refine bk_norm ?_
        refine nx_norm ?_
        refine w_ops ?_
        have hq := forceI_inv hr
        clear hr
        obtain ⟨x48, e48, hr⟩ := hq
        refine wo_step (v := (.i .i64 x48)) (s_pure (p_bin g36 rfl (b_add.trans (ci e48)))) ?_
        refine wo_step (v := (.i .i64 x48)) (s_pure (p_mv rfl)) ?_
        refine wo_nil ?_
        cases hr
        exact ⟨_, _, rfl, rfl, rfl, gl rfl, gl rfl, gl rfl, gl g10, gl g15, gl g34, gl g35⟩
      · refine w_condF rfl ?_
        refine w_exit ?_
        refine nx_exit ?_
        cases hr
        exact ⟨_, _, rfl, ne_norm_exit, rfl, rfl, gl g12, gl g13, gl g10, gl g15⟩
    · obtain ⟨x12_1, x13_1, m_8⟩ := o
      rintro _ mm_1 t_2 ⟨rfl, rfl, g12, g13, g10, g15⟩
      refine bk_hit ?_
      refine nx_norm ?_
      refine w_seq ?_
      refine w_ops ?_
      refine wo_step (v := (.b c33)) (s_pure (p_mv g15)) ?_
      refine wo_step (v := (.b c33)) (s_pure (p_mv rfl)) ?_
      have hq := bindO_inv hr
      clear hr
      obtain ⟨o_1, hr, hk⟩ := hq
      refine wo_join 5 (g30_J1  o_1) ?_ ?_
      · clear hk
        have hq := cond_inv hr
        clear hr
        rcases hq with ⟨rfl, hr⟩ | ⟨rfl, hr⟩
        · have hq := bindO_inv hr
          clear hr
          obtain ⟨v51, e51, hr⟩ := hq
          refine wo_take (v := v51) rfl (s_ld g10 e51) ?_
          refine wo_take (v := (.i .i64 x12_1)) rfl (s_pure (p_mv g12)) ?_
          refine wo_take (v := (.i .i64 x13_1)) rfl (s_pure (p_mv g13)) ?_
          have hq := bindP_inv hr
          clear hr
          obtain ⟨v54, m_10, e54, hr⟩ := hq
          have hq := asB_inv hr
          clear hr
          obtain ⟨c54, rfl, hr⟩ := hq
          refine wo_take (v := (.b c54)) rfl (s_call (mc rfl (mc rfl (mc rfl mn))) (callM_le hM.call e54)) ?_
          refine wo_step (v := (.b c54)) (s_pure (p_pickT rfl rfl)) ?_
          refine wo_nil ?_
          cases hr
          exact ⟨_, _, rfl, rfl, gl rfl⟩
        · refine wo_skip (v := (.b false)) rfl rfl ?_
          refine wo_skip (v := (.b false)) rfl rfl ?_
          refine wo_skip (v := (.b false)) rfl rfl ?_
          refine wo_skip (v := (.b false)) rfl rfl ?_
          refine wo_step (v := (.b false)) (s_pure (p_pickF rfl rfl)) ?_
          refine wo_nil ?_
          cases hr
          exact ⟨_, _, rfl, rfl, gl rfl⟩
      · clear hr
        have hr := hk
        clear hk
        obtain ⟨c55, m_9⟩ := o_1
        rintro mm t_3 ⟨rfl, g55⟩
        refine wo_step (v := (.b c55)) (s_pure (p_mv g55)) ?_
        refine wo_step (v := (.i .i64 0)) (s_pure (p_mv rfl)) ?_
        refine wo_nil ?_
        refine nx_norm ?_
        refine w_ret ?_
        exact qf ret_ok (rt rfl (rt rfl rn)) hr

/- dibber/turn.read -/
abbrev g43_J0 (x0 : Int) (x1 : Int) (v2 : AVal) (v6 : AVal) (m_1 : Mm) (o : Bool) (m1 : Mm) (t1 : Tr) : Prop :=
  match o with
  | c16 => m_1 = m1 ∧ t1.get 16 = (.b c16) ∧ t1.get 0 = (.i .i64 x0) ∧ t1.get 1 = (.i .i64 x1) ∧ t1.get 2 = v2 ∧ t1.get 6 = v6
abbrev g43_J1 (x0 : Int) (x1 : Int) (v2 : AVal) (v6 : AVal) (m_1 : Mm) (o : Bool) (m1 : Mm) (t1 : Tr) : Prop :=
  match o with
  | c20 => m_1 = m1 ∧ t1.get 20 = (.b c20) ∧ t1.get 0 = (.i .i64 x0) ∧ t1.get 1 = (.i .i64 x1) ∧ t1.get 2 = v2 ∧ t1.get 6 = v6
abbrev g43_J2 (x0 : Int) (x1 : Int) (v2 : AVal) (v6 : AVal) (m_1 : Mm) (o : Bool) (m1 : Mm) (t1 : Tr) : Prop :=
  match o with
  | c24 => m_1 = m1 ∧ t1.get 24 = (.b c24) ∧ t1.get 0 = (.i .i64 x0) ∧ t1.get 1 = (.i .i64 x1) ∧ t1.get 2 = v2 ∧ t1.get 6 = v6
abbrev g43_I3 (v6 : AVal) (v8 : AVal) (v2 : AVal) (x35 : Int) (s : Int × Mm) (m1 : Mm) (t1 : Tr) : Prop :=
  match s with
  | (x36, m_6) => m_6 = m1 ∧ t1.get 36 = (.i .i64 x36) ∧ t1.get 6 = v6 ∧ t1.get 8 = v8 ∧ t1.get 34 = v2 ∧ t1.get 35 = (.i .i64 x35)
abbrev g43_J3 (v6 : AVal) (v8 : AVal) (v2 : AVal) (x35 : Int) (o : (Mm ⊕ (Int × Mm))) (e : AExit) (m1 : Mm) (t1 : Tr) : Prop :=
  match o with
  | (.inl mo) => e = (.exit 0) ∧ mo = m1 ∧ t1.get 6 = v6 ∧ t1.get 8 = v8
  | (.inr (y7, mo)) => e = .ret ∧ mo = m1 ∧ t1.get 7 = (.i .i64 y7) ∧ t1.get 6 = v6
def g43_b3 (M : Means) (ro : List ABlk) (v6 : AVal) (v8 : AVal) (v2 : AVal) (x35 : Int) (x36 : Int) (m_6 : Mm) : Option ((Int × Mm) ⊕ ((Mm ⊕ (Int × Mm)))) :=
  forceB (ltI x36 x35) fun c37 =>
  cond c37 (
    bindO (evP .e (.ixS 4 (.c v2) (.c (.i .i64 x36)))) fun v38 =>
    bindO (ldM ro m_6 false 4 v38) fun v39 =>
    bindP (stepM ro m_6 (.al 31 [(AVal.i IntKind.i64 0), (AVal.i IntKind.i64 0), (AVal.i IntKind.i64 0), (AVal.i IntKind.i64 0)])) fun v10 m_7 =>
    bindP (stepM ro m_7 (.st 4 (.c v10) (.c v39))) fun vn_3 m_8 =>
    bindO (ldM ro m_8 false 3 v8) fun v40 =>
    bindO (ldM ro m_8 false 4 v10) fun v41 =>
    bindP (callM M.call m_8 60 [v40, v41]) fun v42 m_9 =>
    asB v42 fun c42 =>
    forceB (!c42) fun c43 =>
    cond c43 (
      bindO ((fillA [(AVal.i IntKind.i64 0), (AVal.i IntKind.i64 0), AVal.nsl] []).map AVal.agg) fun v44 =>
      bindP (stepM ro m_9 (.st 3 (.c v6) (.c v44))) fun vn_4 m_10 =>
      some (.inr (.inr (2, m_10)))) (
      forceI (wr .i64 (x36 + 1)) fun x45 =>
      some (.inl (x45, m_9)))) (
    some (.inr (.inl m_6)))
def g43 (M : Means) (ro : List ABlk) (x0 : Int) (x1 : Int) (v2 : AVal) (m0 : Mm) : Option (AVal × Heap × Nat × Nat) :=
  bindP (stepM ro m0 (.al 55 [(AVal.i IntKind.i64 0), (AVal.i IntKind.i64 0), AVal.nsl])) fun v6 m_1 =>
  forceB (ltI x0 1) fun c12 =>
  bindO (cond c12 (
    some true) (
    forceB (ltI 24 x0) fun c15 =>
    some c15)) fun c16 =>
  bindO (cond c16 (
    some true) (
    forceB (ltI x1 1) fun c19 =>
    some c19)) fun c20 =>
  bindO (cond c20 (
    some true) (
    forceB (ltI 6 x1) fun c23 =>
    some c23)) fun c24 =>
  cond c24 (
    bindO ((fillA [(AVal.i IntKind.i64 0), (AVal.i IntKind.i64 0), AVal.nsl] []).map AVal.agg) fun v25 =>
    bindP (stepM ro m_1 (.st 3 (.c v6) (.c v25))) fun vn m_2 =>
    bindO (ldM ro m_2 false 3 v6) fun vr =>
    finM m0.h.length (tupA [vr, (.i .i64 2)]) m_2) (
    bindO (evP .e (.len false (.c v2))) fun v27 =>
    asI .i64 v27 fun x27 =>
    forceB (ltI 20 x27) fun c28 =>
    cond c28 (
      bindO ((fillA [(AVal.i IntKind.i64 0), (AVal.i IntKind.i64 0), AVal.nsl] []).map AVal.agg) fun v29 =>
      bindP (stepM ro m_1 (.st 3 (.c v6) (.c v29))) fun vn_1 m_3 =>
      bindO (ldM ro m_3 false 3 v6) fun vr_1 =>
      finM m0.h.length (tupA [vr_1, (.i .i64 3)]) m_3) (
      bindO ((fillA [(AVal.i IntKind.i64 0), (AVal.i IntKind.i64 0), AVal.nsl] [((0, 1), (.i .i64 x0)), ((1, 1), (.i .i64 x1)), ((2, 1), v2)]).map AVal.agg) fun v33 =>
      bindP (stepM ro m_1 (.al 55 [(AVal.i IntKind.i64 0), (AVal.i IntKind.i64 0), AVal.nsl])) fun v8 m_4 =>
      bindP (stepM ro m_4 (.st 3 (.c v8) (.c v33))) fun vn_2 m_5 =>
      bindO (evP .e (.len false (.c v2))) fun v35 =>
      asI .i64 v35 fun x35 =>
      bindO (M.loop (S := Int × Mm) (R := (Mm ⊕ (Int × Mm))) (fun s => g43_b3 M ro v6 v8 v2 x35 s.1 s.2) (0, m_5)) fun o_3 => match o_3 with
      | (.inl m_11) =>
        bindO (ldM ro m_11 false 3 v8) fun v46 =>
        bindP (stepM ro m_11 (.st 3 (.c v6) (.c v46))) fun vn_5 m_12 =>
        bindO (ldM ro m_12 false 3 v6) fun vr_2 =>
        finM m0.h.length (tupA [vr_2, (.i .i64 0)]) m_12
      | (.inr (x7, m_13)) =>
        bindO (ldM ro m_13 false 3 v6) fun vr_3 =>
        finM m0.h.length (tupA [vr_3, (.i .i64 x7)]) m_13))

theorem g43_ok {ro : List ABlk} {O : Caller} {M : Means} (hM : M.Ok ⟨F, O⟩ ro) {x0 x1 v2 h r} (ho : O 43 [(.i .i64 x0), (.i .i64 x1), v2] h = none) (hr : g43 M ro x0 x1 v2 ⟨h, h.length, h.length⟩ = some r) : callX ⟨F, O⟩ ro 43 [(.i .i64 x0), (.i .i64 x1), v2] h = some r := by
  refine callX_of (F := ⟨F, O⟩) (fn := fn43) (g := g43 M ro x0 x1 v2) ho rfl rfl hr ?_
  clear ho
  clear hr
  intro m0 t0 ht hr
  have g0 : t0.get 0 = (.i .i64 x0) := ht 0
  have g1 : t0.get 1 = (.i .i64 x1) := ht 1
  have g2 : t0.get 2 = v2 := ht 2
  clear ht
  unfold g43 at hr
  refine w_seq ?_
  refine w_ops ?_
  have hq := bindP_inv hr
  clear hr
  obtain ⟨v6, m_1, e6, hr⟩ := hq
  refine wo_step (v := v6) (s_al e6) ?_
  refine wo_step (v := (.i .i64 0)) (s_pure (p_mv rfl)) ?_
  refine wo_nil ?_
  refine nx_norm ?_
  refine w_seq ?_
  refine w_seq ?_
  refine w_ops ?_
  refine wo_step (v := (.i .i64 x0)) (s_pure (p_mv g0)) ?_
  have hq := forceB_inv hr
  clear hr
  obtain ⟨c12, e12, hr⟩ := hq
  refine wo_step (v := (.b c12)) (s_pure (p_bin rfl rfl (b_lss.trans (cb e12)))) ?_
  refine wo_step (v := (.b c12)) (s_pure (p_mv rfl)) ?_
  have hq := bindO_inv hr
  clear hr
  obtain ⟨o, hr, hk⟩ := hq
  refine wo_join 3 (g43_J0 x0 x1 v2 v6 m_1 o) ?_ ?_
  · clear hk
    have hq := cond_inv hr
    clear hr
    rcases hq with ⟨rfl, hr⟩ | ⟨rfl, hr⟩
    · refine wo_skip (v := (.b true)) rfl rfl ?_
      refine wo_skip (v := (.b true)) rfl rfl ?_
      refine wo_step (v := (.b true)) (s_pure (p_pickT rfl rfl)) ?_
      refine wo_nil ?_
      cases hr
      exact ⟨_, _, rfl, rfl, gl rfl, gl g0, gl g1, gl g2, gl rfl⟩
    · refine wo_take (v := (.i .i64 x0)) rfl (s_pure (p_mv g0)) ?_
      have hq := forceB_inv hr
      clear hr
      obtain ⟨c15, e15, hr⟩ := hq
      refine wo_take (v := (.b c15)) rfl (s_pure (p_bin rfl rfl (b_gtr.trans (cb e15)))) ?_
      refine wo_step (v := (.b c15)) (s_pure (p_pickF rfl rfl)) ?_
      refine wo_nil ?_
      cases hr
      exact ⟨_, _, rfl, rfl, gl rfl, gl g0, gl g1, gl g2, gl rfl⟩
  · clear hr
    have hr := hk
    clear hk
    obtain ⟨c16, ho⟩ : ∃ z, z = o := ⟨_, rfl⟩
    subst ho
    rintro mm t_1 ⟨rfl, g16, g0, g1, g2, g6⟩
    refine wo_step (v := (.b c16)) (s_pure (p_mv g16)) ?_
    have hq := bindO_inv hr
    clear hr
    obtain ⟨o_1, hr, hk⟩ := hq
    refine wo_join 3 (g43_J1 x0 x1 v2 v6 m_1 o_1) ?_ ?_
    · clear hk
      have hq := cond_inv hr
      clear hr
      rcases hq with ⟨rfl, hr⟩ | ⟨rfl, hr⟩
      · refine wo_skip (v := (.b true)) rfl rfl ?_
        refine wo_skip (v := (.b true)) rfl rfl ?_
        refine wo_step (v := (.b true)) (s_pure (p_pickT rfl rfl)) ?_
        refine wo_nil ?_
        cases hr
        exact ⟨_, _, rfl, rfl, gl rfl, gl g0, gl g1, gl g2, gl g6⟩
      · refine wo_take (v := (.i .i64 x1)) rfl (s_pure (p_mv g1)) ?_
        have hq := forceB_inv hr
        clear hr
        obtain ⟨c19, e19, hr⟩ := hq
        refine wo_take (v := (.b c19)) rfl (s_pure (p_bin rfl rfl (b_lss.trans (cb e19)))) ?_
        refine wo_step (v := (.b c19)) (s_pure (p_pickF rfl rfl)) ?_
        refine wo_nil ?_
        cases hr
        exact ⟨_, _, rfl, rfl, gl rfl, gl g0, gl g1, gl g2, gl g6⟩
    · clear hr
      have hr := hk
      clear hk
      obtain ⟨c20, ho⟩ : ∃ z, z = o_1 := ⟨_, rfl⟩
      subst ho
      rintro mm_1 t_2 ⟨rfl, g20, g0, g1, g2, g6⟩
      refine wo_step (v := (.b c20)) (s_pure (p_mv g20)) ?_
      have hq := bindO_inv hr
      clear hr
      obtain ⟨o_2, hr, hk⟩ := hq
      refine wo_join 3 (g43_J2 x0 x1 v2 v6 m_1 o_2) ?_ ?_
      · clear hk
        have hq := cond_inv hr
        clear hr
        rcases hq with ⟨rfl, hr⟩ | ⟨rfl, hr⟩
        · refine wo_skip (v := (.b true)) rfl rfl ?_
          refine wo_skip (v := (.b true)) rfl rfl ?_
          refine wo_step (v := (.b true)) (s_pure (p_pickT rfl rfl)) ?_
          refine wo_nil ?_
          cases hr
          exact ⟨_, _, rfl, rfl, gl rfl, gl g0, gl g1, gl g2, gl g6⟩
        · refine wo_take (v := (.i .i64 x1)) rfl (s_pure (p_mv g1)) ?_
          have hq := forceB_inv hr
          clear hr
          obtain ⟨c23, e23, hr⟩ := hq
          refine wo_take (v := (.b c23)) rfl (s_pure (p_bin rfl rfl (b_gtr.trans (cb e23)))) ?_
          refine wo_step (v := (.b c23)) (s_pure (p_pickF rfl rfl)) ?_
          refine wo_nil ?_
          cases hr
          exact ⟨_, _, rfl, rfl, gl rfl, gl g0, gl g1, gl g2, gl g6⟩
      · clear hr
        have hr := hk
        clear hk
        obtain ⟨c24, ho⟩ : ∃ z, z = o_2 := ⟨_, rfl⟩
        subst ho
        rintro mm_2 t_3 ⟨rfl, g24, g0, g1, g2, g6⟩
        refine wo_nil ?_
        refine nx_norm ?_
        have hq := cond_inv hr
        clear hr
        rcases hq with ⟨rfl, hr⟩ | ⟨rfl, hr⟩
        · refine w_condT g24 ?_
          refine w_seq ?_
          refine w_ops ?_
          have hq := bindO_inv hr
          clear hr
          obtain ⟨v25, e25, hr⟩ := hq
          refine wo_step (v := v25) (s_pure (o_build qn e25)) ?_
          have hq := bindP_inv hr
          clear hr
          obtain ⟨vn, m_2, en, hr⟩ := hq
          refine wo_stepN (s_st g6 rfl en) ?_
          refine wo_step (v := (.i .i64 2)) (s_pure (p_mv rfl)) ?_
          refine wo_nil ?_
          refine nx_norm ?_
          refine w_ret ?_
          refine nx_ret ?_
          have hq := bindO_inv hr
          clear hr
          obtain ⟨vr, er, hr⟩ := hq
          exact qf ret_ok (rc g6 er (rt rfl rn)) hr
        · refine w_condF g24 ?_
          refine w_skip ?_
          refine nx_norm ?_
          refine w_seq ?_
          refine w_seq ?_
          refine w_ops ?_
          refine wo_step (v := v2) (s_pure (p_mv g2)) ?_
          have hq := bindO_inv hr
          clear hr
          obtain ⟨v27, e27, hr⟩ := hq
          have hq := asI_inv hr
          clear hr
          obtain ⟨x27, rfl, hr⟩ := hq
          refine wo_step (v := (.i .i64 x27)) (s_pure (o_len rfl e27)) ?_
          have hq := forceB_inv hr
          clear hr
          obtain ⟨c28, e28, hr⟩ := hq
          refine wo_step (v := (.b c28)) (s_pure (p_bin rfl rfl (b_gtr.trans (cb e28)))) ?_
          refine wo_nil ?_
          refine nx_norm ?_
          have hq := cond_inv hr
          clear hr
          rcases hq with ⟨rfl, hr⟩ | ⟨rfl, hr⟩
          · refine w_condT rfl ?_
            refine w_seq ?_
            refine w_ops ?_
            have hq := bindO_inv hr
            clear hr
            obtain ⟨v29, e29, hr⟩ := hq
            refine wo_step (v := v29) (s_pure (o_build qn e29)) ?_
            have hq := bindP_inv hr
            clear hr
            obtain ⟨vn_1, m_3, en_1, hr⟩ := hq
            refine wo_stepN (s_st g6 rfl en_1) ?_
            refine wo_step (v := (.i .i64 3)) (s_pure (p_mv rfl)) ?_
            refine wo_nil ?_
            refine nx_norm ?_
            refine w_ret ?_
            refine nx_ret ?_
            have hq := bindO_inv hr
            clear hr
            obtain ⟨vr_1, er_1, hr⟩ := hq
            exact qf ret_ok (rc g6 er_1 (rt rfl rn)) hr
          · refine w_condF rfl ?_
            refine w_skip ?_
            refine nx_norm ?_
            refine w_seq ?_
            refine w_ops ?_
            refine wo_step (v := (.i .i64 x0)) (s_pure (p_mv g0)) ?_
            refine wo_step (v := (.i .i64 x1)) (s_pure (p_mv g1)) ?_
            refine wo_step (v := v2) (s_pure (p_mv g2)) ?_
            have hq := bindO_inv hr
            clear hr
            obtain ⟨v33, e33, hr⟩ := hq
            refine wo_step (v := v33) (s_pure (o_build (qc rfl (qc rfl (qc rfl qn))) e33)) ?_
            have hq := bindP_inv hr
            clear hr
            obtain ⟨v8, m_4, e8, hr⟩ := hq
            refine wo_step (v := v8) (s_al e8) ?_
            have hq := bindP_inv hr
            clear hr
            obtain ⟨vn_2, m_5, en_2, hr⟩ := hq
            refine wo_stepN (s_st rfl rfl en_2) ?_
            refine wo_nil ?_
            refine nx_norm ?_
            refine w_seq ?_
            refine w_seq ?_
            refine w_ops ?_
            refine wo_step (v := v2) (s_pure (p_mv g2)) ?_
            have hq := bindO_inv hr
            clear hr
            obtain ⟨v35, e35, hr⟩ := hq
            have hq := asI_inv hr
            clear hr
            obtain ⟨x35, rfl, hr⟩ := hq
            refine wo_step (v := (.i .i64 x35)) (s_pure (o_len rfl e35)) ?_
            refine wo_step (v := (.i .i64 0)) (s_pure (p_mv rfl)) ?_
            refine wo_nil ?_
            refine nx_norm ?_
            refine w_block ?_
            have hq := bindO_inv hr
            clear hr
            obtain ⟨o_3, hl, hr⟩ := hq
            obtain ⟨n, hl⟩ := hM.loop _ _ _ hl
            refine jp_mono (w_loop _ (g43_I3 v6 v8 v2 x35) (g43_J3 v6 v8 v2 x35) ?_ n _ _ _ _ hl ⟨rfl, gl rfl, gl g6, gl rfl, gl rfl, gl rfl⟩) ?_
            · clear hr hl
              intro s mm_5 t_4 o hi hr
              obtain ⟨x36, m_6⟩ := s
              obtain ⟨rfl, g36, g6, g8, g34, g35⟩ := hi
              unfold g43_b3 at hr
              refine w_seq ?_
              refine w_ops ?_
              have hq := forceB_inv hr
              clear hr
              obtain ⟨c37, e37, hr⟩ := hq
              refine wo_step (v := (.b c37)) (s_pure (p_bin g36 g35 (b_lss.trans (cb e37)))) ?_
              refine wo_nil ?_
              refine nx_norm ?_
              refine w_seq ?_
              have hq := cond_inv hr
              clear hr
              rcases hq with ⟨rfl, hr⟩ | ⟨rfl, hr⟩
              · refine w_condT rfl ?_
                refine w_skip ?_
                refine nx_norm ?_
                refine w_seq ?_
                refine w_block ?_
                refine w_seq ?_
                refine w_ops ?_
                have hq := bindO_inv hr
                clear hr
                obtain ⟨v38, e38, hr⟩ := hq
                refine wo_step (v := v38) (s_pure (o_ixS g34 g36 e38)) ?_
                have hq := bindO_inv hr
                clear hr
                obtain ⟨v39, e39, hr⟩ := hq
                refine wo_step (v := v39) (s_ld rfl e39) ?_
                have hq := bindP_inv hr
                clear hr
                obtain ⟨v10, m_7, e10, hr⟩ := hq
                refine wo_step (v := v10) (s_al e10) ?_
                have hq := bindP_inv hr
                clear hr
                obtain ⟨vn_3, m_8, en_3, hr⟩ := hq
                refine wo_stepN (s_st rfl rfl en_3) ?_
                refine wo_nil ?_
                refine nx_norm ?_
                refine w_seq ?_
                refine w_ops ?_
                have hq := bindO_inv hr
                clear hr
                obtain ⟨v40, e40, hr⟩ := hq
                refine wo_step (v := v40) (s_ld g8 e40) ?_
                have hq := bindO_inv hr
                clear hr
                obtain ⟨v41, e41, hr⟩ := hq
                refine wo_step (v := v41) (s_ld rfl e41) ?_
                have hq := bindP_inv hr
                clear hr
                obtain ⟨v42, m_9, e42, hr⟩ := hq
                have hq := asB_inv hr
                clear hr
                obtain ⟨c42, rfl, hr⟩ := hq
                refine wo_step (v := (.b c42)) (s_call (mc rfl (mc rfl mn)) (callM_le hM.call e42)) ?_
                have hq := forceB_inv hr
                clear hr
                obtain ⟨c43, e43, hr⟩ := hq
                refine wo_step (v := (.b c43)) (s_pure ((p_not rfl).trans (cb e43))) ?_
                refine wo_nil ?_
                refine nx_norm ?_
                have hq := cond_inv hr
                clear hr
                rcases hq with ⟨rfl, hr⟩ | ⟨rfl, hr⟩
                · refine w_condT rfl ?_
                  refine w_seq ?_
                  refine w_ops ?_
                  have hq := bindO_inv hr
                  clear hr
                  obtain ⟨v44, e44, hr⟩ := hq
                  refine wo_step (v := v44) (s_pure (o_build qn e44)) ?_
                  have hq := bindP_inv hr
                  clear hr
                  obtain ⟨vn_4, m_10, en_4, hr⟩ := hq
                  refine wo_stepN (s_st g6 rfl en_4) ?_
                  refine wo_step (v := (.i .i64 2)) (s_pure (p_mv rfl)) ?_
                  refine wo_nil ?_
                  refine nx_norm ?_
                  refine w_ret ?_
                  refine bk_ret ?_
                  refine nx_ret ?_
                  cases hr
                  exact ⟨_, _, rfl, ne_norm_ret, rfl, rfl, gl rfl, gl g6⟩
                · refine w_condF rfl ?_
                  refine w_skip ?_
                  refine bk_norm ?_
                  refine nx_norm ?_
                  refine w_ops ?_
                  have hq := forceI_inv hr
                  clear hr
                  obtain ⟨x45, e45, hr⟩ := hq
                  refine wo_step (v := (.i .i64 x45)) (s_pure (p_bin g36 rfl (b_add.trans (ci e45)))) ?_
                  refine wo_step (v := (.i .i64 x45)) (s_pure (p_mv rfl)) ?_
                  refine wo_nil ?_
                  cases hr
                  exact ⟨_, _, rfl, rfl, rfl, gl rfl, gl g6, gl g8, gl g34, gl g35⟩
              · refine w_condF rfl ?_
                refine w_exit ?_
                refine nx_exit ?_
                cases hr
                exact ⟨_, _, rfl, ne_norm_exit, rfl, rfl, gl g6, gl g8⟩
            · rcases o_3 with o_3 | o_3
              · obtain ⟨m_11, ho⟩ : ∃ z, z = o_3 := ⟨_, rfl⟩
                subst ho
                rintro _ mm_3 t_5 ⟨rfl, rfl, g6, g8⟩
                refine bk_hit ?_
                refine nx_norm ?_
                refine w_seq ?_
                refine w_ops ?_
                have hq := bindO_inv hr
                clear hr
                obtain ⟨v46, e46, hr⟩ := hq
                refine wo_step (v := v46) (s_ld g8 e46) ?_
                have hq := bindP_inv hr
                clear hr
                obtain ⟨vn_5, m_12, en_5, hr⟩ := hq
                refine wo_stepN (s_st g6 rfl en_5) ?_
                refine wo_step (v := (.i .i64 0)) (s_pure (p_mv rfl)) ?_
                refine wo_nil ?_
                refine nx_norm ?_
                refine w_ret ?_
                have hq := bindO_inv hr
                clear hr
                obtain ⟨vr_2, er_2, hr⟩ := hq
                exact qf ret_ok (rc g6 er_2 (rt rfl rn)) hr
              · obtain ⟨x7, m_13⟩ := o_3
                rintro _ mm_4 t_6 ⟨rfl, rfl, g7, g6⟩
                refine bk_ret ?_
                refine nx_ret ?_
                have hq := bindO_inv hr
                clear hr
                obtain ⟨vr_3, er_3, hr⟩ := hq
                exact qf ret_ok (rc g6 er_3 (rt g7 rn)) hr

/- (dibber/turn.demands).plans -/

def g44 (M : Means) (ro : List ABlk) (v0 : AVal) (m0 : Mm) : Option (AVal × Heap × Nat × Nat) :=
  bindP (stepM ro m0 (.bx 55 3 (.c v0))) fun v1 m_1 =>
  bindO (some (AVal.fn 61 [] [v1])) fun v3 =>
  finM m0.h.length (tupA [v3]) m_1

theorem g44_ok {ro : List ABlk} {O : Caller} {M : Means} (hM : M.Ok ⟨F, O⟩ ro) {v0 h r} (ho : O 44 [v0] h = none) (hr : g44 M ro v0 ⟨h, h.length, h.length⟩ = some r) : callX ⟨F, O⟩ ro 44 [v0] h = some r := by
  refine callX_of (F := ⟨F, O⟩) (fn := fn44) (g := g44 M ro v0) ho rfl rfl hr ?_
  clear ho
  clear hr
  intro m0 t0 ht hr
  have g0 : t0.get 0 = v0 := ht 0
  clear ht
  unfold g44 at hr
  refine w_seq ?_
  refine w_ops ?_
  have hq := bindP_inv hr
  clear hr
  obtain ⟨v1, m_1, e1, hr⟩ := hq
  refine wo_step (v := v1) (s_bx g0 e1) ?_
  refine wo_step (v := AVal.nfn) (s_pure (p_mv rfl)) ?_
  refine wo_nil ?_
  refine nx_norm ?_
  refine w_seq ?_
  refine w_ops ?_
  have hq := bindO_inv hr
  clear hr
  obtain ⟨v3, e3, hr⟩ := hq
  refine wo_step (v := v3) (s_pure ((o_mkfn mn (mc rfl mn)).trans e3)) ?_
  refine wo_step (v := v3) (s_pure (p_mv rfl)) ?_
  refine wo_nil ?_
  refine nx_norm ?_
  refine w_ret ?_
  exact qf ret_ok (rt rfl rn) hr

/- (dibber/turn.demands).ring -/
abbrev g54_I0 (v2 : AVal) (v6 : AVal) (v1 : AVal) (x13 : Int) (s : AVal × Int × Mm) (m1 : Mm) (t1 : Tr) : Prop :=
  match s with
  | (v7, x14, m_3) => m_3 = m1 ∧ t1.get 7 = v7 ∧ t1.get 14 = (.i .i64 x14) ∧ t1.get 2 = v2 ∧ t1.get 6 = v6 ∧ t1.get 12 = v1 ∧ t1.get 13 = (.i .i64 x13)
abbrev g54_J0 (v2 : AVal) (v6 : AVal) (v1 : AVal) (x13 : Int) (o : ((AVal × Mm) ⊕ (AVal × Bool × Mm))) (e : AExit) (m1 : Mm) (t1 : Tr) : Prop :=
  match o with
  | (.inl (y7, mo)) => e = (.exit 0) ∧ mo = m1 ∧ t1.get 7 = y7
  | (.inr (y4, y5, mo)) => e = .ret ∧ mo = m1 ∧ t1.get 4 = y4 ∧ t1.get 5 = (.b y5)
abbrev g54_J1 (v2 : AVal) (v6 : AVal) (v7 : AVal) (x14 : Int) (v10 : AVal) (v1 : AVal) (x13 : Int) (m_6 : Mm) (o : Bool) (m1 : Mm) (t1 : Tr) : Prop :=
  match o with
  | c32 => m_6 = m1 ∧ t1.get 32 = (.b c32) ∧ t1.get 2 = v2 ∧ t1.get 6 = v6 ∧ t1.get 7 = v7 ∧ t1.get 8 = (.i .i64 x14) ∧ t1.get 10 = v10 ∧ t1.get 12 = v1 ∧ t1.get 13 = (.i .i64 x13) ∧ t1.get 14 = (.i .i64 x14)
abbrev g54_J2 (v2 : AVal) (v6 : AVal) (v7 : AVal) (v10 : AVal) (v1 : AVal) (x13 : Int) (x14 : Int) (m_6 : Mm) (o : Bool) (m1 : Mm) (t1 : Tr) : Prop :=
  match o with
  | c47 => m_6 = m1 ∧ t1.get 47 = (.b c47) ∧ t1.get 2 = v2 ∧ t1.get 6 = v6 ∧ t1.get 7 = v7 ∧ t1.get 10 = v10 ∧ t1.get 12 = v1 ∧ t1.get 13 = (.i .i64 x13) ∧ t1.get 14 = (.i .i64 x14)
abbrev g54_J3 (v2 : AVal) (v6 : AVal) (v7 : AVal) (v10 : AVal) (v1 : AVal) (x13 : Int) (x14 : Int) (m_6 : Mm) (o : Bool) (m1 : Mm) (t1 : Tr) : Prop :=
  match o with
  | c47_1 => m_6 = m1 ∧ t1.get 47 = (.b c47_1) ∧ t1.get 2 = v2 ∧ t1.get 6 = v6 ∧ t1.get 7 = v7 ∧ t1.get 10 = v10 ∧ t1.get 12 = v1 ∧ t1.get 13 = (.i .i64 x13) ∧ t1.get 14 = (.i .i64 x14)
def g54_b0 (M : Means) (ro : List ABlk) (v2 : AVal) (v6 : AVal) (v1 : AVal) (x13 : Int) (v7 : AVal) (x14 : Int) (m_3 : Mm) : Option ((AVal × Int × Mm) ⊕ (((AVal × Mm) ⊕ (AVal × Bool × Mm)))) :=
  forceB (ltI x14 x13) fun c15 =>
  cond c15 (
    bindO (evP .e (.ixS 1 (.c v1) (.c (.i .i64 x14)))) fun v17 =>
    bindO (ldM ro m_3 true 1 v17) fun v18 =>
    asI .i64 v18 fun x18 =>
    bindO (ldM ro m_3 false 3 v2) fun v20 =>
    bindP (callM M.call m_3 74 [v20, (.i .i64 x18)]) fun v22 m_4 =>
    bindO (evP .e (.ext 0 (.c v22))) fun v23 =>
    bindO (evP .e (.ext 1 (.c v22))) fun v24 =>
    asB v24 fun c24 =>
    bindP (stepM ro m_4 (.al 31 [(AVal.i IntKind.i64 0), (AVal.i IntKind.i64 0), (AVal.i IntKind.i64 0), (AVal.i IntKind.i64 0)])) fun v10 m_5 =>
    bindP (stepM ro m_5 (.st 4 (.c v10) (.c v23))) fun vn m_6 =>
    forceB (!c24) fun c26 =>
    bindO (cond c26 (
      some true) (
      bindO (evP .e (.faddr 1 (.c v10))) fun v28 =>
      bindO (ldA ro m_6.h true 1 v28) fun v29 =>
      asI .i64 v29 fun x29 =>
      bindO (evP .e (.ixA 6 1 (.c v6) (.c (.i .i64 x29)))) fun v30 =>
      bindO (ldA ro m_6.h true 1 v30) fun v31 =>
      asB v31 fun c31 =>
      some c31)) fun c32 =>
    bindO (cond c32 (
      some true) (
      forceB (ltI 0 x14) fun c35 =>
      bindO (cond c35 (
        bindO (evP .e (.faddr 0 (.c v10))) fun v37 =>
        bindO (ldA ro m_6.h true 1 v37) fun v38 =>
        asI .i64 v38 fun x38 =>
        forceI (wr .i64 (x14 - 1)) fun x41 =>
        bindO (evP .e (.ixS 4 (.c v7) (.c (.i .i64 x41)))) fun v42 =>
        bindO (evP .e (.faddr 1 (.c v42))) fun v43 =>
        bindO (ldA ro m_6.h true 1 v43) fun v44 =>
        asI .i64 v44 fun x44 =>
        forceB (!eqI x38 x44) fun c45 =>
        some c45) (
        some false)) fun c47_1 =>
      some c47_1)) fun c47 =>
    cond c47 (
      some (.inr (.inr (AVal.nsl, false, m_6)))) (
      bindO (evP .e (.faddr 1 (.c v10))) fun v48 =>
      bindO (ldM ro m_6 true 1 v48) fun v49 =>
      asI .i64 v49 fun x49 =>
      bindO (evP .e (.ixA 6 1 (.c v6) (.c (.i .i64 x49)))) fun v50 =>
      bindP (stepM ro m_6 (.st 1 (.c v50) (.c (.b true)))) fun vn_1 m_7 =>
      bindO (ldM ro m_7 false 4 v10) fun v52 =>
      bindP (stepM ro m_7 (.bsl 31 4 [(AVal.i IntKind.i64 0), (AVal.i IntKind.i64 0), (AVal.i IntKind.i64 0), (AVal.i IntKind.i64 0)] 1 [((0, 4), .c v52)])) fun v53 m_8 =>
      bindP (stepM ro m_8 (.app 31 4 32 [(AVal.i IntKind.i64 0), (AVal.i IntKind.i64 0), (AVal.i IntKind.i64 0), (AVal.i IntKind.i64 0)] (.c v7) (.c v53))) fun v54 m_9 =>
      forceI (wr .i64 (x14 + 1)) fun x55 =>
      some (.inl (v54, x55, m_9)))) (
    some (.inr (.inl (v7, m_3))))
abbrev g54_J4 (v7_1 : AVal) (m_10 : Mm) (o : Bool) (m1 : Mm) (t1 : Tr) : Prop :=
  match o with
  | c72 => m_10 = m1 ∧ t1.get 72 = (.b c72) ∧ t1.get 7 = v7_1
def g54 (M : Means) (ro : List ABlk) (v0 : AVal) (v1 : AVal) (m0 : Mm) : Option (AVal × Heap × Nat × Nat) :=
  bindP (stepM ro m0 (.bx 55 3 (.c v0))) fun v2 m_1 =>
  bindP (stepM ro m_1 (.al 96 [(AVal.b false), (AVal.b false), (AVal.b false), (AVal.b false), (AVal.b false), (AVal.b false)])) fun v6 m_2 =>
  bindO (evP .e (.len false (.c v1))) fun v13 =>
  asI .i64 v13 fun x13 =>
  bindO (M.loop (S := AVal × Int × Mm) (R := ((AVal × Mm) ⊕ (AVal × Bool × Mm))) (fun s => g54_b0 M ro v2 v6 v1 x13 s.1 s.2.1 s.2.2) (AVal.nsl, 0, m_2)) fun o_3 => match o_3 with
  | (.inl (v7_1, m_10)) =>
    bindO (evP .e (.len false (.c v7_1))) fun v57 =>
    asI .i64 v57 fun x57 =>
    forceB (ltI x57 2) fun c58 =>
    bindO (cond c58 (
      some true) (
      bindO (evP .e (.len false (.c v7_1))) fun v62 =>
      asI .i64 v62 fun x62 =>
      forceI (wr .i64 (x62 - 1)) fun x63 =>
      bindO (evP .e (.ixS 4 (.c v7_1) (.c (.i .i64 x63)))) fun v64 =>
      bindO (evP .e (.faddr 1 (.c v64))) fun v65 =>
      bindO (ldA ro m_10.h true 1 v65) fun v66 =>
      asI .i64 v66 fun x66 =>
      bindO (evP .e (.ixS 4 (.c v7_1) (.c (.i .i64 0)))) fun v68 =>
      bindO (evP .e (.faddr 0 (.c v68))) fun v69 =>
      bindO (ldA ro m_10.h true 1 v69) fun v70 =>
      asI .i64 v70 fun x70 =>
      forceB (!eqI x66 x70) fun c71 =>
      some c71)) fun c72 =>
    cond c72 (
      finM m0.h.length (tupA [AVal.nsl, (.b false)]) m_10) (
      finM m0.h.length (tupA [v7_1, (.b true)]) m_10)
  | (.inr (v4, c5, m_11)) =>
    finM m0.h.length (tupA [v4, (.b c5)]) m_11

theorem g54_ok {ro : List ABlk} {O : Caller} {M : Means} (hM : M.Ok ⟨F, O⟩ ro) {v0 v1 h r} (ho : O 54 [v0, v1] h = none) (hr : g54 M ro v0 v1 ⟨h, h.length, h.length⟩ = some r) : callX ⟨F, O⟩ ro 54 [v0, v1] h = some r := by
  refine callX_of (F := ⟨F, O⟩) (fn := fn54) (g := g54 M ro v0 v1) ho rfl rfl hr ?_
  clear ho
  clear hr
  intro m0 t0 ht hr
  have g0 : t0.get 0 = v0 := ht 0
  have g1 : t0.get 1 = v1 := ht 1
  clear ht
  unfold g54 at hr
  refine w_seq ?_
  refine w_ops ?_
  have hq := bindP_inv hr
  clear hr
  obtain ⟨v2, m_1, e2, hr⟩ := hq
  refine wo_step (v := v2) (s_bx g0 e2) ?_
  refine wo_step (v := AVal.nsl) (s_pure (p_mv rfl)) ?_
  refine wo_step (v := (.b false)) (s_pure (p_mv rfl)) ?_
  refine wo_nil ?_
  refine nx_norm ?_
  refine w_seq ?_
  refine w_ops ?_
  have hq := bindP_inv hr
  clear hr
  obtain ⟨v6, m_2, e6, hr⟩ := hq
  refine wo_step (v := v6) (s_al e6) ?_
  refine wo_nil ?_
  refine nx_norm ?_
  refine w_seq ?_
  refine w_ops ?_
  refine wo_step (v := AVal.nsl) (s_pure (p_mv rfl)) ?_
  refine wo_nil ?_
  refine nx_norm ?_
  refine w_seq ?_
  refine w_seq ?_
  refine w_ops ?_
  refine wo_step (v := v1) (s_pure (p_mv g1)) ?_
  have hq := bindO_inv hr
  clear hr
  obtain ⟨v13, e13, hr⟩ := hq
  have hq := asI_inv hr
  clear hr
  obtain ⟨x13, rfl, hr⟩ := hq
  refine wo_step (v := (.i .i64 x13)) (s_pure (o_len rfl e13)) ?_
  refine wo_step (v := (.i .i64 0)) (s_pure (p_mv rfl)) ?_
  refine wo_nil ?_
  refine nx_norm ?_
  refine w_block ?_
  have hq := bindO_inv hr
  clear hr
  obtain ⟨o_3, hl, hr⟩ := hq
  obtain ⟨n, hl⟩ := hM.loop _ _ _ hl
  refine jp_mono (w_loop _ (g54_I0 v2 v6 v1 x13) (g54_J0 v2 v6 v1 x13) ?_ n _ _ _ _ hl ⟨rfl, gl rfl, gl rfl, gl rfl, gl rfl, gl rfl, gl rfl⟩) ?_
  · clear hr hl
    intro s mm_2 t_1 o hi hr
    obtain ⟨v7, x14, m_3⟩ := s
    obtain ⟨rfl, g7, g14, g2, g6, g12, g13⟩ := hi
    unfold g54_b0 at hr
    refine w_seq ?_
    refine w_ops ?_
    have hq := forceB_inv hr
    clear hr
    obtain ⟨c15, e15, hr⟩ := hq
    refine wo_step (v := (.b c15)) (s_pure (p_bin g14 g13 (b_lss.trans (cb e15)))) ?_
    refine wo_nil ?_
    refine nx_norm ?_
    refine w_seq ?_
    have hq := cond_inv hr
    clear hr
    rcases hq with ⟨rfl, hr⟩ | ⟨rfl, hr⟩
    · refine w_condT rfl ?_
      refine w_skip ?_
      refine nx_norm ?_
      refine w_seq ?_
      refine w_block ?_
      refine w_seq ?_
      refine w_ops ?_
      refine wo_step (v := (.i .i64 x14)) (s_pure (p_mv g14)) ?_
      have hq := bindO_inv hr
      clear hr
      obtain ⟨v17, e17, hr⟩ := hq
      refine wo_step (v := v17) (s_pure (o_ixS g12 g14 e17)) ?_
      have hq := bindO_inv hr
      clear hr
      obtain ⟨v18, e18, hr⟩ := hq
      have hq := asI_inv hr
      clear hr
      obtain ⟨x18, rfl, hr⟩ := hq
      refine wo_step (v := (.i .i64 x18)) (s_ld rfl e18) ?_
      refine wo_step (v := (.i .i64 x14)) (s_pure (p_mv rfl)) ?_
      refine wo_step (v := (.i .i64 x18)) (s_pure (p_mv rfl)) ?_
      refine wo_nil ?_
      refine nx_norm ?_
      refine w_seq ?_
      refine w_ops ?_
      have hq := bindO_inv hr
      clear hr
      obtain ⟨v20, e20, hr⟩ := hq
      refine wo_step (v := v20) (s_ld g2 e20) ?_
      refine wo_step (v := (.i .i64 x18)) (s_pure (p_mv rfl)) ?_
      have hq := bindP_inv hr
      clear hr
      obtain ⟨v22, m_4, e22, hr⟩ := hq
      refine wo_step (v := v22) (s_call (mc rfl (mc rfl mn)) (callM_le hM.call e22)) ?_
      refine wo_step (v := v22) (s_pure (p_mv rfl)) ?_
      have hq := bindO_inv hr
      clear hr
      obtain ⟨v23, e23, hr⟩ := hq
      refine wo_step (v := v23) (s_pure (o_ext rfl e23)) ?_
      have hq := bindO_inv hr
      clear hr
      obtain ⟨v24, e24, hr⟩ := hq
      have hq := asB_inv hr
      clear hr
      obtain ⟨c24, rfl, hr⟩ := hq
      refine wo_step (v := (.b c24)) (s_pure (o_ext rfl e24)) ?_
      have hq := bindP_inv hr
      clear hr
      obtain ⟨v10, m_5, e10, hr⟩ := hq
      refine wo_step (v := v10) (s_al e10) ?_
      have hq := bindP_inv hr
      clear hr
      obtain ⟨vn, m_6, en, hr⟩ := hq
      refine wo_stepN (s_st rfl rfl en) ?_
      refine wo_step (v := (.b c24)) (s_pure (p_mv rfl)) ?_
      refine wo_nil ?_
      refine nx_norm ?_
      refine w_seq ?_
      refine w_seq ?_
      refine w_any ?_
      refine wa_step (v := (.b c24)) (a_pure (p_mv rfl)) ?_
      have hq := forceB_inv hr
      clear hr
      obtain ⟨c26, e26, hr⟩ := hq
      refine wa_step (v := (.b c26)) (a_pure ((p_not rfl).trans (cb e26))) ?_
      refine wa_step (v := (.b c26)) (a_pure (p_mv rfl)) ?_
      have hq := bindO_inv hr
      clear hr
      obtain ⟨o, hr, hk⟩ := hq
      refine wa_join 5 (JA (g54_J1 v2 v6 v7 x14 v10 v1 x13 m_6 o) m_6 (m_6.h) [] []) ?_ ?_
      · clear hk
        have hq := cond_inv hr
        clear hr
        rcases hq with ⟨rfl, hr⟩ | ⟨rfl, hr⟩
        · refine wa_skip (v := (.b true)) rfl rfl ?_
          refine wa_skip (v := (.b true)) rfl rfl ?_
          refine wa_skip (v := (.b true)) rfl rfl ?_
          refine wa_skip (v := (.b true)) rfl rfl ?_
          refine wa_step (v := (.b true)) (a_pure (p_pickT rfl rfl)) ?_
          refine wa_nil ?_
          cases hr
          exact ja_in ⟨rfl, gl rfl, gl g2, gl g6, gl g7, gl rfl, gl rfl, gl g12, gl g13, gl g14⟩
        · have hq := bindO_inv hr
          clear hr
          obtain ⟨v28, e28, hr⟩ := hq
          refine wa_take (v := v28) rfl (a_pure (o_faddr rfl e28)) ?_
          have hq := bindO_inv hr
          clear hr
          obtain ⟨v29, e29, hr⟩ := hq
          have hq := asI_inv hr
          clear hr
          obtain ⟨x29, rfl, hr⟩ := hq
          refine wa_take (v := (.i .i64 x29)) rfl (a_ld rfl e29) ?_
          have hq := bindO_inv hr
          clear hr
          obtain ⟨v30, e30, hr⟩ := hq
          refine wa_take (v := v30) rfl (a_pure (o_ixA g6 rfl e30)) ?_
          have hq := bindO_inv hr
          clear hr
          obtain ⟨v31, e31, hr⟩ := hq
          have hq := asB_inv hr
          clear hr
          obtain ⟨c31, rfl, hr⟩ := hq
          refine wa_take (v := (.b c31)) rfl (a_ld rfl e31) ?_
          refine wa_step (v := (.b c31)) (a_pure (p_pickF rfl rfl)) ?_
          refine wa_nil ?_
          cases hr
          exact ja_in ⟨rfl, gl rfl, gl g2, gl g6, gl g7, gl rfl, gl rfl, gl g12, gl g13, gl g14⟩
      · clear hr
        have hr := hk
        clear hk
        obtain ⟨c32, ho⟩ : ∃ z, z = o := ⟨_, rfl⟩
        subst ho
        refine ja_out ?_
        rintro t_2 ⟨-, g32, g2, g6, g7, g8, g10, g12, g13, g14⟩
        refine wa_step (v := (.b c32)) (a_pure (p_mv g32)) ?_
        have hq := bindO_inv hr
        clear hr
        obtain ⟨o_1, hr, hk⟩ := hq
        refine wa_join 14 (JA (g54_J2 v2 v6 v7 v10 v1 x13 x14 m_6 o_1) m_6 (m_6.h) [] []) ?_ ?_
        · clear hk
          have hq := cond_inv hr
          clear hr
          rcases hq with ⟨rfl, hr⟩ | ⟨rfl, hr⟩
          · refine wa_skip (v := (.b true)) rfl rfl ?_
            refine wa_skip (v := (.b true)) rfl rfl ?_
            refine wa_skip (v := (.b true)) rfl rfl ?_
            refine wa_skip (v := und) rfl rfl ?_
            refine wa_skip (v := und) rfl rfl ?_
            refine wa_skip (v := und) rfl rfl ?_
            refine wa_skip (v := und) rfl rfl ?_
            refine wa_skip (v := und) rfl rfl ?_
            refine wa_skip (v := und) rfl rfl ?_
            refine wa_skip (v := und) rfl rfl ?_
            refine wa_skip (v := und) rfl rfl ?_
            refine wa_skip (v := und) rfl rfl ?_
            refine wa_skip (v := (.b true)) rfl rfl ?_
            refine wa_step (v := (.b true)) (a_pure (p_pickT rfl rfl)) ?_
            refine wa_nil ?_
            cases hr
            exact ja_in ⟨rfl, gl rfl, gl g2, gl g6, gl g7, gl g10, gl g12, gl g13, gl g14⟩
          · refine wa_take (v := (.i .i64 x14)) rfl (a_pure (p_mv g8)) ?_
            have hq := forceB_inv hr
            clear hr
            obtain ⟨c35, e35, hr⟩ := hq
            refine wa_take (v := (.b c35)) rfl (a_pure (p_bin rfl rfl (b_gtr.trans (cb e35)))) ?_
            refine wa_take (v := (.b c35)) rfl (a_pure (p_mv rfl)) ?_
            have hq := bindO_inv hr
            clear hr
            obtain ⟨o_2, hr, hk⟩ := hq
            refine wa_join 11 (JA (g54_J3 v2 v6 v7 v10 v1 x13 x14 m_6 o_2) m_6 (m_6.h) [] []) ?_ ?_
            · clear hk
              have hq := cond_inv hr
              clear hr
              rcases hq with ⟨rfl, hr⟩ | ⟨rfl, hr⟩
              · have hq := bindO_inv hr
                clear hr
                obtain ⟨v37, e37, hr⟩ := hq
                refine wa_take (v := v37) rfl (a_pure (o_faddr g10 e37)) ?_
                have hq := bindO_inv hr
                clear hr
                obtain ⟨v38, e38, hr⟩ := hq
                have hq := asI_inv hr
                clear hr
                obtain ⟨x38, rfl, hr⟩ := hq
                refine wa_take (v := (.i .i64 x38)) rfl (a_ld rfl e38) ?_
                refine wa_take (v := v7) rfl (a_pure (p_mv g7)) ?_
                refine wa_take (v := (.i .i64 x14)) rfl (a_pure (p_mv g8)) ?_
                have hq := forceI_inv hr
                clear hr
                obtain ⟨x41, e41, hr⟩ := hq
                refine wa_take (v := (.i .i64 x41)) rfl (a_pure (p_bin rfl rfl (b_sub.trans (ci e41)))) ?_
                have hq := bindO_inv hr
                clear hr
                obtain ⟨v42, e42, hr⟩ := hq
                refine wa_take (v := v42) rfl (a_pure (o_ixS rfl rfl e42)) ?_
                have hq := bindO_inv hr
                clear hr
                obtain ⟨v43, e43, hr⟩ := hq
                refine wa_take (v := v43) rfl (a_pure (o_faddr rfl e43)) ?_
                have hq := bindO_inv hr
                clear hr
                obtain ⟨v44, e44, hr⟩ := hq
                have hq := asI_inv hr
                clear hr
                obtain ⟨x44, rfl, hr⟩ := hq
                refine wa_take (v := (.i .i64 x44)) rfl (a_ld rfl e44) ?_
                have hq := forceB_inv hr
                clear hr
                obtain ⟨c45, e45, hr⟩ := hq
                refine wa_take (v := (.b c45)) rfl (a_pure (p_bin rfl rfl (b_neq.trans (cb e45)))) ?_
                refine wa_take (v := (.b c45)) rfl (a_pure (p_pickT rfl rfl)) ?_
                refine wa_step (v := (.b c45)) (a_pure (p_pickF rfl rfl)) ?_
                refine wa_nil ?_
                cases hr
                exact ja_in ⟨rfl, gl rfl, gl g2, gl g6, gl g7, gl g10, gl g12, gl g13, gl g14⟩
              · refine wa_skip (v := (.b false)) rfl rfl ?_
                refine wa_skip (v := (.b false)) rfl rfl ?_
                refine wa_skip (v := (.b false)) rfl rfl ?_
                refine wa_skip (v := (.b false)) rfl rfl ?_
                refine wa_skip (v := (.b false)) rfl rfl ?_
                refine wa_skip (v := (.b false)) rfl rfl ?_
                refine wa_skip (v := (.b false)) rfl rfl ?_
                refine wa_skip (v := (.b false)) rfl rfl ?_
                refine wa_skip (v := (.b false)) rfl rfl ?_
                refine wa_take (v := (.b false)) rfl (a_pure (p_pickF rfl rfl)) ?_
                refine wa_step (v := (.b false)) (a_pure (p_pickF rfl rfl)) ?_
                refine wa_nil ?_
                cases hr
                exact ja_in ⟨rfl, gl rfl, gl g2, gl g6, gl g7, gl g10, gl g12, gl g13, gl g14⟩
            · clear hr
              have hr := hk
              clear hk
              obtain ⟨c47_1, ho⟩ : ∃ z, z = o_2 := ⟨_, rfl⟩
              subst ho
              refine ja_out ?_
              rintro t_3 ⟨-, g47, g2, g6, g7, g10, g12, g13, g14⟩
              refine wa_nil ?_
              cases hr
              exact ja_in ⟨rfl, gl g47, gl g2, gl g6, gl g7, gl g10, gl g12, gl g13, gl g14⟩
        · clear hr
          have hr := hk
          clear hk
          obtain ⟨c47, ho⟩ : ∃ z, z = o_1 := ⟨_, rfl⟩
          subst ho
          refine ja_out ?_
          rintro t_4 ⟨-, g47, g2, g6, g7, g10, g12, g13, g14⟩
          refine wa_nil ?_
          refine ⟨m_6, rfl, ?_⟩
          refine nx_norm ?_
          have hq := cond_inv hr
          clear hr
          rcases hq with ⟨rfl, hr⟩ | ⟨rfl, hr⟩
          · refine w_condT g47 ?_
            refine w_seq ?_
            refine w_ops ?_
            refine wo_step (v := AVal.nsl) (s_pure (p_mv rfl)) ?_
            refine wo_step (v := (.b false)) (s_pure (p_mv rfl)) ?_
            refine wo_nil ?_
            refine nx_norm ?_
            refine w_ret ?_
            refine nx_ret ?_
            refine bk_ret ?_
            refine nx_ret ?_
            cases hr
            exact ⟨_, _, rfl, ne_norm_ret, rfl, rfl, gl rfl, gl rfl⟩
          · refine w_condF g47 ?_
            refine w_skip ?_
            refine nx_norm ?_
            refine w_seq ?_
            refine w_ops ?_
            have hq := bindO_inv hr
            clear hr
            obtain ⟨v48, e48, hr⟩ := hq
            refine wo_step (v := v48) (s_pure (o_faddr g10 e48)) ?_
            have hq := bindO_inv hr
            clear hr
            obtain ⟨v49, e49, hr⟩ := hq
            have hq := asI_inv hr
            clear hr
            obtain ⟨x49, rfl, hr⟩ := hq
            refine wo_step (v := (.i .i64 x49)) (s_ld rfl e49) ?_
            have hq := bindO_inv hr
            clear hr
            obtain ⟨v50, e50, hr⟩ := hq
            refine wo_step (v := v50) (s_pure (o_ixA g6 rfl e50)) ?_
            have hq := bindP_inv hr
            clear hr
            obtain ⟨vn_1, m_7, en_1, hr⟩ := hq
            refine wo_stepN (s_st rfl rfl en_1) ?_
            refine wo_nil ?_
            refine nx_norm ?_
            refine w_ops ?_
            refine wo_step (v := v7) (s_pure (p_mv g7)) ?_
            have hq := bindO_inv hr
            clear hr
            obtain ⟨v52, e52, hr⟩ := hq
            refine wo_step (v := v52) (s_ld g10 e52) ?_
            have hq := bindP_inv hr
            clear hr
            obtain ⟨v53, m_8, e53, hr⟩ := hq
            refine wo_step (v := v53) (s_bsl (qc rfl qn) e53) ?_
            have hq := bindP_inv hr
            clear hr
            obtain ⟨v54, m_9, e54, hr⟩ := hq
            refine wo_step (v := v54) (s_app rfl rfl e54) ?_
            refine wo_step (v := v54) (s_pure (p_mv rfl)) ?_
            refine wo_nil ?_
            refine bk_norm ?_
            refine nx_norm ?_
            refine w_ops ?_
            have hq := forceI_inv hr
            clear hr
            obtain ⟨x55, e55, hr⟩ := hq
            refine wo_step (v := (.i .i64 x55)) (s_pure (p_bin g14 rfl (b_add.trans (ci e55)))) ?_
            refine wo_step (v := (.i .i64 x55)) (s_pure (p_mv rfl)) ?_
            refine wo_nil ?_
            cases hr
            exact ⟨_, _, rfl, rfl, rfl, gl rfl, gl rfl, gl g2, gl g6, gl g12, gl g13⟩
    · refine w_condF rfl ?_
      refine w_exit ?_
      refine nx_exit ?_
      cases hr
      exact ⟨_, _, rfl, ne_norm_exit, rfl, rfl, gl g7⟩
  · rcases o_3 with o_3 | o_3
    · obtain ⟨v7_1, m_10⟩ := o_3
      rintro _ mm t_5 ⟨rfl, rfl, g7⟩
      refine bk_hit ?_
      refine nx_norm ?_
      refine w_seq ?_
      refine w_seq ?_
      refine w_any ?_
      refine wa_step (v := v7_1) (a_pure (p_mv g7)) ?_
      have hq := bindO_inv hr
      clear hr
      obtain ⟨v57, e57, hr⟩ := hq
      have hq := asI_inv hr
      clear hr
      obtain ⟨x57, rfl, hr⟩ := hq
      refine wa_step (v := (.i .i64 x57)) (a_pure (o_len rfl e57)) ?_
      have hq := forceB_inv hr
      clear hr
      obtain ⟨c58, e58, hr⟩ := hq
      refine wa_step (v := (.b c58)) (a_pure (p_bin rfl rfl (b_lss.trans (cb e58)))) ?_
      refine wa_step (v := (.b c58)) (a_pure (p_mv rfl)) ?_
      have hq := bindO_inv hr
      clear hr
      obtain ⟨o_4, hr, hk⟩ := hq
      refine wa_join 13 (JA (g54_J4 v7_1 m_10 o_4) m_10 (m_10.h) [] []) ?_ ?_
      · clear hk
        have hq := cond_inv hr
        clear hr
        rcases hq with ⟨rfl, hr⟩ | ⟨rfl, hr⟩
        · refine wa_skip (v := (.b true)) rfl rfl ?_
          refine wa_skip (v := (.b true)) rfl rfl ?_
          refine wa_skip (v := (.b true)) rfl rfl ?_
          refine wa_skip (v := (.b true)) rfl rfl ?_
          refine wa_skip (v := (.b true)) rfl rfl ?_
          refine wa_skip (v := (.b true)) rfl rfl ?_
          refine wa_skip (v := (.b true)) rfl rfl ?_
          refine wa_skip (v := (.b true)) rfl rfl ?_
          refine wa_skip (v := (.b true)) rfl rfl ?_
          refine wa_skip (v := (.b true)) rfl rfl ?_
          refine wa_skip (v := (.b true)) rfl rfl ?_
          refine wa_skip (v := (.b true)) rfl rfl ?_
          refine wa_step (v := (.b true)) (a_pure (p_pickT rfl rfl)) ?_
          refine wa_nil ?_
          cases hr
          exact ja_in ⟨rfl, gl rfl, gl g7⟩
        · refine wa_take (v := v7_1) rfl (a_pure (p_mv g7)) ?_
          refine wa_take (v := v7_1) rfl (a_pure (p_mv g7)) ?_
          have hq := bindO_inv hr
          clear hr
          obtain ⟨v62, e62, hr⟩ := hq
          have hq := asI_inv hr
          clear hr
          obtain ⟨x62, rfl, hr⟩ := hq
          refine wa_take (v := (.i .i64 x62)) rfl (a_pure (o_len rfl e62)) ?_
          have hq := forceI_inv hr
          clear hr
          obtain ⟨x63, e63, hr⟩ := hq
          refine wa_take (v := (.i .i64 x63)) rfl (a_pure (p_bin rfl rfl (b_sub.trans (ci e63)))) ?_
          have hq := bindO_inv hr
          clear hr
          obtain ⟨v64, e64, hr⟩ := hq
          refine wa_take (v := v64) rfl (a_pure (o_ixS rfl rfl e64)) ?_
          have hq := bindO_inv hr
          clear hr
          obtain ⟨v65, e65, hr⟩ := hq
          refine wa_take (v := v65) rfl (a_pure (o_faddr rfl e65)) ?_
          have hq := bindO_inv hr
          clear hr
          obtain ⟨v66, e66, hr⟩ := hq
          have hq := asI_inv hr
          clear hr
          obtain ⟨x66, rfl, hr⟩ := hq
          refine wa_take (v := (.i .i64 x66)) rfl (a_ld rfl e66) ?_
          refine wa_take (v := v7_1) rfl (a_pure (p_mv g7)) ?_
          have hq := bindO_inv hr
          clear hr
          obtain ⟨v68, e68, hr⟩ := hq
          refine wa_take (v := v68) rfl (a_pure (o_ixS rfl rfl e68)) ?_
          have hq := bindO_inv hr
          clear hr
          obtain ⟨v69, e69, hr⟩ := hq
          refine wa_take (v := v69) rfl (a_pure (o_faddr rfl e69)) ?_
          have hq := bindO_inv hr
          clear hr
          obtain ⟨v70, e70, hr⟩ := hq
          have hq := asI_inv hr
          clear hr
          obtain ⟨x70, rfl, hr⟩ := hq
          refine wa_take (v := (.i .i64 x70)) rfl (a_ld rfl e70) ?_
          have hq := forceB_inv hr
          clear hr
          obtain ⟨c71, e71, hr⟩ := hq
          refine wa_take (v := (.b c71)) rfl (a_pure (p_bin rfl rfl (b_neq.trans (cb e71)))) ?_
          refine wa_step (v := (.b c71)) (a_pure (p_pickF rfl rfl)) ?_
          refine wa_nil ?_
          cases hr
          exact ja_in ⟨rfl, gl rfl, gl g7⟩
      · clear hr
        have hr := hk
        clear hk
        obtain ⟨c72, ho⟩ : ∃ z, z = o_4 := ⟨_, rfl⟩
        subst ho
        refine ja_out ?_
        rintro t_6 ⟨-, g72, g7⟩
        refine wa_nil ?_
        refine ⟨m_10, rfl, ?_⟩
        refine nx_norm ?_
        have hq := cond_inv hr
        clear hr
        rcases hq with ⟨rfl, hr⟩ | ⟨rfl, hr⟩
        · refine w_condT g72 ?_
          refine w_seq ?_
          refine w_ops ?_
          refine wo_step (v := AVal.nsl) (s_pure (p_mv rfl)) ?_
          refine wo_step (v := (.b false)) (s_pure (p_mv rfl)) ?_
          refine wo_nil ?_
          refine nx_norm ?_
          refine w_ret ?_
          refine nx_ret ?_
          exact qf ret_ok (rt rfl (rt rfl rn)) hr
        · refine w_condF g72 ?_
          refine w_skip ?_
          refine nx_norm ?_
          refine w_seq ?_
          refine w_ops ?_
          refine wo_step (v := v7_1) (s_pure (p_mv g7)) ?_
          refine wo_step (v := v7_1) (s_pure (p_mv rfl)) ?_
          refine wo_step (v := (.b true)) (s_pure (p_mv rfl)) ?_
          refine wo_nil ?_
          refine nx_norm ?_
          refine w_ret ?_
          exact qf ret_ok (rt rfl (rt rfl rn)) hr
    · obtain ⟨v4, c5, m_11⟩ := o_3
      rintro _ mm_1 t_7 ⟨rfl, rfl, g4, g5⟩
      refine bk_ret ?_
      refine nx_ret ?_
      exact qf ret_ok (rt g4 (rt g5 rn)) hr

/- (dibber/turn.demands).refuse -/

def g55 (M : Means) (ro : List ABlk) (v0 : AVal) (x1 : Int) (x2 : Int) (m0 : Mm) : Option (AVal × Heap × Nat × Nat) :=
  bindP (stepM ro m0 (.bx 55 3 (.c v0))) fun v3 m_1 =>
  bindO (ldM ro m_1 false 3 v3) fun v8 =>
  bindP (callM M.call m_1 70 [v8, (.i .i64 x2)]) fun v10 m_2 =>
  asI .i64 v10 fun x10 =>
  forceI (wr .i64 (x2 - x10)) fun x11 =>
  forceB (ltI x11 x1) fun c13 =>
  finM m0.h.length (tupA [(.b c13)]) m_2

theorem g55_ok {ro : List ABlk} {O : Caller} {M : Means} (hM : M.Ok ⟨F, O⟩ ro) {v0 x1 x2 h r} (ho : O 55 [v0, (.i .i64 x1), (.i .i64 x2)] h = none) (hr : g55 M ro v0 x1 x2 ⟨h, h.length, h.length⟩ = some r) : callX ⟨F, O⟩ ro 55 [v0, (.i .i64 x1), (.i .i64 x2)] h = some r := by
  refine callX_of (F := ⟨F, O⟩) (fn := fn55) (g := g55 M ro v0 x1 x2) ho rfl rfl hr ?_
  clear ho
  clear hr
  intro m0 t0 ht hr
  have g0 : t0.get 0 = v0 := ht 0
  have g1 : t0.get 1 = (.i .i64 x1) := ht 1
  have g2 : t0.get 2 = (.i .i64 x2) := ht 2
  clear ht
  unfold g55 at hr
  refine w_seq ?_
  refine w_ops ?_
  have hq := bindP_inv hr
  clear hr
  obtain ⟨v3, m_1, e3, hr⟩ := hq
  refine wo_step (v := v3) (s_bx g0 e3) ?_
  refine wo_step (v := (.b false)) (s_pure (p_mv rfl)) ?_
  refine wo_nil ?_
  refine nx_norm ?_
  refine w_seq ?_
  refine w_ops ?_
  refine wo_step (v := (.i .i64 x2)) (s_pure (p_mv g2)) ?_
  have hq := bindO_inv hr
  clear hr
  obtain ⟨v8, e8, hr⟩ := hq
  refine wo_step (v := v8) (s_ld rfl e8) ?_
  refine wo_step (v := (.i .i64 x2)) (s_pure (p_mv g2)) ?_
  have hq := bindP_inv hr
  clear hr
  obtain ⟨v10, m_2, e10, hr⟩ := hq
  have hq := asI_inv hr
  clear hr
  obtain ⟨x10, rfl, hr⟩ := hq
  refine wo_step (v := (.i .i64 x10)) (s_call (mc rfl (mc rfl mn)) (callM_le hM.call e10)) ?_
  have hq := forceI_inv hr
  clear hr
  obtain ⟨x11, e11, hr⟩ := hq
  refine wo_step (v := (.i .i64 x11)) (s_pure (p_bin rfl rfl (b_sub.trans (ci e11)))) ?_
  refine wo_step (v := (.i .i64 x1)) (s_pure (p_mv g1)) ?_
  have hq := forceB_inv hr
  clear hr
  obtain ⟨c13, e13, hr⟩ := hq
  refine wo_step (v := (.b c13)) (s_pure (p_bin rfl rfl (b_lss.trans (cb e13)))) ?_
  refine wo_step (v := (.b c13)) (s_pure (p_mv rfl)) ?_
  refine wo_nil ?_
  refine nx_norm ?_
  refine w_ret ?_
  exact qf ret_ok (rt rfl rn) hr

/- (dibber/turn.demands).allows -/
abbrev g60_J0 (v2 : AVal) (v3 : AVal) (m_2 : Mm) (o : Bool) (m1 : Mm) (t1 : Tr) : Prop :=
  match o with
  | c17 => m_2 = m1 ∧ t1.get 17 = (.b c17) ∧ t1.get 2 = v2 ∧ t1.get 3 = v3
abbrev g60_J1 (v2 : AVal) (v3 : AVal) (m_2 : Mm) (o : Bool) (m1 : Mm) (t1 : Tr) : Prop :=
  match o with
  | c27 => m_2 = m1 ∧ t1.get 27 = (.b c27) ∧ t1.get 2 = v2 ∧ t1.get 3 = v3
abbrev g60_J2 (v2 : AVal) (v3 : AVal) (m_2 : Mm) (o : Bool) (m1 : Mm) (t1 : Tr) : Prop :=
  match o with
  | c35 => m_2 = m1 ∧ t1.get 35 = (.b c35) ∧ t1.get 2 = v2 ∧ t1.get 3 = v3
abbrev g60_J3 (m_2 : Mm) (o : Bool) (m1 : Mm) (t1 : Tr) : Prop :=
  match o with
  | c51 => m_2 = m1 ∧ t1.get 51 = (.b c51)
def g60 (M : Means) (ro : List ABlk) (v0 : AVal) (v1 : AVal) (m0 : Mm) : Option (AVal × Heap × Nat × Nat) :=
  bindP (stepM ro m0 (.bx 55 3 (.c v0))) fun v2 m_1 =>
  bindP (stepM ro m_1 (.bx 31 4 (.c v1))) fun v3 m_2 =>
  bindO (evP .e (.faddr 0 (.c v3))) fun v5 =>
  bindO (ldM ro m_2 true 1 v5) fun v6 =>
  asI .i64 v6 fun x6 =>
  bindO (evP .e (.faddr 1 (.c v3))) fun v7 =>
  bindO (ldM ro m_2 true 1 v7) fun v8 =>
  asI .i64 v8 fun x8 =>
  forceB (eqI x6 x8) fun c9 =>
  bindO (cond c9 (
    some true) (
    bindO (evP .e (.faddr 0 (.c v3))) fun v11 =>
    bindO (ldM ro m_2 true 1 v11) fun v12 =>
    asI .i64 v12 fun x12 =>
    bindO (evP .e (.faddr 1 (.c v3))) fun v13 =>
    bindO (ldM ro m_2 true 1 v13) fun v14 =>
    asI .i64 v14 fun x14 =>
    forceI (mxV false x12 x14) fun x15 =>
    forceB (ltI x15 0) fun c16 =>
    some c16)) fun c17 =>
  bindO (cond c17 (
    some true) (
    bindO (evP .e (.faddr 0 (.c v3))) fun v19 =>
    bindO (ldM ro m_2 true 1 v19) fun v20 =>
    asI .i64 v20 fun x20 =>
    bindO (evP .e (.faddr 1 (.c v3))) fun v21 =>
    bindO (ldM ro m_2 true 1 v21) fun v22 =>
    asI .i64 v22 fun x22 =>
    forceI (mxV true x20 x22) fun x23 =>
    bindO (evP .e (.faddr 1 (.c v2))) fun v24 =>
    bindO (ldM ro m_2 true 1 v24) fun v25 =>
    asI .i64 v25 fun x25 =>
    forceB (!ltI x23 x25) fun c26 =>
    some c26)) fun c27 =>
  cond c27 (
    finM m0.h.length (tupA [(.b false)]) m_2) (
    bindO (evP .e (.faddr 2 (.c v3))) fun v28 =>
    bindO (ldM ro m_2 true 1 v28) fun v29 =>
    asI .i64 v29 fun x29 =>
    forceB (ltI x29 (-600)) fun c30 =>
    bindO (cond c30 (
      some true) (
      bindO (evP .e (.faddr 2 (.c v3))) fun v32 =>
      bindO (ldM ro m_2 true 1 v32) fun v33 =>
      asI .i64 v33 fun x33 =>
      forceB (ltI 600 x33) fun c34 =>
      some c34)) fun c35 =>
    cond c35 (
      finM m0.h.length (tupA [(.b false)]) m_2) (
      bindO (evP .e (.faddr 3 (.c v3))) fun v36 =>
      bindO (ldM ro m_2 true 1 v36) fun v37 =>
      asI .i64 v37 fun x37 =>
      bindO (evP .e (.faddr 2 (.c v3))) fun v38 =>
      bindO (ldM ro m_2 true 1 v38) fun v39 =>
      asI .i64 v39 fun x39 =>
      forceB (!ltI x37 x39) fun c40 =>
      bindO (cond c40 (
        bindO (evP .e (.faddr 3 (.c v3))) fun v42 =>
        bindO (ldM ro m_2 true 1 v42) fun v43 =>
        asI .i64 v43 fun x43 =>
        bindO (evP .e (.faddr 2 (.c v3))) fun v44 =>
        bindO (ldM ro m_2 true 1 v44) fun v45 =>
        asI .i64 v45 fun x45 =>
        bindO (evP .e (.faddr 0 (.c v2))) fun v46 =>
        bindO (ldM ro m_2 true 1 v46) fun v47 =>
        asI .i64 v47 fun x47 =>
        forceI (wr .i64 (x45 + x47)) fun x48 =>
        forceI (wr .i64 (x48 - 1)) fun x49 =>
        forceB (!ltI x49 x43) fun c50 =>
        some c50) (
        some false)) fun c51 =>
      finM m0.h.length (tupA [(.b c51)]) m_2))

theorem g60_ok {ro : List ABlk} {O : Caller} {M : Means} (hM : M.Ok ⟨F, O⟩ ro) {v0 v1 h r} (ho : O 60 [v0, v1] h = none) (hr : g60 M ro v0 v1 ⟨h, h.length, h.length⟩ = some r) : callX ⟨F, O⟩ ro 60 [v0, v1] h = some r := by
  refine callX_of (F := ⟨F, O⟩) (fn := fn60) (g := g60 M ro v0 v1) ho rfl rfl hr ?_
  clear ho
  clear hr
  intro m0 t0 ht hr
  have g0 : t0.get 0 = v0 := ht 0
  have g1 : t0.get 1 = v1 := ht 1
  clear ht
  unfold g60 at hr
  refine w_seq ?_
  refine w_ops ?_
  have hq := bindP_inv hr
  clear hr
  obtain ⟨v2, m_1, e2, hr⟩ := hq
  refine wo_step (v := v2) (s_bx g0 e2) ?_
  have hq := bindP_inv hr
  clear hr
  obtain ⟨v3, m_2, e3, hr⟩ := hq
  refine wo_step (v := v3) (s_bx g1 e3) ?_
  refine wo_step (v := (.b false)) (s_pure (p_mv rfl)) ?_
  refine wo_nil ?_
  refine nx_norm ?_
  refine w_seq ?_
  refine w_seq ?_
  refine w_ops ?_
  have hq := bindO_inv hr
  clear hr
  obtain ⟨v5, e5, hr⟩ := hq
  refine wo_step (v := v5) (s_pure (o_faddr rfl e5)) ?_
  have hq := bindO_inv hr
  clear hr
  obtain ⟨v6, e6, hr⟩ := hq
  have hq := asI_inv hr
  clear hr
  obtain ⟨x6, rfl, hr⟩ := hq
  refine wo_step (v := (.i .i64 x6)) (s_ld rfl e6) ?_
  have hq := bindO_inv hr
  clear hr
  obtain ⟨v7, e7, hr⟩ := hq
  refine wo_step (v := v7) (s_pure (o_faddr rfl e7)) ?_
  have hq := bindO_inv hr
  clear hr
  obtain ⟨v8, e8, hr⟩ := hq
  have hq := asI_inv hr
  clear hr
  obtain ⟨x8, rfl, hr⟩ := hq
  refine wo_step (v := (.i .i64 x8)) (s_ld rfl e8) ?_
  have hq := forceB_inv hr
  clear hr
  obtain ⟨c9, e9, hr⟩ := hq
  refine wo_step (v := (.b c9)) (s_pure (p_bin rfl rfl (b_eql.trans (cb e9)))) ?_
  refine wo_step (v := (.b c9)) (s_pure (p_mv rfl)) ?_
  have hq := bindO_inv hr
  clear hr
  obtain ⟨o, hr, hk⟩ := hq
  refine wo_join 7 (g60_J0 v2 v3 m_2 o) ?_ ?_
  · clear hk
    have hq := cond_inv hr
    clear hr
    rcases hq with ⟨rfl, hr⟩ | ⟨rfl, hr⟩
    · refine wo_skip (v := (.b true)) rfl rfl ?_
      refine wo_skip (v := (.b true)) rfl rfl ?_
      refine wo_skip (v := (.b true)) rfl rfl ?_
      refine wo_skip (v := (.b true)) rfl rfl ?_
      refine wo_skip (v := (.b true)) rfl rfl ?_
      refine wo_skip (v := (.b true)) rfl rfl ?_
      refine wo_step (v := (.b true)) (s_pure (p_pickT rfl rfl)) ?_
      refine wo_nil ?_
      cases hr
      exact ⟨_, _, rfl, rfl, gl rfl, gl rfl, gl rfl⟩
    · have hq := bindO_inv hr
      clear hr
      obtain ⟨v11, e11, hr⟩ := hq
      refine wo_take (v := v11) rfl (s_pure (o_faddr rfl e11)) ?_
      have hq := bindO_inv hr
      clear hr
      obtain ⟨v12, e12, hr⟩ := hq
      have hq := asI_inv hr
      clear hr
      obtain ⟨x12, rfl, hr⟩ := hq
      refine wo_take (v := (.i .i64 x12)) rfl (s_ld rfl e12) ?_
      have hq := bindO_inv hr
      clear hr
      obtain ⟨v13, e13, hr⟩ := hq
      refine wo_take (v := v13) rfl (s_pure (o_faddr rfl e13)) ?_
      have hq := bindO_inv hr
      clear hr
      obtain ⟨v14, e14, hr⟩ := hq
      have hq := asI_inv hr
      clear hr
      obtain ⟨x14, rfl, hr⟩ := hq
      refine wo_take (v := (.i .i64 x14)) rfl (s_ld rfl e14) ?_
      have hq := forceI_inv hr
      clear hr
      obtain ⟨x15, e15, hr⟩ := hq
      refine wo_take (v := (.i .i64 x15)) rfl (s_pure ((p_mx rfl rfl).trans (ci e15))) ?_
      have hq := forceB_inv hr
      clear hr
      obtain ⟨c16, e16, hr⟩ := hq
      refine wo_take (v := (.b c16)) rfl (s_pure (p_bin rfl rfl (b_lss.trans (cb e16)))) ?_
      refine wo_step (v := (.b c16)) (s_pure (p_pickF rfl rfl)) ?_
      refine wo_nil ?_
      cases hr
      exact ⟨_, _, rfl, rfl, gl rfl, gl rfl, gl rfl⟩
  · clear hr
    have hr := hk
    clear hk
    obtain ⟨c17, ho⟩ : ∃ z, z = o := ⟨_, rfl⟩
    subst ho
    rintro mm t_1 ⟨rfl, g17, g2, g3⟩
    refine wo_step (v := (.b c17)) (s_pure (p_mv g17)) ?_
    have hq := bindO_inv hr
    clear hr
    obtain ⟨o_1, hr, hk⟩ := hq
    refine wo_join 9 (g60_J1 v2 v3 m_2 o_1) ?_ ?_
    · clear hk
      have hq := cond_inv hr
      clear hr
      rcases hq with ⟨rfl, hr⟩ | ⟨rfl, hr⟩
      · refine wo_skip (v := (.b true)) rfl rfl ?_
        refine wo_skip (v := (.b true)) rfl rfl ?_
        refine wo_skip (v := (.b true)) rfl rfl ?_
        refine wo_skip (v := (.b true)) rfl rfl ?_
        refine wo_skip (v := (.b true)) rfl rfl ?_
        refine wo_skip (v := (.b true)) rfl rfl ?_
        refine wo_skip (v := (.b true)) rfl rfl ?_
        refine wo_skip (v := (.b true)) rfl rfl ?_
        refine wo_step (v := (.b true)) (s_pure (p_pickT rfl rfl)) ?_
        refine wo_nil ?_
        cases hr
        exact ⟨_, _, rfl, rfl, gl rfl, gl g2, gl g3⟩
      · have hq := bindO_inv hr
        clear hr
        obtain ⟨v19, e19, hr⟩ := hq
        refine wo_take (v := v19) rfl (s_pure (o_faddr g3 e19)) ?_
        have hq := bindO_inv hr
        clear hr
        obtain ⟨v20, e20, hr⟩ := hq
        have hq := asI_inv hr
        clear hr
        obtain ⟨x20, rfl, hr⟩ := hq
        refine wo_take (v := (.i .i64 x20)) rfl (s_ld rfl e20) ?_
        have hq := bindO_inv hr
        clear hr
        obtain ⟨v21, e21, hr⟩ := hq
        refine wo_take (v := v21) rfl (s_pure (o_faddr g3 e21)) ?_
        have hq := bindO_inv hr
        clear hr
        obtain ⟨v22, e22, hr⟩ := hq
        have hq := asI_inv hr
        clear hr
        obtain ⟨x22, rfl, hr⟩ := hq
        refine wo_take (v := (.i .i64 x22)) rfl (s_ld rfl e22) ?_
        have hq := forceI_inv hr
        clear hr
        obtain ⟨x23, e23, hr⟩ := hq
        refine wo_take (v := (.i .i64 x23)) rfl (s_pure ((p_mx rfl rfl).trans (ci e23))) ?_
        have hq := bindO_inv hr
        clear hr
        obtain ⟨v24, e24, hr⟩ := hq
        refine wo_take (v := v24) rfl (s_pure (o_faddr g2 e24)) ?_
        have hq := bindO_inv hr
        clear hr
        obtain ⟨v25, e25, hr⟩ := hq
        have hq := asI_inv hr
        clear hr
        obtain ⟨x25, rfl, hr⟩ := hq
        refine wo_take (v := (.i .i64 x25)) rfl (s_ld rfl e25) ?_
        have hq := forceB_inv hr
        clear hr
        obtain ⟨c26, e26, hr⟩ := hq
        refine wo_take (v := (.b c26)) rfl (s_pure (p_bin rfl rfl (b_geq.trans (cb e26)))) ?_
        refine wo_step (v := (.b c26)) (s_pure (p_pickF rfl rfl)) ?_
        refine wo_nil ?_
        cases hr
        exact ⟨_, _, rfl, rfl, gl rfl, gl g2, gl g3⟩
    · clear hr
      have hr := hk
      clear hk
      obtain ⟨c27, ho⟩ : ∃ z, z = o_1 := ⟨_, rfl⟩
      subst ho
      rintro mm_1 t_2 ⟨rfl, g27, g2, g3⟩
      refine wo_nil ?_
      refine nx_norm ?_
      have hq := cond_inv hr
      clear hr
      rcases hq with ⟨rfl, hr⟩ | ⟨rfl, hr⟩
      · refine w_condT g27 ?_
        refine w_seq ?_
        refine w_ops ?_
        refine wo_step (v := (.b false)) (s_pure (p_mv rfl)) ?_
        refine wo_nil ?_
        refine nx_norm ?_
        refine w_ret ?_
        refine nx_ret ?_
        exact qf ret_ok (rt rfl rn) hr
      · refine w_condF g27 ?_
        refine w_skip ?_
        refine nx_norm ?_
        refine w_seq ?_
        refine w_seq ?_
        refine w_ops ?_
        have hq := bindO_inv hr
        clear hr
        obtain ⟨v28, e28, hr⟩ := hq
        refine wo_step (v := v28) (s_pure (o_faddr g3 e28)) ?_
        have hq := bindO_inv hr
        clear hr
        obtain ⟨v29, e29, hr⟩ := hq
        have hq := asI_inv hr
        clear hr
        obtain ⟨x29, rfl, hr⟩ := hq
        refine wo_step (v := (.i .i64 x29)) (s_ld rfl e29) ?_
        have hq := forceB_inv hr
        clear hr
        obtain ⟨c30, e30, hr⟩ := hq
        refine wo_step (v := (.b c30)) (s_pure (p_bin rfl rfl (b_lss.trans (cb e30)))) ?_
        refine wo_step (v := (.b c30)) (s_pure (p_mv rfl)) ?_
        have hq := bindO_inv hr
        clear hr
        obtain ⟨o_2, hr, hk⟩ := hq
        refine wo_join 4 (g60_J2 v2 v3 m_2 o_2) ?_ ?_
        · clear hk
          have hq := cond_inv hr
          clear hr
          rcases hq with ⟨rfl, hr⟩ | ⟨rfl, hr⟩
          · refine wo_skip (v := (.b true)) rfl rfl ?_
            refine wo_skip (v := (.b true)) rfl rfl ?_
            refine wo_skip (v := (.b true)) rfl rfl ?_
            refine wo_step (v := (.b true)) (s_pure (p_pickT rfl rfl)) ?_
            refine wo_nil ?_
            cases hr
            exact ⟨_, _, rfl, rfl, gl rfl, gl g2, gl g3⟩
          · have hq := bindO_inv hr
            clear hr
            obtain ⟨v32, e32, hr⟩ := hq
            refine wo_take (v := v32) rfl (s_pure (o_faddr g3 e32)) ?_
            have hq := bindO_inv hr
            clear hr
            obtain ⟨v33, e33, hr⟩ := hq
            have hq := asI_inv hr
            clear hr
            obtain ⟨x33, rfl, hr⟩ := hq
            refine wo_take (v := (.i .i64 x33)) rfl (s_ld rfl e33) ?_
            have hq := forceB_inv hr
            clear hr
            obtain ⟨c34, e34, hr⟩ := hq
            refine wo_take (v := (.b c34)) rfl (s_pure (p_bin rfl rfl (b_gtr.trans (cb e34)))) ?_
            refine wo_step (v := (.b c34)) (s_pure (p_pickF rfl rfl)) ?_
            refine wo_nil ?_
            cases hr
            exact ⟨_, _, rfl, rfl, gl rfl, gl g2, gl g3⟩
        · clear hr
          have hr := hk
          clear hk
          obtain ⟨c35, ho⟩ : ∃ z, z = o_2 := ⟨_, rfl⟩
          subst ho
          rintro mm_2 t_3 ⟨rfl, g35, g2, g3⟩
          refine wo_nil ?_
          refine nx_norm ?_
          have hq := cond_inv hr
          clear hr
          rcases hq with ⟨rfl, hr⟩ | ⟨rfl, hr⟩
          · refine w_condT g35 ?_
            refine w_seq ?_
            refine w_ops ?_
            refine wo_step (v := (.b false)) (s_pure (p_mv rfl)) ?_
            refine wo_nil ?_
            refine nx_norm ?_
            refine w_ret ?_
            refine nx_ret ?_
            exact qf ret_ok (rt rfl rn) hr
          · refine w_condF g35 ?_
            refine w_skip ?_
            refine nx_norm ?_
            refine w_seq ?_
            refine w_ops ?_
            have hq := bindO_inv hr
            clear hr
            obtain ⟨v36, e36, hr⟩ := hq
            refine wo_step (v := v36) (s_pure (o_faddr g3 e36)) ?_
            have hq := bindO_inv hr
            clear hr
            obtain ⟨v37, e37, hr⟩ := hq
            have hq := asI_inv hr
            clear hr
            obtain ⟨x37, rfl, hr⟩ := hq
            refine wo_step (v := (.i .i64 x37)) (s_ld rfl e37) ?_
            have hq := bindO_inv hr
            clear hr
            obtain ⟨v38, e38, hr⟩ := hq
            refine wo_step (v := v38) (s_pure (o_faddr g3 e38)) ?_
            have hq := bindO_inv hr
            clear hr
            obtain ⟨v39, e39, hr⟩ := hq
            have hq := asI_inv hr
            clear hr
            obtain ⟨x39, rfl, hr⟩ := hq
            refine wo_step (v := (.i .i64 x39)) (s_ld rfl e39) ?_
            have hq := forceB_inv hr
            clear hr
            obtain ⟨c40, e40, hr⟩ := hq
            refine wo_step (v := (.b c40)) (s_pure (p_bin rfl rfl (b_geq.trans (cb e40)))) ?_
            refine wo_step (v := (.b c40)) (s_pure (p_mv rfl)) ?_
            have hq := bindO_inv hr
            clear hr
            obtain ⟨o_3, hr, hk⟩ := hq
            refine wo_join 10 (g60_J3 m_2 o_3) ?_ ?_
            · clear hk
              have hq := cond_inv hr
              clear hr
              rcases hq with ⟨rfl, hr⟩ | ⟨rfl, hr⟩
              · have hq := bindO_inv hr
                clear hr
                obtain ⟨v42, e42, hr⟩ := hq
                refine wo_take (v := v42) rfl (s_pure (o_faddr g3 e42)) ?_
                have hq := bindO_inv hr
                clear hr
                obtain ⟨v43, e43, hr⟩ := hq
                have hq := asI_inv hr
                clear hr
                obtain ⟨x43, rfl, hr⟩ := hq
                refine wo_take (v := (.i .i64 x43)) rfl (s_ld rfl e43) ?_
                have hq := bindO_inv hr
                clear hr
                obtain ⟨v44, e44, hr⟩ := hq
                refine wo_take (v := v44) rfl (s_pure (o_faddr g3 e44)) ?_
                have hq := bindO_inv hr
                clear hr
                obtain ⟨v45, e45, hr⟩ := hq
                have hq := asI_inv hr
                clear hr
                obtain ⟨x45, rfl, hr⟩ := hq
                refine wo_take (v := (.i .i64 x45)) rfl (s_ld rfl e45) ?_
                have hq := bindO_inv hr
                clear hr
                obtain ⟨v46, e46, hr⟩ := hq
                refine wo_take (v := v46) rfl (s_pure (o_faddr g2 e46)) ?_
                have hq := bindO_inv hr
                clear hr
                obtain ⟨v47, e47, hr⟩ := hq
                have hq := asI_inv hr
                clear hr
                obtain ⟨x47, rfl, hr⟩ := hq
                refine wo_take (v := (.i .i64 x47)) rfl (s_ld rfl e47) ?_
                have hq := forceI_inv hr
                clear hr
                obtain ⟨x48, e48, hr⟩ := hq
                refine wo_take (v := (.i .i64 x48)) rfl (s_pure (p_bin rfl rfl (b_add.trans (ci e48)))) ?_
                have hq := forceI_inv hr
                clear hr
                obtain ⟨x49, e49, hr⟩ := hq
                refine wo_take (v := (.i .i64 x49)) rfl (s_pure (p_bin rfl rfl (b_sub.trans (ci e49)))) ?_
                have hq := forceB_inv hr
                clear hr
                obtain ⟨c50, e50, hr⟩ := hq
                refine wo_take (v := (.b c50)) rfl (s_pure (p_bin rfl rfl (b_leq.trans (cb e50)))) ?_
                refine wo_step (v := (.b c50)) (s_pure (p_pickT rfl rfl)) ?_
                refine wo_nil ?_
                cases hr
                exact ⟨_, _, rfl, rfl, gl rfl⟩
              · refine wo_skip (v := (.b false)) rfl rfl ?_
                refine wo_skip (v := (.b false)) rfl rfl ?_
                refine wo_skip (v := (.b false)) rfl rfl ?_
                refine wo_skip (v := (.b false)) rfl rfl ?_
                refine wo_skip (v := (.b false)) rfl rfl ?_
                refine wo_skip (v := (.b false)) rfl rfl ?_
                refine wo_skip (v := (.b false)) rfl rfl ?_
                refine wo_skip (v := (.b false)) rfl rfl ?_
                refine wo_skip (v := (.b false)) rfl rfl ?_
                refine wo_step (v := (.b false)) (s_pure (p_pickF rfl rfl)) ?_
                refine wo_nil ?_
                cases hr
                exact ⟨_, _, rfl, rfl, gl rfl⟩
            · clear hr
              have hr := hk
              clear hk
              obtain ⟨c51, ho⟩ : ∃ z, z = o_3 := ⟨_, rfl⟩
              subst ho
              rintro mm_3 t_4 ⟨rfl, g51⟩
              refine wo_step (v := (.b c51)) (s_pure (p_mv g51)) ?_
              refine wo_nil ?_
              refine nx_norm ?_
              refine w_ret ?_
              exact qf ret_ok (rt rfl rn) hr

/- (dibber/turn.demands).plans-1 -/
abbrev g61_I0 (v0 : AVal) (v1 : AVal) (v3 : AVal) (v11 : AVal) (v14 : AVal) (s : Int × Mm) (m1 : Mm) (t1 : Tr) : Prop :=
  match s with
  | (x6, m_7) => m_7 = m1 ∧ t1.get 6 = (.i .i64 x6) ∧ t1.get 0 = v0 ∧ t1.get 1 = v1 ∧ t1.get 3 = v3 ∧ t1.get 4 = v11 ∧ t1.get 5 = v14
abbrev g61_J0 (v0 : AVal) (v1 : AVal) (v3 : AVal) (v11 : AVal) (v14 : AVal) (o : (Mm ⊕ Mm)) (e : AExit) (m1 : Mm) (t1 : Tr) : Prop :=
  match o with
  | (.inl mo) => e = (.exit 0) ∧ mo = m1
  | (.inr mo) => e = .ret ∧ mo = m1
abbrev g61_J1 (v0 : AVal) (v1 : AVal) (v3 : AVal) (v11 : AVal) (v14 : AVal) (o : ((Int × Mm) ⊕ Mm)) (e : AExit) (m1 : Mm) (t1 : Tr) : Prop :=
  match o with
  | (.inl (y6, mo)) => e = .norm ∧ mo = m1 ∧ t1.get 6 = (.i .i64 y6) ∧ t1.get 0 = v0 ∧ t1.get 1 = v1 ∧ t1.get 3 = v3 ∧ t1.get 4 = v11 ∧ t1.get 5 = v14
  | (.inr mo) => e = .ret ∧ mo = m1
abbrev g61_I2 (v0 : AVal) (v1 : AVal) (v3 : AVal) (v11 : AVal) (v14 : AVal) (s : Int × Mm) (m1 : Mm) (t1 : Tr) : Prop :=
  match s with
  | (x6_1, m_8) => m_8 = m1 ∧ t1.get 6 = (.i .i64 x6_1) ∧ t1.get 0 = v0 ∧ t1.get 1 = v1 ∧ t1.get 3 = v3 ∧ t1.get 4 = v11 ∧ t1.get 5 = v14
abbrev g61_J2 (v0 : AVal) (v1 : AVal) (v3 : AVal) (v11 : AVal) (v14 : AVal) (o : ((Int × Mm) ⊕ ((Int × Mm) ⊕ Mm))) (e : AExit) (m1 : Mm) (t1 : Tr) : Prop :=
  match o with
  | (.inl (y6, mo)) => e = (.exit 1) ∧ mo = m1 ∧ t1.get 6 = (.i .i64 y6) ∧ t1.get 0 = v0 ∧ t1.get 1 = v1 ∧ t1.get 3 = v3 ∧ t1.get 4 = v11 ∧ t1.get 5 = v14
  | (.inr (.inl (y6, mo))) => e = (.exit 2) ∧ mo = m1 ∧ t1.get 6 = (.i .i64 y6) ∧ t1.get 0 = v0 ∧ t1.get 1 = v1 ∧ t1.get 3 = v3 ∧ t1.get 4 = v11 ∧ t1.get 5 = v14
  | (.inr (.inr mo)) => e = .ret ∧ mo = m1
def g61_b2 (M : Means) (ro : List ABlk) (v0 : AVal) (v1 : AVal) (v3 : AVal) (v11 : AVal) (v14 : AVal) (x6_1 : Int) (m_8 : Mm) : Option ((Int × Mm) ⊕ (((Int × Mm) ⊕ ((Int × Mm) ⊕ Mm)))) :=
  bindO (evP .e (.ixS 1 (.c v14) (.c (.i .i64 x6_1)))) fun v21 =>
  bindO (ldM ro m_8 true 1 v21) fun v22 =>
  asI .u32 v22 fun x22 =>
  forceB (!eqI x22 0) fun c23 =>
  cond c23 (
    bindO (evP .e (.ixS 1 (.c v14) (.c (.i .i64 x6_1)))) fun v28 =>
    bindO (ldM ro m_8 true 1 v28) fun v29 =>
    asI .u32 v29 fun x29 =>
    bindP (callM M.call m_8 63 [(.i .u32 x29)]) fun v30 m_9 =>
    asI .i64 v30 fun x30 =>
    bindO (evP .e (.ixS 1 (.c v11) (.c (.i .i64 x6_1)))) fun v31 =>
    bindP (stepM ro m_9 (.st 1 (.c v31) (.c (.i .i64 x30)))) fun vn_2 m_10 =>
    bindO (evP .e (.ixS 1 (.c v14) (.c (.i .i64 x6_1)))) fun v36 =>
    bindO (ldM ro m_10 true 1 v36) fun v37 =>
    asI .u32 v37 fun x37 =>
    bindP (callM M.call m_10 64 [(.i .u32 x37)]) fun v38 m_11 =>
    asI .u32 v38 fun x38 =>
    bindO (evP .e (.ixS 1 (.c v14) (.c (.i .i64 x6_1)))) fun v39 =>
    bindP (stepM ro m_11 (.st 1 (.c v39) (.c (.i .u32 x38)))) fun vn_3 m_12 =>
    forceI (wr .i64 (x6_1 + 1)) fun x41 =>
    bindO (evP .e (.faddr 1 (.c v1))) fun v42 =>
    bindO (ldM ro m_12 true 1 v42) fun v43 =>
    asI .i64 v43 fun x43 =>
    forceB (ltI x41 x43) fun c44 =>
    cond c44 (
      forceI (wr .i64 (x6_1 + 1)) fun x46 =>
      bindO (ldA ro m_12.h false 3 v1) fun v49 =>
      bindO (ldA ro m_12.h false 36 v3) fun v50 =>
      bindO (evP .e (.slS 1 (.c v11) none (some (.c (.i .i64 x46))) none)) fun v53 =>
      bindO (callN M.call m_12.h 65 [v49, v50, v53]) fun v54 =>
      asI .u32 v54 fun x54 =>
      bindO (evP .e (.ixS 1 (.c v14) (.c (.i .i64 x46)))) fun v55 =>
      asP v55 fun qs =>
      bindO (writesM ro [] [(qs, AVal.cells (.i .u32 x54))] ⟨m_12.h, m_12.lw, m_12.lp⟩) fun m_13 =>
      some (.inr (.inl (x46, m_13)))) (
      bindP (callyM M.call M.round m_12 v0 [v11]) fun v58 m_14 =>
      asB v58 fun c58 =>
      forceB (!c58) fun c59 =>
      cond c59 (
        some (.inr (.inr (.inr m_14)))) (
        some (.inl (x6_1, m_14))))) (
    some (.inr (.inr (.inl (x6_1, m_8)))))
def g61_b0 (M : Means) (ro : List ABlk) (v0 : AVal) (v1 : AVal) (v3 : AVal) (v11 : AVal) (v14 : AVal) (x6 : Int) (m_7 : Mm) : Option ((Int × Mm) ⊕ ((Mm ⊕ Mm))) :=
  forceB (!ltI x6 0) fun c18 =>
  cond c18 (
    bindO (α := ((Int × Mm) ⊕ Mm)) (
      bindO (M.loop (S := Int × Mm) (R := ((Int × Mm) ⊕ ((Int × Mm) ⊕ Mm))) (fun s => g61_b2 M ro v0 v1 v3 v11 v14 s.1 s.2) (x6, m_7)) fun o_1 => match o_1 with
      | (.inl (x6_2, m_15)) =>
        some (.inl (x6_2, m_15))
      | (.inr (.inl (x6_3, m_16))) =>
        forceI (wr .i64 (x6_3 - 1)) fun x61 =>
        some (.inl (x61, m_16))
      | (.inr (.inr m_17)) =>
        some (.inr m_17)) fun o => match o with
    | (.inl (x6_4, m_18)) =>
      some (.inl (x6_4, m_18))
    | (.inr m_19) =>
      some (.inr (.inr m_19))) (
    some (.inr (.inl m_7)))
def g61 (M : Means) (ro : List ABlk) (v0 : AVal) (v1 : AVal) (m0 : Mm) : Option (AVal × Heap × Nat × Nat) :=
  bindO (ldM ro m0 false 3 v1) fun v7 =>
  bindP (callM M.call m0 62 [v7]) fun v8 m_1 =>
  bindP (stepM ro m_1 (.al 84 [(AVal.i IntKind.u32 0), (AVal.i IntKind.u32 0), (AVal.i IntKind.u32 0), (AVal.i IntKind.u32 0), (AVal.i IntKind.u32 0), (AVal.i IntKind.u32 0), (AVal.i IntKind.u32 0), (AVal.i IntKind.u32 0), (AVal.i IntKind.u32 0), (AVal.i IntKind.u32 0), (AVal.i IntKind.u32 0), (AVal.i IntKind.u32 0), (AVal.i IntKind.u32 0), (AVal.i IntKind.u32 0), (AVal.i IntKind.u32 0), (AVal.i IntKind.u32 0), (AVal.i IntKind.u32 0), (AVal.i IntKind.u32 0), (AVal.i IntKind.u32 0), (AVal.i IntKind.u32 0), (AVal.i IntKind.u32 0), (AVal.i IntKind.u32 0), (AVal.i IntKind.u32 0), (AVal.i IntKind.u32 0), (AVal.i IntKind.u32 0), (AVal.i IntKind.u32 0), (AVal.i IntKind.u32 0), (AVal.i IntKind.u32 0), (AVal.i IntKind.u32 0), (AVal.i IntKind.u32 0), (AVal.i IntKind.u32 0), (AVal.i IntKind.u32 0), (AVal.i IntKind.u32 0), (AVal.i IntKind.u32 0), (AVal.i IntKind.u32 0), (AVal.i IntKind.u32 0)])) fun v3 m_2 =>
  bindP (stepM ro m_2 (.st 36 (.c v3) (.c v8))) fun vn m_3 =>
  bindO (evP .e (.faddr 1 (.c v1))) fun v9 =>
  bindO (ldM ro m_3 true 1 v9) fun v10 =>
  asI .i64 v10 fun x10 =>
  bindP (stepM ro m_3 (.mk 3 1 8 [(AVal.i IntKind.i64 0)] (.c (.i .i64 x10)) (.c (.i .i64 x10)))) fun v11 m_4 =>
  bindO (evP .e (.faddr 1 (.c v1))) fun v12 =>
  bindO (ldM ro m_4 true 1 v12) fun v13 =>
  asI .i64 v13 fun x13 =>
  bindP (stepM ro m_4 (.mk 81 1 4 [(AVal.i IntKind.u32 0)] (.c (.i .i64 x13)) (.c (.i .i64 x13)))) fun v14 m_5 =>
  bindO (evP .e (.ixS 1 (.c v14) (.c (.i .i64 0)))) fun v16 =>
  bindP (stepM ro m_5 (.st 1 (.c v16) (.c (.i .u32 1)))) fun vn_1 m_6 =>
  bindO (M.loop (S := Int × Mm) (R := (Mm ⊕ Mm)) (fun s => g61_b0 M ro v0 v1 v3 v11 v14 s.1 s.2) (0, m_6)) fun o_2 => match o_2 with
  | (.inl m_20) =>
    finM m0.h.length (tupA []) m_20
  | (.inr m_21) =>
    finM m0.h.length (tupA []) m_21

theorem g61_ok {ro : List ABlk} {O : Caller} {M : Means} (hM : M.Ok ⟨F, O⟩ ro) {v0 v1 h r} (ho : O 61 [v0, v1] h = none) (hr : g61 M ro v0 v1 ⟨h, h.length, h.length⟩ = some r) : callX ⟨F, O⟩ ro 61 [v0, v1] h = some r := by
  refine callX_of (F := ⟨F, O⟩) (fn := fn61) (g := g61 M ro v0 v1) ho rfl rfl hr ?_
  clear ho
  clear hr
  intro m0 t0 ht hr
  have g0 : t0.get 0 = v0 := ht 0
  have g1 : t0.get 1 = v1 := ht 1
  clear ht
  unfold g61 at hr
  refine w_seq ?_
  refine w_ops ?_
  have hq := bindO_inv hr
  clear hr
  obtain ⟨v7, e7, hr⟩ := hq
  refine wo_step (v := v7) (s_ld g1 e7) ?_
  have hq := bindP_inv hr
  clear hr
  obtain ⟨v8, m_1, e8, hr⟩ := hq
  refine wo_step (v := v8) (s_call (mc rfl mn) (callM_le hM.call e8)) ?_
  have hq := bindP_inv hr
  clear hr
  obtain ⟨v3, m_2, e3, hr⟩ := hq
  refine wo_step (v := v3) (s_al e3) ?_
  have hq := bindP_inv hr
  clear hr
  obtain ⟨vn, m_3, en, hr⟩ := hq
  refine wo_stepN (s_st rfl rfl en) ?_
  refine wo_nil ?_
  refine nx_norm ?_
  refine w_seq ?_
  refine w_ops ?_
  have hq := bindO_inv hr
  clear hr
  obtain ⟨v9, e9, hr⟩ := hq
  refine wo_step (v := v9) (s_pure (o_faddr g1 e9)) ?_
  have hq := bindO_inv hr
  clear hr
  obtain ⟨v10, e10, hr⟩ := hq
  have hq := asI_inv hr
  clear hr
  obtain ⟨x10, rfl, hr⟩ := hq
  refine wo_step (v := (.i .i64 x10)) (s_ld rfl e10) ?_
  have hq := bindP_inv hr
  clear hr
  obtain ⟨v11, m_4, e11, hr⟩ := hq
  refine wo_step (v := v11) (s_mk rfl rfl e11) ?_
  refine wo_step (v := v11) (s_pure (p_mv rfl)) ?_
  refine wo_nil ?_
  refine nx_norm ?_
  refine w_seq ?_
  refine w_ops ?_
  have hq := bindO_inv hr
  clear hr
  obtain ⟨v12, e12, hr⟩ := hq
  refine wo_step (v := v12) (s_pure (o_faddr g1 e12)) ?_
  have hq := bindO_inv hr
  clear hr
  obtain ⟨v13, e13, hr⟩ := hq
  have hq := asI_inv hr
  clear hr
  obtain ⟨x13, rfl, hr⟩ := hq
  refine wo_step (v := (.i .i64 x13)) (s_ld rfl e13) ?_
  have hq := bindP_inv hr
  clear hr
  obtain ⟨v14, m_5, e14, hr⟩ := hq
  refine wo_step (v := v14) (s_mk rfl rfl e14) ?_
  refine wo_step (v := v14) (s_pure (p_mv rfl)) ?_
  refine wo_nil ?_
  refine nx_norm ?_
  refine w_seq ?_
  refine w_ops ?_
  refine wo_step (v := v14) (s_pure (p_mv rfl)) ?_
  have hq := bindO_inv hr
  clear hr
  obtain ⟨v16, e16, hr⟩ := hq
  refine wo_step (v := v16) (s_pure (o_ixS rfl rfl e16)) ?_
  have hq := bindP_inv hr
  clear hr
  obtain ⟨vn_1, m_6, en_1, hr⟩ := hq
  refine wo_stepN (s_st rfl rfl en_1) ?_
  refine wo_nil ?_
  refine nx_norm ?_
  refine w_seq ?_
  refine w_ops ?_
  refine wo_step (v := (.i .i64 0)) (s_pure (p_mv rfl)) ?_
  refine wo_nil ?_
  refine nx_norm ?_
  refine w_seq ?_
  refine w_skip ?_
  refine nx_norm ?_
  refine w_block ?_
  have hq := bindO_inv hr
  clear hr
  obtain ⟨o_2, hl_1, hr⟩ := hq
  obtain ⟨n_1, hl_1⟩ := hM.loop _ _ _ hl_1
  refine jp_mono (w_loop _ (g61_I0 v0 v1 v3 v11 v14) (g61_J0 v0 v1 v3 v11 v14) ?_ n_1 _ _ _ _ hl_1 ⟨rfl, gl rfl, gl g0, gl g1, gl rfl, gl rfl, gl rfl⟩) ?_
  · clear hr hl_1
    intro s mm_8 t_1 o hi hr
    obtain ⟨x6, m_7⟩ := s
    obtain ⟨rfl, g6, g0, g1, g3, g4, g5⟩ := hi
    unfold g61_b0 at hr
    refine w_seq ?_
    refine w_seq ?_
    refine w_ops ?_
    refine wo_step (v := (.i .i64 x6)) (s_pure (p_mv g6)) ?_
    have hq := forceB_inv hr
    clear hr
    obtain ⟨c18, e18, hr⟩ := hq
    refine wo_step (v := (.b c18)) (s_pure (p_bin rfl rfl (b_geq.trans (cb e18)))) ?_
    refine wo_nil ?_
    refine nx_norm ?_
    have hq := cond_inv hr
    clear hr
    rcases hq with ⟨rfl, hr⟩ | ⟨rfl, hr⟩
    · refine w_condT rfl ?_
      refine w_skip ?_
      refine nx_norm ?_
      have hq := bindO_inv hr
      clear hr
      obtain ⟨o, hr, hk⟩ := hq
      refine jp_mono (J := g61_J1 v0 v1 v3 v11 v14 o) ?_ ?_
      · clear hk
        refine w_block ?_
        refine w_seq ?_
        refine w_block ?_
        have hq := bindO_inv hr
        clear hr
        obtain ⟨o_1, hl, hr⟩ := hq
        obtain ⟨n, hl⟩ := hM.loop _ _ _ hl
        refine jp_mono (w_loop _ (g61_I2 v0 v1 v3 v11 v14) (g61_J2 v0 v1 v3 v11 v14) ?_ n _ _ _ _ hl ⟨rfl, gl g6, gl g0, gl g1, gl g3, gl g4, gl g5⟩) ?_
        · clear hr hl
          intro s mm_3 t_2 o hi hr
          obtain ⟨x6_1, m_8⟩ := s
          obtain ⟨rfl, g6, g0, g1, g3, g4, g5⟩ := hi
          unfold g61_b2 at hr
          refine w_seq ?_
          refine w_seq ?_
          refine w_ops ?_
          refine wo_step (v := v14) (s_pure (p_mv g5)) ?_
          refine wo_step (v := (.i .i64 x6_1)) (s_pure (p_mv g6)) ?_
          have hq := bindO_inv hr
          clear hr
          obtain ⟨v21, e21, hr⟩ := hq
          refine wo_step (v := v21) (s_pure (o_ixS rfl rfl e21)) ?_
          have hq := bindO_inv hr
          clear hr
          obtain ⟨v22, e22, hr⟩ := hq
          have hq := asI_inv hr
          clear hr
          obtain ⟨x22, rfl, hr⟩ := hq
          refine wo_step (v := (.i .u32 x22)) (s_ld rfl e22) ?_
          have hq := forceB_inv hr
          clear hr
          obtain ⟨c23, e23, hr⟩ := hq
          refine wo_step (v := (.b c23)) (s_pure (p_bin rfl rfl (b_neq.trans (cb e23)))) ?_
          refine wo_nil ?_
          refine nx_norm ?_
          have hq := cond_inv hr
          clear hr
          rcases hq with ⟨rfl, hr⟩ | ⟨rfl, hr⟩
          · refine w_condT rfl ?_
            refine w_skip ?_
            refine nx_norm ?_
            refine w_block ?_
            refine w_seq ?_
            refine w_ops ?_
            refine wo_step (v := v11) (s_pure (p_mv g4)) ?_
            refine wo_step (v := (.i .i64 x6_1)) (s_pure (p_mv g6)) ?_
            refine wo_step (v := v14) (s_pure (p_mv g5)) ?_
            refine wo_step (v := (.i .i64 x6_1)) (s_pure (p_mv g6)) ?_
            have hq := bindO_inv hr
            clear hr
            obtain ⟨v28, e28, hr⟩ := hq
            refine wo_step (v := v28) (s_pure (o_ixS rfl rfl e28)) ?_
            have hq := bindO_inv hr
            clear hr
            obtain ⟨v29, e29, hr⟩ := hq
            have hq := asI_inv hr
            clear hr
            obtain ⟨x29, rfl, hr⟩ := hq
            refine wo_step (v := (.i .u32 x29)) (s_ld rfl e29) ?_
            have hq := bindP_inv hr
            clear hr
            obtain ⟨v30, m_9, e30, hr⟩ := hq
            have hq := asI_inv hr
            clear hr
            obtain ⟨x30, rfl, hr⟩ := hq
            refine wo_step (v := (.i .i64 x30)) (s_call (mc rfl mn) (callM_le hM.call e30)) ?_
            have hq := bindO_inv hr
            clear hr
            obtain ⟨v31, e31, hr⟩ := hq
            refine wo_step (v := v31) (s_pure (o_ixS rfl rfl e31)) ?_
            have hq := bindP_inv hr
            clear hr
            obtain ⟨vn_2, m_10, en_2, hr⟩ := hq
            refine wo_stepN (s_st rfl rfl en_2) ?_
            refine wo_nil ?_
            refine nx_norm ?_
            refine w_seq ?_
            refine w_ops ?_
            refine wo_step (v := v14) (s_pure (p_mv g5)) ?_
            refine wo_step (v := (.i .i64 x6_1)) (s_pure (p_mv g6)) ?_
            refine wo_step (v := v14) (s_pure (p_mv g5)) ?_
            refine wo_step (v := (.i .i64 x6_1)) (s_pure (p_mv g6)) ?_
            have hq := bindO_inv hr
            clear hr
            obtain ⟨v36, e36, hr⟩ := hq
            refine wo_step (v := v36) (s_pure (o_ixS rfl rfl e36)) ?_
            have hq := bindO_inv hr
            clear hr
            obtain ⟨v37, e37, hr⟩ := hq
            have hq := asI_inv hr
            clear hr
            obtain ⟨x37, rfl, hr⟩ := hq
            refine wo_step (v := (.i .u32 x37)) (s_ld rfl e37) ?_
            have hq := bindP_inv hr
            clear hr
            obtain ⟨v38, m_11, e38, hr⟩ := hq
            have hq := asI_inv hr
            clear hr
            obtain ⟨x38, rfl, hr⟩ := hq
            refine wo_step (v := (.i .u32 x38)) (s_call (mc rfl mn) (callM_le hM.call e38)) ?_
            have hq := bindO_inv hr
            clear hr
            obtain ⟨v39, e39, hr⟩ := hq
            refine wo_step (v := v39) (s_pure (o_ixS rfl rfl e39)) ?_
            have hq := bindP_inv hr
            clear hr
            obtain ⟨vn_3, m_12, en_3, hr⟩ := hq
            refine wo_stepN (s_st rfl rfl en_3) ?_
            refine wo_nil ?_
            refine nx_norm ?_
            refine w_seq ?_
            refine w_seq ?_
            refine w_ops ?_
            refine wo_step (v := (.i .i64 x6_1)) (s_pure (p_mv g6)) ?_
            have hq := forceI_inv hr
            clear hr
            obtain ⟨x41, e41, hr⟩ := hq
            refine wo_step (v := (.i .i64 x41)) (s_pure (p_bin rfl rfl (b_add.trans (ci e41)))) ?_
            have hq := bindO_inv hr
            clear hr
            obtain ⟨v42, e42, hr⟩ := hq
            refine wo_step (v := v42) (s_pure (o_faddr g1 e42)) ?_
            have hq := bindO_inv hr
            clear hr
            obtain ⟨v43, e43, hr⟩ := hq
            have hq := asI_inv hr
            clear hr
            obtain ⟨x43, rfl, hr⟩ := hq
            refine wo_step (v := (.i .i64 x43)) (s_ld rfl e43) ?_
            have hq := forceB_inv hr
            clear hr
            obtain ⟨c44, e44, hr⟩ := hq
            refine wo_step (v := (.b c44)) (s_pure (p_bin rfl rfl (b_lss.trans (cb e44)))) ?_
            refine wo_nil ?_
            refine nx_norm ?_
            have hq := cond_inv hr
            clear hr
            rcases hq with ⟨rfl, hr⟩ | ⟨rfl, hr⟩
            · refine w_condT rfl ?_
              refine w_seq ?_
              refine w_ops ?_
              refine wo_step (v := (.i .i64 x6_1)) (s_pure (p_mv g6)) ?_
              have hq := forceI_inv hr
              clear hr
              obtain ⟨x46, e46, hr⟩ := hq
              refine wo_step (v := (.i .i64 x46)) (s_pure (p_bin rfl rfl (b_add.trans (ci e46)))) ?_
              refine wo_step (v := (.i .i64 x46)) (s_pure (p_mv rfl)) ?_
              refine wo_nil ?_
              refine nx_norm ?_
              refine w_seq ?_
              refine w_any ?_
              refine wa_step (v := v14) (a_pure (p_mv g5)) ?_
              refine wa_step (v := (.i .i64 x46)) (a_pure (p_mv rfl)) ?_
              have hq := bindO_inv hr
              clear hr
              obtain ⟨v49, e49, hr⟩ := hq
              refine wa_step (v := v49) (a_ld g1 e49) ?_
              have hq := bindO_inv hr
              clear hr
              obtain ⟨v50, e50, hr⟩ := hq
              refine wa_step (v := v50) (a_ld g3 e50) ?_
              refine wa_step (v := v11) (a_pure (p_mv g4)) ?_
              refine wa_step (v := (.i .i64 x46)) (a_pure (p_mv rfl)) ?_
              have hq := bindO_inv hr
              clear hr
              obtain ⟨v53, e53, hr⟩ := hq
              refine wa_step (v := v53) (a_pure (o_slS rfl on (os rfl) on e53)) ?_
              have hq := bindO_inv hr
              clear hr
              obtain ⟨v54, e54, hr⟩ := hq
              have hq := asI_inv hr
              clear hr
              obtain ⟨x54, rfl, hr⟩ := hq
              refine wa_step (v := (.i .u32 x54)) (a_call (mc rfl (mc rfl (mc rfl mn))) (callN_le hM.call e54)) ?_
              have hq := bindO_inv hr
              clear hr
              obtain ⟨v55, e55, hr⟩ := hq
              refine wa_step (v := v55) (a_pure (o_ixS rfl rfl e55)) ?_
              have hq := asP_inv hr
              clear hr
              obtain ⟨qs, eqs, hr⟩ := hq
              refine wa_stepN (a_st (Eq.trans (b := v55) rfl eqs) rfl rfl) ?_
              have hq := bindO_inv hr
              clear hr
              obtain ⟨m_13, ew, hr⟩ := hq
              refine wa_nil ?_
              refine ⟨m_13, ew, ?_⟩
              refine nx_norm ?_
              refine w_exit ?_
              refine nx_exit ?_
              refine bk_miss (by decide) ?_
              cases hr
              exact ⟨_, _, rfl, ne_norm_exit, rfl, rfl, gl rfl, gl g0, gl g1, gl g3, gl g4, gl g5⟩
            · refine w_condF rfl ?_
              refine w_skip ?_
              refine nx_norm ?_
              refine w_seq ?_
              refine w_opsY ?_
              refine wy_step (v := v0) (y_C (s_pure (p_mv g0))) ?_
              refine wy_step (v := v11) (y_C (s_pure (p_mv g4))) ?_
              have hq := bindP_inv hr
              clear hr
              obtain ⟨v58, m_14, e58, hr⟩ := hq
              have hq := asB_inv hr
              clear hr
              obtain ⟨c58, rfl, hr⟩ := hq
              refine wy_step (v := (.b c58)) (y_callv rfl (mc rfl mn) (callyM_le hM.call hM.round e58)) ?_
              have hq := forceB_inv hr
              clear hr
              obtain ⟨c59, e59, hr⟩ := hq
              refine wy_step (v := (.b c59)) (y_C (s_pure ((p_not rfl).trans (cb e59)))) ?_
              refine wy_nil ?_
              refine nx_norm ?_
              have hq := cond_inv hr
              clear hr
              rcases hq with ⟨rfl, hr⟩ | ⟨rfl, hr⟩
              · refine w_condT rfl ?_
                refine w_ret ?_
                refine bk_ret ?_
                cases hr
                exact ⟨_, _, rfl, ne_norm_ret, rfl, rfl⟩
              · refine w_condF rfl ?_
                refine w_skip ?_
                refine bk_norm ?_
                cases hr
                exact ⟨_, _, rfl, rfl, rfl, gl g6, gl g0, gl g1, gl g3, gl g4, gl g5⟩
          · refine w_condF rfl ?_
            refine w_exit ?_
            refine nx_exit ?_
            cases hr
            exact ⟨_, _, rfl, ne_norm_exit, rfl, rfl, gl g6, gl g0, gl g1, gl g3, gl g4, gl g5⟩
        · rcases o_1 with o_1 | o_1 | o_1
          · obtain ⟨x6_2, m_15⟩ := o_1
            rintro _ mm t_3 ⟨rfl, rfl, g6, g0, g1, g3, g4, g5⟩
            refine bk_miss (by decide) ?_
            refine nx_exit ?_
            refine bk_hit ?_
            cases hr
            exact ⟨_, _, rfl, rfl, rfl, gl g6, gl g0, gl g1, gl g3, gl g4, gl g5⟩
          · obtain ⟨x6_3, m_16⟩ := o_1
            rintro _ mm_1 t_4 ⟨rfl, rfl, g6, g0, g1, g3, g4, g5⟩
            refine bk_hit ?_
            refine nx_norm ?_
            refine w_ops ?_
            refine wo_step (v := (.i .i64 x6_3)) (s_pure (p_mv g6)) ?_
            have hq := forceI_inv hr
            clear hr
            obtain ⟨x61, e61, hr⟩ := hq
            refine wo_step (v := (.i .i64 x61)) (s_pure (p_bin rfl rfl (b_sub.trans (ci e61)))) ?_
            refine wo_step (v := (.i .i64 x61)) (s_pure (p_mv rfl)) ?_
            refine wo_nil ?_
            refine bk_norm ?_
            cases hr
            exact ⟨_, _, rfl, rfl, rfl, gl rfl, gl g0, gl g1, gl g3, gl g4, gl g5⟩
          · obtain ⟨m_17, ho⟩ : ∃ z, z = o_1 := ⟨_, rfl⟩
            subst ho
            rintro _ mm_2 t_5 ⟨rfl, rfl⟩
            refine bk_ret ?_
            refine nx_ret ?_
            refine bk_ret ?_
            cases hr
            exact ⟨_, _, rfl, rfl, rfl⟩
      · have hr := hk
        clear hk
        rcases o with o | o
        · obtain ⟨x6_4, m_18⟩ := o
          rintro _ mm_4 t_6 ⟨rfl, rfl, g6, g0, g1, g3, g4, g5⟩
          cases hr
          exact ⟨_, _, rfl, rfl, rfl, gl g6, gl g0, gl g1, gl g3, gl g4, gl g5⟩
        · obtain ⟨m_19, ho⟩ : ∃ z, z = o := ⟨_, rfl⟩
          subst ho
          rintro _ mm_5 t_7 ⟨rfl, rfl⟩
          cases hr
          exact ⟨_, _, rfl, ne_norm_ret, rfl, rfl⟩
    · refine w_condF rfl ?_
      refine w_exit ?_
      refine nx_exit ?_
      cases hr
      exact ⟨_, _, rfl, ne_norm_exit, rfl, rfl⟩
  · rcases o_2 with o_2 | o_2
    · obtain ⟨m_20, ho⟩ : ∃ z, z = o_2 := ⟨_, rfl⟩
      subst ho
      rintro _ mm_6 t_8 ⟨rfl, rfl⟩
      refine bk_hit ?_
      exact qf norm_ok rn hr
    · obtain ⟨m_21, ho⟩ : ∃ z, z = o_2 := ⟨_, rfl⟩
      subst ho
      rintro _ mm_7 t_9 ⟨rfl, rfl⟩
      refine bk_ret ?_
      exact qf ret_ok rn hr

/- (dibber/turn.demands).distances -/
abbrev g62_I0 (v1 : AVal) (v2 : AVal) (v3 : AVal) (s : Int × Mm) (m1 : Mm) (t1 : Tr) : Prop :=
  match s with
  | (x9, m_4) => m_4 = m1 ∧ t1.get 9 = (.i .i64 x9) ∧ t1.get 1 = v1 ∧ t1.get 2 = v2 ∧ t1.get 3 = v3
abbrev g62_J0 (v1 : AVal) (v2 : AVal) (v3 : AVal) (o : Mm) (e : AExit) (m1 : Mm) (t1 : Tr) : Prop :=
  match o with
  | mo => e = (.exit 0) ∧ mo = m1 ∧ t1.get 1 = v1 ∧ t1.get 2 = v2 ∧ t1.get 3 = v3
abbrev g62_I1 (v1 : AVal) (v2 : AVal) (v3 : AVal) (x9 : Int) (s : Int × Mm) (m1 : Mm) (t1 : Tr) : Prop :=
  match s with
  | (x12, m_5) => m_5 = m1 ∧ t1.get 12 = (.i .i64 x12) ∧ t1.get 1 = v1 ∧ t1.get 2 = v2 ∧ t1.get 3 = v3 ∧ t1.get 4 = (.i .i64 x9) ∧ t1.get 9 = (.i .i64 x9)
abbrev g62_J1 (v1 : AVal) (v2 : AVal) (v3 : AVal) (x9 : Int) (o : Mm) (e : AExit) (m1 : Mm) (t1 : Tr) : Prop :=
  match o with
  | mo => e = (.exit 2) ∧ mo = m1 ∧ t1.get 1 = v1 ∧ t1.get 2 = v2 ∧ t1.get 3 = v3 ∧ t1.get 9 = (.i .i64 x9)
def g62_b1 (M : Means) (ro : List ABlk) (v1 : AVal) (v2 : AVal) (v3 : AVal) (x9 : Int) (x12 : Int) (m_5 : Mm) : Option ((Int × Mm) ⊕ (Mm)) :=
  forceB (ltI x12 6) fun c13 =>
  cond c13 (
    bindO (evP .e (.ixA 6 6 (.c v3) (.c (.i .i64 x9)))) fun v19 =>
    bindO (ldM ro m_5 false 3 v1) fun v17 =>
    bindP (callM M.call m_5 76 [v17]) fun v18 m_6 =>
    asI .u32 v18 fun x18 =>
    bindO (evP .e (.ixA 6 1 (.c v19) (.c (.i .i64 x12)))) fun v20 =>
    bindP (stepM ro m_6 (.st 1 (.c v20) (.c (.i .u32 x18)))) fun vn m_7 =>
    forceI (wr .i64 (x12 + 1)) fun x21 =>
    some (.inl (x21, m_7))) (
    some (.inr m_5))
def g62_b0 (M : Means) (ro : List ABlk) (v1 : AVal) (v2 : AVal) (v3 : AVal) (x9 : Int) (m_4 : Mm) : Option ((Int × Mm) ⊕ (Mm)) :=
  forceB (ltI x9 6) fun c10 =>
  cond c10 (
    bindO (M.loop (S := Int × Mm) (R := Mm) (fun s => g62_b1 M ro v1 v2 v3 x9 s.1 s.2) (0, m_4)) fun m_8 =>
    forceI (wr .i64 (x9 + 1)) fun x22 =>
    some (.inl (x22, m_8))) (
    some (.inr m_4))
abbrev g62_I2 (v1 : AVal) (v2 : AVal) (v3 : AVal) (v24 : AVal) (x25 : Int) (s : Int × Mm) (m1 : Mm) (t1 : Tr) : Prop :=
  match s with
  | (x26, m_10) => m_10 = m1 ∧ t1.get 26 = (.i .i64 x26) ∧ t1.get 1 = v1 ∧ t1.get 2 = v2 ∧ t1.get 3 = v3 ∧ t1.get 24 = v24 ∧ t1.get 25 = (.i .i64 x25)
abbrev g62_J2 (v1 : AVal) (v2 : AVal) (v3 : AVal) (v24 : AVal) (x25 : Int) (o : Mm) (e : AExit) (m1 : Mm) (t1 : Tr) : Prop :=
  match o with
  | mo => e = (.exit 4) ∧ mo = m1 ∧ t1.get 2 = v2 ∧ t1.get 3 = v3
abbrev g62_J3 (v1 : AVal) (v2 : AVal) (v3 : AVal) (v7 : AVal) (v24 : AVal) (x25 : Int) (x26 : Int) (o : Mm) (e : AExit) (m1 : Mm) (t1 : Tr) : Prop :=
  match o with
  | mo => e = .norm ∧ mo = m1 ∧ t1.get 1 = v1 ∧ t1.get 2 = v2 ∧ t1.get 3 = v3 ∧ t1.get 7 = v7 ∧ t1.get 24 = v24 ∧ t1.get 25 = (.i .i64 x25) ∧ t1.get 26 = (.i .i64 x26)
def g62_b2 (M : Means) (ro : List ABlk) (v1 : AVal) (v2 : AVal) (v3 : AVal) (v24 : AVal) (x25 : Int) (x26 : Int) (m_10 : Mm) : Option ((Int × Mm) ⊕ (Mm)) :=
  forceB (ltI x26 x25) fun c27 =>
  cond c27 (
    bindO (evP .e (.ixS 4 (.c v24) (.c (.i .i64 x26)))) fun v28 =>
    bindO (ldM ro m_10 false 4 v28) fun v29 =>
    bindP (stepM ro m_10 (.al 31 [(AVal.i IntKind.i64 0), (AVal.i IntKind.i64 0), (AVal.i IntKind.i64 0), (AVal.i IntKind.i64 0)])) fun v7 m_11 =>
    bindP (stepM ro m_11 (.st 4 (.c v7) (.c v29))) fun vn_1 m_12 =>
    bindO (evP .e (.faddr 0 (.c v7))) fun v30 =>
    bindO (ldM ro m_12 true 1 v30) fun v31 =>
    asI .i64 v31 fun x31 =>
    bindO (evP .e (.faddr 1 (.c v7))) fun v32 =>
    bindO (ldM ro m_12 true 1 v32) fun v33 =>
    asI .i64 v33 fun x33 =>
    forceB (ltI x33 x31) fun c34 =>
    bindO (α := Mm) (
      cond c34 (
        bindO (ldM ro m_12 false 4 v7) fun v35 =>
        bindP (callM M.call m_12 77 [v35]) fun v36 m_13 =>
        bindP (stepM ro m_13 (.st 4 (.c v7) (.c v36))) fun vn_2 m_14 =>
        some m_14) (
        some m_12)) fun m_15 =>
    bindO (evP .e (.faddr 3 (.c v7))) fun v37 =>
    bindO (ldM ro m_15 true 1 v37) fun v38 =>
    asI .i64 v38 fun x38 =>
    bindO (evP .e (.faddr 2 (.c v7))) fun v39 =>
    bindO (ldM ro m_15 true 1 v39) fun v40 =>
    asI .i64 v40 fun x40 =>
    forceI (wr .i64 (x38 - x40)) fun x41 =>
    forceI (wr .i64 (x41 + 1)) fun x42 =>
    chk (!ltI x42 (.ofNat 0)) <|
    forceI (shlV .u32 1 x42) fun x43 =>
    forceI (wr .u32 (x43 - 1)) fun x44 =>
    bindO (evP .e (.faddr 0 (.c v7))) fun v45 =>
    bindO (ldA ro m_15.h true 1 v45) fun v46 =>
    asI .i64 v46 fun x46 =>
    bindO (evP .e (.faddr 1 (.c v7))) fun v47 =>
    bindO (ldA ro m_15.h true 1 v47) fun v48 =>
    asI .i64 v48 fun x48 =>
    bindO (evP .e (.ixA 6 6 (.c v3) (.c (.i .i64 x46)))) fun v49 =>
    bindO (evP .e (.ixA 6 1 (.c v49) (.c (.i .i64 x48)))) fun v50 =>
    bindO (ldA ro m_15.h true 1 v50) fun v51 =>
    asI .u32 v51 fun x51 =>
    bindO (ldA ro m_15.h false 3 v1) fun v52 =>
    bindO (ldA ro m_15.h false 3 v1) fun v54 =>
    bindO (evP .e (.faddr 2 (.c v7))) fun v55 =>
    bindO (ldA ro m_15.h true 1 v55) fun v56 =>
    asI .i64 v56 fun x56 =>
    bindO (callN M.call m_15.h 70 [v54, (.i .i64 x56)]) fun v57 =>
    asI .i64 v57 fun x57 =>
    bindO (callN M.call m_15.h 78 [v52, (.i .u32 x44), (.i .i64 x57)]) fun v58 =>
    asI .u32 v58 fun x58 =>
    forceI (bitV .and .u32 x51 x58) fun x59 =>
    bindO (evP .e (.ixA 6 6 (.c v3) (.c (.i .i64 x46)))) fun v60 =>
    bindO (evP .e (.ixA 6 1 (.c v60) (.c (.i .i64 x48)))) fun v61 =>
    asP v61 fun qs =>
    bindO (writesM ro [] [(qs, AVal.cells (.i .u32 x59))] ⟨m_15.h, m_15.lw, m_15.lp⟩) fun m_16 =>
    forceI (wr .i64 (x26 + 1)) fun x62 =>
    some (.inl (x62, m_16))) (
    some (.inr m_10))
def g62 (M : Means) (ro : List ABlk) (v0 : AVal) (m0 : Mm) : Option (AVal × Heap × Nat × Nat) :=
  bindP (stepM ro m0 (.bx 55 3 (.c v0))) fun v1 m_1 =>
  bindP (stepM ro m_1 (.al 84 [(AVal.i IntKind.u32 0), (AVal.i IntKind.u32 0), (AVal.i IntKind.u32 0), (AVal.i IntKind.u32 0), (AVal.i IntKind.u32 0), (AVal.i IntKind.u32 0), (AVal.i IntKind.u32 0), (AVal.i IntKind.u32 0), (AVal.i IntKind.u32 0), (AVal.i IntKind.u32 0), (AVal.i IntKind.u32 0), (AVal.i IntKind.u32 0), (AVal.i IntKind.u32 0), (AVal.i IntKind.u32 0), (AVal.i IntKind.u32 0), (AVal.i IntKind.u32 0), (AVal.i IntKind.u32 0), (AVal.i IntKind.u32 0), (AVal.i IntKind.u32 0), (AVal.i IntKind.u32 0), (AVal.i IntKind.u32 0), (AVal.i IntKind.u32 0), (AVal.i IntKind.u32 0), (AVal.i IntKind.u32 0), (AVal.i IntKind.u32 0), (AVal.i IntKind.u32 0), (AVal.i IntKind.u32 0), (AVal.i IntKind.u32 0), (AVal.i IntKind.u32 0), (AVal.i IntKind.u32 0), (AVal.i IntKind.u32 0), (AVal.i IntKind.u32 0), (AVal.i IntKind.u32 0), (AVal.i IntKind.u32 0), (AVal.i IntKind.u32 0), (AVal.i IntKind.u32 0)])) fun v2 m_2 =>
  bindP (stepM ro m_2 (.al 84 [(AVal.i IntKind.u32 0), (AVal.i IntKind.u32 0), (AVal.i IntKind.u32 0), (AVal.i IntKind.u32 0), (AVal.i IntKind.u32 0), (AVal.i IntKind.u32 0), (AVal.i IntKind.u32 0), (AVal.i IntKind.u32 0), (AVal.i IntKind.u32 0), (AVal.i IntKind.u32 0), (AVal.i IntKind.u32 0), (AVal.i IntKind.u32 0), (AVal.i IntKind.u32 0), (AVal.i IntKind.u32 0), (AVal.i IntKind.u32 0), (AVal.i IntKind.u32 0), (AVal.i IntKind.u32 0), (AVal.i IntKind.u32 0), (AVal.i IntKind.u32 0), (AVal.i IntKind.u32 0), (AVal.i IntKind.u32 0), (AVal.i IntKind.u32 0), (AVal.i IntKind.u32 0), (AVal.i IntKind.u32 0), (AVal.i IntKind.u32 0), (AVal.i IntKind.u32 0), (AVal.i IntKind.u32 0), (AVal.i IntKind.u32 0), (AVal.i IntKind.u32 0), (AVal.i IntKind.u32 0), (AVal.i IntKind.u32 0), (AVal.i IntKind.u32 0), (AVal.i IntKind.u32 0), (AVal.i IntKind.u32 0), (AVal.i IntKind.u32 0), (AVal.i IntKind.u32 0)])) fun v3 m_3 =>
  bindO (M.loop (S := Int × Mm) (R := Mm) (fun s => g62_b0 M ro v1 v2 v3 s.1 s.2) (0, m_3)) fun m_9 =>
  bindO (evP .e (.faddr 2 (.c v1))) fun v23 =>
  bindO (ldM ro m_9 true 1 v23) fun v24 =>
  bindO (evP .e (.len false (.c v24))) fun v25 =>
  asI .i64 v25 fun x25 =>
  bindO (M.loop (S := Int × Mm) (R := Mm) (fun s => g62_b2 M ro v1 v2 v3 v24 x25 s.1 s.2) (0, m_9)) fun m_17 =>
  bindO (ldM ro m_17 false 36 v3) fun v63 =>
  bindP (stepM ro m_17 (.st 36 (.c v2) (.c v63))) fun vn_3 m_18 =>
  bindO (ldM ro m_18 false 36 v2) fun vr =>
  finM m0.h.length (tupA [vr]) m_18

theorem g62_ok {ro : List ABlk} {O : Caller} {M : Means} (hM : M.Ok ⟨F, O⟩ ro) {v0 h r} (ho : O 62 [v0] h = none) (hr : g62 M ro v0 ⟨h, h.length, h.length⟩ = some r) : callX ⟨F, O⟩ ro 62 [v0] h = some r := by
  refine callX_of (F := ⟨F, O⟩) (fn := fn62) (g := g62 M ro v0) ho rfl rfl hr ?_
  clear ho
  clear hr
  intro m0 t0 ht hr
  have g0 : t0.get 0 = v0 := ht 0
  clear ht
  unfold g62 at hr
  refine w_seq ?_
  refine w_ops ?_
  have hq := bindP_inv hr
  clear hr
  obtain ⟨v1, m_1, e1, hr⟩ := hq
  refine wo_step (v := v1) (s_bx g0 e1) ?_
  have hq := bindP_inv hr
  clear hr
  obtain ⟨v2, m_2, e2, hr⟩ := hq
  refine wo_step (v := v2) (s_al e2) ?_
  refine wo_nil ?_
  refine nx_norm ?_
  refine w_seq ?_
  refine w_ops ?_
  have hq := bindP_inv hr
  clear hr
  obtain ⟨v3, m_3, e3, hr⟩ := hq
  refine wo_step (v := v3) (s_al e3) ?_
  refine wo_nil ?_
  refine nx_norm ?_
  refine w_seq ?_
  refine w_seq ?_
  refine w_ops ?_
  refine wo_step (v := (.i .i64 0)) (s_pure (p_mv rfl)) ?_
  refine wo_nil ?_
  refine nx_norm ?_
  refine w_block ?_
  have hq := bindO_inv hr
  clear hr
  obtain ⟨o_1, hl_2, hr⟩ := hq
  obtain ⟨n_2, hl_2⟩ := hM.loop _ _ _ hl_2
  refine jp_mono (w_loop _ (g62_I0 v1 v2 v3) (g62_J0 v1 v2 v3) ?_ n_2 _ _ _ _ hl_2 ⟨rfl, gl rfl, gl rfl, gl rfl, gl rfl⟩) ?_
  · clear hr hl_2
    intro s mm_6 t_1 o hi hr
    obtain ⟨x9, m_4⟩ := s
    obtain ⟨rfl, g9, g1, g2, g3⟩ := hi
    unfold g62_b0 at hr
    refine w_seq ?_
    refine w_ops ?_
    have hq := forceB_inv hr
    clear hr
    obtain ⟨c10, e10, hr⟩ := hq
    refine wo_step (v := (.b c10)) (s_pure (p_bin g9 rfl (b_lss.trans (cb e10)))) ?_
    refine wo_nil ?_
    refine nx_norm ?_
    refine w_seq ?_
    have hq := cond_inv hr
    clear hr
    rcases hq with ⟨rfl, hr⟩ | ⟨rfl, hr⟩
    · refine w_condT rfl ?_
      refine w_skip ?_
      refine nx_norm ?_
      refine w_seq ?_
      refine w_block ?_
      refine w_seq ?_
      refine w_ops ?_
      refine wo_step (v := (.i .i64 x9)) (s_pure (p_mv g9)) ?_
      refine wo_step (v := (.i .i64 x9)) (s_pure (p_mv rfl)) ?_
      refine wo_nil ?_
      refine nx_norm ?_
      refine w_seq ?_
      refine w_ops ?_
      refine wo_step (v := (.i .i64 0)) (s_pure (p_mv rfl)) ?_
      refine wo_nil ?_
      refine nx_norm ?_
      refine w_block ?_
      have hq := bindO_inv hr
      clear hr
      obtain ⟨o, hl, hr⟩ := hq
      obtain ⟨n, hl⟩ := hM.loop _ _ _ hl
      refine jp_mono (w_loop _ (g62_I1 v1 v2 v3 x9) (g62_J1 v1 v2 v3 x9) ?_ n _ _ _ _ hl ⟨rfl, gl rfl, gl g1, gl g2, gl g3, gl rfl, gl g9⟩) ?_
      · clear hr hl
        intro s mm_1 t_2 o hi hr
        obtain ⟨x12, m_5⟩ := s
        obtain ⟨rfl, g12, g1, g2, g3, g4, g9⟩ := hi
        unfold g62_b1 at hr
        refine w_seq ?_
        refine w_ops ?_
        have hq := forceB_inv hr
        clear hr
        obtain ⟨c13, e13, hr⟩ := hq
        refine wo_step (v := (.b c13)) (s_pure (p_bin g12 rfl (b_lss.trans (cb e13)))) ?_
        refine wo_nil ?_
        refine nx_norm ?_
        refine w_seq ?_
        have hq := cond_inv hr
        clear hr
        rcases hq with ⟨rfl, hr⟩ | ⟨rfl, hr⟩
        · refine w_condT rfl ?_
          refine w_skip ?_
          refine nx_norm ?_
          refine w_seq ?_
          refine w_block ?_
          refine w_seq ?_
          refine w_ops ?_
          refine wo_step (v := (.i .i64 x12)) (s_pure (p_mv g12)) ?_
          refine wo_step (v := (.i .i64 x12)) (s_pure (p_mv rfl)) ?_
          refine wo_nil ?_
          refine nx_norm ?_
          refine w_ops ?_
          refine wo_step (v := (.i .i64 x9)) (s_pure (p_mv g4)) ?_
          refine wo_step (v := (.i .i64 x12)) (s_pure (p_mv rfl)) ?_
          have hq := bindO_inv hr
          clear hr
          obtain ⟨v19, e19, hr⟩ := hq
          refine wo_step (v := v19) (s_pure (o_ixA g3 rfl e19)) ?_
          have hq := bindO_inv hr
          clear hr
          obtain ⟨v17, e17, hr⟩ := hq
          refine wo_step (v := v17) (s_ld g1 e17) ?_
          have hq := bindP_inv hr
          clear hr
          obtain ⟨v18, m_6, e18, hr⟩ := hq
          have hq := asI_inv hr
          clear hr
          obtain ⟨x18, rfl, hr⟩ := hq
          refine wo_step (v := (.i .u32 x18)) (s_call (mc rfl mn) (callM_le hM.call e18)) ?_
          have hq := bindO_inv hr
          clear hr
          obtain ⟨v20, e20, hr⟩ := hq
          refine wo_step (v := v20) (s_pure (o_ixA rfl rfl e20)) ?_
          have hq := bindP_inv hr
          clear hr
          obtain ⟨vn, m_7, en, hr⟩ := hq
          refine wo_stepN (s_st rfl rfl en) ?_
          refine wo_nil ?_
          refine bk_norm ?_
          refine nx_norm ?_
          refine w_ops ?_
          have hq := forceI_inv hr
          clear hr
          obtain ⟨x21, e21, hr⟩ := hq
          refine wo_step (v := (.i .i64 x21)) (s_pure (p_bin g12 rfl (b_add.trans (ci e21)))) ?_
          refine wo_step (v := (.i .i64 x21)) (s_pure (p_mv rfl)) ?_
          refine wo_nil ?_
          cases hr
          exact ⟨_, _, rfl, rfl, rfl, gl rfl, gl g1, gl g2, gl g3, gl g4, gl g9⟩
        · refine w_condF rfl ?_
          refine w_exit ?_
          refine nx_exit ?_
          cases hr
          exact ⟨_, _, rfl, ne_norm_exit, rfl, rfl, gl g1, gl g2, gl g3, gl g9⟩
      · obtain ⟨m_8, ho⟩ : ∃ z, z = o := ⟨_, rfl⟩
        subst ho
        rintro _ mm t_3 ⟨rfl, rfl, g1, g2, g3, g9⟩
        refine bk_hit ?_
        refine bk_norm ?_
        refine nx_norm ?_
        refine w_ops ?_
        have hq := forceI_inv hr
        clear hr
        obtain ⟨x22, e22, hr⟩ := hq
        refine wo_step (v := (.i .i64 x22)) (s_pure (p_bin g9 rfl (b_add.trans (ci e22)))) ?_
        refine wo_step (v := (.i .i64 x22)) (s_pure (p_mv rfl)) ?_
        refine wo_nil ?_
        cases hr
        exact ⟨_, _, rfl, rfl, rfl, gl rfl, gl g1, gl g2, gl g3⟩
    · refine w_condF rfl ?_
      refine w_exit ?_
      refine nx_exit ?_
      cases hr
      exact ⟨_, _, rfl, ne_norm_exit, rfl, rfl, gl g1, gl g2, gl g3⟩
  · obtain ⟨m_9, ho⟩ : ∃ z, z = o_1 := ⟨_, rfl⟩
    subst ho
    rintro _ mm_5 t_4 ⟨rfl, rfl, g1, g2, g3⟩
    refine bk_hit ?_
    refine nx_norm ?_
    refine w_seq ?_
    refine w_seq ?_
    refine w_ops ?_
    have hq := bindO_inv hr
    clear hr
    obtain ⟨v23, e23, hr⟩ := hq
    refine wo_step (v := v23) (s_pure (o_faddr g1 e23)) ?_
    have hq := bindO_inv hr
    clear hr
    obtain ⟨v24, e24, hr⟩ := hq
    refine wo_step (v := v24) (s_ld rfl e24) ?_
    have hq := bindO_inv hr
    clear hr
    obtain ⟨v25, e25, hr⟩ := hq
    have hq := asI_inv hr
    clear hr
    obtain ⟨x25, rfl, hr⟩ := hq
    refine wo_step (v := (.i .i64 x25)) (s_pure (o_len rfl e25)) ?_
    refine wo_step (v := (.i .i64 0)) (s_pure (p_mv rfl)) ?_
    refine wo_nil ?_
    refine nx_norm ?_
    refine w_block ?_
    have hq := bindO_inv hr
    clear hr
    obtain ⟨o_3, hl_1, hr⟩ := hq
    obtain ⟨n_1, hl_1⟩ := hM.loop _ _ _ hl_1
    refine jp_mono (w_loop _ (g62_I2 v1 v2 v3 v24 x25) (g62_J2 v1 v2 v3 v24 x25) ?_ n_1 _ _ _ _ hl_1 ⟨rfl, gl rfl, gl g1, gl g2, gl g3, gl rfl, gl rfl⟩) ?_
    · clear hr hl_1
      intro s mm_4 t_5 o hi hr
      obtain ⟨x26, m_10⟩ := s
      obtain ⟨rfl, g26, g1, g2, g3, g24, g25⟩ := hi
      unfold g62_b2 at hr
      refine w_seq ?_
      refine w_ops ?_
      have hq := forceB_inv hr
      clear hr
      obtain ⟨c27, e27, hr⟩ := hq
      refine wo_step (v := (.b c27)) (s_pure (p_bin g26 g25 (b_lss.trans (cb e27)))) ?_
      refine wo_nil ?_
      refine nx_norm ?_
      refine w_seq ?_
      have hq := cond_inv hr
      clear hr
      rcases hq with ⟨rfl, hr⟩ | ⟨rfl, hr⟩
      · refine w_condT rfl ?_
        refine w_skip ?_
        refine nx_norm ?_
        refine w_seq ?_
        refine w_block ?_
        refine w_seq ?_
        refine w_ops ?_
        have hq := bindO_inv hr
        clear hr
        obtain ⟨v28, e28, hr⟩ := hq
        refine wo_step (v := v28) (s_pure (o_ixS g24 g26 e28)) ?_
        have hq := bindO_inv hr
        clear hr
        obtain ⟨v29, e29, hr⟩ := hq
        refine wo_step (v := v29) (s_ld rfl e29) ?_
        have hq := bindP_inv hr
        clear hr
        obtain ⟨v7, m_11, e7, hr⟩ := hq
        refine wo_step (v := v7) (s_al e7) ?_
        have hq := bindP_inv hr
        clear hr
        obtain ⟨vn_1, m_12, en_1, hr⟩ := hq
        refine wo_stepN (s_st rfl rfl en_1) ?_
        refine wo_nil ?_
        refine nx_norm ?_
        refine w_seq ?_
        refine w_seq ?_
        refine w_ops ?_
        have hq := bindO_inv hr
        clear hr
        obtain ⟨v30, e30, hr⟩ := hq
        refine wo_step (v := v30) (s_pure (o_faddr rfl e30)) ?_
        have hq := bindO_inv hr
        clear hr
        obtain ⟨v31, e31, hr⟩ := hq
        have hq := asI_inv hr
        clear hr
        obtain ⟨x31, rfl, hr⟩ := hq
        refine wo_step (v := (.i .i64 x31)) (s_ld rfl e31) ?_
        have hq := bindO_inv hr
        clear hr
        obtain ⟨v32, e32, hr⟩ := hq
        refine wo_step (v := v32) (s_pure (o_faddr rfl e32)) ?_
        have hq := bindO_inv hr
        clear hr
        obtain ⟨v33, e33, hr⟩ := hq
        have hq := asI_inv hr
        clear hr
        obtain ⟨x33, rfl, hr⟩ := hq
        refine wo_step (v := (.i .i64 x33)) (s_ld rfl e33) ?_
        have hq := forceB_inv hr
        clear hr
        obtain ⟨c34, e34, hr⟩ := hq
        refine wo_step (v := (.b c34)) (s_pure (p_bin rfl rfl (b_gtr.trans (cb e34)))) ?_
        refine wo_nil ?_
        refine nx_norm ?_
        have hq := bindO_inv hr
        clear hr
        obtain ⟨o_2, hr, hk⟩ := hq
        refine jp_mono (J := g62_J3 v1 v2 v3 v7 v24 x25 x26 o_2) ?_ ?_
        · clear hk
          have hq := cond_inv hr
          clear hr
          rcases hq with ⟨rfl, hr⟩ | ⟨rfl, hr⟩
          · refine w_condT rfl ?_
            refine w_ops ?_
            have hq := bindO_inv hr
            clear hr
            obtain ⟨v35, e35, hr⟩ := hq
            refine wo_step (v := v35) (s_ld rfl e35) ?_
            have hq := bindP_inv hr
            clear hr
            obtain ⟨v36, m_13, e36, hr⟩ := hq
            refine wo_step (v := v36) (s_call (mc rfl mn) (callM_le hM.call e36)) ?_
            have hq := bindP_inv hr
            clear hr
            obtain ⟨vn_2, m_14, en_2, hr⟩ := hq
            refine wo_stepN (s_st rfl rfl en_2) ?_
            refine wo_nil ?_
            cases hr
            exact ⟨_, _, rfl, rfl, rfl, gl g1, gl g2, gl g3, gl rfl, gl g24, gl g25, gl g26⟩
          · refine w_condF rfl ?_
            refine w_skip ?_
            cases hr
            exact ⟨_, _, rfl, rfl, rfl, gl g1, gl g2, gl g3, gl rfl, gl g24, gl g25, gl g26⟩
        · have hr := hk
          clear hk
          obtain ⟨m_15, ho⟩ : ∃ z, z = o_2 := ⟨_, rfl⟩
          subst ho
          rintro _ mm_2 t_6 ⟨rfl, rfl, g1, g2, g3, g7, g24, g25, g26⟩
          refine nx_norm ?_
          refine w_seq ?_
          refine w_ops ?_
          have hq := bindO_inv hr
          clear hr
          obtain ⟨v37, e37, hr⟩ := hq
          refine wo_step (v := v37) (s_pure (o_faddr g7 e37)) ?_
          have hq := bindO_inv hr
          clear hr
          obtain ⟨v38, e38, hr⟩ := hq
          have hq := asI_inv hr
          clear hr
          obtain ⟨x38, rfl, hr⟩ := hq
          refine wo_step (v := (.i .i64 x38)) (s_ld rfl e38) ?_
          have hq := bindO_inv hr
          clear hr
          obtain ⟨v39, e39, hr⟩ := hq
          refine wo_step (v := v39) (s_pure (o_faddr g7 e39)) ?_
          have hq := bindO_inv hr
          clear hr
          obtain ⟨v40, e40, hr⟩ := hq
          have hq := asI_inv hr
          clear hr
          obtain ⟨x40, rfl, hr⟩ := hq
          refine wo_step (v := (.i .i64 x40)) (s_ld rfl e40) ?_
          have hq := forceI_inv hr
          clear hr
          obtain ⟨x41, e41, hr⟩ := hq
          refine wo_step (v := (.i .i64 x41)) (s_pure (p_bin rfl rfl (b_sub.trans (ci e41)))) ?_
          have hq := forceI_inv hr
          clear hr
          obtain ⟨x42, e42, hr⟩ := hq
          refine wo_step (v := (.i .i64 x42)) (s_pure (p_bin rfl rfl (b_add.trans (ci e42)))) ?_
          have hq := chk_inv hr
          clear hr
          obtain ⟨hc43, hr⟩ := hq
          have hq := forceI_inv hr
          clear hr
          obtain ⟨x43, e43, hr⟩ := hq
          refine wo_step (v := (.i .u32 x43)) (s_pure (p_bin rfl rfl ((b_shl hc43).trans (ci e43)))) ?_
          have hq := forceI_inv hr
          clear hr
          obtain ⟨x44, e44, hr⟩ := hq
          refine wo_step (v := (.i .u32 x44)) (s_pure (p_bin rfl rfl (b_sub.trans (ci e44)))) ?_
          refine wo_step (v := (.i .u32 x44)) (s_pure (p_mv rfl)) ?_
          refine wo_nil ?_
          refine nx_norm ?_
          refine w_any ?_
          have hq := bindO_inv hr
          clear hr
          obtain ⟨v45, e45, hr⟩ := hq
          refine wa_step (v := v45) (a_pure (o_faddr g7 e45)) ?_
          have hq := bindO_inv hr
          clear hr
          obtain ⟨v46, e46, hr⟩ := hq
          have hq := asI_inv hr
          clear hr
          obtain ⟨x46, rfl, hr⟩ := hq
          refine wa_step (v := (.i .i64 x46)) (a_ld rfl e46) ?_
          have hq := bindO_inv hr
          clear hr
          obtain ⟨v47, e47, hr⟩ := hq
          refine wa_step (v := v47) (a_pure (o_faddr g7 e47)) ?_
          have hq := bindO_inv hr
          clear hr
          obtain ⟨v48, e48, hr⟩ := hq
          have hq := asI_inv hr
          clear hr
          obtain ⟨x48, rfl, hr⟩ := hq
          refine wa_step (v := (.i .i64 x48)) (a_ld rfl e48) ?_
          have hq := bindO_inv hr
          clear hr
          obtain ⟨v49, e49, hr⟩ := hq
          refine wa_step (v := v49) (a_pure (o_ixA g3 rfl e49)) ?_
          have hq := bindO_inv hr
          clear hr
          obtain ⟨v50, e50, hr⟩ := hq
          refine wa_step (v := v50) (a_pure (o_ixA rfl rfl e50)) ?_
          have hq := bindO_inv hr
          clear hr
          obtain ⟨v51, e51, hr⟩ := hq
          have hq := asI_inv hr
          clear hr
          obtain ⟨x51, rfl, hr⟩ := hq
          refine wa_step (v := (.i .u32 x51)) (a_ld rfl e51) ?_
          have hq := bindO_inv hr
          clear hr
          obtain ⟨v52, e52, hr⟩ := hq
          refine wa_step (v := v52) (a_ld g1 e52) ?_
          refine wa_step (v := (.i .u32 x44)) (a_pure (p_mv rfl)) ?_
          have hq := bindO_inv hr
          clear hr
          obtain ⟨v54, e54, hr⟩ := hq
          refine wa_step (v := v54) (a_ld g1 e54) ?_
          have hq := bindO_inv hr
          clear hr
          obtain ⟨v55, e55, hr⟩ := hq
          refine wa_step (v := v55) (a_pure (o_faddr g7 e55)) ?_
          have hq := bindO_inv hr
          clear hr
          obtain ⟨v56, e56, hr⟩ := hq
          have hq := asI_inv hr
          clear hr
          obtain ⟨x56, rfl, hr⟩ := hq
          refine wa_step (v := (.i .i64 x56)) (a_ld rfl e56) ?_
          have hq := bindO_inv hr
          clear hr
          obtain ⟨v57, e57, hr⟩ := hq
          have hq := asI_inv hr
          clear hr
          obtain ⟨x57, rfl, hr⟩ := hq
          refine wa_step (v := (.i .i64 x57)) (a_call (mc rfl (mc rfl mn)) (callN_le hM.call e57)) ?_
          have hq := bindO_inv hr
          clear hr
          obtain ⟨v58, e58, hr⟩ := hq
          have hq := asI_inv hr
          clear hr
          obtain ⟨x58, rfl, hr⟩ := hq
          refine wa_step (v := (.i .u32 x58)) (a_call (mc rfl (mc rfl (mc rfl mn))) (callN_le hM.call e58)) ?_
          have hq := forceI_inv hr
          clear hr
          obtain ⟨x59, e59, hr⟩ := hq
          refine wa_step (v := (.i .u32 x59)) (a_pure (p_bin rfl rfl (b_and.trans (ci e59)))) ?_
          have hq := bindO_inv hr
          clear hr
          obtain ⟨v60, e60, hr⟩ := hq
          refine wa_step (v := v60) (a_pure (o_ixA g3 rfl e60)) ?_
          have hq := bindO_inv hr
          clear hr
          obtain ⟨v61, e61, hr⟩ := hq
          refine wa_step (v := v61) (a_pure (o_ixA rfl rfl e61)) ?_
          have hq := asP_inv hr
          clear hr
          obtain ⟨qs, eqs, hr⟩ := hq
          refine wa_stepN (a_st (Eq.trans (b := v61) rfl eqs) rfl rfl) ?_
          have hq := bindO_inv hr
          clear hr
          obtain ⟨m_16, ew, hr⟩ := hq
          refine wa_nil ?_
          refine ⟨m_16, ew, ?_⟩
          refine bk_norm ?_
          refine nx_norm ?_
          refine w_ops ?_
          have hq := forceI_inv hr
          clear hr
          obtain ⟨x62, e62, hr⟩ := hq
          refine wo_step (v := (.i .i64 x62)) (s_pure (p_bin g26 rfl (b_add.trans (ci e62)))) ?_
          refine wo_step (v := (.i .i64 x62)) (s_pure (p_mv rfl)) ?_
          refine wo_nil ?_
          cases hr
          exact ⟨_, _, rfl, rfl, rfl, gl rfl, gl g1, gl g2, gl g3, gl g24, gl g25⟩
      · refine w_condF rfl ?_
        refine w_exit ?_
        refine nx_exit ?_
        cases hr
        exact ⟨_, _, rfl, ne_norm_exit, rfl, rfl, gl g2, gl g3⟩
    · obtain ⟨m_17, ho⟩ : ∃ z, z = o_3 := ⟨_, rfl⟩
      subst ho
      rintro _ mm_3 t_7 ⟨rfl, rfl, g2, g3⟩
      refine bk_hit ?_
      refine nx_norm ?_
      refine w_seq ?_
      refine w_ops ?_
      have hq := bindO_inv hr
      clear hr
      obtain ⟨v63, e63, hr⟩ := hq
      refine wo_step (v := v63) (s_ld g3 e63) ?_
      have hq := bindP_inv hr
      clear hr
      obtain ⟨vn_3, m_18, en_3, hr⟩ := hq
      refine wo_stepN (s_st g2 rfl en_3) ?_
      refine wo_nil ?_
      refine nx_norm ?_
      refine w_ret ?_
      have hq := bindO_inv hr
      clear hr
      obtain ⟨vr, er, hr⟩ := hq
      exact qf ret_ok (rc g2 er rn) hr

/- (dibber/turn.hours).least -/

def g63 (M : Means) (ro : List ABlk) (x0 : Int) (m0 : Mm) : Option (AVal × Heap × Nat × Nat) :=
  bindP (callM M.call m0 79 [(.i .u32 x0)]) fun v4 m_1 =>
  asI .i64 v4 fun x4 =>
  finM m0.h.length (tupA [(.i .i64 x4)]) m_1

theorem g63_ok {ro : List ABlk} {O : Caller} {M : Means} (hM : M.Ok ⟨F, O⟩ ro) {x0 h r} (ho : O 63 [(.i .u32 x0)] h = none) (hr : g63 M ro x0 ⟨h, h.length, h.length⟩ = some r) : callX ⟨F, O⟩ ro 63 [(.i .u32 x0)] h = some r := by
  refine callX_of (F := ⟨F, O⟩) (fn := fn63) (g := g63 M ro x0) ho rfl rfl hr ?_
  clear ho
  clear hr
  intro m0 t0 ht hr
  have g0 : t0.get 0 = (.i .u32 x0) := ht 0
  clear ht
  unfold g63 at hr
  refine w_seq ?_
  refine w_ops ?_
  refine wo_step (v := (.i .i64 0)) (s_pure (p_mv rfl)) ?_
  refine wo_nil ?_
  refine nx_norm ?_
  refine w_seq ?_
  refine w_ops ?_
  refine wo_step (v := (.i .u32 x0)) (s_pure (p_mv g0)) ?_
  have hq := bindP_inv hr
  clear hr
  obtain ⟨v4, m_1, e4, hr⟩ := hq
  have hq := asI_inv hr
  clear hr
  obtain ⟨x4, rfl, hr⟩ := hq
  refine wo_step (v := (.i .i64 x4)) (s_call (mc rfl mn) (callM_le hM.call e4)) ?_
  refine wo_step (v := (.i .i64 x4)) (s_pure (p_mv rfl)) ?_
  refine wo_nil ?_
  refine nx_norm ?_
  refine w_ret ?_
  exact qf ret_ok (rt rfl rn) hr

/- (dibber/turn.hours).withoutLeast -/

def g64 (M : Means) (ro : List ABlk) (x0 : Int) (m0 : Mm) : Option (AVal × Heap × Nat × Nat) :=
  forceI (wr .u32 (x0 - 1)) fun x5 =>
  forceI (bitV .and .u32 x0 x5) fun x6 =>
  finM m0.h.length (tupA [(.i .u32 x6)]) m0

theorem g64_ok {ro : List ABlk} {O : Caller} {M : Means} (hM : M.Ok ⟨F, O⟩ ro) {x0 h r} (ho : O 64 [(.i .u32 x0)] h = none) (hr : g64 M ro x0 ⟨h, h.length, h.length⟩ = some r) : callX ⟨F, O⟩ ro 64 [(.i .u32 x0)] h = some r := by
  refine callX_of (F := ⟨F, O⟩) (fn := fn64) (g := g64 M ro x0) ho rfl rfl hr ?_
  clear ho
  clear hr
  intro m0 t0 ht hr
  have g0 : t0.get 0 = (.i .u32 x0) := ht 0
  clear ht
  unfold g64 at hr
  refine w_seq ?_
  refine w_ops ?_
  refine wo_step (v := (.i .u32 0)) (s_pure (p_mv rfl)) ?_
  refine wo_nil ?_
  refine nx_norm ?_
  refine w_seq ?_
  refine w_ops ?_
  refine wo_step (v := (.i .u32 x0)) (s_pure (p_mv g0)) ?_
  refine wo_step (v := (.i .u32 x0)) (s_pure (p_mv g0)) ?_
  have hq := forceI_inv hr
  clear hr
  obtain ⟨x5, e5, hr⟩ := hq
  refine wo_step (v := (.i .u32 x5)) (s_pure (p_bin rfl rfl (b_sub.trans (ci e5)))) ?_
  have hq := forceI_inv hr
  clear hr
  obtain ⟨x6, e6, hr⟩ := hq
  refine wo_step (v := (.i .u32 x6)) (s_pure (p_bin rfl rfl (b_and.trans (ci e6)))) ?_
  refine wo_step (v := (.i .u32 x6)) (s_pure (p_mv rfl)) ?_
  refine wo_nil ?_
  refine nx_norm ?_
  refine w_ret ?_
  exact qf ret_ok (rt rfl rn) hr

/- (dibber/turn.demands).open -/
abbrev g65_I0 (v2 : AVal) (v3 : AVal) (v4 : AVal) (x13 : Int) (m_3 : Mm) (s : Int × Int) (m1 : Mm) (t1 : Tr) : Prop :=
  match s with
  | (x7, x14) => m_3 = m1 ∧ t1.get 7 = (.i .u32 x7) ∧ t1.get 14 = (.i .i64 x14) ∧ t1.get 2 = v2 ∧ t1.get 3 = v3 ∧ t1.get 4 = v4 ∧ t1.get 12 = v2 ∧ t1.get 13 = (.i .i64 x13)
abbrev g65_J0 (v2 : AVal) (v3 : AVal) (v4 : AVal) (x13 : Int) (m_3 : Mm) (o : Int) (e : AExit) (m1 : Mm) (t1 : Tr) : Prop :=
  match o with
  | y7 => e = (.exit 0) ∧ m_3 = m1 ∧ t1.get 7 = (.i .u32 y7)
def g65_b0 (M : Means) (ro : List ABlk) (v2 : AVal) (v3 : AVal) (v4 : AVal) (x13 : Int) (m_3 : Mm) (x7 : Int) (x14 : Int) : Option ((Int × Int) ⊕ (Int)) :=
  forceB (ltI x14 x13) fun c15 =>
  cond c15 (
    bindO (evP .e (.ixS 1 (.c v2) (.c (.i .i64 x14)))) fun v17 =>
    bindO (ldM ro m_3 true 1 v17) fun v18 =>
    asI .i64 v18 fun x18 =>
    bindO (ldA ro m_3.h false 3 v3) fun v20 =>
    bindO (evP .e (.len false (.c v2))) fun v23 =>
    asI .i64 v23 fun x23 =>
    bindO (evP .e (.ixA 6 6 (.c v4) (.c (.i .i64 x14)))) fun v24 =>
    bindO (evP .e (.ixA 6 1 (.c v24) (.c (.i .i64 x23)))) fun v25 =>
    bindO (ldA ro m_3.h true 1 v25) fun v26 =>
    asI .u32 v26 fun x26 =>
    bindO (callN M.call m_3.h 78 [v20, (.i .u32 x26), (.i .i64 x18)]) fun v28 =>
    asI .u32 v28 fun x28 =>
    forceI (bitV .and .u32 x7 x28) fun x29 =>
    forceI (wr .i64 (x14 + 1)) fun x30 =>
    some (.inl (x29, x30))) (
    some (.inr x7))
def g65 (M : Means) (ro : List ABlk) (v0 : AVal) (v1 : AVal) (v2 : AVal) (m0 : Mm) : Option (AVal × Heap × Nat × Nat) :=
  bindP (stepM ro m0 (.bx 55 3 (.c v0))) fun v3 m_1 =>
  bindP (stepM ro m_1 (.bx 84 36 (.c v1))) fun v4 m_2 =>
  bindO (ldM ro m_2 false 3 v3) fun v10 =>
  bindP (callM M.call m_2 76 [v10]) fun v11 m_3 =>
  asI .u32 v11 fun x11 =>
  bindO (evP .e (.len false (.c v2))) fun v13 =>
  asI .i64 v13 fun x13 =>
  bindO (M.loop (S := Int × Int) (R := Int) (fun s => g65_b0 M ro v2 v3 v4 x13 m_3 s.1 s.2) (x11, 0)) fun x7_1 =>
  finM m0.h.length (tupA [(.i .u32 x7_1)]) m_3

theorem g65_ok {ro : List ABlk} {O : Caller} {M : Means} (hM : M.Ok ⟨F, O⟩ ro) {v0 v1 v2 h r} (ho : O 65 [v0, v1, v2] h = none) (hr : g65 M ro v0 v1 v2 ⟨h, h.length, h.length⟩ = some r) : callX ⟨F, O⟩ ro 65 [v0, v1, v2] h = some r := by
  refine callX_of (F := ⟨F, O⟩) (fn := fn65) (g := g65 M ro v0 v1 v2) ho rfl rfl hr ?_
  clear ho
  clear hr
  intro m0 t0 ht hr
  have g0 : t0.get 0 = v0 := ht 0
  have g1 : t0.get 1 = v1 := ht 1
  have g2 : t0.get 2 = v2 := ht 2
  clear ht
  unfold g65 at hr
  refine w_seq ?_
  refine w_ops ?_
  have hq := bindP_inv hr
  clear hr
  obtain ⟨v3, m_1, e3, hr⟩ := hq
  refine wo_step (v := v3) (s_bx g0 e3) ?_
  have hq := bindP_inv hr
  clear hr
  obtain ⟨v4, m_2, e4, hr⟩ := hq
  refine wo_step (v := v4) (s_bx g1 e4) ?_
  refine wo_step (v := (.i .u32 0)) (s_pure (p_mv rfl)) ?_
  refine wo_nil ?_
  refine nx_norm ?_
  refine w_seq ?_
  refine w_ops ?_
  have hq := bindO_inv hr
  clear hr
  obtain ⟨v10, e10, hr⟩ := hq
  refine wo_step (v := v10) (s_ld rfl e10) ?_
  have hq := bindP_inv hr
  clear hr
  obtain ⟨v11, m_3, e11, hr⟩ := hq
  have hq := asI_inv hr
  clear hr
  obtain ⟨x11, rfl, hr⟩ := hq
  refine wo_step (v := (.i .u32 x11)) (s_call (mc rfl mn) (callM_le hM.call e11)) ?_
  refine wo_step (v := (.i .u32 x11)) (s_pure (p_mv rfl)) ?_
  refine wo_nil ?_
  refine nx_norm ?_
  refine w_seq ?_
  refine w_seq ?_
  refine w_ops ?_
  refine wo_step (v := v2) (s_pure (p_mv g2)) ?_
  have hq := bindO_inv hr
  clear hr
  obtain ⟨v13, e13, hr⟩ := hq
  have hq := asI_inv hr
  clear hr
  obtain ⟨x13, rfl, hr⟩ := hq
  refine wo_step (v := (.i .i64 x13)) (s_pure (o_len rfl e13)) ?_
  refine wo_step (v := (.i .i64 0)) (s_pure (p_mv rfl)) ?_
  refine wo_nil ?_
  refine nx_norm ?_
  refine w_block ?_
  have hq := bindO_inv hr
  clear hr
  obtain ⟨o, hl, hr⟩ := hq
  obtain ⟨n, hl⟩ := hM.loop _ _ _ hl
  refine jp_mono (w_loop _ (g65_I0 v2 v3 v4 x13 m_3) (g65_J0 v2 v3 v4 x13 m_3) ?_ n _ _ _ _ hl ⟨rfl, gl rfl, gl rfl, gl g2, gl rfl, gl rfl, gl rfl, gl rfl⟩) ?_
  · clear hr hl
    intro s mm_1 t_1 o hi hr
    obtain ⟨x7, x14⟩ := s
    obtain ⟨rfl, g7, g14, g2, g3, g4, g12, g13⟩ := hi
    unfold g65_b0 at hr
    refine w_seq ?_
    refine w_ops ?_
    have hq := forceB_inv hr
    clear hr
    obtain ⟨c15, e15, hr⟩ := hq
    refine wo_step (v := (.b c15)) (s_pure (p_bin g14 g13 (b_lss.trans (cb e15)))) ?_
    refine wo_nil ?_
    refine nx_norm ?_
    refine w_seq ?_
    have hq := cond_inv hr
    clear hr
    rcases hq with ⟨rfl, hr⟩ | ⟨rfl, hr⟩
    · refine w_condT rfl ?_
      refine w_skip ?_
      refine nx_norm ?_
      refine w_seq ?_
      refine w_block ?_
      refine w_seq ?_
      refine w_ops ?_
      refine wo_step (v := (.i .i64 x14)) (s_pure (p_mv g14)) ?_
      have hq := bindO_inv hr
      clear hr
      obtain ⟨v17, e17, hr⟩ := hq
      refine wo_step (v := v17) (s_pure (o_ixS g12 g14 e17)) ?_
      have hq := bindO_inv hr
      clear hr
      obtain ⟨v18, e18, hr⟩ := hq
      have hq := asI_inv hr
      clear hr
      obtain ⟨x18, rfl, hr⟩ := hq
      refine wo_step (v := (.i .i64 x18)) (s_ld rfl e18) ?_
      refine wo_step (v := (.i .i64 x14)) (s_pure (p_mv rfl)) ?_
      refine wo_step (v := (.i .i64 x18)) (s_pure (p_mv rfl)) ?_
      refine wo_nil ?_
      refine nx_norm ?_
      refine w_any ?_
      refine wa_step (v := (.i .u32 x7)) (a_pure (p_mv g7)) ?_
      have hq := bindO_inv hr
      clear hr
      obtain ⟨v20, e20, hr⟩ := hq
      refine wa_step (v := v20) (a_ld g3 e20) ?_
      refine wa_step (v := (.i .i64 x14)) (a_pure (p_mv rfl)) ?_
      refine wa_step (v := v2) (a_pure (p_mv g2)) ?_
      have hq := bindO_inv hr
      clear hr
      obtain ⟨v23, e23, hr⟩ := hq
      have hq := asI_inv hr
      clear hr
      obtain ⟨x23, rfl, hr⟩ := hq
      refine wa_step (v := (.i .i64 x23)) (a_pure (o_len rfl e23)) ?_
      have hq := bindO_inv hr
      clear hr
      obtain ⟨v24, e24, hr⟩ := hq
      refine wa_step (v := v24) (a_pure (o_ixA g4 rfl e24)) ?_
      have hq := bindO_inv hr
      clear hr
      obtain ⟨v25, e25, hr⟩ := hq
      refine wa_step (v := v25) (a_pure (o_ixA rfl rfl e25)) ?_
      have hq := bindO_inv hr
      clear hr
      obtain ⟨v26, e26, hr⟩ := hq
      have hq := asI_inv hr
      clear hr
      obtain ⟨x26, rfl, hr⟩ := hq
      refine wa_step (v := (.i .u32 x26)) (a_ld rfl e26) ?_
      refine wa_step (v := (.i .i64 x18)) (a_pure (p_mv rfl)) ?_
      have hq := bindO_inv hr
      clear hr
      obtain ⟨v28, e28, hr⟩ := hq
      have hq := asI_inv hr
      clear hr
      obtain ⟨x28, rfl, hr⟩ := hq
      refine wa_step (v := (.i .u32 x28)) (a_call (mc rfl (mc rfl (mc rfl mn))) (callN_le hM.call e28)) ?_
      have hq := forceI_inv hr
      clear hr
      obtain ⟨x29, e29, hr⟩ := hq
      refine wa_step (v := (.i .u32 x29)) (a_pure (p_bin rfl rfl (b_and.trans (ci e29)))) ?_
      refine wa_step (v := (.i .u32 x29)) (a_pure (p_mv rfl)) ?_
      refine wa_nil ?_
      refine ⟨m_3, rfl, ?_⟩
      refine bk_norm ?_
      refine nx_norm ?_
      refine w_ops ?_
      have hq := forceI_inv hr
      clear hr
      obtain ⟨x30, e30, hr⟩ := hq
      refine wo_step (v := (.i .i64 x30)) (s_pure (p_bin g14 rfl (b_add.trans (ci e30)))) ?_
      refine wo_step (v := (.i .i64 x30)) (s_pure (p_mv rfl)) ?_
      refine wo_nil ?_
      cases hr
      exact ⟨_, _, rfl, rfl, rfl, gl rfl, gl rfl, gl g2, gl g3, gl g4, gl g12, gl g13⟩
    · refine w_condF rfl ?_
      refine w_exit ?_
      refine nx_exit ?_
      cases hr
      exact ⟨_, _, rfl, ne_norm_exit, rfl, rfl, gl g7⟩
  · obtain ⟨x7_1, ho⟩ : ∃ z, z = o := ⟨_, rfl⟩
    subst ho
    rintro _ mm t_2 ⟨rfl, rfl, g7⟩
    refine bk_hit ?_
    refine nx_norm ?_
    refine w_seq ?_
    refine w_ops ?_
    refine wo_step (v := (.i .u32 x7_1)) (s_pure (p_mv g7)) ?_
    refine wo_step (v := (.i .u32 x7_1)) (s_pure (p_mv rfl)) ?_
    refine wo_nil ?_
    refine nx_norm ?_
    refine w_ret ?_
    exact qf ret_ok (rt rfl rn) hr

/- (dibber/turn.demands).modulo -/

def g70 (M : Means) (ro : List ABlk) (v0 : AVal) (x1 : Int) (m0 : Mm) : Option (AVal × Heap × Nat × Nat) :=
  bindP (stepM ro m0 (.bx 55 3 (.c v0))) fun v2 m_1 =>
  bindO (evP .e (.faddr 0 (.c v2))) fun v6 =>
  bindO (ldA ro m_1.h true 1 v6) fun v7 =>
  asI .i64 v7 fun x7 =>
  chk (!eqI x7 (.ofNat 0)) <|
  forceI (Int.tmod x1 x7) fun x8 =>
  bindO (evP .e (.faddr 0 (.c v2))) fun v9 =>
  bindO (ldA ro m_1.h true 1 v9) fun v10 =>
  asI .i64 v10 fun x10 =>
  forceI (wr .i64 (x8 + x10)) fun x11 =>
  bindO (evP .e (.faddr 0 (.c v2))) fun v12 =>
  bindO (ldA ro m_1.h true 1 v12) fun v13 =>
  asI .i64 v13 fun x13 =>
  chk (!eqI x13 (.ofNat 0)) <|
  forceI (Int.tmod x11 x13) fun x14 =>
  finM m0.h.length (tupA [(.i .i64 x14)]) m_1

theorem g70_ok {ro : List ABlk} {O : Caller} {M : Means} (hM : M.Ok ⟨F, O⟩ ro) {v0 x1 h r} (ho : O 70 [v0, (.i .i64 x1)] h = none) (hr : g70 M ro v0 x1 ⟨h, h.length, h.length⟩ = some r) : callX ⟨F, O⟩ ro 70 [v0, (.i .i64 x1)] h = some r := by
  refine callX_of (F := ⟨F, O⟩) (fn := fn70) (g := g70 M ro v0 x1) ho rfl rfl hr ?_
  clear ho
  clear hr
  intro m0 t0 ht hr
  have g0 : t0.get 0 = v0 := ht 0
  have g1 : t0.get 1 = (.i .i64 x1) := ht 1
  clear ht
  unfold g70 at hr
  refine w_seq ?_
  refine w_ops ?_
  have hq := bindP_inv hr
  clear hr
  obtain ⟨v2, m_1, e2, hr⟩ := hq
  refine wo_step (v := v2) (s_bx g0 e2) ?_
  refine wo_step (v := (.i .i64 0)) (s_pure (p_mv rfl)) ?_
  refine wo_nil ?_
  refine nx_norm ?_
  refine w_seq ?_
  refine w_any ?_
  refine wa_step (v := (.i .i64 x1)) (a_pure (p_mv g1)) ?_
  have hq := bindO_inv hr
  clear hr
  obtain ⟨v6, e6, hr⟩ := hq
  refine wa_step (v := v6) (a_pure (o_faddr rfl e6)) ?_
  have hq := bindO_inv hr
  clear hr
  obtain ⟨v7, e7, hr⟩ := hq
  have hq := asI_inv hr
  clear hr
  obtain ⟨x7, rfl, hr⟩ := hq
  refine wa_step (v := (.i .i64 x7)) (a_ld rfl e7) ?_
  have hq := chk_inv hr
  clear hr
  obtain ⟨hc8, hr⟩ := hq
  have hq := forceI_inv hr
  clear hr
  obtain ⟨x8, e8, hr⟩ := hq
  refine wa_step (v := (.i .i64 x8)) (a_pure (p_bin rfl rfl ((b_rem hc8).trans (ci e8)))) ?_
  have hq := bindO_inv hr
  clear hr
  obtain ⟨v9, e9, hr⟩ := hq
  refine wa_step (v := v9) (a_pure (o_faddr rfl e9)) ?_
  have hq := bindO_inv hr
  clear hr
  obtain ⟨v10, e10, hr⟩ := hq
  have hq := asI_inv hr
  clear hr
  obtain ⟨x10, rfl, hr⟩ := hq
  refine wa_step (v := (.i .i64 x10)) (a_ld rfl e10) ?_
  have hq := forceI_inv hr
  clear hr
  obtain ⟨x11, e11, hr⟩ := hq
  refine wa_step (v := (.i .i64 x11)) (a_pure (p_bin rfl rfl (b_add.trans (ci e11)))) ?_
  have hq := bindO_inv hr
  clear hr
  obtain ⟨v12, e12, hr⟩ := hq
  refine wa_step (v := v12) (a_pure (o_faddr rfl e12)) ?_
  have hq := bindO_inv hr
  clear hr
  obtain ⟨v13, e13, hr⟩ := hq
  have hq := asI_inv hr
  clear hr
  obtain ⟨x13, rfl, hr⟩ := hq
  refine wa_step (v := (.i .i64 x13)) (a_ld rfl e13) ?_
  have hq := chk_inv hr
  clear hr
  obtain ⟨hc14, hr⟩ := hq
  have hq := forceI_inv hr
  clear hr
  obtain ⟨x14, e14, hr⟩ := hq
  refine wa_step (v := (.i .i64 x14)) (a_pure (p_bin rfl rfl ((b_rem hc14).trans (ci e14)))) ?_
  refine wa_step (v := (.i .i64 x14)) (a_pure (p_mv rfl)) ?_
  refine wa_nil ?_
  refine ⟨m_1, rfl, ?_⟩
  refine nx_norm ?_
  refine w_ret ?_
  exact qf ret_ok (rt rfl rn) hr

/- (dibber/turn.demands).step -/
abbrev g74_J0 (x1 : Int) (v2 : AVal) (v4 : AVal) (x9 : Int) (m_2 : Mm) (o : Bool) (m1 : Mm) (t1 : Tr) : Prop :=
  match o with
  | c17 => m_2 = m1 ∧ t1.get 17 = (.b c17) ∧ t1.get 1 = (.i .i64 x1) ∧ t1.get 2 = v2 ∧ t1.get 4 = v4 ∧ t1.get 6 = (.i .i64 x9)
abbrev g74_J1 (x1 : Int) (v2 : AVal) (v4 : AVal) (m_2 : Mm) (o : Bool) (m1 : Mm) (t1 : Tr) : Prop :=
  match o with
  | c32 => m_2 = m1 ∧ t1.get 32 = (.b c32) ∧ t1.get 1 = (.i .i64 x1) ∧ t1.get 2 = v2 ∧ t1.get 4 = v4
def g74 (M : Means) (ro : List ABlk) (v0 : AVal) (x1 : Int) (m0 : Mm) : Option (AVal × Heap × Nat × Nat) :=
  bindP (stepM ro m0 (.bx 55 3 (.c v0))) fun v2 m_1 =>
  bindP (stepM ro m_1 (.al 31 [(AVal.i IntKind.i64 0), (AVal.i IntKind.i64 0), (AVal.i IntKind.i64 0), (AVal.i IntKind.i64 0)])) fun v4 m_2 =>
  bindO (evP .e (.faddr 2 (.c v2))) fun v7 =>
  bindO (ldM ro m_2 true 1 v7) fun v8 =>
  bindO (evP .e (.len false (.c v8))) fun v9 =>
  asI .i64 v9 fun x9 =>
  forceB (!ltI x1 1) fun c12 =>
  bindO (cond c12 (
    forceB (!ltI x9 x1) fun c16 =>
    some c16) (
    some false)) fun c17 =>
  cond c17 (
    bindO (evP .e (.faddr 2 (.c v2))) fun v18 =>
    bindO (ldM ro m_2 true 1 v18) fun v19 =>
    forceI (wr .i64 (x1 - 1)) fun x21 =>
    bindO (evP .e (.ixS 4 (.c v19) (.c (.i .i64 x21)))) fun v22 =>
    bindO (ldM ro m_2 false 4 v22) fun v23 =>
    bindP (stepM ro m_2 (.st 4 (.c v4) (.c v23))) fun vn m_3 =>
    bindO (ldM ro m_3 false 4 v4) fun vr =>
    finM m0.h.length (tupA [vr, (.b true)]) m_3) (
    forceB (!ltI (-1) x1) fun c26 =>
    bindO (cond c26 (
      forceI (wr .i64 (0 - x9)) fun x30 =>
      forceB (!ltI x1 x30) fun c31 =>
      some c31) (
      some false)) fun c32 =>
    cond c32 (
      bindO (evP .e (.faddr 2 (.c v2))) fun v33 =>
      bindO (ldM ro m_2 true 1 v33) fun v34 =>
      forceI (wr .i64 (0 - x1)) fun x36 =>
      forceI (wr .i64 (x36 - 1)) fun x37 =>
      bindO (evP .e (.ixS 4 (.c v34) (.c (.i .i64 x37)))) fun v38 =>
      bindO (ldM ro m_2 false 4 v38) fun v39 =>
      bindP (callM M.call m_2 77 [v39]) fun v40 m_4 =>
      bindP (stepM ro m_4 (.st 4 (.c v4) (.c v40))) fun vn_1 m_5 =>
      bindO (ldM ro m_5 false 4 v4) fun vr_1 =>
      finM m0.h.length (tupA [vr_1, (.b true)]) m_5) (
      bindO ((fillA [(AVal.i IntKind.i64 0), (AVal.i IntKind.i64 0), (AVal.i IntKind.i64 0), (AVal.i IntKind.i64 0)] []).map AVal.agg) fun v41 =>
      bindP (stepM ro m_2 (.st 4 (.c v4) (.c v41))) fun vn_2 m_6 =>
      bindO (ldM ro m_6 false 4 v4) fun vr_2 =>
      finM m0.h.length (tupA [vr_2, (.b false)]) m_6))

theorem g74_ok {ro : List ABlk} {O : Caller} {M : Means} (hM : M.Ok ⟨F, O⟩ ro) {v0 x1 h r} (ho : O 74 [v0, (.i .i64 x1)] h = none) (hr : g74 M ro v0 x1 ⟨h, h.length, h.length⟩ = some r) : callX ⟨F, O⟩ ro 74 [v0, (.i .i64 x1)] h = some r := by
  refine callX_of (F := ⟨F, O⟩) (fn := fn74) (g := g74 M ro v0 x1) ho rfl rfl hr ?_
  clear ho
  clear hr
  intro m0 t0 ht hr
  have g0 : t0.get 0 = v0 := ht 0
  have g1 : t0.get 1 = (.i .i64 x1) := ht 1
  clear ht
  unfold g74 at hr
  refine w_seq ?_
  refine w_ops ?_
  have hq := bindP_inv hr
  clear hr
  obtain ⟨v2, m_1, e2, hr⟩ := hq
  refine wo_step (v := v2) (s_bx g0 e2) ?_
  have hq := bindP_inv hr
  clear hr
  obtain ⟨v4, m_2, e4, hr⟩ := hq
  refine wo_step (v := v4) (s_al e4) ?_
  refine wo_step (v := (.b false)) (s_pure (p_mv rfl)) ?_
  refine wo_nil ?_
  refine nx_norm ?_
  refine w_seq ?_
  refine w_ops ?_
  have hq := bindO_inv hr
  clear hr
  obtain ⟨v7, e7, hr⟩ := hq
  refine wo_step (v := v7) (s_pure (o_faddr rfl e7)) ?_
  have hq := bindO_inv hr
  clear hr
  obtain ⟨v8, e8, hr⟩ := hq
  refine wo_step (v := v8) (s_ld rfl e8) ?_
  have hq := bindO_inv hr
  clear hr
  obtain ⟨v9, e9, hr⟩ := hq
  have hq := asI_inv hr
  clear hr
  obtain ⟨x9, rfl, hr⟩ := hq
  refine wo_step (v := (.i .i64 x9)) (s_pure (o_len rfl e9)) ?_
  refine wo_step (v := (.i .i64 x9)) (s_pure (p_mv rfl)) ?_
  refine wo_nil ?_
  refine nx_norm ?_
  refine w_seq ?_
  refine w_block ?_
  refine w_seq ?_
  refine w_ops ?_
  refine wo_step (v := (.i .i64 x1)) (s_pure (p_mv g1)) ?_
  have hq := forceB_inv hr
  clear hr
  obtain ⟨c12, e12, hr⟩ := hq
  refine wo_step (v := (.b c12)) (s_pure (p_bin rfl rfl (b_geq.trans (cb e12)))) ?_
  refine wo_step (v := (.b c12)) (s_pure (p_mv rfl)) ?_
  have hq := bindO_inv hr
  clear hr
  obtain ⟨o, hr, hk⟩ := hq
  refine wo_join 4 (g74_J0 x1 v2 v4 x9 m_2 o) ?_ ?_
  · clear hk
    have hq := cond_inv hr
    clear hr
    rcases hq with ⟨rfl, hr⟩ | ⟨rfl, hr⟩
    · refine wo_take (v := (.i .i64 x1)) rfl (s_pure (p_mv g1)) ?_
      refine wo_take (v := (.i .i64 x9)) rfl (s_pure (p_mv rfl)) ?_
      have hq := forceB_inv hr
      clear hr
      obtain ⟨c16, e16, hr⟩ := hq
      refine wo_take (v := (.b c16)) rfl (s_pure (p_bin rfl rfl (b_leq.trans (cb e16)))) ?_
      refine wo_step (v := (.b c16)) (s_pure (p_pickT rfl rfl)) ?_
      refine wo_nil ?_
      cases hr
      exact ⟨_, _, rfl, rfl, gl rfl, gl g1, gl rfl, gl rfl, gl rfl⟩
    · refine wo_skip (v := (.b false)) rfl rfl ?_
      refine wo_skip (v := (.b false)) rfl rfl ?_
      refine wo_skip (v := (.b false)) rfl rfl ?_
      refine wo_step (v := (.b false)) (s_pure (p_pickF rfl rfl)) ?_
      refine wo_nil ?_
      cases hr
      exact ⟨_, _, rfl, rfl, gl rfl, gl g1, gl rfl, gl rfl, gl rfl⟩
  · clear hr
    have hr := hk
    clear hk
    obtain ⟨c17, ho⟩ : ∃ z, z = o := ⟨_, rfl⟩
    subst ho
    rintro mm t_1 ⟨rfl, g17, g1, g2, g4, g6⟩
    refine wo_step (v := (.b c17)) (s_pure (p_mv g17)) ?_
    refine wo_nil ?_
    refine nx_norm ?_
    have hq := cond_inv hr
    clear hr
    rcases hq with ⟨rfl, hr⟩ | ⟨rfl, hr⟩
    · refine w_condT rfl ?_
      refine w_seq ?_
      refine w_ops ?_
      have hq := bindO_inv hr
      clear hr
      obtain ⟨v18, e18, hr⟩ := hq
      refine wo_step (v := v18) (s_pure (o_faddr g2 e18)) ?_
      have hq := bindO_inv hr
      clear hr
      obtain ⟨v19, e19, hr⟩ := hq
      refine wo_step (v := v19) (s_ld rfl e19) ?_
      refine wo_step (v := (.i .i64 x1)) (s_pure (p_mv g1)) ?_
      have hq := forceI_inv hr
      clear hr
      obtain ⟨x21, e21, hr⟩ := hq
      refine wo_step (v := (.i .i64 x21)) (s_pure (p_bin rfl rfl (b_sub.trans (ci e21)))) ?_
      have hq := bindO_inv hr
      clear hr
      obtain ⟨v22, e22, hr⟩ := hq
      refine wo_step (v := v22) (s_pure (o_ixS rfl rfl e22)) ?_
      have hq := bindO_inv hr
      clear hr
      obtain ⟨v23, e23, hr⟩ := hq
      refine wo_step (v := v23) (s_ld rfl e23) ?_
      have hq := bindP_inv hr
      clear hr
      obtain ⟨vn, m_3, en, hr⟩ := hq
      refine wo_stepN (s_st g4 rfl en) ?_
      refine wo_step (v := (.b true)) (s_pure (p_mv rfl)) ?_
      refine wo_nil ?_
      refine nx_norm ?_
      refine w_ret ?_
      refine bk_ret ?_
      refine nx_ret ?_
      have hq := bindO_inv hr
      clear hr
      obtain ⟨vr, er, hr⟩ := hq
      exact qf ret_ok (rc g4 er (rt rfl rn)) hr
    · refine w_condF rfl ?_
      refine w_seq ?_
      refine w_ops ?_
      refine wo_step (v := (.i .i64 x1)) (s_pure (p_mv g1)) ?_
      have hq := forceB_inv hr
      clear hr
      obtain ⟨c26, e26, hr⟩ := hq
      refine wo_step (v := (.b c26)) (s_pure (p_bin rfl rfl (b_leq.trans (cb e26)))) ?_
      refine wo_step (v := (.b c26)) (s_pure (p_mv rfl)) ?_
      have hq := bindO_inv hr
      clear hr
      obtain ⟨o_1, hr, hk⟩ := hq
      refine wo_join 5 (g74_J1 x1 v2 v4 m_2 o_1) ?_ ?_
      · clear hk
        have hq := cond_inv hr
        clear hr
        rcases hq with ⟨rfl, hr⟩ | ⟨rfl, hr⟩
        · refine wo_take (v := (.i .i64 x1)) rfl (s_pure (p_mv g1)) ?_
          refine wo_take (v := (.i .i64 x9)) rfl (s_pure (p_mv g6)) ?_
          have hq := forceI_inv hr
          clear hr
          obtain ⟨x30, e30, hr⟩ := hq
          refine wo_take (v := (.i .i64 x30)) rfl (s_pure ((p_neg rfl).trans (ci e30))) ?_
          have hq := forceB_inv hr
          clear hr
          obtain ⟨c31, e31, hr⟩ := hq
          refine wo_take (v := (.b c31)) rfl (s_pure (p_bin rfl rfl (b_geq.trans (cb e31)))) ?_
          refine wo_step (v := (.b c31)) (s_pure (p_pickT rfl rfl)) ?_
          refine wo_nil ?_
          cases hr
          exact ⟨_, _, rfl, rfl, gl rfl, gl g1, gl g2, gl g4⟩
        · refine wo_skip (v := (.b false)) rfl rfl ?_
          refine wo_skip (v := (.b false)) rfl rfl ?_
          refine wo_skip (v := (.b false)) rfl rfl ?_
          refine wo_skip (v := (.b false)) rfl rfl ?_
          refine wo_step (v := (.b false)) (s_pure (p_pickF rfl rfl)) ?_
          refine wo_nil ?_
          cases hr
          exact ⟨_, _, rfl, rfl, gl rfl, gl g1, gl g2, gl g4⟩
      · clear hr
        have hr := hk
        clear hk
        obtain ⟨c32, ho⟩ : ∃ z, z = o_1 := ⟨_, rfl⟩
        subst ho
        rintro mm_1 t_2 ⟨rfl, g32, g1, g2, g4⟩
        refine wo_step (v := (.b c32)) (s_pure (p_mv g32)) ?_
        refine wo_nil ?_
        refine nx_norm ?_
        have hq := cond_inv hr
        clear hr
        rcases hq with ⟨rfl, hr⟩ | ⟨rfl, hr⟩
        · refine w_condT rfl ?_
          refine w_seq ?_
          refine w_ops ?_
          have hq := bindO_inv hr
          clear hr
          obtain ⟨v33, e33, hr⟩ := hq
          refine wo_step (v := v33) (s_pure (o_faddr g2 e33)) ?_
          have hq := bindO_inv hr
          clear hr
          obtain ⟨v34, e34, hr⟩ := hq
          refine wo_step (v := v34) (s_ld rfl e34) ?_
          refine wo_step (v := (.i .i64 x1)) (s_pure (p_mv g1)) ?_
          have hq := forceI_inv hr
          clear hr
          obtain ⟨x36, e36, hr⟩ := hq
          refine wo_step (v := (.i .i64 x36)) (s_pure ((p_neg rfl).trans (ci e36))) ?_
          have hq := forceI_inv hr
          clear hr
          obtain ⟨x37, e37, hr⟩ := hq
          refine wo_step (v := (.i .i64 x37)) (s_pure (p_bin rfl rfl (b_sub.trans (ci e37)))) ?_
          have hq := bindO_inv hr
          clear hr
          obtain ⟨v38, e38, hr⟩ := hq
          refine wo_step (v := v38) (s_pure (o_ixS rfl rfl e38)) ?_
          have hq := bindO_inv hr
          clear hr
          obtain ⟨v39, e39, hr⟩ := hq
          refine wo_step (v := v39) (s_ld rfl e39) ?_
          have hq := bindP_inv hr
          clear hr
          obtain ⟨v40, m_4, e40, hr⟩ := hq
          refine wo_step (v := v40) (s_call (mc rfl mn) (callM_le hM.call e40)) ?_
          have hq := bindP_inv hr
          clear hr
          obtain ⟨vn_1, m_5, en_1, hr⟩ := hq
          refine wo_stepN (s_st g4 rfl en_1) ?_
          refine wo_step (v := (.b true)) (s_pure (p_mv rfl)) ?_
          refine wo_nil ?_
          refine nx_norm ?_
          refine w_ret ?_
          refine bk_ret ?_
          refine nx_ret ?_
          have hq := bindO_inv hr
          clear hr
          obtain ⟨vr_1, er_1, hr⟩ := hq
          exact qf ret_ok (rc g4 er_1 (rt rfl rn)) hr
        · refine w_condF rfl ?_
          refine w_skip ?_
          refine bk_norm ?_
          refine nx_norm ?_
          refine w_seq ?_
          refine w_ops ?_
          have hq := bindO_inv hr
          clear hr
          obtain ⟨v41, e41, hr⟩ := hq
          refine wo_step (v := v41) (s_pure (o_build qn e41)) ?_
          have hq := bindP_inv hr
          clear hr
          obtain ⟨vn_2, m_6, en_2, hr⟩ := hq
          refine wo_stepN (s_st g4 rfl en_2) ?_
          refine wo_step (v := (.b false)) (s_pure (p_mv rfl)) ?_
          refine wo_nil ?_
          refine nx_norm ?_
          refine w_ret ?_
          have hq := bindO_inv hr
          clear hr
          obtain ⟨vr_2, er_2, hr⟩ := hq
          exact qf ret_ok (rc g4 er_2 (rt rfl rn)) hr

/- (dibber/turn.demands).all -/

def g76 (M : Means) (ro : List ABlk) (v0 : AVal) (m0 : Mm) : Option (AVal × Heap × Nat × Nat) :=
  bindP (stepM ro m0 (.bx 55 3 (.c v0))) fun v1 m_1 =>
  bindO (evP .e (.faddr 0 (.c v1))) fun v3 =>
  bindO (ldM ro m_1 true 1 v3) fun v4 =>
  asI .i64 v4 fun x4 =>
  chk (!ltI x4 (.ofNat 0)) <|
  forceI (shlV .u32 1 x4) fun x5 =>
  forceI (wr .u32 (x5 - 1)) fun x6 =>
  finM m0.h.length (tupA [(.i .u32 x6)]) m_1

theorem g76_ok {ro : List ABlk} {O : Caller} {M : Means} (hM : M.Ok ⟨F, O⟩ ro) {v0 h r} (ho : O 76 [v0] h = none) (hr : g76 M ro v0 ⟨h, h.length, h.length⟩ = some r) : callX ⟨F, O⟩ ro 76 [v0] h = some r := by
  refine callX_of (F := ⟨F, O⟩) (fn := fn76) (g := g76 M ro v0) ho rfl rfl hr ?_
  clear ho
  clear hr
  intro m0 t0 ht hr
  have g0 : t0.get 0 = v0 := ht 0
  clear ht
  unfold g76 at hr
  refine w_seq ?_
  refine w_ops ?_
  have hq := bindP_inv hr
  clear hr
  obtain ⟨v1, m_1, e1, hr⟩ := hq
  refine wo_step (v := v1) (s_bx g0 e1) ?_
  refine wo_step (v := (.i .u32 0)) (s_pure (p_mv rfl)) ?_
  refine wo_nil ?_
  refine nx_norm ?_
  refine w_seq ?_
  refine w_ops ?_
  have hq := bindO_inv hr
  clear hr
  obtain ⟨v3, e3, hr⟩ := hq
  refine wo_step (v := v3) (s_pure (o_faddr rfl e3)) ?_
  have hq := bindO_inv hr
  clear hr
  obtain ⟨v4, e4, hr⟩ := hq
  have hq := asI_inv hr
  clear hr
  obtain ⟨x4, rfl, hr⟩ := hq
  refine wo_step (v := (.i .i64 x4)) (s_ld rfl e4) ?_
  have hq := chk_inv hr
  clear hr
  obtain ⟨hc5, hr⟩ := hq
  have hq := forceI_inv hr
  clear hr
  obtain ⟨x5, e5, hr⟩ := hq
  refine wo_step (v := (.i .u32 x5)) (s_pure (p_bin rfl rfl ((b_shl hc5).trans (ci e5)))) ?_
  have hq := forceI_inv hr
  clear hr
  obtain ⟨x6, e6, hr⟩ := hq
  refine wo_step (v := (.i .u32 x6)) (s_pure (p_bin rfl rfl (b_sub.trans (ci e6)))) ?_
  refine wo_step (v := (.i .u32 x6)) (s_pure (p_mv rfl)) ?_
  refine wo_nil ?_
  refine nx_norm ?_
  refine w_ret ?_
  exact qf ret_ok (rt rfl rn) hr

end Go.Proofs.YtddnpchfjdgigaaDoor.T

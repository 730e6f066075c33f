/- Plain functions, and that the small machine answers as they do. -/
import Derived.Test.YtddnpchfjdgigaaDoorVmP
import Derived.Test.YtddnpchfjdgigaaDoorVmAE
open Go.Vm
set_option linter.unusedVariables false
namespace Go.Proofs.YtddnpchfjdgigaaDoor.T
open Go
/- dibber/dibberlaw04.TurnWhole -/
abbrev g10_J0  (o : Bool × Mm) (m1 : Mm) (t1 : Tr) : Prop :=
  match o with
  | (c49, m_5) => m_5 = m1 ∧ t1.get 49 = (.b c49)
abbrev g10_J1 (x0 : Int) (v2 : AVal) (v4 : AVal) (x33 : Int) (v41 : AVal) (x59 : Int) (x60 : Int) (m_8 : Mm) (o : Bool) (m1 : Mm) (t1 : Tr) : Prop :=
  match o with
  | c67 => m_8 = m1 ∧ t1.get 67 = (.b c67) ∧ t1.get 0 = (.i .i64 x0) ∧ t1.get 2 = v2 ∧ t1.get 4 = v4 ∧ t1.get 11 = (.i .i64 x33) ∧ t1.get 13 = v41 ∧ t1.get 15 = (.i .i64 x59) ∧ t1.get 16 = (.i .i64 x60)
abbrev g10_J2 (x0 : Int) (v2 : AVal) (v4 : AVal) (x33 : Int) (v41 : AVal) (x59 : Int) (x60 : Int) (m_8 : Mm) (o : Bool) (m1 : Mm) (t1 : Tr) : Prop :=
  match o with
  | c74 => m_8 = m1 ∧ t1.get 74 = (.b c74) ∧ t1.get 0 = (.i .i64 x0) ∧ t1.get 2 = v2 ∧ t1.get 4 = v4 ∧ t1.get 11 = (.i .i64 x33) ∧ t1.get 13 = v41 ∧ t1.get 15 = (.i .i64 x59) ∧ t1.get 16 = (.i .i64 x60)
abbrev g10_I3 (x0 : Int) (v2 : AVal) (v4 : AVal) (x33 : Int) (v41 : AVal) (x59 : Int) (x60 : Int) (m_8 : Mm) (s : Int × Int) (m1 : Mm) (t1 : Tr) : Prop :=
  match s with
  | (x18, x19) => m_8 = m1 ∧ t1.get 18 = (.i .i64 x18) ∧ t1.get 19 = (.i .i64 x19) ∧ t1.get 0 = (.i .i64 x0) ∧ t1.get 2 = v2 ∧ t1.get 4 = v4 ∧ t1.get 11 = (.i .i64 x33) ∧ t1.get 13 = v41 ∧ t1.get 15 = (.i .i64 x59) ∧ t1.get 16 = (.i .i64 x60)
abbrev g10_J3 (x0 : Int) (v2 : AVal) (v4 : AVal) (x33 : Int) (v41 : AVal) (x59 : Int) (x60 : Int) (m_8 : Mm) (o : Int) (e : AExit) (m1 : Mm) (t1 : Tr) : Prop :=
  match o with
  | y18 => e = (.exit 0) ∧ m_8 = m1 ∧ t1.get 18 = (.i .i64 y18) ∧ t1.get 0 = (.i .i64 x0) ∧ t1.get 11 = (.i .i64 x33) ∧ t1.get 15 = (.i .i64 x59) ∧ t1.get 16 = (.i .i64 x60)
abbrev g10_J4 (x0 : Int) (v2 : AVal) (v4 : AVal) (x33 : Int) (v41 : AVal) (x59 : Int) (x60 : Int) (x19 : Int) (m_8 : Mm) (o : Int) (e : AExit) (m1 : Mm) (t1 : Tr) : Prop :=
  match o with
  | y18 => e = .norm ∧ m_8 = m1 ∧ t1.get 18 = (.i .i64 y18) ∧ t1.get 0 = (.i .i64 x0) ∧ t1.get 2 = v2 ∧ t1.get 4 = v4 ∧ t1.get 11 = (.i .i64 x33) ∧ t1.get 13 = v41 ∧ t1.get 15 = (.i .i64 x59) ∧ t1.get 16 = (.i .i64 x60) ∧ t1.get 19 = (.i .i64 x19)
def g10_b3 (M : Means) (ro : List ABlk) (x0 : Int) (v2 : AVal) (v4 : AVal) (x33 : Int) (v41 : AVal) (x59 : Int) (x60 : Int) (m_8 : Mm) (x18 : Int) (x19 : Int) : Option ((Int × Int) ⊕ (Int)) :=
  bindO (evP .e (.len false (.c v4))) fun v77 =>
  asI .i64 v77 fun x77 =>
  forceB (ltI x19 x77) fun c78 =>
  cond c78 (
    bindO (evP .e (.ixS 1 (.c v4) (.c (.i .i64 x19)))) fun v83 =>
    bindO (ldM ro m_8 true 1 v83) fun v84 =>
    asI .i64 v84 fun x84 =>
    forceB (ltI 0 x84) fun c85 =>
    bindO (α := Int) (
      cond c85 (
        bindO (evP .e (.ixS 1 (.c v4) (.c (.i .i64 x19)))) fun v90 =>
        bindO (ldA ro m_8.h true 1 v90) fun v91 =>
        asI .i64 v91 fun x91 =>
        forceI (wr .i64 (x91 - 1)) fun x92 =>
        bindO (evP .e (.ixS 4 (.c v2) (.c (.i .i64 x92)))) fun v93 =>
        bindO (evP .e (.faddr 2 (.c v93))) fun v94 =>
        bindO (ldA ro m_8.h true 1 v94) fun v95 =>
        asI .i64 v95 fun x95 =>
        bindO (evP .e (.ixS 1 (.c v4) (.c (.i .i64 x19)))) fun v99 =>
        bindO (ldA ro m_8.h true 1 v99) fun v100 =>
        asI .i64 v100 fun x100 =>
        forceI (wr .i64 (x100 - 1)) fun x101 =>
        bindO (evP .e (.ixS 1 (.c v41) (.c (.i .i64 x101)))) fun v102 =>
        bindO (ldA ro m_8.h true 1 v102) fun v103 =>
        asI .i64 v103 fun x103 =>
        forceI (wr .i64 (x95 + x103)) fun x104 =>
        forceI (wr .i64 (x18 + x104)) fun x105 =>
        some x105) (
        bindO (evP .e (.ixS 1 (.c v4) (.c (.i .i64 x19)))) fun v110 =>
        bindO (ldA ro m_8.h true 1 v110) fun v111 =>
        asI .i64 v111 fun x111 =>
        forceI (wr .i64 (0 - x111)) fun x112 =>
        forceI (wr .i64 (x112 - 1)) fun x113 =>
        bindO (evP .e (.ixS 4 (.c v2) (.c (.i .i64 x113)))) fun v114 =>
        bindO (evP .e (.faddr 2 (.c v114))) fun v115 =>
        bindO (ldA ro m_8.h true 1 v115) fun v116 =>
        asI .i64 v116 fun x116 =>
        bindO (evP .e (.ixS 1 (.c v4) (.c (.i .i64 x19)))) fun v120 =>
        bindO (ldA ro m_8.h true 1 v120) fun v121 =>
        asI .i64 v121 fun x121 =>
        forceI (wr .i64 (0 - x121)) fun x122 =>
        forceI (wr .i64 (x122 - 1)) fun x123 =>
        bindO (evP .e (.ixS 1 (.c v41) (.c (.i .i64 x123)))) fun v124 =>
        bindO (ldA ro m_8.h true 1 v124) fun v125 =>
        asI .i64 v125 fun x125 =>
        forceI (wr .i64 (x116 + x125)) fun x126 =>
        forceI (wr .i64 (x18 - x126)) fun x127 =>
        some x127)) fun x18_1 =>
    forceI (wr .i64 (x19 + 1)) fun x80 =>
    some (.inl (x18_1, x80))) (
    some (.inr x18))
abbrev g10_J5 (x0 : Int) (x33 : Int) (x60 : Int) (o : Bool × Mm) (m1 : Mm) (t1 : Tr) : Prop :=
  match o with
  | (c141, m_9) => m_9 = m1 ∧ t1.get 141 = (.b c141) ∧ t1.get 0 = (.i .i64 x0) ∧ t1.get 11 = (.i .i64 x33) ∧ t1.get 16 = (.i .i64 x60)
abbrev g10_J6  (o : Bool × Mm) (m1 : Mm) (t1 : Tr) : Prop :=
  match o with
  | (c148, m_11) => m_11 = m1 ∧ t1.get 148 = (.b c148)
abbrev g10_J7  (o : Bool × Mm) (m1 : Mm) (t1 : Tr) : Prop :=
  match o with
  | (c151, m_13) => m_13 = m1 ∧ t1.get 151 = (.b c151)
def g10 (M : Means) (ro : List ABlk) (x0 : Int) (x1 : Int) (v2 : AVal) (v3 : AVal) (v4 : AVal) (m0 : Mm) : Option (AVal × Heap × Nat × Nat) :=
  bindP (callM M.call m0 15 [v2, v3, v4]) fun v23 m_1 =>
  asB v23 fun c23 =>
  forceB (!c23) fun c24 =>
  cond c24 (
    bindP (callM M.call m_1 16 []) fun v25 m_2 =>
    asB v25 fun c25 =>
    finM m0.h.length (tupA [(.b c25)]) m_2) (
    bindP (callM M.call m_1 34 [(.i .i64 x0), (.i .i64 x1), v2, v3, v4]) fun v32 m_3 =>
    bindO (evP .e (.ext 0 (.c v32))) fun v33 =>
    asI .i64 v33 fun x33 =>
    bindO (evP .e (.ext 1 (.c v32))) fun v34 =>
    asI .i64 v34 fun x34 =>
    bindP (callM M.call m_3 28 [(.i .i64 x0), (.i .i64 x1), v2, v3]) fun v40 m_4 =>
    bindO (evP .e (.ext 0 (.c v40))) fun v41 =>
    bindO (evP .e (.ext 1 (.c v40))) fun v42 =>
    asI .i64 v42 fun x42 =>
    forceB (!eqI x34 0) fun c44 =>
    cond c44 (
      forceB (eqI x33 0) fun c46 =>
      bindO (cond c46 (
        bindP (callM M.call m_4 16 []) fun v48 m_6 =>
        asB v48 fun c48 =>
        some (c48, m_6)) (
        some (false, m_4))) fun ⟨c49, m_5⟩ =>
      finM m0.h.length (tupA [(.b c49)]) m_5) (
      bindP (callM M.call m_4 20 [(.i .i64 x0), (.i .i64 x1), v2]) fun v53 m_7 =>
      asI .i64 v53 fun x53 =>
      forceB (!eqI x53 0) fun c54 =>
      cond c54 (
        finM m0.h.length (tupA [(.b false)]) m_7) (
        bindP (callM M.call m_7 39 [v2, v4]) fun v58 m_8 =>
        bindO (evP .e (.ext 0 (.c v58))) fun v59 =>
        asI .i64 v59 fun x59 =>
        bindO (evP .e (.ext 1 (.c v58))) fun v60 =>
        asI .i64 v60 fun x60 =>
        bindO (evP .e (.ext 2 (.c v58))) fun v61 =>
        asB v61 fun c61 =>
        forceB (!c61) fun c63 =>
        bindO (cond c63 (
          some true) (
          forceB (!eqI x42 0) fun c66 =>
          some c66)) fun c67 =>
        bindO (cond c67 (
          some true) (
          bindO (evP .e (.len false (.c v41))) fun v70 =>
          asI .i64 v70 fun x70 =>
          bindO (evP .e (.len false (.c v2))) fun v72 =>
          asI .i64 v72 fun x72 =>
          forceB (!eqI x70 x72) fun c73 =>
          some c73)) fun c74 =>
        cond c74 (
          finM m0.h.length (tupA [(.b false)]) m_8) (
          bindO (M.loop (S := Int × Int) (R := Int) (fun s => g10_b3 M ro x0 v2 v4 x33 v41 x59 x60 m_8 s.1 s.2) (0, 0)) fun x18_2 =>
          forceI (wr .i64 (x33 * x0)) fun x130 =>
          forceB (eqI x130 x18_2) fun c132 =>
          bindO (cond c132 (
            forceI (wr .i64 (0 - x59)) fun x136 =>
            bindP (callM M.call m_8 40 [(.i .i64 x136), (.i .i64 x0)]) fun v138 m_10 =>
            asI .i64 v138 fun x138 =>
            forceI (wr .i64 (0 - x138)) fun x139 =>
            forceB (!ltI x33 x139) fun c140 =>
            some (c140, m_10)) (
            some (false, m_8))) fun ⟨c141, m_9⟩ =>
          bindO (cond c141 (
            bindP (callM M.call m_9 40 [(.i .i64 x60), (.i .i64 x0)]) fun v146 m_12 =>
            asI .i64 v146 fun x146 =>
            forceB (!ltI x146 x33) fun c147 =>
            some (c147, m_12)) (
            some (false, m_9))) fun ⟨c148, m_11⟩ =>
          bindO (cond c148 (
            bindP (callM M.call m_11 16 []) fun v150 m_14 =>
            asB v150 fun c150 =>
            some (c150, m_14)) (
            some (false, m_11))) fun ⟨c151, m_13⟩ =>
          finM m0.h.length (tupA [(.b c151)]) m_13))))

theorem g10_ok {ro : List ABlk} {O : Caller} {M : Means} (hM : M.Ok ⟨F, O⟩ ro) {x0 x1 v2 v3 v4 h r} (ho : O 10 [(.i .i64 x0), (.i .i64 x1), v2, v3, v4] h = none) (hr : g10 M ro x0 x1 v2 v3 v4 ⟨h, h.length, h.length⟩ = some r) : callX ⟨F, O⟩ ro 10 [(.i .i64 x0), (.i .i64 x1), v2, v3, v4] h = some r := by
  refine callX_of (F := ⟨F, O⟩) (fn := fn10) (g := g10 M ro x0 x1 v2 v3 v4) ho rfl rfl hr ?_
  clear ho
  clear hr
  intro m0 t0 ht hr
  have g0 : t0.get 0 = (.i .i64 x0) := ht 0
  have g1 : t0.get 1 = (.i .i64 x1) := ht 1
  have g2 : t0.get 2 = v2 := ht 2
  have g3 : t0.get 3 = v3 := ht 3
  have g4 : t0.get 4 = v4 := ht 4
  clear ht
  unfold g10 at hr
  refine w_seq ?_
  refine w_ops ?_
  refine wo_step (v := (.b false)) (s_pure (p_mv rfl)) ?_
  refine wo_nil ?_
  refine nx_norm ?_
  refine w_seq ?_
  refine w_seq ?_
  refine w_ops ?_
  refine wo_step (v := v2) (s_pure (p_mv g2)) ?_
  refine wo_step (v := v3) (s_pure (p_mv g3)) ?_
  refine wo_step (v := v4) (s_pure (p_mv g4)) ?_
  have hq := bindP_inv hr
  clear hr
  obtain ⟨v23, m_1, e23, hr⟩ := hq
  have hq := asB_inv hr
  clear hr
  obtain ⟨c23, rfl, hr⟩ := hq
  refine wo_step (v := (.b c23)) (s_call (mc rfl (mc rfl (mc rfl mn))) (callM_le hM.call e23)) ?_
  have hq := forceB_inv hr
  clear hr
  obtain ⟨c24, e24, hr⟩ := hq
  refine wo_step (v := (.b c24)) (s_pure ((p_not rfl).trans (cb e24))) ?_
  refine wo_nil ?_
  refine nx_norm ?_
  have hq := cond_inv hr
  clear hr
  rcases hq with ⟨rfl, hr⟩ | ⟨rfl, hr⟩
  · refine w_condT rfl ?_
    refine w_seq ?_
    refine w_ops ?_
    have hq := bindP_inv hr
    clear hr
    obtain ⟨v25, m_2, e25, hr⟩ := hq
    have hq := asB_inv hr
    clear hr
    obtain ⟨c25, rfl, hr⟩ := hq
    refine wo_step (v := (.b c25)) (s_call mn (callM_le hM.call e25)) ?_
    refine wo_step (v := (.b c25)) (s_pure (p_mv rfl)) ?_
    refine wo_nil ?_
    refine nx_norm ?_
    refine w_ret ?_
    refine nx_ret ?_
    exact qf ret_ok (rt rfl rn) hr
  · refine w_condF rfl ?_
    refine w_skip ?_
    refine nx_norm ?_
    refine w_seq ?_
    refine w_ops ?_
    refine wo_step (v := (.i .i64 x0)) (s_pure (p_mv g0)) ?_
    refine wo_step (v := (.i .i64 x1)) (s_pure (p_mv g1)) ?_
    refine wo_step (v := v2) (s_pure (p_mv g2)) ?_
    refine wo_step (v := v3) (s_pure (p_mv g3)) ?_
    refine wo_step (v := v4) (s_pure (p_mv g4)) ?_
    have hq := bindP_inv hr
    clear hr
    obtain ⟨v32, m_3, e32, hr⟩ := hq
    refine wo_step (v := v32) (s_call (mc rfl (mc rfl (mc rfl (mc rfl (mc rfl mn))))) (callM_le hM.call e32)) ?_
    refine wo_step (v := v32) (s_pure (p_mv rfl)) ?_
    have hq := bindO_inv hr
    clear hr
    obtain ⟨v33, e33, hr⟩ := hq
    have hq := asI_inv hr
    clear hr
    obtain ⟨x33, rfl, hr⟩ := hq
    refine wo_step (v := (.i .i64 x33)) (s_pure (o_ext rfl e33)) ?_
    have hq := bindO_inv hr
    clear hr
    obtain ⟨v34, e34, hr⟩ := hq
    have hq := asI_inv hr
    clear hr
    obtain ⟨x34, rfl, hr⟩ := hq
    refine wo_step (v := (.i .i64 x34)) (s_pure (o_ext rfl e34)) ?_
    refine wo_step (v := (.i .i64 x33)) (s_pure (p_mv rfl)) ?_
    refine wo_step (v := (.i .i64 x34)) (s_pure (p_mv rfl)) ?_
    refine wo_nil ?_
    refine nx_norm ?_
    refine w_seq ?_
    refine w_ops ?_
    refine wo_step (v := (.i .i64 x0)) (s_pure (p_mv g0)) ?_
    refine wo_step (v := (.i .i64 x1)) (s_pure (p_mv g1)) ?_
    refine wo_step (v := v2) (s_pure (p_mv g2)) ?_
    refine wo_step (v := v3) (s_pure (p_mv g3)) ?_
    have hq := bindP_inv hr
    clear hr
    obtain ⟨v40, m_4, e40, hr⟩ := hq
    refine wo_step (v := v40) (s_call (mc rfl (mc rfl (mc rfl (mc rfl mn)))) (callM_le hM.call e40)) ?_
    refine wo_step (v := v40) (s_pure (p_mv rfl)) ?_
    have hq := bindO_inv hr
    clear hr
    obtain ⟨v41, e41, hr⟩ := hq
    refine wo_step (v := v41) (s_pure (o_ext rfl e41)) ?_
    have hq := bindO_inv hr
    clear hr
    obtain ⟨v42, e42, hr⟩ := hq
    have hq := asI_inv hr
    clear hr
    obtain ⟨x42, rfl, hr⟩ := hq
    refine wo_step (v := (.i .i64 x42)) (s_pure (o_ext rfl e42)) ?_
    refine wo_step (v := v41) (s_pure (p_mv rfl)) ?_
    refine wo_step (v := (.i .i64 x42)) (s_pure (p_mv rfl)) ?_
    refine wo_nil ?_
    refine nx_norm ?_
    refine w_seq ?_
    refine w_seq ?_
    refine w_ops ?_
    refine wo_step (v := (.i .i64 x34)) (s_pure (p_mv rfl)) ?_
    have hq := forceB_inv hr
    clear hr
    obtain ⟨c44, e44, hr⟩ := hq
    refine wo_step (v := (.b c44)) (s_pure (p_bin rfl rfl (b_neq.trans (cb e44)))) ?_
    refine wo_nil ?_
    refine nx_norm ?_
    have hq := cond_inv hr
    clear hr
    rcases hq with ⟨rfl, hr⟩ | ⟨rfl, hr⟩
    · refine w_condT rfl ?_
      refine w_seq ?_
      refine w_ops ?_
      refine wo_step (v := (.i .i64 x33)) (s_pure (p_mv rfl)) ?_
      have hq := forceB_inv hr
      clear hr
      obtain ⟨c46, e46, hr⟩ := hq
      refine wo_step (v := (.b c46)) (s_pure (p_bin rfl rfl (b_eql.trans (cb e46)))) ?_
      refine wo_step (v := (.b c46)) (s_pure (p_mv rfl)) ?_
      have hq := bindO_inv hr
      clear hr
      obtain ⟨o, hr, hk⟩ := hq
      refine wo_join 2 (g10_J0  o) ?_ ?_
      · clear hk
        have hq := cond_inv hr
        clear hr
        rcases hq with ⟨rfl, hr⟩ | ⟨rfl, hr⟩
        · have hq := bindP_inv hr
          clear hr
          obtain ⟨v48, m_6, e48, hr⟩ := hq
          have hq := asB_inv hr
          clear hr
          obtain ⟨c48, rfl, hr⟩ := hq
          refine wo_take (v := (.b c48)) rfl (s_call mn (callM_le hM.call e48)) ?_
          refine wo_step (v := (.b c48)) (s_pure (p_pickT rfl rfl)) ?_
          refine wo_nil ?_
          cases hr
          exact ⟨_, _, rfl, rfl, gl rfl⟩
        · refine wo_skip (v := (.b false)) rfl rfl ?_
          refine wo_step (v := (.b false)) (s_pure (p_pickF rfl rfl)) ?_
          refine wo_nil ?_
          cases hr
          exact ⟨_, _, rfl, rfl, gl rfl⟩
      · clear hr
        have hr := hk
        clear hk
        obtain ⟨c49, m_5⟩ := o
        rintro mm t_1 ⟨rfl, g49⟩
        refine wo_step (v := (.b c49)) (s_pure (p_mv g49)) ?_
        refine wo_nil ?_
        refine nx_norm ?_
        refine w_ret ?_
        refine nx_ret ?_
        exact qf ret_ok (rt rfl rn) hr
    · refine w_condF rfl ?_
      refine w_skip ?_
      refine nx_norm ?_
      refine w_seq ?_
      refine w_seq ?_
      refine w_ops ?_
      refine wo_step (v := (.i .i64 x0)) (s_pure (p_mv g0)) ?_
      refine wo_step (v := (.i .i64 x1)) (s_pure (p_mv g1)) ?_
      refine wo_step (v := v2) (s_pure (p_mv g2)) ?_
      have hq := bindP_inv hr
      clear hr
      obtain ⟨v53, m_7, e53, hr⟩ := hq
      have hq := asI_inv hr
      clear hr
      obtain ⟨x53, rfl, hr⟩ := hq
      refine wo_step (v := (.i .i64 x53)) (s_call (mc rfl (mc rfl (mc rfl mn))) (callM_le hM.call e53)) ?_
      have hq := forceB_inv hr
      clear hr
      obtain ⟨c54, e54, hr⟩ := hq
      refine wo_step (v := (.b c54)) (s_pure (p_bin rfl rfl (b_neq.trans (cb e54)))) ?_
      refine wo_nil ?_
      refine nx_norm ?_
      have hq := cond_inv hr
      clear hr
      rcases hq with ⟨rfl, hr⟩ | ⟨rfl, hr⟩
      · refine w_condT rfl ?_
        refine w_seq ?_
        refine w_ops ?_
        refine wo_step (v := (.b false)) (s_pure (p_mv rfl)) ?_
        refine wo_nil ?_
        refine nx_norm ?_
        refine w_ret ?_
        refine nx_ret ?_
        exact qf ret_ok (rt rfl rn) hr
      · refine w_condF rfl ?_
        refine w_skip ?_
        refine nx_norm ?_
        refine w_seq ?_
        refine w_ops ?_
        refine wo_step (v := v2) (s_pure (p_mv g2)) ?_
        refine wo_step (v := v4) (s_pure (p_mv g4)) ?_
        have hq := bindP_inv hr
        clear hr
        obtain ⟨v58, m_8, e58, hr⟩ := hq
        refine wo_step (v := v58) (s_call (mc rfl (mc rfl mn)) (callM_le hM.call e58)) ?_
        refine wo_step (v := v58) (s_pure (p_mv rfl)) ?_
        have hq := bindO_inv hr
        clear hr
        obtain ⟨v59, e59, hr⟩ := hq
        have hq := asI_inv hr
        clear hr
        obtain ⟨x59, rfl, hr⟩ := hq
        refine wo_step (v := (.i .i64 x59)) (s_pure (o_ext rfl e59)) ?_
        have hq := bindO_inv hr
        clear hr
        obtain ⟨v60, e60, hr⟩ := hq
        have hq := asI_inv hr
        clear hr
        obtain ⟨x60, rfl, hr⟩ := hq
        refine wo_step (v := (.i .i64 x60)) (s_pure (o_ext rfl e60)) ?_
        have hq := bindO_inv hr
        clear hr
        obtain ⟨v61, e61, hr⟩ := hq
        have hq := asB_inv hr
        clear hr
        obtain ⟨c61, rfl, hr⟩ := hq
        refine wo_step (v := (.b c61)) (s_pure (o_ext rfl e61)) ?_
        refine wo_step (v := (.i .i64 x59)) (s_pure (p_mv rfl)) ?_
        refine wo_step (v := (.i .i64 x60)) (s_pure (p_mv rfl)) ?_
        refine wo_step (v := (.b c61)) (s_pure (p_mv rfl)) ?_
        refine wo_nil ?_
        refine nx_norm ?_
        refine w_seq ?_
        refine w_seq ?_
        refine w_ops ?_
        refine wo_step (v := (.b c61)) (s_pure (p_mv rfl)) ?_
        have hq := forceB_inv hr
        clear hr
        obtain ⟨c63, e63, hr⟩ := hq
        refine wo_step (v := (.b c63)) (s_pure ((p_not rfl).trans (cb e63))) ?_
        refine wo_step (v := (.b c63)) (s_pure (p_mv rfl)) ?_
        have hq := bindO_inv hr
        clear hr
        obtain ⟨o_1, hr, hk⟩ := hq
        refine wo_join 3 (g10_J1 x0 v2 v4 x33 v41 x59 x60 m_8 o_1) ?_ ?_
        · clear hk
          have hq := cond_inv hr
          clear hr
          rcases hq with ⟨rfl, hr⟩ | ⟨rfl, hr⟩
          · refine wo_skip (v := (.b true)) rfl rfl ?_
            refine wo_skip (v := (.b true)) rfl rfl ?_
            refine wo_step (v := (.b true)) (s_pure (p_pickT rfl rfl)) ?_
            refine wo_nil ?_
            cases hr
            exact ⟨_, _, rfl, rfl, gl rfl, gl g0, gl g2, gl g4, gl rfl, gl rfl, gl rfl, gl rfl⟩
          · refine wo_take (v := (.i .i64 x42)) rfl (s_pure (p_mv rfl)) ?_
            have hq := forceB_inv hr
            clear hr
            obtain ⟨c66, e66, hr⟩ := hq
            refine wo_take (v := (.b c66)) rfl (s_pure (p_bin rfl rfl (b_neq.trans (cb e66)))) ?_
            refine wo_step (v := (.b c66)) (s_pure (p_pickF rfl rfl)) ?_
            refine wo_nil ?_
            cases hr
            exact ⟨_, _, rfl, rfl, gl rfl, gl g0, gl g2, gl g4, gl rfl, gl rfl, gl rfl, gl rfl⟩
        · clear hr
          have hr := hk
          clear hk
          obtain ⟨c67, ho⟩ : ∃ z, z = o_1 := ⟨_, rfl⟩
          subst ho
          rintro mm_1 t_2 ⟨rfl, g67, g0, g2, g4, g11, g13, g15, g16⟩
          refine wo_step (v := (.b c67)) (s_pure (p_mv g67)) ?_
          have hq := bindO_inv hr
          clear hr
          obtain ⟨o_2, hr, hk⟩ := hq
          refine wo_join 6 (g10_J2 x0 v2 v4 x33 v41 x59 x60 m_8 o_2) ?_ ?_
          · clear hk
            have hq := cond_inv hr
            clear hr
            rcases hq with ⟨rfl, hr⟩ | ⟨rfl, hr⟩
            · refine wo_skip (v := (.b true)) rfl rfl ?_
              refine wo_skip (v := (.b true)) rfl rfl ?_
              refine wo_skip (v := (.b true)) rfl rfl ?_
              refine wo_skip (v := (.b true)) rfl rfl ?_
              refine wo_skip (v := (.b true)) rfl rfl ?_
              refine wo_step (v := (.b true)) (s_pure (p_pickT rfl rfl)) ?_
              refine wo_nil ?_
              cases hr
              exact ⟨_, _, rfl, rfl, gl rfl, gl g0, gl g2, gl g4, gl g11, gl g13, gl g15, gl g16⟩
            · refine wo_take (v := v41) rfl (s_pure (p_mv g13)) ?_
              have hq := bindO_inv hr
              clear hr
              obtain ⟨v70, e70, hr⟩ := hq
              have hq := asI_inv hr
              clear hr
              obtain ⟨x70, rfl, hr⟩ := hq
              refine wo_take (v := (.i .i64 x70)) rfl (s_pure (o_len rfl e70)) ?_
              refine wo_take (v := v2) rfl (s_pure (p_mv g2)) ?_
              have hq := bindO_inv hr
              clear hr
              obtain ⟨v72, e72, hr⟩ := hq
              have hq := asI_inv hr
              clear hr
              obtain ⟨x72, rfl, hr⟩ := hq
              refine wo_take (v := (.i .i64 x72)) rfl (s_pure (o_len rfl e72)) ?_
              have hq := forceB_inv hr
              clear hr
              obtain ⟨c73, e73, hr⟩ := hq
              refine wo_take (v := (.b c73)) rfl (s_pure (p_bin rfl rfl (b_neq.trans (cb e73)))) ?_
              refine wo_step (v := (.b c73)) (s_pure (p_pickF rfl rfl)) ?_
              refine wo_nil ?_
              cases hr
              exact ⟨_, _, rfl, rfl, gl rfl, gl g0, gl g2, gl g4, gl g11, gl g13, gl g15, gl g16⟩
          · clear hr
            have hr := hk
            clear hk
            obtain ⟨c74, ho⟩ : ∃ z, z = o_2 := ⟨_, rfl⟩
            subst ho
            rintro mm_2 t_3 ⟨rfl, g74, g0, g2, g4, g11, g13, g15, g16⟩
            refine wo_nil ?_
            refine nx_norm ?_
            have hq := cond_inv hr
            clear hr
            rcases hq with ⟨rfl, hr⟩ | ⟨rfl, hr⟩
            · refine w_condT g74 ?_
              refine w_seq ?_
              refine w_ops ?_
              refine wo_step (v := (.b false)) (s_pure (p_mv rfl)) ?_
              refine wo_nil ?_
              refine nx_norm ?_
              refine w_ret ?_
              refine nx_ret ?_
              exact qf ret_ok (rt rfl rn) hr
            · refine w_condF g74 ?_
              refine w_skip ?_
              refine nx_norm ?_
              refine w_seq ?_
              refine w_ops ?_
              refine wo_step (v := (.i .i64 0)) (s_pure (p_mv rfl)) ?_
              refine wo_nil ?_
              refine nx_norm ?_
              refine w_seq ?_
              refine w_seq ?_
              refine w_ops ?_
              refine wo_step (v := (.i .i64 0)) (s_pure (p_mv rfl)) ?_
              refine wo_nil ?_
              refine nx_norm ?_
              refine w_block ?_
              have hq := bindO_inv hr
              clear hr
              obtain ⟨o_4, hl, hr⟩ := hq
              obtain ⟨n, hl⟩ := hM.loop _ _ _ hl
              refine jp_mono (w_loop _ (g10_I3 x0 v2 v4 x33 v41 x59 x60 m_8) (g10_J3 x0 v2 v4 x33 v41 x59 x60 m_8) ?_ n _ _ _ _ hl ⟨rfl, gl rfl, gl rfl, gl g0, gl g2, gl g4, gl g11, gl g13, gl g15, gl g16⟩) ?_
              · clear hr hl
                intro s mm_8 t_4 o hi hr
                obtain ⟨x18, x19⟩ := s
                obtain ⟨rfl, g18, g19, g0, g2, g4, g11, g13, g15, g16⟩ := hi
                unfold g10_b3 at hr
                refine w_seq ?_
                refine w_seq ?_
                refine w_ops ?_
                refine wo_step (v := (.i .i64 x19)) (s_pure (p_mv g19)) ?_
                refine wo_step (v := v4) (s_pure (p_mv g4)) ?_
                have hq := bindO_inv hr
                clear hr
                obtain ⟨v77, e77, hr⟩ := hq
                have hq := asI_inv hr
                clear hr
                obtain ⟨x77, rfl, hr⟩ := hq
                refine wo_step (v := (.i .i64 x77)) (s_pure (o_len rfl e77)) ?_
                have hq := forceB_inv hr
                clear hr
                obtain ⟨c78, e78, hr⟩ := hq
                refine wo_step (v := (.b c78)) (s_pure (p_bin rfl rfl (b_lss.trans (cb e78)))) ?_
                refine wo_nil ?_
                refine nx_norm ?_
                have hq := cond_inv hr
                clear hr
                rcases hq with ⟨rfl, hr⟩ | ⟨rfl, hr⟩
                · refine w_condT rfl ?_
                  refine w_skip ?_
                  refine nx_norm ?_
                  refine w_seq ?_
                  refine w_block ?_
                  refine w_seq ?_
                  refine w_ops ?_
                  refine wo_step (v := v4) (s_pure (p_mv g4)) ?_
                  refine wo_step (v := (.i .i64 x19)) (s_pure (p_mv g19)) ?_
                  have hq := bindO_inv hr
                  clear hr
                  obtain ⟨v83, e83, hr⟩ := hq
                  refine wo_step (v := v83) (s_pure (o_ixS rfl rfl e83)) ?_
                  have hq := bindO_inv hr
                  clear hr
                  obtain ⟨v84, e84, hr⟩ := hq
                  have hq := asI_inv hr
                  clear hr
                  obtain ⟨x84, rfl, hr⟩ := hq
                  refine wo_step (v := (.i .i64 x84)) (s_ld rfl e84) ?_
                  have hq := forceB_inv hr
                  clear hr
                  obtain ⟨c85, e85, hr⟩ := hq
                  refine wo_step (v := (.b c85)) (s_pure (p_bin rfl rfl (b_gtr.trans (cb e85)))) ?_
                  refine wo_nil ?_
                  refine nx_norm ?_
                  have hq := bindO_inv hr
                  clear hr
                  obtain ⟨o_3, hr, hk⟩ := hq
                  refine jp_mono (J := g10_J4 x0 v2 v4 x33 v41 x59 x60 x19 m_8 o_3) ?_ ?_
                  · clear hk
                    have hq := cond_inv hr
                    clear hr
                    rcases hq with ⟨rfl, hr⟩ | ⟨rfl, hr⟩
                    · refine w_condT rfl ?_
                      refine w_any ?_
                      refine wa_step (v := (.i .i64 x18)) (a_pure (p_mv g18)) ?_
                      refine wa_step (v := v2) (a_pure (p_mv g2)) ?_
                      refine wa_step (v := v4) (a_pure (p_mv g4)) ?_
                      refine wa_step (v := (.i .i64 x19)) (a_pure (p_mv g19)) ?_
                      have hq := bindO_inv hr
                      clear hr
                      obtain ⟨v90, e90, hr⟩ := hq
                      refine wa_step (v := v90) (a_pure (o_ixS rfl rfl e90)) ?_
                      have hq := bindO_inv hr
                      clear hr
                      obtain ⟨v91, e91, hr⟩ := hq
                      have hq := asI_inv hr
                      clear hr
                      obtain ⟨x91, rfl, hr⟩ := hq
                      refine wa_step (v := (.i .i64 x91)) (a_ld rfl e91) ?_
                      have hq := forceI_inv hr
                      clear hr
                      obtain ⟨x92, e92, hr⟩ := hq
                      refine wa_step (v := (.i .i64 x92)) (a_pure (p_bin rfl rfl (b_sub.trans (ci e92)))) ?_
                      have hq := bindO_inv hr
                      clear hr
                      obtain ⟨v93, e93, hr⟩ := hq
                      refine wa_step (v := v93) (a_pure (o_ixS rfl rfl e93)) ?_
                      have hq := bindO_inv hr
                      clear hr
                      obtain ⟨v94, e94, hr⟩ := hq
                      refine wa_step (v := v94) (a_pure (o_faddr rfl e94)) ?_
                      have hq := bindO_inv hr
                      clear hr
                      obtain ⟨v95, e95, hr⟩ := hq
                      have hq := asI_inv hr
                      clear hr
                      obtain ⟨x95, rfl, hr⟩ := hq
                      refine wa_step (v := (.i .i64 x95)) (a_ld rfl e95) ?_
                      refine wa_step (v := v41) (a_pure (p_mv g13)) ?_
                      refine wa_step (v := v4) (a_pure (p_mv g4)) ?_
                      refine wa_step (v := (.i .i64 x19)) (a_pure (p_mv g19)) ?_
                      have hq := bindO_inv hr
                      clear hr
                      obtain ⟨v99, e99, hr⟩ := hq
                      refine wa_step (v := v99) (a_pure (o_ixS rfl rfl e99)) ?_
                      have hq := bindO_inv hr
                      clear hr
                      obtain ⟨v100, e100, hr⟩ := hq
                      have hq := asI_inv hr
                      clear hr
                      obtain ⟨x100, rfl, hr⟩ := hq
                      refine wa_step (v := (.i .i64 x100)) (a_ld rfl e100) ?_
                      have hq := forceI_inv hr
                      clear hr
                      obtain ⟨x101, e101, hr⟩ := hq
                      refine wa_step (v := (.i .i64 x101)) (a_pure (p_bin rfl rfl (b_sub.trans (ci e101)))) ?_
                      have hq := bindO_inv hr
                      clear hr
                      obtain ⟨v102, e102, hr⟩ := hq
                      refine wa_step (v := v102) (a_pure (o_ixS rfl rfl e102)) ?_
                      have hq := bindO_inv hr
                      clear hr
                      obtain ⟨v103, e103, hr⟩ := hq
                      have hq := asI_inv hr
                      clear hr
                      obtain ⟨x103, rfl, hr⟩ := hq
                      refine wa_step (v := (.i .i64 x103)) (a_ld rfl e103) ?_
                      have hq := forceI_inv hr
                      clear hr
                      obtain ⟨x104, e104, hr⟩ := hq
                      refine wa_step (v := (.i .i64 x104)) (a_pure (p_bin rfl rfl (b_add.trans (ci e104)))) ?_
                      have hq := forceI_inv hr
                      clear hr
                      obtain ⟨x105, e105, hr⟩ := hq
                      refine wa_step (v := (.i .i64 x105)) (a_pure (p_bin rfl rfl (b_add.trans (ci e105)))) ?_
                      refine wa_step (v := (.i .i64 x105)) (a_pure (p_mv rfl)) ?_
                      refine wa_nil ?_
                      refine ⟨m_8, rfl, ?_⟩
                      cases hr
                      exact ⟨_, _, rfl, rfl, rfl, gl rfl, gl g0, gl g2, gl g4, gl g11, gl g13, gl g15, gl g16, gl g19⟩
                    · refine w_condF rfl ?_
                      refine w_any ?_
                      refine wa_step (v := (.i .i64 x18)) (a_pure (p_mv g18)) ?_
                      refine wa_step (v := v2) (a_pure (p_mv g2)) ?_
                      refine wa_step (v := v4) (a_pure (p_mv g4)) ?_
                      refine wa_step (v := (.i .i64 x19)) (a_pure (p_mv g19)) ?_
                      have hq := bindO_inv hr
                      clear hr
                      obtain ⟨v110, e110, hr⟩ := hq
                      refine wa_step (v := v110) (a_pure (o_ixS rfl rfl e110)) ?_
                      have hq := bindO_inv hr
                      clear hr
                      obtain ⟨v111, e111, hr⟩ := hq
                      have hq := asI_inv hr
                      clear hr
                      obtain ⟨x111, rfl, hr⟩ := hq
                      refine wa_step (v := (.i .i64 x111)) (a_ld rfl e111) ?_
                      have hq := forceI_inv hr
                      clear hr
                      obtain ⟨x112, e112, hr⟩ := hq
                      refine wa_step (v := (.i .i64 x112)) (a_pure ((p_neg rfl).trans (ci e112))) ?_
                      have hq := forceI_inv hr
                      clear hr
                      obtain ⟨x113, e113, hr⟩ := hq
                      refine wa_step (v := (.i .i64 x113)) (a_pure (p_bin rfl rfl (b_sub.trans (ci e113)))) ?_
                      have hq := bindO_inv hr
                      clear hr
                      obtain ⟨v114, e114, hr⟩ := hq
                      refine wa_step (v := v114) (a_pure (o_ixS rfl rfl e114)) ?_
                      have hq := bindO_inv hr
                      clear hr
                      obtain ⟨v115, e115, hr⟩ := hq
                      refine wa_step (v := v115) (a_pure (o_faddr rfl e115)) ?_
                      have hq := bindO_inv hr
                      clear hr
                      obtain ⟨v116, e116, hr⟩ := hq
                      have hq := asI_inv hr
                      clear hr
                      obtain ⟨x116, rfl, hr⟩ := hq
                      refine wa_step (v := (.i .i64 x116)) (a_ld rfl e116) ?_
                      refine wa_step (v := v41) (a_pure (p_mv g13)) ?_
                      refine wa_step (v := v4) (a_pure (p_mv g4)) ?_
                      refine wa_step (v := (.i .i64 x19)) (a_pure (p_mv g19)) ?_
                      have hq := bindO_inv hr
                      clear hr
                      obtain ⟨v120, e120, hr⟩ := hq
                      refine wa_step (v := v120) (a_pure (o_ixS rfl rfl e120)) ?_
                      have hq := bindO_inv hr
                      clear hr
                      obtain ⟨v121, e121, hr⟩ := hq
                      have hq := asI_inv hr
                      clear hr
                      obtain ⟨x121, rfl, hr⟩ := hq
                      refine wa_step (v := (.i .i64 x121)) (a_ld rfl e121) ?_
                      have hq := forceI_inv hr
                      clear hr
                      obtain ⟨x122, e122, hr⟩ := hq
                      refine wa_step (v := (.i .i64 x122)) (a_pure ((p_neg rfl).trans (ci e122))) ?_
                      have hq := forceI_inv hr
                      clear hr
                      obtain ⟨x123, e123, hr⟩ := hq
                      refine wa_step (v := (.i .i64 x123)) (a_pure (p_bin rfl rfl (b_sub.trans (ci e123)))) ?_
                      have hq := bindO_inv hr
                      clear hr
                      obtain ⟨v124, e124, hr⟩ := hq
                      refine wa_step (v := v124) (a_pure (o_ixS rfl rfl e124)) ?_
                      have hq := bindO_inv hr
                      clear hr
                      obtain ⟨v125, e125, hr⟩ := hq
                      have hq := asI_inv hr
                      clear hr
                      obtain ⟨x125, rfl, hr⟩ := hq
                      refine wa_step (v := (.i .i64 x125)) (a_ld rfl e125) ?_
                      have hq := forceI_inv hr
                      clear hr
                      obtain ⟨x126, e126, hr⟩ := hq
                      refine wa_step (v := (.i .i64 x126)) (a_pure (p_bin rfl rfl (b_add.trans (ci e126)))) ?_
                      have hq := forceI_inv hr
                      clear hr
                      obtain ⟨x127, e127, hr⟩ := hq
                      refine wa_step (v := (.i .i64 x127)) (a_pure (p_bin rfl rfl (b_sub.trans (ci e127)))) ?_
                      refine wa_step (v := (.i .i64 x127)) (a_pure (p_mv rfl)) ?_
                      refine wa_nil ?_
                      refine ⟨m_8, rfl, ?_⟩
                      cases hr
                      exact ⟨_, _, rfl, rfl, rfl, gl rfl, gl g0, gl g2, gl g4, gl g11, gl g13, gl g15, gl g16, gl g19⟩
                  · have hr := hk
                    clear hk
                    obtain ⟨x18_1, ho⟩ : ∃ z, z = o_3 := ⟨_, rfl⟩
                    subst ho
                    rintro _ mm_3 t_5 ⟨rfl, rfl, g18, g0, g2, g4, g11, g13, g15, g16, g19⟩
                    refine bk_norm ?_
                    refine nx_norm ?_
                    refine w_ops ?_
                    refine wo_step (v := (.i .i64 x19)) (s_pure (p_mv g19)) ?_
                    have hq := forceI_inv hr
                    clear hr
                    obtain ⟨x80, e80, hr⟩ := hq
                    refine wo_step (v := (.i .i64 x80)) (s_pure (p_bin rfl rfl (b_add.trans (ci e80)))) ?_
                    refine wo_step (v := (.i .i64 x80)) (s_pure (p_mv rfl)) ?_
                    refine wo_nil ?_
                    cases hr
                    exact ⟨_, _, rfl, rfl, rfl, gl g18, gl rfl, gl g0, gl g2, gl g4, gl g11, gl g13, gl g15, gl g16⟩
                · refine w_condF rfl ?_
                  refine w_exit ?_
                  refine nx_exit ?_
                  cases hr
                  exact ⟨_, _, rfl, ne_norm_exit, rfl, rfl, gl g18, gl g0, gl g11, gl g15, gl g16⟩
              · obtain ⟨x18_2, ho⟩ : ∃ z, z = o_4 := ⟨_, rfl⟩
                subst ho
                rintro _ mm_7 t_6 ⟨rfl, rfl, g18, g0, g11, g15, g16⟩
                refine bk_hit ?_
                refine nx_norm ?_
                refine w_seq ?_
                refine w_ops ?_
                refine wo_step (v := (.i .i64 x33)) (s_pure (p_mv g11)) ?_
                refine wo_step (v := (.i .i64 x0)) (s_pure (p_mv g0)) ?_
                have hq := forceI_inv hr
                clear hr
                obtain ⟨x130, e130, hr⟩ := hq
                refine wo_step (v := (.i .i64 x130)) (s_pure (p_bin rfl rfl (b_mul.trans (ci e130)))) ?_
                refine wo_step (v := (.i .i64 x18_2)) (s_pure (p_mv g18)) ?_
                have hq := forceB_inv hr
                clear hr
                obtain ⟨c132, e132, hr⟩ := hq
                refine wo_step (v := (.b c132)) (s_pure (p_bin rfl rfl (b_eql.trans (cb e132)))) ?_
                refine wo_step (v := (.b c132)) (s_pure (p_mv rfl)) ?_
                have hq := bindO_inv hr
                clear hr
                obtain ⟨o_5, hr, hk⟩ := hq
                refine wo_join 8 (g10_J5 x0 x33 x60 o_5) ?_ ?_
                · clear hk
                  have hq := cond_inv hr
                  clear hr
                  rcases hq with ⟨rfl, hr⟩ | ⟨rfl, hr⟩
                  · refine wo_take (v := (.i .i64 x33)) rfl (s_pure (p_mv g11)) ?_
                    refine wo_take (v := (.i .i64 x59)) rfl (s_pure (p_mv g15)) ?_
                    have hq := forceI_inv hr
                    clear hr
                    obtain ⟨x136, e136, hr⟩ := hq
                    refine wo_take (v := (.i .i64 x136)) rfl (s_pure ((p_neg rfl).trans (ci e136))) ?_
                    refine wo_take (v := (.i .i64 x0)) rfl (s_pure (p_mv g0)) ?_
                    have hq := bindP_inv hr
                    clear hr
                    obtain ⟨v138, m_10, e138, hr⟩ := hq
                    have hq := asI_inv hr
                    clear hr
                    obtain ⟨x138, rfl, hr⟩ := hq
                    refine wo_take (v := (.i .i64 x138)) rfl (s_call (mc rfl (mc rfl mn)) (callM_le hM.call e138)) ?_
                    have hq := forceI_inv hr
                    clear hr
                    obtain ⟨x139, e139, hr⟩ := hq
                    refine wo_take (v := (.i .i64 x139)) rfl (s_pure ((p_neg rfl).trans (ci e139))) ?_
                    have hq := forceB_inv hr
                    clear hr
                    obtain ⟨c140, e140, hr⟩ := hq
                    refine wo_take (v := (.b c140)) rfl (s_pure (p_bin rfl rfl (b_geq.trans (cb e140)))) ?_
                    refine wo_step (v := (.b c140)) (s_pure (p_pickT rfl rfl)) ?_
                    refine wo_nil ?_
                    cases hr
                    exact ⟨_, _, rfl, rfl, gl rfl, gl g0, gl g11, gl g16⟩
                  · refine wo_skip (v := (.b false)) rfl rfl ?_
                    refine wo_skip (v := (.b false)) rfl rfl ?_
                    refine wo_skip (v := (.b false)) rfl rfl ?_
                    refine wo_skip (v := (.b false)) rfl rfl ?_
                    refine wo_skip (v := (.b false)) rfl rfl ?_
                    refine wo_skip (v := (.b false)) rfl rfl ?_
                    refine wo_skip (v := (.b false)) rfl rfl ?_
                    refine wo_step (v := (.b false)) (s_pure (p_pickF rfl rfl)) ?_
                    refine wo_nil ?_
                    cases hr
                    exact ⟨_, _, rfl, rfl, gl rfl, gl g0, gl g11, gl g16⟩
                · clear hr
                  have hr := hk
                  clear hk
                  obtain ⟨c141, m_9⟩ := o_5
                  rintro mm_4 t_7 ⟨rfl, g141, g0, g11, g16⟩
                  refine wo_step (v := (.b c141)) (s_pure (p_mv g141)) ?_
                  have hq := bindO_inv hr
                  clear hr
                  obtain ⟨o_6, hr, hk⟩ := hq
                  refine wo_join 6 (g10_J6  o_6) ?_ ?_
                  · clear hk
                    have hq := cond_inv hr
                    clear hr
                    rcases hq with ⟨rfl, hr⟩ | ⟨rfl, hr⟩
                    · refine wo_take (v := (.i .i64 x33)) rfl (s_pure (p_mv g11)) ?_
                      refine wo_take (v := (.i .i64 x60)) rfl (s_pure (p_mv g16)) ?_
                      refine wo_take (v := (.i .i64 x0)) rfl (s_pure (p_mv g0)) ?_
                      have hq := bindP_inv hr
                      clear hr
                      obtain ⟨v146, m_12, e146, hr⟩ := hq
                      have hq := asI_inv hr
                      clear hr
                      obtain ⟨x146, rfl, hr⟩ := hq
                      refine wo_take (v := (.i .i64 x146)) rfl (s_call (mc rfl (mc rfl mn)) (callM_le hM.call e146)) ?_
                      have hq := forceB_inv hr
                      clear hr
                      obtain ⟨c147, e147, hr⟩ := hq
                      refine wo_take (v := (.b c147)) rfl (s_pure (p_bin rfl rfl (b_leq.trans (cb e147)))) ?_
                      refine wo_step (v := (.b c147)) (s_pure (p_pickT rfl rfl)) ?_
                      refine wo_nil ?_
                      cases hr
                      exact ⟨_, _, rfl, rfl, gl rfl⟩
                    · refine wo_skip (v := (.b false)) rfl rfl ?_
                      refine wo_skip (v := (.b false)) rfl rfl ?_
                      refine wo_skip (v := (.b false)) rfl rfl ?_
                      refine wo_skip (v := (.b false)) rfl rfl ?_
                      refine wo_skip (v := (.b false)) rfl rfl ?_
                      refine wo_step (v := (.b false)) (s_pure (p_pickF rfl rfl)) ?_
                      refine wo_nil ?_
                      cases hr
                      exact ⟨_, _, rfl, rfl, gl rfl⟩
                  · clear hr
                    have hr := hk
                    clear hk
                    obtain ⟨c148, m_11⟩ := o_6
                    rintro mm_5 t_8 ⟨rfl, g148⟩
                    refine wo_step (v := (.b c148)) (s_pure (p_mv g148)) ?_
                    have hq := bindO_inv hr
                    clear hr
                    obtain ⟨o_7, hr, hk⟩ := hq
                    refine wo_join 2 (g10_J7  o_7) ?_ ?_
                    · clear hk
                      have hq := cond_inv hr
                      clear hr
                      rcases hq with ⟨rfl, hr⟩ | ⟨rfl, hr⟩
                      · have hq := bindP_inv hr
                        clear hr
                        obtain ⟨v150, m_14, e150, hr⟩ := hq
                        have hq := asB_inv hr
                        clear hr
                        obtain ⟨c150, rfl, hr⟩ := hq
                        refine wo_take (v := (.b c150)) rfl (s_call mn (callM_le hM.call e150)) ?_
                        refine wo_step (v := (.b c150)) (s_pure (p_pickT rfl rfl)) ?_
                        refine wo_nil ?_
                        cases hr
                        exact ⟨_, _, rfl, rfl, gl rfl⟩
                      · refine wo_skip (v := (.b false)) rfl rfl ?_
                        refine wo_step (v := (.b false)) (s_pure (p_pickF rfl rfl)) ?_
                        refine wo_nil ?_
                        cases hr
                        exact ⟨_, _, rfl, rfl, gl rfl⟩
                    · clear hr
                      have hr := hk
                      clear hk
                      obtain ⟨c151, m_13⟩ := o_7
                      rintro mm_6 t_9 ⟨rfl, g151⟩
                      refine wo_step (v := (.b c151)) (s_pure (p_mv g151)) ?_
                      refine wo_nil ?_
                      refine nx_norm ?_
                      refine w_ret ?_
                      exact qf ret_ok (rt rfl rn) hr

/- dibber/dibberlaw04.few -/
abbrev g15_J0 (v2 : AVal) (m0 : Mm) (o : Bool) (m1 : Mm) (t1 : Tr) : Prop :=
  match o with
  | c14 => m0 = m1 ∧ t1.get 14 = (.b c14) ∧ t1.get 2 = v2
abbrev g15_J1 (m0 : Mm) (o : Bool) (m1 : Mm) (t1 : Tr) : Prop :=
  match o with
  | c19 => m0 = m1 ∧ t1.get 19 = (.b c19)
def g15 (M : Means) (ro : List ABlk) (v0 : AVal) (v1 : AVal) (v2 : AVal) (m0 : Mm) : Option (AVal × Heap × Nat × Nat) :=
  bindO (evP .e (.len false (.c v0))) fun v8 =>
  asI .i64 v8 fun x8 =>
  forceB (!ltI 40 x8) fun c9 =>
  bindO (cond c9 (
    bindO (evP .e (.len false (.c v1))) fun v12 =>
    asI .i64 v12 fun x12 =>
    forceB (!ltI 40 x12) fun c13 =>
    some c13) (
    some false)) fun c14 =>
  bindO (cond c14 (
    bindO (evP .e (.len false (.c v2))) fun v17 =>
    asI .i64 v17 fun x17 =>
    forceB (!ltI 40 x17) fun c18 =>
    some c18) (
    some false)) fun c19 =>
  finM m0.h.length (tupA [(.b c19)]) m0

theorem g15_ok {ro : List ABlk} {O : Caller} {M : Means} (hM : M.Ok ⟨F, O⟩ ro) {v0 v1 v2 h r} (ho : O 15 [v0, v1, v2] h = none) (hr : g15 M ro v0 v1 v2 ⟨h, h.length, h.length⟩ = some r) : callX ⟨F, O⟩ ro 15 [v0, v1, v2] h = some r := by
  refine callX_of (F := ⟨F, O⟩) (fn := fn15) (g := g15 M ro v0 v1 v2) ho rfl rfl hr ?_
  clear ho
  clear hr
  intro m0 t0 ht hr
  have g0 : t0.get 0 = v0 := ht 0
  have g1 : t0.get 1 = v1 := ht 1
  have g2 : t0.get 2 = v2 := ht 2
  clear ht
  unfold g15 at hr
  refine w_seq ?_
  refine w_ops ?_
  refine wo_step (v := (.b false)) (s_pure (p_mv rfl)) ?_
  refine wo_nil ?_
  refine nx_norm ?_
  refine w_seq ?_
  refine w_ops ?_
  refine wo_step (v := v0) (s_pure (p_mv g0)) ?_
  have hq := bindO_inv hr
  clear hr
  obtain ⟨v8, e8, hr⟩ := hq
  have hq := asI_inv hr
  clear hr
  obtain ⟨x8, rfl, hr⟩ := hq
  refine wo_step (v := (.i .i64 x8)) (s_pure (o_len rfl e8)) ?_
  have hq := forceB_inv hr
  clear hr
  obtain ⟨c9, e9, hr⟩ := hq
  refine wo_step (v := (.b c9)) (s_pure (p_bin rfl rfl (b_leq.trans (cb e9)))) ?_
  refine wo_step (v := (.b c9)) (s_pure (p_mv rfl)) ?_
  have hq := bindO_inv hr
  clear hr
  obtain ⟨o, hr, hk⟩ := hq
  refine wo_join 4 (g15_J0 v2 m0 o) ?_ ?_
  · clear hk
    have hq := cond_inv hr
    clear hr
    rcases hq with ⟨rfl, hr⟩ | ⟨rfl, hr⟩
    · refine wo_take (v := v1) rfl (s_pure (p_mv g1)) ?_
      have hq := bindO_inv hr
      clear hr
      obtain ⟨v12, e12, hr⟩ := hq
      have hq := asI_inv hr
      clear hr
      obtain ⟨x12, rfl, hr⟩ := hq
      refine wo_take (v := (.i .i64 x12)) rfl (s_pure (o_len rfl e12)) ?_
      have hq := forceB_inv hr
      clear hr
      obtain ⟨c13, e13, hr⟩ := hq
      refine wo_take (v := (.b c13)) rfl (s_pure (p_bin rfl rfl (b_leq.trans (cb e13)))) ?_
      refine wo_step (v := (.b c13)) (s_pure (p_pickT rfl rfl)) ?_
      refine wo_nil ?_
      cases hr
      exact ⟨_, _, rfl, rfl, gl rfl, gl g2⟩
    · refine wo_skip (v := (.b false)) rfl rfl ?_
      refine wo_skip (v := (.b false)) rfl rfl ?_
      refine wo_skip (v := (.b false)) rfl rfl ?_
      refine wo_step (v := (.b false)) (s_pure (p_pickF rfl rfl)) ?_
      refine wo_nil ?_
      cases hr
      exact ⟨_, _, rfl, rfl, gl rfl, gl g2⟩
  · clear hr
    have hr := hk
    clear hk
    obtain ⟨c14, ho⟩ : ∃ z, z = o := ⟨_, rfl⟩
    subst ho
    rintro mm t_1 ⟨rfl, g14, g2⟩
    refine wo_step (v := (.b c14)) (s_pure (p_mv g14)) ?_
    have hq := bindO_inv hr
    clear hr
    obtain ⟨o_1, hr, hk⟩ := hq
    refine wo_join 4 (g15_J1 m0 o_1) ?_ ?_
    · clear hk
      have hq := cond_inv hr
      clear hr
      rcases hq with ⟨rfl, hr⟩ | ⟨rfl, hr⟩
      · refine wo_take (v := v2) rfl (s_pure (p_mv g2)) ?_
        have hq := bindO_inv hr
        clear hr
        obtain ⟨v17, e17, hr⟩ := hq
        have hq := asI_inv hr
        clear hr
        obtain ⟨x17, rfl, hr⟩ := hq
        refine wo_take (v := (.i .i64 x17)) rfl (s_pure (o_len rfl e17)) ?_
        have hq := forceB_inv hr
        clear hr
        obtain ⟨c18, e18, hr⟩ := hq
        refine wo_take (v := (.b c18)) rfl (s_pure (p_bin rfl rfl (b_leq.trans (cb e18)))) ?_
        refine wo_step (v := (.b c18)) (s_pure (p_pickT rfl rfl)) ?_
        refine wo_nil ?_
        cases hr
        exact ⟨_, _, rfl, rfl, gl rfl⟩
      · refine wo_skip (v := (.b false)) rfl rfl ?_
        refine wo_skip (v := (.b false)) rfl rfl ?_
        refine wo_skip (v := (.b false)) rfl rfl ?_
        refine wo_step (v := (.b false)) (s_pure (p_pickF rfl rfl)) ?_
        refine wo_nil ?_
        cases hr
        exact ⟨_, _, rfl, rfl, gl rfl⟩
    · clear hr
      have hr := hk
      clear hk
      obtain ⟨c19, ho⟩ : ∃ z, z = o_1 := ⟨_, rfl⟩
      subst ho
      rintro mm_1 t_2 ⟨rfl, g19⟩
      refine wo_step (v := (.b c19)) (s_pure (p_mv g19)) ?_
      refine wo_nil ?_
      refine nx_norm ?_
      refine w_ret ?_
      exact qf ret_ok (rt rfl rn) hr

/- dibber/dibberref04.Spans -/
abbrev g20_J0 (x0 : Int) (x1 : Int) (v2 : AVal) (m0 : Mm) (o : Bool) (m1 : Mm) (t1 : Tr) : Prop :=
  match o with
  | c14 => m0 = m1 ∧ t1.get 14 = (.b c14) ∧ t1.get 0 = (.i .i64 x0) ∧ t1.get 1 = (.i .i64 x1) ∧ t1.get 2 = v2
abbrev g20_J1 (x0 : Int) (x1 : Int) (v2 : AVal) (m0 : Mm) (o : Bool) (m1 : Mm) (t1 : Tr) : Prop :=
  match o with
  | c18 => m0 = m1 ∧ t1.get 18 = (.b c18) ∧ t1.get 0 = (.i .i64 x0) ∧ t1.get 1 = (.i .i64 x1) ∧ t1.get 2 = v2
abbrev g20_J2 (x0 : Int) (x1 : Int) (v2 : AVal) (m0 : Mm) (o : Bool) (m1 : Mm) (t1 : Tr) : Prop :=
  match o with
  | c22 => m0 = m1 ∧ t1.get 22 = (.b c22) ∧ t1.get 0 = (.i .i64 x0) ∧ t1.get 1 = (.i .i64 x1) ∧ t1.get 2 = v2
abbrev g20_I3 (x0 : Int) (x1 : Int) (v2 : AVal) (s : Int × Mm) (m1 : Mm) (t1 : Tr) : Prop :=
  match s with
  | (x7, m_1) => m_1 = m1 ∧ t1.get 7 = (.i .i64 x7) ∧ t1.get 0 = (.i .i64 x0) ∧ t1.get 1 = (.i .i64 x1) ∧ t1.get 2 = v2
abbrev g20_J3 (x0 : Int) (x1 : Int) (v2 : AVal) (o : (Mm ⊕ (Int × Mm))) (e : AExit) (m1 : Mm) (t1 : Tr) : Prop :=
  match o with
  | (.inl mo) => e = (.exit 0) ∧ mo = m1
  | (.inr (y6, mo)) => e = .ret ∧ mo = m1 ∧ t1.get 6 = (.i .i64 y6)
abbrev g20_J4 (x0 : Int) (x1 : Int) (v2 : AVal) (x7 : Int) (v8 : AVal) (m_3 : Mm) (o : Bool) (m1 : Mm) (t1 : Tr) : Prop :=
  match o with
  | c44 => m_3 = m1 ∧ t1.get 44 = (.b c44) ∧ t1.get 0 = (.i .i64 x0) ∧ t1.get 1 = (.i .i64 x1) ∧ t1.get 2 = v2 ∧ t1.get 7 = (.i .i64 x7) ∧ t1.get 8 = v8
abbrev g20_J5 (x0 : Int) (x1 : Int) (v2 : AVal) (x7 : Int) (v8 : AVal) (m_3 : Mm) (o : Bool) (m1 : Mm) (t1 : Tr) : Prop :=
  match o with
  | c49 => m_3 = m1 ∧ t1.get 49 = (.b c49) ∧ t1.get 0 = (.i .i64 x0) ∧ t1.get 1 = (.i .i64 x1) ∧ t1.get 2 = v2 ∧ t1.get 7 = (.i .i64 x7) ∧ t1.get 8 = v8
abbrev g20_J6 (x0 : Int) (x1 : Int) (v2 : AVal) (x7 : Int) (v8 : AVal) (m_3 : Mm) (o : Bool) (m1 : Mm) (t1 : Tr) : Prop :=
  match o with
  | c55 => m_3 = m1 ∧ t1.get 55 = (.b c55) ∧ t1.get 0 = (.i .i64 x0) ∧ t1.get 1 = (.i .i64 x1) ∧ t1.get 2 = v2 ∧ t1.get 7 = (.i .i64 x7) ∧ t1.get 8 = v8
abbrev g20_J7 (x0 : Int) (x1 : Int) (v2 : AVal) (x7 : Int) (v8 : AVal) (m_3 : Mm) (o : Bool) (m1 : Mm) (t1 : Tr) : Prop :=
  match o with
  | c62 => m_3 = m1 ∧ t1.get 62 = (.b c62) ∧ t1.get 0 = (.i .i64 x0) ∧ t1.get 1 = (.i .i64 x1) ∧ t1.get 2 = v2 ∧ t1.get 7 = (.i .i64 x7) ∧ t1.get 8 = v8
abbrev g20_J8 (x0 : Int) (x1 : Int) (v2 : AVal) (x7 : Int) (v8 : AVal) (m_3 : Mm) (o : Bool) (m1 : Mm) (t1 : Tr) : Prop :=
  match o with
  | c67 => m_3 = m1 ∧ t1.get 67 = (.b c67) ∧ t1.get 0 = (.i .i64 x0) ∧ t1.get 1 = (.i .i64 x1) ∧ t1.get 2 = v2 ∧ t1.get 7 = (.i .i64 x7) ∧ t1.get 8 = v8
abbrev g20_J9 (x0 : Int) (x1 : Int) (v2 : AVal) (x7 : Int) (v8 : AVal) (m_3 : Mm) (o : Bool) (m1 : Mm) (t1 : Tr) : Prop :=
  match o with
  | c72 => m_3 = m1 ∧ t1.get 72 = (.b c72) ∧ t1.get 0 = (.i .i64 x0) ∧ t1.get 1 = (.i .i64 x1) ∧ t1.get 2 = v2 ∧ t1.get 7 = (.i .i64 x7) ∧ t1.get 8 = v8
abbrev g20_J10 (x0 : Int) (x1 : Int) (v2 : AVal) (x7 : Int) (v8 : AVal) (m_3 : Mm) (o : Bool) (m1 : Mm) (t1 : Tr) : Prop :=
  match o with
  | c79 => m_3 = m1 ∧ t1.get 79 = (.b c79) ∧ t1.get 0 = (.i .i64 x0) ∧ t1.get 1 = (.i .i64 x1) ∧ t1.get 2 = v2 ∧ t1.get 7 = (.i .i64 x7) ∧ t1.get 8 = v8
abbrev g20_J11 (x0 : Int) (x1 : Int) (v2 : AVal) (x7 : Int) (m_3 : Mm) (o : Bool) (m1 : Mm) (t1 : Tr) : Prop :=
  match o with
  | c89 => m_3 = m1 ∧ t1.get 89 = (.b c89) ∧ t1.get 0 = (.i .i64 x0) ∧ t1.get 1 = (.i .i64 x1) ∧ t1.get 2 = v2 ∧ t1.get 7 = (.i .i64 x7)
def g20_b3 (M : Means) (ro : List ABlk) (x0 : Int) (x1 : Int) (v2 : AVal) (x7 : Int) (m_1 : Mm) : Option ((Int × Mm) ⊕ ((Mm ⊕ (Int × Mm)))) :=
  bindO (evP .e (.len false (.c v2))) fun v28 =>
  asI .i64 v28 fun x28 =>
  forceB (ltI x7 x28) fun c29 =>
  cond c29 (
    bindO (evP .e (.ixS 4 (.c v2) (.c (.i .i64 x7)))) fun v34 =>
    bindO (ldM ro m_1 false 4 v34) fun v35 =>
    bindP (stepM ro m_1 (.al 31 [(AVal.i IntKind.i64 0), (AVal.i IntKind.i64 0), (AVal.i IntKind.i64 0), (AVal.i IntKind.i64 0)])) fun v8 m_2 =>
    bindP (stepM ro m_2 (.st 4 (.c v8) (.c v35))) fun vn m_3 =>
    bindO (evP .e (.faddr 0 (.c v8))) fun v36 =>
    bindO (ldM ro m_3 true 1 v36) fun v37 =>
    asI .i64 v37 fun x37 =>
    forceB (ltI x37 0) fun c38 =>
    bindO (cond c38 (
      some true) (
      bindO (evP .e (.faddr 0 (.c v8))) fun v40 =>
      bindO (ldM ro m_3 true 1 v40) fun v41 =>
      asI .i64 v41 fun x41 =>
      forceB (!ltI x41 x1) fun c43 =>
      some c43)) fun c44 =>
    bindO (cond c44 (
      some true) (
      bindO (evP .e (.faddr 1 (.c v8))) fun v46 =>
      bindO (ldM ro m_3 true 1 v46) fun v47 =>
      asI .i64 v47 fun x47 =>
      forceB (ltI x47 0) fun c48 =>
      some c48)) fun c49 =>
    bindO (cond c49 (
      some true) (
      bindO (evP .e (.faddr 1 (.c v8))) fun v51 =>
      bindO (ldM ro m_3 true 1 v51) fun v52 =>
      asI .i64 v52 fun x52 =>
      forceB (!ltI x52 x1) fun c54 =>
      some c54)) fun c55 =>
    bindO (cond c55 (
      some true) (
      bindO (evP .e (.faddr 0 (.c v8))) fun v57 =>
      bindO (ldM ro m_3 true 1 v57) fun v58 =>
      asI .i64 v58 fun x58 =>
      bindO (evP .e (.faddr 1 (.c v8))) fun v59 =>
      bindO (ldM ro m_3 true 1 v59) fun v60 =>
      asI .i64 v60 fun x60 =>
      forceB (eqI x58 x60) fun c61 =>
      some c61)) fun c62 =>
    bindO (cond c62 (
      some true) (
      bindO (evP .e (.faddr 2 (.c v8))) fun v64 =>
      bindO (ldM ro m_3 true 1 v64) fun v65 =>
      asI .i64 v65 fun x65 =>
      forceB (ltI x65 (-600)) fun c66 =>
      some c66)) fun c67 =>
    bindO (cond c67 (
      some true) (
      bindO (evP .e (.faddr 2 (.c v8))) fun v69 =>
      bindO (ldM ro m_3 true 1 v69) fun v70 =>
      asI .i64 v70 fun x70 =>
      forceB (ltI 600 x70) fun c71 =>
      some c71)) fun c72 =>
    bindO (cond c72 (
      some true) (
      bindO (evP .e (.faddr 3 (.c v8))) fun v74 =>
      bindO (ldM ro m_3 true 1 v74) fun v75 =>
      asI .i64 v75 fun x75 =>
      bindO (evP .e (.faddr 2 (.c v8))) fun v76 =>
      bindO (ldM ro m_3 true 1 v76) fun v77 =>
      asI .i64 v77 fun x77 =>
      forceB (ltI x75 x77) fun c78 =>
      some c78)) fun c79 =>
    bindO (cond c79 (
      some true) (
      bindO (evP .e (.faddr 3 (.c v8))) fun v81 =>
      bindO (ldM ro m_3 true 1 v81) fun v82 =>
      asI .i64 v82 fun x82 =>
      bindO (evP .e (.faddr 2 (.c v8))) fun v83 =>
      bindO (ldM ro m_3 true 1 v83) fun v84 =>
      asI .i64 v84 fun x84 =>
      forceI (wr .i64 (x84 + x0)) fun x86 =>
      forceI (wr .i64 (x86 - 1)) fun x87 =>
      forceB (ltI x87 x82) fun c88 =>
      some c88)) fun c89 =>
    cond c89 (
      some (.inr (.inr (2, m_3)))) (
      forceI (wr .i64 (x7 + 1)) fun x31 =>
      some (.inl (x31, m_3)))) (
    some (.inr (.inl m_1)))
def g20 (M : Means) (ro : List ABlk) (x0 : Int) (x1 : Int) (v2 : AVal) (m0 : Mm) : Option (AVal × Heap × Nat × Nat) :=
  forceB (ltI x0 1) fun c10 =>
  bindO (cond c10 (
    some true) (
    forceB (ltI 24 x0) fun c13 =>
    some c13)) fun c14 =>
  bindO (cond c14 (
    some true) (
    forceB (ltI x1 1) fun c17 =>
    some c17)) fun c18 =>
  bindO (cond c18 (
    some true) (
    forceB (ltI 6 x1) fun c21 =>
    some c21)) fun c22 =>
  cond c22 (
    finM m0.h.length (tupA [(.i .i64 2)]) m0) (
    bindO (evP .e (.len false (.c v2))) fun v24 =>
    asI .i64 v24 fun x24 =>
    forceB (ltI 20 x24) fun c25 =>
    cond c25 (
      finM m0.h.length (tupA [(.i .i64 3)]) m0) (
      bindO (M.loop (S := Int × Mm) (R := (Mm ⊕ (Int × Mm))) (fun s => g20_b3 M ro x0 x1 v2 s.1 s.2) (0, m0)) fun o_11 => match o_11 with
      | (.inl m_4) =>
        finM m0.h.length (tupA [(.i .i64 0)]) m_4
      | (.inr (x6, m_5)) =>
        finM m0.h.length (tupA [(.i .i64 x6)]) m_5))

theorem g20_ok {ro : List ABlk} {O : Caller} {M : Means} (hM : M.Ok ⟨F, O⟩ ro) {x0 x1 v2 h r} (ho : O 20 [(.i .i64 x0), (.i .i64 x1), v2] h = none) (hr : g20 M ro x0 x1 v2 ⟨h, h.length, h.length⟩ = some r) : callX ⟨F, O⟩ ro 20 [(.i .i64 x0), (.i .i64 x1), v2] h = some r := by
  refine callX_of (F := ⟨F, O⟩) (fn := fn20) (g := g20 M ro x0 x1 v2) ho rfl rfl hr ?_
  clear ho
  clear hr
  intro m0 t0 ht hr
  have g0 : t0.get 0 = (.i .i64 x0) := ht 0
  have g1 : t0.get 1 = (.i .i64 x1) := ht 1
  have g2 : t0.get 2 = v2 := ht 2
  clear ht
  unfold g20 at hr
  refine w_seq ?_
  refine w_ops ?_
  refine wo_step (v := (.i .i64 0)) (s_pure (p_mv rfl)) ?_
  refine wo_nil ?_
  refine nx_norm ?_
  refine w_seq ?_
  refine w_seq ?_
  refine w_ops ?_
  refine wo_step (v := (.i .i64 x0)) (s_pure (p_mv g0)) ?_
  have hq := forceB_inv hr
  clear hr
  obtain ⟨c10, e10, hr⟩ := hq
  refine wo_step (v := (.b c10)) (s_pure (p_bin rfl rfl (b_lss.trans (cb e10)))) ?_
  refine wo_step (v := (.b c10)) (s_pure (p_mv rfl)) ?_
  have hq := bindO_inv hr
  clear hr
  obtain ⟨o, hr, hk⟩ := hq
  refine wo_join 3 (g20_J0 x0 x1 v2 m0 o) ?_ ?_
  · clear hk
    have hq := cond_inv hr
    clear hr
    rcases hq with ⟨rfl, hr⟩ | ⟨rfl, hr⟩
    · refine wo_skip (v := (.b true)) rfl rfl ?_
      refine wo_skip (v := (.b true)) rfl rfl ?_
      refine wo_step (v := (.b true)) (s_pure (p_pickT rfl rfl)) ?_
      refine wo_nil ?_
      cases hr
      exact ⟨_, _, rfl, rfl, gl rfl, gl g0, gl g1, gl g2⟩
    · refine wo_take (v := (.i .i64 x0)) rfl (s_pure (p_mv g0)) ?_
      have hq := forceB_inv hr
      clear hr
      obtain ⟨c13, e13, hr⟩ := hq
      refine wo_take (v := (.b c13)) rfl (s_pure (p_bin rfl rfl (b_gtr.trans (cb e13)))) ?_
      refine wo_step (v := (.b c13)) (s_pure (p_pickF rfl rfl)) ?_
      refine wo_nil ?_
      cases hr
      exact ⟨_, _, rfl, rfl, gl rfl, gl g0, gl g1, gl g2⟩
  · clear hr
    have hr := hk
    clear hk
    obtain ⟨c14, ho⟩ : ∃ z, z = o := ⟨_, rfl⟩
    subst ho
    rintro mm t_1 ⟨rfl, g14, g0, g1, g2⟩
    refine wo_step (v := (.b c14)) (s_pure (p_mv g14)) ?_
    have hq := bindO_inv hr
    clear hr
    obtain ⟨o_1, hr, hk⟩ := hq
    refine wo_join 3 (g20_J1 x0 x1 v2 m0 o_1) ?_ ?_
    · clear hk
      have hq := cond_inv hr
      clear hr
      rcases hq with ⟨rfl, hr⟩ | ⟨rfl, hr⟩
      · refine wo_skip (v := (.b true)) rfl rfl ?_
        refine wo_skip (v := (.b true)) rfl rfl ?_
        refine wo_step (v := (.b true)) (s_pure (p_pickT rfl rfl)) ?_
        refine wo_nil ?_
        cases hr
        exact ⟨_, _, rfl, rfl, gl rfl, gl g0, gl g1, gl g2⟩
      · refine wo_take (v := (.i .i64 x1)) rfl (s_pure (p_mv g1)) ?_
        have hq := forceB_inv hr
        clear hr
        obtain ⟨c17, e17, hr⟩ := hq
        refine wo_take (v := (.b c17)) rfl (s_pure (p_bin rfl rfl (b_lss.trans (cb e17)))) ?_
        refine wo_step (v := (.b c17)) (s_pure (p_pickF rfl rfl)) ?_
        refine wo_nil ?_
        cases hr
        exact ⟨_, _, rfl, rfl, gl rfl, gl g0, gl g1, gl g2⟩
    · clear hr
      have hr := hk
      clear hk
      obtain ⟨c18, ho⟩ : ∃ z, z = o_1 := ⟨_, rfl⟩
      subst ho
      rintro mm_1 t_2 ⟨rfl, g18, g0, g1, g2⟩
      refine wo_step (v := (.b c18)) (s_pure (p_mv g18)) ?_
      have hq := bindO_inv hr
      clear hr
      obtain ⟨o_2, hr, hk⟩ := hq
      refine wo_join 3 (g20_J2 x0 x1 v2 m0 o_2) ?_ ?_
      · clear hk
        have hq := cond_inv hr
        clear hr
        rcases hq with ⟨rfl, hr⟩ | ⟨rfl, hr⟩
        · refine wo_skip (v := (.b true)) rfl rfl ?_
          refine wo_skip (v := (.b true)) rfl rfl ?_
          refine wo_step (v := (.b true)) (s_pure (p_pickT rfl rfl)) ?_
          refine wo_nil ?_
          cases hr
          exact ⟨_, _, rfl, rfl, gl rfl, gl g0, gl g1, gl g2⟩
        · refine wo_take (v := (.i .i64 x1)) rfl (s_pure (p_mv g1)) ?_
          have hq := forceB_inv hr
          clear hr
          obtain ⟨c21, e21, hr⟩ := hq
          refine wo_take (v := (.b c21)) rfl (s_pure (p_bin rfl rfl (b_gtr.trans (cb e21)))) ?_
          refine wo_step (v := (.b c21)) (s_pure (p_pickF rfl rfl)) ?_
          refine wo_nil ?_
          cases hr
          exact ⟨_, _, rfl, rfl, gl rfl, gl g0, gl g1, gl g2⟩
      · clear hr
        have hr := hk
        clear hk
        obtain ⟨c22, ho⟩ : ∃ z, z = o_2 := ⟨_, rfl⟩
        subst ho
        rintro mm_2 t_3 ⟨rfl, g22, g0, g1, g2⟩
        refine wo_nil ?_
        refine nx_norm ?_
        have hq := cond_inv hr
        clear hr
        rcases hq with ⟨rfl, hr⟩ | ⟨rfl, hr⟩
        · refine w_condT g22 ?_
          refine w_seq ?_
          refine w_ops ?_
          refine wo_step (v := (.i .i64 2)) (s_pure (p_mv rfl)) ?_
          refine wo_nil ?_
          refine nx_norm ?_
          refine w_ret ?_
          refine nx_ret ?_
          exact qf ret_ok (rt rfl rn) hr
        · refine w_condF g22 ?_
          refine w_skip ?_
          refine nx_norm ?_
          refine w_seq ?_
          refine w_seq ?_
          refine w_ops ?_
          refine wo_step (v := v2) (s_pure (p_mv g2)) ?_
          have hq := bindO_inv hr
          clear hr
          obtain ⟨v24, e24, hr⟩ := hq
          have hq := asI_inv hr
          clear hr
          obtain ⟨x24, rfl, hr⟩ := hq
          refine wo_step (v := (.i .i64 x24)) (s_pure (o_len rfl e24)) ?_
          have hq := forceB_inv hr
          clear hr
          obtain ⟨c25, e25, hr⟩ := hq
          refine wo_step (v := (.b c25)) (s_pure (p_bin rfl rfl (b_gtr.trans (cb e25)))) ?_
          refine wo_nil ?_
          refine nx_norm ?_
          have hq := cond_inv hr
          clear hr
          rcases hq with ⟨rfl, hr⟩ | ⟨rfl, hr⟩
          · refine w_condT rfl ?_
            refine w_seq ?_
            refine w_ops ?_
            refine wo_step (v := (.i .i64 3)) (s_pure (p_mv rfl)) ?_
            refine wo_nil ?_
            refine nx_norm ?_
            refine w_ret ?_
            refine nx_ret ?_
            exact qf ret_ok (rt rfl rn) hr
          · refine w_condF rfl ?_
            refine w_skip ?_
            refine nx_norm ?_
            refine w_seq ?_
            refine w_seq ?_
            refine w_ops ?_
            refine wo_step (v := (.i .i64 0)) (s_pure (p_mv rfl)) ?_
            refine wo_nil ?_
            refine nx_norm ?_
            refine w_block ?_
            have hq := bindO_inv hr
            clear hr
            obtain ⟨o_11, hl, hr⟩ := hq
            obtain ⟨n, hl⟩ := hM.loop _ _ _ hl
            refine jp_mono (w_loop _ (g20_I3 x0 x1 v2) (g20_J3 x0 x1 v2) ?_ n _ _ _ _ hl ⟨rfl, gl rfl, gl g0, gl g1, gl g2⟩) ?_
            · clear hr hl
              intro s mm_13 t_4 o hi hr
              obtain ⟨x7, m_1⟩ := s
              obtain ⟨rfl, g7, g0, g1, g2⟩ := hi
              unfold g20_b3 at hr
              refine w_seq ?_
              refine w_seq ?_
              refine w_ops ?_
              refine wo_step (v := (.i .i64 x7)) (s_pure (p_mv g7)) ?_
              refine wo_step (v := v2) (s_pure (p_mv g2)) ?_
              have hq := bindO_inv hr
              clear hr
              obtain ⟨v28, e28, hr⟩ := hq
              have hq := asI_inv hr
              clear hr
              obtain ⟨x28, rfl, hr⟩ := hq
              refine wo_step (v := (.i .i64 x28)) (s_pure (o_len rfl e28)) ?_
              have hq := forceB_inv hr
              clear hr
              obtain ⟨c29, e29, hr⟩ := hq
              refine wo_step (v := (.b c29)) (s_pure (p_bin rfl rfl (b_lss.trans (cb e29)))) ?_
              refine wo_nil ?_
              refine nx_norm ?_
              have hq := cond_inv hr
              clear hr
              rcases hq with ⟨rfl, hr⟩ | ⟨rfl, hr⟩
              · refine w_condT rfl ?_
                refine w_skip ?_
                refine nx_norm ?_
                refine w_seq ?_
                refine w_block ?_
                refine w_seq ?_
                refine w_ops ?_
                refine wo_step (v := v2) (s_pure (p_mv g2)) ?_
                refine wo_step (v := (.i .i64 x7)) (s_pure (p_mv g7)) ?_
                have hq := bindO_inv hr
                clear hr
                obtain ⟨v34, e34, hr⟩ := hq
                refine wo_step (v := v34) (s_pure (o_ixS rfl rfl e34)) ?_
                have hq := bindO_inv hr
                clear hr
                obtain ⟨v35, e35, hr⟩ := hq
                refine wo_step (v := v35) (s_ld rfl e35) ?_
                have hq := bindP_inv hr
                clear hr
                obtain ⟨v8, m_2, e8, hr⟩ := hq
                refine wo_step (v := v8) (s_al e8) ?_
                have hq := bindP_inv hr
                clear hr
                obtain ⟨vn, m_3, en, hr⟩ := hq
                refine wo_stepN (s_st rfl rfl en) ?_
                refine wo_nil ?_
                refine nx_norm ?_
                refine w_seq ?_
                refine w_ops ?_
                have hq := bindO_inv hr
                clear hr
                obtain ⟨v36, e36, hr⟩ := hq
                refine wo_step (v := v36) (s_pure (o_faddr rfl e36)) ?_
                have hq := bindO_inv hr
                clear hr
                obtain ⟨v37, e37, hr⟩ := hq
                have hq := asI_inv hr
                clear hr
                obtain ⟨x37, rfl, hr⟩ := hq
                refine wo_step (v := (.i .i64 x37)) (s_ld rfl e37) ?_
                have hq := forceB_inv hr
                clear hr
                obtain ⟨c38, e38, hr⟩ := hq
                refine wo_step (v := (.b c38)) (s_pure (p_bin rfl rfl (b_lss.trans (cb e38)))) ?_
                refine wo_step (v := (.b c38)) (s_pure (p_mv rfl)) ?_
                have hq := bindO_inv hr
                clear hr
                obtain ⟨o_3, hr, hk⟩ := hq
                refine wo_join 5 (g20_J4 x0 x1 v2 x7 v8 m_3 o_3) ?_ ?_
                · clear hk
                  have hq := cond_inv hr
                  clear hr
                  rcases hq with ⟨rfl, hr⟩ | ⟨rfl, hr⟩
                  · refine wo_skip (v := (.b true)) rfl rfl ?_
                    refine wo_skip (v := (.b true)) rfl rfl ?_
                    refine wo_skip (v := (.b true)) rfl rfl ?_
                    refine wo_skip (v := (.b true)) rfl rfl ?_
                    refine wo_step (v := (.b true)) (s_pure (p_pickT rfl rfl)) ?_
                    refine wo_nil ?_
                    cases hr
                    exact ⟨_, _, rfl, rfl, gl rfl, gl g0, gl g1, gl g2, gl g7, gl rfl⟩
                  · have hq := bindO_inv hr
                    clear hr
                    obtain ⟨v40, e40, hr⟩ := hq
                    refine wo_take (v := v40) rfl (s_pure (o_faddr rfl e40)) ?_
                    have hq := bindO_inv hr
                    clear hr
                    obtain ⟨v41, e41, hr⟩ := hq
                    have hq := asI_inv hr
                    clear hr
                    obtain ⟨x41, rfl, hr⟩ := hq
                    refine wo_take (v := (.i .i64 x41)) rfl (s_ld rfl e41) ?_
                    refine wo_take (v := (.i .i64 x1)) rfl (s_pure (p_mv g1)) ?_
                    have hq := forceB_inv hr
                    clear hr
                    obtain ⟨c43, e43, hr⟩ := hq
                    refine wo_take (v := (.b c43)) rfl (s_pure (p_bin rfl rfl (b_geq.trans (cb e43)))) ?_
                    refine wo_step (v := (.b c43)) (s_pure (p_pickF rfl rfl)) ?_
                    refine wo_nil ?_
                    cases hr
                    exact ⟨_, _, rfl, rfl, gl rfl, gl g0, gl g1, gl g2, gl g7, gl rfl⟩
                · clear hr
                  have hr := hk
                  clear hk
                  obtain ⟨c44, ho⟩ : ∃ z, z = o_3 := ⟨_, rfl⟩
                  subst ho
                  rintro mm_3 t_5 ⟨rfl, g44, g0, g1, g2, g7, g8⟩
                  refine wo_step (v := (.b c44)) (s_pure (p_mv g44)) ?_
                  have hq := bindO_inv hr
                  clear hr
                  obtain ⟨o_4, hr, hk⟩ := hq
                  refine wo_join 4 (g20_J5 x0 x1 v2 x7 v8 m_3 o_4) ?_ ?_
                  · clear hk
                    have hq := cond_inv hr
                    clear hr
                    rcases hq with ⟨rfl, hr⟩ | ⟨rfl, hr⟩
                    · refine wo_skip (v := (.b true)) rfl rfl ?_
                      refine wo_skip (v := (.b true)) rfl rfl ?_
                      refine wo_skip (v := (.b true)) rfl rfl ?_
                      refine wo_step (v := (.b true)) (s_pure (p_pickT rfl rfl)) ?_
                      refine wo_nil ?_
                      cases hr
                      exact ⟨_, _, rfl, rfl, gl rfl, gl g0, gl g1, gl g2, gl g7, gl g8⟩
                    · have hq := bindO_inv hr
                      clear hr
                      obtain ⟨v46, e46, hr⟩ := hq
                      refine wo_take (v := v46) rfl (s_pure (o_faddr g8 e46)) ?_
                      have hq := bindO_inv hr
                      clear hr
                      obtain ⟨v47, e47, hr⟩ := hq
                      have hq := asI_inv hr
                      clear hr
                      obtain ⟨x47, rfl, hr⟩ := hq
                      refine wo_take (v := (.i .i64 x47)) rfl (s_ld rfl e47) ?_
                      have hq := forceB_inv hr
                      clear hr
                      obtain ⟨c48, e48, hr⟩ := hq
                      refine wo_take (v := (.b c48)) rfl (s_pure (p_bin rfl rfl (b_lss.trans (cb e48)))) ?_
                      refine wo_step (v := (.b c48)) (s_pure (p_pickF rfl rfl)) ?_
                      refine wo_nil ?_
                      cases hr
                      exact ⟨_, _, rfl, rfl, gl rfl, gl g0, gl g1, gl g2, gl g7, gl g8⟩
                  · clear hr
                    have hr := hk
                    clear hk
                    obtain ⟨c49, ho⟩ : ∃ z, z = o_4 := ⟨_, rfl⟩
                    subst ho
                    rintro mm_4 t_6 ⟨rfl, g49, g0, g1, g2, g7, g8⟩
                    refine wo_step (v := (.b c49)) (s_pure (p_mv g49)) ?_
                    have hq := bindO_inv hr
                    clear hr
                    obtain ⟨o_5, hr, hk⟩ := hq
                    refine wo_join 5 (g20_J6 x0 x1 v2 x7 v8 m_3 o_5) ?_ ?_
                    · clear hk
                      have hq := cond_inv hr
                      clear hr
                      rcases hq with ⟨rfl, hr⟩ | ⟨rfl, hr⟩
                      · refine wo_skip (v := (.b true)) rfl rfl ?_
                        refine wo_skip (v := (.b true)) rfl rfl ?_
                        refine wo_skip (v := (.b true)) rfl rfl ?_
                        refine wo_skip (v := (.b true)) rfl rfl ?_
                        refine wo_step (v := (.b true)) (s_pure (p_pickT rfl rfl)) ?_
                        refine wo_nil ?_
                        cases hr
                        exact ⟨_, _, rfl, rfl, gl rfl, gl g0, gl g1, gl g2, gl g7, gl g8⟩
                      · have hq := bindO_inv hr
                        clear hr
                        obtain ⟨v51, e51, hr⟩ := hq
                        refine wo_take (v := v51) rfl (s_pure (o_faddr g8 e51)) ?_
                        have hq := bindO_inv hr
                        clear hr
                        obtain ⟨v52, e52, hr⟩ := hq
                        have hq := asI_inv hr
                        clear hr
                        obtain ⟨x52, rfl, hr⟩ := hq
                        refine wo_take (v := (.i .i64 x52)) rfl (s_ld rfl e52) ?_
                        refine wo_take (v := (.i .i64 x1)) rfl (s_pure (p_mv g1)) ?_
                        have hq := forceB_inv hr
                        clear hr
                        obtain ⟨c54, e54, hr⟩ := hq
                        refine wo_take (v := (.b c54)) rfl (s_pure (p_bin rfl rfl (b_geq.trans (cb e54)))) ?_
                        refine wo_step (v := (.b c54)) (s_pure (p_pickF rfl rfl)) ?_
                        refine wo_nil ?_
                        cases hr
                        exact ⟨_, _, rfl, rfl, gl rfl, gl g0, gl g1, gl g2, gl g7, gl g8⟩
                    · clear hr
                      have hr := hk
                      clear hk
                      obtain ⟨c55, ho⟩ : ∃ z, z = o_5 := ⟨_, rfl⟩
                      subst ho
                      rintro mm_5 t_7 ⟨rfl, g55, g0, g1, g2, g7, g8⟩
                      refine wo_step (v := (.b c55)) (s_pure (p_mv g55)) ?_
                      have hq := bindO_inv hr
                      clear hr
                      obtain ⟨o_6, hr, hk⟩ := hq
                      refine wo_join 6 (g20_J7 x0 x1 v2 x7 v8 m_3 o_6) ?_ ?_
                      · clear hk
                        have hq := cond_inv hr
                        clear hr
                        rcases hq with ⟨rfl, hr⟩ | ⟨rfl, hr⟩
                        · refine wo_skip (v := (.b true)) rfl rfl ?_
                          refine wo_skip (v := (.b true)) rfl rfl ?_
                          refine wo_skip (v := (.b true)) rfl rfl ?_
                          refine wo_skip (v := (.b true)) rfl rfl ?_
                          refine wo_skip (v := (.b true)) rfl rfl ?_
                          refine wo_step (v := (.b true)) (s_pure (p_pickT rfl rfl)) ?_
                          refine wo_nil ?_
                          cases hr
                          exact ⟨_, _, rfl, rfl, gl rfl, gl g0, gl g1, gl g2, gl g7, gl g8⟩
                        · have hq := bindO_inv hr
                          clear hr
                          obtain ⟨v57, e57, hr⟩ := hq
                          refine wo_take (v := v57) rfl (s_pure (o_faddr g8 e57)) ?_
                          have hq := bindO_inv hr
                          clear hr
                          obtain ⟨v58, e58, hr⟩ := hq
                          have hq := asI_inv hr
                          clear hr
                          obtain ⟨x58, rfl, hr⟩ := hq
                          refine wo_take (v := (.i .i64 x58)) rfl (s_ld rfl e58) ?_
                          have hq := bindO_inv hr
                          clear hr
                          obtain ⟨v59, e59, hr⟩ := hq
                          refine wo_take (v := v59) rfl (s_pure (o_faddr g8 e59)) ?_
                          have hq := bindO_inv hr
                          clear hr
                          obtain ⟨v60, e60, hr⟩ := hq
                          have hq := asI_inv hr
                          clear hr
                          obtain ⟨x60, rfl, hr⟩ := hq
                          refine wo_take (v := (.i .i64 x60)) rfl (s_ld rfl e60) ?_
                          have hq := forceB_inv hr
                          clear hr
                          obtain ⟨c61, e61, hr⟩ := hq
                          refine wo_take (v := (.b c61)) rfl (s_pure (p_bin rfl rfl (b_eql.trans (cb e61)))) ?_
                          refine wo_step (v := (.b c61)) (s_pure (p_pickF rfl rfl)) ?_
                          refine wo_nil ?_
                          cases hr
                          exact ⟨_, _, rfl, rfl, gl rfl, gl g0, gl g1, gl g2, gl g7, gl g8⟩
                      · clear hr
                        have hr := hk
                        clear hk
                        obtain ⟨c62, ho⟩ : ∃ z, z = o_6 := ⟨_, rfl⟩
                        subst ho
                        rintro mm_6 t_8 ⟨rfl, g62, g0, g1, g2, g7, g8⟩
                        refine wo_step (v := (.b c62)) (s_pure (p_mv g62)) ?_
                        have hq := bindO_inv hr
                        clear hr
                        obtain ⟨o_7, hr, hk⟩ := hq
                        refine wo_join 4 (g20_J8 x0 x1 v2 x7 v8 m_3 o_7) ?_ ?_
                        · clear hk
                          have hq := cond_inv hr
                          clear hr
                          rcases hq with ⟨rfl, hr⟩ | ⟨rfl, hr⟩
                          · refine wo_skip (v := (.b true)) rfl rfl ?_
                            refine wo_skip (v := (.b true)) rfl rfl ?_
                            refine wo_skip (v := (.b true)) rfl rfl ?_
                            refine wo_step (v := (.b true)) (s_pure (p_pickT rfl rfl)) ?_
                            refine wo_nil ?_
                            cases hr
                            exact ⟨_, _, rfl, rfl, gl rfl, gl g0, gl g1, gl g2, gl g7, gl g8⟩
                          · have hq := bindO_inv hr
                            clear hr
                            obtain ⟨v64, e64, hr⟩ := hq
                            refine wo_take (v := v64) rfl (s_pure (o_faddr g8 e64)) ?_
                            have hq := bindO_inv hr
                            clear hr
                            obtain ⟨v65, e65, hr⟩ := hq
                            have hq := asI_inv hr
                            clear hr
                            obtain ⟨x65, rfl, hr⟩ := hq
                            refine wo_take (v := (.i .i64 x65)) rfl (s_ld rfl e65) ?_
                            have hq := forceB_inv hr
                            clear hr
                            obtain ⟨c66, e66, hr⟩ := hq
                            refine wo_take (v := (.b c66)) rfl (s_pure (p_bin rfl rfl (b_lss.trans (cb e66)))) ?_
                            refine wo_step (v := (.b c66)) (s_pure (p_pickF rfl rfl)) ?_
                            refine wo_nil ?_
                            cases hr
                            exact ⟨_, _, rfl, rfl, gl rfl, gl g0, gl g1, gl g2, gl g7, gl g8⟩
                        · clear hr
                          have hr := hk
                          clear hk
                          obtain ⟨c67, ho⟩ : ∃ z, z = o_7 := ⟨_, rfl⟩
                          subst ho
                          rintro mm_7 t_9 ⟨rfl, g67, g0, g1, g2, g7, g8⟩
                          refine wo_step (v := (.b c67)) (s_pure (p_mv g67)) ?_
                          have hq := bindO_inv hr
                          clear hr
                          obtain ⟨o_8, hr, hk⟩ := hq
                          refine wo_join 4 (g20_J9 x0 x1 v2 x7 v8 m_3 o_8) ?_ ?_
                          · clear hk
                            have hq := cond_inv hr
                            clear hr
                            rcases hq with ⟨rfl, hr⟩ | ⟨rfl, hr⟩
                            · refine wo_skip (v := (.b true)) rfl rfl ?_
                              refine wo_skip (v := (.b true)) rfl rfl ?_
                              refine wo_skip (v := (.b true)) rfl rfl ?_
                              refine wo_step (v := (.b true)) (s_pure (p_pickT rfl rfl)) ?_
                              refine wo_nil ?_
                              cases hr
                              exact ⟨_, _, rfl, rfl, gl rfl, gl g0, gl g1, gl g2, gl g7, gl g8⟩
                            · have hq := bindO_inv hr
                              clear hr
                              obtain ⟨v69, e69, hr⟩ := hq
                              refine wo_take (v := v69) rfl (s_pure (o_faddr g8 e69)) ?_
                              have hq := bindO_inv hr
                              clear hr
                              obtain ⟨v70, e70, hr⟩ := hq
                              have hq := asI_inv hr
                              clear hr
                              obtain ⟨x70, rfl, hr⟩ := hq
                              refine wo_take (v := (.i .i64 x70)) rfl (s_ld rfl e70) ?_
                              have hq := forceB_inv hr
                              clear hr
                              obtain ⟨c71, e71, hr⟩ := hq
                              refine wo_take (v := (.b c71)) rfl (s_pure (p_bin rfl rfl (b_gtr.trans (cb e71)))) ?_
                              refine wo_step (v := (.b c71)) (s_pure (p_pickF rfl rfl)) ?_
                              refine wo_nil ?_
                              cases hr
                              exact ⟨_, _, rfl, rfl, gl rfl, gl g0, gl g1, gl g2, gl g7, gl g8⟩
                          · clear hr
                            have hr := hk
                            clear hk
                            obtain ⟨c72, ho⟩ : ∃ z, z = o_8 := ⟨_, rfl⟩
                            subst ho
                            rintro mm_8 t_10 ⟨rfl, g72, g0, g1, g2, g7, g8⟩
                            refine wo_step (v := (.b c72)) (s_pure (p_mv g72)) ?_
                            have hq := bindO_inv hr
                            clear hr
                            obtain ⟨o_9, hr, hk⟩ := hq
                            refine wo_join 6 (g20_J10 x0 x1 v2 x7 v8 m_3 o_9) ?_ ?_
                            · clear hk
                              have hq := cond_inv hr
                              clear hr
                              rcases hq with ⟨rfl, hr⟩ | ⟨rfl, hr⟩
                              · refine wo_skip (v := (.b true)) rfl rfl ?_
                                refine wo_skip (v := (.b true)) rfl rfl ?_
                                refine wo_skip (v := (.b true)) rfl rfl ?_
                                refine wo_skip (v := (.b true)) rfl rfl ?_
                                refine wo_skip (v := (.b true)) rfl rfl ?_
                                refine wo_step (v := (.b true)) (s_pure (p_pickT rfl rfl)) ?_
                                refine wo_nil ?_
                                cases hr
                                exact ⟨_, _, rfl, rfl, gl rfl, gl g0, gl g1, gl g2, gl g7, gl g8⟩
                              · have hq := bindO_inv hr
                                clear hr
                                obtain ⟨v74, e74, hr⟩ := hq
                                refine wo_take (v := v74) rfl (s_pure (o_faddr g8 e74)) ?_
                                have hq := bindO_inv hr
                                clear hr
                                obtain ⟨v75, e75, hr⟩ := hq
                                have hq := asI_inv hr
                                clear hr
                                obtain ⟨x75, rfl, hr⟩ := hq
                                refine wo_take (v := (.i .i64 x75)) rfl (s_ld rfl e75) ?_
                                have hq := bindO_inv hr
                                clear hr
                                obtain ⟨v76, e76, hr⟩ := hq
                                refine wo_take (v := v76) rfl (s_pure (o_faddr g8 e76)) ?_
                                have hq := bindO_inv hr
                                clear hr
                                obtain ⟨v77, e77, hr⟩ := hq
                                have hq := asI_inv hr
                                clear hr
                                obtain ⟨x77, rfl, hr⟩ := hq
                                refine wo_take (v := (.i .i64 x77)) rfl (s_ld rfl e77) ?_
                                have hq := forceB_inv hr
                                clear hr
                                obtain ⟨c78, e78, hr⟩ := hq
                                refine wo_take (v := (.b c78)) rfl (s_pure (p_bin rfl rfl (b_lss.trans (cb e78)))) ?_
                                refine wo_step (v := (.b c78)) (s_pure (p_pickF rfl rfl)) ?_
                                refine wo_nil ?_
                                cases hr
                                exact ⟨_, _, rfl, rfl, gl rfl, gl g0, gl g1, gl g2, gl g7, gl g8⟩
                            · clear hr
                              have hr := hk
                              clear hk
                              obtain ⟨c79, ho⟩ : ∃ z, z = o_9 := ⟨_, rfl⟩
                              subst ho
                              rintro mm_9 t_11 ⟨rfl, g79, g0, g1, g2, g7, g8⟩
                              refine wo_step (v := (.b c79)) (s_pure (p_mv g79)) ?_
                              have hq := bindO_inv hr
                              clear hr
                              obtain ⟨o_10, hr, hk⟩ := hq
                              refine wo_join 9 (g20_J11 x0 x1 v2 x7 m_3 o_10) ?_ ?_
                              · clear hk
                                have hq := cond_inv hr
                                clear hr
                                rcases hq with ⟨rfl, hr⟩ | ⟨rfl, hr⟩
                                · refine wo_skip (v := (.b true)) rfl rfl ?_
                                  refine wo_skip (v := (.b true)) rfl rfl ?_
                                  refine wo_skip (v := (.b true)) rfl rfl ?_
                                  refine wo_skip (v := (.b true)) rfl rfl ?_
                                  refine wo_skip (v := (.b true)) rfl rfl ?_
                                  refine wo_skip (v := (.b true)) rfl rfl ?_
                                  refine wo_skip (v := (.b true)) rfl rfl ?_
                                  refine wo_skip (v := (.b true)) rfl rfl ?_
                                  refine wo_step (v := (.b true)) (s_pure (p_pickT rfl rfl)) ?_
                                  refine wo_nil ?_
                                  cases hr
                                  exact ⟨_, _, rfl, rfl, gl rfl, gl g0, gl g1, gl g2, gl g7⟩
                                · have hq := bindO_inv hr
                                  clear hr
                                  obtain ⟨v81, e81, hr⟩ := hq
                                  refine wo_take (v := v81) rfl (s_pure (o_faddr g8 e81)) ?_
                                  have hq := bindO_inv hr
                                  clear hr
                                  obtain ⟨v82, e82, hr⟩ := hq
                                  have hq := asI_inv hr
                                  clear hr
                                  obtain ⟨x82, rfl, hr⟩ := hq
                                  refine wo_take (v := (.i .i64 x82)) rfl (s_ld rfl e82) ?_
                                  have hq := bindO_inv hr
                                  clear hr
                                  obtain ⟨v83, e83, hr⟩ := hq
                                  refine wo_take (v := v83) rfl (s_pure (o_faddr g8 e83)) ?_
                                  have hq := bindO_inv hr
                                  clear hr
                                  obtain ⟨v84, e84, hr⟩ := hq
                                  have hq := asI_inv hr
                                  clear hr
                                  obtain ⟨x84, rfl, hr⟩ := hq
                                  refine wo_take (v := (.i .i64 x84)) rfl (s_ld rfl e84) ?_
                                  refine wo_take (v := (.i .i64 x0)) rfl (s_pure (p_mv g0)) ?_
                                  have hq := forceI_inv hr
                                  clear hr
                                  obtain ⟨x86, e86, hr⟩ := hq
                                  refine wo_take (v := (.i .i64 x86)) rfl (s_pure (p_bin rfl rfl (b_add.trans (ci e86)))) ?_
                                  have hq := forceI_inv hr
                                  clear hr
                                  obtain ⟨x87, e87, hr⟩ := hq
                                  refine wo_take (v := (.i .i64 x87)) rfl (s_pure (p_bin rfl rfl (b_sub.trans (ci e87)))) ?_
                                  have hq := forceB_inv hr
                                  clear hr
                                  obtain ⟨c88, e88, hr⟩ := hq
                                  refine wo_take (v := (.b c88)) rfl (s_pure (p_bin rfl rfl (b_gtr.trans (cb e88)))) ?_
                                  refine wo_step (v := (.b c88)) (s_pure (p_pickF rfl rfl)) ?_
                                  refine wo_nil ?_
                                  cases hr
                                  exact ⟨_, _, rfl, rfl, gl rfl, gl g0, gl g1, gl g2, gl g7⟩
                              · clear hr
                                have hr := hk
                                clear hk
                                obtain ⟨c89, ho⟩ : ∃ z, z = o_10 := ⟨_, rfl⟩
                                subst ho
                                rintro mm_10 t_12 ⟨rfl, g89, g0, g1, g2, g7⟩
                                refine wo_nil ?_
                                refine nx_norm ?_
                                have hq := cond_inv hr
                                clear hr
                                rcases hq with ⟨rfl, hr⟩ | ⟨rfl, hr⟩
                                · refine w_condT g89 ?_
                                  refine w_seq ?_
                                  refine w_ops ?_
                                  refine wo_step (v := (.i .i64 2)) (s_pure (p_mv rfl)) ?_
                                  refine wo_nil ?_
                                  refine nx_norm ?_
                                  refine w_ret ?_
                                  refine bk_ret ?_
                                  refine nx_ret ?_
                                  cases hr
                                  exact ⟨_, _, rfl, ne_norm_ret, rfl, rfl, gl rfl⟩
                                · refine w_condF g89 ?_
                                  refine w_skip ?_
                                  refine bk_norm ?_
                                  refine nx_norm ?_
                                  refine w_ops ?_
                                  refine wo_step (v := (.i .i64 x7)) (s_pure (p_mv g7)) ?_
                                  have hq := forceI_inv hr
                                  clear hr
                                  obtain ⟨x31, e31, hr⟩ := hq
                                  refine wo_step (v := (.i .i64 x31)) (s_pure (p_bin rfl rfl (b_add.trans (ci e31)))) ?_
                                  refine wo_step (v := (.i .i64 x31)) (s_pure (p_mv rfl)) ?_
                                  refine wo_nil ?_
                                  cases hr
                                  exact ⟨_, _, rfl, rfl, rfl, gl rfl, gl g0, gl g1, gl g2⟩
              · refine w_condF rfl ?_
                refine w_exit ?_
                refine nx_exit ?_
                cases hr
                exact ⟨_, _, rfl, ne_norm_exit, rfl, rfl⟩
            · rcases o_11 with o_11 | o_11
              · obtain ⟨m_4, ho⟩ : ∃ z, z = o_11 := ⟨_, rfl⟩
                subst ho
                rintro _ mm_11 t_13 ⟨rfl, rfl⟩
                refine bk_hit ?_
                refine nx_norm ?_
                refine w_seq ?_
                refine w_ops ?_
                refine wo_step (v := (.i .i64 0)) (s_pure (p_mv rfl)) ?_
                refine wo_nil ?_
                refine nx_norm ?_
                refine w_ret ?_
                exact qf ret_ok (rt rfl rn) hr
              · obtain ⟨x6, m_5⟩ := o_11
                rintro _ mm_12 t_14 ⟨rfl, rfl, g6⟩
                refine bk_ret ?_
                refine nx_ret ?_
                exact qf ret_ok (rt g6 rn) hr

/- dibber/turn.Slack -/
abbrev g28_I0 (v3 : AVal) (v10 : AVal) (v31 : AVal) (v2 : AVal) (x33 : Int) (s : Int × Mm) (m1 : Mm) (t1 : Tr) : Prop :=
  match s with
  | (x34, m_6) => m_6 = m1 ∧ t1.get 34 = (.i .i64 x34) ∧ t1.get 3 = v3 ∧ t1.get 10 = v10 ∧ t1.get 12 = v31 ∧ t1.get 32 = v2 ∧ t1.get 33 = (.i .i64 x33)
abbrev g28_J0 (v3 : AVal) (v10 : AVal) (v31 : AVal) (v2 : AVal) (x33 : Int) (o : Mm) (e : AExit) (m1 : Mm) (t1 : Tr) : Prop :=
  match o with
  | mo => e = (.exit 0) ∧ mo = m1 ∧ t1.get 12 = v31
def g28_b0 (M : Means) (ro : List ABlk) (v3 : AVal) (v10 : AVal) (v31 : AVal) (v2 : AVal) (x33 : Int) (x34 : Int) (m_6 : Mm) : Option ((Int × Mm) ⊕ (Mm)) :=
  forceB (ltI x34 x33) fun c35 =>
  cond c35 (
    bindO (evP .e (.ixS 4 (.c v2) (.c (.i .i64 x34)))) fun v37 =>
    bindO (ldM ro m_6 false 4 v37) fun v38 =>
    bindP (stepM ro m_6 (.al 31 [(AVal.i IntKind.i64 0), (AVal.i IntKind.i64 0), (AVal.i IntKind.i64 0), (AVal.i IntKind.i64 0)])) fun v14 m_7 =>
    bindP (stepM ro m_7 (.st 4 (.c v14) (.c v38))) fun vn_1 m_8 =>
    bindO (ldM ro m_8 false 3 v10) fun v41 =>
    bindO (ldM ro m_8 false 4 v14) fun v42 =>
    bindP (callM M.call m_8 48 [v41, v42, v3]) fun v44 m_9 =>
    asI .i64 v44 fun x44 =>
    bindO (evP .e (.ixS 1 (.c v31) (.c (.i .i64 x34)))) fun v45 =>
    bindP (stepM ro m_9 (.st 1 (.c v45) (.c (.i .i64 x44)))) fun vn_2 m_10 =>
    forceI (wr .i64 (x34 + 1)) fun x46 =>
    some (.inl (x46, m_10))) (
    some (.inr m_6))
def g28 (M : Means) (ro : List ABlk) (x0 : Int) (x1 : Int) (v2 : AVal) (v3 : AVal) (m0 : Mm) : Option (AVal × Heap × Nat × Nat) :=
  bindP (callM M.call m0 43 [(.i .i64 x0), (.i .i64 x1), v2]) fun v19 m_1 =>
  bindO (evP .e (.ext 0 (.c v19))) fun v20 =>
  bindO (evP .e (.ext 1 (.c v19))) fun v21 =>
  asI .i64 v21 fun x21 =>
  bindP (stepM ro m_1 (.al 55 [(AVal.i IntKind.i64 0), (AVal.i IntKind.i64 0), AVal.nsl])) fun v10 m_2 =>
  bindP (stepM ro m_2 (.st 3 (.c v10) (.c v20))) fun vn m_3 =>
  forceB (!eqI x21 0) fun c23 =>
  cond c23 (
    finM m0.h.length (tupA [AVal.nsl, (.i .i64 x21)]) m_3) (
    bindO (ldM ro m_3 false 3 v10) fun v25 =>
    bindP (callM M.call m_3 52 [v25, v3]) fun v27 m_4 =>
    asB v27 fun c27 =>
    forceB (!c27) fun c28 =>
    cond c28 (
      finM m0.h.length (tupA [AVal.nsl, (.i .i64 2)]) m_4) (
      bindO (evP .e (.len false (.c v2))) fun v30 =>
      asI .i64 v30 fun x30 =>
      bindP (stepM ro m_4 (.mk 3 1 8 [(AVal.i IntKind.i64 0)] (.c (.i .i64 x30)) (.c (.i .i64 x30)))) fun v31 m_5 =>
      bindO (evP .e (.len false (.c v2))) fun v33 =>
      asI .i64 v33 fun x33 =>
      bindO (M.loop (S := Int × Mm) (R := Mm) (fun s => g28_b0 M ro v3 v10 v31 v2 x33 s.1 s.2) (0, m_5)) fun m_11 =>
      finM m0.h.length (tupA [v31, (.i .i64 0)]) m_11))

theorem g28_ok {ro : List ABlk} {O : Caller} {M : Means} (hM : M.Ok ⟨F, O⟩ ro) {x0 x1 v2 v3 h r} (ho : O 28 [(.i .i64 x0), (.i .i64 x1), v2, v3] h = none) (hr : g28 M ro x0 x1 v2 v3 ⟨h, h.length, h.length⟩ = some r) : callX ⟨F, O⟩ ro 28 [(.i .i64 x0), (.i .i64 x1), v2, v3] h = some r := by
  refine callX_of (F := ⟨F, O⟩) (fn := fn28) (g := g28 M ro x0 x1 v2 v3) ho rfl rfl hr ?_
  clear ho
  clear hr
  intro m0 t0 ht hr
  have g0 : t0.get 0 = (.i .i64 x0) := ht 0
  have g1 : t0.get 1 = (.i .i64 x1) := ht 1
  have g2 : t0.get 2 = v2 := ht 2
  have g3 : t0.get 3 = v3 := ht 3
  clear ht
  unfold g28 at hr
  refine w_seq ?_
  refine w_ops ?_
  refine wo_step (v := AVal.nsl) (s_pure (p_mv rfl)) ?_
  refine wo_step (v := (.i .i64 0)) (s_pure (p_mv rfl)) ?_
  refine wo_nil ?_
  refine nx_norm ?_
  refine w_seq ?_
  refine w_ops ?_
  refine wo_step (v := (.i .i64 x0)) (s_pure (p_mv g0)) ?_
  refine wo_step (v := (.i .i64 x1)) (s_pure (p_mv g1)) ?_
  refine wo_step (v := v2) (s_pure (p_mv g2)) ?_
  have hq := bindP_inv hr
  clear hr
  obtain ⟨v19, m_1, e19, hr⟩ := hq
  refine wo_step (v := v19) (s_call (mc rfl (mc rfl (mc rfl mn))) (callM_le hM.call e19)) ?_
  refine wo_step (v := v19) (s_pure (p_mv rfl)) ?_
  have hq := bindO_inv hr
  clear hr
  obtain ⟨v20, e20, hr⟩ := hq
  refine wo_step (v := v20) (s_pure (o_ext rfl e20)) ?_
  have hq := bindO_inv hr
  clear hr
  obtain ⟨v21, e21, hr⟩ := hq
  have hq := asI_inv hr
  clear hr
  obtain ⟨x21, rfl, hr⟩ := hq
  refine wo_step (v := (.i .i64 x21)) (s_pure (o_ext rfl e21)) ?_
  have hq := bindP_inv hr
  clear hr
  obtain ⟨v10, m_2, e10, hr⟩ := hq
  refine wo_step (v := v10) (s_al e10) ?_
  have hq := bindP_inv hr
  clear hr
  obtain ⟨vn, m_3, en, hr⟩ := hq
  refine wo_stepN (s_st rfl rfl en) ?_
  refine wo_step (v := (.i .i64 x21)) (s_pure (p_mv rfl)) ?_
  refine wo_nil ?_
  refine nx_norm ?_
  refine w_seq ?_
  refine w_seq ?_
  refine w_ops ?_
  refine wo_step (v := (.i .i64 x21)) (s_pure (p_mv rfl)) ?_
  have hq := forceB_inv hr
  clear hr
  obtain ⟨c23, e23, hr⟩ := hq
  refine wo_step (v := (.b c23)) (s_pure (p_bin rfl rfl (b_neq.trans (cb e23)))) ?_
  refine wo_nil ?_
  refine nx_norm ?_
  have hq := cond_inv hr
  clear hr
  rcases hq with ⟨rfl, hr⟩ | ⟨rfl, hr⟩
  · refine w_condT rfl ?_
    refine w_seq ?_
    refine w_ops ?_
    refine wo_step (v := (.i .i64 x21)) (s_pure (p_mv rfl)) ?_
    refine wo_step (v := AVal.nsl) (s_pure (p_mv rfl)) ?_
    refine wo_step (v := (.i .i64 x21)) (s_pure (p_mv rfl)) ?_
    refine wo_nil ?_
    refine nx_norm ?_
    refine w_ret ?_
    refine nx_ret ?_
    exact qf ret_ok (rt rfl (rt rfl rn)) hr
  · refine w_condF rfl ?_
    refine w_skip ?_
    refine nx_norm ?_
    refine w_seq ?_
    refine w_seq ?_
    refine w_ops ?_
    have hq := bindO_inv hr
    clear hr
    obtain ⟨v25, e25, hr⟩ := hq
    refine wo_step (v := v25) (s_ld rfl e25) ?_
    refine wo_step (v := v3) (s_pure (p_mv g3)) ?_
    have hq := bindP_inv hr
    clear hr
    obtain ⟨v27, m_4, e27, hr⟩ := hq
    have hq := asB_inv hr
    clear hr
    obtain ⟨c27, rfl, hr⟩ := hq
    refine wo_step (v := (.b c27)) (s_call (mc rfl (mc rfl mn)) (callM_le hM.call e27)) ?_
    have hq := forceB_inv hr
    clear hr
    obtain ⟨c28, e28, hr⟩ := hq
    refine wo_step (v := (.b c28)) (s_pure ((p_not rfl).trans (cb e28))) ?_
    refine wo_nil ?_
    refine nx_norm ?_
    have hq := cond_inv hr
    clear hr
    rcases hq with ⟨rfl, hr⟩ | ⟨rfl, hr⟩
    · refine w_condT rfl ?_
      refine w_seq ?_
      refine w_ops ?_
      refine wo_step (v := AVal.nsl) (s_pure (p_mv rfl)) ?_
      refine wo_step (v := (.i .i64 2)) (s_pure (p_mv rfl)) ?_
      refine wo_nil ?_
      refine nx_norm ?_
      refine w_ret ?_
      refine nx_ret ?_
      exact qf ret_ok (rt rfl (rt rfl rn)) hr
    · refine w_condF rfl ?_
      refine w_skip ?_
      refine nx_norm ?_
      refine w_seq ?_
      refine w_ops ?_
      refine wo_step (v := v2) (s_pure (p_mv g2)) ?_
      have hq := bindO_inv hr
      clear hr
      obtain ⟨v30, e30, hr⟩ := hq
      have hq := asI_inv hr
      clear hr
      obtain ⟨x30, rfl, hr⟩ := hq
      refine wo_step (v := (.i .i64 x30)) (s_pure (o_len rfl e30)) ?_
      have hq := bindP_inv hr
      clear hr
      obtain ⟨v31, m_5, e31, hr⟩ := hq
      refine wo_step (v := v31) (s_mk rfl rfl e31) ?_
      refine wo_step (v := v31) (s_pure (p_mv rfl)) ?_
      refine wo_nil ?_
      refine nx_norm ?_
      refine w_seq ?_
      refine w_seq ?_
      refine w_ops ?_
      refine wo_step (v := v2) (s_pure (p_mv g2)) ?_
      have hq := bindO_inv hr
      clear hr
      obtain ⟨v33, e33, hr⟩ := hq
      have hq := asI_inv hr
      clear hr
      obtain ⟨x33, rfl, hr⟩ := hq
      refine wo_step (v := (.i .i64 x33)) (s_pure (o_len rfl e33)) ?_
      refine wo_step (v := (.i .i64 0)) (s_pure (p_mv rfl)) ?_
      refine wo_nil ?_
      refine nx_norm ?_
      refine w_block ?_
      have hq := bindO_inv hr
      clear hr
      obtain ⟨o, hl, hr⟩ := hq
      obtain ⟨n, hl⟩ := hM.loop _ _ _ hl
      refine jp_mono (w_loop _ (g28_I0 v3 v10 v31 v2 x33) (g28_J0 v3 v10 v31 v2 x33) ?_ n _ _ _ _ hl ⟨rfl, gl rfl, gl g3, gl rfl, gl rfl, gl rfl, gl rfl⟩) ?_
      · clear hr hl
        intro s mm_1 t_1 o hi hr
        obtain ⟨x34, m_6⟩ := s
        obtain ⟨rfl, g34, g3, g10, g12, g32, g33⟩ := hi
        unfold g28_b0 at hr
        refine w_seq ?_
        refine w_ops ?_
        have hq := forceB_inv hr
        clear hr
        obtain ⟨c35, e35, hr⟩ := hq
        refine wo_step (v := (.b c35)) (s_pure (p_bin g34 g33 (b_lss.trans (cb e35)))) ?_
        refine wo_nil ?_
        refine nx_norm ?_
        refine w_seq ?_
        have hq := cond_inv hr
        clear hr
        rcases hq with ⟨rfl, hr⟩ | ⟨rfl, hr⟩
        · refine w_condT rfl ?_
          refine w_skip ?_
          refine nx_norm ?_
          refine w_seq ?_
          refine w_block ?_
          refine w_seq ?_
          refine w_ops ?_
          refine wo_step (v := (.i .i64 x34)) (s_pure (p_mv g34)) ?_
          have hq := bindO_inv hr
          clear hr
          obtain ⟨v37, e37, hr⟩ := hq
          refine wo_step (v := v37) (s_pure (o_ixS g32 g34 e37)) ?_
          have hq := bindO_inv hr
          clear hr
          obtain ⟨v38, e38, hr⟩ := hq
          refine wo_step (v := v38) (s_ld rfl e38) ?_
          have hq := bindP_inv hr
          clear hr
          obtain ⟨v14, m_7, e14, hr⟩ := hq
          refine wo_step (v := v14) (s_al e14) ?_
          refine wo_step (v := (.i .i64 x34)) (s_pure (p_mv rfl)) ?_
          have hq := bindP_inv hr
          clear hr
          obtain ⟨vn_1, m_8, en_1, hr⟩ := hq
          refine wo_stepN (s_st rfl rfl en_1) ?_
          refine wo_nil ?_
          refine nx_norm ?_
          refine w_ops ?_
          refine wo_step (v := v31) (s_pure (p_mv g12)) ?_
          refine wo_step (v := (.i .i64 x34)) (s_pure (p_mv rfl)) ?_
          have hq := bindO_inv hr
          clear hr
          obtain ⟨v41, e41, hr⟩ := hq
          refine wo_step (v := v41) (s_ld g10 e41) ?_
          have hq := bindO_inv hr
          clear hr
          obtain ⟨v42, e42, hr⟩ := hq
          refine wo_step (v := v42) (s_ld rfl e42) ?_
          refine wo_step (v := v3) (s_pure (p_mv g3)) ?_
          have hq := bindP_inv hr
          clear hr
          obtain ⟨v44, m_9, e44, hr⟩ := hq
          have hq := asI_inv hr
          clear hr
          obtain ⟨x44, rfl, hr⟩ := hq
          refine wo_step (v := (.i .i64 x44)) (s_call (mc rfl (mc rfl (mc rfl mn))) (callM_le hM.call e44)) ?_
          have hq := bindO_inv hr
          clear hr
          obtain ⟨v45, e45, hr⟩ := hq
          refine wo_step (v := v45) (s_pure (o_ixS rfl rfl e45)) ?_
          have hq := bindP_inv hr
          clear hr
          obtain ⟨vn_2, m_10, en_2, hr⟩ := hq
          refine wo_stepN (s_st rfl rfl en_2) ?_
          refine wo_nil ?_
          refine bk_norm ?_
          refine nx_norm ?_
          refine w_ops ?_
          have hq := forceI_inv hr
          clear hr
          obtain ⟨x46, e46, hr⟩ := hq
          refine wo_step (v := (.i .i64 x46)) (s_pure (p_bin g34 rfl (b_add.trans (ci e46)))) ?_
          refine wo_step (v := (.i .i64 x46)) (s_pure (p_mv rfl)) ?_
          refine wo_nil ?_
          cases hr
          exact ⟨_, _, rfl, rfl, rfl, gl rfl, gl g3, gl g10, gl g12, gl g32, gl g33⟩
        · refine w_condF rfl ?_
          refine w_exit ?_
          refine nx_exit ?_
          cases hr
          exact ⟨_, _, rfl, ne_norm_exit, rfl, rfl, gl g12⟩
      · obtain ⟨m_11, ho⟩ : ∃ z, z = o := ⟨_, rfl⟩
        subst ho
        rintro _ mm t_2 ⟨rfl, rfl, g12⟩
        refine bk_hit ?_
        refine nx_norm ?_
        refine w_seq ?_
        refine w_ops ?_
        refine wo_step (v := v31) (s_pure (p_mv g12)) ?_
        refine wo_step (v := v31) (s_pure (p_mv rfl)) ?_
        refine wo_step (v := (.i .i64 0)) (s_pure (p_mv rfl)) ?_
        refine wo_nil ?_
        refine nx_norm ?_
        refine w_ret ?_
        exact qf ret_ok (rt rfl (rt rfl rn)) hr

/- dibber/turn.Rounds -/
abbrev g34_J0 (x0 : Int) (v3 : AVal) (v12 : AVal) (v33 : AVal) (o : Bool × Mm) (m1 : Mm) (t1 : Tr) : Prop :=
  match o with
  | (c42, m_5) => m_5 = m1 ∧ t1.get 42 = (.b c42) ∧ t1.get 0 = (.i .i64 x0) ∧ t1.get 3 = v3 ∧ t1.get 12 = v12 ∧ t1.get 14 = v33
abbrev g34_I1 (x0 : Int) (v3 : AVal) (v12 : AVal) (v33 : AVal) (x44 : Int) (s : Int × Int × Mm) (m1 : Mm) (t1 : Tr) : Prop :=
  match s with
  | (x16, x45, m_7) => m_7 = m1 ∧ t1.get 16 = (.i .i64 x16) ∧ t1.get 45 = (.i .i64 x45) ∧ t1.get 0 = (.i .i64 x0) ∧ t1.get 3 = v3 ∧ t1.get 12 = v12 ∧ t1.get 43 = v33 ∧ t1.get 44 = (.i .i64 x44)
abbrev g34_J1 (x0 : Int) (v3 : AVal) (v12 : AVal) (v33 : AVal) (x44 : Int) (o : (Int × Mm)) (e : AExit) (m1 : Mm) (t1 : Tr) : Prop :=
  match o with
  | (y16, mo) => e = (.exit 0) ∧ mo = m1 ∧ t1.get 16 = (.i .i64 y16) ∧ t1.get 0 = (.i .i64 x0)
def g34_b1 (M : Means) (ro : List ABlk) (x0 : Int) (v3 : AVal) (v12 : AVal) (v33 : AVal) (x44 : Int) (x16 : Int) (x45 : Int) (m_7 : Mm) : Option ((Int × Int × Mm) ⊕ ((Int × Mm))) :=
  forceB (ltI x45 x44) fun c46 =>
  cond c46 (
    bindO (evP .e (.ixS 4 (.c v33) (.c (.i .i64 x45)))) fun v47 =>
    bindO (ldM ro m_7 false 4 v47) fun v48 =>
    bindP (stepM ro m_7 (.al 31 [(AVal.i IntKind.i64 0), (AVal.i IntKind.i64 0), (AVal.i IntKind.i64 0), (AVal.i IntKind.i64 0)])) fun v18 m_8 =>
    bindP (stepM ro m_8 (.st 4 (.c v18) (.c v48))) fun vn_1 m_9 =>
    bindO (evP .e (.faddr 2 (.c v18))) fun v50 =>
    bindO (ldA ro m_9.h true 1 v50) fun v51 =>
    asI .i64 v51 fun x51 =>
    bindO (ldA ro m_9.h false 3 v12) fun v52 =>
    bindO (ldA ro m_9.h false 4 v18) fun v53 =>
    bindO (callN M.call m_9.h 48 [v52, v53, v3]) fun v55 =>
    asI .i64 v55 fun x55 =>
    forceI (wr .i64 (x51 + x55)) fun x56 =>
    forceI (wr .i64 (x16 + x56)) fun x57 =>
    forceI (wr .i64 (x45 + 1)) fun x58 =>
    some (.inl (x57, x58, m_9))) (
    some (.inr (x16, m_7)))
def g34 (M : Means) (ro : List ABlk) (x0 : Int) (x1 : Int) (v2 : AVal) (v3 : AVal) (v4 : AVal) (m0 : Mm) : Option (AVal × Heap × Nat × Nat) :=
  bindP (callM M.call m0 43 [(.i .i64 x0), (.i .i64 x1), v2]) fun v23 m_1 =>
  bindO (evP .e (.ext 0 (.c v23))) fun v24 =>
  bindO (evP .e (.ext 1 (.c v23))) fun v25 =>
  asI .i64 v25 fun x25 =>
  bindP (stepM ro m_1 (.al 55 [(AVal.i IntKind.i64 0), (AVal.i IntKind.i64 0), AVal.nsl])) fun v12 m_2 =>
  bindP (stepM ro m_2 (.st 3 (.c v12) (.c v24))) fun vn m_3 =>
  forceB (!eqI x25 0) fun c27 =>
  cond c27 (
    finM m0.h.length (tupA [(.i .i64 0), (.i .i64 x25)]) m_3) (
    bindO (ldM ro m_3 false 3 v12) fun v30 =>
    bindP (callM M.call m_3 54 [v30, v4]) fun v32 m_4 =>
    bindO (evP .e (.ext 0 (.c v32))) fun v33 =>
    bindO (evP .e (.ext 1 (.c v32))) fun v34 =>
    asB v34 fun c34 =>
    forceB (!c34) fun c36 =>
    bindO (cond c36 (
      some (true, m_4)) (
      bindO (ldM ro m_4 false 3 v12) fun v38 =>
      bindP (callM M.call m_4 50 [v38, v3]) fun v40 m_6 =>
      asB v40 fun c40 =>
      forceB (!c40) fun c41 =>
      some (c41, m_6))) fun ⟨c42, m_5⟩ =>
    cond c42 (
      finM m0.h.length (tupA [(.i .i64 0), (.i .i64 2)]) m_5) (
      bindO (evP .e (.len false (.c v33))) fun v44 =>
      asI .i64 v44 fun x44 =>
      bindO (M.loop (S := Int × Int × Mm) (R := (Int × Mm)) (fun s => g34_b1 M ro x0 v3 v12 v33 x44 s.1 s.2.1 s.2.2) (0, 0, m_5)) fun ⟨x16_1, m_10⟩ =>
      chk (!eqI x0 (.ofNat 0)) <|
      forceI (wr .i64 (Int.tdiv x16_1 x0)) fun x61 =>
      finM m0.h.length (tupA [(.i .i64 x61), (.i .i64 0)]) m_10))

theorem g34_ok {ro : List ABlk} {O : Caller} {M : Means} (hM : M.Ok ⟨F, O⟩ ro) {x0 x1 v2 v3 v4 h r} (ho : O 34 [(.i .i64 x0), (.i .i64 x1), v2, v3, v4] h = none) (hr : g34 M ro x0 x1 v2 v3 v4 ⟨h, h.length, h.length⟩ = some r) : callX ⟨F, O⟩ ro 34 [(.i .i64 x0), (.i .i64 x1), v2, v3, v4] h = some r := by
  refine callX_of (F := ⟨F, O⟩) (fn := fn34) (g := g34 M ro x0 x1 v2 v3 v4) ho rfl rfl hr ?_
  clear ho
  clear hr
  intro m0 t0 ht hr
  have g0 : t0.get 0 = (.i .i64 x0) := ht 0
  have g1 : t0.get 1 = (.i .i64 x1) := ht 1
  have g2 : t0.get 2 = v2 := ht 2
  have g3 : t0.get 3 = v3 := ht 3
  have g4 : t0.get 4 = v4 := ht 4
  clear ht
  unfold g34 at hr
  refine w_seq ?_
  refine w_ops ?_
  refine wo_step (v := (.i .i64 0)) (s_pure (p_mv rfl)) ?_
  refine wo_step (v := (.i .i64 0)) (s_pure (p_mv rfl)) ?_
  refine wo_nil ?_
  refine nx_norm ?_
  refine w_seq ?_
  refine w_ops ?_
  refine wo_step (v := (.i .i64 x0)) (s_pure (p_mv g0)) ?_
  refine wo_step (v := (.i .i64 x1)) (s_pure (p_mv g1)) ?_
  refine wo_step (v := v2) (s_pure (p_mv g2)) ?_
  have hq := bindP_inv hr
  clear hr
  obtain ⟨v23, m_1, e23, hr⟩ := hq
  refine wo_step (v := v23) (s_call (mc rfl (mc rfl (mc rfl mn))) (callM_le hM.call e23)) ?_
  refine wo_step (v := v23) (s_pure (p_mv rfl)) ?_
  have hq := bindO_inv hr
  clear hr
  obtain ⟨v24, e24, hr⟩ := hq
  refine wo_step (v := v24) (s_pure (o_ext rfl e24)) ?_
  have hq := bindO_inv hr
  clear hr
  obtain ⟨v25, e25, hr⟩ := hq
  have hq := asI_inv hr
  clear hr
  obtain ⟨x25, rfl, hr⟩ := hq
  refine wo_step (v := (.i .i64 x25)) (s_pure (o_ext rfl e25)) ?_
  have hq := bindP_inv hr
  clear hr
  obtain ⟨v12, m_2, e12, hr⟩ := hq
  refine wo_step (v := v12) (s_al e12) ?_
  have hq := bindP_inv hr
  clear hr
  obtain ⟨vn, m_3, en, hr⟩ := hq
  refine wo_stepN (s_st rfl rfl en) ?_
  refine wo_step (v := (.i .i64 x25)) (s_pure (p_mv rfl)) ?_
  refine wo_nil ?_
  refine nx_norm ?_
  refine w_seq ?_
  refine w_seq ?_
  refine w_ops ?_
  refine wo_step (v := (.i .i64 x25)) (s_pure (p_mv rfl)) ?_
  have hq := forceB_inv hr
  clear hr
  obtain ⟨c27, e27, hr⟩ := hq
  refine wo_step (v := (.b c27)) (s_pure (p_bin rfl rfl (b_neq.trans (cb e27)))) ?_
  refine wo_nil ?_
  refine nx_norm ?_
  have hq := cond_inv hr
  clear hr
  rcases hq with ⟨rfl, hr⟩ | ⟨rfl, hr⟩
  · refine w_condT rfl ?_
    refine w_seq ?_
    refine w_ops ?_
    refine wo_step (v := (.i .i64 x25)) (s_pure (p_mv rfl)) ?_
    refine wo_step (v := (.i .i64 0)) (s_pure (p_mv rfl)) ?_
    refine wo_step (v := (.i .i64 x25)) (s_pure (p_mv rfl)) ?_
    refine wo_nil ?_
    refine nx_norm ?_
    refine w_ret ?_
    refine nx_ret ?_
    exact qf ret_ok (rt rfl (rt rfl rn)) hr
  · refine w_condF rfl ?_
    refine w_skip ?_
    refine nx_norm ?_
    refine w_seq ?_
    refine w_ops ?_
    have hq := bindO_inv hr
    clear hr
    obtain ⟨v30, e30, hr⟩ := hq
    refine wo_step (v := v30) (s_ld rfl e30) ?_
    refine wo_step (v := v4) (s_pure (p_mv g4)) ?_
    have hq := bindP_inv hr
    clear hr
    obtain ⟨v32, m_4, e32, hr⟩ := hq
    refine wo_step (v := v32) (s_call (mc rfl (mc rfl mn)) (callM_le hM.call e32)) ?_
    refine wo_step (v := v32) (s_pure (p_mv rfl)) ?_
    have hq := bindO_inv hr
    clear hr
    obtain ⟨v33, e33, hr⟩ := hq
    refine wo_step (v := v33) (s_pure (o_ext rfl e33)) ?_
    have hq := bindO_inv hr
    clear hr
    obtain ⟨v34, e34, hr⟩ := hq
    have hq := asB_inv hr
    clear hr
    obtain ⟨c34, rfl, hr⟩ := hq
    refine wo_step (v := (.b c34)) (s_pure (o_ext rfl e34)) ?_
    refine wo_step (v := v33) (s_pure (p_mv rfl)) ?_
    refine wo_step (v := (.b c34)) (s_pure (p_mv rfl)) ?_
    refine wo_nil ?_
    refine nx_norm ?_
    refine w_seq ?_
    refine w_seq ?_
    refine w_ops ?_
    refine wo_step (v := (.b c34)) (s_pure (p_mv rfl)) ?_
    have hq := forceB_inv hr
    clear hr
    obtain ⟨c36, e36, hr⟩ := hq
    refine wo_step (v := (.b c36)) (s_pure ((p_not rfl).trans (cb e36))) ?_
    refine wo_step (v := (.b c36)) (s_pure (p_mv rfl)) ?_
    have hq := bindO_inv hr
    clear hr
    obtain ⟨o, hr, hk⟩ := hq
    refine wo_join 5 (g34_J0 x0 v3 v12 v33 o) ?_ ?_
    · clear hk
      have hq := cond_inv hr
      clear hr
      rcases hq with ⟨rfl, hr⟩ | ⟨rfl, hr⟩
      · refine wo_skip (v := (.b true)) rfl rfl ?_
        refine wo_skip (v := (.b true)) rfl rfl ?_
        refine wo_skip (v := (.b true)) rfl rfl ?_
        refine wo_skip (v := (.b true)) rfl rfl ?_
        refine wo_step (v := (.b true)) (s_pure (p_pickT rfl rfl)) ?_
        refine wo_nil ?_
        cases hr
        exact ⟨_, _, rfl, rfl, gl rfl, gl g0, gl g3, gl rfl, gl rfl⟩
      · have hq := bindO_inv hr
        clear hr
        obtain ⟨v38, e38, hr⟩ := hq
        refine wo_take (v := v38) rfl (s_ld rfl e38) ?_
        refine wo_take (v := v3) rfl (s_pure (p_mv g3)) ?_
        have hq := bindP_inv hr
        clear hr
        obtain ⟨v40, m_6, e40, hr⟩ := hq
        have hq := asB_inv hr
        clear hr
        obtain ⟨c40, rfl, hr⟩ := hq
        refine wo_take (v := (.b c40)) rfl (s_call (mc rfl (mc rfl mn)) (callM_le hM.call e40)) ?_
        have hq := forceB_inv hr
        clear hr
        obtain ⟨c41, e41, hr⟩ := hq
        refine wo_take (v := (.b c41)) rfl (s_pure ((p_not rfl).trans (cb e41))) ?_
        refine wo_step (v := (.b c41)) (s_pure (p_pickF rfl rfl)) ?_
        refine wo_nil ?_
        cases hr
        exact ⟨_, _, rfl, rfl, gl rfl, gl g0, gl g3, gl rfl, gl rfl⟩
    · clear hr
      have hr := hk
      clear hk
      obtain ⟨c42, m_5⟩ := o
      rintro mm t_1 ⟨rfl, g42, g0, g3, g12, g14⟩
      refine wo_nil ?_
      refine nx_norm ?_
      have hq := cond_inv hr
      clear hr
      rcases hq with ⟨rfl, hr⟩ | ⟨rfl, hr⟩
      · refine w_condT g42 ?_
        refine w_seq ?_
        refine w_ops ?_
        refine wo_step (v := (.i .i64 0)) (s_pure (p_mv rfl)) ?_
        refine wo_step (v := (.i .i64 2)) (s_pure (p_mv rfl)) ?_
        refine wo_nil ?_
        refine nx_norm ?_
        refine w_ret ?_
        refine nx_ret ?_
        exact qf ret_ok (rt rfl (rt rfl rn)) hr
      · refine w_condF g42 ?_
        refine w_skip ?_
        refine nx_norm ?_
        refine w_seq ?_
        refine w_ops ?_
        refine wo_step (v := (.i .i64 0)) (s_pure (p_mv rfl)) ?_
        refine wo_nil ?_
        refine nx_norm ?_
        refine w_seq ?_
        refine w_seq ?_
        refine w_ops ?_
        refine wo_step (v := v33) (s_pure (p_mv g14)) ?_
        have hq := bindO_inv hr
        clear hr
        obtain ⟨v44, e44, hr⟩ := hq
        have hq := asI_inv hr
        clear hr
        obtain ⟨x44, rfl, hr⟩ := hq
        refine wo_step (v := (.i .i64 x44)) (s_pure (o_len rfl e44)) ?_
        refine wo_step (v := (.i .i64 0)) (s_pure (p_mv rfl)) ?_
        refine wo_nil ?_
        refine nx_norm ?_
        refine w_block ?_
        have hq := bindO_inv hr
        clear hr
        obtain ⟨o_1, hl, hr⟩ := hq
        obtain ⟨n, hl⟩ := hM.loop _ _ _ hl
        refine jp_mono (w_loop _ (g34_I1 x0 v3 v12 v33 x44) (g34_J1 x0 v3 v12 v33 x44) ?_ n _ _ _ _ hl ⟨rfl, gl rfl, gl rfl, gl g0, gl g3, gl g12, gl rfl, gl rfl⟩) ?_
        · clear hr hl
          intro s mm_2 t_2 o hi hr
          obtain ⟨x16, x45, m_7⟩ := s
          obtain ⟨rfl, g16, g45, g0, g3, g12, g43, g44⟩ := hi
          unfold g34_b1 at hr
          refine w_seq ?_
          refine w_ops ?_
          have hq := forceB_inv hr
          clear hr
          obtain ⟨c46, e46, hr⟩ := hq
          refine wo_step (v := (.b c46)) (s_pure (p_bin g45 g44 (b_lss.trans (cb e46)))) ?_
          refine wo_nil ?_
          refine nx_norm ?_
          refine w_seq ?_
          have hq := cond_inv hr
          clear hr
          rcases hq with ⟨rfl, hr⟩ | ⟨rfl, hr⟩
          · refine w_condT rfl ?_
            refine w_skip ?_
            refine nx_norm ?_
            refine w_seq ?_
            refine w_block ?_
            refine w_seq ?_
            refine w_ops ?_
            have hq := bindO_inv hr
            clear hr
            obtain ⟨v47, e47, hr⟩ := hq
            refine wo_step (v := v47) (s_pure (o_ixS g43 g45 e47)) ?_
            have hq := bindO_inv hr
            clear hr
            obtain ⟨v48, e48, hr⟩ := hq
            refine wo_step (v := v48) (s_ld rfl e48) ?_
            have hq := bindP_inv hr
            clear hr
            obtain ⟨v18, m_8, e18, hr⟩ := hq
            refine wo_step (v := v18) (s_al e18) ?_
            have hq := bindP_inv hr
            clear hr
            obtain ⟨vn_1, m_9, en_1, hr⟩ := hq
            refine wo_stepN (s_st rfl rfl en_1) ?_
            refine wo_nil ?_
            refine nx_norm ?_
            refine w_any ?_
            refine wa_step (v := (.i .i64 x16)) (a_pure (p_mv g16)) ?_
            have hq := bindO_inv hr
            clear hr
            obtain ⟨v50, e50, hr⟩ := hq
            refine wa_step (v := v50) (a_pure (o_faddr rfl e50)) ?_
            have hq := bindO_inv hr
            clear hr
            obtain ⟨v51, e51, hr⟩ := hq
            have hq := asI_inv hr
            clear hr
            obtain ⟨x51, rfl, hr⟩ := hq
            refine wa_step (v := (.i .i64 x51)) (a_ld rfl e51) ?_
            have hq := bindO_inv hr
            clear hr
            obtain ⟨v52, e52, hr⟩ := hq
            refine wa_step (v := v52) (a_ld g12 e52) ?_
            have hq := bindO_inv hr
            clear hr
            obtain ⟨v53, e53, hr⟩ := hq
            refine wa_step (v := v53) (a_ld rfl e53) ?_
            refine wa_step (v := v3) (a_pure (p_mv g3)) ?_
            have hq := bindO_inv hr
            clear hr
            obtain ⟨v55, e55, hr⟩ := hq
            have hq := asI_inv hr
            clear hr
            obtain ⟨x55, rfl, hr⟩ := hq
            refine wa_step (v := (.i .i64 x55)) (a_call (mc rfl (mc rfl (mc rfl mn))) (callN_le hM.call e55)) ?_
            have hq := forceI_inv hr
            clear hr
            obtain ⟨x56, e56, hr⟩ := hq
            refine wa_step (v := (.i .i64 x56)) (a_pure (p_bin rfl rfl (b_add.trans (ci e56)))) ?_
            have hq := forceI_inv hr
            clear hr
            obtain ⟨x57, e57, hr⟩ := hq
            refine wa_step (v := (.i .i64 x57)) (a_pure (p_bin rfl rfl (b_add.trans (ci e57)))) ?_
            refine wa_step (v := (.i .i64 x57)) (a_pure (p_mv rfl)) ?_
            refine wa_nil ?_
            refine ⟨m_9, rfl, ?_⟩
            refine bk_norm ?_
            refine nx_norm ?_
            refine w_ops ?_
            have hq := forceI_inv hr
            clear hr
            obtain ⟨x58, e58, hr⟩ := hq
            refine wo_step (v := (.i .i64 x58)) (s_pure (p_bin g45 rfl (b_add.trans (ci e58)))) ?_
            refine wo_step (v := (.i .i64 x58)) (s_pure (p_mv rfl)) ?_
            refine wo_nil ?_
            cases hr
            exact ⟨_, _, rfl, rfl, rfl, gl rfl, gl rfl, gl g0, gl g3, gl g12, gl g43, gl g44⟩
          · refine w_condF rfl ?_
            refine w_exit ?_
            refine nx_exit ?_
            cases hr
            exact ⟨_, _, rfl, ne_norm_exit, rfl, rfl, gl g16, gl g0⟩
        · obtain ⟨x16_1, m_10⟩ := o_1
          rintro _ mm_1 t_3 ⟨rfl, rfl, g16, g0⟩
          refine bk_hit ?_
          refine nx_norm ?_
          refine w_seq ?_
          refine w_ops ?_
          refine wo_step (v := (.i .i64 x16_1)) (s_pure (p_mv g16)) ?_
          refine wo_step (v := (.i .i64 x0)) (s_pure (p_mv g0)) ?_
          have hq := chk_inv hr
          clear hr
          obtain ⟨hc61, hr⟩ := hq
          have hq := forceI_inv hr
          clear hr
          obtain ⟨x61, e61, hr⟩ := hq
          refine wo_step (v := (.i .i64 x61)) (s_pure (p_bin rfl rfl ((b_quo hc61).trans (ci e61)))) ?_
          refine wo_step (v := (.i .i64 x61)) (s_pure (p_mv rfl)) ?_
          refine wo_step (v := (.i .i64 0)) (s_pure (p_mv rfl)) ?_
          refine wo_nil ?_
          refine nx_norm ?_
          refine w_ret ?_
          exact qf ret_ok (rt rfl (rt rfl rn)) hr

/- dibber/dibberref04.IsRing -/
abbrev g39_J0 (v0 : AVal) (v1 : AVal) (m0 : Mm) (o : Bool) (m1 : Mm) (t1 : Tr) : Prop :=
  match o with
  | c26 => m0 = m1 ∧ t1.get 26 = (.b c26) ∧ t1.get 0 = v0 ∧ t1.get 1 = v1
abbrev g39_I1 (v0 : AVal) (v1 : AVal) (s : Int × Int × AVal × Int × Int × Int × Mm) (m1 : Mm) (t1 : Tr) : Prop :=
  match s with
  | (x7, x8, v9, x10, x11, x12, m_1) => m_1 = m1 ∧ t1.get 7 = (.i .i64 x7) ∧ t1.get 8 = (.i .i64 x8) ∧ t1.get 9 = v9 ∧ t1.get 10 = (.i .i64 x10) ∧ t1.get 11 = (.i .i64 x11) ∧ t1.get 12 = (.i .i64 x12) ∧ t1.get 0 = v0 ∧ t1.get 1 = v1
abbrev g39_J1 (v0 : AVal) (v1 : AVal) (o : ((Int × Int × Int × Int × Mm) ⊕ (Int × Int × Bool × Mm))) (e : AExit) (m1 : Mm) (t1 : Tr) : Prop :=
  match o with
  | (.inl (y7, y8, y10, y11, mo)) => e = (.exit 0) ∧ mo = m1 ∧ t1.get 7 = (.i .i64 y7) ∧ t1.get 8 = (.i .i64 y8) ∧ t1.get 10 = (.i .i64 y10) ∧ t1.get 11 = (.i .i64 y11)
  | (.inr (y4, y5, y6, mo)) => e = .ret ∧ mo = m1 ∧ t1.get 4 = (.i .i64 y4) ∧ t1.get 5 = (.i .i64 y5) ∧ t1.get 6 = (.b y6)
abbrev g39_J2 (v0 : AVal) (v1 : AVal) (x7 : Int) (x8 : Int) (v9 : AVal) (x11 : Int) (x12 : Int) (x40 : Int) (x41 : Int) (x42 : Int) (x43 : Int) (m_2 : Mm) (o : Bool) (m1 : Mm) (t1 : Tr) : Prop :=
  match o with
  | c55 => m_2 = m1 ∧ t1.get 55 = (.b c55) ∧ t1.get 0 = v0 ∧ t1.get 1 = v1 ∧ t1.get 7 = (.i .i64 x7) ∧ t1.get 8 = (.i .i64 x8) ∧ t1.get 9 = v9 ∧ t1.get 11 = (.i .i64 x11) ∧ t1.get 12 = (.i .i64 x12) ∧ t1.get 13 = (.i .i64 x40) ∧ t1.get 14 = (.i .i64 x41) ∧ t1.get 15 = (.i .i64 x42) ∧ t1.get 16 = (.i .i64 x43)
abbrev g39_J3 (v0 : AVal) (v1 : AVal) (x7 : Int) (x8 : Int) (v9 : AVal) (x11 : Int) (x12 : Int) (x40 : Int) (x41 : Int) (x42 : Int) (x43 : Int) (m_2 : Mm) (o : Bool) (m1 : Mm) (t1 : Tr) : Prop :=
  match o with
  | c55_1 => m_2 = m1 ∧ t1.get 55 = (.b c55_1) ∧ t1.get 0 = v0 ∧ t1.get 1 = v1 ∧ t1.get 7 = (.i .i64 x7) ∧ t1.get 8 = (.i .i64 x8) ∧ t1.get 9 = v9 ∧ t1.get 11 = (.i .i64 x11) ∧ t1.get 12 = (.i .i64 x12) ∧ t1.get 13 = (.i .i64 x40) ∧ t1.get 14 = (.i .i64 x41) ∧ t1.get 15 = (.i .i64 x42) ∧ t1.get 16 = (.i .i64 x43)
abbrev g39_I4 (v0 : AVal) (v1 : AVal) (x7 : Int) (x8 : Int) (v9 : AVal) (x11 : Int) (x12 : Int) (x40 : Int) (x41 : Int) (x42 : Int) (x43 : Int) (m_2 : Mm) (s : Int) (m1 : Mm) (t1 : Tr) : Prop :=
  match s with
  | x18 => m_2 = m1 ∧ t1.get 18 = (.i .i64 x18) ∧ t1.get 0 = v0 ∧ t1.get 1 = v1 ∧ t1.get 7 = (.i .i64 x7) ∧ t1.get 8 = (.i .i64 x8) ∧ t1.get 9 = v9 ∧ t1.get 11 = (.i .i64 x11) ∧ t1.get 12 = (.i .i64 x12) ∧ t1.get 13 = (.i .i64 x40) ∧ t1.get 14 = (.i .i64 x41) ∧ t1.get 15 = (.i .i64 x42) ∧ t1.get 16 = (.i .i64 x43)
abbrev g39_J4 (v0 : AVal) (v1 : AVal) (x7 : Int) (x8 : Int) (v9 : AVal) (x11 : Int) (x12 : Int) (x40 : Int) (x41 : Int) (x42 : Int) (x43 : Int) (m_2 : Mm) (o : (Unit ⊕ (Int × Int × Bool))) (e : AExit) (m1 : Mm) (t1 : Tr) : Prop :=
  match o with
  | (.inl _) => e = (.exit 2) ∧ m_2 = m1 ∧ t1.get 0 = v0 ∧ t1.get 1 = v1 ∧ t1.get 7 = (.i .i64 x7) ∧ t1.get 8 = (.i .i64 x8) ∧ t1.get 9 = v9 ∧ t1.get 11 = (.i .i64 x11) ∧ t1.get 12 = (.i .i64 x12) ∧ t1.get 13 = (.i .i64 x40) ∧ t1.get 14 = (.i .i64 x41) ∧ t1.get 15 = (.i .i64 x42) ∧ t1.get 16 = (.i .i64 x43)
  | (.inr (y4, y5, y6)) => e = .ret ∧ m_2 = m1 ∧ t1.get 4 = (.i .i64 y4) ∧ t1.get 5 = (.i .i64 y5) ∧ t1.get 6 = (.b y6)
def g39_b4 (M : Means) (ro : List ABlk) (v0 : AVal) (v1 : AVal) (x7 : Int) (x8 : Int) (v9 : AVal) (x11 : Int) (x12 : Int) (x40 : Int) (x41 : Int) (x42 : Int) (x43 : Int) (m_2 : Mm) (x18 : Int) : Option ((Int) ⊕ ((Unit ⊕ (Int × Int × Bool)))) :=
  bindO (evP .e (.len false (.c v9))) fun v58 =>
  asI .i64 v58 fun x58 =>
  forceB (ltI x18 x58) fun c59 =>
  cond c59 (
    bindO (evP .e (.ixS 1 (.c v9) (.c (.i .i64 x18)))) fun v64 =>
    bindO (ldM ro m_2 true 1 v64) fun v65 =>
    asI .i64 v65 fun x65 =>
    forceB (eqI x65 x40) fun c67 =>
    cond c67 (
      some (.inr (.inr (0, 0, false)))) (
      forceI (wr .i64 (x18 + 1)) fun x61 =>
      some (.inl x61))) (
    some (.inr (.inl ())))
abbrev g39_J5 (v0 : AVal) (v1 : AVal) (x7 : Int) (x8 : Int) (v9 : AVal) (x12 : Int) (x40 : Int) (x41 : Int) (x42 : Int) (x43 : Int) (m_2 : Mm) (o : Int) (e : AExit) (m1 : Mm) (t1 : Tr) : Prop :=
  match o with
  | y11 => e = .norm ∧ m_2 = m1 ∧ t1.get 11 = (.i .i64 y11) ∧ t1.get 0 = v0 ∧ t1.get 1 = v1 ∧ t1.get 7 = (.i .i64 x7) ∧ t1.get 8 = (.i .i64 x8) ∧ t1.get 9 = v9 ∧ t1.get 12 = (.i .i64 x12) ∧ t1.get 13 = (.i .i64 x40) ∧ t1.get 14 = (.i .i64 x41) ∧ t1.get 15 = (.i .i64 x42) ∧ t1.get 16 = (.i .i64 x43)
def g39_b1 (M : Means) (ro : List ABlk) (v0 : AVal) (v1 : AVal) (x7 : Int) (x8 : Int) (v9 : AVal) (x10 : Int) (x11 : Int) (x12 : Int) (m_1 : Mm) : Option ((Int × Int × AVal × Int × Int × Int × Mm) ⊕ (((Int × Int × Int × Int × Mm) ⊕ (Int × Int × Bool × Mm)))) :=
  bindO (evP .e (.len false (.c v1))) fun v29 =>
  asI .i64 v29 fun x29 =>
  forceB (ltI x12 x29) fun c30 =>
  cond c30 (
    bindO (evP .e (.ixS 1 (.c v1) (.c (.i .i64 x12)))) fun v37 =>
    bindO (ldM ro m_1 true 1 v37) fun v38 =>
    asI .i64 v38 fun x38 =>
    bindP (callM M.call m_1 59 [v0, (.i .i64 x38)]) fun v39 m_2 =>
    bindO (evP .e (.ext 0 (.c v39))) fun v40 =>
    asI .i64 v40 fun x40 =>
    bindO (evP .e (.ext 1 (.c v39))) fun v41 =>
    asI .i64 v41 fun x41 =>
    bindO (evP .e (.ext 2 (.c v39))) fun v42 =>
    asI .i64 v42 fun x42 =>
    bindO (evP .e (.ext 3 (.c v39))) fun v43 =>
    asI .i64 v43 fun x43 =>
    bindO (evP .e (.ext 4 (.c v39))) fun v44 =>
    asB v44 fun c44 =>
    forceB (!c44) fun c46 =>
    bindO (cond c46 (
      some true) (
      forceB (ltI 0 x12) fun c49 =>
      bindO (cond c49 (
        forceB (!eqI x40 x10) fun c53 =>
        some c53) (
        some false)) fun c55_1 =>
      some c55_1)) fun c55 =>
    cond c55 (
      some (.inr (.inr (0, 0, false, m_2)))) (
      bindO (M.loop (S := Int) (R := (Unit ⊕ (Int × Int × Bool))) (fun s => g39_b4 M ro v0 v1 x7 x8 v9 x11 x12 x40 x41 x42 x43 m_2 s) 0) fun o_3 => match o_3 with
      | (.inl _) =>
        forceB (eqI x12 0) fun c69 =>
        bindO (α := Int) (
          cond c69 (
            some x40) (
            some x11)) fun x11_1 =>
        bindP (stepM ro m_2 (.bsl 3 1 [(AVal.i IntKind.i64 0)] 1 [((0, 1), .c (.i .i64 x40))])) fun v73 m_3 =>
        bindP (stepM ro m_3 (.app 3 1 8 [(AVal.i IntKind.i64 0)] (.c v9) (.c v73))) fun v74 m_4 =>
        forceI (wr .i64 (x7 + x42)) fun x78 =>
        forceI (wr .i64 (x8 + x43)) fun x81 =>
        forceI (wr .i64 (x12 + 1)) fun x32 =>
        some (.inl (x78, x81, v74, x41, x11_1, x32, m_4))
      | (.inr (x4, x5, c6)) =>
        some (.inr (.inr (x4, x5, c6, m_2))))) (
    some (.inr (.inl (x7, x8, x10, x11, m_1))))
def g39 (M : Means) (ro : List ABlk) (v0 : AVal) (v1 : AVal) (m0 : Mm) : Option (AVal × Heap × Nat × Nat) :=
  bindO (evP .e (.len false (.c v1))) fun v20 =>
  asI .i64 v20 fun x20 =>
  forceB (ltI x20 2) fun c21 =>
  bindO (cond c21 (
    some true) (
    bindO (evP .e (.len false (.c v1))) fun v24 =>
    asI .i64 v24 fun x24 =>
    forceB (ltI 6 x24) fun c25 =>
    some c25)) fun c26 =>
  cond c26 (
    finM m0.h.length (tupA [(.i .i64 0), (.i .i64 0), (.b false)]) m0) (
    bindO (M.loop (S := Int × Int × AVal × Int × Int × Int × Mm) (R := ((Int × Int × Int × Int × Mm) ⊕ (Int × Int × Bool × Mm))) (fun s => g39_b1 M ro v0 v1 s.1 s.2.1 s.2.2.1 s.2.2.2.1 s.2.2.2.2.1 s.2.2.2.2.2.1 s.2.2.2.2.2.2) (0, 0, AVal.nsl, 0, 0, 0, m0)) fun o_5 => match o_5 with
    | (.inl (x7_1, x8_1, x10_1, x11_2, m_5)) =>
      forceB (eqI x10_1 x11_2) fun c86 =>
      finM m0.h.length (tupA [(.i .i64 x7_1), (.i .i64 x8_1), (.b c86)]) m_5
    | (.inr (x4_1, x5_1, c6_1, m_6)) =>
      finM m0.h.length (tupA [(.i .i64 x4_1), (.i .i64 x5_1), (.b c6_1)]) m_6)

theorem g39_ok {ro : List ABlk} {O : Caller} {M : Means} (hM : M.Ok ⟨F, O⟩ ro) {v0 v1 h r} (ho : O 39 [v0, v1] h = none) (hr : g39 M ro v0 v1 ⟨h, h.length, h.length⟩ = some r) : callX ⟨F, O⟩ ro 39 [v0, v1] h = some r := by
  refine callX_of (F := ⟨F, O⟩) (fn := fn39) (g := g39 M ro v0 v1) ho rfl rfl hr ?_
  clear ho
  clear hr
  intro m0 t0 ht hr
  have g0 : t0.get 0 = v0 := ht 0
  have g1 : t0.get 1 = v1 := ht 1
  clear ht
  unfold g39 at hr
  refine w_seq ?_
  refine w_ops ?_
  refine wo_step (v := (.i .i64 0)) (s_pure (p_mv rfl)) ?_
  refine wo_step (v := (.i .i64 0)) (s_pure (p_mv rfl)) ?_
  refine wo_step (v := (.b false)) (s_pure (p_mv rfl)) ?_
  refine wo_nil ?_
  refine nx_norm ?_
  refine w_seq ?_
  refine w_seq ?_
  refine w_ops ?_
  refine wo_step (v := v1) (s_pure (p_mv g1)) ?_
  have hq := bindO_inv hr
  clear hr
  obtain ⟨v20, e20, hr⟩ := hq
  have hq := asI_inv hr
  clear hr
  obtain ⟨x20, rfl, hr⟩ := hq
  refine wo_step (v := (.i .i64 x20)) (s_pure (o_len rfl e20)) ?_
  have hq := forceB_inv hr
  clear hr
  obtain ⟨c21, e21, hr⟩ := hq
  refine wo_step (v := (.b c21)) (s_pure (p_bin rfl rfl (b_lss.trans (cb e21)))) ?_
  refine wo_step (v := (.b c21)) (s_pure (p_mv rfl)) ?_
  have hq := bindO_inv hr
  clear hr
  obtain ⟨o, hr, hk⟩ := hq
  refine wo_join 4 (g39_J0 v0 v1 m0 o) ?_ ?_
  · clear hk
    have hq := cond_inv hr
    clear hr
    rcases hq with ⟨rfl, hr⟩ | ⟨rfl, hr⟩
    · refine wo_skip (v := (.b true)) rfl rfl ?_
      refine wo_skip (v := (.b true)) rfl rfl ?_
      refine wo_skip (v := (.b true)) rfl rfl ?_
      refine wo_step (v := (.b true)) (s_pure (p_pickT rfl rfl)) ?_
      refine wo_nil ?_
      cases hr
      exact ⟨_, _, rfl, rfl, gl rfl, gl g0, gl g1⟩
    · refine wo_take (v := v1) rfl (s_pure (p_mv g1)) ?_
      have hq := bindO_inv hr
      clear hr
      obtain ⟨v24, e24, hr⟩ := hq
      have hq := asI_inv hr
      clear hr
      obtain ⟨x24, rfl, hr⟩ := hq
      refine wo_take (v := (.i .i64 x24)) rfl (s_pure (o_len rfl e24)) ?_
      have hq := forceB_inv hr
      clear hr
      obtain ⟨c25, e25, hr⟩ := hq
      refine wo_take (v := (.b c25)) rfl (s_pure (p_bin rfl rfl (b_gtr.trans (cb e25)))) ?_
      refine wo_step (v := (.b c25)) (s_pure (p_pickF rfl rfl)) ?_
      refine wo_nil ?_
      cases hr
      exact ⟨_, _, rfl, rfl, gl rfl, gl g0, gl g1⟩
  · clear hr
    have hr := hk
    clear hk
    obtain ⟨c26, ho⟩ : ∃ z, z = o := ⟨_, rfl⟩
    subst ho
    rintro mm t_1 ⟨rfl, g26, g0, g1⟩
    refine wo_nil ?_
    refine nx_norm ?_
    have hq := cond_inv hr
    clear hr
    rcases hq with ⟨rfl, hr⟩ | ⟨rfl, hr⟩
    · refine w_condT g26 ?_
      refine w_seq ?_
      refine w_ops ?_
      refine wo_step (v := (.i .i64 0)) (s_pure (p_mv rfl)) ?_
      refine wo_step (v := (.i .i64 0)) (s_pure (p_mv rfl)) ?_
      refine wo_step (v := (.b false)) (s_pure (p_mv rfl)) ?_
      refine wo_nil ?_
      refine nx_norm ?_
      refine w_ret ?_
      refine nx_ret ?_
      exact qf ret_ok (rt rfl (rt rfl (rt rfl rn))) hr
    · refine w_condF g26 ?_
      refine w_skip ?_
      refine nx_norm ?_
      refine w_seq ?_
      refine w_ops ?_
      refine wo_step (v := (.i .i64 0)) (s_pure (p_mv rfl)) ?_
      refine wo_step (v := (.i .i64 0)) (s_pure (p_mv rfl)) ?_
      refine wo_nil ?_
      refine nx_norm ?_
      refine w_seq ?_
      refine w_ops ?_
      refine wo_step (v := AVal.nsl) (s_pure (p_mv rfl)) ?_
      refine wo_nil ?_
      refine nx_norm ?_
      refine w_seq ?_
      refine w_ops ?_
      refine wo_step (v := (.i .i64 0)) (s_pure (p_mv rfl)) ?_
      refine wo_step (v := (.i .i64 0)) (s_pure (p_mv rfl)) ?_
      refine wo_nil ?_
      refine nx_norm ?_
      refine w_seq ?_
      refine w_seq ?_
      refine w_ops ?_
      refine wo_step (v := (.i .i64 0)) (s_pure (p_mv rfl)) ?_
      refine wo_nil ?_
      refine nx_norm ?_
      refine w_block ?_
      have hq := bindO_inv hr
      clear hr
      obtain ⟨o_5, hl_1, hr⟩ := hq
      obtain ⟨n_1, hl_1⟩ := hM.loop _ _ _ hl_1
      refine jp_mono (w_loop _ (g39_I1 v0 v1) (g39_J1 v0 v1) ?_ n_1 _ _ _ _ hl_1 ⟨rfl, gl rfl, gl rfl, gl rfl, gl rfl, gl rfl, gl rfl, gl g0, gl g1⟩) ?_
      · clear hr hl_1
        intro s mm_9 t_2 o hi hr
        obtain ⟨x7, x8, v9, x10, x11, x12, m_1⟩ := s
        obtain ⟨rfl, g7, g8, g9, g10, g11, g12, g0, g1⟩ := hi
        unfold g39_b1 at hr
        refine w_seq ?_
        refine w_seq ?_
        refine w_ops ?_
        refine wo_step (v := (.i .i64 x12)) (s_pure (p_mv g12)) ?_
        refine wo_step (v := v1) (s_pure (p_mv g1)) ?_
        have hq := bindO_inv hr
        clear hr
        obtain ⟨v29, e29, hr⟩ := hq
        have hq := asI_inv hr
        clear hr
        obtain ⟨x29, rfl, hr⟩ := hq
        refine wo_step (v := (.i .i64 x29)) (s_pure (o_len rfl e29)) ?_
        have hq := forceB_inv hr
        clear hr
        obtain ⟨c30, e30, hr⟩ := hq
        refine wo_step (v := (.b c30)) (s_pure (p_bin rfl rfl (b_lss.trans (cb e30)))) ?_
        refine wo_nil ?_
        refine nx_norm ?_
        have hq := cond_inv hr
        clear hr
        rcases hq with ⟨rfl, hr⟩ | ⟨rfl, hr⟩
        · refine w_condT rfl ?_
          refine w_skip ?_
          refine nx_norm ?_
          refine w_seq ?_
          refine w_block ?_
          refine w_seq ?_
          refine w_ops ?_
          refine wo_step (v := v0) (s_pure (p_mv g0)) ?_
          refine wo_step (v := v1) (s_pure (p_mv g1)) ?_
          refine wo_step (v := (.i .i64 x12)) (s_pure (p_mv g12)) ?_
          have hq := bindO_inv hr
          clear hr
          obtain ⟨v37, e37, hr⟩ := hq
          refine wo_step (v := v37) (s_pure (o_ixS rfl rfl e37)) ?_
          have hq := bindO_inv hr
          clear hr
          obtain ⟨v38, e38, hr⟩ := hq
          have hq := asI_inv hr
          clear hr
          obtain ⟨x38, rfl, hr⟩ := hq
          refine wo_step (v := (.i .i64 x38)) (s_ld rfl e38) ?_
          have hq := bindP_inv hr
          clear hr
          obtain ⟨v39, m_2, e39, hr⟩ := hq
          refine wo_step (v := v39) (s_call (mc rfl (mc rfl mn)) (callM_le hM.call e39)) ?_
          refine wo_step (v := v39) (s_pure (p_mv rfl)) ?_
          have hq := bindO_inv hr
          clear hr
          obtain ⟨v40, e40, hr⟩ := hq
          have hq := asI_inv hr
          clear hr
          obtain ⟨x40, rfl, hr⟩ := hq
          refine wo_step (v := (.i .i64 x40)) (s_pure (o_ext rfl e40)) ?_
          have hq := bindO_inv hr
          clear hr
          obtain ⟨v41, e41, hr⟩ := hq
          have hq := asI_inv hr
          clear hr
          obtain ⟨x41, rfl, hr⟩ := hq
          refine wo_step (v := (.i .i64 x41)) (s_pure (o_ext rfl e41)) ?_
          have hq := bindO_inv hr
          clear hr
          obtain ⟨v42, e42, hr⟩ := hq
          have hq := asI_inv hr
          clear hr
          obtain ⟨x42, rfl, hr⟩ := hq
          refine wo_step (v := (.i .i64 x42)) (s_pure (o_ext rfl e42)) ?_
          have hq := bindO_inv hr
          clear hr
          obtain ⟨v43, e43, hr⟩ := hq
          have hq := asI_inv hr
          clear hr
          obtain ⟨x43, rfl, hr⟩ := hq
          refine wo_step (v := (.i .i64 x43)) (s_pure (o_ext rfl e43)) ?_
          have hq := bindO_inv hr
          clear hr
          obtain ⟨v44, e44, hr⟩ := hq
          have hq := asB_inv hr
          clear hr
          obtain ⟨c44, rfl, hr⟩ := hq
          refine wo_step (v := (.b c44)) (s_pure (o_ext rfl e44)) ?_
          refine wo_step (v := (.i .i64 x40)) (s_pure (p_mv rfl)) ?_
          refine wo_step (v := (.i .i64 x41)) (s_pure (p_mv rfl)) ?_
          refine wo_step (v := (.i .i64 x42)) (s_pure (p_mv rfl)) ?_
          refine wo_step (v := (.i .i64 x43)) (s_pure (p_mv rfl)) ?_
          refine wo_step (v := (.b c44)) (s_pure (p_mv rfl)) ?_
          refine wo_nil ?_
          refine nx_norm ?_
          refine w_seq ?_
          refine w_seq ?_
          refine w_ops ?_
          refine wo_step (v := (.b c44)) (s_pure (p_mv rfl)) ?_
          have hq := forceB_inv hr
          clear hr
          obtain ⟨c46, e46, hr⟩ := hq
          refine wo_step (v := (.b c46)) (s_pure ((p_not rfl).trans (cb e46))) ?_
          refine wo_step (v := (.b c46)) (s_pure (p_mv rfl)) ?_
          have hq := bindO_inv hr
          clear hr
          obtain ⟨o_1, hr, hk⟩ := hq
          refine wo_join 8 (g39_J2 v0 v1 x7 x8 v9 x11 x12 x40 x41 x42 x43 m_2 o_1) ?_ ?_
          · clear hk
            have hq := cond_inv hr
            clear hr
            rcases hq with ⟨rfl, hr⟩ | ⟨rfl, hr⟩
            · refine wo_skip (v := (.b true)) rfl rfl ?_
              refine wo_skip (v := (.b true)) rfl rfl ?_
              refine wo_skip (v := (.b true)) rfl rfl ?_
              refine wo_skip (v := und) rfl rfl ?_
              refine wo_skip (v := und) rfl rfl ?_
              refine wo_skip (v := und) rfl rfl ?_
              refine wo_skip (v := (.b true)) rfl rfl ?_
              refine wo_step (v := (.b true)) (s_pure (p_pickT rfl rfl)) ?_
              refine wo_nil ?_
              cases hr
              exact ⟨_, _, rfl, rfl, gl rfl, gl g0, gl g1, gl g7, gl g8, gl g9, gl g11, gl g12, gl rfl, gl rfl, gl rfl, gl rfl⟩
            · refine wo_take (v := (.i .i64 x12)) rfl (s_pure (p_mv g12)) ?_
              have hq := forceB_inv hr
              clear hr
              obtain ⟨c49, e49, hr⟩ := hq
              refine wo_take (v := (.b c49)) rfl (s_pure (p_bin rfl rfl (b_gtr.trans (cb e49)))) ?_
              refine wo_take (v := (.b c49)) rfl (s_pure (p_mv rfl)) ?_
              have hq := bindO_inv hr
              clear hr
              obtain ⟨o_2, hr, hk⟩ := hq
              refine wo_join 5 (g39_J3 v0 v1 x7 x8 v9 x11 x12 x40 x41 x42 x43 m_2 o_2) ?_ ?_
              · clear hk
                have hq := cond_inv hr
                clear hr
                rcases hq with ⟨rfl, hr⟩ | ⟨rfl, hr⟩
                · refine wo_take (v := (.i .i64 x40)) rfl (s_pure (p_mv rfl)) ?_
                  refine wo_take (v := (.i .i64 x10)) rfl (s_pure (p_mv g10)) ?_
                  have hq := forceB_inv hr
                  clear hr
                  obtain ⟨c53, e53, hr⟩ := hq
                  refine wo_take (v := (.b c53)) rfl (s_pure (p_bin rfl rfl (b_neq.trans (cb e53)))) ?_
                  refine wo_take (v := (.b c53)) rfl (s_pure (p_pickT rfl rfl)) ?_
                  refine wo_step (v := (.b c53)) (s_pure (p_pickF rfl rfl)) ?_
                  refine wo_nil ?_
                  cases hr
                  exact ⟨_, _, rfl, rfl, gl rfl, gl g0, gl g1, gl g7, gl g8, gl g9, gl g11, gl g12, gl rfl, gl rfl, gl rfl, gl rfl⟩
                · refine wo_skip (v := (.b false)) rfl rfl ?_
                  refine wo_skip (v := (.b false)) rfl rfl ?_
                  refine wo_skip (v := (.b false)) rfl rfl ?_
                  refine wo_take (v := (.b false)) rfl (s_pure (p_pickF rfl rfl)) ?_
                  refine wo_step (v := (.b false)) (s_pure (p_pickF rfl rfl)) ?_
                  refine wo_nil ?_
                  cases hr
                  exact ⟨_, _, rfl, rfl, gl rfl, gl g0, gl g1, gl g7, gl g8, gl g9, gl g11, gl g12, gl rfl, gl rfl, gl rfl, gl rfl⟩
              · clear hr
                have hr := hk
                clear hk
                obtain ⟨c55_1, ho⟩ : ∃ z, z = o_2 := ⟨_, rfl⟩
                subst ho
                rintro mm_1 t_3 ⟨rfl, g55, g0, g1, g7, g8, g9, g11, g12, g13, g14, g15, g16⟩
                refine wo_nil ?_
                cases hr
                exact ⟨_, _, rfl, rfl, gl g55, gl g0, gl g1, gl g7, gl g8, gl g9, gl g11, gl g12, gl g13, gl g14, gl g15, gl g16⟩
          · clear hr
            have hr := hk
            clear hk
            obtain ⟨c55, ho⟩ : ∃ z, z = o_1 := ⟨_, rfl⟩
            subst ho
            rintro mm_2 t_4 ⟨rfl, g55, g0, g1, g7, g8, g9, g11, g12, g13, g14, g15, g16⟩
            refine wo_nil ?_
            refine nx_norm ?_
            have hq := cond_inv hr
            clear hr
            rcases hq with ⟨rfl, hr⟩ | ⟨rfl, hr⟩
            · refine w_condT g55 ?_
              refine w_seq ?_
              refine w_ops ?_
              refine wo_step (v := (.i .i64 0)) (s_pure (p_mv rfl)) ?_
              refine wo_step (v := (.i .i64 0)) (s_pure (p_mv rfl)) ?_
              refine wo_step (v := (.b false)) (s_pure (p_mv rfl)) ?_
              refine wo_nil ?_
              refine nx_norm ?_
              refine w_ret ?_
              refine nx_ret ?_
              refine bk_ret ?_
              refine nx_ret ?_
              cases hr
              exact ⟨_, _, rfl, ne_norm_ret, rfl, rfl, gl rfl, gl rfl, gl rfl⟩
            · refine w_condF g55 ?_
              refine w_skip ?_
              refine nx_norm ?_
              refine w_seq ?_
              refine w_seq ?_
              refine w_ops ?_
              refine wo_step (v := (.i .i64 0)) (s_pure (p_mv rfl)) ?_
              refine wo_nil ?_
              refine nx_norm ?_
              refine w_block ?_
              have hq := bindO_inv hr
              clear hr
              obtain ⟨o_3, hl, hr⟩ := hq
              obtain ⟨n, hl⟩ := hM.loop _ _ _ hl
              refine jp_mono (w_loop _ (g39_I4 v0 v1 x7 x8 v9 x11 x12 x40 x41 x42 x43 m_2) (g39_J4 v0 v1 x7 x8 v9 x11 x12 x40 x41 x42 x43 m_2) ?_ n _ _ _ _ hl ⟨rfl, gl rfl, gl g0, gl g1, gl g7, gl g8, gl g9, gl g11, gl g12, gl g13, gl g14, gl g15, gl g16⟩) ?_
              · clear hr hl
                intro s mm_6 t_5 o hi hr
                obtain ⟨x18, hs⟩ : ∃ z, z = s := ⟨_, rfl⟩
                subst hs
                obtain ⟨rfl, g18, g0, g1, g7, g8, g9, g11, g12, g13, g14, g15, g16⟩ := hi
                unfold g39_b4 at hr
                refine w_seq ?_
                refine w_seq ?_
                refine w_ops ?_
                refine wo_step (v := (.i .i64 x18)) (s_pure (p_mv g18)) ?_
                refine wo_step (v := v9) (s_pure (p_mv g9)) ?_
                have hq := bindO_inv hr
                clear hr
                obtain ⟨v58, e58, hr⟩ := hq
                have hq := asI_inv hr
                clear hr
                obtain ⟨x58, rfl, hr⟩ := hq
                refine wo_step (v := (.i .i64 x58)) (s_pure (o_len rfl e58)) ?_
                have hq := forceB_inv hr
                clear hr
                obtain ⟨c59, e59, hr⟩ := hq
                refine wo_step (v := (.b c59)) (s_pure (p_bin rfl rfl (b_lss.trans (cb e59)))) ?_
                refine wo_nil ?_
                refine nx_norm ?_
                have hq := cond_inv hr
                clear hr
                rcases hq with ⟨rfl, hr⟩ | ⟨rfl, hr⟩
                · refine w_condT rfl ?_
                  refine w_skip ?_
                  refine nx_norm ?_
                  refine w_seq ?_
                  refine w_block ?_
                  refine w_seq ?_
                  refine w_ops ?_
                  refine wo_step (v := v9) (s_pure (p_mv g9)) ?_
                  refine wo_step (v := (.i .i64 x18)) (s_pure (p_mv g18)) ?_
                  have hq := bindO_inv hr
                  clear hr
                  obtain ⟨v64, e64, hr⟩ := hq
                  refine wo_step (v := v64) (s_pure (o_ixS rfl rfl e64)) ?_
                  have hq := bindO_inv hr
                  clear hr
                  obtain ⟨v65, e65, hr⟩ := hq
                  have hq := asI_inv hr
                  clear hr
                  obtain ⟨x65, rfl, hr⟩ := hq
                  refine wo_step (v := (.i .i64 x65)) (s_ld rfl e65) ?_
                  refine wo_step (v := (.i .i64 x40)) (s_pure (p_mv g13)) ?_
                  have hq := forceB_inv hr
                  clear hr
                  obtain ⟨c67, e67, hr⟩ := hq
                  refine wo_step (v := (.b c67)) (s_pure (p_bin rfl rfl (b_eql.trans (cb e67)))) ?_
                  refine wo_nil ?_
                  refine nx_norm ?_
                  have hq := cond_inv hr
                  clear hr
                  rcases hq with ⟨rfl, hr⟩ | ⟨rfl, hr⟩
                  · refine w_condT rfl ?_
                    refine w_seq ?_
                    refine w_ops ?_
                    refine wo_step (v := (.i .i64 0)) (s_pure (p_mv rfl)) ?_
                    refine wo_step (v := (.i .i64 0)) (s_pure (p_mv rfl)) ?_
                    refine wo_step (v := (.b false)) (s_pure (p_mv rfl)) ?_
                    refine wo_nil ?_
                    refine nx_norm ?_
                    refine w_ret ?_
                    refine bk_ret ?_
                    refine nx_ret ?_
                    cases hr
                    exact ⟨_, _, rfl, ne_norm_ret, rfl, rfl, gl rfl, gl rfl, gl rfl⟩
                  · refine w_condF rfl ?_
                    refine w_skip ?_
                    refine bk_norm ?_
                    refine nx_norm ?_
                    refine w_ops ?_
                    refine wo_step (v := (.i .i64 x18)) (s_pure (p_mv g18)) ?_
                    have hq := forceI_inv hr
                    clear hr
                    obtain ⟨x61, e61, hr⟩ := hq
                    refine wo_step (v := (.i .i64 x61)) (s_pure (p_bin rfl rfl (b_add.trans (ci e61)))) ?_
                    refine wo_step (v := (.i .i64 x61)) (s_pure (p_mv rfl)) ?_
                    refine wo_nil ?_
                    cases hr
                    exact ⟨_, _, rfl, rfl, rfl, gl rfl, gl g0, gl g1, gl g7, gl g8, gl g9, gl g11, gl g12, gl g13, gl g14, gl g15, gl g16⟩
                · refine w_condF rfl ?_
                  refine w_exit ?_
                  refine nx_exit ?_
                  cases hr
                  exact ⟨_, _, rfl, ne_norm_exit, rfl, rfl, gl g0, gl g1, gl g7, gl g8, gl g9, gl g11, gl g12, gl g13, gl g14, gl g15, gl g16⟩
              · rcases o_3 with o_3 | o_3
                · rintro _ mm_4 t_6 ⟨rfl, rfl, g0, g1, g7, g8, g9, g11, g12, g13, g14, g15, g16⟩
                  refine bk_hit ?_
                  refine nx_norm ?_
                  refine w_seq ?_
                  refine w_seq ?_
                  refine w_ops ?_
                  refine wo_step (v := (.i .i64 x12)) (s_pure (p_mv g12)) ?_
                  have hq := forceB_inv hr
                  clear hr
                  obtain ⟨c69, e69, hr⟩ := hq
                  refine wo_step (v := (.b c69)) (s_pure (p_bin rfl rfl (b_eql.trans (cb e69)))) ?_
                  refine wo_nil ?_
                  refine nx_norm ?_
                  have hq := bindO_inv hr
                  clear hr
                  obtain ⟨o_4, hr, hk⟩ := hq
                  refine jp_mono (J := g39_J5 v0 v1 x7 x8 v9 x12 x40 x41 x42 x43 m_2 o_4) ?_ ?_
                  · clear hk
                    have hq := cond_inv hr
                    clear hr
                    rcases hq with ⟨rfl, hr⟩ | ⟨rfl, hr⟩
                    · refine w_condT rfl ?_
                      refine w_ops ?_
                      refine wo_step (v := (.i .i64 x40)) (s_pure (p_mv g13)) ?_
                      refine wo_step (v := (.i .i64 x40)) (s_pure (p_mv rfl)) ?_
                      refine wo_nil ?_
                      cases hr
                      exact ⟨_, _, rfl, rfl, rfl, gl rfl, gl g0, gl g1, gl g7, gl g8, gl g9, gl g12, gl g13, gl g14, gl g15, gl g16⟩
                    · refine w_condF rfl ?_
                      refine w_skip ?_
                      cases hr
                      exact ⟨_, _, rfl, rfl, rfl, gl g11, gl g0, gl g1, gl g7, gl g8, gl g9, gl g12, gl g13, gl g14, gl g15, gl g16⟩
                  · have hr := hk
                    clear hk
                    obtain ⟨x11_1, ho⟩ : ∃ z, z = o_4 := ⟨_, rfl⟩
                    subst ho
                    rintro _ mm_3 t_7 ⟨rfl, rfl, g11, g0, g1, g7, g8, g9, g12, g13, g14, g15, g16⟩
                    refine nx_norm ?_
                    refine w_seq ?_
                    refine w_ops ?_
                    refine wo_step (v := v9) (s_pure (p_mv g9)) ?_
                    refine wo_step (v := (.i .i64 x40)) (s_pure (p_mv g13)) ?_
                    have hq := bindP_inv hr
                    clear hr
                    obtain ⟨v73, m_3, e73, hr⟩ := hq
                    refine wo_step (v := v73) (s_bsl (qc rfl qn) e73) ?_
                    have hq := bindP_inv hr
                    clear hr
                    obtain ⟨v74, m_4, e74, hr⟩ := hq
                    refine wo_step (v := v74) (s_app rfl rfl e74) ?_
                    refine wo_step (v := v74) (s_pure (p_mv rfl)) ?_
                    refine wo_nil ?_
                    refine nx_norm ?_
                    refine w_seq ?_
                    refine w_ops ?_
                    refine wo_step (v := (.i .i64 x41)) (s_pure (p_mv g14)) ?_
                    refine wo_step (v := (.i .i64 x41)) (s_pure (p_mv rfl)) ?_
                    refine wo_nil ?_
                    refine nx_norm ?_
                    refine w_seq ?_
                    refine w_ops ?_
                    refine wo_step (v := (.i .i64 x7)) (s_pure (p_mv g7)) ?_
                    refine wo_step (v := (.i .i64 x42)) (s_pure (p_mv g15)) ?_
                    have hq := forceI_inv hr
                    clear hr
                    obtain ⟨x78, e78, hr⟩ := hq
                    refine wo_step (v := (.i .i64 x78)) (s_pure (p_bin rfl rfl (b_add.trans (ci e78)))) ?_
                    refine wo_step (v := (.i .i64 x78)) (s_pure (p_mv rfl)) ?_
                    refine wo_nil ?_
                    refine nx_norm ?_
                    refine w_ops ?_
                    refine wo_step (v := (.i .i64 x8)) (s_pure (p_mv g8)) ?_
                    refine wo_step (v := (.i .i64 x43)) (s_pure (p_mv g16)) ?_
                    have hq := forceI_inv hr
                    clear hr
                    obtain ⟨x81, e81, hr⟩ := hq
                    refine wo_step (v := (.i .i64 x81)) (s_pure (p_bin rfl rfl (b_add.trans (ci e81)))) ?_
                    refine wo_step (v := (.i .i64 x81)) (s_pure (p_mv rfl)) ?_
                    refine wo_nil ?_
                    refine bk_norm ?_
                    refine nx_norm ?_
                    refine w_ops ?_
                    refine wo_step (v := (.i .i64 x12)) (s_pure (p_mv g12)) ?_
                    have hq := forceI_inv hr
                    clear hr
                    obtain ⟨x32, e32, hr⟩ := hq
                    refine wo_step (v := (.i .i64 x32)) (s_pure (p_bin rfl rfl (b_add.trans (ci e32)))) ?_
                    refine wo_step (v := (.i .i64 x32)) (s_pure (p_mv rfl)) ?_
                    refine wo_nil ?_
                    cases hr
                    exact ⟨_, _, rfl, rfl, rfl, gl rfl, gl rfl, gl rfl, gl rfl, gl g11, gl rfl, gl g0, gl g1⟩
                · obtain ⟨x4, x5, c6⟩ := o_3
                  rintro _ mm_5 t_8 ⟨rfl, rfl, g4, g5, g6⟩
                  refine bk_ret ?_
                  refine nx_ret ?_
                  refine bk_ret ?_
                  refine nx_ret ?_
                  cases hr
                  exact ⟨_, _, rfl, ne_norm_ret, rfl, rfl, gl g4, gl g5, gl g6⟩
        · refine w_condF rfl ?_
          refine w_exit ?_
          refine nx_exit ?_
          cases hr
          exact ⟨_, _, rfl, ne_norm_exit, rfl, rfl, gl g7, gl g8, gl g10, gl g11⟩
      · rcases o_5 with o_5 | o_5
        · obtain ⟨x7_1, x8_1, x10_1, x11_2, m_5⟩ := o_5
          rintro _ mm_7 t_9 ⟨rfl, rfl, g7, g8, g10, g11⟩
          refine bk_hit ?_
          refine nx_norm ?_
          refine w_seq ?_
          refine w_ops ?_
          refine wo_step (v := (.i .i64 x7_1)) (s_pure (p_mv g7)) ?_
          refine wo_step (v := (.i .i64 x8_1)) (s_pure (p_mv g8)) ?_
          refine wo_step (v := (.i .i64 x10_1)) (s_pure (p_mv g10)) ?_
          refine wo_step (v := (.i .i64 x11_2)) (s_pure (p_mv g11)) ?_
          have hq := forceB_inv hr
          clear hr
          obtain ⟨c86, e86, hr⟩ := hq
          refine wo_step (v := (.b c86)) (s_pure (p_bin rfl rfl (b_eql.trans (cb e86)))) ?_
          refine wo_step (v := (.i .i64 x7_1)) (s_pure (p_mv rfl)) ?_
          refine wo_step (v := (.i .i64 x8_1)) (s_pure (p_mv rfl)) ?_
          refine wo_step (v := (.b c86)) (s_pure (p_mv rfl)) ?_
          refine wo_nil ?_
          refine nx_norm ?_
          refine w_ret ?_
          exact qf ret_ok (rt rfl (rt rfl (rt rfl rn))) hr
        · obtain ⟨x4_1, x5_1, c6_1, m_6⟩ := o_5
          rintro _ mm_8 t_10 ⟨rfl, rfl, g4, g5, g6⟩
          refine bk_ret ?_
          refine nx_ret ?_
          exact qf ret_ok (rt g4 (rt g5 (rt g6 rn))) hr

/- dibber/dibberlaw04.floor -/
abbrev g40_J0 (m0 : Mm) (o : Int) (e : AExit) (m1 : Mm) (t1 : Tr) : Prop :=
  match o with
  | y5 => e = .norm ∧ m0 = m1 ∧ t1.get 5 = (.i .i64 y5)
def g40 (M : Means) (ro : List ABlk) (x0 : Int) (x1 : Int) (m0 : Mm) : Option (AVal × Heap × Nat × Nat) :=
  chk (!eqI x1 (.ofNat 0)) <|
  forceI (wr .i64 (Int.tdiv x0 x1)) fun x8 =>
  chk (!eqI x1 (.ofNat 0)) <|
  forceI (Int.tmod x0 x1) fun x11 =>
  forceB (ltI x11 0) fun c12 =>
  bindO (α := Int) (
    cond c12 (
      forceI (wr .i64 (x8 - 1)) fun x14 =>
      some x14) (
      some x8)) fun x5 =>
  finM m0.h.length (tupA [(.i .i64 x5)]) m0

theorem g40_ok {ro : List ABlk} {O : Caller} {M : Means} (hM : M.Ok ⟨F, O⟩ ro) {x0 x1 h r} (ho : O 40 [(.i .i64 x0), (.i .i64 x1)] h = none) (hr : g40 M ro x0 x1 ⟨h, h.length, h.length⟩ = some r) : callX ⟨F, O⟩ ro 40 [(.i .i64 x0), (.i .i64 x1)] h = some r := by
  refine callX_of (F := ⟨F, O⟩) (fn := fn40) (g := g40 M ro x0 x1) ho rfl rfl hr ?_
  clear ho
  clear hr
  intro m0 t0 ht hr
  have g0 : t0.get 0 = (.i .i64 x0) := ht 0
  have g1 : t0.get 1 = (.i .i64 x1) := ht 1
  clear ht
  unfold g40 at hr
  refine w_seq ?_
  refine w_ops ?_
  refine wo_step (v := (.i .i64 0)) (s_pure (p_mv rfl)) ?_
  refine wo_nil ?_
  refine nx_norm ?_
  refine w_seq ?_
  refine w_ops ?_
  refine wo_step (v := (.i .i64 x0)) (s_pure (p_mv g0)) ?_
  refine wo_step (v := (.i .i64 x1)) (s_pure (p_mv g1)) ?_
  have hq := chk_inv hr
  clear hr
  obtain ⟨hc8, hr⟩ := hq
  have hq := forceI_inv hr
  clear hr
  obtain ⟨x8, e8, hr⟩ := hq
  refine wo_step (v := (.i .i64 x8)) (s_pure (p_bin rfl rfl ((b_quo hc8).trans (ci e8)))) ?_
  refine wo_step (v := (.i .i64 x8)) (s_pure (p_mv rfl)) ?_
  refine wo_nil ?_
  refine nx_norm ?_
  refine w_seq ?_
  refine w_seq ?_
  refine w_ops ?_
  refine wo_step (v := (.i .i64 x0)) (s_pure (p_mv g0)) ?_
  refine wo_step (v := (.i .i64 x1)) (s_pure (p_mv g1)) ?_
  have hq := chk_inv hr
  clear hr
  obtain ⟨hc11, hr⟩ := hq
  have hq := forceI_inv hr
  clear hr
  obtain ⟨x11, e11, hr⟩ := hq
  refine wo_step (v := (.i .i64 x11)) (s_pure (p_bin rfl rfl ((b_rem hc11).trans (ci e11)))) ?_
  have hq := forceB_inv hr
  clear hr
  obtain ⟨c12, e12, hr⟩ := hq
  refine wo_step (v := (.b c12)) (s_pure (p_bin rfl rfl (b_lss.trans (cb e12)))) ?_
  refine wo_nil ?_
  refine nx_norm ?_
  have hq := bindO_inv hr
  clear hr
  obtain ⟨o, hr, hk⟩ := hq
  refine jp_mono (J := g40_J0 m0 o) ?_ ?_
  · clear hk
    have hq := cond_inv hr
    clear hr
    rcases hq with ⟨rfl, hr⟩ | ⟨rfl, hr⟩
    · refine w_condT rfl ?_
      refine w_ops ?_
      refine wo_step (v := (.i .i64 x8)) (s_pure (p_mv rfl)) ?_
      have hq := forceI_inv hr
      clear hr
      obtain ⟨x14, e14, hr⟩ := hq
      refine wo_step (v := (.i .i64 x14)) (s_pure (p_bin rfl rfl (b_sub.trans (ci e14)))) ?_
      refine wo_step (v := (.i .i64 x14)) (s_pure (p_mv rfl)) ?_
      refine wo_nil ?_
      cases hr
      exact ⟨_, _, rfl, rfl, rfl, gl rfl⟩
    · refine w_condF rfl ?_
      refine w_skip ?_
      cases hr
      exact ⟨_, _, rfl, rfl, rfl, gl rfl⟩
  · have hr := hk
    clear hk
    obtain ⟨x5, ho⟩ : ∃ z, z = o := ⟨_, rfl⟩
    subst ho
    rintro _ mm t_1 ⟨rfl, rfl, g5⟩
    refine nx_norm ?_
    refine w_seq ?_
    refine w_ops ?_
    refine wo_step (v := (.i .i64 x5)) (s_pure (p_mv g5)) ?_
    refine wo_step (v := (.i .i64 x5)) (s_pure (p_mv rfl)) ?_
    refine wo_nil ?_
    refine nx_norm ?_
    refine w_ret ?_
    exact qf ret_ok (rt rfl rn) hr

/- dibber/turn.read -/
abbrev g43_J0 (x0 : Int) (x1 : Int) (v2 : AVal) (v6 : AVal) (m_1 : Mm) (o : Bool) (m1 : Mm) (t1 : Tr) : Prop :=
  match o with
  | c16 => m_1 = m1 ∧ t1.get 16 = (.b c16) ∧ t1.get 0 = (.i .i64 x0) ∧ t1.get 1 = (.i .i64 x1) ∧ t1.get 2 = v2 ∧ t1.get 6 = v6
abbrev g43_J1 (x0 : Int) (x1 : Int) (v2 : AVal) (v6 : AVal) (m_1 : Mm) (o : Bool) (m1 : Mm) (t1 : Tr) : Prop :=
  match o with
  | c20 => m_1 = m1 ∧ t1.get 20 = (.b c20) ∧ t1.get 0 = (.i .i64 x0) ∧ t1.get 1 = (.i .i64 x1) ∧ t1.get 2 = v2 ∧ t1.get 6 = v6
abbrev g43_J2 (x0 : Int) (x1 : Int) (v2 : AVal) (v6 : AVal) (m_1 : Mm) (o : Bool) (m1 : Mm) (t1 : Tr) : Prop :=
  match o with
  | c24 => m_1 = m1 ∧ t1.get 24 = (.b c24) ∧ t1.get 0 = (.i .i64 x0) ∧ t1.get 1 = (.i .i64 x1) ∧ t1.get 2 = v2 ∧ t1.get 6 = v6
abbrev g43_I3 (v6 : AVal) (v8 : AVal) (v2 : AVal) (x35 : Int) (s : Int × Mm) (m1 : Mm) (t1 : Tr) : Prop :=
  match s with
  | (x36, m_6) => m_6 = m1 ∧ t1.get 36 = (.i .i64 x36) ∧ t1.get 6 = v6 ∧ t1.get 8 = v8 ∧ t1.get 34 = v2 ∧ t1.get 35 = (.i .i64 x35)
abbrev g43_J3 (v6 : AVal) (v8 : AVal) (v2 : AVal) (x35 : Int) (o : (Mm ⊕ (Int × Mm))) (e : AExit) (m1 : Mm) (t1 : Tr) : Prop :=
  match o with
  | (.inl mo) => e = (.exit 0) ∧ mo = m1 ∧ t1.get 6 = v6 ∧ t1.get 8 = v8
  | (.inr (y7, mo)) => e = .ret ∧ mo = m1 ∧ t1.get 7 = (.i .i64 y7) ∧ t1.get 6 = v6
def g43_b3 (M : Means) (ro : List ABlk) (v6 : AVal) (v8 : AVal) (v2 : AVal) (x35 : Int) (x36 : Int) (m_6 : Mm) : Option ((Int × Mm) ⊕ ((Mm ⊕ (Int × Mm)))) :=
  forceB (ltI x36 x35) fun c37 =>
  cond c37 (
    bindO (evP .e (.ixS 4 (.c v2) (.c (.i .i64 x36)))) fun v38 =>
    bindO (ldM ro m_6 false 4 v38) fun v39 =>
    bindP (stepM ro m_6 (.al 31 [(AVal.i IntKind.i64 0), (AVal.i IntKind.i64 0), (AVal.i IntKind.i64 0), (AVal.i IntKind.i64 0)])) fun v10 m_7 =>
    bindP (stepM ro m_7 (.st 4 (.c v10) (.c v39))) fun vn_3 m_8 =>
    bindO (ldM ro m_8 false 3 v8) fun v40 =>
    bindO (ldM ro m_8 false 4 v10) fun v41 =>
    bindP (callM M.call m_8 60 [v40, v41]) fun v42 m_9 =>
    asB v42 fun c42 =>
    forceB (!c42) fun c43 =>
    cond c43 (
      bindO ((fillA [(AVal.i IntKind.i64 0), (AVal.i IntKind.i64 0), AVal.nsl] []).map AVal.agg) fun v44 =>
      bindP (stepM ro m_9 (.st 3 (.c v6) (.c v44))) fun vn_4 m_10 =>
      some (.inr (.inr (2, m_10)))) (
      forceI (wr .i64 (x36 + 1)) fun x45 =>
      some (.inl (x45, m_9)))) (
    some (.inr (.inl m_6)))
def g43 (M : Means) (ro : List ABlk) (x0 : Int) (x1 : Int) (v2 : AVal) (m0 : Mm) : Option (AVal × Heap × Nat × Nat) :=
  bindP (stepM ro m0 (.al 55 [(AVal.i IntKind.i64 0), (AVal.i IntKind.i64 0), AVal.nsl])) fun v6 m_1 =>
  forceB (ltI x0 1) fun c12 =>
  bindO (cond c12 (
    some true) (
    forceB (ltI 24 x0) fun c15 =>
    some c15)) fun c16 =>
  bindO (cond c16 (
    some true) (
    forceB (ltI x1 1) fun c19 =>
    some c19)) fun c20 =>
  bindO (cond c20 (
    some true) (
    forceB (ltI 6 x1) fun c23 =>
    some c23)) fun c24 =>
  cond c24 (
    bindO ((fillA [(AVal.i IntKind.i64 0), (AVal.i IntKind.i64 0), AVal.nsl] []).map AVal.agg) fun v25 =>
    bindP (stepM ro m_1 (.st 3 (.c v6) (.c v25))) fun vn m_2 =>
    bindO (ldM ro m_2 false 3 v6) fun vr =>
    finM m0.h.length (tupA [vr, (.i .i64 2)]) m_2) (
    bindO (evP .e (.len false (.c v2))) fun v27 =>
    asI .i64 v27 fun x27 =>
    forceB (ltI 20 x27) fun c28 =>
    cond c28 (
      bindO ((fillA [(AVal.i IntKind.i64 0), (AVal.i IntKind.i64 0), AVal.nsl] []).map AVal.agg) fun v29 =>
      bindP (stepM ro m_1 (.st 3 (.c v6) (.c v29))) fun vn_1 m_3 =>
      bindO (ldM ro m_3 false 3 v6) fun vr_1 =>
      finM m0.h.length (tupA [vr_1, (.i .i64 3)]) m_3) (
      bindO ((fillA [(AVal.i IntKind.i64 0), (AVal.i IntKind.i64 0), AVal.nsl] [((0, 1), (.i .i64 x0)), ((1, 1), (.i .i64 x1)), ((2, 1), v2)]).map AVal.agg) fun v33 =>
      bindP (stepM ro m_1 (.al 55 [(AVal.i IntKind.i64 0), (AVal.i IntKind.i64 0), AVal.nsl])) fun v8 m_4 =>
      bindP (stepM ro m_4 (.st 3 (.c v8) (.c v33))) fun vn_2 m_5 =>
      bindO (evP .e (.len false (.c v2))) fun v35 =>
      asI .i64 v35 fun x35 =>
      bindO (M.loop (S := Int × Mm) (R := (Mm ⊕ (Int × Mm))) (fun s => g43_b3 M ro v6 v8 v2 x35 s.1 s.2) (0, m_5)) fun o_3 => match o_3 with
      | (.inl m_11) =>
        bindO (ldM ro m_11 false 3 v8) fun v46 =>
        bindP (stepM ro m_11 (.st 3 (.c v6) (.c v46))) fun vn_5 m_12 =>
        bindO (ldM ro m_12 false 3 v6) fun vr_2 =>
        finM m0.h.length (tupA [vr_2, (.i .i64 0)]) m_12
      | (.inr (x7, m_13)) =>
        bindO (ldM ro m_13 false 3 v6) fun vr_3 =>
        finM m0.h.length (tupA [vr_3, (.i .i64 x7)]) m_13))

theorem g43_ok {ro : List ABlk} {O : Caller} {M : Means} (hM : M.Ok ⟨F, O⟩ ro) {x0 x1 v2 h r} (ho : O 43 [(.i .i64 x0), (.i .i64 x1), v2] h = none) (hr : g43 M ro x0 x1 v2 ⟨h, h.length, h.length⟩ = some r) : callX ⟨F, O⟩ ro 43 [(.i .i64 x0), (.i .i64 x1), v2] h = some r := by
  refine callX_of (F := ⟨F, O⟩) (fn := fn43) (g := g43 M ro x0 x1 v2) ho rfl rfl hr ?_
  clear ho
  clear hr
  intro m0 t0 ht hr
  have g0 : t0.get 0 = (.i .i64 x0) := ht 0
  have g1 : t0.get 1 = (.i .i64 x1) := ht 1
  have g2 : t0.get 2 = v2 := ht 2
  clear ht
  unfold g43 at hr
  refine w_seq ?_
  refine w_ops ?_
  have hq := bindP_inv hr
  clear hr
  obtain ⟨v6, m_1, e6, hr⟩ := hq
  refine wo_step (v := v6) (s_al e6) ?_
  refine wo_step (v := (.i .i64 0)) (s_pure (p_mv rfl)) ?_
  refine wo_nil ?_
  refine nx_norm ?_
  refine w_seq ?_
  refine w_seq ?_
  refine w_ops ?_
  refine wo_step (v := (.i .i64 x0)) (s_pure (p_mv g0)) ?_
  have hq := forceB_inv hr
  clear hr
  obtain ⟨c12, e12, hr⟩ := hq
  refine wo_step (v := (.b c12)) (s_pure (p_bin rfl rfl (b_lss.trans (cb e12)))) ?_
  refine wo_step (v := (.b c12)) (s_pure (p_mv rfl)) ?_
  have hq := bindO_inv hr
  clear hr
  obtain ⟨o, hr, hk⟩ := hq
  refine wo_join 3 (g43_J0 x0 x1 v2 v6 m_1 o) ?_ ?_
  · clear hk
    have hq := cond_inv hr
    clear hr
    rcases hq with ⟨rfl, hr⟩ | ⟨rfl, hr⟩
    · refine wo_skip (v := (.b true)) rfl rfl ?_
      refine wo_skip (v := (.b true)) rfl rfl ?_
      refine wo_step (v := (.b true)) (s_pure (p_pickT rfl rfl)) ?_
      refine wo_nil ?_
      cases hr
      exact ⟨_, _, rfl, rfl, gl rfl, gl g0, gl g1, gl g2, gl rfl⟩
    · refine wo_take (v := (.i .i64 x0)) rfl (s_pure (p_mv g0)) ?_
      have hq := forceB_inv hr
      clear hr
      obtain ⟨c15, e15, hr⟩ := hq
      refine wo_take (v := (.b c15)) rfl (s_pure (p_bin rfl rfl (b_gtr.trans (cb e15)))) ?_
      refine wo_step (v := (.b c15)) (s_pure (p_pickF rfl rfl)) ?_
      refine wo_nil ?_
      cases hr
      exact ⟨_, _, rfl, rfl, gl rfl, gl g0, gl g1, gl g2, gl rfl⟩
  · clear hr
    have hr := hk
    clear hk
    obtain ⟨c16, ho⟩ : ∃ z, z = o := ⟨_, rfl⟩
    subst ho
    rintro mm t_1 ⟨rfl, g16, g0, g1, g2, g6⟩
    refine wo_step (v := (.b c16)) (s_pure (p_mv g16)) ?_
    have hq := bindO_inv hr
    clear hr
    obtain ⟨o_1, hr, hk⟩ := hq
    refine wo_join 3 (g43_J1 x0 x1 v2 v6 m_1 o_1) ?_ ?_
    · clear hk
      have hq := cond_inv hr
      clear hr
      rcases hq with ⟨rfl, hr⟩ | ⟨rfl, hr⟩
      · refine wo_skip (v := (.b true)) rfl rfl ?_
        refine wo_skip (v := (.b true)) rfl rfl ?_
        refine wo_step (v := (.b true)) (s_pure (p_pickT rfl rfl)) ?_
        refine wo_nil ?_
        cases hr
        exact ⟨_, _, rfl, rfl, gl rfl, gl g0, gl g1, gl g2, gl g6⟩
      · refine wo_take (v := (.i .i64 x1)) rfl (s_pure (p_mv g1)) ?_
        have hq := forceB_inv hr
        clear hr
        obtain ⟨c19, e19, hr⟩ := hq
        refine wo_take (v := (.b c19)) rfl (s_pure (p_bin rfl rfl (b_lss.trans (cb e19)))) ?_
        refine wo_step (v := (.b c19)) (s_pure (p_pickF rfl rfl)) ?_
        refine wo_nil ?_
        cases hr
        exact ⟨_, _, rfl, rfl, gl rfl, gl g0, gl g1, gl g2, gl g6⟩
    · clear hr
      have hr := hk
      clear hk
      obtain ⟨c20, ho⟩ : ∃ z, z = o_1 := ⟨_, rfl⟩
      subst ho
      rintro mm_1 t_2 ⟨rfl, g20, g0, g1, g2, g6⟩
      refine wo_step (v := (.b c20)) (s_pure (p_mv g20)) ?_
      have hq := bindO_inv hr
      clear hr
      obtain ⟨o_2, hr, hk⟩ := hq
      refine wo_join 3 (g43_J2 x0 x1 v2 v6 m_1 o_2) ?_ ?_
      · clear hk
        have hq := cond_inv hr
        clear hr
        rcases hq with ⟨rfl, hr⟩ | ⟨rfl, hr⟩
        · refine wo_skip (v := (.b true)) rfl rfl ?_
          refine wo_skip (v := (.b true)) rfl rfl ?_
          refine wo_step (v := (.b true)) (s_pure (p_pickT rfl rfl)) ?_
          refine wo_nil ?_
          cases hr
          exact ⟨_, _, rfl, rfl, gl rfl, gl g0, gl g1, gl g2, gl g6⟩
        · refine wo_take (v := (.i .i64 x1)) rfl (s_pure (p_mv g1)) ?_
          have hq := forceB_inv hr
          clear hr
          obtain ⟨c23, e23, hr⟩ := hq
          refine wo_take (v := (.b c23)) rfl (s_pure (p_bin rfl rfl (b_gtr.trans (cb e23)))) ?_
          refine wo_step (v := (.b c23)) (s_pure (p_pickF rfl rfl)) ?_
          refine wo_nil ?_
          cases hr
          exact ⟨_, _, rfl, rfl, gl rfl, gl g0, gl g1, gl g2, gl g6⟩
      · clear hr
        have hr := hk
        clear hk
        obtain ⟨c24, ho⟩ : ∃ z, z = o_2 := ⟨_, rfl⟩
        subst ho
        rintro mm_2 t_3 ⟨rfl, g24, g0, g1, g2, g6⟩
        refine wo_nil ?_
        refine nx_norm ?_
        have hq := cond_inv hr
        clear hr
        rcases hq with ⟨rfl, hr⟩ | ⟨rfl, hr⟩
        · refine w_condT g24 ?_
          refine w_seq ?_
          refine w_ops ?_
          have hq := bindO_inv hr
          clear hr
          obtain ⟨v25, e25, hr⟩ := hq
          refine wo_step (v := v25) (s_pure (o_build qn e25)) ?_
          have hq := bindP_inv hr
          clear hr
          obtain ⟨vn, m_2, en, hr⟩ := hq
          refine wo_stepN (s_st g6 rfl en) ?_
          refine wo_step (v := (.i .i64 2)) (s_pure (p_mv rfl)) ?_
          refine wo_nil ?_
          refine nx_norm ?_
          refine w_ret ?_
          refine nx_ret ?_
          have hq := bindO_inv hr
          clear hr
          obtain ⟨vr, er, hr⟩ := hq
          exact qf ret_ok (rc g6 er (rt rfl rn)) hr
        · refine w_condF g24 ?_
          refine w_skip ?_
          refine nx_norm ?_
          refine w_seq ?_
          refine w_seq ?_
          refine w_ops ?_
          refine wo_step (v := v2) (s_pure (p_mv g2)) ?_
          have hq := bindO_inv hr
          clear hr
          obtain ⟨v27, e27, hr⟩ := hq
          have hq := asI_inv hr
          clear hr
          obtain ⟨x27, rfl, hr⟩ := hq
          refine wo_step (v := (.i .i64 x27)) (s_pure (o_len rfl e27)) ?_
          have hq := forceB_inv hr
          clear hr
          obtain ⟨c28, e28, hr⟩ := hq
          refine wo_step (v := (.b c28)) (s_pure (p_bin rfl rfl (b_gtr.trans (cb e28)))) ?_
          refine wo_nil ?_
          refine nx_norm ?_
          have hq := cond_inv hr
          clear hr
          rcases hq with ⟨rfl, hr⟩ | ⟨rfl, hr⟩
          · refine w_condT rfl ?_
            refine w_seq ?_
            refine w_ops ?_
            have hq := bindO_inv hr
            clear hr
            obtain ⟨v29, e29, hr⟩ := hq
            refine wo_step (v := v29) (s_pure (o_build qn e29)) ?_
            have hq := bindP_inv hr
            clear hr
            obtain ⟨vn_1, m_3, en_1, hr⟩ := hq
            refine wo_stepN (s_st g6 rfl en_1) ?_
            refine wo_step (v := (.i .i64 3)) (s_pure (p_mv rfl)) ?_
            refine wo_nil ?_
            refine nx_norm ?_
            refine w_ret ?_
            refine nx_ret ?_
            have hq := bindO_inv hr
            clear hr
            obtain ⟨vr_1, er_1, hr⟩ := hq
            exact qf ret_ok (rc g6 er_1 (rt rfl rn)) hr
          · refine w_condF rfl ?_
            refine w_skip ?_
            refine nx_norm ?_
            refine w_seq ?_
            refine w_ops ?_
            refine wo_step (v := (.i .i64 x0)) (s_pure (p_mv g0)) ?_
            refine wo_step (v := (.i .i64 x1)) (s_pure (p_mv g1)) ?_
            refine wo_step (v := v2) (s_pure (p_mv g2)) ?_
            have hq := bindO_inv hr
            clear hr
            obtain ⟨v33, e33, hr⟩ := hq
            refine wo_step (v := v33) (s_pure (o_build (qc rfl (qc rfl (qc rfl qn))) e33)) ?_
            have hq := bindP_inv hr
            clear hr
            obtain ⟨v8, m_4, e8, hr⟩ := hq
            refine wo_step (v := v8) (s_al e8) ?_
            have hq := bindP_inv hr
            clear hr
            obtain ⟨vn_2, m_5, en_2, hr⟩ := hq
            refine wo_stepN (s_st rfl rfl en_2) ?_
            refine wo_nil ?_
            refine nx_norm ?_
            refine w_seq ?_
            refine w_seq ?_
            refine w_ops ?_
            refine wo_step (v := v2) (s_pure (p_mv g2)) ?_
            have hq := bindO_inv hr
            clear hr
            obtain ⟨v35, e35, hr⟩ := hq
            have hq := asI_inv hr
            clear hr
            obtain ⟨x35, rfl, hr⟩ := hq
            refine wo_step (v := (.i .i64 x35)) (s_pure (o_len rfl e35)) ?_
            refine wo_step (v := (.i .i64 0)) (s_pure (p_mv rfl)) ?_
            refine wo_nil ?_
            refine nx_norm ?_
            refine w_block ?_
            have hq := bindO_inv hr
            clear hr
            obtain ⟨o_3, hl, hr⟩ := hq
            obtain ⟨n, hl⟩ := hM.loop _ _ _ hl
            refine jp_mono (w_loop _ (g43_I3 v6 v8 v2 x35) (g43_J3 v6 v8 v2 x35) ?_ n _ _ _ _ hl ⟨rfl, gl rfl, gl g6, gl rfl, gl rfl, gl rfl⟩) ?_
            · clear hr hl
              intro s mm_5 t_4 o hi hr
              obtain ⟨x36, m_6⟩ := s
              obtain ⟨rfl, g36, g6, g8, g34, g35⟩ := hi
              unfold g43_b3 at hr
              refine w_seq ?_
              refine w_ops ?_
              have hq := forceB_inv hr
              clear hr
              obtain ⟨c37, e37, hr⟩ := hq
              refine wo_step (v := (.b c37)) (s_pure (p_bin g36 g35 (b_lss.trans (cb e37)))) ?_
              refine wo_nil ?_
              refine nx_norm ?_
              refine w_seq ?_
              have hq := cond_inv hr
              clear hr
              rcases hq with ⟨rfl, hr⟩ | ⟨rfl, hr⟩
              · refine w_condT rfl ?_
                refine w_skip ?_
                refine nx_norm ?_
                refine w_seq ?_
                refine w_block ?_
                refine w_seq ?_
                refine w_ops ?_
                have hq := bindO_inv hr
                clear hr
                obtain ⟨v38, e38, hr⟩ := hq
                refine wo_step (v := v38) (s_pure (o_ixS g34 g36 e38)) ?_
                have hq := bindO_inv hr
                clear hr
                obtain ⟨v39, e39, hr⟩ := hq
                refine wo_step (v := v39) (s_ld rfl e39) ?_
                have hq := bindP_inv hr
                clear hr
                obtain ⟨v10, m_7, e10, hr⟩ := hq
                refine wo_step (v := v10) (s_al e10) ?_
                have hq := bindP_inv hr
                clear hr
                obtain ⟨vn_3, m_8, en_3, hr⟩ := hq
                refine wo_stepN (s_st rfl rfl en_3) ?_
                refine wo_nil ?_
                refine nx_norm ?_
                refine w_seq ?_
                refine w_ops ?_
                have hq := bindO_inv hr
                clear hr
                obtain ⟨v40, e40, hr⟩ := hq
                refine wo_step (v := v40) (s_ld g8 e40) ?_
                have hq := bindO_inv hr
                clear hr
                obtain ⟨v41, e41, hr⟩ := hq
                refine wo_step (v := v41) (s_ld rfl e41) ?_
                have hq := bindP_inv hr
                clear hr
                obtain ⟨v42, m_9, e42, hr⟩ := hq
                have hq := asB_inv hr
                clear hr
                obtain ⟨c42, rfl, hr⟩ := hq
                refine wo_step (v := (.b c42)) (s_call (mc rfl (mc rfl mn)) (callM_le hM.call e42)) ?_
                have hq := forceB_inv hr
                clear hr
                obtain ⟨c43, e43, hr⟩ := hq
                refine wo_step (v := (.b c43)) (s_pure ((p_not rfl).trans (cb e43))) ?_
                refine wo_nil ?_
                refine nx_norm ?_
                have hq := cond_inv hr
                clear hr
                rcases hq with ⟨rfl, hr⟩ | ⟨rfl, hr⟩
                · refine w_condT rfl ?_
                  refine w_seq ?_
                  refine w_ops ?_
                  have hq := bindO_inv hr
                  clear hr
                  obtain ⟨v44, e44, hr⟩ := hq
                  refine wo_step (v := v44) (s_pure (o_build qn e44)) ?_
                  have hq := bindP_inv hr
                  clear hr
                  obtain ⟨vn_4, m_10, en_4, hr⟩ := hq
                  refine wo_stepN (s_st g6 rfl en_4) ?_
                  refine wo_step (v := (.i .i64 2)) (s_pure (p_mv rfl)) ?_
                  refine wo_nil ?_
                  refine nx_norm ?_
                  refine w_ret ?_
                  refine bk_ret ?_
                  refine nx_ret ?_
                  cases hr
                  exact ⟨_, _, rfl, ne_norm_ret, rfl, rfl, gl rfl, gl g6⟩
                · refine w_condF rfl ?_
                  refine w_skip ?_
                  refine bk_norm ?_
                  refine nx_norm ?_
                  refine w_ops ?_
                  have hq := forceI_inv hr
                  clear hr
                  obtain ⟨x45, e45, hr⟩ := hq
                  refine wo_step (v := (.i .i64 x45)) (s_pure (p_bin g36 rfl (b_add.trans (ci e45)))) ?_
                  refine wo_step (v := (.i .i64 x45)) (s_pure (p_mv rfl)) ?_
                  refine wo_nil ?_
                  cases hr
                  exact ⟨_, _, rfl, rfl, rfl, gl rfl, gl g6, gl g8, gl g34, gl g35⟩
              · refine w_condF rfl ?_
                refine w_exit ?_
                refine nx_exit ?_
                cases hr
                exact ⟨_, _, rfl, ne_norm_exit, rfl, rfl, gl g6, gl g8⟩
            · rcases o_3 with o_3 | o_3
              · obtain ⟨m_11, ho⟩ : ∃ z, z = o_3 := ⟨_, rfl⟩
                subst ho
                rintro _ mm_3 t_5 ⟨rfl, rfl, g6, g8⟩
                refine bk_hit ?_
                refine nx_norm ?_
                refine w_seq ?_
                refine w_ops ?_
                have hq := bindO_inv hr
                clear hr
                obtain ⟨v46, e46, hr⟩ := hq
                refine wo_step (v := v46) (s_ld g8 e46) ?_
                have hq := bindP_inv hr
                clear hr
                obtain ⟨vn_5, m_12, en_5, hr⟩ := hq
                refine wo_stepN (s_st g6 rfl en_5) ?_
                refine wo_step (v := (.i .i64 0)) (s_pure (p_mv rfl)) ?_
                refine wo_nil ?_
                refine nx_norm ?_
                refine w_ret ?_
                have hq := bindO_inv hr
                clear hr
                obtain ⟨vr_2, er_2, hr⟩ := hq
                exact qf ret_ok (rc g6 er_2 (rt rfl rn)) hr
              · obtain ⟨x7, m_13⟩ := o_3
                rintro _ mm_4 t_6 ⟨rfl, rfl, g7, g6⟩
                refine bk_ret ?_
                refine nx_ret ?_
                have hq := bindO_inv hr
                clear hr
                obtain ⟨vr_3, er_3, hr⟩ := hq
                exact qf ret_ok (rc g6 er_3 (rt g7 rn)) hr

/- (dibber/turn.demands).slack -/

def g48 (M : Means) (ro : List ABlk) (v0 : AVal) (v1 : AVal) (v2 : AVal) (m0 : Mm) : Option (AVal × Heap × Nat × Nat) :=
  bindP (stepM ro m0 (.bx 55 3 (.c v0))) fun v3 m_1 =>
  bindP (stepM ro m_1 (.bx 31 4 (.c v1))) fun v4 m_2 =>
  bindO (ldA ro m_2.h false 3 v3) fun v7 =>
  bindO (evP .e (.faddr 1 (.c v4))) fun v9 =>
  bindO (ldA ro m_2.h true 1 v9) fun v10 =>
  asI .i64 v10 fun x10 =>
  bindO (evP .e (.ixS 1 (.c v2) (.c (.i .i64 x10)))) fun v11 =>
  bindO (ldA ro m_2.h true 1 v11) fun v12 =>
  asI .i64 v12 fun x12 =>
  bindO (evP .e (.faddr 0 (.c v4))) fun v14 =>
  bindO (ldA ro m_2.h true 1 v14) fun v15 =>
  asI .i64 v15 fun x15 =>
  bindO (evP .e (.ixS 1 (.c v2) (.c (.i .i64 x15)))) fun v16 =>
  bindO (ldA ro m_2.h true 1 v16) fun v17 =>
  asI .i64 v17 fun x17 =>
  forceI (wr .i64 (x12 - x17)) fun x18 =>
  bindO (evP .e (.faddr 2 (.c v4))) fun v19 =>
  bindO (ldA ro m_2.h true 1 v19) fun v20 =>
  asI .i64 v20 fun x20 =>
  forceI (wr .i64 (x18 - x20)) fun x21 =>
  bindO (callN M.call m_2.h 70 [v7, (.i .i64 x21)]) fun v22 =>
  asI .i64 v22 fun x22 =>
  finM m0.h.length (tupA [(.i .i64 x22)]) m_2

theorem g48_ok {ro : List ABlk} {O : Caller} {M : Means} (hM : M.Ok ⟨F, O⟩ ro) {v0 v1 v2 h r} (ho : O 48 [v0, v1, v2] h = none) (hr : g48 M ro v0 v1 v2 ⟨h, h.length, h.length⟩ = some r) : callX ⟨F, O⟩ ro 48 [v0, v1, v2] h = some r := by
  refine callX_of (F := ⟨F, O⟩) (fn := fn48) (g := g48 M ro v0 v1 v2) ho rfl rfl hr ?_
  clear ho
  clear hr
  intro m0 t0 ht hr
  have g0 : t0.get 0 = v0 := ht 0
  have g1 : t0.get 1 = v1 := ht 1
  have g2 : t0.get 2 = v2 := ht 2
  clear ht
  unfold g48 at hr
  refine w_seq ?_
  refine w_ops ?_
  have hq := bindP_inv hr
  clear hr
  obtain ⟨v3, m_1, e3, hr⟩ := hq
  refine wo_step (v := v3) (s_bx g0 e3) ?_
  have hq := bindP_inv hr
  clear hr
  obtain ⟨v4, m_2, e4, hr⟩ := hq
  refine wo_step (v := v4) (s_bx g1 e4) ?_
  refine wo_step (v := (.i .i64 0)) (s_pure (p_mv rfl)) ?_
  refine wo_nil ?_
  refine nx_norm ?_
  refine w_seq ?_
  refine w_any ?_
  have hq := bindO_inv hr
  clear hr
  obtain ⟨v7, e7, hr⟩ := hq
  refine wa_step (v := v7) (a_ld rfl e7) ?_
  refine wa_step (v := v2) (a_pure (p_mv g2)) ?_
  have hq := bindO_inv hr
  clear hr
  obtain ⟨v9, e9, hr⟩ := hq
  refine wa_step (v := v9) (a_pure (o_faddr rfl e9)) ?_
  have hq := bindO_inv hr
  clear hr
  obtain ⟨v10, e10, hr⟩ := hq
  have hq := asI_inv hr
  clear hr
  obtain ⟨x10, rfl, hr⟩ := hq
  refine wa_step (v := (.i .i64 x10)) (a_ld rfl e10) ?_
  have hq := bindO_inv hr
  clear hr
  obtain ⟨v11, e11, hr⟩ := hq
  refine wa_step (v := v11) (a_pure (o_ixS rfl rfl e11)) ?_
  have hq := bindO_inv hr
  clear hr
  obtain ⟨v12, e12, hr⟩ := hq
  have hq := asI_inv hr
  clear hr
  obtain ⟨x12, rfl, hr⟩ := hq
  refine wa_step (v := (.i .i64 x12)) (a_ld rfl e12) ?_
  refine wa_step (v := v2) (a_pure (p_mv g2)) ?_
  have hq := bindO_inv hr
  clear hr
  obtain ⟨v14, e14, hr⟩ := hq
  refine wa_step (v := v14) (a_pure (o_faddr rfl e14)) ?_
  have hq := bindO_inv hr
  clear hr
  obtain ⟨v15, e15, hr⟩ := hq
  have hq := asI_inv hr
  clear hr
  obtain ⟨x15, rfl, hr⟩ := hq
  refine wa_step (v := (.i .i64 x15)) (a_ld rfl e15) ?_
  have hq := bindO_inv hr
  clear hr
  obtain ⟨v16, e16, hr⟩ := hq
  refine wa_step (v := v16) (a_pure (o_ixS rfl rfl e16)) ?_
  have hq := bindO_inv hr
  clear hr
  obtain ⟨v17, e17, hr⟩ := hq
  have hq := asI_inv hr
  clear hr
  obtain ⟨x17, rfl, hr⟩ := hq
  refine wa_step (v := (.i .i64 x17)) (a_ld rfl e17) ?_
  have hq := forceI_inv hr
  clear hr
  obtain ⟨x18, e18, hr⟩ := hq
  refine wa_step (v := (.i .i64 x18)) (a_pure (p_bin rfl rfl (b_sub.trans (ci e18)))) ?_
  have hq := bindO_inv hr
  clear hr
  obtain ⟨v19, e19, hr⟩ := hq
  refine wa_step (v := v19) (a_pure (o_faddr rfl e19)) ?_
  have hq := bindO_inv hr
  clear hr
  obtain ⟨v20, e20, hr⟩ := hq
  have hq := asI_inv hr
  clear hr
  obtain ⟨x20, rfl, hr⟩ := hq
  refine wa_step (v := (.i .i64 x20)) (a_ld rfl e20) ?_
  have hq := forceI_inv hr
  clear hr
  obtain ⟨x21, e21, hr⟩ := hq
  refine wa_step (v := (.i .i64 x21)) (a_pure (p_bin rfl rfl (b_sub.trans (ci e21)))) ?_
  have hq := bindO_inv hr
  clear hr
  obtain ⟨v22, e22, hr⟩ := hq
  have hq := asI_inv hr
  clear hr
  obtain ⟨x22, rfl, hr⟩ := hq
  refine wa_step (v := (.i .i64 x22)) (a_call (mc rfl (mc rfl mn)) (callN_le hM.call e22)) ?_
  refine wa_step (v := (.i .i64 x22)) (a_pure (p_mv rfl)) ?_
  refine wa_nil ?_
  refine ⟨m_2, rfl, ?_⟩
  refine nx_norm ?_
  refine w_ret ?_
  exact qf ret_ok (rt rfl rn) hr

/- (dibber/turn.demands).isPlan -/
abbrev g50_J0 (v1 : AVal) (v2 : AVal) (m_2 : Mm) (o : Bool) (m1 : Mm) (t1 : Tr) : Prop :=
  match o with
  | c16 => m_2 = m1 ∧ t1.get 16 = (.b c16) ∧ t1.get 1 = v1 ∧ t1.get 2 = v2
abbrev g50_I1 (v1 : AVal) (v2 : AVal) (v18 : AVal) (x19 : Int) (s : Int × Mm) (m1 : Mm) (t1 : Tr) : Prop :=
  match s with
  | (x20, m_3) => m_3 = m1 ∧ t1.get 20 = (.i .i64 x20) ∧ t1.get 1 = v1 ∧ t1.get 2 = v2 ∧ t1.get 18 = v18 ∧ t1.get 19 = (.i .i64 x19)
abbrev g50_J1 (v1 : AVal) (v2 : AVal) (v18 : AVal) (x19 : Int) (o : (Mm ⊕ (Bool × Mm))) (e : AExit) (m1 : Mm) (t1 : Tr) : Prop :=
  match o with
  | (.inl mo) => e = (.exit 0) ∧ mo = m1
  | (.inr (y4, mo)) => e = .ret ∧ mo = m1 ∧ t1.get 4 = (.b y4)
def g50_b1 (M : Means) (ro : List ABlk) (v1 : AVal) (v2 : AVal) (v18 : AVal) (x19 : Int) (x20 : Int) (m_3 : Mm) : Option ((Int × Mm) ⊕ ((Mm ⊕ (Bool × Mm)))) :=
  forceB (ltI x20 x19) fun c21 =>
  cond c21 (
    bindO (evP .e (.ixS 4 (.c v18) (.c (.i .i64 x20)))) fun v22 =>
    bindO (ldM ro m_3 false 4 v22) fun v23 =>
    bindP (stepM ro m_3 (.al 31 [(AVal.i IntKind.i64 0), (AVal.i IntKind.i64 0), (AVal.i IntKind.i64 0), (AVal.i IntKind.i64 0)])) fun v6 m_4 =>
    bindP (stepM ro m_4 (.st 4 (.c v6) (.c v23))) fun vn m_5 =>
    bindO (ldA ro m_5.h false 3 v2) fun v24 =>
    bindO (ldA ro m_5.h false 4 v6) fun v25 =>
    bindO (callN M.call m_5.h 48 [v24, v25, v1]) fun v27 =>
    asI .i64 v27 fun x27 =>
    bindO (evP .e (.faddr 3 (.c v6))) fun v28 =>
    bindO (ldA ro m_5.h true 1 v28) fun v29 =>
    asI .i64 v29 fun x29 =>
    bindO (evP .e (.faddr 2 (.c v6))) fun v30 =>
    bindO (ldA ro m_5.h true 1 v30) fun v31 =>
    asI .i64 v31 fun x31 =>
    forceI (wr .i64 (x29 - x31)) fun x32 =>
    forceB (ltI x32 x27) fun c33 =>
    cond c33 (
      some (.inr (.inr (false, m_5)))) (
      forceI (wr .i64 (x20 + 1)) fun x34 =>
      some (.inl (x34, m_5)))) (
    some (.inr (.inl m_3)))
def g50 (M : Means) (ro : List ABlk) (v0 : AVal) (v1 : AVal) (m0 : Mm) : Option (AVal × Heap × Nat × Nat) :=
  bindP (stepM ro m0 (.bx 55 3 (.c v0))) fun v2 m_1 =>
  bindO (ldM ro m_1 false 3 v2) fun v7 =>
  bindP (callM M.call m_1 52 [v7, v1]) fun v9 m_2 =>
  asB v9 fun c9 =>
  forceB (!c9) fun c10 =>
  bindO (cond c10 (
    some true) (
    bindO (evP .e (.ixS 1 (.c v1) (.c (.i .i64 0)))) fun v13 =>
    bindO (ldM ro m_2 true 1 v13) fun v14 =>
    asI .i64 v14 fun x14 =>
    forceB (!eqI x14 0) fun c15 =>
    some c15)) fun c16 =>
  cond c16 (
    finM m0.h.length (tupA [(.b false)]) m_2) (
    bindO (evP .e (.faddr 2 (.c v2))) fun v17 =>
    bindO (ldM ro m_2 true 1 v17) fun v18 =>
    bindO (evP .e (.len false (.c v18))) fun v19 =>
    asI .i64 v19 fun x19 =>
    bindO (M.loop (S := Int × Mm) (R := (Mm ⊕ (Bool × Mm))) (fun s => g50_b1 M ro v1 v2 v18 x19 s.1 s.2) (0, m_2)) fun o_1 => match o_1 with
    | (.inl m_6) =>
      finM m0.h.length (tupA [(.b true)]) m_6
    | (.inr (c4, m_7)) =>
      finM m0.h.length (tupA [(.b c4)]) m_7)

theorem g50_ok {ro : List ABlk} {O : Caller} {M : Means} (hM : M.Ok ⟨F, O⟩ ro) {v0 v1 h r} (ho : O 50 [v0, v1] h = none) (hr : g50 M ro v0 v1 ⟨h, h.length, h.length⟩ = some r) : callX ⟨F, O⟩ ro 50 [v0, v1] h = some r := by
  refine callX_of (F := ⟨F, O⟩) (fn := fn50) (g := g50 M ro v0 v1) ho rfl rfl hr ?_
  clear ho
  clear hr
  intro m0 t0 ht hr
  have g0 : t0.get 0 = v0 := ht 0
  have g1 : t0.get 1 = v1 := ht 1
  clear ht
  unfold g50 at hr
  refine w_seq ?_
  refine w_ops ?_
  have hq := bindP_inv hr
  clear hr
  obtain ⟨v2, m_1, e2, hr⟩ := hq
  refine wo_step (v := v2) (s_bx g0 e2) ?_
  refine wo_step (v := (.b false)) (s_pure (p_mv rfl)) ?_
  refine wo_nil ?_
  refine nx_norm ?_
  refine w_seq ?_
  refine w_seq ?_
  refine w_ops ?_
  have hq := bindO_inv hr
  clear hr
  obtain ⟨v7, e7, hr⟩ := hq
  refine wo_step (v := v7) (s_ld rfl e7) ?_
  refine wo_step (v := v1) (s_pure (p_mv g1)) ?_
  have hq := bindP_inv hr
  clear hr
  obtain ⟨v9, m_2, e9, hr⟩ := hq
  have hq := asB_inv hr
  clear hr
  obtain ⟨c9, rfl, hr⟩ := hq
  refine wo_step (v := (.b c9)) (s_call (mc rfl (mc rfl mn)) (callM_le hM.call e9)) ?_
  have hq := forceB_inv hr
  clear hr
  obtain ⟨c10, e10, hr⟩ := hq
  refine wo_step (v := (.b c10)) (s_pure ((p_not rfl).trans (cb e10))) ?_
  refine wo_step (v := (.b c10)) (s_pure (p_mv rfl)) ?_
  have hq := bindO_inv hr
  clear hr
  obtain ⟨o, hr, hk⟩ := hq
  refine wo_join 5 (g50_J0 v1 v2 m_2 o) ?_ ?_
  · clear hk
    have hq := cond_inv hr
    clear hr
    rcases hq with ⟨rfl, hr⟩ | ⟨rfl, hr⟩
    · refine wo_skip (v := (.b true)) rfl rfl ?_
      refine wo_skip (v := (.b true)) rfl rfl ?_
      refine wo_skip (v := (.b true)) rfl rfl ?_
      refine wo_skip (v := (.b true)) rfl rfl ?_
      refine wo_step (v := (.b true)) (s_pure (p_pickT rfl rfl)) ?_
      refine wo_nil ?_
      cases hr
      exact ⟨_, _, rfl, rfl, gl rfl, gl g1, gl rfl⟩
    · refine wo_take (v := v1) rfl (s_pure (p_mv g1)) ?_
      have hq := bindO_inv hr
      clear hr
      obtain ⟨v13, e13, hr⟩ := hq
      refine wo_take (v := v13) rfl (s_pure (o_ixS rfl rfl e13)) ?_
      have hq := bindO_inv hr
      clear hr
      obtain ⟨v14, e14, hr⟩ := hq
      have hq := asI_inv hr
      clear hr
      obtain ⟨x14, rfl, hr⟩ := hq
      refine wo_take (v := (.i .i64 x14)) rfl (s_ld rfl e14) ?_
      have hq := forceB_inv hr
      clear hr
      obtain ⟨c15, e15, hr⟩ := hq
      refine wo_take (v := (.b c15)) rfl (s_pure (p_bin rfl rfl (b_neq.trans (cb e15)))) ?_
      refine wo_step (v := (.b c15)) (s_pure (p_pickF rfl rfl)) ?_
      refine wo_nil ?_
      cases hr
      exact ⟨_, _, rfl, rfl, gl rfl, gl g1, gl rfl⟩
  · clear hr
    have hr := hk
    clear hk
    obtain ⟨c16, ho⟩ : ∃ z, z = o := ⟨_, rfl⟩
    subst ho
    rintro mm t_1 ⟨rfl, g16, g1, g2⟩
    refine wo_nil ?_
    refine nx_norm ?_
    have hq := cond_inv hr
    clear hr
    rcases hq with ⟨rfl, hr⟩ | ⟨rfl, hr⟩
    · refine w_condT g16 ?_
      refine w_seq ?_
      refine w_ops ?_
      refine wo_step (v := (.b false)) (s_pure (p_mv rfl)) ?_
      refine wo_nil ?_
      refine nx_norm ?_
      refine w_ret ?_
      refine nx_ret ?_
      exact qf ret_ok (rt rfl rn) hr
    · refine w_condF g16 ?_
      refine w_skip ?_
      refine nx_norm ?_
      refine w_seq ?_
      refine w_seq ?_
      refine w_ops ?_
      have hq := bindO_inv hr
      clear hr
      obtain ⟨v17, e17, hr⟩ := hq
      refine wo_step (v := v17) (s_pure (o_faddr g2 e17)) ?_
      have hq := bindO_inv hr
      clear hr
      obtain ⟨v18, e18, hr⟩ := hq
      refine wo_step (v := v18) (s_ld rfl e18) ?_
      have hq := bindO_inv hr
      clear hr
      obtain ⟨v19, e19, hr⟩ := hq
      have hq := asI_inv hr
      clear hr
      obtain ⟨x19, rfl, hr⟩ := hq
      refine wo_step (v := (.i .i64 x19)) (s_pure (o_len rfl e19)) ?_
      refine wo_step (v := (.i .i64 0)) (s_pure (p_mv rfl)) ?_
      refine wo_nil ?_
      refine nx_norm ?_
      refine w_block ?_
      have hq := bindO_inv hr
      clear hr
      obtain ⟨o_1, hl, hr⟩ := hq
      obtain ⟨n, hl⟩ := hM.loop _ _ _ hl
      refine jp_mono (w_loop _ (g50_I1 v1 v2 v18 x19) (g50_J1 v1 v2 v18 x19) ?_ n _ _ _ _ hl ⟨rfl, gl rfl, gl g1, gl g2, gl rfl, gl rfl⟩) ?_
      · clear hr hl
        intro s mm_3 t_2 o hi hr
        obtain ⟨x20, m_3⟩ := s
        obtain ⟨rfl, g20, g1, g2, g18, g19⟩ := hi
        unfold g50_b1 at hr
        refine w_seq ?_
        refine w_ops ?_
        have hq := forceB_inv hr
        clear hr
        obtain ⟨c21, e21, hr⟩ := hq
        refine wo_step (v := (.b c21)) (s_pure (p_bin g20 g19 (b_lss.trans (cb e21)))) ?_
        refine wo_nil ?_
        refine nx_norm ?_
        refine w_seq ?_
        have hq := cond_inv hr
        clear hr
        rcases hq with ⟨rfl, hr⟩ | ⟨rfl, hr⟩
        · refine w_condT rfl ?_
          refine w_skip ?_
          refine nx_norm ?_
          refine w_seq ?_
          refine w_block ?_
          refine w_seq ?_
          refine w_ops ?_
          have hq := bindO_inv hr
          clear hr
          obtain ⟨v22, e22, hr⟩ := hq
          refine wo_step (v := v22) (s_pure (o_ixS g18 g20 e22)) ?_
          have hq := bindO_inv hr
          clear hr
          obtain ⟨v23, e23, hr⟩ := hq
          refine wo_step (v := v23) (s_ld rfl e23) ?_
          have hq := bindP_inv hr
          clear hr
          obtain ⟨v6, m_4, e6, hr⟩ := hq
          refine wo_step (v := v6) (s_al e6) ?_
          have hq := bindP_inv hr
          clear hr
          obtain ⟨vn, m_5, en, hr⟩ := hq
          refine wo_stepN (s_st rfl rfl en) ?_
          refine wo_nil ?_
          refine nx_norm ?_
          refine w_seq ?_
          refine w_any ?_
          have hq := bindO_inv hr
          clear hr
          obtain ⟨v24, e24, hr⟩ := hq
          refine wa_step (v := v24) (a_ld g2 e24) ?_
          have hq := bindO_inv hr
          clear hr
          obtain ⟨v25, e25, hr⟩ := hq
          refine wa_step (v := v25) (a_ld rfl e25) ?_
          refine wa_step (v := v1) (a_pure (p_mv g1)) ?_
          have hq := bindO_inv hr
          clear hr
          obtain ⟨v27, e27, hr⟩ := hq
          have hq := asI_inv hr
          clear hr
          obtain ⟨x27, rfl, hr⟩ := hq
          refine wa_step (v := (.i .i64 x27)) (a_call (mc rfl (mc rfl (mc rfl mn))) (callN_le hM.call e27)) ?_
          have hq := bindO_inv hr
          clear hr
          obtain ⟨v28, e28, hr⟩ := hq
          refine wa_step (v := v28) (a_pure (o_faddr rfl e28)) ?_
          have hq := bindO_inv hr
          clear hr
          obtain ⟨v29, e29, hr⟩ := hq
          have hq := asI_inv hr
          clear hr
          obtain ⟨x29, rfl, hr⟩ := hq
          refine wa_step (v := (.i .i64 x29)) (a_ld rfl e29) ?_
          have hq := bindO_inv hr
          clear hr
          obtain ⟨v30, e30, hr⟩ := hq
          refine wa_step (v := v30) (a_pure (o_faddr rfl e30)) ?_
          have hq := bindO_inv hr
          clear hr
          obtain ⟨v31, e31, hr⟩ := hq
          have hq := asI_inv hr
          clear hr
          obtain ⟨x31, rfl, hr⟩ := hq
          refine wa_step (v := (.i .i64 x31)) (a_ld rfl e31) ?_
          have hq := forceI_inv hr
          clear hr
          obtain ⟨x32, e32, hr⟩ := hq
          refine wa_step (v := (.i .i64 x32)) (a_pure (p_bin rfl rfl (b_sub.trans (ci e32)))) ?_
          have hq := forceB_inv hr
          clear hr
          obtain ⟨c33, e33, hr⟩ := hq
          refine wa_step (v := (.b c33)) (a_pure (p_bin rfl rfl (b_gtr.trans (cb e33)))) ?_
          refine wa_nil ?_
          refine ⟨m_5, rfl, ?_⟩
          refine nx_norm ?_
          have hq := cond_inv hr
          clear hr
          rcases hq with ⟨rfl, hr⟩ | ⟨rfl, hr⟩
          · refine w_condT rfl ?_
            refine w_seq ?_
            refine w_ops ?_
            refine wo_step (v := (.b false)) (s_pure (p_mv rfl)) ?_
            refine wo_nil ?_
            refine nx_norm ?_
            refine w_ret ?_
            refine bk_ret ?_
            refine nx_ret ?_
            cases hr
            exact ⟨_, _, rfl, ne_norm_ret, rfl, rfl, gl rfl⟩
          · refine w_condF rfl ?_
            refine w_skip ?_
            refine bk_norm ?_
            refine nx_norm ?_
            refine w_ops ?_
            have hq := forceI_inv hr
            clear hr
            obtain ⟨x34, e34, hr⟩ := hq
            refine wo_step (v := (.i .i64 x34)) (s_pure (p_bin g20 rfl (b_add.trans (ci e34)))) ?_
            refine wo_step (v := (.i .i64 x34)) (s_pure (p_mv rfl)) ?_
            refine wo_nil ?_
            cases hr
            exact ⟨_, _, rfl, rfl, rfl, gl rfl, gl g1, gl g2, gl g18, gl g19⟩
        · refine w_condF rfl ?_
          refine w_exit ?_
          refine nx_exit ?_
          cases hr
          exact ⟨_, _, rfl, ne_norm_exit, rfl, rfl⟩
      · rcases o_1 with o_1 | o_1
        · obtain ⟨m_6, ho⟩ : ∃ z, z = o_1 := ⟨_, rfl⟩
          subst ho
          rintro _ mm_1 t_3 ⟨rfl, rfl⟩
          refine bk_hit ?_
          refine nx_norm ?_
          refine w_seq ?_
          refine w_ops ?_
          refine wo_step (v := (.b true)) (s_pure (p_mv rfl)) ?_
          refine wo_nil ?_
          refine nx_norm ?_
          refine w_ret ?_
          exact qf ret_ok (rt rfl rn) hr
        · obtain ⟨c4, m_7⟩ := o_1
          rintro _ mm_2 t_4 ⟨rfl, rfl, g4⟩
          refine bk_ret ?_
          refine nx_ret ?_
          exact qf ret_ok (rt g4 rn) hr

/- (dibber/turn.demands).hasHours -/
abbrev g52_J0 (v1 : AVal) (v2 : AVal) (o : Bool × Mm) (m1 : Mm) (t1 : Tr) : Prop :=
  match o with
  | (c14, m_3) => m_3 = m1 ∧ t1.get 14 = (.b c14) ∧ t1.get 1 = v1 ∧ t1.get 2 = v2
abbrev g52_J1  (o : Bool × Mm) (m1 : Mm) (t1 : Tr) : Prop :=
  match o with
  | (c21, m_5) => m_5 = m1 ∧ t1.get 21 = (.b c21)
def g52 (M : Means) (ro : List ABlk) (v0 : AVal) (v1 : AVal) (m0 : Mm) : Option (AVal × Heap × Nat × Nat) :=
  bindP (stepM ro m0 (.bx 55 3 (.c v0))) fun v2 m_1 =>
  bindO (some (Mm.base m_1)) fun m_2 =>
  bindO (evP .e (.len false (.c v1))) fun v6 =>
  asI .i64 v6 fun x6 =>
  bindO (evP .e (.faddr 1 (.c v2))) fun v7 =>
  bindO (ldM ro m_2 true 1 v7) fun v8 =>
  asI .i64 v8 fun x8 =>
  forceB (eqI x6 x8) fun c9 =>
  bindO (cond c9 (
    bindP (callM M.call m_2 72 [v1]) fun v12 m_4 =>
    asI .i64 v12 fun x12 =>
    chk (!Nat.blt m_4.lw m_1.h.length) <|
    forceB (!ltI x12 0) fun c13 =>
    some (c13, m_4)) (
    some (false, m_2))) fun ⟨c14, m_3⟩ =>
  bindO (cond c14 (
    bindP (callM M.call m_3 73 [v1]) fun v17 m_6 =>
    asI .i64 v17 fun x17 =>
    chk (!Nat.blt m_6.lw m_1.h.length) <|
    bindO (evP .e (.faddr 0 (.c v2))) fun v18 =>
    bindO (ldA ro m_1.h true 1 v18) fun v19 =>
    asI .i64 v19 fun x19 =>
    forceB (ltI x17 x19) fun c20 =>
    some (c20, m_6)) (
    some (false, m_3))) fun ⟨c21, m_5⟩ =>
  bindO (some (Mm.join m_1 m_5)) fun m_7 =>
  finM m0.h.length (tupA [(.b c21)]) m_7

theorem g52_ok {ro : List ABlk} {O : Caller} {M : Means} (hM : M.Ok ⟨F, O⟩ ro) {v0 v1 h r} (ho : O 52 [v0, v1] h = none) (hr : g52 M ro v0 v1 ⟨h, h.length, h.length⟩ = some r) : callX ⟨F, O⟩ ro 52 [v0, v1] h = some r := by
  refine callX_of (F := ⟨F, O⟩) (fn := fn52) (g := g52 M ro v0 v1) ho rfl rfl hr ?_
  clear ho
  clear hr
  intro m0 t0 ht hr
  have g0 : t0.get 0 = v0 := ht 0
  have g1 : t0.get 1 = v1 := ht 1
  clear ht
  unfold g52 at hr
  refine w_seq ?_
  refine w_ops ?_
  have hq := bindP_inv hr
  clear hr
  obtain ⟨v2, m_1, e2, hr⟩ := hq
  refine wo_step (v := v2) (s_bx g0 e2) ?_
  refine wo_step (v := (.b false)) (s_pure (p_mv rfl)) ?_
  refine wo_nil ?_
  refine nx_norm ?_
  refine w_seq ?_
  have hq := bindO_inv hr
  clear hr
  obtain ⟨m_2, ef, hr⟩ := hq
  refine w_flt (af := true) rfl ef ?_
  refine wf_step (v := v1) (f_P rfl (s_pure (p_mv g1))) ?_
  have hq := bindO_inv hr
  clear hr
  obtain ⟨v6, e6, hr⟩ := hq
  have hq := asI_inv hr
  clear hr
  obtain ⟨x6, rfl, hr⟩ := hq
  refine wf_step (v := (.i .i64 x6)) (f_P rfl (s_pure (o_len rfl e6))) ?_
  have hq := bindO_inv hr
  clear hr
  obtain ⟨v7, e7, hr⟩ := hq
  refine wf_step (v := v7) (f_P rfl (s_pure (o_faddr rfl e7))) ?_
  have hq := bindO_inv hr
  clear hr
  obtain ⟨v8, e8, hr⟩ := hq
  have hq := asI_inv hr
  clear hr
  obtain ⟨x8, rfl, hr⟩ := hq
  refine wf_step (v := (.i .i64 x8)) (f_P rfl (s_ld rfl e8)) ?_
  have hq := forceB_inv hr
  clear hr
  obtain ⟨c9, e9, hr⟩ := hq
  refine wf_step (v := (.b c9)) (f_P rfl (s_pure (p_bin rfl rfl (b_eql.trans (cb e9))))) ?_
  refine wf_step (v := (.b c9)) (f_P rfl (s_pure (p_mv rfl))) ?_
  have hq := bindO_inv hr
  clear hr
  obtain ⟨o, hr, hk⟩ := hq
  refine wf_join 4 (g52_J0 v1 v2 o) ?_ ?_
  · clear hk
    have hq := cond_inv hr
    clear hr
    rcases hq with ⟨rfl, hr⟩ | ⟨rfl, hr⟩
    · refine wf_take (v := v1) rfl (f_P rfl (s_pure (p_mv g1))) ?_
      have hq := bindP_inv hr
      clear hr
      obtain ⟨v12, m_4, e12, hr⟩ := hq
      have hq := asI_inv hr
      clear hr
      obtain ⟨x12, rfl, hr⟩ := hq
      have hq := chk_inv hr
      clear hr
      obtain ⟨hc12, hr⟩ := hq
      refine wf_take (v := (.i .i64 x12)) rfl (f_M hc12 (s_call (mc rfl mn) (callM_le hM.call e12))) ?_
      have hq := forceB_inv hr
      clear hr
      obtain ⟨c13, e13, hr⟩ := hq
      refine wf_take (v := (.b c13)) rfl (f_P rfl (s_pure (p_bin rfl rfl (b_geq.trans (cb e13))))) ?_
      refine wf_step (v := (.b c13)) (f_P rfl (s_pure (p_pickT rfl rfl))) ?_
      refine wf_nil ?_
      cases hr
      exact ⟨_, _, rfl, rfl, gl rfl, gl g1, gl rfl⟩
    · refine wf_skip (v := (.b false)) rfl rfl ?_
      refine wf_skip (v := (.b false)) rfl rfl ?_
      refine wf_skip (v := (.b false)) rfl rfl ?_
      refine wf_step (v := (.b false)) (f_P rfl (s_pure (p_pickF rfl rfl))) ?_
      refine wf_nil ?_
      cases hr
      exact ⟨_, _, rfl, rfl, gl rfl, gl g1, gl rfl⟩
  · clear hr
    have hr := hk
    clear hk
    obtain ⟨c14, m_3⟩ := o
    rintro mm t_1 ⟨rfl, g14, g1, g2⟩
    refine wf_step (v := (.b c14)) (f_P rfl (s_pure (p_mv g14))) ?_
    have hq := bindO_inv hr
    clear hr
    obtain ⟨o_1, hr, hk⟩ := hq
    refine wf_join 6 (g52_J1  o_1) ?_ ?_
    · clear hk
      have hq := cond_inv hr
      clear hr
      rcases hq with ⟨rfl, hr⟩ | ⟨rfl, hr⟩
      · refine wf_take (v := v1) rfl (f_P rfl (s_pure (p_mv g1))) ?_
        have hq := bindP_inv hr
        clear hr
        obtain ⟨v17, m_6, e17, hr⟩ := hq
        have hq := asI_inv hr
        clear hr
        obtain ⟨x17, rfl, hr⟩ := hq
        have hq := chk_inv hr
        clear hr
        obtain ⟨hc17, hr⟩ := hq
        refine wf_take (v := (.i .i64 x17)) rfl (f_M hc17 (s_call (mc rfl mn) (callM_le hM.call e17))) ?_
        have hq := bindO_inv hr
        clear hr
        obtain ⟨v18, e18, hr⟩ := hq
        refine wf_take (v := v18) rfl (f_P rfl (s_pure (o_faddr g2 e18))) ?_
        have hq := bindO_inv hr
        clear hr
        obtain ⟨v19, e19, hr⟩ := hq
        have hq := asI_inv hr
        clear hr
        obtain ⟨x19, rfl, hr⟩ := hq
        refine wf_take (v := (.i .i64 x19)) rfl (f_ld rfl e19) ?_
        have hq := forceB_inv hr
        clear hr
        obtain ⟨c20, e20, hr⟩ := hq
        refine wf_take (v := (.b c20)) rfl (f_P rfl (s_pure (p_bin rfl rfl (b_lss.trans (cb e20))))) ?_
        refine wf_step (v := (.b c20)) (f_P rfl (s_pure (p_pickT rfl rfl))) ?_
        refine wf_nil ?_
        cases hr
        exact ⟨_, _, rfl, rfl, gl rfl⟩
      · refine wf_skip (v := (.b false)) rfl rfl ?_
        refine wf_skip (v := (.b false)) rfl rfl ?_
        refine wf_skip (v := (.b false)) rfl rfl ?_
        refine wf_skip (v := (.b false)) rfl rfl ?_
        refine wf_skip (v := (.b false)) rfl rfl ?_
        refine wf_step (v := (.b false)) (f_P rfl (s_pure (p_pickF rfl rfl))) ?_
        refine wf_nil ?_
        cases hr
        exact ⟨_, _, rfl, rfl, gl rfl⟩
    · clear hr
      have hr := hk
      clear hk
      obtain ⟨c21, m_5⟩ := o_1
      rintro mm_1 t_2 ⟨rfl, g21⟩
      refine wf_step (v := (.b c21)) (f_P rfl (s_pure (p_mv g21))) ?_
      have hq := bindO_inv hr
      clear hr
      obtain ⟨m_7, ef_1, hr⟩ := hq
      refine wf_end ef_1 ?_
      refine nx_norm ?_
      refine w_ret ?_
      exact qf ret_ok (rt rfl rn) hr

/- (dibber/turn.demands).ring -/
abbrev g54_I0 (v2 : AVal) (v6 : AVal) (v1 : AVal) (x13 : Int) (s : AVal × Int × Mm) (m1 : Mm) (t1 : Tr) : Prop :=
  match s with
  | (v7, x14, m_3) => m_3 = m1 ∧ t1.get 7 = v7 ∧ t1.get 14 = (.i .i64 x14) ∧ t1.get 2 = v2 ∧ t1.get 6 = v6 ∧ t1.get 12 = v1 ∧ t1.get 13 = (.i .i64 x13)
abbrev g54_J0 (v2 : AVal) (v6 : AVal) (v1 : AVal) (x13 : Int) (o : ((AVal × Mm) ⊕ (AVal × Bool × Mm))) (e : AExit) (m1 : Mm) (t1 : Tr) : Prop :=
  match o with
  | (.inl (y7, mo)) => e = (.exit 0) ∧ mo = m1 ∧ t1.get 7 = y7
  | (.inr (y4, y5, mo)) => e = .ret ∧ mo = m1 ∧ t1.get 4 = y4 ∧ t1.get 5 = (.b y5)
abbrev g54_J1 (v2 : AVal) (v6 : AVal) (v7 : AVal) (x14 : Int) (v10 : AVal) (v1 : AVal) (x13 : Int) (m_6 : Mm) (o : Bool) (m1 : Mm) (t1 : Tr) : Prop :=
  match o with
  | c32 => m_6 = m1 ∧ t1.get 32 = (.b c32) ∧ t1.get 2 = v2 ∧ t1.get 6 = v6 ∧ t1.get 7 = v7 ∧ t1.get 8 = (.i .i64 x14) ∧ t1.get 10 = v10 ∧ t1.get 12 = v1 ∧ t1.get 13 = (.i .i64 x13) ∧ t1.get 14 = (.i .i64 x14)
abbrev g54_J2 (v2 : AVal) (v6 : AVal) (v7 : AVal) (v10 : AVal) (v1 : AVal) (x13 : Int) (x14 : Int) (m_6 : Mm) (o : Bool) (m1 : Mm) (t1 : Tr) : Prop :=
  match o with
  | c47 => m_6 = m1 ∧ t1.get 47 = (.b c47) ∧ t1.get 2 = v2 ∧ t1.get 6 = v6 ∧ t1.get 7 = v7 ∧ t1.get 10 = v10 ∧ t1.get 12 = v1 ∧ t1.get 13 = (.i .i64 x13) ∧ t1.get 14 = (.i .i64 x14)
abbrev g54_J3 (v2 : AVal) (v6 : AVal) (v7 : AVal) (v10 : AVal) (v1 : AVal) (x13 : Int) (x14 : Int) (m_6 : Mm) (o : Bool) (m1 : Mm) (t1 : Tr) : Prop :=
  match o with
  | c47_1 => m_6 = m1 ∧ t1.get 47 = (.b c47_1) ∧ t1.get 2 = v2 ∧ t1.get 6 = v6 ∧ t1.get 7 = v7 ∧ t1.get 10 = v10 ∧ t1.get 12 = v1 ∧ t1.get 13 = (.i .i64 x13) ∧ t1.get 14 = (.i .i64 x14)
def g54_b0 (M : Means) (ro : List ABlk) (v2 : AVal) (v6 : AVal) (v1 : AVal) (x13 : Int) (v7 : AVal) (x14 : Int) (m_3 : Mm) : Option ((AVal × Int × Mm) ⊕ (((AVal × Mm) ⊕ (AVal × Bool × Mm)))) :=
  forceB (ltI x14 x13) fun c15 =>
  cond c15 (
    bindO (evP .e (.ixS 1 (.c v1) (.c (.i .i64 x14)))) fun v17 =>
    bindO (ldM ro m_3 true 1 v17) fun v18 =>
    asI .i64 v18 fun x18 =>
    bindO (ldM ro m_3 false 3 v2) fun v20 =>
    bindP (callM M.call m_3 74 [v20, (.i .i64 x18)]) fun v22 m_4 =>
    bindO (evP .e (.ext 0 (.c v22))) fun v23 =>
    bindO (evP .e (.ext 1 (.c v22))) fun v24 =>
    asB v24 fun c24 =>
    bindP (stepM ro m_4 (.al 31 [(AVal.i IntKind.i64 0), (AVal.i IntKind.i64 0), (AVal.i IntKind.i64 0), (AVal.i IntKind.i64 0)])) fun v10 m_5 =>
    bindP (stepM ro m_5 (.st 4 (.c v10) (.c v23))) fun vn m_6 =>
    forceB (!c24) fun c26 =>
    bindO (cond c26 (
      some true) (
      bindO (evP .e (.faddr 1 (.c v10))) fun v28 =>
      bindO (ldA ro m_6.h true 1 v28) fun v29 =>
      asI .i64 v29 fun x29 =>
      bindO (evP .e (.ixA 6 1 (.c v6) (.c (.i .i64 x29)))) fun v30 =>
      bindO (ldA ro m_6.h true 1 v30) fun v31 =>
      asB v31 fun c31 =>
      some c31)) fun c32 =>
    bindO (cond c32 (
      some true) (
      forceB (ltI 0 x14) fun c35 =>
      bindO (cond c35 (
        bindO (evP .e (.faddr 0 (.c v10))) fun v37 =>
        bindO (ldA ro m_6.h true 1 v37) fun v38 =>
        asI .i64 v38 fun x38 =>
        forceI (wr .i64 (x14 - 1)) fun x41 =>
        bindO (evP .e (.ixS 4 (.c v7) (.c (.i .i64 x41)))) fun v42 =>
        bindO (evP .e (.faddr 1 (.c v42))) fun v43 =>
        bindO (ldA ro m_6.h true 1 v43) fun v44 =>
        asI .i64 v44 fun x44 =>
        forceB (!eqI x38 x44) fun c45 =>
        some c45) (
        some false)) fun c47_1 =>
      some c47_1)) fun c47 =>
    cond c47 (
      some (.inr (.inr (AVal.nsl, false, m_6)))) (
      bindO (evP .e (.faddr 1 (.c v10))) fun v48 =>
      bindO (ldM ro m_6 true 1 v48) fun v49 =>
      asI .i64 v49 fun x49 =>
      bindO (evP .e (.ixA 6 1 (.c v6) (.c (.i .i64 x49)))) fun v50 =>
      bindP (stepM ro m_6 (.st 1 (.c v50) (.c (.b true)))) fun vn_1 m_7 =>
      bindO (ldM ro m_7 false 4 v10) fun v52 =>
      bindP (stepM ro m_7 (.bsl 31 4 [(AVal.i IntKind.i64 0), (AVal.i IntKind.i64 0), (AVal.i IntKind.i64 0), (AVal.i IntKind.i64 0)] 1 [((0, 4), .c v52)])) fun v53 m_8 =>
      bindP (stepM ro m_8 (.app 31 4 32 [(AVal.i IntKind.i64 0), (AVal.i IntKind.i64 0), (AVal.i IntKind.i64 0), (AVal.i IntKind.i64 0)] (.c v7) (.c v53))) fun v54 m_9 =>
      forceI (wr .i64 (x14 + 1)) fun x55 =>
      some (.inl (v54, x55, m_9)))) (
    some (.inr (.inl (v7, m_3))))
abbrev g54_J4 (v7_1 : AVal) (m_10 : Mm) (o : Bool) (m1 : Mm) (t1 : Tr) : Prop :=
  match o with
  | c72 => m_10 = m1 ∧ t1.get 72 = (.b c72) ∧ t1.get 7 = v7_1
def g54 (M : Means) (ro : List ABlk) (v0 : AVal) (v1 : AVal) (m0 : Mm) : Option (AVal × Heap × Nat × Nat) :=
  bindP (stepM ro m0 (.bx 55 3 (.c v0))) fun v2 m_1 =>
  bindP (stepM ro m_1 (.al 96 [(AVal.b false), (AVal.b false), (AVal.b false), (AVal.b false), (AVal.b false), (AVal.b false)])) fun v6 m_2 =>
  bindO (evP .e (.len false (.c v1))) fun v13 =>
  asI .i64 v13 fun x13 =>
  bindO (M.loop (S := AVal × Int × Mm) (R := ((AVal × Mm) ⊕ (AVal × Bool × Mm))) (fun s => g54_b0 M ro v2 v6 v1 x13 s.1 s.2.1 s.2.2) (AVal.nsl, 0, m_2)) fun o_3 => match o_3 with
  | (.inl (v7_1, m_10)) =>
    bindO (evP .e (.len false (.c v7_1))) fun v57 =>
    asI .i64 v57 fun x57 =>
    forceB (ltI x57 2) fun c58 =>
    bindO (cond c58 (
      some true) (
      bindO (evP .e (.len false (.c v7_1))) fun v62 =>
      asI .i64 v62 fun x62 =>
      forceI (wr .i64 (x62 - 1)) fun x63 =>
      bindO (evP .e (.ixS 4 (.c v7_1) (.c (.i .i64 x63)))) fun v64 =>
      bindO (evP .e (.faddr 1 (.c v64))) fun v65 =>
      bindO (ldA ro m_10.h true 1 v65) fun v66 =>
      asI .i64 v66 fun x66 =>
      bindO (evP .e (.ixS 4 (.c v7_1) (.c (.i .i64 0)))) fun v68 =>
      bindO (evP .e (.faddr 0 (.c v68))) fun v69 =>
      bindO (ldA ro m_10.h true 1 v69) fun v70 =>
      asI .i64 v70 fun x70 =>
      forceB (!eqI x66 x70) fun c71 =>
      some c71)) fun c72 =>
    cond c72 (
      finM m0.h.length (tupA [AVal.nsl, (.b false)]) m_10) (
      finM m0.h.length (tupA [v7_1, (.b true)]) m_10)
  | (.inr (v4, c5, m_11)) =>
    finM m0.h.length (tupA [v4, (.b c5)]) m_11

theorem g54_ok {ro : List ABlk} {O : Caller} {M : Means} (hM : M.Ok ⟨F, O⟩ ro) {v0 v1 h r} (ho : O 54 [v0, v1] h = none) (hr : g54 M ro v0 v1 ⟨h, h.length, h.length⟩ = some r) : callX ⟨F, O⟩ ro 54 [v0, v1] h = some r := by
  refine callX_of (F := ⟨F, O⟩) (fn := fn54) (g := g54 M ro v0 v1) ho rfl rfl hr ?_
  clear ho
  clear hr
  intro m0 t0 ht hr
  have g0 : t0.get 0 = v0 := ht 0
  have g1 : t0.get 1 = v1 := ht 1
  clear ht
  unfold g54 at hr
  refine w_seq ?_
  refine w_ops ?_
  have hq := bindP_inv hr
  clear hr
  obtain ⟨v2, m_1, e2, hr⟩ := hq
  refine wo_step (v := v2) (s_bx g0 e2) ?_
  refine wo_step (v := AVal.nsl) (s_pure (p_mv rfl)) ?_
  refine wo_step (v := (.b false)) (s_pure (p_mv rfl)) ?_
  refine wo_nil ?_
  refine nx_norm ?_
  refine w_seq ?_
  refine w_ops ?_
  have hq := bindP_inv hr
  clear hr
  obtain ⟨v6, m_2, e6, hr⟩ := hq
  refine wo_step (v := v6) (s_al e6) ?_
  refine wo_nil ?_
  refine nx_norm ?_
  refine w_seq ?_
  refine w_ops ?_
  refine wo_step (v := AVal.nsl) (s_pure (p_mv rfl)) ?_
  refine wo_nil ?_
  refine nx_norm ?_
  refine w_seq ?_
  refine w_seq ?_
  refine w_ops ?_
  refine wo_step (v := v1) (s_pure (p_mv g1)) ?_
  have hq := bindO_inv hr
  clear hr
  obtain ⟨v13, e13, hr⟩ := hq
  have hq := asI_inv hr
  clear hr
  obtain ⟨x13, rfl, hr⟩ := hq
  refine wo_step (v := (.i .i64 x13)) (s_pure (o_len rfl e13)) ?_
  refine wo_step (v := (.i .i64 0)) (s_pure (p_mv rfl)) ?_
  refine wo_nil ?_
  refine nx_norm ?_
  refine w_block ?_
  have hq := bindO_inv hr
  clear hr
  obtain ⟨o_3, hl, hr⟩ := hq
  obtain ⟨n, hl⟩ := hM.loop _ _ _ hl
  refine jp_mono (w_loop _ (g54_I0 v2 v6 v1 x13) (g54_J0 v2 v6 v1 x13) ?_ n _ _ _ _ hl ⟨rfl, gl rfl, gl rfl, gl rfl, gl rfl, gl rfl, gl rfl⟩) ?_
  · clear hr hl
    intro s mm_2 t_1 o hi hr
    obtain ⟨v7, x14, m_3⟩ := s
    obtain ⟨rfl, g7, g14, g2, g6, g12, g13⟩ := hi
    unfold g54_b0 at hr
    refine w_seq ?_
    refine w_ops ?_
    have hq := forceB_inv hr
    clear hr
    obtain ⟨c15, e15, hr⟩ := hq
    refine wo_step (v := (.b c15)) (s_pure (p_bin g14 g13 (b_lss.trans (cb e15)))) ?_
    refine wo_nil ?_
    refine nx_norm ?_
    refine w_seq ?_
    have hq := cond_inv hr
    clear hr
    rcases hq with ⟨rfl, hr⟩ | ⟨rfl, hr⟩
    · refine w_condT rfl ?_
      refine w_skip ?_
      refine nx_norm ?_
      refine w_seq ?_
      refine w_block ?_
      refine w_seq ?_
      refine w_ops ?_
      refine wo_step (v := (.i .i64 x14)) (s_pure (p_mv g14)) ?_
      have hq := bindO_inv hr
      clear hr
      obtain ⟨v17, e17, hr⟩ := hq
      refine wo_step (v := v17) (s_pure (o_ixS g12 g14 e17)) ?_
      have hq := bindO_inv hr
      clear hr
      obtain ⟨v18, e18, hr⟩ := hq
      have hq := asI_inv hr
      clear hr
      obtain ⟨x18, rfl, hr⟩ := hq
      refine wo_step (v := (.i .i64 x18)) (s_ld rfl e18) ?_
      refine wo_step (v := (.i .i64 x14)) (s_pure (p_mv rfl)) ?_
      refine wo_step (v := (.i .i64 x18)) (s_pure (p_mv rfl)) ?_
      refine wo_nil ?_
      refine nx_norm ?_
      refine w_seq ?_
      refine w_ops ?_
      have hq := bindO_inv hr
      clear hr
      obtain ⟨v20, e20, hr⟩ := hq
      refine wo_step (v := v20) (s_ld g2 e20) ?_
      refine wo_step (v := (.i .i64 x18)) (s_pure (p_mv rfl)) ?_
      have hq := bindP_inv hr
      clear hr
      obtain ⟨v22, m_4, e22, hr⟩ := hq
      refine wo_step (v := v22) (s_call (mc rfl (mc rfl mn)) (callM_le hM.call e22)) ?_
      refine wo_step (v := v22) (s_pure (p_mv rfl)) ?_
      have hq := bindO_inv hr
      clear hr
      obtain ⟨v23, e23, hr⟩ := hq
      refine wo_step (v := v23) (s_pure (o_ext rfl e23)) ?_
      have hq := bindO_inv hr
      clear hr
      obtain ⟨v24, e24, hr⟩ := hq
      have hq := asB_inv hr
      clear hr
      obtain ⟨c24, rfl, hr⟩ := hq
      refine wo_step (v := (.b c24)) (s_pure (o_ext rfl e24)) ?_
      have hq := bindP_inv hr
      clear hr
      obtain ⟨v10, m_5, e10, hr⟩ := hq
      refine wo_step (v := v10) (s_al e10) ?_
      have hq := bindP_inv hr
      clear hr
      obtain ⟨vn, m_6, en, hr⟩ := hq
      refine wo_stepN (s_st rfl rfl en) ?_
      refine wo_step (v := (.b c24)) (s_pure (p_mv rfl)) ?_
      refine wo_nil ?_
      refine nx_norm ?_
      refine w_seq ?_
      refine w_seq ?_
      refine w_any ?_
      refine wa_step (v := (.b c24)) (a_pure (p_mv rfl)) ?_
      have hq := forceB_inv hr
      clear hr
      obtain ⟨c26, e26, hr⟩ := hq
      refine wa_step (v := (.b c26)) (a_pure ((p_not rfl).trans (cb e26))) ?_
      refine wa_step (v := (.b c26)) (a_pure (p_mv rfl)) ?_
      have hq := bindO_inv hr
      clear hr
      obtain ⟨o, hr, hk⟩ := hq
      refine wa_join 5 (JA (g54_J1 v2 v6 v7 x14 v10 v1 x13 m_6 o) m_6 (m_6.h) [] []) ?_ ?_
      · clear hk
        have hq := cond_inv hr
        clear hr
        rcases hq with ⟨rfl, hr⟩ | ⟨rfl, hr⟩
        · refine wa_skip (v := (.b true)) rfl rfl ?_
          refine wa_skip (v := (.b true)) rfl rfl ?_
          refine wa_skip (v := (.b true)) rfl rfl ?_
          refine wa_skip (v := (.b true)) rfl rfl ?_
          refine wa_step (v := (.b true)) (a_pure (p_pickT rfl rfl)) ?_
          refine wa_nil ?_
          cases hr
          exact ja_in ⟨rfl, gl rfl, gl g2, gl g6, gl g7, gl rfl, gl rfl, gl g12, gl g13, gl g14⟩
        · have hq := bindO_inv hr
          clear hr
          obtain ⟨v28, e28, hr⟩ := hq
          refine wa_take (v := v28) rfl (a_pure (o_faddr rfl e28)) ?_
          have hq := bindO_inv hr
          clear hr
          obtain ⟨v29, e29, hr⟩ := hq
          have hq := asI_inv hr
          clear hr
          obtain ⟨x29, rfl, hr⟩ := hq
          refine wa_take (v := (.i .i64 x29)) rfl (a_ld rfl e29) ?_
          have hq := bindO_inv hr
          clear hr
          obtain ⟨v30, e30, hr⟩ := hq
          refine wa_take (v := v30) rfl (a_pure (o_ixA g6 rfl e30)) ?_
          have hq := bindO_inv hr
          clear hr
          obtain ⟨v31, e31, hr⟩ := hq
          have hq := asB_inv hr
          clear hr
          obtain ⟨c31, rfl, hr⟩ := hq
          refine wa_take (v := (.b c31)) rfl (a_ld rfl e31) ?_
          refine wa_step (v := (.b c31)) (a_pure (p_pickF rfl rfl)) ?_
          refine wa_nil ?_
          cases hr
          exact ja_in ⟨rfl, gl rfl, gl g2, gl g6, gl g7, gl rfl, gl rfl, gl g12, gl g13, gl g14⟩
      · clear hr
        have hr := hk
        clear hk
        obtain ⟨c32, ho⟩ : ∃ z, z = o := ⟨_, rfl⟩
        subst ho
        refine ja_out ?_
        rintro t_2 ⟨-, g32, g2, g6, g7, g8, g10, g12, g13, g14⟩
        refine wa_step (v := (.b c32)) (a_pure (p_mv g32)) ?_
        have hq := bindO_inv hr
        clear hr
        obtain ⟨o_1, hr, hk⟩ := hq
        refine wa_join 14 (JA (g54_J2 v2 v6 v7 v10 v1 x13 x14 m_6 o_1) m_6 (m_6.h) [] []) ?_ ?_
        · clear hk
          have hq := cond_inv hr
          clear hr
          rcases hq with ⟨rfl, hr⟩ | ⟨rfl, hr⟩
          · refine wa_skip (v := (.b true)) rfl rfl ?_
            refine wa_skip (v := (.b true)) rfl rfl ?_
            refine wa_skip (v := (.b true)) rfl rfl ?_
            refine wa_skip (v := und) rfl rfl ?_
            refine wa_skip (v := und) rfl rfl ?_
            refine wa_skip (v := und) rfl rfl ?_
            refine wa_skip (v := und) rfl rfl ?_
            refine wa_skip (v := und) rfl rfl ?_
            refine wa_skip (v := und) rfl rfl ?_
            refine wa_skip (v := und) rfl rfl ?_
            refine wa_skip (v := und) rfl rfl ?_
            refine wa_skip (v := und) rfl rfl ?_
            refine wa_skip (v := (.b true)) rfl rfl ?_
            refine wa_step (v := (.b true)) (a_pure (p_pickT rfl rfl)) ?_
            refine wa_nil ?_
            cases hr
            exact ja_in ⟨rfl, gl rfl, gl g2, gl g6, gl g7, gl g10, gl g12, gl g13, gl g14⟩
          · refine wa_take (v := (.i .i64 x14)) rfl (a_pure (p_mv g8)) ?_
            have hq := forceB_inv hr
            clear hr
            obtain ⟨c35, e35, hr⟩ := hq
            refine wa_take (v := (.b c35)) rfl (a_pure (p_bin rfl rfl (b_gtr.trans (cb e35)))) ?_
            refine wa_take (v := (.b c35)) rfl (a_pure (p_mv rfl)) ?_
            have hq := bindO_inv hr
            clear hr
            obtain ⟨o_2, hr, hk⟩ := hq
            refine wa_join 11 (JA (g54_J3 v2 v6 v7 v10 v1 x13 x14 m_6 o_2) m_6 (m_6.h) [] []) ?_ ?_
            · clear hk
              have hq := cond_inv hr
              clear hr
              rcases hq with ⟨rfl, hr⟩ | ⟨rfl, hr⟩
              · have hq := bindO_inv hr
                clear hr
                obtain ⟨v37, e37, hr⟩ := hq
                refine wa_take (v := v37) rfl (a_pure (o_faddr g10 e37)) ?_
                have hq := bindO_inv hr
                clear hr
                obtain ⟨v38, e38, hr⟩ := hq
                have hq := asI_inv hr
                clear hr
                obtain ⟨x38, rfl, hr⟩ := hq
                refine wa_take (v := (.i .i64 x38)) rfl (a_ld rfl e38) ?_
                refine wa_take (v := v7) rfl (a_pure (p_mv g7)) ?_
                refine wa_take (v := (.i .i64 x14)) rfl (a_pure (p_mv g8)) ?_
                have hq := forceI_inv hr
                clear hr
                obtain ⟨x41, e41, hr⟩ := hq
                refine wa_take (v := (.i .i64 x41)) rfl (a_pure (p_bin rfl rfl (b_sub.trans (ci e41)))) ?_
                have hq := bindO_inv hr
                clear hr
                obtain ⟨v42, e42, hr⟩ := hq
                refine wa_take (v := v42) rfl (a_pure (o_ixS rfl rfl e42)) ?_
                have hq := bindO_inv hr
                clear hr
                obtain ⟨v43, e43, hr⟩ := hq
                refine wa_take (v := v43) rfl (a_pure (o_faddr rfl e43)) ?_
                have hq := bindO_inv hr
                clear hr
                obtain ⟨v44, e44, hr⟩ := hq
                have hq := asI_inv hr
                clear hr
                obtain ⟨x44, rfl, hr⟩ := hq
                refine wa_take (v := (.i .i64 x44)) rfl (a_ld rfl e44) ?_
                have hq := forceB_inv hr
                clear hr
                obtain ⟨c45, e45, hr⟩ := hq
                refine wa_take (v := (.b c45)) rfl (a_pure (p_bin rfl rfl (b_neq.trans (cb e45)))) ?_
                refine wa_take (v := (.b c45)) rfl (a_pure (p_pickT rfl rfl)) ?_
                refine wa_step (v := (.b c45)) (a_pure (p_pickF rfl rfl)) ?_
                refine wa_nil ?_
                cases hr
                exact ja_in ⟨rfl, gl rfl, gl g2, gl g6, gl g7, gl g10, gl g12, gl g13, gl g14⟩
              · refine wa_skip (v := (.b false)) rfl rfl ?_
                refine wa_skip (v := (.b false)) rfl rfl ?_
                refine wa_skip (v := (.b false)) rfl rfl ?_
                refine wa_skip (v := (.b false)) rfl rfl ?_
                refine wa_skip (v := (.b false)) rfl rfl ?_
                refine wa_skip (v := (.b false)) rfl rfl ?_
                refine wa_skip (v := (.b false)) rfl rfl ?_
                refine wa_skip (v := (.b false)) rfl rfl ?_
                refine wa_skip (v := (.b false)) rfl rfl ?_
                refine wa_take (v := (.b false)) rfl (a_pure (p_pickF rfl rfl)) ?_
                refine wa_step (v := (.b false)) (a_pure (p_pickF rfl rfl)) ?_
                refine wa_nil ?_
                cases hr
                exact ja_in ⟨rfl, gl rfl, gl g2, gl g6, gl g7, gl g10, gl g12, gl g13, gl g14⟩
            · clear hr
              have hr := hk
              clear hk
              obtain ⟨c47_1, ho⟩ : ∃ z, z = o_2 := ⟨_, rfl⟩
              subst ho
              refine ja_out ?_
              rintro t_3 ⟨-, g47, g2, g6, g7, g10, g12, g13, g14⟩
              refine wa_nil ?_
              cases hr
              exact ja_in ⟨rfl, gl g47, gl g2, gl g6, gl g7, gl g10, gl g12, gl g13, gl g14⟩
        · clear hr
          have hr := hk
          clear hk
          obtain ⟨c47, ho⟩ : ∃ z, z = o_1 := ⟨_, rfl⟩
          subst ho
          refine ja_out ?_
          rintro t_4 ⟨-, g47, g2, g6, g7, g10, g12, g13, g14⟩
          refine wa_nil ?_
          refine ⟨m_6, rfl, ?_⟩
          refine nx_norm ?_
          have hq := cond_inv hr
          clear hr
          rcases hq with ⟨rfl, hr⟩ | ⟨rfl, hr⟩
          · refine w_condT g47 ?_
            refine w_seq ?_
            refine w_ops ?_
            refine wo_step (v := AVal.nsl) (s_pure (p_mv rfl)) ?_
            refine wo_step (v := (.b false)) (s_pure (p_mv rfl)) ?_
            refine wo_nil ?_
            refine nx_norm ?_
            refine w_ret ?_
            refine nx_ret ?_
            refine bk_ret ?_
            refine nx_ret ?_
            cases hr
            exact ⟨_, _, rfl, ne_norm_ret, rfl, rfl, gl rfl, gl rfl⟩
          · refine w_condF g47 ?_
            refine w_skip ?_
            refine nx_norm ?_
            refine w_seq ?_
            refine w_ops ?_
            have hq := bindO_inv hr
            clear hr
            obtain ⟨v48, e48, hr⟩ := hq
            refine wo_step (v := v48) (s_pure (o_faddr g10 e48)) ?_
            have hq := bindO_inv hr
            clear hr
            obtain ⟨v49, e49, hr⟩ := hq
            have hq := asI_inv hr
            clear hr
            obtain ⟨x49, rfl, hr⟩ := hq
            refine wo_step (v := (.i .i64 x49)) (s_ld rfl e49) ?_
            have hq := bindO_inv hr
            clear hr
            obtain ⟨v50, e50, hr⟩ := hq
            refine wo_step (v := v50) (s_pure (o_ixA g6 rfl e50)) ?_
            have hq := bindP_inv hr
            clear hr
            obtain ⟨vn_1, m_7, en_1, hr⟩ := hq
            refine wo_stepN (s_st rfl rfl en_1) ?_
            refine wo_nil ?_
            refine nx_norm ?_
            refine w_ops ?_
            refine wo_step (v := v7) (s_pure (p_mv g7)) ?_
            have hq := bindO_inv hr
            clear hr
            obtain ⟨v52, e52, hr⟩ := hq
            refine wo_step (v := v52) (s_ld g10 e52) ?_
            have hq := bindP_inv hr
            clear hr
            obtain ⟨v53, m_8, e53, hr⟩ := hq
            refine wo_step (v := v53) (s_bsl (qc rfl qn) e53) ?_
            have hq := bindP_inv hr
            clear hr
            obtain ⟨v54, m_9, e54, hr⟩ := hq
            refine wo_step (v := v54) (s_app rfl rfl e54) ?_
            refine wo_step (v := v54) (s_pure (p_mv rfl)) ?_
            refine wo_nil ?_
            refine bk_norm ?_
            refine nx_norm ?_
            refine w_ops ?_
            have hq := forceI_inv hr
            clear hr
            obtain ⟨x55, e55, hr⟩ := hq
            refine wo_step (v := (.i .i64 x55)) (s_pure (p_bin g14 rfl (b_add.trans (ci e55)))) ?_
            refine wo_step (v := (.i .i64 x55)) (s_pure (p_mv rfl)) ?_
            refine wo_nil ?_
            cases hr
            exact ⟨_, _, rfl, rfl, rfl, gl rfl, gl rfl, gl g2, gl g6, gl g12, gl g13⟩
    · refine w_condF rfl ?_
      refine w_exit ?_
      refine nx_exit ?_
      cases hr
      exact ⟨_, _, rfl, ne_norm_exit, rfl, rfl, gl g7⟩
  · rcases o_3 with o_3 | o_3
    · obtain ⟨v7_1, m_10⟩ := o_3
      rintro _ mm t_5 ⟨rfl, rfl, g7⟩
      refine bk_hit ?_
      refine nx_norm ?_
      refine w_seq ?_
      refine w_seq ?_
      refine w_any ?_
      refine wa_step (v := v7_1) (a_pure (p_mv g7)) ?_
      have hq := bindO_inv hr
      clear hr
      obtain ⟨v57, e57, hr⟩ := hq
      have hq := asI_inv hr
      clear hr
      obtain ⟨x57, rfl, hr⟩ := hq
      refine wa_step (v := (.i .i64 x57)) (a_pure (o_len rfl e57)) ?_
      have hq := forceB_inv hr
      clear hr
      obtain ⟨c58, e58, hr⟩ := hq
      refine wa_step (v := (.b c58)) (a_pure (p_bin rfl rfl (b_lss.trans (cb e58)))) ?_
      refine wa_step (v := (.b c58)) (a_pure (p_mv rfl)) ?_
      have hq := bindO_inv hr
      clear hr
      obtain ⟨o_4, hr, hk⟩ := hq
      refine wa_join 13 (JA (g54_J4 v7_1 m_10 o_4) m_10 (m_10.h) [] []) ?_ ?_
      · clear hk
        have hq := cond_inv hr
        clear hr
        rcases hq with ⟨rfl, hr⟩ | ⟨rfl, hr⟩
        · refine wa_skip (v := (.b true)) rfl rfl ?_
          refine wa_skip (v := (.b true)) rfl rfl ?_
          refine wa_skip (v := (.b true)) rfl rfl ?_
          refine wa_skip (v := (.b true)) rfl rfl ?_
          refine wa_skip (v := (.b true)) rfl rfl ?_
          refine wa_skip (v := (.b true)) rfl rfl ?_
          refine wa_skip (v := (.b true)) rfl rfl ?_
          refine wa_skip (v := (.b true)) rfl rfl ?_
          refine wa_skip (v := (.b true)) rfl rfl ?_
          refine wa_skip (v := (.b true)) rfl rfl ?_
          refine wa_skip (v := (.b true)) rfl rfl ?_
          refine wa_skip (v := (.b true)) rfl rfl ?_
          refine wa_step (v := (.b true)) (a_pure (p_pickT rfl rfl)) ?_
          refine wa_nil ?_
          cases hr
          exact ja_in ⟨rfl, gl rfl, gl g7⟩
        · refine wa_take (v := v7_1) rfl (a_pure (p_mv g7)) ?_
          refine wa_take (v := v7_1) rfl (a_pure (p_mv g7)) ?_
          have hq := bindO_inv hr
          clear hr
          obtain ⟨v62, e62, hr⟩ := hq
          have hq := asI_inv hr
          clear hr
          obtain ⟨x62, rfl, hr⟩ := hq
          refine wa_take (v := (.i .i64 x62)) rfl (a_pure (o_len rfl e62)) ?_
          have hq := forceI_inv hr
          clear hr
          obtain ⟨x63, e63, hr⟩ := hq
          refine wa_take (v := (.i .i64 x63)) rfl (a_pure (p_bin rfl rfl (b_sub.trans (ci e63)))) ?_
          have hq := bindO_inv hr
          clear hr
          obtain ⟨v64, e64, hr⟩ := hq
          refine wa_take (v := v64) rfl (a_pure (o_ixS rfl rfl e64)) ?_
          have hq := bindO_inv hr
          clear hr
          obtain ⟨v65, e65, hr⟩ := hq
          refine wa_take (v := v65) rfl (a_pure (o_faddr rfl e65)) ?_
          have hq := bindO_inv hr
          clear hr
          obtain ⟨v66, e66, hr⟩ := hq
          have hq := asI_inv hr
          clear hr
          obtain ⟨x66, rfl, hr⟩ := hq
          refine wa_take (v := (.i .i64 x66)) rfl (a_ld rfl e66) ?_
          refine wa_take (v := v7_1) rfl (a_pure (p_mv g7)) ?_
          have hq := bindO_inv hr
          clear hr
          obtain ⟨v68, e68, hr⟩ := hq
          refine wa_take (v := v68) rfl (a_pure (o_ixS rfl rfl e68)) ?_
          have hq := bindO_inv hr
          clear hr
          obtain ⟨v69, e69, hr⟩ := hq
          refine wa_take (v := v69) rfl (a_pure (o_faddr rfl e69)) ?_
          have hq := bindO_inv hr
          clear hr
          obtain ⟨v70, e70, hr⟩ := hq
          have hq := asI_inv hr
          clear hr
          obtain ⟨x70, rfl, hr⟩ := hq
          refine wa_take (v := (.i .i64 x70)) rfl (a_ld rfl e70) ?_
          have hq := forceB_inv hr
          clear hr
          obtain ⟨c71, e71, hr⟩ := hq
          refine wa_take (v := (.b c71)) rfl (a_pure (p_bin rfl rfl (b_neq.trans (cb e71)))) ?_
          refine wa_step (v := (.b c71)) (a_pure (p_pickF rfl rfl)) ?_
          refine wa_nil ?_
          cases hr
          exact ja_in ⟨rfl, gl rfl, gl g7⟩
      · clear hr
        have hr := hk
        clear hk
        obtain ⟨c72, ho⟩ : ∃ z, z = o_4 := ⟨_, rfl⟩
        subst ho
        refine ja_out ?_
        rintro t_6 ⟨-, g72, g7⟩
        refine wa_nil ?_
        refine ⟨m_10, rfl, ?_⟩
        refine nx_norm ?_
        have hq := cond_inv hr
        clear hr
        rcases hq with ⟨rfl, hr⟩ | ⟨rfl, hr⟩
        · refine w_condT g72 ?_
          refine w_seq ?_
          refine w_ops ?_
          refine wo_step (v := AVal.nsl) (s_pure (p_mv rfl)) ?_
          refine wo_step (v := (.b false)) (s_pure (p_mv rfl)) ?_
          refine wo_nil ?_
          refine nx_norm ?_
          refine w_ret ?_
          refine nx_ret ?_
          exact qf ret_ok (rt rfl (rt rfl rn)) hr
        · refine w_condF g72 ?_
          refine w_skip ?_
          refine nx_norm ?_
          refine w_seq ?_
          refine w_ops ?_
          refine wo_step (v := v7_1) (s_pure (p_mv g7)) ?_
          refine wo_step (v := v7_1) (s_pure (p_mv rfl)) ?_
          refine wo_step (v := (.b true)) (s_pure (p_mv rfl)) ?_
          refine wo_nil ?_
          refine nx_norm ?_
          refine w_ret ?_
          exact qf ret_ok (rt rfl (rt rfl rn)) hr
    · obtain ⟨v4, c5, m_11⟩ := o_3
      rintro _ mm_1 t_7 ⟨rfl, rfl, g4, g5⟩
      refine bk_ret ?_
      refine nx_ret ?_
      exact qf ret_ok (rt g4 (rt g5 rn)) hr

/- dibber/dibberref04.step -/
abbrev g59_J0 (v0 : AVal) (x1 : Int) (m0 : Mm) (o : Int) (e : AExit) (m1 : Mm) (t1 : Tr) : Prop :=
  match o with
  | y9 => e = .norm ∧ m0 = m1 ∧ t1.get 9 = (.i .i64 y9) ∧ t1.get 0 = v0 ∧ t1.get 1 = (.i .i64 x1)
abbrev g59_J1 (v0 : AVal) (x1 : Int) (x9 : Int) (m0 : Mm) (o : Bool) (m1 : Mm) (t1 : Tr) : Prop :=
  match o with
  | c25 => m0 = m1 ∧ t1.get 25 = (.b c25) ∧ t1.get 0 = v0 ∧ t1.get 1 = (.i .i64 x1) ∧ t1.get 9 = (.i .i64 x9)
abbrev g59_J2 (v0 : AVal) (x1 : Int) (x9 : Int) (m0 : Mm) (o : Bool) (m1 : Mm) (t1 : Tr) : Prop :=
  match o with
  | c32 => m0 = m1 ∧ t1.get 32 = (.b c32) ∧ t1.get 0 = v0 ∧ t1.get 1 = (.i .i64 x1) ∧ t1.get 9 = (.i .i64 x9)
def g59 (M : Means) (ro : List ABlk) (v0 : AVal) (x1 : Int) (m0 : Mm) : Option (AVal × Heap × Nat × Nat) :=
  forceI (wr .i64 (x1 - 1)) fun x12 =>
  forceB (ltI x1 0) fun c14 =>
  bindO (α := Int) (
    cond c14 (
      forceI (wr .i64 (0 - x1)) fun x16 =>
      forceI (wr .i64 (x16 - 1)) fun x17 =>
      some x17) (
      some x12)) fun x9 =>
  forceB (eqI x1 0) fun c19 =>
  bindO (cond c19 (
    some true) (
    bindO (evP .e (.len false (.c v0))) fun v23 =>
    asI .i64 v23 fun x23 =>
    forceB (ltI x23 x1) fun c24 =>
    some c24)) fun c25 =>
  bindO (cond c25 (
    some true) (
    bindO (evP .e (.len false (.c v0))) fun v29 =>
    asI .i64 v29 fun x29 =>
    forceI (wr .i64 (0 - x29)) fun x30 =>
    forceB (ltI x1 x30) fun c31 =>
    some c31)) fun c32 =>
  cond c32 (
    finM m0.h.length (tupA [(.i .i64 0), (.i .i64 0), (.i .i64 0), (.i .i64 0), (.b false)]) m0) (
    bindO (evP .e (.ixS 4 (.c v0) (.c (.i .i64 x9)))) fun v35 =>
    bindO (ldM ro m0 false 4 v35) fun v36 =>
    bindP (stepM ro m0 (.al 31 [(AVal.i IntKind.i64 0), (AVal.i IntKind.i64 0), (AVal.i IntKind.i64 0), (AVal.i IntKind.i64 0)])) fun v10 m_1 =>
    bindP (stepM ro m_1 (.st 4 (.c v10) (.c v36))) fun vn m_2 =>
    forceB (ltI x1 0) fun c38 =>
    cond c38 (
      bindO (evP .e (.faddr 1 (.c v10))) fun v39 =>
      bindO (ldA ro m_2.h true 1 v39) fun v40 =>
      asI .i64 v40 fun x40 =>
      bindO (evP .e (.faddr 0 (.c v10))) fun v41 =>
      bindO (ldA ro m_2.h true 1 v41) fun v42 =>
      asI .i64 v42 fun x42 =>
      bindO (evP .e (.faddr 3 (.c v10))) fun v43 =>
      bindO (ldA ro m_2.h true 1 v43) fun v44 =>
      asI .i64 v44 fun x44 =>
      forceI (wr .i64 (0 - x44)) fun x45 =>
      bindO (evP .e (.faddr 2 (.c v10))) fun v46 =>
      bindO (ldA ro m_2.h true 1 v46) fun v47 =>
      asI .i64 v47 fun x47 =>
      forceI (wr .i64 (0 - x47)) fun x48 =>
      finM m0.h.length (tupA [(.i .i64 x40), (.i .i64 x42), (.i .i64 x45), (.i .i64 x48), (.b true)]) m_2) (
      bindO (evP .e (.faddr 0 (.c v10))) fun v49 =>
      bindO (ldA ro m_2.h true 1 v49) fun v50 =>
      asI .i64 v50 fun x50 =>
      bindO (evP .e (.faddr 1 (.c v10))) fun v51 =>
      bindO (ldA ro m_2.h true 1 v51) fun v52 =>
      asI .i64 v52 fun x52 =>
      bindO (evP .e (.faddr 2 (.c v10))) fun v53 =>
      bindO (ldA ro m_2.h true 1 v53) fun v54 =>
      asI .i64 v54 fun x54 =>
      bindO (evP .e (.faddr 3 (.c v10))) fun v55 =>
      bindO (ldA ro m_2.h true 1 v55) fun v56 =>
      asI .i64 v56 fun x56 =>
      finM m0.h.length (tupA [(.i .i64 x50), (.i .i64 x52), (.i .i64 x54), (.i .i64 x56), (.b true)]) m_2))

theorem g59_ok {ro : List ABlk} {O : Caller} {M : Means} (hM : M.Ok ⟨F, O⟩ ro) {v0 x1 h r} (ho : O 59 [v0, (.i .i64 x1)] h = none) (hr : g59 M ro v0 x1 ⟨h, h.length, h.length⟩ = some r) : callX ⟨F, O⟩ ro 59 [v0, (.i .i64 x1)] h = some r := by
  refine callX_of (F := ⟨F, O⟩) (fn := fn59) (g := g59 M ro v0 x1) ho rfl rfl hr ?_
  clear ho
  clear hr
  intro m0 t0 ht hr
  have g0 : t0.get 0 = v0 := ht 0
  have g1 : t0.get 1 = (.i .i64 x1) := ht 1
  clear ht
  unfold g59 at hr
  refine w_seq ?_
  refine w_ops ?_
  refine wo_step (v := (.i .i64 0)) (s_pure (p_mv rfl)) ?_
  refine wo_step (v := (.i .i64 0)) (s_pure (p_mv rfl)) ?_
  refine wo_step (v := (.i .i64 0)) (s_pure (p_mv rfl)) ?_
  refine wo_step (v := (.i .i64 0)) (s_pure (p_mv rfl)) ?_
  refine wo_step (v := (.b false)) (s_pure (p_mv rfl)) ?_
  refine wo_nil ?_
  refine nx_norm ?_
  refine w_seq ?_
  refine w_ops ?_
  refine wo_step (v := (.i .i64 x1)) (s_pure (p_mv g1)) ?_
  have hq := forceI_inv hr
  clear hr
  obtain ⟨x12, e12, hr⟩ := hq
  refine wo_step (v := (.i .i64 x12)) (s_pure (p_bin rfl rfl (b_sub.trans (ci e12)))) ?_
  refine wo_step (v := (.i .i64 x12)) (s_pure (p_mv rfl)) ?_
  refine wo_nil ?_
  refine nx_norm ?_
  refine w_seq ?_
  refine w_seq ?_
  refine w_ops ?_
  refine wo_step (v := (.i .i64 x1)) (s_pure (p_mv g1)) ?_
  have hq := forceB_inv hr
  clear hr
  obtain ⟨c14, e14, hr⟩ := hq
  refine wo_step (v := (.b c14)) (s_pure (p_bin rfl rfl (b_lss.trans (cb e14)))) ?_
  refine wo_nil ?_
  refine nx_norm ?_
  have hq := bindO_inv hr
  clear hr
  obtain ⟨o, hr, hk⟩ := hq
  refine jp_mono (J := g59_J0 v0 x1 m0 o) ?_ ?_
  · clear hk
    have hq := cond_inv hr
    clear hr
    rcases hq with ⟨rfl, hr⟩ | ⟨rfl, hr⟩
    · refine w_condT rfl ?_
      refine w_ops ?_
      refine wo_step (v := (.i .i64 x1)) (s_pure (p_mv g1)) ?_
      have hq := forceI_inv hr
      clear hr
      obtain ⟨x16, e16, hr⟩ := hq
      refine wo_step (v := (.i .i64 x16)) (s_pure ((p_neg rfl).trans (ci e16))) ?_
      have hq := forceI_inv hr
      clear hr
      obtain ⟨x17, e17, hr⟩ := hq
      refine wo_step (v := (.i .i64 x17)) (s_pure (p_bin rfl rfl (b_sub.trans (ci e17)))) ?_
      refine wo_step (v := (.i .i64 x17)) (s_pure (p_mv rfl)) ?_
      refine wo_nil ?_
      cases hr
      exact ⟨_, _, rfl, rfl, rfl, gl rfl, gl g0, gl g1⟩
    · refine w_condF rfl ?_
      refine w_skip ?_
      cases hr
      exact ⟨_, _, rfl, rfl, rfl, gl rfl, gl g0, gl g1⟩
  · have hr := hk
    clear hk
    obtain ⟨x9, ho⟩ : ∃ z, z = o := ⟨_, rfl⟩
    subst ho
    rintro _ mm_2 t_1 ⟨rfl, rfl, g9, g0, g1⟩
    refine nx_norm ?_
    refine w_seq ?_
    refine w_seq ?_
    refine w_ops ?_
    refine wo_step (v := (.i .i64 x1)) (s_pure (p_mv g1)) ?_
    have hq := forceB_inv hr
    clear hr
    obtain ⟨c19, e19, hr⟩ := hq
    refine wo_step (v := (.b c19)) (s_pure (p_bin rfl rfl (b_eql.trans (cb e19)))) ?_
    refine wo_step (v := (.b c19)) (s_pure (p_mv rfl)) ?_
    have hq := bindO_inv hr
    clear hr
    obtain ⟨o_1, hr, hk⟩ := hq
    refine wo_join 5 (g59_J1 v0 x1 x9 m0 o_1) ?_ ?_
    · clear hk
      have hq := cond_inv hr
      clear hr
      rcases hq with ⟨rfl, hr⟩ | ⟨rfl, hr⟩
      · refine wo_skip (v := (.b true)) rfl rfl ?_
        refine wo_skip (v := (.b true)) rfl rfl ?_
        refine wo_skip (v := (.b true)) rfl rfl ?_
        refine wo_skip (v := (.b true)) rfl rfl ?_
        refine wo_step (v := (.b true)) (s_pure (p_pickT rfl rfl)) ?_
        refine wo_nil ?_
        cases hr
        exact ⟨_, _, rfl, rfl, gl rfl, gl g0, gl g1, gl g9⟩
      · refine wo_take (v := (.i .i64 x1)) rfl (s_pure (p_mv g1)) ?_
        refine wo_take (v := v0) rfl (s_pure (p_mv g0)) ?_
        have hq := bindO_inv hr
        clear hr
        obtain ⟨v23, e23, hr⟩ := hq
        have hq := asI_inv hr
        clear hr
        obtain ⟨x23, rfl, hr⟩ := hq
        refine wo_take (v := (.i .i64 x23)) rfl (s_pure (o_len rfl e23)) ?_
        have hq := forceB_inv hr
        clear hr
        obtain ⟨c24, e24, hr⟩ := hq
        refine wo_take (v := (.b c24)) rfl (s_pure (p_bin rfl rfl (b_gtr.trans (cb e24)))) ?_
        refine wo_step (v := (.b c24)) (s_pure (p_pickF rfl rfl)) ?_
        refine wo_nil ?_
        cases hr
        exact ⟨_, _, rfl, rfl, gl rfl, gl g0, gl g1, gl g9⟩
    · clear hr
      have hr := hk
      clear hk
      obtain ⟨c25, ho⟩ : ∃ z, z = o_1 := ⟨_, rfl⟩
      subst ho
      rintro mm t_2 ⟨rfl, g25, g0, g1, g9⟩
      refine wo_step (v := (.b c25)) (s_pure (p_mv g25)) ?_
      have hq := bindO_inv hr
      clear hr
      obtain ⟨o_2, hr, hk⟩ := hq
      refine wo_join 6 (g59_J2 v0 x1 x9 m0 o_2) ?_ ?_
      · clear hk
        have hq := cond_inv hr
        clear hr
        rcases hq with ⟨rfl, hr⟩ | ⟨rfl, hr⟩
        · refine wo_skip (v := (.b true)) rfl rfl ?_
          refine wo_skip (v := (.b true)) rfl rfl ?_
          refine wo_skip (v := (.b true)) rfl rfl ?_
          refine wo_skip (v := (.b true)) rfl rfl ?_
          refine wo_skip (v := (.b true)) rfl rfl ?_
          refine wo_step (v := (.b true)) (s_pure (p_pickT rfl rfl)) ?_
          refine wo_nil ?_
          cases hr
          exact ⟨_, _, rfl, rfl, gl rfl, gl g0, gl g1, gl g9⟩
        · refine wo_take (v := (.i .i64 x1)) rfl (s_pure (p_mv g1)) ?_
          refine wo_take (v := v0) rfl (s_pure (p_mv g0)) ?_
          have hq := bindO_inv hr
          clear hr
          obtain ⟨v29, e29, hr⟩ := hq
          have hq := asI_inv hr
          clear hr
          obtain ⟨x29, rfl, hr⟩ := hq
          refine wo_take (v := (.i .i64 x29)) rfl (s_pure (o_len rfl e29)) ?_
          have hq := forceI_inv hr
          clear hr
          obtain ⟨x30, e30, hr⟩ := hq
          refine wo_take (v := (.i .i64 x30)) rfl (s_pure ((p_neg rfl).trans (ci e30))) ?_
          have hq := forceB_inv hr
          clear hr
          obtain ⟨c31, e31, hr⟩ := hq
          refine wo_take (v := (.b c31)) rfl (s_pure (p_bin rfl rfl (b_lss.trans (cb e31)))) ?_
          refine wo_step (v := (.b c31)) (s_pure (p_pickF rfl rfl)) ?_
          refine wo_nil ?_
          cases hr
          exact ⟨_, _, rfl, rfl, gl rfl, gl g0, gl g1, gl g9⟩
      · clear hr
        have hr := hk
        clear hk
        obtain ⟨c32, ho⟩ : ∃ z, z = o_2 := ⟨_, rfl⟩
        subst ho
        rintro mm_1 t_3 ⟨rfl, g32, g0, g1, g9⟩
        refine wo_nil ?_
        refine nx_norm ?_
        have hq := cond_inv hr
        clear hr
        rcases hq with ⟨rfl, hr⟩ | ⟨rfl, hr⟩
        · refine w_condT g32 ?_
          refine w_seq ?_
          refine w_ops ?_
          refine wo_step (v := (.i .i64 0)) (s_pure (p_mv rfl)) ?_
          refine wo_step (v := (.i .i64 0)) (s_pure (p_mv rfl)) ?_
          refine wo_step (v := (.i .i64 0)) (s_pure (p_mv rfl)) ?_
          refine wo_step (v := (.i .i64 0)) (s_pure (p_mv rfl)) ?_
          refine wo_step (v := (.b false)) (s_pure (p_mv rfl)) ?_
          refine wo_nil ?_
          refine nx_norm ?_
          refine w_ret ?_
          refine nx_ret ?_
          exact qf ret_ok (rt rfl (rt rfl (rt rfl (rt rfl (rt rfl rn))))) hr
        · refine w_condF g32 ?_
          refine w_skip ?_
          refine nx_norm ?_
          refine w_seq ?_
          refine w_ops ?_
          refine wo_step (v := v0) (s_pure (p_mv g0)) ?_
          refine wo_step (v := (.i .i64 x9)) (s_pure (p_mv g9)) ?_
          have hq := bindO_inv hr
          clear hr
          obtain ⟨v35, e35, hr⟩ := hq
          refine wo_step (v := v35) (s_pure (o_ixS rfl rfl e35)) ?_
          have hq := bindO_inv hr
          clear hr
          obtain ⟨v36, e36, hr⟩ := hq
          refine wo_step (v := v36) (s_ld rfl e36) ?_
          have hq := bindP_inv hr
          clear hr
          obtain ⟨v10, m_1, e10, hr⟩ := hq
          refine wo_step (v := v10) (s_al e10) ?_
          have hq := bindP_inv hr
          clear hr
          obtain ⟨vn, m_2, en, hr⟩ := hq
          refine wo_stepN (s_st rfl rfl en) ?_
          refine wo_nil ?_
          refine nx_norm ?_
          refine w_seq ?_
          refine w_seq ?_
          refine w_ops ?_
          refine wo_step (v := (.i .i64 x1)) (s_pure (p_mv g1)) ?_
          have hq := forceB_inv hr
          clear hr
          obtain ⟨c38, e38, hr⟩ := hq
          refine wo_step (v := (.b c38)) (s_pure (p_bin rfl rfl (b_lss.trans (cb e38)))) ?_
          refine wo_nil ?_
          refine nx_norm ?_
          have hq := cond_inv hr
          clear hr
          rcases hq with ⟨rfl, hr⟩ | ⟨rfl, hr⟩
          · refine w_condT rfl ?_
            refine w_seq ?_
            refine w_any ?_
            have hq := bindO_inv hr
            clear hr
            obtain ⟨v39, e39, hr⟩ := hq
            refine wa_step (v := v39) (a_pure (o_faddr rfl e39)) ?_
            have hq := bindO_inv hr
            clear hr
            obtain ⟨v40, e40, hr⟩ := hq
            have hq := asI_inv hr
            clear hr
            obtain ⟨x40, rfl, hr⟩ := hq
            refine wa_step (v := (.i .i64 x40)) (a_ld rfl e40) ?_
            have hq := bindO_inv hr
            clear hr
            obtain ⟨v41, e41, hr⟩ := hq
            refine wa_step (v := v41) (a_pure (o_faddr rfl e41)) ?_
            have hq := bindO_inv hr
            clear hr
            obtain ⟨v42, e42, hr⟩ := hq
            have hq := asI_inv hr
            clear hr
            obtain ⟨x42, rfl, hr⟩ := hq
            refine wa_step (v := (.i .i64 x42)) (a_ld rfl e42) ?_
            have hq := bindO_inv hr
            clear hr
            obtain ⟨v43, e43, hr⟩ := hq
            refine wa_step (v := v43) (a_pure (o_faddr rfl e43)) ?_
            have hq := bindO_inv hr
            clear hr
            obtain ⟨v44, e44, hr⟩ := hq
            have hq := asI_inv hr
            clear hr
            obtain ⟨x44, rfl, hr⟩ := hq
            refine wa_step (v := (.i .i64 x44)) (a_ld rfl e44) ?_
            have hq := forceI_inv hr
            clear hr
            obtain ⟨x45, e45, hr⟩ := hq
            refine wa_step (v := (.i .i64 x45)) (a_pure ((p_neg rfl).trans (ci e45))) ?_
            have hq := bindO_inv hr
            clear hr
            obtain ⟨v46, e46, hr⟩ := hq
            refine wa_step (v := v46) (a_pure (o_faddr rfl e46)) ?_
            have hq := bindO_inv hr
            clear hr
            obtain ⟨v47, e47, hr⟩ := hq
            have hq := asI_inv hr
            clear hr
            obtain ⟨x47, rfl, hr⟩ := hq
            refine wa_step (v := (.i .i64 x47)) (a_ld rfl e47) ?_
            have hq := forceI_inv hr
            clear hr
            obtain ⟨x48, e48, hr⟩ := hq
            refine wa_step (v := (.i .i64 x48)) (a_pure ((p_neg rfl).trans (ci e48))) ?_
            refine wa_step (v := (.i .i64 x40)) (a_pure (p_mv rfl)) ?_
            refine wa_step (v := (.i .i64 x42)) (a_pure (p_mv rfl)) ?_
            refine wa_step (v := (.i .i64 x45)) (a_pure (p_mv rfl)) ?_
            refine wa_step (v := (.i .i64 x48)) (a_pure (p_mv rfl)) ?_
            refine wa_step (v := (.b true)) (a_pure (p_mv rfl)) ?_
            refine wa_nil ?_
            refine ⟨m_2, rfl, ?_⟩
            refine nx_norm ?_
            refine w_ret ?_
            refine nx_ret ?_
            exact qf ret_ok (rt rfl (rt rfl (rt rfl (rt rfl (rt rfl rn))))) hr
          · refine w_condF rfl ?_
            refine w_skip ?_
            refine nx_norm ?_
            refine w_seq ?_
            refine w_any ?_
            have hq := bindO_inv hr
            clear hr
            obtain ⟨v49, e49, hr⟩ := hq
            refine wa_step (v := v49) (a_pure (o_faddr rfl e49)) ?_
            have hq := bindO_inv hr
            clear hr
            obtain ⟨v50, e50, hr⟩ := hq
            have hq := asI_inv hr
            clear hr
            obtain ⟨x50, rfl, hr⟩ := hq
            refine wa_step (v := (.i .i64 x50)) (a_ld rfl e50) ?_
            have hq := bindO_inv hr
            clear hr
            obtain ⟨v51, e51, hr⟩ := hq
            refine wa_step (v := v51) (a_pure (o_faddr rfl e51)) ?_
            have hq := bindO_inv hr
            clear hr
            obtain ⟨v52, e52, hr⟩ := hq
            have hq := asI_inv hr
            clear hr
            obtain ⟨x52, rfl, hr⟩ := hq
            refine wa_step (v := (.i .i64 x52)) (a_ld rfl e52) ?_
            have hq := bindO_inv hr
            clear hr
            obtain ⟨v53, e53, hr⟩ := hq
            refine wa_step (v := v53) (a_pure (o_faddr rfl e53)) ?_
            have hq := bindO_inv hr
            clear hr
            obtain ⟨v54, e54, hr⟩ := hq
            have hq := asI_inv hr
            clear hr
            obtain ⟨x54, rfl, hr⟩ := hq
            refine wa_step (v := (.i .i64 x54)) (a_ld rfl e54) ?_
            have hq := bindO_inv hr
            clear hr
            obtain ⟨v55, e55, hr⟩ := hq
            refine wa_step (v := v55) (a_pure (o_faddr rfl e55)) ?_
            have hq := bindO_inv hr
            clear hr
            obtain ⟨v56, e56, hr⟩ := hq
            have hq := asI_inv hr
            clear hr
            obtain ⟨x56, rfl, hr⟩ := hq
            refine wa_step (v := (.i .i64 x56)) (a_ld rfl e56) ?_
            refine wa_step (v := (.i .i64 x50)) (a_pure (p_mv rfl)) ?_
            refine wa_step (v := (.i .i64 x52)) (a_pure (p_mv rfl)) ?_
            refine wa_step (v := (.i .i64 x54)) (a_pure (p_mv rfl)) ?_
            refine wa_step (v := (.i .i64 x56)) (a_pure (p_mv rfl)) ?_
            refine wa_step (v := (.b true)) (a_pure (p_mv rfl)) ?_
            refine wa_nil ?_
            refine ⟨m_2, rfl, ?_⟩
            refine nx_norm ?_
            refine w_ret ?_
            exact qf ret_ok (rt rfl (rt rfl (rt rfl (rt rfl (rt rfl rn))))) hr

/- (dibber/turn.demands).allows -/
abbrev g60_J0 (v2 : AVal) (v3 : AVal) (m_2 : Mm) (o : Bool) (m1 : Mm) (t1 : Tr) : Prop :=
  match o with
  | c17 => m_2 = m1 ∧ t1.get 17 = (.b c17) ∧ t1.get 2 = v2 ∧ t1.get 3 = v3
abbrev g60_J1 (v2 : AVal) (v3 : AVal) (m_2 : Mm) (o : Bool) (m1 : Mm) (t1 : Tr) : Prop :=
  match o with
  | c27 => m_2 = m1 ∧ t1.get 27 = (.b c27) ∧ t1.get 2 = v2 ∧ t1.get 3 = v3
abbrev g60_J2 (v2 : AVal) (v3 : AVal) (m_2 : Mm) (o : Bool) (m1 : Mm) (t1 : Tr) : Prop :=
  match o with
  | c35 => m_2 = m1 ∧ t1.get 35 = (.b c35) ∧ t1.get 2 = v2 ∧ t1.get 3 = v3
abbrev g60_J3 (m_2 : Mm) (o : Bool) (m1 : Mm) (t1 : Tr) : Prop :=
  match o with
  | c51 => m_2 = m1 ∧ t1.get 51 = (.b c51)
def g60 (M : Means) (ro : List ABlk) (v0 : AVal) (v1 : AVal) (m0 : Mm) : Option (AVal × Heap × Nat × Nat) :=
  bindP (stepM ro m0 (.bx 55 3 (.c v0))) fun v2 m_1 =>
  bindP (stepM ro m_1 (.bx 31 4 (.c v1))) fun v3 m_2 =>
  bindO (evP .e (.faddr 0 (.c v3))) fun v5 =>
  bindO (ldM ro m_2 true 1 v5) fun v6 =>
  asI .i64 v6 fun x6 =>
  bindO (evP .e (.faddr 1 (.c v3))) fun v7 =>
  bindO (ldM ro m_2 true 1 v7) fun v8 =>
  asI .i64 v8 fun x8 =>
  forceB (eqI x6 x8) fun c9 =>
  bindO (cond c9 (
    some true) (
    bindO (evP .e (.faddr 0 (.c v3))) fun v11 =>
    bindO (ldM ro m_2 true 1 v11) fun v12 =>
    asI .i64 v12 fun x12 =>
    bindO (evP .e (.faddr 1 (.c v3))) fun v13 =>
    bindO (ldM ro m_2 true 1 v13) fun v14 =>
    asI .i64 v14 fun x14 =>
    forceI (mxV false x12 x14) fun x15 =>
    forceB (ltI x15 0) fun c16 =>
    some c16)) fun c17 =>
  bindO (cond c17 (
    some true) (
    bindO (evP .e (.faddr 0 (.c v3))) fun v19 =>
    bindO (ldM ro m_2 true 1 v19) fun v20 =>
    asI .i64 v20 fun x20 =>
    bindO (evP .e (.faddr 1 (.c v3))) fun v21 =>
    bindO (ldM ro m_2 true 1 v21) fun v22 =>
    asI .i64 v22 fun x22 =>
    forceI (mxV true x20 x22) fun x23 =>
    bindO (evP .e (.faddr 1 (.c v2))) fun v24 =>
    bindO (ldM ro m_2 true 1 v24) fun v25 =>
    asI .i64 v25 fun x25 =>
    forceB (!ltI x23 x25) fun c26 =>
    some c26)) fun c27 =>
  cond c27 (
    finM m0.h.length (tupA [(.b false)]) m_2) (
    bindO (evP .e (.faddr 2 (.c v3))) fun v28 =>
    bindO (ldM ro m_2 true 1 v28) fun v29 =>
    asI .i64 v29 fun x29 =>
    forceB (ltI x29 (-600)) fun c30 =>
    bindO (cond c30 (
      some true) (
      bindO (evP .e (.faddr 2 (.c v3))) fun v32 =>
      bindO (ldM ro m_2 true 1 v32) fun v33 =>
      asI .i64 v33 fun x33 =>
      forceB (ltI 600 x33) fun c34 =>
      some c34)) fun c35 =>
    cond c35 (
      finM m0.h.length (tupA [(.b false)]) m_2) (
      bindO (evP .e (.faddr 3 (.c v3))) fun v36 =>
      bindO (ldM ro m_2 true 1 v36) fun v37 =>
      asI .i64 v37 fun x37 =>
      bindO (evP .e (.faddr 2 (.c v3))) fun v38 =>
      bindO (ldM ro m_2 true 1 v38) fun v39 =>
      asI .i64 v39 fun x39 =>
      forceB (!ltI x37 x39) fun c40 =>
      bindO (cond c40 (
        bindO (evP .e (.faddr 3 (.c v3))) fun v42 =>
        bindO (ldM ro m_2 true 1 v42) fun v43 =>
        asI .i64 v43 fun x43 =>
        bindO (evP .e (.faddr 2 (.c v3))) fun v44 =>
        bindO (ldM ro m_2 true 1 v44) fun v45 =>
        asI .i64 v45 fun x45 =>
        bindO (evP .e (.faddr 0 (.c v2))) fun v46 =>
        bindO (ldM ro m_2 true 1 v46) fun v47 =>
        asI .i64 v47 fun x47 =>
        forceI (wr .i64 (x45 + x47)) fun x48 =>
        forceI (wr .i64 (x48 - 1)) fun x49 =>
        forceB (!ltI x49 x43) fun c50 =>
        some c50) (
        some false)) fun c51 =>
      finM m0.h.length (tupA [(.b c51)]) m_2))

theorem g60_ok {ro : List ABlk} {O : Caller} {M : Means} (hM : M.Ok ⟨F, O⟩ ro) {v0 v1 h r} (ho : O 60 [v0, v1] h = none) (hr : g60 M ro v0 v1 ⟨h, h.length, h.length⟩ = some r) : callX ⟨F, O⟩ ro 60 [v0, v1] h = some r := by
  refine callX_of (F := ⟨F, O⟩) (fn := fn60) (g := g60 M ro v0 v1) ho rfl rfl hr ?_
  clear ho
  clear hr
  intro m0 t0 ht hr
  have g0 : t0.get 0 = v0 := ht 0
  have g1 : t0.get 1 = v1 := ht 1
  clear ht
  unfold g60 at hr
  refine w_seq ?_
  refine w_ops ?_
  have hq := bindP_inv hr
  clear hr
  obtain ⟨v2, m_1, e2, hr⟩ := hq
  refine wo_step (v := v2) (s_bx g0 e2) ?_
  have hq := bindP_inv hr
  clear hr
  obtain ⟨v3, m_2, e3, hr⟩ := hq
  refine wo_step (v := v3) (s_bx g1 e3) ?_
  refine wo_step (v := (.b false)) (s_pure (p_mv rfl)) ?_
  refine wo_nil ?_
  refine nx_norm ?_
  refine w_seq ?_
  refine w_seq ?_
  refine w_ops ?_
  have hq := bindO_inv hr
  clear hr
  obtain ⟨v5, e5, hr⟩ := hq
  refine wo_step (v := v5) (s_pure (o_faddr rfl e5)) ?_
  have hq := bindO_inv hr
  clear hr
  obtain ⟨v6, e6, hr⟩ := hq
  have hq := asI_inv hr
  clear hr
  obtain ⟨x6, rfl, hr⟩ := hq
  refine wo_step (v := (.i .i64 x6)) (s_ld rfl e6) ?_
  have hq := bindO_inv hr
  clear hr
  obtain ⟨v7, e7, hr⟩ := hq
  refine wo_step (v := v7) (s_pure (o_faddr rfl e7)) ?_
  have hq := bindO_inv hr
  clear hr
  obtain ⟨v8, e8, hr⟩ := hq
  have hq := asI_inv hr
  clear hr
  obtain ⟨x8, rfl, hr⟩ := hq
  refine wo_step (v := (.i .i64 x8)) (s_ld rfl e8) ?_
  have hq := forceB_inv hr
  clear hr
  obtain ⟨c9, e9, hr⟩ := hq
  refine wo_step (v := (.b c9)) (s_pure (p_bin rfl rfl (b_eql.trans (cb e9)))) ?_
  refine wo_step (v := (.b c9)) (s_pure (p_mv rfl)) ?_
  have hq := bindO_inv hr
  clear hr
  obtain ⟨o, hr, hk⟩ := hq
  refine wo_join 7 (g60_J0 v2 v3 m_2 o) ?_ ?_
  · clear hk
    have hq := cond_inv hr
    clear hr
    rcases hq with ⟨rfl, hr⟩ | ⟨rfl, hr⟩
    · refine wo_skip (v := (.b true)) rfl rfl ?_
      refine wo_skip (v := (.b true)) rfl rfl ?_
      refine wo_skip (v := (.b true)) rfl rfl ?_
      refine wo_skip (v := (.b true)) rfl rfl ?_
      refine wo_skip (v := (.b true)) rfl rfl ?_
      refine wo_skip (v := (.b true)) rfl rfl ?_
      refine wo_step (v := (.b true)) (s_pure (p_pickT rfl rfl)) ?_
      refine wo_nil ?_
      cases hr
      exact ⟨_, _, rfl, rfl, gl rfl, gl rfl, gl rfl⟩
    · have hq := bindO_inv hr
      clear hr
      obtain ⟨v11, e11, hr⟩ := hq
      refine wo_take (v := v11) rfl (s_pure (o_faddr rfl e11)) ?_
      have hq := bindO_inv hr
      clear hr
      obtain ⟨v12, e12, hr⟩ := hq
      have hq := asI_inv hr
      clear hr
      obtain ⟨x12, rfl, hr⟩ := hq
      refine wo_take (v := (.i .i64 x12)) rfl (s_ld rfl e12) ?_
      have hq := bindO_inv hr
      clear hr
      obtain ⟨v13, e13, hr⟩ := hq
      refine wo_take (v := v13) rfl (s_pure (o_faddr rfl e13)) ?_
      have hq := bindO_inv hr
      clear hr
      obtain ⟨v14, e14, hr⟩ := hq
      have hq := asI_inv hr
      clear hr
      obtain ⟨x14, rfl, hr⟩ := hq
      refine wo_take (v := (.i .i64 x14)) rfl (s_ld rfl e14) ?_
      have hq := forceI_inv hr
      clear hr
      obtain ⟨x15, e15, hr⟩ := hq
      refine wo_take (v := (.i .i64 x15)) rfl (s_pure ((p_mx rfl rfl).trans (ci e15))) ?_
      have hq := forceB_inv hr
      clear hr
      obtain ⟨c16, e16, hr⟩ := hq
      refine wo_take (v := (.b c16)) rfl (s_pure (p_bin rfl rfl (b_lss.trans (cb e16)))) ?_
      refine wo_step (v := (.b c16)) (s_pure (p_pickF rfl rfl)) ?_
      refine wo_nil ?_
      cases hr
      exact ⟨_, _, rfl, rfl, gl rfl, gl rfl, gl rfl⟩
  · clear hr
    have hr := hk
    clear hk
    obtain ⟨c17, ho⟩ : ∃ z, z = o := ⟨_, rfl⟩
    subst ho
    rintro mm t_1 ⟨rfl, g17, g2, g3⟩
    refine wo_step (v := (.b c17)) (s_pure (p_mv g17)) ?_
    have hq := bindO_inv hr
    clear hr
    obtain ⟨o_1, hr, hk⟩ := hq
    refine wo_join 9 (g60_J1 v2 v3 m_2 o_1) ?_ ?_
    · clear hk
      have hq := cond_inv hr
      clear hr
      rcases hq with ⟨rfl, hr⟩ | ⟨rfl, hr⟩
      · refine wo_skip (v := (.b true)) rfl rfl ?_
        refine wo_skip (v := (.b true)) rfl rfl ?_
        refine wo_skip (v := (.b true)) rfl rfl ?_
        refine wo_skip (v := (.b true)) rfl rfl ?_
        refine wo_skip (v := (.b true)) rfl rfl ?_
        refine wo_skip (v := (.b true)) rfl rfl ?_
        refine wo_skip (v := (.b true)) rfl rfl ?_
        refine wo_skip (v := (.b true)) rfl rfl ?_
        refine wo_step (v := (.b true)) (s_pure (p_pickT rfl rfl)) ?_
        refine wo_nil ?_
        cases hr
        exact ⟨_, _, rfl, rfl, gl rfl, gl g2, gl g3⟩
      · have hq := bindO_inv hr
        clear hr
        obtain ⟨v19, e19, hr⟩ := hq
        refine wo_take (v := v19) rfl (s_pure (o_faddr g3 e19)) ?_
        have hq := bindO_inv hr
        clear hr
        obtain ⟨v20, e20, hr⟩ := hq
        have hq := asI_inv hr
        clear hr
        obtain ⟨x20, rfl, hr⟩ := hq
        refine wo_take (v := (.i .i64 x20)) rfl (s_ld rfl e20) ?_
        have hq := bindO_inv hr
        clear hr
        obtain ⟨v21, e21, hr⟩ := hq
        refine wo_take (v := v21) rfl (s_pure (o_faddr g3 e21)) ?_
        have hq := bindO_inv hr
        clear hr
        obtain ⟨v22, e22, hr⟩ := hq
        have hq := asI_inv hr
        clear hr
        obtain ⟨x22, rfl, hr⟩ := hq
        refine wo_take (v := (.i .i64 x22)) rfl (s_ld rfl e22) ?_
        have hq := forceI_inv hr
        clear hr
        obtain ⟨x23, e23, hr⟩ := hq
        refine wo_take (v := (.i .i64 x23)) rfl (s_pure ((p_mx rfl rfl).trans (ci e23))) ?_
        have hq := bindO_inv hr
        clear hr
        obtain ⟨v24, e24, hr⟩ := hq
        refine wo_take (v := v24) rfl (s_pure (o_faddr g2 e24)) ?_
        have hq := bindO_inv hr
        clear hr
        obtain ⟨v25, e25, hr⟩ := hq
        have hq := asI_inv hr
        clear hr
        obtain ⟨x25, rfl, hr⟩ := hq
        refine wo_take (v := (.i .i64 x25)) rfl (s_ld rfl e25) ?_
        have hq := forceB_inv hr
        clear hr
        obtain ⟨c26, e26, hr⟩ := hq
        refine wo_take (v := (.b c26)) rfl (s_pure (p_bin rfl rfl (b_geq.trans (cb e26)))) ?_
        refine wo_step (v := (.b c26)) (s_pure (p_pickF rfl rfl)) ?_
        refine wo_nil ?_
        cases hr
        exact ⟨_, _, rfl, rfl, gl rfl, gl g2, gl g3⟩
    · clear hr
      have hr := hk
      clear hk
      obtain ⟨c27, ho⟩ : ∃ z, z = o_1 := ⟨_, rfl⟩
      subst ho
      rintro mm_1 t_2 ⟨rfl, g27, g2, g3⟩
      refine wo_nil ?_
      refine nx_norm ?_
      have hq := cond_inv hr
      clear hr
      rcases hq with ⟨rfl, hr⟩ | ⟨rfl, hr⟩
      · refine w_condT g27 ?_
        refine w_seq ?_
        refine w_ops ?_
        refine wo_step (v := (.b false)) (s_pure (p_mv rfl)) ?_
        refine wo_nil ?_
        refine nx_norm ?_
        refine w_ret ?_
        refine nx_ret ?_
        exact qf ret_ok (rt rfl rn) hr
      · refine w_condF g27 ?_
        refine w_skip ?_
        refine nx_norm ?_
        refine w_seq ?_
        refine w_seq ?_
        refine w_ops ?_
        have hq := bindO_inv hr
        clear hr
        obtain ⟨v28, e28, hr⟩ := hq
        refine wo_step (v := v28) (s_pure (o_faddr g3 e28)) ?_
        have hq := bindO_inv hr
        clear hr
        obtain ⟨v29, e29, hr⟩ := hq
        have hq := asI_inv hr
        clear hr
        obtain ⟨x29, rfl, hr⟩ := hq
        refine wo_step (v := (.i .i64 x29)) (s_ld rfl e29) ?_
        have hq := forceB_inv hr
        clear hr
        obtain ⟨c30, e30, hr⟩ := hq
        refine wo_step (v := (.b c30)) (s_pure (p_bin rfl rfl (b_lss.trans (cb e30)))) ?_
        refine wo_step (v := (.b c30)) (s_pure (p_mv rfl)) ?_
        have hq := bindO_inv hr
        clear hr
        obtain ⟨o_2, hr, hk⟩ := hq
        refine wo_join 4 (g60_J2 v2 v3 m_2 o_2) ?_ ?_
        · clear hk
          have hq := cond_inv hr
          clear hr
          rcases hq with ⟨rfl, hr⟩ | ⟨rfl, hr⟩
          · refine wo_skip (v := (.b true)) rfl rfl ?_
            refine wo_skip (v := (.b true)) rfl rfl ?_
            refine wo_skip (v := (.b true)) rfl rfl ?_
            refine wo_step (v := (.b true)) (s_pure (p_pickT rfl rfl)) ?_
            refine wo_nil ?_
            cases hr
            exact ⟨_, _, rfl, rfl, gl rfl, gl g2, gl g3⟩
          · have hq := bindO_inv hr
            clear hr
            obtain ⟨v32, e32, hr⟩ := hq
            refine wo_take (v := v32) rfl (s_pure (o_faddr g3 e32)) ?_
            have hq := bindO_inv hr
            clear hr
            obtain ⟨v33, e33, hr⟩ := hq
            have hq := asI_inv hr
            clear hr
            obtain ⟨x33, rfl, hr⟩ := hq
            refine wo_take (v := (.i .i64 x33)) rfl (s_ld rfl e33) ?_
            have hq := forceB_inv hr
            clear hr
            obtain ⟨c34, e34, hr⟩ := hq
            refine wo_take (v := (.b c34)) rfl (s_pure (p_bin rfl rfl (b_gtr.trans (cb e34)))) ?_
            refine wo_step (v := (.b c34)) (s_pure (p_pickF rfl rfl)) ?_
            refine wo_nil ?_
            cases hr
            exact ⟨_, _, rfl, rfl, gl rfl, gl g2, gl g3⟩
        · clear hr
          have hr := hk
          clear hk
          obtain ⟨c35, ho⟩ : ∃ z, z = o_2 := ⟨_, rfl⟩
          subst ho
          rintro mm_2 t_3 ⟨rfl, g35, g2, g3⟩
          refine wo_nil ?_
          refine nx_norm ?_
          have hq := cond_inv hr
          clear hr
          rcases hq with ⟨rfl, hr⟩ | ⟨rfl, hr⟩
          · refine w_condT g35 ?_
            refine w_seq ?_
            refine w_ops ?_
            refine wo_step (v := (.b false)) (s_pure (p_mv rfl)) ?_
            refine wo_nil ?_
            refine nx_norm ?_
            refine w_ret ?_
            refine nx_ret ?_
            exact qf ret_ok (rt rfl rn) hr
          · refine w_condF g35 ?_
            refine w_skip ?_
            refine nx_norm ?_
            refine w_seq ?_
            refine w_ops ?_
            have hq := bindO_inv hr
            clear hr
            obtain ⟨v36, e36, hr⟩ := hq
            refine wo_step (v := v36) (s_pure (o_faddr g3 e36)) ?_
            have hq := bindO_inv hr
            clear hr
            obtain ⟨v37, e37, hr⟩ := hq
            have hq := asI_inv hr
            clear hr
            obtain ⟨x37, rfl, hr⟩ := hq
            refine wo_step (v := (.i .i64 x37)) (s_ld rfl e37) ?_
            have hq := bindO_inv hr
            clear hr
            obtain ⟨v38, e38, hr⟩ := hq
            refine wo_step (v := v38) (s_pure (o_faddr g3 e38)) ?_
            have hq := bindO_inv hr
            clear hr
            obtain ⟨v39, e39, hr⟩ := hq
            have hq := asI_inv hr
            clear hr
            obtain ⟨x39, rfl, hr⟩ := hq
            refine wo_step (v := (.i .i64 x39)) (s_ld rfl e39) ?_
            have hq := forceB_inv hr
            clear hr
            obtain ⟨c40, e40, hr⟩ := hq
            refine wo_step (v := (.b c40)) (s_pure (p_bin rfl rfl (b_geq.trans (cb e40)))) ?_
            refine wo_step (v := (.b c40)) (s_pure (p_mv rfl)) ?_
            have hq := bindO_inv hr
            clear hr
            obtain ⟨o_3, hr, hk⟩ := hq
            refine wo_join 10 (g60_J3 m_2 o_3) ?_ ?_
            · clear hk
              have hq := cond_inv hr
              clear hr
              rcases hq with ⟨rfl, hr⟩ | ⟨rfl, hr⟩
              · have hq := bindO_inv hr
                clear hr
                obtain ⟨v42, e42, hr⟩ := hq
                refine wo_take (v := v42) rfl (s_pure (o_faddr g3 e42)) ?_
                have hq := bindO_inv hr
                clear hr
                obtain ⟨v43, e43, hr⟩ := hq
                have hq := asI_inv hr
                clear hr
                obtain ⟨x43, rfl, hr⟩ := hq
                refine wo_take (v := (.i .i64 x43)) rfl (s_ld rfl e43) ?_
                have hq := bindO_inv hr
                clear hr
                obtain ⟨v44, e44, hr⟩ := hq
                refine wo_take (v := v44) rfl (s_pure (o_faddr g3 e44)) ?_
                have hq := bindO_inv hr
                clear hr
                obtain ⟨v45, e45, hr⟩ := hq
                have hq := asI_inv hr
                clear hr
                obtain ⟨x45, rfl, hr⟩ := hq
                refine wo_take (v := (.i .i64 x45)) rfl (s_ld rfl e45) ?_
                have hq := bindO_inv hr
                clear hr
                obtain ⟨v46, e46, hr⟩ := hq
                refine wo_take (v := v46) rfl (s_pure (o_faddr g2 e46)) ?_
                have hq := bindO_inv hr
                clear hr
                obtain ⟨v47, e47, hr⟩ := hq
                have hq := asI_inv hr
                clear hr
                obtain ⟨x47, rfl, hr⟩ := hq
                refine wo_take (v := (.i .i64 x47)) rfl (s_ld rfl e47) ?_
                have hq := forceI_inv hr
                clear hr
                obtain ⟨x48, e48, hr⟩ := hq
                refine wo_take (v := (.i .i64 x48)) rfl (s_pure (p_bin rfl rfl (b_add.trans (ci e48)))) ?_
                have hq := forceI_inv hr
                clear hr
                obtain ⟨x49, e49, hr⟩ := hq
                refine wo_take (v := (.i .i64 x49)) rfl (s_pure (p_bin rfl rfl (b_sub.trans (ci e49)))) ?_
                have hq := forceB_inv hr
                clear hr
                obtain ⟨c50, e50, hr⟩ := hq
                refine wo_take (v := (.b c50)) rfl (s_pure (p_bin rfl rfl (b_leq.trans (cb e50)))) ?_
                refine wo_step (v := (.b c50)) (s_pure (p_pickT rfl rfl)) ?_
                refine wo_nil ?_
                cases hr
                exact ⟨_, _, rfl, rfl, gl rfl⟩
              · refine wo_skip (v := (.b false)) rfl rfl ?_
                refine wo_skip (v := (.b false)) rfl rfl ?_
                refine wo_skip (v := (.b false)) rfl rfl ?_
                refine wo_skip (v := (.b false)) rfl rfl ?_
                refine wo_skip (v := (.b false)) rfl rfl ?_
                refine wo_skip (v := (.b false)) rfl rfl ?_
                refine wo_skip (v := (.b false)) rfl rfl ?_
                refine wo_skip (v := (.b false)) rfl rfl ?_
                refine wo_skip (v := (.b false)) rfl rfl ?_
                refine wo_step (v := (.b false)) (s_pure (p_pickF rfl rfl)) ?_
                refine wo_nil ?_
                cases hr
                exact ⟨_, _, rfl, rfl, gl rfl⟩
            · clear hr
              have hr := hk
              clear hk
              obtain ⟨c51, ho⟩ : ∃ z, z = o_3 := ⟨_, rfl⟩
              subst ho
              rintro mm_3 t_4 ⟨rfl, g51⟩
              refine wo_step (v := (.b c51)) (s_pure (p_mv g51)) ?_
              refine wo_nil ?_
              refine nx_norm ?_
              refine w_ret ?_
              exact qf ret_ok (rt rfl rn) hr

/- (dibber/turn.demands).modulo -/

def g70 (M : Means) (ro : List ABlk) (v0 : AVal) (x1 : Int) (m0 : Mm) : Option (AVal × Heap × Nat × Nat) :=
  bindP (stepM ro m0 (.bx 55 3 (.c v0))) fun v2 m_1 =>
  bindO (evP .e (.faddr 0 (.c v2))) fun v6 =>
  bindO (ldA ro m_1.h true 1 v6) fun v7 =>
  asI .i64 v7 fun x7 =>
  chk (!eqI x7 (.ofNat 0)) <|
  forceI (Int.tmod x1 x7) fun x8 =>
  bindO (evP .e (.faddr 0 (.c v2))) fun v9 =>
  bindO (ldA ro m_1.h true 1 v9) fun v10 =>
  asI .i64 v10 fun x10 =>
  forceI (wr .i64 (x8 + x10)) fun x11 =>
  bindO (evP .e (.faddr 0 (.c v2))) fun v12 =>
  bindO (ldA ro m_1.h true 1 v12) fun v13 =>
  asI .i64 v13 fun x13 =>
  chk (!eqI x13 (.ofNat 0)) <|
  forceI (Int.tmod x11 x13) fun x14 =>
  finM m0.h.length (tupA [(.i .i64 x14)]) m_1

theorem g70_ok {ro : List ABlk} {O : Caller} {M : Means} (hM : M.Ok ⟨F, O⟩ ro) {v0 x1 h r} (ho : O 70 [v0, (.i .i64 x1)] h = none) (hr : g70 M ro v0 x1 ⟨h, h.length, h.length⟩ = some r) : callX ⟨F, O⟩ ro 70 [v0, (.i .i64 x1)] h = some r := by
  refine callX_of (F := ⟨F, O⟩) (fn := fn70) (g := g70 M ro v0 x1) ho rfl rfl hr ?_
  clear ho
  clear hr
  intro m0 t0 ht hr
  have g0 : t0.get 0 = v0 := ht 0
  have g1 : t0.get 1 = (.i .i64 x1) := ht 1
  clear ht
  unfold g70 at hr
  refine w_seq ?_
  refine w_ops ?_
  have hq := bindP_inv hr
  clear hr
  obtain ⟨v2, m_1, e2, hr⟩ := hq
  refine wo_step (v := v2) (s_bx g0 e2) ?_
  refine wo_step (v := (.i .i64 0)) (s_pure (p_mv rfl)) ?_
  refine wo_nil ?_
  refine nx_norm ?_
  refine w_seq ?_
  refine w_any ?_
  refine wa_step (v := (.i .i64 x1)) (a_pure (p_mv g1)) ?_
  have hq := bindO_inv hr
  clear hr
  obtain ⟨v6, e6, hr⟩ := hq
  refine wa_step (v := v6) (a_pure (o_faddr rfl e6)) ?_
  have hq := bindO_inv hr
  clear hr
  obtain ⟨v7, e7, hr⟩ := hq
  have hq := asI_inv hr
  clear hr
  obtain ⟨x7, rfl, hr⟩ := hq
  refine wa_step (v := (.i .i64 x7)) (a_ld rfl e7) ?_
  have hq := chk_inv hr
  clear hr
  obtain ⟨hc8, hr⟩ := hq
  have hq := forceI_inv hr
  clear hr
  obtain ⟨x8, e8, hr⟩ := hq
  refine wa_step (v := (.i .i64 x8)) (a_pure (p_bin rfl rfl ((b_rem hc8).trans (ci e8)))) ?_
  have hq := bindO_inv hr
  clear hr
  obtain ⟨v9, e9, hr⟩ := hq
  refine wa_step (v := v9) (a_pure (o_faddr rfl e9)) ?_
  have hq := bindO_inv hr
  clear hr
  obtain ⟨v10, e10, hr⟩ := hq
  have hq := asI_inv hr
  clear hr
  obtain ⟨x10, rfl, hr⟩ := hq
  refine wa_step (v := (.i .i64 x10)) (a_ld rfl e10) ?_
  have hq := forceI_inv hr
  clear hr
  obtain ⟨x11, e11, hr⟩ := hq
  refine wa_step (v := (.i .i64 x11)) (a_pure (p_bin rfl rfl (b_add.trans (ci e11)))) ?_
  have hq := bindO_inv hr
  clear hr
  obtain ⟨v12, e12, hr⟩ := hq
  refine wa_step (v := v12) (a_pure (o_faddr rfl e12)) ?_
  have hq := bindO_inv hr
  clear hr
  obtain ⟨v13, e13, hr⟩ := hq
  have hq := asI_inv hr
  clear hr
  obtain ⟨x13, rfl, hr⟩ := hq
  refine wa_step (v := (.i .i64 x13)) (a_ld rfl e13) ?_
  have hq := chk_inv hr
  clear hr
  obtain ⟨hc14, hr⟩ := hq
  have hq := forceI_inv hr
  clear hr
  obtain ⟨x14, e14, hr⟩ := hq
  refine wa_step (v := (.i .i64 x14)) (a_pure (p_bin rfl rfl ((b_rem hc14).trans (ci e14)))) ?_
  refine wa_step (v := (.i .i64 x14)) (a_pure (p_mv rfl)) ?_
  refine wa_nil ?_
  refine ⟨m_1, rfl, ?_⟩
  refine nx_norm ?_
  refine w_ret ?_
  exact qf ret_ok (rt rfl rn) hr

/- slices.Min[[]int,int] -/
abbrev g72_I0 (v0 : AVal) (m0 : Mm) (s : Int × Int) (m1 : Mm) (t1 : Tr) : Prop :=
  match s with
  | (x3, x4) => m0 = m1 ∧ t1.get 3 = (.i .i64 x3) ∧ t1.get 4 = (.i .i64 x4) ∧ t1.get 0 = v0
abbrev g72_J0 (v0 : AVal) (m0 : Mm) (o : Int) (e : AExit) (m1 : Mm) (t1 : Tr) : Prop :=
  match o with
  | y3 => e = (.exit 0) ∧ m0 = m1 ∧ t1.get 3 = (.i .i64 y3)
def g72_b0 (M : Means) (ro : List ABlk) (v0 : AVal) (m0 : Mm) (x3 : Int) (x4 : Int) : Option ((Int × Int) ⊕ (Int)) :=
  bindO (evP .e (.len false (.c v0))) fun v14 =>
  asI .i64 v14 fun x14 =>
  forceB (ltI x4 x14) fun c15 =>
  cond c15 (
    bindO (evP .e (.ixS 1 (.c v0) (.c (.i .i64 x4)))) fun v21 =>
    bindO (ldM ro m0 true 1 v21) fun v22 =>
    asI .i64 v22 fun x22 =>
    forceI (mxV false x3 x22) fun x23 =>
    forceI (wr .i64 (x4 + 1)) fun x17 =>
    some (.inl (x23, x17))) (
    some (.inr x3))
def g72 (M : Means) (ro : List ABlk) (v0 : AVal) (m0 : Mm) : Option (AVal × Heap × Nat × Nat) :=
  bindO (evP .e (.len false (.c v0))) fun v6 =>
  asI .i64 v6 fun x6 =>
  forceB (ltI x6 1) fun c7 =>
  cond c7 (
    none) (
    bindO (evP .e (.ixS 1 (.c v0) (.c (.i .i64 0)))) fun v10 =>
    bindO (ldM ro m0 true 1 v10) fun v11 =>
    asI .i64 v11 fun x11 =>
    bindO (M.loop (S := Int × Int) (R := Int) (fun s => g72_b0 M ro v0 m0 s.1 s.2) (x11, 1)) fun x3_1 =>
    finM m0.h.length (tupA [(.i .i64 x3_1)]) m0)

theorem g72_ok {ro : List ABlk} {O : Caller} {M : Means} (hM : M.Ok ⟨F, O⟩ ro) {v0 h r} (ho : O 72 [v0] h = none) (hr : g72 M ro v0 ⟨h, h.length, h.length⟩ = some r) : callX ⟨F, O⟩ ro 72 [v0] h = some r := by
  refine callX_of (F := ⟨F, O⟩) (fn := fn72) (g := g72 M ro v0) ho rfl rfl hr ?_
  clear ho
  clear hr
  intro m0 t0 ht hr
  have g0 : t0.get 0 = v0 := ht 0
  clear ht
  unfold g72 at hr
  refine w_seq ?_
  refine w_ops ?_
  refine wo_step (v := (.i .i64 0)) (s_pure (p_mv rfl)) ?_
  refine wo_nil ?_
  refine nx_norm ?_
  refine w_seq ?_
  refine w_seq ?_
  refine w_ops ?_
  refine wo_step (v := v0) (s_pure (p_mv g0)) ?_
  have hq := bindO_inv hr
  clear hr
  obtain ⟨v6, e6, hr⟩ := hq
  have hq := asI_inv hr
  clear hr
  obtain ⟨x6, rfl, hr⟩ := hq
  refine wo_step (v := (.i .i64 x6)) (s_pure (o_len rfl e6)) ?_
  have hq := forceB_inv hr
  clear hr
  obtain ⟨c7, e7, hr⟩ := hq
  refine wo_step (v := (.b c7)) (s_pure (p_bin rfl rfl (b_lss.trans (cb e7)))) ?_
  refine wo_nil ?_
  refine nx_norm ?_
  have hq := cond_inv hr
  clear hr
  rcases hq with ⟨rfl, hr⟩ | ⟨rfl, hr⟩
  · refine w_condT rfl ?_
    cases hr
  · refine w_condF rfl ?_
    refine w_skip ?_
    refine nx_norm ?_
    refine w_seq ?_
    refine w_ops ?_
    refine wo_step (v := v0) (s_pure (p_mv g0)) ?_
    have hq := bindO_inv hr
    clear hr
    obtain ⟨v10, e10, hr⟩ := hq
    refine wo_step (v := v10) (s_pure (o_ixS rfl rfl e10)) ?_
    have hq := bindO_inv hr
    clear hr
    obtain ⟨v11, e11, hr⟩ := hq
    have hq := asI_inv hr
    clear hr
    obtain ⟨x11, rfl, hr⟩ := hq
    refine wo_step (v := (.i .i64 x11)) (s_ld rfl e11) ?_
    refine wo_step (v := (.i .i64 x11)) (s_pure (p_mv rfl)) ?_
    refine wo_nil ?_
    refine nx_norm ?_
    refine w_seq ?_
    refine w_seq ?_
    refine w_ops ?_
    refine wo_step (v := (.i .i64 1)) (s_pure (p_mv rfl)) ?_
    refine wo_nil ?_
    refine nx_norm ?_
    refine w_block ?_
    have hq := bindO_inv hr
    clear hr
    obtain ⟨o, hl, hr⟩ := hq
    obtain ⟨n, hl⟩ := hM.loop _ _ _ hl
    refine jp_mono (w_loop _ (g72_I0 v0 m0) (g72_J0 v0 m0) ?_ n _ _ _ _ hl ⟨rfl, gl rfl, gl rfl, gl g0⟩) ?_
    · clear hr hl
      intro s mm_1 t_1 o hi hr
      obtain ⟨x3, x4⟩ := s
      obtain ⟨rfl, g3, g4, g0⟩ := hi
      unfold g72_b0 at hr
      refine w_seq ?_
      refine w_seq ?_
      refine w_ops ?_
      refine wo_step (v := (.i .i64 x4)) (s_pure (p_mv g4)) ?_
      refine wo_step (v := v0) (s_pure (p_mv g0)) ?_
      have hq := bindO_inv hr
      clear hr
      obtain ⟨v14, e14, hr⟩ := hq
      have hq := asI_inv hr
      clear hr
      obtain ⟨x14, rfl, hr⟩ := hq
      refine wo_step (v := (.i .i64 x14)) (s_pure (o_len rfl e14)) ?_
      have hq := forceB_inv hr
      clear hr
      obtain ⟨c15, e15, hr⟩ := hq
      refine wo_step (v := (.b c15)) (s_pure (p_bin rfl rfl (b_lss.trans (cb e15)))) ?_
      refine wo_nil ?_
      refine nx_norm ?_
      have hq := cond_inv hr
      clear hr
      rcases hq with ⟨rfl, hr⟩ | ⟨rfl, hr⟩
      · refine w_condT rfl ?_
        refine w_skip ?_
        refine nx_norm ?_
        refine w_seq ?_
        refine w_block ?_
        refine w_ops ?_
        refine wo_step (v := (.i .i64 x3)) (s_pure (p_mv g3)) ?_
        refine wo_step (v := v0) (s_pure (p_mv g0)) ?_
        refine wo_step (v := (.i .i64 x4)) (s_pure (p_mv g4)) ?_
        have hq := bindO_inv hr
        clear hr
        obtain ⟨v21, e21, hr⟩ := hq
        refine wo_step (v := v21) (s_pure (o_ixS rfl rfl e21)) ?_
        have hq := bindO_inv hr
        clear hr
        obtain ⟨v22, e22, hr⟩ := hq
        have hq := asI_inv hr
        clear hr
        obtain ⟨x22, rfl, hr⟩ := hq
        refine wo_step (v := (.i .i64 x22)) (s_ld rfl e22) ?_
        have hq := forceI_inv hr
        clear hr
        obtain ⟨x23, e23, hr⟩ := hq
        refine wo_step (v := (.i .i64 x23)) (s_pure ((p_mx rfl rfl).trans (ci e23))) ?_
        refine wo_step (v := (.i .i64 x23)) (s_pure (p_mv rfl)) ?_
        refine wo_nil ?_
        refine bk_norm ?_
        refine nx_norm ?_
        refine w_ops ?_
        refine wo_step (v := (.i .i64 x4)) (s_pure (p_mv g4)) ?_
        have hq := forceI_inv hr
        clear hr
        obtain ⟨x17, e17, hr⟩ := hq
        refine wo_step (v := (.i .i64 x17)) (s_pure (p_bin rfl rfl (b_add.trans (ci e17)))) ?_
        refine wo_step (v := (.i .i64 x17)) (s_pure (p_mv rfl)) ?_
        refine wo_nil ?_
        cases hr
        exact ⟨_, _, rfl, rfl, rfl, gl rfl, gl rfl, gl g0⟩
      · refine w_condF rfl ?_
        refine w_exit ?_
        refine nx_exit ?_
        cases hr
        exact ⟨_, _, rfl, ne_norm_exit, rfl, rfl, gl g3⟩
    · obtain ⟨x3_1, ho⟩ : ∃ z, z = o := ⟨_, rfl⟩
      subst ho
      rintro _ mm t_2 ⟨rfl, rfl, g3⟩
      refine bk_hit ?_
      refine nx_norm ?_
      refine w_seq ?_
      refine w_ops ?_
      refine wo_step (v := (.i .i64 x3_1)) (s_pure (p_mv g3)) ?_
      refine wo_step (v := (.i .i64 x3_1)) (s_pure (p_mv rfl)) ?_
      refine wo_nil ?_
      refine nx_norm ?_
      refine w_ret ?_
      exact qf ret_ok (rt rfl rn) hr

/- slices.Max[[]int,int] -/
abbrev g73_I0 (v0 : AVal) (m0 : Mm) (s : Int × Int) (m1 : Mm) (t1 : Tr) : Prop :=
  match s with
  | (x3, x4) => m0 = m1 ∧ t1.get 3 = (.i .i64 x3) ∧ t1.get 4 = (.i .i64 x4) ∧ t1.get 0 = v0
abbrev g73_J0 (v0 : AVal) (m0 : Mm) (o : Int) (e : AExit) (m1 : Mm) (t1 : Tr) : Prop :=
  match o with
  | y3 => e = (.exit 0) ∧ m0 = m1 ∧ t1.get 3 = (.i .i64 y3)
def g73_b0 (M : Means) (ro : List ABlk) (v0 : AVal) (m0 : Mm) (x3 : Int) (x4 : Int) : Option ((Int × Int) ⊕ (Int)) :=
  bindO (evP .e (.len false (.c v0))) fun v14 =>
  asI .i64 v14 fun x14 =>
  forceB (ltI x4 x14) fun c15 =>
  cond c15 (
    bindO (evP .e (.ixS 1 (.c v0) (.c (.i .i64 x4)))) fun v21 =>
    bindO (ldM ro m0 true 1 v21) fun v22 =>
    asI .i64 v22 fun x22 =>
    forceI (mxV true x3 x22) fun x23 =>
    forceI (wr .i64 (x4 + 1)) fun x17 =>
    some (.inl (x23, x17))) (
    some (.inr x3))
def g73 (M : Means) (ro : List ABlk) (v0 : AVal) (m0 : Mm) : Option (AVal × Heap × Nat × Nat) :=
  bindO (evP .e (.len false (.c v0))) fun v6 =>
  asI .i64 v6 fun x6 =>
  forceB (ltI x6 1) fun c7 =>
  cond c7 (
    none) (
    bindO (evP .e (.ixS 1 (.c v0) (.c (.i .i64 0)))) fun v10 =>
    bindO (ldM ro m0 true 1 v10) fun v11 =>
    asI .i64 v11 fun x11 =>
    bindO (M.loop (S := Int × Int) (R := Int) (fun s => g73_b0 M ro v0 m0 s.1 s.2) (x11, 1)) fun x3_1 =>
    finM m0.h.length (tupA [(.i .i64 x3_1)]) m0)

theorem g73_ok {ro : List ABlk} {O : Caller} {M : Means} (hM : M.Ok ⟨F, O⟩ ro) {v0 h r} (ho : O 73 [v0] h = none) (hr : g73 M ro v0 ⟨h, h.length, h.length⟩ = some r) : callX ⟨F, O⟩ ro 73 [v0] h = some r := by
  refine callX_of (F := ⟨F, O⟩) (fn := fn73) (g := g73 M ro v0) ho rfl rfl hr ?_
  clear ho
  clear hr
  intro m0 t0 ht hr
  have g0 : t0.get 0 = v0 := ht 0
  clear ht
  unfold g73 at hr
  refine w_seq ?_
  refine w_ops ?_
  refine wo_step (v := (.i .i64 0)) (s_pure (p_mv rfl)) ?_
  refine wo_nil ?_
  refine nx_norm ?_
  refine w_seq ?_
  refine w_seq ?_
  refine w_ops ?_
  refine wo_step (v := v0) (s_pure (p_mv g0)) ?_
  have hq := bindO_inv hr
  clear hr
  obtain ⟨v6, e6, hr⟩ := hq
  have hq := asI_inv hr
  clear hr
  obtain ⟨x6, rfl, hr⟩ := hq
  refine wo_step (v := (.i .i64 x6)) (s_pure (o_len rfl e6)) ?_
  have hq := forceB_inv hr
  clear hr
  obtain ⟨c7, e7, hr⟩ := hq
  refine wo_step (v := (.b c7)) (s_pure (p_bin rfl rfl (b_lss.trans (cb e7)))) ?_
  refine wo_nil ?_
  refine nx_norm ?_
  have hq := cond_inv hr
  clear hr
  rcases hq with ⟨rfl, hr⟩ | ⟨rfl, hr⟩
  · refine w_condT rfl ?_
    cases hr
  · refine w_condF rfl ?_
    refine w_skip ?_
    refine nx_norm ?_
    refine w_seq ?_
    refine w_ops ?_
    refine wo_step (v := v0) (s_pure (p_mv g0)) ?_
    have hq := bindO_inv hr
    clear hr
    obtain ⟨v10, e10, hr⟩ := hq
    refine wo_step (v := v10) (s_pure (o_ixS rfl rfl e10)) ?_
    have hq := bindO_inv hr
    clear hr
    obtain ⟨v11, e11, hr⟩ := hq
    have hq := asI_inv hr
    clear hr
    obtain ⟨x11, rfl, hr⟩ := hq
    refine wo_step (v := (.i .i64 x11)) (s_ld rfl e11) ?_
    refine wo_step (v := (.i .i64 x11)) (s_pure (p_mv rfl)) ?_
    refine wo_nil ?_
    refine nx_norm ?_
    refine w_seq ?_
    refine w_seq ?_
    refine w_ops ?_
    refine wo_step (v := (.i .i64 1)) (s_pure (p_mv rfl)) ?_
    refine wo_nil ?_
    refine nx_norm ?_
    refine w_block ?_
    have hq := bindO_inv hr
    clear hr
    obtain ⟨o, hl, hr⟩ := hq
    obtain ⟨n, hl⟩ := hM.loop _ _ _ hl
    refine jp_mono (w_loop _ (g73_I0 v0 m0) (g73_J0 v0 m0) ?_ n _ _ _ _ hl ⟨rfl, gl rfl, gl rfl, gl g0⟩) ?_
    · clear hr hl
      intro s mm_1 t_1 o hi hr
      obtain ⟨x3, x4⟩ := s
      obtain ⟨rfl, g3, g4, g0⟩ := hi
      unfold g73_b0 at hr
      refine w_seq ?_
      refine w_seq ?_
      refine w_ops ?_
      refine wo_step (v := (.i .i64 x4)) (s_pure (p_mv g4)) ?_
      refine wo_step (v := v0) (s_pure (p_mv g0)) ?_
      have hq := bindO_inv hr
      clear hr
      obtain ⟨v14, e14, hr⟩ := hq
      have hq := asI_inv hr
      clear hr
      obtain ⟨x14, rfl, hr⟩ := hq
      refine wo_step (v := (.i .i64 x14)) (s_pure (o_len rfl e14)) ?_
      have hq := forceB_inv hr
      clear hr
      obtain ⟨c15, e15, hr⟩ := hq
      refine wo_step (v := (.b c15)) (s_pure (p_bin rfl rfl (b_lss.trans (cb e15)))) ?_
      refine wo_nil ?_
      refine nx_norm ?_
      have hq := cond_inv hr
      clear hr
      rcases hq with ⟨rfl, hr⟩ | ⟨rfl, hr⟩
      · refine w_condT rfl ?_
        refine w_skip ?_
        refine nx_norm ?_
        refine w_seq ?_
        refine w_block ?_
        refine w_ops ?_
        refine wo_step (v := (.i .i64 x3)) (s_pure (p_mv g3)) ?_
        refine wo_step (v := v0) (s_pure (p_mv g0)) ?_
        refine wo_step (v := (.i .i64 x4)) (s_pure (p_mv g4)) ?_
        have hq := bindO_inv hr
        clear hr
        obtain ⟨v21, e21, hr⟩ := hq
        refine wo_step (v := v21) (s_pure (o_ixS rfl rfl e21)) ?_
        have hq := bindO_inv hr
        clear hr
        obtain ⟨v22, e22, hr⟩ := hq
        have hq := asI_inv hr
        clear hr
        obtain ⟨x22, rfl, hr⟩ := hq
        refine wo_step (v := (.i .i64 x22)) (s_ld rfl e22) ?_
        have hq := forceI_inv hr
        clear hr
        obtain ⟨x23, e23, hr⟩ := hq
        refine wo_step (v := (.i .i64 x23)) (s_pure ((p_mx rfl rfl).trans (ci e23))) ?_
        refine wo_step (v := (.i .i64 x23)) (s_pure (p_mv rfl)) ?_
        refine wo_nil ?_
        refine bk_norm ?_
        refine nx_norm ?_
        refine w_ops ?_
        refine wo_step (v := (.i .i64 x4)) (s_pure (p_mv g4)) ?_
        have hq := forceI_inv hr
        clear hr
        obtain ⟨x17, e17, hr⟩ := hq
        refine wo_step (v := (.i .i64 x17)) (s_pure (p_bin rfl rfl (b_add.trans (ci e17)))) ?_
        refine wo_step (v := (.i .i64 x17)) (s_pure (p_mv rfl)) ?_
        refine wo_nil ?_
        cases hr
        exact ⟨_, _, rfl, rfl, rfl, gl rfl, gl rfl, gl g0⟩
      · refine w_condF rfl ?_
        refine w_exit ?_
        refine nx_exit ?_
        cases hr
        exact ⟨_, _, rfl, ne_norm_exit, rfl, rfl, gl g3⟩
    · obtain ⟨x3_1, ho⟩ : ∃ z, z = o := ⟨_, rfl⟩
      subst ho
      rintro _ mm t_2 ⟨rfl, rfl, g3⟩
      refine bk_hit ?_
      refine nx_norm ?_
      refine w_seq ?_
      refine w_ops ?_
      refine wo_step (v := (.i .i64 x3_1)) (s_pure (p_mv g3)) ?_
      refine wo_step (v := (.i .i64 x3_1)) (s_pure (p_mv rfl)) ?_
      refine wo_nil ?_
      refine nx_norm ?_
      refine w_ret ?_
      exact qf ret_ok (rt rfl rn) hr

end Go.Proofs.YtddnpchfjdgigaaDoor.T

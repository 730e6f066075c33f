/- Plain functions, and that the small machine answers as they do. -/
import Derived.Test.YtpjjmdbkgkembaaDoorVmP
import Derived.Test.YtpjjmdbkgkembaaDoorVmAE
open Go.Vm
set_option linter.unusedVariables false
namespace Go.Proofs.YtpjjmdbkgkembaaDoor.T
open Go
/- (dibber/turn.demands).refusing-1 -/
abbrev g75_J0  (o : Bool × Mm) (m1 : Mm) (t1 : Tr) : Prop :=
  match o with
  | (c28, m_1) => m_1 = m1 ∧ t1.get 28 = (.b c28)
abbrev g75_I1 (x0 : Int) (x1 : Int) (x2 : Int) (v3 : AVal) (v6 : AVal) (v7 : AVal) (v8 : AVal) (s : Int × Mm) (m1 : Mm) (t1 : Tr) : Prop :=
  match s with
  | (x13, m_4) => m_4 = m1 ∧ t1.get 13 = (.i .i64 x13) ∧ t1.get 0 = (.i .i64 x0) ∧ t1.get 1 = (.i .i64 x1) ∧ t1.get 2 = (.i .i64 x2) ∧ t1.get 3 = v3 ∧ t1.get 6 = v6 ∧ t1.get 7 = v7 ∧ t1.get 8 = v8
abbrev g75_J1 (x0 : Int) (x1 : Int) (x2 : Int) (v3 : AVal) (v6 : AVal) (v7 : AVal) (v8 : AVal) (o : (Mm ⊕ (Bool × Mm))) (e : AExit) (m1 : Mm) (t1 : Tr) : Prop :=
  match o with
  | (.inl mo) => e = (.exit 0) ∧ mo = m1 ∧ t1.get 0 = (.i .i64 x0) ∧ t1.get 7 = v7
  | (.inr (y12, mo)) => e = .ret ∧ mo = m1 ∧ t1.get 12 = (.b y12)
abbrev g75_J2 (x0 : Int) (x1 : Int) (x2 : Int) (v3 : AVal) (v6 : AVal) (v7 : AVal) (v8 : AVal) (x13 : Int) (o : (Mm ⊕ (Bool × Mm))) (e : AExit) (m1 : Mm) (t1 : Tr) : Prop :=
  match o with
  | (.inl mo) => e = .norm ∧ mo = m1 ∧ t1.get 0 = (.i .i64 x0) ∧ t1.get 1 = (.i .i64 x1) ∧ t1.get 2 = (.i .i64 x2) ∧ t1.get 3 = v3 ∧ t1.get 6 = v6 ∧ t1.get 7 = v7 ∧ t1.get 8 = v8 ∧ t1.get 13 = (.i .i64 x13)
  | (.inr (y12, mo)) => e = .ret ∧ mo = m1 ∧ t1.get 12 = (.b y12)
abbrev g75_J3 (x0 : Int) (x1 : Int) (x2 : Int) (v3 : AVal) (v6 : AVal) (v7 : AVal) (v8 : AVal) (x13 : Int) (v14 : AVal) (m_7 : Mm) (o : Bool) (m1 : Mm) (t1 : Tr) : Prop :=
  match o with
  | c58 => m_7 = m1 ∧ t1.get 58 = (.b c58) ∧ t1.get 0 = (.i .i64 x0) ∧ t1.get 1 = (.i .i64 x1) ∧ t1.get 2 = (.i .i64 x2) ∧ t1.get 3 = v3 ∧ t1.get 6 = v6 ∧ t1.get 7 = v7 ∧ t1.get 8 = v8 ∧ t1.get 13 = (.i .i64 x13) ∧ t1.get 14 = v14
def g75_b1 (M : Means) (ro : List ABlk) (x0 : Int) (x1 : Int) (x2 : Int) (v3 : AVal) (v6 : AVal) (v7 : AVal) (v8 : AVal) (x13 : Int) (m_4 : Mm) : Option ((Int × Mm) ⊕ ((Mm ⊕ (Bool × Mm)))) :=
  bindO (evP .e (.faddr 2 (.c v6))) fun v39 =>
  bindO (ldM ro m_4 true 1 v39) fun v40 =>
  bindO (evP .e (.len false (.c v40))) fun v41 =>
  asI .i64 v41 fun x41 =>
  forceB (!ltI x41 x13) fun c42 =>
  cond c42 (
    bindO (α := (Mm ⊕ (Bool × Mm))) (
      bindO (ldM ro m_4 false 3 v6) fun v46 =>
      bindP (callM M.call m_4 74 [v46, (.i .i64 x13)]) fun v48 m_5 =>
      bindO (evP .e (.ext 0 (.c v48))) fun v49 =>
      bindO (evP .e (.ext 1 (.c v48))) fun v50 =>
      asB v50 fun c50 =>
      bindP (stepM ro m_5 (.al 31 [(AVal.i IntKind.i64 0), (AVal.i IntKind.i64 0), (AVal.i IntKind.i64 0), (AVal.i IntKind.i64 0)])) fun v14 m_6 =>
      bindP (stepM ro m_6 (.st 4 (.c v14) (.c v49))) fun vn_1 m_7 =>
      forceB (!c50) fun c52 =>
      bindO (cond c52 (
        some true) (
        bindO (evP .e (.faddr 0 (.c v14))) fun v54 =>
        bindO (ldM ro m_7 true 1 v54) fun v55 =>
        asI .i64 v55 fun x55 =>
        forceB (!eqI x55 x0) fun c57 =>
        some c57)) fun c58 =>
      cond c58 (
        some (.inl m_7)) (
        bindO (ldM ro m_7 true 1 v3) fun v59 =>
        bindP (stepM ro m_7 (.bsl 3 1 [(AVal.i IntKind.i64 0)] 1 [((0, 1), .c (.i .i64 x13))])) fun v61 m_8 =>
        bindP (stepM ro m_8 (.app 3 1 8 [(AVal.i IntKind.i64 0)] (.c v59) (.c v61))) fun v62 m_9 =>
        bindP (stepM ro m_9 (.st 1 (.c v3) (.c v62))) fun vn_2 m_10 =>
        bindO (ldM ro m_10 true 1 v8) fun v63 =>
        bindO (evP .e (.faddr 1 (.c v14))) fun v64 =>
        bindO (ldM ro m_10 true 1 v64) fun v65 =>
        asI .i64 v65 fun x65 =>
        bindO (evP .e (.faddr 2 (.c v14))) fun v67 =>
        bindO (ldM ro m_10 true 1 v67) fun v68 =>
        asI .i64 v68 fun x68 =>
        forceI (wr .i64 (x1 + x68)) fun x69 =>
        bindO (evP .e (.faddr 3 (.c v14))) fun v71 =>
        bindO (ldM ro m_10 true 1 v71) fun v72 =>
        asI .i64 v72 fun x72 =>
        forceI (wr .i64 (x2 + x72)) fun x73 =>
        bindP (callyM M.call M.round m_10 v63 [(.i .i64 x65), (.i .i64 x69), (.i .i64 x73)]) fun v74 m_11 =>
        asB v74 fun c74 =>
        cond c74 (
          some (.inr (true, m_11))) (
          bindO (ldM ro m_11 true 1 v3) fun v75 =>
          bindO (ldM ro m_11 true 1 v3) fun v76 =>
          bindO (evP .e (.len false (.c v76))) fun v77 =>
          asI .i64 v77 fun x77 =>
          forceI (wr .i64 (x77 - 1)) fun x78 =>
          bindO (evP .e (.slS 1 (.c v75) none (some (.c (.i .i64 x78))) none)) fun v79 =>
          bindP (stepM ro m_11 (.st 1 (.c v3) (.c v79))) fun vn_3 m_12 =>
          some (.inl m_12)))) fun o_1 => match o_1 with
    | (.inl m_13) =>
      forceI (wr .i64 (x13 + 1)) fun x44 =>
      some (.inl (x44, m_13))
    | (.inr (c12, m_14)) =>
      some (.inr (.inr (c12, m_14)))) (
    some (.inr (.inl m_4)))
def g75 (M : Means) (ro : List ABlk) (x0 : Int) (x1 : Int) (x2 : Int) (v3 : AVal) (v4 : AVal) (v5 : AVal) (v6 : AVal) (v7 : AVal) (v8 : AVal) (m0 : Mm) : Option (AVal × Heap × Nat × Nat) :=
  bindO (ldM ro m0 true 1 v3) fun v16 =>
  bindO (evP .e (.len false (.c v16))) fun v17 =>
  asI .i64 v17 fun x17 =>
  bindO (ldM ro m0 true 1 v4) fun v18 =>
  asI .i64 v18 fun x18 =>
  forceB (eqI x17 x18) fun c19 =>
  cond c19 (
    bindO (ldM ro m0 true 1 v5) fun v21 =>
    asI .i64 v21 fun x21 =>
    forceB (eqI x0 x21) fun c22 =>
    bindO (cond c22 (
      bindO (ldM ro m0 false 3 v6) fun v24 =>
      bindP (callM M.call m0 55 [v24, (.i .i64 x1), (.i .i64 x2)]) fun v27 m_2 =>
      asB v27 fun c27 =>
      some (c27, m_2)) (
      some (false, m0))) fun ⟨c28, m_1⟩ =>
    finM m0.h.length (tupA [(.b c28)]) m_1) (
    bindO (evP .e (.ixA 6 1 (.c v7) (.c (.i .i64 x0)))) fun v30 =>
    bindO (ldM ro m0 true 1 v30) fun v31 =>
    asB v31 fun c31 =>
    cond c31 (
      finM m0.h.length (tupA [(.b false)]) m0) (
      bindO (evP .e (.ixA 6 1 (.c v7) (.c (.i .i64 x0)))) fun v33 =>
      bindP (stepM ro m0 (.st 1 (.c v33) (.c (.b true)))) fun vn m_3 =>
      bindO (evP .e (.faddr 2 (.c v6))) fun v34 =>
      bindO (ldM ro m_3 true 1 v34) fun v35 =>
      bindO (evP .e (.len false (.c v35))) fun v36 =>
      asI .i64 v36 fun x36 =>
      forceI (wr .i64 (0 - x36)) fun x37 =>
      bindO (M.loop (S := Int × Mm) (R := (Mm ⊕ (Bool × Mm))) (fun s => g75_b1 M ro x0 x1 x2 v3 v6 v7 v8 s.1 s.2) (x37, m_3)) fun o_3 => match o_3 with
      | (.inl m_15) =>
        bindO (evP .e (.ixA 6 1 (.c v7) (.c (.i .i64 x0)))) fun v81 =>
        bindP (stepM ro m_15 (.st 1 (.c v81) (.c (.b false)))) fun vn_4 m_16 =>
        finM m0.h.length (tupA [(.b false)]) m_16
      | (.inr (c12_1, m_17)) =>
        finM m0.h.length (tupA [(.b c12_1)]) m_17))

theorem g75_ok {ro : List ABlk} {O : Caller} {M : Means} (hM : M.Ok ⟨F, O⟩ ro) {x0 x1 x2 v3 v4 v5 v6 v7 v8 h r} (ho : O 75 [(.i .i64 x0), (.i .i64 x1), (.i .i64 x2), v3, v4, v5, v6, v7, v8] h = none) (hr : g75 M ro x0 x1 x2 v3 v4 v5 v6 v7 v8 ⟨h, h.length, h.length⟩ = some r) : callX ⟨F, O⟩ ro 75 [(.i .i64 x0), (.i .i64 x1), (.i .i64 x2), v3, v4, v5, v6, v7, v8] h = some r := by
  refine callX_of (F := ⟨F, O⟩) (fn := fn75) (g := g75 M ro x0 x1 x2 v3 v4 v5 v6 v7 v8) ho rfl rfl hr ?_
  clear ho
  clear hr
  intro m0 t0 ht hr
  have g0 : t0.get 0 = (.i .i64 x0) := ht 0
  have g1 : t0.get 1 = (.i .i64 x1) := ht 1
  have g2 : t0.get 2 = (.i .i64 x2) := ht 2
  have g3 : t0.get 3 = v3 := ht 3
  have g4 : t0.get 4 = v4 := ht 4
  have g5 : t0.get 5 = v5 := ht 5
  have g6 : t0.get 6 = v6 := ht 6
  have g7 : t0.get 7 = v7 := ht 7
  have g8 : t0.get 8 = v8 := ht 8
  clear ht
  unfold g75 at hr
  refine w_seq ?_
  refine w_ops ?_
  refine wo_step (v := (.b false)) (s_pure (p_mv rfl)) ?_
  refine wo_nil ?_
  refine nx_norm ?_
  refine w_seq ?_
  refine w_seq ?_
  refine w_ops ?_
  have hq := bindO_inv hr
  clear hr
  obtain ⟨v16, e16, hr⟩ := hq
  refine wo_step (v := v16) (s_ld g3 e16) ?_
  have hq := bindO_inv hr
  clear hr
  obtain ⟨v17, e17, hr⟩ := hq
  have hq := asI_inv hr
  clear hr
  obtain ⟨x17, rfl, hr⟩ := hq
  refine wo_step (v := (.i .i64 x17)) (s_pure (o_len rfl e17)) ?_
  have hq := bindO_inv hr
  clear hr
  obtain ⟨v18, e18, hr⟩ := hq
  have hq := asI_inv hr
  clear hr
  obtain ⟨x18, rfl, hr⟩ := hq
  refine wo_step (v := (.i .i64 x18)) (s_ld g4 e18) ?_
  have hq := forceB_inv hr
  clear hr
  obtain ⟨c19, e19, hr⟩ := hq
  refine wo_step (v := (.b c19)) (s_pure (p_bin rfl rfl (b_eql.trans (cb e19)))) ?_
  refine wo_nil ?_
  refine nx_norm ?_
  have hq := cond_inv hr
  clear hr
  rcases hq with ⟨rfl, hr⟩ | ⟨rfl, hr⟩
  · refine w_condT rfl ?_
    refine w_seq ?_
    refine w_ops ?_
    refine wo_step (v := (.i .i64 x0)) (s_pure (p_mv g0)) ?_
    have hq := bindO_inv hr
    clear hr
    obtain ⟨v21, e21, hr⟩ := hq
    have hq := asI_inv hr
    clear hr
    obtain ⟨x21, rfl, hr⟩ := hq
    refine wo_step (v := (.i .i64 x21)) (s_ld g5 e21) ?_
    have hq := forceB_inv hr
    clear hr
    obtain ⟨c22, e22, hr⟩ := hq
    refine wo_step (v := (.b c22)) (s_pure (p_bin rfl rfl (b_eql.trans (cb e22)))) ?_
    refine wo_step (v := (.b c22)) (s_pure (p_mv rfl)) ?_
    have hq := bindO_inv hr
    clear hr
    obtain ⟨o, hr, hk⟩ := hq
    refine wo_join 5 (g75_J0  o) ?_ ?_
    · clear hk
      have hq := cond_inv hr
      clear hr
      rcases hq with ⟨rfl, hr⟩ | ⟨rfl, hr⟩
      · have hq := bindO_inv hr
        clear hr
        obtain ⟨v24, e24, hr⟩ := hq
        refine wo_take (v := v24) rfl (s_ld g6 e24) ?_
        refine wo_take (v := (.i .i64 x1)) rfl (s_pure (p_mv g1)) ?_
        refine wo_take (v := (.i .i64 x2)) rfl (s_pure (p_mv g2)) ?_
        have hq := bindP_inv hr
        clear hr
        obtain ⟨v27, m_2, e27, hr⟩ := hq
        have hq := asB_inv hr
        clear hr
        obtain ⟨c27, rfl, hr⟩ := hq
        refine wo_take (v := (.b c27)) rfl (s_call (mc rfl (mc rfl (mc rfl mn))) (callM_le hM.call e27)) ?_
        refine wo_step (v := (.b c27)) (s_pure (p_pickT rfl rfl)) ?_
        refine wo_nil ?_
        cases hr
        exact ⟨_, _, rfl, rfl, gl rfl⟩
      · refine wo_skip (v := (.b false)) rfl rfl ?_
        refine wo_skip (v := (.b false)) rfl rfl ?_
        refine wo_skip (v := (.b false)) rfl rfl ?_
        refine wo_skip (v := (.b false)) rfl rfl ?_
        refine wo_step (v := (.b false)) (s_pure (p_pickF rfl rfl)) ?_
        refine wo_nil ?_
        cases hr
        exact ⟨_, _, rfl, rfl, gl rfl⟩
    · clear hr
      have hr := hk
      clear hk
      obtain ⟨c28, m_1⟩ := o
      rintro mm t_1 ⟨rfl, g28⟩
      refine wo_step (v := (.b c28)) (s_pure (p_mv g28)) ?_
      refine wo_nil ?_
      refine nx_norm ?_
      refine w_ret ?_
      refine nx_ret ?_
      exact qf ret_ok (rt rfl rn) hr
  · refine w_condF rfl ?_
    refine w_skip ?_
    refine nx_norm ?_
    refine w_seq ?_
    refine w_seq ?_
    refine w_ops ?_
    refine wo_step (v := (.i .i64 x0)) (s_pure (p_mv g0)) ?_
    have hq := bindO_inv hr
    clear hr
    obtain ⟨v30, e30, hr⟩ := hq
    refine wo_step (v := v30) (s_pure (o_ixA g7 rfl e30)) ?_
    have hq := bindO_inv hr
    clear hr
    obtain ⟨v31, e31, hr⟩ := hq
    have hq := asB_inv hr
    clear hr
    obtain ⟨c31, rfl, hr⟩ := hq
    refine wo_step (v := (.b c31)) (s_ld rfl e31) ?_
    refine wo_nil ?_
    refine nx_norm ?_
    have hq := cond_inv hr
    clear hr
    rcases hq with ⟨rfl, hr⟩ | ⟨rfl, hr⟩
    · refine w_condT rfl ?_
      refine w_seq ?_
      refine w_ops ?_
      refine wo_step (v := (.b false)) (s_pure (p_mv rfl)) ?_
      refine wo_nil ?_
      refine nx_norm ?_
      refine w_ret ?_
      refine nx_ret ?_
      exact qf ret_ok (rt rfl rn) hr
    · refine w_condF rfl ?_
      refine w_skip ?_
      refine nx_norm ?_
      refine w_seq ?_
      refine w_ops ?_
      refine wo_step (v := (.i .i64 x0)) (s_pure (p_mv g0)) ?_
      have hq := bindO_inv hr
      clear hr
      obtain ⟨v33, e33, hr⟩ := hq
      refine wo_step (v := v33) (s_pure (o_ixA g7 rfl e33)) ?_
      have hq := bindP_inv hr
      clear hr
      obtain ⟨vn, m_3, en, hr⟩ := hq
      refine wo_stepN (s_st rfl rfl en) ?_
      refine wo_nil ?_
      refine nx_norm ?_
      refine w_seq ?_
      refine w_seq ?_
      refine w_ops ?_
      have hq := bindO_inv hr
      clear hr
      obtain ⟨v34, e34, hr⟩ := hq
      refine wo_step (v := v34) (s_pure (o_faddr g6 e34)) ?_
      have hq := bindO_inv hr
      clear hr
      obtain ⟨v35, e35, hr⟩ := hq
      refine wo_step (v := v35) (s_ld rfl e35) ?_
      have hq := bindO_inv hr
      clear hr
      obtain ⟨v36, e36, hr⟩ := hq
      have hq := asI_inv hr
      clear hr
      obtain ⟨x36, rfl, hr⟩ := hq
      refine wo_step (v := (.i .i64 x36)) (s_pure (o_len rfl e36)) ?_
      have hq := forceI_inv hr
      clear hr
      obtain ⟨x37, e37, hr⟩ := hq
      refine wo_step (v := (.i .i64 x37)) (s_pure ((p_neg rfl).trans (ci e37))) ?_
      refine wo_step (v := (.i .i64 x37)) (s_pure (p_mv rfl)) ?_
      refine wo_nil ?_
      refine nx_norm ?_
      refine w_block ?_
      have hq := bindO_inv hr
      clear hr
      obtain ⟨o_3, hl, hr⟩ := hq
      obtain ⟨n, hl⟩ := hM.loop _ _ _ hl
      refine jp_mono (w_loop _ (g75_I1 x0 x1 x2 v3 v6 v7 v8) (g75_J1 x0 x1 x2 v3 v6 v7 v8) ?_ n _ _ _ _ hl ⟨rfl, gl rfl, gl g0, gl g1, gl g2, gl g3, gl g6, gl g7, gl g8⟩) ?_
      · clear hr hl
        intro s mm_6 t_2 o hi hr
        obtain ⟨x13, m_4⟩ := s
        obtain ⟨rfl, g13, g0, g1, g2, g3, g6, g7, g8⟩ := hi
        unfold g75_b1 at hr
        refine w_seq ?_
        refine w_seq ?_
        refine w_ops ?_
        refine wo_step (v := (.i .i64 x13)) (s_pure (p_mv g13)) ?_
        have hq := bindO_inv hr
        clear hr
        obtain ⟨v39, e39, hr⟩ := hq
        refine wo_step (v := v39) (s_pure (o_faddr g6 e39)) ?_
        have hq := bindO_inv hr
        clear hr
        obtain ⟨v40, e40, hr⟩ := hq
        refine wo_step (v := v40) (s_ld rfl e40) ?_
        have hq := bindO_inv hr
        clear hr
        obtain ⟨v41, e41, hr⟩ := hq
        have hq := asI_inv hr
        clear hr
        obtain ⟨x41, rfl, hr⟩ := hq
        refine wo_step (v := (.i .i64 x41)) (s_pure (o_len rfl e41)) ?_
        have hq := forceB_inv hr
        clear hr
        obtain ⟨c42, e42, hr⟩ := hq
        refine wo_step (v := (.b c42)) (s_pure (p_bin rfl rfl (b_leq.trans (cb e42)))) ?_
        refine wo_nil ?_
        refine nx_norm ?_
        have hq := cond_inv hr
        clear hr
        rcases hq with ⟨rfl, hr⟩ | ⟨rfl, hr⟩
        · refine w_condT rfl ?_
          refine w_skip ?_
          refine nx_norm ?_
          refine w_seq ?_
          have hq := bindO_inv hr
          clear hr
          obtain ⟨o_1, hr, hk⟩ := hq
          refine jp_mono (J := g75_J2 x0 x1 x2 v3 v6 v7 v8 x13 o_1) ?_ ?_
          · clear hk
            refine w_block ?_
            refine w_seq ?_
            refine w_ops ?_
            have hq := bindO_inv hr
            clear hr
            obtain ⟨v46, e46, hr⟩ := hq
            refine wo_step (v := v46) (s_ld g6 e46) ?_
            refine wo_step (v := (.i .i64 x13)) (s_pure (p_mv g13)) ?_
            have hq := bindP_inv hr
            clear hr
            obtain ⟨v48, m_5, e48, hr⟩ := hq
            refine wo_step (v := v48) (s_call (mc rfl (mc rfl mn)) (callM_le hM.call e48)) ?_
            refine wo_step (v := v48) (s_pure (p_mv rfl)) ?_
            have hq := bindO_inv hr
            clear hr
            obtain ⟨v49, e49, hr⟩ := hq
            refine wo_step (v := v49) (s_pure (o_ext rfl e49)) ?_
            have hq := bindO_inv hr
            clear hr
            obtain ⟨v50, e50, hr⟩ := hq
            have hq := asB_inv hr
            clear hr
            obtain ⟨c50, rfl, hr⟩ := hq
            refine wo_step (v := (.b c50)) (s_pure (o_ext rfl e50)) ?_
            have hq := bindP_inv hr
            clear hr
            obtain ⟨v14, m_6, e14, hr⟩ := hq
            refine wo_step (v := v14) (s_al e14) ?_
            have hq := bindP_inv hr
            clear hr
            obtain ⟨vn_1, m_7, en_1, hr⟩ := hq
            refine wo_stepN (s_st rfl rfl en_1) ?_
            refine wo_step (v := (.b c50)) (s_pure (p_mv rfl)) ?_
            refine wo_nil ?_
            refine nx_norm ?_
            refine w_seq ?_
            refine w_seq ?_
            refine w_ops ?_
            refine wo_step (v := (.b c50)) (s_pure (p_mv rfl)) ?_
            have hq := forceB_inv hr
            clear hr
            obtain ⟨c52, e52, hr⟩ := hq
            refine wo_step (v := (.b c52)) (s_pure ((p_not rfl).trans (cb e52))) ?_
            refine wo_step (v := (.b c52)) (s_pure (p_mv rfl)) ?_
            have hq := bindO_inv hr
            clear hr
            obtain ⟨o_2, hr, hk⟩ := hq
            refine wo_join 5 (g75_J3 x0 x1 x2 v3 v6 v7 v8 x13 v14 m_7 o_2) ?_ ?_
            · clear hk
              have hq := cond_inv hr
              clear hr
              rcases hq with ⟨rfl, hr⟩ | ⟨rfl, hr⟩
              · refine wo_skip (v := (.b true)) rfl rfl ?_
                refine wo_skip (v := (.b true)) rfl rfl ?_
                refine wo_skip (v := (.b true)) rfl rfl ?_
                refine wo_skip (v := (.b true)) rfl rfl ?_
                refine wo_step (v := (.b true)) (s_pure (p_pickT rfl rfl)) ?_
                refine wo_nil ?_
                cases hr
                exact ⟨_, _, rfl, rfl, gl rfl, gl g0, gl g1, gl g2, gl g3, gl g6, gl g7, gl g8, gl g13, gl rfl⟩
              · have hq := bindO_inv hr
                clear hr
                obtain ⟨v54, e54, hr⟩ := hq
                refine wo_take (v := v54) rfl (s_pure (o_faddr rfl e54)) ?_
                have hq := bindO_inv hr
                clear hr
                obtain ⟨v55, e55, hr⟩ := hq
                have hq := asI_inv hr
                clear hr
                obtain ⟨x55, rfl, hr⟩ := hq
                refine wo_take (v := (.i .i64 x55)) rfl (s_ld rfl e55) ?_
                refine wo_take (v := (.i .i64 x0)) rfl (s_pure (p_mv g0)) ?_
                have hq := forceB_inv hr
                clear hr
                obtain ⟨c57, e57, hr⟩ := hq
                refine wo_take (v := (.b c57)) rfl (s_pure (p_bin rfl rfl (b_neq.trans (cb e57)))) ?_
                refine wo_step (v := (.b c57)) (s_pure (p_pickF rfl rfl)) ?_
                refine wo_nil ?_
                cases hr
                exact ⟨_, _, rfl, rfl, gl rfl, gl g0, gl g1, gl g2, gl g3, gl g6, gl g7, gl g8, gl g13, gl rfl⟩
            · clear hr
              have hr := hk
              clear hk
              obtain ⟨c58, ho⟩ : ∃ z, z = o_2 := ⟨_, rfl⟩
              subst ho
              rintro mm_1 t_3 ⟨rfl, g58, g0, g1, g2, g3, g6, g7, g8, g13, g14⟩
              refine wo_nil ?_
              refine nx_norm ?_
              have hq := cond_inv hr
              clear hr
              rcases hq with ⟨rfl, hr⟩ | ⟨rfl, hr⟩
              · refine w_condT g58 ?_
                refine w_exit ?_
                refine nx_exit ?_
                refine bk_hit ?_
                cases hr
                exact ⟨_, _, rfl, rfl, rfl, gl g0, gl g1, gl g2, gl g3, gl g6, gl g7, gl g8, gl g13⟩
              · refine w_condF g58 ?_
                refine w_skip ?_
                refine nx_norm ?_
                refine w_seq ?_
                refine w_ops ?_
                have hq := bindO_inv hr
                clear hr
                obtain ⟨v59, e59, hr⟩ := hq
                refine wo_step (v := v59) (s_ld g3 e59) ?_
                refine wo_step (v := (.i .i64 x13)) (s_pure (p_mv g13)) ?_
                have hq := bindP_inv hr
                clear hr
                obtain ⟨v61, m_8, e61, hr⟩ := hq
                refine wo_step (v := v61) (s_bsl (qc rfl qn) e61) ?_
                have hq := bindP_inv hr
                clear hr
                obtain ⟨v62, m_9, e62, hr⟩ := hq
                refine wo_step (v := v62) (s_app rfl rfl e62) ?_
                have hq := bindP_inv hr
                clear hr
                obtain ⟨vn_2, m_10, en_2, hr⟩ := hq
                refine wo_stepN (s_st g3 rfl en_2) ?_
                refine wo_nil ?_
                refine nx_norm ?_
                refine w_seq ?_
                refine w_seq ?_
                refine w_opsY ?_
                have hq := bindO_inv hr
                clear hr
                obtain ⟨v63, e63, hr⟩ := hq
                refine wy_step (v := v63) (y_C (s_ld g8 e63)) ?_
                have hq := bindO_inv hr
                clear hr
                obtain ⟨v64, e64, hr⟩ := hq
                refine wy_step (v := v64) (y_C (s_pure (o_faddr g14 e64))) ?_
                have hq := bindO_inv hr
                clear hr
                obtain ⟨v65, e65, hr⟩ := hq
                have hq := asI_inv hr
                clear hr
                obtain ⟨x65, rfl, hr⟩ := hq
                refine wy_step (v := (.i .i64 x65)) (y_C (s_ld rfl e65)) ?_
                refine wy_step (v := (.i .i64 x1)) (y_C (s_pure (p_mv g1))) ?_
                have hq := bindO_inv hr
                clear hr
                obtain ⟨v67, e67, hr⟩ := hq
                refine wy_step (v := v67) (y_C (s_pure (o_faddr g14 e67))) ?_
                have hq := bindO_inv hr
                clear hr
                obtain ⟨v68, e68, hr⟩ := hq
                have hq := asI_inv hr
                clear hr
                obtain ⟨x68, rfl, hr⟩ := hq
                refine wy_step (v := (.i .i64 x68)) (y_C (s_ld rfl e68)) ?_
                have hq := forceI_inv hr
                clear hr
                obtain ⟨x69, e69, hr⟩ := hq
                refine wy_step (v := (.i .i64 x69)) (y_C (s_pure (p_bin rfl rfl (b_add.trans (ci e69))))) ?_
                refine wy_step (v := (.i .i64 x2)) (y_C (s_pure (p_mv g2))) ?_
                have hq := bindO_inv hr
                clear hr
                obtain ⟨v71, e71, hr⟩ := hq
                refine wy_step (v := v71) (y_C (s_pure (o_faddr g14 e71))) ?_
                have hq := bindO_inv hr
                clear hr
                obtain ⟨v72, e72, hr⟩ := hq
                have hq := asI_inv hr
                clear hr
                obtain ⟨x72, rfl, hr⟩ := hq
                refine wy_step (v := (.i .i64 x72)) (y_C (s_ld rfl e72)) ?_
                have hq := forceI_inv hr
                clear hr
                obtain ⟨x73, e73, hr⟩ := hq
                refine wy_step (v := (.i .i64 x73)) (y_C (s_pure (p_bin rfl rfl (b_add.trans (ci e73))))) ?_
                have hq := bindP_inv hr
                clear hr
                obtain ⟨v74, m_11, e74, hr⟩ := hq
                have hq := asB_inv hr
                clear hr
                obtain ⟨c74, rfl, hr⟩ := hq
                refine wy_step (v := (.b c74)) (y_callv rfl (mc rfl (mc rfl (mc rfl mn))) (callyM_le hM.call hM.round e74)) ?_
                refine wy_nil ?_
                refine nx_norm ?_
                have hq := cond_inv hr
                clear hr
                rcases hq with ⟨rfl, hr⟩ | ⟨rfl, hr⟩
                · refine w_condT rfl ?_
                  refine w_seq ?_
                  refine w_ops ?_
                  refine wo_step (v := (.b true)) (s_pure (p_mv rfl)) ?_
                  refine wo_nil ?_
                  refine nx_norm ?_
                  refine w_ret ?_
                  refine nx_ret ?_
                  refine bk_ret ?_
                  cases hr
                  exact ⟨_, _, rfl, rfl, rfl, gl rfl⟩
                · refine w_condF rfl ?_
                  refine w_skip ?_
                  refine nx_norm ?_
                  refine w_ops ?_
                  have hq := bindO_inv hr
                  clear hr
                  obtain ⟨v75, e75, hr⟩ := hq
                  refine wo_step (v := v75) (s_ld g3 e75) ?_
                  have hq := bindO_inv hr
                  clear hr
                  obtain ⟨v76, e76, hr⟩ := hq
                  refine wo_step (v := v76) (s_ld g3 e76) ?_
                  have hq := bindO_inv hr
                  clear hr
                  obtain ⟨v77, e77, hr⟩ := hq
                  have hq := asI_inv hr
                  clear hr
                  obtain ⟨x77, rfl, hr⟩ := hq
                  refine wo_step (v := (.i .i64 x77)) (s_pure (o_len rfl e77)) ?_
                  have hq := forceI_inv hr
                  clear hr
                  obtain ⟨x78, e78, hr⟩ := hq
                  refine wo_step (v := (.i .i64 x78)) (s_pure (p_bin rfl rfl (b_sub.trans (ci e78)))) ?_
                  have hq := bindO_inv hr
                  clear hr
                  obtain ⟨v79, e79, hr⟩ := hq
                  refine wo_step (v := v79) (s_pure (o_slS rfl on (os rfl) on e79)) ?_
                  have hq := bindP_inv hr
                  clear hr
                  obtain ⟨vn_3, m_12, en_3, hr⟩ := hq
                  refine wo_stepN (s_st g3 rfl en_3) ?_
                  refine wo_nil ?_
                  refine bk_norm ?_
                  cases hr
                  exact ⟨_, _, rfl, rfl, rfl, gl g0, gl g1, gl g2, gl g3, gl g6, gl g7, gl g8, gl g13⟩
          · have hr := hk
            clear hk
            rcases o_1 with o_1 | o_1
            · obtain ⟨m_13, ho⟩ : ∃ z, z = o_1 := ⟨_, rfl⟩
              subst ho
              rintro _ mm_2 t_4 ⟨rfl, rfl, g0, g1, g2, g3, g6, g7, g8, g13⟩
              refine nx_norm ?_
              refine w_ops ?_
              refine wo_step (v := (.i .i64 x13)) (s_pure (p_mv g13)) ?_
              have hq := forceI_inv hr
              clear hr
              obtain ⟨x44, e44, hr⟩ := hq
              refine wo_step (v := (.i .i64 x44)) (s_pure (p_bin rfl rfl (b_add.trans (ci e44)))) ?_
              refine wo_step (v := (.i .i64 x44)) (s_pure (p_mv rfl)) ?_
              refine wo_nil ?_
              cases hr
              exact ⟨_, _, rfl, rfl, rfl, gl rfl, gl g0, gl g1, gl g2, gl g3, gl g6, gl g7, gl g8⟩
            · obtain ⟨c12, m_14⟩ := o_1
              rintro _ mm_3 t_5 ⟨rfl, rfl, g12⟩
              refine nx_ret ?_
              cases hr
              exact ⟨_, _, rfl, ne_norm_ret, rfl, rfl, gl g12⟩
        · refine w_condF rfl ?_
          refine w_exit ?_
          refine nx_exit ?_
          cases hr
          exact ⟨_, _, rfl, ne_norm_exit, rfl, rfl, gl g0, gl g7⟩
      · rcases o_3 with o_3 | o_3
        · obtain ⟨m_15, ho⟩ : ∃ z, z = o_3 := ⟨_, rfl⟩
          subst ho
          rintro _ mm_4 t_6 ⟨rfl, rfl, g0, g7⟩
          refine bk_hit ?_
          refine nx_norm ?_
          refine w_seq ?_
          refine w_ops ?_
          refine wo_step (v := (.i .i64 x0)) (s_pure (p_mv g0)) ?_
          have hq := bindO_inv hr
          clear hr
          obtain ⟨v81, e81, hr⟩ := hq
          refine wo_step (v := v81) (s_pure (o_ixA g7 rfl e81)) ?_
          have hq := bindP_inv hr
          clear hr
          obtain ⟨vn_4, m_16, en_4, hr⟩ := hq
          refine wo_stepN (s_st rfl rfl en_4) ?_
          refine wo_nil ?_
          refine nx_norm ?_
          refine w_seq ?_
          refine w_ops ?_
          refine wo_step (v := (.b false)) (s_pure (p_mv rfl)) ?_
          refine wo_nil ?_
          refine nx_norm ?_
          refine w_ret ?_
          exact qf ret_ok (rt rfl rn) hr
        · obtain ⟨c12_1, m_17⟩ := o_3
          rintro _ mm_5 t_7 ⟨rfl, rfl, g12⟩
          refine bk_ret ?_
          refine nx_ret ?_
          exact qf ret_ok (rt g12 rn) hr

/- dibber/turn.turned -/

def g77 (M : Means) (ro : List ABlk) (v0 : AVal) (m0 : Mm) : Option (AVal × Heap × Nat × Nat) :=
  bindP (stepM ro m0 (.bx 31 4 (.c v0))) fun v1 m_1 =>
  bindP (stepM ro m_1 (.al 31 [(AVal.i IntKind.i64 0), (AVal.i IntKind.i64 0), (AVal.i IntKind.i64 0), (AVal.i IntKind.i64 0)])) fun v2 m_2 =>
  bindO (evP .e (.faddr 1 (.c v1))) fun v3 =>
  bindO (ldM ro m_2 true 1 v3) fun v4 =>
  asI .i64 v4 fun x4 =>
  bindO (evP .e (.faddr 0 (.c v1))) fun v5 =>
  bindO (ldM ro m_2 true 1 v5) fun v6 =>
  asI .i64 v6 fun x6 =>
  bindO (evP .e (.faddr 3 (.c v1))) fun v7 =>
  bindO (ldM ro m_2 true 1 v7) fun v8 =>
  asI .i64 v8 fun x8 =>
  forceI (wr .i64 (0 - x8)) fun x9 =>
  bindO (evP .e (.faddr 2 (.c v1))) fun v10 =>
  bindO (ldM ro m_2 true 1 v10) fun v11 =>
  asI .i64 v11 fun x11 =>
  forceI (wr .i64 (0 - x11)) fun x12 =>
  bindO ((fillA [(AVal.i IntKind.i64 0), (AVal.i IntKind.i64 0), (AVal.i IntKind.i64 0), (AVal.i IntKind.i64 0)] [((0, 1), (.i .i64 x4)), ((1, 1), (.i .i64 x6)), ((2, 1), (.i .i64 x9)), ((3, 1), (.i .i64 x12))]).map AVal.agg) fun v13 =>
  bindP (stepM ro m_2 (.st 4 (.c v2) (.c v13))) fun vn m_3 =>
  bindO (ldM ro m_3 false 4 v2) fun vr =>
  finM m0.h.length (tupA [vr]) m_3

theorem g77_ok {ro : List ABlk} {O : Caller} {M : Means} (hM : M.Ok ⟨F, O⟩ ro) {v0 h r} (ho : O 77 [v0] h = none) (hr : g77 M ro v0 ⟨h, h.length, h.length⟩ = some r) : callX ⟨F, O⟩ ro 77 [v0] h = some r := by
  refine callX_of (F := ⟨F, O⟩) (fn := fn77) (g := g77 M ro v0) ho rfl rfl hr ?_
  clear ho
  clear hr
  intro m0 t0 ht hr
  have g0 : t0.get 0 = v0 := ht 0
  clear ht
  unfold g77 at hr
  refine w_seq ?_
  refine w_ops ?_
  have hq := bindP_inv hr
  clear hr
  obtain ⟨v1, m_1, e1, hr⟩ := hq
  refine wo_step (v := v1) (s_bx g0 e1) ?_
  have hq := bindP_inv hr
  clear hr
  obtain ⟨v2, m_2, e2, hr⟩ := hq
  refine wo_step (v := v2) (s_al e2) ?_
  refine wo_nil ?_
  refine nx_norm ?_
  refine w_seq ?_
  refine w_ops ?_
  have hq := bindO_inv hr
  clear hr
  obtain ⟨v3, e3, hr⟩ := hq
  refine wo_step (v := v3) (s_pure (o_faddr rfl e3)) ?_
  have hq := bindO_inv hr
  clear hr
  obtain ⟨v4, e4, hr⟩ := hq
  have hq := asI_inv hr
  clear hr
  obtain ⟨x4, rfl, hr⟩ := hq
  refine wo_step (v := (.i .i64 x4)) (s_ld rfl e4) ?_
  have hq := bindO_inv hr
  clear hr
  obtain ⟨v5, e5, hr⟩ := hq
  refine wo_step (v := v5) (s_pure (o_faddr rfl e5)) ?_
  have hq := bindO_inv hr
  clear hr
  obtain ⟨v6, e6, hr⟩ := hq
  have hq := asI_inv hr
  clear hr
  obtain ⟨x6, rfl, hr⟩ := hq
  refine wo_step (v := (.i .i64 x6)) (s_ld rfl e6) ?_
  have hq := bindO_inv hr
  clear hr
  obtain ⟨v7, e7, hr⟩ := hq
  refine wo_step (v := v7) (s_pure (o_faddr rfl e7)) ?_
  have hq := bindO_inv hr
  clear hr
  obtain ⟨v8, e8, hr⟩ := hq
  have hq := asI_inv hr
  clear hr
  obtain ⟨x8, rfl, hr⟩ := hq
  refine wo_step (v := (.i .i64 x8)) (s_ld rfl e8) ?_
  have hq := forceI_inv hr
  clear hr
  obtain ⟨x9, e9, hr⟩ := hq
  refine wo_step (v := (.i .i64 x9)) (s_pure ((p_neg rfl).trans (ci e9))) ?_
  have hq := bindO_inv hr
  clear hr
  obtain ⟨v10, e10, hr⟩ := hq
  refine wo_step (v := v10) (s_pure (o_faddr rfl e10)) ?_
  have hq := bindO_inv hr
  clear hr
  obtain ⟨v11, e11, hr⟩ := hq
  have hq := asI_inv hr
  clear hr
  obtain ⟨x11, rfl, hr⟩ := hq
  refine wo_step (v := (.i .i64 x11)) (s_ld rfl e11) ?_
  have hq := forceI_inv hr
  clear hr
  obtain ⟨x12, e12, hr⟩ := hq
  refine wo_step (v := (.i .i64 x12)) (s_pure ((p_neg rfl).trans (ci e12))) ?_
  have hq := bindO_inv hr
  clear hr
  obtain ⟨v13, e13, hr⟩ := hq
  refine wo_step (v := v13) (s_pure (o_build (qc rfl (qc rfl (qc rfl (qc rfl qn)))) e13)) ?_
  have hq := bindP_inv hr
  clear hr
  obtain ⟨vn, m_3, en, hr⟩ := hq
  refine wo_stepN (s_st rfl rfl en) ?_
  refine wo_nil ?_
  refine nx_norm ?_
  refine w_ret ?_
  have hq := bindO_inv hr
  clear hr
  obtain ⟨vr, er, hr⟩ := hq
  exact qf ret_ok (rc rfl er rn) hr

end Go.Proofs.YtpjjmdbkgkembaaDoor.T

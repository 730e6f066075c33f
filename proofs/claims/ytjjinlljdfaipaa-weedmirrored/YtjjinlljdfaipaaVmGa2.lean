/- Plain functions, and that the small machine answers as they do. -/
import Derived.Test.YtjjinlljdfaipaaVmP
import Derived.Test.YtjjinlljdfaipaaVmAE
open Go.Vm
set_option linter.unusedVariables false
namespace Go.Proofs.Ytjjinlljdfaipaa.W
open Go
/- dibber/dibberref02.orphan -/
abbrev g63_I0 (x0 : Int) (s : AVal × AVal × Int × Mm) (m1 : Mm) (t1 : Tr) : Prop :=
  match s with
  | (v4, v5, x6, m_4) => m_4 = m1 ∧ t1.get 4 = v4 ∧ t1.get 5 = v5 ∧ t1.get 6 = (.i .i64 x6) ∧ t1.get 0 = (.i .i64 x0)
abbrev g63_J0 (x0 : Int) (o : (Mm ⊕ (List UInt8 × Bool × Mm))) (e : AExit) (m1 : Mm) (t1 : Tr) : Prop :=
  match o with
  | (.inl mo) => e = (.exit 0) ∧ mo = m1
  | (.inr (y2, y3, mo)) => e = .ret ∧ mo = m1 ∧ t1.get 2 = (.s y2) ∧ t1.get 3 = (.b y3)
abbrev g63_I1 (x0 : Int) (x6 : Int) (s : AVal × AVal × Int × Mm) (m1 : Mm) (t1 : Tr) : Prop :=
  match s with
  | (v4_1, v5_1, x7, m_5) => m_5 = m1 ∧ t1.get 4 = v4_1 ∧ t1.get 5 = v5_1 ∧ t1.get 7 = (.i .i64 x7) ∧ t1.get 0 = (.i .i64 x0) ∧ t1.get 6 = (.i .i64 x6)
abbrev g63_J1 (x0 : Int) (x6 : Int) (o : ((AVal × AVal × Mm) ⊕ (List UInt8 × Bool × Mm))) (e : AExit) (m1 : Mm) (t1 : Tr) : Prop :=
  match o with
  | (.inl (y4, y5, mo)) => e = (.exit 2) ∧ mo = m1 ∧ t1.get 4 = y4 ∧ t1.get 5 = y5 ∧ t1.get 0 = (.i .i64 x0) ∧ t1.get 6 = (.i .i64 x6)
  | (.inr (y2, y3, mo)) => e = .ret ∧ mo = m1 ∧ t1.get 2 = (.s y2) ∧ t1.get 3 = (.b y3)
abbrev g63_I2 (x0 : Int) (v4_1 : AVal) (v5_1 : AVal) (x6 : Int) (x7 : Int) (v35 : AVal) (s44 : List UInt8) (m_9 : Mm) (s : Bool × Int) (m1 : Mm) (t1 : Tr) : Prop :=
  match s with
  | (c10, x11) => m_9 = m1 ∧ t1.get 10 = (.b c10) ∧ t1.get 11 = (.i .i64 x11) ∧ t1.get 0 = (.i .i64 x0) ∧ t1.get 4 = v4_1 ∧ t1.get 5 = v5_1 ∧ t1.get 6 = (.i .i64 x6) ∧ t1.get 7 = (.i .i64 x7) ∧ t1.get 8 = v35 ∧ t1.get 9 = (.s s44)
abbrev g63_J2 (x0 : Int) (v4_1 : AVal) (v5_1 : AVal) (x6 : Int) (x7 : Int) (v35 : AVal) (s44 : List UInt8) (m_9 : Mm) (o : Bool) (e : AExit) (m1 : Mm) (t1 : Tr) : Prop :=
  match o with
  | y10 => e = (.exit 4) ∧ m_9 = m1 ∧ t1.get 10 = (.b y10) ∧ t1.get 0 = (.i .i64 x0) ∧ t1.get 4 = v4_1 ∧ t1.get 5 = v5_1 ∧ t1.get 6 = (.i .i64 x6) ∧ t1.get 7 = (.i .i64 x7) ∧ t1.get 8 = v35 ∧ t1.get 9 = (.s s44)
abbrev g63_I3 (x0 : Int) (v4_1 : AVal) (v5_1 : AVal) (x6 : Int) (x7 : Int) (v35 : AVal) (s44 : List UInt8) (c10 : Bool) (x11 : Int) (m_9 : Mm) (s : Bool × Int) (m1 : Mm) (t1 : Tr) : Prop :=
  match s with
  | (c12, x13) => m_9 = m1 ∧ t1.get 12 = (.b c12) ∧ t1.get 13 = (.i .i64 x13) ∧ t1.get 0 = (.i .i64 x0) ∧ t1.get 4 = v4_1 ∧ t1.get 5 = v5_1 ∧ t1.get 6 = (.i .i64 x6) ∧ t1.get 7 = (.i .i64 x7) ∧ t1.get 8 = v35 ∧ t1.get 9 = (.s s44) ∧ t1.get 10 = (.b c10) ∧ t1.get 11 = (.i .i64 x11)
abbrev g63_J3 (x0 : Int) (v4_1 : AVal) (v5_1 : AVal) (x6 : Int) (x7 : Int) (v35 : AVal) (s44 : List UInt8) (c10 : Bool) (x11 : Int) (m_9 : Mm) (o : Bool) (e : AExit) (m1 : Mm) (t1 : Tr) : Prop :=
  match o with
  | y12 => e = (.exit 6) ∧ m_9 = m1 ∧ t1.get 12 = (.b y12) ∧ t1.get 0 = (.i .i64 x0) ∧ t1.get 4 = v4_1 ∧ t1.get 5 = v5_1 ∧ t1.get 6 = (.i .i64 x6) ∧ t1.get 7 = (.i .i64 x7) ∧ t1.get 8 = v35 ∧ t1.get 9 = (.s s44) ∧ t1.get 10 = (.b c10) ∧ t1.get 11 = (.i .i64 x11)
abbrev g63_J4 (x0 : Int) (v4_1 : AVal) (v5_1 : AVal) (x6 : Int) (x7 : Int) (v35 : AVal) (s44 : List UInt8) (c10 : Bool) (x11 : Int) (x13 : Int) (m_9 : Mm) (o : Bool) (m1 : Mm) (t1 : Tr) : Prop :=
  match o with
  | c73 => m_9 = m1 ∧ t1.get 73 = (.b c73) ∧ t1.get 0 = (.i .i64 x0) ∧ t1.get 4 = v4_1 ∧ t1.get 5 = v5_1 ∧ t1.get 6 = (.i .i64 x6) ∧ t1.get 7 = (.i .i64 x7) ∧ t1.get 8 = v35 ∧ t1.get 9 = (.s s44) ∧ t1.get 10 = (.b c10) ∧ t1.get 11 = (.i .i64 x11) ∧ t1.get 13 = (.i .i64 x13)
def g63_b3 (M : Means) (ro : List ABlk) (x0 : Int) (v4_1 : AVal) (v5_1 : AVal) (x6 : Int) (x7 : Int) (v35 : AVal) (s44 : List UInt8) (c10 : Bool) (x11 : Int) (m_9 : Mm) (c12 : Bool) (x13 : Int) : Option ((Bool × Int) ⊕ (Bool)) :=
  forceB (ltI x13 4) fun c56 =>
  cond c56 (
    bindO (cond c12 (
      bindO (evP .e (.ixS 1 (.c v4_1) (.c (.i .i64 x11)))) fun v63 =>
      bindO (ldA ro m_9.h true 1 v63) fun v64 =>
      bindO (evP .e (.ixS 1 (.c v64) (.c (.i .i64 x13)))) fun v66 =>
      bindO (ldA ro m_9.h true 1 v66) fun v67 =>
      asI .i64 v67 fun x67 =>
      bindO (evP .e (.ixS 1 (.c v35) (.c (.i .i64 x13)))) fun v70 =>
      bindO (ldA ro m_9.h true 1 v70) fun v71 =>
      asI .i64 v71 fun x71 =>
      forceB (eqI x67 x71) fun c72 =>
      some c72) (
      some false)) fun c73 =>
    forceI (wr .i64 (x13 + 1)) fun x58 =>
    some (.inl (c73, x58))) (
    some (.inr c12))
abbrev g63_J5 (x0 : Int) (v4_1 : AVal) (v5_1 : AVal) (x6 : Int) (x7 : Int) (v35 : AVal) (s44 : List UInt8) (x11 : Int) (m_9 : Mm) (o : Bool) (m1 : Mm) (t1 : Tr) : Prop :=
  match o with
  | c78 => m_9 = m1 ∧ t1.get 78 = (.b c78) ∧ t1.get 0 = (.i .i64 x0) ∧ t1.get 4 = v4_1 ∧ t1.get 5 = v5_1 ∧ t1.get 6 = (.i .i64 x6) ∧ t1.get 7 = (.i .i64 x7) ∧ t1.get 8 = v35 ∧ t1.get 9 = (.s s44) ∧ t1.get 11 = (.i .i64 x11)
def g63_b2 (M : Means) (ro : List ABlk) (x0 : Int) (v4_1 : AVal) (v5_1 : AVal) (x6 : Int) (x7 : Int) (v35 : AVal) (s44 : List UInt8) (m_9 : Mm) (c10 : Bool) (x11 : Int) : Option ((Bool × Int) ⊕ (Bool)) :=
  bindO (evP .e (.len false (.c v4_1))) fun v51 =>
  asI .i64 v51 fun x51 =>
  forceB (ltI x11 x51) fun c52 =>
  cond c52 (
    bindO (M.loop (S := Bool × Int) (R := Bool) (fun s => g63_b3 M ro x0 v4_1 v5_1 x6 x7 v35 s44 c10 x11 m_9 s.1 s.2) (true, 0)) fun c12_1 =>
    bindO (cond c10 (
      forceB (!c12_1) fun c77 =>
      some c77) (
      some false)) fun c78 =>
    forceI (wr .i64 (x11 + 1)) fun x54 =>
    some (.inl (c78, x54))) (
    some (.inr c10))
abbrev g63_J6 (x0 : Int) (x6 : Int) (x7 : Int) (o : (AVal × AVal × Mm)) (e : AExit) (m1 : Mm) (t1 : Tr) : Prop :=
  match o with
  | (y4, y5, mo) => e = .norm ∧ mo = m1 ∧ t1.get 4 = y4 ∧ t1.get 5 = y5 ∧ t1.get 0 = (.i .i64 x0) ∧ t1.get 6 = (.i .i64 x6) ∧ t1.get 7 = (.i .i64 x7)
def g63_b1 (M : Means) (ro : List ABlk) (x0 : Int) (x6 : Int) (v4_1 : AVal) (v5_1 : AVal) (x7 : Int) (m_5 : Mm) : Option ((AVal × AVal × Int × Mm) ⊕ (((AVal × AVal × Mm) ⊕ (List UInt8 × Bool × Mm)))) :=
  forceB (ltI x7 2) fun c24 =>
  cond c24 (
    bindP (stepM ro m_5 (.bsl 3 1 [(AVal.i IntKind.i64 0)] 1 [((0, 1), .c (.i .i64 x7))])) fun v29 m_6 =>
    bindO (evP .e (.ixS 1 (.c v4_1) (.c (.i .i64 x6)))) fun v32 =>
    bindO (ldM ro m_6 true 1 v32) fun v33 =>
    bindP (callM M.call m_6 59 [(.i .i64 x0), v29, v33]) fun v34 m_7 =>
    bindP (callM M.call m_7 77 [v34]) fun v35 m_8 =>
    bindO (evP .e (.ixS 1 (.c v5_1) (.c (.i .i64 x6)))) fun v38 =>
    forceI (wr .i64 (x7 + 1)) fun x42 =>
    bindO (evP .e (.slStr (.c (AVal.s [48, 49])) (some (.c (.i .i64 x7))) (some (.c (.i .i64 x42))))) fun v43 =>
    asS v43 fun s43 =>
    bindO (ldM ro m_8 true 1 v38) fun v39 =>
    asS v39 fun s39 =>
    bindO (evP .e (.sbin BinOp.add (.c (.s s39)) (.c (.s s43)))) fun v44 =>
    asS v44 fun s44 =>
    bindP (callM M.call m_8 58 [v35]) fun v46 m_9 =>
    asI .i64 v46 fun x46 =>
    forceB (eqI x46 0) fun c47 =>
    cond c47 (
      some (.inr (.inr (s44, true, m_9)))) (
      bindO (M.loop (S := Bool × Int) (R := Bool) (fun s => g63_b2 M ro x0 v4_1 v5_1 x6 x7 v35 s44 m_9 s.1 s.2) (true, 0)) fun c10_1 =>
      bindO (α := (AVal × AVal × Mm)) (
        cond c10_1 (
          bindP (stepM ro m_9 (.bsl 55 1 [AVal.nsl] 1 [((0, 1), .c v35)])) fun v82 m_10 =>
          bindP (stepM ro m_10 (.app 55 1 24 [AVal.nsl] (.c v4_1) (.c v82))) fun v83 m_11 =>
          bindP (stepM ro m_11 (.bsl 9 1 [(AVal.s [])] 1 [((0, 1), .c (.s s44))])) fun v86 m_12 =>
          bindP (stepM ro m_12 (.app 9 1 16 [(AVal.s [])] (.c v5_1) (.c v86))) fun v87 m_13 =>
          some (v83, v87, m_13)) (
          some (v4_1, v5_1, m_9))) fun ⟨v4_2, v5_2, m_14⟩ =>
      forceI (wr .i64 (x7 + 1)) fun x26 =>
      some (.inl (v4_2, v5_2, x26, m_14)))) (
    some (.inr (.inl (v4_1, v5_1, m_5))))
def g63_b0 (M : Means) (ro : List ABlk) (x0 : Int) (v4 : AVal) (v5 : AVal) (x6 : Int) (m_4 : Mm) : Option ((AVal × AVal × Int × Mm) ⊕ ((Mm ⊕ (List UInt8 × Bool × Mm)))) :=
  bindO (evP .e (.len false (.c v4))) fun v19 =>
  asI .i64 v19 fun x19 =>
  forceB (ltI x6 x19) fun c20 =>
  cond c20 (
    bindO (M.loop (S := AVal × AVal × Int × Mm) (R := ((AVal × AVal × Mm) ⊕ (List UInt8 × Bool × Mm))) (fun s => g63_b1 M ro x0 x6 s.1 s.2.1 s.2.2.1 s.2.2.2) (v4, v5, 0, m_4)) fun o_5 => match o_5 with
    | (.inl (v4_3, v5_3, m_15)) =>
      forceI (wr .i64 (x6 + 1)) fun x22 =>
      some (.inl (v4_3, v5_3, x22, m_15))
    | (.inr (s2, c3, m_16)) =>
      some (.inr (.inr (s2, c3, m_16)))) (
    some (.inr (.inl m_4)))
def g63 (M : Means) (ro : List ABlk) (x0 : Int) (m0 : Mm) : Option (AVal × Heap × Nat × Nat) :=
  bindP (stepM ro m0 (.bsl 3 1 [(AVal.i IntKind.i64 0)] 4 [((0, 1), .c (.i .i64 1)), ((1, 1), .c (.i .i64 1)), ((2, 1), .c (.i .i64 1)), ((3, 1), .c (.i .i64 1))])) fun v14 m_1 =>
  bindP (stepM ro m_1 (.bsl 55 1 [AVal.nsl] 1 [((0, 1), .c v14)])) fun v15 m_2 =>
  bindP (stepM ro m_2 (.bsl 9 1 [(AVal.s [])] 1 [((0, 1), .c (AVal.s []))])) fun v16 m_3 =>
  bindO (M.loop (S := AVal × AVal × Int × Mm) (R := (Mm ⊕ (List UInt8 × Bool × Mm))) (fun s => g63_b0 M ro x0 s.1 s.2.1 s.2.2.1 s.2.2.2) (v15, v16, 0, m_3)) fun o_6 => match o_6 with
  | (.inl m_17) =>
    finM m0.h.length (tupA [(AVal.s []), (.b false)]) m_17
  | (.inr (s2_1, c3_1, m_18)) =>
    finM m0.h.length (tupA [(.s s2_1), (.b c3_1)]) m_18

theorem g63_ok {ro : List ABlk} {O : Caller} {M : Means} (hM : M.Ok ⟨F, O⟩ ro) {x0 h r} (ho : O 63 [(.i .i64 x0)] h = none) (hr : g63 M ro x0 ⟨h, h.length, h.length⟩ = some r) : callX ⟨F, O⟩ ro 63 [(.i .i64 x0)] h = some r := by
  refine callX_of (F := ⟨F, O⟩) (fn := fn63) (g := g63 M ro x0) ho rfl rfl hr ?_
  clear ho
  clear hr
  intro m0 t0 ht hr
  have g0 : t0.get 0 = (.i .i64 x0) := ht 0
  clear ht
  unfold g63 at hr
  refine w_seq ?_
  refine w_ops ?_
  refine wo_step (v := (AVal.s [])) (s_pure (p_mv rfl)) ?_
  refine wo_step (v := (.b false)) (s_pure (p_mv rfl)) ?_
  refine wo_nil ?_
  refine nx_norm ?_
  refine w_seq ?_
  refine w_ops ?_
  have hq := bindP_inv hr
  clear hr
  obtain ⟨v14, m_1, e14, hr⟩ := hq
  refine wo_step (v := v14) (s_bsl (qc rfl (qc rfl (qc rfl (qc rfl qn)))) e14) ?_
  have hq := bindP_inv hr
  clear hr
  obtain ⟨v15, m_2, e15, hr⟩ := hq
  refine wo_step (v := v15) (s_bsl (qc rfl qn) e15) ?_
  refine wo_step (v := v15) (s_pure (p_mv rfl)) ?_
  refine wo_nil ?_
  refine nx_norm ?_
  refine w_seq ?_
  refine w_ops ?_
  have hq := bindP_inv hr
  clear hr
  obtain ⟨v16, m_3, e16, hr⟩ := hq
  refine wo_step (v := v16) (s_bsl (qc rfl qn) e16) ?_
  refine wo_step (v := v16) (s_pure (p_mv rfl)) ?_
  refine wo_nil ?_
  refine nx_norm ?_
  refine w_seq ?_
  refine w_seq ?_
  refine w_ops ?_
  refine wo_step (v := (.i .i64 0)) (s_pure (p_mv rfl)) ?_
  refine wo_nil ?_
  refine nx_norm ?_
  refine w_block ?_
  have hq := bindO_inv hr
  clear hr
  obtain ⟨o_6, hl_3, hr⟩ := hq
  obtain ⟨n_3, hl_3⟩ := hM.loop _ _ _ hl_3
  refine jp_mono (w_loop _ (g63_I0 x0) (g63_J0 x0) ?_ n_3 _ _ _ _ hl_3 ⟨rfl, gl rfl, gl rfl, gl rfl, gl g0⟩) ?_
  · clear hr hl_3
    intro s mm_11 t_1 o hi hr
    obtain ⟨v4, v5, x6, m_4⟩ := s
    obtain ⟨rfl, g4, g5, g6, g0⟩ := hi
    unfold g63_b0 at hr
    refine w_seq ?_
    refine w_seq ?_
    refine w_ops ?_
    refine wo_step (v := (.i .i64 x6)) (s_pure (p_mv g6)) ?_
    refine wo_step (v := v4) (s_pure (p_mv g4)) ?_
    have hq := bindO_inv hr
    clear hr
    obtain ⟨v19, e19, hr⟩ := hq
    have hq := asI_inv hr
    clear hr
    obtain ⟨x19, rfl, hr⟩ := hq
    refine wo_step (v := (.i .i64 x19)) (s_pure (o_len rfl e19)) ?_
    have hq := forceB_inv hr
    clear hr
    obtain ⟨c20, e20, hr⟩ := hq
    refine wo_step (v := (.b c20)) (s_pure (p_bin rfl rfl (b_lss.trans (cb e20)))) ?_
    refine wo_nil ?_
    refine nx_norm ?_
    have hq := cond_inv hr
    clear hr
    rcases hq with ⟨rfl, hr⟩ | ⟨rfl, hr⟩
    · refine w_condT rfl ?_
      refine w_skip ?_
      refine nx_norm ?_
      refine w_seq ?_
      refine w_block ?_
      refine w_seq ?_
      refine w_ops ?_
      refine wo_step (v := (.i .i64 0)) (s_pure (p_mv rfl)) ?_
      refine wo_nil ?_
      refine nx_norm ?_
      refine w_block ?_
      have hq := bindO_inv hr
      clear hr
      obtain ⟨o_5, hl_2, hr⟩ := hq
      obtain ⟨n_2, hl_2⟩ := hM.loop _ _ _ hl_2
      refine jp_mono (w_loop _ (g63_I1 x0 x6) (g63_J1 x0 x6) ?_ n_2 _ _ _ _ hl_2 ⟨rfl, gl g4, gl g5, gl rfl, gl g0, gl g6⟩) ?_
      · clear hr hl_2
        intro s mm_8 t_2 o hi hr
        obtain ⟨v4_1, v5_1, x7, m_5⟩ := s
        obtain ⟨rfl, g4, g5, g7, g0, g6⟩ := hi
        unfold g63_b1 at hr
        refine w_seq ?_
        refine w_seq ?_
        refine w_ops ?_
        refine wo_step (v := (.i .i64 x7)) (s_pure (p_mv g7)) ?_
        have hq := forceB_inv hr
        clear hr
        obtain ⟨c24, e24, hr⟩ := hq
        refine wo_step (v := (.b c24)) (s_pure (p_bin rfl rfl (b_lss.trans (cb e24)))) ?_
        refine wo_nil ?_
        refine nx_norm ?_
        have hq := cond_inv hr
        clear hr
        rcases hq with ⟨rfl, hr⟩ | ⟨rfl, hr⟩
        · refine w_condT rfl ?_
          refine w_skip ?_
          refine nx_norm ?_
          refine w_seq ?_
          refine w_block ?_
          refine w_seq ?_
          refine w_ops ?_
          refine wo_step (v := (.i .i64 x0)) (s_pure (p_mv g0)) ?_
          refine wo_step (v := (.i .i64 x7)) (s_pure (p_mv g7)) ?_
          have hq := bindP_inv hr
          clear hr
          obtain ⟨v29, m_6, e29, hr⟩ := hq
          refine wo_step (v := v29) (s_bsl (qc rfl qn) e29) ?_
          refine wo_step (v := v4_1) (s_pure (p_mv g4)) ?_
          refine wo_step (v := (.i .i64 x6)) (s_pure (p_mv g6)) ?_
          have hq := bindO_inv hr
          clear hr
          obtain ⟨v32, e32, hr⟩ := hq
          refine wo_step (v := v32) (s_pure (o_ixS rfl rfl e32)) ?_
          have hq := bindO_inv hr
          clear hr
          obtain ⟨v33, e33, hr⟩ := hq
          refine wo_step (v := v33) (s_ld rfl e33) ?_
          have hq := bindP_inv hr
          clear hr
          obtain ⟨v34, m_7, e34, hr⟩ := hq
          refine wo_step (v := v34) (s_call (mc rfl (mc rfl (mc rfl mn))) (callM_le hM.call e34)) ?_
          have hq := bindP_inv hr
          clear hr
          obtain ⟨v35, m_8, e35, hr⟩ := hq
          refine wo_step (v := v35) (s_call (mc rfl mn) (callM_le hM.call e35)) ?_
          refine wo_step (v := v35) (s_pure (p_mv rfl)) ?_
          refine wo_nil ?_
          refine nx_norm ?_
          refine w_seq ?_
          refine w_ops ?_
          refine wo_step (v := v5_1) (s_pure (p_mv g5)) ?_
          refine wo_step (v := (.i .i64 x6)) (s_pure (p_mv g6)) ?_
          have hq := bindO_inv hr
          clear hr
          obtain ⟨v38, e38, hr⟩ := hq
          refine wo_step (v := v38) (s_pure (o_ixS rfl rfl e38)) ?_
          refine wo_step (v := (.i .i64 x7)) (s_pure (p_mv g7)) ?_
          refine wo_step (v := (.i .i64 x7)) (s_pure (p_mv g7)) ?_
          have hq := forceI_inv hr
          clear hr
          obtain ⟨x42, e42, hr⟩ := hq
          refine wo_step (v := (.i .i64 x42)) (s_pure (p_bin rfl rfl (b_add.trans (ci e42)))) ?_
          have hq := bindO_inv hr
          clear hr
          obtain ⟨v43, e43, hr⟩ := hq
          have hq := asS_inv hr
          clear hr
          obtain ⟨s43, rfl, hr⟩ := hq
          refine wo_step (v := (.s s43)) (s_pure (o_slStr rfl (os rfl) (os rfl) e43)) ?_
          have hq := bindO_inv hr
          clear hr
          obtain ⟨v39, e39, hr⟩ := hq
          have hq := asS_inv hr
          clear hr
          obtain ⟨s39, rfl, hr⟩ := hq
          refine wo_step (v := (.s s39)) (s_ld rfl e39) ?_
          have hq := bindO_inv hr
          clear hr
          obtain ⟨v44, e44, hr⟩ := hq
          have hq := asS_inv hr
          clear hr
          obtain ⟨s44, rfl, hr⟩ := hq
          refine wo_step (v := (.s s44)) (s_pure (o_sbin rfl rfl e44)) ?_
          refine wo_step (v := (.s s44)) (s_pure (p_mv rfl)) ?_
          refine wo_nil ?_
          refine nx_norm ?_
          refine w_seq ?_
          refine w_seq ?_
          refine w_ops ?_
          refine wo_step (v := v35) (s_pure (p_mv rfl)) ?_
          have hq := bindP_inv hr
          clear hr
          obtain ⟨v46, m_9, e46, hr⟩ := hq
          have hq := asI_inv hr
          clear hr
          obtain ⟨x46, rfl, hr⟩ := hq
          refine wo_step (v := (.i .i64 x46)) (s_call (mc rfl mn) (callM_le hM.call e46)) ?_
          have hq := forceB_inv hr
          clear hr
          obtain ⟨c47, e47, hr⟩ := hq
          refine wo_step (v := (.b c47)) (s_pure (p_bin rfl rfl (b_eql.trans (cb e47)))) ?_
          refine wo_nil ?_
          refine nx_norm ?_
          have hq := cond_inv hr
          clear hr
          rcases hq with ⟨rfl, hr⟩ | ⟨rfl, hr⟩
          · refine w_condT rfl ?_
            refine w_seq ?_
            refine w_ops ?_
            refine wo_step (v := (.s s44)) (s_pure (p_mv rfl)) ?_
            refine wo_step (v := (.s s44)) (s_pure (p_mv rfl)) ?_
            refine wo_step (v := (.b true)) (s_pure (p_mv rfl)) ?_
            refine wo_nil ?_
            refine nx_norm ?_
            refine w_ret ?_
            refine nx_ret ?_
            refine bk_ret ?_
            refine nx_ret ?_
            cases hr
            exact ⟨_, _, rfl, ne_norm_ret, rfl, rfl, gl rfl, gl rfl⟩
          · refine w_condF rfl ?_
            refine w_skip ?_
            refine nx_norm ?_
            refine w_seq ?_
            refine w_ops ?_
            refine wo_step (v := (.b true)) (s_pure (p_mv rfl)) ?_
            refine wo_nil ?_
            refine nx_norm ?_
            refine w_seq ?_
            refine w_seq ?_
            refine w_ops ?_
            refine wo_step (v := (.i .i64 0)) (s_pure (p_mv rfl)) ?_
            refine wo_nil ?_
            refine nx_norm ?_
            refine w_block ?_
            have hq := bindO_inv hr
            clear hr
            obtain ⟨o_3, hl_1, hr⟩ := hq
            obtain ⟨n_1, hl_1⟩ := hM.loop _ _ _ hl_1
            refine jp_mono (w_loop _ (g63_I2 x0 v4_1 v5_1 x6 x7 v35 s44 m_9) (g63_J2 x0 v4_1 v5_1 x6 x7 v35 s44 m_9) ?_ n_1 _ _ _ _ hl_1 ⟨rfl, gl rfl, gl rfl, gl g0, gl g4, gl g5, gl g6, gl g7, gl rfl, gl rfl⟩) ?_
            · clear hr hl_1
              intro s mm_5 t_3 o hi hr
              obtain ⟨c10, x11⟩ := s
              obtain ⟨rfl, g10, g11, g0, g4, g5, g6, g7, g8, g9⟩ := hi
              unfold g63_b2 at hr
              refine w_seq ?_
              refine w_seq ?_
              refine w_ops ?_
              refine wo_step (v := (.i .i64 x11)) (s_pure (p_mv g11)) ?_
              refine wo_step (v := v4_1) (s_pure (p_mv g4)) ?_
              have hq := bindO_inv hr
              clear hr
              obtain ⟨v51, e51, hr⟩ := hq
              have hq := asI_inv hr
              clear hr
              obtain ⟨x51, rfl, hr⟩ := hq
              refine wo_step (v := (.i .i64 x51)) (s_pure (o_len rfl e51)) ?_
              have hq := forceB_inv hr
              clear hr
              obtain ⟨c52, e52, hr⟩ := hq
              refine wo_step (v := (.b c52)) (s_pure (p_bin rfl rfl (b_lss.trans (cb e52)))) ?_
              refine wo_nil ?_
              refine nx_norm ?_
              have hq := cond_inv hr
              clear hr
              rcases hq with ⟨rfl, hr⟩ | ⟨rfl, hr⟩
              · refine w_condT rfl ?_
                refine w_skip ?_
                refine nx_norm ?_
                refine w_seq ?_
                refine w_block ?_
                refine w_seq ?_
                refine w_ops ?_
                refine wo_step (v := (.b true)) (s_pure (p_mv rfl)) ?_
                refine wo_nil ?_
                refine nx_norm ?_
                refine w_seq ?_
                refine w_seq ?_
                refine w_ops ?_
                refine wo_step (v := (.i .i64 0)) (s_pure (p_mv rfl)) ?_
                refine wo_nil ?_
                refine nx_norm ?_
                refine w_block ?_
                have hq := bindO_inv hr
                clear hr
                obtain ⟨o_1, hl, hr⟩ := hq
                obtain ⟨n, hl⟩ := hM.loop _ _ _ hl
                refine jp_mono (w_loop _ (g63_I3 x0 v4_1 v5_1 x6 x7 v35 s44 c10 x11 m_9) (g63_J3 x0 v4_1 v5_1 x6 x7 v35 s44 c10 x11 m_9) ?_ n _ _ _ _ hl ⟨rfl, gl rfl, gl rfl, gl g0, gl g4, gl g5, gl g6, gl g7, gl g8, gl g9, gl g10, gl g11⟩) ?_
                · clear hr hl
                  intro s mm_2 t_4 o hi hr
                  obtain ⟨c12, x13⟩ := s
                  obtain ⟨rfl, g12, g13, g0, g4, g5, g6, g7, g8, g9, g10, g11⟩ := hi
                  unfold g63_b3 at hr
                  refine w_seq ?_
                  refine w_seq ?_
                  refine w_ops ?_
                  refine wo_step (v := (.i .i64 x13)) (s_pure (p_mv g13)) ?_
                  have hq := forceB_inv hr
                  clear hr
                  obtain ⟨c56, e56, hr⟩ := hq
                  refine wo_step (v := (.b c56)) (s_pure (p_bin rfl rfl (b_lss.trans (cb e56)))) ?_
                  refine wo_nil ?_
                  refine nx_norm ?_
                  have hq := cond_inv hr
                  clear hr
                  rcases hq with ⟨rfl, hr⟩ | ⟨rfl, hr⟩
                  · refine w_condT rfl ?_
                    refine w_skip ?_
                    refine nx_norm ?_
                    refine w_seq ?_
                    refine w_block ?_
                    refine w_any ?_
                    refine wa_step (v := (.b c12)) (a_pure (p_mv g12)) ?_
                    refine wa_step (v := (.b c12)) (a_pure (p_mv rfl)) ?_
                    have hq := bindO_inv hr
                    clear hr
                    obtain ⟨o, hr, hk⟩ := hq
                    refine wa_join 13 (JA (g63_J4 x0 v4_1 v5_1 x6 x7 v35 s44 c10 x11 x13 m_9 o) m_9 (m_9.h) [] []) ?_ ?_
                    · clear hk
                      have hq := cond_inv hr
                      clear hr
                      rcases hq with ⟨rfl, hr⟩ | ⟨rfl, hr⟩
                      · refine wa_take (v := v4_1) rfl (a_pure (p_mv g4)) ?_
                        refine wa_take (v := (.i .i64 x11)) rfl (a_pure (p_mv g11)) ?_
                        have hq := bindO_inv hr
                        clear hr
                        obtain ⟨v63, e63, hr⟩ := hq
                        refine wa_take (v := v63) rfl (a_pure (o_ixS rfl rfl e63)) ?_
                        have hq := bindO_inv hr
                        clear hr
                        obtain ⟨v64, e64, hr⟩ := hq
                        refine wa_take (v := v64) rfl (a_ld rfl e64) ?_
                        refine wa_take (v := (.i .i64 x13)) rfl (a_pure (p_mv g13)) ?_
                        have hq := bindO_inv hr
                        clear hr
                        obtain ⟨v66, e66, hr⟩ := hq
                        refine wa_take (v := v66) rfl (a_pure (o_ixS rfl rfl e66)) ?_
                        have hq := bindO_inv hr
                        clear hr
                        obtain ⟨v67, e67, hr⟩ := hq
                        have hq := asI_inv hr
                        clear hr
                        obtain ⟨x67, rfl, hr⟩ := hq
                        refine wa_take (v := (.i .i64 x67)) rfl (a_ld rfl e67) ?_
                        refine wa_take (v := v35) rfl (a_pure (p_mv g8)) ?_
                        refine wa_take (v := (.i .i64 x13)) rfl (a_pure (p_mv g13)) ?_
                        have hq := bindO_inv hr
                        clear hr
                        obtain ⟨v70, e70, hr⟩ := hq
                        refine wa_take (v := v70) rfl (a_pure (o_ixS rfl rfl e70)) ?_
                        have hq := bindO_inv hr
                        clear hr
                        obtain ⟨v71, e71, hr⟩ := hq
                        have hq := asI_inv hr
                        clear hr
                        obtain ⟨x71, rfl, hr⟩ := hq
                        refine wa_take (v := (.i .i64 x71)) rfl (a_ld rfl e71) ?_
                        have hq := forceB_inv hr
                        clear hr
                        obtain ⟨c72, e72, hr⟩ := hq
                        refine wa_take (v := (.b c72)) rfl (a_pure (p_bin rfl rfl (b_eql.trans (cb e72)))) ?_
                        refine wa_step (v := (.b c72)) (a_pure (p_pickT rfl rfl)) ?_
                        refine wa_nil ?_
                        cases hr
                        exact ja_in ⟨rfl, gl rfl, gl g0, gl g4, gl g5, gl g6, gl g7, gl g8, gl g9, gl g10, gl g11, gl g13⟩
                      · refine wa_skip (v := (.b false)) rfl rfl ?_
                        refine wa_skip (v := (.b false)) rfl rfl ?_
                        refine wa_skip (v := (.b false)) rfl rfl ?_
                        refine wa_skip (v := (.b false)) rfl rfl ?_
                        refine wa_skip (v := (.b false)) rfl rfl ?_
                        refine wa_skip (v := (.b false)) rfl rfl ?_
                        refine wa_skip (v := (.b false)) rfl rfl ?_
                        refine wa_skip (v := (.b false)) rfl rfl ?_
                        refine wa_skip (v := (.b false)) rfl rfl ?_
                        refine wa_skip (v := (.b false)) rfl rfl ?_
                        refine wa_skip (v := (.b false)) rfl rfl ?_
                        refine wa_skip (v := (.b false)) rfl rfl ?_
                        refine wa_step (v := (.b false)) (a_pure (p_pickF rfl rfl)) ?_
                        refine wa_nil ?_
                        cases hr
                        exact ja_in ⟨rfl, gl rfl, gl g0, gl g4, gl g5, gl g6, gl g7, gl g8, gl g9, gl g10, gl g11, gl g13⟩
                    · clear hr
                      have hr := hk
                      clear hk
                      obtain ⟨c73, ho⟩ : ∃ z, z = o := ⟨_, rfl⟩
                      subst ho
                      refine ja_out ?_
                      rintro t_5 ⟨-, g73, g0, g4, g5, g6, g7, g8, g9, g10, g11, g13⟩
                      refine wa_step (v := (.b c73)) (a_pure (p_mv g73)) ?_
                      refine wa_nil ?_
                      refine ⟨m_9, rfl, ?_⟩
                      refine bk_norm ?_
                      refine nx_norm ?_
                      refine w_ops ?_
                      refine wo_step (v := (.i .i64 x13)) (s_pure (p_mv g13)) ?_
                      have hq := forceI_inv hr
                      clear hr
                      obtain ⟨x58, e58, hr⟩ := hq
                      refine wo_step (v := (.i .i64 x58)) (s_pure (p_bin rfl rfl (b_add.trans (ci e58)))) ?_
                      refine wo_step (v := (.i .i64 x58)) (s_pure (p_mv rfl)) ?_
                      refine wo_nil ?_
                      cases hr
                      exact ⟨_, _, rfl, rfl, rfl, gl rfl, gl rfl, gl g0, gl g4, gl g5, gl g6, gl g7, gl g8, gl g9, gl g10, gl g11⟩
                  · refine w_condF rfl ?_
                    refine w_exit ?_
                    refine nx_exit ?_
                    cases hr
                    exact ⟨_, _, rfl, ne_norm_exit, rfl, rfl, gl g12, gl g0, gl g4, gl g5, gl g6, gl g7, gl g8, gl g9, gl g10, gl g11⟩
                · obtain ⟨c12_1, ho⟩ : ∃ z, z = o_1 := ⟨_, rfl⟩
                  subst ho
                  rintro _ mm_1 t_6 ⟨rfl, rfl, g12, g0, g4, g5, g6, g7, g8, g9, g10, g11⟩
                  refine bk_hit ?_
                  refine nx_norm ?_
                  refine w_ops ?_
                  refine wo_step (v := (.b c10)) (s_pure (p_mv g10)) ?_
                  refine wo_step (v := (.b c10)) (s_pure (p_mv rfl)) ?_
                  have hq := bindO_inv hr
                  clear hr
                  obtain ⟨o_2, hr, hk⟩ := hq
                  refine wo_join 3 (g63_J5 x0 v4_1 v5_1 x6 x7 v35 s44 x11 m_9 o_2) ?_ ?_
                  · clear hk
                    have hq := cond_inv hr
                    clear hr
                    rcases hq with ⟨rfl, hr⟩ | ⟨rfl, hr⟩
                    · refine wo_take (v := (.b c12_1)) rfl (s_pure (p_mv g12)) ?_
                      have hq := forceB_inv hr
                      clear hr
                      obtain ⟨c77, e77, hr⟩ := hq
                      refine wo_take (v := (.b c77)) rfl (s_pure ((p_not rfl).trans (cb e77))) ?_
                      refine wo_step (v := (.b c77)) (s_pure (p_pickT rfl rfl)) ?_
                      refine wo_nil ?_
                      cases hr
                      exact ⟨_, _, rfl, rfl, gl rfl, gl g0, gl g4, gl g5, gl g6, gl g7, gl g8, gl g9, gl g11⟩
                    · refine wo_skip (v := (.b false)) rfl rfl ?_
                      refine wo_skip (v := (.b false)) rfl rfl ?_
                      refine wo_step (v := (.b false)) (s_pure (p_pickF rfl rfl)) ?_
                      refine wo_nil ?_
                      cases hr
                      exact ⟨_, _, rfl, rfl, gl rfl, gl g0, gl g4, gl g5, gl g6, gl g7, gl g8, gl g9, gl g11⟩
                  · clear hr
                    have hr := hk
                    clear hk
                    obtain ⟨c78, ho⟩ : ∃ z, z = o_2 := ⟨_, rfl⟩
                    subst ho
                    rintro mm t_7 ⟨rfl, g78, g0, g4, g5, g6, g7, g8, g9, g11⟩
                    refine wo_step (v := (.b c78)) (s_pure (p_mv g78)) ?_
                    refine wo_nil ?_
                    refine bk_norm ?_
                    refine nx_norm ?_
                    refine w_ops ?_
                    refine wo_step (v := (.i .i64 x11)) (s_pure (p_mv g11)) ?_
                    have hq := forceI_inv hr
                    clear hr
                    obtain ⟨x54, e54, hr⟩ := hq
                    refine wo_step (v := (.i .i64 x54)) (s_pure (p_bin rfl rfl (b_add.trans (ci e54)))) ?_
                    refine wo_step (v := (.i .i64 x54)) (s_pure (p_mv rfl)) ?_
                    refine wo_nil ?_
                    cases hr
                    exact ⟨_, _, rfl, rfl, rfl, gl rfl, gl rfl, gl g0, gl g4, gl g5, gl g6, gl g7, gl g8, gl g9⟩
              · refine w_condF rfl ?_
                refine w_exit ?_
                refine nx_exit ?_
                cases hr
                exact ⟨_, _, rfl, ne_norm_exit, rfl, rfl, gl g10, gl g0, gl g4, gl g5, gl g6, gl g7, gl g8, gl g9⟩
            · obtain ⟨c10_1, ho⟩ : ∃ z, z = o_3 := ⟨_, rfl⟩
              subst ho
              rintro _ mm_4 t_8 ⟨rfl, rfl, g10, g0, g4, g5, g6, g7, g8, g9⟩
              refine bk_hit ?_
              refine nx_norm ?_
              refine w_seq ?_
              refine w_ops ?_
              refine wo_step (v := (.b c10_1)) (s_pure (p_mv g10)) ?_
              refine wo_nil ?_
              refine nx_norm ?_
              have hq := bindO_inv hr
              clear hr
              obtain ⟨o_4, hr, hk⟩ := hq
              refine jp_mono (J := g63_J6 x0 x6 x7 o_4) ?_ ?_
              · clear hk
                have hq := cond_inv hr
                clear hr
                rcases hq with ⟨rfl, hr⟩ | ⟨rfl, hr⟩
                · refine w_condT rfl ?_
                  refine w_seq ?_
                  refine w_ops ?_
                  refine wo_step (v := v4_1) (s_pure (p_mv g4)) ?_
                  refine wo_step (v := v35) (s_pure (p_mv g8)) ?_
                  have hq := bindP_inv hr
                  clear hr
                  obtain ⟨v82, m_10, e82, hr⟩ := hq
                  refine wo_step (v := v82) (s_bsl (qc rfl qn) e82) ?_
                  have hq := bindP_inv hr
                  clear hr
                  obtain ⟨v83, m_11, e83, hr⟩ := hq
                  refine wo_step (v := v83) (s_app rfl rfl e83) ?_
                  refine wo_step (v := v83) (s_pure (p_mv rfl)) ?_
                  refine wo_nil ?_
                  refine nx_norm ?_
                  refine w_ops ?_
                  refine wo_step (v := v5_1) (s_pure (p_mv g5)) ?_
                  refine wo_step (v := (.s s44)) (s_pure (p_mv g9)) ?_
                  have hq := bindP_inv hr
                  clear hr
                  obtain ⟨v86, m_12, e86, hr⟩ := hq
                  refine wo_step (v := v86) (s_bsl (qc rfl qn) e86) ?_
                  have hq := bindP_inv hr
                  clear hr
                  obtain ⟨v87, m_13, e87, hr⟩ := hq
                  refine wo_step (v := v87) (s_app rfl rfl e87) ?_
                  refine wo_step (v := v87) (s_pure (p_mv rfl)) ?_
                  refine wo_nil ?_
                  cases hr
                  exact ⟨_, _, rfl, rfl, rfl, gl rfl, gl rfl, gl g0, gl g6, gl g7⟩
                · refine w_condF rfl ?_
                  refine w_skip ?_
                  cases hr
                  exact ⟨_, _, rfl, rfl, rfl, gl g4, gl g5, gl g0, gl g6, gl g7⟩
              · have hr := hk
                clear hk
                obtain ⟨v4_2, v5_2, m_14⟩ := o_4
                rintro _ mm_3 t_9 ⟨rfl, rfl, g4, g5, g0, g6, g7⟩
                refine bk_norm ?_
                refine nx_norm ?_
                refine w_ops ?_
                refine wo_step (v := (.i .i64 x7)) (s_pure (p_mv g7)) ?_
                have hq := forceI_inv hr
                clear hr
                obtain ⟨x26, e26, hr⟩ := hq
                refine wo_step (v := (.i .i64 x26)) (s_pure (p_bin rfl rfl (b_add.trans (ci e26)))) ?_
                refine wo_step (v := (.i .i64 x26)) (s_pure (p_mv rfl)) ?_
                refine wo_nil ?_
                cases hr
                exact ⟨_, _, rfl, rfl, rfl, gl g4, gl g5, gl rfl, gl g0, gl g6⟩
        · refine w_condF rfl ?_
          refine w_exit ?_
          refine nx_exit ?_
          cases hr
          exact ⟨_, _, rfl, ne_norm_exit, rfl, rfl, gl g4, gl g5, gl g0, gl g6⟩
      · rcases o_5 with o_5 | o_5
        · obtain ⟨v4_3, v5_3, m_15⟩ := o_5
          rintro _ mm_6 t_10 ⟨rfl, rfl, g4, g5, g0, g6⟩
          refine bk_hit ?_
          refine bk_norm ?_
          refine nx_norm ?_
          refine w_ops ?_
          refine wo_step (v := (.i .i64 x6)) (s_pure (p_mv g6)) ?_
          have hq := forceI_inv hr
          clear hr
          obtain ⟨x22, e22, hr⟩ := hq
          refine wo_step (v := (.i .i64 x22)) (s_pure (p_bin rfl rfl (b_add.trans (ci e22)))) ?_
          refine wo_step (v := (.i .i64 x22)) (s_pure (p_mv rfl)) ?_
          refine wo_nil ?_
          cases hr
          exact ⟨_, _, rfl, rfl, rfl, gl g4, gl g5, gl rfl, gl g0⟩
        · obtain ⟨s2, c3, m_16⟩ := o_5
          rintro _ mm_7 t_11 ⟨rfl, rfl, g2, g3⟩
          refine bk_ret ?_
          refine bk_ret ?_
          refine nx_ret ?_
          cases hr
          exact ⟨_, _, rfl, ne_norm_ret, rfl, rfl, gl g2, gl g3⟩
    · refine w_condF rfl ?_
      refine w_exit ?_
      refine nx_exit ?_
      cases hr
      exact ⟨_, _, rfl, ne_norm_exit, rfl, rfl⟩
  · rcases o_6 with o_6 | o_6
    · obtain ⟨m_17, ho⟩ : ∃ z, z = o_6 := ⟨_, rfl⟩
      subst ho
      rintro _ mm_9 t_12 ⟨rfl, rfl⟩
      refine bk_hit ?_
      refine nx_norm ?_
      refine w_seq ?_
      refine w_ops ?_
      refine wo_step (v := (AVal.s [])) (s_pure (p_mv rfl)) ?_
      refine wo_step (v := (.b false)) (s_pure (p_mv rfl)) ?_
      refine wo_nil ?_
      refine nx_norm ?_
      refine w_ret ?_
      exact qf ret_ok (rt rfl (rt rfl rn)) hr
    · obtain ⟨s2_1, c3_1, m_18⟩ := o_6
      rintro _ mm_10 t_13 ⟨rfl, rfl, g2, g3⟩
      refine bk_ret ?_
      refine nx_ret ?_
      exact qf ret_ok (rt g2 (rt g3 rn)) hr

/- (dibber/weed.rule).oneToOne -/
abbrev g64_I0 (x0 : Int) (s : Int × Int × Mm) (m1 : Mm) (t1 : Tr) : Prop :=
  match s with
  | (x3, x4, m_2) => m_2 = m1 ∧ t1.get 3 = (.i .u16 x3) ∧ t1.get 4 = (.i .u16 x4) ∧ t1.get 0 = (.i .u8 x0)
abbrev g64_J0 (x0 : Int) (o : (Int × Mm)) (e : AExit) (m1 : Mm) (t1 : Tr) : Prop :=
  match o with
  | (y3, mo) => e = (.exit 0) ∧ mo = m1 ∧ t1.get 3 = (.i .u16 y3)
def g64_b0 (M : Means) (ro : List ABlk) (x0 : Int) (x3 : Int) (x4 : Int) (m_2 : Mm) : Option ((Int × Int × Mm) ⊕ ((Int × Mm))) :=
  forceB (!eqI x4 x3) fun c10 =>
  cond c10 (
    bindP (callM M.call m_2 79 [(.i .u8 x0), (.i .u16 x4)]) fun v13 m_3 =>
    asI .u16 v13 fun x13 =>
    some (.inl (x4, x13, m_3))) (
    some (.inr (x3, m_2)))
def g64 (M : Means) (ro : List ABlk) (x0 : Int) (m0 : Mm) : Option (AVal × Heap × Nat × Nat) :=
  bindP (callM M.call m0 79 [(.i .u8 x0), (.i .u16 65535)]) fun v7 m_1 =>
  asI .u16 v7 fun x7 =>
  bindO (M.loop (S := Int × Int × Mm) (R := (Int × Mm)) (fun s => g64_b0 M ro x0 s.1 s.2.1 s.2.2) (65535, x7, m_1)) fun ⟨x3_1, m_4⟩ =>
  forceB (eqI x3_1 33825) fun c16 =>
  finM m0.h.length (tupA [(.b c16)]) m_4

theorem g64_ok {ro : List ABlk} {O : Caller} {M : Means} (hM : M.Ok ⟨F, O⟩ ro) {x0 h r} (ho : O 64 [(.i .u8 x0)] h = none) (hr : g64 M ro x0 ⟨h, h.length, h.length⟩ = some r) : callX ⟨F, O⟩ ro 64 [(.i .u8 x0)] h = some r := by
  refine callX_of (F := ⟨F, O⟩) (fn := fn64) (g := g64 M ro x0) ho rfl rfl hr ?_
  clear ho
  clear hr
  intro m0 t0 ht hr
  have g0 : t0.get 0 = (.i .u8 x0) := ht 0
  clear ht
  unfold g64 at hr
  refine w_seq ?_
  refine w_ops ?_
  refine wo_step (v := (.b false)) (s_pure (p_mv rfl)) ?_
  refine wo_nil ?_
  refine nx_norm ?_
  refine w_seq ?_
  refine w_ops ?_
  refine wo_step (v := (.i .u16 65535)) (s_pure (p_mv rfl)) ?_
  refine wo_nil ?_
  refine nx_norm ?_
  refine w_seq ?_
  refine w_seq ?_
  refine w_ops ?_
  refine wo_step (v := (.i .u8 x0)) (s_pure (p_mv g0)) ?_
  refine wo_step (v := (.i .u16 65535)) (s_pure (p_mv rfl)) ?_
  have hq := bindP_inv hr
  clear hr
  obtain ⟨v7, m_1, e7, hr⟩ := hq
  have hq := asI_inv hr
  clear hr
  obtain ⟨x7, rfl, hr⟩ := hq
  refine wo_step (v := (.i .u16 x7)) (s_call (mc rfl (mc rfl mn)) (callM_le hM.call e7)) ?_
  refine wo_step (v := (.i .u16 x7)) (s_pure (p_mv rfl)) ?_
  refine wo_nil ?_
  refine nx_norm ?_
  refine w_block ?_
  have hq := bindO_inv hr
  clear hr
  obtain ⟨o, hl, hr⟩ := hq
  obtain ⟨n, hl⟩ := hM.loop _ _ _ hl
  refine jp_mono (w_loop _ (g64_I0 x0) (g64_J0 x0) ?_ n _ _ _ _ hl ⟨rfl, gl rfl, gl rfl, gl g0⟩) ?_
  · clear hr hl
    intro s mm_1 t_1 o hi hr
    obtain ⟨x3, x4, m_2⟩ := s
    obtain ⟨rfl, g3, g4, g0⟩ := hi
    unfold g64_b0 at hr
    refine w_seq ?_
    refine w_seq ?_
    refine w_ops ?_
    refine wo_step (v := (.i .u16 x4)) (s_pure (p_mv g4)) ?_
    refine wo_step (v := (.i .u16 x3)) (s_pure (p_mv g3)) ?_
    have hq := forceB_inv hr
    clear hr
    obtain ⟨c10, e10, hr⟩ := hq
    refine wo_step (v := (.b c10)) (s_pure (p_bin rfl rfl (b_neq.trans (cb e10)))) ?_
    refine wo_nil ?_
    refine nx_norm ?_
    have hq := cond_inv hr
    clear hr
    rcases hq with ⟨rfl, hr⟩ | ⟨rfl, hr⟩
    · refine w_condT rfl ?_
      refine w_skip ?_
      refine nx_norm ?_
      refine w_seq ?_
      refine w_block ?_
      refine w_ops ?_
      refine wo_step (v := (.i .u16 x4)) (s_pure (p_mv g4)) ?_
      refine wo_step (v := (.i .u16 x4)) (s_pure (p_mv rfl)) ?_
      refine wo_nil ?_
      refine bk_norm ?_
      refine nx_norm ?_
      refine w_ops ?_
      refine wo_step (v := (.i .u8 x0)) (s_pure (p_mv g0)) ?_
      refine wo_step (v := (.i .u16 x4)) (s_pure (p_mv rfl)) ?_
      have hq := bindP_inv hr
      clear hr
      obtain ⟨v13, m_3, e13, hr⟩ := hq
      have hq := asI_inv hr
      clear hr
      obtain ⟨x13, rfl, hr⟩ := hq
      refine wo_step (v := (.i .u16 x13)) (s_call (mc rfl (mc rfl mn)) (callM_le hM.call e13)) ?_
      refine wo_step (v := (.i .u16 x13)) (s_pure (p_mv rfl)) ?_
      refine wo_nil ?_
      cases hr
      exact ⟨_, _, rfl, rfl, rfl, gl rfl, gl rfl, gl g0⟩
    · refine w_condF rfl ?_
      refine w_exit ?_
      refine nx_exit ?_
      cases hr
      exact ⟨_, _, rfl, ne_norm_exit, rfl, rfl, gl g3⟩
  · obtain ⟨x3_1, m_4⟩ := o
    rintro _ mm t_2 ⟨rfl, rfl, g3⟩
    refine bk_hit ?_
    refine nx_norm ?_
    refine w_seq ?_
    refine w_ops ?_
    refine wo_step (v := (.i .u16 x3_1)) (s_pure (p_mv g3)) ?_
    have hq := forceB_inv hr
    clear hr
    obtain ⟨c16, e16, hr⟩ := hq
    refine wo_step (v := (.b c16)) (s_pure (p_bin rfl rfl (b_eql.trans (cb e16)))) ?_
    refine wo_step (v := (.b c16)) (s_pure (p_mv rfl)) ?_
    refine wo_nil ?_
    refine nx_norm ?_
    refine w_ret ?_
    exact qf ret_ok (rt rfl rn) hr

/- dibber/weed.mirrors -/

def g69 (M : Means) (ro : List ABlk) (x0 : Int) (m0 : Mm) : Option (AVal × Heap × Nat × Nat) :=
  bindP (callM M.call m0 82 [(.i .u8 x0), (AVal.fn 83 [] [])]) fun v5 m_1 =>
  asI .u8 v5 fun x5 =>
  bindP (callM M.call m_1 82 [(.i .u8 x0), (AVal.fn 84 [] [])]) fun v7 m_2 =>
  asI .u8 v7 fun x7 =>
  finM m0.h.length (tupA [(.i .u8 x5), (.i .u8 x7)]) m_2

theorem g69_ok {ro : List ABlk} {O : Caller} {M : Means} (hM : M.Ok ⟨F, O⟩ ro) {x0 h r} (ho : O 69 [(.i .u8 x0)] h = none) (hr : g69 M ro x0 ⟨h, h.length, h.length⟩ = some r) : callX ⟨F, O⟩ ro 69 [(.i .u8 x0)] h = some r := by
  refine callX_of (F := ⟨F, O⟩) (fn := fn69) (g := g69 M ro x0) ho rfl rfl hr ?_
  clear ho
  clear hr
  intro m0 t0 ht hr
  have g0 : t0.get 0 = (.i .u8 x0) := ht 0
  clear ht
  unfold g69 at hr
  refine w_seq ?_
  refine w_ops ?_
  refine wo_step (v := (.i .u8 0)) (s_pure (p_mv rfl)) ?_
  refine wo_step (v := (.i .u8 0)) (s_pure (p_mv rfl)) ?_
  refine wo_nil ?_
  refine nx_norm ?_
  refine w_seq ?_
  refine w_ops ?_
  refine wo_step (v := (.i .u8 x0)) (s_pure (p_mv g0)) ?_
  have hq := bindP_inv hr
  clear hr
  obtain ⟨v5, m_1, e5, hr⟩ := hq
  have hq := asI_inv hr
  clear hr
  obtain ⟨x5, rfl, hr⟩ := hq
  refine wo_step (v := (.i .u8 x5)) (s_call (mc rfl (mc rfl mn)) (callM_le hM.call e5)) ?_
  refine wo_step (v := (.i .u8 x0)) (s_pure (p_mv g0)) ?_
  have hq := bindP_inv hr
  clear hr
  obtain ⟨v7, m_2, e7, hr⟩ := hq
  have hq := asI_inv hr
  clear hr
  obtain ⟨x7, rfl, hr⟩ := hq
  refine wo_step (v := (.i .u8 x7)) (s_call (mc rfl (mc rfl mn)) (callM_le hM.call e7)) ?_
  refine wo_step (v := (.i .u8 x5)) (s_pure (p_mv rfl)) ?_
  refine wo_step (v := (.i .u8 x7)) (s_pure (p_mv rfl)) ?_
  refine wo_nil ?_
  refine nx_norm ?_
  refine w_ret ?_
  exact qf ret_ok (rt rfl (rt rfl rn)) hr

/- (dibber/weed.rule).additive -/
abbrev g70_I0 (x0 : Int) (s : Int × Mm) (m1 : Mm) (t1 : Tr) : Prop :=
  match s with
  | (x5, m_1) => m_1 = m1 ∧ t1.get 5 = (.i .i64 x5) ∧ t1.get 0 = (.i .u8 x0)
abbrev g70_J0 (x0 : Int) (o : (Mm ⊕ (Bool × Mm))) (e : AExit) (m1 : Mm) (t1 : Tr) : Prop :=
  match o with
  | (.inl mo) => e = (.exit 0) ∧ mo = m1
  | (.inr (y2, mo)) => e = .ret ∧ mo = m1 ∧ t1.get 2 = (.b y2)
abbrev g70_I1 (x0 : Int) (x5 : Int) (s : Int × Mm) (m1 : Mm) (t1 : Tr) : Prop :=
  match s with
  | (x8, m_2) => m_2 = m1 ∧ t1.get 8 = (.i .i64 x8) ∧ t1.get 0 = (.i .u8 x0) ∧ t1.get 3 = (.i .i64 x5) ∧ t1.get 5 = (.i .i64 x5)
abbrev g70_J1 (x0 : Int) (x5 : Int) (o : (Mm ⊕ (Bool × Mm))) (e : AExit) (m1 : Mm) (t1 : Tr) : Prop :=
  match o with
  | (.inl mo) => e = (.exit 2) ∧ mo = m1 ∧ t1.get 0 = (.i .u8 x0) ∧ t1.get 5 = (.i .i64 x5)
  | (.inr (y2, mo)) => e = .ret ∧ mo = m1 ∧ t1.get 2 = (.b y2)
def g70_b1 (M : Means) (ro : List ABlk) (x0 : Int) (x5 : Int) (x8 : Int) (m_2 : Mm) : Option ((Int × Mm) ⊕ ((Mm ⊕ (Bool × Mm)))) :=
  forceB (ltI x8 8) fun c9 =>
  cond c9 (
    forceI (bitV .xor .i64 x5 x8) fun x14 =>
    bindP (callM M.call m_2 72 [(.i .u8 x0), (.i .i64 x14)]) fun v15 m_3 =>
    asI .i64 v15 fun x15 =>
    bindP (callM M.call m_3 72 [(.i .u8 x0), (.i .i64 x5)]) fun v18 m_4 =>
    asI .i64 v18 fun x18 =>
    bindP (callM M.call m_4 72 [(.i .u8 x0), (.i .i64 x8)]) fun v21 m_5 =>
    asI .i64 v21 fun x21 =>
    forceI (bitV .xor .i64 x18 x21) fun x22 =>
    forceB (!eqI x15 x22) fun c23 =>
    cond c23 (
      some (.inr (.inr (false, m_5)))) (
      forceI (wr .i64 (x8 + 1)) fun x24 =>
      some (.inl (x24, m_5)))) (
    some (.inr (.inl m_2)))
def g70_b0 (M : Means) (ro : List ABlk) (x0 : Int) (x5 : Int) (m_1 : Mm) : Option ((Int × Mm) ⊕ ((Mm ⊕ (Bool × Mm)))) :=
  forceB (ltI x5 8) fun c6 =>
  cond c6 (
    bindO (M.loop (S := Int × Mm) (R := (Mm ⊕ (Bool × Mm))) (fun s => g70_b1 M ro x0 x5 s.1 s.2) (0, m_1)) fun o => match o with
    | (.inl m_6) =>
      forceI (wr .i64 (x5 + 1)) fun x25 =>
      some (.inl (x25, m_6))
    | (.inr (c2, m_7)) =>
      some (.inr (.inr (c2, m_7)))) (
    some (.inr (.inl m_1)))
def g70 (M : Means) (ro : List ABlk) (x0 : Int) (m0 : Mm) : Option (AVal × Heap × Nat × Nat) :=
  bindO (M.loop (S := Int × Mm) (R := (Mm ⊕ (Bool × Mm))) (fun s => g70_b0 M ro x0 s.1 s.2) (0, m0)) fun o_1 => match o_1 with
  | (.inl m_8) =>
    finM m0.h.length (tupA [(.b true)]) m_8
  | (.inr (c2_1, m_9)) =>
    finM m0.h.length (tupA [(.b c2_1)]) m_9

theorem g70_ok {ro : List ABlk} {O : Caller} {M : Means} (hM : M.Ok ⟨F, O⟩ ro) {x0 h r} (ho : O 70 [(.i .u8 x0)] h = none) (hr : g70 M ro x0 ⟨h, h.length, h.length⟩ = some r) : callX ⟨F, O⟩ ro 70 [(.i .u8 x0)] h = some r := by
  refine callX_of (F := ⟨F, O⟩) (fn := fn70) (g := g70 M ro x0) ho rfl rfl hr ?_
  clear ho
  clear hr
  intro m0 t0 ht hr
  have g0 : t0.get 0 = (.i .u8 x0) := ht 0
  clear ht
  unfold g70 at hr
  refine w_seq ?_
  refine w_ops ?_
  refine wo_step (v := (.b false)) (s_pure (p_mv rfl)) ?_
  refine wo_nil ?_
  refine nx_norm ?_
  refine w_seq ?_
  refine w_seq ?_
  refine w_ops ?_
  refine wo_step (v := (.i .i64 0)) (s_pure (p_mv rfl)) ?_
  refine wo_nil ?_
  refine nx_norm ?_
  refine w_block ?_
  have hq := bindO_inv hr
  clear hr
  obtain ⟨o_1, hl_1, hr⟩ := hq
  obtain ⟨n_1, hl_1⟩ := hM.loop _ _ _ hl_1
  refine jp_mono (w_loop _ (g70_I0 x0) (g70_J0 x0) ?_ n_1 _ _ _ _ hl_1 ⟨rfl, gl rfl, gl g0⟩) ?_
  · clear hr hl_1
    intro s mm_5 t_1 o hi hr
    obtain ⟨x5, m_1⟩ := s
    obtain ⟨rfl, g5, g0⟩ := hi
    unfold g70_b0 at hr
    refine w_seq ?_
    refine w_ops ?_
    have hq := forceB_inv hr
    clear hr
    obtain ⟨c6, e6, hr⟩ := hq
    refine wo_step (v := (.b c6)) (s_pure (p_bin g5 rfl (b_lss.trans (cb e6)))) ?_
    refine wo_nil ?_
    refine nx_norm ?_
    refine w_seq ?_
    have hq := cond_inv hr
    clear hr
    rcases hq with ⟨rfl, hr⟩ | ⟨rfl, hr⟩
    · refine w_condT rfl ?_
      refine w_skip ?_
      refine nx_norm ?_
      refine w_seq ?_
      refine w_block ?_
      refine w_seq ?_
      refine w_ops ?_
      refine wo_step (v := (.i .i64 x5)) (s_pure (p_mv g5)) ?_
      refine wo_step (v := (.i .i64 x5)) (s_pure (p_mv rfl)) ?_
      refine wo_nil ?_
      refine nx_norm ?_
      refine w_seq ?_
      refine w_ops ?_
      refine wo_step (v := (.i .i64 0)) (s_pure (p_mv rfl)) ?_
      refine wo_nil ?_
      refine nx_norm ?_
      refine w_block ?_
      have hq := bindO_inv hr
      clear hr
      obtain ⟨o, hl, hr⟩ := hq
      obtain ⟨n, hl⟩ := hM.loop _ _ _ hl
      refine jp_mono (w_loop _ (g70_I1 x0 x5) (g70_J1 x0 x5) ?_ n _ _ _ _ hl ⟨rfl, gl rfl, gl g0, gl rfl, gl g5⟩) ?_
      · clear hr hl
        intro s mm_2 t_2 o hi hr
        obtain ⟨x8, m_2⟩ := s
        obtain ⟨rfl, g8, g0, g3, g5⟩ := hi
        unfold g70_b1 at hr
        refine w_seq ?_
        refine w_ops ?_
        have hq := forceB_inv hr
        clear hr
        obtain ⟨c9, e9, hr⟩ := hq
        refine wo_step (v := (.b c9)) (s_pure (p_bin g8 rfl (b_lss.trans (cb e9)))) ?_
        refine wo_nil ?_
        refine nx_norm ?_
        refine w_seq ?_
        have hq := cond_inv hr
        clear hr
        rcases hq with ⟨rfl, hr⟩ | ⟨rfl, hr⟩
        · refine w_condT rfl ?_
          refine w_skip ?_
          refine nx_norm ?_
          refine w_seq ?_
          refine w_block ?_
          refine w_seq ?_
          refine w_ops ?_
          refine wo_step (v := (.i .i64 x8)) (s_pure (p_mv g8)) ?_
          refine wo_step (v := (.i .i64 x8)) (s_pure (p_mv rfl)) ?_
          refine wo_nil ?_
          refine nx_norm ?_
          refine w_seq ?_
          refine w_ops ?_
          refine wo_step (v := (.i .u8 x0)) (s_pure (p_mv g0)) ?_
          refine wo_step (v := (.i .i64 x5)) (s_pure (p_mv g3)) ?_
          refine wo_step (v := (.i .i64 x8)) (s_pure (p_mv rfl)) ?_
          have hq := forceI_inv hr
          clear hr
          obtain ⟨x14, e14, hr⟩ := hq
          refine wo_step (v := (.i .i64 x14)) (s_pure (p_bin rfl rfl (b_xor.trans (ci e14)))) ?_
          have hq := bindP_inv hr
          clear hr
          obtain ⟨v15, m_3, e15, hr⟩ := hq
          have hq := asI_inv hr
          clear hr
          obtain ⟨x15, rfl, hr⟩ := hq
          refine wo_step (v := (.i .i64 x15)) (s_call (mc rfl (mc rfl mn)) (callM_le hM.call e15)) ?_
          refine wo_step (v := (.i .u8 x0)) (s_pure (p_mv g0)) ?_
          refine wo_step (v := (.i .i64 x5)) (s_pure (p_mv g3)) ?_
          have hq := bindP_inv hr
          clear hr
          obtain ⟨v18, m_4, e18, hr⟩ := hq
          have hq := asI_inv hr
          clear hr
          obtain ⟨x18, rfl, hr⟩ := hq
          refine wo_step (v := (.i .i64 x18)) (s_call (mc rfl (mc rfl mn)) (callM_le hM.call e18)) ?_
          refine wo_step (v := (.i .u8 x0)) (s_pure (p_mv g0)) ?_
          refine wo_step (v := (.i .i64 x8)) (s_pure (p_mv rfl)) ?_
          have hq := bindP_inv hr
          clear hr
          obtain ⟨v21, m_5, e21, hr⟩ := hq
          have hq := asI_inv hr
          clear hr
          obtain ⟨x21, rfl, hr⟩ := hq
          refine wo_step (v := (.i .i64 x21)) (s_call (mc rfl (mc rfl mn)) (callM_le hM.call e21)) ?_
          have hq := forceI_inv hr
          clear hr
          obtain ⟨x22, e22, hr⟩ := hq
          refine wo_step (v := (.i .i64 x22)) (s_pure (p_bin rfl rfl (b_xor.trans (ci e22)))) ?_
          have hq := forceB_inv hr
          clear hr
          obtain ⟨c23, e23, hr⟩ := hq
          refine wo_step (v := (.b c23)) (s_pure (p_bin rfl rfl (b_neq.trans (cb e23)))) ?_
          refine wo_nil ?_
          refine nx_norm ?_
          have hq := cond_inv hr
          clear hr
          rcases hq with ⟨rfl, hr⟩ | ⟨rfl, hr⟩
          · refine w_condT rfl ?_
            refine w_seq ?_
            refine w_ops ?_
            refine wo_step (v := (.b false)) (s_pure (p_mv rfl)) ?_
            refine wo_nil ?_
            refine nx_norm ?_
            refine w_ret ?_
            refine bk_ret ?_
            refine nx_ret ?_
            cases hr
            exact ⟨_, _, rfl, ne_norm_ret, rfl, rfl, gl rfl⟩
          · refine w_condF rfl ?_
            refine w_skip ?_
            refine bk_norm ?_
            refine nx_norm ?_
            refine w_ops ?_
            have hq := forceI_inv hr
            clear hr
            obtain ⟨x24, e24, hr⟩ := hq
            refine wo_step (v := (.i .i64 x24)) (s_pure (p_bin g8 rfl (b_add.trans (ci e24)))) ?_
            refine wo_step (v := (.i .i64 x24)) (s_pure (p_mv rfl)) ?_
            refine wo_nil ?_
            cases hr
            exact ⟨_, _, rfl, rfl, rfl, gl rfl, gl g0, gl g3, gl g5⟩
        · refine w_condF rfl ?_
          refine w_exit ?_
          refine nx_exit ?_
          cases hr
          exact ⟨_, _, rfl, ne_norm_exit, rfl, rfl, gl g0, gl g5⟩
      · rcases o with o | o
        · obtain ⟨m_6, ho⟩ : ∃ z, z = o := ⟨_, rfl⟩
          subst ho
          rintro _ mm t_3 ⟨rfl, rfl, g0, g5⟩
          refine bk_hit ?_
          refine bk_norm ?_
          refine nx_norm ?_
          refine w_ops ?_
          have hq := forceI_inv hr
          clear hr
          obtain ⟨x25, e25, hr⟩ := hq
          refine wo_step (v := (.i .i64 x25)) (s_pure (p_bin g5 rfl (b_add.trans (ci e25)))) ?_
          refine wo_step (v := (.i .i64 x25)) (s_pure (p_mv rfl)) ?_
          refine wo_nil ?_
          cases hr
          exact ⟨_, _, rfl, rfl, rfl, gl rfl, gl g0⟩
        · obtain ⟨c2, m_7⟩ := o
          rintro _ mm_1 t_4 ⟨rfl, rfl, g2⟩
          refine bk_ret ?_
          refine bk_ret ?_
          refine nx_ret ?_
          cases hr
          exact ⟨_, _, rfl, ne_norm_ret, rfl, rfl, gl g2⟩
    · refine w_condF rfl ?_
      refine w_exit ?_
      refine nx_exit ?_
      cases hr
      exact ⟨_, _, rfl, ne_norm_exit, rfl, rfl⟩
  · rcases o_1 with o_1 | o_1
    · obtain ⟨m_8, ho⟩ : ∃ z, z = o_1 := ⟨_, rfl⟩
      subst ho
      rintro _ mm_3 t_5 ⟨rfl, rfl⟩
      refine bk_hit ?_
      refine nx_norm ?_
      refine w_seq ?_
      refine w_ops ?_
      refine wo_step (v := (.b true)) (s_pure (p_mv rfl)) ?_
      refine wo_nil ?_
      refine nx_norm ?_
      refine w_ret ?_
      exact qf ret_ok (rt rfl rn) hr
    · obtain ⟨c2_1, m_9⟩ := o_1
      rintro _ mm_4 t_6 ⟨rfl, rfl, g2⟩
      refine bk_ret ?_
      refine nx_ret ?_
      exact qf ret_ok (rt g2 rn) hr

/- dibber/weed.plot -/

def g71 (M : Means) (ro : List ABlk) (x0 : Int) (m0 : Mm) : Option (AVal × Heap × Nat × Nat) :=
  forceI (wr .u8 x0) fun x4 =>
  forceI (wr .u8 (48 + x4)) fun x5 =>
  finM m0.h.length (tupA [(.i .u8 x5)]) m0

theorem g71_ok {ro : List ABlk} {O : Caller} {M : Means} (hM : M.Ok ⟨F, O⟩ ro) {x0 h r} (ho : O 71 [(.i .i64 x0)] h = none) (hr : g71 M ro x0 ⟨h, h.length, h.length⟩ = some r) : callX ⟨F, O⟩ ro 71 [(.i .i64 x0)] h = some r := by
  refine callX_of (F := ⟨F, O⟩) (fn := fn71) (g := g71 M ro x0) ho rfl rfl hr ?_
  clear ho
  clear hr
  intro m0 t0 ht hr
  have g0 : t0.get 0 = (.i .i64 x0) := ht 0
  clear ht
  unfold g71 at hr
  refine w_seq ?_
  refine w_ops ?_
  refine wo_step (v := (.i .u8 0)) (s_pure (p_mv rfl)) ?_
  refine wo_nil ?_
  refine nx_norm ?_
  refine w_seq ?_
  refine w_ops ?_
  refine wo_step (v := (.i .i64 x0)) (s_pure (p_mv g0)) ?_
  have hq := forceI_inv hr
  clear hr
  obtain ⟨x4, e4, hr⟩ := hq
  refine wo_step (v := (.i .u8 x4)) (s_pure ((p_conv rfl).trans (ci e4))) ?_
  have hq := forceI_inv hr
  clear hr
  obtain ⟨x5, e5, hr⟩ := hq
  refine wo_step (v := (.i .u8 x5)) (s_pure (p_bin rfl rfl (b_add.trans (ci e5)))) ?_
  refine wo_step (v := (.i .u8 x5)) (s_pure (p_mv rfl)) ?_
  refine wo_nil ?_
  refine nx_norm ?_
  refine w_ret ?_
  exact qf ret_ok (rt rfl rn) hr

/- (dibber/weed.rule).next -/

def g72 (M : Means) (ro : List ABlk) (x0 : Int) (x1 : Int) (m0 : Mm) : Option (AVal × Heap × Nat × Nat) :=
  chk (!ltI x1 (.ofNat 0)) <|
  forceI (shrV .u8 x0 x1) fun x7 =>
  forceI (wr .i64 x7) fun x8 =>
  forceI (bitV .and .i64 x8 1) fun x9 =>
  finM m0.h.length (tupA [(.i .i64 x9)]) m0

theorem g72_ok {ro : List ABlk} {O : Caller} {M : Means} (hM : M.Ok ⟨F, O⟩ ro) {x0 x1 h r} (ho : O 72 [(.i .u8 x0), (.i .i64 x1)] h = none) (hr : g72 M ro x0 x1 ⟨h, h.length, h.length⟩ = some r) : callX ⟨F, O⟩ ro 72 [(.i .u8 x0), (.i .i64 x1)] h = some r := by
  refine callX_of (F := ⟨F, O⟩) (fn := fn72) (g := g72 M ro x0 x1) ho rfl rfl hr ?_
  clear ho
  clear hr
  intro m0 t0 ht hr
  have g0 : t0.get 0 = (.i .u8 x0) := ht 0
  have g1 : t0.get 1 = (.i .i64 x1) := ht 1
  clear ht
  unfold g72 at hr
  refine w_seq ?_
  refine w_ops ?_
  refine wo_step (v := (.i .i64 0)) (s_pure (p_mv rfl)) ?_
  refine wo_nil ?_
  refine nx_norm ?_
  refine w_seq ?_
  refine w_ops ?_
  refine wo_step (v := (.i .u8 x0)) (s_pure (p_mv g0)) ?_
  refine wo_step (v := (.i .i64 x1)) (s_pure (p_mv g1)) ?_
  have hq := chk_inv hr
  clear hr
  obtain ⟨hc7, hr⟩ := hq
  have hq := forceI_inv hr
  clear hr
  obtain ⟨x7, e7, hr⟩ := hq
  refine wo_step (v := (.i .u8 x7)) (s_pure (p_bin rfl rfl ((b_shr hc7).trans (ci e7)))) ?_
  have hq := forceI_inv hr
  clear hr
  obtain ⟨x8, e8, hr⟩ := hq
  refine wo_step (v := (.i .i64 x8)) (s_pure ((p_conv rfl).trans (ci e8))) ?_
  have hq := forceI_inv hr
  clear hr
  obtain ⟨x9, e9, hr⟩ := hq
  refine wo_step (v := (.i .i64 x9)) (s_pure (p_bin rfl rfl (b_and.trans (ci e9)))) ?_
  refine wo_step (v := (.i .i64 x9)) (s_pure (p_mv rfl)) ?_
  refine wo_nil ?_
  refine nx_norm ?_
  refine w_ret ?_
  exact qf ret_ok (rt rfl rn) hr

/- dibber/weed.bit -/

def g73 (M : Means) (ro : List ABlk) (x0 : Int) (m0 : Mm) : Option (AVal × Heap × Nat × Nat) :=
  forceI (wr .u8 (x0 - 48)) fun x4 =>
  forceI (wr .i64 x4) fun x5 =>
  finM m0.h.length (tupA [(.i .i64 x5)]) m0

theorem g73_ok {ro : List ABlk} {O : Caller} {M : Means} (hM : M.Ok ⟨F, O⟩ ro) {x0 h r} (ho : O 73 [(.i .u8 x0)] h = none) (hr : g73 M ro x0 ⟨h, h.length, h.length⟩ = some r) : callX ⟨F, O⟩ ro 73 [(.i .u8 x0)] h = some r := by
  refine callX_of (F := ⟨F, O⟩) (fn := fn73) (g := g73 M ro x0) ho rfl rfl hr ?_
  clear ho
  clear hr
  intro m0 t0 ht hr
  have g0 : t0.get 0 = (.i .u8 x0) := ht 0
  clear ht
  unfold g73 at hr
  refine w_seq ?_
  refine w_ops ?_
  refine wo_step (v := (.i .i64 0)) (s_pure (p_mv rfl)) ?_
  refine wo_nil ?_
  refine nx_norm ?_
  refine w_seq ?_
  refine w_ops ?_
  refine wo_step (v := (.i .u8 x0)) (s_pure (p_mv g0)) ?_
  have hq := forceI_inv hr
  clear hr
  obtain ⟨x4, e4, hr⟩ := hq
  refine wo_step (v := (.i .u8 x4)) (s_pure (p_bin rfl rfl (b_sub.trans (ci e4)))) ?_
  have hq := forceI_inv hr
  clear hr
  obtain ⟨x5, e5, hr⟩ := hq
  refine wo_step (v := (.i .i64 x5)) (s_pure ((p_conv rfl).trans (ci e5))) ?_
  refine wo_step (v := (.i .i64 x5)) (s_pure (p_mv rfl)) ?_
  refine wo_nil ?_
  refine nx_norm ?_
  refine w_ret ?_
  exact qf ret_ok (rt rfl rn) hr

/- (dibber/weed.rule).behind -/
abbrev g74_I0 (x0 : Int) (x1 : Int) (x2 : Int) (s : Int × Int × Mm) (m1 : Mm) (t1 : Tr) : Prop :=
  match s with
  | (x7, x9, m_1) => m_1 = m1 ∧ t1.get 7 = (.i .u8 x7) ∧ t1.get 9 = (.i .i64 x9) ∧ t1.get 0 = (.i .u8 x0) ∧ t1.get 1 = (.i .u8 x1) ∧ t1.get 2 = (.i .i64 x2)
abbrev g74_J0 (x0 : Int) (x1 : Int) (x2 : Int) (o : (Int × Mm)) (e : AExit) (m1 : Mm) (t1 : Tr) : Prop :=
  match o with
  | (y7, mo) => e = (.exit 0) ∧ mo = m1 ∧ t1.get 7 = (.i .u8 y7)
abbrev g74_J1 (x0 : Int) (x1 : Int) (x2 : Int) (x7 : Int) (x9 : Int) (o : Bool × Mm) (m1 : Mm) (t1 : Tr) : Prop :=
  match o with
  | (c22, m_3) => m_3 = m1 ∧ t1.get 22 = (.b c22) ∧ t1.get 0 = (.i .u8 x0) ∧ t1.get 1 = (.i .u8 x1) ∧ t1.get 2 = (.i .i64 x2) ∧ t1.get 7 = (.i .u8 x7) ∧ t1.get 8 = (.i .i64 x9) ∧ t1.get 9 = (.i .i64 x9)
abbrev g74_J2 (x0 : Int) (x1 : Int) (x2 : Int) (x9 : Int) (m_3 : Mm) (o : Int) (e : AExit) (m1 : Mm) (t1 : Tr) : Prop :=
  match o with
  | y7 => e = .norm ∧ m_3 = m1 ∧ t1.get 7 = (.i .u8 y7) ∧ t1.get 0 = (.i .u8 x0) ∧ t1.get 1 = (.i .u8 x1) ∧ t1.get 2 = (.i .i64 x2) ∧ t1.get 9 = (.i .i64 x9)
def g74_b0 (M : Means) (ro : List ABlk) (x0 : Int) (x1 : Int) (x2 : Int) (x7 : Int) (x9 : Int) (m_1 : Mm) : Option ((Int × Int × Mm) ⊕ ((Int × Mm))) :=
  forceB (ltI x9 8) fun c10 =>
  cond c10 (
    forceI (bitV .and .i64 x9 3) fun x14 =>
    bindP (callM M.call m_1 76 [(.i .u8 x1), (.i .i64 x14)]) fun v15 m_2 =>
    asB v15 fun c15 =>
    bindO (cond c15 (
      bindP (callM M.call m_2 72 [(.i .u8 x0), (.i .i64 x9)]) fun v19 m_4 =>
      asI .i64 v19 fun x19 =>
      forceB (eqI x19 x2) fun c21 =>
      some (c21, m_4)) (
      some (false, m_2))) fun ⟨c22, m_3⟩ =>
    bindO (α := Int) (
      cond c22 (
        forceI (shrV .i64 x9 1) fun x25 =>
        chk (!ltI x25 (.ofNat 0)) <|
        forceI (shlV .u8 1 x25) fun x26 =>
        forceI (bitV .or .u8 x7 x26) fun x27 =>
        some x27) (
        some x7)) fun x7_1 =>
    forceI (wr .i64 (x9 + 1)) fun x28 =>
    some (.inl (x7_1, x28, m_3))) (
    some (.inr (x7, m_1)))
def g74 (M : Means) (ro : List ABlk) (x0 : Int) (x1 : Int) (x2 : Int) (m0 : Mm) : Option (AVal × Heap × Nat × Nat) :=
  bindO (M.loop (S := Int × Int × Mm) (R := (Int × Mm)) (fun s => g74_b0 M ro x0 x1 x2 s.1 s.2.1 s.2.2) (0, 0, m0)) fun ⟨x7_2, m_5⟩ =>
  finM m0.h.length (tupA [(.i .u8 x7_2)]) m_5

theorem g74_ok {ro : List ABlk} {O : Caller} {M : Means} (hM : M.Ok ⟨F, O⟩ ro) {x0 x1 x2 h r} (ho : O 74 [(.i .u8 x0), (.i .u8 x1), (.i .i64 x2)] h = none) (hr : g74 M ro x0 x1 x2 ⟨h, h.length, h.length⟩ = some r) : callX ⟨F, O⟩ ro 74 [(.i .u8 x0), (.i .u8 x1), (.i .i64 x2)] h = some r := by
  refine callX_of (F := ⟨F, O⟩) (fn := fn74) (g := g74 M ro x0 x1 x2) ho rfl rfl hr ?_
  clear ho
  clear hr
  intro m0 t0 ht hr
  have g0 : t0.get 0 = (.i .u8 x0) := ht 0
  have g1 : t0.get 1 = (.i .u8 x1) := ht 1
  have g2 : t0.get 2 = (.i .i64 x2) := ht 2
  clear ht
  unfold g74 at hr
  refine w_seq ?_
  refine w_ops ?_
  refine wo_step (v := (.i .u8 0)) (s_pure (p_mv rfl)) ?_
  refine wo_nil ?_
  refine nx_norm ?_
  refine w_seq ?_
  refine w_ops ?_
  refine wo_step (v := (.i .u8 0)) (s_pure (p_mv rfl)) ?_
  refine wo_nil ?_
  refine nx_norm ?_
  refine w_seq ?_
  refine w_seq ?_
  refine w_ops ?_
  refine wo_step (v := (.i .i64 0)) (s_pure (p_mv rfl)) ?_
  refine wo_nil ?_
  refine nx_norm ?_
  refine w_block ?_
  have hq := bindO_inv hr
  clear hr
  obtain ⟨o_2, hl, hr⟩ := hq
  obtain ⟨n, hl⟩ := hM.loop _ _ _ hl
  refine jp_mono (w_loop _ (g74_I0 x0 x1 x2) (g74_J0 x0 x1 x2) ?_ n _ _ _ _ hl ⟨rfl, gl rfl, gl rfl, gl g0, gl g1, gl g2⟩) ?_
  · clear hr hl
    intro s mm_3 t_1 o hi hr
    obtain ⟨x7, x9, m_1⟩ := s
    obtain ⟨rfl, g7, g9, g0, g1, g2⟩ := hi
    unfold g74_b0 at hr
    refine w_seq ?_
    refine w_ops ?_
    have hq := forceB_inv hr
    clear hr
    obtain ⟨c10, e10, hr⟩ := hq
    refine wo_step (v := (.b c10)) (s_pure (p_bin g9 rfl (b_lss.trans (cb e10)))) ?_
    refine wo_nil ?_
    refine nx_norm ?_
    refine w_seq ?_
    have hq := cond_inv hr
    clear hr
    rcases hq with ⟨rfl, hr⟩ | ⟨rfl, hr⟩
    · refine w_condT rfl ?_
      refine w_skip ?_
      refine nx_norm ?_
      refine w_seq ?_
      refine w_block ?_
      refine w_seq ?_
      refine w_ops ?_
      refine wo_step (v := (.i .i64 x9)) (s_pure (p_mv g9)) ?_
      refine wo_step (v := (.i .i64 x9)) (s_pure (p_mv rfl)) ?_
      refine wo_nil ?_
      refine nx_norm ?_
      refine w_seq ?_
      refine w_ops ?_
      refine wo_step (v := (.i .u8 x1)) (s_pure (p_mv g1)) ?_
      refine wo_step (v := (.i .i64 x9)) (s_pure (p_mv rfl)) ?_
      have hq := forceI_inv hr
      clear hr
      obtain ⟨x14, e14, hr⟩ := hq
      refine wo_step (v := (.i .i64 x14)) (s_pure (p_bin rfl rfl (b_and.trans (ci e14)))) ?_
      have hq := bindP_inv hr
      clear hr
      obtain ⟨v15, m_2, e15, hr⟩ := hq
      have hq := asB_inv hr
      clear hr
      obtain ⟨c15, rfl, hr⟩ := hq
      refine wo_step (v := (.b c15)) (s_call (mc rfl (mc rfl mn)) (callM_le hM.call e15)) ?_
      refine wo_step (v := (.b c15)) (s_pure (p_mv rfl)) ?_
      have hq := bindO_inv hr
      clear hr
      obtain ⟨o, hr, hk⟩ := hq
      refine wo_join 6 (g74_J1 x0 x1 x2 x7 x9 o) ?_ ?_
      · clear hk
        have hq := cond_inv hr
        clear hr
        rcases hq with ⟨rfl, hr⟩ | ⟨rfl, hr⟩
        · refine wo_take (v := (.i .u8 x0)) rfl (s_pure (p_mv g0)) ?_
          refine wo_take (v := (.i .i64 x9)) rfl (s_pure (p_mv rfl)) ?_
          have hq := bindP_inv hr
          clear hr
          obtain ⟨v19, m_4, e19, hr⟩ := hq
          have hq := asI_inv hr
          clear hr
          obtain ⟨x19, rfl, hr⟩ := hq
          refine wo_take (v := (.i .i64 x19)) rfl (s_call (mc rfl (mc rfl mn)) (callM_le hM.call e19)) ?_
          refine wo_take (v := (.i .i64 x2)) rfl (s_pure (p_mv g2)) ?_
          have hq := forceB_inv hr
          clear hr
          obtain ⟨c21, e21, hr⟩ := hq
          refine wo_take (v := (.b c21)) rfl (s_pure (p_bin rfl rfl (b_eql.trans (cb e21)))) ?_
          refine wo_step (v := (.b c21)) (s_pure (p_pickT rfl rfl)) ?_
          refine wo_nil ?_
          cases hr
          exact ⟨_, _, rfl, rfl, gl rfl, gl g0, gl g1, gl g2, gl g7, gl rfl, gl g9⟩
        · refine wo_skip (v := (.b false)) rfl rfl ?_
          refine wo_skip (v := (.b false)) rfl rfl ?_
          refine wo_skip (v := (.b false)) rfl rfl ?_
          refine wo_skip (v := (.b false)) rfl rfl ?_
          refine wo_skip (v := (.b false)) rfl rfl ?_
          refine wo_step (v := (.b false)) (s_pure (p_pickF rfl rfl)) ?_
          refine wo_nil ?_
          cases hr
          exact ⟨_, _, rfl, rfl, gl rfl, gl g0, gl g1, gl g2, gl g7, gl rfl, gl g9⟩
      · clear hr
        have hr := hk
        clear hk
        obtain ⟨c22, m_3⟩ := o
        rintro mm t_2 ⟨rfl, g22, g0, g1, g2, g7, g8, g9⟩
        refine wo_nil ?_
        refine nx_norm ?_
        have hq := bindO_inv hr
        clear hr
        obtain ⟨o_1, hr, hk⟩ := hq
        refine jp_mono (J := g74_J2 x0 x1 x2 x9 m_3 o_1) ?_ ?_
        · clear hk
          have hq := cond_inv hr
          clear hr
          rcases hq with ⟨rfl, hr⟩ | ⟨rfl, hr⟩
          · refine w_condT g22 ?_
            refine w_ops ?_
            refine wo_step (v := (.i .u8 x7)) (s_pure (p_mv g7)) ?_
            refine wo_step (v := (.i .i64 x9)) (s_pure (p_mv g8)) ?_
            have hq := forceI_inv hr
            clear hr
            obtain ⟨x25, e25, hr⟩ := hq
            refine wo_step (v := (.i .i64 x25)) (s_pure (p_bin rfl rfl ((b_shr rfl).trans (ci e25)))) ?_
            have hq := chk_inv hr
            clear hr
            obtain ⟨hc26, hr⟩ := hq
            have hq := forceI_inv hr
            clear hr
            obtain ⟨x26, e26, hr⟩ := hq
            refine wo_step (v := (.i .u8 x26)) (s_pure (p_bin rfl rfl ((b_shl hc26).trans (ci e26)))) ?_
            have hq := forceI_inv hr
            clear hr
            obtain ⟨x27, e27, hr⟩ := hq
            refine wo_step (v := (.i .u8 x27)) (s_pure (p_bin rfl rfl (b_or.trans (ci e27)))) ?_
            refine wo_step (v := (.i .u8 x27)) (s_pure (p_mv rfl)) ?_
            refine wo_nil ?_
            cases hr
            exact ⟨_, _, rfl, rfl, rfl, gl rfl, gl g0, gl g1, gl g2, gl g9⟩
          · refine w_condF g22 ?_
            refine w_skip ?_
            cases hr
            exact ⟨_, _, rfl, rfl, rfl, gl g7, gl g0, gl g1, gl g2, gl g9⟩
        · have hr := hk
          clear hk
          obtain ⟨x7_1, ho⟩ : ∃ z, z = o_1 := ⟨_, rfl⟩
          subst ho
          rintro _ mm_1 t_3 ⟨rfl, rfl, g7, g0, g1, g2, g9⟩
          refine bk_norm ?_
          refine nx_norm ?_
          refine w_ops ?_
          have hq := forceI_inv hr
          clear hr
          obtain ⟨x28, e28, hr⟩ := hq
          refine wo_step (v := (.i .i64 x28)) (s_pure (p_bin g9 rfl (b_add.trans (ci e28)))) ?_
          refine wo_step (v := (.i .i64 x28)) (s_pure (p_mv rfl)) ?_
          refine wo_nil ?_
          cases hr
          exact ⟨_, _, rfl, rfl, rfl, gl g7, gl rfl, gl g0, gl g1, gl g2⟩
    · refine w_condF rfl ?_
      refine w_exit ?_
      refine nx_exit ?_
      cases hr
      exact ⟨_, _, rfl, ne_norm_exit, rfl, rfl, gl g7⟩
  · obtain ⟨x7_2, m_5⟩ := o_2
    rintro _ mm_2 t_4 ⟨rfl, rfl, g7⟩
    refine bk_hit ?_
    refine nx_norm ?_
    refine w_seq ?_
    refine w_ops ?_
    refine wo_step (v := (.i .u8 x7_2)) (s_pure (p_mv g7)) ?_
    refine wo_step (v := (.i .u8 x7_2)) (s_pure (p_mv rfl)) ?_
    refine wo_nil ?_
    refine nx_norm ?_
    refine w_ret ?_
    exact qf ret_ok (rt rfl rn) hr

/- math/bits.TrailingZeros8 -/

def g75 (M : Means) (ro : List ABlk) (x0 : Int) (m0 : Mm) : Option (AVal × Heap × Nat × Nat) :=
  bindO (evP .e (.ixStr (.c (AVal.s [8, 0, 1, 0, 2, 0, 1, 0, 3, 0, 1, 0, 2, 0, 1, 0, 4, 0, 1, 0, 2, 0, 1, 0, 3, 0, 1, 0, 2, 0, 1, 0, 5, 0, 1, 0, 2, 0, 1, 0, 3, 0, 1, 0, 2, 0, 1, 0, 4, 0, 1, 0, 2, 0, 1, 0, 3, 0, 1, 0, 2, 0, 1, 0, 6, 0, 1, 0, 2, 0, 1, 0, 3, 0, 1, 0, 2, 0, 1, 0, 4, 0, 1, 0, 2, 0, 1, 0, 3, 0, 1, 0, 2, 0, 1, 0, 5, 0, 1, 0, 2, 0, 1, 0, 3, 0, 1, 0, 2, 0, 1, 0, 4, 0, 1, 0, 2, 0, 1, 0, 3, 0, 1, 0, 2, 0, 1, 0, 7, 0, 1, 0, 2, 0, 1, 0, 3, 0, 1, 0, 2, 0, 1, 0, 4, 0, 1, 0, 2, 0, 1, 0, 3, 0, 1, 0, 2, 0, 1, 0, 5, 0, 1, 0, 2, 0, 1, 0, 3, 0, 1, 0, 2, 0, 1, 0, 4, 0, 1, 0, 2, 0, 1, 0, 3, 0, 1, 0, 2, 0, 1, 0, 6, 0, 1, 0, 2, 0, 1, 0, 3, 0, 1, 0, 2, 0, 1, 0, 4, 0, 1, 0, 2, 0, 1, 0, 3, 0, 1, 0, 2, 0, 1, 0, 5, 0, 1, 0, 2, 0, 1, 0, 3, 0, 1, 0, 2, 0, 1, 0, 4, 0, 1, 0, 2, 0, 1, 0, 3, 0, 1, 0, 2, 0, 1, 0])) (.c (.i .u8 x0)))) fun v4 =>
  asI .u8 v4 fun x4 =>
  forceI (wr .i64 x4) fun x5 =>
  finM m0.h.length (tupA [(.i .i64 x5)]) m0

theorem g75_ok {ro : List ABlk} {O : Caller} {M : Means} (hM : M.Ok ⟨F, O⟩ ro) {x0 h r} (ho : O 75 [(.i .u8 x0)] h = none) (hr : g75 M ro x0 ⟨h, h.length, h.length⟩ = some r) : callX ⟨F, O⟩ ro 75 [(.i .u8 x0)] h = some r := by
  refine callX_of (F := ⟨F, O⟩) (fn := fn75) (g := g75 M ro x0) ho rfl rfl hr ?_
  clear ho
  clear hr
  intro m0 t0 ht hr
  have g0 : t0.get 0 = (.i .u8 x0) := ht 0
  clear ht
  unfold g75 at hr
  refine w_seq ?_
  refine w_ops ?_
  refine wo_step (v := (.i .i64 0)) (s_pure (p_mv rfl)) ?_
  refine wo_nil ?_
  refine nx_norm ?_
  refine w_seq ?_
  refine w_ops ?_
  refine wo_step (v := (.i .u8 x0)) (s_pure (p_mv g0)) ?_
  have hq := bindO_inv hr
  clear hr
  obtain ⟨v4, e4, hr⟩ := hq
  have hq := asI_inv hr
  clear hr
  obtain ⟨x4, rfl, hr⟩ := hq
  refine wo_step (v := (.i .u8 x4)) (s_pure (o_ixStr rfl rfl e4)) ?_
  have hq := forceI_inv hr
  clear hr
  obtain ⟨x5, e5, hr⟩ := hq
  refine wo_step (v := (.i .i64 x5)) (s_pure ((p_conv rfl).trans (ci e5))) ?_
  refine wo_step (v := (.i .i64 x5)) (s_pure (p_mv rfl)) ?_
  refine wo_nil ?_
  refine nx_norm ?_
  refine w_ret ?_
  exact qf ret_ok (rt rfl rn) hr

/- (dibber/weed.pairs).has -/

def g76 (M : Means) (ro : List ABlk) (x0 : Int) (x1 : Int) (m0 : Mm) : Option (AVal × Heap × Nat × Nat) :=
  chk (!ltI x1 (.ofNat 0)) <|
  forceI (shrV .u8 x0 x1) fun x7 =>
  forceI (bitV .and .u8 x7 1) fun x8 =>
  forceB (eqI x8 1) fun c9 =>
  finM m0.h.length (tupA [(.b c9)]) m0

theorem g76_ok {ro : List ABlk} {O : Caller} {M : Means} (hM : M.Ok ⟨F, O⟩ ro) {x0 x1 h r} (ho : O 76 [(.i .u8 x0), (.i .i64 x1)] h = none) (hr : g76 M ro x0 x1 ⟨h, h.length, h.length⟩ = some r) : callX ⟨F, O⟩ ro 76 [(.i .u8 x0), (.i .i64 x1)] h = some r := by
  refine callX_of (F := ⟨F, O⟩) (fn := fn76) (g := g76 M ro x0 x1) ho rfl rfl hr ?_
  clear ho
  clear hr
  intro m0 t0 ht hr
  have g0 : t0.get 0 = (.i .u8 x0) := ht 0
  have g1 : t0.get 1 = (.i .i64 x1) := ht 1
  clear ht
  unfold g76 at hr
  refine w_seq ?_
  refine w_ops ?_
  refine wo_step (v := (.b false)) (s_pure (p_mv rfl)) ?_
  refine wo_nil ?_
  refine nx_norm ?_
  refine w_seq ?_
  refine w_ops ?_
  refine wo_step (v := (.i .u8 x0)) (s_pure (p_mv g0)) ?_
  refine wo_step (v := (.i .i64 x1)) (s_pure (p_mv g1)) ?_
  have hq := chk_inv hr
  clear hr
  obtain ⟨hc7, hr⟩ := hq
  have hq := forceI_inv hr
  clear hr
  obtain ⟨x7, e7, hr⟩ := hq
  refine wo_step (v := (.i .u8 x7)) (s_pure (p_bin rfl rfl ((b_shr hc7).trans (ci e7)))) ?_
  have hq := forceI_inv hr
  clear hr
  obtain ⟨x8, e8, hr⟩ := hq
  refine wo_step (v := (.i .u8 x8)) (s_pure (p_bin rfl rfl (b_and.trans (ci e8)))) ?_
  have hq := forceB_inv hr
  clear hr
  obtain ⟨c9, e9, hr⟩ := hq
  refine wo_step (v := (.b c9)) (s_pure (p_bin rfl rfl (b_eql.trans (cb e9)))) ?_
  refine wo_step (v := (.b c9)) (s_pure (p_mv rfl)) ?_
  refine wo_nil ?_
  refine nx_norm ?_
  refine w_ret ?_
  exact qf ret_ok (rt rfl rn) hr

/- dibber/dibberref02.small -/
abbrev g77_I0 (v0 : AVal) (s : AVal × Int × Mm) (m1 : Mm) (t1 : Tr) : Prop :=
  match s with
  | (v3, x4, m_1) => m_1 = m1 ∧ t1.get 3 = v3 ∧ t1.get 4 = (.i .i64 x4) ∧ t1.get 0 = v0
abbrev g77_J0 (v0 : AVal) (o : (AVal × Mm)) (e : AExit) (m1 : Mm) (t1 : Tr) : Prop :=
  match o with
  | (y3, mo) => e = (.exit 0) ∧ mo = m1 ∧ t1.get 3 = y3
def g77_b0 (M : Means) (ro : List ABlk) (v0 : AVal) (v3 : AVal) (x4 : Int) (m_1 : Mm) : Option ((AVal × Int × Mm) ⊕ ((AVal × Mm))) :=
  bindO (evP .e (.len false (.c v0))) fun v7 =>
  asI .i64 v7 fun x7 =>
  forceB (ltI x4 x7) fun c8 =>
  cond c8 (
    bindO (evP .e (.ixS 1 (.c v0) (.c (.i .i64 x4)))) fun v14 =>
    bindO (ldM ro m_1 true 1 v14) fun v15 =>
    asI .i64 v15 fun x15 =>
    forceI (mxV false x15 1) fun x16 =>
    bindP (stepM ro m_1 (.bsl 3 1 [(AVal.i IntKind.i64 0)] 1 [((0, 1), .c (.i .i64 x16))])) fun v17 m_2 =>
    bindP (stepM ro m_2 (.app 3 1 8 [(AVal.i IntKind.i64 0)] (.c v3) (.c v17))) fun v18 m_3 =>
    forceI (wr .i64 (x4 + 1)) fun x10 =>
    some (.inl (v18, x10, m_3))) (
    some (.inr (v3, m_1)))
def g77 (M : Means) (ro : List ABlk) (v0 : AVal) (m0 : Mm) : Option (AVal × Heap × Nat × Nat) :=
  bindO (M.loop (S := AVal × Int × Mm) (R := (AVal × Mm)) (fun s => g77_b0 M ro v0 s.1 s.2.1 s.2.2) (AVal.nsl, 0, m0)) fun ⟨v3_1, m_4⟩ =>
  finM m0.h.length (tupA [v3_1]) m_4

theorem g77_ok {ro : List ABlk} {O : Caller} {M : Means} (hM : M.Ok ⟨F, O⟩ ro) {v0 h r} (ho : O 77 [v0] h = none) (hr : g77 M ro v0 ⟨h, h.length, h.length⟩ = some r) : callX ⟨F, O⟩ ro 77 [v0] h = some r := by
  refine callX_of (F := ⟨F, O⟩) (fn := fn77) (g := g77 M ro v0) ho rfl rfl hr ?_
  clear ho
  clear hr
  intro m0 t0 ht hr
  have g0 : t0.get 0 = v0 := ht 0
  clear ht
  unfold g77 at hr
  refine w_seq ?_
  refine w_ops ?_
  refine wo_step (v := AVal.nsl) (s_pure (p_mv rfl)) ?_
  refine wo_nil ?_
  refine nx_norm ?_
  refine w_seq ?_
  refine w_ops ?_
  refine wo_step (v := AVal.nsl) (s_pure (p_mv rfl)) ?_
  refine wo_nil ?_
  refine nx_norm ?_
  refine w_seq ?_
  refine w_seq ?_
  refine w_ops ?_
  refine wo_step (v := (.i .i64 0)) (s_pure (p_mv rfl)) ?_
  refine wo_nil ?_
  refine nx_norm ?_
  refine w_block ?_
  have hq := bindO_inv hr
  clear hr
  obtain ⟨o, hl, hr⟩ := hq
  obtain ⟨n, hl⟩ := hM.loop _ _ _ hl
  refine jp_mono (w_loop _ (g77_I0 v0) (g77_J0 v0) ?_ n _ _ _ _ hl ⟨rfl, gl rfl, gl rfl, gl g0⟩) ?_
  · clear hr hl
    intro s mm_1 t_1 o hi hr
    obtain ⟨v3, x4, m_1⟩ := s
    obtain ⟨rfl, g3, g4, g0⟩ := hi
    unfold g77_b0 at hr
    refine w_seq ?_
    refine w_seq ?_
    refine w_ops ?_
    refine wo_step (v := (.i .i64 x4)) (s_pure (p_mv g4)) ?_
    refine wo_step (v := v0) (s_pure (p_mv g0)) ?_
    have hq := bindO_inv hr
    clear hr
    obtain ⟨v7, e7, hr⟩ := hq
    have hq := asI_inv hr
    clear hr
    obtain ⟨x7, rfl, hr⟩ := hq
    refine wo_step (v := (.i .i64 x7)) (s_pure (o_len rfl e7)) ?_
    have hq := forceB_inv hr
    clear hr
    obtain ⟨c8, e8, hr⟩ := hq
    refine wo_step (v := (.b c8)) (s_pure (p_bin rfl rfl (b_lss.trans (cb e8)))) ?_
    refine wo_nil ?_
    refine nx_norm ?_
    have hq := cond_inv hr
    clear hr
    rcases hq with ⟨rfl, hr⟩ | ⟨rfl, hr⟩
    · refine w_condT rfl ?_
      refine w_skip ?_
      refine nx_norm ?_
      refine w_seq ?_
      refine w_block ?_
      refine w_ops ?_
      refine wo_step (v := v3) (s_pure (p_mv g3)) ?_
      refine wo_step (v := v0) (s_pure (p_mv g0)) ?_
      refine wo_step (v := (.i .i64 x4)) (s_pure (p_mv g4)) ?_
      have hq := bindO_inv hr
      clear hr
      obtain ⟨v14, e14, hr⟩ := hq
      refine wo_step (v := v14) (s_pure (o_ixS rfl rfl e14)) ?_
      have hq := bindO_inv hr
      clear hr
      obtain ⟨v15, e15, hr⟩ := hq
      have hq := asI_inv hr
      clear hr
      obtain ⟨x15, rfl, hr⟩ := hq
      refine wo_step (v := (.i .i64 x15)) (s_ld rfl e15) ?_
      have hq := forceI_inv hr
      clear hr
      obtain ⟨x16, e16, hr⟩ := hq
      refine wo_step (v := (.i .i64 x16)) (s_pure ((p_mx rfl rfl).trans (ci e16))) ?_
      have hq := bindP_inv hr
      clear hr
      obtain ⟨v17, m_2, e17, hr⟩ := hq
      refine wo_step (v := v17) (s_bsl (qc rfl qn) e17) ?_
      have hq := bindP_inv hr
      clear hr
      obtain ⟨v18, m_3, e18, hr⟩ := hq
      refine wo_step (v := v18) (s_app rfl rfl e18) ?_
      refine wo_step (v := v18) (s_pure (p_mv rfl)) ?_
      refine wo_nil ?_
      refine bk_norm ?_
      refine nx_norm ?_
      refine w_ops ?_
      refine wo_step (v := (.i .i64 x4)) (s_pure (p_mv g4)) ?_
      have hq := forceI_inv hr
      clear hr
      obtain ⟨x10, e10, hr⟩ := hq
      refine wo_step (v := (.i .i64 x10)) (s_pure (p_bin rfl rfl (b_add.trans (ci e10)))) ?_
      refine wo_step (v := (.i .i64 x10)) (s_pure (p_mv rfl)) ?_
      refine wo_nil ?_
      cases hr
      exact ⟨_, _, rfl, rfl, rfl, gl rfl, gl rfl, gl g0⟩
    · refine w_condF rfl ?_
      refine w_exit ?_
      refine nx_exit ?_
      cases hr
      exact ⟨_, _, rfl, ne_norm_exit, rfl, rfl, gl g3⟩
  · obtain ⟨v3_1, m_4⟩ := o
    rintro _ mm t_2 ⟨rfl, rfl, g3⟩
    refine bk_hit ?_
    refine nx_norm ?_
    refine w_seq ?_
    refine w_ops ?_
    refine wo_step (v := v3_1) (s_pure (p_mv g3)) ?_
    refine wo_step (v := v3_1) (s_pure (p_mv rfl)) ?_
    refine wo_nil ?_
    refine nx_norm ?_
    refine w_ret ?_
    exact qf ret_ok (rt rfl rn) hr

/- (dibber/weed.rule).ahead -/
abbrev g78_I0 (x0 : Int) (x1 : Int) (x2 : Int) (s : Int × Int × Mm) (m1 : Mm) (t1 : Tr) : Prop :=
  match s with
  | (x7, x9, m_1) => m_1 = m1 ∧ t1.get 7 = (.i .u8 x7) ∧ t1.get 9 = (.i .i64 x9) ∧ t1.get 0 = (.i .u8 x0) ∧ t1.get 1 = (.i .u8 x1) ∧ t1.get 2 = (.i .i64 x2)
abbrev g78_J0 (x0 : Int) (x1 : Int) (x2 : Int) (o : (Int × Mm)) (e : AExit) (m1 : Mm) (t1 : Tr) : Prop :=
  match o with
  | (y7, mo) => e = (.exit 0) ∧ mo = m1 ∧ t1.get 7 = (.i .u8 y7)
abbrev g78_J1 (x0 : Int) (x1 : Int) (x2 : Int) (x7 : Int) (x9 : Int) (o : Bool × Mm) (m1 : Mm) (t1 : Tr) : Prop :=
  match o with
  | (c22, m_3) => m_3 = m1 ∧ t1.get 22 = (.b c22) ∧ t1.get 0 = (.i .u8 x0) ∧ t1.get 1 = (.i .u8 x1) ∧ t1.get 2 = (.i .i64 x2) ∧ t1.get 7 = (.i .u8 x7) ∧ t1.get 8 = (.i .i64 x9) ∧ t1.get 9 = (.i .i64 x9)
abbrev g78_J2 (x0 : Int) (x1 : Int) (x2 : Int) (x9 : Int) (m_3 : Mm) (o : Int) (e : AExit) (m1 : Mm) (t1 : Tr) : Prop :=
  match o with
  | y7 => e = .norm ∧ m_3 = m1 ∧ t1.get 7 = (.i .u8 y7) ∧ t1.get 0 = (.i .u8 x0) ∧ t1.get 1 = (.i .u8 x1) ∧ t1.get 2 = (.i .i64 x2) ∧ t1.get 9 = (.i .i64 x9)
def g78_b0 (M : Means) (ro : List ABlk) (x0 : Int) (x1 : Int) (x2 : Int) (x7 : Int) (x9 : Int) (m_1 : Mm) : Option ((Int × Int × Mm) ⊕ ((Int × Mm))) :=
  forceB (ltI x9 8) fun c10 =>
  cond c10 (
    forceI (shrV .i64 x9 1) fun x14 =>
    bindP (callM M.call m_1 76 [(.i .u8 x1), (.i .i64 x14)]) fun v15 m_2 =>
    asB v15 fun c15 =>
    bindO (cond c15 (
      bindP (callM M.call m_2 72 [(.i .u8 x0), (.i .i64 x9)]) fun v19 m_4 =>
      asI .i64 v19 fun x19 =>
      forceB (eqI x19 x2) fun c21 =>
      some (c21, m_4)) (
      some (false, m_2))) fun ⟨c22, m_3⟩ =>
    bindO (α := Int) (
      cond c22 (
        forceI (bitV .and .i64 x9 3) fun x25 =>
        chk (!ltI x25 (.ofNat 0)) <|
        forceI (shlV .u8 1 x25) fun x26 =>
        forceI (bitV .or .u8 x7 x26) fun x27 =>
        some x27) (
        some x7)) fun x7_1 =>
    forceI (wr .i64 (x9 + 1)) fun x28 =>
    some (.inl (x7_1, x28, m_3))) (
    some (.inr (x7, m_1)))
def g78 (M : Means) (ro : List ABlk) (x0 : Int) (x1 : Int) (x2 : Int) (m0 : Mm) : Option (AVal × Heap × Nat × Nat) :=
  bindO (M.loop (S := Int × Int × Mm) (R := (Int × Mm)) (fun s => g78_b0 M ro x0 x1 x2 s.1 s.2.1 s.2.2) (0, 0, m0)) fun ⟨x7_2, m_5⟩ =>
  finM m0.h.length (tupA [(.i .u8 x7_2)]) m_5

theorem g78_ok {ro : List ABlk} {O : Caller} {M : Means} (hM : M.Ok ⟨F, O⟩ ro) {x0 x1 x2 h r} (ho : O 78 [(.i .u8 x0), (.i .u8 x1), (.i .i64 x2)] h = none) (hr : g78 M ro x0 x1 x2 ⟨h, h.length, h.length⟩ = some r) : callX ⟨F, O⟩ ro 78 [(.i .u8 x0), (.i .u8 x1), (.i .i64 x2)] h = some r := by
  refine callX_of (F := ⟨F, O⟩) (fn := fn78) (g := g78 M ro x0 x1 x2) ho rfl rfl hr ?_
  clear ho
  clear hr
  intro m0 t0 ht hr
  have g0 : t0.get 0 = (.i .u8 x0) := ht 0
  have g1 : t0.get 1 = (.i .u8 x1) := ht 1
  have g2 : t0.get 2 = (.i .i64 x2) := ht 2
  clear ht
  unfold g78 at hr
  refine w_seq ?_
  refine w_ops ?_
  refine wo_step (v := (.i .u8 0)) (s_pure (p_mv rfl)) ?_
  refine wo_nil ?_
  refine nx_norm ?_
  refine w_seq ?_
  refine w_ops ?_
  refine wo_step (v := (.i .u8 0)) (s_pure (p_mv rfl)) ?_
  refine wo_nil ?_
  refine nx_norm ?_
  refine w_seq ?_
  refine w_seq ?_
  refine w_ops ?_
  refine wo_step (v := (.i .i64 0)) (s_pure (p_mv rfl)) ?_
  refine wo_nil ?_
  refine nx_norm ?_
  refine w_block ?_
  have hq := bindO_inv hr
  clear hr
  obtain ⟨o_2, hl, hr⟩ := hq
  obtain ⟨n, hl⟩ := hM.loop _ _ _ hl
  refine jp_mono (w_loop _ (g78_I0 x0 x1 x2) (g78_J0 x0 x1 x2) ?_ n _ _ _ _ hl ⟨rfl, gl rfl, gl rfl, gl g0, gl g1, gl g2⟩) ?_
  · clear hr hl
    intro s mm_3 t_1 o hi hr
    obtain ⟨x7, x9, m_1⟩ := s
    obtain ⟨rfl, g7, g9, g0, g1, g2⟩ := hi
    unfold g78_b0 at hr
    refine w_seq ?_
    refine w_ops ?_
    have hq := forceB_inv hr
    clear hr
    obtain ⟨c10, e10, hr⟩ := hq
    refine wo_step (v := (.b c10)) (s_pure (p_bin g9 rfl (b_lss.trans (cb e10)))) ?_
    refine wo_nil ?_
    refine nx_norm ?_
    refine w_seq ?_
    have hq := cond_inv hr
    clear hr
    rcases hq with ⟨rfl, hr⟩ | ⟨rfl, hr⟩
    · refine w_condT rfl ?_
      refine w_skip ?_
      refine nx_norm ?_
      refine w_seq ?_
      refine w_block ?_
      refine w_seq ?_
      refine w_ops ?_
      refine wo_step (v := (.i .i64 x9)) (s_pure (p_mv g9)) ?_
      refine wo_step (v := (.i .i64 x9)) (s_pure (p_mv rfl)) ?_
      refine wo_nil ?_
      refine nx_norm ?_
      refine w_seq ?_
      refine w_ops ?_
      refine wo_step (v := (.i .u8 x1)) (s_pure (p_mv g1)) ?_
      refine wo_step (v := (.i .i64 x9)) (s_pure (p_mv rfl)) ?_
      have hq := forceI_inv hr
      clear hr
      obtain ⟨x14, e14, hr⟩ := hq
      refine wo_step (v := (.i .i64 x14)) (s_pure (p_bin rfl rfl ((b_shr rfl).trans (ci e14)))) ?_
      have hq := bindP_inv hr
      clear hr
      obtain ⟨v15, m_2, e15, hr⟩ := hq
      have hq := asB_inv hr
      clear hr
      obtain ⟨c15, rfl, hr⟩ := hq
      refine wo_step (v := (.b c15)) (s_call (mc rfl (mc rfl mn)) (callM_le hM.call e15)) ?_
      refine wo_step (v := (.b c15)) (s_pure (p_mv rfl)) ?_
      have hq := bindO_inv hr
      clear hr
      obtain ⟨o, hr, hk⟩ := hq
      refine wo_join 6 (g78_J1 x0 x1 x2 x7 x9 o) ?_ ?_
      · clear hk
        have hq := cond_inv hr
        clear hr
        rcases hq with ⟨rfl, hr⟩ | ⟨rfl, hr⟩
        · refine wo_take (v := (.i .u8 x0)) rfl (s_pure (p_mv g0)) ?_
          refine wo_take (v := (.i .i64 x9)) rfl (s_pure (p_mv rfl)) ?_
          have hq := bindP_inv hr
          clear hr
          obtain ⟨v19, m_4, e19, hr⟩ := hq
          have hq := asI_inv hr
          clear hr
          obtain ⟨x19, rfl, hr⟩ := hq
          refine wo_take (v := (.i .i64 x19)) rfl (s_call (mc rfl (mc rfl mn)) (callM_le hM.call e19)) ?_
          refine wo_take (v := (.i .i64 x2)) rfl (s_pure (p_mv g2)) ?_
          have hq := forceB_inv hr
          clear hr
          obtain ⟨c21, e21, hr⟩ := hq
          refine wo_take (v := (.b c21)) rfl (s_pure (p_bin rfl rfl (b_eql.trans (cb e21)))) ?_
          refine wo_step (v := (.b c21)) (s_pure (p_pickT rfl rfl)) ?_
          refine wo_nil ?_
          cases hr
          exact ⟨_, _, rfl, rfl, gl rfl, gl g0, gl g1, gl g2, gl g7, gl rfl, gl g9⟩
        · refine wo_skip (v := (.b false)) rfl rfl ?_
          refine wo_skip (v := (.b false)) rfl rfl ?_
          refine wo_skip (v := (.b false)) rfl rfl ?_
          refine wo_skip (v := (.b false)) rfl rfl ?_
          refine wo_skip (v := (.b false)) rfl rfl ?_
          refine wo_step (v := (.b false)) (s_pure (p_pickF rfl rfl)) ?_
          refine wo_nil ?_
          cases hr
          exact ⟨_, _, rfl, rfl, gl rfl, gl g0, gl g1, gl g2, gl g7, gl rfl, gl g9⟩
      · clear hr
        have hr := hk
        clear hk
        obtain ⟨c22, m_3⟩ := o
        rintro mm t_2 ⟨rfl, g22, g0, g1, g2, g7, g8, g9⟩
        refine wo_nil ?_
        refine nx_norm ?_
        have hq := bindO_inv hr
        clear hr
        obtain ⟨o_1, hr, hk⟩ := hq
        refine jp_mono (J := g78_J2 x0 x1 x2 x9 m_3 o_1) ?_ ?_
        · clear hk
          have hq := cond_inv hr
          clear hr
          rcases hq with ⟨rfl, hr⟩ | ⟨rfl, hr⟩
          · refine w_condT g22 ?_
            refine w_ops ?_
            refine wo_step (v := (.i .u8 x7)) (s_pure (p_mv g7)) ?_
            refine wo_step (v := (.i .i64 x9)) (s_pure (p_mv g8)) ?_
            have hq := forceI_inv hr
            clear hr
            obtain ⟨x25, e25, hr⟩ := hq
            refine wo_step (v := (.i .i64 x25)) (s_pure (p_bin rfl rfl (b_and.trans (ci e25)))) ?_
            have hq := chk_inv hr
            clear hr
            obtain ⟨hc26, hr⟩ := hq
            have hq := forceI_inv hr
            clear hr
            obtain ⟨x26, e26, hr⟩ := hq
            refine wo_step (v := (.i .u8 x26)) (s_pure (p_bin rfl rfl ((b_shl hc26).trans (ci e26)))) ?_
            have hq := forceI_inv hr
            clear hr
            obtain ⟨x27, e27, hr⟩ := hq
            refine wo_step (v := (.i .u8 x27)) (s_pure (p_bin rfl rfl (b_or.trans (ci e27)))) ?_
            refine wo_step (v := (.i .u8 x27)) (s_pure (p_mv rfl)) ?_
            refine wo_nil ?_
            cases hr
            exact ⟨_, _, rfl, rfl, rfl, gl rfl, gl g0, gl g1, gl g2, gl g9⟩
          · refine w_condF g22 ?_
            refine w_skip ?_
            cases hr
            exact ⟨_, _, rfl, rfl, rfl, gl g7, gl g0, gl g1, gl g2, gl g9⟩
        · have hr := hk
          clear hk
          obtain ⟨x7_1, ho⟩ : ∃ z, z = o_1 := ⟨_, rfl⟩
          subst ho
          rintro _ mm_1 t_3 ⟨rfl, rfl, g7, g0, g1, g2, g9⟩
          refine bk_norm ?_
          refine nx_norm ?_
          refine w_ops ?_
          have hq := forceI_inv hr
          clear hr
          obtain ⟨x28, e28, hr⟩ := hq
          refine wo_step (v := (.i .i64 x28)) (s_pure (p_bin g9 rfl (b_add.trans (ci e28)))) ?_
          refine wo_step (v := (.i .i64 x28)) (s_pure (p_mv rfl)) ?_
          refine wo_nil ?_
          cases hr
          exact ⟨_, _, rfl, rfl, rfl, gl g7, gl rfl, gl g0, gl g1, gl g2⟩
    · refine w_condF rfl ?_
      refine w_exit ?_
      refine nx_exit ?_
      cases hr
      exact ⟨_, _, rfl, ne_norm_exit, rfl, rfl, gl g7⟩
  · obtain ⟨x7_2, m_5⟩ := o_2
    rintro _ mm_2 t_4 ⟨rfl, rfl, g7⟩
    refine bk_hit ?_
    refine nx_norm ?_
    refine w_seq ?_
    refine w_ops ?_
    refine wo_step (v := (.i .u8 x7_2)) (s_pure (p_mv g7)) ?_
    refine wo_step (v := (.i .u8 x7_2)) (s_pure (p_mv rfl)) ?_
    refine wo_nil ?_
    refine nx_norm ?_
    refine w_ret ?_
    exact qf ret_ok (rt rfl rn) hr

/- (dibber/weed.rule).lasting -/
abbrev g79_I0 (x0 : Int) (x1 : Int) (s : Int × Int × Int × Mm) (m1 : Mm) (t1 : Tr) : Prop :=
  match s with
  | (x5, x6, x11, m_1) => m_1 = m1 ∧ t1.get 5 = (.i .u16 x5) ∧ t1.get 6 = (.i .u16 x6) ∧ t1.get 11 = (.i .i64 x11) ∧ t1.get 0 = (.i .u8 x0) ∧ t1.get 1 = (.i .u16 x1)
abbrev g79_J0 (x0 : Int) (x1 : Int) (o : (Int × Int × Mm)) (e : AExit) (m1 : Mm) (t1 : Tr) : Prop :=
  match o with
  | (y5, y6, mo) => e = (.exit 0) ∧ mo = m1 ∧ t1.get 5 = (.i .u16 y5) ∧ t1.get 6 = (.i .u16 y6) ∧ t1.get 1 = (.i .u16 x1)
abbrev g79_I1 (x0 : Int) (x1 : Int) (x11 : Int) (s : Int × Int × Int × Mm) (m1 : Mm) (t1 : Tr) : Prop :=
  match s with
  | (x5_1, x6_1, x14, m_2) => m_2 = m1 ∧ t1.get 5 = (.i .u16 x5_1) ∧ t1.get 6 = (.i .u16 x6_1) ∧ t1.get 14 = (.i .i64 x14) ∧ t1.get 0 = (.i .u8 x0) ∧ t1.get 1 = (.i .u16 x1) ∧ t1.get 7 = (.i .i64 x11) ∧ t1.get 11 = (.i .i64 x11)
abbrev g79_J1 (x0 : Int) (x1 : Int) (x11 : Int) (o : (Int × Int × Mm)) (e : AExit) (m1 : Mm) (t1 : Tr) : Prop :=
  match o with
  | (y5, y6, mo) => e = (.exit 2) ∧ mo = m1 ∧ t1.get 5 = (.i .u16 y5) ∧ t1.get 6 = (.i .u16 y6) ∧ t1.get 0 = (.i .u8 x0) ∧ t1.get 1 = (.i .u16 x1) ∧ t1.get 11 = (.i .i64 x11)
abbrev g79_J2 (x0 : Int) (x1 : Int) (x5_1 : Int) (x6_1 : Int) (x11 : Int) (x23 : Int) (x30 : Int) (x14 : Int) (m_4 : Mm) (o : Bool) (m1 : Mm) (t1 : Tr) : Prop :=
  match o with
  | c43 => m_4 = m1 ∧ t1.get 43 = (.b c43) ∧ t1.get 0 = (.i .u8 x0) ∧ t1.get 1 = (.i .u16 x1) ∧ t1.get 5 = (.i .u16 x5_1) ∧ t1.get 6 = (.i .u16 x6_1) ∧ t1.get 7 = (.i .i64 x11) ∧ t1.get 9 = (.i .u16 x23) ∧ t1.get 10 = (.i .u16 x30) ∧ t1.get 11 = (.i .i64 x11) ∧ t1.get 14 = (.i .i64 x14)
abbrev g79_J3 (x0 : Int) (x1 : Int) (x5_1 : Int) (x6_1 : Int) (x11 : Int) (x23 : Int) (x30 : Int) (x14 : Int) (m_4 : Mm) (o : Bool) (m1 : Mm) (t1 : Tr) : Prop :=
  match o with
  | c49 => m_4 = m1 ∧ t1.get 49 = (.b c49) ∧ t1.get 0 = (.i .u8 x0) ∧ t1.get 1 = (.i .u16 x1) ∧ t1.get 5 = (.i .u16 x5_1) ∧ t1.get 6 = (.i .u16 x6_1) ∧ t1.get 7 = (.i .i64 x11) ∧ t1.get 9 = (.i .u16 x23) ∧ t1.get 10 = (.i .u16 x30) ∧ t1.get 11 = (.i .i64 x11) ∧ t1.get 14 = (.i .i64 x14)
abbrev g79_J4 (x0 : Int) (x1 : Int) (x11 : Int) (x14 : Int) (m_4 : Mm) (o : (Int × Int)) (e : AExit) (m1 : Mm) (t1 : Tr) : Prop :=
  match o with
  | (y5, y6) => e = .norm ∧ m_4 = m1 ∧ t1.get 5 = (.i .u16 y5) ∧ t1.get 6 = (.i .u16 y6) ∧ t1.get 0 = (.i .u8 x0) ∧ t1.get 1 = (.i .u16 x1) ∧ t1.get 7 = (.i .i64 x11) ∧ t1.get 11 = (.i .i64 x11) ∧ t1.get 14 = (.i .i64 x14)
def g79_b1 (M : Means) (ro : List ABlk) (x0 : Int) (x1 : Int) (x11 : Int) (x5_1 : Int) (x6_1 : Int) (x14 : Int) (m_2 : Mm) : Option ((Int × Int × Int × Mm) ⊕ ((Int × Int × Mm))) :=
  forceB (ltI x14 8) fun c15 =>
  cond c15 (
    forceI (shrV .i64 x11 1) fun x18 =>
    forceI (shlV .i64 x18 2) fun x19 =>
    forceI (shrV .i64 x14 1) fun x21 =>
    forceI (bitV .or .i64 x19 x21) fun x22 =>
    chk (!ltI x22 (.ofNat 0)) <|
    forceI (shlV .u16 1 x22) fun x23 =>
    forceI (bitV .and .i64 x11 3) fun x25 =>
    forceI (shlV .i64 x25 2) fun x26 =>
    forceI (bitV .and .i64 x14 3) fun x28 =>
    forceI (bitV .or .i64 x26 x28) fun x29 =>
    chk (!ltI x29 (.ofNat 0)) <|
    forceI (shlV .u16 1 x29) fun x30 =>
    bindP (callM M.call m_2 72 [(.i .u8 x0), (.i .i64 x11)]) fun v33 m_3 =>
    asI .i64 v33 fun x33 =>
    bindP (callM M.call m_3 72 [(.i .u8 x0), (.i .i64 x14)]) fun v36 m_4 =>
    asI .i64 v36 fun x36 =>
    forceB (eqI x33 x36) fun c37 =>
    bindO (cond c37 (
      forceI (bitV .and .u16 x1 x23) fun x41 =>
      forceB (!eqI x41 0) fun c42 =>
      some c42) (
      some false)) fun c43 =>
    bindO (cond c43 (
      forceI (bitV .and .u16 x1 x30) fun x47 =>
      forceB (!eqI x47 0) fun c48 =>
      some c48) (
      some false)) fun c49 =>
    bindO (α := (Int × Int)) (
      cond c49 (
        forceI (bitV .or .u16 x5_1 x23) fun x52 =>
        forceI (bitV .or .u16 x6_1 x30) fun x55 =>
        some (x52, x55)) (
        some (x5_1, x6_1))) fun ⟨x5_2, x6_2⟩ =>
    forceI (wr .i64 (x14 + 1)) fun x56 =>
    some (.inl (x5_2, x6_2, x56, m_4))) (
    some (.inr (x5_1, x6_1, m_2)))
def g79_b0 (M : Means) (ro : List ABlk) (x0 : Int) (x1 : Int) (x5 : Int) (x6 : Int) (x11 : Int) (m_1 : Mm) : Option ((Int × Int × Int × Mm) ⊕ ((Int × Int × Mm))) :=
  forceB (ltI x11 8) fun c12 =>
  cond c12 (
    bindO (M.loop (S := Int × Int × Int × Mm) (R := (Int × Int × Mm)) (fun s => g79_b1 M ro x0 x1 x11 s.1 s.2.1 s.2.2.1 s.2.2.2) (x5, x6, 0, m_1)) fun ⟨x5_3, x6_3, m_5⟩ =>
    forceI (wr .i64 (x11 + 1)) fun x57 =>
    some (.inl (x5_3, x6_3, x57, m_5))) (
    some (.inr (x5, x6, m_1)))
def g79 (M : Means) (ro : List ABlk) (x0 : Int) (x1 : Int) (m0 : Mm) : Option (AVal × Heap × Nat × Nat) :=
  bindO (M.loop (S := Int × Int × Int × Mm) (R := (Int × Int × Mm)) (fun s => g79_b0 M ro x0 x1 s.1 s.2.1 s.2.2.1 s.2.2.2) (0, 0, 0, m0)) fun ⟨x5_4, x6_4, m_6⟩ =>
  forceI (bitV .and .u16 x1 x5_4) fun x60 =>
  forceI (bitV .and .u16 x60 x6_4) fun x62 =>
  finM m0.h.length (tupA [(.i .u16 x62)]) m_6

theorem g79_ok {ro : List ABlk} {O : Caller} {M : Means} (hM : M.Ok ⟨F, O⟩ ro) {x0 x1 h r} (ho : O 79 [(.i .u8 x0), (.i .u16 x1)] h = none) (hr : g79 M ro x0 x1 ⟨h, h.length, h.length⟩ = some r) : callX ⟨F, O⟩ ro 79 [(.i .u8 x0), (.i .u16 x1)] h = some r := by
  refine callX_of (F := ⟨F, O⟩) (fn := fn79) (g := g79 M ro x0 x1) ho rfl rfl hr ?_
  clear ho
  clear hr
  intro m0 t0 ht hr
  have g0 : t0.get 0 = (.i .u8 x0) := ht 0
  have g1 : t0.get 1 = (.i .u16 x1) := ht 1
  clear ht
  unfold g79 at hr
  refine w_seq ?_
  refine w_ops ?_
  refine wo_step (v := (.i .u16 0)) (s_pure (p_mv rfl)) ?_
  refine wo_nil ?_
  refine nx_norm ?_
  refine w_seq ?_
  refine w_ops ?_
  refine wo_step (v := (.i .u16 0)) (s_pure (p_mv rfl)) ?_
  refine wo_step (v := (.i .u16 0)) (s_pure (p_mv rfl)) ?_
  refine wo_nil ?_
  refine nx_norm ?_
  refine w_seq ?_
  refine w_seq ?_
  refine w_ops ?_
  refine wo_step (v := (.i .i64 0)) (s_pure (p_mv rfl)) ?_
  refine wo_nil ?_
  refine nx_norm ?_
  refine w_block ?_
  have hq := bindO_inv hr
  clear hr
  obtain ⟨o_4, hl_1, hr⟩ := hq
  obtain ⟨n_1, hl_1⟩ := hM.loop _ _ _ hl_1
  refine jp_mono (w_loop _ (g79_I0 x0 x1) (g79_J0 x0 x1) ?_ n_1 _ _ _ _ hl_1 ⟨rfl, gl rfl, gl rfl, gl rfl, gl g0, gl g1⟩) ?_
  · clear hr hl_1
    intro s mm_6 t_1 o hi hr
    obtain ⟨x5, x6, x11, m_1⟩ := s
    obtain ⟨rfl, g5, g6, g11, g0, g1⟩ := hi
    unfold g79_b0 at hr
    refine w_seq ?_
    refine w_ops ?_
    have hq := forceB_inv hr
    clear hr
    obtain ⟨c12, e12, hr⟩ := hq
    refine wo_step (v := (.b c12)) (s_pure (p_bin g11 rfl (b_lss.trans (cb e12)))) ?_
    refine wo_nil ?_
    refine nx_norm ?_
    refine w_seq ?_
    have hq := cond_inv hr
    clear hr
    rcases hq with ⟨rfl, hr⟩ | ⟨rfl, hr⟩
    · refine w_condT rfl ?_
      refine w_skip ?_
      refine nx_norm ?_
      refine w_seq ?_
      refine w_block ?_
      refine w_seq ?_
      refine w_ops ?_
      refine wo_step (v := (.i .i64 x11)) (s_pure (p_mv g11)) ?_
      refine wo_step (v := (.i .i64 x11)) (s_pure (p_mv rfl)) ?_
      refine wo_nil ?_
      refine nx_norm ?_
      refine w_seq ?_
      refine w_ops ?_
      refine wo_step (v := (.i .i64 0)) (s_pure (p_mv rfl)) ?_
      refine wo_nil ?_
      refine nx_norm ?_
      refine w_block ?_
      have hq := bindO_inv hr
      clear hr
      obtain ⟨o_3, hl, hr⟩ := hq
      obtain ⟨n, hl⟩ := hM.loop _ _ _ hl
      refine jp_mono (w_loop _ (g79_I1 x0 x1 x11) (g79_J1 x0 x1 x11) ?_ n _ _ _ _ hl ⟨rfl, gl g5, gl g6, gl rfl, gl g0, gl g1, gl rfl, gl g11⟩) ?_
      · clear hr hl
        intro s mm_4 t_2 o hi hr
        obtain ⟨x5_1, x6_1, x14, m_2⟩ := s
        obtain ⟨rfl, g5, g6, g14, g0, g1, g7, g11⟩ := hi
        unfold g79_b1 at hr
        refine w_seq ?_
        refine w_ops ?_
        have hq := forceB_inv hr
        clear hr
        obtain ⟨c15, e15, hr⟩ := hq
        refine wo_step (v := (.b c15)) (s_pure (p_bin g14 rfl (b_lss.trans (cb e15)))) ?_
        refine wo_nil ?_
        refine nx_norm ?_
        refine w_seq ?_
        have hq := cond_inv hr
        clear hr
        rcases hq with ⟨rfl, hr⟩ | ⟨rfl, hr⟩
        · refine w_condT rfl ?_
          refine w_skip ?_
          refine nx_norm ?_
          refine w_seq ?_
          refine w_block ?_
          refine w_seq ?_
          refine w_ops ?_
          refine wo_step (v := (.i .i64 x14)) (s_pure (p_mv g14)) ?_
          refine wo_step (v := (.i .i64 x14)) (s_pure (p_mv rfl)) ?_
          refine wo_nil ?_
          refine nx_norm ?_
          refine w_seq ?_
          refine w_ops ?_
          refine wo_step (v := (.i .i64 x11)) (s_pure (p_mv g7)) ?_
          have hq := forceI_inv hr
          clear hr
          obtain ⟨x18, e18, hr⟩ := hq
          refine wo_step (v := (.i .i64 x18)) (s_pure (p_bin rfl rfl ((b_shr rfl).trans (ci e18)))) ?_
          have hq := forceI_inv hr
          clear hr
          obtain ⟨x19, e19, hr⟩ := hq
          refine wo_step (v := (.i .i64 x19)) (s_pure (p_bin rfl rfl ((b_shl rfl).trans (ci e19)))) ?_
          refine wo_step (v := (.i .i64 x14)) (s_pure (p_mv rfl)) ?_
          have hq := forceI_inv hr
          clear hr
          obtain ⟨x21, e21, hr⟩ := hq
          refine wo_step (v := (.i .i64 x21)) (s_pure (p_bin rfl rfl ((b_shr rfl).trans (ci e21)))) ?_
          have hq := forceI_inv hr
          clear hr
          obtain ⟨x22, e22, hr⟩ := hq
          refine wo_step (v := (.i .i64 x22)) (s_pure (p_bin rfl rfl (b_or.trans (ci e22)))) ?_
          have hq := chk_inv hr
          clear hr
          obtain ⟨hc23, hr⟩ := hq
          have hq := forceI_inv hr
          clear hr
          obtain ⟨x23, e23, hr⟩ := hq
          refine wo_step (v := (.i .u16 x23)) (s_pure (p_bin rfl rfl ((b_shl hc23).trans (ci e23)))) ?_
          refine wo_step (v := (.i .i64 x11)) (s_pure (p_mv g7)) ?_
          have hq := forceI_inv hr
          clear hr
          obtain ⟨x25, e25, hr⟩ := hq
          refine wo_step (v := (.i .i64 x25)) (s_pure (p_bin rfl rfl (b_and.trans (ci e25)))) ?_
          have hq := forceI_inv hr
          clear hr
          obtain ⟨x26, e26, hr⟩ := hq
          refine wo_step (v := (.i .i64 x26)) (s_pure (p_bin rfl rfl ((b_shl rfl).trans (ci e26)))) ?_
          refine wo_step (v := (.i .i64 x14)) (s_pure (p_mv rfl)) ?_
          have hq := forceI_inv hr
          clear hr
          obtain ⟨x28, e28, hr⟩ := hq
          refine wo_step (v := (.i .i64 x28)) (s_pure (p_bin rfl rfl (b_and.trans (ci e28)))) ?_
          have hq := forceI_inv hr
          clear hr
          obtain ⟨x29, e29, hr⟩ := hq
          refine wo_step (v := (.i .i64 x29)) (s_pure (p_bin rfl rfl (b_or.trans (ci e29)))) ?_
          have hq := chk_inv hr
          clear hr
          obtain ⟨hc30, hr⟩ := hq
          have hq := forceI_inv hr
          clear hr
          obtain ⟨x30, e30, hr⟩ := hq
          refine wo_step (v := (.i .u16 x30)) (s_pure (p_bin rfl rfl ((b_shl hc30).trans (ci e30)))) ?_
          refine wo_step (v := (.i .u16 x23)) (s_pure (p_mv rfl)) ?_
          refine wo_step (v := (.i .u16 x30)) (s_pure (p_mv rfl)) ?_
          refine wo_nil ?_
          refine nx_norm ?_
          refine w_seq ?_
          refine w_ops ?_
          refine wo_step (v := (.i .u8 x0)) (s_pure (p_mv g0)) ?_
          refine wo_step (v := (.i .i64 x11)) (s_pure (p_mv g7)) ?_
          have hq := bindP_inv hr
          clear hr
          obtain ⟨v33, m_3, e33, hr⟩ := hq
          have hq := asI_inv hr
          clear hr
          obtain ⟨x33, rfl, hr⟩ := hq
          refine wo_step (v := (.i .i64 x33)) (s_call (mc rfl (mc rfl mn)) (callM_le hM.call e33)) ?_
          refine wo_step (v := (.i .u8 x0)) (s_pure (p_mv g0)) ?_
          refine wo_step (v := (.i .i64 x14)) (s_pure (p_mv rfl)) ?_
          have hq := bindP_inv hr
          clear hr
          obtain ⟨v36, m_4, e36, hr⟩ := hq
          have hq := asI_inv hr
          clear hr
          obtain ⟨x36, rfl, hr⟩ := hq
          refine wo_step (v := (.i .i64 x36)) (s_call (mc rfl (mc rfl mn)) (callM_le hM.call e36)) ?_
          have hq := forceB_inv hr
          clear hr
          obtain ⟨c37, e37, hr⟩ := hq
          refine wo_step (v := (.b c37)) (s_pure (p_bin rfl rfl (b_eql.trans (cb e37)))) ?_
          refine wo_step (v := (.b c37)) (s_pure (p_mv rfl)) ?_
          have hq := bindO_inv hr
          clear hr
          obtain ⟨o, hr, hk⟩ := hq
          refine wo_join 5 (g79_J2 x0 x1 x5_1 x6_1 x11 x23 x30 x14 m_4 o) ?_ ?_
          · clear hk
            have hq := cond_inv hr
            clear hr
            rcases hq with ⟨rfl, hr⟩ | ⟨rfl, hr⟩
            · refine wo_take (v := (.i .u16 x1)) rfl (s_pure (p_mv g1)) ?_
              refine wo_take (v := (.i .u16 x23)) rfl (s_pure (p_mv rfl)) ?_
              have hq := forceI_inv hr
              clear hr
              obtain ⟨x41, e41, hr⟩ := hq
              refine wo_take (v := (.i .u16 x41)) rfl (s_pure (p_bin rfl rfl (b_and.trans (ci e41)))) ?_
              have hq := forceB_inv hr
              clear hr
              obtain ⟨c42, e42, hr⟩ := hq
              refine wo_take (v := (.b c42)) rfl (s_pure (p_bin rfl rfl (b_neq.trans (cb e42)))) ?_
              refine wo_step (v := (.b c42)) (s_pure (p_pickT rfl rfl)) ?_
              refine wo_nil ?_
              cases hr
              exact ⟨_, _, rfl, rfl, gl rfl, gl g0, gl g1, gl g5, gl g6, gl g7, gl rfl, gl rfl, gl g11, gl g14⟩
            · refine wo_skip (v := (.b false)) rfl rfl ?_
              refine wo_skip (v := (.b false)) rfl rfl ?_
              refine wo_skip (v := (.b false)) rfl rfl ?_
              refine wo_skip (v := (.b false)) rfl rfl ?_
              refine wo_step (v := (.b false)) (s_pure (p_pickF rfl rfl)) ?_
              refine wo_nil ?_
              cases hr
              exact ⟨_, _, rfl, rfl, gl rfl, gl g0, gl g1, gl g5, gl g6, gl g7, gl rfl, gl rfl, gl g11, gl g14⟩
          · clear hr
            have hr := hk
            clear hk
            obtain ⟨c43, ho⟩ : ∃ z, z = o := ⟨_, rfl⟩
            subst ho
            rintro mm t_3 ⟨rfl, g43, g0, g1, g5, g6, g7, g9, g10, g11, g14⟩
            refine wo_step (v := (.b c43)) (s_pure (p_mv g43)) ?_
            have hq := bindO_inv hr
            clear hr
            obtain ⟨o_1, hr, hk⟩ := hq
            refine wo_join 5 (g79_J3 x0 x1 x5_1 x6_1 x11 x23 x30 x14 m_4 o_1) ?_ ?_
            · clear hk
              have hq := cond_inv hr
              clear hr
              rcases hq with ⟨rfl, hr⟩ | ⟨rfl, hr⟩
              · refine wo_take (v := (.i .u16 x1)) rfl (s_pure (p_mv g1)) ?_
                refine wo_take (v := (.i .u16 x30)) rfl (s_pure (p_mv g10)) ?_
                have hq := forceI_inv hr
                clear hr
                obtain ⟨x47, e47, hr⟩ := hq
                refine wo_take (v := (.i .u16 x47)) rfl (s_pure (p_bin rfl rfl (b_and.trans (ci e47)))) ?_
                have hq := forceB_inv hr
                clear hr
                obtain ⟨c48, e48, hr⟩ := hq
                refine wo_take (v := (.b c48)) rfl (s_pure (p_bin rfl rfl (b_neq.trans (cb e48)))) ?_
                refine wo_step (v := (.b c48)) (s_pure (p_pickT rfl rfl)) ?_
                refine wo_nil ?_
                cases hr
                exact ⟨_, _, rfl, rfl, gl rfl, gl g0, gl g1, gl g5, gl g6, gl g7, gl g9, gl g10, gl g11, gl g14⟩
              · refine wo_skip (v := (.b false)) rfl rfl ?_
                refine wo_skip (v := (.b false)) rfl rfl ?_
                refine wo_skip (v := (.b false)) rfl rfl ?_
                refine wo_skip (v := (.b false)) rfl rfl ?_
                refine wo_step (v := (.b false)) (s_pure (p_pickF rfl rfl)) ?_
                refine wo_nil ?_
                cases hr
                exact ⟨_, _, rfl, rfl, gl rfl, gl g0, gl g1, gl g5, gl g6, gl g7, gl g9, gl g10, gl g11, gl g14⟩
            · clear hr
              have hr := hk
              clear hk
              obtain ⟨c49, ho⟩ : ∃ z, z = o_1 := ⟨_, rfl⟩
              subst ho
              rintro mm_1 t_4 ⟨rfl, g49, g0, g1, g5, g6, g7, g9, g10, g11, g14⟩
              refine wo_nil ?_
              refine nx_norm ?_
              have hq := bindO_inv hr
              clear hr
              obtain ⟨o_2, hr, hk⟩ := hq
              refine jp_mono (J := g79_J4 x0 x1 x11 x14 m_4 o_2) ?_ ?_
              · clear hk
                have hq := cond_inv hr
                clear hr
                rcases hq with ⟨rfl, hr⟩ | ⟨rfl, hr⟩
                · refine w_condT g49 ?_
                  refine w_seq ?_
                  refine w_ops ?_
                  refine wo_step (v := (.i .u16 x5_1)) (s_pure (p_mv g5)) ?_
                  refine wo_step (v := (.i .u16 x23)) (s_pure (p_mv g9)) ?_
                  have hq := forceI_inv hr
                  clear hr
                  obtain ⟨x52, e52, hr⟩ := hq
                  refine wo_step (v := (.i .u16 x52)) (s_pure (p_bin rfl rfl (b_or.trans (ci e52)))) ?_
                  refine wo_step (v := (.i .u16 x52)) (s_pure (p_mv rfl)) ?_
                  refine wo_nil ?_
                  refine nx_norm ?_
                  refine w_ops ?_
                  refine wo_step (v := (.i .u16 x6_1)) (s_pure (p_mv g6)) ?_
                  refine wo_step (v := (.i .u16 x30)) (s_pure (p_mv g10)) ?_
                  have hq := forceI_inv hr
                  clear hr
                  obtain ⟨x55, e55, hr⟩ := hq
                  refine wo_step (v := (.i .u16 x55)) (s_pure (p_bin rfl rfl (b_or.trans (ci e55)))) ?_
                  refine wo_step (v := (.i .u16 x55)) (s_pure (p_mv rfl)) ?_
                  refine wo_nil ?_
                  cases hr
                  exact ⟨_, _, rfl, rfl, rfl, gl rfl, gl rfl, gl g0, gl g1, gl g7, gl g11, gl g14⟩
                · refine w_condF g49 ?_
                  refine w_skip ?_
                  cases hr
                  exact ⟨_, _, rfl, rfl, rfl, gl g5, gl g6, gl g0, gl g1, gl g7, gl g11, gl g14⟩
              · have hr := hk
                clear hk
                obtain ⟨x5_2, x6_2⟩ := o_2
                rintro _ mm_2 t_5 ⟨rfl, rfl, g5, g6, g0, g1, g7, g11, g14⟩
                refine bk_norm ?_
                refine nx_norm ?_
                refine w_ops ?_
                have hq := forceI_inv hr
                clear hr
                obtain ⟨x56, e56, hr⟩ := hq
                refine wo_step (v := (.i .i64 x56)) (s_pure (p_bin g14 rfl (b_add.trans (ci e56)))) ?_
                refine wo_step (v := (.i .i64 x56)) (s_pure (p_mv rfl)) ?_
                refine wo_nil ?_
                cases hr
                exact ⟨_, _, rfl, rfl, rfl, gl g5, gl g6, gl rfl, gl g0, gl g1, gl g7, gl g11⟩
        · refine w_condF rfl ?_
          refine w_exit ?_
          refine nx_exit ?_
          cases hr
          exact ⟨_, _, rfl, ne_norm_exit, rfl, rfl, gl g5, gl g6, gl g0, gl g1, gl g11⟩
      · obtain ⟨x5_3, x6_3, m_5⟩ := o_3
        rintro _ mm_3 t_6 ⟨rfl, rfl, g5, g6, g0, g1, g11⟩
        refine bk_hit ?_
        refine bk_norm ?_
        refine nx_norm ?_
        refine w_ops ?_
        have hq := forceI_inv hr
        clear hr
        obtain ⟨x57, e57, hr⟩ := hq
        refine wo_step (v := (.i .i64 x57)) (s_pure (p_bin g11 rfl (b_add.trans (ci e57)))) ?_
        refine wo_step (v := (.i .i64 x57)) (s_pure (p_mv rfl)) ?_
        refine wo_nil ?_
        cases hr
        exact ⟨_, _, rfl, rfl, rfl, gl g5, gl g6, gl rfl, gl g0, gl g1⟩
    · refine w_condF rfl ?_
      refine w_exit ?_
      refine nx_exit ?_
      cases hr
      exact ⟨_, _, rfl, ne_norm_exit, rfl, rfl, gl g5, gl g6, gl g1⟩
  · obtain ⟨x5_4, x6_4, m_6⟩ := o_4
    rintro _ mm_5 t_7 ⟨rfl, rfl, g5, g6, g1⟩
    refine bk_hit ?_
    refine nx_norm ?_
    refine w_seq ?_
    refine w_ops ?_
    refine wo_step (v := (.i .u16 x1)) (s_pure (p_mv g1)) ?_
    refine wo_step (v := (.i .u16 x5_4)) (s_pure (p_mv g5)) ?_
    have hq := forceI_inv hr
    clear hr
    obtain ⟨x60, e60, hr⟩ := hq
    refine wo_step (v := (.i .u16 x60)) (s_pure (p_bin rfl rfl (b_and.trans (ci e60)))) ?_
    refine wo_step (v := (.i .u16 x6_4)) (s_pure (p_mv g6)) ?_
    have hq := forceI_inv hr
    clear hr
    obtain ⟨x62, e62, hr⟩ := hq
    refine wo_step (v := (.i .u16 x62)) (s_pure (p_bin rfl rfl (b_and.trans (ci e62)))) ?_
    refine wo_step (v := (.i .u16 x62)) (s_pure (p_mv rfl)) ?_
    refine wo_nil ?_
    refine nx_norm ?_
    refine w_ret ?_
    exact qf ret_ok (rt rfl rn) hr

/- (dibber/weed.rule).as -/
abbrev g82_I0 (x0 : Int) (v1 : AVal) (s : Int × Int × Mm) (m1 : Mm) (t1 : Tr) : Prop :=
  match s with
  | (x5, x7, m_1) => m_1 = m1 ∧ t1.get 5 = (.i .u8 x5) ∧ t1.get 7 = (.i .i64 x7) ∧ t1.get 0 = (.i .u8 x0) ∧ t1.get 1 = v1
abbrev g82_J0 (x0 : Int) (v1 : AVal) (o : (Int × Mm)) (e : AExit) (m1 : Mm) (t1 : Tr) : Prop :=
  match o with
  | (y5, mo) => e = (.exit 0) ∧ mo = m1 ∧ t1.get 5 = (.i .u8 y5)
def g82_b0 (M : Means) (ro : List ABlk) (x0 : Int) (v1 : AVal) (x5 : Int) (x7 : Int) (m_1 : Mm) : Option ((Int × Int × Mm) ⊕ ((Int × Mm))) :=
  forceB (ltI x7 8) fun c8 =>
  cond c8 (
    bindP (callvM M.call m_1 v1 [(.i .u8 x0), (.i .i64 x7)]) fun v14 m_2 =>
    asI .i64 v14 fun x14 =>
    forceI (wr .u8 x14) fun x15 =>
    chk (!ltI x7 (.ofNat 0)) <|
    forceI (shlV .u8 x15 x7) fun x17 =>
    forceI (bitV .or .u8 x5 x17) fun x18 =>
    forceI (wr .i64 (x7 + 1)) fun x19 =>
    some (.inl (x18, x19, m_2))) (
    some (.inr (x5, m_1)))
def g82 (M : Means) (ro : List ABlk) (x0 : Int) (v1 : AVal) (m0 : Mm) : Option (AVal × Heap × Nat × Nat) :=
  bindO (M.loop (S := Int × Int × Mm) (R := (Int × Mm)) (fun s => g82_b0 M ro x0 v1 s.1 s.2.1 s.2.2) (0, 0, m0)) fun ⟨x5_1, m_3⟩ =>
  finM m0.h.length (tupA [(.i .u8 x5_1)]) m_3

theorem g82_ok {ro : List ABlk} {O : Caller} {M : Means} (hM : M.Ok ⟨F, O⟩ ro) {x0 v1 h r} (ho : O 82 [(.i .u8 x0), v1] h = none) (hr : g82 M ro x0 v1 ⟨h, h.length, h.length⟩ = some r) : callX ⟨F, O⟩ ro 82 [(.i .u8 x0), v1] h = some r := by
  refine callX_of (F := ⟨F, O⟩) (fn := fn82) (g := g82 M ro x0 v1) ho rfl rfl hr ?_
  clear ho
  clear hr
  intro m0 t0 ht hr
  have g0 : t0.get 0 = (.i .u8 x0) := ht 0
  have g1 : t0.get 1 = v1 := ht 1
  clear ht
  unfold g82 at hr
  refine w_seq ?_
  refine w_ops ?_
  refine wo_step (v := (.i .u8 0)) (s_pure (p_mv rfl)) ?_
  refine wo_nil ?_
  refine nx_norm ?_
  refine w_seq ?_
  refine w_ops ?_
  refine wo_step (v := (.i .u8 0)) (s_pure (p_mv rfl)) ?_
  refine wo_nil ?_
  refine nx_norm ?_
  refine w_seq ?_
  refine w_seq ?_
  refine w_ops ?_
  refine wo_step (v := (.i .i64 0)) (s_pure (p_mv rfl)) ?_
  refine wo_nil ?_
  refine nx_norm ?_
  refine w_block ?_
  have hq := bindO_inv hr
  clear hr
  obtain ⟨o, hl, hr⟩ := hq
  obtain ⟨n, hl⟩ := hM.loop _ _ _ hl
  refine jp_mono (w_loop _ (g82_I0 x0 v1) (g82_J0 x0 v1) ?_ n _ _ _ _ hl ⟨rfl, gl rfl, gl rfl, gl g0, gl g1⟩) ?_
  · clear hr hl
    intro s mm_1 t_1 o hi hr
    obtain ⟨x5, x7, m_1⟩ := s
    obtain ⟨rfl, g5, g7, g0, g1⟩ := hi
    unfold g82_b0 at hr
    refine w_seq ?_
    refine w_ops ?_
    have hq := forceB_inv hr
    clear hr
    obtain ⟨c8, e8, hr⟩ := hq
    refine wo_step (v := (.b c8)) (s_pure (p_bin g7 rfl (b_lss.trans (cb e8)))) ?_
    refine wo_nil ?_
    refine nx_norm ?_
    refine w_seq ?_
    have hq := cond_inv hr
    clear hr
    rcases hq with ⟨rfl, hr⟩ | ⟨rfl, hr⟩
    · refine w_condT rfl ?_
      refine w_skip ?_
      refine nx_norm ?_
      refine w_seq ?_
      refine w_block ?_
      refine w_seq ?_
      refine w_ops ?_
      refine wo_step (v := (.i .i64 x7)) (s_pure (p_mv g7)) ?_
      refine wo_step (v := (.i .i64 x7)) (s_pure (p_mv rfl)) ?_
      refine wo_nil ?_
      refine nx_norm ?_
      refine w_ops ?_
      refine wo_step (v := (.i .u8 x5)) (s_pure (p_mv g5)) ?_
      refine wo_step (v := v1) (s_pure (p_mv g1)) ?_
      refine wo_step (v := (.i .u8 x0)) (s_pure (p_mv g0)) ?_
      refine wo_step (v := (.i .i64 x7)) (s_pure (p_mv rfl)) ?_
      have hq := bindP_inv hr
      clear hr
      obtain ⟨v14, m_2, e14, hr⟩ := hq
      have hq := asI_inv hr
      clear hr
      obtain ⟨x14, rfl, hr⟩ := hq
      refine wo_step (v := (.i .i64 x14)) (s_callv rfl (mc rfl (mc rfl mn)) (callvM_le hM.call e14)) ?_
      have hq := forceI_inv hr
      clear hr
      obtain ⟨x15, e15, hr⟩ := hq
      refine wo_step (v := (.i .u8 x15)) (s_pure ((p_conv rfl).trans (ci e15))) ?_
      refine wo_step (v := (.i .i64 x7)) (s_pure (p_mv rfl)) ?_
      have hq := chk_inv hr
      clear hr
      obtain ⟨hc17, hr⟩ := hq
      have hq := forceI_inv hr
      clear hr
      obtain ⟨x17, e17, hr⟩ := hq
      refine wo_step (v := (.i .u8 x17)) (s_pure (p_bin rfl rfl ((b_shl hc17).trans (ci e17)))) ?_
      have hq := forceI_inv hr
      clear hr
      obtain ⟨x18, e18, hr⟩ := hq
      refine wo_step (v := (.i .u8 x18)) (s_pure (p_bin rfl rfl (b_or.trans (ci e18)))) ?_
      refine wo_step (v := (.i .u8 x18)) (s_pure (p_mv rfl)) ?_
      refine wo_nil ?_
      refine bk_norm ?_
      refine nx_norm ?_
      refine w_ops ?_
      have hq := forceI_inv hr
      clear hr
      obtain ⟨x19, e19, hr⟩ := hq
      refine wo_step (v := (.i .i64 x19)) (s_pure (p_bin g7 rfl (b_add.trans (ci e19)))) ?_
      refine wo_step (v := (.i .i64 x19)) (s_pure (p_mv rfl)) ?_
      refine wo_nil ?_
      cases hr
      exact ⟨_, _, rfl, rfl, rfl, gl rfl, gl rfl, gl g0, gl g1⟩
    · refine w_condF rfl ?_
      refine w_exit ?_
      refine nx_exit ?_
      cases hr
      exact ⟨_, _, rfl, ne_norm_exit, rfl, rfl, gl g5⟩
  · obtain ⟨x5_1, m_3⟩ := o
    rintro _ mm t_2 ⟨rfl, rfl, g5⟩
    refine bk_hit ?_
    refine nx_norm ?_
    refine w_seq ?_
    refine w_ops ?_
    refine wo_step (v := (.i .u8 x5_1)) (s_pure (p_mv g5)) ?_
    refine wo_step (v := (.i .u8 x5_1)) (s_pure (p_mv rfl)) ?_
    refine wo_nil ?_
    refine nx_norm ?_
    refine w_ret ?_
    exact qf ret_ok (rt rfl rn) hr

/- (dibber/weed.rule).nextMirrored -/

def g83 (M : Means) (ro : List ABlk) (x0 : Int) (x1 : Int) (m0 : Mm) : Option (AVal × Heap × Nat × Nat) :=
  forceI (bitV .and .i64 x1 1) fun x7 =>
  forceI (shlV .i64 x7 2) fun x8 =>
  forceI (bitV .and .i64 x1 2) fun x10 =>
  forceI (bitV .or .i64 x8 x10) fun x11 =>
  forceI (shrV .i64 x1 2) fun x13 =>
  forceI (bitV .or .i64 x11 x13) fun x14 =>
  bindP (callM M.call m0 72 [(.i .u8 x0), (.i .i64 x14)]) fun v15 m_1 =>
  asI .i64 v15 fun x15 =>
  finM m0.h.length (tupA [(.i .i64 x15)]) m_1

theorem g83_ok {ro : List ABlk} {O : Caller} {M : Means} (hM : M.Ok ⟨F, O⟩ ro) {x0 x1 h r} (ho : O 83 [(.i .u8 x0), (.i .i64 x1)] h = none) (hr : g83 M ro x0 x1 ⟨h, h.length, h.length⟩ = some r) : callX ⟨F, O⟩ ro 83 [(.i .u8 x0), (.i .i64 x1)] h = some r := by
  refine callX_of (F := ⟨F, O⟩) (fn := fn83) (g := g83 M ro x0 x1) ho rfl rfl hr ?_
  clear ho
  clear hr
  intro m0 t0 ht hr
  have g0 : t0.get 0 = (.i .u8 x0) := ht 0
  have g1 : t0.get 1 = (.i .i64 x1) := ht 1
  clear ht
  unfold g83 at hr
  refine w_seq ?_
  refine w_ops ?_
  refine wo_step (v := (.i .i64 0)) (s_pure (p_mv rfl)) ?_
  refine wo_nil ?_
  refine nx_norm ?_
  refine w_seq ?_
  refine w_ops ?_
  refine wo_step (v := (.i .u8 x0)) (s_pure (p_mv g0)) ?_
  refine wo_step (v := (.i .i64 x1)) (s_pure (p_mv g1)) ?_
  have hq := forceI_inv hr
  clear hr
  obtain ⟨x7, e7, hr⟩ := hq
  refine wo_step (v := (.i .i64 x7)) (s_pure (p_bin rfl rfl (b_and.trans (ci e7)))) ?_
  have hq := forceI_inv hr
  clear hr
  obtain ⟨x8, e8, hr⟩ := hq
  refine wo_step (v := (.i .i64 x8)) (s_pure (p_bin rfl rfl ((b_shl rfl).trans (ci e8)))) ?_
  refine wo_step (v := (.i .i64 x1)) (s_pure (p_mv g1)) ?_
  have hq := forceI_inv hr
  clear hr
  obtain ⟨x10, e10, hr⟩ := hq
  refine wo_step (v := (.i .i64 x10)) (s_pure (p_bin rfl rfl (b_and.trans (ci e10)))) ?_
  have hq := forceI_inv hr
  clear hr
  obtain ⟨x11, e11, hr⟩ := hq
  refine wo_step (v := (.i .i64 x11)) (s_pure (p_bin rfl rfl (b_or.trans (ci e11)))) ?_
  refine wo_step (v := (.i .i64 x1)) (s_pure (p_mv g1)) ?_
  have hq := forceI_inv hr
  clear hr
  obtain ⟨x13, e13, hr⟩ := hq
  refine wo_step (v := (.i .i64 x13)) (s_pure (p_bin rfl rfl ((b_shr rfl).trans (ci e13)))) ?_
  have hq := forceI_inv hr
  clear hr
  obtain ⟨x14, e14, hr⟩ := hq
  refine wo_step (v := (.i .i64 x14)) (s_pure (p_bin rfl rfl (b_or.trans (ci e14)))) ?_
  have hq := bindP_inv hr
  clear hr
  obtain ⟨v15, m_1, e15, hr⟩ := hq
  have hq := asI_inv hr
  clear hr
  obtain ⟨x15, rfl, hr⟩ := hq
  refine wo_step (v := (.i .i64 x15)) (s_call (mc rfl (mc rfl mn)) (callM_le hM.call e15)) ?_
  refine wo_step (v := (.i .i64 x15)) (s_pure (p_mv rfl)) ?_
  refine wo_nil ?_
  refine nx_norm ?_
  refine w_ret ?_
  exact qf ret_ok (rt rfl rn) hr

/- (dibber/weed.rule).nextExchanged -/

def g84 (M : Means) (ro : List ABlk) (x0 : Int) (x1 : Int) (m0 : Mm) : Option (AVal × Heap × Nat × Nat) :=
  forceI (wr .i64 (7 - x1)) fun x7 =>
  bindP (callM M.call m0 72 [(.i .u8 x0), (.i .i64 x7)]) fun v8 m_1 =>
  asI .i64 v8 fun x8 =>
  forceI (wr .i64 (1 - x8)) fun x9 =>
  finM m0.h.length (tupA [(.i .i64 x9)]) m_1

theorem g84_ok {ro : List ABlk} {O : Caller} {M : Means} (hM : M.Ok ⟨F, O⟩ ro) {x0 x1 h r} (ho : O 84 [(.i .u8 x0), (.i .i64 x1)] h = none) (hr : g84 M ro x0 x1 ⟨h, h.length, h.length⟩ = some r) : callX ⟨F, O⟩ ro 84 [(.i .u8 x0), (.i .i64 x1)] h = some r := by
  refine callX_of (F := ⟨F, O⟩) (fn := fn84) (g := g84 M ro x0 x1) ho rfl rfl hr ?_
  clear ho
  clear hr
  intro m0 t0 ht hr
  have g0 : t0.get 0 = (.i .u8 x0) := ht 0
  have g1 : t0.get 1 = (.i .i64 x1) := ht 1
  clear ht
  unfold g84 at hr
  refine w_seq ?_
  refine w_ops ?_
  refine wo_step (v := (.i .i64 0)) (s_pure (p_mv rfl)) ?_
  refine wo_nil ?_
  refine nx_norm ?_
  refine w_seq ?_
  refine w_ops ?_
  refine wo_step (v := (.i .u8 x0)) (s_pure (p_mv g0)) ?_
  refine wo_step (v := (.i .i64 x1)) (s_pure (p_mv g1)) ?_
  have hq := forceI_inv hr
  clear hr
  obtain ⟨x7, e7, hr⟩ := hq
  refine wo_step (v := (.i .i64 x7)) (s_pure (p_bin rfl rfl (b_sub.trans (ci e7)))) ?_
  have hq := bindP_inv hr
  clear hr
  obtain ⟨v8, m_1, e8, hr⟩ := hq
  have hq := asI_inv hr
  clear hr
  obtain ⟨x8, rfl, hr⟩ := hq
  refine wo_step (v := (.i .i64 x8)) (s_call (mc rfl (mc rfl mn)) (callM_le hM.call e8)) ?_
  have hq := forceI_inv hr
  clear hr
  obtain ⟨x9, e9, hr⟩ := hq
  refine wo_step (v := (.i .i64 x9)) (s_pure (p_bin rfl rfl (b_sub.trans (ci e9)))) ?_
  refine wo_step (v := (.i .i64 x9)) (s_pure (p_mv rfl)) ?_
  refine wo_nil ?_
  refine nx_norm ?_
  refine w_ret ?_
  exact qf ret_ok (rt rfl rn) hr

end Go.Proofs.Ytjjinlljdfaipaa.W
